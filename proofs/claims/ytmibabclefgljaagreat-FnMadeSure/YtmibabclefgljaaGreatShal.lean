/- RecZj RecZk -/
import Derived.Test.YtmibabclefgljaaGreatShak
import Derived.Test.YtmibabclefgljaaGreatShai
set_option linter.unusedVariables false
set_option linter.unusedSimpArgs false
set_option maxRecDepth 100000
set_option maxHeartbeats 4000000
namespace Go.Proofs.YtmibabclefgljaaGreat
open Go in
abbrev qO10:Oper:={dst:=some 111,op:=Op.call {callee:=Callee.value (Operand.func 141),args:=#[Operand.tmp 102,Operand.tmp 110],argTypes:=#[37,73]},type:=37,pos:= "l08_record.go:133",after:=#[{on:=4,ground:=Ground.data},{on:=12,ground:=Ground.data}],guard:=none}
open Go in
abbrev qO11:Oper:={dst:=some 112,op:=Op.nilCheck (Operand.tmp 98),type:=0,pos:= "l08_record.go:133",after:=#[{on:=0,ground:=Ground.data},{on:=0,ground:=Ground.phase},{on:=1,ground:=Ground.phase},{on:=2,ground:=Ground.phase},{on:=3,ground:=Ground.phase},{on:=4,ground:=Ground.phase},{on:=5,ground:=Ground.phase},{on:=6,ground:=Ground.phase},{on:=7,ground:=Ground.phase},{on:=8,ground:=Ground.phase},{on:=9,ground:=Ground.phase},{on:=10,ground:=Ground.phase},{on:=11,ground:=Ground.phase},{on:=12,ground:=Ground.phase},{on:=13,ground:=Ground.phase}],guard:=none}
open Go in
abbrev qO12:Oper:={dst:=none,op:=Op.store 37 (Operand.tmp 113) (Operand.tmp 111),type:=0,pos:= "l08_record.go:133",after:=#[{on:=15,ground:=Ground.data},{on:=13,ground:=Ground.data},{on:=13,ground:=Ground.chain},{on:=0,ground:=Ground.phase},{on:=1,ground:=Ground.phase},{on:=2,ground:=Ground.phase},{on:=3,ground:=Ground.phase},{on:=4,ground:=Ground.phase},{on:=5,ground:=Ground.phase},{on:=6,ground:=Ground.phase},{on:=7,ground:=Ground.phase},{on:=8,ground:=Ground.phase},{on:=9,ground:=Ground.phase},{on:=10,ground:=Ground.phase},{on:=11,ground:=Ground.phase},{on:=12,ground:=Ground.phase},{on:=13,ground:=Ground.phase}],guard:=none}
namespace fx
open Go Go.RowKit
theorem mE{P:Program}{ops:Array Oper}{o:Oper}{a:Act}{w:World}{K:Act→World→Prop}{Q:Exit→Act→World→Prop}{E:Prop}(qC:o.guard=none)(f:FuncId)(x y:Operand)(ts:Array TypeId)
 (ho:o.op=.call {callee:=.value (.func f),args:=#[x,y],argTypes:=ts}) (uN:∀args w,(callFunc f args).run P w=.ok (.enter f args) w)
 (v1 v2:Value) (h1:a.eval x=v1) (h2:a.eval y=v2) (R:Ending→World→Prop) (hc:Calls P f #[v1,v2] w R)
 (h:∀e w',R e w'→∃v,e=.returned v∧K (a.put o.dst v) w'):
 if Region.wanted o (yielded ops a.tmps)=true then Oper.wp P o a w K Q else E:=by
 have hw:Region.wanted o (yielded ops a.tmps)=true:=by simp[Region.wanted,qC]
 rw[if_pos hw];unfold Oper.wp execOp;have hf:a.eval (.func f)=.func (.func f) #[] #[]:=rfl;have Jf:(Deferred.ofValue (Value.func (Fn.func f) #[] #[]) #[v1,v2]).run P w=.ok {target:=.fn (.func f) #[],args:=#[v1,v2]} w:=rfl;simp only[ho,resolve,invoke,Sem.run_bind,List.map_toArray,List.map_cons,List.map_nil,h1,h2,hf,Jf,Result.andThen_ok,uN];show Calls P f #[v1,v2] w _;exact hc.mono (fun e w' he=>by obtain⟨v,rfl,hr⟩:=h e w' he; exact hr)
end fx
namespace aZ
open Go Go.RowKit base av aN
theorem AW(N:Prop)(w0:World)(F0:List Nat)(w:World)(X:Nat)(am:Option Addr)(nm cm:Nat)(ah:Option Addr)(ch:Nat)(vs:Value)(s:St)(hs:List Value)(tx:Int)(a:Option Addr)(len cap:Nat)(ops:List Od)
 (hK:Kept N w0 F0 w X am nm cm ah ch vs s hs) (dE:dD w a len ops) (dG:∀p∈ops,p.2.1.size≤1099511627776) (bD:bf (2,tx,ops)=true) (k:Nat) (Lb:s.2.1.length≤1099511627776) (gd:aH tx s.2.1=some k) (AB:s.1.length≤60) (h8:(bS s.2.1 k).length≤8) (zF:(aG s.1 (bS s.2.1 k)).length≤60):
 Calls Tryz.prog 98 #[.pointer (some ⟨X,0,none⟩),.agg #[.int .i64 2,.int .i64 tx,.slice a len cap]] w (ga N w0 F0 X (some (aG s.1 (bS s.2.1 k),s.2.1.take k++s.2.1.drop (k+1),s.2.2))):=by
 obtain⟨i0,hi,dm,dk,cA⟩:=info_parts mA;have kA:=iV gd;obtain⟨gh,rfl⟩:∃gh,ah=some ⟨gh,0,none⟩:=by
  rcases hK.held.shape with⟨_,e,_⟩ | ⟨g,c,e,_⟩
  · rw[e] at kA; cases kA
  · cases e; exact⟨g,rfl⟩
 have uQ:=hK.held.len;have Zs:=hK.held.room;have nr:k+1≤s.2.1.length:=kA;have Ft:(aX (s.2.1.take k) (hs.take k)).length=k * 3:=by rw[dO _ _ (by simp[uQ])]; simp; omega
 have o9:(aX (s.2.1.drop (k+1)) (hs.drop (k+1))).length=(s.2.1.length - (k+1)) * 3:=by rw[dO _ _ (by simp[uQ])]; simp
 have AR:∀y∈hs.take k,y.oneCell'=true:=fun y hy=>hK.held.one y (List.mem_of_mem_take hy)
 have AS:∀y∈hs.drop (k+1),y.oneCell'=true:=fun y hy=>hK.held.one y (List.mem_of_mem_drop hy)
 have fD:0+k≤maxLen:=by unfold maxLen; omega
 have jX:(0+k) * 40≤140737488355328:=by omega
 have je:k+(s.2.1.length - (k+1))≤maxLen:=by unfold maxLen; omega
 have eG:(k+(s.2.1.length - (k+1))) * 40≤140737488355328:=by omega
 have UN:maxLen=9223372036854775807:=rfl;obtain⟨ad,EB⟩:∃ad:Addr,(if ch=k+1 then some (⟨gh,0,none⟩:Addr) else some ⟨gh,(k+1) * 3,none⟩)=some ad:=by split <;> exact⟨_,rfl⟩
 have Sa:Hid (∀wq:World,bm wq 0 (.slice (some ⟨gh,0,none⟩) s.2.1.length ch) s.2.1 hs→∀j u,(aX (s.2.1.drop (k+1)) (hs.drop (k+1)))[j]? =some u→wq.cell? (ad.add j)=some u):=by
  intro wq hq j u hu
  split at EB
  · have:s.2.1.drop (k+1)=[]:=List.drop_eq_nil_of_le (by omega)
    rw[this] at hu;simp[aX] at hu
  · cases EB;exact hq.rQ (k+1) nr j u hu
 have Sb:=Hid.mk' EB;clear EB;have fL:(k:Int)<(s.2.1.length:Int):=by omega
 have B8:¬(k:Int)<0:=by omega
 obtain⟨pa,pc,Hg,LK,_⟩:=(hK.held.ops k kA).sl;have O5:Hid (∀wq:World,bm wq 0 (.slice (some ⟨gh,0,none⟩) s.2.1.length ch) s.2.1 hs→wq.cell? ⟨gh,k * 3+2,none⟩=some (.slice pa (bS s.2.1 k).length pc)):=fun wq hq=>by
  rw[lT kA,(hq.at k kA).2.2,Hg]
 have Sg:Hid (∀wq:World,Below w.heap.size w wq→dD wq pa (bS s.2.1 k).length (bS s.2.1 k)):=fun wq hb=>by rw[lT kA]; exact LK.below hb
 clear Hg LK;obtain⟨sa,sc,jC,yQ⟩:=hK.seen.sl;subst jC;obtain⟨V,hV⟩:∃V,V=w.alloc (.cells #[.int .i64 2,.int .i64 tx,.slice a len cap] 98):=⟨_,rfl⟩;have fb:Below w.heap.size w V:=by rw[hV]; exact(Below.refl _ _).alloc (Nat.le_refl _) _
 have bt:da w.heap.size 2 tx (.slice a len cap) V:=by rw[hV]; exact cd _ _ _ _
 have gK:=hK.below fb;have iN:=gK.box.lt;have lS:=bt.lt;have y1:=last.On.cell (B:=V.heap.size) gK.box.cells.2.1 iN;have y2:=last.On.cell (B:=V.heap.size) bt.cells.2.1 lS;have lv:∀x9:last.On V.heap.size V,Calls Tryz.prog 137 #[.slice (some ⟨gh,0,none⟩) s.2.1.length ch,.int .i64 tx] x9.w fun e w'=>e=.returned (.int .i64 (fw (aH tx s.2.1)))∧∃y9:last.On V.heap.size V,w'=y9.w:=fun x9=>last.Calls.on x9 (Nat.le_refl _) ((ed _ _ ch s.2.1 tx x9.w (gK.held.below x9.2).sl).mono (fun e w' h=>⟨h.1,h.2 ▸ Below.refl _ _⟩))
 have a_:=last.On.gV V.heap.size V;have HV:=Hid.mk' hV.symm;clear hV;rw[gd,show fw (some k)=(k:Int) from rfl] at lv
 go_enter Tryz.func98,Tryz.ntmps98;go_wp2_with fail;rw[HV.out];refine last.ai V.heap.size (by kernel_rfl) (by kernel_rfl) ?_
 repeat(go_big_quiet_step ((go_at_call 137; with_reducible exact lv _)))
 refine wpQuiet_nil ?_;intro w1 bx;obtain⟨x1,bx⟩:=bx;have aT:Below V.heap.size V w1:=by rw[bx]; exact x1.2
 clear bx x1;have dx:=bt.below aT;have wD:=gK.below aT;have eX:=Hid.mk' (dR 2 tx a len cap ops w1 ((dE.below fb).below aT) dG);obtain⟨d0,d1,d2⟩:=dx.cells;clear y1 y2 lv a_;go_wp2_with fail;refine eX.out.mono ?_;rintro e w2 ⟨rfl,aU⟩;rw[bD];have ff:=wD.below aU;have bV:=dx.below aU;have ng:=((dE.below fb).below aT).below aU;have pg:=((yQ.below fb).below aT).below aU;clear d0 d1 d2 eX HV dx bt gK iN lS;obtain⟨d0,d1,d2⟩:=bV.cells;have lU:Below w2.heap.size w2 w2.drew:=(Below.refl _ _).drew;have tP:=ff.below lU;have Sh:=O5.out _ tP.held;have H6:=Hid.mk' (sH am nm cm s.1 pa (bS s.2.1 k).length pc (bS s.2.1 k) w2.drew tP.m.sl tP.m.spot (Sg.out _ (((fb.trans (aT.mono fb.size)).trans (aU.mono (Nat.le_trans fb.size aT.size))).trans (lU.mono (Nat.le_trans fb.size (Nat.le_trans aT.size aU.size))))) (by have:=tP.m.1; omega))
 go_wp2_with fail;refine last.aq (S:=fun w'=>fZ X (.slice am nm cm) (.slice (some ⟨gh,0,none⟩) s.2.1.length ch) (.slice sa s.2.2.length sc) w'∧w'.cell? ⟨gh,k * 3+2,none⟩=some (.slice pa (bS s.2.1 k).length pc)) 16 (by kernel_rfl) ⟨tP.box,Sh⟩ (fun af=>?_)
 refine last.wpTk 0 (.pointer (some ⟨X,0,none⟩)) rfl rfl ?_ ?_
 · intro wq ar; go_simp
 try simp only[Act.put,zP,zQ,zR]
 refine last.wpTk 1 (.pointer (some ⟨X,0,none⟩)) rfl rfl ?_ ?_
 · intro wq ar; go_simp
 try simp only[Act.put,zP,zQ,zR]
 refine last.wpTk 2 (.pointer (some ⟨X,0,none⟩)) rfl rfl ?_ ?_
 · intro wq ar; go_simp
 try simp only[Act.put,zP,zQ,zR]
 refine last.wpTk 3 (.pointer (some ⟨X,0,none⟩)) rfl rfl ?_ ?_
 · intro wq ar; go_simp
 try simp only[Act.put,zP,zQ,zR]
 refine last.wpTk 4 (.slice am nm cm) rfl rfl ?_ ?_
 · intro wq ar; have q:=ar.1.cells.1; go_simp
 try simp only[Act.put,zP,zQ,zR]
 refine last.wpTk 5 (.pointer (some ⟨X,0,none⟩)) rfl rfl ?_ ?_
 · intro wq ar; go_simp
 try simp only[Act.put,zP,zQ,zR]
 refine last.wpTk 6 (.pointer (some ⟨X,0,none⟩)) rfl rfl ?_ ?_
 · intro wq ar; go_simp
 try simp only[Act.put,zP,zQ,zR]
 refine last.wpTk 7 (.pointer (some ⟨X,1,none⟩)) rfl rfl ?_ ?_
 · intro wq ar; go_simp
 try simp only[Act.put,zP,zQ,zR]
 refine last.wpTk 8 (.slice (some ⟨gh,0,none⟩) s.2.1.length ch) rfl rfl ?_ ?_
 · intro wq ar; have q:=ar.1.cells.2.1; go_simp
 try simp only[Act.put,zP,zQ,zR]
 refine last.wpTk 9 (.int .i64 (k:Int)) rfl rfl ?_ ?_
 · intro wq ar; go_simp
 try simp only[Act.put,zP,zQ,zR]
 refine last.wpTk 10 (.pointer (some ⟨gh,k * 3,none⟩)) rfl rfl ?_ ?_
 · intro wq ar; go_simp
 try simp only[Act.put,zP,zQ,zR]
 refine last.wpTk 11 (.pointer (some ⟨gh,k * 3+2,none⟩)) rfl rfl ?_ ?_
 · intro wq ar; go_simp
 try simp only[Act.put,zP,zQ,zR]
 refine last.wpTk 12 (.slice pa (bS s.2.1 k).length pc) rfl rfl ?_ ?_
 · intro wq ar; have q:=ar.2; go_simp
 try simp only[Act.put,zP,zQ,zR]
 refine last.an (i:=13) (o:=qO10) (by kernel_rfl) rfl (fun K hK=>?_)
 refine fx.mE rfl 141 (.tmp 102) (.tmp 110) _ rfl (fun _ _=>rfl) (.slice am nm cm) (.slice pa (bS s.2.1 k).length pc) (by kernel_rfl) (by kernel_rfl) _ H6.out ?_
 rintro e w6 ⟨g6,n6,c6,rfl,dV,mj⟩;refine⟨_,rfl,?_⟩;have AP:=tP.below mj;have Jm:=O5.out _ AP.held;refine hK.out _ _ ?_ (fun ag=>?_)
 · exact⟨AP.box,Jm⟩
 clear hK K af;have af:=ag;clear ag;try simp only[Act.put,zP,zQ,zR]
 refine last.an (i:=14) (o:=qO11) (by kernel_rfl) rfl (fun K hK=>?_)
 go_simp;refine hK.out _ _ ?_ (fun ag=>?_)
 · exact af
 clear hK K af;have af:=ag;clear ag;try simp only[Act.put,zP,zQ,zR]
 refine last.wpTk 15 (.pointer (some ⟨X,0,none⟩)) rfl rfl ?_ ?_
 · intro wq ar; go_simp
 try simp only[Act.put,zP,zQ,zR]
 have e6:=AP.box.cells.1;have f6:=AP.box.fz 0;refine last.aC (o:=qO12) (by kernel_rfl) rfl (by kernel_rfl) (fun K hK=>?_)
 go_simp;refine hK.out _ _ ?_;clear hK K;have FV:=AP.av (dV.mono tP.fr.size);generalize O2:w6.setCell ⟨X,0,none⟩ (.slice (some ⟨g6,0,none⟩) n6 c6)=w9 at *;clear O2 Jm Sh e6 f6 af dV mj H6 Sg O5 lU tP AP d0 d1 d2;have vR:Below w9.heap.size w9 w9.drew:=(Below.refl _ _).drew;go_wp2_with fail;refine last.aq (S:=fun w'=>fZ X (.slice (some ⟨g6,0,none⟩) n6 c6) (.slice (some ⟨gh,0,none⟩) s.2.1.length ch) (.slice sa s.2.2.length sc) w') 19 (by kernel_rfl) (FV.box.below vR) (fun af=>?_)
 refine last.wpTk 0 (.pointer (some ⟨X,0,none⟩)) rfl rfl ?_ ?_
 · intro wq ar; go_simp
 try simp only[Act.put,zP,zQ,zR]
 refine last.wpTk 2 (.pointer (some ⟨X,0,none⟩)) rfl rfl ?_ ?_
 · intro wq ar; go_simp
 try simp only[Act.put,zP,zQ,zR]
 refine last.wpTk 3 (.pointer (some ⟨X,0,none⟩)) rfl rfl ?_ ?_
 · intro wq ar; go_simp
 try simp only[Act.put,zP,zQ,zR]
 refine last.wpTk 4 (.pointer (some ⟨X,1,none⟩)) rfl rfl ?_ ?_
 · intro wq ar; go_simp
 try simp only[Act.put,zP,zQ,zR]
 refine last.wpTk 5 (.slice (some ⟨gh,0,none⟩) s.2.1.length ch) rfl rfl ?_ ?_
 · intro wq ar; have q:=ar.cells.2.1; go_simp
 try simp only[Act.put,zP,zQ,zR]
 refine last.wpTk 6 (.int .i64 (k:Int)) rfl rfl ?_ ?_
 · intro wq ar; go_simp
 try simp only[Act.put,zP,zQ,zR]
 refine last.wpTk 7 (.slice (some ⟨gh,0,none⟩) k ch) rfl rfl ?_ ?_
 · intro wq ar; go_simp; exact fun h=>absurd h (by omega)
 try simp only[Act.put,zP,zQ,zR]
 refine last.wpTk 9 (.pointer (some ⟨X,0,none⟩)) rfl rfl ?_ ?_
 · intro wq ar; go_simp
 try simp only[Act.put,zP,zQ,zR]
 refine last.wpTk 10 (.pointer (some ⟨X,0,none⟩)) rfl rfl ?_ ?_
 · intro wq ar; go_simp
 try simp only[Act.put,zP,zQ,zR]
 refine last.wpTk 11 (.pointer (some ⟨X,1,none⟩)) rfl rfl ?_ ?_
 · intro wq ar; go_simp
 try simp only[Act.put,zP,zQ,zR]
 refine last.wpTk 12 (.slice (some ⟨gh,0,none⟩) s.2.1.length ch) rfl rfl ?_ ?_
 · intro wq ar; have q:=ar.cells.2.1; go_simp
 try simp only[Act.put,zP,zQ,zR]
 refine last.wpTk 13 (.int .i64 (k:Int)) rfl rfl ?_ ?_
 · intro wq ar; go_simp
 try simp only[Act.put,zP,zQ,zR]
 refine last.wpTk 14 (.int .i64 ((k:Int)+1)) rfl rfl ?_ ?_
 · intro wq ar; go_simp; rw[IntKind.wrap_i64]; omega
 try simp only[Act.put,zP,zQ,zR]
 refine last.wpTk 15 (.slice (some ad) (s.2.1.length - (k+1)) (ch - (k+1))) rfl rfl ?_ ?_
 · intro wq ar; go_simp; rw[if_pos ⟨by omega,by omega⟩,Sb.out]
 try simp only[Act.put,zP,zQ,zR]
 refine last.an (i:=1) (o:=qO5) (by kernel_rfl) rfl (fun K hK=>?_)
 go_simp;have xB:Below w9.heap.size w9 (w9.drew.alloc (.cells #[] 98)):=vR.alloc vR.size _;have Nx:=FV.below xB;have qG:(w9.drew.alloc (.cells #[] 98)).ownsRow w9.heap.size 98 3 (.slice (some ⟨w9.heap.size,0,none⟩) 0 0) 0 []:=World.ownsRow_made w9.drew #[] 0 (Nat.le_refl _) (Nat.zero_le _) rfl;refine hK.out _ _ ?_ (fun ag=>?_)
 · exact Nx.box
 clear hK K af;have af:=ag;clear ag;try simp only[Act.put,zP,zQ,zR]
 refine last.an (i:=8) (o:=qO6) (by kernel_rfl) rfl (fun K hK=>?_)
 refine cL rfl (.tmp 115) (.tmp 121) 41 rfl w9.heap.size 98 i0 (.agg #[.int .i64 0,.int .i64 0,.slice none 0 0]) 3 40 Tryz.underlying41 hi dm dk cA rfl (by decide) _ _ _ rfl qG ⟨gh,0,none⟩ k ch (aX (s.2.1.take k) (hs.take k)) rfl Ft (Nx.held.rP k) (dZ _ _ AR) fD jX xB.size ?_
 intro vp wp jq nT AU;simp only[Nat.zero_add,List.nil_append] at jq;obtain⟨gp,cp,Sc⟩:=iU jq (fun e=>by have:=(AU.1 e).1; cases this)
 subst Sc;have xt:(w9.drew.alloc (.cells #[] 98)).grownBy wp (some w9.heap.size):=nT;have EC:Below w9.heap.size w9 wp:=xB.grown xt xB.size (fun j e=>by cases e; exact Nat.le_refl _)
 have Jj:=FV.below EC;refine hK.out _ _ ?_ (fun ag=>?_)
 · exact Jj.box
 clear hK K af;have af:=ag;clear ag;try simp only[Act.put,zP,zQ,zR]
 refine last.an (i:=16) (o:=qO7) (by kernel_rfl) rfl (fun K hK=>?_)
 refine cL rfl (.tmp 122) (.tmp 129) 41 rfl w9.heap.size 98 i0 (.agg #[.int .i64 0,.int .i64 0,.slice none 0 0]) 3 40 Tryz.underlying41 hi dm dk cA rfl (by decide) _ _ _ rfl jq ad (s.2.1.length - (k+1)) (ch - (k+1)) (aX (s.2.1.drop (k+1)) (hs.drop (k+1))) rfl o9 (Sa.out _ Jj.held) (dZ _ _ AS) je eG EC.size ?_
 intro vr wr kL nU AV;obtain⟨gr,cr,Sd⟩:=iU kL (fun e=>by have:=(AV.1 e).1; cases this)
 subst Sd;have jF:wp.grownBy wr (some gp):=nU;have mD:Below w9.heap.size w9 wr:=EC.grown jF EC.size (fun j e=>by cases e; exact(jq.lt gp rfl).1)
 have ED:=FV.below mD;have nv:=bm.erase (l:=s.2.1) (hs:=hs) FV.held mD k kA (g':=gr) (c':=cr) (n':=k+(s.2.1.length - (k+1))) (by omega) (by
  have h9:=kL;rw[←fK _ _ _ _ (by simp[uQ])] at h9
  exact rR h9 (Nat.zero_le _))
 refine hK.out _ _ ?_ (fun ag=>?_)
 · exact ED.box
 clear hK K af;have af:=ag;clear ag;try simp only[Act.put,zP,zQ,zR]
 refine last.an (i:=17) (o:=qO8) (by kernel_rfl) rfl (fun K hK=>?_)
 go_simp;refine hK.out _ _ ?_ (fun ag=>?_)
 · exact af
 clear hK K af;have af:=ag;clear ag;try simp only[Act.put,zP,zQ,zR]
 refine last.wpTk 18 (.pointer (some ⟨X,1,none⟩)) rfl rfl ?_ ?_
 · intro wq ar; go_simp
 try simp only[Act.put,zP,zQ,zR]
 have er:=ED.box.cells.2.1;have fr:=ED.box.fz 1;refine last.aC (o:=qO9) (by kernel_rfl) rfl (by kernel_rfl) (fun K hK=>?_)
 go_simp;refine hK.out _ _ ?_;clear hK K;have Jk:w0.heap.size≤gr:=Nat.le_trans FV.fr.size (kL.lt gr rfl).1;have EE:=ED.cut nv Jk (fun y hy=>by
  rcases List.mem_append.1 hy with e | e
  · exact List.mem_of_mem_take e
  · exact List.mem_of_mem_drop e)
 have Se:(s.2.1.take k++s.2.1.drop (k+1)).length=k+(s.2.1.length - (k+1)):=by simp; omega
 rw[Se] at EE;generalize Sf:wr.setCell ⟨X,1,none⟩ (.slice (some ⟨gr,0,none⟩) (k+(s.2.1.length - (k+1))) cr)=wz at *;clear Sf nv kL jq jF xt nT nU AU AV er fr af qG;have Jl:Kept N w0 F0 wz X (some ⟨g6,0,none⟩) n6 c6 (some ⟨gr,0,none⟩) cr (.slice sa s.2.2.length sc) (aG s.1 (bS s.2.1 k),s.2.1.take k++s.2.1.drop (k+1),s.2.2) (hs.take k++hs.drop (k+1)):=EE;have Nr:(aG s.1 (bS s.2.1 k)).length=n6:=EE.m.1;obtain⟨u0,_,_⟩:=EE.box.cells;have zF:(n6:Int)≤60:=by omega
 go_wp2_with fail;go_ret;exact⟨rfl,_,_,_,_,_,_,_,Jl⟩
theorem AX(N:Prop)(w0:World)(F0:List Nat)(w:World)(X:Nat)(am:Option Addr)(nm cm:Nat)(ah:Option Addr)(ch:Nat)(vs:Value)(s:St)(hs:List Value)(tx:Int)(a:Option Addr)(len cap:Nat)(ops:List Od)
 (hK:Kept N w0 F0 w X am nm cm ah ch vs s hs) (dE:dD w a len ops) (dG:∀p∈ops,p.2.1.size≤1099511627776) (bD:bf (2,tx,ops)=true) (k:Nat) (Lb:s.2.1.length≤1099511627776) (gd:aH tx s.2.1=some k) (AB:s.1.length≤60) (h8:(bS s.2.1 k).length≤8) (zF:60<(aG s.1 (bS s.2.1 k)).length):
 Calls Tryz.prog 98 #[.pointer (some ⟨X,0,none⟩),.agg #[.int .i64 2,.int .i64 tx,.slice a len cap]] w (uM N w0 F0 X (aG s.1 (bS s.2.1 k),s.2.1.take k++s.2.1.drop (k+1),s.2.2)):=by
 obtain⟨i0,hi,dm,dk,cA⟩:=info_parts mA;have kA:=iV gd;obtain⟨gh,rfl⟩:∃gh,ah=some ⟨gh,0,none⟩:=by
  rcases hK.held.shape with⟨_,e,_⟩ | ⟨g,c,e,_⟩
  · rw[e] at kA; cases kA
  · cases e; exact⟨g,rfl⟩
 have uQ:=hK.held.len;have Zs:=hK.held.room;have nr:k+1≤s.2.1.length:=kA;have Ft:(aX (s.2.1.take k) (hs.take k)).length=k * 3:=by rw[dO _ _ (by simp[uQ])]; simp; omega
 have o9:(aX (s.2.1.drop (k+1)) (hs.drop (k+1))).length=(s.2.1.length - (k+1)) * 3:=by rw[dO _ _ (by simp[uQ])]; simp
 have AR:∀y∈hs.take k,y.oneCell'=true:=fun y hy=>hK.held.one y (List.mem_of_mem_take hy)
 have AS:∀y∈hs.drop (k+1),y.oneCell'=true:=fun y hy=>hK.held.one y (List.mem_of_mem_drop hy)
 have fD:0+k≤maxLen:=by unfold maxLen; omega
 have jX:(0+k) * 40≤140737488355328:=by omega
 have je:k+(s.2.1.length - (k+1))≤maxLen:=by unfold maxLen; omega
 have eG:(k+(s.2.1.length - (k+1))) * 40≤140737488355328:=by omega
 have UN:maxLen=9223372036854775807:=rfl;obtain⟨ad,EB⟩:∃ad:Addr,(if ch=k+1 then some (⟨gh,0,none⟩:Addr) else some ⟨gh,(k+1) * 3,none⟩)=some ad:=by split <;> exact⟨_,rfl⟩
 have Sa:Hid (∀wq:World,bm wq 0 (.slice (some ⟨gh,0,none⟩) s.2.1.length ch) s.2.1 hs→∀j u,(aX (s.2.1.drop (k+1)) (hs.drop (k+1)))[j]? =some u→wq.cell? (ad.add j)=some u):=by
  intro wq hq j u hu
  split at EB
  · have:s.2.1.drop (k+1)=[]:=List.drop_eq_nil_of_le (by omega)
    rw[this] at hu;simp[aX] at hu
  · cases EB;exact hq.rQ (k+1) nr j u hu
 have Sb:=Hid.mk' EB;clear EB;have fL:(k:Int)<(s.2.1.length:Int):=by omega
 have B8:¬(k:Int)<0:=by omega
 obtain⟨pa,pc,Hg,LK,_⟩:=(hK.held.ops k kA).sl;have O5:Hid (∀wq:World,bm wq 0 (.slice (some ⟨gh,0,none⟩) s.2.1.length ch) s.2.1 hs→wq.cell? ⟨gh,k * 3+2,none⟩=some (.slice pa (bS s.2.1 k).length pc)):=fun wq hq=>by
  rw[lT kA,(hq.at k kA).2.2,Hg]
 have Sg:Hid (∀wq:World,Below w.heap.size w wq→dD wq pa (bS s.2.1 k).length (bS s.2.1 k)):=fun wq hb=>by rw[lT kA]; exact LK.below hb
 clear Hg LK;obtain⟨sa,sc,jC,yQ⟩:=hK.seen.sl;subst jC;obtain⟨V,hV⟩:∃V,V=w.alloc (.cells #[.int .i64 2,.int .i64 tx,.slice a len cap] 98):=⟨_,rfl⟩;have fb:Below w.heap.size w V:=by rw[hV]; exact(Below.refl _ _).alloc (Nat.le_refl _) _
 have bt:da w.heap.size 2 tx (.slice a len cap) V:=by rw[hV]; exact cd _ _ _ _
 have gK:=hK.below fb;have iN:=gK.box.lt;have lS:=bt.lt;have y1:=last.On.cell (B:=V.heap.size) gK.box.cells.2.1 iN;have y2:=last.On.cell (B:=V.heap.size) bt.cells.2.1 lS;have lv:∀x9:last.On V.heap.size V,Calls Tryz.prog 137 #[.slice (some ⟨gh,0,none⟩) s.2.1.length ch,.int .i64 tx] x9.w fun e w'=>e=.returned (.int .i64 (fw (aH tx s.2.1)))∧∃y9:last.On V.heap.size V,w'=y9.w:=fun x9=>last.Calls.on x9 (Nat.le_refl _) ((ed _ _ ch s.2.1 tx x9.w (gK.held.below x9.2).sl).mono (fun e w' h=>⟨h.1,h.2 ▸ Below.refl _ _⟩))
 have a_:=last.On.gV V.heap.size V;have HV:=Hid.mk' hV.symm;clear hV;rw[gd,show fw (some k)=(k:Int) from rfl] at lv
 go_enter Tryz.func98,Tryz.ntmps98;go_wp2_with fail;rw[HV.out];refine last.ai V.heap.size (by kernel_rfl) (by kernel_rfl) ?_
 repeat(go_big_quiet_step ((go_at_call 137; with_reducible exact lv _)))
 refine wpQuiet_nil ?_;intro w1 bx;obtain⟨x1,bx⟩:=bx;have aT:Below V.heap.size V w1:=by rw[bx]; exact x1.2
 clear bx x1;have dx:=bt.below aT;have wD:=gK.below aT;have eX:=Hid.mk' (dR 2 tx a len cap ops w1 ((dE.below fb).below aT) dG);obtain⟨d0,d1,d2⟩:=dx.cells;clear y1 y2 lv a_;go_wp2_with fail;refine eX.out.mono ?_;rintro e w2 ⟨rfl,aU⟩;rw[bD];have ff:=wD.below aU;have bV:=dx.below aU;have ng:=((dE.below fb).below aT).below aU;have pg:=((yQ.below fb).below aT).below aU;clear d0 d1 d2 eX HV dx bt gK iN lS;obtain⟨d0,d1,d2⟩:=bV.cells;have lU:Below w2.heap.size w2 w2.drew:=(Below.refl _ _).drew;have tP:=ff.below lU;have Sh:=O5.out _ tP.held;have H6:=Hid.mk' (sH am nm cm s.1 pa (bS s.2.1 k).length pc (bS s.2.1 k) w2.drew tP.m.sl tP.m.spot (Sg.out _ (((fb.trans (aT.mono fb.size)).trans (aU.mono (Nat.le_trans fb.size aT.size))).trans (lU.mono (Nat.le_trans fb.size (Nat.le_trans aT.size aU.size))))) (by have:=tP.m.1; omega))
 go_wp2_with fail;refine last.aq (S:=fun w'=>fZ X (.slice am nm cm) (.slice (some ⟨gh,0,none⟩) s.2.1.length ch) (.slice sa s.2.2.length sc) w'∧w'.cell? ⟨gh,k * 3+2,none⟩=some (.slice pa (bS s.2.1 k).length pc)) 16 (by kernel_rfl) ⟨tP.box,Sh⟩ (fun af=>?_)
 refine last.wpTk 0 (.pointer (some ⟨X,0,none⟩)) rfl rfl ?_ ?_
 · intro wq ar; go_simp
 try simp only[Act.put,zP,zQ,zR]
 refine last.wpTk 1 (.pointer (some ⟨X,0,none⟩)) rfl rfl ?_ ?_
 · intro wq ar; go_simp
 try simp only[Act.put,zP,zQ,zR]
 refine last.wpTk 2 (.pointer (some ⟨X,0,none⟩)) rfl rfl ?_ ?_
 · intro wq ar; go_simp
 try simp only[Act.put,zP,zQ,zR]
 refine last.wpTk 3 (.pointer (some ⟨X,0,none⟩)) rfl rfl ?_ ?_
 · intro wq ar; go_simp
 try simp only[Act.put,zP,zQ,zR]
 refine last.wpTk 4 (.slice am nm cm) rfl rfl ?_ ?_
 · intro wq ar; have q:=ar.1.cells.1; go_simp
 try simp only[Act.put,zP,zQ,zR]
 refine last.wpTk 5 (.pointer (some ⟨X,0,none⟩)) rfl rfl ?_ ?_
 · intro wq ar; go_simp
 try simp only[Act.put,zP,zQ,zR]
 refine last.wpTk 6 (.pointer (some ⟨X,0,none⟩)) rfl rfl ?_ ?_
 · intro wq ar; go_simp
 try simp only[Act.put,zP,zQ,zR]
 refine last.wpTk 7 (.pointer (some ⟨X,1,none⟩)) rfl rfl ?_ ?_
 · intro wq ar; go_simp
 try simp only[Act.put,zP,zQ,zR]
 refine last.wpTk 8 (.slice (some ⟨gh,0,none⟩) s.2.1.length ch) rfl rfl ?_ ?_
 · intro wq ar; have q:=ar.1.cells.2.1; go_simp
 try simp only[Act.put,zP,zQ,zR]
 refine last.wpTk 9 (.int .i64 (k:Int)) rfl rfl ?_ ?_
 · intro wq ar; go_simp
 try simp only[Act.put,zP,zQ,zR]
 refine last.wpTk 10 (.pointer (some ⟨gh,k * 3,none⟩)) rfl rfl ?_ ?_
 · intro wq ar; go_simp
 try simp only[Act.put,zP,zQ,zR]
 refine last.wpTk 11 (.pointer (some ⟨gh,k * 3+2,none⟩)) rfl rfl ?_ ?_
 · intro wq ar; go_simp
 try simp only[Act.put,zP,zQ,zR]
 refine last.wpTk 12 (.slice pa (bS s.2.1 k).length pc) rfl rfl ?_ ?_
 · intro wq ar; have q:=ar.2; go_simp
 try simp only[Act.put,zP,zQ,zR]
 refine last.an (i:=13) (o:=qO10) (by kernel_rfl) rfl (fun K hK=>?_)
 refine fx.mE rfl 141 (.tmp 102) (.tmp 110) _ rfl (fun _ _=>rfl) (.slice am nm cm) (.slice pa (bS s.2.1 k).length pc) (by kernel_rfl) (by kernel_rfl) _ H6.out ?_
 rintro e w6 ⟨g6,n6,c6,rfl,dV,mj⟩;refine⟨_,rfl,?_⟩;have AP:=tP.below mj;have Jm:=O5.out _ AP.held;refine hK.out _ _ ?_ (fun ag=>?_)
 · exact⟨AP.box,Jm⟩
 clear hK K af;have af:=ag;clear ag;try simp only[Act.put,zP,zQ,zR]
 refine last.an (i:=14) (o:=qO11) (by kernel_rfl) rfl (fun K hK=>?_)
 go_simp;refine hK.out _ _ ?_ (fun ag=>?_)
 · exact af
 clear hK K af;have af:=ag;clear ag;try simp only[Act.put,zP,zQ,zR]
 refine last.wpTk 15 (.pointer (some ⟨X,0,none⟩)) rfl rfl ?_ ?_
 · intro wq ar; go_simp
 try simp only[Act.put,zP,zQ,zR]
 have e6:=AP.box.cells.1;have f6:=AP.box.fz 0;refine last.aC (o:=qO12) (by kernel_rfl) rfl (by kernel_rfl) (fun K hK=>?_)
 go_simp;refine hK.out _ _ ?_;clear hK K;have FV:=AP.av (dV.mono tP.fr.size);generalize O2:w6.setCell ⟨X,0,none⟩ (.slice (some ⟨g6,0,none⟩) n6 c6)=w9 at *;clear O2 Jm Sh e6 f6 af dV mj H6 Sg O5 lU tP AP d0 d1 d2;have vR:Below w9.heap.size w9 w9.drew:=(Below.refl _ _).drew;go_wp2_with fail;refine last.aq (S:=fun w'=>fZ X (.slice (some ⟨g6,0,none⟩) n6 c6) (.slice (some ⟨gh,0,none⟩) s.2.1.length ch) (.slice sa s.2.2.length sc) w') 19 (by kernel_rfl) (FV.box.below vR) (fun af=>?_)
 refine last.wpTk 0 (.pointer (some ⟨X,0,none⟩)) rfl rfl ?_ ?_
 · intro wq ar; go_simp
 try simp only[Act.put,zP,zQ,zR]
 refine last.wpTk 2 (.pointer (some ⟨X,0,none⟩)) rfl rfl ?_ ?_
 · intro wq ar; go_simp
 try simp only[Act.put,zP,zQ,zR]
 refine last.wpTk 3 (.pointer (some ⟨X,0,none⟩)) rfl rfl ?_ ?_
 · intro wq ar; go_simp
 try simp only[Act.put,zP,zQ,zR]
 refine last.wpTk 4 (.pointer (some ⟨X,1,none⟩)) rfl rfl ?_ ?_
 · intro wq ar; go_simp
 try simp only[Act.put,zP,zQ,zR]
 refine last.wpTk 5 (.slice (some ⟨gh,0,none⟩) s.2.1.length ch) rfl rfl ?_ ?_
 · intro wq ar; have q:=ar.cells.2.1; go_simp
 try simp only[Act.put,zP,zQ,zR]
 refine last.wpTk 6 (.int .i64 (k:Int)) rfl rfl ?_ ?_
 · intro wq ar; go_simp
 try simp only[Act.put,zP,zQ,zR]
 refine last.wpTk 7 (.slice (some ⟨gh,0,none⟩) k ch) rfl rfl ?_ ?_
 · intro wq ar; go_simp; exact fun h=>absurd h (by omega)
 try simp only[Act.put,zP,zQ,zR]
 refine last.wpTk 9 (.pointer (some ⟨X,0,none⟩)) rfl rfl ?_ ?_
 · intro wq ar; go_simp
 try simp only[Act.put,zP,zQ,zR]
 refine last.wpTk 10 (.pointer (some ⟨X,0,none⟩)) rfl rfl ?_ ?_
 · intro wq ar; go_simp
 try simp only[Act.put,zP,zQ,zR]
 refine last.wpTk 11 (.pointer (some ⟨X,1,none⟩)) rfl rfl ?_ ?_
 · intro wq ar; go_simp
 try simp only[Act.put,zP,zQ,zR]
 refine last.wpTk 12 (.slice (some ⟨gh,0,none⟩) s.2.1.length ch) rfl rfl ?_ ?_
 · intro wq ar; have q:=ar.cells.2.1; go_simp
 try simp only[Act.put,zP,zQ,zR]
 refine last.wpTk 13 (.int .i64 (k:Int)) rfl rfl ?_ ?_
 · intro wq ar; go_simp
 try simp only[Act.put,zP,zQ,zR]
 refine last.wpTk 14 (.int .i64 ((k:Int)+1)) rfl rfl ?_ ?_
 · intro wq ar; go_simp; rw[IntKind.wrap_i64]; omega
 try simp only[Act.put,zP,zQ,zR]
 refine last.wpTk 15 (.slice (some ad) (s.2.1.length - (k+1)) (ch - (k+1))) rfl rfl ?_ ?_
 · intro wq ar; go_simp; rw[if_pos ⟨by omega,by omega⟩,Sb.out]
 try simp only[Act.put,zP,zQ,zR]
 refine last.an (i:=1) (o:=qO5) (by kernel_rfl) rfl (fun K hK=>?_)
 go_simp;have xB:Below w9.heap.size w9 (w9.drew.alloc (.cells #[] 98)):=vR.alloc vR.size _;have Nx:=FV.below xB;have qG:(w9.drew.alloc (.cells #[] 98)).ownsRow w9.heap.size 98 3 (.slice (some ⟨w9.heap.size,0,none⟩) 0 0) 0 []:=World.ownsRow_made w9.drew #[] 0 (Nat.le_refl _) (Nat.zero_le _) rfl;refine hK.out _ _ ?_ (fun ag=>?_)
 · exact Nx.box
 clear hK K af;have af:=ag;clear ag;try simp only[Act.put,zP,zQ,zR]
 refine last.an (i:=8) (o:=qO6) (by kernel_rfl) rfl (fun K hK=>?_)
 refine cL rfl (.tmp 115) (.tmp 121) 41 rfl w9.heap.size 98 i0 (.agg #[.int .i64 0,.int .i64 0,.slice none 0 0]) 3 40 Tryz.underlying41 hi dm dk cA rfl (by decide) _ _ _ rfl qG ⟨gh,0,none⟩ k ch (aX (s.2.1.take k) (hs.take k)) rfl Ft (Nx.held.rP k) (dZ _ _ AR) fD jX xB.size ?_
 intro vp wp jq nT AU;simp only[Nat.zero_add,List.nil_append] at jq;obtain⟨gp,cp,Sc⟩:=iU jq (fun e=>by have:=(AU.1 e).1; cases this)
 subst Sc;have xt:(w9.drew.alloc (.cells #[] 98)).grownBy wp (some w9.heap.size):=nT;have EC:Below w9.heap.size w9 wp:=xB.grown xt xB.size (fun j e=>by cases e; exact Nat.le_refl _)
 have Jj:=FV.below EC;refine hK.out _ _ ?_ (fun ag=>?_)
 · exact Jj.box
 clear hK K af;have af:=ag;clear ag;try simp only[Act.put,zP,zQ,zR]
 refine last.an (i:=16) (o:=qO7) (by kernel_rfl) rfl (fun K hK=>?_)
 refine cL rfl (.tmp 122) (.tmp 129) 41 rfl w9.heap.size 98 i0 (.agg #[.int .i64 0,.int .i64 0,.slice none 0 0]) 3 40 Tryz.underlying41 hi dm dk cA rfl (by decide) _ _ _ rfl jq ad (s.2.1.length - (k+1)) (ch - (k+1)) (aX (s.2.1.drop (k+1)) (hs.drop (k+1))) rfl o9 (Sa.out _ Jj.held) (dZ _ _ AS) je eG EC.size ?_
 intro vr wr kL nU AV;obtain⟨gr,cr,Sd⟩:=iU kL (fun e=>by have:=(AV.1 e).1; cases this)
 subst Sd;have jF:wp.grownBy wr (some gp):=nU;have mD:Below w9.heap.size w9 wr:=EC.grown jF EC.size (fun j e=>by cases e; exact(jq.lt gp rfl).1)
 have ED:=FV.below mD;have nv:=bm.erase (l:=s.2.1) (hs:=hs) FV.held mD k kA (g':=gr) (c':=cr) (n':=k+(s.2.1.length - (k+1))) (by omega) (by
  have h9:=kL;rw[←fK _ _ _ _ (by simp[uQ])] at h9
  exact rR h9 (Nat.zero_le _))
 refine hK.out _ _ ?_ (fun ag=>?_)
 · exact ED.box
 clear hK K af;have af:=ag;clear ag;try simp only[Act.put,zP,zQ,zR]
 refine last.an (i:=17) (o:=qO8) (by kernel_rfl) rfl (fun K hK=>?_)
 go_simp;refine hK.out _ _ ?_ (fun ag=>?_)
 · exact af
 clear hK K af;have af:=ag;clear ag;try simp only[Act.put,zP,zQ,zR]
 refine last.wpTk 18 (.pointer (some ⟨X,1,none⟩)) rfl rfl ?_ ?_
 · intro wq ar; go_simp
 try simp only[Act.put,zP,zQ,zR]
 have er:=ED.box.cells.2.1;have fr:=ED.box.fz 1;refine last.aC (o:=qO9) (by kernel_rfl) rfl (by kernel_rfl) (fun K hK=>?_)
 go_simp;refine hK.out _ _ ?_;clear hK K;have Jk:w0.heap.size≤gr:=Nat.le_trans FV.fr.size (kL.lt gr rfl).1;have EE:=ED.cut nv Jk (fun y hy=>by
  rcases List.mem_append.1 hy with e | e
  · exact List.mem_of_mem_take e
  · exact List.mem_of_mem_drop e)
 have Se:(s.2.1.take k++s.2.1.drop (k+1)).length=k+(s.2.1.length - (k+1)):=by simp; omega
 rw[Se] at EE;generalize Sf:wr.setCell ⟨X,1,none⟩ (.slice (some ⟨gr,0,none⟩) (k+(s.2.1.length - (k+1))) cr)=wz at *;clear Sf nv kL jq jF xt nT nU AU AV er fr af qG;have Jl:Kept N w0 F0 wz X (some ⟨g6,0,none⟩) n6 c6 (some ⟨gr,0,none⟩) cr (.slice sa s.2.2.length sc) (aG s.1 (bS s.2.1 k),s.2.1.take k++s.2.1.drop (k+1),s.2.2) (hs.take k++hs.drop (k+1)):=EE;have Nr:(aG s.1 (bS s.2.1 k)).length=n6:=EE.m.1;obtain⟨u0,_,_⟩:=EE.box.cells;have zF:¬(n6:Int)≤60:=by omega
 go_wp2_with fail;go_ret;exact⟨rfl,_,_,_,_,_,_,_,Jl⟩
end aZ
namespace aZ
open Go Go.RowKit base av aN
theorem Jn(N:Prop)(w0:World)(F0:List Nat)(w:World)(X:Nat)(am:Option Addr)(nm cm:Nat)(ah:Option Addr)(ch:Nat)(vs:Value)(s:St)(hs:List Value)(kind tx:Int)(a:Option Addr)(len cap:Nat)(ops:List Od)
 (hK:Kept N w0 F0 w X am nm cm ah ch vs s hs) (dE:dD w a len ops) (dG:∀p∈ops,p.2.1.size≤1099511627776) (xo:h_ (kind,tx,ops)) (hlen:len≤1099511627776) (Lb:s.2.1.length≤1099511627776) (yI:s.2.2.length≤1099511627776) (AB:s.1.length≤60)
 (h8:∀k,k<s.2.1.length→(bS s.2.1 k).length≤8):
 Calls Tryz.prog 98 #[.pointer (some ⟨X,0,none⟩),.agg #[.int .i64 kind,.int .i64 tx,.slice a len cap]] w (ga N w0 F0 X (one s (kind,tx,ops))):=by
 cases bD:bf (kind,tx,ops) with
 | false=>
  have e:one s (kind,tx,ops)=none:=by unfold one; rw[bD]; rfl
  rw[e];exact L8 N w0 F0 w X am nm cm ah ch vs s hs kind tx a len cap ops hK dE dG bD
 | true=>
  have yE:kind=1∨kind=2∨kind=3:=by
   obtain⟨_,⟨h1,_⟩ | ⟨h1,_⟩⟩:=(bE _).1 bD
   · exact .inl h1
   · rcases h1 with h1 | h1
     · exact .inr (.inl h1)
     · exact .inr (.inr h1)
  rcases yE with rfl | rfl | rfl
  · have e0:one s (1,tx,ops)=if decide (tx∈s.2.2)=true∨locked s.2.1 ops=true∨meets s.1 ops=false then none else some (s.1,s.2.1++[(1,tx,ops)],s.2.2++[tx]):=by
     unfold one; rw[if_pos bD,if_pos rfl]
    rw[e0];cases h1:decide (tx∈s.2.2) with
    | true=>rw[if_pos (.inl rfl)]; exact L9 N w0 F0 w X am nm cm ah ch vs s hs tx a len cap ops hK dE dG bD h1
    | false=>
     cases h2:locked s.2.1 ops with
     | true=>rw[if_pos (.inr (.inl rfl))]; exact Dg N w0 F0 w X am nm cm ah ch vs s hs tx a len cap ops hK dE dG bD h1 h2
     | false=>
      cases h3:meets s.1 ops with
      | false=>rw[if_pos (.inr (.inr rfl))]; exact FT N w0 F0 w X am nm cm ah ch vs s hs tx a len cap ops hK dE dG bD h1 h2 h3
      | true=>rw[if_neg (by simp)]; exact AO N w0 F0 w X am nm cm ah ch vs s hs tx a len cap ops hK dE dG bD xo hlen Lb yI h1 h2 h3
  · cases gd:aH tx s.2.1 with
    | none=>
     have e0:one s (2,tx,ops)=none:=by
      unfold one; rw[if_pos bD,if_neg (by simp)]; simp only[gd]; rw[if_neg (by simp)]
     rw[e0];exact Ji N w0 F0 w X am nm cm ah ch vs s hs tx a len cap ops hK dE dG bD yI gd
    | some k=>
     have e0:one s (2,tx,ops)=if(aG s.1 (bS s.2.1 k)).length≤60 then some (aG s.1 (bS s.2.1 k),s.2.1.take k++s.2.1.drop (k+1),s.2.2) else none:=by
      unfold one; rw[if_pos bD,if_neg (by simp)]; simp only[gd]; unfold gS; simp only[if_true]
     rw[e0];have Si:=h8 k (iV gd);by_cases zF:(aG s.1 (bS s.2.1 k)).length≤60
     · rw[if_pos zF]; exact AW N w0 F0 w X am nm cm ah ch vs s hs tx a len cap ops hK dE dG bD k Lb gd AB Si zF
     · rw[if_neg zF]; exact(AX N w0 F0 w X am nm cm ah ch vs s hs tx a len cap ops hK dE dG bD k Lb gd AB Si (by omega)).mono fun e w' hp=>hp.none
  · cases gd:aH tx s.2.1 with
    | none=>
     by_cases h1:tx∈s.2.2
     · have e0:one s (3,tx,ops)=none:=by
        unfold one; rw[if_pos bD,if_neg (by simp)]; simp only[gd]; rw[if_neg (by simp[h1])]
       rw[e0];exact wF N w0 F0 w X am nm cm ah ch vs s hs tx a len cap ops hK dE dG bD yI gd (decide_eq_true h1)
     · have e0:one s (3,tx,ops)=some (s.1,s.2.1,s.2.2++[tx]):=by
        unfold one; rw[if_pos bD,if_neg (by simp)]; simp only[gd]; rw[if_pos (by simp[h1])]
       rw[e0];exact AQ N w0 F0 w X am nm cm ah ch vs s hs tx a len cap ops hK dE dG bD yI gd (decide_eq_false h1)
    | some k=>
     have e0:one s (3,tx,ops)=some (s.1,s.2.1.take k++s.2.1.drop (k+1),s.2.2):=by
      unfold one; rw[if_pos bD,if_neg (by simp)]; simp only[gd]; unfold gS; rw[if_neg (by decide:¬(3:Int)=2),if_pos AB]
     rw[e0];exact EA N w0 F0 w X am nm cm ah ch vs s hs tx a len cap ops hK dE dG bD k Lb gd AB
structure uR (k:Nat) (s:St):Prop where
 jB:s.1.length≤60
 held:s.2.1.length≤k
 seen:s.2.2.length≤k
 ok:∀r∈s.2.1,bf r=true
theorem pZ:uR 0 ([],[],[]):=⟨Nat.zero_le _,Nat.le_refl _,Nat.le_refl _,fun _ h=>absurd h List.not_mem_nil⟩
theorem uR.eight{k:Nat}{s:St}(h:uR k s):∀j,j<s.2.1.length→(bS s.2.1 j).length≤8:=by
 intro j hj;rw[lT hj];rcases((bE _).1 (h.ok _ (List.getElem_mem hj))).2 with⟨_,h2⟩ | ⟨_,h2⟩
 · exact((bq _).1 h2).2.2
 · rw[h2]; simp
theorem uR.step{k:Nat}{s t:St}{r:Rc}(h:uR k s)(ho:one s r=some t):uR (k+1) t:=by
 unfold one at ho
 split at ho
 · next bD=>
   split at ho
   · split at ho
     · cases ho
     · cases ho;refine⟨h.jB,by have:=h.held; simp; omega,by have:=h.seen; simp; omega,fun x hx=>?_⟩
       rcases List.mem_append.1 hx with h1 | h1
       · exact h.ok x h1
       · rw[List.mem_singleton.1 h1]; exact bD
   · split at ho
     · split at ho
       · cases ho;exact⟨h.jB,by have:=h.held; simp; omega,by have:=h.seen; simp; omega,h.ok⟩
       · cases ho
     · split at ho
       · next zF=>
         cases ho;refine⟨zF,by have:=h.held; simp; omega,by have:=h.seen; simp; omega,fun x hx=>?_⟩
         rcases List.mem_append.1 hx with h1 | h1
         · exact h.ok x (List.mem_of_mem_take h1)
         · exact h.ok x (List.mem_of_mem_drop h1)
       · cases ho
 · cases ho
end aZ
end Go.Proofs.YtmibabclefgljaaGreat
