/- RecZi -/
import Derived.Test.YtmibabclefgljaaGreatShaj
set_option linter.unusedVariables false
set_option linter.unusedSimpArgs false
namespace Go.Proofs.YtmibabclefgljaaGreat
open Go in
abbrev qO5:Oper:={dst:=some 115,op:=Op.buildSlice 41 0 #[],type:=41,pos:= "l08_record.go:135",after:=#[],guard:=none}
open Go in
abbrev qO6:Oper:={dst:=some 122,op:=Op.call {callee:=Callee.builtin Builtin.append,args:=#[Operand.tmp 115,Operand.tmp 121],argTypes:=#[41,41]},type:=41,pos:= "l08_record.go:135",after:=#[{on:=1,ground:=Ground.data},{on:=7,ground:=Ground.data}],guard:=none}
open Go in
abbrev qO7:Oper:={dst:=some 130,op:=Op.call {callee:=Callee.builtin Builtin.append,args:=#[Operand.tmp 122,Operand.tmp 129],argTypes:=#[41,41]},type:=41,pos:= "l08_record.go:135",after:=#[{on:=8,ground:=Ground.data},{on:=15,ground:=Ground.data},{on:=8,ground:=Ground.chain}],guard:=none}
open Go in
abbrev qO8:Oper:={dst:=some 131,op:=Op.nilCheck (Operand.tmp 114),type:=0,pos:= "l08_record.go:135",after:=#[{on:=0,ground:=Ground.data},{on:=0,ground:=Ground.phase},{on:=1,ground:=Ground.phase},{on:=2,ground:=Ground.phase},{on:=3,ground:=Ground.phase},{on:=4,ground:=Ground.phase},{on:=5,ground:=Ground.phase},{on:=6,ground:=Ground.phase},{on:=7,ground:=Ground.phase},{on:=8,ground:=Ground.phase},{on:=9,ground:=Ground.phase},{on:=10,ground:=Ground.phase},{on:=11,ground:=Ground.phase},{on:=12,ground:=Ground.phase},{on:=13,ground:=Ground.phase},{on:=14,ground:=Ground.phase},{on:=15,ground:=Ground.phase},{on:=16,ground:=Ground.phase}],guard:=none}
open Go in
abbrev qO9:Oper:={dst:=none,op:=Op.store 41 (Operand.tmp 132) (Operand.tmp 130),type:=0,pos:= "l08_record.go:135",after:=#[{on:=18,ground:=Ground.data},{on:=16,ground:=Ground.data},{on:=16,ground:=Ground.chain},{on:=0,ground:=Ground.phase},{on:=1,ground:=Ground.phase},{on:=2,ground:=Ground.phase},{on:=3,ground:=Ground.phase},{on:=4,ground:=Ground.phase},{on:=5,ground:=Ground.phase},{on:=6,ground:=Ground.phase},{on:=7,ground:=Ground.phase},{on:=8,ground:=Ground.phase},{on:=9,ground:=Ground.phase},{on:=10,ground:=Ground.phase},{on:=11,ground:=Ground.phase},{on:=12,ground:=Ground.phase},{on:=13,ground:=Ground.phase},{on:=14,ground:=Ground.phase},{on:=15,ground:=Ground.phase},{on:=16,ground:=Ground.phase}],guard:=none}
namespace aZ
open Go Go.RowKit base av aN
theorem rR{w:World}{base base':Nat}{e:TypeId}{size:Nat}{v:Value}{n:Nat}{xs:List Value}(h:w.ownsRow base e size v n xs)(hb:base'≤base):w.ownsRow base' e size v n xs:=by
 refine⟨h.1,?_⟩;rcases h.2 with h' | ⟨g,cap,cur,rfl,h0,r⟩
 · exact .inl h'
 · exact .inr ⟨g,cap,cur,rfl,by omega,r⟩
set_option maxRecDepth 100000 in
set_option maxHeartbeats 4000000 in
theorem EA(N:Prop)(w0:World)(F0:List Nat)(w:World)(X:Nat)(am:Option Addr)(nm cm:Nat)(ah:Option Addr)(ch:Nat)(vs:Value)(s:St)(hs:List Value)(tx:Int)(a:Option Addr)(len cap:Nat)(ops:List Od)
 (hK:Kept N w0 F0 w X am nm cm ah ch vs s hs) (dE:dD w a len ops) (dG:∀p∈ops,p.2.1.size≤1099511627776) (bD:bf (3,tx,ops)=true) (k:Nat) (Lb:s.2.1.length≤1099511627776) (gd:aH tx s.2.1=some k) (AB:s.1.length≤60):
 Calls Tryz.prog 98 #[.pointer (some ⟨X,0,none⟩),.agg #[.int .i64 3,.int .i64 tx,.slice a len cap]] w (ga N w0 F0 X (some (s.1,s.2.1.take k++s.2.1.drop (k+1),s.2.2))):=by
 obtain⟨i0,hi,dm,dk,cA⟩:=info_parts mA;have kA:=iV gd;obtain⟨gh,rfl⟩:∃gh,ah=some ⟨gh,0,none⟩:=by
  rcases hK.held.shape with⟨_,e,_⟩ | ⟨g,c,e,_⟩
  · rw[e] at kA; cases kA
  · cases e; exact⟨g,rfl⟩
 have uQ:=hK.held.len;have Zs:=hK.held.room;have nr:k+1≤s.2.1.length:=kA;have Ft:(aX (s.2.1.take k) (hs.take k)).length=k * 3:=by rw[dO _ _ (by simp[uQ])]; simp; omega
 have o9:(aX (s.2.1.drop (k+1)) (hs.drop (k+1))).length=(s.2.1.length - (k+1)) * 3:=by rw[dO _ _ (by simp[uQ])]; simp
 have AR:∀y∈hs.take k,y.oneCell'=true:=fun y hy=>hK.held.one y (List.mem_of_mem_take hy)
 have AS:∀y∈hs.drop (k+1),y.oneCell'=true:=fun y hy=>hK.held.one y (List.mem_of_mem_drop hy)
 have fD:0+k≤maxLen:=by unfold maxLen; omega
 have jX:(0+k) * 40≤140737488355328:=by omega
 have je:k+(s.2.1.length - (k+1))≤maxLen:=by unfold maxLen; omega
 have eG:(k+(s.2.1.length - (k+1))) * 40≤140737488355328:=by omega
 have UN:maxLen=9223372036854775807:=rfl;obtain⟨ad,EB⟩:∃ad:Addr,(if ch=k+1 then some (⟨gh,0,none⟩:Addr) else some ⟨gh,(k+1) * 3,none⟩)=some ad:=by split <;> exact⟨_,rfl⟩
 have Sa:Hid (∀wq:World,bm wq 0 (.slice (some ⟨gh,0,none⟩) s.2.1.length ch) s.2.1 hs→∀j u,(aX (s.2.1.drop (k+1)) (hs.drop (k+1)))[j]? =some u→wq.cell? (ad.add j)=some u):=by
  intro wq hq j u hu
  split at EB
  · have:s.2.1.drop (k+1)=[]:=List.drop_eq_nil_of_le (by omega)
    rw[this] at hu;simp[aX] at hu
  · cases EB;exact hq.rQ (k+1) nr j u hu
 have Sb:=Hid.mk' EB;clear EB;have fL:(k:Int)<(s.2.1.length:Int):=by omega
 have B8:¬(k:Int)<0:=by omega
 obtain⟨sa,sc,jC,yQ⟩:=hK.seen.sl;subst jC;obtain⟨V,hV⟩:∃V,V=w.alloc (.cells #[.int .i64 3,.int .i64 tx,.slice a len cap] 98):=⟨_,rfl⟩;have fb:Below w.heap.size w V:=by rw[hV]; exact(Below.refl _ _).alloc (Nat.le_refl _) _
 have bt:da w.heap.size 3 tx (.slice a len cap) V:=by rw[hV]; exact cd _ _ _ _
 have gK:=hK.below fb;have iN:=gK.box.lt;have lS:=bt.lt;have y1:=last.On.cell (B:=V.heap.size) gK.box.cells.2.1 iN;have y2:=last.On.cell (B:=V.heap.size) bt.cells.2.1 lS;have lv:∀x9:last.On V.heap.size V,Calls Tryz.prog 137 #[.slice (some ⟨gh,0,none⟩) s.2.1.length ch,.int .i64 tx] x9.w fun e w'=>e=.returned (.int .i64 (fw (aH tx s.2.1)))∧∃y9:last.On V.heap.size V,w'=y9.w:=fun x9=>last.Calls.on x9 (Nat.le_refl _) ((ed _ _ ch s.2.1 tx x9.w (gK.held.below x9.2).sl).mono (fun e w' h=>⟨h.1,h.2 ▸ Below.refl _ _⟩))
 have a_:=last.On.gV V.heap.size V;have HV:=Hid.mk' hV.symm;clear hV;rw[gd,show fw (some k)=(k:Int) from rfl] at lv
 go_enter Tryz.func98,Tryz.ntmps98;go_wp2_with fail;rw[HV.out];refine last.ai V.heap.size (by kernel_rfl) (by kernel_rfl) ?_
 repeat(go_big_quiet_step ((go_at_call 137; with_reducible exact lv _)))
 refine wpQuiet_nil ?_;intro w1 bx;obtain⟨x1,bx⟩:=bx;have aT:Below V.heap.size V w1:=by rw[bx]; exact x1.2
 clear bx x1;have dx:=bt.below aT;have wD:=gK.below aT;have eX:=Hid.mk' (dR 3 tx a len cap ops w1 ((dE.below fb).below aT) dG);obtain⟨d0,d1,d2⟩:=dx.cells;clear y1 y2 lv a_;go_wp2_with fail;refine eX.out.mono ?_;rintro e w2 ⟨rfl,aU⟩;rw[bD];have ff:=wD.below aU;have bV:=dx.below aU;have ng:=((dE.below fb).below aT).below aU;have pg:=((yQ.below fb).below aT).below aU;clear d0 d1 d2 eX HV dx bt gK iN lS;obtain⟨d0,d1,d2⟩:=bV.cells;have vR:Below w2.heap.size w2 w2.drew:=(Below.refl _ _).drew;go_wp2_with fail;refine last.aq (S:=fun w'=>fZ X (.slice am nm cm) (.slice (some ⟨gh,0,none⟩) s.2.1.length ch) (.slice sa s.2.2.length sc) w') 19 (by kernel_rfl) (ff.box.below vR) (fun af=>?_)
 refine last.wpTk 0 (.pointer (some ⟨X,0,none⟩)) rfl rfl ?_ ?_
 · intro wq ar; go_simp
 try simp only[Act.put,zP,zQ,zR]
 refine last.wpTk 2 (.pointer (some ⟨X,0,none⟩)) rfl rfl ?_ ?_
 · intro wq ar; go_simp
 try simp only[Act.put,zP,zQ,zR]
 refine last.wpTk 3 (.pointer (some ⟨X,0,none⟩)) rfl rfl ?_ ?_
 · intro wq ar; go_simp
 try simp only[Act.put,zP,zQ,zR]
 refine last.wpTk 4 (.pointer (some ⟨X,1,none⟩)) rfl rfl ?_ ?_
 · intro wq ar; go_simp
 try simp only[Act.put,zP,zQ,zR]
 refine last.wpTk 5 (.slice (some ⟨gh,0,none⟩) s.2.1.length ch) rfl rfl ?_ ?_
 · intro wq ar; have q:=ar.cells.2.1; go_simp
 try simp only[Act.put,zP,zQ,zR]
 refine last.wpTk 6 (.int .i64 (k:Int)) rfl rfl ?_ ?_
 · intro wq ar; go_simp
 try simp only[Act.put,zP,zQ,zR]
 refine last.wpTk 7 (.slice (some ⟨gh,0,none⟩) k ch) rfl rfl ?_ ?_
 · intro wq ar; go_simp; exact fun h=>absurd h (by omega)
 try simp only[Act.put,zP,zQ,zR]
 refine last.wpTk 9 (.pointer (some ⟨X,0,none⟩)) rfl rfl ?_ ?_
 · intro wq ar; go_simp
 try simp only[Act.put,zP,zQ,zR]
 refine last.wpTk 10 (.pointer (some ⟨X,0,none⟩)) rfl rfl ?_ ?_
 · intro wq ar; go_simp
 try simp only[Act.put,zP,zQ,zR]
 refine last.wpTk 11 (.pointer (some ⟨X,1,none⟩)) rfl rfl ?_ ?_
 · intro wq ar; go_simp
 try simp only[Act.put,zP,zQ,zR]
 refine last.wpTk 12 (.slice (some ⟨gh,0,none⟩) s.2.1.length ch) rfl rfl ?_ ?_
 · intro wq ar; have q:=ar.cells.2.1; go_simp
 try simp only[Act.put,zP,zQ,zR]
 refine last.wpTk 13 (.int .i64 (k:Int)) rfl rfl ?_ ?_
 · intro wq ar; go_simp
 try simp only[Act.put,zP,zQ,zR]
 refine last.wpTk 14 (.int .i64 ((k:Int)+1)) rfl rfl ?_ ?_
 · intro wq ar; go_simp; rw[IntKind.wrap_i64]; omega
 try simp only[Act.put,zP,zQ,zR]
 refine last.wpTk 15 (.slice (some ad) (s.2.1.length - (k+1)) (ch - (k+1))) rfl rfl ?_ ?_
 · intro wq ar; go_simp; rw[if_pos ⟨by omega,by omega⟩,Sb.out]
 try simp only[Act.put,zP,zQ,zR]
 refine last.an (i:=1) (o:=qO5) (by kernel_rfl) rfl (fun K hK=>?_)
 go_simp;have xB:Below w2.heap.size w2 (w2.drew.alloc (.cells #[] 98)):=vR.alloc vR.size _;have Nx:=ff.below xB;have qG:(w2.drew.alloc (.cells #[] 98)).ownsRow w2.heap.size 98 3 (.slice (some ⟨w2.heap.size,0,none⟩) 0 0) 0 []:=World.ownsRow_made w2.drew #[] 0 (Nat.le_refl _) (Nat.zero_le _) rfl;refine hK.out _ _ ?_ (fun ag=>?_)
 · exact Nx.box
 clear hK K af;have af:=ag;clear ag;try simp only[Act.put,zP,zQ,zR]
 refine last.an (i:=8) (o:=qO6) (by kernel_rfl) rfl (fun K hK=>?_)
 refine cL rfl (.tmp 115) (.tmp 121) 41 rfl w2.heap.size 98 i0 (.agg #[.int .i64 0,.int .i64 0,.slice none 0 0]) 3 40 Tryz.underlying41 hi dm dk cA rfl (by decide) _ _ _ rfl qG ⟨gh,0,none⟩ k ch (aX (s.2.1.take k) (hs.take k)) rfl Ft (Nx.held.rP k) (dZ _ _ AR) fD jX xB.size ?_
 intro vp wp jq nT AU;simp only[Nat.zero_add,List.nil_append] at jq;obtain⟨gp,cp,Sc⟩:=iU jq (fun e=>by have:=(AU.1 e).1; cases this)
 subst Sc;have xt:(w2.drew.alloc (.cells #[] 98)).grownBy wp (some w2.heap.size):=nT;have EC:Below w2.heap.size w2 wp:=xB.grown xt xB.size (fun j e=>by cases e; exact Nat.le_refl _)
 have Jj:=ff.below EC;refine hK.out _ _ ?_ (fun ag=>?_)
 · exact Jj.box
 clear hK K af;have af:=ag;clear ag;try simp only[Act.put,zP,zQ,zR]
 refine last.an (i:=16) (o:=qO7) (by kernel_rfl) rfl (fun K hK=>?_)
 refine cL rfl (.tmp 122) (.tmp 129) 41 rfl w2.heap.size 98 i0 (.agg #[.int .i64 0,.int .i64 0,.slice none 0 0]) 3 40 Tryz.underlying41 hi dm dk cA rfl (by decide) _ _ _ rfl jq ad (s.2.1.length - (k+1)) (ch - (k+1)) (aX (s.2.1.drop (k+1)) (hs.drop (k+1))) rfl o9 (Sa.out _ Jj.held) (dZ _ _ AS) je eG EC.size ?_
 intro vr wr kL nU AV;obtain⟨gr,cr,Sd⟩:=iU kL (fun e=>by have:=(AV.1 e).1; cases this)
 subst Sd;have jF:wp.grownBy wr (some gp):=nU;have mD:Below w2.heap.size w2 wr:=EC.grown jF EC.size (fun j e=>by cases e; exact(jq.lt gp rfl).1)
 have ED:=ff.below mD;have nv:=bm.erase (l:=s.2.1) (hs:=hs) ff.held mD k kA (g':=gr) (c':=cr) (n':=k+(s.2.1.length - (k+1))) (by omega) (by
  have h9:=kL;rw[←fK _ _ _ _ (by simp[uQ])] at h9
  exact rR h9 (Nat.zero_le _))
 refine hK.out _ _ ?_ (fun ag=>?_)
 · exact ED.box
 clear hK K af;have af:=ag;clear ag;try simp only[Act.put,zP,zQ,zR]
 refine last.an (i:=17) (o:=qO8) (by kernel_rfl) rfl (fun K hK=>?_)
 go_simp;refine hK.out _ _ ?_ (fun ag=>?_)
 · exact af
 clear hK K af;have af:=ag;clear ag;try simp only[Act.put,zP,zQ,zR]
 refine last.wpTk 18 (.pointer (some ⟨X,1,none⟩)) rfl rfl ?_ ?_
 · intro wq ar; go_simp
 try simp only[Act.put,zP,zQ,zR]
 have er:=ED.box.cells.2.1;have fr:=ED.box.fz 1;refine last.aC (o:=qO9) (by kernel_rfl) rfl (by kernel_rfl) (fun K hK=>?_)
 go_simp;refine hK.out _ _ ?_;clear hK K;have Jk:w0.heap.size≤gr:=Nat.le_trans ff.fr.size (kL.lt gr rfl).1;have EE:=ED.cut nv Jk (fun y hy=>by
  rcases List.mem_append.1 hy with e | e
  · exact List.mem_of_mem_take e
  · exact List.mem_of_mem_drop e)
 have Se:(s.2.1.take k++s.2.1.drop (k+1)).length=k+(s.2.1.length - (k+1)):=by simp; omega
 rw[Se] at EE;generalize Sf:wr.setCell ⟨X,1,none⟩ (.slice (some ⟨gr,0,none⟩) (k+(s.2.1.length - (k+1))) cr)=wz at *;clear Sf nv kL jq jF xt nT nU AU AV er fr af qG;have Jl:Kept N w0 F0 wz X am nm cm (some ⟨gr,0,none⟩) cr (.slice sa s.2.2.length sc) (s.1,s.2.1.take k++s.2.1.drop (k+1),s.2.2) (hs.take k++hs.drop (k+1)):=EE;have Nr:s.1.length=nm:=EE.m.1;obtain⟨u0,_,_⟩:=EE.box.cells;have zF:(nm:Int)≤60:=by omega
 go_wp2_with fail;go_ret;exact⟨rfl,_,_,_,_,_,_,_,Jl⟩
end aZ
end Go.Proofs.YtmibabclefgljaaGreat
