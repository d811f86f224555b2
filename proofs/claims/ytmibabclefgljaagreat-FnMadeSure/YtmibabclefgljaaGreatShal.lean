/- RecZj RecZk -/
import Derived.Test.YtmibabclefgljaaGreatShak
import Derived.Test.YtmibabclefgljaaGreatShai
set_option linter.unusedVariables false
set_option linter.unusedSimpArgs false
set_option maxRecDepth 100000
set_option maxHeartbeats 4000000
namespace Go.Proofs.YtmibabclefgljaaGreat
open Go in
abbrev qO10:Oper:={dst:=some 111,op:=Op.call {callee:=Callee.value (Operand.func 141),args:=#[Operand.tmp 102,Operand.tmp 110],argTypes:=#[37,73]},type:=37,pos:= "l08_record.go:133",after:=#[{on:=4,ground:=Ground.data},{on:=12,ground:=Ground.data}],guard:=none}
open Go in
abbrev qO11:Oper:={dst:=some 112,op:=Op.nilCheck (Operand.tmp 98),type:=0,pos:= "l08_record.go:133",after:=#[{on:=0,ground:=Ground.data},{on:=0,ground:=Ground.phase},{on:=1,ground:=Ground.phase},{on:=2,ground:=Ground.phase},{on:=3,ground:=Ground.phase},{on:=4,ground:=Ground.phase},{on:=5,ground:=Ground.phase},{on:=6,ground:=Ground.phase},{on:=7,ground:=Ground.phase},{on:=8,ground:=Ground.phase},{on:=9,ground:=Ground.phase},{on:=10,ground:=Ground.phase},{on:=11,ground:=Ground.phase},{on:=12,ground:=Ground.phase},{on:=13,ground:=Ground.phase}],guard:=none}
open Go in
abbrev qO12:Oper:={dst:=none,op:=Op.store 37 (Operand.tmp 113) (Operand.tmp 111),type:=0,pos:= "l08_record.go:133",after:=#[{on:=15,ground:=Ground.data},{on:=13,ground:=Ground.data},{on:=13,ground:=Ground.chain},{on:=0,ground:=Ground.phase},{on:=1,ground:=Ground.phase},{on:=2,ground:=Ground.phase},{on:=3,ground:=Ground.phase},{on:=4,ground:=Ground.phase},{on:=5,ground:=Ground.phase},{on:=6,ground:=Ground.phase},{on:=7,ground:=Ground.phase},{on:=8,ground:=Ground.phase},{on:=9,ground:=Ground.phase},{on:=10,ground:=Ground.phase},{on:=11,ground:=Ground.phase},{on:=12,ground:=Ground.phase},{on:=13,ground:=Ground.phase}],guard:=none}
namespace fM
open Go Go.RowKit
theorem mV{P:Program}{ops:Array Oper}{o:Oper}{a:Act}{w:World}{K:Act→World→Prop}{Q:Exit→Act→World→Prop}{E:Prop}(qV:o.guard=none)(f:FuncId)(x y:Operand)(ts:Array TypeId)
 (ho:o.op=.call {callee:=.value (.func f),args:=#[x,y],argTypes:=ts}) (vc:∀args w,(callFunc f args).run P w=.ok (.enter f args) w)
 (v1 v2:Value) (h1:a.eval x=v1) (h2:a.eval y=v2) (R:Ending→World→Prop) (hc:Calls P f #[v1,v2] w R)
 (h:∀e w',R e w'→∃v,e=.returned v∧K (a.put o.dst v) w'):
 if Region.wanted o (yielded ops a.tmps)=true then Oper.wp P o a w K Q else E:=by
 have hw:Region.wanted o (yielded ops a.tmps)=true:=by simp[Region.wanted,qV]
 rw[if_pos hw];unfold Oper.wp execOp;have hf:a.eval (.func f)=.func (.func f) #[] #[]:=rfl;have Jr:(Deferred.ofValue (Value.func (Fn.func f) #[] #[]) #[v1,v2]).run P w=.ok {target:=.fn (.func f) #[],args:=#[v1,v2]} w:=rfl;simp only[ho,resolve,invoke,Sem.run_bind,List.map_toArray,List.map_cons,List.map_nil,h1,h2,hf,Jr,Result.andThen_ok,vc];show Calls P f #[v1,v2] w _;exact hc.mono (fun e w' he=>by obtain⟨v,rfl,hr⟩:=h e w' he; exact hr)
end fM
namespace bm
open Go Go.RowKit base aE aX
theorem Ba(N:Prop)(w0:World)(F0:List Nat)(w:World)(X:Nat)(am:Option Addr)(nm cm:Nat)(ah:Option Addr)(ch:Nat)(vs:Value)(s:St)(hs:List Value)(tx:Int)(a:Option Addr)(len cap:Nat)(ops:List Od)
 (hK:Kept N w0 F0 w X am nm cm ah ch vs s hs) (dT:dS w a len ops) (dV:∀p∈ops,p.2.1.size≤1099511627776) (bR:bu (2,tx,ops)=true) (k:Nat) (Ln:s.2.1.length≤1099511627776) (gI:aR tx s.2.1=some k) (AS:s.1.length≤60) (h8:(cn s.2.1 k).length≤8) (zY:(aQ s.1 (cn s.2.1 k)).length≤60):
 Calls Tryz.prog 98 #[.pointer (some ⟨X,0,none⟩),.agg #[.int .i64 2,.int .i64 tx,.slice a len cap]] w (gG N w0 F0 X (some (aQ s.1 (cn s.2.1 k),s.2.1.take k++s.2.1.drop (k+1),s.2.2))):=by
 obtain⟨i0,hi,dE,dD,cO⟩:=info_parts mR;have kS:=jq gI;obtain⟨gh,rfl⟩:∃gh,ah=some ⟨gh,0,none⟩:=by
  rcases hK.held.shape with⟨_,e,_⟩ | ⟨g,c,e,_⟩
  · rw[e] at kS; cases kS
  · cases e; exact⟨g,rfl⟩
 have vf:=hK.held.len;have ZF:=hK.held.room;have nL:k+1≤s.2.1.length:=kS;have FO:(bk (s.2.1.take k) (hs.take k)).length=k * 3:=by rw[ee _ _ (by simp[vf])]; simp; omega
 have pE:(bk (s.2.1.drop (k+1)) (hs.drop (k+1))).length=(s.2.1.length - (k+1)) * 3:=by rw[ee _ _ (by simp[vf])]; simp
 have A7:∀y∈hs.take k,y.oneCell'=true:=fun y hy=>hK.held.one y (List.mem_of_mem_take hy)
 have A8:∀y∈hs.drop (k+1),y.oneCell'=true:=fun y hy=>hK.held.one y (List.mem_of_mem_drop hy)
 have fR:0+k≤maxLen:=by unfold maxLen; omega
 have kn:(0+k) * 40≤140737488355328:=by omega
 have jx:k+(s.2.1.length - (k+1))≤maxLen:=by unfold maxLen; omega
 have eU:(k+(s.2.1.length - (k+1))) * 40≤140737488355328:=by omega
 have UZ:maxLen=9223372036854775807:=rfl;obtain⟨ad,ER⟩:∃ad:Addr,(if ch=k+1 then some (⟨gh,0,none⟩:Addr) else some ⟨gh,(k+1) * 3,none⟩)=some ad:=by split <;> exact⟨_,rfl⟩
 have Sk:Hid (∀wq:World,bB wq 0 (.slice (some ⟨gh,0,none⟩) s.2.1.length ch) s.2.1 hs→∀j u,(bk (s.2.1.drop (k+1)) (hs.drop (k+1)))[j]? =some u→wq.cell? (ad.add j)=some u):=by
  intro wq hq j u hu
  split at ER
  · have:s.2.1.drop (k+1)=[]:=List.drop_eq_nil_of_le (by omega)
    rw[this] at hu;simp[bk] at hu
  · cases ER;exact hq.sk (k+1) nL j u hu
 have Sm:=Hid.mk' ER;clear ER;have fZ:(k:Int)<(s.2.1.length:Int):=by omega
 have Cn:¬(k:Int)<0:=by omega
 obtain⟨pa,pc,Hs,LW,_⟩:=(hK.held.ops k kS).sl;have Pe:Hid (∀wq:World,bB wq 0 (.slice (some ⟨gh,0,none⟩) s.2.1.length ch) s.2.1 hs→wq.cell? ⟨gh,k * 3+2,none⟩=some (.slice pa (cn s.2.1 k).length pc)):=fun wq hq=>by
  rw[mh kS,(hq.at k kS).2.2,Hs]
 have Ss:Hid (∀wq:World,Below w.heap.size w wq→dS wq pa (cn s.2.1 k).length (cn s.2.1 k)):=fun wq hb=>by rw[mh kS]; exact LW.below hb
 clear Hs LW;obtain⟨sa,sc,jT,zf⟩:=hK.seen.sl;subst jT;obtain⟨V,hV⟩:∃V,V=w.alloc (.cells #[.int .i64 2,.int .i64 tx,.slice a len cap] 98):=⟨_,rfl⟩;have fv:Below w.heap.size w V:=by rw[hV]; exact(Below.refl _ _).alloc (Nat.le_refl _) _
 have bI:dt w.heap.size 2 tx (.slice a len cap) V:=by rw[hV]; exact cG _ _ _ _
 have g_:=hK.below fv;have jf:=g_.box.lt;have mg:=bI.lt;have y1:=last.On.cell (B:=V.heap.size) g_.box.cells.2.1 jf;have y2:=last.On.cell (B:=V.heap.size) bI.cells.2.1 mg;have lP:∀x9:last.On V.heap.size V,Calls Tryz.prog 137 #[.slice (some ⟨gh,0,none⟩) s.2.1.length ch,.int .i64 tx] x9.w fun e w'=>e=.returned (.int .i64 (fL (aR tx s.2.1)))∧∃y9:last.On V.heap.size V,w'=y9.w:=fun x9=>last.Calls.on x9 (Nat.le_refl _) ((eA _ _ ch s.2.1 tx x9.w (g_.held.below x9.2).sl).mono (fun e w' h=>⟨h.1,h.2 ▸ Below.refl _ _⟩))
 have br:=last.On.iq V.heap.size V;have HV:=Hid.mk' hV.symm;clear hV;rw[gI,show fL (some k)=(k:Int) from rfl] at lP
 aj Tryz.func98,Tryz.ntmps98;ab fail;rw[HV.out];refine last.ar V.heap.size (by aa) (by aa) ?_
 repeat(ai ((ao 137; ag exact lP _)))
 refine wpQuiet_nil ?_;intro w1 bL;obtain⟨x1,bL⟩:=bL;have a_:Below V.heap.size V w1:=by rw[bL]; exact x1.2
 clear bL x1;have dM:=bI.below a_;have wV:=g_.below a_;have fl:=Hid.mk' (eh 2 tx a len cap ops w1 ((dT.below fv).below a_) dV);obtain⟨d0,d1,d2⟩:=dM.cells;clear y1 y2 lP br;ab fail;refine fl.out.mono ?_;rintro e w2 ⟨rfl,be⟩;rw[bR];have fy:=wV.below be;have cv:=dM.below be;have nG:=((dT.below fv).below a_).below be;have pI:=((zf.below fv).below a_).below be;clear d0 d1 d2 fl HV dM bI g_ jf mg;obtain⟨d0,d1,d2⟩:=cv.cells;have mi:Below w2.heap.size w2 w2.drew:=(Below.refl _ _).drew;have uh:=fy.below mi;have Su:=Pe.out _ uh.held;have Ih:=Hid.mk' (s6 am nm cm s.1 pa (cn s.2.1 k).length pc (cn s.2.1 k) w2.drew uh.m.sl uh.m.spot (Ss.out _ (((fv.trans (a_.mono fv.size)).trans (be.mono (Nat.le_trans fv.size a_.size))).trans (mi.mono (Nat.le_trans fv.size (Nat.le_trans a_.size be.size))))) (by have:=uh.m.1; omega))
 ab fail;refine last.aB (S:=fun w'=>gE X (.slice am nm cm) (.slice (some ⟨gh,0,none⟩) s.2.1.length ch) (.slice sa s.2.2.length sc) w'∧w'.cell? ⟨gh,k * 3+2,none⟩=some (.slice pa (cn s.2.1 k).length pc)) 16 (by aa) ⟨uh.box,Su⟩ (fun al=>?_)
 refine last.ae (i:=0) (v:=(.pointer (some ⟨X,0,none⟩))) rfl rfl (by aa) (by aa) (by aa) (by aa) (fun _ _ _ h=>h) (Or.inl ⟨by rfl,?_⟩) (by assumption) ?_
 · intro wq aC; af
 try simp only[Act.put,List.setIfInBounds_toArray,List.set_cons_zero,List.set_cons_succ];refine last.ae (i:=1) (v:=(.pointer (some ⟨X,0,none⟩))) rfl rfl (by aa) (by aa) (by aa) (by aa) (fun _ _ _ h=>h) (Or.inl ⟨by rfl,?_⟩) (by assumption) ?_
 · intro wq aC; af
 try simp only[Act.put,List.setIfInBounds_toArray,List.set_cons_zero,List.set_cons_succ];refine last.ae (i:=2) (v:=(.pointer (some ⟨X,0,none⟩))) rfl rfl (by aa) (by aa) (by aa) (by aa) (fun _ _ _ h=>h) (Or.inl ⟨by rfl,?_⟩) (by assumption) ?_
 · intro wq aC; af
 try simp only[Act.put,List.setIfInBounds_toArray,List.set_cons_zero,List.set_cons_succ];refine last.ae (i:=3) (v:=(.pointer (some ⟨X,0,none⟩))) rfl rfl (by aa) (by aa) (by aa) (by aa) (fun _ _ _ h=>h) (Or.inl ⟨by rfl,?_⟩) (by assumption) ?_
 · intro wq aC; af
 try simp only[Act.put,List.setIfInBounds_toArray,List.set_cons_zero,List.set_cons_succ];refine last.ae (i:=4) (v:=(.slice am nm cm)) rfl rfl (by aa) (by aa) (by aa) (by aa) (fun _ _ _ h=>h) (Or.inl ⟨by rfl,?_⟩) (by assumption) ?_
 · intro wq aC; have q:=aC.1.cells.1; af
 try simp only[Act.put,List.setIfInBounds_toArray,List.set_cons_zero,List.set_cons_succ];refine last.ae (i:=5) (v:=(.pointer (some ⟨X,0,none⟩))) rfl rfl (by aa) (by aa) (by aa) (by aa) (fun _ _ _ h=>h) (Or.inl ⟨by rfl,?_⟩) (by assumption) ?_
 · intro wq aC; af
 try simp only[Act.put,List.setIfInBounds_toArray,List.set_cons_zero,List.set_cons_succ];refine last.ae (i:=6) (v:=(.pointer (some ⟨X,0,none⟩))) rfl rfl (by aa) (by aa) (by aa) (by aa) (fun _ _ _ h=>h) (Or.inl ⟨by rfl,?_⟩) (by assumption) ?_
 · intro wq aC; af
 try simp only[Act.put,List.setIfInBounds_toArray,List.set_cons_zero,List.set_cons_succ];refine last.ae (i:=7) (v:=(.pointer (some ⟨X,1,none⟩))) rfl rfl (by aa) (by aa) (by aa) (by aa) (fun _ _ _ h=>h) (Or.inl ⟨by rfl,?_⟩) (by assumption) ?_
 · intro wq aC; af
 try simp only[Act.put,List.setIfInBounds_toArray,List.set_cons_zero,List.set_cons_succ];refine last.ae (i:=8) (v:=(.slice (some ⟨gh,0,none⟩) s.2.1.length ch)) rfl rfl (by aa) (by aa) (by aa) (by aa) (fun _ _ _ h=>h) (Or.inl ⟨by rfl,?_⟩) (by assumption) ?_
 · intro wq aC; have q:=aC.1.cells.2.1; af
 try simp only[Act.put,List.setIfInBounds_toArray,List.set_cons_zero,List.set_cons_succ];refine last.ae (i:=9) (v:=(.int .i64 (k:Int))) rfl rfl (by aa) (by aa) (by aa) (by aa) (fun _ _ _ h=>h) (Or.inl ⟨by rfl,?_⟩) (by assumption) ?_
 · intro wq aC; af
 try simp only[Act.put,List.setIfInBounds_toArray,List.set_cons_zero,List.set_cons_succ];refine last.ae (i:=10) (v:=(.pointer (some ⟨gh,k * 3,none⟩))) rfl rfl (by aa) (by aa) (by aa) (by aa) (fun _ _ _ h=>h) (Or.inl ⟨by rfl,?_⟩) (by assumption) ?_
 · intro wq aC; af
 try simp only[Act.put,List.setIfInBounds_toArray,List.set_cons_zero,List.set_cons_succ];refine last.ae (i:=11) (v:=(.pointer (some ⟨gh,k * 3+2,none⟩))) rfl rfl (by aa) (by aa) (by aa) (by aa) (fun _ _ _ h=>h) (Or.inl ⟨by rfl,?_⟩) (by assumption) ?_
 · intro wq aC; af
 try simp only[Act.put,List.setIfInBounds_toArray,List.set_cons_zero,List.set_cons_succ];refine last.ae (i:=12) (v:=(.slice pa (cn s.2.1 k).length pc)) rfl rfl (by aa) (by aa) (by aa) (by aa) (fun _ _ _ h=>h) (Or.inl ⟨by rfl,?_⟩) (by assumption) ?_
 · intro wq aC; have q:=aC.2; af
 try simp only[Act.put,List.setIfInBounds_toArray,List.set_cons_zero,List.set_cons_succ];refine last.ax (i:=13) (o:=qO10) (by aa) rfl (fun K hK=>?_)
 refine fM.mV rfl 141 (.tmp 102) (.tmp 110) _ rfl (fun _ _=>rfl) (.slice am nm cm) (.slice pa (cn s.2.1 k).length pc) (by aa) (by aa) _ Ih.out ?_
 rintro e w6 ⟨g6,n6,c6,rfl,en,mJ⟩;refine⟨_,rfl,?_⟩;have A5:=uh.below mJ;have Jy:=Pe.out _ A5.held;refine hK.out _ _ ?_ (fun aq=>?_)
 · exact⟨A5.box,Jy⟩
 clear hK K al;have al:=aq;clear aq;try simp only[Act.put,List.setIfInBounds_toArray,List.set_cons_zero,List.set_cons_succ];refine last.ax (i:=14) (o:=qO11) (by aa) rfl (fun K hK=>?_)
 af;refine hK.out _ _ ?_ (fun aq=>?_)
 · exact al
 clear hK K al;have al:=aq;clear aq;try simp only[Act.put,List.setIfInBounds_toArray,List.set_cons_zero,List.set_cons_succ];refine last.ae (i:=15) (v:=(.pointer (some ⟨X,0,none⟩))) rfl rfl (by aa) (by aa) (by aa) (by aa) (fun _ _ _ h=>h) (Or.inl ⟨by rfl,?_⟩) (by assumption) ?_
 · intro wq aC; af
 try simp only[Act.put,List.setIfInBounds_toArray,List.set_cons_zero,List.set_cons_succ];have e6:=A5.box.cells.1;have f6:=A5.box.fz 0;refine last.aL (o:=qO12) (by aa) rfl (by aa) (fun K hK=>?_)
 af;refine hK.out _ _ ?_;clear hK K;have Gg:=A5.aE (en.mono uh.fr.size);generalize Pb:w6.setCell ⟨X,0,none⟩ (.slice (some ⟨g6,0,none⟩) n6 c6)=w9 at *;clear Pb Jy Su e6 f6 al en mJ Ih Ss Pe mi uh A5 d0 d1 d2;have wy:Below w9.heap.size w9 w9.drew:=(Below.refl _ _).drew;ab fail;refine last.aB (S:=fun w'=>gE X (.slice (some ⟨g6,0,none⟩) n6 c6) (.slice (some ⟨gh,0,none⟩) s.2.1.length ch) (.slice sa s.2.2.length sc) w') 19 (by aa) (Gg.box.below wy) (fun al=>?_)
 refine last.ae (i:=0) (v:=(.pointer (some ⟨X,0,none⟩))) rfl rfl (by aa) (by aa) (by aa) (by aa) (fun _ _ _ h=>h) (Or.inl ⟨by rfl,?_⟩) (by assumption) ?_
 · intro wq aC; af
 try simp only[Act.put,List.setIfInBounds_toArray,List.set_cons_zero,List.set_cons_succ];refine last.ae (i:=2) (v:=(.pointer (some ⟨X,0,none⟩))) rfl rfl (by aa) (by aa) (by aa) (by aa) (fun _ _ _ h=>h) (Or.inl ⟨by rfl,?_⟩) (by assumption) ?_
 · intro wq aC; af
 try simp only[Act.put,List.setIfInBounds_toArray,List.set_cons_zero,List.set_cons_succ];refine last.ae (i:=3) (v:=(.pointer (some ⟨X,0,none⟩))) rfl rfl (by aa) (by aa) (by aa) (by aa) (fun _ _ _ h=>h) (Or.inl ⟨by rfl,?_⟩) (by assumption) ?_
 · intro wq aC; af
 try simp only[Act.put,List.setIfInBounds_toArray,List.set_cons_zero,List.set_cons_succ];refine last.ae (i:=4) (v:=(.pointer (some ⟨X,1,none⟩))) rfl rfl (by aa) (by aa) (by aa) (by aa) (fun _ _ _ h=>h) (Or.inl ⟨by rfl,?_⟩) (by assumption) ?_
 · intro wq aC; af
 try simp only[Act.put,List.setIfInBounds_toArray,List.set_cons_zero,List.set_cons_succ];refine last.ae (i:=5) (v:=(.slice (some ⟨gh,0,none⟩) s.2.1.length ch)) rfl rfl (by aa) (by aa) (by aa) (by aa) (fun _ _ _ h=>h) (Or.inl ⟨by rfl,?_⟩) (by assumption) ?_
 · intro wq aC; have q:=aC.cells.2.1; af
 try simp only[Act.put,List.setIfInBounds_toArray,List.set_cons_zero,List.set_cons_succ];refine last.ae (i:=6) (v:=(.int .i64 (k:Int))) rfl rfl (by aa) (by aa) (by aa) (by aa) (fun _ _ _ h=>h) (Or.inl ⟨by rfl,?_⟩) (by assumption) ?_
 · intro wq aC; af
 try simp only[Act.put,List.setIfInBounds_toArray,List.set_cons_zero,List.set_cons_succ];refine last.ae (i:=7) (v:=(.slice (some ⟨gh,0,none⟩) k ch)) rfl rfl (by aa) (by aa) (by aa) (by aa) (fun _ _ _ h=>h) (Or.inl ⟨by rfl,?_⟩) (by assumption) ?_
 · intro wq aC; af; exact fun h=>absurd h (by omega)
 try simp only[Act.put,List.setIfInBounds_toArray,List.set_cons_zero,List.set_cons_succ];refine last.ae (i:=9) (v:=(.pointer (some ⟨X,0,none⟩))) rfl rfl (by aa) (by aa) (by aa) (by aa) (fun _ _ _ h=>h) (Or.inl ⟨by rfl,?_⟩) (by assumption) ?_
 · intro wq aC; af
 try simp only[Act.put,List.setIfInBounds_toArray,List.set_cons_zero,List.set_cons_succ];refine last.ae (i:=10) (v:=(.pointer (some ⟨X,0,none⟩))) rfl rfl (by aa) (by aa) (by aa) (by aa) (fun _ _ _ h=>h) (Or.inl ⟨by rfl,?_⟩) (by assumption) ?_
 · intro wq aC; af
 try simp only[Act.put,List.setIfInBounds_toArray,List.set_cons_zero,List.set_cons_succ];refine last.ae (i:=11) (v:=(.pointer (some ⟨X,1,none⟩))) rfl rfl (by aa) (by aa) (by aa) (by aa) (fun _ _ _ h=>h) (Or.inl ⟨by rfl,?_⟩) (by assumption) ?_
 · intro wq aC; af
 try simp only[Act.put,List.setIfInBounds_toArray,List.set_cons_zero,List.set_cons_succ];refine last.ae (i:=12) (v:=(.slice (some ⟨gh,0,none⟩) s.2.1.length ch)) rfl rfl (by aa) (by aa) (by aa) (by aa) (fun _ _ _ h=>h) (Or.inl ⟨by rfl,?_⟩) (by assumption) ?_
 · intro wq aC; have q:=aC.cells.2.1; af
 try simp only[Act.put,List.setIfInBounds_toArray,List.set_cons_zero,List.set_cons_succ];refine last.ae (i:=13) (v:=(.int .i64 (k:Int))) rfl rfl (by aa) (by aa) (by aa) (by aa) (fun _ _ _ h=>h) (Or.inl ⟨by rfl,?_⟩) (by assumption) ?_
 · intro wq aC; af
 try simp only[Act.put,List.setIfInBounds_toArray,List.set_cons_zero,List.set_cons_succ];refine last.ae (i:=14) (v:=(.int .i64 ((k:Int)+1))) rfl rfl (by aa) (by aa) (by aa) (by aa) (fun _ _ _ h=>h) (Or.inl ⟨by rfl,?_⟩) (by assumption) ?_
 · intro wq aC; af; rw[IntKind.wrap_i64]; omega
 try simp only[Act.put,List.setIfInBounds_toArray,List.set_cons_zero,List.set_cons_succ];refine last.ae (i:=15) (v:=(.slice (some ad) (s.2.1.length - (k+1)) (ch - (k+1)))) rfl rfl (by aa) (by aa) (by aa) (by aa) (fun _ _ _ h=>h) (Or.inl ⟨by rfl,?_⟩) (by assumption) ?_
 · intro wq aC; af; rw[if_pos ⟨by omega,by omega⟩,Sm.out]
 try simp only[Act.put,List.setIfInBounds_toArray,List.set_cons_zero,List.set_cons_succ];refine last.ax (i:=1) (o:=qO5) (by aa) rfl (fun K hK=>?_)
 af;have xT:Below w9.heap.size w9 (w9.drew.alloc (.cells #[] 98)):=wy.alloc wy.size _;have NK:=Gg.below xT;have qZ:(w9.drew.alloc (.cells #[] 98)).ownsRow w9.heap.size 98 3 (.slice (some ⟨w9.heap.size,0,none⟩) 0 0) 0 []:=World.ownsRow_made w9.drew #[] 0 (Nat.le_refl _) (Nat.zero_le _) rfl;refine hK.out _ _ ?_ (fun aq=>?_)
 · exact NK.box
 clear hK K al;have al:=aq;clear aq;try simp only[Act.put,List.setIfInBounds_toArray,List.set_cons_zero,List.set_cons_succ];refine last.ax (i:=8) (o:=qO6) (by aa) rfl (fun K hK=>?_)
 refine c_ rfl (.tmp 115) (.tmp 121) 41 rfl w9.heap.size 98 i0 (.agg #[.int .i64 0,.int .i64 0,.slice none 0 0]) 3 40 Tryz.underlying41 hi dE dD cO rfl (by decide) _ _ _ rfl qZ ⟨gh,0,none⟩ k ch (bk (s.2.1.take k) (hs.take k)) rfl FO (NK.held.sj k) (ev _ _ A7) fR kn xT.size ?_
 intro vp wp jG ox A9;simp only[Nat.zero_add,List.nil_append] at jG;obtain⟨gp,cp,Sn⟩:=jo jG (fun e=>by have:=(A9.1 e).1; cases this)
 subst Sn;have xN:(w9.drew.alloc (.cells #[] 98)).grownBy wp (some w9.heap.size):=ox;have ES:Below w9.heap.size w9 wp:=xT.grown xN xT.size (fun j e=>by cases e; exact Nat.le_refl _)
 have Jv:=Gg.below ES;refine hK.out _ _ ?_ (fun aq=>?_)
 · exact Jv.box
 clear hK K al;have al:=aq;clear aq;try simp only[Act.put,List.setIfInBounds_toArray,List.set_cons_zero,List.set_cons_succ];refine last.ax (i:=16) (o:=qO7) (by aa) rfl (fun K hK=>?_)
 refine c_ rfl (.tmp 122) (.tmp 129) 41 rfl w9.heap.size 98 i0 (.agg #[.int .i64 0,.int .i64 0,.slice none 0 0]) 3 40 Tryz.underlying41 hi dE dD cO rfl (by decide) _ _ _ rfl jG ad (s.2.1.length - (k+1)) (ch - (k+1)) (bk (s.2.1.drop (k+1)) (hs.drop (k+1))) rfl pE (Sk.out _ Jv.held) (ev _ _ A8) jx eU ES.size ?_
 intro vr wr k_ oy A_;obtain⟨gr,cr,Sp⟩:=jo k_ (fun e=>by have:=(A_.1 e).1; cases this)
 subst Sp;have jW:wp.grownBy wr (some gp):=oy;have mU:Below w9.heap.size w9 wr:=ES.grown jW ES.size (fun j e=>by cases e; exact(jG.lt gp rfl).1)
 have ET:=Gg.below mU;have nO:=bB.erase (l:=s.2.1) (hs:=hs) Gg.held mU k kS (g':=gr) (c':=cr) (n':=k+(s.2.1.length - (k+1))) (by omega) (by
  have h9:=k_;rw[←fY _ _ _ _ (by simp[vf])] at h9
  exact sq h9 (Nat.zero_le _))
 refine hK.out _ _ ?_ (fun aq=>?_)
 · exact ET.box
 clear hK K al;have al:=aq;clear aq;try simp only[Act.put,List.setIfInBounds_toArray,List.set_cons_zero,List.set_cons_succ];refine last.ax (i:=17) (o:=qO8) (by aa) rfl (fun K hK=>?_)
 af;refine hK.out _ _ ?_ (fun aq=>?_)
 · exact al
 clear hK K al;have al:=aq;clear aq;try simp only[Act.put,List.setIfInBounds_toArray,List.set_cons_zero,List.set_cons_succ];refine last.ae (i:=18) (v:=(.pointer (some ⟨X,1,none⟩))) rfl rfl (by aa) (by aa) (by aa) (by aa) (fun _ _ _ h=>h) (Or.inl ⟨by rfl,?_⟩) (by assumption) ?_
 · intro wq aC; af
 try simp only[Act.put,List.setIfInBounds_toArray,List.set_cons_zero,List.set_cons_succ];have er:=ET.box.cells.2.1;have fr:=ET.box.fz 1;refine last.aL (o:=qO9) (by aa) rfl (by aa) (fun K hK=>?_)
 af;refine hK.out _ _ ?_;clear hK K;have Jw:w0.heap.size≤gr:=Nat.le_trans Gg.fr.size (k_.lt gr rfl).1;have EU:=ET.cut nO Jw (fun y hy=>by
  rcases List.mem_append.1 hy with e | e
  · exact List.mem_of_mem_take e
  · exact List.mem_of_mem_drop e)
 have Sq:(s.2.1.take k++s.2.1.drop (k+1)).length=k+(s.2.1.length - (k+1)):=by simp; omega
 rw[Sq] at EU;generalize Sr:wr.setCell ⟨X,1,none⟩ (.slice (some ⟨gr,0,none⟩) (k+(s.2.1.length - (k+1))) cr)=wz at *;clear Sr nO k_ jG jW xN ox oy A9 A_ er fr al qZ;have Jx:Kept N w0 F0 wz X (some ⟨g6,0,none⟩) n6 c6 (some ⟨gr,0,none⟩) cr (.slice sa s.2.2.length sc) (aQ s.1 (cn s.2.1 k),s.2.1.take k++s.2.1.drop (k+1),s.2.2) (hs.take k++hs.drop (k+1)):=EU;have ND:(aQ s.1 (cn s.2.1 k)).length=n6:=EU.m.1;obtain⟨u0,_,_⟩:=EU.box.cells;have zY:(n6:Int)≤60:=by omega
 ab fail;an;exact⟨rfl,_,_,_,_,_,_,_,Jx⟩
theorem Bb(N:Prop)(w0:World)(F0:List Nat)(w:World)(X:Nat)(am:Option Addr)(nm cm:Nat)(ah:Option Addr)(ch:Nat)(vs:Value)(s:St)(hs:List Value)(tx:Int)(a:Option Addr)(len cap:Nat)(ops:List Od)
 (hK:Kept N w0 F0 w X am nm cm ah ch vs s hs) (dT:dS w a len ops) (dV:∀p∈ops,p.2.1.size≤1099511627776) (bR:bu (2,tx,ops)=true) (k:Nat) (Ln:s.2.1.length≤1099511627776) (gI:aR tx s.2.1=some k) (AS:s.1.length≤60) (h8:(cn s.2.1 k).length≤8) (zY:60<(aQ s.1 (cn s.2.1 k)).length):
 Calls Tryz.prog 98 #[.pointer (some ⟨X,0,none⟩),.agg #[.int .i64 2,.int .i64 tx,.slice a len cap]] w (vb N w0 F0 X (aQ s.1 (cn s.2.1 k),s.2.1.take k++s.2.1.drop (k+1),s.2.2)):=by
 obtain⟨i0,hi,dE,dD,cO⟩:=info_parts mR;have kS:=jq gI;obtain⟨gh,rfl⟩:∃gh,ah=some ⟨gh,0,none⟩:=by
  rcases hK.held.shape with⟨_,e,_⟩ | ⟨g,c,e,_⟩
  · rw[e] at kS; cases kS
  · cases e; exact⟨g,rfl⟩
 have vf:=hK.held.len;have ZF:=hK.held.room;have nL:k+1≤s.2.1.length:=kS;have FO:(bk (s.2.1.take k) (hs.take k)).length=k * 3:=by rw[ee _ _ (by simp[vf])]; simp; omega
 have pE:(bk (s.2.1.drop (k+1)) (hs.drop (k+1))).length=(s.2.1.length - (k+1)) * 3:=by rw[ee _ _ (by simp[vf])]; simp
 have A7:∀y∈hs.take k,y.oneCell'=true:=fun y hy=>hK.held.one y (List.mem_of_mem_take hy)
 have A8:∀y∈hs.drop (k+1),y.oneCell'=true:=fun y hy=>hK.held.one y (List.mem_of_mem_drop hy)
 have fR:0+k≤maxLen:=by unfold maxLen; omega
 have kn:(0+k) * 40≤140737488355328:=by omega
 have jx:k+(s.2.1.length - (k+1))≤maxLen:=by unfold maxLen; omega
 have eU:(k+(s.2.1.length - (k+1))) * 40≤140737488355328:=by omega
 have UZ:maxLen=9223372036854775807:=rfl;obtain⟨ad,ER⟩:∃ad:Addr,(if ch=k+1 then some (⟨gh,0,none⟩:Addr) else some ⟨gh,(k+1) * 3,none⟩)=some ad:=by split <;> exact⟨_,rfl⟩
 have Sk:Hid (∀wq:World,bB wq 0 (.slice (some ⟨gh,0,none⟩) s.2.1.length ch) s.2.1 hs→∀j u,(bk (s.2.1.drop (k+1)) (hs.drop (k+1)))[j]? =some u→wq.cell? (ad.add j)=some u):=by
  intro wq hq j u hu
  split at ER
  · have:s.2.1.drop (k+1)=[]:=List.drop_eq_nil_of_le (by omega)
    rw[this] at hu;simp[bk] at hu
  · cases ER;exact hq.sk (k+1) nL j u hu
 have Sm:=Hid.mk' ER;clear ER;have fZ:(k:Int)<(s.2.1.length:Int):=by omega
 have Cn:¬(k:Int)<0:=by omega
 obtain⟨pa,pc,Hs,LW,_⟩:=(hK.held.ops k kS).sl;have Pe:Hid (∀wq:World,bB wq 0 (.slice (some ⟨gh,0,none⟩) s.2.1.length ch) s.2.1 hs→wq.cell? ⟨gh,k * 3+2,none⟩=some (.slice pa (cn s.2.1 k).length pc)):=fun wq hq=>by
  rw[mh kS,(hq.at k kS).2.2,Hs]
 have Ss:Hid (∀wq:World,Below w.heap.size w wq→dS wq pa (cn s.2.1 k).length (cn s.2.1 k)):=fun wq hb=>by rw[mh kS]; exact LW.below hb
 clear Hs LW;obtain⟨sa,sc,jT,zf⟩:=hK.seen.sl;subst jT;obtain⟨V,hV⟩:∃V,V=w.alloc (.cells #[.int .i64 2,.int .i64 tx,.slice a len cap] 98):=⟨_,rfl⟩;have fv:Below w.heap.size w V:=by rw[hV]; exact(Below.refl _ _).alloc (Nat.le_refl _) _
 have bI:dt w.heap.size 2 tx (.slice a len cap) V:=by rw[hV]; exact cG _ _ _ _
 have g_:=hK.below fv;have jf:=g_.box.lt;have mg:=bI.lt;have y1:=last.On.cell (B:=V.heap.size) g_.box.cells.2.1 jf;have y2:=last.On.cell (B:=V.heap.size) bI.cells.2.1 mg;have lP:∀x9:last.On V.heap.size V,Calls Tryz.prog 137 #[.slice (some ⟨gh,0,none⟩) s.2.1.length ch,.int .i64 tx] x9.w fun e w'=>e=.returned (.int .i64 (fL (aR tx s.2.1)))∧∃y9:last.On V.heap.size V,w'=y9.w:=fun x9=>last.Calls.on x9 (Nat.le_refl _) ((eA _ _ ch s.2.1 tx x9.w (g_.held.below x9.2).sl).mono (fun e w' h=>⟨h.1,h.2 ▸ Below.refl _ _⟩))
 have br:=last.On.iq V.heap.size V;have HV:=Hid.mk' hV.symm;clear hV;rw[gI,show fL (some k)=(k:Int) from rfl] at lP
 aj Tryz.func98,Tryz.ntmps98;ab fail;rw[HV.out];refine last.ar V.heap.size (by aa) (by aa) ?_
 repeat(ai ((ao 137; ag exact lP _)))
 refine wpQuiet_nil ?_;intro w1 bL;obtain⟨x1,bL⟩:=bL;have a_:Below V.heap.size V w1:=by rw[bL]; exact x1.2
 clear bL x1;have dM:=bI.below a_;have wV:=g_.below a_;have fl:=Hid.mk' (eh 2 tx a len cap ops w1 ((dT.below fv).below a_) dV);obtain⟨d0,d1,d2⟩:=dM.cells;clear y1 y2 lP br;ab fail;refine fl.out.mono ?_;rintro e w2 ⟨rfl,be⟩;rw[bR];have fy:=wV.below be;have cv:=dM.below be;have nG:=((dT.below fv).below a_).below be;have pI:=((zf.below fv).below a_).below be;clear d0 d1 d2 fl HV dM bI g_ jf mg;obtain⟨d0,d1,d2⟩:=cv.cells;have mi:Below w2.heap.size w2 w2.drew:=(Below.refl _ _).drew;have uh:=fy.below mi;have Su:=Pe.out _ uh.held;have Ih:=Hid.mk' (s6 am nm cm s.1 pa (cn s.2.1 k).length pc (cn s.2.1 k) w2.drew uh.m.sl uh.m.spot (Ss.out _ (((fv.trans (a_.mono fv.size)).trans (be.mono (Nat.le_trans fv.size a_.size))).trans (mi.mono (Nat.le_trans fv.size (Nat.le_trans a_.size be.size))))) (by have:=uh.m.1; omega))
 ab fail;refine last.aB (S:=fun w'=>gE X (.slice am nm cm) (.slice (some ⟨gh,0,none⟩) s.2.1.length ch) (.slice sa s.2.2.length sc) w'∧w'.cell? ⟨gh,k * 3+2,none⟩=some (.slice pa (cn s.2.1 k).length pc)) 16 (by aa) ⟨uh.box,Su⟩ (fun al=>?_)
 refine last.ae (i:=0) (v:=(.pointer (some ⟨X,0,none⟩))) rfl rfl (by aa) (by aa) (by aa) (by aa) (fun _ _ _ h=>h) (Or.inl ⟨by rfl,?_⟩) (by assumption) ?_
 · intro wq aC; af
 try simp only[Act.put,List.setIfInBounds_toArray,List.set_cons_zero,List.set_cons_succ];refine last.ae (i:=1) (v:=(.pointer (some ⟨X,0,none⟩))) rfl rfl (by aa) (by aa) (by aa) (by aa) (fun _ _ _ h=>h) (Or.inl ⟨by rfl,?_⟩) (by assumption) ?_
 · intro wq aC; af
 try simp only[Act.put,List.setIfInBounds_toArray,List.set_cons_zero,List.set_cons_succ];refine last.ae (i:=2) (v:=(.pointer (some ⟨X,0,none⟩))) rfl rfl (by aa) (by aa) (by aa) (by aa) (fun _ _ _ h=>h) (Or.inl ⟨by rfl,?_⟩) (by assumption) ?_
 · intro wq aC; af
 try simp only[Act.put,List.setIfInBounds_toArray,List.set_cons_zero,List.set_cons_succ];refine last.ae (i:=3) (v:=(.pointer (some ⟨X,0,none⟩))) rfl rfl (by aa) (by aa) (by aa) (by aa) (fun _ _ _ h=>h) (Or.inl ⟨by rfl,?_⟩) (by assumption) ?_
 · intro wq aC; af
 try simp only[Act.put,List.setIfInBounds_toArray,List.set_cons_zero,List.set_cons_succ];refine last.ae (i:=4) (v:=(.slice am nm cm)) rfl rfl (by aa) (by aa) (by aa) (by aa) (fun _ _ _ h=>h) (Or.inl ⟨by rfl,?_⟩) (by assumption) ?_
 · intro wq aC; have q:=aC.1.cells.1; af
 try simp only[Act.put,List.setIfInBounds_toArray,List.set_cons_zero,List.set_cons_succ];refine last.ae (i:=5) (v:=(.pointer (some ⟨X,0,none⟩))) rfl rfl (by aa) (by aa) (by aa) (by aa) (fun _ _ _ h=>h) (Or.inl ⟨by rfl,?_⟩) (by assumption) ?_
 · intro wq aC; af
 try simp only[Act.put,List.setIfInBounds_toArray,List.set_cons_zero,List.set_cons_succ];refine last.ae (i:=6) (v:=(.pointer (some ⟨X,0,none⟩))) rfl rfl (by aa) (by aa) (by aa) (by aa) (fun _ _ _ h=>h) (Or.inl ⟨by rfl,?_⟩) (by assumption) ?_
 · intro wq aC; af
 try simp only[Act.put,List.setIfInBounds_toArray,List.set_cons_zero,List.set_cons_succ];refine last.ae (i:=7) (v:=(.pointer (some ⟨X,1,none⟩))) rfl rfl (by aa) (by aa) (by aa) (by aa) (fun _ _ _ h=>h) (Or.inl ⟨by rfl,?_⟩) (by assumption) ?_
 · intro wq aC; af
 try simp only[Act.put,List.setIfInBounds_toArray,List.set_cons_zero,List.set_cons_succ];refine last.ae (i:=8) (v:=(.slice (some ⟨gh,0,none⟩) s.2.1.length ch)) rfl rfl (by aa) (by aa) (by aa) (by aa) (fun _ _ _ h=>h) (Or.inl ⟨by rfl,?_⟩) (by assumption) ?_
 · intro wq aC; have q:=aC.1.cells.2.1; af
 try simp only[Act.put,List.setIfInBounds_toArray,List.set_cons_zero,List.set_cons_succ];refine last.ae (i:=9) (v:=(.int .i64 (k:Int))) rfl rfl (by aa) (by aa) (by aa) (by aa) (fun _ _ _ h=>h) (Or.inl ⟨by rfl,?_⟩) (by assumption) ?_
 · intro wq aC; af
 try simp only[Act.put,List.setIfInBounds_toArray,List.set_cons_zero,List.set_cons_succ];refine last.ae (i:=10) (v:=(.pointer (some ⟨gh,k * 3,none⟩))) rfl rfl (by aa) (by aa) (by aa) (by aa) (fun _ _ _ h=>h) (Or.inl ⟨by rfl,?_⟩) (by assumption) ?_
 · intro wq aC; af
 try simp only[Act.put,List.setIfInBounds_toArray,List.set_cons_zero,List.set_cons_succ];refine last.ae (i:=11) (v:=(.pointer (some ⟨gh,k * 3+2,none⟩))) rfl rfl (by aa) (by aa) (by aa) (by aa) (fun _ _ _ h=>h) (Or.inl ⟨by rfl,?_⟩) (by assumption) ?_
 · intro wq aC; af
 try simp only[Act.put,List.setIfInBounds_toArray,List.set_cons_zero,List.set_cons_succ];refine last.ae (i:=12) (v:=(.slice pa (cn s.2.1 k).length pc)) rfl rfl (by aa) (by aa) (by aa) (by aa) (fun _ _ _ h=>h) (Or.inl ⟨by rfl,?_⟩) (by assumption) ?_
 · intro wq aC; have q:=aC.2; af
 try simp only[Act.put,List.setIfInBounds_toArray,List.set_cons_zero,List.set_cons_succ];refine last.ax (i:=13) (o:=qO10) (by aa) rfl (fun K hK=>?_)
 refine fM.mV rfl 141 (.tmp 102) (.tmp 110) _ rfl (fun _ _=>rfl) (.slice am nm cm) (.slice pa (cn s.2.1 k).length pc) (by aa) (by aa) _ Ih.out ?_
 rintro e w6 ⟨g6,n6,c6,rfl,en,mJ⟩;refine⟨_,rfl,?_⟩;have A5:=uh.below mJ;have Jy:=Pe.out _ A5.held;refine hK.out _ _ ?_ (fun aq=>?_)
 · exact⟨A5.box,Jy⟩
 clear hK K al;have al:=aq;clear aq;try simp only[Act.put,List.setIfInBounds_toArray,List.set_cons_zero,List.set_cons_succ];refine last.ax (i:=14) (o:=qO11) (by aa) rfl (fun K hK=>?_)
 af;refine hK.out _ _ ?_ (fun aq=>?_)
 · exact al
 clear hK K al;have al:=aq;clear aq;try simp only[Act.put,List.setIfInBounds_toArray,List.set_cons_zero,List.set_cons_succ];refine last.ae (i:=15) (v:=(.pointer (some ⟨X,0,none⟩))) rfl rfl (by aa) (by aa) (by aa) (by aa) (fun _ _ _ h=>h) (Or.inl ⟨by rfl,?_⟩) (by assumption) ?_
 · intro wq aC; af
 try simp only[Act.put,List.setIfInBounds_toArray,List.set_cons_zero,List.set_cons_succ];have e6:=A5.box.cells.1;have f6:=A5.box.fz 0;refine last.aL (o:=qO12) (by aa) rfl (by aa) (fun K hK=>?_)
 af;refine hK.out _ _ ?_;clear hK K;have Gg:=A5.aE (en.mono uh.fr.size);generalize Pb:w6.setCell ⟨X,0,none⟩ (.slice (some ⟨g6,0,none⟩) n6 c6)=w9 at *;clear Pb Jy Su e6 f6 al en mJ Ih Ss Pe mi uh A5 d0 d1 d2;have wy:Below w9.heap.size w9 w9.drew:=(Below.refl _ _).drew;ab fail;refine last.aB (S:=fun w'=>gE X (.slice (some ⟨g6,0,none⟩) n6 c6) (.slice (some ⟨gh,0,none⟩) s.2.1.length ch) (.slice sa s.2.2.length sc) w') 19 (by aa) (Gg.box.below wy) (fun al=>?_)
 refine last.ae (i:=0) (v:=(.pointer (some ⟨X,0,none⟩))) rfl rfl (by aa) (by aa) (by aa) (by aa) (fun _ _ _ h=>h) (Or.inl ⟨by rfl,?_⟩) (by assumption) ?_
 · intro wq aC; af
 try simp only[Act.put,List.setIfInBounds_toArray,List.set_cons_zero,List.set_cons_succ];refine last.ae (i:=2) (v:=(.pointer (some ⟨X,0,none⟩))) rfl rfl (by aa) (by aa) (by aa) (by aa) (fun _ _ _ h=>h) (Or.inl ⟨by rfl,?_⟩) (by assumption) ?_
 · intro wq aC; af
 try simp only[Act.put,List.setIfInBounds_toArray,List.set_cons_zero,List.set_cons_succ];refine last.ae (i:=3) (v:=(.pointer (some ⟨X,0,none⟩))) rfl rfl (by aa) (by aa) (by aa) (by aa) (fun _ _ _ h=>h) (Or.inl ⟨by rfl,?_⟩) (by assumption) ?_
 · intro wq aC; af
 try simp only[Act.put,List.setIfInBounds_toArray,List.set_cons_zero,List.set_cons_succ];refine last.ae (i:=4) (v:=(.pointer (some ⟨X,1,none⟩))) rfl rfl (by aa) (by aa) (by aa) (by aa) (fun _ _ _ h=>h) (Or.inl ⟨by rfl,?_⟩) (by assumption) ?_
 · intro wq aC; af
 try simp only[Act.put,List.setIfInBounds_toArray,List.set_cons_zero,List.set_cons_succ];refine last.ae (i:=5) (v:=(.slice (some ⟨gh,0,none⟩) s.2.1.length ch)) rfl rfl (by aa) (by aa) (by aa) (by aa) (fun _ _ _ h=>h) (Or.inl ⟨by rfl,?_⟩) (by assumption) ?_
 · intro wq aC; have q:=aC.cells.2.1; af
 try simp only[Act.put,List.setIfInBounds_toArray,List.set_cons_zero,List.set_cons_succ];refine last.ae (i:=6) (v:=(.int .i64 (k:Int))) rfl rfl (by aa) (by aa) (by aa) (by aa) (fun _ _ _ h=>h) (Or.inl ⟨by rfl,?_⟩) (by assumption) ?_
 · intro wq aC; af
 try simp only[Act.put,List.setIfInBounds_toArray,List.set_cons_zero,List.set_cons_succ];refine last.ae (i:=7) (v:=(.slice (some ⟨gh,0,none⟩) k ch)) rfl rfl (by aa) (by aa) (by aa) (by aa) (fun _ _ _ h=>h) (Or.inl ⟨by rfl,?_⟩) (by assumption) ?_
 · intro wq aC; af; exact fun h=>absurd h (by omega)
 try simp only[Act.put,List.setIfInBounds_toArray,List.set_cons_zero,List.set_cons_succ];refine last.ae (i:=9) (v:=(.pointer (some ⟨X,0,none⟩))) rfl rfl (by aa) (by aa) (by aa) (by aa) (fun _ _ _ h=>h) (Or.inl ⟨by rfl,?_⟩) (by assumption) ?_
 · intro wq aC; af
 try simp only[Act.put,List.setIfInBounds_toArray,List.set_cons_zero,List.set_cons_succ];refine last.ae (i:=10) (v:=(.pointer (some ⟨X,0,none⟩))) rfl rfl (by aa) (by aa) (by aa) (by aa) (fun _ _ _ h=>h) (Or.inl ⟨by rfl,?_⟩) (by assumption) ?_
 · intro wq aC; af
 try simp only[Act.put,List.setIfInBounds_toArray,List.set_cons_zero,List.set_cons_succ];refine last.ae (i:=11) (v:=(.pointer (some ⟨X,1,none⟩))) rfl rfl (by aa) (by aa) (by aa) (by aa) (fun _ _ _ h=>h) (Or.inl ⟨by rfl,?_⟩) (by assumption) ?_
 · intro wq aC; af
 try simp only[Act.put,List.setIfInBounds_toArray,List.set_cons_zero,List.set_cons_succ];refine last.ae (i:=12) (v:=(.slice (some ⟨gh,0,none⟩) s.2.1.length ch)) rfl rfl (by aa) (by aa) (by aa) (by aa) (fun _ _ _ h=>h) (Or.inl ⟨by rfl,?_⟩) (by assumption) ?_
 · intro wq aC; have q:=aC.cells.2.1; af
 try simp only[Act.put,List.setIfInBounds_toArray,List.set_cons_zero,List.set_cons_succ];refine last.ae (i:=13) (v:=(.int .i64 (k:Int))) rfl rfl (by aa) (by aa) (by aa) (by aa) (fun _ _ _ h=>h) (Or.inl ⟨by rfl,?_⟩) (by assumption) ?_
 · intro wq aC; af
 try simp only[Act.put,List.setIfInBounds_toArray,List.set_cons_zero,List.set_cons_succ];refine last.ae (i:=14) (v:=(.int .i64 ((k:Int)+1))) rfl rfl (by aa) (by aa) (by aa) (by aa) (fun _ _ _ h=>h) (Or.inl ⟨by rfl,?_⟩) (by assumption) ?_
 · intro wq aC; af; rw[IntKind.wrap_i64]; omega
 try simp only[Act.put,List.setIfInBounds_toArray,List.set_cons_zero,List.set_cons_succ];refine last.ae (i:=15) (v:=(.slice (some ad) (s.2.1.length - (k+1)) (ch - (k+1)))) rfl rfl (by aa) (by aa) (by aa) (by aa) (fun _ _ _ h=>h) (Or.inl ⟨by rfl,?_⟩) (by assumption) ?_
 · intro wq aC; af; rw[if_pos ⟨by omega,by omega⟩,Sm.out]
 try simp only[Act.put,List.setIfInBounds_toArray,List.set_cons_zero,List.set_cons_succ];refine last.ax (i:=1) (o:=qO5) (by aa) rfl (fun K hK=>?_)
 af;have xT:Below w9.heap.size w9 (w9.drew.alloc (.cells #[] 98)):=wy.alloc wy.size _;have NK:=Gg.below xT;have qZ:(w9.drew.alloc (.cells #[] 98)).ownsRow w9.heap.size 98 3 (.slice (some ⟨w9.heap.size,0,none⟩) 0 0) 0 []:=World.ownsRow_made w9.drew #[] 0 (Nat.le_refl _) (Nat.zero_le _) rfl;refine hK.out _ _ ?_ (fun aq=>?_)
 · exact NK.box
 clear hK K al;have al:=aq;clear aq;try simp only[Act.put,List.setIfInBounds_toArray,List.set_cons_zero,List.set_cons_succ];refine last.ax (i:=8) (o:=qO6) (by aa) rfl (fun K hK=>?_)
 refine c_ rfl (.tmp 115) (.tmp 121) 41 rfl w9.heap.size 98 i0 (.agg #[.int .i64 0,.int .i64 0,.slice none 0 0]) 3 40 Tryz.underlying41 hi dE dD cO rfl (by decide) _ _ _ rfl qZ ⟨gh,0,none⟩ k ch (bk (s.2.1.take k) (hs.take k)) rfl FO (NK.held.sj k) (ev _ _ A7) fR kn xT.size ?_
 intro vp wp jG ox A9;simp only[Nat.zero_add,List.nil_append] at jG;obtain⟨gp,cp,Sn⟩:=jo jG (fun e=>by have:=(A9.1 e).1; cases this)
 subst Sn;have xN:(w9.drew.alloc (.cells #[] 98)).grownBy wp (some w9.heap.size):=ox;have ES:Below w9.heap.size w9 wp:=xT.grown xN xT.size (fun j e=>by cases e; exact Nat.le_refl _)
 have Jv:=Gg.below ES;refine hK.out _ _ ?_ (fun aq=>?_)
 · exact Jv.box
 clear hK K al;have al:=aq;clear aq;try simp only[Act.put,List.setIfInBounds_toArray,List.set_cons_zero,List.set_cons_succ];refine last.ax (i:=16) (o:=qO7) (by aa) rfl (fun K hK=>?_)
 refine c_ rfl (.tmp 122) (.tmp 129) 41 rfl w9.heap.size 98 i0 (.agg #[.int .i64 0,.int .i64 0,.slice none 0 0]) 3 40 Tryz.underlying41 hi dE dD cO rfl (by decide) _ _ _ rfl jG ad (s.2.1.length - (k+1)) (ch - (k+1)) (bk (s.2.1.drop (k+1)) (hs.drop (k+1))) rfl pE (Sk.out _ Jv.held) (ev _ _ A8) jx eU ES.size ?_
 intro vr wr k_ oy A_;obtain⟨gr,cr,Sp⟩:=jo k_ (fun e=>by have:=(A_.1 e).1; cases this)
 subst Sp;have jW:wp.grownBy wr (some gp):=oy;have mU:Below w9.heap.size w9 wr:=ES.grown jW ES.size (fun j e=>by cases e; exact(jG.lt gp rfl).1)
 have ET:=Gg.below mU;have nO:=bB.erase (l:=s.2.1) (hs:=hs) Gg.held mU k kS (g':=gr) (c':=cr) (n':=k+(s.2.1.length - (k+1))) (by omega) (by
  have h9:=k_;rw[←fY _ _ _ _ (by simp[vf])] at h9
  exact sq h9 (Nat.zero_le _))
 refine hK.out _ _ ?_ (fun aq=>?_)
 · exact ET.box
 clear hK K al;have al:=aq;clear aq;try simp only[Act.put,List.setIfInBounds_toArray,List.set_cons_zero,List.set_cons_succ];refine last.ax (i:=17) (o:=qO8) (by aa) rfl (fun K hK=>?_)
 af;refine hK.out _ _ ?_ (fun aq=>?_)
 · exact al
 clear hK K al;have al:=aq;clear aq;try simp only[Act.put,List.setIfInBounds_toArray,List.set_cons_zero,List.set_cons_succ];refine last.ae (i:=18) (v:=(.pointer (some ⟨X,1,none⟩))) rfl rfl (by aa) (by aa) (by aa) (by aa) (fun _ _ _ h=>h) (Or.inl ⟨by rfl,?_⟩) (by assumption) ?_
 · intro wq aC; af
 try simp only[Act.put,List.setIfInBounds_toArray,List.set_cons_zero,List.set_cons_succ];have er:=ET.box.cells.2.1;have fr:=ET.box.fz 1;refine last.aL (o:=qO9) (by aa) rfl (by aa) (fun K hK=>?_)
 af;refine hK.out _ _ ?_;clear hK K;have Jw:w0.heap.size≤gr:=Nat.le_trans Gg.fr.size (k_.lt gr rfl).1;have EU:=ET.cut nO Jw (fun y hy=>by
  rcases List.mem_append.1 hy with e | e
  · exact List.mem_of_mem_take e
  · exact List.mem_of_mem_drop e)
 have Sq:(s.2.1.take k++s.2.1.drop (k+1)).length=k+(s.2.1.length - (k+1)):=by simp; omega
 rw[Sq] at EU;generalize Sr:wr.setCell ⟨X,1,none⟩ (.slice (some ⟨gr,0,none⟩) (k+(s.2.1.length - (k+1))) cr)=wz at *;clear Sr nO k_ jG jW xN ox oy A9 A_ er fr al qZ;have Jx:Kept N w0 F0 wz X (some ⟨g6,0,none⟩) n6 c6 (some ⟨gr,0,none⟩) cr (.slice sa s.2.2.length sc) (aQ s.1 (cn s.2.1 k),s.2.1.take k++s.2.1.drop (k+1),s.2.2) (hs.take k++hs.drop (k+1)):=EU;have ND:(aQ s.1 (cn s.2.1 k)).length=n6:=EU.m.1;obtain⟨u0,_,_⟩:=EU.box.cells;have zY:¬(n6:Int)≤60:=by omega
 ab fail;an;exact⟨rfl,_,_,_,_,_,_,_,Jx⟩
end bm
namespace bm
open Go Go.RowKit base aE aX
theorem Jz(N:Prop)(w0:World)(F0:List Nat)(w:World)(X:Nat)(am:Option Addr)(nm cm:Nat)(ah:Option Addr)(ch:Nat)(vs:Value)(s:St)(hs:List Value)(kind tx:Int)(a:Option Addr)(len cap:Nat)(ops:List Od)
 (hK:Kept N w0 F0 w X am nm cm ah ch vs s hs) (dT:dS w a len ops) (dV:∀p∈ops,p.2.1.size≤1099511627776) (xK:iA (kind,tx,ops)) (hlen:len≤1099511627776) (Ln:s.2.1.length≤1099511627776) (y6:s.2.2.length≤1099511627776) (AS:s.1.length≤60)
 (h8:∀k,k<s.2.1.length→(cn s.2.1 k).length≤8):
 Calls Tryz.prog 98 #[.pointer (some ⟨X,0,none⟩),.agg #[.int .i64 kind,.int .i64 tx,.slice a len cap]] w (gG N w0 F0 X (one s (kind,tx,ops))):=by
 cases bR:bu (kind,tx,ops) with
 | false=>
  have e:one s (kind,tx,ops)=none:=by unfold one; rw[bR]; rfl
  rw[e];exact Mj N w0 F0 w X am nm cm ah ch vs s hs kind tx a len cap ops hK dT dV bR
 | true=>
  have yW:kind=1∨kind=2∨kind=3:=by
   obtain⟨_,⟨h1,_⟩ | ⟨h1,_⟩⟩:=(bS _).1 bR
   · exact .inl h1
   · rcases h1 with h1 | h1
     · exact .inr (.inl h1)
     · exact .inr (.inr h1)
  rcases yW with rfl | rfl | rfl
  · have e0:one s (1,tx,ops)=if decide (tx∈s.2.2)=true∨locked s.2.1 ops=true∨meets s.1 ops=false then none else some (s.1,s.2.1++[(1,tx,ops)],s.2.2++[tx]):=by
     unfold one; rw[if_pos bR,if_pos rfl]
    rw[e0];cases h1:decide (tx∈s.2.2) with
    | true=>rw[if_pos (.inl rfl)]; exact Mk N w0 F0 w X am nm cm ah ch vs s hs tx a len cap ops hK dT dV bR h1
    | false=>
     cases h2:locked s.2.1 ops with
     | true=>rw[if_pos (.inr (.inl rfl))]; exact Dw N w0 F0 w X am nm cm ah ch vs s hs tx a len cap ops hK dT dV bR h1 h2
     | false=>
      cases h3:meets s.1 ops with
      | false=>rw[if_pos (.inr (.inr rfl))]; exact Ge N w0 F0 w X am nm cm ah ch vs s hs tx a len cap ops hK dT dV bR h1 h2 h3
      | true=>rw[if_neg (by simp)]; exact A4 N w0 F0 w X am nm cm ah ch vs s hs tx a len cap ops hK dT dV bR xK hlen Ln y6 h1 h2 h3
  · cases gI:aR tx s.2.1 with
    | none=>
     have e0:one s (2,tx,ops)=none:=by
      unfold one; rw[if_pos bR,if_neg (by simp)]; simp only[gI]; rw[if_neg (by simp)]
     rw[e0];exact Ju N w0 F0 w X am nm cm ah ch vs s hs tx a len cap ops hK dT dV bR y6 gI
    | some k=>
     have e0:one s (2,tx,ops)=if(aQ s.1 (cn s.2.1 k)).length≤60 then some (aQ s.1 (cn s.2.1 k),s.2.1.take k++s.2.1.drop (k+1),s.2.2) else none:=by
      unfold one; rw[if_pos bR,if_neg (by simp)]; simp only[gI]; unfold ik; simp only[if_true]
     rw[e0];have Sv:=h8 k (jq gI);by_cases zY:(aQ s.1 (cn s.2.1 k)).length≤60
     · rw[if_pos zY]; exact Ba N w0 F0 w X am nm cm ah ch vs s hs tx a len cap ops hK dT dV bR k Ln gI AS Sv zY
     · rw[if_neg zY]; exact(Bb N w0 F0 w X am nm cm ah ch vs s hs tx a len cap ops hK dT dV bR k Ln gI AS Sv (by omega)).mono fun e w' hp=>hp.none
  · cases gI:aR tx s.2.1 with
    | none=>
     by_cases h1:tx∈s.2.2
     · have e0:one s (3,tx,ops)=none:=by
        unfold one; rw[if_pos bR,if_neg (by simp)]; simp only[gI]; rw[if_neg (by simp[h1])]
       rw[e0];exact wX N w0 F0 w X am nm cm ah ch vs s hs tx a len cap ops hK dT dV bR y6 gI (decide_eq_true h1)
     · have e0:one s (3,tx,ops)=some (s.1,s.2.1,s.2.2++[tx]):=by
        unfold one; rw[if_pos bR,if_neg (by simp)]; simp only[gI]; rw[if_pos (by simp[h1])]
       rw[e0];exact A6 N w0 F0 w X am nm cm ah ch vs s hs tx a len cap ops hK dT dV bR y6 gI (decide_eq_false h1)
    | some k=>
     have e0:one s (3,tx,ops)=some (s.1,s.2.1.take k++s.2.1.drop (k+1),s.2.2):=by
      unfold one; rw[if_pos bR,if_neg (by simp)]; simp only[gI]; unfold ik; rw[if_neg (by decide:¬(3:Int)=2),if_pos AS]
     rw[e0];exact EP N w0 F0 w X am nm cm ah ch vs s hs tx a len cap ops hK dT dV bR k Ln gI AS
structure vh (k:Nat) (s:St):Prop where
 jS:s.1.length≤60
 held:s.2.1.length≤k
 seen:s.2.2.length≤k
 ok:∀r∈s.2.1,bu r=true
theorem qq:vh 0 ([],[],[]):=⟨Nat.zero_le _,Nat.le_refl _,Nat.le_refl _,fun _ h=>absurd h List.not_mem_nil⟩
theorem vh.eight{k:Nat}{s:St}(h:vh k s):∀j,j<s.2.1.length→(cn s.2.1 j).length≤8:=by
 intro j hj;rw[mh hj];rcases((bS _).1 (h.ok _ (List.getElem_mem hj))).2 with⟨_,h2⟩ | ⟨_,h2⟩
 · exact((bG _).1 h2).2.2
 · rw[h2]; simp
theorem vh.step{k:Nat}{s t:St}{r:Rc}(h:vh k s)(ho:one s r=some t):vh (k+1) t:=by
 unfold one at ho
 split at ho
 · next bR=>
   split at ho
   · split at ho
     · cases ho
     · cases ho;refine⟨h.jS,by have:=h.held; simp; omega,by have:=h.seen; simp; omega,fun x hx=>?_⟩
       rcases List.mem_append.1 hx with h1 | h1
       · exact h.ok x h1
       · rw[List.mem_singleton.1 h1]; exact bR
   · split at ho
     · split at ho
       · cases ho;exact⟨h.jS,by have:=h.held; simp; omega,by have:=h.seen; simp; omega,h.ok⟩
       · cases ho
     · split at ho
       · next zY=>
         cases ho;refine⟨zY,by have:=h.held; simp; omega,by have:=h.seen; simp; omega,fun x hx=>?_⟩
         rcases List.mem_append.1 hx with h1 | h1
         · exact h.ok x (List.mem_of_mem_take h1)
         · exact h.ok x (List.mem_of_mem_drop h1)
       · cases ho
 · cases ho
end bm
end Go.Proofs.YtmibabclefgljaaGreat
