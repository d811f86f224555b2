/- CoDs CoX -/
import Derived.Test.YtmibabclefgljaaGreatShbi
import Derived.Test.YtmibabclefgljaaGreatShbc
import Derived.Test.YtmibabclefgljaaGreatShbb
import Derived.Deep.RegionHeldLaw
set_option linter.unusedVariables false
set_option linter.unusedSimpArgs false
set_option maxRecDepth 100000
set_option maxHeartbeats 4000000
namespace Go.Proofs.YtmibabclefgljaaGreat
namespace cos
open Go Go.RowKit base aE aX lay lh draw
def UD(P:Co→Prop)(w:World)(v:Value→Value)(e:Ending)(w':World):Prop:=
 ∃(ja:Option Addr) (jn jc:Nat) (la:Option Addr) (ln lc:Nat) (c:Co) (F:List Nat),P c∧e=.returned (v (.agg #[.int .i64 c.1,.int .i64 c.2.1,.int .i64 c.2.2.1,.slice ja jn jc,.slice la ln lc,.int .i64 c.2.2.2.2.2]))∧bp.own w' [.int .i64 c.1,.int .i64 c.2.1,.int .i64 c.2.2.1,.slice ja jn jc,.slice la ln lc,.int .i64 c.2.2.2.2.2] c F∧(∀k∈F,w.heap.size≤k)∧Below w.heap.size w w'
theorem Ad(a:Option Addr)(len cap:Nat)(code:List UInt8)(w:World)(h:Sl w a len code)(sw:len≤1099511627776):
 Calls Tryz.prog 19 #[.slice a len cap] w (UD (fun c=>Fa c≤400000) w id):=by
 obtain⟨W,hW⟩:∃W,w.alloc (.cells #[.int .i64 0,.int .i64 0,.int .i64 0,.slice none 0 0,.slice none 0 0,.int .i64 0] 28)=W:=⟨_,rfl⟩;have hB:Below w.heap.size w W:=by rw[←hW]; exact aT
 have hR:aD w.heap.size oS [] [.int .i64 0,.int .i64 0,.int .i64 0,.slice none 0 0,.slice none 0 0,.int .i64 0] [] W:=by rw[←hW]; exact aO w _ _
 have jf:=hR.lt;have HW:=Hid.mk' hW;clear hW;aj Tryz.func19,Tryz.ntmps19;ab fail;rw[HW.out];refine(SI w W a len cap code h hB sw).mono ?_;rintro e w1 ⟨rfl,gL,a_⟩;have pH:=hR.below a_;have fi:=hB.trans (a_.mono hB.size);have xJ:=gL.lt;clear HW;ab fail;refine(Um a len cap 16 w1 (by omega) (by omega) sw).mono ?_
 rintro e w2 ⟨n,hn3,Xu,rfl,j_⟩;subst j_;have J_:=Hid.mk' (QS w w2 W.heap.size a len cap code n gL (by omega) (by omega))
 ab fail;refine J_.out.mono ?_;rintro e w3 ⟨ja,jn,jc,la,ln,lc,c,F,hD,rfl,qN,uj,fR,kQ⟩;clear J_;have cR:=pH.grown kQ (fun e=>by have:=Option.some.inj e; omega)
 have cY:Below w.heap.size w w3:=fi.grown kQ fi.size (fun k e=>by cases e; exact hB.size)
 have pQ:=fi.size;have ud:=a_.size;have R9:=hB.size;have Lo:=kQ.size;obtain⟨z0,z1,z2,z3,z4,z5⟩:=cells6 cR;have f0:=cR.fz 0;have f1:=cR.fz 1;have f2:=cR.fz 2;have f3:=cR.fz 3;have f4:=cR.fz 4;have f5:=cR.fz 5;have hS:=cR.whole [.int .i64 c.1,.int .i64 c.2.1,.int .i64 c.2.2.1,.slice ja jn jc,.slice la ln lc,.int .i64 c.2.2.2.2.2] rfl;obtain⟨y0,y1,y2,y3,y4,y5⟩:=cells6 hS.1;have jL:=bp.bH qN hS.2 (fun j hj e=>by have:=uj j hj; have:=Option.some.inj e; omega)
 have jP:=cY.grown hS.2 cY.size (fun j e=>by cases e; exact Nat.le_refl _)
 have HP:Hid (UD (fun c=>Fa c≤400000) w id (.returned (.agg #[.int .i64 c.1,.int .i64 c.2.1,.int .i64 c.2.2.1,.slice ja jn jc,.slice la ln lc,.int .i64 c.2.2.2.2.2])) (bx w3 w.heap.size 0 [.int .i64 c.1,.int .i64 c.2.1,.int .i64 c.2.2.1,.slice ja jn jc,.slice la ln lc,.int .i64 c.2.2.2.2.2])):=⟨ja,jn,jc,la,ln,lc,c,F,hD,rfl,jL,fun k hk=>Nat.le_trans pQ (uj k hk),jP⟩
 clear jP qN cR pH hR fR gL kQ;simp only[bx,Nat.zero_add,Nat.reduceAdd] at HP y0 y1 y2 y3 y4 y5;have HY:=Hid.mk' (And.intro y0 (And.intro y1 (And.intro y2 (And.intro y3 (And.intro y4 y5)))));clear jL hS y0 y1 y2 y3 y4 y5;ab fail;obtain⟨y0,y1,y2,y3,y4,y5⟩:=HY.out;refine bodyPost_ret (v:=.agg #[.int .i64 c.1,.int .i64 c.2.1,.int .i64 c.2.2.1,.slice ja jn jc,.slice la ln lc,.int .i64 c.2.2.2.2.2]) ?_ rfl HP.out;simp[results,Tryz.results19,go_sem,y0,y1,y2,y3,y4,y5]
end cos
namespace cos
open Go Go.RowKit base aE aX lay lh
theorem Nn{c:Co}(h:sE c)(hl:c.2.2.2.2.1.length≤1048576):sE (bW c):=by
 unfold bW
 split
 · exact⟨h.n,h.av,h.next,WalkArith.wf_i64 (by simp only[]; omega)⟩
 · exact h
theorem Ij{w:World}{f:Nat}{ja:Option Addr}{jn jc:Nat}{la:Option Addr}{ln lc:Nat}{c:Co}{vs:Array Value}(h:ll w ja jn jc la ln lc c)(mG:py c)(hc:Calls Tryz.prog f vs w fun e w'=>kI w jn ln (bW c) e w'):Calls Tryz.prog f vs w (Ah bp w (bW c)):=hc.mono fun e w' hp=>Kv (Nn h.wf mG.log) hp
theorem yB(ja:Option Addr)(jn jc:Nat)(la:Option Addr)(ln lc:Nat)(c:Co)(w:World)(h:ll w ja jn jc la ln lc c)(mG:py c):
 Calls Tryz.prog 20 #[GI c.1 c.2.1 c.2.2.1 c.2.2.2.2.2 ja jn jc la ln lc] w (Ah bp w (bW c)):=by
 have fH:=h.wf;have mb:=h.log.1;have UR:=mG.log;obtain⟨W,hW⟩:∃W,(w.alloc (.cells #[.int .i64 c.1,.int .i64 c.2.1,.int .i64 c.2.2.1,.slice ja jn jc,.slice la ln lc,.int .i64 c.2.2.2.2.2] 28)).alloc (.cells #[.int .i64 0,.int .i64 0,.int .i64 0,.slice none 0 0,.slice none 0 0,.int .i64 0] 28)=W:=⟨_,rfl⟩;have hB:Below w.heap.size w W:=by rw[←hW]; exact((Below.refl _ _).alloc (Nat.le_refl _) _).alloc (by simp) _
 have hA:aD w.heap.size 28 [] [.int .i64 c.1,.int .i64 c.2.1,.int .i64 c.2.2.1,.slice ja jn jc,.slice la ln lc,.int .i64 c.2.2.2.2.2] [] W:=by rw[←hW]; exact(aO w _ _).below aT
 have hR:aD (w.heap.size+1) 28 [] [.int .i64 0,.int .i64 0,.int .i64 0,.slice none 0 0,.slice none 0 0,.int .i64 0] [] W:=by
  rw[←hW];have:=aO (w.alloc (.cells #[.int .i64 c.1,.int .i64 c.2.1,.int .i64 c.2.2.1,.slice ja jn jc,.slice la ln lc,.int .i64 c.2.2.2.2.2] 28)) [.int .i64 0,.int .i64 0,.int .i64 0,.slice none 0 0,.slice none 0 0,.int .i64 0] 28;oU [show(w.alloc (.cells #[.int .i64 c.1,.int .i64 c.2.1,.int .i64 c.2.2.1,.slice ja jn jc,.slice la ln lc,.int .i64 c.2.2.2.2.2] 28)).heap.size=w.heap.size+1 by simp] at this
 have mg:=hR.lt;have Ja:=Hid.mk' (Ek ja jn jc la ln lc c W (h.below hB) mG);have HCK:=Hid.mk' (fun wx (hx:Below w.heap.size w wx)=>qS ja jn jc la ln lc c wx (h.below hx) mG.fits)
 have HW:=Hid.mk' hW;obtain⟨a0,a1,a2,a3,a4,a5⟩:=cells6 hA;rw[←hW] at a0 a1 a2 a3 a4 a5;clear hW h;aj Tryz.func20,Tryz.ntmps20;ab fail;rw[HW.out];refine Ja.out.mono ?_;rintro e w1 ⟨vs,F,rfl,hO,hF,a_⟩;obtain⟨Oo,Oq,Ot,Ou,Ov,Ow,rfl⟩:=nQ hO;have fi:=hB.trans (a_.mono hB.size);obtain⟨V,hV⟩:∃V,w1.alloc (.cells #[.int .i64 c.1,.int .i64 c.2.1,.int .i64 c.2.2.1,.slice Oo Oq Ot,.slice Ou Ov Ow,.int .i64 c.2.2.2.2.2] 28)=V:=⟨_,rfl⟩;have nw:Below w1.heap.size w1 V:=by rw[←hV]; exact aT
 have lu:=fi.trans (nw.mono fi.size);have hX:=t_ (T:=28) hO;rw[hV] at hX;have hRV:=(hR.below a_).below nw;have Y3:=(hA.below a_).below nw;have bL:=a_.size;have fl:=Hid.mk' (HCK.out V lu);have HV:=Hid.mk' hV;have HA:=Hid.mk' Y3;clear a0 a1 a2 a3 a4 a5 Ja HCK hO hV;obtain⟨a0,a1,a2,a3,a4,a5⟩:=cells6 Y3;rw[←HV.out] at a0 a1 a2 a3 a4 a5;clear Y3;cases bR:bt c
 · rw[bR] at fl;have HE:Hid (bW c=c):=by show _=_; unfold bW; rw[if_neg (by rw[bR]; decide)]
   clear bR;ab fail;rw[HV.out];refine fl.out.mono ?_;rintro e w2 ⟨rfl,be⟩;have dF:=hRV.below be;have fm:=hX.below be;have dL:=lu.trans (be.mono lu.size);have LB:=fm.lt;clear a0 a1 a2 a3 a4 a5;obtain⟨q0,q1,q2,q3,q4,q5⟩:=cells6 fm.box;obtain⟨z0,z1,z2,z3,z4,z5⟩:=cells6 dF;have f0:=dF.fz 0;have f1:=dF.fz 1;have f2:=dF.fz 2;have f3:=dF.fz 3;have f4:=dF.fz 4;have f5:=dF.fz 5;have hS:=dF.whole [.int .i64 c.1,.int .i64 c.2.1,.int .i64 c.2.2.1,.slice Oo Oq Ot,.slice Ou Ov Ow,.int .i64 c.2.2.2.2.2] rfl;obtain⟨y0,y1,y2,y3,y4,y5⟩:=cells6 hS.1;simp only[bx,Nat.zero_add,Nat.reduceAdd] at y0 y1 y2 y3 y4 y5;have fS:=bp.bH fm.own hS.2 (fun b hb e=>by have:=hF b hb; cases e; omega)
   have jP:=dL.grown hS.2 dL.size (fun j e=>by cases e; omega)
   have UE:∀b∈F,w.heap.size≤b:=fun b hb=>by have:=hF b hb; have:=hB.size; omega
   have QT:=Hid.mk' (show Ah bp w (bW c) (.returned (.agg #[.int .i64 c.1,.int .i64 c.2.1,.int .i64 c.2.2.1,.slice Oo Oq Ot,.slice Ou Ov Ow,.int .i64 c.2.2.2.2.2])) _ from by rw[HE.out]; exact⟨_,_,rfl,fS,UE,jP⟩)
   clear fS hS fm dF jP UE;ab fail;refine bodyPost_ret (v:=.agg #[.int .i64 c.1,.int .i64 c.2.1,.int .i64 c.2.2.1,.slice Oo Oq Ot,.slice Ou Ov Ow,.int .i64 c.2.2.2.2.2]) ?_ rfl QT.out;simp[results,Tryz.results20,go_sem,y0,y1,y2,y3,y4,y5]
 · rw[bR] at fl;have HE:Hid (bW c=(c.1,c.2.1,c.2.2.1,c.2.2.2.1,c.2.2.2.2.1,(ln:Int))):=by show _=_; unfold bW; rw[if_pos bR,mb]
   clear bR;ab fail;rw[HV.out];refine fl.out.mono ?_;rintro e w2 ⟨rfl,be⟩;have dF:=hRV.below be;have fm:=hX.below be;have dL:=lu.trans (be.mono lu.size);have LB:=fm.lt;clear a0 a1 a2 a3 a4 a5;have a4:=(HA.out.below be).cell 4 _ rfl;simp only[List.length_nil,Nat.zero_add] at a4;have u5:=fm.box.cell 5 _ rfl;have v5:=fm.box.fz 5;have n5:=fm.box.set 5 (by simp) (.int .i64 (ln:Int))
   simp only[List.length_nil,Nat.zero_add] at u5 n5;have nN:aD w1.heap.size 28 [] [.int .i64 c.1,.int .i64 c.2.1,.int .i64 c.2.2.1,.slice Oo Oq Ot,.slice Ou Ov Ow,.int .i64 (ln:Int)] [] _:=n5.1;have cR:=dF.grown n5.2 (by simp; omega)
   have cY:=dL.grown n5.2 dL.size (fun j e=>by cases e; omega)
   have ew:=bp.bH fm.own n5.2 (fun b hb e=>fm.out (by cases e; exact hb))
   obtain⟨q0,q1,q2,q3,q4,q5⟩:=cells6 nN;obtain⟨z0,z1,z2,z3,z4,z5⟩:=cells6 cR;have f0:=cR.fz 0;have f1:=cR.fz 1;have f2:=cR.fz 2;have f3:=cR.fz 3;have f4:=cR.fz 4;have f5:=cR.fz 5;have hS:=cR.whole [.int .i64 c.1,.int .i64 c.2.1,.int .i64 c.2.2.1,.slice Oo Oq Ot,.slice Ou Ov Ow,.int .i64 (ln:Int)] rfl;obtain⟨y0,y1,y2,y3,y4,y5⟩:=cells6 hS.1;simp only[bx,Nat.zero_add,Nat.reduceAdd] at y0 y1 y2 y3 y4 y5;have ej:=bp.bH ew hS.2 (fun b hb e=>by have:=hF b hb; cases e; omega)
   obtain⟨vx,vy,F1,F2,e,_,hj4,Vf,d_,eo⟩:=bC.1 ej;simp only[List.cons.injEq,and_true,true_and] at e;obtain⟨rfl,rfl⟩:=e;have O5:=(bC (c:=(c.1,c.2.1,c.2.2.1,c.2.2.2.1,c.2.2.2.2.1,(ln:Int)))).2 ⟨_,_,F1,F2,rfl,⟨fH.n,fH.av,fH.next,WalkArith.wf_i64 (by simp only[]; omega)⟩,hj4,Vf,d_,eo⟩
   have jP:=cY.grown hS.2 cY.size (fun j e=>by cases e; omega)
   have UE:∀b∈F,w.heap.size≤b:=fun b hb=>by have:=hF b hb; have:=hB.size; omega
   have QT:=Hid.mk' (show Ah bp w (bW c) (.returned (.agg #[.int .i64 c.1,.int .i64 c.2.1,.int .i64 c.2.2.1,.slice Oo Oq Ot,.slice Ou Ov Ow,.int .i64 (ln:Int)])) _ from by rw[HE.out]; exact⟨_,_,rfl,O5,UE,jP⟩)
   clear ej ew hj4 Vf hS fm dF n5 d_ eo O5 jP UE;ab fail;refine bodyPost_ret (v:=.agg #[.int .i64 c.1,.int .i64 c.2.1,.int .i64 c.2.2.1,.slice Oo Oq Ot,.slice Ou Ov Ow,.int .i64 (ln:Int)]) ?_ rfl QT.out;simp[results,Tryz.results20,go_sem,y0,y1,y2,y3,y4,y5]
end cos
end Go.Proofs.YtmibabclefgljaaGreat
