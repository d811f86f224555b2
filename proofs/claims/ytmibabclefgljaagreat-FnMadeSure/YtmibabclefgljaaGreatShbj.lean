/- CoDs CoX -/
import Derived.Test.YtmibabclefgljaaGreatShbi
import Derived.Test.YtmibabclefgljaaGreatShbc
import Derived.Test.YtmibabclefgljaaGreatShbb
import Derived.Deep.RegionHeldLaw
set_option linter.unusedVariables false
set_option linter.unusedSimpArgs false
set_option maxRecDepth 100000
set_option maxHeartbeats 4000000
namespace Go.Proofs.YtmibabclefgljaaGreat
namespace cos
open Go Go.RowKit base av aN lay kN draw
def Us(P:Co→Prop)(w:World)(v:Value→Value)(e:Ending)(w':World):Prop:=
 ∃(ja:Option Addr) (jn jc:Nat) (la:Option Addr) (ln lc:Nat) (c:Co) (F:List Nat),P c∧e=.returned (v (.agg #[.int .i64 c.1,.int .i64 c.2.1,.int .i64 c.2.2.1,.slice ja jn jc,.slice la ln lc,.int .i64 c.2.2.2.2.2]))∧a7.own w' [.int .i64 c.1,.int .i64 c.2.1,.int .i64 c.2.2.1,.slice ja jn jc,.slice la ln lc,.int .i64 c.2.2.2.2.2] c F∧(∀k∈F,w.heap.size≤k)∧Below w.heap.size w w'
theorem zO(a:Option Addr)(len cap:Nat)(code:List UInt8)(w:World)(h:Sl w a len code)(rU:len≤1099511627776):
 Calls Tryz.prog 19 #[.slice a len cap] w (Us (fun c=>EW c≤400000) w id):=by
 obtain⟨W,hW⟩:∃W,w.alloc (.cells #[.int .i64 0,.int .i64 0,.int .i64 0,.slice none 0 0,.slice none 0 0,.int .i64 0] 28)=W:=⟨_,rfl⟩;have hB:Below w.heap.size w W:=by rw[←hW]; exact aJ
 have hR:au w.heap.size oB [] [.int .i64 0,.int .i64 0,.int .i64 0,.slice none 0 0,.slice none 0 0,.int .i64 0] [] W:=by rw[←hW]; exact aE w _ _
 have iN:=hR.lt;have HW:=Hid.mk' hW;clear hW;go_enter Tryz.func19,Tryz.ntmps19;go_wp2_with fail;rw[HW.out];refine(Sy w W a len cap code h hB rU).mono ?_;rintro e w1 ⟨rfl,gk,aT⟩;have pf:=hR.below aT;have eU:=hB.trans (aT.mono hB.size);have xn:=gk.lt;clear HW;go_wp2_with fail;refine(Uc a len cap 16 w1 (by omega) (by omega) rU).mono ?_
 rintro e w2 ⟨n,hn3,Xi,rfl,jO⟩;subst jO;have JY:=Hid.mk' (QJ w w2 W.heap.size a len cap code n gk (by omega) (by omega))
 go_wp2_with fail;refine JY.out.mono ?_;rintro e w3 ⟨ja,jn,jc,la,ln,lc,c,F,hD,rfl,qt,tR,fD,ky⟩;clear JY;have cC:=pf.grown ky (fun e=>by have:=Option.some.inj e; omega)
 have cJ:Below w.heap.size w w3:=eU.grown ky eU.size (fun k e=>by cases e; exact hB.size)
 have px:=eU.size;have tL:=aT.size;have RZ:=hB.size;have Lc:=ky.size;obtain⟨z0,z1,z2,z3,z4,z5⟩:=cells6 cC;have f0:=cC.fz 0;have f1:=cC.fz 1;have f2:=cC.fz 2;have f3:=cC.fz 3;have f4:=cC.fz 4;have f5:=cC.fz 5;have hS:=cC.whole [.int .i64 c.1,.int .i64 c.2.1,.int .i64 c.2.2.1,.slice ja jn jc,.slice la ln lc,.int .i64 c.2.2.2.2.2] rfl;obtain⟨y0,y1,y2,y3,y4,y5⟩:=cells6 hS.1;have jv:=a7.br qt hS.2 (fun j hj e=>by have:=tR j hj; have:=Option.some.inj e; omega)
 have jy:=cJ.grown hS.2 cJ.size (fun j e=>by cases e; exact Nat.le_refl _)
 have HP:Hid (Us (fun c=>EW c≤400000) w id (.returned (.agg #[.int .i64 c.1,.int .i64 c.2.1,.int .i64 c.2.2.1,.slice ja jn jc,.slice la ln lc,.int .i64 c.2.2.2.2.2])) (bh w3 w.heap.size 0 [.int .i64 c.1,.int .i64 c.2.1,.int .i64 c.2.2.1,.slice ja jn jc,.slice la ln lc,.int .i64 c.2.2.2.2.2])):=⟨ja,jn,jc,la,ln,lc,c,F,hD,rfl,jv,fun k hk=>Nat.le_trans px (tR k hk),jy⟩
 clear jy qt cC pf hR fD gk ky;simp only[bh,Nat.zero_add,Nat.reduceAdd] at HP y0 y1 y2 y3 y4 y5;have HY:=Hid.mk' (And.intro y0 (And.intro y1 (And.intro y2 (And.intro y3 (And.intro y4 y5)))));clear jv hS y0 y1 y2 y3 y4 y5;go_wp2_with fail;obtain⟨y0,y1,y2,y3,y4,y5⟩:=HY.out;refine bodyPost_ret (v:=.agg #[.int .i64 c.1,.int .i64 c.2.1,.int .i64 c.2.2.1,.slice ja jn jc,.slice la ln lc,.int .i64 c.2.2.2.2.2]) ?_ rfl HP.out;simp[results,Tryz.results19,go_sem,y0,y1,y2,y3,y4,y5]
end cos
namespace cos
open Go Go.RowKit base av aN lay kN
theorem M_{c:Co}(h:r9 c)(hl:c.2.2.2.2.1.length≤1048576):r9 (bI c):=by
 unfold bI
 split
 · exact⟨h.n,h.ak,h.next,WalkArith.wf_i64 (by simp only[]; omega)⟩
 · exact h
theorem H8{w:World}{f:Nat}{ja:Option Addr}{jn jc:Nat}{la:Option Addr}{ln lc:Nat}{c:Co}{vs:Array Value}(h:kQ w ja jn jc la ln lc c)(mg:oW c)(hc:Calls Tryz.prog f vs w fun e w'=>km w jn ln (bI c) e w'):Calls Tryz.prog f vs w (zV a7 w (bI c)):=hc.mono fun e w' hp=>Kj (M_ h.wf mg.log) hp
theorem yd(ja:Option Addr)(jn jc:Nat)(la:Option Addr)(ln lc:Nat)(c:Co)(w:World)(h:kQ w ja jn jc la ln lc c)(mg:oW c):
 Calls Tryz.prog 20 #[Gs c.1 c.2.1 c.2.2.1 c.2.2.2.2.2 ja jn jc la ln lc] w (zV a7 w (bI c)):=by
 have fo:=h.wf;have lP:=h.log.1;have UG:=mg.log;obtain⟨W,hW⟩:∃W,(w.alloc (.cells #[.int .i64 c.1,.int .i64 c.2.1,.int .i64 c.2.2.1,.slice ja jn jc,.slice la ln lc,.int .i64 c.2.2.2.2.2] 28)).alloc (.cells #[.int .i64 0,.int .i64 0,.int .i64 0,.slice none 0 0,.slice none 0 0,.int .i64 0] 28)=W:=⟨_,rfl⟩;have hB:Below w.heap.size w W:=by rw[←hW]; exact((Below.refl _ _).alloc (Nat.le_refl _) _).alloc (by simp) _
 have hA:au w.heap.size 28 [] [.int .i64 c.1,.int .i64 c.2.1,.int .i64 c.2.2.1,.slice ja jn jc,.slice la ln lc,.int .i64 c.2.2.2.2.2] [] W:=by rw[←hW]; exact(aE w _ _).below aJ
 have hR:au (w.heap.size+1) 28 [] [.int .i64 0,.int .i64 0,.int .i64 0,.slice none 0 0,.slice none 0 0,.int .i64 0] [] W:=by
  rw[←hW];have:=aE (w.alloc (.cells #[.int .i64 c.1,.int .i64 c.2.1,.int .i64 c.2.2.1,.slice ja jn jc,.slice la ln lc,.int .i64 c.2.2.2.2.2] 28)) [.int .i64 0,.int .i64 0,.int .i64 0,.slice none 0 0,.slice none 0 0,.int .i64 0] 28;rwa[show(w.alloc (.cells #[.int .i64 c.1,.int .i64 c.2.1,.int .i64 c.2.2.1,.slice ja jn jc,.slice la ln lc,.int .i64 c.2.2.2.2.2] 28)).heap.size=w.heap.size+1 by simp] at this
 have lS:=hR.lt;have I0:=Hid.mk' (D5 ja jn jc la ln lc c W (h.below hB) mg);have HCK:=Hid.mk' (fun wx (hx:Below w.heap.size w wx)=>qz ja jn jc la ln lc c wx (h.below hx) mg.fits)
 have HW:=Hid.mk' hW;obtain⟨a0,a1,a2,a3,a4,a5⟩:=cells6 hA;rw[←hW] at a0 a1 a2 a3 a4 a5;clear hW h;go_enter Tryz.func20,Tryz.ntmps20;go_wp2_with fail;rw[HW.out];refine I0.out.mono ?_;rintro e w1 ⟨vs,F,rfl,hO,hF,aT⟩;obtain⟨Oa,Ob,Oc,Oe,Of,Og,rfl⟩:=ny hO;have eU:=hB.trans (aT.mono hB.size);obtain⟨V,hV⟩:∃V,w1.alloc (.cells #[.int .i64 c.1,.int .i64 c.2.1,.int .i64 c.2.2.1,.slice Oa Ob Oc,.slice Oe Of Og,.int .i64 c.2.2.2.2.2] 28)=V:=⟨_,rfl⟩;have mZ:Below w1.heap.size w1 V:=by rw[←hV]; exact aJ
 have kV:=eU.trans (mZ.mono eU.size);have hX:=tH (T:=28) hO;rw[hV] at hX;have hRV:=(hR.below aT).below mZ;have YQ:=(hA.below aT).below mZ;have bx:=aT.size;have eX:=Hid.mk' (HCK.out V kV);have HV:=Hid.mk' hV;have HA:=Hid.mk' YQ;clear a0 a1 a2 a3 a4 a5 I0 HCK hO hV;obtain⟨a0,a1,a2,a3,a4,a5⟩:=cells6 YQ;rw[←HV.out] at a0 a1 a2 a3 a4 a5;clear YQ;cases bD:be c
 · rw[bD] at eX;have HE:Hid (bI c=c):=by show _=_; unfold bI; rw[if_neg (by rw[bD]; decide)]
   clear bD;go_wp2_with fail;rw[HV.out];refine eX.out.mono ?_;rintro e w2 ⟨rfl,aU⟩;have dn:=hRV.below aU;have eY:=hX.below aU;have dw:=kV.trans (aU.mono kV.size);have Lq:=eY.lt;clear a0 a1 a2 a3 a4 a5;obtain⟨q0,q1,q2,q3,q4,q5⟩:=cells6 eY.box;obtain⟨z0,z1,z2,z3,z4,z5⟩:=cells6 dn;have f0:=dn.fz 0;have f1:=dn.fz 1;have f2:=dn.fz 2;have f3:=dn.fz 3;have f4:=dn.fz 4;have f5:=dn.fz 5;have hS:=dn.whole [.int .i64 c.1,.int .i64 c.2.1,.int .i64 c.2.2.1,.slice Oa Ob Oc,.slice Oe Of Og,.int .i64 c.2.2.2.2.2] rfl;obtain⟨y0,y1,y2,y3,y4,y5⟩:=cells6 hS.1;simp only[bh,Nat.zero_add,Nat.reduceAdd] at y0 y1 y2 y3 y4 y5;have fE:=a7.br eY.own hS.2 (fun b hb e=>by have:=hF b hb; cases e; omega)
   have jy:=dw.grown hS.2 dw.size (fun j e=>by cases e; omega)
   have Ut:∀b∈F,w.heap.size≤b:=fun b hb=>by have:=hF b hb; have:=hB.size; omega
   have QK:=Hid.mk' (show zV a7 w (bI c) (.returned (.agg #[.int .i64 c.1,.int .i64 c.2.1,.int .i64 c.2.2.1,.slice Oa Ob Oc,.slice Oe Of Og,.int .i64 c.2.2.2.2.2])) _ from by rw[HE.out]; exact⟨_,_,rfl,fE,Ut,jy⟩)
   clear fE hS eY dn jy Ut;go_wp2_with fail;refine bodyPost_ret (v:=.agg #[.int .i64 c.1,.int .i64 c.2.1,.int .i64 c.2.2.1,.slice Oa Ob Oc,.slice Oe Of Og,.int .i64 c.2.2.2.2.2]) ?_ rfl QK.out;simp[results,Tryz.results20,go_sem,y0,y1,y2,y3,y4,y5]
 · rw[bD] at eX;have HE:Hid (bI c=(c.1,c.2.1,c.2.2.1,c.2.2.2.1,c.2.2.2.2.1,(ln:Int))):=by show _=_; unfold bI; rw[if_pos bD,lP]
   clear bD;go_wp2_with fail;rw[HV.out];refine eX.out.mono ?_;rintro e w2 ⟨rfl,aU⟩;have dn:=hRV.below aU;have eY:=hX.below aU;have dw:=kV.trans (aU.mono kV.size);have Lq:=eY.lt;clear a0 a1 a2 a3 a4 a5;have a4:=(HA.out.below aU).cell 4 _ rfl;simp only[List.length_nil,Nat.zero_add] at a4;have u5:=eY.box.cell 5 _ rfl;have v5:=eY.box.fz 5;have n5:=eY.box.set 5 (by simp) (.int .i64 (ln:Int))
   simp only[List.length_nil,Nat.zero_add] at u5 n5;have nu:au w1.heap.size 28 [] [.int .i64 c.1,.int .i64 c.2.1,.int .i64 c.2.2.1,.slice Oa Ob Oc,.slice Oe Of Og,.int .i64 (ln:Int)] [] _:=n5.1;have cC:=dn.grown n5.2 (by simp; omega)
   have cJ:=dw.grown n5.2 dw.size (fun j e=>by cases e; omega)
   have d_:=a7.br eY.own n5.2 (fun b hb e=>eY.out (by cases e; exact hb))
   obtain⟨q0,q1,q2,q3,q4,q5⟩:=cells6 nu;obtain⟨z0,z1,z2,z3,z4,z5⟩:=cells6 cC;have f0:=cC.fz 0;have f1:=cC.fz 1;have f2:=cC.fz 2;have f3:=cC.fz 3;have f4:=cC.fz 4;have f5:=cC.fz 5;have hS:=cC.whole [.int .i64 c.1,.int .i64 c.2.1,.int .i64 c.2.2.1,.slice Oa Ob Oc,.slice Oe Of Og,.int .i64 (ln:Int)] rfl;obtain⟨y0,y1,y2,y3,y4,y5⟩:=cells6 hS.1;simp only[bh,Nat.zero_add,Nat.reduceAdd] at y0 y1 y2 y3 y4 y5;have dT:=a7.br d_ hS.2 (fun b hb e=>by have:=hF b hb; cases e; omega)
   obtain⟨vx,vy,F1,F2,e,_,hj4,U5,dL,dW⟩:=bn.1 dT;simp only[List.cons.injEq,and_true,true_and] at e;obtain⟨rfl,rfl⟩:=e;have OV:=(bn (c:=(c.1,c.2.1,c.2.2.1,c.2.2.2.1,c.2.2.2.2.1,(ln:Int)))).2 ⟨_,_,F1,F2,rfl,⟨fo.n,fo.ak,fo.next,WalkArith.wf_i64 (by simp only[]; omega)⟩,hj4,U5,dL,dW⟩
   have jy:=cJ.grown hS.2 cJ.size (fun j e=>by cases e; omega)
   have Ut:∀b∈F,w.heap.size≤b:=fun b hb=>by have:=hF b hb; have:=hB.size; omega
   have QK:=Hid.mk' (show zV a7 w (bI c) (.returned (.agg #[.int .i64 c.1,.int .i64 c.2.1,.int .i64 c.2.2.1,.slice Oa Ob Oc,.slice Oe Of Og,.int .i64 (ln:Int)])) _ from by rw[HE.out]; exact⟨_,_,rfl,OV,Ut,jy⟩)
   clear dT d_ hj4 U5 hS eY dn n5 dL dW OV jy Ut;go_wp2_with fail;refine bodyPost_ret (v:=.agg #[.int .i64 c.1,.int .i64 c.2.1,.int .i64 c.2.2.1,.slice Oa Ob Oc,.slice Oe Of Og,.int .i64 (ln:Int)]) ?_ rfl QK.out;simp[results,Tryz.results20,go_sem,y0,y1,y2,y3,y4,y5]
end cos
end Go.Proofs.YtmibabclefgljaaGreat
