/- CoAn -/
import Derived.Test.YtmibabclefgljaaGreatShbh
set_option linter.unusedVariables false
set_option linter.unusedSimpArgs false
namespace Go.Proofs.YtmibabclefgljaaGreat
namespace cos
open Go Go.RowKit base aE aX lay lh draw
structure zP (w0 w wr:World) (gc:Nat) (a:Option Addr) (len cap:Nat) (code:List UInt8) (RB X:Nat) (ja:Option Addr) (jn jc:Nat) (la:Option Addr) (ln lc:Nat) (c:Co) (F:List Nat):Prop where
 cur:gY w0 wr gc a len cap code
 ins:jt wr X oS [] [] ja jn jc la ln lc c F
 dr:sE c
 new:∀k∈X::F,w.heap.size≤k
 old:gc<w.heap.size
 base:w0.heap.size≤w.heap.size
 fr:w.grownBy wr (some gc)
 rb:aD RB oS [] [.int .i64 0,.int .i64 0,.int .i64 0,.slice none 0 0,.slice none 0 0,.int .i64 0] [] wr
 rX:RB≠X
 rF:RB∉F
 rn:w.heap.size≤RB
section
variable{w0 w wr w':World}{gc:Nat}{a:Option Addr}{len cap:Nat}{code:List UInt8}{RB X:Nat}{ja la:Option Addr}{jn jc ln lc:Nat}{c c':Co}{F:List Nat}
theorem zP.gX(h:zP w0 w wr gc a len cap code RB X ja jn jc la ln lc c F):gc≠X∧gc∉F∧gc≠RB:=by
 have h1:=h.old;have h2:=h.new;have h3:=h.rn;refine⟨fun e=>?_,fun e=>?_,fun e=>?_⟩
 · have:=h2 X List.mem_cons_self; omega
 · have:=h2 gc (List.mem_cons_of_mem _ e); omega
 · omega
theorem zP.step(h:zP w0 w wr gc a len cap code RB X ja jn jc la ln lc c F)(Cv:gY w0 w' gc a len cap code)(hg:wr.grownBy w' (some gc)):zP w0 w w' gc a len cap code RB X ja jn jc la ln lc c F:=by
 obtain⟨g1,g2,g3⟩:=h.gX;exact⟨Cv,h.ins.vC hg g1 g2,h.dr,h.new,h.old,h.base,az h.fr hg,h.rb.grown hg (fun e=>g3 (Option.some.inj e).symm),h.rX,h.rF,h.rn⟩
theorem zP.more(h:zP w0 w wr gc a len cap code RB X ja jn jc la ln lc c F)(hb:Below wr.heap.size wr w'):zP w0 w w' gc a len cap code RB X ja jn jc la ln lc c F:=
 ⟨h.cur.below hb,h.ins.below hb,h.dr,h.new,h.old,h.base,aZ h.fr hb,h.rb.below hb,h.rX,h.rF,h.rn⟩
theorem zP.outside{J:Nat}(h:zP w0 w wr gc a len cap code RB X ja jn jc la ln lc c F)(hg:wr.grownBy w' (some J))(hJ:w.heap.size≤J)(h1:J≠X)(h2:J∉F)(h3:J≠RB):zP w0 w w' gc a len cap code RB X ja jn jc la ln lc c F:=by
 have xJ:gc≠J:=fun e=>by have:=h.old; omega
 refine⟨h.cur.grown hg (fun e=>xJ (Option.some.inj e)) (fun k e=>by cases e; exact Nat.le_trans h.base hJ),h.ins.vC hg h1 h2,h.dr,h.new,h.old,h.base,?_,h.rb.grown hg (fun e=>h3 (Option.some.inj e).symm),h.rX,h.rF,h.rn⟩
 exact⟨hg.os.trans h.fr.os,hg.tape.trans h.fr.tape,hg.output.trans h.fr.output,Nat.le_trans h.fr.size hg.size,fun k hk bh=>(hg.block k (Nat.lt_of_lt_of_le hk h.fr.size) (fun e=>by have:=Option.some.inj e; omega)).trans (h.fr.block k hk bh)⟩
theorem zP.wrote(h:zP w0 w wr gc a len cap code RB X ja jn jc la ln lc c F)(hw:fI wr X oS [] [] F c' w')(hd:sE c'):∃ja jn jc la ln lc F',zP w0 w w' gc a len cap code RB X ja jn jc la ln lc c' F':=by
 obtain⟨g1,g2,g3⟩:=h.gX;obtain⟨H7,H8,H9,BA,BB,BC,F',h1,h2,h3⟩:=hw;have jg:=h.fr.size;have kU:∀k∈F',w.heap.size≤k:=fun k hk=>by
  rcases h3 k hk with e | e
  · exact h.new k (List.mem_cons_of_mem _ e)
  · omega
 refine⟨H7,H8,H9,BA,BB,BC,F',vY h.cur h2 (fun e=>?_) (fun k hk=>Nat.le_trans h.base (h.new k hk)),h1,hd,fun k hk=>?_,h.old,h.base,?_,h.rb.frame h2 (fun e=>?_),h.rX,fun e=>?_,h.rn⟩
 · rcases List.mem_cons.1 e with e | e
   · exact g1 e
   · exact g2 e
 · rcases List.mem_cons.1 hk with e | e
   · rw[e]; exact h.new X List.mem_cons_self
   · exact kU k e
 · exact⟨h2.os.trans h.fr.os,h2.tape.trans h.fr.tape,h2.output.trans h.fr.output,Nat.le_trans h.fr.size h2.size,fun k hk bh=>(h2.block k (Nat.lt_of_lt_of_le hk h.fr.size) (fun e=>by have:=h.new k e; omega)).trans (h.fr.block k hk bh)⟩
 · rcases List.mem_cons.1 e with e | e
   · exact h.rX e
   · exact h.rF e
 · rcases h3 RB e with e | e
   · exact h.rF e
   · have:=h.rb.lt; omega
end
section
variable{w:World}{X:Nat}{ja la:Option Addr}{jn jc ln lc:Nat}{c:Co}{F:List Nat}
theorem mF{T:TypeId}{v0 v1 v2 v5:Value}{H7 BA:Option Addr}{H8 H9 BB BC:Nat}(h:aD X T [] [v0,v1,v2,.slice H7 H8 H9,.slice BA BB BC,v5] [] w)(h2:aD X T [] [v0,v1,v2,.slice ja jn jc,.slice la ln lc,v5] [] w):H7=ja∧H8=jn∧H9=jc∧BA=la∧BB=ln∧BC=lc:=by
 have a3:=(cells6 h).2.2.2.1;have b3:=(cells6 h2).2.2.2.1;have a4:=(cells6 h).2.2.2.2.1;have b4:=(cells6 h2).2.2.2.2.1;rw[b3] at a3;rw[b4] at a4;have e3:=Option.some.inj a3;have e4:=Option.some.inj a4;simp only[Value.slice.injEq] at e3 e4;exact⟨e3.1.symm,e3.2.1.symm,e3.2.2.symm,e4.1.symm,e4.2.1.symm,e4.2.2.symm⟩
theorem jt.YV(h:jt w X oS [] [] ja jn jc la ln lc c F)(z:Int)(hz:(Lit.int .i64 z).wf=true):jt (w.setCell ⟨X,0,none⟩ (.int .i64 z)) X oS [] [] ja jn jc la ln lc (z,c.2.1,c.2.2.1,c.2.2.2.1,c.2.2.2.2.1,c.2.2.2.2.2) F∧w.grownBy (w.setCell ⟨X,0,none⟩ (.int .i64 z)) (some X):=by
 have s:=h.box.set 0 (by simp) (.int .i64 z)
 simp only[List.length_nil,Nat.zero_add] at s;have hO:=bp.bH h.own s.2 (fun j hj e=>h.out (by rw[←Option.some.inj e]; exact hj))
 obtain⟨vx,vy,F1,F2,e,hw,hj,hl,d_,eo⟩:=bC.1 hO;simp only[List.cons.injEq,and_true,true_and] at e;obtain⟨rfl,rfl⟩:=e;exact⟨⟨s.1,bC.2 ⟨_,_,F1,F2,rfl,⟨hz,hw.av,hw.next,hw.sure⟩,hj,hl,d_,eo⟩,h.out⟩,s.2⟩
theorem jt.YW(h:jt w X oS [] [] ja jn jc la ln lc c F)(z:Int)(hz:(Lit.int .i64 z).wf=true):jt (w.setCell ⟨X,1,none⟩ (.int .i64 z)) X oS [] [] ja jn jc la ln lc (c.1,z,c.2.2.1,c.2.2.2.1,c.2.2.2.2.1,c.2.2.2.2.2) F∧w.grownBy (w.setCell ⟨X,1,none⟩ (.int .i64 z)) (some X):=by
 have s:=h.box.set 1 (by simp) (.int .i64 z)
 simp only[List.length_nil,Nat.zero_add] at s;have hO:=bp.bH h.own s.2 (fun j hj e=>h.out (by rw[←Option.some.inj e]; exact hj))
 obtain⟨vx,vy,F1,F2,e,hw,hj,hl,d_,eo⟩:=bC.1 hO;simp only[List.cons.injEq,and_true,true_and] at e;obtain⟨rfl,rfl⟩:=e;exact⟨⟨s.1,bC.2 ⟨_,_,F1,F2,rfl,⟨hw.n,hz,hw.next,hw.sure⟩,hj,hl,d_,eo⟩,h.out⟩,s.2⟩
theorem jt.YX(h:jt w X oS [] [] ja jn jc la ln lc c F)(z:Int)(hz:(Lit.int .i64 z).wf=true):jt (w.setCell ⟨X,2,none⟩ (.int .i64 z)) X oS [] [] ja jn jc la ln lc (c.1,c.2.1,z,c.2.2.2.1,c.2.2.2.2.1,c.2.2.2.2.2) F∧w.grownBy (w.setCell ⟨X,2,none⟩ (.int .i64 z)) (some X):=by
 have s:=h.box.set 2 (by simp) (.int .i64 z)
 simp only[List.length_nil,Nat.zero_add] at s;have hO:=bp.bH h.own s.2 (fun j hj e=>h.out (by rw[←Option.some.inj e]; exact hj))
 obtain⟨vx,vy,F1,F2,e,hw,hj,hl,d_,eo⟩:=bC.1 hO;simp only[List.cons.injEq,and_true,true_and] at e;obtain⟨rfl,rfl⟩:=e;exact⟨⟨s.1,bC.2 ⟨_,_,F1,F2,rfl,⟨hw.n,hw.av,hz,hw.sure⟩,hj,hl,d_,eo⟩,h.out⟩,s.2⟩
theorem jt.YY(h:jt w X oS [] [] ja jn jc la ln lc c F)(z:Int)(hz:(Lit.int .i64 z).wf=true):jt (w.setCell ⟨X,5,none⟩ (.int .i64 z)) X oS [] [] ja jn jc la ln lc (c.1,c.2.1,c.2.2.1,c.2.2.2.1,c.2.2.2.2.1,z) F∧w.grownBy (w.setCell ⟨X,5,none⟩ (.int .i64 z)) (some X):=by
 have s:=h.box.set 5 (by simp) (.int .i64 z)
 simp only[List.length_nil,Nat.zero_add] at s;have hO:=bp.bH h.own s.2 (fun j hj e=>h.out (by rw[←Option.some.inj e]; exact hj))
 obtain⟨vx,vy,F1,F2,e,hw,hj,hl,d_,eo⟩:=bC.1 hO;simp only[List.cons.injEq,and_true,true_and] at e;obtain⟨rfl,rfl⟩:=e;exact⟨⟨s.1,bC.2 ⟨_,_,F1,F2,rfl,⟨hw.n,hw.av,hw.next,hz⟩,hj,hl,d_,eo⟩,h.out⟩,s.2⟩
end
def j7(w0 w:World)(gc:Nat)(a:Option Addr)(len cap:Nat)(code:List UInt8)(e:Ending)(w':World):Prop:=
 ∃(ja:Option Addr) (jn jc:Nat) (la:Option Addr) (ln lc:Nat) (c:Co) (F:List Nat),Fa c≤400000∧e=.returned (.agg #[.int .i64 c.1,.int .i64 c.2.1,.int .i64 c.2.2.1,.slice ja jn jc,.slice la ln lc,.int .i64 c.2.2.2.2.2])∧bp.own w' [.int .i64 c.1,.int .i64 c.2.1,.int .i64 c.2.2.1,.slice ja jn jc,.slice la ln lc,.int .i64 c.2.2.2.2.2] c F∧(∀k∈F,w.heap.size≤k)∧gY w0 w' gc a len cap code∧w.grownBy w' (some gc)
set_option maxRecDepth 100000 in
set_option maxHeartbeats 12000000 in
theorem QS(w0 w:World)(gc:Nat)(a:Option Addr)(len cap:Nat)(code:List UInt8)(ff:Nat)(h:gY w0 w gc a len cap code)(hm:0<ff)(jU:ff≤800):
 Calls Tryz.prog 53 #[.pointer (some ⟨gc,0,none⟩),.int .i64 (ff:Int)] w fun e w'=>j7 w0 w gc a len cap code e w':=by
 have cZ:=h.lt;have rS:=h.fp.size;obtain⟨wa,jw⟩:∃wa,w.alloc (.cells #[.int .i64 0,.int .i64 0,.int .i64 0,.slice none 0 0,.slice none 0 0,.int .i64 0] 28)=wa:=⟨_,rfl⟩;have bw:Below w.heap.size w wa:=by rw[←jw]; exact aT
 have Hz:wa.heap.size=w.heap.size+1:=by rw[←jw]; simp
 have x6:aD w.heap.size oS [] [.int .i64 0,.int .i64 0,.int .i64 0,.slice none 0 0,.slice none 0 0,.int .i64 0] [] wa:=by rw[←jw]; exact aO w _ _
 have x7:=Hid.mk' jw;have J_:=Hid.mk' (Nl w0 wa gc a len cap code ff (h.below bw) hm jU);clear jw;aj Tryz.func53,Tryz.ntmps53;ab fail;rw[x7.out];refine J_.out.mono ?_;rintro e w1 ⟨ja,jn,jc,la,ln,lc,c,F,YZ,_,rfl,qN,uj,gL,ij⟩;clear J_ x7;obtain⟨v1,o8⟩:∃v1,w1.alloc (.cells #[.int .i64 c.1,.int .i64 c.2.1,.int .i64 c.2.2.1,.slice ja jn jc,.slice la ln lc,.int .i64 c.2.2.2.2.2] 28)=v1:=⟨_,rfl⟩;have a_:Below w1.heap.size w1 v1:=by rw[←o8]; exact aT
 have wo:=t_ (T:=oS) qN;rw[o8] at wo;have ud:=ij.size;have fH:sE c:=by obtain⟨_,_,_,_,_,hw,_⟩:=bC.1 qN; exact hw
 have Hj:=YZ.size;have sw:ln≤1000:=by have h1:=(uv (bp.eK qN)).log.1; have:=YZ.jS; omega
 have pn:Hid (ln=c.2.2.2.2.1.length):=(uv (bp.eK qN)).log.1.symm;have pL:zP w0 w v1 gc a len cap code w.heap.size w1.heap.size ja jn jc la ln lc c F:=
  ⟨gL.below a_,⟨wo.box,wo.own,wo.out⟩,fH,fun k hk=>by
   rcases List.mem_cons.1 hk with e | e
   · omega
   · have:=uj k e; omega,cZ,rS,aZ (az (aZ (World.grownBy.refl _ _) bw) ij) a_,(x6.grown ij (fun e=>by have:=Option.some.inj e; omega)).below a_,by omega,fun e=>by have:=uj _ e; omega,Nat.le_refl _⟩
 have vD:=Hid.mk' (cH w0 v1 gc a len cap code 12 pL.cur (by omega) (by omega))
 rw[←o8] at vD;have BG:=Hid.mk' o8;clear o8 wo qN x6 gL ij a_ bw YZ Hz;ab fail;refine vD.out.mono ?_;rw[BG.out];rintro e w2 ⟨x,hx,rfl,ei,lU⟩;have dh:=pL.step ei lU;clear vD BG pL ei lU;by_cases x0:x=0
 · subst x0;obtain⟨w4,iX⟩:∃w4,w2.alloc (.cells #[.int .i64 0,.int .i64 1,.int .i64 9] 3)=w4:=⟨_,rfl⟩;have eR:Below w2.heap.size w2 w4:=by rw[←iX]; exact aT
   have lO:w4.heap[w2.heap.size]? =some (.cells #[.int .i64 0,.int .i64 1,.int .i64 9] 3 (0,0)):=by rw[←iX]; exact heap_alloc_new w2 _
   have fT:=dh.more eR;have nv:=Hid.mk' (vw w0 w4 gc a len cap code w2.heap.size 3 3 _ _ fT.cur lO rfl (by omega) (by omega) (by have:=dh.old; have:=dh.fr.size; omega) (fun z=>decide (0≤z∧z≤9)=true) (iL _ 3 (fun z=>decide (0≤z∧z≤9)) (by aa)))
   rw[←iX] at nv;have rT:=Hid.mk' iX;clear iX lO dh eR;ab fail;refine nv.out.mono ?_;rw[rT.out];rintro e w5 ⟨z,dE,rfl,jx,ix⟩;have hz:0≤z∧z≤9:=of_decide_eq_true dE;have gN:=fT.step jx ix;have zA:(Lit.int .i64 z).wf=true:=WalkArith.wf_i64 (by omega)
   have hP:=gN.ins.YV z zA;obtain⟨pB,ni,nj,pC,pD,nk,F',bP⟩:∃ja jn jc la ln lc F,zP w0 w (w5.setCell ⟨w1.heap.size,0,none⟩ (.int .i64 z)) gc a len cap code w.heap.size w1.heap.size ja jn jc la ln lc (z,c.2.1,c.2.2.1,c.2.2.2.1,c.2.2.2.2.1,c.2.2.2.2.2) F:=gN.wrote ⟨ja,jn,jc,la,ln,lc,F,hP.1,(lay.Frame.refl _ _).grown hP.2 (fun k e=>.inl (by rw[←Option.some.inj e]; exact List.mem_cons_self)),fun k hk=>.inl hk⟩ ⟨zA,fH.av,fH.next,fH.sure⟩
   have t:=gN.ins.box.cell 0 _ rfl;have t1:=gN.ins.box.fz 0;simp only[List.length_nil,Nat.zero_add] at t;have jI:pB=ja∧ni=jn∧nj=jc∧pC=la∧pD=ln∧nk=lc:=mF bP.ins.box hP.1.box;obtain⟨rfl,rfl,rfl,rfl,rfl,rfl⟩:=jI;clear nv rT hP fT jx ix gN dE;obtain⟨q0,q1,q2,q3,q4,q5⟩:=cells6 bP.ins.box;obtain⟨z0,z1,z2,z3,z4,z5⟩:=cells6 bP.rb;have f0:=bP.rb.fz 0;have f1:=bP.rb.fz 1;have f2:=bP.rb.fz 2;have f3:=bP.rb.fz 3;have f4:=bP.rb.fz 4;have f5:=bP.rb.fz 5;have hS:=bP.rb.whole [.int .i64 z,.int .i64 c.2.1,.int .i64 c.2.2.1,.slice pB ni nj,.slice pC pD nk,.int .i64 c.2.2.2.2.2] rfl;obtain⟨y0,y1,y2,y3,y4,y5⟩:=cells6 hS.1;obtain⟨g1,g2,g3⟩:=bP.gX;have jL:=bp.bH bP.ins.own hS.2 (fun j hj e=>bP.rF (by rw[←Option.some.inj e]; exact hj))
   have lM:=bP.cur.grown hS.2 (fun e=>g3 (Option.some.inj e)) (fun k e=>by cases e; exact rS)
   have qz:w.grownBy (bx (w5.setCell ⟨w1.heap.size,0,none⟩ (.int .i64 z)) w.heap.size 0 [.int .i64 z,.int .i64 c.2.1,.int .i64 c.2.2.1,.slice pB ni nj,.slice pC pD nk,.int .i64 c.2.2.2.2.2]) (some gc):=⟨hS.2.os.trans bP.fr.os,hS.2.tape.trans bP.fr.tape,hS.2.output.trans bP.fr.output,Nat.le_trans bP.fr.size hS.2.size,fun k hk bh=>(hS.2.block k (Nat.lt_of_lt_of_le hk bP.fr.size) (fun e=>by have:=Option.some.inj e; omega)).trans (bP.fr.block k hk bh)⟩
   have HP:Hid (j7 w0 w gc a len cap code (.returned (.agg #[.int .i64 z,.int .i64 c.2.1,.int .i64 c.2.2.1,.slice pB ni nj,.slice pC pD nk,.int .i64 c.2.2.2.2.2])) (bx (w5.setCell ⟨w1.heap.size,0,none⟩ (.int .i64 z)) w.heap.size 0 [.int .i64 z,.int .i64 c.2.1,.int .i64 c.2.2.1,.slice pB ni nj,.slice pC pD nk,.int .i64 c.2.2.2.2.2])):=⟨_,_,_,_,_,_,(z,c.2.1,c.2.2.1,c.2.2.2.1,c.2.2.2.2.1,c.2.2.2.2.2),_,by have:=Hj; unfold Fa at *; simp only[] at *; omega,rfl,jL,fun k hk=>bP.new k (List.mem_cons_of_mem _ hk),lM,qz⟩
   simp only[bx,Nat.zero_add,Nat.reduceAdd] at HP y0 y1 y2 y3 y4 y5;have HY:=Hid.mk' (And.intro y0 (And.intro y1 (And.intro y2 (And.intro y3 (And.intro y4 y5)))));have sC:w.heap.size≠w1.heap.size:=bP.rX;have tW:w1.heap.size≠w.heap.size:=fun e=>sC e.symm
   clear jL lM qz hS y0 y1 y2 y3 y4 y5 ;ab fail;obtain⟨y0,y1,y2,y3,y4,y5⟩:=HY.out;refine bodyPost_ret (v:=.agg #[.int .i64 z,.int .i64 c.2.1,.int .i64 c.2.2.1,.slice pB ni nj,.slice pC pD nk,.int .i64 c.2.2.2.2.2]) ?_ rfl HP.out;simp[results,Tryz.results53,go_sem,y0,y1,y2,y3,y4,y5]
 by_cases x1:x=1
 · subst x1;obtain⟨w4,iX⟩:∃w4,w2.alloc (.cells #[.int .i64 0,.int .i64 999,.int .i64 1000,.int .i64 (-1)] 3)=w4:=⟨_,rfl⟩;have eR:Below w2.heap.size w2 w4:=by rw[←iX]; exact aT
   have lO:w4.heap[w2.heap.size]? =some (.cells #[.int .i64 0,.int .i64 999,.int .i64 1000,.int .i64 (-1)] 3 (0,0)):=by rw[←iX]; exact heap_alloc_new w2 _
   have fT:=dh.more eR;have nv:=Hid.mk' (vw w0 w4 gc a len cap code w2.heap.size 4 4 _ _ fT.cur lO rfl (by omega) (by omega) (by have:=dh.old; have:=dh.fr.size; omega) (fun z=>decide (-1≤z∧z≤1000)=true) (iL _ 4 (fun z=>decide (-1≤z∧z≤1000)) (by aa)))
   rw[←iX] at nv;have rT:=Hid.mk' iX;clear iX lO dh eR;ab fail;refine nv.out.mono ?_;rw[rT.out];rintro e w5 ⟨z,dE,rfl,jx,ix⟩;have hz: -1≤z∧z≤1000:=of_decide_eq_true dE;have gN:=fT.step jx ix;have zA:(Lit.int .i64 z).wf=true:=WalkArith.wf_i64 (by omega)
   have hP:=gN.ins.YX z zA;obtain⟨pB,ni,nj,pC,pD,nk,F',bP⟩:∃ja jn jc la ln lc F,zP w0 w (w5.setCell ⟨w1.heap.size,2,none⟩ (.int .i64 z)) gc a len cap code w.heap.size w1.heap.size ja jn jc la ln lc (c.1,c.2.1,z,c.2.2.2.1,c.2.2.2.2.1,c.2.2.2.2.2) F:=gN.wrote ⟨ja,jn,jc,la,ln,lc,F,hP.1,(lay.Frame.refl _ _).grown hP.2 (fun k e=>.inl (by rw[←Option.some.inj e]; exact List.mem_cons_self)),fun k hk=>.inl hk⟩ ⟨fH.n,fH.av,zA,fH.sure⟩
   have t:=gN.ins.box.cell 2 _ rfl;have t1:=gN.ins.box.fz 2;simp only[List.length_nil,Nat.zero_add] at t;have jI:pB=ja∧ni=jn∧nj=jc∧pC=la∧pD=ln∧nk=lc:=mF bP.ins.box hP.1.box;obtain⟨rfl,rfl,rfl,rfl,rfl,rfl⟩:=jI;clear nv rT hP fT jx ix gN dE;obtain⟨q0,q1,q2,q3,q4,q5⟩:=cells6 bP.ins.box;obtain⟨z0,z1,z2,z3,z4,z5⟩:=cells6 bP.rb;have f0:=bP.rb.fz 0;have f1:=bP.rb.fz 1;have f2:=bP.rb.fz 2;have f3:=bP.rb.fz 3;have f4:=bP.rb.fz 4;have f5:=bP.rb.fz 5;have hS:=bP.rb.whole [.int .i64 c.1,.int .i64 c.2.1,.int .i64 z,.slice pB ni nj,.slice pC pD nk,.int .i64 c.2.2.2.2.2] rfl;obtain⟨y0,y1,y2,y3,y4,y5⟩:=cells6 hS.1;obtain⟨g1,g2,g3⟩:=bP.gX;have jL:=bp.bH bP.ins.own hS.2 (fun j hj e=>bP.rF (by rw[←Option.some.inj e]; exact hj))
   have lM:=bP.cur.grown hS.2 (fun e=>g3 (Option.some.inj e)) (fun k e=>by cases e; exact rS)
   have qz:w.grownBy (bx (w5.setCell ⟨w1.heap.size,2,none⟩ (.int .i64 z)) w.heap.size 0 [.int .i64 c.1,.int .i64 c.2.1,.int .i64 z,.slice pB ni nj,.slice pC pD nk,.int .i64 c.2.2.2.2.2]) (some gc):=⟨hS.2.os.trans bP.fr.os,hS.2.tape.trans bP.fr.tape,hS.2.output.trans bP.fr.output,Nat.le_trans bP.fr.size hS.2.size,fun k hk bh=>(hS.2.block k (Nat.lt_of_lt_of_le hk bP.fr.size) (fun e=>by have:=Option.some.inj e; omega)).trans (bP.fr.block k hk bh)⟩
   have HP:Hid (j7 w0 w gc a len cap code (.returned (.agg #[.int .i64 c.1,.int .i64 c.2.1,.int .i64 z,.slice pB ni nj,.slice pC pD nk,.int .i64 c.2.2.2.2.2])) (bx (w5.setCell ⟨w1.heap.size,2,none⟩ (.int .i64 z)) w.heap.size 0 [.int .i64 c.1,.int .i64 c.2.1,.int .i64 z,.slice pB ni nj,.slice pC pD nk,.int .i64 c.2.2.2.2.2])):=⟨_,_,_,_,_,_,(c.1,c.2.1,z,c.2.2.2.1,c.2.2.2.2.1,c.2.2.2.2.2),_,by have:=Hj; unfold Fa at *; simp only[] at *; omega,rfl,jL,fun k hk=>bP.new k (List.mem_cons_of_mem _ hk),lM,qz⟩
   simp only[bx,Nat.zero_add,Nat.reduceAdd] at HP y0 y1 y2 y3 y4 y5;have HY:=Hid.mk' (And.intro y0 (And.intro y1 (And.intro y2 (And.intro y3 (And.intro y4 y5)))));have sC:w.heap.size≠w1.heap.size:=bP.rX;have tW:w1.heap.size≠w.heap.size:=fun e=>sC e.symm
   clear jL lM qz hS y0 y1 y2 y3 y4 y5 ;ab fail;obtain⟨y0,y1,y2,y3,y4,y5⟩:=HY.out;refine bodyPost_ret (v:=.agg #[.int .i64 c.1,.int .i64 c.2.1,.int .i64 z,.slice pB ni nj,.slice pC pD nk,.int .i64 c.2.2.2.2.2]) ?_ rfl HP.out;simp[results,Tryz.results53,go_sem,y0,y1,y2,y3,y4,y5]
 by_cases x2:x=2
 · subst x2;obtain⟨w4,iX⟩:∃w4,w2.alloc (.cells #[.int .i64 0,.int .i64 1,.int .i64 900,.int .i64 901] 3)=w4:=⟨_,rfl⟩;have eR:Below w2.heap.size w2 w4:=by rw[←iX]; exact aT
   have lO:w4.heap[w2.heap.size]? =some (.cells #[.int .i64 0,.int .i64 1,.int .i64 900,.int .i64 901] 3 (0,0)):=by rw[←iX]; exact heap_alloc_new w2 _
   have fT:=dh.more eR;have nv:=Hid.mk' (vw w0 w4 gc a len cap code w2.heap.size 4 4 _ _ fT.cur lO rfl (by omega) (by omega) (by have:=dh.old; have:=dh.fr.size; omega) (fun z=>decide (0≤z∧z≤901)=true) (iL _ 4 (fun z=>decide (0≤z∧z≤901)) (by aa)))
   rw[←iX] at nv;have rT:=Hid.mk' iX;clear iX lO dh eR;ab fail;refine nv.out.mono ?_;rw[rT.out];rintro e w5 ⟨z,dE,rfl,jx,ix⟩;have hz:0≤z∧z≤901:=of_decide_eq_true dE;have gN:=fT.step jx ix;have zA:(Lit.int .i64 z).wf=true:=WalkArith.wf_i64 (by omega)
   have hP:=gN.ins.YW z zA;obtain⟨pB,ni,nj,pC,pD,nk,F',bP⟩:∃ja jn jc la ln lc F,zP w0 w (w5.setCell ⟨w1.heap.size,1,none⟩ (.int .i64 z)) gc a len cap code w.heap.size w1.heap.size ja jn jc la ln lc (c.1,z,c.2.2.1,c.2.2.2.1,c.2.2.2.2.1,c.2.2.2.2.2) F:=gN.wrote ⟨ja,jn,jc,la,ln,lc,F,hP.1,(lay.Frame.refl _ _).grown hP.2 (fun k e=>.inl (by rw[←Option.some.inj e]; exact List.mem_cons_self)),fun k hk=>.inl hk⟩ ⟨fH.n,zA,fH.next,fH.sure⟩
   have t:=gN.ins.box.cell 1 _ rfl;have t1:=gN.ins.box.fz 1;simp only[List.length_nil,Nat.zero_add] at t;have jI:pB=ja∧ni=jn∧nj=jc∧pC=la∧pD=ln∧nk=lc:=mF bP.ins.box hP.1.box;obtain⟨rfl,rfl,rfl,rfl,rfl,rfl⟩:=jI;clear nv rT hP fT jx ix gN dE;obtain⟨q0,q1,q2,q3,q4,q5⟩:=cells6 bP.ins.box;obtain⟨z0,z1,z2,z3,z4,z5⟩:=cells6 bP.rb;have f0:=bP.rb.fz 0;have f1:=bP.rb.fz 1;have f2:=bP.rb.fz 2;have f3:=bP.rb.fz 3;have f4:=bP.rb.fz 4;have f5:=bP.rb.fz 5;have hS:=bP.rb.whole [.int .i64 c.1,.int .i64 z,.int .i64 c.2.2.1,.slice pB ni nj,.slice pC pD nk,.int .i64 c.2.2.2.2.2] rfl;obtain⟨y0,y1,y2,y3,y4,y5⟩:=cells6 hS.1;obtain⟨g1,g2,g3⟩:=bP.gX;have jL:=bp.bH bP.ins.own hS.2 (fun j hj e=>bP.rF (by rw[←Option.some.inj e]; exact hj))
   have lM:=bP.cur.grown hS.2 (fun e=>g3 (Option.some.inj e)) (fun k e=>by cases e; exact rS)
   have qz:w.grownBy (bx (w5.setCell ⟨w1.heap.size,1,none⟩ (.int .i64 z)) w.heap.size 0 [.int .i64 c.1,.int .i64 z,.int .i64 c.2.2.1,.slice pB ni nj,.slice pC pD nk,.int .i64 c.2.2.2.2.2]) (some gc):=⟨hS.2.os.trans bP.fr.os,hS.2.tape.trans bP.fr.tape,hS.2.output.trans bP.fr.output,Nat.le_trans bP.fr.size hS.2.size,fun k hk bh=>(hS.2.block k (Nat.lt_of_lt_of_le hk bP.fr.size) (fun e=>by have:=Option.some.inj e; omega)).trans (bP.fr.block k hk bh)⟩
   have HP:Hid (j7 w0 w gc a len cap code (.returned (.agg #[.int .i64 c.1,.int .i64 z,.int .i64 c.2.2.1,.slice pB ni nj,.slice pC pD nk,.int .i64 c.2.2.2.2.2])) (bx (w5.setCell ⟨w1.heap.size,1,none⟩ (.int .i64 z)) w.heap.size 0 [.int .i64 c.1,.int .i64 z,.int .i64 c.2.2.1,.slice pB ni nj,.slice pC pD nk,.int .i64 c.2.2.2.2.2])):=⟨_,_,_,_,_,_,(c.1,z,c.2.2.1,c.2.2.2.1,c.2.2.2.2.1,c.2.2.2.2.2),_,by have:=Hj; unfold Fa at *; simp only[] at *; omega,rfl,jL,fun k hk=>bP.new k (List.mem_cons_of_mem _ hk),lM,qz⟩
   simp only[bx,Nat.zero_add,Nat.reduceAdd] at HP y0 y1 y2 y3 y4 y5;have HY:=Hid.mk' (And.intro y0 (And.intro y1 (And.intro y2 (And.intro y3 (And.intro y4 y5)))));have sC:w.heap.size≠w1.heap.size:=bP.rX;have tW:w1.heap.size≠w.heap.size:=fun e=>sC e.symm
   clear jL lM qz hS y0 y1 y2 y3 y4 y5 ;ab fail;obtain⟨y0,y1,y2,y3,y4,y5⟩:=HY.out;refine bodyPost_ret (v:=.agg #[.int .i64 c.1,.int .i64 z,.int .i64 c.2.2.1,.slice pB ni nj,.slice pC pD nk,.int .i64 c.2.2.2.2.2]) ?_ rfl HP.out;simp[results,Tryz.results53,go_sem,y0,y1,y2,y3,y4,y5]
 by_cases x3:x=3
 · subst x3;have k4:=dh.ins.box.cell 4 _ rfl;simp only[List.length_nil,Nat.zero_add] at k4;have tj:IntKind.i64.wrap ((ln:Int)+1)=(ln:Int)+1:=lX _ (by omega) (by omega)
   obtain⟨w4,iX⟩:∃w4,w2.alloc (.cells #[.int .i64 (-1),.int .i64 ((ln:Int)+1)] 3)=w4:=⟨_,rfl⟩;have eR:Below w2.heap.size w2 w4:=by rw[←iX]; exact aT
   have lO:w4.heap[w2.heap.size]? =some (.cells #[.int .i64 (-1),.int .i64 ((ln:Int)+1)] 3 (0,0)):=by rw[←iX]; exact heap_alloc_new w2 _
   have fT:=dh.more eR;have nv:=Hid.mk' (vw w0 w4 gc a len cap code w2.heap.size 2 2 _ _ fT.cur lO rfl (by omega) (by omega) (by have:=dh.old; have:=dh.fr.size; omega) (fun z=> -1≤z∧z≤1001) (fun i hi=>by
    match i,hi with
    | 0,_=>exact⟨-1,rfl,by omega,by omega⟩
    | 1,_=>exact⟨(ln:Int)+1,rfl,by omega,by omega⟩))
   rw[←iX] at nv;have rT:=Hid.mk' iX;clear iX lO dh eR;ab fail;refine nv.out.mono ?_;rw[rT.out];rintro e w5 ⟨z,dE,rfl,jx,ix⟩;have hz: -1≤z∧z≤1001:=dE;have gN:=fT.step jx ix;have zA:(Lit.int .i64 z).wf=true:=WalkArith.wf_i64 (by omega)
   have hP:=gN.ins.YY z zA;obtain⟨pB,ni,nj,pC,pD,nk,F',bP⟩:∃ja jn jc la ln lc F,zP w0 w (w5.setCell ⟨w1.heap.size,5,none⟩ (.int .i64 z)) gc a len cap code w.heap.size w1.heap.size ja jn jc la ln lc (c.1,c.2.1,c.2.2.1,c.2.2.2.1,c.2.2.2.2.1,z) F:=gN.wrote ⟨ja,jn,jc,la,ln,lc,F,hP.1,(lay.Frame.refl _ _).grown hP.2 (fun k e=>.inl (by rw[←Option.some.inj e]; exact List.mem_cons_self)),fun k hk=>.inl hk⟩ ⟨fH.n,fH.av,fH.next,zA⟩
   have t:=gN.ins.box.cell 5 _ rfl;have t1:=gN.ins.box.fz 5;simp only[List.length_nil,Nat.zero_add] at t;have jI:pB=ja∧ni=jn∧nj=jc∧pC=la∧pD=ln∧nk=lc:=mF bP.ins.box hP.1.box;obtain⟨rfl,rfl,rfl,rfl,rfl,rfl⟩:=jI;clear nv rT hP fT jx ix gN dE;obtain⟨q0,q1,q2,q3,q4,q5⟩:=cells6 bP.ins.box;obtain⟨z0,z1,z2,z3,z4,z5⟩:=cells6 bP.rb;have f0:=bP.rb.fz 0;have f1:=bP.rb.fz 1;have f2:=bP.rb.fz 2;have f3:=bP.rb.fz 3;have f4:=bP.rb.fz 4;have f5:=bP.rb.fz 5;have hS:=bP.rb.whole [.int .i64 c.1,.int .i64 c.2.1,.int .i64 c.2.2.1,.slice pB ni nj,.slice pC pD nk,.int .i64 z] rfl;obtain⟨y0,y1,y2,y3,y4,y5⟩:=cells6 hS.1;obtain⟨g1,g2,g3⟩:=bP.gX;have jL:=bp.bH bP.ins.own hS.2 (fun j hj e=>bP.rF (by rw[←Option.some.inj e]; exact hj))
   have lM:=bP.cur.grown hS.2 (fun e=>g3 (Option.some.inj e)) (fun k e=>by cases e; exact rS)
   have qz:w.grownBy (bx (w5.setCell ⟨w1.heap.size,5,none⟩ (.int .i64 z)) w.heap.size 0 [.int .i64 c.1,.int .i64 c.2.1,.int .i64 c.2.2.1,.slice pB ni nj,.slice pC pD nk,.int .i64 z]) (some gc):=⟨hS.2.os.trans bP.fr.os,hS.2.tape.trans bP.fr.tape,hS.2.output.trans bP.fr.output,Nat.le_trans bP.fr.size hS.2.size,fun k hk bh=>(hS.2.block k (Nat.lt_of_lt_of_le hk bP.fr.size) (fun e=>by have:=Option.some.inj e; omega)).trans (bP.fr.block k hk bh)⟩
   have HP:Hid (j7 w0 w gc a len cap code (.returned (.agg #[.int .i64 c.1,.int .i64 c.2.1,.int .i64 c.2.2.1,.slice pB ni nj,.slice pC pD nk,.int .i64 z])) (bx (w5.setCell ⟨w1.heap.size,5,none⟩ (.int .i64 z)) w.heap.size 0 [.int .i64 c.1,.int .i64 c.2.1,.int .i64 c.2.2.1,.slice pB ni nj,.slice pC pD nk,.int .i64 z])):=⟨_,_,_,_,_,_,(c.1,c.2.1,c.2.2.1,c.2.2.2.1,c.2.2.2.2.1,z),_,by have:=Hj; unfold Fa at *; simp only[] at *; omega,rfl,jL,fun k hk=>bP.new k (List.mem_cons_of_mem _ hk),lM,qz⟩
   simp only[bx,Nat.zero_add,Nat.reduceAdd] at HP y0 y1 y2 y3 y4 y5;have HY:=Hid.mk' (And.intro y0 (And.intro y1 (And.intro y2 (And.intro y3 (And.intro y4 y5)))));have sC:w.heap.size≠w1.heap.size:=bP.rX;have tW:w1.heap.size≠w.heap.size:=fun e=>sC e.symm
   clear jL lM qz hS y0 y1 y2 y3 y4 y5 ;ab fail;obtain⟨y0,y1,y2,y3,y4,y5⟩:=HY.out;refine bodyPost_ret (v:=.agg #[.int .i64 c.1,.int .i64 c.2.1,.int .i64 c.2.2.1,.slice pB ni nj,.slice pC pD nk,.int .i64 z]) ?_ rfl HP.out;simp[results,Tryz.results53,go_sem,y0,y1,y2,y3,y4,y5]
 by_cases x4:x=4
 · subst x4;obtain⟨vx,vy,F1,F2,e,_,hj,hl,d_,eo⟩:=bC.1 dh.ins.own;simp only[List.cons.injEq,and_true,true_and] at e;obtain⟨rfl,rfl⟩:=e;obtain⟨⟨ql,hL⟩,rfl⟩:=iN.1 hl;obtain⟨g1,g2,g3⟩:=dh.gX;have mi:Below w2.heap.size w2 w2.drew:=(Below.refl _ _).drew;have GH:=dh.more mi;have HJ:=Hid.mk' hj;have HL:=Hid.mk' hL;have hds:=mi.size;have O2:=dh.ins.box.lt;have hold:=dh.old;have Ri:=dh.fr.size;have Y0:=bp.dK dh.ins.own;have jH:=dh.ins.out;clear hj hl hL;ab fail;refine last.aB (S:=fun w'=>aD w1.heap.size oS [] [.int .i64 c.1,.int .i64 c.2.1,.int .i64 c.2.2.1,.slice ja jn jc,.slice la ln lc,.int .i64 c.2.2.2.2.2] [] w') 9 (by aa) GH.ins.box (fun al=>?_)
   generalize Ew:w2.drew=D at *;clear Ew;refine last.ae (i:=0) (v:=(.pointer (some ⟨w1.heap.size,4,none⟩))) rfl rfl (by aa) (by aa) (by aa) (by aa) (fun _ _ _ h=>h) (Or.inl ⟨by rfl,?_⟩) (by assumption) ?_
   · intro wq aC; af
   try simp only[Act.put,List.setIfInBounds_toArray,List.set_cons_zero,List.set_cons_succ];refine last.ae (i:=1) (v:=(.slice la ln lc)) rfl rfl (by aa) (by aa) (by aa) (by aa) (fun _ _ _ h=>h) (Or.inl ⟨by rfl,?_⟩) (by assumption) ?_
   · intro wq aC; have q:=aC.cell 4 _ rfl; simp only[List.length_nil,Nat.zero_add] at q; af
   try simp only[Act.put,List.setIfInBounds_toArray,List.set_cons_zero,List.set_cons_succ];refine last.ae (i:=2) (v:=(.pointer (some ⟨gc,0,none⟩))) rfl rfl (by aa) (by aa) (by aa) (by aa) (fun _ _ _ h=>h) (Or.inl ⟨by rfl,?_⟩) (by assumption) ?_
   · intro wq aC; af
   try simp only[Act.put,List.setIfInBounds_toArray,List.set_cons_zero,List.set_cons_succ];refine last.ax (i:=3) (o:={dst:=some 44,op:=Op.buildSlice 54 4 #[(0,Operand.const (Value.int IntKind.i64 999)),(1,Operand.const (Value.int IntKind.i64 1000)),(2,Operand.const (Value.int IntKind.i64 1001)),(3,Operand.const (Value.int IntKind.i64 5000))],type:=54,pos:= "l11_coord.go:257",after:=#[],guard:=none}) (by aa) rfl (fun K hK=>?_)
   af;obtain⟨w4,iX⟩:∃w4,D.alloc (.cells #[.int .i64 999,.int .i64 1000,.int .i64 1001,.int .i64 5000] 3)=w4:=⟨_,rfl⟩;have eR:Below D.heap.size D w4:=by rw[←iX]; exact aT
   have lO:w4.heap[D.heap.size]? =some (.cells #[.int .i64 999,.int .i64 1000,.int .i64 1001,.int .i64 5000] 3 (0,0)):=by rw[←iX]; exact heap_alloc_new D _
   have fT:=GH.more eR;have nv:=Hid.mk' (vw w0 w4 gc a len cap code D.heap.size 4 4 _ _ fT.cur lO rfl (by omega) (by omega) (by omega) (fun z=>decide (999≤z∧z≤5000)=true) (iL _ 4 (fun z=>decide (999≤z∧z≤5000)) (by aa)))
   rw[iX];clear iX;refine hK.out _ _ ?_ (fun aq=>?_)
   · exact fT.ins.box
   clear hK K al;have al:=aq;clear aq;try simp only[Act.put,List.setIfInBounds_toArray,List.set_cons_zero,List.set_cons_succ];refine last.ax (i:=4) (o:={dst:=some 45,op:=Op.call {callee:=Callee.value (Operand.func 29),args:=#[Operand.tmp 43,Operand.tmp 44],argTypes:=#[51,54]},type:=3,pos:= "l11_coord.go:257",after:=#[{on:=2,ground:=Ground.data},{on:=3,ground:=Ground.data}],guard:=none}) (by aa) rfl (fun K hK=>?_)
   refine gv.call2 rfl 29 (.tmp 43) (.tmp 44) _ rfl (fun _ _=>rfl) (.pointer (some ⟨gc,0,none⟩)) (.slice (some ⟨D.heap.size,0,none⟩) 4 4) (by aa) (by aa) _ nv.out ?_
   rintro e w5 ⟨z,dE,rfl,jx,ix⟩;refine⟨_,rfl,?_⟩;have hz:999≤z∧z≤5000:=of_decide_eq_true dE;have gN:=fT.step jx ix;have Ia:bz 87 rG w5 (.slice la ln lc) c.2.2.2.2.1 ql:=by
    have h1:=(HL.out.below mi).below eR;refine h1.keep fun b hb=>ix.block b (h1.at_ b hb) (fun e=>g2 ?_)
    rw[(dW.parts HL.out).2.2.1,List.append_nil] at hb;rw[←Option.some.inj e,d_];exact List.mem_append.2 (.inr hb)
   have K_:w1.heap.size∉(Value.slice la ln lc).ownBlock.toList:=fun e=>jH (by rw[d_]; exact List.mem_append.2 (.inr e))
   have zA:(Lit.int .i64 z).wf=true:=WalkArith.wf_i64 (by omega)
   obtain⟨gl,dk,w7,dA,zN,Hh,If,xb,ny,Cc⟩:=qL gN.ins.box Ia K_ z false zA (by have:=pn.out; omega)
   simp only[List.length_nil,Nat.zero_add] at Hh If xb;refine hK.out _ _ ?_ (fun aq=>?_)
   · exact gN.ins.box
   clear hK K al;have al:=aq;clear aq;try simp only[Act.put,List.setIfInBounds_toArray,List.set_cons_zero,List.set_cons_succ];refine last.ae (i:=5) (v:=(.agg #[.int .i64 z,.bool false])) rfl rfl (by aa) (by aa) (by aa) (by aa) (fun _ _ _ h=>h) (Or.inl ⟨by rfl,?_⟩) (by assumption) ?_
   · intro wq aC; af
   try simp only[Act.put,List.setIfInBounds_toArray,List.set_cons_zero,List.set_cons_succ];refine last.ax (i:=6) (o:={dst:=some 47,op:=Op.buildSlice 26 1 #[(0,Operand.tmp 46)],type:=26,pos:= "l11_coord.go:257",after:=#[{on:=5,ground:=Ground.data}],guard:=none}) (by aa) rfl (fun K hK=>?_)
   af;have mJ:Below w5.heap.size w5 (w5.alloc (.cells #[.int .i64 z,.bool false] 87)):=aT;refine hK.out _ _ ?_ (fun aq=>?_)
   · exact gN.ins.box.below mJ
   clear hK K al;have al:=aq;clear aq;try simp only[Act.put,List.setIfInBounds_toArray,List.set_cons_zero,List.set_cons_succ];refine last.ax (i:=7) (o:={dst:=some 48,op:=Op.call {callee:=Callee.builtin Builtin.append,args:=#[Operand.tmp 42,Operand.tmp 47],argTypes:=#[26,26]},type:=26,pos:= "l11_coord.go:257",after:=#[{on:=1,ground:=Ground.data},{on:=6,ground:=Ground.data},{on:=4,ground:=Ground.chain}],guard:=none}) (by aa) rfl (fun K hK=>?_)
   refine dc rfl (.tmp 42) (.tmp 47) 26 rfl (by aa) (by aa) dA ?_
   refine hK.out _ _ ?_ (fun aq=>?_)
   · exact zN
   clear hK K al;have al:=aq;clear aq;try simp only[Act.put,List.setIfInBounds_toArray,List.set_cons_zero,List.set_cons_succ];refine last.ae (i:=8) (v:=(.pointer (some ⟨w1.heap.size,4,none⟩))) rfl rfl (by aa) (by aa) (by aa) (by aa) (fun _ _ _ h=>h) (Or.inl ⟨by rfl,?_⟩) (by assumption) ?_
   · intro wq aC; af
   try simp only[Act.put,List.setIfInBounds_toArray,List.set_cons_zero,List.set_cons_succ];have t4:=zN.cell 4 _ rfl;have t5:=zN.fz 4;simp only[List.length_nil,Nat.zero_add] at t4;obtain⟨U,hU⟩:∃U,w7.setCell ⟨w1.heap.size,4,none⟩ (.slice (some ⟨gl,0,none⟩) (ln+1) dk)=U:=⟨_,rfl⟩;rw[hU] at Hh If xb;have HU:=Hid.mk' hU;clear hU;have wE:lk.own w5 [.slice ja jn jc] c.2.2.2.1 F1:=by
    have h1:=lk.gQ (lk.gQ HJ.out mi) eR;exact lk.bH h1 ix (fun b hb e=>g2 (by rw[←Option.some.inj e,d_]; exact List.mem_append.2 (.inl hb)))
   have Y1:∀b∈F1,b∉w1.heap.size::(Value.slice la ln lc).ownBlock.toList:=fun b hb e=>by
    rcases List.mem_cons.1 e with e | e
    · exact jH (by rw[d_,←e]; exact List.mem_append.2 (.inl hb))
    · rw[d_] at eo;exact(a7 eo).2.2 b hb e
   have Cf:=lk.Ir wE xb Y1;have UA:lay.Frame (w1.heap.size::F) w5 U:=xb.mono (fun b hb=>by
    rcases List.mem_cons.1 hb with e | e
    · rw[e]; exact List.mem_cons_self
    · exact List.mem_cons_of_mem _ (by rw[d_]; exact List.mem_append.2 (.inr e)))
   have hg5s:=ix.size;have YM:=eR.size;have UB:fI w5 w1.heap.size oS [] [] F (c.1,c.2.1,c.2.2.1,c.2.2.2.1,c.2.2.2.2.1++[(z,false)],c.2.2.2.2.2) U:=rO (c:=(c.1,c.2.1,c.2.2.1,c.2.2.2.1,c.2.2.2.2.1++[(z,false)],c.2.2.2.2.2)) (F1:=F1) (F2:=(Value.slice la ln lc).ownBlock.toList) Hh Cf If UA ⟨fH.n,fH.av,fH.next,fH.sure⟩ (fun b hb=>.inl hb) (fun b hb=>by rw[List.mem_singleton] at hb; subst hb; exact ny) (fun b hb be=>by
    rw[List.mem_singleton] at be;subst be;rcases ny with e | e
    · exact Y1 b hb (List.mem_cons_of_mem _ e)
    · have:=Y0 b (by rw[d_]; exact List.mem_append.2 (.inl hb)); omega) (fun e=>jH (by rw[d_]; exact List.mem_append.2 (.inl e))) (fun e=>by rw[List.mem_singleton] at e; exact Cc e.symm) d_
   obtain⟨pB,ni,nj,pC,pD,nk,F',bP⟩:=gN.wrote UB ⟨fH.n,fH.av,fH.next,fH.sure⟩;have jI:=mF bP.ins.box Hh;obtain⟨rfl,rfl,rfl,rfl,rfl,rfl⟩:=jI;refine last.aL (o:={dst:=none,op:=Op.store 26 (Operand.tmp 49) (Operand.tmp 48),type:=0,pos:= "l11_coord.go:257",after:=#[{on:=8,ground:=Ground.data},{on:=7,ground:=Ground.data},{on:=7,ground:=Ground.chain},{on:=0,ground:=Ground.phase},{on:=1,ground:=Ground.phase},{on:=2,ground:=Ground.phase},{on:=3,ground:=Ground.phase},{on:=4,ground:=Ground.phase},{on:=5,ground:=Ground.phase},{on:=6,ground:=Ground.phase},{on:=7,ground:=Ground.phase}],guard:=none}) (by aa) rfl (by aa) (fun K hK=>?_)
   af;refine hK.out _ _ ?_;clear hK K;rw[HU.out];clear HU t4 t5 dA zN Hh If xb wE Cf UA UB gN fT GH dh al Ia mJ nv jx ix d_ lO ny Y1;obtain⟨q0,q1,q2,q3,q4,q5⟩:=cells6 bP.ins.box;obtain⟨z0,z1,z2,z3,z4,z5⟩:=cells6 bP.rb;have f0:=bP.rb.fz 0;have f1:=bP.rb.fz 1;have f2:=bP.rb.fz 2;have f3:=bP.rb.fz 3;have f4:=bP.rb.fz 4;have f5:=bP.rb.fz 5;have hS:=bP.rb.whole [.int .i64 c.1,.int .i64 c.2.1,.int .i64 c.2.2.1,.slice pB ni nj,.slice (some ⟨gl,0,none⟩) (ln+1) nk,.int .i64 c.2.2.2.2.2] rfl;obtain⟨y0,y1,y2,y3,y4,y5⟩:=cells6 hS.1;obtain⟨g1,g2,g3⟩:=bP.gX;have jL:=bp.bH bP.ins.own hS.2 (fun j hj e=>bP.rF (by rw[←Option.some.inj e]; exact hj))
   have lM:=bP.cur.grown hS.2 (fun e=>g3 (Option.some.inj e)) (fun k e=>by cases e; exact rS)
   have qz:w.grownBy (bx (U) w.heap.size 0 [.int .i64 c.1,.int .i64 c.2.1,.int .i64 c.2.2.1,.slice pB ni nj,.slice (some ⟨gl,0,none⟩) (ln+1) nk,.int .i64 c.2.2.2.2.2]) (some gc):=⟨hS.2.os.trans bP.fr.os,hS.2.tape.trans bP.fr.tape,hS.2.output.trans bP.fr.output,Nat.le_trans bP.fr.size hS.2.size,fun k hk bh=>(hS.2.block k (Nat.lt_of_lt_of_le hk bP.fr.size) (fun e=>by have:=Option.some.inj e; omega)).trans (bP.fr.block k hk bh)⟩
   have HP:Hid (j7 w0 w gc a len cap code (.returned (.agg #[.int .i64 c.1,.int .i64 c.2.1,.int .i64 c.2.2.1,.slice pB ni nj,.slice (some ⟨gl,0,none⟩) (ln+1) nk,.int .i64 c.2.2.2.2.2])) (bx (U) w.heap.size 0 [.int .i64 c.1,.int .i64 c.2.1,.int .i64 c.2.2.1,.slice pB ni nj,.slice (some ⟨gl,0,none⟩) (ln+1) nk,.int .i64 c.2.2.2.2.2])):=⟨_,_,_,_,_,_,(c.1,c.2.1,c.2.2.1,c.2.2.2.1,c.2.2.2.2.1++[(z,false)],c.2.2.2.2.2),_,by have:=Hj; unfold Fa at *; simp only[List.length_append,List.length_cons,List.length_nil] at *; omega,rfl,jL,fun k hk=>bP.new k (List.mem_cons_of_mem _ hk),lM,qz⟩
   simp only[bx,Nat.zero_add,Nat.reduceAdd] at HP y0 y1 y2 y3 y4 y5;have HY:=Hid.mk' (And.intro y0 (And.intro y1 (And.intro y2 (And.intro y3 (And.intro y4 y5)))));have sC:w.heap.size≠w1.heap.size:=bP.rX;have tW:w1.heap.size≠w.heap.size:=fun e=>sC e.symm
   clear jL lM qz hS y0 y1 y2 y3 y4 y5 ;ab fail;obtain⟨y0,y1,y2,y3,y4,y5⟩:=HY.out;refine bodyPost_ret (v:=.agg #[.int .i64 c.1,.int .i64 c.2.1,.int .i64 c.2.2.1,.slice pB ni nj,.slice (some ⟨gl,0,none⟩) (ln+1) nk,.int .i64 c.2.2.2.2.2]) ?_ rfl HP.out;simp[results,Tryz.results53,go_sem,y0,y1,y2,y3,y4,y5]
 by_cases x5:x=5
 · subst x5;have k3:=dh.ins.box.cell 3 _ rfl;simp only[List.length_nil,Nat.zero_add] at k3;by_cases IP:0<jn
   cQ
   · have vE:¬(0:Int)<(jn:Int):=by omega
     obtain⟨q0,q1,q2,q3,q4,q5⟩:=cells6 dh.ins.box;obtain⟨z0,z1,z2,z3,z4,z5⟩:=cells6 dh.rb;have f0:=dh.rb.fz 0;have f1:=dh.rb.fz 1;have f2:=dh.rb.fz 2;have f3:=dh.rb.fz 3;have f4:=dh.rb.fz 4;have f5:=dh.rb.fz 5;have hS:=dh.rb.whole [.int .i64 c.1,.int .i64 c.2.1,.int .i64 c.2.2.1,.slice ja jn jc,.slice la ln lc,.int .i64 c.2.2.2.2.2] rfl;obtain⟨y0,y1,y2,y3,y4,y5⟩:=cells6 hS.1;obtain⟨g1,g2,g3⟩:=dh.gX;have jL:=bp.bH dh.ins.own hS.2 (fun j hj e=>dh.rF (by rw[←Option.some.inj e]; exact hj))
     have lM:=dh.cur.grown hS.2 (fun e=>g3 (Option.some.inj e)) (fun k e=>by cases e; exact rS)
     have qz:w.grownBy (bx (w2) w.heap.size 0 [.int .i64 c.1,.int .i64 c.2.1,.int .i64 c.2.2.1,.slice ja jn jc,.slice la ln lc,.int .i64 c.2.2.2.2.2]) (some gc):=⟨hS.2.os.trans dh.fr.os,hS.2.tape.trans dh.fr.tape,hS.2.output.trans dh.fr.output,Nat.le_trans dh.fr.size hS.2.size,fun k hk bh=>(hS.2.block k (Nat.lt_of_lt_of_le hk dh.fr.size) (fun e=>by have:=Option.some.inj e; omega)).trans (dh.fr.block k hk bh)⟩
     have HP:Hid (j7 w0 w gc a len cap code (.returned (.agg #[.int .i64 c.1,.int .i64 c.2.1,.int .i64 c.2.2.1,.slice ja jn jc,.slice la ln lc,.int .i64 c.2.2.2.2.2])) (bx (w2) w.heap.size 0 [.int .i64 c.1,.int .i64 c.2.1,.int .i64 c.2.2.1,.slice ja jn jc,.slice la ln lc,.int .i64 c.2.2.2.2.2])):=⟨_,_,_,_,_,_,c,_,by omega,rfl,jL,fun k hk=>dh.new k (List.mem_cons_of_mem _ hk),lM,qz⟩
     simp only[bx,Nat.zero_add,Nat.reduceAdd] at HP y0 y1 y2 y3 y4 y5;have HY:=Hid.mk' (And.intro y0 (And.intro y1 (And.intro y2 (And.intro y3 (And.intro y4 y5)))));have sC:w.heap.size≠w1.heap.size:=dh.rX;have tW:w1.heap.size≠w.heap.size:=fun e=>sC e.symm
     clear jL lM qz hS y0 y1 y2 y3 y4 y5 dh;ab fail;obtain⟨y0,y1,y2,y3,y4,y5⟩:=HY.out;refine bodyPost_ret (v:=.agg #[.int .i64 c.1,.int .i64 c.2.1,.int .i64 c.2.2.1,.slice ja jn jc,.slice la ln lc,.int .i64 c.2.2.2.2.2]) ?_ rfl HP.out;simp[results,Tryz.results53,go_sem,y0,y1,y2,y3,y4,y5]
   have vE:(0:Int)<(jn:Int):=by omega
   obtain⟨vx,vy,F1,F2,e,_,hj,hl,d_,eo⟩:=bC.1 dh.ins.own;simp only[List.cons.injEq,and_true,true_and] at e;obtain⟨rfl,rfl⟩:=e;obtain⟨vj,qj,e,tn,hJ⟩:=hj;simp only[List.cons.injEq,and_true] at e;subst e;obtain⟨gj,rfl⟩:∃gj,ja=some ⟨gj,0,none⟩:=by
    rcases hJ.shape with⟨e,_⟩ | ⟨g,cp,e,_⟩
    · cases e; omega
    · cases e; exact⟨g,rfl⟩
   have yx:∀b∈(Value.slice (some ⟨gj,0,none⟩) jn jc).ownBlock.toList++aw qj,b∈F1:=fun b hb=>by rw[tn]; exact hb
   have CF:0<c.2.2.2.1.length:=by have:=hJ.nF; omega
   obtain⟨g1,g2,g3⟩:=dh.gX;have mi:Below w2.heap.size w2 w2.drew:=(Below.refl _ _).drew;have GH:=dh.more mi;have sH:=hJ.below mi;have R_:=qA.gQ hl mi;have jH:=dh.ins.out;clear hJ hl;ab fail;refine last.aB (S:=fun w'=>aD w1.heap.size oS [] [.int .i64 c.1,.int .i64 c.2.1,.int .i64 c.2.2.1,.slice (some ⟨gj,0,none⟩) jn jc,.slice la ln lc,.int .i64 c.2.2.2.2.2] [] w') 6 (by aa) GH.ins.box (fun al=>?_)
   generalize Ew:w2.drew=D at *;clear Ew;refine last.ae (i:=0) (v:=(.pointer (some ⟨w1.heap.size,3,none⟩))) rfl rfl (by aa) (by aa) (by aa) (by aa) (fun _ _ _ h=>h) (Or.inl ⟨by rfl,?_⟩) (by assumption) ?_
   · intro wq aC; af
   try simp only[Act.put,List.setIfInBounds_toArray,List.set_cons_zero,List.set_cons_succ];refine last.ae (i:=1) (v:=(.slice (some ⟨gj,0,none⟩) jn jc)) rfl rfl (by aa) (by aa) (by aa) (by aa) (fun _ _ _ h=>h) (Or.inl ⟨by rfl,?_⟩) (by assumption) ?_
   · intro wq aC; have q:=aC.cell 3 _ rfl; simp only[List.length_nil,Nat.zero_add] at q; af
   try simp only[Act.put,List.setIfInBounds_toArray,List.set_cons_zero,List.set_cons_succ];refine last.ae (i:=2) (v:=(.pointer (some ⟨gc,0,none⟩))) rfl rfl (by aa) (by aa) (by aa) (by aa) (fun _ _ _ h=>h) (Or.inl ⟨by rfl,?_⟩) (by assumption) ?_
   · intro wq aC; af
   try simp only[Act.put,List.setIfInBounds_toArray,List.set_cons_zero,List.set_cons_succ];refine last.ax (i:=3) (o:={dst:=some 59,op:=Op.call {callee:=Callee.value (Operand.func 68),args:=#[Operand.tmp 58,Operand.const (Value.int IntKind.i64 5)],argTypes:=#[51,3]},type:=3,pos:= "l11_coord.go:260",after:=#[{on:=2,ground:=Ground.data}],guard:=none}) (by aa) rfl (fun K hK=>?_)
   refine gv.call2 rfl 68 (.tmp 58) (.const (.int .i64 5)) _ rfl (fun _ _=>rfl) (.pointer (some ⟨gc,0,none⟩)) (.int .i64 5) (by aa) rfl _ (cH w0 _ gc a len cap code 5 GH.cur (by omega) (by omega)) ?_
   rintro e w5 ⟨z,hz,rfl,jx,ix⟩;refine⟨_,rfl,?_⟩;have gN:=GH.step jx ix;have wE:=sH.keep fun b hb=>ix.block b (sH.at_ b hb) (fun e=>g2 (by rw[←Option.some.inj e,d_]; exact List.mem_append.2 (.inl (yx b hb))))
   have hl5:=qA.bH R_ ix (fun b hb e=>g2 (by rw[←Option.some.inj e,d_]; exact List.mem_append.2 (.inr hb)))
   have zA:(Lit.int .i64 (z:Int)).wf=true:=WalkArith.wf_i64 (by omega)
   refine hK.out _ _ ?_ (fun aq=>?_)
   · exact gN.ins.box
   clear hK K al;have al:=aq;clear aq;try simp only[Act.put,List.setIfInBounds_toArray,List.set_cons_zero,List.set_cons_succ];refine last.ax (i:=4) (o:={dst:=some 60,op:=Op.indexAddr 25 (Operand.tmp 57) (Operand.const (Value.int IntKind.i64 0)),type:=0,pos:= "l11_coord.go:260",after:=#[{on:=1,ground:=Ground.data},{on:=0,ground:=Ground.phase},{on:=1,ground:=Ground.phase},{on:=2,ground:=Ground.phase},{on:=3,ground:=Ground.phase}],guard:=none}) (by aa) rfl (fun K hK=>?_)
   af;refine hK.out _ _ ?_ (fun aq=>?_)
   · exact gN.ins.box
   clear hK K al;have al:=aq;clear aq;try simp only[Act.put,List.setIfInBounds_toArray,List.set_cons_zero,List.set_cons_succ];refine last.ae (i:=5) (v:=(.pointer (some ⟨gj,2,none⟩))) rfl rfl (by aa) (by aa) (by aa) (by aa) (fun _ _ _ h=>h) (Or.inl ⟨by rfl,?_⟩) (by assumption) ?_
   · intro wq aC; af
   try simp only[Act.put,List.setIfInBounds_toArray,List.set_cons_zero,List.set_cons_succ];obtain⟨us,FK,hu,cZ,Cd,Nj⟩:=wE.yw 0 CF;obtain⟨oa,ol,oc,ya,yl,yc,rfl⟩:=fg hu;have t2:=cZ 2 _ rfl;have t3:=wE.frozen 2;obtain⟨q6,ur,Jy,dJ, -⟩:=Nj 2 (.int .i64 (z:Int)) (c.2.2.2.1[0].1,c.2.2.2.1[0].2.1,(z:Int),c.2.2.2.1[0].2.2.2) FK (by decide) (by
    obtain⟨v1,v2,e,k1,k3,h1,h2,h3,h4⟩:=dX.1 hu;exact dX.2 ⟨_,_,by rw[e]; rfl,k1,zA,h1,h2,h3,h4⟩) (fun b hb=>.inl hb)
   rw[show 0 * ek.size+2=2 from rfl] at ur dJ t2
   obtain⟨U,hU⟩:∃U,w5.setCell ⟨gj,2,none⟩ (.int .i64 (z:Int))=U:=⟨_,rfl⟩;rw[hU] at ur dJ;have HU:=Hid.mk' hU;clear hU;have xv:gj∈F1:=yx gj (by simp[Value.ownBlock])
   have Ud:gj≠w1.heap.size:=fun e=>jH (by rw[d_,←e]; exact List.mem_append.2 (.inl xv))
   have zN:=gN.ins.box.grown dJ (fun e=>Ud (Option.some.inj e).symm)
   have Rk:=qA.bH hl5 dJ (fun b hb e=>by
    rw[d_] at eo;exact(a7 eo).2.2 gj xv (Option.some.inj e ▸ hb))
   have UA:lay.Frame (w1.heap.size::F) w5 U:=(lay.Frame.refl _ _).grown dJ (fun k e=>by cases e; exact .inl (List.mem_cons_of_mem _ (by rw[d_]; exact List.mem_append.2 (.inl xv))))
   have pt:∀b∈(Value.slice (some ⟨gj,0,none⟩) jn jc).ownBlock.toList++aw q6,b∈F1:=fun b hb=>by
    rcases List.mem_append.1 hb with e | e
    · exact yx b (List.mem_append.2 (.inl e))
    · rcases Jy b e with e2 | e2
      · exact yx b (List.mem_append.2 (.inr e2))
      · exact yx b (List.mem_append.2 (.inr (Cd b e2)))
   have UB:fI w5 w1.heap.size oS [] [] F (c.1,c.2.1,c.2.2.1,c.2.2.2.1.set 0 (c.2.2.2.1[0].1,c.2.2.2.1[0].2.1,(z:Int),c.2.2.2.1[0].2.2.2),c.2.2.2.2.1,c.2.2.2.2.2) U:=rO (c:=(c.1,c.2.1,c.2.2.1,c.2.2.2.1.set 0 (c.2.2.2.1[0].1,c.2.2.2.1[0].2.1,(z:Int),c.2.2.2.1[0].2.2.2),c.2.2.2.2.1,c.2.2.2.2.2)) (F1:=F1) (F2:=F2) zN ⟨_,_,rfl,rfl,ur⟩ Rk UA ⟨fH.n,fH.av,fH.next,fH.sure⟩ (fun b hb=>.inl (pt b hb)) (fun b hb=>.inl hb) (fun b hb be=>by
    rw[d_] at eo;exact(a7 eo).2.2 b (pt b hb) be) (fun e=>jH (by rw[d_]; exact List.mem_append.2 (.inl (pt _ e)))) (fun e=>jH (by rw[d_]; exact List.mem_append.2 (.inr e))) d_
   obtain⟨pB,ni,nj,pC,pD,nk,F',bP⟩:=gN.wrote UB ⟨fH.n,fH.av,fH.next,fH.sure⟩;have jI:=mF bP.ins.box zN;obtain⟨rfl,rfl,rfl,rfl,rfl,rfl⟩:=jI;have UC:pN (c.2.2.2.1.set 0 (c.2.2.2.1[0].1,c.2.2.2.1[0].2.1,(z:Int),c.2.2.2.1[0].2.2.2))=pN c.2.2.2.1:=by
    unfold pN
    congr 1
    rw[List.map_set];refine List.ext_getElem (by simp) fun i h1 h2=>?_
    rw[List.getElem_set]
    split
    · eZ e; subst e; simp[Kt]
    · rfl
   have Y2:Fa (c.1,c.2.1,c.2.2.1,c.2.2.2.1.set 0 (c.2.2.2.1[0].1,c.2.2.2.1[0].2.1,(z:Int),c.2.2.2.1[0].2.2.2),c.2.2.2.2.1,c.2.2.2.2.2)≤400000:=by
    have:=Hj;unfold Fa at *;simp only[List.length_set] at *;rw[UC];omega
   refine last.aL (o:={dst:=none,op:=Op.store 3 (Operand.tmp 61) (Operand.tmp 59),type:=0,pos:= "l11_coord.go:260",after:=#[{on:=5,ground:=Ground.data},{on:=3,ground:=Ground.data},{on:=3,ground:=Ground.chain},{on:=0,ground:=Ground.phase},{on:=1,ground:=Ground.phase},{on:=2,ground:=Ground.phase},{on:=3,ground:=Ground.phase}],guard:=none}) (by aa) rfl (by aa) (fun K hK=>?_)
   af;refine hK.out _ _ ?_;clear hK K;rw[HU.out];clear HU t2 t3 hu cZ Cd Nj ur dJ zN Rk UA UB gN GH dh al wE hl5 sH R_ jx ix UC pt Jy;obtain⟨q0,q1,q2,q3,q4,q5⟩:=cells6 bP.ins.box;obtain⟨z0,z1,z2,z3,z4,z5⟩:=cells6 bP.rb;have f0:=bP.rb.fz 0;have f1:=bP.rb.fz 1;have f2:=bP.rb.fz 2;have f3:=bP.rb.fz 3;have f4:=bP.rb.fz 4;have f5:=bP.rb.fz 5;have hS:=bP.rb.whole [.int .i64 c.1,.int .i64 c.2.1,.int .i64 c.2.2.1,.slice (some ⟨gj,0,none⟩) ni nj,.slice pC pD nk,.int .i64 c.2.2.2.2.2] rfl;obtain⟨y0,y1,y2,y3,y4,y5⟩:=cells6 hS.1;obtain⟨g1,g2,g3⟩:=bP.gX;have jL:=bp.bH bP.ins.own hS.2 (fun j hj e=>bP.rF (by rw[←Option.some.inj e]; exact hj))
   have lM:=bP.cur.grown hS.2 (fun e=>g3 (Option.some.inj e)) (fun k e=>by cases e; exact rS)
   have qz:w.grownBy (bx (U) w.heap.size 0 [.int .i64 c.1,.int .i64 c.2.1,.int .i64 c.2.2.1,.slice (some ⟨gj,0,none⟩) ni nj,.slice pC pD nk,.int .i64 c.2.2.2.2.2]) (some gc):=⟨hS.2.os.trans bP.fr.os,hS.2.tape.trans bP.fr.tape,hS.2.output.trans bP.fr.output,Nat.le_trans bP.fr.size hS.2.size,fun k hk bh=>(hS.2.block k (Nat.lt_of_lt_of_le hk bP.fr.size) (fun e=>by have:=Option.some.inj e; omega)).trans (bP.fr.block k hk bh)⟩
   have HP:Hid (j7 w0 w gc a len cap code (.returned (.agg #[.int .i64 c.1,.int .i64 c.2.1,.int .i64 c.2.2.1,.slice (some ⟨gj,0,none⟩) ni nj,.slice pC pD nk,.int .i64 c.2.2.2.2.2])) (bx (U) w.heap.size 0 [.int .i64 c.1,.int .i64 c.2.1,.int .i64 c.2.2.1,.slice (some ⟨gj,0,none⟩) ni nj,.slice pC pD nk,.int .i64 c.2.2.2.2.2])):=⟨_,_,_,_,_,_,(c.1,c.2.1,c.2.2.1,c.2.2.2.1.set 0 (c.2.2.2.1[0].1,c.2.2.2.1[0].2.1,(z:Int),c.2.2.2.1[0].2.2.2),c.2.2.2.2.1,c.2.2.2.2.2),_,Y2,rfl,jL,fun k hk=>bP.new k (List.mem_cons_of_mem _ hk),lM,qz⟩
   simp only[bx,Nat.zero_add,Nat.reduceAdd] at HP y0 y1 y2 y3 y4 y5;have HY:=Hid.mk' (And.intro y0 (And.intro y1 (And.intro y2 (And.intro y3 (And.intro y4 y5)))));have sC:w.heap.size≠w1.heap.size:=bP.rX;have tW:w1.heap.size≠w.heap.size:=fun e=>sC e.symm
   clear jL lM qz hS y0 y1 y2 y3 y4 y5 ;ab fail;obtain⟨y0,y1,y2,y3,y4,y5⟩:=HY.out;refine bodyPost_ret (v:=.agg #[.int .i64 c.1,.int .i64 c.2.1,.int .i64 c.2.2.1,.slice (some ⟨gj,0,none⟩) ni nj,.slice pC pD nk,.int .i64 c.2.2.2.2.2]) ?_ rfl HP.out;simp[results,Tryz.results53,go_sem,y0,y1,y2,y3,y4,y5]
 have e0:((x:Int)==0)=false:=beq_eq_false_iff_ne.2 (by omega)
 have e1:((x:Int)==1)=false:=beq_eq_false_iff_ne.2 (by omega)
 have e2:((x:Int)==2)=false:=beq_eq_false_iff_ne.2 (by omega)
 have e3:((x:Int)==3)=false:=beq_eq_false_iff_ne.2 (by omega)
 have e4:((x:Int)==4)=false:=beq_eq_false_iff_ne.2 (by omega)
 have e5:((x:Int)==5)=false:=beq_eq_false_iff_ne.2 (by omega)
 generalize(x:Int)=xi at *;obtain⟨q0,q1,q2,q3,q4,q5⟩:=cells6 dh.ins.box;obtain⟨z0,z1,z2,z3,z4,z5⟩:=cells6 dh.rb;have f0:=dh.rb.fz 0;have f1:=dh.rb.fz 1;have f2:=dh.rb.fz 2;have f3:=dh.rb.fz 3;have f4:=dh.rb.fz 4;have f5:=dh.rb.fz 5;have hS:=dh.rb.whole [.int .i64 c.1,.int .i64 c.2.1,.int .i64 c.2.2.1,.slice ja jn jc,.slice la ln lc,.int .i64 c.2.2.2.2.2] rfl;obtain⟨y0,y1,y2,y3,y4,y5⟩:=cells6 hS.1;obtain⟨g1,g2,g3⟩:=dh.gX;have jL:=bp.bH dh.ins.own hS.2 (fun j hj e=>dh.rF (by rw[←Option.some.inj e]; exact hj))
 have lM:=dh.cur.grown hS.2 (fun e=>g3 (Option.some.inj e)) (fun k e=>by cases e; exact rS)
 have qz:w.grownBy (bx (w2) w.heap.size 0 [.int .i64 c.1,.int .i64 c.2.1,.int .i64 c.2.2.1,.slice ja jn jc,.slice la ln lc,.int .i64 c.2.2.2.2.2]) (some gc):=⟨hS.2.os.trans dh.fr.os,hS.2.tape.trans dh.fr.tape,hS.2.output.trans dh.fr.output,Nat.le_trans dh.fr.size hS.2.size,fun k hk bh=>(hS.2.block k (Nat.lt_of_lt_of_le hk dh.fr.size) (fun e=>by have:=Option.some.inj e; omega)).trans (dh.fr.block k hk bh)⟩
 have HP:Hid (j7 w0 w gc a len cap code (.returned (.agg #[.int .i64 c.1,.int .i64 c.2.1,.int .i64 c.2.2.1,.slice ja jn jc,.slice la ln lc,.int .i64 c.2.2.2.2.2])) (bx (w2) w.heap.size 0 [.int .i64 c.1,.int .i64 c.2.1,.int .i64 c.2.2.1,.slice ja jn jc,.slice la ln lc,.int .i64 c.2.2.2.2.2])):=⟨_,_,_,_,_,_,c,_,by omega,rfl,jL,fun k hk=>dh.new k (List.mem_cons_of_mem _ hk),lM,qz⟩
 simp only[bx,Nat.zero_add,Nat.reduceAdd] at HP y0 y1 y2 y3 y4 y5;have HY:=Hid.mk' (And.intro y0 (And.intro y1 (And.intro y2 (And.intro y3 (And.intro y4 y5)))));have sC:w.heap.size≠w1.heap.size:=dh.rX;have tW:w1.heap.size≠w.heap.size:=fun e=>sC e.symm
 clear jL lM qz hS y0 y1 y2 y3 y4 y5 dh;ab fail;obtain⟨y0,y1,y2,y3,y4,y5⟩:=HY.out;refine bodyPost_ret (v:=.agg #[.int .i64 c.1,.int .i64 c.2.1,.int .i64 c.2.2.1,.slice ja jn jc,.slice la ln lc,.int .i64 c.2.2.2.2.2]) ?_ rfl HP.out;simp[results,Tryz.results53,go_sem,y0,y1,y2,y3,y4,y5]
end cos
end Go.Proofs.YtmibabclefgljaaGreat
