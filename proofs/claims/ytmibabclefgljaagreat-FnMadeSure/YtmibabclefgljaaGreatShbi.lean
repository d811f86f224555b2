/- CoAn -/
import Derived.Test.YtmibabclefgljaaGreatShbh
set_option linter.unusedVariables false
set_option linter.unusedSimpArgs false
namespace Go.Proofs.YtmibabclefgljaaGreat
namespace cos
open Go Go.RowKit base av aN lay kN draw
structure zw (w0 w wr:World) (gc:Nat) (a:Option Addr) (len cap:Nat) (code:List UInt8) (RB X:Nat) (ja:Option Addr) (jn jc:Nat) (la:Option Addr) (ln lc:Nat) (c:Co) (F:List Nat):Prop where
 cur:gI w0 wr gc a len cap code
 ins:iY wr X oB [] [] ja jn jc la ln lc c F
 dr:r9 c
 new:∀k∈X::F,w.heap.size≤k
 old:gc<w.heap.size
 base:w0.heap.size≤w.heap.size
 fr:w.grownBy wr (some gc)
 rb:au RB oB [] [.int .i64 0,.int .i64 0,.int .i64 0,.slice none 0 0,.slice none 0 0,.int .i64 0] [] wr
 rX:RB≠X
 rF:RB∉F
 rn:w.heap.size≤RB
section
variable{w0 w wr w':World}{gc:Nat}{a:Option Addr}{len cap:Nat}{code:List UInt8}{RB X:Nat}{ja la:Option Addr}{jn jc ln lc:Nat}{c c':Co}{F:List Nat}
theorem zw.gX(h:zw w0 w wr gc a len cap code RB X ja jn jc la ln lc c F):gc≠X∧gc∉F∧gc≠RB:=by
 have h1:=h.old;have h2:=h.new;have h3:=h.rn;refine⟨fun e=>?_,fun e=>?_,fun e=>?_⟩
 · have:=h2 X List.mem_cons_self; omega
 · have:=h2 gc (List.mem_cons_of_mem _ e); omega
 · omega
theorem zw.step(h:zw w0 w wr gc a len cap code RB X ja jn jc la ln lc c F)(Ce:gI w0 w' gc a len cap code)(hg:wr.grownBy w' (some gc)):zw w0 w w' gc a len cap code RB X ja jn jc la ln lc c F:=by
 obtain⟨g1,g2,g3⟩:=h.gX;exact⟨Ce,h.ins.vb hg g1 g2,h.dr,h.new,h.old,h.base,ao h.fr hg,h.rb.grown hg (fun e=>g3 (Option.some.inj e).symm),h.rX,h.rF,h.rn⟩
theorem zw.more(h:zw w0 w wr gc a len cap code RB X ja jn jc la ln lc c F)(hb:Below wr.heap.size wr w'):zw w0 w w' gc a len cap code RB X ja jn jc la ln lc c F:=
 ⟨h.cur.below hb,h.ins.below hb,h.dr,h.new,h.old,h.base,aP h.fr hb,h.rb.below hb,h.rX,h.rF,h.rn⟩
theorem zw.outside{J:Nat}(h:zw w0 w wr gc a len cap code RB X ja jn jc la ln lc c F)(hg:wr.grownBy w' (some J))(hJ:w.heap.size≤J)(h1:J≠X)(h2:J∉F)(h3:J≠RB):zw w0 w w' gc a len cap code RB X ja jn jc la ln lc c F:=by
 have xn:gc≠J:=fun e=>by have:=h.old; omega
 refine⟨h.cur.grown hg (fun e=>xn (Option.some.inj e)) (fun k e=>by cases e; exact Nat.le_trans h.base hJ),h.ins.vb hg h1 h2,h.dr,h.new,h.old,h.base,?_,h.rb.grown hg (fun e=>h3 (Option.some.inj e).symm),h.rX,h.rF,h.rn⟩
 exact⟨hg.os.trans h.fr.os,hg.tape.trans h.fr.tape,hg.output.trans h.fr.output,Nat.le_trans h.fr.size hg.size,fun k hk aW=>(hg.block k (Nat.lt_of_lt_of_le hk h.fr.size) (fun e=>by have:=Option.some.inj e; omega)).trans (h.fr.block k hk aW)⟩
theorem zw.wrote(h:zw w0 w wr gc a len cap code RB X ja jn jc la ln lc c F)(hw:fp wr X oB [] [] F c' w')(hd:r9 c'):∃ja jn jc la ln lc F',zw w0 w w' gc a len cap code RB X ja jn jc la ln lc c' F':=by
 obtain⟨g1,g2,g3⟩:=h.gX;obtain⟨Ht,Hu,Hv,Bl,Bm,Bn,F',h1,h2,h3⟩:=hw;have iO:=h.fr.size;have kC:∀k∈F',w.heap.size≤k:=fun k hk=>by
  rcases h3 k hk with e | e
  · exact h.new k (List.mem_cons_of_mem _ e)
  · omega
 refine⟨Ht,Hu,Hv,Bl,Bm,Bn,F',vF h.cur h2 (fun e=>?_) (fun k hk=>Nat.le_trans h.base (h.new k hk)),h1,hd,fun k hk=>?_,h.old,h.base,?_,h.rb.frame h2 (fun e=>?_),h.rX,fun e=>?_,h.rn⟩
 · rcases List.mem_cons.1 e with e | e
   · exact g1 e
   · exact g2 e
 · rcases List.mem_cons.1 hk with e | e
   · rw[e]; exact h.new X List.mem_cons_self
   · exact kC k e
 · exact⟨h2.os.trans h.fr.os,h2.tape.trans h.fr.tape,h2.output.trans h.fr.output,Nat.le_trans h.fr.size h2.size,fun k hk aW=>(h2.block k (Nat.lt_of_lt_of_le hk h.fr.size) (fun e=>by have:=h.new k e; omega)).trans (h.fr.block k hk aW)⟩
 · rcases List.mem_cons.1 e with e | e
   · exact h.rX e
   · exact h.rF e
 · rcases h3 RB e with e | e
   · exact h.rF e
   · have:=h.rb.lt; omega
end
section
variable{w:World}{X:Nat}{ja la:Option Addr}{jn jc ln lc:Nat}{c:Co}{F:List Nat}
theorem mf{T:TypeId}{v0 v1 v2 v5:Value}{Ht Bl:Option Addr}{Hu Hv Bm Bn:Nat}(h:au X T [] [v0,v1,v2,.slice Ht Hu Hv,.slice Bl Bm Bn,v5] [] w)(h2:au X T [] [v0,v1,v2,.slice ja jn jc,.slice la ln lc,v5] [] w):Ht=ja∧Hu=jn∧Hv=jc∧Bl=la∧Bm=ln∧Bn=lc:=by
 have a3:=(cells6 h).2.2.2.1;have b3:=(cells6 h2).2.2.2.1;have a4:=(cells6 h).2.2.2.2.1;have b4:=(cells6 h2).2.2.2.2.1;rw[b3] at a3;rw[b4] at a4;have e3:=Option.some.inj a3;have e4:=Option.some.inj a4;simp only[Value.slice.injEq] at e3 e4;exact⟨e3.1.symm,e3.2.1.symm,e3.2.2.symm,e4.1.symm,e4.2.1.symm,e4.2.2.symm⟩
theorem iY.YI(h:iY w X oB [] [] ja jn jc la ln lc c F)(z:Int)(hz:(Lit.int .i64 z).wf=true):iY (w.setCell ⟨X,0,none⟩ (.int .i64 z)) X oB [] [] ja jn jc la ln lc (z,c.2.1,c.2.2.1,c.2.2.2.1,c.2.2.2.2.1,c.2.2.2.2.2) F∧w.grownBy (w.setCell ⟨X,0,none⟩ (.int .i64 z)) (some X):=by
 have s:=h.box.set 0 (by simp) (.int .i64 z)
 simp only[List.length_nil,Nat.zero_add] at s;have hO:=a7.br h.own s.2 (fun j hj e=>h.out (by rw[←Option.some.inj e]; exact hj))
 obtain⟨vx,vy,F1,F2,e,hw,hj,hl,dL,dW⟩:=bn.1 hO;simp only[List.cons.injEq,and_true,true_and] at e;obtain⟨rfl,rfl⟩:=e;exact⟨⟨s.1,bn.2 ⟨_,_,F1,F2,rfl,⟨hz,hw.ak,hw.next,hw.sure⟩,hj,hl,dL,dW⟩,h.out⟩,s.2⟩
theorem iY.YJ(h:iY w X oB [] [] ja jn jc la ln lc c F)(z:Int)(hz:(Lit.int .i64 z).wf=true):iY (w.setCell ⟨X,1,none⟩ (.int .i64 z)) X oB [] [] ja jn jc la ln lc (c.1,z,c.2.2.1,c.2.2.2.1,c.2.2.2.2.1,c.2.2.2.2.2) F∧w.grownBy (w.setCell ⟨X,1,none⟩ (.int .i64 z)) (some X):=by
 have s:=h.box.set 1 (by simp) (.int .i64 z)
 simp only[List.length_nil,Nat.zero_add] at s;have hO:=a7.br h.own s.2 (fun j hj e=>h.out (by rw[←Option.some.inj e]; exact hj))
 obtain⟨vx,vy,F1,F2,e,hw,hj,hl,dL,dW⟩:=bn.1 hO;simp only[List.cons.injEq,and_true,true_and] at e;obtain⟨rfl,rfl⟩:=e;exact⟨⟨s.1,bn.2 ⟨_,_,F1,F2,rfl,⟨hw.n,hz,hw.next,hw.sure⟩,hj,hl,dL,dW⟩,h.out⟩,s.2⟩
theorem iY.YK(h:iY w X oB [] [] ja jn jc la ln lc c F)(z:Int)(hz:(Lit.int .i64 z).wf=true):iY (w.setCell ⟨X,2,none⟩ (.int .i64 z)) X oB [] [] ja jn jc la ln lc (c.1,c.2.1,z,c.2.2.2.1,c.2.2.2.2.1,c.2.2.2.2.2) F∧w.grownBy (w.setCell ⟨X,2,none⟩ (.int .i64 z)) (some X):=by
 have s:=h.box.set 2 (by simp) (.int .i64 z)
 simp only[List.length_nil,Nat.zero_add] at s;have hO:=a7.br h.own s.2 (fun j hj e=>h.out (by rw[←Option.some.inj e]; exact hj))
 obtain⟨vx,vy,F1,F2,e,hw,hj,hl,dL,dW⟩:=bn.1 hO;simp only[List.cons.injEq,and_true,true_and] at e;obtain⟨rfl,rfl⟩:=e;exact⟨⟨s.1,bn.2 ⟨_,_,F1,F2,rfl,⟨hw.n,hw.ak,hz,hw.sure⟩,hj,hl,dL,dW⟩,h.out⟩,s.2⟩
theorem iY.YL(h:iY w X oB [] [] ja jn jc la ln lc c F)(z:Int)(hz:(Lit.int .i64 z).wf=true):iY (w.setCell ⟨X,5,none⟩ (.int .i64 z)) X oB [] [] ja jn jc la ln lc (c.1,c.2.1,c.2.2.1,c.2.2.2.1,c.2.2.2.2.1,z) F∧w.grownBy (w.setCell ⟨X,5,none⟩ (.int .i64 z)) (some X):=by
 have s:=h.box.set 5 (by simp) (.int .i64 z)
 simp only[List.length_nil,Nat.zero_add] at s;have hO:=a7.br h.own s.2 (fun j hj e=>h.out (by rw[←Option.some.inj e]; exact hj))
 obtain⟨vx,vy,F1,F2,e,hw,hj,hl,dL,dW⟩:=bn.1 hO;simp only[List.cons.injEq,and_true,true_and] at e;obtain⟨rfl,rfl⟩:=e;exact⟨⟨s.1,bn.2 ⟨_,_,F1,F2,rfl,⟨hw.n,hw.ak,hw.next,hz⟩,hj,hl,dL,dW⟩,h.out⟩,s.2⟩
end
def jL(w0 w:World)(gc:Nat)(a:Option Addr)(len cap:Nat)(code:List UInt8)(e:Ending)(w':World):Prop:=
 ∃(ja:Option Addr) (jn jc:Nat) (la:Option Addr) (ln lc:Nat) (c:Co) (F:List Nat),EW c≤400000∧e=.returned (.agg #[.int .i64 c.1,.int .i64 c.2.1,.int .i64 c.2.2.1,.slice ja jn jc,.slice la ln lc,.int .i64 c.2.2.2.2.2])∧a7.own w' [.int .i64 c.1,.int .i64 c.2.1,.int .i64 c.2.2.1,.slice ja jn jc,.slice la ln lc,.int .i64 c.2.2.2.2.2] c F∧(∀k∈F,w.heap.size≤k)∧gI w0 w' gc a len cap code∧w.grownBy w' (some gc)
set_option maxRecDepth 100000 in
set_option maxHeartbeats 12000000 in
theorem QJ(w0 w:World)(gc:Nat)(a:Option Addr)(len cap:Nat)(code:List UInt8)(eR:Nat)(h:gI w0 w gc a len cap code)(hm:0<eR)(jD:eR≤800):
 Calls Tryz.prog 53 #[.pointer (some ⟨gc,0,none⟩),.int .i64 (eR:Int)] w fun e w'=>jL w0 w gc a len cap code e w':=by
 have cK:=h.lt;have ry:=h.e7.size;obtain⟨wa,jd⟩:∃wa,w.alloc (.cells #[.int .i64 0,.int .i64 0,.int .i64 0,.slice none 0 0,.slice none 0 0,.int .i64 0] 28)=wa:=⟨_,rfl⟩;have bg:Below w.heap.size w wa:=by rw[←jd]; exact aJ
 have Ho:wa.heap.size=w.heap.size+1:=by rw[←jd]; simp
 have xI:au w.heap.size oB [] [.int .i64 0,.int .i64 0,.int .i64 0,.slice none 0 0,.slice none 0 0,.int .i64 0] [] wa:=by rw[←jd]; exact aE w _ _
 have xJ:=Hid.mk' jd;have JY:=Hid.mk' (M9 w0 wa gc a len cap code eR (h.below bg) hm jD);clear jd;go_enter Tryz.func53,Tryz.ntmps53;go_wp2_with fail;rw[xJ.out];refine JY.out.mono ?_;rintro e w1 ⟨ja,jn,jc,la,ln,lc,c,F,YM,_,rfl,qt,tR,gk,gR⟩;clear JY xJ;obtain⟨v1,oI⟩:∃v1,w1.alloc (.cells #[.int .i64 c.1,.int .i64 c.2.1,.int .i64 c.2.2.1,.slice ja jn jc,.slice la ln lc,.int .i64 c.2.2.2.2.2] 28)=v1:=⟨_,rfl⟩;have aT:Below w1.heap.size w1 v1:=by rw[←oI]; exact aJ
 have vO:=tH (T:=oB) qt;rw[oI] at vO;have tL:=gR.size;have fo:r9 c:=by obtain⟨_,_,_,_,_,hw,_⟩:=bn.1 qt; exact hw
 have GZ:=YM.size;have rU:ln≤1000:=by have h1:=(tY (a7.eu qt)).log.1; have:=YM.jB; omega
 have oQ:Hid (ln=c.2.2.2.2.1.length):=(tY (a7.eu qt)).log.1.symm;have pk:zw w0 w v1 gc a len cap code w.heap.size w1.heap.size ja jn jc la ln lc c F:=
  ⟨gk.below aT,⟨vO.box,vO.own,vO.out⟩,fo,fun k hk=>by
   rcases List.mem_cons.1 hk with e | e
   · omega
   · have:=tR k e; omega,cK,ry,aP (ao (aP (World.grownBy.refl _ _) bg) gR) aT,(xI.grown gR (fun e=>by have:=Option.some.inj e; omega)).below aT,by omega,fun e=>by have:=tR _ e; omega,Nat.le_refl _⟩
 have vc:=Hid.mk' (cf w0 v1 gc a len cap code 12 pk.cur (by omega) (by omega))
 rw[←oI] at vc;have Br:=Hid.mk' oI;clear oI vO qt xI gk gR aT bg YM Ho;go_wp2_with fail;refine vc.out.mono ?_;rw[Br.out];rintro e w2 ⟨x,hx,rfl,dS,lC⟩;have cT:=pk.step dS lC;clear vc Br pk dS lC;by_cases x0:x=0
 · subst x0;obtain⟨w4,iH⟩:∃w4,w2.alloc (.cells #[.int .i64 0,.int .i64 1,.int .i64 9] 3)=w4:=⟨_,rfl⟩;have eD:Below w2.heap.size w2 w4:=by rw[←iH]; exact aJ
   have lu:w4.heap[w2.heap.size]? =some (.cells #[.int .i64 0,.int .i64 1,.int .i64 9] 3 (0,0)):=by rw[←iH]; exact heap_alloc_new w2 _
   have fF:=cT.more eD;have mY:=Hid.mk' (u7 w0 w4 gc a len cap code w2.heap.size 3 3 _ _ fF.cur lu rfl (by omega) (by omega) (by have:=cT.old; have:=cT.fr.size; omega) (fun z=>decide (0≤z∧z≤9)=true) (ir _ 3 (fun z=>decide (0≤z∧z≤9)) (by kernel_rfl)))
   rw[←iH] at mY;have rz:=Hid.mk' iH;clear iH lu cT eD;go_wp2_with fail;refine mY.out.mono ?_;rw[rz.out];rintro e w5 ⟨z,dm,rfl,je,g_⟩;have hz:0≤z∧z≤9:=of_decide_eq_true dm;have gq:=fF.step je g_;have ze:(Lit.int .i64 z).wf=true:=WalkArith.wf_i64 (by omega)
   have hP:=gq.ins.YI z ze;obtain⟨oZ,mR,mS,o7,o8,mT,F',bB⟩:∃ja jn jc la ln lc F,zw w0 w (w5.setCell ⟨w1.heap.size,0,none⟩ (.int .i64 z)) gc a len cap code w.heap.size w1.heap.size ja jn jc la ln lc (z,c.2.1,c.2.2.1,c.2.2.2.1,c.2.2.2.2.1,c.2.2.2.2.2) F:=gq.wrote ⟨ja,jn,jc,la,ln,lc,F,hP.1,(lay.Frame.refl _ _).grown hP.2 (fun k e=>.inl (by rw[←Option.some.inj e]; exact List.mem_cons_self)),fun k hk=>.inl hk⟩ ⟨ze,fo.ak,fo.next,fo.sure⟩
   have t:=gq.ins.box.cell 0 _ rfl;have t1:=gq.ins.box.fz 0;simp only[List.length_nil,Nat.zero_add] at t;have js:oZ=ja∧mR=jn∧mS=jc∧o7=la∧o8=ln∧mT=lc:=mf bB.ins.box hP.1.box;obtain⟨rfl,rfl,rfl,rfl,rfl,rfl⟩:=js;clear mY rz hP fF je g_ gq dm;obtain⟨q0,q1,q2,q3,q4,q5⟩:=cells6 bB.ins.box;obtain⟨z0,z1,z2,z3,z4,z5⟩:=cells6 bB.rb;have f0:=bB.rb.fz 0;have f1:=bB.rb.fz 1;have f2:=bB.rb.fz 2;have f3:=bB.rb.fz 3;have f4:=bB.rb.fz 4;have f5:=bB.rb.fz 5;have hS:=bB.rb.whole [.int .i64 z,.int .i64 c.2.1,.int .i64 c.2.2.1,.slice oZ mR mS,.slice o7 o8 mT,.int .i64 c.2.2.2.2.2] rfl;obtain⟨y0,y1,y2,y3,y4,y5⟩:=cells6 hS.1;obtain⟨g1,g2,g3⟩:=bB.gX;have jv:=a7.br bB.ins.own hS.2 (fun j hj e=>bB.rF (by rw[←Option.some.inj e]; exact hj))
   have lr:=bB.cur.grown hS.2 (fun e=>g3 (Option.some.inj e)) (fun k e=>by cases e; exact ry)
   have qb:w.grownBy (bh (w5.setCell ⟨w1.heap.size,0,none⟩ (.int .i64 z)) w.heap.size 0 [.int .i64 z,.int .i64 c.2.1,.int .i64 c.2.2.1,.slice oZ mR mS,.slice o7 o8 mT,.int .i64 c.2.2.2.2.2]) (some gc):=⟨hS.2.os.trans bB.fr.os,hS.2.tape.trans bB.fr.tape,hS.2.output.trans bB.fr.output,Nat.le_trans bB.fr.size hS.2.size,fun k hk aW=>(hS.2.block k (Nat.lt_of_lt_of_le hk bB.fr.size) (fun e=>by have:=Option.some.inj e; omega)).trans (bB.fr.block k hk aW)⟩
   have HP:Hid (jL w0 w gc a len cap code (.returned (.agg #[.int .i64 z,.int .i64 c.2.1,.int .i64 c.2.2.1,.slice oZ mR mS,.slice o7 o8 mT,.int .i64 c.2.2.2.2.2])) (bh (w5.setCell ⟨w1.heap.size,0,none⟩ (.int .i64 z)) w.heap.size 0 [.int .i64 z,.int .i64 c.2.1,.int .i64 c.2.2.1,.slice oZ mR mS,.slice o7 o8 mT,.int .i64 c.2.2.2.2.2])):=⟨_,_,_,_,_,_,(z,c.2.1,c.2.2.1,c.2.2.2.1,c.2.2.2.2.1,c.2.2.2.2.2),_,by have:=GZ; unfold EW at *; simp only[] at *; omega,rfl,jv,fun k hk=>bB.new k (List.mem_cons_of_mem _ hk),lr,qb⟩
   simp only[bh,Nat.zero_add,Nat.reduceAdd] at HP y0 y1 y2 y3 y4 y5;have HY:=Hid.mk' (And.intro y0 (And.intro y1 (And.intro y2 (And.intro y3 (And.intro y4 y5)))));have r7:w.heap.size≠w1.heap.size:=bB.rX;have tD:w1.heap.size≠w.heap.size:=fun e=>r7 e.symm
   clear jv lr qb hS y0 y1 y2 y3 y4 y5 ;go_wp2_with fail;obtain⟨y0,y1,y2,y3,y4,y5⟩:=HY.out;refine bodyPost_ret (v:=.agg #[.int .i64 z,.int .i64 c.2.1,.int .i64 c.2.2.1,.slice oZ mR mS,.slice o7 o8 mT,.int .i64 c.2.2.2.2.2]) ?_ rfl HP.out;simp[results,Tryz.results53,go_sem,y0,y1,y2,y3,y4,y5]
 by_cases x1:x=1
 · subst x1;obtain⟨w4,iH⟩:∃w4,w2.alloc (.cells #[.int .i64 0,.int .i64 999,.int .i64 1000,.int .i64 (-1)] 3)=w4:=⟨_,rfl⟩;have eD:Below w2.heap.size w2 w4:=by rw[←iH]; exact aJ
   have lu:w4.heap[w2.heap.size]? =some (.cells #[.int .i64 0,.int .i64 999,.int .i64 1000,.int .i64 (-1)] 3 (0,0)):=by rw[←iH]; exact heap_alloc_new w2 _
   have fF:=cT.more eD;have mY:=Hid.mk' (u7 w0 w4 gc a len cap code w2.heap.size 4 4 _ _ fF.cur lu rfl (by omega) (by omega) (by have:=cT.old; have:=cT.fr.size; omega) (fun z=>decide (-1≤z∧z≤1000)=true) (ir _ 4 (fun z=>decide (-1≤z∧z≤1000)) (by kernel_rfl)))
   rw[←iH] at mY;have rz:=Hid.mk' iH;clear iH lu cT eD;go_wp2_with fail;refine mY.out.mono ?_;rw[rz.out];rintro e w5 ⟨z,dm,rfl,je,g_⟩;have hz: -1≤z∧z≤1000:=of_decide_eq_true dm;have gq:=fF.step je g_;have ze:(Lit.int .i64 z).wf=true:=WalkArith.wf_i64 (by omega)
   have hP:=gq.ins.YK z ze;obtain⟨oZ,mR,mS,o7,o8,mT,F',bB⟩:∃ja jn jc la ln lc F,zw w0 w (w5.setCell ⟨w1.heap.size,2,none⟩ (.int .i64 z)) gc a len cap code w.heap.size w1.heap.size ja jn jc la ln lc (c.1,c.2.1,z,c.2.2.2.1,c.2.2.2.2.1,c.2.2.2.2.2) F:=gq.wrote ⟨ja,jn,jc,la,ln,lc,F,hP.1,(lay.Frame.refl _ _).grown hP.2 (fun k e=>.inl (by rw[←Option.some.inj e]; exact List.mem_cons_self)),fun k hk=>.inl hk⟩ ⟨fo.n,fo.ak,ze,fo.sure⟩
   have t:=gq.ins.box.cell 2 _ rfl;have t1:=gq.ins.box.fz 2;simp only[List.length_nil,Nat.zero_add] at t;have js:oZ=ja∧mR=jn∧mS=jc∧o7=la∧o8=ln∧mT=lc:=mf bB.ins.box hP.1.box;obtain⟨rfl,rfl,rfl,rfl,rfl,rfl⟩:=js;clear mY rz hP fF je g_ gq dm;obtain⟨q0,q1,q2,q3,q4,q5⟩:=cells6 bB.ins.box;obtain⟨z0,z1,z2,z3,z4,z5⟩:=cells6 bB.rb;have f0:=bB.rb.fz 0;have f1:=bB.rb.fz 1;have f2:=bB.rb.fz 2;have f3:=bB.rb.fz 3;have f4:=bB.rb.fz 4;have f5:=bB.rb.fz 5;have hS:=bB.rb.whole [.int .i64 c.1,.int .i64 c.2.1,.int .i64 z,.slice oZ mR mS,.slice o7 o8 mT,.int .i64 c.2.2.2.2.2] rfl;obtain⟨y0,y1,y2,y3,y4,y5⟩:=cells6 hS.1;obtain⟨g1,g2,g3⟩:=bB.gX;have jv:=a7.br bB.ins.own hS.2 (fun j hj e=>bB.rF (by rw[←Option.some.inj e]; exact hj))
   have lr:=bB.cur.grown hS.2 (fun e=>g3 (Option.some.inj e)) (fun k e=>by cases e; exact ry)
   have qb:w.grownBy (bh (w5.setCell ⟨w1.heap.size,2,none⟩ (.int .i64 z)) w.heap.size 0 [.int .i64 c.1,.int .i64 c.2.1,.int .i64 z,.slice oZ mR mS,.slice o7 o8 mT,.int .i64 c.2.2.2.2.2]) (some gc):=⟨hS.2.os.trans bB.fr.os,hS.2.tape.trans bB.fr.tape,hS.2.output.trans bB.fr.output,Nat.le_trans bB.fr.size hS.2.size,fun k hk aW=>(hS.2.block k (Nat.lt_of_lt_of_le hk bB.fr.size) (fun e=>by have:=Option.some.inj e; omega)).trans (bB.fr.block k hk aW)⟩
   have HP:Hid (jL w0 w gc a len cap code (.returned (.agg #[.int .i64 c.1,.int .i64 c.2.1,.int .i64 z,.slice oZ mR mS,.slice o7 o8 mT,.int .i64 c.2.2.2.2.2])) (bh (w5.setCell ⟨w1.heap.size,2,none⟩ (.int .i64 z)) w.heap.size 0 [.int .i64 c.1,.int .i64 c.2.1,.int .i64 z,.slice oZ mR mS,.slice o7 o8 mT,.int .i64 c.2.2.2.2.2])):=⟨_,_,_,_,_,_,(c.1,c.2.1,z,c.2.2.2.1,c.2.2.2.2.1,c.2.2.2.2.2),_,by have:=GZ; unfold EW at *; simp only[] at *; omega,rfl,jv,fun k hk=>bB.new k (List.mem_cons_of_mem _ hk),lr,qb⟩
   simp only[bh,Nat.zero_add,Nat.reduceAdd] at HP y0 y1 y2 y3 y4 y5;have HY:=Hid.mk' (And.intro y0 (And.intro y1 (And.intro y2 (And.intro y3 (And.intro y4 y5)))));have r7:w.heap.size≠w1.heap.size:=bB.rX;have tD:w1.heap.size≠w.heap.size:=fun e=>r7 e.symm
   clear jv lr qb hS y0 y1 y2 y3 y4 y5 ;go_wp2_with fail;obtain⟨y0,y1,y2,y3,y4,y5⟩:=HY.out;refine bodyPost_ret (v:=.agg #[.int .i64 c.1,.int .i64 c.2.1,.int .i64 z,.slice oZ mR mS,.slice o7 o8 mT,.int .i64 c.2.2.2.2.2]) ?_ rfl HP.out;simp[results,Tryz.results53,go_sem,y0,y1,y2,y3,y4,y5]
 by_cases x2:x=2
 · subst x2;obtain⟨w4,iH⟩:∃w4,w2.alloc (.cells #[.int .i64 0,.int .i64 1,.int .i64 900,.int .i64 901] 3)=w4:=⟨_,rfl⟩;have eD:Below w2.heap.size w2 w4:=by rw[←iH]; exact aJ
   have lu:w4.heap[w2.heap.size]? =some (.cells #[.int .i64 0,.int .i64 1,.int .i64 900,.int .i64 901] 3 (0,0)):=by rw[←iH]; exact heap_alloc_new w2 _
   have fF:=cT.more eD;have mY:=Hid.mk' (u7 w0 w4 gc a len cap code w2.heap.size 4 4 _ _ fF.cur lu rfl (by omega) (by omega) (by have:=cT.old; have:=cT.fr.size; omega) (fun z=>decide (0≤z∧z≤901)=true) (ir _ 4 (fun z=>decide (0≤z∧z≤901)) (by kernel_rfl)))
   rw[←iH] at mY;have rz:=Hid.mk' iH;clear iH lu cT eD;go_wp2_with fail;refine mY.out.mono ?_;rw[rz.out];rintro e w5 ⟨z,dm,rfl,je,g_⟩;have hz:0≤z∧z≤901:=of_decide_eq_true dm;have gq:=fF.step je g_;have ze:(Lit.int .i64 z).wf=true:=WalkArith.wf_i64 (by omega)
   have hP:=gq.ins.YJ z ze;obtain⟨oZ,mR,mS,o7,o8,mT,F',bB⟩:∃ja jn jc la ln lc F,zw w0 w (w5.setCell ⟨w1.heap.size,1,none⟩ (.int .i64 z)) gc a len cap code w.heap.size w1.heap.size ja jn jc la ln lc (c.1,z,c.2.2.1,c.2.2.2.1,c.2.2.2.2.1,c.2.2.2.2.2) F:=gq.wrote ⟨ja,jn,jc,la,ln,lc,F,hP.1,(lay.Frame.refl _ _).grown hP.2 (fun k e=>.inl (by rw[←Option.some.inj e]; exact List.mem_cons_self)),fun k hk=>.inl hk⟩ ⟨fo.n,ze,fo.next,fo.sure⟩
   have t:=gq.ins.box.cell 1 _ rfl;have t1:=gq.ins.box.fz 1;simp only[List.length_nil,Nat.zero_add] at t;have js:oZ=ja∧mR=jn∧mS=jc∧o7=la∧o8=ln∧mT=lc:=mf bB.ins.box hP.1.box;obtain⟨rfl,rfl,rfl,rfl,rfl,rfl⟩:=js;clear mY rz hP fF je g_ gq dm;obtain⟨q0,q1,q2,q3,q4,q5⟩:=cells6 bB.ins.box;obtain⟨z0,z1,z2,z3,z4,z5⟩:=cells6 bB.rb;have f0:=bB.rb.fz 0;have f1:=bB.rb.fz 1;have f2:=bB.rb.fz 2;have f3:=bB.rb.fz 3;have f4:=bB.rb.fz 4;have f5:=bB.rb.fz 5;have hS:=bB.rb.whole [.int .i64 c.1,.int .i64 z,.int .i64 c.2.2.1,.slice oZ mR mS,.slice o7 o8 mT,.int .i64 c.2.2.2.2.2] rfl;obtain⟨y0,y1,y2,y3,y4,y5⟩:=cells6 hS.1;obtain⟨g1,g2,g3⟩:=bB.gX;have jv:=a7.br bB.ins.own hS.2 (fun j hj e=>bB.rF (by rw[←Option.some.inj e]; exact hj))
   have lr:=bB.cur.grown hS.2 (fun e=>g3 (Option.some.inj e)) (fun k e=>by cases e; exact ry)
   have qb:w.grownBy (bh (w5.setCell ⟨w1.heap.size,1,none⟩ (.int .i64 z)) w.heap.size 0 [.int .i64 c.1,.int .i64 z,.int .i64 c.2.2.1,.slice oZ mR mS,.slice o7 o8 mT,.int .i64 c.2.2.2.2.2]) (some gc):=⟨hS.2.os.trans bB.fr.os,hS.2.tape.trans bB.fr.tape,hS.2.output.trans bB.fr.output,Nat.le_trans bB.fr.size hS.2.size,fun k hk aW=>(hS.2.block k (Nat.lt_of_lt_of_le hk bB.fr.size) (fun e=>by have:=Option.some.inj e; omega)).trans (bB.fr.block k hk aW)⟩
   have HP:Hid (jL w0 w gc a len cap code (.returned (.agg #[.int .i64 c.1,.int .i64 z,.int .i64 c.2.2.1,.slice oZ mR mS,.slice o7 o8 mT,.int .i64 c.2.2.2.2.2])) (bh (w5.setCell ⟨w1.heap.size,1,none⟩ (.int .i64 z)) w.heap.size 0 [.int .i64 c.1,.int .i64 z,.int .i64 c.2.2.1,.slice oZ mR mS,.slice o7 o8 mT,.int .i64 c.2.2.2.2.2])):=⟨_,_,_,_,_,_,(c.1,z,c.2.2.1,c.2.2.2.1,c.2.2.2.2.1,c.2.2.2.2.2),_,by have:=GZ; unfold EW at *; simp only[] at *; omega,rfl,jv,fun k hk=>bB.new k (List.mem_cons_of_mem _ hk),lr,qb⟩
   simp only[bh,Nat.zero_add,Nat.reduceAdd] at HP y0 y1 y2 y3 y4 y5;have HY:=Hid.mk' (And.intro y0 (And.intro y1 (And.intro y2 (And.intro y3 (And.intro y4 y5)))));have r7:w.heap.size≠w1.heap.size:=bB.rX;have tD:w1.heap.size≠w.heap.size:=fun e=>r7 e.symm
   clear jv lr qb hS y0 y1 y2 y3 y4 y5 ;go_wp2_with fail;obtain⟨y0,y1,y2,y3,y4,y5⟩:=HY.out;refine bodyPost_ret (v:=.agg #[.int .i64 c.1,.int .i64 z,.int .i64 c.2.2.1,.slice oZ mR mS,.slice o7 o8 mT,.int .i64 c.2.2.2.2.2]) ?_ rfl HP.out;simp[results,Tryz.results53,go_sem,y0,y1,y2,y3,y4,y5]
 by_cases x3:x=3
 · subst x3;have k4:=cT.ins.box.cell 4 _ rfl;simp only[List.length_nil,Nat.zero_add] at k4;have sS:IntKind.i64.wrap ((ln:Int)+1)=(ln:Int)+1:=lF _ (by omega) (by omega)
   obtain⟨w4,iH⟩:∃w4,w2.alloc (.cells #[.int .i64 (-1),.int .i64 ((ln:Int)+1)] 3)=w4:=⟨_,rfl⟩;have eD:Below w2.heap.size w2 w4:=by rw[←iH]; exact aJ
   have lu:w4.heap[w2.heap.size]? =some (.cells #[.int .i64 (-1),.int .i64 ((ln:Int)+1)] 3 (0,0)):=by rw[←iH]; exact heap_alloc_new w2 _
   have fF:=cT.more eD;have mY:=Hid.mk' (u7 w0 w4 gc a len cap code w2.heap.size 2 2 _ _ fF.cur lu rfl (by omega) (by omega) (by have:=cT.old; have:=cT.fr.size; omega) (fun z=> -1≤z∧z≤1001) (fun i hi=>by
    match i,hi with
    | 0,_=>exact⟨-1,rfl,by omega,by omega⟩
    | 1,_=>exact⟨(ln:Int)+1,rfl,by omega,by omega⟩))
   rw[←iH] at mY;have rz:=Hid.mk' iH;clear iH lu cT eD;go_wp2_with fail;refine mY.out.mono ?_;rw[rz.out];rintro e w5 ⟨z,dm,rfl,je,g_⟩;have hz: -1≤z∧z≤1001:=dm;have gq:=fF.step je g_;have ze:(Lit.int .i64 z).wf=true:=WalkArith.wf_i64 (by omega)
   have hP:=gq.ins.YL z ze;obtain⟨oZ,mR,mS,o7,o8,mT,F',bB⟩:∃ja jn jc la ln lc F,zw w0 w (w5.setCell ⟨w1.heap.size,5,none⟩ (.int .i64 z)) gc a len cap code w.heap.size w1.heap.size ja jn jc la ln lc (c.1,c.2.1,c.2.2.1,c.2.2.2.1,c.2.2.2.2.1,z) F:=gq.wrote ⟨ja,jn,jc,la,ln,lc,F,hP.1,(lay.Frame.refl _ _).grown hP.2 (fun k e=>.inl (by rw[←Option.some.inj e]; exact List.mem_cons_self)),fun k hk=>.inl hk⟩ ⟨fo.n,fo.ak,fo.next,ze⟩
   have t:=gq.ins.box.cell 5 _ rfl;have t1:=gq.ins.box.fz 5;simp only[List.length_nil,Nat.zero_add] at t;have js:oZ=ja∧mR=jn∧mS=jc∧o7=la∧o8=ln∧mT=lc:=mf bB.ins.box hP.1.box;obtain⟨rfl,rfl,rfl,rfl,rfl,rfl⟩:=js;clear mY rz hP fF je g_ gq dm;obtain⟨q0,q1,q2,q3,q4,q5⟩:=cells6 bB.ins.box;obtain⟨z0,z1,z2,z3,z4,z5⟩:=cells6 bB.rb;have f0:=bB.rb.fz 0;have f1:=bB.rb.fz 1;have f2:=bB.rb.fz 2;have f3:=bB.rb.fz 3;have f4:=bB.rb.fz 4;have f5:=bB.rb.fz 5;have hS:=bB.rb.whole [.int .i64 c.1,.int .i64 c.2.1,.int .i64 c.2.2.1,.slice oZ mR mS,.slice o7 o8 mT,.int .i64 z] rfl;obtain⟨y0,y1,y2,y3,y4,y5⟩:=cells6 hS.1;obtain⟨g1,g2,g3⟩:=bB.gX;have jv:=a7.br bB.ins.own hS.2 (fun j hj e=>bB.rF (by rw[←Option.some.inj e]; exact hj))
   have lr:=bB.cur.grown hS.2 (fun e=>g3 (Option.some.inj e)) (fun k e=>by cases e; exact ry)
   have qb:w.grownBy (bh (w5.setCell ⟨w1.heap.size,5,none⟩ (.int .i64 z)) w.heap.size 0 [.int .i64 c.1,.int .i64 c.2.1,.int .i64 c.2.2.1,.slice oZ mR mS,.slice o7 o8 mT,.int .i64 z]) (some gc):=⟨hS.2.os.trans bB.fr.os,hS.2.tape.trans bB.fr.tape,hS.2.output.trans bB.fr.output,Nat.le_trans bB.fr.size hS.2.size,fun k hk aW=>(hS.2.block k (Nat.lt_of_lt_of_le hk bB.fr.size) (fun e=>by have:=Option.some.inj e; omega)).trans (bB.fr.block k hk aW)⟩
   have HP:Hid (jL w0 w gc a len cap code (.returned (.agg #[.int .i64 c.1,.int .i64 c.2.1,.int .i64 c.2.2.1,.slice oZ mR mS,.slice o7 o8 mT,.int .i64 z])) (bh (w5.setCell ⟨w1.heap.size,5,none⟩ (.int .i64 z)) w.heap.size 0 [.int .i64 c.1,.int .i64 c.2.1,.int .i64 c.2.2.1,.slice oZ mR mS,.slice o7 o8 mT,.int .i64 z])):=⟨_,_,_,_,_,_,(c.1,c.2.1,c.2.2.1,c.2.2.2.1,c.2.2.2.2.1,z),_,by have:=GZ; unfold EW at *; simp only[] at *; omega,rfl,jv,fun k hk=>bB.new k (List.mem_cons_of_mem _ hk),lr,qb⟩
   simp only[bh,Nat.zero_add,Nat.reduceAdd] at HP y0 y1 y2 y3 y4 y5;have HY:=Hid.mk' (And.intro y0 (And.intro y1 (And.intro y2 (And.intro y3 (And.intro y4 y5)))));have r7:w.heap.size≠w1.heap.size:=bB.rX;have tD:w1.heap.size≠w.heap.size:=fun e=>r7 e.symm
   clear jv lr qb hS y0 y1 y2 y3 y4 y5 ;go_wp2_with fail;obtain⟨y0,y1,y2,y3,y4,y5⟩:=HY.out;refine bodyPost_ret (v:=.agg #[.int .i64 c.1,.int .i64 c.2.1,.int .i64 c.2.2.1,.slice oZ mR mS,.slice o7 o8 mT,.int .i64 z]) ?_ rfl HP.out;simp[results,Tryz.results53,go_sem,y0,y1,y2,y3,y4,y5]
 by_cases x4:x=4
 · subst x4;obtain⟨vx,vy,F1,F2,e,_,hj,hl,dL,dW⟩:=bn.1 cT.ins.own;simp only[List.cons.injEq,and_true,true_and] at e;obtain⟨rfl,rfl⟩:=e;obtain⟨⟨ql,hL⟩,rfl⟩:=iw.1 hl;obtain⟨g1,g2,g3⟩:=cT.gX;have lU:Below w2.heap.size w2 w2.drew:=(Below.refl _ _).drew;have Gr:=cT.more lU;have HJ:=Hid.mk' hj;have HL:=Hid.mk' hL;have hds:=lU.size;have OS:=cT.ins.box.lt;have hold:=cT.old;have Q7:=cT.fr.size;have YN:=a7.dv cT.ins.own;have jr:=cT.ins.out;clear hj hl hL;go_wp2_with fail;refine last.aq (S:=fun w'=>au w1.heap.size oB [] [.int .i64 c.1,.int .i64 c.2.1,.int .i64 c.2.2.1,.slice ja jn jc,.slice la ln lc,.int .i64 c.2.2.2.2.2] [] w') 9 (by kernel_rfl) Gr.ins.box (fun af=>?_)
   generalize Eg:w2.drew=D at *;clear Eg;refine last.wpTk 0 (.pointer (some ⟨w1.heap.size,4,none⟩)) rfl rfl ?_ ?_
   · intro wq ar; go_simp
   try simp only[Act.put,zP,zQ,zR]
   refine last.wpTk 1 (.slice la ln lc) rfl rfl ?_ ?_
   · intro wq ar; have q:=ar.cell 4 _ rfl; simp only[List.length_nil,Nat.zero_add] at q; go_simp
   try simp only[Act.put,zP,zQ,zR]
   refine last.wpTk 2 (.pointer (some ⟨gc,0,none⟩)) rfl rfl ?_ ?_
   · intro wq ar; go_simp
   try simp only[Act.put,zP,zQ,zR]
   refine last.an (i:=3) (o:={dst:=some 44,op:=Op.buildSlice 54 4 #[(0,Operand.const (Value.int IntKind.i64 999)),(1,Operand.const (Value.int IntKind.i64 1000)),(2,Operand.const (Value.int IntKind.i64 1001)),(3,Operand.const (Value.int IntKind.i64 5000))],type:=54,pos:= "l11_coord.go:257",after:=#[],guard:=none}) (by kernel_rfl) rfl (fun K hK=>?_)
   go_simp;obtain⟨w4,iH⟩:∃w4,D.alloc (.cells #[.int .i64 999,.int .i64 1000,.int .i64 1001,.int .i64 5000] 3)=w4:=⟨_,rfl⟩;have eD:Below D.heap.size D w4:=by rw[←iH]; exact aJ
   have lu:w4.heap[D.heap.size]? =some (.cells #[.int .i64 999,.int .i64 1000,.int .i64 1001,.int .i64 5000] 3 (0,0)):=by rw[←iH]; exact heap_alloc_new D _
   have fF:=Gr.more eD;have mY:=Hid.mk' (u7 w0 w4 gc a len cap code D.heap.size 4 4 _ _ fF.cur lu rfl (by omega) (by omega) (by omega) (fun z=>decide (999≤z∧z≤5000)=true) (ir _ 4 (fun z=>decide (999≤z∧z≤5000)) (by kernel_rfl)))
   rw[iH];clear iH;refine hK.out _ _ ?_ (fun ag=>?_)
   · exact fF.ins.box
   clear hK K af;have af:=ag;clear ag;try simp only[Act.put,zP,zQ,zR]
   refine last.an (i:=4) (o:={dst:=some 45,op:=Op.call {callee:=Callee.value (Operand.func 29),args:=#[Operand.tmp 43,Operand.tmp 44],argTypes:=#[51,54]},type:=3,pos:= "l11_coord.go:257",after:=#[{on:=2,ground:=Ground.data},{on:=3,ground:=Ground.data}],guard:=none}) (by kernel_rfl) rfl (fun K hK=>?_)
   refine fV.call2 rfl 29 (.tmp 43) (.tmp 44) _ rfl (fun _ _=>rfl) (.pointer (some ⟨gc,0,none⟩)) (.slice (some ⟨D.heap.size,0,none⟩) 4 4) (by kernel_rfl) (by kernel_rfl) _ mY.out ?_
   rintro e w5 ⟨z,dm,rfl,je,g_⟩;refine⟨_,rfl,?_⟩;have hz:999≤z∧z≤5000:=of_decide_eq_true dm;have gq:=fF.step je g_;have Hx:bk 87 q_ w5 (.slice la ln lc) c.2.2.2.2.1 ql:=by
    have h1:=(HL.out.below lU).below eD;refine h1.keep fun b hb=>g_.block b (h1.at_ b hb) (fun e=>g2 ?_)
    rw[(dH.parts HL.out).2.2.1,List.append_nil] at hb;rw[←Option.some.inj e,dL];exact List.mem_append.2 (.inr hb)
   have KW:w1.heap.size∉(Value.slice la ln lc).ownBlock.toList:=fun e=>jr (by rw[dL]; exact List.mem_append.2 (.inr e))
   have ze:(Lit.int .i64 z).wf=true:=WalkArith.wf_i64 (by omega)
   obtain⟨gl,cW,w7,dh,zu,GX,H4,wJ,m5,BV⟩:=qq gq.ins.box Hx KW z false ze (by have:=oQ.out; omega)
   simp only[List.length_nil,Nat.zero_add] at GX H4 wJ;refine hK.out _ _ ?_ (fun ag=>?_)
   · exact gq.ins.box
   clear hK K af;have af:=ag;clear ag;try simp only[Act.put,zP,zQ,zR]
   refine last.wpTk 5 (.agg #[.int .i64 z,.bool false]) rfl rfl ?_ ?_
   · intro wq ar; go_simp
   try simp only[Act.put,zP,zQ,zR]
   refine last.an (i:=6) (o:={dst:=some 47,op:=Op.buildSlice 26 1 #[(0,Operand.tmp 46)],type:=26,pos:= "l11_coord.go:257",after:=#[{on:=5,ground:=Ground.data}],guard:=none}) (by kernel_rfl) rfl (fun K hK=>?_)
   go_simp;have mj:Below w5.heap.size w5 (w5.alloc (.cells #[.int .i64 z,.bool false] 87)):=aJ;refine hK.out _ _ ?_ (fun ag=>?_)
   · exact gq.ins.box.below mj
   clear hK K af;have af:=ag;clear ag;try simp only[Act.put,zP,zQ,zR]
   refine last.an (i:=7) (o:={dst:=some 48,op:=Op.call {callee:=Callee.builtin Builtin.append,args:=#[Operand.tmp 42,Operand.tmp 47],argTypes:=#[26,26]},type:=26,pos:= "l11_coord.go:257",after:=#[{on:=1,ground:=Ground.data},{on:=6,ground:=Ground.data},{on:=4,ground:=Ground.chain}],guard:=none}) (by kernel_rfl) rfl (fun K hK=>?_)
   refine cO rfl (.tmp 42) (.tmp 47) 26 rfl (by kernel_rfl) (by kernel_rfl) dh ?_
   refine hK.out _ _ ?_ (fun ag=>?_)
   · exact zu
   clear hK K af;have af:=ag;clear ag;try simp only[Act.put,zP,zQ,zR]
   refine last.wpTk 8 (.pointer (some ⟨w1.heap.size,4,none⟩)) rfl rfl ?_ ?_
   · intro wq ar; go_simp
   try simp only[Act.put,zP,zQ,zR]
   have t4:=zu.cell 4 _ rfl;have t5:=zu.fz 4;simp only[List.length_nil,Nat.zero_add] at t4;obtain⟨U,hU⟩:∃U,w7.setCell ⟨w1.heap.size,4,none⟩ (.slice (some ⟨gl,0,none⟩) (ln+1) cW)=U:=⟨_,rfl⟩;rw[hU] at GX H4 wJ;have HU:=Hid.mk' hU;clear hU;have vT:kP.own w5 [.slice ja jn jc] c.2.2.2.1 F1:=by
    have h1:=kP.gB (kP.gB HJ.out lU) eD;exact kP.br h1 g_ (fun b hb e=>g2 (by rw[←Option.some.inj e,dL]; exact List.mem_append.2 (.inl hb)))
   have YO:∀b∈F1,b∉w1.heap.size::(Value.slice la ln lc).ownBlock.toList:=fun b hb e=>by
    rcases List.mem_cons.1 e with e | e
    · exact jr (by rw[dL,←e]; exact List.mem_append.2 (.inl hb))
    · rw[dL] at dW;exact(aR dW).2.2 b hb e
   have BY:=kP.If vT wJ YO;have Up:lay.Frame (w1.heap.size::F) w5 U:=wJ.mono (fun b hb=>by
    rcases List.mem_cons.1 hb with e | e
    · rw[e]; exact List.mem_cons_self
    · exact List.mem_cons_of_mem _ (by rw[dL]; exact List.mem_append.2 (.inr e)))
   have hg5s:=g_.size;have Yz:=eD.size;have Uq:fp w5 w1.heap.size oB [] [] F (c.1,c.2.1,c.2.2.1,c.2.2.2.1,c.2.2.2.2.1++[(z,false)],c.2.2.2.2.2) U:=rq (c:=(c.1,c.2.1,c.2.2.1,c.2.2.2.1,c.2.2.2.2.1++[(z,false)],c.2.2.2.2.2)) (F1:=F1) (F2:=(Value.slice la ln lc).ownBlock.toList) GX BY H4 Up ⟨fo.n,fo.ak,fo.next,fo.sure⟩ (fun b hb=>.inl hb) (fun b hb=>by rw[List.mem_singleton] at hb; subst hb; exact m5) (fun b hb aU=>by
    rw[List.mem_singleton] at aU;subst aU;rcases m5 with e | e
    · exact YO b hb (List.mem_cons_of_mem _ e)
    · have:=YN b (by rw[dL]; exact List.mem_append.2 (.inl hb)); omega) (fun e=>jr (by rw[dL]; exact List.mem_append.2 (.inl e))) (fun e=>by rw[List.mem_singleton] at e; exact BV e.symm) dL
   obtain⟨oZ,mR,mS,o7,o8,mT,F',bB⟩:=gq.wrote Uq ⟨fo.n,fo.ak,fo.next,fo.sure⟩;have js:=mf bB.ins.box GX;obtain⟨rfl,rfl,rfl,rfl,rfl,rfl⟩:=js;refine last.aC (o:={dst:=none,op:=Op.store 26 (Operand.tmp 49) (Operand.tmp 48),type:=0,pos:= "l11_coord.go:257",after:=#[{on:=8,ground:=Ground.data},{on:=7,ground:=Ground.data},{on:=7,ground:=Ground.chain},{on:=0,ground:=Ground.phase},{on:=1,ground:=Ground.phase},{on:=2,ground:=Ground.phase},{on:=3,ground:=Ground.phase},{on:=4,ground:=Ground.phase},{on:=5,ground:=Ground.phase},{on:=6,ground:=Ground.phase},{on:=7,ground:=Ground.phase}],guard:=none}) (by kernel_rfl) rfl (by kernel_rfl) (fun K hK=>?_)
   go_simp;refine hK.out _ _ ?_;clear hK K;rw[HU.out];clear HU t4 t5 dh zu GX H4 wJ vT BY Up Uq gq fF Gr cT af Hx mj mY je g_ dL lu m5 YO;obtain⟨q0,q1,q2,q3,q4,q5⟩:=cells6 bB.ins.box;obtain⟨z0,z1,z2,z3,z4,z5⟩:=cells6 bB.rb;have f0:=bB.rb.fz 0;have f1:=bB.rb.fz 1;have f2:=bB.rb.fz 2;have f3:=bB.rb.fz 3;have f4:=bB.rb.fz 4;have f5:=bB.rb.fz 5;have hS:=bB.rb.whole [.int .i64 c.1,.int .i64 c.2.1,.int .i64 c.2.2.1,.slice oZ mR mS,.slice (some ⟨gl,0,none⟩) (ln+1) mT,.int .i64 c.2.2.2.2.2] rfl;obtain⟨y0,y1,y2,y3,y4,y5⟩:=cells6 hS.1;obtain⟨g1,g2,g3⟩:=bB.gX;have jv:=a7.br bB.ins.own hS.2 (fun j hj e=>bB.rF (by rw[←Option.some.inj e]; exact hj))
   have lr:=bB.cur.grown hS.2 (fun e=>g3 (Option.some.inj e)) (fun k e=>by cases e; exact ry)
   have qb:w.grownBy (bh (U) w.heap.size 0 [.int .i64 c.1,.int .i64 c.2.1,.int .i64 c.2.2.1,.slice oZ mR mS,.slice (some ⟨gl,0,none⟩) (ln+1) mT,.int .i64 c.2.2.2.2.2]) (some gc):=⟨hS.2.os.trans bB.fr.os,hS.2.tape.trans bB.fr.tape,hS.2.output.trans bB.fr.output,Nat.le_trans bB.fr.size hS.2.size,fun k hk aW=>(hS.2.block k (Nat.lt_of_lt_of_le hk bB.fr.size) (fun e=>by have:=Option.some.inj e; omega)).trans (bB.fr.block k hk aW)⟩
   have HP:Hid (jL w0 w gc a len cap code (.returned (.agg #[.int .i64 c.1,.int .i64 c.2.1,.int .i64 c.2.2.1,.slice oZ mR mS,.slice (some ⟨gl,0,none⟩) (ln+1) mT,.int .i64 c.2.2.2.2.2])) (bh (U) w.heap.size 0 [.int .i64 c.1,.int .i64 c.2.1,.int .i64 c.2.2.1,.slice oZ mR mS,.slice (some ⟨gl,0,none⟩) (ln+1) mT,.int .i64 c.2.2.2.2.2])):=⟨_,_,_,_,_,_,(c.1,c.2.1,c.2.2.1,c.2.2.2.1,c.2.2.2.2.1++[(z,false)],c.2.2.2.2.2),_,by have:=GZ; unfold EW at *; simp only[List.length_append,List.length_cons,List.length_nil] at *; omega,rfl,jv,fun k hk=>bB.new k (List.mem_cons_of_mem _ hk),lr,qb⟩
   simp only[bh,Nat.zero_add,Nat.reduceAdd] at HP y0 y1 y2 y3 y4 y5;have HY:=Hid.mk' (And.intro y0 (And.intro y1 (And.intro y2 (And.intro y3 (And.intro y4 y5)))));have r7:w.heap.size≠w1.heap.size:=bB.rX;have tD:w1.heap.size≠w.heap.size:=fun e=>r7 e.symm
   clear jv lr qb hS y0 y1 y2 y3 y4 y5 ;go_wp2_with fail;obtain⟨y0,y1,y2,y3,y4,y5⟩:=HY.out;refine bodyPost_ret (v:=.agg #[.int .i64 c.1,.int .i64 c.2.1,.int .i64 c.2.2.1,.slice oZ mR mS,.slice (some ⟨gl,0,none⟩) (ln+1) mT,.int .i64 c.2.2.2.2.2]) ?_ rfl HP.out;simp[results,Tryz.results53,go_sem,y0,y1,y2,y3,y4,y5]
 by_cases x5:x=5
 · subst x5;have k3:=cT.ins.box.cell 3 _ rfl;simp only[List.length_nil,Nat.zero_add] at k3;by_cases IC:0<jn
   rotate_left
   · have vd:¬(0:Int)<(jn:Int):=by omega
     obtain⟨q0,q1,q2,q3,q4,q5⟩:=cells6 cT.ins.box;obtain⟨z0,z1,z2,z3,z4,z5⟩:=cells6 cT.rb;have f0:=cT.rb.fz 0;have f1:=cT.rb.fz 1;have f2:=cT.rb.fz 2;have f3:=cT.rb.fz 3;have f4:=cT.rb.fz 4;have f5:=cT.rb.fz 5;have hS:=cT.rb.whole [.int .i64 c.1,.int .i64 c.2.1,.int .i64 c.2.2.1,.slice ja jn jc,.slice la ln lc,.int .i64 c.2.2.2.2.2] rfl;obtain⟨y0,y1,y2,y3,y4,y5⟩:=cells6 hS.1;obtain⟨g1,g2,g3⟩:=cT.gX;have jv:=a7.br cT.ins.own hS.2 (fun j hj e=>cT.rF (by rw[←Option.some.inj e]; exact hj))
     have lr:=cT.cur.grown hS.2 (fun e=>g3 (Option.some.inj e)) (fun k e=>by cases e; exact ry)
     have qb:w.grownBy (bh (w2) w.heap.size 0 [.int .i64 c.1,.int .i64 c.2.1,.int .i64 c.2.2.1,.slice ja jn jc,.slice la ln lc,.int .i64 c.2.2.2.2.2]) (some gc):=⟨hS.2.os.trans cT.fr.os,hS.2.tape.trans cT.fr.tape,hS.2.output.trans cT.fr.output,Nat.le_trans cT.fr.size hS.2.size,fun k hk aW=>(hS.2.block k (Nat.lt_of_lt_of_le hk cT.fr.size) (fun e=>by have:=Option.some.inj e; omega)).trans (cT.fr.block k hk aW)⟩
     have HP:Hid (jL w0 w gc a len cap code (.returned (.agg #[.int .i64 c.1,.int .i64 c.2.1,.int .i64 c.2.2.1,.slice ja jn jc,.slice la ln lc,.int .i64 c.2.2.2.2.2])) (bh (w2) w.heap.size 0 [.int .i64 c.1,.int .i64 c.2.1,.int .i64 c.2.2.1,.slice ja jn jc,.slice la ln lc,.int .i64 c.2.2.2.2.2])):=⟨_,_,_,_,_,_,c,_,by omega,rfl,jv,fun k hk=>cT.new k (List.mem_cons_of_mem _ hk),lr,qb⟩
     simp only[bh,Nat.zero_add,Nat.reduceAdd] at HP y0 y1 y2 y3 y4 y5;have HY:=Hid.mk' (And.intro y0 (And.intro y1 (And.intro y2 (And.intro y3 (And.intro y4 y5)))));have r7:w.heap.size≠w1.heap.size:=cT.rX;have tD:w1.heap.size≠w.heap.size:=fun e=>r7 e.symm
     clear jv lr qb hS y0 y1 y2 y3 y4 y5 cT;go_wp2_with fail;obtain⟨y0,y1,y2,y3,y4,y5⟩:=HY.out;refine bodyPost_ret (v:=.agg #[.int .i64 c.1,.int .i64 c.2.1,.int .i64 c.2.2.1,.slice ja jn jc,.slice la ln lc,.int .i64 c.2.2.2.2.2]) ?_ rfl HP.out;simp[results,Tryz.results53,go_sem,y0,y1,y2,y3,y4,y5]
   have vd:(0:Int)<(jn:Int):=by omega
   obtain⟨vx,vy,F1,F2,e,_,hj,hl,dL,dW⟩:=bn.1 cT.ins.own;simp only[List.cons.injEq,and_true,true_and] at e;obtain⟨rfl,rfl⟩:=e;obtain⟨vj,qj,e,sW,hJ⟩:=hj;simp only[List.cons.injEq,and_true] at e;subst e;obtain⟨gj,rfl⟩:∃gj,ja=some ⟨gj,0,none⟩:=by
    rcases hJ.shape with⟨e,_⟩ | ⟨g,cp,e,_⟩
    · cases e; omega
    · cases e; exact⟨g,rfl⟩
   have x7:∀b∈(Value.slice (some ⟨gj,0,none⟩) jn jc).ownBlock.toList++al qj,b∈F1:=fun b hb=>by rw[sW]; exact hb
   have Cq:0<c.2.2.2.1.length:=by have:=hJ.nf; omega
   obtain⟨g1,g2,g3⟩:=cT.gX;have lU:Below w2.heap.size w2 w2.drew:=(Below.refl _ _).drew;have Gr:=cT.more lU;have se:=hJ.below lU;have R0:=qd.gB hl lU;have jr:=cT.ins.out;clear hJ hl;go_wp2_with fail;refine last.aq (S:=fun w'=>au w1.heap.size oB [] [.int .i64 c.1,.int .i64 c.2.1,.int .i64 c.2.2.1,.slice (some ⟨gj,0,none⟩) jn jc,.slice la ln lc,.int .i64 c.2.2.2.2.2] [] w') 6 (by kernel_rfl) Gr.ins.box (fun af=>?_)
   generalize Eg:w2.drew=D at *;clear Eg;refine last.wpTk 0 (.pointer (some ⟨w1.heap.size,3,none⟩)) rfl rfl ?_ ?_
   · intro wq ar; go_simp
   try simp only[Act.put,zP,zQ,zR]
   refine last.wpTk 1 (.slice (some ⟨gj,0,none⟩) jn jc) rfl rfl ?_ ?_
   · intro wq ar; have q:=ar.cell 3 _ rfl; simp only[List.length_nil,Nat.zero_add] at q; go_simp
   try simp only[Act.put,zP,zQ,zR]
   refine last.wpTk 2 (.pointer (some ⟨gc,0,none⟩)) rfl rfl ?_ ?_
   · intro wq ar; go_simp
   try simp only[Act.put,zP,zQ,zR]
   refine last.an (i:=3) (o:={dst:=some 59,op:=Op.call {callee:=Callee.value (Operand.func 68),args:=#[Operand.tmp 58,Operand.const (Value.int IntKind.i64 5)],argTypes:=#[51,3]},type:=3,pos:= "l11_coord.go:260",after:=#[{on:=2,ground:=Ground.data}],guard:=none}) (by kernel_rfl) rfl (fun K hK=>?_)
   refine fV.call2 rfl 68 (.tmp 58) (.const (.int .i64 5)) _ rfl (fun _ _=>rfl) (.pointer (some ⟨gc,0,none⟩)) (.int .i64 5) (by kernel_rfl) rfl _ (cf w0 _ gc a len cap code 5 Gr.cur (by omega) (by omega)) ?_
   rintro e w5 ⟨z,hz,rfl,je,g_⟩;refine⟨_,rfl,?_⟩;have gq:=Gr.step je g_;have vT:=se.keep fun b hb=>g_.block b (se.at_ b hb) (fun e=>g2 (by rw[←Option.some.inj e,dL]; exact List.mem_append.2 (.inl (x7 b hb))))
   have hl5:=qd.br R0 g_ (fun b hb e=>g2 (by rw[←Option.some.inj e,dL]; exact List.mem_append.2 (.inr hb)))
   have ze:(Lit.int .i64 (z:Int)).wf=true:=WalkArith.wf_i64 (by omega)
   refine hK.out _ _ ?_ (fun ag=>?_)
   · exact gq.ins.box
   clear hK K af;have af:=ag;clear ag;try simp only[Act.put,zP,zQ,zR]
   refine last.an (i:=4) (o:={dst:=some 60,op:=Op.indexAddr 25 (Operand.tmp 57) (Operand.const (Value.int IntKind.i64 0)),type:=0,pos:= "l11_coord.go:260",after:=#[{on:=1,ground:=Ground.data},{on:=0,ground:=Ground.phase},{on:=1,ground:=Ground.phase},{on:=2,ground:=Ground.phase},{on:=3,ground:=Ground.phase}],guard:=none}) (by kernel_rfl) rfl (fun K hK=>?_)
   go_simp;refine hK.out _ _ ?_ (fun ag=>?_)
   · exact gq.ins.box
   clear hK K af;have af:=ag;clear ag;try simp only[Act.put,zP,zQ,zR]
   refine last.wpTk 5 (.pointer (some ⟨gj,2,none⟩)) rfl rfl ?_ ?_
   · intro wq ar; go_simp
   try simp only[Act.put,zP,zQ,zR]
   obtain⟨us,FK,hu,cK,BW,M7⟩:=vT.x6 0 Cq;obtain⟨oa,ol,oc,ya,yl,yc,rfl⟩:=eS hu;have t2:=cK 2 _ rfl;have t3:=vT.frozen 2;obtain⟨q6,tW,Jm,du, -⟩:=M7 2 (.int .i64 (z:Int)) (c.2.2.2.1[0].1,c.2.2.2.1[0].2.1,(z:Int),c.2.2.2.1[0].2.2.2) FK (by decide) (by
    obtain⟨v1,v2,e,k1,k3,h1,h2,h3,h4⟩:=dI.1 hu;exact dI.2 ⟨_,_,by rw[e]; rfl,k1,ze,h1,h2,h3,h4⟩) (fun b hb=>.inl hb)
   rw[show 0 * dU.size+2=2 from rfl] at tW du t2
   obtain⟨U,hU⟩:∃U,w5.setCell ⟨gj,2,none⟩ (.int .i64 (z:Int))=U:=⟨_,rfl⟩;rw[hU] at tW du;have HU:=Hid.mk' hU;clear hU;have w_:gj∈F1:=x7 gj (by simp[Value.ownBlock])
   have T4:gj≠w1.heap.size:=fun e=>jr (by rw[dL,←e]; exact List.mem_append.2 (.inl w_))
   have zu:=gq.ins.box.grown du (fun e=>T4 (Option.some.inj e).symm)
   have Q9:=qd.br hl5 du (fun b hb e=>by
    rw[dL] at dW;exact(aR dW).2.2 gj w_ (Option.some.inj e ▸ hb))
   have Up:lay.Frame (w1.heap.size::F) w5 U:=(lay.Frame.refl _ _).grown du (fun k e=>by cases e; exact .inl (List.mem_cons_of_mem _ (by rw[dL]; exact List.mem_append.2 (.inl w_))))
   have oT:∀b∈(Value.slice (some ⟨gj,0,none⟩) jn jc).ownBlock.toList++al q6,b∈F1:=fun b hb=>by
    rcases List.mem_append.1 hb with e | e
    · exact x7 b (List.mem_append.2 (.inl e))
    · rcases Jm b e with e2 | e2
      · exact x7 b (List.mem_append.2 (.inr e2))
      · exact x7 b (List.mem_append.2 (.inr (BW b e2)))
   have Uq:fp w5 w1.heap.size oB [] [] F (c.1,c.2.1,c.2.2.1,c.2.2.2.1.set 0 (c.2.2.2.1[0].1,c.2.2.2.1[0].2.1,(z:Int),c.2.2.2.1[0].2.2.2),c.2.2.2.2.1,c.2.2.2.2.2) U:=rq (c:=(c.1,c.2.1,c.2.2.1,c.2.2.2.1.set 0 (c.2.2.2.1[0].1,c.2.2.2.1[0].2.1,(z:Int),c.2.2.2.1[0].2.2.2),c.2.2.2.2.1,c.2.2.2.2.2)) (F1:=F1) (F2:=F2) zu ⟨_,_,rfl,rfl,tW⟩ Q9 Up ⟨fo.n,fo.ak,fo.next,fo.sure⟩ (fun b hb=>.inl (oT b hb)) (fun b hb=>.inl hb) (fun b hb aU=>by
    rw[dL] at dW;exact(aR dW).2.2 b (oT b hb) aU) (fun e=>jr (by rw[dL]; exact List.mem_append.2 (.inl (oT _ e)))) (fun e=>jr (by rw[dL]; exact List.mem_append.2 (.inr e))) dL
   obtain⟨oZ,mR,mS,o7,o8,mT,F',bB⟩:=gq.wrote Uq ⟨fo.n,fo.ak,fo.next,fo.sure⟩;have js:=mf bB.ins.box zu;obtain⟨rfl,rfl,rfl,rfl,rfl,rfl⟩:=js;have Ur:pq (c.2.2.2.1.set 0 (c.2.2.2.1[0].1,c.2.2.2.1[0].2.1,(z:Int),c.2.2.2.1[0].2.2.2))=pq c.2.2.2.1:=by
    unfold pq
    congr 1
    rw[List.map_set];refine List.ext_getElem (by simp) fun i h1 h2=>?_
    rw[List.getElem_set]
    split
    · rename_i e; subst e; simp[Kh]
    · rfl
   have YP:EW (c.1,c.2.1,c.2.2.1,c.2.2.2.1.set 0 (c.2.2.2.1[0].1,c.2.2.2.1[0].2.1,(z:Int),c.2.2.2.1[0].2.2.2),c.2.2.2.2.1,c.2.2.2.2.2)≤400000:=by
    have:=GZ;unfold EW at *;simp only[List.length_set] at *;rw[Ur];omega
   refine last.aC (o:={dst:=none,op:=Op.store 3 (Operand.tmp 61) (Operand.tmp 59),type:=0,pos:= "l11_coord.go:260",after:=#[{on:=5,ground:=Ground.data},{on:=3,ground:=Ground.data},{on:=3,ground:=Ground.chain},{on:=0,ground:=Ground.phase},{on:=1,ground:=Ground.phase},{on:=2,ground:=Ground.phase},{on:=3,ground:=Ground.phase}],guard:=none}) (by kernel_rfl) rfl (by kernel_rfl) (fun K hK=>?_)
   go_simp;refine hK.out _ _ ?_;clear hK K;rw[HU.out];clear HU t2 t3 hu cK BW M7 tW du zu Q9 Up Uq gq Gr cT af vT hl5 se R0 je g_ Ur oT Jm;obtain⟨q0,q1,q2,q3,q4,q5⟩:=cells6 bB.ins.box;obtain⟨z0,z1,z2,z3,z4,z5⟩:=cells6 bB.rb;have f0:=bB.rb.fz 0;have f1:=bB.rb.fz 1;have f2:=bB.rb.fz 2;have f3:=bB.rb.fz 3;have f4:=bB.rb.fz 4;have f5:=bB.rb.fz 5;have hS:=bB.rb.whole [.int .i64 c.1,.int .i64 c.2.1,.int .i64 c.2.2.1,.slice (some ⟨gj,0,none⟩) mR mS,.slice o7 o8 mT,.int .i64 c.2.2.2.2.2] rfl;obtain⟨y0,y1,y2,y3,y4,y5⟩:=cells6 hS.1;obtain⟨g1,g2,g3⟩:=bB.gX;have jv:=a7.br bB.ins.own hS.2 (fun j hj e=>bB.rF (by rw[←Option.some.inj e]; exact hj))
   have lr:=bB.cur.grown hS.2 (fun e=>g3 (Option.some.inj e)) (fun k e=>by cases e; exact ry)
   have qb:w.grownBy (bh (U) w.heap.size 0 [.int .i64 c.1,.int .i64 c.2.1,.int .i64 c.2.2.1,.slice (some ⟨gj,0,none⟩) mR mS,.slice o7 o8 mT,.int .i64 c.2.2.2.2.2]) (some gc):=⟨hS.2.os.trans bB.fr.os,hS.2.tape.trans bB.fr.tape,hS.2.output.trans bB.fr.output,Nat.le_trans bB.fr.size hS.2.size,fun k hk aW=>(hS.2.block k (Nat.lt_of_lt_of_le hk bB.fr.size) (fun e=>by have:=Option.some.inj e; omega)).trans (bB.fr.block k hk aW)⟩
   have HP:Hid (jL w0 w gc a len cap code (.returned (.agg #[.int .i64 c.1,.int .i64 c.2.1,.int .i64 c.2.2.1,.slice (some ⟨gj,0,none⟩) mR mS,.slice o7 o8 mT,.int .i64 c.2.2.2.2.2])) (bh (U) w.heap.size 0 [.int .i64 c.1,.int .i64 c.2.1,.int .i64 c.2.2.1,.slice (some ⟨gj,0,none⟩) mR mS,.slice o7 o8 mT,.int .i64 c.2.2.2.2.2])):=⟨_,_,_,_,_,_,(c.1,c.2.1,c.2.2.1,c.2.2.2.1.set 0 (c.2.2.2.1[0].1,c.2.2.2.1[0].2.1,(z:Int),c.2.2.2.1[0].2.2.2),c.2.2.2.2.1,c.2.2.2.2.2),_,YP,rfl,jv,fun k hk=>bB.new k (List.mem_cons_of_mem _ hk),lr,qb⟩
   simp only[bh,Nat.zero_add,Nat.reduceAdd] at HP y0 y1 y2 y3 y4 y5;have HY:=Hid.mk' (And.intro y0 (And.intro y1 (And.intro y2 (And.intro y3 (And.intro y4 y5)))));have r7:w.heap.size≠w1.heap.size:=bB.rX;have tD:w1.heap.size≠w.heap.size:=fun e=>r7 e.symm
   clear jv lr qb hS y0 y1 y2 y3 y4 y5 ;go_wp2_with fail;obtain⟨y0,y1,y2,y3,y4,y5⟩:=HY.out;refine bodyPost_ret (v:=.agg #[.int .i64 c.1,.int .i64 c.2.1,.int .i64 c.2.2.1,.slice (some ⟨gj,0,none⟩) mR mS,.slice o7 o8 mT,.int .i64 c.2.2.2.2.2]) ?_ rfl HP.out;simp[results,Tryz.results53,go_sem,y0,y1,y2,y3,y4,y5]
 have e0:((x:Int)==0)=false:=beq_eq_false_iff_ne.2 (by omega)
 have e1:((x:Int)==1)=false:=beq_eq_false_iff_ne.2 (by omega)
 have e2:((x:Int)==2)=false:=beq_eq_false_iff_ne.2 (by omega)
 have e3:((x:Int)==3)=false:=beq_eq_false_iff_ne.2 (by omega)
 have e4:((x:Int)==4)=false:=beq_eq_false_iff_ne.2 (by omega)
 have e5:((x:Int)==5)=false:=beq_eq_false_iff_ne.2 (by omega)
 generalize(x:Int)=xi at *;obtain⟨q0,q1,q2,q3,q4,q5⟩:=cells6 cT.ins.box;obtain⟨z0,z1,z2,z3,z4,z5⟩:=cells6 cT.rb;have f0:=cT.rb.fz 0;have f1:=cT.rb.fz 1;have f2:=cT.rb.fz 2;have f3:=cT.rb.fz 3;have f4:=cT.rb.fz 4;have f5:=cT.rb.fz 5;have hS:=cT.rb.whole [.int .i64 c.1,.int .i64 c.2.1,.int .i64 c.2.2.1,.slice ja jn jc,.slice la ln lc,.int .i64 c.2.2.2.2.2] rfl;obtain⟨y0,y1,y2,y3,y4,y5⟩:=cells6 hS.1;obtain⟨g1,g2,g3⟩:=cT.gX;have jv:=a7.br cT.ins.own hS.2 (fun j hj e=>cT.rF (by rw[←Option.some.inj e]; exact hj))
 have lr:=cT.cur.grown hS.2 (fun e=>g3 (Option.some.inj e)) (fun k e=>by cases e; exact ry)
 have qb:w.grownBy (bh (w2) w.heap.size 0 [.int .i64 c.1,.int .i64 c.2.1,.int .i64 c.2.2.1,.slice ja jn jc,.slice la ln lc,.int .i64 c.2.2.2.2.2]) (some gc):=⟨hS.2.os.trans cT.fr.os,hS.2.tape.trans cT.fr.tape,hS.2.output.trans cT.fr.output,Nat.le_trans cT.fr.size hS.2.size,fun k hk aW=>(hS.2.block k (Nat.lt_of_lt_of_le hk cT.fr.size) (fun e=>by have:=Option.some.inj e; omega)).trans (cT.fr.block k hk aW)⟩
 have HP:Hid (jL w0 w gc a len cap code (.returned (.agg #[.int .i64 c.1,.int .i64 c.2.1,.int .i64 c.2.2.1,.slice ja jn jc,.slice la ln lc,.int .i64 c.2.2.2.2.2])) (bh (w2) w.heap.size 0 [.int .i64 c.1,.int .i64 c.2.1,.int .i64 c.2.2.1,.slice ja jn jc,.slice la ln lc,.int .i64 c.2.2.2.2.2])):=⟨_,_,_,_,_,_,c,_,by omega,rfl,jv,fun k hk=>cT.new k (List.mem_cons_of_mem _ hk),lr,qb⟩
 simp only[bh,Nat.zero_add,Nat.reduceAdd] at HP y0 y1 y2 y3 y4 y5;have HY:=Hid.mk' (And.intro y0 (And.intro y1 (And.intro y2 (And.intro y3 (And.intro y4 y5)))));have r7:w.heap.size≠w1.heap.size:=cT.rX;have tD:w1.heap.size≠w.heap.size:=fun e=>r7 e.symm
 clear jv lr qb hS y0 y1 y2 y3 y4 y5 cT;go_wp2_with fail;obtain⟨y0,y1,y2,y3,y4,y5⟩:=HY.out;refine bodyPost_ret (v:=.agg #[.int .i64 c.1,.int .i64 c.2.1,.int .i64 c.2.2.1,.slice ja jn jc,.slice la ln lc,.int .i64 c.2.2.2.2.2]) ?_ rfl HP.out;simp[results,Tryz.results53,go_sem,y0,y1,y2,y3,y4,y5]
end cos
end Go.Proofs.YtmibabclefgljaaGreat
