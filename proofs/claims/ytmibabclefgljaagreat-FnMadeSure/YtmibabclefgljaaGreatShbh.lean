/- CoDr -/
import Derived.Test.YtmibabclefgljaaGreatShbg
import Derived.Test.YtmibabclefgljaaGreatShaq
import Derived.Test.YtmibabclefgljaaGreatShar
set_option linter.unusedVariables false
set_option linter.unusedSimpArgs false
namespace Go.Proofs.YtmibabclefgljaaGreat
open Go in
abbrev qO32:Oper:={dst:=some 48,op:=Op.call {callee:=Callee.value (Operand.func 68),args:=#[Operand.tmp 44,Operand.tmp 47],argTypes:=#[51,3]},type:=3,pos:= "l11_coord.go:230",after:=#[{on:=2,ground:=Ground.data},{on:=5,ground:=Ground.data}],guard:=none}
open Go in
abbrev qO33:Oper:={dst:=some 7,op:=Op.alloc 75,type:=0,pos:= "l11_coord.go:230",after:=#[],guard:=none}
open Go in
abbrev qO34:Oper:={dst:=none,op:=Op.store 75 (Operand.tmp 7) (Operand.tmp 50),type:=0,pos:= "l11_coord.go:230",after:=#[{on:=9,ground:=Ground.data},{on:=8,ground:=Ground.data},{on:=6,ground:=Ground.chain},{on:=0,ground:=Ground.phase},{on:=1,ground:=Ground.phase},{on:=2,ground:=Ground.phase},{on:=3,ground:=Ground.phase},{on:=4,ground:=Ground.phase},{on:=5,ground:=Ground.phase},{on:=6,ground:=Ground.phase},{on:=7,ground:=Ground.phase},{on:=8,ground:=Ground.phase},{on:=9,ground:=Ground.phase}],guard:=none}
open Go in
abbrev qO35:Oper:={dst:=some 60,op:=Op.call {callee:=Callee.value (Operand.func 68),args:=#[Operand.tmp 57,Operand.tmp 59],argTypes:=#[51,3]},type:=3,pos:= "l11_coord.go:232",after:=#[{on:=1,ground:=Ground.data},{on:=3,ground:=Ground.data}],guard:=none}
open Go in
abbrev qO36:Oper:={dst:=some 66,op:=Op.call {callee:=Callee.value (Operand.func 125),args:=#[Operand.tmp 65,Operand.const (Value.int IntKind.i64 5)],argTypes:=#[51,3]},type:=4,pos:= "l11_coord.go:232",after:=#[{on:=9,ground:=Ground.data},{on:=4,ground:=Ground.chain}],guard:=none}
open Go in
abbrev qO37:Oper:={dst:=some 68,op:=Op.call {callee:=Callee.value (Operand.func 131),args:=#[Operand.tmp 5,Operand.tmp 62,Operand.tmp 64,Operand.tmp 67],argTypes:=#[66,3,3,4]},type:=0,pos:= "l11_coord.go:232",after:=#[{on:=6,ground:=Ground.data},{on:=8,ground:=Ground.data},{on:=11,ground:=Ground.data},{on:=10,ground:=Ground.chain}],guard:=none}
namespace cos
open Go Go.RowKit base av aN lay kN draw
theorem Uc(a:Option Addr)(len cap:Nat)(eR:Nat)(w:World)(hm:3≤eR)(jD:eR≤1000000)(hl:len≤1099511627776):
 Calls Tryz.prog 51 #[.slice a len cap,.int .i64 (eR:Int)] w fun e w'=>∃n:Nat,3≤n∧n≤eR∧e=.returned (.int .i64 (n:Int))∧w'=w:=by
 by_cases h:(eR:Int)<3+(len:Int) / 12
 · go_enter Tryz.func51,Tryz.ntmps51;go_wp2;go_ret;exact⟨eR,hm,Nat.le_refl _,rfl,rfl⟩
 · go_enter Tryz.func51,Tryz.ntmps51;go_wp2;go_ret;exact⟨3+len / 12,by omega,by omega,gJ (by omega),rfl⟩
abbrev oB:TypeId:=28
theorem vF{w0 w w':World}{gc:Nat}{a:Option Addr}{len cap:Nat}{code:List UInt8}{G:List Nat}(h:gI w0 w gc a len cap code)(hf:lay.Frame G w w')(hn:gc∉G)(hG:∀k∈G,w0.heap.size≤k):gI w0 w' gc a len cap code:=by
 have a6:=h.lt;obtain⟨hS,hB,xn,rU,i,hh,Ci,Cc,pj⟩:=h;exact⟨hS,hB.trans (hf.e7 hB.size hG),xn,rU,i,hh,Ci,Cc,(hf.block gc a6 hn).trans pj⟩
structure xb (w0 w wr:World) (gc:Nat) (a:Option Addr) (len cap:Nat) (code:List UInt8) (RB X:Nat) (ja:Option Addr) (jn jc:Nat) (la:Option Addr) (ln lc:Nat) (c:Co) (F:List Nat):Prop where
 cur:gI w0 wr gc a len cap code
 ins:iY wr X oB [] [] ja jn jc la ln lc c F
 dr:cS c
 new:∀k∈X::F,w.heap.size≤k
 old:gc<w.heap.size
 base:w0.heap.size≤w.heap.size
 fr:w.grownBy wr (some gc)
 rb:au RB oB [] [.int .i64 0,.int .i64 0,.int .i64 0,.slice none 0 0,.slice none 0 0,.int .i64 0] [] wr
 rX:RB≠X
 rF:RB∉F
 rn:w.heap.size≤RB
section
variable{w0 w wr w':World}{gc:Nat}{a:Option Addr}{len cap:Nat}{code:List UInt8}{RB X:Nat}{ja la:Option Addr}{jn jc ln lc:Nat}{c c':Co}{F:List Nat}
theorem xb.gX(h:xb w0 w wr gc a len cap code RB X ja jn jc la ln lc c F):gc≠X∧gc∉F∧gc≠RB:=by
 have h1:=h.old;have h2:=h.new;have h3:=h.rn;refine⟨fun e=>?_,fun e=>?_,fun e=>?_⟩
 · have:=h2 X List.mem_cons_self; omega
 · have:=h2 gc (List.mem_cons_of_mem _ e); omega
 · omega
theorem iY.vb{k:Nat}{w w':World}(h:iY w X oB [] [] ja jn jc la ln lc c F)(hg:w.grownBy w' (some k))(h1:k≠X)(h2:k∉F):iY w' X oB [] [] ja jn jc la ln lc c F:=
 ⟨h.box.grown hg (fun e=>h1 (Option.some.inj e).symm),a7.br h.own hg (fun j hj e=>h2 (by rw[←Option.some.inj e]; exact hj)),h.out⟩
theorem xb.step(h:xb w0 w wr gc a len cap code RB X ja jn jc la ln lc c F)(Ce:gI w0 w' gc a len cap code)(hg:wr.grownBy w' (some gc)):xb w0 w w' gc a len cap code RB X ja jn jc la ln lc c F:=by
 obtain⟨g1,g2,g3⟩:=h.gX;exact⟨Ce,h.ins.vb hg g1 g2,h.dr,h.new,h.old,h.base,ao h.fr hg,h.rb.grown hg (fun e=>g3 (Option.some.inj e).symm),h.rX,h.rF,h.rn⟩
theorem xb.more(h:xb w0 w wr gc a len cap code RB X ja jn jc la ln lc c F)(hb:Below wr.heap.size wr w'):xb w0 w w' gc a len cap code RB X ja jn jc la ln lc c F:=
 ⟨h.cur.below hb,h.ins.below hb,h.dr,h.new,h.old,h.base,aP h.fr hb,h.rb.below hb,h.rX,h.rF,h.rn⟩
theorem xb.outside{J:Nat}(h:xb w0 w wr gc a len cap code RB X ja jn jc la ln lc c F)(hg:wr.grownBy w' (some J))(hJ:w.heap.size≤J)(h1:J≠X)(h2:J∉F)(h3:J≠RB):xb w0 w w' gc a len cap code RB X ja jn jc la ln lc c F:=by
 have xn:gc≠J:=fun e=>by have:=h.old; omega
 refine⟨h.cur.grown hg (fun e=>xn (Option.some.inj e)) (fun k e=>by cases e; exact Nat.le_trans h.base hJ),h.ins.vb hg h1 h2,h.dr,h.new,h.old,h.base,?_,h.rb.grown hg (fun e=>h3 (Option.some.inj e).symm),h.rX,h.rF,h.rn⟩
 exact⟨hg.os.trans h.fr.os,hg.tape.trans h.fr.tape,hg.output.trans h.fr.output,Nat.le_trans h.fr.size hg.size,fun k hk aW=>(hg.block k (Nat.lt_of_lt_of_le hk h.fr.size) (fun e=>by have:=Option.some.inj e; omega)).trans (h.fr.block k hk aW)⟩
theorem xb.wrote(h:xb w0 w wr gc a len cap code RB X ja jn jc la ln lc c F)(hw:fp wr X oB [] [] F c' w')(hd:cS c'):∃ja jn jc la ln lc F',xb w0 w w' gc a len cap code RB X ja jn jc la ln lc c' F':=by
 obtain⟨g1,g2,g3⟩:=h.gX;obtain⟨Ht,Hu,Hv,Bl,Bm,Bn,F',h1,h2,h3⟩:=hw;have iO:=h.fr.size;have kC:∀k∈F',w.heap.size≤k:=fun k hk=>by
  rcases h3 k hk with e | e
  · exact h.new k (List.mem_cons_of_mem _ e)
  · omega
 refine⟨Ht,Hu,Hv,Bl,Bm,Bn,F',vF h.cur h2 (fun e=>?_) (fun k hk=>Nat.le_trans h.base (h.new k hk)),h1,hd,fun k hk=>?_,h.old,h.base,?_,h.rb.frame h2 (fun e=>?_),h.rX,fun e=>?_,h.rn⟩
 · rcases List.mem_cons.1 e with e | e
   · exact g1 e
   · exact g2 e
 · rcases List.mem_cons.1 hk with e | e
   · rw[e]; exact h.new X List.mem_cons_self
   · exact kC k e
 · exact⟨h2.os.trans h.fr.os,h2.tape.trans h.fr.tape,h2.output.trans h.fr.output,Nat.le_trans h.fr.size h2.size,fun k hk aW=>(h2.block k (Nat.lt_of_lt_of_le hk h.fr.size) (fun e=>by have:=h.new k e; omega)).trans (h.fr.block k hk aW)⟩
 · rcases List.mem_cons.1 e with e | e
   · exact h.rX e
   · exact h.rF e
 · rcases h3 RB e with e | e
   · exact h.rF e
   · have:=h.rb.lt; omega
theorem xb.lens(h:xb w0 w wr gc a len cap code RB X ja jn jc la ln lc c F):jn≤999∧ln≤1000∧jn=c.2.2.2.1.length∧ln=c.2.2.2.2.1.length:=by
 have hs:=tY (a7.eu h.ins.own);have h1:=hs.jobs.1;have h2:=hs.log.1;have:=h.dr.kS;have:=h.dr.jB;omega
theorem xb.sure(h:xb w0 w wr gc a len cap code RB X ja jn jc la ln lc c F):xb w0 w (wr.setCell ⟨X,5,none⟩ (.int .i64 (ln:Int))) gc a len cap code RB X ja jn jc la ln lc (c.1,c.2.1,c.2.2.1,c.2.2.2.1,c.2.2.2.2.1,(c.2.2.2.2.1.length:Int)) F:=by
 obtain⟨g1,g2,g3⟩:=h.gX;obtain⟨_,k0,_,k1⟩:=h.lens;have s:=h.ins.box.set 5 (by simp) (.int .i64 (ln:Int))
 simp only[List.length_nil,Nat.zero_add] at s;have hX:=h.new X List.mem_cons_self;have fo:(Lit.int .i64 (c.2.2.2.2.1.length:Int)).wf=true:=WalkArith.wf_i64 (by omega)
 have hO:=a7.br h.ins.own s.2 (fun j hj e=>h.ins.out (by rw[←Option.some.inj e]; exact hj))
 obtain⟨vx,vy,F1,F2,e,hw,hj,hl,dL,dW⟩:=bn.1 hO;simp only[List.cons.injEq,and_true,true_and] at e;obtain⟨rfl,rfl⟩:=e;refine⟨h.cur.grown s.2 (fun e=>g1 (Option.some.inj e)) (fun k e=>by cases e; exact Nat.le_trans h.base hX),⟨by rw[←k1]; exact s.1,bn.2 ⟨_,_,F1,F2,rfl,⟨hw.n,hw.ak,hw.next,fo⟩,hj,hl,dL,dW⟩,h.ins.out⟩,jR h.dr,h.new,h.old,h.base,?_,h.rb.grown s.2 (fun e=>h.rX (Option.some.inj e)),h.rX,h.rF,h.rn⟩
 exact⟨s.2.os.trans h.fr.os,s.2.tape.trans h.fr.tape,s.2.output.trans h.fr.output,Nat.le_trans h.fr.size s.2.size,fun k hk aW=>(s.2.block k (Nat.lt_of_lt_of_le hk h.fr.size) (fun e=>by have:=Option.some.inj e; omega)).trans (h.fr.block k hk aW)⟩
theorem jQ{w:World}{gj jn jc:Nat}{l:List Jb}{q:dJ}(h:bk 75 dU w (.slice (some ⟨gj,0,none⟩) jn jc) l q)(i:Nat)(hi:i<l.length){v0 v1 v2 v3:Value}(hv:(q[i]'(by have:=h.len; omega)).1=[v0,v1,v2,v3]):w.cell? ⟨gj,i * 4,none⟩=some v0∧w.cell? ⟨gj,i * 4+1,none⟩=some v1∧w.cell? ⟨gj,i * 4+2,none⟩=some v2∧w.cell? ⟨gj,i * 4+3,none⟩=some v3:=by
 have hc:=h.cells i hi;rw[hv] at hc;exact⟨hc 0 _ rfl,hc 1 _ rfl,hc 2 _ rfl,hc 3 _ rfl⟩
theorem sg{w w':World}{base g n c:Nat}{l:List Od}{G:List Nat}(ho:bR w base g n c l)(hf:lay.Frame G w w')(hn:g∉G):dD w' (some ⟨g,0,none⟩) n l:=by
 have h9:=ho.mono (base':=0) (Nat.zero_le _);refine bR.sl (base:=0) ⟨h9.1,h9.2.1,qA h9.2.2 (fun k e=>?_)⟩
 have e3:g=k:=by simpa[Value.ownBlock] using e
 subst e3;exact hf.block g ho.lt.2 hn
end
def N4(w0 w:World)(gc:Nat)(a:Option Addr)(len cap:Nat)(code:List UInt8)(eR:Nat)(e:Ending)(w':World):Prop:=
 ∃(ja:Option Addr) (jn jc:Nat) (la:Option Addr) (ln lc:Nat) (c:Co) (F:List Nat),cS c∧c.2.1≤1+(eR:Int)∧e=.returned (.agg #[.int .i64 c.1,.int .i64 c.2.1,.int .i64 c.2.2.1,.slice ja jn jc,.slice la ln lc,.int .i64 c.2.2.2.2.2])∧a7.own w' [.int .i64 c.1,.int .i64 c.2.1,.int .i64 c.2.2.1,.slice ja jn jc,.slice la ln lc,.int .i64 c.2.2.2.2.2] c F∧(∀k∈F,w.heap.size≤k)∧gI w0 w' gc a len cap code∧w.grownBy w' (some gc)
set_option maxRecDepth 100000 in
set_option maxHeartbeats 20000000 in
theorem M9(w0 w:World)(gc:Nat)(a:Option Addr)(len cap:Nat)(code:List UInt8)(eR:Nat)(h:gI w0 w gc a len cap code)(hm:0<eR)(jD:eR≤800):
 Calls Tryz.prog 92 #[.pointer (some ⟨gc,0,none⟩),.int .i64 (eR:Int)] w fun e w'=>N4 w0 w gc a len cap code eR e w':=by
 have cK:=h.lt;have ry:=h.e7.size;obtain⟨wa,jd⟩:∃wa,(w.alloc (.cells #[.int .i64 0,.int .i64 0,.int .i64 0,.slice none 0 0,.slice none 0 0,.int .i64 0] 28)).alloc (.cells #[.int .i64 3,.int .i64 2,.int .i64 1] 3)=wa:=⟨_,rfl⟩;have bg:Below w.heap.size w wa:=by rw[←jd]; exact((Below.refl _ _).alloc (Nat.le_refl _) _).alloc (by simp) _
 have Ho:wa.heap.size=w.heap.size+1+1:=by rw[←jd]; simp
 have xI:au w.heap.size oB [] [.int .i64 0,.int .i64 0,.int .i64 0,.slice none 0 0,.slice none 0 0,.int .i64 0] [] wa:=by rw[←jd]; exact(aE w _ _).below aJ
 have hLa:wa.heap[w.heap.size+1]? =some (.cells #[.int .i64 3,.int .i64 2,.int .i64 1] 3 (0,0)):=by
  rw[←jd];have:=heap_alloc_new (w.alloc (.cells #[.int .i64 0,.int .i64 0,.int .i64 0,.slice none 0 0,.slice none 0 0,.int .i64 0] 28)) (.cells #[.int .i64 3,.int .i64 2,.int .i64 1] 3);rwa[show(w.alloc (.cells #[.int .i64 0,.int .i64 0,.int .i64 0,.slice none 0 0,.slice none 0 0,.int .i64 0] 28)).heap.size=w.heap.size+1 by simp] at this
 have xJ:=Hid.mk' jd;have mY:=Hid.mk' (u7 w0 wa gc a len cap code (w.heap.size+1) 3 3 _ _ (h.below bg) hLa rfl (by omega) (by omega) (by omega) (fun z=>decide (1≤z∧z≤3)=true) (ir _ 3 (fun z=>decide (1≤z∧z≤3)) (by kernel_rfl)))
 clear jd;go_enter Tryz.func92,Tryz.ntmps92;go_wp2_with fail;rw[xJ.out];refine mY.out.mono ?_;rintro e w1 ⟨n,v_,rfl,gk,gR⟩;have hn:1≤n∧n≤3:=of_decide_eq_true v_;have pf:=xI.grown gR (fun e=>by have:=Option.some.inj e; omega)
 have EP:w.grownBy w1 (some gc):=ao (aP (World.grownBy.refl _ _) bg) gR;clear xJ mY v_;have vL:=Hid.mk' (wQ n w1);have Gk:DP n=(n,1,0,[],[],0):=if_pos ⟨hn.1,by omega⟩
 rw[Gk] at vL;clear Gk;simp only[] at vL;go_wp2_with fail;refine vL.out.mono ?_;rintro e w2 ⟨rfl,aU⟩;clear vL;obtain⟨wb,nt⟩:∃wb,w2.alloc (.cells #[.int .i64 n,.int .i64 1,.int .i64 0,.slice none 0 0,.slice none 0 0,.int .i64 0] 28)=wb:=⟨_,rfl⟩;have pF:Below w2.heap.size w2 wb:=by rw[←nt]; exact aJ
 have SP:au w2.heap.size oB [] [.int .i64 n,.int .i64 1,.int .i64 0,.slice none 0 0,.slice none 0 0,.int .i64 0] [] wb:=by rw[←nt]; exact aE w2 _ _
 have dn:=(pf.below aU).below pF;have dS:=(gk.below aU).below pF;have n9:=aP (aP EP aU) pF;have px:=n9.size;have lS:=pf.lt;have Pu:=aU.size;have YH:=gR.size;have Qk:(Lit.int .i64 n).wf=true:=WalkArith.wf_i64 (by omega)
 have Lj:xb w0 w wb gc a len cap code w.heap.size w2.heap.size none 0 0 none 0 0 (n,1,0,[],[],0) []:=
  ⟨dS,⟨SP,bn.2 ⟨_,_,[],[],rfl,⟨Qk,(by decide:(Lit.int .i64 1).wf=true),(by decide:(Lit.int .i64 0).wf=true),(by decide:(Lit.int .i64 0).wf=true)⟩,lay.Ek _ _ _,lay.Ek _ _ _,rfl,List.nodup_nil⟩,List.not_mem_nil⟩,r6 ⟨hn.1,by omega⟩,fun k hk=>by rw[List.mem_singleton.1 hk]; omega,cK,ry,n9,dn,by omega,List.not_mem_nil,Nat.le_refl _⟩
 have NH:=Hid.mk' nt;generalize hXX:w2.heap.size=X at *;have vc:=Hid.mk' (cf w0 wb gc a len cap code (eR:Int) dS (by omega) (by omega))
 clear nt dS n9 dn SP pF aU gk gR EP pf xI bg Ho lS Pu px hLa YH;go_wp2_with fail;rw[NH.out];refine vc.out.mono ?_;rintro e w3 ⟨y,hy,rfl,fD,ky⟩;have LU:=Lj.step fD ky;clear Lj fD ky vc NH;go_wp2_with fail;go_loopw [6] (fun i wr=>∃(k:Nat) (ja:Option Addr) (jn jc:Nat) (la:Option Addr) (ln lc:Nat) (c:Co) (F:List Nat),k≤eR∧c.2.1+(k:Int)≤1+(eR:Int)∧i=.int .i64 (k:Int)∧xb w0 w wr gc a len cap code w.heap.size X ja jn jc la ln lc c F) (fun i _=>(intOf i).toNat)
 case atStart=>exact⟨y,_,_,_,_,_,_,_,_,by omega,by simp only[]; omega,rfl,LU⟩
 case round=>
  clear LU;obtain⟨k,ja,jn,jc,la,ln,lc,c,F,hk,yF,rfl,hD⟩:=hrel;by_cases a6:0<k
  · have fL:(0:Int)<(k:Int):=by omega
    go_wp2_with fail;refine(cf w0 _ gc a len cap code 8 hD.cur (by omega) (by omega)).mono ?_
    rintro e w5 ⟨z,hz,rfl,je,g_⟩;have dd:=hD.step je g_;clear hD je g_;have W9:z=0∨z=1∨z=2∨z=3∨z=4∨z=5∨z=6∨z=7:=by omega
    clear hz;obtain⟨Cf,hh3,lP,xA⟩:=dd.lens;have xC:=Hid.mk' lP;have Sj:=Hid.mk' xA;have A8:=Hid.mk' yF;clear lP xA yF;rcases W9 with rfl | rfl | rfl | rfl | rfl | rfl | rfl | rfl
    · go_wp2_with fail;refine(qZ w0 _ gc a len cap code dd.cur).mono ?_;rintro e w6 ⟨g,n',cp,l,B6,qO,rfl,dV,eG,du⟩;have fk:=dd.step eG du;have wK:g∉X::F:=fun e=>by
       have h1:=dV.lt.1;have h2:=dd.ins.box.lt;rcases List.mem_cons.1 e with e | e
       · omega
       · have:=a7.dv dd.ins.own g e; omega
      have l5:∀p∈l,p.2.1.size≤1099511627776:=fun p hp=>by
       have:=(fR (((bq _).1 qO).1.1 p hp)).2.2.1;omega
      have tw:=Hid.mk' (lp X oB [] [] ja jn jc la ln lc c F (some ⟨g,0,none⟩) n' cp l w6 fk.ins (fun w' hf=>sg dV hf wK) l5 fk.dr.ak fk.dr.next (by have:=fk.dr.kS; omega) (by have:=fk.dr.jB; omega))
      clear dd dV eG du;go_wp2_with fail;refine tw.out.mono ?_;rintro e w7 ⟨gw,mw,BT,qw,Ud,Ue,Uf,bla,Ug,Uh,F',rfl,Ui,Lu,N5,N6,B0⟩;obtain⟨Rl,Rm,Rn,DG,DH,DI,F2,lk⟩:=fk.wrote ⟨Ud,Ue,Uf,bla,Ug,Uh,F',N5,N6,B0⟩ (oA fk.dr);clear tw Ui Lu N5 N6 B0 fk;go_wp2_with fail;go_roundw
      case rel=>exact⟨k - 1,_,_,_,_,_,_,_,_,by omega,by have h1:=A8.out; have h2:=qs (c:=c) (ops:=l); omega,by go_num,lk⟩
      case measure=>simp[intOf]; omega
    · go_wp2_with fail;refine(qZ w0 _ gc a len cap code dd.cur).mono ?_;rintro e w6 ⟨g,n',cp,l,B6,qO,rfl,dV,eG,du⟩;have fk:=dd.step eG du;have wK:g∉X::F:=fun e=>by
       have h1:=dV.lt.1;have h2:=dd.ins.box.lt;rcases List.mem_cons.1 e with e | e
       · omega
       · have:=a7.dv dd.ins.own g e; omega
      have l5:∀p∈l,p.2.1.size≤1099511627776:=fun p hp=>by
       have:=(fR (((bq _).1 qO).1.1 p hp)).2.2.1;omega
      have tw:=Hid.mk' (lp X oB [] [] ja jn jc la ln lc c F (some ⟨g,0,none⟩) n' cp l w6 fk.ins (fun w' hf=>sg dV hf wK) l5 fk.dr.ak fk.dr.next (by have:=fk.dr.kS; omega) (by have:=fk.dr.jB; omega))
      clear dd dV eG du;go_wp2_with fail;refine tw.out.mono ?_;rintro e w7 ⟨gw,mw,BT,qw,Ud,Ue,Uf,bla,Ug,Uh,F',rfl,Ui,Lu,N5,N6,B0⟩;obtain⟨Rl,Rm,Rn,DG,DH,DI,F2,lk⟩:=fk.wrote ⟨Ud,Ue,Uf,bla,Ug,Uh,F',N5,N6,B0⟩ (oA fk.dr);clear tw Ui Lu N5 N6 B0 fk;go_wp2_with fail;go_roundw
      case rel=>exact⟨k - 1,_,_,_,_,_,_,_,_,by omega,by have h1:=A8.out; have h2:=qs (c:=c) (ops:=l); omega,by go_num,lk⟩
      case measure=>simp[intOf]; omega
    · go_wp2_with fail;refine(qZ w0 _ gc a len cap code dd.cur).mono ?_;rintro e w6 ⟨g,n',cp,l,B6,qO,rfl,dV,eG,du⟩;have fk:=dd.step eG du;have wK:g∉X::F:=fun e=>by
       have h1:=dV.lt.1;have h2:=dd.ins.box.lt;rcases List.mem_cons.1 e with e | e
       · omega
       · have:=a7.dv dd.ins.own g e; omega
      have l5:∀p∈l,p.2.1.size≤1099511627776:=fun p hp=>by
       have:=(fR (((bq _).1 qO).1.1 p hp)).2.2.1;omega
      have tw:=Hid.mk' (lp X oB [] [] ja jn jc la ln lc c F (some ⟨g,0,none⟩) n' cp l w6 fk.ins (fun w' hf=>sg dV hf wK) l5 fk.dr.ak fk.dr.next (by have:=fk.dr.kS; omega) (by have:=fk.dr.jB; omega))
      clear dd dV eG du;go_wp2_with fail;refine tw.out.mono ?_;rintro e w7 ⟨gw,mw,BT,qw,Ud,Ue,Uf,bla,Ug,Uh,F',rfl,Ui,Lu,N5,N6,B0⟩;obtain⟨Rl,Rm,Rn,DG,DH,DI,F2,lk⟩:=fk.wrote ⟨Ud,Ue,Uf,bla,Ug,Uh,F',N5,N6,B0⟩ (oA fk.dr);clear tw Ui Lu N5 N6 B0 fk;go_wp2_with fail;go_roundw
      case rel=>exact⟨k - 1,_,_,_,_,_,_,_,_,by omega,by have h1:=A8.out; have h2:=qs (c:=c) (ops:=l); omega,by go_num,lk⟩
      case measure=>simp[intOf]; omega
    · have k3:=dd.ins.box.cell 3 _ rfl;simp only[List.length_nil,Nat.zero_add] at k3;by_cases IC:0<jn
      rotate_left
      · have vd:¬(0:Int)<(jn:Int):=by omega
        have lk:=dd;go_wp2_with fail;go_roundw
        case rel=>exact⟨k - 1,_,_,_,_,_,_,_,_,by omega,by have h1:=A8.out; have h2:=Int.le_refl (0:Int); omega,by go_num,lk⟩
        case measure=>simp[intOf]; omega
      have vd:(0:Int)<(jn:Int):=by omega
      obtain⟨vx,vy,F1,F2,e,fo,hj,hl,dL,dW⟩:=bn.1 dd.ins.own;simp only[List.cons.injEq,and_true,true_and] at e;obtain⟨rfl,rfl⟩:=e;obtain⟨vj,qj,e,sW,hJ⟩:=hj;simp only[List.cons.injEq,and_true] at e;subst e;obtain⟨gj,rfl⟩:∃gj,ja=some ⟨gj,0,none⟩:=by
       rcases hJ.shape with⟨e,_⟩ | ⟨g,cp,e,_⟩
       · cases e; omega
       · cases e; exact⟨g,rfl⟩
      have x7:∀b∈(Value.slice (some ⟨gj,0,none⟩) jn jc).ownBlock.toList++al qj,b∈F:=fun b hb=>by rw[dL,sW]; exact List.mem_append.2 (.inl hb)
      obtain⟨g1,g2,g3⟩:=dd.gX;have jJ:Below w5.heap.size w5 w5.drew:=(Below.refl _ _).drew;have B3:=dd.more jJ;have se:=hJ.below jJ;have HJ:=Hid.mk' hJ;have hRn:=dd.rn;have hXn:=dd.new X List.mem_cons_self;have Q7:=dd.fr.size;have B4:=a7.dv dd.ins.own;have Uj:=dd.ins.box.lt;have Uk:=dd.rb.lt;clear hl sW hJ;go_wp2_with fail;refine last.aq (S:=fun w'=>au X oB [] [.int .i64 c.1,.int .i64 c.2.1,.int .i64 c.2.2.1,.slice (some ⟨gj,0,none⟩) jn jc,.slice la ln lc,.int .i64 c.2.2.2.2.2] [] w'∧bk 75 dU w' (.slice (some ⟨gj,0,none⟩) jn jc) c.2.2.2.1 qj) 10 (by kernel_rfl) ⟨B3.ins.box,se⟩ (fun af=>?_)
      generalize Eg:w5.drew=D at *;clear Eg;refine last.wpTk 0 (.pointer (some ⟨X,3,none⟩)) rfl rfl ?_ ?_
      · intro wq ar; go_simp
      try simp only[Act.put,zP,zQ,zR]
      refine last.wpTk 1 (.slice (some ⟨gj,0,none⟩) jn jc) rfl rfl ?_ ?_
      · intro wq ar; have q:=ar.1.cell 3 _ rfl; simp only[List.length_nil,Nat.zero_add] at q; go_simp
      try simp only[Act.put,zP,zQ,zR]
      refine last.wpTk 2 (.pointer (some ⟨gc,0,none⟩)) rfl rfl ?_ ?_
      · intro wq ar; go_simp
      try simp only[Act.put,zP,zQ,zR]
      refine last.wpTk 3 (.pointer (some ⟨X,3,none⟩)) rfl rfl ?_ ?_
      · intro wq ar; go_simp
      try simp only[Act.put,zP,zQ,zR]
      refine last.wpTk 4 (.slice (some ⟨gj,0,none⟩) jn jc) rfl rfl ?_ ?_
      · intro wq ar; have q:=ar.1.cell 3 _ rfl; simp only[List.length_nil,Nat.zero_add] at q; go_simp
      try simp only[Act.put,zP,zQ,zR]
      refine last.wpTk 5 (.int .i64 (jn:Int)) rfl rfl ?_ ?_
      · intro wq ar; go_simp
      try simp only[Act.put,zP,zQ,zR]
      refine last.eA (i:=6) (j:=9) (o:=qO32) (o':={dst:=some 7,op:=Op.alloc 75,type:=0,pos:= "l11_coord.go:230",after:=#[],guard:=none}) (by kernel_rfl) rfl rfl (fun K hK=> ?wayA0) (fun K hK=> ?wayB0)
      case' wayA0=>
       refine fV.call2 rfl 68 (.tmp 44) (.tmp 47) _ rfl (fun _ _=>rfl) (.pointer (some ⟨gc,0,none⟩)) (.int .i64 (jn:Int)) (by kernel_rfl) (by kernel_rfl) _ (cf w0 _ gc a len cap code (jn:Int) B3.cur (by omega) (by omega)) ?_
       rintro e wB ⟨j,Cq,rfl,eG,du⟩;refine⟨_,rfl,?_⟩;have e_:=B3.step eG du;have fa:=se.keep fun b hb=>du.block b (se.at_ b hb) (fun e=>g2 (by rw[←Option.some.inj e]; exact x7 b hb))
       have kT:=du.size;have eL:j<c.2.2.2.1.length:=by have:=xC.out; omega
       have DK:(j:Int)<(jn:Int):=Cq;refine hK.out _ _ ?_ (fun ag=>?_)
       · exact⟨e_.ins.box,fa⟩
       clear hK K af;have af:=ag;clear ag;try simp only[Act.put,zP,zQ,zR]
       obtain⟨oa,ol,oc,ya,yl,yc,jC⟩:=eS (HJ.out.each j eL);refine last.wpTk 7 (.pointer (some ⟨gj,j * 4,none⟩)) rfl rfl ?_ ?_
       · intro wq ar; go_simp
       try simp only[Act.put,zP,zQ,zR]
       refine last.wpTk 8 (.agg #[.int .i64 c.2.2.2.1[j].1,.slice oa ol oc,.int .i64 c.2.2.2.1[j].2.2.1,.slice ya yl yc]) rfl rfl ?_ ?_
       · intro wq ar; obtain⟨q0,q1,q2,q3⟩:=jQ ar.2 j eL jC; go_simp
       try simp only[Act.put,zP,zQ,zR]
       refine last.an (i:=9) (o:=qO33) (by kernel_rfl) rfl (fun K hK=>?_)
       go_simp;obtain⟨wZ,iz⟩:∃V,wB.alloc (.cells #[.int .i64 0,.slice none 0 0,.int .i64 0,.slice none 0 0] 75)=V:=⟨_,rfl⟩;have bg:Below wB.heap.size wB wZ:=by rw[←iz]; exact aJ
       have iB:au wB.heap.size 75 [] [.int .i64 0,.slice none 0 0,.int .i64 0,.slice none 0 0] [] wZ:=by rw[←iz]; exact aE _ _ _
       have ju:=e_.more bg;have gU:=fa.below bg;have oC:=bg.size;have vG:=iB.lt;rw[iz];refine hK.out _ _ ?_ (fun ag=>?_)
       · exact⟨ju.ins.box,gU⟩
       clear hK K af;have af:=ag;clear ag;try simp only[Act.put,zP,zQ,zR]
       clear iz;have N7:D.heap.size≤wB.heap.size:=kT;generalize N1:wB.heap.size=J at *;clear bg e_ fa kT oC vG eG du
      case' wayB0=>
       go_simp;obtain⟨wB,fU⟩:∃V,D.alloc (.cells #[.int .i64 0,.slice none 0 0,.int .i64 0,.slice none 0 0] 75)=V:=⟨_,rfl⟩;have bg:Below D.heap.size D wB:=by rw[←fU]; exact aJ
       have iB:au D.heap.size 75 [] [.int .i64 0,.slice none 0 0,.int .i64 0,.slice none 0 0] [] wB:=by rw[←fU]; exact aE _ _ _
       have e_:=B3.more bg;have fa:=se.below bg;have kT:=bg.size;have vG:=iB.lt;rw[fU];refine hK.out _ _ ?_ (fun ag=>?_)
       · exact⟨e_.ins.box,fa⟩
       clear hK K af;have af:=ag;clear ag;try simp only[Act.put,zP,zQ,zR]
       clear fU;refine last.an (i:=6) (o:=qO32) (by kernel_rfl) rfl (fun K hK=>?_)
       refine fV.call2 rfl 68 (.tmp 44) (.tmp 47) _ rfl (fun _ _=>rfl) (.pointer (some ⟨gc,0,none⟩)) (.int .i64 (jn:Int)) (by kernel_rfl) (by kernel_rfl) _ (cf w0 _ gc a len cap code (jn:Int) e_.cur (by omega) (by omega)) ?_
       rintro e wZ ⟨j,Cq,rfl,eG,du⟩;refine⟨_,rfl,?_⟩;have ju:=e_.step eG du;have gU:=fa.keep fun b hb=>du.block b (fa.at_ b hb) (fun e=>g2 (by rw[←Option.some.inj e]; exact x7 b hb))
       have oC:=du.size;have eL:j<c.2.2.2.1.length:=by have:=xC.out; omega
       have DK:(j:Int)<(jn:Int):=Cq;refine hK.out _ _ ?_ (fun ag=>?_)
       · exact⟨ju.ins.box,gU⟩
       clear hK K af;have af:=ag;clear ag;try simp only[Act.put,zP,zQ,zR]
       obtain⟨oa,ol,oc,ya,yl,yc,jC⟩:=eS (HJ.out.each j eL);refine last.wpTk 7 (.pointer (some ⟨gj,j * 4,none⟩)) rfl rfl ?_ ?_
       · intro wq ar; go_simp
       try simp only[Act.put,zP,zQ,zR]
       refine last.wpTk 8 (.agg #[.int .i64 c.2.2.2.1[j].1,.slice oa ol oc,.int .i64 c.2.2.2.1[j].2.2.1,.slice ya yl yc]) rfl rfl ?_ ?_
       · intro wq ar; obtain⟨q0,q1,q2,q3⟩:=jQ ar.2 j eL jC; go_simp
       try simp only[Act.put,zP,zQ,zR]
       replace iB:=iB.grown du (fun e=>by have:=Option.some.inj e; have:=dd.old; have:=jJ.size; omega)
       have N7:D.heap.size≤D.heap.size:=Nat.le_refl _;generalize N1:D.heap.size=J at iB N7;clear bg e_ fa kT oC vG eG du
      all_goals
       have K0:=jJ.size;have BN:w5.heap.size≤J:=by omega
       have Cp:J∉F:=fun e=>by have:=B4 J e; omega
       have Qp:=iB.lt;obtain⟨z0,z1,z2,z3⟩:=cells4 iB;have f0:=iB.fz 0;have f1:=iB.fz 1;have f2:=iB.fz 2;have f3:=iB.fz 3;have hS:=iB.whole [.int .i64 c.2.2.2.1[j].1,.slice oa ol oc,.int .i64 c.2.2.2.1[j].2.2.1,.slice ya yl yc] rfl;obtain⟨U,hU⟩:∃U,bh wZ J 0 [.int .i64 c.2.2.2.1[j].1,.slice oa ol oc,.int .i64 c.2.2.2.1[j].2.2.1,.slice ya yl yc]=U:=⟨_,rfl⟩;rw[hU] at hS;simp only[bh,Nat.zero_add,Nat.reduceAdd] at hU;have HU:=Hid.mk' hU;have B5:=ju.outside hS.2 (by omega) (by omega) Cp (by omega)
       have KS:=gU.keep fun b hb=>hS.2.block b (gU.at_ b hb) (fun e=>Cp (by rw[←Option.some.inj e]; exact x7 b hb))
       have Kc:=hS.1;clear hU;refine last.aC (o:=qO34) (by kernel_rfl) rfl (by kernel_rfl) (fun K hK=>?_)
       go_simp;refine hK.out _ _ ?_;clear hK K;rw[HU.out];clear z0 z1 z2 z3 f0 f1 f2 f3 hS HU iB ju gU af;have za:=B5.dr.jobs _ (List.getElem_mem eL);have aB:=KS.each j eL;rw[jC] at aB;obtain⟨vo,T2,e,k1,Ul,yX,E3, -, -⟩:=dI.1 aB;simp only[List.cons.injEq,and_true,true_and] at e;obtain⟨rfl,rfl⟩:=e;have dE:dD U oa ol c.2.2.2.1[j].2.1:=(kJ.1 (kc.eu (ik.2 ⟨yX,rfl⟩))).1;have wY:=(mb za.ops);have oL:=dE.1;have vN:=Hid.mk' (ez oa ol oc c.2.2.2.1[j].2.1 c.1 U dE (by omega) fo.n)
       have th:Hid (∀x∈aD c.1 c.2.2.2.1[j].2.1,0≤x∧x≤7):=fun x hx=>by
        obtain⟨o,_,rfl⟩:=(fc c.1 c.2.2.2.1[j].2.1 x).1 hx;have h3:=fj o.2.1 c.1;have h4:=B5.dr.n;have:=h3.2 (by omega)
        omega
       have vL:Hid (0<(aD c.1 c.2.2.2.1[j].2.1).length):=by
        obtain⟨o,ho⟩:∃o,o∈c.2.2.2.1[j].2.1:=⟨(c.2.2.2.1[j].2.1)[0]'(by omega),List.getElem_mem _⟩
        exact List.length_pos_of_mem ((fc c.1 c.2.2.2.1[j].2.1 (bl o.2.1 c.1)).2 ⟨o,ho,rfl⟩)
       have Um:Hid ((aD c.1 c.2.2.2.1[j].2.1).length≤8):=ko c.1 c.2.2.2.1[j].2.1 wY.2;generalize aD c.1 c.2.2.2.1[j].2.1=sh at *;obtain⟨b0,b1,b2,b3⟩:=cells4 Kc;have x0:=B5.ins.box.cell 0 _ rfl;simp only[List.length_nil,Nat.zero_add] at x0;have wR:=Hid.mk' (And.intro BN Cp);clear aB yX E3 dE oL wY za k3 Ul HJ jC KS se B3 jJ K0 x7 B4 BN Cp Cq;have zd:=k1;have E4:=Hid.mk' B5;generalize c.2.2.2.1[j].1=wN at *;generalize c.2.2.2.1[j].2.2.1=Un at *;go_wp2_with fail;refine vN.out.mono ?_;rintro e w7 ⟨gs,ns,cs,rfl,hZ,cP⟩;have Cr:=E4.out.more cP;have iL:=Kc.below cP;have Yw:=hZ.1;have UM:0<ns∧ns≤8:=by have:=vL.out; have:=Um.out; omega
       have K3:Below w7.heap.size w7 w7.drew:=(Below.refl _ _).drew;have vH:=Cr.more K3;have E5:=(hZ.mono (base':=0) (Nat.zero_le _)).below K3;have vI:=iL.below K3;have Yd:=hZ.lt;have hU7:=cP.size;have Hf:gs≠gc:=fun e=>by have:=E4.out.old; have:=E4.out.fr.size; omega
       have BY:J≠gc:=fun e=>by have:=E4.out.old; have:=wR.out.1; omega
       clear vN b0 b1 b2 b3 x0 B5;go_wp2_with fail;refine last.aq (S:=fun w'=>au J 75 [] [.int .i64 wN,.slice oa ol oc,.int .i64 Un,.slice ya yl yc] [] w'∧cX w' 0 gs ns cs sh) 12 (by kernel_rfl) ⟨vI,E5⟩ (fun af=>?_)
       generalize Eg:w7.drew=D7 at *;clear Eg;refine last.bu [5,6] (i:=0) (v:=(.slice (some ⟨gs,0,none⟩) ns cs)) rfl (by kernel_rfl) (by kernel_rfl) (by kernel_rfl) (by kernel_rfl) (fun _ _ _ h=>h) (Or.inl ⟨by rfl,?_⟩) (by assumption) ?_
       · intro wq ar; go_simp
       try simp only[Act.put,zP,zQ,zR]
       refine last.bu [4,5,6] (i:=1) (v:=(.pointer (some ⟨gc,0,none⟩))) rfl (by kernel_rfl) (by kernel_rfl) (by kernel_rfl) (by kernel_rfl) (fun _ _ _ h=>h) (Or.inl ⟨by rfl,?_⟩) (by assumption) ?_
       · intro wq ar; go_simp
       try simp only[Act.put,zP,zQ,zR]
       refine last.bu [3,4,5,6] (i:=2) (v:=(.slice (some ⟨gs,0,none⟩) ns cs)) rfl (by kernel_rfl) (by kernel_rfl) (by kernel_rfl) (by kernel_rfl) (fun _ _ _ h=>h) (Or.inl ⟨by rfl,?_⟩) (by assumption) ?_
       · intro wq ar; go_simp
       try simp only[Act.put,zP,zQ,zR]
       refine last.bu [4,5,6] (i:=3) (v:=(.int .i64 (ns:Int))) rfl (by kernel_rfl) (by kernel_rfl) (by kernel_rfl) (by kernel_rfl) (fun _ _ _ h=>h) (Or.inl ⟨by rfl,?_⟩) (by assumption) ?_
       · intro wq ar; go_simp
       try simp only[Act.put,zP,zQ,zR]
       refine last.bu [8] (i:=7) (v:=(.pointer (some ⟨J,0,none⟩))) rfl (by kernel_rfl) (by kernel_rfl) (by kernel_rfl) (by kernel_rfl) (fun _ _ _ h=>h) (Or.inl ⟨by rfl,?_⟩) (by assumption) ?_
       · intro wq ar; go_simp
       try simp only[Act.put,zP,zQ,zR]
       refine last.wpTk 8 (.int .i64 wN) rfl rfl ?_ ?_
       · intro wq ar; obtain⟨q0,q1,q2,q3⟩:=cells4 ar.1; go_simp
       try simp only[Act.put,zP,zQ,zR]
       refine last.bu [10] (i:=9) (v:=(.pointer (some ⟨gc,0,none⟩))) rfl (by kernel_rfl) (by kernel_rfl) (by kernel_rfl) (by kernel_rfl) (fun _ _ _ h=>h) (Or.inl ⟨by rfl,?_⟩) (by assumption) ?_
       · intro wq ar; go_simp
       try simp only[Act.put,zP,zQ,zR]
       refine last.an (i:=4) (o:=qO35) (by kernel_rfl) rfl (fun K hK=>?_)
       refine fV.call2 rfl 68 (.tmp 57) (.tmp 59) _ rfl (fun _ _=>rfl) (.pointer (some ⟨gc,0,none⟩)) (.int .i64 (ns:Int)) (by kernel_rfl) (by kernel_rfl) _ (cf w0 _ gc a len cap code (ns:Int) vH.cur (by omega) (by omega)) ?_
       rintro e w8 ⟨i,Ci,rfl,tC,rW⟩;refine⟨_,rfl,?_⟩;have n_:=vH.step tC rW;have ly:=vI.grown rW (fun e=>BY (Option.some.inj e))
       have E6:=E5.kept (rW.block gs E5.lt.2 (fun e=>Hf (Option.some.inj e)))
       have N8:i<sh.length:=by omega
       have gZ:(i:Int)<(ns:Int):=Ci;have xo:=th.out _ (List.getElem_mem N8);refine hK.out _ _ ?_ (fun ag=>?_)
       · exact⟨ly,E6⟩
       clear hK K af;have af:=ag;clear ag;try simp only[Act.put,zP,zQ,zR]
       refine last.bu [6] (i:=5) (v:=(.pointer (some ⟨gs,i,none⟩))) rfl (by kernel_rfl) (by kernel_rfl) (by kernel_rfl) (by kernel_rfl) (fun _ _ _ h=>h) (Or.inl ⟨by rfl,?_⟩) (by assumption) ?_
       · intro wq ar; go_simp
       try simp only[Act.put,zP,zQ,zR]
       refine last.wpTk 6 (.int .i64 sh[i]) rfl rfl ?_ ?_
       · intro wq ar; have q:=ar.2.at i N8; go_simp
       try simp only[Act.put,zP,zQ,zR]
       refine last.an (i:=10) (o:=qO36) (by kernel_rfl) rfl (fun K hK=>?_)
       refine fV.call2 rfl 125 (.tmp 65) (.const (.int .i64 5)) _ rfl (fun _ _=>rfl) (.pointer (some ⟨gc,0,none⟩)) (.int .i64 5) (by kernel_rfl) rfl _ (mI w0 _ gc a len cap code 5 n_.cur (by omega) (by omega)) ?_
       rintro e w9 ⟨b9,rfl,Uo,K4⟩;refine⟨_,rfl,?_⟩;have me:=n_.step Uo K4;have vA:=ly.grown K4 (fun e=>BY (Option.some.inj e))
       have N9:=E6.kept (K4.block gs E6.lt.2 (fun e=>Hf (Option.some.inj e)))
       refine hK.out _ _ ?_ (fun ag=>?_)
       · exact⟨vA,N9⟩
       clear hK K af;have af:=ag;clear ag;try simp only[Act.put,zP,zQ,zR]
       refine last.wpTk 11 (.bool !b9) rfl rfl ?_ ?_
       · intro wq ar; go_simp
       try simp only[Act.put,zP,zQ,zR]
       have N_:=Hid.mk' (mQ X oB [] [] (some ⟨gj,0,none⟩) jn jc la ln lc c F sh[i] wN (!b9) w9 me.ins me.dr (WalkArith.wf_i64 (by omega)) zd (by have:=me.dr.kS; omega))
       generalize sh[i]=si at *;refine last.aC (o:=qO37) (by kernel_rfl) rfl (by kernel_rfl) (fun K hK=>?_)
       refine fV.call4 rfl 131 (.tmp 5) (.tmp 62) (.tmp 64) (.tmp 67) _ rfl (fun _ _=>rfl) (.pointer (some ⟨X,0,none⟩)) (.int .i64 si) (.int .i64 wN) (.bool !b9) (by kernel_rfl) (by kernel_rfl) (by kernel_rfl) (by kernel_rfl) _ N_.out ?_
       rintro e wI ⟨rfl,m6⟩;refine⟨_,rfl,?_⟩;obtain⟨Rl,Rm,Rn,DG,DH,DI,Fz,lk⟩:=me.wrote m6 (qp me.dr);clear N_ m6 me af vA N9 n_ ly E6 vH E5 vI Cr iL hZ;refine hK.out _ _ ?_;clear hK K;go_wp2_with fail;go_roundw
       case rel=>exact⟨k - 1,_,_,_,_,_,_,_,_,by omega,by have h1:=A8.out; have h2:=sf (c:=c) (shard:=si) (tx:=wN) (yes:= !b9); omega,by go_num,lk⟩
       case measure=>simp[intOf]; omega
    · have k3:=dd.ins.box.cell 3 _ rfl;simp only[List.length_nil,Nat.zero_add] at k3;by_cases IC:0<jn
      rotate_left
      · have vd:¬(0:Int)<(jn:Int):=by omega
        have lk:=dd;go_wp2_with fail;go_roundw
        case rel=>exact⟨k - 1,_,_,_,_,_,_,_,_,by omega,by have h1:=A8.out; have h2:=Int.le_refl (0:Int); omega,by go_num,lk⟩
        case measure=>simp[intOf]; omega
      have vd:(0:Int)<(jn:Int):=by omega
      obtain⟨vx,vy,F1,F2,e,fo,hj,hl,dL,dW⟩:=bn.1 dd.ins.own;simp only[List.cons.injEq,and_true,true_and] at e;obtain⟨rfl,rfl⟩:=e;obtain⟨vj,qj,e,sW,hJ⟩:=hj;simp only[List.cons.injEq,and_true] at e;subst e;obtain⟨gj,rfl⟩:∃gj,ja=some ⟨gj,0,none⟩:=by
       rcases hJ.shape with⟨e,_⟩ | ⟨g,cp,e,_⟩
       · cases e; omega
       · cases e; exact⟨g,rfl⟩
      have x7:∀b∈(Value.slice (some ⟨gj,0,none⟩) jn jc).ownBlock.toList++al qj,b∈F:=fun b hb=>by rw[dL,sW]; exact List.mem_append.2 (.inl hb)
      obtain⟨g1,g2,g3⟩:=dd.gX;have jJ:Below w5.heap.size w5 w5.drew:=(Below.refl _ _).drew;have B3:=dd.more jJ;have se:=hJ.below jJ;have HJ:=Hid.mk' hJ;have hRn:=dd.rn;have hXn:=dd.new X List.mem_cons_self;have Q7:=dd.fr.size;have B4:=a7.dv dd.ins.own;have Uj:=dd.ins.box.lt;have Uk:=dd.rb.lt;clear hl sW hJ;go_wp2_with fail;refine last.aq (S:=fun w'=>au X oB [] [.int .i64 c.1,.int .i64 c.2.1,.int .i64 c.2.2.1,.slice (some ⟨gj,0,none⟩) jn jc,.slice la ln lc,.int .i64 c.2.2.2.2.2] [] w'∧bk 75 dU w' (.slice (some ⟨gj,0,none⟩) jn jc) c.2.2.2.1 qj) 10 (by kernel_rfl) ⟨B3.ins.box,se⟩ (fun af=>?_)
      generalize Eg:w5.drew=D at *;clear Eg;refine last.wpTk 0 (.pointer (some ⟨X,3,none⟩)) rfl rfl ?_ ?_
      · intro wq ar; go_simp
      try simp only[Act.put,zP,zQ,zR]
      refine last.wpTk 1 (.slice (some ⟨gj,0,none⟩) jn jc) rfl rfl ?_ ?_
      · intro wq ar; have q:=ar.1.cell 3 _ rfl; simp only[List.length_nil,Nat.zero_add] at q; go_simp
      try simp only[Act.put,zP,zQ,zR]
      refine last.wpTk 2 (.pointer (some ⟨gc,0,none⟩)) rfl rfl ?_ ?_
      · intro wq ar; go_simp
      try simp only[Act.put,zP,zQ,zR]
      refine last.wpTk 3 (.pointer (some ⟨X,3,none⟩)) rfl rfl ?_ ?_
      · intro wq ar; go_simp
      try simp only[Act.put,zP,zQ,zR]
      refine last.wpTk 4 (.slice (some ⟨gj,0,none⟩) jn jc) rfl rfl ?_ ?_
      · intro wq ar; have q:=ar.1.cell 3 _ rfl; simp only[List.length_nil,Nat.zero_add] at q; go_simp
      try simp only[Act.put,zP,zQ,zR]
      refine last.wpTk 5 (.int .i64 (jn:Int)) rfl rfl ?_ ?_
      · intro wq ar; go_simp
      try simp only[Act.put,zP,zQ,zR]
      refine last.eA (i:=6) (j:=9) (o:=qO32) (o':={dst:=some 7,op:=Op.alloc 75,type:=0,pos:= "l11_coord.go:230",after:=#[],guard:=none}) (by kernel_rfl) rfl rfl (fun K hK=> ?wayA1) (fun K hK=> ?wayB1)
      case' wayA1=>
       refine fV.call2 rfl 68 (.tmp 44) (.tmp 47) _ rfl (fun _ _=>rfl) (.pointer (some ⟨gc,0,none⟩)) (.int .i64 (jn:Int)) (by kernel_rfl) (by kernel_rfl) _ (cf w0 _ gc a len cap code (jn:Int) B3.cur (by omega) (by omega)) ?_
       rintro e wB ⟨j,Cq,rfl,eG,du⟩;refine⟨_,rfl,?_⟩;have e_:=B3.step eG du;have fa:=se.keep fun b hb=>du.block b (se.at_ b hb) (fun e=>g2 (by rw[←Option.some.inj e]; exact x7 b hb))
       have kT:=du.size;have eL:j<c.2.2.2.1.length:=by have:=xC.out; omega
       have DK:(j:Int)<(jn:Int):=Cq;refine hK.out _ _ ?_ (fun ag=>?_)
       · exact⟨e_.ins.box,fa⟩
       clear hK K af;have af:=ag;clear ag;try simp only[Act.put,zP,zQ,zR]
       obtain⟨oa,ol,oc,ya,yl,yc,jC⟩:=eS (HJ.out.each j eL);refine last.wpTk 7 (.pointer (some ⟨gj,j * 4,none⟩)) rfl rfl ?_ ?_
       · intro wq ar; go_simp
       try simp only[Act.put,zP,zQ,zR]
       refine last.wpTk 8 (.agg #[.int .i64 c.2.2.2.1[j].1,.slice oa ol oc,.int .i64 c.2.2.2.1[j].2.2.1,.slice ya yl yc]) rfl rfl ?_ ?_
       · intro wq ar; obtain⟨q0,q1,q2,q3⟩:=jQ ar.2 j eL jC; go_simp
       try simp only[Act.put,zP,zQ,zR]
       refine last.an (i:=9) (o:=qO33) (by kernel_rfl) rfl (fun K hK=>?_)
       go_simp;obtain⟨wZ,iz⟩:∃V,wB.alloc (.cells #[.int .i64 0,.slice none 0 0,.int .i64 0,.slice none 0 0] 75)=V:=⟨_,rfl⟩;have bg:Below wB.heap.size wB wZ:=by rw[←iz]; exact aJ
       have iB:au wB.heap.size 75 [] [.int .i64 0,.slice none 0 0,.int .i64 0,.slice none 0 0] [] wZ:=by rw[←iz]; exact aE _ _ _
       have ju:=e_.more bg;have gU:=fa.below bg;have oC:=bg.size;have vG:=iB.lt;rw[iz];refine hK.out _ _ ?_ (fun ag=>?_)
       · exact⟨ju.ins.box,gU⟩
       clear hK K af;have af:=ag;clear ag;try simp only[Act.put,zP,zQ,zR]
       clear iz;have N7:D.heap.size≤wB.heap.size:=kT;generalize N1:wB.heap.size=J at *;clear bg e_ fa kT oC vG eG du
      case' wayB1=>
       go_simp;obtain⟨wB,fU⟩:∃V,D.alloc (.cells #[.int .i64 0,.slice none 0 0,.int .i64 0,.slice none 0 0] 75)=V:=⟨_,rfl⟩;have bg:Below D.heap.size D wB:=by rw[←fU]; exact aJ
       have iB:au D.heap.size 75 [] [.int .i64 0,.slice none 0 0,.int .i64 0,.slice none 0 0] [] wB:=by rw[←fU]; exact aE _ _ _
       have e_:=B3.more bg;have fa:=se.below bg;have kT:=bg.size;have vG:=iB.lt;rw[fU];refine hK.out _ _ ?_ (fun ag=>?_)
       · exact⟨e_.ins.box,fa⟩
       clear hK K af;have af:=ag;clear ag;try simp only[Act.put,zP,zQ,zR]
       clear fU;refine last.an (i:=6) (o:=qO32) (by kernel_rfl) rfl (fun K hK=>?_)
       refine fV.call2 rfl 68 (.tmp 44) (.tmp 47) _ rfl (fun _ _=>rfl) (.pointer (some ⟨gc,0,none⟩)) (.int .i64 (jn:Int)) (by kernel_rfl) (by kernel_rfl) _ (cf w0 _ gc a len cap code (jn:Int) e_.cur (by omega) (by omega)) ?_
       rintro e wZ ⟨j,Cq,rfl,eG,du⟩;refine⟨_,rfl,?_⟩;have ju:=e_.step eG du;have gU:=fa.keep fun b hb=>du.block b (fa.at_ b hb) (fun e=>g2 (by rw[←Option.some.inj e]; exact x7 b hb))
       have oC:=du.size;have eL:j<c.2.2.2.1.length:=by have:=xC.out; omega
       have DK:(j:Int)<(jn:Int):=Cq;refine hK.out _ _ ?_ (fun ag=>?_)
       · exact⟨ju.ins.box,gU⟩
       clear hK K af;have af:=ag;clear ag;try simp only[Act.put,zP,zQ,zR]
       obtain⟨oa,ol,oc,ya,yl,yc,jC⟩:=eS (HJ.out.each j eL);refine last.wpTk 7 (.pointer (some ⟨gj,j * 4,none⟩)) rfl rfl ?_ ?_
       · intro wq ar; go_simp
       try simp only[Act.put,zP,zQ,zR]
       refine last.wpTk 8 (.agg #[.int .i64 c.2.2.2.1[j].1,.slice oa ol oc,.int .i64 c.2.2.2.1[j].2.2.1,.slice ya yl yc]) rfl rfl ?_ ?_
       · intro wq ar; obtain⟨q0,q1,q2,q3⟩:=jQ ar.2 j eL jC; go_simp
       try simp only[Act.put,zP,zQ,zR]
       replace iB:=iB.grown du (fun e=>by have:=Option.some.inj e; have:=dd.old; have:=jJ.size; omega)
       have N7:D.heap.size≤D.heap.size:=Nat.le_refl _;generalize N1:D.heap.size=J at iB N7;clear bg e_ fa kT oC vG eG du
      all_goals
       have K0:=jJ.size;have BN:w5.heap.size≤J:=by omega
       have Cp:J∉F:=fun e=>by have:=B4 J e; omega
       have Qp:=iB.lt;obtain⟨z0,z1,z2,z3⟩:=cells4 iB;have f0:=iB.fz 0;have f1:=iB.fz 1;have f2:=iB.fz 2;have f3:=iB.fz 3;have hS:=iB.whole [.int .i64 c.2.2.2.1[j].1,.slice oa ol oc,.int .i64 c.2.2.2.1[j].2.2.1,.slice ya yl yc] rfl;obtain⟨U,hU⟩:∃U,bh wZ J 0 [.int .i64 c.2.2.2.1[j].1,.slice oa ol oc,.int .i64 c.2.2.2.1[j].2.2.1,.slice ya yl yc]=U:=⟨_,rfl⟩;rw[hU] at hS;simp only[bh,Nat.zero_add,Nat.reduceAdd] at hU;have HU:=Hid.mk' hU;have B5:=ju.outside hS.2 (by omega) (by omega) Cp (by omega)
       have KS:=gU.keep fun b hb=>hS.2.block b (gU.at_ b hb) (fun e=>Cp (by rw[←Option.some.inj e]; exact x7 b hb))
       have Kc:=hS.1;clear hU;refine last.aC (o:=qO34) (by kernel_rfl) rfl (by kernel_rfl) (fun K hK=>?_)
       go_simp;refine hK.out _ _ ?_;clear hK K;rw[HU.out];clear z0 z1 z2 z3 f0 f1 f2 f3 hS HU iB ju gU af;have za:=B5.dr.jobs _ (List.getElem_mem eL);have aB:=KS.each j eL;rw[jC] at aB;obtain⟨vo,T2,e,k1,Ul,yX,E3, -, -⟩:=dI.1 aB;simp only[List.cons.injEq,and_true,true_and] at e;obtain⟨rfl,rfl⟩:=e;have dE:dD U oa ol c.2.2.2.1[j].2.1:=(kJ.1 (kc.eu (ik.2 ⟨yX,rfl⟩))).1;have wY:=(mb za.ops);have oL:=dE.1;have vN:=Hid.mk' (ez oa ol oc c.2.2.2.1[j].2.1 c.1 U dE (by omega) fo.n)
       have th:Hid (∀x∈aD c.1 c.2.2.2.1[j].2.1,0≤x∧x≤7):=fun x hx=>by
        obtain⟨o,_,rfl⟩:=(fc c.1 c.2.2.2.1[j].2.1 x).1 hx;have h3:=fj o.2.1 c.1;have h4:=B5.dr.n;have:=h3.2 (by omega)
        omega
       have vL:Hid (0<(aD c.1 c.2.2.2.1[j].2.1).length):=by
        obtain⟨o,ho⟩:∃o,o∈c.2.2.2.1[j].2.1:=⟨(c.2.2.2.1[j].2.1)[0]'(by omega),List.getElem_mem _⟩
        exact List.length_pos_of_mem ((fc c.1 c.2.2.2.1[j].2.1 (bl o.2.1 c.1)).2 ⟨o,ho,rfl⟩)
       have Um:Hid ((aD c.1 c.2.2.2.1[j].2.1).length≤8):=ko c.1 c.2.2.2.1[j].2.1 wY.2;generalize aD c.1 c.2.2.2.1[j].2.1=sh at *;obtain⟨b0,b1,b2,b3⟩:=cells4 Kc;have x0:=B5.ins.box.cell 0 _ rfl;simp only[List.length_nil,Nat.zero_add] at x0;have wR:=Hid.mk' (And.intro BN Cp);clear aB yX E3 dE oL wY za k3 Ul HJ jC KS se B3 jJ K0 x7 B4 BN Cp Cq;have zd:=k1;have E4:=Hid.mk' B5;generalize c.2.2.2.1[j].1=wN at *;generalize c.2.2.2.1[j].2.2.1=Un at *;go_wp2_with fail;refine vN.out.mono ?_;rintro e w7 ⟨gs,ns,cs,rfl,hZ,cP⟩;have Cr:=E4.out.more cP;have iL:=Kc.below cP;have Yw:=hZ.1;have UM:0<ns∧ns≤8:=by have:=vL.out; have:=Um.out; omega
       have K3:Below w7.heap.size w7 w7.drew:=(Below.refl _ _).drew;have vH:=Cr.more K3;have E5:=(hZ.mono (base':=0) (Nat.zero_le _)).below K3;have vI:=iL.below K3;have Yd:=hZ.lt;have hU7:=cP.size;have Hf:gs≠gc:=fun e=>by have:=E4.out.old; have:=E4.out.fr.size; omega
       have BY:J≠gc:=fun e=>by have:=E4.out.old; have:=wR.out.1; omega
       clear vN b0 b1 b2 b3 x0 B5;go_wp2_with fail;refine last.aq (S:=fun w'=>au J 75 [] [.int .i64 wN,.slice oa ol oc,.int .i64 Un,.slice ya yl yc] [] w'∧cX w' 0 gs ns cs sh) 12 (by kernel_rfl) ⟨vI,E5⟩ (fun af=>?_)
       generalize Eg:w7.drew=D7 at *;clear Eg;refine last.bu [5,6] (i:=0) (v:=(.slice (some ⟨gs,0,none⟩) ns cs)) rfl (by kernel_rfl) (by kernel_rfl) (by kernel_rfl) (by kernel_rfl) (fun _ _ _ h=>h) (Or.inl ⟨by rfl,?_⟩) (by assumption) ?_
       · intro wq ar; go_simp
       try simp only[Act.put,zP,zQ,zR]
       refine last.bu [4,5,6] (i:=1) (v:=(.pointer (some ⟨gc,0,none⟩))) rfl (by kernel_rfl) (by kernel_rfl) (by kernel_rfl) (by kernel_rfl) (fun _ _ _ h=>h) (Or.inl ⟨by rfl,?_⟩) (by assumption) ?_
       · intro wq ar; go_simp
       try simp only[Act.put,zP,zQ,zR]
       refine last.bu [3,4,5,6] (i:=2) (v:=(.slice (some ⟨gs,0,none⟩) ns cs)) rfl (by kernel_rfl) (by kernel_rfl) (by kernel_rfl) (by kernel_rfl) (fun _ _ _ h=>h) (Or.inl ⟨by rfl,?_⟩) (by assumption) ?_
       · intro wq ar; go_simp
       try simp only[Act.put,zP,zQ,zR]
       refine last.bu [4,5,6] (i:=3) (v:=(.int .i64 (ns:Int))) rfl (by kernel_rfl) (by kernel_rfl) (by kernel_rfl) (by kernel_rfl) (fun _ _ _ h=>h) (Or.inl ⟨by rfl,?_⟩) (by assumption) ?_
       · intro wq ar; go_simp
       try simp only[Act.put,zP,zQ,zR]
       refine last.bu [8] (i:=7) (v:=(.pointer (some ⟨J,0,none⟩))) rfl (by kernel_rfl) (by kernel_rfl) (by kernel_rfl) (by kernel_rfl) (fun _ _ _ h=>h) (Or.inl ⟨by rfl,?_⟩) (by assumption) ?_
       · intro wq ar; go_simp
       try simp only[Act.put,zP,zQ,zR]
       refine last.wpTk 8 (.int .i64 wN) rfl rfl ?_ ?_
       · intro wq ar; obtain⟨q0,q1,q2,q3⟩:=cells4 ar.1; go_simp
       try simp only[Act.put,zP,zQ,zR]
       refine last.bu [10] (i:=9) (v:=(.pointer (some ⟨gc,0,none⟩))) rfl (by kernel_rfl) (by kernel_rfl) (by kernel_rfl) (by kernel_rfl) (fun _ _ _ h=>h) (Or.inl ⟨by rfl,?_⟩) (by assumption) ?_
       · intro wq ar; go_simp
       try simp only[Act.put,zP,zQ,zR]
       refine last.an (i:=4) (o:=qO35) (by kernel_rfl) rfl (fun K hK=>?_)
       refine fV.call2 rfl 68 (.tmp 57) (.tmp 59) _ rfl (fun _ _=>rfl) (.pointer (some ⟨gc,0,none⟩)) (.int .i64 (ns:Int)) (by kernel_rfl) (by kernel_rfl) _ (cf w0 _ gc a len cap code (ns:Int) vH.cur (by omega) (by omega)) ?_
       rintro e w8 ⟨i,Ci,rfl,tC,rW⟩;refine⟨_,rfl,?_⟩;have n_:=vH.step tC rW;have ly:=vI.grown rW (fun e=>BY (Option.some.inj e))
       have E6:=E5.kept (rW.block gs E5.lt.2 (fun e=>Hf (Option.some.inj e)))
       have N8:i<sh.length:=by omega
       have gZ:(i:Int)<(ns:Int):=Ci;have xo:=th.out _ (List.getElem_mem N8);refine hK.out _ _ ?_ (fun ag=>?_)
       · exact⟨ly,E6⟩
       clear hK K af;have af:=ag;clear ag;try simp only[Act.put,zP,zQ,zR]
       refine last.bu [6] (i:=5) (v:=(.pointer (some ⟨gs,i,none⟩))) rfl (by kernel_rfl) (by kernel_rfl) (by kernel_rfl) (by kernel_rfl) (fun _ _ _ h=>h) (Or.inl ⟨by rfl,?_⟩) (by assumption) ?_
       · intro wq ar; go_simp
       try simp only[Act.put,zP,zQ,zR]
       refine last.wpTk 6 (.int .i64 sh[i]) rfl rfl ?_ ?_
       · intro wq ar; have q:=ar.2.at i N8; go_simp
       try simp only[Act.put,zP,zQ,zR]
       refine last.an (i:=10) (o:=qO36) (by kernel_rfl) rfl (fun K hK=>?_)
       refine fV.call2 rfl 125 (.tmp 65) (.const (.int .i64 5)) _ rfl (fun _ _=>rfl) (.pointer (some ⟨gc,0,none⟩)) (.int .i64 5) (by kernel_rfl) rfl _ (mI w0 _ gc a len cap code 5 n_.cur (by omega) (by omega)) ?_
       rintro e w9 ⟨b9,rfl,Uo,K4⟩;refine⟨_,rfl,?_⟩;have me:=n_.step Uo K4;have vA:=ly.grown K4 (fun e=>BY (Option.some.inj e))
       have N9:=E6.kept (K4.block gs E6.lt.2 (fun e=>Hf (Option.some.inj e)))
       refine hK.out _ _ ?_ (fun ag=>?_)
       · exact⟨vA,N9⟩
       clear hK K af;have af:=ag;clear ag;try simp only[Act.put,zP,zQ,zR]
       refine last.wpTk 11 (.bool !b9) rfl rfl ?_ ?_
       · intro wq ar; go_simp
       try simp only[Act.put,zP,zQ,zR]
       have N_:=Hid.mk' (mQ X oB [] [] (some ⟨gj,0,none⟩) jn jc la ln lc c F sh[i] wN (!b9) w9 me.ins me.dr (WalkArith.wf_i64 (by omega)) zd (by have:=me.dr.kS; omega))
       generalize sh[i]=si at *;refine last.aC (o:=qO37) (by kernel_rfl) rfl (by kernel_rfl) (fun K hK=>?_)
       refine fV.call4 rfl 131 (.tmp 5) (.tmp 62) (.tmp 64) (.tmp 67) _ rfl (fun _ _=>rfl) (.pointer (some ⟨X,0,none⟩)) (.int .i64 si) (.int .i64 wN) (.bool !b9) (by kernel_rfl) (by kernel_rfl) (by kernel_rfl) (by kernel_rfl) _ N_.out ?_
       rintro e wI ⟨rfl,m6⟩;refine⟨_,rfl,?_⟩;obtain⟨Rl,Rm,Rn,DG,DH,DI,Fz,lk⟩:=me.wrote m6 (qp me.dr);clear N_ m6 me af vA N9 n_ ly E6 vH E5 vI Cr iL hZ;refine hK.out _ _ ?_;clear hK K;go_wp2_with fail;go_roundw
       case rel=>exact⟨k - 1,_,_,_,_,_,_,_,_,by omega,by have h1:=A8.out; have h2:=sf (c:=c) (shard:=si) (tx:=wN) (yes:= !b9); omega,by go_num,lk⟩
       case measure=>simp[intOf]; omega
    · have k3:=dd.ins.box.cell 3 _ rfl;simp only[List.length_nil,Nat.zero_add] at k3;by_cases IC:0<jn
      rotate_left
      · have vd:¬(0:Int)<(jn:Int):=by omega
        have lk:=dd;go_wp2_with fail;go_roundw
        case rel=>exact⟨k - 1,_,_,_,_,_,_,_,_,by omega,by have h1:=A8.out; have h2:=Int.le_refl (0:Int); omega,by go_num,lk⟩
        case measure=>simp[intOf]; omega
      have vd:(0:Int)<(jn:Int):=by omega
      obtain⟨vx,vy,F1,F2,e,fo,hj,hl,dL,dW⟩:=bn.1 dd.ins.own;simp only[List.cons.injEq,and_true,true_and] at e;obtain⟨rfl,rfl⟩:=e;obtain⟨vj,qj,e,sW,hJ⟩:=hj;simp only[List.cons.injEq,and_true] at e;subst e;obtain⟨gj,rfl⟩:∃gj,ja=some ⟨gj,0,none⟩:=by
       rcases hJ.shape with⟨e,_⟩ | ⟨g,cp,e,_⟩
       · cases e; omega
       · cases e; exact⟨g,rfl⟩
      have x7:∀b∈(Value.slice (some ⟨gj,0,none⟩) jn jc).ownBlock.toList++al qj,b∈F:=fun b hb=>by rw[dL,sW]; exact List.mem_append.2 (.inl hb)
      obtain⟨g1,g2,g3⟩:=dd.gX;have jJ:Below w5.heap.size w5 w5.drew:=(Below.refl _ _).drew;have B3:=dd.more jJ;have se:=hJ.below jJ;have HJ:=Hid.mk' hJ;have hRn:=dd.rn;have hXn:=dd.new X List.mem_cons_self;have Q7:=dd.fr.size;have B4:=a7.dv dd.ins.own;have Uj:=dd.ins.box.lt;have Uk:=dd.rb.lt;clear hl sW hJ;go_wp2_with fail;refine last.aq (S:=fun w'=>au X oB [] [.int .i64 c.1,.int .i64 c.2.1,.int .i64 c.2.2.1,.slice (some ⟨gj,0,none⟩) jn jc,.slice la ln lc,.int .i64 c.2.2.2.2.2] [] w'∧bk 75 dU w' (.slice (some ⟨gj,0,none⟩) jn jc) c.2.2.2.1 qj) 10 (by kernel_rfl) ⟨B3.ins.box,se⟩ (fun af=>?_)
      generalize Eg:w5.drew=D at *;clear Eg;refine last.wpTk 0 (.pointer (some ⟨X,3,none⟩)) rfl rfl ?_ ?_
      · intro wq ar; go_simp
      try simp only[Act.put,zP,zQ,zR]
      refine last.wpTk 1 (.slice (some ⟨gj,0,none⟩) jn jc) rfl rfl ?_ ?_
      · intro wq ar; have q:=ar.1.cell 3 _ rfl; simp only[List.length_nil,Nat.zero_add] at q; go_simp
      try simp only[Act.put,zP,zQ,zR]
      refine last.wpTk 2 (.pointer (some ⟨gc,0,none⟩)) rfl rfl ?_ ?_
      · intro wq ar; go_simp
      try simp only[Act.put,zP,zQ,zR]
      refine last.wpTk 3 (.pointer (some ⟨X,3,none⟩)) rfl rfl ?_ ?_
      · intro wq ar; go_simp
      try simp only[Act.put,zP,zQ,zR]
      refine last.wpTk 4 (.slice (some ⟨gj,0,none⟩) jn jc) rfl rfl ?_ ?_
      · intro wq ar; have q:=ar.1.cell 3 _ rfl; simp only[List.length_nil,Nat.zero_add] at q; go_simp
      try simp only[Act.put,zP,zQ,zR]
      refine last.wpTk 5 (.int .i64 (jn:Int)) rfl rfl ?_ ?_
      · intro wq ar; go_simp
      try simp only[Act.put,zP,zQ,zR]
      refine last.eA (i:=6) (j:=9) (o:=qO32) (o':={dst:=some 7,op:=Op.alloc 75,type:=0,pos:= "l11_coord.go:230",after:=#[],guard:=none}) (by kernel_rfl) rfl rfl (fun K hK=> ?wayA2) (fun K hK=> ?wayB2)
      case' wayA2=>
       refine fV.call2 rfl 68 (.tmp 44) (.tmp 47) _ rfl (fun _ _=>rfl) (.pointer (some ⟨gc,0,none⟩)) (.int .i64 (jn:Int)) (by kernel_rfl) (by kernel_rfl) _ (cf w0 _ gc a len cap code (jn:Int) B3.cur (by omega) (by omega)) ?_
       rintro e wB ⟨j,Cq,rfl,eG,du⟩;refine⟨_,rfl,?_⟩;have e_:=B3.step eG du;have fa:=se.keep fun b hb=>du.block b (se.at_ b hb) (fun e=>g2 (by rw[←Option.some.inj e]; exact x7 b hb))
       have kT:=du.size;have eL:j<c.2.2.2.1.length:=by have:=xC.out; omega
       have DK:(j:Int)<(jn:Int):=Cq;refine hK.out _ _ ?_ (fun ag=>?_)
       · exact⟨e_.ins.box,fa⟩
       clear hK K af;have af:=ag;clear ag;try simp only[Act.put,zP,zQ,zR]
       obtain⟨oa,ol,oc,ya,yl,yc,jC⟩:=eS (HJ.out.each j eL);refine last.wpTk 7 (.pointer (some ⟨gj,j * 4,none⟩)) rfl rfl ?_ ?_
       · intro wq ar; go_simp
       try simp only[Act.put,zP,zQ,zR]
       refine last.wpTk 8 (.agg #[.int .i64 c.2.2.2.1[j].1,.slice oa ol oc,.int .i64 c.2.2.2.1[j].2.2.1,.slice ya yl yc]) rfl rfl ?_ ?_
       · intro wq ar; obtain⟨q0,q1,q2,q3⟩:=jQ ar.2 j eL jC; go_simp
       try simp only[Act.put,zP,zQ,zR]
       refine last.an (i:=9) (o:=qO33) (by kernel_rfl) rfl (fun K hK=>?_)
       go_simp;obtain⟨wZ,iz⟩:∃V,wB.alloc (.cells #[.int .i64 0,.slice none 0 0,.int .i64 0,.slice none 0 0] 75)=V:=⟨_,rfl⟩;have bg:Below wB.heap.size wB wZ:=by rw[←iz]; exact aJ
       have iB:au wB.heap.size 75 [] [.int .i64 0,.slice none 0 0,.int .i64 0,.slice none 0 0] [] wZ:=by rw[←iz]; exact aE _ _ _
       have ju:=e_.more bg;have gU:=fa.below bg;have oC:=bg.size;have vG:=iB.lt;rw[iz];refine hK.out _ _ ?_ (fun ag=>?_)
       · exact⟨ju.ins.box,gU⟩
       clear hK K af;have af:=ag;clear ag;try simp only[Act.put,zP,zQ,zR]
       clear iz;have N7:D.heap.size≤wB.heap.size:=kT;generalize N1:wB.heap.size=J at *;clear bg e_ fa kT oC vG eG du
      case' wayB2=>
       go_simp;obtain⟨wB,fU⟩:∃V,D.alloc (.cells #[.int .i64 0,.slice none 0 0,.int .i64 0,.slice none 0 0] 75)=V:=⟨_,rfl⟩;have bg:Below D.heap.size D wB:=by rw[←fU]; exact aJ
       have iB:au D.heap.size 75 [] [.int .i64 0,.slice none 0 0,.int .i64 0,.slice none 0 0] [] wB:=by rw[←fU]; exact aE _ _ _
       have e_:=B3.more bg;have fa:=se.below bg;have kT:=bg.size;have vG:=iB.lt;rw[fU];refine hK.out _ _ ?_ (fun ag=>?_)
       · exact⟨e_.ins.box,fa⟩
       clear hK K af;have af:=ag;clear ag;try simp only[Act.put,zP,zQ,zR]
       clear fU;refine last.an (i:=6) (o:=qO32) (by kernel_rfl) rfl (fun K hK=>?_)
       refine fV.call2 rfl 68 (.tmp 44) (.tmp 47) _ rfl (fun _ _=>rfl) (.pointer (some ⟨gc,0,none⟩)) (.int .i64 (jn:Int)) (by kernel_rfl) (by kernel_rfl) _ (cf w0 _ gc a len cap code (jn:Int) e_.cur (by omega) (by omega)) ?_
       rintro e wZ ⟨j,Cq,rfl,eG,du⟩;refine⟨_,rfl,?_⟩;have ju:=e_.step eG du;have gU:=fa.keep fun b hb=>du.block b (fa.at_ b hb) (fun e=>g2 (by rw[←Option.some.inj e]; exact x7 b hb))
       have oC:=du.size;have eL:j<c.2.2.2.1.length:=by have:=xC.out; omega
       have DK:(j:Int)<(jn:Int):=Cq;refine hK.out _ _ ?_ (fun ag=>?_)
       · exact⟨ju.ins.box,gU⟩
       clear hK K af;have af:=ag;clear ag;try simp only[Act.put,zP,zQ,zR]
       obtain⟨oa,ol,oc,ya,yl,yc,jC⟩:=eS (HJ.out.each j eL);refine last.wpTk 7 (.pointer (some ⟨gj,j * 4,none⟩)) rfl rfl ?_ ?_
       · intro wq ar; go_simp
       try simp only[Act.put,zP,zQ,zR]
       refine last.wpTk 8 (.agg #[.int .i64 c.2.2.2.1[j].1,.slice oa ol oc,.int .i64 c.2.2.2.1[j].2.2.1,.slice ya yl yc]) rfl rfl ?_ ?_
       · intro wq ar; obtain⟨q0,q1,q2,q3⟩:=jQ ar.2 j eL jC; go_simp
       try simp only[Act.put,zP,zQ,zR]
       replace iB:=iB.grown du (fun e=>by have:=Option.some.inj e; have:=dd.old; have:=jJ.size; omega)
       have N7:D.heap.size≤D.heap.size:=Nat.le_refl _;generalize N1:D.heap.size=J at iB N7;clear bg e_ fa kT oC vG eG du
      all_goals
       have K0:=jJ.size;have BN:w5.heap.size≤J:=by omega
       have Cp:J∉F:=fun e=>by have:=B4 J e; omega
       have Qp:=iB.lt;obtain⟨z0,z1,z2,z3⟩:=cells4 iB;have f0:=iB.fz 0;have f1:=iB.fz 1;have f2:=iB.fz 2;have f3:=iB.fz 3;have hS:=iB.whole [.int .i64 c.2.2.2.1[j].1,.slice oa ol oc,.int .i64 c.2.2.2.1[j].2.2.1,.slice ya yl yc] rfl;obtain⟨U,hU⟩:∃U,bh wZ J 0 [.int .i64 c.2.2.2.1[j].1,.slice oa ol oc,.int .i64 c.2.2.2.1[j].2.2.1,.slice ya yl yc]=U:=⟨_,rfl⟩;rw[hU] at hS;simp only[bh,Nat.zero_add,Nat.reduceAdd] at hU;have HU:=Hid.mk' hU;have B5:=ju.outside hS.2 (by omega) (by omega) Cp (by omega)
       have KS:=gU.keep fun b hb=>hS.2.block b (gU.at_ b hb) (fun e=>Cp (by rw[←Option.some.inj e]; exact x7 b hb))
       have Kc:=hS.1;clear hU;refine last.aC (o:=qO34) (by kernel_rfl) rfl (by kernel_rfl) (fun K hK=>?_)
       go_simp;refine hK.out _ _ ?_;clear hK K;rw[HU.out];clear z0 z1 z2 z3 f0 f1 f2 f3 hS HU iB ju gU af;have za:=B5.dr.jobs _ (List.getElem_mem eL);have aB:=KS.each j eL;rw[jC] at aB;obtain⟨vo,T2,e,k1,Ul,yX,E3, -, -⟩:=dI.1 aB;simp only[List.cons.injEq,and_true,true_and] at e;obtain⟨rfl,rfl⟩:=e;have dE:dD U oa ol c.2.2.2.1[j].2.1:=(kJ.1 (kc.eu (ik.2 ⟨yX,rfl⟩))).1;have wY:=(mb za.ops);have oL:=dE.1;have vN:=Hid.mk' (ez oa ol oc c.2.2.2.1[j].2.1 c.1 U dE (by omega) fo.n)
       have th:Hid (∀x∈aD c.1 c.2.2.2.1[j].2.1,0≤x∧x≤7):=fun x hx=>by
        obtain⟨o,_,rfl⟩:=(fc c.1 c.2.2.2.1[j].2.1 x).1 hx;have h3:=fj o.2.1 c.1;have h4:=B5.dr.n;have:=h3.2 (by omega)
        omega
       have vL:Hid (0<(aD c.1 c.2.2.2.1[j].2.1).length):=by
        obtain⟨o,ho⟩:∃o,o∈c.2.2.2.1[j].2.1:=⟨(c.2.2.2.1[j].2.1)[0]'(by omega),List.getElem_mem _⟩
        exact List.length_pos_of_mem ((fc c.1 c.2.2.2.1[j].2.1 (bl o.2.1 c.1)).2 ⟨o,ho,rfl⟩)
       have Um:Hid ((aD c.1 c.2.2.2.1[j].2.1).length≤8):=ko c.1 c.2.2.2.1[j].2.1 wY.2;generalize aD c.1 c.2.2.2.1[j].2.1=sh at *;obtain⟨b0,b1,b2,b3⟩:=cells4 Kc;have x0:=B5.ins.box.cell 0 _ rfl;simp only[List.length_nil,Nat.zero_add] at x0;have wR:=Hid.mk' (And.intro BN Cp);clear aB yX E3 dE oL wY za k3 Ul HJ jC KS se B3 jJ K0 x7 B4 BN Cp Cq;have zd:=k1;have E4:=Hid.mk' B5;generalize c.2.2.2.1[j].1=wN at *;generalize c.2.2.2.1[j].2.2.1=Un at *;go_wp2_with fail;refine vN.out.mono ?_;rintro e w7 ⟨gs,ns,cs,rfl,hZ,cP⟩;have Cr:=E4.out.more cP;have iL:=Kc.below cP;have Yw:=hZ.1;have UM:0<ns∧ns≤8:=by have:=vL.out; have:=Um.out; omega
       have K3:Below w7.heap.size w7 w7.drew:=(Below.refl _ _).drew;have vH:=Cr.more K3;have E5:=(hZ.mono (base':=0) (Nat.zero_le _)).below K3;have vI:=iL.below K3;have Yd:=hZ.lt;have hU7:=cP.size;have Hf:gs≠gc:=fun e=>by have:=E4.out.old; have:=E4.out.fr.size; omega
       have BY:J≠gc:=fun e=>by have:=E4.out.old; have:=wR.out.1; omega
       clear vN b0 b1 b2 b3 x0 B5;go_wp2_with fail;refine last.aq (S:=fun w'=>au J 75 [] [.int .i64 wN,.slice oa ol oc,.int .i64 Un,.slice ya yl yc] [] w'∧cX w' 0 gs ns cs sh) 12 (by kernel_rfl) ⟨vI,E5⟩ (fun af=>?_)
       generalize Eg:w7.drew=D7 at *;clear Eg;refine last.bu [5,6] (i:=0) (v:=(.slice (some ⟨gs,0,none⟩) ns cs)) rfl (by kernel_rfl) (by kernel_rfl) (by kernel_rfl) (by kernel_rfl) (fun _ _ _ h=>h) (Or.inl ⟨by rfl,?_⟩) (by assumption) ?_
       · intro wq ar; go_simp
       try simp only[Act.put,zP,zQ,zR]
       refine last.bu [4,5,6] (i:=1) (v:=(.pointer (some ⟨gc,0,none⟩))) rfl (by kernel_rfl) (by kernel_rfl) (by kernel_rfl) (by kernel_rfl) (fun _ _ _ h=>h) (Or.inl ⟨by rfl,?_⟩) (by assumption) ?_
       · intro wq ar; go_simp
       try simp only[Act.put,zP,zQ,zR]
       refine last.bu [3,4,5,6] (i:=2) (v:=(.slice (some ⟨gs,0,none⟩) ns cs)) rfl (by kernel_rfl) (by kernel_rfl) (by kernel_rfl) (by kernel_rfl) (fun _ _ _ h=>h) (Or.inl ⟨by rfl,?_⟩) (by assumption) ?_
       · intro wq ar; go_simp
       try simp only[Act.put,zP,zQ,zR]
       refine last.bu [4,5,6] (i:=3) (v:=(.int .i64 (ns:Int))) rfl (by kernel_rfl) (by kernel_rfl) (by kernel_rfl) (by kernel_rfl) (fun _ _ _ h=>h) (Or.inl ⟨by rfl,?_⟩) (by assumption) ?_
       · intro wq ar; go_simp
       try simp only[Act.put,zP,zQ,zR]
       refine last.bu [8] (i:=7) (v:=(.pointer (some ⟨J,0,none⟩))) rfl (by kernel_rfl) (by kernel_rfl) (by kernel_rfl) (by kernel_rfl) (fun _ _ _ h=>h) (Or.inl ⟨by rfl,?_⟩) (by assumption) ?_
       · intro wq ar; go_simp
       try simp only[Act.put,zP,zQ,zR]
       refine last.wpTk 8 (.int .i64 wN) rfl rfl ?_ ?_
       · intro wq ar; obtain⟨q0,q1,q2,q3⟩:=cells4 ar.1; go_simp
       try simp only[Act.put,zP,zQ,zR]
       refine last.bu [10] (i:=9) (v:=(.pointer (some ⟨gc,0,none⟩))) rfl (by kernel_rfl) (by kernel_rfl) (by kernel_rfl) (by kernel_rfl) (fun _ _ _ h=>h) (Or.inl ⟨by rfl,?_⟩) (by assumption) ?_
       · intro wq ar; go_simp
       try simp only[Act.put,zP,zQ,zR]
       refine last.an (i:=4) (o:=qO35) (by kernel_rfl) rfl (fun K hK=>?_)
       refine fV.call2 rfl 68 (.tmp 57) (.tmp 59) _ rfl (fun _ _=>rfl) (.pointer (some ⟨gc,0,none⟩)) (.int .i64 (ns:Int)) (by kernel_rfl) (by kernel_rfl) _ (cf w0 _ gc a len cap code (ns:Int) vH.cur (by omega) (by omega)) ?_
       rintro e w8 ⟨i,Ci,rfl,tC,rW⟩;refine⟨_,rfl,?_⟩;have n_:=vH.step tC rW;have ly:=vI.grown rW (fun e=>BY (Option.some.inj e))
       have E6:=E5.kept (rW.block gs E5.lt.2 (fun e=>Hf (Option.some.inj e)))
       have N8:i<sh.length:=by omega
       have gZ:(i:Int)<(ns:Int):=Ci;have xo:=th.out _ (List.getElem_mem N8);refine hK.out _ _ ?_ (fun ag=>?_)
       · exact⟨ly,E6⟩
       clear hK K af;have af:=ag;clear ag;try simp only[Act.put,zP,zQ,zR]
       refine last.bu [6] (i:=5) (v:=(.pointer (some ⟨gs,i,none⟩))) rfl (by kernel_rfl) (by kernel_rfl) (by kernel_rfl) (by kernel_rfl) (fun _ _ _ h=>h) (Or.inl ⟨by rfl,?_⟩) (by assumption) ?_
       · intro wq ar; go_simp
       try simp only[Act.put,zP,zQ,zR]
       refine last.wpTk 6 (.int .i64 sh[i]) rfl rfl ?_ ?_
       · intro wq ar; have q:=ar.2.at i N8; go_simp
       try simp only[Act.put,zP,zQ,zR]
       refine last.an (i:=10) (o:=qO36) (by kernel_rfl) rfl (fun K hK=>?_)
       refine fV.call2 rfl 125 (.tmp 65) (.const (.int .i64 5)) _ rfl (fun _ _=>rfl) (.pointer (some ⟨gc,0,none⟩)) (.int .i64 5) (by kernel_rfl) rfl _ (mI w0 _ gc a len cap code 5 n_.cur (by omega) (by omega)) ?_
       rintro e w9 ⟨b9,rfl,Uo,K4⟩;refine⟨_,rfl,?_⟩;have me:=n_.step Uo K4;have vA:=ly.grown K4 (fun e=>BY (Option.some.inj e))
       have N9:=E6.kept (K4.block gs E6.lt.2 (fun e=>Hf (Option.some.inj e)))
       refine hK.out _ _ ?_ (fun ag=>?_)
       · exact⟨vA,N9⟩
       clear hK K af;have af:=ag;clear ag;try simp only[Act.put,zP,zQ,zR]
       refine last.wpTk 11 (.bool !b9) rfl rfl ?_ ?_
       · intro wq ar; go_simp
       try simp only[Act.put,zP,zQ,zR]
       have N_:=Hid.mk' (mQ X oB [] [] (some ⟨gj,0,none⟩) jn jc la ln lc c F sh[i] wN (!b9) w9 me.ins me.dr (WalkArith.wf_i64 (by omega)) zd (by have:=me.dr.kS; omega))
       generalize sh[i]=si at *;refine last.aC (o:=qO37) (by kernel_rfl) rfl (by kernel_rfl) (fun K hK=>?_)
       refine fV.call4 rfl 131 (.tmp 5) (.tmp 62) (.tmp 64) (.tmp 67) _ rfl (fun _ _=>rfl) (.pointer (some ⟨X,0,none⟩)) (.int .i64 si) (.int .i64 wN) (.bool !b9) (by kernel_rfl) (by kernel_rfl) (by kernel_rfl) (by kernel_rfl) _ N_.out ?_
       rintro e wI ⟨rfl,m6⟩;refine⟨_,rfl,?_⟩;obtain⟨Rl,Rm,Rn,DG,DH,DI,Fz,lk⟩:=me.wrote m6 (qp me.dr);clear N_ m6 me af vA N9 n_ ly E6 vH E5 vI Cr iL hZ;refine hK.out _ _ ?_;clear hK K;go_wp2_with fail;go_roundw
       case rel=>exact⟨k - 1,_,_,_,_,_,_,_,_,by omega,by have h1:=A8.out; have h2:=sf (c:=c) (shard:=si) (tx:=wN) (yes:= !b9); omega,by go_num,lk⟩
       case measure=>simp[intOf]; omega
    · have k4:=dd.ins.box.cell 4 _ rfl;have k5:=dd.ins.box.cell 5 _ rfl;have f5:=dd.ins.box.fz 5;simp only[List.length_nil,Nat.zero_add] at k4 k5;have lk:=dd.sure;go_wp2_with fail;go_roundw
      case rel=>exact⟨k - 1,_,_,_,_,_,_,_,_,by omega,by have h1:=A8.out; have h2:=Int.le_refl (0:Int); show c.2.1+((k - 1:Nat):Int)≤1+(eR:Int); omega,by go_num,lk⟩
      case measure=>simp[intOf]; omega
    · go_wp2_with fail;refine(mI w0 _ gc a len cap code 3 dd.cur (by omega) (by omega)).mono ?_
      rintro e w6 ⟨b6,rfl,eG,du⟩;have fk:=dd.step eG du;clear dd eG du;cases b6
      · have lk:=fk;go_wp2_with fail;go_roundw
        case rel=>exact⟨k - 1,_,_,_,_,_,_,_,_,by omega,by have h1:=A8.out; have h2:=Int.le_refl (0:Int); omega,by go_num,lk⟩
        case measure=>simp[intOf]; omega
      · go_wp2_with fail;refine(cf w0 _ gc a len cap code 3 fk.cur (by omega) (by omega)).mono ?_
        rintro e w7 ⟨kp,hkp,rfl,Lp,Hf⟩;have Cr:=fk.step Lp Hf;have wE:=Hid.mk' (wX X oB [] [] ja jn jc la ln lc c F (kp:Int) w7 Cr.ins Cr.dr.ak Cr.dr.sure (by have:=Cr.dr.jB; omega) (WalkArith.wf_i64 (by omega)))
        clear fk Lp Hf;go_wp2_with fail;refine wE.out.mono ?_;rintro e w8 ⟨rfl,m6⟩;obtain⟨Rl,Rm,Rn,DG,DH,DI,F2,lk⟩:=Cr.wrote m6 (nQ Cr.dr _);clear wE m6 Cr;go_wp2_with fail;go_roundw
        case rel=>exact⟨k - 1,_,_,_,_,_,_,_,_,by omega,by have h1:=A8.out; have h2:=Ef (c:=c) (keep:=(kp:Int)); omega,by go_num,lk⟩
        case measure=>simp[intOf]; omega
  · have B8:k=0:=by omega
    subst B8;have b:=hD.ins.box;obtain⟨q0,q1,q2,q3,q4,q5⟩:=cells6 b;have bQ:=hD.rb;obtain⟨z0,z1,z2,z3,z4,z5⟩:=cells6 bQ;have f0:=bQ.fz 0;have f1:=bQ.fz 1;have f2:=bQ.fz 2;have f3:=bQ.fz 3;have f4:=bQ.fz 4;have f5:=bQ.fz 5;have hS:=bQ.whole [.int .i64 c.1,.int .i64 c.2.1,.int .i64 c.2.2.1,.slice ja jn jc,.slice la ln lc,.int .i64 c.2.2.2.2.2] rfl;obtain⟨y0,y1,y2,y3,y4,y5⟩:=cells6 hS.1;simp only[bh,Nat.zero_add,Nat.reduceAdd] at y0 y1 y2 y3 y4 y5;obtain⟨g1,g2,g3⟩:=hD.gX;have jv:=a7.br hD.ins.own hS.2 (fun j hj e=>hD.rF (by rw[←Option.some.inj e]; exact hj))
    have lr:=hD.cur.grown hS.2 (fun e=>g3 (Option.some.inj e)) (fun k e=>by cases e; exact ry)
    have qb:w.grownBy _ (some gc):=⟨hS.2.os.trans hD.fr.os,hS.2.tape.trans hD.fr.tape,hS.2.output.trans hD.fr.output,Nat.le_trans hD.fr.size hS.2.size,fun k hk aW=>(hS.2.block k (Nat.lt_of_lt_of_le hk hD.fr.size) (fun e=>by have:=Option.some.inj e; omega)).trans (hD.fr.block k hk aW)⟩
    have HP:Hid (N4 w0 w gc a len cap code eR (.returned (.agg #[.int .i64 c.1,.int .i64 c.2.1,.int .i64 c.2.2.1,.slice ja jn jc,.slice la ln lc,.int .i64 c.2.2.2.2.2])) (bh wr w.heap.size 0 [.int .i64 c.1,.int .i64 c.2.1,.int .i64 c.2.2.1,.slice ja jn jc,.slice la ln lc,.int .i64 c.2.2.2.2.2])):=⟨ja,jn,jc,la,ln,lc,c,F,hD.dr,by omega,rfl,jv,fun k hk=>hD.new k (List.mem_cons_of_mem _ hk),lr,qb⟩
    simp only[bh,Nat.zero_add,Nat.reduceAdd] at HP;clear jv lr qb hS hD b;go_wp2_with fail;refine bodyPost_ret (v:=.agg #[.int .i64 c.1,.int .i64 c.2.1,.int .i64 c.2.2.1,.slice ja jn jc,.slice la ln lc,.int .i64 c.2.2.2.2.2]) ?_ rfl HP.out;simp[results,Tryz.results92,go_sem,y0,y1,y2,y3,y4,y5]
end cos
end Go.Proofs.YtmibabclefgljaaGreat
