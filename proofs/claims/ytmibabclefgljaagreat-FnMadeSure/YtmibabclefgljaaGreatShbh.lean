/- CoDr -/
import Derived.Test.YtmibabclefgljaaGreatShbg
import Derived.Test.YtmibabclefgljaaGreatShaq
import Derived.Test.YtmibabclefgljaaGreatShar
set_option linter.unusedVariables false
set_option linter.unusedSimpArgs false
namespace Go.Proofs.YtmibabclefgljaaGreat
open Go in
abbrev qO32:Oper:={dst:=some 48,op:=Op.call {callee:=Callee.value (Operand.func 68),args:=#[Operand.tmp 44,Operand.tmp 47],argTypes:=#[51,3]},type:=3,pos:= "l11_coord.go:230",after:=#[{on:=2,ground:=Ground.data},{on:=5,ground:=Ground.data}],guard:=none}
open Go in
abbrev qO33:Oper:={dst:=some 7,op:=Op.alloc 75,type:=0,pos:= "l11_coord.go:230",after:=#[],guard:=none}
open Go in
abbrev qO34:Oper:={dst:=none,op:=Op.store 75 (Operand.tmp 7) (Operand.tmp 50),type:=0,pos:= "l11_coord.go:230",after:=#[{on:=9,ground:=Ground.data},{on:=8,ground:=Ground.data},{on:=6,ground:=Ground.chain},{on:=0,ground:=Ground.phase},{on:=1,ground:=Ground.phase},{on:=2,ground:=Ground.phase},{on:=3,ground:=Ground.phase},{on:=4,ground:=Ground.phase},{on:=5,ground:=Ground.phase},{on:=6,ground:=Ground.phase},{on:=7,ground:=Ground.phase},{on:=8,ground:=Ground.phase},{on:=9,ground:=Ground.phase}],guard:=none}
open Go in
abbrev qO35:Oper:={dst:=some 60,op:=Op.call {callee:=Callee.value (Operand.func 68),args:=#[Operand.tmp 57,Operand.tmp 59],argTypes:=#[51,3]},type:=3,pos:= "l11_coord.go:232",after:=#[{on:=1,ground:=Ground.data},{on:=3,ground:=Ground.data}],guard:=none}
open Go in
abbrev qO36:Oper:={dst:=some 66,op:=Op.call {callee:=Callee.value (Operand.func 125),args:=#[Operand.tmp 65,Operand.const (Value.int IntKind.i64 5)],argTypes:=#[51,3]},type:=4,pos:= "l11_coord.go:232",after:=#[{on:=9,ground:=Ground.data},{on:=4,ground:=Ground.chain}],guard:=none}
open Go in
abbrev qO37:Oper:={dst:=some 68,op:=Op.call {callee:=Callee.value (Operand.func 131),args:=#[Operand.tmp 5,Operand.tmp 62,Operand.tmp 64,Operand.tmp 67],argTypes:=#[66,3,3,4]},type:=0,pos:= "l11_coord.go:232",after:=#[{on:=6,ground:=Ground.data},{on:=8,ground:=Ground.data},{on:=11,ground:=Ground.data},{on:=10,ground:=Ground.chain}],guard:=none}
namespace cos
open Go Go.RowKit base aE aX lay lh draw
theorem Um(a:Option Addr)(len cap:Nat)(ff:Nat)(w:World)(hm:3≤ff)(jU:ff≤1000000)(hl:len≤1099511627776):
 Calls Tryz.prog 51 #[.slice a len cap,.int .i64 (ff:Int)] w fun e w'=>∃n:Nat,3≤n∧n≤ff∧e=.returned (.int .i64 (n:Int))∧w'=w:=by
 by_cases h:(ff:Int)<3+(len:Int) / 12
 · aj Tryz.func51,Tryz.ntmps51;bf;an;exact⟨ff,hm,Nat.le_refl _,rfl,rfl⟩
 · aj Tryz.func51,Tryz.ntmps51;bf;an;exact⟨3+len / 12,by omega,by omega,gZ (by omega),rfl⟩
abbrev oS:TypeId:=28
theorem vY{w0 w w':World}{gc:Nat}{a:Option Addr}{len cap:Nat}{code:List UInt8}{G:List Nat}(h:gY w0 w gc a len cap code)(hf:lay.Frame G w w')(hn:gc∉G)(hG:∀k∈G,w0.heap.size≤k):gY w0 w' gc a len cap code:=by
 have bn:=h.lt;obtain⟨hS,hB,xJ,sw,i,hh,Cy,Ct,pK⟩:=h;exact⟨hS,hB.trans (hf.fp hB.size hG),xJ,sw,i,hh,Cy,Ct,(hf.block gc bn hn).trans pK⟩
structure xy (w0 w wr:World) (gc:Nat) (a:Option Addr) (len cap:Nat) (code:List UInt8) (RB X:Nat) (ja:Option Addr) (jn jc:Nat) (la:Option Addr) (ln lc:Nat) (c:Co) (F:List Nat):Prop where
 cur:gY w0 wr gc a len cap code
 ins:jt wr X oS [] [] ja jn jc la ln lc c F
 dr:dg c
 new:∀k∈X::F,w.heap.size≤k
 old:gc<w.heap.size
 base:w0.heap.size≤w.heap.size
 fr:w.grownBy wr (some gc)
 rb:aD RB oS [] [.int .i64 0,.int .i64 0,.int .i64 0,.slice none 0 0,.slice none 0 0,.int .i64 0] [] wr
 rX:RB≠X
 rF:RB∉F
 rn:w.heap.size≤RB
section
variable{w0 w wr w':World}{gc:Nat}{a:Option Addr}{len cap:Nat}{code:List UInt8}{RB X:Nat}{ja la:Option Addr}{jn jc ln lc:Nat}{c c':Co}{F:List Nat}
theorem xy.gX(h:xy w0 w wr gc a len cap code RB X ja jn jc la ln lc c F):gc≠X∧gc∉F∧gc≠RB:=by
 have h1:=h.old;have h2:=h.new;have h3:=h.rn;refine⟨fun e=>?_,fun e=>?_,fun e=>?_⟩
 · have:=h2 X List.mem_cons_self; omega
 · have:=h2 gc (List.mem_cons_of_mem _ e); omega
 · omega
theorem jt.vC{k:Nat}{w w':World}(h:jt w X oS [] [] ja jn jc la ln lc c F)(hg:w.grownBy w' (some k))(h1:k≠X)(h2:k∉F):jt w' X oS [] [] ja jn jc la ln lc c F:=
 ⟨h.box.grown hg (fun e=>h1 (Option.some.inj e).symm),bp.bH h.own hg (fun j hj e=>h2 (by rw[←Option.some.inj e]; exact hj)),h.out⟩
theorem xy.step(h:xy w0 w wr gc a len cap code RB X ja jn jc la ln lc c F)(Cv:gY w0 w' gc a len cap code)(hg:wr.grownBy w' (some gc)):xy w0 w w' gc a len cap code RB X ja jn jc la ln lc c F:=by
 obtain⟨g1,g2,g3⟩:=h.gX;exact⟨Cv,h.ins.vC hg g1 g2,h.dr,h.new,h.old,h.base,az h.fr hg,h.rb.grown hg (fun e=>g3 (Option.some.inj e).symm),h.rX,h.rF,h.rn⟩
theorem xy.more(h:xy w0 w wr gc a len cap code RB X ja jn jc la ln lc c F)(hb:Below wr.heap.size wr w'):xy w0 w w' gc a len cap code RB X ja jn jc la ln lc c F:=
 ⟨h.cur.below hb,h.ins.below hb,h.dr,h.new,h.old,h.base,aZ h.fr hb,h.rb.below hb,h.rX,h.rF,h.rn⟩
theorem xy.outside{J:Nat}(h:xy w0 w wr gc a len cap code RB X ja jn jc la ln lc c F)(hg:wr.grownBy w' (some J))(hJ:w.heap.size≤J)(h1:J≠X)(h2:J∉F)(h3:J≠RB):xy w0 w w' gc a len cap code RB X ja jn jc la ln lc c F:=by
 have xJ:gc≠J:=fun e=>by have:=h.old; omega
 refine⟨h.cur.grown hg (fun e=>xJ (Option.some.inj e)) (fun k e=>by cases e; exact Nat.le_trans h.base hJ),h.ins.vC hg h1 h2,h.dr,h.new,h.old,h.base,?_,h.rb.grown hg (fun e=>h3 (Option.some.inj e).symm),h.rX,h.rF,h.rn⟩
 exact⟨hg.os.trans h.fr.os,hg.tape.trans h.fr.tape,hg.output.trans h.fr.output,Nat.le_trans h.fr.size hg.size,fun k hk bh=>(hg.block k (Nat.lt_of_lt_of_le hk h.fr.size) (fun e=>by have:=Option.some.inj e; omega)).trans (h.fr.block k hk bh)⟩
theorem xy.wrote(h:xy w0 w wr gc a len cap code RB X ja jn jc la ln lc c F)(hw:fI wr X oS [] [] F c' w')(hd:dg c'):∃ja jn jc la ln lc F',xy w0 w w' gc a len cap code RB X ja jn jc la ln lc c' F':=by
 obtain⟨g1,g2,g3⟩:=h.gX;obtain⟨H7,H8,H9,BA,BB,BC,F',h1,h2,h3⟩:=hw;have jg:=h.fr.size;have kU:∀k∈F',w.heap.size≤k:=fun k hk=>by
  rcases h3 k hk with e | e
  · exact h.new k (List.mem_cons_of_mem _ e)
  · omega
 refine⟨H7,H8,H9,BA,BB,BC,F',vY h.cur h2 (fun e=>?_) (fun k hk=>Nat.le_trans h.base (h.new k hk)),h1,hd,fun k hk=>?_,h.old,h.base,?_,h.rb.frame h2 (fun e=>?_),h.rX,fun e=>?_,h.rn⟩
 · rcases List.mem_cons.1 e with e | e
   · exact g1 e
   · exact g2 e
 · rcases List.mem_cons.1 hk with e | e
   · rw[e]; exact h.new X List.mem_cons_self
   · exact kU k e
 · exact⟨h2.os.trans h.fr.os,h2.tape.trans h.fr.tape,h2.output.trans h.fr.output,Nat.le_trans h.fr.size h2.size,fun k hk bh=>(h2.block k (Nat.lt_of_lt_of_le hk h.fr.size) (fun e=>by have:=h.new k e; omega)).trans (h.fr.block k hk bh)⟩
 · rcases List.mem_cons.1 e with e | e
   · exact h.rX e
   · exact h.rF e
 · rcases h3 RB e with e | e
   · exact h.rF e
   · have:=h.rb.lt; omega
theorem xy.lens(h:xy w0 w wr gc a len cap code RB X ja jn jc la ln lc c F):jn≤999∧ln≤1000∧jn=c.2.2.2.1.length∧ln=c.2.2.2.2.1.length:=by
 have hs:=uv (bp.eK h.ins.own);have h1:=hs.jobs.1;have h2:=hs.log.1;have:=h.dr.lq;have:=h.dr.jS;omega
theorem xy.sure(h:xy w0 w wr gc a len cap code RB X ja jn jc la ln lc c F):xy w0 w (wr.setCell ⟨X,5,none⟩ (.int .i64 (ln:Int))) gc a len cap code RB X ja jn jc la ln lc (c.1,c.2.1,c.2.2.1,c.2.2.2.1,c.2.2.2.2.1,(c.2.2.2.2.1.length:Int)) F:=by
 obtain⟨g1,g2,g3⟩:=h.gX;obtain⟨_,k0,_,k1⟩:=h.lens;have s:=h.ins.box.set 5 (by simp) (.int .i64 (ln:Int))
 simp only[List.length_nil,Nat.zero_add] at s;have hX:=h.new X List.mem_cons_self;have fH:(Lit.int .i64 (c.2.2.2.2.1.length:Int)).wf=true:=WalkArith.wf_i64 (by omega)
 have hO:=bp.bH h.ins.own s.2 (fun j hj e=>h.ins.out (by rw[←Option.some.inj e]; exact hj))
 obtain⟨vx,vy,F1,F2,e,hw,hj,hl,d_,eo⟩:=bC.1 hO;simp only[List.cons.injEq,and_true,true_and] at e;obtain⟨rfl,rfl⟩:=e;refine⟨h.cur.grown s.2 (fun e=>g1 (Option.some.inj e)) (fun k e=>by cases e; exact Nat.le_trans h.base hX),⟨by rw[←k1]; exact s.1,bC.2 ⟨_,_,F1,F2,rfl,⟨hw.n,hw.av,hw.next,fH⟩,hj,hl,d_,eo⟩,h.ins.out⟩,kf h.dr,h.new,h.old,h.base,?_,h.rb.grown s.2 (fun e=>h.rX (Option.some.inj e)),h.rX,h.rF,h.rn⟩
 exact⟨s.2.os.trans h.fr.os,s.2.tape.trans h.fr.tape,s.2.output.trans h.fr.output,Nat.le_trans h.fr.size s.2.size,fun k hk bh=>(s.2.block k (Nat.lt_of_lt_of_le hk h.fr.size) (fun e=>by have:=Option.some.inj e; omega)).trans (h.fr.block k hk bh)⟩
theorem ke{w:World}{gj jn jc:Nat}{l:List Jb}{q:dY}(h:bz 75 ek w (.slice (some ⟨gj,0,none⟩) jn jc) l q)(i:Nat)(hi:i<l.length){v0 v1 v2 v3:Value}(hv:(q[i]'(by have:=h.len; omega)).1=[v0,v1,v2,v3]):w.cell? ⟨gj,i * 4,none⟩=some v0∧w.cell? ⟨gj,i * 4+1,none⟩=some v1∧w.cell? ⟨gj,i * 4+2,none⟩=some v2∧w.cell? ⟨gj,i * 4+3,none⟩=some v3:=by
 have hc:=h.cells i hi;rw[hv] at hc;exact⟨hc 0 _ rfl,hc 1 _ rfl,hc 2 _ rfl,hc 3 _ rfl⟩
theorem sJ{w w':World}{base g n c:Nat}{l:List Od}{G:List Nat}(ho:ck w base g n c l)(hf:lay.Frame G w w')(hn:g∉G):dS w' (some ⟨g,0,none⟩) n l:=by
 have h9:=ho.mono (base':=0) (Nat.zero_le _);refine ck.sl (base:=0) ⟨h9.1,h9.2.1,qT h9.2.2 (fun k e=>?_)⟩
 have e3:g=k:=by simpa[Value.ownBlock] using e
 subst e3;exact hf.block g ho.lt.2 hn
end
def Of(w0 w:World)(gc:Nat)(a:Option Addr)(len cap:Nat)(code:List UInt8)(ff:Nat)(e:Ending)(w':World):Prop:=
 ∃(ja:Option Addr) (jn jc:Nat) (la:Option Addr) (ln lc:Nat) (c:Co) (F:List Nat),dg c∧c.2.1≤1+(ff:Int)∧e=.returned (.agg #[.int .i64 c.1,.int .i64 c.2.1,.int .i64 c.2.2.1,.slice ja jn jc,.slice la ln lc,.int .i64 c.2.2.2.2.2])∧bp.own w' [.int .i64 c.1,.int .i64 c.2.1,.int .i64 c.2.2.1,.slice ja jn jc,.slice la ln lc,.int .i64 c.2.2.2.2.2] c F∧(∀k∈F,w.heap.size≤k)∧gY w0 w' gc a len cap code∧w.grownBy w' (some gc)
set_option maxRecDepth 100000 in
set_option maxHeartbeats 20000000 in
theorem Nl(w0 w:World)(gc:Nat)(a:Option Addr)(len cap:Nat)(code:List UInt8)(ff:Nat)(h:gY w0 w gc a len cap code)(hm:0<ff)(jU:ff≤800):
 Calls Tryz.prog 92 #[.pointer (some ⟨gc,0,none⟩),.int .i64 (ff:Int)] w fun e w'=>Of w0 w gc a len cap code ff e w':=by
 have cZ:=h.lt;have rS:=h.fp.size;obtain⟨wa,jw⟩:∃wa,(w.alloc (.cells #[.int .i64 0,.int .i64 0,.int .i64 0,.slice none 0 0,.slice none 0 0,.int .i64 0] 28)).alloc (.cells #[.int .i64 3,.int .i64 2,.int .i64 1] 3)=wa:=⟨_,rfl⟩;have bw:Below w.heap.size w wa:=by rw[←jw]; exact((Below.refl _ _).alloc (Nat.le_refl _) _).alloc (by simp) _
 have Hz:wa.heap.size=w.heap.size+1+1:=by rw[←jw]; simp
 have x6:aD w.heap.size oS [] [.int .i64 0,.int .i64 0,.int .i64 0,.slice none 0 0,.slice none 0 0,.int .i64 0] [] wa:=by rw[←jw]; exact(aO w _ _).below aT
 have hLa:wa.heap[w.heap.size+1]? =some (.cells #[.int .i64 3,.int .i64 2,.int .i64 1] 3 (0,0)):=by
  rw[←jw];have:=heap_alloc_new (w.alloc (.cells #[.int .i64 0,.int .i64 0,.int .i64 0,.slice none 0 0,.slice none 0 0,.int .i64 0] 28)) (.cells #[.int .i64 3,.int .i64 2,.int .i64 1] 3);oU [show(w.alloc (.cells #[.int .i64 0,.int .i64 0,.int .i64 0,.slice none 0 0,.slice none 0 0,.int .i64 0] 28)).heap.size=w.heap.size+1 by simp] at this
 have x7:=Hid.mk' jw;have nv:=Hid.mk' (vw w0 wa gc a len cap code (w.heap.size+1) 3 3 _ _ (h.below bw) hLa rfl (by omega) (by omega) (by omega) (fun z=>decide (1≤z∧z≤3)=true) (iL _ 3 (fun z=>decide (1≤z∧z≤3)) (by aa)))
 clear jw;aj Tryz.func92,Tryz.ntmps92;ab fail;rw[x7.out];refine nv.out.mono ?_;rintro e w1 ⟨n,wM,rfl,gL,ij⟩;have hn:1≤n∧n≤3:=of_decide_eq_true wM;have pH:=x6.grown ij (fun e=>by have:=Option.some.inj e; omega)
 have E5:w.grownBy w1 (some gc):=az (aZ (World.grownBy.refl _ _) bw) ij;clear x7 nv wM;have wh:=Hid.mk' (xk n w1);have GA:D8 n=(n,1,0,[],[],0):=if_pos ⟨hn.1,by omega⟩
 rw[GA] at wh;clear GA;simp only[] at wh;ab fail;refine wh.out.mono ?_;rintro e w2 ⟨rfl,be⟩;clear wh;obtain⟨wb,nM⟩:∃wb,w2.alloc (.cells #[.int .i64 n,.int .i64 1,.int .i64 0,.slice none 0 0,.slice none 0 0,.int .i64 0] 28)=wb:=⟨_,rfl⟩;have pY:Below w2.heap.size w2 wb:=by rw[←nM]; exact aT
 have S0:aD w2.heap.size oS [] [.int .i64 n,.int .i64 1,.int .i64 0,.slice none 0 0,.slice none 0 0,.int .i64 0] [] wb:=by rw[←nM]; exact aO w2 _ _
 have dF:=(pH.below be).below pY;have ei:=(gL.below be).below pY;have oF:=aZ (aZ E5 be) pY;have pQ:=oF.size;have mg:=pH.lt;have PE:=be.size;have YU:=ij.size;have Qt:(Lit.int .i64 n).wf=true:=WalkArith.wf_i64 (by omega)
 have Lv:xy w0 w wb gc a len cap code w.heap.size w2.heap.size none 0 0 none 0 0 (n,1,0,[],[],0) []:=
  ⟨ei,⟨S0,bC.2 ⟨_,_,[],[],rfl,⟨Qt,(by decide:(Lit.int .i64 1).wf=true),(by decide:(Lit.int .i64 0).wf=true),(by decide:(Lit.int .i64 0).wf=true)⟩,lay.EA _ _ _,lay.EA _ _ _,rfl,List.nodup_nil⟩,List.not_mem_nil⟩,sB ⟨hn.1,by omega⟩,fun k hk=>by rw[List.mem_singleton.1 hk]; omega,cZ,rS,oF,dF,by omega,List.not_mem_nil,Nat.le_refl _⟩
 have NT:=Hid.mk' nM;generalize hXX:w2.heap.size=X at *;have vD:=Hid.mk' (cH w0 wb gc a len cap code (ff:Int) ei (by omega) (by omega))
 clear nM ei oF dF S0 pY be gL ij E5 pH x6 bw Hz mg PE pQ hLa YU;ab fail;rw[NT.out];refine vD.out.mono ?_;rintro e w3 ⟨y,hy,rfl,fR,kQ⟩;have L5:=Lv.step fR kQ;clear Lv fR kQ vD NT;ab fail;aN [6] (fun i wr=>∃(k:Nat) (ja:Option Addr) (jn jc:Nat) (la:Option Addr) (ln lc:Nat) (c:Co) (F:List Nat),k≤ff∧c.2.1+(k:Int)≤1+(ff:Int)∧i=.int .i64 (k:Int)∧xy w0 w wr gc a len cap code w.heap.size X ja jn jc la ln lc c F) (fun i _=>(intOf i).toNat)
 case atStart=>exact⟨y,_,_,_,_,_,_,_,_,by omega,by simp only[]; omega,rfl,L5⟩
 case round=>
  clear L5;obtain⟨k,ja,jn,jc,la,ln,lc,c,F,hk,yX,rfl,hD⟩:=hrel;by_cases bn:0<k
  · have fZ:(0:Int)<(k:Int):=by omega
    ab fail;refine(cH w0 _ gc a len cap code 8 hD.cur (by omega) (by omega)).mono ?_
    rintro e w5 ⟨z,hz,rfl,jx,ix⟩;have dw:=hD.step jx ix;clear hD jx ix;have Xk:z=0∨z=1∨z=2∨z=3∨z=4∨z=5∨z=6∨z=7:=by omega
    clear hz;obtain⟨Cw,hh3,mb,xS⟩:=dw.lens;have xU:=Hid.mk' mb;have Sw:=Hid.mk' xS;have Bm:=Hid.mk' yX;clear mb xS yX;rcases Xk with rfl | rfl | rfl | rfl | rfl | rfl | rfl | rfl
    · ab fail;refine(rB w0 _ gc a len cap code dw.cur).mono ?_;rintro e w6 ⟨g,n',cp,l,Cm,ri,rfl,en,eU,dJ⟩;have fE:=dw.step eU dJ;have xc:g∉X::F:=fun e=>by
       have h1:=en.lt.1;have h2:=dw.ins.box.lt;rcases List.mem_cons.1 e with e | e
       · omega
       · have:=bp.dK dw.ins.own g e; omega
      have mv:∀p∈l,p.2.1.size≤1099511627776:=fun p hp=>by
       have:=(gk (((bG _).1 ri).1.1 p hp)).2.2.1;omega
      have tR:=Hid.mk' (lK X oS [] [] ja jn jc la ln lc c F (some ⟨g,0,none⟩) n' cp l w6 fE.ins (fun w' hf=>sJ en hf xc) mv fE.dr.av fE.dr.next (by have:=fE.dr.lq; omega) (by have:=fE.dr.jS; omega))
      clear dw en eU dJ;ab fail;refine tR.out.mono ?_;rintro e w7 ⟨gw,mw,Ca,qw,Un,Uo,Up,Uq,Ur,Us,F',rfl,Ut,LG,Og,Oh,Ci⟩;obtain⟨Rv,Rw,Rx,DV,DW,DX,F2,lI⟩:=fE.wrote ⟨Un,Uo,Up,Uq,Ur,Us,F',Og,Oh,Ci⟩ (oR fE.dr);clear tR Ut LG Og Oh Ci fE;ab fail;aA
      case rel=>exact⟨k - 1,_,_,_,_,_,_,_,_,by omega,by have h1:=Bm.out; have h2:=qM (c:=c) (ops:=l); omega,by aF,lI⟩
      case measure=>simp[intOf]; omega
    · ab fail;refine(rB w0 _ gc a len cap code dw.cur).mono ?_;rintro e w6 ⟨g,n',cp,l,Cm,ri,rfl,en,eU,dJ⟩;have fE:=dw.step eU dJ;have xc:g∉X::F:=fun e=>by
       have h1:=en.lt.1;have h2:=dw.ins.box.lt;rcases List.mem_cons.1 e with e | e
       · omega
       · have:=bp.dK dw.ins.own g e; omega
      have mv:∀p∈l,p.2.1.size≤1099511627776:=fun p hp=>by
       have:=(gk (((bG _).1 ri).1.1 p hp)).2.2.1;omega
      have tR:=Hid.mk' (lK X oS [] [] ja jn jc la ln lc c F (some ⟨g,0,none⟩) n' cp l w6 fE.ins (fun w' hf=>sJ en hf xc) mv fE.dr.av fE.dr.next (by have:=fE.dr.lq; omega) (by have:=fE.dr.jS; omega))
      clear dw en eU dJ;ab fail;refine tR.out.mono ?_;rintro e w7 ⟨gw,mw,Ca,qw,Un,Uo,Up,Uq,Ur,Us,F',rfl,Ut,LG,Og,Oh,Ci⟩;obtain⟨Rv,Rw,Rx,DV,DW,DX,F2,lI⟩:=fE.wrote ⟨Un,Uo,Up,Uq,Ur,Us,F',Og,Oh,Ci⟩ (oR fE.dr);clear tR Ut LG Og Oh Ci fE;ab fail;aA
      case rel=>exact⟨k - 1,_,_,_,_,_,_,_,_,by omega,by have h1:=Bm.out; have h2:=qM (c:=c) (ops:=l); omega,by aF,lI⟩
      case measure=>simp[intOf]; omega
    · ab fail;refine(rB w0 _ gc a len cap code dw.cur).mono ?_;rintro e w6 ⟨g,n',cp,l,Cm,ri,rfl,en,eU,dJ⟩;have fE:=dw.step eU dJ;have xc:g∉X::F:=fun e=>by
       have h1:=en.lt.1;have h2:=dw.ins.box.lt;rcases List.mem_cons.1 e with e | e
       · omega
       · have:=bp.dK dw.ins.own g e; omega
      have mv:∀p∈l,p.2.1.size≤1099511627776:=fun p hp=>by
       have:=(gk (((bG _).1 ri).1.1 p hp)).2.2.1;omega
      have tR:=Hid.mk' (lK X oS [] [] ja jn jc la ln lc c F (some ⟨g,0,none⟩) n' cp l w6 fE.ins (fun w' hf=>sJ en hf xc) mv fE.dr.av fE.dr.next (by have:=fE.dr.lq; omega) (by have:=fE.dr.jS; omega))
      clear dw en eU dJ;ab fail;refine tR.out.mono ?_;rintro e w7 ⟨gw,mw,Ca,qw,Un,Uo,Up,Uq,Ur,Us,F',rfl,Ut,LG,Og,Oh,Ci⟩;obtain⟨Rv,Rw,Rx,DV,DW,DX,F2,lI⟩:=fE.wrote ⟨Un,Uo,Up,Uq,Ur,Us,F',Og,Oh,Ci⟩ (oR fE.dr);clear tR Ut LG Og Oh Ci fE;ab fail;aA
      case rel=>exact⟨k - 1,_,_,_,_,_,_,_,_,by omega,by have h1:=Bm.out; have h2:=qM (c:=c) (ops:=l); omega,by aF,lI⟩
      case measure=>simp[intOf]; omega
    · have k3:=dw.ins.box.cell 3 _ rfl;simp only[List.length_nil,Nat.zero_add] at k3;by_cases IP:0<jn
      cQ
      · have vE:¬(0:Int)<(jn:Int):=by omega
        have lI:=dw;ab fail;aA
        case rel=>exact⟨k - 1,_,_,_,_,_,_,_,_,by omega,by have h1:=Bm.out; have h2:=Int.le_refl (0:Int); omega,by aF,lI⟩
        case measure=>simp[intOf]; omega
      have vE:(0:Int)<(jn:Int):=by omega
      obtain⟨vx,vy,F1,F2,e,fH,hj,hl,d_,eo⟩:=bC.1 dw.ins.own;simp only[List.cons.injEq,and_true,true_and] at e;obtain⟨rfl,rfl⟩:=e;obtain⟨vj,qj,e,tn,hJ⟩:=hj;simp only[List.cons.injEq,and_true] at e;subst e;obtain⟨gj,rfl⟩:∃gj,ja=some ⟨gj,0,none⟩:=by
       rcases hJ.shape with⟨e,_⟩ | ⟨g,cp,e,_⟩
       · cases e; omega
       · cases e; exact⟨g,rfl⟩
      have yx:∀b∈(Value.slice (some ⟨gj,0,none⟩) jn jc).ownBlock.toList++aw qj,b∈F:=fun b hb=>by rw[d_,tn]; exact List.mem_append.2 (.inl hb)
      obtain⟨g1,g2,g3⟩:=dw.gX;have j5:Below w5.heap.size w5 w5.drew:=(Below.refl _ _).drew;have Cj:=dw.more j5;have sH:=hJ.below j5;have HJ:=Hid.mk' hJ;have hRn:=dw.rn;have hXn:=dw.new X List.mem_cons_self;have Ri:=dw.fr.size;have Ck:=bp.dK dw.ins.own;have Uu:=dw.ins.box.lt;have Uv:=dw.rb.lt;clear hl tn hJ;ab fail;refine last.aB (S:=fun w'=>aD X oS [] [.int .i64 c.1,.int .i64 c.2.1,.int .i64 c.2.2.1,.slice (some ⟨gj,0,none⟩) jn jc,.slice la ln lc,.int .i64 c.2.2.2.2.2] [] w'∧bz 75 ek w' (.slice (some ⟨gj,0,none⟩) jn jc) c.2.2.2.1 qj) 10 (by aa) ⟨Cj.ins.box,sH⟩ (fun al=>?_)
      generalize Ew:w5.drew=D at *;clear Ew;refine last.ae (i:=0) (v:=(.pointer (some ⟨X,3,none⟩))) rfl rfl (by aa) (by aa) (by aa) (by aa) (fun _ _ _ h=>h) (Or.inl ⟨by rfl,?_⟩) (by assumption) ?_
      · intro wq aC; af
      try simp only[Act.put,List.setIfInBounds_toArray,List.set_cons_zero,List.set_cons_succ];refine last.ae (i:=1) (v:=(.slice (some ⟨gj,0,none⟩) jn jc)) rfl rfl (by aa) (by aa) (by aa) (by aa) (fun _ _ _ h=>h) (Or.inl ⟨by rfl,?_⟩) (by assumption) ?_
      · intro wq aC; have q:=aC.1.cell 3 _ rfl; simp only[List.length_nil,Nat.zero_add] at q; af
      try simp only[Act.put,List.setIfInBounds_toArray,List.set_cons_zero,List.set_cons_succ];refine last.ae (i:=2) (v:=(.pointer (some ⟨gc,0,none⟩))) rfl rfl (by aa) (by aa) (by aa) (by aa) (fun _ _ _ h=>h) (Or.inl ⟨by rfl,?_⟩) (by assumption) ?_
      · intro wq aC; af
      try simp only[Act.put,List.setIfInBounds_toArray,List.set_cons_zero,List.set_cons_succ];refine last.ae (i:=3) (v:=(.pointer (some ⟨X,3,none⟩))) rfl rfl (by aa) (by aa) (by aa) (by aa) (fun _ _ _ h=>h) (Or.inl ⟨by rfl,?_⟩) (by assumption) ?_
      · intro wq aC; af
      try simp only[Act.put,List.setIfInBounds_toArray,List.set_cons_zero,List.set_cons_succ];refine last.ae (i:=4) (v:=(.slice (some ⟨gj,0,none⟩) jn jc)) rfl rfl (by aa) (by aa) (by aa) (by aa) (fun _ _ _ h=>h) (Or.inl ⟨by rfl,?_⟩) (by assumption) ?_
      · intro wq aC; have q:=aC.1.cell 3 _ rfl; simp only[List.length_nil,Nat.zero_add] at q; af
      try simp only[Act.put,List.setIfInBounds_toArray,List.set_cons_zero,List.set_cons_succ];refine last.ae (i:=5) (v:=(.int .i64 (jn:Int))) rfl rfl (by aa) (by aa) (by aa) (by aa) (fun _ _ _ h=>h) (Or.inl ⟨by rfl,?_⟩) (by assumption) ?_
      · intro wq aC; af
      try simp only[Act.put,List.setIfInBounds_toArray,List.set_cons_zero,List.set_cons_succ];refine last.eO (i:=6) (j:=9) (o:=qO32) (o':={dst:=some 7,op:=Op.alloc 75,type:=0,pos:= "l11_coord.go:230",after:=#[],guard:=none}) (by aa) rfl rfl (fun K hK=> ?wayA0) (fun K hK=> ?wayB0)
      case' wayA0=>
       refine gv.call2 rfl 68 (.tmp 44) (.tmp 47) _ rfl (fun _ _=>rfl) (.pointer (some ⟨gc,0,none⟩)) (.int .i64 (jn:Int)) (by aa) (by aa) _ (cH w0 _ gc a len cap code (jn:Int) Cj.cur (by omega) (by omega)) ?_
       rintro e wB ⟨j,CF,rfl,eU,dJ⟩;refine⟨_,rfl,?_⟩;have fs:=Cj.step eU dJ;have fu:=sH.keep fun b hb=>dJ.block b (sH.at_ b hb) (fun e=>g2 (by rw[←Option.some.inj e]; exact yx b hb))
       have lr:=dJ.size;have e7:j<c.2.2.2.1.length:=by have:=xU.out; omega
       have DZ:(j:Int)<(jn:Int):=CF;refine hK.out _ _ ?_ (fun aq=>?_)
       · exact⟨fs.ins.box,fu⟩
       clear hK K al;have al:=aq;clear aq;try simp only[Act.put,List.setIfInBounds_toArray,List.set_cons_zero,List.set_cons_succ];obtain⟨oa,ol,oc,ya,yl,yc,jT⟩:=fg (HJ.out.each j e7);refine last.ae (i:=7) (v:=(.pointer (some ⟨gj,j * 4,none⟩))) rfl rfl (by aa) (by aa) (by aa) (by aa) (fun _ _ _ h=>h) (Or.inl ⟨by rfl,?_⟩) (by assumption) ?_
       · intro wq aC; af
       try simp only[Act.put,List.setIfInBounds_toArray,List.set_cons_zero,List.set_cons_succ];refine last.ae (i:=8) (v:=(.agg #[.int .i64 c.2.2.2.1[j].1,.slice oa ol oc,.int .i64 c.2.2.2.1[j].2.2.1,.slice ya yl yc])) rfl rfl (by aa) (by aa) (by aa) (by aa) (fun _ _ _ h=>h) (Or.inl ⟨by rfl,?_⟩) (by assumption) ?_
       · intro wq aC; obtain⟨q0,q1,q2,q3⟩:=ke aC.2 j e7 jT; af
       try simp only[Act.put,List.setIfInBounds_toArray,List.set_cons_zero,List.set_cons_succ];refine last.ax (i:=9) (o:=qO33) (by aa) rfl (fun K hK=>?_)
       af;obtain⟨wZ,iQ⟩:∃V,wB.alloc (.cells #[.int .i64 0,.slice none 0 0,.int .i64 0,.slice none 0 0] 75)=V:=⟨_,rfl⟩;have bw:Below wB.heap.size wB wZ:=by rw[←iQ]; exact aT
       have iS:aD wB.heap.size 75 [] [.int .i64 0,.slice none 0 0,.int .i64 0,.slice none 0 0] [] wZ:=by rw[←iQ]; exact aO _ _ _
       have jK:=fs.more bw;have im:=fu.below bw;have oT:=bw.size;have vZ:=iS.lt;rw[iQ];refine hK.out _ _ ?_ (fun aq=>?_)
       · exact⟨jK.ins.box,im⟩
       clear hK K al;have al:=aq;clear aq;try simp only[Act.put,List.setIfInBounds_toArray,List.set_cons_zero,List.set_cons_succ];clear iQ;have Oi:D.heap.size≤wB.heap.size:=lr;generalize Ob:wB.heap.size=J at *;clear bw fs fu lr oT vZ eU dJ
      case' wayB0=>
       af;obtain⟨wB,gu⟩:∃V,D.alloc (.cells #[.int .i64 0,.slice none 0 0,.int .i64 0,.slice none 0 0] 75)=V:=⟨_,rfl⟩;have bw:Below D.heap.size D wB:=by rw[←gu]; exact aT
       have iS:aD D.heap.size 75 [] [.int .i64 0,.slice none 0 0,.int .i64 0,.slice none 0 0] [] wB:=by rw[←gu]; exact aO _ _ _
       have fs:=Cj.more bw;have fu:=sH.below bw;have lr:=bw.size;have vZ:=iS.lt;rw[gu];refine hK.out _ _ ?_ (fun aq=>?_)
       · exact⟨fs.ins.box,fu⟩
       clear hK K al;have al:=aq;clear aq;try simp only[Act.put,List.setIfInBounds_toArray,List.set_cons_zero,List.set_cons_succ];clear gu;refine last.ax (i:=6) (o:=qO32) (by aa) rfl (fun K hK=>?_)
       refine gv.call2 rfl 68 (.tmp 44) (.tmp 47) _ rfl (fun _ _=>rfl) (.pointer (some ⟨gc,0,none⟩)) (.int .i64 (jn:Int)) (by aa) (by aa) _ (cH w0 _ gc a len cap code (jn:Int) fs.cur (by omega) (by omega)) ?_
       rintro e wZ ⟨j,CF,rfl,eU,dJ⟩;refine⟨_,rfl,?_⟩;have jK:=fs.step eU dJ;have im:=fu.keep fun b hb=>dJ.block b (fu.at_ b hb) (fun e=>g2 (by rw[←Option.some.inj e]; exact yx b hb))
       have oT:=dJ.size;have e7:j<c.2.2.2.1.length:=by have:=xU.out; omega
       have DZ:(j:Int)<(jn:Int):=CF;refine hK.out _ _ ?_ (fun aq=>?_)
       · exact⟨jK.ins.box,im⟩
       clear hK K al;have al:=aq;clear aq;try simp only[Act.put,List.setIfInBounds_toArray,List.set_cons_zero,List.set_cons_succ];obtain⟨oa,ol,oc,ya,yl,yc,jT⟩:=fg (HJ.out.each j e7);refine last.ae (i:=7) (v:=(.pointer (some ⟨gj,j * 4,none⟩))) rfl rfl (by aa) (by aa) (by aa) (by aa) (fun _ _ _ h=>h) (Or.inl ⟨by rfl,?_⟩) (by assumption) ?_
       · intro wq aC; af
       try simp only[Act.put,List.setIfInBounds_toArray,List.set_cons_zero,List.set_cons_succ];refine last.ae (i:=8) (v:=(.agg #[.int .i64 c.2.2.2.1[j].1,.slice oa ol oc,.int .i64 c.2.2.2.1[j].2.2.1,.slice ya yl yc])) rfl rfl (by aa) (by aa) (by aa) (by aa) (fun _ _ _ h=>h) (Or.inl ⟨by rfl,?_⟩) (by assumption) ?_
       · intro wq aC; obtain⟨q0,q1,q2,q3⟩:=ke aC.2 j e7 jT; af
       try simp only[Act.put,List.setIfInBounds_toArray,List.set_cons_zero,List.set_cons_succ];replace iS:=iS.grown dJ (fun e=>by have:=Option.some.inj e; have:=dw.old; have:=j5.size; omega)
       have Oi:D.heap.size≤D.heap.size:=Nat.le_refl _;generalize Ob:D.heap.size=J at iS Oi;clear bw fs fu lr oT vZ eU dJ
      bo
       have Ld:=j5.size;have B4:w5.heap.size≤J:=by omega
       have CE:J∉F:=fun e=>by have:=Ck J e; omega
       have Qy:=iS.lt;obtain⟨z0,z1,z2,z3⟩:=cells4 iS;have f0:=iS.fz 0;have f1:=iS.fz 1;have f2:=iS.fz 2;have f3:=iS.fz 3;have hS:=iS.whole [.int .i64 c.2.2.2.1[j].1,.slice oa ol oc,.int .i64 c.2.2.2.1[j].2.2.1,.slice ya yl yc] rfl;obtain⟨U,hU⟩:∃U,bx wZ J 0 [.int .i64 c.2.2.2.1[j].1,.slice oa ol oc,.int .i64 c.2.2.2.1[j].2.2.1,.slice ya yl yc]=U:=⟨_,rfl⟩;rw[hU] at hS;simp only[bx,Nat.zero_add,Nat.reduceAdd] at hU;have HU:=Hid.mk' hU;have Cl:=jK.outside hS.2 (by omega) (by omega) CE (by omega)
       have K6:=im.keep fun b hb=>hS.2.block b (im.at_ b hb) (fun e=>CE (by rw[←Option.some.inj e]; exact yx b hb))
       have Ko:=hS.1;clear hU;refine last.aL (o:=qO34) (by aa) rfl (by aa) (fun K hK=>?_)
       af;refine hK.out _ _ ?_;clear hK K;rw[HU.out];clear z0 z1 z2 z3 f0 f1 f2 f3 hS HU iS jK im al;have zw:=Cl.dr.jobs _ (List.getElem_mem e7);have aK:=K6.each j e7;rw[jT] at aK;obtain⟨vo,Ub,e,k1,Uw,zo,Fi, -, -⟩:=dX.1 aK;simp only[List.cons.injEq,and_true,true_and] at e;obtain⟨rfl,rfl⟩:=e;have dT:dS U oa ol c.2.2.2.1[j].2.1:=(k8.1 (kB.eK (iG.2 ⟨zo,rfl⟩))).1;have xu:=(mD zw.ops);have pf:=dT.1;have wm:=Hid.mk' (eN oa ol oc c.2.2.2.1[j].2.1 c.1 U dT (by omega) fH.n)
       have tE:Hid (∀x∈aM c.1 c.2.2.2.1[j].2.1,0≤x∧x≤7):=fun x hx=>by
        obtain⟨o,_,rfl⟩:=(fw c.1 c.2.2.2.1[j].2.1 x).1 hx;have h3:=fD o.2.1 c.1;have h4:=Cl.dr.n;have:=h3.2 (by omega)
        omega
       have wh:Hid (0<(aM c.1 c.2.2.2.1[j].2.1).length):=by
        obtain⟨o,ho⟩:∃o,o∈c.2.2.2.1[j].2.1:=⟨(c.2.2.2.1[j].2.1)[0]'(by omega),List.getElem_mem _⟩
        exact List.length_pos_of_mem ((fw c.1 c.2.2.2.1[j].2.1 (bA o.2.1 c.1)).2 ⟨o,ho,rfl⟩)
       have Ux:Hid ((aM c.1 c.2.2.2.1[j].2.1).length≤8):=kK c.1 c.2.2.2.1[j].2.1 xu.2;generalize aM c.1 c.2.2.2.1[j].2.1=sh at *;obtain⟨b0,b1,b2,b3⟩:=cells4 Ko;have x0:=Cl.ins.box.cell 0 _ rfl;simp only[List.length_nil,Nat.zero_add] at x0;have xl:=Hid.mk' (And.intro B4 CE);clear aK zo Fi dT pf xu zw k3 Uw HJ jT K6 sH Cj j5 Ld yx Ck B4 CE CF;have zz:=k1;have Fj:=Hid.mk' Cl;generalize c.2.2.2.1[j].1=xg at *;generalize c.2.2.2.1[j].2.2.1=Uy at *;ab fail;refine wm.out.mono ?_;rintro e w7 ⟨gs,ns,cs,rfl,hZ,dd⟩;have CG:=Fj.out.more dd;have jd:=Ko.below dd;have YJ:=hZ.1;have UY:0<ns∧ns≤8:=by have:=wh.out; have:=Ux.out; omega
       have Le:Below w7.heap.size w7 w7.drew:=(Below.refl _ _).drew;have v8:=CG.more Le;have Fk:=(hZ.mono (base':=0) (Nat.zero_le _)).below Le;have v_:=jd.below Le;have Yq:=hZ.lt;have hU7:=dd.size;have Hr:gs≠gc:=fun e=>by have:=Fj.out.old; have:=Fj.out.fr.size; omega
       have Cf:J≠gc:=fun e=>by have:=Fj.out.old; have:=xl.out.1; omega
       clear wm b0 b1 b2 b3 x0 Cl;ab fail;refine last.aB (S:=fun w'=>aD J 75 [] [.int .i64 xg,.slice oa ol oc,.int .i64 Uy,.slice ya yl yc] [] w'∧dm w' 0 gs ns cs sh) 12 (by aa) ⟨v_,Fk⟩ (fun al=>?_)
       generalize Ew:w7.drew=D7 at *;clear Ew;refine last.bJ [5,6] (i:=0) (v:=(.slice (some ⟨gs,0,none⟩) ns cs)) rfl (by aa) (by aa) (by aa) (by aa) (fun _ _ _ h=>h) (Or.inl ⟨by rfl,?_⟩) (by assumption) ?_
       · intro wq aC; af
       try simp only[Act.put,List.setIfInBounds_toArray,List.set_cons_zero,List.set_cons_succ];refine last.bJ [4,5,6] (i:=1) (v:=(.pointer (some ⟨gc,0,none⟩))) rfl (by aa) (by aa) (by aa) (by aa) (fun _ _ _ h=>h) (Or.inl ⟨by rfl,?_⟩) (by assumption) ?_
       · intro wq aC; af
       try simp only[Act.put,List.setIfInBounds_toArray,List.set_cons_zero,List.set_cons_succ];refine last.bJ [3,4,5,6] (i:=2) (v:=(.slice (some ⟨gs,0,none⟩) ns cs)) rfl (by aa) (by aa) (by aa) (by aa) (fun _ _ _ h=>h) (Or.inl ⟨by rfl,?_⟩) (by assumption) ?_
       · intro wq aC; af
       try simp only[Act.put,List.setIfInBounds_toArray,List.set_cons_zero,List.set_cons_succ];refine last.bJ [4,5,6] (i:=3) (v:=(.int .i64 (ns:Int))) rfl (by aa) (by aa) (by aa) (by aa) (fun _ _ _ h=>h) (Or.inl ⟨by rfl,?_⟩) (by assumption) ?_
       · intro wq aC; af
       try simp only[Act.put,List.setIfInBounds_toArray,List.set_cons_zero,List.set_cons_succ];refine last.bJ [8] (i:=7) (v:=(.pointer (some ⟨J,0,none⟩))) rfl (by aa) (by aa) (by aa) (by aa) (fun _ _ _ h=>h) (Or.inl ⟨by rfl,?_⟩) (by assumption) ?_
       · intro wq aC; af
       try simp only[Act.put,List.setIfInBounds_toArray,List.set_cons_zero,List.set_cons_succ];refine last.ae (i:=8) (v:=(.int .i64 xg)) rfl rfl (by aa) (by aa) (by aa) (by aa) (fun _ _ _ h=>h) (Or.inl ⟨by rfl,?_⟩) (by assumption) ?_
       · intro wq aC; obtain⟨q0,q1,q2,q3⟩:=cells4 aC.1; af
       try simp only[Act.put,List.setIfInBounds_toArray,List.set_cons_zero,List.set_cons_succ];refine last.bJ [10] (i:=9) (v:=(.pointer (some ⟨gc,0,none⟩))) rfl (by aa) (by aa) (by aa) (by aa) (fun _ _ _ h=>h) (Or.inl ⟨by rfl,?_⟩) (by assumption) ?_
       · intro wq aC; af
       try simp only[Act.put,List.setIfInBounds_toArray,List.set_cons_zero,List.set_cons_succ];refine last.ax (i:=4) (o:=qO35) (by aa) rfl (fun K hK=>?_)
       refine gv.call2 rfl 68 (.tmp 57) (.tmp 59) _ rfl (fun _ _=>rfl) (.pointer (some ⟨gc,0,none⟩)) (.int .i64 (ns:Int)) (by aa) (by aa) _ (cH w0 _ gc a len cap code (ns:Int) v8.cur (by omega) (by omega)) ?_
       rintro e w8 ⟨i,Cy,rfl,tV,sy⟩;refine⟨_,rfl,?_⟩;have oG:=v8.step tV sy;have lQ:=v_.grown sy (fun e=>Cf (Option.some.inj e))
       have Fl:=Fk.kept (sy.block gs Fk.lt.2 (fun e=>Hr (Option.some.inj e)))
       have Oj:i<sh.length:=by omega
       have iw:(i:Int)<(ns:Int):=Cy;have xK:=tE.out _ (List.getElem_mem Oj);refine hK.out _ _ ?_ (fun aq=>?_)
       · exact⟨lQ,Fl⟩
       clear hK K al;have al:=aq;clear aq;try simp only[Act.put,List.setIfInBounds_toArray,List.set_cons_zero,List.set_cons_succ];refine last.bJ [6] (i:=5) (v:=(.pointer (some ⟨gs,i,none⟩))) rfl (by aa) (by aa) (by aa) (by aa) (fun _ _ _ h=>h) (Or.inl ⟨by rfl,?_⟩) (by assumption) ?_
       · intro wq aC; af
       try simp only[Act.put,List.setIfInBounds_toArray,List.set_cons_zero,List.set_cons_succ];refine last.ae (i:=6) (v:=(.int .i64 sh[i])) rfl rfl (by aa) (by aa) (by aa) (by aa) (fun _ _ _ h=>h) (Or.inl ⟨by rfl,?_⟩) (by assumption) ?_
       · intro wq aC; have q:=aC.2.at i Oj; af
       try simp only[Act.put,List.setIfInBounds_toArray,List.set_cons_zero,List.set_cons_succ];refine last.ax (i:=10) (o:=qO36) (by aa) rfl (fun K hK=>?_)
       refine gv.call2 rfl 125 (.tmp 65) (.const (.int .i64 5)) _ rfl (fun _ _=>rfl) (.pointer (some ⟨gc,0,none⟩)) (.int .i64 5) (by aa) rfl _ (mZ w0 _ gc a len cap code 5 oG.cur (by omega) (by omega)) ?_
       rintro e w9 ⟨b9,rfl,Uz,Lf⟩;refine⟨_,rfl,?_⟩;have mE:=oG.step Uz Lf;have vT:=lQ.grown Lf (fun e=>Cf (Option.some.inj e))
       have Ol:=Fl.kept (Lf.block gs Fl.lt.2 (fun e=>Hr (Option.some.inj e)))
       refine hK.out _ _ ?_ (fun aq=>?_)
       · exact⟨vT,Ol⟩
       clear hK K al;have al:=aq;clear aq;try simp only[Act.put,List.setIfInBounds_toArray,List.set_cons_zero,List.set_cons_succ];refine last.ae (i:=11) (v:=(.bool !b9)) rfl rfl (by aa) (by aa) (by aa) (by aa) (fun _ _ _ h=>h) (Or.inl ⟨by rfl,?_⟩) (by assumption) ?_
       · intro wq aC; af
       try simp only[Act.put,List.setIfInBounds_toArray,List.set_cons_zero,List.set_cons_succ];have Om:=Hid.mk' (ng X oS [] [] (some ⟨gj,0,none⟩) jn jc la ln lc c F sh[i] xg (!b9) w9 mE.ins mE.dr (WalkArith.wf_i64 (by omega)) zz (by have:=mE.dr.lq; omega))
       generalize sh[i]=si at *;refine last.aL (o:=qO37) (by aa) rfl (by aa) (fun K hK=>?_)
       refine gv.call4 rfl 131 (.tmp 5) (.tmp 62) (.tmp 64) (.tmp 67) _ rfl (fun _ _=>rfl) (.pointer (some ⟨X,0,none⟩)) (.int .i64 si) (.int .i64 xg) (.bool !b9) (by aa) (by aa) (by aa) (by aa) _ Om.out ?_
       rintro e xa ⟨rfl,nA⟩;refine⟨_,rfl,?_⟩;obtain⟨Rv,Rw,Rx,DV,DW,DX,Fz,lI⟩:=mE.wrote nA (qK mE.dr);clear Om nA mE al vT Ol oG lQ Fl v8 Fk v_ CG jd hZ;refine hK.out _ _ ?_;clear hK K;ab fail;aA
       case rel=>exact⟨k - 1,_,_,_,_,_,_,_,_,by omega,by have h1:=Bm.out; have h2:=sI (c:=c) (shard:=si) (tx:=xg) (yes:= !b9); omega,by aF,lI⟩
       case measure=>simp[intOf]; omega
    · have k3:=dw.ins.box.cell 3 _ rfl;simp only[List.length_nil,Nat.zero_add] at k3;by_cases IP:0<jn
      cQ
      · have vE:¬(0:Int)<(jn:Int):=by omega
        have lI:=dw;ab fail;aA
        case rel=>exact⟨k - 1,_,_,_,_,_,_,_,_,by omega,by have h1:=Bm.out; have h2:=Int.le_refl (0:Int); omega,by aF,lI⟩
        case measure=>simp[intOf]; omega
      have vE:(0:Int)<(jn:Int):=by omega
      obtain⟨vx,vy,F1,F2,e,fH,hj,hl,d_,eo⟩:=bC.1 dw.ins.own;simp only[List.cons.injEq,and_true,true_and] at e;obtain⟨rfl,rfl⟩:=e;obtain⟨vj,qj,e,tn,hJ⟩:=hj;simp only[List.cons.injEq,and_true] at e;subst e;obtain⟨gj,rfl⟩:∃gj,ja=some ⟨gj,0,none⟩:=by
       rcases hJ.shape with⟨e,_⟩ | ⟨g,cp,e,_⟩
       · cases e; omega
       · cases e; exact⟨g,rfl⟩
      have yx:∀b∈(Value.slice (some ⟨gj,0,none⟩) jn jc).ownBlock.toList++aw qj,b∈F:=fun b hb=>by rw[d_,tn]; exact List.mem_append.2 (.inl hb)
      obtain⟨g1,g2,g3⟩:=dw.gX;have j5:Below w5.heap.size w5 w5.drew:=(Below.refl _ _).drew;have Cj:=dw.more j5;have sH:=hJ.below j5;have HJ:=Hid.mk' hJ;have hRn:=dw.rn;have hXn:=dw.new X List.mem_cons_self;have Ri:=dw.fr.size;have Ck:=bp.dK dw.ins.own;have Uu:=dw.ins.box.lt;have Uv:=dw.rb.lt;clear hl tn hJ;ab fail;refine last.aB (S:=fun w'=>aD X oS [] [.int .i64 c.1,.int .i64 c.2.1,.int .i64 c.2.2.1,.slice (some ⟨gj,0,none⟩) jn jc,.slice la ln lc,.int .i64 c.2.2.2.2.2] [] w'∧bz 75 ek w' (.slice (some ⟨gj,0,none⟩) jn jc) c.2.2.2.1 qj) 10 (by aa) ⟨Cj.ins.box,sH⟩ (fun al=>?_)
      generalize Ew:w5.drew=D at *;clear Ew;refine last.ae (i:=0) (v:=(.pointer (some ⟨X,3,none⟩))) rfl rfl (by aa) (by aa) (by aa) (by aa) (fun _ _ _ h=>h) (Or.inl ⟨by rfl,?_⟩) (by assumption) ?_
      · intro wq aC; af
      try simp only[Act.put,List.setIfInBounds_toArray,List.set_cons_zero,List.set_cons_succ];refine last.ae (i:=1) (v:=(.slice (some ⟨gj,0,none⟩) jn jc)) rfl rfl (by aa) (by aa) (by aa) (by aa) (fun _ _ _ h=>h) (Or.inl ⟨by rfl,?_⟩) (by assumption) ?_
      · intro wq aC; have q:=aC.1.cell 3 _ rfl; simp only[List.length_nil,Nat.zero_add] at q; af
      try simp only[Act.put,List.setIfInBounds_toArray,List.set_cons_zero,List.set_cons_succ];refine last.ae (i:=2) (v:=(.pointer (some ⟨gc,0,none⟩))) rfl rfl (by aa) (by aa) (by aa) (by aa) (fun _ _ _ h=>h) (Or.inl ⟨by rfl,?_⟩) (by assumption) ?_
      · intro wq aC; af
      try simp only[Act.put,List.setIfInBounds_toArray,List.set_cons_zero,List.set_cons_succ];refine last.ae (i:=3) (v:=(.pointer (some ⟨X,3,none⟩))) rfl rfl (by aa) (by aa) (by aa) (by aa) (fun _ _ _ h=>h) (Or.inl ⟨by rfl,?_⟩) (by assumption) ?_
      · intro wq aC; af
      try simp only[Act.put,List.setIfInBounds_toArray,List.set_cons_zero,List.set_cons_succ];refine last.ae (i:=4) (v:=(.slice (some ⟨gj,0,none⟩) jn jc)) rfl rfl (by aa) (by aa) (by aa) (by aa) (fun _ _ _ h=>h) (Or.inl ⟨by rfl,?_⟩) (by assumption) ?_
      · intro wq aC; have q:=aC.1.cell 3 _ rfl; simp only[List.length_nil,Nat.zero_add] at q; af
      try simp only[Act.put,List.setIfInBounds_toArray,List.set_cons_zero,List.set_cons_succ];refine last.ae (i:=5) (v:=(.int .i64 (jn:Int))) rfl rfl (by aa) (by aa) (by aa) (by aa) (fun _ _ _ h=>h) (Or.inl ⟨by rfl,?_⟩) (by assumption) ?_
      · intro wq aC; af
      try simp only[Act.put,List.setIfInBounds_toArray,List.set_cons_zero,List.set_cons_succ];refine last.eO (i:=6) (j:=9) (o:=qO32) (o':={dst:=some 7,op:=Op.alloc 75,type:=0,pos:= "l11_coord.go:230",after:=#[],guard:=none}) (by aa) rfl rfl (fun K hK=> ?wayA1) (fun K hK=> ?wayB1)
      case' wayA1=>
       refine gv.call2 rfl 68 (.tmp 44) (.tmp 47) _ rfl (fun _ _=>rfl) (.pointer (some ⟨gc,0,none⟩)) (.int .i64 (jn:Int)) (by aa) (by aa) _ (cH w0 _ gc a len cap code (jn:Int) Cj.cur (by omega) (by omega)) ?_
       rintro e wB ⟨j,CF,rfl,eU,dJ⟩;refine⟨_,rfl,?_⟩;have fs:=Cj.step eU dJ;have fu:=sH.keep fun b hb=>dJ.block b (sH.at_ b hb) (fun e=>g2 (by rw[←Option.some.inj e]; exact yx b hb))
       have lr:=dJ.size;have e7:j<c.2.2.2.1.length:=by have:=xU.out; omega
       have DZ:(j:Int)<(jn:Int):=CF;refine hK.out _ _ ?_ (fun aq=>?_)
       · exact⟨fs.ins.box,fu⟩
       clear hK K al;have al:=aq;clear aq;try simp only[Act.put,List.setIfInBounds_toArray,List.set_cons_zero,List.set_cons_succ];obtain⟨oa,ol,oc,ya,yl,yc,jT⟩:=fg (HJ.out.each j e7);refine last.ae (i:=7) (v:=(.pointer (some ⟨gj,j * 4,none⟩))) rfl rfl (by aa) (by aa) (by aa) (by aa) (fun _ _ _ h=>h) (Or.inl ⟨by rfl,?_⟩) (by assumption) ?_
       · intro wq aC; af
       try simp only[Act.put,List.setIfInBounds_toArray,List.set_cons_zero,List.set_cons_succ];refine last.ae (i:=8) (v:=(.agg #[.int .i64 c.2.2.2.1[j].1,.slice oa ol oc,.int .i64 c.2.2.2.1[j].2.2.1,.slice ya yl yc])) rfl rfl (by aa) (by aa) (by aa) (by aa) (fun _ _ _ h=>h) (Or.inl ⟨by rfl,?_⟩) (by assumption) ?_
       · intro wq aC; obtain⟨q0,q1,q2,q3⟩:=ke aC.2 j e7 jT; af
       try simp only[Act.put,List.setIfInBounds_toArray,List.set_cons_zero,List.set_cons_succ];refine last.ax (i:=9) (o:=qO33) (by aa) rfl (fun K hK=>?_)
       af;obtain⟨wZ,iQ⟩:∃V,wB.alloc (.cells #[.int .i64 0,.slice none 0 0,.int .i64 0,.slice none 0 0] 75)=V:=⟨_,rfl⟩;have bw:Below wB.heap.size wB wZ:=by rw[←iQ]; exact aT
       have iS:aD wB.heap.size 75 [] [.int .i64 0,.slice none 0 0,.int .i64 0,.slice none 0 0] [] wZ:=by rw[←iQ]; exact aO _ _ _
       have jK:=fs.more bw;have im:=fu.below bw;have oT:=bw.size;have vZ:=iS.lt;rw[iQ];refine hK.out _ _ ?_ (fun aq=>?_)
       · exact⟨jK.ins.box,im⟩
       clear hK K al;have al:=aq;clear aq;try simp only[Act.put,List.setIfInBounds_toArray,List.set_cons_zero,List.set_cons_succ];clear iQ;have Oi:D.heap.size≤wB.heap.size:=lr;generalize Ob:wB.heap.size=J at *;clear bw fs fu lr oT vZ eU dJ
      case' wayB1=>
       af;obtain⟨wB,gu⟩:∃V,D.alloc (.cells #[.int .i64 0,.slice none 0 0,.int .i64 0,.slice none 0 0] 75)=V:=⟨_,rfl⟩;have bw:Below D.heap.size D wB:=by rw[←gu]; exact aT
       have iS:aD D.heap.size 75 [] [.int .i64 0,.slice none 0 0,.int .i64 0,.slice none 0 0] [] wB:=by rw[←gu]; exact aO _ _ _
       have fs:=Cj.more bw;have fu:=sH.below bw;have lr:=bw.size;have vZ:=iS.lt;rw[gu];refine hK.out _ _ ?_ (fun aq=>?_)
       · exact⟨fs.ins.box,fu⟩
       clear hK K al;have al:=aq;clear aq;try simp only[Act.put,List.setIfInBounds_toArray,List.set_cons_zero,List.set_cons_succ];clear gu;refine last.ax (i:=6) (o:=qO32) (by aa) rfl (fun K hK=>?_)
       refine gv.call2 rfl 68 (.tmp 44) (.tmp 47) _ rfl (fun _ _=>rfl) (.pointer (some ⟨gc,0,none⟩)) (.int .i64 (jn:Int)) (by aa) (by aa) _ (cH w0 _ gc a len cap code (jn:Int) fs.cur (by omega) (by omega)) ?_
       rintro e wZ ⟨j,CF,rfl,eU,dJ⟩;refine⟨_,rfl,?_⟩;have jK:=fs.step eU dJ;have im:=fu.keep fun b hb=>dJ.block b (fu.at_ b hb) (fun e=>g2 (by rw[←Option.some.inj e]; exact yx b hb))
       have oT:=dJ.size;have e7:j<c.2.2.2.1.length:=by have:=xU.out; omega
       have DZ:(j:Int)<(jn:Int):=CF;refine hK.out _ _ ?_ (fun aq=>?_)
       · exact⟨jK.ins.box,im⟩
       clear hK K al;have al:=aq;clear aq;try simp only[Act.put,List.setIfInBounds_toArray,List.set_cons_zero,List.set_cons_succ];obtain⟨oa,ol,oc,ya,yl,yc,jT⟩:=fg (HJ.out.each j e7);refine last.ae (i:=7) (v:=(.pointer (some ⟨gj,j * 4,none⟩))) rfl rfl (by aa) (by aa) (by aa) (by aa) (fun _ _ _ h=>h) (Or.inl ⟨by rfl,?_⟩) (by assumption) ?_
       · intro wq aC; af
       try simp only[Act.put,List.setIfInBounds_toArray,List.set_cons_zero,List.set_cons_succ];refine last.ae (i:=8) (v:=(.agg #[.int .i64 c.2.2.2.1[j].1,.slice oa ol oc,.int .i64 c.2.2.2.1[j].2.2.1,.slice ya yl yc])) rfl rfl (by aa) (by aa) (by aa) (by aa) (fun _ _ _ h=>h) (Or.inl ⟨by rfl,?_⟩) (by assumption) ?_
       · intro wq aC; obtain⟨q0,q1,q2,q3⟩:=ke aC.2 j e7 jT; af
       try simp only[Act.put,List.setIfInBounds_toArray,List.set_cons_zero,List.set_cons_succ];replace iS:=iS.grown dJ (fun e=>by have:=Option.some.inj e; have:=dw.old; have:=j5.size; omega)
       have Oi:D.heap.size≤D.heap.size:=Nat.le_refl _;generalize Ob:D.heap.size=J at iS Oi;clear bw fs fu lr oT vZ eU dJ
      bo
       have Ld:=j5.size;have B4:w5.heap.size≤J:=by omega
       have CE:J∉F:=fun e=>by have:=Ck J e; omega
       have Qy:=iS.lt;obtain⟨z0,z1,z2,z3⟩:=cells4 iS;have f0:=iS.fz 0;have f1:=iS.fz 1;have f2:=iS.fz 2;have f3:=iS.fz 3;have hS:=iS.whole [.int .i64 c.2.2.2.1[j].1,.slice oa ol oc,.int .i64 c.2.2.2.1[j].2.2.1,.slice ya yl yc] rfl;obtain⟨U,hU⟩:∃U,bx wZ J 0 [.int .i64 c.2.2.2.1[j].1,.slice oa ol oc,.int .i64 c.2.2.2.1[j].2.2.1,.slice ya yl yc]=U:=⟨_,rfl⟩;rw[hU] at hS;simp only[bx,Nat.zero_add,Nat.reduceAdd] at hU;have HU:=Hid.mk' hU;have Cl:=jK.outside hS.2 (by omega) (by omega) CE (by omega)
       have K6:=im.keep fun b hb=>hS.2.block b (im.at_ b hb) (fun e=>CE (by rw[←Option.some.inj e]; exact yx b hb))
       have Ko:=hS.1;clear hU;refine last.aL (o:=qO34) (by aa) rfl (by aa) (fun K hK=>?_)
       af;refine hK.out _ _ ?_;clear hK K;rw[HU.out];clear z0 z1 z2 z3 f0 f1 f2 f3 hS HU iS jK im al;have zw:=Cl.dr.jobs _ (List.getElem_mem e7);have aK:=K6.each j e7;rw[jT] at aK;obtain⟨vo,Ub,e,k1,Uw,zo,Fi, -, -⟩:=dX.1 aK;simp only[List.cons.injEq,and_true,true_and] at e;obtain⟨rfl,rfl⟩:=e;have dT:dS U oa ol c.2.2.2.1[j].2.1:=(k8.1 (kB.eK (iG.2 ⟨zo,rfl⟩))).1;have xu:=(mD zw.ops);have pf:=dT.1;have wm:=Hid.mk' (eN oa ol oc c.2.2.2.1[j].2.1 c.1 U dT (by omega) fH.n)
       have tE:Hid (∀x∈aM c.1 c.2.2.2.1[j].2.1,0≤x∧x≤7):=fun x hx=>by
        obtain⟨o,_,rfl⟩:=(fw c.1 c.2.2.2.1[j].2.1 x).1 hx;have h3:=fD o.2.1 c.1;have h4:=Cl.dr.n;have:=h3.2 (by omega)
        omega
       have wh:Hid (0<(aM c.1 c.2.2.2.1[j].2.1).length):=by
        obtain⟨o,ho⟩:∃o,o∈c.2.2.2.1[j].2.1:=⟨(c.2.2.2.1[j].2.1)[0]'(by omega),List.getElem_mem _⟩
        exact List.length_pos_of_mem ((fw c.1 c.2.2.2.1[j].2.1 (bA o.2.1 c.1)).2 ⟨o,ho,rfl⟩)
       have Ux:Hid ((aM c.1 c.2.2.2.1[j].2.1).length≤8):=kK c.1 c.2.2.2.1[j].2.1 xu.2;generalize aM c.1 c.2.2.2.1[j].2.1=sh at *;obtain⟨b0,b1,b2,b3⟩:=cells4 Ko;have x0:=Cl.ins.box.cell 0 _ rfl;simp only[List.length_nil,Nat.zero_add] at x0;have xl:=Hid.mk' (And.intro B4 CE);clear aK zo Fi dT pf xu zw k3 Uw HJ jT K6 sH Cj j5 Ld yx Ck B4 CE CF;have zz:=k1;have Fj:=Hid.mk' Cl;generalize c.2.2.2.1[j].1=xg at *;generalize c.2.2.2.1[j].2.2.1=Uy at *;ab fail;refine wm.out.mono ?_;rintro e w7 ⟨gs,ns,cs,rfl,hZ,dd⟩;have CG:=Fj.out.more dd;have jd:=Ko.below dd;have YJ:=hZ.1;have UY:0<ns∧ns≤8:=by have:=wh.out; have:=Ux.out; omega
       have Le:Below w7.heap.size w7 w7.drew:=(Below.refl _ _).drew;have v8:=CG.more Le;have Fk:=(hZ.mono (base':=0) (Nat.zero_le _)).below Le;have v_:=jd.below Le;have Yq:=hZ.lt;have hU7:=dd.size;have Hr:gs≠gc:=fun e=>by have:=Fj.out.old; have:=Fj.out.fr.size; omega
       have Cf:J≠gc:=fun e=>by have:=Fj.out.old; have:=xl.out.1; omega
       clear wm b0 b1 b2 b3 x0 Cl;ab fail;refine last.aB (S:=fun w'=>aD J 75 [] [.int .i64 xg,.slice oa ol oc,.int .i64 Uy,.slice ya yl yc] [] w'∧dm w' 0 gs ns cs sh) 12 (by aa) ⟨v_,Fk⟩ (fun al=>?_)
       generalize Ew:w7.drew=D7 at *;clear Ew;refine last.bJ [5,6] (i:=0) (v:=(.slice (some ⟨gs,0,none⟩) ns cs)) rfl (by aa) (by aa) (by aa) (by aa) (fun _ _ _ h=>h) (Or.inl ⟨by rfl,?_⟩) (by assumption) ?_
       · intro wq aC; af
       try simp only[Act.put,List.setIfInBounds_toArray,List.set_cons_zero,List.set_cons_succ];refine last.bJ [4,5,6] (i:=1) (v:=(.pointer (some ⟨gc,0,none⟩))) rfl (by aa) (by aa) (by aa) (by aa) (fun _ _ _ h=>h) (Or.inl ⟨by rfl,?_⟩) (by assumption) ?_
       · intro wq aC; af
       try simp only[Act.put,List.setIfInBounds_toArray,List.set_cons_zero,List.set_cons_succ];refine last.bJ [3,4,5,6] (i:=2) (v:=(.slice (some ⟨gs,0,none⟩) ns cs)) rfl (by aa) (by aa) (by aa) (by aa) (fun _ _ _ h=>h) (Or.inl ⟨by rfl,?_⟩) (by assumption) ?_
       · intro wq aC; af
       try simp only[Act.put,List.setIfInBounds_toArray,List.set_cons_zero,List.set_cons_succ];refine last.bJ [4,5,6] (i:=3) (v:=(.int .i64 (ns:Int))) rfl (by aa) (by aa) (by aa) (by aa) (fun _ _ _ h=>h) (Or.inl ⟨by rfl,?_⟩) (by assumption) ?_
       · intro wq aC; af
       try simp only[Act.put,List.setIfInBounds_toArray,List.set_cons_zero,List.set_cons_succ];refine last.bJ [8] (i:=7) (v:=(.pointer (some ⟨J,0,none⟩))) rfl (by aa) (by aa) (by aa) (by aa) (fun _ _ _ h=>h) (Or.inl ⟨by rfl,?_⟩) (by assumption) ?_
       · intro wq aC; af
       try simp only[Act.put,List.setIfInBounds_toArray,List.set_cons_zero,List.set_cons_succ];refine last.ae (i:=8) (v:=(.int .i64 xg)) rfl rfl (by aa) (by aa) (by aa) (by aa) (fun _ _ _ h=>h) (Or.inl ⟨by rfl,?_⟩) (by assumption) ?_
       · intro wq aC; obtain⟨q0,q1,q2,q3⟩:=cells4 aC.1; af
       try simp only[Act.put,List.setIfInBounds_toArray,List.set_cons_zero,List.set_cons_succ];refine last.bJ [10] (i:=9) (v:=(.pointer (some ⟨gc,0,none⟩))) rfl (by aa) (by aa) (by aa) (by aa) (fun _ _ _ h=>h) (Or.inl ⟨by rfl,?_⟩) (by assumption) ?_
       · intro wq aC; af
       try simp only[Act.put,List.setIfInBounds_toArray,List.set_cons_zero,List.set_cons_succ];refine last.ax (i:=4) (o:=qO35) (by aa) rfl (fun K hK=>?_)
       refine gv.call2 rfl 68 (.tmp 57) (.tmp 59) _ rfl (fun _ _=>rfl) (.pointer (some ⟨gc,0,none⟩)) (.int .i64 (ns:Int)) (by aa) (by aa) _ (cH w0 _ gc a len cap code (ns:Int) v8.cur (by omega) (by omega)) ?_
       rintro e w8 ⟨i,Cy,rfl,tV,sy⟩;refine⟨_,rfl,?_⟩;have oG:=v8.step tV sy;have lQ:=v_.grown sy (fun e=>Cf (Option.some.inj e))
       have Fl:=Fk.kept (sy.block gs Fk.lt.2 (fun e=>Hr (Option.some.inj e)))
       have Oj:i<sh.length:=by omega
       have iw:(i:Int)<(ns:Int):=Cy;have xK:=tE.out _ (List.getElem_mem Oj);refine hK.out _ _ ?_ (fun aq=>?_)
       · exact⟨lQ,Fl⟩
       clear hK K al;have al:=aq;clear aq;try simp only[Act.put,List.setIfInBounds_toArray,List.set_cons_zero,List.set_cons_succ];refine last.bJ [6] (i:=5) (v:=(.pointer (some ⟨gs,i,none⟩))) rfl (by aa) (by aa) (by aa) (by aa) (fun _ _ _ h=>h) (Or.inl ⟨by rfl,?_⟩) (by assumption) ?_
       · intro wq aC; af
       try simp only[Act.put,List.setIfInBounds_toArray,List.set_cons_zero,List.set_cons_succ];refine last.ae (i:=6) (v:=(.int .i64 sh[i])) rfl rfl (by aa) (by aa) (by aa) (by aa) (fun _ _ _ h=>h) (Or.inl ⟨by rfl,?_⟩) (by assumption) ?_
       · intro wq aC; have q:=aC.2.at i Oj; af
       try simp only[Act.put,List.setIfInBounds_toArray,List.set_cons_zero,List.set_cons_succ];refine last.ax (i:=10) (o:=qO36) (by aa) rfl (fun K hK=>?_)
       refine gv.call2 rfl 125 (.tmp 65) (.const (.int .i64 5)) _ rfl (fun _ _=>rfl) (.pointer (some ⟨gc,0,none⟩)) (.int .i64 5) (by aa) rfl _ (mZ w0 _ gc a len cap code 5 oG.cur (by omega) (by omega)) ?_
       rintro e w9 ⟨b9,rfl,Uz,Lf⟩;refine⟨_,rfl,?_⟩;have mE:=oG.step Uz Lf;have vT:=lQ.grown Lf (fun e=>Cf (Option.some.inj e))
       have Ol:=Fl.kept (Lf.block gs Fl.lt.2 (fun e=>Hr (Option.some.inj e)))
       refine hK.out _ _ ?_ (fun aq=>?_)
       · exact⟨vT,Ol⟩
       clear hK K al;have al:=aq;clear aq;try simp only[Act.put,List.setIfInBounds_toArray,List.set_cons_zero,List.set_cons_succ];refine last.ae (i:=11) (v:=(.bool !b9)) rfl rfl (by aa) (by aa) (by aa) (by aa) (fun _ _ _ h=>h) (Or.inl ⟨by rfl,?_⟩) (by assumption) ?_
       · intro wq aC; af
       try simp only[Act.put,List.setIfInBounds_toArray,List.set_cons_zero,List.set_cons_succ];have Om:=Hid.mk' (ng X oS [] [] (some ⟨gj,0,none⟩) jn jc la ln lc c F sh[i] xg (!b9) w9 mE.ins mE.dr (WalkArith.wf_i64 (by omega)) zz (by have:=mE.dr.lq; omega))
       generalize sh[i]=si at *;refine last.aL (o:=qO37) (by aa) rfl (by aa) (fun K hK=>?_)
       refine gv.call4 rfl 131 (.tmp 5) (.tmp 62) (.tmp 64) (.tmp 67) _ rfl (fun _ _=>rfl) (.pointer (some ⟨X,0,none⟩)) (.int .i64 si) (.int .i64 xg) (.bool !b9) (by aa) (by aa) (by aa) (by aa) _ Om.out ?_
       rintro e xa ⟨rfl,nA⟩;refine⟨_,rfl,?_⟩;obtain⟨Rv,Rw,Rx,DV,DW,DX,Fz,lI⟩:=mE.wrote nA (qK mE.dr);clear Om nA mE al vT Ol oG lQ Fl v8 Fk v_ CG jd hZ;refine hK.out _ _ ?_;clear hK K;ab fail;aA
       case rel=>exact⟨k - 1,_,_,_,_,_,_,_,_,by omega,by have h1:=Bm.out; have h2:=sI (c:=c) (shard:=si) (tx:=xg) (yes:= !b9); omega,by aF,lI⟩
       case measure=>simp[intOf]; omega
    · have k3:=dw.ins.box.cell 3 _ rfl;simp only[List.length_nil,Nat.zero_add] at k3;by_cases IP:0<jn
      cQ
      · have vE:¬(0:Int)<(jn:Int):=by omega
        have lI:=dw;ab fail;aA
        case rel=>exact⟨k - 1,_,_,_,_,_,_,_,_,by omega,by have h1:=Bm.out; have h2:=Int.le_refl (0:Int); omega,by aF,lI⟩
        case measure=>simp[intOf]; omega
      have vE:(0:Int)<(jn:Int):=by omega
      obtain⟨vx,vy,F1,F2,e,fH,hj,hl,d_,eo⟩:=bC.1 dw.ins.own;simp only[List.cons.injEq,and_true,true_and] at e;obtain⟨rfl,rfl⟩:=e;obtain⟨vj,qj,e,tn,hJ⟩:=hj;simp only[List.cons.injEq,and_true] at e;subst e;obtain⟨gj,rfl⟩:∃gj,ja=some ⟨gj,0,none⟩:=by
       rcases hJ.shape with⟨e,_⟩ | ⟨g,cp,e,_⟩
       · cases e; omega
       · cases e; exact⟨g,rfl⟩
      have yx:∀b∈(Value.slice (some ⟨gj,0,none⟩) jn jc).ownBlock.toList++aw qj,b∈F:=fun b hb=>by rw[d_,tn]; exact List.mem_append.2 (.inl hb)
      obtain⟨g1,g2,g3⟩:=dw.gX;have j5:Below w5.heap.size w5 w5.drew:=(Below.refl _ _).drew;have Cj:=dw.more j5;have sH:=hJ.below j5;have HJ:=Hid.mk' hJ;have hRn:=dw.rn;have hXn:=dw.new X List.mem_cons_self;have Ri:=dw.fr.size;have Ck:=bp.dK dw.ins.own;have Uu:=dw.ins.box.lt;have Uv:=dw.rb.lt;clear hl tn hJ;ab fail;refine last.aB (S:=fun w'=>aD X oS [] [.int .i64 c.1,.int .i64 c.2.1,.int .i64 c.2.2.1,.slice (some ⟨gj,0,none⟩) jn jc,.slice la ln lc,.int .i64 c.2.2.2.2.2] [] w'∧bz 75 ek w' (.slice (some ⟨gj,0,none⟩) jn jc) c.2.2.2.1 qj) 10 (by aa) ⟨Cj.ins.box,sH⟩ (fun al=>?_)
      generalize Ew:w5.drew=D at *;clear Ew;refine last.ae (i:=0) (v:=(.pointer (some ⟨X,3,none⟩))) rfl rfl (by aa) (by aa) (by aa) (by aa) (fun _ _ _ h=>h) (Or.inl ⟨by rfl,?_⟩) (by assumption) ?_
      · intro wq aC; af
      try simp only[Act.put,List.setIfInBounds_toArray,List.set_cons_zero,List.set_cons_succ];refine last.ae (i:=1) (v:=(.slice (some ⟨gj,0,none⟩) jn jc)) rfl rfl (by aa) (by aa) (by aa) (by aa) (fun _ _ _ h=>h) (Or.inl ⟨by rfl,?_⟩) (by assumption) ?_
      · intro wq aC; have q:=aC.1.cell 3 _ rfl; simp only[List.length_nil,Nat.zero_add] at q; af
      try simp only[Act.put,List.setIfInBounds_toArray,List.set_cons_zero,List.set_cons_succ];refine last.ae (i:=2) (v:=(.pointer (some ⟨gc,0,none⟩))) rfl rfl (by aa) (by aa) (by aa) (by aa) (fun _ _ _ h=>h) (Or.inl ⟨by rfl,?_⟩) (by assumption) ?_
      · intro wq aC; af
      try simp only[Act.put,List.setIfInBounds_toArray,List.set_cons_zero,List.set_cons_succ];refine last.ae (i:=3) (v:=(.pointer (some ⟨X,3,none⟩))) rfl rfl (by aa) (by aa) (by aa) (by aa) (fun _ _ _ h=>h) (Or.inl ⟨by rfl,?_⟩) (by assumption) ?_
      · intro wq aC; af
      try simp only[Act.put,List.setIfInBounds_toArray,List.set_cons_zero,List.set_cons_succ];refine last.ae (i:=4) (v:=(.slice (some ⟨gj,0,none⟩) jn jc)) rfl rfl (by aa) (by aa) (by aa) (by aa) (fun _ _ _ h=>h) (Or.inl ⟨by rfl,?_⟩) (by assumption) ?_
      · intro wq aC; have q:=aC.1.cell 3 _ rfl; simp only[List.length_nil,Nat.zero_add] at q; af
      try simp only[Act.put,List.setIfInBounds_toArray,List.set_cons_zero,List.set_cons_succ];refine last.ae (i:=5) (v:=(.int .i64 (jn:Int))) rfl rfl (by aa) (by aa) (by aa) (by aa) (fun _ _ _ h=>h) (Or.inl ⟨by rfl,?_⟩) (by assumption) ?_
      · intro wq aC; af
      try simp only[Act.put,List.setIfInBounds_toArray,List.set_cons_zero,List.set_cons_succ];refine last.eO (i:=6) (j:=9) (o:=qO32) (o':={dst:=some 7,op:=Op.alloc 75,type:=0,pos:= "l11_coord.go:230",after:=#[],guard:=none}) (by aa) rfl rfl (fun K hK=> ?wayA2) (fun K hK=> ?wayB2)
      case' wayA2=>
       refine gv.call2 rfl 68 (.tmp 44) (.tmp 47) _ rfl (fun _ _=>rfl) (.pointer (some ⟨gc,0,none⟩)) (.int .i64 (jn:Int)) (by aa) (by aa) _ (cH w0 _ gc a len cap code (jn:Int) Cj.cur (by omega) (by omega)) ?_
       rintro e wB ⟨j,CF,rfl,eU,dJ⟩;refine⟨_,rfl,?_⟩;have fs:=Cj.step eU dJ;have fu:=sH.keep fun b hb=>dJ.block b (sH.at_ b hb) (fun e=>g2 (by rw[←Option.some.inj e]; exact yx b hb))
       have lr:=dJ.size;have e7:j<c.2.2.2.1.length:=by have:=xU.out; omega
       have DZ:(j:Int)<(jn:Int):=CF;refine hK.out _ _ ?_ (fun aq=>?_)
       · exact⟨fs.ins.box,fu⟩
       clear hK K al;have al:=aq;clear aq;try simp only[Act.put,List.setIfInBounds_toArray,List.set_cons_zero,List.set_cons_succ];obtain⟨oa,ol,oc,ya,yl,yc,jT⟩:=fg (HJ.out.each j e7);refine last.ae (i:=7) (v:=(.pointer (some ⟨gj,j * 4,none⟩))) rfl rfl (by aa) (by aa) (by aa) (by aa) (fun _ _ _ h=>h) (Or.inl ⟨by rfl,?_⟩) (by assumption) ?_
       · intro wq aC; af
       try simp only[Act.put,List.setIfInBounds_toArray,List.set_cons_zero,List.set_cons_succ];refine last.ae (i:=8) (v:=(.agg #[.int .i64 c.2.2.2.1[j].1,.slice oa ol oc,.int .i64 c.2.2.2.1[j].2.2.1,.slice ya yl yc])) rfl rfl (by aa) (by aa) (by aa) (by aa) (fun _ _ _ h=>h) (Or.inl ⟨by rfl,?_⟩) (by assumption) ?_
       · intro wq aC; obtain⟨q0,q1,q2,q3⟩:=ke aC.2 j e7 jT; af
       try simp only[Act.put,List.setIfInBounds_toArray,List.set_cons_zero,List.set_cons_succ];refine last.ax (i:=9) (o:=qO33) (by aa) rfl (fun K hK=>?_)
       af;obtain⟨wZ,iQ⟩:∃V,wB.alloc (.cells #[.int .i64 0,.slice none 0 0,.int .i64 0,.slice none 0 0] 75)=V:=⟨_,rfl⟩;have bw:Below wB.heap.size wB wZ:=by rw[←iQ]; exact aT
       have iS:aD wB.heap.size 75 [] [.int .i64 0,.slice none 0 0,.int .i64 0,.slice none 0 0] [] wZ:=by rw[←iQ]; exact aO _ _ _
       have jK:=fs.more bw;have im:=fu.below bw;have oT:=bw.size;have vZ:=iS.lt;rw[iQ];refine hK.out _ _ ?_ (fun aq=>?_)
       · exact⟨jK.ins.box,im⟩
       clear hK K al;have al:=aq;clear aq;try simp only[Act.put,List.setIfInBounds_toArray,List.set_cons_zero,List.set_cons_succ];clear iQ;have Oi:D.heap.size≤wB.heap.size:=lr;generalize Ob:wB.heap.size=J at *;clear bw fs fu lr oT vZ eU dJ
      case' wayB2=>
       af;obtain⟨wB,gu⟩:∃V,D.alloc (.cells #[.int .i64 0,.slice none 0 0,.int .i64 0,.slice none 0 0] 75)=V:=⟨_,rfl⟩;have bw:Below D.heap.size D wB:=by rw[←gu]; exact aT
       have iS:aD D.heap.size 75 [] [.int .i64 0,.slice none 0 0,.int .i64 0,.slice none 0 0] [] wB:=by rw[←gu]; exact aO _ _ _
       have fs:=Cj.more bw;have fu:=sH.below bw;have lr:=bw.size;have vZ:=iS.lt;rw[gu];refine hK.out _ _ ?_ (fun aq=>?_)
       · exact⟨fs.ins.box,fu⟩
       clear hK K al;have al:=aq;clear aq;try simp only[Act.put,List.setIfInBounds_toArray,List.set_cons_zero,List.set_cons_succ];clear gu;refine last.ax (i:=6) (o:=qO32) (by aa) rfl (fun K hK=>?_)
       refine gv.call2 rfl 68 (.tmp 44) (.tmp 47) _ rfl (fun _ _=>rfl) (.pointer (some ⟨gc,0,none⟩)) (.int .i64 (jn:Int)) (by aa) (by aa) _ (cH w0 _ gc a len cap code (jn:Int) fs.cur (by omega) (by omega)) ?_
       rintro e wZ ⟨j,CF,rfl,eU,dJ⟩;refine⟨_,rfl,?_⟩;have jK:=fs.step eU dJ;have im:=fu.keep fun b hb=>dJ.block b (fu.at_ b hb) (fun e=>g2 (by rw[←Option.some.inj e]; exact yx b hb))
       have oT:=dJ.size;have e7:j<c.2.2.2.1.length:=by have:=xU.out; omega
       have DZ:(j:Int)<(jn:Int):=CF;refine hK.out _ _ ?_ (fun aq=>?_)
       · exact⟨jK.ins.box,im⟩
       clear hK K al;have al:=aq;clear aq;try simp only[Act.put,List.setIfInBounds_toArray,List.set_cons_zero,List.set_cons_succ];obtain⟨oa,ol,oc,ya,yl,yc,jT⟩:=fg (HJ.out.each j e7);refine last.ae (i:=7) (v:=(.pointer (some ⟨gj,j * 4,none⟩))) rfl rfl (by aa) (by aa) (by aa) (by aa) (fun _ _ _ h=>h) (Or.inl ⟨by rfl,?_⟩) (by assumption) ?_
       · intro wq aC; af
       try simp only[Act.put,List.setIfInBounds_toArray,List.set_cons_zero,List.set_cons_succ];refine last.ae (i:=8) (v:=(.agg #[.int .i64 c.2.2.2.1[j].1,.slice oa ol oc,.int .i64 c.2.2.2.1[j].2.2.1,.slice ya yl yc])) rfl rfl (by aa) (by aa) (by aa) (by aa) (fun _ _ _ h=>h) (Or.inl ⟨by rfl,?_⟩) (by assumption) ?_
       · intro wq aC; obtain⟨q0,q1,q2,q3⟩:=ke aC.2 j e7 jT; af
       try simp only[Act.put,List.setIfInBounds_toArray,List.set_cons_zero,List.set_cons_succ];replace iS:=iS.grown dJ (fun e=>by have:=Option.some.inj e; have:=dw.old; have:=j5.size; omega)
       have Oi:D.heap.size≤D.heap.size:=Nat.le_refl _;generalize Ob:D.heap.size=J at iS Oi;clear bw fs fu lr oT vZ eU dJ
      bo
       have Ld:=j5.size;have B4:w5.heap.size≤J:=by omega
       have CE:J∉F:=fun e=>by have:=Ck J e; omega
       have Qy:=iS.lt;obtain⟨z0,z1,z2,z3⟩:=cells4 iS;have f0:=iS.fz 0;have f1:=iS.fz 1;have f2:=iS.fz 2;have f3:=iS.fz 3;have hS:=iS.whole [.int .i64 c.2.2.2.1[j].1,.slice oa ol oc,.int .i64 c.2.2.2.1[j].2.2.1,.slice ya yl yc] rfl;obtain⟨U,hU⟩:∃U,bx wZ J 0 [.int .i64 c.2.2.2.1[j].1,.slice oa ol oc,.int .i64 c.2.2.2.1[j].2.2.1,.slice ya yl yc]=U:=⟨_,rfl⟩;rw[hU] at hS;simp only[bx,Nat.zero_add,Nat.reduceAdd] at hU;have HU:=Hid.mk' hU;have Cl:=jK.outside hS.2 (by omega) (by omega) CE (by omega)
       have K6:=im.keep fun b hb=>hS.2.block b (im.at_ b hb) (fun e=>CE (by rw[←Option.some.inj e]; exact yx b hb))
       have Ko:=hS.1;clear hU;refine last.aL (o:=qO34) (by aa) rfl (by aa) (fun K hK=>?_)
       af;refine hK.out _ _ ?_;clear hK K;rw[HU.out];clear z0 z1 z2 z3 f0 f1 f2 f3 hS HU iS jK im al;have zw:=Cl.dr.jobs _ (List.getElem_mem e7);have aK:=K6.each j e7;rw[jT] at aK;obtain⟨vo,Ub,e,k1,Uw,zo,Fi, -, -⟩:=dX.1 aK;simp only[List.cons.injEq,and_true,true_and] at e;obtain⟨rfl,rfl⟩:=e;have dT:dS U oa ol c.2.2.2.1[j].2.1:=(k8.1 (kB.eK (iG.2 ⟨zo,rfl⟩))).1;have xu:=(mD zw.ops);have pf:=dT.1;have wm:=Hid.mk' (eN oa ol oc c.2.2.2.1[j].2.1 c.1 U dT (by omega) fH.n)
       have tE:Hid (∀x∈aM c.1 c.2.2.2.1[j].2.1,0≤x∧x≤7):=fun x hx=>by
        obtain⟨o,_,rfl⟩:=(fw c.1 c.2.2.2.1[j].2.1 x).1 hx;have h3:=fD o.2.1 c.1;have h4:=Cl.dr.n;have:=h3.2 (by omega)
        omega
       have wh:Hid (0<(aM c.1 c.2.2.2.1[j].2.1).length):=by
        obtain⟨o,ho⟩:∃o,o∈c.2.2.2.1[j].2.1:=⟨(c.2.2.2.1[j].2.1)[0]'(by omega),List.getElem_mem _⟩
        exact List.length_pos_of_mem ((fw c.1 c.2.2.2.1[j].2.1 (bA o.2.1 c.1)).2 ⟨o,ho,rfl⟩)
       have Ux:Hid ((aM c.1 c.2.2.2.1[j].2.1).length≤8):=kK c.1 c.2.2.2.1[j].2.1 xu.2;generalize aM c.1 c.2.2.2.1[j].2.1=sh at *;obtain⟨b0,b1,b2,b3⟩:=cells4 Ko;have x0:=Cl.ins.box.cell 0 _ rfl;simp only[List.length_nil,Nat.zero_add] at x0;have xl:=Hid.mk' (And.intro B4 CE);clear aK zo Fi dT pf xu zw k3 Uw HJ jT K6 sH Cj j5 Ld yx Ck B4 CE CF;have zz:=k1;have Fj:=Hid.mk' Cl;generalize c.2.2.2.1[j].1=xg at *;generalize c.2.2.2.1[j].2.2.1=Uy at *;ab fail;refine wm.out.mono ?_;rintro e w7 ⟨gs,ns,cs,rfl,hZ,dd⟩;have CG:=Fj.out.more dd;have jd:=Ko.below dd;have YJ:=hZ.1;have UY:0<ns∧ns≤8:=by have:=wh.out; have:=Ux.out; omega
       have Le:Below w7.heap.size w7 w7.drew:=(Below.refl _ _).drew;have v8:=CG.more Le;have Fk:=(hZ.mono (base':=0) (Nat.zero_le _)).below Le;have v_:=jd.below Le;have Yq:=hZ.lt;have hU7:=dd.size;have Hr:gs≠gc:=fun e=>by have:=Fj.out.old; have:=Fj.out.fr.size; omega
       have Cf:J≠gc:=fun e=>by have:=Fj.out.old; have:=xl.out.1; omega
       clear wm b0 b1 b2 b3 x0 Cl;ab fail;refine last.aB (S:=fun w'=>aD J 75 [] [.int .i64 xg,.slice oa ol oc,.int .i64 Uy,.slice ya yl yc] [] w'∧dm w' 0 gs ns cs sh) 12 (by aa) ⟨v_,Fk⟩ (fun al=>?_)
       generalize Ew:w7.drew=D7 at *;clear Ew;refine last.bJ [5,6] (i:=0) (v:=(.slice (some ⟨gs,0,none⟩) ns cs)) rfl (by aa) (by aa) (by aa) (by aa) (fun _ _ _ h=>h) (Or.inl ⟨by rfl,?_⟩) (by assumption) ?_
       · intro wq aC; af
       try simp only[Act.put,List.setIfInBounds_toArray,List.set_cons_zero,List.set_cons_succ];refine last.bJ [4,5,6] (i:=1) (v:=(.pointer (some ⟨gc,0,none⟩))) rfl (by aa) (by aa) (by aa) (by aa) (fun _ _ _ h=>h) (Or.inl ⟨by rfl,?_⟩) (by assumption) ?_
       · intro wq aC; af
       try simp only[Act.put,List.setIfInBounds_toArray,List.set_cons_zero,List.set_cons_succ];refine last.bJ [3,4,5,6] (i:=2) (v:=(.slice (some ⟨gs,0,none⟩) ns cs)) rfl (by aa) (by aa) (by aa) (by aa) (fun _ _ _ h=>h) (Or.inl ⟨by rfl,?_⟩) (by assumption) ?_
       · intro wq aC; af
       try simp only[Act.put,List.setIfInBounds_toArray,List.set_cons_zero,List.set_cons_succ];refine last.bJ [4,5,6] (i:=3) (v:=(.int .i64 (ns:Int))) rfl (by aa) (by aa) (by aa) (by aa) (fun _ _ _ h=>h) (Or.inl ⟨by rfl,?_⟩) (by assumption) ?_
       · intro wq aC; af
       try simp only[Act.put,List.setIfInBounds_toArray,List.set_cons_zero,List.set_cons_succ];refine last.bJ [8] (i:=7) (v:=(.pointer (some ⟨J,0,none⟩))) rfl (by aa) (by aa) (by aa) (by aa) (fun _ _ _ h=>h) (Or.inl ⟨by rfl,?_⟩) (by assumption) ?_
       · intro wq aC; af
       try simp only[Act.put,List.setIfInBounds_toArray,List.set_cons_zero,List.set_cons_succ];refine last.ae (i:=8) (v:=(.int .i64 xg)) rfl rfl (by aa) (by aa) (by aa) (by aa) (fun _ _ _ h=>h) (Or.inl ⟨by rfl,?_⟩) (by assumption) ?_
       · intro wq aC; obtain⟨q0,q1,q2,q3⟩:=cells4 aC.1; af
       try simp only[Act.put,List.setIfInBounds_toArray,List.set_cons_zero,List.set_cons_succ];refine last.bJ [10] (i:=9) (v:=(.pointer (some ⟨gc,0,none⟩))) rfl (by aa) (by aa) (by aa) (by aa) (fun _ _ _ h=>h) (Or.inl ⟨by rfl,?_⟩) (by assumption) ?_
       · intro wq aC; af
       try simp only[Act.put,List.setIfInBounds_toArray,List.set_cons_zero,List.set_cons_succ];refine last.ax (i:=4) (o:=qO35) (by aa) rfl (fun K hK=>?_)
       refine gv.call2 rfl 68 (.tmp 57) (.tmp 59) _ rfl (fun _ _=>rfl) (.pointer (some ⟨gc,0,none⟩)) (.int .i64 (ns:Int)) (by aa) (by aa) _ (cH w0 _ gc a len cap code (ns:Int) v8.cur (by omega) (by omega)) ?_
       rintro e w8 ⟨i,Cy,rfl,tV,sy⟩;refine⟨_,rfl,?_⟩;have oG:=v8.step tV sy;have lQ:=v_.grown sy (fun e=>Cf (Option.some.inj e))
       have Fl:=Fk.kept (sy.block gs Fk.lt.2 (fun e=>Hr (Option.some.inj e)))
       have Oj:i<sh.length:=by omega
       have iw:(i:Int)<(ns:Int):=Cy;have xK:=tE.out _ (List.getElem_mem Oj);refine hK.out _ _ ?_ (fun aq=>?_)
       · exact⟨lQ,Fl⟩
       clear hK K al;have al:=aq;clear aq;try simp only[Act.put,List.setIfInBounds_toArray,List.set_cons_zero,List.set_cons_succ];refine last.bJ [6] (i:=5) (v:=(.pointer (some ⟨gs,i,none⟩))) rfl (by aa) (by aa) (by aa) (by aa) (fun _ _ _ h=>h) (Or.inl ⟨by rfl,?_⟩) (by assumption) ?_
       · intro wq aC; af
       try simp only[Act.put,List.setIfInBounds_toArray,List.set_cons_zero,List.set_cons_succ];refine last.ae (i:=6) (v:=(.int .i64 sh[i])) rfl rfl (by aa) (by aa) (by aa) (by aa) (fun _ _ _ h=>h) (Or.inl ⟨by rfl,?_⟩) (by assumption) ?_
       · intro wq aC; have q:=aC.2.at i Oj; af
       try simp only[Act.put,List.setIfInBounds_toArray,List.set_cons_zero,List.set_cons_succ];refine last.ax (i:=10) (o:=qO36) (by aa) rfl (fun K hK=>?_)
       refine gv.call2 rfl 125 (.tmp 65) (.const (.int .i64 5)) _ rfl (fun _ _=>rfl) (.pointer (some ⟨gc,0,none⟩)) (.int .i64 5) (by aa) rfl _ (mZ w0 _ gc a len cap code 5 oG.cur (by omega) (by omega)) ?_
       rintro e w9 ⟨b9,rfl,Uz,Lf⟩;refine⟨_,rfl,?_⟩;have mE:=oG.step Uz Lf;have vT:=lQ.grown Lf (fun e=>Cf (Option.some.inj e))
       have Ol:=Fl.kept (Lf.block gs Fl.lt.2 (fun e=>Hr (Option.some.inj e)))
       refine hK.out _ _ ?_ (fun aq=>?_)
       · exact⟨vT,Ol⟩
       clear hK K al;have al:=aq;clear aq;try simp only[Act.put,List.setIfInBounds_toArray,List.set_cons_zero,List.set_cons_succ];refine last.ae (i:=11) (v:=(.bool !b9)) rfl rfl (by aa) (by aa) (by aa) (by aa) (fun _ _ _ h=>h) (Or.inl ⟨by rfl,?_⟩) (by assumption) ?_
       · intro wq aC; af
       try simp only[Act.put,List.setIfInBounds_toArray,List.set_cons_zero,List.set_cons_succ];have Om:=Hid.mk' (ng X oS [] [] (some ⟨gj,0,none⟩) jn jc la ln lc c F sh[i] xg (!b9) w9 mE.ins mE.dr (WalkArith.wf_i64 (by omega)) zz (by have:=mE.dr.lq; omega))
       generalize sh[i]=si at *;refine last.aL (o:=qO37) (by aa) rfl (by aa) (fun K hK=>?_)
       refine gv.call4 rfl 131 (.tmp 5) (.tmp 62) (.tmp 64) (.tmp 67) _ rfl (fun _ _=>rfl) (.pointer (some ⟨X,0,none⟩)) (.int .i64 si) (.int .i64 xg) (.bool !b9) (by aa) (by aa) (by aa) (by aa) _ Om.out ?_
       rintro e xa ⟨rfl,nA⟩;refine⟨_,rfl,?_⟩;obtain⟨Rv,Rw,Rx,DV,DW,DX,Fz,lI⟩:=mE.wrote nA (qK mE.dr);clear Om nA mE al vT Ol oG lQ Fl v8 Fk v_ CG jd hZ;refine hK.out _ _ ?_;clear hK K;ab fail;aA
       case rel=>exact⟨k - 1,_,_,_,_,_,_,_,_,by omega,by have h1:=Bm.out; have h2:=sI (c:=c) (shard:=si) (tx:=xg) (yes:= !b9); omega,by aF,lI⟩
       case measure=>simp[intOf]; omega
    · have k4:=dw.ins.box.cell 4 _ rfl;have k5:=dw.ins.box.cell 5 _ rfl;have f5:=dw.ins.box.fz 5;simp only[List.length_nil,Nat.zero_add] at k4 k5;have lI:=dw.sure;ab fail;aA
      case rel=>exact⟨k - 1,_,_,_,_,_,_,_,_,by omega,by have h1:=Bm.out; have h2:=Int.le_refl (0:Int); show c.2.1+((k - 1:Nat):Int)≤1+(ff:Int); omega,by aF,lI⟩
      case measure=>simp[intOf]; omega
    · ab fail;refine(mZ w0 _ gc a len cap code 3 dw.cur (by omega) (by omega)).mono ?_
      rintro e w6 ⟨b6,rfl,eU,dJ⟩;have fE:=dw.step eU dJ;clear dw eU dJ;cases b6
      · have lI:=fE;ab fail;aA
        case rel=>exact⟨k - 1,_,_,_,_,_,_,_,_,by omega,by have h1:=Bm.out; have h2:=Int.le_refl (0:Int); omega,by aF,lI⟩
        case measure=>simp[intOf]; omega
      · ab fail;refine(cH w0 _ gc a len cap code 3 fE.cur (by omega) (by omega)).mono ?_
        rintro e w7 ⟨kp,hkp,rfl,LA,Hr⟩;have CG:=fE.step LA Hr;have wW:=Hid.mk' (xt X oS [] [] ja jn jc la ln lc c F (kp:Int) w7 CG.ins CG.dr.av CG.dr.sure (by have:=CG.dr.jS; omega) (WalkArith.wf_i64 (by omega)))
        clear fE LA Hr;ab fail;refine wW.out.mono ?_;rintro e w8 ⟨rfl,nA⟩;obtain⟨Rv,Rw,Rx,DV,DW,DX,F2,lI⟩:=CG.wrote nA (ot CG.dr _);clear wW nA CG;ab fail;aA
        case rel=>exact⟨k - 1,_,_,_,_,_,_,_,_,by omega,by have h1:=Bm.out; have h2:=Ev (c:=c) (keep:=(kp:Int)); omega,by aF,lI⟩
        case measure=>simp[intOf]; omega
  · have Cn:k=0:=by omega
    subst Cn;have b:=hD.ins.box;obtain⟨q0,q1,q2,q3,q4,q5⟩:=cells6 b;have cj:=hD.rb;obtain⟨z0,z1,z2,z3,z4,z5⟩:=cells6 cj;have f0:=cj.fz 0;have f1:=cj.fz 1;have f2:=cj.fz 2;have f3:=cj.fz 3;have f4:=cj.fz 4;have f5:=cj.fz 5;have hS:=cj.whole [.int .i64 c.1,.int .i64 c.2.1,.int .i64 c.2.2.1,.slice ja jn jc,.slice la ln lc,.int .i64 c.2.2.2.2.2] rfl;obtain⟨y0,y1,y2,y3,y4,y5⟩:=cells6 hS.1;simp only[bx,Nat.zero_add,Nat.reduceAdd] at y0 y1 y2 y3 y4 y5;obtain⟨g1,g2,g3⟩:=hD.gX;have jL:=bp.bH hD.ins.own hS.2 (fun j hj e=>hD.rF (by rw[←Option.some.inj e]; exact hj))
    have lM:=hD.cur.grown hS.2 (fun e=>g3 (Option.some.inj e)) (fun k e=>by cases e; exact rS)
    have qz:w.grownBy _ (some gc):=⟨hS.2.os.trans hD.fr.os,hS.2.tape.trans hD.fr.tape,hS.2.output.trans hD.fr.output,Nat.le_trans hD.fr.size hS.2.size,fun k hk bh=>(hS.2.block k (Nat.lt_of_lt_of_le hk hD.fr.size) (fun e=>by have:=Option.some.inj e; omega)).trans (hD.fr.block k hk bh)⟩
    have HP:Hid (Of w0 w gc a len cap code ff (.returned (.agg #[.int .i64 c.1,.int .i64 c.2.1,.int .i64 c.2.2.1,.slice ja jn jc,.slice la ln lc,.int .i64 c.2.2.2.2.2])) (bx wr w.heap.size 0 [.int .i64 c.1,.int .i64 c.2.1,.int .i64 c.2.2.1,.slice ja jn jc,.slice la ln lc,.int .i64 c.2.2.2.2.2])):=⟨ja,jn,jc,la,ln,lc,c,F,hD.dr,by omega,rfl,jL,fun k hk=>hD.new k (List.mem_cons_of_mem _ hk),lM,qz⟩
    simp only[bx,Nat.zero_add,Nat.reduceAdd] at HP;clear jL lM qz hS hD b;ab fail;refine bodyPost_ret (v:=.agg #[.int .i64 c.1,.int .i64 c.2.1,.int .i64 c.2.2.1,.slice ja jn jc,.slice la ln lc,.int .i64 c.2.2.2.2.2]) ?_ rfl HP.out;simp[results,Tryz.results92,go_sem,y0,y1,y2,y3,y4,y5]
end cos
end Go.Proofs.YtmibabclefgljaaGreat
