/- DrawZ RecE DrSh ShHa ShHb -/
import Derived.Test.YtmibabclefgljaaGreatShaq
import Derived.Test.YtmibabclefgljaaGreatShap
import Derived.Test.YtmibabclefgljaaGreatShan
import Derived.Test.YtmibabclefgljaaGreatSham
set_option linter.unusedVariables false
set_option linter.unusedSimpArgs false
set_option maxRecDepth 100000
set_option maxHeartbeats 4000000
namespace Go.Proofs.YtmibabclefgljaaGreat
open Go in
abbrev qO20:Oper:={dst:=some 48,op:=Op.call {callee:=Callee.value (Operand.func 68),args:=#[Operand.tmp 44,Operand.tmp 47],argTypes:=#[51,3]},type:=3,pos:= "l09_shard.go:197",after:=#[{on:=2,ground:=Ground.data},{on:=5,ground:=Ground.data}],guard:=none}
open Go in
abbrev qO21:Oper:={dst:=some 7,op:=Op.assign (Operand.tmp 51),type:=3,pos:= "l09_shard.go:197",after:=#[{on:=9,ground:=Ground.data},{on:=6,ground:=Ground.chain},{on:=0,ground:=Ground.phase},{on:=1,ground:=Ground.phase},{on:=2,ground:=Ground.phase},{on:=3,ground:=Ground.phase},{on:=4,ground:=Ground.phase},{on:=5,ground:=Ground.phase},{on:=6,ground:=Ground.phase},{on:=7,ground:=Ground.phase},{on:=8,ground:=Ground.phase},{on:=9,ground:=Ground.phase}],guard:=none}
namespace aX
open Go Go.RowKit base aE draw
def mu(o:Od):Prop:=0≤o.1∧o.1≤5∧o.2.1.size≤13∧o.2.2.size≤21
theorem gk{o:Od}(h:dU o=true):mu o:=by
 obtain⟨h1,_,h3,h4⟩:=(kh o).1 h;have:=qe h3;exact⟨by omega,by omega,by omega,by omega⟩
theorem tk{o:Od}(h:mu o):ed o:=by
 obtain⟨h1,h2,h3,h4⟩:=h;exact⟨WalkArith.wf_i64 (by omega),by unfold maxLen; omega,by unfold maxLen; omega⟩
theorem ck.none{w:World}{base g n cap:Nat}{l:List Od}(h:ck w base g n cap l):ck w base g 0 cap []:=by
 refine⟨rfl,fun p hp=>absurd hp List.not_mem_nil,rfl,?_⟩
 rcases h.2.2.2 with⟨h',_⟩ | ⟨g',aY,cur,h',h0,hg,h1,h2,h3,h4⟩
 · simp at h'
 · simp only[Value.slice.injEq,Option.some.injEq,Addr.mk.injEq,and_true,true_and] at h';obtain⟨rfl,rfl⟩:=h';exact .inr ⟨g,cap,cur,rfl,h0,hg,Nat.zero_le _,h2,h3,by simp[aW]⟩
def MD(w0 w:World)(gc:Nat)(a:Option Addr)(len cap:Nat)(code:List UInt8)(e:Ending)(w':World):Prop:=
 ∃(g n cp:Nat) (l:List Od),n≤5∧(∀p∈l,mu p)∧e=.returned (.slice (some ⟨g,0,none⟩) n cp)∧ck w' w.heap.size g n cp l∧gY w0 w' gc a len cap code∧w.grownBy w' (some gc)
theorem vA{l:List Od}{i:Nat}{p:Od}(h:∀q∈l,mu q)(hp:mu p):∀q∈l.set i p,mu q:=by
 intro q hq;rcases List.mem_or_eq_of_mem_set hq with h1 | h1
 · exact h q h1
 · subst h1; exact hp
theorem PD(w0 w:World)(gc:Nat)(a:Option Addr)(len cap:Nat)(code:List UInt8)(h:gY w0 w gc a len cap code):
 Calls Tryz.prog 128 #[.pointer (some ⟨gc,0,none⟩)] w fun e w'=>MD w0 w gc a len cap code e w':=by
 obtain⟨i0,jX,dE,dD,cO⟩:=info_parts sQ;obtain⟨j0,zw,zh,Hu,Cs⟩:=info_parts RL;have cZ:=h.lt;aj Tryz.func128,Tryz.ntmps128;ab fail;refine(rB w0 _ gc a len cap code h).mono ?_;rintro e w1 ⟨g,n,cp,l,hn,bR,rfl,gK,U_,E5⟩;obtain⟨⟨iT,_⟩,wu,UR⟩:=(bG l).1 bR;have ht:Hid (∀p∈l,mu p):=fun p hp=>gk (iT p hp)
 have vz:g≠gc:=by have:=gK.lt; omega
 clear bR iT;ab fail;refine(cH w0 _ gc a len cap code _ U_ (by omega) (by omega)).mono ?_
 rintro e w2 ⟨x,hx,rfl,Cz,oF⟩;have fS:=gK.grown oF (by simpa using vz)
 have xf:=az E5 oF;clear gK U_ E5 oF;have sw:=fS.1;have wM:0<n:=by omega
 have ue:0<l.length:=by omega
 have fZ:(0:Int)<(n:Int):=by omega
 have hgc0:=Cz.ge;have nM:=h.fp.size;by_cases x0:x=0
 · subst x0;ab (ak; fail)
   refine(NR w0 _ gc a len cap code Cz).mono ?_;rintro e w4 ⟨o,bR,rfl,Bz,CA⟩;have ej:=fS.grown CA (by simpa using vz)
   have zx:=az xf CA;have nu:w.heap.size≤w4.heap.size:=zx.size;have fR:n+1≤maxLen:=by unfold maxLen; omega
   have kn:(n+1) * 40≤140737488355328:=by omega
   have Z1:=gk bR;clear fS Cz xf CA bR;ab (ak; refine wpList_append_own _ rfl (.tmp 10) (.tmp 13) 73 rfl w.heap.size 121 i0 (.agg #[.int .i64 0,.string ⟨#[]⟩,.string ⟨#[]⟩]) 3 40 Tryz.underlying73 jX dE dD cO rfl (by decide) _ _ _ rfl (ej.2.2.alloc _) ⟨w4.heap.size,0,none⟩ 1 1 (aW [o]) rfl rfl (du _ _ _) (bM _) fR kn (aS _ _ nu) ?_)
   intro v5 w5 aK aI db;obtain⟨g5,wj,hv,eD⟩:=iD ej.1 ej.2.1 (tk Z1) db aK;subst hv;have ix:(w4.alloc (.cells #[.int .i64 o.1,.string o.2.1,.string o.2.2] 121)).grownBy w5 (some g):=aI;have Py:gY w0 w5 gc a len cap code:=(Bz.below ((Below.refl _ _).alloc (Nat.le_refl _) _)).grown ix (by simpa using vz.symm) (fun k e=>by cases e; have:=ej.lt; omega)
   have PB:w.grownBy w5 (some gc):=cN (Ai zx _) ix ej.lt.1;have ht5:Hid (∀p∈l++[o],mu p):=by
    intro p hp;rcases List.mem_append.1 hp with h1 | h1
    · exact ht.out p h1
    · simp at h1; subst h1; exact Z1
   have wS:=Hid.mk' eD;clear aK aI db ej Bz zx ix eD;ab (ak; fail)
   an;exact⟨g5,n+1,wj,_,by omega,ht5.out,rfl,wS.out,Py,PB⟩
 by_cases x1:x=1
 · subst x1;ab (ak; fail)
   refine(cH w0 _ gc a len cap code _ Cz (by omega) (by omega)).mono ?_
   rintro e w4 ⟨y,hy,rfl,Bz,CA⟩;have ej:=fS.grown CA (by simpa using vz)
   have zx:=az xf CA;have d1:=ej.kind 0 ue;have f1:=ej.frozen (0 * 3);have R:=ej.setKind 0 ue (y:Int) (WalkArith.wf_i64 (by omega))
   have z8:=ht.out _ (List.getElem_mem ue);have HT:Hid (∀p∈l.set 0 ((y:Int),l[0].2),mu p):=vA ht.out ⟨by show(0:Int)≤(y:Int); omega,by show(y:Int)≤5; omega,z8.2.2⟩
   simp only[Nat.zero_mul] at d1 f1 R;have SU:Hid (gY w0 (w4.setCell ⟨g,0,none⟩ (.int .i64 (y:Int))) gc a len cap code):=Bz.grown R.2 (by simpa using vz.symm) (fun k e=>by cases e; have:=ej.lt; omega)
   have SV:=Hid.mk' (cN zx R.2 ej.lt.1);have HR:=Hid.mk' R.1;clear R fS Cz xf CA ej Bz zx z8;ab (ak; fail)
   an;exact⟨g,n,cp,_,by omega,HT.out,rfl,HR.out,SU.out,SV.out⟩
 by_cases x2:x=2
 · subst x2;ab (ak; fail)
   refine(JP w0 _ gc a len cap code Cz).mono ?_;rintro e w4 ⟨y,hy,rfl,Bz,CA⟩;have ej:=fS.grown CA (by simpa using vz)
   have zx:=az xf CA;have d1:=ej.key 0 ue;have f1:=ej.frozen (0 * 3+1);have R:=ej.CR 0 ue y (by unfold maxLen; omega)
   have z8:=ht.out _ (List.getElem_mem ue);have HT:Hid (∀p∈l.set 0 (l[0].1,y,l[0].2.2),mu p):=vA ht.out ⟨z8.1,z8.2.1,hy,z8.2.2.2⟩;simp only[Nat.zero_mul,Nat.zero_add] at d1 f1 R;have SU:Hid (gY w0 (w4.setCell ⟨g,1,none⟩ (.string y)) gc a len cap code):=Bz.grown R.2 (by simpa using vz.symm) (fun k e=>by cases e; have:=ej.lt; omega)
   have SV:=Hid.mk' (cN zx R.2 ej.lt.1);have HR:=Hid.mk' R.1;clear R fS Cz xf CA ej Bz zx z8;ab (ak; fail)
   an;exact⟨g,n,cp,_,by omega,HT.out,rfl,HR.out,SU.out,SV.out⟩
 by_cases x3:x=3
 · subst x3;ab (o_; fail)
   refine(cH w0 _ gc a len cap code _ Cz (by omega) (by omega)).mono ?_
   rintro e w3 ⟨y,hy,rfl,Xf,x8⟩;have ew:=fS.grown x8 (by simpa using vz)
   have SW:=az xf x8;clear fS Cz xf x8;obtain⟨m,hm⟩:∃m:Nat,20+(y:Int)=(m:Int):=⟨20+y,by omega⟩
   have Xi:m≤21:=by omega
   ab (o_; refine wpList_make_full _ rfl _ _ 22 rfl w3.heap.size 5 j0 (.int .u8 0) 1 Tryz.underlying22 zw zh Hu _ _ _ _ m rfl rfl (by omega) (by omega) ?b2 ?b3 ?b4 ?_)
   case b2=>rw[Cs]; omega
   case b3=>unfold maxLen; omega
   case b4=>exact Nat.le_refl _
   intro w4 aK aI;have SX:tG w4 w3.heap.size w3.heap.size m m (List.replicate m 0):=by
    refine⟨by simp,?_⟩
    have e:qU (List.replicate m 0)=(madeCells #[.int .u8 0] m).toList:=by
     simp[qU,toList_madeCells_one]
    rw[e]; simpa using aK
   have Q5:=Iz SX;have eF:Below w3.heap.size w3 w4:=(Below.refl _ _).grown aI (Nat.le_refl _) (fun k e=>by cases e)
   have ej:=ew.below eF;have Bz:=Xf.below eF;have CA:=aZ SW eF;have d1:=ej.val 0 ue;have f1:=ej.frozen (0 * 3+2);have Ns:(⟨(List.replicate m (0:UInt8)).toArray⟩:ByteArray).size≤21:=by show(List.replicate m (0:UInt8)).toArray.size≤21; simp; exact Xi
   have R:=ej.yI 0 ue ⟨(List.replicate m (0:UInt8)).toArray⟩ (SL Ns);have z8:=ht.out _ (List.getElem_mem ue);have HT:Hid (∀p∈l.set 0 (l[0].1,l[0].2.1,(⟨(List.replicate m (0:UInt8)).toArray⟩:ByteArray)),mu p):=vA ht.out ⟨z8.1,z8.2.1,z8.2.2.1,Ns⟩;simp only[Nat.zero_mul,Nat.zero_add] at d1 f1 R;have SU:Hid (gY w0 (w4.setCell ⟨g,2,none⟩ (.string ⟨(List.replicate m (0:UInt8)).toArray⟩)) gc a len cap code):=Bz.grown R.2 (by simpa using vz.symm) (fun k e=>by cases e; have:=ej.lt; have:=Bz.ge; omega)
   have SV:=Hid.mk' (cN CA R.2 ej.lt.1);have HR:=Hid.mk' R.1;clear R aK aI SX eF ew Xf SW ej Bz CA z8;ab (ak; fail)
   an;exact⟨g,n,cp,_,by omega,HT.out,rfl,HR.out,SU.out,SV.out⟩
 have e0:((x:Int)==0)=false:=by simp; omega
 have e1:((x:Int)==1)=false:=by simp; omega
 have e2:((x:Int)==2)=false:=by simp; omega
 have e3:((x:Int)==3)=false:=by simp; omega
 by_cases x4:x=4
 · subst x4;have eD:=fS.none;have NO:=fS.cases;unfold maxLen at NO;clear x0 x1 x2 x3 e0 e1 e2 e3;ab (ak; fail)
   an;exact⟨g,0,cp,[],by omega,fun p hp=>absurd hp List.not_mem_nil,rfl,eD,Cz,xf⟩
 · have e4:((x:Int)==4)=false:=by simp; omega
   ab (ak; fail)
   an;exact⟨g,n,cp,l,by omega,ht.out,rfl,fS,Cz,xf⟩
end aX
namespace bm
open Go Go.RowKit base aE draw aX
def vB(r:Rc):Prop:=(0≤r.1∧r.1≤5)∧(0≤r.2.1∧r.2.1≤1000001)∧r.2.2.length≤8∧∀p∈r.2.2,mu p
theorem JY{r:Rc}(h:bu r=true):vB r:=by
 obtain⟨h1,h2⟩:=(bS r).1 h;have hk:1≤r.1∧r.1≤3:=by rcases h2 with⟨h3,_⟩ | ⟨h3,_⟩ <;> omega
 refine⟨by omega,by omega,?_,?_⟩
 · rcases h2 with⟨_,h3⟩ | ⟨_,h3⟩
   · exact((bG _).1 h3).2.2
   · rw[h3]; simp
 · intro p hp;rcases h2 with⟨_,h3⟩ | ⟨_,h3⟩
   · exact gk (((bG _).1 h3).1.1 p hp)
   · rw[h3] at hp; exact absurd hp List.not_mem_nil
end bm
namespace bm
open Go Go.RowKit base aE aX dG gO lay draw
theorem cD.jS{s:de}(h:cD s):wD s.2.1:=fun r hr=>by
 rcases((bS r).1 (h.bu r hr)).2 with⟨_,h2⟩ | ⟨_,h2⟩
 · refine⟨by have:=((bG _).1 h2).2.2; omega,fun p hp=>?_⟩
   have:=(gk (((bG _).1 h2).1.1 p hp)).2.2.1;omega
 · rw[h2]; exact⟨by simp,fun p hp=>absurd hp List.not_mem_nil⟩
theorem cD.Ag{s:de}(h:cD s):wD s.2.2.2.2:=fun r hr=>h.jS r (h.pq r hr).1
theorem SY(a:Option Addr)(len cap:Nat)(ff:Nat)(w:World)(hm:3≤ff)(jU:ff≤1000000)(hl:len≤1099511627776):
 Calls Tryz.prog 51 #[.slice a len cap,.int .i64 (ff:Int)] w fun e w'=>∃n:Nat,3≤n∧n≤ff∧e=.returned (.int .i64 (n:Int))∧w'=w:=by
 by_cases h:(ff:Int)<3+(len:Int) / 12
 · aj Tryz.func51,Tryz.ntmps51;bf;an;exact⟨ff,hm,Nat.le_refl _,rfl,rfl⟩
 · aj Tryz.func51,Tryz.ntmps51;bf;an;exact⟨3+len / 12,by omega,by omega,gZ (by omega),rfl⟩
abbrev zy:List Value:=aU 0 0 none 0 0 none 0 0 none 0 0
abbrev tl:TypeId:=43
structure DU (w0 w wr:World) (gc:Nat) (a:Option Addr) (len cap:Nat) (code:List UInt8) (RB X:Nat) (la:Option Addr) (ln lc:Nat) (ma:Option Addr) (mn mc:Nat) (ha:Option Addr) (hn hc:Nat) (s:de) (F:List Nat):Prop where
 cur:gY w0 wr gc a len cap code
 ins:gW wr X tl [] [] la ln lc ma mn mc ha hn hc s F
 dr:eS s
 new:∀k∈X::F,w.heap.size≤k
 old:gc<w.heap.size
 base:w0.heap.size≤w.heap.size
 fr:w.grownBy wr (some gc)
 rb:aD RB tl [] zy [] wr
 rX:RB≠X
 rF:RB∉F
 rn:w.heap.size≤RB
theorem x_{w0 w w':World}{gc:Nat}{a:Option Addr}{len cap:Nat}{code:List UInt8}{G:List Nat}(h:gY w0 w gc a len cap code)(hf:lay.Frame G w w')(hn:gc∉G)(hG:∀k∈G,w0.heap.size≤k):gY w0 w' gc a len cap code:=by
 have bn:=h.lt;obtain⟨hS,hB,xJ,sw,i,hh,Cy,Ct,pK⟩:=h;exact⟨hS,hB.trans (hf.fp hB.size hG),xJ,sw,i,hh,Cy,Ct,(hf.block gc bn hn).trans pK⟩
section
variable{w0 w wr w':World}{gc:Nat}{a:Option Addr}{len cap:Nat}{code:List UInt8}{RB X:Nat}{la ma ha:Option Addr}{ln lc mn mc hn hc:Nat}{s s':de}{F:List Nat}
theorem DU.gX(h:DU w0 w wr gc a len cap code RB X la ln lc ma mn mc ha hn hc s F):gc≠X∧gc∉F∧gc≠RB:=by
 have h1:=h.old;have h2:=h.new;have h3:=h.rn;refine⟨fun e=>?_,fun e=>?_,fun e=>?_⟩
 · have:=h2 X List.mem_cons_self; omega
 · have:=h2 gc (List.mem_cons_of_mem _ e); omega
 · omega
theorem gW.vC{k:Nat}{w w':World}(h:gW w X tl [] [] la ln lc ma mn mc ha hn hc s F)(hg:w.grownBy w' (some k))(h1:k≠X)(h2:k∉F):gW w' X tl [] [] la ln lc ma mn mc ha hn hc s F:=
 ⟨h.box.grown hg (fun e=>h1 (Option.some.inj e).symm),h.own.keep (fun j hj=>hg.block j (h.own.lt j hj) (fun e=>h2 (by rw[←Option.some.inj e]; exact hj))),h.out⟩
theorem DU.step(h:DU w0 w wr gc a len cap code RB X la ln lc ma mn mc ha hn hc s F)(Cv:gY w0 w' gc a len cap code)(hg:wr.grownBy w' (some gc)):DU w0 w w' gc a len cap code RB X la ln lc ma mn mc ha hn hc s F:=by
 obtain⟨g1,g2,g3⟩:=h.gX;exact⟨Cv,h.ins.vC hg g1 g2,h.dr,h.new,h.old,h.base,az h.fr hg,h.rb.grown hg (fun e=>g3 (Option.some.inj e).symm),h.rX,h.rF,h.rn⟩
theorem DU.wrote(h:DU w0 w wr gc a len cap code RB X la ln lc ma mn mc ha hn hc s F)(hw:dH wr X tl [] [] F s' w')(hd:eS s'):∃la ln lc ma mn mc ha hn hc F',DU w0 w w' gc a len cap code RB X la ln lc ma mn mc ha hn hc s' F':=by
 obtain⟨g1,g2,g3⟩:=h.gX;obtain⟨BA,BB,BC,Va,Vb,Vc,Nv,Q2,Cv,F',h1,h2,h3⟩:=hw;have jg:=h.fr.size;have kU:∀k∈F',w.heap.size≤k:=fun k hk=>by
  rcases h3 k hk with e | e
  · exact h.new k (List.mem_cons_of_mem _ e)
  · omega
 refine⟨BA,BB,BC,Va,Vb,Vc,Nv,Q2,Cv,F',x_ h.cur h2 (fun e=>?_) (fun k hk=>Nat.le_trans h.base (h.new k hk)),h1,hd,fun k hk=>?_,h.old,h.base,?_,h.rb.frame h2 (fun e=>?_),h.rX,fun e=>?_,h.rn⟩
 · rcases List.mem_cons.1 e with e | e
   · exact g1 e
   · exact g2 e
 · rcases List.mem_cons.1 hk with e | e
   · rw[e]; exact h.new X List.mem_cons_self
   · exact kU k e
 · exact⟨h2.os.trans h.fr.os,h2.tape.trans h.fr.tape,h2.output.trans h.fr.output,Nat.le_trans h.fr.size h2.size,fun k hk bh=>(h2.block k (Nat.lt_of_lt_of_le hk h.fr.size) (fun e=>by have:=h.new k e; omega)).trans (h.fr.block k hk bh)⟩
 · rcases List.mem_cons.1 e with e | e
   · exact h.rX e
   · exact h.rF e
 · rcases h3 RB e with e | e
   · exact h.rF e
   · have:=h.rb.lt; omega
theorem DU.lens(h:DU w0 w wr gc a len cap code RB X la ln lc ma mn mc ha hn hc s F):ln≤300∧hn≤300∧ln=s.2.1.length∧hn=s.2.2.2.2.length:=by
 obtain⟨l1,l2,l3⟩:=h.ins.lens;have:=h.dr.right.room;omega
theorem DU.sure(h:DU w0 w wr gc a len cap code RB X la ln lc ma mn mc ha hn hc s F):DU w0 w (wr.setCell ⟨X,2,none⟩ (.int .i64 (ln:Int))) gc a len cap code RB X la ln lc ma mn mc ha hn hc (s.1,s.2.1,(s.2.1.length:Int),s.2.2.2.1,s.2.2.2.2) F:=by
 obtain⟨g1,g2,g3⟩:=h.gX;obtain⟨k1,_,k2,_⟩:=h.lens;have c:=h.ins.box.set 2 (by simp[aU]) (.int .i64 (ln:Int))
 simp only[List.length_nil,Nat.zero_add] at c;have hX:=h.new X List.mem_cons_self;have fH:(Lit.int .i64 (s.2.1.length:Int)).wf=true:=by
  simp[Lit.wf,IntKind.min,IntKind.max,IntKind.signed,IntKind.bits]; omega
 have hO:=h.ins.own.keep (w':=wr.setCell ⟨X,2,none⟩ (.int .i64 (ln:Int))) (fun j hj=>c.2.block j (h.ins.own.lt j hj) (fun e=>h.ins.out (by rw[←Option.some.inj e]; exact hj)))
 refine⟨h.cur.grown c.2 (fun e=>g1 (Option.some.inj e)) (fun k e=>by cases e; exact Nat.le_trans h.base hX),⟨by rw[←k2]; exact c.1,⟨hO.id,fH,hO.log,hO.map,hO.nodup⟩,h.ins.out⟩,h.dr.sure,h.new,h.old,h.base,?_,h.rb.grown c.2 (fun e=>h.rX (Option.some.inj e)),h.rX,h.rF,h.rn⟩
 exact⟨c.2.os.trans h.fr.os,c.2.tape.trans h.fr.tape,c.2.output.trans h.fr.output,Nat.le_trans h.fr.size c.2.size,fun k hk bh=>(c.2.block k (Nat.lt_of_lt_of_le hk h.fr.size) (fun e=>by have:=Option.some.inj e; omega)).trans (h.fr.block k hk bh)⟩
end
def NS(w0 w:World)(gc:Nat)(a:Option Addr)(len cap:Nat)(code:List UInt8)(e:Ending)(w':World):Prop:=
 ∃(la:Option Addr) (ln lc:Nat) (ma:Option Addr) (mn mc:Nat) (ha:Option Addr) (hn hc:Nat) (s:de) (F:List Nat),eS s∧e=.returned (cd s.1 s.2.2.1 la ln lc ma mn mc ha hn hc)∧dn w' la ln lc ma mn mc ha hn hc s F∧(∀k∈F,w.heap.size≤k)∧gY w0 w' gc a len cap code∧w.grownBy w' (some gc)
theorem rC{w w':World}{base g n c:Nat}{l:List Od}{G:List Nat}(ho:ck w base g n c l)(hf:lay.Frame G w w')(hn:g∉G):dS w' (some ⟨g,0,none⟩) n l:=by
 have h9:=ho.mono (base':=0) (Nat.zero_le _);refine ck.sl (base:=0) ⟨h9.1,h9.2.1,cV h9.2.2 (fun k e=>?_)⟩
 have e3:g=k:=by simpa[Value.ownBlock] using e
 subst e3;exact hf.block g ho.lt.2 hn
theorem eu{w:World}{o:Obj}:Below w.heap.size w (w.alloc o):=(Below.refl _ _).alloc (Nat.le_refl _) _
theorem ME(w0 w:World)(gc:Nat)(a:Option Addr)(len cap:Nat)(code:List UInt8)(ff:Nat)(h:gY w0 w gc a len cap code)(hm:0<ff)(jU:ff≤1000):
 Calls Tryz.prog 89 #[.pointer (some ⟨gc,0,none⟩),.int .i64 (ff:Int)] w fun e w'=>NS w0 w gc a len cap code e w':=by
 have cZ:=h.lt;have rS:=h.fp.size;obtain⟨wa,jw⟩:∃wa,w.alloc (cA 0 0 none 0 0 none 0 0 none 0 0)=wa:=⟨_,rfl⟩;have bw:Below w.heap.size w wa:=by rw[←jw]; exact eu
 have Hz:wa.heap.size=w.heap.size+1:=by rw[←jw]; simp
 have x6:aD w.heap.size tl [] zy [] wa:=by rw[←jw]; exact aO w _ _
 have x7:=Hid.mk' jw;clear jw;aj Tryz.func89,Tryz.ntmps89;ab fail;rw[x7.out];refine(cH w0 _ gc a len cap code 4 (h.below bw) (by omega) (by omega)).mono ?_
 rintro e w1 ⟨x,hx,rfl,gL,ij⟩;have pH:=x6.grown ij (fun e=>by have:=Option.some.inj e; omega)
 have E5:w.grownBy w1 (some gc):=az (aZ (World.grownBy.refl _ _) bw) ij;clear x7;have SZ:0≤(x:Int)∧(x:Int)≤7:=by omega
 have GA:(qt (x:Int)).1=(x:Int):=by unfold qt; rw[if_pos SZ]
 have wh:=Hid.mk' (wY (x:Int) w1);rw[GA] at wh;clear GA;ab fail;refine wh.out.mono ?_;rintro e w2 ⟨rfl,be⟩;clear wh;unfold sv;obtain⟨wb,nM⟩:∃wb,w2.alloc (cA (x:Int) 0 none 0 0 none 0 0 none 0 0)=wb:=⟨_,rfl⟩;have pY:Below w2.heap.size w2 wb:=by rw[←nM]; exact eu
 have S0:aD w2.heap.size tl [] (aU (x:Int) 0 none 0 0 none 0 0 none 0 0) [] wb:=by rw[←nM]; exact aO w2 _ _
 have dF:=(pH.below be).below pY;have ei:=(gL.below be).below pY;have oF:=aZ (aZ E5 be) pY;have pQ:=oF.size;have mg:=pH.lt;have PE:=be.size;have JZ:(Lit.int .i64 (x:Int)).wf=true:=by
  simp[Lit.wf,IntKind.min,IntKind.max,IntKind.signed,IntKind.bits]; omega
 have Lv:DU w0 w wb gc a len cap code w.heap.size w2.heap.size none 0 0 none 0 0 none 0 0 ((x:Int),[],0,[],[]) []:=
  ⟨ei,⟨S0,Gi wb _ JZ,List.not_mem_nil⟩,Gw SZ,fun k hk=>by rw[List.mem_singleton.1 hk]; omega,cZ,rS,oF,dF,by omega,List.not_mem_nil,Nat.le_refl _⟩
 have NT:=Hid.mk' nM;generalize hXX:w2.heap.size=X at *;have vD:=Hid.mk' (cH w0 wb gc a len cap code (ff:Int) ei (by omega) (by omega))
 clear nM ei oF dF S0 pY be gL ij E5 pH x6 bw Hz mg PE pQ;ab fail;rw[NT.out];refine vD.out.mono ?_;rintro e w3 ⟨y,hy,rfl,fR,kQ⟩;have L5:=Lv.step fR kQ;clear Lv fR kQ vD NT;ab fail;aN [6] (fun i wr=>∃(k:Nat) (la:Option Addr) (ln lc:Nat) (ma:Option Addr) (mn mc:Nat) (ha:Option Addr) (hn hc:Nat) (s:de) (F:List Nat),k≤ff∧i=.int .i64 (k:Int)∧DU w0 w wr gc a len cap code w.heap.size X la ln lc ma mn mc ha hn hc s F) (fun i _=>(intOf i).toNat)
 case atStart=>exact⟨y,_,_,_,_,_,_,_,_,_,_,_,by omega,rfl,L5⟩
 case round=>
  clear L5;obtain⟨k,la,ln,lc,ma,mn,mc,ha,hn,hc,s,F,hk,rfl,hD⟩:=hrel;by_cases bn:0<k
  · have fZ:(0:Int)<(k:Int):=by omega
    ab fail;refine(cH w0 _ gc a len cap code 6 hD.cur (by omega) (by omega)).mono ?_
    rintro e w4 ⟨tx,wv,rfl,kn,zV⟩;have Xj:=hD.step kn zV;clear hD kn zV;ab fail;refine(cH w0 _ gc a len cap code 8 Xj.cur (by omega) (by omega)).mono ?_
    rintro e w5 ⟨z,hz,rfl,jx,ix⟩;have dw:=Xj.step jx ix;clear Xj jx ix;have Xk:z=0∨z=1∨z=2∨z=3∨z=4∨z=5∨z=6∨z=7:=by omega
    have GB:1≤(1:Int)+(tx:Int)∧(1:Int)+(tx:Int)≤6:=by omega
    have GC:(Lit.int .i64 ((1:Int)+(tx:Int))).wf=true:=by
     simp[Lit.wf,IntKind.min,IntKind.max,IntKind.signed,IntKind.bits]; omega
    clear hz;obtain⟨Cw,hh3,mb,xS⟩:=dw.lens;have xU:=Hid.mk' mb;have Sw:=Hid.mk' xS;clear mb xS;rcases Xk with rfl | rfl | rfl | rfl | rfl | rfl | rfl | rfl
    · ab fail;refine(rB w0 _ gc a len cap code dw.cur).mono ?_;rintro e w6 ⟨g,n,cp,l,Cm,ri,rfl,en,eU,dJ⟩;have fE:=dw.step eU dJ;have xc:g∉X::F:=fun e=>by
       have h1:=en.lt.1;have h2:=dw.ins.box.lt;rcases List.mem_cons.1 e with e | e
       · omega
       · have:=dw.ins.own.lt g e; omega
      have mv:∀p∈l,p.2.1.size≤1099511627776:=fun p hp=>by
       have:=(gk (((bG _).1 ri).1.1 p hp)).2.2.1;omega
      have tR:=Hid.mk' (ld X tl [] [] la ln lc ma mn mc ha hn hc s F (1+(tx:Int)) (some ⟨g,0,none⟩) n cp l w6 fE.ins (fun w' hf=>rC en hf xc) mv GC (by omega) fE.dr.right)
      clear dw en eU dJ;ab fail;refine tR.out.mono ?_;rintro e w7 ⟨rfl,nA⟩;obtain⟨DV,DW,DX,NU,NV,NW,te,pE,ei,F2,lI⟩:=fE.wrote nA (fE.dr.hold l GB);clear tR nA fE;ab fail;aA
      case rel=>exact⟨k - 1,_,_,_,_,_,_,_,_,_,_,_,by omega,by aF,lI⟩
      case measure=>simp[intOf]; omega
    · ab fail;refine(rB w0 _ gc a len cap code dw.cur).mono ?_;rintro e w6 ⟨g,n,cp,l,Cm,ri,rfl,en,eU,dJ⟩;have fE:=dw.step eU dJ;have xc:g∉X::F:=fun e=>by
       have h1:=en.lt.1;have h2:=dw.ins.box.lt;rcases List.mem_cons.1 e with e | e
       · omega
       · have:=dw.ins.own.lt g e; omega
      have mv:∀p∈l,p.2.1.size≤1099511627776:=fun p hp=>by
       have:=(gk (((bG _).1 ri).1.1 p hp)).2.2.1;omega
      have tR:=Hid.mk' (ld X tl [] [] la ln lc ma mn mc ha hn hc s F (1+(tx:Int)) (some ⟨g,0,none⟩) n cp l w6 fE.ins (fun w' hf=>rC en hf xc) mv GC (by omega) fE.dr.right)
      clear dw en eU dJ;ab fail;refine tR.out.mono ?_;rintro e w7 ⟨rfl,nA⟩;obtain⟨DV,DW,DX,NU,NV,NW,te,pE,ei,F2,lI⟩:=fE.wrote nA (fE.dr.hold l GB);clear tR nA fE;ab fail;aA
      case rel=>exact⟨k - 1,_,_,_,_,_,_,_,_,_,_,_,by omega,by aF,lI⟩
      case measure=>simp[intOf]; omega
    · ab fail;refine(rB w0 _ gc a len cap code dw.cur).mono ?_;rintro e w6 ⟨g,n,cp,l,Cm,ri,rfl,en,eU,dJ⟩;have fE:=dw.step eU dJ;have xc:g∉X::F:=fun e=>by
       have h1:=en.lt.1;have h2:=dw.ins.box.lt;rcases List.mem_cons.1 e with e | e
       · omega
       · have:=dw.ins.own.lt g e; omega
      have mv:∀p∈l,p.2.1.size≤1099511627776:=fun p hp=>by
       have:=(gk (((bG _).1 ri).1.1 p hp)).2.2.1;omega
      have tR:=Hid.mk' (ld X tl [] [] la ln lc ma mn mc ha hn hc s F (1+(tx:Int)) (some ⟨g,0,none⟩) n cp l w6 fE.ins (fun w' hf=>rC en hf xc) mv GC (by omega) fE.dr.right)
      clear dw en eU dJ;ab fail;refine tR.out.mono ?_;rintro e w7 ⟨rfl,nA⟩;obtain⟨DV,DW,DX,NU,NV,NW,te,pE,ei,F2,lI⟩:=fE.wrote nA (fE.dr.hold l GB);clear tR nA fE;ab fail;aA
      case rel=>exact⟨k - 1,_,_,_,_,_,_,_,_,_,_,_,by omega,by aF,lI⟩
      case measure=>simp[intOf]; omega
    · ab fail;refine(rB w0 _ gc a len cap code dw.cur).mono ?_;rintro e w6 ⟨g,n,cp,l,Cm,ri,rfl,en,eU,dJ⟩;have fE:=dw.step eU dJ;have xc:g∉X::F:=fun e=>by
       have h1:=en.lt.1;have h2:=dw.ins.box.lt;rcases List.mem_cons.1 e with e | e
       · omega
       · have:=dw.ins.own.lt g e; omega
      have mv:∀p∈l,p.2.1.size≤1099511627776:=fun p hp=>by
       have:=(gk (((bG _).1 ri).1.1 p hp)).2.2.1;omega
      have tR:=Hid.mk' (ld X tl [] [] la ln lc ma mn mc ha hn hc s F (1+(tx:Int)) (some ⟨g,0,none⟩) n cp l w6 fE.ins (fun w' hf=>rC en hf xc) mv GC (by omega) fE.dr.right)
      clear dw en eU dJ;ab fail;refine tR.out.mono ?_;rintro e w7 ⟨rfl,nA⟩;obtain⟨DV,DW,DX,NU,NV,NW,te,pE,ei,F2,lI⟩:=fE.wrote nA (fE.dr.hold l GB);clear tR nA fE;ab fail;aA
      case rel=>exact⟨k - 1,_,_,_,_,_,_,_,_,_,_,_,by omega,by aF,lI⟩
      case measure=>simp[intOf]; omega
    · have k4:=dw.ins.box.cell 4 _ rfl;simp only[List.length_nil,Nat.zero_add] at k4;by_cases IP:0<hn
      · have vE:(0:Int)<(hn:Int):=by omega
        obtain⟨hl,uk,hh,rq,d_⟩:=dw.ins.own.log;obtain⟨gh,rfl⟩:∃gh,ha=some ⟨gh,0,none⟩:=by
         rcases rq.shape with⟨e,_⟩ | ⟨g,c,e,_⟩
         · cases e; omega
         · cases e; exact⟨g,rfl⟩
        have j5:Below w5.heap.size w5 w5.drew:=(Below.refl _ _).drew;have vD:=Hid.mk' (cH w0 w5.drew gc a len cap code (hn:Int) (dw.cur.below j5) (by omega) (by omega))
        ab fail;refine last.aB (S:=fun w'=>aD X tl [] (aU s.1 s.2.2.1 la ln lc ma mn mc (some ⟨gh,0,none⟩) hn hc) [] w'∧bB w' 0 (.slice (some ⟨gh,0,none⟩) hn hc) s.2.2.2.2 hh) 10 (by aa) ⟨dw.ins.box.below j5,rq.below j5⟩ (fun al=>?_)
        refine last.ae (i:=0) (v:=(.pointer (some ⟨X,4,none⟩))) rfl rfl (by aa) (by aa) (by aa) (by aa) (fun _ _ _ h=>h) (Or.inl ⟨by rfl,?_⟩) (by assumption) ?_
        · intro wq aC; af
        try simp only[Act.put,List.setIfInBounds_toArray,List.set_cons_zero,List.set_cons_succ];refine last.ae (i:=1) (v:=(.slice (some ⟨gh,0,none⟩) hn hc)) rfl rfl (by aa) (by aa) (by aa) (by aa) (fun _ _ _ h=>h) (Or.inl ⟨by rfl,?_⟩) (by assumption) ?_
        · intro wq aC; have q:=aC.1.cell 4 _ rfl; simp only[List.length_nil,Nat.zero_add] at q; af
        try simp only[Act.put,List.setIfInBounds_toArray,List.set_cons_zero,List.set_cons_succ];refine last.ae (i:=2) (v:=(.pointer (some ⟨gc,0,none⟩))) rfl rfl (by aa) (by aa) (by aa) (by aa) (fun _ _ _ h=>h) (Or.inl ⟨by rfl,?_⟩) (by assumption) ?_
        · intro wq aC; af
        try simp only[Act.put,List.setIfInBounds_toArray,List.set_cons_zero,List.set_cons_succ];refine last.ae (i:=3) (v:=(.pointer (some ⟨X,4,none⟩))) rfl rfl (by aa) (by aa) (by aa) (by aa) (fun _ _ _ h=>h) (Or.inl ⟨by rfl,?_⟩) (by assumption) ?_
        · intro wq aC; af
        try simp only[Act.put,List.setIfInBounds_toArray,List.set_cons_zero,List.set_cons_succ];refine last.ae (i:=4) (v:=(.slice (some ⟨gh,0,none⟩) hn hc)) rfl rfl (by aa) (by aa) (by aa) (by aa) (fun _ _ _ h=>h) (Or.inl ⟨by rfl,?_⟩) (by assumption) ?_
        · intro wq aC; have q:=aC.1.cell 4 _ rfl; simp only[List.length_nil,Nat.zero_add] at q; af
        try simp only[Act.put,List.setIfInBounds_toArray,List.set_cons_zero,List.set_cons_succ];refine last.ae (i:=5) (v:=(.int .i64 (hn:Int))) rfl rfl (by aa) (by aa) (by aa) (by aa) (fun _ _ _ h=>h) (Or.inl ⟨by rfl,?_⟩) (by assumption) ?_
        · intro wq aC; af
        try simp only[Act.put,List.setIfInBounds_toArray,List.set_cons_zero,List.set_cons_succ];refine last.ax (i:=6) (o:=qO20) (by aa) rfl (fun K hK=>?_)
        refine fM.mV rfl 68 (.tmp 44) (.tmp 47) _ rfl (fun _ _=>rfl) (.pointer (some ⟨gc,0,none⟩)) (.int .i64 (hn:Int)) (by aa) (by aa) _ vD.out ?_
        rintro e w6 ⟨j,hj,rfl,eU,J0⟩;refine⟨_,rfl,?_⟩;have dJ:w5.grownBy w6 (some gc):=az (aZ (World.grownBy.refl _ _) j5) J0;have fE:=dw.step eU dJ;obtain⟨g1,g2,g3⟩:=dw.gX;have DY:=rq.grown dJ (fun e=>g2 (by rw[d_]; exact List.mem_append.2 (.inr (List.mem_append.2 (.inr (aJ.2 e))))))
        have e7:j<s.2.2.2.2.length:=by have:=Sw.out; omega
        have DZ:(j:Int)<(hn:Int):=hj;have wU:=(fE.dr.right.pq _ (List.getElem_mem e7)).1;have Xl:=fE.dr.E1 _ wU;refine hK.out _ _ ?_ (fun aq=>?_)
        · exact⟨fE.ins.box,DY⟩
        clear hK K al;have al:=aq;clear aq;try simp only[Act.put,List.setIfInBounds_toArray,List.set_cons_zero,List.set_cons_succ];refine last.ae (i:=7) (v:=(.pointer (some ⟨gh,j * 3,none⟩))) rfl rfl (by aa) (by aa) (by aa) (by aa) (fun _ _ _ h=>h) (Or.inl ⟨by rfl,?_⟩) (by assumption) ?_
        · intro wq aC; af
        try simp only[Act.put,List.setIfInBounds_toArray,List.set_cons_zero,List.set_cons_succ];refine last.ae (i:=8) (v:=(.pointer (some ⟨gh,j * 3+1,none⟩))) rfl rfl (by aa) (by aa) (by aa) (by aa) (fun _ _ _ h=>h) (Or.inl ⟨by rfl,?_⟩) (by assumption) ?_
        · intro wq aC; af
        try simp only[Act.put,List.setIfInBounds_toArray,List.set_cons_zero,List.set_cons_succ];refine last.ae (i:=9) (v:=(.int .i64 s.2.2.2.2[j].2.1)) rfl rfl (by aa) (by aa) (by aa) (by aa) (fun _ _ _ h=>h) (Or.inl ⟨by rfl,?_⟩) (by assumption) ?_
        · intro wq aC; have q:=(aC.2.at j e7).2.1; af
        try simp only[Act.put,List.setIfInBounds_toArray,List.set_cons_zero,List.set_cons_succ];refine last.aL (o:=qO21) (by aa) rfl (by aa) (fun K hK=>?_)
        af;refine hK.out _ _ ?_;clear hK K;have zz:(Lit.int .i64 s.2.2.2.2[j].2.1).wf=true:=(DY.sm _ (List.getElem_mem e7)).2.1;clear al DY rq uk vD J0 dJ eU k4 j5;generalize s.2.2.2.2[j].2.1=xg at *;ab fail;refine(mZ w0 _ gc a len cap code 4 fE.cur (by omega) (by omega)).mono ?_
        rintro e w8 ⟨b8,rfl,tV,sy⟩;have oG:=fE.step tV sy;have J1:=Hid.mk' (fun yes=>jz X tl [] [] la ln lc ma mn mc (some ⟨gh,0,none⟩) hn hc s F xg yes w8 oG.ins zz oG.dr.right)
        clear tV sy dw fE;ab fail;refine(J1.out _).mono ?_;rintro e w9 ⟨rfl,nA⟩;obtain⟨DV,DW,DX,NU,NV,NW,te,pE,ei,F2,lI⟩:=oG.wrote nA (oG.dr.decide _ Xl);clear J1 nA oG;ab fail;aA
        case rel=>exact⟨k - 1,_,_,_,_,_,_,_,_,_,_,_,by omega,by aF,lI⟩
        case measure=>simp[intOf]; omega
      · have vE:¬(0:Int)<(hn:Int):=by omega
        ab fail;refine(mZ w0 _ gc a len cap code 4 dw.cur (by omega) (by omega)).mono ?_
        rintro e w8 ⟨b8,rfl,tV,sy⟩;have oG:=dw.step tV sy;have J1:=Hid.mk' (fun yes=>jz X tl [] [] la ln lc ma mn mc ha hn hc s F (1+(tx:Int)) yes w8 oG.ins GC oG.dr.right)
        clear tV sy dw;ab fail;refine(J1.out _).mono ?_;rintro e w9 ⟨rfl,nA⟩;obtain⟨DV,DW,DX,NU,NV,NW,te,pE,ei,F2,lI⟩:=oG.wrote nA (oG.dr.decide _ GB);clear J1 nA oG;ab fail;aA
        case rel=>exact⟨k - 1,_,_,_,_,_,_,_,_,_,_,_,by omega,by aF,lI⟩
        case measure=>simp[intOf]; omega
    · have k4:=dw.ins.box.cell 4 _ rfl;simp only[List.length_nil,Nat.zero_add] at k4;by_cases IP:0<hn
      · have vE:(0:Int)<(hn:Int):=by omega
        obtain⟨hl,uk,hh,rq,d_⟩:=dw.ins.own.log;obtain⟨gh,rfl⟩:∃gh,ha=some ⟨gh,0,none⟩:=by
         rcases rq.shape with⟨e,_⟩ | ⟨g,c,e,_⟩
         · cases e; omega
         · cases e; exact⟨g,rfl⟩
        have j5:Below w5.heap.size w5 w5.drew:=(Below.refl _ _).drew;have vD:=Hid.mk' (cH w0 w5.drew gc a len cap code (hn:Int) (dw.cur.below j5) (by omega) (by omega))
        ab fail;refine last.aB (S:=fun w'=>aD X tl [] (aU s.1 s.2.2.1 la ln lc ma mn mc (some ⟨gh,0,none⟩) hn hc) [] w'∧bB w' 0 (.slice (some ⟨gh,0,none⟩) hn hc) s.2.2.2.2 hh) 10 (by aa) ⟨dw.ins.box.below j5,rq.below j5⟩ (fun al=>?_)
        refine last.ae (i:=0) (v:=(.pointer (some ⟨X,4,none⟩))) rfl rfl (by aa) (by aa) (by aa) (by aa) (fun _ _ _ h=>h) (Or.inl ⟨by rfl,?_⟩) (by assumption) ?_
        · intro wq aC; af
        try simp only[Act.put,List.setIfInBounds_toArray,List.set_cons_zero,List.set_cons_succ];refine last.ae (i:=1) (v:=(.slice (some ⟨gh,0,none⟩) hn hc)) rfl rfl (by aa) (by aa) (by aa) (by aa) (fun _ _ _ h=>h) (Or.inl ⟨by rfl,?_⟩) (by assumption) ?_
        · intro wq aC; have q:=aC.1.cell 4 _ rfl; simp only[List.length_nil,Nat.zero_add] at q; af
        try simp only[Act.put,List.setIfInBounds_toArray,List.set_cons_zero,List.set_cons_succ];refine last.ae (i:=2) (v:=(.pointer (some ⟨gc,0,none⟩))) rfl rfl (by aa) (by aa) (by aa) (by aa) (fun _ _ _ h=>h) (Or.inl ⟨by rfl,?_⟩) (by assumption) ?_
        · intro wq aC; af
        try simp only[Act.put,List.setIfInBounds_toArray,List.set_cons_zero,List.set_cons_succ];refine last.ae (i:=3) (v:=(.pointer (some ⟨X,4,none⟩))) rfl rfl (by aa) (by aa) (by aa) (by aa) (fun _ _ _ h=>h) (Or.inl ⟨by rfl,?_⟩) (by assumption) ?_
        · intro wq aC; af
        try simp only[Act.put,List.setIfInBounds_toArray,List.set_cons_zero,List.set_cons_succ];refine last.ae (i:=4) (v:=(.slice (some ⟨gh,0,none⟩) hn hc)) rfl rfl (by aa) (by aa) (by aa) (by aa) (fun _ _ _ h=>h) (Or.inl ⟨by rfl,?_⟩) (by assumption) ?_
        · intro wq aC; have q:=aC.1.cell 4 _ rfl; simp only[List.length_nil,Nat.zero_add] at q; af
        try simp only[Act.put,List.setIfInBounds_toArray,List.set_cons_zero,List.set_cons_succ];refine last.ae (i:=5) (v:=(.int .i64 (hn:Int))) rfl rfl (by aa) (by aa) (by aa) (by aa) (fun _ _ _ h=>h) (Or.inl ⟨by rfl,?_⟩) (by assumption) ?_
        · intro wq aC; af
        try simp only[Act.put,List.setIfInBounds_toArray,List.set_cons_zero,List.set_cons_succ];refine last.ax (i:=6) (o:=qO20) (by aa) rfl (fun K hK=>?_)
        refine fM.mV rfl 68 (.tmp 44) (.tmp 47) _ rfl (fun _ _=>rfl) (.pointer (some ⟨gc,0,none⟩)) (.int .i64 (hn:Int)) (by aa) (by aa) _ vD.out ?_
        rintro e w6 ⟨j,hj,rfl,eU,J0⟩;refine⟨_,rfl,?_⟩;have dJ:w5.grownBy w6 (some gc):=az (aZ (World.grownBy.refl _ _) j5) J0;have fE:=dw.step eU dJ;obtain⟨g1,g2,g3⟩:=dw.gX;have DY:=rq.grown dJ (fun e=>g2 (by rw[d_]; exact List.mem_append.2 (.inr (List.mem_append.2 (.inr (aJ.2 e))))))
        have e7:j<s.2.2.2.2.length:=by have:=Sw.out; omega
        have DZ:(j:Int)<(hn:Int):=hj;have wU:=(fE.dr.right.pq _ (List.getElem_mem e7)).1;have Xl:=fE.dr.E1 _ wU;refine hK.out _ _ ?_ (fun aq=>?_)
        · exact⟨fE.ins.box,DY⟩
        clear hK K al;have al:=aq;clear aq;try simp only[Act.put,List.setIfInBounds_toArray,List.set_cons_zero,List.set_cons_succ];refine last.ae (i:=7) (v:=(.pointer (some ⟨gh,j * 3,none⟩))) rfl rfl (by aa) (by aa) (by aa) (by aa) (fun _ _ _ h=>h) (Or.inl ⟨by rfl,?_⟩) (by assumption) ?_
        · intro wq aC; af
        try simp only[Act.put,List.setIfInBounds_toArray,List.set_cons_zero,List.set_cons_succ];refine last.ae (i:=8) (v:=(.pointer (some ⟨gh,j * 3+1,none⟩))) rfl rfl (by aa) (by aa) (by aa) (by aa) (fun _ _ _ h=>h) (Or.inl ⟨by rfl,?_⟩) (by assumption) ?_
        · intro wq aC; af
        try simp only[Act.put,List.setIfInBounds_toArray,List.set_cons_zero,List.set_cons_succ];refine last.ae (i:=9) (v:=(.int .i64 s.2.2.2.2[j].2.1)) rfl rfl (by aa) (by aa) (by aa) (by aa) (fun _ _ _ h=>h) (Or.inl ⟨by rfl,?_⟩) (by assumption) ?_
        · intro wq aC; have q:=(aC.2.at j e7).2.1; af
        try simp only[Act.put,List.setIfInBounds_toArray,List.set_cons_zero,List.set_cons_succ];refine last.aL (o:=qO21) (by aa) rfl (by aa) (fun K hK=>?_)
        af;refine hK.out _ _ ?_;clear hK K;have zz:(Lit.int .i64 s.2.2.2.2[j].2.1).wf=true:=(DY.sm _ (List.getElem_mem e7)).2.1;clear al DY rq uk vD J0 dJ eU k4 j5;generalize s.2.2.2.2[j].2.1=xg at *;ab fail;refine(mZ w0 _ gc a len cap code 4 fE.cur (by omega) (by omega)).mono ?_
        rintro e w8 ⟨b8,rfl,tV,sy⟩;have oG:=fE.step tV sy;have J1:=Hid.mk' (fun yes=>jz X tl [] [] la ln lc ma mn mc (some ⟨gh,0,none⟩) hn hc s F xg yes w8 oG.ins zz oG.dr.right)
        clear tV sy dw fE;ab fail;refine(J1.out _).mono ?_;rintro e w9 ⟨rfl,nA⟩;obtain⟨DV,DW,DX,NU,NV,NW,te,pE,ei,F2,lI⟩:=oG.wrote nA (oG.dr.decide _ Xl);clear J1 nA oG;ab fail;aA
        case rel=>exact⟨k - 1,_,_,_,_,_,_,_,_,_,_,_,by omega,by aF,lI⟩
        case measure=>simp[intOf]; omega
      · have vE:¬(0:Int)<(hn:Int):=by omega
        ab fail;refine(mZ w0 _ gc a len cap code 4 dw.cur (by omega) (by omega)).mono ?_
        rintro e w8 ⟨b8,rfl,tV,sy⟩;have oG:=dw.step tV sy;have J1:=Hid.mk' (fun yes=>jz X tl [] [] la ln lc ma mn mc ha hn hc s F (1+(tx:Int)) yes w8 oG.ins GC oG.dr.right)
        clear tV sy dw;ab fail;refine(J1.out _).mono ?_;rintro e w9 ⟨rfl,nA⟩;obtain⟨DV,DW,DX,NU,NV,NW,te,pE,ei,F2,lI⟩:=oG.wrote nA (oG.dr.decide _ GB);clear J1 nA oG;ab fail;aA
        case rel=>exact⟨k - 1,_,_,_,_,_,_,_,_,_,_,_,by omega,by aF,lI⟩
        case measure=>simp[intOf]; omega
    · have k1:=dw.ins.box.cell 1 _ rfl;have k2:=dw.ins.box.cell 2 _ rfl;have f2:=dw.ins.box.fz 2;simp only[List.length_nil,Nat.zero_add] at k1 k2;have lI:=dw.sure;ab fail;aA
      case rel=>exact⟨k - 1,_,_,_,_,_,_,_,_,_,_,_,by omega,by aF,lI⟩
      case measure=>simp[intOf]; omega
    · ab fail;refine(cH w0 _ gc a len cap code 3 dw.cur (by omega) (by omega)).mono ?_
      rintro e w6 ⟨kp,hkp,rfl,eU,dJ⟩;have fE:=dw.step eU dJ;have wW:=Hid.mk' (zp X tl [] [] la ln lc ma mn mc ha hn hc s F (kp:Int) w6 fE.ins fE.dr.right fE.dr.right.jS);clear dw eU dJ;ab fail;refine wW.out.mono ?_;rintro e w7 ⟨rfl,nA⟩;obtain⟨DV,DW,DX,NU,NV,NW,te,pE,ei,F2,lI⟩:=fE.wrote nA (fE.dr.SH _);clear wW nA fE;ab fail;aA
      case rel=>exact⟨k - 1,_,_,_,_,_,_,_,_,_,_,_,by omega,by aF,lI⟩
      case measure=>simp[intOf]; omega
  · have Cn:k=0:=by omega
    subst Cn;have b:=hD.ins.box;have q0:=b.cell 0 _ rfl;have q1:=b.cell 1 _ rfl;have q2:=b.cell 2 _ rfl;have q3:=b.cell 3 _ rfl;have q4:=b.cell 4 _ rfl;have cj:=hD.rb;have z0:=cj.cell 0 _ rfl;have z1:=cj.cell 1 _ rfl;have z2:=cj.cell 2 _ rfl;have z3:=cj.cell 3 _ rfl;have z4:=cj.cell 4 _ rfl;simp only[List.length_nil,Nat.zero_add] at q0 q1 q2 q3 q4 z0 z1 z2 z3 z4;have f0:=cj.fz 0;have f1:=cj.fz 1;have f2:=cj.fz 2;have f3:=cj.fz 3;have f4:=cj.fz 4;have cP:=cj.nH (.int .i64 s.1) (.slice la ln lc) (.int .i64 s.2.2.1) (.slice ma mn mc) (.slice ha hn hc);simp only[List.length_nil,Nat.zero_add] at cP;obtain⟨g1,g2,g3⟩:=hD.gX;have jL:=hD.ins.own.keep (fun j hj=>cP.2.block j (hD.ins.own.lt j hj) (fun e=>hD.rF (by rw[←Option.some.inj e]; exact hj)))
    have lM:=hD.cur.grown cP.2 (fun e=>g3 (Option.some.inj e)) (fun k e=>by cases e; exact rS)
    have qz:w.grownBy _ (some gc):=⟨cP.2.os.trans hD.fr.os,cP.2.tape.trans hD.fr.tape,cP.2.output.trans hD.fr.output,Nat.le_trans hD.fr.size cP.2.size,fun k hk bh=>(cP.2.block k (Nat.lt_of_lt_of_le hk hD.fr.size) (fun e=>by have:=Option.some.inj e; omega)).trans (hD.fr.block k hk bh)⟩
    have dN:=cP.1.cell 0 _ rfl;have dO:=cP.1.cell 1 _ rfl;have dP:=cP.1.cell 2 _ rfl;have dQ:=cP.1.cell 3 _ rfl;have dR:=cP.1.cell 4 _ rfl;simp only[List.length_nil,Nat.zero_add] at dN dO dP dQ dR;have HP:Hid (NS w0 w gc a len cap code (.returned (cd s.1 s.2.2.1 la ln lc ma mn mc ha hn hc)) _):=⟨la,ln,lc,ma,mn,mc,ha,hn,hc,s,F,hD.dr,rfl,jL,fun k hk=>hD.new k (List.mem_cons_of_mem _ hk),lM,qz⟩
    clear jL lM qz cP hD b;ab fail;refine bodyPost_ret (v:=cd s.1 s.2.2.1 la ln lc ma mn mc ha hn hc) ?_ rfl HP.out;simp[results,Tryz.results89,go_sem,dN,dO,dP,dQ,dR]
end bm
namespace bm
open Go Go.RowKit base aE aX dG gO lay
def GD(s:de):Nat:=kT s.2.1+2 * s.2.2.2.1.length+kT s.2.2.2.2
section
variable{w w':World}{la ma ha:Option Addr}{ln lc mn mc hn hc:Nat}{s:de}{F:List Nat}
theorem eY.lens(h:eY w la ln lc ma mn mc ha hn hc s):s.2.1.length=ln∧s.2.2.2.1.length=mn∧s.2.2.2.2.length=hn:=⟨h.log.1,h.map.1,h.held.1⟩
end
end bm
namespace bm
open Go Go.RowKit base aE aX dG gO lay
end bm
end Go.Proofs.YtmibabclefgljaaGreat
