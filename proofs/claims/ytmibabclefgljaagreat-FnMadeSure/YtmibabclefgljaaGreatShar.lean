/- DrawZ RecE DrSh ShHa ShHb -/
import Derived.Test.YtmibabclefgljaaGreatShaq
import Derived.Test.YtmibabclefgljaaGreatShap
import Derived.Test.YtmibabclefgljaaGreatShan
import Derived.Test.YtmibabclefgljaaGreatSham
set_option linter.unusedVariables false
set_option linter.unusedSimpArgs false
set_option maxRecDepth 100000
set_option maxHeartbeats 4000000
namespace Go.Proofs.YtmibabclefgljaaGreat
open Go in
abbrev qO20:Oper:={dst:=some 48,op:=Op.call {callee:=Callee.value (Operand.func 68),args:=#[Operand.tmp 44,Operand.tmp 47],argTypes:=#[51,3]},type:=3,pos:= "l09_shard.go:197",after:=#[{on:=2,ground:=Ground.data},{on:=5,ground:=Ground.data}],guard:=none}
open Go in
abbrev qO21:Oper:={dst:=some 7,op:=Op.assign (Operand.tmp 51),type:=3,pos:= "l09_shard.go:197",after:=#[{on:=9,ground:=Ground.data},{on:=6,ground:=Ground.chain},{on:=0,ground:=Ground.phase},{on:=1,ground:=Ground.phase},{on:=2,ground:=Ground.phase},{on:=3,ground:=Ground.phase},{on:=4,ground:=Ground.phase},{on:=5,ground:=Ground.phase},{on:=6,ground:=Ground.phase},{on:=7,ground:=Ground.phase},{on:=8,ground:=Ground.phase},{on:=9,ground:=Ground.phase}],guard:=none}
namespace aN
open Go Go.RowKit base av draw
def l0(o:Od):Prop:=0≤o.1∧o.1≤5∧o.2.1.size≤13∧o.2.2.size≤21
theorem fR{o:Od}(h:dF o=true):l0 o:=by
 obtain⟨h1,_,h3,h4⟩:=(jT o).1 h;have:=pP h3;exact⟨by omega,by omega,by omega,by omega⟩
theorem sT{o:Od}(h:l0 o):dN o:=by
 obtain⟨h1,h2,h3,h4⟩:=h;exact⟨WalkArith.wf_i64 (by omega),by unfold maxLen; omega,by unfold maxLen; omega⟩
theorem bR.none{w:World}{base g n cap:Nat}{l:List Od}(h:bR w base g n cap l):bR w base g 0 cap []:=by
 refine⟨rfl,fun p hp=>absurd hp List.not_mem_nil,rfl,?_⟩
 rcases h.2.2.2 with⟨h',_⟩ | ⟨g',aO,cur,h',h0,hg,h1,h2,h3,h4⟩
 · simp at h'
 · simp only[Value.slice.injEq,Option.some.injEq,Addr.mk.injEq,and_true,true_and] at h';obtain⟨rfl,rfl⟩:=h';exact .inr ⟨g,cap,cur,rfl,h0,hg,Nat.zero_le _,h2,h3,by simp[aM]⟩
def Mr(w0 w:World)(gc:Nat)(a:Option Addr)(len cap:Nat)(code:List UInt8)(e:Ending)(w':World):Prop:=
 ∃(g n cp:Nat) (l:List Od),n≤5∧(∀p∈l,l0 p)∧e=.returned (.slice (some ⟨g,0,none⟩) n cp)∧bR w' w.heap.size g n cp l∧gI w0 w' gc a len cap code∧w.grownBy w' (some gc)
theorem u_{l:List Od}{i:Nat}{p:Od}(h:∀q∈l,l0 q)(hp:l0 p):∀q∈l.set i p,l0 q:=by
 intro q hq;rcases List.mem_or_eq_of_mem_set hq with h1 | h1
 · exact h q h1
 · subst h1; exact hp
theorem Pt(w0 w:World)(gc:Nat)(a:Option Addr)(len cap:Nat)(code:List UInt8)(h:gI w0 w gc a len cap code):
 Calls Tryz.prog 128 #[.pointer (some ⟨gc,0,none⟩)] w fun e w'=>Mr w0 w gc a len cap code e w':=by
 obtain⟨i0,jG,dm,dk,cA⟩:=info_parts sx;obtain⟨j0,za,yR,Hj,Cb⟩:=info_parts RA;have cK:=h.lt;go_enter Tryz.func128,Tryz.ntmps128;go_wp2_with fail;refine(qZ w0 _ gc a len cap code h).mono ?_;rintro e w1 ⟨g,n,cp,l,hn,bD,rfl,gi,UX,EP⟩;obtain⟨⟨iD,_⟩,vP,UG⟩:=(bq l).1 bD;have ht:Hid (∀p∈l,l0 p):=fun p hp=>fR (iD p hp)
 have u9:g≠gc:=by have:=gi.lt; omega
 clear bD iD;go_wp2_with fail;refine(cf w0 _ gc a len cap code _ UX (by omega) (by omega)).mono ?_
 rintro e w2 ⟨x,hx,rfl,Cj,n9⟩;have fE:=gi.grown n9 (by simpa using u9)
 have wM:=ao EP n9;clear gi UX EP n9;have rU:=fE.1;have v_:0<n:=by omega
 have tM:0<l.length:=by omega
 have fL:(0:Int)<(n:Int):=by omega
 have hgc0:=Cj.ge;have nt:=h.e7.size;by_cases x0:x=0
 · subst x0;go_wp2_with (at_builtin; fail)
   refine(NF w0 _ gc a len cap code Cj).mono ?_;rintro e w4 ⟨o,bD,rfl,Bk,Ck⟩;have dT:=fE.grown Ck (by simpa using u9)
   have zb:=ao wM Ck;have mX:w.heap.size≤w4.heap.size:=zb.size;have fD:n+1≤maxLen:=by unfold maxLen; omega
   have jX:(n+1) * 40≤140737488355328:=by omega
   have ZO:=fR bD;clear fE Cj wM Ck bD;go_wp2_with (at_builtin; refine wpList_append_own _ rfl (.tmp 10) (.tmp 13) 73 rfl w.heap.size 121 i0 (.agg #[.int .i64 0,.string ⟨#[]⟩,.string ⟨#[]⟩]) 3 40 Tryz.underlying73 jG dm dk cA rfl (by decide) _ _ _ rfl (dT.2.2.alloc _) ⟨w4.heap.size,0,none⟩ 1 1 (aM [o]) rfl rfl (db _ _ _) (bz _) fD jX (aI _ _ mX) ?_)
   intro v5 w5 aB az cN;obtain⟨g5,vM,hv,eh⟩:=ie dT.1 dT.2.1 (sT ZO) cN aB;subst hv;have g_:(w4.alloc (.cells #[.int .i64 o.1,.string o.2.1,.string o.2.2] 121)).grownBy w5 (some g):=az;have Pn:gI w0 w5 gc a len cap code:=(Bk.below ((Below.refl _ _).alloc (Nat.le_refl _) _)).grown g_ (by simpa using u9.symm) (fun k e=>by cases e; have:=dT.lt; omega)
   have Pq:w.grownBy w5 (some gc):=cv (zW zb _) g_ dT.lt.1;have ht5:Hid (∀p∈l++[o],l0 p):=by
    intro p hp;rcases List.mem_append.1 hp with h1 | h1
    · exact ht.out p h1
    · simp at h1; subst h1; exact ZO
   have wu:=Hid.mk' eh;clear aB az cN dT Bk zb g_ eh;go_wp2_with (at_builtin; fail)
   go_ret;exact⟨g5,n+1,vM,_,by omega,ht5.out,rfl,wu.out,Pn,Pq⟩
 by_cases x1:x=1
 · subst x1;go_wp2_with (at_builtin; fail)
   refine(cf w0 _ gc a len cap code _ Cj (by omega) (by omega)).mono ?_
   rintro e w4 ⟨y,hy,rfl,Bk,Ck⟩;have dT:=fE.grown Ck (by simpa using u9)
   have zb:=ao wM Ck;have d1:=dT.kind 0 tM;have f1:=dT.frozen (0 * 3);have R:=dT.setKind 0 tM (y:Int) (WalkArith.wf_i64 (by omega))
   have zJ:=ht.out _ (List.getElem_mem tM);have HT:Hid (∀p∈l.set 0 ((y:Int),l[0].2),l0 p):=u_ ht.out ⟨by show(0:Int)≤(y:Int); omega,by show(y:Int)≤5; omega,zJ.2.2⟩
   simp only[Nat.zero_mul] at d1 f1 R;have SJ:Hid (gI w0 (w4.setCell ⟨g,0,none⟩ (.int .i64 (y:Int))) gc a len cap code):=Bk.grown R.2 (by simpa using u9.symm) (fun k e=>by cases e; have:=dT.lt; omega)
   have SK:=Hid.mk' (cv zb R.2 dT.lt.1);have HR:=Hid.mk' R.1;clear R fE Cj wM Ck dT Bk zb zJ;go_wp2_with (at_builtin; fail)
   go_ret;exact⟨g,n,cp,_,by omega,HT.out,rfl,HR.out,SJ.out,SK.out⟩
 by_cases x2:x=2
 · subst x2;go_wp2_with (at_builtin; fail)
   refine(JD w0 _ gc a len cap code Cj).mono ?_;rintro e w4 ⟨y,hy,rfl,Bk,Ck⟩;have dT:=fE.grown Ck (by simpa using u9)
   have zb:=ao wM Ck;have d1:=dT.key 0 tM;have f1:=dT.frozen (0 * 3+1);have R:=dT.CC 0 tM y (by unfold maxLen; omega)
   have zJ:=ht.out _ (List.getElem_mem tM);have HT:Hid (∀p∈l.set 0 (l[0].1,y,l[0].2.2),l0 p):=u_ ht.out ⟨zJ.1,zJ.2.1,hy,zJ.2.2.2⟩;simp only[Nat.zero_mul,Nat.zero_add] at d1 f1 R;have SJ:Hid (gI w0 (w4.setCell ⟨g,1,none⟩ (.string y)) gc a len cap code):=Bk.grown R.2 (by simpa using u9.symm) (fun k e=>by cases e; have:=dT.lt; omega)
   have SK:=Hid.mk' (cv zb R.2 dT.lt.1);have HR:=Hid.mk' R.1;clear R fE Cj wM Ck dT Bk zb zJ;go_wp2_with (at_builtin; fail)
   go_ret;exact⟨g,n,cp,_,by omega,HT.out,rfl,HR.out,SJ.out,SK.out⟩
 by_cases x3:x=3
 · subst x3;go_wp2_with (at_make; fail)
   refine(cf w0 _ gc a len cap code _ Cj (by omega) (by omega)).mono ?_
   rintro e w3 ⟨y,hy,rfl,WW,xK⟩;have d_:=fE.grown xK (by simpa using u9)
   have SL:=ao wM xK;clear fE Cj wM xK;obtain⟨m,hm⟩:∃m:Nat,20+(y:Int)=(m:Int):=⟨20+y,by omega⟩
   have WZ:m≤21:=by omega
   go_wp2_with (at_make; refine wpList_make_full _ rfl _ _ 22 rfl w3.heap.size 5 j0 (.int .u8 0) 1 Tryz.underlying22 za yR Hj _ _ _ _ m rfl rfl (by omega) (by omega) ?b2 ?b3 ?b4 ?_)
   case b2=>rw[Cb]; omega
   case b3=>unfold maxLen; omega
   case b4=>exact Nat.le_refl _
   intro w4 aB az;have SM:tj w4 w3.heap.size w3.heap.size m m (List.replicate m 0):=by
    refine⟨by simp,?_⟩
    have e:qB (List.replicate m 0)=(madeCells #[.int .u8 0] m).toList:=by
     simp[qB,toList_madeCells_one]
    rw[e]; simpa using aB
   have QV:=Io SM;have ej:Below w3.heap.size w3 w4:=(Below.refl _ _).grown az (Nat.le_refl _) (fun k e=>by cases e)
   have dT:=d_.below ej;have Bk:=WW.below ej;have Ck:=aP SL ej;have d1:=dT.val 0 tM;have f1:=dT.frozen (0 * 3+2);have Nf:(⟨(List.replicate m (0:UInt8)).toArray⟩:ByteArray).size≤21:=by show(List.replicate m (0:UInt8)).toArray.size≤21; simp; exact WZ
   have R:=dT.ym 0 tM ⟨(List.replicate m (0:UInt8)).toArray⟩ (SB Nf);have zJ:=ht.out _ (List.getElem_mem tM);have HT:Hid (∀p∈l.set 0 (l[0].1,l[0].2.1,(⟨(List.replicate m (0:UInt8)).toArray⟩:ByteArray)),l0 p):=u_ ht.out ⟨zJ.1,zJ.2.1,zJ.2.2.1,Nf⟩;simp only[Nat.zero_mul,Nat.zero_add] at d1 f1 R;have SJ:Hid (gI w0 (w4.setCell ⟨g,2,none⟩ (.string ⟨(List.replicate m (0:UInt8)).toArray⟩)) gc a len cap code):=Bk.grown R.2 (by simpa using u9.symm) (fun k e=>by cases e; have:=dT.lt; have:=Bk.ge; omega)
   have SK:=Hid.mk' (cv Ck R.2 dT.lt.1);have HR:=Hid.mk' R.1;clear R aB az SM ej d_ WW SL dT Bk Ck zJ;go_wp2_with (at_builtin; fail)
   go_ret;exact⟨g,n,cp,_,by omega,HT.out,rfl,HR.out,SJ.out,SK.out⟩
 have e0:((x:Int)==0)=false:=by simp; omega
 have e1:((x:Int)==1)=false:=by simp; omega
 have e2:((x:Int)==2)=false:=by simp; omega
 have e3:((x:Int)==3)=false:=by simp; omega
 by_cases x4:x=4
 · subst x4;have eh:=fE.none;have NB:=fE.cases;unfold maxLen at NB;clear x0 x1 x2 x3 e0 e1 e2 e3;go_wp2_with (at_builtin; fail)
   go_ret;exact⟨g,0,cp,[],by omega,fun p hp=>absurd hp List.not_mem_nil,rfl,eh,Cj,wM⟩
 · have e4:((x:Int)==4)=false:=by simp; omega
   go_wp2_with (at_builtin; fail)
   go_ret;exact⟨g,n,cp,l,by omega,ht.out,rfl,fE,Cj,wM⟩
end aN
namespace aZ
open Go Go.RowKit base av draw aN
def va(r:Rc):Prop:=(0≤r.1∧r.1≤5)∧(0≤r.2.1∧r.2.1≤1000001)∧r.2.2.length≤8∧∀p∈r.2.2,l0 p
theorem JM{r:Rc}(h:bf r=true):va r:=by
 obtain⟨h1,h2⟩:=(bE r).1 h;have hk:1≤r.1∧r.1≤3:=by rcases h2 with⟨h3,_⟩ | ⟨h3,_⟩ <;> omega
 refine⟨by omega,by omega,?_,?_⟩
 · rcases h2 with⟨_,h3⟩ | ⟨_,h3⟩
   · exact((bq _).1 h3).2.2
   · rw[h3]; simp
 · intro p hp;rcases h2 with⟨_,h3⟩ | ⟨_,h3⟩
   · exact fR (((bq _).1 h3).1.1 p hp)
   · rw[h3] at hp; exact absurd hp List.not_mem_nil
end aZ
namespace aZ
open Go Go.RowKit base av aN dp gu lay draw
theorem bZ.jB{s:cQ}(h:bZ s):vS s.2.1:=fun r hr=>by
 rcases((bE r).1 (h.bf r hr)).2 with⟨_,h2⟩ | ⟨_,h2⟩
 · refine⟨by have:=((bq _).1 h2).2.2; omega,fun p hp=>?_⟩
   have:=(fR (((bq _).1 h2).1.1 p hp)).2.2.1;omega
 · rw[h2]; exact⟨by simp,fun p hp=>absurd hp List.not_mem_nil⟩
theorem bZ.zU{s:cQ}(h:bZ s):vS s.2.2.2.2:=fun r hr=>h.jB r (h.oR r hr).1
theorem SN(a:Option Addr)(len cap:Nat)(eR:Nat)(w:World)(hm:3≤eR)(jD:eR≤1000000)(hl:len≤1099511627776):
 Calls Tryz.prog 51 #[.slice a len cap,.int .i64 (eR:Int)] w fun e w'=>∃n:Nat,3≤n∧n≤eR∧e=.returned (.int .i64 (n:Int))∧w'=w:=by
 by_cases h:(eR:Int)<3+(len:Int) / 12
 · go_enter Tryz.func51,Tryz.ntmps51;go_wp2;go_ret;exact⟨eR,hm,Nat.le_refl _,rfl,rfl⟩
 · go_enter Tryz.func51,Tryz.ntmps51;go_wp2;go_ret;exact⟨3+len / 12,by omega,by omega,gJ (by omega),rfl⟩
abbrev zc:List Value:=aK 0 0 none 0 0 none 0 0 none 0 0
abbrev sU:TypeId:=43
structure DF (w0 w wr:World) (gc:Nat) (a:Option Addr) (len cap:Nat) (code:List UInt8) (RB X:Nat) (la:Option Addr) (ln lc:Nat) (ma:Option Addr) (mn mc:Nat) (ha:Option Addr) (hn hc:Nat) (s:cQ) (F:List Nat):Prop where
 cur:gI w0 wr gc a len cap code
 ins:gH wr X sU [] [] la ln lc ma mn mc ha hn hc s F
 dr:eE s
 new:∀k∈X::F,w.heap.size≤k
 old:gc<w.heap.size
 base:w0.heap.size≤w.heap.size
 fr:w.grownBy wr (some gc)
 rb:au RB sU [] zc [] wr
 rX:RB≠X
 rF:RB∉F
 rn:w.heap.size≤RB
theorem xL{w0 w w':World}{gc:Nat}{a:Option Addr}{len cap:Nat}{code:List UInt8}{G:List Nat}(h:gI w0 w gc a len cap code)(hf:lay.Frame G w w')(hn:gc∉G)(hG:∀k∈G,w0.heap.size≤k):gI w0 w' gc a len cap code:=by
 have a6:=h.lt;obtain⟨hS,hB,xn,rU,i,hh,Ci,Cc,pj⟩:=h;exact⟨hS,hB.trans (hf.e7 hB.size hG),xn,rU,i,hh,Ci,Cc,(hf.block gc a6 hn).trans pj⟩
section
variable{w0 w wr w':World}{gc:Nat}{a:Option Addr}{len cap:Nat}{code:List UInt8}{RB X:Nat}{la ma ha:Option Addr}{ln lc mn mc hn hc:Nat}{s s':cQ}{F:List Nat}
theorem DF.gX(h:DF w0 w wr gc a len cap code RB X la ln lc ma mn mc ha hn hc s F):gc≠X∧gc∉F∧gc≠RB:=by
 have h1:=h.old;have h2:=h.new;have h3:=h.rn;refine⟨fun e=>?_,fun e=>?_,fun e=>?_⟩
 · have:=h2 X List.mem_cons_self; omega
 · have:=h2 gc (List.mem_cons_of_mem _ e); omega
 · omega
theorem gH.vb{k:Nat}{w w':World}(h:gH w X sU [] [] la ln lc ma mn mc ha hn hc s F)(hg:w.grownBy w' (some k))(h1:k≠X)(h2:k∉F):gH w' X sU [] [] la ln lc ma mn mc ha hn hc s F:=
 ⟨h.box.grown hg (fun e=>h1 (Option.some.inj e).symm),h.own.keep (fun j hj=>hg.block j (h.own.lt j hj) (fun e=>h2 (by rw[←Option.some.inj e]; exact hj))),h.out⟩
theorem DF.step(h:DF w0 w wr gc a len cap code RB X la ln lc ma mn mc ha hn hc s F)(Ce:gI w0 w' gc a len cap code)(hg:wr.grownBy w' (some gc)):DF w0 w w' gc a len cap code RB X la ln lc ma mn mc ha hn hc s F:=by
 obtain⟨g1,g2,g3⟩:=h.gX;exact⟨Ce,h.ins.vb hg g1 g2,h.dr,h.new,h.old,h.base,ao h.fr hg,h.rb.grown hg (fun e=>g3 (Option.some.inj e).symm),h.rX,h.rF,h.rn⟩
theorem DF.wrote(h:DF w0 w wr gc a len cap code RB X la ln lc ma mn mc ha hn hc s F)(hw:dq wr X sU [] [] F s' w')(hd:eE s'):∃la ln lc ma mn mc ha hn hc F',DF w0 w w' gc a len cap code RB X la ln lc ma mn mc ha hn hc s' F':=by
 obtain⟨g1,g2,g3⟩:=h.gX;obtain⟨Bl,Bm,Bn,UY,UZ,U0,Ni,QT,Ce,F',h1,h2,h3⟩:=hw;have iO:=h.fr.size;have kC:∀k∈F',w.heap.size≤k:=fun k hk=>by
  rcases h3 k hk with e | e
  · exact h.new k (List.mem_cons_of_mem _ e)
  · omega
 refine⟨Bl,Bm,Bn,UY,UZ,U0,Ni,QT,Ce,F',xL h.cur h2 (fun e=>?_) (fun k hk=>Nat.le_trans h.base (h.new k hk)),h1,hd,fun k hk=>?_,h.old,h.base,?_,h.rb.frame h2 (fun e=>?_),h.rX,fun e=>?_,h.rn⟩
 · rcases List.mem_cons.1 e with e | e
   · exact g1 e
   · exact g2 e
 · rcases List.mem_cons.1 hk with e | e
   · rw[e]; exact h.new X List.mem_cons_self
   · exact kC k e
 · exact⟨h2.os.trans h.fr.os,h2.tape.trans h.fr.tape,h2.output.trans h.fr.output,Nat.le_trans h.fr.size h2.size,fun k hk aW=>(h2.block k (Nat.lt_of_lt_of_le hk h.fr.size) (fun e=>by have:=h.new k e; omega)).trans (h.fr.block k hk aW)⟩
 · rcases List.mem_cons.1 e with e | e
   · exact h.rX e
   · exact h.rF e
 · rcases h3 RB e with e | e
   · exact h.rF e
   · have:=h.rb.lt; omega
theorem DF.lens(h:DF w0 w wr gc a len cap code RB X la ln lc ma mn mc ha hn hc s F):ln≤300∧hn≤300∧ln=s.2.1.length∧hn=s.2.2.2.2.length:=by
 obtain⟨l1,l2,l3⟩:=h.ins.lens;have:=h.dr.right.room;omega
theorem DF.sure(h:DF w0 w wr gc a len cap code RB X la ln lc ma mn mc ha hn hc s F):DF w0 w (wr.setCell ⟨X,2,none⟩ (.int .i64 (ln:Int))) gc a len cap code RB X la ln lc ma mn mc ha hn hc (s.1,s.2.1,(s.2.1.length:Int),s.2.2.2.1,s.2.2.2.2) F:=by
 obtain⟨g1,g2,g3⟩:=h.gX;obtain⟨k1,_,k2,_⟩:=h.lens;have c:=h.ins.box.set 2 (by simp[aK]) (.int .i64 (ln:Int))
 simp only[List.length_nil,Nat.zero_add] at c;have hX:=h.new X List.mem_cons_self;have fo:(Lit.int .i64 (s.2.1.length:Int)).wf=true:=by
  simp[Lit.wf,IntKind.min,IntKind.max,IntKind.signed,IntKind.bits]; omega
 have hO:=h.ins.own.keep (w':=wr.setCell ⟨X,2,none⟩ (.int .i64 (ln:Int))) (fun j hj=>c.2.block j (h.ins.own.lt j hj) (fun e=>h.ins.out (by rw[←Option.some.inj e]; exact hj)))
 refine⟨h.cur.grown c.2 (fun e=>g1 (Option.some.inj e)) (fun k e=>by cases e; exact Nat.le_trans h.base hX),⟨by rw[←k2]; exact c.1,⟨hO.id,fo,hO.log,hO.map,hO.nodup⟩,h.ins.out⟩,h.dr.sure,h.new,h.old,h.base,?_,h.rb.grown c.2 (fun e=>h.rX (Option.some.inj e)),h.rX,h.rF,h.rn⟩
 exact⟨c.2.os.trans h.fr.os,c.2.tape.trans h.fr.tape,c.2.output.trans h.fr.output,Nat.le_trans h.fr.size c.2.size,fun k hk aW=>(c.2.block k (Nat.lt_of_lt_of_le hk h.fr.size) (fun e=>by have:=Option.some.inj e; omega)).trans (h.fr.block k hk aW)⟩
end
def NG(w0 w:World)(gc:Nat)(a:Option Addr)(len cap:Nat)(code:List UInt8)(e:Ending)(w':World):Prop:=
 ∃(la:Option Addr) (ln lc:Nat) (ma:Option Addr) (mn mc:Nat) (ha:Option Addr) (hn hc:Nat) (s:cQ) (F:List Nat),eE s∧e=.returned (bO s.1 s.2.2.1 la ln lc ma mn mc ha hn hc)∧cY w' la ln lc ma mn mc ha hn hc s F∧(∀k∈F,w.heap.size≤k)∧gI w0 w' gc a len cap code∧w.grownBy w' (some gc)
theorem q7{w w':World}{base g n c:Nat}{l:List Od}{G:List Nat}(ho:bR w base g n c l)(hf:lay.Frame G w w')(hn:g∉G):dD w' (some ⟨g,0,none⟩) n l:=by
 have h9:=ho.mono (base':=0) (Nat.zero_le _);refine bR.sl (base:=0) ⟨h9.1,h9.2.1,cG h9.2.2 (fun k e=>?_)⟩
 have e3:g=k:=by simpa[Value.ownBlock] using e
 subst e3;exact hf.block g ho.lt.2 hn
theorem dY{w:World}{o:Obj}:Below w.heap.size w (w.alloc o):=(Below.refl _ _).alloc (Nat.le_refl _) _
theorem Ms(w0 w:World)(gc:Nat)(a:Option Addr)(len cap:Nat)(code:List UInt8)(eR:Nat)(h:gI w0 w gc a len cap code)(hm:0<eR)(jD:eR≤1000):
 Calls Tryz.prog 89 #[.pointer (some ⟨gc,0,none⟩),.int .i64 (eR:Int)] w fun e w'=>NG w0 w gc a len cap code e w':=by
 have cK:=h.lt;have ry:=h.e7.size;obtain⟨wa,jd⟩:∃wa,w.alloc (bW 0 0 none 0 0 none 0 0 none 0 0)=wa:=⟨_,rfl⟩;have bg:Below w.heap.size w wa:=by rw[←jd]; exact dY
 have Ho:wa.heap.size=w.heap.size+1:=by rw[←jd]; simp
 have xI:au w.heap.size sU [] zc [] wa:=by rw[←jd]; exact aE w _ _
 have xJ:=Hid.mk' jd;clear jd;go_enter Tryz.func89,Tryz.ntmps89;go_wp2_with fail;rw[xJ.out];refine(cf w0 _ gc a len cap code 4 (h.below bg) (by omega) (by omega)).mono ?_
 rintro e w1 ⟨x,hx,rfl,gk,gR⟩;have pf:=xI.grown gR (fun e=>by have:=Option.some.inj e; omega)
 have EP:w.grownBy w1 (some gc):=ao (aP (World.grownBy.refl _ _) bg) gR;clear xJ;have SO:0≤(x:Int)∧(x:Int)≤7:=by omega
 have Gk:(p6 (x:Int)).1=(x:Int):=by unfold p6; rw[if_pos SO]
 have vL:=Hid.mk' (wG (x:Int) w1);rw[Gk] at vL;clear Gk;go_wp2_with fail;refine vL.out.mono ?_;rintro e w2 ⟨rfl,aU⟩;clear vL;unfold rT;obtain⟨wb,nt⟩:∃wb,w2.alloc (bW (x:Int) 0 none 0 0 none 0 0 none 0 0)=wb:=⟨_,rfl⟩;have pF:Below w2.heap.size w2 wb:=by rw[←nt]; exact dY
 have SP:au w2.heap.size sU [] (aK (x:Int) 0 none 0 0 none 0 0 none 0 0) [] wb:=by rw[←nt]; exact aE w2 _ _
 have dn:=(pf.below aU).below pF;have dS:=(gk.below aU).below pF;have n9:=aP (aP EP aU) pF;have px:=n9.size;have lS:=pf.lt;have Pu:=aU.size;have JN:(Lit.int .i64 (x:Int)).wf=true:=by
  simp[Lit.wf,IntKind.min,IntKind.max,IntKind.signed,IntKind.bits]; omega
 have Lj:DF w0 w wb gc a len cap code w.heap.size w2.heap.size none 0 0 none 0 0 none 0 0 ((x:Int),[],0,[],[]) []:=
  ⟨dS,⟨SP,FX wb _ JN,List.not_mem_nil⟩,Gg SO,fun k hk=>by rw[List.mem_singleton.1 hk]; omega,cK,ry,n9,dn,by omega,List.not_mem_nil,Nat.le_refl _⟩
 have NH:=Hid.mk' nt;generalize hXX:w2.heap.size=X at *;have vc:=Hid.mk' (cf w0 wb gc a len cap code (eR:Int) dS (by omega) (by omega))
 clear nt dS n9 dn SP pF aU gk gR EP pf xI bg Ho lS Pu px;go_wp2_with fail;rw[NH.out];refine vc.out.mono ?_;rintro e w3 ⟨y,hy,rfl,fD,ky⟩;have LU:=Lj.step fD ky;clear Lj fD ky vc NH;go_wp2_with fail;go_loopw [6] (fun i wr=>∃(k:Nat) (la:Option Addr) (ln lc:Nat) (ma:Option Addr) (mn mc:Nat) (ha:Option Addr) (hn hc:Nat) (s:cQ) (F:List Nat),k≤eR∧i=.int .i64 (k:Int)∧DF w0 w wr gc a len cap code w.heap.size X la ln lc ma mn mc ha hn hc s F) (fun i _=>(intOf i).toNat)
 case atStart=>exact⟨y,_,_,_,_,_,_,_,_,_,_,_,by omega,rfl,LU⟩
 case round=>
  clear LU;obtain⟨k,la,ln,lc,ma,mn,mc,ha,hn,hc,s,F,hk,rfl,hD⟩:=hrel;by_cases a6:0<k
  · have fL:(0:Int)<(k:Int):=by omega
    go_wp2_with fail;refine(cf w0 _ gc a len cap code 6 hD.cur (by omega) (by omega)).mono ?_
    rintro e w4 ⟨tx,vQ,rfl,jX,zC⟩;have W8:=hD.step jX zC;clear hD jX zC;go_wp2_with fail;refine(cf w0 _ gc a len cap code 8 W8.cur (by omega) (by omega)).mono ?_
    rintro e w5 ⟨z,hz,rfl,je,g_⟩;have dd:=W8.step je g_;clear W8 je g_;have W9:z=0∨z=1∨z=2∨z=3∨z=4∨z=5∨z=6∨z=7:=by omega
    have Gl:1≤(1:Int)+(tx:Int)∧(1:Int)+(tx:Int)≤6:=by omega
    have Gm:(Lit.int .i64 ((1:Int)+(tx:Int))).wf=true:=by
     simp[Lit.wf,IntKind.min,IntKind.max,IntKind.signed,IntKind.bits]; omega
    clear hz;obtain⟨Cf,hh3,lP,xA⟩:=dd.lens;have xC:=Hid.mk' lP;have Sj:=Hid.mk' xA;clear lP xA;rcases W9 with rfl | rfl | rfl | rfl | rfl | rfl | rfl | rfl
    · go_wp2_with fail;refine(qZ w0 _ gc a len cap code dd.cur).mono ?_;rintro e w6 ⟨g,n,cp,l,B6,qO,rfl,dV,eG,du⟩;have fk:=dd.step eG du;have wK:g∉X::F:=fun e=>by
       have h1:=dV.lt.1;have h2:=dd.ins.box.lt;rcases List.mem_cons.1 e with e | e
       · omega
       · have:=dd.ins.own.lt g e; omega
      have l5:∀p∈l,p.2.1.size≤1099511627776:=fun p hp=>by
       have:=(fR (((bq _).1 qO).1.1 p hp)).2.2.1;omega
      have tw:=Hid.mk' (kM X sU [] [] la ln lc ma mn mc ha hn hc s F (1+(tx:Int)) (some ⟨g,0,none⟩) n cp l w6 fk.ins (fun w' hf=>q7 dV hf wK) l5 Gm (by omega) fk.dr.right)
      clear dd dV eG du;go_wp2_with fail;refine tw.out.mono ?_;rintro e w7 ⟨rfl,m6⟩;obtain⟨DG,DH,DI,NI,NJ,NK,sO,o9,dS,F2,lk⟩:=fk.wrote m6 (fk.dr.hold l Gl);clear tw m6 fk;go_wp2_with fail;go_roundw
      case rel=>exact⟨k - 1,_,_,_,_,_,_,_,_,_,_,_,by omega,by go_num,lk⟩
      case measure=>simp[intOf]; omega
    · go_wp2_with fail;refine(qZ w0 _ gc a len cap code dd.cur).mono ?_;rintro e w6 ⟨g,n,cp,l,B6,qO,rfl,dV,eG,du⟩;have fk:=dd.step eG du;have wK:g∉X::F:=fun e=>by
       have h1:=dV.lt.1;have h2:=dd.ins.box.lt;rcases List.mem_cons.1 e with e | e
       · omega
       · have:=dd.ins.own.lt g e; omega
      have l5:∀p∈l,p.2.1.size≤1099511627776:=fun p hp=>by
       have:=(fR (((bq _).1 qO).1.1 p hp)).2.2.1;omega
      have tw:=Hid.mk' (kM X sU [] [] la ln lc ma mn mc ha hn hc s F (1+(tx:Int)) (some ⟨g,0,none⟩) n cp l w6 fk.ins (fun w' hf=>q7 dV hf wK) l5 Gm (by omega) fk.dr.right)
      clear dd dV eG du;go_wp2_with fail;refine tw.out.mono ?_;rintro e w7 ⟨rfl,m6⟩;obtain⟨DG,DH,DI,NI,NJ,NK,sO,o9,dS,F2,lk⟩:=fk.wrote m6 (fk.dr.hold l Gl);clear tw m6 fk;go_wp2_with fail;go_roundw
      case rel=>exact⟨k - 1,_,_,_,_,_,_,_,_,_,_,_,by omega,by go_num,lk⟩
      case measure=>simp[intOf]; omega
    · go_wp2_with fail;refine(qZ w0 _ gc a len cap code dd.cur).mono ?_;rintro e w6 ⟨g,n,cp,l,B6,qO,rfl,dV,eG,du⟩;have fk:=dd.step eG du;have wK:g∉X::F:=fun e=>by
       have h1:=dV.lt.1;have h2:=dd.ins.box.lt;rcases List.mem_cons.1 e with e | e
       · omega
       · have:=dd.ins.own.lt g e; omega
      have l5:∀p∈l,p.2.1.size≤1099511627776:=fun p hp=>by
       have:=(fR (((bq _).1 qO).1.1 p hp)).2.2.1;omega
      have tw:=Hid.mk' (kM X sU [] [] la ln lc ma mn mc ha hn hc s F (1+(tx:Int)) (some ⟨g,0,none⟩) n cp l w6 fk.ins (fun w' hf=>q7 dV hf wK) l5 Gm (by omega) fk.dr.right)
      clear dd dV eG du;go_wp2_with fail;refine tw.out.mono ?_;rintro e w7 ⟨rfl,m6⟩;obtain⟨DG,DH,DI,NI,NJ,NK,sO,o9,dS,F2,lk⟩:=fk.wrote m6 (fk.dr.hold l Gl);clear tw m6 fk;go_wp2_with fail;go_roundw
      case rel=>exact⟨k - 1,_,_,_,_,_,_,_,_,_,_,_,by omega,by go_num,lk⟩
      case measure=>simp[intOf]; omega
    · go_wp2_with fail;refine(qZ w0 _ gc a len cap code dd.cur).mono ?_;rintro e w6 ⟨g,n,cp,l,B6,qO,rfl,dV,eG,du⟩;have fk:=dd.step eG du;have wK:g∉X::F:=fun e=>by
       have h1:=dV.lt.1;have h2:=dd.ins.box.lt;rcases List.mem_cons.1 e with e | e
       · omega
       · have:=dd.ins.own.lt g e; omega
      have l5:∀p∈l,p.2.1.size≤1099511627776:=fun p hp=>by
       have:=(fR (((bq _).1 qO).1.1 p hp)).2.2.1;omega
      have tw:=Hid.mk' (kM X sU [] [] la ln lc ma mn mc ha hn hc s F (1+(tx:Int)) (some ⟨g,0,none⟩) n cp l w6 fk.ins (fun w' hf=>q7 dV hf wK) l5 Gm (by omega) fk.dr.right)
      clear dd dV eG du;go_wp2_with fail;refine tw.out.mono ?_;rintro e w7 ⟨rfl,m6⟩;obtain⟨DG,DH,DI,NI,NJ,NK,sO,o9,dS,F2,lk⟩:=fk.wrote m6 (fk.dr.hold l Gl);clear tw m6 fk;go_wp2_with fail;go_roundw
      case rel=>exact⟨k - 1,_,_,_,_,_,_,_,_,_,_,_,by omega,by go_num,lk⟩
      case measure=>simp[intOf]; omega
    · have k4:=dd.ins.box.cell 4 _ rfl;simp only[List.length_nil,Nat.zero_add] at k4;by_cases IC:0<hn
      · have vd:(0:Int)<(hn:Int):=by omega
        obtain⟨hl,tS,hh,qS,dL⟩:=dd.ins.own.log;obtain⟨gh,rfl⟩:∃gh,ha=some ⟨gh,0,none⟩:=by
         rcases qS.shape with⟨e,_⟩ | ⟨g,c,e,_⟩
         · cases e; omega
         · cases e; exact⟨g,rfl⟩
        have jJ:Below w5.heap.size w5 w5.drew:=(Below.refl _ _).drew;have vc:=Hid.mk' (cf w0 w5.drew gc a len cap code (hn:Int) (dd.cur.below jJ) (by omega) (by omega))
        go_wp2_with fail;refine last.aq (S:=fun w'=>au X sU [] (aK s.1 s.2.2.1 la ln lc ma mn mc (some ⟨gh,0,none⟩) hn hc) [] w'∧bm w' 0 (.slice (some ⟨gh,0,none⟩) hn hc) s.2.2.2.2 hh) 10 (by kernel_rfl) ⟨dd.ins.box.below jJ,qS.below jJ⟩ (fun af=>?_)
        refine last.wpTk 0 (.pointer (some ⟨X,4,none⟩)) rfl rfl ?_ ?_
        · intro wq ar; go_simp
        try simp only[Act.put,zP,zQ,zR]
        refine last.wpTk 1 (.slice (some ⟨gh,0,none⟩) hn hc) rfl rfl ?_ ?_
        · intro wq ar; have q:=ar.1.cell 4 _ rfl; simp only[List.length_nil,Nat.zero_add] at q; go_simp
        try simp only[Act.put,zP,zQ,zR]
        refine last.wpTk 2 (.pointer (some ⟨gc,0,none⟩)) rfl rfl ?_ ?_
        · intro wq ar; go_simp
        try simp only[Act.put,zP,zQ,zR]
        refine last.wpTk 3 (.pointer (some ⟨X,4,none⟩)) rfl rfl ?_ ?_
        · intro wq ar; go_simp
        try simp only[Act.put,zP,zQ,zR]
        refine last.wpTk 4 (.slice (some ⟨gh,0,none⟩) hn hc) rfl rfl ?_ ?_
        · intro wq ar; have q:=ar.1.cell 4 _ rfl; simp only[List.length_nil,Nat.zero_add] at q; go_simp
        try simp only[Act.put,zP,zQ,zR]
        refine last.wpTk 5 (.int .i64 (hn:Int)) rfl rfl ?_ ?_
        · intro wq ar; go_simp
        try simp only[Act.put,zP,zQ,zR]
        refine last.an (i:=6) (o:=qO20) (by kernel_rfl) rfl (fun K hK=>?_)
        refine fx.mE rfl 68 (.tmp 44) (.tmp 47) _ rfl (fun _ _=>rfl) (.pointer (some ⟨gc,0,none⟩)) (.int .i64 (hn:Int)) (by kernel_rfl) (by kernel_rfl) _ vc.out ?_
        rintro e w6 ⟨j,hj,rfl,eG,JO⟩;refine⟨_,rfl,?_⟩;have du:w5.grownBy w6 (some gc):=ao (aP (World.grownBy.refl _ _) jJ) JO;have fk:=dd.step eG du;obtain⟨g1,g2,g3⟩:=dd.gX;have DJ:=qS.grown du (fun e=>g2 (by rw[dL]; exact List.mem_append.2 (.inr (List.mem_append.2 (.inr (aA.2 e))))))
        have eL:j<s.2.2.2.2.length:=by have:=Sj.out; omega
        have DK:(j:Int)<(hn:Int):=hj;have wy:=(fk.dr.right.oR _ (List.getElem_mem eL)).1;have W_:=fk.dr.EL _ wy;refine hK.out _ _ ?_ (fun ag=>?_)
        · exact⟨fk.ins.box,DJ⟩
        clear hK K af;have af:=ag;clear ag;try simp only[Act.put,zP,zQ,zR]
        refine last.wpTk 7 (.pointer (some ⟨gh,j * 3,none⟩)) rfl rfl ?_ ?_
        · intro wq ar; go_simp
        try simp only[Act.put,zP,zQ,zR]
        refine last.wpTk 8 (.pointer (some ⟨gh,j * 3+1,none⟩)) rfl rfl ?_ ?_
        · intro wq ar; go_simp
        try simp only[Act.put,zP,zQ,zR]
        refine last.wpTk 9 (.int .i64 s.2.2.2.2[j].2.1) rfl rfl ?_ ?_
        · intro wq ar; have q:=(ar.2.at j eL).2.1; go_simp
        try simp only[Act.put,zP,zQ,zR]
        refine last.aC (o:=qO21) (by kernel_rfl) rfl (by kernel_rfl) (fun K hK=>?_)
        go_simp;refine hK.out _ _ ?_;clear hK K;have zd:(Lit.int .i64 s.2.2.2.2[j].2.1).wf=true:=(DJ.sm _ (List.getElem_mem eL)).2.1;clear af DJ qS tS vc JO du eG k4 jJ;generalize s.2.2.2.2[j].2.1=wN at *;go_wp2_with fail;refine(mI w0 _ gc a len cap code 4 fk.cur (by omega) (by omega)).mono ?_
        rintro e w8 ⟨b8,rfl,tC,rW⟩;have n_:=fk.step tC rW;have JP:=Hid.mk' (fun yes=>jg X sU [] [] la ln lc ma mn mc (some ⟨gh,0,none⟩) hn hc s F wN yes w8 n_.ins zd n_.dr.right)
        clear tC rW dd fk;go_wp2_with fail;refine(JP.out _).mono ?_;rintro e w9 ⟨rfl,m6⟩;obtain⟨DG,DH,DI,NI,NJ,NK,sO,o9,dS,F2,lk⟩:=n_.wrote m6 (n_.dr.decide _ W_);clear JP m6 n_;go_wp2_with fail;go_roundw
        case rel=>exact⟨k - 1,_,_,_,_,_,_,_,_,_,_,_,by omega,by go_num,lk⟩
        case measure=>simp[intOf]; omega
      · have vd:¬(0:Int)<(hn:Int):=by omega
        go_wp2_with fail;refine(mI w0 _ gc a len cap code 4 dd.cur (by omega) (by omega)).mono ?_
        rintro e w8 ⟨b8,rfl,tC,rW⟩;have n_:=dd.step tC rW;have JP:=Hid.mk' (fun yes=>jg X sU [] [] la ln lc ma mn mc ha hn hc s F (1+(tx:Int)) yes w8 n_.ins Gm n_.dr.right)
        clear tC rW dd;go_wp2_with fail;refine(JP.out _).mono ?_;rintro e w9 ⟨rfl,m6⟩;obtain⟨DG,DH,DI,NI,NJ,NK,sO,o9,dS,F2,lk⟩:=n_.wrote m6 (n_.dr.decide _ Gl);clear JP m6 n_;go_wp2_with fail;go_roundw
        case rel=>exact⟨k - 1,_,_,_,_,_,_,_,_,_,_,_,by omega,by go_num,lk⟩
        case measure=>simp[intOf]; omega
    · have k4:=dd.ins.box.cell 4 _ rfl;simp only[List.length_nil,Nat.zero_add] at k4;by_cases IC:0<hn
      · have vd:(0:Int)<(hn:Int):=by omega
        obtain⟨hl,tS,hh,qS,dL⟩:=dd.ins.own.log;obtain⟨gh,rfl⟩:∃gh,ha=some ⟨gh,0,none⟩:=by
         rcases qS.shape with⟨e,_⟩ | ⟨g,c,e,_⟩
         · cases e; omega
         · cases e; exact⟨g,rfl⟩
        have jJ:Below w5.heap.size w5 w5.drew:=(Below.refl _ _).drew;have vc:=Hid.mk' (cf w0 w5.drew gc a len cap code (hn:Int) (dd.cur.below jJ) (by omega) (by omega))
        go_wp2_with fail;refine last.aq (S:=fun w'=>au X sU [] (aK s.1 s.2.2.1 la ln lc ma mn mc (some ⟨gh,0,none⟩) hn hc) [] w'∧bm w' 0 (.slice (some ⟨gh,0,none⟩) hn hc) s.2.2.2.2 hh) 10 (by kernel_rfl) ⟨dd.ins.box.below jJ,qS.below jJ⟩ (fun af=>?_)
        refine last.wpTk 0 (.pointer (some ⟨X,4,none⟩)) rfl rfl ?_ ?_
        · intro wq ar; go_simp
        try simp only[Act.put,zP,zQ,zR]
        refine last.wpTk 1 (.slice (some ⟨gh,0,none⟩) hn hc) rfl rfl ?_ ?_
        · intro wq ar; have q:=ar.1.cell 4 _ rfl; simp only[List.length_nil,Nat.zero_add] at q; go_simp
        try simp only[Act.put,zP,zQ,zR]
        refine last.wpTk 2 (.pointer (some ⟨gc,0,none⟩)) rfl rfl ?_ ?_
        · intro wq ar; go_simp
        try simp only[Act.put,zP,zQ,zR]
        refine last.wpTk 3 (.pointer (some ⟨X,4,none⟩)) rfl rfl ?_ ?_
        · intro wq ar; go_simp
        try simp only[Act.put,zP,zQ,zR]
        refine last.wpTk 4 (.slice (some ⟨gh,0,none⟩) hn hc) rfl rfl ?_ ?_
        · intro wq ar; have q:=ar.1.cell 4 _ rfl; simp only[List.length_nil,Nat.zero_add] at q; go_simp
        try simp only[Act.put,zP,zQ,zR]
        refine last.wpTk 5 (.int .i64 (hn:Int)) rfl rfl ?_ ?_
        · intro wq ar; go_simp
        try simp only[Act.put,zP,zQ,zR]
        refine last.an (i:=6) (o:=qO20) (by kernel_rfl) rfl (fun K hK=>?_)
        refine fx.mE rfl 68 (.tmp 44) (.tmp 47) _ rfl (fun _ _=>rfl) (.pointer (some ⟨gc,0,none⟩)) (.int .i64 (hn:Int)) (by kernel_rfl) (by kernel_rfl) _ vc.out ?_
        rintro e w6 ⟨j,hj,rfl,eG,JO⟩;refine⟨_,rfl,?_⟩;have du:w5.grownBy w6 (some gc):=ao (aP (World.grownBy.refl _ _) jJ) JO;have fk:=dd.step eG du;obtain⟨g1,g2,g3⟩:=dd.gX;have DJ:=qS.grown du (fun e=>g2 (by rw[dL]; exact List.mem_append.2 (.inr (List.mem_append.2 (.inr (aA.2 e))))))
        have eL:j<s.2.2.2.2.length:=by have:=Sj.out; omega
        have DK:(j:Int)<(hn:Int):=hj;have wy:=(fk.dr.right.oR _ (List.getElem_mem eL)).1;have W_:=fk.dr.EL _ wy;refine hK.out _ _ ?_ (fun ag=>?_)
        · exact⟨fk.ins.box,DJ⟩
        clear hK K af;have af:=ag;clear ag;try simp only[Act.put,zP,zQ,zR]
        refine last.wpTk 7 (.pointer (some ⟨gh,j * 3,none⟩)) rfl rfl ?_ ?_
        · intro wq ar; go_simp
        try simp only[Act.put,zP,zQ,zR]
        refine last.wpTk 8 (.pointer (some ⟨gh,j * 3+1,none⟩)) rfl rfl ?_ ?_
        · intro wq ar; go_simp
        try simp only[Act.put,zP,zQ,zR]
        refine last.wpTk 9 (.int .i64 s.2.2.2.2[j].2.1) rfl rfl ?_ ?_
        · intro wq ar; have q:=(ar.2.at j eL).2.1; go_simp
        try simp only[Act.put,zP,zQ,zR]
        refine last.aC (o:=qO21) (by kernel_rfl) rfl (by kernel_rfl) (fun K hK=>?_)
        go_simp;refine hK.out _ _ ?_;clear hK K;have zd:(Lit.int .i64 s.2.2.2.2[j].2.1).wf=true:=(DJ.sm _ (List.getElem_mem eL)).2.1;clear af DJ qS tS vc JO du eG k4 jJ;generalize s.2.2.2.2[j].2.1=wN at *;go_wp2_with fail;refine(mI w0 _ gc a len cap code 4 fk.cur (by omega) (by omega)).mono ?_
        rintro e w8 ⟨b8,rfl,tC,rW⟩;have n_:=fk.step tC rW;have JP:=Hid.mk' (fun yes=>jg X sU [] [] la ln lc ma mn mc (some ⟨gh,0,none⟩) hn hc s F wN yes w8 n_.ins zd n_.dr.right)
        clear tC rW dd fk;go_wp2_with fail;refine(JP.out _).mono ?_;rintro e w9 ⟨rfl,m6⟩;obtain⟨DG,DH,DI,NI,NJ,NK,sO,o9,dS,F2,lk⟩:=n_.wrote m6 (n_.dr.decide _ W_);clear JP m6 n_;go_wp2_with fail;go_roundw
        case rel=>exact⟨k - 1,_,_,_,_,_,_,_,_,_,_,_,by omega,by go_num,lk⟩
        case measure=>simp[intOf]; omega
      · have vd:¬(0:Int)<(hn:Int):=by omega
        go_wp2_with fail;refine(mI w0 _ gc a len cap code 4 dd.cur (by omega) (by omega)).mono ?_
        rintro e w8 ⟨b8,rfl,tC,rW⟩;have n_:=dd.step tC rW;have JP:=Hid.mk' (fun yes=>jg X sU [] [] la ln lc ma mn mc ha hn hc s F (1+(tx:Int)) yes w8 n_.ins Gm n_.dr.right)
        clear tC rW dd;go_wp2_with fail;refine(JP.out _).mono ?_;rintro e w9 ⟨rfl,m6⟩;obtain⟨DG,DH,DI,NI,NJ,NK,sO,o9,dS,F2,lk⟩:=n_.wrote m6 (n_.dr.decide _ Gl);clear JP m6 n_;go_wp2_with fail;go_roundw
        case rel=>exact⟨k - 1,_,_,_,_,_,_,_,_,_,_,_,by omega,by go_num,lk⟩
        case measure=>simp[intOf]; omega
    · have k1:=dd.ins.box.cell 1 _ rfl;have k2:=dd.ins.box.cell 2 _ rfl;have f2:=dd.ins.box.fz 2;simp only[List.length_nil,Nat.zero_add] at k1 k2;have lk:=dd.sure;go_wp2_with fail;go_roundw
      case rel=>exact⟨k - 1,_,_,_,_,_,_,_,_,_,_,_,by omega,by go_num,lk⟩
      case measure=>simp[intOf]; omega
    · go_wp2_with fail;refine(cf w0 _ gc a len cap code 3 dd.cur (by omega) (by omega)).mono ?_
      rintro e w6 ⟨kp,hkp,rfl,eG,du⟩;have fk:=dd.step eG du;have wE:=Hid.mk' (yY X sU [] [] la ln lc ma mn mc ha hn hc s F (kp:Int) w6 fk.ins fk.dr.right fk.dr.right.jB);clear dd eG du;go_wp2_with fail;refine wE.out.mono ?_;rintro e w7 ⟨rfl,m6⟩;obtain⟨DG,DH,DI,NI,NJ,NK,sO,o9,dS,F2,lk⟩:=fk.wrote m6 (fk.dr.Sx _);clear wE m6 fk;go_wp2_with fail;go_roundw
      case rel=>exact⟨k - 1,_,_,_,_,_,_,_,_,_,_,_,by omega,by go_num,lk⟩
      case measure=>simp[intOf]; omega
  · have B8:k=0:=by omega
    subst B8;have b:=hD.ins.box;have q0:=b.cell 0 _ rfl;have q1:=b.cell 1 _ rfl;have q2:=b.cell 2 _ rfl;have q3:=b.cell 3 _ rfl;have q4:=b.cell 4 _ rfl;have bQ:=hD.rb;have z0:=bQ.cell 0 _ rfl;have z1:=bQ.cell 1 _ rfl;have z2:=bQ.cell 2 _ rfl;have z3:=bQ.cell 3 _ rfl;have z4:=bQ.cell 4 _ rfl;simp only[List.length_nil,Nat.zero_add] at q0 q1 q2 q3 q4 z0 z1 z2 z3 z4;have f0:=bQ.fz 0;have f1:=bQ.fz 1;have f2:=bQ.fz 2;have f3:=bQ.fz 3;have f4:=bQ.fz 4;have cB:=bQ.ni (.int .i64 s.1) (.slice la ln lc) (.int .i64 s.2.2.1) (.slice ma mn mc) (.slice ha hn hc);simp only[List.length_nil,Nat.zero_add] at cB;obtain⟨g1,g2,g3⟩:=hD.gX;have jv:=hD.ins.own.keep (fun j hj=>cB.2.block j (hD.ins.own.lt j hj) (fun e=>hD.rF (by rw[←Option.some.inj e]; exact hj)))
    have lr:=hD.cur.grown cB.2 (fun e=>g3 (Option.some.inj e)) (fun k e=>by cases e; exact ry)
    have qb:w.grownBy _ (some gc):=⟨cB.2.os.trans hD.fr.os,cB.2.tape.trans hD.fr.tape,cB.2.output.trans hD.fr.output,Nat.le_trans hD.fr.size cB.2.size,fun k hk aW=>(cB.2.block k (Nat.lt_of_lt_of_le hk hD.fr.size) (fun e=>by have:=Option.some.inj e; omega)).trans (hD.fr.block k hk aW)⟩
    have dy:=cB.1.cell 0 _ rfl;have dz:=cB.1.cell 1 _ rfl;have dA:=cB.1.cell 2 _ rfl;have dB:=cB.1.cell 3 _ rfl;have dC:=cB.1.cell 4 _ rfl;simp only[List.length_nil,Nat.zero_add] at dy dz dA dB dC;have HP:Hid (NG w0 w gc a len cap code (.returned (bO s.1 s.2.2.1 la ln lc ma mn mc ha hn hc)) _):=⟨la,ln,lc,ma,mn,mc,ha,hn,hc,s,F,hD.dr,rfl,jv,fun k hk=>hD.new k (List.mem_cons_of_mem _ hk),lr,qb⟩
    clear jv lr qb cB hD b;go_wp2_with fail;refine bodyPost_ret (v:=bO s.1 s.2.2.1 la ln lc ma mn mc ha hn hc) ?_ rfl HP.out;simp[results,Tryz.results89,go_sem,dy,dz,dA,dB,dC]
end aZ
namespace aZ
open Go Go.RowKit base av aN dp gu lay
def Gn(s:cQ):Nat:=kB s.2.1+2 * s.2.2.2.1.length+kB s.2.2.2.2
section
variable{w w':World}{la ma ha:Option Addr}{ln lc mn mc hn hc:Nat}{s:cQ}{F:List Nat}
theorem eK.lens(h:eK w la ln lc ma mn mc ha hn hc s):s.2.1.length=ln∧s.2.2.2.1.length=mn∧s.2.2.2.2.length=hn:=⟨h.log.1,h.map.1,h.held.1⟩
end
end aZ
namespace aZ
open Go Go.RowKit base av aN dp gu lay
end aZ
end Go.Proofs.YtmibabclefgljaaGreat
