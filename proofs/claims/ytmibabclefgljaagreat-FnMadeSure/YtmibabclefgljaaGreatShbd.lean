/- CoCr WdLay StepG CoHo -/
import Derived.Test.YtmibabclefgljaaGreatShbc
import Derived.Test.YtmibabclefgljaaGreatShay
import Derived.Test.YtmibabclefgljaaGreatShax
import Derived.BigQuiet
import Derived.Test.YtmibabclefgljaaGreatShav
import Derived.Test.YtmibabclefgljaaGreatShbb
import Derived.Test.YtmibabclefgljaaGreatShaz
import Derived.WalkKit
import Derived.WalkSpells
import Derived.WalkLawsBesides
import Derived.Test.YtmibabclefgljaaGreatShah
set_option linter.unusedVariables false
set_option linter.unusedSimpArgs false
namespace Go.Proofs.YtmibabclefgljaaGreat
open Go in
abbrev qO29:Oper:={dst:=some 46,op:=Op.nilCheck (Operand.tmp 34),type:=0,pos:= "l11_coord.go:206",after:=#[{on:=0,ground:=Ground.data},{on:=0,ground:=Ground.phase},{on:=1,ground:=Ground.phase},{on:=2,ground:=Ground.phase},{on:=3,ground:=Ground.phase},{on:=4,ground:=Ground.phase},{on:=5,ground:=Ground.phase},{on:=6,ground:=Ground.phase},{on:=7,ground:=Ground.phase},{on:=8,ground:=Ground.phase},{on:=9,ground:=Ground.phase},{on:=10,ground:=Ground.phase},{on:=11,ground:=Ground.phase}],guard:=none}
open Go in
abbrev qO30:Oper:={dst:=none,op:=Op.store 26 (Operand.tmp 47) (Operand.tmp 45),type:=0,pos:= "l11_coord.go:206",after:=#[{on:=13,ground:=Ground.data},{on:=11,ground:=Ground.data},{on:=0,ground:=Ground.phase},{on:=1,ground:=Ground.phase},{on:=2,ground:=Ground.phase},{on:=3,ground:=Ground.phase},{on:=4,ground:=Ground.phase},{on:=5,ground:=Ground.phase},{on:=6,ground:=Ground.phase},{on:=7,ground:=Ground.phase},{on:=8,ground:=Ground.phase},{on:=9,ground:=Ground.phase},{on:=10,ground:=Ground.phase},{on:=11,ground:=Ground.phase}],guard:=none}
namespace cos
open Go Go.RowKit base aE aX lay lh
structure jt (w:World) (X:Nat) (T:TypeId) (pre post:List Value) (ja:Option Addr) (jn jc:Nat) (la:Option Addr) (ln lc:Nat) (c:Co) (F:List Nat):Prop where
 box:aD X T pre [.int .i64 c.1,.int .i64 c.2.1,.int .i64 c.2.2.1,.slice ja jn jc,.slice la ln lc,.int .i64 c.2.2.2.2.2] post w
 own:bp.own w [.int .i64 c.1,.int .i64 c.2.1,.int .i64 c.2.2.1,.slice ja jn jc,.slice la ln lc,.int .i64 c.2.2.2.2.2] c F
 out:X∉F
def fI(w:World)(X:Nat)(T:TypeId)(pre post:List Value)(F:List Nat)(c':Co)(w':World):Prop:=
 ∃ja jn jc la ln lc F',jt w' X T pre post ja jn jc la ln lc c' F'∧lay.Frame (X::F) w w'∧fJ w F F'
def fe(c:Co)(keep:Int):Co:=if c.2.1=900 then c else(c.1,c.2.1+1,0,[],c.2.2.2.2.1.take (yq c.2.2.2.2.1.length c.2.2.2.2.2 keep),(yq c.2.2.2.2.1.length c.2.2.2.2.2 keep:Int))
theorem qJ{w xa:World}{X:Nat}{T:TypeId}{pre post:List Value}{c c':Co}{keep:Int}{la:Option Addr}{k lc S:Nat}{F:List Nat}{ql:dY}(he:fe c keep=c')(hb:aD X T pre [.int .i64 c'.1,.int .i64 c'.2.1,.int .i64 c'.2.2.1,.slice (some ⟨S,0,none⟩) 0 0,.slice la k lc,.int .i64 c'.2.2.2.2.2] post xa)(hf:lay.Frame [X] w xa)(hs:xa.heap.size=S)(fH:sE c')(DZ:c'.2.2.2.1=[])(Yk:bz 87 rG w (.slice la k lc) c'.2.2.2.2.1 ql)(Vu:∀b∈(Value.slice la k lc).ownBlock.toList,b∈F)(jH:X∉F)(kF:∀b∈F,b<w.heap.size):fI w X T pre post F (fe c keep) (xa.alloc (.cells #[] 75)):=by
 have xT:Below xa.heap.size xa (xa.alloc (.cells #[] 75)):=aT;have hL:bz 87 rG xa (.slice la k lc) c'.2.2.2.2.1 ql:=Yk.keep fun b be=>hf.block b (Yk.at_ b be) (fun e=>by
  rw[List.mem_singleton] at e;rw[(dW.parts Yk).2.2.1,List.append_nil] at be;exact jH (e ▸ Vu b be))
 have hJ:lk.own (xa.alloc (.cells #[] 75)) [.slice (some ⟨S,0,none⟩) 0 0] c'.2.2.2.1 [S]:=by rw[DZ,←hs]; exact⟨_,[],rfl,by simp[Value.ownBlock,aw],lay.lT _ _ _⟩
 have hl:qA.own (xa.alloc (.cells #[] 75)) [.slice la k lc] c'.2.2.2.2.1 (Value.slice la k lc).ownBlock.toList:=iN.2 ⟨⟨ql,hL.below xT⟩,rfl⟩;have jf:=hb.lt;have hlS:∀b∈(Value.slice la k lc).ownBlock.toList,b≠S:=fun b be e=>by
  have h1:=kF b (Vu b be);have h2:=hf.size;omega
 have eo:([S]++(Value.slice la k lc).ownBlock.toList).Nodup:=bZ (by simp) (qA.bU hl) fun b be dI=>by
  rw[List.mem_singleton] at be;exact hlS b dI be
 have O5:=bC.2 ⟨_,_,_,_,rfl,fH,hJ,hl,rfl,eo⟩;rw[he];refine⟨_,_,_,la,k,lc,[S]++(Value.slice la k lc).ownBlock.toList,⟨hb.below xT,O5,fun e=>?_⟩,(hf.mono fun j hj=>by rw[List.mem_singleton] at hj; subst hj; exact List.mem_cons_self).below xT,fun b be=>?_⟩
 · rcases List.mem_append.1 e with e | e
   · rw[List.mem_singleton] at e; omega
   · exact jH (Vu _ e)
 · rcases List.mem_append.1 be with e | e
   · rw[List.mem_singleton] at e; have:=hf.size; exact .inr (by omega)
   · exact .inl (Vu b e)
set_option maxRecDepth 100000 in
set_option maxHeartbeats 1000000 in
theorem xt(X:Nat)(T:TypeId)(pre post:List Value)(ja:Option Addr)(jn jc:Nat)(la:Option Addr)(ln lc:Nat)(c:Co)(F:List Nat)(keep:Int)(w:World)(h:jt w X T pre post ja jn jc la ln lc c F)(rM:1≤c.2.1∧c.2.1≤900)(N9:0≤c.2.2.2.2.2∧c.2.2.2.2.2≤(c.2.2.2.2.1.length:Int))(TV:c.2.2.2.2.1.length≤1048576)(hkw:(Lit.int .i64 keep).wf=true):
 Calls Tryz.prog 132 #[.pointer (some ⟨X,pre.length,none⟩),.int .i64 keep] w fun e w'=>e=.returned (.bool (decide (c.2.1≠900)))∧fI w X T pre post F (fe c keep) w':=by
 obtain⟨bI,aK,jH⟩:=h;have jf:=bI.lt;obtain⟨x,y,F1,F2,e,fH,hj,hl,d_,eo⟩:=bC.1 aK;simp only[List.cons.injEq,and_true,true_and] at e;obtain⟨rfl,rfl⟩:=e;obtain⟨⟨ql,hL⟩,rfl⟩:=iN.1 hl;have nI:ln=c.2.2.2.2.1.length:=hL.sl.1.symm;have TW:ln≤lc:=by rcases hL.shape with⟨e,h1,_⟩ | ⟨g,cap,e,h1,_⟩ <;> (cases e; try omega)
 by_cases h9:c.2.1=900
 · have HE:Hid (fe c keep=c):=if_pos h9;have x1:=bI.cell 1 _ rfl;have HP:Hid (fI w X T pre post F c w):=⟨ja,jn,jc,la,ln,lc,F,⟨bI,aK,jH⟩,lay.Frame.refl _ _,fJ.refl _ _⟩;have TX:decide (c.2.1≠900)=false:=decide_eq_false (fun e=>e h9)
   rw[TX];have Rt:(c.2.1==900)=true:=beq_iff_eq.2 h9;clear h9 bI aK hj hl hL rM TX;generalize c.2.1=lf at *;aj Tryz.func132,Tryz.ntmps132;ab fail;an;exact⟨rfl,by rw[HE.out]; exact HP.out⟩
 obtain⟨k,hk⟩:∃k,yq ln c.2.2.2.2.2 keep=k:=⟨_,rfl⟩;have xD:=BX (ln:=ln) (sure:=c.2.2.2.2.2) (keep:=keep) (by omega)
 rw[hk] at xD;have HE:Hid (fe c keep=(c.1,c.2.1+1,0,[],c.2.2.2.2.1.take k,(k:Int))):=by show _=_; unfold fe; rw[if_neg h9,←nI,hk]
 have TX:decide (c.2.1≠900)=true:=decide_eq_true h9;have Rt:(c.2.1==900)=false:=beq_eq_false_iff_ne.2 h9;rw[TX];clear hk TX;have w1:IntKind.i64.wrap (c.2.1+1)=c.2.1+1:=by rw[IntKind.wrap_i64]; omega
 have w2:IntKind.i64.wrap ((ln:Int) - c.2.2.2.2.2)=(ln:Int) - c.2.2.2.2.2:=by rw[IntKind.wrap_i64]; omega
 have x1:=bI.cell 1 _ rfl;have x4:=bI.cell 4 _ rfl;have x5:=bI.cell 5 _ rfl;have pn:=Hid.mk' nI;have Ik:=Hid.mk' N9;have Hb:=Hid.mk' xD;have xU:=Hid.mk' TV;have U8:=Hid.mk' rM;have Yl:=Hid.mk' TW;have HL:=Hid.mk' (hL.take k (by omega))
 have HJ:=Hid.mk' hj;have TY:=Hid.mk' eo;have BY:=Hid.mk' d_;have kF:=bp.dK aK;have vI:=Hid.mk' bI;clear nI TW N9 xD TV rM hL hj hl eo d_ aK bI;by_cases hneg:keep<0
 · have hz:¬(ln:Int) - c.2.2.2.2.2<0:=by have:=pn.out; have:=Ik.out; omega
   aj Tryz.func132,Tryz.ntmps132;ab fail;bE (fail)
   have dx:aD X T pre [.int .i64 c.1,.int .i64 c.2.1,.int .i64 c.2.2.1,.slice ja jn jc,.slice la ln lc,.int .i64 c.2.2.2.2.2] post (w.drewN nq):=vI.out.below (below_drewN (Below.refl _ _) _);have KV:lay.Frame [X] w (w.drewN nq):=lay.Frame.cM (below_drewN (Below.refl _ _) _);generalize Qv:w.drewN nq=w5 at *;clear Qv nq x1 x4 x5;have x1:=dx.cell 1 _ rfl;have x4:=dx.cell 4 _ rfl;have x5:=dx.cell 5 _ rfl;ab fail;clear x1 x4 x5;have hkk0:IntKind.i64.wrap c.2.2.2.2.2=(k:Int):=by have:=Hb.out.2; have:=pn.out; have:=xU.out; have:=Ik.out; rw[IntKind.wrap_i64]; omega
   have yW:IntKind.i64.wrap (c.2.2.2.2.2+0)=(k:Int):=by have:=Hb.out.2; have:=pn.out; have:=xU.out; have:=Ik.out; rw[IntKind.wrap_i64]; omega
   have eX:Below w5.heap.size w5 w5.drew:=(Below.refl _ _).drew;refine last.aB (S:=fun w'=>aD X T pre [.int .i64 c.1,.int .i64 c.2.1,.int .i64 c.2.2.1,.slice ja jn jc,.slice la ln lc,.int .i64 c.2.2.2.2.2] post w') 14 (by aa) (dx.below eX) (fun al=>?_)
   have KW:lay.Frame [X] w w5.drew:=KV.below eX;generalize hD:w5.drew=D at *;clear hD;refine last.ae (i:=0) (v:=(.pointer (some ⟨X,pre.length,none⟩))) rfl rfl (by aa) (by aa) (by aa) (by aa) (fun _ _ _ h=>h) (Or.inl ⟨by rfl,?_⟩) (by assumption) ?_
   · intro wq aC; af
   try simp only[Act.put,List.setIfInBounds_toArray,List.set_cons_zero,List.set_cons_succ];refine last.ae (i:=1) (v:=(.pointer (some ⟨X,pre.length,none⟩))) rfl rfl (by aa) (by aa) (by aa) (by aa) (fun _ _ _ h=>h) (Or.inl ⟨by rfl,?_⟩) (by assumption) ?_
   · intro wq aC; af
   try simp only[Act.put,List.setIfInBounds_toArray,List.set_cons_zero,List.set_cons_succ];refine last.ae (i:=2) (v:=(.pointer (some ⟨X,pre.length,none⟩))) rfl rfl (by aa) (by aa) (by aa) (by aa) (fun _ _ _ h=>h) (Or.inl ⟨by rfl,?_⟩) (by assumption) ?_
   · intro wq aC; af
   try simp only[Act.put,List.setIfInBounds_toArray,List.set_cons_zero,List.set_cons_succ];refine last.ae (i:=3) (v:=(.pointer (some ⟨X,pre.length+4,none⟩))) rfl rfl (by aa) (by aa) (by aa) (by aa) (fun _ _ _ h=>h) (Or.inl ⟨by rfl,?_⟩) (by assumption) ?_
   · intro wq aC; af
   try simp only[Act.put,List.setIfInBounds_toArray,List.set_cons_zero,List.set_cons_succ];refine last.ae (i:=4) (v:=(.slice la ln lc)) rfl rfl (by aa) (by aa) (by aa) (by aa) (fun _ _ _ h=>h) (Or.inl ⟨by rfl,?_⟩) (by assumption) ?_
   · intro wq aC; have q:=aC.cell 4 _ rfl; af
   try simp only[Act.put,List.setIfInBounds_toArray,List.set_cons_zero,List.set_cons_succ];refine last.ae (i:=5) (v:=(.pointer (some ⟨X,pre.length,none⟩))) rfl rfl (by aa) (by aa) (by aa) (by aa) (fun _ _ _ h=>h) (Or.inl ⟨by rfl,?_⟩) (by assumption) ?_
   · intro wq aC; af
   try simp only[Act.put,List.setIfInBounds_toArray,List.set_cons_zero,List.set_cons_succ];refine last.ae (i:=6) (v:=(.pointer (some ⟨X,pre.length,none⟩))) rfl rfl (by aa) (by aa) (by aa) (by aa) (fun _ _ _ h=>h) (Or.inl ⟨by rfl,?_⟩) (by assumption) ?_
   · intro wq aC; af
   try simp only[Act.put,List.setIfInBounds_toArray,List.set_cons_zero,List.set_cons_succ];refine last.ae (i:=7) (v:=(.pointer (some ⟨X,pre.length+5,none⟩))) rfl rfl (by aa) (by aa) (by aa) (by aa) (fun _ _ _ h=>h) (Or.inl ⟨by rfl,?_⟩) (by assumption) ?_
   · intro wq aC; af
   try simp only[Act.put,List.setIfInBounds_toArray,List.set_cons_zero,List.set_cons_succ];refine last.ae (i:=8) (v:=(.int .i64 c.2.2.2.2.2)) rfl rfl (by aa) (by aa) (by aa) (by aa) (fun _ _ _ h=>h) (Or.inl ⟨by rfl,?_⟩) (by assumption) ?_
   · intro wq aC; have q:=aC.cell 5 _ rfl; af
   try simp only[Act.put,List.setIfInBounds_toArray,List.set_cons_zero,List.set_cons_succ];refine last.ae (i:=9) (v:=(.int .i64 0)) rfl rfl (by aa) (by aa) (by aa) (by aa) (fun _ _ _ h=>h) (Or.inl ⟨by rfl,?_⟩) (by assumption) ?_
   · intro wq aC; af
   try simp only[Act.put,List.setIfInBounds_toArray,List.set_cons_zero,List.set_cons_succ];refine last.ae (i:=10) (v:=(.int .i64 (k:Int))) rfl rfl (by aa) (by aa) (by aa) (by aa) (fun _ _ _ h=>h) (Or.inl ⟨by rfl,?_⟩) (by assumption) ?_
   · intro wq aC; af
   try simp only[Act.put,List.setIfInBounds_toArray,List.set_cons_zero,List.set_cons_succ];refine last.ae (i:=11) (v:=(.slice la k lc)) rfl rfl (by aa) (by aa) (by aa) (by aa) (fun _ _ _ h=>h) (Or.inl ⟨by rfl,?_⟩) (by assumption) ?_
   · intro wq aC; have q1:¬lc<k:=by(have:=Hb.out.1; have:=Yl.out; omega)
     af
   try simp only[Act.put,List.setIfInBounds_toArray,List.set_cons_zero,List.set_cons_succ];refine last.ax (i:=12) (o:=qO29) (by aa) rfl (fun K hK=>?_)
   af;refine hK.out _ _ ?_ (fun aq=>?_)
   · exact al
   clear hK K al;have al:=aq;clear aq;try simp only[Act.put,List.setIfInBounds_toArray,List.set_cons_zero,List.set_cons_succ];refine last.ae (i:=13) (v:=(.pointer (some ⟨X,pre.length+4,none⟩))) rfl rfl (by aa) (by aa) (by aa) (by aa) (fun _ _ _ h=>h) (Or.inl ⟨by rfl,?_⟩) (by assumption) ?_
   · intro wq aC; af
   try simp only[Act.put,List.setIfInBounds_toArray,List.set_cons_zero,List.set_cons_succ];have n4:=al.set 4 (by simp) (.slice la k lc)
   have u4:=al.cell 4 _ rfl;have v4:=al.fz (pre.length+4);refine last.aL (o:=qO30) (by aa) rfl (by aa) (fun K hK=>?_)
   af;refine hK.out _ _ ?_;clear hK K;have iU:aD X T pre [.int .i64 c.1,.int .i64 c.2.1,.int .i64 c.2.2.1,.slice ja jn jc,.slice la k lc,.int .i64 c.2.2.2.2.2] post _:=n4.1;have g4:=n4.2;have BZ:=KW.grown g4 (fun b e=>by cases e; exact .inl (by simp))
   have H5:D.heap.size≤(D.setCell ⟨X,pre.length+4,none⟩ (.slice la k lc)).heap.size:=g4.size;clear n4 u4 v4 al g4;generalize xj:D.setCell ⟨X,pre.length+4,none⟩ (.slice la k lc)=w6 at *;clear xj;have q4:=iU.cell 4 _ rfl;have q5:=iU.cell 5 _ rfl;have f5:=iU.fz (pre.length+5);have n5:=iU.set 5 (by simp) (.int .i64 (k:Int))
   have jd:aD X T pre [.int .i64 c.1,.int .i64 c.2.1,.int .i64 c.2.2.1,.slice ja jn jc,.slice la k lc,.int .i64 (k:Int)] post _:=n5.1;have q1:=jd.cell 1 _ rfl;have f1:=jd.fz (pre.length+1);have n1:=jd.set 1 (by simp) (.int .i64 (c.2.1+1))
   have lQ:aD X T pre [.int .i64 c.1,.int .i64 (c.2.1+1),.int .i64 c.2.2.1,.slice ja jn jc,.slice la k lc,.int .i64 (k:Int)] post _:=n1.1;have q2:=lQ.cell 2 _ rfl;have f2:=lQ.fz (pre.length+2);have n2:=lQ.set 2 (by simp) (.int .i64 0)
   have vT:aD X T pre [.int .i64 c.1,.int .i64 (c.2.1+1),.int .i64 0,.slice ja jn jc,.slice la k lc,.int .i64 (k:Int)] post _:=n2.1;have q3:=vT.cell 3 _ rfl;have f3:=vT.fz (pre.length+3);have n3:=vT.set 3 (by simp) (.slice (some ⟨w6.heap.size,0,none⟩) 0 0)
   have fQ:aD X T pre [.int .i64 c.1,.int .i64 (c.2.1+1),.int .i64 0,.slice (some ⟨w6.heap.size,0,none⟩) 0 0,.slice la k lc,.int .i64 (k:Int)] post _:=n3.1;have gA:=az (az (az n5.2 n1.2) n2.2) n3.2;have tA:=BZ.grown gA (fun b e=>by cases e; exact .inl (by simp))
   have tB:((((w6.setCell ⟨X,pre.length+5,none⟩ (.int .i64 (k:Int))).setCell ⟨X,pre.length+1,none⟩ (.int .i64 (c.2.1+1))).setCell ⟨X,pre.length+2,none⟩ (.int .i64 0)).setCell ⟨X,pre.length+3,none⟩ (.slice (some ⟨w6.heap.size,0,none⟩) 0 0)).heap.size=w6.heap.size:=by simp
   have B0:=Hid.mk' (qJ (w:=w) HE.out fQ tA tB (by have:=U8.out; have:=Ik.out; have:=Hb.out; have:=pn.out; have:=xU.out; exact⟨fH.n,WalkArith.wf_i64 (by simp only[]; omega),(by show(Lit.int .i64 0).wf=true; decide),WalkArith.wf_i64 (by simp only[]; omega)⟩) rfl HL.out (fun b hb=>by rw[BY.out]; exact List.mem_append.2 (.inr (by cases la with | none=>exact hb | some a=>exact hb))) jH kF)
   have R7:(k:Int)≤1048576:=by have:=Hb.out.1; have:=pn.out; have:=xU.out; omega
   have NJ:=iU.lt;have e1:=iU.cell 1 _ rfl;have e2:=iU.cell 2 _ rfl;have e3:=iU.cell 3 _ rfl;have d1:=iU.fz (pre.length+1);have d2:=iU.fz (pre.length+2);have d3:=iU.fz (pre.length+3);clear iU jd lQ vT fQ n5 n1 n2 n3 gA tA BZ tB yW eX w2 h9 Rt;generalize pre.length=p at *;ab fail;an;exact⟨rfl,B0.out⟩
 by_cases Ra:(ln:Int) - c.2.2.2.2.2<keep
 · skip
   aj Tryz.func132,Tryz.ntmps132;ab fail;bE (fail)
   have dx:aD X T pre [.int .i64 c.1,.int .i64 c.2.1,.int .i64 c.2.2.1,.slice ja jn jc,.slice la ln lc,.int .i64 c.2.2.2.2.2] post (w.drewN nq):=vI.out.below (below_drewN (Below.refl _ _) _);have KV:lay.Frame [X] w (w.drewN nq):=lay.Frame.cM (below_drewN (Below.refl _ _) _);generalize Qv:w.drewN nq=w5 at *;clear Qv nq x1 x4 x5;have x1:=dx.cell 1 _ rfl;have x4:=dx.cell 4 _ rfl;have x5:=dx.cell 5 _ rfl;ab fail;bE (fail)
   have Vv:aD X T pre [.int .i64 c.1,.int .i64 c.2.1,.int .i64 c.2.2.1,.slice ja jn jc,.slice la ln lc,.int .i64 c.2.2.2.2.2] post (w5.drewN nq):=dx.below (below_drewN (Below.refl _ _) _);have Mu:lay.Frame [X] w (w5.drewN nq):=KV.below (below_drewN (Below.refl _ _) _);generalize Qv:w5.drewN nq=w9 at *;clear Qv nq x1 x4 x5;have x1:=Vv.cell 1 _ rfl;have x4:=Vv.cell 4 _ rfl;have x5:=Vv.cell 5 _ rfl;ab fail;clear x1 x4 x5;have yW:IntKind.i64.wrap (c.2.2.2.2.2+((ln:Int) - c.2.2.2.2.2))=(k:Int):=by have:=Hb.out.2; have:=pn.out; have:=xU.out; have:=Ik.out; rw[IntKind.wrap_i64]; omega
   have eX:Below w9.heap.size w9 w9.drew:=(Below.refl _ _).drew;refine last.aB (S:=fun w'=>aD X T pre [.int .i64 c.1,.int .i64 c.2.1,.int .i64 c.2.2.1,.slice ja jn jc,.slice la ln lc,.int .i64 c.2.2.2.2.2] post w') 14 (by aa) (Vv.below eX) (fun al=>?_)
   have KW:lay.Frame [X] w w9.drew:=Mu.below eX;generalize hD:w9.drew=D at *;clear hD;refine last.ae (i:=0) (v:=(.pointer (some ⟨X,pre.length,none⟩))) rfl rfl (by aa) (by aa) (by aa) (by aa) (fun _ _ _ h=>h) (Or.inl ⟨by rfl,?_⟩) (by assumption) ?_
   · intro wq aC; af
   try simp only[Act.put,List.setIfInBounds_toArray,List.set_cons_zero,List.set_cons_succ];refine last.ae (i:=1) (v:=(.pointer (some ⟨X,pre.length,none⟩))) rfl rfl (by aa) (by aa) (by aa) (by aa) (fun _ _ _ h=>h) (Or.inl ⟨by rfl,?_⟩) (by assumption) ?_
   · intro wq aC; af
   try simp only[Act.put,List.setIfInBounds_toArray,List.set_cons_zero,List.set_cons_succ];refine last.ae (i:=2) (v:=(.pointer (some ⟨X,pre.length,none⟩))) rfl rfl (by aa) (by aa) (by aa) (by aa) (fun _ _ _ h=>h) (Or.inl ⟨by rfl,?_⟩) (by assumption) ?_
   · intro wq aC; af
   try simp only[Act.put,List.setIfInBounds_toArray,List.set_cons_zero,List.set_cons_succ];refine last.ae (i:=3) (v:=(.pointer (some ⟨X,pre.length+4,none⟩))) rfl rfl (by aa) (by aa) (by aa) (by aa) (fun _ _ _ h=>h) (Or.inl ⟨by rfl,?_⟩) (by assumption) ?_
   · intro wq aC; af
   try simp only[Act.put,List.setIfInBounds_toArray,List.set_cons_zero,List.set_cons_succ];refine last.ae (i:=4) (v:=(.slice la ln lc)) rfl rfl (by aa) (by aa) (by aa) (by aa) (fun _ _ _ h=>h) (Or.inl ⟨by rfl,?_⟩) (by assumption) ?_
   · intro wq aC; have q:=aC.cell 4 _ rfl; af
   try simp only[Act.put,List.setIfInBounds_toArray,List.set_cons_zero,List.set_cons_succ];refine last.ae (i:=5) (v:=(.pointer (some ⟨X,pre.length,none⟩))) rfl rfl (by aa) (by aa) (by aa) (by aa) (fun _ _ _ h=>h) (Or.inl ⟨by rfl,?_⟩) (by assumption) ?_
   · intro wq aC; af
   try simp only[Act.put,List.setIfInBounds_toArray,List.set_cons_zero,List.set_cons_succ];refine last.ae (i:=6) (v:=(.pointer (some ⟨X,pre.length,none⟩))) rfl rfl (by aa) (by aa) (by aa) (by aa) (fun _ _ _ h=>h) (Or.inl ⟨by rfl,?_⟩) (by assumption) ?_
   · intro wq aC; af
   try simp only[Act.put,List.setIfInBounds_toArray,List.set_cons_zero,List.set_cons_succ];refine last.ae (i:=7) (v:=(.pointer (some ⟨X,pre.length+5,none⟩))) rfl rfl (by aa) (by aa) (by aa) (by aa) (fun _ _ _ h=>h) (Or.inl ⟨by rfl,?_⟩) (by assumption) ?_
   · intro wq aC; af
   try simp only[Act.put,List.setIfInBounds_toArray,List.set_cons_zero,List.set_cons_succ];refine last.ae (i:=8) (v:=(.int .i64 c.2.2.2.2.2)) rfl rfl (by aa) (by aa) (by aa) (by aa) (fun _ _ _ h=>h) (Or.inl ⟨by rfl,?_⟩) (by assumption) ?_
   · intro wq aC; have q:=aC.cell 5 _ rfl; af
   try simp only[Act.put,List.setIfInBounds_toArray,List.set_cons_zero,List.set_cons_succ];refine last.ae (i:=9) (v:=(.int .i64 ((ln:Int) - c.2.2.2.2.2))) rfl rfl (by aa) (by aa) (by aa) (by aa) (fun _ _ _ h=>h) (Or.inl ⟨by rfl,?_⟩) (by assumption) ?_
   · intro wq aC; af
   try simp only[Act.put,List.setIfInBounds_toArray,List.set_cons_zero,List.set_cons_succ];refine last.ae (i:=10) (v:=(.int .i64 (k:Int))) rfl rfl (by aa) (by aa) (by aa) (by aa) (fun _ _ _ h=>h) (Or.inl ⟨by rfl,?_⟩) (by assumption) ?_
   · intro wq aC; af
   try simp only[Act.put,List.setIfInBounds_toArray,List.set_cons_zero,List.set_cons_succ];refine last.ae (i:=11) (v:=(.slice la k lc)) rfl rfl (by aa) (by aa) (by aa) (by aa) (fun _ _ _ h=>h) (Or.inl ⟨by rfl,?_⟩) (by assumption) ?_
   · intro wq aC; have q1:¬lc<k:=by(have:=Hb.out.1; have:=Yl.out; omega)
     af
   try simp only[Act.put,List.setIfInBounds_toArray,List.set_cons_zero,List.set_cons_succ];refine last.ax (i:=12) (o:=qO29) (by aa) rfl (fun K hK=>?_)
   af;refine hK.out _ _ ?_ (fun aq=>?_)
   · exact al
   clear hK K al;have al:=aq;clear aq;try simp only[Act.put,List.setIfInBounds_toArray,List.set_cons_zero,List.set_cons_succ];refine last.ae (i:=13) (v:=(.pointer (some ⟨X,pre.length+4,none⟩))) rfl rfl (by aa) (by aa) (by aa) (by aa) (fun _ _ _ h=>h) (Or.inl ⟨by rfl,?_⟩) (by assumption) ?_
   · intro wq aC; af
   try simp only[Act.put,List.setIfInBounds_toArray,List.set_cons_zero,List.set_cons_succ];have n4:=al.set 4 (by simp) (.slice la k lc)
   have u4:=al.cell 4 _ rfl;have v4:=al.fz (pre.length+4);refine last.aL (o:=qO30) (by aa) rfl (by aa) (fun K hK=>?_)
   af;refine hK.out _ _ ?_;clear hK K;have iU:aD X T pre [.int .i64 c.1,.int .i64 c.2.1,.int .i64 c.2.2.1,.slice ja jn jc,.slice la k lc,.int .i64 c.2.2.2.2.2] post _:=n4.1;have g4:=n4.2;have BZ:=KW.grown g4 (fun b e=>by cases e; exact .inl (by simp))
   have H5:D.heap.size≤(D.setCell ⟨X,pre.length+4,none⟩ (.slice la k lc)).heap.size:=g4.size;clear n4 u4 v4 al g4;generalize xj:D.setCell ⟨X,pre.length+4,none⟩ (.slice la k lc)=w6 at *;clear xj;have q4:=iU.cell 4 _ rfl;have q5:=iU.cell 5 _ rfl;have f5:=iU.fz (pre.length+5);have n5:=iU.set 5 (by simp) (.int .i64 (k:Int))
   have jd:aD X T pre [.int .i64 c.1,.int .i64 c.2.1,.int .i64 c.2.2.1,.slice ja jn jc,.slice la k lc,.int .i64 (k:Int)] post _:=n5.1;have q1:=jd.cell 1 _ rfl;have f1:=jd.fz (pre.length+1);have n1:=jd.set 1 (by simp) (.int .i64 (c.2.1+1))
   have lQ:aD X T pre [.int .i64 c.1,.int .i64 (c.2.1+1),.int .i64 c.2.2.1,.slice ja jn jc,.slice la k lc,.int .i64 (k:Int)] post _:=n1.1;have q2:=lQ.cell 2 _ rfl;have f2:=lQ.fz (pre.length+2);have n2:=lQ.set 2 (by simp) (.int .i64 0)
   have vT:aD X T pre [.int .i64 c.1,.int .i64 (c.2.1+1),.int .i64 0,.slice ja jn jc,.slice la k lc,.int .i64 (k:Int)] post _:=n2.1;have q3:=vT.cell 3 _ rfl;have f3:=vT.fz (pre.length+3);have n3:=vT.set 3 (by simp) (.slice (some ⟨w6.heap.size,0,none⟩) 0 0)
   have fQ:aD X T pre [.int .i64 c.1,.int .i64 (c.2.1+1),.int .i64 0,.slice (some ⟨w6.heap.size,0,none⟩) 0 0,.slice la k lc,.int .i64 (k:Int)] post _:=n3.1;have gA:=az (az (az n5.2 n1.2) n2.2) n3.2;have tA:=BZ.grown gA (fun b e=>by cases e; exact .inl (by simp))
   have tB:((((w6.setCell ⟨X,pre.length+5,none⟩ (.int .i64 (k:Int))).setCell ⟨X,pre.length+1,none⟩ (.int .i64 (c.2.1+1))).setCell ⟨X,pre.length+2,none⟩ (.int .i64 0)).setCell ⟨X,pre.length+3,none⟩ (.slice (some ⟨w6.heap.size,0,none⟩) 0 0)).heap.size=w6.heap.size:=by simp
   have B0:=Hid.mk' (qJ (w:=w) HE.out fQ tA tB (by have:=U8.out; have:=Ik.out; have:=Hb.out; have:=pn.out; have:=xU.out; exact⟨fH.n,WalkArith.wf_i64 (by simp only[]; omega),(by show(Lit.int .i64 0).wf=true; decide),WalkArith.wf_i64 (by simp only[]; omega)⟩) rfl HL.out (fun b hb=>by rw[BY.out]; exact List.mem_append.2 (.inr (by cases la with | none=>exact hb | some a=>exact hb))) jH kF)
   have R7:(k:Int)≤1048576:=by have:=Hb.out.1; have:=pn.out; have:=xU.out; omega
   have NJ:=iU.lt;have e1:=iU.cell 1 _ rfl;have e2:=iU.cell 2 _ rfl;have e3:=iU.cell 3 _ rfl;have d1:=iU.fz (pre.length+1);have d2:=iU.fz (pre.length+2);have d3:=iU.fz (pre.length+3);clear iU jd lQ vT fQ n5 n1 n2 n3 gA tA BZ tB yW eX w2 h9 Rt;generalize pre.length=p at *;ab fail;an;exact⟨rfl,B0.out⟩
 · skip
   aj Tryz.func132,Tryz.ntmps132;ab fail;bE (fail)
   have dx:aD X T pre [.int .i64 c.1,.int .i64 c.2.1,.int .i64 c.2.2.1,.slice ja jn jc,.slice la ln lc,.int .i64 c.2.2.2.2.2] post (w.drewN nq):=vI.out.below (below_drewN (Below.refl _ _) _);have KV:lay.Frame [X] w (w.drewN nq):=lay.Frame.cM (below_drewN (Below.refl _ _) _);generalize Qv:w.drewN nq=w5 at *;clear Qv nq x1 x4 x5;have x1:=dx.cell 1 _ rfl;have x4:=dx.cell 4 _ rfl;have x5:=dx.cell 5 _ rfl;ab fail;clear x1 x4 x5;have yW:IntKind.i64.wrap (c.2.2.2.2.2+keep)=(k:Int):=by have:=Hb.out.2; have:=pn.out; have:=xU.out; have:=Ik.out; rw[IntKind.wrap_i64]; omega
   have eX:Below w5.heap.size w5 w5.drew:=(Below.refl _ _).drew;refine last.aB (S:=fun w'=>aD X T pre [.int .i64 c.1,.int .i64 c.2.1,.int .i64 c.2.2.1,.slice ja jn jc,.slice la ln lc,.int .i64 c.2.2.2.2.2] post w') 14 (by aa) (dx.below eX) (fun al=>?_)
   have KW:lay.Frame [X] w w5.drew:=KV.below eX;generalize hD:w5.drew=D at *;clear hD;refine last.ae (i:=0) (v:=(.pointer (some ⟨X,pre.length,none⟩))) rfl rfl (by aa) (by aa) (by aa) (by aa) (fun _ _ _ h=>h) (Or.inl ⟨by rfl,?_⟩) (by assumption) ?_
   · intro wq aC; af
   try simp only[Act.put,List.setIfInBounds_toArray,List.set_cons_zero,List.set_cons_succ];refine last.ae (i:=1) (v:=(.pointer (some ⟨X,pre.length,none⟩))) rfl rfl (by aa) (by aa) (by aa) (by aa) (fun _ _ _ h=>h) (Or.inl ⟨by rfl,?_⟩) (by assumption) ?_
   · intro wq aC; af
   try simp only[Act.put,List.setIfInBounds_toArray,List.set_cons_zero,List.set_cons_succ];refine last.ae (i:=2) (v:=(.pointer (some ⟨X,pre.length,none⟩))) rfl rfl (by aa) (by aa) (by aa) (by aa) (fun _ _ _ h=>h) (Or.inl ⟨by rfl,?_⟩) (by assumption) ?_
   · intro wq aC; af
   try simp only[Act.put,List.setIfInBounds_toArray,List.set_cons_zero,List.set_cons_succ];refine last.ae (i:=3) (v:=(.pointer (some ⟨X,pre.length+4,none⟩))) rfl rfl (by aa) (by aa) (by aa) (by aa) (fun _ _ _ h=>h) (Or.inl ⟨by rfl,?_⟩) (by assumption) ?_
   · intro wq aC; af
   try simp only[Act.put,List.setIfInBounds_toArray,List.set_cons_zero,List.set_cons_succ];refine last.ae (i:=4) (v:=(.slice la ln lc)) rfl rfl (by aa) (by aa) (by aa) (by aa) (fun _ _ _ h=>h) (Or.inl ⟨by rfl,?_⟩) (by assumption) ?_
   · intro wq aC; have q:=aC.cell 4 _ rfl; af
   try simp only[Act.put,List.setIfInBounds_toArray,List.set_cons_zero,List.set_cons_succ];refine last.ae (i:=5) (v:=(.pointer (some ⟨X,pre.length,none⟩))) rfl rfl (by aa) (by aa) (by aa) (by aa) (fun _ _ _ h=>h) (Or.inl ⟨by rfl,?_⟩) (by assumption) ?_
   · intro wq aC; af
   try simp only[Act.put,List.setIfInBounds_toArray,List.set_cons_zero,List.set_cons_succ];refine last.ae (i:=6) (v:=(.pointer (some ⟨X,pre.length,none⟩))) rfl rfl (by aa) (by aa) (by aa) (by aa) (fun _ _ _ h=>h) (Or.inl ⟨by rfl,?_⟩) (by assumption) ?_
   · intro wq aC; af
   try simp only[Act.put,List.setIfInBounds_toArray,List.set_cons_zero,List.set_cons_succ];refine last.ae (i:=7) (v:=(.pointer (some ⟨X,pre.length+5,none⟩))) rfl rfl (by aa) (by aa) (by aa) (by aa) (fun _ _ _ h=>h) (Or.inl ⟨by rfl,?_⟩) (by assumption) ?_
   · intro wq aC; af
   try simp only[Act.put,List.setIfInBounds_toArray,List.set_cons_zero,List.set_cons_succ];refine last.ae (i:=8) (v:=(.int .i64 c.2.2.2.2.2)) rfl rfl (by aa) (by aa) (by aa) (by aa) (fun _ _ _ h=>h) (Or.inl ⟨by rfl,?_⟩) (by assumption) ?_
   · intro wq aC; have q:=aC.cell 5 _ rfl; af
   try simp only[Act.put,List.setIfInBounds_toArray,List.set_cons_zero,List.set_cons_succ];refine last.ae (i:=9) (v:=(.int .i64 keep)) rfl rfl (by aa) (by aa) (by aa) (by aa) (fun _ _ _ h=>h) (Or.inl ⟨by rfl,?_⟩) (by assumption) ?_
   · intro wq aC; af
   try simp only[Act.put,List.setIfInBounds_toArray,List.set_cons_zero,List.set_cons_succ];refine last.ae (i:=10) (v:=(.int .i64 (k:Int))) rfl rfl (by aa) (by aa) (by aa) (by aa) (fun _ _ _ h=>h) (Or.inl ⟨by rfl,?_⟩) (by assumption) ?_
   · intro wq aC; af
   try simp only[Act.put,List.setIfInBounds_toArray,List.set_cons_zero,List.set_cons_succ];refine last.ae (i:=11) (v:=(.slice la k lc)) rfl rfl (by aa) (by aa) (by aa) (by aa) (fun _ _ _ h=>h) (Or.inl ⟨by rfl,?_⟩) (by assumption) ?_
   · intro wq aC; have q1:¬lc<k:=by(have:=Hb.out.1; have:=Yl.out; omega)
     af
   try simp only[Act.put,List.setIfInBounds_toArray,List.set_cons_zero,List.set_cons_succ];refine last.ax (i:=12) (o:=qO29) (by aa) rfl (fun K hK=>?_)
   af;refine hK.out _ _ ?_ (fun aq=>?_)
   · exact al
   clear hK K al;have al:=aq;clear aq;try simp only[Act.put,List.setIfInBounds_toArray,List.set_cons_zero,List.set_cons_succ];refine last.ae (i:=13) (v:=(.pointer (some ⟨X,pre.length+4,none⟩))) rfl rfl (by aa) (by aa) (by aa) (by aa) (fun _ _ _ h=>h) (Or.inl ⟨by rfl,?_⟩) (by assumption) ?_
   · intro wq aC; af
   try simp only[Act.put,List.setIfInBounds_toArray,List.set_cons_zero,List.set_cons_succ];have n4:=al.set 4 (by simp) (.slice la k lc)
   have u4:=al.cell 4 _ rfl;have v4:=al.fz (pre.length+4);refine last.aL (o:=qO30) (by aa) rfl (by aa) (fun K hK=>?_)
   af;refine hK.out _ _ ?_;clear hK K;have iU:aD X T pre [.int .i64 c.1,.int .i64 c.2.1,.int .i64 c.2.2.1,.slice ja jn jc,.slice la k lc,.int .i64 c.2.2.2.2.2] post _:=n4.1;have g4:=n4.2;have BZ:=KW.grown g4 (fun b e=>by cases e; exact .inl (by simp))
   have H5:D.heap.size≤(D.setCell ⟨X,pre.length+4,none⟩ (.slice la k lc)).heap.size:=g4.size;clear n4 u4 v4 al g4;generalize xj:D.setCell ⟨X,pre.length+4,none⟩ (.slice la k lc)=w6 at *;clear xj;have q4:=iU.cell 4 _ rfl;have q5:=iU.cell 5 _ rfl;have f5:=iU.fz (pre.length+5);have n5:=iU.set 5 (by simp) (.int .i64 (k:Int))
   have jd:aD X T pre [.int .i64 c.1,.int .i64 c.2.1,.int .i64 c.2.2.1,.slice ja jn jc,.slice la k lc,.int .i64 (k:Int)] post _:=n5.1;have q1:=jd.cell 1 _ rfl;have f1:=jd.fz (pre.length+1);have n1:=jd.set 1 (by simp) (.int .i64 (c.2.1+1))
   have lQ:aD X T pre [.int .i64 c.1,.int .i64 (c.2.1+1),.int .i64 c.2.2.1,.slice ja jn jc,.slice la k lc,.int .i64 (k:Int)] post _:=n1.1;have q2:=lQ.cell 2 _ rfl;have f2:=lQ.fz (pre.length+2);have n2:=lQ.set 2 (by simp) (.int .i64 0)
   have vT:aD X T pre [.int .i64 c.1,.int .i64 (c.2.1+1),.int .i64 0,.slice ja jn jc,.slice la k lc,.int .i64 (k:Int)] post _:=n2.1;have q3:=vT.cell 3 _ rfl;have f3:=vT.fz (pre.length+3);have n3:=vT.set 3 (by simp) (.slice (some ⟨w6.heap.size,0,none⟩) 0 0)
   have fQ:aD X T pre [.int .i64 c.1,.int .i64 (c.2.1+1),.int .i64 0,.slice (some ⟨w6.heap.size,0,none⟩) 0 0,.slice la k lc,.int .i64 (k:Int)] post _:=n3.1;have gA:=az (az (az n5.2 n1.2) n2.2) n3.2;have tA:=BZ.grown gA (fun b e=>by cases e; exact .inl (by simp))
   have tB:((((w6.setCell ⟨X,pre.length+5,none⟩ (.int .i64 (k:Int))).setCell ⟨X,pre.length+1,none⟩ (.int .i64 (c.2.1+1))).setCell ⟨X,pre.length+2,none⟩ (.int .i64 0)).setCell ⟨X,pre.length+3,none⟩ (.slice (some ⟨w6.heap.size,0,none⟩) 0 0)).heap.size=w6.heap.size:=by simp
   have B0:=Hid.mk' (qJ (w:=w) HE.out fQ tA tB (by have:=U8.out; have:=Ik.out; have:=Hb.out; have:=pn.out; have:=xU.out; exact⟨fH.n,WalkArith.wf_i64 (by simp only[]; omega),(by show(Lit.int .i64 0).wf=true; decide),WalkArith.wf_i64 (by simp only[]; omega)⟩) rfl HL.out (fun b hb=>by rw[BY.out]; exact List.mem_append.2 (.inr (by cases la with | none=>exact hb | some a=>exact hb))) jH kF)
   have R7:(k:Int)≤1048576:=by have:=Hb.out.1; have:=pn.out; have:=xU.out; omega
   have NJ:=iU.lt;have e1:=iU.cell 1 _ rfl;have e2:=iU.cell 2 _ rfl;have e3:=iU.cell 3 _ rfl;have d1:=iU.fz (pre.length+1);have d2:=iU.fz (pre.length+2);have d3:=iU.fz (pre.length+3);clear iU jd lQ vT fQ n5 n1 n2 n3 gA tA BZ tB yW eX w2 h9 Rt;generalize pre.length=p at *;ab fail;an;exact⟨rfl,B0.out⟩
end cos
namespace cos
open Go Go.RowKit base aE aX lay lh
def tC:Rd Wd:=both int (both int (both int (both kB bool)))
def Qw:Rd (List Wd):=slice 112 tC
theorem TZ:(Tryz.prog.info? 112).map (fun i=>(i.zero,i.size,i.bytes))=some (some (.agg #[.int .i64 0,.int .i64 0,.int .i64 0,.slice none 0 0,.bool false]),5,56):=by aa
section
variable{w:World}{vs:List Value}{x:Wd}{F:List Nat}
theorem KX:tC.own w vs x F↔∃v,vs=[.int .i64 x.1,.int .i64 x.2.1,.int .i64 x.2.2.1,v,.bool x.2.2.2.2]∧(Lit.int .i64 x.1).wf=true∧(Lit.int .i64 x.2.1).wf=true∧(Lit.int .i64 x.2.2.1).wf=true∧kB.own w [v] x.2.2.2.1 F:=by
 constructor
 · rintro⟨u1,t1,F1,G1,rfl,rfl,h1,⟨u2,t2,F2,G2,rfl,rfl,h2,⟨u3,t3,F3,G3,rfl,rfl,h3,⟨u4,t4,F4,G4,rfl,rfl,h4,h5,_⟩,_⟩,_⟩,_⟩;obtain⟨rfl,k1,rfl⟩:=aV.own.1 h1;obtain⟨rfl,k2,rfl⟩:=aV.own.1 h2;obtain⟨rfl,k3,rfl⟩:=aV.own.1 h3;obtain⟨rfl,_,rfl⟩:=pj.own.1 h5;obtain⟨v,q,rfl,_⟩:=id h4;exact⟨v,rfl,k1,k2,k3,by simpa using h4⟩
 · rintro⟨v,rfl,k1,k2,k3,h4⟩;have hn:=kB.bU h4;exact⟨[_],[_,_,v,_],[],F,rfl,rfl,aV.own.2 ⟨rfl,k1,rfl⟩,⟨[_],[_,v,_],[],F,rfl,rfl,aV.own.2 ⟨rfl,k2,rfl⟩,⟨[_],[v,_],[],F,rfl,rfl,aV.own.2 ⟨rfl,k3,rfl⟩,⟨[v],[_],F,[],rfl,(List.append_nil _).symm,h4,pj.own.2 ⟨rfl,trivial,rfl⟩,hn⟩,hn⟩,hn⟩,hn⟩
end
def ie(n tx:Int)(ops:List Od)(yes:List Int)(l:List Int):List Wd:=(l.filter fun s=> !decide (s∈yes)).map fun s=>(1,s,tx,ec s n ops,false)
theorem B3(n tx:Int)(ops:List Od)(yes:List Int)(l:List Int)(s:Int):ie n tx ops yes (l++[s])=if s∈yes then ie n tx ops yes l else ie n tx ops yes l++[(1,s,tx,ec s n ops,false)]:=by
 unfold ie;rw[List.filter_append,List.map_append];by_cases h:s∈yes
 · rw[if_pos h]; simp[List.filter_cons,h]
 · rw[if_neg h]; simp[List.filter_cons,h]
theorem El(n tx:Int)(ops:List Od)(yes:List Int)(l:List Int):(ie n tx ops yes l).length≤l.length:=by
 unfold ie; rw[List.length_map]; exact List.length_filter_le _ _
end cos
namespace gv
open Go Go.RowKit
theorem N_{P:Program}{ops:Array Oper}{o:Oper}{a:Act}{w:World}{K:Act→World→Prop}{Q:Exit→Act→World→Prop}{E:Prop}(qV:o.guard=none)(f:FuncId)(x0:Operand)(ts:Array TypeId)
 (ho:o.op=.call {callee:=.value (.func f),args:=#[x0],argTypes:=ts}) (vc:∀args w,(callFunc f args).run P w=.ok (.enter f args) w)
 (v0:Value) (h0:a.eval x0=v0) (R:Ending→World→Prop) (hc:Calls P f #[v0] w R)
 (h:∀e w',R e w'→∃v,e=.returned v∧K (a.put o.dst v) w'):
 if Region.wanted o (yielded ops a.tmps)=true then Oper.wp P o a w K Q else E:=by
 have hw:Region.wanted o (yielded ops a.tmps)=true:=by simp[Region.wanted,qV]
 rw[if_pos hw];unfold Oper.wp execOp;have hf:a.eval (.func f)=.func (.func f) #[] #[]:=rfl;have Jr:(Deferred.ofValue (Value.func (Fn.func f) #[] #[]) #[v0]).run P w=.ok {target:=.fn (.func f) #[],args:=#[v0]} w:=rfl;simp only[ho,resolve,invoke,Sem.run_bind,List.map_toArray,List.map_cons,List.map_nil,h0,hf,Jr,Result.andThen_ok,vc];show Calls P f #[v0] w _;exact hc.mono (fun e w' he=>by obtain⟨v,rfl,hr⟩:=h e w' he; exact hr)
theorem call2{P:Program}{ops:Array Oper}{o:Oper}{a:Act}{w:World}{K:Act→World→Prop}{Q:Exit→Act→World→Prop}{E:Prop}(qV:o.guard=none)(f:FuncId)(x0 x1:Operand)(ts:Array TypeId)
 (ho:o.op=.call {callee:=.value (.func f),args:=#[x0,x1],argTypes:=ts}) (vc:∀args w,(callFunc f args).run P w=.ok (.enter f args) w)
 (v0 v1:Value) (h0:a.eval x0=v0) (h1:a.eval x1=v1) (R:Ending→World→Prop) (hc:Calls P f #[v0,v1] w R)
 (h:∀e w',R e w'→∃v,e=.returned v∧K (a.put o.dst v) w'):
 if Region.wanted o (yielded ops a.tmps)=true then Oper.wp P o a w K Q else E:=by
 have hw:Region.wanted o (yielded ops a.tmps)=true:=by simp[Region.wanted,qV]
 rw[if_pos hw];unfold Oper.wp execOp;have hf:a.eval (.func f)=.func (.func f) #[] #[]:=rfl;have Jr:(Deferred.ofValue (Value.func (Fn.func f) #[] #[]) #[v0,v1]).run P w=.ok {target:=.fn (.func f) #[],args:=#[v0,v1]} w:=rfl;simp only[ho,resolve,invoke,Sem.run_bind,List.map_toArray,List.map_cons,List.map_nil,h0,h1,hf,Jr,Result.andThen_ok,vc];show Calls P f #[v0,v1] w _;exact hc.mono (fun e w' he=>by obtain⟨v,rfl,hr⟩:=h e w' he; exact hr)
theorem call3{P:Program}{ops:Array Oper}{o:Oper}{a:Act}{w:World}{K:Act→World→Prop}{Q:Exit→Act→World→Prop}{E:Prop}(qV:o.guard=none)(f:FuncId)(x0 x1 x2:Operand)(ts:Array TypeId)
 (ho:o.op=.call {callee:=.value (.func f),args:=#[x0,x1,x2],argTypes:=ts}) (vc:∀args w,(callFunc f args).run P w=.ok (.enter f args) w)
 (v0 v1 v2:Value) (h0:a.eval x0=v0) (h1:a.eval x1=v1) (h2:a.eval x2=v2) (R:Ending→World→Prop) (hc:Calls P f #[v0,v1,v2] w R)
 (h:∀e w',R e w'→∃v,e=.returned v∧K (a.put o.dst v) w'):
 if Region.wanted o (yielded ops a.tmps)=true then Oper.wp P o a w K Q else E:=by
 have hw:Region.wanted o (yielded ops a.tmps)=true:=by simp[Region.wanted,qV]
 rw[if_pos hw];unfold Oper.wp execOp;have hf:a.eval (.func f)=.func (.func f) #[] #[]:=rfl;have Jr:(Deferred.ofValue (Value.func (Fn.func f) #[] #[]) #[v0,v1,v2]).run P w=.ok {target:=.fn (.func f) #[],args:=#[v0,v1,v2]} w:=rfl;simp only[ho,resolve,invoke,Sem.run_bind,List.map_toArray,List.map_cons,List.map_nil,h0,h1,h2,hf,Jr,Result.andThen_ok,vc];show Calls P f #[v0,v1,v2] w _;exact hc.mono (fun e w' he=>by obtain⟨v,rfl,hr⟩:=h e w' he; exact hr)
theorem call4{P:Program}{ops:Array Oper}{o:Oper}{a:Act}{w:World}{K:Act→World→Prop}{Q:Exit→Act→World→Prop}{E:Prop}(qV:o.guard=none)(f:FuncId)(x0 x1 x2 x3:Operand)(ts:Array TypeId)
 (ho:o.op=.call {callee:=.value (.func f),args:=#[x0,x1,x2,x3],argTypes:=ts}) (vc:∀args w,(callFunc f args).run P w=.ok (.enter f args) w)
 (v0 v1 v2 v3:Value) (h0:a.eval x0=v0) (h1:a.eval x1=v1) (h2:a.eval x2=v2) (h3:a.eval x3=v3) (R:Ending→World→Prop) (hc:Calls P f #[v0,v1,v2,v3] w R)
 (h:∀e w',R e w'→∃v,e=.returned v∧K (a.put o.dst v) w'):
 if Region.wanted o (yielded ops a.tmps)=true then Oper.wp P o a w K Q else E:=by
 have hw:Region.wanted o (yielded ops a.tmps)=true:=by simp[Region.wanted,qV]
 rw[if_pos hw];unfold Oper.wp execOp;have hf:a.eval (.func f)=.func (.func f) #[] #[]:=rfl;have Jr:(Deferred.ofValue (Value.func (Fn.func f) #[] #[]) #[v0,v1,v2,v3]).run P w=.ok {target:=.fn (.func f) #[],args:=#[v0,v1,v2,v3]} w:=rfl;simp only[ho,resolve,invoke,Sem.run_bind,List.map_toArray,List.map_cons,List.map_nil,h0,h1,h2,h3,hf,Jr,Result.andThen_ok,vc];show Calls P f #[v0,v1,v2,v3] w _;exact hc.mono (fun e w' he=>by obtain⟨v,rfl,hr⟩:=h e w' he; exact hr)
end gv
namespace cos
open Go Go.RowKit base aE aX lay lh
def Qx(w:World)(x:List Wd)(e:Ending)(w':World):Prop:=∃g m cap q,e=.returned (.slice (some ⟨g,0,none⟩) m cap)∧bz 112 tC w' (.slice (some ⟨g,0,none⟩) m cap) x q∧(∀k∈g::aw q,w.heap.size≤k)∧Below w.heap.size w w'
theorem Qx.v{w w':World}{x:List Wd}{e:Ending}(h:Qx w x e w'):XS Qw w x e w':=by
 obtain⟨g,m,cap,q,rfl,hO,hq,hb⟩:=h;exact⟨_,_,rfl,⟨_,q,rfl,rfl,hO⟩,fun bb hb=>hq bb (by simpa[Value.ownBlock] using hb),hb⟩
theorem KY(w:World):(w.alloc (.cells #[] 112)).ownsRow 0 112 5 (.slice (some ⟨w.heap.size,0,none⟩) 0 0) 0 []:=World.ownsRow_made w #[] 0 (Nat.zero_le _) (Nat.zero_le _) (by simp)
theorem Hc{α:Type}{R:Rd α}{ty:TypeId}{w:World}{g n:Nat}{k:Nat}(h:w.ownsRow k ty R.size (.slice (some ⟨g,0,none⟩) 0 n) 0 []):bz ty R w (.slice (some ⟨g,0,none⟩) 0 n) [] []:=by
 refine⟨rfl,?_,fun i hi=>absurd hi (by simp),by simp[aw,Value.ownBlock]⟩
 obtain⟨h1,h2⟩:=h;refine⟨h1,?_⟩;rcases h2 with h2 | ⟨g',c',cur,h2,h3,h4⟩
 · exact .inl h2
 · exact .inr ⟨g',c',cur,h2,Nat.zero_le _,h4⟩
theorem Ym.aX.dm.kept{w w':World}{base g n cap:Nat}{zs:List Int}(h:dm w base g n cap zs)(hb:w'.heap[g]? =w.heap[g]?):dm w' base g n cap zs:=by
 obtain⟨h1,h2,h3⟩:=h;refine⟨h1,h2,?_⟩;rcases h3 with h3 | ⟨g',c',cur,e,h4,h5,h6⟩
 · exact .inl h3
 · cases e;exact .inr ⟨g,_,cur,rfl,h4,hb.trans h5,h6⟩
theorem KZ(l:List Int)(x:Int):(fj l x).length≤l.length+1:=by
 unfold fj
 split
 · omega
 · have h1:(l.filter fun z=>decide (z<x)).length+(l.filter fun z=>decide (x<z)).length≤l.length:=by
    induction l with
    | nil=>simp
    | cons y l ih=>
     have ih2:∀l:List Int,(l.filter fun z=>decide (z<x)).length+(l.filter fun z=>decide (x<z)).length≤l.length:=by
      intro l
      induction l with
      | nil=>simp
      | cons y l ih=>by_cases h1:y<x <;> by_cases h2:x<y <;> simp[List.filter_cons,h1,h2] <;> omega
     exact ih2 _
   simp; omega
theorem kK(n:Int)(ops:List Od){k:Nat}(h:ops.length≤k):(aM n ops).length≤k:=by
 have:∀(l:List Od) (u:List Int),(l.foldl (fun u o=>fj u (bA o.2.1 n)) u).length≤u.length+l.length:=by
  intro l
  induction l with
  | nil=>intro u; simp
  | cons o l ih=>
   intro u;have h1:=ih (fj u (bA o.2.1 n));have h2:=KZ u (bA o.2.1 n);simp only[List.foldl_cons,List.length_cons];omega
 have h1:=this ops [];unfold aM;simp at h1;omega
end cos
end Go.Proofs.YtmibabclefgljaaGreat
