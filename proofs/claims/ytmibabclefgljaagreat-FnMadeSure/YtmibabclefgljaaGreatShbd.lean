/- CoCr WdLay StepG CoHo -/
import Derived.Test.YtmibabclefgljaaGreatShbc
import Derived.Test.YtmibabclefgljaaGreatShay
import Derived.Test.YtmibabclefgljaaGreatShax
import Derived.BigQuiet
import Derived.Test.YtmibabclefgljaaGreatShav
import Derived.Test.YtmibabclefgljaaGreatShbb
import Derived.Test.YtmibabclefgljaaGreatShaz
import Derived.WalkKit
import Derived.WalkSpells
import Derived.WalkLawsBesides
import Derived.Test.YtmibabclefgljaaGreatShah
set_option linter.unusedVariables false
set_option linter.unusedSimpArgs false
namespace Go.Proofs.YtmibabclefgljaaGreat
open Go in
abbrev qO29:Oper:={dst:=some 46,op:=Op.nilCheck (Operand.tmp 34),type:=0,pos:= "l11_coord.go:206",after:=#[{on:=0,ground:=Ground.data},{on:=0,ground:=Ground.phase},{on:=1,ground:=Ground.phase},{on:=2,ground:=Ground.phase},{on:=3,ground:=Ground.phase},{on:=4,ground:=Ground.phase},{on:=5,ground:=Ground.phase},{on:=6,ground:=Ground.phase},{on:=7,ground:=Ground.phase},{on:=8,ground:=Ground.phase},{on:=9,ground:=Ground.phase},{on:=10,ground:=Ground.phase},{on:=11,ground:=Ground.phase}],guard:=none}
open Go in
abbrev qO30:Oper:={dst:=none,op:=Op.store 26 (Operand.tmp 47) (Operand.tmp 45),type:=0,pos:= "l11_coord.go:206",after:=#[{on:=13,ground:=Ground.data},{on:=11,ground:=Ground.data},{on:=0,ground:=Ground.phase},{on:=1,ground:=Ground.phase},{on:=2,ground:=Ground.phase},{on:=3,ground:=Ground.phase},{on:=4,ground:=Ground.phase},{on:=5,ground:=Ground.phase},{on:=6,ground:=Ground.phase},{on:=7,ground:=Ground.phase},{on:=8,ground:=Ground.phase},{on:=9,ground:=Ground.phase},{on:=10,ground:=Ground.phase},{on:=11,ground:=Ground.phase}],guard:=none}
namespace cos
open Go Go.RowKit base av aN lay kN
structure iY (w:World) (X:Nat) (T:TypeId) (pre post:List Value) (ja:Option Addr) (jn jc:Nat) (la:Option Addr) (ln lc:Nat) (c:Co) (F:List Nat):Prop where
 box:au X T pre [.int .i64 c.1,.int .i64 c.2.1,.int .i64 c.2.2.1,.slice ja jn jc,.slice la ln lc,.int .i64 c.2.2.2.2.2] post w
 own:a7.own w [.int .i64 c.1,.int .i64 c.2.1,.int .i64 c.2.2.1,.slice ja jn jc,.slice la ln lc,.int .i64 c.2.2.2.2.2] c F
 out:X∉F
def fp(w:World)(X:Nat)(T:TypeId)(pre post:List Value)(F:List Nat)(c':Co)(w':World):Prop:=
 ∃ja jn jc la ln lc F',iY w' X T pre post ja jn jc la ln lc c' F'∧lay.Frame (X::F) w w'∧fu w F F'
def eQ(c:Co)(keep:Int):Co:=if c.2.1=900 then c else(c.1,c.2.1+1,0,[],c.2.2.2.2.1.take (xW c.2.2.2.2.1.length c.2.2.2.2.2 keep),(xW c.2.2.2.2.1.length c.2.2.2.2.2 keep:Int))
theorem qo{w wI:World}{X:Nat}{T:TypeId}{pre post:List Value}{c c':Co}{keep:Int}{la:Option Addr}{k lc S:Nat}{F:List Nat}{ql:dJ}(he:eQ c keep=c')(hb:au X T pre [.int .i64 c'.1,.int .i64 c'.2.1,.int .i64 c'.2.2.1,.slice (some ⟨S,0,none⟩) 0 0,.slice la k lc,.int .i64 c'.2.2.2.2.2] post wI)(hf:lay.Frame [X] w wI)(hs:wI.heap.size=S)(fo:r9 c')(DK:c'.2.2.2.1=[])(X9:bk 87 q_ w (.slice la k lc) c'.2.2.2.2.1 ql)(Vi:∀b∈(Value.slice la k lc).ownBlock.toList,b∈F)(jr:X∉F)(kh:∀b∈F,b<w.heap.size):fp w X T pre post F (eQ c keep) (wI.alloc (.cells #[] 75)):=by
 have xB:Below wI.heap.size wI (wI.alloc (.cells #[] 75)):=aJ;have hL:bk 87 q_ wI (.slice la k lc) c'.2.2.2.2.1 ql:=X9.keep fun b aU=>hf.block b (X9.at_ b aU) (fun e=>by
  rw[List.mem_singleton] at e;rw[(dH.parts X9).2.2.1,List.append_nil] at aU;exact jr (e ▸ Vi b aU))
 have hJ:kP.own (wI.alloc (.cells #[] 75)) [.slice (some ⟨S,0,none⟩) 0 0] c'.2.2.2.1 [S]:=by rw[DK,←hs]; exact⟨_,[],rfl,by simp[Value.ownBlock,al],lay.lB _ _ _⟩
 have hl:qd.own (wI.alloc (.cells #[] 75)) [.slice la k lc] c'.2.2.2.2.1 (Value.slice la k lc).ownBlock.toList:=iw.2 ⟨⟨ql,hL.below xB⟩,rfl⟩;have iN:=hb.lt;have hlS:∀b∈(Value.slice la k lc).ownBlock.toList,b≠S:=fun b aU e=>by
  have h1:=kh b (Vi b aU);have h2:=hf.size;omega
 have dW:([S]++(Value.slice la k lc).ownBlock.toList).Nodup:=bL (by simp) (qd.bG hl) fun b aU dt=>by
  rw[List.mem_singleton] at aU;exact hlS b dt aU
 have OV:=bn.2 ⟨_,_,_,_,rfl,fo,hJ,hl,rfl,dW⟩;rw[he];refine⟨_,_,_,la,k,lc,[S]++(Value.slice la k lc).ownBlock.toList,⟨hb.below xB,OV,fun e=>?_⟩,(hf.mono fun j hj=>by rw[List.mem_singleton] at hj; subst hj; exact List.mem_cons_self).below xB,fun b aU=>?_⟩
 · rcases List.mem_append.1 e with e | e
   · rw[List.mem_singleton] at e; omega
   · exact jr (Vi _ e)
 · rcases List.mem_append.1 aU with e | e
   · rw[List.mem_singleton] at e; have:=hf.size; exact .inr (by omega)
   · exact .inl (Vi b e)
set_option maxRecDepth 100000 in
set_option maxHeartbeats 1000000 in
theorem wX(X:Nat)(T:TypeId)(pre post:List Value)(ja:Option Addr)(jn jc:Nat)(la:Option Addr)(ln lc:Nat)(c:Co)(F:List Nat)(keep:Int)(w:World)(h:iY w X T pre post ja jn jc la ln lc c F)(rl:1≤c.2.1∧c.2.1≤900)(NY:0≤c.2.2.2.2.2∧c.2.2.2.2.2≤(c.2.2.2.2.1.length:Int))(TL:c.2.2.2.2.1.length≤1048576)(hkw:(Lit.int .i64 keep).wf=true):
 Calls Tryz.prog 132 #[.pointer (some ⟨X,pre.length,none⟩),.int .i64 keep] w fun e w'=>e=.returned (.bool (decide (c.2.1≠900)))∧fp w X T pre post F (eQ c keep) w':=by
 obtain⟨bt,aB,jr⟩:=h;have iN:=bt.lt;obtain⟨x,y,F1,F2,e,fo,hj,hl,dL,dW⟩:=bn.1 aB;simp only[List.cons.injEq,and_true,true_and] at e;obtain⟨rfl,rfl⟩:=e;obtain⟨⟨ql,hL⟩,rfl⟩:=iw.1 hl;have nj:ln=c.2.2.2.2.1.length:=hL.sl.1.symm;have TM:ln≤lc:=by rcases hL.shape with⟨e,h1,_⟩ | ⟨g,cap,e,h1,_⟩ <;> (cases e; try omega)
 by_cases h9:c.2.1=900
 · have HE:Hid (eQ c keep=c):=if_pos h9;have x1:=bt.cell 1 _ rfl;have HP:Hid (fp w X T pre post F c w):=⟨ja,jn,jc,la,ln,lc,F,⟨bt,aB,jr⟩,lay.Frame.refl _ _,fu.refl _ _⟩;have TN:decide (c.2.1≠900)=false:=decide_eq_false (fun e=>e h9)
   rw[TN];have Rj:(c.2.1==900)=true:=beq_iff_eq.2 h9;clear h9 bt aB hj hl hL rl TN;generalize c.2.1=lf at *;go_enter Tryz.func132,Tryz.ntmps132;go_wp2_with fail;go_ret;exact⟨rfl,by rw[HE.out]; exact HP.out⟩
 obtain⟨k,hk⟩:∃k,xW ln c.2.2.2.2.2 keep=k:=⟨_,rfl⟩;have xh:=BI (ln:=ln) (sure:=c.2.2.2.2.2) (keep:=keep) (by omega)
 rw[hk] at xh;have HE:Hid (eQ c keep=(c.1,c.2.1+1,0,[],c.2.2.2.2.1.take k,(k:Int))):=by show _=_; unfold eQ; rw[if_neg h9,←nj,hk]
 have TN:decide (c.2.1≠900)=true:=decide_eq_true h9;have Rj:(c.2.1==900)=false:=beq_eq_false_iff_ne.2 h9;rw[TN];clear hk TN;have w1:IntKind.i64.wrap (c.2.1+1)=c.2.1+1:=by rw[IntKind.wrap_i64]; omega
 have w2:IntKind.i64.wrap ((ln:Int) - c.2.2.2.2.2)=(ln:Int) - c.2.2.2.2.2:=by rw[IntKind.wrap_i64]; omega
 have x1:=bt.cell 1 _ rfl;have x4:=bt.cell 4 _ rfl;have x5:=bt.cell 5 _ rfl;have oQ:=Hid.mk' nj;have H9:=Hid.mk' NY;have GN:=Hid.mk' xh;have xC:=Hid.mk' TL;have UU:=Hid.mk' rl;have X_:=Hid.mk' TM;have HL:=Hid.mk' (hL.take k (by omega))
 have HJ:=Hid.mk' hj;have TO:=Hid.mk' dW;have BJ:=Hid.mk' dL;have kh:=a7.dv aB;have vi:=Hid.mk' bt;clear nj TM NY xh TL rl hL hj hl dW dL aB bt;by_cases hneg:keep<0
 · have hz:¬(ln:Int) - c.2.2.2.2.2<0:=by have:=oQ.out; have:=H9.out; omega
   go_enter Tryz.func132,Tryz.ntmps132;go_wp2_with fail;go_quiet (fail)
   have de:au X T pre [.int .i64 c.1,.int .i64 c.2.1,.int .i64 c.2.2.1,.slice ja jn jc,.slice la ln lc,.int .i64 c.2.2.2.2.2] post (w.drewN nq):=vi.out.below (below_drewN (Below.refl _ _) _);have KI:lay.Frame [X] w (w.drewN nq):=lay.Frame.cu (below_drewN (Below.refl _ _) _);generalize Qm:w.drewN nq=w5 at *;clear Qm nq x1 x4 x5;have x1:=de.cell 1 _ rfl;have x4:=de.cell 4 _ rfl;have x5:=de.cell 5 _ rfl;go_wp2_with fail;clear x1 x4 x5;have hkk0:IntKind.i64.wrap c.2.2.2.2.2=(k:Int):=by have:=GN.out.2; have:=oQ.out; have:=xC.out; have:=H9.out; rw[IntKind.wrap_i64]; omega
   have yE:IntKind.i64.wrap (c.2.2.2.2.2+0)=(k:Int):=by have:=GN.out.2; have:=oQ.out; have:=xC.out; have:=H9.out; rw[IntKind.wrap_i64]; omega
   have eJ:Below w5.heap.size w5 w5.drew:=(Below.refl _ _).drew;refine last.aq (S:=fun w'=>au X T pre [.int .i64 c.1,.int .i64 c.2.1,.int .i64 c.2.2.1,.slice ja jn jc,.slice la ln lc,.int .i64 c.2.2.2.2.2] post w') 14 (by kernel_rfl) (de.below eJ) (fun af=>?_)
   have KJ:lay.Frame [X] w w5.drew:=KI.below eJ;generalize hD:w5.drew=D at *;clear hD;refine last.wpTk 0 (.pointer (some ⟨X,pre.length,none⟩)) rfl rfl ?_ ?_
   · intro wq ar; go_simp
   try simp only[Act.put,zP,zQ,zR]
   refine last.wpTk 1 (.pointer (some ⟨X,pre.length,none⟩)) rfl rfl ?_ ?_
   · intro wq ar; go_simp
   try simp only[Act.put,zP,zQ,zR]
   refine last.wpTk 2 (.pointer (some ⟨X,pre.length,none⟩)) rfl rfl ?_ ?_
   · intro wq ar; go_simp
   try simp only[Act.put,zP,zQ,zR]
   refine last.wpTk 3 (.pointer (some ⟨X,pre.length+4,none⟩)) rfl rfl ?_ ?_
   · intro wq ar; go_simp
   try simp only[Act.put,zP,zQ,zR]
   refine last.wpTk 4 (.slice la ln lc) rfl rfl ?_ ?_
   · intro wq ar; have q:=ar.cell 4 _ rfl; go_simp
   try simp only[Act.put,zP,zQ,zR]
   refine last.wpTk 5 (.pointer (some ⟨X,pre.length,none⟩)) rfl rfl ?_ ?_
   · intro wq ar; go_simp
   try simp only[Act.put,zP,zQ,zR]
   refine last.wpTk 6 (.pointer (some ⟨X,pre.length,none⟩)) rfl rfl ?_ ?_
   · intro wq ar; go_simp
   try simp only[Act.put,zP,zQ,zR]
   refine last.wpTk 7 (.pointer (some ⟨X,pre.length+5,none⟩)) rfl rfl ?_ ?_
   · intro wq ar; go_simp
   try simp only[Act.put,zP,zQ,zR]
   refine last.wpTk 8 (.int .i64 c.2.2.2.2.2) rfl rfl ?_ ?_
   · intro wq ar; have q:=ar.cell 5 _ rfl; go_simp
   try simp only[Act.put,zP,zQ,zR]
   refine last.wpTk 9 (.int .i64 0) rfl rfl ?_ ?_
   · intro wq ar; go_simp
   try simp only[Act.put,zP,zQ,zR]
   refine last.wpTk 10 (.int .i64 (k:Int)) rfl rfl ?_ ?_
   · intro wq ar; go_simp
   try simp only[Act.put,zP,zQ,zR]
   refine last.wpTk 11 (.slice la k lc) rfl rfl ?_ ?_
   · intro wq ar; have q1:¬lc<k:=by(have:=GN.out.1; have:=X_.out; omega)
     go_simp
   try simp only[Act.put,zP,zQ,zR]
   refine last.an (i:=12) (o:=qO29) (by kernel_rfl) rfl (fun K hK=>?_)
   go_simp;refine hK.out _ _ ?_ (fun ag=>?_)
   · exact af
   clear hK K af;have af:=ag;clear ag;try simp only[Act.put,zP,zQ,zR]
   refine last.wpTk 13 (.pointer (some ⟨X,pre.length+4,none⟩)) rfl rfl ?_ ?_
   · intro wq ar; go_simp
   try simp only[Act.put,zP,zQ,zR]
   have n4:=af.set 4 (by simp) (.slice la k lc)
   have u4:=af.cell 4 _ rfl;have v4:=af.fz (pre.length+4);refine last.aC (o:=qO30) (by kernel_rfl) rfl (by kernel_rfl) (fun K hK=>?_)
   go_simp;refine hK.out _ _ ?_;clear hK K;have iE:au X T pre [.int .i64 c.1,.int .i64 c.2.1,.int .i64 c.2.2.1,.slice ja jn jc,.slice la k lc,.int .i64 c.2.2.2.2.2] post _:=n4.1;have g4:=n4.2;have BK:=KJ.grown g4 (fun b e=>by cases e; exact .inl (by simp))
   have Hr:D.heap.size≤(D.setCell ⟨X,pre.length+4,none⟩ (.slice la k lc)).heap.size:=g4.size;clear n4 u4 v4 af g4;generalize wP:D.setCell ⟨X,pre.length+4,none⟩ (.slice la k lc)=w6 at *;clear wP;have q4:=iE.cell 4 _ rfl;have q5:=iE.cell 5 _ rfl;have f5:=iE.fz (pre.length+5);have n5:=iE.set 5 (by simp) (.int .i64 (k:Int))
   have iL:au X T pre [.int .i64 c.1,.int .i64 c.2.1,.int .i64 c.2.2.1,.slice ja jn jc,.slice la k lc,.int .i64 (k:Int)] post _:=n5.1;have q1:=iL.cell 1 _ rfl;have f1:=iL.fz (pre.length+1);have n1:=iL.set 1 (by simp) (.int .i64 (c.2.1+1))
   have ly:au X T pre [.int .i64 c.1,.int .i64 (c.2.1+1),.int .i64 c.2.2.1,.slice ja jn jc,.slice la k lc,.int .i64 (k:Int)] post _:=n1.1;have q2:=ly.cell 2 _ rfl;have f2:=ly.fz (pre.length+2);have n2:=ly.set 2 (by simp) (.int .i64 0)
   have vA:au X T pre [.int .i64 c.1,.int .i64 (c.2.1+1),.int .i64 0,.slice ja jn jc,.slice la k lc,.int .i64 (k:Int)] post _:=n2.1;have q3:=vA.cell 3 _ rfl;have f3:=vA.fz (pre.length+3);have n3:=vA.set 3 (by simp) (.slice (some ⟨w6.heap.size,0,none⟩) 0 0)
   have fC:au X T pre [.int .i64 c.1,.int .i64 (c.2.1+1),.int .i64 0,.slice (some ⟨w6.heap.size,0,none⟩) 0 0,.slice la k lc,.int .i64 (k:Int)] post _:=n3.1;have gA:=ao (ao (ao n5.2 n1.2) n2.2) n3.2;have tb:=BK.grown gA (fun b e=>by cases e; exact .inl (by simp))
   have td:((((w6.setCell ⟨X,pre.length+5,none⟩ (.int .i64 (k:Int))).setCell ⟨X,pre.length+1,none⟩ (.int .i64 (c.2.1+1))).setCell ⟨X,pre.length+2,none⟩ (.int .i64 0)).setCell ⟨X,pre.length+3,none⟩ (.slice (some ⟨w6.heap.size,0,none⟩) 0 0)).heap.size=w6.heap.size:=by simp
   have BL:=Hid.mk' (qo (w:=w) HE.out fC tb td (by have:=UU.out; have:=H9.out; have:=GN.out; have:=oQ.out; have:=xC.out; exact⟨fo.n,WalkArith.wf_i64 (by simp only[]; omega),(by show(Lit.int .i64 0).wf=true; decide),WalkArith.wf_i64 (by simp only[]; omega)⟩) rfl HL.out (fun b hb=>by rw[BJ.out]; exact List.mem_append.2 (.inr (by cases la with | none=>exact hb | some a=>exact hb))) jr kh)
   have RX:(k:Int)≤1048576:=by have:=GN.out.1; have:=oQ.out; have:=xC.out; omega
   have Nw:=iE.lt;have e1:=iE.cell 1 _ rfl;have e2:=iE.cell 2 _ rfl;have e3:=iE.cell 3 _ rfl;have d1:=iE.fz (pre.length+1);have d2:=iE.fz (pre.length+2);have d3:=iE.fz (pre.length+3);clear iE iL ly vA fC n5 n1 n2 n3 gA tb BK td yE eJ w2 h9 Rj;generalize pre.length=p at *;go_wp2_with fail;go_ret;exact⟨rfl,BL.out⟩
 by_cases Q1:(ln:Int) - c.2.2.2.2.2<keep
 · skip
   go_enter Tryz.func132,Tryz.ntmps132;go_wp2_with fail;go_quiet (fail)
   have de:au X T pre [.int .i64 c.1,.int .i64 c.2.1,.int .i64 c.2.2.1,.slice ja jn jc,.slice la ln lc,.int .i64 c.2.2.2.2.2] post (w.drewN nq):=vi.out.below (below_drewN (Below.refl _ _) _);have KI:lay.Frame [X] w (w.drewN nq):=lay.Frame.cu (below_drewN (Below.refl _ _) _);generalize Qm:w.drewN nq=w5 at *;clear Qm nq x1 x4 x5;have x1:=de.cell 1 _ rfl;have x4:=de.cell 4 _ rfl;have x5:=de.cell 5 _ rfl;go_wp2_with fail;go_quiet (fail)
   have Vj:au X T pre [.int .i64 c.1,.int .i64 c.2.1,.int .i64 c.2.2.1,.slice ja jn jc,.slice la ln lc,.int .i64 c.2.2.2.2.2] post (w5.drewN nq):=de.below (below_drewN (Below.refl _ _) _);have Mi:lay.Frame [X] w (w5.drewN nq):=KI.below (below_drewN (Below.refl _ _) _);generalize Qm:w5.drewN nq=w9 at *;clear Qm nq x1 x4 x5;have x1:=Vj.cell 1 _ rfl;have x4:=Vj.cell 4 _ rfl;have x5:=Vj.cell 5 _ rfl;go_wp2_with fail;clear x1 x4 x5;have yE:IntKind.i64.wrap (c.2.2.2.2.2+((ln:Int) - c.2.2.2.2.2))=(k:Int):=by have:=GN.out.2; have:=oQ.out; have:=xC.out; have:=H9.out; rw[IntKind.wrap_i64]; omega
   have eJ:Below w9.heap.size w9 w9.drew:=(Below.refl _ _).drew;refine last.aq (S:=fun w'=>au X T pre [.int .i64 c.1,.int .i64 c.2.1,.int .i64 c.2.2.1,.slice ja jn jc,.slice la ln lc,.int .i64 c.2.2.2.2.2] post w') 14 (by kernel_rfl) (Vj.below eJ) (fun af=>?_)
   have KJ:lay.Frame [X] w w9.drew:=Mi.below eJ;generalize hD:w9.drew=D at *;clear hD;refine last.wpTk 0 (.pointer (some ⟨X,pre.length,none⟩)) rfl rfl ?_ ?_
   · intro wq ar; go_simp
   try simp only[Act.put,zP,zQ,zR]
   refine last.wpTk 1 (.pointer (some ⟨X,pre.length,none⟩)) rfl rfl ?_ ?_
   · intro wq ar; go_simp
   try simp only[Act.put,zP,zQ,zR]
   refine last.wpTk 2 (.pointer (some ⟨X,pre.length,none⟩)) rfl rfl ?_ ?_
   · intro wq ar; go_simp
   try simp only[Act.put,zP,zQ,zR]
   refine last.wpTk 3 (.pointer (some ⟨X,pre.length+4,none⟩)) rfl rfl ?_ ?_
   · intro wq ar; go_simp
   try simp only[Act.put,zP,zQ,zR]
   refine last.wpTk 4 (.slice la ln lc) rfl rfl ?_ ?_
   · intro wq ar; have q:=ar.cell 4 _ rfl; go_simp
   try simp only[Act.put,zP,zQ,zR]
   refine last.wpTk 5 (.pointer (some ⟨X,pre.length,none⟩)) rfl rfl ?_ ?_
   · intro wq ar; go_simp
   try simp only[Act.put,zP,zQ,zR]
   refine last.wpTk 6 (.pointer (some ⟨X,pre.length,none⟩)) rfl rfl ?_ ?_
   · intro wq ar; go_simp
   try simp only[Act.put,zP,zQ,zR]
   refine last.wpTk 7 (.pointer (some ⟨X,pre.length+5,none⟩)) rfl rfl ?_ ?_
   · intro wq ar; go_simp
   try simp only[Act.put,zP,zQ,zR]
   refine last.wpTk 8 (.int .i64 c.2.2.2.2.2) rfl rfl ?_ ?_
   · intro wq ar; have q:=ar.cell 5 _ rfl; go_simp
   try simp only[Act.put,zP,zQ,zR]
   refine last.wpTk 9 (.int .i64 ((ln:Int) - c.2.2.2.2.2)) rfl rfl ?_ ?_
   · intro wq ar; go_simp
   try simp only[Act.put,zP,zQ,zR]
   refine last.wpTk 10 (.int .i64 (k:Int)) rfl rfl ?_ ?_
   · intro wq ar; go_simp
   try simp only[Act.put,zP,zQ,zR]
   refine last.wpTk 11 (.slice la k lc) rfl rfl ?_ ?_
   · intro wq ar; have q1:¬lc<k:=by(have:=GN.out.1; have:=X_.out; omega)
     go_simp
   try simp only[Act.put,zP,zQ,zR]
   refine last.an (i:=12) (o:=qO29) (by kernel_rfl) rfl (fun K hK=>?_)
   go_simp;refine hK.out _ _ ?_ (fun ag=>?_)
   · exact af
   clear hK K af;have af:=ag;clear ag;try simp only[Act.put,zP,zQ,zR]
   refine last.wpTk 13 (.pointer (some ⟨X,pre.length+4,none⟩)) rfl rfl ?_ ?_
   · intro wq ar; go_simp
   try simp only[Act.put,zP,zQ,zR]
   have n4:=af.set 4 (by simp) (.slice la k lc)
   have u4:=af.cell 4 _ rfl;have v4:=af.fz (pre.length+4);refine last.aC (o:=qO30) (by kernel_rfl) rfl (by kernel_rfl) (fun K hK=>?_)
   go_simp;refine hK.out _ _ ?_;clear hK K;have iE:au X T pre [.int .i64 c.1,.int .i64 c.2.1,.int .i64 c.2.2.1,.slice ja jn jc,.slice la k lc,.int .i64 c.2.2.2.2.2] post _:=n4.1;have g4:=n4.2;have BK:=KJ.grown g4 (fun b e=>by cases e; exact .inl (by simp))
   have Hr:D.heap.size≤(D.setCell ⟨X,pre.length+4,none⟩ (.slice la k lc)).heap.size:=g4.size;clear n4 u4 v4 af g4;generalize wP:D.setCell ⟨X,pre.length+4,none⟩ (.slice la k lc)=w6 at *;clear wP;have q4:=iE.cell 4 _ rfl;have q5:=iE.cell 5 _ rfl;have f5:=iE.fz (pre.length+5);have n5:=iE.set 5 (by simp) (.int .i64 (k:Int))
   have iL:au X T pre [.int .i64 c.1,.int .i64 c.2.1,.int .i64 c.2.2.1,.slice ja jn jc,.slice la k lc,.int .i64 (k:Int)] post _:=n5.1;have q1:=iL.cell 1 _ rfl;have f1:=iL.fz (pre.length+1);have n1:=iL.set 1 (by simp) (.int .i64 (c.2.1+1))
   have ly:au X T pre [.int .i64 c.1,.int .i64 (c.2.1+1),.int .i64 c.2.2.1,.slice ja jn jc,.slice la k lc,.int .i64 (k:Int)] post _:=n1.1;have q2:=ly.cell 2 _ rfl;have f2:=ly.fz (pre.length+2);have n2:=ly.set 2 (by simp) (.int .i64 0)
   have vA:au X T pre [.int .i64 c.1,.int .i64 (c.2.1+1),.int .i64 0,.slice ja jn jc,.slice la k lc,.int .i64 (k:Int)] post _:=n2.1;have q3:=vA.cell 3 _ rfl;have f3:=vA.fz (pre.length+3);have n3:=vA.set 3 (by simp) (.slice (some ⟨w6.heap.size,0,none⟩) 0 0)
   have fC:au X T pre [.int .i64 c.1,.int .i64 (c.2.1+1),.int .i64 0,.slice (some ⟨w6.heap.size,0,none⟩) 0 0,.slice la k lc,.int .i64 (k:Int)] post _:=n3.1;have gA:=ao (ao (ao n5.2 n1.2) n2.2) n3.2;have tb:=BK.grown gA (fun b e=>by cases e; exact .inl (by simp))
   have td:((((w6.setCell ⟨X,pre.length+5,none⟩ (.int .i64 (k:Int))).setCell ⟨X,pre.length+1,none⟩ (.int .i64 (c.2.1+1))).setCell ⟨X,pre.length+2,none⟩ (.int .i64 0)).setCell ⟨X,pre.length+3,none⟩ (.slice (some ⟨w6.heap.size,0,none⟩) 0 0)).heap.size=w6.heap.size:=by simp
   have BL:=Hid.mk' (qo (w:=w) HE.out fC tb td (by have:=UU.out; have:=H9.out; have:=GN.out; have:=oQ.out; have:=xC.out; exact⟨fo.n,WalkArith.wf_i64 (by simp only[]; omega),(by show(Lit.int .i64 0).wf=true; decide),WalkArith.wf_i64 (by simp only[]; omega)⟩) rfl HL.out (fun b hb=>by rw[BJ.out]; exact List.mem_append.2 (.inr (by cases la with | none=>exact hb | some a=>exact hb))) jr kh)
   have RX:(k:Int)≤1048576:=by have:=GN.out.1; have:=oQ.out; have:=xC.out; omega
   have Nw:=iE.lt;have e1:=iE.cell 1 _ rfl;have e2:=iE.cell 2 _ rfl;have e3:=iE.cell 3 _ rfl;have d1:=iE.fz (pre.length+1);have d2:=iE.fz (pre.length+2);have d3:=iE.fz (pre.length+3);clear iE iL ly vA fC n5 n1 n2 n3 gA tb BK td yE eJ w2 h9 Rj;generalize pre.length=p at *;go_wp2_with fail;go_ret;exact⟨rfl,BL.out⟩
 · skip
   go_enter Tryz.func132,Tryz.ntmps132;go_wp2_with fail;go_quiet (fail)
   have de:au X T pre [.int .i64 c.1,.int .i64 c.2.1,.int .i64 c.2.2.1,.slice ja jn jc,.slice la ln lc,.int .i64 c.2.2.2.2.2] post (w.drewN nq):=vi.out.below (below_drewN (Below.refl _ _) _);have KI:lay.Frame [X] w (w.drewN nq):=lay.Frame.cu (below_drewN (Below.refl _ _) _);generalize Qm:w.drewN nq=w5 at *;clear Qm nq x1 x4 x5;have x1:=de.cell 1 _ rfl;have x4:=de.cell 4 _ rfl;have x5:=de.cell 5 _ rfl;go_wp2_with fail;clear x1 x4 x5;have yE:IntKind.i64.wrap (c.2.2.2.2.2+keep)=(k:Int):=by have:=GN.out.2; have:=oQ.out; have:=xC.out; have:=H9.out; rw[IntKind.wrap_i64]; omega
   have eJ:Below w5.heap.size w5 w5.drew:=(Below.refl _ _).drew;refine last.aq (S:=fun w'=>au X T pre [.int .i64 c.1,.int .i64 c.2.1,.int .i64 c.2.2.1,.slice ja jn jc,.slice la ln lc,.int .i64 c.2.2.2.2.2] post w') 14 (by kernel_rfl) (de.below eJ) (fun af=>?_)
   have KJ:lay.Frame [X] w w5.drew:=KI.below eJ;generalize hD:w5.drew=D at *;clear hD;refine last.wpTk 0 (.pointer (some ⟨X,pre.length,none⟩)) rfl rfl ?_ ?_
   · intro wq ar; go_simp
   try simp only[Act.put,zP,zQ,zR]
   refine last.wpTk 1 (.pointer (some ⟨X,pre.length,none⟩)) rfl rfl ?_ ?_
   · intro wq ar; go_simp
   try simp only[Act.put,zP,zQ,zR]
   refine last.wpTk 2 (.pointer (some ⟨X,pre.length,none⟩)) rfl rfl ?_ ?_
   · intro wq ar; go_simp
   try simp only[Act.put,zP,zQ,zR]
   refine last.wpTk 3 (.pointer (some ⟨X,pre.length+4,none⟩)) rfl rfl ?_ ?_
   · intro wq ar; go_simp
   try simp only[Act.put,zP,zQ,zR]
   refine last.wpTk 4 (.slice la ln lc) rfl rfl ?_ ?_
   · intro wq ar; have q:=ar.cell 4 _ rfl; go_simp
   try simp only[Act.put,zP,zQ,zR]
   refine last.wpTk 5 (.pointer (some ⟨X,pre.length,none⟩)) rfl rfl ?_ ?_
   · intro wq ar; go_simp
   try simp only[Act.put,zP,zQ,zR]
   refine last.wpTk 6 (.pointer (some ⟨X,pre.length,none⟩)) rfl rfl ?_ ?_
   · intro wq ar; go_simp
   try simp only[Act.put,zP,zQ,zR]
   refine last.wpTk 7 (.pointer (some ⟨X,pre.length+5,none⟩)) rfl rfl ?_ ?_
   · intro wq ar; go_simp
   try simp only[Act.put,zP,zQ,zR]
   refine last.wpTk 8 (.int .i64 c.2.2.2.2.2) rfl rfl ?_ ?_
   · intro wq ar; have q:=ar.cell 5 _ rfl; go_simp
   try simp only[Act.put,zP,zQ,zR]
   refine last.wpTk 9 (.int .i64 keep) rfl rfl ?_ ?_
   · intro wq ar; go_simp
   try simp only[Act.put,zP,zQ,zR]
   refine last.wpTk 10 (.int .i64 (k:Int)) rfl rfl ?_ ?_
   · intro wq ar; go_simp
   try simp only[Act.put,zP,zQ,zR]
   refine last.wpTk 11 (.slice la k lc) rfl rfl ?_ ?_
   · intro wq ar; have q1:¬lc<k:=by(have:=GN.out.1; have:=X_.out; omega)
     go_simp
   try simp only[Act.put,zP,zQ,zR]
   refine last.an (i:=12) (o:=qO29) (by kernel_rfl) rfl (fun K hK=>?_)
   go_simp;refine hK.out _ _ ?_ (fun ag=>?_)
   · exact af
   clear hK K af;have af:=ag;clear ag;try simp only[Act.put,zP,zQ,zR]
   refine last.wpTk 13 (.pointer (some ⟨X,pre.length+4,none⟩)) rfl rfl ?_ ?_
   · intro wq ar; go_simp
   try simp only[Act.put,zP,zQ,zR]
   have n4:=af.set 4 (by simp) (.slice la k lc)
   have u4:=af.cell 4 _ rfl;have v4:=af.fz (pre.length+4);refine last.aC (o:=qO30) (by kernel_rfl) rfl (by kernel_rfl) (fun K hK=>?_)
   go_simp;refine hK.out _ _ ?_;clear hK K;have iE:au X T pre [.int .i64 c.1,.int .i64 c.2.1,.int .i64 c.2.2.1,.slice ja jn jc,.slice la k lc,.int .i64 c.2.2.2.2.2] post _:=n4.1;have g4:=n4.2;have BK:=KJ.grown g4 (fun b e=>by cases e; exact .inl (by simp))
   have Hr:D.heap.size≤(D.setCell ⟨X,pre.length+4,none⟩ (.slice la k lc)).heap.size:=g4.size;clear n4 u4 v4 af g4;generalize wP:D.setCell ⟨X,pre.length+4,none⟩ (.slice la k lc)=w6 at *;clear wP;have q4:=iE.cell 4 _ rfl;have q5:=iE.cell 5 _ rfl;have f5:=iE.fz (pre.length+5);have n5:=iE.set 5 (by simp) (.int .i64 (k:Int))
   have iL:au X T pre [.int .i64 c.1,.int .i64 c.2.1,.int .i64 c.2.2.1,.slice ja jn jc,.slice la k lc,.int .i64 (k:Int)] post _:=n5.1;have q1:=iL.cell 1 _ rfl;have f1:=iL.fz (pre.length+1);have n1:=iL.set 1 (by simp) (.int .i64 (c.2.1+1))
   have ly:au X T pre [.int .i64 c.1,.int .i64 (c.2.1+1),.int .i64 c.2.2.1,.slice ja jn jc,.slice la k lc,.int .i64 (k:Int)] post _:=n1.1;have q2:=ly.cell 2 _ rfl;have f2:=ly.fz (pre.length+2);have n2:=ly.set 2 (by simp) (.int .i64 0)
   have vA:au X T pre [.int .i64 c.1,.int .i64 (c.2.1+1),.int .i64 0,.slice ja jn jc,.slice la k lc,.int .i64 (k:Int)] post _:=n2.1;have q3:=vA.cell 3 _ rfl;have f3:=vA.fz (pre.length+3);have n3:=vA.set 3 (by simp) (.slice (some ⟨w6.heap.size,0,none⟩) 0 0)
   have fC:au X T pre [.int .i64 c.1,.int .i64 (c.2.1+1),.int .i64 0,.slice (some ⟨w6.heap.size,0,none⟩) 0 0,.slice la k lc,.int .i64 (k:Int)] post _:=n3.1;have gA:=ao (ao (ao n5.2 n1.2) n2.2) n3.2;have tb:=BK.grown gA (fun b e=>by cases e; exact .inl (by simp))
   have td:((((w6.setCell ⟨X,pre.length+5,none⟩ (.int .i64 (k:Int))).setCell ⟨X,pre.length+1,none⟩ (.int .i64 (c.2.1+1))).setCell ⟨X,pre.length+2,none⟩ (.int .i64 0)).setCell ⟨X,pre.length+3,none⟩ (.slice (some ⟨w6.heap.size,0,none⟩) 0 0)).heap.size=w6.heap.size:=by simp
   have BL:=Hid.mk' (qo (w:=w) HE.out fC tb td (by have:=UU.out; have:=H9.out; have:=GN.out; have:=oQ.out; have:=xC.out; exact⟨fo.n,WalkArith.wf_i64 (by simp only[]; omega),(by show(Lit.int .i64 0).wf=true; decide),WalkArith.wf_i64 (by simp only[]; omega)⟩) rfl HL.out (fun b hb=>by rw[BJ.out]; exact List.mem_append.2 (.inr (by cases la with | none=>exact hb | some a=>exact hb))) jr kh)
   have RX:(k:Int)≤1048576:=by have:=GN.out.1; have:=oQ.out; have:=xC.out; omega
   have Nw:=iE.lt;have e1:=iE.cell 1 _ rfl;have e2:=iE.cell 2 _ rfl;have e3:=iE.cell 3 _ rfl;have d1:=iE.fz (pre.length+1);have d2:=iE.fz (pre.length+2);have d3:=iE.fz (pre.length+3);clear iE iL ly vA fC n5 n1 n2 n3 gA tb BK td yE eJ w2 h9 Rj;generalize pre.length=p at *;go_wp2_with fail;go_ret;exact⟨rfl,BL.out⟩
end cos
namespace cos
open Go Go.RowKit base av aN lay kN
def te:Rd Wd:=both int (both int (both int (both kc bool)))
def Qn:Rd (List Wd):=slice 112 te
theorem TP:(Tryz.prog.info? 112).map (fun i=>(i.zero,i.size,i.bytes))=some (some (.agg #[.int .i64 0,.int .i64 0,.int .i64 0,.slice none 0 0,.bool false]),5,56):=by kernel_rfl
section
variable{w:World}{vs:List Value}{x:Wd}{F:List Nat}
theorem KL:te.own w vs x F↔∃v,vs=[.int .i64 x.1,.int .i64 x.2.1,.int .i64 x.2.2.1,v,.bool x.2.2.2.2]∧(Lit.int .i64 x.1).wf=true∧(Lit.int .i64 x.2.1).wf=true∧(Lit.int .i64 x.2.2.1).wf=true∧kc.own w [v] x.2.2.2.1 F:=by
 constructor
 · rintro⟨u1,t1,F1,G1,rfl,rfl,h1,⟨u2,t2,F2,G2,rfl,rfl,h2,⟨u3,t3,F3,G3,rfl,rfl,h3,⟨u4,t4,F4,G4,rfl,rfl,h4,h5,_⟩,_⟩,_⟩,_⟩;obtain⟨rfl,k1,rfl⟩:=aL.own.1 h1;obtain⟨rfl,k2,rfl⟩:=aL.own.1 h2;obtain⟨rfl,k3,rfl⟩:=aL.own.1 h3;obtain⟨rfl,_,rfl⟩:=oO.own.1 h5;obtain⟨v,q,rfl,_⟩:=id h4;exact⟨v,rfl,k1,k2,k3,by simpa using h4⟩
 · rintro⟨v,rfl,k1,k2,k3,h4⟩;have hn:=kc.bG h4;exact⟨[_],[_,_,v,_],[],F,rfl,rfl,aL.own.2 ⟨rfl,k1,rfl⟩,⟨[_],[_,v,_],[],F,rfl,rfl,aL.own.2 ⟨rfl,k2,rfl⟩,⟨[_],[v,_],[],F,rfl,rfl,aL.own.2 ⟨rfl,k3,rfl⟩,⟨[v],[_],F,[],rfl,(List.append_nil _).symm,h4,oO.own.2 ⟨rfl,trivial,rfl⟩,hn⟩,hn⟩,hn⟩,hn⟩
end
def gP(n tx:Int)(ops:List Od)(yes:List Int)(l:List Int):List Wd:=(l.filter fun s=> !decide (s∈yes)).map fun s=>(1,s,tx,dM s n ops,false)
theorem BM(n tx:Int)(ops:List Od)(yes:List Int)(l:List Int)(s:Int):gP n tx ops yes (l++[s])=if s∈yes then gP n tx ops yes l else gP n tx ops yes l++[(1,s,tx,dM s n ops,false)]:=by
 unfold gP;rw[List.filter_append,List.map_append];by_cases h:s∈yes
 · rw[if_pos h]; simp[List.filter_cons,h]
 · rw[if_neg h]; simp[List.filter_cons,h]
theorem D6(n tx:Int)(ops:List Od)(yes:List Int)(l:List Int):(gP n tx ops yes l).length≤l.length:=by
 unfold gP; rw[List.length_map]; exact List.length_filter_le _ _
end cos
namespace fV
open Go Go.RowKit
theorem NZ{P:Program}{ops:Array Oper}{o:Oper}{a:Act}{w:World}{K:Act→World→Prop}{Q:Exit→Act→World→Prop}{E:Prop}(qC:o.guard=none)(f:FuncId)(x0:Operand)(ts:Array TypeId)
 (ho:o.op=.call {callee:=.value (.func f),args:=#[x0],argTypes:=ts}) (uN:∀args w,(callFunc f args).run P w=.ok (.enter f args) w)
 (v0:Value) (h0:a.eval x0=v0) (R:Ending→World→Prop) (hc:Calls P f #[v0] w R)
 (h:∀e w',R e w'→∃v,e=.returned v∧K (a.put o.dst v) w'):
 if Region.wanted o (yielded ops a.tmps)=true then Oper.wp P o a w K Q else E:=by
 have hw:Region.wanted o (yielded ops a.tmps)=true:=by simp[Region.wanted,qC]
 rw[if_pos hw];unfold Oper.wp execOp;have hf:a.eval (.func f)=.func (.func f) #[] #[]:=rfl;have Jf:(Deferred.ofValue (Value.func (Fn.func f) #[] #[]) #[v0]).run P w=.ok {target:=.fn (.func f) #[],args:=#[v0]} w:=rfl;simp only[ho,resolve,invoke,Sem.run_bind,List.map_toArray,List.map_cons,List.map_nil,h0,hf,Jf,Result.andThen_ok,uN];show Calls P f #[v0] w _;exact hc.mono (fun e w' he=>by obtain⟨v,rfl,hr⟩:=h e w' he; exact hr)
theorem call2{P:Program}{ops:Array Oper}{o:Oper}{a:Act}{w:World}{K:Act→World→Prop}{Q:Exit→Act→World→Prop}{E:Prop}(qC:o.guard=none)(f:FuncId)(x0 x1:Operand)(ts:Array TypeId)
 (ho:o.op=.call {callee:=.value (.func f),args:=#[x0,x1],argTypes:=ts}) (uN:∀args w,(callFunc f args).run P w=.ok (.enter f args) w)
 (v0 v1:Value) (h0:a.eval x0=v0) (h1:a.eval x1=v1) (R:Ending→World→Prop) (hc:Calls P f #[v0,v1] w R)
 (h:∀e w',R e w'→∃v,e=.returned v∧K (a.put o.dst v) w'):
 if Region.wanted o (yielded ops a.tmps)=true then Oper.wp P o a w K Q else E:=by
 have hw:Region.wanted o (yielded ops a.tmps)=true:=by simp[Region.wanted,qC]
 rw[if_pos hw];unfold Oper.wp execOp;have hf:a.eval (.func f)=.func (.func f) #[] #[]:=rfl;have Jf:(Deferred.ofValue (Value.func (Fn.func f) #[] #[]) #[v0,v1]).run P w=.ok {target:=.fn (.func f) #[],args:=#[v0,v1]} w:=rfl;simp only[ho,resolve,invoke,Sem.run_bind,List.map_toArray,List.map_cons,List.map_nil,h0,h1,hf,Jf,Result.andThen_ok,uN];show Calls P f #[v0,v1] w _;exact hc.mono (fun e w' he=>by obtain⟨v,rfl,hr⟩:=h e w' he; exact hr)
theorem call3{P:Program}{ops:Array Oper}{o:Oper}{a:Act}{w:World}{K:Act→World→Prop}{Q:Exit→Act→World→Prop}{E:Prop}(qC:o.guard=none)(f:FuncId)(x0 x1 x2:Operand)(ts:Array TypeId)
 (ho:o.op=.call {callee:=.value (.func f),args:=#[x0,x1,x2],argTypes:=ts}) (uN:∀args w,(callFunc f args).run P w=.ok (.enter f args) w)
 (v0 v1 v2:Value) (h0:a.eval x0=v0) (h1:a.eval x1=v1) (h2:a.eval x2=v2) (R:Ending→World→Prop) (hc:Calls P f #[v0,v1,v2] w R)
 (h:∀e w',R e w'→∃v,e=.returned v∧K (a.put o.dst v) w'):
 if Region.wanted o (yielded ops a.tmps)=true then Oper.wp P o a w K Q else E:=by
 have hw:Region.wanted o (yielded ops a.tmps)=true:=by simp[Region.wanted,qC]
 rw[if_pos hw];unfold Oper.wp execOp;have hf:a.eval (.func f)=.func (.func f) #[] #[]:=rfl;have Jf:(Deferred.ofValue (Value.func (Fn.func f) #[] #[]) #[v0,v1,v2]).run P w=.ok {target:=.fn (.func f) #[],args:=#[v0,v1,v2]} w:=rfl;simp only[ho,resolve,invoke,Sem.run_bind,List.map_toArray,List.map_cons,List.map_nil,h0,h1,h2,hf,Jf,Result.andThen_ok,uN];show Calls P f #[v0,v1,v2] w _;exact hc.mono (fun e w' he=>by obtain⟨v,rfl,hr⟩:=h e w' he; exact hr)
theorem call4{P:Program}{ops:Array Oper}{o:Oper}{a:Act}{w:World}{K:Act→World→Prop}{Q:Exit→Act→World→Prop}{E:Prop}(qC:o.guard=none)(f:FuncId)(x0 x1 x2 x3:Operand)(ts:Array TypeId)
 (ho:o.op=.call {callee:=.value (.func f),args:=#[x0,x1,x2,x3],argTypes:=ts}) (uN:∀args w,(callFunc f args).run P w=.ok (.enter f args) w)
 (v0 v1 v2 v3:Value) (h0:a.eval x0=v0) (h1:a.eval x1=v1) (h2:a.eval x2=v2) (h3:a.eval x3=v3) (R:Ending→World→Prop) (hc:Calls P f #[v0,v1,v2,v3] w R)
 (h:∀e w',R e w'→∃v,e=.returned v∧K (a.put o.dst v) w'):
 if Region.wanted o (yielded ops a.tmps)=true then Oper.wp P o a w K Q else E:=by
 have hw:Region.wanted o (yielded ops a.tmps)=true:=by simp[Region.wanted,qC]
 rw[if_pos hw];unfold Oper.wp execOp;have hf:a.eval (.func f)=.func (.func f) #[] #[]:=rfl;have Jf:(Deferred.ofValue (Value.func (Fn.func f) #[] #[]) #[v0,v1,v2,v3]).run P w=.ok {target:=.fn (.func f) #[],args:=#[v0,v1,v2,v3]} w:=rfl;simp only[ho,resolve,invoke,Sem.run_bind,List.map_toArray,List.map_cons,List.map_nil,h0,h1,h2,h3,hf,Jf,Result.andThen_ok,uN];show Calls P f #[v0,v1,v2,v3] w _;exact hc.mono (fun e w' he=>by obtain⟨v,rfl,hr⟩:=h e w' he; exact hr)
end fV
namespace cos
open Go Go.RowKit base av aN lay kN
def Qo(w:World)(x:List Wd)(e:Ending)(w':World):Prop:=∃g m cap q,e=.returned (.slice (some ⟨g,0,none⟩) m cap)∧bk 112 te w' (.slice (some ⟨g,0,none⟩) m cap) x q∧(∀k∈g::al q,w.heap.size≤k)∧Below w.heap.size w w'
theorem Qo.v{w w':World}{x:List Wd}{e:Ending}(h:Qo w x e w'):XG Qn w x e w':=by
 obtain⟨g,m,cap,q,rfl,hO,hq,hb⟩:=h;exact⟨_,_,rfl,⟨_,q,rfl,rfl,hO⟩,fun bb hb=>hq bb (by simpa[Value.ownBlock] using hb),hb⟩
theorem KM(w:World):(w.alloc (.cells #[] 112)).ownsRow 0 112 5 (.slice (some ⟨w.heap.size,0,none⟩) 0 0) 0 []:=World.ownsRow_made w #[] 0 (Nat.zero_le _) (Nat.zero_le _) (by simp)
theorem GO{α:Type}{R:Rd α}{ty:TypeId}{w:World}{g n:Nat}{k:Nat}(h:w.ownsRow k ty R.size (.slice (some ⟨g,0,none⟩) 0 n) 0 []):bk ty R w (.slice (some ⟨g,0,none⟩) 0 n) [] []:=by
 refine⟨rfl,?_,fun i hi=>absurd hi (by simp),by simp[al,Value.ownBlock]⟩
 obtain⟨h1,h2⟩:=h;refine⟨h1,?_⟩;rcases h2 with h2 | ⟨g',c',cur,h2,h3,h4⟩
 · exact .inl h2
 · exact .inr ⟨g',c',cur,h2,Nat.zero_le _,h4⟩
theorem _root_.Go.Proofs.YtmibabclefgljaaGreat.aN.cX.kept{w w':World}{base g n cap:Nat}{zs:List Int}(h:cX w base g n cap zs)(hb:w'.heap[g]? =w.heap[g]?):cX w' base g n cap zs:=by
 obtain⟨h1,h2,h3⟩:=h;refine⟨h1,h2,?_⟩;rcases h3 with h3 | ⟨g',c',cur,e,h4,h5,h6⟩
 · exact .inl h3
 · cases e;exact .inr ⟨g,_,cur,rfl,h4,hb.trans h5,h6⟩
theorem KN(l:List Int)(x:Int):(eV l x).length≤l.length+1:=by
 unfold eV
 split
 · omega
 · have h1:(l.filter fun z=>decide (z<x)).length+(l.filter fun z=>decide (x<z)).length≤l.length:=by
    induction l with
    | nil=>simp
    | cons y l ih=>
     have ih2:∀l:List Int,(l.filter fun z=>decide (z<x)).length+(l.filter fun z=>decide (x<z)).length≤l.length:=by
      intro l
      induction l with
      | nil=>simp
      | cons y l ih=>by_cases h1:y<x <;> by_cases h2:x<y <;> simp[List.filter_cons,h1,h2] <;> omega
     exact ih2 _
   simp; omega
theorem ko(n:Int)(ops:List Od){k:Nat}(h:ops.length≤k):(aD n ops).length≤k:=by
 have:∀(l:List Od) (u:List Int),(l.foldl (fun u o=>eV u (bl o.2.1 n)) u).length≤u.length+l.length:=by
  intro l
  induction l with
  | nil=>intro u; simp
  | cons o l ih=>
   intro u;have h1:=ih (eV u (bl o.2.1 n));have h2:=KN u (bl o.2.1 n);simp only[List.foldl_cons,List.length_cons];omega
 have h1:=this ops [];unfold aD;simp at h1;omega
end cos
end Go.Proofs.YtmibabclefgljaaGreat
