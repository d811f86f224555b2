/- CoVs CoRt CoBx Later2 -/
import Derived.Test.YtmibabclefgljaaGreatShbf
import Derived.Test.YtmibabclefgljaaGreatShbc
import Derived.Test.YtmibabclefgljaaGreatShah
set_option linter.unusedVariables false
set_option linter.unusedSimpArgs false
namespace Go.Proofs.YtmibabclefgljaaGreat
namespace cos
open Go Go.RowKit base aE aX lay lh
theorem rO{w U:World}{X:Nat}{T:TypeId}{pre post:List Value}{ja la:Option Addr}{jn jc ln lc:Nat}{c:Co}{F F1 F2 FJ FL:List Nat}(hX:aD X T pre [.int .i64 c.1,.int .i64 c.2.1,.int .i64 c.2.2.1,.slice ja jn jc,.slice la ln lc,.int .i64 c.2.2.2.2.2] post U)(hJ:lk.own U [.slice ja jn jc] c.2.2.2.1 FJ)(hl:qA.own U [.slice la ln lc] c.2.2.2.2.1 FL)(hF:lay.Frame (X::F) w U)(fH:sE c)(CE:∀k∈FJ,k∈F1∨w.heap.size≤k)(H4:∀k∈FL,k∈F2∨w.heap.size≤k)(QB:∀k∈FJ,k∉FL)(hXJ:X∉FJ)(hXL:X∉FL)(d_:F=F1++F2):fI w X T pre post F c U:=by
 have aK:=bC.2 ⟨_,_,FJ,FL,rfl,fH,hJ,hl,rfl,bZ (lk.bU hJ) (qA.bU hl) QB⟩;refine⟨ja,jn,jc,la,ln,lc,FJ++FL,⟨hX,aK,fun e=>?_⟩,hF,fun k hk=>?_⟩
 · rcases List.mem_append.1 e with e | e
   · exact hXJ e
   · exact hXL e
 · rw[d_];rcases List.mem_append.1 hk with e | e
   · exact(CE k e).imp_left fun e=>List.mem_append.2 (.inl e)
   · exact(H4 k e).imp_left fun e=>List.mem_append.2 (.inr e)
theorem qL{W:World}{X:Nat}{T:TypeId}{pre post:List Value}{v0 v1 v2 v3 v5:Value}{la:Option Addr}{ln lc:Nat}{log:List Ch}{ql:dY}(hX:aD X T pre [v0,v1,v2,v3,.slice la ln lc,v5] post W)(hL:bz 87 rG W (.slice la ln lc) log ql)(jf:X∉(Value.slice la ln lc).ownBlock.toList)(tx:Int)(y:Bool)(AJ:(Lit.int .i64 tx).wf=true)(sw:log.length≤1048576):
 ∃gl aY w6,(Builtin.append_ #[26,26] 26 #[.slice la ln lc,.slice (some ⟨W.heap.size,0,none⟩) 1 1]).run Tryz.prog (W.alloc (.cells #[.int .i64 tx,.bool y] 87))=.ok (.slice (some ⟨gl,0,none⟩) (ln+1) aY) w6∧aD X T pre [v0,v1,v2,v3,.slice la ln lc,v5] post w6∧
  aD X T pre [v0,v1,v2,v3,.slice (some ⟨gl,0,none⟩) (ln+1) aY,v5] post (w6.setCell ⟨X,pre.length+4,none⟩ (.slice (some ⟨gl,0,none⟩) (ln+1) aY))∧qA.own (w6.setCell ⟨X,pre.length+4,none⟩ (.slice (some ⟨gl,0,none⟩) (ln+1) aY)) [.slice (some ⟨gl,0,none⟩) (ln+1) aY] (log++[(tx,y)]) [gl]∧lay.Frame (X::(Value.slice la ln lc).ownBlock.toList) W (w6.setCell ⟨X,pre.length+4,none⟩ (.slice (some ⟨gl,0,none⟩) (ln+1) aY))∧(gl∈(Value.slice la ln lc).ownBlock.toList∨W.heap.size≤gl)∧gl≠X:=by
 have nI:ln=log.length:=hL.sl.1.symm;obtain⟨V,hV⟩:∃V,W.alloc (.cells #[.int .i64 tx,.bool y] 87)=V:=⟨_,rfl⟩;have nw:Below W.heap.size W V:=by rw[←hV]; exact aT
 have YE:aD W.heap.size 87 [] [.int .i64 tx,.bool y] [] V:=by rw[←hV]; exact aO _ _ _
 have hx:rG.own V [.int .i64 tx,.bool y] (tx,y) []:=dW.own.2 ⟨rfl,⟨AJ,trivial⟩,rfl⟩;obtain⟨gl,aY,w6,dA,ej,jW,fF⟩:=bz.zJ (P:=Tryz.prog) (z:=.agg #[.int .i64 0,.bool false]) Tryz.underlying26 Ky rfl (by decide) (hL.below nw) hx (fun b hb=>absurd hb List.not_mem_nil) YE (by unfold maxLen; omega) (by omega) 26
 rw[←nI] at dA ej;rw[hV];have hXW:=hX.lt;have jT:=nw.size;have hsv:V.heap.size=W.heap.size+1:=by rw[←hV]; simp
 have zN:=(hX.below nw).grown jW (fun e=>jf (by rw[←e]; simp))
 have Cc:gl≠X:=fun e=>by
  rcases fF with e2 | e2
  · exact jf (by rw[←e,e2]; simp)
  · omega
 have hS:=zN.set 4 (by simp) (.slice (some ⟨gl,0,none⟩) (ln+1) aY)
 have eD:=ej.keep fun k hk=>hS.2.block k (ej.at_ k hk) (fun e=>by
  rw[(dW.parts ej).2.2.1,List.append_nil] at hk;have h1:k=gl:=by simpa[Value.ownBlock] using hk
  exact Cc (h1 ▸ Option.some.inj e))
 refine⟨gl,aY,w6,dA,zN,hS.1,iN.2 ⟨⟨_,eD⟩,rfl⟩,?_,?_,Cc⟩
 · refine((lay.Frame.cM nw).grown jW (fun k e=>.inl (List.mem_cons_of_mem _ (by rw[e]; simp)))).grown hS.2 (fun k e=>by cases e; exact .inl List.mem_cons_self)
 · rcases fF with e | e
   · exact .inl (by rw[e]; simp)
   · exact .inr (by omega)
theorem zO{w:World}{base ty size:Nat}{v:Value}{n:Nat}{xs:List Value}(h:w.ownsRow base ty size v n xs):w.ownsRow 0 ty size v n xs:=by
 refine⟨h.1,?_⟩;rcases h.2 with h' | ⟨g,cap,cur,e,_,r⟩
 · exact .inl h'
 · exact .inr ⟨g,cap,cur,e,Nat.zero_le _,r⟩
theorem Fg:∀ {l:List Int} {a b:Int},tJ l→(∀x∈l,a≤x∧x≤b)→(l.length:Int)≤max 0 (b+1 - a):=by
 intro l
 induction l with
 | nil=>intro a b _ _; simp; omega
 | cons x l ih=>
  intro a b h h2;unfold tJ at h;rw[List.pairwise_cons] at h;have h3:=h2 x List.mem_cons_self;have:=ih (a:=x+1) (b:=b) h.2 (fun y hy=>⟨by have:=h.1 y hy; omega,(h2 y (List.mem_cons_of_mem _ hy)).2⟩)
  simp only[List.length_cons];omega
theorem Fh{n:Int}{ops:List Od}{yes:List Int}(hn:1≤n∧n≤8)(h:dZ (aM n ops) none yes=true):yes.length≤8∧tJ yes:=by
 obtain⟨h1,h2,_⟩:=yr.1 h;have:=Fg (a:=0) (b:=7) h2 (fun x hx=>by
  obtain⟨o,_,rfl⟩:=(fw n ops x).1 (h1 x hx);have h3:=fD o.2.1 n;have:=h3.2 (by omega)
  omega)
 exact⟨by omega,h2⟩
theorem fI.same{w w':World}{X:Nat}{T:TypeId}{pre post:List Value}{ja la:Option Addr}{jn jc ln lc:Nat}{c:Co}{F:List Nat}(h:jt w X T pre post ja jn jc la ln lc c F)(hb:Below w.heap.size w w'):fI w X T pre post F c w':=⟨ja,jn,jc,la,ln,lc,F,h.below hb,lay.Frame.cM hb,fJ.refl _ _⟩
set_option maxRecDepth 100000 in
set_option maxHeartbeats 4000000 in
theorem ng(X:Nat)(T:TypeId)(pre post:List Value)(ja:Option Addr)(jn jc:Nat)(la:Option Addr)(ln lc:Nat)(c:Co)(F:List Nat)(shard tx:Int)(yes:Bool)(w:World)(h:jt w X T pre post ja jn jc la ln lc c F)(hR:dg c)(CD:(Lit.int .i64 shard).wf=true)(AJ:(Lit.int .i64 tx).wf=true)(hj8:c.2.2.2.1.length≤1048576):
 Calls Tryz.prog 131 #[.pointer (some ⟨X,pre.length,none⟩),.int .i64 shard,.int .i64 tx,.bool yes] w fun e w'=>e=.returned (.tuple #[])∧fI w X T pre post F (iP c shard tx yes) w':=by
 have H0:=Hid.mk' h;obtain⟨bI,aK,jH⟩:=h;have jf:=bI.lt;obtain⟨vx,vy,F1,F2,e,fH,hj,hl,d_,eo⟩:=bC.1 aK;simp only[List.cons.injEq,and_true,true_and] at e;obtain⟨rfl,rfl⟩:=e;obtain⟨⟨ql,hL⟩,rfl⟩:=iN.1 hl;obtain⟨vj,qj,e,tn,hJ⟩:=hj;simp only[List.cons.injEq,and_true] at e;subst e;have nI:ln=c.2.2.2.2.1.length:=hL.sl.1.symm;have vI:=Hid.mk' bI;have mI:=Hid.mk' (D4 c.1 c.2.1 c.2.2.1 c.2.2.2.2.2 ja jn jc la ln lc c.2.2.2.1 tx w hJ.sl);obtain⟨w1,bL⟩:∃w1,w.alloc (kM c.1 c.2.1 c.2.2.1 c.2.2.2.2.2 ja jn jc la ln lc)=w1:=⟨_,rfl⟩;rw[bL] at mI;have a_:Below w.heap.size w w1:=by rw[←bL]; exact aT
 clear bL;have tD:∀ {k:Nat} (hk:p5 c.2.2.2.1 tx=some k),∃iu:k<c.2.2.2.1.length,c.2.2.2.1[k].1=tx:=fun hk=>by
  obtain⟨h1,h2,_⟩:=j6 hk;exact⟨h1,of_decide_eq_true h2⟩
 have yA:=uu bI;obtain⟨y0,y1,y2,y3,y4,y5⟩:=yA;cases K7:p5 c.2.2.2.1 tx with
 | none=>
  have HE:Hid (iP c shard tx yes=c):=by show _=_; unfold iP mC; rw[K7]
  rw[K7] at mI;have HP:=Hid.mk' (fI.same H0.out a_);clear K7 tD bI aK hl hL hJ fH eo tn d_ H0 hR vI nI;aj Tryz.func131,Tryz.ntmps131;ab fail;refine mI.out.mono ?_;rintro e w2 ⟨rfl,rfl⟩;clear mI;unfold idx;clear y0 y1 y2 y3 y4 y5;ab fail;first | (refine bodyPost_end (v:=.tuple #[]) ?_ rfl ⟨rfl,by rw[HE.out]; exact HP.out⟩) | (refine bodyPost_ret (v:=.tuple #[]) ?_ rfl ⟨rfl,by rw[HE.out]; exact HP.out⟩)
  simp[results,Tryz.results131,go_sem]
 | some k=>
  obtain⟨hk,wv⟩:=tD K7;rw[K7] at mI;unfold idx at mI;simp only[] at mI;clear tD;obtain⟨gj,rfl⟩:∃gj,ja=some ⟨gj,0,none⟩:=by
   rcases hJ.shape with⟨e,e2,_⟩ | ⟨g,cap,e,_⟩
   · rw[e2] at hk; simp at hk
   · cases e; exact⟨g,rfl⟩
  have e7:jn=c.2.2.2.1.length:=hJ.nF;have Ly:=hJ.below a_;obtain⟨us,FK,hu,cZ,Cd, -⟩:=Ly.yw k hk;obtain⟨oa,ol,oc,ya,yl,yc,rfl⟩:=fg hu;have d2:=cZ 2 _ rfl;rw[show k * ek.size+2=k * 4+2 from rfl] at d2
  have Cr:=vI.out.below a_;obtain⟨x0,x1,x2,x3,x4,x5⟩:=uu Cr;have fZ:(k:Int)<(jn:Int):=by omega
  have Cn:¬(k:Int)<0:=by omega
  by_cases cF:c.2.2.2.1[k].2.2.1=1
  cQ
  · have HE:Hid (iP c shard tx yes=c):=by show _=_; unfold iP mC; rw[K7]; simp only[List.getElem?_eq_getElem hk]; rw[if_neg (fun e=>cF e.1)]
    have HP:=Hid.mk' (fI.same H0.out a_);have Io:(c.2.2.2.1[k].2.2.1 != 1)=true:=bne_iff_ne.2 cF;clear K7 bI aK hl hL hJ fH eo tn d_ H0 hR vI nI Ly hu cZ Cd cF x0 x1 x2 x4 x5 Cr wv;generalize c.2.2.2.1[k].2.2.1=st at *;clear hk e7;aj Tryz.func131,Tryz.ntmps131;ab fail;refine mI.out.mono ?_;rintro e w2 ⟨rfl,rfl⟩;clear mI y0 y1 y2 y3 y4 y5;ab fail;first | (refine bodyPost_end (v:=.tuple #[]) ?_ rfl ⟨rfl,by rw[HE.out]; exact HP.out⟩) | (refine bodyPost_ret (v:=.tuple #[]) ?_ rfl ⟨rfl,by rw[HE.out]; exact HP.out⟩)
    simp[results,Tryz.results131,go_sem]
  have Io:(c.2.2.2.1[k].2.2.1 != 1)=false:=by rw[cF]; rfl
  by_cases yt:1000≤ln
  · have HE:Hid (iP c shard tx yes=c):=by show _=_; unfold iP mC; rw[K7]; simp only[List.getElem?_eq_getElem hk]; rw[if_neg (fun e=>by have:=e.2.1; omega)]
    have HP:=Hid.mk' (fI.same H0.out a_);have Yv:¬(ln:Int)<1000:=by omega
    have QC:(1000:Int)≤(ln:Int):=by omega
    clear K7 bI aK hl hL hJ fH eo tn d_ H0 hR vI nI Ly hu cZ Cd cF x0 x1 x2 x5 Cr wv;generalize c.2.2.2.1[k].2.2.1=st at *;clear hk e7;aj Tryz.func131,Tryz.ntmps131;ab fail;refine mI.out.mono ?_;rintro e w2 ⟨rfl,rfl⟩;clear mI y0 y1 y2 y3 y4 y5;ab fail;first | (refine bodyPost_end (v:=.tuple #[]) ?_ rfl ⟨rfl,by rw[HE.out]; exact HP.out⟩) | (refine bodyPost_ret (v:=.tuple #[]) ?_ rfl ⟨rfl,by rw[HE.out]; exact HP.out⟩)
    simp[results,Tryz.results131,go_sem]
  have Yv:(ln:Int)<1000:=by omega
  have QC:¬(1000:Int)≤(ln:Int):=by omega
  have d1:=cZ 1 _ rfl;rw[show k * ek.size+1=k * 4+1 from rfl] at d1
  have zw:=hR.jobs _ (List.getElem_mem hk);have Kh:=Fh hR.n zw.yes;obtain⟨vo,Ub,e,k1,k3,zo,Fi,QI,Es⟩:=dX.1 hu;simp only[List.cons.injEq,and_true,true_and] at e;obtain⟨rfl,rfl⟩:=e;have dT:dS w1 oa ol c.2.2.2.1[k].2.1:=(k8.1 (kB.eK (iG.2 ⟨zo,rfl⟩))).1;have pf:=dT.1;have M9:=(mD zw.ops).2;have GA:=fH.n;have wm:=Hid.mk' (fun wx (hx:Below w1.heap.size w1 wx)=>eN oa ol oc c.2.2.2.1[k].2.1 c.1 wx (dT.below hx) (by omega) GA)
  have HFU:=Hid.mk' yt;have HTX:=Hid.mk' wv;have ir:=Hid.mk' cF;have HJF:=Hid.mk' zw;have Vy:=Hid.mk' Kh;have HJ:=Hid.mk' hJ;have HL:=Hid.mk' hL;have TY:=Hid.mk' eo;have BM:=Hid.mk' fH;have pn:=Hid.mk' nI;have HJL:=Hid.mk' e7;have EY:=Hid.mk' tn;have BY:=Hid.mk' d_;have QJ:=Hid.mk' K7;have kF:=bp.dK aK;have T0:(aM c.1 c.2.2.2.1[k].2.1).length≤8:=kK _ _ M9;clear yt wv cF zw Kh hJ hL hl eo fH nI e7 tn d_ K7 aK bI hR hu cZ zo Fi QI Es dT pf M9 Ly Cd;obtain⟨sh,YI⟩:∃sh,aM c.1 c.2.2.2.1[k].2.1=sh:=⟨_,rfl⟩;have Ae:=Hid.mk' YI;rw[YI] at wm T0;clear YI;aj Tryz.func131,Tryz.ntmps131;ab fail;refine mI.out.mono ?_;rintro e w2 ⟨rfl,rfl⟩;clear mI y0 y1 y2 y3 y4 y5;ab fail;have eX:Below w2.heap.size w2 w2.drew:=(Below.refl _ _).drew
  have Cr:=vI.out.below a_;have sH:=HJ.out.below a_;refine last.aB (S:=fun w'=>Below w2.heap.size w2 w') 9 (by aa) eX (fun al=>?_)
  generalize hD:w2.drew=D at *;clear hD;refine last.ae (i:=0) (v:=(.pointer (some ⟨gj,k * 4,none⟩))) rfl rfl (by aa) (by aa) (by aa) (by aa) (fun _ _ _ h=>h) (Or.inl ⟨by rfl,?_⟩) (by assumption) ?_
  · intro wq aC; af
  try simp only[Act.put,List.setIfInBounds_toArray,List.set_cons_zero,List.set_cons_succ];refine last.ae (i:=1) (v:=(.pointer (some ⟨gj,k * 4,none⟩))) rfl rfl (by aa) (by aa) (by aa) (by aa) (fun _ _ _ h=>h) (Or.inl ⟨by rfl,?_⟩) (by assumption) ?_
  · intro wq aC; af
  try simp only[Act.put,List.setIfInBounds_toArray,List.set_cons_zero,List.set_cons_succ];refine last.ae (i:=2) (v:=(.pointer (some ⟨gj,k * 4+1,none⟩))) rfl rfl (by aa) (by aa) (by aa) (by aa) (fun _ _ _ h=>h) (Or.inl ⟨by rfl,?_⟩) (by assumption) ?_
  · intro wq aC; af
  try simp only[Act.put,List.setIfInBounds_toArray,List.set_cons_zero,List.set_cons_succ];refine last.ae (i:=3) (v:=(.slice oa ol oc)) rfl rfl (by aa) (by aa) (by aa) (by aa) (fun _ _ _ h=>h) (Or.inl ⟨by rfl,?_⟩) (by assumption) ?_
  · intro wq aC; have ny:gj<w2.heap.size:=sH.Rq gj List.mem_cons_self; have q:=(aC.cell (p:=⟨gj,k * 4+1,none⟩) ny).trans d1; af
  try simp only[Act.put,List.setIfInBounds_toArray,List.set_cons_zero,List.set_cons_succ];refine last.ae (i:=4) (v:=(.pointer (some ⟨X,pre.length,none⟩))) rfl rfl (by aa) (by aa) (by aa) (by aa) (fun _ _ _ h=>h) (Or.inl ⟨by rfl,?_⟩) (by assumption) ?_
  · intro wq aC; af
  try simp only[Act.put,List.setIfInBounds_toArray,List.set_cons_zero,List.set_cons_succ];refine last.ae (i:=5) (v:=(.pointer (some ⟨X,pre.length,none⟩))) rfl rfl (by aa) (by aa) (by aa) (by aa) (fun _ _ _ h=>h) (Or.inl ⟨by rfl,?_⟩) (by assumption) ?_
  · intro wq aC; af
  try simp only[Act.put,List.setIfInBounds_toArray,List.set_cons_zero,List.set_cons_succ];refine last.ae (i:=6) (v:=(.pointer (some ⟨X,pre.length,none⟩))) rfl rfl (by aa) (by aa) (by aa) (by aa) (fun _ _ _ h=>h) (Or.inl ⟨by rfl,?_⟩) (by assumption) ?_
  · intro wq aC; af
  try simp only[Act.put,List.setIfInBounds_toArray,List.set_cons_zero,List.set_cons_succ];refine last.ae (i:=7) (v:=(.int .i64 c.1)) rfl rfl (by aa) (by aa) (by aa) (by aa) (fun _ _ _ h=>h) (Or.inl ⟨by rfl,?_⟩) (by assumption) ?_
  · intro wq aC; have q:=(uu (Cr.below aC)).1; af
  try simp only[Act.put,List.setIfInBounds_toArray,List.set_cons_zero,List.set_cons_succ];refine last.ax (i:=8) (o:={dst:=some 51,op:=Op.call {callee:=Callee.value (Operand.func 101),args:=#[Operand.tmp 46,Operand.tmp 50],argTypes:=#[73,3]},type:=54,pos:= "l11_coord.go:118",after:=#[{on:=3,ground:=Ground.data},{on:=7,ground:=Ground.data}],guard:=none}) (by aa) rfl (fun K hK=>?_)
  refine gv.call2 rfl 101 (.tmp 46) (.tmp 50) _ rfl (fun _ _=>rfl) (.slice oa ol oc) (.int .i64 c.1) (by aa) (by aa) _ (wm.out _ eX) ?_
  rintro e w3 ⟨gs,ns,cs,rfl,hZ,sz⟩;refine⟨_,rfl,?_⟩;have dI:=eX.trans (sz.mono eX.size);refine hK.out _ _ ?_ (fun aq=>?_)
  · exact dI
  clear hK K al;have al:=aq;clear aq;try simp only[Act.put,List.setIfInBounds_toArray,List.set_cons_zero,List.set_cons_succ];refine last.aL (o:={dst:=some 10,op:=Op.assign (Operand.tmp 51),type:=54,pos:= "l11_coord.go:118",after:=#[{on:=8,ground:=Ground.data},{on:=8,ground:=Ground.chain},{on:=0,ground:=Ground.phase},{on:=1,ground:=Ground.phase},{on:=2,ground:=Ground.phase},{on:=3,ground:=Ground.phase},{on:=4,ground:=Ground.phase},{on:=5,ground:=Ground.phase},{on:=6,ground:=Ground.phase},{on:=7,ground:=Ground.phase},{on:=8,ground:=Ground.phase}],guard:=none}) (by aa) rfl (by aa) (fun K hK=>?_)
  af;refine hK.out _ _ ?_;clear hK K;clear al d1 d2 x0 x1 x2 x3 x4 x5 wm;have cY:=a_.trans (dI.mono a_.size);have YJ:=hZ.1;have nK:=Hid.mk' (cX (some ⟨gs,0,none⟩) ns cs sh shard w3 hZ.sl);by_cases iw:shard∈sh
  cQ
  · rw[decide_eq_false iw] at nK;have HE:Hid (iP c shard tx yes=c):=by
     show _=_;unfold iP mC;rw[QJ.out];simp only[List.getElem?_eq_getElem hk];rw[if_neg (fun e=>iw (by rw[←Ae.out]; exact e.2.2))]
    have HP:=Hid.mk' (fI.same H0.out cY);clear iw H0 Cr sH hZ;ab fail;refine nK.out.mono ?_;rintro e w4 ⟨rfl,rfl⟩;clear nK;ab fail;first | (refine bodyPost_end (v:=.tuple #[]) ?_ rfl ⟨rfl,by rw[HE.out]; exact HP.out⟩) | (refine bodyPost_ret (v:=.tuple #[]) ?_ rfl ⟨rfl,by rw[HE.out]; exact HP.out⟩)
    simp[results,Tryz.results131,go_sem]
  rw[decide_eq_true iw] at nK;have yt:=HFU.out;have K8:Hid (∀y,iP c shard tx y=oQ c k c.2.2.2.1[k] shard y):=fun y=>by
   have hv:mC c shard tx=some k:=by
    unfold mC;rw[QJ.out];simp only[List.getElem?_eq_getElem hk];rw[if_pos ⟨ir.out,by have:=pn.out; omega,by rw[Ae.out]; exact iw⟩]
   exact vV hv hk
  clear iw yt H0 HFU QJ;have Ie:=HJ.out.below cY;have Mb:=HL.out.below cY;have Uc:=vI.out.below cY;have T7:lay.Frame (X::F) w w3:=lay.Frame.cM cY;have xv:gj∈F1:=by rw[EY.out]; exact List.mem_append.2 (.inl (by simp[Value.ownBlock]))
  have Ni:gj∈F:=by rw[BY.out]; exact List.mem_append.2 (.inl xv)
  have K9:∀b∈aw qj,b∈F1:=fun b hb=>by rw[EY.out]; exact List.mem_append.2 (.inr hb)
  have Ud:gj≠X:=fun e=>jH (e ▸ Ni)
  have K_:X∉(Value.slice la ln lc).ownBlock.toList:=fun e=>jH (by rw[BY.out]; exact List.mem_append.2 (.inr e))
  have Ce:∀b∈F1,b∉(Value.slice la ln lc).ownBlock.toList:=fun b hb=>by
   have h3:=TY.out;rw[BY.out] at h3;exact(a7 h3).2.2 b hb
  have Nd:∀b∈(Value.slice la ln lc).ownBlock.toList,b<w.heap.size:=fun b hb=>kF b (by rw[BY.out]; exact List.mem_append.2 (.inr hb))
  have hB3s:=cY.size;have Oe:c.2.2.2.2.1.length≤1048576:=by have:=pn.out; omega
  cases yes
  · have hV:=K8.out false;obtain⟨us,FK,hu,cZ,Cd,Nj⟩:=Ie.yw k hk;obtain⟨oa3,ol3,Ze,QK,QL,QM,rfl⟩:=fg hu;have d2:=cZ 2 _ rfl;have f2:=Ie.frozen (k * 4+2);obtain⟨q4,rJ,Nq,zV, -⟩:=Nj 2 (.int .i64 3) (c.2.2.2.1[k].1,c.2.2.2.1[k].2.1,3,c.2.2.2.1[k].2.2.2) FK (by decide) (by
     obtain⟨v1,v2,e,k1,k3,h1,h2,h3,h4⟩:=dX.1 hu;exact dX.2 ⟨_,_,by rw[e]; rfl,k1,(by decide:(Lit.int .i64 3).wf=true),h1,h2,h3,h4⟩) (fun b hb=>.inl hb)
    rw[show k * ek.size+2=k * 4+2 from rfl] at rJ zV d2
    obtain⟨W4,JJ⟩:∃W4,w3.setCell ⟨gj,k * 4+2,none⟩ (.int .i64 3)=W4:=⟨_,rfl⟩;rw[JJ] at rJ zV;have LH:=Uc.grown zV (fun e=>Ud (Option.some.inj e).symm)
    have lO:=Mb.keep fun b hb=>zV.block b (Mb.at_ b hb) (fun e=>by
     rw[(dW.parts HL.out).2.2.1,List.append_nil] at hb;exact Ce gj xv (Option.some.inj e ▸ hb))
    have zq:lay.Frame (X::F) w W4:=T7.grown zV (fun b e=>by cases e; exact .inl (List.mem_cons_of_mem _ Ni))
    have pt:∀b∈gj::aw q4,(b∈F1∨w.heap.size≤b)∧b≠X:=fun b hb=>by
     have a_:b∈F1:=by
      rcases List.mem_cons.1 hb with e | e
      · rw[e]; exact xv
      · rcases Nq b e with e2 | e2
        · exact K9 b e2
        · exact K9 b (Cd b e2)
     exact⟨.inl a_,fun e=>jH (by rw[BY.out,←e]; exact List.mem_append.2 (.inl a_))⟩
    obtain⟨gl,dk,w6,dA,zN,Hh,If,xb,ny,Cc⟩:=qL LH lO K_ tx false AJ Oe;obtain⟨U,hU⟩:∃U,w6.setCell ⟨X,pre.length+4,none⟩ (.slice (some ⟨gl,0,none⟩) (ln+1) dk)=U:=⟨_,rfl⟩;rw[hU] at Hh If xb;have x4:=zN.cell 4 _ rfl;have f4:=zN.fz (pre.length+4);have Cf:=rJ.keep fun b hb=>xb.block b (rJ.at_ b hb) (fun e=>by
     have h1:=pt b (by simpa[Value.ownBlock] using hb)
     rcases List.mem_cons.1 e with e | e
     · exact h1.2 e
     · rcases h1.1 with h2 | h2
       · exact Ce b h2 e
       · have:=Nd b e; omega)
    have Ue:lay.Frame (X::F) w U:=zq.trans xb (fun b hb=>by
     rcases List.mem_cons.1 hb with e | e
     · exact .inl (by rw[e]; exact List.mem_cons_self)
     · exact .inl (List.mem_cons_of_mem _ (by rw[BY.out]; exact List.mem_append.2 (.inr e))))
    have Vw:w.heap.size≤W4.heap.size:=zq.size;have HP:Hid (fI w X T pre post F (c.1,c.2.1,c.2.2.1,c.2.2.2.1.set k (c.2.2.2.1[k].1,c.2.2.2.1[k].2.1,3,c.2.2.2.1[k].2.2.2),c.2.2.2.2.1++[(tx,false)],c.2.2.2.2.2) U):=rO (c:=(c.1,c.2.1,c.2.2.1,c.2.2.2.1.set k (c.2.2.2.1[k].1,c.2.2.2.1[k].2.1,3,c.2.2.2.1[k].2.2.2),c.2.2.2.2.1++[(tx,false)],c.2.2.2.2.2)) (F1:=F1) (F2:=(Value.slice la ln lc).ownBlock.toList) Hh ⟨_,_,rfl,rfl,Cf⟩ If Ue ⟨BM.out.n,BM.out.av,BM.out.next,BM.out.sure⟩ (fun b hb=>(pt b (by simpa[Value.ownBlock] using hb)).1) (fun b hb=>by
     rw[List.mem_singleton] at hb;subst hb;exact ny.imp_right (fun e=>by omega)) (fun b hb be=>by
     rw[List.mem_singleton] at be;subst be;have h1:=pt b (by simpa[Value.ownBlock] using hb)
     rcases ny with e | e
     · rcases h1.1 with h2 | h2
       · exact Ce b h2 e
       · have:=Nd b e; omega
     · have:=rJ.at_ b hb; omega) (fun e=>(pt X (by simpa[Value.ownBlock] using e)).2 rfl) (fun e=>by
     rw[List.mem_singleton] at e;exact Cc e.symm) BY.out
    have HU:=Hid.mk' hU;clear hU Hh If xb Cf Ue;have HE:Hid (iP c shard tx false=(c.1,c.2.1,c.2.2.1,c.2.2.2.1.set k (c.2.2.2.1[k].1,c.2.2.2.1[k].2.1,3,c.2.2.2.1[k].2.2.2),c.2.2.2.2.1++[(tx,false)],c.2.2.2.2.2)):=by
     show _=_;rw[hV];unfold oQ lJ;simp only[Bool.false_eq_true,if_false];rw[show nC c.2.2.2.2.1 c.2.2.2.1[k].1 (some false)=c.2.2.2.2.1++[(c.2.2.2.1[k].1,false)] from rfl,HTX.out]
    have La:W4.heap.size=w3.heap.size:=by rw[←JJ]; simp
    rw[La] at dA;clear La;have rT:=Hid.mk' JJ;have a4:=LH.cell 4 _ rfl;rw[←JJ] at a4;clear hV K8 hu cZ Cd Nj rJ zV LH lO zq pt JJ zN Ie Mb Uc sH Cr hZ;ab fail;refine nK.out.mono ?_;rintro e w9 ⟨rfl,QN⟩;replace QN:=QN.symm;subst QN;clear nK;ab (ak; rw[rT.out]; refine fO rfl _ _ 26 rfl (by aa) (by aa) dA ?_)
    ab fail;rw[HU.out];first | (refine bodyPost_end (v:=.tuple #[]) ?_ rfl ⟨rfl,by rw[HE.out]; exact HP.out⟩) | (refine bodyPost_ret (v:=.tuple #[]) ?_ rfl ⟨rfl,by rw[HE.out]; exact HP.out⟩)
    simp[results,Tryz.results131,go_sem]
  · have hV:=K8.out true;obtain⟨us,FK,hu,cZ,Cd, -⟩:=Ie.yw k hk;obtain⟨oa3,ol3,Ze,QK,QL,QM,rfl⟩:=fg hu;have d3:=cZ 3 _ rfl;rw[show k * ek.size+3=k * 4+3 from rfl] at d3
    obtain⟨vo,Ub,e,k1,k3,zo,Fi,QI,Es⟩:=dX.1 hu;simp only[List.cons.injEq,and_true,true_and] at e;obtain⟨rfl,rfl⟩:=e;have QO:=(rE.1 (pU.eK (mz.2 ⟨Fi,rfl⟩)));have MR:=Vy.out.1;have hyll:=QO.1.1.1;have YK:=Hid.mk' d3;have Uf:Hid (Calls Tryz.prog 143 #[.slice QK QL QM,.int .i64 shard] w3 fun e w'=>∃ra rn rc FR,e=.returned (.slice ra rn rc)∧tt w' (.slice ra rn rc) (fj c.2.2.2.1[k].2.2.2 shard)∧FR=(Value.slice ra rn rc).ownBlock.toList∧(∀b∈FR,b∈(Value.slice QK QL QM).ownBlock.toList∨w3.heap.size≤b)∧Below w3.heap.size w3 w'):=by
     by_cases iw:shard∈c.2.2.2.1[k].2.2.2
     · refine(Er QK QL QM c.2.2.2.1[k].2.2.2 shard w3 QO.1.1 iw).mono ?_;rintro e w' ⟨rfl,rfl⟩;refine⟨QK,QL,QM,_,rfl,?_,rfl,fun b hb=>.inl hb,Below.refl _ _⟩
       rw[show fj c.2.2.2.1[k].2.2.2 shard=c.2.2.2.1[k].2.2.2 from if_pos iw]
       exact Fi
     · refine(Cb QK QL QM c.2.2.2.1[k].2.2.2 shard w3 QO.1.1 iw QO.1.2 QO.2 Vy.out.2 (by omega)).mono ?_
       rintro e w' ⟨g',n',aY,rfl,hO,hb⟩;refine⟨_,n',aY,_,rfl,⟨fun z hz=>?_,?_⟩,rfl,fun b be=>?_,hb⟩
       · rcases(uA _ _ z).1 hz with e | e
         · exact QO.1.2 z e
         · rw[e]; exact CD
       · rw[hO.1]; exact zO hO.2
       · have e:b=g':=by simpa[Value.ownBlock] using be
         rw[e];exact .inr hO.lt.1
    clear hu cZ Cd zo Fi QI Es QO;ab fail;refine nK.out.mono ?_;rintro e w9 ⟨rfl,QN⟩;replace QN:=QN.symm;subst QN;clear nK;ab fail;refine Uf.out.mono ?_;rintro e W4 ⟨ra,rn,rc,FR,rfl,Ug,H6,Uh,eR⟩;clear Uf d3;have rJ:=Ie.below eR;have lO:=Mb.below eR;have YL:=Uc.below eR;have zq:=T7.below eR;have YM:=eR.size;have hrn:rn=(fj c.2.2.2.1[k].2.2.2 shard).length:=by
     rcases Ug.2.2 with⟨e,e2⟩ | ⟨g',c',cur,e,_⟩
     · cases e; omega
     · cases e; rfl
    obtain⟨us,FK,hu,cZ,Cd,Nj⟩:=rJ.yw k hk;obtain⟨YN,YO,Ey,ya4,yl4,yc4,rfl⟩:=fg hu;have d3:=cZ 3 _ rfl;have f3:=rJ.frozen (k * 4+3);rw[show k * ek.size+3=k * 4+3 from rfl] at d3
    have Gy:gj<w3.heap.size:=Ie.Rq gj List.mem_cons_self;have jI:Value.slice ya4 yl4 yc4=Value.slice QK QL QM:=by
     have h1:=(eR.cell (p:=⟨gj,k * 4+3,none⟩) Gy).trans YK.out;rw[d3] at h1;exact Option.some.inj h1
    obtain⟨vo,Ub,e,k1,k3,zo,Fi,QI,Es⟩:=dX.1 hu;simp only[List.cons.injEq,and_true,true_and] at e;obtain⟨rfl,rfl⟩:=e;have Ui:∀b∈FR,b∈FK∨w3.heap.size≤b:=fun b hb=>(Uh b hb).imp_left fun e=>by rw[QI]; exact List.mem_append.2 (.inr (by rw[jI]; exact e))
    have QP:∀b∈(Value.slice YN YO Ey).ownBlock.toList,b∈FK:=fun b hb=>by rw[QI]; exact List.mem_append.2 (.inl hb)
    have Im:∀b∈gj::aw qj,b<w3.heap.size:=fun b hb=>Ie.Rq b hb
    have YP:=pU.bU (mz.2 ⟨Ug,H6⟩);have DZ:ek.own W4 [.int .i64 c.2.2.2.1[k].1,.slice YN YO Ey,.int .i64 c.2.2.2.1[k].2.2.1,.slice ra rn rc] (c.2.2.2.1[k].1,c.2.2.2.1[k].2.1,c.2.2.2.1[k].2.2.1,fj c.2.2.2.1[k].2.2.2 shard) ((Value.slice YN YO Ey).ownBlock.toList++FR):=by
     refine dX.2 ⟨_,_,rfl,k1,k3,zo,Ug,by rw[H6],?_⟩
     rw[QI] at Es;refine bZ (a7 Es).1 YP fun b hb be=>?_
     rcases Uh b be with e | e
     · exact(a7 Es).2.2 b hb (by rw[jI]; exact e)
     · have:=Im b (List.mem_cons_of_mem _ (Cd b (QP b hb))); omega
    obtain⟨q5,wE,YQ,ix,jx⟩:=Nj 3 (.slice ra rn rc) _ _ (by decide) DZ (fun b hb=>by
     rcases List.mem_append.1 hb with e | e
     · exact .inl (QP b e)
     · exact(Ui b e).imp_right fun e2 hm=>by have:=Im b hm; omega)
    have e3:=jx 3 _ rfl;have e2:=jx 2 _ rfl;rw[show k * ek.size+3=k * 4+3 from rfl] at wE ix e3 e2
    rw[show k * ek.size+2=k * 4+2 from rfl] at e2
    obtain⟨W5,N7⟩:∃W5,W4.setCell ⟨gj,k * 4+3,none⟩ (.slice ra rn rc)=W5:=⟨_,rfl⟩;rw[N7] at wE ix;have Ps:=YL.grown ix (fun e=>Ud (Option.some.inj e).symm)
    have Ia:=lO.keep fun b hb=>ix.block b (lO.at_ b hb) (fun e=>by
     rw[(dW.parts HL.out).2.2.1,List.append_nil] at hb;exact Ce gj xv (Option.some.inj e ▸ hb))
    have wH:lay.Frame (X::F) w W5:=zq.grown ix (fun b e=>by cases e; exact .inl (List.mem_cons_of_mem _ Ni))
    have YR:∀b∈F1,b≠X:=fun b hb e=>jH (by rw[BY.out,←e]; exact List.mem_append.2 (.inl hb))
    have Cg:∀b∈gj::aw q5,(b∈F1∨w.heap.size≤b)∧b≠X:=fun b hb=>by
     have a_:b∈F1∨w.heap.size≤b:=by
      rcases List.mem_cons.1 hb with e | e
      · rw[e]; exact .inl xv
      · rcases YQ b e with e2 | e2
        · exact .inl (K9 b e2)
        · rcases List.mem_append.1 e2 with e4 | e4
          · exact .inl (K9 b (Cd b (QP b e4)))
          · rcases Ui b e4 with e6 | e6
            · exact .inl (K9 b (Cd b e6))
            · exact .inr (by omega)
     refine⟨a_,fun e=>?_⟩
     rcases a_ with e2 | e2
     · exact YR b e2 e
     · omega
    have Vz:=Hid.mk' N7;have hst1:=ir.out;by_cases iT:rn=ns
    · have hqe:((rn:Int)==(ns:Int))=true:=by rw[iT]; simp
      obtain⟨us5,FK5,VA,YS,Uj,Uk⟩:=wE.yw k (by simpa using hk)
      rw[QH hk] at VA;obtain⟨oa5,ol5,oc5,ya5,yl5,yc5,rfl⟩:=fg VA;have f2:=wE.frozen (k * 4+2);obtain⟨q6,ur,Jy,dJ, -⟩:=Uk 2 (.int .i64 2) (c.2.2.2.1[k].1,c.2.2.2.1[k].2.1,2,fj c.2.2.2.1[k].2.2.2 shard) FK5 (by decide) (by
       obtain⟨v1,v2,e,k1,k3,h1,h2,h3,h4⟩:=dX.1 VA;exact dX.2 ⟨_,_,by rw[e]; rfl,k1,(by decide:(Lit.int .i64 2).wf=true),h1,h2,h3,h4⟩) (fun b hb=>.inl hb)
      rw[show k * ek.size+2=k * 4+2 from rfl] at ur dJ
      rw[List.set_set] at ur;obtain⟨W6,Ul⟩:∃W6,W5.setCell ⟨gj,k * 4+2,none⟩ (.int .i64 2)=W6:=⟨_,rfl⟩;rw[Ul] at ur dJ;have QQ:=Ps.grown dJ (fun e=>Ud (Option.some.inj e).symm)
      have Rp:=Ia.keep fun b hb=>dJ.block b (Ia.at_ b hb) (fun e=>by
       rw[(dW.parts HL.out).2.2.1,List.append_nil] at hb;exact Ce gj xv (Option.some.inj e ▸ hb))
      have RF:lay.Frame (X::F) w W6:=wH.grown dJ (fun b e=>by cases e; exact .inl (List.mem_cons_of_mem _ Ni))
      have Lb:∀b∈gj::aw q6,(b∈F1∨w.heap.size≤b)∧b≠X:=fun b hb=>by
       rcases List.mem_cons.1 hb with e | e
       · exact Cg b (by rw[e]; exact List.mem_cons_self)
       · rcases Jy b e with e2 | e2
         · exact Cg b (List.mem_cons_of_mem _ e2)
         · exact Cg b (List.mem_cons_of_mem _ (Uj b e2))
      obtain⟨gl,dk,w6,dA,zN,Hh,If,xb,ny,Cc⟩:=qL QQ Rp K_ tx true AJ Oe;obtain⟨U,hU⟩:∃U,w6.setCell ⟨X,pre.length+4,none⟩ (.slice (some ⟨gl,0,none⟩) (ln+1) dk)=U:=⟨_,rfl⟩;rw[hU] at Hh If xb;have x4:=zN.cell 4 _ rfl;have f4:=zN.fz (pre.length+4);have Cf:=ur.keep fun b hb=>xb.block b (ur.at_ b hb) (fun e=>by
       have h1:=Lb b (by simpa[Value.ownBlock] using hb)
       rcases List.mem_cons.1 e with e | e
       · exact h1.2 e
       · rcases h1.1 with h2 | h2
         · exact Ce b h2 e
         · have:=Nd b e; omega)
      have Ue:lay.Frame (X::F) w U:=RF.trans xb (fun b hb=>by
       rcases List.mem_cons.1 hb with e | e
       · exact .inl (by rw[e]; exact List.mem_cons_self)
       · exact .inl (List.mem_cons_of_mem _ (by rw[BY.out]; exact List.mem_append.2 (.inr e))))
      have Vw:w.heap.size≤W6.heap.size:=RF.size;have HP:Hid (fI w X T pre post F (c.1,c.2.1,c.2.2.1,c.2.2.2.1.set k (c.2.2.2.1[k].1,c.2.2.2.1[k].2.1,2,fj c.2.2.2.1[k].2.2.2 shard),c.2.2.2.2.1++[(tx,true)],c.2.2.2.2.2) U):=rO (c:=(c.1,c.2.1,c.2.2.1,c.2.2.2.1.set k (c.2.2.2.1[k].1,c.2.2.2.1[k].2.1,2,fj c.2.2.2.1[k].2.2.2 shard),c.2.2.2.2.1++[(tx,true)],c.2.2.2.2.2)) (F1:=F1) (F2:=(Value.slice la ln lc).ownBlock.toList) Hh ⟨_,_,rfl,rfl,Cf⟩ If Ue ⟨BM.out.n,BM.out.av,BM.out.next,BM.out.sure⟩ (fun b hb=>(Lb b (by simpa[Value.ownBlock] using hb)).1) (fun b hb=>by
       rw[List.mem_singleton] at hb;subst hb;exact ny.imp_right (fun e=>by omega)) (fun b hb be=>by
       rw[List.mem_singleton] at be;subst be;have h1:=Lb b (by simpa[Value.ownBlock] using hb)
       rcases ny with e | e
       · rcases h1.1 with h2 | h2
         · exact Ce b h2 e
         · have:=Nd b e; omega
       · have:=ur.at_ b hb; omega) (fun e=>(Lb X (by simpa[Value.ownBlock] using e)).2 rfl) (fun e=>by
       rw[List.mem_singleton] at e;exact Cc e.symm) BY.out
      have HU:=Hid.mk' hU;clear hU Hh If xb Cf Ue;have HE:Hid (iP c shard tx true=(c.1,c.2.1,c.2.2.1,c.2.2.2.1.set k (c.2.2.2.1[k].1,c.2.2.2.1[k].2.1,2,fj c.2.2.2.1[k].2.2.2 shard),c.2.2.2.2.1++[(tx,true)],c.2.2.2.2.2)):=by
       show _=_;rw[hV];unfold oQ lJ;rw[Ae.out,if_pos rfl,if_pos (by omega)]
       simp only[];rw[show nC c.2.2.2.2.1 c.2.2.2.1[k].1 (some true)=c.2.2.2.2.1++[(c.2.2.2.1[k].1,true)] from rfl,HTX.out]
      have a4:=QQ.cell 4 _ rfl;rw[←Ul] at a4;rw[←Vz.out] at a4 f2;have La:W6.heap.size=W4.heap.size:=by rw[←Ul,←Vz.out]; simp
      rw[La] at dA;clear La;have HW6:=Hid.mk' Ul;clear hV K8 hu cZ Cd Nj rJ ix Ps Ia wH Cg wE Ie Mb Uc sH Cr hZ lO YL zq jx VA YS Uj Uk ur dJ QQ Rp RF Lb N7 Ul zN Ug DZ zo Fi iT hrn YQ Jy YK Ae Vy;generalize c.2.2.2.1[k].2.2.1=st at *;ab (ak; rw[Vz.out,HW6.out]; refine fO rfl _ _ 26 rfl (by aa) (by aa) dA ?_)
      ab fail;rw[HU.out];first | (refine bodyPost_end (v:=.tuple #[]) ?_ rfl ⟨rfl,by rw[HE.out]; exact HP.out⟩) | (refine bodyPost_ret (v:=.tuple #[]) ?_ rfl ⟨rfl,by rw[HE.out]; exact HP.out⟩)
      simp[results,Tryz.results131,go_sem]
    · have hqe:((rn:Int)==(ns:Int))=false:=beq_eq_false_iff_ne.2 (by omega)
      have HP:Hid (fI w X T pre post F (c.1,c.2.1,c.2.2.1,c.2.2.2.1.set k (c.2.2.2.1[k].1,c.2.2.2.1[k].2.1,c.2.2.2.1[k].2.2.1,fj c.2.2.2.1[k].2.2.2 shard),c.2.2.2.2.1,c.2.2.2.2.2) W5):=rO (c:=(c.1,c.2.1,c.2.2.1,c.2.2.2.1.set k (c.2.2.2.1[k].1,c.2.2.2.1[k].2.1,c.2.2.2.1[k].2.2.1,fj c.2.2.2.1[k].2.2.2 shard),c.2.2.2.2.1,c.2.2.2.2.2)) (F1:=F1) (F2:=(Value.slice la ln lc).ownBlock.toList) Ps ⟨_,_,rfl,rfl,wE⟩ (iN.2 ⟨⟨_,Ia⟩,rfl⟩) wH ⟨BM.out.n,BM.out.av,BM.out.next,BM.out.sure⟩ (fun b hb=>(Cg b (by simpa[Value.ownBlock] using hb)).1) (fun b hb=>.inl hb) (fun b hb be=>by
       rcases(Cg b (by simpa[Value.ownBlock] using hb)).1 with e | e
       · exact Ce b e be
       · have:=Nd b be; omega) (fun e=>(Cg X (by simpa[Value.ownBlock] using e)).2 rfl) K_ BY.out
      have HE:Hid (iP c shard tx true=(c.1,c.2.1,c.2.2.1,c.2.2.2.1.set k (c.2.2.2.1[k].1,c.2.2.2.1[k].2.1,c.2.2.2.1[k].2.2.1,fj c.2.2.2.1[k].2.2.2 shard),c.2.2.2.2.1,c.2.2.2.2.2)):=by
       show _=_;rw[hV];unfold oQ lJ;rw[Ae.out,if_pos rfl,if_neg (by omega)]
       rfl
      clear hV K8 hu cZ Cd Nj rJ ix Ps Ia wH Cg wE Ie Mb Uc sH Cr hZ lO YL zq jx N7 Ug DZ zo Fi iT hrn YQ YK Ae Vy;ab fail;rw[Vz.out];first | (refine bodyPost_end (v:=.tuple #[]) ?_ rfl ⟨rfl,by rw[HE.out]; exact HP.out⟩) | (refine bodyPost_ret (v:=.tuple #[]) ?_ rfl ⟨rfl,by rw[HE.out]; exact HP.out⟩)
      simp[results,Tryz.results131,go_sem]
end cos
namespace cos
open Go Go.RowKit base aE aX lay lh
theorem Lc:∀ {l:List Int} {a b:Int},l.Pairwise (· < ·)→(∀x∈l,a≤x∧x≤b)→(l.length:Int)≤max 0 (b+1 - a):=fun h h2=>Fg h h2
theorem dg.lq{c:Co}(h:dg c):c.2.2.2.1.length≤999:=by
 have:=Lc (a:=c.2.1 * 1000) (b:=c.2.1 * 1000+c.2.2.1 - 1) h.He (fun x hx=>by
  obtain⟨j,hj,rfl⟩:=List.mem_map.1 hx;exact⟨(h.jobs j hj).lo,(h.jobs j hj).hi⟩)
 have:=h.next;rw[List.length_map] at *;omega
theorem Et:∀(l:List Od),(∀p∈l,dU p=true)→sr l≤33 * l.length:=by
 intro l;unfold sr
 induction l with
 | nil=>intro _; simp
 | cons p l ih=>
  intro h;have h1:=ih fun x hx=>h x (List.mem_cons_of_mem _ hx)
  have h2:=(kh p).1 (h p List.mem_cons_self);have h3:p.2.1.size≤13:=by
   have:=h2.2.2.1;unfold gS at this;simp only[Bool.and_eq_true,decide_eq_true_eq] at this;omega
  simp only[List.map_cons,List.sum_cons,List.length_cons];unfold U0 at *;omega
theorem rN.size{n av next:Int}{log:List Ch}{j:Jb}(h:rN n av next log j)(hn:1≤n∧n≤8):Kt j≤280:=by
 have h1:=(bG _).1 h.ops;have h2:=Et j.2.1 h1.1.1;have h3:=(Fh hn h.yes).1;unfold Kt;omega
theorem Eu:∀(l:List Jb) (m:Nat),(∀j∈l,Kt j≤m)→pN l≤m * l.length:=by
 intro l m;unfold pN
 induction l with
 | nil=>intro _; simp
 | cons j l ih=>
  intro h;have h1:=ih fun x hx=>h x (List.mem_cons_of_mem _ hx)
  have h2:=h j List.mem_cons_self;simp only[List.map_cons,List.sum_cons,List.length_cons,Nat.mul_add];omega
theorem dg.size{c:Co}(h:dg c):Fa c≤300000:=by
 have h1:=h.lq;have h2:=h.jS;have h3:=Eu c.2.2.2.1 280 (fun j hj=>(h.jobs j hj).size h.n)
 have h4:280 * c.2.2.2.1.length≤280 * 999:=Nat.mul_le_mul_left _ h1;unfold Fa;omega
theorem sB{n:Int}(h:1≤n∧n≤8):dg (n,1,0,[],[],0):=
 ⟨h,⟨(by decide:(1:Int)≤1),(by decide:(1:Int)≤900)⟩,⟨(by decide:(0:Int)≤0),(by decide:(0:Int)≤999)⟩,Nat.zero_le _,⟨(by decide:(0:Int)≤0),(by decide:(0:Int)≤0)⟩,fun x hx=>absurd hx List.not_mem_nil,List.nodup_nil,fun x hx=>absurd hx List.not_mem_nil,List.Pairwise.nil⟩
theorem kf{c:Co}(h:dg c):dg (c.1,c.2.1,c.2.2.1,c.2.2.2.1,c.2.2.2.2.1,(c.2.2.2.2.1.length:Int)):=
 ⟨h.n,h.av,h.next,h.jS,⟨by show(0:Int)≤(c.2.2.2.2.1.length:Int); omega,Int.le_refl _⟩,h.range,h.nodup,h.jobs,h.He⟩
theorem ot{c:Co}(h:dg c)(keep:Int):dg (fe c keep):=by
 unfold fe
 split
 · exact h
 · eZ h9
   have hl:=h.av;have hn:=h.next;have hk:=BX (ln:=c.2.2.2.2.1.length) (sure:=c.2.2.2.2.2) (keep:=keep) h.sure;refine⟨h.n,⟨by show(1:Int)≤c.2.1+1; omega,by show c.2.1+1≤(900:Int); omega⟩,⟨(by decide:(0:Int)≤0),(by decide:(0:Int)≤999)⟩,?_,?_,fun x hx=>?_,?_,fun x hx=>absurd hx List.not_mem_nil,List.Pairwise.nil⟩
   · have:=h.jS;simp only[List.length_take]; omega
   · simp only[List.length_take]; omega
   · have:=h.range x (List.mem_of_mem_take hx);show 1000≤x.1∧x.1≤(c.2.1+1) * 1000+0 - 1;omega
   · simp only[List.map_take];exact List.Nodup.sublist (List.take_sublist _ _) h.nodup
theorem oR{c:Co}{ops:List Od}(h:dg c):dg (ju c ops).1:=by
 unfold ju
 split
 · eZ hm; exact B5 h hm
 · exact h
theorem qM{c:Co}{ops:List Od}:(ju c ops).1.2.1=c.2.1:=by unfold ju; split <;> rfl
theorem sI{c:Co}{shard tx:Int}{yes:Bool}:(iP c shard tx yes).2.1=c.2.1:=by
 cases e:mC c shard tx with
 | none=>rw[vW e]
 | some k=>
  obtain⟨hk,_⟩:=vU e;rw[vV e hk]; rfl
theorem Ev{c:Co}{keep:Int}:(fe c keep).2.1≤c.2.1+1:=by
 unfold fe
 split
 · omega
 · exact Int.le_refl _
end cos
namespace cos
open Go Go.RowKit base aE aX lay lh
end cos
namespace last
open Go Go.RowKit
section
variable{P:Program}{ops:Array Oper}{md:Region.Mode}{Q:Exit→Act→World→Prop}{S:World→Prop}{z:Nat}
def YT(md:Region.Mode)(ops:Array Oper)(ms:List Nat)(z i:Nat):Prop:=∀m∈z::ms,∃om,ops[m]? =some om∧∃e∈om.after,Region.binds md e=true∧(e.on=i∨e.on∈ms)
theorem Nk{ms:List Nat}{i:Nat}(hv:YT md ops ms z i){aH:Array Bool}(hr:i∈Region.ready md ops aH)(hu:∀m∈ms,aH.getD m true=false){j:Nat}(hj:j∈Region.ready md ops aH):j∉z::ms:=fun hm=>by
 obtain⟨om,ho,e,he,hb,h⟩:=hv j hm;rcases h with h | h
 · exact ji hr hj ho e he hb h
 · obtain⟨_,oj,Aw,iT⟩:=mem_ready.1 hj;rw[ho] at Aw;cases Aw;have h1:=iT e he hb;have h2:=hu e.on h;unfold Array.getD at h1 h2
   split at h1 <;> uw
theorem xw{i:Nat}{oi:Oper}{v:Value}{ms:List Nat}(hi:ops[i]? =some oi)(Av:∀(j:Nat) (o:Oper) cs b,ops[j]? =some o→o.op≠ .select cs b)
 (hQ:∀c a w,Q (.panic c) (a.put oi.dst v) w→Q (.panic c) a w) (hv:YT md ops ms z i):
 ∀(fuel:Nat) (aH:Array Bool) (a:Act) (w:World),
  (∀j oj,ops[j]? =some oj→j≠i→aH.getD j true=false→(∀e∈oj.after,Region.binds md e=true→e.on≠i)→oi.apart ops oj=true)→
  i∈Region.ready md ops aH→(∀m∈ms,aH.getD m true=false)→YieldsIf P ops S oi v a→S w→
  gf P md ops Q S z fuel (aH.setIfInBounds i true) (a.put oi.dst v) w→gf P md ops Q S z (fuel+1) aH a w:=by
 intro fuel
 induction fuel with
 | zero=>
  intro aH a w _ hr hu hy hS H;refine⟨fun h=>(by rw[h] at hr; cases hr),fun j hj=>?_⟩
  by_cases sW:j=i
  · subst sW; exact hy.wpOp hi hS ⟨fun _=>hS,H⟩
  · have:=ready_mono hj sW;rw[H.1] at this;cases this
 | succ fuel ih=>
  intro aH a w A0 hr hu hy hS H;refine⟨fun h=>(by rw[h] at hr; cases hr),fun j hj=>?_⟩
  by_cases sW:j=i
  · subst sW; exact hy.wpOp hi hS ⟨fun _=>hS,H⟩
  · have h1:=H.2 j (ready_mono hj sW);obtain⟨Jg,oj,Aw,iT⟩:=mem_ready.1 hj;have Jh:∀e∈oj.after,Region.binds md e=true→e.on≠i:=ji hr hj Aw;have h2:=wpOp_putIf Aw (A0 j oj Aw sW Jg Jh) (fun cs b=>Av i oi cs b hi) (fun cs b=>Av j oj cs b Aw) hQ hy h1
    have Dq:∀k ok,ops[k]? =some ok→k≠i→(aH.setIfInBounds j true).getD k true=false→
     (∀e∈ok.after,Region.binds md e=true→e.on≠i)→oi.apart ops ok=true:=fun k ok hk fZ IN kO=>by
     refine A0 k ok hk fZ ?_ kO;by_cases Q3:j=k
     · subst Q3; exact Jg
     · rw[getD_set_ne true Q3] at IN; exact IN
    have jQ:=Nk hv hr hu hj;have IQ:j≠z:=fun e=>jQ (by rw[e]; exact List.mem_cons_self)
    have hu':∀m∈ms,(aH.setIfInBounds j true).getD m true=false:=fun m hm=>by
     have Tw:j≠m:=fun e=>jQ (by rw[e]; exact List.mem_cons_of_mem _ hm)
     rw[getD_set_ne true Tw];exact hu m hm
    refine wpOp_mono (fun a' w' h3=>⟨h3.2.1,ih (aH.setIfInBounds j true) a' w' Dq (ready_mono hr (Ne.symm sW)) hu' h3.1 (h3.2.1 IQ) ?_⟩) h2
    rw[Array.setIfInBounds_comm _ _ sW];exact h3.2.2
def QR(md:Region.Mode)(ops:Array Oper)(aH:Array Bool)(ms:List Nat)(z i:Nat):Bool:=
 ((z::ms).all fun m=>match ops[m]? with | none=>false | some om=>om.after.any fun e=>Region.binds md e && (e.on==i || ms.contains e.on)) && ms.all fun m=> !(aH.getD m true)
theorem Hi{aH:Array Bool}{ms:List Nat}{i:Nat}(h:QR md ops aH ms z i=true):YT md ops ms z i∧∀m∈ms,aH.getD m true=false:=by
 unfold QR at h;rw[Bool.and_eq_true,List.all_eq_true,List.all_eq_true] at h;refine⟨fun m hm=>?_,fun m hm=>by simpa using h.2 m hm⟩
 have h1:=h.1 m hm;cases ho:ops[m]? with
 | none=>rw[ho] at h1; cases h1
 | some om=>
  rw[ho] at h1;obtain⟨e,he,hb⟩:=Array.any_eq_true'.1 h1;simp only[Bool.and_eq_true,Bool.or_eq_true,beq_iff_eq,List.contains_iff_mem] at hb;exact⟨om,rfl,e,he,hb.1,hb.2⟩
theorem bJ(ms:List Nat){i:Nat}{oi:Oper}{v:Value}{fuel:Nat}{aH:Array Bool}{a:Act}{w:World}(hi:ops[i]? =some oi)
 (hs:Region.noSelect ops=true) (hf:Region.free md ops aH i=true) (hr:(Region.ready md ops aH).contains i=true) (hw:QR md ops aH ms z i=true)
 (hQ:∀c a w,Q (.panic c) (a.put oi.dst v) w→Q (.panic c) a w) (hy:YieldsIf P ops S oi v a) (hS:S w)
 (h:gf P md ops Q S z fuel (aH.setIfInBounds i true) (a.put oi.dst v) w):gf P md ops Q S z (fuel+1) aH a w:=by
 obtain⟨h1,h2⟩:=Hi hw;exact xw hi (Region.noSelect_spec hs) hQ h1 fuel aH a w (Region.free_spec hi hf) (by simpa using hr) h2 hy hS h
end
end last
end Go.Proofs.YtmibabclefgljaaGreat
