/- CoVs CoRt CoBx Later2 -/
import Derived.Test.YtmibabclefgljaaGreatShbf
import Derived.Test.YtmibabclefgljaaGreatShbc
import Derived.Test.YtmibabclefgljaaGreatShah
set_option linter.unusedVariables false
set_option linter.unusedSimpArgs false
namespace Go.Proofs.YtmibabclefgljaaGreat
namespace cos
open Go Go.RowKit base av aN lay kN
theorem rq{w U:World}{X:Nat}{T:TypeId}{pre post:List Value}{ja la:Option Addr}{jn jc ln lc:Nat}{c:Co}{F F1 F2 FJ FL:List Nat}(hX:au X T pre [.int .i64 c.1,.int .i64 c.2.1,.int .i64 c.2.2.1,.slice ja jn jc,.slice la ln lc,.int .i64 c.2.2.2.2.2] post U)(hJ:kP.own U [.slice ja jn jc] c.2.2.2.1 FJ)(hl:qd.own U [.slice la ln lc] c.2.2.2.2.1 FL)(hF:lay.Frame (X::F) w U)(fo:r9 c)(Cp:∀k∈FJ,k∈F1∨w.heap.size≤k)(Hq:∀k∈FL,k∈F2∨w.heap.size≤k)(Qs:∀k∈FJ,k∉FL)(hXJ:X∉FJ)(hXL:X∉FL)(dL:F=F1++F2):fp w X T pre post F c U:=by
 have aB:=bn.2 ⟨_,_,FJ,FL,rfl,fo,hJ,hl,rfl,bL (kP.bG hJ) (qd.bG hl) Qs⟩;refine⟨ja,jn,jc,la,ln,lc,FJ++FL,⟨hX,aB,fun e=>?_⟩,hF,fun k hk=>?_⟩
 · rcases List.mem_append.1 e with e | e
   · exact hXJ e
   · exact hXL e
 · rw[dL];rcases List.mem_append.1 hk with e | e
   · exact(Cp k e).imp_left fun e=>List.mem_append.2 (.inl e)
   · exact(Hq k e).imp_left fun e=>List.mem_append.2 (.inr e)
theorem qq{W:World}{X:Nat}{T:TypeId}{pre post:List Value}{v0 v1 v2 v3 v5:Value}{la:Option Addr}{ln lc:Nat}{log:List Ch}{ql:dJ}(hX:au X T pre [v0,v1,v2,v3,.slice la ln lc,v5] post W)(hL:bk 87 q_ W (.slice la ln lc) log ql)(iN:X∉(Value.slice la ln lc).ownBlock.toList)(tx:Int)(y:Bool)(Ar:(Lit.int .i64 tx).wf=true)(rU:log.length≤1048576):
 ∃gl aO w6,(Builtin.append_ #[26,26] 26 #[.slice la ln lc,.slice (some ⟨W.heap.size,0,none⟩) 1 1]).run Tryz.prog (W.alloc (.cells #[.int .i64 tx,.bool y] 87))=.ok (.slice (some ⟨gl,0,none⟩) (ln+1) aO) w6∧au X T pre [v0,v1,v2,v3,.slice la ln lc,v5] post w6∧
  au X T pre [v0,v1,v2,v3,.slice (some ⟨gl,0,none⟩) (ln+1) aO,v5] post (w6.setCell ⟨X,pre.length+4,none⟩ (.slice (some ⟨gl,0,none⟩) (ln+1) aO))∧qd.own (w6.setCell ⟨X,pre.length+4,none⟩ (.slice (some ⟨gl,0,none⟩) (ln+1) aO)) [.slice (some ⟨gl,0,none⟩) (ln+1) aO] (log++[(tx,y)]) [gl]∧lay.Frame (X::(Value.slice la ln lc).ownBlock.toList) W (w6.setCell ⟨X,pre.length+4,none⟩ (.slice (some ⟨gl,0,none⟩) (ln+1) aO))∧(gl∈(Value.slice la ln lc).ownBlock.toList∨W.heap.size≤gl)∧gl≠X:=by
 have nj:ln=log.length:=hL.sl.1.symm;obtain⟨V,hV⟩:∃V,W.alloc (.cells #[.int .i64 tx,.bool y] 87)=V:=⟨_,rfl⟩;have mZ:Below W.heap.size W V:=by rw[←hV]; exact aJ
 have Yr:au W.heap.size 87 [] [.int .i64 tx,.bool y] [] V:=by rw[←hV]; exact aE _ _ _
 have hx:q_.own V [.int .i64 tx,.bool y] (tx,y) []:=dH.own.2 ⟨rfl,⟨Ar,trivial⟩,rfl⟩;obtain⟨gl,aO,w6,dh,dT,jF,fl⟩:=bk.zp (P:=Tryz.prog) (z:=.agg #[.int .i64 0,.bool false]) Tryz.underlying26 Km rfl (by decide) (hL.below mZ) hx (fun b hb=>absurd hb List.not_mem_nil) Yr (by unfold maxLen; omega) (by omega) 26
 rw[←nj] at dh dT;rw[hV];have hXW:=hX.lt;have jC:=mZ.size;have hsv:V.heap.size=W.heap.size+1:=by rw[←hV]; simp
 have zu:=(hX.below mZ).grown jF (fun e=>iN (by rw[←e]; simp))
 have BV:gl≠X:=fun e=>by
  rcases fl with e2 | e2
  · exact iN (by rw[←e,e2]; simp)
  · omega
 have hS:=zu.set 4 (by simp) (.slice (some ⟨gl,0,none⟩) (ln+1) aO)
 have eh:=dT.keep fun k hk=>hS.2.block k (dT.at_ k hk) (fun e=>by
  rw[(dH.parts dT).2.2.1,List.append_nil] at hk;have h1:k=gl:=by simpa[Value.ownBlock] using hk
  exact BV (h1 ▸ Option.some.inj e))
 refine⟨gl,aO,w6,dh,zu,hS.1,iw.2 ⟨⟨_,eh⟩,rfl⟩,?_,?_,BV⟩
 · refine((lay.Frame.cu mZ).grown jF (fun k e=>.inl (List.mem_cons_of_mem _ (by rw[e]; simp)))).grown hS.2 (fun k e=>by cases e; exact .inl List.mem_cons_self)
 · rcases fl with e | e
   · exact .inl (by rw[e]; simp)
   · exact .inr (by omega)
theorem zv{w:World}{base ty size:Nat}{v:Value}{n:Nat}{xs:List Value}(h:w.ownsRow base ty size v n xs):w.ownsRow 0 ty size v n xs:=by
 refine⟨h.1,?_⟩;rcases h.2 with h' | ⟨g,cap,cur,e,_,r⟩
 · exact .inl h'
 · exact .inr ⟨g,cap,cur,e,Nat.zero_le _,r⟩
theorem E1:∀ {l:List Int} {a b:Int},tm l→(∀x∈l,a≤x∧x≤b)→(l.length:Int)≤max 0 (b+1 - a):=by
 intro l
 induction l with
 | nil=>intro a b _ _; simp; omega
 | cons x l ih=>
  intro a b h h2;unfold tm at h;rw[List.pairwise_cons] at h;have h3:=h2 x List.mem_cons_self;have:=ih (a:=x+1) (b:=b) h.2 (fun y hy=>⟨by have:=h.1 y hy; omega,(h2 y (List.mem_cons_of_mem _ hy)).2⟩)
  simp only[List.length_cons];omega
theorem E2{n:Int}{ops:List Od}{yes:List Int}(hn:1≤n∧n≤8)(h:dK (aD n ops) none yes=true):yes.length≤8∧tm yes:=by
 obtain⟨h1,h2,_⟩:=xX.1 h;have:=E1 (a:=0) (b:=7) h2 (fun x hx=>by
  obtain⟨o,_,rfl⟩:=(fc n ops x).1 (h1 x hx);have h3:=fj o.2.1 n;have:=h3.2 (by omega)
  omega)
 exact⟨by omega,h2⟩
theorem fp.same{w w':World}{X:Nat}{T:TypeId}{pre post:List Value}{ja la:Option Addr}{jn jc ln lc:Nat}{c:Co}{F:List Nat}(h:iY w X T pre post ja jn jc la ln lc c F)(hb:Below w.heap.size w w'):fp w X T pre post F c w':=⟨ja,jn,jc,la,ln,lc,F,h.below hb,lay.Frame.cu hb,fu.refl _ _⟩
set_option maxRecDepth 100000 in
set_option maxHeartbeats 4000000 in
theorem mQ(X:Nat)(T:TypeId)(pre post:List Value)(ja:Option Addr)(jn jc:Nat)(la:Option Addr)(ln lc:Nat)(c:Co)(F:List Nat)(shard tx:Int)(yes:Bool)(w:World)(h:iY w X T pre post ja jn jc la ln lc c F)(hR:cS c)(Cn:(Lit.int .i64 shard).wf=true)(Ar:(Lit.int .i64 tx).wf=true)(hj8:c.2.2.2.1.length≤1048576):
 Calls Tryz.prog 131 #[.pointer (some ⟨X,pre.length,none⟩),.int .i64 shard,.int .i64 tx,.bool yes] w fun e w'=>e=.returned (.tuple #[])∧fp w X T pre post F (iy c shard tx yes) w':=by
 have H0:=Hid.mk' h;obtain⟨bt,aB,jr⟩:=h;have iN:=bt.lt;obtain⟨vx,vy,F1,F2,e,fo,hj,hl,dL,dW⟩:=bn.1 aB;simp only[List.cons.injEq,and_true,true_and] at e;obtain⟨rfl,rfl⟩:=e;obtain⟨⟨ql,hL⟩,rfl⟩:=iw.1 hl;obtain⟨vj,qj,e,sW,hJ⟩:=hj;simp only[List.cons.injEq,and_true] at e;subst e;have nj:ln=c.2.2.2.2.1.length:=hL.sl.1.symm;have vi:=Hid.mk' bt;have mi:=Hid.mk' (DM c.1 c.2.1 c.2.2.1 c.2.2.2.2.2 ja jn jc la ln lc c.2.2.2.1 tx w hJ.sl);obtain⟨w1,bx⟩:∃w1,w.alloc (kr c.1 c.2.1 c.2.2.1 c.2.2.2.2.2 ja jn jc la ln lc)=w1:=⟨_,rfl⟩;rw[bx] at mi;have aT:Below w.heap.size w w1:=by rw[←bx]; exact aJ
 clear bx;have tg:∀ {k:Nat} (hk:pH c.2.2.2.1 tx=some k),∃gY:k<c.2.2.2.1.length,c.2.2.2.1[k].1=tx:=fun hk=>by
  obtain⟨h1,h2,_⟩:=jK hk;exact⟨h1,of_decide_eq_true h2⟩
 have x_:=tX bt;obtain⟨y0,y1,y2,y3,y4,y5⟩:=x_;cases KT:pH c.2.2.2.1 tx with
 | none=>
  have HE:Hid (iy c shard tx yes=c):=by show _=_; unfold iy l_; rw[KT]
  rw[KT] at mi;have HP:=Hid.mk' (fp.same H0.out aT);clear KT tg bt aB hl hL hJ fo dW sW dL H0 hR vi nj;go_enter Tryz.func131,Tryz.ntmps131;go_wp2_with fail;refine mi.out.mono ?_;rintro e w2 ⟨rfl,rfl⟩;clear mi;unfold idx;clear y0 y1 y2 y3 y4 y5;go_wp2_with fail;first | (refine bodyPost_end (v:=.tuple #[]) ?_ rfl ⟨rfl,by rw[HE.out]; exact HP.out⟩) | (refine bodyPost_ret (v:=.tuple #[]) ?_ rfl ⟨rfl,by rw[HE.out]; exact HP.out⟩)
  simp[results,Tryz.results131,go_sem]
 | some k=>
  obtain⟨hk,vQ⟩:=tg KT;rw[KT] at mi;unfold idx at mi;simp only[] at mi;clear tg;obtain⟨gj,rfl⟩:∃gj,ja=some ⟨gj,0,none⟩:=by
   rcases hJ.shape with⟨e,e2,_⟩ | ⟨g,cap,e,_⟩
   · rw[e2] at hk; simp at hk
   · cases e; exact⟨g,rfl⟩
  have eL:jn=c.2.2.2.1.length:=hJ.nf;have Lm:=hJ.below aT;obtain⟨us,FK,hu,cK,BW, -⟩:=Lm.x6 k hk;obtain⟨oa,ol,oc,ya,yl,yc,rfl⟩:=eS hu;have d2:=cK 2 _ rfl;rw[show k * dU.size+2=k * 4+2 from rfl] at d2
  have Ca:=vi.out.below aT;obtain⟨x0,x1,x2,x3,x4,x5⟩:=tX Ca;have fL:(k:Int)<(jn:Int):=by omega
  have B8:¬(k:Int)<0:=by omega
  by_cases cc:c.2.2.2.1[k].2.2.1=1
  rotate_left
  · have HE:Hid (iy c shard tx yes=c):=by show _=_; unfold iy l_; rw[KT]; simp only[List.getElem?_eq_getElem hk]; rw[if_neg (fun e=>cc e.1)]
    have HP:=Hid.mk' (fp.same H0.out aT);have Ib:(c.2.2.2.1[k].2.2.1 != 1)=true:=bne_iff_ne.2 cc;clear KT bt aB hl hL hJ fo dW sW dL H0 hR vi nj Lm hu cK BW cc x0 x1 x2 x4 x5 Ca vQ;generalize c.2.2.2.1[k].2.2.1=st at *;clear hk eL;go_enter Tryz.func131,Tryz.ntmps131;go_wp2_with fail;refine mi.out.mono ?_;rintro e w2 ⟨rfl,rfl⟩;clear mi y0 y1 y2 y3 y4 y5;go_wp2_with fail;first | (refine bodyPost_end (v:=.tuple #[]) ?_ rfl ⟨rfl,by rw[HE.out]; exact HP.out⟩) | (refine bodyPost_ret (v:=.tuple #[]) ?_ rfl ⟨rfl,by rw[HE.out]; exact HP.out⟩)
    simp[results,Tryz.results131,go_sem]
  have Ib:(c.2.2.2.1[k].2.2.1 != 1)=false:=by rw[cc]; rfl
  by_cases xY:1000≤ln
  · have HE:Hid (iy c shard tx yes=c):=by show _=_; unfold iy l_; rw[KT]; simp only[List.getElem?_eq_getElem hk]; rw[if_neg (fun e=>by have:=e.2.1; omega)]
    have HP:=Hid.mk' (fp.same H0.out aT);have Yi:¬(ln:Int)<1000:=by omega
    have Qt:(1000:Int)≤(ln:Int):=by omega
    clear KT bt aB hl hL hJ fo dW sW dL H0 hR vi nj Lm hu cK BW cc x0 x1 x2 x5 Ca vQ;generalize c.2.2.2.1[k].2.2.1=st at *;clear hk eL;go_enter Tryz.func131,Tryz.ntmps131;go_wp2_with fail;refine mi.out.mono ?_;rintro e w2 ⟨rfl,rfl⟩;clear mi y0 y1 y2 y3 y4 y5;go_wp2_with fail;first | (refine bodyPost_end (v:=.tuple #[]) ?_ rfl ⟨rfl,by rw[HE.out]; exact HP.out⟩) | (refine bodyPost_ret (v:=.tuple #[]) ?_ rfl ⟨rfl,by rw[HE.out]; exact HP.out⟩)
    simp[results,Tryz.results131,go_sem]
  have Yi:(ln:Int)<1000:=by omega
  have Qt:¬(1000:Int)≤(ln:Int):=by omega
  have d1:=cK 1 _ rfl;rw[show k * dU.size+1=k * 4+1 from rfl] at d1
  have za:=hR.jobs _ (List.getElem_mem hk);have J6:=E2 hR.n za.yes;obtain⟨vo,T2,e,k1,k3,yX,E3,Qz,Ec⟩:=dI.1 hu;simp only[List.cons.injEq,and_true,true_and] at e;obtain⟨rfl,rfl⟩:=e;have dE:dD w1 oa ol c.2.2.2.1[k].2.1:=(kJ.1 (kc.eu (ik.2 ⟨yX,rfl⟩))).1;have oL:=dE.1;have MX:=(mb za.ops).2;have Gk:=fo.n;have vN:=Hid.mk' (fun wx (hx:Below w1.heap.size w1 wx)=>ez oa ol oc c.2.2.2.1[k].2.1 c.1 wx (dE.below hx) (by omega) Gk)
  have HFU:=Hid.mk' xY;have HTX:=Hid.mk' vQ;have gW:=Hid.mk' cc;have HJF:=Hid.mk' za;have Vm:=Hid.mk' J6;have HJ:=Hid.mk' hJ;have HL:=Hid.mk' hL;have TO:=Hid.mk' dW;have Bx:=Hid.mk' fo;have oQ:=Hid.mk' nj;have HJL:=Hid.mk' eL;have EI:=Hid.mk' sW;have BJ:=Hid.mk' dL;have QA:=Hid.mk' KT;have kh:=a7.dv aB;have TQ:(aD c.1 c.2.2.2.1[k].2.1).length≤8:=ko _ _ MX;clear xY vQ cc za J6 hJ hL hl dW fo nj eL sW dL KT aB bt hR hu cK yX E3 Qz Ec dE oL MX Lm BW;obtain⟨sh,Yv⟩:∃sh,aD c.1 c.2.2.2.1[k].2.1=sh:=⟨_,rfl⟩;have zS:=Hid.mk' Yv;rw[Yv] at vN TQ;clear Yv;go_enter Tryz.func131,Tryz.ntmps131;go_wp2_with fail;refine mi.out.mono ?_;rintro e w2 ⟨rfl,rfl⟩;clear mi y0 y1 y2 y3 y4 y5;go_wp2_with fail;have eJ:Below w2.heap.size w2 w2.drew:=(Below.refl _ _).drew
  have Ca:=vi.out.below aT;have se:=HJ.out.below aT;refine last.aq (S:=fun w'=>Below w2.heap.size w2 w') 9 (by kernel_rfl) eJ (fun af=>?_)
  generalize hD:w2.drew=D at *;clear hD;refine last.wpTk 0 (.pointer (some ⟨gj,k * 4,none⟩)) rfl rfl ?_ ?_
  · intro wq ar; go_simp
  try simp only[Act.put,zP,zQ,zR]
  refine last.wpTk 1 (.pointer (some ⟨gj,k * 4,none⟩)) rfl rfl ?_ ?_
  · intro wq ar; go_simp
  try simp only[Act.put,zP,zQ,zR]
  refine last.wpTk 2 (.pointer (some ⟨gj,k * 4+1,none⟩)) rfl rfl ?_ ?_
  · intro wq ar; go_simp
  try simp only[Act.put,zP,zQ,zR]
  refine last.wpTk 3 (.slice oa ol oc) rfl rfl ?_ ?_
  · intro wq ar; have m5:gj<w2.heap.size:=se.Rg gj List.mem_cons_self; have q:=(ar.cell (p:=⟨gj,k * 4+1,none⟩) m5).trans d1; go_simp
  try simp only[Act.put,zP,zQ,zR]
  refine last.wpTk 4 (.pointer (some ⟨X,pre.length,none⟩)) rfl rfl ?_ ?_
  · intro wq ar; go_simp
  try simp only[Act.put,zP,zQ,zR]
  refine last.wpTk 5 (.pointer (some ⟨X,pre.length,none⟩)) rfl rfl ?_ ?_
  · intro wq ar; go_simp
  try simp only[Act.put,zP,zQ,zR]
  refine last.wpTk 6 (.pointer (some ⟨X,pre.length,none⟩)) rfl rfl ?_ ?_
  · intro wq ar; go_simp
  try simp only[Act.put,zP,zQ,zR]
  refine last.wpTk 7 (.int .i64 c.1) rfl rfl ?_ ?_
  · intro wq ar; have q:=(tX (Ca.below ar)).1; go_simp
  try simp only[Act.put,zP,zQ,zR]
  refine last.an (i:=8) (o:={dst:=some 51,op:=Op.call {callee:=Callee.value (Operand.func 101),args:=#[Operand.tmp 46,Operand.tmp 50],argTypes:=#[73,3]},type:=54,pos:= "l11_coord.go:118",after:=#[{on:=3,ground:=Ground.data},{on:=7,ground:=Ground.data}],guard:=none}) (by kernel_rfl) rfl (fun K hK=>?_)
  refine fV.call2 rfl 101 (.tmp 46) (.tmp 50) _ rfl (fun _ _=>rfl) (.slice oa ol oc) (.int .i64 c.1) (by kernel_rfl) (by kernel_rfl) _ (vN.out _ eJ) ?_
  rintro e w3 ⟨gs,ns,cs,rfl,hZ,rY⟩;refine⟨_,rfl,?_⟩;have dt:=eJ.trans (rY.mono eJ.size);refine hK.out _ _ ?_ (fun ag=>?_)
  · exact dt
  clear hK K af;have af:=ag;clear ag;try simp only[Act.put,zP,zQ,zR]
  refine last.aC (o:={dst:=some 10,op:=Op.assign (Operand.tmp 51),type:=54,pos:= "l11_coord.go:118",after:=#[{on:=8,ground:=Ground.data},{on:=8,ground:=Ground.chain},{on:=0,ground:=Ground.phase},{on:=1,ground:=Ground.phase},{on:=2,ground:=Ground.phase},{on:=3,ground:=Ground.phase},{on:=4,ground:=Ground.phase},{on:=5,ground:=Ground.phase},{on:=6,ground:=Ground.phase},{on:=7,ground:=Ground.phase},{on:=8,ground:=Ground.phase}],guard:=none}) (by kernel_rfl) rfl (by kernel_rfl) (fun K hK=>?_)
  go_simp;refine hK.out _ _ ?_;clear hK K;clear af d1 d2 x0 x1 x2 x3 x4 x5 vN;have cJ:=aT.trans (dt.mono aT.size);have Yw:=hZ.1;have nl:=Hid.mk' (cI (some ⟨gs,0,none⟩) ns cs sh shard w3 hZ.sl);by_cases gZ:shard∈sh
  rotate_left
  · rw[decide_eq_false gZ] at nl;have HE:Hid (iy c shard tx yes=c):=by
     show _=_;unfold iy l_;rw[QA.out];simp only[List.getElem?_eq_getElem hk];rw[if_neg (fun e=>gZ (by rw[←zS.out]; exact e.2.2))]
    have HP:=Hid.mk' (fp.same H0.out cJ);clear gZ H0 Ca se hZ;go_wp2_with fail;refine nl.out.mono ?_;rintro e w4 ⟨rfl,rfl⟩;clear nl;go_wp2_with fail;first | (refine bodyPost_end (v:=.tuple #[]) ?_ rfl ⟨rfl,by rw[HE.out]; exact HP.out⟩) | (refine bodyPost_ret (v:=.tuple #[]) ?_ rfl ⟨rfl,by rw[HE.out]; exact HP.out⟩)
    simp[results,Tryz.results131,go_sem]
  rw[decide_eq_true gZ] at nl;have xY:=HFU.out;have KU:Hid (∀y,iy c shard tx y=oy c k c.2.2.2.1[k] shard y):=fun y=>by
   have hv:l_ c shard tx=some k:=by
    unfold l_;rw[QA.out];simp only[List.getElem?_eq_getElem hk];rw[if_pos ⟨gW.out,by have:=oQ.out; omega,by rw[zS.out]; exact gZ⟩]
   exact vC hv hk
  clear gZ xY H0 HFU QA;have HQ:=HJ.out.below cJ;have L0:=HL.out.below cJ;have T3:=vi.out.below cJ;have TX:lay.Frame (X::F) w w3:=lay.Frame.cu cJ;have w_:gj∈F1:=by rw[EI.out]; exact List.mem_append.2 (.inl (by simp[Value.ownBlock]))
  have M6:gj∈F:=by rw[BJ.out]; exact List.mem_append.2 (.inl w_)
  have KV:∀b∈al qj,b∈F1:=fun b hb=>by rw[EI.out]; exact List.mem_append.2 (.inr hb)
  have T4:gj≠X:=fun e=>jr (e ▸ M6)
  have KW:X∉(Value.slice la ln lc).ownBlock.toList:=fun e=>jr (by rw[BJ.out]; exact List.mem_append.2 (.inr e))
  have BX:∀b∈F1,b∉(Value.slice la ln lc).ownBlock.toList:=fun b hb=>by
   have h3:=TO.out;rw[BJ.out] at h3;exact(aR h3).2.2 b hb
  have M2:∀b∈(Value.slice la ln lc).ownBlock.toList,b<w.heap.size:=fun b hb=>kh b (by rw[BJ.out]; exact List.mem_append.2 (.inr hb))
  have hB3s:=cJ.size;have N3:c.2.2.2.2.1.length≤1048576:=by have:=oQ.out; omega
  cases yes
  · have hV:=KU.out false;obtain⟨us,FK,hu,cK,BW,M7⟩:=HQ.x6 k hk;obtain⟨oa3,ol3,Y2,QB,QC,QD,rfl⟩:=eS hu;have d2:=cK 2 _ rfl;have f2:=HQ.frozen (k * 4+2);obtain⟨q4,rh,Nc,zC, -⟩:=M7 2 (.int .i64 3) (c.2.2.2.1[k].1,c.2.2.2.1[k].2.1,3,c.2.2.2.1[k].2.2.2) FK (by decide) (by
     obtain⟨v1,v2,e,k1,k3,h1,h2,h3,h4⟩:=dI.1 hu;exact dI.2 ⟨_,_,by rw[e]; rfl,k1,(by decide:(Lit.int .i64 3).wf=true),h1,h2,h3,h4⟩) (fun b hb=>.inl hb)
    rw[show k * dU.size+2=k * 4+2 from rfl] at rh zC d2
    obtain⟨W4,Jx⟩:∃W4,w3.setCell ⟨gj,k * 4+2,none⟩ (.int .i64 3)=W4:=⟨_,rfl⟩;rw[Jx] at rh zC;have Lv:=T3.grown zC (fun e=>T4 (Option.some.inj e).symm)
    have lu:=L0.keep fun b hb=>zC.block b (L0.at_ b hb) (fun e=>by
     rw[(dH.parts HL.out).2.2.1,List.append_nil] at hb;exact BX gj w_ (Option.some.inj e ▸ hb))
    have yZ:lay.Frame (X::F) w W4:=TX.grown zC (fun b e=>by cases e; exact .inl (List.mem_cons_of_mem _ M6))
    have oT:∀b∈gj::al q4,(b∈F1∨w.heap.size≤b)∧b≠X:=fun b hb=>by
     have aT:b∈F1:=by
      rcases List.mem_cons.1 hb with e | e
      · rw[e]; exact w_
      · rcases Nc b e with e2 | e2
        · exact KV b e2
        · exact KV b (BW b e2)
     exact⟨.inl aT,fun e=>jr (by rw[BJ.out,←e]; exact List.mem_append.2 (.inl aT))⟩
    obtain⟨gl,cW,w6,dh,zu,GX,H4,wJ,m5,BV⟩:=qq Lv lu KW tx false Ar N3;obtain⟨U,hU⟩:∃U,w6.setCell ⟨X,pre.length+4,none⟩ (.slice (some ⟨gl,0,none⟩) (ln+1) cW)=U:=⟨_,rfl⟩;rw[hU] at GX H4 wJ;have x4:=zu.cell 4 _ rfl;have f4:=zu.fz (pre.length+4);have BY:=rh.keep fun b hb=>wJ.block b (rh.at_ b hb) (fun e=>by
     have h1:=oT b (by simpa[Value.ownBlock] using hb)
     rcases List.mem_cons.1 e with e | e
     · exact h1.2 e
     · rcases h1.1 with h2 | h2
       · exact BX b h2 e
       · have:=M2 b e; omega)
    have T5:lay.Frame (X::F) w U:=yZ.trans wJ (fun b hb=>by
     rcases List.mem_cons.1 hb with e | e
     · exact .inl (by rw[e]; exact List.mem_cons_self)
     · exact .inl (List.mem_cons_of_mem _ (by rw[BJ.out]; exact List.mem_append.2 (.inr e))))
    have Vk:w.heap.size≤W4.heap.size:=yZ.size;have HP:Hid (fp w X T pre post F (c.1,c.2.1,c.2.2.1,c.2.2.2.1.set k (c.2.2.2.1[k].1,c.2.2.2.1[k].2.1,3,c.2.2.2.1[k].2.2.2),c.2.2.2.2.1++[(tx,false)],c.2.2.2.2.2) U):=rq (c:=(c.1,c.2.1,c.2.2.1,c.2.2.2.1.set k (c.2.2.2.1[k].1,c.2.2.2.1[k].2.1,3,c.2.2.2.1[k].2.2.2),c.2.2.2.2.1++[(tx,false)],c.2.2.2.2.2)) (F1:=F1) (F2:=(Value.slice la ln lc).ownBlock.toList) GX ⟨_,_,rfl,rfl,BY⟩ H4 T5 ⟨Bx.out.n,Bx.out.ak,Bx.out.next,Bx.out.sure⟩ (fun b hb=>(oT b (by simpa[Value.ownBlock] using hb)).1) (fun b hb=>by
     rw[List.mem_singleton] at hb;subst hb;exact m5.imp_right (fun e=>by omega)) (fun b hb aU=>by
     rw[List.mem_singleton] at aU;subst aU;have h1:=oT b (by simpa[Value.ownBlock] using hb)
     rcases m5 with e | e
     · rcases h1.1 with h2 | h2
       · exact BX b h2 e
       · have:=M2 b e; omega
     · have:=rh.at_ b hb; omega) (fun e=>(oT X (by simpa[Value.ownBlock] using e)).2 rfl) (fun e=>by
     rw[List.mem_singleton] at e;exact BV e.symm) BJ.out
    have HU:=Hid.mk' hU;clear hU GX H4 wJ BY T5;have HE:Hid (iy c shard tx false=(c.1,c.2.1,c.2.2.1,c.2.2.2.1.set k (c.2.2.2.1[k].1,c.2.2.2.1[k].2.1,3,c.2.2.2.1[k].2.2.2),c.2.2.2.2.1++[(tx,false)],c.2.2.2.2.2)):=by
     show _=_;rw[hV];unfold oy ll;simp only[Bool.false_eq_true,if_false];rw[show m9 c.2.2.2.2.1 c.2.2.2.1[k].1 (some false)=c.2.2.2.2.1++[(c.2.2.2.1[k].1,false)] from rfl,HTX.out]
    have KX:W4.heap.size=w3.heap.size:=by rw[←Jx]; simp
    rw[KX] at dh;clear KX;have rz:=Hid.mk' Jx;have a4:=Lv.cell 4 _ rfl;rw[←Jx] at a4;clear hV KU hu cK BW M7 rh zC Lv lu yZ oT Jx zu HQ L0 T3 se Ca hZ;go_wp2_with fail;refine nl.out.mono ?_;rintro e w9 ⟨rfl,QE⟩;replace QE:=QE.symm;subst QE;clear nl;go_wp2_with (at_builtin; rw[rz.out]; refine fA rfl _ _ 26 rfl (by kernel_rfl) (by kernel_rfl) dh ?_)
    go_wp2_with fail;rw[HU.out];first | (refine bodyPost_end (v:=.tuple #[]) ?_ rfl ⟨rfl,by rw[HE.out]; exact HP.out⟩) | (refine bodyPost_ret (v:=.tuple #[]) ?_ rfl ⟨rfl,by rw[HE.out]; exact HP.out⟩)
    simp[results,Tryz.results131,go_sem]
  · have hV:=KU.out true;obtain⟨us,FK,hu,cK,BW, -⟩:=HQ.x6 k hk;obtain⟨oa3,ol3,Y2,QB,QC,QD,rfl⟩:=eS hu;have d3:=cK 3 _ rfl;rw[show k * dU.size+3=k * 4+3 from rfl] at d3
    obtain⟨vo,T2,e,k1,k3,yX,E3,Qz,Ec⟩:=dI.1 hu;simp only[List.cons.injEq,and_true,true_and] at e;obtain⟨rfl,rfl⟩:=e;have QF:=(q9.1 (pB.eu (l7.2 ⟨E3,rfl⟩)));have MF:=Vm.out.1;have hyll:=QF.1.1.1;have Yx:=Hid.mk' d3;have T6:Hid (Calls Tryz.prog 143 #[.slice QB QC QD,.int .i64 shard] w3 fun e w'=>∃ra rn rc FR,e=.returned (.slice ra rn rc)∧s6 w' (.slice ra rn rc) (eV c.2.2.2.1[k].2.2.2 shard)∧FR=(Value.slice ra rn rc).ownBlock.toList∧(∀b∈FR,b∈(Value.slice QB QC QD).ownBlock.toList∨w3.heap.size≤b)∧Below w3.heap.size w3 w'):=by
     by_cases gZ:shard∈c.2.2.2.1[k].2.2.2
     · refine(Eb QB QC QD c.2.2.2.1[k].2.2.2 shard w3 QF.1.1 gZ).mono ?_;rintro e w' ⟨rfl,rfl⟩;refine⟨QB,QC,QD,_,rfl,?_,rfl,fun b hb=>.inl hb,Below.refl _ _⟩
       rw[show eV c.2.2.2.1[k].2.2.2 shard=c.2.2.2.1[k].2.2.2 from if_pos gZ]
       exact E3
     · refine(BU QB QC QD c.2.2.2.1[k].2.2.2 shard w3 QF.1.1 gZ QF.1.2 QF.2 Vm.out.2 (by omega)).mono ?_
       rintro e w' ⟨g',n',aO,rfl,hO,hb⟩;refine⟨_,n',aO,_,rfl,⟨fun z hz=>?_,?_⟩,rfl,fun b aU=>?_,hb⟩
       · rcases(ub _ _ z).1 hz with e | e
         · exact QF.1.2 z e
         · rw[e]; exact Cn
       · rw[hO.1]; exact zv hO.2
       · have e:b=g':=by simpa[Value.ownBlock] using aU
         rw[e];exact .inr hO.lt.1
    clear hu cK BW yX E3 Qz Ec QF;go_wp2_with fail;refine nl.out.mono ?_;rintro e w9 ⟨rfl,QE⟩;replace QE:=QE.symm;subst QE;clear nl;go_wp2_with fail;refine T6.out.mono ?_;rintro e W4 ⟨ra,rn,rc,FR,rfl,T7,Hs,T8,eD⟩;clear T6 d3;have rh:=HQ.below eD;have lu:=L0.below eD;have Yy:=T3.below eD;have yZ:=TX.below eD;have Yz:=eD.size;have hrn:rn=(eV c.2.2.2.1[k].2.2.2 shard).length:=by
     rcases T7.2.2 with⟨e,e2⟩ | ⟨g',c',cur,e,_⟩
     · cases e; omega
     · cases e; rfl
    obtain⟨us,FK,hu,cK,BW,M7⟩:=rh.x6 k hk;obtain⟨YA,YB,Ei,ya4,yl4,yc4,rfl⟩:=eS hu;have d3:=cK 3 _ rfl;have f3:=rh.frozen (k * 4+3);rw[show k * dU.size+3=k * 4+3 from rfl] at d3
    have Gi:gj<w3.heap.size:=HQ.Rg gj List.mem_cons_self;have js:Value.slice ya4 yl4 yc4=Value.slice QB QC QD:=by
     have h1:=(eD.cell (p:=⟨gj,k * 4+3,none⟩) Gi).trans Yx.out;rw[d3] at h1;exact Option.some.inj h1
    obtain⟨vo,T2,e,k1,k3,yX,E3,Qz,Ec⟩:=dI.1 hu;simp only[List.cons.injEq,and_true,true_and] at e;obtain⟨rfl,rfl⟩:=e;have T9:∀b∈FR,b∈FK∨w3.heap.size≤b:=fun b hb=>(T8 b hb).imp_left fun e=>by rw[Qz]; exact List.mem_append.2 (.inr (by rw[js]; exact e))
    have QG:∀b∈(Value.slice YA YB Ei).ownBlock.toList,b∈FK:=fun b hb=>by rw[Qz]; exact List.mem_append.2 (.inl hb)
    have Ia:∀b∈gj::al qj,b<w3.heap.size:=fun b hb=>HQ.Rg b hb
    have YC:=pB.bG (l7.2 ⟨T7,Hs⟩);have DK:dU.own W4 [.int .i64 c.2.2.2.1[k].1,.slice YA YB Ei,.int .i64 c.2.2.2.1[k].2.2.1,.slice ra rn rc] (c.2.2.2.1[k].1,c.2.2.2.1[k].2.1,c.2.2.2.1[k].2.2.1,eV c.2.2.2.1[k].2.2.2 shard) ((Value.slice YA YB Ei).ownBlock.toList++FR):=by
     refine dI.2 ⟨_,_,rfl,k1,k3,yX,T7,by rw[Hs],?_⟩
     rw[Qz] at Ec;refine bL (aR Ec).1 YC fun b hb aU=>?_
     rcases T8 b aU with e | e
     · exact(aR Ec).2.2 b hb (by rw[js]; exact e)
     · have:=Ia b (List.mem_cons_of_mem _ (BW b (QG b hb))); omega
    obtain⟨q5,vT,YD,g_,je⟩:=M7 3 (.slice ra rn rc) _ _ (by decide) DK (fun b hb=>by
     rcases List.mem_append.1 hb with e | e
     · exact .inl (QG b e)
     · exact(T9 b e).imp_right fun e2 hm=>by have:=Ia b hm; omega)
    have e3:=je 3 _ rfl;have e2:=je 2 _ rfl;rw[show k * dU.size+3=k * 4+3 from rfl] at vT g_ e3 e2
    rw[show k * dU.size+2=k * 4+2 from rfl] at e2
    obtain⟨W5,NV⟩:∃W5,W4.setCell ⟨gj,k * 4+3,none⟩ (.slice ra rn rc)=W5:=⟨_,rfl⟩;rw[NV] at vT g_;have Pg:=Yy.grown g_ (fun e=>T4 (Option.some.inj e).symm)
    have Hx:=lu.keep fun b hb=>g_.block b (lu.at_ b hb) (fun e=>by
     rw[(dH.parts HL.out).2.2.1,List.append_nil] at hb;exact BX gj w_ (Option.some.inj e ▸ hb))
    have vW:lay.Frame (X::F) w W5:=yZ.grown g_ (fun b e=>by cases e; exact .inl (List.mem_cons_of_mem _ M6))
    have YE:∀b∈F1,b≠X:=fun b hb e=>jr (by rw[BJ.out,←e]; exact List.mem_append.2 (.inl hb))
    have BZ:∀b∈gj::al q5,(b∈F1∨w.heap.size≤b)∧b≠X:=fun b hb=>by
     have aT:b∈F1∨w.heap.size≤b:=by
      rcases List.mem_cons.1 hb with e | e
      · rw[e]; exact .inl w_
      · rcases YD b e with e2 | e2
        · exact .inl (KV b e2)
        · rcases List.mem_append.1 e2 with e4 | e4
          · exact .inl (KV b (BW b (QG b e4)))
          · rcases T9 b e4 with e6 | e6
            · exact .inl (KV b (BW b e6))
            · exact .inr (by omega)
     refine⟨aT,fun e=>?_⟩
     rcases aT with e2 | e2
     · exact YE b e2 e
     · omega
    have Vn:=Hid.mk' NV;have hst1:=gW.out;by_cases iD:rn=ns
    · have hqe:((rn:Int)==(ns:Int))=true:=by rw[iD]; simp
      obtain⟨us5,FK5,Vo,YF,T_,Ua⟩:=vT.x6 k (by simpa using hk)
      rw[Qy hk] at Vo;obtain⟨oa5,ol5,oc5,ya5,yl5,yc5,rfl⟩:=eS Vo;have f2:=vT.frozen (k * 4+2);obtain⟨q6,tW,Jm,du, -⟩:=Ua 2 (.int .i64 2) (c.2.2.2.1[k].1,c.2.2.2.1[k].2.1,2,eV c.2.2.2.1[k].2.2.2 shard) FK5 (by decide) (by
       obtain⟨v1,v2,e,k1,k3,h1,h2,h3,h4⟩:=dI.1 Vo;exact dI.2 ⟨_,_,by rw[e]; rfl,k1,(by decide:(Lit.int .i64 2).wf=true),h1,h2,h3,h4⟩) (fun b hb=>.inl hb)
      rw[show k * dU.size+2=k * 4+2 from rfl] at tW du
      rw[List.set_set] at tW;obtain⟨W6,Ub⟩:∃W6,W5.setCell ⟨gj,k * 4+2,none⟩ (.int .i64 2)=W6:=⟨_,rfl⟩;rw[Ub] at tW du;have QH:=Pg.grown du (fun e=>T4 (Option.some.inj e).symm)
      have Rf:=Hx.keep fun b hb=>du.block b (Hx.at_ b hb) (fun e=>by
       rw[(dH.parts HL.out).2.2.1,List.append_nil] at hb;exact BX gj w_ (Option.some.inj e ▸ hb))
      have Ru:lay.Frame (X::F) w W6:=vW.grown du (fun b e=>by cases e; exact .inl (List.mem_cons_of_mem _ M6))
      have KY:∀b∈gj::al q6,(b∈F1∨w.heap.size≤b)∧b≠X:=fun b hb=>by
       rcases List.mem_cons.1 hb with e | e
       · exact BZ b (by rw[e]; exact List.mem_cons_self)
       · rcases Jm b e with e2 | e2
         · exact BZ b (List.mem_cons_of_mem _ e2)
         · exact BZ b (List.mem_cons_of_mem _ (T_ b e2))
      obtain⟨gl,cW,w6,dh,zu,GX,H4,wJ,m5,BV⟩:=qq QH Rf KW tx true Ar N3;obtain⟨U,hU⟩:∃U,w6.setCell ⟨X,pre.length+4,none⟩ (.slice (some ⟨gl,0,none⟩) (ln+1) cW)=U:=⟨_,rfl⟩;rw[hU] at GX H4 wJ;have x4:=zu.cell 4 _ rfl;have f4:=zu.fz (pre.length+4);have BY:=tW.keep fun b hb=>wJ.block b (tW.at_ b hb) (fun e=>by
       have h1:=KY b (by simpa[Value.ownBlock] using hb)
       rcases List.mem_cons.1 e with e | e
       · exact h1.2 e
       · rcases h1.1 with h2 | h2
         · exact BX b h2 e
         · have:=M2 b e; omega)
      have T5:lay.Frame (X::F) w U:=Ru.trans wJ (fun b hb=>by
       rcases List.mem_cons.1 hb with e | e
       · exact .inl (by rw[e]; exact List.mem_cons_self)
       · exact .inl (List.mem_cons_of_mem _ (by rw[BJ.out]; exact List.mem_append.2 (.inr e))))
      have Vk:w.heap.size≤W6.heap.size:=Ru.size;have HP:Hid (fp w X T pre post F (c.1,c.2.1,c.2.2.1,c.2.2.2.1.set k (c.2.2.2.1[k].1,c.2.2.2.1[k].2.1,2,eV c.2.2.2.1[k].2.2.2 shard),c.2.2.2.2.1++[(tx,true)],c.2.2.2.2.2) U):=rq (c:=(c.1,c.2.1,c.2.2.1,c.2.2.2.1.set k (c.2.2.2.1[k].1,c.2.2.2.1[k].2.1,2,eV c.2.2.2.1[k].2.2.2 shard),c.2.2.2.2.1++[(tx,true)],c.2.2.2.2.2)) (F1:=F1) (F2:=(Value.slice la ln lc).ownBlock.toList) GX ⟨_,_,rfl,rfl,BY⟩ H4 T5 ⟨Bx.out.n,Bx.out.ak,Bx.out.next,Bx.out.sure⟩ (fun b hb=>(KY b (by simpa[Value.ownBlock] using hb)).1) (fun b hb=>by
       rw[List.mem_singleton] at hb;subst hb;exact m5.imp_right (fun e=>by omega)) (fun b hb aU=>by
       rw[List.mem_singleton] at aU;subst aU;have h1:=KY b (by simpa[Value.ownBlock] using hb)
       rcases m5 with e | e
       · rcases h1.1 with h2 | h2
         · exact BX b h2 e
         · have:=M2 b e; omega
       · have:=tW.at_ b hb; omega) (fun e=>(KY X (by simpa[Value.ownBlock] using e)).2 rfl) (fun e=>by
       rw[List.mem_singleton] at e;exact BV e.symm) BJ.out
      have HU:=Hid.mk' hU;clear hU GX H4 wJ BY T5;have HE:Hid (iy c shard tx true=(c.1,c.2.1,c.2.2.1,c.2.2.2.1.set k (c.2.2.2.1[k].1,c.2.2.2.1[k].2.1,2,eV c.2.2.2.1[k].2.2.2 shard),c.2.2.2.2.1++[(tx,true)],c.2.2.2.2.2)):=by
       show _=_;rw[hV];unfold oy ll;rw[zS.out,if_pos rfl,if_pos (by omega)]
       simp only[];rw[show m9 c.2.2.2.2.1 c.2.2.2.1[k].1 (some true)=c.2.2.2.2.1++[(c.2.2.2.1[k].1,true)] from rfl,HTX.out]
      have a4:=QH.cell 4 _ rfl;rw[←Ub] at a4;rw[←Vn.out] at a4 f2;have KX:W6.heap.size=W4.heap.size:=by rw[←Ub,←Vn.out]; simp
      rw[KX] at dh;clear KX;have HW6:=Hid.mk' Ub;clear hV KU hu cK BW M7 rh g_ Pg Hx vW BZ vT HQ L0 T3 se Ca hZ lu Yy yZ je Vo YF T_ Ua tW du QH Rf Ru KY NV Ub zu T7 DK yX E3 iD hrn YD Jm Yx zS Vm;generalize c.2.2.2.1[k].2.2.1=st at *;go_wp2_with (at_builtin; rw[Vn.out,HW6.out]; refine fA rfl _ _ 26 rfl (by kernel_rfl) (by kernel_rfl) dh ?_)
      go_wp2_with fail;rw[HU.out];first | (refine bodyPost_end (v:=.tuple #[]) ?_ rfl ⟨rfl,by rw[HE.out]; exact HP.out⟩) | (refine bodyPost_ret (v:=.tuple #[]) ?_ rfl ⟨rfl,by rw[HE.out]; exact HP.out⟩)
      simp[results,Tryz.results131,go_sem]
    · have hqe:((rn:Int)==(ns:Int))=false:=beq_eq_false_iff_ne.2 (by omega)
      have HP:Hid (fp w X T pre post F (c.1,c.2.1,c.2.2.1,c.2.2.2.1.set k (c.2.2.2.1[k].1,c.2.2.2.1[k].2.1,c.2.2.2.1[k].2.2.1,eV c.2.2.2.1[k].2.2.2 shard),c.2.2.2.2.1,c.2.2.2.2.2) W5):=rq (c:=(c.1,c.2.1,c.2.2.1,c.2.2.2.1.set k (c.2.2.2.1[k].1,c.2.2.2.1[k].2.1,c.2.2.2.1[k].2.2.1,eV c.2.2.2.1[k].2.2.2 shard),c.2.2.2.2.1,c.2.2.2.2.2)) (F1:=F1) (F2:=(Value.slice la ln lc).ownBlock.toList) Pg ⟨_,_,rfl,rfl,vT⟩ (iw.2 ⟨⟨_,Hx⟩,rfl⟩) vW ⟨Bx.out.n,Bx.out.ak,Bx.out.next,Bx.out.sure⟩ (fun b hb=>(BZ b (by simpa[Value.ownBlock] using hb)).1) (fun b hb=>.inl hb) (fun b hb aU=>by
       rcases(BZ b (by simpa[Value.ownBlock] using hb)).1 with e | e
       · exact BX b e aU
       · have:=M2 b aU; omega) (fun e=>(BZ X (by simpa[Value.ownBlock] using e)).2 rfl) KW BJ.out
      have HE:Hid (iy c shard tx true=(c.1,c.2.1,c.2.2.1,c.2.2.2.1.set k (c.2.2.2.1[k].1,c.2.2.2.1[k].2.1,c.2.2.2.1[k].2.2.1,eV c.2.2.2.1[k].2.2.2 shard),c.2.2.2.2.1,c.2.2.2.2.2)):=by
       show _=_;rw[hV];unfold oy ll;rw[zS.out,if_pos rfl,if_neg (by omega)]
       rfl
      clear hV KU hu cK BW M7 rh g_ Pg Hx vW BZ vT HQ L0 T3 se Ca hZ lu Yy yZ je NV T7 DK yX E3 iD hrn YD Yx zS Vm;go_wp2_with fail;rw[Vn.out];first | (refine bodyPost_end (v:=.tuple #[]) ?_ rfl ⟨rfl,by rw[HE.out]; exact HP.out⟩) | (refine bodyPost_ret (v:=.tuple #[]) ?_ rfl ⟨rfl,by rw[HE.out]; exact HP.out⟩)
      simp[results,Tryz.results131,go_sem]
end cos
namespace cos
open Go Go.RowKit base av aN lay kN
theorem KZ:∀ {l:List Int} {a b:Int},l.Pairwise (· < ·)→(∀x∈l,a≤x∧x≤b)→(l.length:Int)≤max 0 (b+1 - a):=fun h h2=>E1 h h2
theorem cS.kS{c:Co}(h:cS c):c.2.2.2.1.length≤999:=by
 have:=KZ (a:=c.2.1 * 1000) (b:=c.2.1 * 1000+c.2.2.1 - 1) h.GR (fun x hx=>by
  obtain⟨j,hj,rfl⟩:=List.mem_map.1 hx;exact⟨(h.jobs j hj).lo,(h.jobs j hj).hi⟩)
 have:=h.next;rw[List.length_map] at *;omega
theorem Ed:∀(l:List Od),(∀p∈l,dF p=true)→rS l≤33 * l.length:=by
 intro l;unfold rS
 induction l with
 | nil=>intro _; simp
 | cons p l ih=>
  intro h;have h1:=ih fun x hx=>h x (List.mem_cons_of_mem _ hx)
  have h2:=(jT p).1 (h p List.mem_cons_self);have h3:p.2.1.size≤13:=by
   have:=h2.2.2.1;unfold gD at this;simp only[Bool.and_eq_true,decide_eq_true_eq] at this;omega
  simp only[List.map_cons,List.sum_cons,List.length_cons];unfold UO at *;omega
theorem rm.size{n ak next:Int}{log:List Ch}{j:Jb}(h:rm n ak next log j)(hn:1≤n∧n≤8):Kh j≤280:=by
 have h1:=(bq _).1 h.ops;have h2:=Ed j.2.1 h1.1.1;have h3:=(E2 hn h.yes).1;unfold Kh;omega
theorem Ee:∀(l:List Jb) (m:Nat),(∀j∈l,Kh j≤m)→pq l≤m * l.length:=by
 intro l m;unfold pq
 induction l with
 | nil=>intro _; simp
 | cons j l ih=>
  intro h;have h1:=ih fun x hx=>h x (List.mem_cons_of_mem _ hx)
  have h2:=h j List.mem_cons_self;simp only[List.map_cons,List.sum_cons,List.length_cons,Nat.mul_add];omega
theorem cS.size{c:Co}(h:cS c):EW c≤300000:=by
 have h1:=h.kS;have h2:=h.jB;have h3:=Ee c.2.2.2.1 280 (fun j hj=>(h.jobs j hj).size h.n)
 have h4:280 * c.2.2.2.1.length≤280 * 999:=Nat.mul_le_mul_left _ h1;unfold EW;omega
theorem r6{n:Int}(h:1≤n∧n≤8):cS (n,1,0,[],[],0):=
 ⟨h,⟨(by decide:(1:Int)≤1),(by decide:(1:Int)≤900)⟩,⟨(by decide:(0:Int)≤0),(by decide:(0:Int)≤999)⟩,Nat.zero_le _,⟨(by decide:(0:Int)≤0),(by decide:(0:Int)≤0)⟩,fun x hx=>absurd hx List.not_mem_nil,List.nodup_nil,fun x hx=>absurd hx List.not_mem_nil,List.Pairwise.nil⟩
theorem jR{c:Co}(h:cS c):cS (c.1,c.2.1,c.2.2.1,c.2.2.2.1,c.2.2.2.2.1,(c.2.2.2.2.1.length:Int)):=
 ⟨h.n,h.ak,h.next,h.jB,⟨by show(0:Int)≤(c.2.2.2.2.1.length:Int); omega,Int.le_refl _⟩,h.range,h.nodup,h.jobs,h.GR⟩
theorem nQ{c:Co}(h:cS c)(keep:Int):cS (eQ c keep):=by
 unfold eQ
 split
 · exact h
 · rename_i h9
   have hl:=h.ak;have hn:=h.next;have hk:=BI (ln:=c.2.2.2.2.1.length) (sure:=c.2.2.2.2.2) (keep:=keep) h.sure;refine⟨h.n,⟨by show(1:Int)≤c.2.1+1; omega,by show c.2.1+1≤(900:Int); omega⟩,⟨(by decide:(0:Int)≤0),(by decide:(0:Int)≤999)⟩,?_,?_,fun x hx=>?_,?_,fun x hx=>absurd hx List.not_mem_nil,List.Pairwise.nil⟩
   · have:=h.jB;simp only[List.length_take]; omega
   · simp only[List.length_take]; omega
   · have:=h.range x (List.mem_of_mem_take hx);show 1000≤x.1∧x.1≤(c.2.1+1) * 1000+0 - 1;omega
   · simp only[List.map_take];exact List.Nodup.sublist (List.take_sublist _ _) h.nodup
theorem oA{c:Co}{ops:List Od}(h:cS c):cS (i_ c ops).1:=by
 unfold i_
 split
 · rename_i hm; exact BO h hm
 · exact h
theorem qs{c:Co}{ops:List Od}:(i_ c ops).1.2.1=c.2.1:=by unfold i_; split <;> rfl
theorem sf{c:Co}{shard tx:Int}{yes:Bool}:(iy c shard tx yes).2.1=c.2.1:=by
 cases e:l_ c shard tx with
 | none=>rw[vD e]
 | some k=>
  obtain⟨hk,_⟩:=vB e;rw[vC e hk]; rfl
theorem Ef{c:Co}{keep:Int}:(eQ c keep).2.1≤c.2.1+1:=by
 unfold eQ
 split
 · omega
 · exact Int.le_refl _
end cos
namespace cos
open Go Go.RowKit base av aN lay kN
end cos
namespace last
open Go Go.RowKit
section
variable{P:Program}{ops:Array Oper}{md:Region.Mode}{Q:Exit→Act→World→Prop}{S:World→Prop}{z:Nat}
def YG(md:Region.Mode)(ops:Array Oper)(ms:List Nat)(z i:Nat):Prop:=∀m∈z::ms,∃om,ops[m]? =some om∧∃e∈om.after,Region.binds md e=true∧(e.on=i∨e.on∈ms)
theorem M8{ms:List Nat}{i:Nat}(hv:YG md ops ms z i){ax:Array Bool}(hr:i∈Region.ready md ops ax)(hu:∀m∈ms,ax.getD m true=false){j:Nat}(hj:j∈Region.ready md ops ax):j∉z::ms:=fun hm=>by
 obtain⟨om,ho,e,he,hb,h⟩:=hv j hm;rcases h with h | h
 · exact iQ hr hj ho e he hb h
 · obtain⟨_,oj,Af,iD⟩:=mem_ready.1 hj;rw[ho] at Af;cases Af;have h1:=iD e he hb;have h2:=hu e.on h;unfold Array.getD at h1 h2
   split at h1 <;> simp_all
theorem xa{i:Nat}{oi:Oper}{v:Value}{ms:List Nat}(hi:ops[i]? =some oi)(Ae:∀(j:Nat) (o:Oper) cs b,ops[j]? =some o→o.op≠ .select cs b)
 (hQ:∀c a w,Q (.panic c) (a.put oi.dst v) w→Q (.panic c) a w) (hv:YG md ops ms z i):
 ∀(fuel:Nat) (ax:Array Bool) (a:Act) (w:World),
  (∀j oj,ops[j]? =some oj→j≠i→ax.getD j true=false→(∀e∈oj.after,Region.binds md e=true→e.on≠i)→oi.apart ops oj=true)→
  i∈Region.ready md ops ax→(∀m∈ms,ax.getD m true=false)→YieldsIf P ops S oi v a→S w→
  fP P md ops Q S z fuel (ax.setIfInBounds i true) (a.put oi.dst v) w→fP P md ops Q S z (fuel+1) ax a w:=by
 intro fuel
 induction fuel with
 | zero=>
  intro ax a w _ hr hu hy hS H;refine⟨fun h=>(by rw[h] at hr; cases hr),fun j hj=>?_⟩
  by_cases sD:j=i
  · subst sD; exact hy.wpOp hi hS ⟨fun _=>hS,H⟩
  · have:=ready_mono hj sD;rw[H.1] at this;cases this
 | succ fuel ih=>
  intro ax a w AK hr hu hy hS H;refine⟨fun h=>(by rw[h] at hr; cases hr),fun j hj=>?_⟩
  by_cases sD:j=i
  · subst sD; exact hy.wpOp hi hS ⟨fun _=>hS,H⟩
  · have h1:=H.2 j (ready_mono hj sD);obtain⟨I4,oj,Af,iD⟩:=mem_ready.1 hj;have I5:∀e∈oj.after,Region.binds md e=true→e.on≠i:=iQ hr hj Af;have h2:=wpOp_putIf Af (AK j oj Af sD I4 I5) (fun cs b=>Ae i oi cs b hi) (fun cs b=>Ae j oj cs b Af) hQ hy h1
    have Da:∀k ok,ops[k]? =some ok→k≠i→(ax.setIfInBounds j true).getD k true=false→
     (∀e∈ok.after,Region.binds md e=true→e.on≠i)→oi.apart ops ok=true:=fun k ok hk fL IB ku=>by
     refine AK k ok hk fL ?_ ku;by_cases QU:j=k
     · subst QU; exact I4
     · rw[getD_set_ne true QU] at IB; exact IB
    have jz:=M8 hv hr hu hj;have ID:j≠z:=fun e=>jz (by rw[e]; exact List.mem_cons_self)
    have hu':∀m∈ms,(ax.setIfInBounds j true).getD m true=false:=fun m hm=>by
     have Tm:j≠m:=fun e=>jz (by rw[e]; exact List.mem_cons_of_mem _ hm)
     rw[getD_set_ne true Tm];exact hu m hm
    refine wpOp_mono (fun a' w' h3=>⟨h3.2.1,ih (ax.setIfInBounds j true) a' w' Da (ready_mono hr (Ne.symm sD)) hu' h3.1 (h3.2.1 ID) ?_⟩) h2
    rw[Array.setIfInBounds_comm _ _ sD];exact h3.2.2
def QI(md:Region.Mode)(ops:Array Oper)(ax:Array Bool)(ms:List Nat)(z i:Nat):Bool:=
 ((z::ms).all fun m=>match ops[m]? with | none=>false | some om=>om.after.any fun e=>Region.binds md e && (e.on==i || ms.contains e.on)) && ms.all fun m=> !(ax.getD m true)
theorem GY{ax:Array Bool}{ms:List Nat}{i:Nat}(h:QI md ops ax ms z i=true):YG md ops ms z i∧∀m∈ms,ax.getD m true=false:=by
 unfold QI at h;rw[Bool.and_eq_true,List.all_eq_true,List.all_eq_true] at h;refine⟨fun m hm=>?_,fun m hm=>by simpa using h.2 m hm⟩
 have h1:=h.1 m hm;cases ho:ops[m]? with
 | none=>rw[ho] at h1; cases h1
 | some om=>
  rw[ho] at h1;obtain⟨e,he,hb⟩:=Array.any_eq_true'.1 h1;simp only[Bool.and_eq_true,Bool.or_eq_true,beq_iff_eq,List.contains_iff_mem] at hb;exact⟨om,rfl,e,he,hb.1,hb.2⟩
theorem bu(ms:List Nat){i:Nat}{oi:Oper}{v:Value}{fuel:Nat}{ax:Array Bool}{a:Act}{w:World}(hi:ops[i]? =some oi)
 (hs:Region.noSelect ops=true) (hf:Region.free md ops ax i=true) (hr:(Region.ready md ops ax).contains i=true) (hw:QI md ops ax ms z i=true)
 (hQ:∀c a w,Q (.panic c) (a.put oi.dst v) w→Q (.panic c) a w) (hy:YieldsIf P ops S oi v a) (hS:S w)
 (h:fP P md ops Q S z fuel (ax.setIfInBounds i true) (a.put oi.dst v) w):fP P md ops Q S z (fuel+1) ax a w:=by
 obtain⟨h1,h2⟩:=GY hw;exact xa hi (Region.noSelect_spec hs) hQ h1 fuel ax a w (Region.free_spec hi hf) (by simpa using hr) h2 hy hS h
end
end last
end Go.Proofs.YtmibabclefgljaaGreat
