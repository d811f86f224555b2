/- CoHs CoBv CoTe CoTs GenMany CoTa -/
import Derived.Test.YtmibabclefgljaaGreatShbd
import Derived.Test.YtmibabclefgljaaGreatShaw
import Derived.Test.YtmibabclefgljaaGreatShba
import Derived.Test.YtmibabclefgljaaGreatShbb
import Derived.Test.YtmibabclefgljaaGreatShax
import Derived.Test.YtmibabclefgljaaGreatShaz
set_option linter.unusedVariables false
set_option linter.unusedSimpArgs false
namespace Go.Proofs.YtmibabclefgljaaGreat
namespace cos
open Go Go.RowKit base aE aX lay lh
set_option maxRecDepth 100000 in
set_option maxHeartbeats 1000000 in
theorem Em(n av next sure:Int)(ja:Option Addr)(jn jc:Nat)(la:Option Addr)(ln lc:Nat)(tx st:Int)(oa:Option Addr)(ol oc:Nat)(ya:Option Addr)(yl yc:Nat)(ops:List Od)(yes:List Int)(w:World)(AJ:(Lit.int .i64 tx).wf=true)(zZ:dS w oa ol ops)(hY:tS w ya yl yes)(jg:ol≤8)(hn:(Lit.int .i64 n).wf=true):
 Calls Tryz.prog 163 #[.agg #[.int .i64 n,.int .i64 av,.int .i64 next,.slice ja jn jc,.slice la ln lc,.int .i64 sure],.agg #[.int .i64 tx,.slice oa ol oc,.int .i64 st,.slice ya yl yc]] w (Qx w (ie n tx ops yes (aM n ops))):=by
 obtain⟨W0,Ru⟩:∃W,(w.alloc (.cells #[.int .i64 n,.int .i64 av,.int .i64 next,.slice ja jn jc,.slice la ln lc,.int .i64 sure] 28)).alloc (.cells #[.int .i64 tx,.slice oa ol oc,.int .i64 st,.slice ya yl yc] 75)=W:=⟨_,rfl⟩;have IU:Below w.heap.size w W0:=by rw[←Ru]; exact((Below.refl _ _).alloc (Nat.le_refl _) _).alloc (by simp) _
 have Rf:aD w.heap.size 28 [] [.int .i64 n,.int .i64 av,.int .i64 next,.slice ja jn jc,.slice la ln lc,.int .i64 sure] [] W0:=by rw[←Ru]; exact(aO w _ _).below aT
 have hJ0:aD (w.heap.size+1) 75 [] [.int .i64 tx,.slice oa ol oc,.int .i64 st,.slice ya yl yc] [] W0:=by
  rw[←Ru];have:=aO (w.alloc (.cells #[.int .i64 n,.int .i64 av,.int .i64 next,.slice ja jn jc,.slice la ln lc,.int .i64 sure] 28)) [.int .i64 tx,.slice oa ol oc,.int .i64 st,.slice ya yl yc] 75;oU [show(w.alloc (.cells #[.int .i64 n,.int .i64 av,.int .i64 next,.slice ja jn jc,.slice la ln lc,.int .i64 sure] 28)).heap.size=w.heap.size+1 by simp] at this
 obtain⟨W,hW⟩:∃W,W0.alloc (.cells #[] 112)=W:=⟨_,rfl⟩;have Lt:Below W0.heap.size W0 W:=by rw[←hW]; exact aT
 have hB:=IU.trans (Lt.mono IU.size);have GM:=KY W0;rw[hW] at GM;have R9:W0.heap.size=w.heap.size+1+1:=by rw[←Ru]; simp
 have Lp:W0.heap.size<W.heap.size:=by rw[←hW]; simp
 have hC:=Rf.below Lt;have hJ:=hJ0.below Lt;have hCl:=hC.lt;have Qy:=hJ.lt;obtain⟨a0,_,_,_,_,_⟩:=cells6 hC;obtain⟨j0,j1,j2,j3⟩:=cells4 hJ;have wm:=Hid.mk' (eN oa ol oc ops n W (zZ.below hB) (by omega) hn)
 have Yn:=Hid.mk' (fun s (hs:(Lit.int .i64 s).wf=true) wx (hx:Below w.heap.size w wx)=>AH oa ol oc ops s n wx (zZ.below hx) (by omega) hn hs)
 have HCN:=Hid.mk' (fun s wx (hx:Below w.heap.size w wx)=>cX ya yl yc yes s wx (hY.below hx))
 have T0:(aM n ops).length≤8:=kK n ops (by have:=zZ.1; omega)
 have T1:∀s∈aM n ops,(Lit.int .i64 s).wf=true:=fun s hs=>by
  obtain⟨o,_,rfl⟩:=(fw n ops s).1 hs;exact qG _ _
 have HW:Hid (((w.alloc (.cells #[.int .i64 n,.int .i64 av,.int .i64 next,.slice ja jn jc,.slice la ln lc,.int .i64 sure] 28)).alloc (.cells #[.int .i64 tx,.slice oa ol oc,.int .i64 st,.slice ya yl yc] 75)).alloc (.cells #[] 112)=W):=by show _=_; rw[Ru,hW]
 have WJ:=Hid.mk' T1;have Lz:=Hid.mk' a0;have HJ0:=Hid.mk' j0;have HJ1:=Hid.mk' j1;have Yo:=Hid.mk' j3;have x1:=j1;have y0:=a0;rw[←HW.out] at x1 y0;clear Ru hW zZ hY T1 hn j0 j1 j2 j3 a0;rw[R9] at GM;generalize aM n ops=sh at *;aj Tryz.func163,Tryz.ntmps163;ab fail;rw[HW.out];refine wm.out.mono ?_;rintro e w1 ⟨gs,ns,cs,rfl,hZ,a_⟩;have fi:=hB.trans (a_.mono hB.size);have gK:=Hc (R:=tC) (ty:=112) GM;have Yp:=gK.below a_;have hZs:=hZ.sl;have Yq:=hZ.1;have Yr:=hZ.lt;clear x1 y0 wm gK GM;ab fail;aN [7,5] (fun i v wr=>∃(k g m cap:Nat) (q:dY),k≤ns∧i=.int .i64 (k:Int)∧v=.slice (some ⟨g,0,none⟩) m cap∧bz 112 tC wr (.slice (some ⟨g,0,none⟩) m cap) (ie n tx ops yes (sh.take k)) q∧(∀bb∈g::aw q,w.heap.size+1+1≤bb)∧g≠gs∧Below w.heap.size w wr∧aD w.heap.size 28 [] [.int .i64 n,.int .i64 av,.int .i64 next,.slice ja jn jc,.slice la ln lc,.int .i64 sure] [] wr∧aD (w.heap.size+1) 75 [] [.int .i64 tx,.slice oa ol oc,.int .i64 st,.slice ya yl yc] [] wr∧wr.heap[gs]? =w1.heap[gs]? ∧gs<wr.heap.size) (fun i _ _=>ns - (intOf i).toNat)
 case atStart=>exact⟨0,w.heap.size+1+1,0,0,[],Nat.zero_le _,rfl,rfl,Yp,fun bb hb=>by simp[aw] at hb; omega,by omega,fi,hC.below a_,hJ.below a_,rfl,Yr.2⟩
 case round=>
  obtain⟨k,g,m,cap,q,hk,rfl,rfl,hO,hq,Qz,tO,QA,B4,K0,zM⟩:=hrel;by_cases bn:k<ns
  · have cJ:k<sh.length:=by omega
    have fZ:(k:Int)<(ns:Int):=by omega
    have fF:=(hZ.kept K0).at k cJ;have CD:=WJ.out _ (List.getElem_mem cJ);have xM:Hid (sh.take (k+1)=sh.take k++[sh[k]]):=List.take_succ_eq_append_getElem cJ;have Lq:Hid ((ie n tx ops yes (sh.take k)).length=m):=hO.nF.symm;have Zo:m≤8:=by have h1:=El n tx ops yes (sh.take k); rw[Lq.out] at h1; simp at h1; omega
    have wh:=Hid.mk' (B3 n tx ops yes (sh.take k) sh[k]);rw[←xM.out] at wh;generalize sh[k]=s at *;obtain⟨d0,d1,d2,d3⟩:=cells4 B4;have o3:=last.On.cell (B:=wr.heap.size) d3 (World.block_lt_of_cell? _ _ d3);have os:=last.On.cell (B:=wr.heap.size) fF (World.block_lt_of_cell? _ _ fF);have br:=last.On.iq wr.heap.size wr;have dC:∀x:last.On wr.heap.size wr,Calls Tryz.prog 102 #[.slice ya yl yc,.int .i64 s] x.w fun e w'=>e=.returned (.bool (decide (s∈yes)))∧∃y:last.On wr.heap.size wr,w'=y.w:=fun x=>last.Calls.on x (Nat.le_refl _) ((HCN.out s x.w (tO.trans (x.2.mono tO.size))).mono fun e w' ⟨he,hw⟩=>⟨he,by rw[hw]; exact Below.refl _ _⟩)
    have HO:=Hid.mk' hO;have Yn:=Hid.mk' (fun wx hx=>Yn.out s CD wx hx)
    clear hO d0 d1 d2 d3;by_cases iw:s∈yes
    · have HR:Hid (ie n tx ops yes (sh.take (k+1))=ie n tx ops yes (sh.take k)):=by show _=_; rw[wh.out,if_pos iw]
      rw[decide_eq_true iw] at dC;clear iw wh;ab fail;refine last.ar wr.heap.size (by aa) (by aa) ?_
      repeat(ai ((first | (ao 102; ag exact dC _))))
      refine wpQuiet_nil ?_;intro wq bq;obtain⟨xq,bq⟩:=bq;subst bq;have dj:Below wr.heap.size wr xq.w:=xq.2;generalize xq.w=w4 at *;clear o3 os dC br;have hBq:=tO.trans (dj.mono tO.size);have VI:w4.heap[gs]? =w1.heap[gs]? :=(dj.block gs zM).trans K0;have hqs:=dj.size;clear fF;ab fail;aA
      case rel=>exact⟨k+1,g,m,cap,q,by omega,by aF,rfl,by rw[HR.out]; exact HO.out.below dj,hq,Qz,hBq,QA.below dj,B4.below dj,VI,by omega⟩
      case measure=>simp[intOf]; omega
    · have HR:Hid (ie n tx ops yes (sh.take (k+1))=ie n tx ops yes (sh.take k)++[(1,s,tx,ec s n ops,false)]):=by show _=_; rw[wh.out,if_neg iw]
      rw[decide_eq_false iw] at dC;clear iw wh;ab fail;refine last.ar wr.heap.size (by aa) (by aa) ?_
      repeat(ai ((first | (ao 102; ag exact dC _))))
      refine wpQuiet_nil ?_;intro wq bq;obtain⟨xq,bq⟩:=bq;subst bq;have dj:Below wr.heap.size wr xq.w:=xq.2;generalize xq.w=w4 at *;clear o3 os dC br;replace tO:=tO.trans (dj.mono tO.size);replace K0:w4.heap[gs]? =w1.heap[gs]? :=(dj.block gs zM).trans K0;replace fF:=(dj.cell (p:=⟨gs,k,none⟩) zM).trans fF;replace HO:=Hid.mk' (HO.out.below dj);replace QA:=QA.below dj;replace B4:=B4.below dj;replace zM:gs<w4.heap.size:=Nat.lt_of_lt_of_le zM dj.size;clear dj;generalize bq:w4=Oa at *;clear bq;ab fail;have eX:Below Oa.heap.size Oa Oa.drew:=(Below.refl _ _).drew;refine last.aB (S:=fun w'=>(aD w.heap.size 28 [] [.int .i64 n,.int .i64 av,.int .i64 next,.slice ja jn jc,.slice la ln lc,.int .i64 sure] [] w'∧aD (w.heap.size+1) 75 [] [.int .i64 tx,.slice oa ol oc,.int .i64 st,.slice ya yl yc] [] w')∧w'.cell? ⟨gs,k,none⟩=some (.int .i64 s)) 19 (by aa) ⟨⟨QA.below eX,B4.below eX⟩,fF⟩ (fun al=>?_)
      generalize hD:Oa.drew=D at *;clear hD;refine last.ae (i:=0) (v:=(.slice (some ⟨g,0,none⟩) m cap)) rfl rfl (by aa) (by aa) (by aa) (by aa) (fun _ _ _ h=>h) (Or.inl ⟨by rfl,?_⟩) (by assumption) ?_
      · intro wq aC; af
      try simp only[Act.put,List.setIfInBounds_toArray,List.set_cons_zero,List.set_cons_succ];refine last.ae (i:=1) (v:=(.slice (some ⟨gs,0,none⟩) ns cs)) rfl rfl (by aa) (by aa) (by aa) (by aa) (fun _ _ _ h=>h) (Or.inl ⟨by rfl,?_⟩) (by assumption) ?_
      · intro wq aC; af
      try simp only[Act.put,List.setIfInBounds_toArray,List.set_cons_zero,List.set_cons_succ];refine last.ae (i:=2) (v:=(.int .i64 (k:Int))) rfl rfl (by aa) (by aa) (by aa) (by aa) (fun _ _ _ h=>h) (Or.inl ⟨by rfl,?_⟩) (by assumption) ?_
      · intro wq aC; af
      try simp only[Act.put,List.setIfInBounds_toArray,List.set_cons_zero,List.set_cons_succ];refine last.ae (i:=3) (v:=(.pointer (some ⟨gs,k,none⟩))) rfl rfl (by aa) (by aa) (by aa) (by aa) (fun _ _ _ h=>h) (Or.inl ⟨by rfl,?_⟩) (by assumption) ?_
      · intro wq aC; af
      try simp only[Act.put,List.setIfInBounds_toArray,List.set_cons_zero,List.set_cons_succ];refine last.ae (i:=4) (v:=(.int .i64 s)) rfl rfl (by aa) (by aa) (by aa) (by aa) (fun _ _ _ h=>h) (Or.inl ⟨by rfl,?_⟩) (by assumption) ?_
      · intro wq aC; have q:=aC.2; af
      try simp only[Act.put,List.setIfInBounds_toArray,List.set_cons_zero,List.set_cons_succ];refine last.ae (i:=5) (v:=(.pointer (some ⟨w.heap.size+1,0,none⟩))) rfl rfl (by aa) (by aa) (by aa) (by aa) (fun _ _ _ h=>h) (Or.inl ⟨by rfl,?_⟩) (by assumption) ?_
      · intro wq aC; af
      try simp only[Act.put,List.setIfInBounds_toArray,List.set_cons_zero,List.set_cons_succ];refine last.ae (i:=6) (v:=(.int .i64 tx)) rfl rfl (by aa) (by aa) (by aa) (by aa) (fun _ _ _ h=>h) (Or.inl ⟨by rfl,?_⟩) (by assumption) ?_
      · intro wq aC; have q:=(cells4 aC.1.2).1; af
      try simp only[Act.put,List.setIfInBounds_toArray,List.set_cons_zero,List.set_cons_succ];refine last.ae (i:=7) (v:=(.pointer (some ⟨w.heap.size+1,1,none⟩))) rfl rfl (by aa) (by aa) (by aa) (by aa) (fun _ _ _ h=>h) (Or.inl ⟨by rfl,?_⟩) (by assumption) ?_
      · intro wq aC; af
      try simp only[Act.put,List.setIfInBounds_toArray,List.set_cons_zero,List.set_cons_succ];refine last.ae (i:=8) (v:=(.slice oa ol oc)) rfl rfl (by aa) (by aa) (by aa) (by aa) (fun _ _ _ h=>h) (Or.inl ⟨by rfl,?_⟩) (by assumption) ?_
      · intro wq aC; have q:=(cells4 aC.1.2).2.1; af
      try simp only[Act.put,List.setIfInBounds_toArray,List.set_cons_zero,List.set_cons_succ];refine last.ae (i:=9) (v:=(.slice (some ⟨gs,0,none⟩) ns cs)) rfl rfl (by aa) (by aa) (by aa) (by aa) (fun _ _ _ h=>h) (Or.inl ⟨by rfl,?_⟩) (by assumption) ?_
      · intro wq aC; af
      try simp only[Act.put,List.setIfInBounds_toArray,List.set_cons_zero,List.set_cons_succ];refine last.ae (i:=10) (v:=(.int .i64 (k:Int))) rfl rfl (by aa) (by aa) (by aa) (by aa) (fun _ _ _ h=>h) (Or.inl ⟨by rfl,?_⟩) (by assumption) ?_
      · intro wq aC; af
      try simp only[Act.put,List.setIfInBounds_toArray,List.set_cons_zero,List.set_cons_succ];refine last.ae (i:=11) (v:=(.pointer (some ⟨gs,k,none⟩))) rfl rfl (by aa) (by aa) (by aa) (by aa) (fun _ _ _ h=>h) (Or.inl ⟨by rfl,?_⟩) (by assumption) ?_
      · intro wq aC; af
      try simp only[Act.put,List.setIfInBounds_toArray,List.set_cons_zero,List.set_cons_succ];refine last.ae (i:=12) (v:=(.int .i64 s)) rfl rfl (by aa) (by aa) (by aa) (by aa) (fun _ _ _ h=>h) (Or.inl ⟨by rfl,?_⟩) (by assumption) ?_
      · intro wq aC; have q:=aC.2; af
      try simp only[Act.put,List.setIfInBounds_toArray,List.set_cons_zero,List.set_cons_succ];refine last.ae (i:=13) (v:=(.pointer (some ⟨w.heap.size,0,none⟩))) rfl rfl (by aa) (by aa) (by aa) (by aa) (fun _ _ _ h=>h) (Or.inl ⟨by rfl,?_⟩) (by assumption) ?_
      · intro wq aC; af
      try simp only[Act.put,List.setIfInBounds_toArray,List.set_cons_zero,List.set_cons_succ];refine last.ae (i:=14) (v:=(.int .i64 n)) rfl rfl (by aa) (by aa) (by aa) (by aa) (fun _ _ _ h=>h) (Or.inl ⟨by rfl,?_⟩) (by assumption) ?_
      · intro wq aC; have q:=(cells6 aC.1.1).1; af
      try simp only[Act.put,List.setIfInBounds_toArray,List.set_cons_zero,List.set_cons_succ];refine last.ax (i:=15) (o:={dst:=some 43,op:=Op.call {callee:=Callee.value (Operand.func 180),args:=#[Operand.tmp 36,Operand.tmp 40,Operand.tmp 42],argTypes:=#[73,3,3]},type:=73,pos:= "l11_coord.go:85",after:=#[{on:=8,ground:=Ground.data},{on:=12,ground:=Ground.data},{on:=14,ground:=Ground.data}],guard:=none}) (by aa) rfl (fun K hK=>?_)
      refine gv.call3 rfl 180 (.tmp 36) (.tmp 40) (.tmp 42) _ rfl (fun _ _=>rfl) (.slice oa ol oc) (.int .i64 s) (.int .i64 n) (by aa) (by aa) (by aa) _ (Yn.out D (tO.trans (eX.mono tO.size))) ?_
      rintro e w3 ⟨go,no,co,rfl,Ys,dI⟩;refine⟨_,rfl,?_⟩;have cY:Below Oa.heap.size Oa w3:=eX.trans (dI.mono eX.size);have hDs:=eX.size;refine hK.out _ _ ?_ (fun aq=>?_)
      · exact⟨⟨QA.below cY,B4.below cY⟩,(cY.cell (p:=⟨gs,k,none⟩) zM).trans fF⟩
      clear hK K al;have al:=aq;clear aq;try simp only[Act.put,List.setIfInBounds_toArray,List.set_cons_zero,List.set_cons_succ];refine last.ae (i:=16) (v:=(.agg #[.int .i64 1,.int .i64 s,.int .i64 tx,.slice (some ⟨go,0,none⟩) no co,.bool false])) rfl rfl (by aa) (by aa) (by aa) (by aa) (fun _ _ _ h=>h) (Or.inl ⟨by rfl,?_⟩) (by assumption) ?_
      · intro wq aC; af
      try simp only[Act.put,List.setIfInBounds_toArray,List.set_cons_zero,List.set_cons_succ];refine last.ax (i:=17) (o:={dst:=some 45,op:=Op.buildSlice 30 1 #[(0,Operand.tmp 44)],type:=30,pos:= "l11_coord.go:85",after:=#[{on:=16,ground:=Ground.data}],guard:=none}) (by aa) rfl (fun K hK=>?_)
      af;obtain⟨V,hV⟩:∃V,w3.alloc (.cells #[.int .i64 1,.int .i64 s,.int .i64 tx,.slice (some ⟨go,0,none⟩) no co,.bool false] 112)=V:=⟨_,rfl⟩;have nw:Below w3.heap.size w3 V:=by rw[←hV]; exact aT
      have hX:aD w3.heap.size 112 [] [.int .i64 1,.int .i64 s,.int .i64 tx,.slice (some ⟨go,0,none⟩) no co,.bool false] [] V:=by rw[←hV]; exact aO w3 _ _
      have lu:=cY.trans (nw.mono cY.size);rw[hV];refine hK.out _ _ ?_ (fun aq=>?_)
      · exact⟨⟨QA.below lu,B4.below lu⟩,(lu.cell (p:=⟨gs,k,none⟩) zM).trans fF⟩
      clear hK K al;have al:=aq;clear aq;try simp only[Act.put,List.setIfInBounds_toArray,List.set_cons_zero,List.set_cons_succ];refine last.ax (i:=18) (o:={dst:=some 46,op:=Op.call {callee:=Callee.builtin Builtin.append,args:=#[Operand.tmp 28,Operand.tmp 45],argTypes:=#[30,30]},type:=30,pos:= "l11_coord.go:85",after:=#[{on:=0,ground:=Ground.data},{on:=17,ground:=Ground.data},{on:=15,ground:=Ground.chain}],guard:=none}) (by aa) rfl (fun K hK=>?_)
      have hgo:=Ys.lt;have nO:=HO.out.below lu;have Nc:=HO.out.Rq;have JZ:tC.own V [.int .i64 1,.int .i64 s,.int .i64 tx,.slice (some ⟨go,0,none⟩) no co,.bool false] (1,s,tx,ec s n ops,false) [go]:=KX.2 ⟨_,rfl,by show(Lit.int .i64 1).wf=true; decide,CD,AJ,iG.2 ⟨(fK (Ys.below nw)).mono (Nat.zero_le _),rfl⟩⟩
      obtain⟨g',aY,w4,dA,ej,jW,En⟩:=bz.zJ (P:=Tryz.prog) (z:=.agg #[.int .i64 0,.int .i64 0,.int .i64 0,.slice none 0 0,.bool false]) Tryz.underlying30 TZ rfl (by decide) nO JZ (fun b hb hc=>by
       rw[List.mem_singleton] at hb;have h2:=Nc b (by simpa[Value.ownBlock] using hc)
       omega) hX (by rw[Lq.out]; unfold maxLen; omega) (by rw[Lq.out]; omega) 30
      rw[Lq.out] at dA ej;refine dc rfl (.tmp 28) (.tmp 45) 30 rfl (by aa) (by aa) dA ?_
      have hqg:=hq g (by simp)
      have hws:=tO.size;have rS:∀bb,(Value.slice (some ⟨g,0,none⟩) m cap).ownBlock=some bb→g=bb:=fun bb e=>by simpa[Value.ownBlock] using e
      have T2:=tO.trans (lu.mono tO.size);have eF:Below w.heap.size w w4:=T2.grown jW T2.size (fun bb e=>by have:=rS bb e; omega)
      have T3:∀bb,bb<Oa.heap.size→bb≠g→w4.heap[bb]? =Oa.heap[bb]? :=fun bb h1 h2=>(jW.block bb (Nat.lt_of_lt_of_le h1 lu.size) (fun e=>h2 (rS bb e.symm).symm)).trans (lu.block bb h1)
      have Yt:w4.heap[gs]? =w1.heap[gs]? :=(T3 gs zM (fun e=>Qz e.symm)).trans K0
      have Bz:=(QA.below lu).grown jW (fun e=>by have:=rS _ e.symm; omega)
      have rJ:=(B4.below lu).grown jW (fun e=>by have:=rS _ e.symm; omega)
      have Yu:w4.cell? ⟨gs,k,none⟩=some (.int .i64 s):=(World.cell?_of_block (T3 gs zM (fun e=>Qz e.symm))).trans fF
      have Nq:∀bb∈g'::aw (q++[([.int .i64 1,.int .i64 s,.int .i64 tx,.slice (some ⟨go,0,none⟩) no co,.bool false],[go])]),w.heap.size+1+1≤bb:=fun bb hb=>by
       rw[a6] at hb;have Vw:=lu.size;rcases List.mem_cons.1 hb with e | e
       · rcases En with e2 | e2
         · have:g=g':=by simpa[Value.ownBlock] using e2
           omega
         · omega
       · rcases List.mem_append.1 e with e | e
         · exact hq bb (List.mem_cons_of_mem _ e)
         · have:bb=go:=by simpa[aw] using e
           omega
      have zV:g'≠gs:=by
       have Vw:=lu.size;rcases En with e2 | e2
       · have:g=g':=by simpa[Value.ownBlock] using e2
         omega
       · omega
      rw[←HR.out] at ej;have Il:=Hid.mk' ej;have HQ4:=Hid.mk' Nq;have hs44:=jW.size;have hs45:=lu.size;clear dA ej Nq jW hX JZ nO Ys;refine hK.out _ _ ?_ (fun aq=>?_)
      · exact⟨⟨Bz,rJ⟩,Yu⟩
      clear hK K al;have al:=aq;clear aq;try simp only[Act.put,List.setIfInBounds_toArray,List.set_cons_zero,List.set_cons_succ];refine last.aL (o:={dst:=some 5,op:=Op.assign (Operand.tmp 46),type:=30,pos:= "l11_coord.go:85",after:=#[{on:=18,ground:=Ground.data},{on:=18,ground:=Ground.chain},{on:=0,ground:=Ground.phase},{on:=1,ground:=Ground.phase},{on:=2,ground:=Ground.phase},{on:=3,ground:=Ground.phase},{on:=4,ground:=Ground.phase},{on:=5,ground:=Ground.phase},{on:=6,ground:=Ground.phase},{on:=7,ground:=Ground.phase},{on:=8,ground:=Ground.phase},{on:=9,ground:=Ground.phase},{on:=10,ground:=Ground.phase},{on:=11,ground:=Ground.phase},{on:=12,ground:=Ground.phase},{on:=13,ground:=Ground.phase},{on:=14,ground:=Ground.phase},{on:=15,ground:=Ground.phase},{on:=16,ground:=Ground.phase},{on:=17,ground:=Ground.phase},{on:=18,ground:=Ground.phase}],guard:=none}) (by aa) rfl (by aa) (fun K hK=>?_)
      af;refine hK.out _ _ ?_;clear hK K;ab fail;aA
      case rel=>exact⟨k+1,g',m+1,aY,_,by omega,by aF,rfl,Il.out,HQ4.out,zV,eF,Bz,rJ,Yt,by omega⟩
      case measure=>simp[intOf]; omega
  · have EV:sh.take k=sh:=List.take_of_length_le (by omega)
    rw[EV] at hO;have fZ:¬(k:Int)<(ns:Int):=by omega
    ab fail;an;exact⟨_,_,_,q,rfl,hO,fun bb hb=>by have:=hq bb hb; omega,tO⟩
end cos
namespace cos
open Go Go.RowKit base aE aX lh
structure rN (n av next:Int) (log:List Ch) (j:Jb):Prop where
 lo:av * 1000≤j.1
 hi:j.1≤av * 1000+next - 1
 ops:b_ j.2.1=true
 st:1≤j.2.2.1∧j.2.2.1≤3
 yes:dZ (aM n j.2.1) none j.2.2.2=true
 said:fN j.2.2.1 (choice log j.1)=true
theorem Hd{n av next:Int}{log:List Ch}{p:Option Int}{j:Jb}:eT n av next log p j=true↔rN n av next log j∧∀q,p=some q→q<j.1:=by
 unfold eT;simp only[Bool.and_eq_true,decide_eq_true_eq];constructor
 · rintro⟨⟨⟨⟨⟨h1,h2⟩,h3⟩,h4⟩,h5⟩,h6⟩;refine⟨⟨h1.1,h1.2,h3,h4,h5,h6⟩,fun q e=>?_⟩
   subst e;simpa using h2
 · rintro⟨h,hp⟩;refine⟨⟨⟨⟨⟨⟨h.lo,h.hi⟩,?_⟩,h.ops⟩,h.st⟩,h.yes⟩,h.said⟩;cases p with
   | none=>rfl
   | some q=>exact decide_eq_true (hp q rfl)
theorem Eo{n av next:Int}{log:List Ch}:∀ {l:List Jb} {p:Option Int},eQ n av next log p l=true↔(∀j∈l,rN n av next log j)∧(l.map fun j=>j.1).Pairwise (· < ·)∧∀q,p=some q→∀j∈l,q<j.1:=by
 intro l
 induction l with
 | nil=>intro p; simp[eQ]
 | cons x l ih=>
  intro p;unfold eQ;rw[Bool.and_eq_true,Hd,ih];constructor
  · rintro⟨⟨h1,h2⟩,h3,h4,h5⟩;refine⟨fun j hj=>?_,?_,fun q e j hj=>?_⟩
    · rcases List.mem_cons.1 hj with rfl | hj
      · exact h1
      · exact h3 j hj
    · rw[List.map_cons,List.pairwise_cons];refine⟨fun z hz=>?_,h4⟩
      obtain⟨j,hj,rfl⟩:=List.mem_map.1 hz;exact h5 x.1 rfl j hj
    · rcases List.mem_cons.1 hj with rfl | hj
      · exact h2 q e
      · have:=h2 q e;have:=h5 x.1 rfl j hj;omega
  · rintro⟨h1,h2,h3⟩;rw[List.map_cons,List.pairwise_cons] at h2;refine⟨⟨h1 x List.mem_cons_self,fun q e=>h3 q e x List.mem_cons_self⟩,fun j hj=>h1 j (List.mem_cons_of_mem _ hj),h2.2,fun q e j hj=>?_⟩
    cases e;exact h2.1 j.1 (List.mem_map.2 ⟨j,hj,rfl⟩)
structure dg (c:Co):Prop where
 n:1≤c.1∧c.1≤8
 av:1≤c.2.1∧c.2.1≤900
 next:0≤c.2.2.1∧c.2.2.1≤999
 jS:c.2.2.2.2.1.length≤1000
 sure:0≤c.2.2.2.2.2∧c.2.2.2.2.2≤(c.2.2.2.2.1.length:Int)
 range:∀x∈c.2.2.2.2.1,1000≤x.1∧x.1≤c.2.1 * 1000+c.2.2.1 - 1
 nodup:(c.2.2.2.2.1.map fun x=>x.1).Nodup
 jobs:∀j∈c.2.2.2.1,rN c.1 c.2.1 c.2.2.1 c.2.2.2.2.1 j
 He:(c.2.2.2.1.map fun j=>j.1).Pairwise (· < ·)
theorem sK{c:Co}:bt c=true↔dg c:=by
 unfold bt Ke di;simp only[Bool.and_eq_true,decide_eq_true_eq,Eo,List.all_eq_true];constructor
 · rintro⟨⟨⟨⟨⟨⟨h1,h2⟩,h3⟩,h4⟩,h5⟩,h6,h7⟩,h8,h9,_⟩;exact⟨h1,h2,h3,h4,h5,h6,h7,h8,h9⟩
 · intro h;exact⟨⟨⟨⟨⟨⟨h.n,h.av⟩,h.next⟩,h.jS⟩,h.sure⟩,h.range,h.nodup⟩,h.jobs,h.He,fun q e=>by cases e⟩
theorem yr{list:List Int}:∀ {l:List Int} {p:Option Int},dZ list p l=true↔(∀x∈l,x∈list)∧tJ l∧∀q,p=some q→∀x∈l,q<x:=by
 intro l
 induction l with
 | nil=>intro p; simp[dZ,tJ]
 | cons y l ih=>
  intro p;unfold dZ;rw[Bool.and_eq_true,Bool.and_eq_true,decide_eq_true_eq,ih];constructor
  · rintro⟨⟨h1,h2⟩,h3,h4,h5⟩;refine⟨fun x hx=>?_,?_,fun q e x hx=>?_⟩
    · rcases List.mem_cons.1 hx with rfl | hx
      · exact h1
      · exact h3 x hx
    · unfold tJ;rw[List.pairwise_cons];exact⟨fun z hz=>h5 y rfl z hz,h4⟩
    · subst e;have JD:q<y:=by simpa using h2
      rcases List.mem_cons.1 hx with rfl | hx
      · exact JD
      · have:=h5 y rfl x hx;omega
  · rintro⟨h1,h2,h3⟩;unfold tJ at h2;rw[List.pairwise_cons] at h2;refine⟨⟨h1 y List.mem_cons_self,?_⟩,fun x hx=>h1 x (List.mem_cons_of_mem _ hx),h2.2,fun q e x hx=>?_⟩
    · cases p with
      | none=>rfl
      | some q=>exact decide_eq_true (h3 q rfl y List.mem_cons_self)
    · cases e; exact h2.1 x hx
theorem Ep{log:List Ch}{tx:Int}(h:∀x∈log,x.1≠tx):choice log tx=none:=by
 cases e:choice log tx with
 | none=>rfl
 | some y=>exact absurd rfl (h _ (p9 e))
theorem oP{log:List Ch}{tx t:Int}{y:Bool}:choice (log++[(tx,y)]) t=if choice log t=none∧t=tx then some y else choice log t:=by
 unfold choice;rw[List.find?_append];cases e:log.find? (fun c=>decide (c.1=t)) with
 | none=>
  by_cases ht:t=tx
  · subst ht; simp[List.find?_cons]
  · have:¬tx=t:=fun e=>ht e.symm
    simp[List.find?_cons,ht,this]
 | some c=>simp
/-! ### what begins -/
def iO(c:Co):Int:=c.2.1 * 1000+c.2.2.1
def K3(c:Co)(ops:List Od):Co:=(c.1,c.2.1,c.2.2.1+1,c.2.2.2.1++[(iO c,ops,1,[])],c.2.2.2.2.1,c.2.2.2.2.2)
def kL(c:Co)(ops:List Od):Bool:=b_ ops && decide (c.2.2.1≠999) && decide (c.2.2.2.2.1.length<1000)
theorem B5{c:Co}{ops:List Od}(h:dg c)(hm:kL c ops=true):dg (K3 c ops):=by
 unfold kL at hm;simp only[Bool.and_eq_true,decide_eq_true_eq] at hm;obtain⟨⟨h1,h2⟩,h3⟩:=hm;have hn:=h.next;have hl:=h.av;have jQ:choice c.2.2.2.2.1 (iO c)=none:=Ep fun x hx e=>by
  have:=(h.range x hx).2;unfold iO at e;omega
 refine⟨h.n,h.av,⟨by show 0≤c.2.2.1+1; omega,by show c.2.2.1+1≤999; omega⟩,h.jS,h.sure,fun x hx=>?_,h.nodup,fun j hj=>?_,?_⟩
 · have:=h.range x hx;show 1000≤x.1∧x.1≤c.2.1 * 1000+(c.2.2.1+1) - 1;omega
 · rcases List.mem_append.1 hj with hj | hj
   · have k:=h.jobs j hj;have:=k.hi;exact⟨k.lo,by show j.1≤c.2.1 * 1000+(c.2.2.1+1) - 1; omega,k.ops,k.st,k.yes,k.said⟩
   · have:j=(iO c,ops,1,[]):=by simpa using hj
     subst this;refine⟨by show c.2.1 * 1000≤iO c; unfold iO; omega,by show iO c≤c.2.1 * 1000+(c.2.2.1+1) - 1; unfold iO; omega,h1,⟨(by decide:(1:Int)≤1),(by decide:(1:Int)≤3)⟩,rfl,?_⟩
     show fN 1 (choice c.2.2.2.2.1 (iO c))=true;rw[jQ]; rfl
 · show((c.2.2.2.1++[(iO c,ops,1,[])]).map fun(j:Jb)=>j.1).Pairwise (· < ·)
   rw[List.map_append,List.pairwise_append];refine⟨h.He,by simp,fun a ha b hb=>?_⟩
   obtain⟨j,hj,rfl⟩:=List.mem_map.1 ha;have be:b=iO c:=by simpa using hb
   have:=(h.jobs j hj).hi;subst be;unfold iO;omega
/-! ### what is voted -/
def lJ(j:Jb)(list:List Int)(shard:Int)(yes:Bool):Jb × Option Bool:=
 if yes=true then(if(fj j.2.2.2 shard).length=list.length then((j.1,j.2.1,2,fj j.2.2.2 shard),some true) else((j.1,j.2.1,j.2.2.1,fj j.2.2.2 shard),none)) else((j.1,j.2.1,3,j.2.2.2),some false)
def nC(log:List Ch)(tx:Int):Option Bool→List Ch
 | none=>log
 | some y=>log++[(tx,y)]
def mC(c:Co)(shard tx:Int):Option Nat:=
 match p5 c.2.2.2.1 tx with
 | none=>none
 | some k=>match c.2.2.2.1[k]? with
  | none=>none
  | some j=>if j.2.2.1=1∧c.2.2.2.2.1.length<1000∧shard∈aM c.1 j.2.1 then some k else none
def oQ(c:Co)(k:Nat)(j:Jb)(shard:Int)(yes:Bool):Co:=
 (c.1,c.2.1,c.2.2.1,c.2.2.2.1.set k (lJ j (aM c.1 j.2.1) shard yes).1,nC c.2.2.2.2.1 j.1 (lJ j (aM c.1 j.2.1) shard yes).2,c.2.2.2.2.2)
def iP(c:Co)(shard tx:Int)(yes:Bool):Co:=
 match mC c shard tx with
 | none=>c
 | some k=>match c.2.2.2.1[k]? with
  | none=>c
  | some j=>oQ c k j shard yes
theorem vU{c:Co}{shard tx:Int}{k:Nat}(h:mC c shard tx=some k):∃hk:k<c.2.2.2.1.length,c.2.2.2.1[k].1=tx∧c.2.2.2.1[k].2.2.1=1∧c.2.2.2.2.1.length<1000∧shard∈aM c.1 c.2.2.2.1[k].2.1∧p5 c.2.2.2.1 tx=some k:=by
 unfold mC at h;cases e:p5 c.2.2.2.1 tx with
 | none=>rw[e] at h; cases h
 | some i=>
  rw[e] at h;obtain⟨hi,h1,_⟩:=j6 e;simp only[List.getElem?_eq_getElem hi] at h
  split at h
  · eZ hc
    cases h;exact⟨hi,of_decide_eq_true h1,hc.1,hc.2.1,hc.2.2,rfl⟩
  · cases h
theorem vV{c:Co}{shard tx:Int}{yes:Bool}{k:Nat}(h:mC c shard tx=some k)(hk:k<c.2.2.2.1.length):iP c shard tx yes=oQ c k c.2.2.2.1[k] shard yes:=by
 unfold iP;rw[h];simp only[List.getElem?_eq_getElem hk]
theorem vW{c:Co}{shard tx:Int}{yes:Bool}(h:mC c shard tx=none):iP c shard tx yes=c:=by unfold iP; rw[h]
theorem B6{list yes:List Int}{s:Int}(h:dZ list none yes=true)(hs:s∈list):dZ list none (fj yes s)=true:=by
 rw[yr] at h ⊢;refine⟨fun x hx=>?_,An h.2.1 _,fun q e=>by cases e⟩
 rcases(uA yes s x).1 hx with e | e
 · exact h.1 x e
 · rw[e]; exact hs
theorem Hf(j:Jb)(list:List Int)(shard:Int)(yes:Bool):(lJ j list shard yes).1.1=j.1∧(lJ j list shard yes).1.2.1=j.2.1:=by
 unfold lJ
 split
 · split <;> exact⟨rfl,rfl⟩
 · exact⟨rfl,rfl⟩
theorem B8{l:List Jb}(h:(l.map fun j=>j.1).Pairwise (· < ·)){i k:Nat}(hi:i<l.length)(hk:k<l.length)(bh:i≠k):l[i].1≠l[k].1:=by
 have h1:=List.pairwise_iff_getElem.1 h;simp only[List.length_map,List.getElem_map] at h1;rcases Nat.lt_or_ge i k with e | e
 · have:=h1 i k hi hk e; omega
 · have:=h1 k i hk hi (by omega); omega
theorem B9{l:List Jb}{k:Nat}{j:Jb}(hk:k<l.length)(h:j.1=l[k].1):((l.set k j).map fun j=>j.1)=l.map fun j=>j.1:=by
 rw[List.map_set];refine List.ext_getElem (by simp) fun i h1 h2=>?_
 rw[List.getElem_set]
 split
 · eZ e; subst e; simp[h]
 · rfl
theorem B_{c:Co}{k:Nat}{shard:Int}{yes:Bool}(h:dg c)(hk:k<c.2.2.2.1.length)(h1:c.2.2.2.1[k].2.2.1=1)(hl:c.2.2.2.2.1.length<1000)(hs:shard∈aM c.1 c.2.2.2.1[k].2.1):dg (oQ c k c.2.2.2.1[k] shard yes):=by
 have hj:=h.jobs _ (List.getElem_mem hk);have ko:choice c.2.2.2.2.1 c.2.2.2.1[k].1=none:=by
  have:=hj.said;rw[h1] at this;cases e:choice c.2.2.2.2.1 c.2.2.2.1[k].1 with
  | none=>rfl
  | some y=>rw[e] at this; cases y <;> simp[fN] at this
 have Jh:∀y,(c.2.2.2.1[k].1,y)∉c.2.2.2.2.1:=fun y hm=>by rw[p8 h.nodup hm] at ko; cases ko
 have rM:=h.av;obtain⟨r,hr⟩:∃r,lJ c.2.2.2.1[k] (aM c.1 c.2.2.2.1[k].2.1) shard yes=r:=⟨_,rfl⟩;have wv:=Hf c.2.2.2.1[k] (aM c.1 c.2.2.2.1[k].2.1) shard yes;rw[hr] at wv;have qu:∀x∈nC c.2.2.2.2.1 c.2.2.2.1[k].1 r.2,x∈c.2.2.2.2.1∨x.1=c.2.2.2.1[k].1:=fun x hx=>by
  cases e:r.2 with
  | none=>rw[e] at hx; exact .inl hx
  | some y=>
   rw[e] at hx;rcases List.mem_append.1 hx with hx | hx
   · exact .inl hx
   · have:x=(c.2.2.2.1[k].1,y):=by simpa using hx
     subst this; exact .inr rfl
 have hlen:(nC c.2.2.2.2.1 c.2.2.2.1[k].1 r.2).length≤1000∧c.2.2.2.2.1.length≤(nC c.2.2.2.2.1 c.2.2.2.1[k].1 r.2).length:=by
  cases e:r.2 with
  | none=>exact⟨by show c.2.2.2.2.1.length≤1000; omega,Nat.le_refl _⟩
  | some y=>unfold nC; simp only[List.length_append,List.length_cons,List.length_nil]; omega
 have vH:∀t,t≠c.2.2.2.1[k].1→choice (nC c.2.2.2.2.1 c.2.2.2.1[k].1 r.2) t=choice c.2.2.2.2.1 t:=fun t ht=>by
  cases e:r.2 with
  | none=>rfl
  | some y=>unfold nC; rw[oP,if_neg (fun e=>ht e.2)]
 have K4:fN r.1.2.2.1 (choice (nC c.2.2.2.2.1 c.2.2.2.1[k].1 r.2) c.2.2.2.1[k].1)=true∧(1≤r.1.2.2.1∧r.1.2.2.1≤3)∧dZ (aM c.1 c.2.2.2.1[k].2.1) none r.1.2.2.2=true:=by
  rw[←hr];unfold lJ
  split
  · split
    · refine⟨?_,⟨(by decide:(1:Int)≤2),(by decide:(2:Int)≤3)⟩,B6 hj.yes hs⟩
      show fN 2 (choice (c.2.2.2.2.1++[(c.2.2.2.1[k].1,true)]) c.2.2.2.1[k].1)=true;rw[oP,if_pos ⟨ko,rfl⟩]; rfl
    · refine⟨?_,hj.st,B6 hj.yes hs⟩;show fN c.2.2.2.1[k].2.2.1 (choice c.2.2.2.2.1 c.2.2.2.1[k].1)=true;exact hj.said
  · refine⟨?_,⟨(by decide:(1:Int)≤3),(by decide:(3:Int)≤3)⟩,hj.yes⟩
    show fN 3 (choice (c.2.2.2.2.1++[(c.2.2.2.1[k].1,false)]) c.2.2.2.1[k].1)=true;rw[oP,if_pos ⟨ko,rfl⟩]; rfl
 have eo:((nC c.2.2.2.2.1 c.2.2.2.1[k].1 r.2).map fun x=>x.1).Nodup:=by
  cases e:r.2 with
  | none=>exact h.nodup
  | some y=>
   unfold nC;rw[List.map_append,List.nodup_append];refine⟨h.nodup,by simp,fun a ha b hb e2=>?_⟩
   obtain⟨x,hx,rfl⟩:=List.mem_map.1 ha;have be:b=c.2.2.2.1[k].1:=by simpa using hb
   rw[be] at e2;exact Jh x.2 (by rw[←e2]; exact hx)
 unfold oQ;rw[hr];refine⟨h.n,h.av,h.next,hlen.1,⟨h.sure.1,by have:=h.sure.2; have:=hlen.2; show c.2.2.2.2.2≤_; simp only[]; omega⟩,fun x hx=>?_,eo,fun j hm=>?_,?_⟩
 · rcases qu x hx with e | e
   · exact h.range x e
   · have a:=hj.lo;have b:=hj.hi;simp only[];rw[e];exact⟨by omega,b⟩
 · simp only[] at hm;obtain⟨i,hi,rfl⟩:=List.getElem_of_mem hm;rw[List.getElem_set]
   split
   · eZ e
     exact⟨by rw[wv.1]; exact hj.lo,by rw[wv.1]; exact hj.hi,by rw[wv.2]; exact hj.ops,K4.2.1,by rw[wv.2]; exact K4.2.2,by rw[wv.1]; exact K4.1⟩
   · eZ e
     have DB:i<c.2.2.2.1.length:=by simpa using hi
     have m:=h.jobs _ (List.getElem_mem DB);refine⟨m.lo,m.hi,m.ops,m.st,m.yes,?_⟩;simp only[];rw[vH _ (B8 h.He DB hk (fun x=>e x.symm))]
     exact m.said
 · simp only[];rw[B9 hk wv.1];exact h.He
theorem qK{c:Co}{shard tx:Int}{yes:Bool}(h:dg c):dg (iP c shard tx yes):=by
 cases e:mC c shard tx with
 | none=>rw[vW e]; exact h
 | some k=>
  obtain⟨hk,_,h1,h2,h3,_⟩:=vU e;rw[vV e hk];exact B_ h hk h1 h2 h3
end cos
namespace cos
open Go Go.RowKit base aE aX lay lh
end cos
namespace cos
open Go Go.RowKit base aE aX lay lh
end cos
namespace lay
open Go Go.RowKit base
end lay
namespace cos
open Go Go.RowKit base aE aX lay lh
theorem mD{l:List Od}(h:b_ l=true):1≤l.length∧l.length≤8:=by
 unfold b_ at h;simp only[Bool.and_eq_true,decide_eq_true_eq] at h;exact h.2
end cos
end Go.Proofs.YtmibabclefgljaaGreat
