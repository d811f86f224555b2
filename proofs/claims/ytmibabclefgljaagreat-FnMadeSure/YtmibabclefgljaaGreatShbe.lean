/- CoHs CoBv CoTe CoTs GenMany CoTa -/
import Derived.Test.YtmibabclefgljaaGreatShbd
import Derived.Test.YtmibabclefgljaaGreatShaw
import Derived.Test.YtmibabclefgljaaGreatShba
import Derived.Test.YtmibabclefgljaaGreatShbb
import Derived.Test.YtmibabclefgljaaGreatShax
import Derived.Test.YtmibabclefgljaaGreatShaz
set_option linter.unusedVariables false
set_option linter.unusedSimpArgs false
namespace Go.Proofs.YtmibabclefgljaaGreat
namespace cos
open Go Go.RowKit base av aN lay kN
set_option maxRecDepth 100000 in
set_option maxHeartbeats 1000000 in
theorem D8(n ak next sure:Int)(ja:Option Addr)(jn jc:Nat)(la:Option Addr)(ln lc:Nat)(tx st:Int)(oa:Option Addr)(ol oc:Nat)(ya:Option Addr)(yl yc:Nat)(ops:List Od)(yes:List Int)(w:World)(Ar:(Lit.int .i64 tx).wf=true)(zG:dD w oa ol ops)(hY:tz w ya yl yes)(iO:ol≤8)(hn:(Lit.int .i64 n).wf=true):
 Calls Tryz.prog 163 #[.agg #[.int .i64 n,.int .i64 ak,.int .i64 next,.slice ja jn jc,.slice la ln lc,.int .i64 sure],.agg #[.int .i64 tx,.slice oa ol oc,.int .i64 st,.slice ya yl yc]] w (Qo w (gP n tx ops yes (aD n ops))):=by
 obtain⟨W0,Rk⟩:∃W,(w.alloc (.cells #[.int .i64 n,.int .i64 ak,.int .i64 next,.slice ja jn jc,.slice la ln lc,.int .i64 sure] 28)).alloc (.cells #[.int .i64 tx,.slice oa ol oc,.int .i64 st,.slice ya yl yc] 75)=W:=⟨_,rfl⟩;have IG:Below w.heap.size w W0:=by rw[←Rk]; exact((Below.refl _ _).alloc (Nat.le_refl _) _).alloc (by simp) _
 have Q4:au w.heap.size 28 [] [.int .i64 n,.int .i64 ak,.int .i64 next,.slice ja jn jc,.slice la ln lc,.int .i64 sure] [] W0:=by rw[←Rk]; exact(aE w _ _).below aJ
 have hJ0:au (w.heap.size+1) 75 [] [.int .i64 tx,.slice oa ol oc,.int .i64 st,.slice ya yl yc] [] W0:=by
  rw[←Rk];have:=aE (w.alloc (.cells #[.int .i64 n,.int .i64 ak,.int .i64 next,.slice ja jn jc,.slice la ln lc,.int .i64 sure] 28)) [.int .i64 tx,.slice oa ol oc,.int .i64 st,.slice ya yl yc] 75;rwa[show(w.alloc (.cells #[.int .i64 n,.int .i64 ak,.int .i64 next,.slice ja jn jc,.slice la ln lc,.int .i64 sure] 28)).heap.size=w.heap.size+1 by simp] at this
 obtain⟨W,hW⟩:∃W,W0.alloc (.cells #[] 112)=W:=⟨_,rfl⟩;have Lh:Below W0.heap.size W0 W:=by rw[←hW]; exact aJ
 have hB:=IG.trans (Lh.mono IG.size);have Gw:=KM W0;rw[hW] at Gw;have RZ:W0.heap.size=w.heap.size+1+1:=by rw[←Rk]; simp
 have Ld:W0.heap.size<W.heap.size:=by rw[←hW]; simp
 have hC:=Q4.below Lh;have hJ:=hJ0.below Lh;have hCl:=hC.lt;have Qp:=hJ.lt;obtain⟨a0,_,_,_,_,_⟩:=cells6 hC;obtain⟨j0,j1,j2,j3⟩:=cells4 hJ;have vN:=Hid.mk' (ez oa ol oc ops n W (zG.below hB) (by omega) hn)
 have Ya:=Hid.mk' (fun s (hs:(Lit.int .i64 s).wf=true) wx (hx:Below w.heap.size w wx)=>Ap oa ol oc ops s n wx (zG.below hx) (by omega) hn hs)
 have HCN:=Hid.mk' (fun s wx (hx:Below w.heap.size w wx)=>cI ya yl yc yes s wx (hY.below hx))
 have TQ:(aD n ops).length≤8:=ko n ops (by have:=zG.1; omega)
 have TR:∀s∈aD n ops,(Lit.int .i64 s).wf=true:=fun s hs=>by
  obtain⟨o,_,rfl⟩:=(fc n ops s).1 hs;exact qk _ _
 have HW:Hid (((w.alloc (.cells #[.int .i64 n,.int .i64 ak,.int .i64 next,.slice ja jn jc,.slice la ln lc,.int .i64 sure] 28)).alloc (.cells #[.int .i64 tx,.slice oa ol oc,.int .i64 st,.slice ya yl yc] 75)).alloc (.cells #[] 112)=W):=by show _=_; rw[Rk,hW]
 have Wv:=Hid.mk' TR;have Ln:=Hid.mk' a0;have HJ0:=Hid.mk' j0;have HJ1:=Hid.mk' j1;have Yb:=Hid.mk' j3;have x1:=j1;have y0:=a0;rw[←HW.out] at x1 y0;clear Rk hW zG hY TR hn j0 j1 j2 j3 a0;rw[RZ] at Gw;generalize aD n ops=sh at *;go_enter Tryz.func163,Tryz.ntmps163;go_wp2_with fail;rw[HW.out];refine vN.out.mono ?_;rintro e w1 ⟨gs,ns,cs,rfl,hZ,aT⟩;have eU:=hB.trans (aT.mono hB.size);have gi:=GO (R:=te) (ty:=112) Gw;have Yc:=gi.below aT;have hZs:=hZ.sl;have Yd:=hZ.1;have Ye:=hZ.lt;clear x1 y0 vN gi Gw;go_wp2_with fail;go_loopw [7,5] (fun i v wr=>∃(k g m cap:Nat) (q:dJ),k≤ns∧i=.int .i64 (k:Int)∧v=.slice (some ⟨g,0,none⟩) m cap∧bk 112 te wr (.slice (some ⟨g,0,none⟩) m cap) (gP n tx ops yes (sh.take k)) q∧(∀bb∈g::al q,w.heap.size+1+1≤bb)∧g≠gs∧Below w.heap.size w wr∧au w.heap.size 28 [] [.int .i64 n,.int .i64 ak,.int .i64 next,.slice ja jn jc,.slice la ln lc,.int .i64 sure] [] wr∧au (w.heap.size+1) 75 [] [.int .i64 tx,.slice oa ol oc,.int .i64 st,.slice ya yl yc] [] wr∧wr.heap[gs]? =w1.heap[gs]? ∧gs<wr.heap.size) (fun i _ _=>ns - (intOf i).toNat)
 case atStart=>exact⟨0,w.heap.size+1+1,0,0,[],Nat.zero_le _,rfl,rfl,Yc,fun bb hb=>by simp[al] at hb; omega,by omega,eU,hC.below aT,hJ.below aT,rfl,Ye.2⟩
 case round=>
  obtain⟨k,g,m,cap,q,hk,rfl,rfl,hO,hq,Qq,tt,Qr,BN,KO,zt⟩:=hrel;by_cases a6:k<ns
  · have ck:k<sh.length:=by omega
    have fL:(k:Int)<(ns:Int):=by omega
    have fl:=(hZ.kept KO).at k ck;have Cn:=Wv.out _ (List.getElem_mem ck);have xr:Hid (sh.take (k+1)=sh.take k++[sh[k]]):=List.take_succ_eq_append_getElem ck;have Le:Hid ((gP n tx ops yes (sh.take k)).length=m):=hO.nf.symm;have Zb:m≤8:=by have h1:=D6 n tx ops yes (sh.take k); rw[Le.out] at h1; simp at h1; omega
    have vL:=Hid.mk' (BM n tx ops yes (sh.take k) sh[k]);rw[←xr.out] at vL;generalize sh[k]=s at *;obtain⟨d0,d1,d2,d3⟩:=cells4 BN;have o3:=last.On.cell (B:=wr.heap.size) d3 (World.block_lt_of_cell? _ _ d3);have os:=last.On.cell (B:=wr.heap.size) fl (World.block_lt_of_cell? _ _ fl);have a_:=last.On.gV wr.heap.size wr;have dj:∀x:last.On wr.heap.size wr,Calls Tryz.prog 102 #[.slice ya yl yc,.int .i64 s] x.w fun e w'=>e=.returned (.bool (decide (s∈yes)))∧∃y:last.On wr.heap.size wr,w'=y.w:=fun x=>last.Calls.on x (Nat.le_refl _) ((HCN.out s x.w (tt.trans (x.2.mono tt.size))).mono fun e w' ⟨he,hw⟩=>⟨he,by rw[hw]; exact Below.refl _ _⟩)
    have HO:=Hid.mk' hO;have Ya:=Hid.mk' (fun wx hx=>Ya.out s Cn wx hx)
    clear hO d0 d1 d2 d3;by_cases gZ:s∈yes
    · have HR:Hid (gP n tx ops yes (sh.take (k+1))=gP n tx ops yes (sh.take k)):=by show _=_; rw[vL.out,if_pos gZ]
      rw[decide_eq_true gZ] at dj;clear gZ vL;go_wp2_with fail;refine last.ai wr.heap.size (by kernel_rfl) (by kernel_rfl) ?_
      repeat(go_big_quiet_step ((first | (go_at_call 102; with_reducible exact dj _))))
      refine wpQuiet_nil ?_;intro wq a8;obtain⟨xq,a8⟩:=a8;subst a8;have cV:Below wr.heap.size wr xq.w:=xq.2;generalize xq.w=w4 at *;clear o3 os dj a_;have hBq:=tt.trans (cV.mono tt.size);have Vw:w4.heap[gs]? =w1.heap[gs]? :=(cV.block gs zt).trans KO;have hqs:=cV.size;clear fl;go_wp2_with fail;go_roundw
      case rel=>exact⟨k+1,g,m,cap,q,by omega,by go_num,rfl,by rw[HR.out]; exact HO.out.below cV,hq,Qq,hBq,Qr.below cV,BN.below cV,Vw,by omega⟩
      case measure=>simp[intOf]; omega
    · have HR:Hid (gP n tx ops yes (sh.take (k+1))=gP n tx ops yes (sh.take k)++[(1,s,tx,dM s n ops,false)]):=by show _=_; rw[vL.out,if_neg gZ]
      rw[decide_eq_false gZ] at dj;clear gZ vL;go_wp2_with fail;refine last.ai wr.heap.size (by kernel_rfl) (by kernel_rfl) ?_
      repeat(go_big_quiet_step ((first | (go_at_call 102; with_reducible exact dj _))))
      refine wpQuiet_nil ?_;intro wq a8;obtain⟨xq,a8⟩:=a8;subst a8;have cV:Below wr.heap.size wr xq.w:=xq.2;generalize xq.w=w4 at *;clear o3 os dj a_;replace tt:=tt.trans (cV.mono tt.size);replace KO:w4.heap[gs]? =w1.heap[gs]? :=(cV.block gs zt).trans KO;replace fl:=(cV.cell (p:=⟨gs,k,none⟩) zt).trans fl;replace HO:=Hid.mk' (HO.out.below cV);replace Qr:=Qr.below cV;replace BN:=BN.below cV;replace zt:gs<w4.heap.size:=Nat.lt_of_lt_of_le zt cV.size;clear cV;generalize a8:w4=N0 at *;clear a8;go_wp2_with fail;have eJ:Below N0.heap.size N0 N0.drew:=(Below.refl _ _).drew;refine last.aq (S:=fun w'=>(au w.heap.size 28 [] [.int .i64 n,.int .i64 ak,.int .i64 next,.slice ja jn jc,.slice la ln lc,.int .i64 sure] [] w'∧au (w.heap.size+1) 75 [] [.int .i64 tx,.slice oa ol oc,.int .i64 st,.slice ya yl yc] [] w')∧w'.cell? ⟨gs,k,none⟩=some (.int .i64 s)) 19 (by kernel_rfl) ⟨⟨Qr.below eJ,BN.below eJ⟩,fl⟩ (fun af=>?_)
      generalize hD:N0.drew=D at *;clear hD;refine last.wpTk 0 (.slice (some ⟨g,0,none⟩) m cap) rfl rfl ?_ ?_
      · intro wq ar; go_simp
      try simp only[Act.put,zP,zQ,zR]
      refine last.wpTk 1 (.slice (some ⟨gs,0,none⟩) ns cs) rfl rfl ?_ ?_
      · intro wq ar; go_simp
      try simp only[Act.put,zP,zQ,zR]
      refine last.wpTk 2 (.int .i64 (k:Int)) rfl rfl ?_ ?_
      · intro wq ar; go_simp
      try simp only[Act.put,zP,zQ,zR]
      refine last.wpTk 3 (.pointer (some ⟨gs,k,none⟩)) rfl rfl ?_ ?_
      · intro wq ar; go_simp
      try simp only[Act.put,zP,zQ,zR]
      refine last.wpTk 4 (.int .i64 s) rfl rfl ?_ ?_
      · intro wq ar; have q:=ar.2; go_simp
      try simp only[Act.put,zP,zQ,zR]
      refine last.wpTk 5 (.pointer (some ⟨w.heap.size+1,0,none⟩)) rfl rfl ?_ ?_
      · intro wq ar; go_simp
      try simp only[Act.put,zP,zQ,zR]
      refine last.wpTk 6 (.int .i64 tx) rfl rfl ?_ ?_
      · intro wq ar; have q:=(cells4 ar.1.2).1; go_simp
      try simp only[Act.put,zP,zQ,zR]
      refine last.wpTk 7 (.pointer (some ⟨w.heap.size+1,1,none⟩)) rfl rfl ?_ ?_
      · intro wq ar; go_simp
      try simp only[Act.put,zP,zQ,zR]
      refine last.wpTk 8 (.slice oa ol oc) rfl rfl ?_ ?_
      · intro wq ar; have q:=(cells4 ar.1.2).2.1; go_simp
      try simp only[Act.put,zP,zQ,zR]
      refine last.wpTk 9 (.slice (some ⟨gs,0,none⟩) ns cs) rfl rfl ?_ ?_
      · intro wq ar; go_simp
      try simp only[Act.put,zP,zQ,zR]
      refine last.wpTk 10 (.int .i64 (k:Int)) rfl rfl ?_ ?_
      · intro wq ar; go_simp
      try simp only[Act.put,zP,zQ,zR]
      refine last.wpTk 11 (.pointer (some ⟨gs,k,none⟩)) rfl rfl ?_ ?_
      · intro wq ar; go_simp
      try simp only[Act.put,zP,zQ,zR]
      refine last.wpTk 12 (.int .i64 s) rfl rfl ?_ ?_
      · intro wq ar; have q:=ar.2; go_simp
      try simp only[Act.put,zP,zQ,zR]
      refine last.wpTk 13 (.pointer (some ⟨w.heap.size,0,none⟩)) rfl rfl ?_ ?_
      · intro wq ar; go_simp
      try simp only[Act.put,zP,zQ,zR]
      refine last.wpTk 14 (.int .i64 n) rfl rfl ?_ ?_
      · intro wq ar; have q:=(cells6 ar.1.1).1; go_simp
      try simp only[Act.put,zP,zQ,zR]
      refine last.an (i:=15) (o:={dst:=some 43,op:=Op.call {callee:=Callee.value (Operand.func 180),args:=#[Operand.tmp 36,Operand.tmp 40,Operand.tmp 42],argTypes:=#[73,3,3]},type:=73,pos:= "l11_coord.go:85",after:=#[{on:=8,ground:=Ground.data},{on:=12,ground:=Ground.data},{on:=14,ground:=Ground.data}],guard:=none}) (by kernel_rfl) rfl (fun K hK=>?_)
      refine fV.call3 rfl 180 (.tmp 36) (.tmp 40) (.tmp 42) _ rfl (fun _ _=>rfl) (.slice oa ol oc) (.int .i64 s) (.int .i64 n) (by kernel_rfl) (by kernel_rfl) (by kernel_rfl) _ (Ya.out D (tt.trans (eJ.mono tt.size))) ?_
      rintro e w3 ⟨go,no,co,rfl,Yf,dt⟩;refine⟨_,rfl,?_⟩;have cJ:Below N0.heap.size N0 w3:=eJ.trans (dt.mono eJ.size);have hDs:=eJ.size;refine hK.out _ _ ?_ (fun ag=>?_)
      · exact⟨⟨Qr.below cJ,BN.below cJ⟩,(cJ.cell (p:=⟨gs,k,none⟩) zt).trans fl⟩
      clear hK K af;have af:=ag;clear ag;try simp only[Act.put,zP,zQ,zR]
      refine last.wpTk 16 (.agg #[.int .i64 1,.int .i64 s,.int .i64 tx,.slice (some ⟨go,0,none⟩) no co,.bool false]) rfl rfl ?_ ?_
      · intro wq ar; go_simp
      try simp only[Act.put,zP,zQ,zR]
      refine last.an (i:=17) (o:={dst:=some 45,op:=Op.buildSlice 30 1 #[(0,Operand.tmp 44)],type:=30,pos:= "l11_coord.go:85",after:=#[{on:=16,ground:=Ground.data}],guard:=none}) (by kernel_rfl) rfl (fun K hK=>?_)
      go_simp;obtain⟨V,hV⟩:∃V,w3.alloc (.cells #[.int .i64 1,.int .i64 s,.int .i64 tx,.slice (some ⟨go,0,none⟩) no co,.bool false] 112)=V:=⟨_,rfl⟩;have mZ:Below w3.heap.size w3 V:=by rw[←hV]; exact aJ
      have hX:au w3.heap.size 112 [] [.int .i64 1,.int .i64 s,.int .i64 tx,.slice (some ⟨go,0,none⟩) no co,.bool false] [] V:=by rw[←hV]; exact aE w3 _ _
      have kV:=cJ.trans (mZ.mono cJ.size);rw[hV];refine hK.out _ _ ?_ (fun ag=>?_)
      · exact⟨⟨Qr.below kV,BN.below kV⟩,(kV.cell (p:=⟨gs,k,none⟩) zt).trans fl⟩
      clear hK K af;have af:=ag;clear ag;try simp only[Act.put,zP,zQ,zR]
      refine last.an (i:=18) (o:={dst:=some 46,op:=Op.call {callee:=Callee.builtin Builtin.append,args:=#[Operand.tmp 28,Operand.tmp 45],argTypes:=#[30,30]},type:=30,pos:= "l11_coord.go:85",after:=#[{on:=0,ground:=Ground.data},{on:=17,ground:=Ground.data},{on:=15,ground:=Ground.chain}],guard:=none}) (by kernel_rfl) rfl (fun K hK=>?_)
      have hgo:=Yf.lt;have nv:=HO.out.below kV;have M1:=HO.out.Rg;have JN:te.own V [.int .i64 1,.int .i64 s,.int .i64 tx,.slice (some ⟨go,0,none⟩) no co,.bool false] (1,s,tx,dM s n ops,false) [go]:=KL.2 ⟨_,rfl,by show(Lit.int .i64 1).wf=true; decide,Cn,Ar,ik.2 ⟨(fv (Yf.below mZ)).mono (Nat.zero_le _),rfl⟩⟩
      obtain⟨g',aO,w4,dh,dT,jF,D9⟩:=bk.zp (P:=Tryz.prog) (z:=.agg #[.int .i64 0,.int .i64 0,.int .i64 0,.slice none 0 0,.bool false]) Tryz.underlying30 TP rfl (by decide) nv JN (fun b hb hc=>by
       rw[List.mem_singleton] at hb;have h2:=M1 b (by simpa[Value.ownBlock] using hc)
       omega) hX (by rw[Le.out]; unfold maxLen; omega) (by rw[Le.out]; omega) 30
      rw[Le.out] at dh dT;refine cO rfl (.tmp 28) (.tmp 45) 30 rfl (by kernel_rfl) (by kernel_rfl) dh ?_
      have hqg:=hq g (by simp)
      have hws:=tt.size;have ry:∀bb,(Value.slice (some ⟨g,0,none⟩) m cap).ownBlock=some bb→g=bb:=fun bb e=>by simpa[Value.ownBlock] using e
      have TS:=tt.trans (kV.mono tt.size);have ej:Below w.heap.size w w4:=TS.grown jF TS.size (fun bb e=>by have:=ry bb e; omega)
      have TT:∀bb,bb<N0.heap.size→bb≠g→w4.heap[bb]? =N0.heap[bb]? :=fun bb h1 h2=>(jF.block bb (Nat.lt_of_lt_of_le h1 kV.size) (fun e=>h2 (ry bb e.symm).symm)).trans (kV.block bb h1)
      have Yg:w4.heap[gs]? =w1.heap[gs]? :=(TT gs zt (fun e=>Qq e.symm)).trans KO
      have Bk:=(Qr.below kV).grown jF (fun e=>by have:=ry _ e.symm; omega)
      have rh:=(BN.below kV).grown jF (fun e=>by have:=ry _ e.symm; omega)
      have Yh:w4.cell? ⟨gs,k,none⟩=some (.int .i64 s):=(World.cell?_of_block (TT gs zt (fun e=>Qq e.symm))).trans fl
      have Nc:∀bb∈g'::al (q++[([.int .i64 1,.int .i64 s,.int .i64 tx,.slice (some ⟨go,0,none⟩) no co,.bool false],[go])]),w.heap.size+1+1≤bb:=fun bb hb=>by
       rw[aQ] at hb;have Vk:=kV.size;rcases List.mem_cons.1 hb with e | e
       · rcases D9 with e2 | e2
         · have:g=g':=by simpa[Value.ownBlock] using e2
           omega
         · omega
       · rcases List.mem_append.1 e with e | e
         · exact hq bb (List.mem_cons_of_mem _ e)
         · have:bb=go:=by simpa[al] using e
           omega
      have zC:g'≠gs:=by
       have Vk:=kV.size;rcases D9 with e2 | e2
       · have:g=g':=by simpa[Value.ownBlock] using e2
         omega
       · omega
      rw[←HR.out] at dT;have H_:=Hid.mk' dT;have HQ4:=Hid.mk' Nc;have hs44:=jF.size;have hs45:=kV.size;clear dh dT Nc jF hX JN nv Yf;refine hK.out _ _ ?_ (fun ag=>?_)
      · exact⟨⟨Bk,rh⟩,Yh⟩
      clear hK K af;have af:=ag;clear ag;try simp only[Act.put,zP,zQ,zR]
      refine last.aC (o:={dst:=some 5,op:=Op.assign (Operand.tmp 46),type:=30,pos:= "l11_coord.go:85",after:=#[{on:=18,ground:=Ground.data},{on:=18,ground:=Ground.chain},{on:=0,ground:=Ground.phase},{on:=1,ground:=Ground.phase},{on:=2,ground:=Ground.phase},{on:=3,ground:=Ground.phase},{on:=4,ground:=Ground.phase},{on:=5,ground:=Ground.phase},{on:=6,ground:=Ground.phase},{on:=7,ground:=Ground.phase},{on:=8,ground:=Ground.phase},{on:=9,ground:=Ground.phase},{on:=10,ground:=Ground.phase},{on:=11,ground:=Ground.phase},{on:=12,ground:=Ground.phase},{on:=13,ground:=Ground.phase},{on:=14,ground:=Ground.phase},{on:=15,ground:=Ground.phase},{on:=16,ground:=Ground.phase},{on:=17,ground:=Ground.phase},{on:=18,ground:=Ground.phase}],guard:=none}) (by kernel_rfl) rfl (by kernel_rfl) (fun K hK=>?_)
      go_simp;refine hK.out _ _ ?_;clear hK K;go_wp2_with fail;go_roundw
      case rel=>exact⟨k+1,g',m+1,aO,_,by omega,by go_num,rfl,H_.out,HQ4.out,zC,ej,Bk,rh,Yg,by omega⟩
      case measure=>simp[intOf]; omega
  · have EF:sh.take k=sh:=List.take_of_length_le (by omega)
    rw[EF] at hO;have fL:¬(k:Int)<(ns:Int):=by omega
    go_wp2_with fail;go_ret;exact⟨_,_,_,q,rfl,hO,fun bb hb=>by have:=hq bb hb; omega,tt⟩
end cos
namespace cos
open Go Go.RowKit base av aN kN
structure rm (n ak next:Int) (log:List Ch) (j:Jb):Prop where
 lo:ak * 1000≤j.1
 hi:j.1≤ak * 1000+next - 1
 ops:bM j.2.1=true
 st:1≤j.2.2.1∧j.2.2.1≤3
 yes:dK (aD n j.2.1) none j.2.2.2=true
 said:fy j.2.2.1 (choice log j.1)=true
theorem GQ{n ak next:Int}{log:List Ch}{p:Option Int}{j:Jb}:eF n ak next log p j=true↔rm n ak next log j∧∀q,p=some q→q<j.1:=by
 unfold eF;simp only[Bool.and_eq_true,decide_eq_true_eq];constructor
 · rintro⟨⟨⟨⟨⟨h1,h2⟩,h3⟩,h4⟩,h5⟩,h6⟩;refine⟨⟨h1.1,h1.2,h3,h4,h5,h6⟩,fun q e=>?_⟩
   subst e;simpa using h2
 · rintro⟨h,hp⟩;refine⟨⟨⟨⟨⟨⟨h.lo,h.hi⟩,?_⟩,h.ops⟩,h.st⟩,h.yes⟩,h.said⟩;cases p with
   | none=>rfl
   | some q=>exact decide_eq_true (hp q rfl)
theorem D_{n ak next:Int}{log:List Ch}:∀ {l:List Jb} {p:Option Int},eC n ak next log p l=true↔(∀j∈l,rm n ak next log j)∧(l.map fun j=>j.1).Pairwise (· < ·)∧∀q,p=some q→∀j∈l,q<j.1:=by
 intro l
 induction l with
 | nil=>intro p; simp[eC]
 | cons x l ih=>
  intro p;unfold eC;rw[Bool.and_eq_true,GQ,ih];constructor
  · rintro⟨⟨h1,h2⟩,h3,h4,h5⟩;refine⟨fun j hj=>?_,?_,fun q e j hj=>?_⟩
    · rcases List.mem_cons.1 hj with rfl | hj
      · exact h1
      · exact h3 j hj
    · rw[List.map_cons,List.pairwise_cons];refine⟨fun z hz=>?_,h4⟩
      obtain⟨j,hj,rfl⟩:=List.mem_map.1 hz;exact h5 x.1 rfl j hj
    · rcases List.mem_cons.1 hj with rfl | hj
      · exact h2 q e
      · have:=h2 q e;have:=h5 x.1 rfl j hj;omega
  · rintro⟨h1,h2,h3⟩;rw[List.map_cons,List.pairwise_cons] at h2;refine⟨⟨h1 x List.mem_cons_self,fun q e=>h3 q e x List.mem_cons_self⟩,fun j hj=>h1 j (List.mem_cons_of_mem _ hj),h2.2,fun q e j hj=>?_⟩
    cases e;exact h2.1 j.1 (List.mem_map.2 ⟨j,hj,rfl⟩)
structure cS (c:Co):Prop where
 n:1≤c.1∧c.1≤8
 ak:1≤c.2.1∧c.2.1≤900
 next:0≤c.2.2.1∧c.2.2.1≤999
 jB:c.2.2.2.2.1.length≤1000
 sure:0≤c.2.2.2.2.2∧c.2.2.2.2.2≤(c.2.2.2.2.1.length:Int)
 range:∀x∈c.2.2.2.2.1,1000≤x.1∧x.1≤c.2.1 * 1000+c.2.2.1 - 1
 nodup:(c.2.2.2.2.1.map fun x=>x.1).Nodup
 jobs:∀j∈c.2.2.2.1,rm c.1 c.2.1 c.2.2.1 c.2.2.2.2.1 j
 GR:(c.2.2.2.1.map fun j=>j.1).Pairwise (· < ·)
theorem sj{c:Co}:be c=true↔cS c:=by
 unfold be J3 cU;simp only[Bool.and_eq_true,decide_eq_true_eq,D_,List.all_eq_true];constructor
 · rintro⟨⟨⟨⟨⟨⟨h1,h2⟩,h3⟩,h4⟩,h5⟩,h6,h7⟩,h8,h9,_⟩;exact⟨h1,h2,h3,h4,h5,h6,h7,h8,h9⟩
 · intro h;exact⟨⟨⟨⟨⟨⟨h.n,h.ak⟩,h.next⟩,h.jB⟩,h.sure⟩,h.range,h.nodup⟩,h.jobs,h.GR,fun q e=>by cases e⟩
theorem xX{list:List Int}:∀ {l:List Int} {p:Option Int},dK list p l=true↔(∀x∈l,x∈list)∧tm l∧∀q,p=some q→∀x∈l,q<x:=by
 intro l
 induction l with
 | nil=>intro p; simp[dK,tm]
 | cons y l ih=>
  intro p;unfold dK;rw[Bool.and_eq_true,Bool.and_eq_true,decide_eq_true_eq,ih];constructor
  · rintro⟨⟨h1,h2⟩,h3,h4,h5⟩;refine⟨fun x hx=>?_,?_,fun q e x hx=>?_⟩
    · rcases List.mem_cons.1 hx with rfl | hx
      · exact h1
      · exact h3 x hx
    · unfold tm;rw[List.pairwise_cons];exact⟨fun z hz=>h5 y rfl z hz,h4⟩
    · subst e;have Jr:q<y:=by simpa using h2
      rcases List.mem_cons.1 hx with rfl | hx
      · exact Jr
      · have:=h5 y rfl x hx;omega
  · rintro⟨h1,h2,h3⟩;unfold tm at h2;rw[List.pairwise_cons] at h2;refine⟨⟨h1 y List.mem_cons_self,?_⟩,fun x hx=>h1 x (List.mem_cons_of_mem _ hx),h2.2,fun q e x hx=>?_⟩
    · cases p with
      | none=>rfl
      | some q=>exact decide_eq_true (h3 q rfl y List.mem_cons_self)
    · cases e; exact h2.1 x hx
theorem Ea{log:List Ch}{tx:Int}(h:∀x∈log,x.1≠tx):choice log tx=none:=by
 cases e:choice log tx with
 | none=>rfl
 | some y=>exact absurd rfl (h _ (pL e))
theorem ox{log:List Ch}{tx t:Int}{y:Bool}:choice (log++[(tx,y)]) t=if choice log t=none∧t=tx then some y else choice log t:=by
 unfold choice;rw[List.find?_append];cases e:log.find? (fun c=>decide (c.1=t)) with
 | none=>
  by_cases ht:t=tx
  · subst ht; simp[List.find?_cons]
  · have:¬tx=t:=fun e=>ht e.symm
    simp[List.find?_cons,ht,this]
 | some c=>simp
/-! ### what begins -/
def ix(c:Co):Int:=c.2.1 * 1000+c.2.2.1
def KP(c:Co)(ops:List Od):Co:=(c.1,c.2.1,c.2.2.1+1,c.2.2.2.1++[(ix c,ops,1,[])],c.2.2.2.2.1,c.2.2.2.2.2)
def kq(c:Co)(ops:List Od):Bool:=bM ops && decide (c.2.2.1≠999) && decide (c.2.2.2.2.1.length<1000)
theorem BO{c:Co}{ops:List Od}(h:cS c)(hm:kq c ops=true):cS (KP c ops):=by
 unfold kq at hm;simp only[Bool.and_eq_true,decide_eq_true_eq] at hm;obtain⟨⟨h1,h2⟩,h3⟩:=hm;have hn:=h.next;have hl:=h.ak;have jz:choice c.2.2.2.2.1 (ix c)=none:=Ea fun x hx e=>by
  have:=(h.range x hx).2;unfold ix at e;omega
 refine⟨h.n,h.ak,⟨by show 0≤c.2.2.1+1; omega,by show c.2.2.1+1≤999; omega⟩,h.jB,h.sure,fun x hx=>?_,h.nodup,fun j hj=>?_,?_⟩
 · have:=h.range x hx;show 1000≤x.1∧x.1≤c.2.1 * 1000+(c.2.2.1+1) - 1;omega
 · rcases List.mem_append.1 hj with hj | hj
   · have k:=h.jobs j hj;have:=k.hi;exact⟨k.lo,by show j.1≤c.2.1 * 1000+(c.2.2.1+1) - 1; omega,k.ops,k.st,k.yes,k.said⟩
   · have:j=(ix c,ops,1,[]):=by simpa using hj
     subst this;refine⟨by show c.2.1 * 1000≤ix c; unfold ix; omega,by show ix c≤c.2.1 * 1000+(c.2.2.1+1) - 1; unfold ix; omega,h1,⟨(by decide:(1:Int)≤1),(by decide:(1:Int)≤3)⟩,rfl,?_⟩
     show fy 1 (choice c.2.2.2.2.1 (ix c))=true;rw[jz]; rfl
 · show((c.2.2.2.1++[(ix c,ops,1,[])]).map fun(j:Jb)=>j.1).Pairwise (· < ·)
   rw[List.map_append,List.pairwise_append];refine⟨h.GR,by simp,fun a ha b hb=>?_⟩
   obtain⟨j,hj,rfl⟩:=List.mem_map.1 ha;have aU:b=ix c:=by simpa using hb
   have:=(h.jobs j hj).hi;subst aU;unfold ix;omega
/-! ### what is voted -/
def ll(j:Jb)(list:List Int)(shard:Int)(yes:Bool):Jb × Option Bool:=
 if yes=true then(if(eV j.2.2.2 shard).length=list.length then((j.1,j.2.1,2,eV j.2.2.2 shard),some true) else((j.1,j.2.1,j.2.2.1,eV j.2.2.2 shard),none)) else((j.1,j.2.1,3,j.2.2.2),some false)
def m9(log:List Ch)(tx:Int):Option Bool→List Ch
 | none=>log
 | some y=>log++[(tx,y)]
def l_(c:Co)(shard tx:Int):Option Nat:=
 match pH c.2.2.2.1 tx with
 | none=>none
 | some k=>match c.2.2.2.1[k]? with
  | none=>none
  | some j=>if j.2.2.1=1∧c.2.2.2.2.1.length<1000∧shard∈aD c.1 j.2.1 then some k else none
def oy(c:Co)(k:Nat)(j:Jb)(shard:Int)(yes:Bool):Co:=
 (c.1,c.2.1,c.2.2.1,c.2.2.2.1.set k (ll j (aD c.1 j.2.1) shard yes).1,m9 c.2.2.2.2.1 j.1 (ll j (aD c.1 j.2.1) shard yes).2,c.2.2.2.2.2)
def iy(c:Co)(shard tx:Int)(yes:Bool):Co:=
 match l_ c shard tx with
 | none=>c
 | some k=>match c.2.2.2.1[k]? with
  | none=>c
  | some j=>oy c k j shard yes
theorem vB{c:Co}{shard tx:Int}{k:Nat}(h:l_ c shard tx=some k):∃hk:k<c.2.2.2.1.length,c.2.2.2.1[k].1=tx∧c.2.2.2.1[k].2.2.1=1∧c.2.2.2.2.1.length<1000∧shard∈aD c.1 c.2.2.2.1[k].2.1∧pH c.2.2.2.1 tx=some k:=by
 unfold l_ at h;cases e:pH c.2.2.2.1 tx with
 | none=>rw[e] at h; cases h
 | some i=>
  rw[e] at h;obtain⟨hi,h1,_⟩:=jK e;simp only[List.getElem?_eq_getElem hi] at h
  split at h
  · rename_i hc
    cases h;exact⟨hi,of_decide_eq_true h1,hc.1,hc.2.1,hc.2.2,rfl⟩
  · cases h
theorem vC{c:Co}{shard tx:Int}{yes:Bool}{k:Nat}(h:l_ c shard tx=some k)(hk:k<c.2.2.2.1.length):iy c shard tx yes=oy c k c.2.2.2.1[k] shard yes:=by
 unfold iy;rw[h];simp only[List.getElem?_eq_getElem hk]
theorem vD{c:Co}{shard tx:Int}{yes:Bool}(h:l_ c shard tx=none):iy c shard tx yes=c:=by unfold iy; rw[h]
theorem BP{list yes:List Int}{s:Int}(h:dK list none yes=true)(hs:s∈list):dK list none (eV yes s)=true:=by
 rw[xX] at h ⊢;refine⟨fun x hx=>?_,z7 h.2.1 _,fun q e=>by cases e⟩
 rcases(ub yes s x).1 hx with e | e
 · exact h.1 x e
 · rw[e]; exact hs
theorem GU(j:Jb)(list:List Int)(shard:Int)(yes:Bool):(ll j list shard yes).1.1=j.1∧(ll j list shard yes).1.2.1=j.2.1:=by
 unfold ll
 split
 · split <;> exact⟨rfl,rfl⟩
 · exact⟨rfl,rfl⟩
theorem BQ{l:List Jb}(h:(l.map fun j=>j.1).Pairwise (· < ·)){i k:Nat}(hi:i<l.length)(hk:k<l.length)(aW:i≠k):l[i].1≠l[k].1:=by
 have h1:=List.pairwise_iff_getElem.1 h;simp only[List.length_map,List.getElem_map] at h1;rcases Nat.lt_or_ge i k with e | e
 · have:=h1 i k hi hk e; omega
 · have:=h1 k i hk hi (by omega); omega
theorem BR{l:List Jb}{k:Nat}{j:Jb}(hk:k<l.length)(h:j.1=l[k].1):((l.set k j).map fun j=>j.1)=l.map fun j=>j.1:=by
 rw[List.map_set];refine List.ext_getElem (by simp) fun i h1 h2=>?_
 rw[List.getElem_set]
 split
 · rename_i e; subst e; simp[h]
 · rfl
theorem BS{c:Co}{k:Nat}{shard:Int}{yes:Bool}(h:cS c)(hk:k<c.2.2.2.1.length)(h1:c.2.2.2.1[k].2.2.1=1)(hl:c.2.2.2.2.1.length<1000)(hs:shard∈aD c.1 c.2.2.2.1[k].2.1):cS (oy c k c.2.2.2.1[k] shard yes):=by
 have hj:=h.jobs _ (List.getElem_mem hk);have jY:choice c.2.2.2.2.1 c.2.2.2.1[k].1=none:=by
  have:=hj.said;rw[h1] at this;cases e:choice c.2.2.2.2.1 c.2.2.2.1[k].1 with
  | none=>rfl
  | some y=>rw[e] at this; cases y <;> simp[fy] at this
 have I5:∀y,(c.2.2.2.1[k].1,y)∉c.2.2.2.2.1:=fun y hm=>by rw[pK h.nodup hm] at jY; cases jY
 have rl:=h.ak;obtain⟨r,hr⟩:∃r,ll c.2.2.2.1[k] (aD c.1 c.2.2.2.1[k].2.1) shard yes=r:=⟨_,rfl⟩;have vQ:=GU c.2.2.2.1[k] (aD c.1 c.2.2.2.1[k].2.1) shard yes;rw[hr] at vQ;have p7:∀x∈m9 c.2.2.2.2.1 c.2.2.2.1[k].1 r.2,x∈c.2.2.2.2.1∨x.1=c.2.2.2.1[k].1:=fun x hx=>by
  cases e:r.2 with
  | none=>rw[e] at hx; exact .inl hx
  | some y=>
   rw[e] at hx;rcases List.mem_append.1 hx with hx | hx
   · exact .inl hx
   · have:x=(c.2.2.2.1[k].1,y):=by simpa using hx
     subst this; exact .inr rfl
 have hlen:(m9 c.2.2.2.2.1 c.2.2.2.1[k].1 r.2).length≤1000∧c.2.2.2.2.1.length≤(m9 c.2.2.2.2.1 c.2.2.2.1[k].1 r.2).length:=by
  cases e:r.2 with
  | none=>exact⟨by show c.2.2.2.2.1.length≤1000; omega,Nat.le_refl _⟩
  | some y=>unfold m9; simp only[List.length_append,List.length_cons,List.length_nil]; omega
 have vh:∀t,t≠c.2.2.2.1[k].1→choice (m9 c.2.2.2.2.1 c.2.2.2.1[k].1 r.2) t=choice c.2.2.2.2.1 t:=fun t ht=>by
  cases e:r.2 with
  | none=>rfl
  | some y=>unfold m9; rw[ox,if_neg (fun e=>ht e.2)]
 have KQ:fy r.1.2.2.1 (choice (m9 c.2.2.2.2.1 c.2.2.2.1[k].1 r.2) c.2.2.2.1[k].1)=true∧(1≤r.1.2.2.1∧r.1.2.2.1≤3)∧dK (aD c.1 c.2.2.2.1[k].2.1) none r.1.2.2.2=true:=by
  rw[←hr];unfold ll
  split
  · split
    · refine⟨?_,⟨(by decide:(1:Int)≤2),(by decide:(2:Int)≤3)⟩,BP hj.yes hs⟩
      show fy 2 (choice (c.2.2.2.2.1++[(c.2.2.2.1[k].1,true)]) c.2.2.2.1[k].1)=true;rw[ox,if_pos ⟨jY,rfl⟩]; rfl
    · refine⟨?_,hj.st,BP hj.yes hs⟩;show fy c.2.2.2.1[k].2.2.1 (choice c.2.2.2.2.1 c.2.2.2.1[k].1)=true;exact hj.said
  · refine⟨?_,⟨(by decide:(1:Int)≤3),(by decide:(3:Int)≤3)⟩,hj.yes⟩
    show fy 3 (choice (c.2.2.2.2.1++[(c.2.2.2.1[k].1,false)]) c.2.2.2.1[k].1)=true;rw[ox,if_pos ⟨jY,rfl⟩]; rfl
 have dW:((m9 c.2.2.2.2.1 c.2.2.2.1[k].1 r.2).map fun x=>x.1).Nodup:=by
  cases e:r.2 with
  | none=>exact h.nodup
  | some y=>
   unfold m9;rw[List.map_append,List.nodup_append];refine⟨h.nodup,by simp,fun a ha b hb e2=>?_⟩
   obtain⟨x,hx,rfl⟩:=List.mem_map.1 ha;have aU:b=c.2.2.2.1[k].1:=by simpa using hb
   rw[aU] at e2;exact I5 x.2 (by rw[←e2]; exact hx)
 unfold oy;rw[hr];refine⟨h.n,h.ak,h.next,hlen.1,⟨h.sure.1,by have:=h.sure.2; have:=hlen.2; show c.2.2.2.2.2≤_; simp only[]; omega⟩,fun x hx=>?_,dW,fun j hm=>?_,?_⟩
 · rcases p7 x hx with e | e
   · exact h.range x e
   · have a:=hj.lo;have b:=hj.hi;simp only[];rw[e];exact⟨by omega,b⟩
 · simp only[] at hm;obtain⟨i,hi,rfl⟩:=List.getElem_of_mem hm;rw[List.getElem_set]
   split
   · rename_i e
     exact⟨by rw[vQ.1]; exact hj.lo,by rw[vQ.1]; exact hj.hi,by rw[vQ.2]; exact hj.ops,KQ.2.1,by rw[vQ.2]; exact KQ.2.2,by rw[vQ.1]; exact KQ.1⟩
   · rename_i e
     have Dl:i<c.2.2.2.1.length:=by simpa using hi
     have m:=h.jobs _ (List.getElem_mem Dl);refine⟨m.lo,m.hi,m.ops,m.st,m.yes,?_⟩;simp only[];rw[vh _ (BQ h.GR Dl hk (fun x=>e x.symm))]
     exact m.said
 · simp only[];rw[BR hk vQ.1];exact h.GR
theorem qp{c:Co}{shard tx:Int}{yes:Bool}(h:cS c):cS (iy c shard tx yes):=by
 cases e:l_ c shard tx with
 | none=>rw[vD e]; exact h
 | some k=>
  obtain⟨hk,_,h1,h2,h3,_⟩:=vB e;rw[vC e hk];exact BS h hk h1 h2 h3
end cos
namespace cos
open Go Go.RowKit base av aN lay kN
end cos
namespace cos
open Go Go.RowKit base av aN lay kN
end cos
namespace lay
open Go Go.RowKit base
end lay
namespace cos
open Go Go.RowKit base av aN lay kN
theorem mb{l:List Od}(h:bM l=true):1≤l.length∧l.length≤8:=by
 unfold bM at h;simp only[Bool.and_eq_true,decide_eq_true_eq] at h;exact h.2
end cos
end Go.Proofs.YtmibabclefgljaaGreat
