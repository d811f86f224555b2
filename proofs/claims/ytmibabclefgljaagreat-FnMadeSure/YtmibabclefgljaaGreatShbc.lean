/- CoD CoW CoY -/
import Derived.Test.YtmibabclefgljaaGreatShay
import Derived.Test.YtmibabclefgljaaGreatShaz
import Derived.Test.YtmibabclefgljaaGreatShbb
import Derived.Deep.RegionHeldLaw
set_option linter.unusedVariables false
set_option linter.unusedSimpArgs false
set_option maxRecDepth 100000
set_option maxHeartbeats 4000000
namespace Go.Proofs.YtmibabclefgljaaGreat
namespace cos
open Go Go.RowKit base av aN lay kN
def bI(c:Co):Co:=if be c=true then(c.1,c.2.1,c.2.2.1,c.2.2.2.1,c.2.2.2.2.1,(c.2.2.2.2.1.length:Int)) else c
theorem GM{X:Nat}{n ak next sure:Int}{ja:Option Addr}{jn jc:Nat}{la:Option Addr}{ln lc:Nat}{w:World}(h:fh X n ak next sure ja jn jc la ln lc w)(z:Int):fh X n ak next z ja jn jc la ln lc (w.setCell ⟨X,5,none⟩ (.int .i64 z))∧w.grownBy (w.setCell ⟨X,5,none⟩ (.int .i64 z)) (some X):=bw h 5 _
theorem ye(ja:Option Addr)(jn jc:Nat)(la:Option Addr)(ln lc:Nat)(c:Co)(w:World)(h:kQ w ja jn jc la ln lc c)(hf:rC c)(U7:∀j∈c.2.2.2.1,j.2.2.2.length≤1099511627776):
 Calls Tryz.prog 22 #[Gs c.1 c.2.1 c.2.2.1 c.2.2.2.2.2 ja jn jc la ln lc] w fun e w'=>km w jn ln (bI c) e w':=by
 have lP:=h.log.1;have Nl:=h.log.2.1;unfold maxLen at Nl;obtain⟨W,hW⟩:∃W,(w.alloc (kr c.1 c.2.1 c.2.2.1 c.2.2.2.2.2 ja jn jc la ln lc)).alloc (kr 0 0 0 0 none 0 0 none 0 0)=W:=⟨_,rfl⟩;have hB:Below w.heap.size w W:=by rw[←hW]; exact((Below.refl _ _).alloc (Nat.le_refl _) _).alloc (by simp) _
 have Ld:W.heap.size=w.heap.size+1+1:=by rw[←hW]; simp
 have hp:fh w.heap.size c.1 c.2.1 c.2.2.1 c.2.2.2.2.2 ja jn jc la ln lc W:=by rw[←hW]; exact(eo w _ _ _ _ _ _ _ _ _ _).below (aS _ _)
 have hr:fh (w.heap.size+1) 0 0 0 0 none 0 0 none 0 0 W:=by
  rw[←hW];have:=eo (w.alloc (kr c.1 c.2.1 c.2.2.1 c.2.2.2.2.2 ja jn jc la ln lc)) 0 0 0 0 none 0 0 none 0 0;have e:(w.alloc (kr c.1 c.2.1 c.2.2.1 c.2.2.2.2.2 ja jn jc la ln lc)).heap.size=w.heap.size+1:=by simp
  rw[e] at this; exact this
 have J1:=Hid.mk' (GB ja jn jc la ln lc c W (h.below hB) hf U7);have eX:=Hid.mk' (fun wx (hx:Below w.heap.size w wx)=>qy ja jn jc la ln lc c wx (h.below hx) hf)
 have HW:=Hid.mk' hW;obtain⟨x0,x1,x2,x3,x4,x5⟩:=hp.cells;rw[←hW] at x0 x1 x2 x3 x4 x5;have HP:=Hid.mk' hp;have HRB:=Hid.mk' hr;have th:Hid (bI c=if be c=true then(c.1,c.2.1,c.2.2.1,c.2.2.2.1,c.2.2.2.2.1,(ln:Int)) else c):=by show _=_; unfold bI; rw[lP]
 clear hW h hf U7 hp hr lP;obtain⟨n,ak,next,jobs,log,sure⟩:=c;simp only[] at *;go_enter Tryz.func22,Tryz.ntmps22;go_wp2_with fail;rw[HW.out];refine J1.out.mono ?_;rintro e w1 ⟨gj,eH,gl,cW,q,ql,rfl,hJ,hL,kC,aW,aT⟩;simp only[] at hJ hL;obtain⟨V,hV⟩:∃V,w1.alloc (kr n ak next sure (some ⟨gj,0,none⟩) jn eH (some ⟨gl,0,none⟩) ln cW)=V:=⟨_,rfl⟩;have fb:Below w1.heap.size w1 V:=by rw[←hV]; exact aS _ _
 have eU:=hB.trans (aT.mono hB.size);have kV:=eU.trans (fb.mono eU.size);have hoV:fh w1.heap.size n ak next sure (some ⟨gj,0,none⟩) jn eH (some ⟨gl,0,none⟩) ln cW V:=by rw[←hV]; exact eo _ _ _ _ _ _ _ _ _ _ _
 have Vg:=Hid.mk' (eX.out V kV);clear x0 x1 x2 x3 x4 x5 J1 HW;obtain⟨x0,x1,x2,x3,x4,x5⟩:=((HP.out.below aT).below fb).cells;have HJ:=Hid.mk' hJ;have HL:=Hid.mk' hL;have Cl:=Hid.mk' kC;have Rb:=Hid.mk' aW;have tL:=aT.size;have Ql:Hid (∀b∈gl::gj::al q,b<w1.heap.size):=fun b hb=>by
  rcases List.mem_cons.1 hb with e | e
  · subst e; exact hL.at_ _ (List.mem_append.2 (.inl (by simp[Value.ownBlock])))
  · exact hJ.at_ _ (by simpa[Value.ownBlock] using e)
 have TI:Hid (∀b∈al ql,b<w1.heap.size∧W.heap.size≤b):=fun b hb=>by
  have:=(dH.parts hL).2.2.1;rw[this] at hb; cases hb
 have hrV:=(HRB.out.below aT).below fb
 -- the answer, out of a world that keeps what was copied
 have M0:Hid (∀(z:Int) (u:World),Below w.heap.size w u→w1.heap.size≤u.heap.size→(∀b,b<w1.heap.size→w.heap.size+1+1≤b→u.heap[b]? =w1.heap[b]?)→(n,ak,next,jobs,log,z)=bI (n,ak,next,jobs,log,sure)→km w jn ln (bI (n,ak,next,jobs,log,sure)) (.returned (Gs n ak next z (some ⟨gj,0,none⟩) jn eH (some ⟨gl,0,none⟩) ln cW)) u):=fun z u hu iO hk he=>by
  rw[←he];refine⟨gj,eH,gl,cW,q,ql,rfl,HJ.out.keep fun b hb=>?_,HL.out.keep fun b hb=>?_,fun b hb=>by have:=Cl.out b hb; omega,Rb.out,hu⟩
  · have h1:=Ql.out b (List.mem_cons_of_mem _ (by simpa[Value.ownBlock] using hb))
    have h2:=Cl.out b (List.mem_cons_of_mem _ (by simpa[Value.ownBlock] using hb))
    exact hk b h1 (by omega)
  · rcases List.mem_append.1 hb with hb | hb
    · have e:b=gl:=by simp[Value.ownBlock] at hb; omega
      subst e;have h1:=Ql.out b (by simp)
      have h2:=Cl.out b (by simp)
      exact hk b h1 (by omega)
    · have:=TI.out b hb;exact hk b this.1 (by omega)
 clear hJ hL kC aW HJ HL Cl Rb Ql TI;cases bD:be (n,ak,next,jobs,log,sure)
 · rw[bD] at Vg;have HE:Hid ((n,ak,next,jobs,log,sure)=bI (n,ak,next,jobs,log,sure)):=by show _=_; rw[th.out,bD]; rfl
   clear bD;go_wp2_with fail;refine Vg.out.mono ?_;rintro e w2 ⟨rfl,aU⟩;have dw:=kV.trans (aU.mono kV.size);have Lt:=hoV.below aU;have oK:=hrV.below aU;obtain⟨o0,o1,o2,o3,o4,o5⟩:=Lt.cells;obtain⟨r0,r1,r2,r3,r4,r5⟩:=oK.cells;have f0:=oK.fz 0;have f1:=oK.fz 1;have f2:=oK.fz 2;have f3:=oK.fz 3;have f4:=oK.fz 4;have f5:=oK.fz 5;have hz:=oV oK n ak next sure (some ⟨gj,0,none⟩) jn eH (some ⟨gl,0,none⟩) ln cW;have P2:=Hid.mk' hz.1.cells;have HF:=Hid.mk' (M0.out sure _ (dw.grown hz.2 dw.size (fun b e=>by cases e; omega)) (by have h1:=hz.2.size; have h2:=aU.size; have h3:=fb.size; omega) (fun b hb Kz=>by
    rw[hz.2.block b (by have h2:=aU.size; have h3:=fb.size; omega) (by simp; omega),aU.block b (by have h3:=fb.size; omega),fb.block b hb]) HE.out)
   clear hz M0 oK Lt x0 x1 x2 x3 x4 x5;go_wp2_with fail;have lM:=P2.out;refine bodyPost_ret (v:=.agg #[.int .i64 n,.int .i64 ak,.int .i64 next,.slice (some ⟨gj,0,none⟩) jn eH,.slice (some ⟨gl,0,none⟩) ln cW,.int .i64 sure]) ?_ rfl HF.out;simp[results,Tryz.results22,go_sem,lM.1,lM.2.1,lM.2.2.1,lM.2.2.2.1,lM.2.2.2.2.1,lM.2.2.2.2.2]
 · rw[bD] at Vg;have HE:Hid ((n,ak,next,jobs,log,(ln:Int))=bI (n,ak,next,jobs,log,sure)):=by show _=_; rw[th.out,bD]; rfl
   clear bD;go_wp2_with fail;refine Vg.out.mono ?_;rintro e w2 ⟨rfl,aU⟩;have dw:=kV.trans (aU.mono kV.size);have Lt:=hoV.below aU;have oK:=hrV.below aU;have qO:=Lt.lt;have s5:=GM Lt (ln:Int);obtain⟨o0,o1,o2,o3,o4,o5⟩:=Lt.cells;have of5:=Lt.fz 5;obtain⟨W5,NV⟩:∃W5,w2.setCell ⟨w1.heap.size,5,none⟩ (.int .i64 (ln:Int))=W5:=⟨_,rfl⟩;rw[NV] at s5;have hs15:w.heap.size+1<w1.heap.size:=by omega
   have Hw:=oK.grown s5.2 (by simp; omega)
   have ec:=dw.grown s5.2 dw.size (fun b e=>by cases e; omega)
   obtain⟨t0,t1,t2,t3,t4,t5⟩:=s5.1.cells;obtain⟨r0,r1,r2,r3,r4,r5⟩:=Hw.cells;have f0:=Hw.fz 0;have f1:=Hw.fz 1;have f2:=Hw.fz 2;have f3:=Hw.fz 3;have f4:=Hw.fz 4;have f5:=Hw.fz 5;have hz:=oV Hw n ak next (ln:Int) (some ⟨gj,0,none⟩) jn eH (some ⟨gl,0,none⟩) ln cW;have P2:=Hid.mk' hz.1.cells;have HF:=Hid.mk' (M0.out (ln:Int) _ (ec.grown hz.2 ec.size (fun b e=>by cases e; omega)) (by have h1:=hz.2.size; have h2:=aU.size; have h3:=fb.size; have h4:=s5.2.size; omega) (fun b hb Kz=>by
    rw[hz.2.block b (by have h2:=aU.size; have h3:=fb.size; have h4:=s5.2.size; omega) (by simp; omega),s5.2.block b (by have h2:=aU.size; have h3:=fb.size; omega) (by simp; omega),aU.block b (by have h3:=fb.size; omega),fb.block b hb]) HE.out)
   clear hz M0 oK Lt Hw s5 x0 x1 x2 x3 x4 x5;go_wp2_with fail;have lM:=P2.out;refine bodyPost_ret (v:=.agg #[.int .i64 n,.int .i64 ak,.int .i64 next,.slice (some ⟨gj,0,none⟩) jn eH,.slice (some ⟨gl,0,none⟩) ln cW,.int .i64 (ln:Int)]) ?_ rfl HF.out;simp[results,Tryz.results22,go_sem,lM.1,lM.2.1,lM.2.2.1,lM.2.2.2.1,lM.2.2.2.2.1,lM.2.2.2.2.2]
end cos
namespace cos
open Go Go.RowKit base av aN lay kN
theorem KF:(Tryz.prog.info? 75).map (fun i=>(i.zero,i.size,i.bytes))=some (some (.agg #[.int .i64 0,.slice none 0 0,.int .i64 0,.slice none 0 0]),4,64):=by kernel_rfl
theorem KG{α:Type}{R:Rd α}{ty:TypeId}{w:World}{g n:Nat}{k:Nat}(h:w.ownsRow k ty R.size (.slice (some ⟨g,0,none⟩) 0 n) 0 []):bk ty R w (.slice (some ⟨g,0,none⟩) 0 n) [] []:=by
 refine⟨rfl,?_,fun i hi=>absurd hi (by simp),by simp[al,Value.ownBlock]⟩
 obtain⟨h1,h2⟩:=h;refine⟨h1,?_⟩;rcases h2 with h2 | ⟨g',c',cur,h2,h3,h4⟩
 · exact .inl h2
 · exact .inr ⟨g',c',cur,h2,Nat.zero_le _,h4⟩
theorem D5(ja:Option Addr)(jn jc:Nat)(la:Option Addr)(ln lc:Nat)(c:Co)(w:World)(h:kQ w ja jn jc la ln lc c)(mg:oW c):
    Calls Tryz.prog 54 #[Gs c.1 c.2.1 c.2.2.1 c.2.2.2.2.2 ja jn jc la ln lc] w (zV a7 w c):=by
  obtain⟨i0,jG,dm,dk,cA⟩:=info_parts KF;have fo:=h.wf;have eL:=h.jobs.1;have lP:=h.log.1;have hj8:=mg.jobs;have UG:=mg.log;obtain⟨W,hW⟩:∃W,(w.alloc (.cells #[.int .i64 c.1,.int .i64 c.2.1,.int .i64 c.2.2.1,.slice ja jn jc,.slice la ln lc,.int .i64 c.2.2.2.2.2] 28)).alloc (.cells #[.int .i64 0,.int .i64 0,.int .i64 0,.slice none 0 0,.slice none 0 0,.int .i64 0] 28)=W:=⟨_,rfl⟩;have hB:Below w.heap.size w W:=by rw[←hW]; exact((Below.refl _ _).alloc (Nat.le_refl _) _).alloc (by simp) _
  have hA:au w.heap.size 28 [] [.int .i64 c.1,.int .i64 c.2.1,.int .i64 c.2.2.1,.slice ja jn jc,.slice la ln lc,.int .i64 c.2.2.2.2.2] [] W:=by rw[←hW]; exact(aE w _ _).below aJ
  have hR:au (w.heap.size+1) 28 [] [.int .i64 0,.int .i64 0,.int .i64 0,.slice none 0 0,.slice none 0 0,.int .i64 0] [] W:=by
    rw[←hW];have:=aE (w.alloc (.cells #[.int .i64 c.1,.int .i64 c.2.1,.int .i64 c.2.2.1,.slice ja jn jc,.slice la ln lc,.int .i64 c.2.2.2.2.2] 28)) [.int .i64 0,.int .i64 0,.int .i64 0,.slice none 0 0,.slice none 0 0,.int .i64 0] 28;rwa[show(w.alloc (.cells #[.int .i64 c.1,.int .i64 c.2.1,.int .i64 c.2.2.1,.slice ja jn jc,.slice la ln lc,.int .i64 c.2.2.2.2.2] 28)).heap.size=w.heap.size+1 by simp] at this
  have lS:=hR.lt;have HW:=Hid.mk' hW;have HJ:=Hid.mk' (h.jobs.below hB);have HL:=Hid.mk' (h.log.below hB);have HYS:=Hid.mk' mg.yes;have Vc:=Hid.mk' mg.fits;obtain⟨a0,a1,a2,a3,a4,a5⟩:=cells6 hA;rw[←hW] at a0 a1 a2 a3 a4 a5;clear hW h;go_enter Tryz.func54,Tryz.ntmps54;go_wp2_with (at_make; rw[HW.out]; refine wpList_make_own _ rfl _ _ 25 rfl 0 75 i0 (.agg #[.int .i64 0,.slice none 0 0,.int .i64 0,.slice none 0 0]) 4 Tryz.underlying25 jG dm dk _ _ _ jn rfl rfl rfl ?b2 ?b3 ?b4 ?_)
  case b2=>rw[cA]; omega
  case b3=>unfold maxLen; omega
  case b4=>exact Nat.zero_le _
  intro w1 aB az;have aT:Below W.heap.size W w1:=(Below.refl _ _).grown az (Nat.le_refl _) (fun k e=>by cases e)
  have TJ:=KG (R:=dU) aB;have hAl:=hA.lt;clear aB az a0 a1 a2 a3 a4 a5 jG dm dk cA;obtain⟨a0,a1,a2,a3,a4,a5⟩:=cells6 (hA.below aT);go_wp2_with fail;go_loopw [12,3] (fun i s wr=>∃(k g cap:Nat) (q:dJ),k≤jn∧i=.int .i64 (k:Int)∧s=.slice (some ⟨g,0,none⟩) k cap∧bk 75 dU wr (.slice (some ⟨g,0,none⟩) k cap) (c.2.2.2.1.take k) q∧(∀b∈g::al q,W.heap.size≤b)∧Below W.heap.size W wr) (fun i _ _=>jn - (intOf i).toNat)
  case atStart=>exact⟨0,_,_,[],Nat.zero_le _,rfl,rfl,TJ,fun b hb=>by simp[al] at hb; omega,aT⟩
  case round=>
    obtain⟨k,g,cap,q,hk,rfl,rfl,hO,hq,tt⟩:=hrel;clear a0 a1 a2 a3 a4 a5 TJ;have hAw:=hA.below tt;obtain⟨a0,a1,a2,a3,a4,a5⟩:=cells6 hAw;by_cases a6:k<jn
    · have ck:k<c.2.2.2.1.length:=by omega
      have fL:(k:Int)<(jn:Int):=by omega
      obtain⟨jb,ep,e⟩:=fT HJ.out (by omega)
      subst e;have hS:=HJ.out.below tt;obtain⟨y0,y2,⟨oa,ol,oc,y1,ve,Hn⟩,ya,yl,yc,y3,hY,zk⟩:=qe hS k ck;have RL:=DR hS k ck;have J6:=HYS.out _ (List.getElem_mem ck);have oL:=(Vc.out.2.2 _ (List.getElem_mem ck)).1;have xr:Hid (c.2.2.2.1.take (k+1)=c.2.2.2.1.take k++[c.2.2.2.1[k]]):=List.take_succ_eq_append_getElem ck;have Mf:Hid ((c.2.2.2.1.take k).length=k):=by show _=_; simp; omega
      have HOJ:=Hid.mk' (Kp jb (ep+k * 4) c.2.2.2.1[k].1 c.2.2.2.1[k].2.2.1 oa ol oc ya yl yc c.2.2.2.1[k].2.1 c.2.2.2.1[k].2.2.2 wr y0 y1 y2 y3 RL.1 RL.2.1 ve Hn hY zk RL.2.2.2 (by have:=ve.1; omega) (by have:=hY.1; omega))
      have HO:=Hid.mk' hO;generalize c.2.2.2.1[k]=j at *;clear hS ve hY RL oL J6 y0 y1 y2 y3 hO;go_wp2_with fail;refine HOJ.out.mono ?_;rintro e w2 ⟨us,F,rfl,X7,hF,aU⟩;obtain⟨ra,rn,rc,sa,sn,sc,rfl⟩:=eS X7;have hOk:=HO.out.below aU;have M1:=HO.out.Rg;have dw:=tt.trans (aU.mono tt.size);obtain⟨V,hV⟩:∃V,w2.alloc (.cells #[.int .i64 j.1,.slice ra rn rc,.int .i64 j.2.2.1,.slice sa sn sc] 75)=V:=⟨_,rfl⟩;have mZ:Below w2.heap.size w2 V:=by rw[←hV]; exact aJ
      have hX:au w2.heap.size 75 [] [.int .i64 j.1,.slice ra rn rc,.int .i64 j.2.2.1,.slice sa sn sc] [] V:=by rw[←hV]; exact aE w2 _ _
      have kV:=dw.trans (mZ.mono dw.size);obtain⟨g',aO,w3,dh,d_,jF,fl⟩:=bk.zp (P:=Tryz.prog) (z:=.agg #[.int .i64 0,.slice none 0 0,.int .i64 0,.slice none 0 0]) Tryz.underlying25 KF rfl (by decide) (hOk.below mZ) (dU.gB X7 mZ) (fun b hb hc=>by
        have h1:=hF b hb;have h2:=M1 b (by simpa[Value.ownBlock] using hc)
        omega) hX (by rw[Mf.out]; unfold maxLen; omega) (by rw[Mf.out]; omega) 25
      rw[Mf.out] at dh d_;rw[←xr.out] at d_;have VY:=aU.size
      have cJ:=kV.grown jF kV.size (fun b e=>by have:g=b:=by simpa[Value.ownBlock] using e
                                                have:=hq g (by simp); omega)
      have Ia:∀b∈g'::al (q++[([.int .i64 j.1,.slice ra rn rc,.int .i64 j.2.2.1,.slice sa sn sc],F)]),W.heap.size≤b:=fun b hb=>by
        have tL:=tt.size;have px:=kV.size;rw[aQ] at hb;rcases List.mem_cons.1 hb with e | e
        · rcases fl with e2 | e2
          · have:g=g':=by simpa[Value.ownBlock] using e2
            have:=hq g (by simp); omega
          · omega
        · rcases List.mem_append.1 e with e | e
          · exact hq b (List.mem_cons_of_mem _ e)
          · have:=hF b (by simpa[al] using e); omega
      have HV:=Hid.mk' hV;have HO3:=Hid.mk' d_;have HQ3:=Hid.mk' Ia;clear hV hX hOk d_ Ia X7 M1 HOJ HO jF;clear a0 a1 a2 a3 a4 a5;go_wp2_with (at_builtin; rw[HV.out]; refine fA rfl _ _ 25 rfl (by kernel_rfl) (by kernel_rfl) dh ?_)
      go_wp2_with fail;go_roundw
      case rel=>exact⟨k+1,g',aO,_,by omega,by go_num,rfl,HO3.out,HQ3.out,cJ⟩
      case measure=>simp[intOf]; omega
    · have EF:k=jn:=by omega
      subst EF;have fL:¬(k:Int)<(k:Int):=by omega
      rw[List.take_of_length_le (by omega)] at hO
      go_wp2_with fail;have KH:=hAw.lt;have hRw:=hR.below tt;have HO:=Hid.mk' hO;have HLw:=Hid.mk' (HL.out.below tt);have eJ:Below wr.heap.size wr wr.drew:=(Below.refl _ _).drew;refine last.aq (S:=fun w'=>Below wr.heap.size wr w') 14 (by kernel_rfl) eJ (fun af=>?_)
      generalize hD:wr.drew=D at *;clear hD;refine last.wpTk 0 (.pointer (some ⟨w.heap.size,0,none⟩)) rfl rfl ?_ ?_
      · intro wq ar; go_simp
      try simp only[Act.put,zP,zQ,zR]
      refine last.wpTk 1 (.int .i64 c.1) rfl rfl ?_ ?_
      · intro wq ar; have q:=(ar.cell (p:=⟨w.heap.size,0,none⟩) KH).trans a0; go_simp
      try simp only[Act.put,zP,zQ,zR]
      refine last.wpTk 2 (.pointer (some ⟨w.heap.size,1,none⟩)) rfl rfl ?_ ?_
      · intro wq ar; go_simp
      try simp only[Act.put,zP,zQ,zR]
      refine last.wpTk 3 (.int .i64 c.2.1) rfl rfl ?_ ?_
      · intro wq ar; have q:=(ar.cell (p:=⟨w.heap.size,1,none⟩) KH).trans a1; go_simp
      try simp only[Act.put,zP,zQ,zR]
      refine last.wpTk 4 (.pointer (some ⟨w.heap.size,2,none⟩)) rfl rfl ?_ ?_
      · intro wq ar; go_simp
      try simp only[Act.put,zP,zQ,zR]
      refine last.wpTk 5 (.int .i64 c.2.2.1) rfl rfl ?_ ?_
      · intro wq ar; have q:=(ar.cell (p:=⟨w.heap.size,2,none⟩) KH).trans a2; go_simp
      try simp only[Act.put,zP,zQ,zR]
      refine last.wpTk 6 (.slice (some ⟨g,0,none⟩) k cap) rfl rfl ?_ ?_
      · intro wq ar; go_simp
      try simp only[Act.put,zP,zQ,zR]
      refine last.wpTk 8 (.pointer (some ⟨w.heap.size,4,none⟩)) rfl rfl ?_ ?_
      · intro wq ar; go_simp
      try simp only[Act.put,zP,zQ,zR]
      refine last.wpTk 9 (.slice la ln lc) rfl rfl ?_ ?_
      · intro wq ar; have q:=(ar.cell (p:=⟨w.heap.size,4,none⟩) KH).trans a4; go_simp
      try simp only[Act.put,zP,zQ,zR]
      refine last.wpTk 11 (.pointer (some ⟨w.heap.size,5,none⟩)) rfl rfl ?_ ?_
      · intro wq ar; go_simp
      try simp only[Act.put,zP,zQ,zR]
      refine last.wpTk 12 (.int .i64 c.2.2.2.2.2) rfl rfl ?_ ?_
      · intro wq ar; have q:=(ar.cell (p:=⟨w.heap.size,5,none⟩) KH).trans a5; go_simp
      try simp only[Act.put,zP,zQ,zR]
      refine last.an (i:=7) (o:={dst:=some 31,op:=Op.buildSlice 26 0 #[],type:=26,pos:= "l11_coord.go:167",after:=#[],guard:=none}) (by kernel_rfl) rfl (fun K hK=>?_)
      go_simp;have TK:Below wr.heap.size wr (D.alloc (.cells #[] 87)):=eJ.alloc eJ.size _;have zK:=oX D 87 2;have hDs:=eJ.size;refine hK.out _ _ ?_ (fun ag=>?_)
      · exact TK
      clear hK K af;have af:=ag;clear ag;try simp only[Act.put,zP,zQ,zR]
      generalize hwB:D.alloc (.cells #[] 87)=wB at *;clear hwB;refine last.an (i:=10) (o:={dst:=some 34,op:=Op.call {callee:=Callee.builtin Builtin.append,args:=#[Operand.tmp 31,Operand.tmp 33],argTypes:=#[26,26]},type:=26,pos:= "l11_coord.go:167",after:=#[{on:=7,ground:=Ground.data},{on:=9,ground:=Ground.data}],guard:=none}) (by kernel_rfl) rfl (fun K hK=>?_)
      obtain⟨gl,cW,wC,dh,qO,jF,tF⟩:=Ko _ la ln lc 26 zK (HLw.out.below TK) (by omega)
      refine cO rfl (.tmp 31) (.tmp 33) 26 rfl (by kernel_rfl) (by kernel_rfl) dh ?_
      have Vh:Below wr.heap.size wr wC:=TK.grown jF TK.size (fun k e=>by cases e; omega)
      have hglb:wr.heap.size≤gl:=by
        have:=TK.size;rcases tF with e | e <;> omega
      refine hK.out _ _ ?_ (fun ag=>?_)
      · exact Vh
      clear hK K af;have af:=ag;clear ag;try simp only[Act.put,zP,zQ,zR]
      clear dh zK jF tF;refine last.wpTk 13 (.agg #[.int .i64 c.1,.int .i64 c.2.1,.int .i64 c.2.2.1,.slice (some ⟨g,0,none⟩) k cap,.slice (some ⟨gl,0,none⟩) ln cW,.int .i64 c.2.2.2.2.2]) rfl rfl ?_ ?_
      · intro wq ar; go_simp
      try simp only[Act.put,zP,zQ,zR]
      have NW:=hRw.below Vh;obtain⟨z0,z1,z2,z3,z4,z5⟩:=cells6 NW;have f0:=NW.fz 0;have f1:=NW.fz 1;have f2:=NW.fz 2;have f3:=NW.fz 3;have f4:=NW.fz 4;have f5:=NW.fz 5;have hS:=NW.whole [.int .i64 c.1,.int .i64 c.2.1,.int .i64 c.2.2.1,.slice (some ⟨g,0,none⟩) k cap,.slice (some ⟨gl,0,none⟩) ln cW,.int .i64 c.2.2.2.2.2] rfl;obtain⟨y0,y1,y2,y3,y4,y5⟩:=cells6 hS.1;simp only[bh,Nat.zero_add,Nat.reduceAdd] at y0 y1 y2 y3 y4 y5;have zx:=hB.trans (tt.mono hB.size);have Cn:=tt.size;have hBC:=zx.trans (Vh.mono zx.size);have jy:=hBC.grown hS.2 hBC.size (fun j e=>by cases e; omega)
      have X8:=HO.out.Rg;have hjr:kP.own wr [.slice (some ⟨g,0,none⟩) k cap] c.2.2.2.1 (g::al q):=⟨_,q,rfl,by simp[Value.ownBlock],HO.out⟩
      have Ov:=kP.br (kP.gB hjr Vh) hS.2 (fun b hb e=>by have:=hq b hb; cases e; omega)
      have jh:=qd.br qO hS.2 (fun b hb e=>by simp only[List.mem_singleton] at hb; subst hb; cases e; omega)
      have XK:=Hid.mk' (bn.2 ⟨_,_,_,_,rfl,fo,Ov,jh,rfl,Fa (kP.bG Ov) (by simp) X8 (fun b hb=>by simp only[List.mem_singleton] at hb; omega)⟩)
      have OA:=Hid.mk' jy;have XL:Hid (∀b∈(g::al q)++[gl],w.heap.size≤b):=fun b hb=>by
        have hs:=hB.size;have px:=zx.size;rcases List.mem_append.1 hb with e | e
        · have:=hq b e; omega
        · simp only[List.mem_singleton] at e; omega
      clear hjr Ov jh qO jy hS;refine last.aC (o:={dst:=none,op:=Op.store 28 (Operand.tmp 2) (Operand.tmp 37),type:=0,pos:= "l11_coord.go:167",after:=#[{on:=13,ground:=Ground.data},{on:=10,ground:=Ground.chain},{on:=0,ground:=Ground.phase},{on:=1,ground:=Ground.phase},{on:=2,ground:=Ground.phase},{on:=3,ground:=Ground.phase},{on:=4,ground:=Ground.phase},{on:=5,ground:=Ground.phase},{on:=6,ground:=Ground.phase},{on:=7,ground:=Ground.phase},{on:=8,ground:=Ground.phase},{on:=9,ground:=Ground.phase},{on:=10,ground:=Ground.phase},{on:=11,ground:=Ground.phase},{on:=12,ground:=Ground.phase},{on:=13,ground:=Ground.phase}],guard:=none}) (by kernel_rfl) rfl (by kernel_rfl) (fun K hK=>?_)
      go_simp;refine hK.out _ _ ?_;clear hK K;go_wp2_with fail;refine bodyPost_ret (v:=.agg #[.int .i64 c.1,.int .i64 c.2.1,.int .i64 c.2.2.1,.slice (some ⟨g,0,none⟩) k cap,.slice (some ⟨gl,0,none⟩) ln cW,.int .i64 c.2.2.2.2.2]) ?_ rfl ⟨_,_,rfl,XK.out,XL.out,OA.out⟩;simp[results,Tryz.results54,go_sem,y0,y1,y2,y3,y4,y5]
end cos
namespace cos
open Go Go.RowKit base av aN lay kN
def xW(ln:Nat)(sure keep:Int):Nat:=(sure+min (max keep 0) ((ln:Int) - sure)).toNat
theorem BI{ln:Nat}{sure keep:Int}(h:0≤sure∧sure≤(ln:Int)):xW ln sure keep≤ln∧((xW ln sure keep:Nat):Int)=sure+min (max keep 0) ((ln:Int) - sure):=by
 unfold xW; omega
end cos
end Go.Proofs.YtmibabclefgljaaGreat
