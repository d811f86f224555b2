/- CoD CoW CoY -/
import Derived.Test.YtmibabclefgljaaGreatShay
import Derived.Test.YtmibabclefgljaaGreatShaz
import Derived.Test.YtmibabclefgljaaGreatShbb
import Derived.Deep.RegionHeldLaw
set_option linter.unusedVariables false
set_option linter.unusedSimpArgs false
set_option maxRecDepth 100000
set_option maxHeartbeats 4000000
namespace Go.Proofs.YtmibabclefgljaaGreat
namespace cos
open Go Go.RowKit base aE aX lay lh
def bW(c:Co):Co:=if bt c=true then(c.1,c.2.1,c.2.2.1,c.2.2.2.1,c.2.2.2.2.1,(c.2.2.2.2.1.length:Int)) else c
theorem Ha{X:Nat}{n av next sure:Int}{ja:Option Addr}{jn jc:Nat}{la:Option Addr}{ln lc:Nat}{w:World}(h:fB X n av next sure ja jn jc la ln lc w)(z:Int):fB X n av next z ja jn jc la ln lc (w.setCell ⟨X,5,none⟩ (.int .i64 z))∧w.grownBy (w.setCell ⟨X,5,none⟩ (.int .i64 z)) (some X):=bK h 5 _
theorem yC(ja:Option Addr)(jn jc:Nat)(la:Option Addr)(ln lc:Nat)(c:Co)(w:World)(h:ll w ja jn jc la ln lc c)(hf:rW c)(Vh:∀j∈c.2.2.2.1,j.2.2.2.length≤1099511627776):
 Calls Tryz.prog 22 #[GI c.1 c.2.1 c.2.2.1 c.2.2.2.2.2 ja jn jc la ln lc] w fun e w'=>kI w jn ln (bW c) e w':=by
 have mb:=h.log.1;have Ny:=h.log.2.1;unfold maxLen at Ny;obtain⟨W,hW⟩:∃W,(w.alloc (kM c.1 c.2.1 c.2.2.1 c.2.2.2.2.2 ja jn jc la ln lc)).alloc (kM 0 0 0 0 none 0 0 none 0 0)=W:=⟨_,rfl⟩;have hB:Below w.heap.size w W:=by rw[←hW]; exact((Below.refl _ _).alloc (Nat.le_refl _) _).alloc (by simp) _
 have Lp:W.heap.size=w.heap.size+1+1:=by rw[←hW]; simp
 have hp:fB w.heap.size c.1 c.2.1 c.2.2.1 c.2.2.2.2.2 ja jn jc la ln lc W:=by rw[←hW]; exact(eI w _ _ _ _ _ _ _ _ _ _).below (a8 _ _)
 have hr:fB (w.heap.size+1) 0 0 0 0 none 0 0 none 0 0 W:=by
  rw[←hW];have:=eI (w.alloc (kM c.1 c.2.1 c.2.2.1 c.2.2.2.2.2 ja jn jc la ln lc)) 0 0 0 0 none 0 0 none 0 0;have e:(w.alloc (kM c.1 c.2.1 c.2.2.1 c.2.2.2.2.2 ja jn jc la ln lc)).heap.size=w.heap.size+1:=by simp
  rw[e] at this; exact this
 have Kc:=Hid.mk' (GR ja jn jc la ln lc c W (h.below hB) hf Vh);have fl:=Hid.mk' (fun wx (hx:Below w.heap.size w wx)=>qR ja jn jc la ln lc c wx (h.below hx) hf)
 have HW:=Hid.mk' hW;obtain⟨x0,x1,x2,x3,x4,x5⟩:=hp.cells;rw[←hW] at x0 x1 x2 x3 x4 x5;have HP:=Hid.mk' hp;have HRB:=Hid.mk' hr;have tE:Hid (bW c=if bt c=true then(c.1,c.2.1,c.2.2.1,c.2.2.2.1,c.2.2.2.2.1,(ln:Int)) else c):=by show _=_; unfold bW; rw[mb]
 clear hW h hf Vh hp hr mb;obtain⟨n,av,next,jobs,log,sure⟩:=c;simp only[] at *;aj Tryz.func22,Tryz.ntmps22;ab fail;rw[HW.out];refine Kc.out.mono ?_;rintro e w1 ⟨gj,eV,gl,dk,q,ql,rfl,hJ,hL,kU,bh,a_⟩;simp only[] at hJ hL;obtain⟨V,hV⟩:∃V,w1.alloc (kM n av next sure (some ⟨gj,0,none⟩) jn eV (some ⟨gl,0,none⟩) ln dk)=V:=⟨_,rfl⟩;have fv:Below w1.heap.size w1 V:=by rw[←hV]; exact a8 _ _
 have fi:=hB.trans (a_.mono hB.size);have lu:=fi.trans (fv.mono fi.size);have hoV:fB w1.heap.size n av next sure (some ⟨gj,0,none⟩) jn eV (some ⟨gl,0,none⟩) ln dk V:=by rw[←hV]; exact eI _ _ _ _ _ _ _ _ _ _ _
 have Vs:=Hid.mk' (fl.out V lu);clear x0 x1 x2 x3 x4 x5 Kc HW;obtain⟨x0,x1,x2,x3,x4,x5⟩:=((HP.out.below a_).below fv).cells;have HJ:=Hid.mk' hJ;have HL:=Hid.mk' hL;have CB:=Hid.mk' kU;have Rn:=Hid.mk' bh;have ud:=a_.size;have Qu:Hid (∀b∈gl::gj::aw q,b<w1.heap.size):=fun b hb=>by
  rcases List.mem_cons.1 hb with e | e
  · subst e; exact hL.at_ _ (List.mem_append.2 (.inl (by simp[Value.ownBlock])))
  · exact hJ.at_ _ (by simpa[Value.ownBlock] using e)
 have TS:Hid (∀b∈aw ql,b<w1.heap.size∧W.heap.size≤b):=fun b hb=>by
  have:=(dW.parts hL).2.2.1;rw[this] at hb; cases hb
 have hrV:=(HRB.out.below a_).below fv
 -- the answer, out of a world that keeps what was copied
 have Nb:Hid (∀(z:Int) (u:World),Below w.heap.size w u→w1.heap.size≤u.heap.size→(∀b,b<w1.heap.size→w.heap.size+1+1≤b→u.heap[b]? =w1.heap[b]?)→(n,av,next,jobs,log,z)=bW (n,av,next,jobs,log,sure)→kI w jn ln (bW (n,av,next,jobs,log,sure)) (.returned (GI n av next z (some ⟨gj,0,none⟩) jn eV (some ⟨gl,0,none⟩) ln dk)) u):=fun z u hu jg hk he=>by
  rw[←he];refine⟨gj,eV,gl,dk,q,ql,rfl,HJ.out.keep fun b hb=>?_,HL.out.keep fun b hb=>?_,fun b hb=>by have:=CB.out b hb; omega,Rn.out,hu⟩
  · have h1:=Qu.out b (List.mem_cons_of_mem _ (by simpa[Value.ownBlock] using hb))
    have h2:=CB.out b (List.mem_cons_of_mem _ (by simpa[Value.ownBlock] using hb))
    exact hk b h1 (by omega)
  · rcases List.mem_append.1 hb with hb | hb
    · have e:b=gl:=by simp[Value.ownBlock] at hb; omega
      subst e;have h1:=Qu.out b (by simp)
      have h2:=CB.out b (by simp)
      exact hk b h1 (by omega)
    · have:=TS.out b hb;exact hk b this.1 (by omega)
 clear hJ hL kU bh HJ HL CB Rn Qu TS;cases bR:bt (n,av,next,jobs,log,sure)
 · rw[bR] at Vs;have HE:Hid ((n,av,next,jobs,log,sure)=bW (n,av,next,jobs,log,sure)):=by show _=_; rw[tE.out,bR]; rfl
   clear bR;ab fail;refine Vs.out.mono ?_;rintro e w2 ⟨rfl,be⟩;have dL:=lu.trans (be.mono lu.size);have LF:=hoV.below be;have pd:=hrV.below be;obtain⟨o0,o1,o2,o3,o4,o5⟩:=LF.cells;obtain⟨r0,r1,r2,r3,r4,r5⟩:=pd.cells;have f0:=pd.fz 0;have f1:=pd.fz 1;have f2:=pd.fz 2;have f3:=pd.fz 3;have f4:=pd.fz 4;have f5:=pd.fz 5;have hz:=px pd n av next sure (some ⟨gj,0,none⟩) jn eV (some ⟨gl,0,none⟩) ln dk;have Qa:=Hid.mk' hz.1.cells;have HF:=Hid.mk' (Nb.out sure _ (dL.grown hz.2 dL.size (fun b e=>by cases e; omega)) (by have h1:=hz.2.size; have h2:=be.size; have h3:=fv.size; omega) (fun b hb KM=>by
    rw[hz.2.block b (by have h2:=be.size; have h3:=fv.size; omega) (by simp; omega),be.block b (by have h3:=fv.size; omega),fv.block b hb]) HE.out)
   clear hz Nb pd LF x0 x1 x2 x3 x4 x5;ab fail;have l8:=Qa.out;refine bodyPost_ret (v:=.agg #[.int .i64 n,.int .i64 av,.int .i64 next,.slice (some ⟨gj,0,none⟩) jn eV,.slice (some ⟨gl,0,none⟩) ln dk,.int .i64 sure]) ?_ rfl HF.out;simp[results,Tryz.results22,go_sem,l8.1,l8.2.1,l8.2.2.1,l8.2.2.2.1,l8.2.2.2.2.1,l8.2.2.2.2.2]
 · rw[bR] at Vs;have HE:Hid ((n,av,next,jobs,log,(ln:Int))=bW (n,av,next,jobs,log,sure)):=by show _=_; rw[tE.out,bR]; rfl
   clear bR;ab fail;refine Vs.out.mono ?_;rintro e w2 ⟨rfl,be⟩;have dL:=lu.trans (be.mono lu.size);have LF:=hoV.below be;have pd:=hrV.below be;have ri:=LF.lt;have s5:=Ha LF (ln:Int);obtain⟨o0,o1,o2,o3,o4,o5⟩:=LF.cells;have of5:=LF.fz 5;obtain⟨W5,N7⟩:∃W5,w2.setCell ⟨w1.heap.size,5,none⟩ (.int .i64 (ln:Int))=W5:=⟨_,rfl⟩;rw[N7] at s5;have hs15:w.heap.size+1<w1.heap.size:=by omega
   have H_:=pd.grown s5.2 (by simp; omega)
   have ez:=dL.grown s5.2 dL.size (fun b e=>by cases e; omega)
   obtain⟨t0,t1,t2,t3,t4,t5⟩:=s5.1.cells;obtain⟨r0,r1,r2,r3,r4,r5⟩:=H_.cells;have f0:=H_.fz 0;have f1:=H_.fz 1;have f2:=H_.fz 2;have f3:=H_.fz 3;have f4:=H_.fz 4;have f5:=H_.fz 5;have hz:=px H_ n av next (ln:Int) (some ⟨gj,0,none⟩) jn eV (some ⟨gl,0,none⟩) ln dk;have Qa:=Hid.mk' hz.1.cells;have HF:=Hid.mk' (Nb.out (ln:Int) _ (ez.grown hz.2 ez.size (fun b e=>by cases e; omega)) (by have h1:=hz.2.size; have h2:=be.size; have h3:=fv.size; have h4:=s5.2.size; omega) (fun b hb KM=>by
    rw[hz.2.block b (by have h2:=be.size; have h3:=fv.size; have h4:=s5.2.size; omega) (by simp; omega),s5.2.block b (by have h2:=be.size; have h3:=fv.size; omega) (by simp; omega),be.block b (by have h3:=fv.size; omega),fv.block b hb]) HE.out)
   clear hz Nb pd LF H_ s5 x0 x1 x2 x3 x4 x5;ab fail;have l8:=Qa.out;refine bodyPost_ret (v:=.agg #[.int .i64 n,.int .i64 av,.int .i64 next,.slice (some ⟨gj,0,none⟩) jn eV,.slice (some ⟨gl,0,none⟩) ln dk,.int .i64 (ln:Int)]) ?_ rfl HF.out;simp[results,Tryz.results22,go_sem,l8.1,l8.2.1,l8.2.2.1,l8.2.2.2.1,l8.2.2.2.2.1,l8.2.2.2.2.2]
end cos
namespace cos
open Go Go.RowKit base aE aX lay lh
theorem KS:(Tryz.prog.info? 75).map (fun i=>(i.zero,i.size,i.bytes))=some (some (.agg #[.int .i64 0,.slice none 0 0,.int .i64 0,.slice none 0 0]),4,64):=by aa
theorem KT{α:Type}{R:Rd α}{ty:TypeId}{w:World}{g n:Nat}{k:Nat}(h:w.ownsRow k ty R.size (.slice (some ⟨g,0,none⟩) 0 n) 0 []):bz ty R w (.slice (some ⟨g,0,none⟩) 0 n) [] []:=by
 refine⟨rfl,?_,fun i hi=>absurd hi (by simp),by simp[aw,Value.ownBlock]⟩
 obtain⟨h1,h2⟩:=h;refine⟨h1,?_⟩;rcases h2 with h2 | ⟨g',c',cur,h2,h3,h4⟩
 · exact .inl h2
 · exact .inr ⟨g',c',cur,h2,Nat.zero_le _,h4⟩
theorem Ek(ja:Option Addr)(jn jc:Nat)(la:Option Addr)(ln lc:Nat)(c:Co)(w:World)(h:ll w ja jn jc la ln lc c)(mG:py c):
    Calls Tryz.prog 54 #[GI c.1 c.2.1 c.2.2.1 c.2.2.2.2.2 ja jn jc la ln lc] w (Ah bp w c):=by
  obtain⟨i0,jX,dE,dD,cO⟩:=info_parts KS;have fH:=h.wf;have e7:=h.jobs.1;have mb:=h.log.1;have hj8:=mG.jobs;have UR:=mG.log;obtain⟨W,hW⟩:∃W,(w.alloc (.cells #[.int .i64 c.1,.int .i64 c.2.1,.int .i64 c.2.2.1,.slice ja jn jc,.slice la ln lc,.int .i64 c.2.2.2.2.2] 28)).alloc (.cells #[.int .i64 0,.int .i64 0,.int .i64 0,.slice none 0 0,.slice none 0 0,.int .i64 0] 28)=W:=⟨_,rfl⟩;have hB:Below w.heap.size w W:=by rw[←hW]; exact((Below.refl _ _).alloc (Nat.le_refl _) _).alloc (by simp) _
  have hA:aD w.heap.size 28 [] [.int .i64 c.1,.int .i64 c.2.1,.int .i64 c.2.2.1,.slice ja jn jc,.slice la ln lc,.int .i64 c.2.2.2.2.2] [] W:=by rw[←hW]; exact(aO w _ _).below aT
  have hR:aD (w.heap.size+1) 28 [] [.int .i64 0,.int .i64 0,.int .i64 0,.slice none 0 0,.slice none 0 0,.int .i64 0] [] W:=by
    rw[←hW];have:=aO (w.alloc (.cells #[.int .i64 c.1,.int .i64 c.2.1,.int .i64 c.2.2.1,.slice ja jn jc,.slice la ln lc,.int .i64 c.2.2.2.2.2] 28)) [.int .i64 0,.int .i64 0,.int .i64 0,.slice none 0 0,.slice none 0 0,.int .i64 0] 28;oU [show(w.alloc (.cells #[.int .i64 c.1,.int .i64 c.2.1,.int .i64 c.2.2.1,.slice ja jn jc,.slice la ln lc,.int .i64 c.2.2.2.2.2] 28)).heap.size=w.heap.size+1 by simp] at this
  have mg:=hR.lt;have HW:=Hid.mk' hW;have HJ:=Hid.mk' (h.jobs.below hB);have HL:=Hid.mk' (h.log.below hB);have HYS:=Hid.mk' mG.yes;have Vo:=Hid.mk' mG.fits;obtain⟨a0,a1,a2,a3,a4,a5⟩:=cells6 hA;rw[←hW] at a0 a1 a2 a3 a4 a5;clear hW h;aj Tryz.func54,Tryz.ntmps54;ab (o_; rw[HW.out]; refine wpList_make_own _ rfl _ _ 25 rfl 0 75 i0 (.agg #[.int .i64 0,.slice none 0 0,.int .i64 0,.slice none 0 0]) 4 Tryz.underlying25 jX dE dD _ _ _ jn rfl rfl rfl ?b2 ?b3 ?b4 ?_)
  case b2=>rw[cO]; omega
  case b3=>unfold maxLen; omega
  case b4=>exact Nat.zero_le _
  intro w1 aK aI;have a_:Below W.heap.size W w1:=(Below.refl _ _).grown aI (Nat.le_refl _) (fun k e=>by cases e)
  have TT:=KT (R:=ek) aK;have hAl:=hA.lt;clear aK aI a0 a1 a2 a3 a4 a5 jX dE dD cO;obtain⟨a0,a1,a2,a3,a4,a5⟩:=cells6 (hA.below a_);ab fail;aN [12,3] (fun i s wr=>∃(k g cap:Nat) (q:dY),k≤jn∧i=.int .i64 (k:Int)∧s=.slice (some ⟨g,0,none⟩) k cap∧bz 75 ek wr (.slice (some ⟨g,0,none⟩) k cap) (c.2.2.2.1.take k) q∧(∀b∈g::aw q,W.heap.size≤b)∧Below W.heap.size W wr) (fun i _ _=>jn - (intOf i).toNat)
  case atStart=>exact⟨0,_,_,[],Nat.zero_le _,rfl,rfl,TT,fun b hb=>by simp[aw] at hb; omega,a_⟩
  case round=>
    obtain⟨k,g,cap,q,hk,rfl,rfl,hO,hq,tO⟩:=hrel;clear a0 a1 a2 a3 a4 a5 TT;have hAw:=hA.below tO;obtain⟨a0,a1,a2,a3,a4,a5⟩:=cells6 hAw;by_cases bn:k<jn
    · have cJ:k<c.2.2.2.1.length:=by omega
      have fZ:(k:Int)<(jn:Int):=by omega
      obtain⟨jb,eJ,e⟩:=gq HJ.out (by omega)
      subst e;have hS:=HJ.out.below tO;obtain⟨y0,y2,⟨oa,ol,oc,y1,vF,Hy⟩,ya,yl,yc,y3,hY,zE⟩:=qB hS k cJ;have RV:=D_ hS k cJ;have Kh:=HYS.out _ (List.getElem_mem cJ);have pf:=(Vo.out.2.2 _ (List.getElem_mem cJ)).1;have xM:Hid (c.2.2.2.1.take (k+1)=c.2.2.2.1.take k++[c.2.2.2.1[k]]):=List.take_succ_eq_append_getElem cJ;have Mr:Hid ((c.2.2.2.1.take k).length=k):=by show _=_; simp; omega
      have HOJ:=Hid.mk' (KB jb (eJ+k * 4) c.2.2.2.1[k].1 c.2.2.2.1[k].2.2.1 oa ol oc ya yl yc c.2.2.2.1[k].2.1 c.2.2.2.1[k].2.2.2 wr y0 y1 y2 y3 RV.1 RV.2.1 vF Hy hY zE RV.2.2.2 (by have:=vF.1; omega) (by have:=hY.1; omega))
      have HO:=Hid.mk' hO;generalize c.2.2.2.1[k]=j at *;clear hS vF hY RV pf Kh y0 y1 y2 y3 hO;ab fail;refine HOJ.out.mono ?_;rintro e w2 ⟨us,F,rfl,Yi,hF,be⟩;obtain⟨ra,rn,rc,sa,sn,sc,rfl⟩:=fg Yi;have hOk:=HO.out.below be;have Nc:=HO.out.Rq;have dL:=tO.trans (be.mono tO.size);obtain⟨V,hV⟩:∃V,w2.alloc (.cells #[.int .i64 j.1,.slice ra rn rc,.int .i64 j.2.2.1,.slice sa sn sc] 75)=V:=⟨_,rfl⟩;have nw:Below w2.heap.size w2 V:=by rw[←hV]; exact aT
      have hX:aD w2.heap.size 75 [] [.int .i64 j.1,.slice ra rn rc,.int .i64 j.2.2.1,.slice sa sn sc] [] V:=by rw[←hV]; exact aO w2 _ _
      have lu:=dL.trans (nw.mono dL.size);obtain⟨g',aY,w3,dA,ew,jW,fF⟩:=bz.zJ (P:=Tryz.prog) (z:=.agg #[.int .i64 0,.slice none 0 0,.int .i64 0,.slice none 0 0]) Tryz.underlying25 KS rfl (by decide) (hOk.below nw) (ek.gQ Yi nw) (fun b hb hc=>by
        have h1:=hF b hb;have h2:=Nc b (by simpa[Value.ownBlock] using hc)
        omega) hX (by rw[Mr.out]; unfold maxLen; omega) (by rw[Mr.out]; omega) 25
      rw[Mr.out] at dA ew;rw[←xM.out] at ew;have Wi:=be.size;have cY:=lu.grown jW lu.size (fun b e=>by have:g=b:=by simpa[Value.ownBlock] using e
                                                        have:=hq g (by simp); omega)
      have Im:∀b∈g'::aw (q++[([.int .i64 j.1,.slice ra rn rc,.int .i64 j.2.2.1,.slice sa sn sc],F)]),W.heap.size≤b:=fun b hb=>by
        have ud:=tO.size;have pQ:=lu.size;rw[a6] at hb;rcases List.mem_cons.1 hb with e | e
        · rcases fF with e2 | e2
          · have:g=g':=by simpa[Value.ownBlock] using e2
            have:=hq g (by simp); omega
          · omega
        · rcases List.mem_append.1 e with e | e
          · exact hq b (List.mem_cons_of_mem _ e)
          · have:=hF b (by simpa[aw] using e); omega
      have HV:=Hid.mk' hV;have HO3:=Hid.mk' ew;have HQ3:=Hid.mk' Im;clear hV hX hOk ew Im Yi Nc HOJ HO jW;clear a0 a1 a2 a3 a4 a5;ab (ak; rw[HV.out]; refine fO rfl _ _ 25 rfl (by aa) (by aa) dA ?_)
      ab fail;aA
      case rel=>exact⟨k+1,g',aY,_,by omega,by aF,rfl,HO3.out,HQ3.out,cY⟩
      case measure=>simp[intOf]; omega
    · have EV:k=jn:=by omega
      subst EV;have fZ:¬(k:Int)<(k:Int):=by omega
      rw[List.take_of_length_le (by omega)] at hO
      ab fail;have KU:=hAw.lt;have hRw:=hR.below tO;have HO:=Hid.mk' hO;have HLw:=Hid.mk' (HL.out.below tO);have eX:Below wr.heap.size wr wr.drew:=(Below.refl _ _).drew;refine last.aB (S:=fun w'=>Below wr.heap.size wr w') 14 (by aa) eX (fun al=>?_)
      generalize hD:wr.drew=D at *;clear hD;refine last.ae (i:=0) (v:=(.pointer (some ⟨w.heap.size,0,none⟩))) rfl rfl (by aa) (by aa) (by aa) (by aa) (fun _ _ _ h=>h) (Or.inl ⟨by rfl,?_⟩) (by assumption) ?_
      · intro wq aC; af
      try simp only[Act.put,List.setIfInBounds_toArray,List.set_cons_zero,List.set_cons_succ];refine last.ae (i:=1) (v:=(.int .i64 c.1)) rfl rfl (by aa) (by aa) (by aa) (by aa) (fun _ _ _ h=>h) (Or.inl ⟨by rfl,?_⟩) (by assumption) ?_
      · intro wq aC; have q:=(aC.cell (p:=⟨w.heap.size,0,none⟩) KU).trans a0; af
      try simp only[Act.put,List.setIfInBounds_toArray,List.set_cons_zero,List.set_cons_succ];refine last.ae (i:=2) (v:=(.pointer (some ⟨w.heap.size,1,none⟩))) rfl rfl (by aa) (by aa) (by aa) (by aa) (fun _ _ _ h=>h) (Or.inl ⟨by rfl,?_⟩) (by assumption) ?_
      · intro wq aC; af
      try simp only[Act.put,List.setIfInBounds_toArray,List.set_cons_zero,List.set_cons_succ];refine last.ae (i:=3) (v:=(.int .i64 c.2.1)) rfl rfl (by aa) (by aa) (by aa) (by aa) (fun _ _ _ h=>h) (Or.inl ⟨by rfl,?_⟩) (by assumption) ?_
      · intro wq aC; have q:=(aC.cell (p:=⟨w.heap.size,1,none⟩) KU).trans a1; af
      try simp only[Act.put,List.setIfInBounds_toArray,List.set_cons_zero,List.set_cons_succ];refine last.ae (i:=4) (v:=(.pointer (some ⟨w.heap.size,2,none⟩))) rfl rfl (by aa) (by aa) (by aa) (by aa) (fun _ _ _ h=>h) (Or.inl ⟨by rfl,?_⟩) (by assumption) ?_
      · intro wq aC; af
      try simp only[Act.put,List.setIfInBounds_toArray,List.set_cons_zero,List.set_cons_succ];refine last.ae (i:=5) (v:=(.int .i64 c.2.2.1)) rfl rfl (by aa) (by aa) (by aa) (by aa) (fun _ _ _ h=>h) (Or.inl ⟨by rfl,?_⟩) (by assumption) ?_
      · intro wq aC; have q:=(aC.cell (p:=⟨w.heap.size,2,none⟩) KU).trans a2; af
      try simp only[Act.put,List.setIfInBounds_toArray,List.set_cons_zero,List.set_cons_succ];refine last.ae (i:=6) (v:=(.slice (some ⟨g,0,none⟩) k cap)) rfl rfl (by aa) (by aa) (by aa) (by aa) (fun _ _ _ h=>h) (Or.inl ⟨by rfl,?_⟩) (by assumption) ?_
      · intro wq aC; af
      try simp only[Act.put,List.setIfInBounds_toArray,List.set_cons_zero,List.set_cons_succ];refine last.ae (i:=8) (v:=(.pointer (some ⟨w.heap.size,4,none⟩))) rfl rfl (by aa) (by aa) (by aa) (by aa) (fun _ _ _ h=>h) (Or.inl ⟨by rfl,?_⟩) (by assumption) ?_
      · intro wq aC; af
      try simp only[Act.put,List.setIfInBounds_toArray,List.set_cons_zero,List.set_cons_succ];refine last.ae (i:=9) (v:=(.slice la ln lc)) rfl rfl (by aa) (by aa) (by aa) (by aa) (fun _ _ _ h=>h) (Or.inl ⟨by rfl,?_⟩) (by assumption) ?_
      · intro wq aC; have q:=(aC.cell (p:=⟨w.heap.size,4,none⟩) KU).trans a4; af
      try simp only[Act.put,List.setIfInBounds_toArray,List.set_cons_zero,List.set_cons_succ];refine last.ae (i:=11) (v:=(.pointer (some ⟨w.heap.size,5,none⟩))) rfl rfl (by aa) (by aa) (by aa) (by aa) (fun _ _ _ h=>h) (Or.inl ⟨by rfl,?_⟩) (by assumption) ?_
      · intro wq aC; af
      try simp only[Act.put,List.setIfInBounds_toArray,List.set_cons_zero,List.set_cons_succ];refine last.ae (i:=12) (v:=(.int .i64 c.2.2.2.2.2)) rfl rfl (by aa) (by aa) (by aa) (by aa) (fun _ _ _ h=>h) (Or.inl ⟨by rfl,?_⟩) (by assumption) ?_
      · intro wq aC; have q:=(aC.cell (p:=⟨w.heap.size,5,none⟩) KU).trans a5; af
      try simp only[Act.put,List.setIfInBounds_toArray,List.set_cons_zero,List.set_cons_succ];refine last.ax (i:=7) (o:={dst:=some 31,op:=Op.buildSlice 26 0 #[],type:=26,pos:= "l11_coord.go:167",after:=#[],guard:=none}) (by aa) rfl (fun K hK=>?_)
      af;have TU:Below wr.heap.size wr (D.alloc (.cells #[] 87)):=eX.alloc eX.size _;have z_:=pz D 87 2;have hDs:=eX.size;refine hK.out _ _ ?_ (fun aq=>?_)
      · exact TU
      clear hK K al;have al:=aq;clear aq;try simp only[Act.put,List.setIfInBounds_toArray,List.set_cons_zero,List.set_cons_succ];generalize hwB:D.alloc (.cells #[] 87)=wB at *;clear hwB;refine last.ax (i:=10) (o:={dst:=some 34,op:=Op.call {callee:=Callee.builtin Builtin.append,args:=#[Operand.tmp 31,Operand.tmp 33],argTypes:=#[26,26]},type:=26,pos:= "l11_coord.go:167",after:=#[{on:=7,ground:=Ground.data},{on:=9,ground:=Ground.data}],guard:=none}) (by aa) rfl (fun K hK=>?_)
      obtain⟨gl,dk,wC,dA,ri,jW,tY⟩:=KA _ la ln lc 26 z_ (HLw.out.below TU) (by omega)
      refine dc rfl (.tmp 31) (.tmp 33) 26 rfl (by aa) (by aa) dA ?_
      have Vt:Below wr.heap.size wr wC:=TU.grown jW TU.size (fun k e=>by cases e; omega)
      have hglb:wr.heap.size≤gl:=by
        have:=TU.size;rcases tY with e | e <;> omega
      refine hK.out _ _ ?_ (fun aq=>?_)
      · exact Vt
      clear hK K al;have al:=aq;clear aq;try simp only[Act.put,List.setIfInBounds_toArray,List.set_cons_zero,List.set_cons_succ];clear dA z_ jW tY;refine last.ae (i:=13) (v:=(.agg #[.int .i64 c.1,.int .i64 c.2.1,.int .i64 c.2.2.1,.slice (some ⟨g,0,none⟩) k cap,.slice (some ⟨gl,0,none⟩) ln dk,.int .i64 c.2.2.2.2.2])) rfl rfl (by aa) (by aa) (by aa) (by aa) (fun _ _ _ h=>h) (Or.inl ⟨by rfl,?_⟩) (by assumption) ?_
      · intro wq aC; af
      try simp only[Act.put,List.setIfInBounds_toArray,List.set_cons_zero,List.set_cons_succ];have N8:=hRw.below Vt;obtain⟨z0,z1,z2,z3,z4,z5⟩:=cells6 N8;have f0:=N8.fz 0;have f1:=N8.fz 1;have f2:=N8.fz 2;have f3:=N8.fz 3;have f4:=N8.fz 4;have f5:=N8.fz 5;have hS:=N8.whole [.int .i64 c.1,.int .i64 c.2.1,.int .i64 c.2.2.1,.slice (some ⟨g,0,none⟩) k cap,.slice (some ⟨gl,0,none⟩) ln dk,.int .i64 c.2.2.2.2.2] rfl;obtain⟨y0,y1,y2,y3,y4,y5⟩:=cells6 hS.1;simp only[bx,Nat.zero_add,Nat.reduceAdd] at y0 y1 y2 y3 y4 y5;have zQ:=hB.trans (tO.mono hB.size);have CD:=tO.size;have hBC:=zQ.trans (Vt.mono zQ.size);have jP:=hBC.grown hS.2 hBC.size (fun j e=>by cases e; omega)
      have Yj:=HO.out.Rq;have hjr:lk.own wr [.slice (some ⟨g,0,none⟩) k cap] c.2.2.2.1 (g::aw q):=⟨_,q,rfl,by simp[Value.ownBlock],HO.out⟩
      have OG:=lk.bH (lk.gQ hjr Vt) hS.2 (fun b hb e=>by have:=hq b hb; cases e; omega)
      have jA:=qA.bH ri hS.2 (fun b hb e=>by simp only[List.mem_singleton] at hb; subst hb; cases e; omega)
      have XW:=Hid.mk' (bC.2 ⟨_,_,_,_,rfl,fH,OG,jA,rfl,Ft (lk.bU OG) (by simp) Yj (fun b hb=>by simp only[List.mem_singleton] at hb; omega)⟩)
      have OL:=Hid.mk' jP;have XX:Hid (∀b∈(g::aw q)++[gl],w.heap.size≤b):=fun b hb=>by
        have hs:=hB.size;have pQ:=zQ.size;rcases List.mem_append.1 hb with e | e
        · have:=hq b e; omega
        · simp only[List.mem_singleton] at e; omega
      clear hjr OG jA ri jP hS;refine last.aL (o:={dst:=none,op:=Op.store 28 (Operand.tmp 2) (Operand.tmp 37),type:=0,pos:= "l11_coord.go:167",after:=#[{on:=13,ground:=Ground.data},{on:=10,ground:=Ground.chain},{on:=0,ground:=Ground.phase},{on:=1,ground:=Ground.phase},{on:=2,ground:=Ground.phase},{on:=3,ground:=Ground.phase},{on:=4,ground:=Ground.phase},{on:=5,ground:=Ground.phase},{on:=6,ground:=Ground.phase},{on:=7,ground:=Ground.phase},{on:=8,ground:=Ground.phase},{on:=9,ground:=Ground.phase},{on:=10,ground:=Ground.phase},{on:=11,ground:=Ground.phase},{on:=12,ground:=Ground.phase},{on:=13,ground:=Ground.phase}],guard:=none}) (by aa) rfl (by aa) (fun K hK=>?_)
      af;refine hK.out _ _ ?_;clear hK K;ab fail;refine bodyPost_ret (v:=.agg #[.int .i64 c.1,.int .i64 c.2.1,.int .i64 c.2.2.1,.slice (some ⟨g,0,none⟩) k cap,.slice (some ⟨gl,0,none⟩) ln dk,.int .i64 c.2.2.2.2.2]) ?_ rfl ⟨_,_,rfl,XW.out,XX.out,OL.out⟩;simp[results,Tryz.results54,go_sem,y0,y1,y2,y3,y4,y5]
end cos
namespace cos
open Go Go.RowKit base aE aX lay lh
def yq(ln:Nat)(sure keep:Int):Nat:=(sure+min (max keep 0) ((ln:Int) - sure)).toNat
theorem BX{ln:Nat}{sure keep:Int}(h:0≤sure∧sure≤(ln:Int)):yq ln sure keep≤ln∧((yq ln sure keep:Nat):Int)=sure+min (max keep 0) ((ln:Int) - sure):=by
 unfold yq; omega
end cos
end Go.Proofs.YtmibabclefgljaaGreat
