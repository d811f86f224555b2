/- The statement FnMadeSureSaid: at every code FnMadeSure answers true, and the code reads afterwards as before. No condition besides the row's own. -/
import Derived.Test.YtmibabclefgljaaGreatRows
import Derived.Test.YtmibabclefgljaaGreatShat
import Derived.Test.YtmibabclefgljaaGreatSham
import Derived.Test.YtmibabclefgljaaGreatShau
import Derived.Test.YtmibabclefgljaaGreatShas
import Derived.Test.YtmibabclefgljaaGreatShbj
import Derived.Test.YtmibabclefgljaaGreatShbc
import Derived.ProofKit
import Derived.OpenShut
import Derived.ShutString
import Derived.ChangeOld
import Derived.Below
namespace Go.Proofs.YtmibabclefgljaaGreat.fnMadeSure
open Go.ChangeShapes Go.WideShapes Go.ChangeAt Go.RowKit
open Go.ChangeMaps (open_string shut_string)
set_option linter.unusedVariables false
set_option linter.unusedSimpArgs false
open Go.Proofs.YtmibabclefgljaaGreat.base Go.Proofs.YtmibabclefgljaaGreat.aE Go.Proofs.YtmibabclefgljaaGreat.aX Go.Proofs.YtmibabclefgljaaGreat.gO Go.Proofs.YtmibabclefgljaaGreat.dG Go.Proofs.YtmibabclefgljaaGreat.bm Go.Proofs.YtmibabclefgljaaGreat.lay Go.Proofs.YtmibabclefgljaaGreat.draw

theorem sure_same(s:de):(bW s).1=s.1∧(bW s).2.1=s.2.1∧(bW s).2.2.2.1=s.2.2.2.1∧(bW s).2.2.2.2=s.2.2.2.2∧bV (bW s)=bV s:=by
  unfold bW;cases bR:bV s with
  | false=>simp[bR]
  | true=>
    simp only[if_true];refine⟨trivial,trivial,trivial,trivial,?_⟩;exact(nP _).2 (kf ((nP s).1 bR))
theorem sure_sameC(c:cos.Co):(cos.bW c).2.1=c.2.1∧(cos.bW c).2.2.1=c.2.2.1∧(cos.bW c).2.2.2.1=c.2.2.2.1∧(cos.bW c).2.2.2.2.1=c.2.2.2.2.1∧cos.bt (cos.bW c)=cos.bt c:=by
  unfold cos.bW;cases bR:cos.bt c with
  | false=>simp[bR]
  | true=>
    simp only[if_true];refine⟨trivial,trivial,trivial,trivial,?_⟩;exact cos.sK.2 (cos.kf (cos.sK.1 bR))
theorem same_pairs(a a2:Option Addr)(len cap cK eC:Nat)(l:List Pr)(w:World)(h:lL w a len l)(h2:lL w a2 cK l):
    Calls Tryz.prog 24 #[.slice a len cap,.slice a2 cK eC] w fun e w'=>e=.returned (.bool true)∧Below w.heap.size w w':=by
  refine(Fm a a2 len cap cK eC l l w h h2).mono ?_;rintro e w' ⟨rfl,n,rfl⟩;exact⟨by simp,below_drewN (Below.refl _ _) _⟩
theorem field2(i su:Int)(x y z:Option Addr)(n c m d p q:Nat)(w:World):(Instr.field 43 (.agg #[.int .i64 i,.slice x n c,.int .i64 su,.slice y m d,.slice z p q]) 2).run Tryz.prog w=.ok (.int .i64 su) w:=by aa
theorem field5(a b d su:Int)(x y:Option Addr)(n c m e:Nat)(w:World):(Instr.field 28 (.agg #[.int .i64 a,.int .i64 b,.int .i64 d,.slice x n c,.slice y m e,.int .i64 su]) 5).run Tryz.prog w=.ok (.int .i64 su) w:=by aa
set_option maxRecDepth 100000 in
set_option maxHeartbeats 8000000 in
theorem walk(a0:Option Addr)(rV Ac:Nat)(b0:List UInt8)(w:World)(w0:Sl w a0 rV b0):
    Calls Tryz.prog 4 #[.slice a0 rV Ac] w fun e w'=>e=.returned (.bool true)∧Below w.heap.size w w':=by
  have hm:=w0.2.1;have hb:=VB a0 rV Ac w hm;by_cases ls:1048576<rV
  · rw[decide_eq_true (by omega)] at hb
    have HB:=Hid.mk' hb;clear hb;aj Tryz.func4,Tryz.ntmps4;ab fail;refine HB.out.mono ?_;rintro e w1 ⟨rfl,rfl⟩;ab fail;an;exact⟨rfl,Below.refl _ _⟩
  rw[decide_eq_false (by omega)] at hb
  have HB:=Hid.mk' (hb.mono (fun e w' (hp:e=.returned (.bool false)∧w'=w)=>(⟨hp.1,hp.2.symm⟩:e=.returned (.bool false)∧w=w')))
  have Ry:=Hid.mk' (yz a0 rV Ac b0 w w0 (by omega))
  have Y4:Hid (∀wx,Below w.heap.size w wx→_):=fun wx hx=>cos.Ad a0 rV Ac b0 wx (w0.below hx) (by omega)
  clear hb;aj Tryz.func4,Tryz.ntmps4;ab fail;refine HB.out.mono ?_;rintro e w1 ⟨rfl,rfl⟩;ab fail;refine Ry.out.mono ?_;rintro e w2 ⟨la,ln,lc,ma,mn,mc,ha,hn,hc,s,F,hD,rfl,qN,hF,be⟩;clear HB Ry;have mG:=hD.bd;obtain⟨W,hW⟩:∃W,w2.alloc (cA s.1 s.2.2.1 la ln lc ma mn mc ha hn hc)=W:=⟨_,rfl⟩;have Hk:Below w2.heap.size w2 W:=by rw[←hW]; exact eu
  have bI:=lR qN;rw[hW] at bI;have zQ:=be.trans (Hk.mono be.size);have Ae:=Hid.mk' (fun wx (hx:Below W.heap.size W wx)=>(bI.below hx).own.fo)
  have UF:=Hid.mk' (fun wx (hx:Below W.heap.size W wx)=>(bm.dn.Ig (bI.below hx).own).1)
  have CH:=Hid.mk' (fun wx (hx:Below W.heap.size W wx)=>(bI.below hx).cells)
  obtain⟨u1,u2,u3⟩:=eY.jS bI.own.fo mG;obtain⟨x0,x1,x2,x3,x4⟩:=CH.out W (Below.refl _ _);rw[←hW] at x0 x1 x2 x3 x4;have HW:=Hid.mk' hW;have Y5:Hid (Calls Tryz.prog 18 #[.agg #[.int .i64 s.1,.slice la ln lc,.int .i64 s.2.2.1,.slice ma mn mc,.slice ha hn hc]] W (Af W (bW s))):=wF la ln lc ma mn mc ha hn hc s W (Ae.out W (Below.refl _ _)) (UF.out W (Below.refl _ _)) mG;have Y6:Hid (∀wx,Below W.heap.size W wx→Calls Tryz.prog 21 #[.agg #[.int .i64 s.1,.slice la ln lc,.int .i64 s.2.2.1,.slice ma mn mc,.slice ha hn hc]] wx (Af wx (bW s))):=fun wx hx=>wG la ln lc ma mn mc ha hn hc s wx (Ae.out wx hx) mG
  have QU:Hid (∀wx,Below W.heap.size W wx→Calls Tryz.prog 26 #[.agg #[.int .i64 s.1,.slice la ln lc,.int .i64 s.2.2.1,.slice ma mn mc,.slice ha hn hc]] wx fun e w'=>e=.returned (.bool (bV s))∧Below wx.heap.size wx w'):=fun wx hx=>qO la ln lc ma mn mc ha hn hc s wx (Ae.out wx hx) mG.jS
  obtain⟨q1,q2,q3,q4,q5⟩:=sure_same s;have VC:xz (bW s):=by
    unfold bW
    split
    · exact⟨mG.jS,mG.Ag,mG.log,mG.map,mG.held,mG.qP⟩
    · exact mG
  generalize bW s=S at *;clear hW qN hF hD hm;ab fail;rw[HW.out];refine Y5.out.mono ?_;rintro e w4 ⟨ia,na,ca,ja,No,Np,ka,Fo,QV,FA,rfl,LI,hFA,eR⟩;clear Y5 x0 x1 x2 x3 x4 HW;obtain⟨V,hV⟩:∃V,w4.alloc (cA S.1 S.2.2.1 ia na ca ja No Np ka Fo QV)=V:=⟨_,rfl⟩;have fv:Below w4.heap.size w4 V:=by rw[←hV]; exact eu
  have QW:=lR LI;rw[hV] at QW;have Lg:=eR.trans (fv.mono eR.size);have Y7:=Hid.mk' (fun wx (hx:Below V.heap.size V wx)=>(QW.below hx).cells)
  have Rz:=Hid.mk' (fun wx (hx:Below V.heap.size V wx)=>(QW.below hx).own.fo)
  have Ih:=Hid.mk' (fun wx (hx:Below V.heap.size V wx)=>(bm.dn.Ig (QW.below hx).own).1)
  obtain⟨v1,v2,v3⟩:=eY.jS QW.own.fo VC;have Y8:Hid (∀wx,Below V.heap.size V wx→Calls Tryz.prog 25 #[.agg #[.int .i64 S.1,.slice ia na ca,.int .i64 S.2.2.1,.slice ja No Np,.slice ka Fo QV]] wx fun e w'=>e=.returned (.bool (bV s))∧Below wx.heap.size wx w'):=fun wx hx=>by
    have:=qQ ia na ca ja No Np ka Fo QV S wx (Rz.out wx hx) (Ih.out wx hx) VC.jS (by omega) (by omega)
    rw[q5] at this;exact this
  have lu:=zQ.trans (Lg.mono zQ.size);have RA:=Hid.mk' (Y4.out V lu);have HV:=Hid.mk' hV;have RC:na=ln:=by
    have h1:=(Rz.out V (Below.refl _ _)).log.1;have h2:=(Ae.out V Lg).log.1;rw[q2] at h1;omega
  have tE:Hid (∀wx,Below V.heap.size V wx→Calls Tryz.prog 23 #[.slice ia ln ca,.slice la ln lc] wx fun e w'=>e=.returned (.bool true)∧Below wx.heap.size wx w'):=fun wx hx=>by
    have h1:=(Rz.out wx hx).log;rw[q2,RC] at h1;exact Fp ia la ln ca lc s.2.1 wx h1 (Ae.out wx (Lg.trans (hx.mono Lg.size))).log
  have xA:Hid (∀wx,Below V.heap.size V wx→Calls Tryz.prog 24 #[.slice ja No Np,.slice ma mn mc] wx fun e w'=>e=.returned (.bool true)∧Below wx.heap.size wx w'):=fun wx hx=>by
    have h1:=(Rz.out wx hx).map;rw[q3] at h1;exact same_pairs ja ma No Np mn mc s.2.2.2.1 wx h1 (Ae.out wx (Lg.trans (hx.mono Lg.size))).map
  subst RC;clear hV LI hFA Y4 q1 q2 q3 q4 q5 u1 u2 u3 v1 v2 v3 Ih Rz;ab fail;rw[HV.out];refine RA.out.mono ?_;rintro e w5 ⟨LJ,Ox,LK,LL,Oy,LM,c,F5,lM,rfl,eD,wH,dx⟩;have yA:=cos.Ii (c:=c) (by omega)
  clear HV RA;obtain⟨V5,tF⟩:∃V5,w5.alloc (.cells #[.int .i64 c.1,.int .i64 c.2.1,.int .i64 c.2.2.1,.slice LJ Ox LK,.slice LL Oy LM,.int .i64 c.2.2.2.2.2] 28)=V5:=⟨_,rfl⟩;have RD:Below w5.heap.size w5 V5:=by rw[←tF]; exact aT
  have UG:=t_ (T:=28) eD;rw[tF] at UG;have RE:=dx.trans (RD.mono dx.size);have Lh:=Hid.mk' (fun wx (hx:Below V5.heap.size V5 wx)=>cos.uv (UG.below hx).fo)
  have VD:=Hid.mk' (fun wx (hx:Below V5.heap.size V5 wx)=>cells6 (UG.below hx).box)
  have Y9:=Hid.mk' (cos.yB LJ Ox LK LL Oy LM c V5 (Lh.out V5 (Below.refl _ _)) yA);have Y_:Hid (∀wx,Below V5.heap.size V5 wx→Calls Tryz.prog 22 #[.agg #[.int .i64 c.1,.int .i64 c.2.1,.int .i64 c.2.2.1,.slice LJ Ox LK,.slice LL Oy LM,.int .i64 c.2.2.2.2.2]] wx (Ah cos.bp wx (cos.bW c))):=fun wx hx=>cos.Ij (Lh.out wx hx) yA (cos.yC LJ Ox LK LL Oy LM c wx (Lh.out wx hx) yA.fits yA.yes)
  have Fs:Hid (∀wx,Below V5.heap.size V5 wx→Calls Tryz.prog 27 #[.agg #[.int .i64 c.1,.int .i64 c.2.1,.int .i64 c.2.2.1,.slice LJ Ox LK,.slice LL Oy LM,.int .i64 c.2.2.2.2.2]] wx fun e w'=>e=.returned (.bool (cos.bt c))∧Below wx.heap.size wx w'):=fun wx hx=>cos.qR LJ Ox LK LL Oy LM c wx (Lh.out wx hx) yA.fits
  have Za:cos.rW (cos.bW c):=by
    unfold cos.bW
    split
    · exact yA.fits
    · exact yA.fits
  obtain⟨r1,r2,r3,r4,r5⟩:=sure_sameC c;generalize cos.bW c=R at *;obtain⟨z0,z1,z2,z3,z4,z5⟩:=VD.out V5 (Below.refl _ _);rw[←tF] at z0 z1 z2 z3 z4 z5;have Zb:=Hid.mk' tF;clear tF eD wH;ab fail;rw[Zb.out];refine Y9.out.mono ?_;rintro e w6 ⟨vs6,F6,rfl,en,RF,mJ⟩;obtain⟨QX,Hl,QY,QZ,Hm,Q0,rfl⟩:=cos.nQ en;clear Zb Y9 z0 z1 z2 z3 z4 z5;obtain⟨V6,p_⟩:∃V6,w6.alloc (.cells #[.int .i64 R.1,.int .i64 R.2.1,.int .i64 R.2.2.1,.slice QX Hl QY,.slice QZ Hm Q0,.int .i64 R.2.2.2.2.2] 28)=V6:=⟨_,rfl⟩;have RG:Below w6.heap.size w6 V6:=by rw[←p_]; exact aT
  have UH:=t_ (T:=28) en;rw[p_] at UH;have yD:=mJ.trans (RG.mono mJ.size);have wI:=RE.trans (yD.mono RE.size);have LN:=Lg.trans (wI.mono Lg.size);have nD:=Hid.mk' (fun wx (hx:Below V6.heap.size V6 wx)=>cos.uv (UH.below hx).fo)
  obtain rfl:Hm=Oy:=by
    have h1:=(nD.out V6 (Below.refl _ _)).log.1;have h2:=(Lh.out V6 yD).log.1;rw[r4] at h1;omega
  obtain rfl:Hl=Ox:=by
    have h1:=(nD.out V6 (Below.refl _ _)).jobs.1;have h2:=(Lh.out V6 yD).jobs.1;rw[r3] at h1;omega
  have HYO:Hid (∀wx,Below V6.heap.size V6 wx→Calls Tryz.prog 15 #[.agg #[.int .i64 R.1,.int .i64 R.2.1,.int .i64 R.2.2.1,.slice QX Hl QY,.slice QZ Hm Q0,.int .i64 R.2.2.2.2.2]] wx fun e w'=>e=.returned (.bool (cos.bt c))∧Below wx.heap.size wx w'):=fun wx hx=>by
    have:=cos.qS QX Hl QY QZ Hm Q0 R wx (nD.out wx hx) Za;rw[r5] at this;exact this
  have Zc:=Hid.mk' (fun wx (hx:Below V6.heap.size V6 wx)=>cells6 (UH.below hx).box)
  have Li:(R.2.1==c.2.1)=true:=by rw[r1]; simp
  have Ex:(R.2.2.1==c.2.2.1)=true:=by rw[r2]; simp
  -- the four boxes as they lie, in any world behind V6
  have gP:Hid (∀wx,Below V6.heap.size V6 wx→(wx.cell? ⟨w4.heap.size,0,none⟩=some (.int .i64 S.1)∧wx.cell? ⟨w4.heap.size,1,none⟩=some (.slice ia na ca)∧wx.cell? ⟨w4.heap.size,2,none⟩=some (.int .i64 S.2.2.1)∧wx.cell? ⟨w4.heap.size,3,none⟩=some (.slice ja No Np)∧wx.cell? ⟨w4.heap.size,4,none⟩=some (.slice ka Fo QV))∧(wx.cell? ⟨w2.heap.size,0,none⟩=some (.int .i64 s.1)∧wx.cell? ⟨w2.heap.size,1,none⟩=some (.slice la na lc)∧wx.cell? ⟨w2.heap.size,2,none⟩=some (.int .i64 s.2.2.1)∧wx.cell? ⟨w2.heap.size,3,none⟩=some (.slice ma mn mc)∧wx.cell? ⟨w2.heap.size,4,none⟩=some (.slice ha hn hc))∧(wx.cell? ⟨w6.heap.size,0,none⟩=some (.int .i64 R.1)∧wx.cell? ⟨w6.heap.size,1,none⟩=some (.int .i64 R.2.1)∧wx.cell? ⟨w6.heap.size,2,none⟩=some (.int .i64 R.2.2.1)∧wx.cell? ⟨w6.heap.size,3,none⟩=some (.slice QX Hl QY)∧wx.cell? ⟨w6.heap.size,4,none⟩=some (.slice QZ Hm Q0)∧wx.cell? ⟨w6.heap.size,5,none⟩=some (.int .i64 R.2.2.2.2.2))∧(wx.cell? ⟨w5.heap.size,0,none⟩=some (.int .i64 c.1)∧wx.cell? ⟨w5.heap.size,1,none⟩=some (.int .i64 c.2.1)∧wx.cell? ⟨w5.heap.size,2,none⟩=some (.int .i64 c.2.2.1)∧wx.cell? ⟨w5.heap.size,3,none⟩=some (.slice LJ Hl LK)∧wx.cell? ⟨w5.heap.size,4,none⟩=some (.slice LL Hm LM)∧wx.cell? ⟨w5.heap.size,5,none⟩=some (.int .i64 c.2.2.2.2.2))):=fun wx hx=>by
    have h1:=wI.trans (hx.mono wI.size);have h2:=Lg.trans (h1.mono Lg.size);have h3:=yD.trans (hx.mono yD.size);exact⟨Y7.out wx h1,CH.out wx h2,Zc.out wx hx,VD.out wx h3⟩
  have HV6:=Hid.mk' p_;have RH:Below V6.heap.size V6 V6.drew:=(Below.refl _ _).drew;have k1:(S.2.2.1 != S.2.2.1)=false:=by simp
  have k2:(R.2.2.2.2.2 != R.2.2.2.2.2)=false:=by simp
  have k3:((Hm:Int) != (Hm:Int))=false:=by simp
  have k4:((Hl:Int) != (Hl:Int))=false:=by simp
  have RI:=lu.trans (wI.mono lu.size);have HM:Hid (∀wx,Below V6.heap.size V6 wx→_):=fun wx hx=>Y6.out wx (LN.trans (hx.mono LN.size))
  have Ik:Hid (∀wx,Below V6.heap.size V6 wx→_):=fun wx hx=>Y_.out wx (yD.trans (hx.mono yD.size))
  have HR:Hid (∀wx,Below V6.heap.size V6 wx→_):=fun wx hx=>tE.out wx (wI.trans (hx.mono wI.size))
  have HP:Hid (∀wx,Below V6.heap.size V6 wx→_):=fun wx hx=>xA.out wx (wI.trans (hx.mono wI.size))
  have HO1:Hid (∀wx,Below V6.heap.size V6 wx→_):=fun wx hx=>Y8.out wx (wI.trans (hx.mono wI.size))
  have LO:Hid (∀wx,Below V6.heap.size V6 wx→_):=fun wx hx=>QU.out wx (LN.trans (hx.mono LN.size))
  have Il:Hid (∀wx,Below V6.heap.size V6 wx→_):=fun wx hx=>Fs.out wx (yD.trans (hx.mono yD.size))
  have we:=field2;have hf5:=field5;clear p_ en RF QW bI UG UH lu zQ mG yA Za VC r1 r2 r3 r4 r5 Y6 Y_ tE xA Y8 QU Fs Y7 CH VD Zc Lh Ae UF nD be eR dx mJ fv RD RG Hk;ab fail;rw[HV6.out];jM (fun w'=>Below V6.heap.size V6 w'∧(w'.cell? ⟨w4.heap.size,0,none⟩=some (.int .i64 S.1)∧w'.cell? ⟨w4.heap.size,1,none⟩=some (.slice ia na ca)∧w'.cell? ⟨w4.heap.size,2,none⟩=some (.int .i64 S.2.2.1)∧w'.cell? ⟨w4.heap.size,3,none⟩=some (.slice ja No Np)∧w'.cell? ⟨w4.heap.size,4,none⟩=some (.slice ka Fo QV))∧(w'.cell? ⟨w2.heap.size,0,none⟩=some (.int .i64 s.1)∧w'.cell? ⟨w2.heap.size,1,none⟩=some (.slice la na lc)∧w'.cell? ⟨w2.heap.size,2,none⟩=some (.int .i64 s.2.2.1)∧w'.cell? ⟨w2.heap.size,3,none⟩=some (.slice ma mn mc)∧w'.cell? ⟨w2.heap.size,4,none⟩=some (.slice ha hn hc))∧(w'.cell? ⟨w6.heap.size,0,none⟩=some (.int .i64 R.1)∧w'.cell? ⟨w6.heap.size,1,none⟩=some (.int .i64 R.2.1)∧w'.cell? ⟨w6.heap.size,2,none⟩=some (.int .i64 R.2.2.1)∧w'.cell? ⟨w6.heap.size,3,none⟩=some (.slice QX Hl QY)∧w'.cell? ⟨w6.heap.size,4,none⟩=some (.slice QZ Hm Q0)∧w'.cell? ⟨w6.heap.size,5,none⟩=some (.int .i64 R.2.2.2.2.2))∧(w'.cell? ⟨w5.heap.size,0,none⟩=some (.int .i64 c.1)∧w'.cell? ⟨w5.heap.size,1,none⟩=some (.int .i64 c.2.1)∧w'.cell? ⟨w5.heap.size,2,none⟩=some (.int .i64 c.2.2.1)∧w'.cell? ⟨w5.heap.size,3,none⟩=some (.slice LJ Hl LK)∧w'.cell? ⟨w5.heap.size,4,none⟩=some (.slice LL Hm LM)∧w'.cell? ⟨w5.heap.size,5,none⟩=some (.int .i64 c.2.2.2.2.2))) (first | (ag exact⟨Nq,gP.out _ Nq⟩) | (ag exact⟨Im,gP.out _ Im⟩) | (ag exact⟨sL,gP.out _ sL⟩) | (ag exact⟨Io,gP.out _ Io⟩) | (ag exact⟨RH,gP.out _ RH⟩) | fail "keep7") (first | (ao 24; (ag refine(HP.out _ Im).mono ?_); rintro e wq4 ⟨rfl,hE⟩; have Nq:=Im.trans (hE.mono Im.size)) | (ao 23; (ag refine(HR.out _ sL).mono ?_); rintro e wq3 ⟨rfl,VE⟩; have Im:=sL.trans (VE.mono sL.size)) | (ao 22; (ag refine(Ik.out _ Io).mono ?_); rintro e wq2 ⟨vsq,Fq,rfl,Zd,hFq,VF⟩; have sL:=Io.trans (VF.mono Io.size); obtain⟨eja,ejn,ejc,ela,eln,elc,rfl⟩:=cos.nQ Zd; clear Zd hFq) | (ao 21; (ag refine(HM.out _ RH).mono ?_); rintro e wq1 ⟨ib,nb,cb,jb,mnb,mcb,kb,Ip,VG,FB,rfl,hOB,hFB,VH⟩; have Io:=RH.trans (VH.mono RH.size); clear hOB hFB) | fail "arm7")
  have hq:=Nq;clear HM Ik HR HP k1 k2 k3 k4 we hf5;generalize wq4=W7 at *;obtain⟨⟨p0,p1,p2,p3,p4⟩,⟨s0,s1,s2,s3,s4⟩,⟨y0,y1,y2,y3,y4,y5⟩,⟨c0,c1,c2,c3,c4,c5⟩⟩:=gP.out W7 hq;have op0:=last.On.cell (B:=W7.heap.size) p0 (World.block_lt_of_cell? _ _ p0);have op1:=last.On.cell (B:=W7.heap.size) p1 (World.block_lt_of_cell? _ _ p1);have op2:=last.On.cell (B:=W7.heap.size) p2 (World.block_lt_of_cell? _ _ p2);have op3:=last.On.cell (B:=W7.heap.size) p3 (World.block_lt_of_cell? _ _ p3);have op4:=last.On.cell (B:=W7.heap.size) p4 (World.block_lt_of_cell? _ _ p4);have os0:=last.On.cell (B:=W7.heap.size) s0 (World.block_lt_of_cell? _ _ s0);have os1:=last.On.cell (B:=W7.heap.size) s1 (World.block_lt_of_cell? _ _ s1);have os2:=last.On.cell (B:=W7.heap.size) s2 (World.block_lt_of_cell? _ _ s2);have os3:=last.On.cell (B:=W7.heap.size) s3 (World.block_lt_of_cell? _ _ s3)
  have os4:=last.On.cell (B:=W7.heap.size) s4 (World.block_lt_of_cell? _ _ s4);have oy0:=last.On.cell (B:=W7.heap.size) y0 (World.block_lt_of_cell? _ _ y0);have oy1:=last.On.cell (B:=W7.heap.size) y1 (World.block_lt_of_cell? _ _ y1);have oy2:=last.On.cell (B:=W7.heap.size) y2 (World.block_lt_of_cell? _ _ y2);have oy3:=last.On.cell (B:=W7.heap.size) y3 (World.block_lt_of_cell? _ _ y3);have oy4:=last.On.cell (B:=W7.heap.size) y4 (World.block_lt_of_cell? _ _ y4);have oy5:=last.On.cell (B:=W7.heap.size) y5 (World.block_lt_of_cell? _ _ y5);have oc0:=last.On.cell (B:=W7.heap.size) c0 (World.block_lt_of_cell? _ _ c0);have oc1:=last.On.cell (B:=W7.heap.size) c1 (World.block_lt_of_cell? _ _ c1);have oc2:=last.On.cell (B:=W7.heap.size) c2 (World.block_lt_of_cell? _ _ c2);have Ze:=last.On.cell (B:=W7.heap.size) c3 (World.block_lt_of_cell? _ _ c3);have Ey:=last.On.cell (B:=W7.heap.size) c4 (World.block_lt_of_cell? _ _ c4)
  have oc5:=last.On.cell (B:=W7.heap.size) c5 (World.block_lt_of_cell? _ _ c5);have br:=last.On.iq W7.heap.size W7;have Oz:∀xx:last.On W7.heap.size W7,Calls Tryz.prog 25 #[.agg #[.int .i64 S.1,.slice ia na ca,.int .i64 S.2.2.1,.slice ja No Np,.slice ka Fo QV]] xx.w fun e w'=>e=.returned (.bool (bV s))∧∃yv:last.On W7.heap.size W7,w'=yv.w:=fun xx=>last.Calls.on xx (Nat.le_refl _) (HO1.out xx.w (hq.trans (xx.2.mono hq.size)))
  have OA:∀xx:last.On W7.heap.size W7,Calls Tryz.prog 26 #[.agg #[.int .i64 s.1,.slice la na lc,.int .i64 s.2.2.1,.slice ma mn mc,.slice ha hn hc]] xx.w fun e w'=>e=.returned (.bool (bV s))∧∃yv:last.On W7.heap.size W7,w'=yv.w:=fun xx=>last.Calls.on xx (Nat.le_refl _) (LO.out xx.w (hq.trans (xx.2.mono hq.size)))
  have OB:∀xx:last.On W7.heap.size W7,Calls Tryz.prog 15 #[.agg #[.int .i64 R.1,.int .i64 R.2.1,.int .i64 R.2.2.1,.slice QX Hl QY,.slice QZ Hm Q0,.int .i64 R.2.2.2.2.2]] xx.w fun e w'=>e=.returned (.bool (cos.bt c))∧∃yv:last.On W7.heap.size W7,w'=yv.w:=fun xx=>last.Calls.on xx (Nat.le_refl _) (HYO.out xx.w (hq.trans (xx.2.mono hq.size)))
  have OC:∀xx:last.On W7.heap.size W7,Calls Tryz.prog 27 #[.agg #[.int .i64 c.1,.int .i64 c.2.1,.int .i64 c.2.2.1,.slice LJ Hl LK,.slice LL Hm LM,.int .i64 c.2.2.2.2.2]] xx.w fun e w'=>e=.returned (.bool (cos.bt c))∧∃yv:last.On W7.heap.size W7,w'=yv.w:=fun xx=>last.Calls.on xx (Nat.le_refl _) (Il.out xx.w (hq.trans (xx.2.mono hq.size)))
  have e1:(bV s==bV s)=true:=by simp
  have e2:(cos.bt c==cos.bt c)=true:=by simp
  generalize bV s=b1 at *;generalize cos.bt c=b2 at *;have jd:=RI.trans (hq.mono RI.size);clear p0 p1 p2 p3 p4 s0 s1 s2 s3 s4 y0 y1 y2 y3 y4 y5 c0 c1 c2 c3 c4 c5;ab fail;refine last.ar W7.heap.size (by aa) (by aa) ?_
  repeat(ai ((first | (ao 25; ag exact Oz _) | (ao 26; ag exact OA _) | (ao 15; ag exact OB _) | (ao 27; ag exact OC _))))
  refine wpQuiet_nil ?_;intro wq bq;obtain⟨xq,bq⟩:=bq;subst bq;have RJ:Below W7.heap.size W7 xq.w:=xq.2;ab fail;an;exact⟨rfl,jd.trans (RJ.mono jd.size)⟩

theorem own:ownKnob Tryz.prog.godebug=none:=by aa
theorem laidOut:laidOutB Tryz.prog=true:=by aa

set_option maxRecDepth 100000 in
theorem lifted(os:Os)(started:os.Started)(H:Type)(enc:TypeId × Value→H):
    ReturnsInHanded {} Tryz.checked os 4 .any (Rows.fnMadeSureSpec.pre6 enc Tryz.prog Tryz.f4 Rows.fnMadeSureRow.domain false) (Rows.fnMadeSureSpec.post enc Tryz.prog Tryz.f4 false true false false):=by
  refine returnsInHanded_of_change (C:=Tryz.checked) own started (by aa) Tryz.func4
    (ChangeSpec.witness6 (enc:=enc) (C:=Tryz.checked) false ⟨#[],#[.slice none 0 0],[]⟩ 8 (by aa) (by aa) (by aa) (by aa)) ?_
  intro W base args ds gs before Nr hW hcnd _;have LP:∀(j:Nat) t v,Tryz.f4.params[j]? =some t→args[j]? =some v→Value.okWide Tryz.prog W .any base t v:=Nr;have hW':=hW;obtain⟨p,q,Zf,hV,rfl,Lj,eo⟩:=hW;have hA:DataW.TrodAll enc Tryz.prog W 0 (fun _=>true) true Tryz.f4.params.toList args.toList ds p:=Zf
  rw[Tryz.params4] at hA LP;obtain⟨v0,vs0,d0,ds0,p0,q0,Zg,rfl,rfl,h0,r0⟩:=trodAll_cons hA;obtain⟨rfl,rfl,rfl⟩:=trodAll_nil r0;obtain rfl:args=#[v0]:=by cases args; uw
  obtain⟨rfl,rfl⟩:=trodVars_none hV;obtain⟨a0,rV,Ac,rfl⟩:=okWide_slice Tryz.underlying22 (LP 0 22 v0 rfl rfl);have k0:=h0;have lt0:∀x∈p0,x.block<W.heap.size:=by obtain⟨m,hm⟩:=k0; exact DataW.trod_lt m _ _ _ hm
  obtain⟨b0,w0⟩:∃bs,Sl W a0 rV bs:=by
    obtain⟨fuel,hf⟩:=h0;rcases open_ints Tryz.underlying22 Tryz.underlying5 (by aa) hf with⟨wg,_⟩ | ⟨x,l,c,zs,wg,_,hl,hm,hz,_,nl,Hn⟩
    · simp[Value.cells] at wg;obtain⟨rfl,rfl,rfl⟩:=wg;exact⟨[],OD _ _⟩
    · simp[Value.cells] at wg;obtain⟨rfl,rfl,rfl⟩:=wg;exact⟨_,CI hl hm (by simpa using hz) nl Hn⟩
  clear Zf Nr;refine(walk a0 rV Ac b0 W w0).mono fun e W' ⟨he,fp⟩=>?_
  subst he;exact⟨_,rfl,_,_,_,[],_,[],hW',trodAll_mk1 (shut_bool Tryz.underlying4 _),(trodAll_cons_mk (Below.trod laidOut (by aa) (of_decide_eq_true (by aa)) k0 fp lt0) trodAll_mk0),rfl,fp.frame _,fun h=>by cases h⟩

theorem over:Rows.fnMadeSureRow.holds Tryz.pinned (OpenSpec.ofChange Rows.fnMadeSureSpec):=
  OpenClaim.holds_of_wide 4 Tryz.f4 rfl rfl rfl rfl rfl rfl rfl ⟨rfl,rfl,rfl,rfl,rfl⟩ rfl rfl rfl rfl rfl (by aa) Tryz.func4 (by aa)
    (of_decide_eq_true (by aa)) (by unfold Func.isWrapper; first | (rw[if_pos (by decide+kernel)]; aa) | (rw[if_neg (by decide+kernel)]; exact⟨rfl,rfl⟩))
    (fun os started H enc _=>lifted os started H enc)

theorem proved:Rows.FnMadeSureSaid:=over
end Go.Proofs.YtmibabclefgljaaGreat.fnMadeSure
