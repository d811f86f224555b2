/- The statement FnMadeSureSaid: at every code FnMadeSure answers true, and the code reads afterwards as before. No condition besides the row's own. -/
import Derived.Test.YtmibabclefgljaaGreatRows
import Derived.Test.YtmibabclefgljaaGreatShat
import Derived.Test.YtmibabclefgljaaGreatSham
import Derived.Test.YtmibabclefgljaaGreatShau
import Derived.Test.YtmibabclefgljaaGreatShas
import Derived.Test.YtmibabclefgljaaGreatShbj
import Derived.Test.YtmibabclefgljaaGreatShbc
import Derived.ProofKit
import Derived.OpenShut
import Derived.ShutString
import Derived.ChangeOld
import Derived.Below
namespace Go.Proofs.YtmibabclefgljaaGreat.fnMadeSure
open Go.ChangeShapes Go.WideShapes Go.ChangeAt Go.RowKit
open Go.ChangeMaps (open_string shut_string)
set_option linter.unusedVariables false
set_option linter.unusedSimpArgs false
open Go.Proofs.YtmibabclefgljaaGreat.base Go.Proofs.YtmibabclefgljaaGreat.av Go.Proofs.YtmibabclefgljaaGreat.aN Go.Proofs.YtmibabclefgljaaGreat.gu Go.Proofs.YtmibabclefgljaaGreat.dp Go.Proofs.YtmibabclefgljaaGreat.aZ Go.Proofs.YtmibabclefgljaaGreat.lay Go.Proofs.YtmibabclefgljaaGreat.draw

theorem sure_same(s:cQ):(bI s).1=s.1∧(bI s).2.1=s.2.1∧(bI s).2.2.2.1=s.2.2.2.1∧(bI s).2.2.2.2=s.2.2.2.2∧bH (bI s)=bH s:=by
  unfold bI;cases bD:bH s with
  | false=>simp[bD]
  | true=>
    simp only[if_true];refine⟨trivial,trivial,trivial,trivial,?_⟩;exact(nw _).2 (jR ((nw s).1 bD))
theorem sure_sameC(c:cos.Co):(cos.bI c).2.1=c.2.1∧(cos.bI c).2.2.1=c.2.2.1∧(cos.bI c).2.2.2.1=c.2.2.2.1∧(cos.bI c).2.2.2.2.1=c.2.2.2.2.1∧cos.be (cos.bI c)=cos.be c:=by
  unfold cos.bI;cases bD:cos.be c with
  | false=>simp[bD]
  | true=>
    simp only[if_true];refine⟨trivial,trivial,trivial,trivial,?_⟩;exact cos.sj.2 (cos.jR (cos.sj.1 bD))
theorem same_pairs(a a2:Option Addr)(len cap cn eg:Nat)(l:List Pr)(w:World)(h:lq w a len l)(h2:lq w a2 cn l):
    Calls Tryz.prog 24 #[.slice a len cap,.slice a2 cn eg] w fun e w'=>e=.returned (.bool true)∧Below w.heap.size w w':=by
  refine(E7 a a2 len cap cn eg l l w h h2).mono ?_;rintro e w' ⟨rfl,n,rfl⟩;exact⟨by simp,below_drewN (Below.refl _ _) _⟩
theorem field2(i su:Int)(x y z:Option Addr)(n c m d p q:Nat)(w:World):(Instr.field 43 (.agg #[.int .i64 i,.slice x n c,.int .i64 su,.slice y m d,.slice z p q]) 2).run Tryz.prog w=.ok (.int .i64 su) w:=by kernel_rfl
theorem field5(a b d su:Int)(x y:Option Addr)(n c m e:Nat)(w:World):(Instr.field 28 (.agg #[.int .i64 a,.int .i64 b,.int .i64 d,.slice x n c,.slice y m e,.int .i64 su]) 5).run Tryz.prog w=.ok (.int .i64 su) w:=by kernel_rfl
set_option maxRecDepth 100000 in
set_option maxHeartbeats 8000000 in
theorem walk(a0:Option Addr)(rB zN:Nat)(b0:List UInt8)(w:World)(w0:Sl w a0 rB b0):
    Calls Tryz.prog 4 #[.slice a0 rB zN] w fun e w'=>e=.returned (.bool true)∧Below w.heap.size w w':=by
  have hm:=w0.2.1;have hb:=Vp a0 rB zN w hm;by_cases kU:1048576<rB
  · rw[decide_eq_true (by omega)] at hb
    have HB:=Hid.mk' hb;clear hb;go_enter Tryz.func4,Tryz.ntmps4;go_wp2_with fail;refine HB.out.mono ?_;rintro e w1 ⟨rfl,rfl⟩;go_wp2_with fail;go_ret;exact⟨rfl,Below.refl _ _⟩
  rw[decide_eq_false (by omega)] at hb
  have HB:=Hid.mk' (hb.mono (fun e w' (hp:e=.returned (.bool false)∧w'=w)=>(⟨hp.1,hp.2.symm⟩:e=.returned (.bool false)∧w=w')))
  have Ro:=Hid.mk' (x8 a0 rB zN b0 w w0 (by omega))
  have YR:Hid (∀wx,Below w.heap.size w wx→_):=fun wx hx=>cos.zO a0 rB zN b0 wx (w0.below hx) (by omega)
  clear hb;go_enter Tryz.func4,Tryz.ntmps4;go_wp2_with fail;refine HB.out.mono ?_;rintro e w1 ⟨rfl,rfl⟩;go_wp2_with fail;refine Ro.out.mono ?_;rintro e w2 ⟨la,ln,lc,ma,mn,mc,ha,hn,hc,s,F,hD,rfl,qt,hF,aU⟩;clear HB Ro;have mg:=hD.bd;obtain⟨W,hW⟩:∃W,w2.alloc (bW s.1 s.2.2.1 la ln lc ma mn mc ha hn hc)=W:=⟨_,rfl⟩;have G0:Below w2.heap.size w2 W:=by rw[←hW]; exact dY
  have bt:=lz qt;rw[hW] at bt;have zx:=aU.trans (G0.mono aU.size);have zS:=Hid.mk' (fun wx (hx:Below W.heap.size W wx)=>(bt.below hx).own.eZ)
  have Uu:=Hid.mk' (fun wx (hx:Below W.heap.size W wx)=>(aZ.cY.H5 (bt.below hx).own).1)
  have Cs:=Hid.mk' (fun wx (hx:Below W.heap.size W wx)=>(bt.below hx).cells)
  obtain⟨u1,u2,u3⟩:=eK.jB bt.own.eZ mg;obtain⟨x0,x1,x2,x3,x4⟩:=Cs.out W (Below.refl _ _);rw[←hW] at x0 x1 x2 x3 x4;have HW:=Hid.mk' hW;have YS:Hid (Calls Tryz.prog 18 #[.agg #[.int .i64 s.1,.slice la ln lc,.int .i64 s.2.2.1,.slice ma mn mc,.slice ha hn hc]] W (zT W (bI s))):=vU la ln lc ma mn mc ha hn hc s W (zS.out W (Below.refl _ _)) (Uu.out W (Below.refl _ _)) mg;have YT:Hid (∀wx,Below W.heap.size W wx→Calls Tryz.prog 21 #[.agg #[.int .i64 s.1,.slice la ln lc,.int .i64 s.2.2.1,.slice ma mn mc,.slice ha hn hc]] wx (zT wx (bI s))):=fun wx hx=>vV la ln lc ma mn mc ha hn hc s wx (zS.out wx hx) mg
  have QL:Hid (∀wx,Below W.heap.size W wx→Calls Tryz.prog 26 #[.agg #[.int .i64 s.1,.slice la ln lc,.int .i64 s.2.2.1,.slice ma mn mc,.slice ha hn hc]] wx fun e w'=>e=.returned (.bool (bH s))∧Below wx.heap.size wx w'):=fun wx hx=>qu la ln lc ma mn mc ha hn hc s wx (zS.out wx hx) mg.jB
  obtain⟨q1,q2,q3,q4,q5⟩:=sure_same s;have Vq:xc (bI s):=by
    unfold bI
    split
    · exact⟨mg.jB,mg.zU,mg.log,mg.map,mg.held,mg.qv⟩
    · exact mg
  generalize bI s=S at *;clear hW qt hF hD hm;go_wp2_with fail;rw[HW.out];refine YS.out.mono ?_;rintro e w4 ⟨ia,na,ca,ja,Na,Nb,ka,E8,QM,FA,rfl,Lw,hFA,eD⟩;clear YS x0 x1 x2 x3 x4 HW;obtain⟨V,hV⟩:∃V,w4.alloc (bW S.1 S.2.2.1 ia na ca ja Na Nb ka E8 QM)=V:=⟨_,rfl⟩;have fb:Below w4.heap.size w4 V:=by rw[←hV]; exact dY
  have QN:=lz Lw;rw[hV] at QN;have K5:=eD.trans (fb.mono eD.size);have YU:=Hid.mk' (fun wx (hx:Below V.heap.size V wx)=>(QN.below hx).cells)
  have Rp:=Hid.mk' (fun wx (hx:Below V.heap.size V wx)=>(QN.below hx).own.eZ)
  have H6:=Hid.mk' (fun wx (hx:Below V.heap.size V wx)=>(aZ.cY.H5 (QN.below hx).own).1)
  obtain⟨v1,v2,v3⟩:=eK.jB QN.own.eZ Vq;have YV:Hid (∀wx,Below V.heap.size V wx→Calls Tryz.prog 25 #[.agg #[.int .i64 S.1,.slice ia na ca,.int .i64 S.2.2.1,.slice ja Na Nb,.slice ka E8 QM]] wx fun e w'=>e=.returned (.bool (bH s))∧Below wx.heap.size wx w'):=fun wx hx=>by
    have:=qx ia na ca ja Na Nb ka E8 QM S wx (Rp.out wx hx) (H6.out wx hx) Vq.jB (by omega) (by omega)
    rw[q5] at this;exact this
  have kV:=zx.trans (K5.mono zx.size);have Rq:=Hid.mk' (YR.out V kV);have HV:=Hid.mk' hV;have Rr:na=ln:=by
    have h1:=(Rp.out V (Below.refl _ _)).log.1;have h2:=(zS.out V K5).log.1;rw[q2] at h1;omega
  have th:Hid (∀wx,Below V.heap.size V wx→Calls Tryz.prog 23 #[.slice ia ln ca,.slice la ln lc] wx fun e w'=>e=.returned (.bool true)∧Below wx.heap.size wx w'):=fun wx hx=>by
    have h1:=(Rp.out wx hx).log;rw[q2,Rr] at h1;exact E9 ia la ln ca lc s.2.1 wx h1 (zS.out wx (K5.trans (hx.mono K5.size))).log
  have xe:Hid (∀wx,Below V.heap.size V wx→Calls Tryz.prog 24 #[.slice ja Na Nb,.slice ma mn mc] wx fun e w'=>e=.returned (.bool true)∧Below wx.heap.size wx w'):=fun wx hx=>by
    have h1:=(Rp.out wx hx).map;rw[q3] at h1;exact same_pairs ja ma Na Nb mn mc s.2.2.2.1 wx h1 (zS.out wx (K5.trans (hx.mono K5.size))).map
  subst Rr;clear hV Lw hFA YR q1 q2 q3 q4 q5 u1 u2 u3 v1 v2 v3 H6 Rp;go_wp2_with fail;rw[HV.out];refine Rq.out.mono ?_;rintro e w5 ⟨Lx,Oh,Ly,Lz,Oi,LA,c,F5,lr,rfl,eh,vW,de⟩;have x_:=cos.H7 (c:=c) (by omega)
  clear HV Rq;obtain⟨V5,ti⟩:∃V5,w5.alloc (.cells #[.int .i64 c.1,.int .i64 c.2.1,.int .i64 c.2.2.1,.slice Lx Oh Ly,.slice Lz Oi LA,.int .i64 c.2.2.2.2.2] 28)=V5:=⟨_,rfl⟩;have Rs:Below w5.heap.size w5 V5:=by rw[←ti]; exact aJ
  have Uv:=tH (T:=28) eh;rw[ti] at Uv;have Rt:=de.trans (Rs.mono de.size);have K6:=Hid.mk' (fun wx (hx:Below V5.heap.size V5 wx)=>cos.tY (Uv.below hx).eZ)
  have Vr:=Hid.mk' (fun wx (hx:Below V5.heap.size V5 wx)=>cells6 (Uv.below hx).box)
  have YW:=Hid.mk' (cos.yd Lx Oh Ly Lz Oi LA c V5 (K6.out V5 (Below.refl _ _)) x_);have YX:Hid (∀wx,Below V5.heap.size V5 wx→Calls Tryz.prog 22 #[.agg #[.int .i64 c.1,.int .i64 c.2.1,.int .i64 c.2.2.1,.slice Lx Oh Ly,.slice Lz Oi LA,.int .i64 c.2.2.2.2.2]] wx (zV cos.a7 wx (cos.bI c))):=fun wx hx=>cos.H8 (K6.out wx hx) x_ (cos.ye Lx Oh Ly Lz Oi LA c wx (K6.out wx hx) x_.fits x_.yes)
  have E_:Hid (∀wx,Below V5.heap.size V5 wx→Calls Tryz.prog 27 #[.agg #[.int .i64 c.1,.int .i64 c.2.1,.int .i64 c.2.2.1,.slice Lx Oh Ly,.slice Lz Oi LA,.int .i64 c.2.2.2.2.2]] wx fun e w'=>e=.returned (.bool (cos.be c))∧Below wx.heap.size wx w'):=fun wx hx=>cos.qy Lx Oh Ly Lz Oi LA c wx (K6.out wx hx) x_.fits
  have YY:cos.rC (cos.bI c):=by
    unfold cos.bI
    split
    · exact x_.fits
    · exact x_.fits
  obtain⟨r1,r2,r3,r4,r5⟩:=sure_sameC c;generalize cos.bI c=R at *;obtain⟨z0,z1,z2,z3,z4,z5⟩:=Vr.out V5 (Below.refl _ _);rw[←ti] at z0 z1 z2 z3 z4 z5;have YZ:=Hid.mk' ti;clear ti eh vW;go_wp2_with fail;rw[YZ.out];refine YW.out.mono ?_;rintro e w6 ⟨vs6,F6,rfl,dV,Ru,mj⟩;obtain⟨QO,G_,QP,QQ,Ha,QR,rfl⟩:=cos.ny dV;clear YZ YW z0 z1 z2 z3 z4 z5;obtain⟨V6,pM⟩:∃V6,w6.alloc (.cells #[.int .i64 R.1,.int .i64 R.2.1,.int .i64 R.2.2.1,.slice QO G_ QP,.slice QQ Ha QR,.int .i64 R.2.2.2.2.2] 28)=V6:=⟨_,rfl⟩;have Rv:Below w6.heap.size w6 V6:=by rw[←pM]; exact aJ
  have Uw:=tH (T:=28) dV;rw[pM] at Uw;have yg:=mj.trans (Rv.mono mj.size);have vX:=Rt.trans (yg.mono Rt.size);have LB:=K5.trans (vX.mono K5.size);have m_:=Hid.mk' (fun wx (hx:Below V6.heap.size V6 wx)=>cos.tY (Uw.below hx).eZ)
  obtain rfl:Ha=Oi:=by
    have h1:=(m_.out V6 (Below.refl _ _)).log.1;have h2:=(K6.out V6 yg).log.1;rw[r4] at h1;omega
  obtain rfl:G_=Oh:=by
    have h1:=(m_.out V6 (Below.refl _ _)).jobs.1;have h2:=(K6.out V6 yg).jobs.1;rw[r3] at h1;omega
  have HYO:Hid (∀wx,Below V6.heap.size V6 wx→Calls Tryz.prog 15 #[.agg #[.int .i64 R.1,.int .i64 R.2.1,.int .i64 R.2.2.1,.slice QO G_ QP,.slice QQ Ha QR,.int .i64 R.2.2.2.2.2]] wx fun e w'=>e=.returned (.bool (cos.be c))∧Below wx.heap.size wx w'):=fun wx hx=>by
    have:=cos.qz QO G_ QP QQ Ha QR R wx (m_.out wx hx) YY;rw[r5] at this;exact this
  have Y0:=Hid.mk' (fun wx (hx:Below V6.heap.size V6 wx)=>cells6 (Uw.below hx).box)
  have K7:(R.2.1==c.2.1)=true:=by rw[r1]; simp
  have Eh:(R.2.2.1==c.2.2.1)=true:=by rw[r2]; simp
  -- the four boxes as they lie, in any world behind V6
  have gv:Hid (∀wx,Below V6.heap.size V6 wx→(wx.cell? ⟨w4.heap.size,0,none⟩=some (.int .i64 S.1)∧wx.cell? ⟨w4.heap.size,1,none⟩=some (.slice ia na ca)∧wx.cell? ⟨w4.heap.size,2,none⟩=some (.int .i64 S.2.2.1)∧wx.cell? ⟨w4.heap.size,3,none⟩=some (.slice ja Na Nb)∧wx.cell? ⟨w4.heap.size,4,none⟩=some (.slice ka E8 QM))∧(wx.cell? ⟨w2.heap.size,0,none⟩=some (.int .i64 s.1)∧wx.cell? ⟨w2.heap.size,1,none⟩=some (.slice la na lc)∧wx.cell? ⟨w2.heap.size,2,none⟩=some (.int .i64 s.2.2.1)∧wx.cell? ⟨w2.heap.size,3,none⟩=some (.slice ma mn mc)∧wx.cell? ⟨w2.heap.size,4,none⟩=some (.slice ha hn hc))∧(wx.cell? ⟨w6.heap.size,0,none⟩=some (.int .i64 R.1)∧wx.cell? ⟨w6.heap.size,1,none⟩=some (.int .i64 R.2.1)∧wx.cell? ⟨w6.heap.size,2,none⟩=some (.int .i64 R.2.2.1)∧wx.cell? ⟨w6.heap.size,3,none⟩=some (.slice QO G_ QP)∧wx.cell? ⟨w6.heap.size,4,none⟩=some (.slice QQ Ha QR)∧wx.cell? ⟨w6.heap.size,5,none⟩=some (.int .i64 R.2.2.2.2.2))∧(wx.cell? ⟨w5.heap.size,0,none⟩=some (.int .i64 c.1)∧wx.cell? ⟨w5.heap.size,1,none⟩=some (.int .i64 c.2.1)∧wx.cell? ⟨w5.heap.size,2,none⟩=some (.int .i64 c.2.2.1)∧wx.cell? ⟨w5.heap.size,3,none⟩=some (.slice Lx G_ Ly)∧wx.cell? ⟨w5.heap.size,4,none⟩=some (.slice Lz Ha LA)∧wx.cell? ⟨w5.heap.size,5,none⟩=some (.int .i64 c.2.2.2.2.2))):=fun wx hx=>by
    have h1:=vX.trans (hx.mono vX.size);have h2:=K5.trans (h1.mono K5.size);have h3:=yg.trans (hx.mono yg.size);exact⟨YU.out wx h1,Cs.out wx h2,Y0.out wx hx,Vr.out wx h3⟩
  have HV6:=Hid.mk' pM;have Rw:Below V6.heap.size V6 V6.drew:=(Below.refl _ _).drew;have k1:(S.2.2.1 != S.2.2.1)=false:=by simp
  have k2:(R.2.2.2.2.2 != R.2.2.2.2.2)=false:=by simp
  have k3:((Ha:Int) != (Ha:Int))=false:=by simp
  have k4:((G_:Int) != (G_:Int))=false:=by simp
  have Rx:=kV.trans (vX.mono kV.size);have HM:Hid (∀wx,Below V6.heap.size V6 wx→_):=fun wx hx=>YT.out wx (LB.trans (hx.mono LB.size))
  have H9:Hid (∀wx,Below V6.heap.size V6 wx→_):=fun wx hx=>YX.out wx (yg.trans (hx.mono yg.size))
  have HR:Hid (∀wx,Below V6.heap.size V6 wx→_):=fun wx hx=>th.out wx (vX.trans (hx.mono vX.size))
  have HP:Hid (∀wx,Below V6.heap.size V6 wx→_):=fun wx hx=>xe.out wx (vX.trans (hx.mono vX.size))
  have HO1:Hid (∀wx,Below V6.heap.size V6 wx→_):=fun wx hx=>YV.out wx (vX.trans (hx.mono vX.size))
  have LC:Hid (∀wx,Below V6.heap.size V6 wx→_):=fun wx hx=>QL.out wx (LB.trans (hx.mono LB.size))
  have H_:Hid (∀wx,Below V6.heap.size V6 wx→_):=fun wx hx=>E_.out wx (yg.trans (hx.mono yg.size))
  have vJ:=field2;have hf5:=field5;clear pM dV Ru QN bt Uv Uw kV zx mg x_ YY Vq r1 r2 r3 r4 r5 YT YX th xe YV QL E_ YU Cs Vr Y0 K6 zS Uu m_ aU eD de mj fb Rs Rv G0;go_wp2_with fail;rw[HV6.out];go_region_held3 (fun w'=>Below V6.heap.size V6 w'∧(w'.cell? ⟨w4.heap.size,0,none⟩=some (.int .i64 S.1)∧w'.cell? ⟨w4.heap.size,1,none⟩=some (.slice ia na ca)∧w'.cell? ⟨w4.heap.size,2,none⟩=some (.int .i64 S.2.2.1)∧w'.cell? ⟨w4.heap.size,3,none⟩=some (.slice ja Na Nb)∧w'.cell? ⟨w4.heap.size,4,none⟩=some (.slice ka E8 QM))∧(w'.cell? ⟨w2.heap.size,0,none⟩=some (.int .i64 s.1)∧w'.cell? ⟨w2.heap.size,1,none⟩=some (.slice la na lc)∧w'.cell? ⟨w2.heap.size,2,none⟩=some (.int .i64 s.2.2.1)∧w'.cell? ⟨w2.heap.size,3,none⟩=some (.slice ma mn mc)∧w'.cell? ⟨w2.heap.size,4,none⟩=some (.slice ha hn hc))∧(w'.cell? ⟨w6.heap.size,0,none⟩=some (.int .i64 R.1)∧w'.cell? ⟨w6.heap.size,1,none⟩=some (.int .i64 R.2.1)∧w'.cell? ⟨w6.heap.size,2,none⟩=some (.int .i64 R.2.2.1)∧w'.cell? ⟨w6.heap.size,3,none⟩=some (.slice QO G_ QP)∧w'.cell? ⟨w6.heap.size,4,none⟩=some (.slice QQ Ha QR)∧w'.cell? ⟨w6.heap.size,5,none⟩=some (.int .i64 R.2.2.2.2.2))∧(w'.cell? ⟨w5.heap.size,0,none⟩=some (.int .i64 c.1)∧w'.cell? ⟨w5.heap.size,1,none⟩=some (.int .i64 c.2.1)∧w'.cell? ⟨w5.heap.size,2,none⟩=some (.int .i64 c.2.2.1)∧w'.cell? ⟨w5.heap.size,3,none⟩=some (.slice Lx G_ Ly)∧w'.cell? ⟨w5.heap.size,4,none⟩=some (.slice Lz Ha LA)∧w'.cell? ⟨w5.heap.size,5,none⟩=some (.int .i64 c.2.2.2.2.2))) (first | (with_reducible exact⟨Nc,gv.out _ Nc⟩) | (with_reducible exact⟨Ia,gv.out _ Ia⟩) | (with_reducible exact⟨sk,gv.out _ sk⟩) | (with_reducible exact⟨Ib,gv.out _ Ib⟩) | (with_reducible exact⟨Rw,gv.out _ Rw⟩) | fail "keep7") (first | (go_at_call 24; (with_reducible refine(HP.out _ Ia).mono ?_); rintro e wq4 ⟨rfl,gL⟩; have Nc:=Ia.trans (gL.mono Ia.size)) | (go_at_call 23; (with_reducible refine(HR.out _ sk).mono ?_); rintro e wq3 ⟨rfl,Vs⟩; have Ia:=sk.trans (Vs.mono sk.size)) | (go_at_call 22; (with_reducible refine(H9.out _ Ib).mono ?_); rintro e wq2 ⟨vsq,Fq,rfl,Y1,hFq,Vt⟩; have sk:=Ib.trans (Vt.mono Ib.size); obtain⟨eja,ejn,ejc,ela,eln,elc,rfl⟩:=cos.ny Y1; clear Y1 hFq) | (go_at_call 21; (with_reducible refine(HM.out _ Rw).mono ?_); rintro e wq1 ⟨ib,nb,cb,jb,mnb,mcb,kb,Ic,Vu,FB,rfl,hOB,hFB,Vv⟩; have Ib:=Rw.trans (Vv.mono Rw.size); clear hOB hFB) | fail "arm7")
  have hq:=Nc;clear HM H9 HR HP k1 k2 k3 k4 vJ hf5;generalize wq4=W7 at *;obtain⟨⟨p0,p1,p2,p3,p4⟩,⟨s0,s1,s2,s3,s4⟩,⟨y0,y1,y2,y3,y4,y5⟩,⟨c0,c1,c2,c3,c4,c5⟩⟩:=gv.out W7 hq;have op0:=last.On.cell (B:=W7.heap.size) p0 (World.block_lt_of_cell? _ _ p0);have op1:=last.On.cell (B:=W7.heap.size) p1 (World.block_lt_of_cell? _ _ p1);have op2:=last.On.cell (B:=W7.heap.size) p2 (World.block_lt_of_cell? _ _ p2);have op3:=last.On.cell (B:=W7.heap.size) p3 (World.block_lt_of_cell? _ _ p3);have op4:=last.On.cell (B:=W7.heap.size) p4 (World.block_lt_of_cell? _ _ p4);have os0:=last.On.cell (B:=W7.heap.size) s0 (World.block_lt_of_cell? _ _ s0);have os1:=last.On.cell (B:=W7.heap.size) s1 (World.block_lt_of_cell? _ _ s1);have os2:=last.On.cell (B:=W7.heap.size) s2 (World.block_lt_of_cell? _ _ s2);have os3:=last.On.cell (B:=W7.heap.size) s3 (World.block_lt_of_cell? _ _ s3)
  have os4:=last.On.cell (B:=W7.heap.size) s4 (World.block_lt_of_cell? _ _ s4);have oy0:=last.On.cell (B:=W7.heap.size) y0 (World.block_lt_of_cell? _ _ y0);have oy1:=last.On.cell (B:=W7.heap.size) y1 (World.block_lt_of_cell? _ _ y1);have oy2:=last.On.cell (B:=W7.heap.size) y2 (World.block_lt_of_cell? _ _ y2);have oy3:=last.On.cell (B:=W7.heap.size) y3 (World.block_lt_of_cell? _ _ y3);have oy4:=last.On.cell (B:=W7.heap.size) y4 (World.block_lt_of_cell? _ _ y4);have oy5:=last.On.cell (B:=W7.heap.size) y5 (World.block_lt_of_cell? _ _ y5);have oc0:=last.On.cell (B:=W7.heap.size) c0 (World.block_lt_of_cell? _ _ c0);have oc1:=last.On.cell (B:=W7.heap.size) c1 (World.block_lt_of_cell? _ _ c1);have oc2:=last.On.cell (B:=W7.heap.size) c2 (World.block_lt_of_cell? _ _ c2);have Y2:=last.On.cell (B:=W7.heap.size) c3 (World.block_lt_of_cell? _ _ c3);have Ei:=last.On.cell (B:=W7.heap.size) c4 (World.block_lt_of_cell? _ _ c4)
  have oc5:=last.On.cell (B:=W7.heap.size) c5 (World.block_lt_of_cell? _ _ c5);have a_:=last.On.gV W7.heap.size W7;have Oj:∀xx:last.On W7.heap.size W7,Calls Tryz.prog 25 #[.agg #[.int .i64 S.1,.slice ia na ca,.int .i64 S.2.2.1,.slice ja Na Nb,.slice ka E8 QM]] xx.w fun e w'=>e=.returned (.bool (bH s))∧∃yv:last.On W7.heap.size W7,w'=yv.w:=fun xx=>last.Calls.on xx (Nat.le_refl _) (HO1.out xx.w (hq.trans (xx.2.mono hq.size)))
  have Ol:∀xx:last.On W7.heap.size W7,Calls Tryz.prog 26 #[.agg #[.int .i64 s.1,.slice la na lc,.int .i64 s.2.2.1,.slice ma mn mc,.slice ha hn hc]] xx.w fun e w'=>e=.returned (.bool (bH s))∧∃yv:last.On W7.heap.size W7,w'=yv.w:=fun xx=>last.Calls.on xx (Nat.le_refl _) (LC.out xx.w (hq.trans (xx.2.mono hq.size)))
  have Om:∀xx:last.On W7.heap.size W7,Calls Tryz.prog 15 #[.agg #[.int .i64 R.1,.int .i64 R.2.1,.int .i64 R.2.2.1,.slice QO G_ QP,.slice QQ Ha QR,.int .i64 R.2.2.2.2.2]] xx.w fun e w'=>e=.returned (.bool (cos.be c))∧∃yv:last.On W7.heap.size W7,w'=yv.w:=fun xx=>last.Calls.on xx (Nat.le_refl _) (HYO.out xx.w (hq.trans (xx.2.mono hq.size)))
  have Oo:∀xx:last.On W7.heap.size W7,Calls Tryz.prog 27 #[.agg #[.int .i64 c.1,.int .i64 c.2.1,.int .i64 c.2.2.1,.slice Lx G_ Ly,.slice Lz Ha LA,.int .i64 c.2.2.2.2.2]] xx.w fun e w'=>e=.returned (.bool (cos.be c))∧∃yv:last.On W7.heap.size W7,w'=yv.w:=fun xx=>last.Calls.on xx (Nat.le_refl _) (H_.out xx.w (hq.trans (xx.2.mono hq.size)))
  have e1:(bH s==bH s)=true:=by simp
  have e2:(cos.be c==cos.be c)=true:=by simp
  generalize bH s=b1 at *;generalize cos.be c=b2 at *;have iL:=Rx.trans (hq.mono Rx.size);clear p0 p1 p2 p3 p4 s0 s1 s2 s3 s4 y0 y1 y2 y3 y4 y5 c0 c1 c2 c3 c4 c5;go_wp2_with fail;refine last.ai W7.heap.size (by kernel_rfl) (by kernel_rfl) ?_
  repeat(go_big_quiet_step ((first | (go_at_call 25; with_reducible exact Oj _) | (go_at_call 26; with_reducible exact Ol _) | (go_at_call 15; with_reducible exact Om _) | (go_at_call 27; with_reducible exact Oo _))))
  refine wpQuiet_nil ?_;intro wq a8;obtain⟨xq,a8⟩:=a8;subst a8;have Ry:Below W7.heap.size W7 xq.w:=xq.2;go_wp2_with fail;go_ret;exact⟨rfl,iL.trans (Ry.mono iL.size)⟩

theorem own:ownKnob Tryz.prog.godebug=none:=by kernel_rfl
theorem laidOut:laidOutB Tryz.prog=true:=by kernel_rfl

set_option maxRecDepth 100000 in
theorem lifted(os:Os)(started:os.Started)(H:Type)(enc:TypeId × Value→H):
    ReturnsInHanded {} Tryz.checked os 4 .any (Rows.fnMadeSureSpec.pre6 enc Tryz.prog Tryz.f4 Rows.fnMadeSureRow.domain false) (Rows.fnMadeSureSpec.post enc Tryz.prog Tryz.f4 false true false false):=by
  refine returnsInHanded_of_change (C:=Tryz.checked) own started (by kernel_rfl) Tryz.func4
    (ChangeSpec.witness6 (enc:=enc) (C:=Tryz.checked) false ⟨#[],#[.slice none 0 0],[]⟩ 8 (by kernel_rfl) (by kernel_rfl) (by kernel_rfl) (by kernel_rfl)) ?_
  intro W base args ds gs before Nd hW hcnd _;have LD:∀(j:Nat) t v,Tryz.f4.params[j]? =some t→args[j]? =some v→Value.okWide Tryz.prog W .any base t v:=Nd;have hW':=hW;obtain⟨p,q,Y3,hV,rfl,K8,dW⟩:=hW;have hA:DataW.TrodAll enc Tryz.prog W 0 (fun _=>true) true Tryz.f4.params.toList args.toList ds p:=Y3
  rw[Tryz.params4] at hA LD;obtain⟨v0,vs0,d0,ds0,p0,q0,Y4,rfl,rfl,h0,r0⟩:=trodAll_cons hA;obtain⟨rfl,rfl,rfl⟩:=trodAll_nil r0;obtain rfl:args=#[v0]:=by cases args; simp_all
  obtain⟨rfl,rfl⟩:=trodVars_none hV;obtain⟨a0,rB,zN,rfl⟩:=okWide_slice Tryz.underlying22 (LD 0 22 v0 rfl rfl);have k0:=h0;have lt0:∀x∈p0,x.block<W.heap.size:=by obtain⟨m,hm⟩:=k0; exact DataW.trod_lt m _ _ _ hm
  obtain⟨b0,w0⟩:∃bs,Sl W a0 rB bs:=by
    obtain⟨fuel,hf⟩:=h0;rcases open_ints Tryz.underlying22 Tryz.underlying5 (by kernel_rfl) hf with⟨vK,_⟩ | ⟨x,l,c,zs,vK,_,hl,hm,hz,_,mU,Hb⟩
    · simp[Value.cells] at vK;obtain⟨rfl,rfl,rfl⟩:=vK;exact⟨[],Oq _ _⟩
    · simp[Value.cells] at vK;obtain⟨rfl,rfl,rfl⟩:=vK;exact⟨_,Ct hl hm (by simpa using hz) mU Hb⟩
  clear Y3 Nd;refine(walk a0 rB zN b0 W w0).mono fun e W' ⟨he,e7⟩=>?_
  subst he;exact⟨_,rfl,_,_,_,[],_,[],hW',trodAll_mk1 (shut_bool Tryz.underlying4 _),(trodAll_cons_mk (Below.trod laidOut (by kernel_rfl) (of_decide_eq_true (by kernel_rfl)) k0 e7 lt0) trodAll_mk0),rfl,e7.frame _,fun h=>by cases h⟩

theorem over:Rows.fnMadeSureRow.holds Tryz.pinned (OpenSpec.ofChange Rows.fnMadeSureSpec):=
  OpenClaim.holds_of_wide 4 Tryz.f4 rfl rfl rfl rfl rfl rfl rfl ⟨rfl,rfl,rfl,rfl,rfl⟩ rfl rfl rfl rfl rfl (by kernel_rfl) Tryz.func4 (by kernel_rfl)
    (of_decide_eq_true (by kernel_rfl)) (by unfold Func.isWrapper; first | (rw[if_pos (by decide+kernel)]; kernel_rfl) | (rw[if_neg (by decide+kernel)]; exact⟨rfl,rfl⟩))
    (fun os started H enc _=>lifted os started H enc)

theorem proved:Rows.FnMadeSureSaid:=over
end Go.Proofs.YtmibabclefgljaaGreat.fnMadeSure
