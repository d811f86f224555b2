/- RecY RowZ OrdX Later StepCall RecZc -/
import Derived.Test.YtmibabclefgljaaGreatShag
import Derived.Test.YtmibabclefgljaaGreatShaa
import Derived.Test.YtmibabclefgljaaGreatShab
import Derived.OwnWalk
import Derived.Test.YtmibabclefgljaaGreatShaf
import Derived.Test.YtmibabclefgljaaGreatShac
import Derived.Deep.RegionHeld
import Derived.Deep.RegionLaw
import Derived.WalkKit
import Derived.WalkSpells
import Derived.WalkLawsBesides
import Derived.Test.YtmibabclefgljaaGreatShad
set_option linter.unusedVariables false
set_option linter.unusedSimpArgs false
set_option maxRecDepth 100000
set_option maxHeartbeats 4000000
namespace Go.Proofs.YtmibabclefgljaaGreat
namespace aZ
open Go Go.RowKit base av aN
def pW(r:Option St):List Pr:=match r with | none=>[] | some s=>s.1
def eO(r:Option St):List Rc:=match r with | none=>[] | some s=>s.2.1
def oM(w:World)(r:Option St)(e:Ending)(w':World):Prop:=
 ∃(g np cp g2 c2:Nat) (hs:List Value),e=.returned (.tuple #[.slice (some ⟨g,0,none⟩) np cp,.slice (some ⟨g2,0,none⟩) (eO r).length c2,.bool r.isSome])∧
  bJ w' w.heap.size g np cp (pW r)∧bm w' w.heap.size (.slice (some ⟨g2,0,none⟩) (eO r).length c2) (eO r) hs∧¬c_ (.slice (some ⟨g2,0,none⟩) (eO r).length c2) hs g∧Below w.heap.size w w'
def j7(w:World)(a:Option Addr)(n:Nat):Prop:=∀b off,a=some ⟨b,off,none⟩→∀i,i<n→∀pa pl pc,w.cell? ⟨b,off+i * 3+2,none⟩=some (.slice pa pl pc)→Plain pa
theorem mB{w w':World}{r:Option St}(hr:r=none)(hb:Below w.heap.size w w'):oM w r (.returned (.tuple #[.slice (some ⟨w'.heap.size,0,none⟩) 0 0,.slice (some ⟨w'.heap.size+1,0,none⟩) 0 0,.bool false])) ((w'.alloc (.cells #[] 100)).alloc (.cells #[] 98)):=by
 subst hr;have aT:Below w'.heap.size w' (w'.alloc (.cells #[] 100)):=(Below.refl _ _).alloc (Nat.le_refl _) _;have eU:=hb.trans (aT.mono hb.size);have aU:=(Below.refl _ (w'.alloc (.cells #[] 100))).alloc (Nat.le_refl _) (.cells #[] 98);have hO:=(bX w' w.heap.size hb.size).below aU;have hR:=oG (w'.alloc (.cells #[] 100)) w.heap.size eU.size;rw[show(w'.alloc (.cells #[] 100)).heap.size=w'.heap.size+1 by simp] at hR
 refine⟨w'.heap.size,0,0,w'.heap.size+1,0,[],rfl,hO,hR,?_,eU.trans (aU.mono eU.size)⟩;rintro(e | ⟨y,hy,_⟩)
 · simp[Value.ownBlock] at e
 · exact absurd hy List.not_mem_nil
theorem C7(w:World):Made w ((((w.alloc (.cells #[] 100)).alloc (.map #[] 0)).alloc (.map #[] 0)).alloc (.cells #[.slice (some ⟨w.heap.size,0,none⟩) 0 0,.map (some (w.heap.size+1)),.map (some (w.heap.size+1+1))] 175))
 (w.heap.size+1+1+1) (w.heap.size+1) (w.heap.size+1+1) 0 0 w.heap.size 0 0 (fun _=>(0,0,[])) (fun _=>0) []:=by
 obtain⟨wa,jd⟩:∃wa,wa=w.alloc (.cells #[] 100):=⟨_,rfl⟩;have ba:Below w.heap.size w wa:=by rw[jd]; exact(Below.refl _ _).alloc (Nat.le_refl _) _
 have oa:bJ wa w.heap.size w.heap.size 0 0 []:=by rw[jd]; exact bX w _ (Nat.le_refl _)
 have sa:wa.heap.size=w.heap.size+1:=by rw[jd]; simp
 rw[←jd];clear jd;obtain⟨wb,nt⟩:∃wb,wb=wa.alloc (.map #[] 0):=⟨_,rfl⟩;have bb:Below wa.heap.size wa wb:=by rw[nt]; exact(Below.refl _ _).alloc (Nat.le_refl _) _
 have lb:fN w wb wa.heap.size 0 (fun _=>(0,0,[])):=by rw[nt]; exact CU w wa
 have sb:wb.heap.size=w.heap.size+1+1:=by rw[nt]; simp[sa]
 rw[←nt];clear nt;obtain⟨wc,LQ⟩:∃wc,wc=wb.alloc (.map #[] 0):=⟨_,rfl⟩;have bc:Below wb.heap.size wb wc:=by rw[LQ]; exact(Below.refl _ _).alloc (Nat.le_refl _) _
 have tc:eM wc wb.heap.size 0 (fun _=>0):=by rw[LQ]; exact uz wb
 have sc:wc.heap.size=w.heap.size+1+1+1:=by rw[LQ]; simp[sb]
 rw[←LQ];clear LQ;have bd:=(Below.refl _ wc).alloc (Nat.le_refl _) (.cells #[.slice (some ⟨w.heap.size,0,none⟩) 0 0,.map (some (w.heap.size+1)),.map (some (w.heap.size+1+1))] 175);have xd:=heap_alloc_new wc (.cells #[.slice (some ⟨w.heap.size,0,none⟩) 0 0,.map (some (w.heap.size+1)),.map (some (w.heap.size+1+1))] 175);rw[sa] at lb;rw[sb] at tc;rw[sc] at xd;have B1:=ba.trans (bb.mono ba.size);have B2:=B1.trans (bc.mono B1.size);exact⟨xd,(lb.below bc).below bd,tc.below bd,((oa.below bb).below bc).below bd,B2.trans (bd.mono B2.size),by omega,by omega,by omega,by omega,by omega,by omega,by omega,by omega,by omega⟩
theorem Rel.eight{pre:List Rc}{s:St}{f:Int→Rc}{hf:ByteArray→Nat}(h:Rel pre s f hf)(tx:Int):(f tx).2.2.length≤8∧((f tx).1=1→(f tx).2.2≠[]):=by
 by_cases e:(f tx).1=1
 · obtain⟨h1,h2⟩:=h.back tx e;obtain⟨_,h3,h4⟩:=h.held _ h1;obtain⟨_,⟨_,h5⟩ | ⟨h5,_⟩⟩:=(bE _).1 h3
   · obtain⟨_,h6,h7⟩:=(bq _).1 h5;exact⟨h7,fun _ e2=>by rw[e2] at h6; simp at h6⟩
   · omega
 · rw[h.bare tx e]; exact⟨by simp,fun e2=>absurd e2 e⟩
theorem AA(a:Option Addr)(len cap:Nat)(l:List Rc)(w:World)(h:rs w a len l)(gd:j7 w a len)(iO:len≤1099511627776 / 16)(cE:∀r∈l,r.2.2.length≤1099511627776∧∀p∈r.2.2,p.2.1.size≤1099511627776):
 Calls Tryz.prog 97 #[.slice a len cap] w fun e w'=>oM w (replay l) e w':=by
 obtain⟨hl,hm,eW,hc⟩:=id h;subst hl;unfold maxLen at hm;have OJ:= @run_makeMap Tryz.prog;generalize hR:replay l=R;have R2:Hid (R=bA ([],[],[]) (l.drop 0)):=by show _=_; rw[←hR]; rfl
 clear hR;go_enter Tryz.func97,Tryz.ntmps97;go_wp2_with (at_builtin; fail)
 clear OJ;go_loopw [14] (fun i wr=>∃(k g np cp n1 n2:Nat) (f:Int→Rc) (hf:ByteArray→Nat) (s:St),k≤l.length∧i=.int .i64 (k:Int)∧Made w wr (w.heap.size+1+1+1) (w.heap.size+1) (w.heap.size+1+1) n1 n2 g np cp f hf s.1∧Rel (l.take k) s f hf∧n1≤k∧n2≤8 * k∧Hid (R=bA s (l.drop k))) (fun i _=>l.length - (intOf i).toNat)
 case atStart=>exact⟨0,_,0,0,0,0,_,_,([],[],[]),Nat.zero_le _,rfl,C7 w,FG,Nat.le_refl _,Nat.le_refl _,R2⟩
 case round=>
  clear R2;obtain⟨k,g,np,cp,n1,n2,f,hf,s,hk,rfl,hM,FH,Ft,o9,HR⟩:=hrel;have Zd:=hM.own.1;have AB:=FH.jB;by_cases a6:k<l.length
  · obtain⟨b,off,ha,_⟩:=hc (by omega)
    subst ha;have fl:=h.at k a6;obtain⟨I2,Nt,pa,pl,pc,oJ,dE,_⟩:=fl;have hpp:Plain pa:=gd b off rfl k a6 pa pl pc oJ;have mX:=World.block_lt_of_cell? w _ I2;have c0:=(hM.e7.cell (p:=⟨b,off+k * 3,none⟩) mX).trans I2;have c1:=(hM.e7.cell (p:=⟨b,off+k * 3+1,none⟩) mX).trans Nt;have c2:=(hM.e7.cell (p:=⟨b,off+k * 3+2,none⟩) mX).trans oJ;have fL:(k:Int)<(l.length:Int):=by omega
    obtain⟨oL,dG⟩:=cE _ (List.getElem_mem a6);have cc:=I1 FH l[k];have HD:Hid (R=match one s l[k] with | none=>none | some t=>bA t (l.drop (k+1))):=by
     show _=_;rw[HR.out,List.drop_eq_getElem_cons a6]; rfl
    have xr:Hid (l.take (k+1)=l.take k++[l[k]]):=List.take_succ_eq_append_getElem a6;have Zn:=FH.eight l[k].2.1;generalize l[k]=r at *;clear I2 Nt oJ mX HR;obtain⟨V,hV⟩:∃V,V=wr.alloc (.cells #[.int .i64 r.1,.int .i64 r.2.1,.slice pa pl pc] 98):=⟨_,rfl⟩;have fb:Below wr.heap.size wr V:=by rw[hV]; exact(Below.refl _ _).alloc (Nat.le_refl _) _
    have bt:da wr.heap.size r.1 r.2.1 (.slice pa pl pc) V:=by rw[hV]; exact cd _ _ _ _
    have wv:=hM.below fb;have HF:=Hid.mk' (OO (w.heap.size+1+1+1) (w.heap.size+1) (w.heap.size+1+1) n1 n2 g np cp f hf s.1 r.1 r.2.1 pa pl pc r.2.2 w V wv.box wv.nL wv.qN wv.own.sl (by omega) (dE.below wv.e7) dG)
    have HV:=Hid.mk' hV.symm;clear hV hM fb;have AD:Hid (∀wx,fO s.1 f hf r=true→Below V.heap.size V wx→Calls Tryz.prog 135 #[.pointer (some ⟨w.heap.size+1+1+1,0,none⟩),.agg #[.int .i64 r.1,.int .i64 r.2.1,.slice pa pl pc]] wx fun e w'=>∃g' VU LL,e=.returned (.tuple #[])∧Made w w' (w.heap.size+1+1+1) (w.heap.size+1) (w.heap.size+1+1) (n1+1) (n2+pl) g' VU LL (gF f r.2.1 r) (uG f hf r) (pz s.1 f r)):=fun wx jA hx=>by
     have bD:bf r=true:=by
      unfold fO at jA;rw[Bool.and_eq_true] at jA;exact jA.1
     obtain⟨⟨Hd,K9⟩,py⟩:=(bE r).1 bD;have hp8:r.2.2.length≤8:=by
      rcases py with⟨_,h1⟩ | ⟨_,h1⟩
      · exact((bq _).1 h1).2.2
      · rw[h1]; simp
     have Hg:=dE.1;exact OR (w.heap.size+1+1+1) (w.heap.size+1) (w.heap.size+1+1) n1 n2 g np cp f hf s.1 r.1 r.2.1 pa pl pc r.2.2 w wx (wv.below hx) dE hpp Hd K9 (by omega) (by omega) (by omega) (by omega) Zn.1 (fun e2=>Zn.2 (by
      have:=(Az FH r bD).1 jA;rw[if_neg (by omega),if_pos e2] at this
      exact this))
    have Wf:Hid (fO s.1 f hf r=true→pl≤8):=fun jA=>by
     have bD:bf r=true:=by
      unfold fO at jA;rw[Bool.and_eq_true] at jA;exact jA.1
     have Hg:=dE.1;obtain⟨_,⟨_,h1⟩ | ⟨_,h1⟩⟩:=(bE r).1 bD
     · have:=((bq _).1 h1).2.2; omega
     · rw[h1] at Hg; simp at Hg; omega
    rcases cc with⟨t,ho,jA,Hd,rN,Nu⟩ | ⟨ho,ku⟩
    · have AE:fO s.1 f hf (r.1,r.2.1,r.2.2)=true:=jA;rw[AE] at HF;have hp8:=Wf.out jA;have Hh:Hid (R=bA t (l.drop (k+1))):=by show _=_; rw[HD.out,ho]
      rw[←xr.out] at Nu;clear HD ho xr;go_wp2_with (at_builtin; fail)
      rw[HV.out];refine HF.out.mono ?_;rintro e w2 ⟨rfl,aU⟩;obtain⟨d0,d1,d2⟩:=(bt.below aU).cells;have I3:=Hid.mk' (AD.out w2 jA aU);clear HF HV c0 c1 c2 AD;go_wp2_with (at_builtin; fail)
      refine I3.out.mono ?_;rintro e w4 ⟨g4,UJ,OX,rfl,He⟩;have B6:=He.own.1;rw[←Hd] at He B6;obtain⟨x0,x1,x2⟩:=He.box.cells;have hle:¬(60:Int)<(UJ:Int):=by omega
      clear I3 d0 d1 d2;go_wp2_with (at_builtin; fail)
      go_roundw
      case rel=>exact⟨k+1,g4,UJ,OX,n1+1,n2+pl,_,_,t,by omega,by go_num,He,Nu,by omega,by omega,Hh⟩
      case measure=>simp[intOf]; omega
    · have Hh:Hid (R=none):=by show _=_; rw[HD.out,ho]
      rcases ku with jA | ⟨jA,kU⟩
      · have AE:fO s.1 f hf (r.1,r.2.1,r.2.2)=false:=jA;rw[AE] at HF;clear HD ho xr AD;go_wp2_with (at_builtin; fail)
        rw[HV.out];refine HF.out.mono ?_;rintro e w2 ⟨rfl,aU⟩;have dw:=wv.e7.trans (aU.mono wv.e7.size);have HP:=Hid.mk' (mB Hh.out dw);clear HF HV c0 c1 c2;go_wp2_with (at_builtin; fail)
        go_ret3
        exact HP.out
      · have AE:fO s.1 f hf (r.1,r.2.1,r.2.2)=true:=jA;rw[AE] at HF;clear HD ho xr;go_wp2_with (at_builtin; fail)
        rw[HV.out];refine HF.out.mono ?_;rintro e w2 ⟨rfl,aU⟩;obtain⟨d0,d1,d2⟩:=(bt.below aU).cells;have I3:=Hid.mk' (AD.out w2 jA aU);clear HF HV c0 c1 c2 AD;go_wp2_with (at_builtin; fail)
        refine I3.out.mono ?_;rintro e w4 ⟨g4,UJ,OX,rfl,He⟩;have B6:=He.own.1;obtain⟨x0,x1,x2⟩:=He.box.cells;have hle:(60:Int)<(UJ:Int):=by omega
        have Zo:=He.own.cases;have HP:=Hid.mk' (mB Hh.out He.e7);clear I3 d0 d1 d2;go_wp2_with (at_builtin; fail)
        go_ret3
        exact HP.out
  · have HE:Hid (l.take k=l):=List.take_of_length_le (by omega)
    rw[HE.out] at FH;have Hh:Hid (R=some s):=by
     show _=_;rw[HR.out,List.drop_eq_nil_of_le (by omega)]; rfl
    have hex:¬(k:Int)<(l.length:Int):=by omega
    have hSR:=h.below hM.e7;have R3:=FH.still;have tw:Hid (∀wx,Below wr.heap.size wr wx→Calls Tryz.prog 136 #[.pointer (some ⟨w.heap.size+1+1+1,0,none⟩),.slice a l.length cap] wx fun e w'=>∃g2 c2 hs,e=.returned (.slice (some ⟨g2,0,none⟩) s.2.1.length c2)∧bm w' wx.heap.size (.slice (some ⟨g2,0,none⟩) s.2.1.length c2) s.2.1 hs∧Below wx.heap.size wx w'):=fun wx hx=>by
     have:=IZ (w.heap.size+1+1+1) (w.heap.size+1) (w.heap.size+1+1) n1 _ f a l.length cap l w wx (hM.below hx).box (hM.below hx).nL (hSR.below hx) (by omega) (fun r hr=>(cE r hr).1)
     rw[←R3] at this;exact this
    clear R3;obtain⟨x0,x1,x2⟩:=hM.box.cells;have R1:Below wr.heap.size wr wr.drew:=(Below.refl _ _).drew;go_wp2_with (at_builtin; fail)
    go_region_with (go_at_call 136; refine(tw.out _ R1).mono ?_; rintro e w5 ⟨g2,c2,px,rfl,eh,de⟩; have de:=R1.trans (de.mono R1.size); obtain⟨y0,y1,y2⟩:=(hM.below de).box.cells)
    all_goals
     have j6:=hM.below de;have hg:=hM.own.lt;have HP:Hid (oM w R (.returned (.tuple #[.slice (some ⟨g,0,none⟩) np cp,.slice (some ⟨g2,0,none⟩) s.2.1.length c2,.bool true])) w5):=by
      show oM _ _ _ _;rw[Hh.out];have Zp:bm w5 wr.heap.size (.slice (some ⟨g2,0,none⟩) s.2.1.length c2) s.2.1 px:=eh;refine⟨g,np,cp,g2,c2,px,rfl,j6.own,Zp.mono hM.e7.size,fun hb=>?_,j6.e7⟩
      have:=(Zp.lt g hb).1;omega
     clear eh tw;go_wp2_with (at_builtin; fail)
     refine bodyPost_ret (v:=.tuple #[.slice (some ⟨g,0,none⟩) np cp,.slice (some ⟨g2,0,none⟩) s.2.1.length c2,.bool true]) ?_ rfl HP.out;simp[results,Tryz.results97,go_sem]
end aZ
namespace aN
open Go Go.RowKit base av
theorem pA:(Tryz.prog.info? 3).map (fun i=>(i.zero,i.size,i.bytes))=some (some (.int .i64 0),1,8):=by kernel_rfl
def aV(zs:List Int):List Value:=zs.map fun z=>.int .i64 z
theorem eP(zs:List Int):(aV zs).length=zs.length:=by simp[aV]
theorem nN(a b:List Int):aV (a++b)=aV a++aV b:=by simp[aV]
theorem AF(zs:List Int)(k:Nat)(z:Int):(aV zs).set k (.int .i64 z)=aV (zs.set k z):=by simp[aV]
theorem bT(zs:List Int):∀v∈aV zs,v.oneCell'=true:=by
 intro v hv; obtain⟨_,_,rfl⟩:=List.mem_map.1 hv; rfl
def C8(w:World)(b off:Nat)(zs:List Int):Prop:=∀i (h:i<zs.length),w.cell? ⟨b,off+i,none⟩=some (.int .i64 zs[i])
def tz(w:World)(a:Option Addr)(len:Nat)(zs:List Int):Prop:=
 zs.length=len∧len≤maxLen∧(0<len→∃b off,a=some ⟨b,off,none⟩∧C8 w b off zs)
def cX(w:World)(base g n cap:Nat)(zs:List Int):Prop:=zs.length=n∧w.ownsRow base 3 1 (.slice (some ⟨g,0,none⟩) n cap) n (aV zs)
section
variable{w w':World}{a:Option Addr}{b off len base base' g n cap:Nat}{zs:List Int}{row:Option Nat}
theorem tz.cells(h:tz w (some ⟨b,off,none⟩) len zs):C8 w b off zs:=by
 intro i hi;obtain⟨b',vY,e,hc⟩:=h.2.2 (by have:=h.1; omega)
 simp only[Option.some.injEq,Addr.mk.injEq,and_true] at e;obtain⟨rfl,rfl⟩:=e;exact hc i hi
theorem tz.below(h:tz w a len zs)(hb:Below w.heap.size w w'):tz w' a len zs:=by
 obtain⟨h1,h2,h3⟩:=h;refine⟨h1,h2,fun h0=>?_⟩
 obtain⟨b,off,rfl,hc⟩:=h3 h0;exact⟨b,off,rfl,fun i hi=>(hb.cell (p:=⟨b,off+i,none⟩) (World.block_lt_of_cell? w _ (hc i hi))).trans (hc i hi)⟩
theorem cX.lt(h:cX w base g n cap zs):base≤g∧g<w.heap.size:=h.2.lt g rfl
theorem cX.cases(h:cX w base g n cap zs):n≤cap∧cap≤maxLen:=by
 rcases h.2.2 with⟨h',_⟩ | ⟨g',aO,cur,h',_,hg,h1,h2,_⟩
 · simp at h'
 · simp only[Value.slice.injEq,Option.some.injEq,Addr.mk.injEq,and_true,true_and] at h';obtain⟨rfl,rfl⟩:=h';exact⟨h1,h2⟩
theorem cX.mono(h:cX w base g n cap zs)(hb:base'≤base):cX w base' g n cap zs:=by
 refine⟨h.1,h.2.1,?_⟩;rcases h.2.2 with h' | ⟨g',aO,cur,h',h0,r⟩
 · exact .inl h'
 · exact .inr ⟨g',aO,cur,h',by omega,r⟩
theorem cX.at(h:cX w base g n cap zs)(i:Nat)(hi:i<zs.length):w.cell? ⟨g,i,none⟩=some (.int .i64 zs[i]):=by
 have hl:=h.1;rw[h.2.cellAt i (by omega)]
 simp[aV,hi]
theorem cX.frozen(h:cX w base g n cap zs)(i:Nat):w.frozen? ⟨g,i,none⟩=false:=h.2.frozenAt i
theorem cX.sl(h:cX w base g n cap zs):tz w (some ⟨g,0,none⟩) n zs:=
 ⟨h.1,by have:=h.cases; omega,fun _=>⟨g,0,rfl,fun i hi=>by rw[Nat.zero_add]; exact h.at i hi⟩⟩
theorem cX.grown(h:cX w base g n cap zs)(hg:w.grownBy w' row)(aW:some g≠row):cX w' base g n cap zs:=⟨h.1,h.2.kept hg (.inr aW)⟩
theorem cX.below(h:cX w base g n cap zs)(hb:Below w.heap.size w w'):cX w' base g n cap zs:=
 ⟨h.1,h.2.kept (row:=none) ⟨hb.os,hb.tape,hb.output,hb.size,fun k hk _=>hb.block k hk⟩ (.inr (by simp[Value.ownBlock]))⟩
theorem C9(h:C8 w b off zs):∀j v,(aV zs)[j]? =some v→w.cell? ((⟨b,off,none⟩:Addr).add j)=some v:=by
 intro j v hj;have eL:j<zs.length:=by have:=(List.getElem?_eq_some_iff.1 hj).1; rwa[eP] at this
 rw[Addr.add_lit,h j eL];simpa[aV,eL] using hj
theorem iS(w:World)(base:Nat)(hb:base≤w.heap.size):cX (w.alloc (.cells #[] 3)) base w.heap.size 0 0 []:=
 ⟨rfl,World.ownsRow_made w #[] 0 hb (Nat.zero_le _) rfl⟩
theorem AG{v':Value}(hl:zs.length=n)(h0:¬v'=.slice none 0 0)(h:w'.ownsRow base 3 1 v' n (aV zs)):
 ∃g' aO,v'=.slice (some ⟨g',0,none⟩) n aO∧cX w' base g' n aO zs:=by
 rcases h.2 with⟨h2,_⟩ | ⟨g',aO,cur,hv,_⟩
 · exact absurd h2 h0
 · subst hv;exact⟨g',aO,rfl,hl,h⟩
theorem uJ{v':Value}{z:Int}(hl:zs.length=n)(h0:¬v'=.slice none 0 0)(h:w'.ownsRow base 3 1 v' (n+1) (aV zs++aV [z])):
 ∃g' aO,v'=.slice (some ⟨g',0,none⟩) (n+1) aO∧cX w' base g' (n+1) aO (zs++[z]):=by
 rw[←nN] at h;exact AG (by simp; omega) h0 h
theorem lR(h:cX w base g n cap zs)(k:Nat)(z:Int):
 cX (w.setCell ⟨g,k,none⟩ (.int .i64 z)) base g n cap (zs.set k z)∧w.grownBy (w.setCell ⟨g,k,none⟩ (.int .i64 z)) (some g):=by
 have hs:=h.2.stored k (.int .i64 z);rw[AF] at hs;exact⟨⟨by simpa using h.1,hs.1⟩,hs.2⟩
end
theorem ew(w:World)(z:Int)(t:TypeId):∀j u,(aV [z])[j]? =some u→(w.alloc (.cells #[.int .i64 z] t)).cell? ((⟨w.heap.size,0,none⟩:Addr).add j)=some u:=by
 intro j u hj
 match j,hj with
 | 0,hj=>simp[aV] at hj; subst hj; simp[Addr.add]
/-! ### a number put in order -/
theorem tN(zs:List Int)(n:Int)(k:Nat)(ha:tm zs)(hn:n∉zs)(hk:k≤zs.length)(hd:∀x∈zs.drop k,n<x)(ht:k=0∨∃h:k - 1<zs.length,¬n<zs[k - 1]):eV zs n=zs.take k++n::zs.drop k:=by
 have iF:∀x∈zs.take k,x<n:=by
  intro x hx;rcases ht with rfl | ⟨h1,h2⟩
  · simp at hx
  · obtain⟨i,hi,rfl⟩:=List.getElem_of_mem hx;have Wg:i<k:=by simp at hi; omega
    rw[List.getElem_take];have aW:zs[k - 1]≠n:=fun e=>hn (e ▸ List.getElem_mem h1)
    by_cases e:i=k - 1
    · subst e; omega
    · have:=List.pairwise_iff_getElem.1 ha i (k - 1) (by omega) h1 (by omega)
      omega
 unfold eV;rw[if_neg hn];have e:=List.take_append_drop k zs;have e1:zs.filter (fun x=>decide (x<n))=zs.take k:=by
  conv=>lhs; rw[←e,List.filter_append]
  rw[List.filter_eq_self.2 (fun x hx=>by simpa using iF x hx),List.filter_eq_nil_iff.2 (fun x hx=>by have:=hd x hx; simp; omega),List.append_nil]
 have e2:zs.filter (fun x=>decide (n<x))=zs.drop k:=by
  conv=>lhs; rw[←e,List.filter_append]
  rw[List.filter_eq_nil_iff.2 (fun x hx=>by have:=iF x hx; simp; omega),List.filter_eq_self.2 (fun x hx=>by simpa using hd x hx),List.nil_append]
 rw[e1,e2]
def ru(zs:List Int)(k:Nat)(x:Int):List Int:=zs.take k++x::zs.drop k
theorem uK(zs:List Int)(k:Nat)(x:Int)(h:k≤zs.length):(ru zs k x).length=zs.length+1:=by unfold ru; simp; omega
theorem oN(zs:List Int)(k:Nat)(x y:Int)(h:k≤zs.length):(ru zs k x).set k y=ru zs k y:=by
 unfold ru;rw[List.set_append_right _ _ (by simp; omega),List.length_take_of_le h,Nat.sub_self,List.set_cons_zero]
theorem AH(zs:List Int)(k:Nat)(x:Int)(h0:0<k)(h:k≤zs.length):(ru zs k x)[k - 1]? =some (zs[k - 1]'(by omega)):=by
 unfold ru;rw[List.getElem?_append_left (by simp; omega),List.getElem?_take_of_lt (by omega),List.getElem?_eq_getElem (by omega)]
theorem AI(zs:List Int)(k:Nat)(h0:0<k)(h:k≤zs.length):ru zs k (zs[k - 1]'(by omega))=ru zs (k - 1) (zs[k - 1]'(by omega)):=by
 unfold ru;obtain⟨j,rfl⟩:∃j,k=j+1:=⟨k - 1,by omega⟩
 simp only[Nat.add_sub_cancel];rw[List.take_succ_eq_append_getElem (by omega),List.drop_eq_getElem_cons (i:=j) (by omega),List.append_assoc]
 rfl
end aN
namespace aN
open Go Go.RowKit base av
theorem cI(a:Option Addr)(len cap:Nat)(zs:List Int)(n:Int)(w:World)(h:tz w a len zs):
 Calls Tryz.prog 102 #[.slice a len cap,.int .i64 n] w fun e w'=>e=.returned (.bool (decide (n∈zs)))∧w'=w:=by
 obtain⟨hl,hm,hc⟩:=h;subst hl;unfold maxLen at hm;generalize hR:decide (n∈zs)=R;have HR:=Hid.mk' hR;clear hR;go_enter Tryz.func102,Tryz.ntmps102;go_wp2;go_loop [5] (fun i=>∃k:Nat,k≤zs.length∧i=.int .i64 (k:Int)∧decide (n∈zs.drop k)=R) (fun i=>zs.length - (intOf i).toNat)
 case atStart=>exact⟨0,Nat.zero_le _,rfl,HR.out⟩
 case round=>
  obtain⟨k,hk,rfl,hr⟩:=hrel;by_cases a6:k<zs.length
  · obtain⟨b,off,ha,cK⟩:=hc (by omega)
    subst ha;have c1:=cK k a6;have fL:(k:Int)<(zs.length:Int):=by omega
    rw[List.drop_eq_getElem_cons a6] at hr;generalize zs[k]=z at *;by_cases he:z=n
    · have HF:Hid (R=true):=by show _=_; rw[←hr,he]; simp
      subst he;have hq:(z==z)=true:=beq_self_eq_true _;clear hr cK hc;go_wp2;go_ret;exact⟨aj HF.out.symm,rfl⟩
    · have HF:Hid (decide (n∈zs.drop (k+1))=R):=by
       show _=_;rw[←hr];have:¬n=z:=fun e=>he e.symm
       simp[this]
      have hq:(z==n)=false:=beq_eq_false_iff_ne.2 he;clear hr cK hc he;go_wp2;go_round
      case rel=>exact⟨k+1,by omega,by go_num,HF.out⟩
      case measure=>simp[intOf]; omega
  · have HF:Hid (R=false):=by show _=_; rw[←hr,List.drop_eq_nil_of_le (by omega)]; simp
    clear hr;go_wp2;go_ret;exact⟨aj HF.out.symm,rfl⟩
theorem C_(base g m cp:Nat)(zs:List Int)(n:Int)(w:World)(h:cX w base g m cp zs)(Fp:base≤w.heap.size)(ha:tm zs)(iO:m≤1099511627776):
 Calls Tryz.prog 143 #[.slice (some ⟨g,0,none⟩) m cp,.int .i64 n] w fun e w'=>
  ∃g' n' aO,e=.returned (.slice (some ⟨g',0,none⟩) n' aO)∧cX w' base g' n' aO (eV zs n)∧Below w.heap.size w w':=by
 obtain⟨i0,jG,dm,dk,cA⟩:=info_parts pA;have hl:=h.1;subst hl;have HH:=Hid.mk' (cI (some ⟨g,0,none⟩) zs.length cp zs n w h.sl);by_cases hn:n∈zs
 · rw[decide_eq_true hn] at HH;have HP:Hid (eV zs n=zs):=by show _=_; unfold eV; rw[if_pos hn]
   clear hn;go_enter Tryz.func143,Tryz.ntmps143;go_wp2_with (at_builtin; fail)
   refine HH.out.mono ?_;rintro e w1 ⟨rfl,bx⟩;subst bx;go_wp2_with (at_builtin; fail)
   go_ret;exact⟨g,_,cp,rfl,by rw[HP.out]; exact h,Below.refl _ _⟩
 · rw[decide_eq_false hn] at HH;have HN:=Hid.mk' hn;clear hn;have bg:Below w.heap.size w (w.alloc (.cells #[] 3)):=(Below.refl _ _).alloc (Nat.le_refl _) _;have HC:=Hid.mk' (C9 (h.sl.below bg).cells);have v_:(aV zs).length=zs.length * 1:=by rw[eP,Nat.mul_one]
   have Fh:0+zs.length≤maxLen:=by unfold maxLen; omega
   have jD:(0+zs.length) * 8≤140737488355328:=by omega
   have nH:=(iS w w.heap.size (Nat.le_refl _)).2;go_enter Tryz.func143,Tryz.ntmps143;go_wp2_with (at_builtin; fail)
   refine HH.out.mono ?_;rintro e w1 ⟨rfl,bx⟩;subst bx;go_wp2_with (at_builtin; refine wpList_append_own _ rfl _ _ 54 rfl w1.heap.size 3 i0 (.int .i64 0) 1 8 Tryz.underlying54 jG dm dk cA rfl (by decide) _ _ _ rfl nH ⟨g,0,none⟩ zs.length cp (aV zs) rfl v_ HC.out (bT _) Fh jD (aI _ _ (Nat.le_refl _)) ?_)
   intro v1 w2 aB az cN;obtain⟨g1,CH,hv,gi⟩:=AG (zs:=zs) rfl (by simpa using cN) (by simpa[aV] using aB)
   subst hv;have eU:Below w1.heap.size w1 w2:=bg.grown az (aI _ _ (Nat.le_refl _)) (fun k e=>by simp[Value.ownBlock] at e; omega)
   have pT:w1.heap.size≤w2.heap.size:=eU.size;have fD:zs.length+1≤maxLen:=by unfold maxLen; omega
   have jX:(zs.length+1) * 8≤140737488355328:=by omega
   clear aB az cN nH HC v_ Fh jD bg HH;go_wp2_with (at_builtin; refine wpList_append_own _ rfl _ _ 54 rfl w1.heap.size 3 i0 (.int .i64 0) 1 8 Tryz.underlying54 jG dm dk cA rfl (by decide) _ _ _ rfl (gi.2.alloc _) ⟨w2.heap.size,0,none⟩ 1 1 (aV [n]) rfl rfl (ew _ _ _) (bT _) fD jX (aI _ _ pT) ?_)
   intro v3 w3 aB az cN;obtain⟨g3,yq,hv,d_⟩:=uJ (zs:=zs) rfl cN aB;subst hv;have cJ:Below w1.heap.size w1 w3:=(eU.alloc pT _).grown az (aI _ _ pT) (fun k e=>by simp[Value.ownBlock] at e; have:=gi.lt; omega)
   have e0:zs++[n]=ru zs zs.length n:=by unfold ru; simp
   rw[e0] at d_;clear aB az cN gi eU e0;go_wp2_with (at_builtin; fail)
   go_loopw [6] (fun kv wr=>∃(k:Nat) (x:Int),k≤zs.length∧kv=.int .i64 (k:Int)∧(∀y∈zs.drop k,n<y)∧cX wr w1.heap.size g3 (zs.length+1) yq (ru zs k x)∧Below w1.heap.size w1 wr) (fun kv _=>(intOf kv).toNat)
   case atStart=>exact⟨zs.length,n,Nat.le_refl _,by go_num,by simp,d_,cJ⟩
   case round=>
    clear d_ cJ;obtain⟨k,x,hk,rfl,hd,hO,hB⟩:=hrel;have m5:=uK zs k x hk;by_cases B8:k=0
    · subst B8;have HP:Hid (eV zs n=ru zs 0 n):=tN zs n 0 ha HN.out hk hd (.inl rfl);have K8:=hO.frozen 0;have fl:=hO.at 0 (by omega)
      have R:=lR hO 0 n;rw[oN zs 0 x n hk,←HP.out] at R;have HR:=Hid.mk' R;have uL:=hO.lt;generalize(ru zs 0 x)[0]=y0 at *;clear R hO hd;go_wp2_with (at_builtin; fail)
      go_ret;exact⟨g3,_,yq,rfl,HR.out.1.mono Fp,hB.trans (fH HR.out.2 uL.1 hB.size)⟩
    · obtain⟨j,rfl⟩:∃j,k=j+1:=⟨k - 1,by omega⟩
      have ID:j<zs.length:=by omega
      have xt:=AH zs (j+1) x (by omega) hk
      simp only[Nat.add_sub_cancel] at xt;have fl:wr.cell? ⟨g3,j,none⟩=some (.int .i64 zs[j]):=by
       have:=hO.at j (by omega)
       rw[this];have e:=List.getElem?_eq_getElem (l:=ru zs (j+1) x) (i:=j) (by omega)
       rw[e] at xt;rw[Option.some.inj xt]
      have Wh:=hO.at (j+1) (by omega)
      have K8:=hO.frozen (j+1);have UD:((j+1:Nat):Int) - 1=(j:Int):=by omega
      have eL:((j:Nat):Int)<((zs.length+1:Nat):Int):=by omega
      have OY:((j+1:Nat):Int)<((zs.length+1:Nat):Int):=by omega
      have Wi:(0:Int)<((j+1:Nat):Int):=by omega
      by_cases Q1:n<zs[j]
      · have R:=lR hO (j+1) zs[j];have qC:=AI zs (j+1) (by omega) hk
        simp only[Nat.add_sub_cancel] at qC;rw[oN zs (j+1) x zs[j] hk,qC] at R;have HD:Hid (∀y∈zs.drop j,n<y):=by
         intro y hy;rw[List.drop_eq_getElem_cons ID] at hy;rcases List.mem_cons.1 hy with rfl | hy
         · exact Q1
         · exact hd y hy
        have HR:=Hid.mk' R;have uL:=hO.lt;generalize(ru zs (j+1) x)[j+1]=y0 at *;generalize zs[j]=zj at *;clear R hO hd xt qC;go_wp2_with (at_builtin; fail)
        go_roundw
        case rel=>exact⟨j,zj,by omega,by go_num,HD.out,HR.out.1,hB.trans (fH HR.out.2 uL.1 hB.size)⟩
        case measure=>simp[intOf]
      · have HP:Hid (eV zs n=ru zs (j+1) n):=tN zs n (j+1) ha HN.out hk hd (.inr ⟨ID,Q1⟩);have R:=lR hO (j+1) n;rw[oN zs (j+1) x n hk,←HP.out] at R;have HR:=Hid.mk' R;have uL:=hO.lt;generalize(ru zs (j+1) x)[j+1]=y0 at *;generalize zs[j]=zj at *;clear R hO hd xt;go_wp2_with (at_builtin; fail)
        go_ret;exact⟨g3,_,yq,rfl,HR.out.1.mono Fp,hB.trans (fH HR.out.2 uL.1 hB.size)⟩
theorem AJ(zs:List Int)(n:Int):(eV zs n).length≤zs.length+1:=by
 unfold eV
 split
 · omega
 · have h1:∀l:List Int,(l.filter fun x=>decide (x<n)).length+(l.filter fun x=>decide (n<x)).length≤l.length:=by
    intro l
    induction l with
    | nil=>simp
    | cons x l ih=>
     simp only[List.filter_cons];by_cases a:x<n
     · have b:¬n<x:=by omega
       simp[a,b]; omega
     · by_cases b:n<x
       · simp[a,b]; omega
       · simp[a,b]; omega
   have:=h1 zs;simp only[List.length_append,List.length_cons];omega
theorem ez(a:Option Addr)(len cap:Nat)(l:List Od)(n:Int)(w:World)(h:dD w a len l)(iO:len≤1099511627776)(hn:(Lit.int .i64 n).wf=true):
 Calls Tryz.prog 101 #[.slice a len cap,.int .i64 n] w fun e w'=>
  ∃g' n' aO,e=.returned (.slice (some ⟨g',0,none⟩) n' aO)∧cX w' w.heap.size g' n' aO (aD n l)∧Below w.heap.size w w':=by
 have hl:=h.1;have eW:=h.2.2.1;subst hl;go_enter Tryz.func101,Tryz.ntmps101;go_wp2_with (at_builtin; fail)
 go_loopw [5,6] (fun v i wr=>∃(k g n' cp:Nat),k≤l.length∧n'≤k∧i=.int .i64 (k:Int)∧v=.slice (some ⟨g,0,none⟩) n' cp∧cX wr w.heap.size g n' cp (aD n (l.take k))∧Below w.heap.size w wr) (fun _ i _=>l.length - (intOf i).toNat)
 case atStart=>exact⟨0,w.heap.size,0,0,Nat.zero_le _,Nat.le_refl _,rfl,rfl,iS w _ (Nat.le_refl _),(Below.refl _ _).alloc (Nat.le_refl _) _⟩
 case round=>
  obtain⟨k,g,m,cp,hk,CF,rfl,rfl,hO,hB⟩:=hrel;have mX:w.heap.size≤wr.heap.size:=hB.size;by_cases a6:k<l.length
  · obtain⟨b,off,ha,_⟩:=h.2.2.2 (by omega)
    subst ha;obtain⟨c0,c1,c2⟩:=(h.below hB).cells k a6;have mh:=eW _ (List.getElem_mem a6);have fL:(k:Int)<(l.length:Int):=by omega
    have HT:=Hid.mk' (z8 n l k a6);have vN:=Hid.mk' (qL l[k].2.1 n wr mh.2.1 hn);have oL:=hO.1;have gd:=AJ (aD n (l.take k)) (bl l[k].2.1 n);have HP:=Hid.mk' (C_ w.heap.size g m cp (aD n (l.take k)) (bl l[k].2.1 n) wr hO mX (pR _ _) (by omega))
    generalize l[k]=p at *;generalize bl p.2.1 n=sh at *;generalize aD n (l.take k)=u at *;go_wp2_with (at_builtin; fail)
    refine vN.out.mono ?_;rintro e w1 ⟨rfl,bx⟩;subst bx;go_wp2_with (at_builtin; fail)
    refine HP.out.mono ?_;rintro e w2 ⟨g2,n2,Iv,rfl,fE,dw⟩;have cJ:Below w.heap.size w w2:=hB.trans (dw.mono hB.size);have o9:n2≤k+1:=by have:=fE.1; omega
    rw[←HT.out] at fE;have LC:=Hid.mk' fE;clear fE hO hB dw HP vN HT;go_wp2_with (at_builtin; fail)
    go_roundw
    case rel=>exact⟨k+1,g2,n2,Iv,by omega,o9,by go_num,rfl,LC.out,cJ⟩
    case measure=>simp[intOf]; omega
  · have HE:Hid (l.take k=l):=List.take_of_length_le (by omega)
    go_wp2_with (at_builtin; fail)
    go_ret;rw[HE.out] at hO;exact⟨g,m,cp,rfl,hO,hB⟩
end aN
namespace last
open Go Go.RowKit
section
variable{P:Program}{ops:Array Oper}{md:Region.Mode}{Q:Exit→Act→World→Prop}{S:World→Prop}{z:Nat}
def fP(P:Program)(md:Region.Mode)(ops:Array Oper)(Q:Exit→Act→World→Prop)(S:World→Prop)(z:Nat):Nat→Array Bool→Act→World→Prop
 | 0,ax,a,w=>Region.ready md ops ax=[]∧Q .normal a w
 | fuel+1,ax,a,w=>
  (Region.ready md ops ax=[]→Q .normal a w)∧
  ∀i∈Region.ready md ops ax,wpOp P ops Q i (fun a' w'=>(i≠z→S w')∧fP P md ops Q S z fuel (ax.setIfInBounds i true) a' w') a w
theorem nO:∀(fuel:Nat) (ax:Array Bool) (a:Act) (w:World),fP P md ops Q S z fuel ax a w→wpAny P md ops Q fuel ax a w
 | 0,_,_,_,h=>h
 | fuel+1,_,_,_,h=>⟨h.1,fun i hi=>wpOp_mono (fun a' w' h'=>nO fuel _ a' w' h'.2) (h.2 i hi)⟩
theorem yL{i:Nat}{oi:Oper}{v:Value}(hi:ops[i]? =some oi)(Ae:∀(j:Nat) (o:Oper) cs b,ops[j]? =some o→o.op≠ .select cs b)
 (hQ:∀c a w,Q (.panic c) (a.put oi.dst v) w→Q (.panic c) a w) {oz:Oper} (hz:ops[z]? =some oz) (CI:∃e∈oz.after,Region.binds md e=true∧e.on=i):
 ∀(fuel:Nat) (ax:Array Bool) (a:Act) (w:World),
  (∀j oj,ops[j]? =some oj→j≠i→ax.getD j true=false→(∀e∈oj.after,Region.binds md e=true→e.on≠i)→oi.apart ops oj=true)→
  i∈Region.ready md ops ax→YieldsIf P ops S oi v a→S w→
  fP P md ops Q S z fuel (ax.setIfInBounds i true) (a.put oi.dst v) w→fP P md ops Q S z (fuel+1) ax a w:=by
 have IC:∀ {ax:Array Bool} {j:Nat},i∈Region.ready md ops ax→j∈Region.ready md ops ax→j≠z:=fun hr hj e=>by
  subst e;obtain⟨e,he,hb,heq⟩:=CI;exact iQ hr hj hz e he hb heq
 intro fuel
 induction fuel with
 | zero=>
  intro ax a w _ hr hy hS H;refine⟨fun h=>(by rw[h] at hr; cases hr),fun j hj=>?_⟩
  by_cases sD:j=i
  · subst sD; exact hy.wpOp hi hS ⟨fun _=>hS,H⟩
  · have:=ready_mono hj sD;rw[H.1] at this;cases this
 | succ fuel ih=>
  intro ax a w AK hr hy hS H;refine⟨fun h=>(by rw[h] at hr; cases hr),fun j hj=>?_⟩
  by_cases sD:j=i
  · subst sD; exact hy.wpOp hi hS ⟨fun _=>hS,H⟩
  · have h1:=H.2 j (ready_mono hj sD);obtain⟨I4,oj,Af,iD⟩:=mem_ready.1 hj;have I5:∀e∈oj.after,Region.binds md e=true→e.on≠i:=iQ hr hj Af;have h2:=wpOp_putIf Af (AK j oj Af sD I4 I5) (fun cs b=>Ae i oi cs b hi) (fun cs b=>Ae j oj cs b Af) hQ hy h1
    have Da:∀k ok,ops[k]? =some ok→k≠i→(ax.setIfInBounds j true).getD k true=false→
     (∀e∈ok.after,Region.binds md e=true→e.on≠i)→oi.apart ops ok=true:=fun k ok hk fL IB ku=>by
     refine AK k ok hk fL ?_ ku;by_cases QU:j=k
     · subst QU; exact I4
     · rw[getD_set_ne true QU] at IB; exact IB
    have ID:=IC hr hj;refine wpOp_mono (fun a' w' h3=>⟨h3.2.1,ih (ax.setIfInBounds j true) a' w' Da (ready_mono hr (Ne.symm sD)) h3.1 (h3.2.1 ID) ?_⟩) h2
    rw[Array.setIfInBounds_comm _ _ sD];exact h3.2.2
theorem ae{i:Nat}{oi oz:Oper}{v:Value}{fuel:Nat}{ax:Array Bool}{a:Act}{w:World}(hi:ops[i]? =some oi)(hz:ops[z]? =some oz)
 (hs:Region.noSelect ops=true) (hf:Region.free md ops ax i=true) (hr:(Region.ready md ops ax).contains i=true) (hw:waits md oz i=true)
 (hQ:∀c a w,Q (.panic c) (a.put oi.dst v) w→Q (.panic c) a w) (hy:YieldsIf P ops S oi v a) (hS:S w)
 (h:fP P md ops Q S z fuel (ax.setIfInBounds i true) (a.put oi.dst v) w):fP P md ops Q S z (fuel+1) ax a w:=by
 have Hb:∃e∈oz.after,Region.binds md e=true∧e.on=i:=by
  obtain⟨e,he,hb⟩:=Array.any_eq_true'.1 hw;simp only[Bool.and_eq_true,beq_iff_eq] at hb;exact⟨e,he,hb⟩
 exact yL hi (Region.noSelect_spec hs) hQ hz Hb fuel ax a w (Region.free_spec hi hf) (by simpa using hr) hy hS h
theorem wpTk(i:Nat)(v:Value){oi oz:Oper}{fuel:Nat}{ax:Array Bool}{a:Act}{w:World}(hi:ops[i]? =some oi)(hz:ops[z]? =some oz)(hB:∀w,S w→(execOp a.eval oi).run P w=.ok (.value v) w)(h:fP P md ops Q S z fuel (ax.setIfInBounds i true) (a.put oi.dst v) w)(hA:Region.wanted oi (yielded ops a.tmps)=true:=by rfl)(hs:Region.noSelect ops=true:=by kernel_rfl)(hf:Region.free md ops ax i=true:=by kernel_rfl)(hr:(Region.ready md ops ax).contains i=true:=by kernel_rfl)(hw:waits md oz i=true:=by kernel_rfl)(hQ:∀c a w,Q (.panic c) (a.put oi.dst v) w→Q (.panic c) a w:=by exact fun _ _ _ h=>h)(hS:S w:=by assumption):fP P md ops Q S z (fuel+1) ax a w:=ae hi hz hs hf hr hw hQ (Or.inl ⟨hA,hB⟩) hS h
theorem an{i:Nat}{o:Oper}{fuel:Nat}{ax:Array Bool}{a:Act}{w:World}(hr:Region.ready md ops ax=[i])(ho:ops[i]? =some o)
 (h:∀K':Act→World→Prop,Shut (∀a w,S w→(S w→fP P md ops Q S z fuel (ax.setIfInBounds i true) a w)→K' a w)→if Region.wanted o (yielded ops a.tmps)=true then Oper.wp P o a w K' Q else K' (a.put o.dst undef) w):
 fP P md ops Q S z (fuel+1) ax a w:=
 by
 refine⟨fun h0=>?_,fun j hj=>?_⟩
 · rw[hr] at h0; cases h0
 · rw[hr] at hj;obtain rfl:=List.mem_singleton.1 hj;exact wpOp_step ho (fun K' hK=>h K' (fun a w hS hW=>hK a w ⟨fun _=>hS,hW hS⟩))
theorem eA{i j:Nat}{o o':Oper}{fuel:Nat}{ax:Array Bool}{a:Act}{w:World}(hr:Region.ready md ops ax=[i,j])(ho:ops[i]? =some o)(VE:ops[j]? =some o')
 (h:∀K':Act→World→Prop,Shut (∀a w,S w→(S w→fP P md ops Q S z fuel (ax.setIfInBounds i true) a w)→K' a w)→if Region.wanted o (yielded ops a.tmps)=true then Oper.wp P o a w K' Q else K' (a.put o.dst undef) w)
 (h':∀K':Act→World→Prop,Shut (∀a w,S w→(S w→fP P md ops Q S z fuel (ax.setIfInBounds j true) a w)→K' a w)→if Region.wanted o' (yielded ops a.tmps)=true then Oper.wp P o' a w K' Q else K' (a.put o'.dst undef) w):
 fP P md ops Q S z (fuel+1) ax a w:=by
 refine⟨fun h0=>?_,fun k hk=>?_⟩
 · rw[hr] at h0; cases h0
 · rw[hr] at hk;rcases List.mem_cons.1 hk with rfl | hk
   · exact wpOp_step ho (fun K' hK=>h K' (fun a w hS hW=>hK a w ⟨fun _=>hS,hW hS⟩))
   · obtain rfl:=List.mem_singleton.1 hk;exact wpOp_step VE (fun K' hK=>h' K' (fun a w hS hW=>hK a w ⟨fun _=>hS,hW hS⟩))
theorem aC{o:Oper}{fuel:Nat}{ax:Array Bool}{a:Act}{w:World}(hr:Region.ready md ops ax=[z])(ho:ops[z]? =some o)(hd:Region.ready md ops (ax.setIfInBounds z true)=[])
 (h:∀K':Act→World→Prop,Shut (∀a w,Q .normal a w→K' a w)→if Region.wanted o (yielded ops a.tmps)=true then Oper.wp P o a w K' Q else K' (a.put o.dst undef) w):
 fP P md ops Q S z (fuel+1) ax a w:=
 by
 refine⟨fun h0=>?_,fun j hj=>?_⟩
 · rw[hr] at h0; cases h0
 · rw[hr] at hj;obtain rfl:=List.mem_singleton.1 hj;refine wpOp_step ho (fun K' hK=>h K' (fun a w hq=>hK a w ⟨fun h=>absurd rfl h,?_⟩))
   cases fuel with
   | zero=>exact⟨hd,hq⟩
   | succ k=>exact⟨fun _=>hq,by rw[hd]; simp⟩
theorem aq{id:Nat}{a:Act}{w:World}(z:Nat)(hm:P.follows .mixedOrders=true)(hS:S w.drew)
 (h:S w.drew→fP P .any ops Q S z ops.size (Array.replicate ops.size false) a w.drew):(Code.region id ops true).wp P Q a w:=
 wp_region_any hm (nO _ _ _ _ (h hS))
end
end last
namespace fx
open Go Go.RowKit
end fx
namespace aZ
open Go Go.RowKit base av aN
def fZ(X:Nat)(x y z:Value)(w:World):Prop:=w.heap[X]? =some (.cells #[x,y,z] 137 (0,0))
section
variable{X:Nat}{x y z:Value}{w w':World}
theorem fZ.cells(h:fZ X x y z w):w.cell? ⟨X,0,none⟩=some x∧w.cell? ⟨X,1,none⟩=some y∧w.cell? ⟨X,2,none⟩=some z:=by
 unfold fZ at h;simp[World.cell?,h]
theorem fZ.lt(h:fZ X x y z w):X<w.heap.size:=(Array.getElem?_eq_some_iff.1 h).1
theorem fZ.below(h:fZ X x y z w)(hb:Below w.heap.size w w'):fZ X x y z w':=(hb.block X h.lt).trans h
theorem fZ.grown{row:Option Nat}(h:fZ X x y z w)(hg:w.grownBy w' row)(aW:some X≠row):fZ X x y z w':=(hg.block X h.lt aW).trans h
theorem fZ.fz(h:fZ X x y z w)(j:Nat):w.frozen? ⟨X,j,none⟩=false:=by unfold fZ at h; simp[World.frozen?,h]
theorem fZ.ne{b size n:Nat}{e:TypeId}{v:Value}{xs:List Value}(h:fZ X x y z w)(h2:w.ownsRow b e size v n xs)(aW:e≠137):some X≠v.ownBlock:=by
 intro hk;rcases h2.2 with⟨rfl,_⟩ | ⟨g,c,cur,rfl,_,hg,_⟩
 · cases hk
 simp only[Value.ownBlock,Option.some.injEq] at hk;unfold fZ at h;rw[hk,hg] at h
 injection h with h
 injection h with _ he
 exact aW he
end
def Db(w:World)(base:Nat)(v:Value)(zs:List Int):Prop:=w.ownsRow base 3 1 v zs.length (aV zs)
section
variable{w w':World}{base:Nat}{v:Value}{zs:List Int}
theorem AL(w:World)(base:Nat):Db w base (.slice none 0 0) []:=World.ownsRow_nil _ _ _ _
theorem Db.sl(h:Db w base v zs):∃a cap,v=.slice a zs.length cap∧tz w a zs.length zs:=by
 rcases h.2 with⟨rfl,h0⟩ | ⟨g,cap,cur,rfl,_,_,h1,h2,_⟩
 · have:zs=[]:=List.eq_nil_of_length_eq_zero h0;subst this;exact⟨none,0,rfl,rfl,Nat.zero_le _,fun h=>absurd h (by simp)⟩
 · exact⟨_,cap,rfl,cX.sl (base:=base) ⟨rfl,h⟩⟩
end
def ek(w:World)(a:Option Addr)(n cap:Nat)(l:List Pr):Prop:=l.length=n∧(∀p∈l,small p)∧w.ownsRow 0 100 2 (.slice a n cap) n (aw l)
section
variable{w w':World}{a:Option Addr}{g n cap base:Nat}{l:List Pr}
theorem FI(w:World):ek w none 0 0 []:=⟨rfl,fun _ h=>absurd h List.not_mem_nil,World.ownsRow_nil _ _ _ _⟩
theorem ij(h:bJ w base g n cap l):ek w (some ⟨g,0,none⟩) n cap l:=⟨h.1,h.2.1,(h.mono (base':=0) (Nat.zero_le _)).2.2⟩
theorem ek.shape(h:ek w a n cap l):(a=none∧n=0∧cap=0∧l=[])∨∃g,a=some ⟨g,0,none⟩∧bJ w 0 g n cap l:=by
 obtain⟨h1,h2,h3⟩:=h;rcases h3.2 with⟨e,h0⟩ | ⟨g,c,cur,e,_⟩
 · cases e;exact .inl ⟨rfl,rfl,rfl,List.eq_nil_of_length_eq_zero h1⟩
 · cases e;exact .inr ⟨g,rfl,show bJ w 0 g n cap l from⟨h1,h2,h3⟩⟩
theorem ek.sl(h:ek w a n cap l):lq w a n l:=by
 rcases h.shape with⟨rfl,rfl,rfl,rfl⟩ | ⟨g,rfl,h⟩
 · exact LH _ _
 · exact bJ.sl h
theorem ek.spot(h:ek w a n cap l):∀ad,a=some ad→ad.spot=none:=by
 rcases h.shape with⟨rfl,_⟩ | ⟨g,rfl,_⟩
 · intro ad e; cases e
 · intro ad e; cases e; rfl
theorem ek.lt(h:ek w a n cap l)(k:Nat)(hk:(Value.slice a n cap).ownBlock=some k):k<w.heap.size:=(h.2.2.lt k hk).2
theorem ek.bN(h:ek w a n cap l)(hk:∀k,(Value.slice a n cap).ownBlock=some k→w'.heap[k]? =w.heap[k]?):ek w' a n cap l:=⟨h.1,h.2.1,cG h.2.2 hk⟩
theorem ek.below(h:ek w a n cap l)(hb:Below w.heap.size w w'):ek w' a n cap l:=h.bN fun k hk=>hb.block k (h.lt k hk)
end
structure Kept (N:Prop) (w0:World) (F0:List Nat) (w:World) (X:Nat) (am:Option Addr) (nm cm:Nat) (ah:Option Addr) (ch:Nat) (vs:Value) (s:St) (hs:List Value):Prop where
 box:fZ X (.slice am nm cm) (.slice ah s.2.1.length ch) vs w
 m:ek w am nm cm s.1
 held:bm w 0 (.slice ah s.2.1.length ch) s.2.1 hs
 seen:Db w 0 vs s.2.2
 fr:lay.Frame (X::F0) w0 w
 Dc:∀k,(Value.slice am nm cm).ownBlock=some k→k∈F0∨w0.heap.size≤k
 yM:∀k,c_ (.slice ah s.2.1.length ch) hs k→k∈F0∨w0.heap.size≤k
 FM:∀k,vs.ownBlock=some k→k∈F0∨w0.heap.size≤k
 Q2:N→am≠none
 UK:N→ah≠none
section
variable{N:Prop}{w0 w w' w7:World}{F0:List Nat}{X nm cm ch:Nat}{am ah:Option Addr}{vs:Value}{s:St}{hs:List Value}
theorem Kept.below(h:Kept N w0 F0 w X am nm cm ah ch vs s hs)(hb:Below w.heap.size w w'):Kept N w0 F0 w' X am nm cm ah ch vs s hs:=
 ⟨h.box.below hb,h.m.below hb,h.held.below hb,cG h.seen fun k hk=>hb.block k (h.seen.lt k hk).2,h.fr.below hb,h.Dc,h.yM,h.FM,h.Q2,h.UK⟩
theorem I6{w0 w:World}{F0:List Nat}{v:Value}{g H:Nat}(hn:∀k,v.ownBlock=some k→k∈F0∨w0.heap.size≤k)(fl:v.ownBlock=some g∨g=H)(hH:w.heap.size=H)(hs:w0.heap.size≤w.heap.size):g∈F0∨w0.heap.size≤g:=by
 rcases fl with e | e
 · exact hn g e
 · exact .inr (by omega)
theorem Kept.yN{v:Value}{e:TypeId}{size n:Nat}{xs:List Value}(h:Kept N w0 F0 w X am nm cm ah ch vs s hs)(h2:w.ownsRow 0 e size v n xs)(h1:e≠98)(h3:e≠121)(k:Nat)(hk:c_ (.slice ah s.2.1.length ch) hs k):some k≠v.ownBlock:=by
 intro e0;rcases hk with e2 | ⟨y,hy,e2⟩
 · exact fX h.held.row h2 e2 e0.symm (fun e=>h1 e.symm)
 · obtain⟨i,hi,rfl⟩:=List.getElem_of_mem hy;exact fX (h.held.ops i (by have:=h.held.len; omega)).2 h2 e2 e0.symm (fun e=>h3 e.symm)
theorem tO{y:Value}{l:List Rc}(b7:fZ X (.slice am nm cm) (.slice ah s.2.1.length ch) y w){v:Value}{hs:List Value}(hh:bm w 0 v l hs)(k:Nat)(hk:c_ v hs k):k≠X:=by
 intro e;rcases hk with e2 | ⟨y,hy,e2⟩
 · exact b7.ne hh.row (by decide) (by rw[e2,e])
 · obtain⟨i,hi,rfl⟩:=List.getElem_of_mem hy;exact b7.ne (hh.ops i (by have:=hh.len; omega)).2 (by decide) (by rw[e2,e])
theorem Kept.eZ{g7 c7 H:Nat}{z:Int}(h:Kept N w0 F0 w X am nm cm ah ch vs s hs)(aB:w7.ownsRow 0 3 1 (.slice (some ⟨g7,0,none⟩) (s.2.2.length+1) c7) (s.2.2.length+1) (aV s.2.2++aV [z]))(az:w.grownBy w7 vs.ownBlock)(fl:vs.ownBlock=some g7∨g7=H)(hH:w.heap.size=H):
 fZ X (.slice am nm cm) (.slice ah s.2.1.length ch) vs w7∧Kept N w0 F0 (w7.setCell ⟨X,2,none⟩ (.slice (some ⟨g7,0,none⟩) (s.2.2.length+1) c7)) X am nm cm ah ch (.slice (some ⟨g7,0,none⟩) (s.2.2.length+1) c7) (s.1,s.2.1,s.2.2++[z]) hs:=by
 have hX:=h.box.ne h.seen (by decide)
 have b7:=h.box.grown az hX;have zz:ek w7 am nm cm s.1:=h.m.bN fun k hk=>az.block k (h.m.lt k hk) (fun e=>fX h.m.2.2 h.seen hk e.symm (by decide))
 have OZ:bm w7 0 (.slice ah s.2.1.length ch) s.2.1 hs:=h.held.aY fun k hk=>az.block k (h.held.lt k hk).2 (h.yN h.seen (by decide) (by decide) k hk)
 have I7:Db w7 0 (.slice (some ⟨g7,0,none⟩) (s.2.2.length+1) c7) (s.2.2++[z]):=by unfold Db; rw[nN,List.length_append]; exact aB
 have c8:=bw b7 2 (.slice (some ⟨g7,0,none⟩) (s.2.2.length+1) c7);refine⟨b7,c8.1,zz.bN fun k hk=>c8.2.block k (zz.lt k hk) (fun e=>b7.ne zz.2.2 (by decide) (by rw[hk,e])),OZ.aY fun k hk=>c8.2.block k (OZ.lt k hk).2 (fun e=>tO b7 OZ k hk (Option.some.inj e)),cG I7 fun k hk=>c8.2.block k (I7.lt k hk).2 (fun e=>b7.ne I7 (by decide) (by rw[hk,e])),?_,h.Dc,h.yM,fun k hk=>?_,h.Q2,h.UK⟩
 · have B7:=h.fr.grown az (fun k e=>(h.FM k e).imp_left (List.mem_cons_of_mem _))
   exact B7.grown c8.2 (fun k e=>.inl (by rw[←Option.some.inj e]; exact List.mem_cons_self))
 · have:g7=k:=by simpa[Value.ownBlock] using hk
   subst this;exact I6 h.FM fl hH h.fr.size
theorem Kept.hold{g7 c7 H:Nat}{x:Rc}{y:Value}(h:Kept N w0 F0 w X am nm cm ah ch vs s hs)(hP:cD w 0 y x.2.2)(hx:h_ x)(hy:∀k,y.ownBlock=some k→¬c_ (.slice ah s.2.1.length ch) hs k)(UL:∀k,y.ownBlock=some k→w0.heap.size≤k)
 (aB:w7.ownsRow 0 98 3 (.slice (some ⟨g7,0,none⟩) (s.2.1.length+1) c7) (s.2.1.length+1) (aX s.2.1 hs++[.int .i64 x.1,.int .i64 x.2.1,y])) (az:w.grownBy w7 (Value.slice ah s.2.1.length ch).ownBlock) (fl:(Value.slice ah s.2.1.length ch).ownBlock=some g7∨g7=H) (hH:w.heap.size=H):
 fZ X (.slice am nm cm) (.slice ah s.2.1.length ch) vs w7∧Kept N w0 F0 (w7.setCell ⟨X,1,none⟩ (.slice (some ⟨g7,0,none⟩) (s.2.1.length+1) c7)) X am nm cm (some ⟨g7,0,none⟩) c7 vs (s.1,s.2.1++[x],s.2.2) (hs++[y]):=by
 have hX:=h.box.ne h.held.row (by decide)
 have b7:=h.box.grown az hX;have zz:ek w7 am nm cm s.1:=h.m.bN fun k hk=>az.block k (h.m.lt k hk) (fun e=>fX h.m.2.2 h.held.row hk e.symm (by decide))
 have OZ:bm w7 0 (.slice (some ⟨g7,0,none⟩) (s.2.1.length+1) c7) (s.2.1++[x]) (hs++[y]):=h.held.snoc hP hx hy aB az;have I7:Db w7 0 vs s.2.2:=cG h.seen fun k hk=>az.block k (h.seen.lt k hk).2 (fun e=>fX h.seen h.held.row hk e.symm (by decide))
 have c8:=bw b7 1 (.slice (some ⟨g7,0,none⟩) (s.2.1.length+1) c7);refine⟨b7,?_,zz.bN fun k hk=>c8.2.block k (zz.lt k hk) (fun e=>b7.ne zz.2.2 (by decide) (by rw[hk,e])),?_,cG I7 fun k hk=>c8.2.block k (I7.lt k hk).2 (fun e=>b7.ne I7 (by decide) (by rw[hk,e])),?_,h.Dc,fun k hk=>?_,h.FM,h.Q2,fun _ e=>by cases e⟩
 · have:=c8.1;simp only[List.length_append,List.length_singleton];exact this
 · simp only[List.length_append,List.length_singleton];exact OZ.aY fun k hk=>c8.2.block k (OZ.lt k hk).2 (fun e=>tO b7 OZ k hk (Option.some.inj e))
 · have B7:=h.fr.grown az (fun k e=>(h.yM k (.inl e)).imp_left (List.mem_cons_of_mem _))
   exact B7.grown c8.2 (fun k e=>.inl (by rw[←Option.some.inj e]; exact List.mem_cons_self))
 · rcases hk with e | ⟨z,hz,e⟩
   · have:g7=k:=by simpa[Value.ownBlock] using e
     subst this;exact I6 (v:=.slice ah s.2.1.length ch) (fun j hj=>h.yM j (.inl hj)) fl hH h.fr.size
   · rcases List.mem_append.1 hz with e2 | e2
     · exact h.yM k (.inr ⟨z,e2,e⟩)
     · rw[List.mem_singleton.1 e2] at e;exact .inr (UL k e)
theorem Kept.av{g' n' c':Nat}{m':List Pr}(h:Kept N w0 F0 w X am nm cm ah ch vs s hs)(hO:bJ w w0.heap.size g' n' c' m'):
 Kept N w0 F0 (w.setCell ⟨X,0,none⟩ (.slice (some ⟨g',0,none⟩) n' c')) X (some ⟨g',0,none⟩) n' c' ah ch vs (m',s.2.1,s.2.2) hs:=by
 have c8:=bw h.box 0 (.slice (some ⟨g',0,none⟩) n' c');have hm:=ij hO;refine⟨c8.1,hm.bN fun k hk=>c8.2.block k (hm.lt k hk) (fun e=>h.box.ne hm.2.2 (by decide) (by rw[hk,e])),h.held.aY fun k hk=>c8.2.block k (h.held.lt k hk).2 (fun e=>tO h.box h.held k hk (Option.some.inj e)),cG h.seen fun k hk=>c8.2.block k (h.seen.lt k hk).2 (fun e=>h.box.ne h.seen (by decide) (by rw[hk,e])),h.fr.grown c8.2 (fun k e=>.inl (by rw[←Option.some.inj e]; exact List.mem_cons_self)),fun k hk=>?_,h.yM,h.FM,(fun _ e=>by cases e),h.UK⟩
 have:g'=k:=by simpa[Value.ownBlock] using hk
 subst this;exact .inr hO.lt.1
theorem Kept.cut{g' c':Nat}{l':List Rc}{La:List Value}(h:Kept N w0 F0 w X am nm cm ah ch vs s hs)(hO:bm w 0 (.slice (some ⟨g',0,none⟩) l'.length c') l' La)(hg:w0.heap.size≤g')(yh:∀y∈La,y∈hs):
 Kept N w0 F0 (w.setCell ⟨X,1,none⟩ (.slice (some ⟨g',0,none⟩) l'.length c')) X am nm cm (some ⟨g',0,none⟩) c' vs (s.1,l',s.2.2) La:=by
 have c8:=bw h.box 1 (.slice (some ⟨g',0,none⟩) l'.length c');refine⟨c8.1,h.m.bN fun k hk=>c8.2.block k (h.m.lt k hk) (fun e=>h.box.ne h.m.2.2 (by decide) (by rw[hk,e])),hO.aY fun k hk=>c8.2.block k (hO.lt k hk).2 (fun e=>tO h.box hO k hk (Option.some.inj e)),cG h.seen fun k hk=>c8.2.block k (h.seen.lt k hk).2 (fun e=>h.box.ne h.seen (by decide) (by rw[hk,e])),h.fr.grown c8.2 (fun k e=>.inl (by rw[←Option.some.inj e]; exact List.mem_cons_self)),h.Dc,fun k hk=>?_,h.FM,h.Q2,fun _ e=>by cases e⟩
 rcases hk with e | ⟨y,hy,e⟩
 · have:g'=k:=by simpa[Value.ownBlock] using e
   subst this;exact .inr hg
 · exact h.yM k (.inr ⟨y,yh y hy,e⟩)
end
end aZ
end Go.Proofs.YtmibabclefgljaaGreat
