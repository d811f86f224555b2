/- RecY RowZ OrdX Later StepCall RecZc -/
import Derived.Test.YtmibabclefgljaaGreatShag
import Derived.Test.YtmibabclefgljaaGreatShaa
import Derived.Test.YtmibabclefgljaaGreatShab
import Derived.OwnWalk
import Derived.Test.YtmibabclefgljaaGreatShaf
import Derived.Test.YtmibabclefgljaaGreatShac
import Derived.Deep.RegionHeld
import Derived.Deep.RegionLaw
import Derived.WalkKit
import Derived.WalkSpells
import Derived.WalkLawsBesides
import Derived.Test.YtmibabclefgljaaGreatShad
set_option linter.unusedVariables false
set_option linter.unusedSimpArgs false
set_option maxRecDepth 100000
set_option maxHeartbeats 4000000
namespace Go.Proofs.YtmibabclefgljaaGreat
namespace bm
open Go Go.RowKit base aE aX
def qn(r:Option St):List Pr:=match r with | none=>[] | some s=>s.1
def fb(r:Option St):List Rc:=match r with | none=>[] | some s=>s.2.1
def pg(w:World)(r:Option St)(e:Ending)(w':World):Prop:=
 ∃(g np cp g2 c2:Nat) (hs:List Value),e=.returned (.tuple #[.slice (some ⟨g,0,none⟩) np cp,.slice (some ⟨g2,0,none⟩) (fb r).length c2,.bool r.isSome])∧
  bX w' w.heap.size g np cp (qn r)∧bB w' w.heap.size (.slice (some ⟨g2,0,none⟩) (fb r).length c2) (fb r) hs∧¬dq (.slice (some ⟨g2,0,none⟩) (fb r).length c2) hs g∧Below w.heap.size w w'
def kx(w:World)(a:Option Addr)(n:Nat):Prop:=∀b off,a=some ⟨b,off,none⟩→∀i,i<n→∀pa pl pc,w.cell? ⟨b,off+i * 3+2,none⟩=some (.slice pa pl pc)→Plain pa
theorem mS{w w':World}{r:Option St}(hr:r=none)(hb:Below w.heap.size w w'):pg w r (.returned (.tuple #[.slice (some ⟨w'.heap.size,0,none⟩) 0 0,.slice (some ⟨w'.heap.size+1,0,none⟩) 0 0,.bool false])) ((w'.alloc (.cells #[] 100)).alloc (.cells #[] 98)):=by
 subst hr;have a_:Below w'.heap.size w' (w'.alloc (.cells #[] 100)):=(Below.refl _ _).alloc (Nat.le_refl _) _;have fi:=hb.trans (a_.mono hb.size);have be:=(Below.refl _ (w'.alloc (.cells #[] 100))).alloc (Nat.le_refl _) (.cells #[] 98);have hO:=(cB w' w.heap.size hb.size).below be;have hR:=oY (w'.alloc (.cells #[] 100)) w.heap.size fi.size;rw[show(w'.alloc (.cells #[] 100)).heap.size=w'.heap.size+1 by simp] at hR
 refine⟨w'.heap.size,0,0,w'.heap.size+1,0,[],rfl,hO,hR,?_,fi.trans (be.mono fi.size)⟩;rintro(e | ⟨y,hy,_⟩)
 · simp[Value.ownBlock] at e
 · exact absurd hy List.not_mem_nil
theorem Dl(w:World):Made w ((((w.alloc (.cells #[] 100)).alloc (.map #[] 0)).alloc (.map #[] 0)).alloc (.cells #[.slice (some ⟨w.heap.size,0,none⟩) 0 0,.map (some (w.heap.size+1)),.map (some (w.heap.size+1+1))] 175))
 (w.heap.size+1+1+1) (w.heap.size+1) (w.heap.size+1+1) 0 0 w.heap.size 0 0 (fun _=>(0,0,[])) (fun _=>0) []:=by
 obtain⟨wa,jw⟩:∃wa,wa=w.alloc (.cells #[] 100):=⟨_,rfl⟩;have ba:Below w.heap.size w wa:=by rw[jw]; exact(Below.refl _ _).alloc (Nat.le_refl _) _
 have oa:bX wa w.heap.size w.heap.size 0 0 []:=by rw[jw]; exact cB w _ (Nat.le_refl _)
 have sa:wa.heap.size=w.heap.size+1:=by rw[jw]; simp
 rw[←jw];clear jw;obtain⟨wb,nM⟩:∃wb,wb=wa.alloc (.map #[] 0):=⟨_,rfl⟩;have bb:Below wa.heap.size wa wb:=by rw[nM]; exact(Below.refl _ _).alloc (Nat.le_refl _) _
 have lb:gb w wb wa.heap.size 0 (fun _=>(0,0,[])):=by rw[nM]; exact C9 w wa
 have sb:wb.heap.size=w.heap.size+1+1:=by rw[nM]; simp[sa]
 rw[←nM];clear nM;obtain⟨wc,L2⟩:∃wc,wc=wb.alloc (.map #[] 0):=⟨_,rfl⟩;have bc:Below wb.heap.size wb wc:=by rw[L2]; exact(Below.refl _ _).alloc (Nat.le_refl _) _
 have tc:e_ wc wb.heap.size 0 (fun _=>0):=by rw[L2]; exact uS wb
 have sc:wc.heap.size=w.heap.size+1+1+1:=by rw[L2]; simp[sb]
 rw[←L2];clear L2;have bd:=(Below.refl _ wc).alloc (Nat.le_refl _) (.cells #[.slice (some ⟨w.heap.size,0,none⟩) 0 0,.map (some (w.heap.size+1)),.map (some (w.heap.size+1+1))] 175);have xd:=heap_alloc_new wc (.cells #[.slice (some ⟨w.heap.size,0,none⟩) 0 0,.map (some (w.heap.size+1)),.map (some (w.heap.size+1+1))] 175);rw[sa] at lb;rw[sb] at tc;rw[sc] at xd;have B1:=ba.trans (bb.mono ba.size);have B2:=B1.trans (bc.mono B1.size);exact⟨xd,(lb.below bc).below bd,tc.below bd,((oa.below bb).below bc).below bd,B2.trans (bd.mono B2.size),by omega,by omega,by omega,by omega,by omega,by omega,by omega,by omega,by omega⟩
theorem Rel.eight{pre:List Rc}{s:St}{f:Int→Rc}{hf:ByteArray→Nat}(h:Rel pre s f hf)(tx:Int):(f tx).2.2.length≤8∧((f tx).1=1→(f tx).2.2≠[]):=by
 by_cases e:(f tx).1=1
 · obtain⟨h1,h2⟩:=h.back tx e;obtain⟨_,h3,h4⟩:=h.held _ h1;obtain⟨_,⟨_,h5⟩ | ⟨h5,_⟩⟩:=(bS _).1 h3
   · obtain⟨_,h6,h7⟩:=(bG _).1 h5;exact⟨h7,fun _ e2=>by rw[e2] at h6; simp at h6⟩
   · omega
 · rw[h.bare tx e]; exact⟨by simp,fun e2=>absurd e2 e⟩
theorem AR(a:Option Addr)(len cap:Nat)(l:List Rc)(w:World)(h:rP w a len l)(gI:kx w a len)(jg:len≤1099511627776 / 16)(cT:∀r∈l,r.2.2.length≤1099511627776∧∀p∈r.2.2,p.2.1.size≤1099511627776):
 Calls Tryz.prog 97 #[.slice a len cap] w fun e w'=>pg w (replay l) e w':=by
 obtain⟨hl,hm,fk,hc⟩:=id h;subst hl;unfold maxLen at hm;have OT:= @run_makeMap Tryz.prog;generalize hR:replay l=R;have Sb:Hid (R=bN ([],[],[]) (l.drop 0)):=by show _=_; rw[←hR]; rfl
 clear hR;aj Tryz.func97,Tryz.ntmps97;ab (ak; fail)
 clear OT;aN [14] (fun i wr=>∃(k g np cp n1 n2:Nat) (f:Int→Rc) (hf:ByteArray→Nat) (s:St),k≤l.length∧i=.int .i64 (k:Int)∧Made w wr (w.heap.size+1+1+1) (w.heap.size+1) (w.heap.size+1+1) n1 n2 g np cp f hf s.1∧Rel (l.take k) s f hf∧n1≤k∧n2≤8 * k∧Hid (R=bN s (l.drop k))) (fun i _=>l.length - (intOf i).toNat)
 case atStart=>exact⟨0,_,0,0,0,0,_,_,([],[],[]),Nat.zero_le _,rfl,Dl w,F7,Nat.le_refl _,Nat.le_refl _,Sb⟩
 case round=>
  clear Sb;obtain⟨k,g,np,cp,n1,n2,f,hf,s,hk,rfl,hM,F8,FO,pE,HR⟩:=hrel;have Zq:=hM.own.1;have AS:=F8.jS;by_cases bn:k<l.length
  · obtain⟨b,off,ha,_⟩:=hc (by omega)
    subst ha;have fF:=h.at k bn;obtain⟨Jd,NG,pa,pl,pc,o9,dT,_⟩:=fF;have hpp:Plain pa:=gI b off rfl k bn pa pl pc o9;have nu:=World.block_lt_of_cell? w _ Jd;have c0:=(hM.fp.cell (p:=⟨b,off+k * 3,none⟩) nu).trans Jd;have c1:=(hM.fp.cell (p:=⟨b,off+k * 3+1,none⟩) nu).trans NG;have c2:=(hM.fp.cell (p:=⟨b,off+k * 3+2,none⟩) nu).trans o9;have fZ:(k:Int)<(l.length:Int):=by omega
    obtain⟨pf,dV⟩:=cT _ (List.getElem_mem bn);have cF:=Jc F8 l[k];have HD:Hid (R=match one s l[k] with | none=>none | some t=>bN t (l.drop (k+1))):=by
     show _=_;rw[HR.out,List.drop_eq_getElem_cons bn]; rfl
    have xM:Hid (l.take (k+1)=l.take k++[l[k]]):=List.take_succ_eq_append_getElem bn;have ZA:=F8.eight l[k].2.1;generalize l[k]=r at *;clear Jd NG o9 nu HR;obtain⟨V,hV⟩:∃V,V=wr.alloc (.cells #[.int .i64 r.1,.int .i64 r.2.1,.slice pa pl pc] 98):=⟨_,rfl⟩;have fv:Below wr.heap.size wr V:=by rw[hV]; exact(Below.refl _ _).alloc (Nat.le_refl _) _
    have bI:dt wr.heap.size r.1 r.2.1 (.slice pa pl pc) V:=by rw[hV]; exact cG _ _ _ _
    have wT:=hM.below fv;have HF:=Hid.mk' (OY (w.heap.size+1+1+1) (w.heap.size+1) (w.heap.size+1+1) n1 n2 g np cp f hf s.1 r.1 r.2.1 pa pl pc r.2.2 w V wT.box wT.od wT.rh wT.own.sl (by omega) (dT.below wT.fp) dV)
    have HV:=Hid.mk' hV.symm;clear hV hM fv;have AT:Hid (∀wx,gd s.1 f hf r=true→Below V.heap.size V wx→Calls Tryz.prog 135 #[.pointer (some ⟨w.heap.size+1+1+1,0,none⟩),.agg #[.int .i64 r.1,.int .i64 r.2.1,.slice pa pl pc]] wx fun e w'=>∃g' We LX,e=.returned (.tuple #[])∧Made w w' (w.heap.size+1+1+1) (w.heap.size+1) (w.heap.size+1+1) (n1+1) (n2+pl) g' We LX (gU f r.2.1 r) (uZ f hf r) (pS s.1 f r)):=fun wx jR hx=>by
     have bR:bu r=true:=by
      unfold gd at jR;rw[Bool.and_eq_true] at jR;exact jR.1
     obtain⟨⟨Hp,Lk⟩,pR⟩:=(bS r).1 bR;have hp8:r.2.2.length≤8:=by
      rcases pR with⟨_,h1⟩ | ⟨_,h1⟩
      · exact((bG _).1 h1).2.2
      · rw[h1]; simp
     have Hs:=dT.1;exact O1 (w.heap.size+1+1+1) (w.heap.size+1) (w.heap.size+1+1) n1 n2 g np cp f hf s.1 r.1 r.2.1 pa pl pc r.2.2 w wx (wT.below hx) dT hpp Hp Lk (by omega) (by omega) (by omega) (by omega) ZA.1 (fun e2=>ZA.2 (by
      have:=(AQ F8 r bR).1 jR;rw[if_neg (by omega),if_pos e2] at this
      exact this))
    have Ws:Hid (gd s.1 f hf r=true→pl≤8):=fun jR=>by
     have bR:bu r=true:=by
      unfold gd at jR;rw[Bool.and_eq_true] at jR;exact jR.1
     have Hs:=dT.1;obtain⟨_,⟨_,h1⟩ | ⟨_,h1⟩⟩:=(bS r).1 bR
     · have:=((bG _).1 h1).2.2; omega
     · rw[h1] at Hs; simp at Hs; omega
    rcases cF with⟨t,ho,jR,Hp,sf,NH⟩ | ⟨ho,kO⟩
    · have AU:gd s.1 f hf (r.1,r.2.1,r.2.2)=true:=jR;rw[AU] at HF;have hp8:=Ws.out jR;have Ht:Hid (R=bN t (l.drop (k+1))):=by show _=_; rw[HD.out,ho]
      rw[←xM.out] at NH;clear HD ho xM;ab (ak; fail)
      rw[HV.out];refine HF.out.mono ?_;rintro e w2 ⟨rfl,be⟩;obtain⟨d0,d1,d2⟩:=(bI.below be).cells;have Je:=Hid.mk' (AT.out w2 jR be);clear HF HV c0 c1 c2 AT;ab (ak; fail)
      refine Je.out.mono ?_;rintro e w4 ⟨g4,UU,O7,rfl,Hq⟩;have Cm:=Hq.own.1;rw[←Hp] at Hq Cm;obtain⟨x0,x1,x2⟩:=Hq.box.cells;have hle:¬(60:Int)<(UU:Int):=by omega
      clear Je d0 d1 d2;ab (ak; fail)
      aA
      case rel=>exact⟨k+1,g4,UU,O7,n1+1,n2+pl,_,_,t,by omega,by aF,Hq,NH,by omega,by omega,Ht⟩
      case measure=>simp[intOf]; omega
    · have Ht:Hid (R=none):=by show _=_; rw[HD.out,ho]
      rcases kO with jR | ⟨jR,ls⟩
      · have AU:gd s.1 f hf (r.1,r.2.1,r.2.2)=false:=jR;rw[AU] at HF;clear HD ho xM AT;ab (ak; fail)
        rw[HV.out];refine HF.out.mono ?_;rintro e w2 ⟨rfl,be⟩;have dL:=wT.fp.trans (be.mono wT.fp.size);have HP:=Hid.mk' (mS Ht.out dL);clear HF HV c0 c1 c2;ab (ak; fail)
        y_
        exact HP.out
      · have AU:gd s.1 f hf (r.1,r.2.1,r.2.2)=true:=jR;rw[AU] at HF;clear HD ho xM;ab (ak; fail)
        rw[HV.out];refine HF.out.mono ?_;rintro e w2 ⟨rfl,be⟩;obtain⟨d0,d1,d2⟩:=(bI.below be).cells;have Je:=Hid.mk' (AT.out w2 jR be);clear HF HV c0 c1 c2 AT;ab (ak; fail)
        refine Je.out.mono ?_;rintro e w4 ⟨g4,UU,O7,rfl,Hq⟩;have Cm:=Hq.own.1;obtain⟨x0,x1,x2⟩:=Hq.box.cells;have hle:(60:Int)<(UU:Int):=by omega
        have ZB:=Hq.own.cases;have HP:=Hid.mk' (mS Ht.out Hq.fp);clear Je d0 d1 d2;ab (ak; fail)
        y_
        exact HP.out
  · have HE:Hid (l.take k=l):=List.take_of_length_le (by omega)
    rw[HE.out] at F8;have Ht:Hid (R=some s):=by
     show _=_;rw[HR.out,List.drop_eq_nil_of_le (by omega)]; rfl
    have hex:¬(k:Int)<(l.length:Int):=by omega
    have hSR:=h.below hM.fp;have Sc:=F8.still;have tR:Hid (∀wx,Below wr.heap.size wr wx→Calls Tryz.prog 136 #[.pointer (some ⟨w.heap.size+1+1+1,0,none⟩),.slice a l.length cap] wx fun e w'=>∃g2 c2 hs,e=.returned (.slice (some ⟨g2,0,none⟩) s.2.1.length c2)∧bB w' wx.heap.size (.slice (some ⟨g2,0,none⟩) s.2.1.length c2) s.2.1 hs∧Below wx.heap.size wx w'):=fun wx hx=>by
     have:=I_ (w.heap.size+1+1+1) (w.heap.size+1) (w.heap.size+1+1) n1 _ f a l.length cap l w wx (hM.below hx).box (hM.below hx).od (hSR.below hx) (by omega) (fun r hr=>(cT r hr).1)
     rw[←Sc] at this;exact this
    clear Sc;obtain⟨x0,x1,x2⟩:=hM.box.cells;have Sa:Below wr.heap.size wr wr.drew:=(Below.refl _ _).drew;ab (ak; fail)
    Jf (ao 136; refine(tR.out _ Sa).mono ?_; rintro e w5 ⟨g2,c2,pQ,rfl,eD,dx⟩; have dx:=Sa.trans (dx.mono Sa.size); obtain⟨y0,y1,y2⟩:=(hM.below dx).box.cells)
    bo
     have ku:=hM.below dx;have hg:=hM.own.lt;have HP:Hid (pg w R (.returned (.tuple #[.slice (some ⟨g,0,none⟩) np cp,.slice (some ⟨g2,0,none⟩) s.2.1.length c2,.bool true])) w5):=by
      show pg _ _ _ _;rw[Ht.out];have ZC:bB w5 wr.heap.size (.slice (some ⟨g2,0,none⟩) s.2.1.length c2) s.2.1 pQ:=eD;refine⟨g,np,cp,g2,c2,pQ,rfl,ku.own,ZC.mono hM.fp.size,fun hb=>?_,ku.fp⟩
      have:=(ZC.lt g hb).1;omega
     clear eD tR;ab (ak; fail)
     refine bodyPost_ret (v:=.tuple #[.slice (some ⟨g,0,none⟩) np cp,.slice (some ⟨g2,0,none⟩) s.2.1.length c2,.bool true]) ?_ rfl HP.out;simp[results,Tryz.results97,go_sem]
end bm
namespace aX
open Go Go.RowKit base aE
theorem pT:(Tryz.prog.info? 3).map (fun i=>(i.zero,i.size,i.bytes))=some (some (.int .i64 0),1,8):=by aa
def bg(zs:List Int):List Value:=zs.map fun z=>.int .i64 z
theorem fc(zs:List Int):(bg zs).length=zs.length:=by simp[bg]
theorem og(a b:List Int):bg (a++b)=bg a++bg b:=by simp[bg]
theorem AV(zs:List Int)(k:Nat)(z:Int):(bg zs).set k (.int .i64 z)=bg (zs.set k z):=by simp[bg]
theorem cq(zs:List Int):∀v∈bg zs,v.oneCell'=true:=by
 intro v hv; obtain⟨_,_,rfl⟩:=List.mem_map.1 hv; rfl
def Dm(w:World)(b off:Nat)(zs:List Int):Prop:=∀i (h:i<zs.length),w.cell? ⟨b,off+i,none⟩=some (.int .i64 zs[i])
def tS(w:World)(a:Option Addr)(len:Nat)(zs:List Int):Prop:=
 zs.length=len∧len≤maxLen∧(0<len→∃b off,a=some ⟨b,off,none⟩∧Dm w b off zs)
def dm(w:World)(base g n cap:Nat)(zs:List Int):Prop:=zs.length=n∧w.ownsRow base 3 1 (.slice (some ⟨g,0,none⟩) n cap) n (bg zs)
section
variable{w w':World}{a:Option Addr}{b off len base base' g n cap:Nat}{zs:List Int}{row:Option Nat}
theorem tS.cells(h:tS w (some ⟨b,off,none⟩) len zs):Dm w b off zs:=by
 intro i hi;obtain⟨b',wJ,e,hc⟩:=h.2.2 (by have:=h.1; omega)
 simp only[Option.some.injEq,Addr.mk.injEq,and_true] at e;obtain⟨rfl,rfl⟩:=e;exact hc i hi
theorem tS.below(h:tS w a len zs)(hb:Below w.heap.size w w'):tS w' a len zs:=by
 obtain⟨h1,h2,h3⟩:=h;refine⟨h1,h2,fun h0=>?_⟩
 obtain⟨b,off,rfl,hc⟩:=h3 h0;exact⟨b,off,rfl,fun i hi=>(hb.cell (p:=⟨b,off+i,none⟩) (World.block_lt_of_cell? w _ (hc i hi))).trans (hc i hi)⟩
theorem dm.lt(h:dm w base g n cap zs):base≤g∧g<w.heap.size:=h.2.lt g rfl
theorem dm.cases(h:dm w base g n cap zs):n≤cap∧cap≤maxLen:=by
 rcases h.2.2 with⟨h',_⟩ | ⟨g',aY,cur,h',_,hg,h1,h2,_⟩
 · simp at h'
 · simp only[Value.slice.injEq,Option.some.injEq,Addr.mk.injEq,and_true,true_and] at h';obtain⟨rfl,rfl⟩:=h';exact⟨h1,h2⟩
theorem dm.mono(h:dm w base g n cap zs)(hb:base'≤base):dm w base' g n cap zs:=by
 refine⟨h.1,h.2.1,?_⟩;rcases h.2.2 with h' | ⟨g',aY,cur,h',h0,r⟩
 · exact .inl h'
 · exact .inr ⟨g',aY,cur,h',by omega,r⟩
theorem dm.at(h:dm w base g n cap zs)(i:Nat)(hi:i<zs.length):w.cell? ⟨g,i,none⟩=some (.int .i64 zs[i]):=by
 have hl:=h.1;rw[h.2.cellAt i (by omega)]
 simp[bg,hi]
theorem dm.frozen(h:dm w base g n cap zs)(i:Nat):w.frozen? ⟨g,i,none⟩=false:=h.2.frozenAt i
theorem dm.sl(h:dm w base g n cap zs):tS w (some ⟨g,0,none⟩) n zs:=
 ⟨h.1,by have:=h.cases; omega,fun _=>⟨g,0,rfl,fun i hi=>by rw[Nat.zero_add]; exact h.at i hi⟩⟩
theorem dm.grown(h:dm w base g n cap zs)(hg:w.grownBy w' row)(bh:some g≠row):dm w' base g n cap zs:=⟨h.1,h.2.kept hg (.inr bh)⟩
theorem dm.below(h:dm w base g n cap zs)(hb:Below w.heap.size w w'):dm w' base g n cap zs:=
 ⟨h.1,h.2.kept (row:=none) ⟨hb.os,hb.tape,hb.output,hb.size,fun k hk _=>hb.block k hk⟩ (.inr (by simp[Value.ownBlock]))⟩
theorem Dn(h:Dm w b off zs):∀j v,(bg zs)[j]? =some v→w.cell? ((⟨b,off,none⟩:Addr).add j)=some v:=by
 intro j v hj;have e7:j<zs.length:=by have:=(List.getElem?_eq_some_iff.1 hj).1; oU [fc] at this
 rw[Addr.add_lit,h j e7];simpa[bg,e7] using hj
theorem jl(w:World)(base:Nat)(hb:base≤w.heap.size):dm (w.alloc (.cells #[] 3)) base w.heap.size 0 0 []:=
 ⟨rfl,World.ownsRow_made w #[] 0 hb (Nat.zero_le _) rfl⟩
theorem AW{v':Value}(hl:zs.length=n)(h0:¬v'=.slice none 0 0)(h:w'.ownsRow base 3 1 v' n (bg zs)):
 ∃g' aY,v'=.slice (some ⟨g',0,none⟩) n aY∧dm w' base g' n aY zs:=by
 rcases h.2 with⟨h2,_⟩ | ⟨g',aY,cur,hv,_⟩
 · exact absurd h2 h0
 · subst hv;exact⟨g',aY,rfl,hl,h⟩
theorem u9{v':Value}{z:Int}(hl:zs.length=n)(h0:¬v'=.slice none 0 0)(h:w'.ownsRow base 3 1 v' (n+1) (bg zs++bg [z])):
 ∃g' aY,v'=.slice (some ⟨g',0,none⟩) (n+1) aY∧dm w' base g' (n+1) aY (zs++[z]):=by
 rw[←og] at h;exact AW (by simp; omega) h0 h
theorem mf(h:dm w base g n cap zs)(k:Nat)(z:Int):
 dm (w.setCell ⟨g,k,none⟩ (.int .i64 z)) base g n cap (zs.set k z)∧w.grownBy (w.setCell ⟨g,k,none⟩ (.int .i64 z)) (some g):=by
 have hs:=h.2.stored k (.int .i64 z);rw[AV] at hs;exact⟨⟨by simpa using h.1,hs.1⟩,hs.2⟩
end
theorem eM(w:World)(z:Int)(t:TypeId):∀j u,(bg [z])[j]? =some u→(w.alloc (.cells #[.int .i64 z] t)).cell? ((⟨w.heap.size,0,none⟩:Addr).add j)=some u:=by
 intro j u hj
 match j,hj with
 | 0,hj=>simp[bg] at hj; subst hj; simp[Addr.add]
/-! ### a number put in order -/
theorem uf(zs:List Int)(n:Int)(k:Nat)(ha:tJ zs)(hn:n∉zs)(hk:k≤zs.length)(hd:∀x∈zs.drop k,n<x)(ht:k=0∨∃h:k - 1<zs.length,¬n<zs[k - 1]):fj zs n=zs.take k++n::zs.drop k:=by
 have iV:∀x∈zs.take k,x<n:=by
  intro x hx;rcases ht with rfl | ⟨h1,h2⟩
  · simp at hx
  · obtain⟨i,hi,rfl⟩:=List.getElem_of_mem hx;have Wt:i<k:=by simp at hi; omega
    rw[List.getElem_take];have bh:zs[k - 1]≠n:=fun e=>hn (e ▸ List.getElem_mem h1)
    by_cases e:i=k - 1
    · subst e; omega
    · have:=List.pairwise_iff_getElem.1 ha i (k - 1) (by omega) h1 (by omega)
      omega
 unfold fj;rw[if_neg hn];have e:=List.take_append_drop k zs;have e1:zs.filter (fun x=>decide (x<n))=zs.take k:=by
  conv=>lhs; rw[←e,List.filter_append]
  rw[List.filter_eq_self.2 (fun x hx=>by simpa using iV x hx),List.filter_eq_nil_iff.2 (fun x hx=>by have:=hd x hx; simp; omega),List.append_nil]
 have e2:zs.filter (fun x=>decide (n<x))=zs.drop k:=by
  conv=>lhs; rw[←e,List.filter_append]
  rw[List.filter_eq_nil_iff.2 (fun x hx=>by have:=iV x hx; simp; omega),List.filter_eq_self.2 (fun x hx=>by simpa using hd x hx),List.nil_append]
 rw[e1,e2]
def rQ(zs:List Int)(k:Nat)(x:Int):List Int:=zs.take k++x::zs.drop k
theorem u_(zs:List Int)(k:Nat)(x:Int)(h:k≤zs.length):(rQ zs k x).length=zs.length+1:=by unfold rQ; simp; omega
theorem ph(zs:List Int)(k:Nat)(x y:Int)(h:k≤zs.length):(rQ zs k x).set k y=rQ zs k y:=by
 unfold rQ;rw[List.set_append_right _ _ (by simp; omega),List.length_take_of_le h,Nat.sub_self,List.set_cons_zero]
theorem AX(zs:List Int)(k:Nat)(x:Int)(h0:0<k)(h:k≤zs.length):(rQ zs k x)[k - 1]? =some (zs[k - 1]'(by omega)):=by
 unfold rQ;rw[List.getElem?_append_left (by simp; omega),List.getElem?_take_of_lt (by omega),List.getElem?_eq_getElem (by omega)]
theorem AY(zs:List Int)(k:Nat)(h0:0<k)(h:k≤zs.length):rQ zs k (zs[k - 1]'(by omega))=rQ zs (k - 1) (zs[k - 1]'(by omega)):=by
 unfold rQ;obtain⟨j,rfl⟩:∃j,k=j+1:=⟨k - 1,by omega⟩
 simp only[Nat.add_sub_cancel];rw[List.take_succ_eq_append_getElem (by omega),List.drop_eq_getElem_cons (i:=j) (by omega),List.append_assoc]
 rfl
end aX
namespace aX
open Go Go.RowKit base aE
theorem cX(a:Option Addr)(len cap:Nat)(zs:List Int)(n:Int)(w:World)(h:tS w a len zs):
 Calls Tryz.prog 102 #[.slice a len cap,.int .i64 n] w fun e w'=>e=.returned (.bool (decide (n∈zs)))∧w'=w:=by
 obtain⟨hl,hm,hc⟩:=h;subst hl;unfold maxLen at hm;generalize hR:decide (n∈zs)=R;have HR:=Hid.mk' hR;clear hR;aj Tryz.func102,Tryz.ntmps102;bf;jv [5] (fun i=>∃k:Nat,k≤zs.length∧i=.int .i64 (k:Int)∧decide (n∈zs.drop k)=R) (fun i=>zs.length - (intOf i).toNat)
 case atStart=>exact⟨0,Nat.zero_le _,rfl,HR.out⟩
 case round=>
  obtain⟨k,hk,rfl,hr⟩:=hrel;by_cases bn:k<zs.length
  · obtain⟨b,off,ha,cZ⟩:=hc (by omega)
    subst ha;have c1:=cZ k bn;have fZ:(k:Int)<(zs.length:Int):=by omega
    rw[List.drop_eq_getElem_cons bn] at hr;generalize zs[k]=z at *;by_cases he:z=n
    · have HF:Hid (R=true):=by show _=_; rw[←hr,he]; simp
      subst he;have hq:(z==z)=true:=beq_self_eq_true _;clear hr cZ hc;bf;an;exact⟨au HF.out.symm,rfl⟩
    · have HF:Hid (decide (n∈zs.drop (k+1))=R):=by
       show _=_;rw[←hr];have:¬n=z:=fun e=>he e.symm
       simp[this]
      have hq:(z==n)=false:=beq_eq_false_iff_ne.2 he;clear hr cZ hc he;bf;f_
      case rel=>exact⟨k+1,by omega,by aF,HF.out⟩
      case measure=>simp[intOf]; omega
  · have HF:Hid (R=false):=by show _=_; rw[←hr,List.drop_eq_nil_of_le (by omega)]; simp
    clear hr;bf;an;exact⟨au HF.out.symm,rfl⟩
theorem Dp(base g m cp:Nat)(zs:List Int)(n:Int)(w:World)(h:dm w base g m cp zs)(FM:base≤w.heap.size)(ha:tJ zs)(jg:m≤1099511627776):
 Calls Tryz.prog 143 #[.slice (some ⟨g,0,none⟩) m cp,.int .i64 n] w fun e w'=>
  ∃g' n' aY,e=.returned (.slice (some ⟨g',0,none⟩) n' aY)∧dm w' base g' n' aY (fj zs n)∧Below w.heap.size w w':=by
 obtain⟨i0,jX,dE,dD,cO⟩:=info_parts pT;have hl:=h.1;subst hl;have HH:=Hid.mk' (cX (some ⟨g,0,none⟩) zs.length cp zs n w h.sl);by_cases hn:n∈zs
 · rw[decide_eq_true hn] at HH;have HP:Hid (fj zs n=zs):=by show _=_; unfold fj; rw[if_pos hn]
   clear hn;aj Tryz.func143,Tryz.ntmps143;ab (ak; fail)
   refine HH.out.mono ?_;rintro e w1 ⟨rfl,bL⟩;subst bL;ab (ak; fail)
   an;exact⟨g,_,cp,rfl,by rw[HP.out]; exact h,Below.refl _ _⟩
 · rw[decide_eq_false hn] at HH;have HN:=Hid.mk' hn;clear hn;have bw:Below w.heap.size w (w.alloc (.cells #[] 3)):=(Below.refl _ _).alloc (Nat.le_refl _) _;have HC:=Hid.mk' (Dn (h.sl.below bw).cells);have wM:(bg zs).length=zs.length * 1:=by rw[fc,Nat.mul_one]
   have FC:0+zs.length≤maxLen:=by unfold maxLen; omega
   have jU:(0+zs.length) * 8≤140737488355328:=by omega
   have nY:=(jl w w.heap.size (Nat.le_refl _)).2;aj Tryz.func143,Tryz.ntmps143;ab (ak; fail)
   refine HH.out.mono ?_;rintro e w1 ⟨rfl,bL⟩;subst bL;ab (ak; refine wpList_append_own _ rfl _ _ 54 rfl w1.heap.size 3 i0 (.int .i64 0) 1 8 Tryz.underlying54 jX dE dD cO rfl (by decide) _ _ _ rfl nY ⟨g,0,none⟩ zs.length cp (bg zs) rfl wM HC.out (cq _) FC jU (aS _ _ (Nat.le_refl _)) ?_)
   intro v1 w2 aK aI db;obtain⟨g1,CW,hv,gK⟩:=AW (zs:=zs) rfl (by simpa using db) (by simpa[bg] using aK)
   subst hv;have fi:Below w1.heap.size w1 w2:=bw.grown aI (aS _ _ (Nat.le_refl _)) (fun k e=>by simp[Value.ownBlock] at e; omega)
   have qi:w1.heap.size≤w2.heap.size:=fi.size;have fR:zs.length+1≤maxLen:=by unfold maxLen; omega
   have kn:(zs.length+1) * 8≤140737488355328:=by omega
   clear aK aI db nY HC wM FC jU bw HH;ab (ak; refine wpList_append_own _ rfl _ _ 54 rfl w1.heap.size 3 i0 (.int .i64 0) 1 8 Tryz.underlying54 jX dE dD cO rfl (by decide) _ _ _ rfl (gK.2.alloc _) ⟨w2.heap.size,0,none⟩ 1 1 (bg [n]) rfl rfl (eM _ _ _) (cq _) fR kn (aS _ _ qi) ?_)
   intro v3 w3 aK aI db;obtain⟨g3,yL,hv,ew⟩:=u9 (zs:=zs) rfl db aK;subst hv;have cY:Below w1.heap.size w1 w3:=(fi.alloc qi _).grown aI (aS _ _ qi) (fun k e=>by simp[Value.ownBlock] at e; have:=gK.lt; omega)
   have e0:zs++[n]=rQ zs zs.length n:=by unfold rQ; simp
   rw[e0] at ew;clear aK aI db gK fi e0;ab (ak; fail)
   aN [6] (fun kv wr=>∃(k:Nat) (x:Int),k≤zs.length∧kv=.int .i64 (k:Int)∧(∀y∈zs.drop k,n<y)∧dm wr w1.heap.size g3 (zs.length+1) yL (rQ zs k x)∧Below w1.heap.size w1 wr) (fun kv _=>(intOf kv).toNat)
   case atStart=>exact⟨zs.length,n,Nat.le_refl _,by aF,by simp,ew,cY⟩
   case round=>
    clear ew cY;obtain⟨k,x,hk,rfl,hd,hO,hB⟩:=hrel;have ny:=u_ zs k x hk;by_cases Cn:k=0
    · subst Cn;have HP:Hid (fj zs n=rQ zs 0 n):=uf zs n 0 ha HN.out hk hd (.inl rfl);have Lj:=hO.frozen 0;have fF:=hO.at 0 (by omega)
      have R:=mf hO 0 n;rw[ph zs 0 x n hk,←HP.out] at R;have HR:=Hid.mk' R;have va:=hO.lt;generalize(rQ zs 0 x)[0]=y0 at *;clear R hO hd;ab (ak; fail)
      an;exact⟨g3,_,yL,rfl,HR.out.1.mono FM,hB.trans (fV HR.out.2 va.1 hB.size)⟩
    · obtain⟨j,rfl⟩:∃j,k=j+1:=⟨k - 1,by omega⟩
      have IQ:j<zs.length:=by omega
      have xN:=AX zs (j+1) x (by omega) hk
      simp only[Nat.add_sub_cancel] at xN;have fF:wr.cell? ⟨g3,j,none⟩=some (.int .i64 zs[j]):=by
       have:=hO.at j (by omega)
       rw[this];have e:=List.getElem?_eq_getElem (l:=rQ zs (j+1) x) (i:=j) (by omega)
       rw[e] at xN;rw[Option.some.inj xN]
      have Wu:=hO.at (j+1) (by omega)
      have Lj:=hO.frozen (j+1);have UO:((j+1:Nat):Int) - 1=(j:Int):=by omega
      have e7:((j:Nat):Int)<((zs.length+1:Nat):Int):=by omega
      have O8:((j+1:Nat):Int)<((zs.length+1:Nat):Int):=by omega
      have Wv:(0:Int)<((j+1:Nat):Int):=by omega
      by_cases Ra:n<zs[j]
      · have R:=mf hO (j+1) zs[j];have qV:=AY zs (j+1) (by omega) hk
        simp only[Nat.add_sub_cancel] at qV;rw[ph zs (j+1) x zs[j] hk,qV] at R;have HD:Hid (∀y∈zs.drop j,n<y):=by
         intro y hy;rw[List.drop_eq_getElem_cons IQ] at hy;rcases List.mem_cons.1 hy with rfl | hy
         · exact Ra
         · exact hd y hy
        have HR:=Hid.mk' R;have va:=hO.lt;generalize(rQ zs (j+1) x)[j+1]=y0 at *;generalize zs[j]=zj at *;clear R hO hd xN qV;ab (ak; fail)
        aA
        case rel=>exact⟨j,zj,by omega,by aF,HD.out,HR.out.1,hB.trans (fV HR.out.2 va.1 hB.size)⟩
        case measure=>simp[intOf]
      · have HP:Hid (fj zs n=rQ zs (j+1) n):=uf zs n (j+1) ha HN.out hk hd (.inr ⟨IQ,Ra⟩);have R:=mf hO (j+1) n;rw[ph zs (j+1) x n hk,←HP.out] at R;have HR:=Hid.mk' R;have va:=hO.lt;generalize(rQ zs (j+1) x)[j+1]=y0 at *;generalize zs[j]=zj at *;clear R hO hd xN;ab (ak; fail)
        an;exact⟨g3,_,yL,rfl,HR.out.1.mono FM,hB.trans (fV HR.out.2 va.1 hB.size)⟩
theorem AZ(zs:List Int)(n:Int):(fj zs n).length≤zs.length+1:=by
 unfold fj
 split
 · omega
 · have h1:∀l:List Int,(l.filter fun x=>decide (x<n)).length+(l.filter fun x=>decide (n<x)).length≤l.length:=by
    intro l
    induction l with
    | nil=>simp
    | cons x l ih=>
     simp only[List.filter_cons];by_cases a:x<n
     · have b:¬n<x:=by omega
       simp[a,b]; omega
     · by_cases b:n<x
       · simp[a,b]; omega
       · simp[a,b]; omega
   have:=h1 zs;simp only[List.length_append,List.length_cons];omega
theorem eN(a:Option Addr)(len cap:Nat)(l:List Od)(n:Int)(w:World)(h:dS w a len l)(jg:len≤1099511627776)(hn:(Lit.int .i64 n).wf=true):
 Calls Tryz.prog 101 #[.slice a len cap,.int .i64 n] w fun e w'=>
  ∃g' n' aY,e=.returned (.slice (some ⟨g',0,none⟩) n' aY)∧dm w' w.heap.size g' n' aY (aM n l)∧Below w.heap.size w w':=by
 have hl:=h.1;have fk:=h.2.2.1;subst hl;aj Tryz.func101,Tryz.ntmps101;ab (ak; fail)
 aN [5,6] (fun v i wr=>∃(k g n' cp:Nat),k≤l.length∧n'≤k∧i=.int .i64 (k:Int)∧v=.slice (some ⟨g,0,none⟩) n' cp∧dm wr w.heap.size g n' cp (aM n (l.take k))∧Below w.heap.size w wr) (fun _ i _=>l.length - (intOf i).toNat)
 case atStart=>exact⟨0,w.heap.size,0,0,Nat.zero_le _,Nat.le_refl _,rfl,rfl,jl w _ (Nat.le_refl _),(Below.refl _ _).alloc (Nat.le_refl _) _⟩
 case round=>
  obtain⟨k,g,m,cp,hk,CU,rfl,rfl,hO,hB⟩:=hrel;have nu:w.heap.size≤wr.heap.size:=hB.size;by_cases bn:k<l.length
  · obtain⟨b,off,ha,_⟩:=h.2.2.2 (by omega)
    subst ha;obtain⟨c0,c1,c2⟩:=(h.below hB).cells k bn;have mH:=fk _ (List.getElem_mem bn);have fZ:(k:Int)<(l.length:Int):=by omega
    have HT:=Hid.mk' (Ao n l k bn);have wm:=Hid.mk' (re l[k].2.1 n wr mH.2.1 hn);have pf:=hO.1;have gI:=AZ (aM n (l.take k)) (bA l[k].2.1 n);have HP:=Hid.mk' (Dp w.heap.size g m cp (aM n (l.take k)) (bA l[k].2.1 n) wr hO nu (qg _ _) (by omega))
    generalize l[k]=p at *;generalize bA p.2.1 n=sh at *;generalize aM n (l.take k)=u at *;ab (ak; fail)
    refine wm.out.mono ?_;rintro e w1 ⟨rfl,bL⟩;subst bL;ab (ak; fail)
    refine HP.out.mono ?_;rintro e w2 ⟨g2,n2,IH,rfl,fS,dL⟩;have cY:Below w.heap.size w w2:=hB.trans (dL.mono hB.size);have pE:n2≤k+1:=by have:=fS.1; omega
    rw[←HT.out] at fS;have LO:=Hid.mk' fS;clear fS hO hB dL HP wm HT;ab (ak; fail)
    aA
    case rel=>exact⟨k+1,g2,n2,IH,by omega,pE,by aF,rfl,LO.out,cY⟩
    case measure=>simp[intOf]; omega
  · have HE:Hid (l.take k=l):=List.take_of_length_le (by omega)
    ab (ak; fail)
    an;rw[HE.out] at hO;exact⟨g,m,cp,rfl,hO,hB⟩
end aX
namespace last
open Go Go.RowKit
section
variable{P:Program}{ops:Array Oper}{md:Region.Mode}{Q:Exit→Act→World→Prop}{S:World→Prop}{z:Nat}
def gf(P:Program)(md:Region.Mode)(ops:Array Oper)(Q:Exit→Act→World→Prop)(S:World→Prop)(z:Nat):Nat→Array Bool→Act→World→Prop
 | 0,aH,a,w=>Region.ready md ops aH=[]∧Q .normal a w
 | fuel+1,aH,a,w=>
  (Region.ready md ops aH=[]→Q .normal a w)∧
  ∀i∈Region.ready md ops aH,wpOp P ops Q i (fun a' w'=>(i≠z→S w')∧gf P md ops Q S z fuel (aH.setIfInBounds i true) a' w') a w
theorem oh:∀(fuel:Nat) (aH:Array Bool) (a:Act) (w:World),gf P md ops Q S z fuel aH a w→wpAny P md ops Q fuel aH a w
 | 0,_,_,_,h=>h
 | fuel+1,_,_,_,h=>⟨h.1,fun i hi=>wpOp_mono (fun a' w' h'=>oh fuel _ a' w' h'.2) (h.2 i hi)⟩
theorem za{i:Nat}{oi:Oper}{v:Value}(hi:ops[i]? =some oi)(Av:∀(j:Nat) (o:Oper) cs b,ops[j]? =some o→o.op≠ .select cs b)
 (hQ:∀c a w,Q (.panic c) (a.put oi.dst v) w→Q (.panic c) a w) {oz:Oper} (hz:ops[z]? =some oz) (CX:∃e∈oz.after,Region.binds md e=true∧e.on=i):
 ∀(fuel:Nat) (aH:Array Bool) (a:Act) (w:World),
  (∀j oj,ops[j]? =some oj→j≠i→aH.getD j true=false→(∀e∈oj.after,Region.binds md e=true→e.on≠i)→oi.apart ops oj=true)→
  i∈Region.ready md ops aH→YieldsIf P ops S oi v a→S w→
  gf P md ops Q S z fuel (aH.setIfInBounds i true) (a.put oi.dst v) w→gf P md ops Q S z (fuel+1) aH a w:=by
 have IP:∀ {aH:Array Bool} {j:Nat},i∈Region.ready md ops aH→j∈Region.ready md ops aH→j≠z:=fun hr hj e=>by
  subst e;obtain⟨e,he,hb,heq⟩:=CX;exact ji hr hj hz e he hb heq
 intro fuel
 induction fuel with
 | zero=>
  intro aH a w _ hr hy hS H;refine⟨fun h=>(by rw[h] at hr; cases hr),fun j hj=>?_⟩
  by_cases sW:j=i
  · subst sW; exact hy.wpOp hi hS ⟨fun _=>hS,H⟩
  · have:=ready_mono hj sW;rw[H.1] at this;cases this
 | succ fuel ih=>
  intro aH a w A0 hr hy hS H;refine⟨fun h=>(by rw[h] at hr; cases hr),fun j hj=>?_⟩
  by_cases sW:j=i
  · subst sW; exact hy.wpOp hi hS ⟨fun _=>hS,H⟩
  · have h1:=H.2 j (ready_mono hj sW);obtain⟨Jg,oj,Aw,iT⟩:=mem_ready.1 hj;have Jh:∀e∈oj.after,Region.binds md e=true→e.on≠i:=ji hr hj Aw;have h2:=wpOp_putIf Aw (A0 j oj Aw sW Jg Jh) (fun cs b=>Av i oi cs b hi) (fun cs b=>Av j oj cs b Aw) hQ hy h1
    have Dq:∀k ok,ops[k]? =some ok→k≠i→(aH.setIfInBounds j true).getD k true=false→
     (∀e∈ok.after,Region.binds md e=true→e.on≠i)→oi.apart ops ok=true:=fun k ok hk fZ IN kO=>by
     refine A0 k ok hk fZ ?_ kO;by_cases Q3:j=k
     · subst Q3; exact Jg
     · rw[getD_set_ne true Q3] at IN; exact IN
    have IQ:=IP hr hj;refine wpOp_mono (fun a' w' h3=>⟨h3.2.1,ih (aH.setIfInBounds j true) a' w' Dq (ready_mono hr (Ne.symm sW)) h3.1 (h3.2.1 IQ) ?_⟩) h2
    rw[Array.setIfInBounds_comm _ _ sW];exact h3.2.2
theorem ae{i:Nat}{oi oz:Oper}{v:Value}{fuel:Nat}{aH:Array Bool}{a:Act}{w:World}(hi:ops[i]? =some oi)(hz:ops[z]? =some oz)
 (hs:Region.noSelect ops=true) (hf:Region.free md ops aH i=true) (hr:(Region.ready md ops aH).contains i=true) (hw:waits md oz i=true)
 (hQ:∀c a w,Q (.panic c) (a.put oi.dst v) w→Q (.panic c) a w) (hy:YieldsIf P ops S oi v a) (hS:S w)
 (h:gf P md ops Q S z fuel (aH.setIfInBounds i true) (a.put oi.dst v) w):gf P md ops Q S z (fuel+1) aH a w:=by
 have Hn:∃e∈oz.after,Region.binds md e=true∧e.on=i:=by
  obtain⟨e,he,hb⟩:=Array.any_eq_true'.1 hw;simp only[Bool.and_eq_true,beq_iff_eq] at hb;exact⟨e,he,hb⟩
 exact za hi (Region.noSelect_spec hs) hQ hz Hn fuel aH a w (Region.free_spec hi hf) (by simpa using hr) hy hS h
theorem ax{i:Nat}{o:Oper}{fuel:Nat}{aH:Array Bool}{a:Act}{w:World}(hr:Region.ready md ops aH=[i])(ho:ops[i]? =some o)
 (h:∀K':Act→World→Prop,Shut (∀a w,S w→(S w→gf P md ops Q S z fuel (aH.setIfInBounds i true) a w)→K' a w)→if Region.wanted o (yielded ops a.tmps)=true then Oper.wp P o a w K' Q else K' (a.put o.dst undef) w):
 gf P md ops Q S z (fuel+1) aH a w:=
 by
 refine⟨fun h0=>?_,fun j hj=>?_⟩
 · rw[hr] at h0; cases h0
 · rw[hr] at hj;obtain rfl:=List.mem_singleton.1 hj;exact wpOp_step ho (fun K' hK=>h K' (fun a w hS hW=>hK a w ⟨fun _=>hS,hW hS⟩))
theorem eO{i j:Nat}{o o':Oper}{fuel:Nat}{aH:Array Bool}{a:Act}{w:World}(hr:Region.ready md ops aH=[i,j])(ho:ops[i]? =some o)(VQ:ops[j]? =some o')
 (h:∀K':Act→World→Prop,Shut (∀a w,S w→(S w→gf P md ops Q S z fuel (aH.setIfInBounds i true) a w)→K' a w)→if Region.wanted o (yielded ops a.tmps)=true then Oper.wp P o a w K' Q else K' (a.put o.dst undef) w)
 (h':∀K':Act→World→Prop,Shut (∀a w,S w→(S w→gf P md ops Q S z fuel (aH.setIfInBounds j true) a w)→K' a w)→if Region.wanted o' (yielded ops a.tmps)=true then Oper.wp P o' a w K' Q else K' (a.put o'.dst undef) w):
 gf P md ops Q S z (fuel+1) aH a w:=by
 refine⟨fun h0=>?_,fun k hk=>?_⟩
 · rw[hr] at h0; cases h0
 · rw[hr] at hk;rcases List.mem_cons.1 hk with rfl | hk
   · exact wpOp_step ho (fun K' hK=>h K' (fun a w hS hW=>hK a w ⟨fun _=>hS,hW hS⟩))
   · obtain rfl:=List.mem_singleton.1 hk;exact wpOp_step VQ (fun K' hK=>h' K' (fun a w hS hW=>hK a w ⟨fun _=>hS,hW hS⟩))
theorem aL{o:Oper}{fuel:Nat}{aH:Array Bool}{a:Act}{w:World}(hr:Region.ready md ops aH=[z])(ho:ops[z]? =some o)(hd:Region.ready md ops (aH.setIfInBounds z true)=[])
 (h:∀K':Act→World→Prop,Shut (∀a w,Q .normal a w→K' a w)→if Region.wanted o (yielded ops a.tmps)=true then Oper.wp P o a w K' Q else K' (a.put o.dst undef) w):
 gf P md ops Q S z (fuel+1) aH a w:=
 by
 refine⟨fun h0=>?_,fun j hj=>?_⟩
 · rw[hr] at h0; cases h0
 · rw[hr] at hj;obtain rfl:=List.mem_singleton.1 hj;refine wpOp_step ho (fun K' hK=>h K' (fun a w hq=>hK a w ⟨fun h=>absurd rfl h,?_⟩))
   cases fuel with
   | zero=>exact⟨hd,hq⟩
   | succ k=>exact⟨fun _=>hq,by rw[hd]; simp⟩
theorem aB{id:Nat}{a:Act}{w:World}(z:Nat)(hm:P.follows .mixedOrders=true)(hS:S w.drew)
 (h:S w.drew→gf P .any ops Q S z ops.size (Array.replicate ops.size false) a w.drew):(Code.region id ops true).wp P Q a w:=
 wp_region_any hm (oh _ _ _ _ (h hS))
end
end last
namespace fM
open Go Go.RowKit
end fM
namespace bm
open Go Go.RowKit base aE aX
def gE(X:Nat)(x y z:Value)(w:World):Prop:=w.heap[X]? =some (.cells #[x,y,z] 137 (0,0))
section
variable{X:Nat}{x y z:Value}{w w':World}
theorem gE.cells(h:gE X x y z w):w.cell? ⟨X,0,none⟩=some x∧w.cell? ⟨X,1,none⟩=some y∧w.cell? ⟨X,2,none⟩=some z:=by
 unfold gE at h;simp[World.cell?,h]
theorem gE.lt(h:gE X x y z w):X<w.heap.size:=(Array.getElem?_eq_some_iff.1 h).1
theorem gE.below(h:gE X x y z w)(hb:Below w.heap.size w w'):gE X x y z w':=(hb.block X h.lt).trans h
theorem gE.grown{row:Option Nat}(h:gE X x y z w)(hg:w.grownBy w' row)(bh:some X≠row):gE X x y z w':=(hg.block X h.lt bh).trans h
theorem gE.fz(h:gE X x y z w)(j:Nat):w.frozen? ⟨X,j,none⟩=false:=by unfold gE at h; simp[World.frozen?,h]
theorem gE.ne{b size n:Nat}{e:TypeId}{v:Value}{xs:List Value}(h:gE X x y z w)(h2:w.ownsRow b e size v n xs)(bh:e≠137):some X≠v.ownBlock:=by
 intro hk;rcases h2.2 with⟨rfl,_⟩ | ⟨g,c,cur,rfl,_,hg,_⟩
 · cases hk
 simp only[Value.ownBlock,Option.some.injEq] at hk;unfold gE at h;rw[hk,hg] at h
 injection h with h
 injection h with _ he
 exact bh he
end
def Dr(w:World)(base:Nat)(v:Value)(zs:List Int):Prop:=w.ownsRow base 3 1 v zs.length (bg zs)
section
variable{w w':World}{base:Nat}{v:Value}{zs:List Int}
theorem A1(w:World)(base:Nat):Dr w base (.slice none 0 0) []:=World.ownsRow_nil _ _ _ _
theorem Dr.sl(h:Dr w base v zs):∃a cap,v=.slice a zs.length cap∧tS w a zs.length zs:=by
 rcases h.2 with⟨rfl,h0⟩ | ⟨g,cap,cur,rfl,_,_,h1,h2,_⟩
 · have:zs=[]:=List.eq_nil_of_length_eq_zero h0;subst this;exact⟨none,0,rfl,rfl,Nat.zero_le _,fun h=>absurd h (by simp)⟩
 · exact⟨_,cap,rfl,dm.sl (base:=base) ⟨rfl,h⟩⟩
end
def eG(w:World)(a:Option Addr)(n cap:Nat)(l:List Pr):Prop:=l.length=n∧(∀p∈l,small p)∧w.ownsRow 0 100 2 (.slice a n cap) n (aG l)
section
variable{w w':World}{a:Option Addr}{g n cap base:Nat}{l:List Pr}
theorem F9(w:World):eG w none 0 0 []:=⟨rfl,fun _ h=>absurd h List.not_mem_nil,World.ownsRow_nil _ _ _ _⟩
theorem iF(h:bX w base g n cap l):eG w (some ⟨g,0,none⟩) n cap l:=⟨h.1,h.2.1,(h.mono (base':=0) (Nat.zero_le _)).2.2⟩
theorem eG.shape(h:eG w a n cap l):(a=none∧n=0∧cap=0∧l=[])∨∃g,a=some ⟨g,0,none⟩∧bX w 0 g n cap l:=by
 obtain⟨h1,h2,h3⟩:=h;rcases h3.2 with⟨e,h0⟩ | ⟨g,c,cur,e,_⟩
 · cases e;exact .inl ⟨rfl,rfl,rfl,List.eq_nil_of_length_eq_zero h1⟩
 · cases e;exact .inr ⟨g,rfl,show bX w 0 g n cap l from⟨h1,h2,h3⟩⟩
theorem eG.sl(h:eG w a n cap l):lL w a n l:=by
 rcases h.shape with⟨rfl,rfl,rfl,rfl⟩ | ⟨g,rfl,h⟩
 · exact LS _ _
 · exact bX.sl h
theorem eG.spot(h:eG w a n cap l):∀ad,a=some ad→ad.spot=none:=by
 rcases h.shape with⟨rfl,_⟩ | ⟨g,rfl,_⟩
 · intro ad e; cases e
 · intro ad e; cases e; rfl
theorem eG.lt(h:eG w a n cap l)(k:Nat)(hk:(Value.slice a n cap).ownBlock=some k):k<w.heap.size:=(h.2.2.lt k hk).2
theorem eG.cc(h:eG w a n cap l)(hk:∀k,(Value.slice a n cap).ownBlock=some k→w'.heap[k]? =w.heap[k]?):eG w' a n cap l:=⟨h.1,h.2.1,cV h.2.2 hk⟩
theorem eG.below(h:eG w a n cap l)(hb:Below w.heap.size w w'):eG w' a n cap l:=h.cc fun k hk=>hb.block k (h.lt k hk)
end
structure Kept (N:Prop) (w0:World) (F0:List Nat) (w:World) (X:Nat) (am:Option Addr) (nm cm:Nat) (ah:Option Addr) (ch:Nat) (vs:Value) (s:St) (hs:List Value):Prop where
 box:gE X (.slice am nm cm) (.slice ah s.2.1.length ch) vs w
 m:eG w am nm cm s.1
 held:bB w 0 (.slice ah s.2.1.length ch) s.2.1 hs
 seen:Dr w 0 vs s.2.2
 fr:lay.Frame (X::F0) w0 w
 Ds:∀k,(Value.slice am nm cm).ownBlock=some k→k∈F0∨w0.heap.size≤k
 zb:∀k,dq (.slice ah s.2.1.length ch) hs k→k∈F0∨w0.heap.size≤k
 F_:∀k,vs.ownBlock=some k→k∈F0∨w0.heap.size≤k
 Rb:N→am≠none
 UW:N→ah≠none
section
variable{N:Prop}{w0 w w' w7:World}{F0:List Nat}{X nm cm ch:Nat}{am ah:Option Addr}{vs:Value}{s:St}{hs:List Value}
theorem Kept.below(h:Kept N w0 F0 w X am nm cm ah ch vs s hs)(hb:Below w.heap.size w w'):Kept N w0 F0 w' X am nm cm ah ch vs s hs:=
 ⟨h.box.below hb,h.m.below hb,h.held.below hb,cV h.seen fun k hk=>hb.block k (h.seen.lt k hk).2,h.fr.below hb,h.Ds,h.zb,h.F_,h.Rb,h.UW⟩
theorem Ji{w0 w:World}{F0:List Nat}{v:Value}{g H:Nat}(hn:∀k,v.ownBlock=some k→k∈F0∨w0.heap.size≤k)(fF:v.ownBlock=some g∨g=H)(hH:w.heap.size=H)(hs:w0.heap.size≤w.heap.size):g∈F0∨w0.heap.size≤g:=by
 rcases fF with e | e
 · exact hn g e
 · exact .inr (by omega)
theorem Kept.zc{v:Value}{e:TypeId}{size n:Nat}{xs:List Value}(h:Kept N w0 F0 w X am nm cm ah ch vs s hs)(h2:w.ownsRow 0 e size v n xs)(h1:e≠98)(h3:e≠121)(k:Nat)(hk:dq (.slice ah s.2.1.length ch) hs k):some k≠v.ownBlock:=by
 intro e0;rcases hk with e2 | ⟨y,hy,e2⟩
 · exact gC h.held.row h2 e2 e0.symm (fun e=>h1 e.symm)
 · obtain⟨i,hi,rfl⟩:=List.getElem_of_mem hy;exact gC (h.held.ops i (by have:=h.held.len; omega)).2 h2 e2 e0.symm (fun e=>h3 e.symm)
theorem ug{y:Value}{l:List Rc}(b7:gE X (.slice am nm cm) (.slice ah s.2.1.length ch) y w){v:Value}{hs:List Value}(hh:bB w 0 v l hs)(k:Nat)(hk:dq v hs k):k≠X:=by
 intro e;rcases hk with e2 | ⟨y,hy,e2⟩
 · exact b7.ne hh.row (by decide) (by rw[e2,e])
 · obtain⟨i,hi,rfl⟩:=List.getElem_of_mem hy;exact b7.ne (hh.ops i (by have:=hh.len; omega)).2 (by decide) (by rw[e2,e])
theorem Kept.fo{g7 c7 H:Nat}{z:Int}(h:Kept N w0 F0 w X am nm cm ah ch vs s hs)(aK:w7.ownsRow 0 3 1 (.slice (some ⟨g7,0,none⟩) (s.2.2.length+1) c7) (s.2.2.length+1) (bg s.2.2++bg [z]))(aI:w.grownBy w7 vs.ownBlock)(fF:vs.ownBlock=some g7∨g7=H)(hH:w.heap.size=H):
 gE X (.slice am nm cm) (.slice ah s.2.1.length ch) vs w7∧Kept N w0 F0 (w7.setCell ⟨X,2,none⟩ (.slice (some ⟨g7,0,none⟩) (s.2.2.length+1) c7)) X am nm cm ah ch (.slice (some ⟨g7,0,none⟩) (s.2.2.length+1) c7) (s.1,s.2.1,s.2.2++[z]) hs:=by
 have hX:=h.box.ne h.seen (by decide)
 have b7:=h.box.grown aI hX;have zS:eG w7 am nm cm s.1:=h.m.cc fun k hk=>aI.block k (h.m.lt k hk) (fun e=>gC h.m.2.2 h.seen hk e.symm (by decide))
 have O9:bB w7 0 (.slice ah s.2.1.length ch) s.2.1 hs:=h.held.bl fun k hk=>aI.block k (h.held.lt k hk).2 (h.zc h.seen (by decide) (by decide) k hk)
 have Jj:Dr w7 0 (.slice (some ⟨g7,0,none⟩) (s.2.2.length+1) c7) (s.2.2++[z]):=by unfold Dr; rw[og,List.length_append]; exact aK
 have c8:=bK b7 2 (.slice (some ⟨g7,0,none⟩) (s.2.2.length+1) c7);refine⟨b7,c8.1,zS.cc fun k hk=>c8.2.block k (zS.lt k hk) (fun e=>b7.ne zS.2.2 (by decide) (by rw[hk,e])),O9.bl fun k hk=>c8.2.block k (O9.lt k hk).2 (fun e=>ug b7 O9 k hk (Option.some.inj e)),cV Jj fun k hk=>c8.2.block k (Jj.lt k hk).2 (fun e=>b7.ne Jj (by decide) (by rw[hk,e])),?_,h.Ds,h.zb,fun k hk=>?_,h.Rb,h.UW⟩
 · have B7:=h.fr.grown aI (fun k e=>(h.F_ k e).imp_left (List.mem_cons_of_mem _))
   exact B7.grown c8.2 (fun k e=>.inl (by rw[←Option.some.inj e]; exact List.mem_cons_self))
 · have:g7=k:=by simpa[Value.ownBlock] using hk
   subst this;exact Ji h.F_ fF hH h.fr.size
theorem Kept.hold{g7 c7 H:Nat}{x:Rc}{y:Value}(h:Kept N w0 F0 w X am nm cm ah ch vs s hs)(hP:cS w 0 y x.2.2)(hx:iA x)(hy:∀k,y.ownBlock=some k→¬dq (.slice ah s.2.1.length ch) hs k)(UX:∀k,y.ownBlock=some k→w0.heap.size≤k)
 (aK:w7.ownsRow 0 98 3 (.slice (some ⟨g7,0,none⟩) (s.2.1.length+1) c7) (s.2.1.length+1) (bk s.2.1 hs++[.int .i64 x.1,.int .i64 x.2.1,y])) (aI:w.grownBy w7 (Value.slice ah s.2.1.length ch).ownBlock) (fF:(Value.slice ah s.2.1.length ch).ownBlock=some g7∨g7=H) (hH:w.heap.size=H):
 gE X (.slice am nm cm) (.slice ah s.2.1.length ch) vs w7∧Kept N w0 F0 (w7.setCell ⟨X,1,none⟩ (.slice (some ⟨g7,0,none⟩) (s.2.1.length+1) c7)) X am nm cm (some ⟨g7,0,none⟩) c7 vs (s.1,s.2.1++[x],s.2.2) (hs++[y]):=by
 have hX:=h.box.ne h.held.row (by decide)
 have b7:=h.box.grown aI hX;have zS:eG w7 am nm cm s.1:=h.m.cc fun k hk=>aI.block k (h.m.lt k hk) (fun e=>gC h.m.2.2 h.held.row hk e.symm (by decide))
 have O9:bB w7 0 (.slice (some ⟨g7,0,none⟩) (s.2.1.length+1) c7) (s.2.1++[x]) (hs++[y]):=h.held.snoc hP hx hy aK aI;have Jj:Dr w7 0 vs s.2.2:=cV h.seen fun k hk=>aI.block k (h.seen.lt k hk).2 (fun e=>gC h.seen h.held.row hk e.symm (by decide))
 have c8:=bK b7 1 (.slice (some ⟨g7,0,none⟩) (s.2.1.length+1) c7);refine⟨b7,?_,zS.cc fun k hk=>c8.2.block k (zS.lt k hk) (fun e=>b7.ne zS.2.2 (by decide) (by rw[hk,e])),?_,cV Jj fun k hk=>c8.2.block k (Jj.lt k hk).2 (fun e=>b7.ne Jj (by decide) (by rw[hk,e])),?_,h.Ds,fun k hk=>?_,h.F_,h.Rb,fun _ e=>by cases e⟩
 · have:=c8.1;simp only[List.length_append,List.length_singleton];exact this
 · simp only[List.length_append,List.length_singleton];exact O9.bl fun k hk=>c8.2.block k (O9.lt k hk).2 (fun e=>ug b7 O9 k hk (Option.some.inj e))
 · have B7:=h.fr.grown aI (fun k e=>(h.zb k (.inl e)).imp_left (List.mem_cons_of_mem _))
   exact B7.grown c8.2 (fun k e=>.inl (by rw[←Option.some.inj e]; exact List.mem_cons_self))
 · rcases hk with e | ⟨z,hz,e⟩
   · have:g7=k:=by simpa[Value.ownBlock] using e
     subst this;exact Ji (v:=.slice ah s.2.1.length ch) (fun j hj=>h.zb j (.inl hj)) fF hH h.fr.size
   · rcases List.mem_append.1 hz with e2 | e2
     · exact h.zb k (.inr ⟨z,e2,e⟩)
     · rw[List.mem_singleton.1 e2] at e;exact .inr (UX k e)
theorem Kept.aE{g' n' c':Nat}{m':List Pr}(h:Kept N w0 F0 w X am nm cm ah ch vs s hs)(hO:bX w w0.heap.size g' n' c' m'):
 Kept N w0 F0 (w.setCell ⟨X,0,none⟩ (.slice (some ⟨g',0,none⟩) n' c')) X (some ⟨g',0,none⟩) n' c' ah ch vs (m',s.2.1,s.2.2) hs:=by
 have c8:=bK h.box 0 (.slice (some ⟨g',0,none⟩) n' c');have hm:=iF hO;refine⟨c8.1,hm.cc fun k hk=>c8.2.block k (hm.lt k hk) (fun e=>h.box.ne hm.2.2 (by decide) (by rw[hk,e])),h.held.bl fun k hk=>c8.2.block k (h.held.lt k hk).2 (fun e=>ug h.box h.held k hk (Option.some.inj e)),cV h.seen fun k hk=>c8.2.block k (h.seen.lt k hk).2 (fun e=>h.box.ne h.seen (by decide) (by rw[hk,e])),h.fr.grown c8.2 (fun k e=>.inl (by rw[←Option.some.inj e]; exact List.mem_cons_self)),fun k hk=>?_,h.zb,h.F_,(fun _ e=>by cases e),h.UW⟩
 have:g'=k:=by simpa[Value.ownBlock] using hk
 subst this;exact .inr hO.lt.1
theorem Kept.cut{g' c':Nat}{l':List Rc}{Lm:List Value}(h:Kept N w0 F0 w X am nm cm ah ch vs s hs)(hO:bB w 0 (.slice (some ⟨g',0,none⟩) l'.length c') l' Lm)(hg:w0.heap.size≤g')(yE:∀y∈Lm,y∈hs):
 Kept N w0 F0 (w.setCell ⟨X,1,none⟩ (.slice (some ⟨g',0,none⟩) l'.length c')) X am nm cm (some ⟨g',0,none⟩) c' vs (s.1,l',s.2.2) Lm:=by
 have c8:=bK h.box 1 (.slice (some ⟨g',0,none⟩) l'.length c');refine⟨c8.1,h.m.cc fun k hk=>c8.2.block k (h.m.lt k hk) (fun e=>h.box.ne h.m.2.2 (by decide) (by rw[hk,e])),hO.bl fun k hk=>c8.2.block k (hO.lt k hk).2 (fun e=>ug h.box hO k hk (Option.some.inj e)),cV h.seen fun k hk=>c8.2.block k (h.seen.lt k hk).2 (fun e=>h.box.ne h.seen (by decide) (by rw[hk,e])),h.fr.grown c8.2 (fun k e=>.inl (by rw[←Option.some.inj e]; exact List.mem_cons_self)),h.Ds,fun k hk=>?_,h.F_,h.Rb,fun _ e=>by cases e⟩
 rcases hk with e | ⟨y,hy,e⟩
 · have:g'=k:=by simpa[Value.ownBlock] using e
   subst this;exact .inr hg
 · exact h.zb k (.inr ⟨y,yE y hy,e⟩)
end
end bm
end Go.Proofs.YtmibabclefgljaaGreat
