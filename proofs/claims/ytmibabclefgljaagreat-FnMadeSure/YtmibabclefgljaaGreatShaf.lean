/- OrdV PairD OrdK RecP -/
import Derived.Test.YtmibabclefgljaaGreatShae
import Derived.Test.YtmibabclefgljaaGreatShad
import Derived.BigQuiet
set_option linter.unusedVariables false
set_option linter.unusedSimpArgs false
set_option maxRecDepth 100000
set_option maxHeartbeats 4000000
namespace Go.Proofs.YtmibabclefgljaaGreat
namespace aX
open Go Go.RowKit base aE
theorem lz(m:List Pr)(o:Od):(jh m o).length≤m.length+1:=by
 unfold jh
 split
 · exact(gT _ _ _).1
 · split
   · exact Nat.le_trans (List.length_filter_le _ _) (by omega)
   · omega
theorem Db(b off len cap:Nat)(m:List Pr)(a2:Option Addr)(cK eC:Nat)(l:List Od)(w:World)(h:lL w (some ⟨b,off,none⟩) len m)(h2:dS w a2 cK l)(jg:len+cK≤1099511627776):
 Calls Tryz.prog 141 #[.slice (some ⟨b,off,none⟩) len cap,.slice a2 cK eC] w fun e w'=>
  ∃g' n' aY,e=.returned (.slice (some ⟨g',0,none⟩) n' aY)∧bX w' w.heap.size g' n' aY (aQ m l)∧Below w.heap.size w w':=by
 obtain⟨i0,jX,dE,dD,cO⟩:=info_parts nt;have hl:=h.1;have fk:=h.2.2.1;have jA:=h2.1;have wO:=h2.2.2.1;subst hl jA;have bw:Below w.heap.size w (w.alloc (.cells #[] 100)):=(Below.refl _ _).alloc (Nat.le_refl _) _;have HC:=Hid.mk' (da (h.below bw).cells);have wM:=bD m;have FC:0+m.length≤maxLen:=by unfold maxLen; omega
 have jU:(0+m.length) * 32≤140737488355328:=by omega
 have nY:=(cB w w.heap.size (Nat.le_refl _)).2.2;aj Tryz.func141,Tryz.ntmps141;ab (ak; refine wpList_append_own _ rfl (.tmp 7) (.tmp 8) 37 rfl w.heap.size 100 i0 (.agg #[.string ⟨#[]⟩,.string ⟨#[]⟩]) 2 32 Tryz.underlying37 jX dE dD cO rfl (by decide) _ _ _ rfl nY ⟨b,off,none⟩ m.length cap (aG m) rfl wM HC.out (aP _) FC jU (aS _ _ (Nat.le_refl _)) ?_)
 intro v1 w1 aK aI db;have cC:¬v1=.slice none 0 0:=by simpa using db
 obtain⟨g1,CW,hv,gK⟩:=dy rfl fk cC (by simpa[aG] using aK)
 subst hv;have fi:Below w.heap.size w w1:=bw.grown aI (aS _ _ (Nat.le_refl _)) (fun k e=>by simp[Value.ownBlock] at e; omega)
 clear aK aI db cC nY HC wM FC jU bw;ab (ak; fail)
 aN [5,6] (fun v i wr=>∃(k g n cp:Nat),k≤l.length∧n≤m.length+k∧i=.int .i64 (k:Int)∧v=.slice (some ⟨g,0,none⟩) n cp∧bX wr w.heap.size g n cp (aQ m (l.take k))∧Below w.heap.size w wr) (fun _ i _=>l.length - (intOf i).toNat)
 case atStart=>exact⟨0,g1,_,CW,Nat.zero_le _,by omega,rfl,rfl,gK,fi⟩
 case round=>
  clear gK fi;obtain⟨k,g,n,cp,hk,hn,rfl,rfl,hO,hB⟩:=hrel;by_cases bn:k<l.length
  · obtain⟨b2,kP,ha,cZ⟩:=h2.2.2.2 (by omega)
    subst ha;obtain⟨c0,c1,c2⟩:=(h2.below hB).cells k bn;have mH:=wO _ (List.getElem_mem bn);have fZ:(k:Int)<(l.length:Int):=by omega
    have HU:=Hid.mk' (qf m l k bn);have gI:=lz (aQ m (l.take k)) l[k];have OX:bX wr.drew w.heap.size g n cp (aQ m (l.take k)):=hO;have wg:=hO.cases;have Zp:=hO.1;generalize l[k]=p at *;generalize aQ m (l.take k)=u at *;obtain⟨z,key,val⟩:=p;simp only[] at c0 c1 c2 mH;clear cZ;by_cases hz:z=1
    · subst hz;have xG:Hid (aQ m (l.take (k+1))=putKey key val u):=by show _=_; rw[HU.out]; rfl
      have I5:=(gT key val u).1;clear HU gI;ab (ak; fail)
      jM (fun w'=>w'.cell? ⟨b2,kP+k * 3+1,none⟩=some (.string key)∧w'.cell? ⟨b2,kP+k * 3+2,none⟩=some (.string val)) (first | (exact CZ dx (by assumption)) | (L_)) (first | (ao 169; refine(sV g 0 n cp u key val _ OX.sl wg.1 (by omega) mH.2.1 mH.2.2).mono ?_; rintro e w5 ⟨g5,n5,wj,rfl,eD,dx⟩))
      bo
       have ez:Below w.heap.size w w5:=hB.drew.trans (dx.mono hB.size);have kt:=eD.mono (base':=w.heap.size) hB.size;rw[←xG.out] at kt;have I6:n5≤m.length+(k+1):=by have:=eD.1; omega
       have wS:=Hid.mk' kt;clear dx eD kt hO OX hB c0 c1 c2;ab (ak; fail)
       aA
       case rel=>exact⟨k+1,g5,n5,wj,by omega,I6,by aF,rfl,wS.out,ez⟩
       case measure=>simp[intOf]; omega
    · have a_:(z==1)=false:=beq_eq_false_iff_ne.2 hz;by_cases cO:z=2
      · subst cO;have xG:Hid (aQ m (l.take (k+1))=delKey key u):=by show _=_; rw[HU.out]; rfl
        have I5:(delKey key u).length≤u.length:=List.length_filter_le _ _;clear HU gI hz;ab (ak; fail)
        refine(sU g 0 n cp u key _ hO.sl (by omega)).mono ?_
        rintro e w5 ⟨g5,n5,wj,rfl,eD,dx⟩;have ez:Below w.heap.size w w5:=hB.trans (dx.mono hB.size);have kt:=eD.mono (base':=w.heap.size) hB.size;rw[←xG.out] at kt;have I6:n5≤m.length+(k+1):=by have:=eD.1; omega
        have wS:=Hid.mk' kt;clear dx eD kt hO OX hB c0 c1 c2;ab (ak; fail)
        aA
        case rel=>exact⟨k+1,g5,n5,wj,by omega,I6,by aF,rfl,wS.out,ez⟩
        case measure=>simp[intOf]; omega
      · have be:(z==2)=false:=beq_eq_false_iff_ne.2 cO;have xG:Hid (aQ m (l.take (k+1))=u):=by show _=_; rw[HU.out]; unfold jh; rw[if_neg hz,if_neg cO]
        clear HU gI hz cO;ab (ak; fail)
        aA
        case rel=>exact⟨k+1,g,n,cp,by omega,by omega,by aF,rfl,by rw[xG.out]; exact hO,hB⟩
        case measure=>simp[intOf]; omega
  · have HE:Hid (l.take k=l):=List.take_of_length_le (by omega)
    ab (ak; fail)
    an;rw[HE.out] at hO;exact⟨g,n,cp,rfl,hO,hB⟩
theorem jO(w:World)(g c:Nat)(ty:TypeId):(Builtin.append_ #[37,37] ty #[.slice (some ⟨g,0,none⟩) 0 0,.slice none 0 c]).run Tryz.prog w=.ok (.slice (some ⟨g,0,none⟩) 0 0) w:=by aa
theorem uW(cap:Nat)(m:List Pr)(a2:Option Addr)(cK eC:Nat)(l:List Od)(w:World)(hm:m=[])(h2:dS w a2 cK l)(jg:cK≤1099511627776):
 Calls Tryz.prog 141 #[.slice none 0 cap,.slice a2 cK eC] w fun e w'=>
  ∃g' n' aY,e=.returned (.slice (some ⟨g',0,none⟩) n' aY)∧bX w' w.heap.size g' n' aY (aQ m l)∧Below w.heap.size w w':=by
 have jA:=h2.1;have wO:=h2.2.2.1;have xH:m.length=0:=by rw[hm]; rfl
 subst jA;have bw:Below w.heap.size w (w.alloc (.cells #[] 100)):=(Below.refl _ _).alloc (Nat.le_refl _) _;have gK:bX (w.alloc (.cells #[] 100)) w.heap.size w.heap.size 0 0 (aQ m (l.take 0)):=by rw[hm]; exact cB w w.heap.size (Nat.le_refl _)
 have RW:=jO;have HM:=Hid.mk' xH;clear hm xH;aj Tryz.func141,Tryz.ntmps141;ab (ak; fail)
 aN [5,6] (fun v i wr=>∃(k g n cp:Nat),k≤l.length∧n≤m.length+k∧i=.int .i64 (k:Int)∧v=.slice (some ⟨g,0,none⟩) n cp∧bX wr w.heap.size g n cp (aQ m (l.take k))∧Below w.heap.size w wr) (fun _ i _=>l.length - (intOf i).toNat)
 case atStart=>exact⟨0,_,0,0,Nat.zero_le _,Nat.zero_le _,rfl,rfl,gK,bw⟩
 case round=>
  have xH:=HM.out;clear gK bw HM RW;obtain⟨k,g,n,cp,hk,hn,rfl,rfl,hO,hB⟩:=hrel;by_cases bn:k<l.length
  · obtain⟨b2,kP,ha,cZ⟩:=h2.2.2.2 (by omega)
    subst ha;obtain⟨c0,c1,c2⟩:=(h2.below hB).cells k bn;have mH:=wO _ (List.getElem_mem bn);have fZ:(k:Int)<(l.length:Int):=by omega
    have HU:=Hid.mk' (qf m l k bn);have gI:=lz (aQ m (l.take k)) l[k];have OX:bX wr.drew w.heap.size g n cp (aQ m (l.take k)):=hO;have wg:=hO.cases;have Zp:=hO.1;generalize l[k]=p at *;generalize aQ m (l.take k)=u at *;obtain⟨z,key,val⟩:=p;simp only[] at c0 c1 c2 mH;clear cZ;by_cases hz:z=1
    · subst hz;have xG:Hid (aQ m (l.take (k+1))=putKey key val u):=by show _=_; rw[HU.out]; rfl
      have I5:=(gT key val u).1;clear HU gI;ab (ak; fail)
      jM (fun w'=>w'.cell? ⟨b2,kP+k * 3+1,none⟩=some (.string key)∧w'.cell? ⟨b2,kP+k * 3+2,none⟩=some (.string val)) (first | (exact CZ dx (by assumption)) | (L_)) (first | (ao 169; refine(sV g 0 n cp u key val _ OX.sl wg.1 (by omega) mH.2.1 mH.2.2).mono ?_; rintro e w5 ⟨g5,n5,wj,rfl,eD,dx⟩))
      bo
       have ez:Below w.heap.size w w5:=hB.drew.trans (dx.mono hB.size);have kt:=eD.mono (base':=w.heap.size) hB.size;rw[←xG.out] at kt;have I6:n5≤m.length+(k+1):=by have:=eD.1; omega
       have wS:=Hid.mk' kt;clear dx eD kt hO OX hB c0 c1 c2;ab (ak; fail)
       aA
       case rel=>exact⟨k+1,g5,n5,wj,by omega,I6,by aF,rfl,wS.out,ez⟩
       case measure=>simp[intOf]; omega
    · have a_:(z==1)=false:=beq_eq_false_iff_ne.2 hz;by_cases cO:z=2
      · subst cO;have xG:Hid (aQ m (l.take (k+1))=delKey key u):=by show _=_; rw[HU.out]; rfl
        have I5:(delKey key u).length≤u.length:=List.length_filter_le _ _;clear HU gI hz;ab (ak; fail)
        refine(sU g 0 n cp u key _ hO.sl (by omega)).mono ?_
        rintro e w5 ⟨g5,n5,wj,rfl,eD,dx⟩;have ez:Below w.heap.size w w5:=hB.trans (dx.mono hB.size);have kt:=eD.mono (base':=w.heap.size) hB.size;rw[←xG.out] at kt;have I6:n5≤m.length+(k+1):=by have:=eD.1; omega
        have wS:=Hid.mk' kt;clear dx eD kt hO OX hB c0 c1 c2;ab (ak; fail)
        aA
        case rel=>exact⟨k+1,g5,n5,wj,by omega,I6,by aF,rfl,wS.out,ez⟩
        case measure=>simp[intOf]; omega
      · have be:(z==2)=false:=beq_eq_false_iff_ne.2 cO;have xG:Hid (aQ m (l.take (k+1))=u):=by show _=_; rw[HU.out]; unfold jh; rw[if_neg hz,if_neg cO]
        clear HU gI hz cO;ab (ak; fail)
        aA
        case rel=>exact⟨k+1,g,n,cp,by omega,by omega,by aF,rfl,by rw[xG.out]; exact hO,hB⟩
        case measure=>simp[intOf]; omega
  · have HE:Hid (l.take k=l):=List.take_of_length_le (by omega)
    ab (ak; fail)
    an;rw[HE.out] at hO;exact⟨g,n,cp,rfl,hO,hB⟩
theorem s6(a:Option Addr)(len cap:Nat)(m:List Pr)(a2:Option Addr)(cK eC:Nat)(l:List Od)(w:World)(h:lL w a len m)(V9:∀ad,a=some ad→ad.spot=none)(h2:dS w a2 cK l)(jg:len+cK≤1099511627776):
 Calls Tryz.prog 141 #[.slice a len cap,.slice a2 cK eC] w fun e w'=>
  ∃g' n' aY,e=.returned (.slice (some ⟨g',0,none⟩) n' aY)∧bX w' w.heap.size g' n' aY (aQ m l)∧Below w.heap.size w w':=by
 cases a with
 | none=>
  have h0:len=0:=by
   rcases Nat.eq_zero_or_pos len with e | e
   · exact e
   · obtain⟨b,off,ha,_⟩:=h.2.2.2 e; cases ha
  subst h0;exact uW cap m a2 cK eC l w (List.eq_nil_of_length_eq_zero h.1) h2 (by omega)
 | some ad=>
  obtain⟨b,off,sp⟩:=ad;obtain rfl:sp=none:=V9 _ rfl;exact Db b off len cap m a2 cK eC l w h h2 jg
theorem AG(l:List Od)(k:Nat)(h:k<l.length):l.take (k+1)=l.take k++[l[k]]:=List.take_succ_eq_append_getElem h
theorem rf(f:Od→Bool)(l:List Od)(k:Nat)(h:k<l.length):(l.take (k+1)).filter f=(l.take k).filter f++if f l[k] then[l[k]] else[]:=by
 rw[AG l k h,List.filter_append];cases hf:f l[k] <;> simp[List.filter_cons,hf]
theorem s7(w:World)(v1 v2 v3:Value)(t:TypeId):∀j u,[v1,v2,v3][j]? =some u→(w.alloc (.cells #[v1,v2,v3] t)).cell? ((⟨w.heap.size,0,none⟩:Addr).add j)=some u:=by
 intro j u hj;have hl:j<3:=by have:=(List.getElem?_eq_some_iff.1 hj).1; simpa using this
 rw[Addr.add_lit]
 match j,hl with
 | 0,_=>simp at hj; subst hj; simp[go_sem]
 | 1,_=>simp at hj; subst hj; simp[go_sem]
 | 2,_=>simp at hj; subst hj; simp[go_sem]
theorem du(w:World)(p:Od)(t:TypeId):∀j u,(aW [p])[j]? =some u→(w.alloc (.cells #[.int .i64 p.1,.string p.2.1,.string p.2.2] t)).cell? ((⟨w.heap.size,0,none⟩:Addr).add j)=some u:=
 s7 w (.int .i64 p.1) (.string p.2.1) (.string p.2.2) t
theorem iD{w':World}{base n:Nat}{v':Value}{l:List Od}{p:Od}(hl:l.length=n)(hs:∀q∈l,ed q)(hp:ed p)(h0:¬v'=.slice none 0 0)
 (h:w'.ownsRow base 121 3 v' (n+1) (aW l++aW [p])):∃g' aY,v'=.slice (some ⟨g',0,none⟩) (n+1) aY∧ck w' base g' (n+1) aY (l++[p]):=by
 rw[←uC] at h;refine uG (by simp; omega) ?_ h0 h
 intro q hq;rcases List.mem_append.1 hq with h1 | h1
 · exact hs q h1
 · simp at h1; subst h1; exact hp
theorem AH(a:Option Addr)(len cap:Nat)(l:List Od)(s n:Int)(w:World)(h:dS w a len l)(jg:len≤1099511627776)(hn:(Lit.int .i64 n).wf=true)(hs:(Lit.int .i64 s).wf=true):
 Calls Tryz.prog 180 #[.slice a len cap,.int .i64 s,.int .i64 n] w fun e w'=>
  ∃g' n' aY,e=.returned (.slice (some ⟨g',0,none⟩) n' aY)∧ck w' w.heap.size g' n' aY (ec s n l)∧Below w.heap.size w w':=by
 obtain⟨i0,hi,dE,dD,cO⟩:=info_parts sQ;have hl:=h.1;have fk:=h.2.2.1;subst hl;aj Tryz.func180,Tryz.ntmps180;ab (ak; fail)
 aN [7,8] (fun v i wr=>∃(k g n' cp:Nat),k≤l.length∧n'≤k∧i=.int .i64 (k:Int)∧v=.slice (some ⟨g,0,none⟩) n' cp∧ck wr w.heap.size g n' cp (ec s n (l.take k))∧Below w.heap.size w wr) (fun _ i _=>l.length - (intOf i).toNat)
 case atStart=>exact⟨0,w.heap.size,0,0,Nat.zero_le _,Nat.le_refl _,rfl,rfl,l0 w _ (Nat.le_refl _),(Below.refl _ _).alloc (Nat.le_refl _) _⟩
 case round=>
  obtain⟨k,g,m,cp,hk,CU,rfl,rfl,hO,hB⟩:=hrel;have nu:w.heap.size≤wr.heap.size:=hB.size;by_cases bn:k<l.length
  · obtain⟨b,off,ha,_⟩:=h.2.2.2 (by omega)
    subst ha;obtain⟨c0,c1,c2⟩:=(h.below hB).cells k bn;have cF:=rf (fun o=>decide (bA o.2.1 n=s)) l k bn
    have mH:=fk _ (List.getElem_mem bn);have fZ:(k:Int)<(l.length:Int):=by omega
    have wm:=Hid.mk' (re l[k].2.1 n wr mH.2.1 hn);have Ma:=fD l[k].2.1 n;have R4:=uB l[k].2.1 n;by_cases he:bA l[k].2.1 n=s
    · have HF:Hid (ec s n (l.take (k+1))=ec s n (l.take k)++[l[k]]):=by
       show List.filter _ _=List.filter _ _++_;rw[cF]; simp[he]
      have fR:m+1≤maxLen:=by unfold maxLen; omega
      have kn:(m+1) * 40≤140737488355328:=by omega
      rw[he] at wm;generalize l[k]=p at *;clear cF he Ma R4;ab (ak; fail)
      refine wm.out.mono ?_;rintro e w1 ⟨rfl,bL⟩;subst bL;ab (ak; refine wpList_append_own _ rfl _ _ 73 rfl w.heap.size 121 i0 (.agg #[.int .i64 0,.string ⟨#[]⟩,.string ⟨#[]⟩]) 3 40 Tryz.underlying73 hi dE dD cO rfl (by decide) _ _ _ rfl (hO.2.2.alloc _) ⟨w1.heap.size,0,none⟩ 1 1 (aW [p]) rfl rfl (du _ _ _) (bM _) fR kn (aS _ _ nu) ?_)
      intro v2 w2 aK aI db;obtain⟨g2,IH,hv,fS⟩:=iD hO.1 hO.2.1 mH db aK;subst hv;have dL:Below w.heap.size w w2:=(hB.alloc nu _).grown aI (aS _ _ nu) (fun k e=>by simp[Value.ownBlock] at e; have:=hO.lt; omega)
      rw[←HF.out] at fS;have LO:=Hid.mk' fS;clear aK aI db fS hO hB;ab (ak; fail)
      aA
      case rel=>exact⟨k+1,g2,m+1,IH,by omega,by omega,by aF,rfl,LO.out,dL⟩
      case measure=>simp[intOf]; omega
    · have HF:Hid (ec s n (l.take (k+1))=ec s n (l.take k)):=by
       show List.filter _ _=List.filter _ _;rw[cF]; simp[he]
      have hq:(bA l[k].2.1 n==s)=false:=beq_eq_false_iff_ne.2 he;generalize l[k]=p at *;generalize bA p.2.1 n=sh at *;clear cF he;ab (ak; fail)
      refine wm.out.mono ?_;rintro e w1 ⟨rfl,bL⟩;subst bL;ab (ak; fail)
      aA
      case rel=>exact⟨k+1,g,m,cp,by omega,by omega,by aF,rfl,by rw[HF.out]; exact hO,hB⟩
      case measure=>simp[intOf]; omega
  · have HE:Hid (l.take k=l):=List.take_of_length_le (by omega)
    ab (ak; fail)
    an;rw[HE.out] at hO;exact⟨g,m,cp,rfl,hO,hB⟩
end aX
namespace aE
open Go Go.RowKit base
end aE
namespace aX
open Go Go.RowKit base aE
def EJ(m:List Pr)(k v:ByteArray):Bool:=match getKey k m with | none=>decide (v.size=0) | some x=>decide (v.size≠0) && decide (x=v)
theorem Dc(m:List Pr)(z:Int)(k v:ByteArray):EB m (z,k,v)=(decide (z≠3) || EJ m k v):=rfl
theorem AI(b off len cap:Nat)(m:List Pr)(z:Int)(k v:ByteArray)(w:World)(h:lL w (some ⟨b,off,none⟩) len m):
 Calls Tryz.prog 181 #[.slice (some ⟨b,off,none⟩) len cap,.agg #[.int .i64 z,.string k,.string v]] w fun e w'=>e=.returned (.bool (EJ m k v))∧Below w.heap.size w w':=by
 have bw:Below w.heap.size w (w.alloc (.cells #[.int .i64 z,.string k,.string v] 121)):=(Below.refl _ _).alloc (Nat.le_refl _) _;have hG:=AA b off len cap m k _ (h.below bw);unfold EJ;cases hg:getKey k m with
 | none=>
  rw[hg] at hG;simp only[r8] at hG ⊢;have HG:=Hid.mk' hG;clear hG hg;by_cases hv:v.size=0
  · rw[decide_eq_true hv];obtain rfl:=size_empty hv;clear hv;aj Tryz.func181,Tryz.ntmps181;ab fail;refine HG.out.mono ?_;rintro e w1 ⟨rfl,a_⟩;have hc:=sR a_;ab fail;an;exact⟨rfl,bw.trans (a_.mono bw.size)⟩
  · rw[decide_eq_false hv];obtain⟨hq,sL⟩:=j9 hv;clear hv;aj Tryz.func181,Tryz.ntmps181;ab fail;refine HG.out.mono ?_;rintro e w1 ⟨rfl,a_⟩;have hc:=sR a_;ab fail;an;exact⟨rfl,bw.trans (a_.mono bw.size)⟩
 | some x=>
  rw[hg] at hG;simp only[r8] at hG ⊢;have HG:=Hid.mk' hG;clear hG hg;by_cases hv:v.size=0
  · have HF:Hid ((decide (v.size≠0) && decide (x=v))=false):=by show _=_; simp[hv]
    rw[HF.out];clear HF;obtain rfl:=size_empty hv;clear hv;aj Tryz.func181,Tryz.ntmps181;ab fail;refine HG.out.mono ?_;rintro e w1 ⟨rfl,a_⟩;have hc:=sR a_;ab fail;an;exact⟨rfl,bw.trans (a_.mono bw.size)⟩
  · obtain⟨hq,sL⟩:=j9 hv;by_cases hx:x=v
    · have HF:Hid ((decide (v.size≠0) && decide (x=v))=true):=by show _=_; simp[hv,hx]
      rw[HF.out];clear HF hv;subst hx;aj Tryz.func181,Tryz.ntmps181;ab fail;refine HG.out.mono ?_;rintro e w1 ⟨rfl,a_⟩;have hc:=sR a_;ab fail;an;exact⟨rfl,bw.trans (a_.mono bw.size)⟩
    · have HF:Hid ((decide (v.size≠0) && decide (x=v))=false):=by show _=_; simp[hx]
      rw[HF.out];have bh:=ef hx;clear HF hv hx;aj Tryz.func181,Tryz.ntmps181;ab fail;refine HG.out.mono ?_;rintro e w1 ⟨rfl,a_⟩;have hc:=sR a_;ab fail;an;exact⟨rfl,bw.trans (a_.mono bw.size)⟩
theorem Dd(b off len cap:Nat)(m:List Pr)(b2 kP cK eC:Nat)(l:List Od)(w:World)(h:lL w (some ⟨b,off,none⟩) len m)(h2:dS w (some ⟨b2,kP,none⟩) cK l)(jg:len+cK≤1099511627776):
 Calls Tryz.prog 167 #[.slice (some ⟨b,off,none⟩) len cap,.slice (some ⟨b2,kP,none⟩) cK eC] w fun e w'=>e=.returned (.bool (meets m l))∧Below w.heap.size w w':=by
 have hl:=h2.1;subst hl;generalize hR:meets m l=R;have HR:=Hid.mk' hR;clear hR;aj Tryz.func167,Tryz.ntmps167;ab fail;aN [9] (fun i wr=>∃k:Nat,k≤l.length∧i=.int .i64 (k:Int)∧meets m (l.drop k)=R∧Below w.heap.size w wr) (fun i _=>l.length - (intOf i).toNat)
 case atStart=>exact⟨0,Nat.zero_le _,rfl,HR.out,Below.refl _ _⟩
 case round=>
  obtain⟨k,hk,rfl,hr,hB⟩:=hrel;by_cases bn:k<l.length
  · obtain⟨c0,c1,c2⟩:=(h2.below hB).cells k bn;have cF:=uV m l k bn;rw[hr] at cF;have fZ:(k:Int)<(l.length:Int):=by omega
    generalize l[k]=o at *;obtain⟨z,key,val⟩:=o;simp only[] at c0 c1 c2;rw[Dc] at cF;have il:Below w.heap.size w (wr.alloc (.cells #[.int .i64 z,.string key,.string val] 121)):=hB.alloc hB.size _;have hC:=AI b off len cap m z key val _ (h.below il);by_cases hz:z=3
    · subst hz;cases hN:EJ m key val;bo
       rw[hN] at cF hC;have ir:=Hid.mk' cF;have HC:=Hid.mk' hC;clear cF hr hC hN;ab fail;refine HC.out.mono ?_;rintro e w3 ⟨rfl,dI⟩;have cY:Below w.heap.size w w3:=il.trans (dI.mono il.size);clear dI il hB c0 c1 c2;ab fail
      · an;exact⟨au (by rw[ir.out]; rfl),cY⟩
      · aA
        case rel=>exact⟨k+1,by omega,by aF,by rw[ir.out]; simp,cY⟩
        case measure=>simp[intOf]; omega
    · have HF:Hid (meets m (l.drop (k+1))=R):=by show _=_; simp[hz] at cF; exact cF.symm
      have hzz:(z==3)=false:=beq_eq_false_iff_ne.2 hz;clear cF hr hz hC;ab fail;aA
      case rel=>exact⟨k+1,by omega,by aF,HF.out,il⟩
      case measure=>simp[intOf]; omega
  · have HF:Hid (R=true):=by show _=_; rw[←hr,List.drop_eq_nil_of_le (by omega)]; rfl
    clear hr;ab fail;an;exact⟨au HF.out.symm,hB⟩
theorem yZ(key:ByteArray)(n:Int)(w:World)(hs:key.size≤1099511627776)(hn:(Lit.int .i64 n).wf=true):
 Calls Tryz.prog 182 #[.string key,.int .i64 n] w fun e w'=>e=.returned (.int .i64 (bA key n))∧Below w.heap.size w w':=by
 have hH:=lW key.data.toList;have HC:=Hid.mk' (hash.FV key w (by unfold maxLen; omega))
 unfold bA;generalize fG key.data.toList=H at *;by_cases h1:n<1
 · rw[if_pos h1];aj Tryz.func182,Tryz.ntmps182;ab fail;an;exact⟨rfl,Below.refl _ _⟩
 · rw[if_neg h1];have h2:Int.tmod (H:Int) n=(H:Int) % n:=Int.tmod_eq_emod_of_nonneg (by omega)
   have h3:0≤(H:Int) % n:=Int.emod_nonneg _ (by omega)
   have h4:(H:Int) % n≤4294967296:=by
    have h5:=Int.emod_add_ediv_mul (H:Int) n;have h6:0≤(H:Int) / n * n:=Int.mul_nonneg (Int.ediv_nonneg (by omega) (by omega)) (by omega)
    omega
   generalize(H:Int) % n=R at *;aj Tryz.func182,Tryz.ntmps182;ab fail;refine HC.out.mono ?_;rintro e w1 ⟨rfl,a_⟩;ab fail;an;exact⟨rfl,a_⟩
theorem De(b off len cap:Nat)(m:List Pr)(b2 kP cK eC:Nat)(l:List Od)(w:World)(h:lL w (some ⟨b,off,none⟩) len m)(h2:dS w (some ⟨b2,kP,none⟩) cK l)(CV:len≤cap)(jg:len+cK≤1099511627776):
 Calls Tryz.prog 86 #[.slice (some ⟨b,off,none⟩) len cap,.slice (some ⟨b2,kP,none⟩) cK eC] w fun e w'=>
  ∃g' n' aY,e=.returned (.slice (some ⟨g',0,none⟩) n' aY)∧bX w' w.heap.size g' n' aY (aQ m l)∧Below w.heap.size w w':=by
 obtain⟨i0,jX,dE,dD,cO⟩:=info_parts nt;have hl:=h.1;have fk:=h.2.2.1;have jA:=h2.1;have wO:=h2.2.2.1;subst hl jA;have bw:Below w.heap.size w (w.alloc (.cells #[] 100)):=(Below.refl _ _).alloc (Nat.le_refl _) _;have HC:=Hid.mk' (da (h.below bw).cells);have wM:=bD m;have FC:0+m.length≤maxLen:=by unfold maxLen; omega
 have jU:(0+m.length) * 32≤140737488355328:=by omega
 have nY:=(cB w w.heap.size (Nat.le_refl _)).2.2;aj Tryz.func86,Tryz.ntmps86;ab (ak; refine wpList_append_own _ rfl (.tmp 8) (.tmp 9) 37 rfl w.heap.size 100 i0 (.agg #[.string ⟨#[]⟩,.string ⟨#[]⟩]) 2 32 Tryz.underlying37 jX dE dD cO rfl (by decide) _ _ _ rfl nY ⟨b,off,none⟩ m.length cap (aG m) rfl wM HC.out (aP _) FC jU (aS _ _ (Nat.le_refl _)) ?_)
 intro v1 w1 aK aI db;have cC:¬v1=.slice none 0 0:=by simpa using db
 obtain⟨g1,CW,hv,gK⟩:=dy rfl fk cC (by simpa[aG] using aK)
 subst hv;have fi:Below w.heap.size w w1:=bw.grown aI (aS _ _ (Nat.le_refl _)) (fun k e=>by simp[Value.ownBlock] at e; omega)
 clear aK aI db cC nY HC wM FC jU bw;ab (ak; fail)
 aN [5,13] (fun v i wr=>∃(k g n cp:Nat),k≤l.length∧n≤m.length+k∧i=.int .i64 (k:Int)∧v=.slice (some ⟨g,0,none⟩) n cp∧bX wr w.heap.size g n cp (aQ m (l.take k))∧Below w.heap.size w wr) (fun _ i _=>l.length - (intOf i).toNat)
 case atStart=>exact⟨0,g1,_,CW,Nat.zero_le _,by omega,rfl,rfl,gK,fi⟩
 case round=>
  clear gK fi;obtain⟨k,g,n,cp,hk,hn,rfl,rfl,hO,hB⟩:=hrel;by_cases bn:k<l.length
  · obtain⟨c0,c1,c2⟩:=(h2.below hB).cells k bn;have mH:=wO _ (List.getElem_mem bn);have fZ:(k:Int)<(l.length:Int):=by omega
    have HU:=Hid.mk' (qf m l k bn);have gI:=lz (aQ m (l.take k)) l[k];have wg:=hO.cases;have Zp:=hO.1;have il:Below w.heap.size w (wr.alloc (.cells #[.int .i64 l[k].1,.string l[k].2.1,.string l[k].2.2] 121)):=hB.alloc hB.size _;have LI:bX (wr.alloc (.cells #[.int .i64 l[k].1,.string l[k].2.1,.string l[k].2.2] 121)) w.heap.size g n cp (aQ m (l.take k)):=hO.below ((Below.refl _ _).alloc (Nat.le_refl _) _);generalize l[k]=p at *;generalize aQ m (l.take k)=u at *;obtain⟨z,key,val⟩:=p;simp only[] at c0 c1 c2 mH il LI;by_cases hz:z=1
    · subst hz;have xG:Hid (aQ m (l.take (k+1))=putKey key val u):=by show _=_; rw[HU.out]; rfl
      have I5:=(gT key val u).1;have HP:=Hid.mk' (AB g 0 n cp u key val _ LI.sl wg.1 (by omega) mH.2.1 mH.2.2)
      clear HU gI LI hO hB;ab (ak; fail)
      refine HP.out.mono ?_;rintro e w5 ⟨g5,n5,wj,rfl,eD,dx⟩;have ez:Below w.heap.size w w5:=il.trans (dx.mono il.size);have kt:=eD.mono (base':=w.heap.size) il.size;rw[←xG.out] at kt;have I6:n5≤m.length+(k+1):=by have:=eD.1; omega
      have wS:=Hid.mk' kt;clear dx eD kt il c0 c1 c2 HP;ab (ak; fail)
      aA
      case rel=>exact⟨k+1,g5,n5,wj,by omega,I6,by aF,rfl,wS.out,ez⟩
      case measure=>simp[intOf]; omega
    · have a_:(z==1)=false:=beq_eq_false_iff_ne.2 hz;by_cases cO:z=2
      · subst cO;have xG:Hid (aQ m (l.take (k+1))=delKey key u):=by show _=_; rw[HU.out]; rfl
        have I5:(delKey key u).length≤u.length:=List.length_filter_le _ _;have HP:=Hid.mk' (AE g 0 n cp u key _ LI.sl wg.1 (by omega) mH.2.1)
        clear HU gI hz LI hO hB;ab (ak; fail)
        refine HP.out.mono ?_;rintro e w5 ⟨g5,n5,wj,rfl,eD,dx⟩;have ez:Below w.heap.size w w5:=il.trans (dx.mono il.size);have kt:=eD.mono (base':=w.heap.size) il.size;rw[←xG.out] at kt;have I6:n5≤m.length+(k+1):=by have:=eD.1; omega
        have wS:=Hid.mk' kt;clear dx eD kt il c0 c1 c2 HP;ab (ak; fail)
        aA
        case rel=>exact⟨k+1,g5,n5,wj,by omega,I6,by aF,rfl,wS.out,ez⟩
        case measure=>simp[intOf]; omega
      · have be:(z==2)=false:=beq_eq_false_iff_ne.2 cO;have xG:Hid (aQ m (l.take (k+1))=u):=by show _=_; rw[HU.out]; unfold jh; rw[if_neg hz,if_neg cO]
        clear HU gI hz cO hO hB;ab (ak; fail)
        aA
        case rel=>exact⟨k+1,g,n,cp,by omega,by omega,by aF,rfl,by rw[xG.out]; exact LI,il⟩
        case measure=>simp[intOf]; omega
  · have HE:Hid (l.take k=l):=List.take_of_length_le (by omega)
    ab (ak; fail)
    an;rw[HE.out] at hO;exact⟨g,n,cp,rfl,hO,hB⟩
end aX
namespace bm
open Go Go.RowKit base aE aX
open Go.WideMaps (keyOf_string_mk)
def l_(X:Nat)(pv:Value)(B1 B2:Nat)(w:World):Prop:=w.heap[X]? =some (.cells #[pv,.map (some B1),.map (some B2)] 175 (0,0))
section
variable{X B1 B2:Nat}{pv:Value}{w w':World}
theorem l_.cells(h:l_ X pv B1 B2 w):w.cell? ⟨X,0,none⟩=some pv∧w.cell? ⟨X,1,none⟩=some (.map (some B1))∧w.cell? ⟨X,2,none⟩=some (.map (some B2)):=by
 unfold l_ at h;simp[World.cell?,h]
theorem l_.lt(h:l_ X pv B1 B2 w):X<w.heap.size:=(Array.getElem?_eq_some_iff.1 h).1
theorem l_.below(h:l_ X pv B1 B2 w)(hb:Below w.heap.size w w'):l_ X pv B1 B2 w':=(hb.block X h.lt).trans h
theorem l_.grown{row:Option Nat}(h:l_ X pv B1 B2 w)(hg:w.grownBy w' row)(bh:some X≠row):l_ X pv B1 B2 w':=(hg.block X h.lt bh).trans h
theorem l_.fz(h:l_ X pv B1 B2 w)(j:Nat):w.frozen? ⟨X,j,none⟩=false:=by unfold l_ at h; simp[World.frozen?,h]
end
theorem Df{w:World}{B n:Nat}{f:ByteArray→Nat}(h:e_ w B n f){s:ByteArray}(hs:s.size≤maxLen):(Instr.lookup 173 (.map (some B)) (.string s) false).run Tryz.prog w=.ok (.int .i64 (f s:Int)) w:=by
 obtain⟨D,h1,h2,h3⟩:=h;obtain⟨c,dA,fF,_⟩:=h1.lookup_int qm Tryz.underlying173 Tryz.underlying3 (yU w) (keyOf_string_mk Tryz.underlying9 hs);rw[h3 s] at fF;rw[dA,←yV fF]
theorem Dg(X B1 B2 nh:Nat)(pv:Value)(hf:ByteArray→Nat)(a:Option Addr)(len cap:Nat)(l:List Od)(w:World)(hM:l_ X pv B1 B2 w)(hT:e_ w B2 nh hf)(h:dS w a len l):
 Calls Tryz.prog 166 #[.pointer (some ⟨X,0,none⟩),.slice a len cap] w fun e w'=>e=.returned (.bool (l.any fun o=>decide (hf o.2.1≠0)))∧Below w.heap.size w w':=by
 obtain⟨hl,hm,fk,hc⟩:=id h;subst hl;unfold maxLen at hm;generalize hR:(l.any fun o=>decide (hf o.2.1≠0))=R
 have HR:=Hid.mk' hR;clear hR;aj Tryz.func166,Tryz.ntmps166;ab fail;aN [9] (fun i wr=>∃k:Nat,k≤l.length∧i=.int .i64 (k:Int)∧((l.take k).any fun o=>decide (hf o.2.1≠0))=false∧Below w.heap.size w wr) (fun i _=>l.length - (intOf i).toNat)
 case atStart=>exact⟨0,Nat.zero_le _,rfl,rfl,Below.refl _ _⟩
 case round=>
  obtain⟨k,hk,rfl,kO,hB⟩:=hrel;by_cases bn:k<l.length
  · obtain⟨b,off,ha,_⟩:=hc (by omega)
    subst ha;obtain⟨c0,c1,c2⟩:=(h.below hB).cells k bn;have fZ:(k:Int)<(l.length:Int):=by omega
    have dV:=(fk _ (List.getElem_mem bn)).2.1;have cF:((l.take (k+1)).any fun o=>decide (hf o.2.1≠0))=decide (hf l[k].2.1≠0):=by
     rw[List.take_succ_eq_append_getElem bn,List.any_append,kO]; simp
    have nv:Hid (decide (hf l[k].2.1≠0)=true→R=true):=fun e=>by
     rw[←HR.out,List.any_eq_true];exact⟨l[k],List.getElem_mem bn,e⟩
    generalize l[k]=p at *;have bw:Below wr.heap.size wr (wr.alloc (.cells #[.int .i64 p.1,.string p.2.1,.string p.2.2] 121)):=(Below.refl _ _).alloc (Nat.le_refl _) _;have dL:=hB.trans (bw.mono hB.size);have hX:=((hM.below hB).below bw).cells;have LY:=(hT.below hB).below bw;have d1:(wr.alloc (.cells #[.int .i64 p.1,.string p.2.1,.string p.2.2] 121)).cell? ⟨wr.heap.size,1,none⟩=some (.string p.2.1):=by simp
    have yX:∀n,(Instr.lookup 173 (.map (some B2)) (.string p.2.1) false).run Tryz.prog ((wr.alloc (.cells #[.int .i64 p.1,.string p.2.1,.string p.2.2] 121)).drewN n)=.ok (.int .i64 (hf p.2.1:Int)) ((wr.alloc (.cells #[.int .i64 p.1,.string p.2.1,.string p.2.2] 121)).drewN n):=fun n=>Df (LY.below (below_drewN (Below.refl _ _) n)) dV
    obtain⟨x0,x1,x2⟩:=hX;clear fk hc;by_cases hz:hf p.2.1=0
    · have cO:((hf p.2.1:Int)==0)=true:=by rw[hz]; rfl
      ab fail;bE (fail)
      ab fail;aA
      case rel=>exact⟨k+1,by omega,by aF,by rw[cF]; simp[hz],dL.trans (below_drewN (Below.refl _ _) _)⟩
      case measure=>simp[intOf]; omega
    · have cO:((hf p.2.1:Int)==0)=false:=beq_eq_false_iff_ne.2 (by omega)
      have pH:Hid (R=true):=nv.out (decide_eq_true hz);clear nv;ab fail;bE (fail)
      ab fail;an;exact⟨au pH.out.symm,dL.trans (below_drewN (Below.refl _ _) _)⟩
  · have OK:Hid (R=false):=by
     show _=_;rw[←HR.out];oU [List.take_of_length_le (by omega)] at kO
    ab fail;an;exact⟨au OK.out.symm,hB⟩
theorem I7(k t:Int)(a:Option Addr)(n c:Nat)(w:World):(Instr.field 98 (.agg #[.int .i64 k,.int .i64 t,.slice a n c]) 0).run Tryz.prog w=.ok (.int .i64 k) w:=by aa
theorem field2(k t:Int)(a:Option Addr)(n c:Nat)(w:World):(Instr.field 98 (.agg #[.int .i64 k,.int .i64 t,.slice a n c]) 2).run Tryz.prog w=.ok (.slice a n c) w:=by aa
def gd(m:List Pr)(f:Int→Rc)(hf:ByteArray→Nat)(r:Rc):Bool:=bu r &&
 (if r.1=1 then decide ((f r.2.1).1=0) && (!(r.2.2.any fun o=>decide (hf o.2.1≠0)) && meets m r.2.2) else if r.1=2 then decide ((f r.2.1).1=1) else decide ((f r.2.1).1=1) || decide ((f r.2.1).1=0))
theorem OY(X B1 B2 n1 n2 g np cp:Nat)(f:Int→Rc)(hf:ByteArray→Nat)(m:List Pr)(kind tx:Int)(a:Option Addr)(len cap:Nat)(l:List Od)(w0 w:World)
 (hM:l_ X (.slice (some ⟨g,0,none⟩) np cp) B1 B2 w) (hL:gb w0 w B1 n1 f) (hT:e_ w B2 n2 hf) (hP:lL w (some ⟨g,0,none⟩) np m) (Zq:np≤1000) (h:dS w a len l) (dV:∀p∈l,p.2.1.size≤1099511627776):
 Calls Tryz.prog 134 #[.pointer (some ⟨X,0,none⟩),.agg #[.int .i64 kind,.int .i64 tx,.slice a len cap]] w fun e w'=>e=.returned (.bool (gd m f hf (kind,tx,l)))∧Below w.heap.size w w':=by
 obtain⟨W,hW⟩:∃W,W=w.alloc (.cells #[.int .i64 kind,.int .i64 tx,.slice a len cap] 98):=⟨_,rfl⟩;have bw:Below w.heap.size w W:=by rw[hW]; exact(Below.refl _ _).alloc (Nat.le_refl _) _
 have bI:dt w.heap.size kind tx (.slice a len cap) W:=by rw[hW]; exact cG _ _ _ _
 have fl:=Hid.mk' (Da kind tx a len cap l W (h.below bw) dV);have HW:=Hid.mk' hW.symm;clear hW;cases bR:bu (kind,tx,l)
 · rw[bR] at fl;have HF:Hid (gd m f hf (kind,tx,l)=false):=by show _=_; unfold gd; rw[bR]; rfl
   clear bR;aj Tryz.func134,Tryz.ntmps134;ab fail;rw[HW.out];refine fl.out.mono ?_;rintro e w1 ⟨rfl,a_⟩;have fi:=bw.trans (a_.mono bw.size);clear fl HW bI;ab fail;an;exact⟨au HF.out.symm,fi⟩
 · rw[bR] at fl;obtain⟨⟨Hp,Lk⟩,pR⟩:=(bS _).1 bR;simp only[] at Hp Lk pR;have AJ:(Lit.int .i64 tx).wf=true:=WalkArith.wf_i64 (by omega)
   aj Tryz.func134,Tryz.ntmps134;ab fail;rw[HW.out];refine fl.out.mono ?_;rintro e w1 ⟨rfl,a_⟩;have fi:=bw.trans (a_.mono bw.size);have wo:=(hM.below fi);obtain⟨x0,x1,x2⟩:=wo.cells;have dM:=bI.below a_;obtain⟨d0,d1,d2⟩:=dM.cells;obtain⟨la,lm,lc,Q6,y6,AK⟩:=(hL.below fi).look AJ;have hL1:=(hL.below fi);have yX:∀x:last.On w1.heap.size w1,(Instr.lookup 172 (.map (some B1)) (.int .i64 tx) false).run Tryz.prog x.w=.ok (.agg #[.int .i64 (f tx).1,.int .i64 (f tx).2.1,.slice la lm lc]) x.w:=fun x=>AK _ (x.2.block B1 hL1.lt)
   have Q7:=I7;have UP:=wo.lt;have V_:=dM.lt;have y0:=last.On.cell x0 UP;have y1:=last.On.cell x1 UP;have z1:=last.On.cell d1 V_;have br:=last.On.iq w1.heap.size w1;clear fl HW AK;ab fail;refine last.ar w1.heap.size (by aa) (by aa) ?_
   repeat(ai (fail))
   refine wpQuiet_nil ?_;intro w2 j_;obtain⟨AL,j_⟩:=j_;have be:Below w1.heap.size w1 w2:=by rw[j_]; exact AL.2
   clear j_ AL br yX y0 y1 z1 Q7 y6;have dL:=fi.trans (be.mono fi.size);have cv:=dM.below be;have fm:=wo.below be;obtain⟨e0,e1,e2⟩:=cv.cells;have pd:bu (kind,tx,l)=true:=bR;by_cases nL:kind=1
   · subst nL;have OZ:b_ l=true:=by rcases pR with⟨_,h1⟩ | ⟨h1,_⟩; exact h1; omega
     have HF:Hid (gd m f hf (1,tx,l)=(decide ((f tx).1=0) && (!(l.any fun o=>decide (hf o.2.1≠0)) && meets m l))):=by show _=_; unfold gd; rw[pd,if_pos rfl]; rfl
     obtain⟨_,wu,_⟩:=(bG l).1 OZ;have mb:=h.1;obtain⟨ob,oo,VV,_⟩:=h.2.2.2 (by omega)
     subst VV;have br:=last.On.iq w2.heap.size w2;have hsz8:len≤8:=by have:=((bG l).1 OZ).2.2; omega
     have R5:∀x:last.On w2.heap.size w2,Calls Tryz.prog 166 #[.pointer (some ⟨X,0,none⟩),.slice (some ⟨ob,oo,none⟩) len cap] x.w fun e w'=>e=.returned (.bool (l.any fun o=>decide (hf o.2.1≠0)))∧∃y:last.On w2.heap.size w2,w'=y.w:=fun x=>last.Calls.on x (Nat.le_refl _) (Dg X B1 B2 n2 _ hf _ len cap l x.w (fm.below x.2) ((hT.below dL).below x.2) ((h.below dL).below x.2))
     have R6:∀x:last.On w2.heap.size w2,Calls Tryz.prog 167 #[.slice (some ⟨g,0,none⟩) np cp,.slice (some ⟨ob,oo,none⟩) len cap] x.w fun e w'=>e=.returned (.bool (meets m l))∧∃y:last.On w2.heap.size w2,w'=y.w:=fun x=>last.Calls.on x (Nat.le_refl _) (Dd g 0 np cp m ob oo len cap l x.w ((hP.below dL).below x.2) ((h.below dL).below x.2) (by omega))
     obtain⟨q0,q1,q2⟩:=fm.cells;have Wa:=fm.lt;have Wb:=cv.lt;have y0:=last.On.cell q0 Wa;have z2:=last.On.cell e2 Wb;generalize(l.any fun o=>decide (hf o.2.1≠0))=K1 at *
     generalize meets m l=K2 at *;clear pR bR pd OZ wu;by_cases UQ:(f tx).1=0
     · have Wc:((f tx).1==0)=true:=by rw[UQ]; rfl
       rw[decide_eq_true UQ] at HF;cases K1
       · ab fail;refine last.ar w2.heap.size (by aa) (by aa) ?_
         repeat(ai ((first | (ao 166; exact R5 _) | (ao 167; exact R6 _))))
         refine wpQuiet_nil ?_;intro w3 lN;obtain⟨x3,lN⟩:=lN;have dI:Below w2.heap.size w2 w3:=by rw[lN]; exact x3.2
         clear lN x3 br R5 R6 y0 z2;ab fail;an;exact⟨au (by rw[HF.out]; simp),dL.trans (dI.mono dL.size)⟩
       · ab fail;refine last.ar w2.heap.size (by aa) (by aa) ?_
         repeat(ai ((first | (ao 166; exact R5 _) | (ao 167; exact R6 _))))
         refine wpQuiet_nil ?_;intro w3 lN;obtain⟨x3,lN⟩:=lN;have dI:Below w2.heap.size w2 w3:=by rw[lN]; exact x3.2
         clear lN x3 br R5 R6 y0 z2;ab fail;an;exact⟨au (by rw[HF.out]; simp),dL.trans (dI.mono dL.size)⟩
     · have Wc:((f tx).1==0)=false:=beq_eq_false_iff_ne.2 UQ;rw[decide_eq_false UQ] at HF;ab fail;refine last.ar w2.heap.size (by aa) (by aa) ?_
       repeat(ai (fail))
       refine wpQuiet_nil ?_;intro w3 lN;obtain⟨x3,lN⟩:=lN;have dI:Below w2.heap.size w2 w3:=by rw[lN]; exact x3.2
       clear lN x3 br R5 R6 y0 z2;ab fail;an;exact⟨au (by rw[HF.out]; simp),dL.trans (dI.mono dL.size)⟩
   · have R7:(kind==1)=false:=beq_eq_false_iff_ne.2 nL;by_cases iu:kind=2
     · subst iu;have HF:Hid (gd m f hf (2,tx,l)=decide ((f tx).1=1)):=by show _=_; unfold gd; rw[pd,if_neg (show¬((2:Int),tx,l).1=1 by simp),if_pos rfl]; rfl
       clear pR bR pd;ab fail;an;exact⟨au (by rw[HF.out]; rfl),dL⟩
     · have hkb2:(kind==2)=false:=beq_eq_false_iff_ne.2 iu;have HF:Hid (gd m f hf (kind,tx,l)=(decide ((f tx).1=1) || decide ((f tx).1=0))):=by show _=_; unfold gd; rw[pd,if_neg nL,if_neg iu]; rfl
       clear pR bR pd nL iu;by_cases h1:(f tx).1=1
       · have h1b:((f tx).1==1)=true:=by rw[h1]; rfl
         ab fail;an;exact⟨au (by rw[HF.out]; simp[h1]),dL⟩
       · have h1b:((f tx).1==1)=false:=beq_eq_false_iff_ne.2 h1;ab fail;an;exact⟨au (by rw[HF.out,decide_eq_false h1,Bool.false_or]; rfl),dL⟩
end bm
end Go.Proofs.YtmibabclefgljaaGreat
