/- OrdV PairD OrdK RecP -/
import Derived.Test.YtmibabclefgljaaGreatShae
import Derived.Test.YtmibabclefgljaaGreatShad
import Derived.BigQuiet
set_option linter.unusedVariables false
set_option linter.unusedSimpArgs false
set_option maxRecDepth 100000
set_option maxHeartbeats 4000000
namespace Go.Proofs.YtmibabclefgljaaGreat
namespace aN
open Go Go.RowKit base av
theorem kY(m:List Pr)(o:Od):(iP m o).length≤m.length+1:=by
 unfold iP
 split
 · exact(gE _ _ _).1
 · split
   · exact Nat.le_trans (List.length_filter_le _ _) (by omega)
   · omega
theorem CX(b off len cap:Nat)(m:List Pr)(a2:Option Addr)(cn eg:Nat)(l:List Od)(w:World)(h:lq w (some ⟨b,off,none⟩) len m)(h2:dD w a2 cn l)(iO:len+cn≤1099511627776):
 Calls Tryz.prog 141 #[.slice (some ⟨b,off,none⟩) len cap,.slice a2 cn eg] w fun e w'=>
  ∃g' n' aO,e=.returned (.slice (some ⟨g',0,none⟩) n' aO)∧bJ w' w.heap.size g' n' aO (aG m l)∧Below w.heap.size w w':=by
 obtain⟨i0,jG,dm,dk,cA⟩:=info_parts mW;have hl:=h.1;have eW:=h.2.2.1;have jh:=h2.1;have wh:=h2.2.2.1;subst hl jh;have bg:Below w.heap.size w (w.alloc (.cells #[] 100)):=(Below.refl _ _).alloc (Nat.le_refl _) _;have HC:=Hid.mk' (cM (h.below bg).cells);have v_:=bo m;have Fh:0+m.length≤maxLen:=by unfold maxLen; omega
 have jD:(0+m.length) * 32≤140737488355328:=by omega
 have nH:=(bX w w.heap.size (Nat.le_refl _)).2.2;go_enter Tryz.func141,Tryz.ntmps141;go_wp2_with (at_builtin; refine wpList_append_own _ rfl (.tmp 7) (.tmp 8) 37 rfl w.heap.size 100 i0 (.agg #[.string ⟨#[]⟩,.string ⟨#[]⟩]) 2 32 Tryz.underlying37 jG dm dk cA rfl (by decide) _ _ _ rfl nH ⟨b,off,none⟩ m.length cap (aw m) rfl v_ HC.out (aF _) Fh jD (aI _ _ (Nat.le_refl _)) ?_)
 intro v1 w1 aB az cN;have bY:¬v1=.slice none 0 0:=by simpa using cN
 obtain⟨g1,CH,hv,gi⟩:=df rfl eW bY (by simpa[aw] using aB)
 subst hv;have eU:Below w.heap.size w w1:=bg.grown az (aI _ _ (Nat.le_refl _)) (fun k e=>by simp[Value.ownBlock] at e; omega)
 clear aB az cN bY nH HC v_ Fh jD bg;go_wp2_with (at_builtin; fail)
 go_loopw [5,6] (fun v i wr=>∃(k g n cp:Nat),k≤l.length∧n≤m.length+k∧i=.int .i64 (k:Int)∧v=.slice (some ⟨g,0,none⟩) n cp∧bJ wr w.heap.size g n cp (aG m (l.take k))∧Below w.heap.size w wr) (fun _ i _=>l.length - (intOf i).toNat)
 case atStart=>exact⟨0,g1,_,CH,Nat.zero_le _,by omega,rfl,rfl,gi,eU⟩
 case round=>
  clear gi eU;obtain⟨k,g,n,cp,hk,hn,rfl,rfl,hO,hB⟩:=hrel;by_cases a6:k<l.length
  · obtain⟨b2,kx,ha,cK⟩:=h2.2.2.2 (by omega)
    subst ha;obtain⟨c0,c1,c2⟩:=(h2.below hB).cells k a6;have mh:=wh _ (List.getElem_mem a6);have fL:(k:Int)<(l.length:Int):=by omega
    have HU:=Hid.mk' (pQ m l k a6);have gd:=kY (aG m (l.take k)) l[k];have ON:bJ wr.drew w.heap.size g n cp (aG m (l.take k)):=hO;have vK:=hO.cases;have Zc:=hO.1;generalize l[k]=p at *;generalize aG m (l.take k)=u at *;obtain⟨z,key,val⟩:=p;simp only[] at c0 c1 c2 mh;clear cK;by_cases hz:z=1
    · subst hz;have xk:Hid (aG m (l.take (k+1))=putKey key val u):=by show _=_; rw[HU.out]; rfl
      have IU:=(gE key val u).1;clear HU gd;go_wp2_with (at_builtin; fail)
      go_region_held3 (fun w'=>w'.cell? ⟨b2,kx+k * 3+1,none⟩=some (.string key)∧w'.cell? ⟨b2,kx+k * 3+2,none⟩=some (.string val)) (first | (exact CK de (by assumption)) | (go_keep)) (first | (go_at_call 169; refine(sC g 0 n cp u key val _ ON.sl vK.1 (by omega) mh.2.1 mh.2.2).mono ?_; rintro e w5 ⟨g5,n5,vM,rfl,eh,de⟩))
      all_goals
       have ec:Below w.heap.size w w5:=hB.drew.trans (de.mono hB.size);have j5:=eh.mono (base':=w.heap.size) hB.size;rw[←xk.out] at j5;have IV:n5≤m.length+(k+1):=by have:=eh.1; omega
       have wu:=Hid.mk' j5;clear de eh j5 hO ON hB c0 c1 c2;go_wp2_with (at_builtin; fail)
       go_roundw
       case rel=>exact⟨k+1,g5,n5,vM,by omega,IV,by go_num,rfl,wu.out,ec⟩
       case measure=>simp[intOf]; omega
    · have aT:(z==1)=false:=beq_eq_false_iff_ne.2 hz;by_cases cA:z=2
      · subst cA;have xk:Hid (aG m (l.take (k+1))=delKey key u):=by show _=_; rw[HU.out]; rfl
        have IU:(delKey key u).length≤u.length:=List.length_filter_le _ _;clear HU gd hz;go_wp2_with (at_builtin; fail)
        refine(sB g 0 n cp u key _ hO.sl (by omega)).mono ?_
        rintro e w5 ⟨g5,n5,vM,rfl,eh,de⟩;have ec:Below w.heap.size w w5:=hB.trans (de.mono hB.size);have j5:=eh.mono (base':=w.heap.size) hB.size;rw[←xk.out] at j5;have IV:n5≤m.length+(k+1):=by have:=eh.1; omega
        have wu:=Hid.mk' j5;clear de eh j5 hO ON hB c0 c1 c2;go_wp2_with (at_builtin; fail)
        go_roundw
        case rel=>exact⟨k+1,g5,n5,vM,by omega,IV,by go_num,rfl,wu.out,ec⟩
        case measure=>simp[intOf]; omega
      · have aU:(z==2)=false:=beq_eq_false_iff_ne.2 cA;have xk:Hid (aG m (l.take (k+1))=u):=by show _=_; rw[HU.out]; unfold iP; rw[if_neg hz,if_neg cA]
        clear HU gd hz cA;go_wp2_with (at_builtin; fail)
        go_roundw
        case rel=>exact⟨k+1,g,n,cp,by omega,by omega,by go_num,rfl,by rw[xk.out]; exact hO,hB⟩
        case measure=>simp[intOf]; omega
  · have HE:Hid (l.take k=l):=List.take_of_length_le (by omega)
    go_wp2_with (at_builtin; fail)
    go_ret;rw[HE.out] at hO;exact⟨g,n,cp,rfl,hO,hB⟩
theorem jx(w:World)(g c:Nat)(ty:TypeId):(Builtin.append_ #[37,37] ty #[.slice (some ⟨g,0,none⟩) 0 0,.slice none 0 c]).run Tryz.prog w=.ok (.slice (some ⟨g,0,none⟩) 0 0) w:=by kernel_rfl
theorem uD(cap:Nat)(m:List Pr)(a2:Option Addr)(cn eg:Nat)(l:List Od)(w:World)(hm:m=[])(h2:dD w a2 cn l)(iO:cn≤1099511627776):
 Calls Tryz.prog 141 #[.slice none 0 cap,.slice a2 cn eg] w fun e w'=>
  ∃g' n' aO,e=.returned (.slice (some ⟨g',0,none⟩) n' aO)∧bJ w' w.heap.size g' n' aO (aG m l)∧Below w.heap.size w w':=by
 have jh:=h2.1;have wh:=h2.2.2.1;have xl:m.length=0:=by rw[hm]; rfl
 subst jh;have bg:Below w.heap.size w (w.alloc (.cells #[] 100)):=(Below.refl _ _).alloc (Nat.le_refl _) _;have gi:bJ (w.alloc (.cells #[] 100)) w.heap.size w.heap.size 0 0 (aG m (l.take 0)):=by rw[hm]; exact bX w w.heap.size (Nat.le_refl _)
 have RM:=jx;have HM:=Hid.mk' xl;clear hm xl;go_enter Tryz.func141,Tryz.ntmps141;go_wp2_with (at_builtin; fail)
 go_loopw [5,6] (fun v i wr=>∃(k g n cp:Nat),k≤l.length∧n≤m.length+k∧i=.int .i64 (k:Int)∧v=.slice (some ⟨g,0,none⟩) n cp∧bJ wr w.heap.size g n cp (aG m (l.take k))∧Below w.heap.size w wr) (fun _ i _=>l.length - (intOf i).toNat)
 case atStart=>exact⟨0,_,0,0,Nat.zero_le _,Nat.zero_le _,rfl,rfl,gi,bg⟩
 case round=>
  have xl:=HM.out;clear gi bg HM RM;obtain⟨k,g,n,cp,hk,hn,rfl,rfl,hO,hB⟩:=hrel;by_cases a6:k<l.length
  · obtain⟨b2,kx,ha,cK⟩:=h2.2.2.2 (by omega)
    subst ha;obtain⟨c0,c1,c2⟩:=(h2.below hB).cells k a6;have mh:=wh _ (List.getElem_mem a6);have fL:(k:Int)<(l.length:Int):=by omega
    have HU:=Hid.mk' (pQ m l k a6);have gd:=kY (aG m (l.take k)) l[k];have ON:bJ wr.drew w.heap.size g n cp (aG m (l.take k)):=hO;have vK:=hO.cases;have Zc:=hO.1;generalize l[k]=p at *;generalize aG m (l.take k)=u at *;obtain⟨z,key,val⟩:=p;simp only[] at c0 c1 c2 mh;clear cK;by_cases hz:z=1
    · subst hz;have xk:Hid (aG m (l.take (k+1))=putKey key val u):=by show _=_; rw[HU.out]; rfl
      have IU:=(gE key val u).1;clear HU gd;go_wp2_with (at_builtin; fail)
      go_region_held3 (fun w'=>w'.cell? ⟨b2,kx+k * 3+1,none⟩=some (.string key)∧w'.cell? ⟨b2,kx+k * 3+2,none⟩=some (.string val)) (first | (exact CK de (by assumption)) | (go_keep)) (first | (go_at_call 169; refine(sC g 0 n cp u key val _ ON.sl vK.1 (by omega) mh.2.1 mh.2.2).mono ?_; rintro e w5 ⟨g5,n5,vM,rfl,eh,de⟩))
      all_goals
       have ec:Below w.heap.size w w5:=hB.drew.trans (de.mono hB.size);have j5:=eh.mono (base':=w.heap.size) hB.size;rw[←xk.out] at j5;have IV:n5≤m.length+(k+1):=by have:=eh.1; omega
       have wu:=Hid.mk' j5;clear de eh j5 hO ON hB c0 c1 c2;go_wp2_with (at_builtin; fail)
       go_roundw
       case rel=>exact⟨k+1,g5,n5,vM,by omega,IV,by go_num,rfl,wu.out,ec⟩
       case measure=>simp[intOf]; omega
    · have aT:(z==1)=false:=beq_eq_false_iff_ne.2 hz;by_cases cA:z=2
      · subst cA;have xk:Hid (aG m (l.take (k+1))=delKey key u):=by show _=_; rw[HU.out]; rfl
        have IU:(delKey key u).length≤u.length:=List.length_filter_le _ _;clear HU gd hz;go_wp2_with (at_builtin; fail)
        refine(sB g 0 n cp u key _ hO.sl (by omega)).mono ?_
        rintro e w5 ⟨g5,n5,vM,rfl,eh,de⟩;have ec:Below w.heap.size w w5:=hB.trans (de.mono hB.size);have j5:=eh.mono (base':=w.heap.size) hB.size;rw[←xk.out] at j5;have IV:n5≤m.length+(k+1):=by have:=eh.1; omega
        have wu:=Hid.mk' j5;clear de eh j5 hO ON hB c0 c1 c2;go_wp2_with (at_builtin; fail)
        go_roundw
        case rel=>exact⟨k+1,g5,n5,vM,by omega,IV,by go_num,rfl,wu.out,ec⟩
        case measure=>simp[intOf]; omega
      · have aU:(z==2)=false:=beq_eq_false_iff_ne.2 cA;have xk:Hid (aG m (l.take (k+1))=u):=by show _=_; rw[HU.out]; unfold iP; rw[if_neg hz,if_neg cA]
        clear HU gd hz cA;go_wp2_with (at_builtin; fail)
        go_roundw
        case rel=>exact⟨k+1,g,n,cp,by omega,by omega,by go_num,rfl,by rw[xk.out]; exact hO,hB⟩
        case measure=>simp[intOf]; omega
  · have HE:Hid (l.take k=l):=List.take_of_length_le (by omega)
    go_wp2_with (at_builtin; fail)
    go_ret;rw[HE.out] at hO;exact⟨g,n,cp,rfl,hO,hB⟩
theorem sH(a:Option Addr)(len cap:Nat)(m:List Pr)(a2:Option Addr)(cn eg:Nat)(l:List Od)(w:World)(h:lq w a len m)(VP:∀ad,a=some ad→ad.spot=none)(h2:dD w a2 cn l)(iO:len+cn≤1099511627776):
 Calls Tryz.prog 141 #[.slice a len cap,.slice a2 cn eg] w fun e w'=>
  ∃g' n' aO,e=.returned (.slice (some ⟨g',0,none⟩) n' aO)∧bJ w' w.heap.size g' n' aO (aG m l)∧Below w.heap.size w w':=by
 cases a with
 | none=>
  have h0:len=0:=by
   rcases Nat.eq_zero_or_pos len with e | e
   · exact e
   · obtain⟨b,off,ha,_⟩:=h.2.2.2 e; cases ha
  subst h0;exact uD cap m a2 cn eg l w (List.eq_nil_of_length_eq_zero h.1) h2 (by omega)
 | some ad=>
  obtain⟨b,off,sp⟩:=ad;obtain rfl:sp=none:=VP _ rfl;exact CX b off len cap m a2 cn eg l w h h2 iO
theorem Ao(l:List Od)(k:Nat)(h:k<l.length):l.take (k+1)=l.take k++[l[k]]:=List.take_succ_eq_append_getElem h
theorem qM(f:Od→Bool)(l:List Od)(k:Nat)(h:k<l.length):(l.take (k+1)).filter f=(l.take k).filter f++if f l[k] then[l[k]] else[]:=by
 rw[Ao l k h,List.filter_append];cases hf:f l[k] <;> simp[List.filter_cons,hf]
theorem sI(w:World)(v1 v2 v3:Value)(t:TypeId):∀j u,[v1,v2,v3][j]? =some u→(w.alloc (.cells #[v1,v2,v3] t)).cell? ((⟨w.heap.size,0,none⟩:Addr).add j)=some u:=by
 intro j u hj;have hl:j<3:=by have:=(List.getElem?_eq_some_iff.1 hj).1; simpa using this
 rw[Addr.add_lit]
 match j,hl with
 | 0,_=>simp at hj; subst hj; simp[go_sem]
 | 1,_=>simp at hj; subst hj; simp[go_sem]
 | 2,_=>simp at hj; subst hj; simp[go_sem]
theorem db(w:World)(p:Od)(t:TypeId):∀j u,(aM [p])[j]? =some u→(w.alloc (.cells #[.int .i64 p.1,.string p.2.1,.string p.2.2] t)).cell? ((⟨w.heap.size,0,none⟩:Addr).add j)=some u:=
 sI w (.int .i64 p.1) (.string p.2.1) (.string p.2.2) t
theorem ie{w':World}{base n:Nat}{v':Value}{l:List Od}{p:Od}(hl:l.length=n)(hs:∀q∈l,dN q)(hp:dN p)(h0:¬v'=.slice none 0 0)
 (h:w'.ownsRow base 121 3 v' (n+1) (aM l++aM [p])):∃g' aO,v'=.slice (some ⟨g',0,none⟩) (n+1) aO∧bR w' base g' (n+1) aO (l++[p]):=by
 rw[←ud] at h;refine ui (by simp; omega) ?_ h0 h
 intro q hq;rcases List.mem_append.1 hq with h1 | h1
 · exact hs q h1
 · simp at h1; subst h1; exact hp
theorem Ap(a:Option Addr)(len cap:Nat)(l:List Od)(s n:Int)(w:World)(h:dD w a len l)(iO:len≤1099511627776)(hn:(Lit.int .i64 n).wf=true)(hs:(Lit.int .i64 s).wf=true):
 Calls Tryz.prog 180 #[.slice a len cap,.int .i64 s,.int .i64 n] w fun e w'=>
  ∃g' n' aO,e=.returned (.slice (some ⟨g',0,none⟩) n' aO)∧bR w' w.heap.size g' n' aO (dM s n l)∧Below w.heap.size w w':=by
 obtain⟨i0,hi,dm,dk,cA⟩:=info_parts sx;have hl:=h.1;have eW:=h.2.2.1;subst hl;go_enter Tryz.func180,Tryz.ntmps180;go_wp2_with (at_builtin; fail)
 go_loopw [7,8] (fun v i wr=>∃(k g n' cp:Nat),k≤l.length∧n'≤k∧i=.int .i64 (k:Int)∧v=.slice (some ⟨g,0,none⟩) n' cp∧bR wr w.heap.size g n' cp (dM s n (l.take k))∧Below w.heap.size w wr) (fun _ i _=>l.length - (intOf i).toNat)
 case atStart=>exact⟨0,w.heap.size,0,0,Nat.zero_le _,Nat.le_refl _,rfl,rfl,lI w _ (Nat.le_refl _),(Below.refl _ _).alloc (Nat.le_refl _) _⟩
 case round=>
  obtain⟨k,g,m,cp,hk,CF,rfl,rfl,hO,hB⟩:=hrel;have mX:w.heap.size≤wr.heap.size:=hB.size;by_cases a6:k<l.length
  · obtain⟨b,off,ha,_⟩:=h.2.2.2 (by omega)
    subst ha;obtain⟨c0,c1,c2⟩:=(h.below hB).cells k a6;have cc:=qM (fun o=>decide (bl o.2.1 n=s)) l k a6
    have mh:=eW _ (List.getElem_mem a6);have fL:(k:Int)<(l.length:Int):=by omega
    have vN:=Hid.mk' (qL l[k].2.1 n wr mh.2.1 hn);have LZ:=fj l[k].2.1 n;have RU:=uc l[k].2.1 n;by_cases he:bl l[k].2.1 n=s
    · have HF:Hid (dM s n (l.take (k+1))=dM s n (l.take k)++[l[k]]):=by
       show List.filter _ _=List.filter _ _++_;rw[cc]; simp[he]
      have fD:m+1≤maxLen:=by unfold maxLen; omega
      have jX:(m+1) * 40≤140737488355328:=by omega
      rw[he] at vN;generalize l[k]=p at *;clear cc he LZ RU;go_wp2_with (at_builtin; fail)
      refine vN.out.mono ?_;rintro e w1 ⟨rfl,bx⟩;subst bx;go_wp2_with (at_builtin; refine wpList_append_own _ rfl _ _ 73 rfl w.heap.size 121 i0 (.agg #[.int .i64 0,.string ⟨#[]⟩,.string ⟨#[]⟩]) 3 40 Tryz.underlying73 hi dm dk cA rfl (by decide) _ _ _ rfl (hO.2.2.alloc _) ⟨w1.heap.size,0,none⟩ 1 1 (aM [p]) rfl rfl (db _ _ _) (bz _) fD jX (aI _ _ mX) ?_)
      intro v2 w2 aB az cN;obtain⟨g2,Iv,hv,fE⟩:=ie hO.1 hO.2.1 mh cN aB;subst hv;have dw:Below w.heap.size w w2:=(hB.alloc mX _).grown az (aI _ _ mX) (fun k e=>by simp[Value.ownBlock] at e; have:=hO.lt; omega)
      rw[←HF.out] at fE;have LC:=Hid.mk' fE;clear aB az cN fE hO hB;go_wp2_with (at_builtin; fail)
      go_roundw
      case rel=>exact⟨k+1,g2,m+1,Iv,by omega,by omega,by go_num,rfl,LC.out,dw⟩
      case measure=>simp[intOf]; omega
    · have HF:Hid (dM s n (l.take (k+1))=dM s n (l.take k)):=by
       show List.filter _ _=List.filter _ _;rw[cc]; simp[he]
      have hq:(bl l[k].2.1 n==s)=false:=beq_eq_false_iff_ne.2 he;generalize l[k]=p at *;generalize bl p.2.1 n=sh at *;clear cc he;go_wp2_with (at_builtin; fail)
      refine vN.out.mono ?_;rintro e w1 ⟨rfl,bx⟩;subst bx;go_wp2_with (at_builtin; fail)
      go_roundw
      case rel=>exact⟨k+1,g,m,cp,by omega,by omega,by go_num,rfl,by rw[HF.out]; exact hO,hB⟩
      case measure=>simp[intOf]; omega
  · have HE:Hid (l.take k=l):=List.take_of_length_le (by omega)
    go_wp2_with (at_builtin; fail)
    go_ret;rw[HE.out] at hO;exact⟨g,m,cp,rfl,hO,hB⟩
end aN
namespace av
open Go Go.RowKit base
end av
namespace aN
open Go Go.RowKit base av
def Eu(m:List Pr)(k v:ByteArray):Bool:=match getKey k m with | none=>decide (v.size=0) | some x=>decide (v.size≠0) && decide (x=v)
theorem CY(m:List Pr)(z:Int)(k v:ByteArray):El m (z,k,v)=(decide (z≠3) || Eu m k v):=rfl
theorem Aq(b off len cap:Nat)(m:List Pr)(z:Int)(k v:ByteArray)(w:World)(h:lq w (some ⟨b,off,none⟩) len m):
 Calls Tryz.prog 181 #[.slice (some ⟨b,off,none⟩) len cap,.agg #[.int .i64 z,.string k,.string v]] w fun e w'=>e=.returned (.bool (Eu m k v))∧Below w.heap.size w w':=by
 have bg:Below w.heap.size w (w.alloc (.cells #[.int .i64 z,.string k,.string v] 121)):=(Below.refl _ _).alloc (Nat.le_refl _) _;have hG:=Aj b off len cap m k _ (h.below bg);unfold Eu;cases hg:getKey k m with
 | none=>
  rw[hg] at hG;simp only[rI] at hG ⊢;have HG:=Hid.mk' hG;clear hG hg;by_cases hv:v.size=0
  · rw[decide_eq_true hv];obtain rfl:=size_empty hv;clear hv;go_enter Tryz.func181,Tryz.ntmps181;go_wp2_with fail;refine HG.out.mono ?_;rintro e w1 ⟨rfl,aT⟩;have hc:=sy aT;go_wp2_with fail;go_ret;exact⟨rfl,bg.trans (aT.mono bg.size)⟩
  · rw[decide_eq_false hv];obtain⟨hq,sk⟩:=jN hv;clear hv;go_enter Tryz.func181,Tryz.ntmps181;go_wp2_with fail;refine HG.out.mono ?_;rintro e w1 ⟨rfl,aT⟩;have hc:=sy aT;go_wp2_with fail;go_ret;exact⟨rfl,bg.trans (aT.mono bg.size)⟩
 | some x=>
  rw[hg] at hG;simp only[rI] at hG ⊢;have HG:=Hid.mk' hG;clear hG hg;by_cases hv:v.size=0
  · have HF:Hid ((decide (v.size≠0) && decide (x=v))=false):=by show _=_; simp[hv]
    rw[HF.out];clear HF;obtain rfl:=size_empty hv;clear hv;go_enter Tryz.func181,Tryz.ntmps181;go_wp2_with fail;refine HG.out.mono ?_;rintro e w1 ⟨rfl,aT⟩;have hc:=sy aT;go_wp2_with fail;go_ret;exact⟨rfl,bg.trans (aT.mono bg.size)⟩
  · obtain⟨hq,sk⟩:=jN hv;by_cases hx:x=v
    · have HF:Hid ((decide (v.size≠0) && decide (x=v))=true):=by show _=_; simp[hv,hx]
      rw[HF.out];clear HF hv;subst hx;go_enter Tryz.func181,Tryz.ntmps181;go_wp2_with fail;refine HG.out.mono ?_;rintro e w1 ⟨rfl,aT⟩;have hc:=sy aT;go_wp2_with fail;go_ret;exact⟨rfl,bg.trans (aT.mono bg.size)⟩
    · have HF:Hid ((decide (v.size≠0) && decide (x=v))=false):=by show _=_; simp[hx]
      rw[HF.out];have aW:=dP hx;clear HF hv hx;go_enter Tryz.func181,Tryz.ntmps181;go_wp2_with fail;refine HG.out.mono ?_;rintro e w1 ⟨rfl,aT⟩;have hc:=sy aT;go_wp2_with fail;go_ret;exact⟨rfl,bg.trans (aT.mono bg.size)⟩
theorem CZ(b off len cap:Nat)(m:List Pr)(b2 kx cn eg:Nat)(l:List Od)(w:World)(h:lq w (some ⟨b,off,none⟩) len m)(h2:dD w (some ⟨b2,kx,none⟩) cn l)(iO:len+cn≤1099511627776):
 Calls Tryz.prog 167 #[.slice (some ⟨b,off,none⟩) len cap,.slice (some ⟨b2,kx,none⟩) cn eg] w fun e w'=>e=.returned (.bool (meets m l))∧Below w.heap.size w w':=by
 have hl:=h2.1;subst hl;generalize hR:meets m l=R;have HR:=Hid.mk' hR;clear hR;go_enter Tryz.func167,Tryz.ntmps167;go_wp2_with fail;go_loopw [9] (fun i wr=>∃k:Nat,k≤l.length∧i=.int .i64 (k:Int)∧meets m (l.drop k)=R∧Below w.heap.size w wr) (fun i _=>l.length - (intOf i).toNat)
 case atStart=>exact⟨0,Nat.zero_le _,rfl,HR.out,Below.refl _ _⟩
 case round=>
  obtain⟨k,hk,rfl,hr,hB⟩:=hrel;by_cases a6:k<l.length
  · obtain⟨c0,c1,c2⟩:=(h2.below hB).cells k a6;have cc:=uC m l k a6;rw[hr] at cc;have fL:(k:Int)<(l.length:Int):=by omega
    generalize l[k]=o at *;obtain⟨z,key,val⟩:=o;simp only[] at c0 c1 c2;rw[CY] at cc;have gT:Below w.heap.size w (wr.alloc (.cells #[.int .i64 z,.string key,.string val] 121)):=hB.alloc hB.size _;have hC:=Aq b off len cap m z key val _ (h.below gT);by_cases hz:z=3
    · subst hz;cases hN:Eu m key val;all_goals
       rw[hN] at cc hC;have gW:=Hid.mk' cc;have HC:=Hid.mk' hC;clear cc hr hC hN;go_wp2_with fail;refine HC.out.mono ?_;rintro e w3 ⟨rfl,dt⟩;have cJ:Below w.heap.size w w3:=gT.trans (dt.mono gT.size);clear dt gT hB c0 c1 c2;go_wp2_with fail
      · go_ret;exact⟨aj (by rw[gW.out]; rfl),cJ⟩
      · go_roundw
        case rel=>exact⟨k+1,by omega,by go_num,by rw[gW.out]; simp,cJ⟩
        case measure=>simp[intOf]; omega
    · have HF:Hid (meets m (l.drop (k+1))=R):=by show _=_; simp[hz] at cc; exact cc.symm
      have hzz:(z==3)=false:=beq_eq_false_iff_ne.2 hz;clear cc hr hz hC;go_wp2_with fail;go_roundw
      case rel=>exact⟨k+1,by omega,by go_num,HF.out,gT⟩
      case measure=>simp[intOf]; omega
  · have HF:Hid (R=true):=by show _=_; rw[←hr,List.drop_eq_nil_of_le (by omega)]; rfl
    clear hr;go_wp2_with fail;go_ret;exact⟨aj HF.out.symm,hB⟩
theorem yH(key:ByteArray)(n:Int)(w:World)(hs:key.size≤1099511627776)(hn:(Lit.int .i64 n).wf=true):
 Calls Tryz.prog 182 #[.string key,.int .i64 n] w fun e w'=>e=.returned (.int .i64 (bl key n))∧Below w.heap.size w w':=by
 have hH:=lE key.data.toList;have HC:=Hid.mk' (hash.Fy key w (by unfold maxLen; omega))
 unfold bl;generalize fm key.data.toList=H at *;by_cases h1:n<1
 · rw[if_pos h1];go_enter Tryz.func182,Tryz.ntmps182;go_wp2_with fail;go_ret;exact⟨rfl,Below.refl _ _⟩
 · rw[if_neg h1];have h2:Int.tmod (H:Int) n=(H:Int) % n:=Int.tmod_eq_emod_of_nonneg (by omega)
   have h3:0≤(H:Int) % n:=Int.emod_nonneg _ (by omega)
   have h4:(H:Int) % n≤4294967296:=by
    have h5:=Int.emod_add_ediv_mul (H:Int) n;have h6:0≤(H:Int) / n * n:=Int.mul_nonneg (Int.ediv_nonneg (by omega) (by omega)) (by omega)
    omega
   generalize(H:Int) % n=R at *;go_enter Tryz.func182,Tryz.ntmps182;go_wp2_with fail;refine HC.out.mono ?_;rintro e w1 ⟨rfl,aT⟩;go_wp2_with fail;go_ret;exact⟨rfl,aT⟩
theorem C0(b off len cap:Nat)(m:List Pr)(b2 kx cn eg:Nat)(l:List Od)(w:World)(h:lq w (some ⟨b,off,none⟩) len m)(h2:dD w (some ⟨b2,kx,none⟩) cn l)(CG:len≤cap)(iO:len+cn≤1099511627776):
 Calls Tryz.prog 86 #[.slice (some ⟨b,off,none⟩) len cap,.slice (some ⟨b2,kx,none⟩) cn eg] w fun e w'=>
  ∃g' n' aO,e=.returned (.slice (some ⟨g',0,none⟩) n' aO)∧bJ w' w.heap.size g' n' aO (aG m l)∧Below w.heap.size w w':=by
 obtain⟨i0,jG,dm,dk,cA⟩:=info_parts mW;have hl:=h.1;have eW:=h.2.2.1;have jh:=h2.1;have wh:=h2.2.2.1;subst hl jh;have bg:Below w.heap.size w (w.alloc (.cells #[] 100)):=(Below.refl _ _).alloc (Nat.le_refl _) _;have HC:=Hid.mk' (cM (h.below bg).cells);have v_:=bo m;have Fh:0+m.length≤maxLen:=by unfold maxLen; omega
 have jD:(0+m.length) * 32≤140737488355328:=by omega
 have nH:=(bX w w.heap.size (Nat.le_refl _)).2.2;go_enter Tryz.func86,Tryz.ntmps86;go_wp2_with (at_builtin; refine wpList_append_own _ rfl (.tmp 8) (.tmp 9) 37 rfl w.heap.size 100 i0 (.agg #[.string ⟨#[]⟩,.string ⟨#[]⟩]) 2 32 Tryz.underlying37 jG dm dk cA rfl (by decide) _ _ _ rfl nH ⟨b,off,none⟩ m.length cap (aw m) rfl v_ HC.out (aF _) Fh jD (aI _ _ (Nat.le_refl _)) ?_)
 intro v1 w1 aB az cN;have bY:¬v1=.slice none 0 0:=by simpa using cN
 obtain⟨g1,CH,hv,gi⟩:=df rfl eW bY (by simpa[aw] using aB)
 subst hv;have eU:Below w.heap.size w w1:=bg.grown az (aI _ _ (Nat.le_refl _)) (fun k e=>by simp[Value.ownBlock] at e; omega)
 clear aB az cN bY nH HC v_ Fh jD bg;go_wp2_with (at_builtin; fail)
 go_loopw [5,13] (fun v i wr=>∃(k g n cp:Nat),k≤l.length∧n≤m.length+k∧i=.int .i64 (k:Int)∧v=.slice (some ⟨g,0,none⟩) n cp∧bJ wr w.heap.size g n cp (aG m (l.take k))∧Below w.heap.size w wr) (fun _ i _=>l.length - (intOf i).toNat)
 case atStart=>exact⟨0,g1,_,CH,Nat.zero_le _,by omega,rfl,rfl,gi,eU⟩
 case round=>
  clear gi eU;obtain⟨k,g,n,cp,hk,hn,rfl,rfl,hO,hB⟩:=hrel;by_cases a6:k<l.length
  · obtain⟨c0,c1,c2⟩:=(h2.below hB).cells k a6;have mh:=wh _ (List.getElem_mem a6);have fL:(k:Int)<(l.length:Int):=by omega
    have HU:=Hid.mk' (pQ m l k a6);have gd:=kY (aG m (l.take k)) l[k];have vK:=hO.cases;have Zc:=hO.1;have gT:Below w.heap.size w (wr.alloc (.cells #[.int .i64 l[k].1,.string l[k].2.1,.string l[k].2.2] 121)):=hB.alloc hB.size _;have Lw:bJ (wr.alloc (.cells #[.int .i64 l[k].1,.string l[k].2.1,.string l[k].2.2] 121)) w.heap.size g n cp (aG m (l.take k)):=hO.below ((Below.refl _ _).alloc (Nat.le_refl _) _);generalize l[k]=p at *;generalize aG m (l.take k)=u at *;obtain⟨z,key,val⟩:=p;simp only[] at c0 c1 c2 mh gT Lw;by_cases hz:z=1
    · subst hz;have xk:Hid (aG m (l.take (k+1))=putKey key val u):=by show _=_; rw[HU.out]; rfl
      have IU:=(gE key val u).1;have HP:=Hid.mk' (Ak g 0 n cp u key val _ Lw.sl vK.1 (by omega) mh.2.1 mh.2.2)
      clear HU gd Lw hO hB;go_wp2_with (at_builtin; fail)
      refine HP.out.mono ?_;rintro e w5 ⟨g5,n5,vM,rfl,eh,de⟩;have ec:Below w.heap.size w w5:=gT.trans (de.mono gT.size);have j5:=eh.mono (base':=w.heap.size) gT.size;rw[←xk.out] at j5;have IV:n5≤m.length+(k+1):=by have:=eh.1; omega
      have wu:=Hid.mk' j5;clear de eh j5 gT c0 c1 c2 HP;go_wp2_with (at_builtin; fail)
      go_roundw
      case rel=>exact⟨k+1,g5,n5,vM,by omega,IV,by go_num,rfl,wu.out,ec⟩
      case measure=>simp[intOf]; omega
    · have aT:(z==1)=false:=beq_eq_false_iff_ne.2 hz;by_cases cA:z=2
      · subst cA;have xk:Hid (aG m (l.take (k+1))=delKey key u):=by show _=_; rw[HU.out]; rfl
        have IU:(delKey key u).length≤u.length:=List.length_filter_le _ _;have HP:=Hid.mk' (Am g 0 n cp u key _ Lw.sl vK.1 (by omega) mh.2.1)
        clear HU gd hz Lw hO hB;go_wp2_with (at_builtin; fail)
        refine HP.out.mono ?_;rintro e w5 ⟨g5,n5,vM,rfl,eh,de⟩;have ec:Below w.heap.size w w5:=gT.trans (de.mono gT.size);have j5:=eh.mono (base':=w.heap.size) gT.size;rw[←xk.out] at j5;have IV:n5≤m.length+(k+1):=by have:=eh.1; omega
        have wu:=Hid.mk' j5;clear de eh j5 gT c0 c1 c2 HP;go_wp2_with (at_builtin; fail)
        go_roundw
        case rel=>exact⟨k+1,g5,n5,vM,by omega,IV,by go_num,rfl,wu.out,ec⟩
        case measure=>simp[intOf]; omega
      · have aU:(z==2)=false:=beq_eq_false_iff_ne.2 cA;have xk:Hid (aG m (l.take (k+1))=u):=by show _=_; rw[HU.out]; unfold iP; rw[if_neg hz,if_neg cA]
        clear HU gd hz cA hO hB;go_wp2_with (at_builtin; fail)
        go_roundw
        case rel=>exact⟨k+1,g,n,cp,by omega,by omega,by go_num,rfl,by rw[xk.out]; exact Lw,gT⟩
        case measure=>simp[intOf]; omega
  · have HE:Hid (l.take k=l):=List.take_of_length_le (by omega)
    go_wp2_with (at_builtin; fail)
    go_ret;rw[HE.out] at hO;exact⟨g,n,cp,rfl,hO,hB⟩
end aN
namespace aZ
open Go Go.RowKit base av aN
open Go.WideMaps (keyOf_string_mk)
def lO(X:Nat)(pv:Value)(B1 B2:Nat)(w:World):Prop:=w.heap[X]? =some (.cells #[pv,.map (some B1),.map (some B2)] 175 (0,0))
section
variable{X B1 B2:Nat}{pv:Value}{w w':World}
theorem lO.cells(h:lO X pv B1 B2 w):w.cell? ⟨X,0,none⟩=some pv∧w.cell? ⟨X,1,none⟩=some (.map (some B1))∧w.cell? ⟨X,2,none⟩=some (.map (some B2)):=by
 unfold lO at h;simp[World.cell?,h]
theorem lO.lt(h:lO X pv B1 B2 w):X<w.heap.size:=(Array.getElem?_eq_some_iff.1 h).1
theorem lO.below(h:lO X pv B1 B2 w)(hb:Below w.heap.size w w'):lO X pv B1 B2 w':=(hb.block X h.lt).trans h
theorem lO.grown{row:Option Nat}(h:lO X pv B1 B2 w)(hg:w.grownBy w' row)(aW:some X≠row):lO X pv B1 B2 w':=(hg.block X h.lt aW).trans h
theorem lO.fz(h:lO X pv B1 B2 w)(j:Nat):w.frozen? ⟨X,j,none⟩=false:=by unfold lO at h; simp[World.frozen?,h]
end
theorem C1{w:World}{B n:Nat}{f:ByteArray→Nat}(h:eM w B n f){s:ByteArray}(hs:s.size≤maxLen):(Instr.lookup 173 (.map (some B)) (.string s) false).run Tryz.prog w=.ok (.int .i64 (f s:Int)) w:=by
 obtain⟨D,h1,h2,h3⟩:=h;obtain⟨c,dh,fl,_⟩:=h1.lookup_int pV Tryz.underlying173 Tryz.underlying3 (yC w) (keyOf_string_mk Tryz.underlying9 hs);rw[h3 s] at fl;rw[dh,←yD fl]
theorem C2(X B1 B2 nh:Nat)(pv:Value)(hf:ByteArray→Nat)(a:Option Addr)(len cap:Nat)(l:List Od)(w:World)(hM:lO X pv B1 B2 w)(hT:eM w B2 nh hf)(h:dD w a len l):
 Calls Tryz.prog 166 #[.pointer (some ⟨X,0,none⟩),.slice a len cap] w fun e w'=>e=.returned (.bool (l.any fun o=>decide (hf o.2.1≠0)))∧Below w.heap.size w w':=by
 obtain⟨hl,hm,eW,hc⟩:=id h;subst hl;unfold maxLen at hm;generalize hR:(l.any fun o=>decide (hf o.2.1≠0))=R
 have HR:=Hid.mk' hR;clear hR;go_enter Tryz.func166,Tryz.ntmps166;go_wp2_with fail;go_loopw [9] (fun i wr=>∃k:Nat,k≤l.length∧i=.int .i64 (k:Int)∧((l.take k).any fun o=>decide (hf o.2.1≠0))=false∧Below w.heap.size w wr) (fun i _=>l.length - (intOf i).toNat)
 case atStart=>exact⟨0,Nat.zero_le _,rfl,rfl,Below.refl _ _⟩
 case round=>
  obtain⟨k,hk,rfl,ku,hB⟩:=hrel;by_cases a6:k<l.length
  · obtain⟨b,off,ha,_⟩:=hc (by omega)
    subst ha;obtain⟨c0,c1,c2⟩:=(h.below hB).cells k a6;have fL:(k:Int)<(l.length:Int):=by omega
    have dG:=(eW _ (List.getElem_mem a6)).2.1;have cc:((l.take (k+1)).any fun o=>decide (hf o.2.1≠0))=decide (hf l[k].2.1≠0):=by
     rw[List.take_succ_eq_append_getElem a6,List.any_append,ku]; simp
    have mY:Hid (decide (hf l[k].2.1≠0)=true→R=true):=fun e=>by
     rw[←HR.out,List.any_eq_true];exact⟨l[k],List.getElem_mem a6,e⟩
    generalize l[k]=p at *;have bg:Below wr.heap.size wr (wr.alloc (.cells #[.int .i64 p.1,.string p.2.1,.string p.2.2] 121)):=(Below.refl _ _).alloc (Nat.le_refl _) _;have dw:=hB.trans (bg.mono hB.size);have hX:=((hM.below hB).below bg).cells;have LM:=(hT.below hB).below bg;have d1:(wr.alloc (.cells #[.int .i64 p.1,.string p.2.1,.string p.2.2] 121)).cell? ⟨wr.heap.size,1,none⟩=some (.string p.2.1):=by simp
    have yF:∀n,(Instr.lookup 173 (.map (some B2)) (.string p.2.1) false).run Tryz.prog ((wr.alloc (.cells #[.int .i64 p.1,.string p.2.1,.string p.2.2] 121)).drewN n)=.ok (.int .i64 (hf p.2.1:Int)) ((wr.alloc (.cells #[.int .i64 p.1,.string p.2.1,.string p.2.2] 121)).drewN n):=fun n=>C1 (LM.below (below_drewN (Below.refl _ _) n)) dG
    obtain⟨x0,x1,x2⟩:=hX;clear eW hc;by_cases hz:hf p.2.1=0
    · have cA:((hf p.2.1:Int)==0)=true:=by rw[hz]; rfl
      go_wp2_with fail;go_quiet (fail)
      go_wp2_with fail;go_roundw
      case rel=>exact⟨k+1,by omega,by go_num,by rw[cc]; simp[hz],dw.trans (below_drewN (Below.refl _ _) _)⟩
      case measure=>simp[intOf]; omega
    · have cA:((hf p.2.1:Int)==0)=false:=beq_eq_false_iff_ne.2 (by omega)
      have pf:Hid (R=true):=mY.out (decide_eq_true hz);clear mY;go_wp2_with fail;go_quiet (fail)
      go_wp2_with fail;go_ret;exact⟨aj pf.out.symm,dw.trans (below_drewN (Below.refl _ _) _)⟩
  · have Oz:Hid (R=false):=by
     show _=_;rw[←HR.out];rwa[List.take_of_length_le (by omega)] at ku
    go_wp2_with fail;go_ret;exact⟨aj Oz.out.symm,hB⟩
theorem IW(k t:Int)(a:Option Addr)(n c:Nat)(w:World):(Instr.field 98 (.agg #[.int .i64 k,.int .i64 t,.slice a n c]) 0).run Tryz.prog w=.ok (.int .i64 k) w:=by kernel_rfl
theorem field2(k t:Int)(a:Option Addr)(n c:Nat)(w:World):(Instr.field 98 (.agg #[.int .i64 k,.int .i64 t,.slice a n c]) 2).run Tryz.prog w=.ok (.slice a n c) w:=by kernel_rfl
def fO(m:List Pr)(f:Int→Rc)(hf:ByteArray→Nat)(r:Rc):Bool:=bf r &&
 (if r.1=1 then decide ((f r.2.1).1=0) && (!(r.2.2.any fun o=>decide (hf o.2.1≠0)) && meets m r.2.2) else if r.1=2 then decide ((f r.2.1).1=1) else decide ((f r.2.1).1=1) || decide ((f r.2.1).1=0))
theorem OO(X B1 B2 n1 n2 g np cp:Nat)(f:Int→Rc)(hf:ByteArray→Nat)(m:List Pr)(kind tx:Int)(a:Option Addr)(len cap:Nat)(l:List Od)(w0 w:World)
 (hM:lO X (.slice (some ⟨g,0,none⟩) np cp) B1 B2 w) (hL:fN w0 w B1 n1 f) (hT:eM w B2 n2 hf) (hP:lq w (some ⟨g,0,none⟩) np m) (Zd:np≤1000) (h:dD w a len l) (dG:∀p∈l,p.2.1.size≤1099511627776):
 Calls Tryz.prog 134 #[.pointer (some ⟨X,0,none⟩),.agg #[.int .i64 kind,.int .i64 tx,.slice a len cap]] w fun e w'=>e=.returned (.bool (fO m f hf (kind,tx,l)))∧Below w.heap.size w w':=by
 obtain⟨W,hW⟩:∃W,W=w.alloc (.cells #[.int .i64 kind,.int .i64 tx,.slice a len cap] 98):=⟨_,rfl⟩;have bg:Below w.heap.size w W:=by rw[hW]; exact(Below.refl _ _).alloc (Nat.le_refl _) _
 have bt:da w.heap.size kind tx (.slice a len cap) W:=by rw[hW]; exact cd _ _ _ _
 have eX:=Hid.mk' (CW kind tx a len cap l W (h.below bg) dG);have HW:=Hid.mk' hW.symm;clear hW;cases bD:bf (kind,tx,l)
 · rw[bD] at eX;have HF:Hid (fO m f hf (kind,tx,l)=false):=by show _=_; unfold fO; rw[bD]; rfl
   clear bD;go_enter Tryz.func134,Tryz.ntmps134;go_wp2_with fail;rw[HW.out];refine eX.out.mono ?_;rintro e w1 ⟨rfl,aT⟩;have eU:=bg.trans (aT.mono bg.size);clear eX HW bt;go_wp2_with fail;go_ret;exact⟨aj HF.out.symm,eU⟩
 · rw[bD] at eX;obtain⟨⟨Hd,K9⟩,py⟩:=(bE _).1 bD;simp only[] at Hd K9 py;have Ar:(Lit.int .i64 tx).wf=true:=WalkArith.wf_i64 (by omega)
   go_enter Tryz.func134,Tryz.ntmps134;go_wp2_with fail;rw[HW.out];refine eX.out.mono ?_;rintro e w1 ⟨rfl,aT⟩;have eU:=bg.trans (aT.mono bg.size);have vO:=(hM.below eU);obtain⟨x0,x1,x2⟩:=vO.cells;have dx:=bt.below aT;obtain⟨d0,d1,d2⟩:=dx.cells;obtain⟨la,lm,lc,QW,yI,As⟩:=(hL.below eU).look Ar;have hL1:=(hL.below eU);have yF:∀x:last.On w1.heap.size w1,(Instr.lookup 172 (.map (some B1)) (.int .i64 tx) false).run Tryz.prog x.w=.ok (.agg #[.int .i64 (f tx).1,.int .i64 (f tx).2.1,.slice la lm lc]) x.w:=fun x=>As _ (x.2.block B1 hL1.lt)
   have QX:=IW;have UE:=vO.lt;have VQ:=dx.lt;have y0:=last.On.cell x0 UE;have y1:=last.On.cell x1 UE;have z1:=last.On.cell d1 VQ;have a_:=last.On.gV w1.heap.size w1;clear eX HW As;go_wp2_with fail;refine last.ai w1.heap.size (by kernel_rfl) (by kernel_rfl) ?_
   repeat(go_big_quiet_step (fail))
   refine wpQuiet_nil ?_;intro w2 jO;obtain⟨Au,jO⟩:=jO;have aU:Below w1.heap.size w1 w2:=by rw[jO]; exact Au.2
   clear jO Au a_ yF y0 y1 z1 QX yI;have dw:=eU.trans (aU.mono eU.size);have bV:=dx.below aU;have eY:=vO.below aU;obtain⟨e0,e1,e2⟩:=bV.cells;have oK:bf (kind,tx,l)=true:=bD;by_cases nr:kind=1
   · subst nr;have OP:bM l=true:=by rcases py with⟨_,h1⟩ | ⟨h1,_⟩; exact h1; omega
     have HF:Hid (fO m f hf (1,tx,l)=(decide ((f tx).1=0) && (!(l.any fun o=>decide (hf o.2.1≠0)) && meets m l))):=by show _=_; unfold fO; rw[oK,if_pos rfl]; rfl
     obtain⟨_,vP,_⟩:=(bq l).1 OP;have lP:=h.1;obtain⟨ob,oo,VJ,_⟩:=h.2.2.2 (by omega)
     subst VJ;have a_:=last.On.gV w2.heap.size w2;have hsz8:len≤8:=by have:=((bq l).1 OP).2.2; omega
     have RV:∀x:last.On w2.heap.size w2,Calls Tryz.prog 166 #[.pointer (some ⟨X,0,none⟩),.slice (some ⟨ob,oo,none⟩) len cap] x.w fun e w'=>e=.returned (.bool (l.any fun o=>decide (hf o.2.1≠0)))∧∃y:last.On w2.heap.size w2,w'=y.w:=fun x=>last.Calls.on x (Nat.le_refl _) (C2 X B1 B2 n2 _ hf _ len cap l x.w (eY.below x.2) ((hT.below dw).below x.2) ((h.below dw).below x.2))
     have RW:∀x:last.On w2.heap.size w2,Calls Tryz.prog 167 #[.slice (some ⟨g,0,none⟩) np cp,.slice (some ⟨ob,oo,none⟩) len cap] x.w fun e w'=>e=.returned (.bool (meets m l))∧∃y:last.On w2.heap.size w2,w'=y.w:=fun x=>last.Calls.on x (Nat.le_refl _) (CZ g 0 np cp m ob oo len cap l x.w ((hP.below dw).below x.2) ((h.below dw).below x.2) (by omega))
     obtain⟨q0,q1,q2⟩:=eY.cells;have VR:=eY.lt;have VS:=bV.lt;have y0:=last.On.cell q0 VR;have z2:=last.On.cell e2 VS;generalize(l.any fun o=>decide (hf o.2.1≠0))=K1 at *
     generalize meets m l=K2 at *;clear py bD oK OP vP;by_cases UF:(f tx).1=0
     · have VT:((f tx).1==0)=true:=by rw[UF]; rfl
       rw[decide_eq_true UF] at HF;cases K1
       · go_wp2_with fail;refine last.ai w2.heap.size (by kernel_rfl) (by kernel_rfl) ?_
         repeat(go_big_quiet_step ((first | (go_at_call 166; exact RV _) | (go_at_call 167; exact RW _))))
         refine wpQuiet_nil ?_;intro w3 ls;obtain⟨x3,ls⟩:=ls;have dt:Below w2.heap.size w2 w3:=by rw[ls]; exact x3.2
         clear ls x3 a_ RV RW y0 z2;go_wp2_with fail;go_ret;exact⟨aj (by rw[HF.out]; simp),dw.trans (dt.mono dw.size)⟩
       · go_wp2_with fail;refine last.ai w2.heap.size (by kernel_rfl) (by kernel_rfl) ?_
         repeat(go_big_quiet_step ((first | (go_at_call 166; exact RV _) | (go_at_call 167; exact RW _))))
         refine wpQuiet_nil ?_;intro w3 ls;obtain⟨x3,ls⟩:=ls;have dt:Below w2.heap.size w2 w3:=by rw[ls]; exact x3.2
         clear ls x3 a_ RV RW y0 z2;go_wp2_with fail;go_ret;exact⟨aj (by rw[HF.out]; simp),dw.trans (dt.mono dw.size)⟩
     · have VT:((f tx).1==0)=false:=beq_eq_false_iff_ne.2 UF;rw[decide_eq_false UF] at HF;go_wp2_with fail;refine last.ai w2.heap.size (by kernel_rfl) (by kernel_rfl) ?_
       repeat(go_big_quiet_step (fail))
       refine wpQuiet_nil ?_;intro w3 ls;obtain⟨x3,ls⟩:=ls;have dt:Below w2.heap.size w2 w3:=by rw[ls]; exact x3.2
       clear ls x3 a_ RV RW y0 z2;go_wp2_with fail;go_ret;exact⟨aj (by rw[HF.out]; simp),dw.trans (dt.mono dw.size)⟩
   · have RX:(kind==1)=false:=beq_eq_false_iff_ne.2 nr;by_cases gY:kind=2
     · subst gY;have HF:Hid (fO m f hf (2,tx,l)=decide ((f tx).1=1)):=by show _=_; unfold fO; rw[oK,if_neg (show¬((2:Int),tx,l).1=1 by simp),if_pos rfl]; rfl
       clear py bD oK;go_wp2_with fail;go_ret;exact⟨aj (by rw[HF.out]; rfl),dw⟩
     · have hkb2:(kind==2)=false:=beq_eq_false_iff_ne.2 gY;have HF:Hid (fO m f hf (kind,tx,l)=(decide ((f tx).1=1) || decide ((f tx).1=0))):=by show _=_; unfold fO; rw[oK,if_neg nr,if_neg gY]; rfl
       clear py bD oK nr gY;by_cases h1:(f tx).1=1
       · have h1b:((f tx).1==1)=true:=by rw[h1]; rfl
         go_wp2_with fail;go_ret;exact⟨aj (by rw[HF.out]; simp[h1]),dw⟩
       · have h1b:((f tx).1==1)=false:=beq_eq_false_iff_ne.2 h1;go_wp2_with fail;go_ret;exact⟨aj (by rw[HF.out,decide_eq_false h1,Bool.false_or]; rfl),dw⟩
end aZ
end Go.Proofs.YtmibabclefgljaaGreat
