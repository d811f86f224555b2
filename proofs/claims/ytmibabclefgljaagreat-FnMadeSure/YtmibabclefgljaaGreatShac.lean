/- PairS PairT PairU Last PairV OrdS OrdT -/
import Derived.Test.YtmibabclefgljaaGreatShab
import Derived.Deep.RegionHeld3
import Derived.Deep.QuietTactic
import Derived.BigQuiet
import Derived.WalkKit
import Derived.WalkSpells
import Derived.WalkLawsBesides
set_option linter.unusedVariables false
set_option linter.unusedSimpArgs false
set_option maxRecDepth 100000
set_option maxHeartbeats 2000000
namespace Go.Proofs.YtmibabclefgljaaGreat
namespace av
open Go Go.RowKit base
theorem sy{W w1:World}(hb:Below W.heap.size W w1):(∀b o,b<W.heap.size→w1.cell? ⟨b,o,none⟩=W.cell? ⟨b,o,none⟩):=
 fun b o h=>hb.cell (p:=⟨b,o,none⟩) h
theorem s_in(x a b:Int)(w:World)(hx: -1000≤x∧x≤1099511627776)(ha:0≤a∧a≤1000)(hb:0≤b∧b≤1000):
    Calls Tryz.prog 32 #[.int .i64 x,.int .i64 a,.int .i64 b] w fun e w'=>e=.returned (.bool (decide (a≤x∧x≤b)))∧w'=w:=by
  by_cases h1:a≤x
  · by_cases h2:x≤b
    · go_enter Tryz.func32,Tryz.ntmps32;go_wp2;go_ret;exact⟨aj (by simp[h1,h2]),rfl⟩
    · go_enter Tryz.func32,Tryz.ntmps32;go_wp2;go_ret;exact⟨aj (by simp[h1,h2]),rfl⟩
  · go_enter Tryz.func32,Tryz.ntmps32;go_wp2;go_ret
    exact⟨aj (by have h3:¬a≤x:=by omega
                 simp[h3]),rfl⟩
theorem sz(s:ByteArray)(k:Nat)(h:k<s.size):kX (s.data.toList.drop k)=(gC s[k].toNat && kX (s.data.toList.drop (k+1))):=by
 rw[List.drop_eq_getElem_cons (by simpa using h)]; rfl
theorem CE(s:ByteArray)(w:World)(hs:s.size≤1099511627776):
 Calls Tryz.prog 171 #[.string s] w fun e w'=>e=.returned (.bool (gD s))∧w'=w:=by
 generalize hR:kX s.data.toList=R;have HR:=Hid.mk' hR;clear hR;go_enter Tryz.func171,Tryz.ntmps171;go_wp2;go_loop [3] (fun i=>∃k:Nat,k≤s.size∧i=.int .i64 (k:Int)∧kX (s.data.toList.drop k)=R) (fun i=>s.size - (intOf i).toNat)
 case atStart=>exact⟨0,Nat.zero_le _,rfl,HR.out⟩
 case round=>
  obtain⟨k,hk,rfl,hr⟩:=hrel;by_cases a6:k<s.size
  · have cc:=sz s k a6;rw[hr] at cc;have hc:=s[k].toNat_lt;generalize hC:s[k].toNat=c at *;have gW:=Hid.mk' cc;have HC:=Hid.mk' hC;clear cc hr;have fL:(k:Int)<(s.size:Int):=by omega
    by_cases h1:97≤c∧c≤122
    · have HF:Hid (kX (s.data.toList.drop (k+1))=R):=by
       show _=_;have:=gW.out; rw[show gC c=true by simp[gC,h1]] at this; simpa using this.symm
      have hl:=s_in (c:Int) 97 122 w (by omega) (by omega) (by omega)
      rw[decide_eq_true (by omega)] at hl
      have HL:=Hid.mk' hl;clear hl gW;go_wp2_with fail;refine HL.out.mono ?_;rintro e w1 ⟨rfl,rfl⟩;go_wp2_with fail;go_round
      case rel=>exact⟨k+1,by omega,by go_num,HF.out⟩
      case measure=>simp[intOf]; omega
    · have hl:=s_in (c:Int) 97 122 w (by omega) (by omega) (by omega)
      rw[decide_eq_false (by omega)] at hl
      have HL:=Hid.mk' hl;clear hl;by_cases h2:48≤c∧c≤57
      · have HF:Hid (kX (s.data.toList.drop (k+1))=R):=by
         show _=_;have:=gW.out; rw[show gC c=true by simp[gC,h2]] at this; simpa using this.symm
        have hl:=s_in (c:Int) 48 57 w (by omega) (by omega) (by omega)
        rw[decide_eq_true (by omega)] at hl
        have VA:=Hid.mk' hl;clear hl gW;go_wp2_with fail;refine HL.out.mono ?_;rintro e w1 ⟨rfl,rfl⟩;go_wp2_with fail;refine VA.out.mono ?_;rintro e w1 ⟨rfl,rfl⟩;go_wp2_with fail;go_round
        case rel=>exact⟨k+1,by omega,by go_num,HF.out⟩
        case measure=>simp[intOf]; omega
      · have HF:Hid (R=false):=by
         show _=_;have:=gW.out; rw[show gC c=false by simp only[gC,h1,h2]; rfl] at this; simpa using this
        have hl:=s_in (c:Int) 48 57 w (by omega) (by omega) (by omega)
        rw[decide_eq_false (by omega)] at hl
        have VA:=Hid.mk' hl;clear hl gW;go_wp2_with fail;refine HL.out.mono ?_;rintro e w1 ⟨rfl,rfl⟩;go_wp2_with fail;refine VA.out.mono ?_;rintro e w1 ⟨rfl,rfl⟩;go_wp2_with fail;go_ret;exact⟨aj (by unfold gD; rw[HR.out,HF.out]; rfl),rfl⟩
  · have HF:Hid (R=true):=by show _=_; rw[←hr,List.drop_eq_nil_of_le (by simp; omega)]; rfl
    have hl:=s_in (s.size:Int) 1 12 w (by omega) (by omega) (by omega)
    rw[show decide ((1:Int)≤(s.size:Int)∧(s.size:Int)≤12)=decide (1≤s.size∧s.size≤12) by rw[decide_eq_decide]; omega] at hl
    have HL:=Hid.mk' hl;clear hl hr;go_wp2_with fail;refine HL.out.mono ?_;rintro e w1 ⟨rfl,rfl⟩;go_wp2_with fail;go_ret;exact⟨aj (by unfold gD; rw[HR.out,HF.out]; simp),rfl⟩
def rI:Option ByteArray→Value
 | none=>.tuple #[.string ⟨#[]⟩,.bool false]
 | some v=>.tuple #[.string v,.bool true]
theorem dP{a b:ByteArray}(h:a≠b):(a.toList==b.toList)=false:=by
 rw[beq_eq_false_iff_ne]; intro e; rw[ByteArray.toList_eq,ByteArray.toList_eq] at e; exact h (jM e)
theorem Ad(a:Option Addr)(len cap:Nat)(l:List Pr)(key:ByteArray)(w:World)(h:lq w a len l):
 Calls Tryz.prog 168 #[.slice a len cap,.string key] w fun e w'=>e=.returned (rI (getKey key l))∧w'=w:=by
 obtain⟨hl,hm,eW,hc⟩:=h;subst hl;unfold maxLen at hm;generalize hR:getKey key l=R;have HR:=Hid.mk' hR;clear hR;go_enter Tryz.func168,Tryz.ntmps168;go_wp2;go_loop [6] (fun i=>∃k:Nat,k≤l.length∧i=.int .i64 (k:Int)∧getKey key (l.drop k)=R) (fun i=>l.length - (intOf i).toNat)
 case atStart=>exact⟨0,Nat.zero_le _,rfl,HR.out⟩
 case round=>
  obtain⟨k,hk,rfl,hr⟩:=hrel;by_cases a6:k<l.length
  · obtain⟨b,off,ha,cK⟩:=hc (by omega)
    subst ha;have cc:=nB key l k a6;rw[hr] at cc;obtain⟨c1,c2⟩:=cK k a6;have fL:(k:Int)<(l.length:Int):=by omega
    by_cases he:l[k].1=key
    · have HF:Hid (R=some l[k].2):=by rw[if_pos he] at cc; exact cc
      rw[he] at c1;generalize l[k].2=v at *;clear cc hr cK hc eW he;go_wp2;go_ret2;exact⟨by rw[HF.out]; rfl,rfl⟩
    · have HF:Hid (getKey key (l.drop (k+1))=R):=by rw[if_neg he] at cc; exact cc.symm
      have hq:=dP he;generalize l[k].1=kk at *;clear cc hr cK hc eW he;go_wp2;go_round
      case rel=>exact⟨k+1,by omega,by go_num,HF.out⟩
      case measure=>simp[intOf]; omega
  · have HF:Hid (R=none):=by show _=_; rw[←hr,List.drop_eq_nil_of_le (by omega)]; rfl
    clear hr;go_wp2;go_ret2;exact⟨by rw[HF.out]; rfl,rfl⟩
end av
namespace av
open Go Go.RowKit base
theorem jW(l:List Pr)(k:Nat)(h:k<l.length):l.take (k+1)=l.take k++[l[k]]:=List.take_succ_eq_append_getElem h
theorem sA(f:Pr→Bool)(l:List Pr)(k:Nat)(h:k<l.length):(l.take (k+1)).filter f=(l.take k).filter f++if f l[k] then[l[k]] else[]:=by
 rw[jW l k h,List.filter_append];cases hf:f l[k] <;> simp[List.filter_cons,hf]
theorem mv{l:List Pr}(h:∀p∈l,small p)(k:Nat):∀p∈l.take k,small p:=fun p hp=>h p (List.mem_of_mem_take hp)
theorem dQ(w:World)(p:Pr)(t:TypeId):∀j u,(aw [p])[j]? =some u→(w.alloc (.cells #[.string p.1,.string p.2] t)).cell? ((⟨w.heap.size,0,none⟩:Addr).add j)=some u:=
 Fc w (.string p.1) (.string p.2) t
theorem lJ{w':World}{base n:Nat}{v':Value}{l:List Pr}{p:Pr}(hl:l.length=n)(hs:∀q∈l,small q)(hp:small p)(h0:¬v'=.slice none 0 0)
 (h:w'.ownsRow base 100 2 v' (n+1) (aw l++aw [p])):∃g' aO,v'=.slice (some ⟨g',0,none⟩) (n+1) aO∧bJ w' base g' (n+1) aO (l++[p]):=by
 rw[←cj] at h;refine df (by simp; omega) ?_ h0 h
 intro q hq;rcases List.mem_append.1 hq with h1 | h1
 · exact hs q h1
 · simp at h1; subst h1; exact hp
theorem sB(b off len cap:Nat)(l:List Pr)(key:ByteArray)(w:World)(h:lq w (some ⟨b,off,none⟩) len l)(iO:len≤1099511627776):
 Calls Tryz.prog 170 #[.slice (some ⟨b,off,none⟩) len cap,.string key] w fun e w'=>
  ∃g' n' aO,e=.returned (.slice (some ⟨g',0,none⟩) n' aO)∧bJ w' w.heap.size g' n' aO (delKey key l)∧Below w.heap.size w w':=by
 obtain⟨i0,hi,dm,dk,cA⟩:=info_parts mW;have hl:=h.1;have eW:=h.2.2.1;subst hl;go_enter Tryz.func170,Tryz.ntmps170;go_wp2_with (at_builtin; fail)
 go_loopw [5,6] (fun v i wr=>∃(k g n cp:Nat),k≤l.length∧n≤k∧i=.int .i64 (k:Int)∧v=.slice (some ⟨g,0,none⟩) n cp∧bJ wr w.heap.size g n cp (delKey key (l.take k))∧Below w.heap.size w wr) (fun _ i _=>l.length - (intOf i).toNat)
 case atStart=>exact⟨0,w.heap.size,0,0,Nat.zero_le _,Nat.le_refl _,rfl,rfl,bX w _ (Nat.le_refl _),(Below.refl _ _).alloc (Nat.le_refl _) _⟩
 case round=>
  obtain⟨k,g,n,cp,hk,CF,rfl,rfl,hO,hB⟩:=hrel;have mX:w.heap.size≤wr.heap.size:=hB.size;by_cases a6:k<l.length
  · obtain⟨c1,c2⟩:=(h.below hB).cells k a6;have cc:=sA (fun p=>decide (p.1≠key)) l k a6
    have mh:=eW _ (List.getElem_mem a6);have fL:(k:Int)<(l.length:Int):=by omega
    by_cases he:l[k].1=key
    · have HF:Hid (delKey key (l.take (k+1))=delKey key (l.take k)):=by
       show List.filter _ _=List.filter _ _;rw[cc]; simp[he]
      rw[he] at c1;clear cc;go_wp2_with (at_builtin; fail)
      go_roundw
      case rel=>exact⟨k+1,g,n,cp,by omega,by omega,by go_num,rfl,by rw[HF.out]; exact hO,hB⟩
      case measure=>simp[intOf]; omega
    · have HF:Hid (delKey key (l.take (k+1))=delKey key (l.take k)++[l[k]]):=by
       show List.filter _ _=List.filter _ _++_;rw[cc]; simp[he]
      have hq:=dP he;have fD:n+1≤maxLen:=by unfold maxLen; omega
      have jX:(n+1) * 32≤140737488355328:=by omega
      generalize l[k]=p at *;clear cc he;go_wp2_with (at_builtin; refine wpList_append_own _ rfl (.tmp 21) (.tmp 26) 37 rfl w.heap.size 100 i0 (.agg #[.string ⟨#[]⟩,.string ⟨#[]⟩]) 2 32 Tryz.underlying37 hi dm dk cA rfl (by decide) _ _ _ rfl (hO.2.2.alloc _) ⟨wr.heap.size,0,none⟩ 1 1 (aw [p]) rfl rfl (dQ _ _ _) (aF _) fD jX (aI _ _ mX) ?_)
      intro v2 w2 aB az cN;obtain⟨g2,Iv,hv,fE⟩:=lJ hO.1 hO.2.1 mh cN aB;subst hv;have dw:Below w.heap.size w w2:=(hB.alloc mX _).grown az (aI _ _ mX) (fun k e=>by simp[Value.ownBlock] at e; have:=hO.lt; omega)
      rw[←HF.out] at fE;have LC:=Hid.mk' fE;clear aB az cN fE hO hB;go_wp2_with (at_builtin; fail)
      go_roundw
      case rel=>exact⟨k+1,g2,n+1,Iv,by omega,by omega,by go_num,rfl,LC.out,dw⟩
      case measure=>simp[intOf]; omega
  · have HE:Hid (l.take k=l):=List.take_of_length_le (by omega)
    go_wp2_with (at_builtin; fail)
    go_ret;rw[HE.out] at hO;exact⟨g,n,cp,rfl,hO,hB⟩
end av
namespace av
open Go Go.RowKit base
theorem nF{key:ByteArray}{l:List Pr}(h:getKey key l=none)(k:Nat)(hk:k<l.length):l[k].1≠key:=by
 intro e;have h2:=pr key (l.take k) (l.drop k);rw[List.take_append_drop,h,nB key l k hk,if_pos e] at h2;cases h3:getKey key (l.take k) <;> rw[h3] at h2 <;> cases h2
theorem xg{key val:ByteArray}{l:List Pr}(k:Nat)(hk:k<l.length)(he:l[k].1=key)(hn:getKey key (l.take k)=none):putKey key val l=l.set k (l[k].1,val):=by
 have h2:=pr key (l.take k) (l.drop k);rw[List.take_append_drop,hn,nB key l k hk,if_pos he] at h2;unfold putKey;rw[h2,if_pos (by rfl),zX key val l k hk he hn,he]
theorem Eo{key val:ByteArray}{l:List Pr}(hn:getKey key l=none):putKey key val l=l.take (below key l)++(key,val)::l.drop (below key l):=by
 unfold putKey; rw[hn]; rfl
theorem Fg(key:ByteArray)(l:List Pr)(k:Nat)(hk:k<l.length)(hn:getKey key (l.take k)=none)(he:l[k].1≠key):getKey key (l.take (k+1))=none:=by
 rw[jW l k hk]; exact rE key _ _ hn he
theorem oH{a b:ByteArray}(h:a≠b):Op.bytesLess a.toList b.toList= !Op.bytesLess b.toList a.toList:=by
 cases h1:Op.bytesLess b.toList a.toList
 · cases h2:Op.bytesLess a.toList b.toList
   · exact absurd (rD (a:=a) (b:=b) h2 h1) h
   · rfl
 · exact Fe (a:=b) (b:=a) h1
theorem nG{w:World}{b off:Nat}{l:List Pr}(h:jU w b off l)(k:Nat):jU w b (off+k * 2) (l.drop k):=by
 intro i hi;have fL:k+i<l.length:=by simp at hi; omega
 have:=h (k+i) fL;rw[List.getElem_drop,show off+k * 2+i * 2=off+(k+i) * 2 by omega]
 exact this
theorem kF{w:World}{b off:Nat}{l:List Pr}(h:jU w b off l)(k:Nat):jU w b off (l.take k):=by
 intro i hi;rw[List.getElem_take];exact h i (by simp at hi; omega)
theorem sC(b off len cap:Nat)(l:List Pr)(key val:ByteArray)(w:World)(h:lq w (some ⟨b,off,none⟩) len l)(CG:len≤cap)(iO:len≤1099511627776)(dG:key.size≤maxLen)(jC:val.size≤maxLen):
 Calls Tryz.prog 169 #[.slice (some ⟨b,off,none⟩) len cap,.string key,.string val] w fun e w'=>
  ∃g' n' aO,e=.returned (.slice (some ⟨g',0,none⟩) n' aO)∧bJ w' w.heap.size g' n' aO (putKey key val l)∧Below w.heap.size w w':=by
 obtain⟨i0,jG,dm,dk,cA⟩:=info_parts mW;have hl:=h.1;have eW:=h.2.2.1;subst hl;have bg:Below w.heap.size w (w.alloc (.cells #[] 100)):=(Below.refl _ _).alloc (Nat.le_refl _) _;have HC:=Hid.mk' (cM (h.below bg).cells);have v_:=bo l;have Fh:0+l.length≤maxLen:=by unfold maxLen; omega
 have jD:(0+l.length) * 32≤140737488355328:=by omega
 have nH:=(bX w w.heap.size (Nat.le_refl _)).2.2;go_enter Tryz.func169,Tryz.ntmps169;go_wp2_with (at_builtin; refine wpList_append_own _ rfl (.tmp 10) (.tmp 11) 37 rfl w.heap.size 100 i0 (.agg #[.string ⟨#[]⟩,.string ⟨#[]⟩]) 2 32 Tryz.underlying37 jG dm dk cA rfl (by decide) _ _ _ rfl nH ⟨b,off,none⟩ l.length cap (aw l) rfl v_ HC.out (aF _) Fh jD (aI _ _ (Nat.le_refl _)) ?_)
 intro v1 w1 aB az cN;have bY:¬v1=.slice none 0 0:=by simpa using cN
 obtain⟨g1,CH,hv,gi⟩:=df rfl eW bY (by simpa[aw] using aB)
 subst hv;have eU:Below w.heap.size w w1:=bg.grown az (aI _ _ (Nat.le_refl _)) (fun k e=>by simp[Value.ownBlock] at e; omega)
 clear aB az cN bY nH HC v_ Fh jD bg;go_wp2_with (at_builtin; fail)
 go_loop [8] (fun i=>∃k:Nat,k≤l.length∧i=.int .i64 (k:Int)∧getKey key (l.take k)=none) (fun i=>l.length - (intOf i).toNat)
 case atStart=>exact⟨0,Nat.zero_le _,rfl,rfl⟩
 case round=>
  obtain⟨k,hk,rfl,ku⟩:=hrel;by_cases a6:k<l.length
  · have c1:=gi.key k a6;have c2:=gi.val k a6;have fL:(k:Int)<(l.length:Int):=by omega
    by_cases he:l[k].1=key
    · have HF:Hid (putKey key val l=l.set k (l[k].1,val)):=xg k a6 he ku;have K8:=gi.frozen (k * 2+1);have hR:=gi.ym k a6 val jC;rw[←HF.out] at hR;have HR:=Hid.mk' hR;rw[he] at c1;clear ku hR;go_wp2_with (at_builtin; fail)
      go_ret;exact⟨_,_,_,rfl,HR.out.1,eU.trans (fH HR.out.2 gi.lt.1 eU.size)⟩
    · have HF:Hid (getKey key (l.take (k+1))=none):=Fg key l k a6 ku he;have hq:=dP he;clear ku he;go_wp2_with (at_builtin; fail)
      go_round
      case rel=>exact⟨k+1,by omega,by go_num,HF.out⟩
      case measure=>simp[intOf]; omega
  · have jY:getKey key l=none:=by rw[List.take_of_length_le (by omega)] at ku; exact ku
    have HP:=Hid.mk' (Eo (val:=val) jY);have aW:=nF jY;have Uy:=h.below eU;obtain⟨B,Uz⟩:∃B,below key l=B:=⟨_,rfl⟩;have hBl:B≤l.length:=by rw[←Uz]; exact ua key l
    rw[Uz] at HP;have HB:=Hid.mk' Uz;clear ku jY Uz;go_wp2_with (at_builtin; fail)
    go_loop [9] (fun i=>∃k:Nat,k≤l.length∧i=.int .i64 (k:Int)∧below key (l.drop k)+k=B) (fun i=>l.length - (intOf i).toNat)
    case atStart=>exact⟨0,Nat.zero_le _,rfl,HB.out⟩
    case round=>
     obtain⟨k,gY,rfl,hr⟩:=hrel;by_cases fB:k<l.length∧Op.bytesLess key.toList (l[k]!).1.toList=false
     · obtain⟨fB,hb⟩:=fB;rw[getElem!_pos l k fB] at hb;have c1:=(Uy.cells k fB).1;have cc:=pN key l k fB;rw[if_neg (by show¬Op.bytesLess _ _=true; rw[hb]; simp)] at cc
       have HF:Hid (below key (l.drop (k+1))+(k+1)=B):=by show _=_; omega
       have hq:=dP (aW k fB);have zy:=oH (aW k fB);rw[hb] at zy;have fL:(k:Int)<(l.length:Int):=by omega
       generalize l[k].1=kk at *;clear hr cc hb aW;go_wp2_with (at_builtin; fail)
       go_round
       case rel=>exact⟨k+1,by omega,by go_num,HF.out⟩
       case measure=>simp[intOf]; omega
     · have HE:Hid (k=B):=by
        show k=B;by_cases h3:k<l.length
        · have cc:=pN key l k h3;have:Op.bytesLess key.toList l[k].1.toList=true:=by
           cases h4:Op.bytesLess key.toList l[k].1.toList
           · exact absurd ⟨h3,by rw[getElem!_pos l k h3]; exact h4⟩ fB
           · rfl
          rw[if_pos (show kt key l[k].1=true from this)] at cc
          omega
        · rw[List.drop_eq_nil_of_le (by omega)] at hr
          have:below key []=0:=rfl;omega
       have Iw:k<l.length→∃kk,w1.cell? ⟨b,off+k * 2,none⟩=some (.string kk)∧Op.bytesLess kk.toList key.toList=false∧(kk.toList==key.toList)=false:=by
        intro h3;refine⟨l[k].1,(Uy.cells k h3).1,?_,dP (aW k h3)⟩;rw[oH (aW k h3)];cases h4:Op.bytesLess key.toList l[k].1.toList
        · exact absurd ⟨h3,by rw[getElem!_pos l k h3]; exact h4⟩ fB
        · rfl
       clear hr fB aW;by_cases h3:k<l.length
       · obtain⟨kk,c1,q1,q2⟩:=Iw h3;have fL:(k:Int)<(l.length:Int):=by omega
         clear Iw;have yp:Below w1.heap.size w1 (w1.alloc (.cells #[] 100)):=(Below.refl _ _).alloc (Nat.le_refl _) _;have RI:=Hid.mk' (cM (kF (Uy.below yp).cells k));have o9:(aw (l.take k)).length=k * 2:=by rw[bo,List.length_take_of_le gY]
         have Ix:0+k≤maxLen:=by unfold maxLen; omega
         have Iy:(0+k) * 32≤140737488355328:=by omega
         have Fi:k+1≤maxLen:=by unfold maxLen; omega
         have Fj:(k+1) * 32≤140737488355328:=by omega
         have nI:=(bX w1 w.heap.size eU.size).2.2;have uj:w.heap.size≤w1.heap.size:=eU.size;have VB:(k:Int)≤(cap:Int):=by omega
         have xh:(k:Int)≤(l.length:Int):=by omega
         go_wp2_with (at_builtin; refine wpList_append_own _ rfl (.tmp 47) (.tmp 50) 37 rfl w.heap.size 100 i0 (.agg #[.string ⟨#[]⟩,.string ⟨#[]⟩]) 2 32 Tryz.underlying37 jG dm dk cA rfl (by decide) _ _ _ rfl nI ⟨b,off,none⟩ k cap (aw (l.take k)) rfl o9 RI.out (aF _) Ix Iy (aI _ _ uj) ?_)
         intro v2 w2 aB az cN;have bY:¬v2=.slice none 0 0:=by simpa using cN
         obtain⟨g2,eg,hv,fE⟩:=df (l:=l.take k) (n:=k) (List.length_take_of_le gY) (mv eW k) bY (by simpa[aw] using aB)
         subst hv;have RJ:Below w.heap.size w1 (w1.alloc (.cells #[] 100)):=(Below.refl _ _).alloc uj _;have dw:Below w.heap.size w1 w2:=RJ.grown az (aI _ _ uj) (fun k e=>by simp[Value.ownBlock] at e; omega)
         have we:Below w.heap.size w w2:=eU.trans dw;have pT:w.heap.size≤w2.heap.size:=we.size;clear aB az cN bY nI RI o9 Ix Iy yp RJ dw;go_wp2_with (at_builtin; refine wpList_append_own _ rfl (.tmp 51) (.tmp 55) 37 rfl w.heap.size 100 i0 (.agg #[.string ⟨#[]⟩,.string ⟨#[]⟩]) 2 32 Tryz.underlying37 jG dm dk cA rfl (by decide) _ _ _ rfl (fE.2.2.alloc _) ⟨w2.heap.size,0,none⟩ 1 1 (aw [(key,val)]) rfl rfl (dQ _ (key,val) _) (aF _) Fi Fj (aI _ _ pT) ?_)
         intro v3 w3 aB az cN;obtain⟨g3,yq,hv,d_⟩:=lJ fE.1 fE.2.1 ⟨dG,jC⟩ cN aB;subst hv;have cJ:Below w.heap.size w w3:=(we.alloc pT _).grown az (aI _ _ pT) (fun k e=>by simp[Value.ownBlock] at e; have:=fE.lt; omega)
         have yr:w.heap.size≤w3.heap.size:=cJ.size;have Fk:=h.below cJ;have zz:k+1+(l.length - k)≤maxLen:=by unfold maxLen; omega
         have Ep:(k+1+(l.length - k)) * 32≤140737488355328:=by omega
         have B6:(aw (l.drop k)).length=(l.length - k) * 2:=by rw[bo,List.length_drop]
         clear aB az cN fE we Fi Fj;have Iz:¬cap=k:=by omega
         have RK:=Hid.mk' (cM (nG Fk.cells k));go_wp2_with (at_builtin; refine wpList_append_own _ rfl (.tmp 57) (.tmp 60) 37 rfl w.heap.size 100 i0 (.agg #[.string ⟨#[]⟩,.string ⟨#[]⟩]) 2 32 Tryz.underlying37 jG dm dk cA rfl (by decide) _ _ _ rfl d_.2.2 ⟨b,off+k * 2,none⟩ (l.length - k) (cap - k) (aw (l.drop k)) rfl B6 RK.out (aF _) zz Ep yr ?_)
         intro v4 w4 aB az cN;have bY:¬v4=.slice none 0 0:=by simpa using cN
         rw[←cj] at aB;obtain⟨g4,IA,hv,dT⟩:=df (n:=k+1+(l.length - k)) (by simp; omega) (fun q hq=>by
          rcases List.mem_append.1 hq with h1 | h1
          · exact d_.2.1 q h1
          · exact eW q (List.mem_of_mem_drop h1)) bY aB
         subst hv;have ej:Below w.heap.size w w4:=cJ.grown az yr (fun k e=>by simp[Value.ownBlock] at e; have:=d_.lt; omega)
         have H_:=Hid.mk' dT;clear aB az cN bY dT;go_wp2_with (at_builtin; fail)
         go_ret;refine⟨g4,_,IA,rfl,?_,ej⟩;rw[HP.out,←HE.out];have:=H_.out;rw[List.append_assoc] at this;exact this
       · clear Iw;have VC:l.length=k:=by omega
         have Ro:Hid (l.drop k=[]):=List.drop_eq_nil_of_le (by omega)
         have yp:Below w1.heap.size w1 (w1.alloc (.cells #[] 100)):=(Below.refl _ _).alloc (Nat.le_refl _) _;have RI:=Hid.mk' (cM (kF (Uy.below yp).cells k));have o9:(aw (l.take k)).length=k * 2:=by rw[bo,List.length_take_of_le gY]
         have Ix:0+k≤maxLen:=by unfold maxLen; omega
         have Iy:(0+k) * 32≤140737488355328:=by omega
         have Fi:k+1≤maxLen:=by unfold maxLen; omega
         have Fj:(k+1) * 32≤140737488355328:=by omega
         have nI:=(bX w1 w.heap.size eU.size).2.2;have uj:w.heap.size≤w1.heap.size:=eU.size;have VB:(k:Int)≤(cap:Int):=by omega
         have xh:(k:Int)≤(l.length:Int):=by omega
         clear VC;go_wp2_with (at_builtin; refine wpList_append_own _ rfl (.tmp 47) (.tmp 50) 37 rfl w.heap.size 100 i0 (.agg #[.string ⟨#[]⟩,.string ⟨#[]⟩]) 2 32 Tryz.underlying37 jG dm dk cA rfl (by decide) _ _ _ rfl nI ⟨b,off,none⟩ k cap (aw (l.take k)) rfl o9 RI.out (aF _) Ix Iy (aI _ _ uj) ?_)
         intro v2 w2 aB az cN;have bY:¬v2=.slice none 0 0:=by simpa using cN
         obtain⟨g2,eg,hv,fE⟩:=df (l:=l.take k) (n:=k) (List.length_take_of_le gY) (mv eW k) bY (by simpa[aw] using aB)
         subst hv;have RJ:Below w.heap.size w1 (w1.alloc (.cells #[] 100)):=(Below.refl _ _).alloc uj _;have dw:Below w.heap.size w1 w2:=RJ.grown az (aI _ _ uj) (fun k e=>by simp[Value.ownBlock] at e; omega)
         have we:Below w.heap.size w w2:=eU.trans dw;have pT:w.heap.size≤w2.heap.size:=we.size;clear aB az cN bY nI RI o9 Ix Iy yp RJ dw;go_wp2_with (at_builtin; refine wpList_append_own _ rfl (.tmp 51) (.tmp 55) 37 rfl w.heap.size 100 i0 (.agg #[.string ⟨#[]⟩,.string ⟨#[]⟩]) 2 32 Tryz.underlying37 jG dm dk cA rfl (by decide) _ _ _ rfl (fE.2.2.alloc _) ⟨w2.heap.size,0,none⟩ 1 1 (aw [(key,val)]) rfl rfl (dQ _ (key,val) _) (aF _) Fi Fj (aI _ _ pT) ?_)
         intro v3 w3 aB az cN;obtain⟨g3,yq,hv,d_⟩:=lJ fE.1 fE.2.1 ⟨dG,jC⟩ cN aB;subst hv;have cJ:Below w.heap.size w w3:=(we.alloc pT _).grown az (aI _ _ pT) (fun k e=>by simp[Value.ownBlock] at e; have:=fE.lt; omega)
         have yr:w.heap.size≤w3.heap.size:=cJ.size;have Fk:=h.below cJ;have zz:k+1+(l.length - k)≤maxLen:=by unfold maxLen; omega
         have Ep:(k+1+(l.length - k)) * 32≤140737488355328:=by omega
         have B6:(aw (l.drop k)).length=(l.length - k) * 2:=by rw[bo,List.length_drop]
         clear aB az cN fE we Fi Fj;by_cases Iz:cap=k
         · have RK:Hid (∀j v,(aw (l.drop k))[j]? =some v→w3.cell? ((⟨b,off,none⟩:Addr).add j)=some v):=by
            show∀j v,_→_;intro j v hj;rw[Ro.out] at hj;simp[aw] at hj
           go_wp2_with (at_builtin; refine wpList_append_own _ rfl (.tmp 57) (.tmp 60) 37 rfl w.heap.size 100 i0 (.agg #[.string ⟨#[]⟩,.string ⟨#[]⟩]) 2 32 Tryz.underlying37 jG dm dk cA rfl (by decide) _ _ _ rfl d_.2.2 ⟨b,off,none⟩ (l.length - k) _ (aw (l.drop k)) rfl B6 RK.out (aF _) zz Ep yr ?_)
           intro v4 w4 aB az cN;have bY:¬v4=.slice none 0 0:=by simpa using cN
           rw[←cj] at aB;obtain⟨g4,IA,hv,dT⟩:=df (n:=k+1+(l.length - k)) (by simp; omega) (fun q hq=>by
            rcases List.mem_append.1 hq with h1 | h1
            · exact d_.2.1 q h1
            · exact eW q (List.mem_of_mem_drop h1)) bY aB
           subst hv;have ej:Below w.heap.size w w4:=cJ.grown az yr (fun k e=>by simp[Value.ownBlock] at e; have:=d_.lt; omega)
           have H_:=Hid.mk' dT;clear aB az cN bY dT;go_wp2_with (at_builtin; fail)
           go_ret;refine⟨g4,_,IA,rfl,?_,ej⟩;rw[HP.out,←HE.out];have:=H_.out;rw[List.append_assoc] at this;exact this
         · have RK:Hid (∀j v,(aw (l.drop k))[j]? =some v→w3.cell? ((⟨b,off+k * 2,none⟩:Addr).add j)=some v):=by
            show∀j v,_→_;intro j v hj;rw[Ro.out] at hj;simp[aw] at hj
           go_wp2_with (at_builtin; refine wpList_append_own _ rfl (.tmp 57) (.tmp 60) 37 rfl w.heap.size 100 i0 (.agg #[.string ⟨#[]⟩,.string ⟨#[]⟩]) 2 32 Tryz.underlying37 jG dm dk cA rfl (by decide) _ _ _ rfl d_.2.2 ⟨b,off+k * 2,none⟩ (l.length - k) _ (aw (l.drop k)) rfl B6 RK.out (aF _) zz Ep yr ?_)
           intro v4 w4 aB az cN;have bY:¬v4=.slice none 0 0:=by simpa using cN
           rw[←cj] at aB;obtain⟨g4,IA,hv,dT⟩:=df (n:=k+1+(l.length - k)) (by simp; omega) (fun q hq=>by
            rcases List.mem_append.1 hq with h1 | h1
            · exact d_.2.1 q h1
            · exact eW q (List.mem_of_mem_drop h1)) bY aB
           subst hv;have ej:Below w.heap.size w w4:=cJ.grown az yr (fun k e=>by simp[Value.ownBlock] at e; have:=d_.lt; omega)
           have H_:=Hid.mk' dT;clear aB az cN bY dT;go_wp2_with (at_builtin; fail)
           go_ret;refine⟨g4,_,IA,rfl,?_,ej⟩;rw[HP.out,←HE.out];have:=H_.out;rw[List.append_assoc] at this;exact this
end av
namespace last
open Go Go.RowKit
section
variable{P:Program}{ops:Array Oper}{md:Region.Mode}{C:World→Prop}
def uk(P:Program)(md:Region.Mode)(ops:Array Oper)(C:World→Prop)(z:Nat)(Q:Act→Prop):Nat→Array Bool→Act→Prop
 | 0,ax,a=>(Region.ready md ops ax=[z]∧Region.ready md ops (ax.setIfInBounds z true)=[])∧Q a
 | fuel+1,ax,a=>(z∉Region.ready md ops ax∧Region.ready md ops ax≠[])∧
  ∀i∈Region.ready md ops ax,qOp P ops C i (uk P md ops C z Q fuel (ax.setIfInBounds i true)) a
theorem um{z:Nat}{Q:Act→Prop}{Q':Exit→Act→World→Prop}(hQ:∀a w,C w→Q a→wpOp P ops Q' z (fun a' w'=>Q' .normal a' w') a w):∀(fuel:Nat) (ax:Array Bool) (a:Act) (w:World),C w→
 uk P md ops C z Q fuel ax a→wpAny P md ops Q' (fuel+1) ax a w
 | 0,ax,a,w,hw,h=>by
  refine⟨fun h0=>(by rw[h.1.1] at h0; cases h0),fun i hi=>?_⟩
  rw[h.1.1] at hi;have:i=z:=by simpa using hi
  subst this;exact wpOp_mono (fun a' w' h'=>⟨h.1.2,h'⟩) (hQ a w hw h.2)
 | fuel+1,ax,a,w,hw,h=>
  ⟨fun h0=>absurd h0 h.1.2,fun i hi=>wpOp_of_qOp hw (fun a' w' VD=>um hQ fuel _ a' w' VD) (h.2 i hi)⟩
theorem iQ{i j:Nat}{o:Oper}{ax:Array Bool}(hi:i∈Region.ready md ops ax)(hj:j∈Region.ready md ops ax)(ho:ops[j]? =some o):
 ∀e∈o.after,Region.binds md e=true→e.on≠i:=by
 rintro e he hb rfl;obtain⟨_,o',VE,iD⟩:=mem_ready.1 hj;obtain rfl:=Option.some.inj (VE.symm.trans ho);have yes:=iD e he hb;have no:=(mem_ready.1 hi).1;by_cases hs:e.on<ax.size
 · simp only[Array.getD,hs,dif_pos] at yes no;exact Bool.noConfusion (yes.symm.trans no)
 · simp[Array.getD,hs] at yes
def Er(md:Region.Mode)(ops:Array Oper)(i:Nat)(oi:Oper)(ax:Array Bool):Prop:=
 ∀j oj,ops[j]? =some oj→j≠i→ax.getD j true=false→(∀e∈oj.after,Region.binds md e=true→e.on≠i)→oi.apart ops oj=true
theorem Er.less{i:Nat}{oi:Oper}{ax:Array Bool}(h:Er md ops i oi ax)(k:Nat):Er md ops i oi (ax.setIfInBounds k true):=by
 intro j oj hj aW IB;refine h j oj hj aW ?_;by_cases e:k=j
 · subst e;by_cases hs:k<ax.size
   · simp[Array.getD,hs] at IB
   · simp[Array.getD,hs] at IB
 · rwa[getD_set_ne true e] at IB
theorem yt{z:Nat}{Q:Act→Prop}{i:Nat}{oi:Oper}{v:Value}(hi:ops[i]? =some oi)(Ae:∀(j:Nat) (o:Oper) cs b,ops[j]? =some o→o.op≠ .select cs b)
 {oz:Oper} (hz:ops[z]? =some oz) (CI:∃e∈oz.after,Region.binds md e=true∧e.on=i) (fuel:Nat):
 ∀(ax:Array Bool) (a:Act),Er md ops i oi ax→i∈Region.ready md ops ax→YieldsIn P ops C oi v a→
  uk P md ops C z Q fuel (ax.setIfInBounds i true) (a.put oi.dst v)→uk P md ops C z Q (fuel+1) ax a:=by
 have IC:∀ {ax:Array Bool},i∈Region.ready md ops ax→z∉Region.ready md ops ax:=fun hr hzr=>by
  obtain⟨e,he,hb,heq⟩:=CI;exact iQ hr hzr hz e he hb heq
 induction fuel with
 | zero=>
  intro ax a _ hr hy H;refine⟨⟨IC hr,List.ne_nil_of_mem hr⟩,fun j hj=>?_⟩
  rcases Decidable.em (j=i) with rfl | sD
  · exact hy.qOp hi H
  · have ID:=H.1.1 ▸ ready_mono hj sD;exact absurd (List.mem_singleton.1 ID ▸ hj) (IC hr)
 | succ fuel ih=>
  intro ax a Fl hr hy H;refine⟨⟨IC hr,List.ne_nil_of_mem hr⟩,fun j hj=>?_⟩
  rcases Decidable.em (j=i) with rfl | sD
  · exact hy.qOp hi H
  · obtain⟨IB,oj,Af,_⟩:=mem_ready.1 hj;have step:=qOp_put Af (Fl j oj Af sD IB (iQ hr hj Af)) (Ae i oi · · hi) (Ae j oj · · Af) hy (H.2 j (ready_mono hj sD));refine qOp_mono (fun a' (h:_∧_)=>ih _ a' (Fl.less j) (ready_mono hr (Ne.symm sD)) h.1 ?_) step
    exact Array.setIfInBounds_comm (xs:=ax) true true sD ▸ h.2
def waits(md:Region.Mode)(oz:Oper)(k:Nat):Bool:=oz.after.any fun e=>Region.binds md e && e.on==k
def CJ(md:Region.Mode)(ops:Array Oper)(z:Nat)(oz:Oper):Nat→Nat→Array Bool→Bool
 | 0,_,ax=>decide (Region.ready md ops ax=[z]) && decide (Region.ready md ops (ax.setIfInBounds z true)=[])
 | fuel+1,k,ax=>(Region.ready md ops ax).contains k && Region.free md ops ax k && waits md oz k && CJ md ops z oz fuel (k+1) (ax.setIfInBounds k true)
theorem uo{z:Nat}{oz:Oper}{Q:Act→Prop}(hs:Region.noSelect ops=true)(hz:ops[z]? =some oz):∀(l:List Oper) (k:Nat) (ax:Array Bool) (a:Act),(∀j,j<l.length→l[j]? =ops[k+j]?)→
 CJ md ops z oz l.length k ax=true→wpQuiet P ops C Q l a→uk P md ops C z Q l.length ax a
 | [],_,_,_,_,hB,h=>⟨by simpa[CJ] using hB,h⟩
 | o::l,k,ax,a,hl,hB,h=>by
  have h0:ops[k]? =some o:=by simpa using (hl 0 (by simp)).symm
  simp only[List.length_cons,CJ,Bool.and_eq_true] at hB;obtain⟨⟨⟨hr,hf⟩,hw⟩,hB'⟩:=hB;have cc:qOp P ops C k (wpQuiet P ops C Q l) a:=by unfold qOp; simp only[h0]; exact h
  obtain⟨v,hy,hK⟩:=yieldsIn_of_qOp h0 cc;have Hb:∃e∈oz.after,Region.binds md e=true∧e.on=k:=by
   obtain⟨e,he,hb⟩:=Array.any_eq_true'.1 hw;simp only[Bool.and_eq_true,beq_iff_eq] at hb;exact⟨e,he,hb⟩
  exact yt h0 (Region.noSelect_spec hs) hz Hb l.length ax a (Region.free_spec h0 hf) (by simpa using hr) hy
   (uo hs hz l (k+1) _ _ (fun j hj=>by have:=hl (j+1) (by simpa using hj); simpa[Nat.add_assoc,Nat.add_comm 1 j] using this) hB' hK)
theorem tr{id:Nat}{Q:Exit→Act→World→Prop}{a:Act}{w:World}(l:List Oper)(st:Oper)(hm:P.follows .mixedOrders=true)(hs:Region.noSelect (l++[st]).toArray=true)
 (hB:CJ .any (l++[st]).toArray l.length st l.length 0 (Array.replicate (l++[st]).toArray.size false)=true) (hC:C {w with drawn:=w.drawn+1})
 (h:wpQuiet P (l++[st]).toArray C (fun a'=>∀w',C w'→wpList P (l++[st]).toArray Q [st] a' w') l a):
 (Code.region id (l++[st]).toArray true).wp P Q a w:=by
 have hz:(l++[st]).toArray[l.length]? =some st:=by simp
 have iO:(l++[st]).toArray.size=l.length+1:=by simp
 have h1:=uo (md:=.any) hs hz l 0 (Array.replicate (l++[st]).toArray.size false) a (fun j hj=>by simp[List.getElem?_append,hj]) hB h
 have h2:=um (Q':=Q) (fun a' w' VD h'=>by
  have:=h' w' VD;unfold wpOp;simp only[hz];exact this) l.length _ a ({w with drawn:=w.drawn+1}) hC h1
 refine wp_region_any hm ?_;rw[iO] at h2 ⊢;exact h2
theorem o_{id:Nat}{Q:Exit→Act→World→Prop}{a:Act}{w:World}{L:List Oper}(n:Nat)(st:Oper)(hL:L=L.take n++[st])(hm:P.follows .mixedOrders=true)(hs:Region.noSelect L.toArray=true)
 (hB:CJ .any L.toArray (L.take n).length st (L.take n).length 0 (Array.replicate L.toArray.size false)=true) (hC:C {w with drawn:=w.drawn+1})
 (h:wpQuiet P L.toArray C (fun a'=>∀w',C w'→wpList P L.toArray Q [st] a' w') (L.take n) a):
 (Code.region id L.toArray true).wp P Q a w:=by
 have:=tr (P:=P) (id:=id) (Q:=Q) (a:=a) (w:=w) (C:=C) (L.take n) st hm;rw[←hL] at this;exact this hs hB hC h
/-! ### calls that make memory: the class of the worlds that go on from w -/
def On(B:Nat)(w:World):Type:={w':World // Below B w w'}
def On.w{B:Nat}{w:World}(x:On B w):World:=x.1
theorem On.gV(B:Nat)(w:World):Nonempty (On B w):=⟨⟨w,Below.refl _ _⟩⟩
theorem ai{id:Nat}{Q:Exit→Act→World→Prop}{a:Act}{w:World}{l:List Oper}(B:Nat)(hm:P.follows .mixedOrders=true)(hB:Region.lexB .any l.toArray=true)
 (h:wpQuiet P l.toArray (fun w'=>∃x:On B w,w'=x.w) (fun a'=>∀w',(∃x:On B w,w'=x.w)→Q .normal a' w') l a):(Code.region id l.toArray true).wp P Q a w:=
 wp_region_quiet (C:=fun w'=>∃x:On B w,w'=x.w) hm hB ⟨⟨w.drew,(Below.refl _ _).drew⟩,rfl⟩ (by simpa using h)
theorem kG{id:Nat}{Q:Exit→Act→World→Prop}{a:Act}{w:World}{L:List Oper}(B:Nat)(n:Nat)(st:Oper)(hL:L=L.take n++[st])(hm:P.follows .mixedOrders=true)(hs:Region.noSelect L.toArray=true)
 (hB:CJ .any L.toArray (L.take n).length st (L.take n).length 0 (Array.replicate L.toArray.size false)=true)
 (h:wpQuiet P L.toArray (fun w'=>∃x:On B w,w'=x.w) (fun a'=>∀w',(∃x:On B w,w'=x.w)→wpList P L.toArray Q [st] a' w') (L.take n) a):
 (Code.region id L.toArray true).wp P Q a w:=o_ n st hL hm hs hB ⟨⟨w.drew,(Below.refl _ _).drew⟩,rfl⟩ h
theorem Calls.on{f:FuncId}{args:Array Value}{B:Nat}{w:World}{v:Value}(x:On B w)(tt:B≤w.heap.size)(h:Calls P f args x.w fun e w'=>e=.returned v∧Below x.w.heap.size x.w w'):
 Calls P f args x.w fun e Ie=>e=.returned v∧∃y:On B w,Ie=y.w:=
 h.mono fun _ Ie ⟨he,hb⟩=>⟨he,⟨Ie,x.2.trans (hb.mono (Nat.le_trans tt x.2.size))⟩,rfl⟩
theorem On.cell{B:Nat}{w:World}{b o:Nat}{v:Value}(h:w.cell? ⟨b,o,none⟩=some v)(hb:b<B):∀x:On B w,x.w.cell? ⟨b,o,none⟩=some v:=
 fun x=>(x.2.cell (p:=⟨b,o,none⟩) hb).trans h
end
end last
namespace av
open Go Go.RowKit base
theorem IE{W w':World}{b o:Nat}{v:Value}(hb:Below W.heap.size W w')(h:W.cell? ⟨b,o,none⟩=some v):w'.cell? ⟨b,o,none⟩=some v:=
 (hb.cell (p:=⟨b,o,none⟩) (World.block_lt_of_cell? W _ h)).trans h
theorem CK{W w':World}{b o1 o2:Nat}{v1 v2:Value}(hb:Below W.heap.size W w')(h:W.cell? ⟨b,o1,none⟩=some v1∧W.cell? ⟨b,o2,none⟩=some v2):
 w'.cell? ⟨b,o1,none⟩=some v1∧w'.cell? ⟨b,o2,none⟩=some v2:=⟨IE hb h.1,IE hb h.2⟩
theorem dg{W w':World}{b o1 o2 o3:Nat}{v1 v2 v3:Value}(hb:Below W.heap.size W w')(h:W.cell? ⟨b,o1,none⟩=some v1∧W.cell? ⟨b,o2,none⟩=some v2∧W.cell? ⟨b,o3,none⟩=some v3):
 w'.cell? ⟨b,o1,none⟩=some v1∧w'.cell? ⟨b,o2,none⟩=some v2∧w'.cell? ⟨b,o3,none⟩=some v3:=⟨IE hb h.1,CK hb h.2⟩
end av
namespace aN
open Go Go.RowKit base av
theorem jE(x a b:Int)(w:World):
    Calls Tryz.prog 32 #[.int .i64 x,.int .i64 a,.int .i64 b] w fun e w'=>e=.returned (.bool (decide (a≤x∧x≤b)))∧w'=w:=by
  by_cases h1:a≤x
  · by_cases h2:x≤b
    · go_enter Tryz.func32,Tryz.ntmps32;go_wp2;go_ret;exact⟨aj (by simp[h1,h2]),rfl⟩
    · go_enter Tryz.func32,Tryz.ntmps32;go_wp2;go_ret;exact⟨aj (by simp[h1,h2]),rfl⟩
  · go_enter Tryz.func32,Tryz.ntmps32;go_wp2;go_ret
    exact⟨aj (by have h3:¬a≤x:=by omega
                 simp[h3]),rfl⟩
theorem size_empty{v:ByteArray}(h:v.size=0):v=⟨#[]⟩:=by
 apply jM; exact List.eq_nil_of_length_eq_zero (by rw[Array.length_toList]; exact h)
theorem jN{v:ByteArray}(h:¬v.size=0):¬v.toList=[]∧v.toList.isEmpty=false:=by
  have hq:¬v.toList=[]:=fun e=>h (by have:v=⟨#[]⟩:=jM (by rw[←ByteArray.toList_eq]; exact e)
                                     rw[this]; rfl)
  exact⟨hq,by rw[Bool.eq_false_iff]; intro e; exact hq (List.isEmpty_iff.1 e)⟩
theorem lK(o:Od)(w:World)(ho:dN o)(hs:o.2.1.size≤1099511627776):
 Calls Tryz.prog 142 #[.agg #[.int .i64 o.1,.string o.2.1,.string o.2.2]] w fun e w'=>e=.returned (.bool (dF o))∧Below w.heap.size w w':=by
 obtain⟨z,k,v⟩:=o;have h2:=ho.2.2;simp only[] at h2 hs ⊢;unfold maxLen at h2;have bg:Below w.heap.size w (w.alloc (.cells #[.int .i64 z,.string k,.string v] 121)):=(Below.refl _ _).alloc (Nat.le_refl _) _;have gZ:=jE z 1 3 (w.alloc (.cells #[.int .i64 z,.string k,.string v] 121));have hk:=CE k (w.alloc (.cells #[.int .i64 z,.string k,.string v] 121)) hs;generalize hK:gD k=K at hk;have H1:=Hid.mk' hK;have HK:=Hid.mk' hk;clear hk hK ho;by_cases hz:1≤z∧z≤3
 · rw[decide_eq_true hz] at gZ;have HI:=Hid.mk' gZ;clear gZ;by_cases cA:z=2
   · subst cA;by_cases hv:v.size=0
     · obtain rfl:=size_empty hv;clear hz hv;go_enter Tryz.func142,Tryz.ntmps142;go_wp2_with fail;refine HI.out.mono ?_;rintro e w1 ⟨rfl,rfl⟩;go_wp2_with fail;refine HK.out.mono ?_;rintro e w1 ⟨rfl,rfl⟩;cases K;all_goals
        go_wp2_with fail;go_ret;exact⟨aj (by unfold dF; rw[H1.out]; rfl),bg⟩
     · have HV:=Hid.mk' hv;obtain⟨hq,sk⟩:=jN hv;clear hz hv;go_enter Tryz.func142,Tryz.ntmps142;go_wp2_with fail;refine HI.out.mono ?_;rintro e w1 ⟨rfl,rfl⟩;go_wp2_with fail;go_ret;exact⟨aj (by have:=HV.out; unfold dF; simp[this]),bg⟩
   · have HZ:=Hid.mk' hz;have HZ2:=Hid.mk' cA;have hb:(z==2)=false:=beq_eq_false_iff_ne.2 cA;clear hz cA;go_enter Tryz.func142,Tryz.ntmps142;go_wp2_with fail;refine HI.out.mono ?_;rintro e w1 ⟨rfl,rfl⟩;go_wp2_with fail;refine HK.out.mono ?_;rintro e w1 ⟨rfl,rfl⟩;cases K;all_goals
      go_wp2_with fail;go_ret;exact⟨aj (by have a:=HZ.out; have b:=HZ2.out; unfold dF; rw[H1.out]; simp[a,b]; try omega),bg⟩
 · rw[decide_eq_false hz] at gZ;have HI:=Hid.mk' gZ;have HZ:=Hid.mk' hz;clear gZ hz;go_enter Tryz.func142,Tryz.ntmps142;go_wp2_with fail;refine HI.out.mono ?_;rintro e w1 ⟨rfl,rfl⟩;go_wp2_with fail;go_ret;exact⟨aj (by unfold dF; rw[decide_eq_false HZ.out]; rfl),bg⟩
end aN
namespace aN
open Go Go.RowKit base av
def lL(l:List Od)(k:Nat):Option ByteArray:=if k=0 then none else(l[k - 1]?).map (·.2.1)
theorem yu(l:List Od)(k:Nat)(h:k<l.length)(h0:k=0):cZ (lL l k) (l.drop k)=(dF l[k] && cZ (lL l (k+1)) (l.drop (k+1))):=by
 subst h0;cases l with
 | nil=>simp at h
 | cons p l=>simp[lL,cZ]
theorem yw(l:List Od)(k:Nat)(h:k<l.length)(h0:0<k):cZ (lL l k) (l.drop k)=(dF l[k] && kt l[k - 1].2.1 l[k].2.1 && cZ (lL l (k+1)) (l.drop (k+1))):=by
 have e1:lL l k=some l[k - 1].2.1:=by unfold lL; rw[if_neg (by omega),List.getElem?_eq_getElem (by omega)]; rfl
 have e2:lL l (k+1)=some l[k].2.1:=by unfold lL; rw[if_neg (by omega),Nat.add_sub_cancel,List.getElem?_eq_getElem h]; rfl
 rw[e1,e2,List.drop_eq_getElem_cons h,cZ]
theorem pU(b off len cap:Nat)(l:List Od)(w:World)(h:dD w (some ⟨b,off,none⟩) len l)(dG:∀p∈l,p.2.1.size≤1099511627776):
    Calls Tryz.prog 100 #[.slice (some ⟨b,off,none⟩) len cap] w fun e w'=>e=.returned (.bool (bM l))∧Below w.heap.size w w':=by
  have hl:=h.1;have hm:=h.2.1;have eW:=h.2.2.1;subst hl;unfold maxLen at hm;generalize hR:cZ none l=R;have HR:=Hid.mk' hR;clear hR;go_enter Tryz.func100,Tryz.ntmps100;go_wp2_with fail;go_loopw [3] (fun i wr=>∃k:Nat,k≤l.length∧i=.int .i64 (k:Int)∧cZ (lL l k) (l.drop k)=R∧Below w.heap.size w wr) (fun i _=>l.length - (intOf i).toNat)
  case atStart=>exact⟨0,Nat.zero_le _,rfl,HR.out,Below.refl _ _⟩
  case round=>
    obtain⟨k,hk,rfl,hr,hB⟩:=hrel;by_cases a6:k<l.length
    · have hS:=h.below hB;obtain⟨c0,c1,c2⟩:=hS.cells k a6;have pd:=hS.lt (by omega)
      have mh:=eW _ (List.getElem_mem a6);have yx:=dG _ (List.getElem_mem a6);have fL:(k:Int)<(l.length:Int):=by omega
      have mg:b<wr.drew.heap.size:=pd;by_cases h0:k=0
      · have cc:=yu l k a6 h0;rw[hr] at cc;have B8:¬(0:Int)<(k:Int):=by omega
        have nr:decide (0<k)=false:=by simp; omega
        have gY:decide ((0:Int)<(k:Int))=false:=by simp; omega
        cases hP:dF l[k]
        · have HF:Hid (R=false):=by rw[hP] at cc; exact cc
          have HP:=Hid.mk' hP;clear cc hr hP hS h0;generalize l[k]=p at *;have o0:=last.On.cell c0 pd;have o1:=last.On.cell c1 pd;have o2:=last.On.cell c2 pd;go_wp2_with fail;have a_:=last.On.gV wr.heap.size wr;have dX:∀x:last.On wr.heap.size wr,Calls Tryz.prog 142 #[.agg #[.int .i64 p.1,.string p.2.1,.string p.2.2]] x.w fun e w'=>e=.returned (.bool false)∧∃y:last.On wr.heap.size wr,w'=y.w:=fun x=>last.Calls.on x (Nat.le_refl _) (by have:=lK p x.w mh yx; rw[HP.out] at this; exact this)
          refine last.ai wr.heap.size (by kernel_rfl) (by kernel_rfl) ?_
          repeat(go_big_quiet_step ((go_at_call 142; exact dX _)))
          refine wpQuiet_nil ?_;intro w5 bP;obtain⟨x5,bP⟩:=bP;subst bP;have ec:Below w.heap.size w x5.w:=hB.trans (x5.2.mono hB.size);go_wp2_with fail;go_ret;exact⟨aj (by unfold bM; rw[HR.out,HF.out]; rfl),ec⟩
        · have HF:Hid (cZ (lL l (k+1)) (l.drop (k+1))=R):=by show _=_; rw[hP] at cc; simpa using cc.symm
          have HP:=Hid.mk' hP;clear cc hr hP hS h0;generalize l[k]=p at *;have o0:=last.On.cell c0 pd;have o1:=last.On.cell c1 pd;have o2:=last.On.cell c2 pd;go_wp2_with fail;have a_:=last.On.gV wr.heap.size wr;have dX:∀x:last.On wr.heap.size wr,Calls Tryz.prog 142 #[.agg #[.int .i64 p.1,.string p.2.1,.string p.2.2]] x.w fun e w'=>e=.returned (.bool true)∧∃y:last.On wr.heap.size wr,w'=y.w:=fun x=>last.Calls.on x (Nat.le_refl _) (by have:=lK p x.w mh yx; rw[HP.out] at this; exact this)
          refine last.ai wr.heap.size (by kernel_rfl) (by kernel_rfl) ?_
          repeat(go_big_quiet_step ((go_at_call 142; exact dX _)))
          refine wpQuiet_nil ?_;intro w5 bP;obtain⟨x5,bP⟩:=bP;subst bP;have ec:Below w.heap.size w x5.w:=hB.trans (x5.2.mono hB.size);go_wp2_with fail;go_roundw
          case rel=>exact⟨k+1,by omega,by go_num,HF.out,ec⟩
          case measure=>simp[intOf]; omega
      · have cc:=yw l k a6 (by omega)
        rw[hr] at cc;have B8:(0:Int)<(k:Int):=by omega
        have nr:decide (0<k)=true:=by simp; omega
        have gY:decide ((0:Int)<(k:Int))=true:=by simp; omega
        have c3:=(hS.cells (k - 1) (by omega)).2.1
        obtain⟨j,hj⟩:∃j,k - 1=j:=⟨_,rfl⟩;have RL:(k:Int) - 1=(j:Int):=by omega
        have QU:(j:Int)<(l.length:Int):=by omega
        generalize l[k - 1].2.1=q at *;rw[hj] at c3;have o3:=last.On.cell c3 pd;cases hP:dF l[k]
        · have HF:Hid (R=false):=by rw[hP] at cc; exact cc
          have HP:=Hid.mk' hP;clear cc hr hP hS h0 hj;generalize l[k]=p at *;have o0:=last.On.cell c0 pd;have o1:=last.On.cell c1 pd;have o2:=last.On.cell c2 pd;go_wp2_with fail;have a_:=last.On.gV wr.heap.size wr;have dX:∀x:last.On wr.heap.size wr,Calls Tryz.prog 142 #[.agg #[.int .i64 p.1,.string p.2.1,.string p.2.2]] x.w fun e w'=>e=.returned (.bool false)∧∃y:last.On wr.heap.size wr,w'=y.w:=fun x=>last.Calls.on x (Nat.le_refl _) (by have:=lK p x.w mh yx; rw[HP.out] at this; exact this)
          refine last.ai wr.heap.size (by kernel_rfl) (by kernel_rfl) ?_
          repeat(go_big_quiet_step ((go_at_call 142; exact dX _)))
          refine wpQuiet_nil ?_;intro w5 bP;obtain⟨x5,bP⟩:=bP;subst bP;have ec:Below w.heap.size w x5.w:=hB.trans (x5.2.mono hB.size);go_wp2_with fail;go_ret;exact⟨aj (by unfold bM; rw[HR.out,HF.out]; rfl),ec⟩
        · cases hL:kt q l[k].2.1
          · have HF:Hid (R=false):=by show _=_; rw[hP,hL] at cc; simpa using cc
            have HP:=Hid.mk' hP;have jh:Op.bytesLess q.toList l[k].2.1.toList=false:=hL;clear cc hr hP hS h0 hj hL;generalize l[k]=p at *;have o0:=last.On.cell c0 pd;have o1:=last.On.cell c1 pd;have o2:=last.On.cell c2 pd;go_wp2_with fail;have a_:=last.On.gV wr.heap.size wr;have dX:∀x:last.On wr.heap.size wr,Calls Tryz.prog 142 #[.agg #[.int .i64 p.1,.string p.2.1,.string p.2.2]] x.w fun e w'=>e=.returned (.bool true)∧∃y:last.On wr.heap.size wr,w'=y.w:=fun x=>last.Calls.on x (Nat.le_refl _) (by have:=lK p x.w mh yx; rw[HP.out] at this; exact this)
            refine last.ai wr.heap.size (by kernel_rfl) (by kernel_rfl) ?_
            repeat(go_big_quiet_step ((go_at_call 142; exact dX _)))
            refine wpQuiet_nil ?_;intro w5 bP;obtain⟨x5,bP⟩:=bP;subst bP;have ec:Below w.heap.size w x5.w:=hB.trans (x5.2.mono hB.size);go_wp2_with fail;go_ret;exact⟨aj (by unfold bM; rw[HR.out,HF.out]; rfl),ec⟩
          · have HF:Hid (cZ (lL l (k+1)) (l.drop (k+1))=R):=by show _=_; rw[hP,hL] at cc; simpa using cc.symm
            have HP:=Hid.mk' hP;have jh:Op.bytesLess q.toList l[k].2.1.toList=true:=hL;clear cc hr hP hS h0 hj hL;generalize l[k]=p at *;have o0:=last.On.cell c0 pd;have o1:=last.On.cell c1 pd;have o2:=last.On.cell c2 pd;go_wp2_with fail;have a_:=last.On.gV wr.heap.size wr;have dX:∀x:last.On wr.heap.size wr,Calls Tryz.prog 142 #[.agg #[.int .i64 p.1,.string p.2.1,.string p.2.2]] x.w fun e w'=>e=.returned (.bool true)∧∃y:last.On wr.heap.size wr,w'=y.w:=fun x=>last.Calls.on x (Nat.le_refl _) (by have:=lK p x.w mh yx; rw[HP.out] at this; exact this)
            refine last.ai wr.heap.size (by kernel_rfl) (by kernel_rfl) ?_
            repeat(go_big_quiet_step ((go_at_call 142; exact dX _)))
            refine wpQuiet_nil ?_;intro w5 bP;obtain⟨x5,bP⟩:=bP;subst bP;have ec:Below w.heap.size w x5.w:=hB.trans (x5.2.mono hB.size);go_wp2_with fail;go_roundw
            case rel=>exact⟨k+1,by omega,by go_num,HF.out,ec⟩
            case measure=>simp[intOf]; omega
    · have HF:Hid (R=true):=by show _=_; rw[←hr,List.drop_eq_nil_of_le (by omega)]; cases lL l k <;> rfl
      clear hr;go_wp2_with fail;refine(jE (l.length:Int) 1 8 _).mono ?_;rintro e w9 ⟨rfl,rfl⟩;go_wp2_with fail;go_ret
      exact⟨aj (by unfold bM; rw[HR.out,HF.out,Bool.true_and]; have e:(1≤(l.length:Int)∧(l.length:Int)≤8)↔(1≤l.length∧l.length≤8):=by omega
                   rw[←Bool.decide_and]; exact decide_eq_decide.2 e),hB⟩
end aN
end Go.Proofs.YtmibabclefgljaaGreat
