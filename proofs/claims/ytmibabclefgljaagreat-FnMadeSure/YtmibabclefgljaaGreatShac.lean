/- PairS PairT PairU Last PairV OrdS OrdT -/
import Derived.Test.YtmibabclefgljaaGreatShab
import Derived.Deep.RegionHeld3
import Derived.Deep.QuietTactic
import Derived.BigQuiet
import Derived.WalkKit
import Derived.WalkSpells
import Derived.WalkLawsBesides
set_option linter.unusedVariables false
set_option linter.unusedSimpArgs false
set_option maxRecDepth 100000
set_option maxHeartbeats 2000000
namespace Go.Proofs.YtmibabclefgljaaGreat
namespace aE
open Go Go.RowKit base
theorem sR{W w1:World}(hb:Below W.heap.size W w1):(∀b o,b<W.heap.size→w1.cell? ⟨b,o,none⟩=W.cell? ⟨b,o,none⟩):=
 fun b o h=>hb.cell (p:=⟨b,o,none⟩) h
theorem IG(x a b:Int)(w:World)(hx: -1000≤x∧x≤1099511627776)(ha:0≤a∧a≤1000)(hb:0≤b∧b≤1000):
    Calls Tryz.prog 32 #[.int .i64 x,.int .i64 a,.int .i64 b] w fun e w'=>e=.returned (.bool (decide (a≤x∧x≤b)))∧w'=w:=by
  by_cases h1:a≤x
  · by_cases h2:x≤b
    · aj Tryz.func32,Tryz.ntmps32;bf;an;exact⟨au (by simp[h1,h2]),rfl⟩
    · aj Tryz.func32,Tryz.ntmps32;bf;an;exact⟨au (by simp[h1,h2]),rfl⟩
  · aj Tryz.func32,Tryz.ntmps32;bf;an;exact⟨au (by have h3:¬a≤x:=by omega
                        simp[h3]),rfl⟩
theorem sS(s:ByteArray)(k:Nat)(h:k<s.size):ly (s.data.toList.drop k)=(gR s[k].toNat && ly (s.data.toList.drop (k+1))):=by
 rw[List.drop_eq_getElem_cons (by simpa using h)]; rfl
theorem CT(s:ByteArray)(w:World)(hs:s.size≤1099511627776):
 Calls Tryz.prog 171 #[.string s] w fun e w'=>e=.returned (.bool (gS s))∧w'=w:=by
 generalize hR:ly s.data.toList=R;have HR:=Hid.mk' hR;clear hR;aj Tryz.func171,Tryz.ntmps171;bf;jv [3] (fun i=>∃k:Nat,k≤s.size∧i=.int .i64 (k:Int)∧ly (s.data.toList.drop k)=R) (fun i=>s.size - (intOf i).toNat)
 case atStart=>exact⟨0,Nat.zero_le _,rfl,HR.out⟩
 case round=>
  obtain⟨k,hk,rfl,hr⟩:=hrel;by_cases bn:k<s.size
  · have cF:=sS s k bn;rw[hr] at cF;have hc:=s[k].toNat_lt;generalize hC:s[k].toNat=c at *;have ir:=Hid.mk' cF;have HC:=Hid.mk' hC;clear cF hr;have fZ:(k:Int)<(s.size:Int):=by omega
    by_cases h1:97≤c∧c≤122
    · have HF:Hid (ly (s.data.toList.drop (k+1))=R):=by
       show _=_;have:=ir.out; rw[show gR c=true by simp[gR,h1]] at this; simpa using this.symm
      have hl:=IG (c:Int) 97 122 w (by omega) (by omega) (by omega)
      rw[decide_eq_true (by omega)] at hl
      have HL:=Hid.mk' hl;clear hl ir;ab fail;refine HL.out.mono ?_;rintro e w1 ⟨rfl,rfl⟩;ab fail;f_
      case rel=>exact⟨k+1,by omega,by aF,HF.out⟩
      case measure=>simp[intOf]; omega
    · have hl:=IG (c:Int) 97 122 w (by omega) (by omega) (by omega)
      rw[decide_eq_false (by omega)] at hl
      have HL:=Hid.mk' hl;clear hl;by_cases h2:48≤c∧c≤57
      · have HF:Hid (ly (s.data.toList.drop (k+1))=R):=by
         show _=_;have:=ir.out; rw[show gR c=true by simp[gR,h2]] at this; simpa using this.symm
        have hl:=IG (c:Int) 48 57 w (by omega) (by omega) (by omega)
        rw[decide_eq_true (by omega)] at hl
        have VM:=Hid.mk' hl;clear hl ir;ab fail;refine HL.out.mono ?_;rintro e w1 ⟨rfl,rfl⟩;ab fail;refine VM.out.mono ?_;rintro e w1 ⟨rfl,rfl⟩;ab fail;f_
        case rel=>exact⟨k+1,by omega,by aF,HF.out⟩
        case measure=>simp[intOf]; omega
      · have HF:Hid (R=false):=by
         show _=_;have:=ir.out; rw[show gR c=false by simp only[gR,h1,h2]; rfl] at this; simpa using this
        have hl:=IG (c:Int) 48 57 w (by omega) (by omega) (by omega)
        rw[decide_eq_false (by omega)] at hl
        have VM:=Hid.mk' hl;clear hl ir;ab fail;refine HL.out.mono ?_;rintro e w1 ⟨rfl,rfl⟩;ab fail;refine VM.out.mono ?_;rintro e w1 ⟨rfl,rfl⟩;ab fail;an;exact⟨au (by unfold gS; rw[HR.out,HF.out]; rfl),rfl⟩
  · have HF:Hid (R=true):=by show _=_; rw[←hr,List.drop_eq_nil_of_le (by simp; omega)]; rfl
    have hl:=IG (s.size:Int) 1 12 w (by omega) (by omega) (by omega)
    rw[show decide ((1:Int)≤(s.size:Int)∧(s.size:Int)≤12)=decide (1≤s.size∧s.size≤12) by rw[decide_eq_decide]; omega] at hl
    have HL:=Hid.mk' hl;clear hl hr;ab fail;refine HL.out.mono ?_;rintro e w1 ⟨rfl,rfl⟩;ab fail;an;exact⟨au (by unfold gS; rw[HR.out,HF.out]; simp),rfl⟩
def r8:Option ByteArray→Value
 | none=>.tuple #[.string ⟨#[]⟩,.bool false]
 | some v=>.tuple #[.string v,.bool true]
theorem ef{a b:ByteArray}(h:a≠b):(a.toList==b.toList)=false:=by
 rw[beq_eq_false_iff_ne]; intro e; rw[ByteArray.toList_eq,ByteArray.toList_eq] at e; exact h (j8 e)
theorem Au(a:Option Addr)(len cap:Nat)(l:List Pr)(key:ByteArray)(w:World)(h:lL w a len l):
 Calls Tryz.prog 168 #[.slice a len cap,.string key] w fun e w'=>e=.returned (r8 (getKey key l))∧w'=w:=by
 obtain⟨hl,hm,fk,hc⟩:=h;subst hl;unfold maxLen at hm;generalize hR:getKey key l=R;have HR:=Hid.mk' hR;clear hR;aj Tryz.func168,Tryz.ntmps168;bf;jv [6] (fun i=>∃k:Nat,k≤l.length∧i=.int .i64 (k:Int)∧getKey key (l.drop k)=R) (fun i=>l.length - (intOf i).toNat)
 case atStart=>exact⟨0,Nat.zero_le _,rfl,HR.out⟩
 case round=>
  obtain⟨k,hk,rfl,hr⟩:=hrel;by_cases bn:k<l.length
  · obtain⟨b,off,ha,cZ⟩:=hc (by omega)
    subst ha;have cF:=nS key l k bn;rw[hr] at cF;obtain⟨c1,c2⟩:=cZ k bn;have fZ:(k:Int)<(l.length:Int):=by omega
    by_cases he:l[k].1=key
    · have HF:Hid (R=some l[k].2):=by rw[if_pos he] at cF; exact cF
      rw[he] at c1;generalize l[k].2=v at *;clear cF hr cZ hc fk he;bf;oZ;exact⟨by rw[HF.out]; rfl,rfl⟩
    · have HF:Hid (getKey key (l.drop (k+1))=R):=by rw[if_neg he] at cF; exact cF.symm
      have hq:=ef he;generalize l[k].1=kk at *;clear cF hr cZ hc fk he;bf;f_
      case rel=>exact⟨k+1,by omega,by aF,HF.out⟩
      case measure=>simp[intOf]; omega
  · have HF:Hid (R=none):=by show _=_; rw[←hr,List.drop_eq_nil_of_le (by omega)]; rfl
    clear hr;bf;oZ;exact⟨by rw[HF.out]; rfl,rfl⟩
end aE
namespace aE
open Go Go.RowKit base
theorem km(l:List Pr)(k:Nat)(h:k<l.length):l.take (k+1)=l.take k++[l[k]]:=List.take_succ_eq_append_getElem h
theorem sT(f:Pr→Bool)(l:List Pr)(k:Nat)(h:k<l.length):(l.take (k+1)).filter f=(l.take k).filter f++if f l[k] then[l[k]] else[]:=by
 rw[km l k h,List.filter_append];cases hf:f l[k] <;> simp[List.filter_cons,hf]
theorem mO{l:List Pr}(h:∀p∈l,small p)(k:Nat):∀p∈l.take k,small p:=fun p hp=>h p (List.mem_of_mem_take hp)
theorem eg(w:World)(p:Pr)(t:TypeId):∀j u,(aG [p])[j]? =some u→(w.alloc (.cells #[.string p.1,.string p.2] t)).cell? ((⟨w.heap.size,0,none⟩:Addr).add j)=some u:=
 Fv w (.string p.1) (.string p.2) t
theorem l5{w':World}{base n:Nat}{v':Value}{l:List Pr}{p:Pr}(hl:l.length=n)(hs:∀q∈l,small q)(hp:small p)(h0:¬v'=.slice none 0 0)
 (h:w'.ownsRow base 100 2 v' (n+1) (aG l++aG [p])):∃g' aY,v'=.slice (some ⟨g',0,none⟩) (n+1) aY∧bX w' base g' (n+1) aY (l++[p]):=by
 rw[←cI] at h;refine dy (by simp; omega) ?_ h0 h
 intro q hq;rcases List.mem_append.1 hq with h1 | h1
 · exact hs q h1
 · simp at h1; subst h1; exact hp
theorem sU(b off len cap:Nat)(l:List Pr)(key:ByteArray)(w:World)(h:lL w (some ⟨b,off,none⟩) len l)(jg:len≤1099511627776):
 Calls Tryz.prog 170 #[.slice (some ⟨b,off,none⟩) len cap,.string key] w fun e w'=>
  ∃g' n' aY,e=.returned (.slice (some ⟨g',0,none⟩) n' aY)∧bX w' w.heap.size g' n' aY (delKey key l)∧Below w.heap.size w w':=by
 obtain⟨i0,hi,dE,dD,cO⟩:=info_parts nt;have hl:=h.1;have fk:=h.2.2.1;subst hl;aj Tryz.func170,Tryz.ntmps170;ab (ak; fail)
 aN [5,6] (fun v i wr=>∃(k g n cp:Nat),k≤l.length∧n≤k∧i=.int .i64 (k:Int)∧v=.slice (some ⟨g,0,none⟩) n cp∧bX wr w.heap.size g n cp (delKey key (l.take k))∧Below w.heap.size w wr) (fun _ i _=>l.length - (intOf i).toNat)
 case atStart=>exact⟨0,w.heap.size,0,0,Nat.zero_le _,Nat.le_refl _,rfl,rfl,cB w _ (Nat.le_refl _),(Below.refl _ _).alloc (Nat.le_refl _) _⟩
 case round=>
  obtain⟨k,g,n,cp,hk,CU,rfl,rfl,hO,hB⟩:=hrel;have nu:w.heap.size≤wr.heap.size:=hB.size;by_cases bn:k<l.length
  · obtain⟨c1,c2⟩:=(h.below hB).cells k bn;have cF:=sT (fun p=>decide (p.1≠key)) l k bn
    have mH:=fk _ (List.getElem_mem bn);have fZ:(k:Int)<(l.length:Int):=by omega
    by_cases he:l[k].1=key
    · have HF:Hid (delKey key (l.take (k+1))=delKey key (l.take k)):=by
       show List.filter _ _=List.filter _ _;rw[cF]; simp[he]
      rw[he] at c1;clear cF;ab (ak; fail)
      aA
      case rel=>exact⟨k+1,g,n,cp,by omega,by omega,by aF,rfl,by rw[HF.out]; exact hO,hB⟩
      case measure=>simp[intOf]; omega
    · have HF:Hid (delKey key (l.take (k+1))=delKey key (l.take k)++[l[k]]):=by
       show List.filter _ _=List.filter _ _++_;rw[cF]; simp[he]
      have hq:=ef he;have fR:n+1≤maxLen:=by unfold maxLen; omega
      have kn:(n+1) * 32≤140737488355328:=by omega
      generalize l[k]=p at *;clear cF he;ab (ak; refine wpList_append_own _ rfl (.tmp 21) (.tmp 26) 37 rfl w.heap.size 100 i0 (.agg #[.string ⟨#[]⟩,.string ⟨#[]⟩]) 2 32 Tryz.underlying37 hi dE dD cO rfl (by decide) _ _ _ rfl (hO.2.2.alloc _) ⟨wr.heap.size,0,none⟩ 1 1 (aG [p]) rfl rfl (eg _ _ _) (aP _) fR kn (aS _ _ nu) ?_)
      intro v2 w2 aK aI db;obtain⟨g2,IH,hv,fS⟩:=l5 hO.1 hO.2.1 mH db aK;subst hv;have dL:Below w.heap.size w w2:=(hB.alloc nu _).grown aI (aS _ _ nu) (fun k e=>by simp[Value.ownBlock] at e; have:=hO.lt; omega)
      rw[←HF.out] at fS;have LO:=Hid.mk' fS;clear aK aI db fS hO hB;ab (ak; fail)
      aA
      case rel=>exact⟨k+1,g2,n+1,IH,by omega,by omega,by aF,rfl,LO.out,dL⟩
      case measure=>simp[intOf]; omega
  · have HE:Hid (l.take k=l):=List.take_of_length_le (by omega)
    ab (ak; fail)
    an;rw[HE.out] at hO;exact⟨g,n,cp,rfl,hO,hB⟩
end aE
namespace aE
open Go Go.RowKit base
theorem nW{key:ByteArray}{l:List Pr}(h:getKey key l=none)(k:Nat)(hk:k<l.length):l[k].1≠key:=by
 intro e;have h2:=pO key (l.take k) (l.drop k);rw[List.take_append_drop,h,nS key l k hk,if_pos e] at h2;cases h3:getKey key (l.take k) <;> rw[h3] at h2 <;> cases h2
theorem xC{key val:ByteArray}{l:List Pr}(k:Nat)(hk:k<l.length)(he:l[k].1=key)(hn:getKey key (l.take k)=none):putKey key val l=l.set k (l[k].1,val):=by
 have h2:=pO key (l.take k) (l.drop k);rw[List.take_append_drop,hn,nS key l k hk,if_pos he] at h2;unfold putKey;rw[h2,if_pos (by rfl),Aj key val l k hk he hn,he]
theorem EE{key val:ByteArray}{l:List Pr}(hn:getKey key l=none):putKey key val l=l.take (below key l)++(key,val)::l.drop (below key l):=by
 unfold putKey; rw[hn]; rfl
theorem Fy(key:ByteArray)(l:List Pr)(k:Nat)(hk:k<l.length)(hn:getKey key (l.take k)=none)(he:l[k].1≠key):getKey key (l.take (k+1))=none:=by
 rw[km l k hk]; exact rZ key _ _ hn he
theorem o7{a b:ByteArray}(h:a≠b):Op.bytesLess a.toList b.toList= !Op.bytesLess b.toList a.toList:=by
 cases h1:Op.bytesLess b.toList a.toList
 · cases h2:Op.bytesLess a.toList b.toList
   · exact absurd (rY (a:=a) (b:=b) h2 h1) h
   · rfl
 · exact Fw (a:=b) (b:=a) h1
theorem nX{w:World}{b off:Nat}{l:List Pr}(h:ki w b off l)(k:Nat):ki w b (off+k * 2) (l.drop k):=by
 intro i hi;have fZ:k+i<l.length:=by simp at hi; omega
 have:=h (k+i) fZ;rw[List.getElem_drop,show off+k * 2+i * 2=off+(k+i) * 2 by omega]
 exact this
theorem kX{w:World}{b off:Nat}{l:List Pr}(h:ki w b off l)(k:Nat):ki w b off (l.take k):=by
 intro i hi;rw[List.getElem_take];exact h i (by simp at hi; omega)
theorem sV(b off len cap:Nat)(l:List Pr)(key val:ByteArray)(w:World)(h:lL w (some ⟨b,off,none⟩) len l)(CV:len≤cap)(jg:len≤1099511627776)(dV:key.size≤maxLen)(jT:val.size≤maxLen):
 Calls Tryz.prog 169 #[.slice (some ⟨b,off,none⟩) len cap,.string key,.string val] w fun e w'=>
  ∃g' n' aY,e=.returned (.slice (some ⟨g',0,none⟩) n' aY)∧bX w' w.heap.size g' n' aY (putKey key val l)∧Below w.heap.size w w':=by
 obtain⟨i0,jX,dE,dD,cO⟩:=info_parts nt;have hl:=h.1;have fk:=h.2.2.1;subst hl;have bw:Below w.heap.size w (w.alloc (.cells #[] 100)):=(Below.refl _ _).alloc (Nat.le_refl _) _;have HC:=Hid.mk' (da (h.below bw).cells);have wM:=bD l;have FC:0+l.length≤maxLen:=by unfold maxLen; omega
 have jU:(0+l.length) * 32≤140737488355328:=by omega
 have nY:=(cB w w.heap.size (Nat.le_refl _)).2.2;aj Tryz.func169,Tryz.ntmps169;ab (ak; refine wpList_append_own _ rfl (.tmp 10) (.tmp 11) 37 rfl w.heap.size 100 i0 (.agg #[.string ⟨#[]⟩,.string ⟨#[]⟩]) 2 32 Tryz.underlying37 jX dE dD cO rfl (by decide) _ _ _ rfl nY ⟨b,off,none⟩ l.length cap (aG l) rfl wM HC.out (aP _) FC jU (aS _ _ (Nat.le_refl _)) ?_)
 intro v1 w1 aK aI db;have cC:¬v1=.slice none 0 0:=by simpa using db
 obtain⟨g1,CW,hv,gK⟩:=dy rfl fk cC (by simpa[aG] using aK)
 subst hv;have fi:Below w.heap.size w w1:=bw.grown aI (aS _ _ (Nat.le_refl _)) (fun k e=>by simp[Value.ownBlock] at e; omega)
 clear aK aI db cC nY HC wM FC jU bw;ab (ak; fail)
 jv [8] (fun i=>∃k:Nat,k≤l.length∧i=.int .i64 (k:Int)∧getKey key (l.take k)=none) (fun i=>l.length - (intOf i).toNat)
 case atStart=>exact⟨0,Nat.zero_le _,rfl,rfl⟩
 case round=>
  obtain⟨k,hk,rfl,kO⟩:=hrel;by_cases bn:k<l.length
  · have c1:=gK.key k bn;have c2:=gK.val k bn;have fZ:(k:Int)<(l.length:Int):=by omega
    by_cases he:l[k].1=key
    · have HF:Hid (putKey key val l=l.set k (l[k].1,val)):=xC k bn he kO;have Lj:=gK.frozen (k * 2+1);have hR:=gK.yI k bn val jT;rw[←HF.out] at hR;have HR:=Hid.mk' hR;rw[he] at c1;clear kO hR;ab (ak; fail)
      an;exact⟨_,_,_,rfl,HR.out.1,fi.trans (fV HR.out.2 gK.lt.1 fi.size)⟩
    · have HF:Hid (getKey key (l.take (k+1))=none):=Fy key l k bn kO he;have hq:=ef he;clear kO he;ab (ak; fail)
      f_
      case rel=>exact⟨k+1,by omega,by aF,HF.out⟩
      case measure=>simp[intOf]; omega
  · have ko:getKey key l=none:=by rw[List.take_of_length_le (by omega)] at kO; exact kO
    have HP:=Hid.mk' (EE (val:=val) ko);have bh:=nW ko;have UJ:=h.below fi;obtain⟨B,UK⟩:∃B,below key l=B:=⟨_,rfl⟩;have hBl:B≤l.length:=by rw[←UK]; exact uz key l
    rw[UK] at HP;have HB:=Hid.mk' UK;clear kO ko UK;ab (ak; fail)
    jv [9] (fun i=>∃k:Nat,k≤l.length∧i=.int .i64 (k:Int)∧below key (l.drop k)+k=B) (fun i=>l.length - (intOf i).toNat)
    case atStart=>exact⟨0,Nat.zero_le _,rfl,HB.out⟩
    case round=>
     obtain⟨k,iu,rfl,hr⟩:=hrel;by_cases fP:k<l.length∧Op.bytesLess key.toList (l[k]!).1.toList=false
     · obtain⟨fP,hb⟩:=fP;rw[getElem!_pos l k fP] at hb;have c1:=(UJ.cells k fP).1;have cF:=qb key l k fP;rw[if_neg (by show¬Op.bytesLess _ _=true; rw[hb]; simp)] at cF
       have HF:Hid (below key (l.drop (k+1))+(k+1)=B):=by show _=_; omega
       have hq:=ef (bh k fP);have zR:=o7 (bh k fP);rw[hb] at zR;have fZ:(k:Int)<(l.length:Int):=by omega
       generalize l[k].1=kk at *;clear hr cF hb bh;ab (ak; fail)
       f_
       case rel=>exact⟨k+1,by omega,by aF,HF.out⟩
       case measure=>simp[intOf]; omega
     · have HE:Hid (k=B):=by
        show k=B;by_cases h3:k<l.length
        · have cF:=qb key l k h3;have:Op.bytesLess key.toList l[k].1.toList=true:=by
           cases h4:Op.bytesLess key.toList l[k].1.toList
           · exact absurd ⟨h3,by rw[getElem!_pos l k h3]; exact h4⟩ fP
           · rfl
          rw[if_pos (show kN key l[k].1=true from this)] at cF
          omega
        · rw[List.drop_eq_nil_of_le (by omega)] at hr
          have:below key []=0:=rfl;omega
       have II:k<l.length→∃kk,w1.cell? ⟨b,off+k * 2,none⟩=some (.string kk)∧Op.bytesLess kk.toList key.toList=false∧(kk.toList==key.toList)=false:=by
        intro h3;refine⟨l[k].1,(UJ.cells k h3).1,?_,ef (bh k h3)⟩;rw[o7 (bh k h3)];cases h4:Op.bytesLess key.toList l[k].1.toList
        · exact absurd ⟨h3,by rw[getElem!_pos l k h3]; exact h4⟩ fP
        · rfl
       clear hr fP bh;by_cases h3:k<l.length
       · obtain⟨kk,c1,q1,q2⟩:=II h3;have fZ:(k:Int)<(l.length:Int):=by omega
         clear II;have yK:Below w1.heap.size w1 (w1.alloc (.cells #[] 100)):=(Below.refl _ _).alloc (Nat.le_refl _) _;have RS:=Hid.mk' (da (kX (UJ.below yK).cells k));have pE:(aG (l.take k)).length=k * 2:=by rw[bD,List.length_take_of_le iu]
         have IJ:0+k≤maxLen:=by unfold maxLen; omega
         have IK:(0+k) * 32≤140737488355328:=by omega
         have FD:k+1≤maxLen:=by unfold maxLen; omega
         have FE:(k+1) * 32≤140737488355328:=by omega
         have nZ:=(cB w1 w.heap.size fi.size).2.2;have uH:w.heap.size≤w1.heap.size:=fi.size;have VN:(k:Int)≤(cap:Int):=by omega
         have xD:(k:Int)≤(l.length:Int):=by omega
         ab (ak; refine wpList_append_own _ rfl (.tmp 47) (.tmp 50) 37 rfl w.heap.size 100 i0 (.agg #[.string ⟨#[]⟩,.string ⟨#[]⟩]) 2 32 Tryz.underlying37 jX dE dD cO rfl (by decide) _ _ _ rfl nZ ⟨b,off,none⟩ k cap (aG (l.take k)) rfl pE RS.out (aP _) IJ IK (aS _ _ uH) ?_)
         intro v2 w2 aK aI db;have cC:¬v2=.slice none 0 0:=by simpa using db
         obtain⟨g2,eC,hv,fS⟩:=dy (l:=l.take k) (n:=k) (List.length_take_of_le iu) (mO fk k) cC (by simpa[aG] using aK)
         subst hv;have RT:Below w.heap.size w1 (w1.alloc (.cells #[] 100)):=(Below.refl _ _).alloc uH _;have dL:Below w.heap.size w1 w2:=RT.grown aI (aS _ _ uH) (fun k e=>by simp[Value.ownBlock] at e; omega)
         have wN:Below w.heap.size w w2:=fi.trans dL;have qi:w.heap.size≤w2.heap.size:=wN.size;clear aK aI db cC nZ RS pE IJ IK yK RT dL;ab (ak; refine wpList_append_own _ rfl (.tmp 51) (.tmp 55) 37 rfl w.heap.size 100 i0 (.agg #[.string ⟨#[]⟩,.string ⟨#[]⟩]) 2 32 Tryz.underlying37 jX dE dD cO rfl (by decide) _ _ _ rfl (fS.2.2.alloc _) ⟨w2.heap.size,0,none⟩ 1 1 (aG [(key,val)]) rfl rfl (eg _ (key,val) _) (aP _) FD FE (aS _ _ qi) ?_)
         intro v3 w3 aK aI db;obtain⟨g3,yL,hv,ew⟩:=l5 fS.1 fS.2.1 ⟨dV,jT⟩ db aK;subst hv;have cY:Below w.heap.size w w3:=(wN.alloc qi _).grown aI (aS _ _ qi) (fun k e=>by simp[Value.ownBlock] at e; have:=fS.lt; omega)
         have yM:w.heap.size≤w3.heap.size:=cY.size;have FF:=h.below cY;have zS:k+1+(l.length - k)≤maxLen:=by unfold maxLen; omega
         have EF:(k+1+(l.length - k)) * 32≤140737488355328:=by omega
         have Cm:(aG (l.drop k)).length=(l.length - k) * 2:=by rw[bD,List.length_drop]
         clear aK aI db fS wN FD FE;have IL:¬cap=k:=by omega
         have RU:=Hid.mk' (da (nX FF.cells k));ab (ak; refine wpList_append_own _ rfl (.tmp 57) (.tmp 60) 37 rfl w.heap.size 100 i0 (.agg #[.string ⟨#[]⟩,.string ⟨#[]⟩]) 2 32 Tryz.underlying37 jX dE dD cO rfl (by decide) _ _ _ rfl ew.2.2 ⟨b,off+k * 2,none⟩ (l.length - k) (cap - k) (aG (l.drop k)) rfl Cm RU.out (aP _) zS EF yM ?_)
         intro v4 w4 aK aI db;have cC:¬v4=.slice none 0 0:=by simpa using db
         rw[←cI] at aK;obtain⟨g4,IM,hv,ej⟩:=dy (n:=k+1+(l.length - k)) (by simp; omega) (fun q hq=>by
          rcases List.mem_append.1 hq with h1 | h1
          · exact ew.2.1 q h1
          · exact fk q (List.mem_of_mem_drop h1)) cC aK
         subst hv;have eF:Below w.heap.size w w4:=cY.grown aI yM (fun k e=>by simp[Value.ownBlock] at e; have:=ew.lt; omega)
         have Il:=Hid.mk' ej;clear aK aI db cC ej;ab (ak; fail)
         an;refine⟨g4,_,IM,rfl,?_,eF⟩;rw[HP.out,←HE.out];have:=Il.out;rw[List.append_assoc] at this;exact this
       · clear II;have VO:l.length=k:=by omega
         have Ry:Hid (l.drop k=[]):=List.drop_eq_nil_of_le (by omega)
         have yK:Below w1.heap.size w1 (w1.alloc (.cells #[] 100)):=(Below.refl _ _).alloc (Nat.le_refl _) _;have RS:=Hid.mk' (da (kX (UJ.below yK).cells k));have pE:(aG (l.take k)).length=k * 2:=by rw[bD,List.length_take_of_le iu]
         have IJ:0+k≤maxLen:=by unfold maxLen; omega
         have IK:(0+k) * 32≤140737488355328:=by omega
         have FD:k+1≤maxLen:=by unfold maxLen; omega
         have FE:(k+1) * 32≤140737488355328:=by omega
         have nZ:=(cB w1 w.heap.size fi.size).2.2;have uH:w.heap.size≤w1.heap.size:=fi.size;have VN:(k:Int)≤(cap:Int):=by omega
         have xD:(k:Int)≤(l.length:Int):=by omega
         clear VO;ab (ak; refine wpList_append_own _ rfl (.tmp 47) (.tmp 50) 37 rfl w.heap.size 100 i0 (.agg #[.string ⟨#[]⟩,.string ⟨#[]⟩]) 2 32 Tryz.underlying37 jX dE dD cO rfl (by decide) _ _ _ rfl nZ ⟨b,off,none⟩ k cap (aG (l.take k)) rfl pE RS.out (aP _) IJ IK (aS _ _ uH) ?_)
         intro v2 w2 aK aI db;have cC:¬v2=.slice none 0 0:=by simpa using db
         obtain⟨g2,eC,hv,fS⟩:=dy (l:=l.take k) (n:=k) (List.length_take_of_le iu) (mO fk k) cC (by simpa[aG] using aK)
         subst hv;have RT:Below w.heap.size w1 (w1.alloc (.cells #[] 100)):=(Below.refl _ _).alloc uH _;have dL:Below w.heap.size w1 w2:=RT.grown aI (aS _ _ uH) (fun k e=>by simp[Value.ownBlock] at e; omega)
         have wN:Below w.heap.size w w2:=fi.trans dL;have qi:w.heap.size≤w2.heap.size:=wN.size;clear aK aI db cC nZ RS pE IJ IK yK RT dL;ab (ak; refine wpList_append_own _ rfl (.tmp 51) (.tmp 55) 37 rfl w.heap.size 100 i0 (.agg #[.string ⟨#[]⟩,.string ⟨#[]⟩]) 2 32 Tryz.underlying37 jX dE dD cO rfl (by decide) _ _ _ rfl (fS.2.2.alloc _) ⟨w2.heap.size,0,none⟩ 1 1 (aG [(key,val)]) rfl rfl (eg _ (key,val) _) (aP _) FD FE (aS _ _ qi) ?_)
         intro v3 w3 aK aI db;obtain⟨g3,yL,hv,ew⟩:=l5 fS.1 fS.2.1 ⟨dV,jT⟩ db aK;subst hv;have cY:Below w.heap.size w w3:=(wN.alloc qi _).grown aI (aS _ _ qi) (fun k e=>by simp[Value.ownBlock] at e; have:=fS.lt; omega)
         have yM:w.heap.size≤w3.heap.size:=cY.size;have FF:=h.below cY;have zS:k+1+(l.length - k)≤maxLen:=by unfold maxLen; omega
         have EF:(k+1+(l.length - k)) * 32≤140737488355328:=by omega
         have Cm:(aG (l.drop k)).length=(l.length - k) * 2:=by rw[bD,List.length_drop]
         clear aK aI db fS wN FD FE;by_cases IL:cap=k
         · have RU:Hid (∀j v,(aG (l.drop k))[j]? =some v→w3.cell? ((⟨b,off,none⟩:Addr).add j)=some v):=by
            show∀j v,_→_;intro j v hj;rw[Ry.out] at hj;simp[aG] at hj
           ab (ak; refine wpList_append_own _ rfl (.tmp 57) (.tmp 60) 37 rfl w.heap.size 100 i0 (.agg #[.string ⟨#[]⟩,.string ⟨#[]⟩]) 2 32 Tryz.underlying37 jX dE dD cO rfl (by decide) _ _ _ rfl ew.2.2 ⟨b,off,none⟩ (l.length - k) _ (aG (l.drop k)) rfl Cm RU.out (aP _) zS EF yM ?_)
           intro v4 w4 aK aI db;have cC:¬v4=.slice none 0 0:=by simpa using db
           rw[←cI] at aK;obtain⟨g4,IM,hv,ej⟩:=dy (n:=k+1+(l.length - k)) (by simp; omega) (fun q hq=>by
            rcases List.mem_append.1 hq with h1 | h1
            · exact ew.2.1 q h1
            · exact fk q (List.mem_of_mem_drop h1)) cC aK
           subst hv;have eF:Below w.heap.size w w4:=cY.grown aI yM (fun k e=>by simp[Value.ownBlock] at e; have:=ew.lt; omega)
           have Il:=Hid.mk' ej;clear aK aI db cC ej;ab (ak; fail)
           an;refine⟨g4,_,IM,rfl,?_,eF⟩;rw[HP.out,←HE.out];have:=Il.out;rw[List.append_assoc] at this;exact this
         · have RU:Hid (∀j v,(aG (l.drop k))[j]? =some v→w3.cell? ((⟨b,off+k * 2,none⟩:Addr).add j)=some v):=by
            show∀j v,_→_;intro j v hj;rw[Ry.out] at hj;simp[aG] at hj
           ab (ak; refine wpList_append_own _ rfl (.tmp 57) (.tmp 60) 37 rfl w.heap.size 100 i0 (.agg #[.string ⟨#[]⟩,.string ⟨#[]⟩]) 2 32 Tryz.underlying37 jX dE dD cO rfl (by decide) _ _ _ rfl ew.2.2 ⟨b,off+k * 2,none⟩ (l.length - k) _ (aG (l.drop k)) rfl Cm RU.out (aP _) zS EF yM ?_)
           intro v4 w4 aK aI db;have cC:¬v4=.slice none 0 0:=by simpa using db
           rw[←cI] at aK;obtain⟨g4,IM,hv,ej⟩:=dy (n:=k+1+(l.length - k)) (by simp; omega) (fun q hq=>by
            rcases List.mem_append.1 hq with h1 | h1
            · exact ew.2.1 q h1
            · exact fk q (List.mem_of_mem_drop h1)) cC aK
           subst hv;have eF:Below w.heap.size w w4:=cY.grown aI yM (fun k e=>by simp[Value.ownBlock] at e; have:=ew.lt; omega)
           have Il:=Hid.mk' ej;clear aK aI db cC ej;ab (ak; fail)
           an;refine⟨g4,_,IM,rfl,?_,eF⟩;rw[HP.out,←HE.out];have:=Il.out;rw[List.append_assoc] at this;exact this
end aE
namespace last
open Go Go.RowKit
section
variable{P:Program}{ops:Array Oper}{md:Region.Mode}{C:World→Prop}
def uI(P:Program)(md:Region.Mode)(ops:Array Oper)(C:World→Prop)(z:Nat)(Q:Act→Prop):Nat→Array Bool→Act→Prop
 | 0,aH,a=>(Region.ready md ops aH=[z]∧Region.ready md ops (aH.setIfInBounds z true)=[])∧Q a
 | fuel+1,aH,a=>(z∉Region.ready md ops aH∧Region.ready md ops aH≠[])∧
  ∀i∈Region.ready md ops aH,qOp P ops C i (uI P md ops C z Q fuel (aH.setIfInBounds i true)) a
theorem uJ{z:Nat}{Q:Act→Prop}{Q':Exit→Act→World→Prop}(hQ:∀a w,C w→Q a→wpOp P ops Q' z (fun a' w'=>Q' .normal a' w') a w):∀(fuel:Nat) (aH:Array Bool) (a:Act) (w:World),C w→
 uI P md ops C z Q fuel aH a→wpAny P md ops Q' (fuel+1) aH a w
 | 0,aH,a,w,hw,h=>by
  refine⟨fun h0=>(by rw[h.1.1] at h0; cases h0),fun i hi=>?_⟩
  rw[h.1.1] at hi;have:i=z:=by simpa using hi
  subst this;exact wpOp_mono (fun a' w' h'=>⟨h.1.2,h'⟩) (hQ a w hw h.2)
 | fuel+1,aH,a,w,hw,h=>
  ⟨fun h0=>absurd h0 h.1.2,fun i hi=>wpOp_of_qOp hw (fun a' w' VP=>uJ hQ fuel _ a' w' VP) (h.2 i hi)⟩
theorem ji{i j:Nat}{o:Oper}{aH:Array Bool}(hi:i∈Region.ready md ops aH)(hj:j∈Region.ready md ops aH)(ho:ops[j]? =some o):
 ∀e∈o.after,Region.binds md e=true→e.on≠i:=by
 rintro e he hb rfl;obtain⟨_,o',VQ,iT⟩:=mem_ready.1 hj;obtain rfl:=Option.some.inj (VQ.symm.trans ho);have yes:=iT e he hb;have no:=(mem_ready.1 hi).1;by_cases hs:e.on<aH.size
 · simp only[Array.getD,hs,dif_pos] at yes no;exact Bool.noConfusion (yes.symm.trans no)
 · simp[Array.getD,hs] at yes
def EG(md:Region.Mode)(ops:Array Oper)(i:Nat)(oi:Oper)(aH:Array Bool):Prop:=
 ∀j oj,ops[j]? =some oj→j≠i→aH.getD j true=false→(∀e∈oj.after,Region.binds md e=true→e.on≠i)→oi.apart ops oj=true
theorem EG.less{i:Nat}{oi:Oper}{aH:Array Bool}(h:EG md ops i oi aH)(k:Nat):EG md ops i oi (aH.setIfInBounds k true):=by
 intro j oj hj bh IN;refine h j oj hj bh ?_;by_cases e:k=j
 · subst e;by_cases hs:k<aH.size
   · simp[Array.getD,hs] at IN
   · simp[Array.getD,hs] at IN
 · oU [getD_set_ne true e] at IN
theorem yN{z:Nat}{Q:Act→Prop}{i:Nat}{oi:Oper}{v:Value}(hi:ops[i]? =some oi)(Av:∀(j:Nat) (o:Oper) cs b,ops[j]? =some o→o.op≠ .select cs b)
 {oz:Oper} (hz:ops[z]? =some oz) (CX:∃e∈oz.after,Region.binds md e=true∧e.on=i) (fuel:Nat):
 ∀(aH:Array Bool) (a:Act),EG md ops i oi aH→i∈Region.ready md ops aH→YieldsIn P ops C oi v a→
  uI P md ops C z Q fuel (aH.setIfInBounds i true) (a.put oi.dst v)→uI P md ops C z Q (fuel+1) aH a:=by
 have IP:∀ {aH:Array Bool},i∈Region.ready md ops aH→z∉Region.ready md ops aH:=fun hr hzr=>by
  obtain⟨e,he,hb,heq⟩:=CX;exact ji hr hzr hz e he hb heq
 induction fuel with
 | zero=>
  intro aH a _ hr hy H;refine⟨⟨IP hr,List.ne_nil_of_mem hr⟩,fun j hj=>?_⟩
  rcases Decidable.em (j=i) with rfl | sW
  · exact hy.qOp hi H
  · have IQ:=H.1.1 ▸ ready_mono hj sW;exact absurd (List.mem_singleton.1 IQ ▸ hj) (IP hr)
 | succ fuel ih=>
  intro aH a FG hr hy H;refine⟨⟨IP hr,List.ne_nil_of_mem hr⟩,fun j hj=>?_⟩
  rcases Decidable.em (j=i) with rfl | sW
  · exact hy.qOp hi H
  · obtain⟨IN,oj,Aw,_⟩:=mem_ready.1 hj;have step:=qOp_put Aw (FG j oj Aw sW IN (ji hr hj Aw)) (Av i oi · · hi) (Av j oj · · Aw) hy (H.2 j (ready_mono hj sW));refine qOp_mono (fun a' (h:_∧_)=>ih _ a' (FG.less j) (ready_mono hr (Ne.symm sW)) h.1 ?_) step
    exact Array.setIfInBounds_comm (xs:=aH) true true sW ▸ h.2
def waits(md:Region.Mode)(oz:Oper)(k:Nat):Bool:=oz.after.any fun e=>Region.binds md e && e.on==k
def CY(md:Region.Mode)(ops:Array Oper)(z:Nat)(oz:Oper):Nat→Nat→Array Bool→Bool
 | 0,_,aH=>decide (Region.ready md ops aH=[z]) && decide (Region.ready md ops (aH.setIfInBounds z true)=[])
 | fuel+1,k,aH=>(Region.ready md ops aH).contains k && Region.free md ops aH k && waits md oz k && CY md ops z oz fuel (k+1) (aH.setIfInBounds k true)
theorem uK{z:Nat}{oz:Oper}{Q:Act→Prop}(hs:Region.noSelect ops=true)(hz:ops[z]? =some oz):∀(l:List Oper) (k:Nat) (aH:Array Bool) (a:Act),(∀j,j<l.length→l[j]? =ops[k+j]?)→
 CY md ops z oz l.length k aH=true→wpQuiet P ops C Q l a→uI P md ops C z Q l.length aH a
 | [],_,_,_,_,hB,h=>⟨by simpa[CY] using hB,h⟩
 | o::l,k,aH,a,hl,hB,h=>by
  have h0:ops[k]? =some o:=by simpa using (hl 0 (by simp)).symm
  simp only[List.length_cons,CY,Bool.and_eq_true] at hB;obtain⟨⟨⟨hr,hf⟩,hw⟩,hB'⟩:=hB;have cF:qOp P ops C k (wpQuiet P ops C Q l) a:=by unfold qOp; simp only[h0]; exact h
  obtain⟨v,hy,hK⟩:=yieldsIn_of_qOp h0 cF;have Hn:∃e∈oz.after,Region.binds md e=true∧e.on=k:=by
   obtain⟨e,he,hb⟩:=Array.any_eq_true'.1 hw;simp only[Bool.and_eq_true,beq_iff_eq] at hb;exact⟨e,he,hb⟩
  exact yN h0 (Region.noSelect_spec hs) hz Hn l.length aH a (Region.free_spec h0 hf) (by simpa using hr) hy
   (uK hs hz l (k+1) _ _ (fun j hj=>by have:=hl (j+1) (by simpa using hj); simpa[Nat.add_assoc,Nat.add_comm 1 j] using this) hB' hK)
theorem tN{id:Nat}{Q:Exit→Act→World→Prop}{a:Act}{w:World}(l:List Oper)(st:Oper)(hm:P.follows .mixedOrders=true)(hs:Region.noSelect (l++[st]).toArray=true)
 (hB:CY .any (l++[st]).toArray l.length st l.length 0 (Array.replicate (l++[st]).toArray.size false)=true) (hC:C {w with drawn:=w.drawn+1})
 (h:wpQuiet P (l++[st]).toArray C (fun a'=>∀w',C w'→wpList P (l++[st]).toArray Q [st] a' w') l a):
 (Code.region id (l++[st]).toArray true).wp P Q a w:=by
 have hz:(l++[st]).toArray[l.length]? =some st:=by simp
 have jg:(l++[st]).toArray.size=l.length+1:=by simp
 have h1:=uK (md:=.any) hs hz l 0 (Array.replicate (l++[st]).toArray.size false) a (fun j hj=>by simp[List.getElem?_append,hj]) hB h
 have h2:=uJ (Q':=Q) (fun a' w' VP h'=>by
  have:=h' w' VP;unfold wpOp;simp only[hz];exact this) l.length _ a ({w with drawn:=w.drawn+1}) hC h1
 refine wp_region_any hm ?_;rw[jg] at h2 ⊢;exact h2
theorem pF{id:Nat}{Q:Exit→Act→World→Prop}{a:Act}{w:World}{L:List Oper}(n:Nat)(st:Oper)(hL:L=L.take n++[st])(hm:P.follows .mixedOrders=true)(hs:Region.noSelect L.toArray=true)
 (hB:CY .any L.toArray (L.take n).length st (L.take n).length 0 (Array.replicate L.toArray.size false)=true) (hC:C {w with drawn:=w.drawn+1})
 (h:wpQuiet P L.toArray C (fun a'=>∀w',C w'→wpList P L.toArray Q [st] a' w') (L.take n) a):
 (Code.region id L.toArray true).wp P Q a w:=by
 have:=tN (P:=P) (id:=id) (Q:=Q) (a:=a) (w:=w) (C:=C) (L.take n) st hm;rw[←hL] at this;exact this hs hB hC h
/-! ### calls that make memory: the class of the worlds that go on from w -/
def On(B:Nat)(w:World):Type:={w':World // Below B w w'}
def On.w{B:Nat}{w:World}(x:On B w):World:=x.1
theorem On.iq(B:Nat)(w:World):Nonempty (On B w):=⟨⟨w,Below.refl _ _⟩⟩
theorem ar{id:Nat}{Q:Exit→Act→World→Prop}{a:Act}{w:World}{l:List Oper}(B:Nat)(hm:P.follows .mixedOrders=true)(hB:Region.lexB .any l.toArray=true)
 (h:wpQuiet P l.toArray (fun w'=>∃x:On B w,w'=x.w) (fun a'=>∀w',(∃x:On B w,w'=x.w)→Q .normal a' w') l a):(Code.region id l.toArray true).wp P Q a w:=
 wp_region_quiet (C:=fun w'=>∃x:On B w,w'=x.w) hm hB ⟨⟨w.drew,(Below.refl _ _).drew⟩,rfl⟩ (by simpa using h)
theorem kY{id:Nat}{Q:Exit→Act→World→Prop}{a:Act}{w:World}{L:List Oper}(B:Nat)(n:Nat)(st:Oper)(hL:L=L.take n++[st])(hm:P.follows .mixedOrders=true)(hs:Region.noSelect L.toArray=true)
 (hB:CY .any L.toArray (L.take n).length st (L.take n).length 0 (Array.replicate L.toArray.size false)=true)
 (h:wpQuiet P L.toArray (fun w'=>∃x:On B w,w'=x.w) (fun a'=>∀w',(∃x:On B w,w'=x.w)→wpList P L.toArray Q [st] a' w') (L.take n) a):
 (Code.region id L.toArray true).wp P Q a w:=pF n st hL hm hs hB ⟨⟨w.drew,(Below.refl _ _).drew⟩,rfl⟩ h
theorem Calls.on{f:FuncId}{args:Array Value}{B:Nat}{w:World}{v:Value}(x:On B w)(tO:B≤w.heap.size)(h:Calls P f args x.w fun e w'=>e=.returned v∧Below x.w.heap.size x.w w'):
 Calls P f args x.w fun e Iq=>e=.returned v∧∃y:On B w,Iq=y.w:=
 h.mono fun _ Iq ⟨he,hb⟩=>⟨he,⟨Iq,x.2.trans (hb.mono (Nat.le_trans tO x.2.size))⟩,rfl⟩
theorem On.cell{B:Nat}{w:World}{b o:Nat}{v:Value}(h:w.cell? ⟨b,o,none⟩=some v)(hb:b<B):∀x:On B w,x.w.cell? ⟨b,o,none⟩=some v:=
 fun x=>(x.2.cell (p:=⟨b,o,none⟩) hb).trans h
end
end last
namespace aE
open Go Go.RowKit base
theorem IS{W w':World}{b o:Nat}{v:Value}(hb:Below W.heap.size W w')(h:W.cell? ⟨b,o,none⟩=some v):w'.cell? ⟨b,o,none⟩=some v:=
 (hb.cell (p:=⟨b,o,none⟩) (World.block_lt_of_cell? W _ h)).trans h
theorem CZ{W w':World}{b o1 o2:Nat}{v1 v2:Value}(hb:Below W.heap.size W w')(h:W.cell? ⟨b,o1,none⟩=some v1∧W.cell? ⟨b,o2,none⟩=some v2):
 w'.cell? ⟨b,o1,none⟩=some v1∧w'.cell? ⟨b,o2,none⟩=some v2:=⟨IS hb h.1,IS hb h.2⟩
theorem dz{W w':World}{b o1 o2 o3:Nat}{v1 v2 v3:Value}(hb:Below W.heap.size W w')(h:W.cell? ⟨b,o1,none⟩=some v1∧W.cell? ⟨b,o2,none⟩=some v2∧W.cell? ⟨b,o3,none⟩=some v3):
 w'.cell? ⟨b,o1,none⟩=some v1∧w'.cell? ⟨b,o2,none⟩=some v2∧w'.cell? ⟨b,o3,none⟩=some v3:=⟨IS hb h.1,CZ hb h.2⟩
end aE
namespace aX
open Go Go.RowKit base aE
theorem jV(x a b:Int)(w:World):
    Calls Tryz.prog 32 #[.int .i64 x,.int .i64 a,.int .i64 b] w fun e w'=>e=.returned (.bool (decide (a≤x∧x≤b)))∧w'=w:=by
  by_cases h1:a≤x
  · by_cases h2:x≤b
    · aj Tryz.func32,Tryz.ntmps32;bf;an;exact⟨au (by simp[h1,h2]),rfl⟩
    · aj Tryz.func32,Tryz.ntmps32;bf;an;exact⟨au (by simp[h1,h2]),rfl⟩
  · aj Tryz.func32,Tryz.ntmps32;bf;an;exact⟨au (by have h3:¬a≤x:=by omega
                        simp[h3]),rfl⟩
theorem size_empty{v:ByteArray}(h:v.size=0):v=⟨#[]⟩:=by
 apply j8; exact List.eq_nil_of_length_eq_zero (by rw[Array.length_toList]; exact h)
theorem j9{v:ByteArray}(h:¬v.size=0):¬v.toList=[]∧v.toList.isEmpty=false:=by
  have hq:¬v.toList=[]:=fun e=>h (by have:v=⟨#[]⟩:=j8 (by rw[←ByteArray.toList_eq]; exact e)
                                              rw[this]; rfl)
  exact⟨hq,by rw[Bool.eq_false_iff]; intro e; exact hq (List.isEmpty_iff.1 e)⟩
theorem l6(o:Od)(w:World)(ho:ed o)(hs:o.2.1.size≤1099511627776):
 Calls Tryz.prog 142 #[.agg #[.int .i64 o.1,.string o.2.1,.string o.2.2]] w fun e w'=>e=.returned (.bool (dU o))∧Below w.heap.size w w':=by
 obtain⟨z,k,v⟩:=o;have h2:=ho.2.2;simp only[] at h2 hs ⊢;unfold maxLen at h2;have bw:Below w.heap.size w (w.alloc (.cells #[.int .i64 z,.string k,.string v] 121)):=(Below.refl _ _).alloc (Nat.le_refl _) _;have iw:=jV z 1 3 (w.alloc (.cells #[.int .i64 z,.string k,.string v] 121));have hk:=CT k (w.alloc (.cells #[.int .i64 z,.string k,.string v] 121)) hs;generalize hK:gS k=K at hk;have H1:=Hid.mk' hK;have HK:=Hid.mk' hk;clear hk hK ho;by_cases hz:1≤z∧z≤3
 · rw[decide_eq_true hz] at iw;have HI:=Hid.mk' iw;clear iw;by_cases cO:z=2
   · subst cO;by_cases hv:v.size=0
     · obtain rfl:=size_empty hv;clear hz hv;aj Tryz.func142,Tryz.ntmps142;ab fail;refine HI.out.mono ?_;rintro e w1 ⟨rfl,rfl⟩;ab fail;refine HK.out.mono ?_;rintro e w1 ⟨rfl,rfl⟩;cases K;bo
        ab fail;an;exact⟨au (by unfold dU; rw[H1.out]; rfl),bw⟩
     · have HV:=Hid.mk' hv;obtain⟨hq,sL⟩:=j9 hv;clear hz hv;aj Tryz.func142,Tryz.ntmps142;ab fail;refine HI.out.mono ?_;rintro e w1 ⟨rfl,rfl⟩;ab fail;an;exact⟨au (by have:=HV.out; unfold dU; simp[this]),bw⟩
   · have HZ:=Hid.mk' hz;have HZ2:=Hid.mk' cO;have hb:(z==2)=false:=beq_eq_false_iff_ne.2 cO;clear hz cO;aj Tryz.func142,Tryz.ntmps142;ab fail;refine HI.out.mono ?_;rintro e w1 ⟨rfl,rfl⟩;ab fail;refine HK.out.mono ?_;rintro e w1 ⟨rfl,rfl⟩;cases K;bo
      ab fail;an;exact⟨au (by have a:=HZ.out; have b:=HZ2.out; unfold dU; rw[H1.out]; simp[a,b]; try omega),bw⟩
 · rw[decide_eq_false hz] at iw;have HI:=Hid.mk' iw;have HZ:=Hid.mk' hz;clear iw hz;aj Tryz.func142,Tryz.ntmps142;ab fail;refine HI.out.mono ?_;rintro e w1 ⟨rfl,rfl⟩;ab fail;an;exact⟨au (by unfold dU; rw[decide_eq_false HZ.out]; rfl),bw⟩
end aX
namespace aX
open Go Go.RowKit base aE
def l7(l:List Od)(k:Nat):Option ByteArray:=if k=0 then none else(l[k - 1]?).map (·.2.1)
theorem yO(l:List Od)(k:Nat)(h:k<l.length)(h0:k=0):dp (l7 l k) (l.drop k)=(dU l[k] && dp (l7 l (k+1)) (l.drop (k+1))):=by
 subst h0;cases l with
 | nil=>simp at h
 | cons p l=>simp[l7,dp]
theorem yP(l:List Od)(k:Nat)(h:k<l.length)(h0:0<k):dp (l7 l k) (l.drop k)=(dU l[k] && kN l[k - 1].2.1 l[k].2.1 && dp (l7 l (k+1)) (l.drop (k+1))):=by
 have e1:l7 l k=some l[k - 1].2.1:=by unfold l7; rw[if_neg (by omega),List.getElem?_eq_getElem (by omega)]; rfl
 have e2:l7 l (k+1)=some l[k].2.1:=by unfold l7; rw[if_neg (by omega),Nat.add_sub_cancel,List.getElem?_eq_getElem h]; rfl
 rw[e1,e2,List.drop_eq_getElem_cons h,dp]
theorem qk(b off len cap:Nat)(l:List Od)(w:World)(h:dS w (some ⟨b,off,none⟩) len l)(dV:∀p∈l,p.2.1.size≤1099511627776):
    Calls Tryz.prog 100 #[.slice (some ⟨b,off,none⟩) len cap] w fun e w'=>e=.returned (.bool (b_ l))∧Below w.heap.size w w':=by
  have hl:=h.1;have hm:=h.2.1;have fk:=h.2.2.1;subst hl;unfold maxLen at hm;generalize hR:dp none l=R;have HR:=Hid.mk' hR;clear hR;aj Tryz.func100,Tryz.ntmps100;ab fail;aN [3] (fun i wr=>∃k:Nat,k≤l.length∧i=.int .i64 (k:Int)∧dp (l7 l k) (l.drop k)=R∧Below w.heap.size w wr) (fun i _=>l.length - (intOf i).toNat)
  case atStart=>exact⟨0,Nat.zero_le _,rfl,HR.out,Below.refl _ _⟩
  case round=>
    obtain⟨k,hk,rfl,hr,hB⟩:=hrel;by_cases bn:k<l.length
    · have hS:=h.below hB;obtain⟨c0,c1,c2⟩:=hS.cells k bn;have pG:=hS.lt (by omega)
      have mH:=fk _ (List.getElem_mem bn);have yQ:=dV _ (List.getElem_mem bn);have fZ:(k:Int)<(l.length:Int):=by omega
      have mG:b<wr.drew.heap.size:=pG;by_cases h0:k=0
      · have cF:=yO l k bn h0;rw[hr] at cF;have Cn:¬(0:Int)<(k:Int):=by omega
        have nL:decide (0<k)=false:=by simp; omega
        have iu:decide ((0:Int)<(k:Int))=false:=by simp; omega
        cases hP:dU l[k]
        · have HF:Hid (R=false):=by rw[hP] at cF; exact cF
          have HP:=Hid.mk' hP;clear cF hr hP hS h0;generalize l[k]=p at *;have o0:=last.On.cell c0 pG;have o1:=last.On.cell c1 pG;have o2:=last.On.cell c2 pG;ab fail;have br:=last.On.iq wr.heap.size wr;have ep:∀x:last.On wr.heap.size wr,Calls Tryz.prog 142 #[.agg #[.int .i64 p.1,.string p.2.1,.string p.2.2]] x.w fun e w'=>e=.returned (.bool false)∧∃y:last.On wr.heap.size wr,w'=y.w:=fun x=>last.Calls.on x (Nat.le_refl _) (by have:=l6 p x.w mH yQ; rw[HP.out] at this; exact this)
          refine last.ar wr.heap.size (by aa) (by aa) ?_
          repeat(ai ((ao 142; exact ep _)))
          refine wpQuiet_nil ?_;intro w5 cf;obtain⟨x5,cf⟩:=cf;subst cf;have ez:Below w.heap.size w x5.w:=hB.trans (x5.2.mono hB.size);ab fail;an;exact⟨au (by unfold b_; rw[HR.out,HF.out]; rfl),ez⟩
        · have HF:Hid (dp (l7 l (k+1)) (l.drop (k+1))=R):=by show _=_; rw[hP] at cF; simpa using cF.symm
          have HP:=Hid.mk' hP;clear cF hr hP hS h0;generalize l[k]=p at *;have o0:=last.On.cell c0 pG;have o1:=last.On.cell c1 pG;have o2:=last.On.cell c2 pG;ab fail;have br:=last.On.iq wr.heap.size wr;have ep:∀x:last.On wr.heap.size wr,Calls Tryz.prog 142 #[.agg #[.int .i64 p.1,.string p.2.1,.string p.2.2]] x.w fun e w'=>e=.returned (.bool true)∧∃y:last.On wr.heap.size wr,w'=y.w:=fun x=>last.Calls.on x (Nat.le_refl _) (by have:=l6 p x.w mH yQ; rw[HP.out] at this; exact this)
          refine last.ar wr.heap.size (by aa) (by aa) ?_
          repeat(ai ((ao 142; exact ep _)))
          refine wpQuiet_nil ?_;intro w5 cf;obtain⟨x5,cf⟩:=cf;subst cf;have ez:Below w.heap.size w x5.w:=hB.trans (x5.2.mono hB.size);ab fail;aA
          case rel=>exact⟨k+1,by omega,by aF,HF.out,ez⟩
          case measure=>simp[intOf]; omega
      · have cF:=yP l k bn (by omega)
        rw[hr] at cF;have Cn:(0:Int)<(k:Int):=by omega
        have nL:decide (0<k)=true:=by simp; omega
        have iu:decide ((0:Int)<(k:Int))=true:=by simp; omega
        have c3:=(hS.cells (k - 1) (by omega)).2.1
        obtain⟨j,hj⟩:∃j,k - 1=j:=⟨_,rfl⟩;have RV:(k:Int) - 1=(j:Int):=by omega
        have Q3:(j:Int)<(l.length:Int):=by omega
        generalize l[k - 1].2.1=q at *;rw[hj] at c3;have o3:=last.On.cell c3 pG;cases hP:dU l[k]
        · have HF:Hid (R=false):=by rw[hP] at cF; exact cF
          have HP:=Hid.mk' hP;clear cF hr hP hS h0 hj;generalize l[k]=p at *;have o0:=last.On.cell c0 pG;have o1:=last.On.cell c1 pG;have o2:=last.On.cell c2 pG;ab fail;have br:=last.On.iq wr.heap.size wr;have ep:∀x:last.On wr.heap.size wr,Calls Tryz.prog 142 #[.agg #[.int .i64 p.1,.string p.2.1,.string p.2.2]] x.w fun e w'=>e=.returned (.bool false)∧∃y:last.On wr.heap.size wr,w'=y.w:=fun x=>last.Calls.on x (Nat.le_refl _) (by have:=l6 p x.w mH yQ; rw[HP.out] at this; exact this)
          refine last.ar wr.heap.size (by aa) (by aa) ?_
          repeat(ai ((ao 142; exact ep _)))
          refine wpQuiet_nil ?_;intro w5 cf;obtain⟨x5,cf⟩:=cf;subst cf;have ez:Below w.heap.size w x5.w:=hB.trans (x5.2.mono hB.size);ab fail;an;exact⟨au (by unfold b_; rw[HR.out,HF.out]; rfl),ez⟩
        · cases hL:kN q l[k].2.1
          · have HF:Hid (R=false):=by show _=_; rw[hP,hL] at cF; simpa using cF
            have HP:=Hid.mk' hP;have jA:Op.bytesLess q.toList l[k].2.1.toList=false:=hL;clear cF hr hP hS h0 hj hL;generalize l[k]=p at *;have o0:=last.On.cell c0 pG;have o1:=last.On.cell c1 pG;have o2:=last.On.cell c2 pG;ab fail;have br:=last.On.iq wr.heap.size wr;have ep:∀x:last.On wr.heap.size wr,Calls Tryz.prog 142 #[.agg #[.int .i64 p.1,.string p.2.1,.string p.2.2]] x.w fun e w'=>e=.returned (.bool true)∧∃y:last.On wr.heap.size wr,w'=y.w:=fun x=>last.Calls.on x (Nat.le_refl _) (by have:=l6 p x.w mH yQ; rw[HP.out] at this; exact this)
            refine last.ar wr.heap.size (by aa) (by aa) ?_
            repeat(ai ((ao 142; exact ep _)))
            refine wpQuiet_nil ?_;intro w5 cf;obtain⟨x5,cf⟩:=cf;subst cf;have ez:Below w.heap.size w x5.w:=hB.trans (x5.2.mono hB.size);ab fail;an;exact⟨au (by unfold b_; rw[HR.out,HF.out]; rfl),ez⟩
          · have HF:Hid (dp (l7 l (k+1)) (l.drop (k+1))=R):=by show _=_; rw[hP,hL] at cF; simpa using cF.symm
            have HP:=Hid.mk' hP;have jA:Op.bytesLess q.toList l[k].2.1.toList=true:=hL;clear cF hr hP hS h0 hj hL;generalize l[k]=p at *;have o0:=last.On.cell c0 pG;have o1:=last.On.cell c1 pG;have o2:=last.On.cell c2 pG;ab fail;have br:=last.On.iq wr.heap.size wr;have ep:∀x:last.On wr.heap.size wr,Calls Tryz.prog 142 #[.agg #[.int .i64 p.1,.string p.2.1,.string p.2.2]] x.w fun e w'=>e=.returned (.bool true)∧∃y:last.On wr.heap.size wr,w'=y.w:=fun x=>last.Calls.on x (Nat.le_refl _) (by have:=l6 p x.w mH yQ; rw[HP.out] at this; exact this)
            refine last.ar wr.heap.size (by aa) (by aa) ?_
            repeat(ai ((ao 142; exact ep _)))
            refine wpQuiet_nil ?_;intro w5 cf;obtain⟨x5,cf⟩:=cf;subst cf;have ez:Below w.heap.size w x5.w:=hB.trans (x5.2.mono hB.size);ab fail;aA
            case rel=>exact⟨k+1,by omega,by aF,HF.out,ez⟩
            case measure=>simp[intOf]; omega
    · have HF:Hid (R=true):=by show _=_; rw[←hr,List.drop_eq_nil_of_le (by omega)]; cases l7 l k <;> rfl
      clear hr;ab fail;refine(jV (l.length:Int) 1 8 _).mono ?_;rintro e w9 ⟨rfl,rfl⟩;ab fail;an;exact⟨au (by unfold b_; rw[HR.out,HF.out,Bool.true_and]; have e:(1≤(l.length:Int)∧(l.length:Int)≤8)↔(1≤l.length∧l.length≤8):=by omega
                          rw[←Bool.decide_and]; exact decide_eq_decide.2 e),hB⟩
end aX
end Go.Proofs.YtmibabclefgljaaGreat
