/- OrdL WdMath WdS CoL CoQ CoR CoEx -/
import Derived.Test.YtmibabclefgljaaGreatShaf
import Derived.Test.YtmibabclefgljaaGreatShba
import Derived.Test.YtmibabclefgljaaGreatShah
import Derived.Sort.OwnSortedInts
import Derived.Test.YtmibabclefgljaaGreatShab
import Derived.Test.YtmibabclefgljaaGreatShac
import Derived.Test.YtmibabclefgljaaGreatShae
import Derived.Test.YtmibabclefgljaaGreatShax
import Derived.Test.YtmibabclefgljaaGreatShaz
import Derived.Deep.RegionHeld3
set_option linter.unusedVariables false
set_option linter.unusedSimpArgs false
set_option maxRecDepth 100000
set_option maxHeartbeats 4000000
namespace Go.Proofs.YtmibabclefgljaaGreat
namespace aN
open Go Go.RowKit base av
open Go.Maps (Keyed keyOf_int_mk)
open Go.Sort (Holds)
theorem GF(w w':World)(z:Int)(x y:ByteArray)(hB:Below (w.alloc (.cells #[.int .i64 z,.string x,.string y] 121)).heap.size (w.alloc (.cells #[.int .i64 z,.string x,.string y] 121)) w'):
 w'.cell? ⟨w.heap.size,0,none⟩=some (.int .i64 z)∧w'.cell? ⟨w.heap.size,1,none⟩=some (.string x)∧w'.cell? ⟨w.heap.size,2,none⟩=some (.string y):=by
 have a6:w.heap.size<(w.alloc (.cells #[.int .i64 z,.string x,.string y] 121)).heap.size:=by simp
 refine⟨(hB.cell (p:=⟨w.heap.size,0,none⟩) a6).trans ?_,(hB.cell (p:=⟨w.heap.size,1,none⟩) a6).trans ?_,(hB.cell (p:=⟨w.heap.size,2,none⟩) a6).trans ?_⟩
 · simp
 · simp
 · simp
theorem DY(n:Int)(l:List Od)(k:Nat)(h:k<l.length):Ri (fun s=>dM s n (l.take k)) (bl l[k].2.1 n) (dM (bl l[k].2.1 n) n (l.take k)++[l[k]])=fun s=>dM s n (l.take (k+1)):=by
 funext t
 show Ri _ _ _ _=List.filter _ _;rw[qM (fun o=>decide (bl o.2.1 n=t)) l k h]
 by_cases e:t=bl l[k].2.1 n
 · subst e;rw[ri]; simp[dM]
 · rw[oY e];have e':¬bl l[k].2.1 n=t:=fun x=>e x.symm
   simp[dM,e']
theorem qk(key:ByteArray)(n:Int):(Lit.int .i64 (bl key n)).wf=true:=by
 have h1:=(fj key n).1;have h2:=uc key n;exact WalkArith.wf_i64 (by omega)
theorem GG(s n:Int)(l:List Od):(dM s n l).length≤l.length:=List.length_filter_le _ _
theorem GH(b off len cap:Nat)(l:List Od)(n:Int)(w:World)(h:dD w (some ⟨b,off,none⟩) len l)(dG:∀p∈l,p.2.1.size≤1099511627776)(iO:len≤1099511627776)(hn:(Lit.int .i64 n).wf=true):
 Calls Tryz.prog 174 #[.slice (some ⟨b,off,none⟩) len cap,.int .i64 n] w fun e w'=>
  e=.returned (.map (some w.heap.size))∧eT w' w.heap.size (w.heap.size+1) len (fun s=>dM s n l)∧Below w.heap.size w w':=by
 obtain⟨i0,hi,dm,dk,cA⟩:=info_parts sx;have hl:=h.1;have eW:=h.2.2.1;have OJ:= @run_makeMap Tryz.prog;subst hl;go_enter Tryz.func174,Tryz.ntmps174;go_wp2_with (at_builtin; fail)
 go_loopw [12] (fun i wr=>∃k:Nat,k≤l.length∧i=.int .i64 (k:Int)∧eT wr w.heap.size (w.heap.size+1) k (fun s=>dM s n (l.take k))∧Below w.heap.size w wr) (fun i _=>l.length - (intOf i).toNat)
 case atStart=>exact⟨0,Nat.zero_le _,rfl,BE w,(Below.refl _ _).alloc (Nat.le_refl _) _⟩
 case round=>
  obtain⟨k,hk,rfl,hT,hB⟩:=hrel;clear OJ;by_cases a6:k<l.length
  · obtain⟨c0,c1,c2⟩:=(h.below hB).cells k a6;have fL:(k:Int)<(l.length:Int):=by omega
    have mh:=eW _ (List.getElem_mem a6);have yx:=dG _ (List.getElem_mem a6);have HU:=Hid.mk' (DY n l k a6);have hfl:=GG (bl l[k].2.1 n) n (l.take k);have yF:(l.take k).length≤k:=List.length_take_le _ _;have Cn:=qk l[k].2.1 n;have bg:Below wr.heap.size wr (wr.alloc (.cells #[.int .i64 l[k].1,.string l[k].2.1,.string l[k].2.2] 121)):=(Below.refl _ _).alloc (Nat.le_refl _) _;have HC:=Hid.mk' (yH l[k].2.1 n (wr.alloc (.cells #[.int .i64 l[k].1,.string l[k].2.1,.string l[k].2.2] 121)) yx hn);generalize bl l[k].2.1 n=sh at *;generalize l[k]=p at *;go_wp2_with (at_builtin; fail)
    refine HC.out.mono ?_;rintro e w3 ⟨rfl,dt⟩;obtain⟨d0,d1,d2⟩:=GF wr w3 p.1 p.2.1 p.2.2 dt;have nu:Below wr.heap.size wr w3:=bg.trans (dt.mono bg.size);have cJ:Below w.heap.size w w3:=hB.trans (nu.mono hB.size);have Fm:=hT.below nu;have OK:w.heap.size+1≤w3.heap.size:=Fm.lt;clear HC dt nu hB hT c0 c1 c2 bg;go_wp2_with (at_lookup; refine qi _ rfl _ _ rfl rfl rfl Fm Cn (by unfold maxLen; omega) ?_)
    intro v aB TA E0;have fD:(dM sh n (l.take k)).length+1≤maxLen:=by unfold maxLen; omega
    have jX:((dM sh n (l.take k)).length+1) * 40≤140737488355328:=by omega
    have HT3:=Hid.mk' Fm;have Z_:=Hid.mk' E0;have Gd:Hid (∀q∈dM sh n (l.take k),dN q):=fun q hq=>TA q.1 q.2.1 q.2.2 hq
    clear E0 Fm TA;go_wp2_with (at_builtin; refine wpList_append_own_at _ rfl (.tmp 24) (.tmp 26) 73 rfl (w.heap.size+1) 121 i0 (.agg #[.int .i64 0,.string ⟨#[]⟩,.string ⟨#[]⟩]) 3 40 Tryz.underlying73 hi dm dk cA rfl (by decide) _ _ _ rfl (aB.alloc _) ⟨w3.heap.size,0,none⟩ 1 1 (aM [p]) rfl rfl (db _ _ _) (bz _) fD jX (aI _ _ OK) ?_)
    intro v4 w4 kH mz cN tF;have bY:¬v4=.slice none 0 0:=by simpa using cN
    obtain⟨g4,OX,XR,dT⟩:=ie rfl Gd.out mh bY kH;subst XR;have Qh:w3.grownBy w4 v.ownBlock:=World.grownBy.andThen ((World.grownBy_alloc w3 _ none).but v.ownBlock) mz (fun j hj=>Or.inr hj)
    have NT:some g4=v.ownBlock∨w3.heap.size≤g4:=by
     rcases tF with h1 | h1
     · exact Or.inl h1
     · simp[Value.ownBlock] at h1; exact Or.inr (by omega)
    have ej:Below w.heap.size w w4:=cJ.grown Qh cJ.size (fun j hj=>by have:=(aB.lt j hj).1; omega)
    clear aB kH mz cN bY tF cJ HT3;go_wp2_with (at_mapUpdate; refine rj _ rfl _ _ _ rfl Z_.out rfl rfl rfl Qh dT (by simp) NT ?_)
    intro w5 LR eN;rw[HU.out] at LR;have ec:Below w.heap.size w w5:=ej.grown eN ej.size (fun j hj=>by cases hj; exact Nat.le_refl _)
    have HT5:=Hid.mk' LR;clear eN ej LR dT Qh NT Z_;go_wp2_with (at_builtin; fail)
    go_roundw
    case rel=>exact⟨k+1,by omega,by go_num,HT5.out,ec⟩
    case measure=>simp[intOf]; omega
  · have HE:Hid (l.take k=l):=List.take_of_length_le (by omega)
    have xh:k=l.length:=by omega
    rw[HE.out] at hT;go_wp2_with (at_builtin; fail)
    go_ret;subst xh;exact⟨rfl,hT,hB⟩
/-! ### the shards that have any, in order -/
theorem cX.obj{w:World}{base g n cap:Nat}{zs:List Int}(h:cX w base g n cap zs):∃cur e,w.heap[g]? =some (.cells cur e (0,0)):=by
 rcases h.2.2 with⟨h',_⟩ | ⟨g',aO,cur,h',_,hg,_⟩
 · simp at h'
 · simp only[Value.slice.injEq,Option.some.injEq,Addr.mk.injEq,and_true,true_and] at h';obtain⟨rfl,rfl⟩:=h';exact⟨cur,_,hg⟩
theorem xV{w:World}{base g m cap b r n qv:Nat}{zs:List Int}{D:DataW Unit}{left:Lit→Bool}(h:cX w base g m cap zs)(hr:w.ranges Tryz.prog 3 Cm b r n D left qv):g≠b∧g≠r:=by
 obtain⟨cur,e,hg⟩:=h.obj;obtain⟨es,clock,since,seen,c0,hb,_,_,_,XS,_⟩:=hr;refine⟨fun x=>?_,fun x=>?_⟩
 · rw[x,hb] at hg; cases hg
 · rw[x,XS] at hg; cases hg
def wV(D:DataW Unit)(left:Lit→Bool)(ks:List Int):Prop:=
 ks.Nodup∧(∀s∈ks,(Lit.int .i64 s).wf=true)∧∀s,(Lit.int .i64 s).wf=true→(s∈ks↔(Maps.has D (.int .i64 s)=true∧left (.int .i64 s)=false))
theorem wV.start(D:DataW Unit):wV D (Maps.has D) []:=⟨List.nodup_nil,fun s h=>absurd h List.not_mem_nil,fun s _=>by cases Maps.has D (.int .i64 s) <;> simp⟩
theorem wV.step{D:DataW Unit}{left:Lit→Bool}{ks:List Int}(h:wV D left ks){x:Int}(hx:(Lit.int .i64 x).wf=true)(hl:left (.int .i64 x)=true)(hh:Maps.has D (.int .i64 x)=true):wV D (fun z=>left z && !z.sameKey (.int .i64 x)) (ks++[x]):=by
 obtain⟨h1,h2,h3⟩:=h;have kC:x∉ks:=fun hm=>by have:=((h3 x hx).1 hm).2; rw[hl] at this; cases this
 refine⟨List.nodup_append.2 ⟨h1,by simp,fun a ha b hb=>by simp at hb; subst hb; exact fun e=>kC (e ▸ ha)⟩,fun s hs=>?_,fun s hs=>?_⟩
 · rcases List.mem_append.1 hs with h4 | h4
   · exact h2 s h4
   · simp at h4; subst h4; exact hx
 · by_cases e:s=x
   · subst e; simp[hh,Lit.sameKey]
   · simp[h3 s hs,e,Lit.sameKey]
theorem wV.sorted{D:DataW Unit}{left:Lit→Bool}{ks:List Int}(h:wV D left ks)(hl:∀kl,left kl=false){n:Int}{l:List Od}(hD:∀s,(Lit.int .i64 s).wf=true→(Maps.has D (.int .i64 s)=true↔dM s n l≠[])):ks.mergeSort (fun x y=>decide (x≤y))=aD n l:=by
 obtain⟨h1,h2,h3⟩:=h;have hp:(ks.mergeSort (fun x y=>decide (x≤y))).Perm ks:=List.mergeSort_perm ks _
 have hs:(ks.mergeSort (fun x y=>decide (x≤y))).Pairwise (fun a b=>(decide (a≤b))=true):=List.pairwise_mergeSort (le:=fun x y:Int=>decide (x≤y)) (fun a b c h1 h2=>by simp at *; omega) (fun a b=>by simp; omega) ks
 have hn:=hp.nodup_iff.2 h1;refine LG ?_ (pR n l) fun x=>?_
 · unfold tm;refine(hs.and hn).imp ?_;rintro a b ⟨h4,h5⟩;simp at h4;omega
 · rw[hp.mem_iff,fc];constructor
   · intro hx;have hw:=h2 x hx;have:=(hD x hw).1 ((h3 x hw).1 hx).1;obtain⟨o,ho⟩:=List.exists_mem_of_ne_nil _ this;obtain⟨EX,Lt⟩:=List.mem_filter.1 ho;exact⟨o,EX,by simpa using Lt⟩
   · rintro⟨o,ho,rfl⟩;have hw:=qk o.2.1 n;refine(h3 _ hw).2 ⟨(hD _ hw).2 fun e=>?_,hl _⟩
     have:o∈dM (bl o.2.1 n) n l:=List.mem_filter.2 ⟨ho,by simp⟩
     rw[e] at this;exact absurd this List.not_mem_nil
theorem BF{w:World}{base g m cp nn:Nat}{os:Array Obj}{ks:List Int}(h:cX w base g m cp ks):
 cX (Go.Sort.grow (Go.Sort.putRow (Value.int .i64) (Go.Sort.ahead w nn) g 0 (ks.mergeSort fun x y=>decide (x≤y)).toArray) os) base g m cp (ks.mergeSort fun x y=>decide (x≤y))∧
 w.grownBy (Go.Sort.grow (Go.Sort.putRow (Value.int .i64) (Go.Sort.ahead w nn) g 0 (ks.mergeSort fun x y=>decide (x≤y)).toArray) os) (some g):=by
 have hl:=h.1;have jh:(ks.mergeSort fun x y=>decide (x≤y)).length=ks.length:=List.length_mergeSort ks
 rcases h.2.2 with⟨h',_⟩ | ⟨g',aO,cur,h',iM,hb,h1,h2,h3,h4⟩
 · simp at h'
 · simp only[Value.slice.injEq,Option.some.injEq,Addr.mk.injEq,and_true,true_and] at h';obtain⟨rfl,rfl⟩:=h';subst hl;exact⟨⟨jh,ownsRow_sortedI jh iM hb h1 h2 h3⟩,grownBy_sortedI _⟩
theorem DZ{w:World}{base g m cp:Nat}{ks:List Int}(h:cX w base g m cp ks):Holds (Value.int .i64) w g 0 ks.toArray:=by
 have hl:=h.1;rcases h.2.2 with⟨h',_⟩ | ⟨g',aO,cur,h',iM,hb,h1,h2,h3,h4⟩
 · simp at h'
 · simp only[Value.slice.injEq,Option.some.injEq,Addr.mk.injEq,and_true,true_and] at h';obtain⟨rfl,rfl⟩:=h';subst hl;exact holds_of_blockI hb (by simpa[aV] using h4)
theorem Ky{w:World}{B n:Nat}{D:DataW Unit}(h:w.ownsMap Tryz.prog 3 Cm B n D):Maps.size D≤n:=by
 obtain⟨es,clock,hb,F,hs,rfl⟩:=h;rw[Maps.size_eq,length_sorted];simpa using hs
theorem tG(w:World){ops:Array Oper}{rest:List Oper}{o:Oper}{a:Act}{Q:Exit→Act→World→Prop}(hg:o.guard=none)(it:Operand)(B9:o.op=Op.next it false)(b r n:Nat)(D:DataW Unit)(left:Lit→Bool)(qv:Nat)
 (XS:a.eval it=.pointer (some ⟨r,0,none⟩)) (h:w.ranges Tryz.prog 3 Cm b r n D left qv)
 (TB:(∀kl,left kl=false)→wpList Tryz.prog ops Q rest (a.put o.dst (.tuple #[.bool false])) w)
 (TC:∀(x:Int) (v:Value) (w':World) (MT:Nat),(Lit.int .i64 x).wf=true→left (.int .i64 x)=true→Maps.has D (.int .i64 x)=true→Hid (w'.ranges Tryz.prog 3 Cm b r n D (fun z=>left z && !z.sameKey (.int .i64 x)) MT)→MT<qv→
  w.grownBy w' (some r)→(Instr.entry (.pointer (some ⟨r,0,none⟩))).run Tryz.prog w'=.ok (.tuple #[.int .i64 x,v]) w'→wpList Tryz.prog ops Q rest (a.put o.dst (.tuple #[.bool true,.int .i64 x,v])) w'):
 wpList Tryz.prog ops Q (o::rest) a w:=
 wpList_next_ranges w hg it B9 3 zr Cm (Value.int .i64) (fun v:Value=>v) (fun key kl lN=>by obtain⟨x,rfl,_⟩:=Maps.keyOf_int_inv Tryz.underlying3 lN; exact⟨x,rfl⟩) (fun v y hv=>⟨v,rfl⟩) b r n D left qv XS h (fun _ hl=>TB hl)
  (fun x c kl y w' MT lN yF hv fl LZ a6 jF iO hen=>by
   obtain⟨x',ex,rfl,XT⟩:=Maps.keyOf_int_inv Tryz.underlying3 lN;cases ex;exact TC x c w' MT XT yF (Maps.has_true_of_atKey fl) LZ a6 jF hen)
theorem wW(b off len cap:Nat)(l:List Od)(n:Int)(w:World)(h:dD w (some ⟨b,off,none⟩) len l)(dG:∀p∈l,p.2.1.size≤1099511627776)(iO:len≤1099511627776)(hn:(Lit.int .i64 n).wf=true):
 Calls Tryz.prog 150 #[.slice (some ⟨b,off,none⟩) len cap,.int .i64 n] w fun e w'=>
  ∃g' n' aO,e=.returned (.slice (some ⟨g',0,none⟩) n' aO)∧cX w' w.heap.size g' n' aO (aD n l)∧Below w.heap.size w w':=by
 obtain⟨i0,hi,dm,dk,cA⟩:=info_parts pA;have bg:Below w.heap.size w (w.alloc (.cells #[] 3)):=(Below.refl _ _).alloc (Nat.le_refl _) _;have gi:=iS w w.heap.size (Nat.le_refl _);have hC:=GH b off len cap l n _ (h.below bg) dG iO hn;have DA:(w.alloc (.cells #[] 3)).heap.size=w.heap.size+1:=by simp
 rw[DA] at hC;have HC:=Hid.mk' hC;clear hC DA;go_enter Tryz.func150,Tryz.ntmps150;go_wp2_with (at_builtin; fail)
 refine HC.out.mono ?_;rintro e w2 ⟨rfl,hT,aU⟩;have Kz:Below (w.alloc (.cells #[] 3)).heap.size (w.alloc (.cells #[] 3)) w2:=aU.mono (by simp)
 have dw:Below w.heap.size w w2:=bg.trans (Kz.mono bg.size);have fE:=gi.below Kz;have Fp:=dw.size;obtain⟨D,aB,hIs,hD⟩:=hT.owns;have HD:=Hid.mk' hD;have hsD:=Ky aB;clear HC aU Kz gi bg hT hD hIs;go_wp2_with (at_range; refine wpList_range_own _ rfl _ 84 rfl 3 73 zr Tryz.underlying84 Cm (w.heap.size+1) len D rfl aB ?_)
 intro w3 TD ky Lc;have d_:=fE.grown ky (by simp)
 have cJ:Below w.heap.size w w3:=dw.grown ky Fp (fun j hj=>by cases hj)
 have Vb:w.heap.size≤w2.heap.size:=Fp;generalize w2.heap.size=rr at *;clear fE dw aB ky Fp;go_wp2_with (at_builtin; fail)
 go_loopw [5] (fun v wr=>∃(left:Lit→Bool) (qv g m cp:Nat) (ks:List Int),wr.ranges Tryz.prog 3 Cm (w.heap.size+1) rr len D left qv∧v=.slice (some ⟨g,0,none⟩) m cp∧cX wr w.heap.size g m cp ks∧Hid (wV D left ks)∧m+qv≤len∧Below w.heap.size w wr) (fun _ wr=>wr.rangeLeft (w.heap.size+1) rr)
 case atStart=>exact⟨_,_,_,_,_,[],TD,rfl,d_,wV.start D,by omega,cJ⟩
 case round=>
  clear TD d_ cJ;obtain⟨left,qv,g,m,cp,ks,LZ,rfl,hO,HG,hlen,hB⟩:=hrel;have mX:=hB.size;go_wp2_with (at_next; refine tG _ rfl _ rfl (w.heap.size+1) rr len D left qv rfl LZ ?_ ?_)
  · intro tM;have HS:=Hid.mk' (HG.out.sorted tM HD.out);have xl:=hO.1;have QL:=Hid.mk' (NS.Kx g 0 cp ks wr (DZ hO) hO.lt.2 (by omega))
    rw[xl] at QL;clear LZ tM HG;go_wp2_with fail;refine QL.out.mono ?_;rintro e w5 ⟨rfl,nn,os,bP⟩;obtain⟨eh,g_⟩:=BF (nn:=nn) (os:=os) hO;rw[←bP] at eh g_;have ec:Below w.heap.size w w5:=hB.grown g_ mX (fun j hj=>by cases hj; exact hO.lt.1)
    rw[HS.out] at eh;have wu:=Hid.mk' eh;clear bP g_ eh hO hB QL;go_wp2_with fail;go_ret;exact⟨_,_,_,rfl,wu.out,ec⟩
  · intro x c w1 XU XT yF dj HRG a6 gR hen;have Ty:wr.rangeLeft (w.heap.size+1) rr=qv:=LZ.left_eq;have HG1:Hid (wV D (fun z=>left z && !z.sameKey (.int .i64 x)) (ks++[x])):=HG.out.step XT yF dj
    have aW:=xV hO LZ;have gi:=hO.grown gR (fun e=>aW.2 (by cases e; rfl))
    have eU:Below w.heap.size w w1:=hB.grown gR mX (fun j hj=>by cases hj; exact Vb)
    have fD:m+1≤maxLen:=by unfold maxLen; omega
    have jX:(m+1) * 8≤140737488355328:=by omega
    have uj:w.heap.size≤w1.heap.size:=eU.size;have HM0:=Hid.mk' Ty;clear hO hB LZ gR HG aW dj Ty;go_wp2_with (at_builtin; refine wpList_append_own _ rfl (.tmp 16) (.tmp 18) 54 rfl w.heap.size 3 i0 (.int .i64 0) 1 8 Tryz.underlying54 hi dm dk cA rfl (by decide) _ _ _ rfl (gi.2.alloc _) ⟨w1.heap.size,0,none⟩ 1 1 (aV [x]) rfl rfl (ew _ _ _) (bT _) fD jX (aI _ _ uj) ?_)
    intro v4 w4 kH mz cN;have bY:¬v4=.slice none 0 0:=by simpa using cN
    obtain⟨g4,OX,XR,dT⟩:=uJ gi.1 bY kH;subst XR;have TE:cX (w1.alloc (.cells #[.int .i64 x] 3)) w.heap.size g m cp ks:=gi.below ((Below.refl _ _).alloc (Nat.le_refl _) _);have Qi:=HRG.out.alloc (.cells #[.int .i64 x] 3);have aW:=xV TE Qi;have TF:=Qi.kept mz (fun e=>aW.1 (by simp[Value.ownBlock] at e; omega)) (fun e=>aW.2 (by simp[Value.ownBlock] at e; omega))
    have ej:Below w.heap.size w w4:=(eU.alloc uj _).grown mz (aI _ _ uj) (fun j hj=>by simp[Value.ownBlock] at hj; have:=gi.lt; omega)
    have H_:=Hid.mk' dT;have HR4:=Hid.mk' TF;clear kH mz cN bY dT gi TE Qi aW eU TF HRG;go_wp2_with (at_builtin; fail)
    go_roundw
    case rel=>exact⟨_,XU,g4,m+1,OX,ks++[x],HR4.out,rfl,H_.out,HG1,by omega,ej⟩
    case measure=>rw[HR4.out.left_eq,HM0.out]; exact a6
end aN
namespace kN
open Go Go.RowKit base av aN pO oF mo oE nC tJ
abbrev Wd:=Int × Int × Int × List Od × Bool
end kN
namespace kN
open Go Go.RowKit base av aN
theorem jl(a:Option Addr)(cap:Nat)(w:World):
 Calls Tryz.prog 100 #[.slice a 0 cap] w fun e w'=>e=.returned (.bool false)∧w'=w:=by
 go_enter Tryz.func100,Tryz.ntmps100;go_wp2_with fail;refine wp_loop_rounds 1 ?_;rw[rounds_succ];go_wp2_with fail;refine(jE 0 1 8 _).mono ?_;rintro e w9 ⟨rfl,rfl⟩;go_wp2_with fail;go_ret;exact⟨aj (by decide),rfl⟩
theorem fM(a:Option Addr)(len cap:Nat)(l:List Od)(w:World)(h:dD w a len l)(dG:∀p∈l,p.2.1.size≤1099511627776):
 Calls Tryz.prog 100 #[.slice a len cap] w fun e w'=>e=.returned (.bool (bM l))∧Below w.heap.size w w':=by
 by_cases h0:len=0
 · subst h0;obtain rfl:l=[]:=List.eq_nil_of_length_eq_zero h.1;refine(jl a cap w).mono ?_;rintro e w' ⟨rfl,rfl⟩;exact⟨rfl,Below.refl _ _⟩
 · obtain⟨b,off,ha,_⟩:=h.2.2.2 (by omega)
   subst ha;exact pU b off len cap l w h dG
theorem nK(a:Option Addr)(len cap:Nat)(l:List Od)(w:World)(h:dD w a len l)(dG:∀p∈l,p.2.1.size≤1099511627776):
 Calls Tryz.prog 72 #[.slice a len cap] w fun e w'=>e=.returned (.bool (bM l))∧Below w.heap.size w w':=by
 by_cases h0:len=0
 · subst h0;obtain rfl:l=[]:=List.eq_nil_of_length_eq_zero h.1;go_enter Tryz.func72,Tryz.ntmps72;go_wp2_with fail;go_ret;exact⟨aj (by decide),Below.refl _ _⟩
 · obtain⟨b,off,ha,_⟩:=h.2.2.2 (by omega)
   subst ha;exact uB b off len cap l w h dG
section
variable{X:Nat}{k s t:Int}{v:Value}{y:Bool}{w w':World}
end
end kN
namespace cos
open Go Go.RowKit base av aN lay kN
theorem MU(a:Option Addr)(len cap:Nat)(zs:List Int)(x:Int)(w:World)(h:tz w a len zs):
 Calls Tryz.prog 156 #[.slice a len cap,.int .i64 x] w fun e w'=>e=.returned (.int .i64 (idx (zs.findIdx? fun z=>decide (z=x))))∧w'=w:=by
 obtain⟨hl,hm,hc⟩:=h;subst hl;unfold maxLen at hm;go_enter Tryz.func156,Tryz.ntmps156;go_wp2;go_loop [8] (fun i=>∃k:Nat,k≤zs.length∧i=.int .i64 (k:Int)∧∀j (hj:j<k) (eL:j<zs.length),zs[j]≠x) (fun i=>zs.length - (intOf i).toNat)
 case atStart=>exact⟨0,Nat.zero_le _,rfl,fun j hj=>absurd hj (by omega)⟩
 case round=>
  obtain⟨k,hk,rfl,iD⟩:=hrel;have gv:=Hid.mk' iD;clear iD;by_cases a6:k<zs.length
  · obtain⟨b,off,ha,cK⟩:=hc (by omega)
    subst ha;have fl:=cK k a6;have fL:(k:Int)<(zs.length:Int):=by omega
    by_cases ht:zs[k]=x
    · have HF:Hid (idx (zs.findIdx? fun z=>decide (z=x))=(k:Int)):=by
       show _=_;rw[show zs.findIdx? (fun z=>decide (z=x))=some k from kO a6 (fun i hi=>decide_eq_false (gv.out i hi (by omega))) (decide_eq_true ht)]
       rfl
      rw[ht] at fl;clear ht gv cK hc;go_wp2;go_ret;exact⟨gJ HF.out.symm,rfl⟩
    · have HN:Hid (∀j (hj:j<k+1) (eL:j<zs.length),zs[j]≠x):=fun j hj eL=>by
       rcases Nat.lt_succ_iff_lt_or_eq.1 hj with e | e
       · exact gv.out j e eL
       · subst e; exact ht
      generalize zs[k]=y at *;have Z0:(x==y)=false:=beq_eq_false_iff_ne.2 fun e=>ht e.symm
      clear gv cK;go_wp2;go_round
      case rel=>exact⟨k+1,by omega,by go_num,HN.out⟩
      case measure=>simp[intOf]; omega
  · have CF:¬(k:Int)<(zs.length:Int):=by omega
    have HF:Hid (idx (zs.findIdx? fun z=>decide (z=x))= -1):=by
     show _=_;rw[show zs.findIdx? (fun z=>decide (z=x))=none from mK (fun i hi=>decide_eq_false (gv.out i (by omega) hi))]
     rfl
    clear gv hc;go_wp2;go_ret;exact⟨gJ HF.out.symm,rfl⟩
theorem KA{w:World}{b off len:Nat}{zs:List Int}(h:tz w (some ⟨b,off,none⟩) len zs)(k:Nat)(hk:k≤len):tz w (some ⟨b,off+k,none⟩) (len - k) (zs.drop k):=by
 have hl:=h.1;have hm:=h.2.1;have hc:=h.cells;refine⟨by simp; omega,by omega,fun h0=>⟨b,off+k,rfl,fun i hi=>?_⟩⟩
 have Dl:k+i<zs.length:=by simp at hi; omega
 rw[Nat.add_assoc,hc (k+i) Dl,List.getElem_drop]
theorem BG{w:World}{a:Option Addr}:tz w a 0 []:=⟨rfl,Nat.zero_le _,fun h=>absurd h (by omega)⟩
theorem BH(left ys:List Int)(k:Nat)(hk:k<ys.length):gO left (ys.drop k)=match left.findIdx? (fun z=>decide (z=ys[k])) with | none=>false | some i=>gO (left.drop (i+1)) (ys.drop (k+1)):=by
 rw[List.drop_eq_getElem_cons hk];rfl
theorem MV(b off:Nat)(tx st n:Int)(ob KB ol oc:Nat)(ya:Option Addr)(yl yc:Nat)(ops:List Od)(ys:List Int)(w:World)(c1:w.cell? ⟨b,off+1,none⟩=some (.slice (some ⟨ob,KB,none⟩) ol oc))(c3:w.cell? ⟨b,off+3,none⟩=some (.slice ya yl yc))(hO:dD w (some ⟨ob,KB,none⟩) ol ops)(hY:tz w ya yl ys)(dG:∀p∈ops,p.2.1.size≤1099511627776)(iO:ol≤1099511627776)(hn:(Lit.int .i64 n).wf=true):
 Calls Tryz.prog 120 #[.pointer (some ⟨b,off,none⟩),.int .i64 n] w fun e w'=>e=.returned (.bool (dK (aD n ops) none ys))∧Below w.heap.size w w':=by
 have J6:=hY.1;have PN:=hY.2.1;unfold maxLen at PN;rw[←MO (pR n ops)];have HS:=Hid.mk' (wW ob KB ol oc ops n w hO dG iO hn);have pd:=World.block_lt_of_cell? _ _ c3;generalize hR:gO (aD n ops) ys=R;have HR:=Hid.mk' hR;clear hO dG iO hn hR;generalize aD n ops=sh at *;go_enter Tryz.func120,Tryz.ntmps120;go_wp2_with fail;refine HS.out.mono ?_;rintro e w1 ⟨g,m,cp,rfl,XV,aT⟩;have d3:=(aT.cell (p:=⟨b,off+3,none⟩) pd).trans c3;have Hc:=XV.cases;have hSZ:=XV.sl;have HY:=Hid.mk' (hY.below aT);clear c1 c3 HS XV hY;go_wp2_with fail;go_loop [20,5] (fun i s=>∃(k sb so sn sc:Nat) (left:List Int),k≤yl∧i=.int .i64 (k:Int)∧s=.slice (some ⟨sb,so,none⟩) sn sc∧tz w1 (some ⟨sb,so,none⟩) sn left∧sn≤sc∧sc≤maxLen∧gO left (ys.drop k)=R) (fun i _=>yl - (intOf i).toNat)
 case atStart=>exact⟨0,_,_,_,_,sh,Nat.zero_le _,rfl,rfl,hSZ,Hc.1,Hc.2,HR.out⟩
 case round=>
  obtain⟨k,sb,so,sn,sc,left,hk,rfl,rfl,hL,hnc,Zo,ou⟩:=hrel;clear hSZ Hc d3;have XW:=Zo;unfold maxLen at XW;by_cases a6:k<yl
  · have ck:k<ys.length:=by omega
    obtain⟨yb,yo,e,zk⟩:=HY.out.2.2 (by omega)
    subst e;have fl:=zk k ck;have fL:(k:Int)<(yl:Int):=by omega
    have cc:=BH left ys k ck;have Lk:=MU (some ⟨sb,so,none⟩) sn sc left ys[k] w1 hL;rw[cc] at ou;generalize ys[k]=y at *;cases TG:left.findIdx? (fun z=>decide (z=y)) with
    | none=>
     rw[TG] at ou Lk;have NU:=Hid.mk' ou;have HI:=Hid.mk' Lk;rw[rf] at HI;clear ou cc TG Lk zk;go_wp2_with fail;refine HI.out.mono ?_;rintro e w2 ⟨rfl,jO⟩;replace jO:=jO.symm;subst jO;go_wp2_with fail;go_ret;exact⟨aj NU.out,aT⟩
    | some j=>
     rw[TG] at ou Lk;have eL:j<left.length:=(jK TG).1;have lP:=hL.1;have NU:=Hid.mk' ou;have HI:=Hid.mk' Lk;rw[re] at HI;have UD:((j:Int)+1)≤(sc:Int):=by omega
     have Ov:((j:Int)+1)≤(sn:Int):=by omega
     clear ou cc TG Lk zk;go_wp2_with fail;refine HI.out.mono ?_;rintro e w2 ⟨rfl,jO⟩;replace jO:=jO.symm;subst jO;go_wp2_with fail;go_round
     case rel=>
      have xl:maxLen=2 ^ 63 - 1:=rfl;by_cases hsc:sc=j+1
      · have hd:left.drop (j+1)=[]:=List.drop_eq_nil_of_le (by omega)
        exact⟨k+1,sb,so,sn - (j+1),sc - (j+1),left.drop (j+1),by omega,by go_num,by rw[if_pos hsc],by rw[hd,show sn - (j+1)=0 by omega]; exact BG,by omega,by omega,NU.out⟩
      · exact⟨k+1,sb,so+(j+1),sn - (j+1),sc - (j+1),left.drop (j+1),by omega,by go_num,by rw[if_neg hsc],KA hL (j+1) (by omega),by omega,by omega,NU.out⟩
     case measure=>simp[intOf]; omega
  · have EF:ys.drop k=[]:=List.drop_eq_nil_of_le (by omega)
    rw[EF] at ou;have NU:Hid (R=true):=by show _=_; rw[←ou]; unfold gO; rfl
    have fL:¬(k:Int)<(yl:Int):=by omega
    clear ou;go_wp2_with fail;go_ret;exact⟨aj NU.out.symm,aT⟩
def ow(log:List Ch)(tx st:Int):Bool:=if st=1 then !dc log tx else if st=2 then has log (tx,true) else if st=3 then has log (tx,false) else false
theorem GI{log:List Ch}(hn:(log.map fun c=>c.1).Nodup)(tx st:Int):ow log tx st=(decide (1≤st∧st≤3) && fy st (choice log tx)):=by
 unfold ow;rw[vw hn,mP hn,mP hn];by_cases h1:st=1
 · subst h1;rw[if_pos rfl];rcases choice log tx with _ | y
   · rfl
   · cases y <;> rfl
 by_cases h2:st=2
 · subst h2;rw[if_neg (by decide),if_pos rfl]
   rcases choice log tx with _ | y
   · rfl
   · cases y <;> rfl
 by_cases h3:st=3
 · subst h3;rw[if_neg (by decide),if_neg (by decide),if_pos rfl]
   rcases choice log tx with _ | y
   · rfl
   · cases y <;> rfl
 rw[if_neg h1,if_neg h2,if_neg h3,decide_eq_false (by omega)]; rfl
theorem GJ(b off:Nat)(tx st:Int)(B m:Nat)(log:List Ch)(w:World)(c0:w.cell? ⟨b,off,none⟩=some (.int .i64 tx))(c2:w.cell? ⟨b,off+2,none⟩=some (.int .i64 st))(hM:Made w B m log)(hw:(Lit.int .i64 tx).wf=true):
 Calls Tryz.prog 121 #[.pointer (some ⟨b,off,none⟩),.map (some B)] w fun e w'=>e=.returned (.bool (ow log tx st))∧Below w.heap.size w w':=by
 have H0:=Hid.mk' (xS B m log tx w hM hw);have H1:=Hid.mk' (EY B m log tx true w hM hw);have H2:=Hid.mk' (EY B m log tx false w hM hw);have HR:Hid (ow log tx st=if st=1 then !dc log tx else if st=2 then has log (tx,true) else if st=3 then has log (tx,false) else false):=rfl
 clear hM hw;generalize dc log tx=r0 at *;generalize has log (tx,true)=r1 at *;generalize has log (tx,false)=r2 at *;by_cases h1:st=1
 · subst h1;cases r0;all_goals
    go_enter Tryz.func121,Tryz.ntmps121;go_wp2_with fail;refine H0.out.mono ?_;rintro e w1 ⟨rfl,aT⟩;go_wp2_with fail;go_ret;exact⟨aj (by rw[HR.out]; simp),aT⟩
 have k1:(st==1)=false:=beq_eq_false_iff_ne.2 h1;by_cases h2:st=2
 · subst h2;go_enter Tryz.func121,Tryz.ntmps121;go_wp2_with fail;refine H1.out.mono ?_;rintro e w1 ⟨rfl,aT⟩;go_wp2_with fail;go_ret;exact⟨aj (by rw[HR.out]; simp),aT⟩
 have k2:(st==2)=false:=beq_eq_false_iff_ne.2 h2;by_cases h3:st=3
 · subst h3;go_enter Tryz.func121,Tryz.ntmps121;go_wp2_with fail;refine H2.out.mono ?_;rintro e w1 ⟨rfl,aT⟩;go_wp2_with fail;go_ret;exact⟨aj (by rw[HR.out]; simp),aT⟩
 have k3:(st==3)=false:=beq_eq_false_iff_ne.2 h3;go_enter Tryz.func121,Tryz.ntmps121;go_wp2_with fail;go_ret;exact⟨aj (by rw[HR.out,if_neg h1,if_neg h2,if_neg h3]),Below.refl _ _⟩
end cos
namespace cos
open Go Go.RowKit base av aN lay kN
def qm(ak:Int)(p:Option Int):Int:=match p with | none=>ak * 1000 | some q=>q+1
def Qj(n ak next:Int)(log:List Ch)(fr:Int)(j:Jb):Bool:= !decide (j.1<fr) && (!decide (ak * 1000+next≤j.1) && (bM j.2.1 && (dK (aD n j.2.1) none j.2.2.2 && ow log j.1 j.2.2.1)))
theorem MW{n ak next:Int}{log:List Ch}(hn:(log.map fun c=>c.1).Nodup)(p:Option Int)(hp:∀q,p=some q→ak * 1000≤q)(j:Jb):Qj n ak next log (qm ak p) j=eF n ak next log p j:=by
 have bool:∀a b d b2 b3 b4 b5 b6:Bool,(a && b)=(d && b2)→(a && (b && (b3 && (b4 && (b5 && b6)))))=(d && b2 && b3 && b5 && b4 && b6):=by decide
 unfold Qj eF;rw[GI hn];refine bool _ _ _ _ _ _ _ _ ?_;cases p with
 | none=>
  rw[show qm ak none=ak * 1000 from rfl]
  show _=(_ && true);rw[Bool.and_true];by_cases h1:j.1<ak * 1000
  · rw[decide_eq_true h1,decide_eq_false (p:=ak * 1000≤j.1∧j.1≤ak * 1000+next - 1) (by omega)]; rfl
  · rw[decide_eq_false h1];by_cases h2:ak * 1000+next≤j.1
    · rw[decide_eq_true h2,decide_eq_false (p:=ak * 1000≤j.1∧j.1≤ak * 1000+next - 1) (by omega)]; rfl
    · rw[decide_eq_false h2,decide_eq_true (p:=ak * 1000≤j.1∧j.1≤ak * 1000+next - 1) (by omega)]; rfl
 | some q=>
  have hq:=hp q rfl;rw[show qm ak (some q)=q+1 from rfl]
  show _=(_ && decide (q<j.1));by_cases h1:j.1<q+1
  · rw[decide_eq_true h1,decide_eq_false (show¬q<j.1 by omega)]; simp
  · rw[decide_eq_false h1,decide_eq_true (show q<j.1 by omega)]
    by_cases h2:ak * 1000+next≤j.1
    · rw[decide_eq_true h2,decide_eq_false (p:=ak * 1000≤j.1∧j.1≤ak * 1000+next - 1) (by omega)]; rfl
    · rw[decide_eq_false h2,decide_eq_true (p:=ak * 1000≤j.1∧j.1≤ak * 1000+next - 1) (by omega)]; rfl
theorem KC(X:Nat)(T:TypeId)(pre post:List Value)(n ak next sure:Int)(ja:Option Addr)(jn jc:Nat)(la:Option Addr)(ln lc:Nat)(jobs:List Jb)(log:List Ch)(B m:Nat)(w:World)(bt:au X T pre (oe n ak next sure ja jn jc la ln lc) post w)(hj:nc dU w ja jn jobs)(hM:Made w B m log)(dW:(log.map fun c=>c.1).Nodup)(Gk:1≤n∧n≤8)(zy:1≤ak∧ak≤900)(Qd:0≤next∧next≤999)
 (Hy:∀j∈jobs,j.2.1.length≤1099511627776∧(∀p∈j.2.1,p.2.1.size≤1099511627776)):
 Calls Tryz.prog 88 #[.pointer (some ⟨X,pre.length,none⟩),.map (some B)] w fun e w'=>e=.returned (.bool (eC n ak next log none jobs))∧Below w.heap.size w w':=by
 have eL:=hj.1;have Tm:=hj.2.1;unfold maxLen at Tm;have c3:=bt.cell 3 _ rfl;have Qk:(Lit.int .i64 n).wf=true:=WalkArith.wf_i64 (by omega)
 have Vc:=Hid.mk' (xT X T pre post n ak next sure ja jn jc la ln lc w bt zy);generalize hR:eC n ak next log none jobs=R;have HR:=Hid.mk' hR;have Q_:=Hid.mk' Hy;clear hR Hy;go_enter Tryz.func88,Tryz.ntmps88;go_wp2_with fail;refine Vc.out.mono ?_;rintro e w1 ⟨rfl,bx⟩;replace bx:=bx.symm;subst bx;go_wp2_with fail;go_loopw [15,5] (fun i f wr=>∃k:Nat,k≤jn∧i=.int .i64 (k:Int)∧f=.int .i64 (qm ak (iu jobs k))∧(∀q,iu jobs k=some q→ak * 1000≤q∧q<ak * 1000+next)∧eC n ak next log (iu jobs k) (jobs.drop k)=R∧Below w.heap.size w wr) (fun i _ _=>jn - (intOf i).toNat)
 case atStart=>exact⟨0,Nat.zero_le _,rfl,rfl,fun q hq=>(by cases hq),HR.out,Below.refl _ _⟩
 case round=>
  obtain⟨k,hk,rfl,rfl,XX,ou,hB⟩:=hrel;clear c3 Vc;by_cases a6:k<jn
  · have ck:k<jobs.length:=by omega
    obtain⟨jb,ep,e⟩:=fT hj (by omega)
    subst e;have hS:=hj.below hB;obtain⟨y0,y2,⟨oa,ol,oc,y1,hO,Hn⟩,ya,yl,yc,y3,hY,zk⟩:=qe hS k ck;have fL:(k:Int)<(jn:Int):=by omega
    obtain⟨Wa,vJ⟩:=Q_.out _ (List.getElem_mem ck);have fo:(Lit.int .i64 jobs[k].1).wf=true:=by
     obtain⟨vs,hv⟩:=hS.2.2.1 jobs[k] (List.getElem_mem ck);obtain⟨_,_,_,_,_,_,_,k1,_⟩:=tU.1 hv;exact k1
    rw[xN ck,←MW dW _ (fun q hq=>(XX q hq).1)] at ou
    have r_:=Hid.mk' ou;have XY:=Hid.mk' (oq ck);have HPR:=Hid.mk' XX;clear ou XX;generalize jobs[k]=j at *;obtain⟨tx,ops,st,yes⟩:=j;simp only[] at *;have JN:=bt.below hB;have hMw:=hM.below hB;obtain⟨fr,Q8⟩:∃fr,qm ak (iu jobs k)=fr:=⟨_,rfl⟩;rw[Q8] at r_;simp only[Q8];have x0:=JN.cell 0 _ rfl;rw[Nat.add_zero] at x0;have x3:=JN.cell 3 _ rfl;have o0:=last.On.cell (B:=wr.heap.size) x0 (World.block_lt_of_cell? _ _ x0);have o1:=last.On.cell (B:=wr.heap.size) x3 (World.block_lt_of_cell? _ _ x3);have p0:=last.On.cell (B:=wr.heap.size) y0 (World.block_lt_of_cell? _ _ y0);have p1:=last.On.cell (B:=wr.heap.size) y1 (World.block_lt_of_cell? _ _ y1);have p2:=last.On.cell (B:=wr.heap.size) y2 (World.block_lt_of_cell? _ _ y2);have p3:=last.On.cell (B:=wr.heap.size) y3 (World.block_lt_of_cell? _ _ y3);have a_:=last.On.gV wr.heap.size wr
    have rA:∀x:last.On wr.heap.size wr,Calls Tryz.prog 70 #[.pointer (some ⟨X,pre.length,none⟩)] x.w fun e w'=>e=.returned (.int .i64 (ak * 1000+next))∧∃y:last.On wr.heap.size wr,w'=y.w:=fun x=>last.Calls.on x (Nat.le_refl _) (BC X T pre post n ak next sure _ jn jc la ln lc x.w (JN.below x.2) zy Qd)
    have cE:∀x:last.On wr.heap.size wr,Calls Tryz.prog 72 #[.slice oa ol oc] x.w fun e w'=>e=.returned (.bool (bM ops))∧∃y:last.On wr.heap.size wr,w'=y.w:=fun x=>last.Calls.on x (Nat.le_refl _) (nK oa ol oc ops x.w (hO.below x.2) vJ)
    have cc:∀x:last.On wr.heap.size wr,Calls Tryz.prog 121 #[.pointer (some ⟨jb,ep+k * 4,none⟩),.map (some B)] x.w fun e w'=>e=.returned (.bool (ow log tx st))∧∃y:last.On wr.heap.size wr,w'=y.w:=fun x=>last.Calls.on x (Nat.le_refl _) (GJ jb (ep+k * 4) tx st B m log x.w (p0 x) (p2 x) (hMw.below x.2) fo)
    have HO:=Hid.mk' hO;have HY:=Hid.mk' hY;have Hz:Hid (Qj n ak next log fr (tx,ops,st,yes)=(!decide (tx<fr) && (!decide (ak * 1000+next≤tx) && (bM ops && (dK (aD n ops) none yes && ow log tx st))))):=rfl;clear hO hY JN hMw x0 y0 y1 y2 y3 hS;cases Gx:decide (tx<fr);rotate_left
    · have HF:Hid (R=false):=by show _=_; rw[←r_.out,Hz.out,Gx]; rfl
      clear r_ Hz cc;go_wp2_with fail;refine last.ai wr.heap.size (by kernel_rfl) (by kernel_rfl) ?_
      repeat(go_big_quiet_step ((first | (go_at_call 70; with_reducible exact rA _) | (go_at_call 72; with_reducible exact cE _))))
      refine wpQuiet_nil ?_;intro wq a8;obtain⟨xq,a8⟩:=a8;subst a8;have cV:Below wr.heap.size wr xq.w:=xq.2;generalize xq.w=w4 at *;clear o0 o1 p0 p1 p2 p3 rA cE a_;go_wp2_with fail;go_ret;exact⟨aj HF.out.symm,hB.trans (cV.mono hB.size)⟩
    cases lU:decide (ak * 1000+next≤tx);rotate_left
    · have HF:Hid (R=false):=by show _=_; rw[←r_.out,Hz.out,Gx,lU]; rfl
      clear r_ Hz cc;go_wp2_with fail;refine last.ai wr.heap.size (by kernel_rfl) (by kernel_rfl) ?_
      repeat(go_big_quiet_step ((first | (go_at_call 70; with_reducible exact rA _) | (go_at_call 72; with_reducible exact cE _))))
      refine wpQuiet_nil ?_;intro wq a8;obtain⟨xq,a8⟩:=a8;subst a8;have cV:Below wr.heap.size wr xq.w:=xq.2;generalize xq.w=w4 at *;clear o0 o1 p0 p1 p2 p3 rA cE a_;go_wp2_with fail;go_ret;exact⟨aj HF.out.symm,hB.trans (cV.mono hB.size)⟩
    cases KD:bM ops
    · have HF:Hid (R=false):=by show _=_; rw[←r_.out,Hz.out,Gx,lU,KD]; rfl
      rw[KD] at cE;clear r_ Hz cc KD;go_wp2_with fail;refine last.ai wr.heap.size (by kernel_rfl) (by kernel_rfl) ?_
      repeat(go_big_quiet_step ((first | (go_at_call 70; with_reducible exact rA _) | (go_at_call 72; with_reducible exact cE _))))
      refine wpQuiet_nil ?_;intro wq a8;obtain⟨xq,a8⟩:=a8;subst a8;have cV:Below wr.heap.size wr xq.w:=xq.2;generalize xq.w=w4 at *;clear o0 o1 p0 p1 p2 p3 rA cE a_;go_wp2_with fail;go_ret;exact⟨aj HF.out.symm,hB.trans (cV.mono hB.size)⟩
    have MX:=(bq _).1 KD;have oL:ol=ops.length:=HO.out.1.symm;obtain⟨ob,KB,e,_⟩:=HO.out.2.2.2 (by omega)
    subst e;have qn:∀x:last.On wr.heap.size wr,Calls Tryz.prog 120 #[.pointer (some ⟨jb,ep+k * 4,none⟩),.int .i64 n] x.w fun e w'=>e=.returned (.bool (dK (aD n ops) none yes))∧∃y:last.On wr.heap.size wr,w'=y.w:=fun x=>last.Calls.on x (Nat.le_refl _) (MV jb (ep+k * 4) tx st n ob KB ol oc ya yl yc ops yes x.w (p1 x) (p3 x) (HO.out.below x.2) (HY.out.below x.2) vJ (by omega) Qk)
    rw[KD] at cE;have HD1:=Hid.mk' (of_decide_eq_false Gx);have HD2:=Hid.mk' (of_decide_eq_false lU);clear oL MX;cases DO:dK (aD n ops) none yes
    · have HF:Hid (R=false):=by show _=_; rw[←r_.out,Hz.out,Gx,lU,KD,DO]; rfl
      rw[DO] at qn;clear r_ Hz cc KD DO;go_wp2_with fail;refine last.ai wr.heap.size (by kernel_rfl) (by kernel_rfl) ?_
      repeat(go_big_quiet_step ((first | (go_at_call 70; with_reducible exact rA _) | (go_at_call 72; with_reducible exact cE _) | (go_at_call 120; with_reducible exact qn _))))
      refine wpQuiet_nil ?_;intro wq a8;obtain⟨xq,a8⟩:=a8;subst a8;have cV:Below wr.heap.size wr xq.w:=xq.2;generalize xq.w=w4 at *;clear o0 o1 p0 p1 p2 p3 rA cE a_ qn;go_wp2_with fail;go_ret;exact⟨aj HF.out.symm,hB.trans (cV.mono hB.size)⟩
    rw[DO] at qn;cases jJ:ow log tx st
    · have HF:Hid (R=false):=by show _=_; rw[←r_.out,Hz.out,Gx,lU,KD,DO,jJ]; rfl
      rw[jJ] at cc;clear r_ Hz KD DO jJ;go_wp2_with fail;refine last.ai wr.heap.size (by kernel_rfl) (by kernel_rfl) ?_
      repeat(go_big_quiet_step ((first | (go_at_call 70; with_reducible exact rA _) | (go_at_call 72; with_reducible exact cE _) | (go_at_call 120; with_reducible exact qn _) | (go_at_call 121; with_reducible exact cc _))))
      refine wpQuiet_nil ?_;intro wq a8;obtain⟨xq,a8⟩:=a8;subst a8;have cV:Below wr.heap.size wr xq.w:=xq.2;generalize xq.w=w4 at *;clear o0 o1 p0 p1 p2 p3 rA cE a_ qn cc;go_wp2_with fail;go_ret;exact⟨aj HF.out.symm,hB.trans (cV.mono hB.size)⟩
    · have HF:Hid (eC n ak next log (some tx) (jobs.drop (k+1))=R):=by show _=_; rw[←r_.out,Hz.out,Gx,lU,KD,DO,jJ]; rfl
      rw[jJ] at cc;have Ra:Hid (ak * 1000≤tx∧tx<ak * 1000+next):=by
       have h1:=HD1.out;have h2:=HD2.out;refine⟨?_,by omega⟩
       rw[←Q8] at h1;cases XZ:iu jobs k with
       | none=>rw[XZ] at h1; unfold qm at h1; simp only[] at h1; omega
       | some q=>rw[XZ] at h1; have:=(HPR.out q XZ).1; unfold qm at h1; simp only[] at h1; omega
      clear r_ Hz KD DO jJ;go_wp2_with fail;refine last.ai wr.heap.size (by kernel_rfl) (by kernel_rfl) ?_
      repeat(go_big_quiet_step ((first | (go_at_call 70; with_reducible exact rA _) | (go_at_call 72; with_reducible exact cE _) | (go_at_call 120; with_reducible exact qn _) | (go_at_call 121; with_reducible exact cc _))))
      refine wpQuiet_nil ?_;intro wq a8;obtain⟨xq,a8⟩:=a8;subst a8;have cV:Below wr.heap.size wr xq.w:=xq.2;have t0:=p0 xq;generalize xq.w=w4 at *;clear p0;clear o0 o1 p1 p2 p3 rA cE a_ qn cc;have rN:=Ra.out;have w1:IntKind.i64.wrap (tx+1)=tx+1:=by rw[IntKind.wrap_i64]; omega
      go_wp2_with fail;go_roundw
      case rel=>exact⟨k+1,by omega,by go_num,by rw[XY.out]; rfl,fun q hq=>by rw[XY.out] at hq; cases hq; exact Ra.out,by rw[XY.out]; exact HF.out,hB.trans (cV.mono hB.size)⟩
      case measure=>simp[intOf]; omega
  · have EF:jobs.drop k=[]:=List.drop_eq_nil_of_le (by omega)
    rw[EF] at ou;have NU:Hid (R=true):=by show _=_; rw[←ou]; cases iu jobs k <;> rfl
    have fL:¬(k:Int)<(jn:Int):=by omega
    clear ou bt hj hM;go_wp2_with fail;go_ret;exact⟨aj NU.out.symm,hB⟩
end cos
namespace cos
open Go Go.RowKit base av aN lay kN
theorem GK(n:Int)(w:World):Calls Tryz.prog 30 #[.int .i64 n] w fun e w'=>e=.returned (.bool (decide (1≤n∧n≤8)))∧w'=w:=by
 by_cases h1:1≤n
 · by_cases h2:n≤8
   · rw[decide_eq_true ⟨h1,h2⟩];go_enter Tryz.func30,Tryz.ntmps30;go_wp2;go_ret;exact⟨by simp[h2],rfl⟩
   · rw[decide_eq_false (fun h=>h2 h.2)]
     go_enter Tryz.func30,Tryz.ntmps30;go_wp2;go_ret;exact⟨by simp[h2],rfl⟩
 · rw[decide_eq_false (fun h=>h1 h.1)]
   go_enter Tryz.func30,Tryz.ntmps30;go_wp2;go_ret;exact⟨rfl,rfl⟩
def D1(w:World)(c:Co)(e:Ending)(w':World):Prop:=
 Below w.heap.size w w'∧((be c=false∧∃v,e=.returned (.tuple #[v,.bool false]))∨(be c=true∧∃B m,e=.returned (.tuple #[.map (some B),.bool true])∧Made w' B m c.2.2.2.2.1))
theorem gb{w w':World}{c:Co}{v:Value}(hb:Below w.heap.size w w')(h:be c=false):D1 w c (.returned (.tuple #[v,.bool false])) w':=⟨hb,.inl ⟨h,v,rfl⟩⟩
theorem D4{w w':World}{c:Co}{B m:Nat}(hb:Below w.heap.size w w')(h:be c=true)(hM:Made w' B m c.2.2.2.2.1):D1 w c (.returned (.tuple #[.map (some B),.bool true])) w':=⟨hb,.inr ⟨h,B,m,rfl,hM⟩⟩
theorem GL(X:Nat)(T:TypeId)(pre post:List Value)(n ak next sure:Int)(ja:Option Addr)(jn jc:Nat)(la:Option Addr)(ln lc:Nat)(jobs:List Jb)(log:List Ch)(w:World)(bt:au X T pre (oe n ak next sure ja jn jc la ln lc) post w)(hj:nc dU w ja jn jobs)(hl:nc q_ w la ln log)
 (Hy:∀j∈jobs,j.2.1.length≤1099511627776∧(∀p∈j.2.1,p.2.1.size≤1099511627776)):
 Calls Tryz.prog 49 #[.pointer (some ⟨X,pre.length,none⟩)] w (D1 w (n,ak,next,jobs,log,sure)):=by
 have lP:=hl.1;have Nl:=hl.2.1;unfold maxLen at Nl;have HR:Hid (be (n,ak,next,jobs,log,sure)=(decide (1≤n∧n≤8) && decide (1≤ak∧ak≤900) && decide (0≤next∧next≤999) && decide (ln≤1000) && decide (0≤sure∧sure≤(ln:Int)) && cU (ak * 1000+next - 1) log && eC n ak next log none jobs)):=by
  show _=_;rw[←lP]; rfl
 have x0:=bt.cell 0 _ rfl;rw[Nat.add_zero] at x0;have x1:=bt.cell 1 _ rfl;have x2:=bt.cell 2 _ rfl;have x4:=bt.cell 4 _ rfl;have x5:=bt.cell 5 _ rfl;have o0:=last.On.cell (B:=w.heap.size) x0 (World.block_lt_of_cell? _ _ x0);have o1:=last.On.cell (B:=w.heap.size) x1 (World.block_lt_of_cell? _ _ x1);have o2:=last.On.cell (B:=w.heap.size) x2 (World.block_lt_of_cell? _ _ x2);have o4:=last.On.cell (B:=w.heap.size) x4 (World.block_lt_of_cell? _ _ x4);have o5:=last.On.cell (B:=w.heap.size) x5 (World.block_lt_of_cell? _ _ x5);have a_:=last.On.gV w.heap.size w;have zM:∀x:last.On w.heap.size w,Calls Tryz.prog 30 #[.int .i64 n] x.w fun e w'=>e=.returned (.bool (decide (1≤n∧n≤8)))∧∃y:last.On w.heap.size w,w'=y.w:=fun x=>last.Calls.on x (Nat.le_refl _) ((GK n x.w).mono fun e w' ⟨he,hw⟩=>⟨he,by rw[hw]; exact Below.refl _ _⟩)
 clear x0 x1 x2 x4 x5;cases Gv:decide (1≤n∧n≤8)
 · have HF:Hid (be (n,ak,next,jobs,log,sure)=false):=by show _=_; rw[HR.out,Gv]; rfl
   rw[Gv] at zM;clear HR Gv bt hj hl Hy;go_enter Tryz.func49,Tryz.ntmps49;go_wp2_with fail;refine last.ai w.heap.size (by kernel_rfl) (by kernel_rfl) ?_
   repeat(go_big_quiet_step ((first | (go_at_call 30; with_reducible exact zM _))))
   refine wpQuiet_nil ?_;intro wq a8;obtain⟨xq,a8⟩:=a8;subst a8;have cV:Below w.heap.size w xq.w:=xq.2;generalize xq.w=w4 at *;clear o0 o1 o2 o4 o5 a_ zM;go_wp2_with fail;go_returns
   exact gb cV HF.out
 rw[Gv] at zM;cases X0:decide (ak<1);rotate_left
 · have HF:Hid (be (n,ak,next,jobs,log,sure)=false):=by
    show _=_;have hq:=of_decide_eq_true X0;rw[HR.out,decide_eq_false (show¬(1≤ak∧ak≤900) by omega)]; simp
   clear HR bt hj hl Hy;go_enter Tryz.func49,Tryz.ntmps49;go_wp2_with fail;refine last.ai w.heap.size (by kernel_rfl) (by kernel_rfl) ?_
   repeat(go_big_quiet_step ((first | (go_at_call 30; with_reducible exact zM _))))
   refine wpQuiet_nil ?_;intro wq a8;obtain⟨xq,a8⟩:=a8;subst a8;have cV:Below w.heap.size w xq.w:=xq.2;generalize xq.w=w4 at *;clear o0 o1 o2 o4 o5 a_ zM;go_wp2_with fail;go_returns
   exact gb cV HF.out
 cases X1:decide (900<ak);rotate_left
 · have HF:Hid (be (n,ak,next,jobs,log,sure)=false):=by
    show _=_;have hq:=of_decide_eq_true X1;rw[HR.out,decide_eq_false (show¬(1≤ak∧ak≤900) by omega)]; simp
   clear HR bt hj hl Hy;go_enter Tryz.func49,Tryz.ntmps49;go_wp2_with fail;refine last.ai w.heap.size (by kernel_rfl) (by kernel_rfl) ?_
   repeat(go_big_quiet_step ((first | (go_at_call 30; with_reducible exact zM _))))
   refine wpQuiet_nil ?_;intro wq a8;obtain⟨xq,a8⟩:=a8;subst a8;have cV:Below w.heap.size w xq.w:=xq.2;generalize xq.w=w4 at *;clear o0 o1 o2 o4 o5 a_ zM;go_wp2_with fail;go_returns
   exact gb cV HF.out
 cases X2:decide (next<0);rotate_left
 · have HF:Hid (be (n,ak,next,jobs,log,sure)=false):=by
    show _=_;have hq:=of_decide_eq_true X2;rw[HR.out,decide_eq_false (show¬(0≤next∧next≤999) by omega)]; simp
   clear HR bt hj hl Hy;go_enter Tryz.func49,Tryz.ntmps49;go_wp2_with fail;refine last.ai w.heap.size (by kernel_rfl) (by kernel_rfl) ?_
   repeat(go_big_quiet_step ((first | (go_at_call 30; with_reducible exact zM _))))
   refine wpQuiet_nil ?_;intro wq a8;obtain⟨xq,a8⟩:=a8;subst a8;have cV:Below w.heap.size w xq.w:=xq.2;generalize xq.w=w4 at *;clear o0 o1 o2 o4 o5 a_ zM;go_wp2_with fail;go_returns
   exact gb cV HF.out
 cases X3:decide (999<next);rotate_left
 · have HF:Hid (be (n,ak,next,jobs,log,sure)=false):=by
    show _=_;have hq:=of_decide_eq_true X3;rw[HR.out,decide_eq_false (show¬(0≤next∧next≤999) by omega)]; simp
   clear HR bt hj hl Hy;go_enter Tryz.func49,Tryz.ntmps49;go_wp2_with fail;refine last.ai w.heap.size (by kernel_rfl) (by kernel_rfl) ?_
   repeat(go_big_quiet_step ((first | (go_at_call 30; with_reducible exact zM _))))
   refine wpQuiet_nil ?_;intro wq a8;obtain⟨xq,a8⟩:=a8;subst a8;have cV:Below w.heap.size w xq.w:=xq.2;generalize xq.w=w4 at *;clear o0 o1 o2 o4 o5 a_ zM;go_wp2_with fail;go_returns
   exact gb cV HF.out
 cases X4:decide (sure<0);rotate_left
 · have HF:Hid (be (n,ak,next,jobs,log,sure)=false):=by
    show _=_;have hq:=of_decide_eq_true X4;rw[HR.out,decide_eq_false (show¬(0≤sure∧sure≤(ln:Int)) by omega)]; simp
   clear HR bt hj hl Hy;go_enter Tryz.func49,Tryz.ntmps49;go_wp2_with fail;refine last.ai w.heap.size (by kernel_rfl) (by kernel_rfl) ?_
   repeat(go_big_quiet_step ((first | (go_at_call 30; with_reducible exact zM _))))
   refine wpQuiet_nil ?_;intro wq a8;obtain⟨xq,a8⟩:=a8;subst a8;have cV:Below w.heap.size w xq.w:=xq.2;generalize xq.w=w4 at *;clear o0 o1 o2 o4 o5 a_ zM;go_wp2_with fail;go_returns
   exact gb cV HF.out
 cases X5:decide ((ln:Int)<sure);rotate_left
 · have HF:Hid (be (n,ak,next,jobs,log,sure)=false):=by
    show _=_;have hq:=of_decide_eq_true X5;rw[HR.out,decide_eq_false (show¬(0≤sure∧sure≤(ln:Int)) by omega)]; simp
   clear HR bt hj hl Hy;go_enter Tryz.func49,Tryz.ntmps49;go_wp2_with fail;refine last.ai w.heap.size (by kernel_rfl) (by kernel_rfl) ?_
   repeat(go_big_quiet_step ((first | (go_at_call 30; with_reducible exact zM _))))
   refine wpQuiet_nil ?_;intro wq a8;obtain⟨xq,a8⟩:=a8;subst a8;have cV:Below w.heap.size w xq.w:=xq.2;generalize xq.w=w4 at *;clear o0 o1 o2 o4 o5 a_ zM;go_wp2_with fail;go_returns
   exact gb cV HF.out
 have Gw:=of_decide_eq_true Gv;have zy:1≤ak∧ak≤900:=⟨by have:=of_decide_eq_false X0; omega,by have:=of_decide_eq_false X1; omega⟩
 have rA:0≤next∧next≤999:=⟨by have:=of_decide_eq_false X2; omega,by have:=of_decide_eq_false X3; omega⟩
 have EG:0≤sure∧sure≤(ln:Int):=⟨by have:=of_decide_eq_false X4; omega,by have:=of_decide_eq_false X5; omega⟩
 rw[Gv,decide_eq_true zy,decide_eq_true rA,decide_eq_true EG] at HR;have uW:=Hid.mk' (fun wx (hx:Below w.heap.size w wx)=>BD X T pre post n ak next sure ja jn jc la ln lc log wx (bt.below hx) (hl.below hx) zy rA)
 have X6:=Hid.mk' (fun B m wx (hx:Below w.heap.size w wx) (hM:Made wx B m log) (hn:(log.map fun c=>c.1).Nodup)=>KC X T pre post n ak next sure ja jn jc la ln lc jobs log B m wx (bt.below hx) (hj.below hx) hM hn Gw zy rA Hy)
 clear bt hj hl Hy Gw zy rA EG;go_enter Tryz.func49,Tryz.ntmps49;go_wp2_with fail;refine last.ai w.heap.size (by kernel_rfl) (by kernel_rfl) ?_
 repeat(go_big_quiet_step ((first | (go_at_call 30; with_reducible exact zM _))))
 refine wpQuiet_nil ?_;intro wq a8;obtain⟨xq,a8⟩:=a8;subst a8;have cV:Below w.heap.size w xq.w:=xq.2;generalize xq.w=w4 at *;clear o0 o1 o2 o4 o5 a_ zM Gv X0 X1 X2 X3 X4 X5;go_wp2_with fail;refine(uW.out _ cV).mono ?_;rintro e w5 ⟨de,⟨ku,rfl⟩ | ⟨qn,B,m,rfl,hM⟩⟩
 · have ec:=cV.trans (de.mono cV.size);have HF:Hid (be (n,ak,next,jobs,log,sure)=false):=by
    show _=_;rw[HR.out];revert ku;generalize decide (ln≤1000)=b1;generalize cU (ak * 1000+next - 1) log=b2;generalize eC n ak next log none jobs=b3;intro ku;cases b1 <;> cases b2 <;> cases b3 <;> first | rfl | cases ku
   clear HR ku uW X6;go_wp2_with fail;go_returns
   exact gb ec HF.out
 · have ec:=cV.trans (de.mono cV.size);have dW:(log.map fun c=>c.1).Nodup:=BB (by rw[Bool.and_eq_true] at qn; exact qn.2)
   have Vd:=Hid.mk' (X6.out B m w5 ec hM dW);have Ve:Hid (be (n,ak,next,jobs,log,sure)=eC n ak next log none jobs):=by
    show _=_;rw[HR.out];revert qn;generalize decide (ln≤1000)=b1;generalize cU (ak * 1000+next - 1) log=b2;generalize eC n ak next log none jobs=b3;intro ku;cases b1 <;> cases b2 <;> cases b3 <;> first | rfl | cases ku
   have HM:=Hid.mk' hM;clear HR qn uW X6 hM dW;cases Vf:eC n ak next log none jobs
   · rw[Vf] at Vd Ve;clear Vf;go_wp2_with fail;refine Vd.out.mono ?_;rintro e w6 ⟨rfl,mj⟩;go_wp2_with fail;go_returns
     exact gb (ec.trans (mj.mono ec.size)) Ve.out
   · rw[Vf] at Vd Ve;clear Vf;go_wp2_with fail;refine Vd.out.mono ?_;rintro e w6 ⟨rfl,mj⟩;go_wp2_with fail;go_returns
     exact D4 (ec.trans (mj.mono ec.size)) Ve.out (HM.out.below mj)
theorem KE(w:World)(n ak next sure:Int)(ja:Option Addr)(jn jc:Nat)(la:Option Addr)(ln lc:Nat):au w.heap.size 28 [] (oe n ak next sure ja jn jc la ln lc) [] (w.alloc (kr n ak next sure ja jn jc la ln lc)):=aE w _ _
theorem qz(ja:Option Addr)(jn jc:Nat)(la:Option Addr)(ln lc:Nat)(c:Co)(w:World)(h:kQ w ja jn jc la ln lc c)(hf:rC c):
 Calls Tryz.prog 15 #[Gs c.1 c.2.1 c.2.2.1 c.2.2.2.2.2 ja jn jc la ln lc] w fun e w'=>e=.returned (.bool (be c))∧Below w.heap.size w w':=by
 obtain⟨n,ak,next,jobs,log,sure⟩:=c;simp only[] at *;have hb:=aS w (kr n ak next sure ja jn jc la ln lc);have hS:=h.below hb;have HC:=Hid.mk' (GL _ _ [] [] n ak next sure ja jn jc la ln lc jobs log _ (KE w n ak next sure ja jn jc la ln lc) hS.jobs hS.log hf.2.2);clear h hS hf;go_enter Tryz.func15,Tryz.ntmps15;go_wp2_with fail;refine HC.out.mono ?_;rintro e w1 ⟨aT,⟨ku,v,rfl⟩ | ⟨qn,B,m,rfl,hM⟩⟩
 · go_wp2_with fail;go_ret;exact⟨aj ku.symm,hb.trans (aT.mono hb.size)⟩
 · go_wp2_with fail;go_ret;exact⟨aj qn.symm,hb.trans (aT.mono hb.size)⟩
end cos
namespace cos
open Go Go.RowKit base av aN lay kN
section
variable{w w':World}{vs:List Value}{c:Co}{F:List Nat}
theorem ny(h:a7.own w vs c F):∃ja jn jc la ln lc,vs=[.int .i64 c.1,.int .i64 c.2.1,.int .i64 c.2.2.1,.slice ja jn jc,.slice la ln lc,.int .i64 c.2.2.2.2.2]:=by
 obtain⟨ja,jn,jc,la,ln,lc,e,_⟩:=xM.1 (a7.eu h);exact⟨ja,jn,jc,la,ln,lc,e⟩
theorem tY{ja la:Option Addr}{jn jc ln lc:Nat}(h:a7.eZ w [.int .i64 c.1,.int .i64 c.2.1,.int .i64 c.2.2.1,.slice ja jn jc,.slice la ln lc,.int .i64 c.2.2.2.2.2] c):kQ w ja jn jc la ln lc c:=by
 obtain⟨Ht,Hu,Hv,Bl,Bm,Bn,e,h⟩:=xM.1 h;unfold oe at e;simp only[List.cons.injEq,Value.slice.injEq,true_and,and_true] at e;obtain⟨⟨rfl,rfl,rfl⟩,rfl,rfl,rfl⟩:=e;exact h
def MY(j:Jb):Nat:=2+3 * j.2.1.length+j.2.2.2.length
def TH(c:Co):Nat:=(c.2.2.2.1.map MY).sum+2 * c.2.2.2.2.1.length
theorem MZ(l:List Jb):(l.map MY).sum≤2 * l.length+3 * pq l:=by
 induction l with
 | nil=>simp
 | cons j l ih=>
  simp only[List.map_cons,List.sum_cons,List.length_cons,pq] at ih ⊢;have:MY j≤2+3 * Kh j:=by unfold MY Kh; omega
  omega
theorem oW.qv(h:oW c):TH c≤7340032:=by
 have h1:=MZ c.2.2.2.1;have h2:=h.jobs;have h3:=h.log;have h4:=h.sum;unfold TH;omega
end
end cos
end Go.Proofs.YtmibabclefgljaaGreat
