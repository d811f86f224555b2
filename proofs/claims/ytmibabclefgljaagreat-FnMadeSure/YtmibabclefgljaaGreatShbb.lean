/- OrdL WdMath WdS CoL CoQ CoR CoEx -/
import Derived.Test.YtmibabclefgljaaGreatShaf
import Derived.Test.YtmibabclefgljaaGreatShba
import Derived.Test.YtmibabclefgljaaGreatShah
import Derived.Sort.OwnSortedInts
import Derived.Test.YtmibabclefgljaaGreatShab
import Derived.Test.YtmibabclefgljaaGreatShac
import Derived.Test.YtmibabclefgljaaGreatShae
import Derived.Test.YtmibabclefgljaaGreatShax
import Derived.Test.YtmibabclefgljaaGreatShaz
import Derived.Deep.RegionHeld3
set_option linter.unusedVariables false
set_option linter.unusedSimpArgs false
set_option maxRecDepth 100000
set_option maxHeartbeats 4000000
namespace Go.Proofs.YtmibabclefgljaaGreat
namespace aX
open Go Go.RowKit base aE
open Go.Maps (Keyed keyOf_int_mk)
open Go.Sort (Holds)
theorem GV(w w':World)(z:Int)(x y:ByteArray)(hB:Below (w.alloc (.cells #[.int .i64 z,.string x,.string y] 121)).heap.size (w.alloc (.cells #[.int .i64 z,.string x,.string y] 121)) w'):
 w'.cell? ⟨w.heap.size,0,none⟩=some (.int .i64 z)∧w'.cell? ⟨w.heap.size,1,none⟩=some (.string x)∧w'.cell? ⟨w.heap.size,2,none⟩=some (.string y):=by
 have bn:w.heap.size<(w.alloc (.cells #[.int .i64 z,.string x,.string y] 121)).heap.size:=by simp
 refine⟨(hB.cell (p:=⟨w.heap.size,0,none⟩) bn).trans ?_,(hB.cell (p:=⟨w.heap.size,1,none⟩) bn).trans ?_,(hB.cell (p:=⟨w.heap.size,2,none⟩) bn).trans ?_⟩
 · simp
 · simp
 · simp
theorem Eg(n:Int)(l:List Od)(k:Nat)(h:k<l.length):Rs (fun s=>ec s n (l.take k)) (bA l[k].2.1 n) (ec (bA l[k].2.1 n) n (l.take k)++[l[k]])=fun s=>ec s n (l.take (k+1)):=by
 funext t
 show Rs _ _ _ _=List.filter _ _;rw[rf (fun o=>decide (bA o.2.1 n=t)) l k h]
 by_cases e:t=bA l[k].2.1 n
 · subst e;rw[rK]; simp[ec]
 · rw[pA e];have e':¬bA l[k].2.1 n=t:=fun x=>e x.symm
   simp[ec,e']
theorem qG(key:ByteArray)(n:Int):(Lit.int .i64 (bA key n)).wf=true:=by
 have h1:=(fD key n).1;have h2:=uB key n;exact WalkArith.wf_i64 (by omega)
theorem GW(s n:Int)(l:List Od):(ec s n l).length≤l.length:=List.length_filter_le _ _
theorem GX(b off len cap:Nat)(l:List Od)(n:Int)(w:World)(h:dS w (some ⟨b,off,none⟩) len l)(dV:∀p∈l,p.2.1.size≤1099511627776)(jg:len≤1099511627776)(hn:(Lit.int .i64 n).wf=true):
 Calls Tryz.prog 174 #[.slice (some ⟨b,off,none⟩) len cap,.int .i64 n] w fun e w'=>
  e=.returned (.map (some w.heap.size))∧fh w' w.heap.size (w.heap.size+1) len (fun s=>ec s n l)∧Below w.heap.size w w':=by
 obtain⟨i0,hi,dE,dD,cO⟩:=info_parts sQ;have hl:=h.1;have fk:=h.2.2.1;have OT:= @run_makeMap Tryz.prog;subst hl;aj Tryz.func174,Tryz.ntmps174;ab (ak; fail)
 aN [12] (fun i wr=>∃k:Nat,k≤l.length∧i=.int .i64 (k:Int)∧fh wr w.heap.size (w.heap.size+1) k (fun s=>ec s n (l.take k))∧Below w.heap.size w wr) (fun i _=>l.length - (intOf i).toNat)
 case atStart=>exact⟨0,Nat.zero_le _,rfl,BT w,(Below.refl _ _).alloc (Nat.le_refl _) _⟩
 case round=>
  obtain⟨k,hk,rfl,hT,hB⟩:=hrel;clear OT;by_cases bn:k<l.length
  · obtain⟨c0,c1,c2⟩:=(h.below hB).cells k bn;have fZ:(k:Int)<(l.length:Int):=by omega
    have mH:=fk _ (List.getElem_mem bn);have yQ:=dV _ (List.getElem_mem bn);have HU:=Hid.mk' (Eg n l k bn);have hfl:=GW (bA l[k].2.1 n) n (l.take k);have yX:(l.take k).length≤k:=List.length_take_le _ _;have CD:=qG l[k].2.1 n;have bw:Below wr.heap.size wr (wr.alloc (.cells #[.int .i64 l[k].1,.string l[k].2.1,.string l[k].2.2] 121)):=(Below.refl _ _).alloc (Nat.le_refl _) _;have HC:=Hid.mk' (yZ l[k].2.1 n (wr.alloc (.cells #[.int .i64 l[k].1,.string l[k].2.1,.string l[k].2.2] 121)) yQ hn);generalize bA l[k].2.1 n=sh at *;generalize l[k]=p at *;ab (ak; fail)
    refine HC.out.mono ?_;rintro e w3 ⟨rfl,dI⟩;obtain⟨d0,d1,d2⟩:=GV wr w3 p.1 p.2.1 p.2.2 dI;have nN:Below wr.heap.size wr w3:=bw.trans (dI.mono bw.size);have cY:Below w.heap.size w w3:=hB.trans (nN.mono hB.size);have FH:=hT.below nN;have OU:w.heap.size+1≤w3.heap.size:=FH.lt;clear HC dI nN hB hT c0 c1 c2 bw;ab (xE; refine qF _ rfl _ _ rfl rfl rfl FH CD (by unfold maxLen; omega) ?_)
    intro v aK TJ Ff;have fR:(ec sh n (l.take k)).length+1≤maxLen:=by unfold maxLen; omega
    have kn:((ec sh n (l.take k)).length+1) * 40≤140737488355328:=by omega
    have HT3:=Hid.mk' FH;have HBK:=Hid.mk' Ff;have Gt:Hid (∀q∈ec sh n (l.take k),ed q):=fun q hq=>TJ q.1 q.2.1 q.2.2 hq
    clear Ff FH TJ;ab (ak; refine wpList_append_own_at _ rfl (.tmp 24) (.tmp 26) 73 rfl (w.heap.size+1) 121 i0 (.agg #[.int .i64 0,.string ⟨#[]⟩,.string ⟨#[]⟩]) 3 40 Tryz.underlying73 hi dE dD cO rfl (by decide) _ _ _ rfl (aK.alloc _) ⟨w3.heap.size,0,none⟩ 1 1 (aW [p]) rfl rfl (du _ _ _) (bM _) fR kn (aS _ _ OU) ?_)
    intro v4 w4 kZ mQ db tY;have cC:¬v4=.slice none 0 0:=by simpa using db
    obtain⟨g4,O7,X3,ej⟩:=iD rfl Gt.out mH cC kZ;subst X3;have Qq:w3.grownBy w4 v.ownBlock:=World.grownBy.andThen ((World.grownBy_alloc w3 _ none).but v.ownBlock) mQ (fun j hj=>Or.inr hj)
    have N5:some g4=v.ownBlock∨w3.heap.size≤g4:=by
     rcases tY with h1 | h1
     · exact Or.inl h1
     · simp[Value.ownBlock] at h1; exact Or.inr (by omega)
    have eF:Below w.heap.size w w4:=cY.grown Qq cY.size (fun j hj=>by have:=(aK.lt j hj).1; omega)
    clear aK kZ mQ db cC tY cY HT3;ab (jY; refine rL _ rfl _ _ _ rfl HBK.out rfl rfl rfl Qq ej (by simp) N5 ?_)
    intro w5 L3 fa;rw[HU.out] at L3;have ez:Below w.heap.size w w5:=eF.grown fa eF.size (fun j hj=>by cases hj; exact Nat.le_refl _)
    have HT5:=Hid.mk' L3;clear fa eF L3 ej Qq N5 HBK;ab (ak; fail)
    aA
    case rel=>exact⟨k+1,by omega,by aF,HT5.out,ez⟩
    case measure=>simp[intOf]; omega
  · have HE:Hid (l.take k=l):=List.take_of_length_le (by omega)
    have xD:k=l.length:=by omega
    rw[HE.out] at hT;ab (ak; fail)
    an;subst xD;exact⟨rfl,hT,hB⟩
/-! ### the shards that have any, in order -/
theorem dm.obj{w:World}{base g n cap:Nat}{zs:List Int}(h:dm w base g n cap zs):∃cur e,w.heap[g]? =some (.cells cur e (0,0)):=by
 rcases h.2.2 with⟨h',_⟩ | ⟨g',aY,cur,h',_,hg,_⟩
 · simp at h'
 · simp only[Value.slice.injEq,Option.some.injEq,Addr.mk.injEq,and_true,true_and] at h';obtain⟨rfl,rfl⟩:=h';exact⟨cur,_,hg⟩
theorem yp{w:World}{base g m cap b r n qP:Nat}{zs:List Int}{D:DataW Unit}{left:Lit→Bool}(h:dm w base g m cap zs)(hr:w.ranges Tryz.prog 3 CC b r n D left qP):g≠b∧g≠r:=by
 obtain⟨cur,e,hg⟩:=h.obj;obtain⟨es,clock,since,seen,c0,hb,_,_,_,X4,_⟩:=hr;refine⟨fun x=>?_,fun x=>?_⟩
 · rw[x,hb] at hg; cases hg
 · rw[x,X4] at hg; cases hg
def xp(D:DataW Unit)(left:Lit→Bool)(ks:List Int):Prop:=
 ks.Nodup∧(∀s∈ks,(Lit.int .i64 s).wf=true)∧∀s,(Lit.int .i64 s).wf=true→(s∈ks↔(Maps.has D (.int .i64 s)=true∧left (.int .i64 s)=false))
theorem xp.start(D:DataW Unit):xp D (Maps.has D) []:=⟨List.nodup_nil,fun s h=>absurd h List.not_mem_nil,fun s _=>by cases Maps.has D (.int .i64 s) <;> simp⟩
theorem xp.step{D:DataW Unit}{left:Lit→Bool}{ks:List Int}(h:xp D left ks){x:Int}(hx:(Lit.int .i64 x).wf=true)(hl:left (.int .i64 x)=true)(hh:Maps.has D (.int .i64 x)=true):xp D (fun z=>left z && !z.sameKey (.int .i64 x)) (ks++[x]):=by
 obtain⟨h1,h2,h3⟩:=h;have kU:x∉ks:=fun hm=>by have:=((h3 x hx).1 hm).2; rw[hl] at this; cases this
 refine⟨List.nodup_append.2 ⟨h1,by simp,fun a ha b hb=>by simp at hb; subst hb; exact fun e=>kU (e ▸ ha)⟩,fun s hs=>?_,fun s hs=>?_⟩
 · rcases List.mem_append.1 hs with h4 | h4
   · exact h2 s h4
   · simp at h4; subst h4; exact hx
 · by_cases e:s=x
   · subst e; simp[hh,Lit.sameKey]
   · simp[h3 s hs,e,Lit.sameKey]
theorem xp.sorted{D:DataW Unit}{left:Lit→Bool}{ks:List Int}(h:xp D left ks)(hl:∀kl,left kl=false){n:Int}{l:List Od}(hD:∀s,(Lit.int .i64 s).wf=true→(Maps.has D (.int .i64 s)=true↔ec s n l≠[])):ks.mergeSort (fun x y=>decide (x≤y))=aM n l:=by
 obtain⟨h1,h2,h3⟩:=h;have hp:(ks.mergeSort (fun x y=>decide (x≤y))).Perm ks:=List.mergeSort_perm ks _
 have hs:(ks.mergeSort (fun x y=>decide (x≤y))).Pairwise (fun a b=>(decide (a≤b))=true):=List.pairwise_mergeSort (le:=fun x y:Int=>decide (x≤y)) (fun a b c h1 h2=>by simp at *; omega) (fun a b=>by simp; omega) ks
 have hn:=hp.nodup_iff.2 h1;refine LR ?_ (qg n l) fun x=>?_
 · unfold tJ;refine(hs.and hn).imp ?_;rintro a b ⟨h4,h5⟩;simp at h4;omega
 · rw[hp.mem_iff,fw];constructor
   · intro hx;have hw:=h2 x hx;have:=(hD x hw).1 ((h3 x hw).1 hx).1;obtain⟨o,ho⟩:=List.exists_mem_of_ne_nil _ this;obtain⟨Fb,LF⟩:=List.mem_filter.1 ho;exact⟨o,Fb,by simpa using LF⟩
   · rintro⟨o,ho,rfl⟩;have hw:=qG o.2.1 n;refine(h3 _ hw).2 ⟨(hD _ hw).2 fun e=>?_,hl _⟩
     have:o∈ec (bA o.2.1 n) n l:=List.mem_filter.2 ⟨ho,by simp⟩
     rw[e] at this;exact absurd this List.not_mem_nil
theorem BU{w:World}{base g m cp nn:Nat}{os:Array Obj}{ks:List Int}(h:dm w base g m cp ks):
 dm (Go.Sort.grow (Go.Sort.putRow (Value.int .i64) (Go.Sort.ahead w nn) g 0 (ks.mergeSort fun x y=>decide (x≤y)).toArray) os) base g m cp (ks.mergeSort fun x y=>decide (x≤y))∧
 w.grownBy (Go.Sort.grow (Go.Sort.putRow (Value.int .i64) (Go.Sort.ahead w nn) g 0 (ks.mergeSort fun x y=>decide (x≤y)).toArray) os) (some g):=by
 have hl:=h.1;have jA:(ks.mergeSort fun x y=>decide (x≤y)).length=ks.length:=List.length_mergeSort ks
 rcases h.2.2 with⟨h',_⟩ | ⟨g',aY,cur,h',je,hb,h1,h2,h3,h4⟩
 · simp at h'
 · simp only[Value.slice.injEq,Option.some.injEq,Addr.mk.injEq,and_true,true_and] at h';obtain⟨rfl,rfl⟩:=h';subst hl;exact⟨⟨jA,ownsRow_sortedI jA je hb h1 h2 h3⟩,grownBy_sortedI _⟩
theorem Eh{w:World}{base g m cp:Nat}{ks:List Int}(h:dm w base g m cp ks):Holds (Value.int .i64) w g 0 ks.toArray:=by
 have hl:=h.1;rcases h.2.2 with⟨h',_⟩ | ⟨g',aY,cur,h',je,hb,h1,h2,h3,h4⟩
 · simp at h'
 · simp only[Value.slice.injEq,Option.some.injEq,Addr.mk.injEq,and_true,true_and] at h';obtain⟨rfl,rfl⟩:=h';subst hl;exact holds_of_blockI hb (by simpa[bg] using h4)
theorem KL{w:World}{B n:Nat}{D:DataW Unit}(h:w.ownsMap Tryz.prog 3 CC B n D):Maps.size D≤n:=by
 obtain⟨es,clock,hb,F,hs,rfl⟩:=h;rw[Maps.size_eq,length_sorted];simpa using hs
theorem tZ(w:World){ops:Array Oper}{rest:List Oper}{o:Oper}{a:Act}{Q:Exit→Act→World→Prop}(hg:o.guard=none)(it:Operand)(Cp:o.op=Op.next it false)(b r n:Nat)(D:DataW Unit)(left:Lit→Bool)(qP:Nat)
 (X4:a.eval it=.pointer (some ⟨r,0,none⟩)) (h:w.ranges Tryz.prog 3 CC b r n D left qP)
 (TK:(∀kl,left kl=false)→wpList Tryz.prog ops Q rest (a.put o.dst (.tuple #[.bool false])) w)
 (TL:∀(x:Int) (v:Value) (w':World) (M5:Nat),(Lit.int .i64 x).wf=true→left (.int .i64 x)=true→Maps.has D (.int .i64 x)=true→Hid (w'.ranges Tryz.prog 3 CC b r n D (fun z=>left z && !z.sameKey (.int .i64 x)) M5)→M5<qP→
  w.grownBy w' (some r)→(Instr.entry (.pointer (some ⟨r,0,none⟩))).run Tryz.prog w'=.ok (.tuple #[.int .i64 x,v]) w'→wpList Tryz.prog ops Q rest (a.put o.dst (.tuple #[.bool true,.int .i64 x,v])) w'):
 wpList Tryz.prog ops Q (o::rest) a w:=
 wpList_next_ranges w hg it Cp 3 zL CC (Value.int .i64) (fun v:Value=>v) (fun key kl l9=>by obtain⟨x,rfl,_⟩:=Maps.keyOf_int_inv Tryz.underlying3 l9; exact⟨x,rfl⟩) (fun v y hv=>⟨v,rfl⟩) b r n D left qP X4 h (fun _ hl=>TK hl)
  (fun x c kl y w' M5 l9 yX hv fF Ma bn jW jg hen=>by
   obtain⟨x',ex,rfl,X5⟩:=Maps.keyOf_int_inv Tryz.underlying3 l9;cases ex;exact TL x c w' M5 X5 yX (Maps.has_true_of_atKey fF) Ma bn jW hen)
theorem xr(b off len cap:Nat)(l:List Od)(n:Int)(w:World)(h:dS w (some ⟨b,off,none⟩) len l)(dV:∀p∈l,p.2.1.size≤1099511627776)(jg:len≤1099511627776)(hn:(Lit.int .i64 n).wf=true):
 Calls Tryz.prog 150 #[.slice (some ⟨b,off,none⟩) len cap,.int .i64 n] w fun e w'=>
  ∃g' n' aY,e=.returned (.slice (some ⟨g',0,none⟩) n' aY)∧dm w' w.heap.size g' n' aY (aM n l)∧Below w.heap.size w w':=by
 obtain⟨i0,hi,dE,dD,cO⟩:=info_parts pT;have bw:Below w.heap.size w (w.alloc (.cells #[] 3)):=(Below.refl _ _).alloc (Nat.le_refl _) _;have gK:=jl w w.heap.size (Nat.le_refl _);have hC:=GX b off len cap l n _ (h.below bw) dV jg hn;have DP:(w.alloc (.cells #[] 3)).heap.size=w.heap.size+1:=by simp
 rw[DP] at hC;have HC:=Hid.mk' hC;clear hC DP;aj Tryz.func150,Tryz.ntmps150;ab (ak; fail)
 refine HC.out.mono ?_;rintro e w2 ⟨rfl,hT,be⟩;have KM:Below (w.alloc (.cells #[] 3)).heap.size (w.alloc (.cells #[] 3)) w2:=be.mono (by simp)
 have dL:Below w.heap.size w w2:=bw.trans (KM.mono bw.size);have fS:=gK.below KM;have FM:=dL.size;obtain⟨D,aK,hIs,hD⟩:=hT.owns;have HD:=Hid.mk' hD;have hsD:=KL aK;clear HC be KM gK bw hT hD hIs;ab (TM; refine wpList_range_own _ rfl _ 84 rfl 3 73 zL Tryz.underlying84 CC (w.heap.size+1) len D rfl aK ?_)
 intro w3 TN kQ Lo;have ew:=fS.grown kQ (by simp)
 have cY:Below w.heap.size w w3:=dL.grown kQ FM (fun j hj=>by cases hj)
 have Vm:w.heap.size≤w2.heap.size:=FM;generalize w2.heap.size=rr at *;clear fS dL aK kQ FM;ab (ak; fail)
 aN [5] (fun v wr=>∃(left:Lit→Bool) (qP g m cp:Nat) (ks:List Int),wr.ranges Tryz.prog 3 CC (w.heap.size+1) rr len D left qP∧v=.slice (some ⟨g,0,none⟩) m cp∧dm wr w.heap.size g m cp ks∧Hid (xp D left ks)∧m+qP≤len∧Below w.heap.size w wr) (fun _ wr=>wr.rangeLeft (w.heap.size+1) rr)
 case atStart=>exact⟨_,_,_,_,_,[],TN,rfl,ew,xp.start D,by omega,cY⟩
 case round=>
  clear TN ew cY;obtain⟨left,qP,g,m,cp,ks,Ma,rfl,hO,HG,hlen,hB⟩:=hrel;have nu:=hB.size;ab (Vn; refine tZ _ rfl _ rfl (w.heap.size+1) rr len D left qP rfl Ma ?_ ?_)
  · intro ue;have HS:=Hid.mk' (HG.out.sorted ue HD.out);have xH:=hO.1;have QU:=Hid.mk' (N4.KJ g 0 cp ks wr (Eh hO) hO.lt.2 (by omega))
    rw[xH] at QU;clear Ma ue HG;ab fail;refine QU.out.mono ?_;rintro e w5 ⟨rfl,nn,os,cf⟩;obtain⟨eD,ix⟩:=BU (nn:=nn) (os:=os) hO;rw[←cf] at eD ix;have ez:Below w.heap.size w w5:=hB.grown ix nu (fun j hj=>by cases hj; exact hO.lt.1)
    rw[HS.out] at eD;have wS:=Hid.mk' eD;clear cf ix eD hO hB QU;ab fail;an;exact⟨_,_,_,rfl,wS.out,ez⟩
  · intro x c w1 X6 X5 yX dC HRG bn ij hen;have TH:wr.rangeLeft (w.heap.size+1) rr=qP:=Ma.left_eq;have HG1:Hid (xp D (fun z=>left z && !z.sameKey (.int .i64 x)) (ks++[x])):=HG.out.step X5 yX dC
    have bh:=yp hO Ma;have gK:=hO.grown ij (fun e=>bh.2 (by cases e; rfl))
    have fi:Below w.heap.size w w1:=hB.grown ij nu (fun j hj=>by cases hj; exact Vm)
    have fR:m+1≤maxLen:=by unfold maxLen; omega
    have kn:(m+1) * 8≤140737488355328:=by omega
    have uH:w.heap.size≤w1.heap.size:=fi.size;have HM0:=Hid.mk' TH;clear hO hB Ma ij HG bh dC TH;ab (ak; refine wpList_append_own _ rfl (.tmp 16) (.tmp 18) 54 rfl w.heap.size 3 i0 (.int .i64 0) 1 8 Tryz.underlying54 hi dE dD cO rfl (by decide) _ _ _ rfl (gK.2.alloc _) ⟨w1.heap.size,0,none⟩ 1 1 (bg [x]) rfl rfl (eM _ _ _) (cq _) fR kn (aS _ _ uH) ?_)
    intro v4 w4 kZ mQ db;have cC:¬v4=.slice none 0 0:=by simpa using db
    obtain⟨g4,O7,X3,ej⟩:=u9 gK.1 cC kZ;subst X3;have TO:dm (w1.alloc (.cells #[.int .i64 x] 3)) w.heap.size g m cp ks:=gK.below ((Below.refl _ _).alloc (Nat.le_refl _) _);have Qr:=HRG.out.alloc (.cells #[.int .i64 x] 3);have bh:=yp TO Qr;have TP:=Qr.kept mQ (fun e=>bh.1 (by simp[Value.ownBlock] at e; omega)) (fun e=>bh.2 (by simp[Value.ownBlock] at e; omega))
    have eF:Below w.heap.size w w4:=(fi.alloc uH _).grown mQ (aS _ _ uH) (fun j hj=>by simp[Value.ownBlock] at hj; have:=gK.lt; omega)
    have Il:=Hid.mk' ej;have HR4:=Hid.mk' TP;clear kZ mQ db cC ej gK TO Qr bh fi TP HRG;ab (ak; fail)
    aA
    case rel=>exact⟨_,X6,g4,m+1,O7,ks++[x],HR4.out,rfl,Il.out,HG1,by omega,eF⟩
    case measure=>rw[HR4.out.left_eq,HM0.out]; exact bn
end aX
namespace lh
open Go Go.RowKit base aE aX qd oX mL oW nT ub
abbrev Wd:=Int × Int × Int × List Od × Bool
end lh
namespace lh
open Go Go.RowKit base aE aX
theorem jD(a:Option Addr)(cap:Nat)(w:World):
 Calls Tryz.prog 100 #[.slice a 0 cap] w fun e w'=>e=.returned (.bool false)∧w'=w:=by
 aj Tryz.func100,Tryz.ntmps100;ab fail;refine wp_loop_rounds 1 ?_;rw[rounds_succ];ab fail;refine(jV 0 1 8 _).mono ?_;rintro e w9 ⟨rfl,rfl⟩;ab fail;an;exact⟨au (by decide),rfl⟩
theorem ga(a:Option Addr)(len cap:Nat)(l:List Od)(w:World)(h:dS w a len l)(dV:∀p∈l,p.2.1.size≤1099511627776):
 Calls Tryz.prog 100 #[.slice a len cap] w fun e w'=>e=.returned (.bool (b_ l))∧Below w.heap.size w w':=by
 by_cases h0:len=0
 · subst h0;obtain rfl:l=[]:=List.eq_nil_of_length_eq_zero h.1;refine(jD a cap w).mono ?_;rintro e w' ⟨rfl,rfl⟩;exact⟨rfl,Below.refl _ _⟩
 · obtain⟨b,off,ha,_⟩:=h.2.2.2 (by omega)
   subst ha;exact qk b off len cap l w h dV
theorem n_(a:Option Addr)(len cap:Nat)(l:List Od)(w:World)(h:dS w a len l)(dV:∀p∈l,p.2.1.size≤1099511627776):
 Calls Tryz.prog 72 #[.slice a len cap] w fun e w'=>e=.returned (.bool (b_ l))∧Below w.heap.size w w':=by
 by_cases h0:len=0
 · subst h0;obtain rfl:l=[]:=List.eq_nil_of_length_eq_zero h.1;aj Tryz.func72,Tryz.ntmps72;ab fail;an;exact⟨au (by decide),Below.refl _ _⟩
 · obtain⟨b,off,ha,_⟩:=h.2.2.2 (by omega)
   subst ha;exact uU b off len cap l w h dV
section
variable{X:Nat}{k s t:Int}{v:Value}{y:Bool}{w w':World}
end
end lh
namespace cos
open Go Go.RowKit base aE aX lay lh
theorem M6(a:Option Addr)(len cap:Nat)(zs:List Int)(x:Int)(w:World)(h:tS w a len zs):
 Calls Tryz.prog 156 #[.slice a len cap,.int .i64 x] w fun e w'=>e=.returned (.int .i64 (idx (zs.findIdx? fun z=>decide (z=x))))∧w'=w:=by
 obtain⟨hl,hm,hc⟩:=h;subst hl;unfold maxLen at hm;aj Tryz.func156,Tryz.ntmps156;bf;jv [8] (fun i=>∃k:Nat,k≤zs.length∧i=.int .i64 (k:Int)∧∀j (hj:j<k) (e7:j<zs.length),zs[j]≠x) (fun i=>zs.length - (intOf i).toNat)
 case atStart=>exact⟨0,Nat.zero_le _,rfl,fun j hj=>absurd hj (by omega)⟩
 case round=>
  obtain⟨k,hk,rfl,iT⟩:=hrel;have gP:=Hid.mk' iT;clear iT;by_cases bn:k<zs.length
  · obtain⟨b,off,ha,cZ⟩:=hc (by omega)
    subst ha;have fF:=cZ k bn;have fZ:(k:Int)<(zs.length:Int):=by omega
    by_cases ht:zs[k]=x
    · have HF:Hid (idx (zs.findIdx? fun z=>decide (z=x))=(k:Int)):=by
       show _=_;rw[show zs.findIdx? (fun z=>decide (z=x))=some k from lj bn (fun i hi=>decide_eq_false (gP.out i hi (by omega))) (decide_eq_true ht)]
       rfl
      rw[ht] at fF;clear ht gP cZ hc;bf;an;exact⟨gZ HF.out.symm,rfl⟩
    · have HN:Hid (∀j (hj:j<k+1) (e7:j<zs.length),zs[j]≠x):=fun j hj e7=>by
       rcases Nat.lt_succ_iff_lt_or_eq.1 hj with e | e
       · exact gP.out j e e7
       · subst e; exact ht
      generalize zs[k]=y at *;have htb:(x==y)=false:=beq_eq_false_iff_ne.2 fun e=>ht e.symm
      clear gP cZ;bf;f_
      case rel=>exact⟨k+1,by omega,by aF,HN.out⟩
      case measure=>simp[intOf]; omega
  · have CU:¬(k:Int)<(zs.length:Int):=by omega
    have HF:Hid (idx (zs.findIdx? fun z=>decide (z=x))= -1):=by
     show _=_;rw[show zs.findIdx? (fun z=>decide (z=x))=none from m6 (fun i hi=>decide_eq_false (gP.out i (by omega) hi))]
     rfl
    clear gP hc;bf;an;exact⟨gZ HF.out.symm,rfl⟩
theorem KN{w:World}{b off len:Nat}{zs:List Int}(h:tS w (some ⟨b,off,none⟩) len zs)(k:Nat)(hk:k≤len):tS w (some ⟨b,off+k,none⟩) (len - k) (zs.drop k):=by
 have hl:=h.1;have hm:=h.2.1;have hc:=h.cells;refine⟨by simp; omega,by omega,fun h0=>⟨b,off+k,rfl,fun i hi=>?_⟩⟩
 have DB:k+i<zs.length:=by simp at hi; omega
 rw[Nat.add_assoc,hc (k+i) DB,List.getElem_drop]
theorem BV{w:World}{a:Option Addr}:tS w a 0 []:=⟨rfl,Nat.zero_le _,fun h=>absurd h (by omega)⟩
theorem BW(left ys:List Int)(k:Nat)(hk:k<ys.length):ic left (ys.drop k)=match left.findIdx? (fun z=>decide (z=ys[k])) with | none=>false | some i=>ic (left.drop (i+1)) (ys.drop (k+1)):=by
 rw[List.drop_eq_getElem_cons hk];rfl
theorem M7(b off:Nat)(tx st n:Int)(ob KO ol oc:Nat)(ya:Option Addr)(yl yc:Nat)(ops:List Od)(ys:List Int)(w:World)(c1:w.cell? ⟨b,off+1,none⟩=some (.slice (some ⟨ob,KO,none⟩) ol oc))(c3:w.cell? ⟨b,off+3,none⟩=some (.slice ya yl yc))(hO:dS w (some ⟨ob,KO,none⟩) ol ops)(hY:tS w ya yl ys)(dV:∀p∈ops,p.2.1.size≤1099511627776)(jg:ol≤1099511627776)(hn:(Lit.int .i64 n).wf=true):
 Calls Tryz.prog 120 #[.pointer (some ⟨b,off,none⟩),.int .i64 n] w fun e w'=>e=.returned (.bool (dZ (aM n ops) none ys))∧Below w.heap.size w w':=by
 have Kh:=hY.1;have PX:=hY.2.1;unfold maxLen at PX;rw[←M0 (qg n ops)];have HS:=Hid.mk' (xr ob KO ol oc ops n w hO dV jg hn);have pG:=World.block_lt_of_cell? _ _ c3;generalize hR:ic (aM n ops) ys=R;have HR:=Hid.mk' hR;clear hO dV jg hn hR;generalize aM n ops=sh at *;aj Tryz.func120,Tryz.ntmps120;ab fail;refine HS.out.mono ?_;rintro e w1 ⟨g,m,cp,rfl,X7,a_⟩;have d3:=(a_.cell (p:=⟨b,off+3,none⟩) pG).trans c3;have Ho:=X7.cases;have hSZ:=X7.sl;have HY:=Hid.mk' (hY.below a_);clear c1 c3 HS X7 hY;ab fail;jv [20,5] (fun i s=>∃(k sb so sn sc:Nat) (left:List Int),k≤yl∧i=.int .i64 (k:Int)∧s=.slice (some ⟨sb,so,none⟩) sn sc∧tS w1 (some ⟨sb,so,none⟩) sn left∧sn≤sc∧sc≤maxLen∧ic left (ys.drop k)=R) (fun i _=>yl - (intOf i).toNat)
 case atStart=>exact⟨0,_,_,_,_,sh,Nat.zero_le _,rfl,rfl,hSZ,Ho.1,Ho.2,HR.out⟩
 case round=>
  obtain⟨k,sb,so,sn,sc,left,hk,rfl,rfl,hL,hnc,ZB,oN⟩:=hrel;clear hSZ Ho d3;have X8:=ZB;unfold maxLen at X8;by_cases bn:k<yl
  · have cJ:k<ys.length:=by omega
    obtain⟨yb,yo,e,zE⟩:=HY.out.2.2 (by omega)
    subst e;have fF:=zE k cJ;have fZ:(k:Int)<(yl:Int):=by omega
    have cF:=BW left ys k cJ;have Lw:=M6 (some ⟨sb,so,none⟩) sn sc left ys[k] w1 hL;rw[cF] at oN;generalize ys[k]=y at *;cases TQ:left.findIdx? (fun z=>decide (z=y)) with
    | none=>
     rw[TQ] at oN Lw;have N6:=Hid.mk' oN;have HI:=Hid.mk' Lw;rw[rI] at HI;clear oN cF TQ Lw zE;ab fail;refine HI.out.mono ?_;rintro e w2 ⟨rfl,j_⟩;replace j_:=j_.symm;subst j_;ab fail;an;exact⟨au N6.out,a_⟩
    | some j=>
     rw[TQ] at oN Lw;have e7:j<left.length:=(j6 TQ).1;have mb:=hL.1;have N6:=Hid.mk' oN;have HI:=Hid.mk' Lw;rw[rH] at HI;have UO:((j:Int)+1)≤(sc:Int):=by omega
     have OG:((j:Int)+1)≤(sn:Int):=by omega
     clear oN cF TQ Lw zE;ab fail;refine HI.out.mono ?_;rintro e w2 ⟨rfl,j_⟩;replace j_:=j_.symm;subst j_;ab fail;f_
     case rel=>
      have xH:maxLen=2 ^ 63 - 1:=rfl;by_cases hsc:sc=j+1
      · have hd:left.drop (j+1)=[]:=List.drop_eq_nil_of_le (by omega)
        exact⟨k+1,sb,so,sn - (j+1),sc - (j+1),left.drop (j+1),by omega,by aF,by rw[if_pos hsc],by rw[hd,show sn - (j+1)=0 by omega]; exact BV,by omega,by omega,N6.out⟩
      · exact⟨k+1,sb,so+(j+1),sn - (j+1),sc - (j+1),left.drop (j+1),by omega,by aF,by rw[if_neg hsc],KN hL (j+1) (by omega),by omega,by omega,N6.out⟩
     case measure=>simp[intOf]; omega
  · have EV:ys.drop k=[]:=List.drop_eq_nil_of_le (by omega)
    rw[EV] at oN;have N6:Hid (R=true):=by show _=_; rw[←oN]; unfold ic; rfl
    have fZ:¬(k:Int)<(yl:Int):=by omega
    clear oN;ab fail;an;exact⟨au N6.out.symm,a_⟩
def oO(log:List Ch)(tx st:Int):Bool:=if st=1 then !dv log tx else if st=2 then has log (tx,true) else if st=3 then has log (tx,false) else false
theorem GY{log:List Ch}(hn:(log.map fun c=>c.1).Nodup)(tx st:Int):oO log tx st=(decide (1≤st∧st≤3) && fN st (choice log tx)):=by
 unfold oO;rw[vR hn,nf hn,nf hn];by_cases h1:st=1
 · subst h1;rw[if_pos rfl];rcases choice log tx with _ | y
   · rfl
   · cases y <;> rfl
 by_cases h2:st=2
 · subst h2;rw[if_neg (by decide),if_pos rfl]
   rcases choice log tx with _ | y
   · rfl
   · cases y <;> rfl
 by_cases h3:st=3
 · subst h3;rw[if_neg (by decide),if_neg (by decide),if_pos rfl]
   rcases choice log tx with _ | y
   · rfl
   · cases y <;> rfl
 rw[if_neg h1,if_neg h2,if_neg h3,decide_eq_false (by omega)]; rfl
theorem GZ(b off:Nat)(tx st:Int)(B m:Nat)(log:List Ch)(w:World)(c0:w.cell? ⟨b,off,none⟩=some (.int .i64 tx))(c2:w.cell? ⟨b,off+2,none⟩=some (.int .i64 st))(hM:Made w B m log)(hw:(Lit.int .i64 tx).wf=true):
 Calls Tryz.prog 121 #[.pointer (some ⟨b,off,none⟩),.map (some B)] w fun e w'=>e=.returned (.bool (oO log tx st))∧Below w.heap.size w w':=by
 have H0:=Hid.mk' (yk B m log tx w hM hw);have H1:=Hid.mk' (Fc B m log tx true w hM hw);have H2:=Hid.mk' (Fc B m log tx false w hM hw);have HR:Hid (oO log tx st=if st=1 then !dv log tx else if st=2 then has log (tx,true) else if st=3 then has log (tx,false) else false):=rfl
 clear hM hw;generalize dv log tx=r0 at *;generalize has log (tx,true)=r1 at *;generalize has log (tx,false)=r2 at *;by_cases h1:st=1
 · subst h1;cases r0;bo
    aj Tryz.func121,Tryz.ntmps121;ab fail;refine H0.out.mono ?_;rintro e w1 ⟨rfl,a_⟩;ab fail;an;exact⟨au (by rw[HR.out]; simp),a_⟩
 have k1:(st==1)=false:=beq_eq_false_iff_ne.2 h1;by_cases h2:st=2
 · subst h2;aj Tryz.func121,Tryz.ntmps121;ab fail;refine H1.out.mono ?_;rintro e w1 ⟨rfl,a_⟩;ab fail;an;exact⟨au (by rw[HR.out]; simp),a_⟩
 have k2:(st==2)=false:=beq_eq_false_iff_ne.2 h2;by_cases h3:st=3
 · subst h3;aj Tryz.func121,Tryz.ntmps121;ab fail;refine H2.out.mono ?_;rintro e w1 ⟨rfl,a_⟩;ab fail;an;exact⟨au (by rw[HR.out]; simp),a_⟩
 have k3:(st==3)=false:=beq_eq_false_iff_ne.2 h3;aj Tryz.func121,Tryz.ntmps121;ab fail;an;exact⟨au (by rw[HR.out,if_neg h1,if_neg h2,if_neg h3]),Below.refl _ _⟩
end cos
namespace cos
open Go Go.RowKit base aE aX lay lh
def qH(av:Int)(p:Option Int):Int:=match p with | none=>av * 1000 | some q=>q+1
def Qs(n av next:Int)(log:List Ch)(fr:Int)(j:Jb):Bool:= !decide (j.1<fr) && (!decide (av * 1000+next≤j.1) && (b_ j.2.1 && (dZ (aM n j.2.1) none j.2.2.2 && oO log j.1 j.2.2.1)))
theorem M8{n av next:Int}{log:List Ch}(hn:(log.map fun c=>c.1).Nodup)(p:Option Int)(hp:∀q,p=some q→av * 1000≤q)(j:Jb):Qs n av next log (qH av p) j=eT n av next log p j:=by
 have bool:∀a b d b2 b3 b4 b5 b6:Bool,(a && b)=(d && b2)→(a && (b && (b3 && (b4 && (b5 && b6)))))=(d && b2 && b3 && b5 && b4 && b6):=by decide
 unfold Qs eT;rw[GY hn];refine bool _ _ _ _ _ _ _ _ ?_;cases p with
 | none=>
  rw[show qH av none=av * 1000 from rfl]
  show _=(_ && true);rw[Bool.and_true];by_cases h1:j.1<av * 1000
  · rw[decide_eq_true h1,decide_eq_false (p:=av * 1000≤j.1∧j.1≤av * 1000+next - 1) (by omega)]; rfl
  · rw[decide_eq_false h1];by_cases h2:av * 1000+next≤j.1
    · rw[decide_eq_true h2,decide_eq_false (p:=av * 1000≤j.1∧j.1≤av * 1000+next - 1) (by omega)]; rfl
    · rw[decide_eq_false h2,decide_eq_true (p:=av * 1000≤j.1∧j.1≤av * 1000+next - 1) (by omega)]; rfl
 | some q=>
  have hq:=hp q rfl;rw[show qH av (some q)=q+1 from rfl]
  show _=(_ && decide (q<j.1));by_cases h1:j.1<q+1
  · rw[decide_eq_true h1,decide_eq_false (show¬q<j.1 by omega)]; simp
  · rw[decide_eq_false h1,decide_eq_true (show q<j.1 by omega)]
    by_cases h2:av * 1000+next≤j.1
    · rw[decide_eq_true h2,decide_eq_false (p:=av * 1000≤j.1∧j.1≤av * 1000+next - 1) (by omega)]; rfl
    · rw[decide_eq_false h2,decide_eq_true (p:=av * 1000≤j.1∧j.1≤av * 1000+next - 1) (by omega)]; rfl
theorem KP(X:Nat)(T:TypeId)(pre post:List Value)(n av next sure:Int)(ja:Option Addr)(jn jc:Nat)(la:Option Addr)(ln lc:Nat)(jobs:List Jb)(log:List Ch)(B m:Nat)(w:World)(bI:aD X T pre (oI n av next sure ja jn jc la ln lc) post w)(hj:nE ek w ja jn jobs)(hM:Made w B m log)(eo:(log.map fun c=>c.1).Nodup)(GA:1≤n∧n≤8)(zR:1≤av∧av≤900)(Qm:0≤next∧next≤999)
 (Ib:∀j∈jobs,j.2.1.length≤1099511627776∧(∀p∈j.2.1,p.2.1.size≤1099511627776)):
 Calls Tryz.prog 88 #[.pointer (some ⟨X,pre.length,none⟩),.map (some B)] w fun e w'=>e=.returned (.bool (eQ n av next log none jobs))∧Below w.heap.size w w':=by
 have e7:=hj.1;have Tw:=hj.2.1;unfold maxLen at Tw;have c3:=bI.cell 3 _ rfl;have Qt:(Lit.int .i64 n).wf=true:=WalkArith.wf_i64 (by omega)
 have Vo:=Hid.mk' (ym X T pre post n av next sure ja jn jc la ln lc w bI zR);generalize hR:eQ n av next log none jobs=R;have HR:=Hid.mk' hR;have Rl:=Hid.mk' Ib;clear hR Ib;aj Tryz.func88,Tryz.ntmps88;ab fail;refine Vo.out.mono ?_;rintro e w1 ⟨rfl,bL⟩;replace bL:=bL.symm;subst bL;ab fail;aN [15,5] (fun i f wr=>∃k:Nat,k≤jn∧i=.int .i64 (k:Int)∧f=.int .i64 (qH av (iM jobs k))∧(∀q,iM jobs k=some q→av * 1000≤q∧q<av * 1000+next)∧eQ n av next log (iM jobs k) (jobs.drop k)=R∧Below w.heap.size w wr) (fun i _ _=>jn - (intOf i).toNat)
 case atStart=>exact⟨0,Nat.zero_le _,rfl,rfl,fun q hq=>(by cases hq),HR.out,Below.refl _ _⟩
 case round=>
  obtain⟨k,hk,rfl,rfl,X9,oN,hB⟩:=hrel;clear c3 Vo;by_cases bn:k<jn
  · have cJ:k<jobs.length:=by omega
    obtain⟨jb,eJ,e⟩:=gq hj (by omega)
    subst e;have hS:=hj.below hB;obtain⟨y0,y2,⟨oa,ol,oc,y1,hO,Hy⟩,ya,yl,yc,y3,hY,zE⟩:=qB hS k cJ;have fZ:(k:Int)<(jn:Int):=by omega
    obtain⟨Wn,we⟩:=Rl.out _ (List.getElem_mem cJ);have fH:(Lit.int .i64 jobs[k].1).wf=true:=by
     obtain⟨vs,hv⟩:=hS.2.2.1 jobs[k] (List.getElem_mem cJ);obtain⟨_,_,_,_,_,_,_,k1,_⟩:=uo.1 hv;exact k1
    rw[ye cJ,←M8 eo _ (fun q hq=>(X9 q hq).1)] at oN
    have sF:=Hid.mk' oN;have X_:=Hid.mk' (oL cJ);have HPR:=Hid.mk' X9;clear oN X9;generalize jobs[k]=j at *;obtain⟨tx,ops,st,yes⟩:=j;simp only[] at *;have JZ:=bI.below hB;have hMw:=hM.below hB;obtain⟨fr,Rj⟩:∃fr,qH av (iM jobs k)=fr:=⟨_,rfl⟩;rw[Rj] at sF;simp only[Rj];have x0:=JZ.cell 0 _ rfl;rw[Nat.add_zero] at x0;have x3:=JZ.cell 3 _ rfl;have o0:=last.On.cell (B:=wr.heap.size) x0 (World.block_lt_of_cell? _ _ x0);have o1:=last.On.cell (B:=wr.heap.size) x3 (World.block_lt_of_cell? _ _ x3);have p0:=last.On.cell (B:=wr.heap.size) y0 (World.block_lt_of_cell? _ _ y0);have p1:=last.On.cell (B:=wr.heap.size) y1 (World.block_lt_of_cell? _ _ y1);have p2:=last.On.cell (B:=wr.heap.size) y2 (World.block_lt_of_cell? _ _ y2);have p3:=last.On.cell (B:=wr.heap.size) y3 (World.block_lt_of_cell? _ _ y3);have br:=last.On.iq wr.heap.size wr
    have rU:∀x:last.On wr.heap.size wr,Calls Tryz.prog 70 #[.pointer (some ⟨X,pre.length,none⟩)] x.w fun e w'=>e=.returned (.int .i64 (av * 1000+next))∧∃y:last.On wr.heap.size wr,w'=y.w:=fun x=>last.Calls.on x (Nat.le_refl _) (BR X T pre post n av next sure _ jn jc la ln lc x.w (JZ.below x.2) zR Qm)
    have cT:∀x:last.On wr.heap.size wr,Calls Tryz.prog 72 #[.slice oa ol oc] x.w fun e w'=>e=.returned (.bool (b_ ops))∧∃y:last.On wr.heap.size wr,w'=y.w:=fun x=>last.Calls.on x (Nat.le_refl _) (n_ oa ol oc ops x.w (hO.below x.2) we)
    have cF:∀x:last.On wr.heap.size wr,Calls Tryz.prog 121 #[.pointer (some ⟨jb,eJ+k * 4,none⟩),.map (some B)] x.w fun e w'=>e=.returned (.bool (oO log tx st))∧∃y:last.On wr.heap.size wr,w'=y.w:=fun x=>last.Calls.on x (Nat.le_refl _) (GZ jb (eJ+k * 4) tx st B m log x.w (p0 x) (p2 x) (hMw.below x.2) fH)
    have HO:=Hid.mk' hO;have HY:=Hid.mk' hY;have Ic:Hid (Qs n av next log fr (tx,ops,st,yes)=(!decide (tx<fr) && (!decide (av * 1000+next≤tx) && (b_ ops && (dZ (aM n ops) none yes && oO log tx st))))):=rfl;clear hO hY JZ hMw x0 y0 y1 y2 y3 hS;cases GN:decide (tx<fr);cQ
    · have HF:Hid (R=false):=by show _=_; rw[←sF.out,Ic.out,GN]; rfl
      clear sF Ic cF;ab fail;refine last.ar wr.heap.size (by aa) (by aa) ?_
      repeat(ai ((first | (ao 70; ag exact rU _) | (ao 72; ag exact cT _))))
      refine wpQuiet_nil ?_;intro wq bq;obtain⟨xq,bq⟩:=bq;subst bq;have dj:Below wr.heap.size wr xq.w:=xq.2;generalize xq.w=w4 at *;clear o0 o1 p0 p1 p2 p3 rU cT br;ab fail;an;exact⟨au HF.out.symm,hB.trans (dj.mono hB.size)⟩
    cases mi:decide (av * 1000+next≤tx);cQ
    · have HF:Hid (R=false):=by show _=_; rw[←sF.out,Ic.out,GN,mi]; rfl
      clear sF Ic cF;ab fail;refine last.ar wr.heap.size (by aa) (by aa) ?_
      repeat(ai ((first | (ao 70; ag exact rU _) | (ao 72; ag exact cT _))))
      refine wpQuiet_nil ?_;intro wq bq;obtain⟨xq,bq⟩:=bq;subst bq;have dj:Below wr.heap.size wr xq.w:=xq.2;generalize xq.w=w4 at *;clear o0 o1 p0 p1 p2 p3 rU cT br;ab fail;an;exact⟨au HF.out.symm,hB.trans (dj.mono hB.size)⟩
    cases KQ:b_ ops
    · have HF:Hid (R=false):=by show _=_; rw[←sF.out,Ic.out,GN,mi,KQ]; rfl
      rw[KQ] at cT;clear sF Ic cF KQ;ab fail;refine last.ar wr.heap.size (by aa) (by aa) ?_
      repeat(ai ((first | (ao 70; ag exact rU _) | (ao 72; ag exact cT _))))
      refine wpQuiet_nil ?_;intro wq bq;obtain⟨xq,bq⟩:=bq;subst bq;have dj:Below wr.heap.size wr xq.w:=xq.2;generalize xq.w=w4 at *;clear o0 o1 p0 p1 p2 p3 rU cT br;ab fail;an;exact⟨au HF.out.symm,hB.trans (dj.mono hB.size)⟩
    have M9:=(bG _).1 KQ;have pf:ol=ops.length:=HO.out.1.symm;obtain⟨ob,KO,e,_⟩:=HO.out.2.2.2 (by omega)
    subst e;have qI:∀x:last.On wr.heap.size wr,Calls Tryz.prog 120 #[.pointer (some ⟨jb,eJ+k * 4,none⟩),.int .i64 n] x.w fun e w'=>e=.returned (.bool (dZ (aM n ops) none yes))∧∃y:last.On wr.heap.size wr,w'=y.w:=fun x=>last.Calls.on x (Nat.le_refl _) (M7 jb (eJ+k * 4) tx st n ob KO ol oc ya yl yc ops yes x.w (p1 x) (p3 x) (HO.out.below x.2) (HY.out.below x.2) we (by omega) Qt)
    rw[KQ] at cT;have HD1:=Hid.mk' (of_decide_eq_false GN);have HD2:=Hid.mk' (of_decide_eq_false mi);clear pf M9;cases D6:dZ (aM n ops) none yes
    · have HF:Hid (R=false):=by show _=_; rw[←sF.out,Ic.out,GN,mi,KQ,D6]; rfl
      rw[D6] at qI;clear sF Ic cF KQ D6;ab fail;refine last.ar wr.heap.size (by aa) (by aa) ?_
      repeat(ai ((first | (ao 70; ag exact rU _) | (ao 72; ag exact cT _) | (ao 120; ag exact qI _))))
      refine wpQuiet_nil ?_;intro wq bq;obtain⟨xq,bq⟩:=bq;subst bq;have dj:Below wr.heap.size wr xq.w:=xq.2;generalize xq.w=w4 at *;clear o0 o1 p0 p1 p2 p3 rU cT br qI;ab fail;an;exact⟨au HF.out.symm,hB.trans (dj.mono hB.size)⟩
    rw[D6] at qI;cases j5:oO log tx st
    · have HF:Hid (R=false):=by show _=_; rw[←sF.out,Ic.out,GN,mi,KQ,D6,j5]; rfl
      rw[j5] at cF;clear sF Ic KQ D6 j5;ab fail;refine last.ar wr.heap.size (by aa) (by aa) ?_
      repeat(ai ((first | (ao 70; ag exact rU _) | (ao 72; ag exact cT _) | (ao 120; ag exact qI _) | (ao 121; ag exact cF _))))
      refine wpQuiet_nil ?_;intro wq bq;obtain⟨xq,bq⟩:=bq;subst bq;have dj:Below wr.heap.size wr xq.w:=xq.2;generalize xq.w=w4 at *;clear o0 o1 p0 p1 p2 p3 rU cT br qI cF;ab fail;an;exact⟨au HF.out.symm,hB.trans (dj.mono hB.size)⟩
    · have HF:Hid (eQ n av next log (some tx) (jobs.drop (k+1))=R):=by show _=_; rw[←sF.out,Ic.out,GN,mi,KQ,D6,j5]; rfl
      rw[j5] at cF;have Rm:Hid (av * 1000≤tx∧tx<av * 1000+next):=by
       have h1:=HD1.out;have h2:=HD2.out;refine⟨?_,by omega⟩
       rw[←Rj] at h1;cases Ya:iM jobs k with
       | none=>rw[Ya] at h1; unfold qH at h1; simp only[] at h1; omega
       | some q=>rw[Ya] at h1; have:=(HPR.out q Ya).1; unfold qH at h1; simp only[] at h1; omega
      clear sF Ic KQ D6 j5;ab fail;refine last.ar wr.heap.size (by aa) (by aa) ?_
      repeat(ai ((first | (ao 70; ag exact rU _) | (ao 72; ag exact cT _) | (ao 120; ag exact qI _) | (ao 121; ag exact cF _))))
      refine wpQuiet_nil ?_;intro wq bq;obtain⟨xq,bq⟩:=bq;subst bq;have dj:Below wr.heap.size wr xq.w:=xq.2;have t0:=p0 xq;generalize xq.w=w4 at *;clear p0;clear o0 o1 p1 p2 p3 rU cT br qI cF;have sf:=Rm.out;have w1:IntKind.i64.wrap (tx+1)=tx+1:=by rw[IntKind.wrap_i64]; omega
      ab fail;aA
      case rel=>exact⟨k+1,by omega,by aF,by rw[X_.out]; rfl,fun q hq=>by rw[X_.out] at hq; cases hq; exact Rm.out,by rw[X_.out]; exact HF.out,hB.trans (dj.mono hB.size)⟩
      case measure=>simp[intOf]; omega
  · have EV:jobs.drop k=[]:=List.drop_eq_nil_of_le (by omega)
    rw[EV] at oN;have N6:Hid (R=true):=by show _=_; rw[←oN]; cases iM jobs k <;> rfl
    have fZ:¬(k:Int)<(jn:Int):=by omega
    clear oN bI hj hM;ab fail;an;exact⟨au N6.out.symm,hB⟩
end cos
namespace cos
open Go Go.RowKit base aE aX lay lh
theorem G0(n:Int)(w:World):Calls Tryz.prog 30 #[.int .i64 n] w fun e w'=>e=.returned (.bool (decide (1≤n∧n≤8)))∧w'=w:=by
 by_cases h1:1≤n
 · by_cases h2:n≤8
   · rw[decide_eq_true ⟨h1,h2⟩];aj Tryz.func30,Tryz.ntmps30;bf;an;exact⟨by simp[h2],rfl⟩
   · rw[decide_eq_false (fun h=>h2 h.2)]
     aj Tryz.func30,Tryz.ntmps30;bf;an;exact⟨by simp[h2],rfl⟩
 · rw[decide_eq_false (fun h=>h1 h.1)]
   aj Tryz.func30,Tryz.ntmps30;bf;an;exact⟨rfl,rfl⟩
def Ei(w:World)(c:Co)(e:Ending)(w':World):Prop:=
 Below w.heap.size w w'∧((bt c=false∧∃v,e=.returned (.tuple #[v,.bool false]))∨(bt c=true∧∃B m,e=.returned (.tuple #[.map (some B),.bool true])∧Made w' B m c.2.2.2.2.1))
theorem gH{w w':World}{c:Co}{v:Value}(hb:Below w.heap.size w w')(h:bt c=false):Ei w c (.returned (.tuple #[v,.bool false])) w':=⟨hb,.inl ⟨h,v,rfl⟩⟩
theorem Ej{w w':World}{c:Co}{B m:Nat}(hb:Below w.heap.size w w')(h:bt c=true)(hM:Made w' B m c.2.2.2.2.1):Ei w c (.returned (.tuple #[.map (some B),.bool true])) w':=⟨hb,.inr ⟨h,B,m,rfl,hM⟩⟩
theorem G_(X:Nat)(T:TypeId)(pre post:List Value)(n av next sure:Int)(ja:Option Addr)(jn jc:Nat)(la:Option Addr)(ln lc:Nat)(jobs:List Jb)(log:List Ch)(w:World)(bI:aD X T pre (oI n av next sure ja jn jc la ln lc) post w)(hj:nE ek w ja jn jobs)(hl:nE rG w la ln log)
 (Ib:∀j∈jobs,j.2.1.length≤1099511627776∧(∀p∈j.2.1,p.2.1.size≤1099511627776)):
 Calls Tryz.prog 49 #[.pointer (some ⟨X,pre.length,none⟩)] w (Ei w (n,av,next,jobs,log,sure)):=by
 have mb:=hl.1;have Ny:=hl.2.1;unfold maxLen at Ny;have HR:Hid (bt (n,av,next,jobs,log,sure)=(decide (1≤n∧n≤8) && decide (1≤av∧av≤900) && decide (0≤next∧next≤999) && decide (ln≤1000) && decide (0≤sure∧sure≤(ln:Int)) && di (av * 1000+next - 1) log && eQ n av next log none jobs)):=by
  show _=_;rw[←mb]; rfl
 have x0:=bI.cell 0 _ rfl;rw[Nat.add_zero] at x0;have x1:=bI.cell 1 _ rfl;have x2:=bI.cell 2 _ rfl;have x4:=bI.cell 4 _ rfl;have x5:=bI.cell 5 _ rfl;have o0:=last.On.cell (B:=w.heap.size) x0 (World.block_lt_of_cell? _ _ x0);have o1:=last.On.cell (B:=w.heap.size) x1 (World.block_lt_of_cell? _ _ x1);have o2:=last.On.cell (B:=w.heap.size) x2 (World.block_lt_of_cell? _ _ x2);have o4:=last.On.cell (B:=w.heap.size) x4 (World.block_lt_of_cell? _ _ x4);have o5:=last.On.cell (B:=w.heap.size) x5 (World.block_lt_of_cell? _ _ x5);have br:=last.On.iq w.heap.size w;have Ab:∀x:last.On w.heap.size w,Calls Tryz.prog 30 #[.int .i64 n] x.w fun e w'=>e=.returned (.bool (decide (1≤n∧n≤8)))∧∃y:last.On w.heap.size w,w'=y.w:=fun x=>last.Calls.on x (Nat.le_refl _) ((G0 n x.w).mono fun e w' ⟨he,hw⟩=>⟨he,by rw[hw]; exact Below.refl _ _⟩)
 clear x0 x1 x2 x4 x5;cases GL:decide (1≤n∧n≤8)
 · have HF:Hid (bt (n,av,next,jobs,log,sure)=false):=by show _=_; rw[HR.out,GL]; rfl
   rw[GL] at Ab;clear HR GL bI hj hl Ib;aj Tryz.func49,Tryz.ntmps49;ab fail;refine last.ar w.heap.size (by aa) (by aa) ?_
   repeat(ai ((first | (ao 30; ag exact Ab _))))
   refine wpQuiet_nil ?_;intro wq bq;obtain⟨xq,bq⟩:=bq;subst bq;have dj:Below w.heap.size w xq.w:=xq.2;generalize xq.w=w4 at *;clear o0 o1 o2 o4 o5 br Ab;ab fail;bO
   exact gH dj HF.out
 rw[GL] at Ab;cases Yb:decide (av<1);cQ
 · have HF:Hid (bt (n,av,next,jobs,log,sure)=false):=by
    show _=_;have hq:=of_decide_eq_true Yb;rw[HR.out,decide_eq_false (show¬(1≤av∧av≤900) by omega)]; simp
   clear HR bI hj hl Ib;aj Tryz.func49,Tryz.ntmps49;ab fail;refine last.ar w.heap.size (by aa) (by aa) ?_
   repeat(ai ((first | (ao 30; ag exact Ab _))))
   refine wpQuiet_nil ?_;intro wq bq;obtain⟨xq,bq⟩:=bq;subst bq;have dj:Below w.heap.size w xq.w:=xq.2;generalize xq.w=w4 at *;clear o0 o1 o2 o4 o5 br Ab;ab fail;bO
   exact gH dj HF.out
 cases Yc:decide (900<av);cQ
 · have HF:Hid (bt (n,av,next,jobs,log,sure)=false):=by
    show _=_;have hq:=of_decide_eq_true Yc;rw[HR.out,decide_eq_false (show¬(1≤av∧av≤900) by omega)]; simp
   clear HR bI hj hl Ib;aj Tryz.func49,Tryz.ntmps49;ab fail;refine last.ar w.heap.size (by aa) (by aa) ?_
   repeat(ai ((first | (ao 30; ag exact Ab _))))
   refine wpQuiet_nil ?_;intro wq bq;obtain⟨xq,bq⟩:=bq;subst bq;have dj:Below w.heap.size w xq.w:=xq.2;generalize xq.w=w4 at *;clear o0 o1 o2 o4 o5 br Ab;ab fail;bO
   exact gH dj HF.out
 cases Yd:decide (next<0);cQ
 · have HF:Hid (bt (n,av,next,jobs,log,sure)=false):=by
    show _=_;have hq:=of_decide_eq_true Yd;rw[HR.out,decide_eq_false (show¬(0≤next∧next≤999) by omega)]; simp
   clear HR bI hj hl Ib;aj Tryz.func49,Tryz.ntmps49;ab fail;refine last.ar w.heap.size (by aa) (by aa) ?_
   repeat(ai ((first | (ao 30; ag exact Ab _))))
   refine wpQuiet_nil ?_;intro wq bq;obtain⟨xq,bq⟩:=bq;subst bq;have dj:Below w.heap.size w xq.w:=xq.2;generalize xq.w=w4 at *;clear o0 o1 o2 o4 o5 br Ab;ab fail;bO
   exact gH dj HF.out
 cases Ye:decide (999<next);cQ
 · have HF:Hid (bt (n,av,next,jobs,log,sure)=false):=by
    show _=_;have hq:=of_decide_eq_true Ye;rw[HR.out,decide_eq_false (show¬(0≤next∧next≤999) by omega)]; simp
   clear HR bI hj hl Ib;aj Tryz.func49,Tryz.ntmps49;ab fail;refine last.ar w.heap.size (by aa) (by aa) ?_
   repeat(ai ((first | (ao 30; ag exact Ab _))))
   refine wpQuiet_nil ?_;intro wq bq;obtain⟨xq,bq⟩:=bq;subst bq;have dj:Below w.heap.size w xq.w:=xq.2;generalize xq.w=w4 at *;clear o0 o1 o2 o4 o5 br Ab;ab fail;bO
   exact gH dj HF.out
 cases Yf:decide (sure<0);cQ
 · have HF:Hid (bt (n,av,next,jobs,log,sure)=false):=by
    show _=_;have hq:=of_decide_eq_true Yf;rw[HR.out,decide_eq_false (show¬(0≤sure∧sure≤(ln:Int)) by omega)]; simp
   clear HR bI hj hl Ib;aj Tryz.func49,Tryz.ntmps49;ab fail;refine last.ar w.heap.size (by aa) (by aa) ?_
   repeat(ai ((first | (ao 30; ag exact Ab _))))
   refine wpQuiet_nil ?_;intro wq bq;obtain⟨xq,bq⟩:=bq;subst bq;have dj:Below w.heap.size w xq.w:=xq.2;generalize xq.w=w4 at *;clear o0 o1 o2 o4 o5 br Ab;ab fail;bO
   exact gH dj HF.out
 cases Yg:decide ((ln:Int)<sure);cQ
 · have HF:Hid (bt (n,av,next,jobs,log,sure)=false):=by
    show _=_;have hq:=of_decide_eq_true Yg;rw[HR.out,decide_eq_false (show¬(0≤sure∧sure≤(ln:Int)) by omega)]; simp
   clear HR bI hj hl Ib;aj Tryz.func49,Tryz.ntmps49;ab fail;refine last.ar w.heap.size (by aa) (by aa) ?_
   repeat(ai ((first | (ao 30; ag exact Ab _))))
   refine wpQuiet_nil ?_;intro wq bq;obtain⟨xq,bq⟩:=bq;subst bq;have dj:Below w.heap.size w xq.w:=xq.2;generalize xq.w=w4 at *;clear o0 o1 o2 o4 o5 br Ab;ab fail;bO
   exact gH dj HF.out
 have GM:=of_decide_eq_true GL;have zR:1≤av∧av≤900:=⟨by have:=of_decide_eq_false Yb; omega,by have:=of_decide_eq_false Yc; omega⟩
 have rU:0≤next∧next≤999:=⟨by have:=of_decide_eq_false Yd; omega,by have:=of_decide_eq_false Ye; omega⟩
 have EW:0≤sure∧sure≤(ln:Int):=⟨by have:=of_decide_eq_false Yf; omega,by have:=of_decide_eq_false Yg; omega⟩
 rw[GL,decide_eq_true zR,decide_eq_true rU,decide_eq_true EW] at HR;have vn:=Hid.mk' (fun wx (hx:Below w.heap.size w wx)=>BS X T pre post n av next sure ja jn jc la ln lc log wx (bI.below hx) (hl.below hx) zR rU)
 have Yh:=Hid.mk' (fun B m wx (hx:Below w.heap.size w wx) (hM:Made wx B m log) (hn:(log.map fun c=>c.1).Nodup)=>KP X T pre post n av next sure ja jn jc la ln lc jobs log B m wx (bI.below hx) (hj.below hx) hM hn GM zR rU Ib)
 clear bI hj hl Ib GM zR rU EW;aj Tryz.func49,Tryz.ntmps49;ab fail;refine last.ar w.heap.size (by aa) (by aa) ?_
 repeat(ai ((first | (ao 30; ag exact Ab _))))
 refine wpQuiet_nil ?_;intro wq bq;obtain⟨xq,bq⟩:=bq;subst bq;have dj:Below w.heap.size w xq.w:=xq.2;generalize xq.w=w4 at *;clear o0 o1 o2 o4 o5 br Ab GL Yb Yc Yd Ye Yf Yg;ab fail;refine(vn.out _ dj).mono ?_;rintro e w5 ⟨dx,⟨kO,rfl⟩ | ⟨qI,B,m,rfl,hM⟩⟩
 · have ez:=dj.trans (dx.mono dj.size);have HF:Hid (bt (n,av,next,jobs,log,sure)=false):=by
    show _=_;rw[HR.out];revert kO;generalize decide (ln≤1000)=b1;generalize di (av * 1000+next - 1) log=b2;generalize eQ n av next log none jobs=b3;intro kO;cases b1 <;> cases b2 <;> cases b3 <;> first | rfl | cases kO
   clear HR kO vn Yh;ab fail;bO
   exact gH ez HF.out
 · have ez:=dj.trans (dx.mono dj.size);have eo:(log.map fun c=>c.1).Nodup:=BQ (by rw[Bool.and_eq_true] at qI; exact qI.2)
   have Vp:=Hid.mk' (Yh.out B m w5 ez hM eo);have Vq:Hid (bt (n,av,next,jobs,log,sure)=eQ n av next log none jobs):=by
    show _=_;rw[HR.out];revert qI;generalize decide (ln≤1000)=b1;generalize di (av * 1000+next - 1) log=b2;generalize eQ n av next log none jobs=b3;intro kO;cases b1 <;> cases b2 <;> cases b3 <;> first | rfl | cases kO
   have HM:=Hid.mk' hM;clear HR qI vn Yh hM eo;cases Vr:eQ n av next log none jobs
   · rw[Vr] at Vp Vq;clear Vr;ab fail;refine Vp.out.mono ?_;rintro e w6 ⟨rfl,mJ⟩;ab fail;bO
     exact gH (ez.trans (mJ.mono ez.size)) Vq.out
   · rw[Vr] at Vp Vq;clear Vr;ab fail;refine Vp.out.mono ?_;rintro e w6 ⟨rfl,mJ⟩;ab fail;bO
     exact Ej (ez.trans (mJ.mono ez.size)) Vq.out (HM.out.below mJ)
theorem KR(w:World)(n av next sure:Int)(ja:Option Addr)(jn jc:Nat)(la:Option Addr)(ln lc:Nat):aD w.heap.size 28 [] (oI n av next sure ja jn jc la ln lc) [] (w.alloc (kM n av next sure ja jn jc la ln lc)):=aO w _ _
theorem qS(ja:Option Addr)(jn jc:Nat)(la:Option Addr)(ln lc:Nat)(c:Co)(w:World)(h:ll w ja jn jc la ln lc c)(hf:rW c):
 Calls Tryz.prog 15 #[GI c.1 c.2.1 c.2.2.1 c.2.2.2.2.2 ja jn jc la ln lc] w fun e w'=>e=.returned (.bool (bt c))∧Below w.heap.size w w':=by
 obtain⟨n,av,next,jobs,log,sure⟩:=c;simp only[] at *;have hb:=a8 w (kM n av next sure ja jn jc la ln lc);have hS:=h.below hb;have HC:=Hid.mk' (G_ _ _ [] [] n av next sure ja jn jc la ln lc jobs log _ (KR w n av next sure ja jn jc la ln lc) hS.jobs hS.log hf.2.2);clear h hS hf;aj Tryz.func15,Tryz.ntmps15;ab fail;refine HC.out.mono ?_;rintro e w1 ⟨a_,⟨kO,v,rfl⟩ | ⟨qI,B,m,rfl,hM⟩⟩
 · ab fail;an;exact⟨au kO.symm,hb.trans (a_.mono hb.size)⟩
 · ab fail;an;exact⟨au qI.symm,hb.trans (a_.mono hb.size)⟩
end cos
namespace cos
open Go Go.RowKit base aE aX lay lh
section
variable{w w':World}{vs:List Value}{c:Co}{F:List Nat}
theorem nQ(h:bp.own w vs c F):∃ja jn jc la ln lc,vs=[.int .i64 c.1,.int .i64 c.2.1,.int .i64 c.2.2.1,.slice ja jn jc,.slice la ln lc,.int .i64 c.2.2.2.2.2]:=by
 obtain⟨ja,jn,jc,la,ln,lc,e,_⟩:=yd.1 (bp.eK h);exact⟨ja,jn,jc,la,ln,lc,e⟩
theorem uv{ja la:Option Addr}{jn jc ln lc:Nat}(h:bp.fo w [.int .i64 c.1,.int .i64 c.2.1,.int .i64 c.2.2.1,.slice ja jn jc,.slice la ln lc,.int .i64 c.2.2.2.2.2] c):ll w ja jn jc la ln lc c:=by
 obtain⟨H7,H8,H9,BA,BB,BC,e,h⟩:=yd.1 h;unfold oI at e;simp only[List.cons.injEq,Value.slice.injEq,true_and,and_true] at e;obtain⟨⟨rfl,rfl,rfl⟩,rfl,rfl,rfl⟩:=e;exact h
def M_(j:Jb):Nat:=2+3 * j.2.1.length+j.2.2.2.length
def TR(c:Co):Nat:=(c.2.2.2.1.map M_).sum+2 * c.2.2.2.2.1.length
theorem Na(l:List Jb):(l.map M_).sum≤2 * l.length+3 * pN l:=by
 induction l with
 | nil=>simp
 | cons j l ih=>
  simp only[List.map_cons,List.sum_cons,List.length_cons,pN] at ih ⊢;have:M_ j≤2+3 * Kt j:=by unfold M_ Kt; omega
  omega
theorem py.qP(h:py c):TR c≤7340032:=by
 have h1:=Na c.2.2.2.1;have h2:=h.jobs;have h3:=h.log;have h4:=h.sum;unfold TR;omega
end
end cos
end Go.Proofs.YtmibabclefgljaaGreat
