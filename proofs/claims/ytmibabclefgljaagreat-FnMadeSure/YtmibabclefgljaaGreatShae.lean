/- PairE RecMap OrdJ RecJ Hash OrdU -/
import Derived.Test.YtmibabclefgljaaGreatShad
import Derived.Maps.OwnSet
import Derived.Maps.OwnOps
import Derived.Maps.Views
import Derived.Test.YtmibabclefgljaaGreatShac
import Derived.Test.YtmibabclefgljaaGreatRows
import Derived.Test.YtmibabclefgljaaGreatShaa
set_option linter.unusedVariables false
set_option linter.unusedSimpArgs false
set_option maxRecDepth 100000
set_option maxHeartbeats 4000000
namespace Go.Proofs.YtmibabclefgljaaGreat
namespace av
open Go Go.RowKit base
open Go.Maps (Keyed)
open Go.WideMaps (keyOf_string_mk)
theorem pV:Keyed Tryz.prog 9:=Maps.string_keyed Tryz.underlying9
theorem yC(w:World):(zeroValue 3).run Tryz.prog w=.ok (.int .i64 0) w:=by kernel_rfl
/-! ### how often a key is there -/
def qv(s:ByteArray)(l:List Pr):Nat:=(l.filter fun p=>decide (p.1=s)).length
theorem IM(s:ByteArray)(l:List Pr):qv s l≤l.length:=List.length_filter_le _ _
theorem IN(s:ByteArray)(l:List Pr)(k:Nat)(h:k<l.length):qv s (l.take (k+1))=qv s (l.take k)+if s=l[k].1 then 1 else 0:=by
 unfold qv;rw[jW l k h,List.filter_append,List.length_append];by_cases e:l[k].1=s
 · simp[List.filter_cons,e]
 · have e':¬s=l[k].1:=fun x=>e x.symm
   simp[List.filter_cons,e,e']
theorem LO(l:List Pr)(k:Nat)(h:k<l.length):1≤qv l[k].1 l:=by
 unfold qv;exact List.length_pos_of_mem (List.mem_filter.2 ⟨List.getElem_mem h,by simp⟩)
theorem Al(key:ByteArray)(l:List Pr)(j:Nat)(h:j<l.length):delKey key (l.take (j+1))=if l[j].1=key then delKey key (l.take j) else delKey key (l.take j)++[l[j]]:=by
 have cc:=sA (fun p=>decide (p.1≠key)) l j h
 unfold delKey;rw[cc];by_cases e:l[j].1=key
 · rw[if_pos e]; simp[e]
 · rw[if_neg e]; simp[e]
theorem yD{a b:Int}(h:(DataW.lit (.int .i64 a):DataW Unit)=.lit (.int .i64 b)):a=b:=by
 cases h; rfl
theorem uy{a b:ByteArray}(h:a≠b):(Lit.string a.data.toList)≠ .string b.data.toList:=by
 intro e; apply h; apply jM; exact Lit.string.inj e
def eM(w:World)(B n:Nat)(f:ByteArray→Nat):Prop:=
 ∃D:DataW Unit,w.ownsMap Tryz.prog 9 (plainElem Tryz.prog 3) B n D∧Maps.IsMap D∧∀s:ByteArray,D.atKey (.string s.data.toList) (.lit (.int .i64 0))=.lit (.int .i64 (f s:Int))
theorem uz(w:World):eM (w.alloc (.map #[] 0)) w.heap.size 0 (fun _=>0):=
 ⟨.map [],World.ownsMap_made _ _ _ _,Maps.isMap_empty,fun s=>rfl⟩
theorem eM.below{w w':World}{B n:Nat}{f:ByteArray→Nat}(h:eM w B n f)(hb:Below w.heap.size w w'):eM w' B n f:=by
 obtain⟨D,h1,h2,h3⟩:=h;exact⟨D,h1.kept (row:=none) ⟨hb.os,hb.tape,hb.output,hb.size,fun k hk _=>hb.block k hk⟩ (by simp),h2,h3⟩
theorem eM.grown{w w':World}{B n:Nat}{f:ByteArray→Nat}{row:Option Nat}(h:eM w B n f)(hg:w.grownBy w' row)(aW:some B≠row):eM w' B n f:=by
 obtain⟨D,h1,h2,h3⟩:=h;exact⟨D,h1.kept hg aW,h2,h3⟩
theorem eM.put{w':World}{B n:Nat}{f f':ByteArray→Nat}{D:DataW Unit}{x:ByteArray}(h2:Maps.IsMap D)(h3:∀s:ByteArray,D.atKey (.string s.data.toList) (.lit (.int .i64 0))=.lit (.int .i64 (f s:Int))){v:Int}(hv:v=(f' x:Int))(ho:∀s,s≠x→f' s=f s)
 (h1:w'.ownsMap Tryz.prog 9 (plainElem Tryz.prog 3) B n (D.put (.string x.data.toList) (.lit (.int .i64 v)))):eM w' B n f':=by
 refine⟨_,h1,h2.put _ _,fun s=>?_⟩
 by_cases e:s=x
 · subst e;rw[Maps.atKey_put_same h2 (by trivial),hv]
 · rw[Maps.atKey_put_other (uy e),h3,ho s e]
theorem eM.del{w':World}{B n:Nat}{f:ByteArray→Nat}{D:DataW Unit}{x:ByteArray}(h2:Maps.IsMap D)(h3:∀s:ByteArray,D.atKey (.string s.data.toList) (.lit (.int .i64 0))=.lit (.int .i64 (f s:Int)))
 (h1:w'.ownsMap Tryz.prog 9 (plainElem Tryz.prog 3) B n (D.del (.string x.data.toList))):eM w' B n (fun s=>if s=x then 0 else f s):=by
 refine⟨_,h1,h2.del _,fun s=>?_⟩
 by_cases e:s=x
 · subst e;rw[Maps.atKey_del_same]; simp
 · rw[Maps.atKey_del_other (uy e),h3]; simp[e]
theorem Fu(b off cap:Nat)(l:List Pr)(key:ByteArray)(w:World)(h:lq w (some ⟨b,off,none⟩) l.length l)(iO:l.length≤1099511627776)(lN:key.size≤maxLen):
 Calls Tryz.prog 155 #[.slice (some ⟨b,off,none⟩) l.length cap,.string key] w fun e w'=>
  ∃g' n' aO,e=.returned (.slice (some ⟨g',0,none⟩) n' aO)∧bJ w' w.heap.size g' n' aO (delKey key l)∧Below w.heap.size w w':=by
 obtain⟨i0,jG,dm,dk,cA⟩:=info_parts mW;have eW:=h.2.2.1;have OC:=uu;have OJ:= @run_makeMap Tryz.prog;have yE:=keyOf_string_mk (P:=Tryz.prog) Tryz.underlying9 lN;go_enter Tryz.func155,Tryz.ntmps155;go_wp2_with (at_builtin; fail)
 go_loopw [14] (fun i wr=>∃k:Nat,k≤l.length∧i=.int .i64 (k:Int)∧eM wr w.heap.size k (fun s=>qv s (l.take k))∧Below w.heap.size w wr) (fun i _=>l.length - (intOf i).toNat)
 case atStart=>exact⟨0,Nat.zero_le _,rfl,uz w,(Below.refl _ _).alloc (Nat.le_refl _) _⟩
 case round=>
  obtain⟨k,hk,rfl,hT,hB⟩:=hrel;clear OJ;by_cases a6:k<l.length
  · obtain⟨c1,c2⟩:=(h.below hB).cells k a6;have fL:(k:Int)<(l.length:Int):=by omega
    have mh:=eW _ (List.getElem_mem a6);have HS:Hid (∀s,qv s (l.take (k+1))=qv s (l.take k)+if s=l[k].1 then 1 else 0):=fun s=>IN s l k a6
    have hle:=IM l[k].1 (l.take k);have yF:(l.take k).length≤k:=List.length_take_le _ _;generalize l[k]=p at *;have Es:=keyOf_string_mk (P:=Tryz.prog) Tryz.underlying9 mh.1;go_wp2_with fail;refine(qH p _).mono ?_;rintro e w3 ⟨rfl,ls⟩;have LP:Below wr.heap.size wr w3:=by rw[ls]; exact((Below.refl _ _).alloc (Nat.le_refl _) _).alloc (aI _ _ (Nat.le_refl _)) _
    have cJ:Below w.heap.size w w3:=hB.trans (LP.mono hB.size);obtain⟨D,aB,hD,uA⟩:=hT.below LP;have Fv:=Hid.mk' uA;clear ls hB LP hT c1 c2 uA;go_wp2_with (at_lookup; refine wpList_lookup_own_int _ rfl _ _ 173 rfl 9 3 .i64 pV Tryz.underlying173 Tryz.underlying3 (yC _) w.heap.size k D rfl aB _ _ rfl Es ?_)
    intro c fl LQ;obtain⟨m,hm⟩:∃m:Nat,m=qv p.1 (l.take k):=⟨_,rfl⟩;obtain rfl:c=(m:Int):=by rw[Fv.out] at fl; rw[hm]; exact(yD fl).symm
    have Zb:m≤k:=by omega
    have HM:=Hid.mk' hm;clear fl LQ hm;go_wp2_with (at_mapUpdate; refine wpList_mapUpdate_own _ rfl _ _ _ 173 rfl 9 3 pV Tryz.underlying173 _ w.heap.size k D rfl aB (by unfold maxLen; omega) _ _ _ rfl rfl Es _ [] (plainElem_int Tryz.underlying3 (WalkArith.wf_i64 (by omega))) ?_)
    intro w4 kH mz;have hT4:eM w4 w.heap.size (k+1) (fun s=>qv s (l.take (k+1))):=eM.put hD Fv.out (by rw[HS.out,if_pos rfl,←HM.out]; simp) (fun s hs=>by rw[HS.out,if_neg hs]; simp) kH
    have ej:=cJ.grown mz cJ.size (fun j hj=>by cases hj; exact Nat.le_refl _)
    clear kH mz aB Fv cJ hD;go_wp2_with fail;go_roundw
    case rel=>exact⟨k+1,by omega,by go_num,hT4,ej⟩
    case measure=>simp[intOf]; omega
  · have HE:Hid (l.take k=l):=List.take_of_length_le (by omega)
    rw[HE.out] at hT;obtain⟨D,aB,hD,uA⟩:=hT;go_wp2_with (at_delete; refine wpList_delete_own _ rfl _ _ 173 9 rfl 3 pV Tryz.underlying173 _ w.heap.size k D rfl aB _ _ rfl yE ?_)
    intro w5 ic CS;have LR:=eM.del hD uA ic;have RQ:=aB.lt;have ec:=hB.grown CS.grown hB.size (fun j hj=>by cases hj; exact Nat.le_refl _)
    have CT:w.heap.size+1≤w5.heap.size:=Nat.le_trans RQ CS.grown.size;clear ic CS aB uA hD hB RQ;go_wp2_with (at_builtin; fail)
    go_loopw [8,30] (fun v i wr=>∃(j g n cp:Nat),j≤l.length∧n≤j∧i=.int .i64 (j:Int)∧v=.slice (some ⟨g,0,none⟩) n cp∧bJ wr (w.heap.size+1) g n cp (delKey key (l.take j))∧eM wr w.heap.size k (fun s=>if s=key then 0 else qv s l)∧Below w.heap.size w wr) (fun _ i _=>l.length - (intOf i).toNat)
    case atStart=>exact⟨0,w5.heap.size,0,0,Nat.zero_le _,Nat.le_refl _,rfl,rfl,bX w5 _ CT,LR.below ((Below.refl _ _).alloc (Nat.le_refl _) _),ec.alloc ec.size _⟩
    case round=>
     clear LR ec CT;obtain⟨j,g,n,cp,hj,UA,rfl,rfl,hO,hT,hB⟩:=hrel;by_cases LS:j<l.length
     · obtain⟨c1,c2⟩:=(h.below hB).cells j LS;have mh:=eW _ (List.getElem_mem LS);have fL:(j:Int)<(l.length:Int):=by omega
       have Hc:=LO l j LS;have cK:=IM l[j].1 l;have Es:=keyOf_string_mk (P:=Tryz.prog) Tryz.underlying9 mh.1;have HD:=Hid.mk' (Al key l j LS);have fD:n+1≤maxLen:=by unfold maxLen; omega
       have jX:(n+1) * 32≤140737488355328:=by omega
       generalize l[j]=p at *;go_wp2_with fail;refine(qH p _).mono ?_;rintro e w3 ⟨rfl,ls⟩;have nu:Below (wr.alloc (.cells #[.string p.1,.string p.2] 100)).heap.size (wr.alloc (.cells #[.string p.1,.string p.2] 100)) w3:=by rw[ls]; exact(Below.refl _ _).alloc (Nat.le_refl _) _
       have LP:Below wr.heap.size wr w3:=((Below.refl _ _).alloc (Nat.le_refl _) _).trans (nu.mono (aI _ _ (Nat.le_refl _)));have cJ:Below w.heap.size w w3:=hB.trans (LP.mono hB.size);have d_:=hO.below LP;have Fm:=hT.below LP;obtain⟨Y_,Za⟩:=uw wr w3 p.1 p.2 nu;obtain⟨D3,aB,LU,uA⟩:=hT.below LP;have Fv:=Hid.mk' uA;clear ls hO hB LP nu hT c1 c2 uA;go_wp2_with (at_lookup; refine wpList_lookup_own_int _ rfl _ _ 173 rfl 9 3 .i64 pV Tryz.underlying173 Tryz.underlying3 (yC _) w.heap.size k D3 rfl aB _ _ rfl Es ?_)
       intro c fl LQ;rw[Fv.out] at fl;have QV:=yD fl;clear fl LQ aB LU Fv;by_cases he:p.1=key
       · have hF:=HD.out;rw[if_pos he] at hF;obtain rfl:c=0:=by rw[if_pos he] at QV; exact QV.symm
         have HF:=Hid.mk' hF;clear QV HD hF he;go_wp2_with (at_builtin; fail)
         go_roundw
         case rel=>exact⟨j+1,g,n,cp,by omega,by omega,by go_num,rfl,by rw[HF.out]; exact d_,Fm,cJ⟩
         case measure=>simp[intOf]; omega
       · have hF:=HD.out;rw[if_neg he] at hF;rw[if_neg he] at QV;have hc0:0<c:=by omega
         have gk:c≤1099511627776:=by omega
         have HF:=Hid.mk' hF;have OK:w.heap.size+1≤w3.heap.size:=by have:=d_.lt; omega
         clear QV HD hF he;go_wp2_with (at_builtin; refine wpList_append_own _ rfl (.tmp 40) (.tmp 42) 204 rfl (w.heap.size+1) 100 i0 (.agg #[.string ⟨#[]⟩,.string ⟨#[]⟩]) 2 32 Tryz.underlying204 jG dm dk cA rfl (by decide) _ _ _ rfl (d_.2.2.alloc _) ⟨w3.heap.size,0,none⟩ 1 1 (aw [p]) rfl rfl (dQ _ _ _) (aF _) fD jX (aI _ _ OK) ?_)
         intro v2 w2 nI az cN;obtain⟨g2,Iv,hv,fE⟩:=lJ d_.1 d_.2.1 mh cN nI;subst hv;have dw:Below w.heap.size w w2:=(cJ.alloc cJ.size _).grown az (aI _ _ cJ.size) (fun k e=>by simp[Value.ownBlock] at e; have:=d_.lt; omega)
         have LM:=(Fm.below ((Below.refl _ _).alloc (Nat.le_refl _) _)).grown az (by simp[Value.ownBlock]; have:=d_.lt; omega)
         rw[←HF.out] at fE;have LC:=Hid.mk' fE;clear nI az cN fE d_ cJ Fm;go_wp2_with (at_builtin; fail)
         go_roundw
         case rel=>exact⟨j+1,g2,n+1,Iv,by omega,by omega,by go_num,rfl,LC.out,LM,dw⟩
         case measure=>simp[intOf]; omega
     · have Eh:Hid (l.take j=l):=List.take_of_length_le (by omega)
       go_wp2_with (at_builtin; fail)
       go_ret;rw[Eh.out] at hO;exact⟨g,n,cp,rfl,hO.mono (by omega),hB⟩
theorem Am(b off len cap:Nat)(l:List Pr)(key:ByteArray)(w:World)(h:lq w (some ⟨b,off,none⟩) len l)(CG:len≤cap)(iO:len≤1099511627776)(lN:key.size≤maxLen):
 Calls Tryz.prog 118 #[.slice (some ⟨b,off,none⟩) len cap,.string key] w fun e w'=>
  ∃g' n' aO,e=.returned (.slice (some ⟨g',0,none⟩) n' aO)∧bJ w' w.heap.size g' n' aO (delKey key l)∧Below w.heap.size w w':=by
 have hl:=h.1;subst hl;have HW:=Hid.mk' (Fu b off cap l key w h iO lN);go_enter Tryz.func118,Tryz.ntmps118;go_wp2_with fail;refine HW.out.mono ?_;rintro e w2 ⟨g,n,cp,rfl,hO,hB⟩;have HO:=Hid.mk' hO;clear hO;go_wp2_with fail;go_ret;exact⟨g,n,cp,rfl,HO.out,hB⟩
end av
namespace aZ
open Go Go.RowKit base av aN
open Go.ChangeMaps Go.MapKept
open Go.Maps (keyOf_int_mk)
theorem Et:Go.Maps.Keyed Tryz.prog 3:=Maps.int_keyed Tryz.underlying3
def Nh:Option Addr→List (DataW Unit)
 | none=>[]
 | some ⟨b,o,_⟩=>[.lit (.int .i64 (b:Int)),.lit (.int .i64 (o:Int))]
def qJ(k t:Int)(a:Option Addr)(n c:Nat):DataW Unit:=.agg ([.lit (.int .i64 k),.lit (.int .i64 t),.lit (.int .i64 (n:Int)),.lit (.int .i64 (c:Int))]++Nh a)
def RR:List Value→Option (DataW Unit × List MemPlace)
 | [.int .i64 k,.int .i64 t,.slice none n c]=>some (qJ k t none n c,[])
 | [.int .i64 k,.int .i64 t,.slice (some ⟨b,o,none⟩) n c]=>some (qJ k t (some ⟨b,o,none⟩) n c,[])
 | _=>none
def LV:Value→Option (DataW Unit × List MemPlace)
 | .agg xs=>RR xs.toList
 | _=>none
def Plain(a:Option Addr):Prop:=a=none∨∃b o,a=some ⟨b,o,none⟩
theorem LW(k t:Int){a:Option Addr}(n c:Nat)(h:Plain a):LV (.agg #[.int .i64 k,.int .i64 t,.slice a n c])=some (qJ k t a n c,[]):=by
 rcases h with rfl | ⟨b,o,rfl⟩ <;> rfl
theorem xj{k t k' t':Int}{a a':Option Addr}{n c n' c':Nat}(ha:Plain a)(Ni:Plain a')(h:qJ k t a n c=qJ k' t' a' n' c'):k=k'∧t=t'∧a=a'∧n=n'∧c=c':=by
 unfold qJ at h;have h1:=DataW.agg.inj h;rcases ha with rfl | ⟨b,o,rfl⟩ <;> rcases Ni with rfl | ⟨b',o',rfl⟩ <;> simp[Nh] at h1 ⊢ <;> omega
theorem IP{v:Value}{z:DataW Unit × List MemPlace}(h:LV v=some z):∃k t a n c,Plain a∧v=.agg #[.int .i64 k,.int .i64 t,.slice a n c]∧z=(qJ k t a n c,[]):=by
 unfold LV at h
 split at h
 · next xs=>
   unfold RR at h
   split at h
   · next k t n c e=>
     cases h;exact⟨k,t,none,n,c,.inl rfl,by rw[←e],rfl⟩
   · next k t b o n c e=>
     cases h;exact⟨k,t,some ⟨b,o,none⟩,n,c,.inr ⟨b,o,rfl⟩,by rw[←e],rfl⟩
   · cases h
 · cases h
theorem LX(w:World):(zeroValue 98).run Tryz.prog w=.ok (.agg #[.int .i64 0,.int .i64 0,.slice none 0 0]) w:=by kernel_rfl
def fN(w0 w:World)(B n:Nat)(f:Int→Rc):Prop:=
 ∃D:DataW Unit,w.ownsMap Tryz.prog 3 LV B n D∧Maps.IsMap D∧
  ∀s:Int,(Lit.int .i64 s).wf=true→∃a m c,Plain a∧dD w0 a m (f s).2.2∧D.atKey (.int .i64 s) (qJ 0 0 none 0 0)=qJ (f s).1 (f s).2.1 a m c
theorem CU(w0 w:World):fN w0 (w.alloc (.map #[] 0)) w.heap.size 0 (fun _=>(0,0,[])):=
 ⟨.map [],World.ownsMap_made _ _ _ _,Maps.isMap_empty,fun s _=>⟨none,0,0,.inl rfl,tK _ _,rfl⟩⟩
section
variable{w0 w w':World}{B n:Nat}{f:Int→Rc}
theorem fN.lt(h:fN w0 w B n f):B<w.heap.size:=by
 obtain⟨D,⟨es,clock,hb,_⟩,_⟩:=h;exact(Array.getElem?_eq_some_iff.1 hb).1
theorem fN.keep(h:fN w0 w B n f)(hb:w'.heap[B]? =w.heap[B]?):fN w0 w' B n f:=by
 obtain⟨D,⟨es,clock,h1,h2⟩,h3,h4⟩:=h;exact⟨D,⟨es,clock,hb.trans h1,h2⟩,h3,h4⟩
theorem fN.below(h:fN w0 w B n f)(hb:Below w.heap.size w w'):fN w0 w' B n f:=h.keep (hb.block B h.lt)
theorem fN.grown{row:Option Nat}(h:fN w0 w B n f)(hg:w.grownBy w' row)(aW:some B≠row):fN w0 w' B n f:=h.keep (hg.block B h.lt aW)
theorem fN.look(h:fN w0 w B n f){s:Int}(hs:(Lit.int .i64 s).wf=true):∃a m c,Plain a∧dD w0 a m (f s).2.2∧∀w2:World,w2.heap[B]? =w.heap[B]? →(Instr.lookup 172 (.map (some B)) (.int .i64 s) false).run Tryz.prog w2=.ok (.agg #[.int .i64 (f s).1,.int .i64 (f s).2.1,.slice a m c]) w2:=by
 obtain⟨D,⟨es,clock,hb,F,hn,rfl⟩,h3,h4⟩:=h;obtain⟨a,m,c,h5,h6,h7⟩:=h4 s hs;have lN:=keyOf_int_mk (P:=Tryz.prog) Tryz.underlying3 hs;refine⟨a,m,c,h5,h6,fun w2 jO=>?_⟩
 rcases Maps.fit_look false Et Tryz.underlying172 (LX w2) (jO.trans hb) F lN with⟨dh,_,fl⟩ | ⟨e0,y,_,_,dh,hRv,fl,_⟩
 · rw[fl] at h7;obtain⟨e1,e2,e3,e4,e5⟩:=xj (.inl rfl) h5 h7;rw[dh,←e1,←e2,←e3,←e4,←e5]; rfl
 · rw[fl] at h7;obtain⟨k',t',a',n',c',hp,hv,hz⟩:=IP hRv;rw[hz] at h7;obtain⟨e1,e2,e3,e4,e5⟩:=xj hp h5 h7;rw[dh,hv,←e1,←e2,←e3,←e4,←e5]; rfl
def gF(f:Int→Rc)(s:Int)(r:Rc)(t:Int):Rc:=if t=s then r else f t
theorem fN.store(h:fN w0 w B n f)(hn:n<maxLen){s:Int}(hs:(Lit.int .i64 s).wf=true){r:Rc}{a:Option Addr}{m c:Nat}(ha:Plain a)(hS:dD w0 a m r.2.2):
 ∃w2,(Instr.mapUpdate 172 (.map (some B)) (.int .i64 s) (.agg #[.int .i64 r.1,.int .i64 r.2.1,.slice a m c])).run Tryz.prog w=.ok () w2∧fN w0 w2 B (n+1) (gF f s r)∧w.grownBy w2 (some B):=by
 obtain⟨D,h1,h3,h4⟩:=h;have lN:=keyOf_int_mk (P:=Tryz.prog) Tryz.underlying3 hs;obtain⟨w2,dh,aB,RS⟩:=h1.store Et Tryz.underlying172 hn lN (LW r.1 r.2.1 m c ha);refine⟨w2,dh,⟨_,aB,h3.put _ _,fun t ht=>?_⟩,RS.grown⟩
 unfold gF;by_cases e:t=s
 · subst e;rw[if_pos rfl];exact⟨a,m,c,ha,hS,Maps.atKey_put_same h3 (by trivial) _ _⟩
 · rw[if_neg e];obtain⟨a',m',c',h5,h6,h7⟩:=h4 t ht;exact⟨a',m',c',h5,h6,by rw[Maps.atKey_put_other (by intro e2; exact e (by cases e2; rfl)),h7]⟩
end
theorem qK{w0 w:World}{ops:Array Oper}{rest:List Oper}{o:Oper}{a:Act}{Q:Exit→Act→World→Prop}(hg:o.guard=none)(m x v:Operand)(B9:o.op=Op.mapUpdate 172 m x v)
 {B n:Nat} {f:Int→Rc} (hm:a.eval m=.map (some B)) (h:fN w0 w B n f) (hn:n<maxLen) {s:Int} (hx:a.eval x=.int .i64 s) (hs:(Lit.int .i64 s).wf=true) {r:Rc} {ad:Option Addr} {mm c:Nat} (hv:a.eval v=.agg #[.int .i64 r.1,.int .i64 r.2.1,.slice ad mm c]) (ha:Plain ad) (hS:dD w0 ad mm r.2.2)
 (hK:∀w2,fN w0 w2 B (n+1) (gF f s r)→w.grownBy w2 (some B)→wpList Tryz.prog ops Q rest (a.put o.dst undef) w2):wpList Tryz.prog ops Q (o::rest) a w:=by
 refine wpList_plain hg fun K' OL=>?_
 obtain⟨w2,dh,r1,r2⟩:=h.store hn hs (c:=c) ha hS;unfold Oper.wp;simp[execOp,B9,hm,hx,hv,dh,Result.andThen];exact OL _ _ (hK w2 r1 r2)
end aZ
namespace aN
open Go Go.RowKit base av
/-! ### orders that rise -/
def gn:List Od→Bool
 | []=>true
 | p::l=>(match l.head? with | none=>true | some q=>kt p.2.1 q.2.1) && gn l
theorem yG(k:ByteArray)(l:List Od):cZ (some k) l=((match l.head? with | none=>true | some q=>kt k q.2.1) && l.all dF && gn l):=by
 induction l generalizing k with
 | nil=>rfl
 | cons p l ih=>
  simp only[cZ,ih,List.head?_cons,List.all_cons,gn];cases dF p <;> cases kt k p.2.1 <;> cases l.all dF <;> cases gn l <;> simp
theorem wo(l:List Od):cZ none l=(l.all dF && gn l):=by
 cases l with
 | nil=>rfl
 | cons p l=>
  simp only[cZ,yG,List.all_cons,gn];cases dF p <;> cases l.all dF <;> cases gn l <;> simp
theorem An(l:List Od)(j:Nat)(h1:1≤j)(h:j<l.length):gn (l.drop (j - 1))=(kt l[j - 1].2.1 l[j].2.1 && gn (l.drop j)):=by
 rw[List.drop_eq_getElem_cons (by omega:j - 1<l.length),gn,show j - 1+1=j by omega,List.head?_drop,List.getElem?_eq_getElem h]
theorem CV(l:List Od)(j:Nat)(h:l.length≤j):gn (l.drop (j - 1))=true:=by
 by_cases h2:j - 1<l.length
 · rw[List.drop_eq_getElem_cons h2,gn,List.drop_eq_nil_of_le (by omega)]; rfl
 · rw[List.drop_eq_nil_of_le (by omega)]; rfl
theorem Fw(l:List Od)(k:Nat)(h:k<l.length):(l.drop k).all dF=(dF l[k] && (l.drop (k+1)).all dF):=by
 rw[List.drop_eq_getElem_cons h,List.all_cons]
theorem IQ(p:Od)(w:World):
 Calls Tryz.prog 225 #[.agg #[.int .i64 p.1,.string p.2.1,.string p.2.2]] w fun e w'=>e=.returned (.string p.2.1)∧w'=w.alloc (.cells #[.int .i64 p.1,.string p.2.1,.string p.2.2] 121):=by
 go_enter Tryz.func225,Tryz.ntmps225;go_wp2;go_ret;exact⟨rfl,rfl⟩
theorem LY(z:Int)(x y:ByteArray)(w:World):(method 368 121 (.agg #[.int .i64 z,.string x,.string y]) "loop.example/g00244/impl.key").run Tryz.prog w=.ok (225,.agg #[.int .i64 z,.string x,.string y]) w:=by kernel_rfl
theorem OM(o:Od)(w:World)(ho:dN o)(hs:o.2.1.size≤1099511627776):
 Calls Tryz.prog 107 #[.agg #[.int .i64 o.1,.string o.2.1,.string o.2.2]] w fun e w'=>e=.returned (.bool (dF o))∧Below w.heap.size w w':=by
 obtain⟨z,k,v⟩:=o;have h2:=ho.2;simp only[] at h2 hs ⊢;have bg:Below w.heap.size w (w.alloc (.cells #[.int .i64 z,.string k,.string v] 121)):=(Below.refl _ _).alloc (Nat.le_refl _) _;have HK:=Hid.mk' (ur k (w.alloc (.cells #[.int .i64 z,.string k,.string v] 121)) hs);have HP:=Hid.mk' (Ai (k,v) (w.alloc (.cells #[.int .i64 z,.string k,.string v] 121)) h2 hs);by_cases dk:z=1
 · subst dk;have HR:Hid (dF (1,k,v)=fI (k,v)):=by show _=_; unfold dF fI; simp
   generalize fI (k,v)=K at *;clear HK ho h2 hs;go_enter Tryz.func107,Tryz.ntmps107;go_wp2_with fail;refine HP.out.mono ?_;rintro e w1 ⟨rfl,aT⟩;go_wp2_with fail;go_ret;exact⟨aj HR.out.symm,bg.trans (aT.mono bg.size)⟩
 by_cases UC:z=3
 · subst UC;have HR:Hid (dF (3,k,v)=fI (k,v)):=by show _=_; unfold dF fI; simp
   generalize fI (k,v)=K at *;clear HK ho h2 hs;go_enter Tryz.func107,Tryz.ntmps107;go_wp2_with fail;refine HP.out.mono ?_;rintro e w1 ⟨rfl,aT⟩;go_wp2_with fail;go_ret;exact⟨aj HR.out.symm,bg.trans (aT.mono bg.size)⟩
 have aT:(z==1)=false:=beq_eq_false_iff_ne.2 dk;have dt:(z==3)=false:=beq_eq_false_iff_ne.2 UC;by_cases cA:z=2
 · subst cA;clear HP dk UC ho h2 hs aT dt;by_cases hv:v.size=0
   · have HR:Hid (dF (2,k,v)=gD k):=by show _=_; unfold dF; simp[hv]
     obtain rfl:=size_empty hv;clear hv;generalize gD k=K at *;cases K;all_goals
      go_enter Tryz.func107,Tryz.ntmps107;go_wp2_with fail;refine HK.out.mono ?_;rintro e w1 ⟨rfl,aT⟩;have hc:=sy aT;go_wp2_with fail;go_ret;exact⟨aj HR.out.symm,bg.trans (aT.mono bg.size)⟩
   · have HR:Hid (dF (2,k,v)=false):=by show _=_; unfold dF; simp[hv]
     obtain⟨hq,sk⟩:=jN hv;clear hv;generalize gD k=K at *;cases K;all_goals
      go_enter Tryz.func107,Tryz.ntmps107;go_wp2_with fail;refine HK.out.mono ?_;rintro e w1 ⟨rfl,aT⟩;have hc:=sy aT;go_wp2_with fail;go_ret;exact⟨aj HR.out.symm,bg.trans (aT.mono bg.size)⟩
 · have aU:(z==2)=false:=beq_eq_false_iff_ne.2 cA;have HR:Hid (dF (z,k,v)=false):=by
    show _=_;unfold dF;rw[decide_eq_false (by simp only[]; omega)]; rfl
   clear HP HK dk cA UC ho h2 hs;go_enter Tryz.func107,Tryz.ntmps107;go_wp2_with fail;go_ret;exact⟨aj HR.out.symm,bg⟩
theorem IT(b off cap:Nat)(l:List Od)(w:World)(h:dD w (some ⟨b,off,none⟩) l.length l)(iO:l.length≤1099511627776):
 Calls Tryz.prog 108 #[.slice (some ⟨b,off,none⟩) l.length cap] w fun e w'=>e=.returned (.bool (gn l))∧Below w.heap.size w w':=by
 have OC:=LY;generalize hR:gn l=R;have HR:=Hid.mk' hR;clear hR;go_enter Tryz.func108,Tryz.ntmps108;go_wp2_with fail;go_loopw [3] (fun i wr=>∃j:Nat,1≤j∧j≤l.length+1∧i=.int .i64 (j:Int)∧gn (l.drop (j - 1))=R∧Below w.heap.size w wr) (fun i _=>l.length+1 - (intOf i).toNat)
 case atStart=>exact⟨1,Nat.le_refl _,by omega,rfl,HR.out,Below.refl _ _⟩
 case round=>
  obtain⟨j,UD,Ov,rfl,hr,hB⟩:=hrel;by_cases a6:j<l.length
  · have hS:=h.below hB;have pd:=hS.lt (by omega)
    have cc:=An l j UD a6;rw[hr] at cc;obtain⟨c1,c2,c5⟩:=hS.cells j a6;obtain⟨c3,c4,c6⟩:=hS.cells (j - 1) (by omega)
    have sD:(j:Int)<(l.length:Int):=by omega
    obtain⟨k,hk⟩:∃k,j - 1=k:=⟨_,rfl⟩;have hkw:(j:Int) - 1=(k:Int):=by omega
    have fL:(k:Int)<(l.length:Int):=by omega
    have aW:Op.bytesLess l[j - 1].2.1.toList l[j].2.1.toList=kt l[j - 1].2.1 l[j].2.1:=rfl;generalize l[j]=p at *;generalize l[j - 1]=q at *;rw[hk] at c3 c4 c6;have o1:=last.On.cell c1 pd;have o2:=last.On.cell c2 pd;have o3:=last.On.cell c3 pd;have o4:=last.On.cell c4 pd;have o5:=last.On.cell c5 pd;have o6:=last.On.cell c6 pd;cases hL:kt q.2.1 p.2.1;all_goals
     rw[hL] at cc aW;have gW:=Hid.mk' cc;clear cc hr hL hS hk;go_wp2_with fail;have a_:=last.On.gV wr.heap.size wr;have gk:∀x:last.On wr.heap.size wr,Calls Tryz.prog 225 #[.agg #[.int .i64 p.1,.string p.2.1,.string p.2.2]] x.w fun e w'=>e=.returned (.string p.2.1)∧∃y:last.On wr.heap.size wr,w'=y.w:=fun x=>last.Calls.on x (Nat.le_refl _) ((IQ p x.w).mono fun e w' ⟨he,hw⟩=>⟨he,by rw[hw]; exact(Below.refl _ _).alloc (Nat.le_refl _) _⟩)
     have dS:∀x:last.On wr.heap.size wr,Calls Tryz.prog 225 #[.agg #[.int .i64 q.1,.string q.2.1,.string q.2.2]] x.w fun e w'=>e=.returned (.string q.2.1)∧∃y:last.On wr.heap.size wr,w'=y.w:=fun x=>last.Calls.on x (Nat.le_refl _) ((IQ q x.w).mono fun e w' ⟨he,hw⟩=>⟨he,by rw[hw]; exact(Below.refl _ _).alloc (Nat.le_refl _) _⟩)
     refine last.ai wr.heap.size (by kernel_rfl) (by kernel_rfl) ?_
     repeat(go_big_quiet_step ((go_at_call 225; first | exact gk _ | exact dS _)))
     refine wpQuiet_nil ?_;intro w5 bP;obtain⟨x5,bP⟩:=bP;subst bP;have ec:Below w.heap.size w x5.w:=hB.trans (x5.2.mono hB.size);go_wp2_with fail
    · go_ret;exact⟨aj (by rw[gW.out]; rfl),ec⟩
    · go_roundw
      case rel=>exact⟨j+1,by omega,by omega,by go_num,by rw[gW.out]; simp,ec⟩
      case measure=>simp[intOf]; omega
  · have HF:Hid (R=true):=by show _=_; rw[←hr]; exact CV l j (by omega)
    clear hr;go_wp2_with fail;go_ret;exact⟨aj (by rw[HF.out]),hB⟩
theorem uB(b off len cap:Nat)(l:List Od)(w:World)(h:dD w (some ⟨b,off,none⟩) len l)(dG:∀p∈l,p.2.1.size≤1099511627776):
 Calls Tryz.prog 72 #[.slice (some ⟨b,off,none⟩) len cap] w fun e w'=>e=.returned (.bool (bM l))∧Below w.heap.size w w':=by
 have hl:=h.1;have hm:=h.2.1;have eW:=h.2.2.1;subst hl;unfold maxLen at hm;by_cases h1:l.length<1
 · go_enter Tryz.func72,Tryz.ntmps72;go_wp2_with fail;go_ret;exact⟨aj (by unfold bM; rw[decide_eq_false (by omega:¬(1≤l.length∧l.length≤8))]; simp),Below.refl _ _⟩
 by_cases h8:8<l.length
 · go_enter Tryz.func72,Tryz.ntmps72;go_wp2_with fail;go_ret;exact⟨aj (by unfold bM; rw[decide_eq_false (by omega:¬(1≤l.length∧l.length≤8))]; simp),Below.refl _ _⟩
 · have HP:Hid (bM l=(l.all dF && gn l)):=by show _=_; unfold bM; rw[wo,decide_eq_true (by omega:1≤l.length∧l.length≤8)]; simp
   generalize hA:l.all dF=A;have HA:=Hid.mk' hA;clear hA;go_enter Tryz.func72,Tryz.ntmps72;go_wp2_with fail;go_loopw [15] (fun i wr=>∃k:Nat,k≤l.length∧i=.int .i64 (k:Int)∧(l.drop k).all dF=A∧Below w.heap.size w wr) (fun i _=>l.length - (intOf i).toNat)
   case atStart=>exact⟨0,Nat.zero_le _,rfl,HA.out,Below.refl _ _⟩
   case round=>
    obtain⟨k,hk,rfl,hr,hB⟩:=hrel;by_cases a6:k<l.length
    · obtain⟨c1,c2,c3⟩:=(h.below hB).cells k a6;have mh:=eW _ (List.getElem_mem a6);have yx:=dG _ (List.getElem_mem a6);have fL:(k:Int)<(l.length:Int):=by omega
      have cc:=Fw l k a6;rw[hr] at cc;have dX:=fun wx=>OM l[k] wx mh yx
      have gT:Below w.heap.size w (wr.alloc (.cells #[.int .i64 l[k].1,.string l[k].2.1,.string l[k].2.2] 121)):=hB.alloc hB.size _;generalize l[k]=p at *;cases hP:dF p;all_goals
       rw[hP] at cc dX;have gW:=Hid.mk' cc;have HC:=Hid.mk' dX;clear cc hr dX hP;go_wp2_with fail;refine(HC.out _).mono ?_;rintro e w3 ⟨rfl,dt⟩;have cJ:Below w.heap.size w w3:=gT.trans (dt.mono gT.size);clear dt gT hB c1 c2 c3;go_wp2_with fail
      · go_ret;exact⟨aj (by rw[HP.out,HA.out,gW.out]; rfl),cJ⟩
      · go_roundw
        case rel=>exact⟨k+1,by omega,by go_num,by rw[gW.out]; simp,cJ⟩
        case measure=>simp[intOf]; omega
    · have HF:Hid (A=true):=by show _=_; rw[←hr,List.drop_eq_nil_of_le (by omega)]; rfl
      have HI:=Hid.mk' (IT b off cap l wr (h.below hB) (by omega))
      clear hr;go_wp2_with fail;refine HI.out.mono ?_;rintro e w3 ⟨rfl,dt⟩;have cJ:Below w.heap.size w w3:=hB.trans (dt.mono hB.size);clear dt;go_wp2_with fail;go_ret;exact⟨aj (by rw[HP.out,HA.out,HF.out]; simp),cJ⟩
end aN
namespace aZ
open Go Go.RowKit base av aN
theorem nK(a:Option Addr)(len cap:Nat)(l:List Od)(w:World)(h:dD w a len l)(dG:∀p∈l,p.2.1.size≤1099511627776):
 Calls Tryz.prog 72 #[.slice a len cap] w fun e w'=>e=.returned (.bool (bM l))∧Below w.heap.size w w':=by
 by_cases h0:len=0
 · subst h0;obtain rfl:l=[]:=List.eq_nil_of_length_eq_zero h.1;go_enter Tryz.func72,Tryz.ntmps72;go_wp2_with fail;go_ret;exact⟨aj (by decide),Below.refl _ _⟩
 · obtain⟨b,off,ha,_⟩:=h.2.2.2 (by omega)
   subst ha;exact uB b off len cap l w h dG
theorem CW(kind tx:Int)(a:Option Addr)(len cap:Nat)(l:List Od)(w:World)(h:dD w a len l)(dG:∀p∈l,p.2.1.size≤1099511627776):
 Calls Tryz.prog 165 #[.agg #[.int .i64 kind,.int .i64 tx,.slice a len cap]] w fun e w'=>e=.returned (.bool (bf (kind,tx,l)))∧Below w.heap.size w w':=by
 have bg:Below w.heap.size w (w.alloc (.cells #[.int .i64 kind,.int .i64 tx,.slice a len cap] 98)):=(Below.refl _ _).alloc (Nat.le_refl _) _;have hl:=h.1;have hm:=h.2.1;unfold maxLen at hm;by_cases ht:1≤tx∧tx≤1000000
 · have HR:Hid (bf (kind,tx,l)=if kind=1 then bM l else decide (kind=2∨kind=3) && l.isEmpty):=by show _=_; unfold bf; rw[decide_eq_true ht]; simp
   have Hd:¬tx<1:=by omega
   have K9:¬ 1000000<tx:=by omega
   clear ht;by_cases h1:kind=1
   · subst h1;have HO:=Hid.mk' (nK a len cap l _ (h.below bg) dG);rw[if_pos rfl] at HR;generalize bM l=K at *;go_enter Tryz.func165,Tryz.ntmps165;go_wp2_with fail;refine HO.out.mono ?_;rintro e w1 ⟨rfl,aT⟩;go_wp2_with fail;go_ret;exact⟨aj HR.out.symm,bg.trans (aT.mono bg.size)⟩
   · rw[if_neg h1] at HR;have nr:(kind==1)=false:=beq_eq_false_iff_ne.2 h1;by_cases CL:kind=2∨kind=3
     · rw[decide_eq_true CL,Bool.true_and] at HR;by_cases h0:len=0
       · have HE:Hid (bf (kind,tx,l)=true):=by show _=_; rw[HR.out,List.isEmpty_iff]; exact List.eq_nil_of_length_eq_zero (by omega)
         subst h0;rcases CL with rfl | rfl
         all_goals
          clear HR h1 nr;go_enter Tryz.func165,Tryz.ntmps165;go_wp2_with fail;go_ret;exact⟨aj HE.out.symm,bg⟩
       · have HE:Hid (bf (kind,tx,l)=false):=by
          show _=_;rw[HR.out];cases l with
          | nil=>simp at hl; omega
          | cons x l=>rfl
         have tM:((len:Int)==0)=false:=by simp; omega
         rcases CL with rfl | rfl
         all_goals
          clear HR h1 nr;go_enter Tryz.func165,Tryz.ntmps165;go_wp2_with fail;go_ret;exact⟨aj HE.out.symm,bg⟩
     · rw[decide_eq_false CL,Bool.false_and] at HR;have gY:(kind==2)=false:=beq_eq_false_iff_ne.2 (fun e=>CL (.inl e))
       have hk3:(kind==3)=false:=beq_eq_false_iff_ne.2 (fun e=>CL (.inr e))
       clear h1 CL;go_enter Tryz.func165,Tryz.ntmps165;go_wp2_with fail;go_ret;exact⟨aj HR.out.symm,bg⟩
 · have HR:Hid (bf (kind,tx,l)=false):=by show _=_; unfold bf; rw[decide_eq_false ht]; rfl
   by_cases Hd:tx<1
   · clear ht;go_enter Tryz.func165,Tryz.ntmps165;go_wp2_with fail;go_ret;exact⟨aj HR.out.symm,bg⟩
   · have K9:1000000<tx:=by omega
     clear ht;go_enter Tryz.func165,Tryz.ntmps165;go_wp2_with fail;go_ret;exact⟨aj HR.out.symm,bg⟩
end aZ
namespace hash
open Go.RowKit base
theorem Fx(s:ByteArray)(w:World)(hs:s.size≤maxLen):
 Calls Tryz.prog 172 #[.string s] w fun e w'=>e=.returned (.int .i64 (fm s.data.toList))∧w'=w:=by
 unfold maxLen at hs;go_enter Tryz.func172,Tryz.ntmps172;go_wp2;go_loop [3,4] (fun h i=>∃k:Nat,k≤s.size∧i=.int .i64 k∧h=.int .i64 (fm (s.data.toList.take k))) (fun _ i=>s.size - (intOf i).toNat)
 case atStart=>exact⟨0,Nat.zero_le _,rfl,rfl⟩
 case round=>
  obtain⟨k,hk,rfl,rfl⟩:=hrel;have hd:=lE (s.data.toList.take k);by_cases a6:k<s.size
  · have HS:Hid (fm (s.data.toList.take (k+1))=lD (fm (s.data.toList.take k)) s[k].toNat):=by rw[xf s k a6]; exact sq _ _
    go_wp2;have hb:s[k].toNat<256:=s[k].toNat_lt;go_round
    case rel=>
     refine⟨k+1,by omega,by go_num,?_⟩
     rw[HS.out,IntWalk.wrap64_in (s[k].toNat:Int) (by omega)]
     exact yi (Fb _ _ hd hb)
    case measure=>simp[intOf]; omega
  · go_wp2;go_ret;exact⟨gJ (by rw[List.take_of_length_le (by simp; omega)]),rfl⟩
theorem Fy(s:ByteArray)(w:World)(hs:s.size≤maxLen):
 Calls Tryz.prog 187 #[.string s] w fun e w'=>e=.returned (.int .i64 (fm s.data.toList))∧Below w.heap.size w w':=by
 unfold maxLen at hs;have Ng:=Lib.run_convert_string_bytes (P:=Tryz.prog) w 9 22 5 s Tryz.underlying9 Tryz.underlying22 Tryz.underlying5;go_enter Tryz.func187,Tryz.ntmps187;go_wp2;go_loop [3,9] (fun h i=>∃k:Nat,k≤s.size∧i=.int .i64 k∧h=.int .u32 (fm (s.data.toList.take k))) (fun _ i=>s.size - (intOf i).toNat)
 case atStart=>exact⟨0,Nat.zero_le _,rfl,rfl⟩
 case round=>
  obtain⟨k,hk,rfl,rfl⟩:=hrel;have hd:=lE (s.data.toList.take k);by_cases a6:k<s.size
  · have HS:Hid (fm (s.data.toList.take (k+1))=lD (fm (s.data.toList.take k)) s[k].toNat):=by rw[xf s k a6]; exact sq _ _
    have mU:(Lib.bytesWorld w 5 s).cell? ⟨w.heap.size,k,none⟩=some (.int .u8 s[k].toNat):=by
     rw[Lib.bytesWorld_cell w 5 s k a6]; simp[List.getD,a6]; rfl
    go_wp2;have hb:s[k].toNat<256:=s[k].toNat_lt;go_round
    case rel=>
     refine⟨k+1,by omega,by go_num,?_⟩
     rw[HS.out];refine yi ?_;rw[←Ik _ _ hd hb,IntKind.wrap_u32,Int.emod_eq_of_lt (a:=(s[k].toNat:Int)) (by omega) (by omega)]
    case measure=>simp[intOf]; omega
  · go_wp2;go_ret;exact⟨gJ (by rw[List.take_of_length_le (by simp; omega)]),lG _ _ _⟩
end hash
namespace aN
open Go Go.RowKit base av
theorem uC(m:List Pr)(l:List Od)(k:Nat)(h:k<l.length):meets m (l.drop k)=(El m l[k] && meets m (l.drop (k+1))):=by
 rw[List.drop_eq_getElem_cons h]; rfl
theorem qL(key:ByteArray)(n:Int)(w:World)(hs:key.size≤maxLen)(hn:(Lit.int .i64 n).wf=true):
 Calls Tryz.prog 144 #[.string key,.int .i64 n] w fun e w'=>e=.returned (.int .i64 (bl key n))∧w'=w:=by
 have hH:=lE key.data.toList;have HC:=Hid.mk' (hash.Fx key w hs);unfold bl;generalize fm key.data.toList=H at *;by_cases h1:n<1
 · rw[if_pos h1];go_enter Tryz.func144,Tryz.ntmps144;go_wp2_with fail;go_ret;exact⟨rfl,rfl⟩
 · rw[if_neg h1];have h2:Int.tmod (H:Int) n=(H:Int) % n:=Int.tmod_eq_emod_of_nonneg (by omega)
   have h3:0≤(H:Int) % n:=Int.emod_nonneg _ (by omega)
   have h4:(H:Int) % n≤4294967296:=by
    have h5:=Int.emod_add_ediv_mul (H:Int) n;have h6:0≤(H:Int) / n * n:=Int.mul_nonneg (Int.ediv_nonneg (by omega) (by omega)) (by omega)
    omega
   generalize(H:Int) % n=R at *;go_enter Tryz.func144,Tryz.ntmps144;go_wp2_with fail;refine HC.out.mono ?_;rintro e w1 ⟨rfl,rfl⟩;go_wp2_with fail;go_ret;exact⟨rfl,rfl⟩
theorem j4(a:Option Addr)(len cap:Nat)(m:List Pr)(a2:Option Addr)(cn eg:Nat)(l:List Od)(w:World)(h:lq w a len m)(h2:dD w a2 cn l):
 Calls Tryz.prog 140 #[.slice a len cap,.slice a2 cn eg] w fun e w'=>e=.returned (.bool (meets m l))∧Below w.heap.size w w':=by
 have hl:=h2.1;have hm:=h2.2.1;subst hl;unfold maxLen at hm;generalize hR:meets m l=R;have HR:=Hid.mk' hR;clear hR;go_enter Tryz.func140,Tryz.ntmps140;go_wp2_with fail;go_loopw [5] (fun i wr=>∃k:Nat,k≤l.length∧i=.int .i64 (k:Int)∧meets m (l.drop k)=R∧Below w.heap.size w wr) (fun i _=>l.length - (intOf i).toNat)
 case atStart=>exact⟨0,Nat.zero_le _,rfl,HR.out,Below.refl _ _⟩
 case round=>
  obtain⟨k,hk,rfl,hr,hB⟩:=hrel;by_cases a6:k<l.length
  · obtain⟨b,off,ha,cK⟩:=h2.2.2.2 (by omega)
    subst ha;have hS:=h2.below hB;obtain⟨c0,c1,c2⟩:=hS.cells k a6;have hP:=h.below hB;have cc:=uC m l k a6;rw[hr] at cc;have fL:(k:Int)<(l.length:Int):=by omega
    unfold El at cc;have HG:=Hid.mk' (Ad a len cap m l[k].2.1 wr hP);generalize getKey l[k].2.1 m=G at *;have gW:=Hid.mk' cc;clear cc hr hS cK hP;generalize l[k]=o at *;obtain⟨z,key,val⟩:=o;simp only[] at c0 c1 c2;by_cases hz:z=3
    · subst hz;cases G with
      | none=>
       simp only[rI] at HG;by_cases hv:val.size=0
       · have HF:Hid (meets m (l.drop (k+1))=R):=by show _=_; have:=gW.out; simp[hv] at this; exact this.symm
         obtain rfl:=size_empty hv;clear gW hv;go_wp2_with fail;refine HG.out.mono ?_;rintro e w1 ⟨rfl,bx⟩;subst bx;go_wp2_with fail;go_roundw
         case rel=>exact⟨k+1,by omega,by go_num,HF.out,by first | exact hB | exact hB.drew⟩
         case measure=>simp[intOf]; omega
       · have HF:Hid (R=false):=by show _=_; have:=gW.out; simpa[hv] using this
         obtain⟨hq,sk⟩:=jN hv;clear gW hv;go_wp2_with fail;refine HG.out.mono ?_;rintro e w1 ⟨rfl,bx⟩;subst bx;go_wp2_with fail;go_ret;exact⟨aj HF.out.symm,by first | exact hB | exact hB.drew⟩
      | some v=>
       simp only[rI] at HG;by_cases hv:val.size=0
       · have HF:Hid (R=false):=by show _=_; have:=gW.out; simpa[hv] using this
         obtain rfl:=size_empty hv;clear gW hv;go_wp2_with fail;refine HG.out.mono ?_;rintro e w1 ⟨rfl,bx⟩;subst bx;go_wp2_with fail;go_ret;exact⟨aj HF.out.symm,by first | exact hB | exact hB.drew⟩
       · obtain⟨hq,sk⟩:=jN hv;by_cases RT:v=val
         · have HF:Hid (meets m (l.drop (k+1))=R):=by show _=_; have:=gW.out; simp[hv,RT] at this; exact this.symm
           subst RT;clear gW hv;go_wp2_with fail;refine HG.out.mono ?_;rintro e w1 ⟨rfl,bx⟩;subst bx;go_wp2_with fail;go_roundw
           case rel=>exact⟨k+1,by omega,by go_num,HF.out,by first | exact hB | exact hB.drew⟩
           case measure=>simp[intOf]; omega
         · have HF:Hid (R=false):=by show _=_; have:=gW.out; simpa[hv,RT] using this
           have aW:=dP RT;clear gW hv RT;go_wp2_with fail;refine HG.out.mono ?_;rintro e w1 ⟨rfl,bx⟩;subst bx;go_wp2_with fail;go_ret;exact⟨aj HF.out.symm,by first | exact hB | exact hB.drew⟩
    · have HF:Hid (meets m (l.drop (k+1))=R):=by show _=_; have:=gW.out; simp[hz] at this; exact this.symm
      have hzz:(z==3)=false:=beq_eq_false_iff_ne.2 hz;clear gW hz;go_wp2_with fail;go_roundw
      case rel=>exact⟨k+1,by omega,by go_num,HF.out,hB⟩
      case measure=>simp[intOf]; omega
  · have HF:Hid (R=true):=by show _=_; rw[←hr,List.drop_eq_nil_of_le (by omega)]; rfl
    clear hr;go_wp2_with fail;go_ret;exact⟨aj HF.out.symm,hB⟩
end aN
end Go.Proofs.YtmibabclefgljaaGreat
