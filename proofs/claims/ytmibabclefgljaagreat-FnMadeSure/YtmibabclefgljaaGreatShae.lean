/- PairE RecMap OrdJ RecJ Hash OrdU -/
import Derived.Test.YtmibabclefgljaaGreatShad
import Derived.Maps.OwnSet
import Derived.Maps.OwnOps
import Derived.Maps.Views
import Derived.Test.YtmibabclefgljaaGreatShac
import Derived.Test.YtmibabclefgljaaGreatRows
import Derived.Test.YtmibabclefgljaaGreatShaa
set_option linter.unusedVariables false
set_option linter.unusedSimpArgs false
set_option maxRecDepth 100000
set_option maxHeartbeats 4000000
namespace Go.Proofs.YtmibabclefgljaaGreat
namespace aE
open Go Go.RowKit base
open Go.Maps (Keyed)
open Go.WideMaps (keyOf_string_mk)
theorem qm:Keyed Tryz.prog 9:=Maps.string_keyed Tryz.underlying9
theorem yU(w:World):(zeroValue 3).run Tryz.prog w=.ok (.int .i64 0) w:=by aa
/-! ### how often a key is there -/
def qP(s:ByteArray)(l:List Pr):Nat:=(l.filter fun p=>decide (p.1=s)).length
theorem I0(s:ByteArray)(l:List Pr):qP s l≤l.length:=List.length_filter_le _ _
theorem I1(s:ByteArray)(l:List Pr)(k:Nat)(h:k<l.length):qP s (l.take (k+1))=qP s (l.take k)+if s=l[k].1 then 1 else 0:=by
 unfold qP;rw[km l k h,List.filter_append,List.length_append];by_cases e:l[k].1=s
 · simp[List.filter_cons,e]
 · have e':¬s=l[k].1:=fun x=>e x.symm
   simp[List.filter_cons,e,e']
theorem L0(l:List Pr)(k:Nat)(h:k<l.length):1≤qP l[k].1 l:=by
 unfold qP;exact List.length_pos_of_mem (List.mem_filter.2 ⟨List.getElem_mem h,by simp⟩)
theorem AD(key:ByteArray)(l:List Pr)(j:Nat)(h:j<l.length):delKey key (l.take (j+1))=if l[j].1=key then delKey key (l.take j) else delKey key (l.take j)++[l[j]]:=by
 have cF:=sT (fun p=>decide (p.1≠key)) l j h
 unfold delKey;rw[cF];by_cases e:l[j].1=key
 · rw[if_pos e]; simp[e]
 · rw[if_neg e]; simp[e]
theorem yV{a b:Int}(h:(DataW.lit (.int .i64 a):DataW Unit)=.lit (.int .i64 b)):a=b:=by
 cases h; rfl
theorem uR{a b:ByteArray}(h:a≠b):(Lit.string a.data.toList)≠ .string b.data.toList:=by
 intro e; apply h; apply j8; exact Lit.string.inj e
def e_(w:World)(B n:Nat)(f:ByteArray→Nat):Prop:=
 ∃D:DataW Unit,w.ownsMap Tryz.prog 9 (plainElem Tryz.prog 3) B n D∧Maps.IsMap D∧∀s:ByteArray,D.atKey (.string s.data.toList) (.lit (.int .i64 0))=.lit (.int .i64 (f s:Int))
theorem uS(w:World):e_ (w.alloc (.map #[] 0)) w.heap.size 0 (fun _=>0):=
 ⟨.map [],World.ownsMap_made _ _ _ _,Maps.isMap_empty,fun s=>rfl⟩
theorem e_.below{w w':World}{B n:Nat}{f:ByteArray→Nat}(h:e_ w B n f)(hb:Below w.heap.size w w'):e_ w' B n f:=by
 obtain⟨D,h1,h2,h3⟩:=h;exact⟨D,h1.kept (row:=none) ⟨hb.os,hb.tape,hb.output,hb.size,fun k hk _=>hb.block k hk⟩ (by simp),h2,h3⟩
theorem e_.grown{w w':World}{B n:Nat}{f:ByteArray→Nat}{row:Option Nat}(h:e_ w B n f)(hg:w.grownBy w' row)(bh:some B≠row):e_ w' B n f:=by
 obtain⟨D,h1,h2,h3⟩:=h;exact⟨D,h1.kept hg bh,h2,h3⟩
theorem e_.put{w':World}{B n:Nat}{f f':ByteArray→Nat}{D:DataW Unit}{x:ByteArray}(h2:Maps.IsMap D)(h3:∀s:ByteArray,D.atKey (.string s.data.toList) (.lit (.int .i64 0))=.lit (.int .i64 (f s:Int))){v:Int}(hv:v=(f' x:Int))(ho:∀s,s≠x→f' s=f s)
 (h1:w'.ownsMap Tryz.prog 9 (plainElem Tryz.prog 3) B n (D.put (.string x.data.toList) (.lit (.int .i64 v)))):e_ w' B n f':=by
 refine⟨_,h1,h2.put _ _,fun s=>?_⟩
 by_cases e:s=x
 · subst e;rw[Maps.atKey_put_same h2 (by trivial),hv]
 · rw[Maps.atKey_put_other (uR e),h3,ho s e]
theorem e_.del{w':World}{B n:Nat}{f:ByteArray→Nat}{D:DataW Unit}{x:ByteArray}(h2:Maps.IsMap D)(h3:∀s:ByteArray,D.atKey (.string s.data.toList) (.lit (.int .i64 0))=.lit (.int .i64 (f s:Int)))
 (h1:w'.ownsMap Tryz.prog 9 (plainElem Tryz.prog 3) B n (D.del (.string x.data.toList))):e_ w' B n (fun s=>if s=x then 0 else f s):=by
 refine⟨_,h1,h2.del _,fun s=>?_⟩
 by_cases e:s=x
 · subst e;rw[Maps.atKey_del_same]; simp
 · rw[Maps.atKey_del_other (uR e),h3]; simp[e]
theorem FP(b off cap:Nat)(l:List Pr)(key:ByteArray)(w:World)(h:lL w (some ⟨b,off,none⟩) l.length l)(jg:l.length≤1099511627776)(l9:key.size≤maxLen):
 Calls Tryz.prog 155 #[.slice (some ⟨b,off,none⟩) l.length cap,.string key] w fun e w'=>
  ∃g' n' aY,e=.returned (.slice (some ⟨g',0,none⟩) n' aY)∧bX w' w.heap.size g' n' aY (delKey key l)∧Below w.heap.size w w':=by
 obtain⟨i0,jX,dE,dD,cO⟩:=info_parts nt;have fk:=h.2.2.1;have ON:=uN;have OT:= @run_makeMap Tryz.prog;have yW:=keyOf_string_mk (P:=Tryz.prog) Tryz.underlying9 l9;aj Tryz.func155,Tryz.ntmps155;ab (ak; fail)
 aN [14] (fun i wr=>∃k:Nat,k≤l.length∧i=.int .i64 (k:Int)∧e_ wr w.heap.size k (fun s=>qP s (l.take k))∧Below w.heap.size w wr) (fun i _=>l.length - (intOf i).toNat)
 case atStart=>exact⟨0,Nat.zero_le _,rfl,uS w,(Below.refl _ _).alloc (Nat.le_refl _) _⟩
 case round=>
  obtain⟨k,hk,rfl,hT,hB⟩:=hrel;clear OT;by_cases bn:k<l.length
  · obtain⟨c1,c2⟩:=(h.below hB).cells k bn;have fZ:(k:Int)<(l.length:Int):=by omega
    have mH:=fk _ (List.getElem_mem bn);have HS:Hid (∀s,qP s (l.take (k+1))=qP s (l.take k)+if s=l[k].1 then 1 else 0):=fun s=>I1 s l k bn
    have hle:=I0 l[k].1 (l.take k);have yX:(l.take k).length≤k:=List.length_take_le _ _;generalize l[k]=p at *;have EH:=keyOf_string_mk (P:=Tryz.prog) Tryz.underlying9 mH.1;ab fail;refine(q7 p _).mono ?_;rintro e w3 ⟨rfl,lN⟩;have L1:Below wr.heap.size wr w3:=by rw[lN]; exact((Below.refl _ _).alloc (Nat.le_refl _) _).alloc (aS _ _ (Nat.le_refl _)) _
    have cY:Below w.heap.size w w3:=hB.trans (L1.mono hB.size);obtain⟨D,aK,hD,uT⟩:=hT.below L1;have FQ:=Hid.mk' uT;clear lN hB L1 hT c1 c2 uT;ab (xE; refine wpList_lookup_own_int _ rfl _ _ 173 rfl 9 3 .i64 qm Tryz.underlying173 Tryz.underlying3 (yU _) w.heap.size k D rfl aK _ _ rfl EH ?_)
    intro c fF L2;obtain⟨m,hm⟩:∃m:Nat,m=qP p.1 (l.take k):=⟨_,rfl⟩;obtain rfl:c=(m:Int):=by rw[FQ.out] at fF; rw[hm]; exact(yV fF).symm
    have Zo:m≤k:=by omega
    have HM:=Hid.mk' hm;clear fF L2 hm;ab (jY; refine wpList_mapUpdate_own _ rfl _ _ _ 173 rfl 9 3 qm Tryz.underlying173 _ w.heap.size k D rfl aK (by unfold maxLen; omega) _ _ _ rfl rfl EH _ [] (plainElem_int Tryz.underlying3 (WalkArith.wf_i64 (by omega))) ?_)
    intro w4 kZ mQ;have hT4:e_ w4 w.heap.size (k+1) (fun s=>qP s (l.take (k+1))):=e_.put hD FQ.out (by rw[HS.out,if_pos rfl,←HM.out]; simp) (fun s hs=>by rw[HS.out,if_neg hs]; simp) kZ
    have eF:=cY.grown mQ cY.size (fun j hj=>by cases hj; exact Nat.le_refl _)
    clear kZ mQ aK FQ cY hD;ab fail;aA
    case rel=>exact⟨k+1,by omega,by aF,hT4,eF⟩
    case measure=>simp[intOf]; omega
  · have HE:Hid (l.take k=l):=List.take_of_length_le (by omega)
    rw[HE.out] at hT;obtain⟨D,aK,hD,uT⟩:=hT;ab (Q4; refine wpList_delete_own _ rfl _ _ 173 9 rfl 3 qm Tryz.underlying173 _ w.heap.size k D rfl aK _ _ rfl yW ?_)
    intro w5 iB C7;have L3:=e_.del hD uT iB;have R0:=aK.lt;have ez:=hB.grown C7.grown hB.size (fun j hj=>by cases hj; exact Nat.le_refl _)
    have C8:w.heap.size+1≤w5.heap.size:=Nat.le_trans R0 C7.grown.size;clear iB C7 aK uT hD hB R0;ab (ak; fail)
    aN [8,30] (fun v i wr=>∃(j g n cp:Nat),j≤l.length∧n≤j∧i=.int .i64 (j:Int)∧v=.slice (some ⟨g,0,none⟩) n cp∧bX wr (w.heap.size+1) g n cp (delKey key (l.take j))∧e_ wr w.heap.size k (fun s=>if s=key then 0 else qP s l)∧Below w.heap.size w wr) (fun _ i _=>l.length - (intOf i).toNat)
    case atStart=>exact⟨0,w5.heap.size,0,0,Nat.zero_le _,Nat.le_refl _,rfl,rfl,cB w5 _ C8,L3.below ((Below.refl _ _).alloc (Nat.le_refl _) _),ez.alloc ez.size _⟩
    case round=>
     clear L3 ez C8;obtain⟨j,g,n,cp,hj,UL,rfl,rfl,hO,hT,hB⟩:=hrel;by_cases L4:j<l.length
     · obtain⟨c1,c2⟩:=(h.below hB).cells j L4;have mH:=fk _ (List.getElem_mem L4);have fZ:(j:Int)<(l.length:Int):=by omega
       have Ho:=L0 l j L4;have cZ:=I0 l[j].1 l;have EH:=keyOf_string_mk (P:=Tryz.prog) Tryz.underlying9 mH.1;have HD:=Hid.mk' (AD key l j L4);have fR:n+1≤maxLen:=by unfold maxLen; omega
       have kn:(n+1) * 32≤140737488355328:=by omega
       generalize l[j]=p at *;ab fail;refine(q7 p _).mono ?_;rintro e w3 ⟨rfl,lN⟩;have nN:Below (wr.alloc (.cells #[.string p.1,.string p.2] 100)).heap.size (wr.alloc (.cells #[.string p.1,.string p.2] 100)) w3:=by rw[lN]; exact(Below.refl _ _).alloc (Nat.le_refl _) _
       have L1:Below wr.heap.size wr w3:=((Below.refl _ _).alloc (Nat.le_refl _) _).trans (nN.mono (aS _ _ (Nat.le_refl _)));have cY:Below w.heap.size w w3:=hB.trans (L1.mono hB.size);have ew:=hO.below L1;have FH:=hT.below L1;obtain⟨Zm,Zn⟩:=uP wr w3 p.1 p.2 nN;obtain⟨D3,aK,L5,uT⟩:=hT.below L1;have FQ:=Hid.mk' uT;clear lN hO hB L1 nN hT c1 c2 uT;ab (xE; refine wpList_lookup_own_int _ rfl _ _ 173 rfl 9 3 .i64 qm Tryz.underlying173 Tryz.underlying3 (yU _) w.heap.size k D3 rfl aK _ _ rfl EH ?_)
       intro c fF L2;rw[FQ.out] at fF;have Q5:=yV fF;clear fF L2 aK L5 FQ;by_cases he:p.1=key
       · have hF:=HD.out;rw[if_pos he] at hF;obtain rfl:c=0:=by rw[if_pos he] at Q5; exact Q5.symm
         have HF:=Hid.mk' hF;clear Q5 HD hF he;ab (ak; fail)
         aA
         case rel=>exact⟨j+1,g,n,cp,by omega,by omega,by aF,rfl,by rw[HF.out]; exact ew,FH,cY⟩
         case measure=>simp[intOf]; omega
       · have hF:=HD.out;rw[if_neg he] at hF;rw[if_neg he] at Q5;have hc0:0<c:=by omega
         have gL:c≤1099511627776:=by omega
         have HF:=Hid.mk' hF;have OU:w.heap.size+1≤w3.heap.size:=by have:=ew.lt; omega
         clear Q5 HD hF he;ab (ak; refine wpList_append_own _ rfl (.tmp 40) (.tmp 42) 204 rfl (w.heap.size+1) 100 i0 (.agg #[.string ⟨#[]⟩,.string ⟨#[]⟩]) 2 32 Tryz.underlying204 jX dE dD cO rfl (by decide) _ _ _ rfl (ew.2.2.alloc _) ⟨w3.heap.size,0,none⟩ 1 1 (aG [p]) rfl rfl (eg _ _ _) (aP _) fR kn (aS _ _ OU) ?_)
         intro v2 w2 nZ aI db;obtain⟨g2,IH,hv,fS⟩:=l5 ew.1 ew.2.1 mH db nZ;subst hv;have dL:Below w.heap.size w w2:=(cY.alloc cY.size _).grown aI (aS _ _ cY.size) (fun k e=>by simp[Value.ownBlock] at e; have:=ew.lt; omega)
         have LY:=(FH.below ((Below.refl _ _).alloc (Nat.le_refl _) _)).grown aI (by simp[Value.ownBlock]; have:=ew.lt; omega)
         rw[←HF.out] at fS;have LO:=Hid.mk' fS;clear nZ aI db fS ew cY FH;ab (ak; fail)
         aA
         case rel=>exact⟨j+1,g2,n+1,IH,by omega,by omega,by aF,rfl,LO.out,LY,dL⟩
         case measure=>simp[intOf]; omega
     · have Ex:Hid (l.take j=l):=List.take_of_length_le (by omega)
       ab (ak; fail)
       an;rw[Ex.out] at hO;exact⟨g,n,cp,rfl,hO.mono (by omega),hB⟩
theorem AE(b off len cap:Nat)(l:List Pr)(key:ByteArray)(w:World)(h:lL w (some ⟨b,off,none⟩) len l)(CV:len≤cap)(jg:len≤1099511627776)(l9:key.size≤maxLen):
 Calls Tryz.prog 118 #[.slice (some ⟨b,off,none⟩) len cap,.string key] w fun e w'=>
  ∃g' n' aY,e=.returned (.slice (some ⟨g',0,none⟩) n' aY)∧bX w' w.heap.size g' n' aY (delKey key l)∧Below w.heap.size w w':=by
 have hl:=h.1;subst hl;have HW:=Hid.mk' (FP b off cap l key w h jg l9);aj Tryz.func118,Tryz.ntmps118;ab fail;refine HW.out.mono ?_;rintro e w2 ⟨g,n,cp,rfl,hO,hB⟩;have HO:=Hid.mk' hO;clear hO;ab fail;an;exact⟨g,n,cp,rfl,HO.out,hB⟩
end aE
namespace bm
open Go Go.RowKit base aE aX
open Go.ChangeMaps Go.MapKept
open Go.Maps (keyOf_int_mk)
theorem EI:Go.Maps.Keyed Tryz.prog 3:=Maps.int_keyed Tryz.underlying3
def Nu:Option Addr→List (DataW Unit)
 | none=>[]
 | some ⟨b,o,_⟩=>[.lit (.int .i64 (b:Int)),.lit (.int .i64 (o:Int))]
def q9(k t:Int)(a:Option Addr)(n c:Nat):DataW Unit:=.agg ([.lit (.int .i64 k),.lit (.int .i64 t),.lit (.int .i64 (n:Int)),.lit (.int .i64 (c:Int))]++Nu a)
def R1:List Value→Option (DataW Unit × List MemPlace)
 | [.int .i64 k,.int .i64 t,.slice none n c]=>some (q9 k t none n c,[])
 | [.int .i64 k,.int .i64 t,.slice (some ⟨b,o,none⟩) n c]=>some (q9 k t (some ⟨b,o,none⟩) n c,[])
 | _=>none
def L6:Value→Option (DataW Unit × List MemPlace)
 | .agg xs=>R1 xs.toList
 | _=>none
def Plain(a:Option Addr):Prop:=a=none∨∃b o,a=some ⟨b,o,none⟩
theorem L7(k t:Int){a:Option Addr}(n c:Nat)(h:Plain a):L6 (.agg #[.int .i64 k,.int .i64 t,.slice a n c])=some (q9 k t a n c,[]):=by
 rcases h with rfl | ⟨b,o,rfl⟩ <;> rfl
theorem xF{k t k' t':Int}{a a':Option Addr}{n c n' c':Nat}(ha:Plain a)(Nv:Plain a')(h:q9 k t a n c=q9 k' t' a' n' c'):k=k'∧t=t'∧a=a'∧n=n'∧c=c':=by
 unfold q9 at h;have h1:=DataW.agg.inj h;rcases ha with rfl | ⟨b,o,rfl⟩ <;> rcases Nv with rfl | ⟨b',o',rfl⟩ <;> simp[Nu] at h1 ⊢ <;> omega
theorem I2{v:Value}{z:DataW Unit × List MemPlace}(h:L6 v=some z):∃k t a n c,Plain a∧v=.agg #[.int .i64 k,.int .i64 t,.slice a n c]∧z=(q9 k t a n c,[]):=by
 unfold L6 at h
 split at h
 · next xs=>
   unfold R1 at h
   split at h
   · next k t n c e=>
     cases h;exact⟨k,t,none,n,c,.inl rfl,by rw[←e],rfl⟩
   · next k t b o n c e=>
     cases h;exact⟨k,t,some ⟨b,o,none⟩,n,c,.inr ⟨b,o,rfl⟩,by rw[←e],rfl⟩
   · cases h
 · cases h
theorem L8(w:World):(zeroValue 98).run Tryz.prog w=.ok (.agg #[.int .i64 0,.int .i64 0,.slice none 0 0]) w:=by aa
def gb(w0 w:World)(B n:Nat)(f:Int→Rc):Prop:=
 ∃D:DataW Unit,w.ownsMap Tryz.prog 3 L6 B n D∧Maps.IsMap D∧
  ∀s:Int,(Lit.int .i64 s).wf=true→∃a m c,Plain a∧dS w0 a m (f s).2.2∧D.atKey (.int .i64 s) (q9 0 0 none 0 0)=q9 (f s).1 (f s).2.1 a m c
theorem C9(w0 w:World):gb w0 (w.alloc (.map #[] 0)) w.heap.size 0 (fun _=>(0,0,[])):=
 ⟨.map [],World.ownsMap_made _ _ _ _,Maps.isMap_empty,fun s _=>⟨none,0,0,.inl rfl,uc _ _,rfl⟩⟩
section
variable{w0 w w':World}{B n:Nat}{f:Int→Rc}
theorem gb.lt(h:gb w0 w B n f):B<w.heap.size:=by
 obtain⟨D,⟨es,clock,hb,_⟩,_⟩:=h;exact(Array.getElem?_eq_some_iff.1 hb).1
theorem gb.keep(h:gb w0 w B n f)(hb:w'.heap[B]? =w.heap[B]?):gb w0 w' B n f:=by
 obtain⟨D,⟨es,clock,h1,h2⟩,h3,h4⟩:=h;exact⟨D,⟨es,clock,hb.trans h1,h2⟩,h3,h4⟩
theorem gb.below(h:gb w0 w B n f)(hb:Below w.heap.size w w'):gb w0 w' B n f:=h.keep (hb.block B h.lt)
theorem gb.grown{row:Option Nat}(h:gb w0 w B n f)(hg:w.grownBy w' row)(bh:some B≠row):gb w0 w' B n f:=h.keep (hg.block B h.lt bh)
theorem gb.look(h:gb w0 w B n f){s:Int}(hs:(Lit.int .i64 s).wf=true):∃a m c,Plain a∧dS w0 a m (f s).2.2∧∀w2:World,w2.heap[B]? =w.heap[B]? →(Instr.lookup 172 (.map (some B)) (.int .i64 s) false).run Tryz.prog w2=.ok (.agg #[.int .i64 (f s).1,.int .i64 (f s).2.1,.slice a m c]) w2:=by
 obtain⟨D,⟨es,clock,hb,F,hn,rfl⟩,h3,h4⟩:=h;obtain⟨a,m,c,h5,h6,h7⟩:=h4 s hs;have l9:=keyOf_int_mk (P:=Tryz.prog) Tryz.underlying3 hs;refine⟨a,m,c,h5,h6,fun w2 j_=>?_⟩
 rcases Maps.fit_look false EI Tryz.underlying172 (L8 w2) (j_.trans hb) F l9 with⟨dA,_,fF⟩ | ⟨e0,y,_,_,dA,hRv,fF,_⟩
 · rw[fF] at h7;obtain⟨e1,e2,e3,e4,e5⟩:=xF (.inl rfl) h5 h7;rw[dA,←e1,←e2,←e3,←e4,←e5]; rfl
 · rw[fF] at h7;obtain⟨k',t',a',n',c',hp,hv,hz⟩:=I2 hRv;rw[hz] at h7;obtain⟨e1,e2,e3,e4,e5⟩:=xF hp h5 h7;rw[dA,hv,←e1,←e2,←e3,←e4,←e5]; rfl
def gU(f:Int→Rc)(s:Int)(r:Rc)(t:Int):Rc:=if t=s then r else f t
theorem gb.store(h:gb w0 w B n f)(hn:n<maxLen){s:Int}(hs:(Lit.int .i64 s).wf=true){r:Rc}{a:Option Addr}{m c:Nat}(ha:Plain a)(hS:dS w0 a m r.2.2):
 ∃w2,(Instr.mapUpdate 172 (.map (some B)) (.int .i64 s) (.agg #[.int .i64 r.1,.int .i64 r.2.1,.slice a m c])).run Tryz.prog w=.ok () w2∧gb w0 w2 B (n+1) (gU f s r)∧w.grownBy w2 (some B):=by
 obtain⟨D,h1,h3,h4⟩:=h;have l9:=keyOf_int_mk (P:=Tryz.prog) Tryz.underlying3 hs;obtain⟨w2,dA,aK,R2⟩:=h1.store EI Tryz.underlying172 hn l9 (L7 r.1 r.2.1 m c ha);refine⟨w2,dA,⟨_,aK,h3.put _ _,fun t ht=>?_⟩,R2.grown⟩
 unfold gU;by_cases e:t=s
 · subst e;rw[if_pos rfl];exact⟨a,m,c,ha,hS,Maps.atKey_put_same h3 (by trivial) _ _⟩
 · rw[if_neg e];obtain⟨a',m',c',h5,h6,h7⟩:=h4 t ht;exact⟨a',m',c',h5,h6,by rw[Maps.atKey_put_other (by intro e2; exact e (by cases e2; rfl)),h7]⟩
end
theorem q_{w0 w:World}{ops:Array Oper}{rest:List Oper}{o:Oper}{a:Act}{Q:Exit→Act→World→Prop}(hg:o.guard=none)(m x v:Operand)(Cp:o.op=Op.mapUpdate 172 m x v)
 {B n:Nat} {f:Int→Rc} (hm:a.eval m=.map (some B)) (h:gb w0 w B n f) (hn:n<maxLen) {s:Int} (hx:a.eval x=.int .i64 s) (hs:(Lit.int .i64 s).wf=true) {r:Rc} {ad:Option Addr} {mm c:Nat} (hv:a.eval v=.agg #[.int .i64 r.1,.int .i64 r.2.1,.slice ad mm c]) (ha:Plain ad) (hS:dS w0 ad mm r.2.2)
 (hK:∀w2,gb w0 w2 B (n+1) (gU f s r)→w.grownBy w2 (some B)→wpList Tryz.prog ops Q rest (a.put o.dst undef) w2):wpList Tryz.prog ops Q (o::rest) a w:=by
 refine wpList_plain hg fun K' OV=>?_
 obtain⟨w2,dA,r1,r2⟩:=h.store hn hs (c:=c) ha hS;unfold Oper.wp;simp[execOp,Cp,hm,hx,hv,dA,Result.andThen];exact OV _ _ (hK w2 r1 r2)
end bm
namespace aX
open Go Go.RowKit base aE
/-! ### orders that rise -/
def gM:List Od→Bool
 | []=>true
 | p::l=>(match l.head? with | none=>true | some q=>kN p.2.1 q.2.1) && gM l
theorem yY(k:ByteArray)(l:List Od):dp (some k) l=((match l.head? with | none=>true | some q=>kN k q.2.1) && l.all dU && gM l):=by
 induction l generalizing k with
 | nil=>rfl
 | cons p l ih=>
  simp only[dp,ih,List.head?_cons,List.all_cons,gM];cases dU p <;> cases kN k p.2.1 <;> cases l.all dU <;> cases gM l <;> simp
theorem wR(l:List Od):dp none l=(l.all dU && gM l):=by
 cases l with
 | nil=>rfl
 | cons p l=>
  simp only[dp,yY,List.all_cons,gM];cases dU p <;> cases l.all dU <;> cases gM l <;> simp
theorem AF(l:List Od)(j:Nat)(h1:1≤j)(h:j<l.length):gM (l.drop (j - 1))=(kN l[j - 1].2.1 l[j].2.1 && gM (l.drop j)):=by
 rw[List.drop_eq_getElem_cons (by omega:j - 1<l.length),gM,show j - 1+1=j by omega,List.head?_drop,List.getElem?_eq_getElem h]
theorem C_(l:List Od)(j:Nat)(h:l.length≤j):gM (l.drop (j - 1))=true:=by
 by_cases h2:j - 1<l.length
 · rw[List.drop_eq_getElem_cons h2,gM,List.drop_eq_nil_of_le (by omega)]; rfl
 · rw[List.drop_eq_nil_of_le (by omega)]; rfl
theorem FT(l:List Od)(k:Nat)(h:k<l.length):(l.drop k).all dU=(dU l[k] && (l.drop (k+1)).all dU):=by
 rw[List.drop_eq_getElem_cons h,List.all_cons]
theorem I3(p:Od)(w:World):
 Calls Tryz.prog 225 #[.agg #[.int .i64 p.1,.string p.2.1,.string p.2.2]] w fun e w'=>e=.returned (.string p.2.1)∧w'=w.alloc (.cells #[.int .i64 p.1,.string p.2.1,.string p.2.2] 121):=by
 aj Tryz.func225,Tryz.ntmps225;bf;an;exact⟨rfl,rfl⟩
theorem L9(z:Int)(x y:ByteArray)(w:World):(method 368 121 (.agg #[.int .i64 z,.string x,.string y]) "loop.example/g00244/impl.key").run Tryz.prog w=.ok (225,.agg #[.int .i64 z,.string x,.string y]) w:=by aa
theorem OW(o:Od)(w:World)(ho:ed o)(hs:o.2.1.size≤1099511627776):
 Calls Tryz.prog 107 #[.agg #[.int .i64 o.1,.string o.2.1,.string o.2.2]] w fun e w'=>e=.returned (.bool (dU o))∧Below w.heap.size w w':=by
 obtain⟨z,k,v⟩:=o;have h2:=ho.2;simp only[] at h2 hs ⊢;have bw:Below w.heap.size w (w.alloc (.cells #[.int .i64 z,.string k,.string v] 121)):=(Below.refl _ _).alloc (Nat.le_refl _) _;have HK:=Hid.mk' (uM k (w.alloc (.cells #[.int .i64 z,.string k,.string v] 121)) hs);have HP:=Hid.mk' (Az (k,v) (w.alloc (.cells #[.int .i64 z,.string k,.string v] 121)) h2 hs);by_cases dD:z=1
 · subst dD;have HR:Hid (dU (1,k,v)=fW (k,v)):=by show _=_; unfold dU fW; simp
   generalize fW (k,v)=K at *;clear HK ho h2 hs;aj Tryz.func107,Tryz.ntmps107;ab fail;refine HP.out.mono ?_;rintro e w1 ⟨rfl,a_⟩;ab fail;an;exact⟨au HR.out.symm,bw.trans (a_.mono bw.size)⟩
 by_cases UN:z=3
 · subst UN;have HR:Hid (dU (3,k,v)=fW (k,v)):=by show _=_; unfold dU fW; simp
   generalize fW (k,v)=K at *;clear HK ho h2 hs;aj Tryz.func107,Tryz.ntmps107;ab fail;refine HP.out.mono ?_;rintro e w1 ⟨rfl,a_⟩;ab fail;an;exact⟨au HR.out.symm,bw.trans (a_.mono bw.size)⟩
 have a_:(z==1)=false:=beq_eq_false_iff_ne.2 dD;have dI:(z==3)=false:=beq_eq_false_iff_ne.2 UN;by_cases cO:z=2
 · subst cO;clear HP dD UN ho h2 hs a_ dI;by_cases hv:v.size=0
   · have HR:Hid (dU (2,k,v)=gS k):=by show _=_; unfold dU; simp[hv]
     obtain rfl:=size_empty hv;clear hv;generalize gS k=K at *;cases K;bo
      aj Tryz.func107,Tryz.ntmps107;ab fail;refine HK.out.mono ?_;rintro e w1 ⟨rfl,a_⟩;have hc:=sR a_;ab fail;an;exact⟨au HR.out.symm,bw.trans (a_.mono bw.size)⟩
   · have HR:Hid (dU (2,k,v)=false):=by show _=_; unfold dU; simp[hv]
     obtain⟨hq,sL⟩:=j9 hv;clear hv;generalize gS k=K at *;cases K;bo
      aj Tryz.func107,Tryz.ntmps107;ab fail;refine HK.out.mono ?_;rintro e w1 ⟨rfl,a_⟩;have hc:=sR a_;ab fail;an;exact⟨au HR.out.symm,bw.trans (a_.mono bw.size)⟩
 · have be:(z==2)=false:=beq_eq_false_iff_ne.2 cO;have HR:Hid (dU (z,k,v)=false):=by
    show _=_;unfold dU;rw[decide_eq_false (by simp only[]; omega)]; rfl
   clear HP HK dD cO UN ho h2 hs;aj Tryz.func107,Tryz.ntmps107;ab fail;an;exact⟨au HR.out.symm,bw⟩
theorem I4(b off cap:Nat)(l:List Od)(w:World)(h:dS w (some ⟨b,off,none⟩) l.length l)(jg:l.length≤1099511627776):
 Calls Tryz.prog 108 #[.slice (some ⟨b,off,none⟩) l.length cap] w fun e w'=>e=.returned (.bool (gM l))∧Below w.heap.size w w':=by
 have ON:=L9;generalize hR:gM l=R;have HR:=Hid.mk' hR;clear hR;aj Tryz.func108,Tryz.ntmps108;ab fail;aN [3] (fun i wr=>∃j:Nat,1≤j∧j≤l.length+1∧i=.int .i64 (j:Int)∧gM (l.drop (j - 1))=R∧Below w.heap.size w wr) (fun i _=>l.length+1 - (intOf i).toNat)
 case atStart=>exact⟨1,Nat.le_refl _,by omega,rfl,HR.out,Below.refl _ _⟩
 case round=>
  obtain⟨j,UO,OG,rfl,hr,hB⟩:=hrel;by_cases bn:j<l.length
  · have hS:=h.below hB;have pG:=hS.lt (by omega)
    have cF:=AF l j UO bn;rw[hr] at cF;obtain⟨c1,c2,c5⟩:=hS.cells j bn;obtain⟨c3,c4,c6⟩:=hS.cells (j - 1) (by omega)
    have sW:(j:Int)<(l.length:Int):=by omega
    obtain⟨k,hk⟩:∃k,j - 1=k:=⟨_,rfl⟩;have hkw:(j:Int) - 1=(k:Int):=by omega
    have fZ:(k:Int)<(l.length:Int):=by omega
    have bh:Op.bytesLess l[j - 1].2.1.toList l[j].2.1.toList=kN l[j - 1].2.1 l[j].2.1:=rfl;generalize l[j]=p at *;generalize l[j - 1]=q at *;rw[hk] at c3 c4 c6;have o1:=last.On.cell c1 pG;have o2:=last.On.cell c2 pG;have o3:=last.On.cell c3 pG;have o4:=last.On.cell c4 pG;have o5:=last.On.cell c5 pG;have o6:=last.On.cell c6 pG;cases hL:kN q.2.1 p.2.1;bo
     rw[hL] at cF bh;have ir:=Hid.mk' cF;clear cF hr hL hS hk;ab fail;have br:=last.On.iq wr.heap.size wr;have gL:∀x:last.On wr.heap.size wr,Calls Tryz.prog 225 #[.agg #[.int .i64 p.1,.string p.2.1,.string p.2.2]] x.w fun e w'=>e=.returned (.string p.2.1)∧∃y:last.On wr.heap.size wr,w'=y.w:=fun x=>last.Calls.on x (Nat.le_refl _) ((I3 p x.w).mono fun e w' ⟨he,hw⟩=>⟨he,by rw[hw]; exact(Below.refl _ _).alloc (Nat.le_refl _) _⟩)
     have ei:∀x:last.On wr.heap.size wr,Calls Tryz.prog 225 #[.agg #[.int .i64 q.1,.string q.2.1,.string q.2.2]] x.w fun e w'=>e=.returned (.string q.2.1)∧∃y:last.On wr.heap.size wr,w'=y.w:=fun x=>last.Calls.on x (Nat.le_refl _) ((I3 q x.w).mono fun e w' ⟨he,hw⟩=>⟨he,by rw[hw]; exact(Below.refl _ _).alloc (Nat.le_refl _) _⟩)
     refine last.ar wr.heap.size (by aa) (by aa) ?_
     repeat(ai ((ao 225; first | exact gL _ | exact ei _)))
     refine wpQuiet_nil ?_;intro w5 cf;obtain⟨x5,cf⟩:=cf;subst cf;have ez:Below w.heap.size w x5.w:=hB.trans (x5.2.mono hB.size);ab fail
    · an;exact⟨au (by rw[ir.out]; rfl),ez⟩
    · aA
      case rel=>exact⟨j+1,by omega,by omega,by aF,by rw[ir.out]; simp,ez⟩
      case measure=>simp[intOf]; omega
  · have HF:Hid (R=true):=by show _=_; rw[←hr]; exact C_ l j (by omega)
    clear hr;ab fail;an;exact⟨au (by rw[HF.out]),hB⟩
theorem uU(b off len cap:Nat)(l:List Od)(w:World)(h:dS w (some ⟨b,off,none⟩) len l)(dV:∀p∈l,p.2.1.size≤1099511627776):
 Calls Tryz.prog 72 #[.slice (some ⟨b,off,none⟩) len cap] w fun e w'=>e=.returned (.bool (b_ l))∧Below w.heap.size w w':=by
 have hl:=h.1;have hm:=h.2.1;have fk:=h.2.2.1;subst hl;unfold maxLen at hm;by_cases h1:l.length<1
 · aj Tryz.func72,Tryz.ntmps72;ab fail;an;exact⟨au (by unfold b_; rw[decide_eq_false (by omega:¬(1≤l.length∧l.length≤8))]; simp),Below.refl _ _⟩
 by_cases h8:8<l.length
 · aj Tryz.func72,Tryz.ntmps72;ab fail;an;exact⟨au (by unfold b_; rw[decide_eq_false (by omega:¬(1≤l.length∧l.length≤8))]; simp),Below.refl _ _⟩
 · have HP:Hid (b_ l=(l.all dU && gM l)):=by show _=_; unfold b_; rw[wR,decide_eq_true (by omega:1≤l.length∧l.length≤8)]; simp
   generalize hA:l.all dU=A;have HA:=Hid.mk' hA;clear hA;aj Tryz.func72,Tryz.ntmps72;ab fail;aN [15] (fun i wr=>∃k:Nat,k≤l.length∧i=.int .i64 (k:Int)∧(l.drop k).all dU=A∧Below w.heap.size w wr) (fun i _=>l.length - (intOf i).toNat)
   case atStart=>exact⟨0,Nat.zero_le _,rfl,HA.out,Below.refl _ _⟩
   case round=>
    obtain⟨k,hk,rfl,hr,hB⟩:=hrel;by_cases bn:k<l.length
    · obtain⟨c1,c2,c3⟩:=(h.below hB).cells k bn;have mH:=fk _ (List.getElem_mem bn);have yQ:=dV _ (List.getElem_mem bn);have fZ:(k:Int)<(l.length:Int):=by omega
      have cF:=FT l k bn;rw[hr] at cF;have ep:=fun wx=>OW l[k] wx mH yQ
      have il:Below w.heap.size w (wr.alloc (.cells #[.int .i64 l[k].1,.string l[k].2.1,.string l[k].2.2] 121)):=hB.alloc hB.size _;generalize l[k]=p at *;cases hP:dU p;bo
       rw[hP] at cF ep;have ir:=Hid.mk' cF;have HC:=Hid.mk' ep;clear cF hr ep hP;ab fail;refine(HC.out _).mono ?_;rintro e w3 ⟨rfl,dI⟩;have cY:Below w.heap.size w w3:=il.trans (dI.mono il.size);clear dI il hB c1 c2 c3;ab fail
      · an;exact⟨au (by rw[HP.out,HA.out,ir.out]; rfl),cY⟩
      · aA
        case rel=>exact⟨k+1,by omega,by aF,by rw[ir.out]; simp,cY⟩
        case measure=>simp[intOf]; omega
    · have HF:Hid (A=true):=by show _=_; rw[←hr,List.drop_eq_nil_of_le (by omega)]; rfl
      have HI:=Hid.mk' (I4 b off cap l wr (h.below hB) (by omega))
      clear hr;ab fail;refine HI.out.mono ?_;rintro e w3 ⟨rfl,dI⟩;have cY:Below w.heap.size w w3:=hB.trans (dI.mono hB.size);clear dI;ab fail;an;exact⟨au (by rw[HP.out,HA.out,HF.out]; simp),cY⟩
end aX
namespace bm
open Go Go.RowKit base aE aX
theorem n_(a:Option Addr)(len cap:Nat)(l:List Od)(w:World)(h:dS w a len l)(dV:∀p∈l,p.2.1.size≤1099511627776):
 Calls Tryz.prog 72 #[.slice a len cap] w fun e w'=>e=.returned (.bool (b_ l))∧Below w.heap.size w w':=by
 by_cases h0:len=0
 · subst h0;obtain rfl:l=[]:=List.eq_nil_of_length_eq_zero h.1;aj Tryz.func72,Tryz.ntmps72;ab fail;an;exact⟨au (by decide),Below.refl _ _⟩
 · obtain⟨b,off,ha,_⟩:=h.2.2.2 (by omega)
   subst ha;exact uU b off len cap l w h dV
theorem Da(kind tx:Int)(a:Option Addr)(len cap:Nat)(l:List Od)(w:World)(h:dS w a len l)(dV:∀p∈l,p.2.1.size≤1099511627776):
 Calls Tryz.prog 165 #[.agg #[.int .i64 kind,.int .i64 tx,.slice a len cap]] w fun e w'=>e=.returned (.bool (bu (kind,tx,l)))∧Below w.heap.size w w':=by
 have bw:Below w.heap.size w (w.alloc (.cells #[.int .i64 kind,.int .i64 tx,.slice a len cap] 98)):=(Below.refl _ _).alloc (Nat.le_refl _) _;have hl:=h.1;have hm:=h.2.1;unfold maxLen at hm;by_cases ht:1≤tx∧tx≤1000000
 · have HR:Hid (bu (kind,tx,l)=if kind=1 then b_ l else decide (kind=2∨kind=3) && l.isEmpty):=by show _=_; unfold bu; rw[decide_eq_true ht]; simp
   have Hp:¬tx<1:=by omega
   have Lk:¬ 1000000<tx:=by omega
   clear ht;by_cases h1:kind=1
   · subst h1;have HO:=Hid.mk' (n_ a len cap l _ (h.below bw) dV);rw[if_pos rfl] at HR;generalize b_ l=K at *;aj Tryz.func165,Tryz.ntmps165;ab fail;refine HO.out.mono ?_;rintro e w1 ⟨rfl,a_⟩;ab fail;an;exact⟨au HR.out.symm,bw.trans (a_.mono bw.size)⟩
   · rw[if_neg h1] at HR;have nL:(kind==1)=false:=beq_eq_false_iff_ne.2 h1;by_cases C0:kind=2∨kind=3
     · rw[decide_eq_true C0,Bool.true_and] at HR;by_cases h0:len=0
       · have HE:Hid (bu (kind,tx,l)=true):=by show _=_; rw[HR.out,List.isEmpty_iff]; exact List.eq_nil_of_length_eq_zero (by omega)
         subst h0;rcases C0 with rfl | rfl
         bo
          clear HR h1 nL;aj Tryz.func165,Tryz.ntmps165;ab fail;an;exact⟨au HE.out.symm,bw⟩
       · have HE:Hid (bu (kind,tx,l)=false):=by
          show _=_;rw[HR.out];cases l with
          | nil=>simp at hl; omega
          | cons x l=>rfl
         have ue:((len:Int)==0)=false:=by simp; omega
         rcases C0 with rfl | rfl
         bo
          clear HR h1 nL;aj Tryz.func165,Tryz.ntmps165;ab fail;an;exact⟨au HE.out.symm,bw⟩
     · rw[decide_eq_false C0,Bool.false_and] at HR;have iu:(kind==2)=false:=beq_eq_false_iff_ne.2 (fun e=>C0 (.inl e))
       have hk3:(kind==3)=false:=beq_eq_false_iff_ne.2 (fun e=>C0 (.inr e))
       clear h1 C0;aj Tryz.func165,Tryz.ntmps165;ab fail;an;exact⟨au HR.out.symm,bw⟩
 · have HR:Hid (bu (kind,tx,l)=false):=by show _=_; unfold bu; rw[decide_eq_false ht]; rfl
   by_cases Hp:tx<1
   · clear ht;aj Tryz.func165,Tryz.ntmps165;ab fail;an;exact⟨au HR.out.symm,bw⟩
   · have Lk:1000000<tx:=by omega
     clear ht;aj Tryz.func165,Tryz.ntmps165;ab fail;an;exact⟨au HR.out.symm,bw⟩
end bm
namespace hash
open Go.RowKit base
theorem FU(s:ByteArray)(w:World)(hs:s.size≤maxLen):
 Calls Tryz.prog 172 #[.string s] w fun e w'=>e=.returned (.int .i64 (fG s.data.toList))∧w'=w:=by
 unfold maxLen at hs;aj Tryz.func172,Tryz.ntmps172;bf;jv [3,4] (fun h i=>∃k:Nat,k≤s.size∧i=.int .i64 k∧h=.int .i64 (fG (s.data.toList.take k))) (fun _ i=>s.size - (intOf i).toNat)
 case atStart=>exact⟨0,Nat.zero_le _,rfl,rfl⟩
 case round=>
  obtain⟨k,hk,rfl,rfl⟩:=hrel;have hd:=lW (s.data.toList.take k);by_cases bn:k<s.size
  · have HS:Hid (fG (s.data.toList.take (k+1))=lV (fG (s.data.toList.take k)) s[k].toNat):=by rw[xB s k bn]; exact sM _ _
    bf;have hb:s[k].toNat<256:=s[k].toNat_lt;f_
    case rel=>
     refine⟨k+1,by omega,by aF,?_⟩
     rw[HS.out,IntWalk.wrap64_in (s[k].toNat:Int) (by omega)]
     exact yF (Fu _ _ hd hb)
    case measure=>simp[intOf]; omega
  · bf;an;exact⟨gZ (by rw[List.take_of_length_le (by simp; omega)]),rfl⟩
theorem FV(s:ByteArray)(w:World)(hs:s.size≤maxLen):
 Calls Tryz.prog 187 #[.string s] w fun e w'=>e=.returned (.int .i64 (fG s.data.toList))∧Below w.heap.size w w':=by
 unfold maxLen at hs;have Nt:=Lib.run_convert_string_bytes (P:=Tryz.prog) w 9 22 5 s Tryz.underlying9 Tryz.underlying22 Tryz.underlying5;aj Tryz.func187,Tryz.ntmps187;bf;jv [3,9] (fun h i=>∃k:Nat,k≤s.size∧i=.int .i64 k∧h=.int .u32 (fG (s.data.toList.take k))) (fun _ i=>s.size - (intOf i).toNat)
 case atStart=>exact⟨0,Nat.zero_le _,rfl,rfl⟩
 case round=>
  obtain⟨k,hk,rfl,rfl⟩:=hrel;have hd:=lW (s.data.toList.take k);by_cases bn:k<s.size
  · have HS:Hid (fG (s.data.toList.take (k+1))=lV (fG (s.data.toList.take k)) s[k].toNat):=by rw[xB s k bn]; exact sM _ _
    have nl:(Lib.bytesWorld w 5 s).cell? ⟨w.heap.size,k,none⟩=some (.int .u8 s[k].toNat):=by
     rw[Lib.bytesWorld_cell w 5 s k bn]; simp[List.getD,bn]; rfl
    bf;have hb:s[k].toNat<256:=s[k].toNat_lt;f_
    case rel=>
     refine⟨k+1,by omega,by aF,?_⟩
     rw[HS.out];refine yF ?_;rw[←Iw _ _ hd hb,IntKind.wrap_u32,Int.emod_eq_of_lt (a:=(s[k].toNat:Int)) (by omega) (by omega)]
    case measure=>simp[intOf]; omega
  · bf;an;exact⟨gZ (by rw[List.take_of_length_le (by simp; omega)]),lY _ _ _⟩
end hash
namespace aX
open Go Go.RowKit base aE
theorem uV(m:List Pr)(l:List Od)(k:Nat)(h:k<l.length):meets m (l.drop k)=(EB m l[k] && meets m (l.drop (k+1))):=by
 rw[List.drop_eq_getElem_cons h]; rfl
theorem re(key:ByteArray)(n:Int)(w:World)(hs:key.size≤maxLen)(hn:(Lit.int .i64 n).wf=true):
 Calls Tryz.prog 144 #[.string key,.int .i64 n] w fun e w'=>e=.returned (.int .i64 (bA key n))∧w'=w:=by
 have hH:=lW key.data.toList;have HC:=Hid.mk' (hash.FU key w hs);unfold bA;generalize fG key.data.toList=H at *;by_cases h1:n<1
 · rw[if_pos h1];aj Tryz.func144,Tryz.ntmps144;ab fail;an;exact⟨rfl,rfl⟩
 · rw[if_neg h1];have h2:Int.tmod (H:Int) n=(H:Int) % n:=Int.tmod_eq_emod_of_nonneg (by omega)
   have h3:0≤(H:Int) % n:=Int.emod_nonneg _ (by omega)
   have h4:(H:Int) % n≤4294967296:=by
    have h5:=Int.emod_add_ediv_mul (H:Int) n;have h6:0≤(H:Int) / n * n:=Int.mul_nonneg (Int.ediv_nonneg (by omega) (by omega)) (by omega)
    omega
   generalize(H:Int) % n=R at *;aj Tryz.func144,Tryz.ntmps144;ab fail;refine HC.out.mono ?_;rintro e w1 ⟨rfl,rfl⟩;ab fail;an;exact⟨rfl,rfl⟩
theorem kr(a:Option Addr)(len cap:Nat)(m:List Pr)(a2:Option Addr)(cK eC:Nat)(l:List Od)(w:World)(h:lL w a len m)(h2:dS w a2 cK l):
 Calls Tryz.prog 140 #[.slice a len cap,.slice a2 cK eC] w fun e w'=>e=.returned (.bool (meets m l))∧Below w.heap.size w w':=by
 have hl:=h2.1;have hm:=h2.2.1;subst hl;unfold maxLen at hm;generalize hR:meets m l=R;have HR:=Hid.mk' hR;clear hR;aj Tryz.func140,Tryz.ntmps140;ab fail;aN [5] (fun i wr=>∃k:Nat,k≤l.length∧i=.int .i64 (k:Int)∧meets m (l.drop k)=R∧Below w.heap.size w wr) (fun i _=>l.length - (intOf i).toNat)
 case atStart=>exact⟨0,Nat.zero_le _,rfl,HR.out,Below.refl _ _⟩
 case round=>
  obtain⟨k,hk,rfl,hr,hB⟩:=hrel;by_cases bn:k<l.length
  · obtain⟨b,off,ha,cZ⟩:=h2.2.2.2 (by omega)
    subst ha;have hS:=h2.below hB;obtain⟨c0,c1,c2⟩:=hS.cells k bn;have hP:=h.below hB;have cF:=uV m l k bn;rw[hr] at cF;have fZ:(k:Int)<(l.length:Int):=by omega
    unfold EB at cF;have HG:=Hid.mk' (Au a len cap m l[k].2.1 wr hP);generalize getKey l[k].2.1 m=G at *;have ir:=Hid.mk' cF;clear cF hr hS cZ hP;generalize l[k]=o at *;obtain⟨z,key,val⟩:=o;simp only[] at c0 c1 c2;by_cases hz:z=3
    · subst hz;cases G with
      | none=>
       simp only[r8] at HG;by_cases hv:val.size=0
       · have HF:Hid (meets m (l.drop (k+1))=R):=by show _=_; have:=ir.out; simp[hv] at this; exact this.symm
         obtain rfl:=size_empty hv;clear ir hv;ab fail;refine HG.out.mono ?_;rintro e w1 ⟨rfl,bL⟩;subst bL;ab fail;aA
         case rel=>exact⟨k+1,by omega,by aF,HF.out,by first | exact hB | exact hB.drew⟩
         case measure=>simp[intOf]; omega
       · have HF:Hid (R=false):=by show _=_; have:=ir.out; simpa[hv] using this
         obtain⟨hq,sL⟩:=j9 hv;clear ir hv;ab fail;refine HG.out.mono ?_;rintro e w1 ⟨rfl,bL⟩;subst bL;ab fail;an;exact⟨au HF.out.symm,by first | exact hB | exact hB.drew⟩
      | some v=>
       simp only[r8] at HG;by_cases hv:val.size=0
       · have HF:Hid (R=false):=by show _=_; have:=ir.out; simpa[hv] using this
         obtain rfl:=size_empty hv;clear ir hv;ab fail;refine HG.out.mono ?_;rintro e w1 ⟨rfl,bL⟩;subst bL;ab fail;an;exact⟨au HF.out.symm,by first | exact hB | exact hB.drew⟩
       · obtain⟨hq,sL⟩:=j9 hv;by_cases R3:v=val
         · have HF:Hid (meets m (l.drop (k+1))=R):=by show _=_; have:=ir.out; simp[hv,R3] at this; exact this.symm
           subst R3;clear ir hv;ab fail;refine HG.out.mono ?_;rintro e w1 ⟨rfl,bL⟩;subst bL;ab fail;aA
           case rel=>exact⟨k+1,by omega,by aF,HF.out,by first | exact hB | exact hB.drew⟩
           case measure=>simp[intOf]; omega
         · have HF:Hid (R=false):=by show _=_; have:=ir.out; simpa[hv,R3] using this
           have bh:=ef R3;clear ir hv R3;ab fail;refine HG.out.mono ?_;rintro e w1 ⟨rfl,bL⟩;subst bL;ab fail;an;exact⟨au HF.out.symm,by first | exact hB | exact hB.drew⟩
    · have HF:Hid (meets m (l.drop (k+1))=R):=by show _=_; have:=ir.out; simp[hz] at this; exact this.symm
      have hzz:(z==3)=false:=beq_eq_false_iff_ne.2 hz;clear ir hz;ab fail;aA
      case rel=>exact⟨k+1,by omega,by aF,HF.out,hB⟩
      case measure=>simp[intOf]; omega
  · have HF:Hid (R=true):=by show _=_; rw[←hr,List.drop_eq_nil_of_le (by omega)]; rfl
    clear hr;ab fail;an;exact⟨au HF.out.symm,hB⟩
end aX
end Go.Proofs.YtmibabclefgljaaGreat
