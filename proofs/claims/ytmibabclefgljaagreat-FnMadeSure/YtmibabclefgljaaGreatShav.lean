/- CoLay CoS -/
import Derived.Test.YtmibabclefgljaaGreatShau
import Derived.Test.YtmibabclefgljaaGreatShah
set_option linter.unusedVariables false
set_option linter.unusedSimpArgs false
set_option maxRecDepth 100000
set_option maxHeartbeats 1000000
namespace Go.Proofs.YtmibabclefgljaaGreat
namespace cos
open Go Go.RowKit base av aN lay kN
/-! ### pairs, orders, whole numbers -/
def R6:Rd Od:=both int (both str str)
theorem f_:Flat R6 (fun o=>[.int .i64 o.1,.string o.2.1,.string o.2.2]) dN:=iT aL (iT j_ j_)
def kc:Rd (List Od):=slice 121 R6
def pB:Rd (List Int):=slice 3 int
section
variable{w w':World}{a:Option Addr}{n cap:Nat}{F:List Nat}{v:Value}
theorem ik{l:List Od}:kc.own w [v] l F↔cD w 0 v l∧F=v.ownBlock.toList:=by
 unfold kc;rw[f_.slice];constructor
 · rintro⟨h1,h2,h3⟩;exact⟨⟨h2,h1⟩,h3⟩
 · rintro⟨⟨h1,h2⟩,h4⟩;exact⟨h2,h1,h4⟩
theorem kJ{l:List Od}:kc.eZ w [.slice a n cap] l↔dD w a n l∧n≤cap:=by
 constructor
 · rintro⟨a',n',c',e,hc,h1,h2,h3,h4⟩;cases e;refine⟨⟨h1,h2,fun p hp=>?_,fun h0=>?_⟩,hc⟩
   · obtain⟨vs,hv⟩:=h3 p hp;exact(f_.eZ.1 hv).2
   · obtain⟨b,off,e,hi⟩:=h4 h0;refine⟨b,off,e,fun i hl=>?_⟩
     obtain⟨vs,hs,cK⟩:=hi i hl;obtain⟨rfl,_⟩:=f_.eZ.1 hs;exact⟨cK 0 _ rfl,cK 1 _ rfl,cK 2 _ rfl⟩
 · rintro⟨⟨h1,h2,h3,h4⟩,hc⟩;refine⟨a,n,cap,rfl,hc,h1,h2,fun p hp=>⟨_,f_.eZ.2 ⟨rfl,h3 p hp⟩⟩,fun h0=>?_⟩
   obtain⟨b,off,e,hi⟩:=h4 h0;refine⟨b,off,e,fun i hl=>⟨_,f_.eZ.2 ⟨rfl,h3 _ (List.getElem_mem hl)⟩,fun j u hu=>?_⟩⟩
   obtain⟨c0,c1,c2⟩:=hi i hl
   match j,hu with
   | 0,hu=>cases hu; exact c0
   | 1,hu=>cases hu; exact c1
   | 2,hu=>cases hu; exact c2
def s6(w:World)(v:Value)(l:List Int):Prop:=(∀z∈l,(Lit.int .i64 z).wf=true)∧w.ownsRow 0 3 1 v l.length (aV l)
theorem zh(l:List Int):(l.flatMap fun x=>[Value.int .i64 x])=aV l:=by
 induction l with
 | nil=>rfl
 | cons x l ih=>simp only[List.flatMap_cons,ih]; rfl
theorem l7{l:List Int}:pB.own w [v] l F↔s6 w v l∧F=v.ownBlock.toList:=by
 unfold pB;rw[aL.slice,zh];constructor
 · rintro⟨h1,h2,h3⟩;exact⟨⟨h2,h1⟩,h3⟩
 · rintro⟨⟨h1,h2⟩,h4⟩;exact⟨h2,h1,h4⟩
theorem q9{l:List Int}:pB.eZ w [.slice a n cap] l↔(tz w a n l∧∀z∈l,(Lit.int .i64 z).wf=true)∧n≤cap:=by
 constructor
 · rintro⟨a',n',c',e,hc,h1,h2,h3,h4⟩;cases e;refine⟨⟨⟨h1,h2,fun h0=>?_⟩,fun p hp=>?_⟩,hc⟩
   · obtain⟨b,off,e,hi⟩:=h4 h0;refine⟨b,off,e,fun i hl=>?_⟩
     obtain⟨vs,hs,cK⟩:=hi i hl;obtain⟨rfl,_⟩:=aL.eZ.1 hs;have:=cK 0 _ rfl;simpa[int] using this
   · obtain⟨vs,hv⟩:=h3 p hp;exact(aL.eZ.1 hv).2
 · rintro⟨⟨⟨h1,h2,h4⟩,h3⟩,hc⟩;refine⟨a,n,cap,rfl,hc,h1,h2,fun p hp=>⟨_,aL.eZ.2 ⟨rfl,h3 p hp⟩⟩,fun h0=>?_⟩
   obtain⟨b,off,e,hi⟩:=h4 h0;refine⟨b,off,e,fun i hl=>⟨_,aL.eZ.2 ⟨rfl,h3 _ (List.getElem_mem hl)⟩,fun j u hu=>?_⟩⟩
   have c0:=hi i hl
   match j,hu with
   | 0,hu=>cases hu; simpa[int] using c0
end
/-! ### jobs and choices -/
def dU:Rd Jb:=both int (both kc (both int pB))
def kP:Rd (List Jb):=slice 75 dU
def q_:Rd Ch:=both int bool
def qd:Rd (List Ch):=slice 87 q_
theorem dH:Flat q_ (fun c=>[.int .i64 c.1,.bool c.2]) (fun c=>(Lit.int .i64 c.1).wf=true∧True):=iT aL oO
section
variable{w w':World}{a:Option Addr}{n cap:Nat}{F:List Nat}{v:Value}
theorem tU{vs:List Value}{j:Jb}:dU.eZ w vs j↔∃oa ol oc ya yl yc,vs=[.int .i64 j.1,.slice oa ol oc,.int .i64 j.2.2.1,.slice ya yl yc]∧(Lit.int .i64 j.1).wf=true∧(Lit.int .i64 j.2.2.1).wf=true∧(dD w oa ol j.2.1∧ol≤oc)∧(tz w ya yl j.2.2.2∧∀z∈j.2.2.2,(Lit.int .i64 z).wf=true)∧yl≤yc:=by
 constructor
 · rintro⟨us,ts,rfl,h1,Wj,Wk,rfl,h2,ZY,ZZ,rfl,h3,h4⟩;obtain⟨rfl,k1⟩:=aL.eZ.1 h1;obtain⟨rfl,k3⟩:=aL.eZ.1 h3;obtain⟨oa,ol,oc,rfl,_⟩:=id h2;obtain⟨ya,yl,yc,rfl,_⟩:=id h4;have h5:=kJ.1 h2;have h6:=q9.1 h4;exact⟨oa,ol,oc,ya,yl,yc,rfl,k1,k3,h5,h6.1,h6.2⟩
 · rintro⟨oa,ol,oc,ya,yl,yc,rfl,k1,k3,h5,h6,h7⟩;exact⟨[_],[_,_,_],rfl,aL.eZ.2 ⟨rfl,k1⟩,[_],[_,_],rfl,kJ.2 h5,[_],[_],rfl,aL.eZ.2 ⟨rfl,k3⟩,q9.2 ⟨h6,h7⟩⟩
theorem dI{vs:List Value}{j:Jb}:dU.own w vs j F↔∃x y,vs=[.int .i64 j.1,x,.int .i64 j.2.2.1,y]∧(Lit.int .i64 j.1).wf=true∧(Lit.int .i64 j.2.2.1).wf=true∧cD w 0 x j.2.1∧s6 w y j.2.2.2∧F=x.ownBlock.toList++y.ownBlock.toList∧F.Nodup:=by
 constructor
 · rintro⟨us,ts,F1,F2,rfl,rfl,h1,⟨Wj,Wk,F3,F4,rfl,rfl,h2,⟨ZY,ZZ,F5,F6,rfl,rfl,h3,h4,n3⟩,n2⟩,n1⟩;obtain⟨rfl,k1,rfl⟩:=aL.own.1 h1;obtain⟨rfl,k3,rfl⟩:=aL.own.1 h3;obtain⟨a1,c1,q1,rfl,_⟩:=lA h2;obtain⟨a2,c2,q2,rfl,_⟩:=lA h4;obtain⟨h5,rfl⟩:=ik.1 h2;obtain⟨h6,rfl⟩:=l7.1 h4;exact⟨_,_,rfl,k1,k3,h5,h6,rfl,n1⟩
 · rintro⟨x,y,rfl,k1,k3,h5,h6,rfl,hn⟩;have o9:=(aR hn).2.1;exact⟨[_],[x,_,y],[],_,rfl,rfl,aL.own.2 ⟨rfl,k1,rfl⟩,⟨[x],[_,y],_,_,rfl,rfl,ik.2 ⟨h5,rfl⟩,⟨[_],[y],[],_,rfl,rfl,aL.own.2 ⟨rfl,k3,rfl⟩,l7.2 ⟨h6,rfl⟩,o9⟩,hn⟩,hn⟩
theorem qe{b off len:Nat}{l:List Jb}(h:nc dU w (some ⟨b,off,none⟩) len l)(i:Nat)(hi:i<l.length):
 w.cell? ⟨b,off+i * 4,none⟩=some (.int .i64 l[i].1)∧w.cell? ⟨b,off+i * 4+2,none⟩=some (.int .i64 l[i].2.2.1)∧
  (∃oa ol oc,w.cell? ⟨b,off+i * 4+1,none⟩=some (.slice oa ol oc)∧dD w oa ol l[i].2.1∧ol≤oc)∧(∃ya yl yc,w.cell? ⟨b,off+i * 4+3,none⟩=some (.slice ya yl yc)∧tz w ya yl l[i].2.2.2∧yl≤yc):=by
 obtain⟨b',vY,e,hc⟩:=h.2.2.2 (by have:=h.1; omega)
 simp only[Option.some.injEq,Addr.mk.injEq,and_true] at e;obtain⟨rfl,rfl⟩:=e;obtain⟨vs,hs,cK⟩:=hc i hi;obtain⟨oa,ol,oc,ya,yl,yc,rfl,k1,k3,h5,h6,h7⟩:=tU.1 hs;exact⟨cK 0 _ rfl,cK 2 _ rfl,⟨oa,ol,oc,cK 1 _ rfl,h5.1,h5.2⟩,ya,yl,yc,cK 3 _ rfl,h6.1,h7⟩
theorem vf{b off len:Nat}{l:List Ch}(h:nc q_ w (some ⟨b,off,none⟩) len l)(i:Nat)(hi:i<l.length):w.cell? ⟨b,off+i * 2,none⟩=some (.int .i64 l[i].1)∧w.cell? ⟨b,off+i * 2+1,none⟩=some (.bool l[i].2):=by
 obtain⟨b',vY,e,hc⟩:=h.2.2.2 (by have:=h.1; omega)
 simp only[Option.some.injEq,Addr.mk.injEq,and_true] at e;obtain⟨rfl,rfl⟩:=e;obtain⟨vs,hs,cK⟩:=hc i hi;obtain⟨rfl,_⟩:=dH.eZ.1 hs;exact⟨cK 0 _ rfl,cK 1 _ rfl⟩
theorem fT{α:Type}{R:Rd α}{len:Nat}{l:List α}(h:nc R w a len l)(h0:0<len):∃b off,a=some ⟨b,off,none⟩:=by
 obtain⟨b,off,e,_⟩:=h.2.2.2 h0;exact⟨b,off,e⟩
end
/-! ### one who decides -/
def a7:Rd Co:=both int (both int (both int (both kP (both qd int))))
def oe(n ak next sure:Int)(ja:Option Addr)(jn jc:Nat)(la:Option Addr)(ln lc:Nat):List Value:=[.int .i64 n,.int .i64 ak,.int .i64 next,.slice ja jn jc,.slice la ln lc,.int .i64 sure]
structure kQ (w:World) (ja:Option Addr) (jn jc:Nat) (la:Option Addr) (ln lc:Nat) (c:Co):Prop where
 n:(Lit.int .i64 c.1).wf=true
 ak:(Lit.int .i64 c.2.1).wf=true
 next:(Lit.int .i64 c.2.2.1).wf=true
 sure:(Lit.int .i64 c.2.2.2.2.2).wf=true
 jobs:nc dU w ja jn c.2.2.2.1
 log:nc q_ w la ln c.2.2.2.2.1
 jc:jn≤jc
 lc:ln≤lc
section
variable{w w':World}{ja:Option Addr}{jn jc:Nat}{la:Option Addr}{ln lc:Nat}{c:Co}{vs:List Value}{F:List Nat}
theorem kQ.below(h:kQ w ja jn jc la ln lc c)(hb:Below w.heap.size w w'):kQ w' ja jn jc la ln lc c:=⟨h.n,h.ak,h.next,h.sure,h.jobs.below hb,h.log.below hb,h.jc,h.lc⟩
theorem xM:a7.eZ w vs c↔∃ja jn jc la ln lc,vs=oe c.1 c.2.1 c.2.2.1 c.2.2.2.2.2 ja jn jc la ln lc∧kQ w ja jn jc la ln lc c:=by
 constructor
 · rintro⟨u1,t1,rfl,h1,u2,t2,rfl,h2,u3,t3,rfl,h3,u4,t4,rfl,h4,u5,t5,rfl,h5,h6⟩;obtain⟨rfl,k1⟩:=aL.eZ.1 h1;obtain⟨rfl,k2⟩:=aL.eZ.1 h2;obtain⟨rfl,k3⟩:=aL.eZ.1 h3;obtain⟨rfl,k6⟩:=aL.eZ.1 h6;obtain⟨ja,jn,jc,rfl,j1,j2⟩:=h4;obtain⟨la,ln,lc,rfl,l1,l2⟩:=h5;exact⟨ja,jn,jc,la,ln,lc,rfl,k1,k2,k3,k6,j2,l2,j1,l1⟩
 · rintro⟨ja,jn,jc,la,ln,lc,rfl,h⟩;exact⟨[_],[_,_,_,_,_],rfl,aL.eZ.2 ⟨rfl,h.n⟩,[_],[_,_,_,_],rfl,aL.eZ.2 ⟨rfl,h.ak⟩,[_],[_,_,_],rfl,aL.eZ.2 ⟨rfl,h.next⟩,[_],[_,_],rfl,⟨_,_,_,rfl,h.jc,h.jobs⟩,[_],[_],rfl,⟨_,_,_,rfl,h.lc,h.log⟩,aL.eZ.2 ⟨rfl,h.sure⟩⟩
end
end cos
namespace cos
open Go Go.RowKit base av aN lay kN
abbrev Gs(n ak next sure:Int)(ja:Option Addr)(jn jc:Nat)(la:Option Addr)(ln lc:Nat):Value:=.agg #[.int .i64 n,.int .i64 ak,.int .i64 next,.slice ja jn jc,.slice la ln lc,.int .i64 sure]
abbrev kr(n ak next sure:Int)(ja:Option Addr)(jn jc:Nat)(la:Option Addr)(ln lc:Nat):Obj:=.cells #[.int .i64 n,.int .i64 ak,.int .i64 next,.slice ja jn jc,.slice la ln lc,.int .i64 sure] 28
def fh(X:Nat)(n ak next sure:Int)(ja:Option Addr)(jn jc:Nat)(la:Option Addr)(ln lc:Nat)(w:World):Prop:=w.heap[X]? =some (.cells #[.int .i64 n,.int .i64 ak,.int .i64 next,.slice ja jn jc,.slice la ln lc,.int .i64 sure] 28 (0,0))
section
variable{X:Nat}{n ak next sure:Int}{ja:Option Addr}{jn jc:Nat}{la:Option Addr}{ln lc:Nat}{w w':World}
theorem eo(w:World)(n ak next sure:Int)(ja:Option Addr)(jn jc:Nat)(la:Option Addr)(ln lc:Nat):fh w.heap.size n ak next sure ja jn jc la ln lc (w.alloc (kr n ak next sure ja jn jc la ln lc)):=heap_alloc_new w _
theorem fh.cells(h:fh X n ak next sure ja jn jc la ln lc w):w.cell? ⟨X,0,none⟩=some (.int .i64 n)∧w.cell? ⟨X,1,none⟩=some (.int .i64 ak)∧w.cell? ⟨X,2,none⟩=some (.int .i64 next)∧w.cell? ⟨X,3,none⟩=some (.slice ja jn jc)∧w.cell? ⟨X,4,none⟩=some (.slice la ln lc)∧w.cell? ⟨X,5,none⟩=some (.int .i64 sure):=by
 unfold fh at h;simp[World.cell?,h]
theorem fh.lt(h:fh X n ak next sure ja jn jc la ln lc w):X<w.heap.size:=(Array.getElem?_eq_some_iff.1 h).1
theorem fh.below(h:fh X n ak next sure ja jn jc la ln lc w)(hb:Below w.heap.size w w'):fh X n ak next sure ja jn jc la ln lc w':=(hb.block X h.lt).trans h
theorem fh.grown{row:Option Nat}(h:fh X n ak next sure ja jn jc la ln lc w)(hg:w.grownBy w' row)(aW:some X≠row):fh X n ak next sure ja jn jc la ln lc w':=(hg.block X h.lt aW).trans h
theorem fh.fz(h:fh X n ak next sure ja jn jc la ln lc w)(j:Nat):w.frozen? ⟨X,j,none⟩=false:=by unfold fh at h; simp[World.frozen?,h]
end
theorem aS(w:World)(o:Obj):Below w.heap.size w (w.alloc o):=(Below.refl _ _).alloc (Nat.le_refl _) _
theorem re(k:Nat):idx (some k)=(k:Int):=rfl
theorem rf:idx none= -1:=rfl
theorem og(n ak next sure:Int)(ja:Option Addr)(jn jc:Nat)(la:Option Addr)(ln lc:Nat)(log:List Ch)(tx:Int)(w:World)(h:nc q_ w la ln log):
 Calls Tryz.prog 66 #[Gs n ak next sure ja jn jc la ln lc,.int .i64 tx] w fun e w'=>e=.returned (.int .i64 (idx (fe log tx)))∧w'=w.alloc (kr n ak next sure ja jn jc la ln lc):=by
 have hl:=h.1;have hm:=h.2.1;unfold maxLen at hm;have hb:=aS w (kr n ak next sure ja jn jc la ln lc);have bt:=eo w n ak next sure ja jn jc la ln lc;have hS:=h.below hb;obtain⟨W,hW⟩:∃W,w.alloc (kr n ak next sure ja jn jc la ln lc)=W:=⟨_,rfl⟩;rw[hW] at bt hS;have HW:=Hid.mk' hW;obtain⟨c0,c1,c2,c3,c4,c5⟩:=bt.cells;clear h hb hW;rw[HW.out];go_enter Tryz.func66,Tryz.ntmps66;go_wp2_with fail;rw[HW.out];go_loopw [5] (fun i wr=>∃k:Nat,k≤ln∧i=.int .i64 (k:Int)∧wr=W∧∀j (hj:j<k) (eL:j<log.length),log[j].1≠tx) (fun i _=>ln - (intOf i).toNat)
 case atStart=>exact⟨0,Nat.zero_le _,rfl,rfl,fun j hj=>absurd hj (by omega)⟩
 case round=>
  obtain⟨k,hk,rfl,sS,iD⟩:=hrel;replace sS:=sS.symm;subst sS;have gv:=Hid.mk' iD;clear iD;by_cases a6:k<ln
  · have ck:k<log.length:=by omega
    obtain⟨b,off,e⟩:=fT hS (by omega)
    subst e;have fL:(k:Int)<(ln:Int):=by omega
    have fl:=(vf hS k ck).1;by_cases ht:log[k].1=tx
    · have HF:Hid (idx (fe log tx)=(k:Int)):=by
       show _=_;rw[show fe log tx=some k from kO ck (fun i hi=>decide_eq_false (gv.out i hi (by omega))) (decide_eq_true ht)]
       rfl
      rw[ht] at fl;clear ht gv;go_wp2_with fail;go_ret;exact⟨gJ HF.out.symm,rfl⟩
    · have HN:Hid (∀j (hj:j<k+1) (eL:j<log.length),log[j].1≠tx):=fun j hj eL=>by
       rcases Nat.lt_succ_iff_lt_or_eq.1 hj with e | e
       · exact gv.out j e eL
       · subst e; exact ht
      generalize log[k].1=PL at *;have Z0:(PL==tx)=false:=beq_eq_false_iff_ne.2 ht;clear gv;go_wp2_with fail;go_roundw
      case rel=>exact⟨k+1,by omega,by go_num,by first | rfl | trivial,HN.out⟩
      case measure=>simp[intOf]; omega
  · have CF:¬(k:Int)<(ln:Int):=by omega
    have HF:Hid (idx (fe log tx)= -1):=by
     show _=_;rw[show fe log tx=none from mK (fun i hi=>decide_eq_false (gv.out i (by omega) hi))]
     rfl
    clear gv;go_wp2_with fail;go_ret;exact⟨gJ HF.out.symm,rfl⟩
theorem DM(n ak next sure:Int)(ja:Option Addr)(jn jc:Nat)(la:Option Addr)(ln lc:Nat)(jobs:List Jb)(tx:Int)(w:World)(h:nc dU w ja jn jobs):
 Calls Tryz.prog 164 #[Gs n ak next sure ja jn jc la ln lc,.int .i64 tx] w fun e w'=>e=.returned (.int .i64 (idx (pH jobs tx)))∧w'=w.alloc (kr n ak next sure ja jn jc la ln lc):=by
 have hl:=h.1;have hm:=h.2.1;unfold maxLen at hm;have hb:=aS w (kr n ak next sure ja jn jc la ln lc);have bt:=eo w n ak next sure ja jn jc la ln lc;have hS:=h.below hb;obtain⟨W,hW⟩:∃W,w.alloc (kr n ak next sure ja jn jc la ln lc)=W:=⟨_,rfl⟩;rw[hW] at bt hS;have HW:=Hid.mk' hW;obtain⟨c0,c1,c2,c3,c4,c5⟩:=bt.cells;clear h hb hW;rw[HW.out];go_enter Tryz.func164,Tryz.ntmps164;go_wp2_with fail;rw[HW.out];go_loopw [5] (fun i wr=>∃k:Nat,k≤jn∧i=.int .i64 (k:Int)∧wr=W∧∀j (hj:j<k) (eL:j<jobs.length),jobs[j].1≠tx) (fun i _=>jn - (intOf i).toNat)
 case atStart=>exact⟨0,Nat.zero_le _,rfl,rfl,fun j hj=>absurd hj (by omega)⟩
 case round=>
  obtain⟨k,hk,rfl,sS,iD⟩:=hrel;replace sS:=sS.symm;subst sS;have gv:=Hid.mk' iD;clear iD;by_cases a6:k<jn
  · have ck:k<jobs.length:=by omega
    obtain⟨b,off,e⟩:=fT hS (by omega)
    subst e;have fL:(k:Int)<(jn:Int):=by omega
    have fl:=(qe hS k ck).1;by_cases ht:jobs[k].1=tx
    · have HF:Hid (idx (pH jobs tx)=(k:Int)):=by
       show _=_;rw[show pH jobs tx=some k from kO ck (fun i hi=>decide_eq_false (gv.out i hi (by omega))) (decide_eq_true ht)]
       rfl
      rw[ht] at fl;clear ht gv;go_wp2_with fail;go_ret;exact⟨gJ HF.out.symm,rfl⟩
    · have HN:Hid (∀j (hj:j<k+1) (eL:j<jobs.length),jobs[j].1≠tx):=fun j hj eL=>by
       rcases Nat.lt_succ_iff_lt_or_eq.1 hj with e | e
       · exact gv.out j e eL
       · subst e; exact ht
      generalize jobs[k].1=PL at *;have Z0:(PL==tx)=false:=beq_eq_false_iff_ne.2 ht;clear gv;go_wp2_with fail;go_roundw
      case rel=>exact⟨k+1,by omega,by go_num,by first | rfl | trivial,HN.out⟩
      case measure=>simp[intOf]; omega
  · have CF:¬(k:Int)<(jn:Int):=by omega
    have HF:Hid (idx (pH jobs tx)= -1):=by
     show _=_;rw[show pH jobs tx=none from mK (fun i hi=>decide_eq_false (gv.out i (by omega) hi))]
     rfl
    clear gv;go_wp2_with fail;go_ret;exact⟨gJ HF.out.symm,rfl⟩
end cos
end Go.Proofs.YtmibabclefgljaaGreat
