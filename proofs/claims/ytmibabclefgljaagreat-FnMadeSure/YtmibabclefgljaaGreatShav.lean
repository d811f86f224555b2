/- CoLay CoS -/
import Derived.Test.YtmibabclefgljaaGreatShau
import Derived.Test.YtmibabclefgljaaGreatShah
set_option linter.unusedVariables false
set_option linter.unusedSimpArgs false
set_option maxRecDepth 100000
set_option maxHeartbeats 1000000
namespace Go.Proofs.YtmibabclefgljaaGreat
namespace cos
open Go Go.RowKit base aE aX lay lh
/-! ### pairs, orders, whole numbers -/
def Sf:Rd Od:=both int (both str str)
theorem gF:Flat Sf (fun o=>[.int .i64 o.1,.string o.2.1,.string o.2.2]) ed:=jm aV (jm kA kA)
def kB:Rd (List Od):=slice 121 Sf
def pU:Rd (List Int):=slice 3 int
section
variable{w w':World}{a:Option Addr}{n cap:Nat}{F:List Nat}{v:Value}
theorem iG{l:List Od}:kB.own w [v] l F↔cS w 0 v l∧F=v.ownBlock.toList:=by
 unfold kB;rw[gF.slice];constructor
 · rintro⟨h1,h2,h3⟩;exact⟨⟨h2,h1⟩,h3⟩
 · rintro⟨⟨h1,h2⟩,h4⟩;exact⟨h2,h1,h4⟩
theorem k8{l:List Od}:kB.fo w [.slice a n cap] l↔dS w a n l∧n≤cap:=by
 constructor
 · rintro⟨a',n',c',e,hc,h1,h2,h3,h4⟩;cases e;refine⟨⟨h1,h2,fun p hp=>?_,fun h0=>?_⟩,hc⟩
   · obtain⟨vs,hv⟩:=h3 p hp;exact(gF.fo.1 hv).2
   · obtain⟨b,off,e,hi⟩:=h4 h0;refine⟨b,off,e,fun i hl=>?_⟩
     obtain⟨vs,hs,cZ⟩:=hi i hl;obtain⟨rfl,_⟩:=gF.fo.1 hs;exact⟨cZ 0 _ rfl,cZ 1 _ rfl,cZ 2 _ rfl⟩
 · rintro⟨⟨h1,h2,h3,h4⟩,hc⟩;refine⟨a,n,cap,rfl,hc,h1,h2,fun p hp=>⟨_,gF.fo.2 ⟨rfl,h3 p hp⟩⟩,fun h0=>?_⟩
   obtain⟨b,off,e,hi⟩:=h4 h0;refine⟨b,off,e,fun i hl=>⟨_,gF.fo.2 ⟨rfl,h3 _ (List.getElem_mem hl)⟩,fun j u hu=>?_⟩⟩
   obtain⟨c0,c1,c2⟩:=hi i hl
   match j,hu with
   | 0,hu=>cases hu; exact c0
   | 1,hu=>cases hu; exact c1
   | 2,hu=>cases hu; exact c2
def tt(w:World)(v:Value)(l:List Int):Prop:=(∀z∈l,(Lit.int .i64 z).wf=true)∧w.ownsRow 0 3 1 v l.length (bg l)
theorem zC(l:List Int):(l.flatMap fun x=>[Value.int .i64 x])=bg l:=by
 induction l with
 | nil=>rfl
 | cons x l ih=>simp only[List.flatMap_cons,ih]; rfl
theorem mz{l:List Int}:pU.own w [v] l F↔tt w v l∧F=v.ownBlock.toList:=by
 unfold pU;rw[aV.slice,zC];constructor
 · rintro⟨h1,h2,h3⟩;exact⟨⟨h2,h1⟩,h3⟩
 · rintro⟨⟨h1,h2⟩,h4⟩;exact⟨h2,h1,h4⟩
theorem rE{l:List Int}:pU.fo w [.slice a n cap] l↔(tS w a n l∧∀z∈l,(Lit.int .i64 z).wf=true)∧n≤cap:=by
 constructor
 · rintro⟨a',n',c',e,hc,h1,h2,h3,h4⟩;cases e;refine⟨⟨⟨h1,h2,fun h0=>?_⟩,fun p hp=>?_⟩,hc⟩
   · obtain⟨b,off,e,hi⟩:=h4 h0;refine⟨b,off,e,fun i hl=>?_⟩
     obtain⟨vs,hs,cZ⟩:=hi i hl;obtain⟨rfl,_⟩:=aV.fo.1 hs;have:=cZ 0 _ rfl;simpa[int] using this
   · obtain⟨vs,hv⟩:=h3 p hp;exact(aV.fo.1 hv).2
 · rintro⟨⟨⟨h1,h2,h4⟩,h3⟩,hc⟩;refine⟨a,n,cap,rfl,hc,h1,h2,fun p hp=>⟨_,aV.fo.2 ⟨rfl,h3 p hp⟩⟩,fun h0=>?_⟩
   obtain⟨b,off,e,hi⟩:=h4 h0;refine⟨b,off,e,fun i hl=>⟨_,aV.fo.2 ⟨rfl,h3 _ (List.getElem_mem hl)⟩,fun j u hu=>?_⟩⟩
   have c0:=hi i hl
   match j,hu with
   | 0,hu=>cases hu; simpa[int] using c0
end
/-! ### jobs and choices -/
def ek:Rd Jb:=both int (both kB (both int pU))
def lk:Rd (List Jb):=slice 75 ek
def rG:Rd Ch:=both int bool
def qA:Rd (List Ch):=slice 87 rG
theorem dW:Flat rG (fun c=>[.int .i64 c.1,.bool c.2]) (fun c=>(Lit.int .i64 c.1).wf=true∧True):=jm aV pj
section
variable{w w':World}{a:Option Addr}{n cap:Nat}{F:List Nat}{v:Value}
theorem uo{vs:List Value}{j:Jb}:ek.fo w vs j↔∃oa ol oc ya yl yc,vs=[.int .i64 j.1,.slice oa ol oc,.int .i64 j.2.2.1,.slice ya yl yc]∧(Lit.int .i64 j.1).wf=true∧(Lit.int .i64 j.2.2.1).wf=true∧(dS w oa ol j.2.1∧ol≤oc)∧(tS w ya yl j.2.2.2∧∀z∈j.2.2.2,(Lit.int .i64 z).wf=true)∧yl≤yc:=by
 constructor
 · rintro⟨us,ts,rfl,h1,Ww,Wx,rfl,h2,us3,ts3,rfl,h3,h4⟩;obtain⟨rfl,k1⟩:=aV.fo.1 h1;obtain⟨rfl,k3⟩:=aV.fo.1 h3;obtain⟨oa,ol,oc,rfl,_⟩:=id h2;obtain⟨ya,yl,yc,rfl,_⟩:=id h4;have h5:=k8.1 h2;have h6:=rE.1 h4;exact⟨oa,ol,oc,ya,yl,yc,rfl,k1,k3,h5,h6.1,h6.2⟩
 · rintro⟨oa,ol,oc,ya,yl,yc,rfl,k1,k3,h5,h6,h7⟩;exact⟨[_],[_,_,_],rfl,aV.fo.2 ⟨rfl,k1⟩,[_],[_,_],rfl,k8.2 h5,[_],[_],rfl,aV.fo.2 ⟨rfl,k3⟩,rE.2 ⟨h6,h7⟩⟩
theorem dX{vs:List Value}{j:Jb}:ek.own w vs j F↔∃x y,vs=[.int .i64 j.1,x,.int .i64 j.2.2.1,y]∧(Lit.int .i64 j.1).wf=true∧(Lit.int .i64 j.2.2.1).wf=true∧cS w 0 x j.2.1∧tt w y j.2.2.2∧F=x.ownBlock.toList++y.ownBlock.toList∧F.Nodup:=by
 constructor
 · rintro⟨us,ts,F1,F2,rfl,rfl,h1,⟨Ww,Wx,F3,F4,rfl,rfl,h2,⟨us3,ts3,F5,F6,rfl,rfl,h3,h4,n3⟩,n2⟩,n1⟩;obtain⟨rfl,k1,rfl⟩:=aV.own.1 h1;obtain⟨rfl,k3,rfl⟩:=aV.own.1 h3;obtain⟨a1,c1,q1,rfl,_⟩:=lS h2;obtain⟨a2,c2,q2,rfl,_⟩:=lS h4;obtain⟨h5,rfl⟩:=iG.1 h2;obtain⟨h6,rfl⟩:=mz.1 h4;exact⟨_,_,rfl,k1,k3,h5,h6,rfl,n1⟩
 · rintro⟨x,y,rfl,k1,k3,h5,h6,rfl,hn⟩;have pE:=(a7 hn).2.1;exact⟨[_],[x,_,y],[],_,rfl,rfl,aV.own.2 ⟨rfl,k1,rfl⟩,⟨[x],[_,y],_,_,rfl,rfl,iG.2 ⟨h5,rfl⟩,⟨[_],[y],[],_,rfl,rfl,aV.own.2 ⟨rfl,k3,rfl⟩,mz.2 ⟨h6,rfl⟩,pE⟩,hn⟩,hn⟩
theorem qB{b off len:Nat}{l:List Jb}(h:nE ek w (some ⟨b,off,none⟩) len l)(i:Nat)(hi:i<l.length):
 w.cell? ⟨b,off+i * 4,none⟩=some (.int .i64 l[i].1)∧w.cell? ⟨b,off+i * 4+2,none⟩=some (.int .i64 l[i].2.2.1)∧
  (∃oa ol oc,w.cell? ⟨b,off+i * 4+1,none⟩=some (.slice oa ol oc)∧dS w oa ol l[i].2.1∧ol≤oc)∧(∃ya yl yc,w.cell? ⟨b,off+i * 4+3,none⟩=some (.slice ya yl yc)∧tS w ya yl l[i].2.2.2∧yl≤yc):=by
 obtain⟨b',wJ,e,hc⟩:=h.2.2.2 (by have:=h.1; omega)
 simp only[Option.some.injEq,Addr.mk.injEq,and_true] at e;obtain⟨rfl,rfl⟩:=e;obtain⟨vs,hs,cZ⟩:=hc i hi;obtain⟨oa,ol,oc,ya,yl,yc,rfl,k1,k3,h5,h6,h7⟩:=uo.1 hs;exact⟨cZ 0 _ rfl,cZ 2 _ rfl,⟨oa,ol,oc,cZ 1 _ rfl,h5.1,h5.2⟩,ya,yl,yc,cZ 3 _ rfl,h6.1,h7⟩
theorem vG{b off len:Nat}{l:List Ch}(h:nE rG w (some ⟨b,off,none⟩) len l)(i:Nat)(hi:i<l.length):w.cell? ⟨b,off+i * 2,none⟩=some (.int .i64 l[i].1)∧w.cell? ⟨b,off+i * 2+1,none⟩=some (.bool l[i].2):=by
 obtain⟨b',wJ,e,hc⟩:=h.2.2.2 (by have:=h.1; omega)
 simp only[Option.some.injEq,Addr.mk.injEq,and_true] at e;obtain⟨rfl,rfl⟩:=e;obtain⟨vs,hs,cZ⟩:=hc i hi;obtain⟨rfl,_⟩:=dW.fo.1 hs;exact⟨cZ 0 _ rfl,cZ 1 _ rfl⟩
theorem gq{α:Type}{R:Rd α}{len:Nat}{l:List α}(h:nE R w a len l)(h0:0<len):∃b off,a=some ⟨b,off,none⟩:=by
 obtain⟨b,off,e,_⟩:=h.2.2.2 h0;exact⟨b,off,e⟩
end
/-! ### one who decides -/
def bp:Rd Co:=both int (both int (both int (both lk (both qA int))))
def oI(n av next sure:Int)(ja:Option Addr)(jn jc:Nat)(la:Option Addr)(ln lc:Nat):List Value:=[.int .i64 n,.int .i64 av,.int .i64 next,.slice ja jn jc,.slice la ln lc,.int .i64 sure]
structure ll (w:World) (ja:Option Addr) (jn jc:Nat) (la:Option Addr) (ln lc:Nat) (c:Co):Prop where
 n:(Lit.int .i64 c.1).wf=true
 av:(Lit.int .i64 c.2.1).wf=true
 next:(Lit.int .i64 c.2.2.1).wf=true
 sure:(Lit.int .i64 c.2.2.2.2.2).wf=true
 jobs:nE ek w ja jn c.2.2.2.1
 log:nE rG w la ln c.2.2.2.2.1
 jc:jn≤jc
 lc:ln≤lc
section
variable{w w':World}{ja:Option Addr}{jn jc:Nat}{la:Option Addr}{ln lc:Nat}{c:Co}{vs:List Value}{F:List Nat}
theorem ll.below(h:ll w ja jn jc la ln lc c)(hb:Below w.heap.size w w'):ll w' ja jn jc la ln lc c:=⟨h.n,h.av,h.next,h.sure,h.jobs.below hb,h.log.below hb,h.jc,h.lc⟩
theorem yd:bp.fo w vs c↔∃ja jn jc la ln lc,vs=oI c.1 c.2.1 c.2.2.1 c.2.2.2.2.2 ja jn jc la ln lc∧ll w ja jn jc la ln lc c:=by
 constructor
 · rintro⟨u1,t1,rfl,h1,u2,t2,rfl,h2,u3,t3,rfl,h3,u4,t4,rfl,h4,u5,t5,rfl,h5,h6⟩;obtain⟨rfl,k1⟩:=aV.fo.1 h1;obtain⟨rfl,k2⟩:=aV.fo.1 h2;obtain⟨rfl,k3⟩:=aV.fo.1 h3;obtain⟨rfl,k6⟩:=aV.fo.1 h6;obtain⟨ja,jn,jc,rfl,j1,j2⟩:=h4;obtain⟨la,ln,lc,rfl,l1,l2⟩:=h5;exact⟨ja,jn,jc,la,ln,lc,rfl,k1,k2,k3,k6,j2,l2,j1,l1⟩
 · rintro⟨ja,jn,jc,la,ln,lc,rfl,h⟩;exact⟨[_],[_,_,_,_,_],rfl,aV.fo.2 ⟨rfl,h.n⟩,[_],[_,_,_,_],rfl,aV.fo.2 ⟨rfl,h.av⟩,[_],[_,_,_],rfl,aV.fo.2 ⟨rfl,h.next⟩,[_],[_,_],rfl,⟨_,_,_,rfl,h.jc,h.jobs⟩,[_],[_],rfl,⟨_,_,_,rfl,h.lc,h.log⟩,aV.fo.2 ⟨rfl,h.sure⟩⟩
end
end cos
namespace cos
open Go Go.RowKit base aE aX lay lh
abbrev GI(n av next sure:Int)(ja:Option Addr)(jn jc:Nat)(la:Option Addr)(ln lc:Nat):Value:=.agg #[.int .i64 n,.int .i64 av,.int .i64 next,.slice ja jn jc,.slice la ln lc,.int .i64 sure]
abbrev kM(n av next sure:Int)(ja:Option Addr)(jn jc:Nat)(la:Option Addr)(ln lc:Nat):Obj:=.cells #[.int .i64 n,.int .i64 av,.int .i64 next,.slice ja jn jc,.slice la ln lc,.int .i64 sure] 28
def fB(X:Nat)(n av next sure:Int)(ja:Option Addr)(jn jc:Nat)(la:Option Addr)(ln lc:Nat)(w:World):Prop:=w.heap[X]? =some (.cells #[.int .i64 n,.int .i64 av,.int .i64 next,.slice ja jn jc,.slice la ln lc,.int .i64 sure] 28 (0,0))
section
variable{X:Nat}{n av next sure:Int}{ja:Option Addr}{jn jc:Nat}{la:Option Addr}{ln lc:Nat}{w w':World}
theorem eI(w:World)(n av next sure:Int)(ja:Option Addr)(jn jc:Nat)(la:Option Addr)(ln lc:Nat):fB w.heap.size n av next sure ja jn jc la ln lc (w.alloc (kM n av next sure ja jn jc la ln lc)):=heap_alloc_new w _
theorem fB.cells(h:fB X n av next sure ja jn jc la ln lc w):w.cell? ⟨X,0,none⟩=some (.int .i64 n)∧w.cell? ⟨X,1,none⟩=some (.int .i64 av)∧w.cell? ⟨X,2,none⟩=some (.int .i64 next)∧w.cell? ⟨X,3,none⟩=some (.slice ja jn jc)∧w.cell? ⟨X,4,none⟩=some (.slice la ln lc)∧w.cell? ⟨X,5,none⟩=some (.int .i64 sure):=by
 unfold fB at h;simp[World.cell?,h]
theorem fB.lt(h:fB X n av next sure ja jn jc la ln lc w):X<w.heap.size:=(Array.getElem?_eq_some_iff.1 h).1
theorem fB.below(h:fB X n av next sure ja jn jc la ln lc w)(hb:Below w.heap.size w w'):fB X n av next sure ja jn jc la ln lc w':=(hb.block X h.lt).trans h
theorem fB.grown{row:Option Nat}(h:fB X n av next sure ja jn jc la ln lc w)(hg:w.grownBy w' row)(bh:some X≠row):fB X n av next sure ja jn jc la ln lc w':=(hg.block X h.lt bh).trans h
theorem fB.fz(h:fB X n av next sure ja jn jc la ln lc w)(j:Nat):w.frozen? ⟨X,j,none⟩=false:=by unfold fB at h; simp[World.frozen?,h]
end
theorem a8(w:World)(o:Obj):Below w.heap.size w (w.alloc o):=(Below.refl _ _).alloc (Nat.le_refl _) _
theorem rH(k:Nat):idx (some k)=(k:Int):=rfl
theorem rI:idx none= -1:=rfl
theorem oJ(n av next sure:Int)(ja:Option Addr)(jn jc:Nat)(la:Option Addr)(ln lc:Nat)(log:List Ch)(tx:Int)(w:World)(h:nE rG w la ln log):
 Calls Tryz.prog 66 #[GI n av next sure ja jn jc la ln lc,.int .i64 tx] w fun e w'=>e=.returned (.int .i64 (idx (fx log tx)))∧w'=w.alloc (kM n av next sure ja jn jc la ln lc):=by
 have hl:=h.1;have hm:=h.2.1;unfold maxLen at hm;have hb:=a8 w (kM n av next sure ja jn jc la ln lc);have bI:=eI w n av next sure ja jn jc la ln lc;have hS:=h.below hb;obtain⟨W,hW⟩:∃W,w.alloc (kM n av next sure ja jn jc la ln lc)=W:=⟨_,rfl⟩;rw[hW] at bI hS;have HW:=Hid.mk' hW;obtain⟨c0,c1,c2,c3,c4,c5⟩:=bI.cells;clear h hb hW;rw[HW.out];aj Tryz.func66,Tryz.ntmps66;ab fail;rw[HW.out];aN [5] (fun i wr=>∃k:Nat,k≤ln∧i=.int .i64 (k:Int)∧wr=W∧∀j (hj:j<k) (e7:j<log.length),log[j].1≠tx) (fun i _=>ln - (intOf i).toNat)
 case atStart=>exact⟨0,Nat.zero_le _,rfl,rfl,fun j hj=>absurd hj (by omega)⟩
 case round=>
  obtain⟨k,hk,rfl,tj,iT⟩:=hrel;replace tj:=tj.symm;subst tj;have gP:=Hid.mk' iT;clear iT;by_cases bn:k<ln
  · have cJ:k<log.length:=by omega
    obtain⟨b,off,e⟩:=gq hS (by omega)
    subst e;have fZ:(k:Int)<(ln:Int):=by omega
    have fF:=(vG hS k cJ).1;by_cases ht:log[k].1=tx
    · have HF:Hid (idx (fx log tx)=(k:Int)):=by
       show _=_;rw[show fx log tx=some k from lj cJ (fun i hi=>decide_eq_false (gP.out i hi (by omega))) (decide_eq_true ht)]
       rfl
      rw[ht] at fF;clear ht gP;ab fail;an;exact⟨gZ HF.out.symm,rfl⟩
    · have HN:Hid (∀j (hj:j<k+1) (e7:j<log.length),log[j].1≠tx):=fun j hj e7=>by
       rcases Nat.lt_succ_iff_lt_or_eq.1 hj with e | e
       · exact gP.out j e e7
       · subst e; exact ht
      generalize log[k].1=PV at *;have htb:(PV==tx)=false:=beq_eq_false_iff_ne.2 ht;clear gP;ab fail;aA
      case rel=>exact⟨k+1,by omega,by aF,by first | rfl | trivial,HN.out⟩
      case measure=>simp[intOf]; omega
  · have CU:¬(k:Int)<(ln:Int):=by omega
    have HF:Hid (idx (fx log tx)= -1):=by
     show _=_;rw[show fx log tx=none from m6 (fun i hi=>decide_eq_false (gP.out i (by omega) hi))]
     rfl
    clear gP;ab fail;an;exact⟨gZ HF.out.symm,rfl⟩
theorem D4(n av next sure:Int)(ja:Option Addr)(jn jc:Nat)(la:Option Addr)(ln lc:Nat)(jobs:List Jb)(tx:Int)(w:World)(h:nE ek w ja jn jobs):
 Calls Tryz.prog 164 #[GI n av next sure ja jn jc la ln lc,.int .i64 tx] w fun e w'=>e=.returned (.int .i64 (idx (p5 jobs tx)))∧w'=w.alloc (kM n av next sure ja jn jc la ln lc):=by
 have hl:=h.1;have hm:=h.2.1;unfold maxLen at hm;have hb:=a8 w (kM n av next sure ja jn jc la ln lc);have bI:=eI w n av next sure ja jn jc la ln lc;have hS:=h.below hb;obtain⟨W,hW⟩:∃W,w.alloc (kM n av next sure ja jn jc la ln lc)=W:=⟨_,rfl⟩;rw[hW] at bI hS;have HW:=Hid.mk' hW;obtain⟨c0,c1,c2,c3,c4,c5⟩:=bI.cells;clear h hb hW;rw[HW.out];aj Tryz.func164,Tryz.ntmps164;ab fail;rw[HW.out];aN [5] (fun i wr=>∃k:Nat,k≤jn∧i=.int .i64 (k:Int)∧wr=W∧∀j (hj:j<k) (e7:j<jobs.length),jobs[j].1≠tx) (fun i _=>jn - (intOf i).toNat)
 case atStart=>exact⟨0,Nat.zero_le _,rfl,rfl,fun j hj=>absurd hj (by omega)⟩
 case round=>
  obtain⟨k,hk,rfl,tj,iT⟩:=hrel;replace tj:=tj.symm;subst tj;have gP:=Hid.mk' iT;clear iT;by_cases bn:k<jn
  · have cJ:k<jobs.length:=by omega
    obtain⟨b,off,e⟩:=gq hS (by omega)
    subst e;have fZ:(k:Int)<(jn:Int):=by omega
    have fF:=(qB hS k cJ).1;by_cases ht:jobs[k].1=tx
    · have HF:Hid (idx (p5 jobs tx)=(k:Int)):=by
       show _=_;rw[show p5 jobs tx=some k from lj cJ (fun i hi=>decide_eq_false (gP.out i hi (by omega))) (decide_eq_true ht)]
       rfl
      rw[ht] at fF;clear ht gP;ab fail;an;exact⟨gZ HF.out.symm,rfl⟩
    · have HN:Hid (∀j (hj:j<k+1) (e7:j<jobs.length),jobs[j].1≠tx):=fun j hj e7=>by
       rcases Nat.lt_succ_iff_lt_or_eq.1 hj with e | e
       · exact gP.out j e e7
       · subst e; exact ht
      generalize jobs[k].1=PV at *;have htb:(PV==tx)=false:=beq_eq_false_iff_ne.2 ht;clear gP;ab fail;aA
      case rel=>exact⟨k+1,by omega,by aF,by first | rfl | trivial,HN.out⟩
      case measure=>simp[intOf]; omega
  · have CU:¬(k:Int)<(jn:Int):=by omega
    have HF:Hid (idx (p5 jobs tx)= -1):=by
     show _=_;rw[show p5 jobs tx=none from m6 (fun i hi=>decide_eq_false (gP.out i (by omega) hi))]
     rfl
    clear gP;ab fail;an;exact⟨gZ HF.out.symm,rfl⟩
end cos
end Go.Proofs.YtmibabclefgljaaGreat
