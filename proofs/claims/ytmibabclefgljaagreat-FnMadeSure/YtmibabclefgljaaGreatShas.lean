/- ImA ImB ShEx ShBd RecT4 -/
import Derived.Test.YtmibabclefgljaaGreatShan
import Derived.Test.YtmibabclefgljaaGreatShag
import Derived.Test.YtmibabclefgljaaGreatShar
import Derived.Test.YtmibabclefgljaaGreatShao
import Derived.Deep.RegionHeld3
import Derived.Test.YtmibabclefgljaaGreatShap
set_option linter.unusedVariables false
set_option linter.unusedSimpArgs false
set_option maxRecDepth 100000
set_option maxHeartbeats 2000000
namespace Go.Proofs.YtmibabclefgljaaGreat
namespace bm
open Go Go.RowKit base aE aX dG gO lay
theorem J2(a a2:Option Addr)(len cap cK eC:Nat)(l l2:List Pr)(w:World)(h:lL w a len l)(h2:lL w a2 cK l2):
 Calls Tryz.prog 60 #[.slice a len cap,.slice a2 cK eC] w fun e w'=>e=.returned (.bool (decide (l=l2)))∧∃n,w'=w.drewN n:=by
 obtain⟨hl,hm,_,hc⟩:=h;obtain⟨jA,jU,_,ei⟩:=h2;subst hl jA;unfold maxLen at hm jU;by_cases bh:l.length=l2.length
 · have hb:((l.length:Int)==(l2.length:Int))=true:=by simp; omega
   aj Tryz.func60,Tryz.ntmps60;ab fail;aN [13] (fun i wr=>∃k:Nat,k≤l.length∧i=.int .i64 k∧l.take k=l2.take k∧∃n,wr=w.drewN n) (fun i _=>l.length - (intOf i).toNat)
   case atStart=>exact⟨0,Nat.zero_le _,rfl,rfl,0,rfl⟩
   case round=>
    obtain⟨k,hk,rfl,iV,n,rfl⟩:=hrel;by_cases bn:k<l.length
    · obtain⟨b,off,ha,cZ⟩:=hc (by omega)
      obtain⟨b2,kP,te,hI⟩:=ei (by omega)
      subst ha te;have fP:k<l2.length:=by omega
      have Ct:(k:Int)<(l.length:Int):=by omega
      have DB:(k:Int)<(l2.length:Int):=by omega
      obtain⟨c1,c2⟩:=cZ k bn;obtain⟨c3,c4⟩:=hI k fP;by_cases e:l[k]=l2[k]
      · have HE:=Hid.mk' (vk iV bn fP e);rw[←e] at c3 c4;clear cZ hI hc ei iV bh e;generalize l[k]=p at *;ab fail;bE (fail)
        ab fail;aA
        case rel=>exact⟨k+1,by omega,by aF,HE.out,_,rfl⟩
        case measure=>simp[intOf]; omega
      · have HE:Hid (¬l=l2):=by
         show¬_;rintro rfl; exact e rfl
        generalize l[k]=p at *;generalize l2[k]=q at *;clear cZ hI hc ei iV bh;by_cases e1:p.1=q.1
        · have hq:=ef (fun e2:p.2=q.2=>e (Prod.ext e1 e2))
          rw[←e1] at c3;generalize p.1=p1 at *;generalize p.2=p2 at *;generalize q.2=q2 at *;clear e e1;ab fail;bE (fail)
          ab fail;an;exact⟨au (by symm; rw[decide_eq_false_iff_not]; exact HE.out),_,World.drewN_drewN _ _ _⟩
        · have hq:=ef e1;generalize p.1=p1 at *;generalize p.2=p2 at *;generalize q.1=q1 at *;generalize q.2=q2 at *;clear e e1;ab fail;bE (fail)
          ab fail;an;exact⟨au (by symm; rw[decide_eq_false_iff_not]; exact HE.out),_,World.drewN_drewN _ _ _⟩
    · have e:k=l.length:=by omega
      have cU:l=l2:=by
       subst e;rw[List.take_of_length_le (Nat.le_refl _),List.take_of_length_le (by omega)] at iV
       exact iV
      have HF:=Hid.mk' cU;clear cU iV;ab fail;an;exact⟨au (by symm; rw[decide_eq_true_iff]; exact HF.out),_,rfl⟩
 · have hb:((l.length:Int)==(l2.length:Int))=false:=by simp; omega
   aj Tryz.func60,Tryz.ntmps60;bf;an;exact⟨au (by symm; rw[decide_eq_false_iff_not]; intro h; exact bh (by rw[h])),0,rfl⟩
theorem PF(a a2:Option Addr)(len cap cK eC:Nat)(l l2:List Od)(w:World)(h:dS w a len l)(h2:dS w a2 cK l2):
 Calls Tryz.prog 73 #[.slice a len cap,.slice a2 cK eC] w fun e w'=>e=.returned (.bool (decide (l=l2)))∧∃n,w'=w.drewN n:=by
 obtain⟨hl,hm,_,hc⟩:=h;obtain⟨jA,jU,_,ei⟩:=h2;subst hl jA;unfold maxLen at hm jU;by_cases bh:l.length=l2.length
 · have hb:((l.length:Int)==(l2.length:Int))=true:=by simp; omega
   aj Tryz.func73,Tryz.ntmps73;ab fail;aN [13] (fun i wr=>∃k:Nat,k≤l.length∧i=.int .i64 k∧l.take k=l2.take k∧∃n,wr=w.drewN n) (fun i _=>l.length - (intOf i).toNat)
   case atStart=>exact⟨0,Nat.zero_le _,rfl,rfl,0,rfl⟩
   case round=>
    obtain⟨k,hk,rfl,iV,n,rfl⟩:=hrel;by_cases bn:k<l.length
    · obtain⟨b,off,ha,cZ⟩:=hc (by omega)
      obtain⟨b2,kP,te,hI⟩:=ei (by omega)
      subst ha te;have fP:k<l2.length:=by omega
      have Ct:(k:Int)<(l.length:Int):=by omega
      have DB:(k:Int)<(l2.length:Int):=by omega
      obtain⟨c0,c1,c2⟩:=cZ k bn;obtain⟨d0,d1,d2⟩:=hI k fP;by_cases e:l[k]=l2[k]
      · have HE:=Hid.mk' (vl iV bn fP e);rw[←e] at d0 d1 d2;clear cZ hI hc ei iV bh e;generalize l[k]=p at *;ab fail;bE (fail)
        ab fail;aA
        case rel=>exact⟨k+1,by omega,by aF,HE.out,_,rfl⟩
        case measure=>simp[intOf]; omega
      · have HE:Hid (¬l=l2):=by
         show¬_;rintro rfl; exact e rfl
        generalize l[k]=p at *;generalize l2[k]=q at *;clear cZ hI hc ei iV bh;obtain⟨p0,p1,p2⟩:=p;obtain⟨q0,q1,q2⟩:=q;simp only[] at c0 c1 c2 d0 d1 d2;by_cases e0:p0=q0
        · subst e0;have h0:(p0==p0)=true:=beq_self_eq_true _;by_cases e1:p1=q1
          · subst e1;have hq:=ef (fun e2:p2=q2=>e (by rw[e2]))
            clear e;ab fail;bE (fail)
            ab fail;an;exact⟨au (by symm; rw[decide_eq_false_iff_not]; exact HE.out),_,World.drewN_drewN _ _ _⟩
          · have hq:=ef e1;clear e e1;ab fail;bE (fail)
            ab fail;an;exact⟨au (by symm; rw[decide_eq_false_iff_not]; exact HE.out),_,World.drewN_drewN _ _ _⟩
        · have h0:(p0==q0)=false:=beq_eq_false_iff_ne.2 e0;clear e e0;ab fail;bE (fail)
          ab fail;an;exact⟨au (by symm; rw[decide_eq_false_iff_not]; exact HE.out),_,World.drewN_drewN _ _ _⟩
    · have e:k=l.length:=by omega
      have cU:l=l2:=by
       subst e;rw[List.take_of_length_le (Nat.le_refl _),List.take_of_length_le (by omega)] at iV
       exact iV
      have HF:=Hid.mk' cU;clear cU iV;ab fail;an;exact⟨au (by symm; rw[decide_eq_true_iff]; exact HF.out),_,rfl⟩
 · have hb:((l.length:Int)==(l2.length:Int))=false:=by simp; omega
   aj Tryz.func73,Tryz.ntmps73;bf;an;exact⟨au (by symm; rw[decide_eq_false_iff_not]; intro h; exact bh (by rw[h])),0,rfl⟩
theorem PG(id:Int)(w:World):
    Calls Tryz.prog 58 #[.int .i64 id] w fun e w'=>e=.returned (.bool (decide (0≤id∧id≤7)))∧w=w':=by
  by_cases h1:0≤id
  · by_cases h2:id≤7
    · aj Tryz.func58,Tryz.ntmps58;bf;an;exact⟨au (by simp[h1,h2]),rfl⟩
    · aj Tryz.func58,Tryz.ntmps58;bf;an;exact⟨au (by simp[h1,h2]),rfl⟩
  · aj Tryz.func58,Tryz.ntmps58;bf;an;exact⟨au (by have h3:¬ 0≤id:=by omega
                        simp[h3]),rfl⟩
theorem MF(a a2:Option Addr)(len cap cK eC:Nat)(l l2:List Od)(w:World)(h:dS w a len l)(h2:dS w a2 cK l2):
 Calls Tryz.prog 73 #[.slice a len cap,.slice a2 cK eC] w fun e w'=>e=.returned (.bool (decide (l=l2)))∧Below w.heap.size w w':=by
 refine(PF a a2 len cap cK eC l l2 w h h2).mono ?_;rintro e w' ⟨rfl,n,rfl⟩;exact⟨rfl,below_drewN (Below.refl _ _) n⟩
theorem GF(x y:Rc)(pa qa:Option Addr)(pl pc ql qc:Nat)(w:World)(hx:dS w pa pl x.2.2)(hy:dS w qa ql y.2.2):
 Calls Tryz.prog 62 #[.agg #[.int .i64 x.1,.int .i64 x.2.1,.slice pa pl pc],.agg #[.int .i64 y.1,.int .i64 y.2.1,.slice qa ql qc]] w fun e w'=>e=.returned (.bool (decide (x=y)))∧Below w.heap.size w w':=by
 obtain⟨W,hW⟩:∃W,(w.alloc (.cells #[.int .i64 x.1,.int .i64 x.2.1,.slice pa pl pc] 98)).alloc (.cells #[.int .i64 y.1,.int .i64 y.2.1,.slice qa ql qc] 98)=W:=⟨_,rfl⟩;have hB:Below w.heap.size w W:=by rw[←hW]; exact((Below.refl _ _).alloc (Nat.le_refl _) _).alloc (by simp) _
 have HE:=Hid.mk' (MF pa qa pl pc ql qc x.2.2 y.2.2 W (hx.below hB) (hy.below hB));have HW:=Hid.mk' hW;obtain⟨x1,x2,x3⟩:=x;obtain⟨y1,y2,y3⟩:=y;simp only[] at HE HW;clear hW hx hy;by_cases e1:x1=y1
 · subst e1;have hn:(x1==x1)=true:=by simp
   by_cases e2:x2=y2
   · subst e2;have hf:(x2==x2)=true:=by simp
     have HD:Hid (decide ((x1,x2,x3)=(x1,x2,y3))=decide (x3=y3)):=by show _=_; simp
     aj Tryz.func62,Tryz.ntmps62;ab fail;rw[HW.out];refine HE.out.mono ?_;rintro e w1 ⟨rfl,a_⟩;have fi:=hB.trans (a_.mono hB.size);clear HE HW a_;ab fail;an;rw[HD.out];exact⟨rfl,fi⟩
   · have hf:(x2==y2)=false:=beq_eq_false_iff_ne.2 e2;have HD:Hid (decide ((x1,x2,x3)=(x1,y2,y3))=false):=by show _=_; simp[e2]
     clear e2;aj Tryz.func62,Tryz.ntmps62;ab fail;an;rw[HD.out,HW.out];exact⟨rfl,hB⟩
 · have hn:(x1==y1)=false:=beq_eq_false_iff_ne.2 e1;have HD:Hid (decide ((x1,x2,x3)=(y1,y2,y3))=false):=by show _=_; simp[e1]
   clear e1;aj Tryz.func62,Tryz.ntmps62;ab fail;an;rw[HD.out,HW.out];exact⟨rfl,hB⟩
theorem MG(a a2:Option Addr)(len cap cK eC:Nat)(l l2:List Rc)(w:World)(h:rP w a len l)(h2:rP w a2 cK l2):
 Calls Tryz.prog 61 #[.slice a len cap,.slice a2 cK eC,.func (.func 62) #[] #[]] w fun e w'=>e=.returned (.bool (decide (l=l2)))∧Below w.heap.size w w':=by
 obtain⟨hl,hm,fk,hc⟩:=id h;obtain⟨jA,jU,wO,ei⟩:=id h2;subst hl jA;unfold maxLen at hm jU;by_cases bh:l.length=l2.length
 · have hb:((l.length:Int)==(l2.length:Int))=true:=by simp; omega
   aj Tryz.func61,Tryz.ntmps61;ab fail;aN [17] (fun i wr=>∃k:Nat,k≤l.length∧i=.int .i64 k∧l.take k=l2.take k∧Below w.heap.size w wr) (fun i _=>l.length - (intOf i).toNat)
   case atStart=>exact⟨0,Nat.zero_le _,rfl,rfl,Below.refl _ _⟩
   case round=>
    obtain⟨k,hk,rfl,iV,hB⟩:=hrel;by_cases bn:k<l.length
    · obtain⟨b,off,ha,cZ⟩:=hc (by omega)
      obtain⟨b2,kP,te,hI⟩:=ei (by omega)
      subst ha te;have fP:k<l2.length:=by omega
      have fZ:(k:Int)<(l.length:Int):=by omega
      have WC:(k:Int)<(l2.length:Int):=by omega
      have i1:=h.at k bn;have i2:=h2.at k fP;obtain⟨c1,c2,pa,pl,pc,c3,NL,_⟩:=i1.below hB;obtain⟨c4,c5,qa,ql,qc,c6,zW,_⟩:=i2.below hB;have ij:=World.block_lt_of_cell? _ _ c1;have lU:=World.block_lt_of_cell? _ _ c4;obtain⟨W1,s_⟩:∃W1,(wr.alloc (.cells #[.int .i64 l[k].1,.int .i64 l[k].2.1,.slice pa pl pc] 98))=W1:=⟨_,rfl⟩;have a_:Below wr.heap.size wr W1:=by rw[←s_]; exact(Below.refl _ _).alloc (Nat.le_refl _) _
      obtain⟨W2,Xm⟩:∃W2,(W1.alloc (.cells #[.int .i64 l2[k].1,.int .i64 l2[k].2.1,.slice qa ql qc] 98))=W2:=⟨_,rfl⟩;have be:Below W1.heap.size W1 W2:=by rw[←Xm]; exact(Below.refl _ _).alloc (Nat.le_refl _) _
      have dL:=(hB.trans (a_.mono hB.size)).trans (be.mono (Nat.le_trans hB.size a_.size));have Rh:=Hid.mk' (GF l[k] l2[k] pa qa pl pc ql qc W2 ((NL.below a_).below be) ((zW.below a_).below be));have Li:Hid (l[k]=l2[k]→l.take (k+1)=l2.take (k+1)):=fun e=>Bc iV bn fP e
      have Ex:Hid (¬l[k]=l2[k]→¬l=l2):=fun e e2=>e (by subst e2; rfl)
      have HW:Hid ((wr.alloc (.cells #[.int .i64 l[k].1,.int .i64 l[k].2.1,.slice pa pl pc] 98)).alloc (.cells #[.int .i64 l2[k].1,.int .i64 l2[k].2.1,.slice qa ql qc] 98)=W2):=by show _=_; rw[s_,Xm]
      clear cZ hI hc ei i1 i2 fk wO h h2 NL zW iV bh s_ Xm a_ be;cases hd:decide (l[k]=l2[k]) with
      | true=>
       rw[hd] at Rh;have HE:=Hid.mk' (Li.out (of_decide_eq_true hd));clear hd Li Ex;generalize l[k]=p at *;generalize l2[k]=q at *;ab fail;rw[HW.out];refine Rh.out.mono ?_;rintro e w5 ⟨rfl,dx⟩;have ez:=dL.trans (dx.mono dL.size);clear Rh HW;ab fail;aA
       case rel=>exact⟨k+1,by omega,by aF,HE.out,ez⟩
       case measure=>simp[intOf]; omega
      | false=>
       rw[hd] at Rh;have HE:=Hid.mk' (Ex.out (of_decide_eq_false hd));clear hd Li Ex;generalize l[k]=p at *;generalize l2[k]=q at *;ab fail;rw[HW.out];refine Rh.out.mono ?_;rintro e w5 ⟨rfl,dx⟩;have ez:=dL.trans (dx.mono dL.size);clear Rh HW;ab fail;an;exact⟨au (by symm; rw[decide_eq_false_iff_not]; exact HE.out),ez⟩
    · have e:k=l.length:=by omega
      have cU:l=l2:=by
       subst e;rw[List.take_of_length_le (Nat.le_refl _),List.take_of_length_le (by omega)] at iV
       exact iV
      have HF:=Hid.mk' cU;clear cU iV;ab fail;an;exact⟨au (by symm; rw[decide_eq_true_iff]; exact HF.out),hB⟩
 · have hb:((l.length:Int)==(l2.length:Int))=false:=by simp; omega
   aj Tryz.func61,Tryz.ntmps61;bf;an;exact⟨au (by symm; rw[decide_eq_false_iff_not]; intro h; exact bh (by rw[h])),Below.refl _ _⟩
end bm
namespace bm
open Go Go.RowKit base aE aX dG gO lay
def BD(w:World)(id sure:Int)(la:Option Addr)(ln lc:Nat)(t:Option St)(e:Ending)(w':World):Prop:=
 ∃(g np cp g2 c2:Nat) (hs:List Value),e=.returned (.tuple #[cd id sure la ln lc (some ⟨g,0,none⟩) np cp (some ⟨g2,0,none⟩) (fb t).length c2,.bool t.isSome])∧
  bX w' w.heap.size g np cp (qn t)∧bB w' w.heap.size (.slice (some ⟨g2,0,none⟩) (fb t).length c2) (fb t) hs∧¬dq (.slice (some ⟨g2,0,none⟩) (fb t).length c2) hs g∧Below w.heap.size w w'
theorem GG(id sure:Int)(la:Option Addr)(ln lc:Nat)(log:List Rc)(w:World)(h:rP w la ln log)(gI:kx w la ln)(hf:wD log)(hl:ln≤1099511627776 / 16):
 Calls Tryz.prog 59 #[.int .i64 id,.slice la ln lc,.int .i64 sure] w fun e w'=>BD w id sure la ln lc (replay log) e w':=by
 obtain⟨W,hW⟩:∃W,w.alloc (cA 0 0 none 0 0 none 0 0 none 0 0)=W:=⟨_,rfl⟩;have hB:Below w.heap.size w W:=by rw[←hW]; exact(Below.refl _ _).alloc (Nat.le_refl _) _
 have bI:aD w.heap.size 43 [] (aU 0 0 none 0 0 none 0 0 none 0 0) [] W:=by rw[←hW]; exact aO w _ _
 have Xn:kx W la ln:=fun b off e i hi pa pl pc hc=>by
  rcases Nat.eq_zero_or_pos ln with e0 | e0
  · omega
  · obtain⟨b',wJ,e2,cZ⟩:=h.2.2.2 e0;rw[e] at e2;simp only[Option.some.injEq,Addr.mk.injEq,and_true] at e2;obtain⟨rfl,rfl⟩:=e2;have bn:b<w.heap.size:=World.block_lt_of_cell? w _ (cZ i (by have:=h.1; omega)).1
    exact gI b off e i hi pa pl pc ((hB.cell (p:=⟨b,off+i * 3+2,none⟩) bn).symm.trans hc)
 have Hv:=Hid.mk' (AR la ln lc log W (h.below hB) Xn hl hf);have HW:=Hid.mk' hW;have jf:=bI.lt;clear hW;generalize replay log=t at *;aj Tryz.func59,Tryz.ntmps59;ab fail;rw[HW.out];refine Hv.out.mono ?_;rintro e w2 ⟨g,np,cp,g2,c2,hs,rfl,hO,nO,Ip,be⟩;have hR:=bI.below be;have hg:=hO.lt;have z0:=hR.cell 0 _ rfl;have z1:=hR.cell 1 _ rfl;have z2:=hR.cell 2 _ rfl;have z3:=hR.cell 3 _ rfl;have z4:=hR.cell 4 _ rfl;simp only[List.length_nil,Nat.zero_add] at z0 z1 z2 z3 z4;have f0:=hR.fz 0;have f1:=hR.fz 1;have f2:=hR.fz 2;have f3:=hR.fz 3;have f4:=hR.fz 4;have cP:=hR.nH (.int .i64 id) (.slice la ln lc) (.int .i64 sure) (.slice (some ⟨g,0,none⟩) np cp) (.slice (some ⟨g2,0,none⟩) (fb t).length c2);simp only[List.length_nil,Nat.zero_add] at cP;have dL:=hB.trans (be.mono hB.size);have jP:=dL.grown cP.2 dL.size (fun j e=>by cases e; exact Nat.le_refl _)
 have jL:=(hO.mono (base':=w.heap.size) hB.size).grown cP.2 (fun e=>by have:=Option.some.inj e; omega)
 have S3:=(nO.mono (base':=w.heap.size) hB.size).grown cP.2 (fun e=>by have:=(nO.lt _ e).1; omega)
 have dN:=cP.1.cell 0 _ rfl;have dO:=cP.1.cell 1 _ rfl;have dP:=cP.1.cell 2 _ rfl;have dQ:=cP.1.cell 3 _ rfl;have dR:=cP.1.cell 4 _ rfl;simp only[List.length_nil,Nat.zero_add] at dN dO dP dQ dR;have HP:Hid (BD w id sure la ln lc t (.returned (.tuple #[cd id sure la ln lc (some ⟨g,0,none⟩) np cp (some ⟨g2,0,none⟩) (fb t).length c2,.bool t.isSome])) _):=⟨g,np,cp,g2,c2,hs,rfl,jL,S3,Ip,jP⟩;clear jL S3 jP cP hO nO Hv HW;ab fail;refine bodyPost_ret (v:=.tuple #[cd id sure la ln lc (some ⟨g,0,none⟩) np cp (some ⟨g2,0,none⟩) (fb t).length c2,.bool t.isSome]) ?_ rfl HP.out;simp[results,Tryz.results59,go_sem,dN,dO,dP,dQ,dR]
theorem tm{w w':World}{a:Option Addr}{n:Nat}{l:List Rc}(h:rP w a n l)(hp:kx w a n)(hB:Below w.heap.size w w'):kx w' a n:=fun b off e i hi pa pl pc hc=>by
 rcases Nat.eq_zero_or_pos n with e0 | e0
 · omega
 · obtain⟨b',wJ,e2,cZ⟩:=h.2.2.2 e0;rw[e] at e2;simp only[Option.some.injEq,Addr.mk.injEq,and_true] at e2;obtain⟨rfl,rfl⟩:=e2;have bn:b<w.heap.size:=World.block_lt_of_cell? w _ (cZ i (by have:=h.1; omega)).1
   exact hp b off e i hi pa pl pc ((hB.cell (p:=⟨b,off+i * 3+2,none⟩) bn).symm.trans hc)
theorem BE{s:de}(h:300<s.2.1.length+s.2.2.2.2.length):bV s=false:=by
 cases hk:bV s with
 | false=>rfl
 | true=>have:=((nP s).1 hk).room; omega
theorem BF{s:de}(h1:0≤s.1∧s.1≤7)(h2:s.2.1.length+s.2.2.2.2.length≤300)(h3:0≤s.2.2.1∧s.2.2.1≤(s.2.1.length:Int)):
 bV s=((replay s.2.1).isSome && decide (s.2.2.2.1=qn (replay s.2.1)) && decide (s.2.2.2.2=fb (replay s.2.1))):=by
 rw[th h1 (by omega) h3,Bool.eq_iff_iff]
 simp only[Bool.and_eq_true,decide_eq_true_iff];constructor
 · rintro⟨⟨⟨a,b⟩,c⟩,d⟩;exact⟨⟨a,b.symm⟩,c.symm⟩
 · rintro⟨⟨a,b⟩,c⟩;exact⟨⟨⟨a,b.symm⟩,c.symm⟩,by rw[←c]; exact h2⟩
theorem qQ(la:Option Addr)(ln lc:Nat)(ma:Option Addr)(mn mc:Nat)(ha:Option Addr)(hn hc:Nat)(s:de)(w:World)(h:eY w la ln lc ma mn mc ha hn hc s)(gI:kx w la ln)(hf:wD s.2.1)(wu:ln≤1099511627776)(Cw:hn≤1099511627776):
 Calls Tryz.prog 25 #[cd s.1 s.2.2.1 la ln lc ma mn mc ha hn hc] w fun e w'=>e=.returned (.bool (bV s))∧Below w.heap.size w w':=by
 have mb:=h.log.1;have xS:=h.held.1;obtain⟨W,hW⟩:∃W,w.alloc (cA s.1 s.2.2.1 la ln lc ma mn mc ha hn hc)=W:=⟨_,rfl⟩;have hB:Below w.heap.size w W:=by rw[←hW]; exact(Below.refl _ _).alloc (Nat.le_refl _) _
 have bI:aD w.heap.size 43 [] (aU s.1 s.2.2.1 la ln lc ma mn mc ha hn hc) [] W:=by rw[←hW]; exact aO w _ _
 have ti:=Hid.mk' (fun wx=>PG s.1 wx)
 have HW:=Hid.mk' hW;have c0:=bI.cell 0 _ rfl;have c1:=bI.cell 1 _ rfl;have c2:=bI.cell 2 _ rfl;have c4:=bI.cell 4 _ rfl;simp only[List.length_nil,Nat.zero_add] at c0 c1 c2 c4;rw[←hW] at c0 c1 c2 c4;have jf:=bI.lt;generalize hR:bV s=R;by_cases h1:0≤s.1∧s.1≤7
 · rw[decide_eq_true h1] at ti;by_cases h2:s.2.2.1<0
   · have mj:Hid (R=false):=by show _=_; rw[←hR]; exact oB (by omega)
     clear hR hW h h1 mb xS;aj Tryz.func25,Tryz.ntmps25;ab fail;refine(ti.out _).mono ?_;rintro e w1 ⟨rfl,rfl⟩;ab fail;an;rw[mj.out,HW.out];exact⟨rfl,hB⟩
   · by_cases h3:(ln:Int)<s.2.2.1
     · have mj:Hid (R=false):=by show _=_; rw[←hR]; exact oB (by omega)
       clear hR hW h h1 mb xS;aj Tryz.func25,Tryz.ntmps25;ab fail;refine(ti.out _).mono ?_;rintro e w1 ⟨rfl,rfl⟩;ab fail;an;rw[mj.out,HW.out];exact⟨rfl,hB⟩
     · by_cases h4:300<ln+hn
       · have mj:Hid (R=false):=by show _=_; rw[←hR]; exact BE (by omega)
         have h4i:(300:Int)<(ln:Int)+(hn:Int):=by omega
         clear hR hW h h1 mb xS h4;aj Tryz.func25,Tryz.ntmps25;ab fail;refine(ti.out _).mono ?_;rintro e w1 ⟨rfl,rfl⟩;ab fail;an;rw[mj.out,HW.out];exact⟨rfl,hB⟩
       · have h4i:¬(300:Int)<(ln:Int)+(hn:Int):=by omega
         have HQ:=Hid.mk' (BF (s:=s) h1 (by omega) (by omega))
         have Z2:=Hid.mk' (GG s.1 s.2.2.1 la ln lc s.2.1 W (h.log.below hB) (tm h.log gI hB) hf (by omega))
         have hS:=h;generalize hT:replay s.2.1=t at *;have HR:Hid (R=(t.isSome && decide (s.2.2.2.1=qn t) && decide (s.2.2.2.2=fb t))):=by show _=_; rw[←hR]; exact HQ.out
         clear hR HQ hW h h1 mb xS h4 hT;aj Tryz.func25,Tryz.ntmps25;ab fail;refine(ti.out _).mono ?_;rintro e w1 ⟨rfl,rfl⟩;ab fail;rw[HW.out];refine Z2.out.mono ?_;rintro e w2 ⟨g,np,cp,g2,o9,hs,rfl,hO,nO,_,be⟩;obtain⟨W3,zT⟩:∃W3,w2.alloc (cA s.1 s.2.2.1 la ln lc (some ⟨g,0,none⟩) np cp (some ⟨g2,0,none⟩) (fb t).length o9)=W3:=⟨_,rfl⟩;have dI:Below w2.heap.size w2 W3:=by rw[←zT]; exact(Below.refl _ _).alloc (Nat.le_refl _) _
         have sd:=(bI.below be).below dI;have PH:aD w2.heap.size 43 [] (aU s.1 s.2.2.1 la ln lc (some ⟨g,0,none⟩) np cp (some ⟨g2,0,none⟩) (fb t).length o9) [] W3:=by rw[←zT]; exact aO w2 _ _
         have dL:=hB.trans (be.mono hB.size);have cY:=dL.trans (dI.mono dL.size);have d3:=sd.cell 3 _ rfl;have d4:=sd.cell 4 _ rfl;have e3:=PH.cell 3 _ rfl;have e4:=PH.cell 4 _ rfl;simp only[List.length_nil,Nat.zero_add] at d3 d4 e3 e4;rw[←zT] at d3 d4 e3 e4;have zU:=Hid.mk' zT;have xA:=Hid.mk' (J2 ma (some ⟨g,0,none⟩) mn mc np cp s.2.2.2.1 (qn t) W3 (hS.map.below cY) (hO.below dI).sl);have tE:=Hid.mk' (fun wx (hx:Below W3.heap.size W3 wx)=>MG ha (some ⟨g2,0,none⟩) hn hc _ o9 s.2.2.2.2 (fb t) wx ((hS.held.below cY).below hx) ((nO.below dI).sl.below hx))
         clear Z2 ti HW c0 c1 c2 c4 hO nO zT;cases Mo:t.isSome with
         | false=>
          have mj:Hid (R=false):=by show _=_; rw[HR.out,Mo]; rfl
          clear HR xA tE;ab fail;an;rw[mj.out,zU.out];exact⟨rfl,cY⟩
         | true=>
          have mG:∀n,Below W3.heap.size W3 (W3.drewN n):=fun n=>below_drewN (Below.refl _ _) n
          by_cases q1:s.2.2.2.1=qn t
          · rw[decide_eq_true q1] at xA;have mj:Hid (R=decide (s.2.2.2.2=fb t)):=by show _=_; rw[HR.out,Mo,decide_eq_true q1]; rfl
            clear HR q1;ab fail;rw[zU.out];refine xA.out.mono ?_;rintro e w4 ⟨rfl,n4,rfl⟩;have k4:=(sd.below (mG n4)).cell 4 _ rfl;have m4:=(PH.below (mG n4)).cell 4 _ rfl;simp only[List.length_nil,Nat.zero_add] at k4 m4;ab fail;refine(tE.out _ (mG n4)).mono ?_;rintro e w5 ⟨rfl,dx⟩;have ez:=cY.trans ((mG n4).mono cY.size) |>.trans (dx.mono (Nat.le_trans cY.size (mG n4).size))
            clear xA tE d3 d4 e3 e4 k4 m4;ab fail;an;rw[mj.out];exact⟨rfl,ez⟩
          · rw[decide_eq_false q1] at xA;have mj:Hid (R=false):=by show _=_; rw[HR.out,decide_eq_false q1]; simp
            clear HR q1;ab fail;rw[zU.out];refine xA.out.mono ?_;rintro e w4 ⟨rfl,n4,rfl⟩;have ez:=cY.trans ((mG n4).mono cY.size);clear xA tE d3 d4 e3 e4;ab fail;an;rw[mj.out];exact⟨rfl,ez⟩
 · rw[decide_eq_false h1] at ti;have mj:Hid (R=false):=by show _=_; rw[←hR]; exact tg h1
   clear hR hW h h1 mb xS;aj Tryz.func25,Tryz.ntmps25;ab fail;refine(ti.out _).mono ?_;rintro e w1 ⟨rfl,rfl⟩;ab fail;an;rw[mj.out,HW.out];exact⟨rfl,hB⟩
end bm
namespace bm
open Go Go.RowKit base aE aX dG gO lay
theorem gn{w:World}{o:Obj}:Below w.heap.size w (w.alloc o):=(Below.refl _ _).alloc (Nat.le_refl _) _
structure xz (s:de):Prop where
 jS:wD s.2.1
 Ag:wD s.2.2.2.2
 log:s.2.1.length≤1048576
 map:s.2.2.2.1.length≤1048576
 held:s.2.2.2.2.length≤1048576
 qP:GD s≤3145728
theorem dn.plain{w:World}{ln lc mn mc hn hc gl:Nat}{ma ha:Option Addr}{s:de}{F:List Nat}(h:dn w (some ⟨gl,0,none⟩) ln lc ma mn mc ha hn hc s F):kx w (some ⟨gl,0,none⟩) ln:=by
 obtain⟨hl,q1,_⟩:=h.log;exact q1.plain
theorem dn.Ig{w:World}{la ma ha:Option Addr}{ln lc mn mc hn hc:Nat}{s:de}{F:List Nat}(h:dn w la ln lc ma mn mc ha hn hc s F):kx w la ln∧kx w ha hn:=by
 obtain⟨hl,q1,hh,q3,_⟩:=h.log;refine⟨?_,?_⟩
 · rcases q1.shape with⟨e,_⟩ | ⟨g,c,e,_⟩
   · cases e; intro b off e; cases e
   · cases e; exact q1.plain
 · rcases q3.shape with⟨e,_⟩ | ⟨g,c,e,_⟩
   · cases e; intro b off e; cases e
   · cases e; exact q3.plain
theorem eY.jS{w:World}{la ma ha:Option Addr}{ln lc mn mc hn hc:Nat}{s:de}(h:eY w la ln lc ma mn mc ha hn hc s)(b:xz s):ln≤1048576∧mn≤1048576∧hn≤1048576:=by
 obtain⟨l1,l2,l3⟩:=eY.lens h;have h1:=b.log;have h2:=b.map;have h3:=b.held;omega
def Af(w:World)(r:de)(e:Ending)(w':World):Prop:=
 ∃(la:Option Addr) (ln lc:Nat) (ma:Option Addr) (mn mc:Nat) (ha:Option Addr) (hn hc:Nat) (F:List Nat),e=.returned (cd r.1 r.2.2.1 la ln lc ma mn mc ha hn hc)∧dn w' la ln lc ma mn mc ha hn hc r F∧(∀k∈F,w.heap.size≤k)∧Below w.heap.size w w'
abbrev E6(w:World)(X:Nat)(la:Option Addr)(ln lc:Nat)(ma:Option Addr)(mn mc:Nat)(ha:Option Addr)(hn hc:Nat)(s:de)(F:List Nat):Prop:=gW w X 43 [] [] la ln lc ma mn mc ha hn hc s F
section
variable{w w':World}{X:Nat}{la ma ha:Option Addr}{ln lc mn mc hn hc:Nat}{s s':de}{F G:List Nat}
theorem lR(h:dn w la ln lc ma mn mc ha hn hc s F):E6 (w.alloc (cA s.1 s.2.2.1 la ln lc ma mn mc ha hn hc)) w.heap.size la ln lc ma mn mc ha hn hc s F:=
 ⟨aO w _ _,h.below gn,fun e=>by have:=h.lt _ e; omega⟩
theorem gW.cells(h:E6 w X la ln lc ma mn mc ha hn hc s F):w.cell? ⟨X,0,none⟩=some (.int .i64 s.1)∧w.cell? ⟨X,1,none⟩=some (.slice la ln lc)∧w.cell? ⟨X,2,none⟩=some (.int .i64 s.2.2.1)∧w.cell? ⟨X,3,none⟩=some (.slice ma mn mc)∧w.cell? ⟨X,4,none⟩=some (.slice ha hn hc):=by
 have a0:=h.box.cell 0 _ rfl;have a1:=h.box.cell 1 _ rfl;have a2:=h.box.cell 2 _ rfl;have a3:=h.box.cell 3 _ rfl;have a4:=h.box.cell 4 _ rfl;simp only[List.length_nil,Nat.zero_add] at a0 a1 a2 a3 a4;exact⟨a0,a1,a2,a3,a4⟩
end
end bm
namespace bm
open Go Go.RowKit base aE aX dG gO lay
theorem my{r:Rc}(h:bu r=true):r.2.2.length≤8∧∀p∈r.2.2,p.2.1.size≤1099511627776:=by
 rcases((bS r).1 h).2 with⟨_,h2⟩ | ⟨_,h2⟩
 · refine⟨((bG _).1 h2).2.2,fun p hp=>?_⟩
   have h3:=((bG _).1 h2).1.1 p hp;have h5:=qe ((kh p).1 h3).2.2.1;omega
 · rw[h2]; exact⟨by simp,fun p hp=>absurd hp List.not_mem_nil⟩
theorem um{l:List Rc}(h:∀r∈l,r.2.2.length≤8):kT l≤26 * l.length:=by
 induction l with
 | nil=>simp[kT]
 | cons r l ih=>
  have h1:=h r List.mem_cons_self;have h2:=ih (fun x hx=>h x (List.mem_cons_of_mem _ hx))
  unfold kT at h2 ⊢;simp only[List.map_cons,List.sum_cons,List.length_cons];omega
theorem J3{l:List Rc}(h:∀r∈l,bu r=true):wD l:=fun r hr=>⟨by have:=(my (h r hr)).1; omega,(my (h r hr)).2⟩
theorem J4{s:de}(h:cD s):xz s:=by
 have h1:=h.room;obtain⟨seen,hm⟩:=h.made;have h2:=((kW _).1 (r7 hm).1).2;have h3:=um (fun r hr=>(my (h.bu r hr)).1)
 have h4:=um (l:=s.2.2.2.2) (fun r hr=>(my (h.bu r (h.pq r hr).1)).1)
 simp only[] at h2;refine⟨J3 h.bu,J3 (fun r hr=>h.bu r (h.pq r hr).1),by omega,by omega,by omega,?_⟩
 unfold GD;omega
end bm
namespace bm
open Go Go.RowKit base aE draw aX
def PI(t:Int):Prop:=t≤4∨1000000≤t
def MH(w0 w:World)(gc:Nat)(a:Option Addr)(len cap:Nat)(code:List UInt8)(e:Ending)(w':World):Prop:=
 ∃(r:Rc) (v:Value),(bu r=true∧r.2.1≤4)∧e=.returned (.agg #[.int .i64 r.1,.int .i64 r.2.1,v])∧cS w' w.heap.size v r.2.2∧gY w0 w' gc a len cap code∧w.grownBy w' (some gc)
theorem PJ(w0 w:World)(gc:Nat)(a:Option Addr)(len cap:Nat)(code:List UInt8)(h:gY w0 w gc a len cap code):
 Calls Tryz.prog 127 #[.pointer (some ⟨gc,0,none⟩)] w fun e w'=>MH w0 w gc a len cap code e w':=by
 have cZ:=h.lt;have rS:=h.ge;obtain⟨wa,jw⟩:∃wa,w.alloc (.cells #[.int .i64 0,.int .i64 0,.slice none 0 0] 98)=wa:=⟨_,rfl⟩;have bw:Below w.heap.size w wa:=by rw[←jw]; exact(Below.refl _ _).alloc (Nat.le_refl _) _
 have Hz:wa.heap.size=w.heap.size+1:=by rw[←jw]; simp
 have x6:V3 wa w.heap.size 98 (.int .i64 0) (.int .i64 0) (.slice none 0 0):=by rw[←jw]; exact heap_alloc_new w _
 have x7:=Hid.mk' jw;clear jw;aj Tryz.func127,Tryz.ntmps127;ab fail;rw[x7.out];clear x7;have pY:Below wa.heap.size wa (wa.alloc (.cells #[.int .i64 1,.int .i64 1,.int .i64 2,.int .i64 3] 3)):=(Below.refl _ _).alloc (Nat.le_refl _) _;have hL:=heap_alloc_new wa (.cells #[.int .i64 1,.int .i64 1,.int .i64 2,.int .i64 3] 3);rw[Hz] at hL;refine(vw w0 _ gc a len cap code (w.heap.size+1) 4 4 _ _ ((h.below bw).below pY) hL rfl (by omega) (by omega) (by omega) (fun z=>decide (1≤z∧z≤3)=true) (iL _ 4 (fun z=>decide (1≤z∧z≤3)) (by aa))).mono ?_
 rintro e w1 ⟨z,hz,rfl,gL,ij⟩;ab fail;refine(cH w0 _ gc a len cap code _ gL (by omega) (by omega)).mono ?_
 rintro e w2 ⟨x,hx,rfl,ei,lU⟩;have pH:=x6.below pY;have dF:=cE pH ij (by simp; omega)
 have cR:=cE dF lU (by simp; omega)
 have oF:w.grownBy w2 (some gc):=az (aZ (aZ (World.grownBy.refl _ _) bw) pY) (az ij lU);have hI:=ei.lt;have pQ:w.heap.size<w2.heap.size:=cR.lt;clear pH dF x6 hL gL ij lU bw;obtain⟨w3,lN⟩:∃w3,w2.alloc (.cells #[.int .i64 z,.int .i64 (1+(x:Int)),.slice none 0 0] 98)=w3:=⟨_,rfl⟩;have dI:Below w2.heap.size w2 w3:=by rw[←lN]; exact(Below.refl _ _).alloc (Nat.le_refl _) _
 have kc:V3 w3 w2.heap.size 98 (.int .i64 z) (.int .i64 (1+(x:Int))) (.slice none 0 0):=by rw[←lN]; exact heap_alloc_new w2 _
 have Lo:w3.heap.size=w2.heap.size+1:=by rw[←lN]; simp
 have Pz:=cR.below dI;have fR:=ei.below dI;have x8:=aZ oF dI;have Lu:=of_decide_eq_true hz;have zU:=Hid.mk' lN;clear lN dI hz;by_cases dD:z=1
 · subst dD;have Xo:=Hid.mk' (rB w0 w3 gc a len cap code fR);rw[←zU.out] at Xo;clear cR ei oF fR;ab fail;refine Xo.out.mono ?_;rw[zU.out];rintro e w5 ⟨g,n,cp,l,hn,bR,rfl,eD,jx,ix⟩;have tF:=cE kc ix (by simp; omega)
   have Bw:=cE Pz ix (by simp; omega)
   have PB:=az x8 ix;have ny:=eD.lt;have fl:Hid (bu ((1:Int),1+(x:Int),l)=true):=(bS _).2 ⟨⟨by show(1:Int)≤1+(x:Int); omega,by show 1+(x:Int)≤1000000; omega⟩,.inl ⟨rfl,bR⟩⟩
   clear Xo zU kc Pz x8 ix bR;have t0:=tF.c0;have t1:=tF.c1;have t2:=tF.c2;have t3:=eH tF 2;have iY:=(oA tF).2.2 (.slice (some ⟨g,0,none⟩) n cp);have Bx:=cE Bw iY.2 (by simp; omega)
   have eU:=jx.grown iY.2 (by simp; omega) (fun k e=>by cases e; omega)
   have By:=cN PB iY.2 (by omega)
   have en:=eD.grown iY.2 (by simp; omega)
   have r0:=Bw.c0;have r1:=Bw.c1;have r2:=Bw.c2;have q0:=eH Bw 0;have q1:=eH Bw 1;have q2:=eH Bw 2;have cU:=(lC Bx (.int .i64 1) (.int .i64 (1+(x:Int))) (.slice (some ⟨g,0,none⟩) n cp)).2;have DS:=Hid.mk' (eU.grown cU (by simp; omega) (fun k e=>by cases e; omega))
   have DT:=Hid.mk' (cN By cU (Nat.le_refl _));have FI:=Hid.mk' (fK ((en.grown cU (by simp; omega)).mono (base':=w.heap.size) (by omega)))
   have db:w.heap.size≠w2.heap.size:=by omega
   clear cU eU By Bx iY tF Bw jx PB eD en;ab fail;refine bodyPost_ret (v:=.agg #[.int .i64 1,.int .i64 (1+(x:Int)),.slice (some ⟨g,0,none⟩) n cp]) ?_ rfl ⟨((1:Int),1+(x:Int),l),_,⟨fl.out,by show 1+(x:Int)≤4; omega⟩,rfl,FI.out,DS.out,DT.out⟩
   simp[results,Tryz.results127,go_sem,r0,r1,r2]
 · have Z0:(z==1)=false:=beq_eq_false_iff_ne.2 dD;have fl:Hid (bu (z,1+(x:Int),[])=true):=(bS _).2 ⟨⟨by show(1:Int)≤1+(x:Int); omega,by show 1+(x:Int)≤1000000; omega⟩,.inr ⟨by show z=2∨z=3; omega,rfl⟩⟩
   have r0:=cR.c0;have r1:=cR.c1;have r2:=cR.c2;have q0:=eH cR 0;have q1:=eH cR 1;have q2:=eH cR 2;have cU:=(lC cR (.int .i64 z) (.int .i64 (1+(x:Int))) (.slice none 0 0)).2;have lM:=ei.grown cU (by simp; omega) (fun k e=>by cases e; omega)
   have SR:=cN oF cU (Nat.le_refl _);have pZ:∀W:World,Below W.heap.size W (W.alloc (.cells #[.int .i64 z,.int .i64 (1+(x:Int)),.slice none 0 0] 98)):=fun W=>(Below.refl _ _).alloc (Nat.le_refl _) _
   have PA:=Hid.mk' ((lC cR (.int .i64 z) (.int .i64 (1+(x:Int))) (.slice none 0 0)).1.below (pZ _));have DS:=Hid.mk' (lM.below (pZ _));have DT:=Hid.mk' (aZ SR (pZ _));clear cU lM SR pZ ei oF cR fR x8 kc Pz zU Lo;ab fail;refine bodyPost_ret (v:=.agg #[.int .i64 z,.int .i64 (1+(x:Int)),.slice none 0 0]) ?_ rfl ⟨(z,1+(x:Int),[]),_,⟨fl.out,by show 1+(x:Int)≤4; omega⟩,rfl,Aq _ _,DS.out,DT.out⟩
   simp[results,Tryz.results127,go_sem,PA.out.c0,PA.out.c1,PA.out.c2]
def MI(w0 w:World)(gc:Nat)(a:Option Addr)(len cap:Nat)(code:List UInt8)(e:Ending)(w':World):Prop:=
 ∃(r:Rc) (v:Value),(vB r∧PI r.2.1)∧e=.returned (.agg #[.int .i64 r.1,.int .i64 r.2.1,v])∧cS w' w.heap.size v r.2.2∧gY w0 w' gc a len cap code∧w.grownBy w' (some gc)
theorem PK(w0 w:World)(gc:Nat)(a:Option Addr)(len cap:Nat)(code:List UInt8)(h:gY w0 w gc a len cap code):
 Calls Tryz.prog 90 #[.pointer (some ⟨gc,0,none⟩)] w fun e w'=>MI w0 w gc a len cap code e w':=by
 have cZ:=h.lt;have rS:=h.ge;obtain⟨wa,jw⟩:∃wa,w.alloc (.cells #[.int .i64 0,.int .i64 0,.slice none 0 0] 98)=wa:=⟨_,rfl⟩;have bw:Below w.heap.size w wa:=by rw[←jw]; exact(Below.refl _ _).alloc (Nat.le_refl _) _
 have Hz:wa.heap.size=w.heap.size+1:=by rw[←jw]; simp
 have x6:V3 wa w.heap.size 98 (.int .i64 0) (.int .i64 0) (.slice none 0 0):=by rw[←jw]; exact heap_alloc_new w _
 have x7:=Hid.mk' jw;clear jw;aj Tryz.func90,Tryz.ntmps90;ab fail;rw[x7.out];clear x7;refine(PJ w0 _ gc a len cap code (h.below bw)).mono ?_;rintro e w1 ⟨⟨k,t,l⟩,v,⟨bR,S4⟩,rfl,o8,gL,ij⟩;have z8:=JY bR;have S4:PI t:=.inl S4;have Xp:0≤k∧k≤5:=z8.1;have Xq:0≤t∧t≤1000001:=z8.2.1;have Q6:l.length≤8:=z8.2.2.1;have Xr:Hid (∀p∈l,mu p):=z8.2.2.2;have o8:cS w1 wa.heap.size v l:=o8;obtain⟨pa,pc,hv,_,_⟩:=o8.sl;obtain⟨n,hn⟩:∃n,l.length=n:=⟨_,rfl⟩;rw[hn] at hv;subst hv;have bh:∀g,(Value.slice pa n pc).ownBlock=some g→w.heap.size<g∧g<w1.heap.size:=fun g e=>by have:=o8.lt g e; omega
 have pH:=cE x6 ij (by simp; omega)
 have E5:w.grownBy w1 (some gc):=az (aZ (World.grownBy.refl _ _) bw) ij;have ud:w.heap.size<w1.heap.size:=pH.lt;obtain⟨wb,nM⟩:∃wb,w1.alloc (.cells #[.int .i64 k,.int .i64 t,.slice pa n pc] 98)=wb:=⟨_,rfl⟩;have pY:Below w1.heap.size w1 wb:=by rw[←nM]; exact(Below.refl _ _).alloc (Nat.le_refl _) _
 have Z3:V3 wb w1.heap.size 98 (.int .i64 k) (.int .i64 t) (.slice pa n pc):=by rw[←nM]; exact heap_alloc_new w1 _
 have VG:=gL.below pY;have vD:=Hid.mk' (cH w0 wb gc a len cap code 8 VG (by omega) (by omega))
 rw[←nM] at vD;have NT:=Hid.mk' nM;have Z4:=pH.below pY;have SX:=o8.below pY;have Z5:=aZ E5 pY;clear nM pH E5 o8 gL ij bw x6 bR z8 VG;ab fail;refine vD.out.mono ?_;rw[NT.out];rintro e w2 ⟨x,hx,rfl,ei,lU⟩;have J5:=cE Z3 lU (by simp; omega)
 have dF:=cE Z4 lU (by simp; omega)
 have fS:=SX.grown lU (.inr fun e=>by have:=bh _ e; omega)
 have oF:=az Z5 lU;have pQ:w1.heap.size<w2.heap.size:=J5.lt;clear vD NT Z3 Z4 SX Z5 lU pY;by_cases x0:x=0
 · subst x0;ab fail;refine(cH w0 _ gc a len cap code _ ei (by omega) (by omega)).mono ?_
   rintro e w3 ⟨y,hy,rfl,fR,kQ⟩;have kc:=cE J5 kQ (by simp; omega)
   have cR:=cE dF kQ (by simp; omega)
   have ew:=fS.grown kQ (.inr fun e=>by have:=bh _ e; omega)
   have x8:=az oF kQ;have HT:Hid (vB ((y:Int),t,l)):=⟨⟨by show(0:Int)≤(y:Int); omega,by show(y:Int)≤5; omega⟩,Xq,Q6,Xr.out⟩
   clear J5 dF fS oF ei kQ;have t0:=kc.c0;have t1:=kc.c1;have t2:=kc.c2;have t3:=eH kc 0;have iY:=(oA kc).1 (.int .i64 (y:Int));have Bx:=cE cR iY.2 (by simp; omega)
   have eU:=fR.grown iY.2 (by simp; omega) (fun k e=>by cases e; omega)
   have By:=cN x8 iY.2 (by omega)
   have en:=ew.grown iY.2 (.inr fun e=>by have:=bh _ e; omega)
   have r0:=cR.c0;have q0:=eH cR 0;have r1:=cR.c1;have q1:=eH cR 1;have r2:=cR.c2;have q2:=eH cR 2;have cU:=(lC Bx (.int .i64 (y:Int)) (.int .i64 t) (.slice pa n pc)).2;have DS:=Hid.mk' (eU.grown cU (by simp; omega) (fun k e=>by cases e; omega))
   have DT:=Hid.mk' (cN By cU (Nat.le_refl _));have FI:=Hid.mk' ((en.grown cU (.inr fun e=>by have:=bh _ e; omega)).mono (base':=w.heap.size) (by omega))
   have db:w.heap.size≠w1.heap.size:=by omega
   clear cU eU By Bx en kc cR fR x8 ew bh iY;ab fail;refine bodyPost_ret (v:=.agg #[.int .i64 (y:Int),.int .i64 t,.slice pa n pc]) ?_ rfl ⟨((y:Int),t,l),_,⟨HT.out,S4⟩,rfl,FI.out,DS.out,DT.out⟩;simp[results,Tryz.results90,go_sem,r0,r1,r2]
 by_cases x1:x=1
 · subst x1;obtain⟨w4,iX⟩:∃w4,w2.alloc (.cells #[.int .i64 0,.int .i64 1000000,.int .i64 1000001] 3)=w4:=⟨_,rfl⟩;have eR:Below w2.heap.size w2 w4:=by rw[←iX]; exact(Below.refl _ _).alloc (Nat.le_refl _) _
   have lO:w4.heap[w2.heap.size]? =some (.cells #[.int .i64 0,.int .i64 1000000,.int .i64 1000001] 3):=by rw[←iX]; exact heap_alloc_new w2 _
   have nv:=Hid.mk' (vw w0 w4 gc a len cap code w2.heap.size 3 3 _ _ (ei.below eR) lO rfl (by omega) (by omega) (by omega) (fun z=>decide ((0≤z∧z≤1000001)∧(z≤4∨1000000≤z))=true) (iL _ 3 (fun z=>decide ((0≤z∧z≤1000001)∧(z≤4∨1000000≤z))) (by aa)))
   rw[←iX] at nv;have rT:=Hid.mk' iX;clear iX lO;ab fail;refine nv.out.mono ?_;rw[rT.out];rintro e w3 ⟨z,hz,rfl,fR,kQ⟩;have Lu:=of_decide_eq_true hz;have kc:=cE (J5.below eR) kQ (by simp; omega)
   have cR:=cE (dF.below eR) kQ (by simp; omega)
   have ew:=(fS.below eR).grown kQ (.inr fun e=>by have:=bh _ e; omega)
   have x8:=az (aZ oF eR) kQ;have HT:Hid (vB (k,z,l)):=⟨Xp,Lu.1,Q6,Xr.out⟩;clear J5 dF fS oF ei kQ nv rT eR hz;have t0:=kc.c0;have t1:=kc.c1;have t2:=kc.c2;have t3:=eH kc 1;have iY:=(oA kc).2.1 (.int .i64 z);have Bx:=cE cR iY.2 (by simp; omega)
   have eU:=fR.grown iY.2 (by simp; omega) (fun k e=>by cases e; omega)
   have By:=cN x8 iY.2 (by omega)
   have en:=ew.grown iY.2 (.inr fun e=>by have:=bh _ e; omega)
   have r0:=cR.c0;have q0:=eH cR 0;have r1:=cR.c1;have q1:=eH cR 1;have r2:=cR.c2;have q2:=eH cR 2;have cU:=(lC Bx (.int .i64 k) (.int .i64 z) (.slice pa n pc)).2;have DS:=Hid.mk' (eU.grown cU (by simp; omega) (fun k e=>by cases e; omega))
   have DT:=Hid.mk' (cN By cU (Nat.le_refl _));have FI:=Hid.mk' ((en.grown cU (.inr fun e=>by have:=bh _ e; omega)).mono (base':=w.heap.size) (by omega))
   have db:w.heap.size≠w1.heap.size:=by omega
   clear cU eU By Bx en kc cR fR x8 ew bh iY;ab fail;refine bodyPost_ret (v:=.agg #[.int .i64 k,.int .i64 z,.slice pa n pc]) ?_ rfl ⟨(k,z,l),_,⟨HT.out,Lu.2⟩,rfl,FI.out,DS.out,DT.out⟩;simp[results,Tryz.results90,go_sem,r0,r1,r2]
 by_cases x2:x=2
 · subst x2;ab fail;refine(PD w0 _ gc a len cap code ei).mono ?_;rintro e w3 ⟨g,m,cp,l3,hm,Z6,rfl,vF,fR,kQ⟩;have kc:=cE J5 kQ (by simp; omega)
   have cR:=cE dF kQ (by simp; omega)
   have x8:=az oF kQ;have ny:=vF.lt;have HT:Hid (vB (k,t,l3)):=⟨Xp,Xq,by show l3.length≤8; have:=vF.1; omega,Z6⟩
   have ew:=fK vF;have bh:∀g',(Value.slice (some ⟨g,0,none⟩) m cp).ownBlock=some g'→w1.heap.size<g':=fun g' e=>by cases e; show w1.heap.size<g; omega
   clear J5 dF fS oF ei kQ Z6 vF;have t0:=kc.c0;have t1:=kc.c1;have t2:=kc.c2;have t3:=eH kc 2;have iY:=(oA kc).2.2 (.slice (some ⟨g,0,none⟩) m cp);have Bx:=cE cR iY.2 (by simp; omega)
   have eU:=fR.grown iY.2 (by simp; omega) (fun k e=>by cases e; omega)
   have By:=cN x8 iY.2 (by omega)
   have en:=ew.grown iY.2 (.inr fun e=>by have:=bh _ e; omega)
   have r0:=cR.c0;have q0:=eH cR 0;have r1:=cR.c1;have q1:=eH cR 1;have r2:=cR.c2;have q2:=eH cR 2;have cU:=(lC Bx (.int .i64 k) (.int .i64 t) (.slice (some ⟨g,0,none⟩) m cp)).2;have DS:=Hid.mk' (eU.grown cU (by simp; omega) (fun k e=>by cases e; omega))
   have DT:=Hid.mk' (cN By cU (Nat.le_refl _));have FI:=Hid.mk' ((en.grown cU (.inr fun e=>by have:=bh _ e; omega)).mono (base':=w.heap.size) (by omega))
   have db:w.heap.size≠w1.heap.size:=by omega
   clear cU eU By Bx en kc cR fR x8 ew bh iY;ab fail;refine bodyPost_ret (v:=.agg #[.int .i64 k,.int .i64 t,.slice (some ⟨g,0,none⟩) m cp]) ?_ rfl ⟨(k,t,l3),_,⟨HT.out,S4⟩,rfl,FI.out,DS.out,DT.out⟩;simp[results,Tryz.results90,go_sem,r0,r1,r2]
 · have y0:¬(x:Int)=0:=by omega
   have y1:¬(x:Int)=1:=by omega
   have y2:¬(x:Int)=2:=by omega
   have z0:((x:Int)==0)=false:=beq_eq_false_iff_ne.2 y0;have z1:((x:Int)==1)=false:=beq_eq_false_iff_ne.2 y1;have z2:((x:Int)==2)=false:=beq_eq_false_iff_ne.2 y2;have HT:Hid (vB (k,t,l)):=⟨Xp,Xq,Q6,Xr.out⟩;have t0:=J5.c0;have t1:=J5.c1;have t2:=J5.c2;have Bx:=dF;have eU:=ei;have By:=oF;have en:=fS;have r0:=dF.c0;have q0:=eH dF 0;have r1:=dF.c1;have q1:=eH dF 1;have r2:=dF.c2;have q2:=eH dF 2;have cU:=(lC Bx (.int .i64 k) (.int .i64 t) (.slice pa n pc)).2;have DS:=Hid.mk' (eU.grown cU (by simp; omega) (fun k e=>by cases e; omega))
   have DT:=Hid.mk' (cN By cU (Nat.le_refl _));have FI:=Hid.mk' ((en.grown cU (.inr fun e=>by have:=bh _ e; omega)).mono (base':=w.heap.size) (by omega))
   have db:w.heap.size≠w1.heap.size:=by omega
   clear cU eU By Bx en J5 dF ei oF fS bh ;ab fail;refine bodyPost_ret (v:=.agg #[.int .i64 k,.int .i64 t,.slice pa n pc]) ?_ rfl ⟨(k,t,l),_,⟨HT.out,S4⟩,rfl,FI.out,DS.out,DT.out⟩;simp[results,Tryz.results90,go_sem,r0,r1,r2]
end bm
end Go.Proofs.YtmibabclefgljaaGreat
