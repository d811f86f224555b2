/- ImA ImB ShEx ShBd RecT4 -/
import Derived.Test.YtmibabclefgljaaGreatShan
import Derived.Test.YtmibabclefgljaaGreatShag
import Derived.Test.YtmibabclefgljaaGreatShar
import Derived.Test.YtmibabclefgljaaGreatShao
import Derived.Deep.RegionHeld3
import Derived.Test.YtmibabclefgljaaGreatShap
set_option linter.unusedVariables false
set_option linter.unusedSimpArgs false
set_option maxRecDepth 100000
set_option maxHeartbeats 2000000
namespace Go.Proofs.YtmibabclefgljaaGreat
namespace aZ
open Go Go.RowKit base av aN dp gu lay
theorem JQ(a a2:Option Addr)(len cap cn eg:Nat)(l l2:List Pr)(w:World)(h:lq w a len l)(h2:lq w a2 cn l2):
 Calls Tryz.prog 60 #[.slice a len cap,.slice a2 cn eg] w fun e w'=>e=.returned (.bool (decide (l=l2)))∧∃n,w'=w.drewN n:=by
 obtain⟨hl,hm,_,hc⟩:=h;obtain⟨jh,jD,_,dS⟩:=h2;subst hl jh;unfold maxLen at hm jD;by_cases aW:l.length=l2.length
 · have hb:((l.length:Int)==(l2.length:Int))=true:=by simp; omega
   go_enter Tryz.func60,Tryz.ntmps60;go_wp2_with fail;go_loopw [13] (fun i wr=>∃k:Nat,k≤l.length∧i=.int .i64 k∧l.take k=l2.take k∧∃n,wr=w.drewN n) (fun i _=>l.length - (intOf i).toNat)
   case atStart=>exact⟨0,Nat.zero_le _,rfl,rfl,0,rfl⟩
   case round=>
    obtain⟨k,hk,rfl,iF,n,rfl⟩:=hrel;by_cases a6:k<l.length
    · obtain⟨b,off,ha,cK⟩:=hc (by omega)
      obtain⟨b2,kx,sO,gM⟩:=dS (by omega)
      subst ha sO;have fB:k<l2.length:=by omega
      have Cc:(k:Int)<(l.length:Int):=by omega
      have Dl:(k:Int)<(l2.length:Int):=by omega
      obtain⟨c1,c2⟩:=cK k a6;obtain⟨c3,c4⟩:=gM k fB;by_cases e:l[k]=l2[k]
      · have HE:=Hid.mk' (uT iF a6 fB e);rw[←e] at c3 c4;clear cK gM hc dS iF aW e;generalize l[k]=p at *;go_wp2_with fail;go_quiet (fail)
        go_wp2_with fail;go_roundw
        case rel=>exact⟨k+1,by omega,by go_num,HE.out,_,rfl⟩
        case measure=>simp[intOf]; omega
      · have HE:Hid (¬l=l2):=by
         show¬_;rintro rfl; exact e rfl
        generalize l[k]=p at *;generalize l2[k]=q at *;clear cK gM hc dS iF aW;by_cases e1:p.1=q.1
        · have hq:=dP (fun e2:p.2=q.2=>e (Prod.ext e1 e2))
          rw[←e1] at c3;generalize p.1=p1 at *;generalize p.2=p2 at *;generalize q.2=q2 at *;clear e e1;go_wp2_with fail;go_quiet (fail)
          go_wp2_with fail;go_ret;exact⟨aj (by symm; rw[decide_eq_false_iff_not]; exact HE.out),_,World.drewN_drewN _ _ _⟩
        · have hq:=dP e1;generalize p.1=p1 at *;generalize p.2=p2 at *;generalize q.1=q1 at *;generalize q.2=q2 at *;clear e e1;go_wp2_with fail;go_quiet (fail)
          go_wp2_with fail;go_ret;exact⟨aj (by symm; rw[decide_eq_false_iff_not]; exact HE.out),_,World.drewN_drewN _ _ _⟩
    · have e:k=l.length:=by omega
      have cF:l=l2:=by
       subst e;rw[List.take_of_length_le (Nat.le_refl _),List.take_of_length_le (by omega)] at iF
       exact iF
      have HF:=Hid.mk' cF;clear cF iF;go_wp2_with fail;go_ret;exact⟨aj (by symm; rw[decide_eq_true_iff]; exact HF.out),_,rfl⟩
 · have hb:((l.length:Int)==(l2.length:Int))=false:=by simp; omega
   go_enter Tryz.func60,Tryz.ntmps60;go_wp2;go_ret;exact⟨aj (by symm; rw[decide_eq_false_iff_not]; intro h; exact aW (by rw[h])),0,rfl⟩
theorem Pv(a a2:Option Addr)(len cap cn eg:Nat)(l l2:List Od)(w:World)(h:dD w a len l)(h2:dD w a2 cn l2):
 Calls Tryz.prog 73 #[.slice a len cap,.slice a2 cn eg] w fun e w'=>e=.returned (.bool (decide (l=l2)))∧∃n,w'=w.drewN n:=by
 obtain⟨hl,hm,_,hc⟩:=h;obtain⟨jh,jD,_,dS⟩:=h2;subst hl jh;unfold maxLen at hm jD;by_cases aW:l.length=l2.length
 · have hb:((l.length:Int)==(l2.length:Int))=true:=by simp; omega
   go_enter Tryz.func73,Tryz.ntmps73;go_wp2_with fail;go_loopw [13] (fun i wr=>∃k:Nat,k≤l.length∧i=.int .i64 k∧l.take k=l2.take k∧∃n,wr=w.drewN n) (fun i _=>l.length - (intOf i).toNat)
   case atStart=>exact⟨0,Nat.zero_le _,rfl,rfl,0,rfl⟩
   case round=>
    obtain⟨k,hk,rfl,iF,n,rfl⟩:=hrel;by_cases a6:k<l.length
    · obtain⟨b,off,ha,cK⟩:=hc (by omega)
      obtain⟨b2,kx,sO,gM⟩:=dS (by omega)
      subst ha sO;have fB:k<l2.length:=by omega
      have Cc:(k:Int)<(l.length:Int):=by omega
      have Dl:(k:Int)<(l2.length:Int):=by omega
      obtain⟨c0,c1,c2⟩:=cK k a6;obtain⟨d0,d1,d2⟩:=gM k fB;by_cases e:l[k]=l2[k]
      · have HE:=Hid.mk' (uU iF a6 fB e);rw[←e] at d0 d1 d2;clear cK gM hc dS iF aW e;generalize l[k]=p at *;go_wp2_with fail;go_quiet (fail)
        go_wp2_with fail;go_roundw
        case rel=>exact⟨k+1,by omega,by go_num,HE.out,_,rfl⟩
        case measure=>simp[intOf]; omega
      · have HE:Hid (¬l=l2):=by
         show¬_;rintro rfl; exact e rfl
        generalize l[k]=p at *;generalize l2[k]=q at *;clear cK gM hc dS iF aW;obtain⟨p0,p1,p2⟩:=p;obtain⟨q0,q1,q2⟩:=q;simp only[] at c0 c1 c2 d0 d1 d2;by_cases e0:p0=q0
        · subst e0;have h0:(p0==p0)=true:=beq_self_eq_true _;by_cases e1:p1=q1
          · subst e1;have hq:=dP (fun e2:p2=q2=>e (by rw[e2]))
            clear e;go_wp2_with fail;go_quiet (fail)
            go_wp2_with fail;go_ret;exact⟨aj (by symm; rw[decide_eq_false_iff_not]; exact HE.out),_,World.drewN_drewN _ _ _⟩
          · have hq:=dP e1;clear e e1;go_wp2_with fail;go_quiet (fail)
            go_wp2_with fail;go_ret;exact⟨aj (by symm; rw[decide_eq_false_iff_not]; exact HE.out),_,World.drewN_drewN _ _ _⟩
        · have h0:(p0==q0)=false:=beq_eq_false_iff_ne.2 e0;clear e e0;go_wp2_with fail;go_quiet (fail)
          go_wp2_with fail;go_ret;exact⟨aj (by symm; rw[decide_eq_false_iff_not]; exact HE.out),_,World.drewN_drewN _ _ _⟩
    · have e:k=l.length:=by omega
      have cF:l=l2:=by
       subst e;rw[List.take_of_length_le (Nat.le_refl _),List.take_of_length_le (by omega)] at iF
       exact iF
      have HF:=Hid.mk' cF;clear cF iF;go_wp2_with fail;go_ret;exact⟨aj (by symm; rw[decide_eq_true_iff]; exact HF.out),_,rfl⟩
 · have hb:((l.length:Int)==(l2.length:Int))=false:=by simp; omega
   go_enter Tryz.func73,Tryz.ntmps73;go_wp2;go_ret;exact⟨aj (by symm; rw[decide_eq_false_iff_not]; intro h; exact aW (by rw[h])),0,rfl⟩
theorem Pw(id:Int)(w:World):
    Calls Tryz.prog 58 #[.int .i64 id] w fun e w'=>e=.returned (.bool (decide (0≤id∧id≤7)))∧w=w':=by
  by_cases h1:0≤id
  · by_cases h2:id≤7
    · go_enter Tryz.func58,Tryz.ntmps58;go_wp2;go_ret;exact⟨aj (by simp[h1,h2]),rfl⟩
    · go_enter Tryz.func58,Tryz.ntmps58;go_wp2;go_ret;exact⟨aj (by simp[h1,h2]),rfl⟩
  · go_enter Tryz.func58,Tryz.ntmps58;go_wp2;go_ret
    exact⟨aj (by have h3:¬ 0≤id:=by omega
                 simp[h3]),rfl⟩
theorem Mt(a a2:Option Addr)(len cap cn eg:Nat)(l l2:List Od)(w:World)(h:dD w a len l)(h2:dD w a2 cn l2):
 Calls Tryz.prog 73 #[.slice a len cap,.slice a2 cn eg] w fun e w'=>e=.returned (.bool (decide (l=l2)))∧Below w.heap.size w w':=by
 refine(Pv a a2 len cap cn eg l l2 w h h2).mono ?_;rintro e w' ⟨rfl,n,rfl⟩;exact⟨rfl,below_drewN (Below.refl _ _) n⟩
theorem Gp(x y:Rc)(pa qa:Option Addr)(pl pc ql qc:Nat)(w:World)(hx:dD w pa pl x.2.2)(hy:dD w qa ql y.2.2):
 Calls Tryz.prog 62 #[.agg #[.int .i64 x.1,.int .i64 x.2.1,.slice pa pl pc],.agg #[.int .i64 y.1,.int .i64 y.2.1,.slice qa ql qc]] w fun e w'=>e=.returned (.bool (decide (x=y)))∧Below w.heap.size w w':=by
 obtain⟨W,hW⟩:∃W,(w.alloc (.cells #[.int .i64 x.1,.int .i64 x.2.1,.slice pa pl pc] 98)).alloc (.cells #[.int .i64 y.1,.int .i64 y.2.1,.slice qa ql qc] 98)=W:=⟨_,rfl⟩;have hB:Below w.heap.size w W:=by rw[←hW]; exact((Below.refl _ _).alloc (Nat.le_refl _) _).alloc (by simp) _
 have HE:=Hid.mk' (Mt pa qa pl pc ql qc x.2.2 y.2.2 W (hx.below hB) (hy.below hB));have HW:=Hid.mk' hW;obtain⟨x1,x2,x3⟩:=x;obtain⟨y1,y2,y3⟩:=y;simp only[] at HE HW;clear hW hx hy;by_cases e1:x1=y1
 · subst e1;have hn:(x1==x1)=true:=by simp
   by_cases e2:x2=y2
   · subst e2;have hf:(x2==x2)=true:=by simp
     have HD:Hid (decide ((x1,x2,x3)=(x1,x2,y3))=decide (x3=y3)):=by show _=_; simp
     go_enter Tryz.func62,Tryz.ntmps62;go_wp2_with fail;rw[HW.out];refine HE.out.mono ?_;rintro e w1 ⟨rfl,aT⟩;have eU:=hB.trans (aT.mono hB.size);clear HE HW aT;go_wp2_with fail;go_ret;rw[HD.out];exact⟨rfl,eU⟩
   · have hf:(x2==y2)=false:=beq_eq_false_iff_ne.2 e2;have HD:Hid (decide ((x1,x2,x3)=(x1,y2,y3))=false):=by show _=_; simp[e2]
     clear e2;go_enter Tryz.func62,Tryz.ntmps62;go_wp2_with fail;go_ret;rw[HD.out,HW.out];exact⟨rfl,hB⟩
 · have hn:(x1==y1)=false:=beq_eq_false_iff_ne.2 e1;have HD:Hid (decide ((x1,x2,x3)=(y1,y2,y3))=false):=by show _=_; simp[e1]
   clear e1;go_enter Tryz.func62,Tryz.ntmps62;go_wp2_with fail;go_ret;rw[HD.out,HW.out];exact⟨rfl,hB⟩
theorem Mu(a a2:Option Addr)(len cap cn eg:Nat)(l l2:List Rc)(w:World)(h:rs w a len l)(h2:rs w a2 cn l2):
 Calls Tryz.prog 61 #[.slice a len cap,.slice a2 cn eg,.func (.func 62) #[] #[]] w fun e w'=>e=.returned (.bool (decide (l=l2)))∧Below w.heap.size w w':=by
 obtain⟨hl,hm,eW,hc⟩:=id h;obtain⟨jh,jD,wh,dS⟩:=id h2;subst hl jh;unfold maxLen at hm jD;by_cases aW:l.length=l2.length
 · have hb:((l.length:Int)==(l2.length:Int))=true:=by simp; omega
   go_enter Tryz.func61,Tryz.ntmps61;go_wp2_with fail;go_loopw [17] (fun i wr=>∃k:Nat,k≤l.length∧i=.int .i64 k∧l.take k=l2.take k∧Below w.heap.size w wr) (fun i _=>l.length - (intOf i).toNat)
   case atStart=>exact⟨0,Nat.zero_le _,rfl,rfl,Below.refl _ _⟩
   case round=>
    obtain⟨k,hk,rfl,iF,hB⟩:=hrel;by_cases a6:k<l.length
    · obtain⟨b,off,ha,cK⟩:=hc (by omega)
      obtain⟨b2,kx,sO,gM⟩:=dS (by omega)
      subst ha sO;have fB:k<l2.length:=by omega
      have fL:(k:Int)<(l.length:Int):=by omega
      have Wo:(k:Int)<(l2.length:Int):=by omega
      have i1:=h.at k a6;have i2:=h2.at k fB;obtain⟨c1,c2,pa,pl,pc,c3,Ny,_⟩:=i1.below hB;obtain⟨c4,c5,qa,ql,qc,c6,zD,_⟩:=i2.below hB;have gR:=World.block_lt_of_cell? _ _ c1;have lC:=World.block_lt_of_cell? _ _ c4;obtain⟨W1,sK⟩:∃W1,(wr.alloc (.cells #[.int .i64 l[k].1,.int .i64 l[k].2.1,.slice pa pl pc] 98))=W1:=⟨_,rfl⟩;have aT:Below wr.heap.size wr W1:=by rw[←sK]; exact(Below.refl _ _).alloc (Nat.le_refl _) _
      obtain⟨W2,Xa⟩:∃W2,(W1.alloc (.cells #[.int .i64 l2[k].1,.int .i64 l2[k].2.1,.slice qa ql qc] 98))=W2:=⟨_,rfl⟩;have aU:Below W1.heap.size W1 W2:=by rw[←Xa]; exact(Below.refl _ _).alloc (Nat.le_refl _) _
      have dw:=(hB.trans (aT.mono hB.size)).trans (aU.mono (Nat.le_trans hB.size aT.size));have Q6:=Hid.mk' (Gp l[k] l2[k] pa qa pl pc ql qc W2 ((Ny.below aT).below aU) ((zD.below aT).below aU));have K7:Hid (l[k]=l2[k]→l.take (k+1)=l2.take (k+1)):=fun e=>AY iF a6 fB e
      have Eh:Hid (¬l[k]=l2[k]→¬l=l2):=fun e e2=>e (by subst e2; rfl)
      have HW:Hid ((wr.alloc (.cells #[.int .i64 l[k].1,.int .i64 l[k].2.1,.slice pa pl pc] 98)).alloc (.cells #[.int .i64 l2[k].1,.int .i64 l2[k].2.1,.slice qa ql qc] 98)=W2):=by show _=_; rw[sK,Xa]
      clear cK gM hc dS i1 i2 eW wh h h2 Ny zD iF aW sK Xa aT aU;cases hd:decide (l[k]=l2[k]) with
      | true=>
       rw[hd] at Q6;have HE:=Hid.mk' (K7.out (of_decide_eq_true hd));clear hd K7 Eh;generalize l[k]=p at *;generalize l2[k]=q at *;go_wp2_with fail;rw[HW.out];refine Q6.out.mono ?_;rintro e w5 ⟨rfl,de⟩;have ec:=dw.trans (de.mono dw.size);clear Q6 HW;go_wp2_with fail;go_roundw
       case rel=>exact⟨k+1,by omega,by go_num,HE.out,ec⟩
       case measure=>simp[intOf]; omega
      | false=>
       rw[hd] at Q6;have HE:=Hid.mk' (Eh.out (of_decide_eq_false hd));clear hd K7 Eh;generalize l[k]=p at *;generalize l2[k]=q at *;go_wp2_with fail;rw[HW.out];refine Q6.out.mono ?_;rintro e w5 ⟨rfl,de⟩;have ec:=dw.trans (de.mono dw.size);clear Q6 HW;go_wp2_with fail;go_ret;exact⟨aj (by symm; rw[decide_eq_false_iff_not]; exact HE.out),ec⟩
    · have e:k=l.length:=by omega
      have cF:l=l2:=by
       subst e;rw[List.take_of_length_le (Nat.le_refl _),List.take_of_length_le (by omega)] at iF
       exact iF
      have HF:=Hid.mk' cF;clear cF iF;go_wp2_with fail;go_ret;exact⟨aj (by symm; rw[decide_eq_true_iff]; exact HF.out),hB⟩
 · have hb:((l.length:Int)==(l2.length:Int))=false:=by simp; omega
   go_enter Tryz.func61,Tryz.ntmps61;go_wp2;go_ret;exact⟨aj (by symm; rw[decide_eq_false_iff_not]; intro h; exact aW (by rw[h])),Below.refl _ _⟩
end aZ
namespace aZ
open Go Go.RowKit base av aN dp gu lay
def Bo(w:World)(id sure:Int)(la:Option Addr)(ln lc:Nat)(t:Option St)(e:Ending)(w':World):Prop:=
 ∃(g np cp g2 c2:Nat) (hs:List Value),e=.returned (.tuple #[bO id sure la ln lc (some ⟨g,0,none⟩) np cp (some ⟨g2,0,none⟩) (eO t).length c2,.bool t.isSome])∧
  bJ w' w.heap.size g np cp (pW t)∧bm w' w.heap.size (.slice (some ⟨g2,0,none⟩) (eO t).length c2) (eO t) hs∧¬c_ (.slice (some ⟨g2,0,none⟩) (eO t).length c2) hs g∧Below w.heap.size w w'
theorem Gq(id sure:Int)(la:Option Addr)(ln lc:Nat)(log:List Rc)(w:World)(h:rs w la ln log)(gd:j7 w la ln)(hf:vS log)(hl:ln≤1099511627776 / 16):
 Calls Tryz.prog 59 #[.int .i64 id,.slice la ln lc,.int .i64 sure] w fun e w'=>Bo w id sure la ln lc (replay log) e w':=by
 obtain⟨W,hW⟩:∃W,w.alloc (bW 0 0 none 0 0 none 0 0 none 0 0)=W:=⟨_,rfl⟩;have hB:Below w.heap.size w W:=by rw[←hW]; exact(Below.refl _ _).alloc (Nat.le_refl _) _
 have bt:au w.heap.size 43 [] (aK 0 0 none 0 0 none 0 0 none 0 0) [] W:=by rw[←hW]; exact aE w _ _
 have Xb:j7 W la ln:=fun b off e i hi pa pl pc hc=>by
  rcases Nat.eq_zero_or_pos ln with e0 | e0
  · omega
  · obtain⟨b',vY,e2,cK⟩:=h.2.2.2 e0;rw[e] at e2;simp only[Option.some.injEq,Addr.mk.injEq,and_true] at e2;obtain⟨rfl,rfl⟩:=e2;have a6:b<w.heap.size:=World.block_lt_of_cell? w _ (cK i (by have:=h.1; omega)).1
    exact gd b off e i hi pa pl pc ((hB.cell (p:=⟨b,off+i * 3+2,none⟩) a6).symm.trans hc)
 have Hk:=Hid.mk' (AA la ln lc log W (h.below hB) Xb hl hf);have HW:=Hid.mk' hW;have iN:=bt.lt;clear hW;generalize replay log=t at *;go_enter Tryz.func59,Tryz.ntmps59;go_wp2_with fail;rw[HW.out];refine Hk.out.mono ?_;rintro e w2 ⟨g,np,cp,g2,c2,hs,rfl,hO,nv,Ic,aU⟩;have hR:=bt.below aU;have hg:=hO.lt;have z0:=hR.cell 0 _ rfl;have z1:=hR.cell 1 _ rfl;have z2:=hR.cell 2 _ rfl;have z3:=hR.cell 3 _ rfl;have z4:=hR.cell 4 _ rfl;simp only[List.length_nil,Nat.zero_add] at z0 z1 z2 z3 z4;have f0:=hR.fz 0;have f1:=hR.fz 1;have f2:=hR.fz 2;have f3:=hR.fz 3;have f4:=hR.fz 4;have cB:=hR.ni (.int .i64 id) (.slice la ln lc) (.int .i64 sure) (.slice (some ⟨g,0,none⟩) np cp) (.slice (some ⟨g2,0,none⟩) (eO t).length c2);simp only[List.length_nil,Nat.zero_add] at cB;have dw:=hB.trans (aU.mono hB.size);have jy:=dw.grown cB.2 dw.size (fun j e=>by cases e; exact Nat.le_refl _)
 have jv:=(hO.mono (base':=w.heap.size) hB.size).grown cB.2 (fun e=>by have:=Option.some.inj e; omega)
 have SQ:=(nv.mono (base':=w.heap.size) hB.size).grown cB.2 (fun e=>by have:=(nv.lt _ e).1; omega)
 have dy:=cB.1.cell 0 _ rfl;have dz:=cB.1.cell 1 _ rfl;have dA:=cB.1.cell 2 _ rfl;have dB:=cB.1.cell 3 _ rfl;have dC:=cB.1.cell 4 _ rfl;simp only[List.length_nil,Nat.zero_add] at dy dz dA dB dC;have HP:Hid (Bo w id sure la ln lc t (.returned (.tuple #[bO id sure la ln lc (some ⟨g,0,none⟩) np cp (some ⟨g2,0,none⟩) (eO t).length c2,.bool t.isSome])) _):=⟨g,np,cp,g2,c2,hs,rfl,jv,SQ,Ic,jy⟩;clear jv SQ jy cB hO nv Hk HW;go_wp2_with fail;refine bodyPost_ret (v:=.tuple #[bO id sure la ln lc (some ⟨g,0,none⟩) np cp (some ⟨g2,0,none⟩) (eO t).length c2,.bool t.isSome]) ?_ rfl HP.out;simp[results,Tryz.results59,go_sem,dy,dz,dA,dB,dC]
theorem sV{w w':World}{a:Option Addr}{n:Nat}{l:List Rc}(h:rs w a n l)(hp:j7 w a n)(hB:Below w.heap.size w w'):j7 w' a n:=fun b off e i hi pa pl pc hc=>by
 rcases Nat.eq_zero_or_pos n with e0 | e0
 · omega
 · obtain⟨b',vY,e2,cK⟩:=h.2.2.2 e0;rw[e] at e2;simp only[Option.some.injEq,Addr.mk.injEq,and_true] at e2;obtain⟨rfl,rfl⟩:=e2;have a6:b<w.heap.size:=World.block_lt_of_cell? w _ (cK i (by have:=h.1; omega)).1
   exact hp b off e i hi pa pl pc ((hB.cell (p:=⟨b,off+i * 3+2,none⟩) a6).symm.trans hc)
theorem Bp{s:cQ}(h:300<s.2.1.length+s.2.2.2.2.length):bH s=false:=by
 cases hk:bH s with
 | false=>rfl
 | true=>have:=((nw s).1 hk).room; omega
theorem Bq{s:cQ}(h1:0≤s.1∧s.1≤7)(h2:s.2.1.length+s.2.2.2.2.length≤300)(h3:0≤s.2.2.1∧s.2.2.1≤(s.2.1.length:Int)):
 bH s=((replay s.2.1).isSome && decide (s.2.2.2.1=pW (replay s.2.1)) && decide (s.2.2.2.2=eO (replay s.2.1))):=by
 rw[sQ h1 (by omega) h3,Bool.eq_iff_iff]
 simp only[Bool.and_eq_true,decide_eq_true_iff];constructor
 · rintro⟨⟨⟨a,b⟩,c⟩,d⟩;exact⟨⟨a,b.symm⟩,c.symm⟩
 · rintro⟨⟨a,b⟩,c⟩;exact⟨⟨⟨a,b.symm⟩,c.symm⟩,by rw[←c]; exact h2⟩
theorem qx(la:Option Addr)(ln lc:Nat)(ma:Option Addr)(mn mc:Nat)(ha:Option Addr)(hn hc:Nat)(s:cQ)(w:World)(h:eK w la ln lc ma mn mc ha hn hc s)(gd:j7 w la ln)(hf:vS s.2.1)(vP:ln≤1099511627776)(Cf:hn≤1099511627776):
 Calls Tryz.prog 25 #[bO s.1 s.2.2.1 la ln lc ma mn mc ha hn hc] w fun e w'=>e=.returned (.bool (bH s))∧Below w.heap.size w w':=by
 have lP:=h.log.1;have xA:=h.held.1;obtain⟨W,hW⟩:∃W,w.alloc (bW s.1 s.2.2.1 la ln lc ma mn mc ha hn hc)=W:=⟨_,rfl⟩;have hB:Below w.heap.size w W:=by rw[←hW]; exact(Below.refl _ _).alloc (Nat.le_refl _) _
 have bt:au w.heap.size 43 [] (aK s.1 s.2.2.1 la ln lc ma mn mc ha hn hc) [] W:=by rw[←hW]; exact aE w _ _
 have sR:=Hid.mk' (fun wx=>Pw s.1 wx)
 have HW:=Hid.mk' hW;have c0:=bt.cell 0 _ rfl;have c1:=bt.cell 1 _ rfl;have c2:=bt.cell 2 _ rfl;have c4:=bt.cell 4 _ rfl;simp only[List.length_nil,Nat.zero_add] at c0 c1 c2 c4;rw[←hW] at c0 c1 c2 c4;have iN:=bt.lt;generalize hR:bH s=R;by_cases h1:0≤s.1∧s.1≤7
 · rw[decide_eq_true h1] at sR;by_cases h2:s.2.2.1<0
   · have lV:Hid (R=false):=by show _=_; rw[←hR]; exact nW (by omega)
     clear hR hW h h1 lP xA;go_enter Tryz.func25,Tryz.ntmps25;go_wp2_with fail;refine(sR.out _).mono ?_;rintro e w1 ⟨rfl,rfl⟩;go_wp2_with fail;go_ret;rw[lV.out,HW.out];exact⟨rfl,hB⟩
   · by_cases h3:(ln:Int)<s.2.2.1
     · have lV:Hid (R=false):=by show _=_; rw[←hR]; exact nW (by omega)
       clear hR hW h h1 lP xA;go_enter Tryz.func25,Tryz.ntmps25;go_wp2_with fail;refine(sR.out _).mono ?_;rintro e w1 ⟨rfl,rfl⟩;go_wp2_with fail;go_ret;rw[lV.out,HW.out];exact⟨rfl,hB⟩
     · by_cases h4:300<ln+hn
       · have lV:Hid (R=false):=by show _=_; rw[←hR]; exact Bp (by omega)
         have h4i:(300:Int)<(ln:Int)+(hn:Int):=by omega
         clear hR hW h h1 lP xA h4;go_enter Tryz.func25,Tryz.ntmps25;go_wp2_with fail;refine(sR.out _).mono ?_;rintro e w1 ⟨rfl,rfl⟩;go_wp2_with fail;go_ret;rw[lV.out,HW.out];exact⟨rfl,hB⟩
       · have h4i:¬(300:Int)<(ln:Int)+(hn:Int):=by omega
         have Hp:=Hid.mk' (Bq (s:=s) h1 (by omega) (by omega))
         have ZP:=Hid.mk' (Gq s.1 s.2.2.1 la ln lc s.2.1 W (h.log.below hB) (sV h.log gd hB) hf (by omega))
         have hS:=h;generalize hT:replay s.2.1=t at *;have HR:Hid (R=(t.isSome && decide (s.2.2.2.1=pW t) && decide (s.2.2.2.2=eO t))):=by show _=_; rw[←hR]; exact Hp.out
         clear hR Hp hW h h1 lP xA h4 hT;go_enter Tryz.func25,Tryz.ntmps25;go_wp2_with fail;refine(sR.out _).mono ?_;rintro e w1 ⟨rfl,rfl⟩;go_wp2_with fail;rw[HW.out];refine ZP.out.mono ?_;rintro e w2 ⟨g,np,cp,g2,oJ,hs,rfl,hO,nv,_,aU⟩;obtain⟨W3,zA⟩:∃W3,w2.alloc (bW s.1 s.2.2.1 la ln lc (some ⟨g,0,none⟩) np cp (some ⟨g2,0,none⟩) (eO t).length oJ)=W3:=⟨_,rfl⟩;have dt:Below w2.heap.size w2 W3:=by rw[←zA]; exact(Below.refl _ _).alloc (Nat.le_refl _) _
         have rL:=(bt.below aU).below dt;have Px:au w2.heap.size 43 [] (aK s.1 s.2.2.1 la ln lc (some ⟨g,0,none⟩) np cp (some ⟨g2,0,none⟩) (eO t).length oJ) [] W3:=by rw[←zA]; exact aE w2 _ _
         have dw:=hB.trans (aU.mono hB.size);have cJ:=dw.trans (dt.mono dw.size);have d3:=rL.cell 3 _ rfl;have d4:=rL.cell 4 _ rfl;have e3:=Px.cell 3 _ rfl;have e4:=Px.cell 4 _ rfl;simp only[List.length_nil,Nat.zero_add] at d3 d4 e3 e4;rw[←zA] at d3 d4 e3 e4;have zB:=Hid.mk' zA;have xe:=Hid.mk' (JQ ma (some ⟨g,0,none⟩) mn mc np cp s.2.2.2.1 (pW t) W3 (hS.map.below cJ) (hO.below dt).sl);have th:=Hid.mk' (fun wx (hx:Below W3.heap.size W3 wx)=>Mu ha (some ⟨g2,0,none⟩) hn hc _ oJ s.2.2.2.2 (eO t) wx ((hS.held.below cJ).below hx) ((nv.below dt).sl.below hx))
         clear ZP sR HW c0 c1 c2 c4 hO nv zA;cases Mc:t.isSome with
         | false=>
          have lV:Hid (R=false):=by show _=_; rw[HR.out,Mc]; rfl
          clear HR xe th;go_wp2_with fail;go_ret;rw[lV.out,zB.out];exact⟨rfl,cJ⟩
         | true=>
          have mg:∀n,Below W3.heap.size W3 (W3.drewN n):=fun n=>below_drewN (Below.refl _ _) n
          by_cases q1:s.2.2.2.1=pW t
          · rw[decide_eq_true q1] at xe;have lV:Hid (R=decide (s.2.2.2.2=eO t)):=by show _=_; rw[HR.out,Mc,decide_eq_true q1]; rfl
            clear HR q1;go_wp2_with fail;rw[zB.out];refine xe.out.mono ?_;rintro e w4 ⟨rfl,n4,rfl⟩;have k4:=(rL.below (mg n4)).cell 4 _ rfl;have m4:=(Px.below (mg n4)).cell 4 _ rfl;simp only[List.length_nil,Nat.zero_add] at k4 m4;go_wp2_with fail;refine(th.out _ (mg n4)).mono ?_;rintro e w5 ⟨rfl,de⟩;have ec:=cJ.trans ((mg n4).mono cJ.size) |>.trans (de.mono (Nat.le_trans cJ.size (mg n4).size))
            clear xe th d3 d4 e3 e4 k4 m4;go_wp2_with fail;go_ret;rw[lV.out];exact⟨rfl,ec⟩
          · rw[decide_eq_false q1] at xe;have lV:Hid (R=false):=by show _=_; rw[HR.out,decide_eq_false q1]; simp
            clear HR q1;go_wp2_with fail;rw[zB.out];refine xe.out.mono ?_;rintro e w4 ⟨rfl,n4,rfl⟩;have ec:=cJ.trans ((mg n4).mono cJ.size);clear xe th d3 d4 e3 e4;go_wp2_with fail;go_ret;rw[lV.out];exact⟨rfl,ec⟩
 · rw[decide_eq_false h1] at sR;have lV:Hid (R=false):=by show _=_; rw[←hR]; exact sP h1
   clear hR hW h h1 lP xA;go_enter Tryz.func25,Tryz.ntmps25;go_wp2_with fail;refine(sR.out _).mono ?_;rintro e w1 ⟨rfl,rfl⟩;go_wp2_with fail;go_ret;rw[lV.out,HW.out];exact⟨rfl,hB⟩
end aZ
namespace aZ
open Go Go.RowKit base av aN dp gu lay
theorem fS{w:World}{o:Obj}:Below w.heap.size w (w.alloc o):=(Below.refl _ _).alloc (Nat.le_refl _) _
structure xc (s:cQ):Prop where
 jB:vS s.2.1
 zU:vS s.2.2.2.2
 log:s.2.1.length≤1048576
 map:s.2.2.2.1.length≤1048576
 held:s.2.2.2.2.length≤1048576
 qv:Gn s≤3145728
theorem cY.plain{w:World}{ln lc mn mc hn hc gl:Nat}{ma ha:Option Addr}{s:cQ}{F:List Nat}(h:cY w (some ⟨gl,0,none⟩) ln lc ma mn mc ha hn hc s F):j7 w (some ⟨gl,0,none⟩) ln:=by
 obtain⟨hl,q1,_⟩:=h.log;exact q1.plain
theorem cY.H5{w:World}{la ma ha:Option Addr}{ln lc mn mc hn hc:Nat}{s:cQ}{F:List Nat}(h:cY w la ln lc ma mn mc ha hn hc s F):j7 w la ln∧j7 w ha hn:=by
 obtain⟨hl,q1,hh,q3,_⟩:=h.log;refine⟨?_,?_⟩
 · rcases q1.shape with⟨e,_⟩ | ⟨g,c,e,_⟩
   · cases e; intro b off e; cases e
   · cases e; exact q1.plain
 · rcases q3.shape with⟨e,_⟩ | ⟨g,c,e,_⟩
   · cases e; intro b off e; cases e
   · cases e; exact q3.plain
theorem eK.jB{w:World}{la ma ha:Option Addr}{ln lc mn mc hn hc:Nat}{s:cQ}(h:eK w la ln lc ma mn mc ha hn hc s)(b:xc s):ln≤1048576∧mn≤1048576∧hn≤1048576:=by
 obtain⟨l1,l2,l3⟩:=eK.lens h;have h1:=b.log;have h2:=b.map;have h3:=b.held;omega
def zT(w:World)(r:cQ)(e:Ending)(w':World):Prop:=
 ∃(la:Option Addr) (ln lc:Nat) (ma:Option Addr) (mn mc:Nat) (ha:Option Addr) (hn hc:Nat) (F:List Nat),e=.returned (bO r.1 r.2.2.1 la ln lc ma mn mc ha hn hc)∧cY w' la ln lc ma mn mc ha hn hc r F∧(∀k∈F,w.heap.size≤k)∧Below w.heap.size w w'
abbrev ER(w:World)(X:Nat)(la:Option Addr)(ln lc:Nat)(ma:Option Addr)(mn mc:Nat)(ha:Option Addr)(hn hc:Nat)(s:cQ)(F:List Nat):Prop:=gH w X 43 [] [] la ln lc ma mn mc ha hn hc s F
section
variable{w w':World}{X:Nat}{la ma ha:Option Addr}{ln lc mn mc hn hc:Nat}{s s':cQ}{F G:List Nat}
theorem lz(h:cY w la ln lc ma mn mc ha hn hc s F):ER (w.alloc (bW s.1 s.2.2.1 la ln lc ma mn mc ha hn hc)) w.heap.size la ln lc ma mn mc ha hn hc s F:=
 ⟨aE w _ _,h.below fS,fun e=>by have:=h.lt _ e; omega⟩
theorem gH.cells(h:ER w X la ln lc ma mn mc ha hn hc s F):w.cell? ⟨X,0,none⟩=some (.int .i64 s.1)∧w.cell? ⟨X,1,none⟩=some (.slice la ln lc)∧w.cell? ⟨X,2,none⟩=some (.int .i64 s.2.2.1)∧w.cell? ⟨X,3,none⟩=some (.slice ma mn mc)∧w.cell? ⟨X,4,none⟩=some (.slice ha hn hc):=by
 have a0:=h.box.cell 0 _ rfl;have a1:=h.box.cell 1 _ rfl;have a2:=h.box.cell 2 _ rfl;have a3:=h.box.cell 3 _ rfl;have a4:=h.box.cell 4 _ rfl;simp only[List.length_nil,Nat.zero_add] at a0 a1 a2 a3 a4;exact⟨a0,a1,a2,a3,a4⟩
end
end aZ
namespace aZ
open Go Go.RowKit base av aN dp gu lay
theorem l6{r:Rc}(h:bf r=true):r.2.2.length≤8∧∀p∈r.2.2,p.2.1.size≤1099511627776:=by
 rcases((bE r).1 h).2 with⟨_,h2⟩ | ⟨_,h2⟩
 · refine⟨((bq _).1 h2).2.2,fun p hp=>?_⟩
   have h3:=((bq _).1 h2).1.1 p hp;have h5:=pP ((jT p).1 h3).2.2.1;omega
 · rw[h2]; exact⟨by simp,fun p hp=>absurd hp List.not_mem_nil⟩
theorem tT{l:List Rc}(h:∀r∈l,r.2.2.length≤8):kB l≤26 * l.length:=by
 induction l with
 | nil=>simp[kB]
 | cons r l ih=>
  have h1:=h r List.mem_cons_self;have h2:=ih (fun x hx=>h x (List.mem_cons_of_mem _ hx))
  unfold kB at h2 ⊢;simp only[List.map_cons,List.sum_cons,List.length_cons];omega
theorem JR{l:List Rc}(h:∀r∈l,bf r=true):vS l:=fun r hr=>⟨by have:=(l6 (h r hr)).1; omega,(l6 (h r hr)).2⟩
theorem JS{s:cQ}(h:bZ s):xc s:=by
 have h1:=h.room;obtain⟨seen,hm⟩:=h.made;have h2:=((kE _).1 (rH hm).1).2;have h3:=tT (fun r hr=>(l6 (h.bf r hr)).1)
 have h4:=tT (l:=s.2.2.2.2) (fun r hr=>(l6 (h.bf r (h.oR r hr).1)).1)
 simp only[] at h2;refine⟨JR h.bf,JR (fun r hr=>h.bf r (h.oR r hr).1),by omega,by omega,by omega,?_⟩
 unfold Gn;omega
end aZ
namespace aZ
open Go Go.RowKit base av draw aN
def Py(t:Int):Prop:=t≤4∨1000000≤t
def Mv(w0 w:World)(gc:Nat)(a:Option Addr)(len cap:Nat)(code:List UInt8)(e:Ending)(w':World):Prop:=
 ∃(r:Rc) (v:Value),(bf r=true∧r.2.1≤4)∧e=.returned (.agg #[.int .i64 r.1,.int .i64 r.2.1,v])∧cD w' w.heap.size v r.2.2∧gI w0 w' gc a len cap code∧w.grownBy w' (some gc)
theorem Pz(w0 w:World)(gc:Nat)(a:Option Addr)(len cap:Nat)(code:List UInt8)(h:gI w0 w gc a len cap code):
 Calls Tryz.prog 127 #[.pointer (some ⟨gc,0,none⟩)] w fun e w'=>Mv w0 w gc a len cap code e w':=by
 have cK:=h.lt;have ry:=h.ge;obtain⟨wa,jd⟩:∃wa,w.alloc (.cells #[.int .i64 0,.int .i64 0,.slice none 0 0] 98)=wa:=⟨_,rfl⟩;have bg:Below w.heap.size w wa:=by rw[←jd]; exact(Below.refl _ _).alloc (Nat.le_refl _) _
 have Ho:wa.heap.size=w.heap.size+1:=by rw[←jd]; simp
 have xI:V3 wa w.heap.size 98 (.int .i64 0) (.int .i64 0) (.slice none 0 0):=by rw[←jd]; exact heap_alloc_new w _
 have xJ:=Hid.mk' jd;clear jd;go_enter Tryz.func127,Tryz.ntmps127;go_wp2_with fail;rw[xJ.out];clear xJ;have pF:Below wa.heap.size wa (wa.alloc (.cells #[.int .i64 1,.int .i64 1,.int .i64 2,.int .i64 3] 3)):=(Below.refl _ _).alloc (Nat.le_refl _) _;have hL:=heap_alloc_new wa (.cells #[.int .i64 1,.int .i64 1,.int .i64 2,.int .i64 3] 3);rw[Ho] at hL;refine(u7 w0 _ gc a len cap code (w.heap.size+1) 4 4 _ _ ((h.below bg).below pF) hL rfl (by omega) (by omega) (by omega) (fun z=>decide (1≤z∧z≤3)=true) (ir _ 4 (fun z=>decide (1≤z∧z≤3)) (by kernel_rfl))).mono ?_
 rintro e w1 ⟨z,hz,rfl,gk,gR⟩;go_wp2_with fail;refine(cf w0 _ gc a len cap code _ gk (by omega) (by omega)).mono ?_
 rintro e w2 ⟨x,hx,rfl,dS,lC⟩;have pf:=xI.below pF;have dn:=b_ pf gR (by simp; omega)
 have cC:=b_ dn lC (by simp; omega)
 have n9:w.grownBy w2 (some gc):=ao (aP (aP (World.grownBy.refl _ _) bg) pF) (ao gR lC);have gM:=dS.lt;have px:w.heap.size<w2.heap.size:=cC.lt;clear pf dn xI hL gk gR lC bg;obtain⟨w3,ls⟩:∃w3,w2.alloc (.cells #[.int .i64 z,.int .i64 (1+(x:Int)),.slice none 0 0] 98)=w3:=⟨_,rfl⟩;have dt:Below w2.heap.size w2 w3:=by rw[←ls]; exact(Below.refl _ _).alloc (Nat.le_refl _) _
 have jP:V3 w3 w2.heap.size 98 (.int .i64 z) (.int .i64 (1+(x:Int))) (.slice none 0 0):=by rw[←ls]; exact heap_alloc_new w2 _
 have Lc:w3.heap.size=w2.heap.size+1:=by rw[←ls]; simp
 have Po:=cC.below dt;have fD:=dS.below dt;have xK:=aP n9 dt;have Li:=of_decide_eq_true hz;have zB:=Hid.mk' ls;clear ls dt hz;by_cases dk:z=1
 · subst dk;have Xc:=Hid.mk' (qZ w0 w3 gc a len cap code fD);rw[←zB.out] at Xc;clear cC dS n9 fD;go_wp2_with fail;refine Xc.out.mono ?_;rw[zB.out];rintro e w5 ⟨g,n,cp,l,hn,bD,rfl,eh,je,g_⟩;have ti:=b_ jP g_ (by simp; omega)
   have Bh:=b_ Po g_ (by simp; omega)
   have Pq:=ao xK g_;have m5:=eh.lt;have eX:Hid (bf ((1:Int),1+(x:Int),l)=true):=(bE _).2 ⟨⟨by show(1:Int)≤1+(x:Int); omega,by show 1+(x:Int)≤1000000; omega⟩,.inl ⟨rfl,bD⟩⟩
   clear Xc zB jP Po xK g_ bD;have t0:=ti.c0;have t1:=ti.c1;have t2:=ti.c2;have t3:=en ti 2;have iI:=(nV ti).2.2 (.slice (some ⟨g,0,none⟩) n cp);have Bi:=b_ Bh iI.2 (by simp; omega)
   have eG:=je.grown iI.2 (by simp; omega) (fun k e=>by cases e; omega)
   have Bj:=cv Pq iI.2 (by omega)
   have dV:=eh.grown iI.2 (by simp; omega)
   have r0:=Bh.c0;have r1:=Bh.c1;have r2:=Bh.c2;have q0:=en Bh 0;have q1:=en Bh 1;have q2:=en Bh 2;have cF:=(k8 Bi (.int .i64 1) (.int .i64 (1+(x:Int))) (.slice (some ⟨g,0,none⟩) n cp)).2;have DD:=Hid.mk' (eG.grown cF (by simp; omega) (fun k e=>by cases e; omega))
   have DE:=Hid.mk' (cv Bj cF (Nat.le_refl _));have Fo:=Hid.mk' (fv ((dV.grown cF (by simp; omega)).mono (base':=w.heap.size) (by omega)))
   have cN:w.heap.size≠w2.heap.size:=by omega
   clear cF eG Bj Bi iI ti Bh je Pq eh dV;go_wp2_with fail;refine bodyPost_ret (v:=.agg #[.int .i64 1,.int .i64 (1+(x:Int)),.slice (some ⟨g,0,none⟩) n cp]) ?_ rfl ⟨((1:Int),1+(x:Int),l),_,⟨eX.out,by show 1+(x:Int)≤4; omega⟩,rfl,Fo.out,DD.out,DE.out⟩
   simp[results,Tryz.results127,go_sem,r0,r1,r2]
 · have ZN:(z==1)=false:=beq_eq_false_iff_ne.2 dk;have eX:Hid (bf (z,1+(x:Int),[])=true):=(bE _).2 ⟨⟨by show(1:Int)≤1+(x:Int); omega,by show 1+(x:Int)≤1000000; omega⟩,.inr ⟨by show z=2∨z=3; omega,rfl⟩⟩
   have r0:=cC.c0;have r1:=cC.c1;have r2:=cC.c2;have q0:=en cC 0;have q1:=en cC 1;have q2:=en cC 2;have cF:=(k8 cC (.int .i64 z) (.int .i64 (1+(x:Int))) (.slice none 0 0)).2;have lr:=dS.grown cF (by simp; omega) (fun k e=>by cases e; omega)
   have SH:=cv n9 cF (Nat.le_refl _);have pG:∀W:World,Below W.heap.size W (W.alloc (.cells #[.int .i64 z,.int .i64 (1+(x:Int)),.slice none 0 0] 98)):=fun W=>(Below.refl _ _).alloc (Nat.le_refl _) _
   have Pp:=Hid.mk' ((k8 cC (.int .i64 z) (.int .i64 (1+(x:Int))) (.slice none 0 0)).1.below (pG _));have DD:=Hid.mk' (lr.below (pG _));have DE:=Hid.mk' (aP SH (pG _));clear cF lr SH pG dS n9 cC fD xK jP Po zB Lc;go_wp2_with fail;refine bodyPost_ret (v:=.agg #[.int .i64 z,.int .i64 (1+(x:Int)),.slice none 0 0]) ?_ rfl ⟨(z,1+(x:Int),[]),_,⟨eX.out,by show 1+(x:Int)≤4; omega⟩,rfl,Aa _ _,DD.out,DE.out⟩
   simp[results,Tryz.results127,go_sem,Pp.out.c0,Pp.out.c1,Pp.out.c2]
def Mw(w0 w:World)(gc:Nat)(a:Option Addr)(len cap:Nat)(code:List UInt8)(e:Ending)(w':World):Prop:=
 ∃(r:Rc) (v:Value),(va r∧Py r.2.1)∧e=.returned (.agg #[.int .i64 r.1,.int .i64 r.2.1,v])∧cD w' w.heap.size v r.2.2∧gI w0 w' gc a len cap code∧w.grownBy w' (some gc)
theorem PA(w0 w:World)(gc:Nat)(a:Option Addr)(len cap:Nat)(code:List UInt8)(h:gI w0 w gc a len cap code):
 Calls Tryz.prog 90 #[.pointer (some ⟨gc,0,none⟩)] w fun e w'=>Mw w0 w gc a len cap code e w':=by
 have cK:=h.lt;have ry:=h.ge;obtain⟨wa,jd⟩:∃wa,w.alloc (.cells #[.int .i64 0,.int .i64 0,.slice none 0 0] 98)=wa:=⟨_,rfl⟩;have bg:Below w.heap.size w wa:=by rw[←jd]; exact(Below.refl _ _).alloc (Nat.le_refl _) _
 have Ho:wa.heap.size=w.heap.size+1:=by rw[←jd]; simp
 have xI:V3 wa w.heap.size 98 (.int .i64 0) (.int .i64 0) (.slice none 0 0):=by rw[←jd]; exact heap_alloc_new w _
 have xJ:=Hid.mk' jd;clear jd;go_enter Tryz.func90,Tryz.ntmps90;go_wp2_with fail;rw[xJ.out];clear xJ;refine(Pz w0 _ gc a len cap code (h.below bg)).mono ?_;rintro e w1 ⟨⟨k,t,l⟩,v,⟨bD,SR⟩,rfl,oI,gk,gR⟩;have zJ:=JM bD;have SR:Py t:=.inl SR;have Xd:0≤k∧k≤5:=zJ.1;have Xe:0≤t∧t≤1000001:=zJ.2.1;have QW:l.length≤8:=zJ.2.2.1;have Xf:Hid (∀p∈l,l0 p):=zJ.2.2.2;have oI:cD w1 wa.heap.size v l:=oI;obtain⟨pa,pc,hv,_,_⟩:=oI.sl;obtain⟨n,hn⟩:∃n,l.length=n:=⟨_,rfl⟩;rw[hn] at hv;subst hv;have aW:∀g,(Value.slice pa n pc).ownBlock=some g→w.heap.size<g∧g<w1.heap.size:=fun g e=>by have:=oI.lt g e; omega
 have pf:=b_ xI gR (by simp; omega)
 have EP:w.grownBy w1 (some gc):=ao (aP (World.grownBy.refl _ _) bg) gR;have tL:w.heap.size<w1.heap.size:=pf.lt;obtain⟨wb,nt⟩:∃wb,w1.alloc (.cells #[.int .i64 k,.int .i64 t,.slice pa n pc] 98)=wb:=⟨_,rfl⟩;have pF:Below w1.heap.size w1 wb:=by rw[←nt]; exact(Below.refl _ _).alloc (Nat.le_refl _) _
 have ZQ:V3 wb w1.heap.size 98 (.int .i64 k) (.int .i64 t) (.slice pa n pc):=by rw[←nt]; exact heap_alloc_new w1 _
 have Vu:=gk.below pF;have vc:=Hid.mk' (cf w0 wb gc a len cap code 8 Vu (by omega) (by omega))
 rw[←nt] at vc;have NH:=Hid.mk' nt;have ZR:=pf.below pF;have SM:=oI.below pF;have ZS:=aP EP pF;clear nt pf EP oI gk gR bg xI bD zJ Vu;go_wp2_with fail;refine vc.out.mono ?_;rw[NH.out];rintro e w2 ⟨x,hx,rfl,dS,lC⟩;have JT:=b_ ZQ lC (by simp; omega)
 have dn:=b_ ZR lC (by simp; omega)
 have fE:=SM.grown lC (.inr fun e=>by have:=aW _ e; omega)
 have n9:=ao ZS lC;have px:w1.heap.size<w2.heap.size:=JT.lt;clear vc NH ZQ ZR SM ZS lC pF;by_cases x0:x=0
 · subst x0;go_wp2_with fail;refine(cf w0 _ gc a len cap code _ dS (by omega) (by omega)).mono ?_
   rintro e w3 ⟨y,hy,rfl,fD,ky⟩;have jP:=b_ JT ky (by simp; omega)
   have cC:=b_ dn ky (by simp; omega)
   have d_:=fE.grown ky (.inr fun e=>by have:=aW _ e; omega)
   have xK:=ao n9 ky;have HT:Hid (va ((y:Int),t,l)):=⟨⟨by show(0:Int)≤(y:Int); omega,by show(y:Int)≤5; omega⟩,Xe,QW,Xf.out⟩
   clear JT dn fE n9 dS ky;have t0:=jP.c0;have t1:=jP.c1;have t2:=jP.c2;have t3:=en jP 0;have iI:=(nV jP).1 (.int .i64 (y:Int));have Bi:=b_ cC iI.2 (by simp; omega)
   have eG:=fD.grown iI.2 (by simp; omega) (fun k e=>by cases e; omega)
   have Bj:=cv xK iI.2 (by omega)
   have dV:=d_.grown iI.2 (.inr fun e=>by have:=aW _ e; omega)
   have r0:=cC.c0;have q0:=en cC 0;have r1:=cC.c1;have q1:=en cC 1;have r2:=cC.c2;have q2:=en cC 2;have cF:=(k8 Bi (.int .i64 (y:Int)) (.int .i64 t) (.slice pa n pc)).2;have DD:=Hid.mk' (eG.grown cF (by simp; omega) (fun k e=>by cases e; omega))
   have DE:=Hid.mk' (cv Bj cF (Nat.le_refl _));have Fo:=Hid.mk' ((dV.grown cF (.inr fun e=>by have:=aW _ e; omega)).mono (base':=w.heap.size) (by omega))
   have cN:w.heap.size≠w1.heap.size:=by omega
   clear cF eG Bj Bi dV jP cC fD xK d_ aW iI;go_wp2_with fail;refine bodyPost_ret (v:=.agg #[.int .i64 (y:Int),.int .i64 t,.slice pa n pc]) ?_ rfl ⟨((y:Int),t,l),_,⟨HT.out,SR⟩,rfl,Fo.out,DD.out,DE.out⟩;simp[results,Tryz.results90,go_sem,r0,r1,r2]
 by_cases x1:x=1
 · subst x1;obtain⟨w4,iH⟩:∃w4,w2.alloc (.cells #[.int .i64 0,.int .i64 1000000,.int .i64 1000001] 3)=w4:=⟨_,rfl⟩;have eD:Below w2.heap.size w2 w4:=by rw[←iH]; exact(Below.refl _ _).alloc (Nat.le_refl _) _
   have lu:w4.heap[w2.heap.size]? =some (.cells #[.int .i64 0,.int .i64 1000000,.int .i64 1000001] 3):=by rw[←iH]; exact heap_alloc_new w2 _
   have mY:=Hid.mk' (u7 w0 w4 gc a len cap code w2.heap.size 3 3 _ _ (dS.below eD) lu rfl (by omega) (by omega) (by omega) (fun z=>decide ((0≤z∧z≤1000001)∧(z≤4∨1000000≤z))=true) (ir _ 3 (fun z=>decide ((0≤z∧z≤1000001)∧(z≤4∨1000000≤z))) (by kernel_rfl)))
   rw[←iH] at mY;have rz:=Hid.mk' iH;clear iH lu;go_wp2_with fail;refine mY.out.mono ?_;rw[rz.out];rintro e w3 ⟨z,hz,rfl,fD,ky⟩;have Li:=of_decide_eq_true hz;have jP:=b_ (JT.below eD) ky (by simp; omega)
   have cC:=b_ (dn.below eD) ky (by simp; omega)
   have d_:=(fE.below eD).grown ky (.inr fun e=>by have:=aW _ e; omega)
   have xK:=ao (aP n9 eD) ky;have HT:Hid (va (k,z,l)):=⟨Xd,Li.1,QW,Xf.out⟩;clear JT dn fE n9 dS ky mY rz eD hz;have t0:=jP.c0;have t1:=jP.c1;have t2:=jP.c2;have t3:=en jP 1;have iI:=(nV jP).2.1 (.int .i64 z);have Bi:=b_ cC iI.2 (by simp; omega)
   have eG:=fD.grown iI.2 (by simp; omega) (fun k e=>by cases e; omega)
   have Bj:=cv xK iI.2 (by omega)
   have dV:=d_.grown iI.2 (.inr fun e=>by have:=aW _ e; omega)
   have r0:=cC.c0;have q0:=en cC 0;have r1:=cC.c1;have q1:=en cC 1;have r2:=cC.c2;have q2:=en cC 2;have cF:=(k8 Bi (.int .i64 k) (.int .i64 z) (.slice pa n pc)).2;have DD:=Hid.mk' (eG.grown cF (by simp; omega) (fun k e=>by cases e; omega))
   have DE:=Hid.mk' (cv Bj cF (Nat.le_refl _));have Fo:=Hid.mk' ((dV.grown cF (.inr fun e=>by have:=aW _ e; omega)).mono (base':=w.heap.size) (by omega))
   have cN:w.heap.size≠w1.heap.size:=by omega
   clear cF eG Bj Bi dV jP cC fD xK d_ aW iI;go_wp2_with fail;refine bodyPost_ret (v:=.agg #[.int .i64 k,.int .i64 z,.slice pa n pc]) ?_ rfl ⟨(k,z,l),_,⟨HT.out,Li.2⟩,rfl,Fo.out,DD.out,DE.out⟩;simp[results,Tryz.results90,go_sem,r0,r1,r2]
 by_cases x2:x=2
 · subst x2;go_wp2_with fail;refine(Pt w0 _ gc a len cap code dS).mono ?_;rintro e w3 ⟨g,m,cp,l3,hm,ZT,rfl,ve,fD,ky⟩;have jP:=b_ JT ky (by simp; omega)
   have cC:=b_ dn ky (by simp; omega)
   have xK:=ao n9 ky;have m5:=ve.lt;have HT:Hid (va (k,t,l3)):=⟨Xd,Xe,by show l3.length≤8; have:=ve.1; omega,ZT⟩
   have d_:=fv ve;have aW:∀g',(Value.slice (some ⟨g,0,none⟩) m cp).ownBlock=some g'→w1.heap.size<g':=fun g' e=>by cases e; show w1.heap.size<g; omega
   clear JT dn fE n9 dS ky ZT ve;have t0:=jP.c0;have t1:=jP.c1;have t2:=jP.c2;have t3:=en jP 2;have iI:=(nV jP).2.2 (.slice (some ⟨g,0,none⟩) m cp);have Bi:=b_ cC iI.2 (by simp; omega)
   have eG:=fD.grown iI.2 (by simp; omega) (fun k e=>by cases e; omega)
   have Bj:=cv xK iI.2 (by omega)
   have dV:=d_.grown iI.2 (.inr fun e=>by have:=aW _ e; omega)
   have r0:=cC.c0;have q0:=en cC 0;have r1:=cC.c1;have q1:=en cC 1;have r2:=cC.c2;have q2:=en cC 2;have cF:=(k8 Bi (.int .i64 k) (.int .i64 t) (.slice (some ⟨g,0,none⟩) m cp)).2;have DD:=Hid.mk' (eG.grown cF (by simp; omega) (fun k e=>by cases e; omega))
   have DE:=Hid.mk' (cv Bj cF (Nat.le_refl _));have Fo:=Hid.mk' ((dV.grown cF (.inr fun e=>by have:=aW _ e; omega)).mono (base':=w.heap.size) (by omega))
   have cN:w.heap.size≠w1.heap.size:=by omega
   clear cF eG Bj Bi dV jP cC fD xK d_ aW iI;go_wp2_with fail;refine bodyPost_ret (v:=.agg #[.int .i64 k,.int .i64 t,.slice (some ⟨g,0,none⟩) m cp]) ?_ rfl ⟨(k,t,l3),_,⟨HT.out,SR⟩,rfl,Fo.out,DD.out,DE.out⟩;simp[results,Tryz.results90,go_sem,r0,r1,r2]
 · have y0:¬(x:Int)=0:=by omega
   have y1:¬(x:Int)=1:=by omega
   have y2:¬(x:Int)=2:=by omega
   have z0:((x:Int)==0)=false:=beq_eq_false_iff_ne.2 y0;have z1:((x:Int)==1)=false:=beq_eq_false_iff_ne.2 y1;have z2:((x:Int)==2)=false:=beq_eq_false_iff_ne.2 y2;have HT:Hid (va (k,t,l)):=⟨Xd,Xe,QW,Xf.out⟩;have t0:=JT.c0;have t1:=JT.c1;have t2:=JT.c2;have Bi:=dn;have eG:=dS;have Bj:=n9;have dV:=fE;have r0:=dn.c0;have q0:=en dn 0;have r1:=dn.c1;have q1:=en dn 1;have r2:=dn.c2;have q2:=en dn 2;have cF:=(k8 Bi (.int .i64 k) (.int .i64 t) (.slice pa n pc)).2;have DD:=Hid.mk' (eG.grown cF (by simp; omega) (fun k e=>by cases e; omega))
   have DE:=Hid.mk' (cv Bj cF (Nat.le_refl _));have Fo:=Hid.mk' ((dV.grown cF (.inr fun e=>by have:=aW _ e; omega)).mono (base':=w.heap.size) (by omega))
   have cN:w.heap.size≠w1.heap.size:=by omega
   clear cF eG Bj Bi dV JT dn dS n9 fE aW ;go_wp2_with fail;refine bodyPost_ret (v:=.agg #[.int .i64 k,.int .i64 t,.slice pa n pc]) ?_ rfl ⟨(k,t,l),_,⟨HT.out,SR⟩,rfl,Fo.out,DD.out,DE.out⟩;simp[results,Tryz.results90,go_sem,r0,r1,r2]
end aZ
end Go.Proofs.YtmibabclefgljaaGreat
