/- RecZl HelpP HelpQ HelpO HelpN ShA LayB0 LayB RecHA RecHB RowV PairTrio OrdArg RecHC RecHD RecHex ShB -/
import Derived.Test.YtmibabclefgljaaGreatShal
import Derived.Test.YtmibabclefgljaaGreatShac
import Derived.Test.YtmibabclefgljaaGreatShaa
import Derived.Test.YtmibabclefgljaaGreatShab
import Derived.Test.YtmibabclefgljaaGreatShah
import Derived.Test.YtmibabclefgljaaGreatShai
import Derived.Test.YtmibabclefgljaaGreatShad
import Derived.Deep.SlicePairs
import Derived.ChangeArms
set_option linter.unusedVariables false
set_option linter.unusedSimpArgs false
set_option maxRecDepth 100000
set_option maxHeartbeats 2000000
namespace Go.Proofs.YtmibabclefgljaaGreat
namespace aZ
open Go Go.RowKit base av aN
theorem uS{w:World}{B:Nat}{e:TypeId}{size n:Nat}{v:Value}{xs:List Value}(h:w.ownsRow 0 e size v n xs)(hB:∀k,v.ownBlock=some k→B≤k):w.ownsRow B e size v n xs:=by
 refine⟨h.1,?_⟩;rcases h.2 with h' | ⟨g,cap,cur,rfl,h0,r⟩
 · exact .inl h'
 · exact .inr ⟨g,cap,cur,rfl,hB g rfl,r⟩
theorem bm.lift{w:World}{B:Nat}{v:Value}{l:List Rc}{hs:List Value}(h:bm w 0 v l hs)(hB:∀k,c_ v hs k→B≤k):bm w B v l hs:=
 ⟨h.len,h.sm,uS h.row (fun k e=>hB k (.inl e)),fun i hi=>⟨(h.ops i hi).1,uS (h.ops i hi).2 (fun k e=>hB k (.inr ⟨_,List.getElem_mem _,e⟩))⟩,h.apart,h.out⟩
theorem ek.lift{w:World}{B:Nat}{a:Option Addr}{n cap:Nat}{l:List Pr}(h:ek w a n cap l)(hn:a≠none)(hB:∀k,(Value.slice a n cap).ownBlock=some k→B≤k):∃g,a=some ⟨g,0,none⟩∧bJ w B g n cap l:=by
 rcases h.shape with⟨e,_⟩ | ⟨g,rfl,h⟩
 · exact absurd e hn
 · exact⟨g,rfl,h.1,h.2.1,uS h.2.2 hB⟩
theorem Dk(w:World):Kept True w [] (((w.alloc (.cells #[] 100)).alloc (.cells #[] 98)).alloc (.cells #[.slice (some ⟨w.heap.size,0,none⟩) 0 0,.slice (some ⟨w.heap.size+1,0,none⟩) 0 0,.slice none 0 0] 137))
 (w.heap.size+1+1) (some ⟨w.heap.size,0,none⟩) 0 0 (some ⟨w.heap.size+1,0,none⟩) 0 (.slice none 0 0) ([],[],[]) []:=by
 obtain⟨wa,jd⟩:∃wa,wa=w.alloc (.cells #[] 100):=⟨_,rfl⟩;have ba:Below w.heap.size w wa:=by rw[jd]; exact(Below.refl _ _).alloc (Nat.le_refl _) _
 have oa:bJ wa w.heap.size w.heap.size 0 0 []:=by rw[jd]; exact bX w _ (Nat.le_refl _)
 have sa:wa.heap.size=w.heap.size+1:=by rw[jd]; simp
 rw[←jd];clear jd;obtain⟨wb,nt⟩:∃wb,wb=wa.alloc (.cells #[] 98):=⟨_,rfl⟩;have bb:Below wa.heap.size wa wb:=by rw[nt]; exact(Below.refl _ _).alloc (Nat.le_refl _) _
 have ob:bm wb w.heap.size (.slice (some ⟨w.heap.size+1,0,none⟩) 0 0) [] []:=by
  have:=oG wa w.heap.size ba.size;rw[sa] at this;rw[nt]; exact this
 have sb:wb.heap.size=w.heap.size+1+1:=by rw[nt]; simp[sa]
 rw[←nt];clear nt;have bd:=(Below.refl _ wb).alloc (Nat.le_refl _) (.cells #[.slice (some ⟨w.heap.size,0,none⟩) 0 0,.slice (some ⟨w.heap.size+1,0,none⟩) 0 0,.slice none 0 0] 137);have xd:=heap_alloc_new wb (.cells #[.slice (some ⟨w.heap.size,0,none⟩) 0 0,.slice (some ⟨w.heap.size+1,0,none⟩) 0 0,.slice none 0 0] 137);rw[sb] at xd;have B1:=ba.trans (bb.mono ba.size);refine⟨xd,ij ((oa.below bb).below bd),(ob.below bd).mono (Nat.zero_le _),AL _ _,lay.Frame.cu (B1.trans (bd.mono B1.size)),fun k e=>.inr ?_,fun k e=>.inr ?_,fun k e=>by simp[Value.ownBlock] at e,(fun _ e=>by cases e),(fun _ e=>by cases e)⟩
 · have:w.heap.size=k:=by simpa[Value.ownBlock] using e
   omega
 · exact(ob.lt k e).1
theorem Ma{N:Prop}{w0 w:World}{F0:List Nat}{X gm nm cm ch:Nat}{ah:Option Addr}{vs:Value}{s:St}{hs:List Value}(h:Kept N w0 F0 w X (some ⟨gm,0,none⟩) nm cm ah ch vs s hs):¬c_ (.slice ah s.2.1.length ch) hs gm:=by
 intro hk;exact h.yN h.m.2.2 (by decide) (by decide) gm hk rfl
theorem sN(a:Option Addr)(len cap:Nat)(l:List Rc)(w:World)(h:rs w a len l)(iO:len≤1099511627776 / 16)(cE:∀r∈l,r.2.2.length≤1099511627776∧∀p∈r.2.2,p.2.1.size≤1099511627776):
 Calls Tryz.prog 63 #[.slice a len cap] w fun e w'=>oM w (replay l) e w':=by
 obtain⟨hl,hm,eW,hc⟩:=id h;subst hl;unfold maxLen at hm;generalize hR:replay l=R;have R2:Hid (R=bA ([],[],[]) (l.drop 0)):=by show _=_; rw[←hR]; rfl
 clear hR;go_enter Tryz.func63,Tryz.ntmps63;go_wp2_with (at_builtin; fail)
 go_loopw [6] (fun i wr=>∃(k nm cm ch:Nat) (am ah:Option Addr) (vs:Value) (hs:List Value) (s:St),k≤l.length∧i=.int .i64 (k:Int)∧Kept True w [] wr (w.heap.size+1+1) am nm cm ah ch vs s hs∧uR k s∧Hid (R=bA s (l.drop k))) (fun i _=>l.length - (intOf i).toNat)
 case atStart=>exact⟨0,0,0,0,_,_,_,[],([],[],[]),Nat.zero_le _,rfl,Dk w,pZ,R2⟩
 case round=>
  clear R2;obtain⟨k,nm,cm,ch,am,ah,vs,hs,s,hk,rfl,hK,hT,HR⟩:=hrel;have Mb:Below w.heap.size w wr:=hK.fr.e7 (Nat.le_refl _) (fun j hj=>by simp at hj; omega)
  by_cases a6:k<l.length
  · obtain⟨b,off,ha,_⟩:=hc (by omega)
    subst ha;have fl:=h.at k a6;obtain⟨I2,Nt,pa,pl,pc,oJ,dE,_⟩:=fl;have mX:=World.block_lt_of_cell? w _ I2;have c0:=(Mb.cell (p:=⟨b,off+k * 3,none⟩) mX).trans I2;have c1:=(Mb.cell (p:=⟨b,off+k * 3+1,none⟩) mX).trans Nt;have c2:=(Mb.cell (p:=⟨b,off+k * 3+2,none⟩) mX).trans oJ;have fL:(k:Int)<(l.length:Int):=by omega
    obtain⟨oL,dG⟩:=cE _ (List.getElem_mem a6);have xo:=eW _ (List.getElem_mem a6);have HD:Hid (R=match one s l[k] with | none=>none | some t=>bA t (l.drop (k+1))):=by
     show _=_;rw[HR.out,List.drop_eq_getElem_cons a6]; rfl
    generalize l[k]=r at *;clear I2 Nt oJ mX HR;have hth:=hT.held;have Mc:=hT.seen;have Hg:=dE.1;have HF:=Hid.mk' (Jn True w [] wr (w.heap.size+1+1) am nm cm ah ch vs s hs r.1 r.2.1 pa pl pc r.2.2 hK (dE.below Mb) dG xo (by omega) (by omega) (by omega) hT.jB hT.eight)
    have gW:Hid (∀t,one s r=some t→uR (k+1) t):=fun t ho=>hT.step ho
    cases ho:one s r with
    | none=>
     have Hh:Hid (R=none):=by show _=_; rw[HD.out,ho]
     rw[show((r.1,r.2.1,r.2.2):Rc)=r from rfl,ho] at HF
     clear HD ho gW;go_wp2_with (at_builtin; fail)
     refine HF.out.mono ?_;rintro e w2 ⟨rfl,we⟩;have dw:Below w.heap.size w w2:=we.e7 (Nat.le_refl _) (fun j hj=>by simp at hj; omega)
     clear we;have HP:=Hid.mk' (mB Hh.out dw);clear HF c0 c1 c2;go_wp2_with (at_builtin; fail)
     go_ret3
     exact HP.out
    | some t=>
     have Hh:Hid (R=bA t (l.drop (k+1))):=by show _=_; rw[HD.out,ho]
     have hT':=gW.out t ho;rw[show((r.1,r.2.1,r.2.2):Rc)=r from rfl,ho] at HF
     clear HD ho gW;go_wp2_with (at_builtin; fail)
     refine HF.out.mono ?_;rintro e w2 ⟨rfl,am2,nm2,cm2,ah2,ch2,vs2,px,ff⟩;clear HF c0 c1 c2;go_wp2_with (at_builtin; fail)
     go_roundw
     case rel=>exact⟨k+1,nm2,cm2,ch2,am2,ah2,vs2,px,t,by omega,by go_num,ff,hT',Hh⟩
     case measure=>simp[intOf]; omega
  · have Hh:Hid (R=some s):=by
     show _=_;rw[HR.out,List.drop_eq_nil_of_le (by omega)]; rfl
    have iN:=hK.box.lt;obtain⟨gm,rfl,Wn⟩:=hK.m.lift (B:=w.heap.size) (hK.Q2 trivial) (fun k e=>(hK.Dc k e).resolve_left List.not_mem_nil)
    obtain⟨gh,rfl⟩:∃gh,ah=some ⟨gh,0,none⟩:=by
     rcases hK.held.shape with⟨e,_⟩ | ⟨g,c,e,_⟩
     · injection e with e1 _ _; exact absurd e1 (hK.UK trivial)
     · cases e; exact⟨g,rfl⟩
    clear Wn;have o0:=last.On.cell (B:=wr.heap.size) hK.box.cells.1 iN;have o1:=last.On.cell (B:=wr.heap.size) hK.box.cells.2.1 iN;have a_:=last.On.gV wr.heap.size wr;go_wp2_with (at_builtin; fail)
    refine last.ai wr.heap.size (by kernel_rfl) (by kernel_rfl) ?_
    repeat(go_big_quiet_step (fail))
    refine wpQuiet_nil ?_;intro w5 bP;obtain⟨x5,bP⟩:=bP;have de:Below wr.heap.size wr w5:=by rw[bP]; exact x5.2
    have rO:=hK.below de;have HP:Hid (oM w R (.returned (.tuple #[.slice (some ⟨gm,0,none⟩) nm cm,.slice (some ⟨gh,0,none⟩) s.2.1.length ch,.bool true])) w5):=by
     rw[Hh.out];obtain⟨gm',e9,hOP⟩:=rO.m.lift (B:=w.heap.size) (rO.Q2 trivial) (fun k e=>(rO.Dc k e).resolve_left List.not_mem_nil)
     cases e9;exact⟨gm,nm,cm,gh,ch,hs,rfl,hOP,rO.held.lift (fun k e=>(rO.yM k e).resolve_left List.not_mem_nil),Ma rO,rO.fr.e7 (Nat.le_refl _) (fun j hj=>by simp at hj; omega)⟩
    clear bP x5 a_ o0 o1;go_wp2_with (at_builtin; fail)
    go_ret3
    exact HP.out
end aZ
namespace av
open Go Go.RowKit base dp
theorem uT{l l2:List Pr}{k:Nat}(h:l.take k=l2.take k)(h1:k<l.length)(h2:k<l2.length)(e:l[k]=l2[k]):l.take (k+1)=l2.take (k+1):=by
 rw[jW l k h1,jW l2 k h2,h,e]
end av
namespace av
open Go Go.RowKit base dp
theorem E7(a a2:Option Addr)(len cap cn eg:Nat)(l l2:List Pr)(w:World)(h:lq w a len l)(h2:lq w a2 cn l2):
 Calls Tryz.prog 24 #[.slice a len cap,.slice a2 cn eg] w fun e w'=>e=.returned (.bool (decide (l=l2)))∧∃n,w'=w.drewN n:=by
 obtain⟨hl,hm,_,hc⟩:=h;obtain⟨jh,jD,_,dS⟩:=h2;subst hl jh;unfold maxLen at hm jD;by_cases aW:l.length=l2.length
 · have hb:((l.length:Int)==(l2.length:Int))=true:=by simp; omega
   go_enter Tryz.func24,Tryz.ntmps24;go_wp2_with fail;go_loopw [5] (fun i wr=>∃k:Nat,k≤l.length∧i=.int .i64 k∧l.take k=l2.take k∧∃n,wr=w.drewN n) (fun i _=>l.length - (intOf i).toNat)
   case atStart=>exact⟨0,Nat.zero_le _,rfl,rfl,0,rfl⟩
   case round=>
    obtain⟨k,hk,rfl,iF,n,rfl⟩:=hrel;by_cases a6:k<l.length
    · obtain⟨b,off,ha,cK⟩:=hc (by omega)
      obtain⟨b2,kx,sO,gM⟩:=dS (by omega)
      subst ha sO;have fB:k<l2.length:=by omega
      have Cc:(k:Int)<(l.length:Int):=by omega
      have Dl:(k:Int)<(l2.length:Int):=by omega
      obtain⟨c1,c2⟩:=cK k a6;obtain⟨c3,c4⟩:=gM k fB;by_cases e:l[k]=l2[k]
      · have HE:=Hid.mk' (uT iF a6 fB e);rw[←e] at c3 c4;clear cK gM hc dS iF aW e;generalize l[k]=p at *;go_wp2_with fail;go_quiet (fail)
        go_wp2_with fail;go_roundw
        case rel=>exact⟨k+1,by omega,by go_num,HE.out,_,rfl⟩
        case measure=>simp[intOf]; omega
      · have HE:Hid (¬l=l2):=by
         show¬_;rintro rfl; exact e rfl
        generalize l[k]=p at *;generalize l2[k]=q at *;clear cK gM hc dS iF aW;by_cases e1:p.1=q.1
        · have hq:=dP (fun e2:p.2=q.2=>e (Prod.ext e1 e2))
          rw[←e1] at c3;generalize p.1=p1 at *;generalize p.2=p2 at *;generalize q.2=q2 at *;clear e e1;go_wp2_with fail;go_quiet (fail)
          go_wp2_with fail;go_ret;exact⟨aj (by symm; rw[decide_eq_false_iff_not]; exact HE.out),_,World.drewN_drewN _ _ _⟩
        · have hq:=dP e1;generalize p.1=p1 at *;generalize p.2=p2 at *;generalize q.1=q1 at *;generalize q.2=q2 at *;clear e e1;go_wp2_with fail;go_quiet (fail)
          go_wp2_with fail;go_ret;exact⟨aj (by symm; rw[decide_eq_false_iff_not]; exact HE.out),_,World.drewN_drewN _ _ _⟩
    · have e:k=l.length:=by omega
      have cF:l=l2:=by
       subst e;rw[List.take_of_length_le (Nat.le_refl _),List.take_of_length_le (by omega)] at iF
       exact iF
      have HF:=Hid.mk' cF;clear cF iF;go_wp2_with fail;go_ret;exact⟨aj (by symm; rw[decide_eq_true_iff]; exact HF.out),_,rfl⟩
 · have hb:((l.length:Int)==(l2.length:Int))=false:=by simp; omega
   go_enter Tryz.func24,Tryz.ntmps24;go_wp2;go_ret;exact⟨aj (by symm; rw[decide_eq_false_iff_not]; intro h; exact aW (by rw[h])),0,rfl⟩
end av
namespace aN
open Go Go.RowKit base dp av
theorem p5(l:List Od)(k:Nat)(h:k<l.length):l.take (k+1)=l.take k++[l[k]]:=List.take_succ_eq_append_getElem h
def UO(o:Od):Nat:=o.2.1.size+o.2.2.size
def rS(l:List Od):Nat:=(l.map UO).sum
theorem FW(l:List Od)(k:Nat)(h:k<l.length):rS (l.take (k+1))=rS (l.take k)+UO l[k]:=by
 unfold rS; rw[p5 l k h,List.map_append,List.sum_append]; simp
theorem Md(l:List Od)(k:Nat):rS (l.take k)≤rS l:=by
 have e:rS l=rS (l.take k)+rS (l.drop k):=by
  unfold rS; rw[←List.sum_append,←List.map_append,List.take_append_drop]
 omega
theorem uU{l l2:List Od}{k:Nat}(h:l.take k=l2.take k)(h1:k<l.length)(h2:k<l2.length)(e:l[k]=l2[k]):l.take (k+1)=l2.take (k+1):=by
 rw[p5 l k h1,p5 l2 k h2,h,e]
end aN
namespace aN
open Go Go.RowKit base dp av
/-! ### rows of numbers -/
theorem Me(a a2:Option Addr)(len cap cn eg:Nat)(l l2:List Od)(w:World)(h:dD w a len l)(h2:dD w a2 cn l2):
 Calls Tryz.prog 96 #[.slice a len cap,.slice a2 cn eg] w fun e w'=>e=.returned (.bool (decide (l=l2)))∧∃n,w'=w.drewN n:=by
 obtain⟨hl,hm,_,hc⟩:=h;obtain⟨jh,jD,_,dS⟩:=h2;subst hl jh;unfold maxLen at hm jD;by_cases aW:l.length=l2.length
 · have hb:((l.length:Int)==(l2.length:Int))=true:=by simp; omega
   go_enter Tryz.func96,Tryz.ntmps96;go_wp2_with fail;go_loopw [5] (fun i wr=>∃k:Nat,k≤l.length∧i=.int .i64 k∧l.take k=l2.take k∧∃n,wr=w.drewN n) (fun i _=>l.length - (intOf i).toNat)
   case atStart=>exact⟨0,Nat.zero_le _,rfl,rfl,0,rfl⟩
   case round=>
    obtain⟨k,hk,rfl,iF,n,rfl⟩:=hrel;by_cases a6:k<l.length
    · obtain⟨b,off,ha,cK⟩:=hc (by omega)
      obtain⟨b2,kx,sO,gM⟩:=dS (by omega)
      subst ha sO;have fB:k<l2.length:=by omega
      have Cc:(k:Int)<(l.length:Int):=by omega
      have Dl:(k:Int)<(l2.length:Int):=by omega
      obtain⟨c0,c1,c2⟩:=cK k a6;obtain⟨d0,d1,d2⟩:=gM k fB;by_cases e:l[k]=l2[k]
      · have HE:=Hid.mk' (uU iF a6 fB e);rw[←e] at d0 d1 d2;clear cK gM hc dS iF aW e;generalize l[k]=p at *;go_wp2_with fail;go_quiet (fail)
        go_wp2_with fail;go_roundw
        case rel=>exact⟨k+1,by omega,by go_num,HE.out,_,rfl⟩
        case measure=>simp[intOf]; omega
      · have HE:Hid (¬l=l2):=by
         show¬_;rintro rfl; exact e rfl
        generalize l[k]=p at *;generalize l2[k]=q at *;clear cK gM hc dS iF aW;obtain⟨p0,p1,p2⟩:=p;obtain⟨q0,q1,q2⟩:=q;simp only[] at c0 c1 c2 d0 d1 d2;by_cases e0:p0=q0
        · subst e0;have h0:(p0==p0)=true:=beq_self_eq_true _;by_cases e1:p1=q1
          · subst e1;have hq:=dP (fun e2:p2=q2=>e (by rw[e2]))
            clear e;go_wp2_with fail;go_quiet (fail)
            go_wp2_with fail;go_ret;exact⟨aj (by symm; rw[decide_eq_false_iff_not]; exact HE.out),_,World.drewN_drewN _ _ _⟩
          · have hq:=dP e1;clear e e1;go_wp2_with fail;go_quiet (fail)
            go_wp2_with fail;go_ret;exact⟨aj (by symm; rw[decide_eq_false_iff_not]; exact HE.out),_,World.drewN_drewN _ _ _⟩
        · have h0:(p0==q0)=false:=beq_eq_false_iff_ne.2 e0;clear e e0;go_wp2_with fail;go_quiet (fail)
          go_wp2_with fail;go_ret;exact⟨aj (by symm; rw[decide_eq_false_iff_not]; exact HE.out),_,World.drewN_drewN _ _ _⟩
    · have e:k=l.length:=by omega
      have cF:l=l2:=by
       subst e;rw[List.take_of_length_le (Nat.le_refl _),List.take_of_length_le (by omega)] at iF
       exact iF
      have HF:=Hid.mk' cF;clear cF iF;go_wp2_with fail;go_ret;exact⟨aj (by symm; rw[decide_eq_true_iff]; exact HF.out),_,rfl⟩
 · have hb:((l.length:Int)==(l2.length:Int))=false:=by simp; omega
   go_enter Tryz.func96,Tryz.ntmps96;go_wp2;go_ret;exact⟨aj (by symm; rw[decide_eq_false_iff_not]; intro h; exact aW (by rw[h])),0,rfl⟩
end aN
namespace aZ
open Go Go.RowKit base av aN dp gu
theorem qP(x a b:Int)(w:World):
    Calls Tryz.prog 32 #[.int .i64 x,.int .i64 a,.int .i64 b] w fun e w'=>e=.returned (.bool (decide (a≤x∧x≤b)))∧w'=w:=by
  by_cases h1:a≤x
  · by_cases h2:x≤b
    · go_enter Tryz.func32,Tryz.ntmps32;go_wp2;go_ret;exact⟨aj (by simp[h1,h2]),rfl⟩
    · go_enter Tryz.func32,Tryz.ntmps32;go_wp2;go_ret;exact⟨aj (by simp[h1,h2]),rfl⟩
  · go_enter Tryz.func32,Tryz.ntmps32;go_wp2;go_ret
    exact⟨aj (by have h3:¬a≤x:=by omega
                 simp[h3]),rfl⟩
def p6(id:Int):cQ:=if 0≤id∧id≤7 then(id,[],0,[],[]) else(0,[],0,[],[])
def rT(id:Int):Value:=.agg #[.int .i64 id,.slice none 0 0,.int .i64 0,.slice none 0 0,.slice none 0 0]
theorem FX(w:World)(id:Int)(h:(Lit.int .i64 id).wf=true):lay.cY w none 0 0 none 0 0 none 0 0 (id,[],0,[],[]) []:=
 ⟨h,rfl,⟨[],Ac _ _,[],Ac _ _,rfl⟩,FI _,List.nodup_nil⟩
theorem wG(id:Int)(w:World):
 Calls Tryz.prog 34 #[.int .i64 id] w fun e w'=>e=.returned (rT (p6 id).1)∧Below w.heap.size w w':=by
 have HI:=Hid.mk' (fun wx=>qP id 0 7 wx)
 by_cases h:0≤id∧id≤7
 · rw[decide_eq_true h] at HI;have e0:(p6 id).1=id:=by unfold p6; rw[if_pos h]
   rw[e0];clear h e0;go_enter Tryz.func34,Tryz.ntmps34;go_wp2_with fail;refine(HI.out _).mono ?_;rintro e w1 ⟨rfl,rfl⟩;clear HI;go_wp2_with fail;exact bodyPost_ret (v:=rT id) (by simp[results,Tryz.results34,go_sem,rT]) rfl ⟨rfl,(Below.refl _ _).alloc (Nat.le_refl _) _⟩
 · rw[decide_eq_false h] at HI;have e0:(p6 id).1=0:=by unfold p6; rw[if_neg h]
   rw[e0];clear h e0;go_enter Tryz.func34,Tryz.ntmps34;go_wp2_with fail;refine(HI.out _).mono ?_;rintro e w1 ⟨rfl,rfl⟩;clear HI;go_wp2_with fail;exact bodyPost_ret (v:=rT 0) (by simp[results,Tryz.results34,go_sem,rT]) rfl ⟨rfl,(Below.refl _ _).alloc (Nat.le_refl _) _⟩
theorem uV(a a2:Option Addr)(len cap cn eg:Nat)(l l2:List Pr)(w:World)(h:lq w a len l)(h2:lq w a2 cn l2):
 Calls Tryz.prog 64 #[.slice a len cap,.slice a2 cn eg] w fun e w'=>e=.returned (.bool (decide (l=l2)))∧∃n,w'=w.drewN n:=by
 obtain⟨hl,hm,_,hc⟩:=h;obtain⟨jh,jD,_,dS⟩:=h2;subst hl jh;unfold maxLen at hm jD;by_cases aW:l.length=l2.length
 · have hb:((l.length:Int)==(l2.length:Int))=true:=by simp; omega
   go_enter Tryz.func64,Tryz.ntmps64;go_wp2_with fail;go_loopw [5] (fun i wr=>∃k:Nat,k≤l.length∧i=.int .i64 k∧l.take k=l2.take k∧∃n,wr=w.drewN n) (fun i _=>l.length - (intOf i).toNat)
   case atStart=>exact⟨0,Nat.zero_le _,rfl,rfl,0,rfl⟩
   case round=>
    obtain⟨k,hk,rfl,iF,n,rfl⟩:=hrel;by_cases a6:k<l.length
    · obtain⟨b,off,ha,cK⟩:=hc (by omega)
      obtain⟨b2,kx,sO,gM⟩:=dS (by omega)
      subst ha sO;have fB:k<l2.length:=by omega
      have Cc:(k:Int)<(l.length:Int):=by omega
      have Dl:(k:Int)<(l2.length:Int):=by omega
      obtain⟨c1,c2⟩:=cK k a6;obtain⟨c3,c4⟩:=gM k fB;by_cases e:l[k]=l2[k]
      · have HE:=Hid.mk' (uT iF a6 fB e);rw[←e] at c3 c4;clear cK gM hc dS iF aW e;generalize l[k]=p at *;go_wp2_with fail;go_quiet (fail)
        go_wp2_with fail;go_roundw
        case rel=>exact⟨k+1,by omega,by go_num,HE.out,_,rfl⟩
        case measure=>simp[intOf]; omega
      · have HE:Hid (¬l=l2):=by
         show¬_;rintro rfl; exact e rfl
        generalize l[k]=p at *;generalize l2[k]=q at *;clear cK gM hc dS iF aW;by_cases e1:p.1=q.1
        · have hq:=dP (fun e2:p.2=q.2=>e (Prod.ext e1 e2))
          rw[←e1] at c3;generalize p.1=p1 at *;generalize p.2=p2 at *;generalize q.2=q2 at *;clear e e1;go_wp2_with fail;go_quiet (fail)
          go_wp2_with fail;go_ret;exact⟨aj (by symm; rw[decide_eq_false_iff_not]; exact HE.out),_,World.drewN_drewN _ _ _⟩
        · have hq:=dP e1;generalize p.1=p1 at *;generalize p.2=p2 at *;generalize q.1=q1 at *;generalize q.2=q2 at *;clear e e1;go_wp2_with fail;go_quiet (fail)
          go_wp2_with fail;go_ret;exact⟨aj (by symm; rw[decide_eq_false_iff_not]; exact HE.out),_,World.drewN_drewN _ _ _⟩
    · have e:k=l.length:=by omega
      have cF:l=l2:=by
       subst e;rw[List.take_of_length_le (Nat.le_refl _),List.take_of_length_le (by omega)] at iF
       exact iF
      have HF:=Hid.mk' cF;clear cF iF;go_wp2_with fail;go_ret;exact⟨aj (by symm; rw[decide_eq_true_iff]; exact HF.out),_,rfl⟩
 · have hb:((l.length:Int)==(l2.length:Int))=false:=by simp; omega
   go_enter Tryz.func64,Tryz.ntmps64;go_wp2;go_ret;exact⟨aj (by symm; rw[decide_eq_false_iff_not]; intro h; exact aW (by rw[h])),0,rfl⟩
theorem yS(a a2:Option Addr)(len cap cn eg:Nat)(l l2:List Od)(w:World)(h:dD w a len l)(h2:dD w a2 cn l2):
 Calls Tryz.prog 99 #[.slice a len cap,.slice a2 cn eg] w fun e w'=>e=.returned (.bool (decide (l=l2)))∧∃n,w'=w.drewN n:=by
 obtain⟨hl,hm,_,hc⟩:=h;obtain⟨jh,jD,_,dS⟩:=h2;subst hl jh;unfold maxLen at hm jD;by_cases aW:l.length=l2.length
 · have hb:((l.length:Int)==(l2.length:Int))=true:=by simp; omega
   go_enter Tryz.func99,Tryz.ntmps99;go_wp2_with fail;go_loopw [5] (fun i wr=>∃k:Nat,k≤l.length∧i=.int .i64 k∧l.take k=l2.take k∧∃n,wr=w.drewN n) (fun i _=>l.length - (intOf i).toNat)
   case atStart=>exact⟨0,Nat.zero_le _,rfl,rfl,0,rfl⟩
   case round=>
    obtain⟨k,hk,rfl,iF,n,rfl⟩:=hrel;by_cases a6:k<l.length
    · obtain⟨b,off,ha,cK⟩:=hc (by omega)
      obtain⟨b2,kx,sO,gM⟩:=dS (by omega)
      subst ha sO;have fB:k<l2.length:=by omega
      have Cc:(k:Int)<(l.length:Int):=by omega
      have Dl:(k:Int)<(l2.length:Int):=by omega
      obtain⟨c0,c1,c2⟩:=cK k a6;obtain⟨d0,d1,d2⟩:=gM k fB;by_cases e:l[k]=l2[k]
      · have HE:=Hid.mk' (uU iF a6 fB e);rw[←e] at d0 d1 d2;clear cK gM hc dS iF aW e;generalize l[k]=p at *;go_wp2_with fail;go_quiet (fail)
        go_wp2_with fail;go_roundw
        case rel=>exact⟨k+1,by omega,by go_num,HE.out,_,rfl⟩
        case measure=>simp[intOf]; omega
      · have HE:Hid (¬l=l2):=by
         show¬_;rintro rfl; exact e rfl
        generalize l[k]=p at *;generalize l2[k]=q at *;clear cK gM hc dS iF aW;obtain⟨p0,p1,p2⟩:=p;obtain⟨q0,q1,q2⟩:=q;simp only[] at c0 c1 c2 d0 d1 d2;by_cases e0:p0=q0
        · subst e0;have h0:(p0==p0)=true:=beq_self_eq_true _;by_cases e1:p1=q1
          · subst e1;have hq:=dP (fun e2:p2=q2=>e (by rw[e2]))
            clear e;go_wp2_with fail;go_quiet (fail)
            go_wp2_with fail;go_ret;exact⟨aj (by symm; rw[decide_eq_false_iff_not]; exact HE.out),_,World.drewN_drewN _ _ _⟩
          · have hq:=dP e1;clear e e1;go_wp2_with fail;go_quiet (fail)
            go_wp2_with fail;go_ret;exact⟨aj (by symm; rw[decide_eq_false_iff_not]; exact HE.out),_,World.drewN_drewN _ _ _⟩
        · have h0:(p0==q0)=false:=beq_eq_false_iff_ne.2 e0;clear e e0;go_wp2_with fail;go_quiet (fail)
          go_wp2_with fail;go_ret;exact⟨aj (by symm; rw[decide_eq_false_iff_not]; exact HE.out),_,World.drewN_drewN _ _ _⟩
    · have e:k=l.length:=by omega
      have cF:l=l2:=by
       subst e;rw[List.take_of_length_le (Nat.le_refl _),List.take_of_length_le (by omega)] at iF
       exact iF
      have HF:=Hid.mk' cF;clear cF iF;go_wp2_with fail;go_ret;exact⟨aj (by symm; rw[decide_eq_true_iff]; exact HF.out),_,rfl⟩
 · have hb:((l.length:Int)==(l2.length:Int))=false:=by simp; omega
   go_enter Tryz.func99,Tryz.ntmps99;go_wp2;go_ret;exact⟨aj (by symm; rw[decide_eq_false_iff_not]; intro h; exact aW (by rw[h])),0,rfl⟩
theorem AY{l l2:List Rc}{k:Nat}(h:l.take k=l2.take k)(h1:k<l.length)(h2:k<l2.length)(e:l[k]=l2[k]):l.take (k+1)=l2.take (k+1):=by
 rw[List.take_succ_eq_append_getElem h1,List.take_succ_eq_append_getElem h2,h,e]
theorem wH(a a2:Option Addr)(len cap cn eg:Nat)(l l2:List Rc)(w:World)(h:rs w a len l)(h2:rs w a2 cn l2):
 Calls Tryz.prog 65 #[.slice a len cap,.slice a2 cn eg] w fun e w'=>e=.returned (.bool (decide (l=l2)))∧Below w.heap.size w w':=by
 obtain⟨hl,hm,eW,hc⟩:=id h;obtain⟨jh,jD,wh,dS⟩:=id h2;subst hl jh;unfold maxLen at hm jD;by_cases aW:l.length=l2.length
 · have hb:((l.length:Int)==(l2.length:Int))=true:=by simp; omega
   go_enter Tryz.func65,Tryz.ntmps65;go_wp2_with fail;go_loopw [5] (fun i wr=>∃k:Nat,k≤l.length∧i=.int .i64 k∧l.take k=l2.take k∧Below w.heap.size w wr) (fun i _=>l.length - (intOf i).toNat)
   case atStart=>exact⟨0,Nat.zero_le _,rfl,rfl,Below.refl _ _⟩
   case round=>
    obtain⟨k,hk,rfl,iF,hB⟩:=hrel;by_cases a6:k<l.length
    · obtain⟨b,off,ha,cK⟩:=hc (by omega)
      obtain⟨b2,kx,sO,gM⟩:=dS (by omega)
      subst ha sO;have fB:k<l2.length:=by omega
      have fL:(k:Int)<(l.length:Int):=by omega
      have Wo:(k:Int)<(l2.length:Int):=by omega
      have i1:=h.at k a6;have i2:=h2.at k fB;have aT:b<w.heap.size:=World.block_lt_of_cell? w _ i1.1;have aU:b2<w.heap.size:=World.block_lt_of_cell? w _ i2.1;have Fp:=hB.size;obtain⟨c1,c2,pa,pl,pc,c3,Ny,_⟩:=i1.below hB;obtain⟨c4,c5,qa,ql,qc,c6,zD,_⟩:=i2.below hB;have a_:=last.On.gV wr.heap.size wr;have dX:∀x:last.On wr.heap.size wr,Calls Tryz.prog 99 #[.slice pa pl pc,.slice qa ql qc] x.w fun e w'=>e=.returned (.bool (decide (l[k].2.2=l2[k].2.2)))∧∃y:last.On wr.heap.size wr,w'=y.w:=fun x=>last.Calls.on x (Nat.le_refl _) ((yS pa qa pl pc ql qc l[k].2.2 l2[k].2.2 x.w (Ny.below x.2) (zD.below x.2)).mono (fun e w' h=>⟨h.1,by obtain⟨n,rfl⟩:=h.2; exact below_drewN (Below.refl _ _) n⟩))
      have K7:Hid (l[k]=l2[k]→l.take (k+1)=l2.take (k+1)):=fun e=>AY iF a6 fB e
      have Eh:Hid (¬l[k]=l2[k]→¬l=l2):=fun e e2=>e (by subst e2; rfl)
      clear cK gM hc dS i1 i2 eW wh h h2 Ny zD iF aW;generalize l[k]=p at *;generalize l2[k]=q at *;have Wp:¬p=q→(last.On wr.heap.size wr→True):=fun _ _=>trivial
      clear Wp;obtain⟨p1,p2,p3⟩:=p;obtain⟨q1,q2,q3⟩:=q;simp only[] at c1 c2 c3 c4 c5 c6 dX;by_cases e1:p1=q1
      · subst e1;have f1:(p1==p1)=true:=by simp
        by_cases e2:p2=q2
        · subst e2;have f2:(p2==p2)=true:=by simp
          by_cases e3:p3=q3
          · rw[decide_eq_true e3] at dX;have HE:=Hid.mk' (K7.out (by rw[e3]))
            clear K7 Eh e3;have o1:=last.On.cell (B:=wr.heap.size) c1 (by omega)
            have o2:=last.On.cell (B:=wr.heap.size) c2 (by omega)
            have o3:=last.On.cell (B:=wr.heap.size) c3 (by omega)
            have o4:=last.On.cell (B:=wr.heap.size) c4 (by omega)
            have o5:=last.On.cell (B:=wr.heap.size) c5 (by omega)
            have o6:=last.On.cell (B:=wr.heap.size) c6 (by omega)
            go_wp2_with fail;refine last.ai wr.heap.size (by kernel_rfl) (by kernel_rfl) ?_
            repeat(go_big_quiet_step ((go_at_call 99; with_reducible exact dX _)))
            refine wpQuiet_nil ?_;intro w5 bP;obtain⟨x5,bP⟩:=bP;have ec:Below w.heap.size w w5:=by rw[bP]; exact hB.trans (x5.2.mono hB.size)
            clear bP x5 o1 o2 o3 o4 o5 o6 dX a_;go_wp2_with fail;go_roundw
            case rel=>exact⟨k+1,by omega,by go_num,HE.out,ec⟩
            case measure=>simp[intOf]; omega
          · rw[decide_eq_false e3] at dX;have HE:=Hid.mk' (Eh.out (fun e=>e3 (by cases e; rfl)))
            clear K7 Eh e3;have o1:=last.On.cell (B:=wr.heap.size) c1 (by omega)
            have o2:=last.On.cell (B:=wr.heap.size) c2 (by omega)
            have o3:=last.On.cell (B:=wr.heap.size) c3 (by omega)
            have o4:=last.On.cell (B:=wr.heap.size) c4 (by omega)
            have o5:=last.On.cell (B:=wr.heap.size) c5 (by omega)
            have o6:=last.On.cell (B:=wr.heap.size) c6 (by omega)
            go_wp2_with fail;refine last.ai wr.heap.size (by kernel_rfl) (by kernel_rfl) ?_
            repeat(go_big_quiet_step ((go_at_call 99; with_reducible exact dX _)))
            refine wpQuiet_nil ?_;intro w5 bP;obtain⟨x5,bP⟩:=bP;have ec:Below w.heap.size w w5:=by rw[bP]; exact hB.trans (x5.2.mono hB.size)
            clear bP x5 o1 o2 o3 o4 o5 o6 dX a_;go_wp2_with fail;go_ret;exact⟨aj (by symm; rw[decide_eq_false_iff_not]; exact HE.out),ec⟩
        · have f2:(p2 != q2)=true:=by simpa using e2
          have HE:=Hid.mk' (Eh.out (fun e=>e2 (by cases e; rfl)))
          clear K7 Eh e2;have o1:=last.On.cell (B:=wr.heap.size) c1 (by omega)
          have o2:=last.On.cell (B:=wr.heap.size) c2 (by omega)
          have o3:=last.On.cell (B:=wr.heap.size) c3 (by omega)
          have o4:=last.On.cell (B:=wr.heap.size) c4 (by omega)
          have o5:=last.On.cell (B:=wr.heap.size) c5 (by omega)
          have o6:=last.On.cell (B:=wr.heap.size) c6 (by omega)
          go_wp2_with fail;refine last.ai wr.heap.size (by kernel_rfl) (by kernel_rfl) ?_
          repeat(go_big_quiet_step ((go_at_call 99; with_reducible exact dX _)))
          refine wpQuiet_nil ?_;intro w5 bP;obtain⟨x5,bP⟩:=bP;have ec:Below w.heap.size w w5:=by rw[bP]; exact hB.trans (x5.2.mono hB.size)
          clear bP x5 o1 o2 o3 o4 o5 o6 dX a_;go_wp2_with fail;go_ret;exact⟨aj (by symm; rw[decide_eq_false_iff_not]; exact HE.out),ec⟩
      · have f1:(p1 != q1)=true:=by simpa using e1
        have HE:=Hid.mk' (Eh.out (fun e=>e1 (by cases e; rfl)))
        clear K7 Eh e1;have o1:=last.On.cell (B:=wr.heap.size) c1 (by omega)
        have o2:=last.On.cell (B:=wr.heap.size) c2 (by omega)
        have o3:=last.On.cell (B:=wr.heap.size) c3 (by omega)
        have o4:=last.On.cell (B:=wr.heap.size) c4 (by omega)
        have o5:=last.On.cell (B:=wr.heap.size) c5 (by omega)
        have o6:=last.On.cell (B:=wr.heap.size) c6 (by omega)
        go_wp2_with fail;refine last.ai wr.heap.size (by kernel_rfl) (by kernel_rfl) ?_
        repeat(go_big_quiet_step ((go_at_call 99; with_reducible exact dX _)))
        refine wpQuiet_nil ?_;intro w5 bP;obtain⟨x5,bP⟩:=bP;have ec:Below w.heap.size w w5:=by rw[bP]; exact hB.trans (x5.2.mono hB.size)
        clear bP x5 o1 o2 o3 o4 o5 o6 dX a_;go_wp2_with fail;go_ret;exact⟨aj (by symm; rw[decide_eq_false_iff_not]; exact HE.out),ec⟩
    · have e:k=l.length:=by omega
      have cF:l=l2:=by
       subst e;rw[List.take_of_length_le (Nat.le_refl _),List.take_of_length_le (by omega)] at iF
       exact iF
      have HF:=Hid.mk' cF;clear cF iF;go_wp2_with fail;go_ret;exact⟨aj (by symm; rw[decide_eq_true_iff]; exact HF.out),hB⟩
 · have hb:((l.length:Int)==(l2.length:Int))=false:=by simp; omega
   go_enter Tryz.func65,Tryz.ntmps65;go_wp2;go_ret;exact⟨aj (by symm; rw[decide_eq_false_iff_not]; intro h; exact aW (by rw[h])),Below.refl _ _⟩
end aZ
namespace lay
open Go Go.RowKit base
def au(X:Nat)(T:TypeId)(pre vs post:List Value)(w:World):Prop:=w.heap[X]? =some (.cells (pre++vs++post).toArray T (0,0))
section
variable{X:Nat}{T:TypeId}{pre vs post:List Value}{w w':World}{G F:List Nat}
theorem au.lt(h:au X T pre vs post w):X<w.heap.size:=(Array.getElem?_eq_some_iff.1 h).1
theorem au.keep(h:au X T pre vs post w)(hk:w'.heap[X]? =w.heap[X]?):au X T pre vs post w':=hk.trans h
theorem au.below(h:au X T pre vs post w)(hb:Below w.heap.size w w'):au X T pre vs post w':=h.keep (hb.block X h.lt)
theorem au.frame(h:au X T pre vs post w)(hf:Frame G w w')(hn:X∉G):au X T pre vs post w':=h.keep (hf.block X h.lt hn)
theorem au.grown{row:Option Nat}(h:au X T pre vs post w)(hg:w.grownBy w' row)(hn:some X≠row):au X T pre vs post w':=h.keep (hg.block X h.lt hn)
theorem au.cell(h:au X T pre vs post w)(j:Nat)(u:Value)(hj:vs[j]? =some u):w.cell? ⟨X,pre.length+j,none⟩=some u:=by
 unfold au at h;have hl:=(List.getElem?_eq_some_iff.1 hj).1;simp only[World.cell?,h];have hu:=(List.getElem?_eq_some_iff.1 hj).2;simp[List.getElem?_append,hl,hu]
theorem au.fz(h:au X T pre vs post w)(j:Nat):w.frozen? ⟨X,j,none⟩=false:=by unfold au at h; simp[World.frozen?,h]
theorem au.set(h:au X T pre vs post w)(j:Nat)(hj:j<vs.length)(u:Value):au X T pre (vs.set j u) post (w.setCell ⟨X,pre.length+j,none⟩ u)∧w.grownBy (w.setCell ⟨X,pre.length+j,none⟩ u) (some X):=by
 have h1:=bw h (pre.length+j) u;refine⟨?_,h1.2⟩;unfold au;rw[h1.1]
 congr 2
 rw[List.setIfInBounds_toArray]
 congr 1
 rw[List.append_assoc,List.set_append_right _ _ (by omega),Nat.add_sub_cancel_left,List.set_append_left _ _ hj,List.append_assoc]
theorem aE(w:World)(vs:List Value)(T:TypeId):au w.heap.size T [] vs [] (w.alloc (.cells vs.toArray T)):=by
 unfold au;rw[List.nil_append,List.append_nil];exact heap_alloc_new w _
end
end lay

namespace aZ
open Go Go.RowKit base av aN dp
end aZ
namespace aZ
open Go Go.RowKit base av aN dp
/-! ### marks -/
def kB(l:List Rc):Nat:=(l.map fun x=>2+3 * x.2.2.length).sum
theorem FY(x:Rc)(l:List Rc):kB (x::l)=2+3 * x.2.2.length+kB l:=by simp[kB]
theorem AZ(a b:List Rc):kB (a++b)=kB a+kB b:=by simp[kB]
end aZ
namespace aN
open Go Go.RowKit base av
def V3(w:World)(g:Nat)(t:TypeId)(x y z:Value):Prop:=w.heap[g]? =some (.cells #[x,y,z] t (0,0))
section
variable{w w':World}{g:Nat}{t:TypeId}{x y z:Value}
theorem V3.c0(h:V3 w g t x y z):w.cell? ⟨g,0,none⟩=some x:=ji h 0 _ rfl
theorem V3.c1(h:V3 w g t x y z):w.cell? ⟨g,1,none⟩=some y:=ji h 1 _ rfl
theorem V3.c2(h:V3 w g t x y z):w.cell? ⟨g,2,none⟩=some z:=ji h 2 _ rfl
theorem V3.lt(h:V3 w g t x y z):g<w.heap.size:=(Array.getElem?_eq_some_iff.1 h).1
theorem V3.below(h:V3 w g t x y z)(hb:Below w.heap.size w w'):V3 w' g t x y z:=(hb.block g h.lt).trans h
end
theorem b_{w w':World}{g:Nat}{t:TypeId}{x y z:Value}{row:Option Nat}(h:V3 w g t x y z)(hg:w.grownBy w' row)(aW:some g≠row):V3 w' g t x y z:=(hg.block g h.lt aW).trans h
theorem en{w:World}{g:Nat}{t:TypeId}{x y z:Value}(h:V3 w g t x y z)(j:Nat):w.frozen? ⟨g,j,none⟩=false:=by
 unfold V3 at h; simp[World.frozen?,h]
theorem nV{w:World}{g:Nat}{t:TypeId}{x y z:Value}(h:V3 w g t x y z):(∀u,V3 (w.setCell ⟨g,0,none⟩ u) g t u y z∧w.grownBy (w.setCell ⟨g,0,none⟩ u) (some g))∧(∀u,V3 (w.setCell ⟨g,1,none⟩ u) g t x u z∧w.grownBy (w.setCell ⟨g,1,none⟩ u) (some g))∧(∀u,V3 (w.setCell ⟨g,2,none⟩ u) g t x y u∧w.grownBy (w.setCell ⟨g,2,none⟩ u) (some g)):=
 ⟨fun u=>⟨(bw h 0 u).1,(bw h 0 u).2⟩,fun u=>⟨(bw h 1 u).1,(bw h 1 u).2⟩,fun u=>⟨(bw h 2 u).1,(bw h 2 u).2⟩⟩
theorem k8{w:World}{g:Nat}{t:TypeId}{x y z:Value}(h:V3 w g t x y z)(a b c:Value):V3 (((w.setCell ⟨g,0,none⟩ a).setCell ⟨g,1,none⟩ b).setCell ⟨g,2,none⟩ c) g t a b c∧w.grownBy (((w.setCell ⟨g,0,none⟩ a).setCell ⟨g,1,none⟩ b).setCell ⟨g,2,none⟩ c) (some g):=by
 have h1:=(nV h).1 a;have h2:=(nV h1.1).2.1 b;have h3:=(nV h2.1).2.2 c;exact⟨h3.1,ao (ao h1.2 h2.2) h3.2⟩
end aN
namespace av
open Go Go.RowKit base dp
section
variable{w0 w w':World}{gx lx cx gg lg cg gw lw cw:Nat}{X G W:List Pr}
end
/-! ### arguments -/
end av
namespace aN
open Go Go.RowKit base av
end aN
namespace aZ
open Go Go.RowKit base av aN dp
/-! ### arguments -/
end aZ
namespace aZ
open Go Go.RowKit base av aN
theorem A0(l:List Rc)(hs:List Value)(h:hs.length=l.length)(i:Nat)(hi:i<l.length)(x:Rc)(y:Value):(((aX l hs).set (i * 3) (.int .i64 x.1)).set (i * 3+1) (.int .i64 x.2.1)).set (i * 3+2) y=aX (l.set i x) (hs.set i y):=by
 induction l generalizing hs i with
 | nil=>simp at hi
 | cons r l ih=>
  cases hs with
  | nil=>simp at h
  | cons u hs=>
   cases i with
   | zero=>rfl
   | succ i=>
    rw[fW,show(i+1) * 3=i * 3+1+1+1 by omega,show i * 3+1+1+1+1=(i * 3+1)+1+1+1 by omega,show i * 3+1+1+1+2=(i * 3+2)+1+1+1 by omega]
    simp only[List.set_cons_succ,fW];rw[ih hs (by simpa using h) i (by simpa using hi)]
theorem bm.put{w:World}{base g n cap:Nat}{l:List Rc}{hs:List Value}(h:bm w base (.slice (some ⟨g,0,none⟩) n cap) l hs)(i:Nat)(hi:i<l.length)(x:Rc)(y:Value)(hx:h_ x)(hy:cD w base y x.2.2)(jz:∀k,y.ownBlock=some k→¬c_ (.slice (some ⟨g,0,none⟩) n cap) hs k):
 bm (((w.setCell ⟨g,i * 3,none⟩ (.int .i64 x.1)).setCell ⟨g,i * 3+1,none⟩ (.int .i64 x.2.1)).setCell ⟨g,i * 3+2,none⟩ y) base (.slice (some ⟨g,0,none⟩) n cap) (l.set i x) (hs.set i y)∧
  w.grownBy (((w.setCell ⟨g,i * 3,none⟩ (.int .i64 x.1)).setCell ⟨g,i * 3+1,none⟩ (.int .i64 x.2.1)).setCell ⟨g,i * 3+2,none⟩ y) (some g):=by
 obtain rfl:=h.nf;have hlen:=h.len;have s0:=h.row.stored (i * 3) (.int .i64 x.1);have s1:=s0.1.stored (i * 3+1) (.int .i64 x.2.1);have s2:=s1.1.stored (i * 3+2) y;rw[A0 l hs h.len i hi x y] at s2;have hg:=ao (ao s0.2 s1.2) s2.2;have Zt:y.ownBlock≠some g:=fun e=>jz g e (.inl rfl)
 refine⟨⟨by simpa using h.len,nE h.sm hx,by simpa using s2.1,fun j hj=>?_,?_,?_⟩,hg⟩
 · have eL:j<l.length:=by simpa using hj
   by_cases e:i=j
   · subst e;rw[List.getElem_set_self,List.getElem_set_self];exact hy.grown hg (.inr Zt)
   · rw[List.getElem_set_ne e,List.getElem_set_ne e];exact(h.ops j eL).grown hg (.inr (h.out g rfl _ (List.getElem_mem _)))
 · rw[List.pairwise_iff_getElem];intro a b ha hb R8;have Ni:a<hs.length:=by simpa using ha
   have hb':b<hs.length:=by simpa using hb
   have hp:=List.pairwise_iff_getElem.1 h.apart a b Ni hb' R8;by_cases ea:i=a
   · subst ea;rw[List.getElem_set_self,List.getElem_set_ne (by omega)]
     cases e:y.ownBlock with
     | none=>exact .inl rfl
     | some k=>exact .inr (fun e2=>jz k e (.inr ⟨hs[b],List.getElem_mem _,e2.symm⟩))
   · rw[List.getElem_set_ne ea];by_cases eb:i=b
     · subst eb;rw[List.getElem_set_self];cases e:hs[a].ownBlock with
       | none=>exact .inl rfl
       | some k=>exact .inr (fun e2=>jz k e2.symm (.inr ⟨hs[a],List.getElem_mem _,e⟩))
     · rw[List.getElem_set_ne eb]; exact hp
 · intro k hk z hz;rcases List.mem_or_eq_of_mem_set hz with h1 | h1
   · exact h.out k hk z h1
   · subst h1;have:k=g:=by simpa[Value.ownBlock] using hk.symm
     rw[this]; exact Zt
end aZ
namespace aZ
open Go Go.RowKit base av aN
theorem k9:∀(l:List Rc) (k:Nat) (s t:St),uR k s→bA s l=some t→uR (k+l.length) t
 | [],k,s,t,h,e=>by cases e; exact h
 | r::l,k,s,t,h,e=>by
  rw[bA] at e
  split at e
  · cases e
  · next u hu=>
    have:=k9 l (k+1) u t (h.step hu) e;rw[List.length_cons,Nat.add_comm l.length 1,←Nat.add_assoc];exact this
theorem Jo(l:List Rc)(h:∀r∈l,bf r=true):kB l≤26 * l.length:=by
 induction l with
 | nil=>simp[kB]
 | cons x l ih=>
  rw[FY,List.length_cons];have h1:=ih fun r hr=>h r (List.mem_cons_of_mem _ hr)
  have h2:x.2.2.length≤8:=by
   rcases((bE x).1 (h x List.mem_cons_self)).2 with⟨_,h2⟩ | ⟨_,h2⟩
   · exact((bq _).1 h2).2.2
   · rw[h2]; simp
  omega
theorem yT(l:List Rc):(pW (replay l)).length≤60∧(eO (replay l)).length≤l.length∧kB (eO (replay l))≤26 * l.length:=by
 cases hr:replay l with
 | none=>simp[pW,eO,kB]
 | some s=>
  have h:=k9 l 0 _ s pZ hr;have h2:=Jo s.2.1 h.ok;have h3:=h.held;simp only[pW,eO];exact⟨h.jB,by omega,by omega⟩
theorem bm.plain{w:World}{base g n cap:Nat}{l:List Rc}{hs:List Value}(h:bm w base (.slice (some ⟨g,0,none⟩) n cap) l hs):j7 w (some ⟨g,0,none⟩) n:=by
 intro b off e i hi pa pl pc hc;obtain rfl:=h.nf;simp only[Option.some.injEq,Addr.mk.injEq,and_true] at e;obtain⟨rfl,rfl⟩:=e;have h1:=(h.at i hi).2.2;rw[Nat.zero_add] at hc;rw[hc] at h1;have h2:=(h.ops i hi).shape;rw[←Option.some.inj h1] at h2;rcases h2 with⟨h2,_⟩ | ⟨g2,c2,h2,_⟩
 · cases h2; exact .inl rfl
 · cases h2; exact .inr ⟨_,_,rfl⟩
section
variable{w0 w w':World}{B1 B2 gw n cw gg cg:Nat}{vs vx vg:Value}{hss hsx hsg:List Value}{P G:List Pr}{R X H:List Rc}
end
end aZ
namespace aZ
open Go Go.RowKit base av aN dp gu lay
def vS(l:List Rc):Prop:=∀r∈l,r.2.2.length≤1099511627776∧∀p∈r.2.2,p.2.1.size≤1099511627776
abbrev bO(id sure:Int)(la:Option Addr)(ln lc:Nat)(ma:Option Addr)(mn mc:Nat)(ha:Option Addr)(hn hc:Nat):Value:=.agg #[.int .i64 id,.slice la ln lc,.int .i64 sure,.slice ma mn mc,.slice ha hn hc]
abbrev bW(id sure:Int)(la:Option Addr)(ln lc:Nat)(ma:Option Addr)(mn mc:Nat)(ha:Option Addr)(hn hc:Nat):Obj:=.cells #[.int .i64 id,.slice la ln lc,.int .i64 sure,.slice ma mn mc,.slice ha hn hc] 43
theorem sP{s:cQ}(h:¬(0≤s.1∧s.1≤7)):bH s=false:=by unfold bH; rw[decide_eq_false h]; rfl
theorem A1{s:cQ}(h:300<s.2.1.length):bH s=false:=by unfold bH; rw[decide_eq_false (p:=s.2.1.length≤300) (by omega)]; simp
theorem nW{s:cQ}(h:¬(0≤s.2.2.1∧s.2.2.1≤(s.2.1.length:Int))):bH s=false:=by unfold bH; rw[decide_eq_false h]; simp
theorem sQ{s:cQ}(h1:0≤s.1∧s.1≤7)(h2:s.2.1.length≤300)(h3:0≤s.2.2.1∧s.2.2.1≤(s.2.1.length:Int)):
 bH s=((replay s.2.1).isSome && decide (pW (replay s.2.1)=s.2.2.2.1) && decide (eO (replay s.2.1)=s.2.2.2.2) && decide (s.2.1.length+(eO (replay s.2.1)).length≤300)):=by
 unfold bH;rw[decide_eq_true h1,decide_eq_true h2,decide_eq_true h3];cases replay s.2.1 with
 | none=>rfl
 | some t=>
  rw[Bool.eq_iff_iff];simp only[Bool.and_eq_true,decide_eq_true_iff,pW,eO,Option.isSome_some,true_and];exact⟨fun⟨⟨a,b⟩,c⟩=>⟨⟨decide_eq_true a,decide_eq_true b⟩,decide_eq_true c⟩,fun⟨⟨a,b⟩,c⟩=>⟨⟨of_decide_eq_true a,of_decide_eq_true b⟩,of_decide_eq_true c⟩⟩
theorem qu(la:Option Addr)(ln lc:Nat)(ma:Option Addr)(mn mc:Nat)(ha:Option Addr)(hn hc:Nat)(s:cQ)(w:World)(h:eK w la ln lc ma mn mc ha hn hc s)(hf:vS s.2.1):
 Calls Tryz.prog 26 #[bO s.1 s.2.2.1 la ln lc ma mn mc ha hn hc] w fun e w'=>e=.returned (.bool (bH s))∧Below w.heap.size w w':=by
 have lP:=h.log.1;have UN:=h.log.2.1;unfold maxLen at UN;obtain⟨W,hW⟩:∃W,w.alloc (bW s.1 s.2.2.1 la ln lc ma mn mc ha hn hc)=W:=⟨_,rfl⟩;have hB:Below w.heap.size w W:=by rw[←hW]; exact(Below.refl _ _).alloc (Nat.le_refl _) _
 have bt:au w.heap.size 43 [] (aK s.1 s.2.2.1 la ln lc ma mn mc ha hn hc) [] W:=by rw[←hW]; exact aE w _ _
 have sR:=Hid.mk' (fun wx=>qP s.1 0 7 wx)
 have Cd:=Hid.mk' (fun wx=>qP s.2.2.1 0 ln wx)
 have HW:=Hid.mk' hW;have Sj:=Hid.mk' h.held.1;have hhm:=h.held.2.1;unfold maxLen at hhm;have xC:=Hid.mk' lP;generalize hR:bH s=R;have c0:=bt.cell 0 _ rfl;have c1:=bt.cell 1 _ rfl;have c2:=bt.cell 2 _ rfl;simp only[List.length_nil,Nat.zero_add] at c0 c1 c2;have iN:=bt.lt;by_cases h1:0≤s.1∧s.1≤7
 · rw[decide_eq_true h1] at sR;by_cases h2:s.2.1.length≤300
   · have o9:¬(300:Int)<(ln:Int):=by omega
     by_cases h3:0≤s.2.2.1∧s.2.2.1≤(s.2.1.length:Int)
     · rw[decide_eq_true (show 0≤s.2.2.1∧s.2.2.1≤(ln:Int) by omega)] at Cd
       rw[sQ h1 h2 h3] at hR;have Hk:=Hid.mk' (sN la ln lc s.2.1 W (h.log.below hB) (by omega) hf)
       have a6:(eO (replay s.2.1)).length≤300:=by have:=(yT s.2.1).2.1; omega
       have rU:ln≤300:=by omega
       generalize replay s.2.1=t at *;have HR:=Hid.mk' hR;have hS:=h;clear hR hW h h1 h2 h3 lP;go_enter Tryz.func26,Tryz.ntmps26;go_wp2_with fail;refine(sR.out _).mono ?_;rintro e w1 ⟨rfl,rfl⟩;go_wp2_with fail;refine(Cd.out _).mono ?_;rintro e w1 ⟨rfl,rfl⟩;go_wp2_with fail;rw[HW.out];refine Hk.out.mono ?_;rintro e w2 ⟨g,np,cp,g2,oJ,hs,rfl,hO,nv,_,aU⟩;have bV:=bt.below aU;have d1:=bV.cell 1 _ rfl;have d3:=bV.cell 3 _ rfl;have d4:=bV.cell 4 _ rfl;simp only[List.length_nil,Nat.zero_add] at d1 d3 d4;have dw:=hB.trans (aU.mono hB.size);have xe:=Hid.mk' (uV (some ⟨g,0,none⟩) ma np cp mn mc (pW t) s.2.2.2.1 w2 hO.sl (hS.map.below dw));have th:=Hid.mk' (fun wx (hx:Below w2.heap.size w2 wx)=>wH (some ⟨g2,0,none⟩) ha _ oJ hn hc (eO t) s.2.2.2.2 wx (nv.sl.below hx) ((hS.held.below dw).below hx))
       have Lb:(eO t).length≤maxLen:=nv.sl.2.1;unfold maxLen at Lb;clear Hk sR Cd HW c0 c1 c2 bt hO;cases Mc:t.isSome with
       | false=>
        have lV:Hid (R=false):=by show _=_; rw[←HR.out,Mc]; rfl
        clear HR xe th;go_wp2_with fail;go_ret;rw[lV.out];exact⟨rfl,dw⟩
       | true=>
        by_cases e1:pW t=s.2.2.2.1
        · rw[decide_eq_true e1] at xe;have mg:∀n,Below w2.heap.size w2 (w2.drewN n):=fun n=>below_drewN (Below.refl _ _) n
          by_cases e2:eO t=s.2.2.2.2
          · rw[decide_eq_true e2] at th;have lV:Hid (R=decide (s.2.1.length+(eO t).length≤300)):=by show _=_; rw[←HR.out,Mc,decide_eq_true e1,decide_eq_true e2]; simp
            clear HR;have Zu:(eO t).length=hn:=by rw[e2]; exact Sj.out
            have HES:=Hid.mk' Zu;clear Zu e1 e2;go_wp2_with fail;refine xe.out.mono ?_;rintro e w3 ⟨rfl,n3,rfl⟩;have rL:=bV.below (mg n3);have f1:=rL.cell 1 _ rfl;have f4:=rL.cell 4 _ rfl;simp only[List.length_nil,Nat.zero_add] at f1 f4;go_wp2_with fail;refine(th.out _ (mg n3)).mono ?_;rintro e w4 ⟨rfl,eD⟩;have L1:=rL.below eD;have k1:=L1.cell 1 _ rfl;simp only[List.length_nil,Nat.zero_add] at k1;have ej:=dw.trans ((mg n3).mono dw.size) |>.trans (eD.mono (Nat.le_trans dw.size (mg n3).size))
            clear xe th d1 d3 d4 f1 f4;go_wp2_with fail;go_ret;rw[lV.out];exact⟨aj (by rw[Bool.eq_iff_iff,decide_eq_true_iff,decide_eq_true_iff]; have:=HES.out; have:=xC.out; omega),ej⟩
          · rw[decide_eq_false e2] at th;have lV:Hid (R=false):=by show _=_; rw[←HR.out,decide_eq_false e2]; simp
            clear HR;go_wp2_with fail;refine xe.out.mono ?_;rintro e w3 ⟨rfl,n3,rfl⟩;have rL:=bV.below (mg n3);have f1:=rL.cell 1 _ rfl;have f4:=rL.cell 4 _ rfl;simp only[List.length_nil,Nat.zero_add] at f1 f4;go_wp2_with fail;refine(th.out _ (mg n3)).mono ?_;rintro e w4 ⟨rfl,eD⟩;have ej:=dw.trans ((mg n3).mono dw.size) |>.trans (eD.mono (Nat.le_trans dw.size (mg n3).size))
            clear xe th d1 d3 d4 f1 f4;go_wp2_with fail;go_ret;rw[lV.out];exact⟨rfl,ej⟩
        · rw[decide_eq_false e1] at xe;have lV:Hid (R=false):=by show _=_; rw[←HR.out,decide_eq_false e1]; simp
          clear HR;go_wp2_with fail;refine xe.out.mono ?_;rintro e w3 ⟨rfl,n3,rfl⟩;have ej:=dw.trans ((below_drewN (Below.refl _ _) n3:Below w2.heap.size w2 (w2.drewN n3)).mono dw.size);clear xe th d1 d3 d4;go_wp2_with fail;go_ret;rw[lV.out];exact⟨rfl,ej⟩
     · rw[decide_eq_false (show¬(0≤s.2.2.1∧s.2.2.1≤(ln:Int)) by omega)] at Cd
       have lV:Hid (R=false):=by show _=_; rw[←hR]; exact nW h3
       clear hR hW h h1 h2 h3 lP;go_enter Tryz.func26,Tryz.ntmps26;go_wp2_with fail;refine(sR.out _).mono ?_;rintro e w1 ⟨rfl,rfl⟩;go_wp2_with fail;refine(Cd.out _).mono ?_;rintro e w1 ⟨rfl,rfl⟩;go_wp2_with fail;go_ret;rw[lV.out,HW.out];exact⟨rfl,hB⟩
   · have o9:(300:Int)<(ln:Int):=by omega
     have lV:Hid (R=false):=by show _=_; rw[←hR]; exact A1 (by omega)
     clear hR hW h h1 h2 Cd lP;go_enter Tryz.func26,Tryz.ntmps26;go_wp2_with fail;refine(sR.out _).mono ?_;rintro e w1 ⟨rfl,rfl⟩;go_wp2_with fail;go_ret;rw[lV.out,HW.out];exact⟨rfl,hB⟩
 · rw[decide_eq_false h1] at sR;have lV:Hid (R=false):=by show _=_; rw[←hR]; exact sP h1
   clear hR hW h h1 Cd lP;go_enter Tryz.func26,Tryz.ntmps26;go_wp2_with fail;refine(sR.out _).mono ?_;rintro e w1 ⟨rfl,rfl⟩;go_wp2_with fail;go_ret;rw[lV.out,HW.out];exact⟨rfl,hB⟩
end aZ
end Go.Proofs.YtmibabclefgljaaGreat
