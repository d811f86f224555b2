/- RecZl HelpP HelpQ HelpO HelpN ShA LayB0 LayB RecHA RecHB RowV PairTrio OrdArg RecHC RecHD RecHex ShB -/
import Derived.Test.YtmibabclefgljaaGreatShal
import Derived.Test.YtmibabclefgljaaGreatShac
import Derived.Test.YtmibabclefgljaaGreatShaa
import Derived.Test.YtmibabclefgljaaGreatShab
import Derived.Test.YtmibabclefgljaaGreatShah
import Derived.Test.YtmibabclefgljaaGreatShai
import Derived.Test.YtmibabclefgljaaGreatShad
import Derived.Deep.SlicePairs
import Derived.ChangeArms
set_option linter.unusedVariables false
set_option linter.unusedSimpArgs false
set_option maxRecDepth 100000
set_option maxHeartbeats 2000000
namespace Go.Proofs.YtmibabclefgljaaGreat
namespace bm
open Go Go.RowKit base aE aX
theorem vi{w:World}{B:Nat}{e:TypeId}{size n:Nat}{v:Value}{xs:List Value}(h:w.ownsRow 0 e size v n xs)(hB:∀k,v.ownBlock=some k→B≤k):w.ownsRow B e size v n xs:=by
 refine⟨h.1,?_⟩;rcases h.2 with h' | ⟨g,cap,cur,rfl,h0,r⟩
 · exact .inl h'
 · exact .inr ⟨g,cap,cur,rfl,hB g rfl,r⟩
theorem bB.lift{w:World}{B:Nat}{v:Value}{l:List Rc}{hs:List Value}(h:bB w 0 v l hs)(hB:∀k,dq v hs k→B≤k):bB w B v l hs:=
 ⟨h.len,h.sm,vi h.row (fun k e=>hB k (.inl e)),fun i hi=>⟨(h.ops i hi).1,vi (h.ops i hi).2 (fun k e=>hB k (.inr ⟨_,List.getElem_mem _,e⟩))⟩,h.apart,h.out⟩
theorem eG.lift{w:World}{B:Nat}{a:Option Addr}{n cap:Nat}{l:List Pr}(h:eG w a n cap l)(hn:a≠none)(hB:∀k,(Value.slice a n cap).ownBlock=some k→B≤k):∃g,a=some ⟨g,0,none⟩∧bX w B g n cap l:=by
 rcases h.shape with⟨e,_⟩ | ⟨g,rfl,h⟩
 · exact absurd e hn
 · exact⟨g,rfl,h.1,h.2.1,vi h.2.2 hB⟩
theorem DA(w:World):Kept True w [] (((w.alloc (.cells #[] 100)).alloc (.cells #[] 98)).alloc (.cells #[.slice (some ⟨w.heap.size,0,none⟩) 0 0,.slice (some ⟨w.heap.size+1,0,none⟩) 0 0,.slice none 0 0] 137))
 (w.heap.size+1+1) (some ⟨w.heap.size,0,none⟩) 0 0 (some ⟨w.heap.size+1,0,none⟩) 0 (.slice none 0 0) ([],[],[]) []:=by
 obtain⟨wa,jw⟩:∃wa,wa=w.alloc (.cells #[] 100):=⟨_,rfl⟩;have ba:Below w.heap.size w wa:=by rw[jw]; exact(Below.refl _ _).alloc (Nat.le_refl _) _
 have oa:bX wa w.heap.size w.heap.size 0 0 []:=by rw[jw]; exact cB w _ (Nat.le_refl _)
 have sa:wa.heap.size=w.heap.size+1:=by rw[jw]; simp
 rw[←jw];clear jw;obtain⟨wb,nM⟩:∃wb,wb=wa.alloc (.cells #[] 98):=⟨_,rfl⟩;have bb:Below wa.heap.size wa wb:=by rw[nM]; exact(Below.refl _ _).alloc (Nat.le_refl _) _
 have ob:bB wb w.heap.size (.slice (some ⟨w.heap.size+1,0,none⟩) 0 0) [] []:=by
  have:=oY wa w.heap.size ba.size;rw[sa] at this;rw[nM]; exact this
 have sb:wb.heap.size=w.heap.size+1+1:=by rw[nM]; simp[sa]
 rw[←nM];clear nM;have bd:=(Below.refl _ wb).alloc (Nat.le_refl _) (.cells #[.slice (some ⟨w.heap.size,0,none⟩) 0 0,.slice (some ⟨w.heap.size+1,0,none⟩) 0 0,.slice none 0 0] 137);have xd:=heap_alloc_new wb (.cells #[.slice (some ⟨w.heap.size,0,none⟩) 0 0,.slice (some ⟨w.heap.size+1,0,none⟩) 0 0,.slice none 0 0] 137);rw[sb] at xd;have B1:=ba.trans (bb.mono ba.size);refine⟨xd,iF ((oa.below bb).below bd),(ob.below bd).mono (Nat.zero_le _),A1 _ _,lay.Frame.cM (B1.trans (bd.mono B1.size)),fun k e=>.inr ?_,fun k e=>.inr ?_,fun k e=>by simp[Value.ownBlock] at e,(fun _ e=>by cases e),(fun _ e=>by cases e)⟩
 · have:w.heap.size=k:=by simpa[Value.ownBlock] using e
   omega
 · exact(ob.lt k e).1
theorem Mm{N:Prop}{w0 w:World}{F0:List Nat}{X gm nm cm ch:Nat}{ah:Option Addr}{vs:Value}{s:St}{hs:List Value}(h:Kept N w0 F0 w X (some ⟨gm,0,none⟩) nm cm ah ch vs s hs):¬dq (.slice ah s.2.1.length ch) hs gm:=by
 intro hk;exact h.zc h.m.2.2 (by decide) (by decide) gm hk rfl
theorem td(a:Option Addr)(len cap:Nat)(l:List Rc)(w:World)(h:rP w a len l)(jg:len≤1099511627776 / 16)(cT:∀r∈l,r.2.2.length≤1099511627776∧∀p∈r.2.2,p.2.1.size≤1099511627776):
 Calls Tryz.prog 63 #[.slice a len cap] w fun e w'=>pg w (replay l) e w':=by
 obtain⟨hl,hm,fk,hc⟩:=id h;subst hl;unfold maxLen at hm;generalize hR:replay l=R;have Sb:Hid (R=bN ([],[],[]) (l.drop 0)):=by show _=_; rw[←hR]; rfl
 clear hR;aj Tryz.func63,Tryz.ntmps63;ab (ak; fail)
 aN [6] (fun i wr=>∃(k nm cm ch:Nat) (am ah:Option Addr) (vs:Value) (hs:List Value) (s:St),k≤l.length∧i=.int .i64 (k:Int)∧Kept True w [] wr (w.heap.size+1+1) am nm cm ah ch vs s hs∧vh k s∧Hid (R=bN s (l.drop k))) (fun i _=>l.length - (intOf i).toNat)
 case atStart=>exact⟨0,0,0,0,_,_,_,[],([],[],[]),Nat.zero_le _,rfl,DA w,qq,Sb⟩
 case round=>
  clear Sb;obtain⟨k,nm,cm,ch,am,ah,vs,hs,s,hk,rfl,hK,hT,HR⟩:=hrel;have Mn:Below w.heap.size w wr:=hK.fr.fp (Nat.le_refl _) (fun j hj=>by simp at hj; omega)
  by_cases bn:k<l.length
  · obtain⟨b,off,ha,_⟩:=hc (by omega)
    subst ha;have fF:=h.at k bn;obtain⟨Jd,NG,pa,pl,pc,o9,dT,_⟩:=fF;have nu:=World.block_lt_of_cell? w _ Jd;have c0:=(Mn.cell (p:=⟨b,off+k * 3,none⟩) nu).trans Jd;have c1:=(Mn.cell (p:=⟨b,off+k * 3+1,none⟩) nu).trans NG;have c2:=(Mn.cell (p:=⟨b,off+k * 3+2,none⟩) nu).trans o9;have fZ:(k:Int)<(l.length:Int):=by omega
    obtain⟨pf,dV⟩:=cT _ (List.getElem_mem bn);have xK:=fk _ (List.getElem_mem bn);have HD:Hid (R=match one s l[k] with | none=>none | some t=>bN t (l.drop (k+1))):=by
     show _=_;rw[HR.out,List.drop_eq_getElem_cons bn]; rfl
    generalize l[k]=r at *;clear Jd NG o9 nu HR;have hth:=hT.held;have Mo:=hT.seen;have Hs:=dT.1;have HF:=Hid.mk' (Jz True w [] wr (w.heap.size+1+1) am nm cm ah ch vs s hs r.1 r.2.1 pa pl pc r.2.2 hK (dT.below Mn) dV xK (by omega) (by omega) (by omega) hT.jS hT.eight)
    have ir:Hid (∀t,one s r=some t→vh (k+1) t):=fun t ho=>hT.step ho
    cases ho:one s r with
    | none=>
     have Ht:Hid (R=none):=by show _=_; rw[HD.out,ho]
     rw[show((r.1,r.2.1,r.2.2):Rc)=r from rfl,ho] at HF
     clear HD ho ir;ab (ak; fail)
     refine HF.out.mono ?_;rintro e w2 ⟨rfl,wN⟩;have dL:Below w.heap.size w w2:=wN.fp (Nat.le_refl _) (fun j hj=>by simp at hj; omega)
     clear wN;have HP:=Hid.mk' (mS Ht.out dL);clear HF c0 c1 c2;ab (ak; fail)
     y_
     exact HP.out
    | some t=>
     have Ht:Hid (R=bN t (l.drop (k+1))):=by show _=_; rw[HD.out,ho]
     have hT':=ir.out t ho;rw[show((r.1,r.2.1,r.2.2):Rc)=r from rfl,ho] at HF
     clear HD ho ir;ab (ak; fail)
     refine HF.out.mono ?_;rintro e w2 ⟨rfl,am2,nm2,cm2,ah2,ch2,vs2,pQ,fy⟩;clear HF c0 c1 c2;ab (ak; fail)
     aA
     case rel=>exact⟨k+1,nm2,cm2,ch2,am2,ah2,vs2,pQ,t,by omega,by aF,fy,hT',Ht⟩
     case measure=>simp[intOf]; omega
  · have Ht:Hid (R=some s):=by
     show _=_;rw[HR.out,List.drop_eq_nil_of_le (by omega)]; rfl
    have jf:=hK.box.lt;obtain⟨gm,rfl,WB⟩:=hK.m.lift (B:=w.heap.size) (hK.Rb trivial) (fun k e=>(hK.Ds k e).resolve_left List.not_mem_nil)
    obtain⟨gh,rfl⟩:∃gh,ah=some ⟨gh,0,none⟩:=by
     rcases hK.held.shape with⟨e,_⟩ | ⟨g,c,e,_⟩
     · injection e with e1 _ _; exact absurd e1 (hK.UW trivial)
     · cases e; exact⟨g,rfl⟩
    clear WB;have o0:=last.On.cell (B:=wr.heap.size) hK.box.cells.1 jf;have o1:=last.On.cell (B:=wr.heap.size) hK.box.cells.2.1 jf;have br:=last.On.iq wr.heap.size wr;ab (ak; fail)
    refine last.ar wr.heap.size (by aa) (by aa) ?_
    repeat(ai (fail))
    refine wpQuiet_nil ?_;intro w5 cf;obtain⟨x5,cf⟩:=cf;have dx:Below wr.heap.size wr w5:=by rw[cf]; exact x5.2
    have sg:=hK.below dx;have HP:Hid (pg w R (.returned (.tuple #[.slice (some ⟨gm,0,none⟩) nm cm,.slice (some ⟨gh,0,none⟩) s.2.1.length ch,.bool true])) w5):=by
     rw[Ht.out];obtain⟨gm',e9,hOP⟩:=sg.m.lift (B:=w.heap.size) (sg.Rb trivial) (fun k e=>(sg.Ds k e).resolve_left List.not_mem_nil)
     cases e9;exact⟨gm,nm,cm,gh,ch,hs,rfl,hOP,sg.held.lift (fun k e=>(sg.zb k e).resolve_left List.not_mem_nil),Mm sg,sg.fr.fp (Nat.le_refl _) (fun j hj=>by simp at hj; omega)⟩
    clear cf x5 br o0 o1;ab (ak; fail)
    y_
    exact HP.out
end bm
namespace aE
open Go Go.RowKit base dG
theorem vk{l l2:List Pr}{k:Nat}(h:l.take k=l2.take k)(h1:k<l.length)(h2:k<l2.length)(e:l[k]=l2[k]):l.take (k+1)=l2.take (k+1):=by
 rw[km l k h1,km l2 k h2,h,e]
end aE
namespace aE
open Go Go.RowKit base dG
theorem Fm(a a2:Option Addr)(len cap cK eC:Nat)(l l2:List Pr)(w:World)(h:lL w a len l)(h2:lL w a2 cK l2):
 Calls Tryz.prog 24 #[.slice a len cap,.slice a2 cK eC] w fun e w'=>e=.returned (.bool (decide (l=l2)))∧∃n,w'=w.drewN n:=by
 obtain⟨hl,hm,_,hc⟩:=h;obtain⟨jA,jU,_,ei⟩:=h2;subst hl jA;unfold maxLen at hm jU;by_cases bh:l.length=l2.length
 · have hb:((l.length:Int)==(l2.length:Int))=true:=by simp; omega
   aj Tryz.func24,Tryz.ntmps24;ab fail;aN [5] (fun i wr=>∃k:Nat,k≤l.length∧i=.int .i64 k∧l.take k=l2.take k∧∃n,wr=w.drewN n) (fun i _=>l.length - (intOf i).toNat)
   case atStart=>exact⟨0,Nat.zero_le _,rfl,rfl,0,rfl⟩
   case round=>
    obtain⟨k,hk,rfl,iV,n,rfl⟩:=hrel;by_cases bn:k<l.length
    · obtain⟨b,off,ha,cZ⟩:=hc (by omega)
      obtain⟨b2,kP,te,hI⟩:=ei (by omega)
      subst ha te;have fP:k<l2.length:=by omega
      have Ct:(k:Int)<(l.length:Int):=by omega
      have DB:(k:Int)<(l2.length:Int):=by omega
      obtain⟨c1,c2⟩:=cZ k bn;obtain⟨c3,c4⟩:=hI k fP;by_cases e:l[k]=l2[k]
      · have HE:=Hid.mk' (vk iV bn fP e);rw[←e] at c3 c4;clear cZ hI hc ei iV bh e;generalize l[k]=p at *;ab fail;bE (fail)
        ab fail;aA
        case rel=>exact⟨k+1,by omega,by aF,HE.out,_,rfl⟩
        case measure=>simp[intOf]; omega
      · have HE:Hid (¬l=l2):=by
         show¬_;rintro rfl; exact e rfl
        generalize l[k]=p at *;generalize l2[k]=q at *;clear cZ hI hc ei iV bh;by_cases e1:p.1=q.1
        · have hq:=ef (fun e2:p.2=q.2=>e (Prod.ext e1 e2))
          rw[←e1] at c3;generalize p.1=p1 at *;generalize p.2=p2 at *;generalize q.2=q2 at *;clear e e1;ab fail;bE (fail)
          ab fail;an;exact⟨au (by symm; rw[decide_eq_false_iff_not]; exact HE.out),_,World.drewN_drewN _ _ _⟩
        · have hq:=ef e1;generalize p.1=p1 at *;generalize p.2=p2 at *;generalize q.1=q1 at *;generalize q.2=q2 at *;clear e e1;ab fail;bE (fail)
          ab fail;an;exact⟨au (by symm; rw[decide_eq_false_iff_not]; exact HE.out),_,World.drewN_drewN _ _ _⟩
    · have e:k=l.length:=by omega
      have cU:l=l2:=by
       subst e;rw[List.take_of_length_le (Nat.le_refl _),List.take_of_length_le (by omega)] at iV
       exact iV
      have HF:=Hid.mk' cU;clear cU iV;ab fail;an;exact⟨au (by symm; rw[decide_eq_true_iff]; exact HF.out),_,rfl⟩
 · have hb:((l.length:Int)==(l2.length:Int))=false:=by simp; omega
   aj Tryz.func24,Tryz.ntmps24;bf;an;exact⟨au (by symm; rw[decide_eq_false_iff_not]; intro h; exact bh (by rw[h])),0,rfl⟩
end aE
namespace aX
open Go Go.RowKit base dG aE
theorem qs(l:List Od)(k:Nat)(h:k<l.length):l.take (k+1)=l.take k++[l[k]]:=List.take_succ_eq_append_getElem h
def U0(o:Od):Nat:=o.2.1.size+o.2.2.size
def sr(l:List Od):Nat:=(l.map U0).sum
theorem Gh(l:List Od)(k:Nat)(h:k<l.length):sr (l.take (k+1))=sr (l.take k)+U0 l[k]:=by
 unfold sr; rw[qs l k h,List.map_append,List.sum_append]; simp
theorem Mp(l:List Od)(k:Nat):sr (l.take k)≤sr l:=by
 have e:sr l=sr (l.take k)+sr (l.drop k):=by
  unfold sr; rw[←List.sum_append,←List.map_append,List.take_append_drop]
 omega
theorem vl{l l2:List Od}{k:Nat}(h:l.take k=l2.take k)(h1:k<l.length)(h2:k<l2.length)(e:l[k]=l2[k]):l.take (k+1)=l2.take (k+1):=by
 rw[qs l k h1,qs l2 k h2,h,e]
end aX
namespace aX
open Go Go.RowKit base dG aE
/-! ### rows of numbers -/
theorem Mq(a a2:Option Addr)(len cap cK eC:Nat)(l l2:List Od)(w:World)(h:dS w a len l)(h2:dS w a2 cK l2):
 Calls Tryz.prog 96 #[.slice a len cap,.slice a2 cK eC] w fun e w'=>e=.returned (.bool (decide (l=l2)))∧∃n,w'=w.drewN n:=by
 obtain⟨hl,hm,_,hc⟩:=h;obtain⟨jA,jU,_,ei⟩:=h2;subst hl jA;unfold maxLen at hm jU;by_cases bh:l.length=l2.length
 · have hb:((l.length:Int)==(l2.length:Int))=true:=by simp; omega
   aj Tryz.func96,Tryz.ntmps96;ab fail;aN [5] (fun i wr=>∃k:Nat,k≤l.length∧i=.int .i64 k∧l.take k=l2.take k∧∃n,wr=w.drewN n) (fun i _=>l.length - (intOf i).toNat)
   case atStart=>exact⟨0,Nat.zero_le _,rfl,rfl,0,rfl⟩
   case round=>
    obtain⟨k,hk,rfl,iV,n,rfl⟩:=hrel;by_cases bn:k<l.length
    · obtain⟨b,off,ha,cZ⟩:=hc (by omega)
      obtain⟨b2,kP,te,hI⟩:=ei (by omega)
      subst ha te;have fP:k<l2.length:=by omega
      have Ct:(k:Int)<(l.length:Int):=by omega
      have DB:(k:Int)<(l2.length:Int):=by omega
      obtain⟨c0,c1,c2⟩:=cZ k bn;obtain⟨d0,d1,d2⟩:=hI k fP;by_cases e:l[k]=l2[k]
      · have HE:=Hid.mk' (vl iV bn fP e);rw[←e] at d0 d1 d2;clear cZ hI hc ei iV bh e;generalize l[k]=p at *;ab fail;bE (fail)
        ab fail;aA
        case rel=>exact⟨k+1,by omega,by aF,HE.out,_,rfl⟩
        case measure=>simp[intOf]; omega
      · have HE:Hid (¬l=l2):=by
         show¬_;rintro rfl; exact e rfl
        generalize l[k]=p at *;generalize l2[k]=q at *;clear cZ hI hc ei iV bh;obtain⟨p0,p1,p2⟩:=p;obtain⟨q0,q1,q2⟩:=q;simp only[] at c0 c1 c2 d0 d1 d2;by_cases e0:p0=q0
        · subst e0;have h0:(p0==p0)=true:=beq_self_eq_true _;by_cases e1:p1=q1
          · subst e1;have hq:=ef (fun e2:p2=q2=>e (by rw[e2]))
            clear e;ab fail;bE (fail)
            ab fail;an;exact⟨au (by symm; rw[decide_eq_false_iff_not]; exact HE.out),_,World.drewN_drewN _ _ _⟩
          · have hq:=ef e1;clear e e1;ab fail;bE (fail)
            ab fail;an;exact⟨au (by symm; rw[decide_eq_false_iff_not]; exact HE.out),_,World.drewN_drewN _ _ _⟩
        · have h0:(p0==q0)=false:=beq_eq_false_iff_ne.2 e0;clear e e0;ab fail;bE (fail)
          ab fail;an;exact⟨au (by symm; rw[decide_eq_false_iff_not]; exact HE.out),_,World.drewN_drewN _ _ _⟩
    · have e:k=l.length:=by omega
      have cU:l=l2:=by
       subst e;rw[List.take_of_length_le (Nat.le_refl _),List.take_of_length_le (by omega)] at iV
       exact iV
      have HF:=Hid.mk' cU;clear cU iV;ab fail;an;exact⟨au (by symm; rw[decide_eq_true_iff]; exact HF.out),_,rfl⟩
 · have hb:((l.length:Int)==(l2.length:Int))=false:=by simp; omega
   aj Tryz.func96,Tryz.ntmps96;bf;an;exact⟨au (by symm; rw[decide_eq_false_iff_not]; intro h; exact bh (by rw[h])),0,rfl⟩
end aX
namespace bm
open Go Go.RowKit base aE aX dG gO
theorem rj(x a b:Int)(w:World):
    Calls Tryz.prog 32 #[.int .i64 x,.int .i64 a,.int .i64 b] w fun e w'=>e=.returned (.bool (decide (a≤x∧x≤b)))∧w'=w:=by
  by_cases h1:a≤x
  · by_cases h2:x≤b
    · aj Tryz.func32,Tryz.ntmps32;bf;an;exact⟨au (by simp[h1,h2]),rfl⟩
    · aj Tryz.func32,Tryz.ntmps32;bf;an;exact⟨au (by simp[h1,h2]),rfl⟩
  · aj Tryz.func32,Tryz.ntmps32;bf;an;exact⟨au (by have h3:¬a≤x:=by omega
                        simp[h3]),rfl⟩
def qt(id:Int):de:=if 0≤id∧id≤7 then(id,[],0,[],[]) else(0,[],0,[],[])
def sv(id:Int):Value:=.agg #[.int .i64 id,.slice none 0 0,.int .i64 0,.slice none 0 0,.slice none 0 0]
theorem Gi(w:World)(id:Int)(h:(Lit.int .i64 id).wf=true):lay.dn w none 0 0 none 0 0 none 0 0 (id,[],0,[],[]) []:=
 ⟨h,rfl,⟨[],As _ _,[],As _ _,rfl⟩,F9 _,List.nodup_nil⟩
theorem wY(id:Int)(w:World):
 Calls Tryz.prog 34 #[.int .i64 id] w fun e w'=>e=.returned (sv (qt id).1)∧Below w.heap.size w w':=by
 have HI:=Hid.mk' (fun wx=>rj id 0 7 wx)
 by_cases h:0≤id∧id≤7
 · rw[decide_eq_true h] at HI;have e0:(qt id).1=id:=by unfold qt; rw[if_pos h]
   rw[e0];clear h e0;aj Tryz.func34,Tryz.ntmps34;ab fail;refine(HI.out _).mono ?_;rintro e w1 ⟨rfl,rfl⟩;clear HI;ab fail;exact bodyPost_ret (v:=sv id) (by simp[results,Tryz.results34,go_sem,sv]) rfl ⟨rfl,(Below.refl _ _).alloc (Nat.le_refl _) _⟩
 · rw[decide_eq_false h] at HI;have e0:(qt id).1=0:=by unfold qt; rw[if_neg h]
   rw[e0];clear h e0;aj Tryz.func34,Tryz.ntmps34;ab fail;refine(HI.out _).mono ?_;rintro e w1 ⟨rfl,rfl⟩;clear HI;ab fail;exact bodyPost_ret (v:=sv 0) (by simp[results,Tryz.results34,go_sem,sv]) rfl ⟨rfl,(Below.refl _ _).alloc (Nat.le_refl _) _⟩
theorem vm(a a2:Option Addr)(len cap cK eC:Nat)(l l2:List Pr)(w:World)(h:lL w a len l)(h2:lL w a2 cK l2):
 Calls Tryz.prog 64 #[.slice a len cap,.slice a2 cK eC] w fun e w'=>e=.returned (.bool (decide (l=l2)))∧∃n,w'=w.drewN n:=by
 obtain⟨hl,hm,_,hc⟩:=h;obtain⟨jA,jU,_,ei⟩:=h2;subst hl jA;unfold maxLen at hm jU;by_cases bh:l.length=l2.length
 · have hb:((l.length:Int)==(l2.length:Int))=true:=by simp; omega
   aj Tryz.func64,Tryz.ntmps64;ab fail;aN [5] (fun i wr=>∃k:Nat,k≤l.length∧i=.int .i64 k∧l.take k=l2.take k∧∃n,wr=w.drewN n) (fun i _=>l.length - (intOf i).toNat)
   case atStart=>exact⟨0,Nat.zero_le _,rfl,rfl,0,rfl⟩
   case round=>
    obtain⟨k,hk,rfl,iV,n,rfl⟩:=hrel;by_cases bn:k<l.length
    · obtain⟨b,off,ha,cZ⟩:=hc (by omega)
      obtain⟨b2,kP,te,hI⟩:=ei (by omega)
      subst ha te;have fP:k<l2.length:=by omega
      have Ct:(k:Int)<(l.length:Int):=by omega
      have DB:(k:Int)<(l2.length:Int):=by omega
      obtain⟨c1,c2⟩:=cZ k bn;obtain⟨c3,c4⟩:=hI k fP;by_cases e:l[k]=l2[k]
      · have HE:=Hid.mk' (vk iV bn fP e);rw[←e] at c3 c4;clear cZ hI hc ei iV bh e;generalize l[k]=p at *;ab fail;bE (fail)
        ab fail;aA
        case rel=>exact⟨k+1,by omega,by aF,HE.out,_,rfl⟩
        case measure=>simp[intOf]; omega
      · have HE:Hid (¬l=l2):=by
         show¬_;rintro rfl; exact e rfl
        generalize l[k]=p at *;generalize l2[k]=q at *;clear cZ hI hc ei iV bh;by_cases e1:p.1=q.1
        · have hq:=ef (fun e2:p.2=q.2=>e (Prod.ext e1 e2))
          rw[←e1] at c3;generalize p.1=p1 at *;generalize p.2=p2 at *;generalize q.2=q2 at *;clear e e1;ab fail;bE (fail)
          ab fail;an;exact⟨au (by symm; rw[decide_eq_false_iff_not]; exact HE.out),_,World.drewN_drewN _ _ _⟩
        · have hq:=ef e1;generalize p.1=p1 at *;generalize p.2=p2 at *;generalize q.1=q1 at *;generalize q.2=q2 at *;clear e e1;ab fail;bE (fail)
          ab fail;an;exact⟨au (by symm; rw[decide_eq_false_iff_not]; exact HE.out),_,World.drewN_drewN _ _ _⟩
    · have e:k=l.length:=by omega
      have cU:l=l2:=by
       subst e;rw[List.take_of_length_le (Nat.le_refl _),List.take_of_length_le (by omega)] at iV
       exact iV
      have HF:=Hid.mk' cU;clear cU iV;ab fail;an;exact⟨au (by symm; rw[decide_eq_true_iff]; exact HF.out),_,rfl⟩
 · have hb:((l.length:Int)==(l2.length:Int))=false:=by simp; omega
   aj Tryz.func64,Tryz.ntmps64;bf;an;exact⟨au (by symm; rw[decide_eq_false_iff_not]; intro h; exact bh (by rw[h])),0,rfl⟩
theorem zi(a a2:Option Addr)(len cap cK eC:Nat)(l l2:List Od)(w:World)(h:dS w a len l)(h2:dS w a2 cK l2):
 Calls Tryz.prog 99 #[.slice a len cap,.slice a2 cK eC] w fun e w'=>e=.returned (.bool (decide (l=l2)))∧∃n,w'=w.drewN n:=by
 obtain⟨hl,hm,_,hc⟩:=h;obtain⟨jA,jU,_,ei⟩:=h2;subst hl jA;unfold maxLen at hm jU;by_cases bh:l.length=l2.length
 · have hb:((l.length:Int)==(l2.length:Int))=true:=by simp; omega
   aj Tryz.func99,Tryz.ntmps99;ab fail;aN [5] (fun i wr=>∃k:Nat,k≤l.length∧i=.int .i64 k∧l.take k=l2.take k∧∃n,wr=w.drewN n) (fun i _=>l.length - (intOf i).toNat)
   case atStart=>exact⟨0,Nat.zero_le _,rfl,rfl,0,rfl⟩
   case round=>
    obtain⟨k,hk,rfl,iV,n,rfl⟩:=hrel;by_cases bn:k<l.length
    · obtain⟨b,off,ha,cZ⟩:=hc (by omega)
      obtain⟨b2,kP,te,hI⟩:=ei (by omega)
      subst ha te;have fP:k<l2.length:=by omega
      have Ct:(k:Int)<(l.length:Int):=by omega
      have DB:(k:Int)<(l2.length:Int):=by omega
      obtain⟨c0,c1,c2⟩:=cZ k bn;obtain⟨d0,d1,d2⟩:=hI k fP;by_cases e:l[k]=l2[k]
      · have HE:=Hid.mk' (vl iV bn fP e);rw[←e] at d0 d1 d2;clear cZ hI hc ei iV bh e;generalize l[k]=p at *;ab fail;bE (fail)
        ab fail;aA
        case rel=>exact⟨k+1,by omega,by aF,HE.out,_,rfl⟩
        case measure=>simp[intOf]; omega
      · have HE:Hid (¬l=l2):=by
         show¬_;rintro rfl; exact e rfl
        generalize l[k]=p at *;generalize l2[k]=q at *;clear cZ hI hc ei iV bh;obtain⟨p0,p1,p2⟩:=p;obtain⟨q0,q1,q2⟩:=q;simp only[] at c0 c1 c2 d0 d1 d2;by_cases e0:p0=q0
        · subst e0;have h0:(p0==p0)=true:=beq_self_eq_true _;by_cases e1:p1=q1
          · subst e1;have hq:=ef (fun e2:p2=q2=>e (by rw[e2]))
            clear e;ab fail;bE (fail)
            ab fail;an;exact⟨au (by symm; rw[decide_eq_false_iff_not]; exact HE.out),_,World.drewN_drewN _ _ _⟩
          · have hq:=ef e1;clear e e1;ab fail;bE (fail)
            ab fail;an;exact⟨au (by symm; rw[decide_eq_false_iff_not]; exact HE.out),_,World.drewN_drewN _ _ _⟩
        · have h0:(p0==q0)=false:=beq_eq_false_iff_ne.2 e0;clear e e0;ab fail;bE (fail)
          ab fail;an;exact⟨au (by symm; rw[decide_eq_false_iff_not]; exact HE.out),_,World.drewN_drewN _ _ _⟩
    · have e:k=l.length:=by omega
      have cU:l=l2:=by
       subst e;rw[List.take_of_length_le (Nat.le_refl _),List.take_of_length_le (by omega)] at iV
       exact iV
      have HF:=Hid.mk' cU;clear cU iV;ab fail;an;exact⟨au (by symm; rw[decide_eq_true_iff]; exact HF.out),_,rfl⟩
 · have hb:((l.length:Int)==(l2.length:Int))=false:=by simp; omega
   aj Tryz.func99,Tryz.ntmps99;bf;an;exact⟨au (by symm; rw[decide_eq_false_iff_not]; intro h; exact bh (by rw[h])),0,rfl⟩
theorem Bc{l l2:List Rc}{k:Nat}(h:l.take k=l2.take k)(h1:k<l.length)(h2:k<l2.length)(e:l[k]=l2[k]):l.take (k+1)=l2.take (k+1):=by
 rw[List.take_succ_eq_append_getElem h1,List.take_succ_eq_append_getElem h2,h,e]
theorem w_(a a2:Option Addr)(len cap cK eC:Nat)(l l2:List Rc)(w:World)(h:rP w a len l)(h2:rP w a2 cK l2):
 Calls Tryz.prog 65 #[.slice a len cap,.slice a2 cK eC] w fun e w'=>e=.returned (.bool (decide (l=l2)))∧Below w.heap.size w w':=by
 obtain⟨hl,hm,fk,hc⟩:=id h;obtain⟨jA,jU,wO,ei⟩:=id h2;subst hl jA;unfold maxLen at hm jU;by_cases bh:l.length=l2.length
 · have hb:((l.length:Int)==(l2.length:Int))=true:=by simp; omega
   aj Tryz.func65,Tryz.ntmps65;ab fail;aN [5] (fun i wr=>∃k:Nat,k≤l.length∧i=.int .i64 k∧l.take k=l2.take k∧Below w.heap.size w wr) (fun i _=>l.length - (intOf i).toNat)
   case atStart=>exact⟨0,Nat.zero_le _,rfl,rfl,Below.refl _ _⟩
   case round=>
    obtain⟨k,hk,rfl,iV,hB⟩:=hrel;by_cases bn:k<l.length
    · obtain⟨b,off,ha,cZ⟩:=hc (by omega)
      obtain⟨b2,kP,te,hI⟩:=ei (by omega)
      subst ha te;have fP:k<l2.length:=by omega
      have fZ:(k:Int)<(l.length:Int):=by omega
      have WC:(k:Int)<(l2.length:Int):=by omega
      have i1:=h.at k bn;have i2:=h2.at k fP;have a_:b<w.heap.size:=World.block_lt_of_cell? w _ i1.1;have be:b2<w.heap.size:=World.block_lt_of_cell? w _ i2.1;have FM:=hB.size;obtain⟨c1,c2,pa,pl,pc,c3,NL,_⟩:=i1.below hB;obtain⟨c4,c5,qa,ql,qc,c6,zW,_⟩:=i2.below hB;have br:=last.On.iq wr.heap.size wr;have ep:∀x:last.On wr.heap.size wr,Calls Tryz.prog 99 #[.slice pa pl pc,.slice qa ql qc] x.w fun e w'=>e=.returned (.bool (decide (l[k].2.2=l2[k].2.2)))∧∃y:last.On wr.heap.size wr,w'=y.w:=fun x=>last.Calls.on x (Nat.le_refl _) ((zi pa qa pl pc ql qc l[k].2.2 l2[k].2.2 x.w (NL.below x.2) (zW.below x.2)).mono (fun e w' h=>⟨h.1,by obtain⟨n,rfl⟩:=h.2; exact below_drewN (Below.refl _ _) n⟩))
      have Li:Hid (l[k]=l2[k]→l.take (k+1)=l2.take (k+1)):=fun e=>Bc iV bn fP e
      have Ex:Hid (¬l[k]=l2[k]→¬l=l2):=fun e e2=>e (by subst e2; rfl)
      clear cZ hI hc ei i1 i2 fk wO h h2 NL zW iV bh;generalize l[k]=p at *;generalize l2[k]=q at *;have WD:¬p=q→(last.On wr.heap.size wr→True):=fun _ _=>trivial
      clear WD;obtain⟨p1,p2,p3⟩:=p;obtain⟨q1,q2,q3⟩:=q;simp only[] at c1 c2 c3 c4 c5 c6 ep;by_cases e1:p1=q1
      · subst e1;have f1:(p1==p1)=true:=by simp
        by_cases e2:p2=q2
        · subst e2;have f2:(p2==p2)=true:=by simp
          by_cases e3:p3=q3
          · rw[decide_eq_true e3] at ep;have HE:=Hid.mk' (Li.out (by rw[e3]))
            clear Li Ex e3;have o1:=last.On.cell (B:=wr.heap.size) c1 (by omega)
            have o2:=last.On.cell (B:=wr.heap.size) c2 (by omega)
            have o3:=last.On.cell (B:=wr.heap.size) c3 (by omega)
            have o4:=last.On.cell (B:=wr.heap.size) c4 (by omega)
            have o5:=last.On.cell (B:=wr.heap.size) c5 (by omega)
            have o6:=last.On.cell (B:=wr.heap.size) c6 (by omega)
            ab fail;refine last.ar wr.heap.size (by aa) (by aa) ?_
            repeat(ai ((ao 99; ag exact ep _)))
            refine wpQuiet_nil ?_;intro w5 cf;obtain⟨x5,cf⟩:=cf;have ez:Below w.heap.size w w5:=by rw[cf]; exact hB.trans (x5.2.mono hB.size)
            clear cf x5 o1 o2 o3 o4 o5 o6 ep br;ab fail;aA
            case rel=>exact⟨k+1,by omega,by aF,HE.out,ez⟩
            case measure=>simp[intOf]; omega
          · rw[decide_eq_false e3] at ep;have HE:=Hid.mk' (Ex.out (fun e=>e3 (by cases e; rfl)))
            clear Li Ex e3;have o1:=last.On.cell (B:=wr.heap.size) c1 (by omega)
            have o2:=last.On.cell (B:=wr.heap.size) c2 (by omega)
            have o3:=last.On.cell (B:=wr.heap.size) c3 (by omega)
            have o4:=last.On.cell (B:=wr.heap.size) c4 (by omega)
            have o5:=last.On.cell (B:=wr.heap.size) c5 (by omega)
            have o6:=last.On.cell (B:=wr.heap.size) c6 (by omega)
            ab fail;refine last.ar wr.heap.size (by aa) (by aa) ?_
            repeat(ai ((ao 99; ag exact ep _)))
            refine wpQuiet_nil ?_;intro w5 cf;obtain⟨x5,cf⟩:=cf;have ez:Below w.heap.size w w5:=by rw[cf]; exact hB.trans (x5.2.mono hB.size)
            clear cf x5 o1 o2 o3 o4 o5 o6 ep br;ab fail;an;exact⟨au (by symm; rw[decide_eq_false_iff_not]; exact HE.out),ez⟩
        · have f2:(p2 != q2)=true:=by simpa using e2
          have HE:=Hid.mk' (Ex.out (fun e=>e2 (by cases e; rfl)))
          clear Li Ex e2;have o1:=last.On.cell (B:=wr.heap.size) c1 (by omega)
          have o2:=last.On.cell (B:=wr.heap.size) c2 (by omega)
          have o3:=last.On.cell (B:=wr.heap.size) c3 (by omega)
          have o4:=last.On.cell (B:=wr.heap.size) c4 (by omega)
          have o5:=last.On.cell (B:=wr.heap.size) c5 (by omega)
          have o6:=last.On.cell (B:=wr.heap.size) c6 (by omega)
          ab fail;refine last.ar wr.heap.size (by aa) (by aa) ?_
          repeat(ai ((ao 99; ag exact ep _)))
          refine wpQuiet_nil ?_;intro w5 cf;obtain⟨x5,cf⟩:=cf;have ez:Below w.heap.size w w5:=by rw[cf]; exact hB.trans (x5.2.mono hB.size)
          clear cf x5 o1 o2 o3 o4 o5 o6 ep br;ab fail;an;exact⟨au (by symm; rw[decide_eq_false_iff_not]; exact HE.out),ez⟩
      · have f1:(p1 != q1)=true:=by simpa using e1
        have HE:=Hid.mk' (Ex.out (fun e=>e1 (by cases e; rfl)))
        clear Li Ex e1;have o1:=last.On.cell (B:=wr.heap.size) c1 (by omega)
        have o2:=last.On.cell (B:=wr.heap.size) c2 (by omega)
        have o3:=last.On.cell (B:=wr.heap.size) c3 (by omega)
        have o4:=last.On.cell (B:=wr.heap.size) c4 (by omega)
        have o5:=last.On.cell (B:=wr.heap.size) c5 (by omega)
        have o6:=last.On.cell (B:=wr.heap.size) c6 (by omega)
        ab fail;refine last.ar wr.heap.size (by aa) (by aa) ?_
        repeat(ai ((ao 99; ag exact ep _)))
        refine wpQuiet_nil ?_;intro w5 cf;obtain⟨x5,cf⟩:=cf;have ez:Below w.heap.size w w5:=by rw[cf]; exact hB.trans (x5.2.mono hB.size)
        clear cf x5 o1 o2 o3 o4 o5 o6 ep br;ab fail;an;exact⟨au (by symm; rw[decide_eq_false_iff_not]; exact HE.out),ez⟩
    · have e:k=l.length:=by omega
      have cU:l=l2:=by
       subst e;rw[List.take_of_length_le (Nat.le_refl _),List.take_of_length_le (by omega)] at iV
       exact iV
      have HF:=Hid.mk' cU;clear cU iV;ab fail;an;exact⟨au (by symm; rw[decide_eq_true_iff]; exact HF.out),hB⟩
 · have hb:((l.length:Int)==(l2.length:Int))=false:=by simp; omega
   aj Tryz.func65,Tryz.ntmps65;bf;an;exact⟨au (by symm; rw[decide_eq_false_iff_not]; intro h; exact bh (by rw[h])),Below.refl _ _⟩
end bm
namespace lay
open Go Go.RowKit base
def aD(X:Nat)(T:TypeId)(pre vs post:List Value)(w:World):Prop:=w.heap[X]? =some (.cells (pre++vs++post).toArray T (0,0))
section
variable{X:Nat}{T:TypeId}{pre vs post:List Value}{w w':World}{G F:List Nat}
theorem aD.lt(h:aD X T pre vs post w):X<w.heap.size:=(Array.getElem?_eq_some_iff.1 h).1
theorem aD.keep(h:aD X T pre vs post w)(hk:w'.heap[X]? =w.heap[X]?):aD X T pre vs post w':=hk.trans h
theorem aD.below(h:aD X T pre vs post w)(hb:Below w.heap.size w w'):aD X T pre vs post w':=h.keep (hb.block X h.lt)
theorem aD.frame(h:aD X T pre vs post w)(hf:Frame G w w')(hn:X∉G):aD X T pre vs post w':=h.keep (hf.block X h.lt hn)
theorem aD.grown{row:Option Nat}(h:aD X T pre vs post w)(hg:w.grownBy w' row)(hn:some X≠row):aD X T pre vs post w':=h.keep (hg.block X h.lt hn)
theorem aD.cell(h:aD X T pre vs post w)(j:Nat)(u:Value)(hj:vs[j]? =some u):w.cell? ⟨X,pre.length+j,none⟩=some u:=by
 unfold aD at h;have hl:=(List.getElem?_eq_some_iff.1 hj).1;simp only[World.cell?,h];have hu:=(List.getElem?_eq_some_iff.1 hj).2;simp[List.getElem?_append,hl,hu]
theorem aD.fz(h:aD X T pre vs post w)(j:Nat):w.frozen? ⟨X,j,none⟩=false:=by unfold aD at h; simp[World.frozen?,h]
theorem aD.set(h:aD X T pre vs post w)(j:Nat)(hj:j<vs.length)(u:Value):aD X T pre (vs.set j u) post (w.setCell ⟨X,pre.length+j,none⟩ u)∧w.grownBy (w.setCell ⟨X,pre.length+j,none⟩ u) (some X):=by
 have h1:=bK h (pre.length+j) u;refine⟨?_,h1.2⟩;unfold aD;rw[h1.1]
 congr 2
 rw[List.setIfInBounds_toArray]
 congr 1
 rw[List.append_assoc,List.set_append_right _ _ (by omega),Nat.add_sub_cancel_left,List.set_append_left _ _ hj,List.append_assoc]
theorem aO(w:World)(vs:List Value)(T:TypeId):aD w.heap.size T [] vs [] (w.alloc (.cells vs.toArray T)):=by
 unfold aD;rw[List.nil_append,List.append_nil];exact heap_alloc_new w _
end
end lay

namespace bm
open Go Go.RowKit base aE aX dG
end bm
namespace bm
open Go Go.RowKit base aE aX dG
/-! ### marks -/
def kT(l:List Rc):Nat:=(l.map fun x=>2+3 * x.2.2.length).sum
theorem Gj(x:Rc)(l:List Rc):kT (x::l)=2+3 * x.2.2.length+kT l:=by simp[kT]
theorem Bd(a b:List Rc):kT (a++b)=kT a+kT b:=by simp[kT]
end bm
namespace aX
open Go Go.RowKit base aE
def V3(w:World)(g:Nat)(t:TypeId)(x y z:Value):Prop:=w.heap[g]? =some (.cells #[x,y,z] t (0,0))
section
variable{w w':World}{g:Nat}{t:TypeId}{x y z:Value}
theorem V3.c0(h:V3 w g t x y z):w.cell? ⟨g,0,none⟩=some x:=jB h 0 _ rfl
theorem V3.c1(h:V3 w g t x y z):w.cell? ⟨g,1,none⟩=some y:=jB h 1 _ rfl
theorem V3.c2(h:V3 w g t x y z):w.cell? ⟨g,2,none⟩=some z:=jB h 2 _ rfl
theorem V3.lt(h:V3 w g t x y z):g<w.heap.size:=(Array.getElem?_eq_some_iff.1 h).1
theorem V3.below(h:V3 w g t x y z)(hb:Below w.heap.size w w'):V3 w' g t x y z:=(hb.block g h.lt).trans h
end
theorem cE{w w':World}{g:Nat}{t:TypeId}{x y z:Value}{row:Option Nat}(h:V3 w g t x y z)(hg:w.grownBy w' row)(bh:some g≠row):V3 w' g t x y z:=(hg.block g h.lt bh).trans h
theorem eH{w:World}{g:Nat}{t:TypeId}{x y z:Value}(h:V3 w g t x y z)(j:Nat):w.frozen? ⟨g,j,none⟩=false:=by
 unfold V3 at h; simp[World.frozen?,h]
theorem oA{w:World}{g:Nat}{t:TypeId}{x y z:Value}(h:V3 w g t x y z):(∀u,V3 (w.setCell ⟨g,0,none⟩ u) g t u y z∧w.grownBy (w.setCell ⟨g,0,none⟩ u) (some g))∧(∀u,V3 (w.setCell ⟨g,1,none⟩ u) g t x u z∧w.grownBy (w.setCell ⟨g,1,none⟩ u) (some g))∧(∀u,V3 (w.setCell ⟨g,2,none⟩ u) g t x y u∧w.grownBy (w.setCell ⟨g,2,none⟩ u) (some g)):=
 ⟨fun u=>⟨(bK h 0 u).1,(bK h 0 u).2⟩,fun u=>⟨(bK h 1 u).1,(bK h 1 u).2⟩,fun u=>⟨(bK h 2 u).1,(bK h 2 u).2⟩⟩
theorem lC{w:World}{g:Nat}{t:TypeId}{x y z:Value}(h:V3 w g t x y z)(a b c:Value):V3 (((w.setCell ⟨g,0,none⟩ a).setCell ⟨g,1,none⟩ b).setCell ⟨g,2,none⟩ c) g t a b c∧w.grownBy (((w.setCell ⟨g,0,none⟩ a).setCell ⟨g,1,none⟩ b).setCell ⟨g,2,none⟩ c) (some g):=by
 have h1:=(oA h).1 a;have h2:=(oA h1.1).2.1 b;have h3:=(oA h2.1).2.2 c;exact⟨h3.1,az (az h1.2 h2.2) h3.2⟩
end aX
namespace aE
open Go Go.RowKit base dG
section
variable{w0 w w':World}{gx lx cx gg lg cg gw lw cw:Nat}{X G W:List Pr}
end
/-! ### arguments -/
end aE
namespace aX
open Go Go.RowKit base aE
end aX
namespace bm
open Go Go.RowKit base aE aX dG
/-! ### arguments -/
end bm
namespace bm
open Go Go.RowKit base aE aX
theorem Be(l:List Rc)(hs:List Value)(h:hs.length=l.length)(i:Nat)(hi:i<l.length)(x:Rc)(y:Value):(((bk l hs).set (i * 3) (.int .i64 x.1)).set (i * 3+1) (.int .i64 x.2.1)).set (i * 3+2) y=bk (l.set i x) (hs.set i y):=by
 induction l generalizing hs i with
 | nil=>simp at hi
 | cons r l ih=>
  cases hs with
  | nil=>simp at h
  | cons u hs=>
   cases i with
   | zero=>rfl
   | succ i=>
    rw[gB,show(i+1) * 3=i * 3+1+1+1 by omega,show i * 3+1+1+1+1=(i * 3+1)+1+1+1 by omega,show i * 3+1+1+1+2=(i * 3+2)+1+1+1 by omega]
    simp only[List.set_cons_succ,gB];rw[ih hs (by simpa using h) i (by simpa using hi)]
theorem bB.put{w:World}{base g n cap:Nat}{l:List Rc}{hs:List Value}(h:bB w base (.slice (some ⟨g,0,none⟩) n cap) l hs)(i:Nat)(hi:i<l.length)(x:Rc)(y:Value)(hx:iA x)(hy:cS w base y x.2.2)(jQ:∀k,y.ownBlock=some k→¬dq (.slice (some ⟨g,0,none⟩) n cap) hs k):
 bB (((w.setCell ⟨g,i * 3,none⟩ (.int .i64 x.1)).setCell ⟨g,i * 3+1,none⟩ (.int .i64 x.2.1)).setCell ⟨g,i * 3+2,none⟩ y) base (.slice (some ⟨g,0,none⟩) n cap) (l.set i x) (hs.set i y)∧
  w.grownBy (((w.setCell ⟨g,i * 3,none⟩ (.int .i64 x.1)).setCell ⟨g,i * 3+1,none⟩ (.int .i64 x.2.1)).setCell ⟨g,i * 3+2,none⟩ y) (some g):=by
 obtain rfl:=h.nF;have hlen:=h.len;have s0:=h.row.stored (i * 3) (.int .i64 x.1);have s1:=s0.1.stored (i * 3+1) (.int .i64 x.2.1);have s2:=s1.1.stored (i * 3+2) y;rw[Be l hs h.len i hi x y] at s2;have hg:=az (az s0.2 s1.2) s2.2;have ZG:y.ownBlock≠some g:=fun e=>jQ g e (.inl rfl)
 refine⟨⟨by simpa using h.len,nV h.sm hx,by simpa using s2.1,fun j hj=>?_,?_,?_⟩,hg⟩
 · have e7:j<l.length:=by simpa using hj
   by_cases e:i=j
   · subst e;rw[List.getElem_set_self,List.getElem_set_self];exact hy.grown hg (.inr ZG)
   · rw[List.getElem_set_ne e,List.getElem_set_ne e];exact(h.ops j e7).grown hg (.inr (h.out g rfl _ (List.getElem_mem _)))
 · rw[List.pairwise_iff_getElem];intro a b ha hb Sh;have Nv:a<hs.length:=by simpa using ha
   have hb':b<hs.length:=by simpa using hb
   have hp:=List.pairwise_iff_getElem.1 h.apart a b Nv hb' Sh;by_cases ea:i=a
   · subst ea;rw[List.getElem_set_self,List.getElem_set_ne (by omega)]
     cases e:y.ownBlock with
     | none=>exact .inl rfl
     | some k=>exact .inr (fun e2=>jQ k e (.inr ⟨hs[b],List.getElem_mem _,e2.symm⟩))
   · rw[List.getElem_set_ne ea];by_cases eb:i=b
     · subst eb;rw[List.getElem_set_self];cases e:hs[a].ownBlock with
       | none=>exact .inl rfl
       | some k=>exact .inr (fun e2=>jQ k e2.symm (.inr ⟨hs[a],List.getElem_mem _,e⟩))
     · rw[List.getElem_set_ne eb]; exact hp
 · intro k hk z hz;rcases List.mem_or_eq_of_mem_set hz with h1 | h1
   · exact h.out k hk z h1
   · subst h1;have:k=g:=by simpa[Value.ownBlock] using hk.symm
     rw[this]; exact ZG
end bm
namespace bm
open Go Go.RowKit base aE aX
theorem lD:∀(l:List Rc) (k:Nat) (s t:St),vh k s→bN s l=some t→vh (k+l.length) t
 | [],k,s,t,h,e=>by cases e; exact h
 | r::l,k,s,t,h,e=>by
  rw[bN] at e
  split at e
  · cases e
  · next u hu=>
    have:=lD l (k+1) u t (h.step hu) e;rw[List.length_cons,Nat.add_comm l.length 1,←Nat.add_assoc];exact this
theorem JA(l:List Rc)(h:∀r∈l,bu r=true):kT l≤26 * l.length:=by
 induction l with
 | nil=>simp[kT]
 | cons x l ih=>
  rw[Gj,List.length_cons];have h1:=ih fun r hr=>h r (List.mem_cons_of_mem _ hr)
  have h2:x.2.2.length≤8:=by
   rcases((bS x).1 (h x List.mem_cons_self)).2 with⟨_,h2⟩ | ⟨_,h2⟩
   · exact((bG _).1 h2).2.2
   · rw[h2]; simp
  omega
theorem zk(l:List Rc):(qn (replay l)).length≤60∧(fb (replay l)).length≤l.length∧kT (fb (replay l))≤26 * l.length:=by
 cases hr:replay l with
 | none=>simp[qn,fb,kT]
 | some s=>
  have h:=lD l 0 _ s qq hr;have h2:=JA s.2.1 h.ok;have h3:=h.held;simp only[qn,fb];exact⟨h.jS,by omega,by omega⟩
theorem bB.plain{w:World}{base g n cap:Nat}{l:List Rc}{hs:List Value}(h:bB w base (.slice (some ⟨g,0,none⟩) n cap) l hs):kx w (some ⟨g,0,none⟩) n:=by
 intro b off e i hi pa pl pc hc;obtain rfl:=h.nF;simp only[Option.some.injEq,Addr.mk.injEq,and_true] at e;obtain⟨rfl,rfl⟩:=e;have h1:=(h.at i hi).2.2;rw[Nat.zero_add] at hc;rw[hc] at h1;have h2:=(h.ops i hi).shape;rw[←Option.some.inj h1] at h2;rcases h2 with⟨h2,_⟩ | ⟨g2,c2,h2,_⟩
 · cases h2; exact .inl rfl
 · cases h2; exact .inr ⟨_,_,rfl⟩
section
variable{w0 w w':World}{B1 B2 gw n cw gg cg:Nat}{vs vx vg:Value}{hss hsx hsg:List Value}{P G:List Pr}{R X H:List Rc}
end
end bm
namespace bm
open Go Go.RowKit base aE aX dG gO lay
def wD(l:List Rc):Prop:=∀r∈l,r.2.2.length≤1099511627776∧∀p∈r.2.2,p.2.1.size≤1099511627776
abbrev cd(id sure:Int)(la:Option Addr)(ln lc:Nat)(ma:Option Addr)(mn mc:Nat)(ha:Option Addr)(hn hc:Nat):Value:=.agg #[.int .i64 id,.slice la ln lc,.int .i64 sure,.slice ma mn mc,.slice ha hn hc]
abbrev cA(id sure:Int)(la:Option Addr)(ln lc:Nat)(ma:Option Addr)(mn mc:Nat)(ha:Option Addr)(hn hc:Nat):Obj:=.cells #[.int .i64 id,.slice la ln lc,.int .i64 sure,.slice ma mn mc,.slice ha hn hc] 43
theorem tg{s:de}(h:¬(0≤s.1∧s.1≤7)):bV s=false:=by unfold bV; rw[decide_eq_false h]; rfl
theorem Bf{s:de}(h:300<s.2.1.length):bV s=false:=by unfold bV; rw[decide_eq_false (p:=s.2.1.length≤300) (by omega)]; simp
theorem oB{s:de}(h:¬(0≤s.2.2.1∧s.2.2.1≤(s.2.1.length:Int))):bV s=false:=by unfold bV; rw[decide_eq_false h]; simp
theorem th{s:de}(h1:0≤s.1∧s.1≤7)(h2:s.2.1.length≤300)(h3:0≤s.2.2.1∧s.2.2.1≤(s.2.1.length:Int)):
 bV s=((replay s.2.1).isSome && decide (qn (replay s.2.1)=s.2.2.2.1) && decide (fb (replay s.2.1)=s.2.2.2.2) && decide (s.2.1.length+(fb (replay s.2.1)).length≤300)):=by
 unfold bV;rw[decide_eq_true h1,decide_eq_true h2,decide_eq_true h3];cases replay s.2.1 with
 | none=>rfl
 | some t=>
  rw[Bool.eq_iff_iff];simp only[Bool.and_eq_true,decide_eq_true_iff,qn,fb,Option.isSome_some,true_and];exact⟨fun⟨⟨a,b⟩,c⟩=>⟨⟨decide_eq_true a,decide_eq_true b⟩,decide_eq_true c⟩,fun⟨⟨a,b⟩,c⟩=>⟨⟨of_decide_eq_true a,of_decide_eq_true b⟩,of_decide_eq_true c⟩⟩
theorem qO(la:Option Addr)(ln lc:Nat)(ma:Option Addr)(mn mc:Nat)(ha:Option Addr)(hn hc:Nat)(s:de)(w:World)(h:eY w la ln lc ma mn mc ha hn hc s)(hf:wD s.2.1):
 Calls Tryz.prog 26 #[cd s.1 s.2.2.1 la ln lc ma mn mc ha hn hc] w fun e w'=>e=.returned (.bool (bV s))∧Below w.heap.size w w':=by
 have mb:=h.log.1;have UZ:=h.log.2.1;unfold maxLen at UZ;obtain⟨W,hW⟩:∃W,w.alloc (cA s.1 s.2.2.1 la ln lc ma mn mc ha hn hc)=W:=⟨_,rfl⟩;have hB:Below w.heap.size w W:=by rw[←hW]; exact(Below.refl _ _).alloc (Nat.le_refl _) _
 have bI:aD w.heap.size 43 [] (aU s.1 s.2.2.1 la ln lc ma mn mc ha hn hc) [] W:=by rw[←hW]; exact aO w _ _
 have ti:=Hid.mk' (fun wx=>rj s.1 0 7 wx)
 have Cu:=Hid.mk' (fun wx=>rj s.2.2.1 0 ln wx)
 have HW:=Hid.mk' hW;have Sw:=Hid.mk' h.held.1;have hhm:=h.held.2.1;unfold maxLen at hhm;have xU:=Hid.mk' mb;generalize hR:bV s=R;have c0:=bI.cell 0 _ rfl;have c1:=bI.cell 1 _ rfl;have c2:=bI.cell 2 _ rfl;simp only[List.length_nil,Nat.zero_add] at c0 c1 c2;have jf:=bI.lt;by_cases h1:0≤s.1∧s.1≤7
 · rw[decide_eq_true h1] at ti;by_cases h2:s.2.1.length≤300
   · have pE:¬(300:Int)<(ln:Int):=by omega
     by_cases h3:0≤s.2.2.1∧s.2.2.1≤(s.2.1.length:Int)
     · rw[decide_eq_true (show 0≤s.2.2.1∧s.2.2.1≤(ln:Int) by omega)] at Cu
       rw[th h1 h2 h3] at hR;have Hv:=Hid.mk' (td la ln lc s.2.1 W (h.log.below hB) (by omega) hf)
       have bn:(fb (replay s.2.1)).length≤300:=by have:=(zk s.2.1).2.1; omega
       have sw:ln≤300:=by omega
       generalize replay s.2.1=t at *;have HR:=Hid.mk' hR;have hS:=h;clear hR hW h h1 h2 h3 mb;aj Tryz.func26,Tryz.ntmps26;ab fail;refine(ti.out _).mono ?_;rintro e w1 ⟨rfl,rfl⟩;ab fail;refine(Cu.out _).mono ?_;rintro e w1 ⟨rfl,rfl⟩;ab fail;rw[HW.out];refine Hv.out.mono ?_;rintro e w2 ⟨g,np,cp,g2,o9,hs,rfl,hO,nO,_,be⟩;have cv:=bI.below be;have d1:=cv.cell 1 _ rfl;have d3:=cv.cell 3 _ rfl;have d4:=cv.cell 4 _ rfl;simp only[List.length_nil,Nat.zero_add] at d1 d3 d4;have dL:=hB.trans (be.mono hB.size);have xA:=Hid.mk' (vm (some ⟨g,0,none⟩) ma np cp mn mc (qn t) s.2.2.2.1 w2 hO.sl (hS.map.below dL));have tE:=Hid.mk' (fun wx (hx:Below w2.heap.size w2 wx)=>w_ (some ⟨g2,0,none⟩) ha _ o9 hn hc (fb t) s.2.2.2.2 wx (nO.sl.below hx) ((hS.held.below dL).below hx))
       have Ln:(fb t).length≤maxLen:=nO.sl.2.1;unfold maxLen at Ln;clear Hv ti Cu HW c0 c1 c2 bI hO;cases Mo:t.isSome with
       | false=>
        have mj:Hid (R=false):=by show _=_; rw[←HR.out,Mo]; rfl
        clear HR xA tE;ab fail;an;rw[mj.out];exact⟨rfl,dL⟩
       | true=>
        by_cases e1:qn t=s.2.2.2.1
        · rw[decide_eq_true e1] at xA;have mG:∀n,Below w2.heap.size w2 (w2.drewN n):=fun n=>below_drewN (Below.refl _ _) n
          by_cases e2:fb t=s.2.2.2.2
          · rw[decide_eq_true e2] at tE;have mj:Hid (R=decide (s.2.1.length+(fb t).length≤300)):=by show _=_; rw[←HR.out,Mo,decide_eq_true e1,decide_eq_true e2]; simp
            clear HR;have ZH:(fb t).length=hn:=by rw[e2]; exact Sw.out
            have HES:=Hid.mk' ZH;clear ZH e1 e2;ab fail;refine xA.out.mono ?_;rintro e w3 ⟨rfl,n3,rfl⟩;have sd:=cv.below (mG n3);have f1:=sd.cell 1 _ rfl;have f4:=sd.cell 4 _ rfl;simp only[List.length_nil,Nat.zero_add] at f1 f4;ab fail;refine(tE.out _ (mG n3)).mono ?_;rintro e w4 ⟨rfl,eR⟩;have Mc:=sd.below eR;have k1:=Mc.cell 1 _ rfl;simp only[List.length_nil,Nat.zero_add] at k1;have eF:=dL.trans ((mG n3).mono dL.size) |>.trans (eR.mono (Nat.le_trans dL.size (mG n3).size))
            clear xA tE d1 d3 d4 f1 f4;ab fail;an;rw[mj.out];exact⟨au (by rw[Bool.eq_iff_iff,decide_eq_true_iff,decide_eq_true_iff]; have:=HES.out; have:=xU.out; omega),eF⟩
          · rw[decide_eq_false e2] at tE;have mj:Hid (R=false):=by show _=_; rw[←HR.out,decide_eq_false e2]; simp
            clear HR;ab fail;refine xA.out.mono ?_;rintro e w3 ⟨rfl,n3,rfl⟩;have sd:=cv.below (mG n3);have f1:=sd.cell 1 _ rfl;have f4:=sd.cell 4 _ rfl;simp only[List.length_nil,Nat.zero_add] at f1 f4;ab fail;refine(tE.out _ (mG n3)).mono ?_;rintro e w4 ⟨rfl,eR⟩;have eF:=dL.trans ((mG n3).mono dL.size) |>.trans (eR.mono (Nat.le_trans dL.size (mG n3).size))
            clear xA tE d1 d3 d4 f1 f4;ab fail;an;rw[mj.out];exact⟨rfl,eF⟩
        · rw[decide_eq_false e1] at xA;have mj:Hid (R=false):=by show _=_; rw[←HR.out,decide_eq_false e1]; simp
          clear HR;ab fail;refine xA.out.mono ?_;rintro e w3 ⟨rfl,n3,rfl⟩;have eF:=dL.trans ((below_drewN (Below.refl _ _) n3:Below w2.heap.size w2 (w2.drewN n3)).mono dL.size);clear xA tE d1 d3 d4;ab fail;an;rw[mj.out];exact⟨rfl,eF⟩
     · rw[decide_eq_false (show¬(0≤s.2.2.1∧s.2.2.1≤(ln:Int)) by omega)] at Cu
       have mj:Hid (R=false):=by show _=_; rw[←hR]; exact oB h3
       clear hR hW h h1 h2 h3 mb;aj Tryz.func26,Tryz.ntmps26;ab fail;refine(ti.out _).mono ?_;rintro e w1 ⟨rfl,rfl⟩;ab fail;refine(Cu.out _).mono ?_;rintro e w1 ⟨rfl,rfl⟩;ab fail;an;rw[mj.out,HW.out];exact⟨rfl,hB⟩
   · have pE:(300:Int)<(ln:Int):=by omega
     have mj:Hid (R=false):=by show _=_; rw[←hR]; exact Bf (by omega)
     clear hR hW h h1 h2 Cu mb;aj Tryz.func26,Tryz.ntmps26;ab fail;refine(ti.out _).mono ?_;rintro e w1 ⟨rfl,rfl⟩;ab fail;an;rw[mj.out,HW.out];exact⟨rfl,hB⟩
 · rw[decide_eq_false h1] at ti;have mj:Hid (R=false):=by show _=_; rw[←hR]; exact tg h1
   clear hR hW h h1 Cu mb;aj Tryz.func26,Tryz.ntmps26;ab fail;refine(ti.out _).mono ?_;rintro e w1 ⟨rfl,rfl⟩;ab fail;an;rw[mj.out,HW.out];exact⟨rfl,hB⟩
end bm
end Go.Proofs.YtmibabclefgljaaGreat
