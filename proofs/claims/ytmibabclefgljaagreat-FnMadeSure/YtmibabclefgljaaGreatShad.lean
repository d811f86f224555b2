/- RecS RecZa RecZb Fits PairA PairB PairC -/
import Derived.Test.YtmibabclefgljaaGreatShab
import Derived.Test.YtmibabclefgljaaGreatShac
import Derived.BigQuiet
import Derived.Test.YtmibabclefgljaaGreatShaa
import Derived.OwnWalk
set_option linter.unusedVariables false
set_option linter.unusedSimpArgs false
set_option maxRecDepth 100000
set_option maxHeartbeats 4000000
namespace Go.Proofs.YtmibabclefgljaaGreat
namespace bm
open Go Go.RowKit base aE aX
theorem jD(a:Option Addr)(cap:Nat)(w:World):
 Calls Tryz.prog 100 #[.slice a 0 cap] w fun e w'=>e=.returned (.bool false)∧w'=w:=by
 aj Tryz.func100,Tryz.ntmps100;ab fail;refine wp_loop_rounds 1 ?_;rw[rounds_succ];ab fail;refine(jV 0 1 8 _).mono ?_;rintro e w9 ⟨rfl,rfl⟩;ab fail;an;exact⟨au (by decide),rfl⟩
theorem ga(a:Option Addr)(len cap:Nat)(l:List Od)(w:World)(h:dS w a len l)(dV:∀p∈l,p.2.1.size≤1099511627776):
 Calls Tryz.prog 100 #[.slice a len cap] w fun e w'=>e=.returned (.bool (b_ l))∧Below w.heap.size w w':=by
 by_cases h0:len=0
 · subst h0;obtain rfl:l=[]:=List.eq_nil_of_length_eq_zero h.1;refine(jD a cap w).mono ?_;rintro e w' ⟨rfl,rfl⟩;exact⟨rfl,Below.refl _ _⟩
 · obtain⟨b,off,ha,_⟩:=h.2.2.2 (by omega)
   subst ha;exact qk b off len cap l w h dV
def dt(X:Nat)(kind tx:Int)(v:Value)(w:World):Prop:=w.heap[X]? =some (.cells #[.int .i64 kind,.int .i64 tx,v] 98 (0,0))
theorem cG(w:World)(kind tx:Int)(v:Value):dt w.heap.size kind tx v (w.alloc (.cells #[.int .i64 kind,.int .i64 tx,v] 98)):=heap_alloc_new w _
section
variable{X:Nat}{kind tx:Int}{v:Value}{w w':World}
theorem dt.cells(h:dt X kind tx v w):w.cell? ⟨X,0,none⟩=some (.int .i64 kind)∧w.cell? ⟨X,1,none⟩=some (.int .i64 tx)∧w.cell? ⟨X,2,none⟩=some v:=by
 unfold dt at h;simp[World.cell?,h]
theorem dt.lt(h:dt X kind tx v w):X<w.heap.size:=(Array.getElem?_eq_some_iff.1 h).1
theorem dt.below(h:dt X kind tx v w)(hb:Below w.heap.size w w'):dt X kind tx v w':=by
 have h':=h.lt;unfold dt at h ⊢;rw[hb.block X h',h]
theorem dt.grown{row:Option Nat}(h:dt X kind tx v w)(hg:w.grownBy w' row)(bh:some X≠row):dt X kind tx v w':=by
 have h':=h.lt;unfold dt at h ⊢;rw[hg.block X h' bh,h]
end
theorem eh(kind tx:Int)(a:Option Addr)(len cap:Nat)(l:List Od)(w:World)(h:dS w a len l)(dV:∀p∈l,p.2.1.size≤1099511627776):
 Calls Tryz.prog 138 #[.agg #[.int .i64 kind,.int .i64 tx,.slice a len cap]] w fun e w'=>e=.returned (.bool (bu (kind,tx,l)))∧Below w.heap.size w w':=by
 have bw:Below w.heap.size w (w.alloc (.cells #[.int .i64 kind,.int .i64 tx,.slice a len cap] 98)):=(Below.refl _ _).alloc (Nat.le_refl _) _;have iw:=jV tx 1 1000000 (w.alloc (.cells #[.int .i64 kind,.int .i64 tx,.slice a len cap] 98));have hl:=h.1;have hm:=h.2.1;unfold maxLen at hm;by_cases ht:1≤tx∧tx≤1000000
 · rw[decide_eq_true ht] at iw;have HI:=Hid.mk' iw;have HR:Hid (bu (kind,tx,l)=if kind=1 then b_ l else decide (kind=2∨kind=3) && l.isEmpty):=by show _=_; unfold bu; rw[decide_eq_true ht]; simp
   clear iw ht;by_cases h1:kind=1
   · subst h1;have HO:=Hid.mk' (ga a len cap l _ (h.below bw) dV);rw[if_pos rfl] at HR;generalize b_ l=K at *;aj Tryz.func138,Tryz.ntmps138;ab fail;refine HI.out.mono ?_;rintro e w1 ⟨rfl,bL⟩;subst bL;ab fail;refine HO.out.mono ?_;rintro e w1 ⟨rfl,a_⟩;ab fail;an;exact⟨au HR.out.symm,bw.trans (a_.mono bw.size)⟩
   · rw[if_neg h1] at HR;have nL:(kind==1)=false:=beq_eq_false_iff_ne.2 h1;by_cases C0:kind=2∨kind=3
     · rw[decide_eq_true C0,Bool.true_and] at HR;by_cases h0:len=0
       · have HE:Hid (bu (kind,tx,l)=true):=by show _=_; rw[HR.out,List.isEmpty_iff]; exact List.eq_nil_of_length_eq_zero (by omega)
         subst h0;rcases C0 with rfl | rfl
         bo
          clear HR h1 nL;aj Tryz.func138,Tryz.ntmps138;ab fail;refine HI.out.mono ?_;rintro e w1 ⟨rfl,bL⟩;subst bL;ab fail;an;exact⟨au HE.out.symm,bw⟩
       · have HE:Hid (bu (kind,tx,l)=false):=by
          show _=_;rw[HR.out];cases l with
          | nil=>simp at hl; omega
          | cons x l=>rfl
         have ue:((len:Int)==0)=false:=by simp; omega
         rcases C0 with rfl | rfl
         bo
          clear HR h1 nL;aj Tryz.func138,Tryz.ntmps138;ab fail;refine HI.out.mono ?_;rintro e w1 ⟨rfl,bL⟩;subst bL;ab fail;an;exact⟨au HE.out.symm,bw⟩
     · rw[decide_eq_false C0,Bool.false_and] at HR;have iu:(kind==2)=false:=beq_eq_false_iff_ne.2 (fun e=>C0 (.inl e))
       have hk3:(kind==3)=false:=beq_eq_false_iff_ne.2 (fun e=>C0 (.inr e))
       clear h1 C0;aj Tryz.func138,Tryz.ntmps138;ab fail;refine HI.out.mono ?_;rintro e w1 ⟨rfl,bL⟩;subst bL;ab fail;an;exact⟨au HR.out.symm,bw⟩
 · rw[decide_eq_false ht] at iw;have HI:=Hid.mk' iw;have HR:Hid (bu (kind,tx,l)=false):=by show _=_; unfold bu; rw[decide_eq_false ht]; rfl
   clear iw ht;aj Tryz.func138,Tryz.ntmps138;ab fail;refine HI.out.mono ?_;rintro e w1 ⟨rfl,bL⟩;subst bL;ab fail;an;exact⟨au HR.out.symm,bw⟩
end bm
namespace bm
open Go Go.RowKit base aE aX
theorem sX{tx:Int}:∀ {l:List Rc} {k:Nat} (h:k<l.length),(∀r∈l.take k,r.2.1≠tx)→l[k].2.1=tx→aR tx l=some k
 | r::l,0,_,_,e=>by rw[aR,if_pos (by simpa using e)]
 | r::l,k+1,h,hn,e=>by
  rw[aR,if_neg (hn r (by simp)),sX (k:=k) (by simpa using h) (fun x hx=>hn x (by simp[hx])) (by simpa using e)]
  rfl
theorem qY{tx:Int}:∀ {l:List Rc},(∀r∈l,r.2.1≠tx)→aR tx l=none
 | [],_=>rfl
 | r::l,hn=>by rw[aR,if_neg (hn r (by simp)),qY (fun x hx=>hn x (by simp[hx]))]; rfl
def fL(r:Option Nat):Int:=match r with | none=> -1 | some k=>(k:Int)
theorem eA(a:Option Addr)(len cap:Nat)(l:List Rc)(tx:Int)(w:World)(h:rP w a len l):
 Calls Tryz.prog 137 #[.slice a len cap,.int .i64 tx] w fun e w'=>e=.returned (.int .i64 (fL (aR tx l)))∧w'=w:=by
 obtain⟨hl,hm,fk,hc⟩:=id h;subst hl;unfold maxLen at hm;generalize hR:aR tx l=R;have HR:=Hid.mk' hR;clear hR;aj Tryz.func137,Tryz.ntmps137;ab fail;aN [5] (fun i wr=>∃k:Nat,k≤l.length∧i=.int .i64 (k:Int)∧(∀r∈l.take k,r.2.1≠tx)∧wr=w) (fun i _=>l.length - (intOf i).toNat)
 case atStart=>exact⟨0,Nat.zero_le _,rfl,by simp,rfl⟩
 case round=>
  obtain⟨k,hk,rfl,kO,rfl⟩:=hrel;by_cases bn:k<l.length
  · obtain⟨b,off,ha,_⟩:=hc (by omega)
    subst ha;obtain⟨c0,c1,pa,pl,pc,c2,_,_⟩:=h.at k bn;have fZ:(k:Int)<(l.length:Int):=by omega
    by_cases e:l[k].2.1=tx
    · have HP:Hid (R=some k):=by show _=_; rw[←HR.out]; exact sX bn kO e
      have eb:(l[k].2.1==tx)=true:=by simpa using e
      clear kO HR e;generalize l[k]=p at *;ab fail;an;rw[HP.out];exact⟨rfl,rfl⟩
    · have eb:(l[k].2.1==tx)=false:=beq_eq_false_iff_ne.2 e;have HN:Hid (∀r∈l.take (k+1),r.2.1≠tx):=by
       intro r hr;rw[List.take_succ_eq_append_getElem bn] at hr;rcases List.mem_append.1 hr with e2 | e2
       · exact kO r e2
       · rw[List.mem_singleton.1 e2]; exact e
      clear kO e;generalize l[k]=p at *;ab fail;aA
      case rel=>exact⟨k+1,by omega,by aF,HN.out,by trivial⟩
      case measure=>simp[intOf]; omega
  · have HP:Hid (R=none):=by
     show _=_;rw[←HR.out];rw[List.take_of_length_le (by omega)] at kO
     exact qY kO
    ab fail;an;rw[HP.out];exact⟨rfl,rfl⟩
theorem kq(w:World)(g c:Nat)(ty:TypeId):(Builtin.append_ #[73,73] ty #[.slice (some ⟨g,0,none⟩) 0 0,.slice none 0 c]).run Tryz.prog w=.ok (.slice (some ⟨g,0,none⟩) 0 0) w:=by aa
theorem gD(a:Option Addr)(len cap:Nat)(l:List Od)(w:World)(h:dS w a len l)(jg:len≤1099511627776):
 Calls Tryz.prog 95 #[.slice a len cap] w fun e w'=>∃g' LX,e=.returned (.slice (some ⟨g',0,none⟩) len LX)∧ck w' w.heap.size g' len LX l∧Below w.heap.size w w':=by
 obtain⟨i0,hi,dE,dD,cO⟩:=info_parts sQ;have hl:=h.1;have fk:=h.2.2.1;have bw:Below w.heap.size w (w.alloc (.cells #[] 121)):=(Below.refl _ _).alloc (Nat.le_refl _) _;have qZ:=l0 w w.heap.size (Nat.le_refl _);cases a with
 | none=>
  have h0:len=0:=by
   rcases Nat.eq_zero_or_pos len with e | e
   · exact e
   · obtain⟨b,off,ha,_⟩:=h.2.2.2 e; cases ha
  subst h0;have e1:l=[]:=List.eq_nil_of_length_eq_zero hl;subst e1;have RW:=kq;aj Tryz.func95,Tryz.ntmps95;ab fail;an;exact⟨_,_,rfl,qZ,bw⟩
 | some ad=>
  have nl:Hid (∀j u,(aW l)[j]? =some u→(w.alloc (.cells #[] 121)).cell? (ad.add j)=some u):=by
   rcases Nat.eq_zero_or_pos len with e | e
   · intro j u hj;have e1:l=[]:=List.eq_nil_of_length_eq_zero (by omega)
     rw[e1] at hj; simp[aW] at hj
   · obtain⟨b,off,ha,_⟩:=h.2.2.2 e;cases ha;exact qh (h.below bw).cells
  have fR:0+len≤maxLen:=by unfold maxLen; omega
  have kn:(0+len) * 40≤140737488355328:=by omega
  have jA:(aW l).length=len * 3:=by rw[cW]; omega
  aj Tryz.func95,Tryz.ntmps95;ab (ak; refine wpList_append_own _ rfl (.tmp 3) (.tmp 4) 73 rfl w.heap.size 121 i0 (.agg #[.int .i64 0,.string ⟨#[]⟩,.string ⟨#[]⟩]) 3 40 Tryz.underlying73 hi dE dD cO rfl (by decide) _ _ _ rfl qZ.2.2 ad len cap (aW l) rfl jA nl.out (bM l) fR kn bw.size ?_)
  intro v1 w1 aK aI db;have cC:¬v1=.slice none 0 0:=by simpa using db
  obtain⟨g1,c1,o8,gK⟩:=uG hl fk cC (by have h9:=aK; oU [show aW []++aW l=aW l from rfl] at h9)
  subst o8;have jW:(w.alloc (.cells #[] 121)).grownBy w1 (some w.heap.size):=aI;have fi:=bw.grown jW bw.size (fun k e=>by cases e; exact Nat.le_refl _)
  clear aK aI db cC jW;ab fail;an;exact⟨g1,c1,rfl,gK,fi⟩
theorem mP(kind tx:Int)(a:Option Addr)(len cap:Nat)(l:List Od)(w:World)(h:dS w a len l)(jg:len≤1099511627776):
 Calls Tryz.prog 133 #[.agg #[.int .i64 kind,.int .i64 tx,.slice a len cap]] w fun e w'=>
  ∃g cp,e=.returned (.agg #[.int .i64 kind,.int .i64 tx,.slice (some ⟨g,0,none⟩) len cp])∧ck w' w.heap.size g len cp l∧Below w.heap.size w w':=by
 obtain⟨W,hW⟩:∃W,W=(w.alloc (.cells #[.int .i64 kind,.int .i64 tx,.slice a len cap] 98)).alloc (.cells #[.int .i64 0,.int .i64 0,.slice none 0 0] 98):=⟨_,rfl⟩;have bw:Below w.heap.size w (w.alloc (.cells #[.int .i64 kind,.int .i64 tx,.slice a len cap] 98)):=(Below.refl _ _).alloc (Nat.le_refl _) _;have hB:Below w.heap.size w W:=by rw[hW]; exact bw.alloc bw.size _
 have hT:dt w.heap.size kind tx (.slice a len cap) W:=by rw[hW]; exact(cG w _ _ _).below ((Below.refl _ _).alloc (Nat.le_refl _) _)
 have hR:dt (w.heap.size+1) 0 0 (.slice none 0 0) W:=by
  rw[hW];have:=cG (w.alloc (.cells #[.int .i64 kind,.int .i64 tx,.slice a len cap] 98)) 0 0 (.slice none 0 0);oU [show(w.alloc (.cells #[.int .i64 kind,.int .i64 tx,.slice a len cap] 98)).heap.size=w.heap.size+1 by simp] at this
 have HC:=Hid.mk' (gD a len cap l W (h.below hB) jg);obtain⟨d0,d1,d2⟩:=hT.cells;rw[hW] at d0 d1 d2;have HW:=Hid.mk' hW.symm;clear hW;aj Tryz.func133,Tryz.ntmps133;ab fail;rw[HW.out];refine HC.out.mono ?_;rintro e w2 ⟨g2,c2,rfl,fS,be⟩;have LY:=hT.below be;have dF:=hR.below be;have dL:=hB.trans (be.mono hB.size);have VR:w2.heap[w.heap.size]? =some (.cells #[.int .i64 kind,.int .i64 tx,.slice a len cap] 98 (0,0)):=LY;have s0:=bK VR 2 (.slice (some ⟨g2,0,none⟩) len c2);have FH:dt w.heap.size kind tx (.slice (some ⟨g2,0,none⟩) len c2) (w2.setCell ⟨w.heap.size,2,none⟩ (.slice (some ⟨g2,0,none⟩) len c2)):=s0.1;have cR:=dF.grown s0.2 (by simp)
 have lU:=fS.lt;have Zj:=hT.lt;have hWl2:=hR.lt;have ew:=(fS.mono hB.size).grown s0.2 (by simp; omega)
 have cY:=dL.grown s0.2 dL.size (fun j e=>by cases e; exact Nat.le_refl _)
 clear d0 d1 d2;obtain⟨d0,d1,d2⟩:=LY.cells;have fz2:w2.frozen? ⟨w.heap.size,2,none⟩=false:=by simp[World.frozen?,VR]
 obtain⟨W3,zT⟩:∃W3,W3=w2.setCell ⟨w.heap.size,2,none⟩ (.slice (some ⟨g2,0,none⟩) len c2):=⟨_,rfl⟩;rw[←zT] at FH cR ew cY;obtain⟨t0,t1,t2⟩:=FH.cells;obtain⟨r0,r1,r2⟩:=cR.cells;have OK:W3.heap[w.heap.size+1]? =some (.cells #[.int .i64 0,.int .i64 0,.slice none 0 0] 98 (0,0)):=cR;have f0:W3.frozen? ⟨w.heap.size+1,0,none⟩=false:=by simp[World.frozen?,OK]
 have f1:W3.frozen? ⟨w.heap.size+1,1,none⟩=false:=by simp[World.frozen?,OK]
 have f2:W3.frozen? ⟨w.heap.size+1,2,none⟩=false:=by simp[World.frozen?,OK]
 have z0:=bK OK 0 (.int .i64 kind);have z1:=bK z0.1 1 (.int .i64 tx);have z2:=bK z1.1 2 (.slice (some ⟨g2,0,none⟩) len c2);have zg:=az (az z0.2 z1.2) z2.2;have hz:dt (w.heap.size+1) kind tx (.slice (some ⟨g2,0,none⟩) len c2) _:=z2.1;have l8:=hz.cells;have OL:=Hid.mk' (cY.grown zg cY.size (fun j e=>by cases e; omega))
 have FI:=Hid.mk' (ew.grown zg (by simp; omega))
 have zU:=Hid.mk' zT.symm;rw[zT] at t0 t1 t2 r0 r1 r2 f0 f1 f2;clear zT VR OK z0 z1 z2 s0;ab fail;rw[zU.out];refine bodyPost_ret (v:=.agg #[.int .i64 kind,.int .i64 tx,.slice (some ⟨g2,0,none⟩) len c2]) ?_ rfl ⟨_,_,rfl,FI.out,OL.out⟩;simp[results,Tryz.results133,go_sem,l8.1,l8.2.1,l8.2.2]
end bm
namespace bm
open Go Go.RowKit base aE aX
def Ax(o:Od)(ops:List Od):Prop:=∀p∈ops,o.2.1≠p.2.1
def n9(os ops:List Od):Prop:=∀o∈os,Ax o ops
theorem yR{held:List Rc}{ops:List Od}(h:∀r∈held,n9 r.2.2 ops):locked held ops=false:=by
 rw[←Bool.not_eq_true];intro e;unfold locked at e;simp only[List.any_eq_true,decide_eq_true_eq] at e;obtain⟨r,hr,o,ho,p,hp,e⟩:=e;exact h r hr o ho p hp e
theorem Ay{held:List Rc}{ops:List Od}{r:Rc}{o p:Od}(hr:r∈held)(ho:o∈r.2.2)(hp:p∈ops)(e:o.2.1=p.2.1):locked held ops=true:=by
 unfold locked;simp only[List.any_eq_true,decide_eq_true_eq];exact⟨r,hr,o,ho,p,hp,e⟩
theorem uL{α:Type}{P:α→Prop}{l:List α}{k:Nat}(h:k<l.length)(h1:∀x∈l.take k,P x)(h2:P l[k]):∀x∈l.take (k+1),P x:=by
 intro x hx;rw[List.take_succ_eq_append_getElem h] at hx;rcases List.mem_append.1 hx with e | e
 · exact h1 x e
 · rw[List.mem_singleton.1 e]; exact h2
theorem jE(a:Option Addr)(len cap:Nat)(l:List Rc)(a2:Option Addr)(cK eC:Nat)(ops:List Od)(w:World)(h:rP w a len l)(h2:dS w a2 cK ops):
 Calls Tryz.prog 139 #[.slice a len cap,.slice a2 cK eC] w fun e w'=>e=.returned (.bool (locked l ops))∧Below w.heap.size w w':=by
 obtain⟨hl,hm,fk,hc⟩:=id h;obtain⟨jA,jU,wO,ei⟩:=id h2;subst hl jA;unfold maxLen at hm jU;generalize hR:locked l ops=R;have HR:=Hid.mk' hR;clear hR;aj Tryz.func139,Tryz.ntmps139;ab fail;aN [5] (fun i wr=>∃k:Nat,k≤l.length∧i=.int .i64 (k:Int)∧(∀r∈l.take k,n9 r.2.2 ops)∧Below w.heap.size w wr) (fun i _=>l.length - (intOf i).toNat)
 case atStart=>exact⟨0,Nat.zero_le _,rfl,by simp,Below.refl _ _⟩
 case round=>
  obtain⟨k,hk,rfl,kO,hB⟩:=hrel;by_cases bn:k<l.length
  · obtain⟨b,off,ha,_⟩:=hc (by omega)
    subst ha;have fZ:(k:Int)<(l.length:Int):=by omega
    have fF:=h.at k bn;obtain⟨_,_,pa,pl,pc,o9,RX,_⟩:=fF;have pG:b<w.heap.size:=World.block_lt_of_cell? w _ o9;have HC:Hid (∀wx,Below w.heap.size w wx→wx.cell? ⟨b,off+k * 3+2,none⟩=some (.slice pa pl pc)):=fun wx hx=>(hx.cell (p:=⟨b,off+k * 3+2,none⟩) pG).trans o9
    have C1:Hid (l[k]∈l):=List.getElem_mem bn;have wh:Hid (n9 l[k].2.2 ops→∀r∈l.take (k+1),n9 r.2.2 ops):=fun hh=>uL bn kO hh
    generalize l[k]=r at *;obtain⟨gI,hpm,LW,hpc⟩:=id RX;subst gI;unfold maxLen at hpm;clear kO o9;ab fail;aN [6] (fun i wr=>∃j:Nat,j≤r.2.2.length∧i=.int .i64 (j:Int)∧n9 (r.2.2.take j) ops∧Below w.heap.size w wr) (fun i _=>r.2.2.length - (intOf i).toNat)
    case atStart=>exact⟨0,Nat.zero_le _,rfl,by intro o ho; simp at ho,hB⟩
    case round=>
     clear hB;obtain⟨j,hj,rfl,UL,hB⟩:=hrel;have c2:=HC.out _ hB;by_cases VS:j<r.2.2.length
     · obtain⟨pb,po,hpa,_⟩:=hpc (by omega)
       subst hpa;have sW:(j:Int)<(r.2.2.length:Int):=by omega
       have VT:=(RX.cells j VS).2.1;have hpb:pb<w.heap.size:=World.block_lt_of_cell? w _ VT;have HCJ:Hid (∀wx,Below w.heap.size w wx→wx.cell? ⟨pb,po+j * 3+1,none⟩=some (.string r.2.2[j].2.1)):=fun wx hx=>(hx.cell (p:=⟨pb,po+j * 3+1,none⟩) hpb).trans VT
       have nv:Hid (∀p∈ops,r.2.2[j].2.1=p.2.1→R=true):=fun p hp e=>by rw[←HR.out]; exact Ay C1.out (List.getElem_mem VS) hp e
       have HSJ:Hid (Ax r.2.2[j] ops→n9 (r.2.2.take (j+1)) ops):=fun hh=>uL (P:=fun o=>Ax o ops) VS UL hh
       generalize r.2.2[j]=o at *;clear UL VT;ab fail;aN [7] (fun i wr=>∃q:Nat,q≤ops.length∧i=.int .i64 (q:Int)∧Ax o (ops.take q)∧Below w.heap.size w wr) (fun i _=>ops.length - (intOf i).toNat)
       case atStart=>exact⟨0,Nat.zero_le _,rfl,by intro p hp; simp at hp,hB⟩
       case round=>
        clear hB c2;obtain⟨q,hq,rfl,sY,hB⟩:=hrel;by_cases VU:q<ops.length
        · obtain⟨ob,oo,VV,_⟩:=ei (by omega)
          subst VV;have C2:(q:Int)<(ops.length:Int):=by omega
          have UM:=(h2.cells q VU).2.1;have hob:ob<w.heap.size:=World.block_lt_of_cell? w _ UM;have FM:=hB.size;have c3:=(hB.cell (p:=⟨ob,oo+q * 3+1,none⟩) hob).trans UM;have y1:=last.On.cell (B:=wr.heap.size) (HC.out _ hB) (by omega)
          have y2:=last.On.cell (B:=wr.heap.size) (HCJ.out _ hB) (by omega)
          have y3:=last.On.cell (B:=wr.heap.size) c3 (by omega)
          have br:=last.On.iq wr.heap.size wr;by_cases e:o.2.1=ops[q].2.1
          · have HP:Hid (R=true):=nv.out _ (List.getElem_mem VU) e;rw[←e] at y3;have eb:(o.2.1.toList==o.2.1.toList)=true:=by simp
            clear sY c3 UM e;ab fail;refine last.ar wr.heap.size (by aa) (by aa) ?_
            repeat(ai (fail))
            refine wpQuiet_nil ?_;intro w5 cf;obtain⟨x5,cf⟩:=cf;have dx:Below wr.heap.size wr w5:=by rw[cf]; exact x5.2
            clear cf x5 br y1 y2 y3;ab fail;an;exact⟨au HP.out.symm,hB.trans (dx.mono hB.size)⟩
          · have HN:Hid (Ax o (ops.take (q+1))):=uL (P:=fun p:Od=>o.2.1≠p.2.1) VU sY e
            have eb:(o.2.1.toList==ops[q].2.1.toList)=false:=beq_eq_false_iff_ne.2 (fun e2=>e (by
             rw[ByteArray.toList_eq,ByteArray.toList_eq] at e2;exact j8 e2))
            clear sY c3 UM e;generalize ops[q]=p at *;ab fail;refine last.ar wr.heap.size (by aa) (by aa) ?_
            repeat(ai (fail))
            refine wpQuiet_nil ?_;intro w5 cf;obtain⟨x5,cf⟩:=cf;have dx:Below wr.heap.size wr w5:=by rw[cf]; exact x5.2
            clear cf x5 br y1 y2 y3;ab fail;aA
            case rel=>exact⟨q+1,by omega,by aF,HN.out,hB.trans (dx.mono hB.size)⟩
            case measure=>simp[intOf]; omega
        · have hql:¬(q:Int)<(ops.length:Int):=by omega
          have HN:Hid (n9 (r.2.2.take (j+1)) ops):=HSJ.out (by oU [List.take_of_length_le (by omega)] at sY)
          ab fail;aA
          case rel=>exact⟨j+1,by omega,by aF,HN.out,hB⟩
          case measure=>simp[intOf]; omega
     · have e7:¬(j:Int)<(r.2.2.length:Int):=by omega
       have HN:Hid (∀r∈l.take (k+1),n9 r.2.2 ops):=wh.out (by oU [List.take_of_length_le (by omega)] at UL)
       ab fail;aA
       case rel=>exact⟨k+1,by omega,by aF,HN.out,hB⟩
       case measure=>simp[intOf]; omega
  · have HP:Hid (R=false):=by
     show _=_;rw[←HR.out];rw[List.take_of_length_le (by omega)] at kO
     exact yR kO
    ab fail;an;exact⟨au HP.out.symm,hB⟩
end bm
namespace base
open Go.RowKit
def OM(w:World)(g:Nat)(s:ByteArray):Prop:=g<w.heap.size∧∀j (h:j<s.size),w.cell? ⟨g,j,none⟩=some (.int .u8 (s[j].toNat:Int))
theorem LZ(w:World)(s:ByteArray):OM (Lib.bytesWorld w 5 s) w.heap.size s:=by
 refine⟨by rw[Lib.bytesWorld_size]; omega,fun j h=>?_⟩
 rw[Lib.bytesWorld_cell w 5 s j h]; simp[List.getD,h]; rfl
theorem OM.grown{w w':World}{g g2:Nat}{s:ByteArray}(h:OM w g s)(hg:w.grownBy w' (some g2))(bh:g≠g2):OM w' g s:=
 ⟨Nat.lt_of_lt_of_le h.1 hg.size,fun j hj=>hg.cell (h.2 j hj) (by simpa using bh)⟩
theorem OM.below{w w':World}{g:Nat}{s:ByteArray}(h:OM w g s)(hb:Below w.heap.size w w'):OM w' g s:=
 ⟨Nat.lt_of_lt_of_le h.1 hb.size,fun j hj=>(hb.cell (p:=⟨g,j,none⟩) h.1).trans (h.2 j hj)⟩
end base
namespace aE
open Go Go.RowKit base
theorem q7(p:Pr)(w:World):
 Calls Tryz.prog 223 #[.agg #[.string p.1,.string p.2]] w fun e w'=>e=.returned (.string p.1)∧w'=w.alloc (.cells #[.string p.1,.string p.2] 100):=by
 aj Tryz.func223,Tryz.ntmps223;bf;an;exact⟨rfl,rfl⟩
theorem FN(c:Nat)(w:World)(hc:c<256):
 Calls Tryz.prog 173 #[.int .u8 (c:Int)] w fun e w'=>e=.returned (.bool (gR c))∧w'=w:=by
 by_cases h1:97≤c
 · by_cases h2:c≤122
   · aj Tryz.func173,Tryz.ntmps173;bf;an;exact⟨au (by simp[gR,h1,h2]),rfl⟩
   · have h3:¬c≤57:=by omega
     have h4:48≤c:=by omega
     aj Tryz.func173,Tryz.ntmps173;bf;an;exact⟨au (by simp[gR,h2,h3]; omega),rfl⟩
 · by_cases h2:48≤c
   · by_cases h3:c≤57
     · aj Tryz.func173,Tryz.ntmps173;bf;an;exact⟨au (by simp[gR,h2,h3]; omega),rfl⟩
     · aj Tryz.func173,Tryz.ntmps173;bf;an;exact⟨au (by simp[gR,h1,h3]; omega),rfl⟩
   · aj Tryz.func173,Tryz.ntmps173;bf;an;exact⟨au (by simp[gR,h1,h2]),rfl⟩
theorem uM(s:ByteArray)(w:World)(hs:s.size≤1099511627776):
 Calls Tryz.prog 146 #[.string s] w fun e w'=>e=.returned (.bool (gS s))∧Below w.heap.size w w':=by
 by_cases h0:s.size<1
 · aj Tryz.func146,Tryz.ntmps146;ab fail;an;exact⟨au (by simp[gS]; omega),Below.refl _ _⟩
 by_cases h12:12<s.size
 · aj Tryz.func146,Tryz.ntmps146;ab fail;an;exact⟨au (by simp[gS]; omega),Below.refl _ _⟩
 have HZ:Hid (decide (1≤s.size∧s.size≤12)=true):=by show _=_; simp; omega
 generalize hR:ly s.data.toList=R;have HR:=Hid.mk' hR;clear hR;have Nt:=Lib.run_convert_string_bytes (P:=Tryz.prog) w 9 22 5 s Tryz.underlying9 Tryz.underlying22 Tryz.underlying5;have VW:=LZ w s;have Zk:=lY w 5 s;aj Tryz.func146,Tryz.ntmps146;ab fail;generalize Lib.bytesWorld w 5 s=w1 at *;jv [16] (fun i=>∃k:Nat,k≤s.size∧i=.int .i64 (k:Int)∧ly (s.data.toList.drop k)=R) (fun i=>s.size - (intOf i).toNat)
 case atStart=>exact⟨0,Nat.zero_le _,rfl,HR.out⟩
 case round=>
  obtain⟨k,hk,rfl,hr⟩:=hrel;clear Nt;by_cases bn:k<s.size
  · have cF:=sS s k bn;rw[hr] at cF;have hc:=s[k].toNat_lt;have cZ:=VW.2 k bn;generalize hC:s[k].toNat=c at *;have fZ:(k:Int)<(s.size:Int):=by omega
    have hl:=FN c w1 (by omega)
    cases hq:gR c
    · rw[hq] at hl cF;have HF:Hid (R=false):=by show _=_; simpa using cF
      have HL:=Hid.mk' hl;clear hl cF hr hC;ab fail;refine HL.out.mono ?_;rintro e w2 ⟨rfl,rfl⟩;ab fail;an;exact⟨au (by unfold gS; rw[HR.out,HF.out]; rfl),Zk⟩
    · rw[hq] at hl cF;have HF:Hid (ly (s.data.toList.drop (k+1))=R):=by show _=_; simpa using cF.symm
      have HL:=Hid.mk' hl;clear hl cF hr hC;ab fail;refine HL.out.mono ?_;rintro e w2 ⟨rfl,rfl⟩;ab fail;f_
      case rel=>exact⟨k+1,by omega,by aF,HF.out⟩
      case measure=>simp[intOf]; omega
  · have HF:Hid (R=true):=by show _=_; rw[←hr,List.drop_eq_nil_of_le (by simp; omega)]; rfl
    clear hr;ab fail;an;exact⟨au (by unfold gS; rw[HR.out,HF.out,HZ.out]; rfl),Zk⟩
theorem Az(p:Pr)(w:World)(hp:small p)(hs:p.1.size≤1099511627776):
 Calls Tryz.prog 145 #[.agg #[.string p.1,.string p.2]] w fun e w'=>e=.returned (.bool (fW p))∧Below w.heap.size w w':=by
 have h2:=hp.2;unfold maxLen at h2;have bw:Below w.heap.size w (w.alloc (.cells #[.string p.1,.string p.2] 100)):=(Below.refl _ _).alloc (Nat.le_refl _) _;have hk:=uM p.1 (w.alloc (.cells #[.string p.1,.string p.2] 100)) hs;cases hK:gS p.1
 · rw[hK] at hk;have HK:=Hid.mk' hk;have H1:=Hid.mk' hK;clear hk hK;aj Tryz.func145,Tryz.ntmps145;ab fail;refine HK.out.mono ?_;rintro e w1 ⟨rfl,a_⟩;ab fail;an;exact⟨au (by unfold fW; rw[H1.out]; rfl),bw.trans (a_.mono bw.size)⟩
 · rw[hK] at hk;have HK:=Hid.mk' hk;have H1:=Hid.mk' hK;clear hk hK;aj Tryz.func145,Tryz.ntmps145;ab fail;refine HK.out.mono ?_;rintro e w1 ⟨rfl,a_⟩;have hc:=sR a_;ab fail;an;exact⟨au (by unfold fW; rw[H1.out]; simp; omega),bw.trans (a_.mono bw.size)⟩
end aE
namespace aE
open Go Go.RowKit base
theorem uN(x y:ByteArray)(w:World):(method 368 100 (.agg #[.string x,.string y]) "loop.example/g00244/impl.key").run Tryz.prog w=.ok (223,.agg #[.string x,.string y]) w:=by aa
theorem wP{key:ByteArray}{l:List Pr}{k:Nat}(hn:getKey key (l.take k)=none)(hk:k≤l.length)(j:Nat)(hj:j<k):(l[j]'(by omega)).1≠key:=by
 have:=nW hn j (by simp; omega)
 oU [List.getElem_take] at this
theorem IT{w wr:World}(hB:Below w.heap.size w wr)(x y:Obj):Below w.heap.size w ((wr.alloc x).alloc y):=(hB.alloc hB.size _).alloc (aS _ _ hB.size) _
theorem sZ(b off len cap:Nat)(l:List Pr)(key:ByteArray)(w:World)(h:lL w (some ⟨b,off,none⟩) len l)(n:Nat)(hn:n<l.length)(he:l[n].1=key)(kO:getKey key (l.take n)=none):
 Calls Tryz.prog 177 #[.slice (some ⟨b,off,none⟩) len cap,.string key] w fun e w'=>e=.returned (.tuple #[.int .i64 (n:Int),.bool true])∧Below w.heap.size w w':=by
 have hl:=h.1;have hm:=h.2.1;subst hl;unfold maxLen at hm;have ON:=uN;have HE:=Hid.mk' he;clear he;aj Tryz.func177,Tryz.ntmps177;ab fail;aN [12] (fun i wr=>∃k:Nat,k≤n∧i=.int .i64 (k:Int)∧Below w.heap.size w wr) (fun i _=>l.length - (intOf i).toNat)
 case atStart=>exact⟨0,Nat.zero_le _,rfl,Below.refl _ _⟩
 case round=>
  obtain⟨k,hk,rfl,hB⟩:=hrel;have bn:k<l.length:=by omega
  obtain⟨c1,c2⟩:=(h.below hB).cells k bn;have fZ:(k:Int)<(l.length:Int):=by omega
  by_cases Zl:k=n
  · subst Zl;have he:=HE.out;rw[he] at c1;generalize l[k].2=y at *;clear kO HE he;ab fail;refine(q7 (key,y) _).mono ?_;rintro e w2 ⟨rfl,rfl⟩;ab fail;oZ;exact⟨rfl,IT hB _ _⟩
  · have hq:(l[k].1.toList==key.toList)=false:=ef (wP kO (by omega) k (by omega))
    have VX:k+1≤n:=by omega
    clear kO HE Zl;generalize l[k]=p at *;ab fail;refine(q7 p _).mono ?_;rintro e w2 ⟨rfl,rfl⟩;ab fail;aA
    case rel=>exact⟨k+1,VX,by aF,IT hB _ _⟩
    case measure=>simp[intOf]; omega
theorem uO(b off len cap:Nat)(l:List Pr)(key:ByteArray)(w:World)(h:lL w (some ⟨b,off,none⟩) len l)(kO:getKey key l=none):
 Calls Tryz.prog 177 #[.slice (some ⟨b,off,none⟩) len cap,.string key] w fun e w'=>e=.returned (.tuple #[.int .i64 (below key l:Int),.bool false])∧Below w.heap.size w w':=by
 have hl:=h.1;have hm:=h.2.1;subst hl;unfold maxLen at hm;have ON:=uN;obtain⟨r,hr⟩:∃r,below key l=r:=⟨_,rfl⟩;have bh:=nW kO;clear kO;rw[hr];have HR:=Hid.mk' hr;clear hr;aj Tryz.func177,Tryz.ntmps177;ab fail;aN [12] (fun i wr=>∃k:Nat,k≤l.length∧i=.int .i64 (k:Int)∧Below w.heap.size w wr) (fun i _=>l.length - (intOf i).toNat)
 case atStart=>exact⟨0,Nat.zero_le _,rfl,Below.refl _ _⟩
 case round=>
  obtain⟨k,hk,rfl,hB⟩:=hrel;by_cases bn:k<l.length
  · obtain⟨c1,c2⟩:=(h.below hB).cells k bn;have fZ:(k:Int)<(l.length:Int):=by omega
    have hq:=ef (bh k bn);clear bh;generalize l[k]=p at *;ab fail;refine(q7 p _).mono ?_;rintro e w2 ⟨rfl,rfl⟩;ab fail;aA
    case rel=>exact⟨k+1,by omega,by aF,IT hB _ _⟩
    case measure=>simp[intOf]; omega
  · have IU:=hB;clear hB;ab fail;aN [26] (fun i wr=>∃k:Nat,k≤l.length∧i=.int .i64 (k:Int)∧k+below key (l.drop k)=r∧Below w.heap.size w wr) (fun i _=>l.length - (intOf i).toNat)
    case atStart=>exact⟨0,Nat.zero_le _,rfl,by rw[List.drop_zero,HR.out]; omega,IU⟩
    case round=>
     clear IU bn hk;obtain⟨k,hk,rfl,hr,hB⟩:=hrel;by_cases bn:k<l.length
     · obtain⟨c1,c2⟩:=(h.below hB).cells k bn;have fZ:(k:Int)<(l.length:Int):=by omega
       have cF:=qb key l k bn;cases hL:kN key l[k].1
       · have HF:Hid (k+1+below key (l.drop (k+1))=r):=by
          show _=_;rw[hL] at cF; simp at cF; omega
         have jA:Op.bytesLess l[k].1.toList key.toList=true:=by rw[o7 (bh k bn),show Op.bytesLess key.toList l[k].1.toList=false from hL]; rfl
         clear cF hr hL bh;generalize l[k]=p at *;ab fail;refine(q7 p _).mono ?_;rintro e w2 ⟨rfl,rfl⟩;ab fail;aA
         case rel=>exact⟨k+1,by omega,by aF,HF.out,IT hB _ _⟩
         case measure=>simp[intOf]; omega
       · have HF:Hid (k=r):=by
          show _=_;rw[hL] at cF; simp at cF; omega
         have jA:Op.bytesLess l[k].1.toList key.toList=false:=by rw[o7 (bh k bn),show Op.bytesLess key.toList l[k].1.toList=true from hL]; rfl
         have hq:=ef (bh k bn);clear cF hr hL bh;generalize l[k]=p at *;ab fail;refine(q7 p _).mono ?_;rintro e w2 ⟨rfl,rfl⟩;ab fail;obtain rfl:=HF.out;oZ;exact⟨rfl,IT hB _ _⟩
     · have HF:Hid (l.length=r):=by
        show _=_;rw[List.drop_eq_nil_of_le (by omega)] at hr; simp[below] at hr; omega
       clear hr bh;ab fail;obtain rfl:=HF.out;oZ;exact⟨rfl,hB⟩
theorem q8{key:ByteArray}{l:List Pr}{v:ByteArray}(h:getKey key l=some v):∃n,∃hn:n<l.length,l[n].1=key∧l[n].2=v∧getKey key (l.take n)=none:=by
 induction l with
 | nil=>cases h
 | cons p l ih=>
  rw[getKey] at h;by_cases hp:p.1=key
  · rw[if_pos hp] at h;exact⟨0,by simp,hp,by simpa using h,rfl⟩
  · rw[if_neg hp] at h;obtain⟨n,hn,h1,h2,h3⟩:=ih h;refine⟨n+1,by simp; omega,by simpa using h1,by simpa using h2,?_⟩
    rw[List.take_succ_cons,getKey,if_neg hp];exact h3
theorem AA(b off len cap:Nat)(l:List Pr)(key:ByteArray)(w:World)(h:lL w (some ⟨b,off,none⟩) len l):
 Calls Tryz.prog 186 #[.slice (some ⟨b,off,none⟩) len cap,.string key] w fun e w'=>e=.returned (r8 (getKey key l))∧Below w.heap.size w w':=by
 cases hg:getKey key l with
 | none=>
  have HP:=Hid.mk' (uO b off len cap l key w h hg);clear hg;aj Tryz.func186,Tryz.ntmps186;ab fail;refine HP.out.mono ?_;rintro e w2 ⟨rfl,hb⟩;ab fail;oZ;exact⟨rfl,hb⟩
 | some v=>
  obtain⟨n,hn,h1,h2,h3⟩:=q8 hg;have HP:=Hid.mk' (sZ b off len cap l key w h n hn h1 h3);have hl:=h.1;have hm:=h.2.1;unfold maxLen at hm;subst hl h2;clear hg h1 h3;have hni:(n:Int)<(l.length:Int):=by omega
  aj Tryz.func186,Tryz.ntmps186;ab fail;refine HP.out.mono ?_;rintro e w2 ⟨rfl,hb⟩;have c2:=((h.below hb).cells n hn).2;ab fail;oZ;exact⟨rfl,hb⟩
end aE
namespace aE
open Go Go.RowKit base
theorem uP(w w':World)(x y:ByteArray)(hB:Below (w.alloc (.cells #[.string x,.string y] 100)).heap.size (w.alloc (.cells #[.string x,.string y] 100)) w'):
 w'.cell? ⟨w.heap.size,0,none⟩=some (.string x)∧w'.cell? ⟨w.heap.size,1,none⟩=some (.string y):=by
 have bn:w.heap.size<(w.alloc (.cells #[.string x,.string y] 100)).heap.size:=by simp
 refine⟨(hB.cell (p:=⟨w.heap.size,0,none⟩) bn).trans ?_,(hB.cell (p:=⟨w.heap.size,1,none⟩) bn).trans ?_⟩
 · simp
 · simp
theorem IV(b off cap:Nat)(l:List Pr)(key val:ByteArray)(w:World)(h:lL w (some ⟨b,off,none⟩) l.length l)(CV:l.length≤cap)(jg:l.length≤1099511627776)(dV:key.size≤maxLen)(jT:val.size≤maxLen)
 (k:Nat) (hk:k≤l.length)
 (HP:Hid (∀wx,lL wx (some ⟨b,off,none⟩) l.length l→Calls Tryz.prog 177 #[.slice (some ⟨b,off,none⟩) l.length cap,.string key] wx fun e w'=>e=.returned (.tuple #[.int .i64 (k:Int),.bool false])∧Below wx.heap.size wx w')):
 Calls Tryz.prog 154 #[.slice (some ⟨b,off,none⟩) l.length cap,.agg #[.string key,.string val]] w fun e w'=>
  ∃g' n' aY,e=.returned (.slice (some ⟨g',0,none⟩) n' aY)∧bX w' w.heap.size g' n' aY (l.take k++(key,val)::l.drop k)∧Below w.heap.size w w':=by
 obtain⟨i0,jX,dE,dD,cO⟩:=info_parts nt;have fk:=h.2.2.1;have ON:=uN;have OO:Below w.heap.size w (w.alloc (.cells #[.string key,.string val] 100)):=(Below.refl _ _).alloc (Nat.le_refl _) _;have OP:Below (w.alloc (.cells #[.string key,.string val] 100)).heap.size (w.alloc (.cells #[.string key,.string val] 100)) ((w.alloc (.cells #[.string key,.string val] 100)).alloc (.cells #[.string key,.string val] 100)):=(Below.refl _ _).alloc (Nat.le_refl _) _;have HA:=Hid.mk' (HP.out _ ((h.below OO).below OP));have il:=Hid.mk' OO;have OQ:=Hid.mk' OP;clear OO OP HP;aj Tryz.func154,Tryz.ntmps154;ab fail;refine(q7 (key,val) _).mono ?_;rintro e w2 ⟨rfl,rfl⟩;ab fail;refine HA.out.mono ?_;rintro e w3 ⟨rfl,dI⟩;have cY:Below (w.alloc (.cells #[.string key,.string val] 100)).heap.size (w.alloc (.cells #[.string key,.string val] 100)) w3:=OQ.out.trans (dI.mono OQ.out.size)
 obtain⟨base,je⟩:∃base,(w.alloc (.cells #[.string key,.string val] 100)).heap.size=base:=⟨_,rfl⟩;have nM:w.heap.size≤base:=by rw[←je]; exact il.out.size
 have IW:=fun wx hx=>uP w wx key val (je ▸ hx)
 have C3:base≤w3.heap.size:=by rw[←je]; exact cY.size
 rw[je] at cY;have uQ:Hid (∀wx,Below base (w.alloc (.cells #[.string key,.string val] 100)) wx→Below w.heap.size w wx):=fun wx hx=>il.out.trans (hx.mono nM)
 have IX:=Hid.mk' IW;clear dI OQ il HA je IW;have FF:=h.below (uQ.out _ cY);obtain⟨c,hc⟩:∃c:Nat,l.length+1=c:=⟨_,rfl⟩;have VY:(l.length:Int)+1=(c:Int):=by omega
 have IY:c≤maxLen:=by unfold maxLen; omega
 have IZ:i0.bytes * c≤281474976710656:=by rw[cO]; omega
 ab (o_; refine wpList_make_own _ rfl _ _ 204 rfl base 100 i0 (.agg #[.string ⟨#[]⟩,.string ⟨#[]⟩]) 2 Tryz.underlying204 jX dE dD _ _ _ c rfl rfl (by omega) IZ IY C3 ?_)
 intro w4 aK aI;have ej:bX w4 base w3.heap.size 0 c []:=⟨rfl,fun s h=>absurd h List.not_mem_nil,aK⟩
 have eF:=cY.grown aI C3 (fun k e=>by cases e)
 have C4:base≤w4.heap.size:=Nat.le_trans C3 aI.size;have RY:=Hid.mk' (da (kX (h.below (uQ.out _ eF)).cells k));have FO:(aG (l.take k)).length=k * 2:=by rw[bD,List.length_take_of_le (by omega)]
 have IJ:0+k≤maxLen:=by unfold maxLen; omega
 have IK:(0+k) * 32≤140737488355328:=by omega
 have VN:(k:Int)≤(cap:Int):=by omega
 have kZ:=ej.2.2;clear aK aI cY FF IY IZ VY;ab (ak; refine wpList_append_own _ rfl (.tmp 25) (.tmp 28) 204 rfl base 100 i0 (.agg #[.string ⟨#[]⟩,.string ⟨#[]⟩]) 2 32 Tryz.underlying204 jX dE dD cO rfl (by decide) _ _ _ rfl kZ ⟨b,off,none⟩ k cap (aG (l.take k)) rfl FO RY.out (aP _) IJ IK C4 ?_)
 intro v5 w5 aK aI db;have cC:¬v5=.slice none 0 0:=by simpa using db
 obtain⟨g5,VZ,hv,eD⟩:=dy (l:=l.take k) (n:=k) (List.length_take_of_le (by omega)) (mO fk k) cC (by simpa[aG] using aK)
 subst hv;have ez:=eF.grown aI C4 (fun k e=>by simp[Value.ownBlock] at e; have:=ej.lt; omega)
 have yS:base≤w5.heap.size:=Nat.le_trans C4 aI.size;obtain⟨Zm,Zn⟩:=IX.out _ ez;have FD:k+1≤maxLen:=by unfold maxLen; omega
 have FE:(k+1) * 32≤140737488355328:=by omega
 clear aK aI db cC kZ ej eF RY FO IJ IK IX;ab (ak; refine wpList_append_own _ rfl (.tmp 30) (.tmp 32) 204 rfl base 100 i0 (.agg #[.string ⟨#[]⟩,.string ⟨#[]⟩]) 2 32 Tryz.underlying204 jX dE dD cO rfl (by decide) _ _ _ rfl (eD.2.2.alloc _) ⟨w5.heap.size,0,none⟩ 1 1 (aG [(key,val)]) rfl rfl (eg _ (key,val) _) (aP _) FD FE (aS _ _ yS) ?_)
 intro v6 w6 aK aI db;obtain⟨g6,V8,hv,en⟩:=l5 eD.1 eD.2.1 ⟨dV,jT⟩ db aK;subst hv;have iU:=(ez.alloc yS _).grown aI (aS _ _ yS) (fun k e=>by simp[Value.ownBlock] at e; have:=eD.lt; omega)
 have yT:base≤w6.heap.size:=Nat.le_trans (aS _ _ yS) aI.size;have OR:=h.below (uQ.out _ iU);have zS:k+1+(l.length - (k))≤maxLen:=by unfold maxLen; omega
 have EF:(k+1+(l.length - (k))) * 32≤140737488355328:=by omega
 have RZ:(aG (l.drop (k))).length=(l.length - (k)) * 2:=by rw[bD,List.length_drop]
 clear aK aI db eD ez FD FE;by_cases IL:cap=k
 · have OS:Hid (∀j v,(aG (l.drop (k)))[j]? =some v→w6.cell? ((⟨b,off,none⟩:Addr).add j)=some v):=by
    show∀j v,_→_;intro j v hj;rw[List.drop_eq_nil_of_le (by omega)] at hj
    simp[aG] at hj
   ab (ak; refine wpList_append_own _ rfl (.tmp 34) (.tmp 37) 204 rfl base 100 i0 (.agg #[.string ⟨#[]⟩,.string ⟨#[]⟩]) 2 32 Tryz.underlying204 jX dE dD cO rfl (by decide) _ _ _ rfl en.2.2 ⟨b,off,none⟩ (l.length - (k)) _ (aG (l.drop (k))) rfl RZ OS.out (aP _) zS EF yT ?_)
   intro v7 w7 aK aI db;have cC:¬v7=.slice none 0 0:=by simpa using db
   rw[←cI] at aK;obtain⟨g7,C5,hv,r9⟩:=dy (n:=k+1+(l.length - (k))) (by simp; omega) (fun q hq=>by
    rcases List.mem_append.1 hq with h1 | h1
    · exact en.2.1 q h1
    · exact fk q (List.mem_of_mem_drop h1)) cC aK
   subst hv;have jd:=uQ.out _ (iU.grown aI yT (fun k e=>by simp[Value.ownBlock] at e; have:=en.lt; omega))
   have wQ:=Hid.mk' (r9.mono nM);clear aK aI db cC r9;ab (ak; fail)
   an;refine⟨g7,_,C5,rfl,?_,jd⟩;have:=wQ.out;rw[List.append_assoc] at this;exact this
 · have OS:=Hid.mk' (da (nX OR.cells (k)));ab (ak; refine wpList_append_own _ rfl (.tmp 34) (.tmp 37) 204 rfl base 100 i0 (.agg #[.string ⟨#[]⟩,.string ⟨#[]⟩]) 2 32 Tryz.underlying204 jX dE dD cO rfl (by decide) _ _ _ rfl en.2.2 ⟨b,off+(k) * 2,none⟩ (l.length - (k)) _ (aG (l.drop (k))) rfl RZ OS.out (aP _) zS EF yT ?_)
   intro v7 w7 aK aI db;have cC:¬v7=.slice none 0 0:=by simpa using db
   rw[←cI] at aK;obtain⟨g7,C5,hv,r9⟩:=dy (n:=k+1+(l.length - (k))) (by simp; omega) (fun q hq=>by
    rcases List.mem_append.1 hq with h1 | h1
    · exact en.2.1 q h1
    · exact fk q (List.mem_of_mem_drop h1)) cC aK
   subst hv;have jd:=uQ.out _ (iU.grown aI yT (fun k e=>by simp[Value.ownBlock] at e; have:=en.lt; omega))
   have wQ:=Hid.mk' (r9.mono nM);clear aK aI db cC r9;ab (ak; fail)
   an;refine⟨g7,_,C5,rfl,?_,jd⟩;have:=wQ.out;rw[List.append_assoc] at this;exact this
theorem C6(b off cap:Nat)(l:List Pr)(key val:ByteArray)(w:World)(h:lL w (some ⟨b,off,none⟩) l.length l)(CV:l.length≤cap)(jg:l.length≤1099511627776)(dV:key.size≤maxLen)(jT:val.size≤maxLen)
 (k:Nat) (hk:k<l.length)
 (HP:Hid (∀wx,lL wx (some ⟨b,off,none⟩) l.length l→Calls Tryz.prog 177 #[.slice (some ⟨b,off,none⟩) l.length cap,.string key] wx fun e w'=>e=.returned (.tuple #[.int .i64 (k:Int),.bool true])∧Below wx.heap.size wx w')):
 Calls Tryz.prog 154 #[.slice (some ⟨b,off,none⟩) l.length cap,.agg #[.string key,.string val]] w fun e w'=>
  ∃g' n' aY,e=.returned (.slice (some ⟨g',0,none⟩) n' aY)∧bX w' w.heap.size g' n' aY (l.take k++(key,val)::l.drop (k+1))∧Below w.heap.size w w':=by
 obtain⟨i0,jX,dE,dD,cO⟩:=info_parts nt;have fk:=h.2.2.1;have ON:=uN;have OO:Below w.heap.size w (w.alloc (.cells #[.string key,.string val] 100)):=(Below.refl _ _).alloc (Nat.le_refl _) _;have OP:Below (w.alloc (.cells #[.string key,.string val] 100)).heap.size (w.alloc (.cells #[.string key,.string val] 100)) ((w.alloc (.cells #[.string key,.string val] 100)).alloc (.cells #[.string key,.string val] 100)):=(Below.refl _ _).alloc (Nat.le_refl _) _;have HA:=Hid.mk' (HP.out _ ((h.below OO).below OP));have il:=Hid.mk' OO;have OQ:=Hid.mk' OP;clear OO OP HP;aj Tryz.func154,Tryz.ntmps154;ab fail;refine(q7 (key,val) _).mono ?_;rintro e w2 ⟨rfl,rfl⟩;ab fail;refine HA.out.mono ?_;rintro e w3 ⟨rfl,dI⟩;have cY:Below (w.alloc (.cells #[.string key,.string val] 100)).heap.size (w.alloc (.cells #[.string key,.string val] 100)) w3:=OQ.out.trans (dI.mono OQ.out.size)
 obtain⟨base,je⟩:∃base,(w.alloc (.cells #[.string key,.string val] 100)).heap.size=base:=⟨_,rfl⟩;have nM:w.heap.size≤base:=by rw[←je]; exact il.out.size
 have IW:=fun wx hx=>uP w wx key val (je ▸ hx)
 have C3:base≤w3.heap.size:=by rw[←je]; exact cY.size
 rw[je] at cY;have uQ:Hid (∀wx,Below base (w.alloc (.cells #[.string key,.string val] 100)) wx→Below w.heap.size w wx):=fun wx hx=>il.out.trans (hx.mono nM)
 have IX:=Hid.mk' IW;clear dI OQ il HA je IW;have FF:=h.below (uQ.out _ cY);obtain⟨c,hc⟩:∃c:Nat,l.length+1=c:=⟨_,rfl⟩;have VY:(l.length:Int)+1=(c:Int):=by omega
 have IY:c≤maxLen:=by unfold maxLen; omega
 have IZ:i0.bytes * c≤281474976710656:=by rw[cO]; omega
 ab (o_; refine wpList_make_own _ rfl _ _ 204 rfl base 100 i0 (.agg #[.string ⟨#[]⟩,.string ⟨#[]⟩]) 2 Tryz.underlying204 jX dE dD _ _ _ c rfl rfl (by omega) IZ IY C3 ?_)
 intro w4 aK aI;have ej:bX w4 base w3.heap.size 0 c []:=⟨rfl,fun s h=>absurd h List.not_mem_nil,aK⟩
 have eF:=cY.grown aI C3 (fun k e=>by cases e)
 have C4:base≤w4.heap.size:=Nat.le_trans C3 aI.size;have RY:=Hid.mk' (da (kX (h.below (uQ.out _ eF)).cells k));have FO:(aG (l.take k)).length=k * 2:=by rw[bD,List.length_take_of_le (by omega)]
 have IJ:0+k≤maxLen:=by unfold maxLen; omega
 have IK:(0+k) * 32≤140737488355328:=by omega
 have VN:(k:Int)≤(cap:Int):=by omega
 have kZ:=ej.2.2;clear aK aI cY FF IY IZ VY;ab (ak; refine wpList_append_own _ rfl (.tmp 25) (.tmp 28) 204 rfl base 100 i0 (.agg #[.string ⟨#[]⟩,.string ⟨#[]⟩]) 2 32 Tryz.underlying204 jX dE dD cO rfl (by decide) _ _ _ rfl kZ ⟨b,off,none⟩ k cap (aG (l.take k)) rfl FO RY.out (aP _) IJ IK C4 ?_)
 intro v5 w5 aK aI db;have cC:¬v5=.slice none 0 0:=by simpa using db
 obtain⟨g5,VZ,hv,eD⟩:=dy (l:=l.take k) (n:=k) (List.length_take_of_le (by omega)) (mO fk k) cC (by simpa[aG] using aK)
 subst hv;have ez:=eF.grown aI C4 (fun k e=>by simp[Value.ownBlock] at e; have:=ej.lt; omega)
 have yS:base≤w5.heap.size:=Nat.le_trans C4 aI.size;obtain⟨Zm,Zn⟩:=IX.out _ ez;have FD:k+1≤maxLen:=by unfold maxLen; omega
 have FE:(k+1) * 32≤140737488355328:=by omega
 clear aK aI db cC kZ ej eF RY FO IJ IK IX;ab (ak; refine wpList_append_own _ rfl (.tmp 30) (.tmp 32) 204 rfl base 100 i0 (.agg #[.string ⟨#[]⟩,.string ⟨#[]⟩]) 2 32 Tryz.underlying204 jX dE dD cO rfl (by decide) _ _ _ rfl (eD.2.2.alloc _) ⟨w5.heap.size,0,none⟩ 1 1 (aG [(key,val)]) rfl rfl (eg _ (key,val) _) (aP _) FD FE (aS _ _ yS) ?_)
 intro v6 w6 aK aI db;obtain⟨g6,V8,hv,en⟩:=l5 eD.1 eD.2.1 ⟨dV,jT⟩ db aK;subst hv;have iU:=(ez.alloc yS _).grown aI (aS _ _ yS) (fun k e=>by simp[Value.ownBlock] at e; have:=eD.lt; omega)
 have yT:base≤w6.heap.size:=Nat.le_trans (aS _ _ yS) aI.size;have OR:=h.below (uQ.out _ iU);have zS:k+1+(l.length - (k+1))≤maxLen:=by unfold maxLen; omega
 have EF:(k+1+(l.length - (k+1))) * 32≤140737488355328:=by omega
 have RZ:(aG (l.drop (k+1))).length=(l.length - (k+1)) * 2:=by rw[bD,List.length_drop]
 clear aK aI db eD ez FD FE;by_cases IL:cap=k+1
 · have OS:Hid (∀j v,(aG (l.drop (k+1)))[j]? =some v→w6.cell? ((⟨b,off,none⟩:Addr).add j)=some v):=by
    show∀j v,_→_;intro j v hj;rw[List.drop_eq_nil_of_le (by omega)] at hj
    simp[aG] at hj
   have pH:(k:Int)+1≤(l.length:Int):=by omega
   have dF:(k:Int)+1≤(cap:Int):=by omega
   have cR:((k:Int)+1).toNat=k+1:=by omega
   ab (ak; refine wpList_append_own _ rfl (.tmp 34) (.tmp 37) 204 rfl base 100 i0 (.agg #[.string ⟨#[]⟩,.string ⟨#[]⟩]) 2 32 Tryz.underlying204 jX dE dD cO rfl (by decide) _ _ _ rfl en.2.2 ⟨b,off,none⟩ (l.length - (k+1)) _ (aG (l.drop (k+1))) rfl RZ OS.out (aP _) zS EF yT ?_)
   intro v7 w7 aK aI db;have cC:¬v7=.slice none 0 0:=by simpa using db
   rw[←cI] at aK;obtain⟨g7,C5,hv,r9⟩:=dy (n:=k+1+(l.length - (k+1))) (by simp; omega) (fun q hq=>by
    rcases List.mem_append.1 hq with h1 | h1
    · exact en.2.1 q h1
    · exact fk q (List.mem_of_mem_drop h1)) cC aK
   subst hv;have jd:=uQ.out _ (iU.grown aI yT (fun k e=>by simp[Value.ownBlock] at e; have:=en.lt; omega))
   have wQ:=Hid.mk' (r9.mono nM);clear aK aI db cC r9;ab (ak; fail)
   an;refine⟨g7,_,C5,rfl,?_,jd⟩;have:=wQ.out;rw[List.append_assoc] at this;exact this
 · have OS:=Hid.mk' (da (nX OR.cells (k+1)));have pH:(k:Int)+1≤(l.length:Int):=by omega
   have dF:(k:Int)+1≤(cap:Int):=by omega
   have cR:((k:Int)+1).toNat=k+1:=by omega
   ab (ak; refine wpList_append_own _ rfl (.tmp 34) (.tmp 37) 204 rfl base 100 i0 (.agg #[.string ⟨#[]⟩,.string ⟨#[]⟩]) 2 32 Tryz.underlying204 jX dE dD cO rfl (by decide) _ _ _ rfl en.2.2 ⟨b,off+(k+1) * 2,none⟩ (l.length - (k+1)) _ (aG (l.drop (k+1))) rfl RZ OS.out (aP _) zS EF yT ?_)
   intro v7 w7 aK aI db;have cC:¬v7=.slice none 0 0:=by simpa using db
   rw[←cI] at aK;obtain⟨g7,C5,hv,r9⟩:=dy (n:=k+1+(l.length - (k+1))) (by simp; omega) (fun q hq=>by
    rcases List.mem_append.1 hq with h1 | h1
    · exact en.2.1 q h1
    · exact fk q (List.mem_of_mem_drop h1)) cC aK
   subst hv;have jd:=uQ.out _ (iU.grown aI yT (fun k e=>by simp[Value.ownBlock] at e; have:=en.lt; omega))
   have wQ:=Hid.mk' (r9.mono nM);clear aK aI db cC r9;ab (ak; fail)
   an;refine⟨g7,_,C5,rfl,?_,jd⟩;have:=wQ.out;rw[List.append_assoc] at this;exact this
theorem AB(b off len cap:Nat)(l:List Pr)(key val:ByteArray)(w:World)(h:lL w (some ⟨b,off,none⟩) len l)(CV:len≤cap)(jg:len≤1099511627776)(dV:key.size≤maxLen)(jT:val.size≤maxLen):
 Calls Tryz.prog 117 #[.slice (some ⟨b,off,none⟩) len cap,.string key,.string val] w fun e w'=>
  ∃g' n' aY,e=.returned (.slice (some ⟨g',0,none⟩) n' aY)∧bX w' w.heap.size g' n' aY (putKey key val l)∧Below w.heap.size w w':=by
 have hl:=h.1;subst hl;have HW:Hid (Calls Tryz.prog 154 #[.slice (some ⟨b,off,none⟩) l.length cap,.agg #[.string key,.string val]] w fun e w'=>
  ∃g' n' aY,e=.returned (.slice (some ⟨g',0,none⟩) n' aY)∧bX w' w.heap.size g' n' aY (putKey key val l)∧Below w.heap.size w w'):=by
  cases hg:getKey key l with
  | none=>
   rw[EE hg];exact IV b off cap l key val w h CV jg dV jT (below key l) (uz key l) (Hid.mk' fun wx hx=>uO b off _ cap l key wx hx hg)
  | some v=>
   obtain⟨n,hn,h1,h2,h3⟩:=q8 hg;rw[xC n hn h1 h3,List.set_eq_take_append_cons_drop,if_pos hn,h1];exact C6 b off cap l key val w h CV jg dV jT n hn (Hid.mk' fun wx hx=>sZ b off _ cap l key wx hx n hn h1 h3)
 aj Tryz.func117,Tryz.ntmps117;ab fail;refine HW.out.mono ?_;rintro e w2 ⟨g,n,cp,rfl,hO,hB⟩;have HO:=Hid.mk' hO;clear hO;ab fail;an;exact⟨g,n,cp,rfl,HO.out,hB⟩
end aE
end Go.Proofs.YtmibabclefgljaaGreat
