/- RecS RecZa RecZb Fits PairA PairB PairC -/
import Derived.Test.YtmibabclefgljaaGreatShab
import Derived.Test.YtmibabclefgljaaGreatShac
import Derived.BigQuiet
import Derived.Test.YtmibabclefgljaaGreatShaa
import Derived.OwnWalk
set_option linter.unusedVariables false
set_option linter.unusedSimpArgs false
set_option maxRecDepth 100000
set_option maxHeartbeats 4000000
namespace Go.Proofs.YtmibabclefgljaaGreat
namespace aZ
open Go Go.RowKit base av aN
theorem jl(a:Option Addr)(cap:Nat)(w:World):
 Calls Tryz.prog 100 #[.slice a 0 cap] w fun e w'=>e=.returned (.bool false)∧w'=w:=by
 go_enter Tryz.func100,Tryz.ntmps100;go_wp2_with fail;refine wp_loop_rounds 1 ?_;rw[rounds_succ];go_wp2_with fail;refine(jE 0 1 8 _).mono ?_;rintro e w9 ⟨rfl,rfl⟩;go_wp2_with fail;go_ret;exact⟨aj (by decide),rfl⟩
theorem fM(a:Option Addr)(len cap:Nat)(l:List Od)(w:World)(h:dD w a len l)(dG:∀p∈l,p.2.1.size≤1099511627776):
 Calls Tryz.prog 100 #[.slice a len cap] w fun e w'=>e=.returned (.bool (bM l))∧Below w.heap.size w w':=by
 by_cases h0:len=0
 · subst h0;obtain rfl:l=[]:=List.eq_nil_of_length_eq_zero h.1;refine(jl a cap w).mono ?_;rintro e w' ⟨rfl,rfl⟩;exact⟨rfl,Below.refl _ _⟩
 · obtain⟨b,off,ha,_⟩:=h.2.2.2 (by omega)
   subst ha;exact pU b off len cap l w h dG
def da(X:Nat)(kind tx:Int)(v:Value)(w:World):Prop:=w.heap[X]? =some (.cells #[.int .i64 kind,.int .i64 tx,v] 98 (0,0))
theorem cd(w:World)(kind tx:Int)(v:Value):da w.heap.size kind tx v (w.alloc (.cells #[.int .i64 kind,.int .i64 tx,v] 98)):=heap_alloc_new w _
section
variable{X:Nat}{kind tx:Int}{v:Value}{w w':World}
theorem da.cells(h:da X kind tx v w):w.cell? ⟨X,0,none⟩=some (.int .i64 kind)∧w.cell? ⟨X,1,none⟩=some (.int .i64 tx)∧w.cell? ⟨X,2,none⟩=some v:=by
 unfold da at h;simp[World.cell?,h]
theorem da.lt(h:da X kind tx v w):X<w.heap.size:=(Array.getElem?_eq_some_iff.1 h).1
theorem da.below(h:da X kind tx v w)(hb:Below w.heap.size w w'):da X kind tx v w':=by
 have h':=h.lt;unfold da at h ⊢;rw[hb.block X h',h]
theorem da.grown{row:Option Nat}(h:da X kind tx v w)(hg:w.grownBy w' row)(aW:some X≠row):da X kind tx v w':=by
 have h':=h.lt;unfold da at h ⊢;rw[hg.block X h' aW,h]
end
theorem dR(kind tx:Int)(a:Option Addr)(len cap:Nat)(l:List Od)(w:World)(h:dD w a len l)(dG:∀p∈l,p.2.1.size≤1099511627776):
 Calls Tryz.prog 138 #[.agg #[.int .i64 kind,.int .i64 tx,.slice a len cap]] w fun e w'=>e=.returned (.bool (bf (kind,tx,l)))∧Below w.heap.size w w':=by
 have bg:Below w.heap.size w (w.alloc (.cells #[.int .i64 kind,.int .i64 tx,.slice a len cap] 98)):=(Below.refl _ _).alloc (Nat.le_refl _) _;have gZ:=jE tx 1 1000000 (w.alloc (.cells #[.int .i64 kind,.int .i64 tx,.slice a len cap] 98));have hl:=h.1;have hm:=h.2.1;unfold maxLen at hm;by_cases ht:1≤tx∧tx≤1000000
 · rw[decide_eq_true ht] at gZ;have HI:=Hid.mk' gZ;have HR:Hid (bf (kind,tx,l)=if kind=1 then bM l else decide (kind=2∨kind=3) && l.isEmpty):=by show _=_; unfold bf; rw[decide_eq_true ht]; simp
   clear gZ ht;by_cases h1:kind=1
   · subst h1;have HO:=Hid.mk' (fM a len cap l _ (h.below bg) dG);rw[if_pos rfl] at HR;generalize bM l=K at *;go_enter Tryz.func138,Tryz.ntmps138;go_wp2_with fail;refine HI.out.mono ?_;rintro e w1 ⟨rfl,bx⟩;subst bx;go_wp2_with fail;refine HO.out.mono ?_;rintro e w1 ⟨rfl,aT⟩;go_wp2_with fail;go_ret;exact⟨aj HR.out.symm,bg.trans (aT.mono bg.size)⟩
   · rw[if_neg h1] at HR;have nr:(kind==1)=false:=beq_eq_false_iff_ne.2 h1;by_cases CL:kind=2∨kind=3
     · rw[decide_eq_true CL,Bool.true_and] at HR;by_cases h0:len=0
       · have HE:Hid (bf (kind,tx,l)=true):=by show _=_; rw[HR.out,List.isEmpty_iff]; exact List.eq_nil_of_length_eq_zero (by omega)
         subst h0;rcases CL with rfl | rfl
         all_goals
          clear HR h1 nr;go_enter Tryz.func138,Tryz.ntmps138;go_wp2_with fail;refine HI.out.mono ?_;rintro e w1 ⟨rfl,bx⟩;subst bx;go_wp2_with fail;go_ret;exact⟨aj HE.out.symm,bg⟩
       · have HE:Hid (bf (kind,tx,l)=false):=by
          show _=_;rw[HR.out];cases l with
          | nil=>simp at hl; omega
          | cons x l=>rfl
         have tM:((len:Int)==0)=false:=by simp; omega
         rcases CL with rfl | rfl
         all_goals
          clear HR h1 nr;go_enter Tryz.func138,Tryz.ntmps138;go_wp2_with fail;refine HI.out.mono ?_;rintro e w1 ⟨rfl,bx⟩;subst bx;go_wp2_with fail;go_ret;exact⟨aj HE.out.symm,bg⟩
     · rw[decide_eq_false CL,Bool.false_and] at HR;have gY:(kind==2)=false:=beq_eq_false_iff_ne.2 (fun e=>CL (.inl e))
       have hk3:(kind==3)=false:=beq_eq_false_iff_ne.2 (fun e=>CL (.inr e))
       clear h1 CL;go_enter Tryz.func138,Tryz.ntmps138;go_wp2_with fail;refine HI.out.mono ?_;rintro e w1 ⟨rfl,bx⟩;subst bx;go_wp2_with fail;go_ret;exact⟨aj HR.out.symm,bg⟩
 · rw[decide_eq_false ht] at gZ;have HI:=Hid.mk' gZ;have HR:Hid (bf (kind,tx,l)=false):=by show _=_; unfold bf; rw[decide_eq_false ht]; rfl
   clear gZ ht;go_enter Tryz.func138,Tryz.ntmps138;go_wp2_with fail;refine HI.out.mono ?_;rintro e w1 ⟨rfl,bx⟩;subst bx;go_wp2_with fail;go_ret;exact⟨aj HR.out.symm,bg⟩
end aZ
namespace aZ
open Go Go.RowKit base av aN
theorem sE{tx:Int}:∀ {l:List Rc} {k:Nat} (h:k<l.length),(∀r∈l.take k,r.2.1≠tx)→l[k].2.1=tx→aH tx l=some k
 | r::l,0,_,_,e=>by rw[aH,if_pos (by simpa using e)]
 | r::l,k+1,h,hn,e=>by
  rw[aH,if_neg (hn r (by simp)),sE (k:=k) (by simpa using h) (fun x hx=>hn x (by simp[hx])) (by simpa using e)]
  rfl
theorem qF{tx:Int}:∀ {l:List Rc},(∀r∈l,r.2.1≠tx)→aH tx l=none
 | [],_=>rfl
 | r::l,hn=>by rw[aH,if_neg (hn r (by simp)),qF (fun x hx=>hn x (by simp[hx]))]; rfl
def fw(r:Option Nat):Int:=match r with | none=> -1 | some k=>(k:Int)
theorem ed(a:Option Addr)(len cap:Nat)(l:List Rc)(tx:Int)(w:World)(h:rs w a len l):
 Calls Tryz.prog 137 #[.slice a len cap,.int .i64 tx] w fun e w'=>e=.returned (.int .i64 (fw (aH tx l)))∧w'=w:=by
 obtain⟨hl,hm,eW,hc⟩:=id h;subst hl;unfold maxLen at hm;generalize hR:aH tx l=R;have HR:=Hid.mk' hR;clear hR;go_enter Tryz.func137,Tryz.ntmps137;go_wp2_with fail;go_loopw [5] (fun i wr=>∃k:Nat,k≤l.length∧i=.int .i64 (k:Int)∧(∀r∈l.take k,r.2.1≠tx)∧wr=w) (fun i _=>l.length - (intOf i).toNat)
 case atStart=>exact⟨0,Nat.zero_le _,rfl,by simp,rfl⟩
 case round=>
  obtain⟨k,hk,rfl,ku,rfl⟩:=hrel;by_cases a6:k<l.length
  · obtain⟨b,off,ha,_⟩:=hc (by omega)
    subst ha;obtain⟨c0,c1,pa,pl,pc,c2,_,_⟩:=h.at k a6;have fL:(k:Int)<(l.length:Int):=by omega
    by_cases e:l[k].2.1=tx
    · have HP:Hid (R=some k):=by show _=_; rw[←HR.out]; exact sE a6 ku e
      have eb:(l[k].2.1==tx)=true:=by simpa using e
      clear ku HR e;generalize l[k]=p at *;go_wp2_with fail;go_ret;rw[HP.out];exact⟨rfl,rfl⟩
    · have eb:(l[k].2.1==tx)=false:=beq_eq_false_iff_ne.2 e;have HN:Hid (∀r∈l.take (k+1),r.2.1≠tx):=by
       intro r hr;rw[List.take_succ_eq_append_getElem a6] at hr;rcases List.mem_append.1 hr with e2 | e2
       · exact ku r e2
       · rw[List.mem_singleton.1 e2]; exact e
      clear ku e;generalize l[k]=p at *;go_wp2_with fail;go_roundw
      case rel=>exact⟨k+1,by omega,by go_num,HN.out,by trivial⟩
      case measure=>simp[intOf]; omega
  · have HP:Hid (R=none):=by
     show _=_;rw[←HR.out];rw[List.take_of_length_le (by omega)] at ku
     exact qF ku
    go_wp2_with fail;go_ret;rw[HP.out];exact⟨rfl,rfl⟩
theorem jZ(w:World)(g c:Nat)(ty:TypeId):(Builtin.append_ #[73,73] ty #[.slice (some ⟨g,0,none⟩) 0 0,.slice none 0 c]).run Tryz.prog w=.ok (.slice (some ⟨g,0,none⟩) 0 0) w:=by kernel_rfl
theorem fY(a:Option Addr)(len cap:Nat)(l:List Od)(w:World)(h:dD w a len l)(iO:len≤1099511627776):
 Calls Tryz.prog 95 #[.slice a len cap] w fun e w'=>∃g' LL,e=.returned (.slice (some ⟨g',0,none⟩) len LL)∧bR w' w.heap.size g' len LL l∧Below w.heap.size w w':=by
 obtain⟨i0,hi,dm,dk,cA⟩:=info_parts sx;have hl:=h.1;have eW:=h.2.2.1;have bg:Below w.heap.size w (w.alloc (.cells #[] 121)):=(Below.refl _ _).alloc (Nat.le_refl _) _;have qG:=lI w w.heap.size (Nat.le_refl _);cases a with
 | none=>
  have h0:len=0:=by
   rcases Nat.eq_zero_or_pos len with e | e
   · exact e
   · obtain⟨b,off,ha,_⟩:=h.2.2.2 e; cases ha
  subst h0;have e1:l=[]:=List.eq_nil_of_length_eq_zero hl;subst e1;have RM:=jZ;go_enter Tryz.func95,Tryz.ntmps95;go_wp2_with fail;go_ret;exact⟨_,_,rfl,qG,bg⟩
 | some ad=>
  have mU:Hid (∀j u,(aM l)[j]? =some u→(w.alloc (.cells #[] 121)).cell? (ad.add j)=some u):=by
   rcases Nat.eq_zero_or_pos len with e | e
   · intro j u hj;have e1:l=[]:=List.eq_nil_of_length_eq_zero (by omega)
     rw[e1] at hj; simp[aM] at hj
   · obtain⟨b,off,ha,_⟩:=h.2.2.2 e;cases ha;exact pS (h.below bg).cells
  have fD:0+len≤maxLen:=by unfold maxLen; omega
  have jX:(0+len) * 40≤140737488355328:=by omega
  have jh:(aM l).length=len * 3:=by rw[cH]; omega
  go_enter Tryz.func95,Tryz.ntmps95;go_wp2_with (at_builtin; refine wpList_append_own _ rfl (.tmp 3) (.tmp 4) 73 rfl w.heap.size 121 i0 (.agg #[.int .i64 0,.string ⟨#[]⟩,.string ⟨#[]⟩]) 3 40 Tryz.underlying73 hi dm dk cA rfl (by decide) _ _ _ rfl qG.2.2 ad len cap (aM l) rfl jh mU.out (bz l) fD jX bg.size ?_)
  intro v1 w1 aB az cN;have bY:¬v1=.slice none 0 0:=by simpa using cN
  obtain⟨g1,c1,oI,gi⟩:=ui hl eW bY (by have h9:=aB; rwa[show aM []++aM l=aM l from rfl] at h9)
  subst oI;have jF:(w.alloc (.cells #[] 121)).grownBy w1 (some w.heap.size):=az;have eU:=bg.grown jF bg.size (fun k e=>by cases e; exact Nat.le_refl _)
  clear aB az cN bY jF;go_wp2_with fail;go_ret;exact⟨g1,c1,rfl,gi,eU⟩
theorem my(kind tx:Int)(a:Option Addr)(len cap:Nat)(l:List Od)(w:World)(h:dD w a len l)(iO:len≤1099511627776):
 Calls Tryz.prog 133 #[.agg #[.int .i64 kind,.int .i64 tx,.slice a len cap]] w fun e w'=>
  ∃g cp,e=.returned (.agg #[.int .i64 kind,.int .i64 tx,.slice (some ⟨g,0,none⟩) len cp])∧bR w' w.heap.size g len cp l∧Below w.heap.size w w':=by
 obtain⟨W,hW⟩:∃W,W=(w.alloc (.cells #[.int .i64 kind,.int .i64 tx,.slice a len cap] 98)).alloc (.cells #[.int .i64 0,.int .i64 0,.slice none 0 0] 98):=⟨_,rfl⟩;have bg:Below w.heap.size w (w.alloc (.cells #[.int .i64 kind,.int .i64 tx,.slice a len cap] 98)):=(Below.refl _ _).alloc (Nat.le_refl _) _;have hB:Below w.heap.size w W:=by rw[hW]; exact bg.alloc bg.size _
 have hT:da w.heap.size kind tx (.slice a len cap) W:=by rw[hW]; exact(cd w _ _ _).below ((Below.refl _ _).alloc (Nat.le_refl _) _)
 have hR:da (w.heap.size+1) 0 0 (.slice none 0 0) W:=by
  rw[hW];have:=cd (w.alloc (.cells #[.int .i64 kind,.int .i64 tx,.slice a len cap] 98)) 0 0 (.slice none 0 0);rwa[show(w.alloc (.cells #[.int .i64 kind,.int .i64 tx,.slice a len cap] 98)).heap.size=w.heap.size+1 by simp] at this
 have HC:=Hid.mk' (fY a len cap l W (h.below hB) iO);obtain⟨d0,d1,d2⟩:=hT.cells;rw[hW] at d0 d1 d2;have HW:=Hid.mk' hW.symm;clear hW;go_enter Tryz.func133,Tryz.ntmps133;go_wp2_with fail;rw[HW.out];refine HC.out.mono ?_;rintro e w2 ⟨g2,c2,rfl,fE,aU⟩;have LM:=hT.below aU;have dn:=hR.below aU;have dw:=hB.trans (aU.mono hB.size);have VF:w2.heap[w.heap.size]? =some (.cells #[.int .i64 kind,.int .i64 tx,.slice a len cap] 98 (0,0)):=LM;have s0:=bw VF 2 (.slice (some ⟨g2,0,none⟩) len c2);have Fm:da w.heap.size kind tx (.slice (some ⟨g2,0,none⟩) len c2) (w2.setCell ⟨w.heap.size,2,none⟩ (.slice (some ⟨g2,0,none⟩) len c2)):=s0.1;have cC:=dn.grown s0.2 (by simp)
 have lC:=fE.lt;have Y7:=hT.lt;have hWl2:=hR.lt;have d_:=(fE.mono hB.size).grown s0.2 (by simp; omega)
 have cJ:=dw.grown s0.2 dw.size (fun j e=>by cases e; exact Nat.le_refl _)
 clear d0 d1 d2;obtain⟨d0,d1,d2⟩:=LM.cells;have fz2:w2.frozen? ⟨w.heap.size,2,none⟩=false:=by simp[World.frozen?,VF]
 obtain⟨W3,zA⟩:∃W3,W3=w2.setCell ⟨w.heap.size,2,none⟩ (.slice (some ⟨g2,0,none⟩) len c2):=⟨_,rfl⟩;rw[←zA] at Fm cC d_ cJ;obtain⟨t0,t1,t2⟩:=Fm.cells;obtain⟨r0,r1,r2⟩:=cC.cells;have Oz:W3.heap[w.heap.size+1]? =some (.cells #[.int .i64 0,.int .i64 0,.slice none 0 0] 98 (0,0)):=cC;have f0:W3.frozen? ⟨w.heap.size+1,0,none⟩=false:=by simp[World.frozen?,Oz]
 have f1:W3.frozen? ⟨w.heap.size+1,1,none⟩=false:=by simp[World.frozen?,Oz]
 have f2:W3.frozen? ⟨w.heap.size+1,2,none⟩=false:=by simp[World.frozen?,Oz]
 have z0:=bw Oz 0 (.int .i64 kind);have z1:=bw z0.1 1 (.int .i64 tx);have z2:=bw z1.1 2 (.slice (some ⟨g2,0,none⟩) len c2);have zg:=ao (ao z0.2 z1.2) z2.2;have hz:da (w.heap.size+1) kind tx (.slice (some ⟨g2,0,none⟩) len c2) _:=z2.1;have lM:=hz.cells;have OA:=Hid.mk' (cJ.grown zg cJ.size (fun j e=>by cases e; omega))
 have Fo:=Hid.mk' (d_.grown zg (by simp; omega))
 have zB:=Hid.mk' zA.symm;rw[zA] at t0 t1 t2 r0 r1 r2 f0 f1 f2;clear zA VF Oz z0 z1 z2 s0;go_wp2_with fail;rw[zB.out];refine bodyPost_ret (v:=.agg #[.int .i64 kind,.int .i64 tx,.slice (some ⟨g2,0,none⟩) len c2]) ?_ rfl ⟨_,_,rfl,Fo.out,OA.out⟩;simp[results,Tryz.results133,go_sem,lM.1,lM.2.1,lM.2.2]
end aZ
namespace aZ
open Go Go.RowKit base av aN
def Ag(o:Od)(ops:List Od):Prop:=∀p∈ops,o.2.1≠p.2.1
def nJ(os ops:List Od):Prop:=∀o∈os,Ag o ops
theorem yz{held:List Rc}{ops:List Od}(h:∀r∈held,nJ r.2.2 ops):locked held ops=false:=by
 rw[←Bool.not_eq_true];intro e;unfold locked at e;simp only[List.any_eq_true,decide_eq_true_eq] at e;obtain⟨r,hr,o,ho,p,hp,e⟩:=e;exact h r hr o ho p hp e
theorem Ah{held:List Rc}{ops:List Od}{r:Rc}{o p:Od}(hr:r∈held)(ho:o∈r.2.2)(hp:p∈ops)(e:o.2.1=p.2.1):locked held ops=true:=by
 unfold locked;simp only[List.any_eq_true,decide_eq_true_eq];exact⟨r,hr,o,ho,p,hp,e⟩
theorem uq{α:Type}{P:α→Prop}{l:List α}{k:Nat}(h:k<l.length)(h1:∀x∈l.take k,P x)(h2:P l[k]):∀x∈l.take (k+1),P x:=by
 intro x hx;rw[List.take_succ_eq_append_getElem h] at hx;rcases List.mem_append.1 hx with e | e
 · exact h1 x e
 · rw[List.mem_singleton.1 e]; exact h2
theorem jm(a:Option Addr)(len cap:Nat)(l:List Rc)(a2:Option Addr)(cn eg:Nat)(ops:List Od)(w:World)(h:rs w a len l)(h2:dD w a2 cn ops):
 Calls Tryz.prog 139 #[.slice a len cap,.slice a2 cn eg] w fun e w'=>e=.returned (.bool (locked l ops))∧Below w.heap.size w w':=by
 obtain⟨hl,hm,eW,hc⟩:=id h;obtain⟨jh,jD,wh,dS⟩:=id h2;subst hl jh;unfold maxLen at hm jD;generalize hR:locked l ops=R;have HR:=Hid.mk' hR;clear hR;go_enter Tryz.func139,Tryz.ntmps139;go_wp2_with fail;go_loopw [5] (fun i wr=>∃k:Nat,k≤l.length∧i=.int .i64 (k:Int)∧(∀r∈l.take k,nJ r.2.2 ops)∧Below w.heap.size w wr) (fun i _=>l.length - (intOf i).toNat)
 case atStart=>exact⟨0,Nat.zero_le _,rfl,by simp,Below.refl _ _⟩
 case round=>
  obtain⟨k,hk,rfl,ku,hB⟩:=hrel;by_cases a6:k<l.length
  · obtain⟨b,off,ha,_⟩:=hc (by omega)
    subst ha;have fL:(k:Int)<(l.length:Int):=by omega
    have fl:=h.at k a6;obtain⟨_,_,pa,pl,pc,oJ,RN,_⟩:=fl;have pd:b<w.heap.size:=World.block_lt_of_cell? w _ oJ;have HC:Hid (∀wx,Below w.heap.size w wx→wx.cell? ⟨b,off+k * 3+2,none⟩=some (.slice pa pl pc)):=fun wx hx=>(hx.cell (p:=⟨b,off+k * 3+2,none⟩) pd).trans oJ
    have CM:Hid (l[k]∈l):=List.getElem_mem a6;have vL:Hid (nJ l[k].2.2 ops→∀r∈l.take (k+1),nJ r.2.2 ops):=fun hh=>uq a6 ku hh
    generalize l[k]=r at *;obtain⟨gd,hpm,LK,hpc⟩:=id RN;subst gd;unfold maxLen at hpm;clear ku oJ;go_wp2_with fail;go_loopw [6] (fun i wr=>∃j:Nat,j≤r.2.2.length∧i=.int .i64 (j:Int)∧nJ (r.2.2.take j) ops∧Below w.heap.size w wr) (fun i _=>r.2.2.length - (intOf i).toNat)
    case atStart=>exact⟨0,Nat.zero_le _,rfl,by intro o ho; simp at ho,hB⟩
    case round=>
     clear hB;obtain⟨j,hj,rfl,UA,hB⟩:=hrel;have c2:=HC.out _ hB;by_cases VG:j<r.2.2.length
     · obtain⟨pb,po,hpa,_⟩:=hpc (by omega)
       subst hpa;have sD:(j:Int)<(r.2.2.length:Int):=by omega
       have VH:=(RN.cells j VG).2.1;have hpb:pb<w.heap.size:=World.block_lt_of_cell? w _ VH;have HCJ:Hid (∀wx,Below w.heap.size w wx→wx.cell? ⟨pb,po+j * 3+1,none⟩=some (.string r.2.2[j].2.1)):=fun wx hx=>(hx.cell (p:=⟨pb,po+j * 3+1,none⟩) hpb).trans VH
       have mY:Hid (∀p∈ops,r.2.2[j].2.1=p.2.1→R=true):=fun p hp e=>by rw[←HR.out]; exact Ah CM.out (List.getElem_mem VG) hp e
       have HSJ:Hid (Ag r.2.2[j] ops→nJ (r.2.2.take (j+1)) ops):=fun hh=>uq (P:=fun o=>Ag o ops) VG UA hh
       generalize r.2.2[j]=o at *;clear UA VH;go_wp2_with fail;go_loopw [7] (fun i wr=>∃q:Nat,q≤ops.length∧i=.int .i64 (q:Int)∧Ag o (ops.take q)∧Below w.heap.size w wr) (fun i _=>ops.length - (intOf i).toNat)
       case atStart=>exact⟨0,Nat.zero_le _,rfl,by intro p hp; simp at hp,hB⟩
       case round=>
        clear hB c2;obtain⟨q,hq,rfl,sF,hB⟩:=hrel;by_cases VI:q<ops.length
        · obtain⟨ob,oo,VJ,_⟩:=dS (by omega)
          subst VJ;have CN:(q:Int)<(ops.length:Int):=by omega
          have UB:=(h2.cells q VI).2.1;have hob:ob<w.heap.size:=World.block_lt_of_cell? w _ UB;have Fp:=hB.size;have c3:=(hB.cell (p:=⟨ob,oo+q * 3+1,none⟩) hob).trans UB;have y1:=last.On.cell (B:=wr.heap.size) (HC.out _ hB) (by omega)
          have y2:=last.On.cell (B:=wr.heap.size) (HCJ.out _ hB) (by omega)
          have y3:=last.On.cell (B:=wr.heap.size) c3 (by omega)
          have a_:=last.On.gV wr.heap.size wr;by_cases e:o.2.1=ops[q].2.1
          · have HP:Hid (R=true):=mY.out _ (List.getElem_mem VI) e;rw[←e] at y3;have eb:(o.2.1.toList==o.2.1.toList)=true:=by simp
            clear sF c3 UB e;go_wp2_with fail;refine last.ai wr.heap.size (by kernel_rfl) (by kernel_rfl) ?_
            repeat(go_big_quiet_step (fail))
            refine wpQuiet_nil ?_;intro w5 bP;obtain⟨x5,bP⟩:=bP;have de:Below wr.heap.size wr w5:=by rw[bP]; exact x5.2
            clear bP x5 a_ y1 y2 y3;go_wp2_with fail;go_ret;exact⟨aj HP.out.symm,hB.trans (de.mono hB.size)⟩
          · have HN:Hid (Ag o (ops.take (q+1))):=uq (P:=fun p:Od=>o.2.1≠p.2.1) VI sF e
            have eb:(o.2.1.toList==ops[q].2.1.toList)=false:=beq_eq_false_iff_ne.2 (fun e2=>e (by
             rw[ByteArray.toList_eq,ByteArray.toList_eq] at e2;exact jM e2))
            clear sF c3 UB e;generalize ops[q]=p at *;go_wp2_with fail;refine last.ai wr.heap.size (by kernel_rfl) (by kernel_rfl) ?_
            repeat(go_big_quiet_step (fail))
            refine wpQuiet_nil ?_;intro w5 bP;obtain⟨x5,bP⟩:=bP;have de:Below wr.heap.size wr w5:=by rw[bP]; exact x5.2
            clear bP x5 a_ y1 y2 y3;go_wp2_with fail;go_roundw
            case rel=>exact⟨q+1,by omega,by go_num,HN.out,hB.trans (de.mono hB.size)⟩
            case measure=>simp[intOf]; omega
        · have hql:¬(q:Int)<(ops.length:Int):=by omega
          have HN:Hid (nJ (r.2.2.take (j+1)) ops):=HSJ.out (by rwa[List.take_of_length_le (by omega)] at sF)
          go_wp2_with fail;go_roundw
          case rel=>exact⟨j+1,by omega,by go_num,HN.out,hB⟩
          case measure=>simp[intOf]; omega
     · have eL:¬(j:Int)<(r.2.2.length:Int):=by omega
       have HN:Hid (∀r∈l.take (k+1),nJ r.2.2 ops):=vL.out (by rwa[List.take_of_length_le (by omega)] at UA)
       go_wp2_with fail;go_roundw
       case rel=>exact⟨k+1,by omega,by go_num,HN.out,hB⟩
       case measure=>simp[intOf]; omega
  · have HP:Hid (R=false):=by
     show _=_;rw[←HR.out];rw[List.take_of_length_le (by omega)] at ku
     exact yz ku
    go_wp2_with fail;go_ret;exact⟨aj HP.out.symm,hB⟩
end aZ
namespace base
open Go.RowKit
def OB(w:World)(g:Nat)(s:ByteArray):Prop:=g<w.heap.size∧∀j (h:j<s.size),w.cell? ⟨g,j,none⟩=some (.int .u8 (s[j].toNat:Int))
theorem LN(w:World)(s:ByteArray):OB (Lib.bytesWorld w 5 s) w.heap.size s:=by
 refine⟨by rw[Lib.bytesWorld_size]; omega,fun j h=>?_⟩
 rw[Lib.bytesWorld_cell w 5 s j h]; simp[List.getD,h]; rfl
theorem OB.grown{w w':World}{g g2:Nat}{s:ByteArray}(h:OB w g s)(hg:w.grownBy w' (some g2))(aW:g≠g2):OB w' g s:=
 ⟨Nat.lt_of_lt_of_le h.1 hg.size,fun j hj=>hg.cell (h.2 j hj) (by simpa using aW)⟩
theorem OB.below{w w':World}{g:Nat}{s:ByteArray}(h:OB w g s)(hb:Below w.heap.size w w'):OB w' g s:=
 ⟨Nat.lt_of_lt_of_le h.1 hb.size,fun j hj=>(hb.cell (p:=⟨g,j,none⟩) h.1).trans (h.2 j hj)⟩
end base
namespace av
open Go Go.RowKit base
theorem qH(p:Pr)(w:World):
 Calls Tryz.prog 223 #[.agg #[.string p.1,.string p.2]] w fun e w'=>e=.returned (.string p.1)∧w'=w.alloc (.cells #[.string p.1,.string p.2] 100):=by
 go_enter Tryz.func223,Tryz.ntmps223;go_wp2;go_ret;exact⟨rfl,rfl⟩
theorem Fs(c:Nat)(w:World)(hc:c<256):
 Calls Tryz.prog 173 #[.int .u8 (c:Int)] w fun e w'=>e=.returned (.bool (gC c))∧w'=w:=by
 by_cases h1:97≤c
 · by_cases h2:c≤122
   · go_enter Tryz.func173,Tryz.ntmps173;go_wp2;go_ret;exact⟨aj (by simp[gC,h1,h2]),rfl⟩
   · have h3:¬c≤57:=by omega
     have h4:48≤c:=by omega
     go_enter Tryz.func173,Tryz.ntmps173;go_wp2;go_ret;exact⟨aj (by simp[gC,h2,h3]; omega),rfl⟩
 · by_cases h2:48≤c
   · by_cases h3:c≤57
     · go_enter Tryz.func173,Tryz.ntmps173;go_wp2;go_ret;exact⟨aj (by simp[gC,h2,h3]; omega),rfl⟩
     · go_enter Tryz.func173,Tryz.ntmps173;go_wp2;go_ret;exact⟨aj (by simp[gC,h1,h3]; omega),rfl⟩
   · go_enter Tryz.func173,Tryz.ntmps173;go_wp2;go_ret;exact⟨aj (by simp[gC,h1,h2]),rfl⟩
theorem ur(s:ByteArray)(w:World)(hs:s.size≤1099511627776):
 Calls Tryz.prog 146 #[.string s] w fun e w'=>e=.returned (.bool (gD s))∧Below w.heap.size w w':=by
 by_cases h0:s.size<1
 · go_enter Tryz.func146,Tryz.ntmps146;go_wp2_with fail;go_ret;exact⟨aj (by simp[gD]; omega),Below.refl _ _⟩
 by_cases h12:12<s.size
 · go_enter Tryz.func146,Tryz.ntmps146;go_wp2_with fail;go_ret;exact⟨aj (by simp[gD]; omega),Below.refl _ _⟩
 have HZ:Hid (decide (1≤s.size∧s.size≤12)=true):=by show _=_; simp; omega
 generalize hR:kX s.data.toList=R;have HR:=Hid.mk' hR;clear hR;have Ng:=Lib.run_convert_string_bytes (P:=Tryz.prog) w 9 22 5 s Tryz.underlying9 Tryz.underlying22 Tryz.underlying5;have VK:=LN w s;have Y8:=lG w 5 s;go_enter Tryz.func146,Tryz.ntmps146;go_wp2_with fail;generalize Lib.bytesWorld w 5 s=w1 at *;go_loop [16] (fun i=>∃k:Nat,k≤s.size∧i=.int .i64 (k:Int)∧kX (s.data.toList.drop k)=R) (fun i=>s.size - (intOf i).toNat)
 case atStart=>exact⟨0,Nat.zero_le _,rfl,HR.out⟩
 case round=>
  obtain⟨k,hk,rfl,hr⟩:=hrel;clear Ng;by_cases a6:k<s.size
  · have cc:=sz s k a6;rw[hr] at cc;have hc:=s[k].toNat_lt;have cK:=VK.2 k a6;generalize hC:s[k].toNat=c at *;have fL:(k:Int)<(s.size:Int):=by omega
    have hl:=Fs c w1 (by omega)
    cases hq:gC c
    · rw[hq] at hl cc;have HF:Hid (R=false):=by show _=_; simpa using cc
      have HL:=Hid.mk' hl;clear hl cc hr hC;go_wp2_with fail;refine HL.out.mono ?_;rintro e w2 ⟨rfl,rfl⟩;go_wp2_with fail;go_ret;exact⟨aj (by unfold gD; rw[HR.out,HF.out]; rfl),Y8⟩
    · rw[hq] at hl cc;have HF:Hid (kX (s.data.toList.drop (k+1))=R):=by show _=_; simpa using cc.symm
      have HL:=Hid.mk' hl;clear hl cc hr hC;go_wp2_with fail;refine HL.out.mono ?_;rintro e w2 ⟨rfl,rfl⟩;go_wp2_with fail;go_round
      case rel=>exact⟨k+1,by omega,by go_num,HF.out⟩
      case measure=>simp[intOf]; omega
  · have HF:Hid (R=true):=by show _=_; rw[←hr,List.drop_eq_nil_of_le (by simp; omega)]; rfl
    clear hr;go_wp2_with fail;go_ret;exact⟨aj (by unfold gD; rw[HR.out,HF.out,HZ.out]; rfl),Y8⟩
theorem Ai(p:Pr)(w:World)(hp:small p)(hs:p.1.size≤1099511627776):
 Calls Tryz.prog 145 #[.agg #[.string p.1,.string p.2]] w fun e w'=>e=.returned (.bool (fI p))∧Below w.heap.size w w':=by
 have h2:=hp.2;unfold maxLen at h2;have bg:Below w.heap.size w (w.alloc (.cells #[.string p.1,.string p.2] 100)):=(Below.refl _ _).alloc (Nat.le_refl _) _;have hk:=ur p.1 (w.alloc (.cells #[.string p.1,.string p.2] 100)) hs;cases hK:gD p.1
 · rw[hK] at hk;have HK:=Hid.mk' hk;have H1:=Hid.mk' hK;clear hk hK;go_enter Tryz.func145,Tryz.ntmps145;go_wp2_with fail;refine HK.out.mono ?_;rintro e w1 ⟨rfl,aT⟩;go_wp2_with fail;go_ret;exact⟨aj (by unfold fI; rw[H1.out]; rfl),bg.trans (aT.mono bg.size)⟩
 · rw[hK] at hk;have HK:=Hid.mk' hk;have H1:=Hid.mk' hK;clear hk hK;go_enter Tryz.func145,Tryz.ntmps145;go_wp2_with fail;refine HK.out.mono ?_;rintro e w1 ⟨rfl,aT⟩;have hc:=sy aT;go_wp2_with fail;go_ret;exact⟨aj (by unfold fI; rw[H1.out]; simp; omega),bg.trans (aT.mono bg.size)⟩
end av
namespace av
open Go Go.RowKit base
theorem uu(x y:ByteArray)(w:World):(method 368 100 (.agg #[.string x,.string y]) "loop.example/g00244/impl.key").run Tryz.prog w=.ok (223,.agg #[.string x,.string y]) w:=by kernel_rfl
theorem wj{key:ByteArray}{l:List Pr}{k:Nat}(hn:getKey key (l.take k)=none)(hk:k≤l.length)(j:Nat)(hj:j<k):(l[j]'(by omega)).1≠key:=by
 have:=nF hn j (by simp; omega)
 rwa[List.getElem_take] at this
theorem IF{w wr:World}(hB:Below w.heap.size w wr)(x y:Obj):Below w.heap.size w ((wr.alloc x).alloc y):=(hB.alloc hB.size _).alloc (aI _ _ hB.size) _
theorem sG(b off len cap:Nat)(l:List Pr)(key:ByteArray)(w:World)(h:lq w (some ⟨b,off,none⟩) len l)(n:Nat)(hn:n<l.length)(he:l[n].1=key)(ku:getKey key (l.take n)=none):
 Calls Tryz.prog 177 #[.slice (some ⟨b,off,none⟩) len cap,.string key] w fun e w'=>e=.returned (.tuple #[.int .i64 (n:Int),.bool true])∧Below w.heap.size w w':=by
 have hl:=h.1;have hm:=h.2.1;subst hl;unfold maxLen at hm;have OC:=uu;have HE:=Hid.mk' he;clear he;go_enter Tryz.func177,Tryz.ntmps177;go_wp2_with fail;go_loopw [12] (fun i wr=>∃k:Nat,k≤n∧i=.int .i64 (k:Int)∧Below w.heap.size w wr) (fun i _=>l.length - (intOf i).toNat)
 case atStart=>exact⟨0,Nat.zero_le _,rfl,Below.refl _ _⟩
 case round=>
  obtain⟨k,hk,rfl,hB⟩:=hrel;have a6:k<l.length:=by omega
  obtain⟨c1,c2⟩:=(h.below hB).cells k a6;have fL:(k:Int)<(l.length:Int):=by omega
  by_cases Y9:k=n
  · subst Y9;have he:=HE.out;rw[he] at c1;generalize l[k].2=y at *;clear ku HE he;go_wp2_with fail;refine(qH (key,y) _).mono ?_;rintro e w2 ⟨rfl,rfl⟩;go_wp2_with fail;go_ret2;exact⟨rfl,IF hB _ _⟩
  · have hq:(l[k].1.toList==key.toList)=false:=dP (wj ku (by omega) k (by omega))
    have VL:k+1≤n:=by omega
    clear ku HE Y9;generalize l[k]=p at *;go_wp2_with fail;refine(qH p _).mono ?_;rintro e w2 ⟨rfl,rfl⟩;go_wp2_with fail;go_roundw
    case rel=>exact⟨k+1,VL,by go_num,IF hB _ _⟩
    case measure=>simp[intOf]; omega
theorem uv(b off len cap:Nat)(l:List Pr)(key:ByteArray)(w:World)(h:lq w (some ⟨b,off,none⟩) len l)(ku:getKey key l=none):
 Calls Tryz.prog 177 #[.slice (some ⟨b,off,none⟩) len cap,.string key] w fun e w'=>e=.returned (.tuple #[.int .i64 (below key l:Int),.bool false])∧Below w.heap.size w w':=by
 have hl:=h.1;have hm:=h.2.1;subst hl;unfold maxLen at hm;have OC:=uu;obtain⟨r,hr⟩:∃r,below key l=r:=⟨_,rfl⟩;have aW:=nF ku;clear ku;rw[hr];have HR:=Hid.mk' hr;clear hr;go_enter Tryz.func177,Tryz.ntmps177;go_wp2_with fail;go_loopw [12] (fun i wr=>∃k:Nat,k≤l.length∧i=.int .i64 (k:Int)∧Below w.heap.size w wr) (fun i _=>l.length - (intOf i).toNat)
 case atStart=>exact⟨0,Nat.zero_le _,rfl,Below.refl _ _⟩
 case round=>
  obtain⟨k,hk,rfl,hB⟩:=hrel;by_cases a6:k<l.length
  · obtain⟨c1,c2⟩:=(h.below hB).cells k a6;have fL:(k:Int)<(l.length:Int):=by omega
    have hq:=dP (aW k a6);clear aW;generalize l[k]=p at *;go_wp2_with fail;refine(qH p _).mono ?_;rintro e w2 ⟨rfl,rfl⟩;go_wp2_with fail;go_roundw
    case rel=>exact⟨k+1,by omega,by go_num,IF hB _ _⟩
    case measure=>simp[intOf]; omega
  · have IG:=hB;clear hB;go_wp2_with fail;go_loopw [26] (fun i wr=>∃k:Nat,k≤l.length∧i=.int .i64 (k:Int)∧k+below key (l.drop k)=r∧Below w.heap.size w wr) (fun i _=>l.length - (intOf i).toNat)
    case atStart=>exact⟨0,Nat.zero_le _,rfl,by rw[List.drop_zero,HR.out]; omega,IG⟩
    case round=>
     clear IG a6 hk;obtain⟨k,hk,rfl,hr,hB⟩:=hrel;by_cases a6:k<l.length
     · obtain⟨c1,c2⟩:=(h.below hB).cells k a6;have fL:(k:Int)<(l.length:Int):=by omega
       have cc:=pN key l k a6;cases hL:kt key l[k].1
       · have HF:Hid (k+1+below key (l.drop (k+1))=r):=by
          show _=_;rw[hL] at cc; simp at cc; omega
         have jh:Op.bytesLess l[k].1.toList key.toList=true:=by rw[oH (aW k a6),show Op.bytesLess key.toList l[k].1.toList=false from hL]; rfl
         clear cc hr hL aW;generalize l[k]=p at *;go_wp2_with fail;refine(qH p _).mono ?_;rintro e w2 ⟨rfl,rfl⟩;go_wp2_with fail;go_roundw
         case rel=>exact⟨k+1,by omega,by go_num,HF.out,IF hB _ _⟩
         case measure=>simp[intOf]; omega
       · have HF:Hid (k=r):=by
          show _=_;rw[hL] at cc; simp at cc; omega
         have jh:Op.bytesLess l[k].1.toList key.toList=false:=by rw[oH (aW k a6),show Op.bytesLess key.toList l[k].1.toList=true from hL]; rfl
         have hq:=dP (aW k a6);clear cc hr hL aW;generalize l[k]=p at *;go_wp2_with fail;refine(qH p _).mono ?_;rintro e w2 ⟨rfl,rfl⟩;go_wp2_with fail;obtain rfl:=HF.out;go_ret2;exact⟨rfl,IF hB _ _⟩
     · have HF:Hid (l.length=r):=by
        show _=_;rw[List.drop_eq_nil_of_le (by omega)] at hr; simp[below] at hr; omega
       clear hr aW;go_wp2_with fail;obtain rfl:=HF.out;go_ret2;exact⟨rfl,hB⟩
theorem qI{key:ByteArray}{l:List Pr}{v:ByteArray}(h:getKey key l=some v):∃n,∃hn:n<l.length,l[n].1=key∧l[n].2=v∧getKey key (l.take n)=none:=by
 induction l with
 | nil=>cases h
 | cons p l ih=>
  rw[getKey] at h;by_cases hp:p.1=key
  · rw[if_pos hp] at h;exact⟨0,by simp,hp,by simpa using h,rfl⟩
  · rw[if_neg hp] at h;obtain⟨n,hn,h1,h2,h3⟩:=ih h;refine⟨n+1,by simp; omega,by simpa using h1,by simpa using h2,?_⟩
    rw[List.take_succ_cons,getKey,if_neg hp];exact h3
theorem Aj(b off len cap:Nat)(l:List Pr)(key:ByteArray)(w:World)(h:lq w (some ⟨b,off,none⟩) len l):
 Calls Tryz.prog 186 #[.slice (some ⟨b,off,none⟩) len cap,.string key] w fun e w'=>e=.returned (rI (getKey key l))∧Below w.heap.size w w':=by
 cases hg:getKey key l with
 | none=>
  have HP:=Hid.mk' (uv b off len cap l key w h hg);clear hg;go_enter Tryz.func186,Tryz.ntmps186;go_wp2_with fail;refine HP.out.mono ?_;rintro e w2 ⟨rfl,hb⟩;go_wp2_with fail;go_ret2;exact⟨rfl,hb⟩
 | some v=>
  obtain⟨n,hn,h1,h2,h3⟩:=qI hg;have HP:=Hid.mk' (sG b off len cap l key w h n hn h1 h3);have hl:=h.1;have hm:=h.2.1;unfold maxLen at hm;subst hl h2;clear hg h1 h3;have hni:(n:Int)<(l.length:Int):=by omega
  go_enter Tryz.func186,Tryz.ntmps186;go_wp2_with fail;refine HP.out.mono ?_;rintro e w2 ⟨rfl,hb⟩;have c2:=((h.below hb).cells n hn).2;go_wp2_with fail;go_ret2;exact⟨rfl,hb⟩
end av
namespace av
open Go Go.RowKit base
theorem uw(w w':World)(x y:ByteArray)(hB:Below (w.alloc (.cells #[.string x,.string y] 100)).heap.size (w.alloc (.cells #[.string x,.string y] 100)) w'):
 w'.cell? ⟨w.heap.size,0,none⟩=some (.string x)∧w'.cell? ⟨w.heap.size,1,none⟩=some (.string y):=by
 have a6:w.heap.size<(w.alloc (.cells #[.string x,.string y] 100)).heap.size:=by simp
 refine⟨(hB.cell (p:=⟨w.heap.size,0,none⟩) a6).trans ?_,(hB.cell (p:=⟨w.heap.size,1,none⟩) a6).trans ?_⟩
 · simp
 · simp
theorem IH(b off cap:Nat)(l:List Pr)(key val:ByteArray)(w:World)(h:lq w (some ⟨b,off,none⟩) l.length l)(CG:l.length≤cap)(iO:l.length≤1099511627776)(dG:key.size≤maxLen)(jC:val.size≤maxLen)
 (k:Nat) (hk:k≤l.length)
 (HP:Hid (∀wx,lq wx (some ⟨b,off,none⟩) l.length l→Calls Tryz.prog 177 #[.slice (some ⟨b,off,none⟩) l.length cap,.string key] wx fun e w'=>e=.returned (.tuple #[.int .i64 (k:Int),.bool false])∧Below wx.heap.size wx w')):
 Calls Tryz.prog 154 #[.slice (some ⟨b,off,none⟩) l.length cap,.agg #[.string key,.string val]] w fun e w'=>
  ∃g' n' aO,e=.returned (.slice (some ⟨g',0,none⟩) n' aO)∧bJ w' w.heap.size g' n' aO (l.take k++(key,val)::l.drop k)∧Below w.heap.size w w':=by
 obtain⟨i0,jG,dm,dk,cA⟩:=info_parts mW;have eW:=h.2.2.1;have OC:=uu;have OD:Below w.heap.size w (w.alloc (.cells #[.string key,.string val] 100)):=(Below.refl _ _).alloc (Nat.le_refl _) _;have OE:Below (w.alloc (.cells #[.string key,.string val] 100)).heap.size (w.alloc (.cells #[.string key,.string val] 100)) ((w.alloc (.cells #[.string key,.string val] 100)).alloc (.cells #[.string key,.string val] 100)):=(Below.refl _ _).alloc (Nat.le_refl _) _;have HA:=Hid.mk' (HP.out _ ((h.below OD).below OE));have gT:=Hid.mk' OD;have OG:=Hid.mk' OE;clear OD OE HP;go_enter Tryz.func154,Tryz.ntmps154;go_wp2_with fail;refine(qH (key,val) _).mono ?_;rintro e w2 ⟨rfl,rfl⟩;go_wp2_with fail;refine HA.out.mono ?_;rintro e w3 ⟨rfl,dt⟩;have cJ:Below (w.alloc (.cells #[.string key,.string val] 100)).heap.size (w.alloc (.cells #[.string key,.string val] 100)) w3:=OG.out.trans (dt.mono OG.out.size)
 obtain⟨base,iM⟩:∃base,(w.alloc (.cells #[.string key,.string val] 100)).heap.size=base:=⟨_,rfl⟩;have nt:w.heap.size≤base:=by rw[←iM]; exact gT.out.size
 have II:=fun wx hx=>uw w wx key val (iM ▸ hx)
 have CO:base≤w3.heap.size:=by rw[←iM]; exact cJ.size
 rw[iM] at cJ;have ux:Hid (∀wx,Below base (w.alloc (.cells #[.string key,.string val] 100)) wx→Below w.heap.size w wx):=fun wx hx=>gT.out.trans (hx.mono nt)
 have IJ:=Hid.mk' II;clear dt OG gT HA iM II;have Fk:=h.below (ux.out _ cJ);obtain⟨c,hc⟩:∃c:Nat,l.length+1=c:=⟨_,rfl⟩;have VM:(l.length:Int)+1=(c:Int):=by omega
 have IK:c≤maxLen:=by unfold maxLen; omega
 have IL:i0.bytes * c≤281474976710656:=by rw[cA]; omega
 go_wp2_with (at_make; refine wpList_make_own _ rfl _ _ 204 rfl base 100 i0 (.agg #[.string ⟨#[]⟩,.string ⟨#[]⟩]) 2 Tryz.underlying204 jG dm dk _ _ _ c rfl rfl (by omega) IL IK CO ?_)
 intro w4 aB az;have dT:bJ w4 base w3.heap.size 0 c []:=⟨rfl,fun s h=>absurd h List.not_mem_nil,aB⟩
 have ej:=cJ.grown az CO (fun k e=>by cases e)
 have CP:base≤w4.heap.size:=Nat.le_trans CO az.size;have RO:=Hid.mk' (cM (kF (h.below (ux.out _ ej)).cells k));have Ft:(aw (l.take k)).length=k * 2:=by rw[bo,List.length_take_of_le (by omega)]
 have Ix:0+k≤maxLen:=by unfold maxLen; omega
 have Iy:(0+k) * 32≤140737488355328:=by omega
 have VB:(k:Int)≤(cap:Int):=by omega
 have kH:=dT.2.2;clear aB az cJ Fk IK IL VM;go_wp2_with (at_builtin; refine wpList_append_own _ rfl (.tmp 25) (.tmp 28) 204 rfl base 100 i0 (.agg #[.string ⟨#[]⟩,.string ⟨#[]⟩]) 2 32 Tryz.underlying204 jG dm dk cA rfl (by decide) _ _ _ rfl kH ⟨b,off,none⟩ k cap (aw (l.take k)) rfl Ft RO.out (aF _) Ix Iy CP ?_)
 intro v5 w5 aB az cN;have bY:¬v5=.slice none 0 0:=by simpa using cN
 obtain⟨g5,VN,hv,eh⟩:=df (l:=l.take k) (n:=k) (List.length_take_of_le (by omega)) (mv eW k) bY (by simpa[aw] using aB)
 subst hv;have ec:=ej.grown az CP (fun k e=>by simp[Value.ownBlock] at e; have:=dT.lt; omega)
 have yA:base≤w5.heap.size:=Nat.le_trans CP az.size;obtain⟨Y_,Za⟩:=IJ.out _ ec;have Fi:k+1≤maxLen:=by unfold maxLen; omega
 have Fj:(k+1) * 32≤140737488355328:=by omega
 clear aB az cN bY kH dT ej RO Ft Ix Iy IJ;go_wp2_with (at_builtin; refine wpList_append_own _ rfl (.tmp 30) (.tmp 32) 204 rfl base 100 i0 (.agg #[.string ⟨#[]⟩,.string ⟨#[]⟩]) 2 32 Tryz.underlying204 jG dm dk cA rfl (by decide) _ _ _ rfl (eh.2.2.alloc _) ⟨w5.heap.size,0,none⟩ 1 1 (aw [(key,val)]) rfl rfl (dQ _ (key,val) _) (aF _) Fi Fj (aI _ _ yA) ?_)
 intro v6 w6 aB az cN;obtain⟨g6,VO,hv,dV⟩:=lJ eh.1 eh.2.1 ⟨dG,jC⟩ cN aB;subst hv;have iE:=(ec.alloc yA _).grown az (aI _ _ yA) (fun k e=>by simp[Value.ownBlock] at e; have:=eh.lt; omega)
 have yB:base≤w6.heap.size:=Nat.le_trans (aI _ _ yA) az.size;have OH:=h.below (ux.out _ iE);have zz:k+1+(l.length - (k))≤maxLen:=by unfold maxLen; omega
 have Ep:(k+1+(l.length - (k))) * 32≤140737488355328:=by omega
 have RP:(aw (l.drop (k))).length=(l.length - (k)) * 2:=by rw[bo,List.length_drop]
 clear aB az cN eh ec Fi Fj;by_cases Iz:cap=k
 · have OI:Hid (∀j v,(aw (l.drop (k)))[j]? =some v→w6.cell? ((⟨b,off,none⟩:Addr).add j)=some v):=by
    show∀j v,_→_;intro j v hj;rw[List.drop_eq_nil_of_le (by omega)] at hj
    simp[aw] at hj
   go_wp2_with (at_builtin; refine wpList_append_own _ rfl (.tmp 34) (.tmp 37) 204 rfl base 100 i0 (.agg #[.string ⟨#[]⟩,.string ⟨#[]⟩]) 2 32 Tryz.underlying204 jG dm dk cA rfl (by decide) _ _ _ rfl dV.2.2 ⟨b,off,none⟩ (l.length - (k)) _ (aw (l.drop (k))) rfl RP OI.out (aF _) zz Ep yB ?_)
   intro v7 w7 aB az cN;have bY:¬v7=.slice none 0 0:=by simpa using cN
   rw[←cj] at aB;obtain⟨g7,CQ,hv,rJ⟩:=df (n:=k+1+(l.length - (k))) (by simp; omega) (fun q hq=>by
    rcases List.mem_append.1 hq with h1 | h1
    · exact dV.2.1 q h1
    · exact eW q (List.mem_of_mem_drop h1)) bY aB
   subst hv;have iL:=ux.out _ (iE.grown az yB (fun k e=>by simp[Value.ownBlock] at e; have:=dV.lt; omega))
   have wm:=Hid.mk' (rJ.mono nt);clear aB az cN bY rJ;go_wp2_with (at_builtin; fail)
   go_ret;refine⟨g7,_,CQ,rfl,?_,iL⟩;have:=wm.out;rw[List.append_assoc] at this;exact this
 · have OI:=Hid.mk' (cM (nG OH.cells (k)));go_wp2_with (at_builtin; refine wpList_append_own _ rfl (.tmp 34) (.tmp 37) 204 rfl base 100 i0 (.agg #[.string ⟨#[]⟩,.string ⟨#[]⟩]) 2 32 Tryz.underlying204 jG dm dk cA rfl (by decide) _ _ _ rfl dV.2.2 ⟨b,off+(k) * 2,none⟩ (l.length - (k)) _ (aw (l.drop (k))) rfl RP OI.out (aF _) zz Ep yB ?_)
   intro v7 w7 aB az cN;have bY:¬v7=.slice none 0 0:=by simpa using cN
   rw[←cj] at aB;obtain⟨g7,CQ,hv,rJ⟩:=df (n:=k+1+(l.length - (k))) (by simp; omega) (fun q hq=>by
    rcases List.mem_append.1 hq with h1 | h1
    · exact dV.2.1 q h1
    · exact eW q (List.mem_of_mem_drop h1)) bY aB
   subst hv;have iL:=ux.out _ (iE.grown az yB (fun k e=>by simp[Value.ownBlock] at e; have:=dV.lt; omega))
   have wm:=Hid.mk' (rJ.mono nt);clear aB az cN bY rJ;go_wp2_with (at_builtin; fail)
   go_ret;refine⟨g7,_,CQ,rfl,?_,iL⟩;have:=wm.out;rw[List.append_assoc] at this;exact this
theorem CR(b off cap:Nat)(l:List Pr)(key val:ByteArray)(w:World)(h:lq w (some ⟨b,off,none⟩) l.length l)(CG:l.length≤cap)(iO:l.length≤1099511627776)(dG:key.size≤maxLen)(jC:val.size≤maxLen)
 (k:Nat) (hk:k<l.length)
 (HP:Hid (∀wx,lq wx (some ⟨b,off,none⟩) l.length l→Calls Tryz.prog 177 #[.slice (some ⟨b,off,none⟩) l.length cap,.string key] wx fun e w'=>e=.returned (.tuple #[.int .i64 (k:Int),.bool true])∧Below wx.heap.size wx w')):
 Calls Tryz.prog 154 #[.slice (some ⟨b,off,none⟩) l.length cap,.agg #[.string key,.string val]] w fun e w'=>
  ∃g' n' aO,e=.returned (.slice (some ⟨g',0,none⟩) n' aO)∧bJ w' w.heap.size g' n' aO (l.take k++(key,val)::l.drop (k+1))∧Below w.heap.size w w':=by
 obtain⟨i0,jG,dm,dk,cA⟩:=info_parts mW;have eW:=h.2.2.1;have OC:=uu;have OD:Below w.heap.size w (w.alloc (.cells #[.string key,.string val] 100)):=(Below.refl _ _).alloc (Nat.le_refl _) _;have OE:Below (w.alloc (.cells #[.string key,.string val] 100)).heap.size (w.alloc (.cells #[.string key,.string val] 100)) ((w.alloc (.cells #[.string key,.string val] 100)).alloc (.cells #[.string key,.string val] 100)):=(Below.refl _ _).alloc (Nat.le_refl _) _;have HA:=Hid.mk' (HP.out _ ((h.below OD).below OE));have gT:=Hid.mk' OD;have OG:=Hid.mk' OE;clear OD OE HP;go_enter Tryz.func154,Tryz.ntmps154;go_wp2_with fail;refine(qH (key,val) _).mono ?_;rintro e w2 ⟨rfl,rfl⟩;go_wp2_with fail;refine HA.out.mono ?_;rintro e w3 ⟨rfl,dt⟩;have cJ:Below (w.alloc (.cells #[.string key,.string val] 100)).heap.size (w.alloc (.cells #[.string key,.string val] 100)) w3:=OG.out.trans (dt.mono OG.out.size)
 obtain⟨base,iM⟩:∃base,(w.alloc (.cells #[.string key,.string val] 100)).heap.size=base:=⟨_,rfl⟩;have nt:w.heap.size≤base:=by rw[←iM]; exact gT.out.size
 have II:=fun wx hx=>uw w wx key val (iM ▸ hx)
 have CO:base≤w3.heap.size:=by rw[←iM]; exact cJ.size
 rw[iM] at cJ;have ux:Hid (∀wx,Below base (w.alloc (.cells #[.string key,.string val] 100)) wx→Below w.heap.size w wx):=fun wx hx=>gT.out.trans (hx.mono nt)
 have IJ:=Hid.mk' II;clear dt OG gT HA iM II;have Fk:=h.below (ux.out _ cJ);obtain⟨c,hc⟩:∃c:Nat,l.length+1=c:=⟨_,rfl⟩;have VM:(l.length:Int)+1=(c:Int):=by omega
 have IK:c≤maxLen:=by unfold maxLen; omega
 have IL:i0.bytes * c≤281474976710656:=by rw[cA]; omega
 go_wp2_with (at_make; refine wpList_make_own _ rfl _ _ 204 rfl base 100 i0 (.agg #[.string ⟨#[]⟩,.string ⟨#[]⟩]) 2 Tryz.underlying204 jG dm dk _ _ _ c rfl rfl (by omega) IL IK CO ?_)
 intro w4 aB az;have dT:bJ w4 base w3.heap.size 0 c []:=⟨rfl,fun s h=>absurd h List.not_mem_nil,aB⟩
 have ej:=cJ.grown az CO (fun k e=>by cases e)
 have CP:base≤w4.heap.size:=Nat.le_trans CO az.size;have RO:=Hid.mk' (cM (kF (h.below (ux.out _ ej)).cells k));have Ft:(aw (l.take k)).length=k * 2:=by rw[bo,List.length_take_of_le (by omega)]
 have Ix:0+k≤maxLen:=by unfold maxLen; omega
 have Iy:(0+k) * 32≤140737488355328:=by omega
 have VB:(k:Int)≤(cap:Int):=by omega
 have kH:=dT.2.2;clear aB az cJ Fk IK IL VM;go_wp2_with (at_builtin; refine wpList_append_own _ rfl (.tmp 25) (.tmp 28) 204 rfl base 100 i0 (.agg #[.string ⟨#[]⟩,.string ⟨#[]⟩]) 2 32 Tryz.underlying204 jG dm dk cA rfl (by decide) _ _ _ rfl kH ⟨b,off,none⟩ k cap (aw (l.take k)) rfl Ft RO.out (aF _) Ix Iy CP ?_)
 intro v5 w5 aB az cN;have bY:¬v5=.slice none 0 0:=by simpa using cN
 obtain⟨g5,VN,hv,eh⟩:=df (l:=l.take k) (n:=k) (List.length_take_of_le (by omega)) (mv eW k) bY (by simpa[aw] using aB)
 subst hv;have ec:=ej.grown az CP (fun k e=>by simp[Value.ownBlock] at e; have:=dT.lt; omega)
 have yA:base≤w5.heap.size:=Nat.le_trans CP az.size;obtain⟨Y_,Za⟩:=IJ.out _ ec;have Fi:k+1≤maxLen:=by unfold maxLen; omega
 have Fj:(k+1) * 32≤140737488355328:=by omega
 clear aB az cN bY kH dT ej RO Ft Ix Iy IJ;go_wp2_with (at_builtin; refine wpList_append_own _ rfl (.tmp 30) (.tmp 32) 204 rfl base 100 i0 (.agg #[.string ⟨#[]⟩,.string ⟨#[]⟩]) 2 32 Tryz.underlying204 jG dm dk cA rfl (by decide) _ _ _ rfl (eh.2.2.alloc _) ⟨w5.heap.size,0,none⟩ 1 1 (aw [(key,val)]) rfl rfl (dQ _ (key,val) _) (aF _) Fi Fj (aI _ _ yA) ?_)
 intro v6 w6 aB az cN;obtain⟨g6,VO,hv,dV⟩:=lJ eh.1 eh.2.1 ⟨dG,jC⟩ cN aB;subst hv;have iE:=(ec.alloc yA _).grown az (aI _ _ yA) (fun k e=>by simp[Value.ownBlock] at e; have:=eh.lt; omega)
 have yB:base≤w6.heap.size:=Nat.le_trans (aI _ _ yA) az.size;have OH:=h.below (ux.out _ iE);have zz:k+1+(l.length - (k+1))≤maxLen:=by unfold maxLen; omega
 have Ep:(k+1+(l.length - (k+1))) * 32≤140737488355328:=by omega
 have RP:(aw (l.drop (k+1))).length=(l.length - (k+1)) * 2:=by rw[bo,List.length_drop]
 clear aB az cN eh ec Fi Fj;by_cases Iz:cap=k+1
 · have OI:Hid (∀j v,(aw (l.drop (k+1)))[j]? =some v→w6.cell? ((⟨b,off,none⟩:Addr).add j)=some v):=by
    show∀j v,_→_;intro j v hj;rw[List.drop_eq_nil_of_le (by omega)] at hj
    simp[aw] at hj
   have pf:(k:Int)+1≤(l.length:Int):=by omega
   have dn:(k:Int)+1≤(cap:Int):=by omega
   have cC:((k:Int)+1).toNat=k+1:=by omega
   go_wp2_with (at_builtin; refine wpList_append_own _ rfl (.tmp 34) (.tmp 37) 204 rfl base 100 i0 (.agg #[.string ⟨#[]⟩,.string ⟨#[]⟩]) 2 32 Tryz.underlying204 jG dm dk cA rfl (by decide) _ _ _ rfl dV.2.2 ⟨b,off,none⟩ (l.length - (k+1)) _ (aw (l.drop (k+1))) rfl RP OI.out (aF _) zz Ep yB ?_)
   intro v7 w7 aB az cN;have bY:¬v7=.slice none 0 0:=by simpa using cN
   rw[←cj] at aB;obtain⟨g7,CQ,hv,rJ⟩:=df (n:=k+1+(l.length - (k+1))) (by simp; omega) (fun q hq=>by
    rcases List.mem_append.1 hq with h1 | h1
    · exact dV.2.1 q h1
    · exact eW q (List.mem_of_mem_drop h1)) bY aB
   subst hv;have iL:=ux.out _ (iE.grown az yB (fun k e=>by simp[Value.ownBlock] at e; have:=dV.lt; omega))
   have wm:=Hid.mk' (rJ.mono nt);clear aB az cN bY rJ;go_wp2_with (at_builtin; fail)
   go_ret;refine⟨g7,_,CQ,rfl,?_,iL⟩;have:=wm.out;rw[List.append_assoc] at this;exact this
 · have OI:=Hid.mk' (cM (nG OH.cells (k+1)));have pf:(k:Int)+1≤(l.length:Int):=by omega
   have dn:(k:Int)+1≤(cap:Int):=by omega
   have cC:((k:Int)+1).toNat=k+1:=by omega
   go_wp2_with (at_builtin; refine wpList_append_own _ rfl (.tmp 34) (.tmp 37) 204 rfl base 100 i0 (.agg #[.string ⟨#[]⟩,.string ⟨#[]⟩]) 2 32 Tryz.underlying204 jG dm dk cA rfl (by decide) _ _ _ rfl dV.2.2 ⟨b,off+(k+1) * 2,none⟩ (l.length - (k+1)) _ (aw (l.drop (k+1))) rfl RP OI.out (aF _) zz Ep yB ?_)
   intro v7 w7 aB az cN;have bY:¬v7=.slice none 0 0:=by simpa using cN
   rw[←cj] at aB;obtain⟨g7,CQ,hv,rJ⟩:=df (n:=k+1+(l.length - (k+1))) (by simp; omega) (fun q hq=>by
    rcases List.mem_append.1 hq with h1 | h1
    · exact dV.2.1 q h1
    · exact eW q (List.mem_of_mem_drop h1)) bY aB
   subst hv;have iL:=ux.out _ (iE.grown az yB (fun k e=>by simp[Value.ownBlock] at e; have:=dV.lt; omega))
   have wm:=Hid.mk' (rJ.mono nt);clear aB az cN bY rJ;go_wp2_with (at_builtin; fail)
   go_ret;refine⟨g7,_,CQ,rfl,?_,iL⟩;have:=wm.out;rw[List.append_assoc] at this;exact this
theorem Ak(b off len cap:Nat)(l:List Pr)(key val:ByteArray)(w:World)(h:lq w (some ⟨b,off,none⟩) len l)(CG:len≤cap)(iO:len≤1099511627776)(dG:key.size≤maxLen)(jC:val.size≤maxLen):
 Calls Tryz.prog 117 #[.slice (some ⟨b,off,none⟩) len cap,.string key,.string val] w fun e w'=>
  ∃g' n' aO,e=.returned (.slice (some ⟨g',0,none⟩) n' aO)∧bJ w' w.heap.size g' n' aO (putKey key val l)∧Below w.heap.size w w':=by
 have hl:=h.1;subst hl;have HW:Hid (Calls Tryz.prog 154 #[.slice (some ⟨b,off,none⟩) l.length cap,.agg #[.string key,.string val]] w fun e w'=>
  ∃g' n' aO,e=.returned (.slice (some ⟨g',0,none⟩) n' aO)∧bJ w' w.heap.size g' n' aO (putKey key val l)∧Below w.heap.size w w'):=by
  cases hg:getKey key l with
  | none=>
   rw[Eo hg];exact IH b off cap l key val w h CG iO dG jC (below key l) (ua key l) (Hid.mk' fun wx hx=>uv b off _ cap l key wx hx hg)
  | some v=>
   obtain⟨n,hn,h1,h2,h3⟩:=qI hg;rw[xg n hn h1 h3,List.set_eq_take_append_cons_drop,if_pos hn,h1];exact CR b off cap l key val w h CG iO dG jC n hn (Hid.mk' fun wx hx=>sG b off _ cap l key wx hx n hn h1 h3)
 go_enter Tryz.func117,Tryz.ntmps117;go_wp2_with fail;refine HW.out.mono ?_;rintro e w2 ⟨g,n,cp,rfl,hO,hB⟩;have HO:=Hid.mk' hO;clear hO;go_wp2_with fail;go_ret;exact⟨g,n,cp,rfl,HO.out,hB⟩
end av
end Go.Proofs.YtmibabclefgljaaGreat
