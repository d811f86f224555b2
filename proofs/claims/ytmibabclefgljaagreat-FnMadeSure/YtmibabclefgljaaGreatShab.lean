/- OrdMath PairRow OrdRow PadMath ShaMath RecMath RecRow -/
import Derived.Test.YtmibabclefgljaaGreatShaa
import Derived.OwnWalk
set_option linter.unusedVariables false
set_option linter.unusedSimpArgs false
namespace Go.Proofs.YtmibabclefgljaaGreat
namespace aX
open Go Go.RowKit base aE qd oX mL oW nT ub
abbrev Od:=Int × ByteArray × ByteArray
def dU(o:Od):Bool:=decide (1≤o.1∧o.1≤3) && (decide (o.1≠2) || decide (o.2.2.size=0)) && gS o.2.1 && decide (o.2.2.size≤20)
def dp:Option ByteArray→List Od→Bool
 | _,[]=>true
 | none,o::l=>dU o && dp (some o.2.1) l
 | some k,o::l=>dU o && kN k o.2.1 && dp (some o.2.1) l
def b_(l:List Od):Bool:=dp none l && decide (1≤l.length∧l.length≤8)
def EB(m:List Pr)(o:Od):Bool:=decide (o.1≠3) || match getKey o.2.1 m with | none=>decide (o.2.2.size=0) | some v=>decide (o.2.2.size≠0) && decide (v=o.2.2)
def meets(m:List Pr)(l:List Od):Bool:=l.all (EB m)
def jh(m:List Pr)(o:Od):List Pr:=if o.1=1 then putKey o.2.1 o.2.2 m else if o.1=2 then delKey o.2.1 m else m
def aQ(m:List Pr)(l:List Od):List Pr:=l.foldl jh m
def bA(key:ByteArray)(n:Int):Int:=if n<1 then 0 else(fG key.data.toList:Int) % n
def ec(s n:Int)(l:List Od):List Od:=l.filter fun o=>decide (bA o.2.1 n=s)
def fj(l:List Int)(n:Int):List Int:=if n∈l then l else l.filter (fun x=>decide (x<n))++n::l.filter (fun x=>decide (n<x))
def aM(n:Int)(l:List Od):List Int:=l.foldl (fun u o=>fj u (bA o.2.1 n)) []
/-! ### orders that are right -/
def sO(l:List Od):Prop:=l.Pairwise fun p q=>kN p.2.1 q.2.1=true
theorem Am(o:Option ByteArray)(l:List Od):dp o l=true↔(∀p∈l,dU p=true)∧sO l∧∀k,o=some k→∀p∈l,kN k p.2.1=true:=by
 induction l generalizing o with
 | nil=>simp[dp,sO]
 | cons p l ih=>
  have hi:=ih (some p.2.1);unfold sO at hi ⊢;rw[List.pairwise_cons];cases o with
  | none=>
   simp only[dp,Bool.and_eq_true,hi,List.mem_cons,forall_eq_or_imp];constructor
   · rintro⟨h1,h2,h3,h4⟩;exact⟨⟨h1,h2⟩,⟨h4 _ rfl,h3⟩,fun k e=>by cases e⟩
   · rintro⟨⟨h1,h2⟩,⟨h3,h4⟩,_⟩;exact⟨h1,h2,h4,fun k e q hq=>by cases e; exact h3 q hq⟩
  | some k0=>
   simp only[dp,Bool.and_eq_true,hi,List.mem_cons,forall_eq_or_imp];constructor
   · rintro⟨⟨h1,h0⟩,h2,h3,h4⟩;refine⟨⟨h1,h2⟩,⟨h4 _ rfl,h3⟩,fun k e=>?_⟩
     cases e;exact⟨h0,fun q hq=>lZ h0 (h4 _ rfl q hq)⟩
   · rintro⟨⟨h1,h2⟩,⟨h3,h4⟩,h5⟩;exact⟨⟨h1,(h5 k0 rfl).1⟩,h2,h4,fun k e q hq=>by cases e; exact h3 q hq⟩
theorem bG(l:List Od):b_ l=true↔((∀p∈l,dU p=true)∧sO l)∧1≤l.length∧l.length≤8:=by
 unfold b_;rw[Bool.and_eq_true,Am,decide_eq_true_iff];constructor
 · rintro⟨⟨h1,h2,_⟩,h3⟩; exact⟨⟨h1,h2⟩,h3⟩
 · rintro⟨⟨h1,h2⟩,h3⟩; exact⟨⟨h1,h2,fun k e=>by cases e⟩,h3⟩
theorem kh(o:Od):dU o=true↔(1≤o.1∧o.1≤3)∧(o.1=2→o.2.2.size=0)∧gS o.2.1=true∧o.2.2.size≤20:=by
 unfold dU;simp only[Bool.and_eq_true,Bool.or_eq_true,decide_eq_true_iff];constructor
 · rintro⟨⟨⟨h1,h2⟩,h3⟩,h4⟩;exact⟨h1,fun e=>by rcases h2 with h | h; exact absurd e h; exact h,h3,h4⟩
 · rintro⟨h1,h2,h3,h4⟩;exact⟨⟨⟨h1,by by_cases e:o.1=2; exact .inr (h2 e); exact .inl e⟩,h3⟩,h4⟩
theorem qe{s:ByteArray}(h:gS s=true):1≤s.size∧s.size≤12:=by
 unfold gS at h;simp at h;exact h.2
/-! ### bytes of numbers and texts, read -/
/-! ### orders come back of their bytes -/
/-! ### behind orders -/
theorem CQ(m:List Pr)(o:Od)(l:List Od):aQ m (o::l)=aQ (jh m o) l:=rfl
theorem qf(m:List Pr)(l:List Od)(k:Nat)(h:k<l.length):aQ m (l.take (k+1))=jh (aQ m (l.take k)) l[k]:=by
 unfold aQ;rw[List.take_succ_eq_append_getElem h,List.foldl_append];rfl
/-! ### shards -/
def tJ(l:List Int):Prop:=l.Pairwise (· < ·)
theorem uA(l:List Int)(n x:Int):x∈fj l n↔x∈l∨x=n:=by
 unfold fj
 split
 · next h=>
   constructor
   · exact .inl
   · rintro(h1 | rfl)
     · exact h1
     · exact h
 · next h=>
   simp only[List.mem_append,List.mem_filter,List.mem_cons,decide_eq_true_iff];constructor
   · rintro(h1 | rfl | h1)
     · exact .inl h1.1
     · exact .inr rfl
     · exact .inl h1.1
   · rintro(h1 | rfl)
     · have bh:x≠n:=fun e=>h (e ▸ h1)
       rcases Int.lt_or_gt_of_ne bh with h2 | h2
       · exact .inl ⟨h1,h2⟩
       · exact .inr (.inr ⟨h1,h2⟩)
     · exact .inr (.inl rfl)
theorem An{l:List Int}(h:tJ l)(n:Int):tJ (fj l n):=by
 unfold fj
 split
 · exact h
 · unfold tJ at h ⊢;rw[List.pairwise_append,List.pairwise_cons];refine⟨h.filter _,⟨fun x hx=>by simpa using (List.mem_filter.1 hx).2,h.filter _⟩,fun a ha b hb=>?_⟩
   have h1:a<n:=by simpa using (List.mem_filter.1 ha).2
   rcases List.mem_cons.1 hb with rfl | hb
   · exact h1
   · have h2:n<b:=by simpa using (List.mem_filter.1 hb).2
     omega
theorem sP(n:Int)(l:List Od)(u:List Int)(h:tJ u):tJ (l.foldl (fun u o=>fj u (bA o.2.1 n)) u)∧∀x,x∈l.foldl (fun u o=>fj u (bA o.2.1 n)) u↔x∈u∨∃o∈l,bA o.2.1 n=x:=by
 induction l generalizing u with
 | nil=>exact⟨h,fun x=>by simp⟩
 | cons o l ih=>
  have:=ih (fj u (bA o.2.1 n)) (An h _);refine⟨this.1,fun x=>?_⟩
  rw[List.foldl_cons,this.2 x,uA];simp only[List.mem_cons,exists_eq_or_imp];constructor
  · rintro((h1 | h1) | h1)
    · exact .inl h1
    · exact .inr (.inl h1.symm)
    · exact .inr (.inr h1)
  · rintro(h1 | h1 | h1)
    · exact .inl (.inl h1)
    · exact .inl (.inr h1.symm)
    · exact .inr h1
theorem qg(n:Int)(l:List Od):tJ (aM n l):=(sP n l [] List.Pairwise.nil).1
theorem fw(n:Int)(l:List Od)(x:Int):x∈aM n l↔∃o∈l,bA o.2.1 n=x:=by
 have:=(sP n l [] List.Pairwise.nil).2 x;simpa[aM] using this
theorem Ao(n:Int)(l:List Od)(k:Nat)(h:k<l.length):aM n (l.take (k+1))=fj (aM n (l.take k)) (bA l[k].2.1 n):=by
 unfold aM;rw[List.take_succ_eq_append_getElem h,List.foldl_append];rfl
theorem fD(key:ByteArray)(n:Int):0≤bA key n∧(0<n→bA key n<n):=by
 unfold bA
 split
 · exact⟨by omega,fun h=>by omega⟩
 · next h=>exact⟨Int.emod_nonneg _ (by omega),fun h0=>Int.emod_lt_of_pos _ h0⟩
theorem uB(key:ByteArray)(n:Int):bA key n<4294967296:=by
 unfold bA
 split
 · omega
 · next h=>
   have h1:=lW key.data.toList;have h2:=Int.emod_add_ediv_mul (fG key.data.toList:Int) n;have h3:0≤(fG key.data.toList:Int) / n * n:=Int.mul_nonneg (Int.ediv_nonneg (by omega) (by omega)) (by omega)
   omega
theorem LR{a b:List Int}(ha:tJ a)(hb:tJ b)(h:∀x,x∈a↔x∈b):a=b:=by
 induction a generalizing b with
 | nil=>
  cases b with
  | nil=>rfl
  | cons y b=>exact absurd ((h y).2 List.mem_cons_self) List.not_mem_nil
 | cons x a ih=>
  cases b with
  | nil=>exact absurd ((h x).1 List.mem_cons_self) List.not_mem_nil
  | cons y b=>
   unfold tJ at ha hb;rw[List.pairwise_cons] at ha hb;have e:x=y:=by
    rcases List.mem_cons.1 ((h x).1 List.mem_cons_self) with e | h1
    · exact e
    · rcases List.mem_cons.1 ((h y).2 List.mem_cons_self) with e | h2
      · exact e.symm
      · have:=hb.1 x h1;have:=ha.1 y h2;omega
   subst e
   congr 1
   refine ih ha.2 hb.2 fun z=>?_
   constructor
   · intro hz;rcases List.mem_cons.1 ((h z).1 (List.mem_cons_of_mem _ hz)) with e | h1
     · subst e; have:=ha.1 z hz; omega
     · exact h1
   · intro hz;rcases List.mem_cons.1 ((h z).2 (List.mem_cons_of_mem _ hz)) with e | h1
     · subst e; have:=hb.1 z hz; omega
     · exact h1
end aX
namespace aE
open Go Go.RowKit base
def small(p:Pr):Prop:=p.1.size≤maxLen∧p.2.size≤maxLen
def aG(l:List Pr):List Value:=l.flatMap fun p=>[.string p.1,.string p.2]
theorem eL(p:Pr)(l:List Pr):aG (p::l)=.string p.1:: .string p.2::aG l:=rfl
theorem cI(a b:List Pr):aG (a++b)=aG a++aG b:=by simp[aG]
theorem bD(l:List Pr):(aG l).length=l.length * 2:=by
 induction l with
 | nil=>rfl
 | cons p l ih=>rw[eL]; simp[ih]; omega
theorem qW(l:List Pr)(i:Nat)(h:i<l.length):(aG l)[i * 2]? =some (.string l[i].1):=by
 induction l generalizing i with
 | nil=>simp at h
 | cons p l ih=>
  cases i with
  | zero=>rfl
  | succ i=>rw[eL,show(i+1) * 2=i * 2+1+1 by omega]; simpa using ih i (by simpa using h)
theorem qX(l:List Pr)(i:Nat)(h:i<l.length):(aG l)[i * 2+1]? =some (.string l[i].2):=by
 induction l generalizing i with
 | nil=>simp at h
 | cons p l ih=>
  cases i with
  | zero=>rfl
  | succ i=>rw[eL,show(i+1) * 2+1=i * 2+1+1+1 by omega]; simpa using ih i (by simpa using h)
theorem aP(l:List Pr):∀v∈aG l,v.oneCell'=true:=by
 intro v hv;obtain⟨p,_,hp⟩:=List.mem_flatMap.1 hv;simp at hp;rcases hp with rfl | rfl <;> rfl
theorem tK(l:List Pr)(i:Nat)(h:i<l.length)(k:ByteArray):(aG l).set (i * 2) (.string k)=aG (l.set i (k,l[i].2)):=by
 induction l generalizing i with
 | nil=>simp at h
 | cons p l ih=>
  cases i with
  | zero=>rfl
  | succ i=>rw[eL,show(i+1) * 2=i * 2+1+1 by omega]; simp only[List.set_cons_succ,eL,List.getElem_cons_succ]; rw[ih i (by simpa using h)]
theorem tL(l:List Pr)(i:Nat)(h:i<l.length)(v:ByteArray):(aG l).set (i * 2+1) (.string v)=aG (l.set i (l[i].1,v)):=by
 induction l generalizing i with
 | nil=>simp at h
 | cons p l ih=>
  cases i with
  | zero=>rfl
  | succ i=>rw[eL,show(i+1) * 2+1=i * 2+1+1+1 by omega]; simp only[List.set_cons_succ,eL,List.getElem_cons_succ]; rw[ih i (by simpa using h)]
/-! ### slices of pairs that are read -/
def ki(w:World)(b off:Nat)(l:List Pr):Prop:=∀i (h:i<l.length),w.cell? ⟨b,off+i * 2,none⟩=some (.string l[i].1)∧w.cell? ⟨b,off+i * 2+1,none⟩=some (.string l[i].2)
def lL(w:World)(a:Option Addr)(len:Nat)(l:List Pr):Prop:=
 l.length=len∧len≤maxLen∧(∀p∈l,small p)∧(0<len→∃b off,a=some ⟨b,off,none⟩∧ki w b off l)
theorem LS(w:World)(a:Option Addr):lL w a 0 []:=⟨rfl,Nat.zero_le _,(fun _ h=>absurd h List.not_mem_nil),fun h=>absurd h (by omega)⟩
section
variable{w w':World}{a:Option Addr}{b off len base base' g n cap:Nat}{l:List Pr}{row:Option Nat}
theorem lL.cells(h:lL w (some ⟨b,off,none⟩) len l):ki w b off l:=by
 intro i hi;obtain⟨b',wJ,e,hc⟩:=h.2.2.2 (by have:=h.1; omega)
 simp only[Option.some.injEq,Addr.mk.injEq,and_true] at e;obtain⟨rfl,rfl⟩:=e;exact hc i hi
theorem lL.lt(h:lL w (some ⟨b,off,none⟩) len l)(h0:0<len):b<w.heap.size:=
 World.block_lt_of_cell? w _ (h.cells 0 (by have:=h.1; omega)).1
theorem ki.keep(h:ki w b off l)(hk:∀o v,w.cell? ⟨b,o,none⟩=some v→w'.cell? ⟨b,o,none⟩=some v):ki w' b off l:=
 fun i hi=>⟨hk _ _ (h i hi).1,hk _ _ (h i hi).2⟩
theorem lL.below(h:lL w a len l)(hb:Below w.heap.size w w'):lL w' a len l:=by
 obtain⟨h1,h2,h4,h3⟩:=h;refine⟨h1,h2,h4,fun h0=>?_⟩
 obtain⟨b,off,rfl,hc⟩:=h3 h0;exact⟨b,off,rfl,hc.keep fun o v hv=>(hb.cell (p:=⟨b,o,none⟩) (World.block_lt_of_cell? w _ hv)).trans hv⟩
theorem lL.grown(h:lL w (some ⟨b,off,none⟩) len l)(hg:w.grownBy w' row)(bh:some b≠row):lL w' (some ⟨b,off,none⟩) len l:=
 ⟨h.1,h.2.1,h.2.2.1,fun _=>⟨b,off,rfl,h.cells.keep fun o v hv=>hg.cell hv bh⟩⟩
/-! ### rows of pairs that a call made -/
def bX(w:World)(base g n cap:Nat)(l:List Pr):Prop:=l.length=n∧(∀p∈l,small p)∧w.ownsRow base 100 2 (.slice (some ⟨g,0,none⟩) n cap) n (aG l)
theorem bX.lt(h:bX w base g n cap l):base≤g∧g<w.heap.size:=h.2.2.lt g rfl
theorem bX.cases(h:bX w base g n cap l):n≤cap∧cap≤maxLen:=by
 rcases h.2.2.2 with⟨h',_⟩ | ⟨g',aY,cur,h',_,hg,h1,h2,_⟩
 · simp at h'
 · simp only[Value.slice.injEq,Option.some.injEq,Addr.mk.injEq,and_true,true_and] at h';obtain⟨rfl,rfl⟩:=h';exact⟨h1,h2⟩
theorem bX.mono(h:bX w base g n cap l)(hb:base'≤base):bX w base' g n cap l:=by
 refine⟨h.1,h.2.1,h.2.2.1,?_⟩;rcases h.2.2.2 with h' | ⟨g',aY,cur,h',h0,r⟩
 · exact .inl h'
 · exact .inr ⟨g',aY,cur,h',by omega,r⟩
theorem bX.cell(h:bX w base g n cap l):ki w g 0 l:=by
 intro i hi;have hl:=h.1;have k1:=h.2.2.cellAt (i * 2) (by omega)
 have k2:=h.2.2.cellAt (i * 2+1) (by omega)
 rw[qW l i hi] at k1;rw[qX l i hi] at k2;rw[Nat.zero_add];exact⟨k1,k2⟩
theorem bX.key(h:bX w base g n cap l)(i:Nat)(hi:i<l.length):w.cell? ⟨g,i * 2,none⟩=some (.string l[i].1):=by
 have:=(h.cell i hi).1; oU [Nat.zero_add] at this
theorem bX.val(h:bX w base g n cap l)(i:Nat)(hi:i<l.length):w.cell? ⟨g,i * 2+1,none⟩=some (.string l[i].2):=by
 have:=(h.cell i hi).2; oU [Nat.zero_add] at this
theorem bX.frozen(h:bX w base g n cap l)(i:Nat):w.frozen? ⟨g,i,none⟩=false:=h.2.2.frozenAt i
theorem bX.sl(h:bX w base g n cap l):lL w (some ⟨g,0,none⟩) n l:=
 ⟨h.1,by have:=h.cases; omega,h.2.1,fun _=>⟨g,0,rfl,h.cell⟩⟩
theorem bX.grown(h:bX w base g n cap l)(hg:w.grownBy w' row)(bh:some g≠row):bX w' base g n cap l:=
 ⟨h.1,h.2.1,h.2.2.kept hg (.inr bh)⟩
theorem bX.below(h:bX w base g n cap l)(hb:Below w.heap.size w w'):bX w' base g n cap l:=
 ⟨h.1,h.2.1,h.2.2.kept (row:=none) ⟨hb.os,hb.tape,hb.output,hb.size,fun k hk _=>hb.block k hk⟩ (.inr (by simp[Value.ownBlock]))⟩
theorem pP{i:Nat}{p:Pr}(h:∀q∈l,small q)(hp:small p):∀q∈l.set i p,small q:=by
 intro q hq;rcases List.mem_or_eq_of_mem_set hq with h1 | h1
 · exact h q h1
 · subst h1; exact hp
theorem bX.CR(h:bX w base g n cap l)(i:Nat)(hi:i<l.length)(k:ByteArray)(hk:k.size≤maxLen):
 bX (w.setCell ⟨g,i * 2,none⟩ (.string k)) base g n cap (l.set i (k,l[i].2))∧w.grownBy (w.setCell ⟨g,i * 2,none⟩ (.string k)) (some g):=by
 have hs:=h.2.2.stored (i * 2) (.string k);rw[tK l i hi] at hs;exact⟨⟨by simpa using h.1,pP h.2.1 ⟨hk,(h.2.1 _ (List.getElem_mem hi)).2⟩,hs.1⟩,hs.2⟩
theorem bX.yI(h:bX w base g n cap l)(i:Nat)(hi:i<l.length)(v:ByteArray)(hv:v.size≤maxLen):
 bX (w.setCell ⟨g,i * 2+1,none⟩ (.string v)) base g n cap (l.set i (l[i].1,v))∧w.grownBy (w.setCell ⟨g,i * 2+1,none⟩ (.string v)) (some g):=by
 have hs:=h.2.2.stored (i * 2+1) (.string v);rw[tL l i hi] at hs;exact⟨⟨by simpa using h.1,pP h.2.1 ⟨(h.2.1 _ (List.getElem_mem hi)).1,hv⟩,hs.1⟩,hs.2⟩
theorem dy{v':Value}(hl:l.length=n)(hs:∀p∈l,small p)(h0:¬v'=.slice none 0 0)
 (h:w'.ownsRow base 100 2 v' n (aG l)):∃g' aY,v'=.slice (some ⟨g',0,none⟩) n aY∧bX w' base g' n aY l:=by
 rcases h.2 with⟨h2,_⟩ | ⟨g',aY,cur,hv,_⟩
 · exact absurd h2 h0
 · subst hv;exact⟨g',aY,rfl,hl,hs,h⟩
theorem cB(w:World)(base:Nat)(hb:base≤w.heap.size):bX (w.alloc (.cells #[] 100)) base w.heap.size 0 0 []:=
 ⟨rfl,fun s h=>absurd h List.not_mem_nil,World.ownsRow_made w #[] 0 hb (Nat.zero_le _) rfl⟩
theorem da(h:ki w b off l):∀j v,(aG l)[j]? =some v→w.cell? ((⟨b,off,none⟩:Addr).add j)=some v:=by
 intro j v hj;have e7:j<l.length * 2:=by have:=(List.getElem?_eq_some_iff.1 hj).1; oU [bD] at this
 rw[Addr.add_lit];have hm:j=(j / 2) * 2∨j=(j / 2) * 2+1:=by omega
 rcases hm with e | e
 · rw[e,qW l (j / 2) (by omega)] at hj
   rw[e,←hj]; exact(h (j / 2) (by omega)).1
 · rw[e,qX l (j / 2) (by omega)] at hj
   rw[e,←hj]; exact(h (j / 2) (by omega)).2
end
theorem nt:(Tryz.prog.info? 100).map (fun i=>(i.zero,i.size,i.bytes))=some (some (.agg #[.string ⟨#[]⟩,.string ⟨#[]⟩]),2,32):=by aa
end aE
namespace aX
open Go Go.RowKit base aE
def ed(o:Od):Prop:=(Lit.int .i64 o.1).wf=true∧o.2.1.size≤maxLen∧o.2.2.size≤maxLen
def aW(l:List Od):List Value:=l.flatMap fun o=>[.int .i64 o.1,.string o.2.1,.string o.2.2]
theorem eE(o:Od)(l:List Od):aW (o::l)=.int .i64 o.1:: .string o.2.1:: .string o.2.2::aW l:=rfl
theorem uC(a b:List Od):aW (a++b)=aW a++aW b:=by simp[aW]
theorem cW(l:List Od):(aW l).length=l.length * 3:=by
 induction l with
 | nil=>rfl
 | cons o l ih=>rw[eE]; simp[ih]; omega
theorem uD(l:List Od)(i:Nat)(h:i<l.length):(aW l)[i * 3]? =some (.int .i64 l[i].1)∧(aW l)[i * 3+1]? =some (.string l[i].2.1)∧(aW l)[i * 3+2]? =some (.string l[i].2.2):=by
 induction l generalizing i with
 | nil=>simp at h
 | cons p l ih=>
  cases i with
  | zero=>exact⟨rfl,rfl,rfl⟩
  | succ i=>
   rw[eE,show(i+1) * 3=i * 3+1+1+1 by omega,show i * 3+1+1+1+1=(i * 3+1)+1+1+1 by omega,show i * 3+1+1+1+2=(i * 3+2)+1+1+1 by omega]
   simpa using ih i (by simpa using h)
theorem bM(l:List Od):∀v∈aW l,v.oneCell'=true:=by
 intro v hv;obtain⟨p,_,hp⟩:=List.mem_flatMap.1 hv;simp at hp;rcases hp with rfl | rfl | rfl <;> rfl
theorem tM(l:List Od)(i:Nat)(h:i<l.length)(z:Int):(aW l).set (i * 3) (.int .i64 z)=aW (l.set i (z,l[i].2)):=by
 induction l generalizing i with
 | nil=>simp at h
 | cons p l ih=>
  cases i with
  | zero=>rfl
  | succ i=>rw[eE,show(i+1) * 3=i * 3+1+1+1 by omega]; simp only[List.set_cons_succ,eE,List.getElem_cons_succ]; rw[ih i (by simpa using h)]
theorem uE(l:List Od)(i:Nat)(h:i<l.length)(k:ByteArray):(aW l).set (i * 3+1) (.string k)=aW (l.set i (l[i].1,k,l[i].2.2)):=by
 induction l generalizing i with
 | nil=>simp at h
 | cons p l ih=>
  cases i with
  | zero=>rfl
  | succ i=>rw[eE,show(i+1) * 3+1=i * 3+1+1+1+1 by omega]; simp only[List.set_cons_succ,eE,List.getElem_cons_succ]; rw[ih i (by simpa using h)]
theorem uF(l:List Od)(i:Nat)(h:i<l.length)(v:ByteArray):(aW l).set (i * 3+2) (.string v)=aW (l.set i (l[i].1,l[i].2.1,v)):=by
 induction l generalizing i with
 | nil=>simp at h
 | cons p l ih=>
  cases i with
  | zero=>rfl
  | succ i=>rw[eE,show(i+1) * 3+2=i * 3+2+1+1+1 by omega]; simp only[List.set_cons_succ,eE,List.getElem_cons_succ]; rw[ih i (by simpa using h)]
/-! ### slices of orders that are read -/
def nU(w:World)(b off:Nat)(l:List Od):Prop:=∀i (h:i<l.length),w.cell? ⟨b,off+i * 3,none⟩=some (.int .i64 l[i].1)∧w.cell? ⟨b,off+i * 3+1,none⟩=some (.string l[i].2.1)∧w.cell? ⟨b,off+i * 3+2,none⟩=some (.string l[i].2.2)
def dS(w:World)(a:Option Addr)(len:Nat)(l:List Od):Prop:=
 l.length=len∧len≤maxLen∧(∀p∈l,ed p)∧(0<len→∃b off,a=some ⟨b,off,none⟩∧nU w b off l)
theorem uc(w:World)(a:Option Addr):dS w a 0 []:=⟨rfl,Nat.zero_le _,(fun _ h=>absurd h List.not_mem_nil),fun h=>absurd h (by omega)⟩
section
variable{w w':World}{a:Option Addr}{b off len base base' g n cap:Nat}{l:List Od}{row:Option Nat}
theorem dS.cells(h:dS w (some ⟨b,off,none⟩) len l):nU w b off l:=by
 intro i hi;obtain⟨b',wJ,e,hc⟩:=h.2.2.2 (by have:=h.1; omega)
 simp only[Option.some.injEq,Addr.mk.injEq,and_true] at e;obtain⟨rfl,rfl⟩:=e;exact hc i hi
theorem dS.lt(h:dS w (some ⟨b,off,none⟩) len l)(h0:0<len):b<w.heap.size:=
 World.block_lt_of_cell? w _ (h.cells 0 (by have:=h.1; omega)).1
theorem nU.keep(h:nU w b off l)(hk:∀o v,w.cell? ⟨b,o,none⟩=some v→w'.cell? ⟨b,o,none⟩=some v):nU w' b off l:=
 fun i hi=>⟨hk _ _ (h i hi).1,hk _ _ (h i hi).2.1,hk _ _ (h i hi).2.2⟩
theorem dS.below(h:dS w a len l)(hb:Below w.heap.size w w'):dS w' a len l:=by
 obtain⟨h1,h2,h4,h3⟩:=h;refine⟨h1,h2,h4,fun h0=>?_⟩
 obtain⟨b,off,rfl,hc⟩:=h3 h0;exact⟨b,off,rfl,hc.keep fun o v hv=>(hb.cell (p:=⟨b,o,none⟩) (World.block_lt_of_cell? w _ hv)).trans hv⟩
theorem dS.grown(h:dS w (some ⟨b,off,none⟩) len l)(hg:w.grownBy w' row)(bh:some b≠row):dS w' (some ⟨b,off,none⟩) len l:=
 ⟨h.1,h.2.1,h.2.2.1,fun _=>⟨b,off,rfl,h.cells.keep fun o v hv=>hg.cell hv bh⟩⟩
/-! ### rows of orders that a call made -/
def ck(w:World)(base g n cap:Nat)(l:List Od):Prop:=l.length=n∧(∀p∈l,ed p)∧w.ownsRow base 121 3 (.slice (some ⟨g,0,none⟩) n cap) n (aW l)
theorem ck.lt(h:ck w base g n cap l):base≤g∧g<w.heap.size:=h.2.2.lt g rfl
theorem ck.cases(h:ck w base g n cap l):n≤cap∧cap≤maxLen:=by
 rcases h.2.2.2 with⟨h',_⟩ | ⟨g',aY,cur,h',_,hg,h1,h2,_⟩
 · simp at h'
 · simp only[Value.slice.injEq,Option.some.injEq,Addr.mk.injEq,and_true,true_and] at h';obtain⟨rfl,rfl⟩:=h';exact⟨h1,h2⟩
theorem ck.mono(h:ck w base g n cap l)(hb:base'≤base):ck w base' g n cap l:=by
 refine⟨h.1,h.2.1,h.2.2.1,?_⟩;rcases h.2.2.2 with h' | ⟨g',aY,cur,h',h0,r⟩
 · exact .inl h'
 · exact .inr ⟨g',aY,cur,h',by omega,r⟩
theorem ck.cell(h:ck w base g n cap l):nU w g 0 l:=by
 intro i hi;have hl:=h.1;have k0:=h.2.2.cellAt (i * 3) (by omega)
 have k1:=h.2.2.cellAt (i * 3+1) (by omega)
 have k2:=h.2.2.cellAt (i * 3+2) (by omega)
 obtain⟨e0,e1,e2⟩:=uD l i hi;rw[e0] at k0;rw[e1] at k1;rw[e2] at k2;rw[Nat.zero_add];exact⟨k0,k1,k2⟩
theorem ck.kind(h:ck w base g n cap l)(i:Nat)(hi:i<l.length):w.cell? ⟨g,i * 3,none⟩=some (.int .i64 l[i].1):=by
 have:=(h.cell i hi).1; oU [Nat.zero_add] at this
theorem ck.key(h:ck w base g n cap l)(i:Nat)(hi:i<l.length):w.cell? ⟨g,i * 3+1,none⟩=some (.string l[i].2.1):=by
 have:=(h.cell i hi).2.1; oU [Nat.zero_add] at this
theorem ck.val(h:ck w base g n cap l)(i:Nat)(hi:i<l.length):w.cell? ⟨g,i * 3+2,none⟩=some (.string l[i].2.2):=by
 have:=(h.cell i hi).2.2; oU [Nat.zero_add] at this
theorem ck.frozen(h:ck w base g n cap l)(i:Nat):w.frozen? ⟨g,i,none⟩=false:=h.2.2.frozenAt i
theorem ck.sl(h:ck w base g n cap l):dS w (some ⟨g,0,none⟩) n l:=
 ⟨h.1,by have:=h.cases; omega,h.2.1,fun _=>⟨g,0,rfl,h.cell⟩⟩
theorem ck.grown(h:ck w base g n cap l)(hg:w.grownBy w' row)(bh:some g≠row):ck w' base g n cap l:=
 ⟨h.1,h.2.1,h.2.2.kept hg (.inr bh)⟩
theorem ck.below(h:ck w base g n cap l)(hb:Below w.heap.size w w'):ck w' base g n cap l:=
 ⟨h.1,h.2.1,h.2.2.kept (row:=none) ⟨hb.os,hb.tape,hb.output,hb.size,fun k hk _=>hb.block k hk⟩ (.inr (by simp[Value.ownBlock]))⟩
theorem kj{i:Nat}{p:Od}(h:∀q∈l,ed q)(hp:ed p):∀q∈l.set i p,ed q:=by
 intro q hq;rcases List.mem_or_eq_of_mem_set hq with h1 | h1
 · exact h q h1
 · subst h1; exact hp
theorem ck.setKind(h:ck w base g n cap l)(i:Nat)(hi:i<l.length)(z:Int)(hz:(Lit.int .i64 z).wf=true):
 ck (w.setCell ⟨g,i * 3,none⟩ (.int .i64 z)) base g n cap (l.set i (z,l[i].2))∧w.grownBy (w.setCell ⟨g,i * 3,none⟩ (.int .i64 z)) (some g):=by
 have hs:=h.2.2.stored (i * 3) (.int .i64 z);rw[tM l i hi] at hs;exact⟨⟨by simpa using h.1,kj h.2.1 ⟨hz,(h.2.1 _ (List.getElem_mem hi)).2⟩,hs.1⟩,hs.2⟩
theorem ck.CR(h:ck w base g n cap l)(i:Nat)(hi:i<l.length)(k:ByteArray)(hk:k.size≤maxLen):
 ck (w.setCell ⟨g,i * 3+1,none⟩ (.string k)) base g n cap (l.set i (l[i].1,k,l[i].2.2))∧w.grownBy (w.setCell ⟨g,i * 3+1,none⟩ (.string k)) (some g):=by
 have hs:=h.2.2.stored (i * 3+1) (.string k);rw[uE l i hi] at hs;exact⟨⟨by simpa using h.1,kj h.2.1 ⟨(h.2.1 _ (List.getElem_mem hi)).1,hk,(h.2.1 _ (List.getElem_mem hi)).2.2⟩,hs.1⟩,hs.2⟩
theorem ck.yI(h:ck w base g n cap l)(i:Nat)(hi:i<l.length)(v:ByteArray)(hv:v.size≤maxLen):
 ck (w.setCell ⟨g,i * 3+2,none⟩ (.string v)) base g n cap (l.set i (l[i].1,l[i].2.1,v))∧w.grownBy (w.setCell ⟨g,i * 3+2,none⟩ (.string v)) (some g):=by
 have hs:=h.2.2.stored (i * 3+2) (.string v);rw[uF l i hi] at hs;exact⟨⟨by simpa using h.1,kj h.2.1 ⟨(h.2.1 _ (List.getElem_mem hi)).1,(h.2.1 _ (List.getElem_mem hi)).2.1,hv⟩,hs.1⟩,hs.2⟩
theorem ck.mM(h:ck w base g n cap l)(i:Nat)(hi:i<l.length)(z:Int)(k v:ByteArray)(hz:(Lit.int .i64 z).wf=true)(hk:k.size≤maxLen)(hv:v.size≤maxLen):
 ck (((w.setCell ⟨g,i * 3,none⟩ (.int .i64 z)).setCell ⟨g,i * 3+1,none⟩ (.string k)).setCell ⟨g,i * 3+2,none⟩ (.string v)) base g n cap (l.set i (z,k,v))∧w.grownBy (((w.setCell ⟨g,i * 3,none⟩ (.int .i64 z)).setCell ⟨g,i * 3+1,none⟩ (.string k)).setCell ⟨g,i * 3+2,none⟩ (.string v)) (some g):=by
 have h0:=h.setKind i hi z hz;have h1:=h0.1.CR i (by simpa using hi) k hk
 have h2:=h1.1.yI i (by simpa using hi) v hv
 simp only[List.getElem_set_self,List.set_set] at h2;simp only[List.getElem_set_self,List.set_set] at h1;exact⟨h2.1,az (az h0.2 h1.2) h2.2⟩
theorem uG{v':Value}(hl:l.length=n)(hs:∀p∈l,ed p)(h0:¬v'=.slice none 0 0)
 (h:w'.ownsRow base 121 3 v' n (aW l)):∃g' aY,v'=.slice (some ⟨g',0,none⟩) n aY∧ck w' base g' n aY l:=by
 rcases h.2 with⟨h2,_⟩ | ⟨g',aY,cur,hv,_⟩
 · exact absurd h2 h0
 · subst hv;exact⟨g',aY,rfl,hl,hs,h⟩
theorem l0(w:World)(base:Nat)(hb:base≤w.heap.size):ck (w.alloc (.cells #[] 121)) base w.heap.size 0 0 []:=
 ⟨rfl,fun s h=>absurd h List.not_mem_nil,World.ownsRow_made w #[] 0 hb (Nat.zero_le _) rfl⟩
theorem qh(h:nU w b off l):∀j v,(aW l)[j]? =some v→w.cell? ((⟨b,off,none⟩:Addr).add j)=some v:=by
 intro j v hj;have e7:j<l.length * 3:=by have:=(List.getElem?_eq_some_iff.1 hj).1; oU [cW] at this
 rw[Addr.add_lit];obtain⟨e0,e1,e2⟩:=uD l (j / 3) (by omega)
 have hc:=h (j / 3) (by omega)
 have hm:j=(j / 3) * 3∨j=(j / 3) * 3+1∨j=(j / 3) * 3+2:=by omega
 rcases hm with e | e | e
 · rw[e,e0] at hj;rw[e,←hj]; exact hc.1
 · rw[e,e1] at hj;rw[e,←hj]; exact hc.2.1
 · rw[e,e2] at hj;rw[e,←hj]; exact hc.2.2
end
theorem sQ:(Tryz.prog.info? 121).map (fun i=>(i.zero,i.size,i.bytes))=some (some (.agg #[.int .i64 0,.string ⟨#[]⟩,.string ⟨#[]⟩]),3,40):=by aa
end aX
namespace EC
open Go.RowKit base
end EC
namespace sha
open Go.RowKit base EC
def wL(n x:Nat):Nat:=(x / 2 ^ n) ||| (x * 2 ^ (32 - n) % 4294967296)
def RO(x:Nat):Nat:=wL 7 x ^^^ wL 18 x ^^^ x / 8
def RP(x:Nat):Nat:=wL 17 x ^^^ wL 19 x ^^^ x / 1024
def RQ(x:Nat):Nat:=wL 2 x ^^^ wL 13 x ^^^ wL 22 x
def RR(x:Nat):Nat:=wL 6 x ^^^ wL 11 x ^^^ wL 25 x
def ch(e f g:Nat):Nat:=(e &&& f) ^^^ ((4294967295 ^^^ e) &&& g)
def maj(a b c:Nat):Nat:=(a &&& b) ^^^ (a &&& c) ^^^ (b &&& c)
def VL(bs:List UInt8)(i:Nat):Nat:=(bs.getD (4 * i) 0).toNat * 16777216+(bs.getD (4 * i+1) 0).toNat * 65536+(bs.getD (4 * i+2) 0).toNat * 256+(bs.getD (4 * i+3) 0).toNat
def IB(bs:List UInt8)(w:List Nat)(k:Nat):Nat:=
 if k<16 then VL bs k else(w.getD (k - 16) 0+RO (w.getD (k - 15) 0)+w.getD (k - 7) 0+RP (w.getD (k - 2) 0)) % 4294967296
def ws(bs:List UInt8):Nat→List Nat
 | 0=>[]
 | k+1=>ws bs k++[IB bs (ws bs k) k]
def rnd(s:List Nat)(kw:Nat):List Nat:=
 let t1:=s.getD 7 0+RR (s.getD 4 0)+ch (s.getD 4 0) (s.getD 5 0) (s.getD 6 0)+kw
 let t2:=RQ (s.getD 0 0)+maj (s.getD 0 0) (s.getD 1 0) (s.getD 2 0)
 [(t1+t2) % 4294967296,s.getD 0 0,s.getD 1 0,s.getD 2 0,(s.getD 3 0+t1) % 4294967296,s.getD 4 0,s.getD 5 0,s.getD 6 0]
def rounds(ks w s:List Nat):Nat→List Nat
 | 0=>s
 | i+1=>rnd (rounds ks w s i) (ks.getD i 0+w.getD i 0)
def OJ(a b:List Nat):List Nat:=(List.range 8).map fun i=>(a.getD i 0+b.getD i 0) % 4294967296
def block(ks h:List Nat)(bs:List UInt8):List Nat:=OJ (rounds ks (ws bs 64) h 64) h
end sha
namespace bm
open Go Go.RowKit base aE aX qd oX mL oW nT ub
abbrev Rc:=Int × Int × List Od
def bu(r:Rc):Bool:=decide (1≤r.2.1∧r.2.1≤1000000) && (if r.1=1 then b_ r.2.2 else decide (r.1=2∨r.1=3) && r.2.2.isEmpty)
/-! ### bytes and back -/
theorem bS(r:Rc):bu r=true↔(1≤r.2.1∧r.2.1≤1000000)∧((r.1=1∧b_ r.2.2=true)∨((r.1=2∨r.1=3)∧r.2.2=[])):=by
 unfold bu;rw[Bool.and_eq_true,decide_eq_true_iff];by_cases h:r.1=1
 · rw[if_pos h];constructor
   · rintro⟨h1,h2⟩; exact⟨h1,.inl ⟨h,h2⟩⟩
   · rintro⟨h1,⟨_,h2⟩ | ⟨h2,_⟩⟩
     · exact⟨h1,h2⟩
     · omega
 · rw[if_neg h,Bool.and_eq_true,decide_eq_true_iff,List.isEmpty_iff];constructor
   · rintro⟨h1,h2,h3⟩; exact⟨h1,.inr ⟨h2,h3⟩⟩
   · rintro⟨h1,⟨h2,_⟩ | h2⟩
     · omega
     · exact⟨h1,h2.1,h2.2⟩
/-! ### records one behind the other -/
/-! ### what records make -/
abbrev St:=List Pr × List Rc × List Int
def locked(held:List Rc)(ops:List Od):Bool:=held.any fun h=>h.2.2.any fun o=>ops.any fun p=>decide (o.2.1=p.2.1)
def aR(tx:Int):List Rc→Option Nat
 | []=>none
 | r::l=>if r.2.1=tx then some 0 else(aR tx l).map (· +1)
def cn(held:List Rc)(k:Nat):List Od:=match held[k]? with | none=>[] | some r=>r.2.2
def ik(s:St)(r:Rc)(k:Nat):List Pr:=if r.1=2 then aQ s.1 (cn s.2.1 k) else s.1
def one(s:St)(r:Rc):Option St:=
 if bu r=true then
  if r.1=1 then
   if decide (r.2.1∈s.2.2)=true∨locked s.2.1 r.2.2=true∨meets s.1 r.2.2=false then none else some (s.1,s.2.1++[r],s.2.2++[r.2.1])
  else match aR r.2.1 s.2.1 with
   | none=>if r.1=3∧r.2.1∉s.2.2 then some (s.1,s.2.1,s.2.2++[r.2.1]) else none
   | some k=>if(ik s r k).length≤60 then some (ik s r k,s.2.1.take k++s.2.1.drop (k+1),s.2.2) else none
 else none
def bN:St→List Rc→Option St
 | s,[]=>some s
 | s,r::l=>match one s r with
  | none=>none
  | some t=>bN t l
def replay(l:List Rc):Option St:=bN ([],[],[]) l
theorem jN(s:St)(a b:List Rc):bN s (a++b)=match bN s a with | none=>none | some t=>bN t b:=by
 induction a generalizing s with
 | nil=>rfl
 | cons r a ih=>
  simp only[List.cons_append,bN];cases one s r with
  | none=>rfl
  | some t=>exact ih t
def IC(l:List Rc)(s:St):Prop:=ua s.1=true∧(∀r∈s.2.1,r∈l∧r.1=1∧bu r=true)∧∀r∈s.2.1,r.2.1∈s.2.2
theorem iz{tx:Int}{l:List Rc}{k:Nat}(h:aR tx l=some k):∃hk:k<l.length,l[k].2.1=tx:=by
 induction l generalizing k with
 | nil=>cases h
 | cons r l ih=>
  rw[aR] at h
  split at h
  · next h1=>cases h; exact⟨by simp,h1⟩
  · cases hp:aR tx l with
    | none=>rw[hp] at h; cases h
    | some j=>
     rw[hp] at h;simp only[Option.map_some,Option.some.injEq] at h;subst h;obtain⟨hj,e⟩:=ih hp;exact⟨by simp; omega,by simpa using e⟩
theorem mN{tx:Int}{l:List Rc}(h:aR tx l=none):∀r∈l,r.2.1≠tx:=by
 induction l with
 | nil=>intro r hr; exact absurd hr List.not_mem_nil
 | cons x l ih=>
  rw[aR] at h
  split at h
  · cases h
  · next bh=>
    intro r hr;rcases List.mem_cons.1 hr with e | e
    · subst e; exact bh
    · exact ih (by cases hp:aR tx l with | none=>rfl | some j=>rw[hp] at h; cases h) r e
theorem CS{m:List Pr}{l:List Od}(h1:∀p∈m,fW p=true)(h2:r6 m)(hl:∀o∈l,dU o=true):(∀p∈aQ m l,fW p=true)∧r6 (aQ m l):=by
 induction l generalizing m with
 | nil=>exact⟨h1,h2⟩
 | cons o l ih=>
  rw[CQ];have ho:=(kh o).1 (hl o List.mem_cons_self);refine ih ?_ ?_ (fun x hx=>hl x (List.mem_cons_of_mem _ hx))
  · intro p hp;unfold jh at hp
    split at hp
    · rcases CN hp with e | e
      · exact h1 p e
      · subst e; unfold fW; rw[ho.2.2.1]; simpa using ho.2.2.2
    · split at hp
      · exact h1 p (List.mem_filter.1 hp).1
      · exact h1 p hp
  · unfold jh
    split
    · exact IA h2
    · split
      · exact List.Pairwise.filter _ h2
      · exact h2
theorem ID{held:List Rc}(h:∀r∈held,bu r=true∧r.1=1)(k:Nat):∀o∈cn held k,dU o=true:=by
 unfold cn;cases hk:held[k]? with
 | none=>intro o ho; exact absurd ho List.not_mem_nil
 | some r=>
  have hr:=h r (List.mem_of_getElem? hk);obtain⟨_,⟨_,h2⟩ | ⟨h2,_⟩⟩:=(bS r).1 hr.1
  · exact((bG _).1 h2).1.1
  · omega
theorem ED{l:List Rc}{k:Nat}{r:Rc}(h:r∈l.take k++l.drop (k+1)):r∈l:=by
 rcases List.mem_append.1 h with h1 | h1
 · exact List.mem_of_mem_take h1
 · exact List.mem_of_mem_drop h1
theorem IE{l:List Rc}{s t:St}{r:Rc}(hs:IC l s)(hr:r∈l)(h:one s r=some t):IC l t:=by
 obtain⟨h1,h2,h3⟩:=hs;unfold one at h
 split at h
 · next bR=>
   split at h
   · next hk=>
     split at h
     · cases h
     · cases h;refine⟨h1,fun x hx=>?_,fun x hx=>?_⟩
       · rcases List.mem_append.1 hx with e | e
         · exact h2 x e
         · rw[List.mem_singleton.1 e]; exact⟨hr,hk,bR⟩
       · rcases List.mem_append.1 hx with e | e
         · exact List.mem_append.2 (.inl (h3 x e))
         · rw[List.mem_singleton.1 e]; exact List.mem_append.2 (.inr (by simp))
   · split at h
     · split at h
       · cases h;exact⟨h1,h2,fun x hx=>List.mem_append.2 (.inl (h3 x hx))⟩
       · cases h
     · next k hp=>
       split at h
       · next hlen=>
         cases h;refine⟨?_,fun x hx=>h2 x (ED hx),fun x hx=>h3 x (ED hx)⟩
         have h4:=(kW s.1).1 h1;show ua (ik s r k)=true;unfold ik at hlen ⊢
         split
         · next h5=>
           rw[if_pos h5] at hlen;exact(kW _).2 ⟨CS h4.1.1 h4.1.2 (ID (fun x hx=>⟨(h2 x hx).2.2,(h2 x hx).2.1⟩) k),hlen⟩
         · exact h1
       · cases h
 · cases h
theorem Ap{l l':List Rc}{s t:St}(hs:IC l s)(hr:∀r∈l',r∈l)(h:bN s l'=some t):IC l t:=by
 induction l' generalizing s with
 | nil=>cases h; exact hs
 | cons r l' ih=>
  rw[bN] at h;cases ho:one s r with
  | none=>rw[ho] at h; cases h
  | some u=>
   rw[ho] at h;exact ih (IE hs (hr r List.mem_cons_self) ho) (fun x hx=>hr x (List.mem_cons_of_mem _ hx)) h
theorem r7{l:List Rc}{t:St}(h:replay l=some t):IC l t:=by
 refine Ap (s:=([],[],[])) ?_ (fun r hr=>hr) h
 exact⟨rfl,fun r hr=>absurd hr List.not_mem_nil,fun r hr=>absurd hr List.not_mem_nil⟩
end bm
namespace bm
open Go Go.RowKit base aE aX
def iA(x:Rc):Prop:=(Lit.int .i64 x.1).wf=true∧(Lit.int .i64 x.2.1).wf=true∧∀o∈x.2.2,ed o
/-! ### a slice of orders of the call's own, or nil -/
def cS(w:World)(base:Nat)(v:Value)(l:List Od):Prop:=(∀p∈l,ed p)∧w.ownsRow base 121 3 v l.length (aW l)
section
variable{w w':World}{base base':Nat}{v:Value}{l:List Od}{row:Option Nat}
theorem Aq(w:World)(base:Nat):cS w base (.slice none 0 0) []:=⟨fun _ h=>absurd h List.not_mem_nil,World.ownsRow_nil _ _ _ _⟩
theorem fK{g n cap:Nat}(h:ck w base g n cap l):cS w base (.slice (some ⟨g,0,none⟩) n cap) l:=⟨h.2.1,by rw[h.1]; exact h.2.2⟩
theorem cS.shape(h:cS w base v l):(v=.slice none 0 0∧l=[])∨∃g cap,v=.slice (some ⟨g,0,none⟩) l.length cap∧ck w base g l.length cap l:=by
 rcases h.2.2 with⟨rfl,h0⟩ | ⟨g,cap,cur,rfl,_⟩
 · exact .inl ⟨rfl,List.eq_nil_of_length_eq_zero h0⟩
 · exact .inr ⟨g,cap,rfl,rfl,h.1,h.2⟩
theorem cS.lt(h:cS w base v l)(k:Nat)(hk:v.ownBlock=some k):base≤k∧k<w.heap.size:=h.2.lt k hk
theorem cS.cc(h:cS w base v l)(hk:∀k,v.ownBlock=some k→w'.heap[k]? =w.heap[k]?):cS w' base v l:=by
 refine⟨h.1,h.2.1,?_⟩;rcases h.2.2 with h' | ⟨g,cap,cur,rfl,h0,hg,r⟩
 · exact .inl h'
 · exact .inr ⟨g,cap,cur,rfl,h0,(hk g rfl).trans hg,r⟩
theorem cS.below(h:cS w base v l)(hb:Below w.heap.size w w'):cS w' base v l:=h.cc fun k hk=>hb.block k (h.lt k hk).2
theorem cS.grown(h:cS w base v l)(hg:w.grownBy w' row)(bh:v.ownBlock=none∨v.ownBlock≠row):cS w' base v l:=
 h.cc fun k hk=>hg.block k (h.lt k hk).2 (fun e=>by
  rcases bh with h1 | h1
  · rw[hk] at h1; cases h1
  · exact h1 (hk.trans e))
theorem cS.mono(h:cS w base v l)(hb:base'≤base):cS w base' v l:=by
 refine⟨h.1,h.2.1,?_⟩;rcases h.2.2 with h' | ⟨g,cap,cur,rfl,h0,r⟩
 · exact .inl h'
 · exact .inr ⟨g,cap,cur,rfl,by omega,r⟩
theorem cS.sl(h:cS w base v l):∃a cap,v=.slice a l.length cap∧dS w a l.length l∧l.length≤cap:=by
 rcases h.shape with⟨rfl,rfl⟩ | ⟨g,cap,rfl,hO⟩
 · exact⟨none,0,rfl,uc _ _,Nat.le_refl _⟩
 · exact⟨_,cap,rfl,hO.sl,hO.cases.1⟩
theorem cS.one(h:cS w base v l):v.oneCell'=true:=by
 rcases h.shape with⟨rfl,_⟩ | ⟨g,cap,rfl,_⟩ <;> rfl
end
/-! ### records that are read -/
def IF(w:World)(b o:Nat)(x:Rc):Prop:=
 w.cell? ⟨b,o,none⟩=some (.int .i64 x.1)∧w.cell? ⟨b,o+1,none⟩=some (.int .i64 x.2.1)∧∃pa pl pc,w.cell? ⟨b,o+2,none⟩=some (.slice pa pl pc)∧dS w pa pl x.2.2∧pl≤pc
theorem IF.below{w w':World}{b o:Nat}{x:Rc}(h:IF w b o x)(hb:Below w.heap.size w w'):IF w' b o x:=by
 have keep:∀o v,w.cell? ⟨b,o,none⟩=some v→w'.cell? ⟨b,o,none⟩=some v:=fun o v hv=>(hb.cell (p:=⟨b,o,none⟩) (World.block_lt_of_cell? w _ hv)).trans hv
 obtain⟨h1,h2,pa,pl,pc,h3,h4,h5⟩:=h;exact⟨keep _ _ h1,keep _ _ h2,pa,pl,pc,keep _ _ h3,h4.below hb,h5⟩
def rP(w:World)(a:Option Addr)(len:Nat)(l:List Rc):Prop:=
 l.length=len∧len≤maxLen∧(∀x∈l,iA x)∧(0<len→∃b off,a=some ⟨b,off,none⟩∧∀i (h:i<l.length),IF w b (off+i * 3) l[i])
theorem LU(w:World)(a:Option Addr):rP w a 0 []:=⟨rfl,Nat.zero_le _,(fun _ h=>absurd h List.not_mem_nil),fun h=>absurd h (by omega)⟩
theorem rP.below{w w':World}{a:Option Addr}{len:Nat}{l:List Rc}(h:rP w a len l)(hb:Below w.heap.size w w'):rP w' a len l:=by
 obtain⟨h1,h2,h3,h4⟩:=h;refine⟨h1,h2,h3,fun h0=>?_⟩
 obtain⟨b,off,e,hc⟩:=h4 h0;exact⟨b,off,e,fun i hi=>(hc i hi).below hb⟩
theorem rP.at{w:World}{b off len:Nat}{l:List Rc}(h:rP w (some ⟨b,off,none⟩) len l)(i:Nat)(hi:i<l.length):IF w b (off+i * 3) l[i]:=by
 obtain⟨b',wJ,e,hc⟩:=h.2.2.2 (by have:=h.1; omega)
 simp only[Option.some.injEq,Addr.mk.injEq,and_true] at e;obtain⟨rfl,rfl⟩:=e;exact hc i hi
theorem rP.cut{w:World}{b off len:Nat}{l:List Rc}(h:rP w (some ⟨b,off,none⟩) len l)(k:Nat)(hk:k≤len):rP w (some ⟨b,off,none⟩) k (l.take k):=by
 have fF:=h.at;refine⟨by have:=h.1; simp; omega,by have:=h.2.1; omega,fun x hx=>h.2.2.1 x (List.mem_of_mem_take hx),fun _=>⟨b,off,rfl,fun i hi=>?_⟩⟩
 have Q1:i<l.length:=by simp at hi; omega
 rw[List.getElem_take];exact fF i Q1
/-! ### rows of records that a call made: the orders of each lie in a row of their own -/
def bk(l:List Rc)(hs:List Value):List Value:=(l.zip hs).flatMap fun q=>[.int .i64 q.1.1,.int .i64 q.1.2.1,q.2]
theorem gB(x:Rc)(l:List Rc)(y:Value)(hs:List Value):bk (x::l) (y::hs)=.int .i64 x.1:: .int .i64 x.2.1::y::bk l hs:=rfl
theorem ee(l:List Rc)(hs:List Value)(h:hs.length=l.length):(bk l hs).length=l.length * 3:=by
 induction l generalizing hs with
 | nil=>rfl
 | cons x l ih=>
  cases hs with
  | nil=>simp at h
  | cons y hs=>simp at h; have:=ih hs h; rw[gB]; simp[this]; omega
theorem Ar(l:List Rc)(hs:List Value)(h:hs.length=l.length)(i:Nat)(hi:i<l.length):
 (bk l hs)[i * 3]? =some (.int .i64 l[i].1)∧(bk l hs)[i * 3+1]? =some (.int .i64 l[i].2.1)∧(bk l hs)[i * 3+2]? =some (hs[i]'(by omega)):=by
 induction l generalizing hs i with
 | nil=>simp at hi
 | cons x l ih=>
  cases hs with
  | nil=>simp at h
  | cons y hs=>
   rw[gB];cases i with
   | zero=>exact⟨rfl,rfl,rfl⟩
   | succ i=>
    have:=ih hs (by simpa using h) i (by simpa using hi)
    rw[show(i+1) * 3=i * 3+1+1+1 by omega]
    simpa using this
theorem fY(l l2:List Rc)(hs pQ:List Value)(h:hs.length=l.length):bk (l++l2) (hs++pQ)=bk l hs++bk l2 pQ:=by
 unfold bk;rw[List.zip_append h.symm,List.flatMap_append]
theorem ev(l:List Rc)(hs:List Value)(h:∀y∈hs,y.oneCell'=true):∀v∈bk l hs,v.oneCell'=true:=by
 intro v hv;obtain⟨q,hq,hv⟩:=List.mem_flatMap.1 hv;simp at hv;rcases hv with rfl | rfl | rfl
 · rfl
 · rfl
 · exact h _ (List.of_mem_zip hq).2
structure bB (w:World) (base:Nat) (v:Value) (l:List Rc) (hs:List Value):Prop where
 len:hs.length=l.length
 sm:∀x∈l,iA x
 row:w.ownsRow base 98 3 v l.length (bk l hs)
 ops:∀i (h:i<l.length),cS w base (hs[i]'(by omega)) l[i].2.2
 apart:hs.Pairwise fun a b=>a.ownBlock=none∨a.ownBlock≠b.ownBlock
 out:∀k,v.ownBlock=some k→∀y∈hs,y.ownBlock≠some k
section
variable{w w':World}{base base' g n cap:Nat}{v:Value}{l:List Rc}{hs:List Value}
theorem As(w:World)(base:Nat):bB w base (.slice none 0 0) [] []:=
 ⟨rfl,(fun _ h=>absurd h List.not_mem_nil),⟨rfl,.inl ⟨rfl,rfl⟩⟩,fun i hi=>absurd hi (by simp),List.Pairwise.nil,fun k hk=>by cases hk⟩
theorem oY(w:World)(base:Nat)(hb:base≤w.heap.size):bB (w.alloc (.cells #[] 98)) base (.slice (some ⟨w.heap.size,0,none⟩) 0 0) [] []:=
 ⟨rfl,(fun _ h=>absurd h List.not_mem_nil),World.ownsRow_made w #[] 0 hb (Nat.zero_le _) rfl,fun i hi=>absurd hi (by simp),List.Pairwise.nil,fun k _ y hy=>absurd hy List.not_mem_nil⟩
def dq(v:Value)(hs:List Value)(k:Nat):Prop:=v.ownBlock=some k∨∃y∈hs,y.ownBlock=some k
theorem cV{e:TypeId}{size n:Nat}{xs:List Value}(h:w.ownsRow base e size v n xs)(hk:∀k,v.ownBlock=some k→w'.heap[k]? =w.heap[k]?):w'.ownsRow base e size v n xs:=by
 refine⟨h.1,?_⟩;rcases h.2 with h' | ⟨g,cap,cur,rfl,h0,hg,r⟩
 · exact .inl h'
 · exact .inr ⟨g,cap,cur,rfl,h0,(hk g rfl).trans hg,r⟩
theorem bB.bl(h:bB w base v l hs)(hk:∀k,dq v hs k→w'.heap[k]? =w.heap[k]?):bB w' base v l hs:=
 ⟨h.len,h.sm,cV h.row (fun k e=>hk k (.inl e)),fun i hi=>(h.ops i hi).cc (fun k e=>hk k (.inr ⟨hs[i]'(by have:=h.len; omega),List.getElem_mem _,e⟩)),h.apart,h.out⟩
theorem bB.lt(h:bB w base v l hs)(k:Nat)(hk:dq v hs k):base≤k∧k<w.heap.size:=by
 rcases hk with e | ⟨y,hy,e⟩
 · exact h.row.lt k e
 · obtain⟨i,hi,rfl⟩:=List.getElem_of_mem hy;exact(h.ops i (by have:=h.len; omega)).lt k e
theorem bB.below(h:bB w base v l hs)(hb:Below w.heap.size w w'):bB w' base v l hs:=h.bl fun k hk=>hb.block k (h.lt k hk).2
theorem bB.grown(h:bB w base v l hs){k:Nat}(hg:w.grownBy w' (some k))(bh:¬dq v hs k):bB w' base v l hs:=
 h.bl (fun j hj=>hg.block j (h.lt j hj).2 (fun e=>by cases e; exact bh hj))
theorem bB.mono(h:bB w base v l hs)(hb:base'≤base):bB w base' v l hs:=by
 refine⟨h.len,h.sm,⟨h.row.1,?_⟩,fun i hi=>(h.ops i hi).mono hb,h.apart,h.out⟩
 rcases h.row.2 with h' | ⟨g,cap,cur,rfl,h0,r⟩
 · exact .inl h'
 · exact .inr ⟨g,cap,cur,rfl,by omega,r⟩
theorem bB.shape(h:bB w base v l hs):(v=.slice none 0 0∧l=[]∧hs=[])∨∃g cap,v=.slice (some ⟨g,0,none⟩) l.length cap∧l.length≤cap∧cap≤maxLen:=by
 rcases h.row.2 with⟨rfl,h0⟩ | ⟨g,cap,cur,rfl,_,_,h1,h2,_⟩
 · have:l=[]:=List.eq_nil_of_length_eq_zero h0;subst this;exact .inl ⟨rfl,rfl,List.eq_nil_of_length_eq_zero (by simpa using h.len)⟩
 · exact .inr ⟨g,cap,rfl,h1,h2⟩
theorem bB.nF{a:Option Addr}(h:bB w base (.slice a n cap) l hs):n=l.length:=by
 rcases h.shape with⟨e,rfl,_⟩ | ⟨g',c',e,_⟩
 · cases e; rfl
 · cases e; rfl
theorem bB.room{a:Option Addr}(h:bB w base (.slice a n cap) l hs):n≤cap∧cap≤maxLen:=by
 rcases h.shape with⟨e,rfl,_⟩ | ⟨g',c',e,h1,h2⟩
 · cases e; exact⟨Nat.le_refl _,Nat.zero_le _⟩
 · cases e; exact⟨h1,h2⟩
theorem bB.at(h:bB w base (.slice (some ⟨g,0,none⟩) n cap) l hs)(i:Nat)(hi:i<l.length):
 w.cell? ⟨g,i * 3,none⟩=some (.int .i64 l[i].1)∧w.cell? ⟨g,i * 3+1,none⟩=some (.int .i64 l[i].2.1)∧w.cell? ⟨g,i * 3+2,none⟩=some (hs[i]'(by have:=h.len; omega)):=by
 obtain rfl:=h.nF;obtain⟨h1,h2,h3⟩:=Ar l hs h.len i hi;have key:∀j u,(bk l hs)[j]? =some u→w.cell? ⟨g,j,none⟩=some u:=fun j u hu=>by
  have:=h.row.cells (g:=g) rfl j u hu;rw[Addr.add_lit,Nat.zero_add] at this;exact this
 exact⟨key _ _ h1,key _ _ h2,key _ _ h3⟩
theorem bB.frozen(h:bB w base (.slice (some ⟨g,0,none⟩) n cap) l hs)(j:Nat):w.frozen? ⟨g,j,none⟩=false:=by
 obtain rfl:=h.nF;exact h.row.frozenAt j
theorem bB.sl{a:Option Addr}(h:bB w base (.slice a n cap) l hs):rP w a n l:=by
 rcases h.shape with⟨e,rfl,_⟩ | ⟨g,c,e,h1,h2⟩
 · cases e; exact LU _ _
 · cases e;refine⟨rfl,by omega,h.sm,fun _=>⟨g,0,rfl,fun i hi=>?_⟩⟩
   obtain⟨c1,c2,c3⟩:=h.at i hi;rw[Nat.zero_add];obtain⟨a,cp,e,hS,hc⟩:=(h.ops i hi).sl;rw[e] at c3;exact⟨c1,c2,_,_,_,c3,hS,hc⟩
theorem bB.one(h:bB w base v l hs):∀y∈hs,y.oneCell'=true:=by
 intro y hy;obtain⟨i,hi,rfl⟩:=List.getElem_of_mem hy;exact(h.ops i (by have:=h.len; omega)).one
/-! ### all blocks but those of a slice of records are as they were -/
/-! ### stores -/
theorem yJ(l:List Rc)(hs:List Value)(h:hs.length=l.length)(i:Nat)(hi:i<l.length)(z:Int):(bk l hs).set (i * 3) (.int .i64 z)=bk (l.set i (z,l[i].2)) hs:=by
 induction l generalizing hs i with
 | nil=>simp at hi
 | cons x l ih=>
  cases hs with
  | nil=>simp at h
  | cons y hs=>
   cases i with
   | zero=>rfl
   | succ i=>
    rw[gB,show(i+1) * 3=i * 3+1+1+1 by omega]
    simp only[List.set_cons_succ,List.getElem_cons_succ,gB];rw[ih hs (by simpa using h) i (by simpa using hi)]
theorem nV{i:Nat}{x:Rc}(h:∀y∈l,iA y)(hx:iA x):∀y∈l.set i x,iA y:=by
 intro y hy;rcases List.mem_or_eq_of_mem_set hy with h1 | h1
 · exact h y h1
 · subst h1; exact hx
theorem LV(h:bB w base v l hs)(i:Nat)(hi:i<l.length)(a b:Int):∀j (hj:j<(l.set i (a,b,l[i].2.2)).length),cS w base (hs[j]'(by have:=h.len; simp at hj; omega)) (l.set i (a,b,l[i].2.2))[j].2.2:=by
 intro j hj;have e7:j<l.length:=by simpa using hj
 have:=h.ops j e7;by_cases e:i=j
 · subst e; rw[List.getElem_set_self]; exact this
 · rw[List.getElem_set_ne e]; exact this
theorem bB.setKind(h:bB w base (.slice (some ⟨g,0,none⟩) n cap) l hs)(i:Nat)(hi:i<l.length)(z:Int)(hz:(Lit.int .i64 z).wf=true):
 bB (w.setCell ⟨g,i * 3,none⟩ (.int .i64 z)) base (.slice (some ⟨g,0,none⟩) n cap) (l.set i (z,l[i].2)) hs∧w.grownBy (w.setCell ⟨g,i * 3,none⟩ (.int .i64 z)) (some g):=by
 obtain rfl:=h.nF;have ud:=h.row.stored (i * 3) (.int .i64 z);rw[yJ l hs h.len i hi z] at ud;have fk:=h.sm l[i] (List.getElem_mem hi);refine⟨⟨by simpa using h.len,nV h.sm ⟨hz,fk.2⟩,by simpa using ud.1,fun j hj=>?_,h.apart,h.out⟩,ud.2⟩
 refine(LV h i hi z l[i].2.1 j hj).grown ud.2 (.inr (fun e=>?_))
 exact h.out g rfl _ (List.getElem_mem _) e
theorem gC{e1 e2:TypeId}{s1 s2 n1 n2:Nat}{v1 v2:Value}{x1 x2:List Value}{k b1 b2:Nat}(h1:w.ownsRow b1 e1 s1 v1 n1 x1)(h2:w.ownsRow b2 e2 s2 v2 n2 x2)(nL:v1.ownBlock=some k)(iu:v2.ownBlock=some k)(bh:e1≠e2):False:=by
 rcases h1.2 with⟨rfl,_⟩ | ⟨g,c,cur,rfl,_,hg,_⟩
 · cases nL
 rcases h2.2 with⟨rfl,_⟩ | ⟨g2,c2,cur2,rfl,_,lU,_⟩
 · cases iu
 cases nL;simp only[Value.ownBlock,Option.some.injEq] at iu;rw[iu,hg] at lU
 injection lU with lU
 injection lU with _ he
 exact bh he
theorem bB.snoc{w7:World}{x:Rc}{y v7:Value}(h:bB w base v l hs)(hP:cS w base y x.2.2)(hx:iA x)(hy:∀k,y.ownBlock=some k→¬dq v hs k)
 (aK:w7.ownsRow base 98 3 v7 (l.length+1) (bk l hs++[.int .i64 x.1,.int .i64 x.2.1,y])) (aI:w.grownBy w7 v.ownBlock):bB w7 base v7 (l++[x]) (hs++[y]):=by
 have hlen:=h.len;have LW:∀i (hi:i<(l++[x]).length),cS w7 base ((hs++[y])[i]'(by simp at hi ⊢; omega)) (l++[x])[i].2.2:=by
  intro i hi;by_cases e:i<l.length
  · rw[List.getElem_append_left e];simp only[List.getElem_append_left (show i<hs.length by omega)]
    refine(h.ops i e).grown aI ?_;by_cases hv:v.ownBlock=none
    · by_cases h1:(hs[i]'(by omega)).ownBlock=none
      · exact .inl h1
      · exact .inr (by rw[hv]; exact h1)
    · obtain⟨k,hk⟩:=Option.ne_none_iff_exists'.1 hv;exact .inr (by rw[hk]; exact h.out k hk _ (List.getElem_mem _))
  · have:i=l.length:=by simp at hi; omega
    subst this;rw[List.getElem_append_right (Nat.le_refl _)];simp only[List.getElem_append_right (show hs.length≤l.length by omega)]
    simp only[hlen,Nat.sub_self,List.getElem_cons_zero];refine hP.grown aI ?_;by_cases hv:y.ownBlock=none
    · exact .inl hv
    · obtain⟨k,hk⟩:=Option.ne_none_iff_exists'.1 hv;exact .inr (by rw[hk]; exact fun e2=>hy k hk (.inl e2.symm))
 refine⟨by simp[hlen],fun z hz=>?_,?_,LW,?_,fun k hk z hz e=>?_⟩
 · rcases List.mem_append.1 hz with h1 | h1
   · exact h.sm z h1
   · rw[List.mem_singleton.1 h1]; exact hx
 · rw[fY l [x] hs [y] hlen,List.length_append]; exact aK
 · rw[List.pairwise_append];refine⟨h.apart,List.pairwise_singleton _ _,fun a ha z hz=>?_⟩
   rw[List.mem_singleton.1 hz];by_cases h1:a.ownBlock=none
   · exact .inl h1
   · right;intro e;obtain⟨k,hk⟩:=Option.ne_none_iff_exists'.1 h1;exact hy k (by rw[←e,hk]) (.inr ⟨a,ha,hk⟩)
 · obtain⟨i,hi,rfl⟩:=List.getElem_of_mem hz;have hS:=LW i (by simp at hi ⊢; omega)
   exact gC aK hS.2 hk e (by decide)
end
end bm
end Go.Proofs.YtmibabclefgljaaGreat
