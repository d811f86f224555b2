/- OrdMath PairRow OrdRow PadMath ShaMath RecMath RecRow -/
import Derived.Test.YtmibabclefgljaaGreatShaa
import Derived.OwnWalk
set_option linter.unusedVariables false
set_option linter.unusedSimpArgs false
namespace Go.Proofs.YtmibabclefgljaaGreat
namespace aN
open Go Go.RowKit base av pO oF mo oE nC tJ
abbrev Od:=Int × ByteArray × ByteArray
def dF(o:Od):Bool:=decide (1≤o.1∧o.1≤3) && (decide (o.1≠2) || decide (o.2.2.size=0)) && gD o.2.1 && decide (o.2.2.size≤20)
def cZ:Option ByteArray→List Od→Bool
 | _,[]=>true
 | none,o::l=>dF o && cZ (some o.2.1) l
 | some k,o::l=>dF o && kt k o.2.1 && cZ (some o.2.1) l
def bM(l:List Od):Bool:=cZ none l && decide (1≤l.length∧l.length≤8)
def El(m:List Pr)(o:Od):Bool:=decide (o.1≠3) || match getKey o.2.1 m with | none=>decide (o.2.2.size=0) | some v=>decide (o.2.2.size≠0) && decide (v=o.2.2)
def meets(m:List Pr)(l:List Od):Bool:=l.all (El m)
def iP(m:List Pr)(o:Od):List Pr:=if o.1=1 then putKey o.2.1 o.2.2 m else if o.1=2 then delKey o.2.1 m else m
def aG(m:List Pr)(l:List Od):List Pr:=l.foldl iP m
def bl(key:ByteArray)(n:Int):Int:=if n<1 then 0 else(fm key.data.toList:Int) % n
def dM(s n:Int)(l:List Od):List Od:=l.filter fun o=>decide (bl o.2.1 n=s)
def eV(l:List Int)(n:Int):List Int:=if n∈l then l else l.filter (fun x=>decide (x<n))++n::l.filter (fun x=>decide (n<x))
def aD(n:Int)(l:List Od):List Int:=l.foldl (fun u o=>eV u (bl o.2.1 n)) []
/-! ### orders that are right -/
def sv(l:List Od):Prop:=l.Pairwise fun p q=>kt p.2.1 q.2.1=true
theorem z6(o:Option ByteArray)(l:List Od):cZ o l=true↔(∀p∈l,dF p=true)∧sv l∧∀k,o=some k→∀p∈l,kt k p.2.1=true:=by
 induction l generalizing o with
 | nil=>simp[cZ,sv]
 | cons p l ih=>
  have hi:=ih (some p.2.1);unfold sv at hi ⊢;rw[List.pairwise_cons];cases o with
  | none=>
   simp only[cZ,Bool.and_eq_true,hi,List.mem_cons,forall_eq_or_imp];constructor
   · rintro⟨h1,h2,h3,h4⟩;exact⟨⟨h1,h2⟩,⟨h4 _ rfl,h3⟩,fun k e=>by cases e⟩
   · rintro⟨⟨h1,h2⟩,⟨h3,h4⟩,_⟩;exact⟨h1,h2,h4,fun k e q hq=>by cases e; exact h3 q hq⟩
  | some k0=>
   simp only[cZ,Bool.and_eq_true,hi,List.mem_cons,forall_eq_or_imp];constructor
   · rintro⟨⟨h1,h0⟩,h2,h3,h4⟩;refine⟨⟨h1,h2⟩,⟨h4 _ rfl,h3⟩,fun k e=>?_⟩
     cases e;exact⟨h0,fun q hq=>lH h0 (h4 _ rfl q hq)⟩
   · rintro⟨⟨h1,h2⟩,⟨h3,h4⟩,h5⟩;exact⟨⟨h1,(h5 k0 rfl).1⟩,h2,h4,fun k e q hq=>by cases e; exact h3 q hq⟩
theorem bq(l:List Od):bM l=true↔((∀p∈l,dF p=true)∧sv l)∧1≤l.length∧l.length≤8:=by
 unfold bM;rw[Bool.and_eq_true,z6,decide_eq_true_iff];constructor
 · rintro⟨⟨h1,h2,_⟩,h3⟩; exact⟨⟨h1,h2⟩,h3⟩
 · rintro⟨⟨h1,h2⟩,h3⟩; exact⟨⟨h1,h2,fun k e=>by cases e⟩,h3⟩
theorem jT(o:Od):dF o=true↔(1≤o.1∧o.1≤3)∧(o.1=2→o.2.2.size=0)∧gD o.2.1=true∧o.2.2.size≤20:=by
 unfold dF;simp only[Bool.and_eq_true,Bool.or_eq_true,decide_eq_true_iff];constructor
 · rintro⟨⟨⟨h1,h2⟩,h3⟩,h4⟩;exact⟨h1,fun e=>by rcases h2 with h | h; exact absurd e h; exact h,h3,h4⟩
 · rintro⟨h1,h2,h3,h4⟩;exact⟨⟨⟨h1,by by_cases e:o.1=2; exact .inr (h2 e); exact .inl e⟩,h3⟩,h4⟩
theorem pP{s:ByteArray}(h:gD s=true):1≤s.size∧s.size≤12:=by
 unfold gD at h;simp at h;exact h.2
/-! ### bytes of numbers and texts, read -/
/-! ### orders come back of their bytes -/
/-! ### behind orders -/
theorem CB(m:List Pr)(o:Od)(l:List Od):aG m (o::l)=aG (iP m o) l:=rfl
theorem pQ(m:List Pr)(l:List Od)(k:Nat)(h:k<l.length):aG m (l.take (k+1))=iP (aG m (l.take k)) l[k]:=by
 unfold aG;rw[List.take_succ_eq_append_getElem h,List.foldl_append];rfl
/-! ### shards -/
def tm(l:List Int):Prop:=l.Pairwise (· < ·)
theorem ub(l:List Int)(n x:Int):x∈eV l n↔x∈l∨x=n:=by
 unfold eV
 split
 · next h=>
   constructor
   · exact .inl
   · rintro(h1 | rfl)
     · exact h1
     · exact h
 · next h=>
   simp only[List.mem_append,List.mem_filter,List.mem_cons,decide_eq_true_iff];constructor
   · rintro(h1 | rfl | h1)
     · exact .inl h1.1
     · exact .inr rfl
     · exact .inl h1.1
   · rintro(h1 | rfl)
     · have aW:x≠n:=fun e=>h (e ▸ h1)
       rcases Int.lt_or_gt_of_ne aW with h2 | h2
       · exact .inl ⟨h1,h2⟩
       · exact .inr (.inr ⟨h1,h2⟩)
     · exact .inr (.inl rfl)
theorem z7{l:List Int}(h:tm l)(n:Int):tm (eV l n):=by
 unfold eV
 split
 · exact h
 · unfold tm at h ⊢;rw[List.pairwise_append,List.pairwise_cons];refine⟨h.filter _,⟨fun x hx=>by simpa using (List.mem_filter.1 hx).2,h.filter _⟩,fun a ha b hb=>?_⟩
   have h1:a<n:=by simpa using (List.mem_filter.1 ha).2
   rcases List.mem_cons.1 hb with rfl | hb
   · exact h1
   · have h2:n<b:=by simpa using (List.mem_filter.1 hb).2
     omega
theorem sw(n:Int)(l:List Od)(u:List Int)(h:tm u):tm (l.foldl (fun u o=>eV u (bl o.2.1 n)) u)∧∀x,x∈l.foldl (fun u o=>eV u (bl o.2.1 n)) u↔x∈u∨∃o∈l,bl o.2.1 n=x:=by
 induction l generalizing u with
 | nil=>exact⟨h,fun x=>by simp⟩
 | cons o l ih=>
  have:=ih (eV u (bl o.2.1 n)) (z7 h _);refine⟨this.1,fun x=>?_⟩
  rw[List.foldl_cons,this.2 x,ub];simp only[List.mem_cons,exists_eq_or_imp];constructor
  · rintro((h1 | h1) | h1)
    · exact .inl h1
    · exact .inr (.inl h1.symm)
    · exact .inr (.inr h1)
  · rintro(h1 | h1 | h1)
    · exact .inl (.inl h1)
    · exact .inl (.inr h1.symm)
    · exact .inr h1
theorem pR(n:Int)(l:List Od):tm (aD n l):=(sw n l [] List.Pairwise.nil).1
theorem fc(n:Int)(l:List Od)(x:Int):x∈aD n l↔∃o∈l,bl o.2.1 n=x:=by
 have:=(sw n l [] List.Pairwise.nil).2 x;simpa[aD] using this
theorem z8(n:Int)(l:List Od)(k:Nat)(h:k<l.length):aD n (l.take (k+1))=eV (aD n (l.take k)) (bl l[k].2.1 n):=by
 unfold aD;rw[List.take_succ_eq_append_getElem h,List.foldl_append];rfl
theorem fj(key:ByteArray)(n:Int):0≤bl key n∧(0<n→bl key n<n):=by
 unfold bl
 split
 · exact⟨by omega,fun h=>by omega⟩
 · next h=>exact⟨Int.emod_nonneg _ (by omega),fun h0=>Int.emod_lt_of_pos _ h0⟩
theorem uc(key:ByteArray)(n:Int):bl key n<4294967296:=by
 unfold bl
 split
 · omega
 · next h=>
   have h1:=lE key.data.toList;have h2:=Int.emod_add_ediv_mul (fm key.data.toList:Int) n;have h3:0≤(fm key.data.toList:Int) / n * n:=Int.mul_nonneg (Int.ediv_nonneg (by omega) (by omega)) (by omega)
   omega
theorem LG{a b:List Int}(ha:tm a)(hb:tm b)(h:∀x,x∈a↔x∈b):a=b:=by
 induction a generalizing b with
 | nil=>
  cases b with
  | nil=>rfl
  | cons y b=>exact absurd ((h y).2 List.mem_cons_self) List.not_mem_nil
 | cons x a ih=>
  cases b with
  | nil=>exact absurd ((h x).1 List.mem_cons_self) List.not_mem_nil
  | cons y b=>
   unfold tm at ha hb;rw[List.pairwise_cons] at ha hb;have e:x=y:=by
    rcases List.mem_cons.1 ((h x).1 List.mem_cons_self) with e | h1
    · exact e
    · rcases List.mem_cons.1 ((h y).2 List.mem_cons_self) with e | h2
      · exact e.symm
      · have:=hb.1 x h1;have:=ha.1 y h2;omega
   subst e
   congr 1
   refine ih ha.2 hb.2 fun z=>?_
   constructor
   · intro hz;rcases List.mem_cons.1 ((h z).1 (List.mem_cons_of_mem _ hz)) with e | h1
     · subst e; have:=ha.1 z hz; omega
     · exact h1
   · intro hz;rcases List.mem_cons.1 ((h z).2 (List.mem_cons_of_mem _ hz)) with e | h1
     · subst e; have:=hb.1 z hz; omega
     · exact h1
end aN
namespace av
open Go Go.RowKit base
def small(p:Pr):Prop:=p.1.size≤maxLen∧p.2.size≤maxLen
def aw(l:List Pr):List Value:=l.flatMap fun p=>[.string p.1,.string p.2]
theorem ev(p:Pr)(l:List Pr):aw (p::l)=.string p.1:: .string p.2::aw l:=rfl
theorem cj(a b:List Pr):aw (a++b)=aw a++aw b:=by simp[aw]
theorem bo(l:List Pr):(aw l).length=l.length * 2:=by
 induction l with
 | nil=>rfl
 | cons p l ih=>rw[ev]; simp[ih]; omega
theorem qD(l:List Pr)(i:Nat)(h:i<l.length):(aw l)[i * 2]? =some (.string l[i].1):=by
 induction l generalizing i with
 | nil=>simp at h
 | cons p l ih=>
  cases i with
  | zero=>rfl
  | succ i=>rw[ev,show(i+1) * 2=i * 2+1+1 by omega]; simpa using ih i (by simpa using h)
theorem qE(l:List Pr)(i:Nat)(h:i<l.length):(aw l)[i * 2+1]? =some (.string l[i].2):=by
 induction l generalizing i with
 | nil=>simp at h
 | cons p l ih=>
  cases i with
  | zero=>rfl
  | succ i=>rw[ev,show(i+1) * 2+1=i * 2+1+1+1 by omega]; simpa using ih i (by simpa using h)
theorem aF(l:List Pr):∀v∈aw l,v.oneCell'=true:=by
 intro v hv;obtain⟨p,_,hp⟩:=List.mem_flatMap.1 hv;simp at hp;rcases hp with rfl | rfl <;> rfl
theorem tn(l:List Pr)(i:Nat)(h:i<l.length)(k:ByteArray):(aw l).set (i * 2) (.string k)=aw (l.set i (k,l[i].2)):=by
 induction l generalizing i with
 | nil=>simp at h
 | cons p l ih=>
  cases i with
  | zero=>rfl
  | succ i=>rw[ev,show(i+1) * 2=i * 2+1+1 by omega]; simp only[List.set_cons_succ,ev,List.getElem_cons_succ]; rw[ih i (by simpa using h)]
theorem tp(l:List Pr)(i:Nat)(h:i<l.length)(v:ByteArray):(aw l).set (i * 2+1) (.string v)=aw (l.set i (l[i].1,v)):=by
 induction l generalizing i with
 | nil=>simp at h
 | cons p l ih=>
  cases i with
  | zero=>rfl
  | succ i=>rw[ev,show(i+1) * 2+1=i * 2+1+1+1 by omega]; simp only[List.set_cons_succ,ev,List.getElem_cons_succ]; rw[ih i (by simpa using h)]
/-! ### slices of pairs that are read -/
def jU(w:World)(b off:Nat)(l:List Pr):Prop:=∀i (h:i<l.length),w.cell? ⟨b,off+i * 2,none⟩=some (.string l[i].1)∧w.cell? ⟨b,off+i * 2+1,none⟩=some (.string l[i].2)
def lq(w:World)(a:Option Addr)(len:Nat)(l:List Pr):Prop:=
 l.length=len∧len≤maxLen∧(∀p∈l,small p)∧(0<len→∃b off,a=some ⟨b,off,none⟩∧jU w b off l)
theorem LH(w:World)(a:Option Addr):lq w a 0 []:=⟨rfl,Nat.zero_le _,(fun _ h=>absurd h List.not_mem_nil),fun h=>absurd h (by omega)⟩
section
variable{w w':World}{a:Option Addr}{b off len base base' g n cap:Nat}{l:List Pr}{row:Option Nat}
theorem lq.cells(h:lq w (some ⟨b,off,none⟩) len l):jU w b off l:=by
 intro i hi;obtain⟨b',vY,e,hc⟩:=h.2.2.2 (by have:=h.1; omega)
 simp only[Option.some.injEq,Addr.mk.injEq,and_true] at e;obtain⟨rfl,rfl⟩:=e;exact hc i hi
theorem lq.lt(h:lq w (some ⟨b,off,none⟩) len l)(h0:0<len):b<w.heap.size:=
 World.block_lt_of_cell? w _ (h.cells 0 (by have:=h.1; omega)).1
theorem jU.keep(h:jU w b off l)(hk:∀o v,w.cell? ⟨b,o,none⟩=some v→w'.cell? ⟨b,o,none⟩=some v):jU w' b off l:=
 fun i hi=>⟨hk _ _ (h i hi).1,hk _ _ (h i hi).2⟩
theorem lq.below(h:lq w a len l)(hb:Below w.heap.size w w'):lq w' a len l:=by
 obtain⟨h1,h2,h4,h3⟩:=h;refine⟨h1,h2,h4,fun h0=>?_⟩
 obtain⟨b,off,rfl,hc⟩:=h3 h0;exact⟨b,off,rfl,hc.keep fun o v hv=>(hb.cell (p:=⟨b,o,none⟩) (World.block_lt_of_cell? w _ hv)).trans hv⟩
theorem lq.grown(h:lq w (some ⟨b,off,none⟩) len l)(hg:w.grownBy w' row)(aW:some b≠row):lq w' (some ⟨b,off,none⟩) len l:=
 ⟨h.1,h.2.1,h.2.2.1,fun _=>⟨b,off,rfl,h.cells.keep fun o v hv=>hg.cell hv aW⟩⟩
/-! ### rows of pairs that a call made -/
def bJ(w:World)(base g n cap:Nat)(l:List Pr):Prop:=l.length=n∧(∀p∈l,small p)∧w.ownsRow base 100 2 (.slice (some ⟨g,0,none⟩) n cap) n (aw l)
theorem bJ.lt(h:bJ w base g n cap l):base≤g∧g<w.heap.size:=h.2.2.lt g rfl
theorem bJ.cases(h:bJ w base g n cap l):n≤cap∧cap≤maxLen:=by
 rcases h.2.2.2 with⟨h',_⟩ | ⟨g',aO,cur,h',_,hg,h1,h2,_⟩
 · simp at h'
 · simp only[Value.slice.injEq,Option.some.injEq,Addr.mk.injEq,and_true,true_and] at h';obtain⟨rfl,rfl⟩:=h';exact⟨h1,h2⟩
theorem bJ.mono(h:bJ w base g n cap l)(hb:base'≤base):bJ w base' g n cap l:=by
 refine⟨h.1,h.2.1,h.2.2.1,?_⟩;rcases h.2.2.2 with h' | ⟨g',aO,cur,h',h0,r⟩
 · exact .inl h'
 · exact .inr ⟨g',aO,cur,h',by omega,r⟩
theorem bJ.cell(h:bJ w base g n cap l):jU w g 0 l:=by
 intro i hi;have hl:=h.1;have k1:=h.2.2.cellAt (i * 2) (by omega)
 have k2:=h.2.2.cellAt (i * 2+1) (by omega)
 rw[qD l i hi] at k1;rw[qE l i hi] at k2;rw[Nat.zero_add];exact⟨k1,k2⟩
theorem bJ.key(h:bJ w base g n cap l)(i:Nat)(hi:i<l.length):w.cell? ⟨g,i * 2,none⟩=some (.string l[i].1):=by
 have:=(h.cell i hi).1; rwa[Nat.zero_add] at this
theorem bJ.val(h:bJ w base g n cap l)(i:Nat)(hi:i<l.length):w.cell? ⟨g,i * 2+1,none⟩=some (.string l[i].2):=by
 have:=(h.cell i hi).2; rwa[Nat.zero_add] at this
theorem bJ.frozen(h:bJ w base g n cap l)(i:Nat):w.frozen? ⟨g,i,none⟩=false:=h.2.2.frozenAt i
theorem bJ.sl(h:bJ w base g n cap l):lq w (some ⟨g,0,none⟩) n l:=
 ⟨h.1,by have:=h.cases; omega,h.2.1,fun _=>⟨g,0,rfl,h.cell⟩⟩
theorem bJ.grown(h:bJ w base g n cap l)(hg:w.grownBy w' row)(aW:some g≠row):bJ w' base g n cap l:=
 ⟨h.1,h.2.1,h.2.2.kept hg (.inr aW)⟩
theorem bJ.below(h:bJ w base g n cap l)(hb:Below w.heap.size w w'):bJ w' base g n cap l:=
 ⟨h.1,h.2.1,h.2.2.kept (row:=none) ⟨hb.os,hb.tape,hb.output,hb.size,fun k hk _=>hb.block k hk⟩ (.inr (by simp[Value.ownBlock]))⟩
theorem pw{i:Nat}{p:Pr}(h:∀q∈l,small q)(hp:small p):∀q∈l.set i p,small q:=by
 intro q hq;rcases List.mem_or_eq_of_mem_set hq with h1 | h1
 · exact h q h1
 · subst h1; exact hp
theorem bJ.CC(h:bJ w base g n cap l)(i:Nat)(hi:i<l.length)(k:ByteArray)(hk:k.size≤maxLen):
 bJ (w.setCell ⟨g,i * 2,none⟩ (.string k)) base g n cap (l.set i (k,l[i].2))∧w.grownBy (w.setCell ⟨g,i * 2,none⟩ (.string k)) (some g):=by
 have hs:=h.2.2.stored (i * 2) (.string k);rw[tn l i hi] at hs;exact⟨⟨by simpa using h.1,pw h.2.1 ⟨hk,(h.2.1 _ (List.getElem_mem hi)).2⟩,hs.1⟩,hs.2⟩
theorem bJ.ym(h:bJ w base g n cap l)(i:Nat)(hi:i<l.length)(v:ByteArray)(hv:v.size≤maxLen):
 bJ (w.setCell ⟨g,i * 2+1,none⟩ (.string v)) base g n cap (l.set i (l[i].1,v))∧w.grownBy (w.setCell ⟨g,i * 2+1,none⟩ (.string v)) (some g):=by
 have hs:=h.2.2.stored (i * 2+1) (.string v);rw[tp l i hi] at hs;exact⟨⟨by simpa using h.1,pw h.2.1 ⟨(h.2.1 _ (List.getElem_mem hi)).1,hv⟩,hs.1⟩,hs.2⟩
theorem df{v':Value}(hl:l.length=n)(hs:∀p∈l,small p)(h0:¬v'=.slice none 0 0)
 (h:w'.ownsRow base 100 2 v' n (aw l)):∃g' aO,v'=.slice (some ⟨g',0,none⟩) n aO∧bJ w' base g' n aO l:=by
 rcases h.2 with⟨h2,_⟩ | ⟨g',aO,cur,hv,_⟩
 · exact absurd h2 h0
 · subst hv;exact⟨g',aO,rfl,hl,hs,h⟩
theorem bX(w:World)(base:Nat)(hb:base≤w.heap.size):bJ (w.alloc (.cells #[] 100)) base w.heap.size 0 0 []:=
 ⟨rfl,fun s h=>absurd h List.not_mem_nil,World.ownsRow_made w #[] 0 hb (Nat.zero_le _) rfl⟩
theorem cM(h:jU w b off l):∀j v,(aw l)[j]? =some v→w.cell? ((⟨b,off,none⟩:Addr).add j)=some v:=by
 intro j v hj;have eL:j<l.length * 2:=by have:=(List.getElem?_eq_some_iff.1 hj).1; rwa[bo] at this
 rw[Addr.add_lit];have hm:j=(j / 2) * 2∨j=(j / 2) * 2+1:=by omega
 rcases hm with e | e
 · rw[e,qD l (j / 2) (by omega)] at hj
   rw[e,←hj]; exact(h (j / 2) (by omega)).1
 · rw[e,qE l (j / 2) (by omega)] at hj
   rw[e,←hj]; exact(h (j / 2) (by omega)).2
end
theorem mW:(Tryz.prog.info? 100).map (fun i=>(i.zero,i.size,i.bytes))=some (some (.agg #[.string ⟨#[]⟩,.string ⟨#[]⟩]),2,32):=by kernel_rfl
end av
namespace aN
open Go Go.RowKit base av
def dN(o:Od):Prop:=(Lit.int .i64 o.1).wf=true∧o.2.1.size≤maxLen∧o.2.2.size≤maxLen
def aM(l:List Od):List Value:=l.flatMap fun o=>[.int .i64 o.1,.string o.2.1,.string o.2.2]
theorem ei(o:Od)(l:List Od):aM (o::l)=.int .i64 o.1:: .string o.2.1:: .string o.2.2::aM l:=rfl
theorem ud(a b:List Od):aM (a++b)=aM a++aM b:=by simp[aM]
theorem cH(l:List Od):(aM l).length=l.length * 3:=by
 induction l with
 | nil=>rfl
 | cons o l ih=>rw[ei]; simp[ih]; omega
theorem uf(l:List Od)(i:Nat)(h:i<l.length):(aM l)[i * 3]? =some (.int .i64 l[i].1)∧(aM l)[i * 3+1]? =some (.string l[i].2.1)∧(aM l)[i * 3+2]? =some (.string l[i].2.2):=by
 induction l generalizing i with
 | nil=>simp at h
 | cons p l ih=>
  cases i with
  | zero=>exact⟨rfl,rfl,rfl⟩
  | succ i=>
   rw[ei,show(i+1) * 3=i * 3+1+1+1 by omega,show i * 3+1+1+1+1=(i * 3+1)+1+1+1 by omega,show i * 3+1+1+1+2=(i * 3+2)+1+1+1 by omega]
   simpa using ih i (by simpa using h)
theorem bz(l:List Od):∀v∈aM l,v.oneCell'=true:=by
 intro v hv;obtain⟨p,_,hp⟩:=List.mem_flatMap.1 hv;simp at hp;rcases hp with rfl | rfl | rfl <;> rfl
theorem tq(l:List Od)(i:Nat)(h:i<l.length)(z:Int):(aM l).set (i * 3) (.int .i64 z)=aM (l.set i (z,l[i].2)):=by
 induction l generalizing i with
 | nil=>simp at h
 | cons p l ih=>
  cases i with
  | zero=>rfl
  | succ i=>rw[ei,show(i+1) * 3=i * 3+1+1+1 by omega]; simp only[List.set_cons_succ,ei,List.getElem_cons_succ]; rw[ih i (by simpa using h)]
theorem ug(l:List Od)(i:Nat)(h:i<l.length)(k:ByteArray):(aM l).set (i * 3+1) (.string k)=aM (l.set i (l[i].1,k,l[i].2.2)):=by
 induction l generalizing i with
 | nil=>simp at h
 | cons p l ih=>
  cases i with
  | zero=>rfl
  | succ i=>rw[ei,show(i+1) * 3+1=i * 3+1+1+1+1 by omega]; simp only[List.set_cons_succ,ei,List.getElem_cons_succ]; rw[ih i (by simpa using h)]
theorem uh(l:List Od)(i:Nat)(h:i<l.length)(v:ByteArray):(aM l).set (i * 3+2) (.string v)=aM (l.set i (l[i].1,l[i].2.1,v)):=by
 induction l generalizing i with
 | nil=>simp at h
 | cons p l ih=>
  cases i with
  | zero=>rfl
  | succ i=>rw[ei,show(i+1) * 3+2=i * 3+2+1+1+1 by omega]; simp only[List.set_cons_succ,ei,List.getElem_cons_succ]; rw[ih i (by simpa using h)]
/-! ### slices of orders that are read -/
def nD(w:World)(b off:Nat)(l:List Od):Prop:=∀i (h:i<l.length),w.cell? ⟨b,off+i * 3,none⟩=some (.int .i64 l[i].1)∧w.cell? ⟨b,off+i * 3+1,none⟩=some (.string l[i].2.1)∧w.cell? ⟨b,off+i * 3+2,none⟩=some (.string l[i].2.2)
def dD(w:World)(a:Option Addr)(len:Nat)(l:List Od):Prop:=
 l.length=len∧len≤maxLen∧(∀p∈l,dN p)∧(0<len→∃b off,a=some ⟨b,off,none⟩∧nD w b off l)
theorem tK(w:World)(a:Option Addr):dD w a 0 []:=⟨rfl,Nat.zero_le _,(fun _ h=>absurd h List.not_mem_nil),fun h=>absurd h (by omega)⟩
section
variable{w w':World}{a:Option Addr}{b off len base base' g n cap:Nat}{l:List Od}{row:Option Nat}
theorem dD.cells(h:dD w (some ⟨b,off,none⟩) len l):nD w b off l:=by
 intro i hi;obtain⟨b',vY,e,hc⟩:=h.2.2.2 (by have:=h.1; omega)
 simp only[Option.some.injEq,Addr.mk.injEq,and_true] at e;obtain⟨rfl,rfl⟩:=e;exact hc i hi
theorem dD.lt(h:dD w (some ⟨b,off,none⟩) len l)(h0:0<len):b<w.heap.size:=
 World.block_lt_of_cell? w _ (h.cells 0 (by have:=h.1; omega)).1
theorem nD.keep(h:nD w b off l)(hk:∀o v,w.cell? ⟨b,o,none⟩=some v→w'.cell? ⟨b,o,none⟩=some v):nD w' b off l:=
 fun i hi=>⟨hk _ _ (h i hi).1,hk _ _ (h i hi).2.1,hk _ _ (h i hi).2.2⟩
theorem dD.below(h:dD w a len l)(hb:Below w.heap.size w w'):dD w' a len l:=by
 obtain⟨h1,h2,h4,h3⟩:=h;refine⟨h1,h2,h4,fun h0=>?_⟩
 obtain⟨b,off,rfl,hc⟩:=h3 h0;exact⟨b,off,rfl,hc.keep fun o v hv=>(hb.cell (p:=⟨b,o,none⟩) (World.block_lt_of_cell? w _ hv)).trans hv⟩
theorem dD.grown(h:dD w (some ⟨b,off,none⟩) len l)(hg:w.grownBy w' row)(aW:some b≠row):dD w' (some ⟨b,off,none⟩) len l:=
 ⟨h.1,h.2.1,h.2.2.1,fun _=>⟨b,off,rfl,h.cells.keep fun o v hv=>hg.cell hv aW⟩⟩
/-! ### rows of orders that a call made -/
def bR(w:World)(base g n cap:Nat)(l:List Od):Prop:=l.length=n∧(∀p∈l,dN p)∧w.ownsRow base 121 3 (.slice (some ⟨g,0,none⟩) n cap) n (aM l)
theorem bR.lt(h:bR w base g n cap l):base≤g∧g<w.heap.size:=h.2.2.lt g rfl
theorem bR.cases(h:bR w base g n cap l):n≤cap∧cap≤maxLen:=by
 rcases h.2.2.2 with⟨h',_⟩ | ⟨g',aO,cur,h',_,hg,h1,h2,_⟩
 · simp at h'
 · simp only[Value.slice.injEq,Option.some.injEq,Addr.mk.injEq,and_true,true_and] at h';obtain⟨rfl,rfl⟩:=h';exact⟨h1,h2⟩
theorem bR.mono(h:bR w base g n cap l)(hb:base'≤base):bR w base' g n cap l:=by
 refine⟨h.1,h.2.1,h.2.2.1,?_⟩;rcases h.2.2.2 with h' | ⟨g',aO,cur,h',h0,r⟩
 · exact .inl h'
 · exact .inr ⟨g',aO,cur,h',by omega,r⟩
theorem bR.cell(h:bR w base g n cap l):nD w g 0 l:=by
 intro i hi;have hl:=h.1;have k0:=h.2.2.cellAt (i * 3) (by omega)
 have k1:=h.2.2.cellAt (i * 3+1) (by omega)
 have k2:=h.2.2.cellAt (i * 3+2) (by omega)
 obtain⟨e0,e1,e2⟩:=uf l i hi;rw[e0] at k0;rw[e1] at k1;rw[e2] at k2;rw[Nat.zero_add];exact⟨k0,k1,k2⟩
theorem bR.kind(h:bR w base g n cap l)(i:Nat)(hi:i<l.length):w.cell? ⟨g,i * 3,none⟩=some (.int .i64 l[i].1):=by
 have:=(h.cell i hi).1; rwa[Nat.zero_add] at this
theorem bR.key(h:bR w base g n cap l)(i:Nat)(hi:i<l.length):w.cell? ⟨g,i * 3+1,none⟩=some (.string l[i].2.1):=by
 have:=(h.cell i hi).2.1; rwa[Nat.zero_add] at this
theorem bR.val(h:bR w base g n cap l)(i:Nat)(hi:i<l.length):w.cell? ⟨g,i * 3+2,none⟩=some (.string l[i].2.2):=by
 have:=(h.cell i hi).2.2; rwa[Nat.zero_add] at this
theorem bR.frozen(h:bR w base g n cap l)(i:Nat):w.frozen? ⟨g,i,none⟩=false:=h.2.2.frozenAt i
theorem bR.sl(h:bR w base g n cap l):dD w (some ⟨g,0,none⟩) n l:=
 ⟨h.1,by have:=h.cases; omega,h.2.1,fun _=>⟨g,0,rfl,h.cell⟩⟩
theorem bR.grown(h:bR w base g n cap l)(hg:w.grownBy w' row)(aW:some g≠row):bR w' base g n cap l:=
 ⟨h.1,h.2.1,h.2.2.kept hg (.inr aW)⟩
theorem bR.below(h:bR w base g n cap l)(hb:Below w.heap.size w w'):bR w' base g n cap l:=
 ⟨h.1,h.2.1,h.2.2.kept (row:=none) ⟨hb.os,hb.tape,hb.output,hb.size,fun k hk _=>hb.block k hk⟩ (.inr (by simp[Value.ownBlock]))⟩
theorem jV{i:Nat}{p:Od}(h:∀q∈l,dN q)(hp:dN p):∀q∈l.set i p,dN q:=by
 intro q hq;rcases List.mem_or_eq_of_mem_set hq with h1 | h1
 · exact h q h1
 · subst h1; exact hp
theorem bR.setKind(h:bR w base g n cap l)(i:Nat)(hi:i<l.length)(z:Int)(hz:(Lit.int .i64 z).wf=true):
 bR (w.setCell ⟨g,i * 3,none⟩ (.int .i64 z)) base g n cap (l.set i (z,l[i].2))∧w.grownBy (w.setCell ⟨g,i * 3,none⟩ (.int .i64 z)) (some g):=by
 have hs:=h.2.2.stored (i * 3) (.int .i64 z);rw[tq l i hi] at hs;exact⟨⟨by simpa using h.1,jV h.2.1 ⟨hz,(h.2.1 _ (List.getElem_mem hi)).2⟩,hs.1⟩,hs.2⟩
theorem bR.CC(h:bR w base g n cap l)(i:Nat)(hi:i<l.length)(k:ByteArray)(hk:k.size≤maxLen):
 bR (w.setCell ⟨g,i * 3+1,none⟩ (.string k)) base g n cap (l.set i (l[i].1,k,l[i].2.2))∧w.grownBy (w.setCell ⟨g,i * 3+1,none⟩ (.string k)) (some g):=by
 have hs:=h.2.2.stored (i * 3+1) (.string k);rw[ug l i hi] at hs;exact⟨⟨by simpa using h.1,jV h.2.1 ⟨(h.2.1 _ (List.getElem_mem hi)).1,hk,(h.2.1 _ (List.getElem_mem hi)).2.2⟩,hs.1⟩,hs.2⟩
theorem bR.ym(h:bR w base g n cap l)(i:Nat)(hi:i<l.length)(v:ByteArray)(hv:v.size≤maxLen):
 bR (w.setCell ⟨g,i * 3+2,none⟩ (.string v)) base g n cap (l.set i (l[i].1,l[i].2.1,v))∧w.grownBy (w.setCell ⟨g,i * 3+2,none⟩ (.string v)) (some g):=by
 have hs:=h.2.2.stored (i * 3+2) (.string v);rw[uh l i hi] at hs;exact⟨⟨by simpa using h.1,jV h.2.1 ⟨(h.2.1 _ (List.getElem_mem hi)).1,(h.2.1 _ (List.getElem_mem hi)).2.1,hv⟩,hs.1⟩,hs.2⟩
theorem bR.mq(h:bR w base g n cap l)(i:Nat)(hi:i<l.length)(z:Int)(k v:ByteArray)(hz:(Lit.int .i64 z).wf=true)(hk:k.size≤maxLen)(hv:v.size≤maxLen):
 bR (((w.setCell ⟨g,i * 3,none⟩ (.int .i64 z)).setCell ⟨g,i * 3+1,none⟩ (.string k)).setCell ⟨g,i * 3+2,none⟩ (.string v)) base g n cap (l.set i (z,k,v))∧w.grownBy (((w.setCell ⟨g,i * 3,none⟩ (.int .i64 z)).setCell ⟨g,i * 3+1,none⟩ (.string k)).setCell ⟨g,i * 3+2,none⟩ (.string v)) (some g):=by
 have h0:=h.setKind i hi z hz;have h1:=h0.1.CC i (by simpa using hi) k hk
 have h2:=h1.1.ym i (by simpa using hi) v hv
 simp only[List.getElem_set_self,List.set_set] at h2;simp only[List.getElem_set_self,List.set_set] at h1;exact⟨h2.1,ao (ao h0.2 h1.2) h2.2⟩
theorem ui{v':Value}(hl:l.length=n)(hs:∀p∈l,dN p)(h0:¬v'=.slice none 0 0)
 (h:w'.ownsRow base 121 3 v' n (aM l)):∃g' aO,v'=.slice (some ⟨g',0,none⟩) n aO∧bR w' base g' n aO l:=by
 rcases h.2 with⟨h2,_⟩ | ⟨g',aO,cur,hv,_⟩
 · exact absurd h2 h0
 · subst hv;exact⟨g',aO,rfl,hl,hs,h⟩
theorem lI(w:World)(base:Nat)(hb:base≤w.heap.size):bR (w.alloc (.cells #[] 121)) base w.heap.size 0 0 []:=
 ⟨rfl,fun s h=>absurd h List.not_mem_nil,World.ownsRow_made w #[] 0 hb (Nat.zero_le _) rfl⟩
theorem pS(h:nD w b off l):∀j v,(aM l)[j]? =some v→w.cell? ((⟨b,off,none⟩:Addr).add j)=some v:=by
 intro j v hj;have eL:j<l.length * 3:=by have:=(List.getElem?_eq_some_iff.1 hj).1; rwa[cH] at this
 rw[Addr.add_lit];obtain⟨e0,e1,e2⟩:=uf l (j / 3) (by omega)
 have hc:=h (j / 3) (by omega)
 have hm:j=(j / 3) * 3∨j=(j / 3) * 3+1∨j=(j / 3) * 3+2:=by omega
 rcases hm with e | e | e
 · rw[e,e0] at hj;rw[e,←hj]; exact hc.1
 · rw[e,e1] at hj;rw[e,←hj]; exact hc.2.1
 · rw[e,e2] at hj;rw[e,←hj]; exact hc.2.2
end
theorem sx:(Tryz.prog.info? 121).map (fun i=>(i.zero,i.size,i.bytes))=some (some (.agg #[.int .i64 0,.string ⟨#[]⟩,.string ⟨#[]⟩]),3,40):=by kernel_rfl
end aN
namespace Em
open Go.RowKit base
end Em
namespace sha
open Go.RowKit base Em
def v8(n x:Nat):Nat:=(x / 2 ^ n) ||| (x * 2 ^ (32 - n) % 4294967296)
def RE(x:Nat):Nat:=v8 7 x ^^^ v8 18 x ^^^ x / 8
def RF(x:Nat):Nat:=v8 17 x ^^^ v8 19 x ^^^ x / 1024
def RG(x:Nat):Nat:=v8 2 x ^^^ v8 13 x ^^^ v8 22 x
def RH(x:Nat):Nat:=v8 6 x ^^^ v8 11 x ^^^ v8 25 x
def ch(e f g:Nat):Nat:=(e &&& f) ^^^ ((4294967295 ^^^ e) &&& g)
def maj(a b c:Nat):Nat:=(a &&& b) ^^^ (a &&& c) ^^^ (b &&& c)
def Vz(bs:List UInt8)(i:Nat):Nat:=(bs.getD (4 * i) 0).toNat * 16777216+(bs.getD (4 * i+1) 0).toNat * 65536+(bs.getD (4 * i+2) 0).toNat * 256+(bs.getD (4 * i+3) 0).toNat
def Iq(bs:List UInt8)(w:List Nat)(k:Nat):Nat:=
 if k<16 then Vz bs k else(w.getD (k - 16) 0+RE (w.getD (k - 15) 0)+w.getD (k - 7) 0+RF (w.getD (k - 2) 0)) % 4294967296
def ws(bs:List UInt8):Nat→List Nat
 | 0=>[]
 | k+1=>ws bs k++[Iq bs (ws bs k) k]
def rnd(s:List Nat)(kw:Nat):List Nat:=
 let t1:=s.getD 7 0+RH (s.getD 4 0)+ch (s.getD 4 0) (s.getD 5 0) (s.getD 6 0)+kw
 let t2:=RG (s.getD 0 0)+maj (s.getD 0 0) (s.getD 1 0) (s.getD 2 0)
 [(t1+t2) % 4294967296,s.getD 0 0,s.getD 1 0,s.getD 2 0,(s.getD 3 0+t1) % 4294967296,s.getD 4 0,s.getD 5 0,s.getD 6 0]
def rounds(ks w s:List Nat):Nat→List Nat
 | 0=>s
 | i+1=>rnd (rounds ks w s i) (ks.getD i 0+w.getD i 0)
def Oy(a b:List Nat):List Nat:=(List.range 8).map fun i=>(a.getD i 0+b.getD i 0) % 4294967296
def block(ks h:List Nat)(bs:List UInt8):List Nat:=Oy (rounds ks (ws bs 64) h 64) h
end sha
namespace aZ
open Go Go.RowKit base av aN pO oF mo oE nC tJ
abbrev Rc:=Int × Int × List Od
def bf(r:Rc):Bool:=decide (1≤r.2.1∧r.2.1≤1000000) && (if r.1=1 then bM r.2.2 else decide (r.1=2∨r.1=3) && r.2.2.isEmpty)
/-! ### bytes and back -/
theorem bE(r:Rc):bf r=true↔(1≤r.2.1∧r.2.1≤1000000)∧((r.1=1∧bM r.2.2=true)∨((r.1=2∨r.1=3)∧r.2.2=[])):=by
 unfold bf;rw[Bool.and_eq_true,decide_eq_true_iff];by_cases h:r.1=1
 · rw[if_pos h];constructor
   · rintro⟨h1,h2⟩; exact⟨h1,.inl ⟨h,h2⟩⟩
   · rintro⟨h1,⟨_,h2⟩ | ⟨h2,_⟩⟩
     · exact⟨h1,h2⟩
     · omega
 · rw[if_neg h,Bool.and_eq_true,decide_eq_true_iff,List.isEmpty_iff];constructor
   · rintro⟨h1,h2,h3⟩; exact⟨h1,.inr ⟨h2,h3⟩⟩
   · rintro⟨h1,⟨h2,_⟩ | h2⟩
     · omega
     · exact⟨h1,h2.1,h2.2⟩
/-! ### records one behind the other -/
/-! ### what records make -/
abbrev St:=List Pr × List Rc × List Int
def locked(held:List Rc)(ops:List Od):Bool:=held.any fun h=>h.2.2.any fun o=>ops.any fun p=>decide (o.2.1=p.2.1)
def aH(tx:Int):List Rc→Option Nat
 | []=>none
 | r::l=>if r.2.1=tx then some 0 else(aH tx l).map (· +1)
def bS(held:List Rc)(k:Nat):List Od:=match held[k]? with | none=>[] | some r=>r.2.2
def gS(s:St)(r:Rc)(k:Nat):List Pr:=if r.1=2 then aG s.1 (bS s.2.1 k) else s.1
def one(s:St)(r:Rc):Option St:=
 if bf r=true then
  if r.1=1 then
   if decide (r.2.1∈s.2.2)=true∨locked s.2.1 r.2.2=true∨meets s.1 r.2.2=false then none else some (s.1,s.2.1++[r],s.2.2++[r.2.1])
  else match aH r.2.1 s.2.1 with
   | none=>if r.1=3∧r.2.1∉s.2.2 then some (s.1,s.2.1,s.2.2++[r.2.1]) else none
   | some k=>if(gS s r k).length≤60 then some (gS s r k,s.2.1.take k++s.2.1.drop (k+1),s.2.2) else none
 else none
def bA:St→List Rc→Option St
 | s,[]=>some s
 | s,r::l=>match one s r with
  | none=>none
  | some t=>bA t l
def replay(l:List Rc):Option St:=bA ([],[],[]) l
theorem jw(s:St)(a b:List Rc):bA s (a++b)=match bA s a with | none=>none | some t=>bA t b:=by
 induction a generalizing s with
 | nil=>rfl
 | cons r a ih=>
  simp only[List.cons_append,bA];cases one s r with
  | none=>rfl
  | some t=>exact ih t
def Ir(l:List Rc)(s:St):Prop:=tI s.1=true∧(∀r∈s.2.1,r∈l∧r.1=1∧bf r=true)∧∀r∈s.2.1,r.2.1∈s.2.2
theorem hI{tx:Int}{l:List Rc}{k:Nat}(h:aH tx l=some k):∃hk:k<l.length,l[k].2.1=tx:=by
 induction l generalizing k with
 | nil=>cases h
 | cons r l ih=>
  rw[aH] at h
  split at h
  · next h1=>cases h; exact⟨by simp,h1⟩
  · cases hp:aH tx l with
    | none=>rw[hp] at h; cases h
    | some j=>
     rw[hp] at h;simp only[Option.map_some,Option.some.injEq] at h;subst h;obtain⟨hj,e⟩:=ih hp;exact⟨by simp; omega,by simpa using e⟩
theorem mr{tx:Int}{l:List Rc}(h:aH tx l=none):∀r∈l,r.2.1≠tx:=by
 induction l with
 | nil=>intro r hr; exact absurd hr List.not_mem_nil
 | cons x l ih=>
  rw[aH] at h
  split at h
  · cases h
  · next aW=>
    intro r hr;rcases List.mem_cons.1 hr with e | e
    · subst e; exact aW
    · exact ih (by cases hp:aH tx l with | none=>rfl | some j=>rw[hp] at h; cases h) r e
theorem CD{m:List Pr}{l:List Od}(h1:∀p∈m,fI p=true)(h2:rG m)(hl:∀o∈l,dF o=true):(∀p∈aG m l,fI p=true)∧rG (aG m l):=by
 induction l generalizing m with
 | nil=>exact⟨h1,h2⟩
 | cons o l ih=>
  rw[CB];have ho:=(jT o).1 (hl o List.mem_cons_self);refine ih ?_ ?_ (fun x hx=>hl x (List.mem_cons_of_mem _ hx))
  · intro p hp;unfold iP at hp
    split at hp
    · rcases Cy hp with e | e
      · exact h1 p e
      · subst e; unfold fI; rw[ho.2.2.1]; simpa using ho.2.2.2
    · split at hp
      · exact h1 p (List.mem_filter.1 hp).1
      · exact h1 p hp
  · unfold iP
    split
    · exact Ip h2
    · split
      · exact List.Pairwise.filter _ h2
      · exact h2
theorem Is{held:List Rc}(h:∀r∈held,bf r=true∧r.1=1)(k:Nat):∀o∈bS held k,dF o=true:=by
 unfold bS;cases hk:held[k]? with
 | none=>intro o ho; exact absurd ho List.not_mem_nil
 | some r=>
  have hr:=h r (List.mem_of_getElem? hk);obtain⟨_,⟨_,h2⟩ | ⟨h2,_⟩⟩:=(bE r).1 hr.1
  · exact((bq _).1 h2).1.1
  · omega
theorem En{l:List Rc}{k:Nat}{r:Rc}(h:r∈l.take k++l.drop (k+1)):r∈l:=by
 rcases List.mem_append.1 h with h1 | h1
 · exact List.mem_of_mem_take h1
 · exact List.mem_of_mem_drop h1
theorem It{l:List Rc}{s t:St}{r:Rc}(hs:Ir l s)(hr:r∈l)(h:one s r=some t):Ir l t:=by
 obtain⟨h1,h2,h3⟩:=hs;unfold one at h
 split at h
 · next bD=>
   split at h
   · next hk=>
     split at h
     · cases h
     · cases h;refine⟨h1,fun x hx=>?_,fun x hx=>?_⟩
       · rcases List.mem_append.1 hx with e | e
         · exact h2 x e
         · rw[List.mem_singleton.1 e]; exact⟨hr,hk,bD⟩
       · rcases List.mem_append.1 hx with e | e
         · exact List.mem_append.2 (.inl (h3 x e))
         · rw[List.mem_singleton.1 e]; exact List.mem_append.2 (.inr (by simp))
   · split at h
     · split at h
       · cases h;exact⟨h1,h2,fun x hx=>List.mem_append.2 (.inl (h3 x hx))⟩
       · cases h
     · next k hp=>
       split at h
       · next hlen=>
         cases h;refine⟨?_,fun x hx=>h2 x (En hx),fun x hx=>h3 x (En hx)⟩
         have h4:=(kE s.1).1 h1;show tI (gS s r k)=true;unfold gS at hlen ⊢
         split
         · next h5=>
           rw[if_pos h5] at hlen;exact(kE _).2 ⟨CD h4.1.1 h4.1.2 (Is (fun x hx=>⟨(h2 x hx).2.2,(h2 x hx).2.1⟩) k),hlen⟩
         · exact h1
       · cases h
 · cases h
theorem z_{l l':List Rc}{s t:St}(hs:Ir l s)(hr:∀r∈l',r∈l)(h:bA s l'=some t):Ir l t:=by
 induction l' generalizing s with
 | nil=>cases h; exact hs
 | cons r l' ih=>
  rw[bA] at h;cases ho:one s r with
  | none=>rw[ho] at h; cases h
  | some u=>
   rw[ho] at h;exact ih (It hs (hr r List.mem_cons_self) ho) (fun x hx=>hr x (List.mem_cons_of_mem _ hx)) h
theorem rH{l:List Rc}{t:St}(h:replay l=some t):Ir l t:=by
 refine z_ (s:=([],[],[])) ?_ (fun r hr=>hr) h
 exact⟨rfl,fun r hr=>absurd hr List.not_mem_nil,fun r hr=>absurd hr List.not_mem_nil⟩
end aZ
namespace aZ
open Go Go.RowKit base av aN
def h_(x:Rc):Prop:=(Lit.int .i64 x.1).wf=true∧(Lit.int .i64 x.2.1).wf=true∧∀o∈x.2.2,dN o
/-! ### a slice of orders of the call's own, or nil -/
def cD(w:World)(base:Nat)(v:Value)(l:List Od):Prop:=(∀p∈l,dN p)∧w.ownsRow base 121 3 v l.length (aM l)
section
variable{w w':World}{base base':Nat}{v:Value}{l:List Od}{row:Option Nat}
theorem Aa(w:World)(base:Nat):cD w base (.slice none 0 0) []:=⟨fun _ h=>absurd h List.not_mem_nil,World.ownsRow_nil _ _ _ _⟩
theorem fv{g n cap:Nat}(h:bR w base g n cap l):cD w base (.slice (some ⟨g,0,none⟩) n cap) l:=⟨h.2.1,by rw[h.1]; exact h.2.2⟩
theorem cD.shape(h:cD w base v l):(v=.slice none 0 0∧l=[])∨∃g cap,v=.slice (some ⟨g,0,none⟩) l.length cap∧bR w base g l.length cap l:=by
 rcases h.2.2 with⟨rfl,h0⟩ | ⟨g,cap,cur,rfl,_⟩
 · exact .inl ⟨rfl,List.eq_nil_of_length_eq_zero h0⟩
 · exact .inr ⟨g,cap,rfl,rfl,h.1,h.2⟩
theorem cD.lt(h:cD w base v l)(k:Nat)(hk:v.ownBlock=some k):base≤k∧k<w.heap.size:=h.2.lt k hk
theorem cD.bN(h:cD w base v l)(hk:∀k,v.ownBlock=some k→w'.heap[k]? =w.heap[k]?):cD w' base v l:=by
 refine⟨h.1,h.2.1,?_⟩;rcases h.2.2 with h' | ⟨g,cap,cur,rfl,h0,hg,r⟩
 · exact .inl h'
 · exact .inr ⟨g,cap,cur,rfl,h0,(hk g rfl).trans hg,r⟩
theorem cD.below(h:cD w base v l)(hb:Below w.heap.size w w'):cD w' base v l:=h.bN fun k hk=>hb.block k (h.lt k hk).2
theorem cD.grown(h:cD w base v l)(hg:w.grownBy w' row)(aW:v.ownBlock=none∨v.ownBlock≠row):cD w' base v l:=
 h.bN fun k hk=>hg.block k (h.lt k hk).2 (fun e=>by
  rcases aW with h1 | h1
  · rw[hk] at h1; cases h1
  · exact h1 (hk.trans e))
theorem cD.mono(h:cD w base v l)(hb:base'≤base):cD w base' v l:=by
 refine⟨h.1,h.2.1,?_⟩;rcases h.2.2 with h' | ⟨g,cap,cur,rfl,h0,r⟩
 · exact .inl h'
 · exact .inr ⟨g,cap,cur,rfl,by omega,r⟩
theorem cD.sl(h:cD w base v l):∃a cap,v=.slice a l.length cap∧dD w a l.length l∧l.length≤cap:=by
 rcases h.shape with⟨rfl,rfl⟩ | ⟨g,cap,rfl,hO⟩
 · exact⟨none,0,rfl,tK _ _,Nat.le_refl _⟩
 · exact⟨_,cap,rfl,hO.sl,hO.cases.1⟩
theorem cD.one(h:cD w base v l):v.oneCell'=true:=by
 rcases h.shape with⟨rfl,_⟩ | ⟨g,cap,rfl,_⟩ <;> rfl
end
/-! ### records that are read -/
def Iu(w:World)(b o:Nat)(x:Rc):Prop:=
 w.cell? ⟨b,o,none⟩=some (.int .i64 x.1)∧w.cell? ⟨b,o+1,none⟩=some (.int .i64 x.2.1)∧∃pa pl pc,w.cell? ⟨b,o+2,none⟩=some (.slice pa pl pc)∧dD w pa pl x.2.2∧pl≤pc
theorem Iu.below{w w':World}{b o:Nat}{x:Rc}(h:Iu w b o x)(hb:Below w.heap.size w w'):Iu w' b o x:=by
 have keep:∀o v,w.cell? ⟨b,o,none⟩=some v→w'.cell? ⟨b,o,none⟩=some v:=fun o v hv=>(hb.cell (p:=⟨b,o,none⟩) (World.block_lt_of_cell? w _ hv)).trans hv
 obtain⟨h1,h2,pa,pl,pc,h3,h4,h5⟩:=h;exact⟨keep _ _ h1,keep _ _ h2,pa,pl,pc,keep _ _ h3,h4.below hb,h5⟩
def rs(w:World)(a:Option Addr)(len:Nat)(l:List Rc):Prop:=
 l.length=len∧len≤maxLen∧(∀x∈l,h_ x)∧(0<len→∃b off,a=some ⟨b,off,none⟩∧∀i (h:i<l.length),Iu w b (off+i * 3) l[i])
theorem LI(w:World)(a:Option Addr):rs w a 0 []:=⟨rfl,Nat.zero_le _,(fun _ h=>absurd h List.not_mem_nil),fun h=>absurd h (by omega)⟩
theorem rs.below{w w':World}{a:Option Addr}{len:Nat}{l:List Rc}(h:rs w a len l)(hb:Below w.heap.size w w'):rs w' a len l:=by
 obtain⟨h1,h2,h3,h4⟩:=h;refine⟨h1,h2,h3,fun h0=>?_⟩
 obtain⟨b,off,e,hc⟩:=h4 h0;exact⟨b,off,e,fun i hi=>(hc i hi).below hb⟩
theorem rs.at{w:World}{b off len:Nat}{l:List Rc}(h:rs w (some ⟨b,off,none⟩) len l)(i:Nat)(hi:i<l.length):Iu w b (off+i * 3) l[i]:=by
 obtain⟨b',vY,e,hc⟩:=h.2.2.2 (by have:=h.1; omega)
 simp only[Option.some.injEq,Addr.mk.injEq,and_true] at e;obtain⟨rfl,rfl⟩:=e;exact hc i hi
theorem rs.cut{w:World}{b off len:Nat}{l:List Rc}(h:rs w (some ⟨b,off,none⟩) len l)(k:Nat)(hk:k≤len):rs w (some ⟨b,off,none⟩) k (l.take k):=by
 have fl:=h.at;refine⟨by have:=h.1; simp; omega,by have:=h.2.1; omega,fun x hx=>h.2.2.1 x (List.mem_of_mem_take hx),fun _=>⟨b,off,rfl,fun i hi=>?_⟩⟩
 have QS:i<l.length:=by simp at hi; omega
 rw[List.getElem_take];exact fl i QS
/-! ### rows of records that a call made: the orders of each lie in a row of their own -/
def aX(l:List Rc)(hs:List Value):List Value:=(l.zip hs).flatMap fun q=>[.int .i64 q.1.1,.int .i64 q.1.2.1,q.2]
theorem fW(x:Rc)(l:List Rc)(y:Value)(hs:List Value):aX (x::l) (y::hs)=.int .i64 x.1:: .int .i64 x.2.1::y::aX l hs:=rfl
theorem dO(l:List Rc)(hs:List Value)(h:hs.length=l.length):(aX l hs).length=l.length * 3:=by
 induction l generalizing hs with
 | nil=>rfl
 | cons x l ih=>
  cases hs with
  | nil=>simp at h
  | cons y hs=>simp at h; have:=ih hs h; rw[fW]; simp[this]; omega
theorem Ab(l:List Rc)(hs:List Value)(h:hs.length=l.length)(i:Nat)(hi:i<l.length):
 (aX l hs)[i * 3]? =some (.int .i64 l[i].1)∧(aX l hs)[i * 3+1]? =some (.int .i64 l[i].2.1)∧(aX l hs)[i * 3+2]? =some (hs[i]'(by omega)):=by
 induction l generalizing hs i with
 | nil=>simp at hi
 | cons x l ih=>
  cases hs with
  | nil=>simp at h
  | cons y hs=>
   rw[fW];cases i with
   | zero=>exact⟨rfl,rfl,rfl⟩
   | succ i=>
    have:=ih hs (by simpa using h) i (by simpa using hi)
    rw[show(i+1) * 3=i * 3+1+1+1 by omega]
    simpa using this
theorem fK(l l2:List Rc)(hs px:List Value)(h:hs.length=l.length):aX (l++l2) (hs++px)=aX l hs++aX l2 px:=by
 unfold aX;rw[List.zip_append h.symm,List.flatMap_append]
theorem dZ(l:List Rc)(hs:List Value)(h:∀y∈hs,y.oneCell'=true):∀v∈aX l hs,v.oneCell'=true:=by
 intro v hv;obtain⟨q,hq,hv⟩:=List.mem_flatMap.1 hv;simp at hv;rcases hv with rfl | rfl | rfl
 · rfl
 · rfl
 · exact h _ (List.of_mem_zip hq).2
structure bm (w:World) (base:Nat) (v:Value) (l:List Rc) (hs:List Value):Prop where
 len:hs.length=l.length
 sm:∀x∈l,h_ x
 row:w.ownsRow base 98 3 v l.length (aX l hs)
 ops:∀i (h:i<l.length),cD w base (hs[i]'(by omega)) l[i].2.2
 apart:hs.Pairwise fun a b=>a.ownBlock=none∨a.ownBlock≠b.ownBlock
 out:∀k,v.ownBlock=some k→∀y∈hs,y.ownBlock≠some k
section
variable{w w':World}{base base' g n cap:Nat}{v:Value}{l:List Rc}{hs:List Value}
theorem Ac(w:World)(base:Nat):bm w base (.slice none 0 0) [] []:=
 ⟨rfl,(fun _ h=>absurd h List.not_mem_nil),⟨rfl,.inl ⟨rfl,rfl⟩⟩,fun i hi=>absurd hi (by simp),List.Pairwise.nil,fun k hk=>by cases hk⟩
theorem oG(w:World)(base:Nat)(hb:base≤w.heap.size):bm (w.alloc (.cells #[] 98)) base (.slice (some ⟨w.heap.size,0,none⟩) 0 0) [] []:=
 ⟨rfl,(fun _ h=>absurd h List.not_mem_nil),World.ownsRow_made w #[] 0 hb (Nat.zero_le _) rfl,fun i hi=>absurd hi (by simp),List.Pairwise.nil,fun k _ y hy=>absurd hy List.not_mem_nil⟩
def c_(v:Value)(hs:List Value)(k:Nat):Prop:=v.ownBlock=some k∨∃y∈hs,y.ownBlock=some k
theorem cG{e:TypeId}{size n:Nat}{xs:List Value}(h:w.ownsRow base e size v n xs)(hk:∀k,v.ownBlock=some k→w'.heap[k]? =w.heap[k]?):w'.ownsRow base e size v n xs:=by
 refine⟨h.1,?_⟩;rcases h.2 with h' | ⟨g,cap,cur,rfl,h0,hg,r⟩
 · exact .inl h'
 · exact .inr ⟨g,cap,cur,rfl,h0,(hk g rfl).trans hg,r⟩
theorem bm.aY(h:bm w base v l hs)(hk:∀k,c_ v hs k→w'.heap[k]? =w.heap[k]?):bm w' base v l hs:=
 ⟨h.len,h.sm,cG h.row (fun k e=>hk k (.inl e)),fun i hi=>(h.ops i hi).bN (fun k e=>hk k (.inr ⟨hs[i]'(by have:=h.len; omega),List.getElem_mem _,e⟩)),h.apart,h.out⟩
theorem bm.lt(h:bm w base v l hs)(k:Nat)(hk:c_ v hs k):base≤k∧k<w.heap.size:=by
 rcases hk with e | ⟨y,hy,e⟩
 · exact h.row.lt k e
 · obtain⟨i,hi,rfl⟩:=List.getElem_of_mem hy;exact(h.ops i (by have:=h.len; omega)).lt k e
theorem bm.below(h:bm w base v l hs)(hb:Below w.heap.size w w'):bm w' base v l hs:=h.aY fun k hk=>hb.block k (h.lt k hk).2
theorem bm.grown(h:bm w base v l hs){k:Nat}(hg:w.grownBy w' (some k))(aW:¬c_ v hs k):bm w' base v l hs:=
 h.aY (fun j hj=>hg.block j (h.lt j hj).2 (fun e=>by cases e; exact aW hj))
theorem bm.mono(h:bm w base v l hs)(hb:base'≤base):bm w base' v l hs:=by
 refine⟨h.len,h.sm,⟨h.row.1,?_⟩,fun i hi=>(h.ops i hi).mono hb,h.apart,h.out⟩
 rcases h.row.2 with h' | ⟨g,cap,cur,rfl,h0,r⟩
 · exact .inl h'
 · exact .inr ⟨g,cap,cur,rfl,by omega,r⟩
theorem bm.shape(h:bm w base v l hs):(v=.slice none 0 0∧l=[]∧hs=[])∨∃g cap,v=.slice (some ⟨g,0,none⟩) l.length cap∧l.length≤cap∧cap≤maxLen:=by
 rcases h.row.2 with⟨rfl,h0⟩ | ⟨g,cap,cur,rfl,_,_,h1,h2,_⟩
 · have:l=[]:=List.eq_nil_of_length_eq_zero h0;subst this;exact .inl ⟨rfl,rfl,List.eq_nil_of_length_eq_zero (by simpa using h.len)⟩
 · exact .inr ⟨g,cap,rfl,h1,h2⟩
theorem bm.nf{a:Option Addr}(h:bm w base (.slice a n cap) l hs):n=l.length:=by
 rcases h.shape with⟨e,rfl,_⟩ | ⟨g',c',e,_⟩
 · cases e; rfl
 · cases e; rfl
theorem bm.room{a:Option Addr}(h:bm w base (.slice a n cap) l hs):n≤cap∧cap≤maxLen:=by
 rcases h.shape with⟨e,rfl,_⟩ | ⟨g',c',e,h1,h2⟩
 · cases e; exact⟨Nat.le_refl _,Nat.zero_le _⟩
 · cases e; exact⟨h1,h2⟩
theorem bm.at(h:bm w base (.slice (some ⟨g,0,none⟩) n cap) l hs)(i:Nat)(hi:i<l.length):
 w.cell? ⟨g,i * 3,none⟩=some (.int .i64 l[i].1)∧w.cell? ⟨g,i * 3+1,none⟩=some (.int .i64 l[i].2.1)∧w.cell? ⟨g,i * 3+2,none⟩=some (hs[i]'(by have:=h.len; omega)):=by
 obtain rfl:=h.nf;obtain⟨h1,h2,h3⟩:=Ab l hs h.len i hi;have key:∀j u,(aX l hs)[j]? =some u→w.cell? ⟨g,j,none⟩=some u:=fun j u hu=>by
  have:=h.row.cells (g:=g) rfl j u hu;rw[Addr.add_lit,Nat.zero_add] at this;exact this
 exact⟨key _ _ h1,key _ _ h2,key _ _ h3⟩
theorem bm.frozen(h:bm w base (.slice (some ⟨g,0,none⟩) n cap) l hs)(j:Nat):w.frozen? ⟨g,j,none⟩=false:=by
 obtain rfl:=h.nf;exact h.row.frozenAt j
theorem bm.sl{a:Option Addr}(h:bm w base (.slice a n cap) l hs):rs w a n l:=by
 rcases h.shape with⟨e,rfl,_⟩ | ⟨g,c,e,h1,h2⟩
 · cases e; exact LI _ _
 · cases e;refine⟨rfl,by omega,h.sm,fun _=>⟨g,0,rfl,fun i hi=>?_⟩⟩
   obtain⟨c1,c2,c3⟩:=h.at i hi;rw[Nat.zero_add];obtain⟨a,cp,e,hS,hc⟩:=(h.ops i hi).sl;rw[e] at c3;exact⟨c1,c2,_,_,_,c3,hS,hc⟩
theorem bm.one(h:bm w base v l hs):∀y∈hs,y.oneCell'=true:=by
 intro y hy;obtain⟨i,hi,rfl⟩:=List.getElem_of_mem hy;exact(h.ops i (by have:=h.len; omega)).one
/-! ### all blocks but those of a slice of records are as they were -/
/-! ### stores -/
theorem yn(l:List Rc)(hs:List Value)(h:hs.length=l.length)(i:Nat)(hi:i<l.length)(z:Int):(aX l hs).set (i * 3) (.int .i64 z)=aX (l.set i (z,l[i].2)) hs:=by
 induction l generalizing hs i with
 | nil=>simp at hi
 | cons x l ih=>
  cases hs with
  | nil=>simp at h
  | cons y hs=>
   cases i with
   | zero=>rfl
   | succ i=>
    rw[fW,show(i+1) * 3=i * 3+1+1+1 by omega]
    simp only[List.set_cons_succ,List.getElem_cons_succ,fW];rw[ih hs (by simpa using h) i (by simpa using hi)]
theorem nE{i:Nat}{x:Rc}(h:∀y∈l,h_ y)(hx:h_ x):∀y∈l.set i x,h_ y:=by
 intro y hy;rcases List.mem_or_eq_of_mem_set hy with h1 | h1
 · exact h y h1
 · subst h1; exact hx
theorem LJ(h:bm w base v l hs)(i:Nat)(hi:i<l.length)(a b:Int):∀j (hj:j<(l.set i (a,b,l[i].2.2)).length),cD w base (hs[j]'(by have:=h.len; simp at hj; omega)) (l.set i (a,b,l[i].2.2))[j].2.2:=by
 intro j hj;have eL:j<l.length:=by simpa using hj
 have:=h.ops j eL;by_cases e:i=j
 · subst e; rw[List.getElem_set_self]; exact this
 · rw[List.getElem_set_ne e]; exact this
theorem bm.setKind(h:bm w base (.slice (some ⟨g,0,none⟩) n cap) l hs)(i:Nat)(hi:i<l.length)(z:Int)(hz:(Lit.int .i64 z).wf=true):
 bm (w.setCell ⟨g,i * 3,none⟩ (.int .i64 z)) base (.slice (some ⟨g,0,none⟩) n cap) (l.set i (z,l[i].2)) hs∧w.grownBy (w.setCell ⟨g,i * 3,none⟩ (.int .i64 z)) (some g):=by
 obtain rfl:=h.nf;have tL:=h.row.stored (i * 3) (.int .i64 z);rw[yn l hs h.len i hi z] at tL;have eW:=h.sm l[i] (List.getElem_mem hi);refine⟨⟨by simpa using h.len,nE h.sm ⟨hz,eW.2⟩,by simpa using tL.1,fun j hj=>?_,h.apart,h.out⟩,tL.2⟩
 refine(LJ h i hi z l[i].2.1 j hj).grown tL.2 (.inr (fun e=>?_))
 exact h.out g rfl _ (List.getElem_mem _) e
theorem fX{e1 e2:TypeId}{s1 s2 n1 n2:Nat}{v1 v2:Value}{x1 x2:List Value}{k b1 b2:Nat}(h1:w.ownsRow b1 e1 s1 v1 n1 x1)(h2:w.ownsRow b2 e2 s2 v2 n2 x2)(nr:v1.ownBlock=some k)(gY:v2.ownBlock=some k)(aW:e1≠e2):False:=by
 rcases h1.2 with⟨rfl,_⟩ | ⟨g,c,cur,rfl,_,hg,_⟩
 · cases nr
 rcases h2.2 with⟨rfl,_⟩ | ⟨g2,c2,cur2,rfl,_,lC,_⟩
 · cases gY
 cases nr;simp only[Value.ownBlock,Option.some.injEq] at gY;rw[gY,hg] at lC
 injection lC with lC
 injection lC with _ he
 exact aW he
theorem bm.snoc{w7:World}{x:Rc}{y v7:Value}(h:bm w base v l hs)(hP:cD w base y x.2.2)(hx:h_ x)(hy:∀k,y.ownBlock=some k→¬c_ v hs k)
 (aB:w7.ownsRow base 98 3 v7 (l.length+1) (aX l hs++[.int .i64 x.1,.int .i64 x.2.1,y])) (az:w.grownBy w7 v.ownBlock):bm w7 base v7 (l++[x]) (hs++[y]):=by
 have hlen:=h.len;have LK:∀i (hi:i<(l++[x]).length),cD w7 base ((hs++[y])[i]'(by simp at hi ⊢; omega)) (l++[x])[i].2.2:=by
  intro i hi;by_cases e:i<l.length
  · rw[List.getElem_append_left e];simp only[List.getElem_append_left (show i<hs.length by omega)]
    refine(h.ops i e).grown az ?_;by_cases hv:v.ownBlock=none
    · by_cases h1:(hs[i]'(by omega)).ownBlock=none
      · exact .inl h1
      · exact .inr (by rw[hv]; exact h1)
    · obtain⟨k,hk⟩:=Option.ne_none_iff_exists'.1 hv;exact .inr (by rw[hk]; exact h.out k hk _ (List.getElem_mem _))
  · have:i=l.length:=by simp at hi; omega
    subst this;rw[List.getElem_append_right (Nat.le_refl _)];simp only[List.getElem_append_right (show hs.length≤l.length by omega)]
    simp only[hlen,Nat.sub_self,List.getElem_cons_zero];refine hP.grown az ?_;by_cases hv:y.ownBlock=none
    · exact .inl hv
    · obtain⟨k,hk⟩:=Option.ne_none_iff_exists'.1 hv;exact .inr (by rw[hk]; exact fun e2=>hy k hk (.inl e2.symm))
 refine⟨by simp[hlen],fun z hz=>?_,?_,LK,?_,fun k hk z hz e=>?_⟩
 · rcases List.mem_append.1 hz with h1 | h1
   · exact h.sm z h1
   · rw[List.mem_singleton.1 h1]; exact hx
 · rw[fK l [x] hs [y] hlen,List.length_append]; exact aB
 · rw[List.pairwise_append];refine⟨h.apart,List.pairwise_singleton _ _,fun a ha z hz=>?_⟩
   rw[List.mem_singleton.1 hz];by_cases h1:a.ownBlock=none
   · exact .inl h1
   · right;intro e;obtain⟨k,hk⟩:=Option.ne_none_iff_exists'.1 h1;exact hy k (by rw[←e,hk]) (.inr ⟨a,ha,hk⟩)
 · obtain⟨i,hi,rfl⟩:=List.getElem_of_mem hz;have hS:=LK i (by simp at hi ⊢; omega)
   exact fX aB hS.2 hk e (by decide)
end
end aZ
end Go.Proofs.YtmibabclefgljaaGreat
