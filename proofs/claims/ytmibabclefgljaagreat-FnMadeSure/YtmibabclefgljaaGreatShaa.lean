/- Lay Base App PairMath PairLaw Help GetNum GetNumS GetText HelpS GetTexts PutNum PutText PutTexts NumMath -/
import Derived.WalkKit
import Derived.WalkSpells
import Derived.WalkLawsBesides
import Derived.OwnWalk
import Derived.Deep.AppendLies
import Derived.Lib.ConvBytes
import Derived.Test.YtmibabclefgljaaGreatRows
import Derived.Deep.QuietTactic
import Derived.BigQuiet
import Derived.Deep.RegionWith
import Derived.Laws.CopyOwn
import Derived.Laws.BytesArg
import Derived.Lib.AppendStr
import Derived.ArgAppend
import Derived.Deep.RegionLaw
import Derived.Sort.Walk0
import Derived.WideShapes
set_option linter.unusedVariables false
set_option linter.unusedSimpArgs false
namespace Go.Proofs.YtmibabclefgljaaGreat
namespace lay
open Go Go.RowKit
/-! ### what a step leaves as it was -/
structure Frame (G:List Nat) (w w':World):Prop where
 os:w'.os=w.os
 tape:w'.tape=w.tape
 output:w'.output=w.output
 size:w.heap.size≤w'.heap.size
 block:∀j,j<w.heap.size→j∉G→w'.heap[j]? =w.heap[j]?
def fJ(w:World)(F F':List Nat):Prop:=∀k∈F',k∈F∨w.heap.size≤k
section
variable{G G' F F' UI:List Nat}{w w' Iq:World}{B:Nat}
theorem Frame.refl(G:List Nat)(w:World):Frame G w w:=⟨rfl,rfl,rfl,Nat.le_refl _,fun _ _ _=>rfl⟩
theorem Frame.trans(h:Frame G w w')(k:Frame G' w' Iq)(hf:fJ w G G'):Frame G w Iq:=
 ⟨k.os.trans h.os,k.tape.trans h.tape,k.output.trans h.output,Nat.le_trans h.size k.size,fun j hj hn=>(k.block j (Nat.lt_of_lt_of_le hj h.size) (fun e=>by
  rcases hf j e with e | e
  · exact hn e
  · omega)).trans (h.block j hj hn)⟩
theorem Frame.mono(h:Frame G w w')(hg:∀k∈G,k∈G'):Frame G' w w':=
 ⟨h.os,h.tape,h.output,h.size,fun j hj hn=>h.block j hj (fun e=>hn (hg j e))⟩
theorem Frame.cM(h:Below w.heap.size w w'):Frame G w w':=⟨h.os,h.tape,h.output,h.size,fun j hj _=>h.block j hj⟩
theorem Frame.below(h:Frame G w w')(k:Below w'.heap.size w' Iq):Frame G w Iq:=
 h.trans (G':=[]) (Frame.cM k) (fun _ e=>absurd e List.not_mem_nil)
theorem Frame.grown{row:Option Nat}(h:Frame G w w')(k:w'.grownBy Iq row)(hr:∀k,row=some k→k∈G∨w.heap.size≤k):Frame G w Iq:=
 ⟨k.os.trans h.os,k.tape.trans h.tape,k.output.trans h.output,Nat.le_trans h.size k.size,fun j hj hn=>(k.block j (Nat.lt_of_lt_of_le hj h.size) (fun e=>by
  rcases hr j e.symm with e2 | e2
  · exact hn e2
  · omega)).trans (h.block j hj hn)⟩
theorem Frame.fp(h:Frame G w w')(hB:B≤w.heap.size)(hG:∀k∈G,B≤k):Below B w w':=
 ⟨h.os,h.tape,h.output,h.size,fun j hj=>h.block j (Nat.lt_of_lt_of_le hj hB) (fun e=>by have:=hG j e; omega)⟩
theorem fJ.refl(w:World)(F:List Nat):fJ w F F:=fun _ h=>.inl h
theorem fJ.trans(h:fJ w F F')(k:fJ w' F' UI)(hs:w.heap.size≤w'.heap.size):fJ w F UI:=fun j hj=>by
 rcases k j hj with e | e
 · exact h j e
 · exact .inr (by omega)
theorem fJ.new(h:∀k∈F',w.heap.size≤k):fJ w F F':=fun k hk=>.inr (h k hk)
theorem fJ.mono(h:fJ w F F')(hF:∀k∈F,k∈G):fJ w G F':=fun k hk=>(h k hk).imp_left (hF k)
theorem fJ.append(h:fJ w F F')(k:fJ w F UI):fJ w F (F'++UI):=fun j hj=>by
 rcases List.mem_append.1 hj with e | e
 · exact h j e
 · exact k j e
theorem Ft(h1:F.Nodup)(h2:F'.Nodup)(hF:∀k∈F,k<B)(hF':∀k∈F',B≤k):(F++F').Nodup:=by
 rw[List.nodup_append];exact⟨h1,h2,fun a ha b hb e=>by have:=hF a ha; have:=hF' b hb; omega⟩
theorem a7(h:(F++F').Nodup):F.Nodup∧F'.Nodup∧∀k∈F,k∉F':=by
 rw[List.nodup_append] at h;exact⟨h.1,h.2.1,fun k hk hk'=>h.2.2 k hk k hk' rfl⟩
theorem bZ(h1:F.Nodup)(h2:F'.Nodup)(h:∀k∈F,k∉F'):(F++F').Nodup:=by
 rw[List.nodup_append];exact⟨h1,h2,fun a ha b hb e=>h a ha (e ▸ hb)⟩
end
/-! ### a type's way to lie -/
structure Rd (α:Type) where
 size:Nat
 fo:World→List Value→α→Prop
 own:World→List Value→α→List Nat→Prop
 lv:∀ {w vs x},fo w vs x→vs.length=size
 iy:∀ {w w' vs x},fo w vs x→(∀b o v,w.cell? ⟨b,o,none⟩=some v→w'.cell? ⟨b,o,none⟩=some v)→fo w' vs x
 eK:∀ {w vs x F},own w vs x F→fo w vs x
 kV:∀ {w w' vs x F},own w vs x F→(∀k∈F,w'.heap[k]? =w.heap[k]?)→own w' vs x F
 dK:∀ {w vs x F},own w vs x F→∀k∈F,k<w.heap.size
 bU:∀ {w vs x F},own w vs x F→F.Nodup
 nR:∀ {w vs x F},own w vs x F→∀v∈vs,v.oneCell'=true
section
variable{α β:Type}{R:Rd α}{S:Rd β}{w w' Iq:World}{vs us:List Value}{x:α}{F G:List Nat}
theorem Rd.CJ(R:Rd α)(h:R.own w vs x F):vs.length=R.size:=R.lv (R.eK h)
theorem Rd.gQ(R:Rd α)(h:R.own w vs x F)(hb:Below w.heap.size w w'):R.own w' vs x F:=
 R.kV h fun k hk=>hb.block k (R.dK h k hk)
theorem Rd.Ir(R:Rd α)(h:R.own w vs x F)(hf:Frame G w w')(hd:∀k∈F,k∉G):R.own w' vs x F:=
 R.kV h fun k hk=>hf.block k (R.dK h k hk) (hd k hk)
theorem Rd.bH(R:Rd α)(h:R.own w vs x F){row:Option Nat}(hg:w.grownBy w' row)(hd:∀k∈F,some k≠row):R.own w' vs x F:=
 R.kV h fun k hk=>hg.block k (R.dK h k hk) (hd k hk)
end
def int:Rd Int where
 size:=1
 fo _ vs x:=vs=[.int .i64 x]∧(Lit.int .i64 x).wf=true
 own _ vs x F:=(vs=[.int .i64 x]∧(Lit.int .i64 x).wf=true)∧F=[]
 lv h:=by rw[h.1]; rfl
 iy h _:=h
 eK h:=h.1
 kV h _:=h
 dK h k hk:=by rw[h.2] at hk; cases hk
 bU h:=by rw[h.2]; exact List.nodup_nil
 nR h v hv:=by rw[h.1.1] at hv; rw[List.mem_singleton.1 hv]; rfl
def bool:Rd Bool where
 size:=1
 fo _ vs x:=vs=[.bool x]
 own _ vs x F:=vs=[.bool x]∧F=[]
 lv h:=by rw[h]; rfl
 iy h _:=h
 eK h:=h.1
 kV h _:=h
 dK h k hk:=by rw[h.2] at hk; cases hk
 bU h:=by rw[h.2]; exact List.nodup_nil
 nR h v hv:=by rw[h.1] at hv; rw[List.mem_singleton.1 hv]; rfl
def str:Rd ByteArray where
 size:=1
 fo _ vs x:=vs=[.string x]∧x.size≤maxLen
 own _ vs x F:=(vs=[.string x]∧x.size≤maxLen)∧F=[]
 lv h:=by rw[h.1]; rfl
 iy h _:=h
 eK h:=h.1
 kV h _:=h
 dK h k hk:=by rw[h.2] at hk; cases hk
 bU h:=by rw[h.2]; exact List.nodup_nil
 nR h v hv:=by rw[h.1.1] at hv; rw[List.mem_singleton.1 hv]; rfl
def both{α β:Type}(R:Rd α)(S:Rd β):Rd (α × β) where
 size:=R.size+S.size
 fo w vs x:=∃us ts,vs=us++ts∧R.fo w us x.1∧S.fo w ts x.2
 own w vs x F:=∃us ts F1 F2,vs=us++ts∧F=F1++F2∧R.own w us x.1 F1∧S.own w ts x.2 F2∧F.Nodup
 lv:=by
  rintro w vs x ⟨us,ts,rfl,h1,h2⟩;rw[List.length_append,R.lv h1,S.lv h2]
 iy:=by
  rintro w w' vs x ⟨us,ts,rfl,h1,h2⟩ hc;exact⟨us,ts,rfl,R.iy h1 hc,S.iy h2 hc⟩
 eK:=by
  rintro w vs x F ⟨us,ts,F1,F2,rfl,rfl,h1,h2,_⟩;exact⟨us,ts,rfl,R.eK h1,S.eK h2⟩
 kV:=by
  rintro w w' vs x F ⟨us,ts,F1,F2,rfl,rfl,h1,h2,hn⟩ hk;exact⟨us,ts,F1,F2,rfl,rfl,R.kV h1 (fun k e=>hk k (List.mem_append.2 (.inl e))),S.kV h2 (fun k e=>hk k (List.mem_append.2 (.inr e))),hn⟩
 dK:=by
  rintro w vs x F ⟨us,ts,F1,F2,rfl,rfl,h1,h2,_⟩ k hk;rcases List.mem_append.1 hk with e | e
  · exact R.dK h1 k e
  · exact S.dK h2 k e
 bU:=by
  rintro w vs x F ⟨us,ts,F1,F2,_,_,_,_,hn⟩;exact hn
 nR:=by
  rintro w vs x F ⟨us,ts,F1,F2,rfl,rfl,h1,h2,_⟩ v hv;rcases List.mem_append.1 hv with e | e
  · exact R.nR h1 v e
  · exact S.nR h2 v e
/-! ### slices -/
def Ez(w:World)(b o:Nat)(vs:List Value):Prop:=∀j u,vs[j]? =some u→w.cell? ⟨b,o+j,none⟩=some u
def nE{α:Type}(R:Rd α)(w:World)(a:Option Addr)(len:Nat)(l:List α):Prop:=
 l.length=len∧len≤maxLen∧(∀x∈l,∃vs,R.fo w vs x)∧(0<len→∃b off,a=some ⟨b,off,none⟩∧∀i (h:i<l.length),∃vs,R.fo w vs l[i]∧Ez w b (off+i * R.size) vs)
abbrev dY:=List (List Value × List Nat)
def cellsOf(q:dY):List Value:=q.flatMap fun p=>p.1
def aw(q:dY):List Nat:=q.flatMap fun p=>p.2
theorem ux(p q:dY):cellsOf (p++q)=cellsOf p++cellsOf q:=by simp[cellsOf]
theorem a6(p q:dY):aw (p++q)=aw p++aw q:=by simp[aw]
theorem fU{q:dY}{n:Nat}(h:∀p∈q,p.1.length=n):(cellsOf q).length=q.length * n:=by
 induction q with
 | nil=>simp[cellsOf]
 | cons p q ih=>
  have:=ih fun x hx=>h x (List.mem_cons_of_mem _ hx)
  have h1:=h p List.mem_cons_self;unfold cellsOf at this ⊢;rw[List.flatMap_cons,List.length_append,h1,this,List.length_cons,Nat.add_mul]; omega
theorem ig{q:dY}{n:Nat}(h:∀p∈q,p.1.length=n)(i:Nat)(hi:i<q.length)(j:Nat)(hj:j<n):(cellsOf q)[i * n+j]? =(q[i].1)[j]? :=by
 induction q generalizing i with
 | nil=>simp at hi
 | cons p q ih=>
  have h1:=h p List.mem_cons_self;unfold cellsOf at ih ⊢;rw[List.flatMap_cons];cases i with
  | zero=>rw[List.getElem?_append_left (by omega)]; simp
  | succ i=>
   rw[List.getElem?_append_right (by rw[h1,Nat.add_mul]; omega),h1,show(i+1) * n+j - n=i * n+j by rw[Nat.add_mul]; omega]
   exact ih (fun x hx=>h x (List.mem_cons_of_mem _ hx)) i (by simpa using hi)
structure bz {α:Type} (ty:TypeId) (R:Rd α) (w:World) (v:Value) (l:List α) (q:dY):Prop where
 len:q.length=l.length
 row:w.ownsRow 0 ty R.size v l.length (cellsOf q)
 each:∀i (h:i<l.length),R.own w (q[i]'(by omega)).1 l[i] (q[i]'(by omega)).2
 nodup:(v.ownBlock.toList++aw q).Nodup
section
variable{α:Type}{ty:TypeId}{R:Rd α}{w w':World}{v:Value}{l:List α}{q:dY}
theorem bz.parts(h:bz ty R w v l q):∀p∈q,p.1.length=R.size:=fun p hp=>by
 obtain⟨i,hi,rfl⟩:=List.getElem_of_mem hp;exact R.CJ (h.each i (by have:=h.len; omega))
theorem bz.shape(h:bz ty R w v l q):(v=.slice none 0 0∧l=[]∧q=[])∨∃g cap,v=.slice (some ⟨g,0,none⟩) l.length cap∧l.length≤cap∧cap≤maxLen:=by
 rcases h.row.2 with⟨rfl,h0⟩ | ⟨g,cap,cur,rfl,_,_,h1,h2,_⟩
 · have:l=[]:=List.eq_nil_of_length_eq_zero h0;subst this;exact .inl ⟨rfl,rfl,List.eq_nil_of_length_eq_zero (by simpa using h.len)⟩
 · exact .inr ⟨g,cap,rfl,h1,h2⟩
theorem bz.slice(h:bz ty R w v l q):∃a cap,v=.slice a l.length cap∧l.length≤cap∧cap≤maxLen:=by
 rcases h.shape with⟨rfl,rfl,_⟩ | ⟨g,cap,rfl,h1,h2⟩
 · exact⟨none,0,rfl,Nat.le_refl _,Nat.zero_le _⟩
 · exact⟨_,cap,rfl,h1,h2⟩
theorem bz.at_(h:bz ty R w v l q)(k:Nat)(hk:k∈v.ownBlock.toList++aw q):k<w.heap.size:=by
 rcases List.mem_append.1 hk with e | e
 · exact(h.row.lt k (by simpa using e)).2
 · obtain⟨p,hp,e⟩:=List.mem_flatMap.1 e;obtain⟨i,hi,rfl⟩:=List.getElem_of_mem hp;exact R.dK (h.each i (by have:=h.len; omega)) k e
theorem qT{base:Nat}{e:TypeId}{size n:Nat}{xs:List Value}(h:w.ownsRow base e size v n xs)(hk:∀k,v.ownBlock=some k→w'.heap[k]? =w.heap[k]?):w'.ownsRow base e size v n xs:=by
 refine⟨h.1,?_⟩;rcases h.2 with h' | ⟨g,cap,cur,rfl,h0,hg,r⟩
 · exact .inl h'
 · exact .inr ⟨g,cap,cur,rfl,h0,(hk g rfl).trans hg,r⟩
theorem bz.keep(h:bz ty R w v l q)(hk:∀k∈v.ownBlock.toList++aw q,w'.heap[k]? =w.heap[k]?):bz ty R w' v l q:=
  ⟨h.len,qT h.row (fun k e=>hk k (List.mem_append.2 (.inl (by simp[e])))),
   fun i hi=>R.kV (h.each i hi) (fun k e=>hk k (List.mem_append.2 (.inr (List.mem_flatMap.2 ⟨_,List.getElem_mem _,e⟩)))),h.nodup⟩
theorem bz.cells{g n cap:Nat}(h:bz ty R w (.slice (some ⟨g,0,none⟩) n cap) l q)(i:Nat)(hi:i<l.length):Ez w g (i * R.size) (q[i]'(by have:=h.len; omega)).1:=by
 intro j u hu;have hj:j<R.size:=by
  have h1:=(List.getElem?_eq_some_iff.1 hu).1;oU [h.parts _ (List.getElem_mem _)] at h1
 have hn:n=l.length:=by
  rcases h.shape with⟨e,_⟩ | ⟨g',c',e,_⟩
  · cases e
  · cases e; rfl
 subst hn;have:=h.row.cells (g:=g) rfl (i * R.size+j) u (by rw[ig h.parts i (by have:=h.len; omega) j hj]; exact hu)
 oU [Addr.add_lit,Nat.zero_add] at this
theorem bz.fz{g n cap:Nat}(h:bz ty R w (.slice (some ⟨g,0,none⟩) n cap) l q)(j:Nat):w.frozen? ⟨g,j,none⟩=false:=by
 have hn:n=l.length:=by
  rcases h.shape with⟨e,_⟩ | ⟨g',c',e,_⟩
  · cases e
  · cases e; rfl
 subst hn;exact h.row.frozenAt j
theorem bz.sl{a:Option Addr}{n cap:Nat}(h:bz ty R w (.slice a n cap) l q):nE R w a n l:=by
 have uy:∀x∈l,∃vs,R.fo w vs x:=fun x hx=>by
  obtain⟨i,hi,rfl⟩:=List.getElem_of_mem hx;exact⟨_,R.eK (h.each i hi)⟩
 rcases h.shape with⟨e,rfl,_⟩ | ⟨g,c,e,h1,h2⟩
 · cases e; exact⟨rfl,Nat.zero_le _,uy,fun h=>absurd h (by omega)⟩
 · cases e;refine⟨rfl,by omega,uy,fun _=>⟨g,0,rfl,fun i hi=>⟨_,R.eK (h.each i hi),?_⟩⟩⟩
   rw[Nat.zero_add];exact h.cells i hi
end
theorem nE.keep{α:Type}{R:Rd α}{w w':World}{a:Option Addr}{len:Nat}{l:List α}(h:nE R w a len l)(hc:∀b o v,w.cell? ⟨b,o,none⟩=some v→w'.cell? ⟨b,o,none⟩=some v):nE R w' a len l:=by
 obtain⟨h1,h2,h3,h4⟩:=h;refine⟨h1,h2,fun x hx=>?_,fun h0=>?_⟩
 · obtain⟨vs,hv⟩:=h3 x hx;exact⟨vs,R.iy hv hc⟩
 · obtain⟨b,off,e,hi⟩:=h4 h0;refine⟨b,off,e,fun i h=>?_⟩
   obtain⟨vs,hs,cZ⟩:=hi i h;exact⟨vs,R.iy hs hc,fun j u hu=>hc _ _ _ (cZ j u hu)⟩
theorem nE.below{α:Type}{R:Rd α}{w w':World}{a:Option Addr}{len:Nat}{l:List α}(h:nE R w a len l)(hb:Below w.heap.size w w'):nE R w' a len l:=
 h.keep fun b o v hv=>(hb.cell (p:=⟨b,o,none⟩) (World.block_lt_of_cell? w _ hv)).trans hv
def slice{α:Type}(ty:TypeId)(R:Rd α):Rd (List α) where
 size:=1
 fo w vs l:=∃a len cap,vs=[.slice a len cap]∧len≤cap∧nE R w a len l
 own w vs l F:=∃v q,vs=[v]∧F=v.ownBlock.toList++aw q∧bz ty R w v l q
 lv:=by rintro w vs x ⟨a,len,cap,rfl,_⟩; rfl
 iy:=by
  rintro w w' vs x ⟨a,len,cap,rfl,hc,h⟩ hk;exact⟨a,len,cap,rfl,hc,h.keep hk⟩
 eK:=by
  rintro w vs x F ⟨v,q,rfl,rfl,h⟩;obtain⟨a,cap,rfl,hc,_⟩:=h.slice;exact⟨a,_,cap,rfl,hc,h.sl⟩
 kV:=by
  rintro w w' vs x F ⟨v,q,rfl,rfl,h⟩ hk;exact⟨v,q,rfl,rfl,h.keep hk⟩
 dK:=by
  rintro w vs x F ⟨v,q,rfl,rfl,h⟩ k hk;exact h.at_ k hk
 bU:=by
  rintro w vs x F ⟨v,q,rfl,rfl,h⟩;exact h.nodup
 nR:=by
  rintro w vs x F ⟨v,q,rfl,rfl,h⟩ u hu;rw[List.mem_singleton.1 hu];obtain⟨a,cap,rfl,_⟩:=h.slice;rfl
section
variable{α:Type}{ty:TypeId}{R:Rd α}{w w' w7:World}{v v7:Value}{l:List α}{q:dY}{F:List Nat}
theorem OE(h:bz ty R w v l q):(slice ty R).own w [v] l (v.ownBlock.toList++aw q):=⟨v,q,rfl,rfl,h⟩
theorem lS{vs:List Value}(h:(slice ty R).own w vs l F):∃a cap q,vs=[.slice a l.length cap]∧l.length≤cap∧cap≤maxLen∧F=(Value.slice a l.length cap).ownBlock.toList++aw q∧bz ty R w (.slice a l.length cap) l q:=by
 obtain⟨v,q,rfl,rfl,h⟩:=h;obtain⟨a,cap,rfl,h1,h2⟩:=h.slice;exact⟨a,cap,q,rfl,h1,h2,rfl,h⟩
theorem Is(ty:TypeId)(R:Rd α)(w:World):bz ty R w (.slice none 0 0) [] []:=
 ⟨rfl,World.ownsRow_nil _ _ _ _,fun i h=>absurd h (by simp),by simp[aw,Value.ownBlock]⟩
theorem EA(ty:TypeId)(R:Rd α)(w:World):(slice ty R).own w [.slice none 0 0] [] []:=⟨_,[],rfl,rfl,Is ty R w⟩
theorem lT(ty:TypeId)(R:Rd α)(w:World):bz ty R (w.alloc (.cells #[] ty)) (.slice (some ⟨w.heap.size,0,none⟩) 0 0) [] []:=
 ⟨rfl,World.ownsRow_made w #[] 0 (Nat.zero_le _) (Nat.zero_le _) (by simp),fun i h=>absurd h (by simp),by simp[aw,Value.ownBlock]⟩
theorem bz.snoc{x:α}{vs:List Value}{G:List Nat}{g cap H:Nat}(h:bz ty R w v l q)(hx:R.own w vs x G)(hd:∀k∈G,k∉v.ownBlock.toList++aw q)
 (aK:w7.ownsRow 0 ty R.size (.slice (some ⟨g,0,none⟩) (l.length+1) cap) (l.length+1) (cellsOf q++vs)) (aI:w.grownBy w7 v.ownBlock) (fF:v.ownBlock=some g∨g=H) (hH:w.heap.size=H):
 bz ty R w7 (.slice (some ⟨g,0,none⟩) (l.length+1) cap) (l++[x]) (q++[(vs,G)]):=by
 have hlen:=h.len;obtain⟨n1,n2,n3⟩:=a7 h.nodup;have ij:∀k∈aw q,some k≠v.ownBlock:=fun k hk e=>n3 k (by rw[←e]; simp) hk
 have lU:∀k∈G,some k≠v.ownBlock:=fun k hk e=>hd k hk (List.mem_append.2 (.inl (by rw[←e]; simp)))
 refine⟨by simp[hlen],?_,fun i hi=>?_,?_⟩
 · rw[ux,List.length_append];simpa[cellsOf] using aK
 · by_cases e:i<l.length
   · simp only[List.getElem_append_left e,List.getElem_append_left (show i<q.length by omega)]
     exact R.bH (h.each i e) aI (fun k hk=>ij k (List.mem_flatMap.2 ⟨_,List.getElem_mem _,hk⟩))
   · have:i=l.length:=by simp at hi; omega
     subst this;rw[List.getElem_append_right (Nat.le_refl _)];simp only[List.getElem_append_right (show q.length≤l.length by omega)]
     simp only[hlen,Nat.sub_self,List.getElem_cons_zero];exact R.bH hx aI lU
 · have VI:g∉aw q:=by
    rcases fF with e | e
    · exact n3 g (by rw[e]; simp)
    · intro hk;have:=h.at_ g (List.mem_append.2 (.inr hk));omega
   have VJ:g∉G:=by
    rcases fF with e | e
    · exact fun hk=>lU g hk e.symm
    · intro hk;have:=R.dK hx g hk;omega
   have e1:(Value.slice (some ⟨g,0,none⟩) (l.length+1) cap).ownBlock.toList++aw (q++[(vs,G)])=g::(aw q++G):=by
    rw[a6]; simp[Value.ownBlock,aw]
   rw[e1,List.nodup_cons];refine⟨fun hk=>?_,bZ n2 (R.bU hx) (fun k hk iu=>hd k iu (List.mem_append.2 (.inr hk)))⟩
   rcases List.mem_append.1 hk with e | e
   · exact VI e
   · exact VJ e
theorem bz.take{a:Option Addr}{n cap:Nat}(h:bz ty R w (.slice a n cap) l q)(k:Nat)(hk:k≤l.length):bz ty R w (.slice a k cap) (l.take k) (q.take k):=by
  have hlen:=h.len;have yE:∀j∈aw (q.take k),j∈aw q:=fun j hj=>by
    obtain⟨p,hp,e⟩:=List.mem_flatMap.1 hj;exact List.mem_flatMap.2 ⟨p,List.mem_of_mem_take hp,e⟩
  have OF:cellsOf (q.take k)=(cellsOf q).take (k * R.size):=by
    have hp:=h.parts;clear h yE
    induction q generalizing k l with
    | nil=>simp[cellsOf]
    | cons p q ih=>
      cases k with
      | zero=>simp[cellsOf]
      | succ k=>
        have h1:=hp p List.mem_cons_self;cases l with
        | nil=>simp at hk
        | cons y l=>
          have:=ih (l:=l) k (by simpa using hk) (by simpa using hlen) (fun x hx=>hp x (List.mem_cons_of_mem _ hx))
          unfold cellsOf at this ⊢;rw[List.take_succ_cons,List.flatMap_cons,List.flatMap_cons,this,List.take_append,h1,List.take_of_length_le (l:=p.1) (by rw[h1,Nat.add_mul]; omega),show(k+1) * R.size - R.size=k * R.size by rw[Nat.add_mul]; omega]
  refine⟨by simp[hlen],?_,fun i hi=>?_,?_⟩
  · have jA:(l.take k).length=k:=by simp; omega
    rw[jA,OF];have cZ:=h.row.1;refine⟨by rw[List.length_take,cZ]; exact Nat.min_eq_left (Nat.mul_le_mul_right _ hk),?_⟩
    rcases h.row.2 with⟨e,h0⟩ | ⟨g,c,cur,e,hb,hg,h1,h2,h3,h4⟩
    · cases e; exact .inl ⟨by have:k=0:=by omega
                              subst this; rfl,by omega⟩
    · cases e;refine .inr ⟨g,_,cur,rfl,hb,hg,by omega,h2,h3,?_⟩
      rw[←h4,List.take_take,Nat.min_eq_left (Nat.mul_le_mul_right _ hk)]
  · have Q1:i<l.length:=by simp at hi; omega
    simp only[List.getElem_take];exact h.each i Q1
  · obtain⟨n1,n2,n3⟩:=a7 h.nodup;refine bZ (by cases a <;> simp[Value.ownBlock]) ?_ (fun j hj OG=>?_)
    · refine List.Nodup.sublist ?_ n2;rw[←List.take_append_drop k q,a6];rw[List.take_append_drop];exact List.sublist_append_left _ _
    · exact n3 j (by cases a with
        | none=>simp[Value.ownBlock] at hj
        | some ad=>simpa[Value.ownBlock] using hj) (yE j OG)
end
end lay
namespace base
open Go.RowKit
/-! ### the hash -/
def lV(h c:Nat):Nat:=(h ^^^ c) * 16777619 % 4294967296
def fG(l:List UInt8):Nat:=l.foldl (fun h c=>lV h c.toNat) 2166136261
theorem It(h c:Nat):lV h c<4294967296:=by unfold lV; omega
theorem Iu(l:List UInt8)(h:Nat)(hh:h<4294967296):l.foldl (fun h c=>lV h c.toNat) h<4294967296:=by
 induction l generalizing h with
 | nil=>simpa using hh
 | cons c l ih=>simp only[List.foldl_cons]; exact ih _ (It _ _)
theorem lW(l:List UInt8):fG l<4294967296:=by
 unfold fG; exact Iu l 2166136261 (by omega)
theorem CK{α β:Type}(f:β→α→β)(b:β)(l:List α)(c:α):(l++[c]).foldl f b=f (l.foldl f b) c:=by simp
theorem sM(l:List UInt8)(c:UInt8):fG (l++[c])=lV (fG l) c.toNat:=by
 unfold fG; exact CK (fun h (c:UInt8)=>lV h c.toNat) 2166136261 l c
theorem Iv(h c:Nat)(hh:h<4294967296)(hc:c<256):h ^^^ c<4294967296:=
 Nat.xor_lt_two_pow (n:=32) (by omega) (by omega)
theorem sN(a b:Nat)(ha:a<4294967296)(hb:b<4294967296):bits .xor .i64 (a:Int) (b:Int)=((a ^^^ b:Nat):Int):=by
 have hx:a ^^^ b<4294967296:=Nat.xor_lt_two_pow (n:=32) (by omega) (by omega)
 show IntKind.i64.wrap ((BitVec.ofInt 64 (a:Int) ^^^ BitVec.ofInt 64 (b:Int)).toNat:Int)=_;rw[BitVec.toNat_xor,ofInt_u64 a (by omega),ofInt_u64 b (by omega),IntKind.wrap_i64]
 omega
theorem lX(n:Int)(h₀:0≤n)(h₁:n<2 ^ 63):IntKind.i64.wrap n=n:=by rw[IntKind.wrap_i64]; omega
theorem CL(x:Int)(h₀:0≤x)(h₁:x<9223372036854775808):bits .and .i64 x 4294967295=x % 4294967296:=
 bits_mask .i64 63 (by decide) lX 32 (by decide) x h₀ (by omega)
theorem Iw(h c:Nat)(hh:h<4294967296)(hc:c<256):IntKind.u32.wrap (bits .xor .u32 (h:Int) (c:Int) * 16777619)=(lV h c:Int):=by
 rw[u32_xor_nat h c hh (by omega),IntKind.wrap_u32]; unfold lV; omega
theorem Ix(h c:Nat)(hh:h<4294967296)(hc:c<256):bits .and .i64 (bits .xor .i64 (h:Int) (c:Int) * 16777619) 4294967295=(lV h c:Int):=by
 have:=Iv h c hh hc;rw[sN h c hh (by omega),CL _ (by omega) (by omega)]; unfold lV; omega
theorem Fu(h c:Nat)(hh:h<4294967296)(hc:c<256):bits .and .i64 (wrap64 (bits .xor .i64 (h:Int) (c:Int) * 16777619)) 4294967295=(lV h c:Int):=by
 have:=Iv h c hh hc;rw[IntWalk.wrap64_in _ (by rw[sN h c hh (by omega)]; omega)]
 exact Ix h c hh hc
theorem xB(s:ByteArray)(k:Nat)(h:k<s.size):s.data.toList.take (k+1)=s.data.toList.take k++[s[k]]:=by
 rw[List.take_succ_eq_append_getElem (by simpa using h)]; rfl
theorem yF{k:IntKind}{a b:Int}(h:a=b):Value.int k a=.int k b:=by rw[h]
theorem au{a b:Bool}(h:a=b):Ending.returned (.bool a)=.returned (.bool b):=by rw[h]
theorem gZ{k:IntKind}{a b:Int}(h:a=b):Ending.returned (.int k a)=.returned (.int k b):=by rw[h]
/-! ### worlds -/
theorem lY(w:World)(e:TypeId)(s:ByteArray):Below w.heap.size w (Lib.bytesWorld w e s):=
 ⟨rfl,rfl,rfl,by rw[Lib.bytesWorld_size]; omega,fun k hk=>Lib.bytesWorld_at_old w e s k hk⟩
/-! ### slices of bytes that are read -/
def Sl(w:World)(a:Option Addr)(len:Nat)(bs:List UInt8):Prop:=
 bs.length=len∧len≤maxLen∧(0<len→∃b off,a=some ⟨b,off,none⟩∧∀i (h:i<bs.length),w.cell? ⟨b,off+i,none⟩=some (.int .u8 bs[i].toNat))
theorem OD(w:World)(a:Option Addr):Sl w a 0 []:=⟨rfl,Nat.zero_le _,fun h=>absurd h (by omega)⟩
theorem LQ{n:Int}(h:(Lit.int .u8 n).wf=true):0≤n∧n≤255:=by
 simpa[Lit.wf,IntKind.min,IntKind.max,IntKind.signed,IntKind.bits] using h
theorem CI{w:World}{x:Addr}{len cap:Nat}{zs:List Int}(hl:len≤cap)(hm:cap≤maxLen)(hz:zs.length=cap)
 (nl:∀i,i<zs.length→w.cell? (x.add i)=some (.int .u8 (zs.getD i 0))) (Hn:∀n∈zs,(Lit.int .u8 n).wf=true):
 Sl w (some x) len ((zs.take len).map fun n=>UInt8.ofNat n.toNat):=by
 refine⟨by simp; omega,by omega,fun h0=>?_⟩
 obtain⟨b,off,spot⟩:=x;have RK:spot=none:=by simpa[Addr.add] using World.cell?_spot (nl 0 (by omega))
 subst RK;refine⟨b,off,rfl,fun i h=>?_⟩
 have hi:i<zs.length:=by simp at h; omega
 have hc:=nl i hi;rw[Addr.add_lit] at hc;rw[hc];have hb:=LQ (Hn zs[i] (List.getElem_mem hi));simp only[List.getElem_map,List.getElem_take,List.getD,List.getElem?_eq_getElem hi,Option.getD_some,Option.some.injEq];refine yF ?_;simp;omega
theorem Sl.lt{w:World}{b off len:Nat}{bs:List UInt8}(h:Sl w (some ⟨b,off,none⟩) len bs)(h0:0<len):b<w.heap.size:=by
 obtain⟨h1,_,h3⟩:=h;obtain⟨b',wJ,e,hc⟩:=h3 h0;simp only[Option.some.injEq,Addr.mk.injEq,and_true] at e;obtain⟨rfl,rfl⟩:=e;exact World.block_lt_of_cell? w _ (hc 0 (by omega))
theorem Sl.at{w:World}{b off len:Nat}{bs:List UInt8}(h:Sl w (some ⟨b,off,none⟩) len bs)(i:Nat)(hi:i<bs.length):w.cell? ⟨b,off+i,none⟩=some (.int .u8 bs[i].toNat):=by
 obtain⟨h1,_,h3⟩:=h;obtain⟨b',wJ,e,hc⟩:=h3 (by omega)
 simp only[Option.some.injEq,Addr.mk.injEq,and_true] at e;obtain⟨rfl,rfl⟩:=e;exact hc i hi
theorem Sl.below{w w':World}{a:Option Addr}{len:Nat}{bs:List UInt8}(h:Sl w a len bs)(hb:Below w.heap.size w w'):Sl w' a len bs:=by
 obtain⟨h1,h2,h3⟩:=h;refine⟨h1,h2,fun h0=>?_⟩
 obtain⟨b,off,rfl,hc⟩:=h3 h0;exact⟨b,off,rfl,fun i hi=>(hb.cell (p:=⟨b,off+i,none⟩) (World.block_lt_of_cell? w _ (hc i hi))).trans (hc i hi)⟩
theorem Sl.grown{w w':World}{b off len:Nat}{bs:List UInt8}{row:Option Nat}(h:Sl w (some ⟨b,off,none⟩) len bs)(hg:w.grownBy w' row)(bh:some b≠row):Sl w' (some ⟨b,off,none⟩) len bs:=by
 have fF:=h.at;exact⟨h.1,h.2.1,fun h0=>⟨b,off,rfl,fun i hi=>hg.cell (fF i hi) bh⟩⟩
/-! ### slices of bytes that the call itself made -/
def qU(bs:List UInt8):List Value:=bs.map fun u=>.int .u8 u.toNat
def tG(w:World)(base g n cap:Nat)(bs:List UInt8):Prop:=bs.length=n∧w.ownsRow base 5 1 (.slice (some ⟨g,0,none⟩) n cap) n (qU bs)
theorem tG.lt{w:World}{base g n cap:Nat}{bs:List UInt8}(h:tG w base g n cap bs):base≤g∧g<w.heap.size:=h.2.lt g rfl
theorem tG.max{w:World}{base g n cap:Nat}{bs:List UInt8}(h:tG w base g n cap bs):n≤cap∧cap≤maxLen:=by
 rcases h.2.2 with⟨h',_⟩ | ⟨g',aY,cur,h',_,hg,h1,h2,_⟩
 · simp at h'
 · simp only[Value.slice.injEq,Option.some.injEq,Addr.mk.injEq,and_true,true_and] at h';obtain⟨rfl,rfl⟩:=h';exact⟨h1,h2⟩
theorem tG.mono{w:World}{base base' g n cap:Nat}{bs:List UInt8}(h:tG w base g n cap bs)(hb:base'≤base):tG w base' g n cap bs:=by
 refine⟨h.1,h.2.1,?_⟩;rcases h.2.2 with h' | ⟨g',aY,cur,h',h0,r⟩
 · exact .inl h'
 · exact .inr ⟨g',aY,cur,h',by omega,r⟩
theorem tG.at{w:World}{base g n cap:Nat}{bs:List UInt8}(h:tG w base g n cap bs)(i:Nat)(hi:i<bs.length):w.cell? ⟨g,i,none⟩=some (.int .u8 bs[i].toNat):=by
 rw[h.2.cellAt i (by have:=h.1; omega)]; simp[qU,hi]
theorem tG.frozen{w:World}{base g n cap:Nat}{bs:List UInt8}(h:tG w base g n cap bs)(i:Nat):w.frozen? ⟨g,i,none⟩=false:=h.2.frozenAt i
theorem tG.sl{w:World}{base g n cap:Nat}{bs:List UInt8}(h:tG w base g n cap bs):Sl w (some ⟨g,0,none⟩) n bs:=
 ⟨h.1,by have:=h.max; omega,fun _=>⟨g,0,rfl,fun i hi=>by rw[Nat.zero_add]; exact h.at i hi⟩⟩
theorem tG.grown{w w':World}{base g n cap:Nat}{bs:List UInt8}{row:Option Nat}(h:tG w base g n cap bs)(hg:w.grownBy w' row)(bh:some g≠row):tG w' base g n cap bs:=
 ⟨h.1,h.2.kept hg (.inr bh)⟩
theorem tG.below{w w':World}{base g n cap:Nat}{bs:List UInt8}(h:tG w base g n cap bs)(hb:Below w.heap.size w w'):tG w' base g n cap bs:=
 ⟨h.1,h.2.kept (row:=none) ⟨hb.os,hb.tape,hb.output,hb.size,fun k hk _=>hb.block k hk⟩ (.inr (by simp[Value.ownBlock]))⟩
theorem fV{w w':World}{B g:Nat}(hg:w.grownBy w' (some g))(h:B≤g)(hB:B≤w.heap.size):Below B w w':=
 (Below.refl B w).grown hg hB (fun k e=>by cases e; exact h)
def nr(w w':World):Prop:=w.heap.size≤w'.heap.size∧∀b,b<w.heap.size→(∀cur,w.heap[b]? ≠some (.cells cur 5 (0,0)))→w'.heap[b]? =w.heap[b]?
theorem nr.refl(w:World):nr w w:=⟨Nat.le_refl _,fun _ _ _=>rfl⟩
theorem nr.trans{a b c:World}(h:nr a b)(k:nr b c):nr a c:=
 ⟨Nat.le_trans h.1 k.1,fun i hi hn=>by
  have e:=h.2 i hi hn;rw[k.2 i (Nat.lt_of_lt_of_le hi h.1) (by rw[e]; exact hn),e]⟩
theorem nr.cM{w w':World}(h:Below w.heap.size w w'):nr w w':=⟨h.size,fun b hb _=>h.block b hb⟩
theorem tG.keeps{w w':World}{base g n cap:Nat}{bs:List UInt8}(h:tG w base g n cap bs)(hg:w.grownBy w' (some g)):nr w w':=by
 refine⟨hg.size,fun b hb hn=>hg.block b hb ?_⟩
 intro e;simp only[Option.some.injEq] at e;subst e;rcases h.2.2 with⟨h',_⟩ | ⟨g',aY,cur,h',_,hgg,_⟩
 · simp at h'
 · simp only[Value.slice.injEq,Option.some.injEq,Addr.mk.injEq,and_true,true_and] at h';obtain⟨rfl,rfl⟩:=h';exact hn cur hgg
theorem nr.alloc{a w:World}(h:nr a w)(o:Obj):nr a (w.alloc o):=
 h.trans (.cM ((Below.refl _ _).alloc (Nat.le_refl _) o))
/-! ### slices of strings -/
section
variable{w w':World}{base base' g n cap:Nat}{ss:List ByteArray}{row:Option Nat}
end
end base
namespace base
open Go.RowKit
theorem az{a b c:World}{row:Option Nat}(h:a.grownBy b row)(k:b.grownBy c row):a.grownBy c row:=
 ⟨k.os.trans h.os,k.tape.trans h.tape,k.output.trans h.output,Nat.le_trans h.size k.size,fun i hi hr=>(k.block i (Nat.lt_of_lt_of_le hi h.size) hr).trans (h.block i hi hr)⟩
theorem Hid.mk'{p:Prop}(h:p):Hid p:=h
theorem RL:(Tryz.prog.info? 5).map (fun i=>(i.zero,i.size,i.bytes))=some (some (.int .u8 0),1,1):=by aa
theorem aS{base:Nat}(w:World)(o:Obj)(h:base≤w.heap.size):base≤(w.alloc o).heap.size:=by simp; omega
def cut(bs:List UInt8)(p n:Nat):ByteArray:=⟨((bs.drop p).take n).toArray⟩
theorem Iy{w:World}{b off p n:Nat}{bs:List UInt8}{len:Nat}(h:Sl w (some ⟨b,off,none⟩) len bs)(hp:p+n≤bs.length)(c:Nat):
 (convert 22 9 (.slice (some ⟨b,off+p,none⟩) n c)).run Tryz.prog w=.ok (.string (cut bs p n)) w:=by
 have hr:=run_convert_bytes_arg (P:=Tryz.prog) w 22 5 Tryz.underlying22 Tryz.underlying5 b (off+p) n c (((bs.drop p).take n).map fun u=>(u.toNat:Int)) (by simp; omega) ?_ 9 Tryz.underlying9
 · rw[hr];have e:strOfNums (((bs.drop p).take n).map fun u=>(u.toNat:Int))=cut bs p n:=by
    simp[strOfNums,cut,Function.comp_def]
   rw[e]
 · intro i hi;have Zh:p+i<bs.length:=by omega
   rw[show off+p+i=off+(p+i) by omega,h.at (p+i) Zh]
   simp[List.getD,Zh,hi]
theorem aZ{w w1 w2:World}{g:Nat}(h:w.grownBy w1 (some g))(hb:Below w1.heap.size w1 w2):w.grownBy w2 (some g):=
 ⟨hb.os.trans h.os,hb.tape.trans h.tape,hb.output.trans h.output,Nat.le_trans h.size hb.size,fun k hk hr=>(hb.block k (Nat.lt_of_lt_of_le hk h.size)).trans (h.block k hk hr)⟩
theorem jB{w:World}{gc:Nat}{cur:Array Value}{t:TypeId}{mk:Nat × Nat}(h:w.heap[gc]? =some (.cells cur t mk))(j:Nat)(v:Value)(hj:cur[j]? =some v):w.cell? ⟨gc,j,none⟩=some v:=by
 rw[cell_of_row w gc j cur t mk h]; exact hj
theorem bK{w:World}{gc:Nat}{cur:Array Value}{t:TypeId}(h:w.heap[gc]? =some (.cells cur t (0,0)))(j:Nat)(v:Value):
 (w.setCell ⟨gc,j,none⟩ v).heap[gc]? =some (.cells (cur.setIfInBounds j v) t (0,0))∧w.grownBy (w.setCell ⟨gc,j,none⟩ v) (some gc):=
 ⟨heap_setCell_same w gc j cur t v h,⟨rfl,rfl,rfl,by simp,fun k _ hk=>heap_setCell_other w ⟨gc,j,none⟩ k v (fun e=>hk (by simp[e]))⟩⟩
theorem jC{w w1:World}{row:Option Nat}(h:w.grownBy w1 row)(n:Nat):w.grownBy (w1.drewN n) row:=⟨h.os,h.tape,h.output,h.size,h.block⟩
theorem cN{w wr w2:World}{gc g:Nat}(h:w.grownBy wr (some gc))(h2:wr.grownBy w2 (some g))(hg:w.heap.size≤g):w.grownBy w2 (some gc):=
 ⟨h2.os.trans h.os,h2.tape.trans h.tape,h2.output.trans h.output,Nat.le_trans h.size h2.size,fun k hk bh=>(h2.block k (Nat.lt_of_lt_of_le hk h.size) (by intro e; simp only[Option.some.injEq] at e; omega)).trans (h.block k hk bh)⟩
theorem Ai{w wr:World}{row:Option Nat}(h:w.grownBy wr row)(o:Obj):w.grownBy (wr.alloc o) row:=
 ⟨h.os,h.tape,h.output,by have:=h.size; simp; omega,fun k hk bh=>(Below.heap_alloc wr o k (Nat.lt_of_lt_of_le hk h.size)).trans (h.block k hk bh)⟩
theorem yG(w:World)(o:Obj)(row:Option Nat):w.grownBy (w.alloc o) row:=World.grownBy_alloc w o row
theorem Iz{w:World}{base g m cp:Nat}{bs:List UInt8}(h:tG w base g m cp bs):
 (convert 22 9 (.slice (some ⟨g,0,none⟩) m cp)).run Tryz.prog w=.ok (.string ⟨bs.toArray⟩) w:=by
 have h1:=Iy (w:=w) (b:=g) (off:=0) (p:=0) (n:=m) h.sl (by have:=h.1; omega) cp
 have e:cut bs 0 m=⟨bs.toArray⟩:=by unfold cut; rw[List.drop_zero,List.take_of_length_le (by have:=h.1; omega)]
 rw[e] at h1;exact h1
def Wr(w:World)(g n:Nat)(bs:List UInt8):Prop:=
 bs.length=n∧n≤maxLen∧g<w.heap.size∧∀i (h:i<bs.length),w.cell? ⟨g,i,none⟩=some (.int .u8 bs[i].toNat)∧w.frozen? ⟨g,i,none⟩=false
theorem Wr.sl{w:World}{g n:Nat}{bs:List UInt8}(h:Wr w g n bs):Sl w (some ⟨g,0,none⟩) n bs:=
 ⟨h.1,h.2.1,fun _=>⟨g,0,rfl,fun i hi=>by rw[Nat.zero_add]; exact(h.2.2.2 i hi).1⟩⟩
theorem Wr.below{w w':World}{g n:Nat}{bs:List UInt8}(h:Wr w g n bs)(hb:Below w.heap.size w w'):Wr w' g n bs:=
 ⟨h.1,h.2.1,Nat.lt_of_lt_of_le h.2.2.1 hb.size,fun i hi=>⟨(hb.cell (p:=⟨g,i,none⟩) h.2.2.1).trans (h.2.2.2 i hi).1,(hb.frozen (p:=⟨g,i,none⟩) h.2.2.1).trans (h.2.2.2 i hi).2⟩⟩
theorem tG.wr{w:World}{base g n cap:Nat}{bs:List UInt8}(h:tG w base g n cap bs):Wr w g n bs:=
 ⟨h.1,by have:=h.max; omega,h.lt.2,fun i hi=>⟨h.at i hi,h.frozen i⟩⟩
theorem c_{P:Program}{ops:Array Oper}{o:Oper}{a:Act}{w:World}{K:Act→World→Prop}{Q:Exit→Act→World→Prop}{E:Prop}(qV:o.guard=none)(s x:Operand)(t:TypeId)
 (ho:o.op=.call {callee:=.builtin .append,args:=#[s,x],argTypes:=#[t,t]})
 (base:Nat) (e:TypeId) (i:TypeInfo) (z:Value) (size bytes:Nat) (ht:P.underlying t=some (.slice e)) (hi:P.info? e=some i) (hz:i.zero=some z)
 (RM:i.size=size) (hby:i.bytes=bytes) (Ns:z.cells.size=size) (jg:0<size)
 (v:Value) (n:Nat) (xs:List Value) (hs:a.eval s=v) (aK:w.ownsRow base e size v n xs)
 (ad:Addr) (m c:Nat) (news:List Value) (hx:a.eval x=.slice (some ad) m c) (hl:news.length=m * size) (RN:∀j u,news[j]? =some u→w.cell? (ad.add j)=some u) (h1:∀u∈news,u.oneCell'=true)
 (h63:n+m≤maxLen) (OH:(n+m) * bytes≤140737488355328) (je:base≤w.heap.size)
 (h:∀v' w',w'.ownsRow base e size v' (n+m) (xs++news)→w.grownBy w' v.ownBlock→(v'=.slice none 0 0↔v=.slice none 0 0∧m=0)→K (a.put o.dst v') w'):
 if Region.wanted o (yielded ops a.tmps)=true then Oper.wp P o a w K Q else E:=by
 have hw:Region.wanted o (yielded ops a.tmps)=true:=by simp[Region.wanted,qV]
 rw[if_pos hw];exact wp_append_own w s x t ho base e i z size bytes ht hi hz RM hby Ns jg v n xs hs aK ad m c news hx hl RN h1 h63 OH je h
theorem Fv(w:World)(x y:Value)(t:TypeId):∀j u,[x,y][j]? =some u→(w.alloc (.cells #[x,y] t)).cell? ((⟨w.heap.size,0,none⟩:Addr).add j)=some u:=by
 intro j u hj
 match j,hj with
 | 0,hj=>simp at hj; subst hj; simp[Addr.add]
 | 1,hj=>simp at hj; subst hj; simp[Addr.add]
end base
namespace aE
open Go
abbrev Pr:=ByteArray × ByteArray
theorem j8{a b:ByteArray}(h:a.data.toList=b.data.toList):a=b:=WideShapes.bytes_inj h
/-! ### the order of texts -/
def kN(a b:ByteArray):Bool:=Op.bytesLess a.toList b.toList
theorem oV(a b:ByteArray):kN a b=true↔a.data.toList<b.data.toList:=by
 unfold kN; rw[Proofs.bytesLess_eq,ByteArray.toList_eq,ByteArray.toList_eq]; simp
theorem mK(a:ByteArray):kN a a=false:=by
 rw[Bool.eq_false_iff]; intro h; exact List.lt_irrefl _ ((oV a a).1 h)
theorem lZ{a b c:ByteArray}(h:kN a b=true)(k:kN b c=true):kN a c=true:=
 (oV a c).2 (List.lt_trans ((oV a b).1 h) ((oV b c).1 k))
theorem Fw{a b:ByteArray}(h:kN a b=true):kN b a=false:=by
 rw[Bool.eq_false_iff]; intro k; have:=lZ h k; rw[mK] at this; cases this
theorem rY{a b:ByteArray}(h:kN a b=false)(k:kN b a=false):a=b:=by
 apply j8;have h':¬a.data.toList<b.data.toList:=fun e=>by rw[(oV a b).2 e] at h; cases h
 have k':¬b.data.toList<a.data.toList:=fun e=>by rw[(oV b a).2 e] at k; cases k
 exact List.le_antisymm (List.not_lt.1 k') (List.not_lt.1 h')
theorem OI{a b:ByteArray}(h:kN a b=true):a≠b:=by
 rintro rfl; rw[mK] at h; cases h
/-! ### the functions -/
def gR(c:Nat):Bool:=decide (97≤c∧c≤122) || decide (48≤c∧c≤57)
def ly(l:List UInt8):Bool:=l.all fun c=>gR c.toNat
def gS(s:ByteArray):Bool:=ly s.data.toList && decide (1≤s.size∧s.size≤12)
def fW(p:Pr):Bool:=gS p.1 && decide (p.2.size≤20)
def kg:Option ByteArray→List Pr→Bool
 | _,[]=>true
 | none,p::l=>fW p && kg (some p.1) l
 | some k,p::l=>fW p && kN k p.1 && kg (some p.1) l
def ua(l:List Pr):Bool:=kg none l && decide (l.length≤60)
def getKey(key:ByteArray):List Pr→Option ByteArray
 | []=>none
 | p::l=>if p.1=key then some p.2 else getKey key l
def fX(key val:ByteArray):List Pr→List Pr
 | []=>[]
 | p::l=>if p.1=key then(p.1,val)::l else p::fX key val l
def below(key:ByteArray):List Pr→Nat
 | []=>0
 | p::l=>if kN key p.1=true then 0 else below key l+1
def putKey(key val:ByteArray)(l:List Pr):List Pr:=
 if(getKey key l).isSome then fX key val l else l.take (below key l)++(key,val)::l.drop (below key l)
def delKey(key:ByteArray)(l:List Pr):List Pr:=l.filter fun p=>decide (p.1≠key)
/-! ### first facts -/
theorem tH(key val:ByteArray)(l:List Pr):(fX key val l).length=l.length:=by
 induction l with
 | nil=>rfl
 | cons p l ih=>unfold fX; split <;> simp[ih]
theorem uz(key:ByteArray)(l:List Pr):below key l≤l.length:=by
 induction l with
 | nil=>exact Nat.le_refl _
 | cons p l ih=>unfold below; split <;> simp; omega
theorem gT(key val:ByteArray)(l:List Pr):(putKey key val l).length≤l.length+1∧l.length≤(putKey key val l).length:=by
 have:=uz key l;unfold putKey
 split
 · rw[tH]; omega
 · simp; omega
theorem nS(key:ByteArray)(l:List Pr)(k:Nat)(h:k<l.length):getKey key (l.drop k)=if l[k].1=key then some l[k].2 else getKey key (l.drop (k+1)):=by
 rw[List.drop_eq_getElem_cons h,getKey]
theorem qb(key:ByteArray)(l:List Pr)(k:Nat)(h:k<l.length):below key (l.drop k)=if kN key l[k].1=true then 0 else below key (l.drop (k+1))+1:=by
 rw[List.drop_eq_getElem_cons h,below]
theorem Aj(key val:ByteArray)(l:List Pr)(k:Nat)(h:k<l.length)(he:l[k].1=key)(hn:getKey key (l.take k)=none):fX key val l=l.set k (key,val):=by
 induction l generalizing k with
 | nil=>simp at h
 | cons p l ih=>
  cases k with
  | zero=>simp at he; unfold fX; rw[if_pos he,he]; rfl
  | succ k=>
   rw[List.take_succ_cons,getKey] at hn;by_cases hp:p.1=key
   · rw[if_pos hp] at hn; cases hn
   · rw[if_neg hp] at hn;unfold fX;rw[if_neg hp,List.set_cons_succ,ih k (by simpa using h) (by simpa using he) hn]
theorem rZ(key:ByteArray)(l:List Pr)(p:Pr)(h:getKey key l=none)(hp:p.1≠key):getKey key (l++[p])=none:=by
 induction l with
 | nil=>simp[getKey,hp]
 | cons q l ih=>
  rw[getKey] at h;by_cases hq:q.1=key
  · rw[if_pos hq] at h; cases h
  · rw[if_neg hq] at h;rw[List.cons_append,getKey,if_neg hq];exact ih h
theorem pO(key:ByteArray)(a b:List Pr):getKey key (a++b)=(getKey key a).or (getKey key b):=by
 induction a with
 | nil=>rfl
 | cons q l ih=>
  rw[List.cons_append,getKey,getKey];by_cases hq:q.1=key
  · rw[if_pos hq,if_pos hq]; rfl
  · rw[if_neg hq,if_neg hq,ih]
end aE
namespace aE
open Go
/-! ### rising lists -/
def r6(l:List Pr):Prop:=l.Pairwise fun p q=>kN p.1 q.1=true
theorem CM(o:Option ByteArray)(l:List Pr):kg o l=true↔(∀p∈l,fW p=true)∧r6 l∧∀k,o=some k→∀p∈l,kN k p.1=true:=by
 induction l generalizing o with
 | nil=>cases o <;> simp[kg,r6]
 | cons q l ih=>
  have hq:=ih (some q.1);constructor
  · intro h;have h':fW q=true∧(∀k,o=some k→kN k q.1=true)∧kg (some q.1) l=true:=by
     cases o with
     | none=>simp only[kg,Bool.and_eq_true] at h; exact⟨h.1,(fun k e=>by cases e),h.2⟩
     | some k=>simp only[kg,Bool.and_eq_true] at h; exact⟨h.1.1,(fun k' e=>by cases e; exact h.1.2),h.2⟩
    obtain⟨h1,h2,h3⟩:=h';obtain⟨a1,a2,a3⟩:=hq.1 h3;refine⟨?_,?_,?_⟩
    · intro p hp;rcases List.mem_cons.1 hp with e | e
      · subst e; exact h1
      · exact a1 p e
    · exact List.Pairwise.cons (fun p hp=>a3 _ rfl p hp) a2
    · intro k hk p hp;rcases List.mem_cons.1 hp with e | e
      · subst e; exact h2 k hk
      · exact lZ (h2 k hk) (a3 _ rfl p e)
  · rintro⟨h1,h2,h3⟩;have hr:=List.pairwise_cons.1 h2;have h4:kg (some q.1) l=true:=hq.2 ⟨fun p hp=>h1 p (List.mem_cons_of_mem _ hp),hr.2,fun k e p hp=>by cases e; exact hr.1 p hp⟩
    cases o with
    | none=>simp only[kg,Bool.and_eq_true]; exact⟨h1 q List.mem_cons_self,h4⟩
    | some k=>simp only[kg,Bool.and_eq_true]; exact⟨⟨h1 q List.mem_cons_self,h3 k rfl q List.mem_cons_self⟩,h4⟩
theorem kW(l:List Pr):ua l=true↔((∀p∈l,fW p=true)∧r6 l)∧l.length≤60:=by
 unfold ua;rw[Bool.and_eq_true,CM,decide_eq_true_iff];constructor
 · rintro⟨⟨a,b,_⟩,c⟩; exact⟨⟨a,b⟩,c⟩
 · rintro⟨⟨a,b⟩,c⟩; exact⟨⟨a,b,fun k e=>by cases e⟩,c⟩
/-! ### what is got -/
theorem tI{key:ByteArray}{l:List Pr}:getKey key l=none↔∀p∈l,p.1≠key:=by
 induction l with
 | nil=>simp[getKey]
 | cons p l ih=>
  rw[getKey];by_cases hp:p.1=key
  · rw[if_pos hp];exact⟨fun h=>(by cases h),fun h=>absurd hp (h p List.mem_cons_self)⟩
  · rw[if_neg hp,ih]; simp[hp]
/-! ### pairs that stay right -/
theorem wK(key val:ByteArray)(l:List Pr):(fX key val l).map (·.1)=l.map (·.1):=by
 induction l with
 | nil=>rfl
 | cons p l ih=>unfold fX; split <;> simp[ih]
theorem Fx{l m:List Pr}(h:l.map (·.1)=m.map (·.1))(hl:r6 l):r6 m:=by
 have e:∀l:List Pr,r6 l↔(l.map (·.1)).Pairwise fun a b=>kN a b=true:=fun l=>by unfold r6; rw[List.pairwise_map]
 rw[e] at *; rw[←h]; exact hl
theorem yH{key val:ByteArray}{l:List Pr}{p:Pr}(h:p∈fX key val l):p∈l∨p=(key,val):=by
 induction l with
 | nil=>exact absurd h List.not_mem_nil
 | cons q l ih=>
  unfold fX at h
  split at h
  · eZ hq
    rcases List.mem_cons.1 h with e | e
    · right; rw[e,hq]
    · left; exact List.mem_cons_of_mem _ e
  · rcases List.mem_cons.1 h with e | e
    · left; rw[e]; exact List.mem_cons_self
    · rcases ih e with h1 | h1
      · left; exact List.mem_cons_of_mem _ h1
      · right; exact h1
theorem CN{key val:ByteArray}{l:List Pr}{p:Pr}(h:p∈putKey key val l):p∈l∨p=(key,val):=by
 unfold putKey at h
 split at h
 · exact yH h
 · rcases List.mem_append.1 h with h1 | h1
   · left; exact List.mem_of_mem_take h1
   · rcases List.mem_cons.1 h1 with h2 | h2
     · right; exact h2
     · left; exact List.mem_of_mem_drop h2
theorem CO{key:ByteArray}{l:List Pr}:∀p∈l.take (below key l),kN key p.1=false:=by
 induction l with
 | nil=>intro p hp; exact absurd hp (by simp)
 | cons q l ih=>
  intro p hp;unfold below at hp
  split at hp
  · exact absurd hp (by simp)
  · eZ hq
    rw[List.take_succ_cons] at hp;rcases List.mem_cons.1 hp with e | e
    · subst e; simpa using hq
    · exact ih p e
theorem Ak{key:ByteArray}{l:List Pr}(hr:r6 l):∀p∈l.drop (below key l),kN key p.1=true:=by
 induction l with
 | nil=>intro p hp; exact absurd hp (by simp)
 | cons q l ih=>
  have Zi:=List.pairwise_cons.1 hr;intro p hp;unfold below at hp
  split at hp
  · eZ hq
    rw[List.drop_zero] at hp;rcases List.mem_cons.1 hp with e | e
    · subst e; exact hq
    · exact lZ hq (Zi.1 p e)
  · rw[List.drop_succ_cons] at hp; exact ih Zi.2 p hp
theorem IA{key val:ByteArray}{l:List Pr}(h:r6 l):r6 (putKey key val l):=by
 unfold putKey
 split
 · exact Fx (wK key val l).symm h
 · eZ hn
   have Q2:getKey key l=none:=by cases e:getKey key l with | none=>rfl | some v=>rw[e] at hn; exact absurd rfl hn
   have bh:=tI.1 Q2;have CP:r6 (l.take (below key l)++l.drop (below key l)):=by rw[List.take_append_drop]; exact h
   have hp:=List.pairwise_append.1 CP;refine List.pairwise_append.2 ⟨hp.1,List.Pairwise.cons (fun p hp'=>Ak h p hp') hp.2.1,?_⟩
   intro p VK q hq;have mH:kN p.1 key=true:=by
    have h1:=CO p VK;cases h2:kN p.1 key
    · exact absurd (rY h2 h1) (bh p (List.mem_of_mem_take VK))
    · rfl
   rcases List.mem_cons.1 hq with e | e
   · subst e; exact mH
   · exact hp.2.2 p VK q e
/-! ### between -/
/-! ### union -/
end aE
namespace gO
open Go.RowKit base
def marks(k0 n:Nat):List UInt8:=(List.range n).map (fun j=>UInt8.ofNat (k0+j))
end gO
namespace mL
open Go.RowKit base gO
end mL
namespace mL
open Go.RowKit base gO
end mL
namespace oW
open Go.RowKit base gO mL
end oW
namespace dG
open Go.RowKit base gO
end dG
namespace nT
open Go.RowKit base gO dG mL oW
end nT
namespace qd
open Go.RowKit base gO
end qd
namespace oX
open Go.RowKit base gO qd
end oX
namespace Al
open Go.RowKit base gO dG qd oX
def sum(ss:List ByteArray):Nat:=(ss.map ByteArray.size).sum
end Al
namespace ub
open Go.RowKit base gO mL qd oW oX nT Al
end ub
end Go.Proofs.YtmibabclefgljaaGreat
