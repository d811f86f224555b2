/- Lay Base App PairMath PairLaw Help GetNum GetNumS GetText HelpS GetTexts PutNum PutText PutTexts NumMath -/
import Derived.WalkKit
import Derived.WalkSpells
import Derived.WalkLawsBesides
import Derived.OwnWalk
import Derived.Deep.AppendLies
import Derived.Lib.ConvBytes
import Derived.Test.YtmibabclefgljaaGreatRows
import Derived.Deep.QuietTactic
import Derived.BigQuiet
import Derived.Deep.RegionWith
import Derived.Laws.CopyOwn
import Derived.Laws.BytesArg
import Derived.Lib.AppendStr
import Derived.ArgAppend
import Derived.Deep.RegionLaw
import Derived.Sort.Walk0
import Derived.WideShapes
set_option linter.unusedVariables false
set_option linter.unusedSimpArgs false
namespace Go.Proofs.YtmibabclefgljaaGreat
theorem zP{α:Type}(l:List α)(i:Nat)(a:α):l.toArray.setIfInBounds i a=(l.set i a).toArray:=List.setIfInBounds_toArray l i a
theorem zQ{α:Type}(l:List α)(x a:α):(x::l).set 0 a=a::l:=List.set_cons_zero
theorem zR{α:Type}(l:List α)(x a:α)(i:Nat):(x::l).set (i+1) a=x::l.set i a:=List.set_cons_succ
namespace lay
open Go Go.RowKit
/-! ### what a step leaves as it was -/
structure Frame (G:List Nat) (w w':World):Prop where
 os:w'.os=w.os
 tape:w'.tape=w.tape
 output:w'.output=w.output
 size:w.heap.size≤w'.heap.size
 block:∀j,j<w.heap.size→j∉G→w'.heap[j]? =w.heap[j]?
def fu(w:World)(F F':List Nat):Prop:=∀k∈F',k∈F∨w.heap.size≤k
section
variable{G G' F F' Ux:List Nat}{w w' Ie:World}{B:Nat}
theorem Frame.refl(G:List Nat)(w:World):Frame G w w:=⟨rfl,rfl,rfl,Nat.le_refl _,fun _ _ _=>rfl⟩
theorem Frame.trans(h:Frame G w w')(k:Frame G' w' Ie)(hf:fu w G G'):Frame G w Ie:=
 ⟨k.os.trans h.os,k.tape.trans h.tape,k.output.trans h.output,Nat.le_trans h.size k.size,fun j hj hn=>(k.block j (Nat.lt_of_lt_of_le hj h.size) (fun e=>by
  rcases hf j e with e | e
  · exact hn e
  · omega)).trans (h.block j hj hn)⟩
theorem Frame.mono(h:Frame G w w')(hg:∀k∈G,k∈G'):Frame G' w w':=
 ⟨h.os,h.tape,h.output,h.size,fun j hj hn=>h.block j hj (fun e=>hn (hg j e))⟩
theorem Frame.cu(h:Below w.heap.size w w'):Frame G w w':=⟨h.os,h.tape,h.output,h.size,fun j hj _=>h.block j hj⟩
theorem Frame.below(h:Frame G w w')(k:Below w'.heap.size w' Ie):Frame G w Ie:=
 h.trans (G':=[]) (Frame.cu k) (fun _ e=>absurd e List.not_mem_nil)
theorem Frame.grown{row:Option Nat}(h:Frame G w w')(k:w'.grownBy Ie row)(hr:∀k,row=some k→k∈G∨w.heap.size≤k):Frame G w Ie:=
 ⟨k.os.trans h.os,k.tape.trans h.tape,k.output.trans h.output,Nat.le_trans h.size k.size,fun j hj hn=>(k.block j (Nat.lt_of_lt_of_le hj h.size) (fun e=>by
  rcases hr j e.symm with e2 | e2
  · exact hn e2
  · omega)).trans (h.block j hj hn)⟩
theorem Frame.e7(h:Frame G w w')(hB:B≤w.heap.size)(hG:∀k∈G,B≤k):Below B w w':=
 ⟨h.os,h.tape,h.output,h.size,fun j hj=>h.block j (Nat.lt_of_lt_of_le hj hB) (fun e=>by have:=hG j e; omega)⟩
theorem fu.refl(w:World)(F:List Nat):fu w F F:=fun _ h=>.inl h
theorem fu.trans(h:fu w F F')(k:fu w' F' Ux)(hs:w.heap.size≤w'.heap.size):fu w F Ux:=fun j hj=>by
 rcases k j hj with e | e
 · exact h j e
 · exact .inr (by omega)
theorem fu.new(h:∀k∈F',w.heap.size≤k):fu w F F':=fun k hk=>.inr (h k hk)
theorem fu.mono(h:fu w F F')(hF:∀k∈F,k∈G):fu w G F':=fun k hk=>(h k hk).imp_left (hF k)
theorem fu.append(h:fu w F F')(k:fu w F Ux):fu w F (F'++Ux):=fun j hj=>by
 rcases List.mem_append.1 hj with e | e
 · exact h j e
 · exact k j e
theorem Fa(h1:F.Nodup)(h2:F'.Nodup)(hF:∀k∈F,k<B)(hF':∀k∈F',B≤k):(F++F').Nodup:=by
 rw[List.nodup_append];exact⟨h1,h2,fun a ha b hb e=>by have:=hF a ha; have:=hF' b hb; omega⟩
theorem aR(h:(F++F').Nodup):F.Nodup∧F'.Nodup∧∀k∈F,k∉F':=by
 rw[List.nodup_append] at h;exact⟨h.1,h.2.1,fun k hk hk'=>h.2.2 k hk k hk' rfl⟩
theorem bL(h1:F.Nodup)(h2:F'.Nodup)(h:∀k∈F,k∉F'):(F++F').Nodup:=by
 rw[List.nodup_append];exact⟨h1,h2,fun a ha b hb e=>h a ha (e ▸ hb)⟩
end
/-! ### a type's way to lie -/
structure Rd (α:Type) where
 size:Nat
 eZ:World→List Value→α→Prop
 own:World→List Value→α→List Nat→Prop
 kW:∀ {w vs x},eZ w vs x→vs.length=size
 hE:∀ {w w' vs x},eZ w vs x→(∀b o v,w.cell? ⟨b,o,none⟩=some v→w'.cell? ⟨b,o,none⟩=some v)→eZ w' vs x
 eu:∀ {w vs x F},own w vs x F→eZ w vs x
 kD:∀ {w w' vs x F},own w vs x F→(∀k∈F,w'.heap[k]? =w.heap[k]?)→own w' vs x F
 dv:∀ {w vs x F},own w vs x F→∀k∈F,k<w.heap.size
 bG:∀ {w vs x F},own w vs x F→F.Nodup
 nA:∀ {w vs x F},own w vs x F→∀v∈vs,v.oneCell'=true
section
variable{α β:Type}{R:Rd α}{S:Rd β}{w w' Ie:World}{vs us:List Value}{x:α}{F G:List Nat}
theorem Rd.Cu(R:Rd α)(h:R.own w vs x F):vs.length=R.size:=R.kW (R.eu h)
theorem Rd.gB(R:Rd α)(h:R.own w vs x F)(hb:Below w.heap.size w w'):R.own w' vs x F:=
 R.kD h fun k hk=>hb.block k (R.dv h k hk)
theorem Rd.If(R:Rd α)(h:R.own w vs x F)(hf:Frame G w w')(hd:∀k∈F,k∉G):R.own w' vs x F:=
 R.kD h fun k hk=>hf.block k (R.dv h k hk) (hd k hk)
theorem Rd.br(R:Rd α)(h:R.own w vs x F){row:Option Nat}(hg:w.grownBy w' row)(hd:∀k∈F,some k≠row):R.own w' vs x F:=
 R.kD h fun k hk=>hg.block k (R.dv h k hk) (hd k hk)
end
def int:Rd Int where
 size:=1
 eZ _ vs x:=vs=[.int .i64 x]∧(Lit.int .i64 x).wf=true
 own _ vs x F:=(vs=[.int .i64 x]∧(Lit.int .i64 x).wf=true)∧F=[]
 kW h:=by rw[h.1]; rfl
 hE h _:=h
 eu h:=h.1
 kD h _:=h
 dv h k hk:=by rw[h.2] at hk; cases hk
 bG h:=by rw[h.2]; exact List.nodup_nil
 nA h v hv:=by rw[h.1.1] at hv; rw[List.mem_singleton.1 hv]; rfl
def bool:Rd Bool where
 size:=1
 eZ _ vs x:=vs=[.bool x]
 own _ vs x F:=vs=[.bool x]∧F=[]
 kW h:=by rw[h]; rfl
 hE h _:=h
 eu h:=h.1
 kD h _:=h
 dv h k hk:=by rw[h.2] at hk; cases hk
 bG h:=by rw[h.2]; exact List.nodup_nil
 nA h v hv:=by rw[h.1] at hv; rw[List.mem_singleton.1 hv]; rfl
def str:Rd ByteArray where
 size:=1
 eZ _ vs x:=vs=[.string x]∧x.size≤maxLen
 own _ vs x F:=(vs=[.string x]∧x.size≤maxLen)∧F=[]
 kW h:=by rw[h.1]; rfl
 hE h _:=h
 eu h:=h.1
 kD h _:=h
 dv h k hk:=by rw[h.2] at hk; cases hk
 bG h:=by rw[h.2]; exact List.nodup_nil
 nA h v hv:=by rw[h.1.1] at hv; rw[List.mem_singleton.1 hv]; rfl
def both{α β:Type}(R:Rd α)(S:Rd β):Rd (α × β) where
 size:=R.size+S.size
 eZ w vs x:=∃us ts,vs=us++ts∧R.eZ w us x.1∧S.eZ w ts x.2
 own w vs x F:=∃us ts F1 F2,vs=us++ts∧F=F1++F2∧R.own w us x.1 F1∧S.own w ts x.2 F2∧F.Nodup
 kW:=by
  rintro w vs x ⟨us,ts,rfl,h1,h2⟩;rw[List.length_append,R.kW h1,S.kW h2]
 hE:=by
  rintro w w' vs x ⟨us,ts,rfl,h1,h2⟩ hc;exact⟨us,ts,rfl,R.hE h1 hc,S.hE h2 hc⟩
 eu:=by
  rintro w vs x F ⟨us,ts,F1,F2,rfl,rfl,h1,h2,_⟩;exact⟨us,ts,rfl,R.eu h1,S.eu h2⟩
 kD:=by
  rintro w w' vs x F ⟨us,ts,F1,F2,rfl,rfl,h1,h2,hn⟩ hk;exact⟨us,ts,F1,F2,rfl,rfl,R.kD h1 (fun k e=>hk k (List.mem_append.2 (.inl e))),S.kD h2 (fun k e=>hk k (List.mem_append.2 (.inr e))),hn⟩
 dv:=by
  rintro w vs x F ⟨us,ts,F1,F2,rfl,rfl,h1,h2,_⟩ k hk;rcases List.mem_append.1 hk with e | e
  · exact R.dv h1 k e
  · exact S.dv h2 k e
 bG:=by
  rintro w vs x F ⟨us,ts,F1,F2,_,_,_,_,hn⟩;exact hn
 nA:=by
  rintro w vs x F ⟨us,ts,F1,F2,rfl,rfl,h1,h2,_⟩ v hv;rcases List.mem_append.1 hv with e | e
  · exact R.nA h1 v e
  · exact S.nA h2 v e
/-! ### slices -/
def Ej(w:World)(b o:Nat)(vs:List Value):Prop:=∀j u,vs[j]? =some u→w.cell? ⟨b,o+j,none⟩=some u
def nc{α:Type}(R:Rd α)(w:World)(a:Option Addr)(len:Nat)(l:List α):Prop:=
 l.length=len∧len≤maxLen∧(∀x∈l,∃vs,R.eZ w vs x)∧(0<len→∃b off,a=some ⟨b,off,none⟩∧∀i (h:i<l.length),∃vs,R.eZ w vs l[i]∧Ej w b (off+i * R.size) vs)
abbrev dJ:=List (List Value × List Nat)
def cellsOf(q:dJ):List Value:=q.flatMap fun p=>p.1
def al(q:dJ):List Nat:=q.flatMap fun p=>p.2
theorem tZ(p q:dJ):cellsOf (p++q)=cellsOf p++cellsOf q:=by simp[cellsOf]
theorem aQ(p q:dJ):al (p++q)=al p++al q:=by simp[al]
theorem fG{q:dJ}{n:Nat}(h:∀p∈q,p.1.length=n):(cellsOf q).length=q.length * n:=by
 induction q with
 | nil=>simp[cellsOf]
 | cons p q ih=>
  have:=ih fun x hx=>h x (List.mem_cons_of_mem _ hx)
  have h1:=h p List.mem_cons_self;unfold cellsOf at this ⊢;rw[List.flatMap_cons,List.length_append,h1,this,List.length_cons,Nat.add_mul]; omega
theorem gQ{q:dJ}{n:Nat}(h:∀p∈q,p.1.length=n)(i:Nat)(hi:i<q.length)(j:Nat)(hj:j<n):(cellsOf q)[i * n+j]? =(q[i].1)[j]? :=by
 induction q generalizing i with
 | nil=>simp at hi
 | cons p q ih=>
  have h1:=h p List.mem_cons_self;unfold cellsOf at ih ⊢;rw[List.flatMap_cons];cases i with
  | zero=>rw[List.getElem?_append_left (by omega)]; simp
  | succ i=>
   rw[List.getElem?_append_right (by rw[h1,Nat.add_mul]; omega),h1,show(i+1) * n+j - n=i * n+j by rw[Nat.add_mul]; omega]
   exact ih (fun x hx=>h x (List.mem_cons_of_mem _ hx)) i (by simpa using hi)
structure bk {α:Type} (ty:TypeId) (R:Rd α) (w:World) (v:Value) (l:List α) (q:dJ):Prop where
 len:q.length=l.length
 row:w.ownsRow 0 ty R.size v l.length (cellsOf q)
 each:∀i (h:i<l.length),R.own w (q[i]'(by omega)).1 l[i] (q[i]'(by omega)).2
 nodup:(v.ownBlock.toList++al q).Nodup
section
variable{α:Type}{ty:TypeId}{R:Rd α}{w w':World}{v:Value}{l:List α}{q:dJ}
theorem bk.parts(h:bk ty R w v l q):∀p∈q,p.1.length=R.size:=fun p hp=>by
 obtain⟨i,hi,rfl⟩:=List.getElem_of_mem hp;exact R.Cu (h.each i (by have:=h.len; omega))
theorem bk.shape(h:bk ty R w v l q):(v=.slice none 0 0∧l=[]∧q=[])∨∃g cap,v=.slice (some ⟨g,0,none⟩) l.length cap∧l.length≤cap∧cap≤maxLen:=by
 rcases h.row.2 with⟨rfl,h0⟩ | ⟨g,cap,cur,rfl,_,_,h1,h2,_⟩
 · have:l=[]:=List.eq_nil_of_length_eq_zero h0;subst this;exact .inl ⟨rfl,rfl,List.eq_nil_of_length_eq_zero (by simpa using h.len)⟩
 · exact .inr ⟨g,cap,rfl,h1,h2⟩
theorem bk.slice(h:bk ty R w v l q):∃a cap,v=.slice a l.length cap∧l.length≤cap∧cap≤maxLen:=by
 rcases h.shape with⟨rfl,rfl,_⟩ | ⟨g,cap,rfl,h1,h2⟩
 · exact⟨none,0,rfl,Nat.le_refl _,Nat.zero_le _⟩
 · exact⟨_,cap,rfl,h1,h2⟩
theorem bk.at_(h:bk ty R w v l q)(k:Nat)(hk:k∈v.ownBlock.toList++al q):k<w.heap.size:=by
 rcases List.mem_append.1 hk with e | e
 · exact(h.row.lt k (by simpa using e)).2
 · obtain⟨p,hp,e⟩:=List.mem_flatMap.1 e;obtain⟨i,hi,rfl⟩:=List.getElem_of_mem hp;exact R.dv (h.each i (by have:=h.len; omega)) k e
theorem qA{base:Nat}{e:TypeId}{size n:Nat}{xs:List Value}(h:w.ownsRow base e size v n xs)(hk:∀k,v.ownBlock=some k→w'.heap[k]? =w.heap[k]?):w'.ownsRow base e size v n xs:=by
 refine⟨h.1,?_⟩;rcases h.2 with h' | ⟨g,cap,cur,rfl,h0,hg,r⟩
 · exact .inl h'
 · exact .inr ⟨g,cap,cur,rfl,h0,(hk g rfl).trans hg,r⟩
theorem bk.keep(h:bk ty R w v l q)(hk:∀k∈v.ownBlock.toList++al q,w'.heap[k]? =w.heap[k]?):bk ty R w' v l q:=
  ⟨h.len,qA h.row (fun k e=>hk k (List.mem_append.2 (.inl (by simp[e])))),
   fun i hi=>R.kD (h.each i hi) (fun k e=>hk k (List.mem_append.2 (.inr (List.mem_flatMap.2 ⟨_,List.getElem_mem _,e⟩)))),h.nodup⟩
theorem bk.cells{g n cap:Nat}(h:bk ty R w (.slice (some ⟨g,0,none⟩) n cap) l q)(i:Nat)(hi:i<l.length):Ej w g (i * R.size) (q[i]'(by have:=h.len; omega)).1:=by
 intro j u hu;have hj:j<R.size:=by
  have h1:=(List.getElem?_eq_some_iff.1 hu).1;rwa[h.parts _ (List.getElem_mem _)] at h1
 have hn:n=l.length:=by
  rcases h.shape with⟨e,_⟩ | ⟨g',c',e,_⟩
  · cases e
  · cases e; rfl
 subst hn;have:=h.row.cells (g:=g) rfl (i * R.size+j) u (by rw[gQ h.parts i (by have:=h.len; omega) j hj]; exact hu)
 rwa[Addr.add_lit,Nat.zero_add] at this
theorem bk.fz{g n cap:Nat}(h:bk ty R w (.slice (some ⟨g,0,none⟩) n cap) l q)(j:Nat):w.frozen? ⟨g,j,none⟩=false:=by
 have hn:n=l.length:=by
  rcases h.shape with⟨e,_⟩ | ⟨g',c',e,_⟩
  · cases e
  · cases e; rfl
 subst hn;exact h.row.frozenAt j
theorem bk.sl{a:Option Addr}{n cap:Nat}(h:bk ty R w (.slice a n cap) l q):nc R w a n l:=by
 have t_:∀x∈l,∃vs,R.eZ w vs x:=fun x hx=>by
  obtain⟨i,hi,rfl⟩:=List.getElem_of_mem hx;exact⟨_,R.eu (h.each i hi)⟩
 rcases h.shape with⟨e,rfl,_⟩ | ⟨g,c,e,h1,h2⟩
 · cases e; exact⟨rfl,Nat.zero_le _,t_,fun h=>absurd h (by omega)⟩
 · cases e;refine⟨rfl,by omega,t_,fun _=>⟨g,0,rfl,fun i hi=>⟨_,R.eu (h.each i hi),?_⟩⟩⟩
   rw[Nat.zero_add];exact h.cells i hi
end
theorem nc.keep{α:Type}{R:Rd α}{w w':World}{a:Option Addr}{len:Nat}{l:List α}(h:nc R w a len l)(hc:∀b o v,w.cell? ⟨b,o,none⟩=some v→w'.cell? ⟨b,o,none⟩=some v):nc R w' a len l:=by
 obtain⟨h1,h2,h3,h4⟩:=h;refine⟨h1,h2,fun x hx=>?_,fun h0=>?_⟩
 · obtain⟨vs,hv⟩:=h3 x hx;exact⟨vs,R.hE hv hc⟩
 · obtain⟨b,off,e,hi⟩:=h4 h0;refine⟨b,off,e,fun i h=>?_⟩
   obtain⟨vs,hs,cK⟩:=hi i h;exact⟨vs,R.hE hs hc,fun j u hu=>hc _ _ _ (cK j u hu)⟩
theorem nc.below{α:Type}{R:Rd α}{w w':World}{a:Option Addr}{len:Nat}{l:List α}(h:nc R w a len l)(hb:Below w.heap.size w w'):nc R w' a len l:=
 h.keep fun b o v hv=>(hb.cell (p:=⟨b,o,none⟩) (World.block_lt_of_cell? w _ hv)).trans hv
def slice{α:Type}(ty:TypeId)(R:Rd α):Rd (List α) where
 size:=1
 eZ w vs l:=∃a len cap,vs=[.slice a len cap]∧len≤cap∧nc R w a len l
 own w vs l F:=∃v q,vs=[v]∧F=v.ownBlock.toList++al q∧bk ty R w v l q
 kW:=by rintro w vs x ⟨a,len,cap,rfl,_⟩; rfl
 hE:=by
  rintro w w' vs x ⟨a,len,cap,rfl,hc,h⟩ hk;exact⟨a,len,cap,rfl,hc,h.keep hk⟩
 eu:=by
  rintro w vs x F ⟨v,q,rfl,rfl,h⟩;obtain⟨a,cap,rfl,hc,_⟩:=h.slice;exact⟨a,_,cap,rfl,hc,h.sl⟩
 kD:=by
  rintro w w' vs x F ⟨v,q,rfl,rfl,h⟩ hk;exact⟨v,q,rfl,rfl,h.keep hk⟩
 dv:=by
  rintro w vs x F ⟨v,q,rfl,rfl,h⟩ k hk;exact h.at_ k hk
 bG:=by
  rintro w vs x F ⟨v,q,rfl,rfl,h⟩;exact h.nodup
 nA:=by
  rintro w vs x F ⟨v,q,rfl,rfl,h⟩ u hu;rw[List.mem_singleton.1 hu];obtain⟨a,cap,rfl,_⟩:=h.slice;rfl
section
variable{α:Type}{ty:TypeId}{R:Rd α}{w w' w7:World}{v v7:Value}{l:List α}{q:dJ}{F:List Nat}
theorem Ot(h:bk ty R w v l q):(slice ty R).own w [v] l (v.ownBlock.toList++al q):=⟨v,q,rfl,rfl,h⟩
theorem lA{vs:List Value}(h:(slice ty R).own w vs l F):∃a cap q,vs=[.slice a l.length cap]∧l.length≤cap∧cap≤maxLen∧F=(Value.slice a l.length cap).ownBlock.toList++al q∧bk ty R w (.slice a l.length cap) l q:=by
 obtain⟨v,q,rfl,rfl,h⟩:=h;obtain⟨a,cap,rfl,h1,h2⟩:=h.slice;exact⟨a,cap,q,rfl,h1,h2,rfl,h⟩
theorem Ig(ty:TypeId)(R:Rd α)(w:World):bk ty R w (.slice none 0 0) [] []:=
 ⟨rfl,World.ownsRow_nil _ _ _ _,fun i h=>absurd h (by simp),by simp[al,Value.ownBlock]⟩
theorem Ek(ty:TypeId)(R:Rd α)(w:World):(slice ty R).own w [.slice none 0 0] [] []:=⟨_,[],rfl,rfl,Ig ty R w⟩
theorem lB(ty:TypeId)(R:Rd α)(w:World):bk ty R (w.alloc (.cells #[] ty)) (.slice (some ⟨w.heap.size,0,none⟩) 0 0) [] []:=
 ⟨rfl,World.ownsRow_made w #[] 0 (Nat.zero_le _) (Nat.zero_le _) (by simp),fun i h=>absurd h (by simp),by simp[al,Value.ownBlock]⟩
theorem bk.snoc{x:α}{vs:List Value}{G:List Nat}{g cap H:Nat}(h:bk ty R w v l q)(hx:R.own w vs x G)(hd:∀k∈G,k∉v.ownBlock.toList++al q)
 (aB:w7.ownsRow 0 ty R.size (.slice (some ⟨g,0,none⟩) (l.length+1) cap) (l.length+1) (cellsOf q++vs)) (az:w.grownBy w7 v.ownBlock) (fl:v.ownBlock=some g∨g=H) (hH:w.heap.size=H):
 bk ty R w7 (.slice (some ⟨g,0,none⟩) (l.length+1) cap) (l++[x]) (q++[(vs,G)]):=by
 have hlen:=h.len;obtain⟨n1,n2,n3⟩:=aR h.nodup;have gR:∀k∈al q,some k≠v.ownBlock:=fun k hk e=>n3 k (by rw[←e]; simp) hk
 have lC:∀k∈G,some k≠v.ownBlock:=fun k hk e=>hd k hk (List.mem_append.2 (.inl (by rw[←e]; simp)))
 refine⟨by simp[hlen],?_,fun i hi=>?_,?_⟩
 · rw[tZ,List.length_append];simpa[cellsOf] using aB
 · by_cases e:i<l.length
   · simp only[List.getElem_append_left e,List.getElem_append_left (show i<q.length by omega)]
     exact R.br (h.each i e) az (fun k hk=>gR k (List.mem_flatMap.2 ⟨_,List.getElem_mem _,hk⟩))
   · have:i=l.length:=by simp at hi; omega
     subst this;rw[List.getElem_append_right (Nat.le_refl _)];simp only[List.getElem_append_right (show q.length≤l.length by omega)]
     simp only[hlen,Nat.sub_self,List.getElem_cons_zero];exact R.br hx az lC
 · have Vw:g∉al q:=by
    rcases fl with e | e
    · exact n3 g (by rw[e]; simp)
    · intro hk;have:=h.at_ g (List.mem_append.2 (.inr hk));omega
   have Vx:g∉G:=by
    rcases fl with e | e
    · exact fun hk=>lC g hk e.symm
    · intro hk;have:=R.dv hx g hk;omega
   have e1:(Value.slice (some ⟨g,0,none⟩) (l.length+1) cap).ownBlock.toList++al (q++[(vs,G)])=g::(al q++G):=by
    rw[aQ]; simp[Value.ownBlock,al]
   rw[e1,List.nodup_cons];refine⟨fun hk=>?_,bL n2 (R.bG hx) (fun k hk gY=>hd k gY (List.mem_append.2 (.inr hk)))⟩
   rcases List.mem_append.1 hk with e | e
   · exact Vw e
   · exact Vx e
theorem bk.take{a:Option Addr}{n cap:Nat}(h:bk ty R w (.slice a n cap) l q)(k:Nat)(hk:k≤l.length):bk ty R w (.slice a k cap) (l.take k) (q.take k):=by
  have hlen:=h.len;have yh:∀j∈al (q.take k),j∈al q:=fun j hj=>by
    obtain⟨p,hp,e⟩:=List.mem_flatMap.1 hj;exact List.mem_flatMap.2 ⟨p,List.mem_of_mem_take hp,e⟩
  have Ou:cellsOf (q.take k)=(cellsOf q).take (k * R.size):=by
    have hp:=h.parts;clear h yh
    induction q generalizing k l with
    | nil=>simp[cellsOf]
    | cons p q ih=>
      cases k with
      | zero=>simp[cellsOf]
      | succ k=>
        have h1:=hp p List.mem_cons_self;cases l with
        | nil=>simp at hk
        | cons y l=>
          have:=ih (l:=l) k (by simpa using hk) (by simpa using hlen) (fun x hx=>hp x (List.mem_cons_of_mem _ hx))
          unfold cellsOf at this ⊢;rw[List.take_succ_cons,List.flatMap_cons,List.flatMap_cons,this,List.take_append,h1,List.take_of_length_le (l:=p.1) (by rw[h1,Nat.add_mul]; omega),show(k+1) * R.size - R.size=k * R.size by rw[Nat.add_mul]; omega]
  refine⟨by simp[hlen],?_,fun i hi=>?_,?_⟩
  · have jh:(l.take k).length=k:=by simp; omega
    rw[jh,Ou];have cK:=h.row.1;refine⟨by rw[List.length_take,cK]; exact Nat.min_eq_left (Nat.mul_le_mul_right _ hk),?_⟩
    rcases h.row.2 with⟨e,h0⟩ | ⟨g,c,cur,e,hb,hg,h1,h2,h3,h4⟩
    · cases e; exact .inl ⟨by have:k=0:=by omega
                              subst this; rfl,by omega⟩
    · cases e;refine .inr ⟨g,_,cur,rfl,hb,hg,by omega,h2,h3,?_⟩
      rw[←h4,List.take_take,Nat.min_eq_left (Nat.mul_le_mul_right _ hk)]
  · have QS:i<l.length:=by simp at hi; omega
    simp only[List.getElem_take];exact h.each i QS
  · obtain⟨n1,n2,n3⟩:=aR h.nodup;refine bL (by cases a <;> simp[Value.ownBlock]) ?_ (fun j hj Ov=>?_)
    · refine List.Nodup.sublist ?_ n2;rw[←List.take_append_drop k q,aQ];rw[List.take_append_drop];exact List.sublist_append_left _ _
    · exact n3 j (by cases a with
        | none=>simp[Value.ownBlock] at hj
        | some ad=>simpa[Value.ownBlock] using hj) (yh j Ov)
end
end lay
namespace base
open Go.RowKit
/-! ### the hash -/
def lD(h c:Nat):Nat:=(h ^^^ c) * 16777619 % 4294967296
def fm(l:List UInt8):Nat:=l.foldl (fun h c=>lD h c.toNat) 2166136261
theorem Ih(h c:Nat):lD h c<4294967296:=by unfold lD; omega
theorem Ii(l:List UInt8)(h:Nat)(hh:h<4294967296):l.foldl (fun h c=>lD h c.toNat) h<4294967296:=by
 induction l generalizing h with
 | nil=>simpa using hh
 | cons c l ih=>simp only[List.foldl_cons]; exact ih _ (Ih _ _)
theorem lE(l:List UInt8):fm l<4294967296:=by
 unfold fm; exact Ii l 2166136261 (by omega)
theorem Cv{α β:Type}(f:β→α→β)(b:β)(l:List α)(c:α):(l++[c]).foldl f b=f (l.foldl f b) c:=by simp
theorem sq(l:List UInt8)(c:UInt8):fm (l++[c])=lD (fm l) c.toNat:=by
 unfold fm; exact Cv (fun h (c:UInt8)=>lD h c.toNat) 2166136261 l c
theorem Ij(h c:Nat)(hh:h<4294967296)(hc:c<256):h ^^^ c<4294967296:=
 Nat.xor_lt_two_pow (n:=32) (by omega) (by omega)
theorem sr(a b:Nat)(ha:a<4294967296)(hb:b<4294967296):bits .xor .i64 (a:Int) (b:Int)=((a ^^^ b:Nat):Int):=by
 have hx:a ^^^ b<4294967296:=Nat.xor_lt_two_pow (n:=32) (by omega) (by omega)
 show IntKind.i64.wrap ((BitVec.ofInt 64 (a:Int) ^^^ BitVec.ofInt 64 (b:Int)).toNat:Int)=_;rw[BitVec.toNat_xor,ofInt_u64 a (by omega),ofInt_u64 b (by omega),IntKind.wrap_i64]
 omega
theorem lF(n:Int)(h₀:0≤n)(h₁:n<2 ^ 63):IntKind.i64.wrap n=n:=by rw[IntKind.wrap_i64]; omega
theorem Cw(x:Int)(h₀:0≤x)(h₁:x<9223372036854775808):bits .and .i64 x 4294967295=x % 4294967296:=
 bits_mask .i64 63 (by decide) lF 32 (by decide) x h₀ (by omega)
theorem Ik(h c:Nat)(hh:h<4294967296)(hc:c<256):IntKind.u32.wrap (bits .xor .u32 (h:Int) (c:Int) * 16777619)=(lD h c:Int):=by
 rw[u32_xor_nat h c hh (by omega),IntKind.wrap_u32]; unfold lD; omega
theorem Il(h c:Nat)(hh:h<4294967296)(hc:c<256):bits .and .i64 (bits .xor .i64 (h:Int) (c:Int) * 16777619) 4294967295=(lD h c:Int):=by
 have:=Ij h c hh hc;rw[sr h c hh (by omega),Cw _ (by omega) (by omega)]; unfold lD; omega
theorem Fb(h c:Nat)(hh:h<4294967296)(hc:c<256):bits .and .i64 (wrap64 (bits .xor .i64 (h:Int) (c:Int) * 16777619)) 4294967295=(lD h c:Int):=by
 have:=Ij h c hh hc;rw[IntWalk.wrap64_in _ (by rw[sr h c hh (by omega)]; omega)]
 exact Il h c hh hc
theorem xf(s:ByteArray)(k:Nat)(h:k<s.size):s.data.toList.take (k+1)=s.data.toList.take k++[s[k]]:=by
 rw[List.take_succ_eq_append_getElem (by simpa using h)]; rfl
theorem yi{k:IntKind}{a b:Int}(h:a=b):Value.int k a=.int k b:=by rw[h]
theorem aj{a b:Bool}(h:a=b):Ending.returned (.bool a)=.returned (.bool b):=by rw[h]
theorem gJ{k:IntKind}{a b:Int}(h:a=b):Ending.returned (.int k a)=.returned (.int k b):=by rw[h]
/-! ### worlds -/
theorem lG(w:World)(e:TypeId)(s:ByteArray):Below w.heap.size w (Lib.bytesWorld w e s):=
 ⟨rfl,rfl,rfl,by rw[Lib.bytesWorld_size]; omega,fun k hk=>Lib.bytesWorld_at_old w e s k hk⟩
/-! ### slices of bytes that are read -/
def Sl(w:World)(a:Option Addr)(len:Nat)(bs:List UInt8):Prop:=
 bs.length=len∧len≤maxLen∧(0<len→∃b off,a=some ⟨b,off,none⟩∧∀i (h:i<bs.length),w.cell? ⟨b,off+i,none⟩=some (.int .u8 bs[i].toNat))
theorem Oq(w:World)(a:Option Addr):Sl w a 0 []:=⟨rfl,Nat.zero_le _,fun h=>absurd h (by omega)⟩
theorem LF{n:Int}(h:(Lit.int .u8 n).wf=true):0≤n∧n≤255:=by
 simpa[Lit.wf,IntKind.min,IntKind.max,IntKind.signed,IntKind.bits] using h
theorem Ct{w:World}{x:Addr}{len cap:Nat}{zs:List Int}(hl:len≤cap)(hm:cap≤maxLen)(hz:zs.length=cap)
 (mU:∀i,i<zs.length→w.cell? (x.add i)=some (.int .u8 (zs.getD i 0))) (Hb:∀n∈zs,(Lit.int .u8 n).wf=true):
 Sl w (some x) len ((zs.take len).map fun n=>UInt8.ofNat n.toNat):=by
 refine⟨by simp; omega,by omega,fun h0=>?_⟩
 obtain⟨b,off,spot⟩:=x;have Rz:spot=none:=by simpa[Addr.add] using World.cell?_spot (mU 0 (by omega))
 subst Rz;refine⟨b,off,rfl,fun i h=>?_⟩
 have hi:i<zs.length:=by simp at h; omega
 have hc:=mU i hi;rw[Addr.add_lit] at hc;rw[hc];have hb:=LF (Hb zs[i] (List.getElem_mem hi));simp only[List.getElem_map,List.getElem_take,List.getD,List.getElem?_eq_getElem hi,Option.getD_some,Option.some.injEq];refine yi ?_;simp;omega
theorem Sl.lt{w:World}{b off len:Nat}{bs:List UInt8}(h:Sl w (some ⟨b,off,none⟩) len bs)(h0:0<len):b<w.heap.size:=by
 obtain⟨h1,_,h3⟩:=h;obtain⟨b',vY,e,hc⟩:=h3 h0;simp only[Option.some.injEq,Addr.mk.injEq,and_true] at e;obtain⟨rfl,rfl⟩:=e;exact World.block_lt_of_cell? w _ (hc 0 (by omega))
theorem Sl.at{w:World}{b off len:Nat}{bs:List UInt8}(h:Sl w (some ⟨b,off,none⟩) len bs)(i:Nat)(hi:i<bs.length):w.cell? ⟨b,off+i,none⟩=some (.int .u8 bs[i].toNat):=by
 obtain⟨h1,_,h3⟩:=h;obtain⟨b',vY,e,hc⟩:=h3 (by omega)
 simp only[Option.some.injEq,Addr.mk.injEq,and_true] at e;obtain⟨rfl,rfl⟩:=e;exact hc i hi
theorem Sl.below{w w':World}{a:Option Addr}{len:Nat}{bs:List UInt8}(h:Sl w a len bs)(hb:Below w.heap.size w w'):Sl w' a len bs:=by
 obtain⟨h1,h2,h3⟩:=h;refine⟨h1,h2,fun h0=>?_⟩
 obtain⟨b,off,rfl,hc⟩:=h3 h0;exact⟨b,off,rfl,fun i hi=>(hb.cell (p:=⟨b,off+i,none⟩) (World.block_lt_of_cell? w _ (hc i hi))).trans (hc i hi)⟩
theorem Sl.grown{w w':World}{b off len:Nat}{bs:List UInt8}{row:Option Nat}(h:Sl w (some ⟨b,off,none⟩) len bs)(hg:w.grownBy w' row)(aW:some b≠row):Sl w' (some ⟨b,off,none⟩) len bs:=by
 have fl:=h.at;exact⟨h.1,h.2.1,fun h0=>⟨b,off,rfl,fun i hi=>hg.cell (fl i hi) aW⟩⟩
/-! ### slices of bytes that the call itself made -/
def qB(bs:List UInt8):List Value:=bs.map fun u=>.int .u8 u.toNat
def tj(w:World)(base g n cap:Nat)(bs:List UInt8):Prop:=bs.length=n∧w.ownsRow base 5 1 (.slice (some ⟨g,0,none⟩) n cap) n (qB bs)
theorem tj.lt{w:World}{base g n cap:Nat}{bs:List UInt8}(h:tj w base g n cap bs):base≤g∧g<w.heap.size:=h.2.lt g rfl
theorem tj.max{w:World}{base g n cap:Nat}{bs:List UInt8}(h:tj w base g n cap bs):n≤cap∧cap≤maxLen:=by
 rcases h.2.2 with⟨h',_⟩ | ⟨g',aO,cur,h',_,hg,h1,h2,_⟩
 · simp at h'
 · simp only[Value.slice.injEq,Option.some.injEq,Addr.mk.injEq,and_true,true_and] at h';obtain⟨rfl,rfl⟩:=h';exact⟨h1,h2⟩
theorem tj.mono{w:World}{base base' g n cap:Nat}{bs:List UInt8}(h:tj w base g n cap bs)(hb:base'≤base):tj w base' g n cap bs:=by
 refine⟨h.1,h.2.1,?_⟩;rcases h.2.2 with h' | ⟨g',aO,cur,h',h0,r⟩
 · exact .inl h'
 · exact .inr ⟨g',aO,cur,h',by omega,r⟩
theorem tj.at{w:World}{base g n cap:Nat}{bs:List UInt8}(h:tj w base g n cap bs)(i:Nat)(hi:i<bs.length):w.cell? ⟨g,i,none⟩=some (.int .u8 bs[i].toNat):=by
 rw[h.2.cellAt i (by have:=h.1; omega)]; simp[qB,hi]
theorem tj.frozen{w:World}{base g n cap:Nat}{bs:List UInt8}(h:tj w base g n cap bs)(i:Nat):w.frozen? ⟨g,i,none⟩=false:=h.2.frozenAt i
theorem tj.sl{w:World}{base g n cap:Nat}{bs:List UInt8}(h:tj w base g n cap bs):Sl w (some ⟨g,0,none⟩) n bs:=
 ⟨h.1,by have:=h.max; omega,fun _=>⟨g,0,rfl,fun i hi=>by rw[Nat.zero_add]; exact h.at i hi⟩⟩
theorem tj.grown{w w':World}{base g n cap:Nat}{bs:List UInt8}{row:Option Nat}(h:tj w base g n cap bs)(hg:w.grownBy w' row)(aW:some g≠row):tj w' base g n cap bs:=
 ⟨h.1,h.2.kept hg (.inr aW)⟩
theorem tj.below{w w':World}{base g n cap:Nat}{bs:List UInt8}(h:tj w base g n cap bs)(hb:Below w.heap.size w w'):tj w' base g n cap bs:=
 ⟨h.1,h.2.kept (row:=none) ⟨hb.os,hb.tape,hb.output,hb.size,fun k hk _=>hb.block k hk⟩ (.inr (by simp[Value.ownBlock]))⟩
theorem fH{w w':World}{B g:Nat}(hg:w.grownBy w' (some g))(h:B≤g)(hB:B≤w.heap.size):Below B w w':=
 (Below.refl B w).grown hg hB (fun k e=>by cases e; exact h)
def mV(w w':World):Prop:=w.heap.size≤w'.heap.size∧∀b,b<w.heap.size→(∀cur,w.heap[b]? ≠some (.cells cur 5 (0,0)))→w'.heap[b]? =w.heap[b]?
theorem mV.refl(w:World):mV w w:=⟨Nat.le_refl _,fun _ _ _=>rfl⟩
theorem mV.trans{a b c:World}(h:mV a b)(k:mV b c):mV a c:=
 ⟨Nat.le_trans h.1 k.1,fun i hi hn=>by
  have e:=h.2 i hi hn;rw[k.2 i (Nat.lt_of_lt_of_le hi h.1) (by rw[e]; exact hn),e]⟩
theorem mV.cu{w w':World}(h:Below w.heap.size w w'):mV w w':=⟨h.size,fun b hb _=>h.block b hb⟩
theorem tj.keeps{w w':World}{base g n cap:Nat}{bs:List UInt8}(h:tj w base g n cap bs)(hg:w.grownBy w' (some g)):mV w w':=by
 refine⟨hg.size,fun b hb hn=>hg.block b hb ?_⟩
 intro e;simp only[Option.some.injEq] at e;subst e;rcases h.2.2 with⟨h',_⟩ | ⟨g',aO,cur,h',_,hgg,_⟩
 · simp at h'
 · simp only[Value.slice.injEq,Option.some.injEq,Addr.mk.injEq,and_true,true_and] at h';obtain⟨rfl,rfl⟩:=h';exact hn cur hgg
theorem mV.alloc{a w:World}(h:mV a w)(o:Obj):mV a (w.alloc o):=
 h.trans (.cu ((Below.refl _ _).alloc (Nat.le_refl _) o))
/-! ### slices of strings -/
section
variable{w w':World}{base base' g n cap:Nat}{ss:List ByteArray}{row:Option Nat}
end
end base
namespace base
open Go.RowKit
theorem ao{a b c:World}{row:Option Nat}(h:a.grownBy b row)(k:b.grownBy c row):a.grownBy c row:=
 ⟨k.os.trans h.os,k.tape.trans h.tape,k.output.trans h.output,Nat.le_trans h.size k.size,fun i hi hr=>(k.block i (Nat.lt_of_lt_of_le hi h.size) hr).trans (h.block i hi hr)⟩
theorem Hid.mk'{p:Prop}(h:p):Hid p:=h
theorem RA:(Tryz.prog.info? 5).map (fun i=>(i.zero,i.size,i.bytes))=some (some (.int .u8 0),1,1):=by kernel_rfl
theorem aI{base:Nat}(w:World)(o:Obj)(h:base≤w.heap.size):base≤(w.alloc o).heap.size:=by simp; omega
def cut(bs:List UInt8)(p n:Nat):ByteArray:=⟨((bs.drop p).take n).toArray⟩
theorem Im{w:World}{b off p n:Nat}{bs:List UInt8}{len:Nat}(h:Sl w (some ⟨b,off,none⟩) len bs)(hp:p+n≤bs.length)(c:Nat):
 (convert 22 9 (.slice (some ⟨b,off+p,none⟩) n c)).run Tryz.prog w=.ok (.string (cut bs p n)) w:=by
 have hr:=run_convert_bytes_arg (P:=Tryz.prog) w 22 5 Tryz.underlying22 Tryz.underlying5 b (off+p) n c (((bs.drop p).take n).map fun u=>(u.toNat:Int)) (by simp; omega) ?_ 9 Tryz.underlying9
 · rw[hr];have e:strOfNums (((bs.drop p).take n).map fun u=>(u.toNat:Int))=cut bs p n:=by
    simp[strOfNums,cut,Function.comp_def]
   rw[e]
 · intro i hi;have Y5:p+i<bs.length:=by omega
   rw[show off+p+i=off+(p+i) by omega,h.at (p+i) Y5]
   simp[List.getD,Y5,hi]
theorem aP{w w1 w2:World}{g:Nat}(h:w.grownBy w1 (some g))(hb:Below w1.heap.size w1 w2):w.grownBy w2 (some g):=
 ⟨hb.os.trans h.os,hb.tape.trans h.tape,hb.output.trans h.output,Nat.le_trans h.size hb.size,fun k hk hr=>(hb.block k (Nat.lt_of_lt_of_le hk h.size)).trans (h.block k hk hr)⟩
theorem ji{w:World}{gc:Nat}{cur:Array Value}{t:TypeId}{mk:Nat × Nat}(h:w.heap[gc]? =some (.cells cur t mk))(j:Nat)(v:Value)(hj:cur[j]? =some v):w.cell? ⟨gc,j,none⟩=some v:=by
 rw[cell_of_row w gc j cur t mk h]; exact hj
theorem bw{w:World}{gc:Nat}{cur:Array Value}{t:TypeId}(h:w.heap[gc]? =some (.cells cur t (0,0)))(j:Nat)(v:Value):
 (w.setCell ⟨gc,j,none⟩ v).heap[gc]? =some (.cells (cur.setIfInBounds j v) t (0,0))∧w.grownBy (w.setCell ⟨gc,j,none⟩ v) (some gc):=
 ⟨heap_setCell_same w gc j cur t v h,⟨rfl,rfl,rfl,by simp,fun k _ hk=>heap_setCell_other w ⟨gc,j,none⟩ k v (fun e=>hk (by simp[e]))⟩⟩
theorem jj{w w1:World}{row:Option Nat}(h:w.grownBy w1 row)(n:Nat):w.grownBy (w1.drewN n) row:=⟨h.os,h.tape,h.output,h.size,h.block⟩
theorem cv{w wr w2:World}{gc g:Nat}(h:w.grownBy wr (some gc))(h2:wr.grownBy w2 (some g))(hg:w.heap.size≤g):w.grownBy w2 (some gc):=
 ⟨h2.os.trans h.os,h2.tape.trans h.tape,h2.output.trans h.output,Nat.le_trans h.size h2.size,fun k hk aW=>(h2.block k (Nat.lt_of_lt_of_le hk h.size) (by intro e; simp only[Option.some.injEq] at e; omega)).trans (h.block k hk aW)⟩
theorem zW{w wr:World}{row:Option Nat}(h:w.grownBy wr row)(o:Obj):w.grownBy (wr.alloc o) row:=
 ⟨h.os,h.tape,h.output,by have:=h.size; simp; omega,fun k hk aW=>(Below.heap_alloc wr o k (Nat.lt_of_lt_of_le hk h.size)).trans (h.block k hk aW)⟩
theorem yj(w:World)(o:Obj)(row:Option Nat):w.grownBy (w.alloc o) row:=World.grownBy_alloc w o row
theorem Io{w:World}{base g m cp:Nat}{bs:List UInt8}(h:tj w base g m cp bs):
 (convert 22 9 (.slice (some ⟨g,0,none⟩) m cp)).run Tryz.prog w=.ok (.string ⟨bs.toArray⟩) w:=by
 have h1:=Im (w:=w) (b:=g) (off:=0) (p:=0) (n:=m) h.sl (by have:=h.1; omega) cp
 have e:cut bs 0 m=⟨bs.toArray⟩:=by unfold cut; rw[List.drop_zero,List.take_of_length_le (by have:=h.1; omega)]
 rw[e] at h1;exact h1
def Wr(w:World)(g n:Nat)(bs:List UInt8):Prop:=
 bs.length=n∧n≤maxLen∧g<w.heap.size∧∀i (h:i<bs.length),w.cell? ⟨g,i,none⟩=some (.int .u8 bs[i].toNat)∧w.frozen? ⟨g,i,none⟩=false
theorem Wr.sl{w:World}{g n:Nat}{bs:List UInt8}(h:Wr w g n bs):Sl w (some ⟨g,0,none⟩) n bs:=
 ⟨h.1,h.2.1,fun _=>⟨g,0,rfl,fun i hi=>by rw[Nat.zero_add]; exact(h.2.2.2 i hi).1⟩⟩
theorem Wr.below{w w':World}{g n:Nat}{bs:List UInt8}(h:Wr w g n bs)(hb:Below w.heap.size w w'):Wr w' g n bs:=
 ⟨h.1,h.2.1,Nat.lt_of_lt_of_le h.2.2.1 hb.size,fun i hi=>⟨(hb.cell (p:=⟨g,i,none⟩) h.2.2.1).trans (h.2.2.2 i hi).1,(hb.frozen (p:=⟨g,i,none⟩) h.2.2.1).trans (h.2.2.2 i hi).2⟩⟩
theorem tj.wr{w:World}{base g n cap:Nat}{bs:List UInt8}(h:tj w base g n cap bs):Wr w g n bs:=
 ⟨h.1,by have:=h.max; omega,h.lt.2,fun i hi=>⟨h.at i hi,h.frozen i⟩⟩
theorem cL{P:Program}{ops:Array Oper}{o:Oper}{a:Act}{w:World}{K:Act→World→Prop}{Q:Exit→Act→World→Prop}{E:Prop}(qC:o.guard=none)(s x:Operand)(t:TypeId)
 (ho:o.op=.call {callee:=.builtin .append,args:=#[s,x],argTypes:=#[t,t]})
 (base:Nat) (e:TypeId) (i:TypeInfo) (z:Value) (size bytes:Nat) (ht:P.underlying t=some (.slice e)) (hi:P.info? e=some i) (hz:i.zero=some z)
 (RC:i.size=size) (hby:i.bytes=bytes) (Nf:z.cells.size=size) (iO:0<size)
 (v:Value) (n:Nat) (xs:List Value) (hs:a.eval s=v) (aB:w.ownsRow base e size v n xs)
 (ad:Addr) (m c:Nat) (news:List Value) (hx:a.eval x=.slice (some ad) m c) (hl:news.length=m * size) (RD:∀j u,news[j]? =some u→w.cell? (ad.add j)=some u) (h1:∀u∈news,u.oneCell'=true)
 (h63:n+m≤maxLen) (Ow:(n+m) * bytes≤140737488355328) (iM:base≤w.heap.size)
 (h:∀v' w',w'.ownsRow base e size v' (n+m) (xs++news)→w.grownBy w' v.ownBlock→(v'=.slice none 0 0↔v=.slice none 0 0∧m=0)→K (a.put o.dst v') w'):
 if Region.wanted o (yielded ops a.tmps)=true then Oper.wp P o a w K Q else E:=by
 have hw:Region.wanted o (yielded ops a.tmps)=true:=by simp[Region.wanted,qC]
 rw[if_pos hw];exact wp_append_own w s x t ho base e i z size bytes ht hi hz RC hby Nf iO v n xs hs aB ad m c news hx hl RD h1 h63 Ow iM h
theorem Fc(w:World)(x y:Value)(t:TypeId):∀j u,[x,y][j]? =some u→(w.alloc (.cells #[x,y] t)).cell? ((⟨w.heap.size,0,none⟩:Addr).add j)=some u:=by
 intro j u hj
 match j,hj with
 | 0,hj=>simp at hj; subst hj; simp[Addr.add]
 | 1,hj=>simp at hj; subst hj; simp[Addr.add]
end base
namespace av
open Go
abbrev Pr:=ByteArray × ByteArray
theorem jM{a b:ByteArray}(h:a.data.toList=b.data.toList):a=b:=WideShapes.bytes_inj h
/-! ### the order of texts -/
def kt(a b:ByteArray):Bool:=Op.bytesLess a.toList b.toList
theorem oD(a b:ByteArray):kt a b=true↔a.data.toList<b.data.toList:=by
 unfold kt; rw[Proofs.bytesLess_eq,ByteArray.toList_eq,ByteArray.toList_eq]; simp
theorem ml(a:ByteArray):kt a a=false:=by
 rw[Bool.eq_false_iff]; intro h; exact List.lt_irrefl _ ((oD a a).1 h)
theorem lH{a b c:ByteArray}(h:kt a b=true)(k:kt b c=true):kt a c=true:=
 (oD a c).2 (List.lt_trans ((oD a b).1 h) ((oD b c).1 k))
theorem Fe{a b:ByteArray}(h:kt a b=true):kt b a=false:=by
 rw[Bool.eq_false_iff]; intro k; have:=lH h k; rw[ml] at this; cases this
theorem rD{a b:ByteArray}(h:kt a b=false)(k:kt b a=false):a=b:=by
 apply jM;have h':¬a.data.toList<b.data.toList:=fun e=>by rw[(oD a b).2 e] at h; cases h
 have k':¬b.data.toList<a.data.toList:=fun e=>by rw[(oD b a).2 e] at k; cases k
 exact List.le_antisymm (List.not_lt.1 k') (List.not_lt.1 h')
theorem Ox{a b:ByteArray}(h:kt a b=true):a≠b:=by
 rintro rfl; rw[ml] at h; cases h
/-! ### the functions -/
def gC(c:Nat):Bool:=decide (97≤c∧c≤122) || decide (48≤c∧c≤57)
def kX(l:List UInt8):Bool:=l.all fun c=>gC c.toNat
def gD(s:ByteArray):Bool:=kX s.data.toList && decide (1≤s.size∧s.size≤12)
def fI(p:Pr):Bool:=gD p.1 && decide (p.2.size≤20)
def jS:Option ByteArray→List Pr→Bool
 | _,[]=>true
 | none,p::l=>fI p && jS (some p.1) l
 | some k,p::l=>fI p && kt k p.1 && jS (some p.1) l
def tI(l:List Pr):Bool:=jS none l && decide (l.length≤60)
def getKey(key:ByteArray):List Pr→Option ByteArray
 | []=>none
 | p::l=>if p.1=key then some p.2 else getKey key l
def fJ(key val:ByteArray):List Pr→List Pr
 | []=>[]
 | p::l=>if p.1=key then(p.1,val)::l else p::fJ key val l
def below(key:ByteArray):List Pr→Nat
 | []=>0
 | p::l=>if kt key p.1=true then 0 else below key l+1
def putKey(key val:ByteArray)(l:List Pr):List Pr:=
 if(getKey key l).isSome then fJ key val l else l.take (below key l)++(key,val)::l.drop (below key l)
def delKey(key:ByteArray)(l:List Pr):List Pr:=l.filter fun p=>decide (p.1≠key)
/-! ### first facts -/
theorem tk(key val:ByteArray)(l:List Pr):(fJ key val l).length=l.length:=by
 induction l with
 | nil=>rfl
 | cons p l ih=>unfold fJ; split <;> simp[ih]
theorem ua(key:ByteArray)(l:List Pr):below key l≤l.length:=by
 induction l with
 | nil=>exact Nat.le_refl _
 | cons p l ih=>unfold below; split <;> simp; omega
theorem gE(key val:ByteArray)(l:List Pr):(putKey key val l).length≤l.length+1∧l.length≤(putKey key val l).length:=by
 have:=ua key l;unfold putKey
 split
 · rw[tk]; omega
 · simp; omega
theorem nB(key:ByteArray)(l:List Pr)(k:Nat)(h:k<l.length):getKey key (l.drop k)=if l[k].1=key then some l[k].2 else getKey key (l.drop (k+1)):=by
 rw[List.drop_eq_getElem_cons h,getKey]
theorem pN(key:ByteArray)(l:List Pr)(k:Nat)(h:k<l.length):below key (l.drop k)=if kt key l[k].1=true then 0 else below key (l.drop (k+1))+1:=by
 rw[List.drop_eq_getElem_cons h,below]
theorem zX(key val:ByteArray)(l:List Pr)(k:Nat)(h:k<l.length)(he:l[k].1=key)(hn:getKey key (l.take k)=none):fJ key val l=l.set k (key,val):=by
 induction l generalizing k with
 | nil=>simp at h
 | cons p l ih=>
  cases k with
  | zero=>simp at he; unfold fJ; rw[if_pos he,he]; rfl
  | succ k=>
   rw[List.take_succ_cons,getKey] at hn;by_cases hp:p.1=key
   · rw[if_pos hp] at hn; cases hn
   · rw[if_neg hp] at hn;unfold fJ;rw[if_neg hp,List.set_cons_succ,ih k (by simpa using h) (by simpa using he) hn]
theorem rE(key:ByteArray)(l:List Pr)(p:Pr)(h:getKey key l=none)(hp:p.1≠key):getKey key (l++[p])=none:=by
 induction l with
 | nil=>simp[getKey,hp]
 | cons q l ih=>
  rw[getKey] at h;by_cases hq:q.1=key
  · rw[if_pos hq] at h; cases h
  · rw[if_neg hq] at h;rw[List.cons_append,getKey,if_neg hq];exact ih h
theorem pr(key:ByteArray)(a b:List Pr):getKey key (a++b)=(getKey key a).or (getKey key b):=by
 induction a with
 | nil=>rfl
 | cons q l ih=>
  rw[List.cons_append,getKey,getKey];by_cases hq:q.1=key
  · rw[if_pos hq,if_pos hq]; rfl
  · rw[if_neg hq,if_neg hq,ih]
end av
namespace av
open Go
/-! ### rising lists -/
def rG(l:List Pr):Prop:=l.Pairwise fun p q=>kt p.1 q.1=true
theorem Cx(o:Option ByteArray)(l:List Pr):jS o l=true↔(∀p∈l,fI p=true)∧rG l∧∀k,o=some k→∀p∈l,kt k p.1=true:=by
 induction l generalizing o with
 | nil=>cases o <;> simp[jS,rG]
 | cons q l ih=>
  have hq:=ih (some q.1);constructor
  · intro h;have h':fI q=true∧(∀k,o=some k→kt k q.1=true)∧jS (some q.1) l=true:=by
     cases o with
     | none=>simp only[jS,Bool.and_eq_true] at h; exact⟨h.1,(fun k e=>by cases e),h.2⟩
     | some k=>simp only[jS,Bool.and_eq_true] at h; exact⟨h.1.1,(fun k' e=>by cases e; exact h.1.2),h.2⟩
    obtain⟨h1,h2,h3⟩:=h';obtain⟨a1,a2,a3⟩:=hq.1 h3;refine⟨?_,?_,?_⟩
    · intro p hp;rcases List.mem_cons.1 hp with e | e
      · subst e; exact h1
      · exact a1 p e
    · exact List.Pairwise.cons (fun p hp=>a3 _ rfl p hp) a2
    · intro k hk p hp;rcases List.mem_cons.1 hp with e | e
      · subst e; exact h2 k hk
      · exact lH (h2 k hk) (a3 _ rfl p e)
  · rintro⟨h1,h2,h3⟩;have hr:=List.pairwise_cons.1 h2;have h4:jS (some q.1) l=true:=hq.2 ⟨fun p hp=>h1 p (List.mem_cons_of_mem _ hp),hr.2,fun k e p hp=>by cases e; exact hr.1 p hp⟩
    cases o with
    | none=>simp only[jS,Bool.and_eq_true]; exact⟨h1 q List.mem_cons_self,h4⟩
    | some k=>simp only[jS,Bool.and_eq_true]; exact⟨⟨h1 q List.mem_cons_self,h3 k rfl q List.mem_cons_self⟩,h4⟩
theorem kE(l:List Pr):tI l=true↔((∀p∈l,fI p=true)∧rG l)∧l.length≤60:=by
 unfold tI;rw[Bool.and_eq_true,Cx,decide_eq_true_iff];constructor
 · rintro⟨⟨a,b,_⟩,c⟩; exact⟨⟨a,b⟩,c⟩
 · rintro⟨⟨a,b⟩,c⟩; exact⟨⟨a,b,fun k e=>by cases e⟩,c⟩
/-! ### what is got -/
theorem tl{key:ByteArray}{l:List Pr}:getKey key l=none↔∀p∈l,p.1≠key:=by
 induction l with
 | nil=>simp[getKey]
 | cons p l ih=>
  rw[getKey];by_cases hp:p.1=key
  · rw[if_pos hp];exact⟨fun h=>(by cases h),fun h=>absurd hp (h p List.mem_cons_self)⟩
  · rw[if_neg hp,ih]; simp[hp]
/-! ### pairs that stay right -/
theorem vZ(key val:ByteArray)(l:List Pr):(fJ key val l).map (·.1)=l.map (·.1):=by
 induction l with
 | nil=>rfl
 | cons p l ih=>unfold fJ; split <;> simp[ih]
theorem Ff{l m:List Pr}(h:l.map (·.1)=m.map (·.1))(hl:rG l):rG m:=by
 have e:∀l:List Pr,rG l↔(l.map (·.1)).Pairwise fun a b=>kt a b=true:=fun l=>by unfold rG; rw[List.pairwise_map]
 rw[e] at *; rw[←h]; exact hl
theorem yk{key val:ByteArray}{l:List Pr}{p:Pr}(h:p∈fJ key val l):p∈l∨p=(key,val):=by
 induction l with
 | nil=>exact absurd h List.not_mem_nil
 | cons q l ih=>
  unfold fJ at h
  split at h
  · rename_i hq
    rcases List.mem_cons.1 h with e | e
    · right; rw[e,hq]
    · left; exact List.mem_cons_of_mem _ e
  · rcases List.mem_cons.1 h with e | e
    · left; rw[e]; exact List.mem_cons_self
    · rcases ih e with h1 | h1
      · left; exact List.mem_cons_of_mem _ h1
      · right; exact h1
theorem Cy{key val:ByteArray}{l:List Pr}{p:Pr}(h:p∈putKey key val l):p∈l∨p=(key,val):=by
 unfold putKey at h
 split at h
 · exact yk h
 · rcases List.mem_append.1 h with h1 | h1
   · left; exact List.mem_of_mem_take h1
   · rcases List.mem_cons.1 h1 with h2 | h2
     · right; exact h2
     · left; exact List.mem_of_mem_drop h2
theorem Cz{key:ByteArray}{l:List Pr}:∀p∈l.take (below key l),kt key p.1=false:=by
 induction l with
 | nil=>intro p hp; exact absurd hp (by simp)
 | cons q l ih=>
  intro p hp;unfold below at hp
  split at hp
  · exact absurd hp (by simp)
  · rename_i hq
    rw[List.take_succ_cons] at hp;rcases List.mem_cons.1 hp with e | e
    · subst e; simpa using hq
    · exact ih p e
theorem zY{key:ByteArray}{l:List Pr}(hr:rG l):∀p∈l.drop (below key l),kt key p.1=true:=by
 induction l with
 | nil=>intro p hp; exact absurd hp (by simp)
 | cons q l ih=>
  have Y6:=List.pairwise_cons.1 hr;intro p hp;unfold below at hp
  split at hp
  · rename_i hq
    rw[List.drop_zero] at hp;rcases List.mem_cons.1 hp with e | e
    · subst e; exact hq
    · exact lH hq (Y6.1 p e)
  · rw[List.drop_succ_cons] at hp; exact ih Y6.2 p hp
theorem Ip{key val:ByteArray}{l:List Pr}(h:rG l):rG (putKey key val l):=by
 unfold putKey
 split
 · exact Ff (vZ key val l).symm h
 · rename_i hn
   have QT:getKey key l=none:=by cases e:getKey key l with | none=>rfl | some v=>rw[e] at hn; exact absurd rfl hn
   have aW:=tl.1 QT;have CA:rG (l.take (below key l)++l.drop (below key l)):=by rw[List.take_append_drop]; exact h
   have hp:=List.pairwise_append.1 CA;refine List.pairwise_append.2 ⟨hp.1,List.Pairwise.cons (fun p hp'=>zY h p hp') hp.2.1,?_⟩
   intro p Vy q hq;have mh:kt p.1 key=true:=by
    have h1:=Cz p Vy;cases h2:kt p.1 key
    · exact absurd (rD h2 h1) (aW p (List.mem_of_mem_take Vy))
    · rfl
   rcases List.mem_cons.1 hq with e | e
   · subst e; exact mh
   · exact hp.2.2 p Vy q e
/-! ### between -/
/-! ### union -/
end av
namespace gu
open Go.RowKit base
def marks(k0 n:Nat):List UInt8:=(List.range n).map (fun j=>UInt8.ofNat (k0+j))
end gu
namespace mo
open Go.RowKit base gu
end mo
namespace mo
open Go.RowKit base gu
end mo
namespace oE
open Go.RowKit base gu mo
end oE
namespace dp
open Go.RowKit base gu
end dp
namespace nC
open Go.RowKit base gu dp mo oE
end nC
namespace pO
open Go.RowKit base gu
end pO
namespace oF
open Go.RowKit base gu pO
end oF
namespace zZ
open Go.RowKit base gu dp pO oF
def sum(ss:List ByteArray):Nat:=(ss.map ByteArray.size).sum
end zZ
namespace tJ
open Go.RowKit base gu mo pO oE oF nC zZ
end tJ
end Go.Proofs.YtmibabclefgljaaGreat
