/- CoE CoZ Gen GenRow GenAt CoOwn GenV CoH GenAp0 GenApp CoV -/
import Derived.Test.YtmibabclefgljaaGreatShaw
import Derived.Test.YtmibabclefgljaaGreatSham
import Derived.Handy
import Derived.Test.YtmibabclefgljaaGreatShay
import Derived.Test.YtmibabclefgljaaGreatShau
import Derived.Maps.AppendAt
import Derived.Deep.AppendLies
import Derived.Test.YtmibabclefgljaaGreatShav
import Derived.Test.YtmibabclefgljaaGreatShah
set_option linter.unusedVariables false
set_option linter.unusedSimpArgs false
namespace Go.Proofs.YtmibabclefgljaaGreat
open Go in
abbrev qO27:Oper:={dst:=some 7,op:=Op.buildSlice 73 0 #[],type:=73,pos:= "l11_coord.go:159",after:=#[],guard:=none}
open Go in
abbrev qO28:Oper:={dst:=some 12,op:=Op.call {callee:=Callee.builtin Builtin.append,args:=#[Operand.tmp 7,Operand.tmp 11],argTypes:=#[73,73]},type:=73,pos:= "l11_coord.go:159",after:=#[{on:=4,ground:=Ground.data},{on:=8,ground:=Ground.data}],guard:=none}
namespace cos
open Go Go.RowKit base aE aX lay lh
theorem eu(w:World)(o o2:Obj):Below w.heap.size w ((w.alloc o).alloc o2):=((Below.refl _ _).alloc (Nat.le_refl _) _).alloc (by simp) _
end cos
namespace cos
open Go Go.RowKit base aE aX lay lh
def Kt(j:Jb):Nat:=j.2.1.length+sr j.2.1+j.2.2.2.length
def pN(l:List Jb):Nat:=(l.map Kt).sum
theorem GS(l:List Jb)(k:Nat)(h:k<l.length):pN (l.take (k+1))=pN (l.take k)+Kt l[k]:=by
 unfold pN;rw[List.take_succ_eq_append_getElem h,List.map_append,List.sum_append]; simp
theorem MT(l:List Jb)(k:Nat):pN (l.take k)≤pN l:=by
 conv=>rhs; rw[←List.take_append_drop k l]
 unfold pN;rw[List.map_append,List.sum_append]; omega
theorem BP{l:List Jb}{j:Jb}(h:j∈l):Kt j≤pN l:=by
 obtain⟨i,hi,rfl⟩:=List.getElem_of_mem h;have h1:=GS l i hi;have h2:=MT l (i+1);omega
def Fa(c:Co):Nat:=c.2.2.2.1.length+pN c.2.2.2.1+c.2.2.2.2.1.length
end cos
namespace lay
open Go Go.RowKit base
theorem aT{w:World}{o:Obj}:Below w.heap.size w (w.alloc o):=(Below.refl _ _).alloc (Nat.le_refl _) _
structure N0 {α:Type} (R:Rd α) (T:TypeId) (w:World) (X:Nat) (vs:List Value) (x:α) (F:List Nat):Prop where
 box:aD X T [] vs [] w
 own:R.own w vs x F
 out:X∉F
def Ah{α:Type}(R:Rd α)(w:World)(x:α)(e:Ending)(w':World):Prop:=∃vs F,e=.returned (.agg vs.toArray)∧R.own w' vs x F∧(∀k∈F,w.heap.size≤k)∧Below w.heap.size w w'
section
variable{α:Type}{R:Rd α}{T:TypeId}{w w':World}{X:Nat}{vs:List Value}{x:α}{F G:List Nat}
theorem t_(h:R.own w vs x F):N0 R T (w.alloc (.cells vs.toArray T)) w.heap.size vs x F:=
 ⟨aO w _ _,R.gQ h aT,fun e=>by have:=R.dK h _ e; omega⟩
theorem N0.below(h:N0 R T w X vs x F)(hb:Below w.heap.size w w'):N0 R T w' X vs x F:=⟨h.box.below hb,R.gQ h.own hb,h.out⟩
theorem N0.fo(h:N0 R T w X vs x F):R.fo w vs x:=R.eK h.own
theorem N0.lt(h:N0 R T w X vs x F):X<w.heap.size:=h.box.lt
end
theorem cells4{X:Nat}{T:TypeId}{w:World}{v0 v1 v2 v3:Value}(h:aD X T [] [v0,v1,v2,v3] [] w):w.cell? ⟨X,0,none⟩=some v0∧w.cell? ⟨X,1,none⟩=some v1∧w.cell? ⟨X,2,none⟩=some v2∧w.cell? ⟨X,3,none⟩=some v3:=by
 have a0:=h.cell 0 _ rfl;have a1:=h.cell 1 _ rfl;have a2:=h.cell 2 _ rfl;have a3:=h.cell 3 _ rfl;simp only[List.length_nil,Nat.zero_add] at a0 a1 a2 a3;exact⟨a0,a1,a2,a3⟩
theorem cells6{X:Nat}{T:TypeId}{w:World}{v0 v1 v2 v3 v4 v5:Value}(h:aD X T [] [v0,v1,v2,v3,v4,v5] [] w):w.cell? ⟨X,0,none⟩=some v0∧w.cell? ⟨X,1,none⟩=some v1∧w.cell? ⟨X,2,none⟩=some v2∧w.cell? ⟨X,3,none⟩=some v3∧w.cell? ⟨X,4,none⟩=some v4∧w.cell? ⟨X,5,none⟩=some v5:=by
 have a0:=h.cell 0 _ rfl;have a1:=h.cell 1 _ rfl;have a2:=h.cell 2 _ rfl;have a3:=h.cell 3 _ rfl;have a4:=h.cell 4 _ rfl;have a5:=h.cell 5 _ rfl;simp only[List.length_nil,Nat.zero_add] at a0 a1 a2 a3 a4 a5;exact⟨a0,a1,a2,a3,a4,a5⟩
end lay
namespace lay
open Go Go.RowKit base
def bx(w:World)(g:Nat):Nat→List Value→World
 | _,[]=>w
 | o,u::us=>bx (w.setCell ⟨g,o,none⟩ u) g (o+1) us
def mM(xs:List Value):Nat→List Value→List Value
 | _,[]=>xs
 | o,u::us=>mM (xs.set o u) (o+1) us
theorem xn(us:List Value):∀(xs:List Value) (o:Nat),(mM xs o us).length=xs.length:=by
 induction us with
 | nil=>intro xs o; rfl
 | cons u us ih=>intro xs o; rw[mM,ih,List.length_set]
theorem vP(us:List Value):∀(xs:List Value) (o j:Nat) (h:o+us.length≤xs.length),(mM xs o us)[j]? =if o≤j∧j<o+us.length then us[j - o]? else xs[j]? :=by
 induction us with
 | nil=>intro xs o j h; rw[mM,if_neg (by simp)]
 | cons u us ih=>
  intro xs o j h;simp only[List.length_cons] at h ⊢;rw[mM,ih _ _ _ (by rw[List.length_set]; omega)]
  by_cases e:j=o
  · subst e;rw[if_neg (by omega),if_pos (by omega),List.getElem?_set_self (by omega),Nat.sub_self]; rfl
  · rw[List.getElem?_set_ne (by omega)]
    by_cases h1:o+1≤j∧j<o+1+us.length
    · rw[if_pos h1,if_pos (by omega),show j - o=(j - (o+1))+1 by omega,List.getElem?_cons_succ]
    · rw[if_neg h1,if_neg (by omega)]
theorem tu{q:dY}{n:Nat}(h:∀p∈q,p.1.length=n)(i:Nat)(hi:i<q.length)(us:List Value)(hu:us.length=n)(F:List Nat):mM (cellsOf q) (i * n) us=cellsOf (q.set i (us,F)):=by
 have hq:∀p∈q.set i (us,F),p.1.length=n:=fun p hp=>by
  rcases List.mem_or_eq_of_mem_set hp with h1 | h1
  · exact h p h1
  · subst h1; exact hu
 have wu:=fU h;have jA:=fU hq;rw[List.length_set] at jA;have iw:i * n+n≤q.length * n:=by
  have:=Nat.mul_le_mul_right n (show i+1≤q.length from hi)
  rw[Nat.add_mul] at this; omega
 refine List.ext_getElem? fun j=>?_
 by_cases hj:j<q.length * n
 · have wM:0<n:=by
    rcases Nat.eq_zero_or_pos n with e | e
    · subst e; omega
    · exact e
   have hd:=Nat.div_add_mod j n;have hm:=Nat.mod_lt j wM;have Tu:j / n<q.length:=by
    rcases Nat.lt_or_ge (j / n) q.length with h1 | h1
    · exact h1
    · have:=Nat.mul_le_mul_left n h1;rw[Nat.mul_comm n q.length] at this; omega
   have e:j=j / n * n+j % n:=by rw[Nat.mul_comm]; omega
   rw[vP us _ _ _ (by omega)]
   conv=>rhs; rw[e,ig hq (j / n) (by simpa using Tu) (j % n) hm]
   by_cases DB:j / n=i
   · have e3:j=i * n+j % n:=by rw[←DB]; exact e
     rw[if_pos (by omega),show j - i * n=j % n by omega]
     subst DB;rw[List.getElem_set_self]
   · have bh:¬(i * n≤j∧j<i * n+us.length):=by
      rintro⟨h1,h2⟩;rw[hu] at h2;apply DB;rcases Nat.lt_trichotomy (j / n) i with h3 | h3 | h3
      · have:=Nat.mul_le_mul_right n (show j / n+1≤i from h3)
        rw[Nat.add_mul] at this; omega
      · exact h3
      · have:=Nat.mul_le_mul_right n (show i+1≤j / n from h3)
        rw[Nat.add_mul] at this; omega
     rw[if_neg bh,List.getElem_set_ne (fun e=>DB e.symm)]
     conv=>lhs; rw[e,ig h (j / n) Tu (j % n) hm]
 · rw[List.getElem?_eq_none (by rw[xn]; omega),List.getElem?_eq_none (by omega)]
section
variable{α:Type}{ty:TypeId}{R:Rd α}{w w':World}{l:List α}{q:dY}{g n cap:Nat}
theorem Ed{base size:Nat}(us:List Value):∀ {w:World} {xs:List Value} (o:Nat),w.ownsRow base ty size (.slice (some ⟨g,0,none⟩) n cap) n xs→(bx w g o us).ownsRow base ty size (.slice (some ⟨g,0,none⟩) n cap) n (mM xs o us)∧w.grownBy (bx w g o us) (some g):=by
 induction us with
 | nil=>intro w xs o h; exact⟨h,World.grownBy.refl _ _⟩
 | cons u us ih=>
  intro w xs o h;have s:=h.stored o u;have t:=ih (o+1) s.1;exact⟨t.1,az s.2 t.2⟩
theorem bz.Qb{v:Value}(h:bz ty R w v l q)(i:Nat)(hi:i<l.length)(us:List Value)(x:α)(F:List Nat)(hr:w'.ownsRow 0 ty R.size v l.length (cellsOf (q.set i (us,F))))(hx:R.own w' us x F)
 (hk:∀j (hj:j<l.length),j≠i→∀b∈(q[j]'(by have:=h.len; omega)).2,w'.heap[b]? =w.heap[b]?) (hF:∀b∈F,b∈(q[i]'(by have:=h.len; omega)).2∨b∉v.ownBlock.toList++aw q):bz ty R w' v (l.set i x) (q.set i (us,F)):=by
 have hl:=h.len;have eo:=h.nodup;refine⟨by simp[hl],by simpa using hr,fun j hj=>?_,?_⟩
 · have e7:j<l.length:=by simpa using hj
   by_cases e:i=j
   · subst e;simp only[List.getElem_set_self];exact hx
   · simp only[List.getElem_set_ne e];exact R.kV (h.each j e7) (hk j e7 fun e2=>e e2.symm)
 · have hxn:=R.bU hx;have C2:i<q.length:=by omega
   have e1:aw q=aw (q.take i)++(q[i].2++aw (q.drop (i+1))):=by
    conv=>lhs; rw[←List.take_append_drop i q,List.drop_eq_getElem_cons C2]
    rw[a6]; rfl
   have e2:aw (q.set i (us,F))=aw (q.take i)++(F++aw (q.drop (i+1))):=by
    rw[List.set_eq_take_append_cons_drop,if_pos C2,a6]; rfl
   have LB:∀b∈F,b∉v.ownBlock.toList∧b∉aw (q.take i)∧b∉aw (q.drop (i+1)):=fun b hb=>by
    rw[e1] at eo;rcases hF b hb with h1 | h1
    · obtain⟨n1,n2,n3⟩:=a7 eo;obtain⟨m1,m2,m3⟩:=a7 n2;obtain⟨k1,k2,k3⟩:=a7 m2;exact⟨fun e=>n3 b e (List.mem_append.2 (.inr (List.mem_append.2 (.inl h1)))),fun e=>m3 b e (List.mem_append.2 (.inl h1)),k3 b h1⟩
    · rw[e1] at h1;simp only[List.mem_append,not_or] at h1;exact⟨h1.1,h1.2.1,h1.2.2.2⟩
   rw[e1] at eo;obtain⟨n1,n2,n3⟩:=a7 eo;obtain⟨m1,m2,m3⟩:=a7 n2;obtain⟨k1,k2,k3⟩:=a7 m2;rw[e2];refine bZ n1 (bZ m1 (bZ hxn k2 fun b hb=>(LB b hb).2.2) fun b hb be=>?_) fun b hb be=>?_
   · rcases List.mem_append.1 be with h1 | h1
     · exact(LB b h1).2.1 hb
     · exact m3 b hb (List.mem_append.2 (.inr h1))
   · rcases List.mem_append.1 be with h1 | h1
     · exact n3 b hb (List.mem_append.2 (.inl h1))
     · rcases List.mem_append.1 h1 with h1 | h1
       · exact(LB b h1).1 hb
       · exact n3 b hb (List.mem_append.2 (.inr (List.mem_append.2 (.inr h1))))
theorem bz.put(h:bz ty R w (.slice (some ⟨g,0,none⟩) n cap) l q)(i:Nat)(hi:i<l.length)(us:List Value)(x:α)(F:List Nat)(hx:R.own w us x F)(hF:∀b∈F,b∉g::aw q):
 bz ty R (bx w g (i * R.size) us) (.slice (some ⟨g,0,none⟩) n cap) (l.set i x) (q.set i (us,F))∧w.grownBy (bx w g (i * R.size) us) (some g):=by
 have hn:n=l.length:=by
  rcases h.shape with⟨e,_⟩ | ⟨g',c',e,_⟩
  · cases e
  · cases e; rfl
 subst hn;have hl:=h.len;have hr:=Ed us (i * R.size) h.row;rw[tu h.parts i (by omega) us (R.CJ hx) F] at hr
 have xc:∀b∈aw q,b≠g:=fun b hb e=>by
  have:=(a7 h.nodup).2.2 g (by simp[Value.ownBlock])
  exact this (e ▸ hb)
 refine⟨h.Qb i hi us x F hr.1 (R.kV hx fun k hk=>hr.2.block k (R.dK hx k hk) fun e=>hF k hk (by simp[Option.some.inj e])) (fun j hj bh b hb=>?_) (fun b hb=>.inr (by simpa[Value.ownBlock] using hF b hb)),hr.2⟩
 have dj:b∈aw q:=List.mem_flatMap.2 ⟨_,List.getElem_mem _,hb⟩;exact hr.2.block b (R.dK (h.each j hj) b hb) fun e=>xc b dj (Option.some.inj e)
theorem bz.inner(h:bz ty R w (.slice (some ⟨g,0,none⟩) n cap) l q)(i:Nat)(hi:i<l.length)(x:α){G:List Nat}(hf:Frame G w w')(hG:∀k∈G,k∈(q[i]'(by have:=h.len; omega)).2)(hx:R.own w' (q[i]'(by have:=h.len; omega)).1 x (q[i]'(by have:=h.len; omega)).2):
 bz ty R w' (.slice (some ⟨g,0,none⟩) n cap) (l.set i x) q:=by
 have hn:n=l.length:=by
  rcases h.shape with⟨e,_⟩ | ⟨g',c',e,_⟩
  · cases e
  · cases e; rfl
 subst hn;have hl:=h.len;have C2:i<q.length:=by omega
 have dj:∀k (hk:k<q.length),∀b∈q[k].2,b∈aw q:=fun k hk b hb=>List.mem_flatMap.2 ⟨_,List.getElem_mem _,hb⟩
 have VJ:g∉G:=fun e=>by
  have:=(a7 h.nodup).2.2 g (by simp[Value.ownBlock])
  exact this (dj i C2 g (hG g e))
 have ny:=(h.row.lt g rfl).2;have Tv:q.set i (q[i].1,q[i].2)=q:=List.set_getElem_self C2;have hr:w'.ownsRow 0 ty R.size (.slice (some ⟨g,0,none⟩) l.length cap) l.length (cellsOf q):=by
  rcases h.row with⟨h1,⟨h2,_⟩ | ⟨g',aY,cur,h2,h3,h4,h5⟩⟩
  · cases h2
  · cases h2;exact⟨h1,.inr ⟨g,cap,cur,rfl,h3,(hf.block g ny VJ).trans h4,h5⟩⟩
 have FG:∀j (hj:j<l.length),j≠i→∀b∈(q[j]'(by omega)).2,b∉(q[i]'C2).2:=fun j hj bh b hb be=>by
  have eo:=(a7 h.nodup).2.1;rcases Nat.lt_or_ge j i with bn | rS
  · have e1:aw q=aw (q.take i)++aw (q.drop i):=by rw[←a6,List.take_append_drop]
    rw[e1] at eo;refine(a7 eo).2.2 b (List.mem_flatMap.2 ⟨q[j],?_,hb⟩) (List.mem_flatMap.2 ⟨q[i],?_,be⟩)
    · rw[List.mem_take_iff_getElem]; exact⟨j,by omega,rfl⟩
    · rw[List.mem_drop_iff_getElem]; exact⟨0,by omega,by simp⟩
  · have bn:i<j:=by omega
    have e1:aw q=aw (q.take j)++aw (q.drop j):=by rw[←a6,List.take_append_drop]
    rw[e1] at eo;refine(a7 eo).2.2 b (List.mem_flatMap.2 ⟨q[i],?_,be⟩) (List.mem_flatMap.2 ⟨q[j],?_,hb⟩)
    · rw[List.mem_take_iff_getElem]; exact⟨i,by omega,rfl⟩
    · rw[List.mem_drop_iff_getElem]; exact⟨0,by omega,by simp⟩
 have:=h.Qb (w':=w') i hi q[i].1 x q[i].2 (by rw[Tv]; exact hr) hx (fun j hj bh b hb=>hf.block b (R.dK (h.each j hj) b hb) fun e=>FG j hj bh b hb (hG b e)) (fun b hb=>.inl hb)
 oU [Tv] at this
end
section
variable{α:Type}{z:α}{l:List α}
end
end lay
namespace lay
open Go Go.RowKit base
theorem aD.all{X:Nat}{T:TypeId}(us:List Value):∀ {vs done:List Value} {w:World},vs.length=us.length→aD X T done vs [] w→aD X T done us [] (bx w X done.length us)∧w.grownBy (bx w X done.length us) (some X):=by
 induction us with
 | nil=>
  intro vs done w hl h;have:vs=[]:=List.eq_nil_of_length_eq_zero hl;subst this;exact⟨h,World.grownBy.refl _ _⟩
 | cons u us ih=>
  intro vs done w hl h
  match vs,hl with
  | v::vs,hl=>
   have s:=h.set 0 (by simp) u
   rw[Nat.add_zero] at s;have h2:aD X T (done++[u]) vs [] (w.setCell ⟨X,done.length,none⟩ u):=by
    have:=s.1;unfold aD at this ⊢;simpa using this
   have t:=ih (by simpa using hl) h2
   rw[List.length_append,List.length_singleton] at t;refine⟨?_,az s.2 t.2⟩;have:=t.1;unfold aD at this ⊢;simpa[bx] using this
theorem aD.whole{X:Nat}{T:TypeId}{vs:List Value}{w:World}(h:aD X T [] vs [] w)(us:List Value)(hl:vs.length=us.length):aD X T [] us [] (bx w X 0 us)∧w.grownBy (bx w X 0 us) (some X):=aD.all us hl h
theorem bz.frozen{α:Type}{ty:TypeId}{R:Rd α}{w:World}{g n cap:Nat}{l:List α}{q:dY}(h:bz ty R w (.slice (some ⟨g,0,none⟩) n cap) l q)(j:Nat):w.frozen? ⟨g,j,none⟩=false:=by
 have hn:n=l.length:=by
  rcases h.shape with⟨e,_⟩ | ⟨g',c',e,_⟩
  · cases e
  · cases e; rfl
 subst hn;exact h.row.frozenAt j
theorem bz.nF{α:Type}{ty:TypeId}{R:Rd α}{w:World}{g n cap:Nat}{l:List α}{q:dY}(h:bz ty R w (.slice (some ⟨g,0,none⟩) n cap) l q):n=l.length:=by
 rcases h.shape with⟨e,_⟩ | ⟨g',c',e,_⟩
 · cases e
 · cases e; rfl
theorem bz.Rq{α:Type}{ty:TypeId}{R:Rd α}{w:World}{g n cap:Nat}{l:List α}{q:dY}(h:bz ty R w (.slice (some ⟨g,0,none⟩) n cap) l q):∀b∈g::aw q,b<w.heap.size:=fun b hb=>h.at_ b (by simpa[Value.ownBlock] using hb)
theorem bz.below{α:Type}{ty:TypeId}{R:Rd α}{w w':World}{v:Value}{l:List α}{q:dY}(h:bz ty R w v l q)(hb:Below w.heap.size w w'):bz ty R w' v l q:=h.keep fun b be=>hb.block b (h.at_ b be)
end lay
namespace cos
open Go Go.RowKit base aE aX lay lh
section
variable{w w':World}{vs:List Value}{c:Co}{F:List Nat}{e:Ending}
structure sE (c:Co):Prop where
 n:(Lit.int .i64 c.1).wf=true
 av:(Lit.int .i64 c.2.1).wf=true
 next:(Lit.int .i64 c.2.2.1).wf=true
 sure:(Lit.int .i64 c.2.2.2.2.2).wf=true
theorem bC:bp.own w vs c F↔∃x y F1 F2,vs=[.int .i64 c.1,.int .i64 c.2.1,.int .i64 c.2.2.1,x,y,.int .i64 c.2.2.2.2.2]∧sE c∧lk.own w [x] c.2.2.2.1 F1∧qA.own w [y] c.2.2.2.2.1 F2∧F=F1++F2∧F.Nodup:=by
 constructor
 · rintro⟨us,ts,G1,G2,rfl,rfl,h1,⟨Ww,Wx,G3,G4,rfl,rfl,h2,⟨us3,ts3,G5,G6,rfl,rfl,h3,⟨us4,ts4,G7,G8,rfl,rfl,h4,⟨us5,ts5,G9,G10,rfl,rfl,h5,h6,n5⟩,n4⟩,n3⟩,n2⟩,n1⟩;obtain⟨rfl,k1,rfl⟩:=aV.own.1 h1;obtain⟨rfl,k2,rfl⟩:=aV.own.1 h2;obtain⟨rfl,k3,rfl⟩:=aV.own.1 h3;obtain⟨rfl,k6,rfl⟩:=aV.own.1 h6;obtain⟨v4,q4,rfl,_⟩:=id h4;obtain⟨v5,q5,rfl,_⟩:=id h5;exact⟨v4,v5,G7,G9,rfl,⟨k1,k2,k3,k6⟩,h4,h5,by simp,n1⟩
 · rintro⟨x,y,F1,F2,rfl,⟨k1,k2,k3,k6⟩,h4,h5,rfl,hn⟩;exact⟨[_],[_,_,x,y,_],[],F1++F2,rfl,rfl,aV.own.2 ⟨rfl,k1,rfl⟩,⟨[_],[_,x,y,_],[],F1++F2,rfl,rfl,aV.own.2 ⟨rfl,k2,rfl⟩,⟨[_],[x,y,_],[],F1++F2,rfl,rfl,aV.own.2 ⟨rfl,k3,rfl⟩,⟨[x],[y,_],F1,F2,rfl,rfl,h4,⟨[y],[_],F2,[],rfl,(List.append_nil _).symm,h5,aV.own.2 ⟨rfl,k6,rfl⟩,(a7 hn).2.1⟩,hn⟩,hn⟩,hn⟩,hn⟩
theorem ll.wf{ja la:Option Addr}{jn jc ln lc:Nat}(h:ll w ja jn jc la ln lc c):sE c:=⟨h.n,h.av,h.next,h.sure⟩
theorem iN{v:Value}{l:List Ch}:qA.own w [v] l F↔(∃q,bz 87 rG w v l q)∧F=v.ownBlock.toList:=by
 constructor
 · rintro⟨v',q,e,rfl,h⟩;cases e;exact⟨⟨q,h⟩,by rw[(dW.parts h).2.2.1,List.append_nil]⟩
 · rintro⟨⟨q,h⟩,rfl⟩;exact⟨v,q,rfl,by rw[(dW.parts h).2.2.1,List.append_nil],h⟩
theorem Ku{x:Value}{gl dk ln:Nat}{q ql:dY}{B:Nat}(hw:sE c)(hJ:bz 75 ek w x c.2.2.2.1 q)(hL:bz 87 rG w (.slice (some ⟨gl,0,none⟩) ln dk) c.2.2.2.2.1 ql)(bh:gl∉x.ownBlock.toList++aw q):
 bp.own w [.int .i64 c.1,.int .i64 c.2.1,.int .i64 c.2.2.1,x,.slice (some ⟨gl,0,none⟩) ln dk,.int .i64 c.2.2.2.2.2] c (x.ownBlock.toList++aw q++[gl]):=by
 refine bC.2 ⟨x,_,x.ownBlock.toList++aw q,[gl],rfl,hw,⟨x,q,rfl,rfl,hJ⟩,iN.2 ⟨⟨ql,hL⟩,rfl⟩,rfl,bZ hJ.nodup (by simp) fun k hk iu=>?_⟩
 rw[List.mem_singleton] at iu;subst iu;exact bh hk
theorem Kv{jn ln:Nat}(hw:sE c)(h:kI w jn ln c e w'):Ah bp w c e w':=by
 obtain⟨gj,eV,gl,dk,q,ql,rfl,hJ,hL,kU,bh,hb⟩:=h;refine⟨_,_,rfl,Ku (B:=0) hw hJ hL (by simpa[Value.ownBlock] using bh),fun k hk=>kU k ?_,hb⟩
 rcases List.mem_append.1 hk with h1 | h1
 · exact List.mem_cons_of_mem _ (by simpa[Value.ownBlock] using h1)
 · rw[List.mem_singleton] at h1; subst h1; exact List.mem_cons_self
structure py (c:Co):Prop where
 fits:rW c
 yes:∀j∈c.2.2.2.1,j.2.2.2.length≤1099511627776
 jobs:c.2.2.2.1.length≤1048576
 log:c.2.2.2.2.1.length≤1048576
 sum:pN c.2.2.2.1≤1048576
theorem MU{l:List Od}{p:Od}(h:p∈l):p.2.1.size≤sr l:=by
 obtain⟨i,hi,rfl⟩:=List.getElem_of_mem h;have h1:=Gh l i hi;have h2:=Mp l (i+1);unfold U0 at h1;omega
theorem Ii{c:Co}(h:Fa c≤1048576):py c:=by
 unfold Fa at h;refine⟨⟨by omega,by omega,fun j hj=>?_⟩,fun j hj=>?_,by omega,by omega,by omega⟩
 · have h1:=BP hj;unfold Kt at h1;refine⟨by omega,fun p hp=>?_⟩
   have h2:=MU hp;omega
 · have h1:=BP hj;unfold Kt at h1;omega
end
end cos
namespace lay
open Go Go.RowKit
def XS{α:Type}(R:Rd α)(w:World)(x:α)(e:Ending)(w':World):Prop:=∃v F,e=.returned v∧R.own w' [v] x F∧(∀k∈F,w.heap.size≤k)∧Below w.heap.size w w'
end lay
namespace cos
open Go Go.RowKit base aE aX lay lh
theorem Qc{w:World}{x y:Value}{tx st:Int}{ops:List Od}{yes:List Int}{F1 F2:List Nat}(k1:(Lit.int .i64 tx).wf=true)(k3:(Lit.int .i64 st).wf=true)(hx:kB.own w [x] ops F1)(hy:pU.own w [y] yes F2)(hn:(F1++F2).Nodup):ek.own w [.int .i64 tx,x,.int .i64 st,y] (tx,ops,st,yes) (F1++F2):=by
 obtain⟨h1,rfl⟩:=iG.1 hx;obtain⟨h2,rfl⟩:=mz.1 hy;exact dX.2 ⟨x,y,rfl,k1,k3,h1,h2,rfl,hn⟩
theorem fg{w:World}{vs:List Value}{x:Jb}{F:List Nat}(h:ek.own w vs x F):∃ra rn rc sa sn sc,vs=[.int .i64 x.1,.slice ra rn rc,.int .i64 x.2.2.1,.slice sa sn sc]:=by
 obtain⟨oa,ol,oc,ya,yl,yc,e,_⟩:=uo.1 (ek.eK h);exact⟨_,_,_,_,_,_,e⟩
end cos
namespace cos
open Go Go.RowKit base lay
section
variable{α:Type}{R:Rd α}{enc:α→List Value}{ok:α→Prop}{w:World}{l:List α}
theorem Flat.cells(hR:Flat R enc ok){b off n:Nat}(h:nE R w (some ⟨b,off,none⟩) n l):∀j u,(l.flatMap enc)[j]? =some u→w.cell? ((⟨b,off,none⟩:Addr).add j)=some u:=by
 intro j u hj;have hp:∀p∈l.map (fun x=>(enc x,([]:List Nat))),p.1.length=R.size:=fun p hp=>by
  obtain⟨x,hx,rfl⟩:=List.mem_map.1 hp;obtain⟨vs,hv⟩:=h.2.2.1 x hx;have:=R.lv hv;oU [(hR.fo.1 hv).1] at this
 have e1:cellsOf (l.map (fun x=>(enc x,([]:List Nat))))=l.flatMap enc:=by unfold cellsOf; rw[List.flatMap_map]
 have e7:=(List.getElem?_eq_some_iff.1 hj).1;rw[←e1,fU hp,List.length_map] at e7;have wM:0<R.size:=by
  rcases Nat.eq_zero_or_pos R.size with e | e
  · rw[e] at e7; omega
  · exact e
 have hm:=Nat.mod_lt j wM;have Tu:j / R.size<l.length:=Nat.div_lt_of_lt_mul (by rw[Nat.mul_comm]; exact e7)
 have e:j=j / R.size * R.size+j % R.size:=by rw[Nat.mul_comm]; have:=Nat.div_add_mod j R.size; omega
 rw[←e1] at hj;obtain⟨d,m,hd,jU,Tw⟩:∃d m,d<l.length∧m<R.size∧j=d * R.size+m:=⟨_,_,Tu,hm,e⟩;clear e hm Tu e7;subst Tw;rw[ig hp d (by simpa using hd) m jU] at hj
 simp only[List.getElem_map] at hj;obtain⟨b',wJ,e2,hc⟩:=h.2.2.2 (by have:=h.1; omega)
 simp only[Option.some.injEq,Addr.mk.injEq,and_true] at e2;obtain⟨rfl,rfl⟩:=e2;obtain⟨vs,hs,cZ⟩:=hc d hd;rw[(hR.fo.1 hs).1] at cZ;have:=cZ _ _ hj;rw[Addr.add_lit,←Nat.add_assoc];exact this
theorem Flat.len(hR:Flat R enc ok){a:Option Addr}{n:Nat}(h:nE R w a n l):(l.flatMap enc).length=n * R.size:=by
 have hp:∀p∈l.map (fun x=>(enc x,([]:List Nat))),p.1.length=R.size:=fun p hp=>by
  obtain⟨x,hx,rfl⟩:=List.mem_map.1 hp;obtain⟨vs,hv⟩:=h.2.2.1 x hx;have:=R.lv hv;oU [(hR.fo.1 hv).1] at this
 have e1:cellsOf (l.map (fun x=>(enc x,([]:List Nat))))=l.flatMap enc:=by unfold cellsOf; rw[List.flatMap_map]
 rw[←e1,fU hp,List.length_map,h.1]
theorem Flat.oks(hR:Flat R enc ok){a:Option Addr}{n:Nat}(h:nE R w a n l):∀x∈l,ok x:=fun x hx=>by
 obtain⟨vs,hv⟩:=h.2.2.1 x hx;exact(hR.fo.1 hv).2
theorem Flat.zI{P:Program}(hR:Flat R enc ok)(h1:∀x,∀u∈enc x,u.oneCell'=true)(jg:0<R.size){t e:TypeId}{z:Value}{bytes:Nat}(ht:P.underlying t=some (.slice e))(Kw:(P.info? e).map (fun i=>(i.zero,i.size,i.bytes))=some (some z,R.size,bytes))(Ns:z.cells.size=R.size)
 (ko:∀(w:World) (g c:Nat) (ty:TypeId),(Builtin.append_ #[t,t] ty #[.slice (some ⟨g,0,none⟩) 0 0,.slice none 0 c]).run P w=.ok (.slice (some ⟨g,0,none⟩) 0 0) w)
 (g:Nat) (a:Option Addr) (n c:Nat) (hg:w.ownsRow 0 e R.size (.slice (some ⟨g,0,none⟩) 0 0) 0 []) (h:nE R w a n l) (hb:n * bytes≤140737488355328) (ty:TypeId):
 ∃g' aY w',(Builtin.append_ #[t,t] ty #[.slice (some ⟨g,0,none⟩) 0 0,.slice a n c]).run P w=.ok (.slice (some ⟨g',0,none⟩) n aY) w'∧bz e R w' (.slice (some ⟨g',0,none⟩) n aY) l (l.map fun x=>(enc x,[]))∧w.grownBy w' (some g)∧(g'=g∨w.heap.size≤g'):=by
 have XT:=hR.oks h;have hlen:=hR.len h;have hl:=h.1;obtain⟨i,hi,dE,dD,cO⟩:=info_parts Kw;cases a with
 | none=>
  have wM:n=0:=by
   rcases Nat.eq_zero_or_pos n with e | e
   · exact e
   · obtain⟨b,off,e2,_⟩:=h.2.2.2 e; cases e2
  subst wM;have:l=[]:=List.eq_nil_of_length_eq_zero hl;subst this;exact⟨g,0,w,ko w g c ty,hR.made hg (fun x hx=>absurd hx List.not_mem_nil),World.grownBy.refl _ _,.inl rfl⟩
 | some ad=>
  obtain⟨v',w',hr,h2,h3,h4,h5⟩:=run_append_own_at (P:=P) w 0 t ty e i z R.size bytes ht hi dE dD cO Ns jg (.slice (some ⟨g,0,none⟩) 0 0) 0 [] hg ad n c (l.flatMap enc) hlen (fun j u hj=>by
   rcases Nat.eq_zero_or_pos n with e0 | e0
   · have:l=[]:=List.eq_nil_of_length_eq_zero (by omega)
     subst this;simp at hj
   · obtain⟨b,off,e2,_⟩:=h.2.2.2 e0;cases e2;exact hR.cells h j u hj) (fun u hu=>by
   obtain⟨x,_,hx⟩:=List.mem_flatMap.1 hu;exact h1 x u hx) (by have:=h.2.1; omega) (by rw[Nat.zero_add]; exact hb) (Nat.zero_le _)
  rw[Nat.zero_add,List.nil_append] at h2;rcases h2.2 with⟨e2,_⟩ | ⟨g',aY,cur,e2,_⟩
  · exact absurd (h4.1 e2).1 (by simp)
  · subst e2;refine⟨g',aY,w',hr,hR.made (by rw[hl]; exact h2) XT,h3,?_⟩
    rcases h5 with h5 | h5
    · left; simpa[Value.ownBlock] using h5
    · right;have:g'=w.heap.size:=by simpa[Value.ownBlock] using h5
      omega
end
theorem bz.zJ{α:Type}{R:Rd α}{P:Program}{V:World}{t ty:TypeId}{z:Value}{bytes:Nat}(ht:P.underlying t=some (.slice ty))(Kw:(P.info? ty).map (fun i=>(i.zero,i.size,i.bytes))=some (some z,R.size,bytes))(Ns:z.cells.size=R.size)(jg:0<R.size)
 {v:Value} {l:List α} {q:dY} {us:List Value} {x:α} {F:List Nat} (h:bz ty R V v l q) (hx:R.own V us x F) (hd:∀k∈F,k∉v.ownBlock.toList++aw q) {X:Nat} {T:TypeId} (hX:aD X T [] us [] V) (hm:l.length+1≤maxLen) (hb:(l.length+1) * bytes≤140737488355328) (tyo:TypeId):
 ∃g cap w',(Builtin.append_ #[t,t] tyo #[v,.slice (some ⟨X,0,none⟩) 1 1]).run P V=.ok (.slice (some ⟨g,0,none⟩) (l.length+1) cap) w'∧bz ty R w' (.slice (some ⟨g,0,none⟩) (l.length+1) cap) (l++[x]) (q++[(us,F)])∧V.grownBy w' v.ownBlock∧(v.ownBlock=some g∨g=V.heap.size):=by
 obtain⟨i,hi,dE,dD,cO⟩:=info_parts Kw;obtain⟨g,cap,w',h1,h2,h3,h4,h5⟩:=run_append_lies (P:=P) V t tyo 0 ty i z R.size bytes ht hi dE dD cO Ns jg v l.length (cellsOf q) h.row ⟨X,0,none⟩ 1 1 us (by rw[R.CJ hx,Nat.one_mul]) (fun j u hj=>by
  have:=hX.cell j u hj;rw[Addr.add_lit,Nat.zero_add];simpa using this) (R.nR hx) (by omega) hm hb (Nat.zero_le _) V.heap.size rfl
 exact⟨g,cap,w',h1,bz.snoc h hx hd h2 h3 h4 rfl,h3,h4⟩
theorem p7{P:Program}{w w':World}{o:Oper}{a:Act}{K:Act→World→Prop}{Q:Exit→Act→World→Prop}(s x:Operand)(t:TypeId)(ho:o.op=.call {callee:=.builtin .append,args:=#[s,x],argTypes:=#[t,t]}){v1 v2 v':Value}(hs:a.eval s=v1)(hx:a.eval x=v2)
 (hr:(Builtin.append_ #[t,t] o.type #[v1,v2]).run P w=.ok v' w') (h:K (a.put o.dst v') w'):o.wp P a w K Q:=by
 unfold Oper.wp execOp;simp only[ho,resolve,invoke,builtin,Sem.run_bind,Sem.run_pure,Result.andThen_ok,List.map_toArray,List.map_cons,List.map_nil,hs,hx,hr];exact h
theorem dc{P:Program}{ops:Array Oper}{o:Oper}{a:Act}{w w':World}{K:Act→World→Prop}{Q:Exit→Act→World→Prop}{E:Prop}(qV:o.guard=none)(s x:Operand)(t:TypeId)
 (ho:o.op=.call {callee:=.builtin .append,args:=#[s,x],argTypes:=#[t,t]}) {v1 v2 v':Value} (hs:a.eval s=v1) (hx:a.eval x=v2) (hr:(Builtin.append_ #[t,t] o.type #[v1,v2]).run P w=.ok v' w') (h:K (a.put o.dst v') w'):
 if Region.wanted o (yielded ops a.tmps)=true then Oper.wp P o a w K Q else E:=by
 have hw:Region.wanted o (yielded ops a.tmps)=true:=by simp[Region.wanted,qV]
 rw[if_pos hw];exact p7 s x t ho hs hx hr h
theorem fO{P:Program}{ops:Array Oper}{rest:List Oper}{o:Oper}{a:Act}{w w':World}{Q:Exit→Act→World→Prop}(qV:o.guard=none)(s x:Operand)(t:TypeId)
 (ho:o.op=.call {callee:=.builtin .append,args:=#[s,x],argTypes:=#[t,t]}) {v1 v2 v':Value} (hs:a.eval s=v1) (hx:a.eval x=v2) (hr:(Builtin.append_ #[t,t] o.type #[v1,v2]).run P w=.ok v' w') (h:wpList P ops Q rest (a.put o.dst v') w'):wpList P ops Q (o::rest) a w:=
 wpList_plain qV fun _ hK=>p7 s x t ho hs hx hr (hK _ _ h)
end cos
namespace cos
open Go Go.RowKit base aE aX lay lh
theorem Qd:(Tryz.prog.info? 121).map (fun i=>(i.zero,i.size,i.bytes))=some (some (.agg #[.int .i64 0,.string ⟨#[]⟩,.string ⟨#[]⟩]),3,40):=by aa
theorem MV(w:World)(g c:Nat)(ty:TypeId):(Builtin.append_ #[73,73] ty #[.slice (some ⟨g,0,none⟩) 0 0,.slice none 0 c]).run Tryz.prog w=.ok (.slice (some ⟨g,0,none⟩) 0 0) w:=by aa
theorem Kx(w:World)(g c:Nat)(ty:TypeId):(Builtin.append_ #[54,54] ty #[.slice (some ⟨g,0,none⟩) 0 0,.slice none 0 c]).run Tryz.prog w=.ok (.slice (some ⟨g,0,none⟩) 0 0) w:=by aa
theorem MW(w:World)(g c:Nat)(ty:TypeId):(Builtin.append_ #[26,26] ty #[.slice (some ⟨g,0,none⟩) 0 0,.slice none 0 c]).run Tryz.prog w=.ok (.slice (some ⟨g,0,none⟩) 0 0) w:=by aa
theorem Ky:(Tryz.prog.info? 87).map (fun i=>(i.zero,i.size,i.bytes))=some (some (.agg #[.int .i64 0,.bool false]),2,16):=by aa
section
variable{w:World}(g:Nat)(a:Option Addr)(n c:Nat)(ty:TypeId)
theorem Kz{l:List Od}(hg:w.ownsRow 0 121 3 (.slice (some ⟨g,0,none⟩) 0 0) 0 [])(h:dS w a n l)(hc:n≤c)(hb:n≤1099511627776):
 ∃g' aY w',(Builtin.append_ #[73,73] ty #[.slice (some ⟨g,0,none⟩) 0 0,.slice a n c]).run Tryz.prog w=.ok (.slice (some ⟨g',0,none⟩) n aY) w'∧kB.own w' [.slice (some ⟨g',0,none⟩) n aY] l [g']∧w.grownBy w' (some g)∧(g'=g∨w.heap.size≤g'):=by
 obtain⟨a',n',c',e,_,h'⟩:=k8.2 ⟨h,hc⟩;simp only[List.cons.injEq,Value.slice.injEq,and_true] at e;obtain⟨rfl,rfl,rfl⟩:=e;obtain⟨g',aY,w',h1,h2,h3,h4⟩:=gF.zI (P:=Tryz.prog) (fun x u hu=>by simp at hu; rcases hu with rfl | rfl | rfl <;> rfl) (by decide) Tryz.underlying73 Qd rfl MV g a n c hg h' (by omega) ty
 exact⟨g',aY,w',h1,⟨_,_,rfl,by rw[(gF.parts h2).2.2.1]; rfl,h2⟩,h3,h4⟩
theorem yh{l:List Int}(hg:w.ownsRow 0 3 1 (.slice (some ⟨g,0,none⟩) 0 0) 0 [])(h:tS w a n l)(hw:∀z∈l,(Lit.int .i64 z).wf=true)(hc:n≤c)(hb:n≤1099511627776):
 ∃g' aY w',(Builtin.append_ #[54,54] ty #[.slice (some ⟨g,0,none⟩) 0 0,.slice a n c]).run Tryz.prog w=.ok (.slice (some ⟨g',0,none⟩) n aY) w'∧pU.own w' [.slice (some ⟨g',0,none⟩) n aY] l [g']∧w.grownBy w' (some g)∧(g'=g∨w.heap.size≤g'):=by
 obtain⟨a',n',c',e,_,h'⟩:=rE.2 ⟨⟨h,hw⟩,hc⟩;simp only[List.cons.injEq,Value.slice.injEq,and_true] at e;obtain⟨rfl,rfl,rfl⟩:=e;obtain⟨g',aY,w',h1,h2,h3,h4⟩:=aV.zI (P:=Tryz.prog) (fun x u hu=>by simp at hu; subst hu; rfl) (by decide) Tryz.underlying54 pT rfl Kx g a n c hg h' (by omega) ty
 exact⟨g',aY,w',h1,⟨_,_,rfl,by rw[(aV.parts h2).2.2.1]; rfl,h2⟩,h3,h4⟩
theorem KA{l:List Ch}(hg:w.ownsRow 0 87 2 (.slice (some ⟨g,0,none⟩) 0 0) 0 [])(h:nE rG w a n l)(hb:n≤1099511627776):
 ∃g' aY w',(Builtin.append_ #[26,26] ty #[.slice (some ⟨g,0,none⟩) 0 0,.slice a n c]).run Tryz.prog w=.ok (.slice (some ⟨g',0,none⟩) n aY) w'∧qA.own w' [.slice (some ⟨g',0,none⟩) n aY] l [g']∧w.grownBy w' (some g)∧(g'=g∨w.heap.size≤g'):=by
 obtain⟨g',aY,w',h1,h2,h3,h4⟩:=dW.zI (P:=Tryz.prog) (fun x u hu=>by simp at hu; rcases hu with rfl | rfl <;> rfl) (by decide) Tryz.underlying26 Ky rfl MW g a n c hg h (by omega) ty
 exact⟨g',aY,w',h1,⟨_,_,rfl,by rw[(dW.parts h2).2.2.1]; rfl,h2⟩,h3,h4⟩
end
end cos
namespace cos
open Go Go.RowKit base aE aX lay lh
theorem pz(w:World)(ty:TypeId)(size:Nat):(w.alloc (.cells #[] ty)).ownsRow 0 ty size (.slice (some ⟨w.heap.size,0,none⟩) 0 0) 0 []:=World.ownsRow_made w #[] 0 (Nat.zero_le _) (Nat.zero_le _) (by simp)
theorem yi{w w':World}{ty:TypeId}{size g:Nat}(h:w.ownsRow 0 ty size (.slice (some ⟨g,0,none⟩) 0 0) 0 [])(hb:Below w.heap.size w w'):w'.ownsRow 0 ty size (.slice (some ⟨g,0,none⟩) 0 0) 0 []:=
 h.kept (row:=none) ⟨hb.os,hb.tape,hb.output,hb.size,fun k hk _=>hb.block k hk⟩ (.inr (by simp[Value.ownBlock]))
theorem yj{w w':World}{ty:TypeId}{size g k:Nat}(h:w.ownsRow 0 ty size (.slice (some ⟨g,0,none⟩) 0 0) 0 [])(hg:w.grownBy w' (some k))(bh:g≠k):w'.ownsRow 0 ty size (.slice (some ⟨g,0,none⟩) 0 0) 0 []:=
 h.kept hg (.inr (by simp[Value.ownBlock,bh]))
set_option maxRecDepth 100000 in
set_option maxHeartbeats 4000000 in
theorem KB(b off:Nat)(tx st:Int)(oa:Option Addr)(ol oc:Nat)(ya:Option Addr)(yl yc:Nat)(ops:List Od)(yes:List Int)(w:World)(c0:w.cell? ⟨b,off,none⟩=some (.int .i64 tx))(c1:w.cell? ⟨b,off+1,none⟩=some (.slice oa ol oc))(c2:w.cell? ⟨b,off+2,none⟩=some (.int .i64 st))(c3:w.cell? ⟨b,off+3,none⟩=some (.slice ya yl yc))
 (k1:(Lit.int .i64 tx).wf=true) (k3:(Lit.int .i64 st).wf=true) (hO:dS w oa ol ops) (Hy:ol≤oc) (hY:tS w ya yl yes) (zE:yl≤yc) (hyw:∀z∈yes,(Lit.int .i64 z).wf=true) (ud:ol≤1099511627776) (pQ:yl≤1099511627776):
 Calls Tryz.prog 93 #[.pointer (some ⟨b,off,none⟩)] w (Ah ek w (tx,ops,st,yes)):=by
 obtain⟨W,hW⟩:∃W,w.alloc (.cells #[.int .i64 0,.slice none 0 0,.int .i64 0,.slice none 0 0] 75)=W:=⟨_,rfl⟩;have hB:Below w.heap.size w W:=by rw[←hW]; exact aT
 have hR:aD w.heap.size 75 [] [.int .i64 0,.slice none 0 0,.int .i64 0,.slice none 0 0] [] W:=by rw[←hW]; exact aO w _ _
 have mg:=hR.lt;have HW:=Hid.mk' hW;clear hW;have nu:=World.block_lt_of_cell? _ _ c0;have pG:b<W.heap.size:=Nat.lt_of_lt_of_le nu hB.size;replace c0:=(hB.cell (p:=⟨b,off,none⟩) nu).trans c0;replace c1:=(hB.cell (p:=⟨b,off+1,none⟩) nu).trans c1;replace c2:=(hB.cell (p:=⟨b,off+2,none⟩) nu).trans c2;replace c3:=(hB.cell (p:=⟨b,off+3,none⟩) nu).trans c3;have Fs:=Hid.mk' (fun g wx (hx:Below W.heap.size W wx) (hg:wx.ownsRow 0 121 3 (.slice (some ⟨g,0,none⟩) 0 0) 0 [])=>Kz g oa ol oc 73 hg ((hO.below hB).below hx) Hy ud)
 have HCY:=Hid.mk' (fun g wx (hx:Below W.heap.size W wx) (hg:wx.ownsRow 0 3 1 (.slice (some ⟨g,0,none⟩) 0 0) 0 [])=>yh g ya yl yc 54 hg ((hY.below hB).below hx) hyw zE pQ)
 have eX:Below W.heap.size W W.drew:=(Below.refl _ _).drew;clear hO hY Hy zE ud pQ nu;aj Tryz.func93,Tryz.ntmps93;ab fail;rw[HW.out];refine last.aB (S:=fun w'=>Below W.heap.size W w') 21 (by aa) eX (fun al=>?_)
 generalize hD:W.drew=D at *;clear hD;refine last.ae (i:=0) (v:=(.pointer (some ⟨b,off,none⟩))) rfl rfl (by aa) (by aa) (by aa) (by aa) (fun _ _ _ h=>h) (Or.inl ⟨by rfl,?_⟩) (by assumption) ?_
 · intro wq aC; af
 try simp only[Act.put,List.setIfInBounds_toArray,List.set_cons_zero,List.set_cons_succ];refine last.ae (i:=1) (v:=(.pointer (some ⟨b,off,none⟩))) rfl rfl (by aa) (by aa) (by aa) (by aa) (fun _ _ _ h=>h) (Or.inl ⟨by rfl,?_⟩) (by assumption) ?_
 · intro wq aC; af
 try simp only[Act.put,List.setIfInBounds_toArray,List.set_cons_zero,List.set_cons_succ];refine last.ae (i:=2) (v:=(.pointer (some ⟨b,off,none⟩))) rfl rfl (by aa) (by aa) (by aa) (by aa) (fun _ _ _ h=>h) (Or.inl ⟨by rfl,?_⟩) (by assumption) ?_
 · intro wq aC; af
 try simp only[Act.put,List.setIfInBounds_toArray,List.set_cons_zero,List.set_cons_succ];refine last.ae (i:=3) (v:=(.int .i64 tx)) rfl rfl (by aa) (by aa) (by aa) (by aa) (fun _ _ _ h=>h) (Or.inl ⟨by rfl,?_⟩) (by assumption) ?_
 · intro wq aC; have q:=(aC.cell (p:=⟨b,off,none⟩) pG).trans c0; af
 try simp only[Act.put,List.setIfInBounds_toArray,List.set_cons_zero,List.set_cons_succ];refine last.ae (i:=5) (v:=(.pointer (some ⟨b,off,none⟩))) rfl rfl (by aa) (by aa) (by aa) (by aa) (fun _ _ _ h=>h) (Or.inl ⟨by rfl,?_⟩) (by assumption) ?_
 · intro wq aC; af
 try simp only[Act.put,List.setIfInBounds_toArray,List.set_cons_zero,List.set_cons_succ];refine last.ae (i:=6) (v:=(.pointer (some ⟨b,off,none⟩))) rfl rfl (by aa) (by aa) (by aa) (by aa) (fun _ _ _ h=>h) (Or.inl ⟨by rfl,?_⟩) (by assumption) ?_
 · intro wq aC; af
 try simp only[Act.put,List.setIfInBounds_toArray,List.set_cons_zero,List.set_cons_succ];refine last.ae (i:=7) (v:=(.pointer (some ⟨b,off+1,none⟩))) rfl rfl (by aa) (by aa) (by aa) (by aa) (fun _ _ _ h=>h) (Or.inl ⟨by rfl,?_⟩) (by assumption) ?_
 · intro wq aC; af
 try simp only[Act.put,List.setIfInBounds_toArray,List.set_cons_zero,List.set_cons_succ];refine last.ae (i:=8) (v:=(.slice oa ol oc)) rfl rfl (by aa) (by aa) (by aa) (by aa) (fun _ _ _ h=>h) (Or.inl ⟨by rfl,?_⟩) (by assumption) ?_
 · intro wq aC; have q:=(aC.cell (p:=⟨b,off+1,none⟩) pG).trans c1; af
 try simp only[Act.put,List.setIfInBounds_toArray,List.set_cons_zero,List.set_cons_succ];refine last.ae (i:=10) (v:=(.pointer (some ⟨b,off,none⟩))) rfl rfl (by aa) (by aa) (by aa) (by aa) (fun _ _ _ h=>h) (Or.inl ⟨by rfl,?_⟩) (by assumption) ?_
 · intro wq aC; af
 try simp only[Act.put,List.setIfInBounds_toArray,List.set_cons_zero,List.set_cons_succ];refine last.ae (i:=11) (v:=(.pointer (some ⟨b,off,none⟩))) rfl rfl (by aa) (by aa) (by aa) (by aa) (fun _ _ _ h=>h) (Or.inl ⟨by rfl,?_⟩) (by assumption) ?_
 · intro wq aC; af
 try simp only[Act.put,List.setIfInBounds_toArray,List.set_cons_zero,List.set_cons_succ];refine last.ae (i:=12) (v:=(.pointer (some ⟨b,off+2,none⟩))) rfl rfl (by aa) (by aa) (by aa) (by aa) (fun _ _ _ h=>h) (Or.inl ⟨by rfl,?_⟩) (by assumption) ?_
 · intro wq aC; af
 try simp only[Act.put,List.setIfInBounds_toArray,List.set_cons_zero,List.set_cons_succ];refine last.ae (i:=13) (v:=(.int .i64 st)) rfl rfl (by aa) (by aa) (by aa) (by aa) (fun _ _ _ h=>h) (Or.inl ⟨by rfl,?_⟩) (by assumption) ?_
 · intro wq aC; have q:=(aC.cell (p:=⟨b,off+2,none⟩) pG).trans c2; af
 try simp only[Act.put,List.setIfInBounds_toArray,List.set_cons_zero,List.set_cons_succ];refine last.ae (i:=15) (v:=(.pointer (some ⟨b,off,none⟩))) rfl rfl (by aa) (by aa) (by aa) (by aa) (fun _ _ _ h=>h) (Or.inl ⟨by rfl,?_⟩) (by assumption) ?_
 · intro wq aC; af
 try simp only[Act.put,List.setIfInBounds_toArray,List.set_cons_zero,List.set_cons_succ];refine last.ae (i:=16) (v:=(.pointer (some ⟨b,off,none⟩))) rfl rfl (by aa) (by aa) (by aa) (by aa) (fun _ _ _ h=>h) (Or.inl ⟨by rfl,?_⟩) (by assumption) ?_
 · intro wq aC; af
 try simp only[Act.put,List.setIfInBounds_toArray,List.set_cons_zero,List.set_cons_succ];refine last.ae (i:=17) (v:=(.pointer (some ⟨b,off+3,none⟩))) rfl rfl (by aa) (by aa) (by aa) (by aa) (fun _ _ _ h=>h) (Or.inl ⟨by rfl,?_⟩) (by assumption) ?_
 · intro wq aC; af
 try simp only[Act.put,List.setIfInBounds_toArray,List.set_cons_zero,List.set_cons_succ];refine last.ae (i:=18) (v:=(.slice ya yl yc)) rfl rfl (by aa) (by aa) (by aa) (by aa) (fun _ _ _ h=>h) (Or.inl ⟨by rfl,?_⟩) (by assumption) ?_
 · intro wq aC; have q:=(aC.cell (p:=⟨b,off+3,none⟩) pG).trans c3; af
 try simp only[Act.put,List.setIfInBounds_toArray,List.set_cons_zero,List.set_cons_succ];refine last.eO (i:=4) (j:=14) (o:=qO27) (o':={dst:=some 17,op:=Op.buildSlice 54 0 #[],type:=54,pos:= "l11_coord.go:159",after:=#[],guard:=none}) (by aa) rfl rfl (fun K hK=> ?wayA) (fun K hK=> ?wayB)
 case' wayA=>
  af;have fC:Below W.heap.size W (D.alloc (.cells #[] 121)):=eX.alloc eX.size _;have z_:=pz D 121 3;have Qe:D.heap.size<(D.alloc (.cells #[] 121)).heap.size:=by simp
  have Qf:=eX.size;refine hK.out _ _ ?_ (fun aq=>?_)
  · exact fC
  clear hK K al;have al:=aq;clear aq;try simp only[Act.put,List.setIfInBounds_toArray,List.set_cons_zero,List.set_cons_succ];generalize gu:D.alloc (.cells #[] 121)=wB at *;clear gu;refine last.eO (i:=9) (j:=14) (o:=qO28) (o':={dst:=some 17,op:=Op.buildSlice 54 0 #[],type:=54,pos:= "l11_coord.go:159",after:=#[],guard:=none}) (by aa) rfl rfl (fun K hK=> ?wayA1) (fun K hK=> ?wayA2)
 case' wayA1=>
  obtain⟨g1,iR,wC,tv,Fb,xo,vQ⟩:=Fs.out _ wB fC z_;refine dc rfl (.tmp 7) (.tmp 11) 73 rfl (by aa) (by aa) tv ?_
  have Tx:=(z_.lt _ rfl).2;have lp:Below W.heap.size W wC:=fC.grown xo fC.size (fun k e=>by cases e; omega)
  have Ty:=xo.size;refine hK.out _ _ ?_ (fun aq=>?_)
  · exact lp
  clear hK K al;have al:=aq;clear aq;try simp only[Act.put,List.setIfInBounds_toArray,List.set_cons_zero,List.set_cons_succ];clear tv z_;refine last.ax (i:=14) (o:={dst:=some 17,op:=Op.buildSlice 54 0 #[],type:=54,pos:= "l11_coord.go:159",after:=#[],guard:=none}) (by aa) rfl (fun K hK=>?_)
  af;have tw:Below W.heap.size W (wC.alloc (.cells #[] 3)):=lp.alloc lp.size _;have pd:=pz wC 3 1;have XU:wC.heap.size<(wC.alloc (.cells #[] 3)).heap.size:=by simp
  have XV:=lp.size;have wu:=kB.dK Fb g1 (by simp)
  replace Fb:=kB.gQ Fb (aT (o:=.cells #[] 3));refine hK.out _ _ ?_ (fun aq=>?_)
  · exact tw
  clear hK K al;have al:=aq;clear aq;try simp only[Act.put,List.setIfInBounds_toArray,List.set_cons_zero,List.set_cons_succ];generalize Tz:wC.alloc (.cells #[] 3)=wA at *;clear Tz;have bh:g1≠wC.heap.size:=by omega
  have GU:=tw;have MX:W.heap.size≤g1:=by rcases vQ with e | e <;> omega
  have Qg:W.heap.size≤wC.heap.size:=by omega
 case' wayA2=>
  af;have lp:Below W.heap.size W (wB.alloc (.cells #[] 3)):=fC.alloc fC.size _;have pd:=pz wB 3 1;have Qh:wB.heap.size<(wB.alloc (.cells #[] 3)).heap.size:=by simp
  have Qi:=fC.size;replace z_:=yi z_ (aT (o:=.cells #[] 3));refine hK.out _ _ ?_ (fun aq=>?_)
  · exact lp
  clear hK K al;have al:=aq;clear aq;try simp only[Act.put,List.setIfInBounds_toArray,List.set_cons_zero,List.set_cons_succ];generalize KC:wB.alloc (.cells #[] 3)=wC at *;clear KC;refine last.ax (i:=9) (o:=qO28) (by aa) rfl (fun K hK=>?_)
  obtain⟨g1,iR,wA,tv,Fb,xo,vQ⟩:=Fs.out _ wC lp z_;refine dc rfl (.tmp 7) (.tmp 11) 73 rfl (by aa) (by aa) tv ?_
  have Tx:=(z_.lt _ rfl).2;have tw:Below W.heap.size W wA:=lp.grown xo lp.size (fun k e=>by cases e; omega)
  have Ty:=xo.size;replace pd:=yj pd xo (by omega)
  refine hK.out _ _ ?_ (fun aq=>?_)
  · exact tw
  clear hK K al;have al:=aq;clear aq;try simp only[Act.put,List.setIfInBounds_toArray,List.set_cons_zero,List.set_cons_succ];clear tv z_;have bh:g1≠wB.heap.size:=by rcases vQ with e | e <;> omega
  have GU:=tw;have MX:W.heap.size≤g1:=by rcases vQ with e | e <;> omega
  have Qg:W.heap.size≤wB.heap.size:=by omega
 case' wayB=>
  af;have fC:Below W.heap.size W (D.alloc (.cells #[] 3)):=eX.alloc eX.size _;have pd:=pz D 3 1;have Qe:D.heap.size<(D.alloc (.cells #[] 3)).heap.size:=by simp
  have Qf:=eX.size;refine hK.out _ _ ?_ (fun aq=>?_)
  · exact fC
  clear hK K al;have al:=aq;clear aq;try simp only[Act.put,List.setIfInBounds_toArray,List.set_cons_zero,List.set_cons_succ];generalize gu:D.alloc (.cells #[] 3)=wB at *;clear gu;refine last.ax (i:=4) (o:=qO27) (by aa) rfl (fun K hK=>?_)
  af;have lp:Below W.heap.size W (wB.alloc (.cells #[] 121)):=fC.alloc fC.size _;have z_:=pz wB 121 3;have Qh:wB.heap.size<(wB.alloc (.cells #[] 121)).heap.size:=by simp
  have Qi:=fC.size;replace pd:=yi pd (aT (o:=.cells #[] 121));refine hK.out _ _ ?_ (fun aq=>?_)
  · exact lp
  clear hK K al;have al:=aq;clear aq;try simp only[Act.put,List.setIfInBounds_toArray,List.set_cons_zero,List.set_cons_succ];generalize KC:wB.alloc (.cells #[] 121)=wC at *;clear KC;refine last.ax (i:=9) (o:=qO28) (by aa) rfl (fun K hK=>?_)
  obtain⟨g1,iR,wA,tv,Fb,xo,vQ⟩:=Fs.out _ wC lp z_;refine dc rfl (.tmp 7) (.tmp 11) 73 rfl (by aa) (by aa) tv ?_
  have Tx:=(z_.lt _ rfl).2;have tw:Below W.heap.size W wA:=lp.grown xo lp.size (fun k e=>by cases e; omega)
  have Ty:=xo.size;replace pd:=yj pd xo (by omega)
  refine hK.out _ _ ?_ (fun aq=>?_)
  · exact tw
  clear hK K al;have al:=aq;clear aq;try simp only[Act.put,List.setIfInBounds_toArray,List.set_cons_zero,List.set_cons_succ];clear tv z_;have bh:g1≠D.heap.size:=by rcases vQ with e | e <;> omega
  have GU:=tw;have MX:W.heap.size≤g1:=by rcases vQ with e | e <;> omega
  have Qg:W.heap.size≤D.heap.size:=by omega
 bo
  refine last.ax (i:=19) (o:={dst:=some 22,op:=Op.call {callee:=Callee.builtin Builtin.append,args:=#[Operand.tmp 17,Operand.tmp 21],argTypes:=#[54,54]},type:=54,pos:= "l11_coord.go:159",after:=#[{on:=14,ground:=Ground.data},{on:=18,ground:=Ground.data},{on:=9,ground:=Ground.chain}],guard:=none}) (by aa) rfl (fun K hK=>?_)
  obtain⟨g2,IH,wZ,N1,Cs,Qj,N2⟩:=HCY.out _ wA GU pd;refine dc rfl (.tmp 17) (.tmp 21) 54 rfl (by aa) (by aa) N1 ?_
  have hg2w:=(pd.lt _ rfl).2;have wu:=kB.dK Fb g1 (by simp)
  have MY:Below W.heap.size W wZ:=GU.grown Qj GU.size (fun k e=>by cases e; omega)
  replace Fb:=kB.bH Fb Qj (fun k hk e=>by simp only[List.mem_singleton] at hk; subst hk; simp only[Option.some.injEq] at e; omega)
  have hgb2:W.heap.size≤g2∧g1≠g2:=by
   have hs:=GU.size;rcases N2 with e | e
   · rw[e]; exact⟨Qg,bh⟩
   · exact⟨by omega,by omega⟩
  refine hK.out _ _ ?_ (fun aq=>?_)
  · exact MY
  clear hK K al;have al:=aq;clear aq;try simp only[Act.put,List.setIfInBounds_toArray,List.set_cons_zero,List.set_cons_succ];clear N1 pd Qj N2;refine last.ae (i:=20) (v:=(.agg #[.int .i64 tx,.slice (some ⟨g1,0,none⟩) ol iR,.int .i64 st,.slice (some ⟨g2,0,none⟩) yl IH])) rfl rfl (by aa) (by aa) (by aa) (by aa) (fun _ _ _ h=>h) (Or.inl ⟨by rfl,?_⟩) (by assumption) ?_
  · intro wq aC; af
  try simp only[Act.put,List.setIfInBounds_toArray,List.set_cons_zero,List.set_cons_succ];have Rr:=hR.below MY;obtain⟨z0,z1,z2,z3⟩:=cells4 Rr;have f0:=Rr.fz 0;have f1:=Rr.fz 1;have f2:=Rr.fz 2;have f3:=Rr.fz 3;have hS:=Rr.whole [.int .i64 tx,.slice (some ⟨g1,0,none⟩) ol iR,.int .i64 st,.slice (some ⟨g2,0,none⟩) yl IH] rfl;obtain⟨y0,y1,y2,y3⟩:=cells4 hS.1;simp only[bx,Nat.zero_add,Nat.reduceAdd] at y0 y1 y2 y3;have jP:=(hB.trans (MY.mono hB.size)).grown hS.2 (hB.trans (MY.mono hB.size)).size (fun j e=>by cases e; omega)
  replace Fb:=kB.bH Fb hS.2 (fun k hk e=>by simp only[List.mem_singleton] at hk; subst hk; simp only[Option.some.injEq] at e; omega)
  replace Cs:=pU.bH Cs hS.2 (fun k hk e=>by simp only[List.mem_singleton] at hk; subst hk; simp only[Option.some.injEq] at e; omega)
  have XW:=Hid.mk' (Qc k1 k3 Fb Cs (by simp; omega))
  have OL:=Hid.mk' jP;have XX:Hid (∀k∈[g1]++[g2],w.heap.size≤k):=fun k hk=>by
   have:=hB.size;simp only[List.mem_append,List.mem_singleton] at hk;rcases hk with e | e <;> subst e <;> omega
  clear Fb Cs jP hS;refine last.aL (o:={dst:=none,op:=Op.store 75 (Operand.tmp 2) (Operand.tmp 23),type:=0,pos:= "l11_coord.go:159",after:=#[{on:=20,ground:=Ground.data},{on:=19,ground:=Ground.chain},{on:=0,ground:=Ground.phase},{on:=1,ground:=Ground.phase},{on:=2,ground:=Ground.phase},{on:=3,ground:=Ground.phase},{on:=4,ground:=Ground.phase},{on:=5,ground:=Ground.phase},{on:=6,ground:=Ground.phase},{on:=7,ground:=Ground.phase},{on:=8,ground:=Ground.phase},{on:=9,ground:=Ground.phase},{on:=10,ground:=Ground.phase},{on:=11,ground:=Ground.phase},{on:=12,ground:=Ground.phase},{on:=13,ground:=Ground.phase},{on:=14,ground:=Ground.phase},{on:=15,ground:=Ground.phase},{on:=16,ground:=Ground.phase},{on:=17,ground:=Ground.phase},{on:=18,ground:=Ground.phase},{on:=19,ground:=Ground.phase},{on:=20,ground:=Ground.phase}],guard:=none}) (by aa) rfl (by aa) (fun K hK=>?_)
  af;refine hK.out _ _ ?_;clear hK K;ab fail;refine bodyPost_ret (v:=.agg #[.int .i64 tx,.slice (some ⟨g1,0,none⟩) ol iR,.int .i64 st,.slice (some ⟨g2,0,none⟩) yl IH]) ?_ rfl ⟨_,_,rfl,XW.out,XX.out,OL.out⟩;simp[results,Tryz.results93,go_sem,y0,y1,y2,y3]
end cos
end Go.Proofs.YtmibabclefgljaaGreat
