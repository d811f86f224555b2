/- CoE CoZ Gen GenRow GenAt CoOwn GenV CoH GenAp0 GenApp CoV -/
import Derived.Test.YtmibabclefgljaaGreatShaw
import Derived.Test.YtmibabclefgljaaGreatSham
import Derived.Handy
import Derived.Test.YtmibabclefgljaaGreatShay
import Derived.Test.YtmibabclefgljaaGreatShau
import Derived.Maps.AppendAt
import Derived.Deep.AppendLies
import Derived.Test.YtmibabclefgljaaGreatShav
import Derived.Test.YtmibabclefgljaaGreatShah
set_option linter.unusedVariables false
set_option linter.unusedSimpArgs false
namespace Go.Proofs.YtmibabclefgljaaGreat
open Go in
abbrev qO27:Oper:={dst:=some 7,op:=Op.buildSlice 73 0 #[],type:=73,pos:= "l11_coord.go:159",after:=#[],guard:=none}
open Go in
abbrev qO28:Oper:={dst:=some 12,op:=Op.call {callee:=Callee.builtin Builtin.append,args:=#[Operand.tmp 7,Operand.tmp 11],argTypes:=#[73,73]},type:=73,pos:= "l11_coord.go:159",after:=#[{on:=4,ground:=Ground.data},{on:=8,ground:=Ground.data}],guard:=none}
namespace cos
open Go Go.RowKit base av aN lay kN
theorem dY(w:World)(o o2:Obj):Below w.heap.size w ((w.alloc o).alloc o2):=((Below.refl _ _).alloc (Nat.le_refl _) _).alloc (by simp) _
end cos
namespace cos
open Go Go.RowKit base av aN lay kN
def Kh(j:Jb):Nat:=j.2.1.length+rS j.2.1+j.2.2.2.length
def pq(l:List Jb):Nat:=(l.map Kh).sum
theorem GC(l:List Jb)(k:Nat)(h:k<l.length):pq (l.take (k+1))=pq (l.take k)+Kh l[k]:=by
 unfold pq;rw[List.take_succ_eq_append_getElem h,List.map_append,List.sum_append]; simp
theorem MH(l:List Jb)(k:Nat):pq (l.take k)≤pq l:=by
 conv=>rhs; rw[←List.take_append_drop k l]
 unfold pq;rw[List.map_append,List.sum_append]; omega
theorem BA{l:List Jb}{j:Jb}(h:j∈l):Kh j≤pq l:=by
 obtain⟨i,hi,rfl⟩:=List.getElem_of_mem h;have h1:=GC l i hi;have h2:=MH l (i+1);omega
def EW(c:Co):Nat:=c.2.2.2.1.length+pq c.2.2.2.1+c.2.2.2.2.1.length
end cos
namespace lay
open Go Go.RowKit base
theorem aJ{w:World}{o:Obj}:Below w.heap.size w (w.alloc o):=(Below.refl _ _).alloc (Nat.le_refl _) _
structure NO {α:Type} (R:Rd α) (T:TypeId) (w:World) (X:Nat) (vs:List Value) (x:α) (F:List Nat):Prop where
 box:au X T [] vs [] w
 own:R.own w vs x F
 out:X∉F
def zV{α:Type}(R:Rd α)(w:World)(x:α)(e:Ending)(w':World):Prop:=∃vs F,e=.returned (.agg vs.toArray)∧R.own w' vs x F∧(∀k∈F,w.heap.size≤k)∧Below w.heap.size w w'
section
variable{α:Type}{R:Rd α}{T:TypeId}{w w':World}{X:Nat}{vs:List Value}{x:α}{F G:List Nat}
theorem tH(h:R.own w vs x F):NO R T (w.alloc (.cells vs.toArray T)) w.heap.size vs x F:=
 ⟨aE w _ _,R.gB h aJ,fun e=>by have:=R.dv h _ e; omega⟩
theorem NO.below(h:NO R T w X vs x F)(hb:Below w.heap.size w w'):NO R T w' X vs x F:=⟨h.box.below hb,R.gB h.own hb,h.out⟩
theorem NO.eZ(h:NO R T w X vs x F):R.eZ w vs x:=R.eu h.own
theorem NO.lt(h:NO R T w X vs x F):X<w.heap.size:=h.box.lt
end
theorem cells4{X:Nat}{T:TypeId}{w:World}{v0 v1 v2 v3:Value}(h:au X T [] [v0,v1,v2,v3] [] w):w.cell? ⟨X,0,none⟩=some v0∧w.cell? ⟨X,1,none⟩=some v1∧w.cell? ⟨X,2,none⟩=some v2∧w.cell? ⟨X,3,none⟩=some v3:=by
 have a0:=h.cell 0 _ rfl;have a1:=h.cell 1 _ rfl;have a2:=h.cell 2 _ rfl;have a3:=h.cell 3 _ rfl;simp only[List.length_nil,Nat.zero_add] at a0 a1 a2 a3;exact⟨a0,a1,a2,a3⟩
theorem cells6{X:Nat}{T:TypeId}{w:World}{v0 v1 v2 v3 v4 v5:Value}(h:au X T [] [v0,v1,v2,v3,v4,v5] [] w):w.cell? ⟨X,0,none⟩=some v0∧w.cell? ⟨X,1,none⟩=some v1∧w.cell? ⟨X,2,none⟩=some v2∧w.cell? ⟨X,3,none⟩=some v3∧w.cell? ⟨X,4,none⟩=some v4∧w.cell? ⟨X,5,none⟩=some v5:=by
 have a0:=h.cell 0 _ rfl;have a1:=h.cell 1 _ rfl;have a2:=h.cell 2 _ rfl;have a3:=h.cell 3 _ rfl;have a4:=h.cell 4 _ rfl;have a5:=h.cell 5 _ rfl;simp only[List.length_nil,Nat.zero_add] at a0 a1 a2 a3 a4 a5;exact⟨a0,a1,a2,a3,a4,a5⟩
end lay
namespace lay
open Go Go.RowKit base
def bh(w:World)(g:Nat):Nat→List Value→World
 | _,[]=>w
 | o,u::us=>bh (w.setCell ⟨g,o,none⟩ u) g (o+1) us
def mq(xs:List Value):Nat→List Value→List Value
 | _,[]=>xs
 | o,u::us=>mq (xs.set o u) (o+1) us
theorem wT(us:List Value):∀(xs:List Value) (o:Nat),(mq xs o us).length=xs.length:=by
 induction us with
 | nil=>intro xs o; rfl
 | cons u us ih=>intro xs o; rw[mq,ih,List.length_set]
theorem vu(us:List Value):∀(xs:List Value) (o j:Nat) (h:o+us.length≤xs.length),(mq xs o us)[j]? =if o≤j∧j<o+us.length then us[j - o]? else xs[j]? :=by
 induction us with
 | nil=>intro xs o j h; rw[mq,if_neg (by simp)]
 | cons u us ih=>
  intro xs o j h;simp only[List.length_cons] at h ⊢;rw[mq,ih _ _ _ (by rw[List.length_set]; omega)]
  by_cases e:j=o
  · subst e;rw[if_neg (by omega),if_pos (by omega),List.getElem?_set_self (by omega),Nat.sub_self]; rfl
  · rw[List.getElem?_set_ne (by omega)]
    by_cases h1:o+1≤j∧j<o+1+us.length
    · rw[if_pos h1,if_pos (by omega),show j - o=(j - (o+1))+1 by omega,List.getElem?_cons_succ]
    · rw[if_neg h1,if_neg (by omega)]
theorem s7{q:dJ}{n:Nat}(h:∀p∈q,p.1.length=n)(i:Nat)(hi:i<q.length)(us:List Value)(hu:us.length=n)(F:List Nat):mq (cellsOf q) (i * n) us=cellsOf (q.set i (us,F)):=by
 have hq:∀p∈q.set i (us,F),p.1.length=n:=fun p hp=>by
  rcases List.mem_or_eq_of_mem_set hp with h1 | h1
  · exact h p h1
  · subst h1; exact hu
 have vP:=fG h;have jh:=fG hq;rw[List.length_set] at jh;have gZ:i * n+n≤q.length * n:=by
  have:=Nat.mul_le_mul_right n (show i+1≤q.length from hi)
  rw[Nat.add_mul] at this; omega
 refine List.ext_getElem? fun j=>?_
 by_cases hj:j<q.length * n
 · have v_:0<n:=by
    rcases Nat.eq_zero_or_pos n with e | e
    · subst e; omega
    · exact e
   have hd:=Nat.div_add_mod j n;have hm:=Nat.mod_lt j v_;have Tk:j / n<q.length:=by
    rcases Nat.lt_or_ge (j / n) q.length with h1 | h1
    · exact h1
    · have:=Nat.mul_le_mul_left n h1;rw[Nat.mul_comm n q.length] at this; omega
   have e:j=j / n * n+j % n:=by rw[Nat.mul_comm]; omega
   rw[vu us _ _ _ (by omega)]
   conv=>rhs; rw[e,gQ hq (j / n) (by simpa using Tk) (j % n) hm]
   by_cases Dl:j / n=i
   · have e3:j=i * n+j % n:=by rw[←Dl]; exact e
     rw[if_pos (by omega),show j - i * n=j % n by omega]
     subst Dl;rw[List.getElem_set_self]
   · have aW:¬(i * n≤j∧j<i * n+us.length):=by
      rintro⟨h1,h2⟩;rw[hu] at h2;apply Dl;rcases Nat.lt_trichotomy (j / n) i with h3 | h3 | h3
      · have:=Nat.mul_le_mul_right n (show j / n+1≤i from h3)
        rw[Nat.add_mul] at this; omega
      · exact h3
      · have:=Nat.mul_le_mul_right n (show i+1≤j / n from h3)
        rw[Nat.add_mul] at this; omega
     rw[if_neg aW,List.getElem_set_ne (fun e=>Dl e.symm)]
     conv=>lhs; rw[e,gQ h (j / n) Tk (j % n) hm]
 · rw[List.getElem?_eq_none (by rw[wT]; omega),List.getElem?_eq_none (by omega)]
section
variable{α:Type}{ty:TypeId}{R:Rd α}{w w':World}{l:List α}{q:dJ}{g n cap:Nat}
theorem DV{base size:Nat}(us:List Value):∀ {w:World} {xs:List Value} (o:Nat),w.ownsRow base ty size (.slice (some ⟨g,0,none⟩) n cap) n xs→(bh w g o us).ownsRow base ty size (.slice (some ⟨g,0,none⟩) n cap) n (mq xs o us)∧w.grownBy (bh w g o us) (some g):=by
 induction us with
 | nil=>intro w xs o h; exact⟨h,World.grownBy.refl _ _⟩
 | cons u us ih=>
  intro w xs o h;have s:=h.stored o u;have t:=ih (o+1) s.1;exact⟨t.1,ao s.2 t.2⟩
theorem bk.P3{v:Value}(h:bk ty R w v l q)(i:Nat)(hi:i<l.length)(us:List Value)(x:α)(F:List Nat)(hr:w'.ownsRow 0 ty R.size v l.length (cellsOf (q.set i (us,F))))(hx:R.own w' us x F)
 (hk:∀j (hj:j<l.length),j≠i→∀b∈(q[j]'(by have:=h.len; omega)).2,w'.heap[b]? =w.heap[b]?) (hF:∀b∈F,b∈(q[i]'(by have:=h.len; omega)).2∨b∉v.ownBlock.toList++al q):bk ty R w' v (l.set i x) (q.set i (us,F)):=by
 have hl:=h.len;have dW:=h.nodup;refine⟨by simp[hl],by simpa using hr,fun j hj=>?_,?_⟩
 · have eL:j<l.length:=by simpa using hj
   by_cases e:i=j
   · subst e;simp only[List.getElem_set_self];exact hx
   · simp only[List.getElem_set_ne e];exact R.kD (h.each j eL) (hk j eL fun e2=>e e2.symm)
 · have hxn:=R.bG hx;have CN:i<q.length:=by omega
   have e1:al q=al (q.take i)++(q[i].2++al (q.drop (i+1))):=by
    conv=>lhs; rw[←List.take_append_drop i q,List.drop_eq_getElem_cons CN]
    rw[aQ]; rfl
   have e2:al (q.set i (us,F))=al (q.take i)++(F++al (q.drop (i+1))):=by
    rw[List.set_eq_take_append_cons_drop,if_pos CN,aQ]; rfl
   have Lq:∀b∈F,b∉v.ownBlock.toList∧b∉al (q.take i)∧b∉al (q.drop (i+1)):=fun b hb=>by
    rw[e1] at dW;rcases hF b hb with h1 | h1
    · obtain⟨n1,n2,n3⟩:=aR dW;obtain⟨m1,m2,m3⟩:=aR n2;obtain⟨k1,k2,k3⟩:=aR m2;exact⟨fun e=>n3 b e (List.mem_append.2 (.inr (List.mem_append.2 (.inl h1)))),fun e=>m3 b e (List.mem_append.2 (.inl h1)),k3 b h1⟩
    · rw[e1] at h1;simp only[List.mem_append,not_or] at h1;exact⟨h1.1,h1.2.1,h1.2.2.2⟩
   rw[e1] at dW;obtain⟨n1,n2,n3⟩:=aR dW;obtain⟨m1,m2,m3⟩:=aR n2;obtain⟨k1,k2,k3⟩:=aR m2;rw[e2];refine bL n1 (bL m1 (bL hxn k2 fun b hb=>(Lq b hb).2.2) fun b hb aU=>?_) fun b hb aU=>?_
   · rcases List.mem_append.1 aU with h1 | h1
     · exact(Lq b h1).2.1 hb
     · exact m3 b hb (List.mem_append.2 (.inr h1))
   · rcases List.mem_append.1 aU with h1 | h1
     · exact n3 b hb (List.mem_append.2 (.inl h1))
     · rcases List.mem_append.1 h1 with h1 | h1
       · exact(Lq b h1).1 hb
       · exact n3 b hb (List.mem_append.2 (.inr (List.mem_append.2 (.inr h1))))
theorem bk.put(h:bk ty R w (.slice (some ⟨g,0,none⟩) n cap) l q)(i:Nat)(hi:i<l.length)(us:List Value)(x:α)(F:List Nat)(hx:R.own w us x F)(hF:∀b∈F,b∉g::al q):
 bk ty R (bh w g (i * R.size) us) (.slice (some ⟨g,0,none⟩) n cap) (l.set i x) (q.set i (us,F))∧w.grownBy (bh w g (i * R.size) us) (some g):=by
 have hn:n=l.length:=by
  rcases h.shape with⟨e,_⟩ | ⟨g',c',e,_⟩
  · cases e
  · cases e; rfl
 subst hn;have hl:=h.len;have hr:=DV us (i * R.size) h.row;rw[s7 h.parts i (by omega) us (R.Cu hx) F] at hr
 have wK:∀b∈al q,b≠g:=fun b hb e=>by
  have:=(aR h.nodup).2.2 g (by simp[Value.ownBlock])
  exact this (e ▸ hb)
 refine⟨h.P3 i hi us x F hr.1 (R.kD hx fun k hk=>hr.2.block k (R.dv hx k hk) fun e=>hF k hk (by simp[Option.some.inj e])) (fun j hj aW b hb=>?_) (fun b hb=>.inr (by simpa[Value.ownBlock] using hF b hb)),hr.2⟩
 have cV:b∈al q:=List.mem_flatMap.2 ⟨_,List.getElem_mem _,hb⟩;exact hr.2.block b (R.dv (h.each j hj) b hb) fun e=>wK b cV (Option.some.inj e)
theorem bk.inner(h:bk ty R w (.slice (some ⟨g,0,none⟩) n cap) l q)(i:Nat)(hi:i<l.length)(x:α){G:List Nat}(hf:Frame G w w')(hG:∀k∈G,k∈(q[i]'(by have:=h.len; omega)).2)(hx:R.own w' (q[i]'(by have:=h.len; omega)).1 x (q[i]'(by have:=h.len; omega)).2):
 bk ty R w' (.slice (some ⟨g,0,none⟩) n cap) (l.set i x) q:=by
 have hn:n=l.length:=by
  rcases h.shape with⟨e,_⟩ | ⟨g',c',e,_⟩
  · cases e
  · cases e; rfl
 subst hn;have hl:=h.len;have CN:i<q.length:=by omega
 have cV:∀k (hk:k<q.length),∀b∈q[k].2,b∈al q:=fun k hk b hb=>List.mem_flatMap.2 ⟨_,List.getElem_mem _,hb⟩
 have Vx:g∉G:=fun e=>by
  have:=(aR h.nodup).2.2 g (by simp[Value.ownBlock])
  exact this (cV i CN g (hG g e))
 have m5:=(h.row.lt g rfl).2;have Tl:q.set i (q[i].1,q[i].2)=q:=List.set_getElem_self CN;have hr:w'.ownsRow 0 ty R.size (.slice (some ⟨g,0,none⟩) l.length cap) l.length (cellsOf q):=by
  rcases h.row with⟨h1,⟨h2,_⟩ | ⟨g',aO,cur,h2,h3,h4,h5⟩⟩
  · cases h2
  · cases h2;exact⟨h1,.inr ⟨g,cap,cur,rfl,h3,(hf.block g m5 Vx).trans h4,h5⟩⟩
 have Fl:∀j (hj:j<l.length),j≠i→∀b∈(q[j]'(by omega)).2,b∉(q[i]'CN).2:=fun j hj aW b hb aU=>by
  have dW:=(aR h.nodup).2.1;rcases Nat.lt_or_ge j i with a6 | ry
  · have e1:al q=al (q.take i)++al (q.drop i):=by rw[←aQ,List.take_append_drop]
    rw[e1] at dW;refine(aR dW).2.2 b (List.mem_flatMap.2 ⟨q[j],?_,hb⟩) (List.mem_flatMap.2 ⟨q[i],?_,aU⟩)
    · rw[List.mem_take_iff_getElem]; exact⟨j,by omega,rfl⟩
    · rw[List.mem_drop_iff_getElem]; exact⟨0,by omega,by simp⟩
  · have a6:i<j:=by omega
    have e1:al q=al (q.take j)++al (q.drop j):=by rw[←aQ,List.take_append_drop]
    rw[e1] at dW;refine(aR dW).2.2 b (List.mem_flatMap.2 ⟨q[i],?_,aU⟩) (List.mem_flatMap.2 ⟨q[j],?_,hb⟩)
    · rw[List.mem_take_iff_getElem]; exact⟨i,by omega,rfl⟩
    · rw[List.mem_drop_iff_getElem]; exact⟨0,by omega,by simp⟩
 have:=h.P3 (w':=w') i hi q[i].1 x q[i].2 (by rw[Tl]; exact hr) hx (fun j hj aW b hb=>hf.block b (R.dv (h.each j hj) b hb) fun e=>Fl j hj aW b hb (hG b e)) (fun b hb=>.inl hb)
 rwa[Tl] at this
end
section
variable{α:Type}{z:α}{l:List α}
end
end lay
namespace lay
open Go Go.RowKit base
theorem au.all{X:Nat}{T:TypeId}(us:List Value):∀ {vs done:List Value} {w:World},vs.length=us.length→au X T done vs [] w→au X T done us [] (bh w X done.length us)∧w.grownBy (bh w X done.length us) (some X):=by
 induction us with
 | nil=>
  intro vs done w hl h;have:vs=[]:=List.eq_nil_of_length_eq_zero hl;subst this;exact⟨h,World.grownBy.refl _ _⟩
 | cons u us ih=>
  intro vs done w hl h
  match vs,hl with
  | v::vs,hl=>
   have s:=h.set 0 (by simp) u
   rw[Nat.add_zero] at s;have h2:au X T (done++[u]) vs [] (w.setCell ⟨X,done.length,none⟩ u):=by
    have:=s.1;unfold au at this ⊢;simpa using this
   have t:=ih (by simpa using hl) h2
   rw[List.length_append,List.length_singleton] at t;refine⟨?_,ao s.2 t.2⟩;have:=t.1;unfold au at this ⊢;simpa[bh] using this
theorem au.whole{X:Nat}{T:TypeId}{vs:List Value}{w:World}(h:au X T [] vs [] w)(us:List Value)(hl:vs.length=us.length):au X T [] us [] (bh w X 0 us)∧w.grownBy (bh w X 0 us) (some X):=au.all us hl h
theorem bk.frozen{α:Type}{ty:TypeId}{R:Rd α}{w:World}{g n cap:Nat}{l:List α}{q:dJ}(h:bk ty R w (.slice (some ⟨g,0,none⟩) n cap) l q)(j:Nat):w.frozen? ⟨g,j,none⟩=false:=by
 have hn:n=l.length:=by
  rcases h.shape with⟨e,_⟩ | ⟨g',c',e,_⟩
  · cases e
  · cases e; rfl
 subst hn;exact h.row.frozenAt j
theorem bk.nf{α:Type}{ty:TypeId}{R:Rd α}{w:World}{g n cap:Nat}{l:List α}{q:dJ}(h:bk ty R w (.slice (some ⟨g,0,none⟩) n cap) l q):n=l.length:=by
 rcases h.shape with⟨e,_⟩ | ⟨g',c',e,_⟩
 · cases e
 · cases e; rfl
theorem bk.Rg{α:Type}{ty:TypeId}{R:Rd α}{w:World}{g n cap:Nat}{l:List α}{q:dJ}(h:bk ty R w (.slice (some ⟨g,0,none⟩) n cap) l q):∀b∈g::al q,b<w.heap.size:=fun b hb=>h.at_ b (by simpa[Value.ownBlock] using hb)
theorem bk.below{α:Type}{ty:TypeId}{R:Rd α}{w w':World}{v:Value}{l:List α}{q:dJ}(h:bk ty R w v l q)(hb:Below w.heap.size w w'):bk ty R w' v l q:=h.keep fun b aU=>hb.block b (h.at_ b aU)
end lay
namespace cos
open Go Go.RowKit base av aN lay kN
section
variable{w w':World}{vs:List Value}{c:Co}{F:List Nat}{e:Ending}
structure r9 (c:Co):Prop where
 n:(Lit.int .i64 c.1).wf=true
 ak:(Lit.int .i64 c.2.1).wf=true
 next:(Lit.int .i64 c.2.2.1).wf=true
 sure:(Lit.int .i64 c.2.2.2.2.2).wf=true
theorem bn:a7.own w vs c F↔∃x y F1 F2,vs=[.int .i64 c.1,.int .i64 c.2.1,.int .i64 c.2.2.1,x,y,.int .i64 c.2.2.2.2.2]∧r9 c∧kP.own w [x] c.2.2.2.1 F1∧qd.own w [y] c.2.2.2.2.1 F2∧F=F1++F2∧F.Nodup:=by
 constructor
 · rintro⟨us,ts,G1,G2,rfl,rfl,h1,⟨Wj,Wk,G3,G4,rfl,rfl,h2,⟨ZY,ZZ,G5,G6,rfl,rfl,h3,⟨us4,ts4,G7,G8,rfl,rfl,h4,⟨us5,ts5,G9,G10,rfl,rfl,h5,h6,n5⟩,n4⟩,n3⟩,n2⟩,n1⟩;obtain⟨rfl,k1,rfl⟩:=aL.own.1 h1;obtain⟨rfl,k2,rfl⟩:=aL.own.1 h2;obtain⟨rfl,k3,rfl⟩:=aL.own.1 h3;obtain⟨rfl,k6,rfl⟩:=aL.own.1 h6;obtain⟨v4,q4,rfl,_⟩:=id h4;obtain⟨v5,q5,rfl,_⟩:=id h5;exact⟨v4,v5,G7,G9,rfl,⟨k1,k2,k3,k6⟩,h4,h5,by simp,n1⟩
 · rintro⟨x,y,F1,F2,rfl,⟨k1,k2,k3,k6⟩,h4,h5,rfl,hn⟩;exact⟨[_],[_,_,x,y,_],[],F1++F2,rfl,rfl,aL.own.2 ⟨rfl,k1,rfl⟩,⟨[_],[_,x,y,_],[],F1++F2,rfl,rfl,aL.own.2 ⟨rfl,k2,rfl⟩,⟨[_],[x,y,_],[],F1++F2,rfl,rfl,aL.own.2 ⟨rfl,k3,rfl⟩,⟨[x],[y,_],F1,F2,rfl,rfl,h4,⟨[y],[_],F2,[],rfl,(List.append_nil _).symm,h5,aL.own.2 ⟨rfl,k6,rfl⟩,(aR hn).2.1⟩,hn⟩,hn⟩,hn⟩,hn⟩
theorem kQ.wf{ja la:Option Addr}{jn jc ln lc:Nat}(h:kQ w ja jn jc la ln lc c):r9 c:=⟨h.n,h.ak,h.next,h.sure⟩
theorem iw{v:Value}{l:List Ch}:qd.own w [v] l F↔(∃q,bk 87 q_ w v l q)∧F=v.ownBlock.toList:=by
 constructor
 · rintro⟨v',q,e,rfl,h⟩;cases e;exact⟨⟨q,h⟩,by rw[(dH.parts h).2.2.1,List.append_nil]⟩
 · rintro⟨⟨q,h⟩,rfl⟩;exact⟨v,q,rfl,by rw[(dH.parts h).2.2.1,List.append_nil],h⟩
theorem Ki{x:Value}{gl cW ln:Nat}{q ql:dJ}{B:Nat}(hw:r9 c)(hJ:bk 75 dU w x c.2.2.2.1 q)(hL:bk 87 q_ w (.slice (some ⟨gl,0,none⟩) ln cW) c.2.2.2.2.1 ql)(aW:gl∉x.ownBlock.toList++al q):
 a7.own w [.int .i64 c.1,.int .i64 c.2.1,.int .i64 c.2.2.1,x,.slice (some ⟨gl,0,none⟩) ln cW,.int .i64 c.2.2.2.2.2] c (x.ownBlock.toList++al q++[gl]):=by
 refine bn.2 ⟨x,_,x.ownBlock.toList++al q,[gl],rfl,hw,⟨x,q,rfl,rfl,hJ⟩,iw.2 ⟨⟨ql,hL⟩,rfl⟩,rfl,bL hJ.nodup (by simp) fun k hk gY=>?_⟩
 rw[List.mem_singleton] at gY;subst gY;exact aW hk
theorem Kj{jn ln:Nat}(hw:r9 c)(h:km w jn ln c e w'):zV a7 w c e w':=by
 obtain⟨gj,eH,gl,cW,q,ql,rfl,hJ,hL,kC,aW,hb⟩:=h;refine⟨_,_,rfl,Ki (B:=0) hw hJ hL (by simpa[Value.ownBlock] using aW),fun k hk=>kC k ?_,hb⟩
 rcases List.mem_append.1 hk with h1 | h1
 · exact List.mem_cons_of_mem _ (by simpa[Value.ownBlock] using h1)
 · rw[List.mem_singleton] at h1; subst h1; exact List.mem_cons_self
structure oW (c:Co):Prop where
 fits:rC c
 yes:∀j∈c.2.2.2.1,j.2.2.2.length≤1099511627776
 jobs:c.2.2.2.1.length≤1048576
 log:c.2.2.2.2.1.length≤1048576
 sum:pq c.2.2.2.1≤1048576
theorem MI{l:List Od}{p:Od}(h:p∈l):p.2.1.size≤rS l:=by
 obtain⟨i,hi,rfl⟩:=List.getElem_of_mem h;have h1:=FW l i hi;have h2:=Md l (i+1);unfold UO at h1;omega
theorem H7{c:Co}(h:EW c≤1048576):oW c:=by
 unfold EW at h;refine⟨⟨by omega,by omega,fun j hj=>?_⟩,fun j hj=>?_,by omega,by omega,by omega⟩
 · have h1:=BA hj;unfold Kh at h1;refine⟨by omega,fun p hp=>?_⟩
   have h2:=MI hp;omega
 · have h1:=BA hj;unfold Kh at h1;omega
end
end cos
namespace lay
open Go Go.RowKit
def XG{α:Type}(R:Rd α)(w:World)(x:α)(e:Ending)(w':World):Prop:=∃v F,e=.returned v∧R.own w' [v] x F∧(∀k∈F,w.heap.size≤k)∧Below w.heap.size w w'
end lay
namespace cos
open Go Go.RowKit base av aN lay kN
theorem P4{w:World}{x y:Value}{tx st:Int}{ops:List Od}{yes:List Int}{F1 F2:List Nat}(k1:(Lit.int .i64 tx).wf=true)(k3:(Lit.int .i64 st).wf=true)(hx:kc.own w [x] ops F1)(hy:pB.own w [y] yes F2)(hn:(F1++F2).Nodup):dU.own w [.int .i64 tx,x,.int .i64 st,y] (tx,ops,st,yes) (F1++F2):=by
 obtain⟨h1,rfl⟩:=ik.1 hx;obtain⟨h2,rfl⟩:=l7.1 hy;exact dI.2 ⟨x,y,rfl,k1,k3,h1,h2,rfl,hn⟩
theorem eS{w:World}{vs:List Value}{x:Jb}{F:List Nat}(h:dU.own w vs x F):∃ra rn rc sa sn sc,vs=[.int .i64 x.1,.slice ra rn rc,.int .i64 x.2.2.1,.slice sa sn sc]:=by
 obtain⟨oa,ol,oc,ya,yl,yc,e,_⟩:=tU.1 (dU.eu h);exact⟨_,_,_,_,_,_,e⟩
end cos
namespace cos
open Go Go.RowKit base lay
section
variable{α:Type}{R:Rd α}{enc:α→List Value}{ok:α→Prop}{w:World}{l:List α}
theorem Flat.cells(hR:Flat R enc ok){b off n:Nat}(h:nc R w (some ⟨b,off,none⟩) n l):∀j u,(l.flatMap enc)[j]? =some u→w.cell? ((⟨b,off,none⟩:Addr).add j)=some u:=by
 intro j u hj;have hp:∀p∈l.map (fun x=>(enc x,([]:List Nat))),p.1.length=R.size:=fun p hp=>by
  obtain⟨x,hx,rfl⟩:=List.mem_map.1 hp;obtain⟨vs,hv⟩:=h.2.2.1 x hx;have:=R.kW hv;rwa[(hR.eZ.1 hv).1] at this
 have e1:cellsOf (l.map (fun x=>(enc x,([]:List Nat))))=l.flatMap enc:=by unfold cellsOf; rw[List.flatMap_map]
 have eL:=(List.getElem?_eq_some_iff.1 hj).1;rw[←e1,fG hp,List.length_map] at eL;have v_:0<R.size:=by
  rcases Nat.eq_zero_or_pos R.size with e | e
  · rw[e] at eL; omega
  · exact e
 have hm:=Nat.mod_lt j v_;have Tk:j / R.size<l.length:=Nat.div_lt_of_lt_mul (by rw[Nat.mul_comm]; exact eL)
 have e:j=j / R.size * R.size+j % R.size:=by rw[Nat.mul_comm]; have:=Nat.div_add_mod j R.size; omega
 rw[←e1] at hj;obtain⟨d,m,hd,jD,Tm⟩:∃d m,d<l.length∧m<R.size∧j=d * R.size+m:=⟨_,_,Tk,hm,e⟩;clear e hm Tk eL;subst Tm;rw[gQ hp d (by simpa using hd) m jD] at hj
 simp only[List.getElem_map] at hj;obtain⟨b',vY,e2,hc⟩:=h.2.2.2 (by have:=h.1; omega)
 simp only[Option.some.injEq,Addr.mk.injEq,and_true] at e2;obtain⟨rfl,rfl⟩:=e2;obtain⟨vs,hs,cK⟩:=hc d hd;rw[(hR.eZ.1 hs).1] at cK;have:=cK _ _ hj;rw[Addr.add_lit,←Nat.add_assoc];exact this
theorem Flat.len(hR:Flat R enc ok){a:Option Addr}{n:Nat}(h:nc R w a n l):(l.flatMap enc).length=n * R.size:=by
 have hp:∀p∈l.map (fun x=>(enc x,([]:List Nat))),p.1.length=R.size:=fun p hp=>by
  obtain⟨x,hx,rfl⟩:=List.mem_map.1 hp;obtain⟨vs,hv⟩:=h.2.2.1 x hx;have:=R.kW hv;rwa[(hR.eZ.1 hv).1] at this
 have e1:cellsOf (l.map (fun x=>(enc x,([]:List Nat))))=l.flatMap enc:=by unfold cellsOf; rw[List.flatMap_map]
 rw[←e1,fG hp,List.length_map,h.1]
theorem Flat.oks(hR:Flat R enc ok){a:Option Addr}{n:Nat}(h:nc R w a n l):∀x∈l,ok x:=fun x hx=>by
 obtain⟨vs,hv⟩:=h.2.2.1 x hx;exact(hR.eZ.1 hv).2
theorem Flat.zo{P:Program}(hR:Flat R enc ok)(h1:∀x,∀u∈enc x,u.oneCell'=true)(iO:0<R.size){t e:TypeId}{z:Value}{bytes:Nat}(ht:P.underlying t=some (.slice e))(Kk:(P.info? e).map (fun i=>(i.zero,i.size,i.bytes))=some (some z,R.size,bytes))(Nf:z.cells.size=R.size)
 (jY:∀(w:World) (g c:Nat) (ty:TypeId),(Builtin.append_ #[t,t] ty #[.slice (some ⟨g,0,none⟩) 0 0,.slice none 0 c]).run P w=.ok (.slice (some ⟨g,0,none⟩) 0 0) w)
 (g:Nat) (a:Option Addr) (n c:Nat) (hg:w.ownsRow 0 e R.size (.slice (some ⟨g,0,none⟩) 0 0) 0 []) (h:nc R w a n l) (hb:n * bytes≤140737488355328) (ty:TypeId):
 ∃g' aO w',(Builtin.append_ #[t,t] ty #[.slice (some ⟨g,0,none⟩) 0 0,.slice a n c]).run P w=.ok (.slice (some ⟨g',0,none⟩) n aO) w'∧bk e R w' (.slice (some ⟨g',0,none⟩) n aO) l (l.map fun x=>(enc x,[]))∧w.grownBy w' (some g)∧(g'=g∨w.heap.size≤g'):=by
 have XH:=hR.oks h;have hlen:=hR.len h;have hl:=h.1;obtain⟨i,hi,dm,dk,cA⟩:=info_parts Kk;cases a with
 | none=>
  have v_:n=0:=by
   rcases Nat.eq_zero_or_pos n with e | e
   · exact e
   · obtain⟨b,off,e2,_⟩:=h.2.2.2 e; cases e2
  subst v_;have:l=[]:=List.eq_nil_of_length_eq_zero hl;subst this;exact⟨g,0,w,jY w g c ty,hR.made hg (fun x hx=>absurd hx List.not_mem_nil),World.grownBy.refl _ _,.inl rfl⟩
 | some ad=>
  obtain⟨v',w',hr,h2,h3,h4,h5⟩:=run_append_own_at (P:=P) w 0 t ty e i z R.size bytes ht hi dm dk cA Nf iO (.slice (some ⟨g,0,none⟩) 0 0) 0 [] hg ad n c (l.flatMap enc) hlen (fun j u hj=>by
   rcases Nat.eq_zero_or_pos n with e0 | e0
   · have:l=[]:=List.eq_nil_of_length_eq_zero (by omega)
     subst this;simp at hj
   · obtain⟨b,off,e2,_⟩:=h.2.2.2 e0;cases e2;exact hR.cells h j u hj) (fun u hu=>by
   obtain⟨x,_,hx⟩:=List.mem_flatMap.1 hu;exact h1 x u hx) (by have:=h.2.1; omega) (by rw[Nat.zero_add]; exact hb) (Nat.zero_le _)
  rw[Nat.zero_add,List.nil_append] at h2;rcases h2.2 with⟨e2,_⟩ | ⟨g',aO,cur,e2,_⟩
  · exact absurd (h4.1 e2).1 (by simp)
  · subst e2;refine⟨g',aO,w',hr,hR.made (by rw[hl]; exact h2) XH,h3,?_⟩
    rcases h5 with h5 | h5
    · left; simpa[Value.ownBlock] using h5
    · right;have:g'=w.heap.size:=by simpa[Value.ownBlock] using h5
      omega
end
theorem bk.zp{α:Type}{R:Rd α}{P:Program}{V:World}{t ty:TypeId}{z:Value}{bytes:Nat}(ht:P.underlying t=some (.slice ty))(Kk:(P.info? ty).map (fun i=>(i.zero,i.size,i.bytes))=some (some z,R.size,bytes))(Nf:z.cells.size=R.size)(iO:0<R.size)
 {v:Value} {l:List α} {q:dJ} {us:List Value} {x:α} {F:List Nat} (h:bk ty R V v l q) (hx:R.own V us x F) (hd:∀k∈F,k∉v.ownBlock.toList++al q) {X:Nat} {T:TypeId} (hX:au X T [] us [] V) (hm:l.length+1≤maxLen) (hb:(l.length+1) * bytes≤140737488355328) (Z6:TypeId):
 ∃g cap w',(Builtin.append_ #[t,t] Z6 #[v,.slice (some ⟨X,0,none⟩) 1 1]).run P V=.ok (.slice (some ⟨g,0,none⟩) (l.length+1) cap) w'∧bk ty R w' (.slice (some ⟨g,0,none⟩) (l.length+1) cap) (l++[x]) (q++[(us,F)])∧V.grownBy w' v.ownBlock∧(v.ownBlock=some g∨g=V.heap.size):=by
 obtain⟨i,hi,dm,dk,cA⟩:=info_parts Kk;obtain⟨g,cap,w',h1,h2,h3,h4,h5⟩:=run_append_lies (P:=P) V t Z6 0 ty i z R.size bytes ht hi dm dk cA Nf iO v l.length (cellsOf q) h.row ⟨X,0,none⟩ 1 1 us (by rw[R.Cu hx,Nat.one_mul]) (fun j u hj=>by
  have:=hX.cell j u hj;rw[Addr.add_lit,Nat.zero_add];simpa using this) (R.nA hx) (by omega) hm hb (Nat.zero_le _) V.heap.size rfl
 exact⟨g,cap,w',h1,bk.snoc h hx hd h2 h3 h4 rfl,h3,h4⟩
theorem pJ{P:Program}{w w':World}{o:Oper}{a:Act}{K:Act→World→Prop}{Q:Exit→Act→World→Prop}(s x:Operand)(t:TypeId)(ho:o.op=.call {callee:=.builtin .append,args:=#[s,x],argTypes:=#[t,t]}){v1 v2 v':Value}(hs:a.eval s=v1)(hx:a.eval x=v2)
 (hr:(Builtin.append_ #[t,t] o.type #[v1,v2]).run P w=.ok v' w') (h:K (a.put o.dst v') w'):o.wp P a w K Q:=by
 unfold Oper.wp execOp;simp only[ho,resolve,invoke,builtin,Sem.run_bind,Sem.run_pure,Result.andThen_ok,List.map_toArray,List.map_cons,List.map_nil,hs,hx,hr];exact h
theorem cO{P:Program}{ops:Array Oper}{o:Oper}{a:Act}{w w':World}{K:Act→World→Prop}{Q:Exit→Act→World→Prop}{E:Prop}(qC:o.guard=none)(s x:Operand)(t:TypeId)
 (ho:o.op=.call {callee:=.builtin .append,args:=#[s,x],argTypes:=#[t,t]}) {v1 v2 v':Value} (hs:a.eval s=v1) (hx:a.eval x=v2) (hr:(Builtin.append_ #[t,t] o.type #[v1,v2]).run P w=.ok v' w') (h:K (a.put o.dst v') w'):
 if Region.wanted o (yielded ops a.tmps)=true then Oper.wp P o a w K Q else E:=by
 have hw:Region.wanted o (yielded ops a.tmps)=true:=by simp[Region.wanted,qC]
 rw[if_pos hw];exact pJ s x t ho hs hx hr h
theorem fA{P:Program}{ops:Array Oper}{rest:List Oper}{o:Oper}{a:Act}{w w':World}{Q:Exit→Act→World→Prop}(qC:o.guard=none)(s x:Operand)(t:TypeId)
 (ho:o.op=.call {callee:=.builtin .append,args:=#[s,x],argTypes:=#[t,t]}) {v1 v2 v':Value} (hs:a.eval s=v1) (hx:a.eval x=v2) (hr:(Builtin.append_ #[t,t] o.type #[v1,v2]).run P w=.ok v' w') (h:wpList P ops Q rest (a.put o.dst v') w'):wpList P ops Q (o::rest) a w:=
 wpList_plain qC fun _ hK=>pJ s x t ho hs hx hr (hK _ _ h)
end cos
namespace cos
open Go Go.RowKit base av aN lay kN
theorem P5:(Tryz.prog.info? 121).map (fun i=>(i.zero,i.size,i.bytes))=some (some (.agg #[.int .i64 0,.string ⟨#[]⟩,.string ⟨#[]⟩]),3,40):=by kernel_rfl
theorem MJ(w:World)(g c:Nat)(ty:TypeId):(Builtin.append_ #[73,73] ty #[.slice (some ⟨g,0,none⟩) 0 0,.slice none 0 c]).run Tryz.prog w=.ok (.slice (some ⟨g,0,none⟩) 0 0) w:=by kernel_rfl
theorem Kl(w:World)(g c:Nat)(ty:TypeId):(Builtin.append_ #[54,54] ty #[.slice (some ⟨g,0,none⟩) 0 0,.slice none 0 c]).run Tryz.prog w=.ok (.slice (some ⟨g,0,none⟩) 0 0) w:=by kernel_rfl
theorem MK(w:World)(g c:Nat)(ty:TypeId):(Builtin.append_ #[26,26] ty #[.slice (some ⟨g,0,none⟩) 0 0,.slice none 0 c]).run Tryz.prog w=.ok (.slice (some ⟨g,0,none⟩) 0 0) w:=by kernel_rfl
theorem Km:(Tryz.prog.info? 87).map (fun i=>(i.zero,i.size,i.bytes))=some (some (.agg #[.int .i64 0,.bool false]),2,16):=by kernel_rfl
section
variable{w:World}(g:Nat)(a:Option Addr)(n c:Nat)(ty:TypeId)
theorem Kn{l:List Od}(hg:w.ownsRow 0 121 3 (.slice (some ⟨g,0,none⟩) 0 0) 0 [])(h:dD w a n l)(hc:n≤c)(hb:n≤1099511627776):
 ∃g' aO w',(Builtin.append_ #[73,73] ty #[.slice (some ⟨g,0,none⟩) 0 0,.slice a n c]).run Tryz.prog w=.ok (.slice (some ⟨g',0,none⟩) n aO) w'∧kc.own w' [.slice (some ⟨g',0,none⟩) n aO] l [g']∧w.grownBy w' (some g)∧(g'=g∨w.heap.size≤g'):=by
 obtain⟨a',n',c',e,_,h'⟩:=kJ.2 ⟨h,hc⟩;simp only[List.cons.injEq,Value.slice.injEq,and_true] at e;obtain⟨rfl,rfl,rfl⟩:=e;obtain⟨g',aO,w',h1,h2,h3,h4⟩:=f_.zo (P:=Tryz.prog) (fun x u hu=>by simp at hu; rcases hu with rfl | rfl | rfl <;> rfl) (by decide) Tryz.underlying73 P5 rfl MJ g a n c hg h' (by omega) ty
 exact⟨g',aO,w',h1,⟨_,_,rfl,by rw[(f_.parts h2).2.2.1]; rfl,h2⟩,h3,h4⟩
theorem xP{l:List Int}(hg:w.ownsRow 0 3 1 (.slice (some ⟨g,0,none⟩) 0 0) 0 [])(h:tz w a n l)(hw:∀z∈l,(Lit.int .i64 z).wf=true)(hc:n≤c)(hb:n≤1099511627776):
 ∃g' aO w',(Builtin.append_ #[54,54] ty #[.slice (some ⟨g,0,none⟩) 0 0,.slice a n c]).run Tryz.prog w=.ok (.slice (some ⟨g',0,none⟩) n aO) w'∧pB.own w' [.slice (some ⟨g',0,none⟩) n aO] l [g']∧w.grownBy w' (some g)∧(g'=g∨w.heap.size≤g'):=by
 obtain⟨a',n',c',e,_,h'⟩:=q9.2 ⟨⟨h,hw⟩,hc⟩;simp only[List.cons.injEq,Value.slice.injEq,and_true] at e;obtain⟨rfl,rfl,rfl⟩:=e;obtain⟨g',aO,w',h1,h2,h3,h4⟩:=aL.zo (P:=Tryz.prog) (fun x u hu=>by simp at hu; subst hu; rfl) (by decide) Tryz.underlying54 pA rfl Kl g a n c hg h' (by omega) ty
 exact⟨g',aO,w',h1,⟨_,_,rfl,by rw[(aL.parts h2).2.2.1]; rfl,h2⟩,h3,h4⟩
theorem Ko{l:List Ch}(hg:w.ownsRow 0 87 2 (.slice (some ⟨g,0,none⟩) 0 0) 0 [])(h:nc q_ w a n l)(hb:n≤1099511627776):
 ∃g' aO w',(Builtin.append_ #[26,26] ty #[.slice (some ⟨g,0,none⟩) 0 0,.slice a n c]).run Tryz.prog w=.ok (.slice (some ⟨g',0,none⟩) n aO) w'∧qd.own w' [.slice (some ⟨g',0,none⟩) n aO] l [g']∧w.grownBy w' (some g)∧(g'=g∨w.heap.size≤g'):=by
 obtain⟨g',aO,w',h1,h2,h3,h4⟩:=dH.zo (P:=Tryz.prog) (fun x u hu=>by simp at hu; rcases hu with rfl | rfl <;> rfl) (by decide) Tryz.underlying26 Km rfl MK g a n c hg h (by omega) ty
 exact⟨g',aO,w',h1,⟨_,_,rfl,by rw[(dH.parts h2).2.2.1]; rfl,h2⟩,h3,h4⟩
end
end cos
namespace cos
open Go Go.RowKit base av aN lay kN
theorem oX(w:World)(ty:TypeId)(size:Nat):(w.alloc (.cells #[] ty)).ownsRow 0 ty size (.slice (some ⟨w.heap.size,0,none⟩) 0 0) 0 []:=World.ownsRow_made w #[] 0 (Nat.zero_le _) (Nat.zero_le _) (by simp)
theorem xQ{w w':World}{ty:TypeId}{size g:Nat}(h:w.ownsRow 0 ty size (.slice (some ⟨g,0,none⟩) 0 0) 0 [])(hb:Below w.heap.size w w'):w'.ownsRow 0 ty size (.slice (some ⟨g,0,none⟩) 0 0) 0 []:=
 h.kept (row:=none) ⟨hb.os,hb.tape,hb.output,hb.size,fun k hk _=>hb.block k hk⟩ (.inr (by simp[Value.ownBlock]))
theorem xR{w w':World}{ty:TypeId}{size g k:Nat}(h:w.ownsRow 0 ty size (.slice (some ⟨g,0,none⟩) 0 0) 0 [])(hg:w.grownBy w' (some k))(aW:g≠k):w'.ownsRow 0 ty size (.slice (some ⟨g,0,none⟩) 0 0) 0 []:=
 h.kept hg (.inr (by simp[Value.ownBlock,aW]))
set_option maxRecDepth 100000 in
set_option maxHeartbeats 4000000 in
theorem Kp(b off:Nat)(tx st:Int)(oa:Option Addr)(ol oc:Nat)(ya:Option Addr)(yl yc:Nat)(ops:List Od)(yes:List Int)(w:World)(c0:w.cell? ⟨b,off,none⟩=some (.int .i64 tx))(c1:w.cell? ⟨b,off+1,none⟩=some (.slice oa ol oc))(c2:w.cell? ⟨b,off+2,none⟩=some (.int .i64 st))(c3:w.cell? ⟨b,off+3,none⟩=some (.slice ya yl yc))
 (k1:(Lit.int .i64 tx).wf=true) (k3:(Lit.int .i64 st).wf=true) (hO:dD w oa ol ops) (Hn:ol≤oc) (hY:tz w ya yl yes) (zk:yl≤yc) (hyw:∀z∈yes,(Lit.int .i64 z).wf=true) (tL:ol≤1099511627776) (px:yl≤1099511627776):
 Calls Tryz.prog 93 #[.pointer (some ⟨b,off,none⟩)] w (zV dU w (tx,ops,st,yes)):=by
 obtain⟨W,hW⟩:∃W,w.alloc (.cells #[.int .i64 0,.slice none 0 0,.int .i64 0,.slice none 0 0] 75)=W:=⟨_,rfl⟩;have hB:Below w.heap.size w W:=by rw[←hW]; exact aJ
 have hR:au w.heap.size 75 [] [.int .i64 0,.slice none 0 0,.int .i64 0,.slice none 0 0] [] W:=by rw[←hW]; exact aE w _ _
 have lS:=hR.lt;have HW:=Hid.mk' hW;clear hW;have mX:=World.block_lt_of_cell? _ _ c0;have pd:b<W.heap.size:=Nat.lt_of_lt_of_le mX hB.size;replace c0:=(hB.cell (p:=⟨b,off,none⟩) mX).trans c0;replace c1:=(hB.cell (p:=⟨b,off+1,none⟩) mX).trans c1;replace c2:=(hB.cell (p:=⟨b,off+2,none⟩) mX).trans c2;replace c3:=(hB.cell (p:=⟨b,off+3,none⟩) mX).trans c3;have E_:=Hid.mk' (fun g wx (hx:Below W.heap.size W wx) (hg:wx.ownsRow 0 121 3 (.slice (some ⟨g,0,none⟩) 0 0) 0 [])=>Kn g oa ol oc 73 hg ((hO.below hB).below hx) Hn tL)
 have HCY:=Hid.mk' (fun g wx (hx:Below W.heap.size W wx) (hg:wx.ownsRow 0 3 1 (.slice (some ⟨g,0,none⟩) 0 0) 0 [])=>xP g ya yl yc 54 hg ((hY.below hB).below hx) hyw zk px)
 have eJ:Below W.heap.size W W.drew:=(Below.refl _ _).drew;clear hO hY Hn zk tL px mX;go_enter Tryz.func93,Tryz.ntmps93;go_wp2_with fail;rw[HW.out];refine last.aq (S:=fun w'=>Below W.heap.size W w') 21 (by kernel_rfl) eJ (fun af=>?_)
 generalize hD:W.drew=D at *;clear hD;refine last.wpTk 0 (.pointer (some ⟨b,off,none⟩)) rfl rfl ?_ ?_
 · intro wq ar; go_simp
 try simp only[Act.put,zP,zQ,zR]
 refine last.wpTk 1 (.pointer (some ⟨b,off,none⟩)) rfl rfl ?_ ?_
 · intro wq ar; go_simp
 try simp only[Act.put,zP,zQ,zR]
 refine last.wpTk 2 (.pointer (some ⟨b,off,none⟩)) rfl rfl ?_ ?_
 · intro wq ar; go_simp
 try simp only[Act.put,zP,zQ,zR]
 refine last.wpTk 3 (.int .i64 tx) rfl rfl ?_ ?_
 · intro wq ar; have q:=(ar.cell (p:=⟨b,off,none⟩) pd).trans c0; go_simp
 try simp only[Act.put,zP,zQ,zR]
 refine last.wpTk 5 (.pointer (some ⟨b,off,none⟩)) rfl rfl ?_ ?_
 · intro wq ar; go_simp
 try simp only[Act.put,zP,zQ,zR]
 refine last.wpTk 6 (.pointer (some ⟨b,off,none⟩)) rfl rfl ?_ ?_
 · intro wq ar; go_simp
 try simp only[Act.put,zP,zQ,zR]
 refine last.wpTk 7 (.pointer (some ⟨b,off+1,none⟩)) rfl rfl ?_ ?_
 · intro wq ar; go_simp
 try simp only[Act.put,zP,zQ,zR]
 refine last.wpTk 8 (.slice oa ol oc) rfl rfl ?_ ?_
 · intro wq ar; have q:=(ar.cell (p:=⟨b,off+1,none⟩) pd).trans c1; go_simp
 try simp only[Act.put,zP,zQ,zR]
 refine last.wpTk 10 (.pointer (some ⟨b,off,none⟩)) rfl rfl ?_ ?_
 · intro wq ar; go_simp
 try simp only[Act.put,zP,zQ,zR]
 refine last.wpTk 11 (.pointer (some ⟨b,off,none⟩)) rfl rfl ?_ ?_
 · intro wq ar; go_simp
 try simp only[Act.put,zP,zQ,zR]
 refine last.wpTk 12 (.pointer (some ⟨b,off+2,none⟩)) rfl rfl ?_ ?_
 · intro wq ar; go_simp
 try simp only[Act.put,zP,zQ,zR]
 refine last.wpTk 13 (.int .i64 st) rfl rfl ?_ ?_
 · intro wq ar; have q:=(ar.cell (p:=⟨b,off+2,none⟩) pd).trans c2; go_simp
 try simp only[Act.put,zP,zQ,zR]
 refine last.wpTk 15 (.pointer (some ⟨b,off,none⟩)) rfl rfl ?_ ?_
 · intro wq ar; go_simp
 try simp only[Act.put,zP,zQ,zR]
 refine last.wpTk 16 (.pointer (some ⟨b,off,none⟩)) rfl rfl ?_ ?_
 · intro wq ar; go_simp
 try simp only[Act.put,zP,zQ,zR]
 refine last.wpTk 17 (.pointer (some ⟨b,off+3,none⟩)) rfl rfl ?_ ?_
 · intro wq ar; go_simp
 try simp only[Act.put,zP,zQ,zR]
 refine last.wpTk 18 (.slice ya yl yc) rfl rfl ?_ ?_
 · intro wq ar; have q:=(ar.cell (p:=⟨b,off+3,none⟩) pd).trans c3; go_simp
 try simp only[Act.put,zP,zQ,zR]
 refine last.eA (i:=4) (j:=14) (o:=qO27) (o':={dst:=some 17,op:=Op.buildSlice 54 0 #[],type:=54,pos:= "l11_coord.go:159",after:=#[],guard:=none}) (by kernel_rfl) rfl rfl (fun K hK=> ?wayA) (fun K hK=> ?wayB)
 case' wayA=>
  go_simp;have fi:Below W.heap.size W (D.alloc (.cells #[] 121)):=eJ.alloc eJ.size _;have zK:=oX D 121 3;have P6:D.heap.size<(D.alloc (.cells #[] 121)).heap.size:=by simp
  have P7:=eJ.size;refine hK.out _ _ ?_ (fun ag=>?_)
  · exact fi
  clear hK K af;have af:=ag;clear ag;try simp only[Act.put,zP,zQ,zR]
  generalize fU:D.alloc (.cells #[] 121)=wB at *;clear fU;refine last.eA (i:=9) (j:=14) (o:=qO28) (o':={dst:=some 17,op:=Op.buildSlice 54 0 #[],type:=54,pos:= "l11_coord.go:159",after:=#[],guard:=none}) (by kernel_rfl) rfl rfl (fun K hK=> ?wayA1) (fun K hK=> ?wayA2)
 case' wayA1=>
  obtain⟨g1,iA,wC,s8,EX,wU,vv⟩:=E_.out _ wB fi zK;refine cO rfl (.tmp 7) (.tmp 11) 73 rfl (by kernel_rfl) (by kernel_rfl) s8 ?_
  have Tn:=(zK.lt _ rfl).2;have kR:Below W.heap.size W wC:=fi.grown wU fi.size (fun k e=>by cases e; omega)
  have Tp:=wU.size;refine hK.out _ _ ?_ (fun ag=>?_)
  · exact kR
  clear hK K af;have af:=ag;clear ag;try simp only[Act.put,zP,zQ,zR]
  clear s8 zK;refine last.an (i:=14) (o:={dst:=some 17,op:=Op.buildSlice 54 0 #[],type:=54,pos:= "l11_coord.go:159",after:=#[],guard:=none}) (by kernel_rfl) rfl (fun K hK=>?_)
  go_simp;have s_:Below W.heap.size W (wC.alloc (.cells #[] 3)):=kR.alloc kR.size _;have oK:=oX wC 3 1;have XI:wC.heap.size<(wC.alloc (.cells #[] 3)).heap.size:=by simp
  have XJ:=kR.size;have vP:=kc.dv EX g1 (by simp)
  replace EX:=kc.gB EX (aJ (o:=.cells #[] 3));refine hK.out _ _ ?_ (fun ag=>?_)
  · exact s_
  clear hK K af;have af:=ag;clear ag;try simp only[Act.put,zP,zQ,zR]
  generalize Tq:wC.alloc (.cells #[] 3)=wA at *;clear Tq;have aW:g1≠wC.heap.size:=by omega
  have GD:=s_;have ML:W.heap.size≤g1:=by rcases vv with e | e <;> omega
  have P8:W.heap.size≤wC.heap.size:=by omega
 case' wayA2=>
  go_simp;have kR:Below W.heap.size W (wB.alloc (.cells #[] 3)):=fi.alloc fi.size _;have oK:=oX wB 3 1;have P9:wB.heap.size<(wB.alloc (.cells #[] 3)).heap.size:=by simp
  have P_:=fi.size;replace zK:=xQ zK (aJ (o:=.cells #[] 3));refine hK.out _ _ ?_ (fun ag=>?_)
  · exact kR
  clear hK K af;have af:=ag;clear ag;try simp only[Act.put,zP,zQ,zR]
  generalize Kq:wB.alloc (.cells #[] 3)=wC at *;clear Kq;refine last.an (i:=9) (o:=qO28) (by kernel_rfl) rfl (fun K hK=>?_)
  obtain⟨g1,iA,wA,s8,EX,wU,vv⟩:=E_.out _ wC kR zK;refine cO rfl (.tmp 7) (.tmp 11) 73 rfl (by kernel_rfl) (by kernel_rfl) s8 ?_
  have Tn:=(zK.lt _ rfl).2;have s_:Below W.heap.size W wA:=kR.grown wU kR.size (fun k e=>by cases e; omega)
  have Tp:=wU.size;replace oK:=xR oK wU (by omega)
  refine hK.out _ _ ?_ (fun ag=>?_)
  · exact s_
  clear hK K af;have af:=ag;clear ag;try simp only[Act.put,zP,zQ,zR]
  clear s8 zK;have aW:g1≠wB.heap.size:=by rcases vv with e | e <;> omega
  have GD:=s_;have ML:W.heap.size≤g1:=by rcases vv with e | e <;> omega
  have P8:W.heap.size≤wB.heap.size:=by omega
 case' wayB=>
  go_simp;have fi:Below W.heap.size W (D.alloc (.cells #[] 3)):=eJ.alloc eJ.size _;have oK:=oX D 3 1;have P6:D.heap.size<(D.alloc (.cells #[] 3)).heap.size:=by simp
  have P7:=eJ.size;refine hK.out _ _ ?_ (fun ag=>?_)
  · exact fi
  clear hK K af;have af:=ag;clear ag;try simp only[Act.put,zP,zQ,zR]
  generalize fU:D.alloc (.cells #[] 3)=wB at *;clear fU;refine last.an (i:=4) (o:=qO27) (by kernel_rfl) rfl (fun K hK=>?_)
  go_simp;have kR:Below W.heap.size W (wB.alloc (.cells #[] 121)):=fi.alloc fi.size _;have zK:=oX wB 121 3;have P9:wB.heap.size<(wB.alloc (.cells #[] 121)).heap.size:=by simp
  have P_:=fi.size;replace oK:=xQ oK (aJ (o:=.cells #[] 121));refine hK.out _ _ ?_ (fun ag=>?_)
  · exact kR
  clear hK K af;have af:=ag;clear ag;try simp only[Act.put,zP,zQ,zR]
  generalize Kq:wB.alloc (.cells #[] 121)=wC at *;clear Kq;refine last.an (i:=9) (o:=qO28) (by kernel_rfl) rfl (fun K hK=>?_)
  obtain⟨g1,iA,wA,s8,EX,wU,vv⟩:=E_.out _ wC kR zK;refine cO rfl (.tmp 7) (.tmp 11) 73 rfl (by kernel_rfl) (by kernel_rfl) s8 ?_
  have Tn:=(zK.lt _ rfl).2;have s_:Below W.heap.size W wA:=kR.grown wU kR.size (fun k e=>by cases e; omega)
  have Tp:=wU.size;replace oK:=xR oK wU (by omega)
  refine hK.out _ _ ?_ (fun ag=>?_)
  · exact s_
  clear hK K af;have af:=ag;clear ag;try simp only[Act.put,zP,zQ,zR]
  clear s8 zK;have aW:g1≠D.heap.size:=by rcases vv with e | e <;> omega
  have GD:=s_;have ML:W.heap.size≤g1:=by rcases vv with e | e <;> omega
  have P8:W.heap.size≤D.heap.size:=by omega
 all_goals
  refine last.an (i:=19) (o:={dst:=some 22,op:=Op.call {callee:=Callee.builtin Builtin.append,args:=#[Operand.tmp 17,Operand.tmp 21],argTypes:=#[54,54]},type:=54,pos:= "l11_coord.go:159",after:=#[{on:=14,ground:=Ground.data},{on:=18,ground:=Ground.data},{on:=9,ground:=Ground.chain}],guard:=none}) (by kernel_rfl) rfl (fun K hK=>?_)
  obtain⟨g2,Iv,wZ,NP,Cb,Qa,NQ⟩:=HCY.out _ wA GD oK;refine cO rfl (.tmp 17) (.tmp 21) 54 rfl (by kernel_rfl) (by kernel_rfl) NP ?_
  have hg2w:=(oK.lt _ rfl).2;have vP:=kc.dv EX g1 (by simp)
  have MM:Below W.heap.size W wZ:=GD.grown Qa GD.size (fun k e=>by cases e; omega)
  replace EX:=kc.br EX Qa (fun k hk e=>by simp only[List.mem_singleton] at hk; subst hk; simp only[Option.some.injEq] at e; omega)
  have hgb2:W.heap.size≤g2∧g1≠g2:=by
   have hs:=GD.size;rcases NQ with e | e
   · rw[e]; exact⟨P8,aW⟩
   · exact⟨by omega,by omega⟩
  refine hK.out _ _ ?_ (fun ag=>?_)
  · exact MM
  clear hK K af;have af:=ag;clear ag;try simp only[Act.put,zP,zQ,zR]
  clear NP oK Qa NQ;refine last.wpTk 20 (.agg #[.int .i64 tx,.slice (some ⟨g1,0,none⟩) ol iA,.int .i64 st,.slice (some ⟨g2,0,none⟩) yl Iv]) rfl rfl ?_ ?_
  · intro wq ar; go_simp
  try simp only[Act.put,zP,zQ,zR]
  have Rh:=hR.below MM;obtain⟨z0,z1,z2,z3⟩:=cells4 Rh;have f0:=Rh.fz 0;have f1:=Rh.fz 1;have f2:=Rh.fz 2;have f3:=Rh.fz 3;have hS:=Rh.whole [.int .i64 tx,.slice (some ⟨g1,0,none⟩) ol iA,.int .i64 st,.slice (some ⟨g2,0,none⟩) yl Iv] rfl;obtain⟨y0,y1,y2,y3⟩:=cells4 hS.1;simp only[bh,Nat.zero_add,Nat.reduceAdd] at y0 y1 y2 y3;have jy:=(hB.trans (MM.mono hB.size)).grown hS.2 (hB.trans (MM.mono hB.size)).size (fun j e=>by cases e; omega)
  replace EX:=kc.br EX hS.2 (fun k hk e=>by simp only[List.mem_singleton] at hk; subst hk; simp only[Option.some.injEq] at e; omega)
  replace Cb:=pB.br Cb hS.2 (fun k hk e=>by simp only[List.mem_singleton] at hk; subst hk; simp only[Option.some.injEq] at e; omega)
  have XK:=Hid.mk' (P4 k1 k3 EX Cb (by simp; omega))
  have OA:=Hid.mk' jy;have XL:Hid (∀k∈[g1]++[g2],w.heap.size≤k):=fun k hk=>by
   have:=hB.size;simp only[List.mem_append,List.mem_singleton] at hk;rcases hk with e | e <;> subst e <;> omega
  clear EX Cb jy hS;refine last.aC (o:={dst:=none,op:=Op.store 75 (Operand.tmp 2) (Operand.tmp 23),type:=0,pos:= "l11_coord.go:159",after:=#[{on:=20,ground:=Ground.data},{on:=19,ground:=Ground.chain},{on:=0,ground:=Ground.phase},{on:=1,ground:=Ground.phase},{on:=2,ground:=Ground.phase},{on:=3,ground:=Ground.phase},{on:=4,ground:=Ground.phase},{on:=5,ground:=Ground.phase},{on:=6,ground:=Ground.phase},{on:=7,ground:=Ground.phase},{on:=8,ground:=Ground.phase},{on:=9,ground:=Ground.phase},{on:=10,ground:=Ground.phase},{on:=11,ground:=Ground.phase},{on:=12,ground:=Ground.phase},{on:=13,ground:=Ground.phase},{on:=14,ground:=Ground.phase},{on:=15,ground:=Ground.phase},{on:=16,ground:=Ground.phase},{on:=17,ground:=Ground.phase},{on:=18,ground:=Ground.phase},{on:=19,ground:=Ground.phase},{on:=20,ground:=Ground.phase}],guard:=none}) (by kernel_rfl) rfl (by kernel_rfl) (fun K hK=>?_)
  go_simp;refine hK.out _ _ ?_;clear hK K;go_wp2_with fail;refine bodyPost_ret (v:=.agg #[.int .i64 tx,.slice (some ⟨g1,0,none⟩) ol iA,.int .i64 st,.slice (some ⟨g2,0,none⟩) yl Iv]) ?_ rfl ⟨_,_,rfl,XK.out,XL.out,OA.out⟩;simp[results,Tryz.results93,go_sem,y0,y1,y2,y3]
end cos
end Go.Proofs.YtmibabclefgljaaGreat
