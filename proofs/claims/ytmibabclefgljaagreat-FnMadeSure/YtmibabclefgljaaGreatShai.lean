/- ShardMath LayR RecZd RecZe -/
import Derived.Test.YtmibabclefgljaaGreatShab
import Derived.Test.YtmibabclefgljaaGreatShaa
import Derived.Test.YtmibabclefgljaaGreatShah
set_option linter.unusedVariables false
set_option linter.unusedSimpArgs false
set_option maxRecDepth 100000
set_option maxHeartbeats 4000000
namespace Go.Proofs.YtmibabclefgljaaGreat
namespace aZ
open Go Go.RowKit base av aN
abbrev cQ:=Int × List Rc × Int × List Pr × List Rc
def bH(s:cQ):Bool:=
  decide (0≤s.1∧s.1≤7) && decide (s.2.1.length≤300) && decide (0≤s.2.2.1∧s.2.2.1≤(s.2.1.length:Int)) &&
    (match replay s.2.1 with
     | none=>false
     | some t=>decide (t.1=s.2.2.2.1) && decide (t.2.1=s.2.2.2.2) && decide (s.2.1.length+t.2.1.length≤300))
structure bZ (s:cQ):Prop where
 id:0≤s.1∧s.1≤7
 made:∃seen,replay s.2.1=some (s.2.2.2.1,s.2.2.2.2,seen)
 sure:0≤s.2.2.1∧s.2.2.1≤(s.2.1.length:Int)
 room:s.2.1.length+s.2.2.2.2.length≤300
theorem nw(s:cQ):bH s=true↔bZ s:=by
 unfold bH;constructor
 · intro h;simp only[Bool.and_eq_true,decide_eq_true_iff] at h;obtain⟨⟨⟨h1,h2⟩,h3⟩,h4⟩:=h;cases hr:replay s.2.1 with
   | none=>rw[hr] at h4; cases h4
   | some t=>
    rw[hr] at h4;simp only[Bool.and_eq_true,decide_eq_true_iff] at h4;obtain⟨⟨h5,h6⟩,h7⟩:=h4;exact⟨h1,⟨t.2.2,by rw[hr,←h5,←h6]⟩,h3,by rw[←h6]; exact h7⟩
 · rintro⟨h1,⟨seen,h2⟩,h3,h4⟩;simp only[Bool.and_eq_true,decide_eq_true_iff];refine⟨⟨⟨h1,by omega⟩,h3⟩,?_⟩
   rw[h2];simp[h4]
/-! ### how it is with a transaction -/
def bp(tx:Int)(l:List Rc):Int:=l.foldl (fun k r=>if r.2.1=tx then r.1 else k) 0
theorem bU(tx:Int)(l:List Rc)(r:Rc):bp tx (l++[r])=if r.2.1=tx then r.1 else bp tx l:=by
 unfold bp; rw[List.foldl_append]; rfl
def eI(tx:Int)(l:List Rc):Int:=l.foldl (fun o r=>if r.2.1=tx∧r.1=3 then 4 else if r.2.1=tx∧r.1=2 then 3 else o) 2
theorem mC(tx:Int)(l:List Rc)(r:Rc):eI tx (l++[r])=if r.2.1=tx∧r.1=3 then 4 else if r.2.1=tx∧r.1=2 then 3 else eI tx l:=by
 unfold eI; rw[List.foldl_append]; rfl
structure xu (l:List Rc) (s:St):Prop where
 nd:(s.2.1.map fun r=>r.2.1).Nodup
 held:∀tx,(∃r∈s.2.1,r.2.1=tx)↔bp tx l=1
 seen:∀tx,tx∈s.2.2↔bp tx l≠0
 kinds:∀tx,bp tx l=0∨bp tx l=1∨bp tx l=2∨bp tx l=3
 out:∀tx,bp tx l≠1→eI tx l=if bp tx l=2 then 3 else if bp tx l=3 then 4 else 2
theorem j8{tx:Int}{l:List Rc}:(aH tx l).isSome=true↔∃r∈l,r.2.1=tx:=by
 constructor
 · intro h;cases hp:aH tx l with
   | none=>rw[hp] at h; cases h
   | some k=>obtain⟨hk,e⟩:=hI hp; exact⟨_,List.getElem_mem hk,e⟩
 · rintro⟨r,hr,e⟩;cases hp:aH tx l with
   | none=>exact absurd e (mr hp r hr)
   | some k=>rfl
theorem L7{α:Type}{l:List α}{x:α}{k:Nat}(hk:k<l.length)(h:x∈l):x∈l.take k++l.drop (k+1)∨x=l[k]:=by
 rw[←List.take_append_drop k l,List.drop_eq_getElem_cons hk] at h;rcases List.mem_append.1 h with e | e
 · exact .inl (List.mem_append.2 (.inl e))
 · rcases List.mem_cons.1 e with e | e
   · exact .inr e
   · exact .inl (List.mem_append.2 (.inr e))
theorem Ev{α:Type}(l:List α)(k:Nat):(l.take k++l.drop (k+1)).Sublist l:=by
 rw[←List.eraseIdx_eq_take_drop_succ]; exact List.eraseIdx_sublist _ _
theorem O0{l:List Rc}{k:Nat}(dW:(l.map fun r=>r.2.1).Nodup)(hk:k<l.length)(tx:Int)(vQ:l[k].2.1=tx):∀r∈l.take k++l.drop (k+1),r.2.1≠tx:=by
 intro r hr e;have CA:l=l.take k++l[k]::l.drop (k+1):=by rw[←List.drop_eq_getElem_cons hk,List.take_append_drop]
 rw[CA,List.map_append,List.map_cons,List.nodup_append] at dW;rcases List.mem_append.1 hr with h1 | h1
 · exact dW.2.2 _ (List.mem_map.2 ⟨r,h1,e⟩) _ (List.mem_cons.2 (.inl vQ.symm)) rfl
 · exact(List.nodup_cons.1 dW.2.1).1 (List.mem_map.2 ⟨r,h1,by rw[e,vQ]⟩)
theorem AM:xu [] ([],[],[]):=
 ⟨List.nodup_nil,fun tx=>⟨fun⟨r,hr,_⟩=>absurd hr List.not_mem_nil,fun h=>by simp[bp] at h⟩,fun tx=>⟨fun h=>absurd h List.not_mem_nil,fun h=>absurd rfl h⟩,fun tx=>.inl rfl,fun tx _=>by simp[eI,bp]⟩
theorem Dd{l:List Rc}{s t:St}{r:Rc}(h:xu l s)(ho:one s r=some t):xu (l++[r]) t:=by
 have yE:=h.kinds;unfold one at ho
 split at ho
 · next bD=>
   have R4:=((bE r).1 bD).2
   split at ho
   · next h1=>
     split at ho
     · cases ho
     · next hn=>
       cases ho;have UM:r.2.1∉s.2.2:=fun e=>hn (.inl (by simpa using e))
       have B8:bp r.2.1 l=0:=by
        rcases Classical.em (bp r.2.1 l=0) with e | e
        · exact e
        · exact absurd ((h.seen r.2.1).2 e) UM
       refine⟨?_,fun tx=>?_,fun tx=>?_,fun tx=>?_,fun tx aW=>?_⟩
       · rw[List.map_append,List.nodup_append];refine⟨h.nd,List.nodup_cons.2 ⟨List.not_mem_nil,List.nodup_nil⟩,fun a ha b hb e=>?_⟩
         obtain⟨x,hx,rfl⟩:=List.mem_map.1 ha;obtain⟨y,hy,rfl⟩:=List.mem_map.1 hb;rw[List.mem_singleton.1 hy] at e;have:=(h.held r.2.1).1 ⟨x,hx,e⟩;omega
       · rw[bU];constructor
         · rintro⟨x,hx,e⟩;rcases List.mem_append.1 hx with e2 | e2
           · split
             · exact h1
             · exact(h.held tx).1 ⟨x,e2,e⟩
           · rw[List.mem_singleton.1 e2] at e;rw[if_pos e]; exact h1
         · intro e
           split at e
           · next e2=>exact⟨r,List.mem_append.2 (.inr (by simp)),e2⟩
           · obtain⟨x,hx,e3⟩:=(h.held tx).2 e;exact⟨x,List.mem_append.2 (.inl hx),e3⟩
       · rw[bU];constructor
         · intro hx
           split
           · omega
           · next e2=>
             rcases List.mem_append.1 hx with e | e
             · exact(h.seen tx).1 e
             · exact absurd (List.mem_singleton.1 e).symm e2
         · intro e
           split at e
           · next e2=>exact List.mem_append.2 (.inr (by simp[e2]))
           · exact List.mem_append.2 (.inl ((h.seen tx).2 e))
       · rw[bU]
         split
         · exact .inr (.inl h1)
         · exact h.kinds tx
       · rw[bU] at aW ⊢;rw[mC]
         split at aW
         · exact absurd h1 aW
         · next e2=>
           rw[if_neg (fun e=>e2 e.1),if_neg (fun e=>e2 e.1),if_neg e2]
           exact h.out tx aW
   · next h1=>
     have L5:r.1=2∨r.1=3:=by
      rcases R4 with⟨e,_⟩ | ⟨e,_⟩
      · exact absurd e h1
      · exact e
     have jz:∀tx,bp tx (l++[r])≠1→(bp tx l≠1∨r.2.1=tx)→eI tx (l++[r])=if bp tx (l++[r])=2 then 3 else if bp tx (l++[r])=3 then 4 else 2:=by
      intro tx aW hor;rw[bU,mC];by_cases e2:r.2.1=tx
      · rw[if_pos e2];rcases L5 with e | e
        · rw[if_neg (fun x=>by omega),if_pos ⟨e2,e⟩,if_pos e]
        · rw[if_pos ⟨e2,e⟩,if_neg (by omega),if_pos e]
      · rw[if_neg (fun e=>e2 e.1),if_neg (fun e=>e2 e.1),if_neg e2]
        exact h.out tx (hor.resolve_right e2)
     have I8:∀tx,bp tx (l++[r])=0∨bp tx (l++[r])=1∨bp tx (l++[r])=2∨bp tx (l++[r])=3:=fun tx=>by
      rw[bU]
      split
      · omega
      · exact h.kinds tx
     split at ho
     · next hp=>
       split at ho
       · next h3=>
         cases ho;have jY:=mr hp;refine⟨h.nd,fun tx=>?_,fun tx=>?_,I8,fun tx aW=>?_⟩
         · rw[bU];constructor
           · rintro⟨x,hx,e⟩;rw[if_neg (fun e2=>jY x hx (by rw[e,e2]))]
             exact(h.held tx).1 ⟨x,hx,e⟩
           · intro e
             split at e
             · omega
             · exact(h.held tx).2 e
         · rw[bU];constructor
           · intro hx
             split
             · omega
             · next e2=>
               rcases List.mem_append.1 hx with e | e
               · exact(h.seen tx).1 e
               · exact absurd (List.mem_singleton.1 e).symm e2
           · intro e
             split at e
             · next e2=>exact List.mem_append.2 (.inr (by simp[e2]))
             · exact List.mem_append.2 (.inl ((h.seen tx).2 e))
         · refine jz tx aW ?_;by_cases e2:r.2.1=tx
           · exact .inr e2
           · rw[bU,if_neg e2] at aW; exact .inl aW
       · cases ho
     · next k hp=>
       obtain⟨hk,L6⟩:=hI hp
       split at ho
       · cases ho;have hcut:=O0 h.nd hk r.2.1 L6;have R5:bp r.2.1 l≠0:=by
          have:=(h.held r.2.1).1 ⟨_,List.getElem_mem hk,L6⟩;omega
         refine⟨?_,fun tx=>?_,fun tx=>?_,I8,fun tx aW=>?_⟩
         · exact h.nd.sublist ((Ev s.2.1 k).map _)
         · rw[bU];constructor
           · rintro⟨x,hx,e⟩;rw[if_neg (fun e2=>hcut x hx (by rw[e,e2]))]
             exact(h.held tx).1 ⟨x,(Ev s.2.1 k).subset hx,e⟩
           · intro e
             split at e
             · omega
             · next e2=>
               obtain⟨x,hx,e3⟩:=(h.held tx).2 e;rcases L7 hk hx with e4 | e4
               · exact⟨x,e4,e3⟩
               · rw[e4,L6] at e3; exact absurd e3 e2
         · rw[bU];constructor
           · intro hx
             split
             · omega
             · exact(h.seen tx).1 hx
           · intro e
             split at e
             · next e2=>rw[←e2]; exact(h.seen _).2 R5
             · exact(h.seen tx).2 e
         · refine jz tx aW ?_;by_cases e2:r.2.1=tx
           · exact .inr e2
           · rw[bU,if_neg e2] at aW; exact .inl aW
       · cases ho
 · cases ho
theorem AN:∀(l pre:List Rc) (s t:St),xu pre s→bA s l=some t→xu (pre++l) t
 | [],pre,s,t,h,e=>by cases e; simpa using h
 | r::l,pre,s,t,h,e=>by
  rw[bA] at e
  split at e
  · cases e
  · next u hu=>
    have:=AN l (pre++[r]) u t (Dd h hu) e;simpa using this
theorem jH{l:List Rc}{t:St}(h:replay l=some t):xu l t:=by
 have:=AN l [] _ t AM h;simpa using this
def eB(s:cQ)(tx:Int):Int:=if(aH tx s.2.2.2.2).isSome=true then 1 else eI tx s.2.1
def ef(k:Int):Int:=if k=1 then 1 else if k=2 then 3 else if k=3 then 4 else 2
theorem j9{s:cQ}(h:bZ s)(tx:Int):eB s tx=ef (bp tx s.2.1):=by
 obtain⟨seen,hm⟩:=h.made;have hS:=jH hm;unfold eB ef;by_cases e:bp tx s.2.1=1
 · rw[if_pos (j8.2 ((hS.held tx).2 e)),if_pos e]
 · rw[if_neg (fun h=>e ((hS.held tx).1 (j8.1 h))),if_neg e]
   exact hS.out tx e
theorem kI(l:List Rc)(r:Rc):replay (l++[r])=match replay l with | none=>none | some t=>one t r:=by
 unfold replay;rw[jw];cases bA ([],[],[]) l with
 | none=>rfl
 | some t=>
  simp only[bA];cases one t r with
  | none=>rfl
  | some u=>rfl
/-! ### what is written -/
def forced(m:List Pr)(held:List Rc)(r:Rc):List Pr × List Rc:=
 if r.1=1 then(m,held++[r]) else match aH r.2.1 held with
  | none=>(m,held)
  | some k=>(gS (m,held,[]) r k,held.take k++held.drop (k+1))
def written(s:cQ)(r:Rc):cQ:=(s.1,s.2.1++[r],s.2.2.1,(forced s.2.2.2.1 s.2.2.2.2 r).1,(forced s.2.2.2.1 s.2.2.2.2 r).2)
theorem De{m:List Pr}{held:List Rc}{seen:List Int}{r:Rc}{t:St}(h:one (m,held,seen) r=some t):(t.1,t.2.1)=forced m held r:=by
 unfold one at h;unfold forced
 split at h
 · split at h
   · next h1=>
     rw[if_pos h1]
     split at h
     · cases h
     · cases h; rfl
   · next h1=>
     rw[if_neg h1]
     split at h
     · next hp=>
       split at h
       · cases h; simp only[hp]
       · cases h
     · next k hp=>
       split at h
       · cases h;simp only[hp];rfl
       · cases h
 · cases h
theorem kZ{s:cQ}{r:Rc}{t:St}(h:bZ s){seen:List Int}(hm:replay s.2.1=some (s.2.2.2.1,s.2.2.2.2,seen))(ho:one (s.2.2.2.1,s.2.2.2.2,seen) r=some t)(nP:s.2.1.length+1+t.2.1.length≤300):bZ (written s r):=by
 have e:=De ho;have e1:(forced s.2.2.2.1 s.2.2.2.2 r).1=t.1:=by rw[←e]
 have e2:(forced s.2.2.2.1 s.2.2.2.2 r).2=t.2.1:=by rw[←e]
 refine⟨h.id,⟨t.2.2,?_⟩,?_,?_⟩
 · show replay (s.2.1++[r])=some ((forced s.2.2.2.1 s.2.2.2.2 r).1,(forced s.2.2.2.1 s.2.2.2.2 r).2,t.2.2);rw[kI,hm,e1,e2]; exact ho
 · have:=h.sure;show 0≤s.2.2.1∧s.2.2.1≤((s.2.1++[r]).length:Int);simp; omega
 · show(s.2.1++[r]).length+(forced s.2.2.2.1 s.2.2.2.2 r).2.length≤300;rw[e2]; simp; omega
theorem FN{s:cQ}{seen:List Int}{tx:Int}{ops:List Od}(h:bZ s)(hm:replay s.2.1=some (s.2.2.2.1,s.2.2.2.2,seen))(bD:bf (1,tx,ops)=true)(ho:eB s tx=2)(hl:locked s.2.2.2.2 ops=false)(OC:meets s.2.2.2.1 ops=true):
 one (s.2.2.2.1,s.2.2.2.2,seen) (1,tx,ops)=some (s.2.2.2.1,s.2.2.2.2++[(1,tx,ops)],seen++[tx]):=by
 rw[j9 h] at ho;have hS:=jH hm;have h0:bp tx s.2.1=0:=by
  rcases hS.kinds tx with e | e | e | e
  · exact e
  all_goals(rw[e] at ho; simp[ef] at ho)
 have h1:tx∉seen:=fun e=>(hS.seen tx).1 e h0
 unfold one;rw[if_pos bD,if_pos rfl,if_neg (by simp[h1,hl,OC])]
theorem I9{s:cQ}{tx:Int}(ho:eB s tx≠1):aH tx s.2.2.2.2=none:=by
 cases hp:aH tx s.2.2.2.2 with
 | none=>rfl
 | some k=>exact absurd (by unfold eB; rw[hp]; rfl) ho
theorem xv{s:cQ}{seen:List Int}{tx:Int}(h:bZ s)(hm:replay s.2.1=some (s.2.2.2.1,s.2.2.2.2,seen))(bD:bf (3,tx,[])=true)(ho:eB s tx=2):
 one (s.2.2.2.1,s.2.2.2.2,seen) (3,tx,[])=some (s.2.2.2.1,s.2.2.2.2,seen++[tx]):=by
 have hp:=I9 (s:=s) (tx:=tx) (by omega)
 rw[j9 h] at ho;have hS:=jH hm;have h0:bp tx s.2.1=0:=by
  rcases hS.kinds tx with e | e | e | e
  · exact e
  all_goals(rw[e] at ho; simp[ef] at ho)
 have h1:tx∉seen:=fun e=>(hS.seen tx).1 e h0
 unfold one;rw[if_pos bD,if_neg (by simp)]
 simp only[hp];rw[if_pos (by simp[h1])]
theorem xw{s:cQ}{tx:Int}(h:bZ s)(ho:eB s tx=1):∃k,aH tx s.2.2.2.2=some k:=by
 cases hp:aH tx s.2.2.2.2 with
 | some k=>exact⟨k,rfl⟩
 | none=>
  rw[j9 h] at ho;obtain⟨seen,hm⟩:=h.made;have hS:=jH hm;have hk:bp tx s.2.1=1:=by
   rcases hS.kinds tx with e | e | e | e
   · rw[e] at ho; simp[ef] at ho
   · exact e
   all_goals(rw[e] at ho; simp[ef] at ho)
  have:=j8.2 ((hS.held tx).2 hk);rw[hp] at this; cases this
theorem I_{s:cQ}{seen:List Int}{tx kind:Int}{k:Nat}(bD:bf (kind,tx,[])=true)(hk:kind≠1)(hp:aH tx s.2.2.2.2=some k)(zF:(gS (s.2.2.2.1,s.2.2.2.2,seen) (kind,tx,[]) k).length≤60):
 one (s.2.2.2.1,s.2.2.2.2,seen) (kind,tx,[])=some (gS (s.2.2.2.1,s.2.2.2.2,seen) (kind,tx,[]) k,s.2.2.2.2.take k++s.2.2.2.2.drop (k+1),seen):=by
 unfold one;rw[if_pos bD,if_neg hk];simp only[hp];rw[if_pos zF]
/-! ### what a shard does -/
def kz(tx:Int):Bool:=decide (1≤tx∧tx≤1000000)
def bC(l:List Rc):Nat:=(l.map fun r=>r.2.2.length).sum
def k7(s:cQ)(ops:List Od):Nat:=s.2.2.2.1.length+ops.length+bC s.2.2.2.2
def pX(s:cQ)(ops:List Od):Bool:=locked s.2.2.2.2 ops || !meets s.2.2.2.1 ops || decide (60<k7 s ops) || decide (300<s.2.1.length+s.2.2.2.2.length+2)
def gG(s:cQ)(tx:Int)(ops:List Od):cQ × Int:=
 if(kz tx && bM ops)=false then(s,5) else if eB s tx≠2 then(s,eB s tx) else if pX s ops=true then(s,2) else(written s (1,tx,ops),1)
def cR(s:cQ)(tx:Int)(yes:Bool):cQ × Bool:=
 if kz tx=false then(s,false) else if eB s tx=1 then(written s (if yes=true then 2 else 3,tx,[]),true) else if eB s tx=3 then(s,yes) else if eB s tx=4 then(s, !yes)
 else if yes=true∨300≤s.2.1.length+s.2.2.2.2.length then(s,false) else(written s (3,tx,[]),true)
def bI(s:cQ):cQ:=if bH s=true then(s.1,s.2.1,(s.2.1.length:Int),s.2.2.2.1,s.2.2.2.2) else s
def gf(s:cQ)(keep:Int):Nat:=(s.2.2.1+min (max keep 0) ((s.2.1.length:Int) - s.2.2.1)).toNat
def Ja(r:Option St):List Pr:=match r with | none=>[] | some t=>t.1
def Ew(r:Option St):List Rc:=match r with | none=>[] | some t=>t.2.1
def eQ(s:cQ)(keep:Int):cQ:=(s.1,s.2.1.take (gf s keep),(gf s keep:Int),Ja (replay (s.2.1.take (gf s keep))),Ew (replay (s.2.1.take (gf s keep))))
theorem Jc{s:cQ}(h:bZ s)(keep:Int):s.2.2.1.toNat≤gf s keep∧gf s keep≤s.2.1.length:=by
 have:=h.sure;unfold gf;omega
theorem yO{s:cQ}(h:bZ s)(k:Nat):∃t,replay (s.2.1.take k)=some t:=by
 obtain⟨seen,hm⟩:=h.made;unfold replay at hm ⊢;rw[←List.take_append_drop k s.2.1,jw] at hm;cases e:bA ([],[],[]) (s.2.1.take k) with
 | none=>rw[e] at hm; cases hm
 | some t=>exact⟨t,rfl⟩
theorem Jd{s t:St}{r:Rc}(h:one s r=some t)(l:List Rc):s.2.1.length≤t.2.1.length+1:=by
 unfold one at h
 split at h
 · split at h
   · split at h
     · cases h
     · cases h; simp; omega
   · split at h
     · split at h
       · cases h; simp
       · cases h
     · next k hp=>
       obtain⟨hk,_⟩:=hI hp
       split at h
       · cases h; simp; omega
       · cases h
 · cases h
theorem Ex:∀(l:List Rc) (s t:St),bA s l=some t→s.2.1.length≤t.2.1.length+l.length
 | [],s,t,e=>by cases e; simp
 | r::l,s,t,e=>by
  rw[bA] at e
  split at e
  · cases e
  · next u hu=>
    have h1:=Ex l u t e;have h2:=Jd hu l;simp; omega
theorem nQ{s:cQ}(h:bZ s)(keep:Int):bZ (eQ s keep):=by
 obtain⟨t,ht⟩:=yO h (gf s keep);obtain⟨h1,h2⟩:=Jc h keep;have hl:(s.2.1.take (gf s keep)).length=gf s keep:=by simp; omega
 refine⟨h.id,⟨t.2.2,?_⟩,?_,?_⟩
 · show replay (s.2.1.take (gf s keep))=some (Ja (replay (s.2.1.take (gf s keep))),Ew (replay (s.2.1.take (gf s keep))),t.2.2);rw[ht]; rfl
 · show 0≤(gf s keep:Int)∧(gf s keep:Int)≤((s.2.1.take (gf s keep)).length:Int);omega
 · show(s.2.1.take (gf s keep)).length+(Ew (replay (s.2.1.take (gf s keep)))).length≤300;rw[ht,hl];obtain⟨seen,hm⟩:=h.made;have jD:=hm;unfold replay at jD ht;rw[←List.take_append_drop (gf s keep) s.2.1,jw,ht] at jD;have:=Ex _ _ _ jD;have hr:=h.room;simp only[List.length_drop] at this;show gf s keep+t.2.1.length≤300;omega
end aZ
namespace lay
open Go Go.RowKit base av aN aZ
/-! ### types without slices -/
structure Flat {α:Type} (R:Rd α) (enc:α→List Value) (ok:α→Prop):Prop where
 own:∀ {w vs x F},R.own w vs x F↔vs=enc x∧ok x∧F=[]
 eZ:∀ {w vs x},R.eZ w vs x↔vs=enc x∧ok x
theorem aL:Flat int (fun x=>[.int .i64 x]) (fun x=>(Lit.int .i64 x).wf=true):=
 ⟨fun{_ _ _ _}=>⟨fun h=>⟨h.1.1,h.1.2,h.2⟩,fun h=>⟨⟨h.1,h.2.1⟩,h.2.2⟩⟩,fun{_ _ _}=>Iff.rfl⟩
theorem oO:Flat bool (fun x=>[.bool x]) (fun _=>True):=
 ⟨fun{_ _ _ _}=>⟨fun h=>⟨h.1,trivial,h.2⟩,fun h=>⟨h.1,h.2.2⟩⟩,fun{_ _ _}=>⟨fun h=>⟨h,trivial⟩,fun h=>h.1⟩⟩
theorem j_:Flat str (fun x=>[.string x]) (fun x=>x.size≤maxLen):=
 ⟨fun{_ _ _ _}=>⟨fun h=>⟨h.1.1,h.1.2,h.2⟩,fun h=>⟨⟨h.1,h.2.1⟩,h.2.2⟩⟩,fun{_ _ _}=>Iff.rfl⟩
theorem iT{α β:Type}{R:Rd α}{S:Rd β}{e1:α→List Value}{e2:β→List Value}{o1:α→Prop}{o2:β→Prop}(h1:Flat R e1 o1)(h2:Flat S e2 o2):Flat (both R S) (fun x=>e1 x.1++e2 x.2) (fun x=>o1 x.1∧o2 x.2):=by
 constructor
 · intro w vs x F;constructor
   · rintro⟨us,ts,F1,F2,rfl,rfl,h3,h4,_⟩;obtain⟨rfl,k1,rfl⟩:=h1.own.1 h3;obtain⟨rfl,k2,rfl⟩:=h2.own.1 h4;exact⟨rfl,⟨k1,k2⟩,rfl⟩
   · rintro⟨rfl,⟨k1,k2⟩,rfl⟩;exact⟨_,_,[],[],rfl,rfl,h1.own.2 ⟨rfl,k1,rfl⟩,h2.own.2 ⟨rfl,k2,rfl⟩,List.nodup_nil⟩
 · intro w vs x;constructor
   · rintro⟨us,ts,rfl,h3,h4⟩;obtain⟨rfl,k1⟩:=h1.eZ.1 h3;obtain⟨rfl,k2⟩:=h2.eZ.1 h4;exact⟨rfl,k1,k2⟩
   · rintro⟨rfl,k1,k2⟩;exact⟨_,_,rfl,h1.eZ.2 ⟨rfl,k1⟩,h2.eZ.2 ⟨rfl,k2⟩⟩
section
variable{α:Type}{R:Rd α}{enc:α→List Value}{ok:α→Prop}{ty:TypeId}{w:World}{v:Value}{l:List α}{q:dJ}{F:List Nat}
theorem Flat.parts(hR:Flat R enc ok)(h:bk ty R w v l q):q=l.map (fun x=>(enc x,[]))∧(∀x∈l,ok x)∧al q=[]∧cellsOf q=l.flatMap enc:=by
 have hl:=h.len;have e:q=l.map (fun x=>(enc x,[])):=by
  refine List.ext_getElem (by simp[hl]) fun i h1 h2=>?_
  have h3:=hR.own.1 (h.each i (by omega))
  rw[List.getElem_map];exact Prod.ext h3.1 h3.2.2
 refine⟨e,fun x hx=>?_,?_,?_⟩
 · obtain⟨i,hi,rfl⟩:=List.getElem_of_mem hx;exact(hR.own.1 (h.each i hi)).2.1
 · rw[e]; unfold al; rw[List.flatMap_map]; simp
 · rw[e]; unfold cellsOf; rw[List.flatMap_map]
theorem Flat.row(hR:Flat R enc ok)(h:bk ty R w v l q):w.ownsRow 0 ty R.size v l.length (l.flatMap enc):=by
 rw[←(hR.parts h).2.2.2]; exact h.row
theorem Flat.made(hR:Flat R enc ok)(hr:w.ownsRow 0 ty R.size v l.length (l.flatMap enc))(bD:∀x∈l,ok x):bk ty R w v l (l.map (fun x=>(enc x,[]))):=by
 have e1:cellsOf (l.map (fun x=>(enc x,([]:List Nat))))=l.flatMap enc:=by unfold cellsOf; rw[List.flatMap_map]
 have e2:al (l.map (fun x=>(enc x,([]:List Nat))))=[]:=by unfold al; rw[List.flatMap_map]; simp
 refine⟨by simp,by rw[e1]; exact hr,fun i hi=>?_,by rw[e2]; cases v.ownBlock <;> simp⟩
 simp only[List.getElem_map];exact hR.own.2 ⟨rfl,bD _ (List.getElem_mem _),rfl⟩
theorem Flat.slice(hR:Flat R enc ok):(lay.slice ty R).own w [v] l F↔w.ownsRow 0 ty R.size v l.length (l.flatMap enc)∧(∀x∈l,ok x)∧F=v.ownBlock.toList:=by
 constructor
 · rintro⟨v',q,e,rfl,h⟩;cases e;exact⟨hR.row h,(hR.parts h).2.1,by rw[(hR.parts h).2.2.1,List.append_nil]⟩
 · rintro⟨h1,h2,rfl⟩;have h3:=hR.made h1 h2;exact⟨v,_,rfl,by rw[(hR.parts h3).2.2.1,List.append_nil],h3⟩
end
/-! ### pairs, orders, whole numbers -/
def Nv:Rd Pr:=both str str
def R6:Rd Od:=both int (both str str)
theorem FO:Flat Nv (fun p=>[.string p.1,.string p.2]) small:=iT j_ j_
theorem f_:Flat R6 (fun o=>[.int .i64 o.1,.string o.2.1,.string o.2.2]) dN:=iT aL (iT j_ j_)
def Df:Rd (List Pr):=slice 100 Nv
def kc:Rd (List Od):=slice 121 R6
def pB:Rd (List Int):=slice 3 int
section
variable{w w':World}{a:Option Addr}{n cap:Nat}{F:List Nat}{v:Value}
theorem xy{l:List Pr}:Df.own w [.slice a n cap] l F↔ek w a n cap l∧F=(Value.slice a n cap).ownBlock.toList:=by
 unfold Df;rw[FO.slice];constructor
 · rintro⟨h1,h2,h3⟩;have e:l.length=n:=by
    rcases h1.2 with⟨e,h0⟩ | ⟨g,c,cur,e,_⟩
    · cases e; exact h0
    · cases e; rfl
   exact⟨⟨e,h2,by rw[←e] at h1 ⊢; exact h1⟩,h3⟩
 · rintro⟨⟨h1,h2,h3⟩,h4⟩;exact⟨by rw[h1]; exact h3,h2,h4⟩
theorem ik{l:List Od}:kc.own w [v] l F↔cD w 0 v l∧F=v.ownBlock.toList:=by
 unfold kc;rw[f_.slice];constructor
 · rintro⟨h1,h2,h3⟩;exact⟨⟨h2,h1⟩,h3⟩
 · rintro⟨⟨h1,h2⟩,h4⟩;exact⟨h2,h1,h4⟩
theorem kJ{l:List Od}:kc.eZ w [.slice a n cap] l↔dD w a n l∧n≤cap:=by
 constructor
 · rintro⟨a',n',c',e,hc,h1,h2,h3,h4⟩;cases e;refine⟨⟨h1,h2,fun p hp=>?_,fun h0=>?_⟩,hc⟩
   · obtain⟨vs,hv⟩:=h3 p hp;exact(f_.eZ.1 hv).2
   · obtain⟨b,off,e,hi⟩:=h4 h0;refine⟨b,off,e,fun i hl=>?_⟩
     obtain⟨vs,hs,cK⟩:=hi i hl;obtain⟨rfl,_⟩:=f_.eZ.1 hs;exact⟨cK 0 _ rfl,cK 1 _ rfl,cK 2 _ rfl⟩
 · rintro⟨⟨h1,h2,h3,h4⟩,hc⟩;refine⟨a,n,cap,rfl,hc,h1,h2,fun p hp=>⟨_,f_.eZ.2 ⟨rfl,h3 p hp⟩⟩,fun h0=>?_⟩
   obtain⟨b,off,e,hi⟩:=h4 h0;refine⟨b,off,e,fun i hl=>⟨_,f_.eZ.2 ⟨rfl,h3 _ (List.getElem_mem hl)⟩,fun j u hu=>?_⟩⟩
   obtain⟨c0,c1,c2⟩:=hi i hl
   match j,hu with
   | 0,hu=>cases hu; exact c0
   | 1,hu=>cases hu; exact c1
   | 2,hu=>cases hu; exact c2
end
/-! ### records -/
def R7:Rd Rc:=both int (both int kc)
def kK:Rd (List Rc):=slice 98 R7
def nR(v:Value)(hs:List Value):List Nat:=v.ownBlock.toList++hs.flatMap fun y=>y.ownBlock.toList
section
variable{w w':World}{a:Option Addr}{n cap:Nat}{F:List Nat}{v:Value}
theorem aA{hs:List Value}{k:Nat}:k∈nR v hs↔c_ v hs k:=by
 unfold nR c_;rw[List.mem_append,List.mem_flatMap];constructor
 · rintro(h | ⟨y,hy,h⟩)
   · exact .inl (by simpa using h)
   · exact .inr ⟨y,hy,by simpa using h⟩
 · rintro(h | ⟨y,hy,h⟩)
   · exact .inl (by simp[h])
   · exact .inr ⟨y,hy,by simp[h]⟩
theorem yP{vs:List Value}{r:Rc}:R7.own w vs r F↔∃y,vs=[.int .i64 r.1,.int .i64 r.2.1,y]∧(Lit.int .i64 r.1).wf=true∧(Lit.int .i64 r.2.1).wf=true∧cD w 0 y r.2.2∧F=y.ownBlock.toList:=by
 constructor
 · rintro⟨us,ts,F1,F2,rfl,rfl,h1,⟨Wj,Wk,F3,F4,rfl,rfl,h2,h3,_⟩,_⟩;obtain⟨rfl,k1,rfl⟩:=aL.own.1 h1;obtain⟨rfl,k2,rfl⟩:=aL.own.1 h2;obtain⟨a,c,q,rfl,_⟩:=lA h3;obtain⟨h4,rfl⟩:=ik.1 h3;exact⟨_,rfl,k1,k2,h4,rfl⟩
 · rintro⟨y,rfl,k1,k2,h4,rfl⟩;have hn:(y.ownBlock.toList).Nodup:=by cases y.ownBlock <;> simp
   exact⟨[_],[_,y],[],_,rfl,rfl,aL.own.2 ⟨rfl,k1,rfl⟩,⟨[_],[y],[],_,rfl,rfl,aL.own.2 ⟨rfl,k2,rfl⟩,ik.2 ⟨h4,rfl⟩,hn⟩,hn⟩
def oP(z:Rc × Value):List Value × List Nat:=([.int .i64 z.1.1,.int .i64 z.1.2.1,z.2],z.2.ownBlock.toList)
theorem sM(l:List Rc)(hs:List Value):cellsOf ((l.zip hs).map oP)=aX l hs:=by
 unfold cellsOf aX oP; rw[List.flatMap_map]
theorem jI(l:List Rc)(hs:List Value)(h:hs.length=l.length):al ((l.zip hs).map oP)=hs.flatMap fun y=>y.ownBlock.toList:=by
 unfold al oP;rw[List.flatMap_map]
 conv=>rhs; rw[←List.map_snd_zip (l₁:=l) (l₂:=hs) (by omega)]
 rw[List.flatMap_map]
theorem di{l:List Rc}:kK.own w [v] l F↔∃hs,bm w 0 v l hs∧F=nR v hs:=by
 constructor
 · rintro⟨v',q,e,rfl,h⟩;cases e;have hl:=h.len;obtain⟨hs,xA,hq⟩:∃hs:List Value,hs.length=l.length∧∀i (h1:i<l.length) (h2:i<hs.length),(q[i]'(by omega)).1=[.int .i64 l[i].1,.int .i64 l[i].2.1,hs[i]]:=by
    refine⟨q.map fun p=>p.1.getD 2 (.slice none 0 0),by simp[hl],fun i h1 h2=>?_⟩
    obtain⟨y,e,_⟩:=yP.1 (h.each i h1);rw[List.getElem_map,e]; rfl
   have sk:∀i (h1:i<l.length),h_ l[i]∧cD w 0 (hs[i]'(by omega)) l[i].2.2∧(q[i]'(by omega)).2=(hs[i]'(by omega)).ownBlock.toList:=fun i h1=>by
    obtain⟨y,e,k1,k2,k3,k4⟩:=yP.1 (h.each i h1);have e2:=hq i h1 (by omega)
    rw[e] at e2;obtain rfl:y=hs[i]'(by omega):=by simpa using e2
    exact⟨⟨k1,k2,k3.1⟩,k3,k4⟩
   have eq:q=(l.zip hs).map oP:=by
    refine List.ext_getElem (by simp[hl,xA]) fun i h1 h2=>?_
    rw[List.getElem_map,List.getElem_zip];exact Prod.ext (hq i (by omega) (by omega)) (sk i (by omega)).2.2
   have dW:=h.nodup;rw[eq,jI l hs xA] at dW;obtain⟨n1,n2,n3⟩:=aR dW;refine⟨hs,⟨xA,fun x hx=>?_,by rw[←sM,←eq]; exact h.row,fun i hi=>(sk i hi).2.1,?_,fun k hk y hy e=>?_⟩,?_⟩
   · obtain⟨i,hi,rfl⟩:=List.getElem_of_mem hx;exact(sk i hi).1
   · have:=(List.pairwise_flatMap.1 n2).2;refine this.imp fun{a b} R8=>?_
     cases ha:a.ownBlock with
     | none=>exact .inl rfl
     | some k=>
      right;intro e;exact R8 k (by simp[ha]) k (by simp[←e]) rfl
   · exact n3 k (by simp[hk]) (List.mem_flatMap.2 ⟨y,hy,by simp[e]⟩)
   · unfold nR; rw[eq,jI l hs xA]
 · rintro⟨hs,h,rfl⟩;have xA:=h.len;refine⟨v,(l.zip hs).map oP,rfl,by rw[jI l hs xA]; rfl,⟨by simp[xA],by rw[sM]; exact h.row,fun i hi=>?_,?_⟩⟩
   · simp only[List.getElem_map,List.getElem_zip];have eW:=h.sm _ (List.getElem_mem hi);exact yP.2 ⟨_,rfl,eW.1,eW.2.1,h.ops i hi,rfl⟩
   · rw[jI l hs xA];refine bL (by cases v.ownBlock <;> simp) ?_ (fun k hk gY=>?_)
     · refine List.pairwise_flatMap.2 ⟨fun a _=>by cases a.ownBlock <;> simp,h.apart.imp fun{a b} R8 x hx y hy e=>?_⟩
       have ha:a.ownBlock=some x:=by simpa using hx
       have hb:b.ownBlock=some y:=by simpa using hy
       rcases R8 with h1 | h1
       · rw[ha] at h1; cases h1
       · exact h1 (by rw[ha,hb,e])
     · obtain⟨y,hy,e⟩:=List.mem_flatMap.1 gY;exact h.out k (by simpa using hk) y hy (by simpa using e)
end
/-! ### shards -/
def Je:Rd cQ:=both int (both kK (both int (both Df kK)))
def aK(id sure:Int)(la:Option Addr)(ln lc:Nat)(ma:Option Addr)(mn mc:Nat)(ha:Option Addr)(hn hc:Nat):List Value:=[.int .i64 id,.slice la ln lc,.int .i64 sure,.slice ma mn mc,.slice ha hn hc]
structure eK (w:World) (la:Option Addr) (ln lc:Nat) (ma:Option Addr) (mn mc:Nat) (ha:Option Addr) (hn hc:Nat) (s:cQ):Prop where
 id:(Lit.int .i64 s.1).wf=true
 sure:(Lit.int .i64 s.2.2.1).wf=true
 log:rs w la ln s.2.1
 map:lq w ma mn s.2.2.2.1
 held:rs w ha hn s.2.2.2.2
 lc:ln≤lc
 mc:mn≤mc
 hc:hn≤hc
section
variable{w w':World}{la ma ha:Option Addr}{ln lc mn mc hn hc:Nat}{s:cQ}{vs:List Value}{F:List Nat}
theorem eK.below(h:eK w la ln lc ma mn mc ha hn hc s)(hb:Below w.heap.size w w'):eK w' la ln lc ma mn mc ha hn hc s:=
 ⟨h.id,h.sure,h.log.below hb,h.map.below hb,h.held.below hb,h.lc,h.mc,h.hc⟩
structure cY (w:World) (la:Option Addr) (ln lc:Nat) (ma:Option Addr) (mn mc:Nat) (ha:Option Addr) (hn hc:Nat) (s:cQ) (F:List Nat):Prop where
 id:(Lit.int .i64 s.1).wf=true
 sure:(Lit.int .i64 s.2.2.1).wf=true
 log:∃hl,bm w 0 (.slice la ln lc) s.2.1 hl∧∃hh,bm w 0 (.slice ha hn hc) s.2.2.2.2 hh∧F=nR (.slice la ln lc) hl++((Value.slice ma mn mc).ownBlock.toList++nR (.slice ha hn hc) hh)
 map:ek w ma mn mc s.2.2.2.1
 nodup:F.Nodup
theorem FP:Je.own w vs s F↔∃la ln lc ma mn mc ha hn hc,vs=aK s.1 s.2.2.1 la ln lc ma mn mc ha hn hc∧cY w la ln lc ma mn mc ha hn hc s F:=by
 constructor
 · rintro⟨u1,t1,F1,G1,rfl,rfl,h1,⟨u2,t2,F2,G2,rfl,rfl,h2,⟨u3,t3,F3,G3,rfl,rfl,h3,⟨u4,t4,F4,G4,rfl,rfl,h4,h5,_⟩,_⟩,_⟩,dW⟩;obtain⟨rfl,k1,rfl⟩:=aL.own.1 h1;obtain⟨rfl,k3,rfl⟩:=aL.own.1 h3;obtain⟨la,lc,q2,rfl,_⟩:=lA h2;obtain⟨ma,mc,q4,rfl,_⟩:=lA h4;obtain⟨ha,hc,q5,rfl,_⟩:=lA h5;obtain⟨hl,e2,rfl⟩:=di.1 h2;obtain⟨e4,rfl⟩:=xy.1 h4;obtain⟨hh,e5,rfl⟩:=di.1 h5;exact⟨la,_,lc,ma,_,mc,ha,_,hc,rfl,k1,k3,⟨hl,e2,hh,e5,rfl⟩,e4,dW⟩
 · rintro⟨la,ln,lc,ma,mn,mc,ha,hn,hc,rfl,h⟩;obtain⟨hl,e2,hh,e5,rfl⟩:=h.log;have dW:=h.nodup;have R9:=(aR dW).2.1;exact⟨[_],[_,_,_,_],[],_,rfl,rfl,aL.own.2 ⟨rfl,h.id,rfl⟩,⟨[_],[_,_,_],_,_,rfl,rfl,di.2 ⟨hl,e2,rfl⟩,⟨[_],[_,_],[],_,rfl,rfl,aL.own.2 ⟨rfl,h.sure,rfl⟩,⟨[_],[_],_,_,rfl,rfl,xy.2 ⟨h.map,rfl⟩,di.2 ⟨hh,e5,rfl⟩,R9⟩,R9⟩,dW⟩,dW⟩
theorem ek.room{l:List Pr}{a:Option Addr}{n cap:Nat}(h:ek w a n cap l):n≤cap∧cap≤maxLen:=by
 rcases h.shape with⟨rfl,rfl,rfl,_⟩ | ⟨g,rfl,h⟩
 · exact⟨Nat.le_refl _,Nat.zero_le _⟩
 · exact bJ.cases h
theorem cY.eZ(h:cY w la ln lc ma mn mc ha hn hc s F):eK w la ln lc ma mn mc ha hn hc s:=by
 obtain⟨hl,e2,hh,e5,rfl⟩:=h.log;exact⟨h.id,h.sure,e2.sl,h.map.sl,e5.sl,e2.room.1,(ek.room h.map).1,e5.room.1⟩
theorem cY.lt(h:cY w la ln lc ma mn mc ha hn hc s F):∀k∈F,k<w.heap.size:=
 Je.dv (FP.2 ⟨_,_,_,_,_,_,_,_,_,rfl,h⟩)
theorem cY.keep(h:cY w la ln lc ma mn mc ha hn hc s F)(hk:∀k∈F,w'.heap[k]? =w.heap[k]?):cY w' la ln lc ma mn mc ha hn hc s F:=by
 obtain⟨hl,e2,hh,e5,rfl⟩:=h.log;refine⟨h.id,h.sure,⟨hl,e2.aY (fun k e=>hk k (List.mem_append.2 (.inl (aA.2 e)))),hh,e5.aY (fun k e=>hk k (List.mem_append.2 (.inr (List.mem_append.2 (.inr (aA.2 e)))))),rfl⟩,h.map.bN (fun k e=>hk k (List.mem_append.2 (.inr (List.mem_append.2 (.inl (by simp[e])))))),h.nodup⟩
theorem cY.below(h:cY w la ln lc ma mn mc ha hn hc s F)(hb:Below w.heap.size w w'):cY w' la ln lc ma mn mc ha hn hc s F:=h.keep fun k hk=>hb.block k (h.lt k hk)
theorem cY.frame{G:List Nat}(h:cY w la ln lc ma mn mc ha hn hc s F)(hf:Frame G w w')(hd:∀k∈F,k∉G):cY w' la ln lc ma mn mc ha hn hc s F:=h.keep fun k hk=>hf.block k (h.lt k hk) (hd k hk)
end
end lay
namespace aZ
open Go Go.RowKit base av aN
def ga(N:Prop)(w0:World)(F0:List Nat)(X:Nat)(r:Option St)(e:Ending)(w':World):Prop:=
 match r with
 | none=>e=.returned (.bool false)∧lay.Frame (X::F0) w0 w'
 | some t=>e=.returned (.bool true)∧∃am nm cm ah ch vs hs,Kept N w0 F0 w' X am nm cm ah ch vs t hs
def uM(N:Prop)(w0:World)(F0:List Nat)(X:Nat)(t:St)(e:Ending)(w':World):Prop:=e=.returned (.bool false)∧∃am nm cm ah ch vs hs,Kept N w0 F0 w' X am nm cm ah ch vs t hs
theorem uM.none{N:Prop}{w0 w':World}{F0:List Nat}{X:Nat}{t:St}{e:Ending}(h:uM N w0 F0 X t e w'):ga N w0 F0 X none e w':=by
 obtain⟨h1,_,_,_,_,_,_,_,hK⟩:=h;exact⟨h1,hK.fr⟩
theorem L8(N:Prop)(w0:World)(F0:List Nat)(w:World)(X:Nat)(am:Option Addr)(nm cm:Nat)(ah:Option Addr)(ch:Nat)(vs:Value)(s:St)(hs:List Value)(kind tx:Int)(a:Option Addr)(len cap:Nat)(ops:List Od)
 (hK:Kept N w0 F0 w X am nm cm ah ch vs s hs) (dE:dD w a len ops) (dG:∀p∈ops,p.2.1.size≤1099511627776) (bD:bf (kind,tx,ops)=false):
 Calls Tryz.prog 98 #[.pointer (some ⟨X,0,none⟩),.agg #[.int .i64 kind,.int .i64 tx,.slice a len cap]] w (ga N w0 F0 X none):=by
 obtain⟨V,hV⟩:∃V,V=w.alloc (.cells #[.int .i64 kind,.int .i64 tx,.slice a len cap] 98):=⟨_,rfl⟩;have fb:Below w.heap.size w V:=by rw[hV]; exact(Below.refl _ _).alloc (Nat.le_refl _) _
 have bt:da w.heap.size kind tx (.slice a len cap) V:=by rw[hV]; exact cd _ _ _ _
 have gK:=hK.below fb;have iN:=gK.box.lt;have lS:=bt.lt;have y1:=last.On.cell (B:=V.heap.size) gK.box.cells.2.1 iN;have y2:=last.On.cell (B:=V.heap.size) bt.cells.2.1 lS;have lv:∀x9:last.On V.heap.size V,Calls Tryz.prog 137 #[.slice ah s.2.1.length ch,.int .i64 tx] x9.w fun e w'=>e=.returned (.int .i64 (fw (aH tx s.2.1)))∧∃y9:last.On V.heap.size V,w'=y9.w:=fun x9=>last.Calls.on x9 (Nat.le_refl _) ((ed _ _ ch s.2.1 tx x9.w (gK.held.below x9.2).sl).mono (fun e w' h=>⟨h.1,h.2 ▸ Below.refl _ _⟩))
 have a_:=last.On.gV V.heap.size V;have HV:=Hid.mk' hV.symm;clear hV;go_enter Tryz.func98,Tryz.ntmps98;go_wp2_with fail;rw[HV.out];refine last.ai V.heap.size (by kernel_rfl) (by kernel_rfl) ?_
 repeat(go_big_quiet_step ((go_at_call 137; with_reducible exact lv _)))
 refine wpQuiet_nil ?_;intro w1 bx;obtain⟨x1,bx⟩:=bx;have aT:Below V.heap.size V w1:=by rw[bx]; exact x1.2
 clear bx x1;have dx:=bt.below aT;have wD:=gK.below aT;have eX:=Hid.mk' (dR kind tx a len cap ops w1 ((dE.below fb).below aT) dG);obtain⟨d0,d1,d2⟩:=dx.cells;clear y1 y2 lv a_;go_wp2_with fail;refine eX.out.mono ?_;rintro e w2 ⟨rfl,aU⟩;rw[bD];have ff:=wD.below aU;go_wp2_with fail;go_ret;exact⟨rfl,ff.fr⟩
end aZ
namespace aZ
open Go Go.RowKit base av aN
theorem L9(N:Prop)(w0:World)(F0:List Nat)(w:World)(X:Nat)(am:Option Addr)(nm cm:Nat)(ah:Option Addr)(ch:Nat)(vs:Value)(s:St)(hs:List Value)(tx:Int)(a:Option Addr)(len cap:Nat)(ops:List Od)
 (hK:Kept N w0 F0 w X am nm cm ah ch vs s hs) (dE:dD w a len ops) (dG:∀p∈ops,p.2.1.size≤1099511627776) (bD:bf (1,tx,ops)=true) (h1:decide (tx∈s.2.2)=true):
 Calls Tryz.prog 98 #[.pointer (some ⟨X,0,none⟩),.agg #[.int .i64 1,.int .i64 tx,.slice a len cap]] w (ga N w0 F0 X none):=by
 obtain⟨sa,sc,jC,yQ⟩:=hK.seen.sl;subst jC;obtain⟨V,hV⟩:∃V,V=w.alloc (.cells #[.int .i64 1,.int .i64 tx,.slice a len cap] 98):=⟨_,rfl⟩;have fb:Below w.heap.size w V:=by rw[hV]; exact(Below.refl _ _).alloc (Nat.le_refl _) _
 have bt:da w.heap.size 1 tx (.slice a len cap) V:=by rw[hV]; exact cd _ _ _ _
 have gK:=hK.below fb;have iN:=gK.box.lt;have lS:=bt.lt;have y1:=last.On.cell (B:=V.heap.size) gK.box.cells.2.1 iN;have y2:=last.On.cell (B:=V.heap.size) bt.cells.2.1 lS;have lv:∀x9:last.On V.heap.size V,Calls Tryz.prog 137 #[.slice ah s.2.1.length ch,.int .i64 tx] x9.w fun e w'=>e=.returned (.int .i64 (fw (aH tx s.2.1)))∧∃y9:last.On V.heap.size V,w'=y9.w:=fun x9=>last.Calls.on x9 (Nat.le_refl _) ((ed _ _ ch s.2.1 tx x9.w (gK.held.below x9.2).sl).mono (fun e w' h=>⟨h.1,h.2 ▸ Below.refl _ _⟩))
 have a_:=last.On.gV V.heap.size V;have HV:=Hid.mk' hV.symm;clear hV;generalize hP:fw (aH tx s.2.1)=P at lv;go_enter Tryz.func98,Tryz.ntmps98;go_wp2_with fail;rw[HV.out];refine last.ai V.heap.size (by kernel_rfl) (by kernel_rfl) ?_
 repeat(go_big_quiet_step ((go_at_call 137; with_reducible exact lv _)))
 refine wpQuiet_nil ?_;intro w1 bx;obtain⟨x1,bx⟩:=bx;have aT:Below V.heap.size V w1:=by rw[bx]; exact x1.2
 clear bx x1;have dx:=bt.below aT;have wD:=gK.below aT;have eX:=Hid.mk' (dR 1 tx a len cap ops w1 ((dE.below fb).below aT) dG);obtain⟨d0,d1,d2⟩:=dx.cells;clear y1 y2 lv a_;go_wp2_with fail;refine eX.out.mono ?_;rintro e w2 ⟨rfl,aU⟩;rw[bD];have ff:=wD.below aU;have bV:=dx.below aU;have ng:=((dE.below fb).below aT).below aU;have pg:=((yQ.below fb).below aT).below aU;clear d0 d1 d2 eX HV dx bt gK iN lS;obtain⟨d0,d1,d2⟩:=bV.cells;have eY:=ff.box.lt;have dn:=bV.lt;have o0:=last.On.cell (B:=w2.heap.size) ff.box.cells.1 eY;have o1:=last.On.cell (B:=w2.heap.size) ff.box.cells.2.1 eY;have o2:=last.On.cell (B:=w2.heap.size) ff.box.cells.2.2 eY;have o3:=last.On.cell (B:=w2.heap.size) bV.cells.1 dn;have o4:=last.On.cell (B:=w2.heap.size) bV.cells.2.1 dn;have o5:=last.On.cell (B:=w2.heap.size) bV.cells.2.2 dn
 have ke:=last.On.gV w2.heap.size w2;have jo:∀x9:last.On w2.heap.size w2,Calls Tryz.prog 102 #[.slice sa s.2.2.length sc,.int .i64 tx] x9.w fun e w'=>e=.returned (.bool (decide (tx∈s.2.2)))∧∃y9:last.On w2.heap.size w2,w'=y9.w:=fun x9=>last.Calls.on x9 (Nat.le_refl _) ((cI sa s.2.2.length sc s.2.2 tx x9.w (pg.below x9.2)).mono (fun e w' h=>⟨h.1,h.2 ▸ Below.refl _ _⟩))
 have Ey:∀x9:last.On w2.heap.size w2,Calls Tryz.prog 139 #[.slice ah s.2.1.length ch,.slice a len cap] x9.w fun e w'=>e=.returned (.bool (locked s.2.1 ops))∧∃y9:last.On w2.heap.size w2,w'=y9.w:=fun x9=>last.Calls.on x9 (Nat.le_refl _) (jm _ _ ch s.2.1 a len cap ops x9.w (ff.held.below x9.2).sl (ng.below x9.2))
 have FQ:∀x9:last.On w2.heap.size w2,Calls Tryz.prog 140 #[.slice am nm cm,.slice a len cap] x9.w fun e w'=>e=.returned (.bool (meets s.1 ops))∧∃y9:last.On w2.heap.size w2,w'=y9.w:=fun x9=>last.Calls.on x9 (Nat.le_refl _) (j4 _ nm cm s.1 a len cap ops x9.w (ff.m.below x9.2).sl (ng.below x9.2))
 rw[h1] at jo;go_wp2_with fail;refine last.ai w2.heap.size (by kernel_rfl) (by kernel_rfl) ?_
 repeat(go_big_quiet_step (first | (go_at_call 102; with_reducible exact jo _) | (go_at_call 139; with_reducible exact Ey _) | (go_at_call 140; with_reducible exact FQ _)))
 refine wpQuiet_nil ?_;intro w5 bP;obtain⟨x5,bP⟩:=bP;have de:Below w2.heap.size w2 w5:=by rw[bP]; exact x5.2
 clear bP x5 ke o0 o1 o2 o3 o4 o5 jo Ey FQ d0 d1 d2;have rO:=ff.below de;go_wp2_with fail;go_ret;exact⟨rfl,rO.fr⟩
theorem Dg(N:Prop)(w0:World)(F0:List Nat)(w:World)(X:Nat)(am:Option Addr)(nm cm:Nat)(ah:Option Addr)(ch:Nat)(vs:Value)(s:St)(hs:List Value)(tx:Int)(a:Option Addr)(len cap:Nat)(ops:List Od)
 (hK:Kept N w0 F0 w X am nm cm ah ch vs s hs) (dE:dD w a len ops) (dG:∀p∈ops,p.2.1.size≤1099511627776) (bD:bf (1,tx,ops)=true) (h1:decide (tx∈s.2.2)=false) (h2:locked s.2.1 ops=true):
 Calls Tryz.prog 98 #[.pointer (some ⟨X,0,none⟩),.agg #[.int .i64 1,.int .i64 tx,.slice a len cap]] w (ga N w0 F0 X none):=by
 obtain⟨sa,sc,jC,yQ⟩:=hK.seen.sl;subst jC;obtain⟨V,hV⟩:∃V,V=w.alloc (.cells #[.int .i64 1,.int .i64 tx,.slice a len cap] 98):=⟨_,rfl⟩;have fb:Below w.heap.size w V:=by rw[hV]; exact(Below.refl _ _).alloc (Nat.le_refl _) _
 have bt:da w.heap.size 1 tx (.slice a len cap) V:=by rw[hV]; exact cd _ _ _ _
 have gK:=hK.below fb;have iN:=gK.box.lt;have lS:=bt.lt;have y1:=last.On.cell (B:=V.heap.size) gK.box.cells.2.1 iN;have y2:=last.On.cell (B:=V.heap.size) bt.cells.2.1 lS;have lv:∀x9:last.On V.heap.size V,Calls Tryz.prog 137 #[.slice ah s.2.1.length ch,.int .i64 tx] x9.w fun e w'=>e=.returned (.int .i64 (fw (aH tx s.2.1)))∧∃y9:last.On V.heap.size V,w'=y9.w:=fun x9=>last.Calls.on x9 (Nat.le_refl _) ((ed _ _ ch s.2.1 tx x9.w (gK.held.below x9.2).sl).mono (fun e w' h=>⟨h.1,h.2 ▸ Below.refl _ _⟩))
 have a_:=last.On.gV V.heap.size V;have HV:=Hid.mk' hV.symm;clear hV;generalize hP:fw (aH tx s.2.1)=P at lv;go_enter Tryz.func98,Tryz.ntmps98;go_wp2_with fail;rw[HV.out];refine last.ai V.heap.size (by kernel_rfl) (by kernel_rfl) ?_
 repeat(go_big_quiet_step ((go_at_call 137; with_reducible exact lv _)))
 refine wpQuiet_nil ?_;intro w1 bx;obtain⟨x1,bx⟩:=bx;have aT:Below V.heap.size V w1:=by rw[bx]; exact x1.2
 clear bx x1;have dx:=bt.below aT;have wD:=gK.below aT;have eX:=Hid.mk' (dR 1 tx a len cap ops w1 ((dE.below fb).below aT) dG);obtain⟨d0,d1,d2⟩:=dx.cells;clear y1 y2 lv a_;go_wp2_with fail;refine eX.out.mono ?_;rintro e w2 ⟨rfl,aU⟩;rw[bD];have ff:=wD.below aU;have bV:=dx.below aU;have ng:=((dE.below fb).below aT).below aU;have pg:=((yQ.below fb).below aT).below aU;clear d0 d1 d2 eX HV dx bt gK iN lS;obtain⟨d0,d1,d2⟩:=bV.cells;have eY:=ff.box.lt;have dn:=bV.lt;have o0:=last.On.cell (B:=w2.heap.size) ff.box.cells.1 eY;have o1:=last.On.cell (B:=w2.heap.size) ff.box.cells.2.1 eY;have o2:=last.On.cell (B:=w2.heap.size) ff.box.cells.2.2 eY;have o3:=last.On.cell (B:=w2.heap.size) bV.cells.1 dn;have o4:=last.On.cell (B:=w2.heap.size) bV.cells.2.1 dn;have o5:=last.On.cell (B:=w2.heap.size) bV.cells.2.2 dn
 have ke:=last.On.gV w2.heap.size w2;have jo:∀x9:last.On w2.heap.size w2,Calls Tryz.prog 102 #[.slice sa s.2.2.length sc,.int .i64 tx] x9.w fun e w'=>e=.returned (.bool (decide (tx∈s.2.2)))∧∃y9:last.On w2.heap.size w2,w'=y9.w:=fun x9=>last.Calls.on x9 (Nat.le_refl _) ((cI sa s.2.2.length sc s.2.2 tx x9.w (pg.below x9.2)).mono (fun e w' h=>⟨h.1,h.2 ▸ Below.refl _ _⟩))
 have Ey:∀x9:last.On w2.heap.size w2,Calls Tryz.prog 139 #[.slice ah s.2.1.length ch,.slice a len cap] x9.w fun e w'=>e=.returned (.bool (locked s.2.1 ops))∧∃y9:last.On w2.heap.size w2,w'=y9.w:=fun x9=>last.Calls.on x9 (Nat.le_refl _) (jm _ _ ch s.2.1 a len cap ops x9.w (ff.held.below x9.2).sl (ng.below x9.2))
 have FQ:∀x9:last.On w2.heap.size w2,Calls Tryz.prog 140 #[.slice am nm cm,.slice a len cap] x9.w fun e w'=>e=.returned (.bool (meets s.1 ops))∧∃y9:last.On w2.heap.size w2,w'=y9.w:=fun x9=>last.Calls.on x9 (Nat.le_refl _) (j4 _ nm cm s.1 a len cap ops x9.w (ff.m.below x9.2).sl (ng.below x9.2))
 rw[h1] at jo;rw[h2] at Ey;go_wp2_with fail;refine last.ai w2.heap.size (by kernel_rfl) (by kernel_rfl) ?_
 repeat(go_big_quiet_step (first | (go_at_call 102; with_reducible exact jo _) | (go_at_call 139; with_reducible exact Ey _) | (go_at_call 140; with_reducible exact FQ _)))
 refine wpQuiet_nil ?_;intro w5 bP;obtain⟨x5,bP⟩:=bP;have de:Below w2.heap.size w2 w5:=by rw[bP]; exact x5.2
 clear bP x5 ke o0 o1 o2 o3 o4 o5 jo Ey FQ d0 d1 d2;have rO:=ff.below de;go_wp2_with fail;go_ret;exact⟨rfl,rO.fr⟩
theorem FT(N:Prop)(w0:World)(F0:List Nat)(w:World)(X:Nat)(am:Option Addr)(nm cm:Nat)(ah:Option Addr)(ch:Nat)(vs:Value)(s:St)(hs:List Value)(tx:Int)(a:Option Addr)(len cap:Nat)(ops:List Od)
 (hK:Kept N w0 F0 w X am nm cm ah ch vs s hs) (dE:dD w a len ops) (dG:∀p∈ops,p.2.1.size≤1099511627776) (bD:bf (1,tx,ops)=true) (h1:decide (tx∈s.2.2)=false) (h2:locked s.2.1 ops=false) (h3:meets s.1 ops=false):
 Calls Tryz.prog 98 #[.pointer (some ⟨X,0,none⟩),.agg #[.int .i64 1,.int .i64 tx,.slice a len cap]] w (ga N w0 F0 X none):=by
 obtain⟨sa,sc,jC,yQ⟩:=hK.seen.sl;subst jC;obtain⟨V,hV⟩:∃V,V=w.alloc (.cells #[.int .i64 1,.int .i64 tx,.slice a len cap] 98):=⟨_,rfl⟩;have fb:Below w.heap.size w V:=by rw[hV]; exact(Below.refl _ _).alloc (Nat.le_refl _) _
 have bt:da w.heap.size 1 tx (.slice a len cap) V:=by rw[hV]; exact cd _ _ _ _
 have gK:=hK.below fb;have iN:=gK.box.lt;have lS:=bt.lt;have y1:=last.On.cell (B:=V.heap.size) gK.box.cells.2.1 iN;have y2:=last.On.cell (B:=V.heap.size) bt.cells.2.1 lS;have lv:∀x9:last.On V.heap.size V,Calls Tryz.prog 137 #[.slice ah s.2.1.length ch,.int .i64 tx] x9.w fun e w'=>e=.returned (.int .i64 (fw (aH tx s.2.1)))∧∃y9:last.On V.heap.size V,w'=y9.w:=fun x9=>last.Calls.on x9 (Nat.le_refl _) ((ed _ _ ch s.2.1 tx x9.w (gK.held.below x9.2).sl).mono (fun e w' h=>⟨h.1,h.2 ▸ Below.refl _ _⟩))
 have a_:=last.On.gV V.heap.size V;have HV:=Hid.mk' hV.symm;clear hV;generalize hP:fw (aH tx s.2.1)=P at lv;go_enter Tryz.func98,Tryz.ntmps98;go_wp2_with fail;rw[HV.out];refine last.ai V.heap.size (by kernel_rfl) (by kernel_rfl) ?_
 repeat(go_big_quiet_step ((go_at_call 137; with_reducible exact lv _)))
 refine wpQuiet_nil ?_;intro w1 bx;obtain⟨x1,bx⟩:=bx;have aT:Below V.heap.size V w1:=by rw[bx]; exact x1.2
 clear bx x1;have dx:=bt.below aT;have wD:=gK.below aT;have eX:=Hid.mk' (dR 1 tx a len cap ops w1 ((dE.below fb).below aT) dG);obtain⟨d0,d1,d2⟩:=dx.cells;clear y1 y2 lv a_;go_wp2_with fail;refine eX.out.mono ?_;rintro e w2 ⟨rfl,aU⟩;rw[bD];have ff:=wD.below aU;have bV:=dx.below aU;have ng:=((dE.below fb).below aT).below aU;have pg:=((yQ.below fb).below aT).below aU;clear d0 d1 d2 eX HV dx bt gK iN lS;obtain⟨d0,d1,d2⟩:=bV.cells;have eY:=ff.box.lt;have dn:=bV.lt;have o0:=last.On.cell (B:=w2.heap.size) ff.box.cells.1 eY;have o1:=last.On.cell (B:=w2.heap.size) ff.box.cells.2.1 eY;have o2:=last.On.cell (B:=w2.heap.size) ff.box.cells.2.2 eY;have o3:=last.On.cell (B:=w2.heap.size) bV.cells.1 dn;have o4:=last.On.cell (B:=w2.heap.size) bV.cells.2.1 dn;have o5:=last.On.cell (B:=w2.heap.size) bV.cells.2.2 dn
 have ke:=last.On.gV w2.heap.size w2;have jo:∀x9:last.On w2.heap.size w2,Calls Tryz.prog 102 #[.slice sa s.2.2.length sc,.int .i64 tx] x9.w fun e w'=>e=.returned (.bool (decide (tx∈s.2.2)))∧∃y9:last.On w2.heap.size w2,w'=y9.w:=fun x9=>last.Calls.on x9 (Nat.le_refl _) ((cI sa s.2.2.length sc s.2.2 tx x9.w (pg.below x9.2)).mono (fun e w' h=>⟨h.1,h.2 ▸ Below.refl _ _⟩))
 have Ey:∀x9:last.On w2.heap.size w2,Calls Tryz.prog 139 #[.slice ah s.2.1.length ch,.slice a len cap] x9.w fun e w'=>e=.returned (.bool (locked s.2.1 ops))∧∃y9:last.On w2.heap.size w2,w'=y9.w:=fun x9=>last.Calls.on x9 (Nat.le_refl _) (jm _ _ ch s.2.1 a len cap ops x9.w (ff.held.below x9.2).sl (ng.below x9.2))
 have FQ:∀x9:last.On w2.heap.size w2,Calls Tryz.prog 140 #[.slice am nm cm,.slice a len cap] x9.w fun e w'=>e=.returned (.bool (meets s.1 ops))∧∃y9:last.On w2.heap.size w2,w'=y9.w:=fun x9=>last.Calls.on x9 (Nat.le_refl _) (j4 _ nm cm s.1 a len cap ops x9.w (ff.m.below x9.2).sl (ng.below x9.2))
 rw[h1] at jo;rw[h2] at Ey;rw[h3] at FQ;go_wp2_with fail;refine last.ai w2.heap.size (by kernel_rfl) (by kernel_rfl) ?_
 repeat(go_big_quiet_step (first | (go_at_call 102; with_reducible exact jo _) | (go_at_call 139; with_reducible exact Ey _) | (go_at_call 140; with_reducible exact FQ _)))
 refine wpQuiet_nil ?_;intro w5 bP;obtain⟨x5,bP⟩:=bP;have de:Below w2.heap.size w2 w5:=by rw[bP]; exact x5.2
 clear bP x5 ke o0 o1 o2 o3 o4 o5 jo Ey FQ d0 d1 d2;have rO:=ff.below de;go_wp2_with fail;go_ret;exact⟨rfl,rO.fr⟩
end aZ
end Go.Proofs.YtmibabclefgljaaGreat
