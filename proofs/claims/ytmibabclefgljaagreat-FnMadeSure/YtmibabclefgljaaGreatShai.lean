/- ShardMath LayR RecZd RecZe -/
import Derived.Test.YtmibabclefgljaaGreatShab
import Derived.Test.YtmibabclefgljaaGreatShaa
import Derived.Test.YtmibabclefgljaaGreatShah
set_option linter.unusedVariables false
set_option linter.unusedSimpArgs false
set_option maxRecDepth 100000
set_option maxHeartbeats 4000000
namespace Go.Proofs.YtmibabclefgljaaGreat
namespace bm
open Go Go.RowKit base aE aX
abbrev de:=Int × List Rc × Int × List Pr × List Rc
def bV(s:de):Bool:=
  decide (0≤s.1∧s.1≤7) && decide (s.2.1.length≤300) && decide (0≤s.2.2.1∧s.2.2.1≤(s.2.1.length:Int)) &&
    (match replay s.2.1 with
     | none=>false
     | some t=>decide (t.1=s.2.2.2.1) && decide (t.2.1=s.2.2.2.2) && decide (s.2.1.length+t.2.1.length≤300))
structure cD (s:de):Prop where
 id:0≤s.1∧s.1≤7
 made:∃seen,replay s.2.1=some (s.2.2.2.1,s.2.2.2.2,seen)
 sure:0≤s.2.2.1∧s.2.2.1≤(s.2.1.length:Int)
 room:s.2.1.length+s.2.2.2.2.length≤300
theorem nP(s:de):bV s=true↔cD s:=by
 unfold bV;constructor
 · intro h;simp only[Bool.and_eq_true,decide_eq_true_iff] at h;obtain⟨⟨⟨h1,h2⟩,h3⟩,h4⟩:=h;cases hr:replay s.2.1 with
   | none=>rw[hr] at h4; cases h4
   | some t=>
    rw[hr] at h4;simp only[Bool.and_eq_true,decide_eq_true_iff] at h4;obtain⟨⟨h5,h6⟩,h7⟩:=h4;exact⟨h1,⟨t.2.2,by rw[hr,←h5,←h6]⟩,h3,by rw[←h6]; exact h7⟩
 · rintro⟨h1,⟨seen,h2⟩,h3,h4⟩;simp only[Bool.and_eq_true,decide_eq_true_iff];refine⟨⟨⟨h1,by omega⟩,h3⟩,?_⟩
   rw[h2];simp[h4]
/-! ### how it is with a transaction -/
def bF(tx:Int)(l:List Rc):Int:=l.foldl (fun k r=>if r.2.1=tx then r.1 else k) 0
theorem cu(tx:Int)(l:List Rc)(r:Rc):bF tx (l++[r])=if r.2.1=tx then r.1 else bF tx l:=by
 unfold bF; rw[List.foldl_append]; rfl
def eW(tx:Int)(l:List Rc):Int:=l.foldl (fun o r=>if r.2.1=tx∧r.1=3 then 4 else if r.2.1=tx∧r.1=2 then 3 else o) 2
theorem mT(tx:Int)(l:List Rc)(r:Rc):eW tx (l++[r])=if r.2.1=tx∧r.1=3 then 4 else if r.2.1=tx∧r.1=2 then 3 else eW tx l:=by
 unfold eW; rw[List.foldl_append]; rfl
structure xO (l:List Rc) (s:St):Prop where
 nd:(s.2.1.map fun r=>r.2.1).Nodup
 held:∀tx,(∃r∈s.2.1,r.2.1=tx)↔bF tx l=1
 seen:∀tx,tx∈s.2.2↔bF tx l≠0
 kinds:∀tx,bF tx l=0∨bF tx l=1∨bF tx l=2∨bF tx l=3
 out:∀tx,bF tx l≠1→eW tx l=if bF tx l=2 then 3 else if bF tx l=3 then 4 else 2
theorem ky{tx:Int}{l:List Rc}:(aR tx l).isSome=true↔∃r∈l,r.2.1=tx:=by
 constructor
 · intro h;cases hp:aR tx l with
   | none=>rw[hp] at h; cases h
   | some k=>obtain⟨hk,e⟩:=iz hp; exact⟨_,List.getElem_mem hk,e⟩
 · rintro⟨r,hr,e⟩;cases hp:aR tx l with
   | none=>exact absurd e (mN hp r hr)
   | some k=>rfl
theorem Mi{α:Type}{l:List α}{x:α}{k:Nat}(hk:k<l.length)(h:x∈l):x∈l.take k++l.drop (k+1)∨x=l[k]:=by
 rw[←List.take_append_drop k l,List.drop_eq_getElem_cons hk] at h;rcases List.mem_append.1 h with e | e
 · exact .inl (List.mem_append.2 (.inl e))
 · rcases List.mem_cons.1 e with e | e
   · exact .inr e
   · exact .inl (List.mem_append.2 (.inr e))
theorem EK{α:Type}(l:List α)(k:Nat):(l.take k++l.drop (k+1)).Sublist l:=by
 rw[←List.eraseIdx_eq_take_drop_succ]; exact List.eraseIdx_sublist _ _
theorem O_{l:List Rc}{k:Nat}(eo:(l.map fun r=>r.2.1).Nodup)(hk:k<l.length)(tx:Int)(wv:l[k].2.1=tx):∀r∈l.take k++l.drop (k+1),r.2.1≠tx:=by
 intro r hr e;have CP:l=l.take k++l[k]::l.drop (k+1):=by rw[←List.drop_eq_getElem_cons hk,List.take_append_drop]
 rw[CP,List.map_append,List.map_cons,List.nodup_append] at eo;rcases List.mem_append.1 hr with h1 | h1
 · exact eo.2.2 _ (List.mem_map.2 ⟨r,h1,e⟩) _ (List.mem_cons.2 (.inl wv.symm)) rfl
 · exact(List.nodup_cons.1 eo.2.1).1 (List.mem_map.2 ⟨r,h1,by rw[e,wv]⟩)
theorem A2:xO [] ([],[],[]):=
 ⟨List.nodup_nil,fun tx=>⟨fun⟨r,hr,_⟩=>absurd hr List.not_mem_nil,fun h=>by simp[bF] at h⟩,fun tx=>⟨fun h=>absurd h List.not_mem_nil,fun h=>absurd rfl h⟩,fun tx=>.inl rfl,fun tx _=>by simp[eW,bF]⟩
theorem Dt{l:List Rc}{s t:St}{r:Rc}(h:xO l s)(ho:one s r=some t):xO (l++[r]) t:=by
 have yW:=h.kinds;unfold one at ho
 split at ho
 · next bR=>
   have Sd:=((bS r).1 bR).2
   split at ho
   · next h1=>
     split at ho
     · cases ho
     · next hn=>
       cases ho;have UY:r.2.1∉s.2.2:=fun e=>hn (.inl (by simpa using e))
       have Cn:bF r.2.1 l=0:=by
        rcases Classical.em (bF r.2.1 l=0) with e | e
        · exact e
        · exact absurd ((h.seen r.2.1).2 e) UY
       refine⟨?_,fun tx=>?_,fun tx=>?_,fun tx=>?_,fun tx bh=>?_⟩
       · rw[List.map_append,List.nodup_append];refine⟨h.nd,List.nodup_cons.2 ⟨List.not_mem_nil,List.nodup_nil⟩,fun a ha b hb e=>?_⟩
         obtain⟨x,hx,rfl⟩:=List.mem_map.1 ha;obtain⟨y,hy,rfl⟩:=List.mem_map.1 hb;rw[List.mem_singleton.1 hy] at e;have:=(h.held r.2.1).1 ⟨x,hx,e⟩;omega
       · rw[cu];constructor
         · rintro⟨x,hx,e⟩;rcases List.mem_append.1 hx with e2 | e2
           · split
             · exact h1
             · exact(h.held tx).1 ⟨x,e2,e⟩
           · rw[List.mem_singleton.1 e2] at e;rw[if_pos e]; exact h1
         · intro e
           split at e
           · next e2=>exact⟨r,List.mem_append.2 (.inr (by simp)),e2⟩
           · obtain⟨x,hx,e3⟩:=(h.held tx).2 e;exact⟨x,List.mem_append.2 (.inl hx),e3⟩
       · rw[cu];constructor
         · intro hx
           split
           · omega
           · next e2=>
             rcases List.mem_append.1 hx with e | e
             · exact(h.seen tx).1 e
             · exact absurd (List.mem_singleton.1 e).symm e2
         · intro e
           split at e
           · next e2=>exact List.mem_append.2 (.inr (by simp[e2]))
           · exact List.mem_append.2 (.inl ((h.seen tx).2 e))
       · rw[cu]
         split
         · exact .inr (.inl h1)
         · exact h.kinds tx
       · rw[cu] at bh ⊢;rw[mT]
         split at bh
         · exact absurd h1 bh
         · next e2=>
           rw[if_neg (fun e=>e2 e.1),if_neg (fun e=>e2 e.1),if_neg e2]
           exact h.out tx bh
   · next h1=>
     have Mg:r.1=2∨r.1=3:=by
      rcases Sd with⟨e,_⟩ | ⟨e,_⟩
      · exact absurd e h1
      · exact e
     have jQ:∀tx,bF tx (l++[r])≠1→(bF tx l≠1∨r.2.1=tx)→eW tx (l++[r])=if bF tx (l++[r])=2 then 3 else if bF tx (l++[r])=3 then 4 else 2:=by
      intro tx bh hor;rw[cu,mT];by_cases e2:r.2.1=tx
      · rw[if_pos e2];rcases Mg with e | e
        · rw[if_neg (fun x=>by omega),if_pos ⟨e2,e⟩,if_pos e]
        · rw[if_pos ⟨e2,e⟩,if_neg (by omega),if_pos e]
      · rw[if_neg (fun e=>e2 e.1),if_neg (fun e=>e2 e.1),if_neg e2]
        exact h.out tx (hor.resolve_right e2)
     have Jk:∀tx,bF tx (l++[r])=0∨bF tx (l++[r])=1∨bF tx (l++[r])=2∨bF tx (l++[r])=3:=fun tx=>by
      rw[cu]
      split
      · omega
      · exact h.kinds tx
     split at ho
     · next hp=>
       split at ho
       · next h3=>
         cases ho;have ko:=mN hp;refine⟨h.nd,fun tx=>?_,fun tx=>?_,Jk,fun tx bh=>?_⟩
         · rw[cu];constructor
           · rintro⟨x,hx,e⟩;rw[if_neg (fun e2=>ko x hx (by rw[e,e2]))]
             exact(h.held tx).1 ⟨x,hx,e⟩
           · intro e
             split at e
             · omega
             · exact(h.held tx).2 e
         · rw[cu];constructor
           · intro hx
             split
             · omega
             · next e2=>
               rcases List.mem_append.1 hx with e | e
               · exact(h.seen tx).1 e
               · exact absurd (List.mem_singleton.1 e).symm e2
           · intro e
             split at e
             · next e2=>exact List.mem_append.2 (.inr (by simp[e2]))
             · exact List.mem_append.2 (.inl ((h.seen tx).2 e))
         · refine jQ tx bh ?_;by_cases e2:r.2.1=tx
           · exact .inr e2
           · rw[cu,if_neg e2] at bh; exact .inl bh
       · cases ho
     · next k hp=>
       obtain⟨hk,Mh⟩:=iz hp
       split at ho
       · cases ho;have hcut:=O_ h.nd hk r.2.1 Mh;have Se:bF r.2.1 l≠0:=by
          have:=(h.held r.2.1).1 ⟨_,List.getElem_mem hk,Mh⟩;omega
         refine⟨?_,fun tx=>?_,fun tx=>?_,Jk,fun tx bh=>?_⟩
         · exact h.nd.sublist ((EK s.2.1 k).map _)
         · rw[cu];constructor
           · rintro⟨x,hx,e⟩;rw[if_neg (fun e2=>hcut x hx (by rw[e,e2]))]
             exact(h.held tx).1 ⟨x,(EK s.2.1 k).subset hx,e⟩
           · intro e
             split at e
             · omega
             · next e2=>
               obtain⟨x,hx,e3⟩:=(h.held tx).2 e;rcases Mi hk hx with e4 | e4
               · exact⟨x,e4,e3⟩
               · rw[e4,Mh] at e3; exact absurd e3 e2
         · rw[cu];constructor
           · intro hx
             split
             · omega
             · exact(h.seen tx).1 hx
           · intro e
             split at e
             · next e2=>rw[←e2]; exact(h.seen _).2 Se
             · exact(h.seen tx).2 e
         · refine jQ tx bh ?_;by_cases e2:r.2.1=tx
           · exact .inr e2
           · rw[cu,if_neg e2] at bh; exact .inl bh
       · cases ho
 · cases ho
theorem A3:∀(l pre:List Rc) (s t:St),xO pre s→bN s l=some t→xO (pre++l) t
 | [],pre,s,t,h,e=>by cases e; simpa using h
 | r::l,pre,s,t,h,e=>by
  rw[bN] at e
  split at e
  · cases e
  · next u hu=>
    have:=A3 l (pre++[r]) u t (Dt h hu) e;simpa using this
theorem jZ{l:List Rc}{t:St}(h:replay l=some t):xO l t:=by
 have:=A3 l [] _ t A2 h;simpa using this
def eP(s:de)(tx:Int):Int:=if(aR tx s.2.2.2.2).isSome=true then 1 else eW tx s.2.1
def eB(k:Int):Int:=if k=1 then 1 else if k=2 then 3 else if k=3 then 4 else 2
theorem kz{s:de}(h:cD s)(tx:Int):eP s tx=eB (bF tx s.2.1):=by
 obtain⟨seen,hm⟩:=h.made;have hS:=jZ hm;unfold eP eB;by_cases e:bF tx s.2.1=1
 · rw[if_pos (ky.2 ((hS.held tx).2 e)),if_pos e]
 · rw[if_neg (fun h=>e ((hS.held tx).1 (ky.1 h))),if_neg e]
   exact hS.out tx e
theorem k7(l:List Rc)(r:Rc):replay (l++[r])=match replay l with | none=>none | some t=>one t r:=by
 unfold replay;rw[jN];cases bN ([],[],[]) l with
 | none=>rfl
 | some t=>
  simp only[bN];cases one t r with
  | none=>rfl
  | some u=>rfl
/-! ### what is written -/
def forced(m:List Pr)(held:List Rc)(r:Rc):List Pr × List Rc:=
 if r.1=1 then(m,held++[r]) else match aR r.2.1 held with
  | none=>(m,held)
  | some k=>(ik (m,held,[]) r k,held.take k++held.drop (k+1))
def written(s:de)(r:Rc):de:=(s.1,s.2.1++[r],s.2.2.1,(forced s.2.2.2.1 s.2.2.2.2 r).1,(forced s.2.2.2.1 s.2.2.2.2 r).2)
theorem Du{m:List Pr}{held:List Rc}{seen:List Int}{r:Rc}{t:St}(h:one (m,held,seen) r=some t):(t.1,t.2.1)=forced m held r:=by
 unfold one at h;unfold forced
 split at h
 · split at h
   · next h1=>
     rw[if_pos h1]
     split at h
     · cases h
     · cases h; rfl
   · next h1=>
     rw[if_neg h1]
     split at h
     · next hp=>
       split at h
       · cases h; simp only[hp]
       · cases h
     · next k hp=>
       split at h
       · cases h;simp only[hp];rfl
       · cases h
 · cases h
theorem lA{s:de}{r:Rc}{t:St}(h:cD s){seen:List Int}(hm:replay s.2.1=some (s.2.2.2.1,s.2.2.2.2,seen))(ho:one (s.2.2.2.1,s.2.2.2.2,seen) r=some t)(oq:s.2.1.length+1+t.2.1.length≤300):cD (written s r):=by
 have e:=Du ho;have e1:(forced s.2.2.2.1 s.2.2.2.2 r).1=t.1:=by rw[←e]
 have e2:(forced s.2.2.2.1 s.2.2.2.2 r).2=t.2.1:=by rw[←e]
 refine⟨h.id,⟨t.2.2,?_⟩,?_,?_⟩
 · show replay (s.2.1++[r])=some ((forced s.2.2.2.1 s.2.2.2.2 r).1,(forced s.2.2.2.1 s.2.2.2.2 r).2,t.2.2);rw[k7,hm,e1,e2]; exact ho
 · have:=h.sure;show 0≤s.2.2.1∧s.2.2.1≤((s.2.1++[r]).length:Int);simp; omega
 · show(s.2.1++[r]).length+(forced s.2.2.2.1 s.2.2.2.2 r).2.length≤300;rw[e2]; simp; omega
theorem Ga{s:de}{seen:List Int}{tx:Int}{ops:List Od}(h:cD s)(hm:replay s.2.1=some (s.2.2.2.1,s.2.2.2.2,seen))(bR:bu (1,tx,ops)=true)(ho:eP s tx=2)(hl:locked s.2.2.2.2 ops=false)(ON:meets s.2.2.2.1 ops=true):
 one (s.2.2.2.1,s.2.2.2.2,seen) (1,tx,ops)=some (s.2.2.2.1,s.2.2.2.2++[(1,tx,ops)],seen++[tx]):=by
 rw[kz h] at ho;have hS:=jZ hm;have h0:bF tx s.2.1=0:=by
  rcases hS.kinds tx with e | e | e | e
  · exact e
  bo (rw[e] at ho; simp[eB] at ho)
 have h1:tx∉seen:=fun e=>(hS.seen tx).1 e h0
 unfold one;rw[if_pos bR,if_pos rfl,if_neg (by simp[h1,hl,ON])]
theorem Jl{s:de}{tx:Int}(ho:eP s tx≠1):aR tx s.2.2.2.2=none:=by
 cases hp:aR tx s.2.2.2.2 with
 | none=>rfl
 | some k=>exact absurd (by unfold eP; rw[hp]; rfl) ho
theorem xP{s:de}{seen:List Int}{tx:Int}(h:cD s)(hm:replay s.2.1=some (s.2.2.2.1,s.2.2.2.2,seen))(bR:bu (3,tx,[])=true)(ho:eP s tx=2):
 one (s.2.2.2.1,s.2.2.2.2,seen) (3,tx,[])=some (s.2.2.2.1,s.2.2.2.2,seen++[tx]):=by
 have hp:=Jl (s:=s) (tx:=tx) (by omega)
 rw[kz h] at ho;have hS:=jZ hm;have h0:bF tx s.2.1=0:=by
  rcases hS.kinds tx with e | e | e | e
  · exact e
  bo (rw[e] at ho; simp[eB] at ho)
 have h1:tx∉seen:=fun e=>(hS.seen tx).1 e h0
 unfold one;rw[if_pos bR,if_neg (by simp)]
 simp only[hp];rw[if_pos (by simp[h1])]
theorem xQ{s:de}{tx:Int}(h:cD s)(ho:eP s tx=1):∃k,aR tx s.2.2.2.2=some k:=by
 cases hp:aR tx s.2.2.2.2 with
 | some k=>exact⟨k,rfl⟩
 | none=>
  rw[kz h] at ho;obtain⟨seen,hm⟩:=h.made;have hS:=jZ hm;have hk:bF tx s.2.1=1:=by
   rcases hS.kinds tx with e | e | e | e
   · rw[e] at ho; simp[eB] at ho
   · exact e
   bo (rw[e] at ho; simp[eB] at ho)
  have:=ky.2 ((hS.held tx).2 hk);rw[hp] at this; cases this
theorem Jm{s:de}{seen:List Int}{tx kind:Int}{k:Nat}(bR:bu (kind,tx,[])=true)(hk:kind≠1)(hp:aR tx s.2.2.2.2=some k)(zY:(ik (s.2.2.2.1,s.2.2.2.2,seen) (kind,tx,[]) k).length≤60):
 one (s.2.2.2.1,s.2.2.2.2,seen) (kind,tx,[])=some (ik (s.2.2.2.1,s.2.2.2.2,seen) (kind,tx,[]) k,s.2.2.2.2.take k++s.2.2.2.2.drop (k+1),seen):=by
 unfold one;rw[if_pos bR,if_neg hk];simp only[hp];rw[if_pos zY]
/-! ### what a shard does -/
def kR(tx:Int):Bool:=decide (1≤tx∧tx≤1000000)
def bQ(l:List Rc):Nat:=(l.map fun r=>r.2.2.length).sum
def lB(s:de)(ops:List Od):Nat:=s.2.2.2.1.length+ops.length+bQ s.2.2.2.2
def qo(s:de)(ops:List Od):Bool:=locked s.2.2.2.2 ops || !meets s.2.2.2.1 ops || decide (60<lB s ops) || decide (300<s.2.1.length+s.2.2.2.2.length+2)
def gV(s:de)(tx:Int)(ops:List Od):de × Int:=
 if(kR tx && b_ ops)=false then(s,5) else if eP s tx≠2 then(s,eP s tx) else if qo s ops=true then(s,2) else(written s (1,tx,ops),1)
def df(s:de)(tx:Int)(yes:Bool):de × Bool:=
 if kR tx=false then(s,false) else if eP s tx=1 then(written s (if yes=true then 2 else 3,tx,[]),true) else if eP s tx=3 then(s,yes) else if eP s tx=4 then(s, !yes)
 else if yes=true∨300≤s.2.1.length+s.2.2.2.2.length then(s,false) else(written s (3,tx,[]),true)
def bW(s:de):de:=if bV s=true then(s.1,s.2.1,(s.2.1.length:Int),s.2.2.2.1,s.2.2.2.2) else s
def gJ(s:de)(keep:Int):Nat:=(s.2.2.1+min (max keep 0) ((s.2.1.length:Int) - s.2.2.1)).toNat
def Jn(r:Option St):List Pr:=match r with | none=>[] | some t=>t.1
def EL(r:Option St):List Rc:=match r with | none=>[] | some t=>t.2.1
def fe(s:de)(keep:Int):de:=(s.1,s.2.1.take (gJ s keep),(gJ s keep:Int),Jn (replay (s.2.1.take (gJ s keep))),EL (replay (s.2.1.take (gJ s keep))))
theorem Jo{s:de}(h:cD s)(keep:Int):s.2.2.1.toNat≤gJ s keep∧gJ s keep≤s.2.1.length:=by
 have:=h.sure;unfold gJ;omega
theorem zd{s:de}(h:cD s)(k:Nat):∃t,replay (s.2.1.take k)=some t:=by
 obtain⟨seen,hm⟩:=h.made;unfold replay at hm ⊢;rw[←List.take_append_drop k s.2.1,jN] at hm;cases e:bN ([],[],[]) (s.2.1.take k) with
 | none=>rw[e] at hm; cases hm
 | some t=>exact⟨t,rfl⟩
theorem Jp{s t:St}{r:Rc}(h:one s r=some t)(l:List Rc):s.2.1.length≤t.2.1.length+1:=by
 unfold one at h
 split at h
 · split at h
   · split at h
     · cases h
     · cases h; simp; omega
   · split at h
     · split at h
       · cases h; simp
       · cases h
     · next k hp=>
       obtain⟨hk,_⟩:=iz hp
       split at h
       · cases h; simp; omega
       · cases h
 · cases h
theorem EM:∀(l:List Rc) (s t:St),bN s l=some t→s.2.1.length≤t.2.1.length+l.length
 | [],s,t,e=>by cases e; simp
 | r::l,s,t,e=>by
  rw[bN] at e
  split at e
  · cases e
  · next u hu=>
    have h1:=EM l u t e;have h2:=Jp hu l;simp; omega
theorem ot{s:de}(h:cD s)(keep:Int):cD (fe s keep):=by
 obtain⟨t,ht⟩:=zd h (gJ s keep);obtain⟨h1,h2⟩:=Jo h keep;have hl:(s.2.1.take (gJ s keep)).length=gJ s keep:=by simp; omega
 refine⟨h.id,⟨t.2.2,?_⟩,?_,?_⟩
 · show replay (s.2.1.take (gJ s keep))=some (Jn (replay (s.2.1.take (gJ s keep))),EL (replay (s.2.1.take (gJ s keep))),t.2.2);rw[ht]; rfl
 · show 0≤(gJ s keep:Int)∧(gJ s keep:Int)≤((s.2.1.take (gJ s keep)).length:Int);omega
 · show(s.2.1.take (gJ s keep)).length+(EL (replay (s.2.1.take (gJ s keep)))).length≤300;rw[ht,hl];obtain⟨seen,hm⟩:=h.made;have jU:=hm;unfold replay at jU ht;rw[←List.take_append_drop (gJ s keep) s.2.1,jN,ht] at jU;have:=EM _ _ _ jU;have hr:=h.room;simp only[List.length_drop] at this;show gJ s keep+t.2.1.length≤300;omega
end bm
namespace lay
open Go Go.RowKit base aE aX bm
/-! ### types without slices -/
structure Flat {α:Type} (R:Rd α) (enc:α→List Value) (ok:α→Prop):Prop where
 own:∀ {w vs x F},R.own w vs x F↔vs=enc x∧ok x∧F=[]
 fo:∀ {w vs x},R.fo w vs x↔vs=enc x∧ok x
theorem aV:Flat int (fun x=>[.int .i64 x]) (fun x=>(Lit.int .i64 x).wf=true):=
 ⟨fun{_ _ _ _}=>⟨fun h=>⟨h.1.1,h.1.2,h.2⟩,fun h=>⟨⟨h.1,h.2.1⟩,h.2.2⟩⟩,fun{_ _ _}=>Iff.rfl⟩
theorem pj:Flat bool (fun x=>[.bool x]) (fun _=>True):=
 ⟨fun{_ _ _ _}=>⟨fun h=>⟨h.1,trivial,h.2⟩,fun h=>⟨h.1,h.2.2⟩⟩,fun{_ _ _}=>⟨fun h=>⟨h,trivial⟩,fun h=>h.1⟩⟩
theorem kA:Flat str (fun x=>[.string x]) (fun x=>x.size≤maxLen):=
 ⟨fun{_ _ _ _}=>⟨fun h=>⟨h.1.1,h.1.2,h.2⟩,fun h=>⟨⟨h.1,h.2.1⟩,h.2.2⟩⟩,fun{_ _ _}=>Iff.rfl⟩
theorem jm{α β:Type}{R:Rd α}{S:Rd β}{e1:α→List Value}{e2:β→List Value}{o1:α→Prop}{o2:β→Prop}(h1:Flat R e1 o1)(h2:Flat S e2 o2):Flat (both R S) (fun x=>e1 x.1++e2 x.2) (fun x=>o1 x.1∧o2 x.2):=by
 constructor
 · intro w vs x F;constructor
   · rintro⟨us,ts,F1,F2,rfl,rfl,h3,h4,_⟩;obtain⟨rfl,k1,rfl⟩:=h1.own.1 h3;obtain⟨rfl,k2,rfl⟩:=h2.own.1 h4;exact⟨rfl,⟨k1,k2⟩,rfl⟩
   · rintro⟨rfl,⟨k1,k2⟩,rfl⟩;exact⟨_,_,[],[],rfl,rfl,h1.own.2 ⟨rfl,k1,rfl⟩,h2.own.2 ⟨rfl,k2,rfl⟩,List.nodup_nil⟩
 · intro w vs x;constructor
   · rintro⟨us,ts,rfl,h3,h4⟩;obtain⟨rfl,k1⟩:=h1.fo.1 h3;obtain⟨rfl,k2⟩:=h2.fo.1 h4;exact⟨rfl,k1,k2⟩
   · rintro⟨rfl,k1,k2⟩;exact⟨_,_,rfl,h1.fo.2 ⟨rfl,k1⟩,h2.fo.2 ⟨rfl,k2⟩⟩
section
variable{α:Type}{R:Rd α}{enc:α→List Value}{ok:α→Prop}{ty:TypeId}{w:World}{v:Value}{l:List α}{q:dY}{F:List Nat}
theorem Flat.parts(hR:Flat R enc ok)(h:bz ty R w v l q):q=l.map (fun x=>(enc x,[]))∧(∀x∈l,ok x)∧aw q=[]∧cellsOf q=l.flatMap enc:=by
 have hl:=h.len;have e:q=l.map (fun x=>(enc x,[])):=by
  refine List.ext_getElem (by simp[hl]) fun i h1 h2=>?_
  have h3:=hR.own.1 (h.each i (by omega))
  rw[List.getElem_map];exact Prod.ext h3.1 h3.2.2
 refine⟨e,fun x hx=>?_,?_,?_⟩
 · obtain⟨i,hi,rfl⟩:=List.getElem_of_mem hx;exact(hR.own.1 (h.each i hi)).2.1
 · rw[e]; unfold aw; rw[List.flatMap_map]; simp
 · rw[e]; unfold cellsOf; rw[List.flatMap_map]
theorem Flat.row(hR:Flat R enc ok)(h:bz ty R w v l q):w.ownsRow 0 ty R.size v l.length (l.flatMap enc):=by
 rw[←(hR.parts h).2.2.2]; exact h.row
theorem Flat.made(hR:Flat R enc ok)(hr:w.ownsRow 0 ty R.size v l.length (l.flatMap enc))(bR:∀x∈l,ok x):bz ty R w v l (l.map (fun x=>(enc x,[]))):=by
 have e1:cellsOf (l.map (fun x=>(enc x,([]:List Nat))))=l.flatMap enc:=by unfold cellsOf; rw[List.flatMap_map]
 have e2:aw (l.map (fun x=>(enc x,([]:List Nat))))=[]:=by unfold aw; rw[List.flatMap_map]; simp
 refine⟨by simp,by rw[e1]; exact hr,fun i hi=>?_,by rw[e2]; cases v.ownBlock <;> simp⟩
 simp only[List.getElem_map];exact hR.own.2 ⟨rfl,bR _ (List.getElem_mem _),rfl⟩
theorem Flat.slice(hR:Flat R enc ok):(lay.slice ty R).own w [v] l F↔w.ownsRow 0 ty R.size v l.length (l.flatMap enc)∧(∀x∈l,ok x)∧F=v.ownBlock.toList:=by
 constructor
 · rintro⟨v',q,e,rfl,h⟩;cases e;exact⟨hR.row h,(hR.parts h).2.1,by rw[(hR.parts h).2.2.1,List.append_nil]⟩
 · rintro⟨h1,h2,rfl⟩;have h3:=hR.made h1 h2;exact⟨v,_,rfl,by rw[(hR.parts h3).2.2.1,List.append_nil],h3⟩
end
/-! ### pairs, orders, whole numbers -/
def NI:Rd Pr:=both str str
def Sf:Rd Od:=both int (both str str)
theorem Gb:Flat NI (fun p=>[.string p.1,.string p.2]) small:=jm kA kA
theorem gF:Flat Sf (fun o=>[.int .i64 o.1,.string o.2.1,.string o.2.2]) ed:=jm aV (jm kA kA)
def Dv:Rd (List Pr):=slice 100 NI
def kB:Rd (List Od):=slice 121 Sf
def pU:Rd (List Int):=slice 3 int
section
variable{w w':World}{a:Option Addr}{n cap:Nat}{F:List Nat}{v:Value}
theorem xR{l:List Pr}:Dv.own w [.slice a n cap] l F↔eG w a n cap l∧F=(Value.slice a n cap).ownBlock.toList:=by
 unfold Dv;rw[Gb.slice];constructor
 · rintro⟨h1,h2,h3⟩;have e:l.length=n:=by
    rcases h1.2 with⟨e,h0⟩ | ⟨g,c,cur,e,_⟩
    · cases e; exact h0
    · cases e; rfl
   exact⟨⟨e,h2,by rw[←e] at h1 ⊢; exact h1⟩,h3⟩
 · rintro⟨⟨h1,h2,h3⟩,h4⟩;exact⟨by rw[h1]; exact h3,h2,h4⟩
theorem iG{l:List Od}:kB.own w [v] l F↔cS w 0 v l∧F=v.ownBlock.toList:=by
 unfold kB;rw[gF.slice];constructor
 · rintro⟨h1,h2,h3⟩;exact⟨⟨h2,h1⟩,h3⟩
 · rintro⟨⟨h1,h2⟩,h4⟩;exact⟨h2,h1,h4⟩
theorem k8{l:List Od}:kB.fo w [.slice a n cap] l↔dS w a n l∧n≤cap:=by
 constructor
 · rintro⟨a',n',c',e,hc,h1,h2,h3,h4⟩;cases e;refine⟨⟨h1,h2,fun p hp=>?_,fun h0=>?_⟩,hc⟩
   · obtain⟨vs,hv⟩:=h3 p hp;exact(gF.fo.1 hv).2
   · obtain⟨b,off,e,hi⟩:=h4 h0;refine⟨b,off,e,fun i hl=>?_⟩
     obtain⟨vs,hs,cZ⟩:=hi i hl;obtain⟨rfl,_⟩:=gF.fo.1 hs;exact⟨cZ 0 _ rfl,cZ 1 _ rfl,cZ 2 _ rfl⟩
 · rintro⟨⟨h1,h2,h3,h4⟩,hc⟩;refine⟨a,n,cap,rfl,hc,h1,h2,fun p hp=>⟨_,gF.fo.2 ⟨rfl,h3 p hp⟩⟩,fun h0=>?_⟩
   obtain⟨b,off,e,hi⟩:=h4 h0;refine⟨b,off,e,fun i hl=>⟨_,gF.fo.2 ⟨rfl,h3 _ (List.getElem_mem hl)⟩,fun j u hu=>?_⟩⟩
   obtain⟨c0,c1,c2⟩:=hi i hl
   match j,hu with
   | 0,hu=>cases hu; exact c0
   | 1,hu=>cases hu; exact c1
   | 2,hu=>cases hu; exact c2
end
/-! ### records -/
def Sg:Rd Rc:=both int (both int kB)
def k9:Rd (List Rc):=slice 98 Sg
def ou(v:Value)(hs:List Value):List Nat:=v.ownBlock.toList++hs.flatMap fun y=>y.ownBlock.toList
section
variable{w w':World}{a:Option Addr}{n cap:Nat}{F:List Nat}{v:Value}
theorem aJ{hs:List Value}{k:Nat}:k∈ou v hs↔dq v hs k:=by
 unfold ou dq;rw[List.mem_append,List.mem_flatMap];constructor
 · rintro(h | ⟨y,hy,h⟩)
   · exact .inl (by simpa using h)
   · exact .inr ⟨y,hy,by simpa using h⟩
 · rintro(h | ⟨y,hy,h⟩)
   · exact .inl (by simp[h])
   · exact .inr ⟨y,hy,by simp[h]⟩
theorem ze{vs:List Value}{r:Rc}:Sg.own w vs r F↔∃y,vs=[.int .i64 r.1,.int .i64 r.2.1,y]∧(Lit.int .i64 r.1).wf=true∧(Lit.int .i64 r.2.1).wf=true∧cS w 0 y r.2.2∧F=y.ownBlock.toList:=by
 constructor
 · rintro⟨us,ts,F1,F2,rfl,rfl,h1,⟨Ww,Wx,F3,F4,rfl,rfl,h2,h3,_⟩,_⟩;obtain⟨rfl,k1,rfl⟩:=aV.own.1 h1;obtain⟨rfl,k2,rfl⟩:=aV.own.1 h2;obtain⟨a,c,q,rfl,_⟩:=lS h3;obtain⟨h4,rfl⟩:=iG.1 h3;exact⟨_,rfl,k1,k2,h4,rfl⟩
 · rintro⟨y,rfl,k1,k2,h4,rfl⟩;have hn:(y.ownBlock.toList).Nodup:=by cases y.ownBlock <;> simp
   exact⟨[_],[_,y],[],_,rfl,rfl,aV.own.2 ⟨rfl,k1,rfl⟩,⟨[_],[y],[],_,rfl,rfl,aV.own.2 ⟨rfl,k2,rfl⟩,iG.2 ⟨h4,rfl⟩,hn⟩,hn⟩
def pk(z:Rc × Value):List Value × List Nat:=([.int .i64 z.1.1,.int .i64 z.1.2.1,z.2],z.2.ownBlock.toList)
theorem tb(l:List Rc)(hs:List Value):cellsOf ((l.zip hs).map pk)=bk l hs:=by
 unfold cellsOf bk pk; rw[List.flatMap_map]
theorem j4(l:List Rc)(hs:List Value)(h:hs.length=l.length):aw ((l.zip hs).map pk)=hs.flatMap fun y=>y.ownBlock.toList:=by
 unfold aw pk;rw[List.flatMap_map]
 conv=>rhs; rw[←List.map_snd_zip (l₁:=l) (l₂:=hs) (by omega)]
 rw[List.flatMap_map]
theorem dB{l:List Rc}:k9.own w [v] l F↔∃hs,bB w 0 v l hs∧F=ou v hs:=by
 constructor
 · rintro⟨v',q,e,rfl,h⟩;cases e;have hl:=h.len;obtain⟨hs,xS,hq⟩:∃hs:List Value,hs.length=l.length∧∀i (h1:i<l.length) (h2:i<hs.length),(q[i]'(by omega)).1=[.int .i64 l[i].1,.int .i64 l[i].2.1,hs[i]]:=by
    refine⟨q.map fun p=>p.1.getD 2 (.slice none 0 0),by simp[hl],fun i h1 h2=>?_⟩
    obtain⟨y,e,_⟩:=ze.1 (h.each i h1);rw[List.getElem_map,e]; rfl
   have sL:∀i (h1:i<l.length),iA l[i]∧cS w 0 (hs[i]'(by omega)) l[i].2.2∧(q[i]'(by omega)).2=(hs[i]'(by omega)).ownBlock.toList:=fun i h1=>by
    obtain⟨y,e,k1,k2,k3,k4⟩:=ze.1 (h.each i h1);have e2:=hq i h1 (by omega)
    rw[e] at e2;obtain rfl:y=hs[i]'(by omega):=by simpa using e2
    exact⟨⟨k1,k2,k3.1⟩,k3,k4⟩
   have eq:q=(l.zip hs).map pk:=by
    refine List.ext_getElem (by simp[hl,xS]) fun i h1 h2=>?_
    rw[List.getElem_map,List.getElem_zip];exact Prod.ext (hq i (by omega) (by omega)) (sL i (by omega)).2.2
   have eo:=h.nodup;rw[eq,j4 l hs xS] at eo;obtain⟨n1,n2,n3⟩:=a7 eo;refine⟨hs,⟨xS,fun x hx=>?_,by rw[←tb,←eq]; exact h.row,fun i hi=>(sL i hi).2.1,?_,fun k hk y hy e=>?_⟩,?_⟩
   · obtain⟨i,hi,rfl⟩:=List.getElem_of_mem hx;exact(sL i hi).1
   · have:=(List.pairwise_flatMap.1 n2).2;refine this.imp fun{a b} Sh=>?_
     cases ha:a.ownBlock with
     | none=>exact .inl rfl
     | some k=>
      right;intro e;exact Sh k (by simp[ha]) k (by simp[←e]) rfl
   · exact n3 k (by simp[hk]) (List.mem_flatMap.2 ⟨y,hy,by simp[e]⟩)
   · unfold ou; rw[eq,j4 l hs xS]
 · rintro⟨hs,h,rfl⟩;have xS:=h.len;refine⟨v,(l.zip hs).map pk,rfl,by rw[j4 l hs xS]; rfl,⟨by simp[xS],by rw[tb]; exact h.row,fun i hi=>?_,?_⟩⟩
   · simp only[List.getElem_map,List.getElem_zip];have fk:=h.sm _ (List.getElem_mem hi);exact ze.2 ⟨_,rfl,fk.1,fk.2.1,h.ops i hi,rfl⟩
   · rw[j4 l hs xS];refine bZ (by cases v.ownBlock <;> simp) ?_ (fun k hk iu=>?_)
     · refine List.pairwise_flatMap.2 ⟨fun a _=>by cases a.ownBlock <;> simp,h.apart.imp fun{a b} Sh x hx y hy e=>?_⟩
       have ha:a.ownBlock=some x:=by simpa using hx
       have hb:b.ownBlock=some y:=by simpa using hy
       rcases Sh with h1 | h1
       · rw[ha] at h1; cases h1
       · exact h1 (by rw[ha,hb,e])
     · obtain⟨y,hy,e⟩:=List.mem_flatMap.1 iu;exact h.out k (by simpa using hk) y hy (by simpa using e)
end
/-! ### shards -/
def Jq:Rd de:=both int (both k9 (both int (both Dv k9)))
def aU(id sure:Int)(la:Option Addr)(ln lc:Nat)(ma:Option Addr)(mn mc:Nat)(ha:Option Addr)(hn hc:Nat):List Value:=[.int .i64 id,.slice la ln lc,.int .i64 sure,.slice ma mn mc,.slice ha hn hc]
structure eY (w:World) (la:Option Addr) (ln lc:Nat) (ma:Option Addr) (mn mc:Nat) (ha:Option Addr) (hn hc:Nat) (s:de):Prop where
 id:(Lit.int .i64 s.1).wf=true
 sure:(Lit.int .i64 s.2.2.1).wf=true
 log:rP w la ln s.2.1
 map:lL w ma mn s.2.2.2.1
 held:rP w ha hn s.2.2.2.2
 lc:ln≤lc
 mc:mn≤mc
 hc:hn≤hc
section
variable{w w':World}{la ma ha:Option Addr}{ln lc mn mc hn hc:Nat}{s:de}{vs:List Value}{F:List Nat}
theorem eY.below(h:eY w la ln lc ma mn mc ha hn hc s)(hb:Below w.heap.size w w'):eY w' la ln lc ma mn mc ha hn hc s:=
 ⟨h.id,h.sure,h.log.below hb,h.map.below hb,h.held.below hb,h.lc,h.mc,h.hc⟩
structure dn (w:World) (la:Option Addr) (ln lc:Nat) (ma:Option Addr) (mn mc:Nat) (ha:Option Addr) (hn hc:Nat) (s:de) (F:List Nat):Prop where
 id:(Lit.int .i64 s.1).wf=true
 sure:(Lit.int .i64 s.2.2.1).wf=true
 log:∃hl,bB w 0 (.slice la ln lc) s.2.1 hl∧∃hh,bB w 0 (.slice ha hn hc) s.2.2.2.2 hh∧F=ou (.slice la ln lc) hl++((Value.slice ma mn mc).ownBlock.toList++ou (.slice ha hn hc) hh)
 map:eG w ma mn mc s.2.2.2.1
 nodup:F.Nodup
theorem Gc:Jq.own w vs s F↔∃la ln lc ma mn mc ha hn hc,vs=aU s.1 s.2.2.1 la ln lc ma mn mc ha hn hc∧dn w la ln lc ma mn mc ha hn hc s F:=by
 constructor
 · rintro⟨u1,t1,F1,G1,rfl,rfl,h1,⟨u2,t2,F2,G2,rfl,rfl,h2,⟨u3,t3,F3,G3,rfl,rfl,h3,⟨u4,t4,F4,G4,rfl,rfl,h4,h5,_⟩,_⟩,_⟩,eo⟩;obtain⟨rfl,k1,rfl⟩:=aV.own.1 h1;obtain⟨rfl,k3,rfl⟩:=aV.own.1 h3;obtain⟨la,lc,q2,rfl,_⟩:=lS h2;obtain⟨ma,mc,q4,rfl,_⟩:=lS h4;obtain⟨ha,hc,q5,rfl,_⟩:=lS h5;obtain⟨hl,e2,rfl⟩:=dB.1 h2;obtain⟨e4,rfl⟩:=xR.1 h4;obtain⟨hh,e5,rfl⟩:=dB.1 h5;exact⟨la,_,lc,ma,_,mc,ha,_,hc,rfl,k1,k3,⟨hl,e2,hh,e5,rfl⟩,e4,eo⟩
 · rintro⟨la,ln,lc,ma,mn,mc,ha,hn,hc,rfl,h⟩;obtain⟨hl,e2,hh,e5,rfl⟩:=h.log;have eo:=h.nodup;have Si:=(a7 eo).2.1;exact⟨[_],[_,_,_,_],[],_,rfl,rfl,aV.own.2 ⟨rfl,h.id,rfl⟩,⟨[_],[_,_,_],_,_,rfl,rfl,dB.2 ⟨hl,e2,rfl⟩,⟨[_],[_,_],[],_,rfl,rfl,aV.own.2 ⟨rfl,h.sure,rfl⟩,⟨[_],[_],_,_,rfl,rfl,xR.2 ⟨h.map,rfl⟩,dB.2 ⟨hh,e5,rfl⟩,Si⟩,Si⟩,eo⟩,eo⟩
theorem eG.room{l:List Pr}{a:Option Addr}{n cap:Nat}(h:eG w a n cap l):n≤cap∧cap≤maxLen:=by
 rcases h.shape with⟨rfl,rfl,rfl,_⟩ | ⟨g,rfl,h⟩
 · exact⟨Nat.le_refl _,Nat.zero_le _⟩
 · exact bX.cases h
theorem dn.fo(h:dn w la ln lc ma mn mc ha hn hc s F):eY w la ln lc ma mn mc ha hn hc s:=by
 obtain⟨hl,e2,hh,e5,rfl⟩:=h.log;exact⟨h.id,h.sure,e2.sl,h.map.sl,e5.sl,e2.room.1,(eG.room h.map).1,e5.room.1⟩
theorem dn.lt(h:dn w la ln lc ma mn mc ha hn hc s F):∀k∈F,k<w.heap.size:=
 Jq.dK (Gc.2 ⟨_,_,_,_,_,_,_,_,_,rfl,h⟩)
theorem dn.keep(h:dn w la ln lc ma mn mc ha hn hc s F)(hk:∀k∈F,w'.heap[k]? =w.heap[k]?):dn w' la ln lc ma mn mc ha hn hc s F:=by
 obtain⟨hl,e2,hh,e5,rfl⟩:=h.log;refine⟨h.id,h.sure,⟨hl,e2.bl (fun k e=>hk k (List.mem_append.2 (.inl (aJ.2 e)))),hh,e5.bl (fun k e=>hk k (List.mem_append.2 (.inr (List.mem_append.2 (.inr (aJ.2 e)))))),rfl⟩,h.map.cc (fun k e=>hk k (List.mem_append.2 (.inr (List.mem_append.2 (.inl (by simp[e])))))),h.nodup⟩
theorem dn.below(h:dn w la ln lc ma mn mc ha hn hc s F)(hb:Below w.heap.size w w'):dn w' la ln lc ma mn mc ha hn hc s F:=h.keep fun k hk=>hb.block k (h.lt k hk)
theorem dn.frame{G:List Nat}(h:dn w la ln lc ma mn mc ha hn hc s F)(hf:Frame G w w')(hd:∀k∈F,k∉G):dn w' la ln lc ma mn mc ha hn hc s F:=h.keep fun k hk=>hf.block k (h.lt k hk) (hd k hk)
end
end lay
namespace bm
open Go Go.RowKit base aE aX
def gG(N:Prop)(w0:World)(F0:List Nat)(X:Nat)(r:Option St)(e:Ending)(w':World):Prop:=
 match r with
 | none=>e=.returned (.bool false)∧lay.Frame (X::F0) w0 w'
 | some t=>e=.returned (.bool true)∧∃am nm cm ah ch vs hs,Kept N w0 F0 w' X am nm cm ah ch vs t hs
def vb(N:Prop)(w0:World)(F0:List Nat)(X:Nat)(t:St)(e:Ending)(w':World):Prop:=e=.returned (.bool false)∧∃am nm cm ah ch vs hs,Kept N w0 F0 w' X am nm cm ah ch vs t hs
theorem vb.none{N:Prop}{w0 w':World}{F0:List Nat}{X:Nat}{t:St}{e:Ending}(h:vb N w0 F0 X t e w'):gG N w0 F0 X none e w':=by
 obtain⟨h1,_,_,_,_,_,_,_,hK⟩:=h;exact⟨h1,hK.fr⟩
theorem Mj(N:Prop)(w0:World)(F0:List Nat)(w:World)(X:Nat)(am:Option Addr)(nm cm:Nat)(ah:Option Addr)(ch:Nat)(vs:Value)(s:St)(hs:List Value)(kind tx:Int)(a:Option Addr)(len cap:Nat)(ops:List Od)
 (hK:Kept N w0 F0 w X am nm cm ah ch vs s hs) (dT:dS w a len ops) (dV:∀p∈ops,p.2.1.size≤1099511627776) (bR:bu (kind,tx,ops)=false):
 Calls Tryz.prog 98 #[.pointer (some ⟨X,0,none⟩),.agg #[.int .i64 kind,.int .i64 tx,.slice a len cap]] w (gG N w0 F0 X none):=by
 obtain⟨V,hV⟩:∃V,V=w.alloc (.cells #[.int .i64 kind,.int .i64 tx,.slice a len cap] 98):=⟨_,rfl⟩;have fv:Below w.heap.size w V:=by rw[hV]; exact(Below.refl _ _).alloc (Nat.le_refl _) _
 have bI:dt w.heap.size kind tx (.slice a len cap) V:=by rw[hV]; exact cG _ _ _ _
 have g_:=hK.below fv;have jf:=g_.box.lt;have mg:=bI.lt;have y1:=last.On.cell (B:=V.heap.size) g_.box.cells.2.1 jf;have y2:=last.On.cell (B:=V.heap.size) bI.cells.2.1 mg;have lP:∀x9:last.On V.heap.size V,Calls Tryz.prog 137 #[.slice ah s.2.1.length ch,.int .i64 tx] x9.w fun e w'=>e=.returned (.int .i64 (fL (aR tx s.2.1)))∧∃y9:last.On V.heap.size V,w'=y9.w:=fun x9=>last.Calls.on x9 (Nat.le_refl _) ((eA _ _ ch s.2.1 tx x9.w (g_.held.below x9.2).sl).mono (fun e w' h=>⟨h.1,h.2 ▸ Below.refl _ _⟩))
 have br:=last.On.iq V.heap.size V;have HV:=Hid.mk' hV.symm;clear hV;aj Tryz.func98,Tryz.ntmps98;ab fail;rw[HV.out];refine last.ar V.heap.size (by aa) (by aa) ?_
 repeat(ai ((ao 137; ag exact lP _)))
 refine wpQuiet_nil ?_;intro w1 bL;obtain⟨x1,bL⟩:=bL;have a_:Below V.heap.size V w1:=by rw[bL]; exact x1.2
 clear bL x1;have dM:=bI.below a_;have wV:=g_.below a_;have fl:=Hid.mk' (eh kind tx a len cap ops w1 ((dT.below fv).below a_) dV);obtain⟨d0,d1,d2⟩:=dM.cells;clear y1 y2 lP br;ab fail;refine fl.out.mono ?_;rintro e w2 ⟨rfl,be⟩;rw[bR];have fy:=wV.below be;ab fail;an;exact⟨rfl,fy.fr⟩
end bm
namespace bm
open Go Go.RowKit base aE aX
theorem Mk(N:Prop)(w0:World)(F0:List Nat)(w:World)(X:Nat)(am:Option Addr)(nm cm:Nat)(ah:Option Addr)(ch:Nat)(vs:Value)(s:St)(hs:List Value)(tx:Int)(a:Option Addr)(len cap:Nat)(ops:List Od)
 (hK:Kept N w0 F0 w X am nm cm ah ch vs s hs) (dT:dS w a len ops) (dV:∀p∈ops,p.2.1.size≤1099511627776) (bR:bu (1,tx,ops)=true) (h1:decide (tx∈s.2.2)=true):
 Calls Tryz.prog 98 #[.pointer (some ⟨X,0,none⟩),.agg #[.int .i64 1,.int .i64 tx,.slice a len cap]] w (gG N w0 F0 X none):=by
 obtain⟨sa,sc,jT,zf⟩:=hK.seen.sl;subst jT;obtain⟨V,hV⟩:∃V,V=w.alloc (.cells #[.int .i64 1,.int .i64 tx,.slice a len cap] 98):=⟨_,rfl⟩;have fv:Below w.heap.size w V:=by rw[hV]; exact(Below.refl _ _).alloc (Nat.le_refl _) _
 have bI:dt w.heap.size 1 tx (.slice a len cap) V:=by rw[hV]; exact cG _ _ _ _
 have g_:=hK.below fv;have jf:=g_.box.lt;have mg:=bI.lt;have y1:=last.On.cell (B:=V.heap.size) g_.box.cells.2.1 jf;have y2:=last.On.cell (B:=V.heap.size) bI.cells.2.1 mg;have lP:∀x9:last.On V.heap.size V,Calls Tryz.prog 137 #[.slice ah s.2.1.length ch,.int .i64 tx] x9.w fun e w'=>e=.returned (.int .i64 (fL (aR tx s.2.1)))∧∃y9:last.On V.heap.size V,w'=y9.w:=fun x9=>last.Calls.on x9 (Nat.le_refl _) ((eA _ _ ch s.2.1 tx x9.w (g_.held.below x9.2).sl).mono (fun e w' h=>⟨h.1,h.2 ▸ Below.refl _ _⟩))
 have br:=last.On.iq V.heap.size V;have HV:=Hid.mk' hV.symm;clear hV;generalize hP:fL (aR tx s.2.1)=P at lP;aj Tryz.func98,Tryz.ntmps98;ab fail;rw[HV.out];refine last.ar V.heap.size (by aa) (by aa) ?_
 repeat(ai ((ao 137; ag exact lP _)))
 refine wpQuiet_nil ?_;intro w1 bL;obtain⟨x1,bL⟩:=bL;have a_:Below V.heap.size V w1:=by rw[bL]; exact x1.2
 clear bL x1;have dM:=bI.below a_;have wV:=g_.below a_;have fl:=Hid.mk' (eh 1 tx a len cap ops w1 ((dT.below fv).below a_) dV);obtain⟨d0,d1,d2⟩:=dM.cells;clear y1 y2 lP br;ab fail;refine fl.out.mono ?_;rintro e w2 ⟨rfl,be⟩;rw[bR];have fy:=wV.below be;have cv:=dM.below be;have nG:=((dT.below fv).below a_).below be;have pI:=((zf.below fv).below a_).below be;clear d0 d1 d2 fl HV dM bI g_ jf mg;obtain⟨d0,d1,d2⟩:=cv.cells;have fm:=fy.box.lt;have dF:=cv.lt;have o0:=last.On.cell (B:=w2.heap.size) fy.box.cells.1 fm;have o1:=last.On.cell (B:=w2.heap.size) fy.box.cells.2.1 fm;have o2:=last.On.cell (B:=w2.heap.size) fy.box.cells.2.2 fm;have o3:=last.On.cell (B:=w2.heap.size) cv.cells.1 dF;have o4:=last.On.cell (B:=w2.heap.size) cv.cells.2.1 dF;have o5:=last.On.cell (B:=w2.heap.size) cv.cells.2.2 dF
 have kC:=last.On.iq w2.heap.size w2;have jF:∀x9:last.On w2.heap.size w2,Calls Tryz.prog 102 #[.slice sa s.2.2.length sc,.int .i64 tx] x9.w fun e w'=>e=.returned (.bool (decide (tx∈s.2.2)))∧∃y9:last.On w2.heap.size w2,w'=y9.w:=fun x9=>last.Calls.on x9 (Nat.le_refl _) ((cX sa s.2.2.length sc s.2.2 tx x9.w (pI.below x9.2)).mono (fun e w' h=>⟨h.1,h.2 ▸ Below.refl _ _⟩))
 have EN:∀x9:last.On w2.heap.size w2,Calls Tryz.prog 139 #[.slice ah s.2.1.length ch,.slice a len cap] x9.w fun e w'=>e=.returned (.bool (locked s.2.1 ops))∧∃y9:last.On w2.heap.size w2,w'=y9.w:=fun x9=>last.Calls.on x9 (Nat.le_refl _) (jE _ _ ch s.2.1 a len cap ops x9.w (fy.held.below x9.2).sl (nG.below x9.2))
 have Gd:∀x9:last.On w2.heap.size w2,Calls Tryz.prog 140 #[.slice am nm cm,.slice a len cap] x9.w fun e w'=>e=.returned (.bool (meets s.1 ops))∧∃y9:last.On w2.heap.size w2,w'=y9.w:=fun x9=>last.Calls.on x9 (Nat.le_refl _) (kr _ nm cm s.1 a len cap ops x9.w (fy.m.below x9.2).sl (nG.below x9.2))
 rw[h1] at jF;ab fail;refine last.ar w2.heap.size (by aa) (by aa) ?_
 repeat(ai (first | (ao 102; ag exact jF _) | (ao 139; ag exact EN _) | (ao 140; ag exact Gd _)))
 refine wpQuiet_nil ?_;intro w5 cf;obtain⟨x5,cf⟩:=cf;have dx:Below w2.heap.size w2 w5:=by rw[cf]; exact x5.2
 clear cf x5 kC o0 o1 o2 o3 o4 o5 jF EN Gd d0 d1 d2;have sg:=fy.below dx;ab fail;an;exact⟨rfl,sg.fr⟩
theorem Dw(N:Prop)(w0:World)(F0:List Nat)(w:World)(X:Nat)(am:Option Addr)(nm cm:Nat)(ah:Option Addr)(ch:Nat)(vs:Value)(s:St)(hs:List Value)(tx:Int)(a:Option Addr)(len cap:Nat)(ops:List Od)
 (hK:Kept N w0 F0 w X am nm cm ah ch vs s hs) (dT:dS w a len ops) (dV:∀p∈ops,p.2.1.size≤1099511627776) (bR:bu (1,tx,ops)=true) (h1:decide (tx∈s.2.2)=false) (h2:locked s.2.1 ops=true):
 Calls Tryz.prog 98 #[.pointer (some ⟨X,0,none⟩),.agg #[.int .i64 1,.int .i64 tx,.slice a len cap]] w (gG N w0 F0 X none):=by
 obtain⟨sa,sc,jT,zf⟩:=hK.seen.sl;subst jT;obtain⟨V,hV⟩:∃V,V=w.alloc (.cells #[.int .i64 1,.int .i64 tx,.slice a len cap] 98):=⟨_,rfl⟩;have fv:Below w.heap.size w V:=by rw[hV]; exact(Below.refl _ _).alloc (Nat.le_refl _) _
 have bI:dt w.heap.size 1 tx (.slice a len cap) V:=by rw[hV]; exact cG _ _ _ _
 have g_:=hK.below fv;have jf:=g_.box.lt;have mg:=bI.lt;have y1:=last.On.cell (B:=V.heap.size) g_.box.cells.2.1 jf;have y2:=last.On.cell (B:=V.heap.size) bI.cells.2.1 mg;have lP:∀x9:last.On V.heap.size V,Calls Tryz.prog 137 #[.slice ah s.2.1.length ch,.int .i64 tx] x9.w fun e w'=>e=.returned (.int .i64 (fL (aR tx s.2.1)))∧∃y9:last.On V.heap.size V,w'=y9.w:=fun x9=>last.Calls.on x9 (Nat.le_refl _) ((eA _ _ ch s.2.1 tx x9.w (g_.held.below x9.2).sl).mono (fun e w' h=>⟨h.1,h.2 ▸ Below.refl _ _⟩))
 have br:=last.On.iq V.heap.size V;have HV:=Hid.mk' hV.symm;clear hV;generalize hP:fL (aR tx s.2.1)=P at lP;aj Tryz.func98,Tryz.ntmps98;ab fail;rw[HV.out];refine last.ar V.heap.size (by aa) (by aa) ?_
 repeat(ai ((ao 137; ag exact lP _)))
 refine wpQuiet_nil ?_;intro w1 bL;obtain⟨x1,bL⟩:=bL;have a_:Below V.heap.size V w1:=by rw[bL]; exact x1.2
 clear bL x1;have dM:=bI.below a_;have wV:=g_.below a_;have fl:=Hid.mk' (eh 1 tx a len cap ops w1 ((dT.below fv).below a_) dV);obtain⟨d0,d1,d2⟩:=dM.cells;clear y1 y2 lP br;ab fail;refine fl.out.mono ?_;rintro e w2 ⟨rfl,be⟩;rw[bR];have fy:=wV.below be;have cv:=dM.below be;have nG:=((dT.below fv).below a_).below be;have pI:=((zf.below fv).below a_).below be;clear d0 d1 d2 fl HV dM bI g_ jf mg;obtain⟨d0,d1,d2⟩:=cv.cells;have fm:=fy.box.lt;have dF:=cv.lt;have o0:=last.On.cell (B:=w2.heap.size) fy.box.cells.1 fm;have o1:=last.On.cell (B:=w2.heap.size) fy.box.cells.2.1 fm;have o2:=last.On.cell (B:=w2.heap.size) fy.box.cells.2.2 fm;have o3:=last.On.cell (B:=w2.heap.size) cv.cells.1 dF;have o4:=last.On.cell (B:=w2.heap.size) cv.cells.2.1 dF;have o5:=last.On.cell (B:=w2.heap.size) cv.cells.2.2 dF
 have kC:=last.On.iq w2.heap.size w2;have jF:∀x9:last.On w2.heap.size w2,Calls Tryz.prog 102 #[.slice sa s.2.2.length sc,.int .i64 tx] x9.w fun e w'=>e=.returned (.bool (decide (tx∈s.2.2)))∧∃y9:last.On w2.heap.size w2,w'=y9.w:=fun x9=>last.Calls.on x9 (Nat.le_refl _) ((cX sa s.2.2.length sc s.2.2 tx x9.w (pI.below x9.2)).mono (fun e w' h=>⟨h.1,h.2 ▸ Below.refl _ _⟩))
 have EN:∀x9:last.On w2.heap.size w2,Calls Tryz.prog 139 #[.slice ah s.2.1.length ch,.slice a len cap] x9.w fun e w'=>e=.returned (.bool (locked s.2.1 ops))∧∃y9:last.On w2.heap.size w2,w'=y9.w:=fun x9=>last.Calls.on x9 (Nat.le_refl _) (jE _ _ ch s.2.1 a len cap ops x9.w (fy.held.below x9.2).sl (nG.below x9.2))
 have Gd:∀x9:last.On w2.heap.size w2,Calls Tryz.prog 140 #[.slice am nm cm,.slice a len cap] x9.w fun e w'=>e=.returned (.bool (meets s.1 ops))∧∃y9:last.On w2.heap.size w2,w'=y9.w:=fun x9=>last.Calls.on x9 (Nat.le_refl _) (kr _ nm cm s.1 a len cap ops x9.w (fy.m.below x9.2).sl (nG.below x9.2))
 rw[h1] at jF;rw[h2] at EN;ab fail;refine last.ar w2.heap.size (by aa) (by aa) ?_
 repeat(ai (first | (ao 102; ag exact jF _) | (ao 139; ag exact EN _) | (ao 140; ag exact Gd _)))
 refine wpQuiet_nil ?_;intro w5 cf;obtain⟨x5,cf⟩:=cf;have dx:Below w2.heap.size w2 w5:=by rw[cf]; exact x5.2
 clear cf x5 kC o0 o1 o2 o3 o4 o5 jF EN Gd d0 d1 d2;have sg:=fy.below dx;ab fail;an;exact⟨rfl,sg.fr⟩
theorem Ge(N:Prop)(w0:World)(F0:List Nat)(w:World)(X:Nat)(am:Option Addr)(nm cm:Nat)(ah:Option Addr)(ch:Nat)(vs:Value)(s:St)(hs:List Value)(tx:Int)(a:Option Addr)(len cap:Nat)(ops:List Od)
 (hK:Kept N w0 F0 w X am nm cm ah ch vs s hs) (dT:dS w a len ops) (dV:∀p∈ops,p.2.1.size≤1099511627776) (bR:bu (1,tx,ops)=true) (h1:decide (tx∈s.2.2)=false) (h2:locked s.2.1 ops=false) (h3:meets s.1 ops=false):
 Calls Tryz.prog 98 #[.pointer (some ⟨X,0,none⟩),.agg #[.int .i64 1,.int .i64 tx,.slice a len cap]] w (gG N w0 F0 X none):=by
 obtain⟨sa,sc,jT,zf⟩:=hK.seen.sl;subst jT;obtain⟨V,hV⟩:∃V,V=w.alloc (.cells #[.int .i64 1,.int .i64 tx,.slice a len cap] 98):=⟨_,rfl⟩;have fv:Below w.heap.size w V:=by rw[hV]; exact(Below.refl _ _).alloc (Nat.le_refl _) _
 have bI:dt w.heap.size 1 tx (.slice a len cap) V:=by rw[hV]; exact cG _ _ _ _
 have g_:=hK.below fv;have jf:=g_.box.lt;have mg:=bI.lt;have y1:=last.On.cell (B:=V.heap.size) g_.box.cells.2.1 jf;have y2:=last.On.cell (B:=V.heap.size) bI.cells.2.1 mg;have lP:∀x9:last.On V.heap.size V,Calls Tryz.prog 137 #[.slice ah s.2.1.length ch,.int .i64 tx] x9.w fun e w'=>e=.returned (.int .i64 (fL (aR tx s.2.1)))∧∃y9:last.On V.heap.size V,w'=y9.w:=fun x9=>last.Calls.on x9 (Nat.le_refl _) ((eA _ _ ch s.2.1 tx x9.w (g_.held.below x9.2).sl).mono (fun e w' h=>⟨h.1,h.2 ▸ Below.refl _ _⟩))
 have br:=last.On.iq V.heap.size V;have HV:=Hid.mk' hV.symm;clear hV;generalize hP:fL (aR tx s.2.1)=P at lP;aj Tryz.func98,Tryz.ntmps98;ab fail;rw[HV.out];refine last.ar V.heap.size (by aa) (by aa) ?_
 repeat(ai ((ao 137; ag exact lP _)))
 refine wpQuiet_nil ?_;intro w1 bL;obtain⟨x1,bL⟩:=bL;have a_:Below V.heap.size V w1:=by rw[bL]; exact x1.2
 clear bL x1;have dM:=bI.below a_;have wV:=g_.below a_;have fl:=Hid.mk' (eh 1 tx a len cap ops w1 ((dT.below fv).below a_) dV);obtain⟨d0,d1,d2⟩:=dM.cells;clear y1 y2 lP br;ab fail;refine fl.out.mono ?_;rintro e w2 ⟨rfl,be⟩;rw[bR];have fy:=wV.below be;have cv:=dM.below be;have nG:=((dT.below fv).below a_).below be;have pI:=((zf.below fv).below a_).below be;clear d0 d1 d2 fl HV dM bI g_ jf mg;obtain⟨d0,d1,d2⟩:=cv.cells;have fm:=fy.box.lt;have dF:=cv.lt;have o0:=last.On.cell (B:=w2.heap.size) fy.box.cells.1 fm;have o1:=last.On.cell (B:=w2.heap.size) fy.box.cells.2.1 fm;have o2:=last.On.cell (B:=w2.heap.size) fy.box.cells.2.2 fm;have o3:=last.On.cell (B:=w2.heap.size) cv.cells.1 dF;have o4:=last.On.cell (B:=w2.heap.size) cv.cells.2.1 dF;have o5:=last.On.cell (B:=w2.heap.size) cv.cells.2.2 dF
 have kC:=last.On.iq w2.heap.size w2;have jF:∀x9:last.On w2.heap.size w2,Calls Tryz.prog 102 #[.slice sa s.2.2.length sc,.int .i64 tx] x9.w fun e w'=>e=.returned (.bool (decide (tx∈s.2.2)))∧∃y9:last.On w2.heap.size w2,w'=y9.w:=fun x9=>last.Calls.on x9 (Nat.le_refl _) ((cX sa s.2.2.length sc s.2.2 tx x9.w (pI.below x9.2)).mono (fun e w' h=>⟨h.1,h.2 ▸ Below.refl _ _⟩))
 have EN:∀x9:last.On w2.heap.size w2,Calls Tryz.prog 139 #[.slice ah s.2.1.length ch,.slice a len cap] x9.w fun e w'=>e=.returned (.bool (locked s.2.1 ops))∧∃y9:last.On w2.heap.size w2,w'=y9.w:=fun x9=>last.Calls.on x9 (Nat.le_refl _) (jE _ _ ch s.2.1 a len cap ops x9.w (fy.held.below x9.2).sl (nG.below x9.2))
 have Gd:∀x9:last.On w2.heap.size w2,Calls Tryz.prog 140 #[.slice am nm cm,.slice a len cap] x9.w fun e w'=>e=.returned (.bool (meets s.1 ops))∧∃y9:last.On w2.heap.size w2,w'=y9.w:=fun x9=>last.Calls.on x9 (Nat.le_refl _) (kr _ nm cm s.1 a len cap ops x9.w (fy.m.below x9.2).sl (nG.below x9.2))
 rw[h1] at jF;rw[h2] at EN;rw[h3] at Gd;ab fail;refine last.ar w2.heap.size (by aa) (by aa) ?_
 repeat(ai (first | (ao 102; ag exact jF _) | (ao 139; ag exact EN _) | (ao 140; ag exact Gd _)))
 refine wpQuiet_nil ?_;intro w5 cf;obtain⟨x5,cf⟩:=cf;have dx:Below w2.heap.size w2 w5:=by rw[cf]; exact x5.2
 clear cf x5 kC o0 o1 o2 o3 o4 o5 jF EN Gd d0 d1 d2;have sg:=fy.below dx;ab fail;an;exact⟨rfl,sg.fr⟩
end bm
end Go.Proofs.YtmibabclefgljaaGreat
