/- DrAn DrAny DrMs RecSame Big ImC -/
import Derived.Test.YtmibabclefgljaaGreatShar
import Derived.Test.YtmibabclefgljaaGreatShas
import Derived.Test.YtmibabclefgljaaGreatSham
import Derived.Test.YtmibabclefgljaaGreatShaa
set_option linter.unusedVariables false
set_option linter.unusedSimpArgs false
set_option maxRecDepth 100000
set_option maxHeartbeats 12000000
namespace Go.Proofs.YtmibabclefgljaaGreat
namespace bm
open Go Go.RowKit base aE aX dG gO lay draw
structure AnyS (s:de):Prop where
 bd:xz s
 tU:cD s→mX s.2.1
 E1:∀r∈s.2.1,r.2.1≤6∨1000000≤r.2.1
 id:(Lit.int .i64 s.1).wf=true
 sure:(Lit.int .i64 s.2.2.1).wf=true
theorem eS.any{s:de}(h:eS s):AnyS s:=by
 have h1:=h.right.id;have h2:=h.right.sure;have h3:=h.right.room;exact⟨J4 h.right,fun _=>h.tU,fun r hr=>.inl (h.E1 r hr).2,WalkArith.wf_i64 (by omega),WalkArith.wf_i64 (by omega)⟩
theorem eS.PL{s:de}(h:eS s){z:Int}(hz: -1≤z∧z≤8):AnyS (z,s.2.1,s.2.2.1,s.2.2.2.1,s.2.2.2.2):=by
 have ha:=h.any;have zA:(Lit.int .i64 z).wf=true:=WalkArith.wf_i64 (by omega)
 exact⟨⟨ha.bd.jS,ha.bd.Ag,ha.bd.log,ha.bd.map,ha.bd.held,ha.bd.qP⟩,fun _=>h.tU,ha.E1,zA,ha.sure⟩
theorem eS.J6{s:de}(h:eS s){z:Int}(hz: -1≤z∧z≤301):AnyS (s.1,s.2.1,z,s.2.2.2.1,s.2.2.2.2):=by
 have ha:=h.any;have zA:(Lit.int .i64 z).wf=true:=WalkArith.wf_i64 (by omega)
 exact⟨⟨ha.bd.jS,ha.bd.Ag,ha.bd.log,ha.bd.map,ha.bd.held,ha.bd.qP⟩,fun _=>h.tU,ha.E1,ha.id,zA⟩
theorem eS.small{s:de}(h:eS s):s.2.1.length≤300∧s.2.2.2.1.length≤60∧s.2.2.2.2.length≤300∧GD s≤20000:=by
 have h1:=h.right.room;obtain⟨seen,hm⟩:=h.right.made;have h2:=((kW _).1 (r7 hm).1).2;have h3:=um (fun r hr=>(my (h.right.bu r hr)).1)
 have h4:=um (l:=s.2.2.2.2) (fun r hr=>(my (h.right.bu r (h.right.pq r hr).1)).1)
 simp only[] at h2;refine⟨by omega,by omega,by omega,?_⟩
 unfold GD;omega
theorem eS.any_map{s:de}(h:eS s)(p:Pr):AnyS (s.1,s.2.1,s.2.2.1,s.2.2.2.1++[p],s.2.2.2.2):=by
 have ha:=h.any;obtain⟨_,h2,_,h4⟩:=h.small;refine⟨⟨ha.bd.jS,ha.bd.Ag,ha.bd.log,?_,ha.bd.held,?_⟩,fun _=>h.tU,ha.E1,ha.id,ha.sure⟩
 · show(s.2.2.2.1++[p]).length≤1048576;rw[List.length_append,List.length_singleton]; omega
 · unfold GD at h4 ⊢;show kT s.2.1+2 * (s.2.2.2.1++[p]).length+kT s.2.2.2.2≤3145728;rw[List.length_append,List.length_singleton]; omega
theorem eS.MJ{s:de}(h:eS s){r:Rc}(hr:vB r)(hf:PI r.2.1):AnyS (s.1,s.2.1++[r],s.2.2.1,s.2.2.2.1,s.2.2.2.2):=by
 have ha:=h.any;obtain⟨h1,h2,h3,h4⟩:=h.small;refine⟨⟨fun x hx=>?_,ha.bd.Ag,?_,ha.bd.map,ha.bd.held,?_⟩,fun hR=>?_,fun x hx=>?_,ha.id,ha.sure⟩
 · rcases List.mem_append.1 hx with e | e
   · exact ha.bd.jS x e
   · rw[List.mem_singleton.1 e];refine⟨by have:=hr.2.2.1; omega,fun p hp=>?_⟩
     have:=(hr.2.2.2 p hp).2.2.1;omega
 · show(s.2.1++[r]).length≤1048576;rw[List.length_append,List.length_singleton]; omega
 · unfold GD at h4 ⊢;show kT (s.2.1++[r])+2 * s.2.2.2.1.length+kT s.2.2.2.2≤3145728;have e:kT [r]≤26:=by
    have:=hr.2.2.1;simp[kT]; omega
   rw[Bd]; omega
 · obtain⟨seen,hm⟩:=h.right.made;refine h.tU.snoc fun t ht=>?_
   obtain⟨sn,jU⟩:=hR.made;have jU:replay (s.2.1++[r])=some (s.2.2.2.1,s.2.2.2.2,sn):=jU;rw[jU] at ht;cases ht;have zY:=h.tU.whole hm;exact zY
 · rcases List.mem_append.1 hx with e | e
   · exact ha.E1 x e
   · rw[List.mem_singleton.1 e];rcases hf with e | e
     · exact .inl (by omega)
     · exact .inr e
/-! ### what is written into a shard that lies in a block -/
section
variable{w w':World}{X:Nat}{T:TypeId}{pre post:List Value}{la ma ha:Option Addr}{ln lc mn mc hn hc:Nat}{s:de}{F:List Nat}
theorem gW.S5(h:gW w X T pre post la ln lc ma mn mc ha hn hc s F)(z:Int)(hz:(Lit.int .i64 z).wf=true):gW (w.setCell ⟨X,pre.length,none⟩ (.int .i64 z)) X T pre post la ln lc ma mn mc ha hn hc (z,s.2.1,s.2.2.1,s.2.2.2.1,s.2.2.2.2) F∧w.grownBy (w.setCell ⟨X,pre.length,none⟩ (.int .i64 z)) (some X):=by
 have c:=h.box.set 0 (by simp[aU]) (.int .i64 z)
 rw[Nat.add_zero] at c;have hO:=h.own.keep (w':=w.setCell ⟨X,pre.length,none⟩ (.int .i64 z)) (fun j hj=>c.2.block j (h.own.lt j hj) (fun e=>h.out (by rw[←Option.some.inj e]; exact hj)))
 exact⟨⟨c.1,⟨hz,hO.sure,hO.log,hO.map,hO.nodup⟩,h.out⟩,c.2⟩
theorem gW.MK(h:gW w X T pre post la ln lc ma mn mc ha hn hc s F)(z:Int)(hz:(Lit.int .i64 z).wf=true):gW (w.setCell ⟨X,pre.length+2,none⟩ (.int .i64 z)) X T pre post la ln lc ma mn mc ha hn hc (s.1,s.2.1,z,s.2.2.2.1,s.2.2.2.2) F∧w.grownBy (w.setCell ⟨X,pre.length+2,none⟩ (.int .i64 z)) (some X):=by
 have c:=h.box.set 2 (by simp[aU]) (.int .i64 z)
 have hO:=h.own.keep (w':=w.setCell ⟨X,pre.length+2,none⟩ (.int .i64 z)) (fun j hj=>c.2.block j (h.own.lt j hj) (fun e=>h.out (by rw[←Option.some.inj e]; exact hj)))
 exact⟨⟨c.1,⟨hO.id,hz,hO.log,hO.map,hO.nodup⟩,h.out⟩,c.2⟩
theorem gW.PM{w8:World}{g8 n8 c8:Nat}{m8:List Pr}(h:gW w X T pre post la ln lc ma mn mc ha hn hc s F)(hg:w.grownBy w8 (Value.slice ma mn mc).ownBlock)(J7:eG w8 (some ⟨g8,0,none⟩) n8 c8 m8)(fF:(Value.slice ma mn mc).ownBlock=some g8∨(g8∉F∧g8≠X)):
 ∃F',gW (w8.setCell ⟨X,pre.length+3,none⟩ (.slice (some ⟨g8,0,none⟩) n8 c8)) X T pre post la ln lc (some ⟨g8,0,none⟩) n8 c8 ha hn hc (s.1,s.2.1,s.2.2.1,m8,s.2.2.2.2) F'∧lay.Frame (X::F) w (w8.setCell ⟨X,pre.length+3,none⟩ (.slice (some ⟨g8,0,none⟩) n8 c8))∧∀k∈F',k∈F∨k=g8:=by
 obtain⟨hl,uk,hh,rq,d_⟩:=h.own.log;have eo:=h.own.nodup;have jH:=h.out;have NX:∀k,(Value.slice ma mn mc).ownBlock=some k→k∈F:=fun k e=>by rw[d_]; exact List.mem_append.2 (.inr (List.mem_append.2 (.inl (by simp[e]))))
 have H4:∀k,dq (.slice la ln lc) hl k→k∈F:=fun k e=>by rw[d_]; exact List.mem_append.2 (.inl (aJ.2 e))
 have ML:∀k,dq (.slice ha hn hc) hh k→k∈F:=fun k e=>by rw[d_]; exact List.mem_append.2 (.inr (List.mem_append.2 (.inr (aJ.2 e))))
 have hnd0:=eo;rw[d_] at eo;obtain⟨n1,n2,n3⟩:=a7 eo;obtain⟨n4,n5,n6⟩:=a7 n2;have Vd:∀k,dq (.slice la ln lc) hl k→(Value.slice ma mn mc).ownBlock≠some k:=fun k e e2=>n3 k (aJ.2 e) (List.mem_append.2 (.inl (by simp[e2])))
 have Z7:∀k,dq (.slice ha hn hc) hh k→(Value.slice ma mn mc).ownBlock≠some k:=fun k e e2=>n6 k (by simp[e2]) (aJ.2 e)
 have RJ:=h.box.grown hg (fun e=>jH (NX X e.symm))
 have Gn:=uk.bl fun k hk=>hg.block k (uk.lt k hk).2 (fun e=>Vd k hk e.symm)
 have J8:=rq.bl fun k hk=>hg.block k (rq.lt k hk).2 (fun e=>Z7 k hk e.symm)
 have c:=RJ.set 3 (by simp[aU]) (.slice (some ⟨g8,0,none⟩) n8 c8)
 have Ve:g8≠X:=by
  rcases fF with e | e
  · exact fun e2=>jH (NX X (by rw[←e2]; exact e))
  · exact e.2
 have Bl:=Gn.bl fun k hk=>c.2.block k (Gn.lt k hk).2 (fun e=>jH (by rw[←Option.some.inj e]; exact H4 k hk))
 have PN:=J8.bl fun k hk=>c.2.block k (J8.lt k hk).2 (fun e=>jH (by rw[←Option.some.inj e]; exact ML k hk))
 have PO:=J7.cc fun k hk=>c.2.block k (J7.lt k hk) (fun e=>Ve (by
  have e2:g8=k:=by have q:=hk; simp[Value.ownBlock] at q; omega
  rw[e2]; exact Option.some.inj e))
 refine⟨ou (.slice la ln lc) hl++((Value.slice (some ⟨g8,0,none⟩) n8 c8).ownBlock.toList++ou (.slice ha hn hc) hh),⟨c.1,⟨h.own.id,h.own.sure,⟨hl,Bl,hh,PN,rfl⟩,PO,?_⟩,?_⟩,?_,?_⟩
 · have S6:∀k,k∈ou (.slice la ln lc) hl∨k∈ou (.slice ha hn hc) hh→k≠g8:=fun k hk e=>by
    rcases fF with e2 | e2
    · rcases hk with e3 | e3
      · exact Vd k (aJ.1 e3) (by rw[e]; exact e2)
      · exact Z7 k (aJ.1 e3) (by rw[e]; exact e2)
    · rcases hk with e3 | e3
      · exact e2.1 (by rw[←e]; exact H4 k (aJ.1 e3))
      · exact e2.1 (by rw[←e]; exact ML k (aJ.1 e3))
   refine bZ n1 (bZ (by simp[Value.ownBlock]) n5 (fun k hk iu=>?_)) (fun k hk iu=>?_)
   · have e2:g8=k:=by have q:=hk; simp[Value.ownBlock] at q; omega
     exact S6 k (.inr iu) e2.symm
   · rcases List.mem_append.1 iu with e3 | e3
     · have e2:g8=k:=by have q:=e3; simp[Value.ownBlock] at q; omega
       exact S6 k (.inl hk) e2.symm
     · exact n3 k hk (List.mem_append.2 (.inr e3))
 · intro e;rcases List.mem_append.1 e with e3 | e3
   · exact jH (H4 X (aJ.1 e3))
   · rcases List.mem_append.1 e3 with e3 | e3
     · have e2:g8=X:=by have q:=e3; simp[Value.ownBlock] at q; omega
       exact Ve e2
     · exact jH (ML X (aJ.1 e3))
 · exact((lay.Frame.refl (X::F) w).grown hg (fun k e=>.inl (List.mem_cons_of_mem _ (NX k e)))).grown c.2 (fun k e=>.inl (by rw[←Option.some.inj e]; exact List.mem_cons_self))
 · intro k hk;rcases List.mem_append.1 hk with e3 | e3
   · exact .inl (H4 k (aJ.1 e3))
   · rcases List.mem_append.1 e3 with e3 | e3
     · have e2:g8=k:=by have q:=e3; simp[Value.ownBlock] at q; omega
       exact .inr e2.symm
     · exact .inl (ML k (aJ.1 e3))
theorem gW.PQ{w8:World}{g8 n8 c8:Nat}{v:Value}{r:Rc}{hl hh:List Value}(h:gW w X T pre post la ln lc ma mn mc ha hn hc s F)(uk:bB w 0 (.slice la ln lc) s.2.1 hl)(rq:bB w 0 (.slice ha hn hc) s.2.2.2.2 hh)(d_:F=ou (.slice la ln lc) hl++((Value.slice ma mn mc).ownBlock.toList++ou (.slice ha hn hc) hh))
 (hv:∀j,v.ownBlock=some j→j∉F∧j≠X) (hg:w.grownBy w8 (Value.slice la ln lc).ownBlock) (J7:bB w8 0 (.slice (some ⟨g8,0,none⟩) n8 c8) (s.2.1++[r]) (hl++[v])) (fF:(Value.slice la ln lc).ownBlock=some g8∨g8=w.heap.size):
 ∃F',gW (w8.setCell ⟨X,pre.length+1,none⟩ (.slice (some ⟨g8,0,none⟩) n8 c8)) X T pre post (some ⟨g8,0,none⟩) n8 c8 ma mn mc ha hn hc (s.1,s.2.1++[r],s.2.2.1,s.2.2.2.1,s.2.2.2.2) F'∧lay.Frame (X::F) w (w8.setCell ⟨X,pre.length+1,none⟩ (.slice (some ⟨g8,0,none⟩) n8 c8))∧∀k∈F',k∈F∨v.ownBlock=some k∨w.heap.size≤k:=by
 have NM:=h.own.map;have eo:=h.own.nodup;have jH:=h.out;have kF:=h.own.lt;have jf:=h.box.lt;have NX:∀k,(Value.slice ma mn mc).ownBlock=some k→k∈F:=fun k e=>by rw[d_]; exact List.mem_append.2 (.inr (List.mem_append.2 (.inl (by simp[e]))))
 have H4:∀k,dq (.slice la ln lc) hl k→k∈F:=fun k e=>by rw[d_]; exact List.mem_append.2 (.inl (aJ.2 e))
 have ML:∀k,dq (.slice ha hn hc) hh k→k∈F:=fun k e=>by rw[d_]; exact List.mem_append.2 (.inr (List.mem_append.2 (.inr (aJ.2 e))))
 rw[d_] at eo;obtain⟨n1,n2,n3⟩:=a7 eo;have Vd:∀k,(Value.slice la ln lc).ownBlock=some k→(Value.slice ma mn mc).ownBlock≠some k:=fun k e e2=>n3 k (aJ.2 (.inl e)) (List.mem_append.2 (.inl (by simp[e2])))
 have hLh:∀k,(Value.slice la ln lc).ownBlock=some k→¬dq (.slice ha hn hc) hh k:=fun k e e2=>n3 k (aJ.2 (.inl e)) (List.mem_append.2 (.inr (aJ.2 e2)))
 have RJ:=h.box.grown hg (fun e=>jH (H4 X (.inl e.symm)))
 have S7:=NM.cc fun k hk=>hg.block k (NM.lt k hk) (fun e=>Vd k e.symm hk)
 have J8:=rq.bl fun k hk=>hg.block k (rq.lt k hk).2 (fun e=>hLh k e.symm hk)
 have c:=RJ.set 1 (by simp[aU]) (.slice (some ⟨g8,0,none⟩) n8 c8)
 have sy:g8∈F∧dq (.slice la ln lc) hl g8∨g8=w.heap.size:=fF.imp_left (fun e=>⟨H4 g8 (.inl e),.inl e⟩)
 have zB:∀k,dq (.slice (some ⟨g8,0,none⟩) n8 c8) (hl++[v]) k→dq (.slice la ln lc) hl k∨v.ownBlock=some k∨k=w.heap.size:=fun k hk=>by
  rcases hk with e | ⟨y,hy,e⟩
  · have e2:g8=k:=by simpa[Value.ownBlock] using e
    rcases sy with e3 | e3
    · exact .inl (by rw[←e2]; exact e3.2)
    · exact .inr (.inr (by omega))
  · rcases List.mem_append.1 hy with e2 | e2
    · exact .inl (.inr ⟨y,e2,e⟩)
    · rw[List.mem_singleton.1 e2] at e;exact .inr (.inl e)
 have Pl:∀k,dq (.slice (some ⟨g8,0,none⟩) n8 c8) (hl++[v]) k→k≠X:=fun k hk e=>by
  rcases zB k hk with e2 | e2 | e2
  · exact jH (by rw[←e]; exact H4 k e2)
  · exact(hv k e2).2 e
  · omega
 have Bl:=J7.bl fun k hk=>c.2.block k (J7.lt k hk).2 (fun e=>Pl k hk (Option.some.inj e))
 have PN:=J8.bl fun k hk=>c.2.block k (J8.lt k hk).2 (fun e=>jH (by rw[←Option.some.inj e]; exact ML k hk))
 have PO:=S7.cc fun k hk=>c.2.block k (S7.lt k hk) (fun e=>jH (by rw[←Option.some.inj e]; exact NX k hk))
 have Xs:(ou (.slice (some ⟨g8,0,none⟩) n8 c8) (hl++[v])).Nodup:=by
  have:=dB.2 ⟨_,Bl,rfl⟩;exact k9.bU this
 refine⟨ou (.slice (some ⟨g8,0,none⟩) n8 c8) (hl++[v])++((Value.slice ma mn mc).ownBlock.toList++ou (.slice ha hn hc) hh),⟨c.1,⟨h.own.id,h.own.sure,⟨_,Bl,hh,PN,rfl⟩,PO,?_⟩,?_⟩,?_,?_⟩
 · refine bZ Xs n2 (fun k hk iu=>?_)
   have Z8:k∈F:=by
    rcases List.mem_append.1 iu with e3 | e3
    · exact NX k (by simpa using e3)
    · exact ML k (aJ.1 e3)
   rcases zB k (aJ.1 hk) with e2 | e2 | e2
   · exact n3 k (aJ.2 e2) iu
   · exact(hv k e2).1 Z8
   · have:=kF k Z8; omega
 · intro e;rcases List.mem_append.1 e with e3 | e3
   · exact Pl X (aJ.1 e3) rfl
   · rcases List.mem_append.1 e3 with e3 | e3
     · exact jH (NX X (by simpa using e3))
     · exact jH (ML X (aJ.1 e3))
 · exact((lay.Frame.refl (X::F) w).grown hg (fun k e=>.inl (List.mem_cons_of_mem _ (H4 k (.inl e))))).grown c.2 (fun k e=>.inl (by rw[←Option.some.inj e]; exact List.mem_cons_self))
 · intro k hk;rcases List.mem_append.1 hk with e3 | e3
   · rcases zB k (aJ.1 e3) with e2 | e2 | e2
     · exact .inl (H4 k e2)
     · exact .inr (.inl e2)
     · exact .inr (.inr (by omega))
   · rcases List.mem_append.1 e3 with e3 | e3
     · exact .inl (NX k (by simpa using e3))
     · exact .inl (ML k (aJ.1 e3))
end
structure E7 (w0 w wr:World) (gc:Nat) (a:Option Addr) (len cap:Nat) (code:List UInt8) (RB X:Nat) (la:Option Addr) (ln lc:Nat) (ma:Option Addr) (mn mc:Nat) (ha:Option Addr) (hn hc:Nat) (s:de) (F:List Nat):Prop where
 cur:gY w0 wr gc a len cap code
 ins:gW wr X tl [] [] la ln lc ma mn mc ha hn hc s F
 new:∀k∈X::F,w.heap.size≤k
 old:gc<w.heap.size
 base:w0.heap.size≤w.heap.size
 fr:w.grownBy wr (some gc)
 rb:aD RB tl [] zy [] wr
 rX:RB≠X
 rF:RB∉F
 rn:w.heap.size≤RB
section
variable{w0 w wr w':World}{gc:Nat}{a:Option Addr}{len cap:Nat}{code:List UInt8}{RB X:Nat}{la ma ha:Option Addr}{ln lc mn mc hn hc:Nat}{s s':de}{F F':List Nat}{BA Va Nv:Option Addr}{BB BC Vb Vc Q2 Cv:Nat}
theorem E7.gX(h:E7 w0 w wr gc a len cap code RB X la ln lc ma mn mc ha hn hc s F):gc≠X∧gc∉F∧gc≠RB:=by
 have h1:=h.old;have h2:=h.new;have h3:=h.rn;refine⟨fun e=>?_,fun e=>?_,fun e=>?_⟩
 · have:=h2 X List.mem_cons_self; omega
 · have:=h2 gc (List.mem_cons_of_mem _ e); omega
 · omega
theorem E7.step(h:E7 w0 w wr gc a len cap code RB X la ln lc ma mn mc ha hn hc s F)(Cv:gY w0 w' gc a len cap code)(hg:wr.grownBy w' (some gc)):E7 w0 w w' gc a len cap code RB X la ln lc ma mn mc ha hn hc s F:=by
 obtain⟨g1,g2,g3⟩:=h.gX;exact⟨Cv,h.ins.vC hg g1 g2,h.new,h.old,h.base,az h.fr hg,h.rb.grown hg (fun e=>g3 (Option.some.inj e).symm),h.rX,h.rF,h.rn⟩
theorem E7.below(h:E7 w0 w wr gc a len cap code RB X la ln lc ma mn mc ha hn hc s F)(hb:Below wr.heap.size wr w'):E7 w0 w w' gc a len cap code RB X la ln lc ma mn mc ha hn hc s F:=
 ⟨h.cur.below hb,h.ins.below hb,h.new,h.old,h.base,aZ h.fr hb,h.rb.below hb,h.rX,h.rF,h.rn⟩
theorem E7.wrote(h:E7 w0 w wr gc a len cap code RB X la ln lc ma mn mc ha hn hc s F)(h1:gW w' X tl [] [] BA BB BC Va Vb Vc Nv Q2 Cv s' F')(h2:lay.Frame (X::F) wr w')(h3:∀k∈F',k∈F∨(w.heap.size≤k∧k≠RB)):E7 w0 w w' gc a len cap code RB X BA BB BC Va Vb Vc Nv Q2 Cv s' F':=by
 obtain⟨g1,g2,g3⟩:=h.gX;refine⟨x_ h.cur h2 (fun e=>?_) (fun k hk=>Nat.le_trans h.base (h.new k hk)),h1,fun k hk=>?_,h.old,h.base,?_,h.rb.frame h2 (fun e=>?_),h.rX,fun e=>?_,h.rn⟩
 · rcases List.mem_cons.1 e with e | e
   · exact g1 e
   · exact g2 e
 · rcases List.mem_cons.1 hk with e | e
   · rw[e]; exact h.new X List.mem_cons_self
   · rcases h3 k e with e2 | e2
     · exact h.new k (List.mem_cons_of_mem _ e2)
     · exact e2.1
 · exact⟨h2.os.trans h.fr.os,h2.tape.trans h.fr.tape,h2.output.trans h.fr.output,Nat.le_trans h.fr.size h2.size,fun k hk bh=>(h2.block k (Nat.lt_of_lt_of_le hk h.fr.size) (fun e=>by have:=h.new k e; omega)).trans (h.fr.block k hk bh)⟩
 · rcases List.mem_cons.1 e with e | e
   · exact h.rX e
   · exact h.rF e
 · rcases h3 RB e with e | e
   · exact h.rF e
   · exact e.2 rfl
end
def J9(w0 w:World)(gc:Nat)(a:Option Addr)(len cap:Nat)(code:List UInt8)(e:Ending)(w':World):Prop:=
 ∃(la:Option Addr) (ln lc:Nat) (ma:Option Addr) (mn mc:Nat) (ha:Option Addr) (hn hc:Nat) (s:de) (F:List Nat),AnyS s∧e=.returned (cd s.1 s.2.2.1 la ln lc ma mn mc ha hn hc)∧dn w' la ln lc ma mn mc ha hn hc s F∧(∀k∈F,w.heap.size≤k)∧gY w0 w' gc a len cap code∧w.grownBy w' (some gc)
theorem E7.nH{w0 w wr:World}{gc:Nat}{a:Option Addr}{len cap:Nat}{code:List UInt8}{RB X:Nat}{la ma ha:Option Addr}{ln lc mn mc hn hc:Nat}{s:de}{F:List Nat}(h:E7 w0 w wr gc a len cap code RB X la ln lc ma mn mc ha hn hc s F)(hA:AnyS s):
 wr.cell? ⟨X,0,none⟩=some (.int .i64 s.1)∧wr.cell? ⟨X,1,none⟩=some (.slice la ln lc)∧wr.cell? ⟨X,2,none⟩=some (.int .i64 s.2.2.1)∧wr.cell? ⟨X,3,none⟩=some (.slice ma mn mc)∧wr.cell? ⟨X,4,none⟩=some (.slice ha hn hc)∧
 wr.cell? ⟨RB,0,none⟩=some (.int .i64 0)∧wr.cell? ⟨RB,1,none⟩=some (.slice none 0 0)∧wr.cell? ⟨RB,2,none⟩=some (.int .i64 0)∧wr.cell? ⟨RB,3,none⟩=some (.slice none 0 0)∧wr.cell? ⟨RB,4,none⟩=some (.slice none 0 0)∧
 wr.frozen? ⟨RB,0,none⟩=false∧wr.frozen? ⟨RB,1,none⟩=false∧wr.frozen? ⟨RB,2,none⟩=false∧wr.frozen? ⟨RB,3,none⟩=false∧wr.frozen? ⟨RB,4,none⟩=false∧
 ((((((wr.setCell ⟨RB,0,none⟩ (.int .i64 s.1)).setCell ⟨RB,1,none⟩ (.slice la ln lc)).setCell ⟨RB,2,none⟩ (.int .i64 s.2.2.1)).setCell ⟨RB,3,none⟩ (.slice ma mn mc)).setCell ⟨RB,4,none⟩ (.slice ha hn hc)).cell? ⟨RB,0,none⟩=some (.int .i64 s.1)∧
 (((((wr.setCell ⟨RB,0,none⟩ (.int .i64 s.1)).setCell ⟨RB,1,none⟩ (.slice la ln lc)).setCell ⟨RB,2,none⟩ (.int .i64 s.2.2.1)).setCell ⟨RB,3,none⟩ (.slice ma mn mc)).setCell ⟨RB,4,none⟩ (.slice ha hn hc)).cell? ⟨RB,1,none⟩=some (.slice la ln lc)∧
 (((((wr.setCell ⟨RB,0,none⟩ (.int .i64 s.1)).setCell ⟨RB,1,none⟩ (.slice la ln lc)).setCell ⟨RB,2,none⟩ (.int .i64 s.2.2.1)).setCell ⟨RB,3,none⟩ (.slice ma mn mc)).setCell ⟨RB,4,none⟩ (.slice ha hn hc)).cell? ⟨RB,2,none⟩=some (.int .i64 s.2.2.1)∧
 (((((wr.setCell ⟨RB,0,none⟩ (.int .i64 s.1)).setCell ⟨RB,1,none⟩ (.slice la ln lc)).setCell ⟨RB,2,none⟩ (.int .i64 s.2.2.1)).setCell ⟨RB,3,none⟩ (.slice ma mn mc)).setCell ⟨RB,4,none⟩ (.slice ha hn hc)).cell? ⟨RB,3,none⟩=some (.slice ma mn mc)∧
 (((((wr.setCell ⟨RB,0,none⟩ (.int .i64 s.1)).setCell ⟨RB,1,none⟩ (.slice la ln lc)).setCell ⟨RB,2,none⟩ (.int .i64 s.2.2.1)).setCell ⟨RB,3,none⟩ (.slice ma mn mc)).setCell ⟨RB,4,none⟩ (.slice ha hn hc)).cell? ⟨RB,4,none⟩=some (.slice ha hn hc))∧
 Hid (J9 w0 w gc a len cap code (.returned (cd s.1 s.2.2.1 la ln lc ma mn mc ha hn hc)) (((((wr.setCell ⟨RB,0,none⟩ (.int .i64 s.1)).setCell ⟨RB,1,none⟩ (.slice la ln lc)).setCell ⟨RB,2,none⟩ (.int .i64 s.2.2.1)).setCell ⟨RB,3,none⟩ (.slice ma mn mc)).setCell ⟨RB,4,none⟩ (.slice ha hn hc))):=by
 have b:=h.ins.box;have q0:=b.cell 0 _ rfl;have q1:=b.cell 1 _ rfl;have q2:=b.cell 2 _ rfl;have q3:=b.cell 3 _ rfl;have q4:=b.cell 4 _ rfl;have r:=h.rb;have z0:=r.cell 0 _ rfl;have z1:=r.cell 1 _ rfl;have z2:=r.cell 2 _ rfl;have z3:=r.cell 3 _ rfl;have z4:=r.cell 4 _ rfl;have cP:=r.nH (.int .i64 s.1) (.slice la ln lc) (.int .i64 s.2.2.1) (.slice ma mn mc) (.slice ha hn hc);simp only[List.length_nil,Nat.zero_add] at q0 q1 q2 q3 q4 z0 z1 z2 z3 z4 cP;obtain⟨g1,g2,g3⟩:=h.gX;have rS:=Nat.le_trans h.base h.rn;have jL:=h.ins.own.keep (fun j hj=>cP.2.block j (h.ins.own.lt j hj) (fun e=>h.rF (by rw[←Option.some.inj e]; exact hj)))
 have lM:=h.cur.grown cP.2 (fun e=>g3 (Option.some.inj e)) (fun k e=>by cases e; exact rS)
 have qz:w.grownBy _ (some gc):=⟨cP.2.os.trans h.fr.os,cP.2.tape.trans h.fr.tape,cP.2.output.trans h.fr.output,Nat.le_trans h.fr.size cP.2.size,fun k hk bh=>(cP.2.block k (Nat.lt_of_lt_of_le hk h.fr.size) (fun e=>by have e1:=Option.some.inj e; have e2:=h.rn; omega)).trans (h.fr.block k hk bh)⟩
 have dN:=cP.1.cell 0 _ rfl;have dO:=cP.1.cell 1 _ rfl;have dP:=cP.1.cell 2 _ rfl;have dQ:=cP.1.cell 3 _ rfl;have dR:=cP.1.cell 4 _ rfl;simp only[List.length_nil,Nat.zero_add] at dN dO dP dQ dR;exact⟨q0,q1,q2,q3,q4,z0,z1,z2,z3,z4,r.fz 0,r.fz 1,r.fz 2,r.fz 3,r.fz 4,⟨dN,dO,dP,dQ,dR⟩,⟨la,ln,lc,ma,mn,mc,ha,hn,hc,s,F,hA,rfl,jL,fun k hk=>h.new k (List.mem_cons_of_mem _ hk),lM,qz⟩⟩
end bm
namespace bm
open Go Go.RowKit base aE aX dG gO lay draw
theorem S8(w0 w:World)(gc:Nat)(a:Option Addr)(len cap:Nat)(code:List UInt8)(ff:Nat)(h:gY w0 w gc a len cap code)(hm:0<ff)(jU:ff≤1000):
 Calls Tryz.prog 50 #[.pointer (some ⟨gc,0,none⟩),.int .i64 (ff:Int)] w fun e w'=>J9 w0 w gc a len cap code e w':=by
 have cZ:=h.lt;have rS:=h.fp.size;obtain⟨i0,hi,dE,dD,cO⟩:=info_parts mR;obtain⟨j0,zw,zh,Hu,Cs⟩:=info_parts nt;obtain⟨wa,jw⟩:∃wa,w.alloc (cA 0 0 none 0 0 none 0 0 none 0 0)=wa:=⟨_,rfl⟩;have bw:Below w.heap.size w wa:=by rw[←jw]; exact eu
 have Hz:wa.heap.size=w.heap.size+1:=by rw[←jw]; simp
 have x6:aD w.heap.size tl [] zy [] wa:=by rw[←jw]; exact aO w _ _
 have x7:=Hid.mk' jw;have J_:=Hid.mk' (ME w0 wa gc a len cap code ff (h.below bw) hm jU);clear jw;aj Tryz.func50,Tryz.ntmps50;ab fail;rw[x7.out];refine J_.out.mono ?_;rintro e w1 ⟨la,ln,lc,ma,mn,mc,ha,hn,hc,s,F,hD,rfl,qN,uj,gL,ij⟩;clear J_ x7;obtain⟨v1,o8⟩:∃v1,w1.alloc (cA s.1 s.2.2.1 la ln lc ma mn mc ha hn hc)=v1:=⟨_,rfl⟩;have a_:Below w1.heap.size w1 v1:=by rw[←o8]; exact eu
 have wo:=lR qN;rw[o8] at wo;have ud:=ij.size;have pL:E7 w0 w v1 gc a len cap code w.heap.size w1.heap.size la ln lc ma mn mc ha hn hc s F:=
  ⟨gL.below a_,wo,fun k hk=>by
   rcases List.mem_cons.1 hk with e | e
   · omega
   · have:=uj k e; omega,cZ,rS,aZ (az (aZ (World.grownBy.refl _ _) bw) ij) a_,(x6.grown ij (fun e=>by have:=Option.some.inj e; omega)).below a_,by omega,fun e=>by have:=uj _ e; omega,Nat.le_refl _⟩
 have vD:=Hid.mk' (cH w0 v1 gc a len cap code 12 pL.cur (by omega) (by omega))
 rw[←o8] at vD;have BG:=Hid.mk' o8;obtain⟨l1,l2,l3⟩:=wo.lens;have fk:=hD.small;have sw:ln≤300:=by omega
 have hmn:mn≤60:=by omega
 have Z9:=Hid.mk' l1;clear l1 l2 l3 fk Hz;clear o8 wo qN x6 gL ij a_ bw;ab fail;refine vD.out.mono ?_;rw[BG.out];rintro e w2 ⟨x,hx,rfl,ei,lU⟩;have dh:=pL.step ei lU;clear vD BG pL ei lU;have O2:=dh.ins.box.lt;have WM:=dh.new w1.heap.size List.mem_cons_self;by_cases x0:x=0
 · subst x0;obtain⟨w4,iX⟩:∃w4,w2.alloc (.cells #[.int .i64 (-1),.int .i64 7,.int .i64 8] 3)=w4:=⟨_,rfl⟩;have eR:Below w2.heap.size w2 w4:=by rw[←iX]; exact eu
   have lO:w4.heap[w2.heap.size]? =some (.cells #[.int .i64 (-1),.int .i64 7,.int .i64 8] 3):=by rw[←iX]; exact heap_alloc_new w2 _
   have fT:=dh.below eR;have nv:=Hid.mk' (vw w0 w4 gc a len cap code w2.heap.size 3 3 _ _ fT.cur lO rfl (by omega) (by omega) (by omega) (fun z=>decide (-1≤z∧z≤8)=true) (iL _ 3 (fun z=>decide (-1≤z∧z≤8)) (by aa)))
   rw[←iX] at nv;have rT:=Hid.mk' iX;clear iX lO dh eR;ab fail;refine nv.out.mono ?_;rw[rT.out];rintro e w5 ⟨z,hz,rfl,jx,ix⟩;have Lu:=of_decide_eq_true hz;have gN:=fT.step jx ix;have pM:=hD.PL Lu;have hP:=gN.ins.S5 z pM.id;simp only[List.length_nil] at hP;have bP:=gN.wrote hP.1 ((lay.Frame.refl _ _).grown hP.2 (fun k e=>.inl (by rw[←Option.some.inj e]; exact List.mem_cons_self))) (fun k hk=>.inl hk)
   have y0:=gN.ins.box.cell 0 _ rfl;simp only[List.length_nil,Nat.zero_add] at y0;have y1:=gN.ins.box.fz 0;clear nv rT hP fT jx ix gN;obtain⟨q0,q1,q2,q3,q4,z0,z1,z2,z3,z4,f0,f1,f2,f3,f4,⟨dN,dO,dP,dQ,dR⟩,HP⟩:=bP.nH pM;have sC:w.heap.size≠w1.heap.size:=bP.rX;have tW:w1.heap.size≠w.heap.size:=fun e=>sC e.symm
   try dsimp only at q0 q1 q2 q3 q4 z0 z1 z2 z3 z4 dN dO dP dQ dR HP
   clear bP pM;ab fail;refine bodyPost_ret (v:=cd z s.2.2.1 la ln lc ma mn mc ha hn hc) ?_ rfl HP.out;simp[results,Tryz.results50,go_sem,dN,dO,dP,dQ,dR]
 by_cases x1:x=1
 · subst x1;have k1:=dh.ins.box.cell 1 _ rfl;simp only[List.length_nil,Nat.zero_add] at k1;obtain⟨w4,iX⟩:∃w4,w2.alloc (.cells #[.int .i64 (-1),.int .i64 (ln:Int),.int .i64 ((ln:Int)+1)] 3)=w4:=⟨_,rfl⟩;have eR:Below w2.heap.size w2 w4:=by rw[←iX]; exact eu
   have lO:w4.heap[w2.heap.size]? =some (.cells #[.int .i64 (-1),.int .i64 (ln:Int),.int .i64 ((ln:Int)+1)] 3):=by rw[←iX]; exact heap_alloc_new w2 _
   have fT:=dh.below eR;have nv:=Hid.mk' (vw w0 w4 gc a len cap code w2.heap.size 3 3 _ _ fT.cur lO rfl (by omega) (by omega) (by omega) (fun z=> -1≤z∧z≤301) (fun i hi=>by
    match i,hi with
    | 0,_=>exact⟨-1,rfl,by omega,by omega⟩
    | 1,_=>exact⟨(ln:Int),rfl,by omega,by omega⟩
    | 2,_=>exact⟨(ln:Int)+1,rfl,by omega,by omega⟩))
   rw[←iX] at nv;have rT:=Hid.mk' iX;clear iX lO eR dh;have tj:IntKind.i64.wrap ((ln:Int)+1)=(ln:Int)+1:=lX _ (by omega) (by omega)
   ab fail;refine nv.out.mono ?_;rw[rT.out];rintro e w5 ⟨z,Lu,rfl,jx,ix⟩;have gN:=fT.step jx ix;have pM:=hD.J6 Lu;have hP:=gN.ins.MK z pM.sure;simp only[List.length_nil,Nat.zero_add] at hP;have bP:=gN.wrote hP.1 ((lay.Frame.refl _ _).grown hP.2 (fun k e=>.inl (by rw[←Option.some.inj e]; exact List.mem_cons_self))) (fun k hk=>.inl hk)
   have y0:=gN.ins.box.cell 2 _ rfl;simp only[List.length_nil,Nat.zero_add] at y0;have y1:=gN.ins.box.fz 2;clear nv rT hP fT jx ix gN k1;obtain⟨q0,q1,q2,q3,q4,z0,z1,z2,z3,z4,f0,f1,f2,f3,f4,⟨dN,dO,dP,dQ,dR⟩,HP⟩:=bP.nH pM;have sC:w.heap.size≠w1.heap.size:=bP.rX;have tW:w1.heap.size≠w.heap.size:=fun e=>sC e.symm
   try dsimp only at q0 q1 q2 q3 q4 z0 z1 z2 z3 z4 dN dO dP dQ dR HP
   clear bP pM;ab fail;refine bodyPost_ret (v:=cd s.1 z la ln lc ma mn mc ha hn hc) ?_ rfl HP.out;simp[results,Tryz.results50,go_sem,dN,dO,dP,dQ,dR]
 by_cases x2:x=2
 · subst x2;have k3:=dh.ins.box.cell 3 _ rfl;simp only[List.length_nil,Nat.zero_add] at k3;have NM:=dh.ins.own.map;have FD:mn+1≤maxLen:=by unfold maxLen; omega
   have FE:(mn+1) * 32≤140737488355328:=by omega
   obtain⟨w4,iX⟩:∃w4,w2.alloc (.cells #[.string ⟨#[122,122,122]⟩,.string ⟨#[]⟩] 100)=w4:=⟨_,rfl⟩;have eR:Below w2.heap.size w2 w4:=by rw[←iX]; exact eu
   have Lh:Hid (∀j u,(aG [((⟨#[122,122,122]⟩:ByteArray),(⟨#[]⟩:ByteArray))])[j]? =some u→w4.cell? ((⟨w2.heap.size,0,none⟩:Addr).add j)=some u):=by rw[←iX]; exact eg w2 (⟨#[122,122,122]⟩,⟨#[]⟩) _
   have fT:=dh.below eR;have S9:=fT.ins.own.map;have JN:=Hid.mk' S9.2.2;have rT:=Hid.mk' iX;have hs24:=eR.size;clear iX dh;ab (ak; rw[rT.out]; refine wpList_append_lies _ rfl (.tmp 33) (.tmp 35) 37 rfl 0 100 j0 (.agg #[.string ⟨#[]⟩,.string ⟨#[]⟩]) 2 32 Tryz.underlying37 zw zh Hu Cs rfl (by decide) (.slice ma mn mc) _ _ (by aa) JN.out ⟨w2.heap.size,0,none⟩ 1 1 (aG [((⟨#[122,122,122]⟩:ByteArray),(⟨#[]⟩:ByteArray))]) (by aa) rfl Lh.out (aP _) (by decide) FD FE (Nat.zero_le _) _ rfl ?_)
   intro g8 c8 w8 gi bY iW vd;have J7:eG w8 (some ⟨g8,0,none⟩) (mn+1) c8 (s.2.2.2.1++[((⟨#[122,122,122]⟩:ByteArray),(⟨#[]⟩:ByteArray))]):=⟨by simp[NM.1],fun p hp=>by
    rcases List.mem_append.1 hp with e | e
    · exact NM.2.1 p e
    · rw[List.mem_singleton.1 e]; exact⟨by decide,by decide⟩,by rw[cI]; exact gi⟩
   have hP:=fT.ins.PM bY J7 (iW.imp_right (fun e=>⟨fun e2=>by have:=fT.ins.own.lt g8 e2; omega,by omega⟩))
   simp only[List.length_nil,Nat.zero_add] at hP;obtain⟨F',S_,Ta,Tb⟩:=hP;have mg:=fT.rb.lt;have Ri:=fT.fr.size;have PR:=fT.wrote S_ Ta (fun k hk=>by
    rcases Tb k hk with e | e
    · exact .inl e
    · rcases iW with e2 | e2
      · left;rw[e];obtain⟨hl,uk,hh,rq,d_⟩:=fT.ins.own.log;rw[d_]; exact List.mem_append.2 (.inr (List.mem_append.2 (.inl (by simp[e2]))))
      · exact .inr ⟨by omega,by omega⟩)
   have pM:=hD.any_map ((⟨#[122,122,122]⟩:ByteArray),(⟨#[]⟩:ByteArray));have BH:aD w1.heap.size tl [] (aU s.1 s.2.2.1 la ln lc ma mn mc ha hn hc) [] w8:=fT.ins.box.grown bY (fun e=>fT.ins.out (by
    obtain⟨hl,uk,hh,rq,d_⟩:=fT.ins.own.log;rw[d_]; exact List.mem_append.2 (.inr (List.mem_append.2 (.inl (by simp[←e]))))))
   have e8:=BH.cell 3 _ rfl;have f8:=BH.fz 3;simp only[List.length_nil,Nat.zero_add] at e8;clear BH S_ Ta Tb J7 gi bY iW vd S9 NM JN Lh rT fT k3;obtain⟨q0,q1,q2,q3,q4,z0,z1,z2,z3,z4,f0,f1,f2,f3,f4,⟨dN,dO,dP,dQ,dR⟩,HP⟩:=PR.nH pM;have sC:w.heap.size≠w1.heap.size:=PR.rX;have tW:w1.heap.size≠w.heap.size:=fun e=>sC e.symm
   try dsimp only at q0 q1 q2 q3 q4 z0 z1 z2 z3 z4 dN dO dP dQ dR HP
   clear PR pM;ab fail;refine bodyPost_ret (v:=cd s.1 s.2.2.1 la ln lc (some ⟨g8,0,none⟩) (mn+1) c8 ha hn hc) ?_ rfl HP.out;simp[results,Tryz.results50,go_sem,dN,dO,dP,dQ,dR]
 by_cases x3:x=3
 · subst x3;obtain⟨hl,uk,hh,rq,d_⟩:=dh.ins.own.log;have mi:Below w2.heap.size w2 w2.drew:=(Below.refl _ _).drew;have GH:=dh.below mi;have Z_:=Hid.mk' (PK w0 w2.drew gc a len cap code GH.cur);have fR:ln+1≤maxLen:=by unfold maxLen; omega
   have kn:(ln+1) * 40≤140737488355328:=by omega
   ab fail;refine last.aB (S:=fun w'=>aD w1.heap.size tl [] (aU s.1 s.2.2.1 la ln lc ma mn mc ha hn hc) [] w') 7 (by aa) GH.ins.box (fun al=>?_)
   refine last.ae (i:=0) (v:=(.pointer (some ⟨w1.heap.size,1,none⟩))) rfl rfl (by aa) (by aa) (by aa) (by aa) (fun _ _ _ h=>h) (Or.inl ⟨by rfl,?_⟩) (by assumption) ?_
   · intro wq aC; af
   try simp only[Act.put,List.setIfInBounds_toArray,List.set_cons_zero,List.set_cons_succ];refine last.ae (i:=1) (v:=(.slice la ln lc)) rfl rfl (by aa) (by aa) (by aa) (by aa) (fun _ _ _ h=>h) (Or.inl ⟨by rfl,?_⟩) (by assumption) ?_
   · intro wq aC; have q:=aC.cell 1 _ rfl; simp only[List.length_nil,Nat.zero_add] at q; af
   try simp only[Act.put,List.setIfInBounds_toArray,List.set_cons_zero,List.set_cons_succ];refine last.ae (i:=2) (v:=(.pointer (some ⟨gc,0,none⟩))) rfl rfl (by aa) (by aa) (by aa) (by aa) (fun _ _ _ h=>h) (Or.inl ⟨by rfl,?_⟩) (by assumption) ?_
   · intro wq aC; af
   try simp only[Act.put,List.setIfInBounds_toArray,List.set_cons_zero,List.set_cons_succ];refine last.ax (i:=3) (o:={dst:=some 43,op:=Op.call {callee:=Callee.value (Operand.func 90),args:=#[Operand.tmp 42],argTypes:=#[51]},type:=98,pos:= "l09_shard.go:219",after:=#[{on:=2,ground:=Ground.data}],guard:=none}) (by aa) rfl (fun K hK=>?_)
   refine fM.cL rfl 90 (.tmp 42) _ rfl (fun _ _=>rfl) (.pointer (some ⟨gc,0,none⟩)) (by aa) _ Z_.out ?_
   rintro e w6 ⟨r,v6,⟨Tc,Rj⟩,rfl,p_,eU,dJ⟩;refine⟨_,rfl,?_⟩;have bP:=GH.step eU dJ;have Rk:=p_.lt;have H5:=dJ.size;have hsd:w2.drew.heap.size=w2.heap.size:=rfl;refine hK.out _ _ ?_ (fun aq=>?_)
   · exact bP.ins.box
   clear hK K al;have al:=aq;clear aq;try simp only[Act.put,List.setIfInBounds_toArray,List.set_cons_zero,List.set_cons_succ];refine last.ax (i:=4) (o:={dst:=some 44,op:=Op.buildSlice 41 1 #[(0,Operand.tmp 43)],type:=41,pos:= "l09_shard.go:219",after:=#[{on:=3,ground:=Ground.data}],guard:=none}) (by aa) rfl (fun K hK=>?_)
   af;have dd:Below w6.heap.size w6 (w6.alloc (.cells #[.int .i64 r.1,.int .i64 r.2.1,v6] 98)):=eu;have xh:=bP.below dd;refine hK.out _ _ ?_ (fun aq=>?_)
   · exact xh.ins.box
   clear hK K al;have al:=aq;clear aq;try simp only[Act.put,List.setIfInBounds_toArray,List.set_cons_zero,List.set_cons_succ];refine last.ax (i:=5) (o:={dst:=some 45,op:=Op.call {callee:=Callee.builtin Builtin.append,args:=#[Operand.tmp 41,Operand.tmp 44],argTypes:=#[41,41]},type:=41,pos:= "l09_shard.go:219",after:=#[{on:=1,ground:=Ground.data},{on:=4,ground:=Ground.data},{on:=3,ground:=Ground.chain}],guard:=none}) (by aa) rfl (fun K hK=>?_)
   have PS:=aZ (az (aZ (World.grownBy.refl w2 (some gc)) mi) dJ) dd;obtain⟨g1,g2,g3⟩:=dh.gX;have Bk:bB _ 0 (.slice la ln lc) s.2.1 hl:=uk.bl fun k hk=>PS.block k (uk.lt k hk).2 (fun e=>g2 (by rw[←Option.some.inj e,d_]; exact List.mem_append.2 (.inl (aJ.2 hk))))
   have Td:bB _ 0 (.slice ha hn hc) s.2.2.2.2 hh:=rq.bl fun k hk=>PS.block k (rq.lt k hk).2 (fun e=>g2 (by rw[←Option.some.inj e,d_]; exact List.mem_append.2 (.inr (List.mem_append.2 (.inr (aJ.2 hk))))))
   have pV:=(p_.mono (base':=0) (Nat.zero_le _)).below dd;refine step_append_lies _ rfl (.tmp 41) (.tmp 44) 41 rfl 0 98 i0 (.agg #[.int .i64 0,.int .i64 0,.slice none 0 0]) 3 40 Tryz.underlying41 hi dE dD cO rfl (by decide) (.slice la ln lc) ln (bk s.2.1 hl) (by aa) (by have q:=Bk.row; rw[←Z9.out] at q; exact q) ⟨w6.heap.size,0,none⟩ 1 1 [.int .i64 r.1,.int .i64 r.2.1,v6] (by aa) rfl (jj w6 r.1 r.2.1 _ _) (me r.1 r.2.1 p_.one) (by decide) fR kn (Nat.zero_le _) _ rfl ?_
   intro g8 c8 w8 gi bY iW vd;have Te:iA r:=⟨WalkArith.wf_i64 (by have:=Tc.1; omega),WalkArith.wf_i64 (by have:=Tc.2.1; omega),fun o ho=>tk (Tc.2.2.2 o ho)⟩
   have Xt:∀j,v6.ownBlock=some j→j∉F∧j≠w1.heap.size:=fun j hj=>by
    have h6:=Rk j hj;refine⟨fun e=>?_,fun e=>?_⟩
    · have:=dh.ins.own.lt j e; omega
    · omega
   have J7:=Bk.snoc pV Te (fun k hk hb=>(Xt k hk).1 (by rw[d_]; exact List.mem_append.2 (.inl (aJ.2 hb)))) (by rw[←Z9.out]; exact gi) bY
   have hP:=xh.ins.PQ (v:=v6) Bk Td d_ Xt bY J7 iW;simp only[List.length_nil,Nat.zero_add] at hP;obtain⟨F',S_,Ta,Tb⟩:=hP;have hXm:w1.heap.size≠w6.heap.size:=by have:=bP.ins.box.lt; omega
   have mg:=dh.rb.lt;have PR:=xh.wrote S_ Ta (fun k hk=>by
    rcases Tb k hk with e | e | e
    · exact .inl e
    · have:=Rk k e;exact .inr ⟨by have:=dh.fr.size; omega,by omega⟩
    · have h1:=dd.size;exact .inr ⟨by have:=dh.fr.size; omega,by omega⟩)
   have pM:=hD.MJ Tc Rj;have BH:aD w1.heap.size tl [] (aU s.1 s.2.2.1 la ln lc ma mn mc ha hn hc) [] w8:=xh.ins.box.grown bY (fun e=>dh.ins.out (by rw[d_]; exact List.mem_append.2 (.inl (aJ.2 (.inl e.symm)))))
   refine hK.out _ _ ?_ (fun aq=>?_)
   · exact BH
   clear hK K al;have al:=aq;clear aq;try simp only[Act.put,List.setIfInBounds_toArray,List.set_cons_zero,List.set_cons_succ];refine last.ae (i:=6) (v:=(.pointer (some ⟨w1.heap.size,1,none⟩))) rfl rfl (by aa) (by aa) (by aa) (by aa) (fun _ _ _ h=>h) (Or.inl ⟨by rfl,?_⟩) (by assumption) ?_
   · intro wq aC; af
   try simp only[Act.put,List.setIfInBounds_toArray,List.set_cons_zero,List.set_cons_succ];have e8:=BH.cell 1 _ rfl;have f8:=BH.fz 1;simp only[List.length_nil,Nat.zero_add] at e8;refine last.aL (o:={dst:=none,op:=Op.store 41 (Operand.tmp 46) (Operand.tmp 45),type:=0,pos:= "l09_shard.go:219",after:=#[{on:=6,ground:=Ground.data},{on:=5,ground:=Ground.data},{on:=5,ground:=Ground.chain},{on:=0,ground:=Ground.phase},{on:=1,ground:=Ground.phase},{on:=2,ground:=Ground.phase},{on:=3,ground:=Ground.phase},{on:=4,ground:=Ground.phase},{on:=5,ground:=Ground.phase}],guard:=none}) (by aa) rfl (by aa) (fun K hK=>?_)
   af;refine hK.out _ _ ?_;clear hK K;clear d_ Xt Rk H5 hsd Tc Rj Te hXm mg fR kn uj ud g1 g2 g3 al e8 f8 BH S_ Ta Tb J7 gi bY iW vd Bk Td pV PS xh dd bP p_ eU dJ Z_ GH mi dh uk rq;obtain⟨q0,q1,q2,q3,q4,z0,z1,z2,z3,z4,f0,f1,f2,f3,f4,⟨dN,dO,dP,dQ,dR⟩,HP⟩:=PR.nH pM;have sC:w.heap.size≠w1.heap.size:=PR.rX;have tW:w1.heap.size≠w.heap.size:=fun e=>sC e.symm
   try dsimp only at q0 q1 q2 q3 q4 z0 z1 z2 z3 z4 dN dO dP dQ dR HP
   clear PR pM;ab fail;refine bodyPost_ret (v:=cd s.1 s.2.2.1 (some ⟨g8,0,none⟩) (ln+1) c8 ma mn mc ha hn hc) ?_ rfl HP.out;simp[results,Tryz.results50,go_sem,dN,dO,dP,dQ,dR]
 · have y0:¬(x:Int)=0:=by omega
   have y1:¬(x:Int)=1:=by omega
   have y2:¬(x:Int)=2:=by omega
   have y3:¬(x:Int)=3:=by omega
   have z0':((x:Int)==0)=false:=beq_eq_false_iff_ne.2 y0;have z1':((x:Int)==1)=false:=beq_eq_false_iff_ne.2 y1;have z2':((x:Int)==2)=false:=beq_eq_false_iff_ne.2 y2;have z3':((x:Int)==3)=false:=beq_eq_false_iff_ne.2 y3;have pM:=hD.any;obtain⟨q0,q1,q2,q3,q4,z0,z1,z2,z3,z4,f0,f1,f2,f3,f4,⟨dN,dO,dP,dQ,dR⟩,HP⟩:=dh.nH pM;have sC:w.heap.size≠w1.heap.size:=dh.rX;have tW:w1.heap.size≠w.heap.size:=fun e=>sC e.symm
   try dsimp only at q0 q1 q2 q3 q4 z0 z1 z2 z3 z4 dN dO dP dQ dR HP
   clear dh pM;ab fail;refine bodyPost_ret (v:=cd s.1 s.2.2.1 la ln lc ma mn mc ha hn hc) ?_ rfl HP.out;simp[results,Tryz.results50,go_sem,dN,dO,dP,dQ,dR]
end bm
namespace bm
open Go Go.RowKit base aE aX dG gO lay draw
def NY(w:World)(e:Ending)(w':World):Prop:=
 ∃(la:Option Addr) (ln lc:Nat) (ma:Option Addr) (mn mc:Nat) (ha:Option Addr) (hn hc:Nat) (s:de) (F:List Nat),AnyS s∧e=.returned (cd s.1 s.2.2.1 la ln lc ma mn mc ha hn hc)∧dn w' la ln lc ma mn mc ha hn hc s F∧(∀k∈F,w.heap.size≤k)∧Below w.heap.size w w'
theorem Ka{w w':World}{la ma ha:Option Addr}{ln lc mn mc hn hc:Nat}{s:de}{F:List Nat}(hd:AnyS s)(h:dn w' la ln lc ma mn mc ha hn hc s F)(hF:∀k∈F,w.heap.size≤k)(hb:Below w.heap.size w w'):NY w (.returned (cd s.1 s.2.2.1 la ln lc ma mn mc ha hn hc)) w':=
 ⟨la,ln,lc,ma,mn,mc,ha,hn,hc,s,F,hd,rfl,h,hF,hb⟩
theorem yz(a:Option Addr)(len cap:Nat)(code:List UInt8)(w:World)(h:Sl w a len code)(sw:len≤1099511627776):
 Calls Tryz.prog 17 #[.slice a len cap] w (NY w):=by
 obtain⟨W,hW⟩:∃W,w.alloc (cA 0 0 none 0 0 none 0 0 none 0 0)=W:=⟨_,rfl⟩;have hB:Below w.heap.size w W:=by rw[←hW]; exact eu
 have hR:aD w.heap.size tl [] (aU 0 0 none 0 0 none 0 0 none 0 0) [] W:=by rw[←hW]; exact aO w _ _
 have jf:=hR.lt;have HW:=Hid.mk' hW;clear hW;aj Tryz.func17,Tryz.ntmps17;ab fail;rw[HW.out];refine(SI w W a len cap code h hB sw).mono ?_;rintro e w1 ⟨rfl,gL,a_⟩;have pH:=hR.below a_;have fi:=hB.trans (a_.mono hB.size);have xJ:=gL.lt;clear HW;ab fail;refine(SY a len cap 16 w1 (by omega) (by omega) sw).mono ?_
 rintro e w2 ⟨n,hn3,Xu,rfl,j_⟩;subst j_;have J_:=Hid.mk' (S8 w w2 W.heap.size a len cap code n gL (by omega) (by omega))
 ab fail;refine J_.out.mono ?_;rintro e w3 ⟨la,ln,lc,ma,mn,mc,ha,hn,hc,s,F,hD,rfl,qN,uj,fR,kQ⟩;have cR:=pH.grown kQ (fun e=>by have:=Option.some.inj e; omega)
 have cY:Below w.heap.size w w3:=fi.grown kQ fi.size (fun k e=>by cases e; exact hB.size)
 have pQ:=fi.size;have Lo:=kQ.size;have ud:=a_.size;have R9:=hB.size;clear pH hR gL fi a_ J_;have z0:=cR.cell 0 _ rfl;have z1:=cR.cell 1 _ rfl;have z2:=cR.cell 2 _ rfl;have z3:=cR.cell 3 _ rfl;have z4:=cR.cell 4 _ rfl;simp only[List.length_nil,Nat.zero_add] at z0 z1 z2 z3 z4;have f0:=cR.fz 0;have f1:=cR.fz 1;have f2:=cR.fz 2;have f3:=cR.fz 3;have f4:=cR.fz 4;have cP:=cR.nH (.int .i64 s.1) (.slice la ln lc) (.int .i64 s.2.2.1) (.slice ma mn mc) (.slice ha hn hc);simp only[List.length_nil,Nat.zero_add] at cP;have jL:=qN.keep (fun j hj=>cP.2.block j (qN.lt j hj) (fun e=>by have:=uj j hj; have:=Option.some.inj e; omega))
 have jP:=cY.grown cP.2 cY.size (fun j e=>by cases e; exact Nat.le_refl _)
 have dN:=cP.1.cell 0 _ rfl;have dO:=cP.1.cell 1 _ rfl;have dP:=cP.1.cell 2 _ rfl;have dQ:=cP.1.cell 3 _ rfl;have dR:=cP.1.cell 4 _ rfl;simp only[List.length_nil,Nat.zero_add] at dN dO dP dQ dR;have HP:=Hid.mk' (Ka (w:=w) hD jL (fun k hk=>Nat.le_trans pQ (uj k hk)) jP)
 clear jL jP cP qN cR cY;ab fail;refine bodyPost_ret (v:=cd s.1 s.2.2.1 la ln lc ma mn mc ha hn hc) ?_ rfl HP.out;simp[results,Tryz.results17,go_sem,dN,dO,dP,dQ,dR]
end bm
namespace bm
open Go Go.RowKit base aE aX dG
theorem Tf(a a2:Option Addr)(len cap cK eC:Nat)(l:List Od)(w:World)(h:dS w a len l)(h2:dS w a2 cK l):
 Calls Tryz.prog 96 #[.slice a len cap,.slice a2 cK eC] w fun e w'=>e=.returned (.bool true)∧Below w.heap.size w w':=by
 refine(Mq a a2 len cap cK eC l l w h h2).mono ?_;rintro e w' ⟨rfl,n,rfl⟩;exact⟨by simp,below_drewN (Below.refl _ _) n⟩
theorem Kb(kind tx:Int)(pa qa:Option Addr)(pl pc ql qc:Nat)(l:List Od)(w:World)(hx:dS w pa pl l)(hy:dS w qa ql l):
 Calls Tryz.prog 57 #[.agg #[.int .i64 kind,.int .i64 tx,.slice pa pl pc],.agg #[.int .i64 kind,.int .i64 tx,.slice qa ql qc]] w fun e w'=>e=.returned (.bool true)∧Below w.heap.size w w':=by
 obtain⟨W,hW⟩:∃W,(w.alloc (.cells #[.int .i64 kind,.int .i64 tx,.slice pa pl pc] 98)).alloc (.cells #[.int .i64 kind,.int .i64 tx,.slice qa ql qc] 98)=W:=⟨_,rfl⟩;have hB:Below w.heap.size w W:=by rw[←hW]; exact((Below.refl _ _).alloc (Nat.le_refl _) _).alloc (by simp) _
 have HE:=Hid.mk' (Tf pa qa pl pc ql qc l W (hx.below hB) (hy.below hB));have HW:=Hid.mk' hW;have hn:(kind==kind)=true:=by simp
 have hf:(tx==tx)=true:=by simp
 clear hW hx hy;aj Tryz.func57,Tryz.ntmps57;ab fail;rw[HW.out];refine HE.out.mono ?_;rintro e w1 ⟨rfl,a_⟩;have fi:=hB.trans (a_.mono hB.size);clear HE HW a_;ab fail;an;exact⟨rfl,fi⟩
theorem Fp(a a2:Option Addr)(len cap eC:Nat)(l:List Rc)(w:World)(h:rP w a len l)(h2:rP w a2 len l):
 Calls Tryz.prog 23 #[.slice a len cap,.slice a2 len eC] w fun e w'=>e=.returned (.bool true)∧Below w.heap.size w w':=by
 obtain⟨hl,hm,fk,hc⟩:=id h;obtain⟨_,_,_,ei⟩:=id h2;subst hl;unfold maxLen at hm;have hb:((l.length:Int)==(l.length:Int))=true:=by simp
 aj Tryz.func23,Tryz.ntmps23;ab fail;aN [5] (fun i wr=>∃k:Nat,k≤l.length∧i=.int .i64 k∧Below w.heap.size w wr) (fun i _=>l.length - (intOf i).toNat)
 case atStart=>exact⟨0,Nat.zero_le _,rfl,Below.refl _ _⟩
 case round=>
  obtain⟨k,hk,rfl,hB⟩:=hrel;by_cases bn:k<l.length
  · obtain⟨b,off,ha,cZ⟩:=hc (by omega)
    obtain⟨b2,kP,te,hI⟩:=ei (by omega)
    subst ha te;have fZ:(k:Int)<(l.length:Int):=by omega
    have i1:=h.at k bn;have i2:=h2.at k bn;have a_:b<w.heap.size:=World.block_lt_of_cell? w _ i1.1;have be:b2<w.heap.size:=World.block_lt_of_cell? w _ i2.1;have FM:=hB.size;obtain⟨c1,c2,pa,pl,pc,c3,NL,_⟩:=i1.below hB;obtain⟨c4,c5,qa,ql,qc,c6,zW,_⟩:=i2.below hB;have o1:=last.On.cell (B:=wr.heap.size) c1 (by omega)
    have o2:=last.On.cell (B:=wr.heap.size) c2 (by omega)
    have o3:=last.On.cell (B:=wr.heap.size) c3 (by omega)
    have o4:=last.On.cell (B:=wr.heap.size) c4 (by omega)
    have o5:=last.On.cell (B:=wr.heap.size) c5 (by omega)
    have o6:=last.On.cell (B:=wr.heap.size) c6 (by omega)
    have br:=last.On.iq wr.heap.size wr;have ep:∀x:last.On wr.heap.size wr,Calls Tryz.prog 57 #[.agg #[.int .i64 l[k].1,.int .i64 l[k].2.1,.slice pa pl pc],.agg #[.int .i64 l[k].1,.int .i64 l[k].2.1,.slice qa ql qc]] x.w fun e w'=>e=.returned (.bool true)∧∃y:last.On wr.heap.size wr,w'=y.w:=fun x=>last.Calls.on x (Nat.le_refl _) (Kb l[k].1 l[k].2.1 pa qa pl pc ql qc l[k].2.2 x.w (NL.below x.2) (zW.below x.2))
    clear cZ hI hc ei i1 i2 fk h h2 NL zW;generalize l[k]=p at *;ab fail;refine last.ar wr.heap.size (by aa) (by aa) ?_
    repeat(ai ((ao 57; exact ep _)))
    refine wpQuiet_nil ?_;intro w5 cf;obtain⟨x5,cf⟩:=cf;subst cf;have ez:Below w.heap.size w x5.w:=hB.trans (x5.2.mono hB.size);ab fail;aA
    case rel=>exact⟨k+1,by omega,by aF,ez⟩
    case measure=>simp[intOf]; omega
  · ab fail;an;exact⟨rfl,hB⟩
end bm
namespace base
open Go.RowKit
theorem VB(a0:Option Addr)(rV Ac:Nat)(w:World)(h:rV≤maxLen):
 Calls Tryz.prog 5 #[.slice a0 rV Ac] w fun e w'=>e=.returned (.bool (decide (1048576<(rV:Int))))∧w'=w:=by
 unfold maxLen at h;aj Tryz.func5,Tryz.ntmps5;bf;an;exact⟨rfl,rfl⟩
end base
namespace bm
open Go Go.RowKit base aE aX dG gO lay
theorem pr(a:Option Addr)(len cap:Nat)(l:List Rc)(w:World)(h:rP w a len l)(jg:len≤1099511627776)(cT:∀r∈l,r.2.2.length≤1099511627776):
 Calls Tryz.prog 91 #[.slice a len cap] w fun e w'=>∃g cp hs,e=.returned (.slice (some ⟨g,0,none⟩) len cp)∧bB w' w.heap.size (.slice (some ⟨g,0,none⟩) len cp) l hs∧Below w.heap.size w w':=by
 obtain⟨i0,hi,dE,dD,cO⟩:=info_parts mR;obtain⟨hl,hm,fk,hc⟩:=id h;subst hl;have hm':=hm;unfold maxLen at hm';aj Tryz.func91,Tryz.ntmps91;ab (o_; refine wpList_make_own _ rfl _ _ 41 rfl w.heap.size 98 i0 (.agg #[.int .i64 0,.int .i64 0,.slice none 0 0]) 3 Tryz.underlying41 hi dE dD _ _ _ l.length rfl rfl rfl ?b2 ?b3 ?b4 ?_)
 case b2=>rw[cO]; omega
 case b3=>exact hm
 case b4=>exact Nat.le_refl _
 intro w1 aK aI;have zZ:bB w1 w.heap.size (.slice (some ⟨w.heap.size,0,none⟩) 0 l.length) (l.take 0) []:=
  ⟨rfl,(fun _ h=>absurd h (by simp)),aK,fun i hi=>absurd hi (by simp),List.Pairwise.nil,fun k _ y hy=>absurd hy List.not_mem_nil⟩
 have IU:Below w.heap.size w w1:=(Below.refl _ _).grown aI (Nat.le_refl _) (fun k e=>by cases e)
 clear aK aI;ab (ak; fail)
 aN [3,11] (fun v i wr=>∃(k g cp:Nat) (hs:List Value),k≤l.length∧v=.slice (some ⟨g,0,none⟩) k cp∧i=.int .i64 (k:Int)∧bB wr w.heap.size (.slice (some ⟨g,0,none⟩) k cp) (l.take k) hs∧Below w.heap.size w wr) (fun _ i _=>l.length - (intOf i).toNat)
 case atStart=>exact⟨0,_,_,[],Nat.zero_le _,rfl,rfl,zZ,IU⟩
 case round=>
  clear zZ IU;obtain⟨k,g,cp,hs,hk,rfl,rfl,hO,hB⟩:=hrel;by_cases bn:k<l.length
  · obtain⟨b,off,ha,_⟩:=hc (by omega)
    subst ha;obtain⟨c0,c1,pa,pl,pc,c2,dT,_⟩:=(h.at k bn).below hB;have fZ:(k:Int)<(l.length:Int):=by omega
    have xK:=fk _ (List.getElem_mem bn);have pf:=cT _ (List.getElem_mem bn);have xM:Hid (l.take (k+1)=l.take k++[l[k]]):=List.take_succ_eq_append_getElem bn;have sf:(l.take k).length=k:=by rw[List.length_take]; omega
    generalize l[k]=r at *;generalize l.take k=T at *;have Hs:=dT.1;obtain⟨W,hW⟩:∃W,wr.alloc (.cells #[.int .i64 r.1,.int .i64 r.2.1,.slice pa pl pc] 98)=W:=⟨_,rfl⟩;have Hk:Below wr.heap.size wr W:=by rw[←hW]; exact(Below.refl _ _).alloc (Nat.le_refl _) _
    have wW:=Hid.mk' (AP r.1 r.2.1 pa pl pc r.2.2 W (dT.below Hk) (by omega))
    have HW:=Hid.mk' hW;have Mr:=Hid.mk' sf;have HO:=Hid.mk' (hO.below Hk);have zQ:=hB.trans (Hk.mono hB.size);clear hO sf hW Hk;ab (ak; fail)
    rw[HW.out];refine wW.out.mono ?_;rintro e w3 ⟨g3,rfl,ew,dI⟩;have kc:=(fK ew).mono (base':=w.heap.size) zQ.size;have NB:=HO.out.below dI;have cY:=zQ.trans (dI.mono zQ.size);have kQ:=ew.lt;have jQ:∀j,(Value.slice (some ⟨g3,0,none⟩) pl pl).ownBlock=some j→¬dq (.slice (some ⟨g,0,none⟩) k cp) hs j:=fun j hj hb=>by
     have e1:g3=j:=by simpa[Value.ownBlock] using hj
     have:=(HO.out.lt j hb).2;omega
    have y8:=Hid.mk' jQ;have ta:Below w3.heap.size w3 (w3.alloc (.cells #[.int .i64 r.1,.int .i64 r.2.1,.slice (some ⟨g3,0,none⟩) pl pl] 98)):=(Below.refl _ _).alloc (Nat.le_refl _) _;have ej:=NB.below ta;have zX:=kc.below ta;have eF:=cY.trans (ta.mono cY.size);have Ja:=Hid.mk' (jj w3 r.1 r.2.1 (.slice (some ⟨g3,0,none⟩) pl pl) 98);have Cq:=Hid.mk' (me r.1 r.2.1 kc.one);have fR:T.length+1≤maxLen:=by have:=Mr.out; unfold maxLen; omega
    have kn:(T.length+1) * 40≤140737488355328:=by have:=Mr.out; omega
    clear wW ew dI kc NB cY ta jQ c0 c1 c2 HO;ab (ak; refine wpList_append_own _ rfl (.tmp 15) (.tmp 18) 41 rfl w.heap.size 98 i0 (.agg #[.int .i64 0,.int .i64 0,.slice none 0 0]) 3 40 Tryz.underlying41 hi dE dD cO rfl (by decide) _ _ _ rfl ej.row ⟨w3.heap.size,0,none⟩ 1 1 _ rfl rfl Ja.out Cq.out fR kn eF.size ?_)
    intro v5 w5 iB fa uY;have cC:¬v5=.slice none 0 0:=by simpa using uY
    have eD:=ej.snoc zX xK y8.out iB fa;have ez:Below w.heap.size w w5:=eF.grown fa eF.size (fun j e=>(ej.row.lt j e).1)
    rw[←xM.out] at eD;have JB:(l.take (k+1)).length=k+1:=by rw[List.length_take]; omega
    rcases eD.shape with⟨FZ,_⟩ | ⟨g5,wj,FZ,_⟩
    · exact absurd FZ cC
    · rw[JB] at FZ;subst FZ;have wS:=Hid.mk' eD;clear iB fa uY cC eD ej eF zX Ja Cq y8 JB;ab (ak; fail)
      aA
      case rel=>exact⟨k+1,g5,wj,_,by omega,rfl,by aF,wS.out,ez⟩
      case measure=>simp[intOf]; omega
  · have EV:k=l.length:=by omega
    subst EV;rw[List.take_length] at hO;have fP:¬(l.length:Int)<(l.length:Int):=by omega
    ab (ak; fail)
    an;exact⟨g,cp,rfl,⟨hs,hO⟩,hB⟩
end bm
end Go.Proofs.YtmibabclefgljaaGreat
