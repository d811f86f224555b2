/- DrAn DrAny DrMs RecSame Big ImC -/
import Derived.Test.YtmibabclefgljaaGreatShar
import Derived.Test.YtmibabclefgljaaGreatShas
import Derived.Test.YtmibabclefgljaaGreatSham
import Derived.Test.YtmibabclefgljaaGreatShaa
set_option linter.unusedVariables false
set_option linter.unusedSimpArgs false
set_option maxRecDepth 100000
set_option maxHeartbeats 12000000
namespace Go.Proofs.YtmibabclefgljaaGreat
namespace aZ
open Go Go.RowKit base av aN dp gu lay draw
structure AnyS (s:cQ):Prop where
 bd:xc s
 tB:bZ s→mG s.2.1
 EL:∀r∈s.2.1,r.2.1≤6∨1000000≤r.2.1
 id:(Lit.int .i64 s.1).wf=true
 sure:(Lit.int .i64 s.2.2.1).wf=true
theorem eE.any{s:cQ}(h:eE s):AnyS s:=by
 have h1:=h.right.id;have h2:=h.right.sure;have h3:=h.right.room;exact⟨JS h.right,fun _=>h.tB,fun r hr=>.inl (h.EL r hr).2,WalkArith.wf_i64 (by omega),WalkArith.wf_i64 (by omega)⟩
theorem eE.PB{s:cQ}(h:eE s){z:Int}(hz: -1≤z∧z≤8):AnyS (z,s.2.1,s.2.2.1,s.2.2.2.1,s.2.2.2.2):=by
 have ha:=h.any;have ze:(Lit.int .i64 z).wf=true:=WalkArith.wf_i64 (by omega)
 exact⟨⟨ha.bd.jB,ha.bd.zU,ha.bd.log,ha.bd.map,ha.bd.held,ha.bd.qv⟩,fun _=>h.tB,ha.EL,ze,ha.sure⟩
theorem eE.JU{s:cQ}(h:eE s){z:Int}(hz: -1≤z∧z≤301):AnyS (s.1,s.2.1,z,s.2.2.2.1,s.2.2.2.2):=by
 have ha:=h.any;have ze:(Lit.int .i64 z).wf=true:=WalkArith.wf_i64 (by omega)
 exact⟨⟨ha.bd.jB,ha.bd.zU,ha.bd.log,ha.bd.map,ha.bd.held,ha.bd.qv⟩,fun _=>h.tB,ha.EL,ha.id,ze⟩
theorem eE.small{s:cQ}(h:eE s):s.2.1.length≤300∧s.2.2.2.1.length≤60∧s.2.2.2.2.length≤300∧Gn s≤20000:=by
 have h1:=h.right.room;obtain⟨seen,hm⟩:=h.right.made;have h2:=((kE _).1 (rH hm).1).2;have h3:=tT (fun r hr=>(l6 (h.right.bf r hr)).1)
 have h4:=tT (l:=s.2.2.2.2) (fun r hr=>(l6 (h.right.bf r (h.right.oR r hr).1)).1)
 simp only[] at h2;refine⟨by omega,by omega,by omega,?_⟩
 unfold Gn;omega
theorem eE.any_map{s:cQ}(h:eE s)(p:Pr):AnyS (s.1,s.2.1,s.2.2.1,s.2.2.2.1++[p],s.2.2.2.2):=by
 have ha:=h.any;obtain⟨_,h2,_,h4⟩:=h.small;refine⟨⟨ha.bd.jB,ha.bd.zU,ha.bd.log,?_,ha.bd.held,?_⟩,fun _=>h.tB,ha.EL,ha.id,ha.sure⟩
 · show(s.2.2.2.1++[p]).length≤1048576;rw[List.length_append,List.length_singleton]; omega
 · unfold Gn at h4 ⊢;show kB s.2.1+2 * (s.2.2.2.1++[p]).length+kB s.2.2.2.2≤3145728;rw[List.length_append,List.length_singleton]; omega
theorem eE.Mx{s:cQ}(h:eE s){r:Rc}(hr:va r)(hf:Py r.2.1):AnyS (s.1,s.2.1++[r],s.2.2.1,s.2.2.2.1,s.2.2.2.2):=by
 have ha:=h.any;obtain⟨h1,h2,h3,h4⟩:=h.small;refine⟨⟨fun x hx=>?_,ha.bd.zU,?_,ha.bd.map,ha.bd.held,?_⟩,fun hR=>?_,fun x hx=>?_,ha.id,ha.sure⟩
 · rcases List.mem_append.1 hx with e | e
   · exact ha.bd.jB x e
   · rw[List.mem_singleton.1 e];refine⟨by have:=hr.2.2.1; omega,fun p hp=>?_⟩
     have:=(hr.2.2.2 p hp).2.2.1;omega
 · show(s.2.1++[r]).length≤1048576;rw[List.length_append,List.length_singleton]; omega
 · unfold Gn at h4 ⊢;show kB (s.2.1++[r])+2 * s.2.2.2.1.length+kB s.2.2.2.2≤3145728;have e:kB [r]≤26:=by
    have:=hr.2.2.1;simp[kB]; omega
   rw[AZ]; omega
 · obtain⟨seen,hm⟩:=h.right.made;refine h.tB.snoc fun t ht=>?_
   obtain⟨sn,jD⟩:=hR.made;have jD:replay (s.2.1++[r])=some (s.2.2.2.1,s.2.2.2.2,sn):=jD;rw[jD] at ht;cases ht;have zF:=h.tB.whole hm;exact zF
 · rcases List.mem_append.1 hx with e | e
   · exact ha.EL x e
   · rw[List.mem_singleton.1 e];rcases hf with e | e
     · exact .inl (by omega)
     · exact .inr e
/-! ### what is written into a shard that lies in a block -/
section
variable{w w':World}{X:Nat}{T:TypeId}{pre post:List Value}{la ma ha:Option Addr}{ln lc mn mc hn hc:Nat}{s:cQ}{F:List Nat}
theorem gH.SS(h:gH w X T pre post la ln lc ma mn mc ha hn hc s F)(z:Int)(hz:(Lit.int .i64 z).wf=true):gH (w.setCell ⟨X,pre.length,none⟩ (.int .i64 z)) X T pre post la ln lc ma mn mc ha hn hc (z,s.2.1,s.2.2.1,s.2.2.2.1,s.2.2.2.2) F∧w.grownBy (w.setCell ⟨X,pre.length,none⟩ (.int .i64 z)) (some X):=by
 have c:=h.box.set 0 (by simp[aK]) (.int .i64 z)
 rw[Nat.add_zero] at c;have hO:=h.own.keep (w':=w.setCell ⟨X,pre.length,none⟩ (.int .i64 z)) (fun j hj=>c.2.block j (h.own.lt j hj) (fun e=>h.out (by rw[←Option.some.inj e]; exact hj)))
 exact⟨⟨c.1,⟨hz,hO.sure,hO.log,hO.map,hO.nodup⟩,h.out⟩,c.2⟩
theorem gH.My(h:gH w X T pre post la ln lc ma mn mc ha hn hc s F)(z:Int)(hz:(Lit.int .i64 z).wf=true):gH (w.setCell ⟨X,pre.length+2,none⟩ (.int .i64 z)) X T pre post la ln lc ma mn mc ha hn hc (s.1,s.2.1,z,s.2.2.2.1,s.2.2.2.2) F∧w.grownBy (w.setCell ⟨X,pre.length+2,none⟩ (.int .i64 z)) (some X):=by
 have c:=h.box.set 2 (by simp[aK]) (.int .i64 z)
 have hO:=h.own.keep (w':=w.setCell ⟨X,pre.length+2,none⟩ (.int .i64 z)) (fun j hj=>c.2.block j (h.own.lt j hj) (fun e=>h.out (by rw[←Option.some.inj e]; exact hj)))
 exact⟨⟨c.1,⟨hO.id,hz,hO.log,hO.map,hO.nodup⟩,h.out⟩,c.2⟩
theorem gH.PD{w8:World}{g8 n8 c8:Nat}{m8:List Pr}(h:gH w X T pre post la ln lc ma mn mc ha hn hc s F)(hg:w.grownBy w8 (Value.slice ma mn mc).ownBlock)(JV:ek w8 (some ⟨g8,0,none⟩) n8 c8 m8)(fl:(Value.slice ma mn mc).ownBlock=some g8∨(g8∉F∧g8≠X)):
 ∃F',gH (w8.setCell ⟨X,pre.length+3,none⟩ (.slice (some ⟨g8,0,none⟩) n8 c8)) X T pre post la ln lc (some ⟨g8,0,none⟩) n8 c8 ha hn hc (s.1,s.2.1,s.2.2.1,m8,s.2.2.2.2) F'∧lay.Frame (X::F) w (w8.setCell ⟨X,pre.length+3,none⟩ (.slice (some ⟨g8,0,none⟩) n8 c8))∧∀k∈F',k∈F∨k=g8:=by
 obtain⟨hl,tS,hh,qS,dL⟩:=h.own.log;have dW:=h.own.nodup;have jr:=h.out;have NL:∀k,(Value.slice ma mn mc).ownBlock=some k→k∈F:=fun k e=>by rw[dL]; exact List.mem_append.2 (.inr (List.mem_append.2 (.inl (by simp[e]))))
 have Hq:∀k,c_ (.slice la ln lc) hl k→k∈F:=fun k e=>by rw[dL]; exact List.mem_append.2 (.inl (aA.2 e))
 have Mz:∀k,c_ (.slice ha hn hc) hh k→k∈F:=fun k e=>by rw[dL]; exact List.mem_append.2 (.inr (List.mem_append.2 (.inr (aA.2 e))))
 have hnd0:=dW;rw[dL] at dW;obtain⟨n1,n2,n3⟩:=aR dW;obtain⟨n4,n5,n6⟩:=aR n2;have U1:∀k,c_ (.slice la ln lc) hl k→(Value.slice ma mn mc).ownBlock≠some k:=fun k e e2=>n3 k (aA.2 e) (List.mem_append.2 (.inl (by simp[e2])))
 have ZU:∀k,c_ (.slice ha hn hc) hh k→(Value.slice ma mn mc).ownBlock≠some k:=fun k e e2=>n6 k (by simp[e2]) (aA.2 e)
 have Ry:=h.box.grown hg (fun e=>jr (NL X e.symm))
 have F9:=tS.aY fun k hk=>hg.block k (tS.lt k hk).2 (fun e=>U1 k hk e.symm)
 have JW:=qS.aY fun k hk=>hg.block k (qS.lt k hk).2 (fun e=>ZU k hk e.symm)
 have c:=Ry.set 3 (by simp[aK]) (.slice (some ⟨g8,0,none⟩) n8 c8)
 have U4:g8≠X:=by
  rcases fl with e | e
  · exact fun e2=>jr (NL X (by rw[←e2]; exact e))
  · exact e.2
 have A7:=F9.aY fun k hk=>c.2.block k (F9.lt k hk).2 (fun e=>jr (by rw[←Option.some.inj e]; exact Hq k hk))
 have PE:=JW.aY fun k hk=>c.2.block k (JW.lt k hk).2 (fun e=>jr (by rw[←Option.some.inj e]; exact Mz k hk))
 have PF:=JV.bN fun k hk=>c.2.block k (JV.lt k hk) (fun e=>U4 (by
  have e2:g8=k:=by have q:=hk; simp[Value.ownBlock] at q; omega
  rw[e2]; exact Option.some.inj e))
 refine⟨nR (.slice la ln lc) hl++((Value.slice (some ⟨g8,0,none⟩) n8 c8).ownBlock.toList++nR (.slice ha hn hc) hh),⟨c.1,⟨h.own.id,h.own.sure,⟨hl,A7,hh,PE,rfl⟩,PF,?_⟩,?_⟩,?_,?_⟩
 · have SU:∀k,k∈nR (.slice la ln lc) hl∨k∈nR (.slice ha hn hc) hh→k≠g8:=fun k hk e=>by
    rcases fl with e2 | e2
    · rcases hk with e3 | e3
      · exact U1 k (aA.1 e3) (by rw[e]; exact e2)
      · exact ZU k (aA.1 e3) (by rw[e]; exact e2)
    · rcases hk with e3 | e3
      · exact e2.1 (by rw[←e]; exact Hq k (aA.1 e3))
      · exact e2.1 (by rw[←e]; exact Mz k (aA.1 e3))
   refine bL n1 (bL (by simp[Value.ownBlock]) n5 (fun k hk gY=>?_)) (fun k hk gY=>?_)
   · have e2:g8=k:=by have q:=hk; simp[Value.ownBlock] at q; omega
     exact SU k (.inr gY) e2.symm
   · rcases List.mem_append.1 gY with e3 | e3
     · have e2:g8=k:=by have q:=e3; simp[Value.ownBlock] at q; omega
       exact SU k (.inl hk) e2.symm
     · exact n3 k hk (List.mem_append.2 (.inr e3))
 · intro e;rcases List.mem_append.1 e with e3 | e3
   · exact jr (Hq X (aA.1 e3))
   · rcases List.mem_append.1 e3 with e3 | e3
     · have e2:g8=X:=by have q:=e3; simp[Value.ownBlock] at q; omega
       exact U4 e2
     · exact jr (Mz X (aA.1 e3))
 · exact((lay.Frame.refl (X::F) w).grown hg (fun k e=>.inl (List.mem_cons_of_mem _ (NL k e)))).grown c.2 (fun k e=>.inl (by rw[←Option.some.inj e]; exact List.mem_cons_self))
 · intro k hk;rcases List.mem_append.1 hk with e3 | e3
   · exact .inl (Hq k (aA.1 e3))
   · rcases List.mem_append.1 e3 with e3 | e3
     · have e2:g8=k:=by have q:=e3; simp[Value.ownBlock] at q; omega
       exact .inr e2.symm
     · exact .inl (Mz k (aA.1 e3))
theorem gH.PG{w8:World}{g8 n8 c8:Nat}{v:Value}{r:Rc}{hl hh:List Value}(h:gH w X T pre post la ln lc ma mn mc ha hn hc s F)(tS:bm w 0 (.slice la ln lc) s.2.1 hl)(qS:bm w 0 (.slice ha hn hc) s.2.2.2.2 hh)(dL:F=nR (.slice la ln lc) hl++((Value.slice ma mn mc).ownBlock.toList++nR (.slice ha hn hc) hh))
 (hv:∀j,v.ownBlock=some j→j∉F∧j≠X) (hg:w.grownBy w8 (Value.slice la ln lc).ownBlock) (JV:bm w8 0 (.slice (some ⟨g8,0,none⟩) n8 c8) (s.2.1++[r]) (hl++[v])) (fl:(Value.slice la ln lc).ownBlock=some g8∨g8=w.heap.size):
 ∃F',gH (w8.setCell ⟨X,pre.length+1,none⟩ (.slice (some ⟨g8,0,none⟩) n8 c8)) X T pre post (some ⟨g8,0,none⟩) n8 c8 ma mn mc ha hn hc (s.1,s.2.1++[r],s.2.2.1,s.2.2.2.1,s.2.2.2.2) F'∧lay.Frame (X::F) w (w8.setCell ⟨X,pre.length+1,none⟩ (.slice (some ⟨g8,0,none⟩) n8 c8))∧∀k∈F',k∈F∨v.ownBlock=some k∨w.heap.size≤k:=by
 have Nz:=h.own.map;have dW:=h.own.nodup;have jr:=h.out;have kh:=h.own.lt;have iN:=h.box.lt;have NL:∀k,(Value.slice ma mn mc).ownBlock=some k→k∈F:=fun k e=>by rw[dL]; exact List.mem_append.2 (.inr (List.mem_append.2 (.inl (by simp[e]))))
 have Hq:∀k,c_ (.slice la ln lc) hl k→k∈F:=fun k e=>by rw[dL]; exact List.mem_append.2 (.inl (aA.2 e))
 have Mz:∀k,c_ (.slice ha hn hc) hh k→k∈F:=fun k e=>by rw[dL]; exact List.mem_append.2 (.inr (List.mem_append.2 (.inr (aA.2 e))))
 rw[dL] at dW;obtain⟨n1,n2,n3⟩:=aR dW;have U1:∀k,(Value.slice la ln lc).ownBlock=some k→(Value.slice ma mn mc).ownBlock≠some k:=fun k e e2=>n3 k (aA.2 (.inl e)) (List.mem_append.2 (.inl (by simp[e2])))
 have hLh:∀k,(Value.slice la ln lc).ownBlock=some k→¬c_ (.slice ha hn hc) hh k:=fun k e e2=>n3 k (aA.2 (.inl e)) (List.mem_append.2 (.inr (aA.2 e2)))
 have Ry:=h.box.grown hg (fun e=>jr (Hq X (.inl e.symm)))
 have SV:=Nz.bN fun k hk=>hg.block k (Nz.lt k hk) (fun e=>U1 k e.symm hk)
 have JW:=qS.aY fun k hk=>hg.block k (qS.lt k hk).2 (fun e=>hLh k e.symm hk)
 have c:=Ry.set 1 (by simp[aK]) (.slice (some ⟨g8,0,none⟩) n8 c8)
 have rW:g8∈F∧c_ (.slice la ln lc) hl g8∨g8=w.heap.size:=fl.imp_left (fun e=>⟨Hq g8 (.inl e),.inl e⟩)
 have zf:∀k,c_ (.slice (some ⟨g8,0,none⟩) n8 c8) (hl++[v]) k→c_ (.slice la ln lc) hl k∨v.ownBlock=some k∨k=w.heap.size:=fun k hk=>by
  rcases hk with e | ⟨y,hy,e⟩
  · have e2:g8=k:=by simpa[Value.ownBlock] using e
    rcases rW with e3 | e3
    · exact .inl (by rw[←e2]; exact e3.2)
    · exact .inr (.inr (by omega))
  · rcases List.mem_append.1 hy with e2 | e2
    · exact .inl (.inr ⟨y,e2,e⟩)
    · rw[List.mem_singleton.1 e2] at e;exact .inr (.inl e)
 have Pa:∀k,c_ (.slice (some ⟨g8,0,none⟩) n8 c8) (hl++[v]) k→k≠X:=fun k hk e=>by
  rcases zf k hk with e2 | e2 | e2
  · exact jr (by rw[←e]; exact Hq k e2)
  · exact(hv k e2).2 e
  · omega
 have A7:=JV.aY fun k hk=>c.2.block k (JV.lt k hk).2 (fun e=>Pa k hk (Option.some.inj e))
 have PE:=JW.aY fun k hk=>c.2.block k (JW.lt k hk).2 (fun e=>jr (by rw[←Option.some.inj e]; exact Mz k hk))
 have PF:=SV.bN fun k hk=>c.2.block k (SV.lt k hk) (fun e=>jr (by rw[←Option.some.inj e]; exact NL k hk))
 have Xg:(nR (.slice (some ⟨g8,0,none⟩) n8 c8) (hl++[v])).Nodup:=by
  have:=di.2 ⟨_,A7,rfl⟩;exact kK.bG this
 refine⟨nR (.slice (some ⟨g8,0,none⟩) n8 c8) (hl++[v])++((Value.slice ma mn mc).ownBlock.toList++nR (.slice ha hn hc) hh),⟨c.1,⟨h.own.id,h.own.sure,⟨_,A7,hh,PE,rfl⟩,PF,?_⟩,?_⟩,?_,?_⟩
 · refine bL Xg n2 (fun k hk gY=>?_)
   have ZV:k∈F:=by
    rcases List.mem_append.1 gY with e3 | e3
    · exact NL k (by simpa using e3)
    · exact Mz k (aA.1 e3)
   rcases zf k (aA.1 hk) with e2 | e2 | e2
   · exact n3 k (aA.2 e2) gY
   · exact(hv k e2).1 ZV
   · have:=kh k ZV; omega
 · intro e;rcases List.mem_append.1 e with e3 | e3
   · exact Pa X (aA.1 e3) rfl
   · rcases List.mem_append.1 e3 with e3 | e3
     · exact jr (NL X (by simpa using e3))
     · exact jr (Mz X (aA.1 e3))
 · exact((lay.Frame.refl (X::F) w).grown hg (fun k e=>.inl (List.mem_cons_of_mem _ (Hq k (.inl e))))).grown c.2 (fun k e=>.inl (by rw[←Option.some.inj e]; exact List.mem_cons_self))
 · intro k hk;rcases List.mem_append.1 hk with e3 | e3
   · rcases zf k (aA.1 e3) with e2 | e2 | e2
     · exact .inl (Hq k e2)
     · exact .inr (.inl e2)
     · exact .inr (.inr (by omega))
   · rcases List.mem_append.1 e3 with e3 | e3
     · exact .inl (NL k (by simpa using e3))
     · exact .inl (Mz k (aA.1 e3))
end
structure ES (w0 w wr:World) (gc:Nat) (a:Option Addr) (len cap:Nat) (code:List UInt8) (RB X:Nat) (la:Option Addr) (ln lc:Nat) (ma:Option Addr) (mn mc:Nat) (ha:Option Addr) (hn hc:Nat) (s:cQ) (F:List Nat):Prop where
 cur:gI w0 wr gc a len cap code
 ins:gH wr X sU [] [] la ln lc ma mn mc ha hn hc s F
 new:∀k∈X::F,w.heap.size≤k
 old:gc<w.heap.size
 base:w0.heap.size≤w.heap.size
 fr:w.grownBy wr (some gc)
 rb:au RB sU [] zc [] wr
 rX:RB≠X
 rF:RB∉F
 rn:w.heap.size≤RB
section
variable{w0 w wr w':World}{gc:Nat}{a:Option Addr}{len cap:Nat}{code:List UInt8}{RB X:Nat}{la ma ha:Option Addr}{ln lc mn mc hn hc:Nat}{s s':cQ}{F F':List Nat}{Bl UY Ni:Option Addr}{Bm Bn UZ U0 QT Ce:Nat}
theorem ES.gX(h:ES w0 w wr gc a len cap code RB X la ln lc ma mn mc ha hn hc s F):gc≠X∧gc∉F∧gc≠RB:=by
 have h1:=h.old;have h2:=h.new;have h3:=h.rn;refine⟨fun e=>?_,fun e=>?_,fun e=>?_⟩
 · have:=h2 X List.mem_cons_self; omega
 · have:=h2 gc (List.mem_cons_of_mem _ e); omega
 · omega
theorem ES.step(h:ES w0 w wr gc a len cap code RB X la ln lc ma mn mc ha hn hc s F)(Ce:gI w0 w' gc a len cap code)(hg:wr.grownBy w' (some gc)):ES w0 w w' gc a len cap code RB X la ln lc ma mn mc ha hn hc s F:=by
 obtain⟨g1,g2,g3⟩:=h.gX;exact⟨Ce,h.ins.vb hg g1 g2,h.new,h.old,h.base,ao h.fr hg,h.rb.grown hg (fun e=>g3 (Option.some.inj e).symm),h.rX,h.rF,h.rn⟩
theorem ES.below(h:ES w0 w wr gc a len cap code RB X la ln lc ma mn mc ha hn hc s F)(hb:Below wr.heap.size wr w'):ES w0 w w' gc a len cap code RB X la ln lc ma mn mc ha hn hc s F:=
 ⟨h.cur.below hb,h.ins.below hb,h.new,h.old,h.base,aP h.fr hb,h.rb.below hb,h.rX,h.rF,h.rn⟩
theorem ES.wrote(h:ES w0 w wr gc a len cap code RB X la ln lc ma mn mc ha hn hc s F)(h1:gH w' X sU [] [] Bl Bm Bn UY UZ U0 Ni QT Ce s' F')(h2:lay.Frame (X::F) wr w')(h3:∀k∈F',k∈F∨(w.heap.size≤k∧k≠RB)):ES w0 w w' gc a len cap code RB X Bl Bm Bn UY UZ U0 Ni QT Ce s' F':=by
 obtain⟨g1,g2,g3⟩:=h.gX;refine⟨xL h.cur h2 (fun e=>?_) (fun k hk=>Nat.le_trans h.base (h.new k hk)),h1,fun k hk=>?_,h.old,h.base,?_,h.rb.frame h2 (fun e=>?_),h.rX,fun e=>?_,h.rn⟩
 · rcases List.mem_cons.1 e with e | e
   · exact g1 e
   · exact g2 e
 · rcases List.mem_cons.1 hk with e | e
   · rw[e]; exact h.new X List.mem_cons_self
   · rcases h3 k e with e2 | e2
     · exact h.new k (List.mem_cons_of_mem _ e2)
     · exact e2.1
 · exact⟨h2.os.trans h.fr.os,h2.tape.trans h.fr.tape,h2.output.trans h.fr.output,Nat.le_trans h.fr.size h2.size,fun k hk aW=>(h2.block k (Nat.lt_of_lt_of_le hk h.fr.size) (fun e=>by have:=h.new k e; omega)).trans (h.fr.block k hk aW)⟩
 · rcases List.mem_cons.1 e with e | e
   · exact h.rX e
   · exact h.rF e
 · rcases h3 RB e with e | e
   · exact h.rF e
   · exact e.2 rfl
end
def JX(w0 w:World)(gc:Nat)(a:Option Addr)(len cap:Nat)(code:List UInt8)(e:Ending)(w':World):Prop:=
 ∃(la:Option Addr) (ln lc:Nat) (ma:Option Addr) (mn mc:Nat) (ha:Option Addr) (hn hc:Nat) (s:cQ) (F:List Nat),AnyS s∧e=.returned (bO s.1 s.2.2.1 la ln lc ma mn mc ha hn hc)∧cY w' la ln lc ma mn mc ha hn hc s F∧(∀k∈F,w.heap.size≤k)∧gI w0 w' gc a len cap code∧w.grownBy w' (some gc)
theorem ES.ni{w0 w wr:World}{gc:Nat}{a:Option Addr}{len cap:Nat}{code:List UInt8}{RB X:Nat}{la ma ha:Option Addr}{ln lc mn mc hn hc:Nat}{s:cQ}{F:List Nat}(h:ES w0 w wr gc a len cap code RB X la ln lc ma mn mc ha hn hc s F)(hA:AnyS s):
 wr.cell? ⟨X,0,none⟩=some (.int .i64 s.1)∧wr.cell? ⟨X,1,none⟩=some (.slice la ln lc)∧wr.cell? ⟨X,2,none⟩=some (.int .i64 s.2.2.1)∧wr.cell? ⟨X,3,none⟩=some (.slice ma mn mc)∧wr.cell? ⟨X,4,none⟩=some (.slice ha hn hc)∧
 wr.cell? ⟨RB,0,none⟩=some (.int .i64 0)∧wr.cell? ⟨RB,1,none⟩=some (.slice none 0 0)∧wr.cell? ⟨RB,2,none⟩=some (.int .i64 0)∧wr.cell? ⟨RB,3,none⟩=some (.slice none 0 0)∧wr.cell? ⟨RB,4,none⟩=some (.slice none 0 0)∧
 wr.frozen? ⟨RB,0,none⟩=false∧wr.frozen? ⟨RB,1,none⟩=false∧wr.frozen? ⟨RB,2,none⟩=false∧wr.frozen? ⟨RB,3,none⟩=false∧wr.frozen? ⟨RB,4,none⟩=false∧
 ((((((wr.setCell ⟨RB,0,none⟩ (.int .i64 s.1)).setCell ⟨RB,1,none⟩ (.slice la ln lc)).setCell ⟨RB,2,none⟩ (.int .i64 s.2.2.1)).setCell ⟨RB,3,none⟩ (.slice ma mn mc)).setCell ⟨RB,4,none⟩ (.slice ha hn hc)).cell? ⟨RB,0,none⟩=some (.int .i64 s.1)∧
 (((((wr.setCell ⟨RB,0,none⟩ (.int .i64 s.1)).setCell ⟨RB,1,none⟩ (.slice la ln lc)).setCell ⟨RB,2,none⟩ (.int .i64 s.2.2.1)).setCell ⟨RB,3,none⟩ (.slice ma mn mc)).setCell ⟨RB,4,none⟩ (.slice ha hn hc)).cell? ⟨RB,1,none⟩=some (.slice la ln lc)∧
 (((((wr.setCell ⟨RB,0,none⟩ (.int .i64 s.1)).setCell ⟨RB,1,none⟩ (.slice la ln lc)).setCell ⟨RB,2,none⟩ (.int .i64 s.2.2.1)).setCell ⟨RB,3,none⟩ (.slice ma mn mc)).setCell ⟨RB,4,none⟩ (.slice ha hn hc)).cell? ⟨RB,2,none⟩=some (.int .i64 s.2.2.1)∧
 (((((wr.setCell ⟨RB,0,none⟩ (.int .i64 s.1)).setCell ⟨RB,1,none⟩ (.slice la ln lc)).setCell ⟨RB,2,none⟩ (.int .i64 s.2.2.1)).setCell ⟨RB,3,none⟩ (.slice ma mn mc)).setCell ⟨RB,4,none⟩ (.slice ha hn hc)).cell? ⟨RB,3,none⟩=some (.slice ma mn mc)∧
 (((((wr.setCell ⟨RB,0,none⟩ (.int .i64 s.1)).setCell ⟨RB,1,none⟩ (.slice la ln lc)).setCell ⟨RB,2,none⟩ (.int .i64 s.2.2.1)).setCell ⟨RB,3,none⟩ (.slice ma mn mc)).setCell ⟨RB,4,none⟩ (.slice ha hn hc)).cell? ⟨RB,4,none⟩=some (.slice ha hn hc))∧
 Hid (JX w0 w gc a len cap code (.returned (bO s.1 s.2.2.1 la ln lc ma mn mc ha hn hc)) (((((wr.setCell ⟨RB,0,none⟩ (.int .i64 s.1)).setCell ⟨RB,1,none⟩ (.slice la ln lc)).setCell ⟨RB,2,none⟩ (.int .i64 s.2.2.1)).setCell ⟨RB,3,none⟩ (.slice ma mn mc)).setCell ⟨RB,4,none⟩ (.slice ha hn hc))):=by
 have b:=h.ins.box;have q0:=b.cell 0 _ rfl;have q1:=b.cell 1 _ rfl;have q2:=b.cell 2 _ rfl;have q3:=b.cell 3 _ rfl;have q4:=b.cell 4 _ rfl;have r:=h.rb;have z0:=r.cell 0 _ rfl;have z1:=r.cell 1 _ rfl;have z2:=r.cell 2 _ rfl;have z3:=r.cell 3 _ rfl;have z4:=r.cell 4 _ rfl;have cB:=r.ni (.int .i64 s.1) (.slice la ln lc) (.int .i64 s.2.2.1) (.slice ma mn mc) (.slice ha hn hc);simp only[List.length_nil,Nat.zero_add] at q0 q1 q2 q3 q4 z0 z1 z2 z3 z4 cB;obtain⟨g1,g2,g3⟩:=h.gX;have ry:=Nat.le_trans h.base h.rn;have jv:=h.ins.own.keep (fun j hj=>cB.2.block j (h.ins.own.lt j hj) (fun e=>h.rF (by rw[←Option.some.inj e]; exact hj)))
 have lr:=h.cur.grown cB.2 (fun e=>g3 (Option.some.inj e)) (fun k e=>by cases e; exact ry)
 have qb:w.grownBy _ (some gc):=⟨cB.2.os.trans h.fr.os,cB.2.tape.trans h.fr.tape,cB.2.output.trans h.fr.output,Nat.le_trans h.fr.size cB.2.size,fun k hk aW=>(cB.2.block k (Nat.lt_of_lt_of_le hk h.fr.size) (fun e=>by have e1:=Option.some.inj e; have e2:=h.rn; omega)).trans (h.fr.block k hk aW)⟩
 have dy:=cB.1.cell 0 _ rfl;have dz:=cB.1.cell 1 _ rfl;have dA:=cB.1.cell 2 _ rfl;have dB:=cB.1.cell 3 _ rfl;have dC:=cB.1.cell 4 _ rfl;simp only[List.length_nil,Nat.zero_add] at dy dz dA dB dC;exact⟨q0,q1,q2,q3,q4,z0,z1,z2,z3,z4,r.fz 0,r.fz 1,r.fz 2,r.fz 3,r.fz 4,⟨dy,dz,dA,dB,dC⟩,⟨la,ln,lc,ma,mn,mc,ha,hn,hc,s,F,hA,rfl,jv,fun k hk=>h.new k (List.mem_cons_of_mem _ hk),lr,qb⟩⟩
end aZ
namespace aZ
open Go Go.RowKit base av aN dp gu lay draw
theorem SW(w0 w:World)(gc:Nat)(a:Option Addr)(len cap:Nat)(code:List UInt8)(eR:Nat)(h:gI w0 w gc a len cap code)(hm:0<eR)(jD:eR≤1000):
 Calls Tryz.prog 50 #[.pointer (some ⟨gc,0,none⟩),.int .i64 (eR:Int)] w fun e w'=>JX w0 w gc a len cap code e w':=by
 have cK:=h.lt;have ry:=h.e7.size;obtain⟨i0,hi,dm,dk,cA⟩:=info_parts mA;obtain⟨j0,za,yR,Hj,Cb⟩:=info_parts mW;obtain⟨wa,jd⟩:∃wa,w.alloc (bW 0 0 none 0 0 none 0 0 none 0 0)=wa:=⟨_,rfl⟩;have bg:Below w.heap.size w wa:=by rw[←jd]; exact dY
 have Ho:wa.heap.size=w.heap.size+1:=by rw[←jd]; simp
 have xI:au w.heap.size sU [] zc [] wa:=by rw[←jd]; exact aE w _ _
 have xJ:=Hid.mk' jd;have JY:=Hid.mk' (Ms w0 wa gc a len cap code eR (h.below bg) hm jD);clear jd;go_enter Tryz.func50,Tryz.ntmps50;go_wp2_with fail;rw[xJ.out];refine JY.out.mono ?_;rintro e w1 ⟨la,ln,lc,ma,mn,mc,ha,hn,hc,s,F,hD,rfl,qt,tR,gk,gR⟩;clear JY xJ;obtain⟨v1,oI⟩:∃v1,w1.alloc (bW s.1 s.2.2.1 la ln lc ma mn mc ha hn hc)=v1:=⟨_,rfl⟩;have aT:Below w1.heap.size w1 v1:=by rw[←oI]; exact dY
 have vO:=lz qt;rw[oI] at vO;have tL:=gR.size;have pk:ES w0 w v1 gc a len cap code w.heap.size w1.heap.size la ln lc ma mn mc ha hn hc s F:=
  ⟨gk.below aT,vO,fun k hk=>by
   rcases List.mem_cons.1 hk with e | e
   · omega
   · have:=tR k e; omega,cK,ry,aP (ao (aP (World.grownBy.refl _ _) bg) gR) aT,(xI.grown gR (fun e=>by have:=Option.some.inj e; omega)).below aT,by omega,fun e=>by have:=tR _ e; omega,Nat.le_refl _⟩
 have vc:=Hid.mk' (cf w0 v1 gc a len cap code 12 pk.cur (by omega) (by omega))
 rw[←oI] at vc;have Br:=Hid.mk' oI;obtain⟨l1,l2,l3⟩:=vO.lens;have eW:=hD.small;have rU:ln≤300:=by omega
 have hmn:mn≤60:=by omega
 have ZW:=Hid.mk' l1;clear l1 l2 l3 eW Ho;clear oI vO qt xI gk gR aT bg;go_wp2_with fail;refine vc.out.mono ?_;rw[Br.out];rintro e w2 ⟨x,hx,rfl,dS,lC⟩;have cT:=pk.step dS lC;clear vc Br pk dS lC;have OS:=cT.ins.box.lt;have Wy:=cT.new w1.heap.size List.mem_cons_self;by_cases x0:x=0
 · subst x0;obtain⟨w4,iH⟩:∃w4,w2.alloc (.cells #[.int .i64 (-1),.int .i64 7,.int .i64 8] 3)=w4:=⟨_,rfl⟩;have eD:Below w2.heap.size w2 w4:=by rw[←iH]; exact dY
   have lu:w4.heap[w2.heap.size]? =some (.cells #[.int .i64 (-1),.int .i64 7,.int .i64 8] 3):=by rw[←iH]; exact heap_alloc_new w2 _
   have fF:=cT.below eD;have mY:=Hid.mk' (u7 w0 w4 gc a len cap code w2.heap.size 3 3 _ _ fF.cur lu rfl (by omega) (by omega) (by omega) (fun z=>decide (-1≤z∧z≤8)=true) (ir _ 3 (fun z=>decide (-1≤z∧z≤8)) (by kernel_rfl)))
   rw[←iH] at mY;have rz:=Hid.mk' iH;clear iH lu cT eD;go_wp2_with fail;refine mY.out.mono ?_;rw[rz.out];rintro e w5 ⟨z,hz,rfl,je,g_⟩;have Li:=of_decide_eq_true hz;have gq:=fF.step je g_;have pn:=hD.PB Li;have hP:=gq.ins.SS z pn.id;simp only[List.length_nil] at hP;have bB:=gq.wrote hP.1 ((lay.Frame.refl _ _).grown hP.2 (fun k e=>.inl (by rw[←Option.some.inj e]; exact List.mem_cons_self))) (fun k hk=>.inl hk)
   have y0:=gq.ins.box.cell 0 _ rfl;simp only[List.length_nil,Nat.zero_add] at y0;have y1:=gq.ins.box.fz 0;clear mY rz hP fF je g_ gq;obtain⟨q0,q1,q2,q3,q4,z0,z1,z2,z3,z4,f0,f1,f2,f3,f4,⟨dy,dz,dA,dB,dC⟩,HP⟩:=bB.ni pn;have r7:w.heap.size≠w1.heap.size:=bB.rX;have tD:w1.heap.size≠w.heap.size:=fun e=>r7 e.symm
   try dsimp only at q0 q1 q2 q3 q4 z0 z1 z2 z3 z4 dy dz dA dB dC HP
   clear bB pn;go_wp2_with fail;refine bodyPost_ret (v:=bO z s.2.2.1 la ln lc ma mn mc ha hn hc) ?_ rfl HP.out;simp[results,Tryz.results50,go_sem,dy,dz,dA,dB,dC]
 by_cases x1:x=1
 · subst x1;have k1:=cT.ins.box.cell 1 _ rfl;simp only[List.length_nil,Nat.zero_add] at k1;obtain⟨w4,iH⟩:∃w4,w2.alloc (.cells #[.int .i64 (-1),.int .i64 (ln:Int),.int .i64 ((ln:Int)+1)] 3)=w4:=⟨_,rfl⟩;have eD:Below w2.heap.size w2 w4:=by rw[←iH]; exact dY
   have lu:w4.heap[w2.heap.size]? =some (.cells #[.int .i64 (-1),.int .i64 (ln:Int),.int .i64 ((ln:Int)+1)] 3):=by rw[←iH]; exact heap_alloc_new w2 _
   have fF:=cT.below eD;have mY:=Hid.mk' (u7 w0 w4 gc a len cap code w2.heap.size 3 3 _ _ fF.cur lu rfl (by omega) (by omega) (by omega) (fun z=> -1≤z∧z≤301) (fun i hi=>by
    match i,hi with
    | 0,_=>exact⟨-1,rfl,by omega,by omega⟩
    | 1,_=>exact⟨(ln:Int),rfl,by omega,by omega⟩
    | 2,_=>exact⟨(ln:Int)+1,rfl,by omega,by omega⟩))
   rw[←iH] at mY;have rz:=Hid.mk' iH;clear iH lu eD cT;have sS:IntKind.i64.wrap ((ln:Int)+1)=(ln:Int)+1:=lF _ (by omega) (by omega)
   go_wp2_with fail;refine mY.out.mono ?_;rw[rz.out];rintro e w5 ⟨z,Li,rfl,je,g_⟩;have gq:=fF.step je g_;have pn:=hD.JU Li;have hP:=gq.ins.My z pn.sure;simp only[List.length_nil,Nat.zero_add] at hP;have bB:=gq.wrote hP.1 ((lay.Frame.refl _ _).grown hP.2 (fun k e=>.inl (by rw[←Option.some.inj e]; exact List.mem_cons_self))) (fun k hk=>.inl hk)
   have y0:=gq.ins.box.cell 2 _ rfl;simp only[List.length_nil,Nat.zero_add] at y0;have y1:=gq.ins.box.fz 2;clear mY rz hP fF je g_ gq k1;obtain⟨q0,q1,q2,q3,q4,z0,z1,z2,z3,z4,f0,f1,f2,f3,f4,⟨dy,dz,dA,dB,dC⟩,HP⟩:=bB.ni pn;have r7:w.heap.size≠w1.heap.size:=bB.rX;have tD:w1.heap.size≠w.heap.size:=fun e=>r7 e.symm
   try dsimp only at q0 q1 q2 q3 q4 z0 z1 z2 z3 z4 dy dz dA dB dC HP
   clear bB pn;go_wp2_with fail;refine bodyPost_ret (v:=bO s.1 z la ln lc ma mn mc ha hn hc) ?_ rfl HP.out;simp[results,Tryz.results50,go_sem,dy,dz,dA,dB,dC]
 by_cases x2:x=2
 · subst x2;have k3:=cT.ins.box.cell 3 _ rfl;simp only[List.length_nil,Nat.zero_add] at k3;have Nz:=cT.ins.own.map;have Fi:mn+1≤maxLen:=by unfold maxLen; omega
   have Fj:(mn+1) * 32≤140737488355328:=by omega
   obtain⟨w4,iH⟩:∃w4,w2.alloc (.cells #[.string ⟨#[122,122,122]⟩,.string ⟨#[]⟩] 100)=w4:=⟨_,rfl⟩;have eD:Below w2.heap.size w2 w4:=by rw[←iH]; exact dY
   have K6:Hid (∀j u,(aw [((⟨#[122,122,122]⟩:ByteArray),(⟨#[]⟩:ByteArray))])[j]? =some u→w4.cell? ((⟨w2.heap.size,0,none⟩:Addr).add j)=some u):=by rw[←iH]; exact dQ w2 (⟨#[122,122,122]⟩,⟨#[]⟩) _
   have fF:=cT.below eD;have SX:=fF.ins.own.map;have JB:=Hid.mk' SX.2.2;have rz:=Hid.mk' iH;have hs24:=eD.size;clear iH cT;go_wp2_with (at_builtin; rw[rz.out]; refine wpList_append_lies _ rfl (.tmp 33) (.tmp 35) 37 rfl 0 100 j0 (.agg #[.string ⟨#[]⟩,.string ⟨#[]⟩]) 2 32 Tryz.underlying37 za yR Hj Cb rfl (by decide) (.slice ma mn mc) _ _ (by kernel_rfl) JB.out ⟨w2.heap.size,0,none⟩ 1 1 (aw [((⟨#[122,122,122]⟩:ByteArray),(⟨#[]⟩:ByteArray))]) (by kernel_rfl) rfl K6.out (aF _) (by decide) Fi Fj (Nat.zero_le _) _ rfl ?_)
   intro g8 c8 w8 fQ bK iG uO;have JV:ek w8 (some ⟨g8,0,none⟩) (mn+1) c8 (s.2.2.2.1++[((⟨#[122,122,122]⟩:ByteArray),(⟨#[]⟩:ByteArray))]):=⟨by simp[Nz.1],fun p hp=>by
    rcases List.mem_append.1 hp with e | e
    · exact Nz.2.1 p e
    · rw[List.mem_singleton.1 e]; exact⟨by decide,by decide⟩,by rw[cj]; exact fQ⟩
   have hP:=fF.ins.PD bK JV (iG.imp_right (fun e=>⟨fun e2=>by have:=fF.ins.own.lt g8 e2; omega,by omega⟩))
   simp only[List.length_nil,Nat.zero_add] at hP;obtain⟨F',SY,SZ,S0⟩:=hP;have lS:=fF.rb.lt;have Q7:=fF.fr.size;have PH:=fF.wrote SY SZ (fun k hk=>by
    rcases S0 k hk with e | e
    · exact .inl e
    · rcases iG with e2 | e2
      · left;rw[e];obtain⟨hl,tS,hh,qS,dL⟩:=fF.ins.own.log;rw[dL]; exact List.mem_append.2 (.inr (List.mem_append.2 (.inl (by simp[e2]))))
      · exact .inr ⟨by omega,by omega⟩)
   have pn:=hD.any_map ((⟨#[122,122,122]⟩:ByteArray),(⟨#[]⟩:ByteArray));have Bs:au w1.heap.size sU [] (aK s.1 s.2.2.1 la ln lc ma mn mc ha hn hc) [] w8:=fF.ins.box.grown bK (fun e=>fF.ins.out (by
    obtain⟨hl,tS,hh,qS,dL⟩:=fF.ins.own.log;rw[dL]; exact List.mem_append.2 (.inr (List.mem_append.2 (.inl (by simp[←e]))))))
   have e8:=Bs.cell 3 _ rfl;have f8:=Bs.fz 3;simp only[List.length_nil,Nat.zero_add] at e8;clear Bs SY SZ S0 JV fQ bK iG uO SX Nz JB K6 rz fF k3;obtain⟨q0,q1,q2,q3,q4,z0,z1,z2,z3,z4,f0,f1,f2,f3,f4,⟨dy,dz,dA,dB,dC⟩,HP⟩:=PH.ni pn;have r7:w.heap.size≠w1.heap.size:=PH.rX;have tD:w1.heap.size≠w.heap.size:=fun e=>r7 e.symm
   try dsimp only at q0 q1 q2 q3 q4 z0 z1 z2 z3 z4 dy dz dA dB dC HP
   clear PH pn;go_wp2_with fail;refine bodyPost_ret (v:=bO s.1 s.2.2.1 la ln lc (some ⟨g8,0,none⟩) (mn+1) c8 ha hn hc) ?_ rfl HP.out;simp[results,Tryz.results50,go_sem,dy,dz,dA,dB,dC]
 by_cases x3:x=3
 · subst x3;obtain⟨hl,tS,hh,qS,dL⟩:=cT.ins.own.log;have lU:Below w2.heap.size w2 w2.drew:=(Below.refl _ _).drew;have Gr:=cT.below lU;have ZX:=Hid.mk' (PA w0 w2.drew gc a len cap code Gr.cur);have fD:ln+1≤maxLen:=by unfold maxLen; omega
   have jX:(ln+1) * 40≤140737488355328:=by omega
   go_wp2_with fail;refine last.aq (S:=fun w'=>au w1.heap.size sU [] (aK s.1 s.2.2.1 la ln lc ma mn mc ha hn hc) [] w') 7 (by kernel_rfl) Gr.ins.box (fun af=>?_)
   refine last.wpTk 0 (.pointer (some ⟨w1.heap.size,1,none⟩)) rfl rfl ?_ ?_
   · intro wq ar; go_simp
   try simp only[Act.put,zP,zQ,zR]
   refine last.wpTk 1 (.slice la ln lc) rfl rfl ?_ ?_
   · intro wq ar; have q:=ar.cell 1 _ rfl; simp only[List.length_nil,Nat.zero_add] at q; go_simp
   try simp only[Act.put,zP,zQ,zR]
   refine last.wpTk 2 (.pointer (some ⟨gc,0,none⟩)) rfl rfl ?_ ?_
   · intro wq ar; go_simp
   try simp only[Act.put,zP,zQ,zR]
   refine last.an (i:=3) (o:={dst:=some 43,op:=Op.call {callee:=Callee.value (Operand.func 90),args:=#[Operand.tmp 42],argTypes:=#[51]},type:=98,pos:= "l09_shard.go:219",after:=#[{on:=2,ground:=Ground.data}],guard:=none}) (by kernel_rfl) rfl (fun K hK=>?_)
   refine fx.cq rfl 90 (.tmp 42) _ rfl (fun _ _=>rfl) (.pointer (some ⟨gc,0,none⟩)) (by kernel_rfl) _ ZX.out ?_
   rintro e w6 ⟨r,v6,⟨S3,Q8⟩,rfl,pM,eG,du⟩;refine⟨_,rfl,?_⟩;have bB:=Gr.step eG du;have Q9:=pM.lt;have Hr:=du.size;have hsd:w2.drew.heap.size=w2.heap.size:=rfl;refine hK.out _ _ ?_ (fun ag=>?_)
   · exact bB.ins.box
   clear hK K af;have af:=ag;clear ag;try simp only[Act.put,zP,zQ,zR]
   refine last.an (i:=4) (o:={dst:=some 44,op:=Op.buildSlice 41 1 #[(0,Operand.tmp 43)],type:=41,pos:= "l09_shard.go:219",after:=#[{on:=3,ground:=Ground.data}],guard:=none}) (by kernel_rfl) rfl (fun K hK=>?_)
   go_simp;have cP:Below w6.heap.size w6 (w6.alloc (.cells #[.int .i64 r.1,.int .i64 r.2.1,v6] 98)):=dY;have wO:=bB.below cP;refine hK.out _ _ ?_ (fun ag=>?_)
   · exact wO.ins.box
   clear hK K af;have af:=ag;clear ag;try simp only[Act.put,zP,zQ,zR]
   refine last.an (i:=5) (o:={dst:=some 45,op:=Op.call {callee:=Callee.builtin Builtin.append,args:=#[Operand.tmp 41,Operand.tmp 44],argTypes:=#[41,41]},type:=41,pos:= "l09_shard.go:219",after:=#[{on:=1,ground:=Ground.data},{on:=4,ground:=Ground.data},{on:=3,ground:=Ground.chain}],guard:=none}) (by kernel_rfl) rfl (fun K hK=>?_)
   have PI:=aP (ao (aP (World.grownBy.refl w2 (some gc)) lU) du) cP;obtain⟨g1,g2,g3⟩:=cT.gX;have A6:bm _ 0 (.slice la ln lc) s.2.1 hl:=tS.aY fun k hk=>PI.block k (tS.lt k hk).2 (fun e=>g2 (by rw[←Option.some.inj e,dL]; exact List.mem_append.2 (.inl (aA.2 hk))))
   have S4:bm _ 0 (.slice ha hn hc) s.2.2.2.2 hh:=qS.aY fun k hk=>PI.block k (qS.lt k hk).2 (fun e=>g2 (by rw[←Option.some.inj e,dL]; exact List.mem_append.2 (.inr (List.mem_append.2 (.inr (aA.2 hk))))))
   have pC:=(pM.mono (base':=0) (Nat.zero_le _)).below cP;refine step_append_lies _ rfl (.tmp 41) (.tmp 44) 41 rfl 0 98 i0 (.agg #[.int .i64 0,.int .i64 0,.slice none 0 0]) 3 40 Tryz.underlying41 hi dm dk cA rfl (by decide) (.slice la ln lc) ln (aX s.2.1 hl) (by kernel_rfl) (by have q:=A6.row; rw[←ZW.out] at q; exact q) ⟨w6.heap.size,0,none⟩ 1 1 [.int .i64 r.1,.int .i64 r.2.1,v6] (by kernel_rfl) rfl (iR w6 r.1 r.2.1 _ _) (lQ r.1 r.2.1 pM.one) (by decide) fD jX (Nat.zero_le _) _ rfl ?_
   intro g8 c8 w8 fQ bK iG uO;have S5:h_ r:=⟨WalkArith.wf_i64 (by have:=S3.1; omega),WalkArith.wf_i64 (by have:=S3.2.1; omega),fun o ho=>sT (S3.2.2.2 o ho)⟩
   have Xh:∀j,v6.ownBlock=some j→j∉F∧j≠w1.heap.size:=fun j hj=>by
    have h6:=Q9 j hj;refine⟨fun e=>?_,fun e=>?_⟩
    · have:=cT.ins.own.lt j e; omega
    · omega
   have JV:=A6.snoc pC S5 (fun k hk hb=>(Xh k hk).1 (by rw[dL]; exact List.mem_append.2 (.inl (aA.2 hb)))) (by rw[←ZW.out]; exact fQ) bK
   have hP:=wO.ins.PG (v:=v6) A6 S4 dL Xh bK JV iG;simp only[List.length_nil,Nat.zero_add] at hP;obtain⟨F',SY,SZ,S0⟩:=hP;have hXm:w1.heap.size≠w6.heap.size:=by have:=bB.ins.box.lt; omega
   have lS:=cT.rb.lt;have PH:=wO.wrote SY SZ (fun k hk=>by
    rcases S0 k hk with e | e | e
    · exact .inl e
    · have:=Q9 k e;exact .inr ⟨by have:=cT.fr.size; omega,by omega⟩
    · have h1:=cP.size;exact .inr ⟨by have:=cT.fr.size; omega,by omega⟩)
   have pn:=hD.Mx S3 Q8;have Bs:au w1.heap.size sU [] (aK s.1 s.2.2.1 la ln lc ma mn mc ha hn hc) [] w8:=wO.ins.box.grown bK (fun e=>cT.ins.out (by rw[dL]; exact List.mem_append.2 (.inl (aA.2 (.inl e.symm)))))
   refine hK.out _ _ ?_ (fun ag=>?_)
   · exact Bs
   clear hK K af;have af:=ag;clear ag;try simp only[Act.put,zP,zQ,zR]
   refine last.wpTk 6 (.pointer (some ⟨w1.heap.size,1,none⟩)) rfl rfl ?_ ?_
   · intro wq ar; go_simp
   try simp only[Act.put,zP,zQ,zR]
   have e8:=Bs.cell 1 _ rfl;have f8:=Bs.fz 1;simp only[List.length_nil,Nat.zero_add] at e8;refine last.aC (o:={dst:=none,op:=Op.store 41 (Operand.tmp 46) (Operand.tmp 45),type:=0,pos:= "l09_shard.go:219",after:=#[{on:=6,ground:=Ground.data},{on:=5,ground:=Ground.data},{on:=5,ground:=Ground.chain},{on:=0,ground:=Ground.phase},{on:=1,ground:=Ground.phase},{on:=2,ground:=Ground.phase},{on:=3,ground:=Ground.phase},{on:=4,ground:=Ground.phase},{on:=5,ground:=Ground.phase}],guard:=none}) (by kernel_rfl) rfl (by kernel_rfl) (fun K hK=>?_)
   go_simp;refine hK.out _ _ ?_;clear hK K;clear dL Xh Q9 Hr hsd S3 Q8 S5 hXm lS fD jX tR tL g1 g2 g3 af e8 f8 Bs SY SZ S0 JV fQ bK iG uO A6 S4 pC PI wO cP bB pM eG du ZX Gr lU cT tS qS;obtain⟨q0,q1,q2,q3,q4,z0,z1,z2,z3,z4,f0,f1,f2,f3,f4,⟨dy,dz,dA,dB,dC⟩,HP⟩:=PH.ni pn;have r7:w.heap.size≠w1.heap.size:=PH.rX;have tD:w1.heap.size≠w.heap.size:=fun e=>r7 e.symm
   try dsimp only at q0 q1 q2 q3 q4 z0 z1 z2 z3 z4 dy dz dA dB dC HP
   clear PH pn;go_wp2_with fail;refine bodyPost_ret (v:=bO s.1 s.2.2.1 (some ⟨g8,0,none⟩) (ln+1) c8 ma mn mc ha hn hc) ?_ rfl HP.out;simp[results,Tryz.results50,go_sem,dy,dz,dA,dB,dC]
 · have y0:¬(x:Int)=0:=by omega
   have y1:¬(x:Int)=1:=by omega
   have y2:¬(x:Int)=2:=by omega
   have y3:¬(x:Int)=3:=by omega
   have z0':((x:Int)==0)=false:=beq_eq_false_iff_ne.2 y0;have z1':((x:Int)==1)=false:=beq_eq_false_iff_ne.2 y1;have z2':((x:Int)==2)=false:=beq_eq_false_iff_ne.2 y2;have z3':((x:Int)==3)=false:=beq_eq_false_iff_ne.2 y3;have pn:=hD.any;obtain⟨q0,q1,q2,q3,q4,z0,z1,z2,z3,z4,f0,f1,f2,f3,f4,⟨dy,dz,dA,dB,dC⟩,HP⟩:=cT.ni pn;have r7:w.heap.size≠w1.heap.size:=cT.rX;have tD:w1.heap.size≠w.heap.size:=fun e=>r7 e.symm
   try dsimp only at q0 q1 q2 q3 q4 z0 z1 z2 z3 z4 dy dz dA dB dC HP
   clear cT pn;go_wp2_with fail;refine bodyPost_ret (v:=bO s.1 s.2.2.1 la ln lc ma mn mc ha hn hc) ?_ rfl HP.out;simp[results,Tryz.results50,go_sem,dy,dz,dA,dB,dC]
end aZ
namespace aZ
open Go Go.RowKit base av aN dp gu lay draw
def NM(w:World)(e:Ending)(w':World):Prop:=
 ∃(la:Option Addr) (ln lc:Nat) (ma:Option Addr) (mn mc:Nat) (ha:Option Addr) (hn hc:Nat) (s:cQ) (F:List Nat),AnyS s∧e=.returned (bO s.1 s.2.2.1 la ln lc ma mn mc ha hn hc)∧cY w' la ln lc ma mn mc ha hn hc s F∧(∀k∈F,w.heap.size≤k)∧Below w.heap.size w w'
theorem JZ{w w':World}{la ma ha:Option Addr}{ln lc mn mc hn hc:Nat}{s:cQ}{F:List Nat}(hd:AnyS s)(h:cY w' la ln lc ma mn mc ha hn hc s F)(hF:∀k∈F,w.heap.size≤k)(hb:Below w.heap.size w w'):NM w (.returned (bO s.1 s.2.2.1 la ln lc ma mn mc ha hn hc)) w':=
 ⟨la,ln,lc,ma,mn,mc,ha,hn,hc,s,F,hd,rfl,h,hF,hb⟩
theorem x8(a:Option Addr)(len cap:Nat)(code:List UInt8)(w:World)(h:Sl w a len code)(rU:len≤1099511627776):
 Calls Tryz.prog 17 #[.slice a len cap] w (NM w):=by
 obtain⟨W,hW⟩:∃W,w.alloc (bW 0 0 none 0 0 none 0 0 none 0 0)=W:=⟨_,rfl⟩;have hB:Below w.heap.size w W:=by rw[←hW]; exact dY
 have hR:au w.heap.size sU [] (aK 0 0 none 0 0 none 0 0 none 0 0) [] W:=by rw[←hW]; exact aE w _ _
 have iN:=hR.lt;have HW:=Hid.mk' hW;clear hW;go_enter Tryz.func17,Tryz.ntmps17;go_wp2_with fail;rw[HW.out];refine(Sy w W a len cap code h hB rU).mono ?_;rintro e w1 ⟨rfl,gk,aT⟩;have pf:=hR.below aT;have eU:=hB.trans (aT.mono hB.size);have xn:=gk.lt;clear HW;go_wp2_with fail;refine(SN a len cap 16 w1 (by omega) (by omega) rU).mono ?_
 rintro e w2 ⟨n,hn3,Xi,rfl,jO⟩;subst jO;have JY:=Hid.mk' (SW w w2 W.heap.size a len cap code n gk (by omega) (by omega))
 go_wp2_with fail;refine JY.out.mono ?_;rintro e w3 ⟨la,ln,lc,ma,mn,mc,ha,hn,hc,s,F,hD,rfl,qt,tR,fD,ky⟩;have cC:=pf.grown ky (fun e=>by have:=Option.some.inj e; omega)
 have cJ:Below w.heap.size w w3:=eU.grown ky eU.size (fun k e=>by cases e; exact hB.size)
 have px:=eU.size;have Lc:=ky.size;have tL:=aT.size;have RZ:=hB.size;clear pf hR gk eU aT JY;have z0:=cC.cell 0 _ rfl;have z1:=cC.cell 1 _ rfl;have z2:=cC.cell 2 _ rfl;have z3:=cC.cell 3 _ rfl;have z4:=cC.cell 4 _ rfl;simp only[List.length_nil,Nat.zero_add] at z0 z1 z2 z3 z4;have f0:=cC.fz 0;have f1:=cC.fz 1;have f2:=cC.fz 2;have f3:=cC.fz 3;have f4:=cC.fz 4;have cB:=cC.ni (.int .i64 s.1) (.slice la ln lc) (.int .i64 s.2.2.1) (.slice ma mn mc) (.slice ha hn hc);simp only[List.length_nil,Nat.zero_add] at cB;have jv:=qt.keep (fun j hj=>cB.2.block j (qt.lt j hj) (fun e=>by have:=tR j hj; have:=Option.some.inj e; omega))
 have jy:=cJ.grown cB.2 cJ.size (fun j e=>by cases e; exact Nat.le_refl _)
 have dy:=cB.1.cell 0 _ rfl;have dz:=cB.1.cell 1 _ rfl;have dA:=cB.1.cell 2 _ rfl;have dB:=cB.1.cell 3 _ rfl;have dC:=cB.1.cell 4 _ rfl;simp only[List.length_nil,Nat.zero_add] at dy dz dA dB dC;have HP:=Hid.mk' (JZ (w:=w) hD jv (fun k hk=>Nat.le_trans px (tR k hk)) jy)
 clear jv jy cB qt cC cJ;go_wp2_with fail;refine bodyPost_ret (v:=bO s.1 s.2.2.1 la ln lc ma mn mc ha hn hc) ?_ rfl HP.out;simp[results,Tryz.results17,go_sem,dy,dz,dA,dB,dC]
end aZ
namespace aZ
open Go Go.RowKit base av aN dp
theorem S6(a a2:Option Addr)(len cap cn eg:Nat)(l:List Od)(w:World)(h:dD w a len l)(h2:dD w a2 cn l):
 Calls Tryz.prog 96 #[.slice a len cap,.slice a2 cn eg] w fun e w'=>e=.returned (.bool true)∧Below w.heap.size w w':=by
 refine(Me a a2 len cap cn eg l l w h h2).mono ?_;rintro e w' ⟨rfl,n,rfl⟩;exact⟨by simp,below_drewN (Below.refl _ _) n⟩
theorem J0(kind tx:Int)(pa qa:Option Addr)(pl pc ql qc:Nat)(l:List Od)(w:World)(hx:dD w pa pl l)(hy:dD w qa ql l):
 Calls Tryz.prog 57 #[.agg #[.int .i64 kind,.int .i64 tx,.slice pa pl pc],.agg #[.int .i64 kind,.int .i64 tx,.slice qa ql qc]] w fun e w'=>e=.returned (.bool true)∧Below w.heap.size w w':=by
 obtain⟨W,hW⟩:∃W,(w.alloc (.cells #[.int .i64 kind,.int .i64 tx,.slice pa pl pc] 98)).alloc (.cells #[.int .i64 kind,.int .i64 tx,.slice qa ql qc] 98)=W:=⟨_,rfl⟩;have hB:Below w.heap.size w W:=by rw[←hW]; exact((Below.refl _ _).alloc (Nat.le_refl _) _).alloc (by simp) _
 have HE:=Hid.mk' (S6 pa qa pl pc ql qc l W (hx.below hB) (hy.below hB));have HW:=Hid.mk' hW;have hn:(kind==kind)=true:=by simp
 have hf:(tx==tx)=true:=by simp
 clear hW hx hy;go_enter Tryz.func57,Tryz.ntmps57;go_wp2_with fail;rw[HW.out];refine HE.out.mono ?_;rintro e w1 ⟨rfl,aT⟩;have eU:=hB.trans (aT.mono hB.size);clear HE HW aT;go_wp2_with fail;go_ret;exact⟨rfl,eU⟩
theorem E9(a a2:Option Addr)(len cap eg:Nat)(l:List Rc)(w:World)(h:rs w a len l)(h2:rs w a2 len l):
 Calls Tryz.prog 23 #[.slice a len cap,.slice a2 len eg] w fun e w'=>e=.returned (.bool true)∧Below w.heap.size w w':=by
 obtain⟨hl,hm,eW,hc⟩:=id h;obtain⟨_,_,_,dS⟩:=id h2;subst hl;unfold maxLen at hm;have hb:((l.length:Int)==(l.length:Int))=true:=by simp
 go_enter Tryz.func23,Tryz.ntmps23;go_wp2_with fail;go_loopw [5] (fun i wr=>∃k:Nat,k≤l.length∧i=.int .i64 k∧Below w.heap.size w wr) (fun i _=>l.length - (intOf i).toNat)
 case atStart=>exact⟨0,Nat.zero_le _,rfl,Below.refl _ _⟩
 case round=>
  obtain⟨k,hk,rfl,hB⟩:=hrel;by_cases a6:k<l.length
  · obtain⟨b,off,ha,cK⟩:=hc (by omega)
    obtain⟨b2,kx,sO,gM⟩:=dS (by omega)
    subst ha sO;have fL:(k:Int)<(l.length:Int):=by omega
    have i1:=h.at k a6;have i2:=h2.at k a6;have aT:b<w.heap.size:=World.block_lt_of_cell? w _ i1.1;have aU:b2<w.heap.size:=World.block_lt_of_cell? w _ i2.1;have Fp:=hB.size;obtain⟨c1,c2,pa,pl,pc,c3,Ny,_⟩:=i1.below hB;obtain⟨c4,c5,qa,ql,qc,c6,zD,_⟩:=i2.below hB;have o1:=last.On.cell (B:=wr.heap.size) c1 (by omega)
    have o2:=last.On.cell (B:=wr.heap.size) c2 (by omega)
    have o3:=last.On.cell (B:=wr.heap.size) c3 (by omega)
    have o4:=last.On.cell (B:=wr.heap.size) c4 (by omega)
    have o5:=last.On.cell (B:=wr.heap.size) c5 (by omega)
    have o6:=last.On.cell (B:=wr.heap.size) c6 (by omega)
    have a_:=last.On.gV wr.heap.size wr;have dX:∀x:last.On wr.heap.size wr,Calls Tryz.prog 57 #[.agg #[.int .i64 l[k].1,.int .i64 l[k].2.1,.slice pa pl pc],.agg #[.int .i64 l[k].1,.int .i64 l[k].2.1,.slice qa ql qc]] x.w fun e w'=>e=.returned (.bool true)∧∃y:last.On wr.heap.size wr,w'=y.w:=fun x=>last.Calls.on x (Nat.le_refl _) (J0 l[k].1 l[k].2.1 pa qa pl pc ql qc l[k].2.2 x.w (Ny.below x.2) (zD.below x.2))
    clear cK gM hc dS i1 i2 eW h h2 Ny zD;generalize l[k]=p at *;go_wp2_with fail;refine last.ai wr.heap.size (by kernel_rfl) (by kernel_rfl) ?_
    repeat(go_big_quiet_step ((go_at_call 57; exact dX _)))
    refine wpQuiet_nil ?_;intro w5 bP;obtain⟨x5,bP⟩:=bP;subst bP;have ec:Below w.heap.size w x5.w:=hB.trans (x5.2.mono hB.size);go_wp2_with fail;go_roundw
    case rel=>exact⟨k+1,by omega,by go_num,ec⟩
    case measure=>simp[intOf]; omega
  · go_wp2_with fail;go_ret;exact⟨rfl,hB⟩
end aZ
namespace base
open Go.RowKit
theorem Vp(a0:Option Addr)(rB zN:Nat)(w:World)(h:rB≤maxLen):
 Calls Tryz.prog 5 #[.slice a0 rB zN] w fun e w'=>e=.returned (.bool (decide (1048576<(rB:Int))))∧w'=w:=by
 unfold maxLen at h;go_enter Tryz.func5,Tryz.ntmps5;go_wp2;go_ret;exact⟨rfl,rfl⟩
end base
namespace aZ
open Go Go.RowKit base av aN dp gu lay
theorem oS(a:Option Addr)(len cap:Nat)(l:List Rc)(w:World)(h:rs w a len l)(iO:len≤1099511627776)(cE:∀r∈l,r.2.2.length≤1099511627776):
 Calls Tryz.prog 91 #[.slice a len cap] w fun e w'=>∃g cp hs,e=.returned (.slice (some ⟨g,0,none⟩) len cp)∧bm w' w.heap.size (.slice (some ⟨g,0,none⟩) len cp) l hs∧Below w.heap.size w w':=by
 obtain⟨i0,hi,dm,dk,cA⟩:=info_parts mA;obtain⟨hl,hm,eW,hc⟩:=id h;subst hl;have hm':=hm;unfold maxLen at hm';go_enter Tryz.func91,Tryz.ntmps91;go_wp2_with (at_make; refine wpList_make_own _ rfl _ _ 41 rfl w.heap.size 98 i0 (.agg #[.int .i64 0,.int .i64 0,.slice none 0 0]) 3 Tryz.underlying41 hi dm dk _ _ _ l.length rfl rfl rfl ?b2 ?b3 ?b4 ?_)
 case b2=>rw[cA]; omega
 case b3=>exact hm
 case b4=>exact Nat.le_refl _
 intro w1 aB az;have zG:bm w1 w.heap.size (.slice (some ⟨w.heap.size,0,none⟩) 0 l.length) (l.take 0) []:=
  ⟨rfl,(fun _ h=>absurd h (by simp)),aB,fun i hi=>absurd hi (by simp),List.Pairwise.nil,fun k _ y hy=>absurd hy List.not_mem_nil⟩
 have IG:Below w.heap.size w w1:=(Below.refl _ _).grown az (Nat.le_refl _) (fun k e=>by cases e)
 clear aB az;go_wp2_with (at_builtin; fail)
 go_loopw [3,11] (fun v i wr=>∃(k g cp:Nat) (hs:List Value),k≤l.length∧v=.slice (some ⟨g,0,none⟩) k cp∧i=.int .i64 (k:Int)∧bm wr w.heap.size (.slice (some ⟨g,0,none⟩) k cp) (l.take k) hs∧Below w.heap.size w wr) (fun _ i _=>l.length - (intOf i).toNat)
 case atStart=>exact⟨0,_,_,[],Nat.zero_le _,rfl,rfl,zG,IG⟩
 case round=>
  clear zG IG;obtain⟨k,g,cp,hs,hk,rfl,rfl,hO,hB⟩:=hrel;by_cases a6:k<l.length
  · obtain⟨b,off,ha,_⟩:=hc (by omega)
    subst ha;obtain⟨c0,c1,pa,pl,pc,c2,dE,_⟩:=(h.at k a6).below hB;have fL:(k:Int)<(l.length:Int):=by omega
    have xo:=eW _ (List.getElem_mem a6);have oL:=cE _ (List.getElem_mem a6);have xr:Hid (l.take (k+1)=l.take k++[l[k]]):=List.take_succ_eq_append_getElem a6;have rN:(l.take k).length=k:=by rw[List.length_take]; omega
    generalize l[k]=r at *;generalize l.take k=T at *;have Hg:=dE.1;obtain⟨W,hW⟩:∃W,wr.alloc (.cells #[.int .i64 r.1,.int .i64 r.2.1,.slice pa pl pc] 98)=W:=⟨_,rfl⟩;have G0:Below wr.heap.size wr W:=by rw[←hW]; exact(Below.refl _ _).alloc (Nat.le_refl _) _
    have wE:=Hid.mk' (Ay r.1 r.2.1 pa pl pc r.2.2 W (dE.below G0) (by omega))
    have HW:=Hid.mk' hW;have Mf:=Hid.mk' rN;have HO:=Hid.mk' (hO.below G0);have zx:=hB.trans (G0.mono hB.size);clear hO rN hW G0;go_wp2_with (at_builtin; fail)
    rw[HW.out];refine wE.out.mono ?_;rintro e w3 ⟨g3,rfl,d_,dt⟩;have jP:=(fv d_).mono (base':=w.heap.size) zx.size;have Np:=HO.out.below dt;have cJ:=zx.trans (dt.mono zx.size);have ky:=d_.lt;have jz:∀j,(Value.slice (some ⟨g3,0,none⟩) pl pl).ownBlock=some j→¬c_ (.slice (some ⟨g,0,none⟩) k cp) hs j:=fun j hj hb=>by
     have e1:g3=j:=by simpa[Value.ownBlock] using hj
     have:=(HO.out.lt j hb).2;omega
    have yK:=Hid.mk' jz;have sL:Below w3.heap.size w3 (w3.alloc (.cells #[.int .i64 r.1,.int .i64 r.2.1,.slice (some ⟨g3,0,none⟩) pl pl] 98)):=(Below.refl _ _).alloc (Nat.le_refl _) _;have dT:=Np.below sL;have zE:=jP.below sL;have ej:=cJ.trans (sL.mono cJ.size);have I0:=Hid.mk' (iR w3 r.1 r.2.1 (.slice (some ⟨g3,0,none⟩) pl pl) 98);have B_:=Hid.mk' (lQ r.1 r.2.1 jP.one);have fD:T.length+1≤maxLen:=by have:=Mf.out; unfold maxLen; omega
    have jX:(T.length+1) * 40≤140737488355328:=by have:=Mf.out; omega
    clear wE d_ dt jP Np cJ sL jz c0 c1 c2 HO;go_wp2_with (at_builtin; refine wpList_append_own _ rfl (.tmp 15) (.tmp 18) 41 rfl w.heap.size 98 i0 (.agg #[.int .i64 0,.int .i64 0,.slice none 0 0]) 3 40 Tryz.underlying41 hi dm dk cA rfl (by decide) _ _ _ rfl dT.row ⟨w3.heap.size,0,none⟩ 1 1 _ rfl rfl I0.out B_.out fD jX ej.size ?_)
    intro v5 w5 ic eN uF;have bY:¬v5=.slice none 0 0:=by simpa using uF
    have eh:=dT.snoc zE xo yK.out ic eN;have ec:Below w.heap.size w w5:=ej.grown eN ej.size (fun j e=>(dT.row.lt j e).1)
    rw[←xr.out] at eh;have Jp:(l.take (k+1)).length=k+1:=by rw[List.length_take]; omega
    rcases eh.shape with⟨FF,_⟩ | ⟨g5,vM,FF,_⟩
    · exact absurd FF bY
    · rw[Jp] at FF;subst FF;have wu:=Hid.mk' eh;clear ic eN uF bY eh dT ej zE I0 B_ yK Jp;go_wp2_with (at_builtin; fail)
      go_roundw
      case rel=>exact⟨k+1,g5,vM,_,by omega,rfl,by go_num,wu.out,ec⟩
      case measure=>simp[intOf]; omega
  · have EF:k=l.length:=by omega
    subst EF;rw[List.take_length] at hO;have fB:¬(l.length:Int)<(l.length:Int):=by omega
    go_wp2_with (at_builtin; fail)
    go_ret;exact⟨g,cp,rfl,⟨hs,hO⟩,hB⟩
end aZ
end Go.Proofs.YtmibabclefgljaaGreat
