/- ShH ShardLaw -/
import Derived.Test.YtmibabclefgljaaGreatShao
import Derived.Test.YtmibabclefgljaaGreatShai
set_option linter.unusedVariables false
set_option linter.unusedSimpArgs false
namespace Go.Proofs.YtmibabclefgljaaGreat
open Go in
abbrev qO18:Oper:={dst:=some 40,op:=Op.nilCheck (Operand.tmp 28),type:=0,pos:= "l09_shard.go:175",after:=#[{on:=0,ground:=Ground.data},{on:=0,ground:=Ground.phase},{on:=1,ground:=Ground.phase},{on:=2,ground:=Ground.phase},{on:=3,ground:=Ground.phase},{on:=4,ground:=Ground.phase},{on:=5,ground:=Ground.phase},{on:=6,ground:=Ground.phase},{on:=7,ground:=Ground.phase},{on:=8,ground:=Ground.phase},{on:=9,ground:=Ground.phase},{on:=10,ground:=Ground.phase},{on:=11,ground:=Ground.phase}],guard:=none}
open Go in
abbrev qO19:Oper:={dst:=none,op:=Op.store 41 (Operand.tmp 41) (Operand.tmp 39),type:=0,pos:= "l09_shard.go:175",after:=#[{on:=13,ground:=Ground.data},{on:=11,ground:=Ground.data},{on:=0,ground:=Ground.phase},{on:=1,ground:=Ground.phase},{on:=2,ground:=Ground.phase},{on:=3,ground:=Ground.phase},{on:=4,ground:=Ground.phase},{on:=5,ground:=Ground.phase},{on:=6,ground:=Ground.phase},{on:=7,ground:=Ground.phase},{on:=8,ground:=Ground.phase},{on:=9,ground:=Ground.phase},{on:=10,ground:=Ground.phase},{on:=11,ground:=Ground.phase}],guard:=none}
namespace bm
open Go Go.RowKit base aE aX dG gO lay
theorem Mx(r:Option St):Jn r=qn r:=by cases r <;> rfl
theorem My(r:Option St):EL r=fb r:=by cases r <;> rfl
theorem bB.Pp{w:World}{a:Option Addr}{n cap:Nat}{l:List Rc}{hs:List Value}(h:bB w 0 (.slice a n cap) l hs)(k:Nat)(hk:k≤n):∃Lm,bB w 0 (.slice a k cap) (l.take k) Lm∧∀j,dq (.slice a k cap) Lm j→dq (.slice a n cap) hs j:=by
 have hn:=h.nF;obtain⟨v,q,e,hq,hG⟩:=dB.2 ⟨hs,h,rfl⟩;cases e;obtain⟨Lm,ho,hF⟩:=dB.1 (OE (hG.take k (by omega)))
 refine⟨Lm,ho,fun j hj=>?_⟩
 have h1:=aJ.2 hj;rw[←hF] at h1;refine aJ.1 ?_;rw[hq];rcases List.mem_append.1 h1 with e | e
 · exact List.mem_append.2 (.inl (by cases a with
    | none=>simp[Value.ownBlock] at e
    | some ad=>simpa[Value.ownBlock] using e))
 · obtain⟨p,hp,e⟩:=List.mem_flatMap.1 e;exact List.mem_append.2 (.inr (List.mem_flatMap.2 ⟨p,List.mem_of_mem_take hp,e⟩))
set_option maxRecDepth 100000 in
set_option maxHeartbeats 4000000 in
theorem zp(X:Nat)(T:TypeId)(pre post:List Value)(la:Option Addr)(ln lc:Nat)(ma:Option Addr)(mn mc:Nat)(ha:Option Addr)(hn hc:Nat)(s0:de)(F:List Nat)(keep:Int)(w:World)
 (h0:gW w X T pre post la ln lc ma mn mc ha hn hc s0 F) (hR:cD s0) (hf:wD s0.2.1):
 Calls Tryz.prog 126 #[.pointer (some ⟨X,pre.length,none⟩),.int .i64 keep] w fun e w'=>e=.returned (.tuple #[])∧dH w X T pre post F (fe s0 keep) w':=by
 obtain⟨DJ,log,sure,m,held⟩:=s0;obtain⟨l1,l2,l3⟩:=h0.lens;have oq:=hR.room;have EW:=hR.sure;simp only[] at l1 l2 l3 oq EW hf;obtain⟨sn,rfl⟩:∃sn:Nat,sure=(sn:Int):=⟨sure.toNat,by omega⟩
 have uy:=h0.own.fo;have W8:=uy.lc;obtain⟨hl,uk,hh,rq,d_⟩:=h0.own.log;simp only[] at uk rq;have W9:=uk.room.2;unfold maxLen at W9;have jH:=h0.out;have kF:=h0.own.lt;have Gl:=h0.own.id;have z6:=h0.box;have jf:=z6.lt;have ud:sn≤ln:=by omega
 have hln3:ln≤300:=by omega
 obtain⟨kk,yW⟩:∃kk:Nat,(kk:Int)=min (max keep 0) ((ln:Int) - (sn:Int)):=⟨(min (max keep 0) ((ln:Int) - (sn:Int))).toNat,by omega⟩
 have ZS:gJ (DJ,log,(sn:Int),m,held) keep=sn+kk:=by
  unfold gJ;show((sn:Int)+min (max keep 0) ((log.length:Int) - (sn:Int))).toNat=_;rw[←l1,←yW]; omega
 have xD:sn+kk≤ln:=by omega
 obtain⟨lf,zR⟩:∃lf,lf=sn+kk:=⟨_,rfl⟩;obtain⟨U7,W_,yE⟩:=uk.Pp lf (by omega)
 have SG:(log.take lf).length=lf:=by simp; omega
 have wW:Hid (fe (DJ,log,(sn:Int),m,held) keep=(DJ,log.take lf,(lf:Int),qn (replay (log.take lf)),fb (replay (log.take lf)))):=by
  show _=_;unfold fe;rw[ZS,←zR,Mx,My]
 have Pq:(Lit.int .i64 (lf:Int)).wf=true:=by
  simp[Lit.wf,IntKind.min,IntKind.max,IntKind.signed,IntKind.bits]; omega
 have ZT:wD (log.take lf):=fun r hr=>hf r (List.mem_of_mem_take hr)
 have Hv:=Hid.mk' (fun wx (hS:rP wx la lf (log.take lf))=>td la lf lc (log.take lf) wx hS (by omega) ZT)
 have hlfc:lf≤lc:=by omega
 have hlfn:lf≤ln:=by omega
 have ZU:IntKind.i64.wrap (lf:Int)=(lf:Int):=lX _ (by omega) (by omega)
 generalize log.take lf=LT at *;have sA:∀k∈F,k≠X:=fun k hk e=>jH (e ▸ hk)
 have U8:=Hid.mk' SG;clear SG;have z7:Hid (∀k,dq (.slice la lf lc) U7 k→k∈F∧k<w.heap.size):=fun k hk=>by
  have h1:k∈F:=by rw[d_]; exact List.mem_append.2 (.inl (aJ.2 (yE k hk)))
  exact⟨h1,kF k h1⟩
 clear yE rq d_ l1 l2 l3 oq ZS uk hf ZT;have o1:=last.On.cell (B:=w.heap.size) (z6.cell 1 _ rfl) jf;have o2:=last.On.cell (B:=w.heap.size) (z6.cell 2 _ rfl) jf;have br:=last.On.iq w.heap.size w;by_cases g1:keep<0
 · obtain rfl:kk=0:=by omega
   obtain rfl:lf=sn:=by omega
   have hq:decide ((ln:Int) - (lf:Int)<0)=false:=decide_eq_false (by omega)
   have hq':¬(ln:Int) - (lf:Int)<0:=by omega
   clear yW zR;aj Tryz.func126,Tryz.ntmps126;ab fail;refine last.ar w.heap.size (by aa) (by aa) ?_
   repeat(ai (fail))
   refine wpQuiet_nil ?_;intro w2 j_;obtain⟨x2,j_⟩:=j_;have be:Below w.heap.size w w2:=by rw[j_]; exact x2.2
   clear j_ x2;have rR:Below w.heap.size w w2.drew:=be.drew;have rs:=z6.below rR;clear o1 o2 br;ab fail;refine last.aB (S:=fun w'=>aD X T pre (aU DJ (lf:Int) la ln lc ma mn mc ha hn hc) post w') 14 (by aa) rs (fun al=>?_)
   refine last.ae (i:=0) (v:=(.pointer (some ⟨X,pre.length,none⟩))) rfl rfl (by aa) (by aa) (by aa) (by aa) (fun _ _ _ h=>h) (Or.inl ⟨by rfl,?_⟩) (by assumption) ?_
   · intro wq aC; af
   try simp only[Act.put,List.setIfInBounds_toArray,List.set_cons_zero,List.set_cons_succ];refine last.ae (i:=1) (v:=(.pointer (some ⟨X,pre.length,none⟩))) rfl rfl (by aa) (by aa) (by aa) (by aa) (fun _ _ _ h=>h) (Or.inl ⟨by rfl,?_⟩) (by assumption) ?_
   · intro wq aC; af
   try simp only[Act.put,List.setIfInBounds_toArray,List.set_cons_zero,List.set_cons_succ];refine last.ae (i:=2) (v:=(.pointer (some ⟨X,pre.length,none⟩))) rfl rfl (by aa) (by aa) (by aa) (by aa) (fun _ _ _ h=>h) (Or.inl ⟨by rfl,?_⟩) (by assumption) ?_
   · intro wq aC; af
   try simp only[Act.put,List.setIfInBounds_toArray,List.set_cons_zero,List.set_cons_succ];refine last.ae (i:=3) (v:=(.pointer (some ⟨X,pre.length+1,none⟩))) rfl rfl (by aa) (by aa) (by aa) (by aa) (fun _ _ _ h=>h) (Or.inl ⟨by rfl,?_⟩) (by assumption) ?_
   · intro wq aC; af
   try simp only[Act.put,List.setIfInBounds_toArray,List.set_cons_zero,List.set_cons_succ];refine last.ae (i:=4) (v:=(.slice la ln lc)) rfl rfl (by aa) (by aa) (by aa) (by aa) (fun _ _ _ h=>h) (Or.inl ⟨by rfl,?_⟩) (by assumption) ?_
   · intro wq aC; have q:=aC.cell 1 _ rfl; af
   try simp only[Act.put,List.setIfInBounds_toArray,List.set_cons_zero,List.set_cons_succ];refine last.ae (i:=5) (v:=(.pointer (some ⟨X,pre.length,none⟩))) rfl rfl (by aa) (by aa) (by aa) (by aa) (fun _ _ _ h=>h) (Or.inl ⟨by rfl,?_⟩) (by assumption) ?_
   · intro wq aC; af
   try simp only[Act.put,List.setIfInBounds_toArray,List.set_cons_zero,List.set_cons_succ];refine last.ae (i:=6) (v:=(.pointer (some ⟨X,pre.length,none⟩))) rfl rfl (by aa) (by aa) (by aa) (by aa) (fun _ _ _ h=>h) (Or.inl ⟨by rfl,?_⟩) (by assumption) ?_
   · intro wq aC; af
   try simp only[Act.put,List.setIfInBounds_toArray,List.set_cons_zero,List.set_cons_succ];refine last.ae (i:=7) (v:=(.pointer (some ⟨X,pre.length+2,none⟩))) rfl rfl (by aa) (by aa) (by aa) (by aa) (fun _ _ _ h=>h) (Or.inl ⟨by rfl,?_⟩) (by assumption) ?_
   · intro wq aC; af
   try simp only[Act.put,List.setIfInBounds_toArray,List.set_cons_zero,List.set_cons_succ];refine last.ae (i:=8) (v:=(.int .i64 (lf:Int))) rfl rfl (by aa) (by aa) (by aa) (by aa) (fun _ _ _ h=>h) (Or.inl ⟨by rfl,?_⟩) (by assumption) ?_
   · intro wq aC; have q:=aC.cell 2 _ rfl; af
   try simp only[Act.put,List.setIfInBounds_toArray,List.set_cons_zero,List.set_cons_succ];refine last.ae (i:=9) (v:=(.int .i64 0)) rfl rfl (by aa) (by aa) (by aa) (by aa) (fun _ _ _ h=>h) (Or.inl ⟨by rfl,?_⟩) (by assumption) ?_
   · intro wq aC; af
   try simp only[Act.put,List.setIfInBounds_toArray,List.set_cons_zero,List.set_cons_succ];refine last.ae (i:=10) (v:=(.int .i64 (lf:Int))) rfl rfl (by aa) (by aa) (by aa) (by aa) (fun _ _ _ h=>h) (Or.inl ⟨by rfl,?_⟩) (by assumption) ?_
   · intro wq aC; af
   try simp only[Act.put,List.setIfInBounds_toArray,List.set_cons_zero,List.set_cons_succ];refine last.ae (i:=11) (v:=(.slice la lf lc)) rfl rfl (by aa) (by aa) (by aa) (by aa) (fun _ _ _ h=>h) (Or.inl ⟨by rfl,?_⟩) (by assumption) ?_
   · intro wq aC; af
   try simp only[Act.put,List.setIfInBounds_toArray,List.set_cons_zero,List.set_cons_succ];refine last.ax (i:=12) (o:=qO18) (by aa) rfl (fun K hK=>?_)
   af;refine hK.out _ _ ?_ (fun aq=>?_)
   · exact al
   clear hK K al;have al:=aq;clear aq;try simp only[Act.put,List.setIfInBounds_toArray,List.set_cons_zero,List.set_cons_succ];refine last.ae (i:=13) (v:=(.pointer (some ⟨X,pre.length+1,none⟩))) rfl rfl (by aa) (by aa) (by aa) (by aa) (fun _ _ _ h=>h) (Or.inl ⟨by rfl,?_⟩) (by assumption) ?_
   · intro wq aC; af
   try simp only[Act.put,List.setIfInBounds_toArray,List.set_cons_zero,List.set_cons_succ];have e8:=rs.cell 1 _ rfl;have f8:=rs.fz (pre.length+1);refine last.aL (o:=qO19) (by aa) rfl (by aa) (fun K hK=>?_)
   af;refine hK.out _ _ ?_;clear hK K;have c4:aD X T pre (aU DJ (lf:Int) la lf lc ma mn mc ha hn hc) post (w2.setCell ⟨X,pre.length+1,none⟩ (.slice la lf lc)).drew∧w2.drew.grownBy (w2.setCell ⟨X,pre.length+1,none⟩ (.slice la lf lc)).drew (some X):=rs.set 1 (by simp[aU]) (.slice la lf lc)
   generalize JJ:(w2.setCell ⟨X,pre.length+1,none⟩ (.slice la lf lc)).drew=w4 at *;have ru:aD X T pre (aU DJ (lf:Int) la lf lc ma mn mc ha hn hc) post w4:=c4.1;have zq:lay.Frame [X] w w4:=(lay.Frame.cM rR).grown c4.2 (fun k e=>.inl (by rw[←Option.some.inj e]; exact List.mem_cons_self))
   have c5:=ru.set 2 (by simp[aU]) (.int .i64 (lf:Int))
   have x1:=ru.cell 1 _ rfl;have AL:=ru.cell 2 _ rfl;have y2:=ru.fz (pre.length+2);have wH:lay.Frame [X] w (w4.setCell ⟨X,pre.length+2,none⟩ (.int .i64 (lf:Int))):=zq.grown c5.2 (fun k e=>.inl (by rw[←Option.some.inj e]; exact List.mem_cons_self))
   have vu:=W_.bl (w':=w4.setCell ⟨X,pre.length+2,none⟩ (.int .i64 (lf:Int))) (fun k hk=>wH.block k (z7.out k hk).2 (fun e=>sA k (z7.out k hk).1 (List.mem_singleton.1 e)))
   have Bn:=Hid.mk' (Hv.out _ vu.sl);have z1:=c5.1.cell 1 _ rfl;clear Hv JJ c4 e8 f8 al;ab fail;refine Bn.out.mono ?_;rintro e w7 ⟨g,np,cp,g2,o9,hs,rfl,hO,nO,Ip,dd⟩;have ml:=c5.1.below dd;have xb:=wH.below dd;have vv:=vu.below dd;have C8:=wH.size;have c8:=ml.set 3 (by simp[aU]) (.slice (some ⟨g,0,none⟩) np cp)
   have c9:=c8.1.set 4 (by simp[aU]) (.slice (some ⟨g2,0,none⟩) (fb (replay LT)).length o9)
   have pX:=az c8.2 c9.2;have a3:=ml.cell 3 _ rfl;have a4:=ml.cell 4 _ rfl;have b3:=ml.fz (pre.length+3);have b4:=ml.fz (pre.length+4);have ZV:=c8.1.cell 4 _ rfl;have ZW:=c8.1.fz (pre.length+4);have ny:=hO.lt;have Ps:=jf;have HE:Hid (dH w X T pre post F (fe (DJ,log,(lf:Int),m,held) keep) ((w7.setCell ⟨X,pre.length+3,none⟩ (.slice (some ⟨g,0,none⟩) np cp)).setCell ⟨X,pre.length+4,none⟩ (.slice (some ⟨g2,0,none⟩) (fb (replay LT)).length o9))):=by
    rw[wW.out];have EZ:∀k,dq (.slice (some ⟨g2,0,none⟩) (fb (replay LT)).length o9) hs k→w.heap.size≤k:=fun k hk=>Nat.le_trans C8 (nO.lt k hk).1
    have xc:w.heap.size≤g:=Nat.le_trans C8 ny.1;have q1:=vv.bl fun k hk=>pX.block k (vv.lt k hk).2 (fun e=>sA k (z7.out k hk).1 (Option.some.inj e))
    have q2:=(iF hO).cc fun k hk=>pX.block k ((iF hO).lt k hk) (fun e=>by
     have e1:g=k:=by simpa[Value.ownBlock] using hk
     have:=Option.some.inj e;omega)
    have q3:=(nO.mono (base':=0) (Nat.zero_le _)).bl fun k hk=>pX.block k (nO.lt k hk).2 (fun e=>by have:=EZ k hk; have:=Option.some.inj e; omega)
    have d1:=k9.bU (dB.2 ⟨_,q1,rfl⟩);have d3:=k9.bU (dB.2 ⟨_,q3,rfl⟩);refine⟨la,lf,lc,some ⟨g,0,none⟩,np,cp,some ⟨g2,0,none⟩,_,o9,_,⟨c9.1,⟨Gl,Pq,⟨U7,q1,hs,q3,rfl⟩,q2,?_⟩,?_⟩,?_,?_⟩
    · refine bZ d1 (bZ (by simp[Value.ownBlock]) d3 (fun k hk iu=>?_)) (fun k hk iu=>?_)
      · have:k=g:=by simpa[Value.ownBlock] using hk
        subst this;exact Ip (aJ.1 iu)
      · have h1:=(z7.out k (aJ.1 hk)).2;rcases List.mem_append.1 iu with e | e
        · have:k=g:=by simpa[Value.ownBlock] using e
          omega
        · have:=EZ k (aJ.1 e);omega
    · intro hk;rcases List.mem_append.1 hk with e | e
      · exact jH (z7.out X (aJ.1 e)).1
      · rcases List.mem_append.1 e with e | e
        · have:X=g:=by simpa[Value.ownBlock] using e
          omega
        · have:=EZ X (aJ.1 e);omega
    · exact(xb.grown pX (fun k e=>.inl (by rw[←Option.some.inj e]; exact List.mem_cons_self))).mono (fun k hk=>by rw[List.mem_singleton.1 hk]; exact List.mem_cons_self)
    · intro k hk;rcases List.mem_append.1 hk with e | e
      · exact .inl (z7.out k (aJ.1 e)).1
      · rcases List.mem_append.1 e with e | e
        · have:k=g:=by simpa[Value.ownBlock] using e
          exact .inr (by omega)
        · exact .inr (EZ k (aJ.1 e))
   clear Bn z1 x1 AL y2 hO nO Ip c8 c9 pX ml vv vu wH zq;ab fail;refine bodyPost_end (v:=.tuple #[]) ?_ rfl ⟨rfl,HE.out⟩;simp[results,Tryz.results126,go_sem]
 · by_cases g2:(ln:Int) - (sn:Int)<keep
   · have NN:(ln:Int) - (sn:Int)=(kk:Int):=by omega
     have Gs:(sn:Int)+(kk:Int)=(lf:Int):=by omega
     clear yW zR;aj Tryz.func126,Tryz.ntmps126;ab fail;refine last.ar w.heap.size (by aa) (by aa) ?_
     repeat(ai (fail))
     refine wpQuiet_nil ?_;intro w2 j_;obtain⟨x2,j_⟩:=j_;have be:Below w.heap.size w w2:=by rw[j_]; exact x2.2
     clear j_ x2;have fm:=(z6.below be).lt;have p1:=last.On.cell (B:=w2.heap.size) ((z6.below be).cell 1 _ rfl) fm;have p2:=last.On.cell (B:=w2.heap.size) ((z6.below be).cell 2 _ rfl) fm;have kC:=last.On.iq w2.heap.size w2;ab fail;refine last.ar w2.heap.size (by aa) (by aa) ?_
     repeat(ai (fail))
     refine wpQuiet_nil ?_;intro w3 lN;obtain⟨x3,lN⟩:=lN;have dI:Below w.heap.size w w3:=by rw[lN]; exact be.trans (x3.2.mono be.size)
     clear lN x3 p1 p2 kC;have rR:Below w.heap.size w w3.drew:=dI.drew;have rs:=z6.below rR;clear o1 o2 br;ab fail;refine last.aB (S:=fun w'=>aD X T pre (aU DJ (sn:Int) la ln lc ma mn mc ha hn hc) post w') 14 (by aa) rs (fun al=>?_)
     refine last.ae (i:=0) (v:=(.pointer (some ⟨X,pre.length,none⟩))) rfl rfl (by aa) (by aa) (by aa) (by aa) (fun _ _ _ h=>h) (Or.inl ⟨by rfl,?_⟩) (by assumption) ?_
     · intro wq aC; af
     try simp only[Act.put,List.setIfInBounds_toArray,List.set_cons_zero,List.set_cons_succ];refine last.ae (i:=1) (v:=(.pointer (some ⟨X,pre.length,none⟩))) rfl rfl (by aa) (by aa) (by aa) (by aa) (fun _ _ _ h=>h) (Or.inl ⟨by rfl,?_⟩) (by assumption) ?_
     · intro wq aC; af
     try simp only[Act.put,List.setIfInBounds_toArray,List.set_cons_zero,List.set_cons_succ];refine last.ae (i:=2) (v:=(.pointer (some ⟨X,pre.length,none⟩))) rfl rfl (by aa) (by aa) (by aa) (by aa) (fun _ _ _ h=>h) (Or.inl ⟨by rfl,?_⟩) (by assumption) ?_
     · intro wq aC; af
     try simp only[Act.put,List.setIfInBounds_toArray,List.set_cons_zero,List.set_cons_succ];refine last.ae (i:=3) (v:=(.pointer (some ⟨X,pre.length+1,none⟩))) rfl rfl (by aa) (by aa) (by aa) (by aa) (fun _ _ _ h=>h) (Or.inl ⟨by rfl,?_⟩) (by assumption) ?_
     · intro wq aC; af
     try simp only[Act.put,List.setIfInBounds_toArray,List.set_cons_zero,List.set_cons_succ];refine last.ae (i:=4) (v:=(.slice la ln lc)) rfl rfl (by aa) (by aa) (by aa) (by aa) (fun _ _ _ h=>h) (Or.inl ⟨by rfl,?_⟩) (by assumption) ?_
     · intro wq aC; have q:=aC.cell 1 _ rfl; af
     try simp only[Act.put,List.setIfInBounds_toArray,List.set_cons_zero,List.set_cons_succ];refine last.ae (i:=5) (v:=(.pointer (some ⟨X,pre.length,none⟩))) rfl rfl (by aa) (by aa) (by aa) (by aa) (fun _ _ _ h=>h) (Or.inl ⟨by rfl,?_⟩) (by assumption) ?_
     · intro wq aC; af
     try simp only[Act.put,List.setIfInBounds_toArray,List.set_cons_zero,List.set_cons_succ];refine last.ae (i:=6) (v:=(.pointer (some ⟨X,pre.length,none⟩))) rfl rfl (by aa) (by aa) (by aa) (by aa) (fun _ _ _ h=>h) (Or.inl ⟨by rfl,?_⟩) (by assumption) ?_
     · intro wq aC; af
     try simp only[Act.put,List.setIfInBounds_toArray,List.set_cons_zero,List.set_cons_succ];refine last.ae (i:=7) (v:=(.pointer (some ⟨X,pre.length+2,none⟩))) rfl rfl (by aa) (by aa) (by aa) (by aa) (fun _ _ _ h=>h) (Or.inl ⟨by rfl,?_⟩) (by assumption) ?_
     · intro wq aC; af
     try simp only[Act.put,List.setIfInBounds_toArray,List.set_cons_zero,List.set_cons_succ];refine last.ae (i:=8) (v:=(.int .i64 (sn:Int))) rfl rfl (by aa) (by aa) (by aa) (by aa) (fun _ _ _ h=>h) (Or.inl ⟨by rfl,?_⟩) (by assumption) ?_
     · intro wq aC; have q:=aC.cell 2 _ rfl; af
     try simp only[Act.put,List.setIfInBounds_toArray,List.set_cons_zero,List.set_cons_succ];refine last.ae (i:=9) (v:=(.int .i64 (kk:Int))) rfl rfl (by aa) (by aa) (by aa) (by aa) (fun _ _ _ h=>h) (Or.inl ⟨by rfl,?_⟩) (by assumption) ?_
     · intro wq aC; af
     try simp only[Act.put,List.setIfInBounds_toArray,List.set_cons_zero,List.set_cons_succ];refine last.ae (i:=10) (v:=(.int .i64 (lf:Int))) rfl rfl (by aa) (by aa) (by aa) (by aa) (fun _ _ _ h=>h) (Or.inl ⟨by rfl,?_⟩) (by assumption) ?_
     · intro wq aC; af
     try simp only[Act.put,List.setIfInBounds_toArray,List.set_cons_zero,List.set_cons_succ];refine last.ae (i:=11) (v:=(.slice la lf lc)) rfl rfl (by aa) (by aa) (by aa) (by aa) (fun _ _ _ h=>h) (Or.inl ⟨by rfl,?_⟩) (by assumption) ?_
     · intro wq aC; af
     try simp only[Act.put,List.setIfInBounds_toArray,List.set_cons_zero,List.set_cons_succ];refine last.ax (i:=12) (o:=qO18) (by aa) rfl (fun K hK=>?_)
     af;refine hK.out _ _ ?_ (fun aq=>?_)
     · exact al
     clear hK K al;have al:=aq;clear aq;try simp only[Act.put,List.setIfInBounds_toArray,List.set_cons_zero,List.set_cons_succ];refine last.ae (i:=13) (v:=(.pointer (some ⟨X,pre.length+1,none⟩))) rfl rfl (by aa) (by aa) (by aa) (by aa) (fun _ _ _ h=>h) (Or.inl ⟨by rfl,?_⟩) (by assumption) ?_
     · intro wq aC; af
     try simp only[Act.put,List.setIfInBounds_toArray,List.set_cons_zero,List.set_cons_succ];have e8:=rs.cell 1 _ rfl;have f8:=rs.fz (pre.length+1);refine last.aL (o:=qO19) (by aa) rfl (by aa) (fun K hK=>?_)
     af;refine hK.out _ _ ?_;clear hK K;have c4:aD X T pre (aU DJ (sn:Int) la lf lc ma mn mc ha hn hc) post (w3.setCell ⟨X,pre.length+1,none⟩ (.slice la lf lc)).drew∧w3.drew.grownBy (w3.setCell ⟨X,pre.length+1,none⟩ (.slice la lf lc)).drew (some X):=rs.set 1 (by simp[aU]) (.slice la lf lc)
     generalize JJ:(w3.setCell ⟨X,pre.length+1,none⟩ (.slice la lf lc)).drew=w4 at *;have ru:aD X T pre (aU DJ (sn:Int) la lf lc ma mn mc ha hn hc) post w4:=c4.1;have zq:lay.Frame [X] w w4:=(lay.Frame.cM rR).grown c4.2 (fun k e=>.inl (by rw[←Option.some.inj e]; exact List.mem_cons_self))
     have c5:=ru.set 2 (by simp[aU]) (.int .i64 (lf:Int))
     have x1:=ru.cell 1 _ rfl;have AL:=ru.cell 2 _ rfl;have y2:=ru.fz (pre.length+2);have wH:lay.Frame [X] w (w4.setCell ⟨X,pre.length+2,none⟩ (.int .i64 (lf:Int))):=zq.grown c5.2 (fun k e=>.inl (by rw[←Option.some.inj e]; exact List.mem_cons_self))
     have vu:=W_.bl (w':=w4.setCell ⟨X,pre.length+2,none⟩ (.int .i64 (lf:Int))) (fun k hk=>wH.block k (z7.out k hk).2 (fun e=>sA k (z7.out k hk).1 (List.mem_singleton.1 e)))
     have Bn:=Hid.mk' (Hv.out _ vu.sl);have z1:=c5.1.cell 1 _ rfl;clear Hv JJ c4 e8 f8 al;ab fail;refine Bn.out.mono ?_;rintro e w7 ⟨g,np,cp,g2,o9,hs,rfl,hO,nO,Ip,dd⟩;have ml:=c5.1.below dd;have xb:=wH.below dd;have vv:=vu.below dd;have C8:=wH.size;have c8:=ml.set 3 (by simp[aU]) (.slice (some ⟨g,0,none⟩) np cp)
     have c9:=c8.1.set 4 (by simp[aU]) (.slice (some ⟨g2,0,none⟩) (fb (replay LT)).length o9)
     have pX:=az c8.2 c9.2;have a3:=ml.cell 3 _ rfl;have a4:=ml.cell 4 _ rfl;have b3:=ml.fz (pre.length+3);have b4:=ml.fz (pre.length+4);have ZV:=c8.1.cell 4 _ rfl;have ZW:=c8.1.fz (pre.length+4);have ny:=hO.lt;have Ps:=jf;have HE:Hid (dH w X T pre post F (fe (DJ,log,(sn:Int),m,held) keep) ((w7.setCell ⟨X,pre.length+3,none⟩ (.slice (some ⟨g,0,none⟩) np cp)).setCell ⟨X,pre.length+4,none⟩ (.slice (some ⟨g2,0,none⟩) (fb (replay LT)).length o9))):=by
      rw[wW.out];have EZ:∀k,dq (.slice (some ⟨g2,0,none⟩) (fb (replay LT)).length o9) hs k→w.heap.size≤k:=fun k hk=>Nat.le_trans C8 (nO.lt k hk).1
      have xc:w.heap.size≤g:=Nat.le_trans C8 ny.1;have q1:=vv.bl fun k hk=>pX.block k (vv.lt k hk).2 (fun e=>sA k (z7.out k hk).1 (Option.some.inj e))
      have q2:=(iF hO).cc fun k hk=>pX.block k ((iF hO).lt k hk) (fun e=>by
       have e1:g=k:=by simpa[Value.ownBlock] using hk
       have:=Option.some.inj e;omega)
      have q3:=(nO.mono (base':=0) (Nat.zero_le _)).bl fun k hk=>pX.block k (nO.lt k hk).2 (fun e=>by have:=EZ k hk; have:=Option.some.inj e; omega)
      have d1:=k9.bU (dB.2 ⟨_,q1,rfl⟩);have d3:=k9.bU (dB.2 ⟨_,q3,rfl⟩);refine⟨la,lf,lc,some ⟨g,0,none⟩,np,cp,some ⟨g2,0,none⟩,_,o9,_,⟨c9.1,⟨Gl,Pq,⟨U7,q1,hs,q3,rfl⟩,q2,?_⟩,?_⟩,?_,?_⟩
      · refine bZ d1 (bZ (by simp[Value.ownBlock]) d3 (fun k hk iu=>?_)) (fun k hk iu=>?_)
        · have:k=g:=by simpa[Value.ownBlock] using hk
          subst this;exact Ip (aJ.1 iu)
        · have h1:=(z7.out k (aJ.1 hk)).2;rcases List.mem_append.1 iu with e | e
          · have:k=g:=by simpa[Value.ownBlock] using e
            omega
          · have:=EZ k (aJ.1 e);omega
      · intro hk;rcases List.mem_append.1 hk with e | e
        · exact jH (z7.out X (aJ.1 e)).1
        · rcases List.mem_append.1 e with e | e
          · have:X=g:=by simpa[Value.ownBlock] using e
            omega
          · have:=EZ X (aJ.1 e);omega
      · exact(xb.grown pX (fun k e=>.inl (by rw[←Option.some.inj e]; exact List.mem_cons_self))).mono (fun k hk=>by rw[List.mem_singleton.1 hk]; exact List.mem_cons_self)
      · intro k hk;rcases List.mem_append.1 hk with e | e
        · exact .inl (z7.out k (aJ.1 e)).1
        · rcases List.mem_append.1 e with e | e
          · have:k=g:=by simpa[Value.ownBlock] using e
            exact .inr (by omega)
          · exact .inr (EZ k (aJ.1 e))
     clear Bn z1 x1 AL y2 hO nO Ip c8 c9 pX ml vv vu wH zq;ab fail;refine bodyPost_end (v:=.tuple #[]) ?_ rfl ⟨rfl,HE.out⟩;simp[results,Tryz.results126,go_sem]
   · obtain rfl:keep=(kk:Int):=by omega
     have Gs:(sn:Int)+(kk:Int)=(lf:Int):=by omega
     clear yW zR;aj Tryz.func126,Tryz.ntmps126;ab fail;refine last.ar w.heap.size (by aa) (by aa) ?_
     repeat(ai (fail))
     refine wpQuiet_nil ?_;intro w2 j_;obtain⟨x2,j_⟩:=j_;have be:Below w.heap.size w w2:=by rw[j_]; exact x2.2
     clear j_ x2;have rR:Below w.heap.size w w2.drew:=be.drew;have rs:=z6.below rR;clear o1 o2 br;ab fail;refine last.aB (S:=fun w'=>aD X T pre (aU DJ (sn:Int) la ln lc ma mn mc ha hn hc) post w') 14 (by aa) rs (fun al=>?_)
     refine last.ae (i:=0) (v:=(.pointer (some ⟨X,pre.length,none⟩))) rfl rfl (by aa) (by aa) (by aa) (by aa) (fun _ _ _ h=>h) (Or.inl ⟨by rfl,?_⟩) (by assumption) ?_
     · intro wq aC; af
     try simp only[Act.put,List.setIfInBounds_toArray,List.set_cons_zero,List.set_cons_succ];refine last.ae (i:=1) (v:=(.pointer (some ⟨X,pre.length,none⟩))) rfl rfl (by aa) (by aa) (by aa) (by aa) (fun _ _ _ h=>h) (Or.inl ⟨by rfl,?_⟩) (by assumption) ?_
     · intro wq aC; af
     try simp only[Act.put,List.setIfInBounds_toArray,List.set_cons_zero,List.set_cons_succ];refine last.ae (i:=2) (v:=(.pointer (some ⟨X,pre.length,none⟩))) rfl rfl (by aa) (by aa) (by aa) (by aa) (fun _ _ _ h=>h) (Or.inl ⟨by rfl,?_⟩) (by assumption) ?_
     · intro wq aC; af
     try simp only[Act.put,List.setIfInBounds_toArray,List.set_cons_zero,List.set_cons_succ];refine last.ae (i:=3) (v:=(.pointer (some ⟨X,pre.length+1,none⟩))) rfl rfl (by aa) (by aa) (by aa) (by aa) (fun _ _ _ h=>h) (Or.inl ⟨by rfl,?_⟩) (by assumption) ?_
     · intro wq aC; af
     try simp only[Act.put,List.setIfInBounds_toArray,List.set_cons_zero,List.set_cons_succ];refine last.ae (i:=4) (v:=(.slice la ln lc)) rfl rfl (by aa) (by aa) (by aa) (by aa) (fun _ _ _ h=>h) (Or.inl ⟨by rfl,?_⟩) (by assumption) ?_
     · intro wq aC; have q:=aC.cell 1 _ rfl; af
     try simp only[Act.put,List.setIfInBounds_toArray,List.set_cons_zero,List.set_cons_succ];refine last.ae (i:=5) (v:=(.pointer (some ⟨X,pre.length,none⟩))) rfl rfl (by aa) (by aa) (by aa) (by aa) (fun _ _ _ h=>h) (Or.inl ⟨by rfl,?_⟩) (by assumption) ?_
     · intro wq aC; af
     try simp only[Act.put,List.setIfInBounds_toArray,List.set_cons_zero,List.set_cons_succ];refine last.ae (i:=6) (v:=(.pointer (some ⟨X,pre.length,none⟩))) rfl rfl (by aa) (by aa) (by aa) (by aa) (fun _ _ _ h=>h) (Or.inl ⟨by rfl,?_⟩) (by assumption) ?_
     · intro wq aC; af
     try simp only[Act.put,List.setIfInBounds_toArray,List.set_cons_zero,List.set_cons_succ];refine last.ae (i:=7) (v:=(.pointer (some ⟨X,pre.length+2,none⟩))) rfl rfl (by aa) (by aa) (by aa) (by aa) (fun _ _ _ h=>h) (Or.inl ⟨by rfl,?_⟩) (by assumption) ?_
     · intro wq aC; af
     try simp only[Act.put,List.setIfInBounds_toArray,List.set_cons_zero,List.set_cons_succ];refine last.ae (i:=8) (v:=(.int .i64 (sn:Int))) rfl rfl (by aa) (by aa) (by aa) (by aa) (fun _ _ _ h=>h) (Or.inl ⟨by rfl,?_⟩) (by assumption) ?_
     · intro wq aC; have q:=aC.cell 2 _ rfl; af
     try simp only[Act.put,List.setIfInBounds_toArray,List.set_cons_zero,List.set_cons_succ];refine last.ae (i:=9) (v:=(.int .i64 (kk:Int))) rfl rfl (by aa) (by aa) (by aa) (by aa) (fun _ _ _ h=>h) (Or.inl ⟨by rfl,?_⟩) (by assumption) ?_
     · intro wq aC; af
     try simp only[Act.put,List.setIfInBounds_toArray,List.set_cons_zero,List.set_cons_succ];refine last.ae (i:=10) (v:=(.int .i64 (lf:Int))) rfl rfl (by aa) (by aa) (by aa) (by aa) (fun _ _ _ h=>h) (Or.inl ⟨by rfl,?_⟩) (by assumption) ?_
     · intro wq aC; af
     try simp only[Act.put,List.setIfInBounds_toArray,List.set_cons_zero,List.set_cons_succ];refine last.ae (i:=11) (v:=(.slice la lf lc)) rfl rfl (by aa) (by aa) (by aa) (by aa) (fun _ _ _ h=>h) (Or.inl ⟨by rfl,?_⟩) (by assumption) ?_
     · intro wq aC; af
     try simp only[Act.put,List.setIfInBounds_toArray,List.set_cons_zero,List.set_cons_succ];refine last.ax (i:=12) (o:=qO18) (by aa) rfl (fun K hK=>?_)
     af;refine hK.out _ _ ?_ (fun aq=>?_)
     · exact al
     clear hK K al;have al:=aq;clear aq;try simp only[Act.put,List.setIfInBounds_toArray,List.set_cons_zero,List.set_cons_succ];refine last.ae (i:=13) (v:=(.pointer (some ⟨X,pre.length+1,none⟩))) rfl rfl (by aa) (by aa) (by aa) (by aa) (fun _ _ _ h=>h) (Or.inl ⟨by rfl,?_⟩) (by assumption) ?_
     · intro wq aC; af
     try simp only[Act.put,List.setIfInBounds_toArray,List.set_cons_zero,List.set_cons_succ];have e8:=rs.cell 1 _ rfl;have f8:=rs.fz (pre.length+1);refine last.aL (o:=qO19) (by aa) rfl (by aa) (fun K hK=>?_)
     af;refine hK.out _ _ ?_;clear hK K;have c4:aD X T pre (aU DJ (sn:Int) la lf lc ma mn mc ha hn hc) post (w2.setCell ⟨X,pre.length+1,none⟩ (.slice la lf lc)).drew∧w2.drew.grownBy (w2.setCell ⟨X,pre.length+1,none⟩ (.slice la lf lc)).drew (some X):=rs.set 1 (by simp[aU]) (.slice la lf lc)
     generalize JJ:(w2.setCell ⟨X,pre.length+1,none⟩ (.slice la lf lc)).drew=w4 at *;have ru:aD X T pre (aU DJ (sn:Int) la lf lc ma mn mc ha hn hc) post w4:=c4.1;have zq:lay.Frame [X] w w4:=(lay.Frame.cM rR).grown c4.2 (fun k e=>.inl (by rw[←Option.some.inj e]; exact List.mem_cons_self))
     have c5:=ru.set 2 (by simp[aU]) (.int .i64 (lf:Int))
     have x1:=ru.cell 1 _ rfl;have AL:=ru.cell 2 _ rfl;have y2:=ru.fz (pre.length+2);have wH:lay.Frame [X] w (w4.setCell ⟨X,pre.length+2,none⟩ (.int .i64 (lf:Int))):=zq.grown c5.2 (fun k e=>.inl (by rw[←Option.some.inj e]; exact List.mem_cons_self))
     have vu:=W_.bl (w':=w4.setCell ⟨X,pre.length+2,none⟩ (.int .i64 (lf:Int))) (fun k hk=>wH.block k (z7.out k hk).2 (fun e=>sA k (z7.out k hk).1 (List.mem_singleton.1 e)))
     have Bn:=Hid.mk' (Hv.out _ vu.sl);have z1:=c5.1.cell 1 _ rfl;clear Hv JJ c4 e8 f8 al;ab fail;refine Bn.out.mono ?_;rintro e w7 ⟨g,np,cp,g2,o9,hs,rfl,hO,nO,Ip,dd⟩;have ml:=c5.1.below dd;have xb:=wH.below dd;have vv:=vu.below dd;have C8:=wH.size;have c8:=ml.set 3 (by simp[aU]) (.slice (some ⟨g,0,none⟩) np cp)
     have c9:=c8.1.set 4 (by simp[aU]) (.slice (some ⟨g2,0,none⟩) (fb (replay LT)).length o9)
     have pX:=az c8.2 c9.2;have a3:=ml.cell 3 _ rfl;have a4:=ml.cell 4 _ rfl;have b3:=ml.fz (pre.length+3);have b4:=ml.fz (pre.length+4);have ZV:=c8.1.cell 4 _ rfl;have ZW:=c8.1.fz (pre.length+4);have ny:=hO.lt;have Ps:=jf;have HE:Hid (dH w X T pre post F (fe (DJ,log,(sn:Int),m,held) (kk:Int)) ((w7.setCell ⟨X,pre.length+3,none⟩ (.slice (some ⟨g,0,none⟩) np cp)).setCell ⟨X,pre.length+4,none⟩ (.slice (some ⟨g2,0,none⟩) (fb (replay LT)).length o9))):=by
      rw[wW.out];have EZ:∀k,dq (.slice (some ⟨g2,0,none⟩) (fb (replay LT)).length o9) hs k→w.heap.size≤k:=fun k hk=>Nat.le_trans C8 (nO.lt k hk).1
      have xc:w.heap.size≤g:=Nat.le_trans C8 ny.1;have q1:=vv.bl fun k hk=>pX.block k (vv.lt k hk).2 (fun e=>sA k (z7.out k hk).1 (Option.some.inj e))
      have q2:=(iF hO).cc fun k hk=>pX.block k ((iF hO).lt k hk) (fun e=>by
       have e1:g=k:=by simpa[Value.ownBlock] using hk
       have:=Option.some.inj e;omega)
      have q3:=(nO.mono (base':=0) (Nat.zero_le _)).bl fun k hk=>pX.block k (nO.lt k hk).2 (fun e=>by have:=EZ k hk; have:=Option.some.inj e; omega)
      have d1:=k9.bU (dB.2 ⟨_,q1,rfl⟩);have d3:=k9.bU (dB.2 ⟨_,q3,rfl⟩);refine⟨la,lf,lc,some ⟨g,0,none⟩,np,cp,some ⟨g2,0,none⟩,_,o9,_,⟨c9.1,⟨Gl,Pq,⟨U7,q1,hs,q3,rfl⟩,q2,?_⟩,?_⟩,?_,?_⟩
      · refine bZ d1 (bZ (by simp[Value.ownBlock]) d3 (fun k hk iu=>?_)) (fun k hk iu=>?_)
        · have:k=g:=by simpa[Value.ownBlock] using hk
          subst this;exact Ip (aJ.1 iu)
        · have h1:=(z7.out k (aJ.1 hk)).2;rcases List.mem_append.1 iu with e | e
          · have:k=g:=by simpa[Value.ownBlock] using e
            omega
          · have:=EZ k (aJ.1 e);omega
      · intro hk;rcases List.mem_append.1 hk with e | e
        · exact jH (z7.out X (aJ.1 e)).1
        · rcases List.mem_append.1 e with e | e
          · have:X=g:=by simpa[Value.ownBlock] using e
            omega
          · have:=EZ X (aJ.1 e);omega
      · exact(xb.grown pX (fun k e=>.inl (by rw[←Option.some.inj e]; exact List.mem_cons_self))).mono (fun k hk=>by rw[List.mem_singleton.1 hk]; exact List.mem_cons_self)
      · intro k hk;rcases List.mem_append.1 hk with e | e
        · exact .inl (z7.out k (aJ.1 e)).1
        · rcases List.mem_append.1 e with e | e
          · have:k=g:=by simpa[Value.ownBlock] using e
            exact .inr (by omega)
          · exact .inr (EZ k (aJ.1 e))
     clear Bn z1 x1 AL y2 hO nO Ip c8 c9 pX ml vv vu wH zq;ab fail;refine bodyPost_end (v:=.tuple #[]) ?_ rfl ⟨rfl,HE.out⟩;simp[results,Tryz.results126,go_sem]
end bm
namespace bm
open Go Go.RowKit base aE aX
def mX(l:List Rc):Prop:=∀k t,replay (l.take k)=some t→t.1.length+bQ t.2.1≤60
theorem mX.take{l:List Rc}(h:mX l)(n:Nat):mX (l.take n):=fun k t ht=>h (min k n) t (by rw[List.take_take] at ht; exact ht)
theorem mX.whole{l:List Rc}(h:mX l){t:St}(ht:replay l=some t):t.1.length+bQ t.2.1≤60:=h l.length t (by rw[List.take_length]; exact ht)
theorem JK:mX []:=fun k t ht=>by
 simp only[List.take_nil] at ht;cases ht;simp[bQ]
theorem mX.snoc{l:List Rc}(h:mX l){r:Rc}(hw:∀t,replay (l++[r])=some t→t.1.length+bQ t.2.1≤60):mX (l++[r]):=fun k t ht=>by
 by_cases e:k≤l.length
 · rw[List.take_append_of_le_length e] at ht;exact h k t ht
 · rw[List.take_of_length_le (by simp; omega)] at ht
   exact hw t ht
theorem lE(a b:List Rc):bQ (a++b)=bQ a+bQ b:=by unfold bQ; rw[List.map_append,List.sum_append]
theorem DK(l:List Rc)(k:Nat)(hk:k<l.length):bQ (l.take k++l.drop (k+1))+(cn l k).length=bQ l:=by
 have e:l=l.take k++(l[k]::l.drop (k+1)):=by rw[←List.drop_eq_getElem_cons hk,List.take_append_drop]
 have e2:cn l k=l[k].2.2:=by unfold cn; rw[List.getElem?_eq_getElem hk]
 have e3:bQ l=bQ (l.take k)+(l[k].2.2.length+bQ (l.drop (k+1))):=by
  conv=>lhs; rw[e]
  rw[lE];rw[show bQ (l[k]::l.drop (k+1))=l[k].2.2.length+bQ (l.drop (k+1)) by unfold bQ; rw[List.map_cons,List.sum_cons]]
 rw[lE,e2,e3]; omega
theorem tT(m:List Pr)(l:List Od):(aQ m l).length≤m.length+l.length:=by
 unfold aQ
 induction l generalizing m with
 | nil=>simp
 | cons o l ih=>
  rw[List.foldl_cons,List.length_cons];have h1:=ih (jh m o);have h2:(jh m o).length≤m.length+1:=by
   unfold jh
   split
   · exact(gT _ _ _).1
   · split
     · exact Nat.le_trans (List.length_filter_le _ _) (by omega)
     · omega
  omega
theorem Bo:∀(l:List Rc) (s t:St),bN s l=some t→∀r∈l,bu r=true
 | [],_,_,_,r,hr=>absurd hr List.not_mem_nil
 | x::l,s,t,e,r,hr=>by
  rw[bN] at e
  split at e
  · cases e
  · next u hu=>
    rcases List.mem_cons.1 hr with rfl | hr
    · unfold one at hu
      split at hu
      · assumption
      · cases hu
    · exact Bo l u t e r hr
theorem cD.bu{s:de}(h:cD s):∀r∈s.2.1,bm.bu r=true:=by
 obtain⟨seen,hm⟩:=h.made;exact Bo _ _ _ hm
theorem kf{s:de}(h:cD s):cD (s.1,s.2.1,(s.2.1.length:Int),s.2.2.2.1,s.2.2.2.2):=
 ⟨h.id,h.made,⟨by simp,Int.le_refl _⟩,h.room⟩
theorem sB{id:Int}(h:0≤id∧id≤7):cD (id,[],0,[],[]):=
 ⟨h,⟨[],rfl⟩,⟨Int.le_refl _,Int.le_refl _⟩,Nat.zero_le _⟩
theorem mY{s:de}{ops:List Od}(h:¬qo s ops=true):locked s.2.2.2.2 ops=false∧meets s.2.2.2.1 ops=true∧lB s ops≤60∧s.2.1.length+s.2.2.2.2.length+2≤300:=by
 unfold qo at h;simp only[Bool.or_eq_true,decide_eq_true_iff,not_or,Bool.not_eq_true',Bool.not_eq_true,Bool.not_eq_false] at h;exact⟨h.1.1.1,h.1.1.2,by omega,by omega⟩
theorem oE(s:de)(tx:Int)(ops:List Od):(gV s tx ops).1=s∨((gV s tx ops)=(written s (1,tx,ops),1)∧(kR tx && b_ ops)=true∧eP s tx=2∧¬qo s ops=true):=by
 unfold gV
 split
 · exact .inl rfl
 · next h1=>
   split
   · exact .inl rfl
   · next h2=>
     split
     · exact .inl rfl
     · next h3=>exact .inr ⟨rfl,by simpa using h1,by omega,h3⟩
theorem JL{tx:Int}{ops:List Od}(h:(kR tx && b_ ops)=true):bu (1,tx,ops)=true:=by
 rw[Bool.and_eq_true] at h;exact(bS _).2 ⟨by simpa[kR] using h.1,.inl ⟨rfl,h.2⟩⟩
theorem Bp{s:de}{tx:Int}{ops:List Od}(h:cD s)(h1:(kR tx && b_ ops)=true)(h2:eP s tx=2)(h3:¬qo s ops=true):∃seen,replay s.2.1=some (s.2.2.2.1,s.2.2.2.2,seen)∧one (s.2.2.2.1,s.2.2.2.2,seen) (1,tx,ops)=some (s.2.2.2.1,s.2.2.2.2++[(1,tx,ops)],seen++[tx]):=by
 obtain⟨seen,hm⟩:=h.made;obtain⟨g1,g2,_,_⟩:=mY h3;exact⟨seen,hm,Ga h hm (JL h1) h2 g1 g2⟩
theorem DL{s:de}{tx:Int}{ops:List Od}(h:cD s):cD (gV s tx ops).1:=by
 rcases oE s tx ops with e | ⟨e,h1,h2,h3⟩
 · rw[e]; exact h
 · rw[e];obtain⟨seen,hm,ho⟩:=Bp h h1 h2 h3;obtain⟨_,_,_,g4⟩:=mY h3;exact lA h hm ho (by simp; omega)
theorem Gv{s:de}{tx:Int}{ops:List Od}(h:cD s)(hs:mX s.2.1):mX (gV s tx ops).1.2.1:=by
 rcases oE s tx ops with e | ⟨e,h1,h2,h3⟩
 · rw[e]; exact hs
 · rw[e];obtain⟨seen,hm,ho⟩:=Bp h h1 h2 h3;obtain⟨_,_,g3,_⟩:=mY h3;refine hs.snoc fun t ht=>?_
   rw[k7,hm] at ht;simp only[] at ht;rw[ho] at ht;cases ht;show s.2.2.2.1.length+bQ (s.2.2.2.2++[(1,tx,ops)])≤60;rw[lE];unfold lB at g3;have:bQ [((1:Int),tx,ops)]=ops.length:=by simp[bQ]
   omega
theorem lF(s:de)(tx:Int)(yes:Bool):(df s tx yes).1=s∨(df s tx yes=(written s (if yes=true then 2 else 3,tx,[]),true)∧kR tx=true∧eP s tx=1)∨(df s tx yes=(written s (3,tx,[]),true)∧kR tx=true∧yes=false∧eP s tx≠1∧eP s tx≠3∧eP s tx≠4∧s.2.1.length+s.2.2.2.2.length<300):=by
 unfold df
 split
 · exact .inl rfl
 · next h1=>
   have U1:kR tx=true:=by simpa using h1
   split
   · next h2=>exact .inr (.inl ⟨rfl,U1,h2⟩)
   · next h2=>
     split
     · exact .inl rfl
     · next h3=>
       split
       · exact .inl rfl
       · next h4=>
         split
         · exact .inl rfl
         · next h5=>exact .inr (.inr ⟨rfl,U1,by cases yes <;> uw,h2,h3,h4,by omega⟩)
theorem Bq{s:de}{tx:Int}(h:cD s)(h1:eP s tx≠1)(h3:eP s tx≠3)(h4:eP s tx≠4):eP s tx=2:=by
 rw[kz h] at h1 h3 h4 ⊢;unfold eB at h1 h3 h4 ⊢
 split
 · next e=>rw[if_pos e] at h1; exact absurd rfl h1
 · next e=>
   rw[if_neg e] at h1 h3 h4
   split
   · next e2=>rw[if_pos e2] at h3; exact absurd rfl h3
   · next e2=>
     rw[if_neg e2] at h3 h4
     split
     · next e3=>rw[if_pos e3] at h4; exact absurd rfl h4
     · rfl
theorem E0{s:de}{tx kind:Int}(h:cD s)(hs:mX s.2.1)(ht:kR tx=true)(hk:kind=2∨kind=3)(ho:eP s tx=1):∃seen k,replay s.2.1=some (s.2.2.2.1,s.2.2.2.2,seen)∧k<s.2.2.2.2.length∧aR tx s.2.2.2.2=some k∧
 one (s.2.2.2.1,s.2.2.2.2,seen) (kind,tx,[])=some (ik (s.2.2.2.1,s.2.2.2.2,seen) (kind,tx,[]) k,s.2.2.2.2.take k++s.2.2.2.2.drop (k+1),seen)∧(ik (s.2.2.2.1,s.2.2.2.2,seen) (kind,tx,[]) k).length+bQ (s.2.2.2.2.take k++s.2.2.2.2.drop (k+1))≤60:=by
 obtain⟨seen,hm⟩:=h.made;obtain⟨k,hp⟩:=xQ h ho;obtain⟨xD,_⟩:=iz hp;have zY:=hs.whole hm;have hcut:=DK s.2.2.2.2 k xD;have hle:(ik (s.2.2.2.1,s.2.2.2.2,seen) (kind,tx,[]) k).length+bQ (s.2.2.2.2.take k++s.2.2.2.2.drop (k+1))≤60:=by
  unfold ik;show(if kind=2 then aQ s.2.2.2.1 (cn s.2.2.2.2 k) else s.2.2.2.1).length+_≤60
  simp only[] at zY
  split
  · have:=tT s.2.2.2.1 (cn s.2.2.2.2 k);omega
  · omega
 have bR:bu (kind,tx,[])=true:=(bS _).2 ⟨by simpa[kR] using ht,.inr ⟨hk,rfl⟩⟩
 exact⟨seen,k,hm,xD,hp,Jm bR (by omega) hp (by omega),hle⟩
theorem zr{s:de}{tx:Int}{yes:Bool}(h:cD s)(hs:mX s.2.1):cD (df s tx yes).1:=by
 rcases lF s tx yes with e | ⟨e,h1,h2⟩ | ⟨e,h1,hy,h2,h3,h4,h5⟩
 · rw[e]; exact h
 · rw[e];obtain⟨seen,k,hm,xD,hp,ho,hle⟩:=E0 (kind:=if yes=true then 2 else 3) h hs h1 (by split <;> simp) h2
   refine lA h hm ho ?_;have:=h.room;simp; omega
 · rw[e];obtain⟨seen,hm⟩:=h.made;have bR:bu (3,tx,[])=true:=(bS _).2 ⟨by simpa[kR] using h1,.inr ⟨.inr rfl,rfl⟩⟩
   exact lA h hm (xP h hm bR (Bq h h2 h3 h4)) (by simp; omega)
theorem Br{s:de}{tx:Int}{yes:Bool}(h:cD s)(hs:mX s.2.1):mX (df s tx yes).1.2.1:=by
 rcases lF s tx yes with e | ⟨e,h1,h2⟩ | ⟨e,h1,hy,h2,h3,h4,h5⟩
 · rw[e]; exact hs
 · rw[e];obtain⟨seen,k,hm,xD,hp,ho,hle⟩:=E0 (kind:=if yes=true then 2 else 3) h hs h1 (by split <;> simp) h2
   refine hs.snoc fun t ht=>?_
   rw[k7,hm] at ht;simp only[] at ht;rw[ho] at ht;cases ht;exact hle
 · rw[e];obtain⟨seen,hm⟩:=h.made;have bR:bu (3,tx,[])=true:=(bS _).2 ⟨by simpa[kR] using h1,.inr ⟨.inr rfl,rfl⟩⟩
   refine hs.snoc fun t ht=>?_
   rw[k7,hm] at ht;simp only[] at ht;rw[xP h hm bR (Bq h h2 h3 h4)] at ht;cases ht;have h9:=hs.whole hm;exact h9
theorem DM{s:de}(hs:mX s.2.1)(keep:Int):mX (fe s keep).2.1:=hs.take _
structure eS (s:de):Prop where
 right:cD s
 tU:mX s.2.1
 E1:∀r∈s.2.1,1≤r.2.1∧r.2.1≤6
theorem Gw{id:Int}(h:0≤id∧id≤7):eS (id,[],0,[],[]):=⟨sB h,JK,fun r hr=>absurd hr List.not_mem_nil⟩
theorem eS.hold{s:de}(h:eS s){tx:Int}(ops:List Od)(ht:1≤tx∧tx≤6):eS (gV s tx ops).1:=by
 refine⟨DL h.right,Gv h.right h.tU,?_⟩;rcases oE s tx ops with e | ⟨e,_⟩
 · rw[e]; exact h.E1
 · rw[e];intro r hr;rcases List.mem_append.1 hr with e | e
   · exact h.E1 r e
   · rw[List.mem_singleton.1 e]; exact ht
theorem eS.decide{s:de}(h:eS s){tx:Int}(yes:Bool)(ht:1≤tx∧tx≤6):eS (df s tx yes).1:=by
 refine⟨zr h.right h.tU,Br h.right h.tU,?_⟩;rcases lF s tx yes with e | ⟨e,_⟩ | ⟨e,_⟩
 · rw[e]; exact h.E1
 bo
  rw[e];intro r hr;rcases List.mem_append.1 hr with e | e
  · exact h.E1 r e
  · rw[List.mem_singleton.1 e]; exact ht
theorem eS.SH{s:de}(h:eS s)(keep:Int):eS (fe s keep):=
 ⟨ot h.right keep,DM h.tU keep,fun r hr=>h.E1 r (List.mem_of_mem_take hr)⟩
theorem eS.sure{s:de}(h:eS s):eS (s.1,s.2.1,(s.2.1.length:Int),s.2.2.2.1,s.2.2.2.2):=⟨kf h.right,h.tU,h.E1⟩
theorem cD.pq{s:de}(h:cD s):∀r∈s.2.2.2.2,r∈s.2.1∧r.1=1:=fun r hr=>by
 obtain⟨seen,hm⟩:=h.made;have:=(r7 hm).2.1 r hr;exact⟨this.1,this.2.1⟩
end bm
end Go.Proofs.YtmibabclefgljaaGreat
