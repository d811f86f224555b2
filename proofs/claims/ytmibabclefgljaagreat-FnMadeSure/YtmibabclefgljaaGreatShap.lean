/- ShH ShardLaw -/
import Derived.Test.YtmibabclefgljaaGreatShao
import Derived.Test.YtmibabclefgljaaGreatShai
set_option linter.unusedVariables false
set_option linter.unusedSimpArgs false
namespace Go.Proofs.YtmibabclefgljaaGreat
open Go in
abbrev qO18:Oper:={dst:=some 40,op:=Op.nilCheck (Operand.tmp 28),type:=0,pos:= "l09_shard.go:175",after:=#[{on:=0,ground:=Ground.data},{on:=0,ground:=Ground.phase},{on:=1,ground:=Ground.phase},{on:=2,ground:=Ground.phase},{on:=3,ground:=Ground.phase},{on:=4,ground:=Ground.phase},{on:=5,ground:=Ground.phase},{on:=6,ground:=Ground.phase},{on:=7,ground:=Ground.phase},{on:=8,ground:=Ground.phase},{on:=9,ground:=Ground.phase},{on:=10,ground:=Ground.phase},{on:=11,ground:=Ground.phase}],guard:=none}
open Go in
abbrev qO19:Oper:={dst:=none,op:=Op.store 41 (Operand.tmp 41) (Operand.tmp 39),type:=0,pos:= "l09_shard.go:175",after:=#[{on:=13,ground:=Ground.data},{on:=11,ground:=Ground.data},{on:=0,ground:=Ground.phase},{on:=1,ground:=Ground.phase},{on:=2,ground:=Ground.phase},{on:=3,ground:=Ground.phase},{on:=4,ground:=Ground.phase},{on:=5,ground:=Ground.phase},{on:=6,ground:=Ground.phase},{on:=7,ground:=Ground.phase},{on:=8,ground:=Ground.phase},{on:=9,ground:=Ground.phase},{on:=10,ground:=Ground.phase},{on:=11,ground:=Ground.phase}],guard:=none}
namespace aZ
open Go Go.RowKit base av aN dp gu lay
theorem Ml(r:Option St):Ja r=pW r:=by cases r <;> rfl
theorem Mm(r:Option St):Ew r=eO r:=by cases r <;> rfl
theorem bm.Pe{w:World}{a:Option Addr}{n cap:Nat}{l:List Rc}{hs:List Value}(h:bm w 0 (.slice a n cap) l hs)(k:Nat)(hk:k≤n):∃La,bm w 0 (.slice a k cap) (l.take k) La∧∀j,c_ (.slice a k cap) La j→c_ (.slice a n cap) hs j:=by
 have hn:=h.nf;obtain⟨v,q,e,hq,hG⟩:=di.2 ⟨hs,h,rfl⟩;cases e;obtain⟨La,ho,hF⟩:=di.1 (Ot (hG.take k (by omega)))
 refine⟨La,ho,fun j hj=>?_⟩
 have h1:=aA.2 hj;rw[←hF] at h1;refine aA.1 ?_;rw[hq];rcases List.mem_append.1 h1 with e | e
 · exact List.mem_append.2 (.inl (by cases a with
    | none=>simp[Value.ownBlock] at e
    | some ad=>simpa[Value.ownBlock] using e))
 · obtain⟨p,hp,e⟩:=List.mem_flatMap.1 e;exact List.mem_append.2 (.inr (List.mem_flatMap.2 ⟨p,List.mem_of_mem_take hp,e⟩))
set_option maxRecDepth 100000 in
set_option maxHeartbeats 4000000 in
theorem yY(X:Nat)(T:TypeId)(pre post:List Value)(la:Option Addr)(ln lc:Nat)(ma:Option Addr)(mn mc:Nat)(ha:Option Addr)(hn hc:Nat)(s0:cQ)(F:List Nat)(keep:Int)(w:World)
 (h0:gH w X T pre post la ln lc ma mn mc ha hn hc s0 F) (hR:bZ s0) (hf:vS s0.2.1):
 Calls Tryz.prog 126 #[.pointer (some ⟨X,pre.length,none⟩),.int .i64 keep] w fun e w'=>e=.returned (.tuple #[])∧dq w X T pre post F (eQ s0 keep) w':=by
 obtain⟨Du,log,sure,m,held⟩:=s0;obtain⟨l1,l2,l3⟩:=h0.lens;have nP:=hR.room;have EG:=hR.sure;simp only[] at l1 l2 l3 nP EG hf;obtain⟨sn,rfl⟩:∃sn:Nat,sure=(sn:Int):=⟨sure.toNat,by omega⟩
 have t_:=h0.own.eZ;have WN:=t_.lc;obtain⟨hl,tS,hh,qS,dL⟩:=h0.own.log;simp only[] at tS qS;have WO:=tS.room.2;unfold maxLen at WO;have jr:=h0.out;have kh:=h0.own.lt;have F7:=h0.own.id;have zH:=h0.box;have iN:=zH.lt;have tL:sn≤ln:=by omega
 have hln3:ln≤300:=by omega
 obtain⟨kk,yE⟩:∃kk:Nat,(kk:Int)=min (max keep 0) ((ln:Int) - (sn:Int)):=⟨(min (max keep 0) ((ln:Int) - (sn:Int))).toNat,by omega⟩
 have ZF:gf (Du,log,(sn:Int),m,held) keep=sn+kk:=by
  unfold gf;show((sn:Int)+min (max keep 0) ((log.length:Int) - (sn:Int))).toNat=_;rw[←l1,←yE]; omega
 have xh:sn+kk≤ln:=by omega
 obtain⟨lf,zy⟩:∃lf,lf=sn+kk:=⟨_,rfl⟩;obtain⟨UT,WQ,yh⟩:=tS.Pe lf (by omega)
 have Sw:(log.take lf).length=lf:=by simp; omega
 have wE:Hid (eQ (Du,log,(sn:Int),m,held) keep=(Du,log.take lf,(lf:Int),pW (replay (log.take lf)),eO (replay (log.take lf)))):=by
  show _=_;unfold eQ;rw[ZF,←zy,Ml,Mm]
 have Pf:(Lit.int .i64 (lf:Int)).wf=true:=by
  simp[Lit.wf,IntKind.min,IntKind.max,IntKind.signed,IntKind.bits]; omega
 have ZG:vS (log.take lf):=fun r hr=>hf r (List.mem_of_mem_take hr)
 have Hk:=Hid.mk' (fun wx (hS:rs wx la lf (log.take lf))=>sN la lf lc (log.take lf) wx hS (by omega) ZG)
 have hlfc:lf≤lc:=by omega
 have hlfn:lf≤ln:=by omega
 have ZH:IntKind.i64.wrap (lf:Int)=(lf:Int):=lF _ (by omega) (by omega)
 generalize log.take lf=LT at *;have rZ:∀k∈F,k≠X:=fun k hk e=>jr (e ▸ hk)
 have UU:=Hid.mk' Sw;clear Sw;have zI:Hid (∀k,c_ (.slice la lf lc) UT k→k∈F∧k<w.heap.size):=fun k hk=>by
  have h1:k∈F:=by rw[dL]; exact List.mem_append.2 (.inl (aA.2 (yh k hk)))
  exact⟨h1,kh k h1⟩
 clear yh qS dL l1 l2 l3 nP ZF tS hf ZG;have o1:=last.On.cell (B:=w.heap.size) (zH.cell 1 _ rfl) iN;have o2:=last.On.cell (B:=w.heap.size) (zH.cell 2 _ rfl) iN;have a_:=last.On.gV w.heap.size w;by_cases g1:keep<0
 · obtain rfl:kk=0:=by omega
   obtain rfl:lf=sn:=by omega
   have hq:decide ((ln:Int) - (lf:Int)<0)=false:=decide_eq_false (by omega)
   have hq':¬(ln:Int) - (lf:Int)<0:=by omega
   clear yE zy;go_enter Tryz.func126,Tryz.ntmps126;go_wp2_with fail;refine last.ai w.heap.size (by kernel_rfl) (by kernel_rfl) ?_
   repeat(go_big_quiet_step (fail))
   refine wpQuiet_nil ?_;intro w2 jO;obtain⟨x2,jO⟩:=jO;have aU:Below w.heap.size w w2:=by rw[jO]; exact x2.2
   clear jO x2;have rv:Below w.heap.size w w2.drew:=aU.drew;have qT:=zH.below rv;clear o1 o2 a_;go_wp2_with fail;refine last.aq (S:=fun w'=>au X T pre (aK Du (lf:Int) la ln lc ma mn mc ha hn hc) post w') 14 (by kernel_rfl) qT (fun af=>?_)
   refine last.wpTk 0 (.pointer (some ⟨X,pre.length,none⟩)) rfl rfl ?_ ?_
   · intro wq ar; go_simp
   try simp only[Act.put,zP,zQ,zR]
   refine last.wpTk 1 (.pointer (some ⟨X,pre.length,none⟩)) rfl rfl ?_ ?_
   · intro wq ar; go_simp
   try simp only[Act.put,zP,zQ,zR]
   refine last.wpTk 2 (.pointer (some ⟨X,pre.length,none⟩)) rfl rfl ?_ ?_
   · intro wq ar; go_simp
   try simp only[Act.put,zP,zQ,zR]
   refine last.wpTk 3 (.pointer (some ⟨X,pre.length+1,none⟩)) rfl rfl ?_ ?_
   · intro wq ar; go_simp
   try simp only[Act.put,zP,zQ,zR]
   refine last.wpTk 4 (.slice la ln lc) rfl rfl ?_ ?_
   · intro wq ar; have q:=ar.cell 1 _ rfl; go_simp
   try simp only[Act.put,zP,zQ,zR]
   refine last.wpTk 5 (.pointer (some ⟨X,pre.length,none⟩)) rfl rfl ?_ ?_
   · intro wq ar; go_simp
   try simp only[Act.put,zP,zQ,zR]
   refine last.wpTk 6 (.pointer (some ⟨X,pre.length,none⟩)) rfl rfl ?_ ?_
   · intro wq ar; go_simp
   try simp only[Act.put,zP,zQ,zR]
   refine last.wpTk 7 (.pointer (some ⟨X,pre.length+2,none⟩)) rfl rfl ?_ ?_
   · intro wq ar; go_simp
   try simp only[Act.put,zP,zQ,zR]
   refine last.wpTk 8 (.int .i64 (lf:Int)) rfl rfl ?_ ?_
   · intro wq ar; have q:=ar.cell 2 _ rfl; go_simp
   try simp only[Act.put,zP,zQ,zR]
   refine last.wpTk 9 (.int .i64 0) rfl rfl ?_ ?_
   · intro wq ar; go_simp
   try simp only[Act.put,zP,zQ,zR]
   refine last.wpTk 10 (.int .i64 (lf:Int)) rfl rfl ?_ ?_
   · intro wq ar; go_simp
   try simp only[Act.put,zP,zQ,zR]
   refine last.wpTk 11 (.slice la lf lc) rfl rfl ?_ ?_
   · intro wq ar; go_simp
   try simp only[Act.put,zP,zQ,zR]
   refine last.an (i:=12) (o:=qO18) (by kernel_rfl) rfl (fun K hK=>?_)
   go_simp;refine hK.out _ _ ?_ (fun ag=>?_)
   · exact af
   clear hK K af;have af:=ag;clear ag;try simp only[Act.put,zP,zQ,zR]
   refine last.wpTk 13 (.pointer (some ⟨X,pre.length+1,none⟩)) rfl rfl ?_ ?_
   · intro wq ar; go_simp
   try simp only[Act.put,zP,zQ,zR]
   have e8:=qT.cell 1 _ rfl;have f8:=qT.fz (pre.length+1);refine last.aC (o:=qO19) (by kernel_rfl) rfl (by kernel_rfl) (fun K hK=>?_)
   go_simp;refine hK.out _ _ ?_;clear hK K;have c4:au X T pre (aK Du (lf:Int) la lf lc ma mn mc ha hn hc) post (w2.setCell ⟨X,pre.length+1,none⟩ (.slice la lf lc)).drew∧w2.drew.grownBy (w2.setCell ⟨X,pre.length+1,none⟩ (.slice la lf lc)).drew (some X):=qT.set 1 (by simp[aK]) (.slice la lf lc)
   generalize Jx:(w2.setCell ⟨X,pre.length+1,none⟩ (.slice la lf lc)).drew=w4 at *;have qU:au X T pre (aK Du (lf:Int) la lf lc ma mn mc ha hn hc) post w4:=c4.1;have yZ:lay.Frame [X] w w4:=(lay.Frame.cu rv).grown c4.2 (fun k e=>.inl (by rw[←Option.some.inj e]; exact List.mem_cons_self))
   have c5:=qU.set 2 (by simp[aK]) (.int .i64 (lf:Int))
   have x1:=qU.cell 1 _ rfl;have Au:=qU.cell 2 _ rfl;have y2:=qU.fz (pre.length+2);have vW:lay.Frame [X] w (w4.setCell ⟨X,pre.length+2,none⟩ (.int .i64 (lf:Int))):=yZ.grown c5.2 (fun k e=>.inl (by rw[←Option.some.inj e]; exact List.mem_cons_self))
   have uZ:=WQ.aY (w':=w4.setCell ⟨X,pre.length+2,none⟩ (.int .i64 (lf:Int))) (fun k hk=>vW.block k (zI.out k hk).2 (fun e=>rZ k (zI.out k hk).1 (List.mem_singleton.1 e)))
   have A9:=Hid.mk' (Hk.out _ uZ.sl);have z1:=c5.1.cell 1 _ rfl;clear Hk Jx c4 e8 f8 af;go_wp2_with fail;refine A9.out.mono ?_;rintro e w7 ⟨g,np,cp,g2,oJ,hs,rfl,hO,nv,Ic,cP⟩;have lW:=c5.1.below cP;have wJ:=vW.below cP;have u6:=uZ.below cP;have CT:=vW.size;have c8:=lW.set 3 (by simp[aK]) (.slice (some ⟨g,0,none⟩) np cp)
   have c9:=c8.1.set 4 (by simp[aK]) (.slice (some ⟨g2,0,none⟩) (eO (replay LT)).length oJ)
   have pE:=ao c8.2 c9.2;have a3:=lW.cell 3 _ rfl;have a4:=lW.cell 4 _ rfl;have b3:=lW.fz (pre.length+3);have b4:=lW.fz (pre.length+4);have ZI:=c8.1.cell 4 _ rfl;have ZJ:=c8.1.fz (pre.length+4);have m5:=hO.lt;have Pg:=iN;have HE:Hid (dq w X T pre post F (eQ (Du,log,(lf:Int),m,held) keep) ((w7.setCell ⟨X,pre.length+3,none⟩ (.slice (some ⟨g,0,none⟩) np cp)).setCell ⟨X,pre.length+4,none⟩ (.slice (some ⟨g2,0,none⟩) (eO (replay LT)).length oJ))):=by
    rw[wE.out];have EJ:∀k,c_ (.slice (some ⟨g2,0,none⟩) (eO (replay LT)).length oJ) hs k→w.heap.size≤k:=fun k hk=>Nat.le_trans CT (nv.lt k hk).1
    have wK:w.heap.size≤g:=Nat.le_trans CT m5.1;have q1:=u6.aY fun k hk=>pE.block k (u6.lt k hk).2 (fun e=>rZ k (zI.out k hk).1 (Option.some.inj e))
    have q2:=(ij hO).bN fun k hk=>pE.block k ((ij hO).lt k hk) (fun e=>by
     have e1:g=k:=by simpa[Value.ownBlock] using hk
     have:=Option.some.inj e;omega)
    have q3:=(nv.mono (base':=0) (Nat.zero_le _)).aY fun k hk=>pE.block k (nv.lt k hk).2 (fun e=>by have:=EJ k hk; have:=Option.some.inj e; omega)
    have d1:=kK.bG (di.2 ⟨_,q1,rfl⟩);have d3:=kK.bG (di.2 ⟨_,q3,rfl⟩);refine⟨la,lf,lc,some ⟨g,0,none⟩,np,cp,some ⟨g2,0,none⟩,_,oJ,_,⟨c9.1,⟨F7,Pf,⟨UT,q1,hs,q3,rfl⟩,q2,?_⟩,?_⟩,?_,?_⟩
    · refine bL d1 (bL (by simp[Value.ownBlock]) d3 (fun k hk gY=>?_)) (fun k hk gY=>?_)
      · have:k=g:=by simpa[Value.ownBlock] using hk
        subst this;exact Ic (aA.1 gY)
      · have h1:=(zI.out k (aA.1 hk)).2;rcases List.mem_append.1 gY with e | e
        · have:k=g:=by simpa[Value.ownBlock] using e
          omega
        · have:=EJ k (aA.1 e);omega
    · intro hk;rcases List.mem_append.1 hk with e | e
      · exact jr (zI.out X (aA.1 e)).1
      · rcases List.mem_append.1 e with e | e
        · have:X=g:=by simpa[Value.ownBlock] using e
          omega
        · have:=EJ X (aA.1 e);omega
    · exact(wJ.grown pE (fun k e=>.inl (by rw[←Option.some.inj e]; exact List.mem_cons_self))).mono (fun k hk=>by rw[List.mem_singleton.1 hk]; exact List.mem_cons_self)
    · intro k hk;rcases List.mem_append.1 hk with e | e
      · exact .inl (zI.out k (aA.1 e)).1
      · rcases List.mem_append.1 e with e | e
        · have:k=g:=by simpa[Value.ownBlock] using e
          exact .inr (by omega)
        · exact .inr (EJ k (aA.1 e))
   clear A9 z1 x1 Au y2 hO nv Ic c8 c9 pE lW u6 uZ vW yZ;go_wp2_with fail;refine bodyPost_end (v:=.tuple #[]) ?_ rfl ⟨rfl,HE.out⟩;simp[results,Tryz.results126,go_sem]
 · by_cases g2:(ln:Int) - (sn:Int)<keep
   · have NA:(ln:Int) - (sn:Int)=(kk:Int):=by omega
     have Gc:(sn:Int)+(kk:Int)=(lf:Int):=by omega
     clear yE zy;go_enter Tryz.func126,Tryz.ntmps126;go_wp2_with fail;refine last.ai w.heap.size (by kernel_rfl) (by kernel_rfl) ?_
     repeat(go_big_quiet_step (fail))
     refine wpQuiet_nil ?_;intro w2 jO;obtain⟨x2,jO⟩:=jO;have aU:Below w.heap.size w w2:=by rw[jO]; exact x2.2
     clear jO x2;have eY:=(zH.below aU).lt;have p1:=last.On.cell (B:=w2.heap.size) ((zH.below aU).cell 1 _ rfl) eY;have p2:=last.On.cell (B:=w2.heap.size) ((zH.below aU).cell 2 _ rfl) eY;have ke:=last.On.gV w2.heap.size w2;go_wp2_with fail;refine last.ai w2.heap.size (by kernel_rfl) (by kernel_rfl) ?_
     repeat(go_big_quiet_step (fail))
     refine wpQuiet_nil ?_;intro w3 ls;obtain⟨x3,ls⟩:=ls;have dt:Below w.heap.size w w3:=by rw[ls]; exact aU.trans (x3.2.mono aU.size)
     clear ls x3 p1 p2 ke;have rv:Below w.heap.size w w3.drew:=dt.drew;have qT:=zH.below rv;clear o1 o2 a_;go_wp2_with fail;refine last.aq (S:=fun w'=>au X T pre (aK Du (sn:Int) la ln lc ma mn mc ha hn hc) post w') 14 (by kernel_rfl) qT (fun af=>?_)
     refine last.wpTk 0 (.pointer (some ⟨X,pre.length,none⟩)) rfl rfl ?_ ?_
     · intro wq ar; go_simp
     try simp only[Act.put,zP,zQ,zR]
     refine last.wpTk 1 (.pointer (some ⟨X,pre.length,none⟩)) rfl rfl ?_ ?_
     · intro wq ar; go_simp
     try simp only[Act.put,zP,zQ,zR]
     refine last.wpTk 2 (.pointer (some ⟨X,pre.length,none⟩)) rfl rfl ?_ ?_
     · intro wq ar; go_simp
     try simp only[Act.put,zP,zQ,zR]
     refine last.wpTk 3 (.pointer (some ⟨X,pre.length+1,none⟩)) rfl rfl ?_ ?_
     · intro wq ar; go_simp
     try simp only[Act.put,zP,zQ,zR]
     refine last.wpTk 4 (.slice la ln lc) rfl rfl ?_ ?_
     · intro wq ar; have q:=ar.cell 1 _ rfl; go_simp
     try simp only[Act.put,zP,zQ,zR]
     refine last.wpTk 5 (.pointer (some ⟨X,pre.length,none⟩)) rfl rfl ?_ ?_
     · intro wq ar; go_simp
     try simp only[Act.put,zP,zQ,zR]
     refine last.wpTk 6 (.pointer (some ⟨X,pre.length,none⟩)) rfl rfl ?_ ?_
     · intro wq ar; go_simp
     try simp only[Act.put,zP,zQ,zR]
     refine last.wpTk 7 (.pointer (some ⟨X,pre.length+2,none⟩)) rfl rfl ?_ ?_
     · intro wq ar; go_simp
     try simp only[Act.put,zP,zQ,zR]
     refine last.wpTk 8 (.int .i64 (sn:Int)) rfl rfl ?_ ?_
     · intro wq ar; have q:=ar.cell 2 _ rfl; go_simp
     try simp only[Act.put,zP,zQ,zR]
     refine last.wpTk 9 (.int .i64 (kk:Int)) rfl rfl ?_ ?_
     · intro wq ar; go_simp
     try simp only[Act.put,zP,zQ,zR]
     refine last.wpTk 10 (.int .i64 (lf:Int)) rfl rfl ?_ ?_
     · intro wq ar; go_simp
     try simp only[Act.put,zP,zQ,zR]
     refine last.wpTk 11 (.slice la lf lc) rfl rfl ?_ ?_
     · intro wq ar; go_simp
     try simp only[Act.put,zP,zQ,zR]
     refine last.an (i:=12) (o:=qO18) (by kernel_rfl) rfl (fun K hK=>?_)
     go_simp;refine hK.out _ _ ?_ (fun ag=>?_)
     · exact af
     clear hK K af;have af:=ag;clear ag;try simp only[Act.put,zP,zQ,zR]
     refine last.wpTk 13 (.pointer (some ⟨X,pre.length+1,none⟩)) rfl rfl ?_ ?_
     · intro wq ar; go_simp
     try simp only[Act.put,zP,zQ,zR]
     have e8:=qT.cell 1 _ rfl;have f8:=qT.fz (pre.length+1);refine last.aC (o:=qO19) (by kernel_rfl) rfl (by kernel_rfl) (fun K hK=>?_)
     go_simp;refine hK.out _ _ ?_;clear hK K;have c4:au X T pre (aK Du (sn:Int) la lf lc ma mn mc ha hn hc) post (w3.setCell ⟨X,pre.length+1,none⟩ (.slice la lf lc)).drew∧w3.drew.grownBy (w3.setCell ⟨X,pre.length+1,none⟩ (.slice la lf lc)).drew (some X):=qT.set 1 (by simp[aK]) (.slice la lf lc)
     generalize Jx:(w3.setCell ⟨X,pre.length+1,none⟩ (.slice la lf lc)).drew=w4 at *;have qU:au X T pre (aK Du (sn:Int) la lf lc ma mn mc ha hn hc) post w4:=c4.1;have yZ:lay.Frame [X] w w4:=(lay.Frame.cu rv).grown c4.2 (fun k e=>.inl (by rw[←Option.some.inj e]; exact List.mem_cons_self))
     have c5:=qU.set 2 (by simp[aK]) (.int .i64 (lf:Int))
     have x1:=qU.cell 1 _ rfl;have Au:=qU.cell 2 _ rfl;have y2:=qU.fz (pre.length+2);have vW:lay.Frame [X] w (w4.setCell ⟨X,pre.length+2,none⟩ (.int .i64 (lf:Int))):=yZ.grown c5.2 (fun k e=>.inl (by rw[←Option.some.inj e]; exact List.mem_cons_self))
     have uZ:=WQ.aY (w':=w4.setCell ⟨X,pre.length+2,none⟩ (.int .i64 (lf:Int))) (fun k hk=>vW.block k (zI.out k hk).2 (fun e=>rZ k (zI.out k hk).1 (List.mem_singleton.1 e)))
     have A9:=Hid.mk' (Hk.out _ uZ.sl);have z1:=c5.1.cell 1 _ rfl;clear Hk Jx c4 e8 f8 af;go_wp2_with fail;refine A9.out.mono ?_;rintro e w7 ⟨g,np,cp,g2,oJ,hs,rfl,hO,nv,Ic,cP⟩;have lW:=c5.1.below cP;have wJ:=vW.below cP;have u6:=uZ.below cP;have CT:=vW.size;have c8:=lW.set 3 (by simp[aK]) (.slice (some ⟨g,0,none⟩) np cp)
     have c9:=c8.1.set 4 (by simp[aK]) (.slice (some ⟨g2,0,none⟩) (eO (replay LT)).length oJ)
     have pE:=ao c8.2 c9.2;have a3:=lW.cell 3 _ rfl;have a4:=lW.cell 4 _ rfl;have b3:=lW.fz (pre.length+3);have b4:=lW.fz (pre.length+4);have ZI:=c8.1.cell 4 _ rfl;have ZJ:=c8.1.fz (pre.length+4);have m5:=hO.lt;have Pg:=iN;have HE:Hid (dq w X T pre post F (eQ (Du,log,(sn:Int),m,held) keep) ((w7.setCell ⟨X,pre.length+3,none⟩ (.slice (some ⟨g,0,none⟩) np cp)).setCell ⟨X,pre.length+4,none⟩ (.slice (some ⟨g2,0,none⟩) (eO (replay LT)).length oJ))):=by
      rw[wE.out];have EJ:∀k,c_ (.slice (some ⟨g2,0,none⟩) (eO (replay LT)).length oJ) hs k→w.heap.size≤k:=fun k hk=>Nat.le_trans CT (nv.lt k hk).1
      have wK:w.heap.size≤g:=Nat.le_trans CT m5.1;have q1:=u6.aY fun k hk=>pE.block k (u6.lt k hk).2 (fun e=>rZ k (zI.out k hk).1 (Option.some.inj e))
      have q2:=(ij hO).bN fun k hk=>pE.block k ((ij hO).lt k hk) (fun e=>by
       have e1:g=k:=by simpa[Value.ownBlock] using hk
       have:=Option.some.inj e;omega)
      have q3:=(nv.mono (base':=0) (Nat.zero_le _)).aY fun k hk=>pE.block k (nv.lt k hk).2 (fun e=>by have:=EJ k hk; have:=Option.some.inj e; omega)
      have d1:=kK.bG (di.2 ⟨_,q1,rfl⟩);have d3:=kK.bG (di.2 ⟨_,q3,rfl⟩);refine⟨la,lf,lc,some ⟨g,0,none⟩,np,cp,some ⟨g2,0,none⟩,_,oJ,_,⟨c9.1,⟨F7,Pf,⟨UT,q1,hs,q3,rfl⟩,q2,?_⟩,?_⟩,?_,?_⟩
      · refine bL d1 (bL (by simp[Value.ownBlock]) d3 (fun k hk gY=>?_)) (fun k hk gY=>?_)
        · have:k=g:=by simpa[Value.ownBlock] using hk
          subst this;exact Ic (aA.1 gY)
        · have h1:=(zI.out k (aA.1 hk)).2;rcases List.mem_append.1 gY with e | e
          · have:k=g:=by simpa[Value.ownBlock] using e
            omega
          · have:=EJ k (aA.1 e);omega
      · intro hk;rcases List.mem_append.1 hk with e | e
        · exact jr (zI.out X (aA.1 e)).1
        · rcases List.mem_append.1 e with e | e
          · have:X=g:=by simpa[Value.ownBlock] using e
            omega
          · have:=EJ X (aA.1 e);omega
      · exact(wJ.grown pE (fun k e=>.inl (by rw[←Option.some.inj e]; exact List.mem_cons_self))).mono (fun k hk=>by rw[List.mem_singleton.1 hk]; exact List.mem_cons_self)
      · intro k hk;rcases List.mem_append.1 hk with e | e
        · exact .inl (zI.out k (aA.1 e)).1
        · rcases List.mem_append.1 e with e | e
          · have:k=g:=by simpa[Value.ownBlock] using e
            exact .inr (by omega)
          · exact .inr (EJ k (aA.1 e))
     clear A9 z1 x1 Au y2 hO nv Ic c8 c9 pE lW u6 uZ vW yZ;go_wp2_with fail;refine bodyPost_end (v:=.tuple #[]) ?_ rfl ⟨rfl,HE.out⟩;simp[results,Tryz.results126,go_sem]
   · obtain rfl:keep=(kk:Int):=by omega
     have Gc:(sn:Int)+(kk:Int)=(lf:Int):=by omega
     clear yE zy;go_enter Tryz.func126,Tryz.ntmps126;go_wp2_with fail;refine last.ai w.heap.size (by kernel_rfl) (by kernel_rfl) ?_
     repeat(go_big_quiet_step (fail))
     refine wpQuiet_nil ?_;intro w2 jO;obtain⟨x2,jO⟩:=jO;have aU:Below w.heap.size w w2:=by rw[jO]; exact x2.2
     clear jO x2;have rv:Below w.heap.size w w2.drew:=aU.drew;have qT:=zH.below rv;clear o1 o2 a_;go_wp2_with fail;refine last.aq (S:=fun w'=>au X T pre (aK Du (sn:Int) la ln lc ma mn mc ha hn hc) post w') 14 (by kernel_rfl) qT (fun af=>?_)
     refine last.wpTk 0 (.pointer (some ⟨X,pre.length,none⟩)) rfl rfl ?_ ?_
     · intro wq ar; go_simp
     try simp only[Act.put,zP,zQ,zR]
     refine last.wpTk 1 (.pointer (some ⟨X,pre.length,none⟩)) rfl rfl ?_ ?_
     · intro wq ar; go_simp
     try simp only[Act.put,zP,zQ,zR]
     refine last.wpTk 2 (.pointer (some ⟨X,pre.length,none⟩)) rfl rfl ?_ ?_
     · intro wq ar; go_simp
     try simp only[Act.put,zP,zQ,zR]
     refine last.wpTk 3 (.pointer (some ⟨X,pre.length+1,none⟩)) rfl rfl ?_ ?_
     · intro wq ar; go_simp
     try simp only[Act.put,zP,zQ,zR]
     refine last.wpTk 4 (.slice la ln lc) rfl rfl ?_ ?_
     · intro wq ar; have q:=ar.cell 1 _ rfl; go_simp
     try simp only[Act.put,zP,zQ,zR]
     refine last.wpTk 5 (.pointer (some ⟨X,pre.length,none⟩)) rfl rfl ?_ ?_
     · intro wq ar; go_simp
     try simp only[Act.put,zP,zQ,zR]
     refine last.wpTk 6 (.pointer (some ⟨X,pre.length,none⟩)) rfl rfl ?_ ?_
     · intro wq ar; go_simp
     try simp only[Act.put,zP,zQ,zR]
     refine last.wpTk 7 (.pointer (some ⟨X,pre.length+2,none⟩)) rfl rfl ?_ ?_
     · intro wq ar; go_simp
     try simp only[Act.put,zP,zQ,zR]
     refine last.wpTk 8 (.int .i64 (sn:Int)) rfl rfl ?_ ?_
     · intro wq ar; have q:=ar.cell 2 _ rfl; go_simp
     try simp only[Act.put,zP,zQ,zR]
     refine last.wpTk 9 (.int .i64 (kk:Int)) rfl rfl ?_ ?_
     · intro wq ar; go_simp
     try simp only[Act.put,zP,zQ,zR]
     refine last.wpTk 10 (.int .i64 (lf:Int)) rfl rfl ?_ ?_
     · intro wq ar; go_simp
     try simp only[Act.put,zP,zQ,zR]
     refine last.wpTk 11 (.slice la lf lc) rfl rfl ?_ ?_
     · intro wq ar; go_simp
     try simp only[Act.put,zP,zQ,zR]
     refine last.an (i:=12) (o:=qO18) (by kernel_rfl) rfl (fun K hK=>?_)
     go_simp;refine hK.out _ _ ?_ (fun ag=>?_)
     · exact af
     clear hK K af;have af:=ag;clear ag;try simp only[Act.put,zP,zQ,zR]
     refine last.wpTk 13 (.pointer (some ⟨X,pre.length+1,none⟩)) rfl rfl ?_ ?_
     · intro wq ar; go_simp
     try simp only[Act.put,zP,zQ,zR]
     have e8:=qT.cell 1 _ rfl;have f8:=qT.fz (pre.length+1);refine last.aC (o:=qO19) (by kernel_rfl) rfl (by kernel_rfl) (fun K hK=>?_)
     go_simp;refine hK.out _ _ ?_;clear hK K;have c4:au X T pre (aK Du (sn:Int) la lf lc ma mn mc ha hn hc) post (w2.setCell ⟨X,pre.length+1,none⟩ (.slice la lf lc)).drew∧w2.drew.grownBy (w2.setCell ⟨X,pre.length+1,none⟩ (.slice la lf lc)).drew (some X):=qT.set 1 (by simp[aK]) (.slice la lf lc)
     generalize Jx:(w2.setCell ⟨X,pre.length+1,none⟩ (.slice la lf lc)).drew=w4 at *;have qU:au X T pre (aK Du (sn:Int) la lf lc ma mn mc ha hn hc) post w4:=c4.1;have yZ:lay.Frame [X] w w4:=(lay.Frame.cu rv).grown c4.2 (fun k e=>.inl (by rw[←Option.some.inj e]; exact List.mem_cons_self))
     have c5:=qU.set 2 (by simp[aK]) (.int .i64 (lf:Int))
     have x1:=qU.cell 1 _ rfl;have Au:=qU.cell 2 _ rfl;have y2:=qU.fz (pre.length+2);have vW:lay.Frame [X] w (w4.setCell ⟨X,pre.length+2,none⟩ (.int .i64 (lf:Int))):=yZ.grown c5.2 (fun k e=>.inl (by rw[←Option.some.inj e]; exact List.mem_cons_self))
     have uZ:=WQ.aY (w':=w4.setCell ⟨X,pre.length+2,none⟩ (.int .i64 (lf:Int))) (fun k hk=>vW.block k (zI.out k hk).2 (fun e=>rZ k (zI.out k hk).1 (List.mem_singleton.1 e)))
     have A9:=Hid.mk' (Hk.out _ uZ.sl);have z1:=c5.1.cell 1 _ rfl;clear Hk Jx c4 e8 f8 af;go_wp2_with fail;refine A9.out.mono ?_;rintro e w7 ⟨g,np,cp,g2,oJ,hs,rfl,hO,nv,Ic,cP⟩;have lW:=c5.1.below cP;have wJ:=vW.below cP;have u6:=uZ.below cP;have CT:=vW.size;have c8:=lW.set 3 (by simp[aK]) (.slice (some ⟨g,0,none⟩) np cp)
     have c9:=c8.1.set 4 (by simp[aK]) (.slice (some ⟨g2,0,none⟩) (eO (replay LT)).length oJ)
     have pE:=ao c8.2 c9.2;have a3:=lW.cell 3 _ rfl;have a4:=lW.cell 4 _ rfl;have b3:=lW.fz (pre.length+3);have b4:=lW.fz (pre.length+4);have ZI:=c8.1.cell 4 _ rfl;have ZJ:=c8.1.fz (pre.length+4);have m5:=hO.lt;have Pg:=iN;have HE:Hid (dq w X T pre post F (eQ (Du,log,(sn:Int),m,held) (kk:Int)) ((w7.setCell ⟨X,pre.length+3,none⟩ (.slice (some ⟨g,0,none⟩) np cp)).setCell ⟨X,pre.length+4,none⟩ (.slice (some ⟨g2,0,none⟩) (eO (replay LT)).length oJ))):=by
      rw[wE.out];have EJ:∀k,c_ (.slice (some ⟨g2,0,none⟩) (eO (replay LT)).length oJ) hs k→w.heap.size≤k:=fun k hk=>Nat.le_trans CT (nv.lt k hk).1
      have wK:w.heap.size≤g:=Nat.le_trans CT m5.1;have q1:=u6.aY fun k hk=>pE.block k (u6.lt k hk).2 (fun e=>rZ k (zI.out k hk).1 (Option.some.inj e))
      have q2:=(ij hO).bN fun k hk=>pE.block k ((ij hO).lt k hk) (fun e=>by
       have e1:g=k:=by simpa[Value.ownBlock] using hk
       have:=Option.some.inj e;omega)
      have q3:=(nv.mono (base':=0) (Nat.zero_le _)).aY fun k hk=>pE.block k (nv.lt k hk).2 (fun e=>by have:=EJ k hk; have:=Option.some.inj e; omega)
      have d1:=kK.bG (di.2 ⟨_,q1,rfl⟩);have d3:=kK.bG (di.2 ⟨_,q3,rfl⟩);refine⟨la,lf,lc,some ⟨g,0,none⟩,np,cp,some ⟨g2,0,none⟩,_,oJ,_,⟨c9.1,⟨F7,Pf,⟨UT,q1,hs,q3,rfl⟩,q2,?_⟩,?_⟩,?_,?_⟩
      · refine bL d1 (bL (by simp[Value.ownBlock]) d3 (fun k hk gY=>?_)) (fun k hk gY=>?_)
        · have:k=g:=by simpa[Value.ownBlock] using hk
          subst this;exact Ic (aA.1 gY)
        · have h1:=(zI.out k (aA.1 hk)).2;rcases List.mem_append.1 gY with e | e
          · have:k=g:=by simpa[Value.ownBlock] using e
            omega
          · have:=EJ k (aA.1 e);omega
      · intro hk;rcases List.mem_append.1 hk with e | e
        · exact jr (zI.out X (aA.1 e)).1
        · rcases List.mem_append.1 e with e | e
          · have:X=g:=by simpa[Value.ownBlock] using e
            omega
          · have:=EJ X (aA.1 e);omega
      · exact(wJ.grown pE (fun k e=>.inl (by rw[←Option.some.inj e]; exact List.mem_cons_self))).mono (fun k hk=>by rw[List.mem_singleton.1 hk]; exact List.mem_cons_self)
      · intro k hk;rcases List.mem_append.1 hk with e | e
        · exact .inl (zI.out k (aA.1 e)).1
        · rcases List.mem_append.1 e with e | e
          · have:k=g:=by simpa[Value.ownBlock] using e
            exact .inr (by omega)
          · exact .inr (EJ k (aA.1 e))
     clear A9 z1 x1 Au y2 hO nv Ic c8 c9 pE lW u6 uZ vW yZ;go_wp2_with fail;refine bodyPost_end (v:=.tuple #[]) ?_ rfl ⟨rfl,HE.out⟩;simp[results,Tryz.results126,go_sem]
end aZ
namespace aZ
open Go Go.RowKit base av aN
def mG(l:List Rc):Prop:=∀k t,replay (l.take k)=some t→t.1.length+bC t.2.1≤60
theorem mG.take{l:List Rc}(h:mG l)(n:Nat):mG (l.take n):=fun k t ht=>h (min k n) t (by rw[List.take_take] at ht; exact ht)
theorem mG.whole{l:List Rc}(h:mG l){t:St}(ht:replay l=some t):t.1.length+bC t.2.1≤60:=h l.length t (by rw[List.take_length]; exact ht)
theorem Jy:mG []:=fun k t ht=>by
 simp only[List.take_nil] at ht;cases ht;simp[bC]
theorem mG.snoc{l:List Rc}(h:mG l){r:Rc}(hw:∀t,replay (l++[r])=some t→t.1.length+bC t.2.1≤60):mG (l++[r]):=fun k t ht=>by
 by_cases e:k≤l.length
 · rw[List.take_append_of_le_length e] at ht;exact h k t ht
 · rw[List.take_of_length_le (by simp; omega)] at ht
   exact hw t ht
theorem k_(a b:List Rc):bC (a++b)=bC a+bC b:=by unfold bC; rw[List.map_append,List.sum_append]
theorem Dv(l:List Rc)(k:Nat)(hk:k<l.length):bC (l.take k++l.drop (k+1))+(bS l k).length=bC l:=by
 have e:l=l.take k++(l[k]::l.drop (k+1)):=by rw[←List.drop_eq_getElem_cons hk,List.take_append_drop]
 have e2:bS l k=l[k].2.2:=by unfold bS; rw[List.getElem?_eq_getElem hk]
 have e3:bC l=bC (l.take k)+(l[k].2.2.length+bC (l.drop (k+1))):=by
  conv=>lhs; rw[e]
  rw[k_];rw[show bC (l[k]::l.drop (k+1))=l[k].2.2.length+bC (l.drop (k+1)) by unfold bC; rw[List.map_cons,List.sum_cons]]
 rw[k_,e2,e3]; omega
theorem tA(m:List Pr)(l:List Od):(aG m l).length≤m.length+l.length:=by
 unfold aG
 induction l generalizing m with
 | nil=>simp
 | cons o l ih=>
  rw[List.foldl_cons,List.length_cons];have h1:=ih (iP m o);have h2:(iP m o).length≤m.length+1:=by
   unfold iP
   split
   · exact(gE _ _ _).1
   · split
     · exact Nat.le_trans (List.length_filter_le _ _) (by omega)
     · omega
  omega
theorem A_:∀(l:List Rc) (s t:St),bA s l=some t→∀r∈l,bf r=true
 | [],_,_,_,r,hr=>absurd hr List.not_mem_nil
 | x::l,s,t,e,r,hr=>by
  rw[bA] at e
  split at e
  · cases e
  · next u hu=>
    rcases List.mem_cons.1 hr with rfl | hr
    · unfold one at hu
      split at hu
      · assumption
      · cases hu
    · exact A_ l u t e r hr
theorem bZ.bf{s:cQ}(h:bZ s):∀r∈s.2.1,aZ.bf r=true:=by
 obtain⟨seen,hm⟩:=h.made;exact A_ _ _ _ hm
theorem jR{s:cQ}(h:bZ s):bZ (s.1,s.2.1,(s.2.1.length:Int),s.2.2.2.1,s.2.2.2.2):=
 ⟨h.id,h.made,⟨by simp,Int.le_refl _⟩,h.room⟩
theorem r6{id:Int}(h:0≤id∧id≤7):bZ (id,[],0,[],[]):=
 ⟨h,⟨[],rfl⟩,⟨Int.le_refl _,Int.le_refl _⟩,Nat.zero_le _⟩
theorem mH{s:cQ}{ops:List Od}(h:¬pX s ops=true):locked s.2.2.2.2 ops=false∧meets s.2.2.2.1 ops=true∧k7 s ops≤60∧s.2.1.length+s.2.2.2.2.length+2≤300:=by
 unfold pX at h;simp only[Bool.or_eq_true,decide_eq_true_iff,not_or,Bool.not_eq_true',Bool.not_eq_true,Bool.not_eq_false] at h;exact⟨h.1.1.1,h.1.1.2,by omega,by omega⟩
theorem nZ(s:cQ)(tx:Int)(ops:List Od):(gG s tx ops).1=s∨((gG s tx ops)=(written s (1,tx,ops),1)∧(kz tx && bM ops)=true∧eB s tx=2∧¬pX s ops=true):=by
 unfold gG
 split
 · exact .inl rfl
 · next h1=>
   split
   · exact .inl rfl
   · next h2=>
     split
     · exact .inl rfl
     · next h3=>exact .inr ⟨rfl,by simpa using h1,by omega,h3⟩
theorem Jz{tx:Int}{ops:List Od}(h:(kz tx && bM ops)=true):bf (1,tx,ops)=true:=by
 rw[Bool.and_eq_true] at h;exact(bE _).2 ⟨by simpa[kz] using h.1,.inl ⟨rfl,h.2⟩⟩
theorem Ba{s:cQ}{tx:Int}{ops:List Od}(h:bZ s)(h1:(kz tx && bM ops)=true)(h2:eB s tx=2)(h3:¬pX s ops=true):∃seen,replay s.2.1=some (s.2.2.2.1,s.2.2.2.2,seen)∧one (s.2.2.2.1,s.2.2.2.2,seen) (1,tx,ops)=some (s.2.2.2.1,s.2.2.2.2++[(1,tx,ops)],seen++[tx]):=by
 obtain⟨seen,hm⟩:=h.made;obtain⟨g1,g2,_,_⟩:=mH h3;exact⟨seen,hm,FN h hm (Jz h1) h2 g1 g2⟩
theorem Dw{s:cQ}{tx:Int}{ops:List Od}(h:bZ s):bZ (gG s tx ops).1:=by
 rcases nZ s tx ops with e | ⟨e,h1,h2,h3⟩
 · rw[e]; exact h
 · rw[e];obtain⟨seen,hm,ho⟩:=Ba h h1 h2 h3;obtain⟨_,_,_,g4⟩:=mH h3;exact kZ h hm ho (by simp; omega)
theorem Gf{s:cQ}{tx:Int}{ops:List Od}(h:bZ s)(hs:mG s.2.1):mG (gG s tx ops).1.2.1:=by
 rcases nZ s tx ops with e | ⟨e,h1,h2,h3⟩
 · rw[e]; exact hs
 · rw[e];obtain⟨seen,hm,ho⟩:=Ba h h1 h2 h3;obtain⟨_,_,g3,_⟩:=mH h3;refine hs.snoc fun t ht=>?_
   rw[kI,hm] at ht;simp only[] at ht;rw[ho] at ht;cases ht;show s.2.2.2.1.length+bC (s.2.2.2.2++[(1,tx,ops)])≤60;rw[k_];unfold k7 at g3;have:bC [((1:Int),tx,ops)]=ops.length:=by simp[bC]
   omega
theorem ld(s:cQ)(tx:Int)(yes:Bool):(cR s tx yes).1=s∨(cR s tx yes=(written s (if yes=true then 2 else 3,tx,[]),true)∧kz tx=true∧eB s tx=1)∨(cR s tx yes=(written s (3,tx,[]),true)∧kz tx=true∧yes=false∧eB s tx≠1∧eB s tx≠3∧eB s tx≠4∧s.2.1.length+s.2.2.2.2.length<300):=by
 unfold cR
 split
 · exact .inl rfl
 · next h1=>
   have UP:kz tx=true:=by simpa using h1
   split
   · next h2=>exact .inr (.inl ⟨rfl,UP,h2⟩)
   · next h2=>
     split
     · exact .inl rfl
     · next h3=>
       split
       · exact .inl rfl
       · next h4=>
         split
         · exact .inl rfl
         · next h5=>exact .inr (.inr ⟨rfl,UP,by cases yes <;> simp_all,h2,h3,h4,by omega⟩)
theorem Bb{s:cQ}{tx:Int}(h:bZ s)(h1:eB s tx≠1)(h3:eB s tx≠3)(h4:eB s tx≠4):eB s tx=2:=by
 rw[j9 h] at h1 h3 h4 ⊢;unfold ef at h1 h3 h4 ⊢
 split
 · next e=>rw[if_pos e] at h1; exact absurd rfl h1
 · next e=>
   rw[if_neg e] at h1 h3 h4
   split
   · next e2=>rw[if_pos e2] at h3; exact absurd rfl h3
   · next e2=>
     rw[if_neg e2] at h3 h4
     split
     · next e3=>rw[if_pos e3] at h4; exact absurd rfl h4
     · rfl
theorem EK{s:cQ}{tx kind:Int}(h:bZ s)(hs:mG s.2.1)(ht:kz tx=true)(hk:kind=2∨kind=3)(ho:eB s tx=1):∃seen k,replay s.2.1=some (s.2.2.2.1,s.2.2.2.2,seen)∧k<s.2.2.2.2.length∧aH tx s.2.2.2.2=some k∧
 one (s.2.2.2.1,s.2.2.2.2,seen) (kind,tx,[])=some (gS (s.2.2.2.1,s.2.2.2.2,seen) (kind,tx,[]) k,s.2.2.2.2.take k++s.2.2.2.2.drop (k+1),seen)∧(gS (s.2.2.2.1,s.2.2.2.2,seen) (kind,tx,[]) k).length+bC (s.2.2.2.2.take k++s.2.2.2.2.drop (k+1))≤60:=by
 obtain⟨seen,hm⟩:=h.made;obtain⟨k,hp⟩:=xw h ho;obtain⟨xh,_⟩:=hI hp;have zF:=hs.whole hm;have hcut:=Dv s.2.2.2.2 k xh;have hle:(gS (s.2.2.2.1,s.2.2.2.2,seen) (kind,tx,[]) k).length+bC (s.2.2.2.2.take k++s.2.2.2.2.drop (k+1))≤60:=by
  unfold gS;show(if kind=2 then aG s.2.2.2.1 (bS s.2.2.2.2 k) else s.2.2.2.1).length+_≤60
  simp only[] at zF
  split
  · have:=tA s.2.2.2.1 (bS s.2.2.2.2 k);omega
  · omega
 have bD:bf (kind,tx,[])=true:=(bE _).2 ⟨by simpa[kz] using ht,.inr ⟨hk,rfl⟩⟩
 exact⟨seen,k,hm,xh,hp,I_ bD (by omega) hp (by omega),hle⟩
theorem y6{s:cQ}{tx:Int}{yes:Bool}(h:bZ s)(hs:mG s.2.1):bZ (cR s tx yes).1:=by
 rcases ld s tx yes with e | ⟨e,h1,h2⟩ | ⟨e,h1,hy,h2,h3,h4,h5⟩
 · rw[e]; exact h
 · rw[e];obtain⟨seen,k,hm,xh,hp,ho,hle⟩:=EK (kind:=if yes=true then 2 else 3) h hs h1 (by split <;> simp) h2
   refine kZ h hm ho ?_;have:=h.room;simp; omega
 · rw[e];obtain⟨seen,hm⟩:=h.made;have bD:bf (3,tx,[])=true:=(bE _).2 ⟨by simpa[kz] using h1,.inr ⟨.inr rfl,rfl⟩⟩
   exact kZ h hm (xv h hm bD (Bb h h2 h3 h4)) (by simp; omega)
theorem Bc{s:cQ}{tx:Int}{yes:Bool}(h:bZ s)(hs:mG s.2.1):mG (cR s tx yes).1.2.1:=by
 rcases ld s tx yes with e | ⟨e,h1,h2⟩ | ⟨e,h1,hy,h2,h3,h4,h5⟩
 · rw[e]; exact hs
 · rw[e];obtain⟨seen,k,hm,xh,hp,ho,hle⟩:=EK (kind:=if yes=true then 2 else 3) h hs h1 (by split <;> simp) h2
   refine hs.snoc fun t ht=>?_
   rw[kI,hm] at ht;simp only[] at ht;rw[ho] at ht;cases ht;exact hle
 · rw[e];obtain⟨seen,hm⟩:=h.made;have bD:bf (3,tx,[])=true:=(bE _).2 ⟨by simpa[kz] using h1,.inr ⟨.inr rfl,rfl⟩⟩
   refine hs.snoc fun t ht=>?_
   rw[kI,hm] at ht;simp only[] at ht;rw[xv h hm bD (Bb h h2 h3 h4)] at ht;cases ht;have h9:=hs.whole hm;exact h9
theorem Dx{s:cQ}(hs:mG s.2.1)(keep:Int):mG (eQ s keep).2.1:=hs.take _
structure eE (s:cQ):Prop where
 right:bZ s
 tB:mG s.2.1
 EL:∀r∈s.2.1,1≤r.2.1∧r.2.1≤6
theorem Gg{id:Int}(h:0≤id∧id≤7):eE (id,[],0,[],[]):=⟨r6 h,Jy,fun r hr=>absurd hr List.not_mem_nil⟩
theorem eE.hold{s:cQ}(h:eE s){tx:Int}(ops:List Od)(ht:1≤tx∧tx≤6):eE (gG s tx ops).1:=by
 refine⟨Dw h.right,Gf h.right h.tB,?_⟩;rcases nZ s tx ops with e | ⟨e,_⟩
 · rw[e]; exact h.EL
 · rw[e];intro r hr;rcases List.mem_append.1 hr with e | e
   · exact h.EL r e
   · rw[List.mem_singleton.1 e]; exact ht
theorem eE.decide{s:cQ}(h:eE s){tx:Int}(yes:Bool)(ht:1≤tx∧tx≤6):eE (cR s tx yes).1:=by
 refine⟨y6 h.right h.tB,Bc h.right h.tB,?_⟩;rcases ld s tx yes with e | ⟨e,_⟩ | ⟨e,_⟩
 · rw[e]; exact h.EL
 all_goals
  rw[e];intro r hr;rcases List.mem_append.1 hr with e | e
  · exact h.EL r e
  · rw[List.mem_singleton.1 e]; exact ht
theorem eE.Sx{s:cQ}(h:eE s)(keep:Int):eE (eQ s keep):=
 ⟨nQ h.right keep,Dx h.tB keep,fun r hr=>h.EL r (List.mem_of_mem_take hr)⟩
theorem eE.sure{s:cQ}(h:eE s):eE (s.1,s.2.1,(s.2.1.length:Int),s.2.2.2.1,s.2.2.2.2):=⟨jR h.right,h.tB,h.EL⟩
theorem bZ.oR{s:cQ}(h:bZ s):∀r∈s.2.2.2.2,r∈s.2.1∧r.1=1:=fun r hr=>by
 obtain⟨seen,hm⟩:=h.made;have:=(rH hm).2.1 r hr;exact⟨this.1,this.2.1⟩
end aZ
end Go.Proofs.YtmibabclefgljaaGreat
