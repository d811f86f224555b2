/- ShE ShF ShG -/
import Derived.Test.YtmibabclefgljaaGreatShan
set_option linter.unusedVariables false
set_option linter.unusedSimpArgs false
set_option maxRecDepth 100000
set_option maxHeartbeats 4000000
namespace Go.Proofs.YtmibabclefgljaaGreat
namespace aZ
open Go Go.RowKit base av aN dp gu lay
structure Fits (m:List Pr) (held:List Rc) (r:Rc):Prop where
 ok:bf r=true
 fit:(r.1=1∧locked held r.2.2=false∧meets m r.2.2=true)∨(r.1=3∧aH r.2.1 held=none)∨(r.1≠1∧∃k,aH r.2.1 held=some k)
 jB:m.length≤60
 EH:held.length≤1099511627776
 eight:∀k,k<held.length→(bS held k).length≤8
def xD(w:World)(F0:List Nat)(X:Nat)(m:List Pr)(held:List Rc)(r:Rc)(e:Ending)(w':World):Prop:=
 ∃b am nm cm ah ch vs hs z,e=.returned (.bool b)∧Kept False w F0 w' X am nm cm ah ch vs ((forced m held r).1,(forced m held r).2,z) hs
theorem il{w w':World}{F0:List Nat}{X:Nat}{m:List Pr}{held:List Rc}{r:Rc}{e:Ending}{t:St}(h:ga False w F0 X (some t) e w')(e1:t.1=(forced m held r).1)(e2:t.2.1=(forced m held r).2):xD w F0 X m held r e w':=by
 obtain⟨h1,am,nm,cm,ah,ch,vs,hs,hK⟩:=h;obtain⟨t1,t2,t3⟩:=t;simp only[] at e1 e2;subst e1 e2;exact⟨true,am,nm,cm,ah,ch,vs,hs,t3,h1,hK⟩
theorem Ds(w:World)(F0:List Nat)(X:Nat)(am:Option Addr)(nm cm:Nat)(ah:Option Addr)(ch:Nat)(m:List Pr)(held:List Rc)(hs:List Value)(kind tx:Int)(a:Option Addr)(len cap:Nat)(ops:List Od)
 (hK:Kept False w F0 w X am nm cm ah ch (.slice none 0 0) (m,held,[]) hs) (dE:dD w a len ops) (dG:∀p∈ops,p.2.1.size≤1099511627776) (xo:h_ (kind,tx,ops)) (hlen:len≤1099511627776) (hF:Fits m held (kind,tx,ops)):
 Calls Tryz.prog 98 #[.pointer (some ⟨X,0,none⟩),.agg #[.int .i64 kind,.int .i64 tx,.slice a len cap]] w (xD w F0 X m held (kind,tx,ops)):=by
 have bD:=hF.ok;rcases hF.fit with⟨h1,h2,h3⟩ | ⟨h1,h2⟩ | ⟨h1,k,h2⟩
 · obtain rfl:kind=1:=h1;refine(AO False w F0 w X am nm cm ah ch _ (m,held,[]) hs tx a len cap ops hK dE dG bD xo hlen hF.EH (Nat.zero_le _) (by simp) h2 h3).mono fun e w' hp=>il hp ?_ ?_
   · unfold forced; rw[if_pos rfl]
   · unfold forced; rw[if_pos rfl]
 · obtain rfl:kind=3:=h1;have Jr:aH tx held=none:=h2;refine(AQ False w F0 w X am nm cm ah ch _ (m,held,[]) hs tx a len cap ops hK dE dG bD (Nat.zero_le _) h2 (by simp)).mono fun e w' hp=>il hp ?_ ?_
   · unfold forced; rw[if_neg (by simp)]; simp only[Jr]
   · unfold forced; rw[if_neg (by simp)]; simp only[Jr]
 · have Jr:aH tx held=some k:=h2;have yE:kind=2∨kind=3:=by
    rcases((bE _).1 bD).2 with⟨e,_⟩ | ⟨e,_⟩
    · exact absurd e h1
    · exact e
   have xh:=iV h2;rcases yE with rfl | rfl
   · have Si:=hF.eight k xh;by_cases zF:(aG m (bS held k)).length≤60
     · refine(AW False w F0 w X am nm cm ah ch _ (m,held,[]) hs tx a len cap ops hK dE dG bD k hF.EH h2 hF.jB Si zF).mono fun e w' hp=>il hp ?_ ?_
       · unfold forced; rw[if_neg (by simp)]; simp only[Jr]; unfold gS; rw[if_pos rfl]
       · unfold forced; rw[if_neg (by simp)]; simp only[Jr]
     · refine(AX False w F0 w X am nm cm ah ch _ (m,held,[]) hs tx a len cap ops hK dE dG bD k hF.EH h2 hF.jB Si (by show 60<(aG m (bS held k)).length; omega)).mono fun e w' hp=>?_
       obtain⟨UP,am',nm',cm',ah',ch',vs',La,OL⟩:=hp;have e1:(forced m held (2,tx,ops)).1=aG m (bS held k):=by unfold forced; rw[if_neg (by simp)]; simp only[Jr]; unfold gS; rw[if_pos rfl]
       have e2:(forced m held (2,tx,ops)).2=held.take k++held.drop (k+1):=by unfold forced; rw[if_neg (by simp)]; simp only[Jr]
       exact⟨false,am',nm',cm',ah',ch',vs',La,[],UP,by rw[e1,e2]; exact OL⟩
   · refine(EA False w F0 w X am nm cm ah ch _ (m,held,[]) hs tx a len cap ops hK dE dG bD k hF.EH h2 hF.jB).mono fun e w' hp=>il hp ?_ ?_
     · unfold forced; rw[if_neg (by simp)]; simp only[Jr]; unfold gS; rw[if_neg (by simp)]
     · unfold forced; rw[if_neg (by simp)]; simp only[Jr]
structure gH (w:World) (X:Nat) (T:TypeId) (pre post:List Value) (la:Option Addr) (ln lc:Nat) (ma:Option Addr) (mn mc:Nat) (ha:Option Addr) (hn hc:Nat) (s:cQ) (F:List Nat):Prop where
 box:au X T pre (aK s.1 s.2.2.1 la ln lc ma mn mc ha hn hc) post w
 own:cY w la ln lc ma mn mc ha hn hc s F
 out:X∉F
def dq(w:World)(X:Nat)(T:TypeId)(pre post:List Value)(F:List Nat)(s':cQ)(w':World):Prop:=
 ∃la ln lc ma mn mc ha hn hc F',gH w' X T pre post la ln lc ma mn mc ha hn hc s' F'∧lay.Frame (X::F) w w'∧fu w F F'
theorem qR(X:Nat)(T:TypeId)(pre post:List Value)(la:Option Addr)(ln lc:Nat)(ma:Option Addr)(mn mc:Nat)(ha:Option Addr)(hn hc:Nat)(s:cQ)(F:List Nat)(kind tx:Int)(a:Option Addr)(len cap:Nat)(ops:List Od)(w:World)
 (h:gH w X T pre post la ln lc ma mn mc ha hn hc s F) (cc:∀w',lay.Frame (X::F) w w'→dD w' a len ops) (dG:∀p∈ops,p.2.1.size≤1099511627776) (xo:h_ (kind,tx,ops)) (hlen:len≤1099511627776) (hF:Fits s.2.2.2.1 s.2.2.2.2 (kind,tx,ops)) (lP:s.2.1.length≤1099511627776):
 Calls Tryz.prog 159 #[.pointer (some ⟨X,pre.length,none⟩),.agg #[.int .i64 kind,.int .i64 tx,.slice a len cap]] w fun e w'=>e=.returned (.tuple #[])∧dq w X T pre post F (written s (kind,tx,ops)) w':=by
 obtain⟨i0,hi,dm,dk,cA⟩:=info_parts mA;obtain⟨hl,tS,hh,qS,dL⟩:=h.own.log;have Nz:=h.own.map;have dW:=h.own.nodup;have jr:=h.out;have zH:=h.box;have Nw:=zH.lt;have nj:ln=s.2.1.length:=tS.nf;have Wu:hn=s.2.2.2.2.length:=qS.nf;subst nj Wu;have kh:=h.own.lt;obtain⟨W,hW⟩:∃W,W=w.alloc (.cells #[.int .i64 kind,.int .i64 tx,.slice a len cap] 98):=⟨_,rfl⟩;have G0:Below w.heap.size w W:=by rw[hW]; exact(Below.refl _ _).alloc (Nat.le_refl _) _
 have bt:da w.heap.size kind tx (.slice a len cap) W:=by rw[hW]; exact cd _ _ _ _
 have Ld:W.heap.size=w.heap.size+1:=by rw[hW]; simp
 have HW:=Hid.mk' hW.symm;clear hW;have Mg:=zH.below G0;have eJ:Below W.heap.size W W.drew:=(Below.refl _ _).drew;have Wv:=Hid.mk' Ld;clear Ld;go_enter Tryz.func159,Tryz.ntmps159;go_wp2_with fail;rw[HW.out];refine last.aq (S:=fun w'=>au X T pre (aK s.1 s.2.2.1 la s.2.1.length lc ma mn mc ha s.2.2.2.2.length hc) post w') 10 (by kernel_rfl) (Mg.below eJ) (fun af=>?_)
 refine last.wpTk 0 (.pointer (some ⟨X,pre.length,none⟩)) rfl rfl ?_ ?_
 · intro wq ar; go_simp
 try simp only[Act.put,zP,zQ,zR]
 refine last.wpTk 1 (.pointer (some ⟨X,pre.length,none⟩)) rfl rfl ?_ ?_
 · intro wq ar; go_simp
 try simp only[Act.put,zP,zQ,zR]
 refine last.wpTk 2 (.pointer (some ⟨X,pre.length+3,none⟩)) rfl rfl ?_ ?_
 · intro wq ar; go_simp
 try simp only[Act.put,zP,zQ,zR]
 refine last.wpTk 3 (.slice ma mn mc) rfl rfl ?_ ?_
 · intro wq ar; have q:=ar.cell 3 _ rfl; go_simp
 try simp only[Act.put,zP,zQ,zR]
 refine last.wpTk 4 (.pointer (some ⟨X,pre.length,none⟩)) rfl rfl ?_ ?_
 · intro wq ar; go_simp
 try simp only[Act.put,zP,zQ,zR]
 refine last.wpTk 5 (.pointer (some ⟨X,pre.length,none⟩)) rfl rfl ?_ ?_
 · intro wq ar; go_simp
 try simp only[Act.put,zP,zQ,zR]
 refine last.wpTk 6 (.pointer (some ⟨X,pre.length+4,none⟩)) rfl rfl ?_ ?_
 · intro wq ar; go_simp
 try simp only[Act.put,zP,zQ,zR]
 refine last.wpTk 7 (.slice ha s.2.2.2.2.length hc) rfl rfl ?_ ?_
 · intro wq ar; have q:=ar.cell 4 _ rfl; go_simp
 try simp only[Act.put,zP,zQ,zR]
 refine last.wpTk 8 (.agg #[.slice ma mn mc,.slice ha s.2.2.2.2.length hc,.slice none 0 0]) rfl rfl ?_ ?_
 · intro wq ar; go_simp
 try simp only[Act.put,zP,zQ,zR]
 refine last.an (i:=9) (o:={dst:=some 14,op:=Op.box 137 (Operand.tmp 13),type:=135,pos:= "l09_shard.go:62",after:=#[{on:=8,ground:=Ground.data}],guard:=none}) (by kernel_rfl) rfl (fun K hK=>?_)
 go_simp;have aT:Below W.heap.size W ((W.alloc (.cells #[.slice ma mn mc,.slice ha s.2.2.2.2.length hc,.slice none 0 0] 137)).drew):=((Below.refl _ _).alloc (Nat.le_refl _) _).drew;have Zv:fZ W.heap.size (.slice ma mn mc) (.slice ha s.2.2.2.2.length hc) (.slice none 0 0) ((W.alloc (.cells #[.slice ma mn mc,.slice ha s.2.2.2.2.length hc,.slice none 0 0] 137)).drew):=heap_alloc_new W _;refine hK.out _ _ ?_ (fun ag=>?_)
 · exact Mg.below aT
 clear hK K af;have af:=ag;clear ag;try simp only[Act.put,zP,zQ,zR]
 refine last.aC (o:={dst:=some 4,op:=Op.assign (Operand.tmp 14),type:=135,pos:= "l09_shard.go:62",after:=#[{on:=9,ground:=Ground.data},{on:=0,ground:=Ground.phase},{on:=1,ground:=Ground.phase},{on:=2,ground:=Ground.phase},{on:=3,ground:=Ground.phase},{on:=4,ground:=Ground.phase},{on:=5,ground:=Ground.phase},{on:=6,ground:=Ground.phase},{on:=7,ground:=Ground.phase},{on:=8,ground:=Ground.phase},{on:=9,ground:=Ground.phase}],guard:=none}) (by kernel_rfl) rfl (by kernel_rfl) (fun K hK=>?_)
 go_simp;refine hK.out _ _ ?_;clear hK K;generalize sK:(W.alloc (.cells #[.slice ma mn mc,.slice ha s.2.2.2.2.length hc,.slice none 0 0] 137)).drew=W1 at *;clear sK af;have eU:Below w.heap.size w W1:=G0.trans (aT.mono G0.size);have dx:=bt.below aT;have Sm:=Mg.below aT;have tL:=aT.size;obtain⟨F0,UQ⟩:∃F0,F0=(Value.slice ma mn mc).ownBlock.toList++nR (.slice ha s.2.2.2.2.length hc) hh:=⟨_,rfl⟩;have Js:∀k∈F0,k∈F:=fun k hk=>by rw[dL]; rw[UQ] at hk; exact List.mem_append.2 (.inr hk)
 have Jj:Kept False W1 F0 W1 W.heap.size ma mn mc ha hc (.slice none 0 0) (s.2.2.2.1,s.2.2.2.2,[]) hh:=
  ⟨Zv,Nz.below eU,qS.below eU,AL _ _,lay.Frame.refl _ _,fun k e=>.inl (by rw[UQ]; exact List.mem_append.2 (.inl (by simp[e]))),fun k e=>.inl (by rw[UQ]; exact List.mem_append.2 (.inr (aA.2 e))),fun k e=>by simp[Value.ownBlock] at e,fun e=>e.elim,fun e=>e.elim⟩
 have Zw:=Hid.mk' (Ds W1 F0 W.heap.size ma mn mc ha hc s.2.2.2.1 s.2.2.2.2 hh kind tx a len cap ops Jj (cc W1 (lay.Frame.cu eU)) dG xo hlen hF);obtain⟨d0,d1,d2⟩:=dx.cells;go_wp2_with fail;refine Zw.out.mono ?_;rintro e w2 ⟨bb,am,nm,cm,ah,ch,vs,hs,z,rfl,ff⟩;clear Zw d0 d1 d2 Jj;have Y7:=Wv.out;have O9:X≠W.heap.size:=by omega
 have eY:X∉W.heap.size::F0:=fun e=>by
  rcases List.mem_cons.1 e with e | e
  · exact O9 e
  · exact jr (Js X e)
 have Mh:=Sm.frame ff.fr eY;have dn:w.heap.size∉W.heap.size::F0:=fun e=>by
  rcases List.mem_cons.1 e with e | e
  · omega
  · have:=kh _ (Js _ e); omega
 have bV:da w.heap.size kind tx (.slice a len cap) w2:=(ff.fr.block _ dx.lt dn).trans dx;have Ww:∀k,c_ (.slice la s.2.1.length lc) hl k→k∈F∧k∉F0∧k<w.heap.size:=fun k hk=>by
  have h1:=aA.2 hk;have h2:k∈F:=by rw[dL]; exact List.mem_append.2 (.inl h1)
  rw[dL,←UQ] at dW;exact⟨h2,(aR dW).2.2 k h1,kh k h2⟩
 have Sn:bm w2 0 (.slice la s.2.1.length lc) s.2.1 hl:=(tS.below eU).aY fun k hk=>ff.fr.block k ((tS.below eU).lt k hk).2 (fun e=>by
  have h3:=Ww k hk;rcases List.mem_cons.1 e with e | e
  · omega
  · exact h3.2.1 e)
 have O_:lay.Frame (X::F) w w2:=(lay.Frame.cu (G:=X::F) eU).trans ff.fr (fun k hk=>by
  rcases List.mem_cons.1 hk with e | e
  · exact .inr (by omega)
  · exact .inl (List.mem_cons_of_mem _ (Js k e)))
 have lU:Below w2.heap.size w2 w2.drew:=(Below.refl _ _).drew;have wE:=Hid.mk' (my kind tx a len cap ops w2.drew (cc _ (O_.below lU)) hlen);have fD:s.2.1.length+1≤maxLen:=by unfold maxLen; omega
 have jX:(s.2.1.length+1) * 40≤140737488355328:=by omega
 have px:=O_.size;clear Sm Mg G0 aT eU dx bt eJ HW Zv;go_wp2_with fail;refine last.aq (S:=fun w'=>au X T pre (aK s.1 s.2.2.1 la s.2.1.length lc ma mn mc ha s.2.2.2.2.length hc) post w'∧da w.heap.size kind tx (.slice a len cap) w') 11 (by kernel_rfl) ⟨Mh.below lU,bV.below lU⟩ (fun af=>?_)
 refine last.wpTk 0 (.pointer (some ⟨X,pre.length,none⟩)) rfl rfl ?_ ?_
 · intro wq ar; go_simp
 try simp only[Act.put,zP,zQ,zR]
 refine last.wpTk 1 (.pointer (some ⟨X,pre.length,none⟩)) rfl rfl ?_ ?_
 · intro wq ar; go_simp
 try simp only[Act.put,zP,zQ,zR]
 refine last.wpTk 2 (.pointer (some ⟨X,pre.length,none⟩)) rfl rfl ?_ ?_
 · intro wq ar; go_simp
 try simp only[Act.put,zP,zQ,zR]
 refine last.wpTk 3 (.pointer (some ⟨X,pre.length+1,none⟩)) rfl rfl ?_ ?_
 · intro wq ar; go_simp
 try simp only[Act.put,zP,zQ,zR]
 refine last.wpTk 4 (.slice la s.2.1.length lc) rfl rfl ?_ ?_
 · intro wq ar; have q:=ar.1.cell 1 _ rfl; go_simp
 try simp only[Act.put,zP,zQ,zR]
 refine last.wpTk 5 (.agg #[.int .i64 kind,.int .i64 tx,.slice a len cap]) rfl rfl ?_ ?_
 · intro wq ar; obtain⟨q1,q2,q3⟩:=ar.2.cells; go_simp
 try simp only[Act.put,zP,zQ,zR]
 refine last.an (i:=6) (o:={dst:=some 24,op:=Op.call {callee:=Callee.value (Operand.func 133),args:=#[Operand.tmp 23],argTypes:=#[98]},type:=98,pos:= "l09_shard.go:64",after:=#[{on:=5,ground:=Ground.data}],guard:=none}) (by kernel_rfl) rfl (fun K hK=>?_)
 refine fx.cq rfl 133 (.tmp 23) _ rfl (fun _ _=>rfl) (.agg #[.int .i64 kind,.int .i64 tx,.slice a len cap]) (by kernel_rfl) _ wE.out ?_
 rintro e w6 ⟨g6,c6,rfl,dV,mj⟩;refine⟨_,rfl,?_⟩;have iE:=lU.trans (mj.mono lU.size);refine hK.out _ _ ?_ (fun ag=>?_)
 · exact⟨Mh.below iE,bV.below iE⟩
 clear hK K af;have af:=ag;clear ag;try simp only[Act.put,zP,zQ,zR]
 refine last.an (i:=7) (o:={dst:=some 25,op:=Op.buildSlice 41 1 #[(0,Operand.tmp 24)],type:=41,pos:= "l09_shard.go:64",after:=#[{on:=6,ground:=Ground.data}],guard:=none}) (by kernel_rfl) rfl (fun K hK=>?_)
 go_simp;have cP:Below w6.heap.size w6 (w6.alloc (.cells #[.int .i64 kind,.int .i64 tx,.slice (some ⟨g6,0,none⟩) len c6] 98)):=(Below.refl _ _).alloc (Nat.le_refl _) _;have iL:=iE.trans (cP.mono iE.size);refine hK.out _ _ ?_ (fun ag=>?_)
 · exact⟨Mh.below iL,bV.below iL⟩
 clear hK K af;have af:=ag;clear ag;try simp only[Act.put,zP,zQ,zR]
 refine last.an (i:=8) (o:={dst:=some 26,op:=Op.call {callee:=Callee.builtin Builtin.append,args:=#[Operand.tmp 22,Operand.tmp 25],argTypes:=#[41,41]},type:=41,pos:= "l09_shard.go:64",after:=#[{on:=4,ground:=Ground.data},{on:=7,ground:=Ground.data},{on:=6,ground:=Ground.chain}],guard:=none}) (by kernel_rfl) rfl (fun K hK=>?_)
 have pM:=(fv dV).mono (base':=0) (Nat.zero_le _);have pC:=pM.below cP;have A6:=Sn.below iL;refine step_append_lies _ rfl (.tmp 22) (.tmp 25) 41 rfl 0 98 i0 (.agg #[.int .i64 0,.int .i64 0,.slice none 0 0]) 3 40 Tryz.underlying41 hi dm dk cA rfl (by decide) (.slice la s.2.1.length lc) _ _ (by kernel_rfl) A6.row ⟨w6.heap.size,0,none⟩ 1 1 [.int .i64 kind,.int .i64 tx,.slice (some ⟨g6,0,none⟩) len c6] (by kernel_rfl) rfl (iR w6 kind tx _ _) (lQ kind tx pM.one) (by decide) fD jX (Nat.zero_le _) _ rfl ?_
 intro g8 c8 w8 fQ bK iG uO;have jz:∀j,(Value.slice (some ⟨g6,0,none⟩) len c6).ownBlock=some j→¬c_ (.slice la s.2.1.length lc) hl j:=fun j hj hb=>by
  have e1:g6=j:=by simpa[Value.ownBlock] using hj
  have h1:=(Sn.lt j hb).2;have h2:=dV.lt.1;have h3:=lU.size;omega
 have F9:bm w8 0 (.slice (some ⟨g8,0,none⟩) (s.2.1.length+1) c8) (s.2.1++[(kind,tx,ops)]) (hl++[.slice (some ⟨g6,0,none⟩) len c6]):=A6.snoc pC xo jz fQ bK;have xE:∀k,(Value.slice la s.2.1.length lc).ownBlock=some k→k∈F∧k∉F0∧k<w.heap.size:=fun k hk=>Ww k (.inl hk)
 have Jt:=(Mh.below iL).grown bK (fun e=>jr (xE X e.symm).1)
 have FU:=(bV.below iL).grown bK (fun e=>by have:=xE _ e.symm; omega)
 have Sp:lay.Frame (X::F) w w8:=(O_.below iL).grown bK (fun k e=>.inl (List.mem_cons_of_mem _ (xE k e).1))
 have tP:∀k,((Value.slice am nm cm).ownBlock=some k∨c_ (.slice ah (forced s.2.2.2.1 s.2.2.2.2 (kind,tx,ops)).2.length ch) hs k)→(k∈F0∨w.heap.size<k)∧k<w2.heap.size:=fun k hk=>by
  refine⟨?_,?_⟩
  · rcases hk with e | e
    · exact(ff.Dc k e).imp_right (fun _=>by omega)
    · exact(ff.yM k e).imp_right (fun _=>by omega)
  · rcases hk with e | e
    · exact ff.m.lt k e
    · exact(ff.held.lt k e).2
 have Zx:∀k,(k∈F0∨w.heap.size<k)→some k≠(Value.slice la s.2.1.length lc).ownBlock:=fun k hk e=>by
  have h3:=xE k e.symm;rcases hk with e | e
  · exact h3.2.1 e
  · omega
 have Jg:=ff.below iL;have Ep:ek w8 am nm cm (forced s.2.2.2.1 s.2.2.2.2 (kind,tx,ops)).1:=Jg.m.bN fun k hk=>bK.block k (Jg.m.lt k hk) (Zx k (tP k (.inl hk)).1)
 have Wx:bm w8 0 (.slice ah (forced s.2.2.2.1 s.2.2.2.2 (kind,tx,ops)).2.length ch) (forced s.2.2.2.1 s.2.2.2.2 (kind,tx,ops)).2 hs:=Jg.held.aY fun k hk=>bK.block k (Jg.held.lt k hk).2 (Zx k (tP k (.inr hk)).1)
 have Zy:fZ W.heap.size (.slice am nm cm) (.slice ah (forced s.2.2.2.1 s.2.2.2.2 (kind,tx,ops)).2.length ch) vs w8:=Jg.box.grown bK (fun e=>by have:=xE _ e.symm; omega)
 have rW:g8∈F∧g8∉F0∧g8<w.heap.size∨w2.heap.size≤g8:=by
  rcases iG with e | e
  · exact .inl (xE g8 e)
  · right;have h1:=iL.size;omega
 refine hK.out _ _ ?_ (fun ag=>?_)
 · exact⟨Jt,FU⟩
 clear hK K af;have af:=ag;clear ag;try simp only[Act.put,zP,zQ,zR]
 refine last.an (i:=9) (o:={dst:=some 27,op:=Op.nilCheck (Operand.tmp 18),type:=0,pos:= "l09_shard.go:64",after:=#[{on:=0,ground:=Ground.data},{on:=0,ground:=Ground.phase},{on:=1,ground:=Ground.phase},{on:=2,ground:=Ground.phase},{on:=3,ground:=Ground.phase},{on:=4,ground:=Ground.phase},{on:=5,ground:=Ground.phase},{on:=6,ground:=Ground.phase},{on:=7,ground:=Ground.phase},{on:=8,ground:=Ground.phase}],guard:=none}) (by kernel_rfl) rfl (fun K hK=>?_)
 go_simp;refine hK.out _ _ ?_ (fun ag=>?_)
 · exact af
 clear hK K af;have af:=ag;clear ag;try simp only[Act.put,zP,zQ,zR]
 refine last.wpTk 10 (.pointer (some ⟨X,pre.length+1,none⟩)) rfl rfl ?_ ?_
 · intro wq ar; go_simp
 try simp only[Act.put,zP,zQ,zR]
 have e8:=Jt.cell 1 _ rfl;have f8:=Jt.fz (pre.length+1);refine last.aC (o:={dst:=none,op:=Op.store 41 (Operand.tmp 28) (Operand.tmp 26),type:=0,pos:= "l09_shard.go:64",after:=#[{on:=10,ground:=Ground.data},{on:=8,ground:=Ground.data},{on:=8,ground:=Ground.chain},{on:=0,ground:=Ground.phase},{on:=1,ground:=Ground.phase},{on:=2,ground:=Ground.phase},{on:=3,ground:=Ground.phase},{on:=4,ground:=Ground.phase},{on:=5,ground:=Ground.phase},{on:=6,ground:=Ground.phase},{on:=7,ground:=Ground.phase},{on:=8,ground:=Ground.phase}],guard:=none}) (by kernel_rfl) rfl (by kernel_rfl) (fun K hK=>?_)
 go_simp;refine hK.out _ _ ?_;clear hK K;have c9:=Jt.set 1 (by simp[aK]) (.slice (some ⟨g8,0,none⟩) (s.2.1.length+1) c8)
 have Wy:∀k,k∈F∨w.heap.size≤k→k≠X:=fun k hk e=>by
  subst e;rcases hk with e | e
  · exact jr e
  · omega
 have UR:∀k,c_ (.slice (some ⟨g8,0,none⟩) (s.2.1.length+1) c8) (hl++[.slice (some ⟨g6,0,none⟩) len c6]) k→(k∈F∧k∉F0∧k<w.heap.size)∨w2.heap.size≤k:=fun k hk=>by
  rcases hk with e | ⟨y,hy,e⟩
  · have:g8=k:=by simpa[Value.ownBlock] using e
    subst this;exact rW
  · rcases List.mem_append.1 hy with e2 | e2
    · exact .inl (Ww k (.inr ⟨y,e2,e⟩))
    · right;rw[List.mem_singleton.1 e2] at e;have e1:g6=k:=by simpa[Value.ownBlock] using e
      have h1:=dV.lt.1;have h2:=lU.size;omega
 have Pa:∀k,c_ (.slice (some ⟨g8,0,none⟩) (s.2.1.length+1) c8) (hl++[.slice (some ⟨g6,0,none⟩) len c6]) k→some k≠some X:=fun k hk e=>Wy k ((UR k hk).imp (fun h=>h.1) (fun h=>by omega)) (Option.some.inj e)
 have Q3:∀k,((Value.slice am nm cm).ownBlock=some k∨c_ (.slice ah (forced s.2.2.2.1 s.2.2.2.2 (kind,tx,ops)).2.length ch) hs k)→some k≠some X:=fun k hk e=>Wy k ((tP k hk).1.imp (fun h=>Js k h) (fun h=>by omega)) (Option.some.inj e)
 generalize O2:w8.setCell ⟨X,pre.length+1,none⟩ (.slice (some ⟨g8,0,none⟩) (s.2.1.length+1) c8)=w9 at *;have A7:=F9.aY fun k hk=>c9.2.block k (F9.lt k hk).2 (Pa k hk)
 have WA:=Ep.bN fun k hk=>c9.2.block k (Ep.lt k hk) (Q3 k (.inl hk))
 have WB:=Wx.aY fun k hk=>c9.2.block k (Wx.lt k hk).2 (Q3 k (.inr hk))
 have Zz:=Zy.grown c9.2 (fun e=>O9 (Option.some.inj e).symm)
 have Mi:lay.Frame (X::F) w w9:=Sp.grown c9.2 (fun k e=>.inl (by rw[←Option.some.inj e]; exact List.mem_cons_self))
 have F_:au X T pre (aK s.1 s.2.2.1 (some ⟨g8,0,none⟩) (s.2.1.length+1) c8 ma mn mc ha s.2.2.2.2.length hc) post w9:=c9.1;clear c9 O2 e8 f8 af F9 Ep Wx Zy Sp Jt FU bK fQ A6 pM pC Jg cP iL iE dV mj wE iG uO;obtain⟨v0,v1,v2⟩:=Zz.cells;have x3:=F_.cell 3 _ rfl;have x4:=F_.cell 4 _ rfl;have y3:=F_.fz (pre.length+3);have y4:=F_.fz (pre.length+4);have pE:=F_.set 3 (by simp[aK]) (.slice am nm cm)
 have WC:=pE.1.set 4 (by simp[aK]) (.slice ah (forced s.2.2.2.1 s.2.2.2.2 (kind,tx,ops)).2.length ch)
 have Sq:=ao pE.2 WC.2;have WD:=(Zz.grown pE.2 (fun e=>O9 (Option.some.inj e).symm)).cells.2.1
 have z4:=pE.1.cell 4 _ rfl;have q4:=pE.1.fz (pre.length+4);have HE:Hid (dq w X T pre post F (written s (kind,tx,ops)) ((w9.setCell ⟨X,pre.length+3,none⟩ (.slice am nm cm)).setCell ⟨X,pre.length+4,none⟩ (.slice ah (forced s.2.2.2.1 s.2.2.2.2 (kind,tx,ops)).2.length ch))):=by
  have Sr:=A7.aY fun k hk=>Sq.block k (A7.lt k hk).2 (Pa k hk)
  have hmz:=WA.bN fun k hk=>Sq.block k (WA.lt k hk) (Q3 k (.inl hk))
  have ZA:=WB.aY fun k hk=>Sq.block k (WB.lt k hk).2 (Q3 k (.inr hk))
  have WE:=Mi.grown Sq (fun k e=>.inl (by rw[←Option.some.inj e]; exact List.mem_cons_self))
  have d1:=kK.bG (di.2 ⟨_,Sr,rfl⟩);have d3:=kK.bG (di.2 ⟨_,ZA,rfl⟩);have wy:∀k∈(Value.slice am nm cm).ownBlock.toList++nR (.slice ah (forced s.2.2.2.1 s.2.2.2.2 (kind,tx,ops)).2.length ch) hs,(Value.slice am nm cm).ownBlock=some k∨c_ (.slice ah (forced s.2.2.2.1 s.2.2.2.2 (kind,tx,ops)).2.length ch) hs k:=fun k hk=>by
   rcases List.mem_append.1 hk with e | e
   · exact .inl (by simpa using e)
   · exact .inr (aA.1 e)
  refine⟨some ⟨g8,0,none⟩,s.2.1.length+1,c8,am,nm,cm,ah,_,ch,_,⟨WC.1,⟨h.own.id,h.own.sure,⟨_,Sr,hs,ZA,rfl⟩,hmz,?_⟩,?_⟩,WE,?_⟩
  · refine bL d1 (bL (by cases(Value.slice am nm cm).ownBlock <;> simp) d3 (fun k hk gY=>?_)) (fun k hk gY=>?_)
    · have h9:(Value.slice am nm cm).ownBlock=some k:=by simpa using hk
      exact ff.yN ff.m.2.2 (by decide) (by decide) k (aA.1 gY) h9.symm
    · have h1:=UR k (aA.1 hk);have h2:=tP k (wy k gY);rcases h1 with h1 | h1
      · rcases h2.1 with h3 | h3
        · exact h1.2.1 h3
        · omega
      · omega
  · intro hk;rcases List.mem_append.1 hk with e | e
    · exact Pa X (aA.1 e) rfl
    · exact Q3 X (wy X e) rfl
  · intro k hk;rcases List.mem_append.1 hk with e | e
    · exact(UR k (aA.1 e)).imp (fun h=>h.1) (fun h=>by omega)
    · exact(tP k (wy k e)).1.imp (fun h=>Js k h) (fun h=>by omega)
 rw[Y7] at v0 v1 v2 WD;clear A7 WA WB Mi F_ pE WC Sq ff Pa Q3 UR tP;go_wp2_with fail;refine bodyPost_end (v:=.tuple #[]) ?_ rfl ⟨rfl,HE.out⟩;simp[results,Tryz.results159,go_sem]
end aZ
namespace aZ
open Go Go.RowKit base av aN dp gu lay
theorem bZ.Mj{s:cQ}(h:bZ s):∃seen,replay s.2.1=some (s.2.2.2.1,s.2.2.2.2,seen)∧uR s.2.1.length (s.2.2.2.1,s.2.2.2.2,seen):=by
 obtain⟨seen,hm⟩:=h.made;have:=k9 s.2.1 0 _ _ pZ hm;rw[Nat.zero_add] at this;exact⟨seen,hm,this⟩
theorem Ju(l:List Rc)(h:∀k,k<l.length→(bS l k).length≤8):bC l≤8 * l.length:=by
 have:∀(l:List Rc),(∀r∈l,r.2.2.length≤8)→bC l≤8 * l.length:=by
  intro l hl
  induction l with
  | nil=>simp[bC]
  | cons r l ih=>
   have h1:=ih fun x hx=>hl x (List.mem_cons_of_mem _ hx)
   have h2:=hl r List.mem_cons_self;have e:bC (r::l)=r.2.2.length+bC l:=by simp[bC]
   rw[e,List.length_cons]; omega
 refine this l fun r hr=>?_
 obtain⟨i,hi,rfl⟩:=List.getElem_of_mem hr;have:=h i hi;rwa[lT hi] at this
section
variable{w w':World}{X:Nat}{T:TypeId}{pre post:List Value}{la ma ha:Option Addr}{ln lc mn mc hn hc:Nat}{s:cQ}{F:List Nat}
theorem gH.below(h:gH w X T pre post la ln lc ma mn mc ha hn hc s F)(hb:Below w.heap.size w w'):gH w' X T pre post la ln lc ma mn mc ha hn hc s F:=⟨h.box.below hb,h.own.below hb,h.out⟩
theorem gH.same(h:gH w X T pre post la ln lc ma mn mc ha hn hc s F)(hb:Below w.heap.size w w'):dq w X T pre post F s w':=
 ⟨la,ln,lc,ma,mn,mc,ha,hn,hc,F,h.below hb,lay.Frame.cu hb,fu.refl _ _⟩
theorem gH.lens(h:gH w X T pre post la ln lc ma mn mc ha hn hc s F):ln=s.2.1.length∧mn=s.2.2.2.1.length∧hn=s.2.2.2.2.length:=by
 obtain⟨hl,tS,hh,qS,_⟩:=h.own.log;exact⟨tS.nf,h.own.map.1.symm,qS.nf⟩
theorem dq.from{w0:World}{s':cQ}(hb:Below w0.heap.size w0 w)(hF:∀k∈F,k<w0.heap.size)(h:dq w X T pre post F s' w'):dq w0 X T pre post F s' w':=by
 obtain⟨la,ln,lc,ma,mn,mc,ha,hn,hc,F',h1,h2,h3⟩:=h;refine⟨la,ln,lc,ma,mn,mc,ha,hn,hc,F',h1,(lay.Frame.cu (G:=X::F) hb).trans h2 (fu.refl _ _),fun k hk=>(h3 k hk).imp_right (fun e=>Nat.le_trans hb.size e)⟩
end
theorem bZ.Ga{s:cQ}{tx:Int}{ops:List Od}(h:bZ s)(bD:bf (1,tx,ops)=true)(hl:locked s.2.2.2.2 ops=false)(hm:meets s.2.2.2.1 ops=true):Fits s.2.2.2.1 s.2.2.2.2 (1,tx,ops):=by
 obtain⟨seen,_,ht⟩:=h.Mj;have:=h.room;exact⟨bD,.inl ⟨rfl,hl,hm⟩,ht.jB,by omega,ht.eight⟩
theorem bZ.Gb{s:cQ}{tx:Int}(h:bZ s)(bD:bf (3,tx,[])=true)(hp:aH tx s.2.2.2.2=none):Fits s.2.2.2.1 s.2.2.2.2 (3,tx,[]):=by
 obtain⟨seen,_,ht⟩:=h.Mj;have:=h.room;exact⟨bD,.inr (.inl ⟨rfl,hp⟩),ht.jB,by omega,ht.eight⟩
theorem bZ.Jv{s:cQ}{kind tx:Int}{k:Nat}(h:bZ s)(bD:bf (kind,tx,[])=true)(hk:kind≠1)(hp:aH tx s.2.2.2.2=some k):Fits s.2.2.2.1 s.2.2.2.2 (kind,tx,[]):=by
 obtain⟨seen,_,ht⟩:=h.Mj;have:=h.room;exact⟨bD,.inr (.inr ⟨hk,k,hp⟩),ht.jB,by omega,ht.eight⟩
theorem Dt{tx:Int}{ops:List Od}(h:(kz tx && bM ops)=true):bf (1,tx,ops)=true:=by
 rw[Bool.and_eq_true] at h;exact(bE _).2 ⟨by simpa[kz] using h.1,.inl ⟨rfl,h.2⟩⟩
theorem kM(X:Nat)(T:TypeId)(pre post:List Value)(la:Option Addr)(ln lc:Nat)(ma:Option Addr)(mn mc:Nat)(ha:Option Addr)(hn hc:Nat)(s:cQ)(F:List Nat)(tx:Int)(a:Option Addr)(len cap:Nat)(ops:List Od)(w:World)
 (h:gH w X T pre post la ln lc ma mn mc ha hn hc s F) (cc:∀w',lay.Frame (X::F) w w'→dD w' a len ops) (dG:∀p∈ops,p.2.1.size≤1099511627776) (vQ:(Lit.int .i64 tx).wf=true) (hlen:len≤1099511627776) (hR:bZ s):
 Calls Tryz.prog 122 #[.pointer (some ⟨X,pre.length,none⟩),.int .i64 tx,.slice a len cap] w fun e w'=>e=.returned (.int .i64 (gG s tx ops).2)∧dq w X T pre post F (gG s tx ops).1 w':=by
 obtain⟨l1,l2,l3⟩:=h.lens;obtain⟨seen,Ss,Jw⟩:=hR.Mj;have nP:=hR.room;have dE:=cc w (lay.Frame.refl _ _);have OU:=dE.2.2.1;have oL:=dE.1;have Gc:=Ju s.2.2.2.2 Jw.eight;have t_:=h.own.eZ;have iN:=h.box.lt;have HI:=Hid.mk' (fun wx=>(qP tx 1 1000000 wx).mono (fun e w' (hp:e=.returned (.bool (decide (1≤tx∧tx≤1000000)))∧w'=wx)=>(⟨hp.1,hp.2.symm⟩:e=.returned (.bool (decide (1≤tx∧tx≤1000000)))∧wx=w')))
 have US:s.2.2.2.1.length≤60:=Jw.jB;by_cases g1:1≤tx∧tx≤1000000
 · rw[decide_eq_true g1] at HI;have gt:kz tx=true:=decide_eq_true g1;have eX:=Hid.mk' (fM a len cap ops w dE dG);cases g2:bM ops with
   | false=>
    have HH:Hid (gG s tx ops=(s,5)):=by show _=_; unfold gG; rw[g2]; simp
    rw[g2] at eX;rw[HH.out];clear g2 gt g1 l1 l2 l3 Gc nP US oL;go_enter Tryz.func122,Tryz.ntmps122;go_wp2_with fail;refine(HI.out _).mono ?_;rintro e w1 ⟨rfl,rfl⟩;go_wp2_with fail;refine eX.out.mono ?_;rintro e w2 ⟨rfl,aU⟩;clear HI eX;go_wp2_with fail;go_ret;exact⟨rfl,h.same aU⟩
   | true=>
    rw[g2] at eX;have gg:(kz tx && bM ops)=true:=by rw[gt,g2]; rfl
    have Su:=Dt gg;have yK:=Hid.mk' (fun wx (hx:Below w.heap.size w wx)=>nX la ln lc ma mn mc ha hn hc s tx wx (t_.below hx))
    have q0:∀wx,Below w.heap.size w wx→au X T pre (aK s.1 s.2.2.1 la ln lc ma mn mc ha hn hc) post wx:=fun wx hx=>h.box.below hx
    by_cases g3:eB s tx=2
    · rw[g3] at yK;have A8:=Hid.mk' (fun wx (hx:Below w.heap.size w wx)=>jm ha hn hc s.2.2.2.2 a len cap ops wx (t_.held.below hx) (dE.below hx))
      have ZB:=Hid.mk' (fun wx (hx:Below w.heap.size w wx)=>j4 ma mn mc s.2.2.2.1 a len cap ops wx (t_.map.below hx) (dE.below hx))
      have ZC:=Hid.mk' (fun wx (hx:Below w.heap.size w wx)=>A3 la ln lc ma mn mc ha hn hc s a len cap ops wx (t_.below hx) (dE.below hx) (by omega) (by omega) (by omega))
      have RX:k7 s ops≤1099511627776+10000:=by unfold k7; omega
      have Lf:Hid (gG s tx ops=if pX s ops=true then(s,2) else(written s (1,tx,ops),1)):=by
       show _=_;unfold gG;rw[gg,if_neg (by simp),if_neg (by simp[g3])]
      have Cg:Hid (pX s ops=(locked s.2.2.2.2 ops || !meets s.2.2.2.1 ops || decide (60<k7 s ops) || decide (300<s.2.1.length+s.2.2.2.2.length+2))):=rfl
      have rU:ln≤300:=by omega
      have hhn:hn≤300:=by omega
      have oQ:Hid (s.2.1.length+s.2.2.2.2.length=ln+hn):=by show _=_; omega
      have E_:=Hid.mk' (fun wx (hx:Below w.heap.size w wx)=>fY a len cap ops wx (dE.below hx) hlen)
      have yV:=Hid.mk' (fun wx (hx:Below w.heap.size w wx) (g0 c0:Nat) (ho:bR wx w.heap.size g0 len c0 ops) (h1:locked s.2.2.2.2 ops=false) (h2:meets s.2.2.2.1 ops=true)=>qR X T pre post la ln lc ma mn mc ha hn hc s F 1 tx (some ⟨g0,0,none⟩) len c0 ops wx (h.below hx) (fun w' hf=>bR.sl (base:=0) (by
       have h9:=ho.mono (base':=0) (Nat.zero_le _);refine⟨h9.1,h9.2.1,cG h9.2.2 (fun k e=>hf.block k (h9.lt.2 |> fun hh=>by simp[Value.ownBlock] at e; omega) (fun e2=>?_))⟩
       have e3:g0=k:=by simpa[Value.ownBlock] using e
       have h5:=ho.lt.1;rcases List.mem_cons.1 e2 with e4 | e4
       · omega
       · have:=h.own.lt k e4; omega)) dG ⟨rfl,vQ,OU⟩ hlen (hR.Ga Su h1 h2) (by omega))
      have kh:=h.own.lt;generalize hKK:k7 s ops=KK at *;clear hKK Gc nP US oL g1 g2 gt gg Su Ss Jw l1 l2 l3;have js:=fun wx (hx:Below w.heap.size w wx)=>h.same hx
      have Gd:=Hid.mk' js;clear js;go_enter Tryz.func122,Tryz.ntmps122;go_wp2_with fail;refine(HI.out _).mono ?_;rintro e w1 ⟨rfl,rfl⟩;go_wp2_with fail;refine eX.out.mono ?_;rintro e w2 ⟨rfl,aU⟩;clear HI eX;have b2:=q0 _ aU;have k0:=b2.cell 0 _ rfl;have k1:=b2.cell 1 _ rfl;have k2:=b2.cell 2 _ rfl;have k3:=b2.cell 3 _ rfl;have k4:=b2.cell 4 _ rfl;simp only[Nat.add_zero] at k0;go_wp2_with fail;refine(yK.out _ aU).mono ?_;rintro e w3 ⟨rfl,rY⟩;have dt:=aU.trans (rY.mono aU.size);have b3:=q0 _ dt;have nu:=b3.lt;clear yK k0 k1 k2 k3 k4 b2 rY;have o0:=last.On.cell (B:=w3.heap.size) (b3.cell 0 _ rfl) nu;have o1:=last.On.cell (B:=w3.heap.size) (b3.cell 1 _ rfl) nu;have o2:=last.On.cell (B:=w3.heap.size) (b3.cell 2 _ rfl) nu;have o3:=last.On.cell (B:=w3.heap.size) (b3.cell 3 _ rfl) nu;have o4:=last.On.cell (B:=w3.heap.size) (b3.cell 4 _ rfl) nu
      simp only[Nat.add_zero] at o0;have a_:=last.On.gV w3.heap.size w3;have Hl:∀x9:last.On w3.heap.size w3,Calls Tryz.prog 139 #[.slice ha hn hc,.slice a len cap] x9.w fun e w'=>e=.returned (.bool (locked s.2.2.2.2 ops))∧∃y9:last.On w3.heap.size w3,w'=y9.w:=fun x9=>last.Calls.on x9 (Nat.le_refl _) (A8.out _ (dt.trans (x9.2.mono dt.size)))
      have Hm:∀x9:last.On w3.heap.size w3,Calls Tryz.prog 140 #[.slice ma mn mc,.slice a len cap] x9.w fun e w'=>e=.returned (.bool (meets s.2.2.2.1 ops))∧∃y9:last.On w3.heap.size w3,w'=y9.w:=fun x9=>last.Calls.on x9 (Nat.le_refl _) (ZB.out _ (dt.trans (x9.2.mono dt.size)))
      have Lg:∀x9:last.On w3.heap.size w3,Calls Tryz.prog 158 #[bO s.1 s.2.2.1 la ln lc ma mn mc ha hn hc,.slice a len cap] x9.w fun e w'=>e=.returned (.int .i64 (KK:Int))∧∃y9:last.On w3.heap.size w3,w'=y9.w:=fun x9=>last.Calls.on x9 (Nat.le_refl _) (ZC.out _ (dt.trans (x9.2.mono dt.size)))
      clear A8 ZB ZC;cases g4:locked s.2.2.2.2 ops with
      | true=>
       rw[g4] at Hl;have HV:Hid (gG s tx ops=(s,2)):=by show _=_; rw[Lf.out,Cg.out,g4]; simp
       clear Lf Cg g4 yV;go_wp2_with fail;refine last.ai w3.heap.size (by kernel_rfl) (by kernel_rfl) ?_
       repeat(go_big_quiet_step (first | (go_at_call 139; with_reducible exact Hl _) | (go_at_call 140; with_reducible exact Hm _) | (go_at_call 158; with_reducible exact Lg _)))
       refine wpQuiet_nil ?_;intro w5 bP;obtain⟨x5,bP⟩:=bP;have de:Below w.heap.size w w5:=by rw[bP]; exact dt.trans (x5.2.mono dt.size)
       clear bP x5 o0 o1 o2 o3 o4 Hl Hm Lg a_;go_wp2_with fail;go_ret;rw[HV.out];exact⟨rfl,Gd.out _ de⟩
      | false=>
       rw[g4] at Hl;cases g5:meets s.2.2.2.1 ops with
       | false=>
        rw[g5] at Hm;have HV:Hid (gG s tx ops=(s,2)):=by show _=_; rw[Lf.out,Cg.out,g4,g5]; simp
        clear Lf Cg g4 g5 yV;go_wp2_with fail;refine last.ai w3.heap.size (by kernel_rfl) (by kernel_rfl) ?_
        repeat(go_big_quiet_step (first | (go_at_call 139; with_reducible exact Hl _) | (go_at_call 140; with_reducible exact Hm _) | (go_at_call 158; with_reducible exact Lg _)))
        refine wpQuiet_nil ?_;intro w5 bP;obtain⟨x5,bP⟩:=bP;have de:Below w.heap.size w w5:=by rw[bP]; exact dt.trans (x5.2.mono dt.size)
        clear bP x5 o0 o1 o2 o3 o4 Hl Hm Lg a_;go_wp2_with fail;go_ret;rw[HV.out];exact⟨rfl,Gd.out _ de⟩
       | true=>
        rw[g5] at Hm;by_cases g6:60<KK
        · have HV:Hid (gG s tx ops=(s,2)):=by show _=_; rw[Lf.out,Cg.out,g4,g5,decide_eq_true g6]; simp
          have g6':decide ((60:Int)<(KK:Int))=true:=decide_eq_true (by omega)
          clear Lf Cg g4 g5 yV;go_wp2_with fail;refine last.ai w3.heap.size (by kernel_rfl) (by kernel_rfl) ?_
          repeat(go_big_quiet_step (first | (go_at_call 139; with_reducible exact Hl _) | (go_at_call 140; with_reducible exact Hm _) | (go_at_call 158; with_reducible exact Lg _)))
          refine wpQuiet_nil ?_;intro w5 bP;obtain⟨x5,bP⟩:=bP;have de:Below w.heap.size w w5:=by rw[bP]; exact dt.trans (x5.2.mono dt.size)
          clear bP x5 o0 o1 o2 o3 o4 Hl Hm Lg a_;go_wp2_with fail;go_ret;rw[HV.out];exact⟨rfl,Gd.out _ de⟩
        · have g6':decide ((60:Int)<(KK:Int))=false:=decide_eq_false (by omega)
          by_cases g7:300<ln+hn+2
          · have HV:Hid (gG s tx ops=(s,2)):=by show _=_; rw[Lf.out,Cg.out,oQ.out,decide_eq_true g7]; simp
            have WG:decide ((300:Int)<(ln:Int)+(hn:Int)+2)=true:=decide_eq_true (by omega)
            clear Lf Cg g4 g5 yV;go_wp2_with fail;refine last.ai w3.heap.size (by kernel_rfl) (by kernel_rfl) ?_
            repeat(go_big_quiet_step (first | (go_at_call 139; with_reducible exact Hl _) | (go_at_call 140; with_reducible exact Hm _) | (go_at_call 158; with_reducible exact Lg _)))
            refine wpQuiet_nil ?_;intro w5 bP;obtain⟨x5,bP⟩:=bP;have de:Below w.heap.size w w5:=by rw[bP]; exact dt.trans (x5.2.mono dt.size)
            clear bP x5 o0 o1 o2 o3 o4 Hl Hm Lg a_;go_wp2_with fail;go_ret;rw[HV.out];exact⟨rfl,Gd.out _ de⟩
          · have HV:Hid (gG s tx ops=(written s (1,tx,ops),1)):=by show _=_; rw[Lf.out,Cg.out,oQ.out,g4,g5,decide_eq_false g6,decide_eq_false g7]; simp
            have WG:decide ((300:Int)<(ln:Int)+(hn:Int)+2)=false:=decide_eq_false (by omega)
            have uY:=Hid.mk' (fun wx hx g0 c0 ho=>yV.out wx hx g0 c0 ho g4 g5)
            clear Lf Cg g4 g5 yV;go_wp2_with fail;refine last.ai w3.heap.size (by kernel_rfl) (by kernel_rfl) ?_
            repeat(go_big_quiet_step (first | (go_at_call 139; with_reducible exact Hl _) | (go_at_call 140; with_reducible exact Hm _) | (go_at_call 158; with_reducible exact Lg _)))
            refine wpQuiet_nil ?_;intro w5 bP;obtain⟨x5,bP⟩:=bP;have de:Below w.heap.size w w5:=by rw[bP]; exact dt.trans (x5.2.mono dt.size)
            clear bP x5 o0 o1 o2 o3 o4 Hl Hm Lg a_;go_wp2_with fail;refine(E_.out _ de).mono ?_;rintro e w6 ⟨g0,c0,rfl,dV,WH⟩;have mj:=de.trans (WH.mono de.size);have WI:=dV.mono (base':=w.heap.size) de.size;clear E_;go_wp2_with fail;refine(uY.out _ mj _ _ WI).mono ?_;rintro e w7 ⟨rfl,sS⟩;have WJ:=sS.from mj kh
            clear uY sS;go_wp2_with fail;go_ret;rw[HV.out];exact⟨rfl,WJ⟩
    · have HV:Hid (gG s tx ops=(s,eB s tx)):=by show _=_; unfold gG; rw[gg,if_neg (by simp),if_pos g3]
      rw[HV.out];have g3':(eB s tx==2)=false:=beq_eq_false_iff_ne.2 g3;have g3'':(eB s tx != 2)=true:=by simpa using g3
      generalize eB s tx=oo at *;clear g2 gt g1 l1 l2 l3 Gc nP US oL g3;go_enter Tryz.func122,Tryz.ntmps122;go_wp2_with fail;refine(HI.out _).mono ?_;rintro e w1 ⟨rfl,rfl⟩;go_wp2_with fail;refine eX.out.mono ?_;rintro e w2 ⟨rfl,aU⟩;clear HI eX;have b2:=q0 _ aU;have k0:=b2.cell 0 _ rfl;have k1:=b2.cell 1 _ rfl;have k2:=b2.cell 2 _ rfl;have k3:=b2.cell 3 _ rfl;have k4:=b2.cell 4 _ rfl;simp only[Nat.add_zero] at k0;go_wp2_with fail;refine(yK.out _ aU).mono ?_;rintro e w3 ⟨rfl,rY⟩;have dt:=aU.trans (rY.mono aU.size);clear yK k0 k1 k2 k3 k4 b2 rY;go_wp2_with fail;go_ret;exact⟨rfl,h.same dt⟩
 · rw[decide_eq_false g1] at HI;have gt:kz tx=false:=decide_eq_false g1;have HH:Hid (gG s tx ops=(s,5)):=by show _=_; unfold gG; rw[gt]; simp
   rw[HH.out];clear gt g1 l1 l2 l3 Gc nP US oL;go_enter Tryz.func122,Tryz.ntmps122;go_wp2_with fail;refine(HI.out _).mono ?_;rintro e w1 ⟨rfl,rfl⟩;clear HI;go_wp2_with fail;go_ret;exact⟨rfl,h.same (Below.refl _ _)⟩
end aZ
namespace aZ
open Go Go.RowKit base av aN dp gu lay
theorem yW{k:Int}:ef k=1∨ef k=2∨ef k=3∨ef k=4:=by
 unfold ef
 split
 · exact .inl rfl
 · split
   · exact .inr (.inr (.inl rfl))
   · split
     · exact .inr (.inr (.inr rfl))
     · exact .inr (.inl rfl)
theorem xF{tx:Int}(h:kz tx=true)(kind:Int)(hk:kind=2∨kind=3):bf (kind,tx,[])=true:=
 (bE _).2 ⟨by simpa[kz] using h,.inr ⟨hk,rfl⟩⟩
theorem Mk(k:Int)(h:k=2∨k=3):(Lit.int .i64 k).wf=true:=by rcases h with rfl | rfl <;> rfl
theorem jg(X:Nat)(T:TypeId)(pre post:List Value)(la:Option Addr)(ln lc:Nat)(ma:Option Addr)(mn mc:Nat)(ha:Option Addr)(hn hc:Nat)(s:cQ)(F:List Nat)(tx:Int)(yes:Bool)(w:World)
 (h:gH w X T pre post la ln lc ma mn mc ha hn hc s F) (vQ:(Lit.int .i64 tx).wf=true) (hR:bZ s):
 Calls Tryz.prog 124 #[.pointer (some ⟨X,pre.length,none⟩),.int .i64 tx,.bool yes] w fun e w'=>e=.returned (.bool (cR s tx yes).2)∧dq w X T pre post F (cR s tx yes).1 w':=by
 obtain⟨l1,l2,l3⟩:=h.lens;have nP:=hR.room;have t_:=h.own.eZ;have iN:=h.box.lt;have kh:=h.own.lt;have HI:=Hid.mk' (fun wx=>(qP tx 1 1000000 wx).mono (fun e w' (hp:e=.returned (.bool (decide (1≤tx∧tx≤1000000)))∧w'=wx)=>(⟨hp.1,hp.2.symm⟩:e=.returned (.bool (decide (1≤tx∧tx≤1000000)))∧wx=w')))
 by_cases g1:1≤tx∧tx≤1000000
 · rw[decide_eq_true g1] at HI;have gt:kz tx=true:=decide_eq_true g1;obtain⟨kd,NA,Pb⟩:∃kd:Int,kd=(if yes=true then 2 else 3)∧(kd=2∨kd=3):=by
    refine⟨_,rfl,?_⟩
    split
    · exact .inl rfl
    · exact .inr rfl
   have Sv:=Mk kd Pb;obtain⟨W,hW⟩:∃W,w.alloc (.cells #[.int .i64 kd,.int .i64 tx,.slice none 0 0] 98)=W:=⟨_,rfl⟩;have hB:Below w.heap.size w W:=by rw[←hW]; exact(Below.refl _ _).alloc (Nat.le_refl _) _
   have mD:da w.heap.size kd tx (.slice none 0 0) W:=by rw[←hW]; exact cd _ _ _ _
   have yK:=Hid.mk' (nX la ln lc ma mn mc ha hn hc s tx W (t_.below hB));have zH:=h.box.below hB;have k0:=zH.cell 0 _ rfl;have k1:=zH.cell 1 _ rfl;have k2:=zH.cell 2 _ rfl;have k3:=zH.cell 3 _ rfl;have k4:=zH.cell 4 _ rfl;simp only[Nat.add_zero] at k0;have rU:ln≤300:=by omega
   have hhn:hn≤300:=by omega
   have oQ:Hid (s.2.1.length+s.2.2.2.2.length=ln+hn):=by show _=_; omega
   have yV:=Hid.mk' (fun wx (hx:Below w.heap.size w wx) (hf:Fits s.2.2.2.1 s.2.2.2.2 (kd,tx,[]))=>(qR X T pre post la ln lc ma mn mc ha hn hc s F kd tx none 0 0 [] wx (h.below hx) (fun w' _=>tK _ _) (fun p hp=>absurd hp List.not_mem_nil) ⟨Sv,vQ,fun o ho=>absurd ho List.not_mem_nil⟩ (Nat.zero_le _) hf (by omega)).mono (fun e w' hp=>(⟨hp.1,hp.2.from hx kh⟩:e=.returned (.tuple #[])∧dq w X T pre post F (written s (kd,tx,[])) w')))
   have Gd:=Hid.mk' (fun wx (hx:Below w.heap.size w wx)=>h.same hx)
   have HD:Hid (cR s tx yes=if eB s tx=1 then(written s (kd,tx,[]),true) else if eB s tx=3 then(s,yes) else if eB s tx=4 then(s, !yes) else if yes=true∨300≤s.2.1.length+s.2.2.2.2.length then(s,false) else(written s (3,tx,[]),true)):=by
    show _=_;unfold cR;rw[gt,if_neg (by simp),←NA]
   have Hn:eB s tx=1∨eB s tx=2∨eB s tx=3∨eB s tx=4:=by rw[j9 hR]; exact yW
   have EI:Hid (eB s tx=1→Fits s.2.2.2.1 s.2.2.2.2 (kd,tx,[])):=fun e=>by
    obtain⟨k,hk⟩:=xw hR e;exact hR.Jv (xF gt kd Pb) (by omega) hk
   have ZD:Hid (eB s tx=2→yes=false→Fits s.2.2.2.1 s.2.2.2.2 (kd,tx,[])):=fun e e2=>by
    have:kd=3:=by rw[NA,e2]; rfl
    subst this;exact hR.Gb (xF gt 3 (.inr rfl)) (I9 (by omega))
   have ZE:Hid (yes=false→kd=3):=fun e2=>by rw[NA,e2]; rfl
   have HW:=Hid.mk' hW;generalize yX:eB s tx=oo at *;clear yX g1 gt l1 l2 l3 nP Pb Sv;have HKD:=Hid.mk' NA;have WK:Hid (yes=true→w.alloc (.cells #[.int .i64 2,.int .i64 tx,.slice none 0 0] 98)=W):=fun e=>by rw[←hW,NA,e]; rfl
   have WL:Hid (yes=false→w.alloc (.cells #[.int .i64 3,.int .i64 tx,.slice none 0 0] 98)=W):=fun e=>by rw[←hW,NA,e]; rfl
   clear hW NA;go_enter Tryz.func124,Tryz.ntmps124;go_wp2_with fail;refine(HI.out _).mono ?_;rintro e w1 ⟨rfl,rfl⟩;clear HI;cases yes with
   | true=>
    have Pc:=Hid.mk' (WK.out rfl);clear WK WL ZD ZE;rw[←Pc.out] at k0 k1 k2 k3 k4;go_wp2_with fail;rw[Pc.out];refine yK.out.mono ?_;rintro e w3 ⟨rfl,rY⟩;have dt:=hB.trans (rY.mono hB.size);have Ge:=mD.below rY;obtain⟨e0,e1,e2⟩:=Ge.cells;have b3:=h.box.below dt;have nu:=b3.lt;clear yK k0 k1 k2 k3 k4 Pc HW;rcases Hn with rfl | rfl | rfl | rfl
    · have HV:Hid (cR s tx true=(written s (kd,tx,[]),true)):=by show _=_; rw[HD.out,if_pos rfl]
      have uY:=Hid.mk' (yV.out _ dt (EI.out rfl));clear HD EI yV;go_wp2_with fail;refine uY.out.mono ?_;rintro e w7 ⟨rfl,sS⟩;clear uY e0 e1 e2;go_wp2_with fail;go_ret;rw[HV.out];exact⟨rfl,sS⟩
    · have HV:Hid (cR s tx true=(s,false)):=by show _=_; rw[HD.out,if_neg (by decide),if_neg (by decide),if_neg (by decide),if_pos (.inl (by trivial))]
      clear HD EI yV;have o1:=last.On.cell (B:=w3.heap.size) (b3.cell 1 _ rfl) nu;have o4:=last.On.cell (B:=w3.heap.size) (b3.cell 4 _ rfl) nu;have a_:=last.On.gV w3.heap.size w3;go_wp2_with fail;refine last.ai w3.heap.size (by kernel_rfl) (by kernel_rfl) ?_
      repeat(go_big_quiet_step (fail))
      refine wpQuiet_nil ?_;intro w5 bP;obtain⟨x5,bP⟩:=bP;have de:Below w.heap.size w w5:=by rw[bP]; exact dt.trans (x5.2.mono dt.size)
      have Pd:da w.heap.size kd tx (.slice none 0 0) w5:=by rw[bP]; exact Ge.below x5.2
      clear bP x5 o1 o4 a_ e0 e1 e2;go_wp2_with fail;go_ret;rw[HV.out];exact⟨rfl,Gd.out _ de⟩
    · have HV:Hid (cR s tx true=(s,true)):=by show _=_; rw[HD.out,if_neg (by decide),if_pos rfl]
      clear HD EI yV;go_wp2_with fail;go_ret;rw[HV.out];exact⟨rfl,Gd.out _ dt⟩
    · have HV:Hid (cR s tx true=(s, !true)):=by show _=_; rw[HD.out,if_neg (by decide),if_neg (by decide),if_pos rfl]
      clear HD EI yV;go_wp2_with fail;go_ret;rw[HV.out];exact⟨rfl,Gd.out _ dt⟩
   | false=>
    have Pc:=Hid.mk' (WL.out rfl);clear WK WL;rw[←Pc.out] at k0 k1 k2 k3 k4;go_wp2_with fail;rw[Pc.out];refine yK.out.mono ?_;rintro e w3 ⟨rfl,rY⟩;have dt:=hB.trans (rY.mono hB.size);have Ge:=mD.below rY;obtain⟨e0,e1,e2⟩:=Ge.cells;have b3:=h.box.below dt;have nu:=b3.lt;clear yK k0 k1 k2 k3 k4 Pc HW;rcases Hn with rfl | rfl | rfl | rfl
    · have HV:Hid (cR s tx false=(written s (kd,tx,[]),true)):=by show _=_; rw[HD.out,if_pos rfl]
      have uY:=Hid.mk' (yV.out _ dt (EI.out rfl));clear HD EI yV;go_wp2_with fail;refine uY.out.mono ?_;rintro e w7 ⟨rfl,sS⟩;clear uY e0 e1 e2;go_wp2_with fail;go_ret;rw[HV.out];exact⟨rfl,sS⟩
    · by_cases g7:300≤ln+hn
      · have HV:Hid (cR s tx false=(s,false)):=by show _=_; rw[HD.out,if_neg (by decide),if_neg (by decide),if_neg (by decide),if_pos (.inr (by rw[oQ.out]; exact g7))]
        have WG:decide ((300:Int)≤(ln:Int)+(hn:Int))=true:=decide_eq_true (by omega)
        clear HD EI yV;have o1:=last.On.cell (B:=w3.heap.size) (b3.cell 1 _ rfl) nu;have o4:=last.On.cell (B:=w3.heap.size) (b3.cell 4 _ rfl) nu;have a_:=last.On.gV w3.heap.size w3;go_wp2_with fail;refine last.ai w3.heap.size (by kernel_rfl) (by kernel_rfl) ?_
        repeat(go_big_quiet_step (fail))
        refine wpQuiet_nil ?_;intro w5 bP;obtain⟨x5,bP⟩:=bP;have de:Below w.heap.size w w5:=by rw[bP]; exact dt.trans (x5.2.mono dt.size)
        have Pd:da w.heap.size kd tx (.slice none 0 0) w5:=by rw[bP]; exact Ge.below x5.2
        clear bP x5 o1 o4 a_ e0 e1 e2;go_wp2_with fail;go_ret;rw[HV.out];exact⟨rfl,Gd.out _ de⟩
      · have HV:Hid (cR s tx false=(written s (3,tx,[]),true)):=by show _=_; rw[HD.out,if_neg (by decide),if_neg (by decide),if_neg (by decide),if_neg (by rw[oQ.out]; simp; omega)]
        have WG:decide ((300:Int)≤(ln:Int)+(hn:Int))=false:=decide_eq_false (by omega)
        have WM:=ZE.out (by trivial)
        subst WM;have uY:=Hid.mk' (fun wx hx=>yV.out wx hx (ZD.out rfl (by trivial)))
        clear HD EI yV;have o1:=last.On.cell (B:=w3.heap.size) (b3.cell 1 _ rfl) nu;have o4:=last.On.cell (B:=w3.heap.size) (b3.cell 4 _ rfl) nu;have a_:=last.On.gV w3.heap.size w3;go_wp2_with fail;refine last.ai w3.heap.size (by kernel_rfl) (by kernel_rfl) ?_
        repeat(go_big_quiet_step (fail))
        refine wpQuiet_nil ?_;intro w5 bP;obtain⟨x5,bP⟩:=bP;have de:Below w.heap.size w w5:=by rw[bP]; exact dt.trans (x5.2.mono dt.size)
        have Pd:da w.heap.size 3 tx (.slice none 0 0) w5:=by rw[bP]; exact Ge.below x5.2
        clear bP x5 o1 o4 a_ e0 e1 e2;obtain⟨e0,e1,e2⟩:=Pd.cells;go_wp2_with fail;refine(uY.out _ de).mono ?_;rintro e w7 ⟨rfl,sS⟩;clear uY e0 e1 e2;go_wp2_with fail;go_ret;rw[HV.out];exact⟨rfl,sS⟩
    · have HV:Hid (cR s tx false=(s,false)):=by show _=_; rw[HD.out,if_neg (by decide),if_pos rfl]
      clear HD EI yV;go_wp2_with fail;go_ret;rw[HV.out];exact⟨rfl,Gd.out _ dt⟩
    · have HV:Hid (cR s tx false=(s, !false)):=by show _=_; rw[HD.out,if_neg (by decide),if_neg (by decide),if_pos rfl]
      clear HD EI yV;go_wp2_with fail;go_ret;rw[HV.out];exact⟨rfl,Gd.out _ dt⟩
 · rw[decide_eq_false g1] at HI;have gt:kz tx=false:=decide_eq_false g1;have HH:Hid (cR s tx yes=(s,false)):=by show _=_; unfold cR; rw[gt]; simp
   clear gt g1 l1 l2 l3 nP;go_enter Tryz.func124,Tryz.ntmps124;go_wp2_with fail;refine(HI.out _).mono ?_;rintro e w1 ⟨rfl,rfl⟩;clear HI;go_wp2_with fail;go_ret;rw[HH.out];exact⟨rfl,h.same (Below.refl _ _)⟩
end aZ
end Go.Proofs.YtmibabclefgljaaGreat
