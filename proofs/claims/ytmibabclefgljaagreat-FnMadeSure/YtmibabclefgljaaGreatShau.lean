/- ImD ShMs LayF OrdOwn CoMath -/
import Derived.Test.YtmibabclefgljaaGreatShat
import Derived.Test.YtmibabclefgljaaGreatShan
import Derived.Test.YtmibabclefgljaaGreatShas
import Derived.Test.YtmibabclefgljaaGreatShaa
import Derived.Test.YtmibabclefgljaaGreatShab
set_option linter.unusedVariables false
set_option linter.unusedSimpArgs false
set_option maxRecDepth 100000
set_option maxHeartbeats 4000000
namespace Go.Proofs.YtmibabclefgljaaGreat
open Go in
abbrev qO22:Oper:={dst:=some 7,op:=Op.call {callee:=Callee.value (Operand.func 91),args:=#[Operand.tmp 6],argTypes:=#[41]},type:=41,pos:= "l09_shard.go:125",after:=#[{on:=3,ground:=Ground.data}],guard:=none}
open Go in
abbrev qO23:Oper:={dst:=some 10,op:=Op.buildSlice 37 0 #[],type:=37,pos:= "l09_shard.go:125",after:=#[],guard:=none}
open Go in
abbrev qO24:Oper:={dst:=some 13,op:=Op.call {callee:=Callee.builtin Builtin.append,args:=#[Operand.tmp 10,Operand.tmp 12],argTypes:=#[37,37]},type:=37,pos:= "l09_shard.go:125",after:=#[{on:=7,ground:=Ground.data},{on:=9,ground:=Ground.data},{on:=4,ground:=Ground.chain}],guard:=none}
open Go in
abbrev qO25:Oper:={dst:=some 16,op:=Op.call {callee:=Callee.value (Operand.func 91),args:=#[Operand.tmp 15],argTypes:=#[41]},type:=41,pos:= "l09_shard.go:125",after:=#[{on:=12,ground:=Ground.data},{on:=10,ground:=Ground.chain}],guard:=none}
open Go in
abbrev qO26:Oper:={dst:=none,op:=Op.store 43 (Operand.tmp 2) (Operand.tmp 17),type:=0,pos:= "l09_shard.go:125",after:=#[{on:=14,ground:=Ground.data},{on:=13,ground:=Ground.chain},{on:=0,ground:=Ground.phase},{on:=1,ground:=Ground.phase},{on:=2,ground:=Ground.phase},{on:=3,ground:=Ground.phase},{on:=4,ground:=Ground.phase},{on:=5,ground:=Ground.phase},{on:=6,ground:=Ground.phase},{on:=7,ground:=Ground.phase},{on:=8,ground:=Ground.phase},{on:=9,ground:=Ground.phase},{on:=10,ground:=Ground.phase},{on:=11,ground:=Ground.phase},{on:=12,ground:=Ground.phase},{on:=13,ground:=Ground.phase},{on:=14,ground:=Ground.phase}],guard:=none}
namespace aZ
open Go Go.RowKit base av aN dp gu lay
theorem DL(la:Option Addr)(ln lc:Nat)(mn mc:Nat)(ha:Option Addr)(hn hc:Nat)(s:cQ)(w:World)(h:eK w la ln lc none mn mc ha hn hc s)(hf:vS s.2.1)(vJ:vS s.2.2.2.2)(vP:ln≤1099511627776)(jh:mn≤1099511627776)(Cf:hn≤1099511627776):
 Calls Tryz.prog 52 #[bO s.1 s.2.2.1 la ln lc none mn mc ha hn hc] w fun e w'=>∃gl cl gm cm gh ch F,e=.returned (bO s.1 s.2.2.1 (some ⟨gl,0,none⟩) ln cl (some ⟨gm,0,none⟩) mn cm (some ⟨gh,0,none⟩) hn ch)∧
  cY w' (some ⟨gl,0,none⟩) ln cl (some ⟨gm,0,none⟩) mn cm (some ⟨gh,0,none⟩) hn ch s F∧(∀k∈F,w.heap.size≤k)∧Below w.heap.size w w':=by
 obtain⟨i0,jG,dm,dk,cA⟩:=info_parts mW;obtain⟨W,hW⟩:∃W,W=(w.alloc (bW s.1 s.2.2.1 la ln lc none mn mc ha hn hc)).alloc (bW 0 0 none 0 0 none 0 0 none 0 0):=⟨_,rfl⟩;have bg:Below w.heap.size w (w.alloc (bW s.1 s.2.2.1 la ln lc none mn mc ha hn hc)):=(Below.refl _ _).alloc (Nat.le_refl _) _;have hB:Below w.heap.size w W:=by rw[hW]; exact bg.alloc bg.size _
 have hT:au w.heap.size 43 [] (aK s.1 s.2.2.1 la ln lc none mn mc ha hn hc) [] W:=by rw[hW]; exact(aE w _ _).below ((Below.refl _ _).alloc (Nat.le_refl _) _)
 have hR:au (w.heap.size+1) 43 [] (aK 0 0 none 0 0 none 0 0 none 0 0) [] W:=by
  rw[hW];have:=aE (w.alloc (bW s.1 s.2.2.1 la ln lc none mn mc ha hn hc)) (aK 0 0 none 0 0 none 0 0 none 0 0) 43;rwa[show(w.alloc (bW s.1 s.2.2.1 la ln lc none mn mc ha hn hc)).heap.size=w.heap.size+1 by simp] at this
 have Ld:w.heap.size+1<W.heap.size:=hR.lt;have HW:=Hid.mk' hW.symm;clear hW;have Cs:=Hid.mk' (fun wx (hx:Below W.heap.size W wx)=>oS la ln lc s.2.1 wx ((h.log.below hB).below hx) vP (fun r hr=>(hf r hr).1))
 have uW:=Hid.mk' (fun wx (hx:Below W.heap.size W wx)=>oS ha hn hc s.2.2.2.2 wx ((h.held.below hB).below hx) Cf (fun r hr=>(vJ r hr).1))
 have xl:=h.map.1;have eW:=h.map.2.2.1;have h0:mn=0:=by
  rcases Nat.eq_zero_or_pos mn with e | e
  · exact e
  · obtain⟨b,off,ha,_⟩:=h.map.2.2.2 e; cases ha
 subst h0;have Wq:Hid (s.2.2.2.1=[]):=List.eq_nil_of_length_eq_zero xl;have RM:=jx;have F7:=h.id;have EG:=h.sure;have Le:=Hid.mk' xl;clear h hf vJ xl;have eJ:Below W.heap.size W W.drew:=(Below.refl _ _).drew;go_enter Tryz.func52,Tryz.ntmps52;go_wp2_with fail;rw[HW.out];refine last.aq (S:=fun w'=>au w.heap.size 43 [] (aK s.1 s.2.2.1 la ln lc none 0 mc ha hn hc) [] w'∧au (w.heap.size+1) 43 [] (aK 0 0 none 0 0 none 0 0 none 0 0) [] w') 15 (by kernel_rfl) ⟨hT.below eJ,hR.below eJ⟩ (fun af=>?_)
 refine last.wpTk 0 (.pointer (some ⟨w.heap.size,0,none⟩)) rfl rfl ?_ ?_
 · intro wq ar; go_simp
 try simp only[Act.put,zP,zQ,zR]
 refine last.wpTk 1 (.int .i64 s.1) rfl rfl ?_ ?_
 · intro wq ar; have q:=ar.1.cell 0 _ rfl; simp only[List.length_nil,Nat.zero_add] at q; go_simp
 try simp only[Act.put,zP,zQ,zR]
 refine last.wpTk 2 (.pointer (some ⟨w.heap.size,1,none⟩)) rfl rfl ?_ ?_
 · intro wq ar; go_simp
 try simp only[Act.put,zP,zQ,zR]
 refine last.wpTk 3 (.slice la ln lc) rfl rfl ?_ ?_
 · intro wq ar; have q:=ar.1.cell 1 _ rfl; simp only[List.length_nil,Nat.zero_add] at q; go_simp
 try simp only[Act.put,zP,zQ,zR]
 refine last.wpTk 5 (.pointer (some ⟨w.heap.size,2,none⟩)) rfl rfl ?_ ?_
 · intro wq ar; go_simp
 try simp only[Act.put,zP,zQ,zR]
 refine last.wpTk 6 (.int .i64 s.2.2.1) rfl rfl ?_ ?_
 · intro wq ar; have q:=ar.1.cell 2 _ rfl; simp only[List.length_nil,Nat.zero_add] at q; go_simp
 try simp only[Act.put,zP,zQ,zR]
 refine last.wpTk 8 (.pointer (some ⟨w.heap.size,3,none⟩)) rfl rfl ?_ ?_
 · intro wq ar; go_simp
 try simp only[Act.put,zP,zQ,zR]
 refine last.wpTk 9 (.slice none 0 mc) rfl rfl ?_ ?_
 · intro wq ar; have q:=ar.1.cell 3 _ rfl; simp only[List.length_nil,Nat.zero_add] at q; go_simp
 try simp only[Act.put,zP,zQ,zR]
 refine last.wpTk 11 (.pointer (some ⟨w.heap.size,4,none⟩)) rfl rfl ?_ ?_
 · intro wq ar; go_simp
 try simp only[Act.put,zP,zQ,zR]
 refine last.wpTk 12 (.slice ha hn hc) rfl rfl ?_ ?_
 · intro wq ar; have q:=ar.1.cell 4 _ rfl; simp only[List.length_nil,Nat.zero_add] at q; go_simp
 try simp only[Act.put,zP,zQ,zR]
 refine last.eA (i:=4) (j:=7) (o:=qO22) (o':={dst:=some 10,op:=Op.buildSlice 37 0 #[],type:=37,pos:= "l09_shard.go:125",after:=#[],guard:=none}) (by kernel_rfl) rfl rfl (fun K hK=> ?wayA) (fun K hK=> ?wayB)
 case' wayA=>
  refine fx.cq rfl 91 (.tmp 6) _ rfl (fun _ _=>rfl) (.slice la ln lc) (by kernel_rfl) _ (Cs.out _ eJ) ?_
  rintro e w4 ⟨gl,cl,hl,rfl,uX,eD⟩;refine⟨_,rfl,?_⟩;have ej:=eJ.trans (eD.mono eJ.size);refine hK.out _ _ ?_ (fun ag=>?_)
  · exact⟨hT.below ej,hR.below ej⟩
  clear hK K af;have af:=ag;clear ag;try simp only[Act.put,zP,zQ,zR]
  refine last.an (i:=7) (o:=qO23) (by kernel_rfl) rfl (fun K hK=>?_)
  go_simp;have cP:Below w4.heap.size w4 (w4.alloc (.cells #[] 100)):=(Below.refl _ _).alloc (Nat.le_refl _) _;have gT:=ej.trans (cP.mono ej.size);have rV:=(uX.below cP).mono (base':=W.heap.size) eJ.size;have kg:=bX w4 W.heap.size ej.size;refine hK.out _ _ ?_ (fun ag=>?_)
  · exact⟨hT.below gT,hR.below gT⟩
  clear hK K af;have af:=ag;clear ag;generalize O7:w4.alloc (.cells #[] 100)=wA at *;generalize O8:w4.heap.size=g0 at *;clear O7 O8 uX eD ej cP
 case' wayB=>
  go_simp;have cP:Below W.heap.size W (W.drew.alloc (.cells #[] 100)):=eJ.alloc eJ.size _;have qG:=bX W.drew W.heap.size (Nat.le_refl _);refine hK.out _ _ ?_ (fun ag=>?_)
  · exact⟨hT.below cP,hR.below cP⟩
  clear hK K af;have af:=ag;clear ag;try simp only[Act.put,zP,zQ,zR]
  refine last.an (i:=4) (o:=qO22) (by kernel_rfl) rfl (fun K hK=>?_)
  refine fx.cq rfl 91 (.tmp 6) _ rfl (fun _ _=>rfl) (.slice la ln lc) (by kernel_rfl) _ (Cs.out _ cP) ?_
  rintro e wA ⟨gl,cl,hl,rfl,uX,eD⟩;refine⟨_,rfl,?_⟩;have gT:=cP.trans (eD.mono cP.size);have rV:=uX.mono (base':=W.heap.size) cP.size;have kg:=qG.below eD;refine hK.out _ _ ?_ (fun ag=>?_)
  · exact⟨hT.below gT,hR.below gT⟩
  clear hK K af;have af:=ag;clear ag;obtain⟨g0,Dn⟩:∃g0,g0=W.heap.size:=⟨_,rfl⟩;have kg:bJ wA W.heap.size g0 0 0 []:=by rw[Dn]; exact kg
  rw[←Dn];clear qG uX eD cP Dn
 all_goals
  try simp only[Act.put,zP,zQ,zR]
  refine last.an (i:=10) (o:=qO24) (by kernel_rfl) rfl (fun K hK=>?_)
  go_simp;have Dp:bJ wA W.heap.size g0 0 0 s.2.2.2.1:=by rw[Wq.out]; exact kg
  have fC:=gT;have nY:=rV;refine hK.out _ _ ?_ (fun ag=>?_)
  · exact⟨hT.below fC,hR.below fC⟩
  clear hK K af;have af:=ag;clear ag;try simp only[Act.put,zP,zQ,zR]
  refine last.an (i:=13) (o:=qO25) (by kernel_rfl) rfl (fun K hK=>?_)
  refine fx.cq rfl 91 (.tmp 15) _ rfl (fun _ _=>rfl) (.slice ha hn hc) (by kernel_rfl) _ (uW.out _ fC) ?_
  rintro e Ws ⟨gh,ch,hh,rfl,Jq,p8⟩;refine⟨_,rfl,?_⟩;have mF:=fC.trans (p8.mono fC.size);have bQ:=hR.below mF;refine hK.out _ _ ?_ (fun ag=>?_)
  · exact⟨hT.below mF,bQ⟩
  clear hK K af;have af:=ag;clear ag;try simp only[Act.put,zP,zQ,zR]
  refine last.wpTk 14 (bO s.1 s.2.2.1 (some ⟨gl,0,none⟩) ln cl (some ⟨g0,0,none⟩) 0 0 (some ⟨gh,0,none⟩) hn ch) rfl rfl ?_ ?_
  · intro wq ar; go_simp
  try simp only[Act.put,zP,zQ,zR]
  have z0:=bQ.cell 0 _ rfl;have z1:=bQ.cell 1 _ rfl;have z2:=bQ.cell 2 _ rfl;have z3:=bQ.cell 3 _ rfl;have z4:=bQ.cell 4 _ rfl;simp only[List.length_nil,Nat.zero_add] at z0 z1 z2 z3 z4;have f0:=bQ.fz 0;have f1:=bQ.fz 1;have f2:=bQ.fz 2;have f3:=bQ.fz 3;have f4:=bQ.fz 4;refine last.aC (o:=qO26) (by kernel_rfl) rfl (by kernel_rfl) (fun K hK=>?_)
  go_simp;refine hK.out _ _ ?_;clear hK K;have cB:=bQ.ni (.int .i64 s.1) (.slice (some ⟨gl,0,none⟩) ln cl) (.int .i64 s.2.2.1) (.slice (some ⟨g0,0,none⟩) 0 0) (.slice (some ⟨gh,0,none⟩) hn ch);simp only[List.length_nil,Nat.zero_add] at cB;have qO:∀k,c_ (.slice (some ⟨gl,0,none⟩) ln cl) hl k→k<wA.heap.size:=fun k hk=>(nY.lt k hk).2
  have F8:∀k,c_ (.slice (some ⟨gh,0,none⟩) hn ch) hh k→wA.heap.size≤k:=fun k hk=>(Jq.lt k hk).1
  obtain⟨F,qt,tR⟩:=qQ (B:=W.heap.size) F7 EG (nY.below p8) (Dp.below p8) (Jq.mono fC.size) qO F8;have Dq:=qt.keep (w':=_) (fun k hk=>cB.2.block k (qt.lt k hk) (fun e=>by have:=tR k hk; have:=Option.some.inj e; omega))
  have jy:=(hB.trans (mF.mono hB.size)).grown cB.2 (hB.trans (mF.mono hB.size)).size (fun j e=>by cases e; omega)
  have dy:=cB.1.cell 0 _ rfl;have dz:=cB.1.cell 1 _ rfl;have dA:=cB.1.cell 2 _ rfl;have dB:=cB.1.cell 3 _ rfl;have dC:=cB.1.cell 4 _ rfl;simp only[List.length_nil,Nat.zero_add] at dy dz dA dB dC;have Dr:∀k∈F,w.heap.size≤k:=fun k hk=>by have:=tR k hk; omega
  clear z0 z1 z2 z3 z4 f0 f1 f2 f3 f4;go_wp2_with fail;refine bodyPost_ret (v:=bO s.1 s.2.2.1 (some ⟨gl,0,none⟩) ln cl (some ⟨g0,0,none⟩) 0 0 (some ⟨gh,0,none⟩) hn ch) ?_ rfl ⟨_,_,_,_,_,_,F,rfl,Dq,Dr,jy⟩;simp[results,Tryz.results52,go_sem,dy,dz,dA,dB,dC]
theorem Bt(la:Option Addr)(ln lc:Nat)(ad:Addr)(mn mc:Nat)(ha:Option Addr)(hn hc:Nat)(s:cQ)(w:World)(h:eK w la ln lc (some ad) mn mc ha hn hc s)(hf:vS s.2.1)(vJ:vS s.2.2.2.2)(vP:ln≤1099511627776)(jh:mn≤1099511627776)(Cf:hn≤1099511627776):
 Calls Tryz.prog 52 #[bO s.1 s.2.2.1 la ln lc (some ad) mn mc ha hn hc] w fun e w'=>∃gl cl gm cm gh ch F,e=.returned (bO s.1 s.2.2.1 (some ⟨gl,0,none⟩) ln cl (some ⟨gm,0,none⟩) mn cm (some ⟨gh,0,none⟩) hn ch)∧
  cY w' (some ⟨gl,0,none⟩) ln cl (some ⟨gm,0,none⟩) mn cm (some ⟨gh,0,none⟩) hn ch s F∧(∀k∈F,w.heap.size≤k)∧Below w.heap.size w w':=by
 obtain⟨i0,jG,dm,dk,cA⟩:=info_parts mW;obtain⟨W,hW⟩:∃W,W=(w.alloc (bW s.1 s.2.2.1 la ln lc (some ad) mn mc ha hn hc)).alloc (bW 0 0 none 0 0 none 0 0 none 0 0):=⟨_,rfl⟩;have bg:Below w.heap.size w (w.alloc (bW s.1 s.2.2.1 la ln lc (some ad) mn mc ha hn hc)):=(Below.refl _ _).alloc (Nat.le_refl _) _;have hB:Below w.heap.size w W:=by rw[hW]; exact bg.alloc bg.size _
 have hT:au w.heap.size 43 [] (aK s.1 s.2.2.1 la ln lc (some ad) mn mc ha hn hc) [] W:=by rw[hW]; exact(aE w _ _).below ((Below.refl _ _).alloc (Nat.le_refl _) _)
 have hR:au (w.heap.size+1) 43 [] (aK 0 0 none 0 0 none 0 0 none 0 0) [] W:=by
  rw[hW];have:=aE (w.alloc (bW s.1 s.2.2.1 la ln lc (some ad) mn mc ha hn hc)) (aK 0 0 none 0 0 none 0 0 none 0 0) 43;rwa[show(w.alloc (bW s.1 s.2.2.1 la ln lc (some ad) mn mc ha hn hc)).heap.size=w.heap.size+1 by simp] at this
 have Ld:w.heap.size+1<W.heap.size:=hR.lt;have HW:=Hid.mk' hW.symm;clear hW;have Cs:=Hid.mk' (fun wx (hx:Below W.heap.size W wx)=>oS la ln lc s.2.1 wx ((h.log.below hB).below hx) vP (fun r hr=>(hf r hr).1))
 have uW:=Hid.mk' (fun wx (hx:Below W.heap.size W wx)=>oS ha hn hc s.2.2.2.2 wx ((h.held.below hB).below hx) Cf (fun r hr=>(vJ r hr).1))
 have xl:=h.map.1;have eW:=h.map.2.2.1;have Wt:Hid (∀wx,Below W.heap.size W wx→∀j u,(aw s.2.2.2.1)[j]? =some u→wx.cell? (ad.add j)=some u):=by
  intro wx hx;rcases Nat.eq_zero_or_pos mn with e | e
  · intro j u hj;have e1:s.2.2.2.1=[]:=List.eq_nil_of_length_eq_zero (by omega)
    rw[e1] at hj; simp[aw] at hj
  · obtain⟨b,off,ha,_⟩:=h.map.2.2.2 e;cases ha;exact cM ((h.map.below hB).below hx).cells
 have fD:0+mn≤maxLen:=by unfold maxLen; omega
 have jX:(0+mn) * 32≤140737488355328:=by omega
 have RY:(aw s.2.2.2.1).length=mn * 2:=by rw[bo]; omega
 have F7:=h.id;have EG:=h.sure;have Le:=Hid.mk' xl;clear h hf vJ xl;have eJ:Below W.heap.size W W.drew:=(Below.refl _ _).drew;go_enter Tryz.func52,Tryz.ntmps52;go_wp2_with fail;rw[HW.out];refine last.aq (S:=fun w'=>au w.heap.size 43 [] (aK s.1 s.2.2.1 la ln lc (some ad) mn mc ha hn hc) [] w'∧au (w.heap.size+1) 43 [] (aK 0 0 none 0 0 none 0 0 none 0 0) [] w') 15 (by kernel_rfl) ⟨hT.below eJ,hR.below eJ⟩ (fun af=>?_)
 refine last.wpTk 0 (.pointer (some ⟨w.heap.size,0,none⟩)) rfl rfl ?_ ?_
 · intro wq ar; go_simp
 try simp only[Act.put,zP,zQ,zR]
 refine last.wpTk 1 (.int .i64 s.1) rfl rfl ?_ ?_
 · intro wq ar; have q:=ar.1.cell 0 _ rfl; simp only[List.length_nil,Nat.zero_add] at q; go_simp
 try simp only[Act.put,zP,zQ,zR]
 refine last.wpTk 2 (.pointer (some ⟨w.heap.size,1,none⟩)) rfl rfl ?_ ?_
 · intro wq ar; go_simp
 try simp only[Act.put,zP,zQ,zR]
 refine last.wpTk 3 (.slice la ln lc) rfl rfl ?_ ?_
 · intro wq ar; have q:=ar.1.cell 1 _ rfl; simp only[List.length_nil,Nat.zero_add] at q; go_simp
 try simp only[Act.put,zP,zQ,zR]
 refine last.wpTk 5 (.pointer (some ⟨w.heap.size,2,none⟩)) rfl rfl ?_ ?_
 · intro wq ar; go_simp
 try simp only[Act.put,zP,zQ,zR]
 refine last.wpTk 6 (.int .i64 s.2.2.1) rfl rfl ?_ ?_
 · intro wq ar; have q:=ar.1.cell 2 _ rfl; simp only[List.length_nil,Nat.zero_add] at q; go_simp
 try simp only[Act.put,zP,zQ,zR]
 refine last.wpTk 8 (.pointer (some ⟨w.heap.size,3,none⟩)) rfl rfl ?_ ?_
 · intro wq ar; go_simp
 try simp only[Act.put,zP,zQ,zR]
 refine last.wpTk 9 (.slice (some ad) mn mc) rfl rfl ?_ ?_
 · intro wq ar; have q:=ar.1.cell 3 _ rfl; simp only[List.length_nil,Nat.zero_add] at q; go_simp
 try simp only[Act.put,zP,zQ,zR]
 refine last.wpTk 11 (.pointer (some ⟨w.heap.size,4,none⟩)) rfl rfl ?_ ?_
 · intro wq ar; go_simp
 try simp only[Act.put,zP,zQ,zR]
 refine last.wpTk 12 (.slice ha hn hc) rfl rfl ?_ ?_
 · intro wq ar; have q:=ar.1.cell 4 _ rfl; simp only[List.length_nil,Nat.zero_add] at q; go_simp
 try simp only[Act.put,zP,zQ,zR]
 refine last.eA (i:=4) (j:=7) (o:=qO22) (o':={dst:=some 10,op:=Op.buildSlice 37 0 #[],type:=37,pos:= "l09_shard.go:125",after:=#[],guard:=none}) (by kernel_rfl) rfl rfl (fun K hK=> ?wayA) (fun K hK=> ?wayB)
 case' wayA=>
  refine fx.cq rfl 91 (.tmp 6) _ rfl (fun _ _=>rfl) (.slice la ln lc) (by kernel_rfl) _ (Cs.out _ eJ) ?_
  rintro e w4 ⟨gl,cl,hl,rfl,uX,eD⟩;refine⟨_,rfl,?_⟩;have ej:=eJ.trans (eD.mono eJ.size);refine hK.out _ _ ?_ (fun ag=>?_)
  · exact⟨hT.below ej,hR.below ej⟩
  clear hK K af;have af:=ag;clear ag;try simp only[Act.put,zP,zQ,zR]
  refine last.an (i:=7) (o:=qO23) (by kernel_rfl) rfl (fun K hK=>?_)
  go_simp;have cP:Below w4.heap.size w4 (w4.alloc (.cells #[] 100)):=(Below.refl _ _).alloc (Nat.le_refl _) _;have gT:=ej.trans (cP.mono ej.size);have rV:=(uX.below cP).mono (base':=W.heap.size) eJ.size;have kg:=bX w4 W.heap.size ej.size;refine hK.out _ _ ?_ (fun ag=>?_)
  · exact⟨hT.below gT,hR.below gT⟩
  clear hK K af;have af:=ag;clear ag;generalize O7:w4.alloc (.cells #[] 100)=wA at *;generalize O8:w4.heap.size=g0 at *;clear O7 O8 uX eD ej cP
 case' wayB=>
  go_simp;have cP:Below W.heap.size W (W.drew.alloc (.cells #[] 100)):=eJ.alloc eJ.size _;have qG:=bX W.drew W.heap.size (Nat.le_refl _);refine hK.out _ _ ?_ (fun ag=>?_)
  · exact⟨hT.below cP,hR.below cP⟩
  clear hK K af;have af:=ag;clear ag;try simp only[Act.put,zP,zQ,zR]
  refine last.an (i:=4) (o:=qO22) (by kernel_rfl) rfl (fun K hK=>?_)
  refine fx.cq rfl 91 (.tmp 6) _ rfl (fun _ _=>rfl) (.slice la ln lc) (by kernel_rfl) _ (Cs.out _ cP) ?_
  rintro e wA ⟨gl,cl,hl,rfl,uX,eD⟩;refine⟨_,rfl,?_⟩;have gT:=cP.trans (eD.mono cP.size);have rV:=uX.mono (base':=W.heap.size) cP.size;have kg:=qG.below eD;refine hK.out _ _ ?_ (fun ag=>?_)
  · exact⟨hT.below gT,hR.below gT⟩
  clear hK K af;have af:=ag;clear ag;obtain⟨g0,Dn⟩:∃g0,g0=W.heap.size:=⟨_,rfl⟩;have kg:bJ wA W.heap.size g0 0 0 []:=by rw[Dn]; exact kg
  rw[←Dn];clear qG uX eD cP Dn
 all_goals
  try simp only[Act.put,zP,zQ,zR]
  refine last.an (i:=10) (o:=qO24) (by kernel_rfl) rfl (fun K hK=>?_)
  refine cL rfl (.tmp 10) (.tmp 12) 37 rfl W.heap.size 100 i0 (.agg #[.string ⟨#[]⟩,.string ⟨#[]⟩]) 2 32 Tryz.underlying37 jG dm dk cA rfl (by decide) _ _ _ rfl kg.2.2 ad mn mc (aw s.2.2.2.1) rfl RY (Wt.out _ gT) (aF _) fD jX gT.size ?_
  intro v10 wI aB az cN;have bY:¬v10=.slice none 0 0:=fun e=>by have:=(cN.1 e).1; cases this
  obtain⟨g10,pE,hv,Dp⟩:=df Le.out eW bY (by have h9:=aB; simp only[aw,List.flatMap_nil,List.nil_append,Nat.zero_add] at h9; exact h9)
  subst hv;have jF:wA.grownBy wI (some g0):=az;have fC:=gT.grown jF gT.size (fun k e=>by cases e; exact kg.lt.1)
  have nY:=rV.grown jF (rV.tQ kg);refine hK.out _ _ ?_ (fun ag=>?_)
  · exact⟨hT.below fC,hR.below fC⟩
  clear hK K af;have af:=ag;clear ag;clear aB az jF cN bY;try simp only[Act.put,zP,zQ,zR]
  refine last.an (i:=13) (o:=qO25) (by kernel_rfl) rfl (fun K hK=>?_)
  refine fx.cq rfl 91 (.tmp 15) _ rfl (fun _ _=>rfl) (.slice ha hn hc) (by kernel_rfl) _ (uW.out _ fC) ?_
  rintro e Ws ⟨gh,ch,hh,rfl,Jq,p8⟩;refine⟨_,rfl,?_⟩;have mF:=fC.trans (p8.mono fC.size);have bQ:=hR.below mF;refine hK.out _ _ ?_ (fun ag=>?_)
  · exact⟨hT.below mF,bQ⟩
  clear hK K af;have af:=ag;clear ag;try simp only[Act.put,zP,zQ,zR]
  refine last.wpTk 14 (bO s.1 s.2.2.1 (some ⟨gl,0,none⟩) ln cl (some ⟨g10,0,none⟩) mn pE (some ⟨gh,0,none⟩) hn ch) rfl rfl ?_ ?_
  · intro wq ar; go_simp
  try simp only[Act.put,zP,zQ,zR]
  have z0:=bQ.cell 0 _ rfl;have z1:=bQ.cell 1 _ rfl;have z2:=bQ.cell 2 _ rfl;have z3:=bQ.cell 3 _ rfl;have z4:=bQ.cell 4 _ rfl;simp only[List.length_nil,Nat.zero_add] at z0 z1 z2 z3 z4;have f0:=bQ.fz 0;have f1:=bQ.fz 1;have f2:=bQ.fz 2;have f3:=bQ.fz 3;have f4:=bQ.fz 4;refine last.aC (o:=qO26) (by kernel_rfl) rfl (by kernel_rfl) (fun K hK=>?_)
  go_simp;refine hK.out _ _ ?_;clear hK K;have cB:=bQ.ni (.int .i64 s.1) (.slice (some ⟨gl,0,none⟩) ln cl) (.int .i64 s.2.2.1) (.slice (some ⟨g10,0,none⟩) mn pE) (.slice (some ⟨gh,0,none⟩) hn ch);simp only[List.length_nil,Nat.zero_add] at cB;have qO:∀k,c_ (.slice (some ⟨gl,0,none⟩) ln cl) hl k→k<wI.heap.size:=fun k hk=>(nY.lt k hk).2
  have F8:∀k,c_ (.slice (some ⟨gh,0,none⟩) hn ch) hh k→wI.heap.size≤k:=fun k hk=>(Jq.lt k hk).1
  obtain⟨F,qt,tR⟩:=qQ (B:=W.heap.size) F7 EG (nY.below p8) (Dp.below p8) (Jq.mono fC.size) qO F8;have Dq:=qt.keep (w':=_) (fun k hk=>cB.2.block k (qt.lt k hk) (fun e=>by have:=tR k hk; have:=Option.some.inj e; omega))
  have jy:=(hB.trans (mF.mono hB.size)).grown cB.2 (hB.trans (mF.mono hB.size)).size (fun j e=>by cases e; omega)
  have dy:=cB.1.cell 0 _ rfl;have dz:=cB.1.cell 1 _ rfl;have dA:=cB.1.cell 2 _ rfl;have dB:=cB.1.cell 3 _ rfl;have dC:=cB.1.cell 4 _ rfl;simp only[List.length_nil,Nat.zero_add] at dy dz dA dB dC;have Dr:∀k∈F,w.heap.size≤k:=fun k hk=>by have:=tR k hk; omega
  clear z0 z1 z2 z3 z4 f0 f1 f2 f3 f4;go_wp2_with fail;refine bodyPost_ret (v:=bO s.1 s.2.2.1 (some ⟨gl,0,none⟩) ln cl (some ⟨g10,0,none⟩) mn pE (some ⟨gh,0,none⟩) hn ch) ?_ rfl ⟨_,_,_,_,_,_,F,rfl,Dq,Dr,jy⟩;simp[results,Tryz.results52,go_sem,dy,dz,dA,dB,dC]
theorem MA(la:Option Addr)(ln lc:Nat)(ma:Option Addr)(mn mc:Nat)(ha:Option Addr)(hn hc:Nat)(s:cQ)(w:World)(h:eK w la ln lc ma mn mc ha hn hc s)(hf:vS s.2.1)(vJ:vS s.2.2.2.2)(vP:ln≤1099511627776)(jh:mn≤1099511627776)(Cf:hn≤1099511627776):
 Calls Tryz.prog 52 #[bO s.1 s.2.2.1 la ln lc ma mn mc ha hn hc] w fun e w'=>∃gl cl gm cm gh ch F,e=.returned (bO s.1 s.2.2.1 (some ⟨gl,0,none⟩) ln cl (some ⟨gm,0,none⟩) mn cm (some ⟨gh,0,none⟩) hn ch)∧
  cY w' (some ⟨gl,0,none⟩) ln cl (some ⟨gm,0,none⟩) mn cm (some ⟨gh,0,none⟩) hn ch s F∧(∀k∈F,w.heap.size≤k)∧Below w.heap.size w w':=by
 cases ma with
 | none=>exact DL la ln lc mn mc ha hn hc s w h hf vJ vP jh Cf
 | some ad=>exact Bt la ln lc ad mn mc ha hn hc s w h hf vJ vP jh Cf
end aZ
namespace aZ
open Go Go.RowKit base av aN dp gu lay
theorem q8{w w':World}{la ma ha:Option Addr}{ln lc mn mc hn hc:Nat}{s:cQ}{F:List Nat}(h:cY w' la ln lc ma mn mc ha hn hc s F)(hF:∀k∈F,w.heap.size≤k)(hb:Below w.heap.size w w'):zT w s (.returned (bO s.1 s.2.2.1 la ln lc ma mn mc ha hn hc)) w':=
 ⟨la,ln,lc,ma,mn,mc,ha,hn,hc,F,rfl,h,hF,hb⟩
theorem vV(la:Option Addr)(ln lc:Nat)(ma:Option Addr)(mn mc:Nat)(ha:Option Addr)(hn hc:Nat)(s:cQ)(w:World)(h:eK w la ln lc ma mn mc ha hn hc s)(hb:xc s):
 Calls Tryz.prog 21 #[bO s.1 s.2.2.1 la ln lc ma mn mc ha hn hc] w (zT w (bI s)):=by
 obtain⟨b1,b2,b3⟩:=eK.jB h hb;obtain⟨l1,l2,l3⟩:=eK.lens h;obtain⟨W,hW⟩:∃W,(w.alloc (bW s.1 s.2.2.1 la ln lc ma mn mc ha hn hc)).alloc (bW 0 0 none 0 0 none 0 0 none 0 0)=W:=⟨_,rfl⟩;have bg:Below w.heap.size w (w.alloc (bW s.1 s.2.2.1 la ln lc ma mn mc ha hn hc)):=fS;have hB:Below w.heap.size w W:=by rw[←hW]; exact bg.alloc bg.size _
 have hA:au w.heap.size 43 [] (aK s.1 s.2.2.1 la ln lc ma mn mc ha hn hc) [] W:=by rw[←hW]; exact(aE w _ _).below fS
 have hR:au (w.heap.size+1) 43 [] (aK 0 0 none 0 0 none 0 0 none 0 0) [] W:=by
  rw[←hW];have:=aE (w.alloc (bW s.1 s.2.2.1 la ln lc ma mn mc ha hn hc)) (aK 0 0 none 0 0 none 0 0 none 0 0) 43;rwa[show(w.alloc (bW s.1 s.2.2.1 la ln lc ma mn mc ha hn hc)).heap.size=w.heap.size+1 by simp] at this
 have Ld:w.heap.size+1<W.heap.size:=hR.lt;have HW:=Hid.mk' hW;have a0:=hA.cell 0 _ rfl;have a1:=hA.cell 1 _ rfl;have a2:=hA.cell 2 _ rfl;have a3:=hA.cell 3 _ rfl;have a4:=hA.cell 4 _ rfl;simp only[List.length_nil,Nat.zero_add] at a0 a1 a2 a3 a4;rw[←hW] at a0 a1 a2 a3 a4;have J1:=Hid.mk' (A5 la ln lc ma mn mc ha hn hc s W (h.below hB) hb.jB hb.zU (by omega) (by omega) (by omega))
 have eX:=Hid.mk' (fun wx (hx:Below w.heap.size w wx)=>qu la ln lc ma mn mc ha hn hc s wx (h.below hx) hb.jB)
 have PJ:(Lit.int .i64 (s.2.1.length:Int)).wf=true:=by
  simp[Lit.wf,IntKind.min,IntKind.max,IntKind.signed,IntKind.bits]; have:=hb.log; omega
 have oQ:=Hid.mk' l1;have Xj:=h.sure;clear hW l1 l2 l3 h bg;go_enter Tryz.func21,Tryz.ntmps21;go_wp2_with fail;rw[HW.out];refine J1.out.mono ?_;rintro e w1 ⟨gl,cl,gm,cm,gh,ch,F,rfl,gi,sW,aT⟩;have eU:=hB.trans (aT.mono hB.size);obtain⟨v1,oI⟩:∃v1,w1.alloc (bW s.1 s.2.2.1 (some ⟨gl,0,none⟩) ln cl (some ⟨gm,0,none⟩) mn cm (some ⟨gh,0,none⟩) hn ch)=v1:=⟨_,rfl⟩;have gk:Below w1.heap.size w1 v1:=by rw[←oI]; exact fS
 have vO:=lz gi;rw[oI] at vO;have pk:=(hA.below aT).below gk;have pf:=(hR.below aT).below gk;have MB:=eU.trans (gk.mono eU.size);have DA:=aT.size;clear a0 a1 a2 a3 a4 HW J1 gi;have a0:=pk.cell 0 _ rfl;have a1:=pk.cell 1 _ rfl;have a2:=pk.cell 2 _ rfl;have a3:=pk.cell 3 _ rfl;have a4:=pk.cell 4 _ rfl;simp only[List.length_nil,Nat.zero_add] at a0 a1 a2 a3 a4;rw[←oI] at a0 a1 a2 a3 a4;have Br:=Hid.mk' oI;have J2:=Hid.mk' (eX.out v1 MB);clear oI eX;go_wp2_with fail;rw[Br.out];refine J2.out.mono ?_;rintro e w2 ⟨rfl,aU⟩;have eY:=vO.below aU;have cT:=pk.below aU;have dn:=pf.below aU;have dw:=MB.trans (aU.mono MB.size);have Hs:∀k∈F,W.heap.size≤k:=sW;have r7:w.heap.size+1≠w1.heap.size:=by omega
 clear a0 a1 a2 a3 a4 Br J2 vO pk pf MB gk aU;cases bD:bH s with
 | false=>
  obtain⟨q0,q1,q2,q3,q4⟩:=eY.cells;have z0:=dn.cell 0 _ rfl;have z1:=dn.cell 1 _ rfl;have z2:=dn.cell 2 _ rfl;have z3:=dn.cell 3 _ rfl;have z4:=dn.cell 4 _ rfl;simp only[List.length_nil,Nat.zero_add] at z0 z1 z2 z3 z4;have f0:=dn.fz 0;have f1:=dn.fz 1;have f2:=dn.fz 2;have f3:=dn.fz 3;have f4:=dn.fz 4;have cB:=dn.ni (.int .i64 s.1) (.slice (some ⟨gl,0,none⟩) ln cl) (.int .i64 s.2.2.1) (.slice (some ⟨gm,0,none⟩) mn cm) (.slice (some ⟨gh,0,none⟩) hn ch);simp only[List.length_nil,Nat.zero_add] at cB;have jv:=eY.own.keep (fun j hj=>cB.2.block j (eY.own.lt j hj) (fun e=>by have:=Hs j hj; have:=Option.some.inj e; omega))
  have jy:=dw.grown cB.2 dw.size (fun j e=>by cases e; omega)
  have dy:=cB.1.cell 0 _ rfl;have dz:=cB.1.cell 1 _ rfl;have dA:=cB.1.cell 2 _ rfl;have dB:=cB.1.cell 3 _ rfl;have dC:=cB.1.cell 4 _ rfl;simp only[List.length_nil,Nat.zero_add] at dy dz dA dB dC;have PK:Hid (bI s=s):=by show _=_; unfold bI; rw[bD]; rfl
  have HP:=Hid.mk' (q8 (s:=s) jv (fun k hk=>Nat.le_trans hB.size (Hs k hk)) jy)
  clear jv jy cB eY dn cT;go_wp2_with fail;refine bodyPost_ret (v:=bO s.1 s.2.2.1 (some ⟨gl,0,none⟩) ln cl (some ⟨gm,0,none⟩) mn cm (some ⟨gh,0,none⟩) hn ch) ?_ rfl (by rw[PK.out]; exact HP.out)
  simp[results,Tryz.results21,go_sem,dy,dz,dA,dB,dC]
 | true=>
  have n2:=eY.box.set 2 (by simp[aK]) (.int .i64 (ln:Int))
  simp only[List.length_nil,Nat.zero_add] at n2;have nu:ER (w2.setCell ⟨w1.heap.size,2,none⟩ (.int .i64 (ln:Int))) w1.heap.size (some ⟨gl,0,none⟩) ln cl (some ⟨gm,0,none⟩) mn cm (some ⟨gh,0,none⟩) hn ch (s.1,s.2.1,(ln:Int),s.2.2.2.1,s.2.2.2.2) F:=by
   have d_:=eY.own.keep (fun j hj=>n2.2.block j (eY.own.lt j hj) (fun e=>eY.out (by rw[←Option.some.inj e]; exact hj)))
   exact⟨n2.1,⟨d_.id,by rw[←oQ.out]; exact PJ,d_.log,d_.map,d_.nodup⟩,eY.out⟩
  have cC:=dn.grown n2.2 (by simp; omega)
  have cJ:=dw.grown n2.2 dw.size (fun j e=>by cases e; omega)
  have y1:=eY.cells.2.1;have y2:=eY.cells.2.2.1;have g2:=eY.box.fz 2;obtain⟨q0,q1,q2,q3,q4⟩:=nu.cells;have z0:=cC.cell 0 _ rfl;have z1:=cC.cell 1 _ rfl;have z2:=cC.cell 2 _ rfl;have z3:=cC.cell 3 _ rfl;have z4:=cC.cell 4 _ rfl;simp only[List.length_nil,Nat.zero_add] at z0 z1 z2 z3 z4;have f0:=cC.fz 0;have f1:=cC.fz 1;have f2:=cC.fz 2;have f3:=cC.fz 3;have f4:=cC.fz 4;have cB:=cC.ni (.int .i64 s.1) (.slice (some ⟨gl,0,none⟩) ln cl) (.int .i64 (ln:Int)) (.slice (some ⟨gm,0,none⟩) mn cm) (.slice (some ⟨gh,0,none⟩) hn ch);simp only[List.length_nil,Nat.zero_add] at cB;have jv:=nu.own.keep (fun j hj=>cB.2.block j (nu.own.lt j hj) (fun e=>by have:=Hs j hj; have:=Option.some.inj e; omega))
  have jy:=cJ.grown cB.2 cJ.size (fun j e=>by cases e; omega)
  have dy:=cB.1.cell 0 _ rfl;have dz:=cB.1.cell 1 _ rfl;have dA:=cB.1.cell 2 _ rfl;have dB:=cB.1.cell 3 _ rfl;have dC:=cB.1.cell 4 _ rfl;simp only[List.length_nil,Nat.zero_add] at dy dz dA dB dC;have PK:Hid (bI s=(s.1,s.2.1,(ln:Int),s.2.2.2.1,s.2.2.2.2)):=by show _=_; unfold bI; rw[bD,←oQ.out]; rfl
  have HP:=Hid.mk' (q8 (s:=(s.1,s.2.1,(ln:Int),s.2.2.2.1,s.2.2.2.2)) jv (fun k hk=>Nat.le_trans hB.size (Hs k hk)) jy)
  clear jv jy cB eY dn cT nu cC;go_wp2_with fail;refine bodyPost_ret (v:=bO s.1 (ln:Int) (some ⟨gl,0,none⟩) ln cl (some ⟨gm,0,none⟩) mn cm (some ⟨gh,0,none⟩) hn ch) ?_ rfl (by rw[PK.out]; exact HP.out)
  simp[results,Tryz.results21,go_sem,dy,dz,dA,dB,dC]
theorem vU(la:Option Addr)(ln lc:Nat)(ma:Option Addr)(mn mc:Nat)(ha:Option Addr)(hn hc:Nat)(s:cQ)(w:World)(h:eK w la ln lc ma mn mc ha hn hc s)(gd:j7 w la ln)(hb:xc s):
 Calls Tryz.prog 18 #[bO s.1 s.2.2.1 la ln lc ma mn mc ha hn hc] w (zT w (bI s)):=by
 obtain⟨b1,b2,b3⟩:=eK.jB h hb;obtain⟨l1,l2,l3⟩:=eK.lens h;obtain⟨W,hW⟩:∃W,(w.alloc (bW s.1 s.2.2.1 la ln lc ma mn mc ha hn hc)).alloc (bW 0 0 none 0 0 none 0 0 none 0 0)=W:=⟨_,rfl⟩;have bg:Below w.heap.size w (w.alloc (bW s.1 s.2.2.1 la ln lc ma mn mc ha hn hc)):=fS;have hB:Below w.heap.size w W:=by rw[←hW]; exact bg.alloc bg.size _
 have hA:au w.heap.size 43 [] (aK s.1 s.2.2.1 la ln lc ma mn mc ha hn hc) [] W:=by rw[←hW]; exact(aE w _ _).below fS
 have hR:au (w.heap.size+1) 43 [] (aK 0 0 none 0 0 none 0 0 none 0 0) [] W:=by
  rw[←hW];have:=aE (w.alloc (bW s.1 s.2.2.1 la ln lc ma mn mc ha hn hc)) (aK 0 0 none 0 0 none 0 0 none 0 0) 43;rwa[show(w.alloc (bW s.1 s.2.2.1 la ln lc ma mn mc ha hn hc)).heap.size=w.heap.size+1 by simp] at this
 have Ld:w.heap.size+1<W.heap.size:=hR.lt;have HW:=Hid.mk' hW;have a0:=hA.cell 0 _ rfl;have a1:=hA.cell 1 _ rfl;have a2:=hA.cell 2 _ rfl;have a3:=hA.cell 3 _ rfl;have a4:=hA.cell 4 _ rfl;simp only[List.length_nil,Nat.zero_add] at a0 a1 a2 a3 a4;rw[←hW] at a0 a1 a2 a3 a4;have J1:=Hid.mk' (MA la ln lc ma mn mc ha hn hc s W (h.below hB) hb.jB hb.zU (by omega) (by omega) (by omega))
 have eX:=Hid.mk' (fun wx (hx:Below w.heap.size w wx)=>qx la ln lc ma mn mc ha hn hc s wx (h.below hx) (sV h.log gd hx) hb.jB (by omega) (by omega))
 have PJ:(Lit.int .i64 (s.2.1.length:Int)).wf=true:=by
  simp[Lit.wf,IntKind.min,IntKind.max,IntKind.signed,IntKind.bits]; have:=hb.log; omega
 have oQ:=Hid.mk' l1;have Xj:=h.sure;clear hW l1 l2 l3 h bg;go_enter Tryz.func18,Tryz.ntmps18;go_wp2_with fail;rw[HW.out];refine J1.out.mono ?_;rintro e w1 ⟨gl,cl,gm,cm,gh,ch,F,rfl,gi,sW,aT⟩;have eU:=hB.trans (aT.mono hB.size);obtain⟨v1,oI⟩:∃v1,w1.alloc (bW s.1 s.2.2.1 (some ⟨gl,0,none⟩) ln cl (some ⟨gm,0,none⟩) mn cm (some ⟨gh,0,none⟩) hn ch)=v1:=⟨_,rfl⟩;have gk:Below w1.heap.size w1 v1:=by rw[←oI]; exact fS
 have vO:=lz gi;rw[oI] at vO;have pk:=(hA.below aT).below gk;have pf:=(hR.below aT).below gk;have MB:=eU.trans (gk.mono eU.size);have DA:=aT.size;clear a0 a1 a2 a3 a4 HW J1 gi;have a0:=pk.cell 0 _ rfl;have a1:=pk.cell 1 _ rfl;have a2:=pk.cell 2 _ rfl;have a3:=pk.cell 3 _ rfl;have a4:=pk.cell 4 _ rfl;simp only[List.length_nil,Nat.zero_add] at a0 a1 a2 a3 a4;rw[←oI] at a0 a1 a2 a3 a4;have Br:=Hid.mk' oI;have J2:=Hid.mk' (eX.out v1 MB);clear oI eX;go_wp2_with fail;rw[Br.out];refine J2.out.mono ?_;rintro e w2 ⟨rfl,aU⟩;have eY:=vO.below aU;have cT:=pk.below aU;have dn:=pf.below aU;have dw:=MB.trans (aU.mono MB.size);have Hs:∀k∈F,W.heap.size≤k:=sW;have r7:w.heap.size+1≠w1.heap.size:=by omega
 clear a0 a1 a2 a3 a4 Br J2 vO pk pf MB gk aU;cases bD:bH s with
 | false=>
  obtain⟨q0,q1,q2,q3,q4⟩:=eY.cells;have z0:=dn.cell 0 _ rfl;have z1:=dn.cell 1 _ rfl;have z2:=dn.cell 2 _ rfl;have z3:=dn.cell 3 _ rfl;have z4:=dn.cell 4 _ rfl;simp only[List.length_nil,Nat.zero_add] at z0 z1 z2 z3 z4;have f0:=dn.fz 0;have f1:=dn.fz 1;have f2:=dn.fz 2;have f3:=dn.fz 3;have f4:=dn.fz 4;have cB:=dn.ni (.int .i64 s.1) (.slice (some ⟨gl,0,none⟩) ln cl) (.int .i64 s.2.2.1) (.slice (some ⟨gm,0,none⟩) mn cm) (.slice (some ⟨gh,0,none⟩) hn ch);simp only[List.length_nil,Nat.zero_add] at cB;have jv:=eY.own.keep (fun j hj=>cB.2.block j (eY.own.lt j hj) (fun e=>by have:=Hs j hj; have:=Option.some.inj e; omega))
  have jy:=dw.grown cB.2 dw.size (fun j e=>by cases e; omega)
  have dy:=cB.1.cell 0 _ rfl;have dz:=cB.1.cell 1 _ rfl;have dA:=cB.1.cell 2 _ rfl;have dB:=cB.1.cell 3 _ rfl;have dC:=cB.1.cell 4 _ rfl;simp only[List.length_nil,Nat.zero_add] at dy dz dA dB dC;have PK:Hid (bI s=s):=by show _=_; unfold bI; rw[bD]; rfl
  have HP:=Hid.mk' (q8 (s:=s) jv (fun k hk=>Nat.le_trans hB.size (Hs k hk)) jy)
  clear jv jy cB eY dn cT;go_wp2_with fail;refine bodyPost_ret (v:=bO s.1 s.2.2.1 (some ⟨gl,0,none⟩) ln cl (some ⟨gm,0,none⟩) mn cm (some ⟨gh,0,none⟩) hn ch) ?_ rfl (by rw[PK.out]; exact HP.out)
  simp[results,Tryz.results18,go_sem,dy,dz,dA,dB,dC]
 | true=>
  have n2:=eY.box.set 2 (by simp[aK]) (.int .i64 (ln:Int))
  simp only[List.length_nil,Nat.zero_add] at n2;have nu:ER (w2.setCell ⟨w1.heap.size,2,none⟩ (.int .i64 (ln:Int))) w1.heap.size (some ⟨gl,0,none⟩) ln cl (some ⟨gm,0,none⟩) mn cm (some ⟨gh,0,none⟩) hn ch (s.1,s.2.1,(ln:Int),s.2.2.2.1,s.2.2.2.2) F:=by
   have d_:=eY.own.keep (fun j hj=>n2.2.block j (eY.own.lt j hj) (fun e=>eY.out (by rw[←Option.some.inj e]; exact hj)))
   exact⟨n2.1,⟨d_.id,by rw[←oQ.out]; exact PJ,d_.log,d_.map,d_.nodup⟩,eY.out⟩
  have cC:=dn.grown n2.2 (by simp; omega)
  have cJ:=dw.grown n2.2 dw.size (fun j e=>by cases e; omega)
  have y1:=(by have q:=cT.cell 1 _ rfl; simpa only[List.length_nil,Nat.zero_add] using q:w2.cell? ⟨w.heap.size,1,none⟩=some (.slice la ln lc))
  have y2:=eY.cells.2.2.1;have g2:=eY.box.fz 2;obtain⟨q0,q1,q2,q3,q4⟩:=nu.cells;have z0:=cC.cell 0 _ rfl;have z1:=cC.cell 1 _ rfl;have z2:=cC.cell 2 _ rfl;have z3:=cC.cell 3 _ rfl;have z4:=cC.cell 4 _ rfl;simp only[List.length_nil,Nat.zero_add] at z0 z1 z2 z3 z4;have f0:=cC.fz 0;have f1:=cC.fz 1;have f2:=cC.fz 2;have f3:=cC.fz 3;have f4:=cC.fz 4;have cB:=cC.ni (.int .i64 s.1) (.slice (some ⟨gl,0,none⟩) ln cl) (.int .i64 (ln:Int)) (.slice (some ⟨gm,0,none⟩) mn cm) (.slice (some ⟨gh,0,none⟩) hn ch);simp only[List.length_nil,Nat.zero_add] at cB;have jv:=nu.own.keep (fun j hj=>cB.2.block j (nu.own.lt j hj) (fun e=>by have:=Hs j hj; have:=Option.some.inj e; omega))
  have jy:=cJ.grown cB.2 cJ.size (fun j e=>by cases e; omega)
  have dy:=cB.1.cell 0 _ rfl;have dz:=cB.1.cell 1 _ rfl;have dA:=cB.1.cell 2 _ rfl;have dB:=cB.1.cell 3 _ rfl;have dC:=cB.1.cell 4 _ rfl;simp only[List.length_nil,Nat.zero_add] at dy dz dA dB dC;have PK:Hid (bI s=(s.1,s.2.1,(ln:Int),s.2.2.2.1,s.2.2.2.2)):=by show _=_; unfold bI; rw[bD,←oQ.out]; rfl
  have HP:=Hid.mk' (q8 (s:=(s.1,s.2.1,(ln:Int),s.2.2.2.1,s.2.2.2.2)) jv (fun k hk=>Nat.le_trans hB.size (Hs k hk)) jy)
  clear jv jy cB eY dn cT nu cC;go_wp2_with fail;refine bodyPost_ret (v:=bO s.1 (ln:Int) (some ⟨gl,0,none⟩) ln cl (some ⟨gm,0,none⟩) mn cm (some ⟨gh,0,none⟩) hn ch) ?_ rfl (by rw[PK.out]; exact HP.out)
  simp[results,Tryz.results18,go_sem,dy,dz,dA,dB,dC]
end aZ
namespace cos
open Go Go.RowKit base lay
/-! ### types without slices -/
structure Flat {α:Type} (R:Rd α) (enc:α→List Value) (ok:α→Prop):Prop where
 own:∀ {w vs x F},R.own w vs x F↔vs=enc x∧ok x∧F=[]
 eZ:∀ {w vs x},R.eZ w vs x↔vs=enc x∧ok x
theorem aL:Flat int (fun x=>[.int .i64 x]) (fun x=>(Lit.int .i64 x).wf=true):=
 ⟨fun{_ _ _ _}=>⟨fun h=>⟨h.1.1,h.1.2,h.2⟩,fun h=>⟨⟨h.1,h.2.1⟩,h.2.2⟩⟩,fun{_ _ _}=>Iff.rfl⟩
theorem oO:Flat bool (fun x=>[.bool x]) (fun _=>True):=
 ⟨fun{_ _ _ _}=>⟨fun h=>⟨h.1,trivial,h.2⟩,fun h=>⟨h.1,h.2.2⟩⟩,fun{_ _ _}=>⟨fun h=>⟨h,trivial⟩,fun h=>h.1⟩⟩
theorem j_:Flat str (fun x=>[.string x]) (fun x=>x.size≤maxLen):=
 ⟨fun{_ _ _ _}=>⟨fun h=>⟨h.1.1,h.1.2,h.2⟩,fun h=>⟨⟨h.1,h.2.1⟩,h.2.2⟩⟩,fun{_ _ _}=>Iff.rfl⟩
theorem iT{α β:Type}{R:Rd α}{S:Rd β}{e1:α→List Value}{e2:β→List Value}{o1:α→Prop}{o2:β→Prop}(h1:Flat R e1 o1)(h2:Flat S e2 o2):Flat (both R S) (fun x=>e1 x.1++e2 x.2) (fun x=>o1 x.1∧o2 x.2):=by
 constructor
 · intro w vs x F;constructor
   · rintro⟨us,ts,F1,F2,rfl,rfl,h3,h4,_⟩;obtain⟨rfl,k1,rfl⟩:=h1.own.1 h3;obtain⟨rfl,k2,rfl⟩:=h2.own.1 h4;exact⟨rfl,⟨k1,k2⟩,rfl⟩
   · rintro⟨rfl,⟨k1,k2⟩,rfl⟩;exact⟨_,_,[],[],rfl,rfl,h1.own.2 ⟨rfl,k1,rfl⟩,h2.own.2 ⟨rfl,k2,rfl⟩,List.nodup_nil⟩
 · intro w vs x;constructor
   · rintro⟨us,ts,rfl,h3,h4⟩;obtain⟨rfl,k1⟩:=h1.eZ.1 h3;obtain⟨rfl,k2⟩:=h2.eZ.1 h4;exact⟨rfl,k1,k2⟩
   · rintro⟨rfl,k1,k2⟩;exact⟨_,_,rfl,h1.eZ.2 ⟨rfl,k1⟩,h2.eZ.2 ⟨rfl,k2⟩⟩
section
variable{α:Type}{R:Rd α}{enc:α→List Value}{ok:α→Prop}{ty:TypeId}{w:World}{v:Value}{l:List α}{q:dJ}{F:List Nat}
theorem Flat.parts(hR:Flat R enc ok)(h:bk ty R w v l q):q=l.map (fun x=>(enc x,[]))∧(∀x∈l,ok x)∧al q=[]∧cellsOf q=l.flatMap enc:=by
 have hl:=h.len;have e:q=l.map (fun x=>(enc x,[])):=by
  refine List.ext_getElem (by simp[hl]) fun i h1 h2=>?_
  have h3:=hR.own.1 (h.each i (by omega))
  rw[List.getElem_map];exact Prod.ext h3.1 h3.2.2
 refine⟨e,fun x hx=>?_,?_,?_⟩
 · obtain⟨i,hi,rfl⟩:=List.getElem_of_mem hx;exact(hR.own.1 (h.each i hi)).2.1
 · rw[e]; unfold al; rw[List.flatMap_map]; simp
 · rw[e]; unfold cellsOf; rw[List.flatMap_map]
theorem Flat.row(hR:Flat R enc ok)(h:bk ty R w v l q):w.ownsRow 0 ty R.size v l.length (l.flatMap enc):=by
 rw[←(hR.parts h).2.2.2]; exact h.row
theorem Flat.made(hR:Flat R enc ok)(hr:w.ownsRow 0 ty R.size v l.length (l.flatMap enc))(bD:∀x∈l,ok x):bk ty R w v l (l.map (fun x=>(enc x,[]))):=by
 have e1:cellsOf (l.map (fun x=>(enc x,([]:List Nat))))=l.flatMap enc:=by unfold cellsOf; rw[List.flatMap_map]
 have e2:al (l.map (fun x=>(enc x,([]:List Nat))))=[]:=by unfold al; rw[List.flatMap_map]; simp
 refine⟨by simp,by rw[e1]; exact hr,fun i hi=>?_,by rw[e2]; cases v.ownBlock <;> simp⟩
 simp only[List.getElem_map];exact hR.own.2 ⟨rfl,bD _ (List.getElem_mem _),rfl⟩
theorem Flat.slice(hR:Flat R enc ok):(lay.slice ty R).own w [v] l F↔w.ownsRow 0 ty R.size v l.length (l.flatMap enc)∧(∀x∈l,ok x)∧F=v.ownBlock.toList:=by
 constructor
 · rintro⟨v',q,e,rfl,h⟩;cases e;exact⟨hR.row h,(hR.parts h).2.1,by rw[(hR.parts h).2.2.1,List.append_nil]⟩
 · rintro⟨h1,h2,rfl⟩;have h3:=hR.made h1 h2;exact⟨v,_,rfl,by rw[(hR.parts h3).2.2.1,List.append_nil],h3⟩
end
end cos
namespace kN
open Go Go.RowKit base av aN
/-! ### a slice of orders of the call's own, or nil -/
def cD(w:World)(base:Nat)(v:Value)(l:List Od):Prop:=(∀p∈l,dN p)∧w.ownsRow base 121 3 v l.length (aM l)
section
variable{w w':World}{base base':Nat}{v:Value}{l:List Od}{row:Option Nat}
theorem Aa(w:World)(base:Nat):cD w base (.slice none 0 0) []:=⟨fun _ h=>absurd h List.not_mem_nil,World.ownsRow_nil _ _ _ _⟩
theorem fv{g n cap:Nat}(h:bR w base g n cap l):cD w base (.slice (some ⟨g,0,none⟩) n cap) l:=⟨h.2.1,by rw[h.1]; exact h.2.2⟩
theorem cD.shape(h:cD w base v l):(v=.slice none 0 0∧l=[])∨∃g cap,v=.slice (some ⟨g,0,none⟩) l.length cap∧bR w base g l.length cap l:=by
 rcases h.2.2 with⟨rfl,h0⟩ | ⟨g,cap,cur,rfl,_⟩
 · exact .inl ⟨rfl,List.eq_nil_of_length_eq_zero h0⟩
 · exact .inr ⟨g,cap,rfl,rfl,h.1,h.2⟩
theorem cD.lt(h:cD w base v l)(k:Nat)(hk:v.ownBlock=some k):base≤k∧k<w.heap.size:=h.2.lt k hk
theorem cD.bN(h:cD w base v l)(hk:∀k,v.ownBlock=some k→w'.heap[k]? =w.heap[k]?):cD w' base v l:=by
 refine⟨h.1,h.2.1,?_⟩;rcases h.2.2 with h' | ⟨g,cap,cur,rfl,h0,hg,r⟩
 · exact .inl h'
 · exact .inr ⟨g,cap,cur,rfl,h0,(hk g rfl).trans hg,r⟩
theorem cD.below(h:cD w base v l)(hb:Below w.heap.size w w'):cD w' base v l:=h.bN fun k hk=>hb.block k (h.lt k hk).2
theorem cD.grown(h:cD w base v l)(hg:w.grownBy w' row)(aW:v.ownBlock=none∨v.ownBlock≠row):cD w' base v l:=
 h.bN fun k hk=>hg.block k (h.lt k hk).2 (fun e=>by
  rcases aW with h1 | h1
  · rw[hk] at h1; cases h1
  · exact h1 (hk.trans e))
theorem cD.mono(h:cD w base v l)(hb:base'≤base):cD w base' v l:=by
 refine⟨h.1,h.2.1,?_⟩;rcases h.2.2 with h' | ⟨g,cap,cur,rfl,h0,r⟩
 · exact .inl h'
 · exact .inr ⟨g,cap,cur,rfl,by omega,r⟩
theorem cD.sl(h:cD w base v l):∃a cap,v=.slice a l.length cap∧dD w a l.length l∧l.length≤cap:=by
 rcases h.shape with⟨rfl,rfl⟩ | ⟨g,cap,rfl,hO⟩
 · exact⟨none,0,rfl,tK _ _,Nat.le_refl _⟩
 · exact⟨_,cap,rfl,hO.sl,hO.cases.1⟩
theorem cD.one(h:cD w base v l):v.oneCell'=true:=by
 rcases h.shape with⟨rfl,_⟩ | ⟨g,cap,rfl,_⟩ <;> rfl
end
end kN
namespace cos
open Go Go.RowKit base av aN
abbrev Jb:=Int × List Od × Int × List Int
abbrev Ch:=Int × Bool
abbrev Co:=Int × Int × Int × List Jb × List Ch × Int
def fe(l:List Ch)(tx:Int):Option Nat:=l.findIdx? fun c=>decide (c.1=tx)
def pH(l:List Jb)(tx:Int):Option Nat:=l.findIdx? fun j=>decide (j.1=tx)
def idx(r:Option Nat):Int:=match r with | none=> -1 | some k=>(k:Int)
def choice(l:List Ch)(tx:Int):Option Bool:=(l.find? fun c=>decide (c.1=tx)).map fun c=>c.2
def dK(list:List Int):Option Int→List Int→Bool
 | _,[]=>true
 | p,x::r=>(decide (x∈list) && match p with | none=>true | some q=>decide (q<x)) && dK list (some x) r
def fy(st:Int):Option Bool→Bool
 | none=>decide (st=1)
 | some true=>decide (st=2)
 | some false=>decide (st=3)
def eF(n ak next:Int)(log:List Ch)(p:Option Int)(j:Jb):Bool:=
 decide (ak * 1000≤j.1∧j.1≤ak * 1000+next - 1) && (match p with | none=>true | some q=>decide (q<j.1)) && bM j.2.1 && decide (1≤j.2.2.1∧j.2.2.1≤3) && dK (aD n j.2.1) none j.2.2.2 && fy j.2.2.1 (choice log j.1)
def eC(n ak next:Int)(log:List Ch):Option Int→List Jb→Bool
 | _,[]=>true
 | p,j::r=>eF n ak next log p j && eC n ak next log (some j.1) r
def cU(hi:Int)(log:List Ch):Bool:=log.all (fun c=>decide (1000≤c.1∧c.1≤hi)) && decide ((log.map fun c=>c.1).Nodup)
def J3(c:Co):Bool:=decide (1≤c.1∧c.1≤8) && decide (1≤c.2.1∧c.2.1≤900) && decide (0≤c.2.2.1∧c.2.2.1≤999) && decide (c.2.2.2.2.1.length≤1000) && decide (0≤c.2.2.2.2.2∧c.2.2.2.2.2≤(c.2.2.2.2.1.length:Int))
def be(c:Co):Bool:=J3 c && cU (c.2.1 * 1000+c.2.2.1 - 1) c.2.2.2.2.1 && eC c.1 c.2.1 c.2.2.1 c.2.2.2.2.1 none c.2.2.2.1
/-! ### places -/
theorem sX{α:Type}(p:α→Bool)(l:List α)(k:Nat)(hk:k≤l.length)(h:∀i (hi:i<k),p (l[i]'(by omega))=false):l.findIdx? p=((l.drop k).findIdx? p).map (· +k):=by
 induction k generalizing l with
 | zero=>simp
 | succ k ih=>
  cases l with
  | nil=>simp at hk
  | cons x l=>
   have h0:p x=false:=h 0 (by omega)
   rw[List.findIdx?_cons,h0];simp only[Bool.false_eq_true,if_false,List.drop_succ_cons];rw[ih l (by simpa using hk) (fun i hi=>by simpa using h (i+1) (by omega))]
   cases(l.drop k).findIdx? p <;> simp[Nat.add_assoc]
theorem kO{α:Type}{p:α→Bool}{l:List α}{k:Nat}(hk:k<l.length)(h:∀i (hi:i<k),p (l[i]'(by omega))=false)(hp:p l[k]=true):l.findIdx? p=some k:=by
 rw[sX p l k (by omega) h,List.drop_eq_getElem_cons hk,List.findIdx?_cons,hp]
 simp
theorem mK{α:Type}{p:α→Bool}{l:List α}(h:∀i (hi:i<l.length),p l[i]=false):l.findIdx? p=none:=by
 rw[sX p l l.length (Nat.le_refl _) (fun i hi=>h i hi),List.drop_length]
 rfl
theorem jK{α:Type}{p:α→Bool}{l:List α}{k:Nat}(h:l.findIdx? p=some k):∃hk:k<l.length,p l[k]=true∧∀i (hi:i<k),p (l[i]'(by omega))=false:=by
 induction l generalizing k with
 | nil=>simp at h
 | cons x l ih=>
  rw[List.findIdx?_cons] at h;cases hx:p x
  · rw[hx] at h;simp only[Bool.false_eq_true,if_false] at h;cases h2:l.findIdx? p with
    | none=>rw[h2] at h; cases h
    | some j=>
     rw[h2] at h;simp only[Option.map_some,Option.some.injEq] at h;subst h;obtain⟨hj,hp,hb⟩:=ih h2;refine⟨by simp; omega,by simpa using hp,fun i hi=>?_⟩
     cases i with
     | zero=>exact hx
     | succ i=>simpa using hb i (by omega)
  · rw[hx] at h;simp only[if_true,Option.some.injEq] at h;subst h;exact⟨by simp,hx,fun i hi=>absurd hi (by omega)⟩
theorem sY{α:Type}{p:α→Bool}{l:List α}:(∀k,l.findIdx? p=some k→∃hk:k<l.length,l.find? p=some l[k])∧(l.findIdx? p=none→l.find? p=none):=by
 induction l with
 | nil=>exact⟨fun k h=>by simp at h,fun _=>rfl⟩
 | cons x l ih=>
  constructor
  · intro k h;rw[List.findIdx?_cons] at h;cases hx:p x
    · rw[hx] at h;simp only[Bool.false_eq_true,if_false] at h;cases h2:l.findIdx? p with
      | none=>rw[h2] at h; cases h
      | some j=>
       rw[h2] at h;simp only[Option.map_some,Option.some.injEq] at h;subst h;obtain⟨hj,e⟩:=ih.1 j h2;exact⟨by simp; omega,by rw[List.find?_cons,hx]; simpa using e⟩
    · rw[hx] at h;simp only[if_true,Option.some.injEq] at h;subst h;exact⟨by simp,by rw[List.find?_cons,hx]; rfl⟩
  · intro h;rw[List.findIdx?_cons] at h;cases hx:p x
    · rw[hx] at h;simp only[Bool.false_eq_true,if_false,Option.map_eq_none_iff] at h;rw[List.find?_cons,hx];exact ih.2 h
    · rw[hx] at h; cases h
theorem od{log:List Ch}{tx:Int}{k:Nat}(h:fe log tx=some k):∃hk:k<log.length,choice log tx=some log[k].2:=by
 obtain⟨hk,e⟩:=sY.1 k h;exact⟨hk,by unfold choice; rw[e]; rfl⟩
theorem sZ{log:List Ch}{tx:Int}(h:fe log tx=none):choice log tx=none:=by
 unfold choice; rw[sY.2 h]; rfl
theorem nodup_iff{log:List Ch}:(log.map fun c=>c.1).Nodup↔∀i (hi:i<log.length),fe log log[i].1=some i:=by
 constructor
 · intro h i hi;refine kO hi (fun j hj=>decide_eq_false fun e=>?_) (decide_eq_true rfl)
   have:=List.pairwise_iff_getElem.1 h j i (by simp; omega) (by simpa using hi) hj
   simp only[List.getElem_map] at this;exact this e
 · intro h;refine List.pairwise_iff_getElem.2 fun i j hi hj hij=>?_
   simp only[List.getElem_map];intro e;simp only[List.length_map] at hi hj;have h1:=h j hj;rw[←e,h i hi] at h1;simp only[Option.some.injEq] at h1;omega
end cos
end Go.Proofs.YtmibabclefgljaaGreat
