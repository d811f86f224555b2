/- ImD ShMs LayF OrdOwn CoMath -/
import Derived.Test.YtmibabclefgljaaGreatShat
import Derived.Test.YtmibabclefgljaaGreatShan
import Derived.Test.YtmibabclefgljaaGreatShas
import Derived.Test.YtmibabclefgljaaGreatShaa
import Derived.Test.YtmibabclefgljaaGreatShab
set_option linter.unusedVariables false
set_option linter.unusedSimpArgs false
set_option maxRecDepth 100000
set_option maxHeartbeats 4000000
namespace Go.Proofs.YtmibabclefgljaaGreat
open Go in
abbrev qO22:Oper:={dst:=some 7,op:=Op.call {callee:=Callee.value (Operand.func 91),args:=#[Operand.tmp 6],argTypes:=#[41]},type:=41,pos:= "l09_shard.go:125",after:=#[{on:=3,ground:=Ground.data}],guard:=none}
open Go in
abbrev qO23:Oper:={dst:=some 10,op:=Op.buildSlice 37 0 #[],type:=37,pos:= "l09_shard.go:125",after:=#[],guard:=none}
open Go in
abbrev qO24:Oper:={dst:=some 13,op:=Op.call {callee:=Callee.builtin Builtin.append,args:=#[Operand.tmp 10,Operand.tmp 12],argTypes:=#[37,37]},type:=37,pos:= "l09_shard.go:125",after:=#[{on:=7,ground:=Ground.data},{on:=9,ground:=Ground.data},{on:=4,ground:=Ground.chain}],guard:=none}
open Go in
abbrev qO25:Oper:={dst:=some 16,op:=Op.call {callee:=Callee.value (Operand.func 91),args:=#[Operand.tmp 15],argTypes:=#[41]},type:=41,pos:= "l09_shard.go:125",after:=#[{on:=12,ground:=Ground.data},{on:=10,ground:=Ground.chain}],guard:=none}
open Go in
abbrev qO26:Oper:={dst:=none,op:=Op.store 43 (Operand.tmp 2) (Operand.tmp 17),type:=0,pos:= "l09_shard.go:125",after:=#[{on:=14,ground:=Ground.data},{on:=13,ground:=Ground.chain},{on:=0,ground:=Ground.phase},{on:=1,ground:=Ground.phase},{on:=2,ground:=Ground.phase},{on:=3,ground:=Ground.phase},{on:=4,ground:=Ground.phase},{on:=5,ground:=Ground.phase},{on:=6,ground:=Ground.phase},{on:=7,ground:=Ground.phase},{on:=8,ground:=Ground.phase},{on:=9,ground:=Ground.phase},{on:=10,ground:=Ground.phase},{on:=11,ground:=Ground.phase},{on:=12,ground:=Ground.phase},{on:=13,ground:=Ground.phase},{on:=14,ground:=Ground.phase}],guard:=none}
namespace bm
open Go Go.RowKit base aE aX dG gO lay
theorem D1(la:Option Addr)(ln lc:Nat)(mn mc:Nat)(ha:Option Addr)(hn hc:Nat)(s:de)(w:World)(h:eY w la ln lc none mn mc ha hn hc s)(hf:wD s.2.1)(we:wD s.2.2.2.2)(wu:ln≤1099511627776)(jA:mn≤1099511627776)(Cw:hn≤1099511627776):
 Calls Tryz.prog 52 #[cd s.1 s.2.2.1 la ln lc none mn mc ha hn hc] w fun e w'=>∃gl cl gm cm gh ch F,e=.returned (cd s.1 s.2.2.1 (some ⟨gl,0,none⟩) ln cl (some ⟨gm,0,none⟩) mn cm (some ⟨gh,0,none⟩) hn ch)∧
  dn w' (some ⟨gl,0,none⟩) ln cl (some ⟨gm,0,none⟩) mn cm (some ⟨gh,0,none⟩) hn ch s F∧(∀k∈F,w.heap.size≤k)∧Below w.heap.size w w':=by
 obtain⟨i0,jX,dE,dD,cO⟩:=info_parts nt;obtain⟨W,hW⟩:∃W,W=(w.alloc (cA s.1 s.2.2.1 la ln lc none mn mc ha hn hc)).alloc (cA 0 0 none 0 0 none 0 0 none 0 0):=⟨_,rfl⟩;have bw:Below w.heap.size w (w.alloc (cA s.1 s.2.2.1 la ln lc none mn mc ha hn hc)):=(Below.refl _ _).alloc (Nat.le_refl _) _;have hB:Below w.heap.size w W:=by rw[hW]; exact bw.alloc bw.size _
 have hT:aD w.heap.size 43 [] (aU s.1 s.2.2.1 la ln lc none mn mc ha hn hc) [] W:=by rw[hW]; exact(aO w _ _).below ((Below.refl _ _).alloc (Nat.le_refl _) _)
 have hR:aD (w.heap.size+1) 43 [] (aU 0 0 none 0 0 none 0 0 none 0 0) [] W:=by
  rw[hW];have:=aO (w.alloc (cA s.1 s.2.2.1 la ln lc none mn mc ha hn hc)) (aU 0 0 none 0 0 none 0 0 none 0 0) 43;oU [show(w.alloc (cA s.1 s.2.2.1 la ln lc none mn mc ha hn hc)).heap.size=w.heap.size+1 by simp] at this
 have Lp:w.heap.size+1<W.heap.size:=hR.lt;have HW:=Hid.mk' hW.symm;clear hW;have CH:=Hid.mk' (fun wx (hx:Below W.heap.size W wx)=>pr la ln lc s.2.1 wx ((h.log.below hB).below hx) wu (fun r hr=>(hf r hr).1))
 have vn:=Hid.mk' (fun wx (hx:Below W.heap.size W wx)=>pr ha hn hc s.2.2.2.2 wx ((h.held.below hB).below hx) Cw (fun r hr=>(we r hr).1))
 have xH:=h.map.1;have fk:=h.map.2.2.1;have h0:mn=0:=by
  rcases Nat.eq_zero_or_pos mn with e | e
  · exact e
  · obtain⟨b,off,ha,_⟩:=h.map.2.2.2 e; cases ha
 subst h0;have WE:Hid (s.2.2.2.1=[]):=List.eq_nil_of_length_eq_zero xH;have RW:=jO;have Gl:=h.id;have EW:=h.sure;have Lq:=Hid.mk' xH;clear h hf we xH;have eX:Below W.heap.size W W.drew:=(Below.refl _ _).drew;aj Tryz.func52,Tryz.ntmps52;ab fail;rw[HW.out];refine last.aB (S:=fun w'=>aD w.heap.size 43 [] (aU s.1 s.2.2.1 la ln lc none 0 mc ha hn hc) [] w'∧aD (w.heap.size+1) 43 [] (aU 0 0 none 0 0 none 0 0 none 0 0) [] w') 15 (by aa) ⟨hT.below eX,hR.below eX⟩ (fun al=>?_)
 refine last.ae (i:=0) (v:=(.pointer (some ⟨w.heap.size,0,none⟩))) rfl rfl (by aa) (by aa) (by aa) (by aa) (fun _ _ _ h=>h) (Or.inl ⟨by rfl,?_⟩) (by assumption) ?_
 · intro wq aC; af
 try simp only[Act.put,List.setIfInBounds_toArray,List.set_cons_zero,List.set_cons_succ];refine last.ae (i:=1) (v:=(.int .i64 s.1)) rfl rfl (by aa) (by aa) (by aa) (by aa) (fun _ _ _ h=>h) (Or.inl ⟨by rfl,?_⟩) (by assumption) ?_
 · intro wq aC; have q:=aC.1.cell 0 _ rfl; simp only[List.length_nil,Nat.zero_add] at q; af
 try simp only[Act.put,List.setIfInBounds_toArray,List.set_cons_zero,List.set_cons_succ];refine last.ae (i:=2) (v:=(.pointer (some ⟨w.heap.size,1,none⟩))) rfl rfl (by aa) (by aa) (by aa) (by aa) (fun _ _ _ h=>h) (Or.inl ⟨by rfl,?_⟩) (by assumption) ?_
 · intro wq aC; af
 try simp only[Act.put,List.setIfInBounds_toArray,List.set_cons_zero,List.set_cons_succ];refine last.ae (i:=3) (v:=(.slice la ln lc)) rfl rfl (by aa) (by aa) (by aa) (by aa) (fun _ _ _ h=>h) (Or.inl ⟨by rfl,?_⟩) (by assumption) ?_
 · intro wq aC; have q:=aC.1.cell 1 _ rfl; simp only[List.length_nil,Nat.zero_add] at q; af
 try simp only[Act.put,List.setIfInBounds_toArray,List.set_cons_zero,List.set_cons_succ];refine last.ae (i:=5) (v:=(.pointer (some ⟨w.heap.size,2,none⟩))) rfl rfl (by aa) (by aa) (by aa) (by aa) (fun _ _ _ h=>h) (Or.inl ⟨by rfl,?_⟩) (by assumption) ?_
 · intro wq aC; af
 try simp only[Act.put,List.setIfInBounds_toArray,List.set_cons_zero,List.set_cons_succ];refine last.ae (i:=6) (v:=(.int .i64 s.2.2.1)) rfl rfl (by aa) (by aa) (by aa) (by aa) (fun _ _ _ h=>h) (Or.inl ⟨by rfl,?_⟩) (by assumption) ?_
 · intro wq aC; have q:=aC.1.cell 2 _ rfl; simp only[List.length_nil,Nat.zero_add] at q; af
 try simp only[Act.put,List.setIfInBounds_toArray,List.set_cons_zero,List.set_cons_succ];refine last.ae (i:=8) (v:=(.pointer (some ⟨w.heap.size,3,none⟩))) rfl rfl (by aa) (by aa) (by aa) (by aa) (fun _ _ _ h=>h) (Or.inl ⟨by rfl,?_⟩) (by assumption) ?_
 · intro wq aC; af
 try simp only[Act.put,List.setIfInBounds_toArray,List.set_cons_zero,List.set_cons_succ];refine last.ae (i:=9) (v:=(.slice none 0 mc)) rfl rfl (by aa) (by aa) (by aa) (by aa) (fun _ _ _ h=>h) (Or.inl ⟨by rfl,?_⟩) (by assumption) ?_
 · intro wq aC; have q:=aC.1.cell 3 _ rfl; simp only[List.length_nil,Nat.zero_add] at q; af
 try simp only[Act.put,List.setIfInBounds_toArray,List.set_cons_zero,List.set_cons_succ];refine last.ae (i:=11) (v:=(.pointer (some ⟨w.heap.size,4,none⟩))) rfl rfl (by aa) (by aa) (by aa) (by aa) (fun _ _ _ h=>h) (Or.inl ⟨by rfl,?_⟩) (by assumption) ?_
 · intro wq aC; af
 try simp only[Act.put,List.setIfInBounds_toArray,List.set_cons_zero,List.set_cons_succ];refine last.ae (i:=12) (v:=(.slice ha hn hc)) rfl rfl (by aa) (by aa) (by aa) (by aa) (fun _ _ _ h=>h) (Or.inl ⟨by rfl,?_⟩) (by assumption) ?_
 · intro wq aC; have q:=aC.1.cell 4 _ rfl; simp only[List.length_nil,Nat.zero_add] at q; af
 try simp only[Act.put,List.setIfInBounds_toArray,List.set_cons_zero,List.set_cons_succ];refine last.eO (i:=4) (j:=7) (o:=qO22) (o':={dst:=some 10,op:=Op.buildSlice 37 0 #[],type:=37,pos:= "l09_shard.go:125",after:=#[],guard:=none}) (by aa) rfl rfl (fun K hK=> ?wayA) (fun K hK=> ?wayB)
 case' wayA=>
  refine fM.cL rfl 91 (.tmp 6) _ rfl (fun _ _=>rfl) (.slice la ln lc) (by aa) _ (CH.out _ eX) ?_
  rintro e w4 ⟨gl,cl,hl,rfl,vq,eR⟩;refine⟨_,rfl,?_⟩;have eF:=eX.trans (eR.mono eX.size);refine hK.out _ _ ?_ (fun aq=>?_)
  · exact⟨hT.below eF,hR.below eF⟩
  clear hK K al;have al:=aq;clear aq;try simp only[Act.put,List.setIfInBounds_toArray,List.set_cons_zero,List.set_cons_succ];refine last.ax (i:=7) (o:=qO23) (by aa) rfl (fun K hK=>?_)
  af;have dd:Below w4.heap.size w4 (w4.alloc (.cells #[] 100)):=(Below.refl _ _).alloc (Nat.le_refl _) _;have il:=eF.trans (dd.mono eF.size);have sx:=(vq.below dd).mono (base':=W.heap.size) eX.size;have kE:=cB w4 W.heap.size eF.size;refine hK.out _ _ ?_ (fun aq=>?_)
  · exact⟨hT.below il,hR.below il⟩
  clear hK K al;have al:=aq;clear aq;generalize Pg:w4.alloc (.cells #[] 100)=wA at *;generalize Ph:w4.heap.size=g0 at *;clear Pg Ph vq eR eF dd
 case' wayB=>
  af;have dd:Below W.heap.size W (W.drew.alloc (.cells #[] 100)):=eX.alloc eX.size _;have qZ:=cB W.drew W.heap.size (Nat.le_refl _);refine hK.out _ _ ?_ (fun aq=>?_)
  · exact⟨hT.below dd,hR.below dd⟩
  clear hK K al;have al:=aq;clear aq;try simp only[Act.put,List.setIfInBounds_toArray,List.set_cons_zero,List.set_cons_succ];refine last.ax (i:=4) (o:=qO22) (by aa) rfl (fun K hK=>?_)
  refine fM.cL rfl 91 (.tmp 6) _ rfl (fun _ _=>rfl) (.slice la ln lc) (by aa) _ (CH.out _ dd) ?_
  rintro e wA ⟨gl,cl,hl,rfl,vq,eR⟩;refine⟨_,rfl,?_⟩;have il:=dd.trans (eR.mono dd.size);have sx:=vq.mono (base':=W.heap.size) dd.size;have kE:=qZ.below eR;refine hK.out _ _ ?_ (fun aq=>?_)
  · exact⟨hT.below il,hR.below il⟩
  clear hK K al;have al:=aq;clear aq;obtain⟨g0,DD⟩:∃g0,g0=W.heap.size:=⟨_,rfl⟩;have kE:bX wA W.heap.size g0 0 0 []:=by rw[DD]; exact kE
  rw[←DD];clear qZ vq eR dd DD
 bo
  try simp only[Act.put,List.setIfInBounds_toArray,List.set_cons_zero,List.set_cons_succ];refine last.ax (i:=10) (o:=qO24) (by aa) rfl (fun K hK=>?_)
  af;have DE:bX wA W.heap.size g0 0 0 s.2.2.2.1:=by rw[WE.out]; exact kE
  have fQ:=il;have oD:=sx;refine hK.out _ _ ?_ (fun aq=>?_)
  · exact⟨hT.below fQ,hR.below fQ⟩
  clear hK K al;have al:=aq;clear aq;try simp only[Act.put,List.setIfInBounds_toArray,List.set_cons_zero,List.set_cons_succ];refine last.ax (i:=13) (o:=qO25) (by aa) rfl (fun K hK=>?_)
  refine fM.cL rfl 91 (.tmp 15) _ rfl (fun _ _=>rfl) (.slice ha hn hc) (by aa) _ (vn.out _ fQ) ?_
  rintro e WG ⟨gh,ch,hh,rfl,JC,qv⟩;refine⟨_,rfl,?_⟩;have mW:=fQ.trans (qv.mono fQ.size);have cj:=hR.below mW;refine hK.out _ _ ?_ (fun aq=>?_)
  · exact⟨hT.below mW,cj⟩
  clear hK K al;have al:=aq;clear aq;try simp only[Act.put,List.setIfInBounds_toArray,List.set_cons_zero,List.set_cons_succ];refine last.ae (i:=14) (v:=(cd s.1 s.2.2.1 (some ⟨gl,0,none⟩) ln cl (some ⟨g0,0,none⟩) 0 0 (some ⟨gh,0,none⟩) hn ch)) rfl rfl (by aa) (by aa) (by aa) (by aa) (fun _ _ _ h=>h) (Or.inl ⟨by rfl,?_⟩) (by assumption) ?_
  · intro wq aC; af
  try simp only[Act.put,List.setIfInBounds_toArray,List.set_cons_zero,List.set_cons_succ];have z0:=cj.cell 0 _ rfl;have z1:=cj.cell 1 _ rfl;have z2:=cj.cell 2 _ rfl;have z3:=cj.cell 3 _ rfl;have z4:=cj.cell 4 _ rfl;simp only[List.length_nil,Nat.zero_add] at z0 z1 z2 z3 z4;have f0:=cj.fz 0;have f1:=cj.fz 1;have f2:=cj.fz 2;have f3:=cj.fz 3;have f4:=cj.fz 4;refine last.aL (o:=qO26) (by aa) rfl (by aa) (fun K hK=>?_)
  af;refine hK.out _ _ ?_;clear hK K;have cP:=cj.nH (.int .i64 s.1) (.slice (some ⟨gl,0,none⟩) ln cl) (.int .i64 s.2.2.1) (.slice (some ⟨g0,0,none⟩) 0 0) (.slice (some ⟨gh,0,none⟩) hn ch);simp only[List.length_nil,Nat.zero_add] at cP;have ri:∀k,dq (.slice (some ⟨gl,0,none⟩) ln cl) hl k→k<wA.heap.size:=fun k hk=>(oD.lt k hk).2
  have Gm:∀k,dq (.slice (some ⟨gh,0,none⟩) hn ch) hh k→wA.heap.size≤k:=fun k hk=>(JC.lt k hk).1
  obtain⟨F,qN,uj⟩:=rl (B:=W.heap.size) Gl EW (oD.below qv) (DE.below qv) (JC.mono fQ.size) ri Gm;have DF:=qN.keep (w':=_) (fun k hk=>cP.2.block k (qN.lt k hk) (fun e=>by have:=uj k hk; have:=Option.some.inj e; omega))
  have jP:=(hB.trans (mW.mono hB.size)).grown cP.2 (hB.trans (mW.mono hB.size)).size (fun j e=>by cases e; omega)
  have dN:=cP.1.cell 0 _ rfl;have dO:=cP.1.cell 1 _ rfl;have dP:=cP.1.cell 2 _ rfl;have dQ:=cP.1.cell 3 _ rfl;have dR:=cP.1.cell 4 _ rfl;simp only[List.length_nil,Nat.zero_add] at dN dO dP dQ dR;have DG:∀k∈F,w.heap.size≤k:=fun k hk=>by have:=uj k hk; omega
  clear z0 z1 z2 z3 z4 f0 f1 f2 f3 f4;ab fail;refine bodyPost_ret (v:=cd s.1 s.2.2.1 (some ⟨gl,0,none⟩) ln cl (some ⟨g0,0,none⟩) 0 0 (some ⟨gh,0,none⟩) hn ch) ?_ rfl ⟨_,_,_,_,_,_,F,rfl,DF,DG,jP⟩;simp[results,Tryz.results52,go_sem,dN,dO,dP,dQ,dR]
theorem BI(la:Option Addr)(ln lc:Nat)(ad:Addr)(mn mc:Nat)(ha:Option Addr)(hn hc:Nat)(s:de)(w:World)(h:eY w la ln lc (some ad) mn mc ha hn hc s)(hf:wD s.2.1)(we:wD s.2.2.2.2)(wu:ln≤1099511627776)(jA:mn≤1099511627776)(Cw:hn≤1099511627776):
 Calls Tryz.prog 52 #[cd s.1 s.2.2.1 la ln lc (some ad) mn mc ha hn hc] w fun e w'=>∃gl cl gm cm gh ch F,e=.returned (cd s.1 s.2.2.1 (some ⟨gl,0,none⟩) ln cl (some ⟨gm,0,none⟩) mn cm (some ⟨gh,0,none⟩) hn ch)∧
  dn w' (some ⟨gl,0,none⟩) ln cl (some ⟨gm,0,none⟩) mn cm (some ⟨gh,0,none⟩) hn ch s F∧(∀k∈F,w.heap.size≤k)∧Below w.heap.size w w':=by
 obtain⟨i0,jX,dE,dD,cO⟩:=info_parts nt;obtain⟨W,hW⟩:∃W,W=(w.alloc (cA s.1 s.2.2.1 la ln lc (some ad) mn mc ha hn hc)).alloc (cA 0 0 none 0 0 none 0 0 none 0 0):=⟨_,rfl⟩;have bw:Below w.heap.size w (w.alloc (cA s.1 s.2.2.1 la ln lc (some ad) mn mc ha hn hc)):=(Below.refl _ _).alloc (Nat.le_refl _) _;have hB:Below w.heap.size w W:=by rw[hW]; exact bw.alloc bw.size _
 have hT:aD w.heap.size 43 [] (aU s.1 s.2.2.1 la ln lc (some ad) mn mc ha hn hc) [] W:=by rw[hW]; exact(aO w _ _).below ((Below.refl _ _).alloc (Nat.le_refl _) _)
 have hR:aD (w.heap.size+1) 43 [] (aU 0 0 none 0 0 none 0 0 none 0 0) [] W:=by
  rw[hW];have:=aO (w.alloc (cA s.1 s.2.2.1 la ln lc (some ad) mn mc ha hn hc)) (aU 0 0 none 0 0 none 0 0 none 0 0) 43;oU [show(w.alloc (cA s.1 s.2.2.1 la ln lc (some ad) mn mc ha hn hc)).heap.size=w.heap.size+1 by simp] at this
 have Lp:w.heap.size+1<W.heap.size:=hR.lt;have HW:=Hid.mk' hW.symm;clear hW;have CH:=Hid.mk' (fun wx (hx:Below W.heap.size W wx)=>pr la ln lc s.2.1 wx ((h.log.below hB).below hx) wu (fun r hr=>(hf r hr).1))
 have vn:=Hid.mk' (fun wx (hx:Below W.heap.size W wx)=>pr ha hn hc s.2.2.2.2 wx ((h.held.below hB).below hx) Cw (fun r hr=>(we r hr).1))
 have xH:=h.map.1;have fk:=h.map.2.2.1;have WH:Hid (∀wx,Below W.heap.size W wx→∀j u,(aG s.2.2.2.1)[j]? =some u→wx.cell? (ad.add j)=some u):=by
  intro wx hx;rcases Nat.eq_zero_or_pos mn with e | e
  · intro j u hj;have e1:s.2.2.2.1=[]:=List.eq_nil_of_length_eq_zero (by omega)
    rw[e1] at hj; simp[aG] at hj
  · obtain⟨b,off,ha,_⟩:=h.map.2.2.2 e;cases ha;exact da ((h.map.below hB).below hx).cells
 have fR:0+mn≤maxLen:=by unfold maxLen; omega
 have kn:(0+mn) * 32≤140737488355328:=by omega
 have R8:(aG s.2.2.2.1).length=mn * 2:=by rw[bD]; omega
 have Gl:=h.id;have EW:=h.sure;have Lq:=Hid.mk' xH;clear h hf we xH;have eX:Below W.heap.size W W.drew:=(Below.refl _ _).drew;aj Tryz.func52,Tryz.ntmps52;ab fail;rw[HW.out];refine last.aB (S:=fun w'=>aD w.heap.size 43 [] (aU s.1 s.2.2.1 la ln lc (some ad) mn mc ha hn hc) [] w'∧aD (w.heap.size+1) 43 [] (aU 0 0 none 0 0 none 0 0 none 0 0) [] w') 15 (by aa) ⟨hT.below eX,hR.below eX⟩ (fun al=>?_)
 refine last.ae (i:=0) (v:=(.pointer (some ⟨w.heap.size,0,none⟩))) rfl rfl (by aa) (by aa) (by aa) (by aa) (fun _ _ _ h=>h) (Or.inl ⟨by rfl,?_⟩) (by assumption) ?_
 · intro wq aC; af
 try simp only[Act.put,List.setIfInBounds_toArray,List.set_cons_zero,List.set_cons_succ];refine last.ae (i:=1) (v:=(.int .i64 s.1)) rfl rfl (by aa) (by aa) (by aa) (by aa) (fun _ _ _ h=>h) (Or.inl ⟨by rfl,?_⟩) (by assumption) ?_
 · intro wq aC; have q:=aC.1.cell 0 _ rfl; simp only[List.length_nil,Nat.zero_add] at q; af
 try simp only[Act.put,List.setIfInBounds_toArray,List.set_cons_zero,List.set_cons_succ];refine last.ae (i:=2) (v:=(.pointer (some ⟨w.heap.size,1,none⟩))) rfl rfl (by aa) (by aa) (by aa) (by aa) (fun _ _ _ h=>h) (Or.inl ⟨by rfl,?_⟩) (by assumption) ?_
 · intro wq aC; af
 try simp only[Act.put,List.setIfInBounds_toArray,List.set_cons_zero,List.set_cons_succ];refine last.ae (i:=3) (v:=(.slice la ln lc)) rfl rfl (by aa) (by aa) (by aa) (by aa) (fun _ _ _ h=>h) (Or.inl ⟨by rfl,?_⟩) (by assumption) ?_
 · intro wq aC; have q:=aC.1.cell 1 _ rfl; simp only[List.length_nil,Nat.zero_add] at q; af
 try simp only[Act.put,List.setIfInBounds_toArray,List.set_cons_zero,List.set_cons_succ];refine last.ae (i:=5) (v:=(.pointer (some ⟨w.heap.size,2,none⟩))) rfl rfl (by aa) (by aa) (by aa) (by aa) (fun _ _ _ h=>h) (Or.inl ⟨by rfl,?_⟩) (by assumption) ?_
 · intro wq aC; af
 try simp only[Act.put,List.setIfInBounds_toArray,List.set_cons_zero,List.set_cons_succ];refine last.ae (i:=6) (v:=(.int .i64 s.2.2.1)) rfl rfl (by aa) (by aa) (by aa) (by aa) (fun _ _ _ h=>h) (Or.inl ⟨by rfl,?_⟩) (by assumption) ?_
 · intro wq aC; have q:=aC.1.cell 2 _ rfl; simp only[List.length_nil,Nat.zero_add] at q; af
 try simp only[Act.put,List.setIfInBounds_toArray,List.set_cons_zero,List.set_cons_succ];refine last.ae (i:=8) (v:=(.pointer (some ⟨w.heap.size,3,none⟩))) rfl rfl (by aa) (by aa) (by aa) (by aa) (fun _ _ _ h=>h) (Or.inl ⟨by rfl,?_⟩) (by assumption) ?_
 · intro wq aC; af
 try simp only[Act.put,List.setIfInBounds_toArray,List.set_cons_zero,List.set_cons_succ];refine last.ae (i:=9) (v:=(.slice (some ad) mn mc)) rfl rfl (by aa) (by aa) (by aa) (by aa) (fun _ _ _ h=>h) (Or.inl ⟨by rfl,?_⟩) (by assumption) ?_
 · intro wq aC; have q:=aC.1.cell 3 _ rfl; simp only[List.length_nil,Nat.zero_add] at q; af
 try simp only[Act.put,List.setIfInBounds_toArray,List.set_cons_zero,List.set_cons_succ];refine last.ae (i:=11) (v:=(.pointer (some ⟨w.heap.size,4,none⟩))) rfl rfl (by aa) (by aa) (by aa) (by aa) (fun _ _ _ h=>h) (Or.inl ⟨by rfl,?_⟩) (by assumption) ?_
 · intro wq aC; af
 try simp only[Act.put,List.setIfInBounds_toArray,List.set_cons_zero,List.set_cons_succ];refine last.ae (i:=12) (v:=(.slice ha hn hc)) rfl rfl (by aa) (by aa) (by aa) (by aa) (fun _ _ _ h=>h) (Or.inl ⟨by rfl,?_⟩) (by assumption) ?_
 · intro wq aC; have q:=aC.1.cell 4 _ rfl; simp only[List.length_nil,Nat.zero_add] at q; af
 try simp only[Act.put,List.setIfInBounds_toArray,List.set_cons_zero,List.set_cons_succ];refine last.eO (i:=4) (j:=7) (o:=qO22) (o':={dst:=some 10,op:=Op.buildSlice 37 0 #[],type:=37,pos:= "l09_shard.go:125",after:=#[],guard:=none}) (by aa) rfl rfl (fun K hK=> ?wayA) (fun K hK=> ?wayB)
 case' wayA=>
  refine fM.cL rfl 91 (.tmp 6) _ rfl (fun _ _=>rfl) (.slice la ln lc) (by aa) _ (CH.out _ eX) ?_
  rintro e w4 ⟨gl,cl,hl,rfl,vq,eR⟩;refine⟨_,rfl,?_⟩;have eF:=eX.trans (eR.mono eX.size);refine hK.out _ _ ?_ (fun aq=>?_)
  · exact⟨hT.below eF,hR.below eF⟩
  clear hK K al;have al:=aq;clear aq;try simp only[Act.put,List.setIfInBounds_toArray,List.set_cons_zero,List.set_cons_succ];refine last.ax (i:=7) (o:=qO23) (by aa) rfl (fun K hK=>?_)
  af;have dd:Below w4.heap.size w4 (w4.alloc (.cells #[] 100)):=(Below.refl _ _).alloc (Nat.le_refl _) _;have il:=eF.trans (dd.mono eF.size);have sx:=(vq.below dd).mono (base':=W.heap.size) eX.size;have kE:=cB w4 W.heap.size eF.size;refine hK.out _ _ ?_ (fun aq=>?_)
  · exact⟨hT.below il,hR.below il⟩
  clear hK K al;have al:=aq;clear aq;generalize Pg:w4.alloc (.cells #[] 100)=wA at *;generalize Ph:w4.heap.size=g0 at *;clear Pg Ph vq eR eF dd
 case' wayB=>
  af;have dd:Below W.heap.size W (W.drew.alloc (.cells #[] 100)):=eX.alloc eX.size _;have qZ:=cB W.drew W.heap.size (Nat.le_refl _);refine hK.out _ _ ?_ (fun aq=>?_)
  · exact⟨hT.below dd,hR.below dd⟩
  clear hK K al;have al:=aq;clear aq;try simp only[Act.put,List.setIfInBounds_toArray,List.set_cons_zero,List.set_cons_succ];refine last.ax (i:=4) (o:=qO22) (by aa) rfl (fun K hK=>?_)
  refine fM.cL rfl 91 (.tmp 6) _ rfl (fun _ _=>rfl) (.slice la ln lc) (by aa) _ (CH.out _ dd) ?_
  rintro e wA ⟨gl,cl,hl,rfl,vq,eR⟩;refine⟨_,rfl,?_⟩;have il:=dd.trans (eR.mono dd.size);have sx:=vq.mono (base':=W.heap.size) dd.size;have kE:=qZ.below eR;refine hK.out _ _ ?_ (fun aq=>?_)
  · exact⟨hT.below il,hR.below il⟩
  clear hK K al;have al:=aq;clear aq;obtain⟨g0,DD⟩:∃g0,g0=W.heap.size:=⟨_,rfl⟩;have kE:bX wA W.heap.size g0 0 0 []:=by rw[DD]; exact kE
  rw[←DD];clear qZ vq eR dd DD
 bo
  try simp only[Act.put,List.setIfInBounds_toArray,List.set_cons_zero,List.set_cons_succ];refine last.ax (i:=10) (o:=qO24) (by aa) rfl (fun K hK=>?_)
  refine c_ rfl (.tmp 10) (.tmp 12) 37 rfl W.heap.size 100 i0 (.agg #[.string ⟨#[]⟩,.string ⟨#[]⟩]) 2 32 Tryz.underlying37 jX dE dD cO rfl (by decide) _ _ _ rfl kE.2.2 ad mn mc (aG s.2.2.2.1) rfl R8 (WH.out _ il) (aP _) fR kn il.size ?_
  intro v10 xa aK aI db;have cC:¬v10=.slice none 0 0:=fun e=>by have:=(db.1 e).1; cases this
  obtain⟨g10,pX,hv,DE⟩:=dy Lq.out fk cC (by have h9:=aK; simp only[aG,List.flatMap_nil,List.nil_append,Nat.zero_add] at h9; exact h9)
  subst hv;have jW:wA.grownBy xa (some g0):=aI;have fQ:=il.grown jW il.size (fun k e=>by cases e; exact kE.lt.1)
  have oD:=sx.grown jW (sx.ui kE);refine hK.out _ _ ?_ (fun aq=>?_)
  · exact⟨hT.below fQ,hR.below fQ⟩
  clear hK K al;have al:=aq;clear aq;clear aK aI jW db cC;try simp only[Act.put,List.setIfInBounds_toArray,List.set_cons_zero,List.set_cons_succ];refine last.ax (i:=13) (o:=qO25) (by aa) rfl (fun K hK=>?_)
  refine fM.cL rfl 91 (.tmp 15) _ rfl (fun _ _=>rfl) (.slice ha hn hc) (by aa) _ (vn.out _ fQ) ?_
  rintro e WG ⟨gh,ch,hh,rfl,JC,qv⟩;refine⟨_,rfl,?_⟩;have mW:=fQ.trans (qv.mono fQ.size);have cj:=hR.below mW;refine hK.out _ _ ?_ (fun aq=>?_)
  · exact⟨hT.below mW,cj⟩
  clear hK K al;have al:=aq;clear aq;try simp only[Act.put,List.setIfInBounds_toArray,List.set_cons_zero,List.set_cons_succ];refine last.ae (i:=14) (v:=(cd s.1 s.2.2.1 (some ⟨gl,0,none⟩) ln cl (some ⟨g10,0,none⟩) mn pX (some ⟨gh,0,none⟩) hn ch)) rfl rfl (by aa) (by aa) (by aa) (by aa) (fun _ _ _ h=>h) (Or.inl ⟨by rfl,?_⟩) (by assumption) ?_
  · intro wq aC; af
  try simp only[Act.put,List.setIfInBounds_toArray,List.set_cons_zero,List.set_cons_succ];have z0:=cj.cell 0 _ rfl;have z1:=cj.cell 1 _ rfl;have z2:=cj.cell 2 _ rfl;have z3:=cj.cell 3 _ rfl;have z4:=cj.cell 4 _ rfl;simp only[List.length_nil,Nat.zero_add] at z0 z1 z2 z3 z4;have f0:=cj.fz 0;have f1:=cj.fz 1;have f2:=cj.fz 2;have f3:=cj.fz 3;have f4:=cj.fz 4;refine last.aL (o:=qO26) (by aa) rfl (by aa) (fun K hK=>?_)
  af;refine hK.out _ _ ?_;clear hK K;have cP:=cj.nH (.int .i64 s.1) (.slice (some ⟨gl,0,none⟩) ln cl) (.int .i64 s.2.2.1) (.slice (some ⟨g10,0,none⟩) mn pX) (.slice (some ⟨gh,0,none⟩) hn ch);simp only[List.length_nil,Nat.zero_add] at cP;have ri:∀k,dq (.slice (some ⟨gl,0,none⟩) ln cl) hl k→k<xa.heap.size:=fun k hk=>(oD.lt k hk).2
  have Gm:∀k,dq (.slice (some ⟨gh,0,none⟩) hn ch) hh k→xa.heap.size≤k:=fun k hk=>(JC.lt k hk).1
  obtain⟨F,qN,uj⟩:=rl (B:=W.heap.size) Gl EW (oD.below qv) (DE.below qv) (JC.mono fQ.size) ri Gm;have DF:=qN.keep (w':=_) (fun k hk=>cP.2.block k (qN.lt k hk) (fun e=>by have:=uj k hk; have:=Option.some.inj e; omega))
  have jP:=(hB.trans (mW.mono hB.size)).grown cP.2 (hB.trans (mW.mono hB.size)).size (fun j e=>by cases e; omega)
  have dN:=cP.1.cell 0 _ rfl;have dO:=cP.1.cell 1 _ rfl;have dP:=cP.1.cell 2 _ rfl;have dQ:=cP.1.cell 3 _ rfl;have dR:=cP.1.cell 4 _ rfl;simp only[List.length_nil,Nat.zero_add] at dN dO dP dQ dR;have DG:∀k∈F,w.heap.size≤k:=fun k hk=>by have:=uj k hk; omega
  clear z0 z1 z2 z3 z4 f0 f1 f2 f3 f4;ab fail;refine bodyPost_ret (v:=cd s.1 s.2.2.1 (some ⟨gl,0,none⟩) ln cl (some ⟨g10,0,none⟩) mn pX (some ⟨gh,0,none⟩) hn ch) ?_ rfl ⟨_,_,_,_,_,_,F,rfl,DF,DG,jP⟩;simp[results,Tryz.results52,go_sem,dN,dO,dP,dQ,dR]
theorem MM(la:Option Addr)(ln lc:Nat)(ma:Option Addr)(mn mc:Nat)(ha:Option Addr)(hn hc:Nat)(s:de)(w:World)(h:eY w la ln lc ma mn mc ha hn hc s)(hf:wD s.2.1)(we:wD s.2.2.2.2)(wu:ln≤1099511627776)(jA:mn≤1099511627776)(Cw:hn≤1099511627776):
 Calls Tryz.prog 52 #[cd s.1 s.2.2.1 la ln lc ma mn mc ha hn hc] w fun e w'=>∃gl cl gm cm gh ch F,e=.returned (cd s.1 s.2.2.1 (some ⟨gl,0,none⟩) ln cl (some ⟨gm,0,none⟩) mn cm (some ⟨gh,0,none⟩) hn ch)∧
  dn w' (some ⟨gl,0,none⟩) ln cl (some ⟨gm,0,none⟩) mn cm (some ⟨gh,0,none⟩) hn ch s F∧(∀k∈F,w.heap.size≤k)∧Below w.heap.size w w':=by
 cases ma with
 | none=>exact D1 la ln lc mn mc ha hn hc s w h hf we wu jA Cw
 | some ad=>exact BI la ln lc ad mn mc ha hn hc s w h hf we wu jA Cw
end bm
namespace bm
open Go Go.RowKit base aE aX dG gO lay
theorem rD{w w':World}{la ma ha:Option Addr}{ln lc mn mc hn hc:Nat}{s:de}{F:List Nat}(h:dn w' la ln lc ma mn mc ha hn hc s F)(hF:∀k∈F,w.heap.size≤k)(hb:Below w.heap.size w w'):Af w s (.returned (cd s.1 s.2.2.1 la ln lc ma mn mc ha hn hc)) w':=
 ⟨la,ln,lc,ma,mn,mc,ha,hn,hc,F,rfl,h,hF,hb⟩
theorem wG(la:Option Addr)(ln lc:Nat)(ma:Option Addr)(mn mc:Nat)(ha:Option Addr)(hn hc:Nat)(s:de)(w:World)(h:eY w la ln lc ma mn mc ha hn hc s)(hb:xz s):
 Calls Tryz.prog 21 #[cd s.1 s.2.2.1 la ln lc ma mn mc ha hn hc] w (Af w (bW s)):=by
 obtain⟨b1,b2,b3⟩:=eY.jS h hb;obtain⟨l1,l2,l3⟩:=eY.lens h;obtain⟨W,hW⟩:∃W,(w.alloc (cA s.1 s.2.2.1 la ln lc ma mn mc ha hn hc)).alloc (cA 0 0 none 0 0 none 0 0 none 0 0)=W:=⟨_,rfl⟩;have bw:Below w.heap.size w (w.alloc (cA s.1 s.2.2.1 la ln lc ma mn mc ha hn hc)):=gn;have hB:Below w.heap.size w W:=by rw[←hW]; exact bw.alloc bw.size _
 have hA:aD w.heap.size 43 [] (aU s.1 s.2.2.1 la ln lc ma mn mc ha hn hc) [] W:=by rw[←hW]; exact(aO w _ _).below gn
 have hR:aD (w.heap.size+1) 43 [] (aU 0 0 none 0 0 none 0 0 none 0 0) [] W:=by
  rw[←hW];have:=aO (w.alloc (cA s.1 s.2.2.1 la ln lc ma mn mc ha hn hc)) (aU 0 0 none 0 0 none 0 0 none 0 0) 43;oU [show(w.alloc (cA s.1 s.2.2.1 la ln lc ma mn mc ha hn hc)).heap.size=w.heap.size+1 by simp] at this
 have Lp:w.heap.size+1<W.heap.size:=hR.lt;have HW:=Hid.mk' hW;have a0:=hA.cell 0 _ rfl;have a1:=hA.cell 1 _ rfl;have a2:=hA.cell 2 _ rfl;have a3:=hA.cell 3 _ rfl;have a4:=hA.cell 4 _ rfl;simp only[List.length_nil,Nat.zero_add] at a0 a1 a2 a3 a4;rw[←hW] at a0 a1 a2 a3 a4;have Kc:=Hid.mk' (Bj la ln lc ma mn mc ha hn hc s W (h.below hB) hb.jS hb.Ag (by omega) (by omega) (by omega))
 have fl:=Hid.mk' (fun wx (hx:Below w.heap.size w wx)=>qO la ln lc ma mn mc ha hn hc s wx (h.below hx) hb.jS)
 have PT:(Lit.int .i64 (s.2.1.length:Int)).wf=true:=by
  simp[Lit.wf,IntKind.min,IntKind.max,IntKind.signed,IntKind.bits]; have:=hb.log; omega
 have pn:=Hid.mk' l1;have Xv:=h.sure;clear hW l1 l2 l3 h bw;aj Tryz.func21,Tryz.ntmps21;ab fail;rw[HW.out];refine Kc.out.mono ?_;rintro e w1 ⟨gl,cl,gm,cm,gh,ch,F,rfl,gK,tn,a_⟩;have fi:=hB.trans (a_.mono hB.size);obtain⟨v1,o8⟩:∃v1,w1.alloc (cA s.1 s.2.2.1 (some ⟨gl,0,none⟩) ln cl (some ⟨gm,0,none⟩) mn cm (some ⟨gh,0,none⟩) hn ch)=v1:=⟨_,rfl⟩;have gL:Below w1.heap.size w1 v1:=by rw[←o8]; exact gn
 have wo:=lR gK;rw[o8] at wo;have pL:=(hA.below a_).below gL;have pH:=(hR.below a_).below gL;have MN:=fi.trans (gL.mono fi.size);have DP:=a_.size;clear a0 a1 a2 a3 a4 HW Kc gK;have a0:=pL.cell 0 _ rfl;have a1:=pL.cell 1 _ rfl;have a2:=pL.cell 2 _ rfl;have a3:=pL.cell 3 _ rfl;have a4:=pL.cell 4 _ rfl;simp only[List.length_nil,Nat.zero_add] at a0 a1 a2 a3 a4;rw[←o8] at a0 a1 a2 a3 a4;have BG:=Hid.mk' o8;have Kd:=Hid.mk' (fl.out v1 MN);clear o8 fl;ab fail;rw[BG.out];refine Kd.out.mono ?_;rintro e w2 ⟨rfl,be⟩;have fm:=wo.below be;have dh:=pL.below be;have dF:=pH.below be;have dL:=MN.trans (be.mono MN.size);have H6:∀k∈F,W.heap.size≤k:=tn;have sC:w.heap.size+1≠w1.heap.size:=by omega
 clear a0 a1 a2 a3 a4 BG Kd wo pL pH MN gL be;cases bR:bV s with
 | false=>
  obtain⟨q0,q1,q2,q3,q4⟩:=fm.cells;have z0:=dF.cell 0 _ rfl;have z1:=dF.cell 1 _ rfl;have z2:=dF.cell 2 _ rfl;have z3:=dF.cell 3 _ rfl;have z4:=dF.cell 4 _ rfl;simp only[List.length_nil,Nat.zero_add] at z0 z1 z2 z3 z4;have f0:=dF.fz 0;have f1:=dF.fz 1;have f2:=dF.fz 2;have f3:=dF.fz 3;have f4:=dF.fz 4;have cP:=dF.nH (.int .i64 s.1) (.slice (some ⟨gl,0,none⟩) ln cl) (.int .i64 s.2.2.1) (.slice (some ⟨gm,0,none⟩) mn cm) (.slice (some ⟨gh,0,none⟩) hn ch);simp only[List.length_nil,Nat.zero_add] at cP;have jL:=fm.own.keep (fun j hj=>cP.2.block j (fm.own.lt j hj) (fun e=>by have:=H6 j hj; have:=Option.some.inj e; omega))
  have jP:=dL.grown cP.2 dL.size (fun j e=>by cases e; omega)
  have dN:=cP.1.cell 0 _ rfl;have dO:=cP.1.cell 1 _ rfl;have dP:=cP.1.cell 2 _ rfl;have dQ:=cP.1.cell 3 _ rfl;have dR:=cP.1.cell 4 _ rfl;simp only[List.length_nil,Nat.zero_add] at dN dO dP dQ dR;have PU:Hid (bW s=s):=by show _=_; unfold bW; rw[bR]; rfl
  have HP:=Hid.mk' (rD (s:=s) jL (fun k hk=>Nat.le_trans hB.size (H6 k hk)) jP)
  clear jL jP cP fm dF dh;ab fail;refine bodyPost_ret (v:=cd s.1 s.2.2.1 (some ⟨gl,0,none⟩) ln cl (some ⟨gm,0,none⟩) mn cm (some ⟨gh,0,none⟩) hn ch) ?_ rfl (by rw[PU.out]; exact HP.out)
  simp[results,Tryz.results21,go_sem,dN,dO,dP,dQ,dR]
 | true=>
  have n2:=fm.box.set 2 (by simp[aU]) (.int .i64 (ln:Int))
  simp only[List.length_nil,Nat.zero_add] at n2;have nN:E6 (w2.setCell ⟨w1.heap.size,2,none⟩ (.int .i64 (ln:Int))) w1.heap.size (some ⟨gl,0,none⟩) ln cl (some ⟨gm,0,none⟩) mn cm (some ⟨gh,0,none⟩) hn ch (s.1,s.2.1,(ln:Int),s.2.2.2.1,s.2.2.2.2) F:=by
   have ew:=fm.own.keep (fun j hj=>n2.2.block j (fm.own.lt j hj) (fun e=>fm.out (by rw[←Option.some.inj e]; exact hj)))
   exact⟨n2.1,⟨ew.id,by rw[←pn.out]; exact PT,ew.log,ew.map,ew.nodup⟩,fm.out⟩
  have cR:=dF.grown n2.2 (by simp; omega)
  have cY:=dL.grown n2.2 dL.size (fun j e=>by cases e; omega)
  have y1:=fm.cells.2.1;have y2:=fm.cells.2.2.1;have g2:=fm.box.fz 2;obtain⟨q0,q1,q2,q3,q4⟩:=nN.cells;have z0:=cR.cell 0 _ rfl;have z1:=cR.cell 1 _ rfl;have z2:=cR.cell 2 _ rfl;have z3:=cR.cell 3 _ rfl;have z4:=cR.cell 4 _ rfl;simp only[List.length_nil,Nat.zero_add] at z0 z1 z2 z3 z4;have f0:=cR.fz 0;have f1:=cR.fz 1;have f2:=cR.fz 2;have f3:=cR.fz 3;have f4:=cR.fz 4;have cP:=cR.nH (.int .i64 s.1) (.slice (some ⟨gl,0,none⟩) ln cl) (.int .i64 (ln:Int)) (.slice (some ⟨gm,0,none⟩) mn cm) (.slice (some ⟨gh,0,none⟩) hn ch);simp only[List.length_nil,Nat.zero_add] at cP;have jL:=nN.own.keep (fun j hj=>cP.2.block j (nN.own.lt j hj) (fun e=>by have:=H6 j hj; have:=Option.some.inj e; omega))
  have jP:=cY.grown cP.2 cY.size (fun j e=>by cases e; omega)
  have dN:=cP.1.cell 0 _ rfl;have dO:=cP.1.cell 1 _ rfl;have dP:=cP.1.cell 2 _ rfl;have dQ:=cP.1.cell 3 _ rfl;have dR:=cP.1.cell 4 _ rfl;simp only[List.length_nil,Nat.zero_add] at dN dO dP dQ dR;have PU:Hid (bW s=(s.1,s.2.1,(ln:Int),s.2.2.2.1,s.2.2.2.2)):=by show _=_; unfold bW; rw[bR,←pn.out]; rfl
  have HP:=Hid.mk' (rD (s:=(s.1,s.2.1,(ln:Int),s.2.2.2.1,s.2.2.2.2)) jL (fun k hk=>Nat.le_trans hB.size (H6 k hk)) jP)
  clear jL jP cP fm dF dh nN cR;ab fail;refine bodyPost_ret (v:=cd s.1 (ln:Int) (some ⟨gl,0,none⟩) ln cl (some ⟨gm,0,none⟩) mn cm (some ⟨gh,0,none⟩) hn ch) ?_ rfl (by rw[PU.out]; exact HP.out)
  simp[results,Tryz.results21,go_sem,dN,dO,dP,dQ,dR]
theorem wF(la:Option Addr)(ln lc:Nat)(ma:Option Addr)(mn mc:Nat)(ha:Option Addr)(hn hc:Nat)(s:de)(w:World)(h:eY w la ln lc ma mn mc ha hn hc s)(gI:kx w la ln)(hb:xz s):
 Calls Tryz.prog 18 #[cd s.1 s.2.2.1 la ln lc ma mn mc ha hn hc] w (Af w (bW s)):=by
 obtain⟨b1,b2,b3⟩:=eY.jS h hb;obtain⟨l1,l2,l3⟩:=eY.lens h;obtain⟨W,hW⟩:∃W,(w.alloc (cA s.1 s.2.2.1 la ln lc ma mn mc ha hn hc)).alloc (cA 0 0 none 0 0 none 0 0 none 0 0)=W:=⟨_,rfl⟩;have bw:Below w.heap.size w (w.alloc (cA s.1 s.2.2.1 la ln lc ma mn mc ha hn hc)):=gn;have hB:Below w.heap.size w W:=by rw[←hW]; exact bw.alloc bw.size _
 have hA:aD w.heap.size 43 [] (aU s.1 s.2.2.1 la ln lc ma mn mc ha hn hc) [] W:=by rw[←hW]; exact(aO w _ _).below gn
 have hR:aD (w.heap.size+1) 43 [] (aU 0 0 none 0 0 none 0 0 none 0 0) [] W:=by
  rw[←hW];have:=aO (w.alloc (cA s.1 s.2.2.1 la ln lc ma mn mc ha hn hc)) (aU 0 0 none 0 0 none 0 0 none 0 0) 43;oU [show(w.alloc (cA s.1 s.2.2.1 la ln lc ma mn mc ha hn hc)).heap.size=w.heap.size+1 by simp] at this
 have Lp:w.heap.size+1<W.heap.size:=hR.lt;have HW:=Hid.mk' hW;have a0:=hA.cell 0 _ rfl;have a1:=hA.cell 1 _ rfl;have a2:=hA.cell 2 _ rfl;have a3:=hA.cell 3 _ rfl;have a4:=hA.cell 4 _ rfl;simp only[List.length_nil,Nat.zero_add] at a0 a1 a2 a3 a4;rw[←hW] at a0 a1 a2 a3 a4;have Kc:=Hid.mk' (MM la ln lc ma mn mc ha hn hc s W (h.below hB) hb.jS hb.Ag (by omega) (by omega) (by omega))
 have fl:=Hid.mk' (fun wx (hx:Below w.heap.size w wx)=>qQ la ln lc ma mn mc ha hn hc s wx (h.below hx) (tm h.log gI hx) hb.jS (by omega) (by omega))
 have PT:(Lit.int .i64 (s.2.1.length:Int)).wf=true:=by
  simp[Lit.wf,IntKind.min,IntKind.max,IntKind.signed,IntKind.bits]; have:=hb.log; omega
 have pn:=Hid.mk' l1;have Xv:=h.sure;clear hW l1 l2 l3 h bw;aj Tryz.func18,Tryz.ntmps18;ab fail;rw[HW.out];refine Kc.out.mono ?_;rintro e w1 ⟨gl,cl,gm,cm,gh,ch,F,rfl,gK,tn,a_⟩;have fi:=hB.trans (a_.mono hB.size);obtain⟨v1,o8⟩:∃v1,w1.alloc (cA s.1 s.2.2.1 (some ⟨gl,0,none⟩) ln cl (some ⟨gm,0,none⟩) mn cm (some ⟨gh,0,none⟩) hn ch)=v1:=⟨_,rfl⟩;have gL:Below w1.heap.size w1 v1:=by rw[←o8]; exact gn
 have wo:=lR gK;rw[o8] at wo;have pL:=(hA.below a_).below gL;have pH:=(hR.below a_).below gL;have MN:=fi.trans (gL.mono fi.size);have DP:=a_.size;clear a0 a1 a2 a3 a4 HW Kc gK;have a0:=pL.cell 0 _ rfl;have a1:=pL.cell 1 _ rfl;have a2:=pL.cell 2 _ rfl;have a3:=pL.cell 3 _ rfl;have a4:=pL.cell 4 _ rfl;simp only[List.length_nil,Nat.zero_add] at a0 a1 a2 a3 a4;rw[←o8] at a0 a1 a2 a3 a4;have BG:=Hid.mk' o8;have Kd:=Hid.mk' (fl.out v1 MN);clear o8 fl;ab fail;rw[BG.out];refine Kd.out.mono ?_;rintro e w2 ⟨rfl,be⟩;have fm:=wo.below be;have dh:=pL.below be;have dF:=pH.below be;have dL:=MN.trans (be.mono MN.size);have H6:∀k∈F,W.heap.size≤k:=tn;have sC:w.heap.size+1≠w1.heap.size:=by omega
 clear a0 a1 a2 a3 a4 BG Kd wo pL pH MN gL be;cases bR:bV s with
 | false=>
  obtain⟨q0,q1,q2,q3,q4⟩:=fm.cells;have z0:=dF.cell 0 _ rfl;have z1:=dF.cell 1 _ rfl;have z2:=dF.cell 2 _ rfl;have z3:=dF.cell 3 _ rfl;have z4:=dF.cell 4 _ rfl;simp only[List.length_nil,Nat.zero_add] at z0 z1 z2 z3 z4;have f0:=dF.fz 0;have f1:=dF.fz 1;have f2:=dF.fz 2;have f3:=dF.fz 3;have f4:=dF.fz 4;have cP:=dF.nH (.int .i64 s.1) (.slice (some ⟨gl,0,none⟩) ln cl) (.int .i64 s.2.2.1) (.slice (some ⟨gm,0,none⟩) mn cm) (.slice (some ⟨gh,0,none⟩) hn ch);simp only[List.length_nil,Nat.zero_add] at cP;have jL:=fm.own.keep (fun j hj=>cP.2.block j (fm.own.lt j hj) (fun e=>by have:=H6 j hj; have:=Option.some.inj e; omega))
  have jP:=dL.grown cP.2 dL.size (fun j e=>by cases e; omega)
  have dN:=cP.1.cell 0 _ rfl;have dO:=cP.1.cell 1 _ rfl;have dP:=cP.1.cell 2 _ rfl;have dQ:=cP.1.cell 3 _ rfl;have dR:=cP.1.cell 4 _ rfl;simp only[List.length_nil,Nat.zero_add] at dN dO dP dQ dR;have PU:Hid (bW s=s):=by show _=_; unfold bW; rw[bR]; rfl
  have HP:=Hid.mk' (rD (s:=s) jL (fun k hk=>Nat.le_trans hB.size (H6 k hk)) jP)
  clear jL jP cP fm dF dh;ab fail;refine bodyPost_ret (v:=cd s.1 s.2.2.1 (some ⟨gl,0,none⟩) ln cl (some ⟨gm,0,none⟩) mn cm (some ⟨gh,0,none⟩) hn ch) ?_ rfl (by rw[PU.out]; exact HP.out)
  simp[results,Tryz.results18,go_sem,dN,dO,dP,dQ,dR]
 | true=>
  have n2:=fm.box.set 2 (by simp[aU]) (.int .i64 (ln:Int))
  simp only[List.length_nil,Nat.zero_add] at n2;have nN:E6 (w2.setCell ⟨w1.heap.size,2,none⟩ (.int .i64 (ln:Int))) w1.heap.size (some ⟨gl,0,none⟩) ln cl (some ⟨gm,0,none⟩) mn cm (some ⟨gh,0,none⟩) hn ch (s.1,s.2.1,(ln:Int),s.2.2.2.1,s.2.2.2.2) F:=by
   have ew:=fm.own.keep (fun j hj=>n2.2.block j (fm.own.lt j hj) (fun e=>fm.out (by rw[←Option.some.inj e]; exact hj)))
   exact⟨n2.1,⟨ew.id,by rw[←pn.out]; exact PT,ew.log,ew.map,ew.nodup⟩,fm.out⟩
  have cR:=dF.grown n2.2 (by simp; omega)
  have cY:=dL.grown n2.2 dL.size (fun j e=>by cases e; omega)
  have y1:=(by have q:=dh.cell 1 _ rfl; simpa only[List.length_nil,Nat.zero_add] using q:w2.cell? ⟨w.heap.size,1,none⟩=some (.slice la ln lc))
  have y2:=fm.cells.2.2.1;have g2:=fm.box.fz 2;obtain⟨q0,q1,q2,q3,q4⟩:=nN.cells;have z0:=cR.cell 0 _ rfl;have z1:=cR.cell 1 _ rfl;have z2:=cR.cell 2 _ rfl;have z3:=cR.cell 3 _ rfl;have z4:=cR.cell 4 _ rfl;simp only[List.length_nil,Nat.zero_add] at z0 z1 z2 z3 z4;have f0:=cR.fz 0;have f1:=cR.fz 1;have f2:=cR.fz 2;have f3:=cR.fz 3;have f4:=cR.fz 4;have cP:=cR.nH (.int .i64 s.1) (.slice (some ⟨gl,0,none⟩) ln cl) (.int .i64 (ln:Int)) (.slice (some ⟨gm,0,none⟩) mn cm) (.slice (some ⟨gh,0,none⟩) hn ch);simp only[List.length_nil,Nat.zero_add] at cP;have jL:=nN.own.keep (fun j hj=>cP.2.block j (nN.own.lt j hj) (fun e=>by have:=H6 j hj; have:=Option.some.inj e; omega))
  have jP:=cY.grown cP.2 cY.size (fun j e=>by cases e; omega)
  have dN:=cP.1.cell 0 _ rfl;have dO:=cP.1.cell 1 _ rfl;have dP:=cP.1.cell 2 _ rfl;have dQ:=cP.1.cell 3 _ rfl;have dR:=cP.1.cell 4 _ rfl;simp only[List.length_nil,Nat.zero_add] at dN dO dP dQ dR;have PU:Hid (bW s=(s.1,s.2.1,(ln:Int),s.2.2.2.1,s.2.2.2.2)):=by show _=_; unfold bW; rw[bR,←pn.out]; rfl
  have HP:=Hid.mk' (rD (s:=(s.1,s.2.1,(ln:Int),s.2.2.2.1,s.2.2.2.2)) jL (fun k hk=>Nat.le_trans hB.size (H6 k hk)) jP)
  clear jL jP cP fm dF dh nN cR;ab fail;refine bodyPost_ret (v:=cd s.1 (ln:Int) (some ⟨gl,0,none⟩) ln cl (some ⟨gm,0,none⟩) mn cm (some ⟨gh,0,none⟩) hn ch) ?_ rfl (by rw[PU.out]; exact HP.out)
  simp[results,Tryz.results18,go_sem,dN,dO,dP,dQ,dR]
end bm
namespace cos
open Go Go.RowKit base lay
/-! ### types without slices -/
structure Flat {α:Type} (R:Rd α) (enc:α→List Value) (ok:α→Prop):Prop where
 own:∀ {w vs x F},R.own w vs x F↔vs=enc x∧ok x∧F=[]
 fo:∀ {w vs x},R.fo w vs x↔vs=enc x∧ok x
theorem aV:Flat int (fun x=>[.int .i64 x]) (fun x=>(Lit.int .i64 x).wf=true):=
 ⟨fun{_ _ _ _}=>⟨fun h=>⟨h.1.1,h.1.2,h.2⟩,fun h=>⟨⟨h.1,h.2.1⟩,h.2.2⟩⟩,fun{_ _ _}=>Iff.rfl⟩
theorem pj:Flat bool (fun x=>[.bool x]) (fun _=>True):=
 ⟨fun{_ _ _ _}=>⟨fun h=>⟨h.1,trivial,h.2⟩,fun h=>⟨h.1,h.2.2⟩⟩,fun{_ _ _}=>⟨fun h=>⟨h,trivial⟩,fun h=>h.1⟩⟩
theorem kA:Flat str (fun x=>[.string x]) (fun x=>x.size≤maxLen):=
 ⟨fun{_ _ _ _}=>⟨fun h=>⟨h.1.1,h.1.2,h.2⟩,fun h=>⟨⟨h.1,h.2.1⟩,h.2.2⟩⟩,fun{_ _ _}=>Iff.rfl⟩
theorem jm{α β:Type}{R:Rd α}{S:Rd β}{e1:α→List Value}{e2:β→List Value}{o1:α→Prop}{o2:β→Prop}(h1:Flat R e1 o1)(h2:Flat S e2 o2):Flat (both R S) (fun x=>e1 x.1++e2 x.2) (fun x=>o1 x.1∧o2 x.2):=by
 constructor
 · intro w vs x F;constructor
   · rintro⟨us,ts,F1,F2,rfl,rfl,h3,h4,_⟩;obtain⟨rfl,k1,rfl⟩:=h1.own.1 h3;obtain⟨rfl,k2,rfl⟩:=h2.own.1 h4;exact⟨rfl,⟨k1,k2⟩,rfl⟩
   · rintro⟨rfl,⟨k1,k2⟩,rfl⟩;exact⟨_,_,[],[],rfl,rfl,h1.own.2 ⟨rfl,k1,rfl⟩,h2.own.2 ⟨rfl,k2,rfl⟩,List.nodup_nil⟩
 · intro w vs x;constructor
   · rintro⟨us,ts,rfl,h3,h4⟩;obtain⟨rfl,k1⟩:=h1.fo.1 h3;obtain⟨rfl,k2⟩:=h2.fo.1 h4;exact⟨rfl,k1,k2⟩
   · rintro⟨rfl,k1,k2⟩;exact⟨_,_,rfl,h1.fo.2 ⟨rfl,k1⟩,h2.fo.2 ⟨rfl,k2⟩⟩
section
variable{α:Type}{R:Rd α}{enc:α→List Value}{ok:α→Prop}{ty:TypeId}{w:World}{v:Value}{l:List α}{q:dY}{F:List Nat}
theorem Flat.parts(hR:Flat R enc ok)(h:bz ty R w v l q):q=l.map (fun x=>(enc x,[]))∧(∀x∈l,ok x)∧aw q=[]∧cellsOf q=l.flatMap enc:=by
 have hl:=h.len;have e:q=l.map (fun x=>(enc x,[])):=by
  refine List.ext_getElem (by simp[hl]) fun i h1 h2=>?_
  have h3:=hR.own.1 (h.each i (by omega))
  rw[List.getElem_map];exact Prod.ext h3.1 h3.2.2
 refine⟨e,fun x hx=>?_,?_,?_⟩
 · obtain⟨i,hi,rfl⟩:=List.getElem_of_mem hx;exact(hR.own.1 (h.each i hi)).2.1
 · rw[e]; unfold aw; rw[List.flatMap_map]; simp
 · rw[e]; unfold cellsOf; rw[List.flatMap_map]
theorem Flat.row(hR:Flat R enc ok)(h:bz ty R w v l q):w.ownsRow 0 ty R.size v l.length (l.flatMap enc):=by
 rw[←(hR.parts h).2.2.2]; exact h.row
theorem Flat.made(hR:Flat R enc ok)(hr:w.ownsRow 0 ty R.size v l.length (l.flatMap enc))(bR:∀x∈l,ok x):bz ty R w v l (l.map (fun x=>(enc x,[]))):=by
 have e1:cellsOf (l.map (fun x=>(enc x,([]:List Nat))))=l.flatMap enc:=by unfold cellsOf; rw[List.flatMap_map]
 have e2:aw (l.map (fun x=>(enc x,([]:List Nat))))=[]:=by unfold aw; rw[List.flatMap_map]; simp
 refine⟨by simp,by rw[e1]; exact hr,fun i hi=>?_,by rw[e2]; cases v.ownBlock <;> simp⟩
 simp only[List.getElem_map];exact hR.own.2 ⟨rfl,bR _ (List.getElem_mem _),rfl⟩
theorem Flat.slice(hR:Flat R enc ok):(lay.slice ty R).own w [v] l F↔w.ownsRow 0 ty R.size v l.length (l.flatMap enc)∧(∀x∈l,ok x)∧F=v.ownBlock.toList:=by
 constructor
 · rintro⟨v',q,e,rfl,h⟩;cases e;exact⟨hR.row h,(hR.parts h).2.1,by rw[(hR.parts h).2.2.1,List.append_nil]⟩
 · rintro⟨h1,h2,rfl⟩;have h3:=hR.made h1 h2;exact⟨v,_,rfl,by rw[(hR.parts h3).2.2.1,List.append_nil],h3⟩
end
end cos
namespace lh
open Go Go.RowKit base aE aX
/-! ### a slice of orders of the call's own, or nil -/
def cS(w:World)(base:Nat)(v:Value)(l:List Od):Prop:=(∀p∈l,ed p)∧w.ownsRow base 121 3 v l.length (aW l)
section
variable{w w':World}{base base':Nat}{v:Value}{l:List Od}{row:Option Nat}
theorem Aq(w:World)(base:Nat):cS w base (.slice none 0 0) []:=⟨fun _ h=>absurd h List.not_mem_nil,World.ownsRow_nil _ _ _ _⟩
theorem fK{g n cap:Nat}(h:ck w base g n cap l):cS w base (.slice (some ⟨g,0,none⟩) n cap) l:=⟨h.2.1,by rw[h.1]; exact h.2.2⟩
theorem cS.shape(h:cS w base v l):(v=.slice none 0 0∧l=[])∨∃g cap,v=.slice (some ⟨g,0,none⟩) l.length cap∧ck w base g l.length cap l:=by
 rcases h.2.2 with⟨rfl,h0⟩ | ⟨g,cap,cur,rfl,_⟩
 · exact .inl ⟨rfl,List.eq_nil_of_length_eq_zero h0⟩
 · exact .inr ⟨g,cap,rfl,rfl,h.1,h.2⟩
theorem cS.lt(h:cS w base v l)(k:Nat)(hk:v.ownBlock=some k):base≤k∧k<w.heap.size:=h.2.lt k hk
theorem cS.cc(h:cS w base v l)(hk:∀k,v.ownBlock=some k→w'.heap[k]? =w.heap[k]?):cS w' base v l:=by
 refine⟨h.1,h.2.1,?_⟩;rcases h.2.2 with h' | ⟨g,cap,cur,rfl,h0,hg,r⟩
 · exact .inl h'
 · exact .inr ⟨g,cap,cur,rfl,h0,(hk g rfl).trans hg,r⟩
theorem cS.below(h:cS w base v l)(hb:Below w.heap.size w w'):cS w' base v l:=h.cc fun k hk=>hb.block k (h.lt k hk).2
theorem cS.grown(h:cS w base v l)(hg:w.grownBy w' row)(bh:v.ownBlock=none∨v.ownBlock≠row):cS w' base v l:=
 h.cc fun k hk=>hg.block k (h.lt k hk).2 (fun e=>by
  rcases bh with h1 | h1
  · rw[hk] at h1; cases h1
  · exact h1 (hk.trans e))
theorem cS.mono(h:cS w base v l)(hb:base'≤base):cS w base' v l:=by
 refine⟨h.1,h.2.1,?_⟩;rcases h.2.2 with h' | ⟨g,cap,cur,rfl,h0,r⟩
 · exact .inl h'
 · exact .inr ⟨g,cap,cur,rfl,by omega,r⟩
theorem cS.sl(h:cS w base v l):∃a cap,v=.slice a l.length cap∧dS w a l.length l∧l.length≤cap:=by
 rcases h.shape with⟨rfl,rfl⟩ | ⟨g,cap,rfl,hO⟩
 · exact⟨none,0,rfl,uc _ _,Nat.le_refl _⟩
 · exact⟨_,cap,rfl,hO.sl,hO.cases.1⟩
theorem cS.one(h:cS w base v l):v.oneCell'=true:=by
 rcases h.shape with⟨rfl,_⟩ | ⟨g,cap,rfl,_⟩ <;> rfl
end
end lh
namespace cos
open Go Go.RowKit base aE aX
abbrev Jb:=Int × List Od × Int × List Int
abbrev Ch:=Int × Bool
abbrev Co:=Int × Int × Int × List Jb × List Ch × Int
def fx(l:List Ch)(tx:Int):Option Nat:=l.findIdx? fun c=>decide (c.1=tx)
def p5(l:List Jb)(tx:Int):Option Nat:=l.findIdx? fun j=>decide (j.1=tx)
def idx(r:Option Nat):Int:=match r with | none=> -1 | some k=>(k:Int)
def choice(l:List Ch)(tx:Int):Option Bool:=(l.find? fun c=>decide (c.1=tx)).map fun c=>c.2
def dZ(list:List Int):Option Int→List Int→Bool
 | _,[]=>true
 | p,x::r=>(decide (x∈list) && match p with | none=>true | some q=>decide (q<x)) && dZ list (some x) r
def fN(st:Int):Option Bool→Bool
 | none=>decide (st=1)
 | some true=>decide (st=2)
 | some false=>decide (st=3)
def eT(n av next:Int)(log:List Ch)(p:Option Int)(j:Jb):Bool:=
 decide (av * 1000≤j.1∧j.1≤av * 1000+next - 1) && (match p with | none=>true | some q=>decide (q<j.1)) && b_ j.2.1 && decide (1≤j.2.2.1∧j.2.2.1≤3) && dZ (aM n j.2.1) none j.2.2.2 && fN j.2.2.1 (choice log j.1)
def eQ(n av next:Int)(log:List Ch):Option Int→List Jb→Bool
 | _,[]=>true
 | p,j::r=>eT n av next log p j && eQ n av next log (some j.1) r
def di(hi:Int)(log:List Ch):Bool:=log.all (fun c=>decide (1000≤c.1∧c.1≤hi)) && decide ((log.map fun c=>c.1).Nodup)
def Ke(c:Co):Bool:=decide (1≤c.1∧c.1≤8) && decide (1≤c.2.1∧c.2.1≤900) && decide (0≤c.2.2.1∧c.2.2.1≤999) && decide (c.2.2.2.2.1.length≤1000) && decide (0≤c.2.2.2.2.2∧c.2.2.2.2.2≤(c.2.2.2.2.1.length:Int))
def bt(c:Co):Bool:=Ke c && di (c.2.1 * 1000+c.2.2.1 - 1) c.2.2.2.2.1 && eQ c.1 c.2.1 c.2.2.1 c.2.2.2.2.1 none c.2.2.2.1
/-! ### places -/
theorem tp{α:Type}(p:α→Bool)(l:List α)(k:Nat)(hk:k≤l.length)(h:∀i (hi:i<k),p (l[i]'(by omega))=false):l.findIdx? p=((l.drop k).findIdx? p).map (· +k):=by
 induction k generalizing l with
 | zero=>simp
 | succ k ih=>
  cases l with
  | nil=>simp at hk
  | cons x l=>
   have h0:p x=false:=h 0 (by omega)
   rw[List.findIdx?_cons,h0];simp only[Bool.false_eq_true,if_false,List.drop_succ_cons];rw[ih l (by simpa using hk) (fun i hi=>by simpa using h (i+1) (by omega))]
   cases(l.drop k).findIdx? p <;> simp[Nat.add_assoc]
theorem lj{α:Type}{p:α→Bool}{l:List α}{k:Nat}(hk:k<l.length)(h:∀i (hi:i<k),p (l[i]'(by omega))=false)(hp:p l[k]=true):l.findIdx? p=some k:=by
 rw[tp p l k (by omega) h,List.drop_eq_getElem_cons hk,List.findIdx?_cons,hp]
 simp
theorem m6{α:Type}{p:α→Bool}{l:List α}(h:∀i (hi:i<l.length),p l[i]=false):l.findIdx? p=none:=by
 rw[tp p l l.length (Nat.le_refl _) (fun i hi=>h i hi),List.drop_length]
 rfl
theorem j6{α:Type}{p:α→Bool}{l:List α}{k:Nat}(h:l.findIdx? p=some k):∃hk:k<l.length,p l[k]=true∧∀i (hi:i<k),p (l[i]'(by omega))=false:=by
 induction l generalizing k with
 | nil=>simp at h
 | cons x l ih=>
  rw[List.findIdx?_cons] at h;cases hx:p x
  · rw[hx] at h;simp only[Bool.false_eq_true,if_false] at h;cases h2:l.findIdx? p with
    | none=>rw[h2] at h; cases h
    | some j=>
     rw[h2] at h;simp only[Option.map_some,Option.some.injEq] at h;subst h;obtain⟨hj,hp,hb⟩:=ih h2;refine⟨by simp; omega,by simpa using hp,fun i hi=>?_⟩
     cases i with
     | zero=>exact hx
     | succ i=>simpa using hb i (by omega)
  · rw[hx] at h;simp only[if_true,Option.some.injEq] at h;subst h;exact⟨by simp,hx,fun i hi=>absurd hi (by omega)⟩
theorem tq{α:Type}{p:α→Bool}{l:List α}:(∀k,l.findIdx? p=some k→∃hk:k<l.length,l.find? p=some l[k])∧(l.findIdx? p=none→l.find? p=none):=by
 induction l with
 | nil=>exact⟨fun k h=>by simp at h,fun _=>rfl⟩
 | cons x l ih=>
  constructor
  · intro k h;rw[List.findIdx?_cons] at h;cases hx:p x
    · rw[hx] at h;simp only[Bool.false_eq_true,if_false] at h;cases h2:l.findIdx? p with
      | none=>rw[h2] at h; cases h
      | some j=>
       rw[h2] at h;simp only[Option.map_some,Option.some.injEq] at h;subst h;obtain⟨hj,e⟩:=ih.1 j h2;exact⟨by simp; omega,by rw[List.find?_cons,hx]; simpa using e⟩
    · rw[hx] at h;simp only[if_true,Option.some.injEq] at h;subst h;exact⟨by simp,by rw[List.find?_cons,hx]; rfl⟩
  · intro h;rw[List.findIdx?_cons] at h;cases hx:p x
    · rw[hx] at h;simp only[Bool.false_eq_true,if_false,Option.map_eq_none_iff] at h;rw[List.find?_cons,hx];exact ih.2 h
    · rw[hx] at h; cases h
theorem oH{log:List Ch}{tx:Int}{k:Nat}(h:fx log tx=some k):∃hk:k<log.length,choice log tx=some log[k].2:=by
 obtain⟨hk,e⟩:=tq.1 k h;exact⟨hk,by unfold choice; rw[e]; rfl⟩
theorem tr{log:List Ch}{tx:Int}(h:fx log tx=none):choice log tx=none:=by
 unfold choice; rw[tq.2 h]; rfl
theorem nodup_iff{log:List Ch}:(log.map fun c=>c.1).Nodup↔∀i (hi:i<log.length),fx log log[i].1=some i:=by
 constructor
 · intro h i hi;refine lj hi (fun j hj=>decide_eq_false fun e=>?_) (decide_eq_true rfl)
   have:=List.pairwise_iff_getElem.1 h j i (by simp; omega) (by simpa using hi) hj
   simp only[List.getElem_map] at this;exact this e
 · intro h;refine List.pairwise_iff_getElem.2 fun i j hi hj hij=>?_
   simp only[List.getElem_map];intro e;simp only[List.length_map] at hi hj;have h1:=h j hj;rw[←e,h i hi] at h1;simp only[Option.some.injEq] at h1;omega
end cos
end Go.Proofs.YtmibabclefgljaaGreat
