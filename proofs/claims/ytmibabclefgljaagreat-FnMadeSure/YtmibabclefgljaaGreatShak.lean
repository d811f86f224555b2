/- RecZi -/
import Derived.Test.YtmibabclefgljaaGreatShaj
set_option linter.unusedVariables false
set_option linter.unusedSimpArgs false
namespace Go.Proofs.YtmibabclefgljaaGreat
open Go in
abbrev qO5:Oper:={dst:=some 115,op:=Op.buildSlice 41 0 #[],type:=41,pos:= "l08_record.go:135",after:=#[],guard:=none}
open Go in
abbrev qO6:Oper:={dst:=some 122,op:=Op.call {callee:=Callee.builtin Builtin.append,args:=#[Operand.tmp 115,Operand.tmp 121],argTypes:=#[41,41]},type:=41,pos:= "l08_record.go:135",after:=#[{on:=1,ground:=Ground.data},{on:=7,ground:=Ground.data}],guard:=none}
open Go in
abbrev qO7:Oper:={dst:=some 130,op:=Op.call {callee:=Callee.builtin Builtin.append,args:=#[Operand.tmp 122,Operand.tmp 129],argTypes:=#[41,41]},type:=41,pos:= "l08_record.go:135",after:=#[{on:=8,ground:=Ground.data},{on:=15,ground:=Ground.data},{on:=8,ground:=Ground.chain}],guard:=none}
open Go in
abbrev qO8:Oper:={dst:=some 131,op:=Op.nilCheck (Operand.tmp 114),type:=0,pos:= "l08_record.go:135",after:=#[{on:=0,ground:=Ground.data},{on:=0,ground:=Ground.phase},{on:=1,ground:=Ground.phase},{on:=2,ground:=Ground.phase},{on:=3,ground:=Ground.phase},{on:=4,ground:=Ground.phase},{on:=5,ground:=Ground.phase},{on:=6,ground:=Ground.phase},{on:=7,ground:=Ground.phase},{on:=8,ground:=Ground.phase},{on:=9,ground:=Ground.phase},{on:=10,ground:=Ground.phase},{on:=11,ground:=Ground.phase},{on:=12,ground:=Ground.phase},{on:=13,ground:=Ground.phase},{on:=14,ground:=Ground.phase},{on:=15,ground:=Ground.phase},{on:=16,ground:=Ground.phase}],guard:=none}
open Go in
abbrev qO9:Oper:={dst:=none,op:=Op.store 41 (Operand.tmp 132) (Operand.tmp 130),type:=0,pos:= "l08_record.go:135",after:=#[{on:=18,ground:=Ground.data},{on:=16,ground:=Ground.data},{on:=16,ground:=Ground.chain},{on:=0,ground:=Ground.phase},{on:=1,ground:=Ground.phase},{on:=2,ground:=Ground.phase},{on:=3,ground:=Ground.phase},{on:=4,ground:=Ground.phase},{on:=5,ground:=Ground.phase},{on:=6,ground:=Ground.phase},{on:=7,ground:=Ground.phase},{on:=8,ground:=Ground.phase},{on:=9,ground:=Ground.phase},{on:=10,ground:=Ground.phase},{on:=11,ground:=Ground.phase},{on:=12,ground:=Ground.phase},{on:=13,ground:=Ground.phase},{on:=14,ground:=Ground.phase},{on:=15,ground:=Ground.phase},{on:=16,ground:=Ground.phase}],guard:=none}
namespace bm
open Go Go.RowKit base aE aX
theorem sq{w:World}{base base':Nat}{e:TypeId}{size:Nat}{v:Value}{n:Nat}{xs:List Value}(h:w.ownsRow base e size v n xs)(hb:base'≤base):w.ownsRow base' e size v n xs:=by
 refine⟨h.1,?_⟩;rcases h.2 with h' | ⟨g,cap,cur,rfl,h0,r⟩
 · exact .inl h'
 · exact .inr ⟨g,cap,cur,rfl,by omega,r⟩
set_option maxRecDepth 100000 in
set_option maxHeartbeats 4000000 in
theorem EP(N:Prop)(w0:World)(F0:List Nat)(w:World)(X:Nat)(am:Option Addr)(nm cm:Nat)(ah:Option Addr)(ch:Nat)(vs:Value)(s:St)(hs:List Value)(tx:Int)(a:Option Addr)(len cap:Nat)(ops:List Od)
 (hK:Kept N w0 F0 w X am nm cm ah ch vs s hs) (dT:dS w a len ops) (dV:∀p∈ops,p.2.1.size≤1099511627776) (bR:bu (3,tx,ops)=true) (k:Nat) (Ln:s.2.1.length≤1099511627776) (gI:aR tx s.2.1=some k) (AS:s.1.length≤60):
 Calls Tryz.prog 98 #[.pointer (some ⟨X,0,none⟩),.agg #[.int .i64 3,.int .i64 tx,.slice a len cap]] w (gG N w0 F0 X (some (s.1,s.2.1.take k++s.2.1.drop (k+1),s.2.2))):=by
 obtain⟨i0,hi,dE,dD,cO⟩:=info_parts mR;have kS:=jq gI;obtain⟨gh,rfl⟩:∃gh,ah=some ⟨gh,0,none⟩:=by
  rcases hK.held.shape with⟨_,e,_⟩ | ⟨g,c,e,_⟩
  · rw[e] at kS; cases kS
  · cases e; exact⟨g,rfl⟩
 have vf:=hK.held.len;have ZF:=hK.held.room;have nL:k+1≤s.2.1.length:=kS;have FO:(bk (s.2.1.take k) (hs.take k)).length=k * 3:=by rw[ee _ _ (by simp[vf])]; simp; omega
 have pE:(bk (s.2.1.drop (k+1)) (hs.drop (k+1))).length=(s.2.1.length - (k+1)) * 3:=by rw[ee _ _ (by simp[vf])]; simp
 have A7:∀y∈hs.take k,y.oneCell'=true:=fun y hy=>hK.held.one y (List.mem_of_mem_take hy)
 have A8:∀y∈hs.drop (k+1),y.oneCell'=true:=fun y hy=>hK.held.one y (List.mem_of_mem_drop hy)
 have fR:0+k≤maxLen:=by unfold maxLen; omega
 have kn:(0+k) * 40≤140737488355328:=by omega
 have jx:k+(s.2.1.length - (k+1))≤maxLen:=by unfold maxLen; omega
 have eU:(k+(s.2.1.length - (k+1))) * 40≤140737488355328:=by omega
 have UZ:maxLen=9223372036854775807:=rfl;obtain⟨ad,ER⟩:∃ad:Addr,(if ch=k+1 then some (⟨gh,0,none⟩:Addr) else some ⟨gh,(k+1) * 3,none⟩)=some ad:=by split <;> exact⟨_,rfl⟩
 have Sk:Hid (∀wq:World,bB wq 0 (.slice (some ⟨gh,0,none⟩) s.2.1.length ch) s.2.1 hs→∀j u,(bk (s.2.1.drop (k+1)) (hs.drop (k+1)))[j]? =some u→wq.cell? (ad.add j)=some u):=by
  intro wq hq j u hu
  split at ER
  · have:s.2.1.drop (k+1)=[]:=List.drop_eq_nil_of_le (by omega)
    rw[this] at hu;simp[bk] at hu
  · cases ER;exact hq.sk (k+1) nL j u hu
 have Sm:=Hid.mk' ER;clear ER;have fZ:(k:Int)<(s.2.1.length:Int):=by omega
 have Cn:¬(k:Int)<0:=by omega
 obtain⟨sa,sc,jT,zf⟩:=hK.seen.sl;subst jT;obtain⟨V,hV⟩:∃V,V=w.alloc (.cells #[.int .i64 3,.int .i64 tx,.slice a len cap] 98):=⟨_,rfl⟩;have fv:Below w.heap.size w V:=by rw[hV]; exact(Below.refl _ _).alloc (Nat.le_refl _) _
 have bI:dt w.heap.size 3 tx (.slice a len cap) V:=by rw[hV]; exact cG _ _ _ _
 have g_:=hK.below fv;have jf:=g_.box.lt;have mg:=bI.lt;have y1:=last.On.cell (B:=V.heap.size) g_.box.cells.2.1 jf;have y2:=last.On.cell (B:=V.heap.size) bI.cells.2.1 mg;have lP:∀x9:last.On V.heap.size V,Calls Tryz.prog 137 #[.slice (some ⟨gh,0,none⟩) s.2.1.length ch,.int .i64 tx] x9.w fun e w'=>e=.returned (.int .i64 (fL (aR tx s.2.1)))∧∃y9:last.On V.heap.size V,w'=y9.w:=fun x9=>last.Calls.on x9 (Nat.le_refl _) ((eA _ _ ch s.2.1 tx x9.w (g_.held.below x9.2).sl).mono (fun e w' h=>⟨h.1,h.2 ▸ Below.refl _ _⟩))
 have br:=last.On.iq V.heap.size V;have HV:=Hid.mk' hV.symm;clear hV;rw[gI,show fL (some k)=(k:Int) from rfl] at lP
 aj Tryz.func98,Tryz.ntmps98;ab fail;rw[HV.out];refine last.ar V.heap.size (by aa) (by aa) ?_
 repeat(ai ((ao 137; ag exact lP _)))
 refine wpQuiet_nil ?_;intro w1 bL;obtain⟨x1,bL⟩:=bL;have a_:Below V.heap.size V w1:=by rw[bL]; exact x1.2
 clear bL x1;have dM:=bI.below a_;have wV:=g_.below a_;have fl:=Hid.mk' (eh 3 tx a len cap ops w1 ((dT.below fv).below a_) dV);obtain⟨d0,d1,d2⟩:=dM.cells;clear y1 y2 lP br;ab fail;refine fl.out.mono ?_;rintro e w2 ⟨rfl,be⟩;rw[bR];have fy:=wV.below be;have cv:=dM.below be;have nG:=((dT.below fv).below a_).below be;have pI:=((zf.below fv).below a_).below be;clear d0 d1 d2 fl HV dM bI g_ jf mg;obtain⟨d0,d1,d2⟩:=cv.cells;have wy:Below w2.heap.size w2 w2.drew:=(Below.refl _ _).drew;ab fail;refine last.aB (S:=fun w'=>gE X (.slice am nm cm) (.slice (some ⟨gh,0,none⟩) s.2.1.length ch) (.slice sa s.2.2.length sc) w') 19 (by aa) (fy.box.below wy) (fun al=>?_)
 refine last.ae (i:=0) (v:=(.pointer (some ⟨X,0,none⟩))) rfl rfl (by aa) (by aa) (by aa) (by aa) (fun _ _ _ h=>h) (Or.inl ⟨by rfl,?_⟩) (by assumption) ?_
 · intro wq aC; af
 try simp only[Act.put,List.setIfInBounds_toArray,List.set_cons_zero,List.set_cons_succ];refine last.ae (i:=2) (v:=(.pointer (some ⟨X,0,none⟩))) rfl rfl (by aa) (by aa) (by aa) (by aa) (fun _ _ _ h=>h) (Or.inl ⟨by rfl,?_⟩) (by assumption) ?_
 · intro wq aC; af
 try simp only[Act.put,List.setIfInBounds_toArray,List.set_cons_zero,List.set_cons_succ];refine last.ae (i:=3) (v:=(.pointer (some ⟨X,0,none⟩))) rfl rfl (by aa) (by aa) (by aa) (by aa) (fun _ _ _ h=>h) (Or.inl ⟨by rfl,?_⟩) (by assumption) ?_
 · intro wq aC; af
 try simp only[Act.put,List.setIfInBounds_toArray,List.set_cons_zero,List.set_cons_succ];refine last.ae (i:=4) (v:=(.pointer (some ⟨X,1,none⟩))) rfl rfl (by aa) (by aa) (by aa) (by aa) (fun _ _ _ h=>h) (Or.inl ⟨by rfl,?_⟩) (by assumption) ?_
 · intro wq aC; af
 try simp only[Act.put,List.setIfInBounds_toArray,List.set_cons_zero,List.set_cons_succ];refine last.ae (i:=5) (v:=(.slice (some ⟨gh,0,none⟩) s.2.1.length ch)) rfl rfl (by aa) (by aa) (by aa) (by aa) (fun _ _ _ h=>h) (Or.inl ⟨by rfl,?_⟩) (by assumption) ?_
 · intro wq aC; have q:=aC.cells.2.1; af
 try simp only[Act.put,List.setIfInBounds_toArray,List.set_cons_zero,List.set_cons_succ];refine last.ae (i:=6) (v:=(.int .i64 (k:Int))) rfl rfl (by aa) (by aa) (by aa) (by aa) (fun _ _ _ h=>h) (Or.inl ⟨by rfl,?_⟩) (by assumption) ?_
 · intro wq aC; af
 try simp only[Act.put,List.setIfInBounds_toArray,List.set_cons_zero,List.set_cons_succ];refine last.ae (i:=7) (v:=(.slice (some ⟨gh,0,none⟩) k ch)) rfl rfl (by aa) (by aa) (by aa) (by aa) (fun _ _ _ h=>h) (Or.inl ⟨by rfl,?_⟩) (by assumption) ?_
 · intro wq aC; af; exact fun h=>absurd h (by omega)
 try simp only[Act.put,List.setIfInBounds_toArray,List.set_cons_zero,List.set_cons_succ];refine last.ae (i:=9) (v:=(.pointer (some ⟨X,0,none⟩))) rfl rfl (by aa) (by aa) (by aa) (by aa) (fun _ _ _ h=>h) (Or.inl ⟨by rfl,?_⟩) (by assumption) ?_
 · intro wq aC; af
 try simp only[Act.put,List.setIfInBounds_toArray,List.set_cons_zero,List.set_cons_succ];refine last.ae (i:=10) (v:=(.pointer (some ⟨X,0,none⟩))) rfl rfl (by aa) (by aa) (by aa) (by aa) (fun _ _ _ h=>h) (Or.inl ⟨by rfl,?_⟩) (by assumption) ?_
 · intro wq aC; af
 try simp only[Act.put,List.setIfInBounds_toArray,List.set_cons_zero,List.set_cons_succ];refine last.ae (i:=11) (v:=(.pointer (some ⟨X,1,none⟩))) rfl rfl (by aa) (by aa) (by aa) (by aa) (fun _ _ _ h=>h) (Or.inl ⟨by rfl,?_⟩) (by assumption) ?_
 · intro wq aC; af
 try simp only[Act.put,List.setIfInBounds_toArray,List.set_cons_zero,List.set_cons_succ];refine last.ae (i:=12) (v:=(.slice (some ⟨gh,0,none⟩) s.2.1.length ch)) rfl rfl (by aa) (by aa) (by aa) (by aa) (fun _ _ _ h=>h) (Or.inl ⟨by rfl,?_⟩) (by assumption) ?_
 · intro wq aC; have q:=aC.cells.2.1; af
 try simp only[Act.put,List.setIfInBounds_toArray,List.set_cons_zero,List.set_cons_succ];refine last.ae (i:=13) (v:=(.int .i64 (k:Int))) rfl rfl (by aa) (by aa) (by aa) (by aa) (fun _ _ _ h=>h) (Or.inl ⟨by rfl,?_⟩) (by assumption) ?_
 · intro wq aC; af
 try simp only[Act.put,List.setIfInBounds_toArray,List.set_cons_zero,List.set_cons_succ];refine last.ae (i:=14) (v:=(.int .i64 ((k:Int)+1))) rfl rfl (by aa) (by aa) (by aa) (by aa) (fun _ _ _ h=>h) (Or.inl ⟨by rfl,?_⟩) (by assumption) ?_
 · intro wq aC; af; rw[IntKind.wrap_i64]; omega
 try simp only[Act.put,List.setIfInBounds_toArray,List.set_cons_zero,List.set_cons_succ];refine last.ae (i:=15) (v:=(.slice (some ad) (s.2.1.length - (k+1)) (ch - (k+1)))) rfl rfl (by aa) (by aa) (by aa) (by aa) (fun _ _ _ h=>h) (Or.inl ⟨by rfl,?_⟩) (by assumption) ?_
 · intro wq aC; af; rw[if_pos ⟨by omega,by omega⟩,Sm.out]
 try simp only[Act.put,List.setIfInBounds_toArray,List.set_cons_zero,List.set_cons_succ];refine last.ax (i:=1) (o:=qO5) (by aa) rfl (fun K hK=>?_)
 af;have xT:Below w2.heap.size w2 (w2.drew.alloc (.cells #[] 98)):=wy.alloc wy.size _;have NK:=fy.below xT;have qZ:(w2.drew.alloc (.cells #[] 98)).ownsRow w2.heap.size 98 3 (.slice (some ⟨w2.heap.size,0,none⟩) 0 0) 0 []:=World.ownsRow_made w2.drew #[] 0 (Nat.le_refl _) (Nat.zero_le _) rfl;refine hK.out _ _ ?_ (fun aq=>?_)
 · exact NK.box
 clear hK K al;have al:=aq;clear aq;try simp only[Act.put,List.setIfInBounds_toArray,List.set_cons_zero,List.set_cons_succ];refine last.ax (i:=8) (o:=qO6) (by aa) rfl (fun K hK=>?_)
 refine c_ rfl (.tmp 115) (.tmp 121) 41 rfl w2.heap.size 98 i0 (.agg #[.int .i64 0,.int .i64 0,.slice none 0 0]) 3 40 Tryz.underlying41 hi dE dD cO rfl (by decide) _ _ _ rfl qZ ⟨gh,0,none⟩ k ch (bk (s.2.1.take k) (hs.take k)) rfl FO (NK.held.sj k) (ev _ _ A7) fR kn xT.size ?_
 intro vp wp jG ox A9;simp only[Nat.zero_add,List.nil_append] at jG;obtain⟨gp,cp,Sn⟩:=jo jG (fun e=>by have:=(A9.1 e).1; cases this)
 subst Sn;have xN:(w2.drew.alloc (.cells #[] 98)).grownBy wp (some w2.heap.size):=ox;have ES:Below w2.heap.size w2 wp:=xT.grown xN xT.size (fun j e=>by cases e; exact Nat.le_refl _)
 have Jv:=fy.below ES;refine hK.out _ _ ?_ (fun aq=>?_)
 · exact Jv.box
 clear hK K al;have al:=aq;clear aq;try simp only[Act.put,List.setIfInBounds_toArray,List.set_cons_zero,List.set_cons_succ];refine last.ax (i:=16) (o:=qO7) (by aa) rfl (fun K hK=>?_)
 refine c_ rfl (.tmp 122) (.tmp 129) 41 rfl w2.heap.size 98 i0 (.agg #[.int .i64 0,.int .i64 0,.slice none 0 0]) 3 40 Tryz.underlying41 hi dE dD cO rfl (by decide) _ _ _ rfl jG ad (s.2.1.length - (k+1)) (ch - (k+1)) (bk (s.2.1.drop (k+1)) (hs.drop (k+1))) rfl pE (Sk.out _ Jv.held) (ev _ _ A8) jx eU ES.size ?_
 intro vr wr k_ oy A_;obtain⟨gr,cr,Sp⟩:=jo k_ (fun e=>by have:=(A_.1 e).1; cases this)
 subst Sp;have jW:wp.grownBy wr (some gp):=oy;have mU:Below w2.heap.size w2 wr:=ES.grown jW ES.size (fun j e=>by cases e; exact(jG.lt gp rfl).1)
 have ET:=fy.below mU;have nO:=bB.erase (l:=s.2.1) (hs:=hs) fy.held mU k kS (g':=gr) (c':=cr) (n':=k+(s.2.1.length - (k+1))) (by omega) (by
  have h9:=k_;rw[←fY _ _ _ _ (by simp[vf])] at h9
  exact sq h9 (Nat.zero_le _))
 refine hK.out _ _ ?_ (fun aq=>?_)
 · exact ET.box
 clear hK K al;have al:=aq;clear aq;try simp only[Act.put,List.setIfInBounds_toArray,List.set_cons_zero,List.set_cons_succ];refine last.ax (i:=17) (o:=qO8) (by aa) rfl (fun K hK=>?_)
 af;refine hK.out _ _ ?_ (fun aq=>?_)
 · exact al
 clear hK K al;have al:=aq;clear aq;try simp only[Act.put,List.setIfInBounds_toArray,List.set_cons_zero,List.set_cons_succ];refine last.ae (i:=18) (v:=(.pointer (some ⟨X,1,none⟩))) rfl rfl (by aa) (by aa) (by aa) (by aa) (fun _ _ _ h=>h) (Or.inl ⟨by rfl,?_⟩) (by assumption) ?_
 · intro wq aC; af
 try simp only[Act.put,List.setIfInBounds_toArray,List.set_cons_zero,List.set_cons_succ];have er:=ET.box.cells.2.1;have fr:=ET.box.fz 1;refine last.aL (o:=qO9) (by aa) rfl (by aa) (fun K hK=>?_)
 af;refine hK.out _ _ ?_;clear hK K;have Jw:w0.heap.size≤gr:=Nat.le_trans fy.fr.size (k_.lt gr rfl).1;have EU:=ET.cut nO Jw (fun y hy=>by
  rcases List.mem_append.1 hy with e | e
  · exact List.mem_of_mem_take e
  · exact List.mem_of_mem_drop e)
 have Sq:(s.2.1.take k++s.2.1.drop (k+1)).length=k+(s.2.1.length - (k+1)):=by simp; omega
 rw[Sq] at EU;generalize Sr:wr.setCell ⟨X,1,none⟩ (.slice (some ⟨gr,0,none⟩) (k+(s.2.1.length - (k+1))) cr)=wz at *;clear Sr nO k_ jG jW xN ox oy A9 A_ er fr al qZ;have Jx:Kept N w0 F0 wz X am nm cm (some ⟨gr,0,none⟩) cr (.slice sa s.2.2.length sc) (s.1,s.2.1.take k++s.2.1.drop (k+1),s.2.2) (hs.take k++hs.drop (k+1)):=EU;have ND:s.1.length=nm:=EU.m.1;obtain⟨u0,_,_⟩:=EU.box.cells;have zY:(nm:Int)≤60:=by omega
 ab fail;an;exact⟨rfl,_,_,_,_,_,_,_,Jx⟩
end bm
end Go.Proofs.YtmibabclefgljaaGreat
