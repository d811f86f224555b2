/- RecZf RecZg RecZh -/
import Derived.Test.YtmibabclefgljaaGreatShai
set_option linter.unusedVariables false
set_option linter.unusedSimpArgs false
set_option maxRecDepth 100000
set_option maxHeartbeats 4000000
namespace Go.Proofs.YtmibabclefgljaaGreat
open Go in
abbrev qO1:Oper:={dst:=some 90,op:=Op.buildSlice 54 1 #[(0,Operand.tmp 89)],type:=54,pos:= "l08_record.go:129",after:=#[{on:=6,ground:=Ground.data}],guard:=none}
open Go in
abbrev qO2:Oper:={dst:=some 91,op:=Op.call {callee:=Callee.builtin Builtin.append,args:=#[Operand.tmp 87,Operand.tmp 90],argTypes:=#[54,54]},type:=54,pos:= "l08_record.go:129",after:=#[{on:=4,ground:=Ground.data},{on:=7,ground:=Ground.data}],guard:=none}
open Go in
abbrev qO3:Oper:={dst:=some 92,op:=Op.nilCheck (Operand.tmp 83),type:=0,pos:= "l08_record.go:129",after:=#[{on:=0,ground:=Ground.data},{on:=0,ground:=Ground.phase},{on:=1,ground:=Ground.phase},{on:=2,ground:=Ground.phase},{on:=3,ground:=Ground.phase},{on:=4,ground:=Ground.phase},{on:=5,ground:=Ground.phase},{on:=6,ground:=Ground.phase},{on:=7,ground:=Ground.phase},{on:=8,ground:=Ground.phase}],guard:=none}
open Go in
abbrev qO4:Oper:={dst:=none,op:=Op.store 54 (Operand.tmp 93) (Operand.tmp 91),type:=0,pos:= "l08_record.go:129",after:=#[{on:=10,ground:=Ground.data},{on:=8,ground:=Ground.data},{on:=8,ground:=Ground.chain},{on:=0,ground:=Ground.phase},{on:=1,ground:=Ground.phase},{on:=2,ground:=Ground.phase},{on:=3,ground:=Ground.phase},{on:=4,ground:=Ground.phase},{on:=5,ground:=Ground.phase},{on:=6,ground:=Ground.phase},{on:=7,ground:=Ground.phase},{on:=8,ground:=Ground.phase}],guard:=none}
namespace fM
open Go Go.RowKit
theorem cL{P:Program}{ops:Array Oper}{o:Oper}{a:Act}{w:World}{K:Act→World→Prop}{Q:Exit→Act→World→Prop}{E:Prop}(qV:o.guard=none)(f:FuncId)(x:Operand)(ts:Array TypeId)
 (ho:o.op=.call {callee:=.value (.func f),args:=#[x],argTypes:=ts}) (vc:∀args w,(callFunc f args).run P w=.ok (.enter f args) w)
 (v1:Value) (h1:a.eval x=v1) (R:Ending→World→Prop) (hc:Calls P f #[v1] w R)
 (h:∀e w',R e w'→∃v,e=.returned v∧K (a.put o.dst v) w'):
 if Region.wanted o (yielded ops a.tmps)=true then Oper.wp P o a w K Q else E:=by
 have hw:Region.wanted o (yielded ops a.tmps)=true:=by simp[Region.wanted,qV]
 rw[if_pos hw];unfold Oper.wp execOp;have hf:a.eval (.func f)=.func (.func f) #[] #[]:=rfl;have Jr:(Deferred.ofValue (Value.func (Fn.func f) #[] #[]) #[v1]).run P w=.ok {target:=.fn (.func f) #[],args:=#[v1]} w:=rfl;simp only[ho,resolve,invoke,Sem.run_bind,List.map_toArray,List.map_cons,List.map_nil,h1,hf,Jr,Result.andThen_ok,vc];show Calls P f #[v1] w _;exact hc.mono (fun e w' he=>by obtain⟨v,rfl,hr⟩:=h e w' he; exact hr)
end fM
namespace bm
open Go Go.RowKit base aE aX
theorem jo{w:World}{base:Nat}{e:TypeId}{size:Nat}{v:Value}{n:Nat}{xs:List Value}(h:w.ownsRow base e size v n xs)(h0:¬v=.slice none 0 0):∃g c,v=.slice (some ⟨g,0,none⟩) n c:=by
 rcases h.2 with⟨h',_⟩ | ⟨g,c,cur,rfl,_⟩
 · exact absurd h' h0
 · exact⟨g,c,rfl⟩
theorem EO{N:Prop}{w0 w:World}{F0:List Nat}{X nm cm ch:Nat}{am ah:Option Addr}{vs:Value}{m:List Pr}{l:List Rc}{x:Rc}{z:List Int}{hs:List Value}(h:Kept N w0 F0 w X am nm cm ah ch vs (m,l++[x],z) hs):gE X (.slice am nm cm) (.slice ah (l.length+1) ch) vs w:=by
 have:=h.box;simpa using this
theorem A4(N:Prop)(w0:World)(F0:List Nat)(w:World)(X:Nat)(am:Option Addr)(nm cm:Nat)(ah:Option Addr)(ch:Nat)(vs:Value)(s:St)(hs:List Value)(tx:Int)(a:Option Addr)(len cap:Nat)(ops:List Od)
 (hK:Kept N w0 F0 w X am nm cm ah ch vs s hs) (dT:dS w a len ops) (dV:∀p∈ops,p.2.1.size≤1099511627776) (bR:bu (1,tx,ops)=true) (xK:iA (1,tx,ops)) (hlen:len≤1099511627776) (Ln:s.2.1.length≤1099511627776) (y6:s.2.2.length≤1099511627776) (h1:decide (tx∈s.2.2)=false) (h2:locked s.2.1 ops=false) (h3:meets s.1 ops=true):
 Calls Tryz.prog 98 #[.pointer (some ⟨X,0,none⟩),.agg #[.int .i64 1,.int .i64 tx,.slice a len cap]] w (gG N w0 F0 X (some (s.1,s.2.1++[(1,tx,ops)],s.2.2++[tx]))):=by
 have Ml:∀k,(Value.slice ah s.2.1.length ch).ownBlock=some k→k<w.heap.size:=fun k e=>(hK.held.row.lt k e).2
 have hw0w:w0.heap.size≤w.heap.size:=hK.fr.size;have NJ:X<w.heap.size:=hK.box.lt;have Dx:∀k,vs.ownBlock=some k→k<w.heap.size:=fun k e=>(hK.seen.lt k e).2
 obtain⟨i0,hi,dE,dD,cO⟩:=info_parts mR;obtain⟨z0,CX,zh,Hu,Cs⟩:=info_parts pT;have fR:s.2.1.length+1≤maxLen:=by unfold maxLen; omega
 have kn:(s.2.1.length+1) * 40≤140737488355328:=by omega
 have jx:s.2.2.length+1≤maxLen:=by unfold maxLen; omega
 have eU:(s.2.2.length+1) * 8≤140737488355328:=by omega
 obtain⟨sa,sc,jT,zf⟩:=hK.seen.sl;subst jT;obtain⟨V,hV⟩:∃V,V=w.alloc (.cells #[.int .i64 1,.int .i64 tx,.slice a len cap] 98):=⟨_,rfl⟩;have fv:Below w.heap.size w V:=by rw[hV]; exact(Below.refl _ _).alloc (Nat.le_refl _) _
 have bI:dt w.heap.size 1 tx (.slice a len cap) V:=by rw[hV]; exact cG _ _ _ _
 have g_:=hK.below fv;have jf:=g_.box.lt;have mg:=bI.lt;have y1:=last.On.cell (B:=V.heap.size) g_.box.cells.2.1 jf;have y2:=last.On.cell (B:=V.heap.size) bI.cells.2.1 mg;have lP:∀x9:last.On V.heap.size V,Calls Tryz.prog 137 #[.slice ah s.2.1.length ch,.int .i64 tx] x9.w fun e w'=>e=.returned (.int .i64 (fL (aR tx s.2.1)))∧∃y9:last.On V.heap.size V,w'=y9.w:=fun x9=>last.Calls.on x9 (Nat.le_refl _) ((eA _ _ ch s.2.1 tx x9.w (g_.held.below x9.2).sl).mono (fun e w' h=>⟨h.1,h.2 ▸ Below.refl _ _⟩))
 have br:=last.On.iq V.heap.size V;have HV:=Hid.mk' hV.symm;clear hV;generalize hP:fL (aR tx s.2.1)=P at lP;aj Tryz.func98,Tryz.ntmps98;ab fail;rw[HV.out];refine last.ar V.heap.size (by aa) (by aa) ?_
 repeat(ai ((ao 137; ag exact lP _)))
 refine wpQuiet_nil ?_;intro w1 bL;obtain⟨x1,bL⟩:=bL;have a_:Below V.heap.size V w1:=by rw[bL]; exact x1.2
 clear bL x1;have dM:=bI.below a_;have wV:=g_.below a_;have fl:=Hid.mk' (eh 1 tx a len cap ops w1 ((dT.below fv).below a_) dV);obtain⟨d0,d1,d2⟩:=dM.cells;clear y1 y2 lP br;ab fail;refine fl.out.mono ?_;rintro e w2 ⟨rfl,be⟩;rw[bR];have fy:=wV.below be;have cv:=dM.below be;have nG:=((dT.below fv).below a_).below be;have pI:=((zf.below fv).below a_).below be;clear d0 d1 d2 fl HV dM bI g_ jf mg;obtain⟨d0,d1,d2⟩:=cv.cells;have fm:=fy.box.lt;have dF:=cv.lt;have o0:=last.On.cell (B:=w2.heap.size) fy.box.cells.1 fm;have o1:=last.On.cell (B:=w2.heap.size) fy.box.cells.2.1 fm;have o2:=last.On.cell (B:=w2.heap.size) fy.box.cells.2.2 fm;have o3:=last.On.cell (B:=w2.heap.size) cv.cells.1 dF;have o4:=last.On.cell (B:=w2.heap.size) cv.cells.2.1 dF;have o5:=last.On.cell (B:=w2.heap.size) cv.cells.2.2 dF
 have kC:=last.On.iq w2.heap.size w2;have jF:∀x9:last.On w2.heap.size w2,Calls Tryz.prog 102 #[.slice sa s.2.2.length sc,.int .i64 tx] x9.w fun e w'=>e=.returned (.bool (decide (tx∈s.2.2)))∧∃y9:last.On w2.heap.size w2,w'=y9.w:=fun x9=>last.Calls.on x9 (Nat.le_refl _) ((cX sa s.2.2.length sc s.2.2 tx x9.w (pI.below x9.2)).mono (fun e w' h=>⟨h.1,h.2 ▸ Below.refl _ _⟩))
 have EN:∀x9:last.On w2.heap.size w2,Calls Tryz.prog 139 #[.slice ah s.2.1.length ch,.slice a len cap] x9.w fun e w'=>e=.returned (.bool (locked s.2.1 ops))∧∃y9:last.On w2.heap.size w2,w'=y9.w:=fun x9=>last.Calls.on x9 (Nat.le_refl _) (jE _ _ ch s.2.1 a len cap ops x9.w (fy.held.below x9.2).sl (nG.below x9.2))
 have Gd:∀x9:last.On w2.heap.size w2,Calls Tryz.prog 140 #[.slice am nm cm,.slice a len cap] x9.w fun e w'=>e=.returned (.bool (meets s.1 ops))∧∃y9:last.On w2.heap.size w2,w'=y9.w:=fun x9=>last.Calls.on x9 (Nat.le_refl _) (kr _ nm cm s.1 a len cap ops x9.w (fy.m.below x9.2).sl (nG.below x9.2))
 rw[h1] at jF;rw[h2] at EN;rw[h3] at Gd;ab fail;refine last.ar w2.heap.size (by aa) (by aa) ?_
 repeat(ai (first | (ao 102; ag exact jF _) | (ao 139; ag exact EN _) | (ao 140; ag exact Gd _)))
 refine wpQuiet_nil ?_;intro w5 cf;obtain⟨x5,cf⟩:=cf;have dx:Below w2.heap.size w2 w5:=by rw[cf]; exact x5.2
 clear cf x5 kC o0 o1 o2 o3 o4 o5 jF EN Gd d0 d1 d2;have sg:=fy.below dx;have oe:=cv.below dx;have j5:Below w5.heap.size w5 w5.drew:=(Below.refl _ _).drew;have Wy:=nG.below dx;have wW:=Hid.mk' (mP 1 tx a len cap ops w5.drew (Wy.below j5) hlen);ab fail;refine last.aB (S:=fun w'=>gE X (.slice am nm cm) (.slice ah s.2.1.length ch) (.slice sa s.2.2.length sc) w'∧dt w.heap.size 1 tx (.slice a len cap) w') 11 (by aa) ⟨sg.box.below j5,oe.below j5⟩ (fun al=>?_)
 refine last.ae (i:=0) (v:=(.pointer (some ⟨X,0,none⟩))) rfl rfl (by aa) (by aa) (by aa) (by aa) (fun _ _ _ h=>h) (Or.inl ⟨by rfl,?_⟩) (by assumption) ?_
 · intro wq aC; af
 try simp only[Act.put,List.setIfInBounds_toArray,List.set_cons_zero,List.set_cons_succ];refine last.ae (i:=1) (v:=(.pointer (some ⟨X,0,none⟩))) rfl rfl (by aa) (by aa) (by aa) (by aa) (fun _ _ _ h=>h) (Or.inl ⟨by rfl,?_⟩) (by assumption) ?_
 · intro wq aC; af
 try simp only[Act.put,List.setIfInBounds_toArray,List.set_cons_zero,List.set_cons_succ];refine last.ae (i:=2) (v:=(.pointer (some ⟨X,0,none⟩))) rfl rfl (by aa) (by aa) (by aa) (by aa) (fun _ _ _ h=>h) (Or.inl ⟨by rfl,?_⟩) (by assumption) ?_
 · intro wq aC; af
 try simp only[Act.put,List.setIfInBounds_toArray,List.set_cons_zero,List.set_cons_succ];refine last.ae (i:=3) (v:=(.pointer (some ⟨X,1,none⟩))) rfl rfl (by aa) (by aa) (by aa) (by aa) (fun _ _ _ h=>h) (Or.inl ⟨by rfl,?_⟩) (by assumption) ?_
 · intro wq aC; af
 try simp only[Act.put,List.setIfInBounds_toArray,List.set_cons_zero,List.set_cons_succ];refine last.ae (i:=4) (v:=(.slice ah s.2.1.length ch)) rfl rfl (by aa) (by aa) (by aa) (by aa) (fun _ _ _ h=>h) (Or.inl ⟨by rfl,?_⟩) (by assumption) ?_
 · intro wq aC; have q:=aC.1.cells.2.1; af
 try simp only[Act.put,List.setIfInBounds_toArray,List.set_cons_zero,List.set_cons_succ];refine last.ae (i:=5) (v:=(.agg #[.int .i64 1,.int .i64 tx,.slice a len cap])) rfl rfl (by aa) (by aa) (by aa) (by aa) (fun _ _ _ h=>h) (Or.inl ⟨by rfl,?_⟩) (by assumption) ?_
 · intro wq aC; obtain⟨q1,q2,q3⟩:=aC.2.cells; af
 try simp only[Act.put,List.setIfInBounds_toArray,List.set_cons_zero,List.set_cons_succ];refine last.ax (i:=6) (o:={dst:=some 52,op:=Op.call {callee:=Callee.value (Operand.func 133),args:=#[Operand.tmp 51],argTypes:=#[98]},type:=98,pos:= "l08_record.go:123",after:=#[{on:=5,ground:=Ground.data}],guard:=none}) (by aa) rfl (fun K hK=>?_)
 refine fM.cL rfl 133 (.tmp 51) _ rfl (fun _ _=>rfl) _ rfl _ wW.out ?_
 rintro e w6 ⟨g6,c6,rfl,en,mJ⟩;refine⟨_,rfl,?_⟩;have A5:=(sg.below j5).below mJ;have Di:=(oe.below j5).below mJ;refine hK.out _ _ ?_ (fun aq=>?_)
 · exact⟨A5.box,Di⟩
 clear hK K al;have al:=aq;clear aq;try simp only[Act.put,List.setIfInBounds_toArray,List.set_cons_zero,List.set_cons_succ];refine last.ax (i:=7) (o:={dst:=some 53,op:=Op.buildSlice 41 1 #[(0,Operand.tmp 52)],type:=41,pos:= "l08_record.go:123",after:=#[{on:=6,ground:=Ground.data}],guard:=none}) (by aa) rfl (fun K hK=>?_)
 af;have dd:Below w6.heap.size w6 (w6.alloc (.cells #[.int .i64 1,.int .i64 tx,.slice (some ⟨g6,0,none⟩) len c6] 98)):=(Below.refl _ _).alloc (Nat.le_refl _) _;have Js:=A5.below dd;have Pa:=Di.below dd;refine hK.out _ _ ?_ (fun aq=>?_)
 · exact⟨Js.box,Pa⟩
 clear hK K al;have al:=aq;clear aq;try simp only[Act.put,List.setIfInBounds_toArray,List.set_cons_zero,List.set_cons_succ];refine last.ax (i:=8) (o:={dst:=some 54,op:=Op.call {callee:=Callee.builtin Builtin.append,args:=#[Operand.tmp 50,Operand.tmp 53],argTypes:=#[41,41]},type:=41,pos:= "l08_record.go:123",after:=#[{on:=4,ground:=Ground.data},{on:=7,ground:=Ground.data},{on:=6,ground:=Ground.chain}],guard:=none}) (by aa) rfl (fun K hK=>?_)
 have p_:=(fK en).mono (base':=0) (Nat.zero_le _);have pV:=p_.below dd;refine step_append_lies _ rfl (.tmp 50) (.tmp 53) 41 rfl 0 98 i0 (.agg #[.int .i64 0,.int .i64 0,.slice none 0 0]) 3 40 Tryz.underlying41 hi dE dD cO rfl (by decide) _ _ _ rfl Js.held.row ⟨w6.heap.size,0,none⟩ 1 1 [.int .i64 1,.int .i64 tx,.slice (some ⟨g6,0,none⟩) len c6] rfl rfl (jj w6 1 tx _ _) (me 1 tx p_.one) (by decide) fR kn (Nat.zero_le _) _ rfl ?_
 intro g8 c8 w8 gi bY iW vd;have jQ:∀j,(Value.slice (some ⟨g6,0,none⟩) len c6).ownBlock=some j→¬dq (.slice ah s.2.1.length ch) hs j:=fun j hj hb=>by
  have e1:g6=j:=by simpa[Value.ownBlock] using hj
  have h1:=((sg.below j5).held.lt j hb).2;have h2:=en.lt.1;omega
 have UX:∀j,(Value.slice (some ⟨g6,0,none⟩) len c6).ownBlock=some j→w0.heap.size≤j:=fun j hj=>by
  have e1:g6=j:=by simpa[Value.ownBlock] using hj
  have h1:=(sg.below j5).fr.size;have h2:=en.lt.1;omega
 obtain⟨Jt,ZD⟩:=Js.hold (x:=(1,tx,ops)) pV xK jQ UX gi bY iW rfl;have Gf:=Pa.grown bY (fun e=>absurd (Ml _ e.symm) (Nat.lt_irrefl _))
 refine hK.out _ _ ?_ (fun aq=>?_)
 · exact⟨Jt,Gf⟩
 clear hK K al;have al:=aq;clear aq;try simp only[Act.put,List.setIfInBounds_toArray,List.set_cons_zero,List.set_cons_succ];refine last.ax (i:=9) (o:={dst:=some 55,op:=Op.nilCheck (Operand.tmp 46),type:=0,pos:= "l08_record.go:123",after:=#[{on:=0,ground:=Ground.data},{on:=0,ground:=Ground.phase},{on:=1,ground:=Ground.phase},{on:=2,ground:=Ground.phase},{on:=3,ground:=Ground.phase},{on:=4,ground:=Ground.phase},{on:=5,ground:=Ground.phase},{on:=6,ground:=Ground.phase},{on:=7,ground:=Ground.phase},{on:=8,ground:=Ground.phase}],guard:=none}) (by aa) rfl (fun K hK=>?_)
 af;refine hK.out _ _ ?_ (fun aq=>?_)
 · exact al
 clear hK K al;have al:=aq;clear aq;try simp only[Act.put,List.setIfInBounds_toArray,List.set_cons_zero,List.set_cons_succ];refine last.ae (i:=10) (v:=(.pointer (some ⟨X,1,none⟩))) rfl rfl (by aa) (by aa) (by aa) (by aa) (fun _ _ _ h=>h) (Or.inl ⟨by rfl,?_⟩) (by assumption) ?_
 · intro wq aC; af
 try simp only[Act.put,List.setIfInBounds_toArray,List.set_cons_zero,List.set_cons_succ];have e8:=Jt.cells.2.1;have f8:=Jt.fz 1;refine last.aL (o:={dst:=none,op:=Op.store 41 (Operand.tmp 56) (Operand.tmp 54),type:=0,pos:= "l08_record.go:123",after:=#[{on:=10,ground:=Ground.data},{on:=8,ground:=Ground.data},{on:=8,ground:=Ground.chain},{on:=0,ground:=Ground.phase},{on:=1,ground:=Ground.phase},{on:=2,ground:=Ground.phase},{on:=3,ground:=Ground.phase},{on:=4,ground:=Ground.phase},{on:=5,ground:=Ground.phase},{on:=6,ground:=Ground.phase},{on:=7,ground:=Ground.phase},{on:=8,ground:=Ground.phase}],guard:=none}) (by aa) rfl (by aa) (fun K hK=>?_)
 af;refine hK.out _ _ ?_;clear hK K;have ZE:=bK Jt 1 (.slice (some ⟨g8,0,none⟩) (s.2.1.length+1) c8);have Sj:=Gf.grown ZE.2 (fun e=>absurd (show w.heap.size=X by simpa using e) (Nat.ne_of_gt NJ))
 generalize Pb:w8.setCell ⟨X,1,none⟩ (.slice (some ⟨g8,0,none⟩) (s.2.1.length+1) c8)=w9 at *;clear Pb ZE gi bY iW vd al e8 f8 Jt Gf jQ UX p_ pV Js Pa dd en A5 Di mJ wW;have hL9:(s.2.1++[(1,tx,ops)]).length=s.2.1.length+1:=by simp
 have rR:Below w9.heap.size w9 w9.drew:=(Below.refl _ _).drew;ab fail;refine last.aB (S:=fun w'=>gE X (.slice am nm cm) (.slice (some ⟨g8,0,none⟩) (s.2.1.length+1) c8) (.slice sa s.2.2.length sc) w'∧dt w.heap.size 1 tx (.slice a len cap) w') 11 (by aa) ⟨(EO ZD).below rR,Sj.below rR⟩ (fun al=>?_)
 refine last.ae (i:=0) (v:=(.pointer (some ⟨X,0,none⟩))) rfl rfl (by aa) (by aa) (by aa) (by aa) (fun _ _ _ h=>h) (Or.inl ⟨by rfl,?_⟩) (by assumption) ?_
 · intro wq aC; af
 try simp only[Act.put,List.setIfInBounds_toArray,List.set_cons_zero,List.set_cons_succ];refine last.ae (i:=1) (v:=(.pointer (some ⟨X,0,none⟩))) rfl rfl (by aa) (by aa) (by aa) (by aa) (fun _ _ _ h=>h) (Or.inl ⟨by rfl,?_⟩) (by assumption) ?_
 · intro wq aC; af
 try simp only[Act.put,List.setIfInBounds_toArray,List.set_cons_zero,List.set_cons_succ];refine last.ae (i:=2) (v:=(.pointer (some ⟨X,0,none⟩))) rfl rfl (by aa) (by aa) (by aa) (by aa) (fun _ _ _ h=>h) (Or.inl ⟨by rfl,?_⟩) (by assumption) ?_
 · intro wq aC; af
 try simp only[Act.put,List.setIfInBounds_toArray,List.set_cons_zero,List.set_cons_succ];refine last.ae (i:=3) (v:=(.pointer (some ⟨X,2,none⟩))) rfl rfl (by aa) (by aa) (by aa) (by aa) (fun _ _ _ h=>h) (Or.inl ⟨by rfl,?_⟩) (by assumption) ?_
 · intro wq aC; af
 try simp only[Act.put,List.setIfInBounds_toArray,List.set_cons_zero,List.set_cons_succ];refine last.ae (i:=4) (v:=(.slice sa s.2.2.length sc)) rfl rfl (by aa) (by aa) (by aa) (by aa) (fun _ _ _ h=>h) (Or.inl ⟨by rfl,?_⟩) (by assumption) ?_
 · intro wq aC; have q:=aC.1.cells.2.2; af
 try simp only[Act.put,List.setIfInBounds_toArray,List.set_cons_zero,List.set_cons_succ];refine last.ae (i:=5) (v:=(.pointer (some ⟨w.heap.size,1,none⟩))) rfl rfl (by aa) (by aa) (by aa) (by aa) (fun _ _ _ h=>h) (Or.inl ⟨by rfl,?_⟩) (by assumption) ?_
 · intro wq aC; af
 try simp only[Act.put,List.setIfInBounds_toArray,List.set_cons_zero,List.set_cons_succ];refine last.ae (i:=6) (v:=(.int .i64 tx)) rfl rfl (by aa) (by aa) (by aa) (by aa) (fun _ _ _ h=>h) (Or.inl ⟨by rfl,?_⟩) (by assumption) ?_
 · intro wq aC; have q:=aC.2.cells.2.1; af
 try simp only[Act.put,List.setIfInBounds_toArray,List.set_cons_zero,List.set_cons_succ];refine last.ax (i:=7) (o:={dst:=some 64,op:=Op.buildSlice 54 1 #[(0,Operand.tmp 63)],type:=54,pos:= "l08_record.go:124",after:=#[{on:=6,ground:=Ground.data}],guard:=none}) (by aa) rfl (fun K hK=>?_)
 af;have ta:Below w9.heap.size w9 (w9.drew.alloc (.cells #[.int .i64 tx] 3)):=rR.alloc rR.size _;have qp:=ZD.below ta;have ow:=Sj.below ta;refine hK.out _ _ ?_ (fun aq=>?_)
 · exact⟨EO qp,ow⟩
 clear hK K al;have al:=aq;clear aq;try simp only[Act.put,List.setIfInBounds_toArray,List.set_cons_zero,List.set_cons_succ];refine last.ax (i:=8) (o:={dst:=some 65,op:=Op.call {callee:=Callee.builtin Builtin.append,args:=#[Operand.tmp 61,Operand.tmp 64],argTypes:=#[54,54]},type:=54,pos:= "l08_record.go:124",after:=#[{on:=4,ground:=Ground.data},{on:=7,ground:=Ground.data}],guard:=none}) (by aa) rfl (fun K hK=>?_)
 refine step_append_lies _ rfl (.tmp 61) (.tmp 64) 54 rfl 0 3 z0 (.int .i64 0) 1 8 Tryz.underlying54 CX zh Hu Cs rfl (by decide) _ _ _ rfl qp.seen ⟨w9.heap.size,0,none⟩ 1 1 (bg [tx]) rfl rfl (eM _ _ _) (cq _) (by decide) jx eU (Nat.zero_le _) _ rfl ?_
 intro gt ct wt ve kD Dy Pc;obtain⟨pJ,Pd⟩:=qp.fo ve kD Dy rfl;simp only[List.length_append,List.length_singleton] at pJ;have Dz:=ow.grown kD (fun e=>absurd (Dx _ e.symm) (Nat.lt_irrefl _))
 refine hK.out _ _ ?_ (fun aq=>?_)
 · exact⟨pJ,Dz⟩
 clear hK K al;have al:=aq;clear aq;try simp only[Act.put,List.setIfInBounds_toArray,List.set_cons_zero,List.set_cons_succ];refine last.ax (i:=9) (o:={dst:=some 66,op:=Op.nilCheck (Operand.tmp 57),type:=0,pos:= "l08_record.go:124",after:=#[{on:=0,ground:=Ground.data},{on:=0,ground:=Ground.phase},{on:=1,ground:=Ground.phase},{on:=2,ground:=Ground.phase},{on:=3,ground:=Ground.phase},{on:=4,ground:=Ground.phase},{on:=5,ground:=Ground.phase},{on:=6,ground:=Ground.phase},{on:=7,ground:=Ground.phase},{on:=8,ground:=Ground.phase}],guard:=none}) (by aa) rfl (fun K hK=>?_)
 af;refine hK.out _ _ ?_ (fun aq=>?_)
 · exact al
 clear hK K al;have al:=aq;clear aq;try simp only[Act.put,List.setIfInBounds_toArray,List.set_cons_zero,List.set_cons_succ];refine last.ae (i:=10) (v:=(.pointer (some ⟨X,2,none⟩))) rfl rfl (by aa) (by aa) (by aa) (by aa) (fun _ _ _ h=>h) (Or.inl ⟨by rfl,?_⟩) (by assumption) ?_
 · intro wq aC; af
 try simp only[Act.put,List.setIfInBounds_toArray,List.set_cons_zero,List.set_cons_succ];have et:=pJ.cells.2.2;have ft:=pJ.fz 2;refine last.aL (o:={dst:=none,op:=Op.store 54 (Operand.tmp 67) (Operand.tmp 65),type:=0,pos:= "l08_record.go:124",after:=#[{on:=10,ground:=Ground.data},{on:=8,ground:=Ground.data},{on:=8,ground:=Ground.chain},{on:=0,ground:=Ground.phase},{on:=1,ground:=Ground.phase},{on:=2,ground:=Ground.phase},{on:=3,ground:=Ground.phase},{on:=4,ground:=Ground.phase},{on:=5,ground:=Ground.phase},{on:=6,ground:=Ground.phase},{on:=7,ground:=Ground.phase},{on:=8,ground:=Ground.phase}],guard:=none}) (by aa) rfl (by aa) (fun K hK=>?_)
 af;refine hK.out _ _ ?_;clear hK K;generalize WA:wt.setCell ⟨X,2,none⟩ (.slice (some ⟨gt,0,none⟩) (s.2.2.length+1) ct)=wz at *;ab fail;an;exact⟨rfl,_,_,_,_,_,_,_,Pd⟩
end bm
namespace bm
open Go Go.RowKit base aE aX
theorem A6(N:Prop)(w0:World)(F0:List Nat)(w:World)(X:Nat)(am:Option Addr)(nm cm:Nat)(ah:Option Addr)(ch:Nat)(vs:Value)(s:St)(hs:List Value)(tx:Int)(a:Option Addr)(len cap:Nat)(ops:List Od)
 (hK:Kept N w0 F0 w X am nm cm ah ch vs s hs) (dT:dS w a len ops) (dV:∀p∈ops,p.2.1.size≤1099511627776) (bR:bu (3,tx,ops)=true) (y6:s.2.2.length≤1099511627776) (gI:aR tx s.2.1=none) (h1:decide (tx∈s.2.2)=false):
 Calls Tryz.prog 98 #[.pointer (some ⟨X,0,none⟩),.agg #[.int .i64 3,.int .i64 tx,.slice a len cap]] w (gG N w0 F0 X (some (s.1,s.2.1,s.2.2++[tx]))):=by
 have Ml:∀k,(Value.slice ah s.2.1.length ch).ownBlock=some k→k<w.heap.size:=fun k e=>(hK.held.row.lt k e).2
 have NJ:X<w.heap.size:=hK.box.lt;have Dx:∀k,vs.ownBlock=some k→k<w.heap.size:=fun k e=>(hK.seen.lt k e).2
 obtain⟨z0,CX,zh,Hu,Cs⟩:=info_parts pT;have jx:s.2.2.length+1≤maxLen:=by unfold maxLen; omega
 have eU:(s.2.2.length+1) * 8≤140737488355328:=by omega
 obtain⟨sa,sc,jT,zf⟩:=hK.seen.sl;subst jT;obtain⟨V,hV⟩:∃V,V=w.alloc (.cells #[.int .i64 3,.int .i64 tx,.slice a len cap] 98):=⟨_,rfl⟩;have fv:Below w.heap.size w V:=by rw[hV]; exact(Below.refl _ _).alloc (Nat.le_refl _) _
 have bI:dt w.heap.size 3 tx (.slice a len cap) V:=by rw[hV]; exact cG _ _ _ _
 have g_:=hK.below fv;have jf:=g_.box.lt;have mg:=bI.lt;have y1:=last.On.cell (B:=V.heap.size) g_.box.cells.2.1 jf;have y2:=last.On.cell (B:=V.heap.size) bI.cells.2.1 mg;have lP:∀x9:last.On V.heap.size V,Calls Tryz.prog 137 #[.slice ah s.2.1.length ch,.int .i64 tx] x9.w fun e w'=>e=.returned (.int .i64 (fL (aR tx s.2.1)))∧∃y9:last.On V.heap.size V,w'=y9.w:=fun x9=>last.Calls.on x9 (Nat.le_refl _) ((eA _ _ ch s.2.1 tx x9.w (g_.held.below x9.2).sl).mono (fun e w' h=>⟨h.1,h.2 ▸ Below.refl _ _⟩))
 have br:=last.On.iq V.heap.size V;have HV:=Hid.mk' hV.symm;clear hV;rw[gI,show fL none= -1 from rfl] at lP
 aj Tryz.func98,Tryz.ntmps98;ab fail;rw[HV.out];refine last.ar V.heap.size (by aa) (by aa) ?_
 repeat(ai ((ao 137; ag exact lP _)))
 refine wpQuiet_nil ?_;intro w1 bL;obtain⟨x1,bL⟩:=bL;have a_:Below V.heap.size V w1:=by rw[bL]; exact x1.2
 clear bL x1;have dM:=bI.below a_;have wV:=g_.below a_;have fl:=Hid.mk' (eh 3 tx a len cap ops w1 ((dT.below fv).below a_) dV);obtain⟨d0,d1,d2⟩:=dM.cells;clear y1 y2 lP br;ab fail;refine fl.out.mono ?_;rintro e w2 ⟨rfl,be⟩;rw[bR];have fy:=wV.below be;have cv:=dM.below be;have nG:=((dT.below fv).below a_).below be;have pI:=((zf.below fv).below a_).below be;clear d0 d1 d2 fl HV dM bI g_ jf mg;obtain⟨d0,d1,d2⟩:=cv.cells;have fm:=fy.box.lt;have dF:=cv.lt;have o0:=last.On.cell (B:=w2.heap.size) fy.box.cells.1 fm;have o1:=last.On.cell (B:=w2.heap.size) fy.box.cells.2.1 fm;have o2:=last.On.cell (B:=w2.heap.size) fy.box.cells.2.2 fm;have o3:=last.On.cell (B:=w2.heap.size) cv.cells.1 dF;have o4:=last.On.cell (B:=w2.heap.size) cv.cells.2.1 dF;have o5:=last.On.cell (B:=w2.heap.size) cv.cells.2.2 dF
 have kC:=last.On.iq w2.heap.size w2;have jF:∀x9:last.On w2.heap.size w2,Calls Tryz.prog 102 #[.slice sa s.2.2.length sc,.int .i64 tx] x9.w fun e w'=>e=.returned (.bool (decide (tx∈s.2.2)))∧∃y9:last.On w2.heap.size w2,w'=y9.w:=fun x9=>last.Calls.on x9 (Nat.le_refl _) ((cX sa s.2.2.length sc s.2.2 tx x9.w (pI.below x9.2)).mono (fun e w' h=>⟨h.1,h.2 ▸ Below.refl _ _⟩))
 rw[h1] at jF;ab fail;refine last.ar w2.heap.size (by aa) (by aa) ?_
 repeat(ai ((ao 102; ag exact jF _)))
 refine wpQuiet_nil ?_;intro w5 cf;obtain⟨x5,cf⟩:=cf;have dx:Below w2.heap.size w2 w5:=by rw[cf]; exact x5.2
 clear cf x5 kC o0 o1 o2 o3 o4 o5 jF d0 d1 d2;have sg:=fy.below dx;have oe:=cv.below dx;have rR:Below w5.heap.size w5 w5.drew:=(Below.refl _ _).drew;ab fail;refine last.aB (S:=fun w'=>gE X (.slice am nm cm) (.slice ah s.2.1.length ch) (.slice sa s.2.2.length sc) w'∧dt w.heap.size 3 tx (.slice a len cap) w') 11 (by aa) ⟨(sg.box).below rR,oe.below rR⟩ (fun al=>?_)
 refine last.ae (i:=0) (v:=(.pointer (some ⟨X,0,none⟩))) rfl rfl (by aa) (by aa) (by aa) (by aa) (fun _ _ _ h=>h) (Or.inl ⟨by rfl,?_⟩) (by assumption) ?_
 · intro wq aC; af
 try simp only[Act.put,List.setIfInBounds_toArray,List.set_cons_zero,List.set_cons_succ];refine last.ae (i:=1) (v:=(.pointer (some ⟨X,0,none⟩))) rfl rfl (by aa) (by aa) (by aa) (by aa) (fun _ _ _ h=>h) (Or.inl ⟨by rfl,?_⟩) (by assumption) ?_
 · intro wq aC; af
 try simp only[Act.put,List.setIfInBounds_toArray,List.set_cons_zero,List.set_cons_succ];refine last.ae (i:=2) (v:=(.pointer (some ⟨X,0,none⟩))) rfl rfl (by aa) (by aa) (by aa) (by aa) (fun _ _ _ h=>h) (Or.inl ⟨by rfl,?_⟩) (by assumption) ?_
 · intro wq aC; af
 try simp only[Act.put,List.setIfInBounds_toArray,List.set_cons_zero,List.set_cons_succ];refine last.ae (i:=3) (v:=(.pointer (some ⟨X,2,none⟩))) rfl rfl (by aa) (by aa) (by aa) (by aa) (fun _ _ _ h=>h) (Or.inl ⟨by rfl,?_⟩) (by assumption) ?_
 · intro wq aC; af
 try simp only[Act.put,List.setIfInBounds_toArray,List.set_cons_zero,List.set_cons_succ];refine last.ae (i:=4) (v:=(.slice sa s.2.2.length sc)) rfl rfl (by aa) (by aa) (by aa) (by aa) (fun _ _ _ h=>h) (Or.inl ⟨by rfl,?_⟩) (by assumption) ?_
 · intro wq aC; have q:=aC.1.cells.2.2; af
 try simp only[Act.put,List.setIfInBounds_toArray,List.set_cons_zero,List.set_cons_succ];refine last.ae (i:=5) (v:=(.pointer (some ⟨w.heap.size,1,none⟩))) rfl rfl (by aa) (by aa) (by aa) (by aa) (fun _ _ _ h=>h) (Or.inl ⟨by rfl,?_⟩) (by assumption) ?_
 · intro wq aC; af
 try simp only[Act.put,List.setIfInBounds_toArray,List.set_cons_zero,List.set_cons_succ];refine last.ae (i:=6) (v:=(.int .i64 tx)) rfl rfl (by aa) (by aa) (by aa) (by aa) (fun _ _ _ h=>h) (Or.inl ⟨by rfl,?_⟩) (by assumption) ?_
 · intro wq aC; have q:=aC.2.cells.2.1; af
 try simp only[Act.put,List.setIfInBounds_toArray,List.set_cons_zero,List.set_cons_succ];refine last.ax (i:=7) (o:=qO1) (by aa) rfl (fun K hK=>?_)
 af;have ta:Below w5.heap.size w5 (w5.drew.alloc (.cells #[.int .i64 tx] 3)):=rR.alloc rR.size _;have qp:=sg.below ta;have ow:=oe.below ta;refine hK.out _ _ ?_ (fun aq=>?_)
 · exact⟨qp.box,ow⟩
 clear hK K al;have al:=aq;clear aq;try simp only[Act.put,List.setIfInBounds_toArray,List.set_cons_zero,List.set_cons_succ];refine last.ax (i:=8) (o:=qO2) (by aa) rfl (fun K hK=>?_)
 refine step_append_lies _ rfl (.tmp 87) (.tmp 90) 54 rfl 0 3 z0 (.int .i64 0) 1 8 Tryz.underlying54 CX zh Hu Cs rfl (by decide) _ _ _ rfl qp.seen ⟨w5.heap.size,0,none⟩ 1 1 (bg [tx]) rfl rfl (eM _ _ _) (cq _) (by decide) jx eU (Nat.zero_le _) _ rfl ?_
 intro gt ct wt ve kD Dy Pc;obtain⟨pJ,Pd⟩:=qp.fo ve kD Dy rfl;have Dz:=ow.grown kD (fun e=>absurd (Dx _ e.symm) (Nat.lt_irrefl _))
 refine hK.out _ _ ?_ (fun aq=>?_)
 · exact⟨pJ,Dz⟩
 clear hK K al;have al:=aq;clear aq;try simp only[Act.put,List.setIfInBounds_toArray,List.set_cons_zero,List.set_cons_succ];refine last.ax (i:=9) (o:=qO3) (by aa) rfl (fun K hK=>?_)
 af;refine hK.out _ _ ?_ (fun aq=>?_)
 · exact al
 clear hK K al;have al:=aq;clear aq;try simp only[Act.put,List.setIfInBounds_toArray,List.set_cons_zero,List.set_cons_succ];refine last.ae (i:=10) (v:=(.pointer (some ⟨X,2,none⟩))) rfl rfl (by aa) (by aa) (by aa) (by aa) (fun _ _ _ h=>h) (Or.inl ⟨by rfl,?_⟩) (by assumption) ?_
 · intro wq aC; af
 try simp only[Act.put,List.setIfInBounds_toArray,List.set_cons_zero,List.set_cons_succ];have et:=pJ.cells.2.2;have ft:=pJ.fz 2;refine last.aL (o:=qO4) (by aa) rfl (by aa) (fun K hK=>?_)
 af;refine hK.out _ _ ?_;clear hK K;generalize WA:wt.setCell ⟨X,2,none⟩ (.slice (some ⟨gt,0,none⟩) (s.2.2.length+1) ct)=wz at *;ab fail;an;exact⟨rfl,_,_,_,_,_,_,_,Pd⟩
theorem wX(N:Prop)(w0:World)(F0:List Nat)(w:World)(X:Nat)(am:Option Addr)(nm cm:Nat)(ah:Option Addr)(ch:Nat)(vs:Value)(s:St)(hs:List Value)(tx:Int)(a:Option Addr)(len cap:Nat)(ops:List Od)
 (hK:Kept N w0 F0 w X am nm cm ah ch vs s hs) (dT:dS w a len ops) (dV:∀p∈ops,p.2.1.size≤1099511627776) (bR:bu (3,tx,ops)=true) (y6:s.2.2.length≤1099511627776) (gI:aR tx s.2.1=none) (h1:decide (tx∈s.2.2)=true):
 Calls Tryz.prog 98 #[.pointer (some ⟨X,0,none⟩),.agg #[.int .i64 3,.int .i64 tx,.slice a len cap]] w (gG N w0 F0 X none):=by
 have Ml:∀k,(Value.slice ah s.2.1.length ch).ownBlock=some k→k<w.heap.size:=fun k e=>(hK.held.row.lt k e).2
 have NJ:X<w.heap.size:=hK.box.lt;have Dx:∀k,vs.ownBlock=some k→k<w.heap.size:=fun k e=>(hK.seen.lt k e).2
 obtain⟨z0,CX,zh,Hu,Cs⟩:=info_parts pT;have jx:s.2.2.length+1≤maxLen:=by unfold maxLen; omega
 have eU:(s.2.2.length+1) * 8≤140737488355328:=by omega
 obtain⟨sa,sc,jT,zf⟩:=hK.seen.sl;subst jT;obtain⟨V,hV⟩:∃V,V=w.alloc (.cells #[.int .i64 3,.int .i64 tx,.slice a len cap] 98):=⟨_,rfl⟩;have fv:Below w.heap.size w V:=by rw[hV]; exact(Below.refl _ _).alloc (Nat.le_refl _) _
 have bI:dt w.heap.size 3 tx (.slice a len cap) V:=by rw[hV]; exact cG _ _ _ _
 have g_:=hK.below fv;have jf:=g_.box.lt;have mg:=bI.lt;have y1:=last.On.cell (B:=V.heap.size) g_.box.cells.2.1 jf;have y2:=last.On.cell (B:=V.heap.size) bI.cells.2.1 mg;have lP:∀x9:last.On V.heap.size V,Calls Tryz.prog 137 #[.slice ah s.2.1.length ch,.int .i64 tx] x9.w fun e w'=>e=.returned (.int .i64 (fL (aR tx s.2.1)))∧∃y9:last.On V.heap.size V,w'=y9.w:=fun x9=>last.Calls.on x9 (Nat.le_refl _) ((eA _ _ ch s.2.1 tx x9.w (g_.held.below x9.2).sl).mono (fun e w' h=>⟨h.1,h.2 ▸ Below.refl _ _⟩))
 have br:=last.On.iq V.heap.size V;have HV:=Hid.mk' hV.symm;clear hV;rw[gI,show fL none= -1 from rfl] at lP
 aj Tryz.func98,Tryz.ntmps98;ab fail;rw[HV.out];refine last.ar V.heap.size (by aa) (by aa) ?_
 repeat(ai ((ao 137; ag exact lP _)))
 refine wpQuiet_nil ?_;intro w1 bL;obtain⟨x1,bL⟩:=bL;have a_:Below V.heap.size V w1:=by rw[bL]; exact x1.2
 clear bL x1;have dM:=bI.below a_;have wV:=g_.below a_;have fl:=Hid.mk' (eh 3 tx a len cap ops w1 ((dT.below fv).below a_) dV);obtain⟨d0,d1,d2⟩:=dM.cells;clear y1 y2 lP br;ab fail;refine fl.out.mono ?_;rintro e w2 ⟨rfl,be⟩;rw[bR];have fy:=wV.below be;have cv:=dM.below be;have nG:=((dT.below fv).below a_).below be;have pI:=((zf.below fv).below a_).below be;clear d0 d1 d2 fl HV dM bI g_ jf mg;obtain⟨d0,d1,d2⟩:=cv.cells;have fm:=fy.box.lt;have dF:=cv.lt;have o0:=last.On.cell (B:=w2.heap.size) fy.box.cells.1 fm;have o1:=last.On.cell (B:=w2.heap.size) fy.box.cells.2.1 fm;have o2:=last.On.cell (B:=w2.heap.size) fy.box.cells.2.2 fm;have o3:=last.On.cell (B:=w2.heap.size) cv.cells.1 dF;have o4:=last.On.cell (B:=w2.heap.size) cv.cells.2.1 dF;have o5:=last.On.cell (B:=w2.heap.size) cv.cells.2.2 dF
 have kC:=last.On.iq w2.heap.size w2;have jF:∀x9:last.On w2.heap.size w2,Calls Tryz.prog 102 #[.slice sa s.2.2.length sc,.int .i64 tx] x9.w fun e w'=>e=.returned (.bool (decide (tx∈s.2.2)))∧∃y9:last.On w2.heap.size w2,w'=y9.w:=fun x9=>last.Calls.on x9 (Nat.le_refl _) ((cX sa s.2.2.length sc s.2.2 tx x9.w (pI.below x9.2)).mono (fun e w' h=>⟨h.1,h.2 ▸ Below.refl _ _⟩))
 rw[h1] at jF;ab fail;refine last.ar w2.heap.size (by aa) (by aa) ?_
 repeat(ai ((ao 102; ag exact jF _)))
 refine wpQuiet_nil ?_;intro w5 cf;obtain⟨x5,cf⟩:=cf;have dx:Below w2.heap.size w2 w5:=by rw[cf]; exact x5.2
 clear cf x5 kC o0 o1 o2 o3 o4 o5 jF d0 d1 d2;have sg:=fy.below dx;have oe:=cv.below dx;have rR:Below w5.heap.size w5 w5.drew:=(Below.refl _ _).drew;ab fail;refine last.aB (S:=fun w'=>gE X (.slice am nm cm) (.slice ah s.2.1.length ch) (.slice sa s.2.2.length sc) w'∧dt w.heap.size 3 tx (.slice a len cap) w') 11 (by aa) ⟨(sg.box).below rR,oe.below rR⟩ (fun al=>?_)
 refine last.ae (i:=0) (v:=(.pointer (some ⟨X,0,none⟩))) rfl rfl (by aa) (by aa) (by aa) (by aa) (fun _ _ _ h=>h) (Or.inl ⟨by rfl,?_⟩) (by assumption) ?_
 · intro wq aC; af
 try simp only[Act.put,List.setIfInBounds_toArray,List.set_cons_zero,List.set_cons_succ];refine last.ae (i:=1) (v:=(.pointer (some ⟨X,0,none⟩))) rfl rfl (by aa) (by aa) (by aa) (by aa) (fun _ _ _ h=>h) (Or.inl ⟨by rfl,?_⟩) (by assumption) ?_
 · intro wq aC; af
 try simp only[Act.put,List.setIfInBounds_toArray,List.set_cons_zero,List.set_cons_succ];refine last.ae (i:=2) (v:=(.pointer (some ⟨X,0,none⟩))) rfl rfl (by aa) (by aa) (by aa) (by aa) (fun _ _ _ h=>h) (Or.inl ⟨by rfl,?_⟩) (by assumption) ?_
 · intro wq aC; af
 try simp only[Act.put,List.setIfInBounds_toArray,List.set_cons_zero,List.set_cons_succ];refine last.ae (i:=3) (v:=(.pointer (some ⟨X,2,none⟩))) rfl rfl (by aa) (by aa) (by aa) (by aa) (fun _ _ _ h=>h) (Or.inl ⟨by rfl,?_⟩) (by assumption) ?_
 · intro wq aC; af
 try simp only[Act.put,List.setIfInBounds_toArray,List.set_cons_zero,List.set_cons_succ];refine last.ae (i:=4) (v:=(.slice sa s.2.2.length sc)) rfl rfl (by aa) (by aa) (by aa) (by aa) (fun _ _ _ h=>h) (Or.inl ⟨by rfl,?_⟩) (by assumption) ?_
 · intro wq aC; have q:=aC.1.cells.2.2; af
 try simp only[Act.put,List.setIfInBounds_toArray,List.set_cons_zero,List.set_cons_succ];refine last.ae (i:=5) (v:=(.pointer (some ⟨w.heap.size,1,none⟩))) rfl rfl (by aa) (by aa) (by aa) (by aa) (fun _ _ _ h=>h) (Or.inl ⟨by rfl,?_⟩) (by assumption) ?_
 · intro wq aC; af
 try simp only[Act.put,List.setIfInBounds_toArray,List.set_cons_zero,List.set_cons_succ];refine last.ae (i:=6) (v:=(.int .i64 tx)) rfl rfl (by aa) (by aa) (by aa) (by aa) (fun _ _ _ h=>h) (Or.inl ⟨by rfl,?_⟩) (by assumption) ?_
 · intro wq aC; have q:=aC.2.cells.2.1; af
 try simp only[Act.put,List.setIfInBounds_toArray,List.set_cons_zero,List.set_cons_succ];refine last.ax (i:=7) (o:=qO1) (by aa) rfl (fun K hK=>?_)
 af;have ta:Below w5.heap.size w5 (w5.drew.alloc (.cells #[.int .i64 tx] 3)):=rR.alloc rR.size _;have qp:=sg.below ta;have ow:=oe.below ta;refine hK.out _ _ ?_ (fun aq=>?_)
 · exact⟨qp.box,ow⟩
 clear hK K al;have al:=aq;clear aq;try simp only[Act.put,List.setIfInBounds_toArray,List.set_cons_zero,List.set_cons_succ];refine last.ax (i:=8) (o:=qO2) (by aa) rfl (fun K hK=>?_)
 refine step_append_lies _ rfl (.tmp 87) (.tmp 90) 54 rfl 0 3 z0 (.int .i64 0) 1 8 Tryz.underlying54 CX zh Hu Cs rfl (by decide) _ _ _ rfl qp.seen ⟨w5.heap.size,0,none⟩ 1 1 (bg [tx]) rfl rfl (eM _ _ _) (cq _) (by decide) jx eU (Nat.zero_le _) _ rfl ?_
 intro gt ct wt ve kD Dy Pc;obtain⟨pJ,Pd⟩:=qp.fo ve kD Dy rfl;have Dz:=ow.grown kD (fun e=>absurd (Dx _ e.symm) (Nat.lt_irrefl _))
 refine hK.out _ _ ?_ (fun aq=>?_)
 · exact⟨pJ,Dz⟩
 clear hK K al;have al:=aq;clear aq;try simp only[Act.put,List.setIfInBounds_toArray,List.set_cons_zero,List.set_cons_succ];refine last.ax (i:=9) (o:=qO3) (by aa) rfl (fun K hK=>?_)
 af;refine hK.out _ _ ?_ (fun aq=>?_)
 · exact al
 clear hK K al;have al:=aq;clear aq;try simp only[Act.put,List.setIfInBounds_toArray,List.set_cons_zero,List.set_cons_succ];refine last.ae (i:=10) (v:=(.pointer (some ⟨X,2,none⟩))) rfl rfl (by aa) (by aa) (by aa) (by aa) (fun _ _ _ h=>h) (Or.inl ⟨by rfl,?_⟩) (by assumption) ?_
 · intro wq aC; af
 try simp only[Act.put,List.setIfInBounds_toArray,List.set_cons_zero,List.set_cons_succ];have et:=pJ.cells.2.2;have ft:=pJ.fz 2;refine last.aL (o:=qO4) (by aa) rfl (by aa) (fun K hK=>?_)
 af;refine hK.out _ _ ?_;clear hK K;generalize WA:wt.setCell ⟨X,2,none⟩ (.slice (some ⟨gt,0,none⟩) (s.2.2.length+1) ct)=wz at *;ab fail;an;exact⟨rfl,Pd.fr⟩
theorem Ju(N:Prop)(w0:World)(F0:List Nat)(w:World)(X:Nat)(am:Option Addr)(nm cm:Nat)(ah:Option Addr)(ch:Nat)(vs:Value)(s:St)(hs:List Value)(tx:Int)(a:Option Addr)(len cap:Nat)(ops:List Od)
 (hK:Kept N w0 F0 w X am nm cm ah ch vs s hs) (dT:dS w a len ops) (dV:∀p∈ops,p.2.1.size≤1099511627776) (bR:bu (2,tx,ops)=true) (y6:s.2.2.length≤1099511627776) (gI:aR tx s.2.1=none):
 Calls Tryz.prog 98 #[.pointer (some ⟨X,0,none⟩),.agg #[.int .i64 2,.int .i64 tx,.slice a len cap]] w (gG N w0 F0 X none):=by
 have Ml:∀k,(Value.slice ah s.2.1.length ch).ownBlock=some k→k<w.heap.size:=fun k e=>(hK.held.row.lt k e).2
 have NJ:X<w.heap.size:=hK.box.lt;have Dx:∀k,vs.ownBlock=some k→k<w.heap.size:=fun k e=>(hK.seen.lt k e).2
 obtain⟨z0,CX,zh,Hu,Cs⟩:=info_parts pT;have jx:s.2.2.length+1≤maxLen:=by unfold maxLen; omega
 have eU:(s.2.2.length+1) * 8≤140737488355328:=by omega
 obtain⟨sa,sc,jT,zf⟩:=hK.seen.sl;subst jT;obtain⟨V,hV⟩:∃V,V=w.alloc (.cells #[.int .i64 2,.int .i64 tx,.slice a len cap] 98):=⟨_,rfl⟩;have fv:Below w.heap.size w V:=by rw[hV]; exact(Below.refl _ _).alloc (Nat.le_refl _) _
 have bI:dt w.heap.size 2 tx (.slice a len cap) V:=by rw[hV]; exact cG _ _ _ _
 have g_:=hK.below fv;have jf:=g_.box.lt;have mg:=bI.lt;have y1:=last.On.cell (B:=V.heap.size) g_.box.cells.2.1 jf;have y2:=last.On.cell (B:=V.heap.size) bI.cells.2.1 mg;have lP:∀x9:last.On V.heap.size V,Calls Tryz.prog 137 #[.slice ah s.2.1.length ch,.int .i64 tx] x9.w fun e w'=>e=.returned (.int .i64 (fL (aR tx s.2.1)))∧∃y9:last.On V.heap.size V,w'=y9.w:=fun x9=>last.Calls.on x9 (Nat.le_refl _) ((eA _ _ ch s.2.1 tx x9.w (g_.held.below x9.2).sl).mono (fun e w' h=>⟨h.1,h.2 ▸ Below.refl _ _⟩))
 have br:=last.On.iq V.heap.size V;have HV:=Hid.mk' hV.symm;clear hV;rw[gI,show fL none= -1 from rfl] at lP
 aj Tryz.func98,Tryz.ntmps98;ab fail;rw[HV.out];refine last.ar V.heap.size (by aa) (by aa) ?_
 repeat(ai ((ao 137; ag exact lP _)))
 refine wpQuiet_nil ?_;intro w1 bL;obtain⟨x1,bL⟩:=bL;have a_:Below V.heap.size V w1:=by rw[bL]; exact x1.2
 clear bL x1;have dM:=bI.below a_;have wV:=g_.below a_;have fl:=Hid.mk' (eh 2 tx a len cap ops w1 ((dT.below fv).below a_) dV);obtain⟨d0,d1,d2⟩:=dM.cells;clear y1 y2 lP br;ab fail;refine fl.out.mono ?_;rintro e w2 ⟨rfl,be⟩;rw[bR];have fy:=wV.below be;have cv:=dM.below be;have nG:=((dT.below fv).below a_).below be;have pI:=((zf.below fv).below a_).below be;clear d0 d1 d2 fl HV dM bI g_ jf mg;obtain⟨d0,d1,d2⟩:=cv.cells;have fm:=fy.box.lt;have dF:=cv.lt;have o0:=last.On.cell (B:=w2.heap.size) fy.box.cells.1 fm;have o1:=last.On.cell (B:=w2.heap.size) fy.box.cells.2.1 fm;have o2:=last.On.cell (B:=w2.heap.size) fy.box.cells.2.2 fm;have o3:=last.On.cell (B:=w2.heap.size) cv.cells.1 dF;have o4:=last.On.cell (B:=w2.heap.size) cv.cells.2.1 dF;have o5:=last.On.cell (B:=w2.heap.size) cv.cells.2.2 dF
 have kC:=last.On.iq w2.heap.size w2;have jF:∀x9:last.On w2.heap.size w2,Calls Tryz.prog 102 #[.slice sa s.2.2.length sc,.int .i64 tx] x9.w fun e w'=>e=.returned (.bool (decide (tx∈s.2.2)))∧∃y9:last.On w2.heap.size w2,w'=y9.w:=fun x9=>last.Calls.on x9 (Nat.le_refl _) ((cX sa s.2.2.length sc s.2.2 tx x9.w (pI.below x9.2)).mono (fun e w' h=>⟨h.1,h.2 ▸ Below.refl _ _⟩))
 ab fail;refine last.ar w2.heap.size (by aa) (by aa) ?_
 repeat(ai ((ao 102; ag exact jF _)))
 refine wpQuiet_nil ?_;intro w5 cf;obtain⟨x5,cf⟩:=cf;have dx:Below w2.heap.size w2 w5:=by rw[cf]; exact x5.2
 clear cf x5 kC o0 o1 o2 o3 o4 o5 jF d0 d1 d2;have sg:=fy.below dx;have oe:=cv.below dx;have rR:Below w5.heap.size w5 w5.drew:=(Below.refl _ _).drew;ab fail;refine last.aB (S:=fun w'=>gE X (.slice am nm cm) (.slice ah s.2.1.length ch) (.slice sa s.2.2.length sc) w'∧dt w.heap.size 2 tx (.slice a len cap) w') 11 (by aa) ⟨(sg.box).below rR,oe.below rR⟩ (fun al=>?_)
 refine last.ae (i:=0) (v:=(.pointer (some ⟨X,0,none⟩))) rfl rfl (by aa) (by aa) (by aa) (by aa) (fun _ _ _ h=>h) (Or.inl ⟨by rfl,?_⟩) (by assumption) ?_
 · intro wq aC; af
 try simp only[Act.put,List.setIfInBounds_toArray,List.set_cons_zero,List.set_cons_succ];refine last.ae (i:=1) (v:=(.pointer (some ⟨X,0,none⟩))) rfl rfl (by aa) (by aa) (by aa) (by aa) (fun _ _ _ h=>h) (Or.inl ⟨by rfl,?_⟩) (by assumption) ?_
 · intro wq aC; af
 try simp only[Act.put,List.setIfInBounds_toArray,List.set_cons_zero,List.set_cons_succ];refine last.ae (i:=2) (v:=(.pointer (some ⟨X,0,none⟩))) rfl rfl (by aa) (by aa) (by aa) (by aa) (fun _ _ _ h=>h) (Or.inl ⟨by rfl,?_⟩) (by assumption) ?_
 · intro wq aC; af
 try simp only[Act.put,List.setIfInBounds_toArray,List.set_cons_zero,List.set_cons_succ];refine last.ae (i:=3) (v:=(.pointer (some ⟨X,2,none⟩))) rfl rfl (by aa) (by aa) (by aa) (by aa) (fun _ _ _ h=>h) (Or.inl ⟨by rfl,?_⟩) (by assumption) ?_
 · intro wq aC; af
 try simp only[Act.put,List.setIfInBounds_toArray,List.set_cons_zero,List.set_cons_succ];refine last.ae (i:=4) (v:=(.slice sa s.2.2.length sc)) rfl rfl (by aa) (by aa) (by aa) (by aa) (fun _ _ _ h=>h) (Or.inl ⟨by rfl,?_⟩) (by assumption) ?_
 · intro wq aC; have q:=aC.1.cells.2.2; af
 try simp only[Act.put,List.setIfInBounds_toArray,List.set_cons_zero,List.set_cons_succ];refine last.ae (i:=5) (v:=(.pointer (some ⟨w.heap.size,1,none⟩))) rfl rfl (by aa) (by aa) (by aa) (by aa) (fun _ _ _ h=>h) (Or.inl ⟨by rfl,?_⟩) (by assumption) ?_
 · intro wq aC; af
 try simp only[Act.put,List.setIfInBounds_toArray,List.set_cons_zero,List.set_cons_succ];refine last.ae (i:=6) (v:=(.int .i64 tx)) rfl rfl (by aa) (by aa) (by aa) (by aa) (fun _ _ _ h=>h) (Or.inl ⟨by rfl,?_⟩) (by assumption) ?_
 · intro wq aC; have q:=aC.2.cells.2.1; af
 try simp only[Act.put,List.setIfInBounds_toArray,List.set_cons_zero,List.set_cons_succ];refine last.ax (i:=7) (o:=qO1) (by aa) rfl (fun K hK=>?_)
 af;have ta:Below w5.heap.size w5 (w5.drew.alloc (.cells #[.int .i64 tx] 3)):=rR.alloc rR.size _;have qp:=sg.below ta;have ow:=oe.below ta;refine hK.out _ _ ?_ (fun aq=>?_)
 · exact⟨qp.box,ow⟩
 clear hK K al;have al:=aq;clear aq;try simp only[Act.put,List.setIfInBounds_toArray,List.set_cons_zero,List.set_cons_succ];refine last.ax (i:=8) (o:=qO2) (by aa) rfl (fun K hK=>?_)
 refine step_append_lies _ rfl (.tmp 87) (.tmp 90) 54 rfl 0 3 z0 (.int .i64 0) 1 8 Tryz.underlying54 CX zh Hu Cs rfl (by decide) _ _ _ rfl qp.seen ⟨w5.heap.size,0,none⟩ 1 1 (bg [tx]) rfl rfl (eM _ _ _) (cq _) (by decide) jx eU (Nat.zero_le _) _ rfl ?_
 intro gt ct wt ve kD Dy Pc;obtain⟨pJ,Pd⟩:=qp.fo ve kD Dy rfl;have Dz:=ow.grown kD (fun e=>absurd (Dx _ e.symm) (Nat.lt_irrefl _))
 refine hK.out _ _ ?_ (fun aq=>?_)
 · exact⟨pJ,Dz⟩
 clear hK K al;have al:=aq;clear aq;try simp only[Act.put,List.setIfInBounds_toArray,List.set_cons_zero,List.set_cons_succ];refine last.ax (i:=9) (o:=qO3) (by aa) rfl (fun K hK=>?_)
 af;refine hK.out _ _ ?_ (fun aq=>?_)
 · exact al
 clear hK K al;have al:=aq;clear aq;try simp only[Act.put,List.setIfInBounds_toArray,List.set_cons_zero,List.set_cons_succ];refine last.ae (i:=10) (v:=(.pointer (some ⟨X,2,none⟩))) rfl rfl (by aa) (by aa) (by aa) (by aa) (fun _ _ _ h=>h) (Or.inl ⟨by rfl,?_⟩) (by assumption) ?_
 · intro wq aC; af
 try simp only[Act.put,List.setIfInBounds_toArray,List.set_cons_zero,List.set_cons_succ];have et:=pJ.cells.2.2;have ft:=pJ.fz 2;refine last.aL (o:=qO4) (by aa) rfl (by aa) (fun K hK=>?_)
 af;refine hK.out _ _ ?_;clear hK K;generalize WA:wt.setCell ⟨X,2,none⟩ (.slice (some ⟨gt,0,none⟩) (s.2.2.length+1) ct)=wz at *;ab fail;an;exact⟨rfl,Pd.fr⟩
end bm
namespace bm
open Go Go.RowKit base aE aX
theorem pW(l:List Rc)(hs:List Value)(h:hs.length=l.length)(k:Nat):bk l hs=bk (l.take k) (hs.take k)++bk (l.drop k) (hs.drop k):=by
 conv=>lhs; rw[←List.take_append_drop k l,←List.take_append_drop k hs]
 rw[fY];simp[h]
theorem bB.sj{w:World}{base g n cap:Nat}{l:List Rc}{hs:List Value}(h:bB w base (.slice (some ⟨g,0,none⟩) n cap) l hs)(k:Nat):∀j u,(bk (l.take k) (hs.take k))[j]? =some u→w.cell? ((⟨g,0,none⟩:Addr).add j)=some u:=by
 intro j u hu;obtain rfl:=h.nF;refine h.row.cells (g:=g) rfl j u ?_;rw[pW l hs h.len k,List.getElem?_append_left (List.getElem?_eq_some_iff.1 hu).1];exact hu
theorem bB.sk{w:World}{base g n cap:Nat}{l:List Rc}{hs:List Value}(h:bB w base (.slice (some ⟨g,0,none⟩) n cap) l hs)(k:Nat)(hk:k≤l.length):∀j u,(bk (l.drop k) (hs.drop k))[j]? =some u→w.cell? ((⟨g,k * 3,none⟩:Addr).add j)=some u:=by
 intro j u hu;obtain rfl:=h.nF;have hl:=h.len;have bn:(bk (l.take k) (hs.take k)).length=k * 3:=by rw[ee _ _ (by simp[hl])]; simp; omega
 have:=h.row.cells (g:=g) rfl (k * 3+j) u (by
  rw[pW l hs h.len k,List.getElem?_append_right (by omega),bn,Nat.add_sub_cancel_left]
  exact hu)
 rw[Addr.add_lit,Nat.zero_add] at this;rw[Addr.add_lit];exact this
theorem bB.erase{w w':World}{base g g' n c c':Nat}{l:List Rc}{hs:List Value}(h:bB w base (.slice (some ⟨g,0,none⟩) n c) l hs)(hb:Below w.heap.size w w')(k:Nat)(hk:k<l.length){n':Nat}(hn:n'=l.length - 1)
 (aK:w'.ownsRow base 98 3 (.slice (some ⟨g',0,none⟩) n' c') n' (bk (l.take k++l.drop (k+1)) (hs.take k++hs.drop (k+1)))):
 bB w' base (.slice (some ⟨g',0,none⟩) (l.take k++l.drop (k+1)).length c') (l.take k++l.drop (k+1)) (hs.take k++hs.drop (k+1)):=by
 have hl:=h.len;have hlen:(l.take k++l.drop (k+1)).length=n':=by simp; omega
 rw[hlen];have cT:∀i (hi:i<(l.take k++l.drop (k+1)).length),cS w' base ((hs.take k++hs.drop (k+1))[i]'(by simp at hi ⊢; omega)) (l.take k++l.drop (k+1))[i].2.2:=by
  intro i hi;by_cases e:i<k
  · have h1:(l.take k++l.drop (k+1))[i]=l[i]'(by omega):=by
     rw[List.getElem_append_left (by simp; omega)]; simp
    have h2:(hs.take k++hs.drop (k+1))[i]'(by simp at hi ⊢; omega)=hs[i]'(by omega):=by
     rw[List.getElem_append_left (by simp; omega)]; simp
    rw[h1,h2];exact(h.ops i (by omega)).below hb
  · have Q1:i+1<l.length:=by simp at hi; omega
    have h1:(l.take k++l.drop (k+1))[i]=l[i+1]'Q1:=by
     rw[List.getElem_append_right (by simp; omega)]
     simp only[List.getElem_drop]
     congr 1
     simp; omega
    have h2:(hs.take k++hs.drop (k+1))[i]'(by simp at hi ⊢; omega)=hs[i+1]'(by omega):=by
     rw[List.getElem_append_right (by simp; omega)]
     simp only[List.getElem_drop]
     congr 1
     simp; omega
    rw[h1,h2];exact(h.ops (i+1) Q1).below hb
 have yE:(hs.take k++hs.drop (k+1)).Sublist hs:=by
  rw[←List.eraseIdx_eq_take_drop_succ]; exact List.eraseIdx_sublist _ _
 refine⟨by simp; omega,fun x hx=>h.sm x ?_,by rw[hlen]; exact aK,cT,h.apart.sublist yE,fun j hj y hy e=>?_⟩
 · rcases List.mem_append.1 hx with h1 | h1
   · exact List.mem_of_mem_take h1
   · exact List.mem_of_mem_drop h1
 · obtain⟨i,hi,rfl⟩:=List.getElem_of_mem hy;exact gC aK (cT i (by simp at hi ⊢; omega)).2 hj e (by decide)
theorem mh{l:List Rc}{k:Nat}(h:k<l.length):cn l k=l[k].2.2:=by unfold cn; rw[List.getElem?_eq_getElem h]
theorem jq{tx:Int}:∀ {l:List Rc} {k:Nat},aR tx l=some k→k<l.length
 | [],_,h=>by cases h
 | r::l,k,h=>by
  rw[aR] at h
  split at h
  · cases h; simp
  · cases hq:aR tx l with
    | none=>rw[hq] at h; cases h
    | some j=>
     rw[hq] at h;simp only[Option.map_some,Option.some.injEq] at h;subst h;have:=jq hq;simp; omega
end bm
end Go.Proofs.YtmibabclefgljaaGreat
