/- RecZf RecZg RecZh -/
import Derived.Test.YtmibabclefgljaaGreatShai
set_option linter.unusedVariables false
set_option linter.unusedSimpArgs false
set_option maxRecDepth 100000
set_option maxHeartbeats 4000000
namespace Go.Proofs.YtmibabclefgljaaGreat
open Go in
abbrev qO1:Oper:={dst:=some 90,op:=Op.buildSlice 54 1 #[(0,Operand.tmp 89)],type:=54,pos:= "l08_record.go:129",after:=#[{on:=6,ground:=Ground.data}],guard:=none}
open Go in
abbrev qO2:Oper:={dst:=some 91,op:=Op.call {callee:=Callee.builtin Builtin.append,args:=#[Operand.tmp 87,Operand.tmp 90],argTypes:=#[54,54]},type:=54,pos:= "l08_record.go:129",after:=#[{on:=4,ground:=Ground.data},{on:=7,ground:=Ground.data}],guard:=none}
open Go in
abbrev qO3:Oper:={dst:=some 92,op:=Op.nilCheck (Operand.tmp 83),type:=0,pos:= "l08_record.go:129",after:=#[{on:=0,ground:=Ground.data},{on:=0,ground:=Ground.phase},{on:=1,ground:=Ground.phase},{on:=2,ground:=Ground.phase},{on:=3,ground:=Ground.phase},{on:=4,ground:=Ground.phase},{on:=5,ground:=Ground.phase},{on:=6,ground:=Ground.phase},{on:=7,ground:=Ground.phase},{on:=8,ground:=Ground.phase}],guard:=none}
open Go in
abbrev qO4:Oper:={dst:=none,op:=Op.store 54 (Operand.tmp 93) (Operand.tmp 91),type:=0,pos:= "l08_record.go:129",after:=#[{on:=10,ground:=Ground.data},{on:=8,ground:=Ground.data},{on:=8,ground:=Ground.chain},{on:=0,ground:=Ground.phase},{on:=1,ground:=Ground.phase},{on:=2,ground:=Ground.phase},{on:=3,ground:=Ground.phase},{on:=4,ground:=Ground.phase},{on:=5,ground:=Ground.phase},{on:=6,ground:=Ground.phase},{on:=7,ground:=Ground.phase},{on:=8,ground:=Ground.phase}],guard:=none}
namespace fx
open Go Go.RowKit
theorem cq{P:Program}{ops:Array Oper}{o:Oper}{a:Act}{w:World}{K:Act→World→Prop}{Q:Exit→Act→World→Prop}{E:Prop}(qC:o.guard=none)(f:FuncId)(x:Operand)(ts:Array TypeId)
 (ho:o.op=.call {callee:=.value (.func f),args:=#[x],argTypes:=ts}) (uN:∀args w,(callFunc f args).run P w=.ok (.enter f args) w)
 (v1:Value) (h1:a.eval x=v1) (R:Ending→World→Prop) (hc:Calls P f #[v1] w R)
 (h:∀e w',R e w'→∃v,e=.returned v∧K (a.put o.dst v) w'):
 if Region.wanted o (yielded ops a.tmps)=true then Oper.wp P o a w K Q else E:=by
 have hw:Region.wanted o (yielded ops a.tmps)=true:=by simp[Region.wanted,qC]
 rw[if_pos hw];unfold Oper.wp execOp;have hf:a.eval (.func f)=.func (.func f) #[] #[]:=rfl;have Jf:(Deferred.ofValue (Value.func (Fn.func f) #[] #[]) #[v1]).run P w=.ok {target:=.fn (.func f) #[],args:=#[v1]} w:=rfl;simp only[ho,resolve,invoke,Sem.run_bind,List.map_toArray,List.map_cons,List.map_nil,h1,hf,Jf,Result.andThen_ok,uN];show Calls P f #[v1] w _;exact hc.mono (fun e w' he=>by obtain⟨v,rfl,hr⟩:=h e w' he; exact hr)
end fx
namespace aZ
open Go Go.RowKit base av aN
theorem iU{w:World}{base:Nat}{e:TypeId}{size:Nat}{v:Value}{n:Nat}{xs:List Value}(h:w.ownsRow base e size v n xs)(h0:¬v=.slice none 0 0):∃g c,v=.slice (some ⟨g,0,none⟩) n c:=by
 rcases h.2 with⟨h',_⟩ | ⟨g,c,cur,rfl,_⟩
 · exact absurd h' h0
 · exact⟨g,c,rfl⟩
theorem Ez{N:Prop}{w0 w:World}{F0:List Nat}{X nm cm ch:Nat}{am ah:Option Addr}{vs:Value}{m:List Pr}{l:List Rc}{x:Rc}{z:List Int}{hs:List Value}(h:Kept N w0 F0 w X am nm cm ah ch vs (m,l++[x],z) hs):fZ X (.slice am nm cm) (.slice ah (l.length+1) ch) vs w:=by
 have:=h.box;simpa using this
theorem AO(N:Prop)(w0:World)(F0:List Nat)(w:World)(X:Nat)(am:Option Addr)(nm cm:Nat)(ah:Option Addr)(ch:Nat)(vs:Value)(s:St)(hs:List Value)(tx:Int)(a:Option Addr)(len cap:Nat)(ops:List Od)
 (hK:Kept N w0 F0 w X am nm cm ah ch vs s hs) (dE:dD w a len ops) (dG:∀p∈ops,p.2.1.size≤1099511627776) (bD:bf (1,tx,ops)=true) (xo:h_ (1,tx,ops)) (hlen:len≤1099511627776) (Lb:s.2.1.length≤1099511627776) (yI:s.2.2.length≤1099511627776) (h1:decide (tx∈s.2.2)=false) (h2:locked s.2.1 ops=false) (h3:meets s.1 ops=true):
 Calls Tryz.prog 98 #[.pointer (some ⟨X,0,none⟩),.agg #[.int .i64 1,.int .i64 tx,.slice a len cap]] w (ga N w0 F0 X (some (s.1,s.2.1++[(1,tx,ops)],s.2.2++[tx]))):=by
 have L_:∀k,(Value.slice ah s.2.1.length ch).ownBlock=some k→k<w.heap.size:=fun k e=>(hK.held.row.lt k e).2
 have hw0w:w0.heap.size≤w.heap.size:=hK.fr.size;have Nw:X<w.heap.size:=hK.box.lt;have Dh:∀k,vs.ownBlock=some k→k<w.heap.size:=fun k e=>(hK.seen.lt k e).2
 obtain⟨i0,hi,dm,dk,cA⟩:=info_parts mA;obtain⟨z0,CI,yR,Hj,Cb⟩:=info_parts pA;have fD:s.2.1.length+1≤maxLen:=by unfold maxLen; omega
 have jX:(s.2.1.length+1) * 40≤140737488355328:=by omega
 have je:s.2.2.length+1≤maxLen:=by unfold maxLen; omega
 have eG:(s.2.2.length+1) * 8≤140737488355328:=by omega
 obtain⟨sa,sc,jC,yQ⟩:=hK.seen.sl;subst jC;obtain⟨V,hV⟩:∃V,V=w.alloc (.cells #[.int .i64 1,.int .i64 tx,.slice a len cap] 98):=⟨_,rfl⟩;have fb:Below w.heap.size w V:=by rw[hV]; exact(Below.refl _ _).alloc (Nat.le_refl _) _
 have bt:da w.heap.size 1 tx (.slice a len cap) V:=by rw[hV]; exact cd _ _ _ _
 have gK:=hK.below fb;have iN:=gK.box.lt;have lS:=bt.lt;have y1:=last.On.cell (B:=V.heap.size) gK.box.cells.2.1 iN;have y2:=last.On.cell (B:=V.heap.size) bt.cells.2.1 lS;have lv:∀x9:last.On V.heap.size V,Calls Tryz.prog 137 #[.slice ah s.2.1.length ch,.int .i64 tx] x9.w fun e w'=>e=.returned (.int .i64 (fw (aH tx s.2.1)))∧∃y9:last.On V.heap.size V,w'=y9.w:=fun x9=>last.Calls.on x9 (Nat.le_refl _) ((ed _ _ ch s.2.1 tx x9.w (gK.held.below x9.2).sl).mono (fun e w' h=>⟨h.1,h.2 ▸ Below.refl _ _⟩))
 have a_:=last.On.gV V.heap.size V;have HV:=Hid.mk' hV.symm;clear hV;generalize hP:fw (aH tx s.2.1)=P at lv;go_enter Tryz.func98,Tryz.ntmps98;go_wp2_with fail;rw[HV.out];refine last.ai V.heap.size (by kernel_rfl) (by kernel_rfl) ?_
 repeat(go_big_quiet_step ((go_at_call 137; with_reducible exact lv _)))
 refine wpQuiet_nil ?_;intro w1 bx;obtain⟨x1,bx⟩:=bx;have aT:Below V.heap.size V w1:=by rw[bx]; exact x1.2
 clear bx x1;have dx:=bt.below aT;have wD:=gK.below aT;have eX:=Hid.mk' (dR 1 tx a len cap ops w1 ((dE.below fb).below aT) dG);obtain⟨d0,d1,d2⟩:=dx.cells;clear y1 y2 lv a_;go_wp2_with fail;refine eX.out.mono ?_;rintro e w2 ⟨rfl,aU⟩;rw[bD];have ff:=wD.below aU;have bV:=dx.below aU;have ng:=((dE.below fb).below aT).below aU;have pg:=((yQ.below fb).below aT).below aU;clear d0 d1 d2 eX HV dx bt gK iN lS;obtain⟨d0,d1,d2⟩:=bV.cells;have eY:=ff.box.lt;have dn:=bV.lt;have o0:=last.On.cell (B:=w2.heap.size) ff.box.cells.1 eY;have o1:=last.On.cell (B:=w2.heap.size) ff.box.cells.2.1 eY;have o2:=last.On.cell (B:=w2.heap.size) ff.box.cells.2.2 eY;have o3:=last.On.cell (B:=w2.heap.size) bV.cells.1 dn;have o4:=last.On.cell (B:=w2.heap.size) bV.cells.2.1 dn;have o5:=last.On.cell (B:=w2.heap.size) bV.cells.2.2 dn
 have ke:=last.On.gV w2.heap.size w2;have jo:∀x9:last.On w2.heap.size w2,Calls Tryz.prog 102 #[.slice sa s.2.2.length sc,.int .i64 tx] x9.w fun e w'=>e=.returned (.bool (decide (tx∈s.2.2)))∧∃y9:last.On w2.heap.size w2,w'=y9.w:=fun x9=>last.Calls.on x9 (Nat.le_refl _) ((cI sa s.2.2.length sc s.2.2 tx x9.w (pg.below x9.2)).mono (fun e w' h=>⟨h.1,h.2 ▸ Below.refl _ _⟩))
 have Ey:∀x9:last.On w2.heap.size w2,Calls Tryz.prog 139 #[.slice ah s.2.1.length ch,.slice a len cap] x9.w fun e w'=>e=.returned (.bool (locked s.2.1 ops))∧∃y9:last.On w2.heap.size w2,w'=y9.w:=fun x9=>last.Calls.on x9 (Nat.le_refl _) (jm _ _ ch s.2.1 a len cap ops x9.w (ff.held.below x9.2).sl (ng.below x9.2))
 have FQ:∀x9:last.On w2.heap.size w2,Calls Tryz.prog 140 #[.slice am nm cm,.slice a len cap] x9.w fun e w'=>e=.returned (.bool (meets s.1 ops))∧∃y9:last.On w2.heap.size w2,w'=y9.w:=fun x9=>last.Calls.on x9 (Nat.le_refl _) (j4 _ nm cm s.1 a len cap ops x9.w (ff.m.below x9.2).sl (ng.below x9.2))
 rw[h1] at jo;rw[h2] at Ey;rw[h3] at FQ;go_wp2_with fail;refine last.ai w2.heap.size (by kernel_rfl) (by kernel_rfl) ?_
 repeat(go_big_quiet_step (first | (go_at_call 102; with_reducible exact jo _) | (go_at_call 139; with_reducible exact Ey _) | (go_at_call 140; with_reducible exact FQ _)))
 refine wpQuiet_nil ?_;intro w5 bP;obtain⟨x5,bP⟩:=bP;have de:Below w2.heap.size w2 w5:=by rw[bP]; exact x5.2
 clear bP x5 ke o0 o1 o2 o3 o4 o5 jo Ey FQ d0 d1 d2;have rO:=ff.below de;have nM:=bV.below de;have jJ:Below w5.heap.size w5 w5.drew:=(Below.refl _ _).drew;have Wl:=ng.below de;have wE:=Hid.mk' (my 1 tx a len cap ops w5.drew (Wl.below jJ) hlen);go_wp2_with fail;refine last.aq (S:=fun w'=>fZ X (.slice am nm cm) (.slice ah s.2.1.length ch) (.slice sa s.2.2.length sc) w'∧da w.heap.size 1 tx (.slice a len cap) w') 11 (by kernel_rfl) ⟨rO.box.below jJ,nM.below jJ⟩ (fun af=>?_)
 refine last.wpTk 0 (.pointer (some ⟨X,0,none⟩)) rfl rfl ?_ ?_
 · intro wq ar; go_simp
 try simp only[Act.put,zP,zQ,zR]
 refine last.wpTk 1 (.pointer (some ⟨X,0,none⟩)) rfl rfl ?_ ?_
 · intro wq ar; go_simp
 try simp only[Act.put,zP,zQ,zR]
 refine last.wpTk 2 (.pointer (some ⟨X,0,none⟩)) rfl rfl ?_ ?_
 · intro wq ar; go_simp
 try simp only[Act.put,zP,zQ,zR]
 refine last.wpTk 3 (.pointer (some ⟨X,1,none⟩)) rfl rfl ?_ ?_
 · intro wq ar; go_simp
 try simp only[Act.put,zP,zQ,zR]
 refine last.wpTk 4 (.slice ah s.2.1.length ch) rfl rfl ?_ ?_
 · intro wq ar; have q:=ar.1.cells.2.1; go_simp
 try simp only[Act.put,zP,zQ,zR]
 refine last.wpTk 5 (.agg #[.int .i64 1,.int .i64 tx,.slice a len cap]) rfl rfl ?_ ?_
 · intro wq ar; obtain⟨q1,q2,q3⟩:=ar.2.cells; go_simp
 try simp only[Act.put,zP,zQ,zR]
 refine last.an (i:=6) (o:={dst:=some 52,op:=Op.call {callee:=Callee.value (Operand.func 133),args:=#[Operand.tmp 51],argTypes:=#[98]},type:=98,pos:= "l08_record.go:123",after:=#[{on:=5,ground:=Ground.data}],guard:=none}) (by kernel_rfl) rfl (fun K hK=>?_)
 refine fx.cq rfl 133 (.tmp 51) _ rfl (fun _ _=>rfl) _ rfl _ wE.out ?_
 rintro e w6 ⟨g6,c6,rfl,dV,mj⟩;refine⟨_,rfl,?_⟩;have AP:=(rO.below jJ).below mj;have C4:=(nM.below jJ).below mj;refine hK.out _ _ ?_ (fun ag=>?_)
 · exact⟨AP.box,C4⟩
 clear hK K af;have af:=ag;clear ag;try simp only[Act.put,zP,zQ,zR]
 refine last.an (i:=7) (o:={dst:=some 53,op:=Op.buildSlice 41 1 #[(0,Operand.tmp 52)],type:=41,pos:= "l08_record.go:123",after:=#[{on:=6,ground:=Ground.data}],guard:=none}) (by kernel_rfl) rfl (fun K hK=>?_)
 go_simp;have cP:Below w6.heap.size w6 (w6.alloc (.cells #[.int .i64 1,.int .i64 tx,.slice (some ⟨g6,0,none⟩) len c6] 98)):=(Below.refl _ _).alloc (Nat.le_refl _) _;have Jg:=AP.below cP;have O1:=C4.below cP;refine hK.out _ _ ?_ (fun ag=>?_)
 · exact⟨Jg.box,O1⟩
 clear hK K af;have af:=ag;clear ag;try simp only[Act.put,zP,zQ,zR]
 refine last.an (i:=8) (o:={dst:=some 54,op:=Op.call {callee:=Callee.builtin Builtin.append,args:=#[Operand.tmp 50,Operand.tmp 53],argTypes:=#[41,41]},type:=41,pos:= "l08_record.go:123",after:=#[{on:=4,ground:=Ground.data},{on:=7,ground:=Ground.data},{on:=6,ground:=Ground.chain}],guard:=none}) (by kernel_rfl) rfl (fun K hK=>?_)
 have pM:=(fv dV).mono (base':=0) (Nat.zero_le _);have pC:=pM.below cP;refine step_append_lies _ rfl (.tmp 50) (.tmp 53) 41 rfl 0 98 i0 (.agg #[.int .i64 0,.int .i64 0,.slice none 0 0]) 3 40 Tryz.underlying41 hi dm dk cA rfl (by decide) _ _ _ rfl Jg.held.row ⟨w6.heap.size,0,none⟩ 1 1 [.int .i64 1,.int .i64 tx,.slice (some ⟨g6,0,none⟩) len c6] rfl rfl (iR w6 1 tx _ _) (lQ 1 tx pM.one) (by decide) fD jX (Nat.zero_le _) _ rfl ?_
 intro g8 c8 w8 fQ bK iG uO;have jz:∀j,(Value.slice (some ⟨g6,0,none⟩) len c6).ownBlock=some j→¬c_ (.slice ah s.2.1.length ch) hs j:=fun j hj hb=>by
  have e1:g6=j:=by simpa[Value.ownBlock] using hj
  have h1:=((rO.below jJ).held.lt j hb).2;have h2:=dV.lt.1;omega
 have UL:∀j,(Value.slice (some ⟨g6,0,none⟩) len c6).ownBlock=some j→w0.heap.size≤j:=fun j hj=>by
  have e1:g6=j:=by simpa[Value.ownBlock] using hj
  have h1:=(rO.below jJ).fr.size;have h2:=dV.lt.1;omega
 obtain⟨Jh,Zq⟩:=Jg.hold (x:=(1,tx,ops)) pC xo jz UL fQ bK iG rfl;have FU:=O1.grown bK (fun e=>absurd (L_ _ e.symm) (Nat.lt_irrefl _))
 refine hK.out _ _ ?_ (fun ag=>?_)
 · exact⟨Jh,FU⟩
 clear hK K af;have af:=ag;clear ag;try simp only[Act.put,zP,zQ,zR]
 refine last.an (i:=9) (o:={dst:=some 55,op:=Op.nilCheck (Operand.tmp 46),type:=0,pos:= "l08_record.go:123",after:=#[{on:=0,ground:=Ground.data},{on:=0,ground:=Ground.phase},{on:=1,ground:=Ground.phase},{on:=2,ground:=Ground.phase},{on:=3,ground:=Ground.phase},{on:=4,ground:=Ground.phase},{on:=5,ground:=Ground.phase},{on:=6,ground:=Ground.phase},{on:=7,ground:=Ground.phase},{on:=8,ground:=Ground.phase}],guard:=none}) (by kernel_rfl) rfl (fun K hK=>?_)
 go_simp;refine hK.out _ _ ?_ (fun ag=>?_)
 · exact af
 clear hK K af;have af:=ag;clear ag;try simp only[Act.put,zP,zQ,zR]
 refine last.wpTk 10 (.pointer (some ⟨X,1,none⟩)) rfl rfl ?_ ?_
 · intro wq ar; go_simp
 try simp only[Act.put,zP,zQ,zR]
 have e8:=Jh.cells.2.1;have f8:=Jh.fz 1;refine last.aC (o:={dst:=none,op:=Op.store 41 (Operand.tmp 56) (Operand.tmp 54),type:=0,pos:= "l08_record.go:123",after:=#[{on:=10,ground:=Ground.data},{on:=8,ground:=Ground.data},{on:=8,ground:=Ground.chain},{on:=0,ground:=Ground.phase},{on:=1,ground:=Ground.phase},{on:=2,ground:=Ground.phase},{on:=3,ground:=Ground.phase},{on:=4,ground:=Ground.phase},{on:=5,ground:=Ground.phase},{on:=6,ground:=Ground.phase},{on:=7,ground:=Ground.phase},{on:=8,ground:=Ground.phase}],guard:=none}) (by kernel_rfl) rfl (by kernel_rfl) (fun K hK=>?_)
 go_simp;refine hK.out _ _ ?_;clear hK K;have Zr:=bw Jh 1 (.slice (some ⟨g8,0,none⟩) (s.2.1.length+1) c8);have R_:=FU.grown Zr.2 (fun e=>absurd (show w.heap.size=X by simpa using e) (Nat.ne_of_gt Nw))
 generalize O2:w8.setCell ⟨X,1,none⟩ (.slice (some ⟨g8,0,none⟩) (s.2.1.length+1) c8)=w9 at *;clear O2 Zr fQ bK iG uO af e8 f8 Jh FU jz UL pM pC Jg O1 cP dV AP C4 mj wE;have hL9:(s.2.1++[(1,tx,ops)]).length=s.2.1.length+1:=by simp
 have rv:Below w9.heap.size w9 w9.drew:=(Below.refl _ _).drew;go_wp2_with fail;refine last.aq (S:=fun w'=>fZ X (.slice am nm cm) (.slice (some ⟨g8,0,none⟩) (s.2.1.length+1) c8) (.slice sa s.2.2.length sc) w'∧da w.heap.size 1 tx (.slice a len cap) w') 11 (by kernel_rfl) ⟨(Ez Zq).below rv,R_.below rv⟩ (fun af=>?_)
 refine last.wpTk 0 (.pointer (some ⟨X,0,none⟩)) rfl rfl ?_ ?_
 · intro wq ar; go_simp
 try simp only[Act.put,zP,zQ,zR]
 refine last.wpTk 1 (.pointer (some ⟨X,0,none⟩)) rfl rfl ?_ ?_
 · intro wq ar; go_simp
 try simp only[Act.put,zP,zQ,zR]
 refine last.wpTk 2 (.pointer (some ⟨X,0,none⟩)) rfl rfl ?_ ?_
 · intro wq ar; go_simp
 try simp only[Act.put,zP,zQ,zR]
 refine last.wpTk 3 (.pointer (some ⟨X,2,none⟩)) rfl rfl ?_ ?_
 · intro wq ar; go_simp
 try simp only[Act.put,zP,zQ,zR]
 refine last.wpTk 4 (.slice sa s.2.2.length sc) rfl rfl ?_ ?_
 · intro wq ar; have q:=ar.1.cells.2.2; go_simp
 try simp only[Act.put,zP,zQ,zR]
 refine last.wpTk 5 (.pointer (some ⟨w.heap.size,1,none⟩)) rfl rfl ?_ ?_
 · intro wq ar; go_simp
 try simp only[Act.put,zP,zQ,zR]
 refine last.wpTk 6 (.int .i64 tx) rfl rfl ?_ ?_
 · intro wq ar; have q:=ar.2.cells.2.1; go_simp
 try simp only[Act.put,zP,zQ,zR]
 refine last.an (i:=7) (o:={dst:=some 64,op:=Op.buildSlice 54 1 #[(0,Operand.tmp 63)],type:=54,pos:= "l08_record.go:124",after:=#[{on:=6,ground:=Ground.data}],guard:=none}) (by kernel_rfl) rfl (fun K hK=>?_)
 go_simp;have sL:Below w9.heap.size w9 (w9.drew.alloc (.cells #[.int .i64 tx] 3)):=rv.alloc rv.size _;have pY:=Zq.below sL;have nS:=R_.below sL;refine hK.out _ _ ?_ (fun ag=>?_)
 · exact⟨Ez pY,nS⟩
 clear hK K af;have af:=ag;clear ag;try simp only[Act.put,zP,zQ,zR]
 refine last.an (i:=8) (o:={dst:=some 65,op:=Op.call {callee:=Callee.builtin Builtin.append,args:=#[Operand.tmp 61,Operand.tmp 64],argTypes:=#[54,54]},type:=54,pos:= "l08_record.go:124",after:=#[{on:=4,ground:=Ground.data},{on:=7,ground:=Ground.data}],guard:=none}) (by kernel_rfl) rfl (fun K hK=>?_)
 refine step_append_lies _ rfl (.tmp 61) (.tmp 64) 54 rfl 0 3 z0 (.int .i64 0) 1 8 Tryz.underlying54 CI yR Hj Cb rfl (by decide) _ _ _ rfl pY.seen ⟨w9.heap.size,0,none⟩ 1 1 (aV [tx]) rfl rfl (ew _ _ _) (bT _) (by decide) je eG (Nat.zero_le _) _ rfl ?_
 intro gt ct wt uP kf Di O3;obtain⟨ph,O4⟩:=pY.eZ uP kf Di rfl;simp only[List.length_append,List.length_singleton] at ph;have Dj:=nS.grown kf (fun e=>absurd (Dh _ e.symm) (Nat.lt_irrefl _))
 refine hK.out _ _ ?_ (fun ag=>?_)
 · exact⟨ph,Dj⟩
 clear hK K af;have af:=ag;clear ag;try simp only[Act.put,zP,zQ,zR]
 refine last.an (i:=9) (o:={dst:=some 66,op:=Op.nilCheck (Operand.tmp 57),type:=0,pos:= "l08_record.go:124",after:=#[{on:=0,ground:=Ground.data},{on:=0,ground:=Ground.phase},{on:=1,ground:=Ground.phase},{on:=2,ground:=Ground.phase},{on:=3,ground:=Ground.phase},{on:=4,ground:=Ground.phase},{on:=5,ground:=Ground.phase},{on:=6,ground:=Ground.phase},{on:=7,ground:=Ground.phase},{on:=8,ground:=Ground.phase}],guard:=none}) (by kernel_rfl) rfl (fun K hK=>?_)
 go_simp;refine hK.out _ _ ?_ (fun ag=>?_)
 · exact af
 clear hK K af;have af:=ag;clear ag;try simp only[Act.put,zP,zQ,zR]
 refine last.wpTk 10 (.pointer (some ⟨X,2,none⟩)) rfl rfl ?_ ?_
 · intro wq ar; go_simp
 try simp only[Act.put,zP,zQ,zR]
 have et:=ph.cells.2.2;have ft:=ph.fz 2;refine last.aC (o:={dst:=none,op:=Op.store 54 (Operand.tmp 67) (Operand.tmp 65),type:=0,pos:= "l08_record.go:124",after:=#[{on:=10,ground:=Ground.data},{on:=8,ground:=Ground.data},{on:=8,ground:=Ground.chain},{on:=0,ground:=Ground.phase},{on:=1,ground:=Ground.phase},{on:=2,ground:=Ground.phase},{on:=3,ground:=Ground.phase},{on:=4,ground:=Ground.phase},{on:=5,ground:=Ground.phase},{on:=6,ground:=Ground.phase},{on:=7,ground:=Ground.phase},{on:=8,ground:=Ground.phase}],guard:=none}) (by kernel_rfl) rfl (by kernel_rfl) (fun K hK=>?_)
 go_simp;refine hK.out _ _ ?_;clear hK K;generalize Wm:wt.setCell ⟨X,2,none⟩ (.slice (some ⟨gt,0,none⟩) (s.2.2.length+1) ct)=wz at *;go_wp2_with fail;go_ret;exact⟨rfl,_,_,_,_,_,_,_,O4⟩
end aZ
namespace aZ
open Go Go.RowKit base av aN
theorem AQ(N:Prop)(w0:World)(F0:List Nat)(w:World)(X:Nat)(am:Option Addr)(nm cm:Nat)(ah:Option Addr)(ch:Nat)(vs:Value)(s:St)(hs:List Value)(tx:Int)(a:Option Addr)(len cap:Nat)(ops:List Od)
 (hK:Kept N w0 F0 w X am nm cm ah ch vs s hs) (dE:dD w a len ops) (dG:∀p∈ops,p.2.1.size≤1099511627776) (bD:bf (3,tx,ops)=true) (yI:s.2.2.length≤1099511627776) (gd:aH tx s.2.1=none) (h1:decide (tx∈s.2.2)=false):
 Calls Tryz.prog 98 #[.pointer (some ⟨X,0,none⟩),.agg #[.int .i64 3,.int .i64 tx,.slice a len cap]] w (ga N w0 F0 X (some (s.1,s.2.1,s.2.2++[tx]))):=by
 have L_:∀k,(Value.slice ah s.2.1.length ch).ownBlock=some k→k<w.heap.size:=fun k e=>(hK.held.row.lt k e).2
 have Nw:X<w.heap.size:=hK.box.lt;have Dh:∀k,vs.ownBlock=some k→k<w.heap.size:=fun k e=>(hK.seen.lt k e).2
 obtain⟨z0,CI,yR,Hj,Cb⟩:=info_parts pA;have je:s.2.2.length+1≤maxLen:=by unfold maxLen; omega
 have eG:(s.2.2.length+1) * 8≤140737488355328:=by omega
 obtain⟨sa,sc,jC,yQ⟩:=hK.seen.sl;subst jC;obtain⟨V,hV⟩:∃V,V=w.alloc (.cells #[.int .i64 3,.int .i64 tx,.slice a len cap] 98):=⟨_,rfl⟩;have fb:Below w.heap.size w V:=by rw[hV]; exact(Below.refl _ _).alloc (Nat.le_refl _) _
 have bt:da w.heap.size 3 tx (.slice a len cap) V:=by rw[hV]; exact cd _ _ _ _
 have gK:=hK.below fb;have iN:=gK.box.lt;have lS:=bt.lt;have y1:=last.On.cell (B:=V.heap.size) gK.box.cells.2.1 iN;have y2:=last.On.cell (B:=V.heap.size) bt.cells.2.1 lS;have lv:∀x9:last.On V.heap.size V,Calls Tryz.prog 137 #[.slice ah s.2.1.length ch,.int .i64 tx] x9.w fun e w'=>e=.returned (.int .i64 (fw (aH tx s.2.1)))∧∃y9:last.On V.heap.size V,w'=y9.w:=fun x9=>last.Calls.on x9 (Nat.le_refl _) ((ed _ _ ch s.2.1 tx x9.w (gK.held.below x9.2).sl).mono (fun e w' h=>⟨h.1,h.2 ▸ Below.refl _ _⟩))
 have a_:=last.On.gV V.heap.size V;have HV:=Hid.mk' hV.symm;clear hV;rw[gd,show fw none= -1 from rfl] at lv
 go_enter Tryz.func98,Tryz.ntmps98;go_wp2_with fail;rw[HV.out];refine last.ai V.heap.size (by kernel_rfl) (by kernel_rfl) ?_
 repeat(go_big_quiet_step ((go_at_call 137; with_reducible exact lv _)))
 refine wpQuiet_nil ?_;intro w1 bx;obtain⟨x1,bx⟩:=bx;have aT:Below V.heap.size V w1:=by rw[bx]; exact x1.2
 clear bx x1;have dx:=bt.below aT;have wD:=gK.below aT;have eX:=Hid.mk' (dR 3 tx a len cap ops w1 ((dE.below fb).below aT) dG);obtain⟨d0,d1,d2⟩:=dx.cells;clear y1 y2 lv a_;go_wp2_with fail;refine eX.out.mono ?_;rintro e w2 ⟨rfl,aU⟩;rw[bD];have ff:=wD.below aU;have bV:=dx.below aU;have ng:=((dE.below fb).below aT).below aU;have pg:=((yQ.below fb).below aT).below aU;clear d0 d1 d2 eX HV dx bt gK iN lS;obtain⟨d0,d1,d2⟩:=bV.cells;have eY:=ff.box.lt;have dn:=bV.lt;have o0:=last.On.cell (B:=w2.heap.size) ff.box.cells.1 eY;have o1:=last.On.cell (B:=w2.heap.size) ff.box.cells.2.1 eY;have o2:=last.On.cell (B:=w2.heap.size) ff.box.cells.2.2 eY;have o3:=last.On.cell (B:=w2.heap.size) bV.cells.1 dn;have o4:=last.On.cell (B:=w2.heap.size) bV.cells.2.1 dn;have o5:=last.On.cell (B:=w2.heap.size) bV.cells.2.2 dn
 have ke:=last.On.gV w2.heap.size w2;have jo:∀x9:last.On w2.heap.size w2,Calls Tryz.prog 102 #[.slice sa s.2.2.length sc,.int .i64 tx] x9.w fun e w'=>e=.returned (.bool (decide (tx∈s.2.2)))∧∃y9:last.On w2.heap.size w2,w'=y9.w:=fun x9=>last.Calls.on x9 (Nat.le_refl _) ((cI sa s.2.2.length sc s.2.2 tx x9.w (pg.below x9.2)).mono (fun e w' h=>⟨h.1,h.2 ▸ Below.refl _ _⟩))
 rw[h1] at jo;go_wp2_with fail;refine last.ai w2.heap.size (by kernel_rfl) (by kernel_rfl) ?_
 repeat(go_big_quiet_step ((go_at_call 102; with_reducible exact jo _)))
 refine wpQuiet_nil ?_;intro w5 bP;obtain⟨x5,bP⟩:=bP;have de:Below w2.heap.size w2 w5:=by rw[bP]; exact x5.2
 clear bP x5 ke o0 o1 o2 o3 o4 o5 jo d0 d1 d2;have rO:=ff.below de;have nM:=bV.below de;have rv:Below w5.heap.size w5 w5.drew:=(Below.refl _ _).drew;go_wp2_with fail;refine last.aq (S:=fun w'=>fZ X (.slice am nm cm) (.slice ah s.2.1.length ch) (.slice sa s.2.2.length sc) w'∧da w.heap.size 3 tx (.slice a len cap) w') 11 (by kernel_rfl) ⟨(rO.box).below rv,nM.below rv⟩ (fun af=>?_)
 refine last.wpTk 0 (.pointer (some ⟨X,0,none⟩)) rfl rfl ?_ ?_
 · intro wq ar; go_simp
 try simp only[Act.put,zP,zQ,zR]
 refine last.wpTk 1 (.pointer (some ⟨X,0,none⟩)) rfl rfl ?_ ?_
 · intro wq ar; go_simp
 try simp only[Act.put,zP,zQ,zR]
 refine last.wpTk 2 (.pointer (some ⟨X,0,none⟩)) rfl rfl ?_ ?_
 · intro wq ar; go_simp
 try simp only[Act.put,zP,zQ,zR]
 refine last.wpTk 3 (.pointer (some ⟨X,2,none⟩)) rfl rfl ?_ ?_
 · intro wq ar; go_simp
 try simp only[Act.put,zP,zQ,zR]
 refine last.wpTk 4 (.slice sa s.2.2.length sc) rfl rfl ?_ ?_
 · intro wq ar; have q:=ar.1.cells.2.2; go_simp
 try simp only[Act.put,zP,zQ,zR]
 refine last.wpTk 5 (.pointer (some ⟨w.heap.size,1,none⟩)) rfl rfl ?_ ?_
 · intro wq ar; go_simp
 try simp only[Act.put,zP,zQ,zR]
 refine last.wpTk 6 (.int .i64 tx) rfl rfl ?_ ?_
 · intro wq ar; have q:=ar.2.cells.2.1; go_simp
 try simp only[Act.put,zP,zQ,zR]
 refine last.an (i:=7) (o:=qO1) (by kernel_rfl) rfl (fun K hK=>?_)
 go_simp;have sL:Below w5.heap.size w5 (w5.drew.alloc (.cells #[.int .i64 tx] 3)):=rv.alloc rv.size _;have pY:=rO.below sL;have nS:=nM.below sL;refine hK.out _ _ ?_ (fun ag=>?_)
 · exact⟨pY.box,nS⟩
 clear hK K af;have af:=ag;clear ag;try simp only[Act.put,zP,zQ,zR]
 refine last.an (i:=8) (o:=qO2) (by kernel_rfl) rfl (fun K hK=>?_)
 refine step_append_lies _ rfl (.tmp 87) (.tmp 90) 54 rfl 0 3 z0 (.int .i64 0) 1 8 Tryz.underlying54 CI yR Hj Cb rfl (by decide) _ _ _ rfl pY.seen ⟨w5.heap.size,0,none⟩ 1 1 (aV [tx]) rfl rfl (ew _ _ _) (bT _) (by decide) je eG (Nat.zero_le _) _ rfl ?_
 intro gt ct wt uP kf Di O3;obtain⟨ph,O4⟩:=pY.eZ uP kf Di rfl;have Dj:=nS.grown kf (fun e=>absurd (Dh _ e.symm) (Nat.lt_irrefl _))
 refine hK.out _ _ ?_ (fun ag=>?_)
 · exact⟨ph,Dj⟩
 clear hK K af;have af:=ag;clear ag;try simp only[Act.put,zP,zQ,zR]
 refine last.an (i:=9) (o:=qO3) (by kernel_rfl) rfl (fun K hK=>?_)
 go_simp;refine hK.out _ _ ?_ (fun ag=>?_)
 · exact af
 clear hK K af;have af:=ag;clear ag;try simp only[Act.put,zP,zQ,zR]
 refine last.wpTk 10 (.pointer (some ⟨X,2,none⟩)) rfl rfl ?_ ?_
 · intro wq ar; go_simp
 try simp only[Act.put,zP,zQ,zR]
 have et:=ph.cells.2.2;have ft:=ph.fz 2;refine last.aC (o:=qO4) (by kernel_rfl) rfl (by kernel_rfl) (fun K hK=>?_)
 go_simp;refine hK.out _ _ ?_;clear hK K;generalize Wm:wt.setCell ⟨X,2,none⟩ (.slice (some ⟨gt,0,none⟩) (s.2.2.length+1) ct)=wz at *;go_wp2_with fail;go_ret;exact⟨rfl,_,_,_,_,_,_,_,O4⟩
theorem wF(N:Prop)(w0:World)(F0:List Nat)(w:World)(X:Nat)(am:Option Addr)(nm cm:Nat)(ah:Option Addr)(ch:Nat)(vs:Value)(s:St)(hs:List Value)(tx:Int)(a:Option Addr)(len cap:Nat)(ops:List Od)
 (hK:Kept N w0 F0 w X am nm cm ah ch vs s hs) (dE:dD w a len ops) (dG:∀p∈ops,p.2.1.size≤1099511627776) (bD:bf (3,tx,ops)=true) (yI:s.2.2.length≤1099511627776) (gd:aH tx s.2.1=none) (h1:decide (tx∈s.2.2)=true):
 Calls Tryz.prog 98 #[.pointer (some ⟨X,0,none⟩),.agg #[.int .i64 3,.int .i64 tx,.slice a len cap]] w (ga N w0 F0 X none):=by
 have L_:∀k,(Value.slice ah s.2.1.length ch).ownBlock=some k→k<w.heap.size:=fun k e=>(hK.held.row.lt k e).2
 have Nw:X<w.heap.size:=hK.box.lt;have Dh:∀k,vs.ownBlock=some k→k<w.heap.size:=fun k e=>(hK.seen.lt k e).2
 obtain⟨z0,CI,yR,Hj,Cb⟩:=info_parts pA;have je:s.2.2.length+1≤maxLen:=by unfold maxLen; omega
 have eG:(s.2.2.length+1) * 8≤140737488355328:=by omega
 obtain⟨sa,sc,jC,yQ⟩:=hK.seen.sl;subst jC;obtain⟨V,hV⟩:∃V,V=w.alloc (.cells #[.int .i64 3,.int .i64 tx,.slice a len cap] 98):=⟨_,rfl⟩;have fb:Below w.heap.size w V:=by rw[hV]; exact(Below.refl _ _).alloc (Nat.le_refl _) _
 have bt:da w.heap.size 3 tx (.slice a len cap) V:=by rw[hV]; exact cd _ _ _ _
 have gK:=hK.below fb;have iN:=gK.box.lt;have lS:=bt.lt;have y1:=last.On.cell (B:=V.heap.size) gK.box.cells.2.1 iN;have y2:=last.On.cell (B:=V.heap.size) bt.cells.2.1 lS;have lv:∀x9:last.On V.heap.size V,Calls Tryz.prog 137 #[.slice ah s.2.1.length ch,.int .i64 tx] x9.w fun e w'=>e=.returned (.int .i64 (fw (aH tx s.2.1)))∧∃y9:last.On V.heap.size V,w'=y9.w:=fun x9=>last.Calls.on x9 (Nat.le_refl _) ((ed _ _ ch s.2.1 tx x9.w (gK.held.below x9.2).sl).mono (fun e w' h=>⟨h.1,h.2 ▸ Below.refl _ _⟩))
 have a_:=last.On.gV V.heap.size V;have HV:=Hid.mk' hV.symm;clear hV;rw[gd,show fw none= -1 from rfl] at lv
 go_enter Tryz.func98,Tryz.ntmps98;go_wp2_with fail;rw[HV.out];refine last.ai V.heap.size (by kernel_rfl) (by kernel_rfl) ?_
 repeat(go_big_quiet_step ((go_at_call 137; with_reducible exact lv _)))
 refine wpQuiet_nil ?_;intro w1 bx;obtain⟨x1,bx⟩:=bx;have aT:Below V.heap.size V w1:=by rw[bx]; exact x1.2
 clear bx x1;have dx:=bt.below aT;have wD:=gK.below aT;have eX:=Hid.mk' (dR 3 tx a len cap ops w1 ((dE.below fb).below aT) dG);obtain⟨d0,d1,d2⟩:=dx.cells;clear y1 y2 lv a_;go_wp2_with fail;refine eX.out.mono ?_;rintro e w2 ⟨rfl,aU⟩;rw[bD];have ff:=wD.below aU;have bV:=dx.below aU;have ng:=((dE.below fb).below aT).below aU;have pg:=((yQ.below fb).below aT).below aU;clear d0 d1 d2 eX HV dx bt gK iN lS;obtain⟨d0,d1,d2⟩:=bV.cells;have eY:=ff.box.lt;have dn:=bV.lt;have o0:=last.On.cell (B:=w2.heap.size) ff.box.cells.1 eY;have o1:=last.On.cell (B:=w2.heap.size) ff.box.cells.2.1 eY;have o2:=last.On.cell (B:=w2.heap.size) ff.box.cells.2.2 eY;have o3:=last.On.cell (B:=w2.heap.size) bV.cells.1 dn;have o4:=last.On.cell (B:=w2.heap.size) bV.cells.2.1 dn;have o5:=last.On.cell (B:=w2.heap.size) bV.cells.2.2 dn
 have ke:=last.On.gV w2.heap.size w2;have jo:∀x9:last.On w2.heap.size w2,Calls Tryz.prog 102 #[.slice sa s.2.2.length sc,.int .i64 tx] x9.w fun e w'=>e=.returned (.bool (decide (tx∈s.2.2)))∧∃y9:last.On w2.heap.size w2,w'=y9.w:=fun x9=>last.Calls.on x9 (Nat.le_refl _) ((cI sa s.2.2.length sc s.2.2 tx x9.w (pg.below x9.2)).mono (fun e w' h=>⟨h.1,h.2 ▸ Below.refl _ _⟩))
 rw[h1] at jo;go_wp2_with fail;refine last.ai w2.heap.size (by kernel_rfl) (by kernel_rfl) ?_
 repeat(go_big_quiet_step ((go_at_call 102; with_reducible exact jo _)))
 refine wpQuiet_nil ?_;intro w5 bP;obtain⟨x5,bP⟩:=bP;have de:Below w2.heap.size w2 w5:=by rw[bP]; exact x5.2
 clear bP x5 ke o0 o1 o2 o3 o4 o5 jo d0 d1 d2;have rO:=ff.below de;have nM:=bV.below de;have rv:Below w5.heap.size w5 w5.drew:=(Below.refl _ _).drew;go_wp2_with fail;refine last.aq (S:=fun w'=>fZ X (.slice am nm cm) (.slice ah s.2.1.length ch) (.slice sa s.2.2.length sc) w'∧da w.heap.size 3 tx (.slice a len cap) w') 11 (by kernel_rfl) ⟨(rO.box).below rv,nM.below rv⟩ (fun af=>?_)
 refine last.wpTk 0 (.pointer (some ⟨X,0,none⟩)) rfl rfl ?_ ?_
 · intro wq ar; go_simp
 try simp only[Act.put,zP,zQ,zR]
 refine last.wpTk 1 (.pointer (some ⟨X,0,none⟩)) rfl rfl ?_ ?_
 · intro wq ar; go_simp
 try simp only[Act.put,zP,zQ,zR]
 refine last.wpTk 2 (.pointer (some ⟨X,0,none⟩)) rfl rfl ?_ ?_
 · intro wq ar; go_simp
 try simp only[Act.put,zP,zQ,zR]
 refine last.wpTk 3 (.pointer (some ⟨X,2,none⟩)) rfl rfl ?_ ?_
 · intro wq ar; go_simp
 try simp only[Act.put,zP,zQ,zR]
 refine last.wpTk 4 (.slice sa s.2.2.length sc) rfl rfl ?_ ?_
 · intro wq ar; have q:=ar.1.cells.2.2; go_simp
 try simp only[Act.put,zP,zQ,zR]
 refine last.wpTk 5 (.pointer (some ⟨w.heap.size,1,none⟩)) rfl rfl ?_ ?_
 · intro wq ar; go_simp
 try simp only[Act.put,zP,zQ,zR]
 refine last.wpTk 6 (.int .i64 tx) rfl rfl ?_ ?_
 · intro wq ar; have q:=ar.2.cells.2.1; go_simp
 try simp only[Act.put,zP,zQ,zR]
 refine last.an (i:=7) (o:=qO1) (by kernel_rfl) rfl (fun K hK=>?_)
 go_simp;have sL:Below w5.heap.size w5 (w5.drew.alloc (.cells #[.int .i64 tx] 3)):=rv.alloc rv.size _;have pY:=rO.below sL;have nS:=nM.below sL;refine hK.out _ _ ?_ (fun ag=>?_)
 · exact⟨pY.box,nS⟩
 clear hK K af;have af:=ag;clear ag;try simp only[Act.put,zP,zQ,zR]
 refine last.an (i:=8) (o:=qO2) (by kernel_rfl) rfl (fun K hK=>?_)
 refine step_append_lies _ rfl (.tmp 87) (.tmp 90) 54 rfl 0 3 z0 (.int .i64 0) 1 8 Tryz.underlying54 CI yR Hj Cb rfl (by decide) _ _ _ rfl pY.seen ⟨w5.heap.size,0,none⟩ 1 1 (aV [tx]) rfl rfl (ew _ _ _) (bT _) (by decide) je eG (Nat.zero_le _) _ rfl ?_
 intro gt ct wt uP kf Di O3;obtain⟨ph,O4⟩:=pY.eZ uP kf Di rfl;have Dj:=nS.grown kf (fun e=>absurd (Dh _ e.symm) (Nat.lt_irrefl _))
 refine hK.out _ _ ?_ (fun ag=>?_)
 · exact⟨ph,Dj⟩
 clear hK K af;have af:=ag;clear ag;try simp only[Act.put,zP,zQ,zR]
 refine last.an (i:=9) (o:=qO3) (by kernel_rfl) rfl (fun K hK=>?_)
 go_simp;refine hK.out _ _ ?_ (fun ag=>?_)
 · exact af
 clear hK K af;have af:=ag;clear ag;try simp only[Act.put,zP,zQ,zR]
 refine last.wpTk 10 (.pointer (some ⟨X,2,none⟩)) rfl rfl ?_ ?_
 · intro wq ar; go_simp
 try simp only[Act.put,zP,zQ,zR]
 have et:=ph.cells.2.2;have ft:=ph.fz 2;refine last.aC (o:=qO4) (by kernel_rfl) rfl (by kernel_rfl) (fun K hK=>?_)
 go_simp;refine hK.out _ _ ?_;clear hK K;generalize Wm:wt.setCell ⟨X,2,none⟩ (.slice (some ⟨gt,0,none⟩) (s.2.2.length+1) ct)=wz at *;go_wp2_with fail;go_ret;exact⟨rfl,O4.fr⟩
theorem Ji(N:Prop)(w0:World)(F0:List Nat)(w:World)(X:Nat)(am:Option Addr)(nm cm:Nat)(ah:Option Addr)(ch:Nat)(vs:Value)(s:St)(hs:List Value)(tx:Int)(a:Option Addr)(len cap:Nat)(ops:List Od)
 (hK:Kept N w0 F0 w X am nm cm ah ch vs s hs) (dE:dD w a len ops) (dG:∀p∈ops,p.2.1.size≤1099511627776) (bD:bf (2,tx,ops)=true) (yI:s.2.2.length≤1099511627776) (gd:aH tx s.2.1=none):
 Calls Tryz.prog 98 #[.pointer (some ⟨X,0,none⟩),.agg #[.int .i64 2,.int .i64 tx,.slice a len cap]] w (ga N w0 F0 X none):=by
 have L_:∀k,(Value.slice ah s.2.1.length ch).ownBlock=some k→k<w.heap.size:=fun k e=>(hK.held.row.lt k e).2
 have Nw:X<w.heap.size:=hK.box.lt;have Dh:∀k,vs.ownBlock=some k→k<w.heap.size:=fun k e=>(hK.seen.lt k e).2
 obtain⟨z0,CI,yR,Hj,Cb⟩:=info_parts pA;have je:s.2.2.length+1≤maxLen:=by unfold maxLen; omega
 have eG:(s.2.2.length+1) * 8≤140737488355328:=by omega
 obtain⟨sa,sc,jC,yQ⟩:=hK.seen.sl;subst jC;obtain⟨V,hV⟩:∃V,V=w.alloc (.cells #[.int .i64 2,.int .i64 tx,.slice a len cap] 98):=⟨_,rfl⟩;have fb:Below w.heap.size w V:=by rw[hV]; exact(Below.refl _ _).alloc (Nat.le_refl _) _
 have bt:da w.heap.size 2 tx (.slice a len cap) V:=by rw[hV]; exact cd _ _ _ _
 have gK:=hK.below fb;have iN:=gK.box.lt;have lS:=bt.lt;have y1:=last.On.cell (B:=V.heap.size) gK.box.cells.2.1 iN;have y2:=last.On.cell (B:=V.heap.size) bt.cells.2.1 lS;have lv:∀x9:last.On V.heap.size V,Calls Tryz.prog 137 #[.slice ah s.2.1.length ch,.int .i64 tx] x9.w fun e w'=>e=.returned (.int .i64 (fw (aH tx s.2.1)))∧∃y9:last.On V.heap.size V,w'=y9.w:=fun x9=>last.Calls.on x9 (Nat.le_refl _) ((ed _ _ ch s.2.1 tx x9.w (gK.held.below x9.2).sl).mono (fun e w' h=>⟨h.1,h.2 ▸ Below.refl _ _⟩))
 have a_:=last.On.gV V.heap.size V;have HV:=Hid.mk' hV.symm;clear hV;rw[gd,show fw none= -1 from rfl] at lv
 go_enter Tryz.func98,Tryz.ntmps98;go_wp2_with fail;rw[HV.out];refine last.ai V.heap.size (by kernel_rfl) (by kernel_rfl) ?_
 repeat(go_big_quiet_step ((go_at_call 137; with_reducible exact lv _)))
 refine wpQuiet_nil ?_;intro w1 bx;obtain⟨x1,bx⟩:=bx;have aT:Below V.heap.size V w1:=by rw[bx]; exact x1.2
 clear bx x1;have dx:=bt.below aT;have wD:=gK.below aT;have eX:=Hid.mk' (dR 2 tx a len cap ops w1 ((dE.below fb).below aT) dG);obtain⟨d0,d1,d2⟩:=dx.cells;clear y1 y2 lv a_;go_wp2_with fail;refine eX.out.mono ?_;rintro e w2 ⟨rfl,aU⟩;rw[bD];have ff:=wD.below aU;have bV:=dx.below aU;have ng:=((dE.below fb).below aT).below aU;have pg:=((yQ.below fb).below aT).below aU;clear d0 d1 d2 eX HV dx bt gK iN lS;obtain⟨d0,d1,d2⟩:=bV.cells;have eY:=ff.box.lt;have dn:=bV.lt;have o0:=last.On.cell (B:=w2.heap.size) ff.box.cells.1 eY;have o1:=last.On.cell (B:=w2.heap.size) ff.box.cells.2.1 eY;have o2:=last.On.cell (B:=w2.heap.size) ff.box.cells.2.2 eY;have o3:=last.On.cell (B:=w2.heap.size) bV.cells.1 dn;have o4:=last.On.cell (B:=w2.heap.size) bV.cells.2.1 dn;have o5:=last.On.cell (B:=w2.heap.size) bV.cells.2.2 dn
 have ke:=last.On.gV w2.heap.size w2;have jo:∀x9:last.On w2.heap.size w2,Calls Tryz.prog 102 #[.slice sa s.2.2.length sc,.int .i64 tx] x9.w fun e w'=>e=.returned (.bool (decide (tx∈s.2.2)))∧∃y9:last.On w2.heap.size w2,w'=y9.w:=fun x9=>last.Calls.on x9 (Nat.le_refl _) ((cI sa s.2.2.length sc s.2.2 tx x9.w (pg.below x9.2)).mono (fun e w' h=>⟨h.1,h.2 ▸ Below.refl _ _⟩))
 go_wp2_with fail;refine last.ai w2.heap.size (by kernel_rfl) (by kernel_rfl) ?_
 repeat(go_big_quiet_step ((go_at_call 102; with_reducible exact jo _)))
 refine wpQuiet_nil ?_;intro w5 bP;obtain⟨x5,bP⟩:=bP;have de:Below w2.heap.size w2 w5:=by rw[bP]; exact x5.2
 clear bP x5 ke o0 o1 o2 o3 o4 o5 jo d0 d1 d2;have rO:=ff.below de;have nM:=bV.below de;have rv:Below w5.heap.size w5 w5.drew:=(Below.refl _ _).drew;go_wp2_with fail;refine last.aq (S:=fun w'=>fZ X (.slice am nm cm) (.slice ah s.2.1.length ch) (.slice sa s.2.2.length sc) w'∧da w.heap.size 2 tx (.slice a len cap) w') 11 (by kernel_rfl) ⟨(rO.box).below rv,nM.below rv⟩ (fun af=>?_)
 refine last.wpTk 0 (.pointer (some ⟨X,0,none⟩)) rfl rfl ?_ ?_
 · intro wq ar; go_simp
 try simp only[Act.put,zP,zQ,zR]
 refine last.wpTk 1 (.pointer (some ⟨X,0,none⟩)) rfl rfl ?_ ?_
 · intro wq ar; go_simp
 try simp only[Act.put,zP,zQ,zR]
 refine last.wpTk 2 (.pointer (some ⟨X,0,none⟩)) rfl rfl ?_ ?_
 · intro wq ar; go_simp
 try simp only[Act.put,zP,zQ,zR]
 refine last.wpTk 3 (.pointer (some ⟨X,2,none⟩)) rfl rfl ?_ ?_
 · intro wq ar; go_simp
 try simp only[Act.put,zP,zQ,zR]
 refine last.wpTk 4 (.slice sa s.2.2.length sc) rfl rfl ?_ ?_
 · intro wq ar; have q:=ar.1.cells.2.2; go_simp
 try simp only[Act.put,zP,zQ,zR]
 refine last.wpTk 5 (.pointer (some ⟨w.heap.size,1,none⟩)) rfl rfl ?_ ?_
 · intro wq ar; go_simp
 try simp only[Act.put,zP,zQ,zR]
 refine last.wpTk 6 (.int .i64 tx) rfl rfl ?_ ?_
 · intro wq ar; have q:=ar.2.cells.2.1; go_simp
 try simp only[Act.put,zP,zQ,zR]
 refine last.an (i:=7) (o:=qO1) (by kernel_rfl) rfl (fun K hK=>?_)
 go_simp;have sL:Below w5.heap.size w5 (w5.drew.alloc (.cells #[.int .i64 tx] 3)):=rv.alloc rv.size _;have pY:=rO.below sL;have nS:=nM.below sL;refine hK.out _ _ ?_ (fun ag=>?_)
 · exact⟨pY.box,nS⟩
 clear hK K af;have af:=ag;clear ag;try simp only[Act.put,zP,zQ,zR]
 refine last.an (i:=8) (o:=qO2) (by kernel_rfl) rfl (fun K hK=>?_)
 refine step_append_lies _ rfl (.tmp 87) (.tmp 90) 54 rfl 0 3 z0 (.int .i64 0) 1 8 Tryz.underlying54 CI yR Hj Cb rfl (by decide) _ _ _ rfl pY.seen ⟨w5.heap.size,0,none⟩ 1 1 (aV [tx]) rfl rfl (ew _ _ _) (bT _) (by decide) je eG (Nat.zero_le _) _ rfl ?_
 intro gt ct wt uP kf Di O3;obtain⟨ph,O4⟩:=pY.eZ uP kf Di rfl;have Dj:=nS.grown kf (fun e=>absurd (Dh _ e.symm) (Nat.lt_irrefl _))
 refine hK.out _ _ ?_ (fun ag=>?_)
 · exact⟨ph,Dj⟩
 clear hK K af;have af:=ag;clear ag;try simp only[Act.put,zP,zQ,zR]
 refine last.an (i:=9) (o:=qO3) (by kernel_rfl) rfl (fun K hK=>?_)
 go_simp;refine hK.out _ _ ?_ (fun ag=>?_)
 · exact af
 clear hK K af;have af:=ag;clear ag;try simp only[Act.put,zP,zQ,zR]
 refine last.wpTk 10 (.pointer (some ⟨X,2,none⟩)) rfl rfl ?_ ?_
 · intro wq ar; go_simp
 try simp only[Act.put,zP,zQ,zR]
 have et:=ph.cells.2.2;have ft:=ph.fz 2;refine last.aC (o:=qO4) (by kernel_rfl) rfl (by kernel_rfl) (fun K hK=>?_)
 go_simp;refine hK.out _ _ ?_;clear hK K;generalize Wm:wt.setCell ⟨X,2,none⟩ (.slice (some ⟨gt,0,none⟩) (s.2.2.length+1) ct)=wz at *;go_wp2_with fail;go_ret;exact⟨rfl,O4.fr⟩
end aZ
namespace aZ
open Go Go.RowKit base av aN
theorem pD(l:List Rc)(hs:List Value)(h:hs.length=l.length)(k:Nat):aX l hs=aX (l.take k) (hs.take k)++aX (l.drop k) (hs.drop k):=by
 conv=>lhs; rw[←List.take_append_drop k l,←List.take_append_drop k hs]
 rw[fK];simp[h]
theorem bm.rP{w:World}{base g n cap:Nat}{l:List Rc}{hs:List Value}(h:bm w base (.slice (some ⟨g,0,none⟩) n cap) l hs)(k:Nat):∀j u,(aX (l.take k) (hs.take k))[j]? =some u→w.cell? ((⟨g,0,none⟩:Addr).add j)=some u:=by
 intro j u hu;obtain rfl:=h.nf;refine h.row.cells (g:=g) rfl j u ?_;rw[pD l hs h.len k,List.getElem?_append_left (List.getElem?_eq_some_iff.1 hu).1];exact hu
theorem bm.rQ{w:World}{base g n cap:Nat}{l:List Rc}{hs:List Value}(h:bm w base (.slice (some ⟨g,0,none⟩) n cap) l hs)(k:Nat)(hk:k≤l.length):∀j u,(aX (l.drop k) (hs.drop k))[j]? =some u→w.cell? ((⟨g,k * 3,none⟩:Addr).add j)=some u:=by
 intro j u hu;obtain rfl:=h.nf;have hl:=h.len;have a6:(aX (l.take k) (hs.take k)).length=k * 3:=by rw[dO _ _ (by simp[hl])]; simp; omega
 have:=h.row.cells (g:=g) rfl (k * 3+j) u (by
  rw[pD l hs h.len k,List.getElem?_append_right (by omega),a6,Nat.add_sub_cancel_left]
  exact hu)
 rw[Addr.add_lit,Nat.zero_add] at this;rw[Addr.add_lit];exact this
theorem bm.erase{w w':World}{base g g' n c c':Nat}{l:List Rc}{hs:List Value}(h:bm w base (.slice (some ⟨g,0,none⟩) n c) l hs)(hb:Below w.heap.size w w')(k:Nat)(hk:k<l.length){n':Nat}(hn:n'=l.length - 1)
 (aB:w'.ownsRow base 98 3 (.slice (some ⟨g',0,none⟩) n' c') n' (aX (l.take k++l.drop (k+1)) (hs.take k++hs.drop (k+1)))):
 bm w' base (.slice (some ⟨g',0,none⟩) (l.take k++l.drop (k+1)).length c') (l.take k++l.drop (k+1)) (hs.take k++hs.drop (k+1)):=by
 have hl:=h.len;have hlen:(l.take k++l.drop (k+1)).length=n':=by simp; omega
 rw[hlen];have cE:∀i (hi:i<(l.take k++l.drop (k+1)).length),cD w' base ((hs.take k++hs.drop (k+1))[i]'(by simp at hi ⊢; omega)) (l.take k++l.drop (k+1))[i].2.2:=by
  intro i hi;by_cases e:i<k
  · have h1:(l.take k++l.drop (k+1))[i]=l[i]'(by omega):=by
     rw[List.getElem_append_left (by simp; omega)]; simp
    have h2:(hs.take k++hs.drop (k+1))[i]'(by simp at hi ⊢; omega)=hs[i]'(by omega):=by
     rw[List.getElem_append_left (by simp; omega)]; simp
    rw[h1,h2];exact(h.ops i (by omega)).below hb
  · have QS:i+1<l.length:=by simp at hi; omega
    have h1:(l.take k++l.drop (k+1))[i]=l[i+1]'QS:=by
     rw[List.getElem_append_right (by simp; omega)]
     simp only[List.getElem_drop]
     congr 1
     simp; omega
    have h2:(hs.take k++hs.drop (k+1))[i]'(by simp at hi ⊢; omega)=hs[i+1]'(by omega):=by
     rw[List.getElem_append_right (by simp; omega)]
     simp only[List.getElem_drop]
     congr 1
     simp; omega
    rw[h1,h2];exact(h.ops (i+1) QS).below hb
 have yh:(hs.take k++hs.drop (k+1)).Sublist hs:=by
  rw[←List.eraseIdx_eq_take_drop_succ]; exact List.eraseIdx_sublist _ _
 refine⟨by simp; omega,fun x hx=>h.sm x ?_,by rw[hlen]; exact aB,cE,h.apart.sublist yh,fun j hj y hy e=>?_⟩
 · rcases List.mem_append.1 hx with h1 | h1
   · exact List.mem_of_mem_take h1
   · exact List.mem_of_mem_drop h1
 · obtain⟨i,hi,rfl⟩:=List.getElem_of_mem hy;exact fX aB (cE i (by simp at hi ⊢; omega)).2 hj e (by decide)
theorem lT{l:List Rc}{k:Nat}(h:k<l.length):bS l k=l[k].2.2:=by unfold bS; rw[List.getElem?_eq_getElem h]
theorem iV{tx:Int}:∀ {l:List Rc} {k:Nat},aH tx l=some k→k<l.length
 | [],_,h=>by cases h
 | r::l,k,h=>by
  rw[aH] at h
  split at h
  · cases h; simp
  · cases hq:aH tx l with
    | none=>rw[hq] at h; cases h
    | some j=>
     rw[hq] at h;simp only[Option.map_some,Option.some.injEq] at h;subst h;have:=iV hq;simp; omega
end aZ
end Go.Proofs.YtmibabclefgljaaGreat
