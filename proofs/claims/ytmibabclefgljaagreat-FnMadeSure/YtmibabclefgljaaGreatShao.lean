/- ShE ShF ShG -/
import Derived.Test.YtmibabclefgljaaGreatShan
set_option linter.unusedVariables false
set_option linter.unusedSimpArgs false
set_option maxRecDepth 100000
set_option maxHeartbeats 4000000
namespace Go.Proofs.YtmibabclefgljaaGreat
namespace bm
open Go Go.RowKit base aE aX dG gO lay
structure Fits (m:List Pr) (held:List Rc) (r:Rc):Prop where
 ok:bu r=true
 fit:(r.1=1∧locked held r.2.2=false∧meets m r.2.2=true)∨(r.1=3∧aR r.2.1 held=none)∨(r.1≠1∧∃k,aR r.2.1 held=some k)
 jS:m.length≤60
 EX:held.length≤1099511627776
 eight:∀k,k<held.length→(cn held k).length≤8
def xV(w:World)(F0:List Nat)(X:Nat)(m:List Pr)(held:List Rc)(r:Rc)(e:Ending)(w':World):Prop:=
 ∃b am nm cm ah ch vs hs z,e=.returned (.bool b)∧Kept False w F0 w' X am nm cm ah ch vs ((forced m held r).1,(forced m held r).2,z) hs
theorem iH{w w':World}{F0:List Nat}{X:Nat}{m:List Pr}{held:List Rc}{r:Rc}{e:Ending}{t:St}(h:gG False w F0 X (some t) e w')(e1:t.1=(forced m held r).1)(e2:t.2.1=(forced m held r).2):xV w F0 X m held r e w':=by
 obtain⟨h1,am,nm,cm,ah,ch,vs,hs,hK⟩:=h;obtain⟨t1,t2,t3⟩:=t;simp only[] at e1 e2;subst e1 e2;exact⟨true,am,nm,cm,ah,ch,vs,hs,t3,h1,hK⟩
theorem DH(w:World)(F0:List Nat)(X:Nat)(am:Option Addr)(nm cm:Nat)(ah:Option Addr)(ch:Nat)(m:List Pr)(held:List Rc)(hs:List Value)(kind tx:Int)(a:Option Addr)(len cap:Nat)(ops:List Od)
 (hK:Kept False w F0 w X am nm cm ah ch (.slice none 0 0) (m,held,[]) hs) (dT:dS w a len ops) (dV:∀p∈ops,p.2.1.size≤1099511627776) (xK:iA (kind,tx,ops)) (hlen:len≤1099511627776) (hF:Fits m held (kind,tx,ops)):
 Calls Tryz.prog 98 #[.pointer (some ⟨X,0,none⟩),.agg #[.int .i64 kind,.int .i64 tx,.slice a len cap]] w (xV w F0 X m held (kind,tx,ops)):=by
 have bR:=hF.ok;rcases hF.fit with⟨h1,h2,h3⟩ | ⟨h1,h2⟩ | ⟨h1,k,h2⟩
 · obtain rfl:kind=1:=h1;refine(A4 False w F0 w X am nm cm ah ch _ (m,held,[]) hs tx a len cap ops hK dT dV bR xK hlen hF.EX (Nat.zero_le _) (by simp) h2 h3).mono fun e w' hp=>iH hp ?_ ?_
   · unfold forced; rw[if_pos rfl]
   · unfold forced; rw[if_pos rfl]
 · obtain rfl:kind=3:=h1;have JD:aR tx held=none:=h2;refine(A6 False w F0 w X am nm cm ah ch _ (m,held,[]) hs tx a len cap ops hK dT dV bR (Nat.zero_le _) h2 (by simp)).mono fun e w' hp=>iH hp ?_ ?_
   · unfold forced; rw[if_neg (by simp)]; simp only[JD]
   · unfold forced; rw[if_neg (by simp)]; simp only[JD]
 · have JD:aR tx held=some k:=h2;have yW:kind=2∨kind=3:=by
    rcases((bS _).1 bR).2 with⟨e,_⟩ | ⟨e,_⟩
    · exact absurd e h1
    · exact e
   have xD:=jq h2;rcases yW with rfl | rfl
   · have Sv:=hF.eight k xD;by_cases zY:(aQ m (cn held k)).length≤60
     · refine(Ba False w F0 w X am nm cm ah ch _ (m,held,[]) hs tx a len cap ops hK dT dV bR k hF.EX h2 hF.jS Sv zY).mono fun e w' hp=>iH hp ?_ ?_
       · unfold forced; rw[if_neg (by simp)]; simp only[JD]; unfold ik; rw[if_pos rfl]
       · unfold forced; rw[if_neg (by simp)]; simp only[JD]
     · refine(Bb False w F0 w X am nm cm ah ch _ (m,held,[]) hs tx a len cap ops hK dT dV bR k hF.EX h2 hF.jS Sv (by show 60<(aQ m (cn held k)).length; omega)).mono fun e w' hp=>?_
       obtain⟨U1,am',nm',cm',ah',ch',vs',Lm,OV⟩:=hp;have e1:(forced m held (2,tx,ops)).1=aQ m (cn held k):=by unfold forced; rw[if_neg (by simp)]; simp only[JD]; unfold ik; rw[if_pos rfl]
       have e2:(forced m held (2,tx,ops)).2=held.take k++held.drop (k+1):=by unfold forced; rw[if_neg (by simp)]; simp only[JD]
       exact⟨false,am',nm',cm',ah',ch',vs',Lm,[],U1,by rw[e1,e2]; exact OV⟩
   · refine(EP False w F0 w X am nm cm ah ch _ (m,held,[]) hs tx a len cap ops hK dT dV bR k hF.EX h2 hF.jS).mono fun e w' hp=>iH hp ?_ ?_
     · unfold forced; rw[if_neg (by simp)]; simp only[JD]; unfold ik; rw[if_neg (by simp)]
     · unfold forced; rw[if_neg (by simp)]; simp only[JD]
structure gW (w:World) (X:Nat) (T:TypeId) (pre post:List Value) (la:Option Addr) (ln lc:Nat) (ma:Option Addr) (mn mc:Nat) (ha:Option Addr) (hn hc:Nat) (s:de) (F:List Nat):Prop where
 box:aD X T pre (aU s.1 s.2.2.1 la ln lc ma mn mc ha hn hc) post w
 own:dn w la ln lc ma mn mc ha hn hc s F
 out:X∉F
def dH(w:World)(X:Nat)(T:TypeId)(pre post:List Value)(F:List Nat)(s':de)(w':World):Prop:=
 ∃la ln lc ma mn mc ha hn hc F',gW w' X T pre post la ln lc ma mn mc ha hn hc s' F'∧lay.Frame (X::F) w w'∧fJ w F F'
theorem rm(X:Nat)(T:TypeId)(pre post:List Value)(la:Option Addr)(ln lc:Nat)(ma:Option Addr)(mn mc:Nat)(ha:Option Addr)(hn hc:Nat)(s:de)(F:List Nat)(kind tx:Int)(a:Option Addr)(len cap:Nat)(ops:List Od)(w:World)
 (h:gW w X T pre post la ln lc ma mn mc ha hn hc s F) (cF:∀w',lay.Frame (X::F) w w'→dS w' a len ops) (dV:∀p∈ops,p.2.1.size≤1099511627776) (xK:iA (kind,tx,ops)) (hlen:len≤1099511627776) (hF:Fits s.2.2.2.1 s.2.2.2.2 (kind,tx,ops)) (mb:s.2.1.length≤1099511627776):
 Calls Tryz.prog 159 #[.pointer (some ⟨X,pre.length,none⟩),.agg #[.int .i64 kind,.int .i64 tx,.slice a len cap]] w fun e w'=>e=.returned (.tuple #[])∧dH w X T pre post F (written s (kind,tx,ops)) w':=by
 obtain⟨i0,hi,dE,dD,cO⟩:=info_parts mR;obtain⟨hl,uk,hh,rq,d_⟩:=h.own.log;have NM:=h.own.map;have eo:=h.own.nodup;have jH:=h.out;have z6:=h.box;have NJ:=z6.lt;have nI:ln=s.2.1.length:=uk.nF;have WI:hn=s.2.2.2.2.length:=rq.nF;subst nI WI;have kF:=h.own.lt;obtain⟨W,hW⟩:∃W,W=w.alloc (.cells #[.int .i64 kind,.int .i64 tx,.slice a len cap] 98):=⟨_,rfl⟩;have Hk:Below w.heap.size w W:=by rw[hW]; exact(Below.refl _ _).alloc (Nat.le_refl _) _
 have bI:dt w.heap.size kind tx (.slice a len cap) W:=by rw[hW]; exact cG _ _ _ _
 have Lp:W.heap.size=w.heap.size+1:=by rw[hW]; simp
 have HW:=Hid.mk' hW.symm;clear hW;have Ms:=z6.below Hk;have eX:Below W.heap.size W W.drew:=(Below.refl _ _).drew;have WJ:=Hid.mk' Lp;clear Lp;aj Tryz.func159,Tryz.ntmps159;ab fail;rw[HW.out];refine last.aB (S:=fun w'=>aD X T pre (aU s.1 s.2.2.1 la s.2.1.length lc ma mn mc ha s.2.2.2.2.length hc) post w') 10 (by aa) (Ms.below eX) (fun al=>?_)
 refine last.ae (i:=0) (v:=(.pointer (some ⟨X,pre.length,none⟩))) rfl rfl (by aa) (by aa) (by aa) (by aa) (fun _ _ _ h=>h) (Or.inl ⟨by rfl,?_⟩) (by assumption) ?_
 · intro wq aC; af
 try simp only[Act.put,List.setIfInBounds_toArray,List.set_cons_zero,List.set_cons_succ];refine last.ae (i:=1) (v:=(.pointer (some ⟨X,pre.length,none⟩))) rfl rfl (by aa) (by aa) (by aa) (by aa) (fun _ _ _ h=>h) (Or.inl ⟨by rfl,?_⟩) (by assumption) ?_
 · intro wq aC; af
 try simp only[Act.put,List.setIfInBounds_toArray,List.set_cons_zero,List.set_cons_succ];refine last.ae (i:=2) (v:=(.pointer (some ⟨X,pre.length+3,none⟩))) rfl rfl (by aa) (by aa) (by aa) (by aa) (fun _ _ _ h=>h) (Or.inl ⟨by rfl,?_⟩) (by assumption) ?_
 · intro wq aC; af
 try simp only[Act.put,List.setIfInBounds_toArray,List.set_cons_zero,List.set_cons_succ];refine last.ae (i:=3) (v:=(.slice ma mn mc)) rfl rfl (by aa) (by aa) (by aa) (by aa) (fun _ _ _ h=>h) (Or.inl ⟨by rfl,?_⟩) (by assumption) ?_
 · intro wq aC; have q:=aC.cell 3 _ rfl; af
 try simp only[Act.put,List.setIfInBounds_toArray,List.set_cons_zero,List.set_cons_succ];refine last.ae (i:=4) (v:=(.pointer (some ⟨X,pre.length,none⟩))) rfl rfl (by aa) (by aa) (by aa) (by aa) (fun _ _ _ h=>h) (Or.inl ⟨by rfl,?_⟩) (by assumption) ?_
 · intro wq aC; af
 try simp only[Act.put,List.setIfInBounds_toArray,List.set_cons_zero,List.set_cons_succ];refine last.ae (i:=5) (v:=(.pointer (some ⟨X,pre.length,none⟩))) rfl rfl (by aa) (by aa) (by aa) (by aa) (fun _ _ _ h=>h) (Or.inl ⟨by rfl,?_⟩) (by assumption) ?_
 · intro wq aC; af
 try simp only[Act.put,List.setIfInBounds_toArray,List.set_cons_zero,List.set_cons_succ];refine last.ae (i:=6) (v:=(.pointer (some ⟨X,pre.length+4,none⟩))) rfl rfl (by aa) (by aa) (by aa) (by aa) (fun _ _ _ h=>h) (Or.inl ⟨by rfl,?_⟩) (by assumption) ?_
 · intro wq aC; af
 try simp only[Act.put,List.setIfInBounds_toArray,List.set_cons_zero,List.set_cons_succ];refine last.ae (i:=7) (v:=(.slice ha s.2.2.2.2.length hc)) rfl rfl (by aa) (by aa) (by aa) (by aa) (fun _ _ _ h=>h) (Or.inl ⟨by rfl,?_⟩) (by assumption) ?_
 · intro wq aC; have q:=aC.cell 4 _ rfl; af
 try simp only[Act.put,List.setIfInBounds_toArray,List.set_cons_zero,List.set_cons_succ];refine last.ae (i:=8) (v:=(.agg #[.slice ma mn mc,.slice ha s.2.2.2.2.length hc,.slice none 0 0])) rfl rfl (by aa) (by aa) (by aa) (by aa) (fun _ _ _ h=>h) (Or.inl ⟨by rfl,?_⟩) (by assumption) ?_
 · intro wq aC; af
 try simp only[Act.put,List.setIfInBounds_toArray,List.set_cons_zero,List.set_cons_succ];refine last.ax (i:=9) (o:={dst:=some 14,op:=Op.box 137 (Operand.tmp 13),type:=135,pos:= "l09_shard.go:62",after:=#[{on:=8,ground:=Ground.data}],guard:=none}) (by aa) rfl (fun K hK=>?_)
 af;have a_:Below W.heap.size W ((W.alloc (.cells #[.slice ma mn mc,.slice ha s.2.2.2.2.length hc,.slice none 0 0] 137)).drew):=((Below.refl _ _).alloc (Nat.le_refl _) _).drew;have ZI:gE W.heap.size (.slice ma mn mc) (.slice ha s.2.2.2.2.length hc) (.slice none 0 0) ((W.alloc (.cells #[.slice ma mn mc,.slice ha s.2.2.2.2.length hc,.slice none 0 0] 137)).drew):=heap_alloc_new W _;refine hK.out _ _ ?_ (fun aq=>?_)
 · exact Ms.below a_
 clear hK K al;have al:=aq;clear aq;try simp only[Act.put,List.setIfInBounds_toArray,List.set_cons_zero,List.set_cons_succ];refine last.aL (o:={dst:=some 4,op:=Op.assign (Operand.tmp 14),type:=135,pos:= "l09_shard.go:62",after:=#[{on:=9,ground:=Ground.data},{on:=0,ground:=Ground.phase},{on:=1,ground:=Ground.phase},{on:=2,ground:=Ground.phase},{on:=3,ground:=Ground.phase},{on:=4,ground:=Ground.phase},{on:=5,ground:=Ground.phase},{on:=6,ground:=Ground.phase},{on:=7,ground:=Ground.phase},{on:=8,ground:=Ground.phase},{on:=9,ground:=Ground.phase}],guard:=none}) (by aa) rfl (by aa) (fun K hK=>?_)
 af;refine hK.out _ _ ?_;clear hK K;generalize s_:(W.alloc (.cells #[.slice ma mn mc,.slice ha s.2.2.2.2.length hc,.slice none 0 0] 137)).drew=W1 at *;clear s_ al;have fi:Below w.heap.size w W1:=Hk.trans (a_.mono Hk.size);have dM:=bI.below a_;have Sy:=Ms.below a_;have ud:=a_.size;obtain⟨F0,U4⟩:∃F0,F0=(Value.slice ma mn mc).ownBlock.toList++ou (.slice ha s.2.2.2.2.length hc) hh:=⟨_,rfl⟩;have JE:∀k∈F0,k∈F:=fun k hk=>by rw[d_]; rw[U4] at hk; exact List.mem_append.2 (.inr hk)
 have Jv:Kept False W1 F0 W1 W.heap.size ma mn mc ha hc (.slice none 0 0) (s.2.2.2.1,s.2.2.2.2,[]) hh:=
  ⟨ZI,NM.below fi,rq.below fi,A1 _ _,lay.Frame.refl _ _,fun k e=>.inl (by rw[U4]; exact List.mem_append.2 (.inl (by simp[e]))),fun k e=>.inl (by rw[U4]; exact List.mem_append.2 (.inr (aJ.2 e))),fun k e=>by simp[Value.ownBlock] at e,fun e=>e.elim,fun e=>e.elim⟩
 have ZJ:=Hid.mk' (DH W1 F0 W.heap.size ma mn mc ha hc s.2.2.2.1 s.2.2.2.2 hh kind tx a len cap ops Jv (cF W1 (lay.Frame.cM fi)) dV xK hlen hF);obtain⟨d0,d1,d2⟩:=dM.cells;ab fail;refine ZJ.out.mono ?_;rintro e w2 ⟨bb,am,nm,cm,ah,ch,vs,hs,z,rfl,fy⟩;clear ZJ d0 d1 d2 Jv;have Zj:=WJ.out;have Pj:X≠W.heap.size:=by omega
 have fm:X∉W.heap.size::F0:=fun e=>by
  rcases List.mem_cons.1 e with e | e
  · exact Pj e
  · exact jH (JE X e)
 have Mt:=Sy.frame fy.fr fm;have dF:w.heap.size∉W.heap.size::F0:=fun e=>by
  rcases List.mem_cons.1 e with e | e
  · omega
  · have:=kF _ (JE _ e); omega
 have cv:dt w.heap.size kind tx (.slice a len cap) w2:=(fy.fr.block _ dM.lt dF).trans dM;have WK:∀k,dq (.slice la s.2.1.length lc) hl k→k∈F∧k∉F0∧k<w.heap.size:=fun k hk=>by
  have h1:=aJ.2 hk;have h2:k∈F:=by rw[d_]; exact List.mem_append.2 (.inl h1)
  rw[d_,←U4] at eo;exact⟨h2,(a7 eo).2.2 k h1,kF k h2⟩
 have Sz:bB w2 0 (.slice la s.2.1.length lc) s.2.1 hl:=(uk.below fi).bl fun k hk=>fy.fr.block k ((uk.below fi).lt k hk).2 (fun e=>by
  have h3:=WK k hk;rcases List.mem_cons.1 e with e | e
  · omega
  · exact h3.2.1 e)
 have Pk:lay.Frame (X::F) w w2:=(lay.Frame.cM (G:=X::F) fi).trans fy.fr (fun k hk=>by
  rcases List.mem_cons.1 hk with e | e
  · exact .inr (by omega)
  · exact .inl (List.mem_cons_of_mem _ (JE k e)))
 have mi:Below w2.heap.size w2 w2.drew:=(Below.refl _ _).drew;have wW:=Hid.mk' (mP kind tx a len cap ops w2.drew (cF _ (Pk.below mi)) hlen);have fR:s.2.1.length+1≤maxLen:=by unfold maxLen; omega
 have kn:(s.2.1.length+1) * 40≤140737488355328:=by omega
 have pQ:=Pk.size;clear Sy Ms Hk a_ fi dM bI eX HW ZI;ab fail;refine last.aB (S:=fun w'=>aD X T pre (aU s.1 s.2.2.1 la s.2.1.length lc ma mn mc ha s.2.2.2.2.length hc) post w'∧dt w.heap.size kind tx (.slice a len cap) w') 11 (by aa) ⟨Mt.below mi,cv.below mi⟩ (fun al=>?_)
 refine last.ae (i:=0) (v:=(.pointer (some ⟨X,pre.length,none⟩))) rfl rfl (by aa) (by aa) (by aa) (by aa) (fun _ _ _ h=>h) (Or.inl ⟨by rfl,?_⟩) (by assumption) ?_
 · intro wq aC; af
 try simp only[Act.put,List.setIfInBounds_toArray,List.set_cons_zero,List.set_cons_succ];refine last.ae (i:=1) (v:=(.pointer (some ⟨X,pre.length,none⟩))) rfl rfl (by aa) (by aa) (by aa) (by aa) (fun _ _ _ h=>h) (Or.inl ⟨by rfl,?_⟩) (by assumption) ?_
 · intro wq aC; af
 try simp only[Act.put,List.setIfInBounds_toArray,List.set_cons_zero,List.set_cons_succ];refine last.ae (i:=2) (v:=(.pointer (some ⟨X,pre.length,none⟩))) rfl rfl (by aa) (by aa) (by aa) (by aa) (fun _ _ _ h=>h) (Or.inl ⟨by rfl,?_⟩) (by assumption) ?_
 · intro wq aC; af
 try simp only[Act.put,List.setIfInBounds_toArray,List.set_cons_zero,List.set_cons_succ];refine last.ae (i:=3) (v:=(.pointer (some ⟨X,pre.length+1,none⟩))) rfl rfl (by aa) (by aa) (by aa) (by aa) (fun _ _ _ h=>h) (Or.inl ⟨by rfl,?_⟩) (by assumption) ?_
 · intro wq aC; af
 try simp only[Act.put,List.setIfInBounds_toArray,List.set_cons_zero,List.set_cons_succ];refine last.ae (i:=4) (v:=(.slice la s.2.1.length lc)) rfl rfl (by aa) (by aa) (by aa) (by aa) (fun _ _ _ h=>h) (Or.inl ⟨by rfl,?_⟩) (by assumption) ?_
 · intro wq aC; have q:=aC.1.cell 1 _ rfl; af
 try simp only[Act.put,List.setIfInBounds_toArray,List.set_cons_zero,List.set_cons_succ];refine last.ae (i:=5) (v:=(.agg #[.int .i64 kind,.int .i64 tx,.slice a len cap])) rfl rfl (by aa) (by aa) (by aa) (by aa) (fun _ _ _ h=>h) (Or.inl ⟨by rfl,?_⟩) (by assumption) ?_
 · intro wq aC; obtain⟨q1,q2,q3⟩:=aC.2.cells; af
 try simp only[Act.put,List.setIfInBounds_toArray,List.set_cons_zero,List.set_cons_succ];refine last.ax (i:=6) (o:={dst:=some 24,op:=Op.call {callee:=Callee.value (Operand.func 133),args:=#[Operand.tmp 23],argTypes:=#[98]},type:=98,pos:= "l09_shard.go:64",after:=#[{on:=5,ground:=Ground.data}],guard:=none}) (by aa) rfl (fun K hK=>?_)
 refine fM.cL rfl 133 (.tmp 23) _ rfl (fun _ _=>rfl) (.agg #[.int .i64 kind,.int .i64 tx,.slice a len cap]) (by aa) _ wW.out ?_
 rintro e w6 ⟨g6,c6,rfl,en,mJ⟩;refine⟨_,rfl,?_⟩;have iU:=mi.trans (mJ.mono mi.size);refine hK.out _ _ ?_ (fun aq=>?_)
 · exact⟨Mt.below iU,cv.below iU⟩
 clear hK K al;have al:=aq;clear aq;try simp only[Act.put,List.setIfInBounds_toArray,List.set_cons_zero,List.set_cons_succ];refine last.ax (i:=7) (o:={dst:=some 25,op:=Op.buildSlice 41 1 #[(0,Operand.tmp 24)],type:=41,pos:= "l09_shard.go:64",after:=#[{on:=6,ground:=Ground.data}],guard:=none}) (by aa) rfl (fun K hK=>?_)
 af;have dd:Below w6.heap.size w6 (w6.alloc (.cells #[.int .i64 kind,.int .i64 tx,.slice (some ⟨g6,0,none⟩) len c6] 98)):=(Below.refl _ _).alloc (Nat.le_refl _) _;have jd:=iU.trans (dd.mono iU.size);refine hK.out _ _ ?_ (fun aq=>?_)
 · exact⟨Mt.below jd,cv.below jd⟩
 clear hK K al;have al:=aq;clear aq;try simp only[Act.put,List.setIfInBounds_toArray,List.set_cons_zero,List.set_cons_succ];refine last.ax (i:=8) (o:={dst:=some 26,op:=Op.call {callee:=Callee.builtin Builtin.append,args:=#[Operand.tmp 22,Operand.tmp 25],argTypes:=#[41,41]},type:=41,pos:= "l09_shard.go:64",after:=#[{on:=4,ground:=Ground.data},{on:=7,ground:=Ground.data},{on:=6,ground:=Ground.chain}],guard:=none}) (by aa) rfl (fun K hK=>?_)
 have p_:=(fK en).mono (base':=0) (Nat.zero_le _);have pV:=p_.below dd;have Bk:=Sz.below jd;refine step_append_lies _ rfl (.tmp 22) (.tmp 25) 41 rfl 0 98 i0 (.agg #[.int .i64 0,.int .i64 0,.slice none 0 0]) 3 40 Tryz.underlying41 hi dE dD cO rfl (by decide) (.slice la s.2.1.length lc) _ _ (by aa) Bk.row ⟨w6.heap.size,0,none⟩ 1 1 [.int .i64 kind,.int .i64 tx,.slice (some ⟨g6,0,none⟩) len c6] (by aa) rfl (jj w6 kind tx _ _) (me kind tx p_.one) (by decide) fR kn (Nat.zero_le _) _ rfl ?_
 intro g8 c8 w8 gi bY iW vd;have jQ:∀j,(Value.slice (some ⟨g6,0,none⟩) len c6).ownBlock=some j→¬dq (.slice la s.2.1.length lc) hl j:=fun j hj hb=>by
  have e1:g6=j:=by simpa[Value.ownBlock] using hj
  have h1:=(Sz.lt j hb).2;have h2:=en.lt.1;have h3:=mi.size;omega
 have Gn:bB w8 0 (.slice (some ⟨g8,0,none⟩) (s.2.1.length+1) c8) (s.2.1++[(kind,tx,ops)]) (hl++[.slice (some ⟨g6,0,none⟩) len c6]):=Bk.snoc pV xK jQ gi bY;have xW:∀k,(Value.slice la s.2.1.length lc).ownBlock=some k→k∈F∧k∉F0∧k<w.heap.size:=fun k hk=>WK k (.inl hk)
 have JF:=(Mt.below jd).grown bY (fun e=>jH (xW X e.symm).1)
 have Gf:=(cv.below jd).grown bY (fun e=>by have:=xW _ e.symm; omega)
 have SA:lay.Frame (X::F) w w8:=(Pk.below jd).grown bY (fun k e=>.inl (List.mem_cons_of_mem _ (xW k e).1))
 have uh:∀k,((Value.slice am nm cm).ownBlock=some k∨dq (.slice ah (forced s.2.2.2.1 s.2.2.2.2 (kind,tx,ops)).2.length ch) hs k)→(k∈F0∨w.heap.size<k)∧k<w2.heap.size:=fun k hk=>by
  refine⟨?_,?_⟩
  · rcases hk with e | e
    · exact(fy.Ds k e).imp_right (fun _=>by omega)
    · exact(fy.zb k e).imp_right (fun _=>by omega)
  · rcases hk with e | e
    · exact fy.m.lt k e
    · exact(fy.held.lt k e).2
 have ZK:∀k,(k∈F0∨w.heap.size<k)→some k≠(Value.slice la s.2.1.length lc).ownBlock:=fun k hk e=>by
  have h3:=xW k e.symm;rcases hk with e | e
  · exact h3.2.1 e
  · omega
 have Js:=fy.below jd;have EF:eG w8 am nm cm (forced s.2.2.2.1 s.2.2.2.2 (kind,tx,ops)).1:=Js.m.cc fun k hk=>bY.block k (Js.m.lt k hk) (ZK k (uh k (.inl hk)).1)
 have WL:bB w8 0 (.slice ah (forced s.2.2.2.1 s.2.2.2.2 (kind,tx,ops)).2.length ch) (forced s.2.2.2.1 s.2.2.2.2 (kind,tx,ops)).2 hs:=Js.held.bl fun k hk=>bY.block k (Js.held.lt k hk).2 (ZK k (uh k (.inr hk)).1)
 have ZL:gE W.heap.size (.slice am nm cm) (.slice ah (forced s.2.2.2.1 s.2.2.2.2 (kind,tx,ops)).2.length ch) vs w8:=Js.box.grown bY (fun e=>by have:=xW _ e.symm; omega)
 have sy:g8∈F∧g8∉F0∧g8<w.heap.size∨w2.heap.size≤g8:=by
  rcases iW with e | e
  · exact .inl (xW g8 e)
  · right;have h1:=jd.size;omega
 refine hK.out _ _ ?_ (fun aq=>?_)
 · exact⟨JF,Gf⟩
 clear hK K al;have al:=aq;clear aq;try simp only[Act.put,List.setIfInBounds_toArray,List.set_cons_zero,List.set_cons_succ];refine last.ax (i:=9) (o:={dst:=some 27,op:=Op.nilCheck (Operand.tmp 18),type:=0,pos:= "l09_shard.go:64",after:=#[{on:=0,ground:=Ground.data},{on:=0,ground:=Ground.phase},{on:=1,ground:=Ground.phase},{on:=2,ground:=Ground.phase},{on:=3,ground:=Ground.phase},{on:=4,ground:=Ground.phase},{on:=5,ground:=Ground.phase},{on:=6,ground:=Ground.phase},{on:=7,ground:=Ground.phase},{on:=8,ground:=Ground.phase}],guard:=none}) (by aa) rfl (fun K hK=>?_)
 af;refine hK.out _ _ ?_ (fun aq=>?_)
 · exact al
 clear hK K al;have al:=aq;clear aq;try simp only[Act.put,List.setIfInBounds_toArray,List.set_cons_zero,List.set_cons_succ];refine last.ae (i:=10) (v:=(.pointer (some ⟨X,pre.length+1,none⟩))) rfl rfl (by aa) (by aa) (by aa) (by aa) (fun _ _ _ h=>h) (Or.inl ⟨by rfl,?_⟩) (by assumption) ?_
 · intro wq aC; af
 try simp only[Act.put,List.setIfInBounds_toArray,List.set_cons_zero,List.set_cons_succ];have e8:=JF.cell 1 _ rfl;have f8:=JF.fz (pre.length+1);refine last.aL (o:={dst:=none,op:=Op.store 41 (Operand.tmp 28) (Operand.tmp 26),type:=0,pos:= "l09_shard.go:64",after:=#[{on:=10,ground:=Ground.data},{on:=8,ground:=Ground.data},{on:=8,ground:=Ground.chain},{on:=0,ground:=Ground.phase},{on:=1,ground:=Ground.phase},{on:=2,ground:=Ground.phase},{on:=3,ground:=Ground.phase},{on:=4,ground:=Ground.phase},{on:=5,ground:=Ground.phase},{on:=6,ground:=Ground.phase},{on:=7,ground:=Ground.phase},{on:=8,ground:=Ground.phase}],guard:=none}) (by aa) rfl (by aa) (fun K hK=>?_)
 af;refine hK.out _ _ ?_;clear hK K;have c9:=JF.set 1 (by simp[aU]) (.slice (some ⟨g8,0,none⟩) (s.2.1.length+1) c8)
 have WM:∀k,k∈F∨w.heap.size≤k→k≠X:=fun k hk e=>by
  subst e;rcases hk with e | e
  · exact jH e
  · omega
 have U5:∀k,dq (.slice (some ⟨g8,0,none⟩) (s.2.1.length+1) c8) (hl++[.slice (some ⟨g6,0,none⟩) len c6]) k→(k∈F∧k∉F0∧k<w.heap.size)∨w2.heap.size≤k:=fun k hk=>by
  rcases hk with e | ⟨y,hy,e⟩
  · have:g8=k:=by simpa[Value.ownBlock] using e
    subst this;exact sy
  · rcases List.mem_append.1 hy with e2 | e2
    · exact .inl (WK k (.inr ⟨y,e2,e⟩))
    · right;rw[List.mem_singleton.1 e2] at e;have e1:g6=k:=by simpa[Value.ownBlock] using e
      have h1:=en.lt.1;have h2:=mi.size;omega
 have Pl:∀k,dq (.slice (some ⟨g8,0,none⟩) (s.2.1.length+1) c8) (hl++[.slice (some ⟨g6,0,none⟩) len c6]) k→some k≠some X:=fun k hk e=>WM k ((U5 k hk).imp (fun h=>h.1) (fun h=>by omega)) (Option.some.inj e)
 have Re:∀k,((Value.slice am nm cm).ownBlock=some k∨dq (.slice ah (forced s.2.2.2.1 s.2.2.2.2 (kind,tx,ops)).2.length ch) hs k)→some k≠some X:=fun k hk e=>WM k ((uh k hk).1.imp (fun h=>JE k h) (fun h=>by omega)) (Option.some.inj e)
 generalize Pb:w8.setCell ⟨X,pre.length+1,none⟩ (.slice (some ⟨g8,0,none⟩) (s.2.1.length+1) c8)=w9 at *;have Bl:=Gn.bl fun k hk=>c9.2.block k (Gn.lt k hk).2 (Pl k hk)
 have WN:=EF.cc fun k hk=>c9.2.block k (EF.lt k hk) (Re k (.inl hk))
 have WO:=WL.bl fun k hk=>c9.2.block k (WL.lt k hk).2 (Re k (.inr hk))
 have ZM:=ZL.grown c9.2 (fun e=>Pj (Option.some.inj e).symm)
 have Mu:lay.Frame (X::F) w w9:=SA.grown c9.2 (fun k e=>.inl (by rw[←Option.some.inj e]; exact List.mem_cons_self))
 have Gp:aD X T pre (aU s.1 s.2.2.1 (some ⟨g8,0,none⟩) (s.2.1.length+1) c8 ma mn mc ha s.2.2.2.2.length hc) post w9:=c9.1;clear c9 Pb e8 f8 al Gn EF WL ZL SA JF Gf bY gi Bk p_ pV Js dd jd iU en mJ wW iW vd;obtain⟨v0,v1,v2⟩:=ZM.cells;have x3:=Gp.cell 3 _ rfl;have x4:=Gp.cell 4 _ rfl;have y3:=Gp.fz (pre.length+3);have y4:=Gp.fz (pre.length+4);have pX:=Gp.set 3 (by simp[aU]) (.slice am nm cm)
 have WQ:=pX.1.set 4 (by simp[aU]) (.slice ah (forced s.2.2.2.1 s.2.2.2.2 (kind,tx,ops)).2.length ch)
 have SB:=az pX.2 WQ.2;have WR:=(ZM.grown pX.2 (fun e=>Pj (Option.some.inj e).symm)).cells.2.1
 have z4:=pX.1.cell 4 _ rfl;have q4:=pX.1.fz (pre.length+4);have HE:Hid (dH w X T pre post F (written s (kind,tx,ops)) ((w9.setCell ⟨X,pre.length+3,none⟩ (.slice am nm cm)).setCell ⟨X,pre.length+4,none⟩ (.slice ah (forced s.2.2.2.1 s.2.2.2.2 (kind,tx,ops)).2.length ch))):=by
  have SC:=Bl.bl fun k hk=>SB.block k (Bl.lt k hk).2 (Pl k hk)
  have hmz:=WN.cc fun k hk=>SB.block k (WN.lt k hk) (Re k (.inl hk))
  have ZN:=WO.bl fun k hk=>SB.block k (WO.lt k hk).2 (Re k (.inr hk))
  have WS:=Mu.grown SB (fun k e=>.inl (by rw[←Option.some.inj e]; exact List.mem_cons_self))
  have d1:=k9.bU (dB.2 ⟨_,SC,rfl⟩);have d3:=k9.bU (dB.2 ⟨_,ZN,rfl⟩);have wU:∀k∈(Value.slice am nm cm).ownBlock.toList++ou (.slice ah (forced s.2.2.2.1 s.2.2.2.2 (kind,tx,ops)).2.length ch) hs,(Value.slice am nm cm).ownBlock=some k∨dq (.slice ah (forced s.2.2.2.1 s.2.2.2.2 (kind,tx,ops)).2.length ch) hs k:=fun k hk=>by
   rcases List.mem_append.1 hk with e | e
   · exact .inl (by simpa using e)
   · exact .inr (aJ.1 e)
  refine⟨some ⟨g8,0,none⟩,s.2.1.length+1,c8,am,nm,cm,ah,_,ch,_,⟨WQ.1,⟨h.own.id,h.own.sure,⟨_,SC,hs,ZN,rfl⟩,hmz,?_⟩,?_⟩,WS,?_⟩
  · refine bZ d1 (bZ (by cases(Value.slice am nm cm).ownBlock <;> simp) d3 (fun k hk iu=>?_)) (fun k hk iu=>?_)
    · have h9:(Value.slice am nm cm).ownBlock=some k:=by simpa using hk
      exact fy.zc fy.m.2.2 (by decide) (by decide) k (aJ.1 iu) h9.symm
    · have h1:=U5 k (aJ.1 hk);have h2:=uh k (wU k iu);rcases h1 with h1 | h1
      · rcases h2.1 with h3 | h3
        · exact h1.2.1 h3
        · omega
      · omega
  · intro hk;rcases List.mem_append.1 hk with e | e
    · exact Pl X (aJ.1 e) rfl
    · exact Re X (wU X e) rfl
  · intro k hk;rcases List.mem_append.1 hk with e | e
    · exact(U5 k (aJ.1 e)).imp (fun h=>h.1) (fun h=>by omega)
    · exact(uh k (wU k e)).1.imp (fun h=>JE k h) (fun h=>by omega)
 rw[Zj] at v0 v1 v2 WR;clear Bl WN WO Mu Gp pX WQ SB fy Pl Re U5 uh;ab fail;refine bodyPost_end (v:=.tuple #[]) ?_ rfl ⟨rfl,HE.out⟩;simp[results,Tryz.results159,go_sem]
end bm
namespace bm
open Go Go.RowKit base aE aX dG gO lay
theorem cD.Mv{s:de}(h:cD s):∃seen,replay s.2.1=some (s.2.2.2.1,s.2.2.2.2,seen)∧vh s.2.1.length (s.2.2.2.1,s.2.2.2.2,seen):=by
 obtain⟨seen,hm⟩:=h.made;have:=lD s.2.1 0 _ _ qq hm;rw[Nat.zero_add] at this;exact⟨seen,hm,this⟩
theorem JG(l:List Rc)(h:∀k,k<l.length→(cn l k).length≤8):bQ l≤8 * l.length:=by
 have:∀(l:List Rc),(∀r∈l,r.2.2.length≤8)→bQ l≤8 * l.length:=by
  intro l hl
  induction l with
  | nil=>simp[bQ]
  | cons r l ih=>
   have h1:=ih fun x hx=>hl x (List.mem_cons_of_mem _ hx)
   have h2:=hl r List.mem_cons_self;have e:bQ (r::l)=r.2.2.length+bQ l:=by simp[bQ]
   rw[e,List.length_cons]; omega
 refine this l fun r hr=>?_
 obtain⟨i,hi,rfl⟩:=List.getElem_of_mem hr;have:=h i hi;oU [mh hi] at this
section
variable{w w':World}{X:Nat}{T:TypeId}{pre post:List Value}{la ma ha:Option Addr}{ln lc mn mc hn hc:Nat}{s:de}{F:List Nat}
theorem gW.below(h:gW w X T pre post la ln lc ma mn mc ha hn hc s F)(hb:Below w.heap.size w w'):gW w' X T pre post la ln lc ma mn mc ha hn hc s F:=⟨h.box.below hb,h.own.below hb,h.out⟩
theorem gW.same(h:gW w X T pre post la ln lc ma mn mc ha hn hc s F)(hb:Below w.heap.size w w'):dH w X T pre post F s w':=
 ⟨la,ln,lc,ma,mn,mc,ha,hn,hc,F,h.below hb,lay.Frame.cM hb,fJ.refl _ _⟩
theorem gW.lens(h:gW w X T pre post la ln lc ma mn mc ha hn hc s F):ln=s.2.1.length∧mn=s.2.2.2.1.length∧hn=s.2.2.2.2.length:=by
 obtain⟨hl,uk,hh,rq,_⟩:=h.own.log;exact⟨uk.nF,h.own.map.1.symm,rq.nF⟩
theorem dH.from{w0:World}{s':de}(hb:Below w0.heap.size w0 w)(hF:∀k∈F,k<w0.heap.size)(h:dH w X T pre post F s' w'):dH w0 X T pre post F s' w':=by
 obtain⟨la,ln,lc,ma,mn,mc,ha,hn,hc,F',h1,h2,h3⟩:=h;refine⟨la,ln,lc,ma,mn,mc,ha,hn,hc,F',h1,(lay.Frame.cM (G:=X::F) hb).trans h2 (fJ.refl _ _),fun k hk=>(h3 k hk).imp_right (fun e=>Nat.le_trans hb.size e)⟩
end
theorem cD.Gq{s:de}{tx:Int}{ops:List Od}(h:cD s)(bR:bu (1,tx,ops)=true)(hl:locked s.2.2.2.2 ops=false)(hm:meets s.2.2.2.1 ops=true):Fits s.2.2.2.1 s.2.2.2.2 (1,tx,ops):=by
 obtain⟨seen,_,ht⟩:=h.Mv;have:=h.room;exact⟨bR,.inl ⟨rfl,hl,hm⟩,ht.jS,by omega,ht.eight⟩
theorem cD.Gr{s:de}{tx:Int}(h:cD s)(bR:bu (3,tx,[])=true)(hp:aR tx s.2.2.2.2=none):Fits s.2.2.2.1 s.2.2.2.2 (3,tx,[]):=by
 obtain⟨seen,_,ht⟩:=h.Mv;have:=h.room;exact⟨bR,.inr (.inl ⟨rfl,hp⟩),ht.jS,by omega,ht.eight⟩
theorem cD.JH{s:de}{kind tx:Int}{k:Nat}(h:cD s)(bR:bu (kind,tx,[])=true)(hk:kind≠1)(hp:aR tx s.2.2.2.2=some k):Fits s.2.2.2.1 s.2.2.2.2 (kind,tx,[]):=by
 obtain⟨seen,_,ht⟩:=h.Mv;have:=h.room;exact⟨bR,.inr (.inr ⟨hk,k,hp⟩),ht.jS,by omega,ht.eight⟩
theorem DI{tx:Int}{ops:List Od}(h:(kR tx && b_ ops)=true):bu (1,tx,ops)=true:=by
 rw[Bool.and_eq_true] at h;exact(bS _).2 ⟨by simpa[kR] using h.1,.inl ⟨rfl,h.2⟩⟩
theorem ld(X:Nat)(T:TypeId)(pre post:List Value)(la:Option Addr)(ln lc:Nat)(ma:Option Addr)(mn mc:Nat)(ha:Option Addr)(hn hc:Nat)(s:de)(F:List Nat)(tx:Int)(a:Option Addr)(len cap:Nat)(ops:List Od)(w:World)
 (h:gW w X T pre post la ln lc ma mn mc ha hn hc s F) (cF:∀w',lay.Frame (X::F) w w'→dS w' a len ops) (dV:∀p∈ops,p.2.1.size≤1099511627776) (wv:(Lit.int .i64 tx).wf=true) (hlen:len≤1099511627776) (hR:cD s):
 Calls Tryz.prog 122 #[.pointer (some ⟨X,pre.length,none⟩),.int .i64 tx,.slice a len cap] w fun e w'=>e=.returned (.int .i64 (gV s tx ops).2)∧dH w X T pre post F (gV s tx ops).1 w':=by
 obtain⟨l1,l2,l3⟩:=h.lens;obtain⟨seen,SD,JI⟩:=hR.Mv;have oq:=hR.room;have dT:=cF w (lay.Frame.refl _ _);have O4:=dT.2.2.1;have pf:=dT.1;have Gs:=JG s.2.2.2.2 JI.eight;have uy:=h.own.fo;have jf:=h.box.lt;have HI:=Hid.mk' (fun wx=>(rj tx 1 1000000 wx).mono (fun e w' (hp:e=.returned (.bool (decide (1≤tx∧tx≤1000000)))∧w'=wx)=>(⟨hp.1,hp.2.symm⟩:e=.returned (.bool (decide (1≤tx∧tx≤1000000)))∧wx=w')))
 have U6:s.2.2.2.1.length≤60:=JI.jS;by_cases g1:1≤tx∧tx≤1000000
 · rw[decide_eq_true g1] at HI;have gt:kR tx=true:=decide_eq_true g1;have fl:=Hid.mk' (ga a len cap ops w dT dV);cases g2:b_ ops with
   | false=>
    have HH:Hid (gV s tx ops=(s,5)):=by show _=_; unfold gV; rw[g2]; simp
    rw[g2] at fl;rw[HH.out];clear g2 gt g1 l1 l2 l3 Gs oq U6 pf;aj Tryz.func122,Tryz.ntmps122;ab fail;refine(HI.out _).mono ?_;rintro e w1 ⟨rfl,rfl⟩;ab fail;refine fl.out.mono ?_;rintro e w2 ⟨rfl,be⟩;clear HI fl;ab fail;an;exact⟨rfl,h.same be⟩
   | true=>
    rw[g2] at fl;have gg:(kR tx && b_ ops)=true:=by rw[gt,g2]; rfl
    have SE:=DI gg;have y8:=Hid.mk' (fun wx (hx:Below w.heap.size w wx)=>oC la ln lc ma mn mc ha hn hc s tx wx (uy.below hx))
    have q0:∀wx,Below w.heap.size w wx→aD X T pre (aU s.1 s.2.2.1 la ln lc ma mn mc ha hn hc) post wx:=fun wx hx=>h.box.below hx
    by_cases g3:eP s tx=2
    · rw[g3] at y8;have Bm:=Hid.mk' (fun wx (hx:Below w.heap.size w wx)=>jE ha hn hc s.2.2.2.2 a len cap ops wx (uy.held.below hx) (dT.below hx))
      have ZO:=Hid.mk' (fun wx (hx:Below w.heap.size w wx)=>kr ma mn mc s.2.2.2.1 a len cap ops wx (uy.map.below hx) (dT.below hx))
      have ZP:=Hid.mk' (fun wx (hx:Below w.heap.size w wx)=>Bh la ln lc ma mn mc ha hn hc s a len cap ops wx (uy.below hx) (dT.below hx) (by omega) (by omega) (by omega))
      have R7:lB s ops≤1099511627776+10000:=by unfold lB; omega
      have Lr:Hid (gV s tx ops=if qo s ops=true then(s,2) else(written s (1,tx,ops),1)):=by
       show _=_;unfold gV;rw[gg,if_neg (by simp),if_neg (by simp[g3])]
      have Cx:Hid (qo s ops=(locked s.2.2.2.2 ops || !meets s.2.2.2.1 ops || decide (60<lB s ops) || decide (300<s.2.1.length+s.2.2.2.2.length+2))):=rfl
      have sw:ln≤300:=by omega
      have hhn:hn≤300:=by omega
      have pn:Hid (s.2.1.length+s.2.2.2.2.length=ln+hn):=by show _=_; omega
      have Fs:=Hid.mk' (fun wx (hx:Below w.heap.size w wx)=>gD a len cap ops wx (dT.below hx) hlen)
      have zm:=Hid.mk' (fun wx (hx:Below w.heap.size w wx) (g0 c0:Nat) (ho:ck wx w.heap.size g0 len c0 ops) (h1:locked s.2.2.2.2 ops=false) (h2:meets s.2.2.2.1 ops=true)=>rm X T pre post la ln lc ma mn mc ha hn hc s F 1 tx (some ⟨g0,0,none⟩) len c0 ops wx (h.below hx) (fun w' hf=>ck.sl (base:=0) (by
       have h9:=ho.mono (base':=0) (Nat.zero_le _);refine⟨h9.1,h9.2.1,cV h9.2.2 (fun k e=>hf.block k (h9.lt.2 |> fun hh=>by simp[Value.ownBlock] at e; omega) (fun e2=>?_))⟩
       have e3:g0=k:=by simpa[Value.ownBlock] using e
       have h5:=ho.lt.1;rcases List.mem_cons.1 e2 with e4 | e4
       · omega
       · have:=h.own.lt k e4; omega)) dV ⟨rfl,wv,O4⟩ hlen (hR.Gq SE h1 h2) (by omega))
      have kF:=h.own.lt;generalize hKK:lB s ops=KK at *;clear hKK Gs oq U6 pf g1 g2 gt gg SE SD JI l1 l2 l3;have jI:=fun wx (hx:Below w.heap.size w wx)=>h.same hx
      have Gt:=Hid.mk' jI;clear jI;aj Tryz.func122,Tryz.ntmps122;ab fail;refine(HI.out _).mono ?_;rintro e w1 ⟨rfl,rfl⟩;ab fail;refine fl.out.mono ?_;rintro e w2 ⟨rfl,be⟩;clear HI fl;have b2:=q0 _ be;have k0:=b2.cell 0 _ rfl;have k1:=b2.cell 1 _ rfl;have k2:=b2.cell 2 _ rfl;have k3:=b2.cell 3 _ rfl;have k4:=b2.cell 4 _ rfl;simp only[Nat.add_zero] at k0;ab fail;refine(y8.out _ be).mono ?_;rintro e w3 ⟨rfl,sz⟩;have dI:=be.trans (sz.mono be.size);have b3:=q0 _ dI;have nN:=b3.lt;clear y8 k0 k1 k2 k3 k4 b2 sz;have o0:=last.On.cell (B:=w3.heap.size) (b3.cell 0 _ rfl) nN;have o1:=last.On.cell (B:=w3.heap.size) (b3.cell 1 _ rfl) nN;have o2:=last.On.cell (B:=w3.heap.size) (b3.cell 2 _ rfl) nN;have o3:=last.On.cell (B:=w3.heap.size) (b3.cell 3 _ rfl) nN;have o4:=last.On.cell (B:=w3.heap.size) (b3.cell 4 _ rfl) nN
      simp only[Nat.add_zero] at o0;have br:=last.On.iq w3.heap.size w3;have Hw:∀x9:last.On w3.heap.size w3,Calls Tryz.prog 139 #[.slice ha hn hc,.slice a len cap] x9.w fun e w'=>e=.returned (.bool (locked s.2.2.2.2 ops))∧∃y9:last.On w3.heap.size w3,w'=y9.w:=fun x9=>last.Calls.on x9 (Nat.le_refl _) (Bm.out _ (dI.trans (x9.2.mono dI.size)))
      have Hx:∀x9:last.On w3.heap.size w3,Calls Tryz.prog 140 #[.slice ma mn mc,.slice a len cap] x9.w fun e w'=>e=.returned (.bool (meets s.2.2.2.1 ops))∧∃y9:last.On w3.heap.size w3,w'=y9.w:=fun x9=>last.Calls.on x9 (Nat.le_refl _) (ZO.out _ (dI.trans (x9.2.mono dI.size)))
      have Ls:∀x9:last.On w3.heap.size w3,Calls Tryz.prog 158 #[cd s.1 s.2.2.1 la ln lc ma mn mc ha hn hc,.slice a len cap] x9.w fun e w'=>e=.returned (.int .i64 (KK:Int))∧∃y9:last.On w3.heap.size w3,w'=y9.w:=fun x9=>last.Calls.on x9 (Nat.le_refl _) (ZP.out _ (dI.trans (x9.2.mono dI.size)))
      clear Bm ZO ZP;cases g4:locked s.2.2.2.2 ops with
      | true=>
       rw[g4] at Hw;have HV:Hid (gV s tx ops=(s,2)):=by show _=_; rw[Lr.out,Cx.out,g4]; simp
       clear Lr Cx g4 zm;ab fail;refine last.ar w3.heap.size (by aa) (by aa) ?_
       repeat(ai (first | (ao 139; ag exact Hw _) | (ao 140; ag exact Hx _) | (ao 158; ag exact Ls _)))
       refine wpQuiet_nil ?_;intro w5 cf;obtain⟨x5,cf⟩:=cf;have dx:Below w.heap.size w w5:=by rw[cf]; exact dI.trans (x5.2.mono dI.size)
       clear cf x5 o0 o1 o2 o3 o4 Hw Hx Ls br;ab fail;an;rw[HV.out];exact⟨rfl,Gt.out _ dx⟩
      | false=>
       rw[g4] at Hw;cases g5:meets s.2.2.2.1 ops with
       | false=>
        rw[g5] at Hx;have HV:Hid (gV s tx ops=(s,2)):=by show _=_; rw[Lr.out,Cx.out,g4,g5]; simp
        clear Lr Cx g4 g5 zm;ab fail;refine last.ar w3.heap.size (by aa) (by aa) ?_
        repeat(ai (first | (ao 139; ag exact Hw _) | (ao 140; ag exact Hx _) | (ao 158; ag exact Ls _)))
        refine wpQuiet_nil ?_;intro w5 cf;obtain⟨x5,cf⟩:=cf;have dx:Below w.heap.size w w5:=by rw[cf]; exact dI.trans (x5.2.mono dI.size)
        clear cf x5 o0 o1 o2 o3 o4 Hw Hx Ls br;ab fail;an;rw[HV.out];exact⟨rfl,Gt.out _ dx⟩
       | true=>
        rw[g5] at Hx;by_cases g6:60<KK
        · have HV:Hid (gV s tx ops=(s,2)):=by show _=_; rw[Lr.out,Cx.out,g4,g5,decide_eq_true g6]; simp
          have g6':decide ((60:Int)<(KK:Int))=true:=decide_eq_true (by omega)
          clear Lr Cx g4 g5 zm;ab fail;refine last.ar w3.heap.size (by aa) (by aa) ?_
          repeat(ai (first | (ao 139; ag exact Hw _) | (ao 140; ag exact Hx _) | (ao 158; ag exact Ls _)))
          refine wpQuiet_nil ?_;intro w5 cf;obtain⟨x5,cf⟩:=cf;have dx:Below w.heap.size w w5:=by rw[cf]; exact dI.trans (x5.2.mono dI.size)
          clear cf x5 o0 o1 o2 o3 o4 Hw Hx Ls br;ab fail;an;rw[HV.out];exact⟨rfl,Gt.out _ dx⟩
        · have g6':decide ((60:Int)<(KK:Int))=false:=decide_eq_false (by omega)
          by_cases g7:300<ln+hn+2
          · have HV:Hid (gV s tx ops=(s,2)):=by show _=_; rw[Lr.out,Cx.out,pn.out,decide_eq_true g7]; simp
            have WT:decide ((300:Int)<(ln:Int)+(hn:Int)+2)=true:=decide_eq_true (by omega)
            clear Lr Cx g4 g5 zm;ab fail;refine last.ar w3.heap.size (by aa) (by aa) ?_
            repeat(ai (first | (ao 139; ag exact Hw _) | (ao 140; ag exact Hx _) | (ao 158; ag exact Ls _)))
            refine wpQuiet_nil ?_;intro w5 cf;obtain⟨x5,cf⟩:=cf;have dx:Below w.heap.size w w5:=by rw[cf]; exact dI.trans (x5.2.mono dI.size)
            clear cf x5 o0 o1 o2 o3 o4 Hw Hx Ls br;ab fail;an;rw[HV.out];exact⟨rfl,Gt.out _ dx⟩
          · have HV:Hid (gV s tx ops=(written s (1,tx,ops),1)):=by show _=_; rw[Lr.out,Cx.out,pn.out,g4,g5,decide_eq_false g6,decide_eq_false g7]; simp
            have WT:decide ((300:Int)<(ln:Int)+(hn:Int)+2)=false:=decide_eq_false (by omega)
            have vt:=Hid.mk' (fun wx hx g0 c0 ho=>zm.out wx hx g0 c0 ho g4 g5)
            clear Lr Cx g4 g5 zm;ab fail;refine last.ar w3.heap.size (by aa) (by aa) ?_
            repeat(ai (first | (ao 139; ag exact Hw _) | (ao 140; ag exact Hx _) | (ao 158; ag exact Ls _)))
            refine wpQuiet_nil ?_;intro w5 cf;obtain⟨x5,cf⟩:=cf;have dx:Below w.heap.size w w5:=by rw[cf]; exact dI.trans (x5.2.mono dI.size)
            clear cf x5 o0 o1 o2 o3 o4 Hw Hx Ls br;ab fail;refine(Fs.out _ dx).mono ?_;rintro e w6 ⟨g0,c0,rfl,en,WU⟩;have mJ:=dx.trans (WU.mono dx.size);have WV:=en.mono (base':=w.heap.size) dx.size;clear Fs;ab fail;refine(vt.out _ mJ _ _ WV).mono ?_;rintro e w7 ⟨rfl,tj⟩;have WW:=tj.from mJ kF
            clear vt tj;ab fail;an;rw[HV.out];exact⟨rfl,WW⟩
    · have HV:Hid (gV s tx ops=(s,eP s tx)):=by show _=_; unfold gV; rw[gg,if_neg (by simp),if_pos g3]
      rw[HV.out];have g3':(eP s tx==2)=false:=beq_eq_false_iff_ne.2 g3;have g3'':(eP s tx != 2)=true:=by simpa using g3
      generalize eP s tx=oo at *;clear g2 gt g1 l1 l2 l3 Gs oq U6 pf g3;aj Tryz.func122,Tryz.ntmps122;ab fail;refine(HI.out _).mono ?_;rintro e w1 ⟨rfl,rfl⟩;ab fail;refine fl.out.mono ?_;rintro e w2 ⟨rfl,be⟩;clear HI fl;have b2:=q0 _ be;have k0:=b2.cell 0 _ rfl;have k1:=b2.cell 1 _ rfl;have k2:=b2.cell 2 _ rfl;have k3:=b2.cell 3 _ rfl;have k4:=b2.cell 4 _ rfl;simp only[Nat.add_zero] at k0;ab fail;refine(y8.out _ be).mono ?_;rintro e w3 ⟨rfl,sz⟩;have dI:=be.trans (sz.mono be.size);clear y8 k0 k1 k2 k3 k4 b2 sz;ab fail;an;exact⟨rfl,h.same dI⟩
 · rw[decide_eq_false g1] at HI;have gt:kR tx=false:=decide_eq_false g1;have HH:Hid (gV s tx ops=(s,5)):=by show _=_; unfold gV; rw[gt]; simp
   rw[HH.out];clear gt g1 l1 l2 l3 Gs oq U6 pf;aj Tryz.func122,Tryz.ntmps122;ab fail;refine(HI.out _).mono ?_;rintro e w1 ⟨rfl,rfl⟩;clear HI;ab fail;an;exact⟨rfl,h.same (Below.refl _ _)⟩
end bm
namespace bm
open Go Go.RowKit base aE aX dG gO lay
theorem zn{k:Int}:eB k=1∨eB k=2∨eB k=3∨eB k=4:=by
 unfold eB
 split
 · exact .inl rfl
 · split
   · exact .inr (.inr (.inl rfl))
   · split
     · exact .inr (.inr (.inr rfl))
     · exact .inr (.inl rfl)
theorem xX{tx:Int}(h:kR tx=true)(kind:Int)(hk:kind=2∨kind=3):bu (kind,tx,[])=true:=
 (bS _).2 ⟨by simpa[kR] using h,.inr ⟨hk,rfl⟩⟩
theorem Mw(k:Int)(h:k=2∨k=3):(Lit.int .i64 k).wf=true:=by rcases h with rfl | rfl <;> rfl
theorem jz(X:Nat)(T:TypeId)(pre post:List Value)(la:Option Addr)(ln lc:Nat)(ma:Option Addr)(mn mc:Nat)(ha:Option Addr)(hn hc:Nat)(s:de)(F:List Nat)(tx:Int)(yes:Bool)(w:World)
 (h:gW w X T pre post la ln lc ma mn mc ha hn hc s F) (wv:(Lit.int .i64 tx).wf=true) (hR:cD s):
 Calls Tryz.prog 124 #[.pointer (some ⟨X,pre.length,none⟩),.int .i64 tx,.bool yes] w fun e w'=>e=.returned (.bool (df s tx yes).2)∧dH w X T pre post F (df s tx yes).1 w':=by
 obtain⟨l1,l2,l3⟩:=h.lens;have oq:=hR.room;have uy:=h.own.fo;have jf:=h.box.lt;have kF:=h.own.lt;have HI:=Hid.mk' (fun wx=>(rj tx 1 1000000 wx).mono (fun e w' (hp:e=.returned (.bool (decide (1≤tx∧tx≤1000000)))∧w'=wx)=>(⟨hp.1,hp.2.symm⟩:e=.returned (.bool (decide (1≤tx∧tx≤1000000)))∧wx=w')))
 by_cases g1:1≤tx∧tx≤1000000
 · rw[decide_eq_true g1] at HI;have gt:kR tx=true:=decide_eq_true g1;obtain⟨kd,NN,Pm⟩:∃kd:Int,kd=(if yes=true then 2 else 3)∧(kd=2∨kd=3):=by
    refine⟨_,rfl,?_⟩
    split
    · exact .inl rfl
    · exact .inr rfl
   have SF:=Mw kd Pm;obtain⟨W,hW⟩:∃W,w.alloc (.cells #[.int .i64 kd,.int .i64 tx,.slice none 0 0] 98)=W:=⟨_,rfl⟩;have hB:Below w.heap.size w W:=by rw[←hW]; exact(Below.refl _ _).alloc (Nat.le_refl _) _
   have mU:dt w.heap.size kd tx (.slice none 0 0) W:=by rw[←hW]; exact cG _ _ _ _
   have y8:=Hid.mk' (oC la ln lc ma mn mc ha hn hc s tx W (uy.below hB));have z6:=h.box.below hB;have k0:=z6.cell 0 _ rfl;have k1:=z6.cell 1 _ rfl;have k2:=z6.cell 2 _ rfl;have k3:=z6.cell 3 _ rfl;have k4:=z6.cell 4 _ rfl;simp only[Nat.add_zero] at k0;have sw:ln≤300:=by omega
   have hhn:hn≤300:=by omega
   have pn:Hid (s.2.1.length+s.2.2.2.2.length=ln+hn):=by show _=_; omega
   have zm:=Hid.mk' (fun wx (hx:Below w.heap.size w wx) (hf:Fits s.2.2.2.1 s.2.2.2.2 (kd,tx,[]))=>(rm X T pre post la ln lc ma mn mc ha hn hc s F kd tx none 0 0 [] wx (h.below hx) (fun w' _=>uc _ _) (fun p hp=>absurd hp List.not_mem_nil) ⟨SF,wv,fun o ho=>absurd ho List.not_mem_nil⟩ (Nat.zero_le _) hf (by omega)).mono (fun e w' hp=>(⟨hp.1,hp.2.from hx kF⟩:e=.returned (.tuple #[])∧dH w X T pre post F (written s (kd,tx,[])) w')))
   have Gt:=Hid.mk' (fun wx (hx:Below w.heap.size w wx)=>h.same hx)
   have HD:Hid (df s tx yes=if eP s tx=1 then(written s (kd,tx,[]),true) else if eP s tx=3 then(s,yes) else if eP s tx=4 then(s, !yes) else if yes=true∨300≤s.2.1.length+s.2.2.2.2.length then(s,false) else(written s (3,tx,[]),true)):=by
    show _=_;unfold df;rw[gt,if_neg (by simp),←NN]
   have Hy:eP s tx=1∨eP s tx=2∨eP s tx=3∨eP s tx=4:=by rw[kz hR]; exact zn
   have EY:Hid (eP s tx=1→Fits s.2.2.2.1 s.2.2.2.2 (kd,tx,[])):=fun e=>by
    obtain⟨k,hk⟩:=xQ hR e;exact hR.JH (xX gt kd Pm) (by omega) hk
   have ZQ:Hid (eP s tx=2→yes=false→Fits s.2.2.2.1 s.2.2.2.2 (kd,tx,[])):=fun e e2=>by
    have:kd=3:=by rw[NN,e2]; rfl
    subst this;exact hR.Gr (xX gt 3 (.inr rfl)) (Jl (by omega))
   have ZR:Hid (yes=false→kd=3):=fun e2=>by rw[NN,e2]; rfl
   have HW:=Hid.mk' hW;generalize zo:eP s tx=oo at *;clear zo g1 gt l1 l2 l3 oq Pm SF;have HKD:=Hid.mk' NN;have WX:Hid (yes=true→w.alloc (.cells #[.int .i64 2,.int .i64 tx,.slice none 0 0] 98)=W):=fun e=>by rw[←hW,NN,e]; rfl
   have WY:Hid (yes=false→w.alloc (.cells #[.int .i64 3,.int .i64 tx,.slice none 0 0] 98)=W):=fun e=>by rw[←hW,NN,e]; rfl
   clear hW NN;aj Tryz.func124,Tryz.ntmps124;ab fail;refine(HI.out _).mono ?_;rintro e w1 ⟨rfl,rfl⟩;clear HI;cases yes with
   | true=>
    have Pn:=Hid.mk' (WX.out rfl);clear WX WY ZQ ZR;rw[←Pn.out] at k0 k1 k2 k3 k4;ab fail;rw[Pn.out];refine y8.out.mono ?_;rintro e w3 ⟨rfl,sz⟩;have dI:=hB.trans (sz.mono hB.size);have Gu:=mU.below sz;obtain⟨e0,e1,e2⟩:=Gu.cells;have b3:=h.box.below dI;have nN:=b3.lt;clear y8 k0 k1 k2 k3 k4 Pn HW;rcases Hy with rfl | rfl | rfl | rfl
    · have HV:Hid (df s tx true=(written s (kd,tx,[]),true)):=by show _=_; rw[HD.out,if_pos rfl]
      have vt:=Hid.mk' (zm.out _ dI (EY.out rfl));clear HD EY zm;ab fail;refine vt.out.mono ?_;rintro e w7 ⟨rfl,tj⟩;clear vt e0 e1 e2;ab fail;an;rw[HV.out];exact⟨rfl,tj⟩
    · have HV:Hid (df s tx true=(s,false)):=by show _=_; rw[HD.out,if_neg (by decide),if_neg (by decide),if_neg (by decide),if_pos (.inl (by trivial))]
      clear HD EY zm;have o1:=last.On.cell (B:=w3.heap.size) (b3.cell 1 _ rfl) nN;have o4:=last.On.cell (B:=w3.heap.size) (b3.cell 4 _ rfl) nN;have br:=last.On.iq w3.heap.size w3;ab fail;refine last.ar w3.heap.size (by aa) (by aa) ?_
      repeat(ai (fail))
      refine wpQuiet_nil ?_;intro w5 cf;obtain⟨x5,cf⟩:=cf;have dx:Below w.heap.size w w5:=by rw[cf]; exact dI.trans (x5.2.mono dI.size)
      have Po:dt w.heap.size kd tx (.slice none 0 0) w5:=by rw[cf]; exact Gu.below x5.2
      clear cf x5 o1 o4 br e0 e1 e2;ab fail;an;rw[HV.out];exact⟨rfl,Gt.out _ dx⟩
    · have HV:Hid (df s tx true=(s,true)):=by show _=_; rw[HD.out,if_neg (by decide),if_pos rfl]
      clear HD EY zm;ab fail;an;rw[HV.out];exact⟨rfl,Gt.out _ dI⟩
    · have HV:Hid (df s tx true=(s, !true)):=by show _=_; rw[HD.out,if_neg (by decide),if_neg (by decide),if_pos rfl]
      clear HD EY zm;ab fail;an;rw[HV.out];exact⟨rfl,Gt.out _ dI⟩
   | false=>
    have Pn:=Hid.mk' (WY.out rfl);clear WX WY;rw[←Pn.out] at k0 k1 k2 k3 k4;ab fail;rw[Pn.out];refine y8.out.mono ?_;rintro e w3 ⟨rfl,sz⟩;have dI:=hB.trans (sz.mono hB.size);have Gu:=mU.below sz;obtain⟨e0,e1,e2⟩:=Gu.cells;have b3:=h.box.below dI;have nN:=b3.lt;clear y8 k0 k1 k2 k3 k4 Pn HW;rcases Hy with rfl | rfl | rfl | rfl
    · have HV:Hid (df s tx false=(written s (kd,tx,[]),true)):=by show _=_; rw[HD.out,if_pos rfl]
      have vt:=Hid.mk' (zm.out _ dI (EY.out rfl));clear HD EY zm;ab fail;refine vt.out.mono ?_;rintro e w7 ⟨rfl,tj⟩;clear vt e0 e1 e2;ab fail;an;rw[HV.out];exact⟨rfl,tj⟩
    · by_cases g7:300≤ln+hn
      · have HV:Hid (df s tx false=(s,false)):=by show _=_; rw[HD.out,if_neg (by decide),if_neg (by decide),if_neg (by decide),if_pos (.inr (by rw[pn.out]; exact g7))]
        have WT:decide ((300:Int)≤(ln:Int)+(hn:Int))=true:=decide_eq_true (by omega)
        clear HD EY zm;have o1:=last.On.cell (B:=w3.heap.size) (b3.cell 1 _ rfl) nN;have o4:=last.On.cell (B:=w3.heap.size) (b3.cell 4 _ rfl) nN;have br:=last.On.iq w3.heap.size w3;ab fail;refine last.ar w3.heap.size (by aa) (by aa) ?_
        repeat(ai (fail))
        refine wpQuiet_nil ?_;intro w5 cf;obtain⟨x5,cf⟩:=cf;have dx:Below w.heap.size w w5:=by rw[cf]; exact dI.trans (x5.2.mono dI.size)
        have Po:dt w.heap.size kd tx (.slice none 0 0) w5:=by rw[cf]; exact Gu.below x5.2
        clear cf x5 o1 o4 br e0 e1 e2;ab fail;an;rw[HV.out];exact⟨rfl,Gt.out _ dx⟩
      · have HV:Hid (df s tx false=(written s (3,tx,[]),true)):=by show _=_; rw[HD.out,if_neg (by decide),if_neg (by decide),if_neg (by decide),if_neg (by rw[pn.out]; simp; omega)]
        have WT:decide ((300:Int)≤(ln:Int)+(hn:Int))=false:=decide_eq_false (by omega)
        have WZ:=ZR.out (by trivial)
        subst WZ;have vt:=Hid.mk' (fun wx hx=>zm.out wx hx (ZQ.out rfl (by trivial)))
        clear HD EY zm;have o1:=last.On.cell (B:=w3.heap.size) (b3.cell 1 _ rfl) nN;have o4:=last.On.cell (B:=w3.heap.size) (b3.cell 4 _ rfl) nN;have br:=last.On.iq w3.heap.size w3;ab fail;refine last.ar w3.heap.size (by aa) (by aa) ?_
        repeat(ai (fail))
        refine wpQuiet_nil ?_;intro w5 cf;obtain⟨x5,cf⟩:=cf;have dx:Below w.heap.size w w5:=by rw[cf]; exact dI.trans (x5.2.mono dI.size)
        have Po:dt w.heap.size 3 tx (.slice none 0 0) w5:=by rw[cf]; exact Gu.below x5.2
        clear cf x5 o1 o4 br e0 e1 e2;obtain⟨e0,e1,e2⟩:=Po.cells;ab fail;refine(vt.out _ dx).mono ?_;rintro e w7 ⟨rfl,tj⟩;clear vt e0 e1 e2;ab fail;an;rw[HV.out];exact⟨rfl,tj⟩
    · have HV:Hid (df s tx false=(s,false)):=by show _=_; rw[HD.out,if_neg (by decide),if_pos rfl]
      clear HD EY zm;ab fail;an;rw[HV.out];exact⟨rfl,Gt.out _ dI⟩
    · have HV:Hid (df s tx false=(s, !false)):=by show _=_; rw[HD.out,if_neg (by decide),if_neg (by decide),if_pos rfl]
      clear HD EY zm;ab fail;an;rw[HV.out];exact⟨rfl,Gt.out _ dI⟩
 · rw[decide_eq_false g1] at HI;have gt:kR tx=false:=decide_eq_false g1;have HH:Hid (df s tx yes=(s,false)):=by show _=_; unfold df; rw[gt]; simp
   clear gt g1 l1 l2 l3 oq;aj Tryz.func124,Tryz.ntmps124;ab fail;refine(HI.out _).mono ?_;rintro e w1 ⟨rfl,rfl⟩;clear HI;ab fail;an;rw[HH.out];exact⟨rfl,h.same (Below.refl _ _)⟩
end bm
end Go.Proofs.YtmibabclefgljaaGreat
