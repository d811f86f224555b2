/- CoT -/
import Derived.Test.YtmibabclefgljaaGreatShav
import Derived.Test.YtmibabclefgljaaGreatShac
import Derived.BigQuiet
set_option linter.unusedVariables false
set_option linter.unusedSimpArgs false
set_option maxRecDepth 100000
set_option maxHeartbeats 4000000
namespace Go.Proofs.YtmibabclefgljaaGreat
namespace cos
open Go Go.RowKit base aE aX lay lh
theorem jD(a:Option Addr)(cap:Nat)(w:World):
 Calls Tryz.prog 100 #[.slice a 0 cap] w fun e w'=>e=.returned (.bool false)∧w'=w:=by
 aj Tryz.func100,Tryz.ntmps100;ab fail;refine wp_loop_rounds 1 ?_;rw[rounds_succ];ab fail;refine(jV 0 1 8 _).mono ?_;rintro e w9 ⟨rfl,rfl⟩;ab fail;an;exact⟨au (by decide),rfl⟩
theorem ga(a:Option Addr)(len cap:Nat)(l:List Od)(w:World)(h:dS w a len l)(dV:∀p∈l,p.2.1.size≤1099511627776):
 Calls Tryz.prog 100 #[.slice a len cap] w fun e w'=>e=.returned (.bool (b_ l))∧Below w.heap.size w w':=by
 by_cases h0:len=0
 · subst h0;obtain rfl:l=[]:=List.eq_nil_of_length_eq_zero h.1;refine(jD a cap w).mono ?_;rintro e w' ⟨rfl,rfl⟩;exact⟨rfl,Below.refl _ _⟩
 · obtain⟨b,off,ha,_⟩:=h.2.2.2 (by omega)
   subst ha;exact qk b off len cap l w h dV
def i_(X:Nat)(tx st:Int)(v y:Value)(w:World):Prop:=w.heap[X]? =some (.cells #[.int .i64 tx,v,.int .i64 st,y] 75 (0,0))
section
variable{X:Nat}{tx st:Int}{v y:Value}{w w':World}
theorem i_.cells(h:i_ X tx st v y w):w.cell? ⟨X,0,none⟩=some (.int .i64 tx)∧w.cell? ⟨X,1,none⟩=some v∧w.cell? ⟨X,2,none⟩=some (.int .i64 st)∧w.cell? ⟨X,3,none⟩=some y:=by
 unfold i_ at h;simp[World.cell?,h]
theorem i_.lt(h:i_ X tx st v y w):X<w.heap.size:=(Array.getElem?_eq_some_iff.1 h).1
theorem i_.below(h:i_ X tx st v y w)(hb:Below w.heap.size w w'):i_ X tx st v y w':=(hb.block X h.lt).trans h
end
def iM(jobs:List Jb)(i:Nat):Option Int:=match i with | 0=>none | i+1=>(jobs[i]?).map fun j=>j.1
def PW(av next:Int)(p:Option Int)(j:Jb):Bool:=decide (av * 1000≤j.1∧j.1≤av * 1000+next - 1) && (match p with | none=>true | some q=>decide (q<j.1)) && b_ j.2.1 && decide (1≤j.2.2.1∧j.2.2.1≤3)
theorem BJ(n av next:Int)(log:List Ch)(p:Option Int)(j:Jb):eT n av next log p j=(PW av next p j && dZ (aM n j.2.1) none j.2.2.2 && fN j.2.2.1 (choice log j.1)):=rfl
structure Tg (w0 w:World) (n av next sure:Int) (ja:Option Addr) (jn jc:Nat) (la:Option Addr) (ln lc:Nat) (tx st:Int) (oa:Option Addr) (ol oc:Nat) (ya:Option Addr) (yl yc:Nat) (ops:List Od) (yes:List Int) (log:List Ch):Prop where
 fp:Below w0.heap.size w0 w
 bc:fB w0.heap.size n av next sure ja jn jc la ln lc w
 bj:i_ (w0.heap.size+1) tx st (.slice oa ol oc) (.slice ya yl yc) w
 ops:dS w oa ol ops
 yes:tS w ya yl yes
 log:nE rG w la ln log
theorem Tg.below{w0 w w':World}{n av next sure:Int}{ja:Option Addr}{jn jc:Nat}{la:Option Addr}{ln lc:Nat}{tx st:Int}{oa:Option Addr}{ol oc:Nat}{ya:Option Addr}{yl yc:Nat}{ops:List Od}{yes:List Int}{log:List Ch}(h:Tg w0 w n av next sure ja jn jc la ln lc tx st oa ol oc ya yl yc ops yes log)(hb:Below w.heap.size w w'):Tg w0 w' n av next sure ja jn jc la ln lc tx st oa ol oc ya yl yc ops yes log:=
 ⟨h.fp.trans (hb.mono h.fp.size),h.bc.below hb,h.bj.below hb,h.ops.below hb,h.yes.below hb,h.log.below hb⟩
theorem BK{list:List Int}{yes:List Int}{k:Nat}{p:Option Int}(hk:k<yes.length):dZ list p (yes.drop k)=((decide (yes[k]∈list) && match p with | none=>true | some q=>decide (q<yes[k])) && dZ list (some yes[k]) (yes.drop (k+1))):=by
 rw[List.drop_eq_getElem_cons hk]; rfl
def oK(l:List Int)(k:Nat):Option Int:=match k with | 0=>none | k+1=>l[k]?
theorem m7{l:List Int}{k:Nat}(hk:k<l.length):oK l (k+1)=some l[k]:=List.getElem?_eq_getElem hk
theorem Kf(n av next sure:Int)(jb eJ jn jc:Nat)(la:Option Addr)(ln lc:Nat)(tx st:Int)(oa:Option Addr)(ol oc:Nat)(ya:Option Addr)(yl yc:Nat)(ops:List Od)(yes:List Int)(log:List Ch)(w:World)(hn:1≤n∧n≤8)(zR:1≤av∧av≤900)(rU:0≤next∧next≤999)(hi:0<jn)(DZ:jn≤1099511627776)(pf:ol≤1099511627776)(dV:∀p∈ops,p.2.1.size≤1099511627776)
 (c0:w.cell? ⟨jb,eJ,none⟩=some (.int .i64 tx)) (c1:w.cell? ⟨jb,eJ+1,none⟩=some (.slice oa ol oc)) (c2:w.cell? ⟨jb,eJ+2,none⟩=some (.int .i64 st)) (c3:w.cell? ⟨jb,eJ+3,none⟩=some (.slice ya yl yc)) (hO:dS w oa ol ops) (hY:tS w ya yl yes) (hG:nE rG w la ln log):
 Calls Tryz.prog 67 #[GI n av next sure (some ⟨jb,eJ,none⟩) jn jc la ln lc,.int .i64 0] w fun e w'=>e=.returned (.bool (eT n av next log none (tx,ops,st,yes)))∧Below w.heap.size w w':=by
 have HR:=Hid.mk' (BJ n av next log none (tx,ops,st,yes));obtain⟨W1,s_⟩:∃W1,w.alloc (kM n av next sure (some ⟨jb,eJ,none⟩) jn jc la ln lc)=W1:=⟨_,rfl⟩;have a_:Below w.heap.size w W1:=by rw[←s_]; exact a8 _ _
 have ud:W1.heap.size=w.heap.size+1:=by rw[←s_]; simp
 have D5:fB w.heap.size n av next sure (some ⟨jb,eJ,none⟩) jn jc la ln lc W1:=by rw[←s_]; exact eI _ _ _ _ _ _ _ _ _ _ _
 obtain⟨W,hW⟩:∃W,W1.alloc (.cells #[.int .i64 tx,.slice oa ol oc,.int .i64 st,.slice ya yl yc] 75)=W:=⟨_,rfl⟩;have be:Below W1.heap.size W1 W:=by rw[←hW]; exact a8 _ _
 have Th:i_ (w.heap.size+1) tx st (.slice oa ol oc) (.slice ya yl yc) W:=by rw[←hW,←ud]; exact heap_alloc_new W1 _
 have hB:=a_.trans (be.mono a_.size);have hA:Tg w W n av next sure (some ⟨jb,eJ,none⟩) jn jc la ln lc tx st oa ol oc ya yl yc ops yes log:=⟨hB,D5.below be,Th,hO.below hB,hY.below hB,hG.below hB⟩;have d0:=(a_.cell (World.block_lt_of_cell? w _ c0)).trans c0;have d1:=(a_.cell (World.block_lt_of_cell? w _ c1)).trans c1;have d2:=(a_.cell (World.block_lt_of_cell? w _ c2)).trans c2;have d3:=(a_.cell (World.block_lt_of_cell? w _ c3)).trans c3;obtain⟨b0,b1,b2,b3,b4,b5⟩:=D5.cells;rw[←s_] at d0 d1 d2 d3 b0 b1 b2 b3 b4 b5;have hii:0<(jn:Int):=by omega
 have HW:Hid ((w.alloc (kM n av next sure (some ⟨jb,eJ,none⟩) jn jc la ln lc)).alloc (.cells #[.int .i64 tx,.slice oa ol oc,.int .i64 st,.slice ya yl yc] 75)=W):=by show _=_; rw[s_,hW]
 have w1:IntKind.i64.wrap (av * 1000)=av * 1000:=by rw[IntKind.wrap_i64]; omega
 have w2:IntKind.i64.wrap (av * 1000+next)=av * 1000+next:=by rw[IntKind.wrap_i64]; omega
 have w3:IntKind.i64.wrap (av * 1000+next - 1)=av * 1000+next - 1:=by rw[IntKind.wrap_i64]; omega
 obtain⟨x0,x1,x2,x3,x4,x5⟩:=hA.bc.cells;obtain⟨y0,y1,y2,y3⟩:=hA.bj.cells;have o0:=last.On.cell (B:=W.heap.size) x0 (World.block_lt_of_cell? _ _ x0);have o1:=last.On.cell (B:=W.heap.size) x1 (World.block_lt_of_cell? _ _ x1);have o2:=last.On.cell (B:=W.heap.size) x2 (World.block_lt_of_cell? _ _ x2);have o3:=last.On.cell (B:=W.heap.size) x3 (World.block_lt_of_cell? _ _ x3);have p0:=last.On.cell (B:=W.heap.size) y0 (World.block_lt_of_cell? _ _ y0);have p1:=last.On.cell (B:=W.heap.size) y1 (World.block_lt_of_cell? _ _ y1);have p2:=last.On.cell (B:=W.heap.size) y2 (World.block_lt_of_cell? _ _ y2);have br:=last.On.iq W.heap.size W;have kG:∀x:last.On W.heap.size W,Calls Tryz.prog 32 #[.int .i64 tx,.int .i64 (av * 1000),.int .i64 (av * 1000+next - 1)] x.w fun e w'=>e=.returned (.bool (decide (av * 1000≤tx∧tx≤av * 1000+next - 1)))∧∃y:last.On W.heap.size W,w'=y.w:=fun x=>last.Calls.on x (Nat.le_refl _) ((jV tx (av * 1000) (av * 1000+next - 1) x.w).mono fun e w' ⟨he,hw⟩=>⟨he,by rw[hw]; exact Below.refl _ _⟩)
 have kH:∀x:last.On W.heap.size W,Calls Tryz.prog 32 #[.int .i64 st,.int .i64 1,.int .i64 3] x.w fun e w'=>e=.returned (.bool (decide (1≤st∧st≤3)))∧∃y:last.On W.heap.size W,w'=y.w:=fun x=>last.Calls.on x (Nat.le_refl _) ((jV st 1 3 x.w).mono fun e w' ⟨he,hw⟩=>⟨he,by rw[hw]; exact Below.refl _ _⟩)
 have cT:∀x:last.On W.heap.size W,Calls Tryz.prog 100 #[.slice oa ol oc] x.w fun e w'=>e=.returned (.bool (b_ ops))∧∃y:last.On W.heap.size W,w'=y.w:=fun x=>last.Calls.on x (Nat.le_refl _) (ga oa ol oc ops x.w (hA.ops.below x.2) dV)
 have mI:Hid (PW av next none (tx,ops,st,yes)=(decide (av * 1000≤tx∧tx≤av * 1000+next - 1) && true && b_ ops && decide (1≤st∧st≤3))):=rfl;clear hW s_ a_ be D5 Th c0 c1 c2 c3 hO hY hG dV;have HA:=Hid.mk' hA;clear hA x0 x1 x2 x3 x4 x5 y0 y1 y2 y3;cases pL:decide (av * 1000≤tx∧tx≤av * 1000+next - 1)
 · rw[pL] at kG mI;clear pL;have HF:Hid (eT n av next log none (tx,ops,st,yes)=false):=by show _=_; rw[HR.out,mI.out]; simp
   aj Tryz.func67,Tryz.ntmps67;ab fail;rw[HW.out];refine last.ar W.heap.size (by aa) (by aa) ?_
   repeat(ai ((first | (ao 100; ag exact cT _) | (ao 32; ag exact kG _) | (ao 32; ag exact kH _))))
   refine wpQuiet_nil ?_;intro wq bq;obtain⟨xq,bq⟩:=bq;subst bq;have dj:Below W.heap.size W xq.w:=xq.2;generalize xq.w=w4 at *;clear o0 o1 o2 o3 p0 p1 p2 kG kH cT br;ab fail;an;exact⟨au HF.out.symm,hB.trans (dj.mono hB.size)⟩
 · rw[pL] at kG mI;clear pL;cases zD:b_ ops
   · rw[zD] at cT mI;clear zD;have HF:Hid (eT n av next log none (tx,ops,st,yes)=false):=by show _=_; rw[HR.out,mI.out]; simp
     aj Tryz.func67,Tryz.ntmps67;ab fail;rw[HW.out];refine last.ar W.heap.size (by aa) (by aa) ?_
     repeat(ai ((first | (ao 100; ag exact cT _) | (ao 32; ag exact kG _) | (ao 32; ag exact kH _))))
     refine wpQuiet_nil ?_;intro wq bq;obtain⟨xq,bq⟩:=bq;subst bq;have dj:Below W.heap.size W xq.w:=xq.2;generalize xq.w=w4 at *;clear o0 o1 o2 o3 p0 p1 p2 kG kH cT br;ab fail;an;exact⟨au HF.out.symm,hB.trans (dj.mono hB.size)⟩
   · have Cp:=zD;rw[zD] at cT mI;clear zD;cases fT:decide (1≤st∧st≤3)
     · rw[fT] at kH mI;clear fT;have HF:Hid (eT n av next log none (tx,ops,st,yes)=false):=by show _=_; rw[HR.out,mI.out]; simp
       aj Tryz.func67,Tryz.ntmps67;ab fail;rw[HW.out];refine last.ar W.heap.size (by aa) (by aa) ?_
       repeat(ai ((first | (ao 100; ag exact cT _) | (ao 32; ag exact kG _) | (ao 32; ag exact kH _))))
       refine wpQuiet_nil ?_;intro wq bq;obtain⟨xq,bq⟩:=bq;subst bq;have dj:Below W.heap.size W xq.w:=xq.2;generalize xq.w=w4 at *;clear o0 o1 o2 o3 p0 p1 p2 kG kH cT br;ab fail;an;exact⟨au HF.out.symm,hB.trans (dj.mono hB.size)⟩
     · have cF:=of_decide_eq_true fT;rw[fT] at kH mI;clear fT;have mj:Hid (eT n av next log none (tx,ops,st,yes)=(dZ (aM n ops) none yes && fN st (choice log tx))):=by show _=_; rw[HR.out,mI.out]; simp
       clear HR mI;aj Tryz.func67,Tryz.ntmps67;ab fail;rw[HW.out];refine last.ar W.heap.size (by aa) (by aa) ?_
       repeat(ai ((first | (ao 100; ag exact cT _) | (ao 32; ag exact kG _) | (ao 32; ag exact kH _))))
       refine wpQuiet_nil ?_;intro wq bq;obtain⟨xq,bq⟩:=bq;subst bq;have dj:Below W.heap.size W xq.w:=xq.2;generalize xq.w=w4 at *;clear o0 o1 o2 o3 p0 p1 p2 kG kH cT br;have fT:=HA.out.below dj;have HZ:=Hid.mk' (eN oa ol oc ops n w4 fT.ops pf (WalkArith.wf_i64 (by omega)))
       obtain⟨x0,x1,x2,x3,x4,x5⟩:=fT.bc.cells;obtain⟨y0,y1,y2,y3⟩:=fT.bj.cells;clear HA dj;ab fail;refine HZ.out.mono ?_;rintro e w5 ⟨gz,nz,cz,rfl,Kg,dx⟩;have gN:=fT.below dx;have Ti:=Kg.sl;generalize aM n ops=list at *;clear HZ fT x0 x1 x2 x3 x4 x5 y0 y1 y2 y3 dx Kg Cp;have Xw:=Hid.mk' Ti;have Xx:=Hid.mk' gN;have Kh:=gN.yes.1;have PX:=gN.yes.2.1;unfold maxLen at PX;obtain⟨x0,x1,x2,x3,x4,x5⟩:=gN.bc.cells;obtain⟨y0,y1,y2,y3⟩:=gN.bj.cells;clear gN Ti;ab fail;aN [7] (fun i wr=>∃k:Nat,k≤yl∧i=.int .i64 (k:Int)∧Below w5.heap.size w5 wr∧dZ list none yes=dZ list (oK yes k) (yes.drop k)) (fun i _=>yl - (intOf i).toNat)
       case atStart=>exact⟨0,Nat.zero_le _,rfl,Below.refl _ _,rfl⟩
       case round=>
        clear x0 x1 x2 x3 x4 x5 y0 y1 y2 y3;obtain⟨k,hk,rfl,mU,BL⟩:=hrel;have GJ:=Xx.out.below mU;have Xy:=Xw.out.below mU;obtain⟨x0,x1,x2,x3,x4,x5⟩:=GJ.bc.cells;obtain⟨y0,y1,y2,y3⟩:=GJ.bj.cells;have uq:=GJ.fp;by_cases bn:k<yl
        · have cJ:k<yes.length:=by omega
          obtain⟨yb,yo,e,zE⟩:=GJ.yes.2.2 (by omega)
          subst e;have fZ:(k:Int)<(yl:Int):=by omega
          have IL:=zE k cJ;rw[BK cJ] at BL;have nD:=Hid.mk' BL;have nK:Hid (∀x:last.On wr.heap.size wr,Calls Tryz.prog 102 #[.slice (some ⟨gz,0,none⟩) nz cz,.int .i64 yes[k]] x.w fun e w'=>e=.returned (.bool (decide (yes[k]∈list)))∧∃y:last.On wr.heap.size wr,w'=y.w):=fun x=>last.Calls.on x (Nat.le_refl _) ((cX (some ⟨gz,0,none⟩) nz cz list yes[k] x.w (Xy.below x.2)).mono fun e w' ⟨he,hw⟩=>⟨he,by rw[hw]; exact Below.refl _ _⟩)
          have MO:Hid (dZ list (some yes[k]) (yes.drop (k+1))=dZ list (oK yes (k+1)) (yes.drop (k+1))):=by show _=_; rw[m7 cJ]
          have r3:=last.On.cell (B:=wr.heap.size) y3 (World.block_lt_of_cell? _ _ y3);have rk:=last.On.cell (B:=wr.heap.size) IL (World.block_lt_of_cell? _ _ IL);have qC:=last.On.iq wr.heap.size wr;clear BL;cases k with
          | zero=>
           simp only[oK] at nD;simp only[Nat.add_zero] at rk IL;have dC:=nK.out;clear nK;generalize yes[0]=z at *;cases hh:decide (z∈list)
           · rw[hh] at dC nD;clear hh;have HF:Hid (eT n av next log none (tx,ops,st,yes)=false):=by show _=_; rw[mj.out,nD.out]; simp
             ab fail;refine last.ar wr.heap.size (by aa) (by aa) ?_
             repeat(ai ((ao 102; ag exact dC _)))
             refine wpQuiet_nil ?_;intro wq bq;obtain⟨xq,bq⟩:=bq;subst bq;have dj:Below wr.heap.size wr xq.w:=xq.2;generalize xq.w=w7 at *;clear r3 rk qC dC;ab fail;an;exact⟨au HF.out.symm,uq.trans (dj.mono uq.size)⟩
           · rw[hh] at dC nD;clear hh;ab fail;refine last.ar wr.heap.size (by aa) (by aa) ?_
             repeat(ai ((ao 102; ag exact dC _)))
             refine wpQuiet_nil ?_;intro wq bq;obtain⟨xq,bq⟩:=bq;subst bq;have dj:Below wr.heap.size wr xq.w:=xq.2;generalize xq.w=w7 at *;clear r3 rk qC dC;have pZ:=mU.trans (dj.mono mU.size);ab fail;aA
             case rel=>exact⟨0+1,by omega,by aF,pZ,by rw[nD.out,←MO.out]; simp⟩
             case measure=>simp[intOf]; omega
          | succ k'=>
           have Ho:=zE k' (by omega)
           have rp:=last.On.cell (B:=wr.heap.size) Ho (World.block_lt_of_cell? _ _ Ho);have Tj:oK yes (k'+1)=some (yes[k']'(by omega)):=m7 (by omega)
           rw[Tj] at nD;have dC:=nK.out;have wk:IntKind.i64.wrap ((k':Int)+1 - 1)=(k':Int):=by rw[IntKind.wrap_i64]; omega
           clear nK Tj;generalize yes[k']'(by omega)=z0 at *
           generalize yes[k'+1]=z at *;cases hh:decide (z∈list)
           · rw[hh] at dC nD;clear hh;have HF:Hid (eT n av next log none (tx,ops,st,yes)=false):=by show _=_; rw[mj.out,nD.out]; simp
             ab fail;refine last.ar wr.heap.size (by aa) (by aa) ?_
             repeat(ai ((ao 102; ag exact dC _)))
             refine wpQuiet_nil ?_;intro wq bq;obtain⟨xq,bq⟩:=bq;subst bq;have dj:Below wr.heap.size wr xq.w:=xq.2;generalize xq.w=w7 at *;clear r3 rk qC dC rp;ab fail;an;exact⟨au HF.out.symm,uq.trans (dj.mono uq.size)⟩
           · rw[hh] at dC nD;clear hh;by_cases hz:z0<z
             · have Ki:decide (z0<z)=true:=decide_eq_true hz;have CX:¬z≤z0:=by omega
               simp only[Ki] at nD;clear Ki;ab fail;refine last.ar wr.heap.size (by aa) (by aa) ?_
               repeat(ai ((ao 102; ag exact dC _)))
               refine wpQuiet_nil ?_;intro wq bq;obtain⟨xq,bq⟩:=bq;subst bq;have dj:Below wr.heap.size wr xq.w:=xq.2;generalize xq.w=w7 at *;clear r3 rk qC dC rp;have pZ:=mU.trans (dj.mono mU.size);ab fail;aA
               case rel=>exact⟨k'+1+1,by omega,by aF,pZ,by rw[nD.out,←MO.out]; simp⟩
               case measure=>simp[intOf]; omega
             · have Ki:decide (z0<z)=false:=decide_eq_false hz;have CX:z≤z0:=by omega
               simp only[Ki] at nD;clear Ki;have HF:Hid (eT n av next log none (tx,ops,st,yes)=false):=by show _=_; rw[mj.out,nD.out]; simp
               ab fail;refine last.ar wr.heap.size (by aa) (by aa) ?_
               repeat(ai ((ao 102; ag exact dC _)))
               refine wpQuiet_nil ?_;intro wq bq;obtain⟨xq,bq⟩:=bq;subst bq;have dj:Below wr.heap.size wr xq.w:=xq.2;generalize xq.w=w7 at *;clear r3 rk qC dC rp;ab fail;an;exact⟨au HF.out.symm,uq.trans (dj.mono uq.size)⟩
        · have CU:¬(k:Int)<(yl:Int):=by omega
          have PY:Hid (dZ list none yes=true):=by show _=_; rw[BL,List.drop_of_length_le (by omega)]; cases oK yes k <;> rfl
          clear BL;have vn:=Hid.mk' (oJ n av next sure (some ⟨jb,eJ,none⟩) jn jc la ln lc log tx wr GJ.log);have pZ:=a8 wr (kM n av next sure (some ⟨jb,eJ,none⟩) jn jc la ln lc);have Kj:=GJ.below pZ;have ny:=Kj.log;obtain⟨z0,z1,z2,z3,z4,z5⟩:=Kj.bc.cells;obtain⟨v0,v1,v2,v3⟩:=Kj.bj.cells;have jP:=Kj.fp;obtain⟨Wz,Nz⟩:∃Wz,wr.alloc (kM n av next sure (some ⟨jb,eJ,none⟩) jn jc la ln lc)=Wz:=⟨_,rfl⟩;rw[Nz] at vn ny z0 z1 z2 z3 z4 z5 v0 v1 v2 v3 jP;clear Nz Kj pZ;have Kk:st=1∨st=2∨st=3:=by omega
          have HQ:Hid (eT n av next log none (tx,ops,st,yes)=fN st (choice log tx)):=by show _=_; rw[mj.out,PY.out]; rfl
          rcases vH:fx log tx with _ | k2
          · rw[vH,rI] at vn;rw[tr vH] at HQ;clear vH mj PY;rcases Kk with rfl | rfl | rfl
            bo
             ab fail;refine vn.out.mono ?_;rintro e w6 ⟨rfl,xj⟩;replace xj:=xj.symm;subst xj;ab fail;an;exact⟨au (by rw[HQ.out]; rfl),jP⟩
          · obtain⟨iu,wg⟩:=oH vH;rw[vH,rH] at vn;rw[wg] at HQ;have mb:=ny.1;obtain⟨lb,lo,e⟩:=gq ny (by omega)
            subst e;have hcy:=(vG ny k2 iu).2;have Xz:(k2:Int)<(ln:Int):=by omega
            have XA:¬(k2:Int)<0:=by omega
            generalize log[k2].2=yy at *;clear vH wg mj PY;rcases Kk with rfl | rfl | rfl <;> cases yy
            bo
             ab fail;refine vn.out.mono ?_;rintro e w6 ⟨rfl,xj⟩;replace xj:=xj.symm;subst xj;ab fail;an;exact⟨au (by rw[HQ.out]; rfl),jP⟩
theorem Kl(n av next sure:Int)(jb eJ jn jc:Nat)(la:Option Addr)(ln lc:Nat)(tx st:Int)(oa:Option Addr)(ol oc:Nat)(ya:Option Addr)(yl yc:Nat)(ops:List Od)(yes:List Int)(log:List Ch)(i:Nat)(q:Int)(w:World)(hn:1≤n∧n≤8)(zR:1≤av∧av≤900)(rU:0≤next∧next≤999)(hi:i+1<jn)(DZ:jn≤1099511627776)(pf:ol≤1099511627776)(dV:∀p∈ops,p.2.1.size≤1099511627776)
 (c0:w.cell? ⟨jb,eJ+(i+1) * 4,none⟩=some (.int .i64 tx)) (c1:w.cell? ⟨jb,eJ+(i+1) * 4+1,none⟩=some (.slice oa ol oc)) (c2:w.cell? ⟨jb,eJ+(i+1) * 4+2,none⟩=some (.int .i64 st)) (c3:w.cell? ⟨jb,eJ+(i+1) * 4+3,none⟩=some (.slice ya yl yc)) (cp:w.cell? ⟨jb,eJ+i * 4,none⟩=some (.int .i64 q)) (hO:dS w oa ol ops) (hY:tS w ya yl yes) (hG:nE rG w la ln log):
 Calls Tryz.prog 67 #[GI n av next sure (some ⟨jb,eJ,none⟩) jn jc la ln lc,.int .i64 ((i:Int)+1)] w fun e w'=>e=.returned (.bool (eT n av next log (some q) (tx,ops,st,yes)))∧Below w.heap.size w w':=by
 have HR:=Hid.mk' (BJ n av next log (some q) (tx,ops,st,yes));obtain⟨W1,s_⟩:∃W1,w.alloc (kM n av next sure (some ⟨jb,eJ,none⟩) jn jc la ln lc)=W1:=⟨_,rfl⟩;have a_:Below w.heap.size w W1:=by rw[←s_]; exact a8 _ _
 have ud:W1.heap.size=w.heap.size+1:=by rw[←s_]; simp
 have D5:fB w.heap.size n av next sure (some ⟨jb,eJ,none⟩) jn jc la ln lc W1:=by rw[←s_]; exact eI _ _ _ _ _ _ _ _ _ _ _
 obtain⟨W,hW⟩:∃W,W1.alloc (.cells #[.int .i64 tx,.slice oa ol oc,.int .i64 st,.slice ya yl yc] 75)=W:=⟨_,rfl⟩;have be:Below W1.heap.size W1 W:=by rw[←hW]; exact a8 _ _
 have Th:i_ (w.heap.size+1) tx st (.slice oa ol oc) (.slice ya yl yc) W:=by rw[←hW,←ud]; exact heap_alloc_new W1 _
 have hB:=a_.trans (be.mono a_.size);have hA:Tg w W n av next sure (some ⟨jb,eJ,none⟩) jn jc la ln lc tx st oa ol oc ya yl yc ops yes log:=⟨hB,D5.below be,Th,hO.below hB,hY.below hB,hG.below hB⟩;have d0:=(a_.cell (World.block_lt_of_cell? w _ c0)).trans c0;have d1:=(a_.cell (World.block_lt_of_cell? w _ c1)).trans c1;have d2:=(a_.cell (World.block_lt_of_cell? w _ c2)).trans c2;have d3:=(a_.cell (World.block_lt_of_cell? w _ c3)).trans c3;obtain⟨b0,b1,b2,b3,b4,b5⟩:=D5.cells;rw[←s_] at d0 d1 d2 d3 b0 b1 b2 b3 b4 b5;have hii:((i:Int)+1)<(jn:Int):=by omega
 have HW:Hid ((w.alloc (kM n av next sure (some ⟨jb,eJ,none⟩) jn jc la ln lc)).alloc (.cells #[.int .i64 tx,.slice oa ol oc,.int .i64 st,.slice ya yl yc] 75)=W):=by show _=_; rw[s_,hW]
 have w1:IntKind.i64.wrap (av * 1000)=av * 1000:=by rw[IntKind.wrap_i64]; omega
 have w2:IntKind.i64.wrap (av * 1000+next)=av * 1000+next:=by rw[IntKind.wrap_i64]; omega
 have w3:IntKind.i64.wrap (av * 1000+next - 1)=av * 1000+next - 1:=by rw[IntKind.wrap_i64]; omega
 obtain⟨x0,x1,x2,x3,x4,x5⟩:=hA.bc.cells;obtain⟨y0,y1,y2,y3⟩:=hA.bj.cells;have o0:=last.On.cell (B:=W.heap.size) x0 (World.block_lt_of_cell? _ _ x0);have o1:=last.On.cell (B:=W.heap.size) x1 (World.block_lt_of_cell? _ _ x1);have o2:=last.On.cell (B:=W.heap.size) x2 (World.block_lt_of_cell? _ _ x2);have o3:=last.On.cell (B:=W.heap.size) x3 (World.block_lt_of_cell? _ _ x3);have p0:=last.On.cell (B:=W.heap.size) y0 (World.block_lt_of_cell? _ _ y0);have p1:=last.On.cell (B:=W.heap.size) y1 (World.block_lt_of_cell? _ _ y1);have p2:=last.On.cell (B:=W.heap.size) y2 (World.block_lt_of_cell? _ _ y2);have ce:=(hB.cell (World.block_lt_of_cell? w _ cp)).trans cp;have pe:=last.On.cell (B:=W.heap.size) ce (World.block_lt_of_cell? _ _ ce);have wi:IntKind.i64.wrap ((i:Int)+1 - 1)=(i:Int):=by rw[IntKind.wrap_i64]; omega
 have br:=last.On.iq W.heap.size W;have kG:∀x:last.On W.heap.size W,Calls Tryz.prog 32 #[.int .i64 tx,.int .i64 (av * 1000),.int .i64 (av * 1000+next - 1)] x.w fun e w'=>e=.returned (.bool (decide (av * 1000≤tx∧tx≤av * 1000+next - 1)))∧∃y:last.On W.heap.size W,w'=y.w:=fun x=>last.Calls.on x (Nat.le_refl _) ((jV tx (av * 1000) (av * 1000+next - 1) x.w).mono fun e w' ⟨he,hw⟩=>⟨he,by rw[hw]; exact Below.refl _ _⟩)
 have kH:∀x:last.On W.heap.size W,Calls Tryz.prog 32 #[.int .i64 st,.int .i64 1,.int .i64 3] x.w fun e w'=>e=.returned (.bool (decide (1≤st∧st≤3)))∧∃y:last.On W.heap.size W,w'=y.w:=fun x=>last.Calls.on x (Nat.le_refl _) ((jV st 1 3 x.w).mono fun e w' ⟨he,hw⟩=>⟨he,by rw[hw]; exact Below.refl _ _⟩)
 have cT:∀x:last.On W.heap.size W,Calls Tryz.prog 100 #[.slice oa ol oc] x.w fun e w'=>e=.returned (.bool (b_ ops))∧∃y:last.On W.heap.size W,w'=y.w:=fun x=>last.Calls.on x (Nat.le_refl _) (ga oa ol oc ops x.w (hA.ops.below x.2) dV)
 have mI:Hid (PW av next (some q) (tx,ops,st,yes)=(decide (av * 1000≤tx∧tx≤av * 1000+next - 1) && decide (q<tx) && b_ ops && decide (1≤st∧st≤3))):=rfl;clear hW s_ a_ be D5 Th c0 c1 c2 c3 hO hY hG dV cp ce;have HA:=Hid.mk' hA;clear hA x0 x1 x2 x3 x4 x5 y0 y1 y2 y3;cases pL:decide (av * 1000≤tx∧tx≤av * 1000+next - 1)
 · rw[pL] at kG mI;clear pL;have HF:Hid (eT n av next log (some q) (tx,ops,st,yes)=false):=by show _=_; rw[HR.out,mI.out]; simp
   aj Tryz.func67,Tryz.ntmps67;ab fail;rw[HW.out];refine last.ar W.heap.size (by aa) (by aa) ?_
   repeat(ai ((first | (ao 100; ag exact cT _) | (ao 32; ag exact kG _) | (ao 32; ag exact kH _))))
   refine wpQuiet_nil ?_;intro wq bq;obtain⟨xq,bq⟩:=bq;subst bq;have dj:Below W.heap.size W xq.w:=xq.2;generalize xq.w=w4 at *;clear o0 o1 o2 o3 p0 p1 p2 kG kH cT br pe;ab fail;an;exact⟨au HF.out.symm,hB.trans (dj.mono hB.size)⟩
 · rw[pL] at kG mI;clear pL;by_cases hq:q<tx
   · have pt:decide (q<tx)=true:=decide_eq_true hq;have C2:decide (tx≤q)=false:=decide_eq_false (by omega)
     rw[pt] at mI;clear pt;cases zD:b_ ops
     · rw[zD] at cT mI;clear zD;have HF:Hid (eT n av next log (some q) (tx,ops,st,yes)=false):=by show _=_; rw[HR.out,mI.out]; simp
       aj Tryz.func67,Tryz.ntmps67;ab fail;rw[HW.out];refine last.ar W.heap.size (by aa) (by aa) ?_
       repeat(ai ((first | (ao 100; ag exact cT _) | (ao 32; ag exact kG _) | (ao 32; ag exact kH _))))
       refine wpQuiet_nil ?_;intro wq bq;obtain⟨xq,bq⟩:=bq;subst bq;have dj:Below W.heap.size W xq.w:=xq.2;generalize xq.w=w4 at *;clear o0 o1 o2 o3 p0 p1 p2 kG kH cT br pe;ab fail;an;exact⟨au HF.out.symm,hB.trans (dj.mono hB.size)⟩
     · have Cp:=zD;rw[zD] at cT mI;clear zD;cases fT:decide (1≤st∧st≤3)
       · rw[fT] at kH mI;clear fT;have HF:Hid (eT n av next log (some q) (tx,ops,st,yes)=false):=by show _=_; rw[HR.out,mI.out]; simp
         aj Tryz.func67,Tryz.ntmps67;ab fail;rw[HW.out];refine last.ar W.heap.size (by aa) (by aa) ?_
         repeat(ai ((first | (ao 100; ag exact cT _) | (ao 32; ag exact kG _) | (ao 32; ag exact kH _))))
         refine wpQuiet_nil ?_;intro wq bq;obtain⟨xq,bq⟩:=bq;subst bq;have dj:Below W.heap.size W xq.w:=xq.2;generalize xq.w=w4 at *;clear o0 o1 o2 o3 p0 p1 p2 kG kH cT br pe;ab fail;an;exact⟨au HF.out.symm,hB.trans (dj.mono hB.size)⟩
       · have cF:=of_decide_eq_true fT;rw[fT] at kH mI;clear fT;have mj:Hid (eT n av next log (some q) (tx,ops,st,yes)=(dZ (aM n ops) none yes && fN st (choice log tx))):=by show _=_; rw[HR.out,mI.out]; simp
         clear HR mI;aj Tryz.func67,Tryz.ntmps67;ab fail;rw[HW.out];refine last.ar W.heap.size (by aa) (by aa) ?_
         repeat(ai ((first | (ao 100; ag exact cT _) | (ao 32; ag exact kG _) | (ao 32; ag exact kH _))))
         refine wpQuiet_nil ?_;intro wq bq;obtain⟨xq,bq⟩:=bq;subst bq;have dj:Below W.heap.size W xq.w:=xq.2;generalize xq.w=w4 at *;clear o0 o1 o2 o3 p0 p1 p2 kG kH cT br pe;have fT:=HA.out.below dj;have HZ:=Hid.mk' (eN oa ol oc ops n w4 fT.ops pf (WalkArith.wf_i64 (by omega)))
         obtain⟨x0,x1,x2,x3,x4,x5⟩:=fT.bc.cells;obtain⟨y0,y1,y2,y3⟩:=fT.bj.cells;clear HA dj;ab fail;refine HZ.out.mono ?_;rintro e w5 ⟨gz,nz,cz,rfl,Kg,dx⟩;have gN:=fT.below dx;have Ti:=Kg.sl;generalize aM n ops=list at *;clear HZ fT x0 x1 x2 x3 x4 x5 y0 y1 y2 y3 dx Kg Cp;have Xw:=Hid.mk' Ti;have Xx:=Hid.mk' gN;have Kh:=gN.yes.1;have PX:=gN.yes.2.1;unfold maxLen at PX;obtain⟨x0,x1,x2,x3,x4,x5⟩:=gN.bc.cells;obtain⟨y0,y1,y2,y3⟩:=gN.bj.cells;clear gN Ti;ab fail;aN [7] (fun i wr=>∃k:Nat,k≤yl∧i=.int .i64 (k:Int)∧Below w5.heap.size w5 wr∧dZ list none yes=dZ list (oK yes k) (yes.drop k)) (fun i _=>yl - (intOf i).toNat)
         case atStart=>exact⟨0,Nat.zero_le _,rfl,Below.refl _ _,rfl⟩
         case round=>
          clear x0 x1 x2 x3 x4 x5 y0 y1 y2 y3;obtain⟨k,hk,rfl,mU,BL⟩:=hrel;have GJ:=Xx.out.below mU;have Xy:=Xw.out.below mU;obtain⟨x0,x1,x2,x3,x4,x5⟩:=GJ.bc.cells;obtain⟨y0,y1,y2,y3⟩:=GJ.bj.cells;have uq:=GJ.fp;by_cases bn:k<yl
          · have cJ:k<yes.length:=by omega
            obtain⟨yb,yo,e,zE⟩:=GJ.yes.2.2 (by omega)
            subst e;have fZ:(k:Int)<(yl:Int):=by omega
            have IL:=zE k cJ;rw[BK cJ] at BL;have nD:=Hid.mk' BL;have nK:Hid (∀x:last.On wr.heap.size wr,Calls Tryz.prog 102 #[.slice (some ⟨gz,0,none⟩) nz cz,.int .i64 yes[k]] x.w fun e w'=>e=.returned (.bool (decide (yes[k]∈list)))∧∃y:last.On wr.heap.size wr,w'=y.w):=fun x=>last.Calls.on x (Nat.le_refl _) ((cX (some ⟨gz,0,none⟩) nz cz list yes[k] x.w (Xy.below x.2)).mono fun e w' ⟨he,hw⟩=>⟨he,by rw[hw]; exact Below.refl _ _⟩)
            have MO:Hid (dZ list (some yes[k]) (yes.drop (k+1))=dZ list (oK yes (k+1)) (yes.drop (k+1))):=by show _=_; rw[m7 cJ]
            have r3:=last.On.cell (B:=wr.heap.size) y3 (World.block_lt_of_cell? _ _ y3);have rk:=last.On.cell (B:=wr.heap.size) IL (World.block_lt_of_cell? _ _ IL);have qC:=last.On.iq wr.heap.size wr;clear BL;cases k with
            | zero=>
             simp only[oK] at nD;simp only[Nat.add_zero] at rk IL;have dC:=nK.out;clear nK;generalize yes[0]=z at *;cases hh:decide (z∈list)
             · rw[hh] at dC nD;clear hh;have HF:Hid (eT n av next log (some q) (tx,ops,st,yes)=false):=by show _=_; rw[mj.out,nD.out]; simp
               ab fail;refine last.ar wr.heap.size (by aa) (by aa) ?_
               repeat(ai ((ao 102; ag exact dC _)))
               refine wpQuiet_nil ?_;intro wq bq;obtain⟨xq,bq⟩:=bq;subst bq;have dj:Below wr.heap.size wr xq.w:=xq.2;generalize xq.w=w7 at *;clear r3 rk qC dC;ab fail;an;exact⟨au HF.out.symm,uq.trans (dj.mono uq.size)⟩
             · rw[hh] at dC nD;clear hh;ab fail;refine last.ar wr.heap.size (by aa) (by aa) ?_
               repeat(ai ((ao 102; ag exact dC _)))
               refine wpQuiet_nil ?_;intro wq bq;obtain⟨xq,bq⟩:=bq;subst bq;have dj:Below wr.heap.size wr xq.w:=xq.2;generalize xq.w=w7 at *;clear r3 rk qC dC;have pZ:=mU.trans (dj.mono mU.size);ab fail;aA
               case rel=>exact⟨0+1,by omega,by aF,pZ,by rw[nD.out,←MO.out]; simp⟩
               case measure=>simp[intOf]; omega
            | succ k'=>
             have Ho:=zE k' (by omega)
             have rp:=last.On.cell (B:=wr.heap.size) Ho (World.block_lt_of_cell? _ _ Ho);have Tj:oK yes (k'+1)=some (yes[k']'(by omega)):=m7 (by omega)
             rw[Tj] at nD;have dC:=nK.out;have wk:IntKind.i64.wrap ((k':Int)+1 - 1)=(k':Int):=by rw[IntKind.wrap_i64]; omega
             clear nK Tj;generalize yes[k']'(by omega)=z0 at *
             generalize yes[k'+1]=z at *;cases hh:decide (z∈list)
             · rw[hh] at dC nD;clear hh;have HF:Hid (eT n av next log (some q) (tx,ops,st,yes)=false):=by show _=_; rw[mj.out,nD.out]; simp
               ab fail;refine last.ar wr.heap.size (by aa) (by aa) ?_
               repeat(ai ((ao 102; ag exact dC _)))
               refine wpQuiet_nil ?_;intro wq bq;obtain⟨xq,bq⟩:=bq;subst bq;have dj:Below wr.heap.size wr xq.w:=xq.2;generalize xq.w=w7 at *;clear r3 rk qC dC rp;ab fail;an;exact⟨au HF.out.symm,uq.trans (dj.mono uq.size)⟩
             · rw[hh] at dC nD;clear hh;by_cases hz:z0<z
               · have Ki:decide (z0<z)=true:=decide_eq_true hz;have CX:¬z≤z0:=by omega
                 simp only[Ki] at nD;clear Ki;ab fail;refine last.ar wr.heap.size (by aa) (by aa) ?_
                 repeat(ai ((ao 102; ag exact dC _)))
                 refine wpQuiet_nil ?_;intro wq bq;obtain⟨xq,bq⟩:=bq;subst bq;have dj:Below wr.heap.size wr xq.w:=xq.2;generalize xq.w=w7 at *;clear r3 rk qC dC rp;have pZ:=mU.trans (dj.mono mU.size);ab fail;aA
                 case rel=>exact⟨k'+1+1,by omega,by aF,pZ,by rw[nD.out,←MO.out]; simp⟩
                 case measure=>simp[intOf]; omega
               · have Ki:decide (z0<z)=false:=decide_eq_false hz;have CX:z≤z0:=by omega
                 simp only[Ki] at nD;clear Ki;have HF:Hid (eT n av next log (some q) (tx,ops,st,yes)=false):=by show _=_; rw[mj.out,nD.out]; simp
                 ab fail;refine last.ar wr.heap.size (by aa) (by aa) ?_
                 repeat(ai ((ao 102; ag exact dC _)))
                 refine wpQuiet_nil ?_;intro wq bq;obtain⟨xq,bq⟩:=bq;subst bq;have dj:Below wr.heap.size wr xq.w:=xq.2;generalize xq.w=w7 at *;clear r3 rk qC dC rp;ab fail;an;exact⟨au HF.out.symm,uq.trans (dj.mono uq.size)⟩
          · have CU:¬(k:Int)<(yl:Int):=by omega
            have PY:Hid (dZ list none yes=true):=by show _=_; rw[BL,List.drop_of_length_le (by omega)]; cases oK yes k <;> rfl
            clear BL;have vn:=Hid.mk' (oJ n av next sure (some ⟨jb,eJ,none⟩) jn jc la ln lc log tx wr GJ.log);have pZ:=a8 wr (kM n av next sure (some ⟨jb,eJ,none⟩) jn jc la ln lc);have Kj:=GJ.below pZ;have ny:=Kj.log;obtain⟨z0,z1,z2,z3,z4,z5⟩:=Kj.bc.cells;obtain⟨v0,v1,v2,v3⟩:=Kj.bj.cells;have jP:=Kj.fp;obtain⟨Wz,Nz⟩:∃Wz,wr.alloc (kM n av next sure (some ⟨jb,eJ,none⟩) jn jc la ln lc)=Wz:=⟨_,rfl⟩;rw[Nz] at vn ny z0 z1 z2 z3 z4 z5 v0 v1 v2 v3 jP;clear Nz Kj pZ;have Kk:st=1∨st=2∨st=3:=by omega
            have HQ:Hid (eT n av next log (some q) (tx,ops,st,yes)=fN st (choice log tx)):=by show _=_; rw[mj.out,PY.out]; rfl
            rcases vH:fx log tx with _ | k2
            · rw[vH,rI] at vn;rw[tr vH] at HQ;clear vH mj PY;rcases Kk with rfl | rfl | rfl
              bo
               ab fail;refine vn.out.mono ?_;rintro e w6 ⟨rfl,xj⟩;replace xj:=xj.symm;subst xj;ab fail;an;exact⟨au (by rw[HQ.out]; rfl),jP⟩
            · obtain⟨iu,wg⟩:=oH vH;rw[vH,rH] at vn;rw[wg] at HQ;have mb:=ny.1;obtain⟨lb,lo,e⟩:=gq ny (by omega)
              subst e;have hcy:=(vG ny k2 iu).2;have Xz:(k2:Int)<(ln:Int):=by omega
              have XA:¬(k2:Int)<0:=by omega
              generalize log[k2].2=yy at *;clear vH wg mj PY;rcases Kk with rfl | rfl | rfl <;> cases yy
              bo
               ab fail;refine vn.out.mono ?_;rintro e w6 ⟨rfl,xj⟩;replace xj:=xj.symm;subst xj;ab fail;an;exact⟨au (by rw[HQ.out]; rfl),jP⟩
   · have pt:decide (q<tx)=false:=decide_eq_false hq;have C2:decide (tx≤q)=true:=decide_eq_true (by omega)
     rw[pt] at mI;clear pt;have HF:Hid (eT n av next log (some q) (tx,ops,st,yes)=false):=by show _=_; rw[HR.out,mI.out]; simp
     aj Tryz.func67,Tryz.ntmps67;ab fail;rw[HW.out];refine last.ar W.heap.size (by aa) (by aa) ?_
     repeat(ai ((first | (ao 100; ag exact cT _) | (ao 32; ag exact kG _) | (ao 32; ag exact kH _))))
     refine wpQuiet_nil ?_;intro wq bq;obtain⟨xq,bq⟩:=bq;subst bq;have dj:Below W.heap.size W xq.w:=xq.2;generalize xq.w=w4 at *;clear o0 o1 o2 o3 p0 p1 p2 kG kH cT br pe;ab fail;an;exact⟨au HF.out.symm,hB.trans (dj.mono hB.size)⟩
end cos
end Go.Proofs.YtmibabclefgljaaGreat
