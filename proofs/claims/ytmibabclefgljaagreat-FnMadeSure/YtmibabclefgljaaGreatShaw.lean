/- CoT -/
import Derived.Test.YtmibabclefgljaaGreatShav
import Derived.Test.YtmibabclefgljaaGreatShac
import Derived.BigQuiet
set_option linter.unusedVariables false
set_option linter.unusedSimpArgs false
set_option maxRecDepth 100000
set_option maxHeartbeats 4000000
namespace Go.Proofs.YtmibabclefgljaaGreat
namespace cos
open Go Go.RowKit base av aN lay kN
theorem jl(a:Option Addr)(cap:Nat)(w:World):
 Calls Tryz.prog 100 #[.slice a 0 cap] w fun e w'=>e=.returned (.bool false)∧w'=w:=by
 go_enter Tryz.func100,Tryz.ntmps100;go_wp2_with fail;refine wp_loop_rounds 1 ?_;rw[rounds_succ];go_wp2_with fail;refine(jE 0 1 8 _).mono ?_;rintro e w9 ⟨rfl,rfl⟩;go_wp2_with fail;go_ret;exact⟨aj (by decide),rfl⟩
theorem fM(a:Option Addr)(len cap:Nat)(l:List Od)(w:World)(h:dD w a len l)(dG:∀p∈l,p.2.1.size≤1099511627776):
 Calls Tryz.prog 100 #[.slice a len cap] w fun e w'=>e=.returned (.bool (bM l))∧Below w.heap.size w w':=by
 by_cases h0:len=0
 · subst h0;obtain rfl:l=[]:=List.eq_nil_of_length_eq_zero h.1;refine(jl a cap w).mono ?_;rintro e w' ⟨rfl,rfl⟩;exact⟨rfl,Below.refl _ _⟩
 · obtain⟨b,off,ha,_⟩:=h.2.2.2 (by omega)
   subst ha;exact pU b off len cap l w h dG
def iK(X:Nat)(tx st:Int)(v y:Value)(w:World):Prop:=w.heap[X]? =some (.cells #[.int .i64 tx,v,.int .i64 st,y] 75 (0,0))
section
variable{X:Nat}{tx st:Int}{v y:Value}{w w':World}
theorem iK.cells(h:iK X tx st v y w):w.cell? ⟨X,0,none⟩=some (.int .i64 tx)∧w.cell? ⟨X,1,none⟩=some v∧w.cell? ⟨X,2,none⟩=some (.int .i64 st)∧w.cell? ⟨X,3,none⟩=some y:=by
 unfold iK at h;simp[World.cell?,h]
theorem iK.lt(h:iK X tx st v y w):X<w.heap.size:=(Array.getElem?_eq_some_iff.1 h).1
theorem iK.below(h:iK X tx st v y w)(hb:Below w.heap.size w w'):iK X tx st v y w':=(hb.block X h.lt).trans h
end
def iu(jobs:List Jb)(i:Nat):Option Int:=match i with | 0=>none | i+1=>(jobs[i]?).map fun j=>j.1
def PM(ak next:Int)(p:Option Int)(j:Jb):Bool:=decide (ak * 1000≤j.1∧j.1≤ak * 1000+next - 1) && (match p with | none=>true | some q=>decide (q<j.1)) && bM j.2.1 && decide (1≤j.2.2.1∧j.2.2.1≤3)
theorem Bu(n ak next:Int)(log:List Ch)(p:Option Int)(j:Jb):eF n ak next log p j=(PM ak next p j && dK (aD n j.2.1) none j.2.2.2 && fy j.2.2.1 (choice log j.1)):=rfl
structure S7 (w0 w:World) (n ak next sure:Int) (ja:Option Addr) (jn jc:Nat) (la:Option Addr) (ln lc:Nat) (tx st:Int) (oa:Option Addr) (ol oc:Nat) (ya:Option Addr) (yl yc:Nat) (ops:List Od) (yes:List Int) (log:List Ch):Prop where
 e7:Below w0.heap.size w0 w
 bc:fh w0.heap.size n ak next sure ja jn jc la ln lc w
 bj:iK (w0.heap.size+1) tx st (.slice oa ol oc) (.slice ya yl yc) w
 ops:dD w oa ol ops
 yes:tz w ya yl yes
 log:nc q_ w la ln log
theorem S7.below{w0 w w':World}{n ak next sure:Int}{ja:Option Addr}{jn jc:Nat}{la:Option Addr}{ln lc:Nat}{tx st:Int}{oa:Option Addr}{ol oc:Nat}{ya:Option Addr}{yl yc:Nat}{ops:List Od}{yes:List Int}{log:List Ch}(h:S7 w0 w n ak next sure ja jn jc la ln lc tx st oa ol oc ya yl yc ops yes log)(hb:Below w.heap.size w w'):S7 w0 w' n ak next sure ja jn jc la ln lc tx st oa ol oc ya yl yc ops yes log:=
 ⟨h.e7.trans (hb.mono h.e7.size),h.bc.below hb,h.bj.below hb,h.ops.below hb,h.yes.below hb,h.log.below hb⟩
theorem Bv{list:List Int}{yes:List Int}{k:Nat}{p:Option Int}(hk:k<yes.length):dK list p (yes.drop k)=((decide (yes[k]∈list) && match p with | none=>true | some q=>decide (q<yes[k])) && dK list (some yes[k]) (yes.drop (k+1))):=by
 rw[List.drop_eq_getElem_cons hk]; rfl
def oh(l:List Int)(k:Nat):Option Int:=match k with | 0=>none | k+1=>l[k]?
theorem mL{l:List Int}{k:Nat}(hk:k<l.length):oh l (k+1)=some l[k]:=List.getElem?_eq_getElem hk
theorem J4(n ak next sure:Int)(jb ep jn jc:Nat)(la:Option Addr)(ln lc:Nat)(tx st:Int)(oa:Option Addr)(ol oc:Nat)(ya:Option Addr)(yl yc:Nat)(ops:List Od)(yes:List Int)(log:List Ch)(w:World)(hn:1≤n∧n≤8)(zy:1≤ak∧ak≤900)(rA:0≤next∧next≤999)(hi:0<jn)(DK:jn≤1099511627776)(oL:ol≤1099511627776)(dG:∀p∈ops,p.2.1.size≤1099511627776)
 (c0:w.cell? ⟨jb,ep,none⟩=some (.int .i64 tx)) (c1:w.cell? ⟨jb,ep+1,none⟩=some (.slice oa ol oc)) (c2:w.cell? ⟨jb,ep+2,none⟩=some (.int .i64 st)) (c3:w.cell? ⟨jb,ep+3,none⟩=some (.slice ya yl yc)) (hO:dD w oa ol ops) (hY:tz w ya yl yes) (hG:nc q_ w la ln log):
 Calls Tryz.prog 67 #[Gs n ak next sure (some ⟨jb,ep,none⟩) jn jc la ln lc,.int .i64 0] w fun e w'=>e=.returned (.bool (eF n ak next log none (tx,ops,st,yes)))∧Below w.heap.size w w':=by
 have HR:=Hid.mk' (Bu n ak next log none (tx,ops,st,yes));obtain⟨W1,sK⟩:∃W1,w.alloc (kr n ak next sure (some ⟨jb,ep,none⟩) jn jc la ln lc)=W1:=⟨_,rfl⟩;have aT:Below w.heap.size w W1:=by rw[←sK]; exact aS _ _
 have tL:W1.heap.size=w.heap.size+1:=by rw[←sK]; simp
 have DN:fh w.heap.size n ak next sure (some ⟨jb,ep,none⟩) jn jc la ln lc W1:=by rw[←sK]; exact eo _ _ _ _ _ _ _ _ _ _ _
 obtain⟨W,hW⟩:∃W,W1.alloc (.cells #[.int .i64 tx,.slice oa ol oc,.int .i64 st,.slice ya yl yc] 75)=W:=⟨_,rfl⟩;have aU:Below W1.heap.size W1 W:=by rw[←hW]; exact aS _ _
 have S8:iK (w.heap.size+1) tx st (.slice oa ol oc) (.slice ya yl yc) W:=by rw[←hW,←tL]; exact heap_alloc_new W1 _
 have hB:=aT.trans (aU.mono aT.size);have hA:S7 w W n ak next sure (some ⟨jb,ep,none⟩) jn jc la ln lc tx st oa ol oc ya yl yc ops yes log:=⟨hB,DN.below aU,S8,hO.below hB,hY.below hB,hG.below hB⟩;have d0:=(aT.cell (World.block_lt_of_cell? w _ c0)).trans c0;have d1:=(aT.cell (World.block_lt_of_cell? w _ c1)).trans c1;have d2:=(aT.cell (World.block_lt_of_cell? w _ c2)).trans c2;have d3:=(aT.cell (World.block_lt_of_cell? w _ c3)).trans c3;obtain⟨b0,b1,b2,b3,b4,b5⟩:=DN.cells;rw[←sK] at d0 d1 d2 d3 b0 b1 b2 b3 b4 b5;have hii:0<(jn:Int):=by omega
 have HW:Hid ((w.alloc (kr n ak next sure (some ⟨jb,ep,none⟩) jn jc la ln lc)).alloc (.cells #[.int .i64 tx,.slice oa ol oc,.int .i64 st,.slice ya yl yc] 75)=W):=by show _=_; rw[sK,hW]
 have w1:IntKind.i64.wrap (ak * 1000)=ak * 1000:=by rw[IntKind.wrap_i64]; omega
 have w2:IntKind.i64.wrap (ak * 1000+next)=ak * 1000+next:=by rw[IntKind.wrap_i64]; omega
 have w3:IntKind.i64.wrap (ak * 1000+next - 1)=ak * 1000+next - 1:=by rw[IntKind.wrap_i64]; omega
 obtain⟨x0,x1,x2,x3,x4,x5⟩:=hA.bc.cells;obtain⟨y0,y1,y2,y3⟩:=hA.bj.cells;have o0:=last.On.cell (B:=W.heap.size) x0 (World.block_lt_of_cell? _ _ x0);have o1:=last.On.cell (B:=W.heap.size) x1 (World.block_lt_of_cell? _ _ x1);have o2:=last.On.cell (B:=W.heap.size) x2 (World.block_lt_of_cell? _ _ x2);have o3:=last.On.cell (B:=W.heap.size) x3 (World.block_lt_of_cell? _ _ x3);have p0:=last.On.cell (B:=W.heap.size) y0 (World.block_lt_of_cell? _ _ y0);have p1:=last.On.cell (B:=W.heap.size) y1 (World.block_lt_of_cell? _ _ y1);have p2:=last.On.cell (B:=W.heap.size) y2 (World.block_lt_of_cell? _ _ y2);have a_:=last.On.gV W.heap.size W;have ki:∀x:last.On W.heap.size W,Calls Tryz.prog 32 #[.int .i64 tx,.int .i64 (ak * 1000),.int .i64 (ak * 1000+next - 1)] x.w fun e w'=>e=.returned (.bool (decide (ak * 1000≤tx∧tx≤ak * 1000+next - 1)))∧∃y:last.On W.heap.size W,w'=y.w:=fun x=>last.Calls.on x (Nat.le_refl _) ((jE tx (ak * 1000) (ak * 1000+next - 1) x.w).mono fun e w' ⟨he,hw⟩=>⟨he,by rw[hw]; exact Below.refl _ _⟩)
 have kj:∀x:last.On W.heap.size W,Calls Tryz.prog 32 #[.int .i64 st,.int .i64 1,.int .i64 3] x.w fun e w'=>e=.returned (.bool (decide (1≤st∧st≤3)))∧∃y:last.On W.heap.size W,w'=y.w:=fun x=>last.Calls.on x (Nat.le_refl _) ((jE st 1 3 x.w).mono fun e w' ⟨he,hw⟩=>⟨he,by rw[hw]; exact Below.refl _ _⟩)
 have cE:∀x:last.On W.heap.size W,Calls Tryz.prog 100 #[.slice oa ol oc] x.w fun e w'=>e=.returned (.bool (bM ops))∧∃y:last.On W.heap.size W,w'=y.w:=fun x=>last.Calls.on x (Nat.le_refl _) (fM oa ol oc ops x.w (hA.ops.below x.2) dG)
 have mi:Hid (PM ak next none (tx,ops,st,yes)=(decide (ak * 1000≤tx∧tx≤ak * 1000+next - 1) && true && bM ops && decide (1≤st∧st≤3))):=rfl;clear hW sK aT aU DN S8 c0 c1 c2 c3 hO hY hG dG;have HA:=Hid.mk' hA;clear hA x0 x1 x2 x3 x4 x5 y0 y1 y2 y3;cases pk:decide (ak * 1000≤tx∧tx≤ak * 1000+next - 1)
 · rw[pk] at ki mi;clear pk;have HF:Hid (eF n ak next log none (tx,ops,st,yes)=false):=by show _=_; rw[HR.out,mi.out]; simp
   go_enter Tryz.func67,Tryz.ntmps67;go_wp2_with fail;rw[HW.out];refine last.ai W.heap.size (by kernel_rfl) (by kernel_rfl) ?_
   repeat(go_big_quiet_step ((first | (go_at_call 100; with_reducible exact cE _) | (go_at_call 32; with_reducible exact ki _) | (go_at_call 32; with_reducible exact kj _))))
   refine wpQuiet_nil ?_;intro wq a8;obtain⟨xq,a8⟩:=a8;subst a8;have cV:Below W.heap.size W xq.w:=xq.2;generalize xq.w=w4 at *;clear o0 o1 o2 o3 p0 p1 p2 ki kj cE a_;go_wp2_with fail;go_ret;exact⟨aj HF.out.symm,hB.trans (cV.mono hB.size)⟩
 · rw[pk] at ki mi;clear pk;cases zi:bM ops
   · rw[zi] at cE mi;clear zi;have HF:Hid (eF n ak next log none (tx,ops,st,yes)=false):=by show _=_; rw[HR.out,mi.out]; simp
     go_enter Tryz.func67,Tryz.ntmps67;go_wp2_with fail;rw[HW.out];refine last.ai W.heap.size (by kernel_rfl) (by kernel_rfl) ?_
     repeat(go_big_quiet_step ((first | (go_at_call 100; with_reducible exact cE _) | (go_at_call 32; with_reducible exact ki _) | (go_at_call 32; with_reducible exact kj _))))
     refine wpQuiet_nil ?_;intro wq a8;obtain⟨xq,a8⟩:=a8;subst a8;have cV:Below W.heap.size W xq.w:=xq.2;generalize xq.w=w4 at *;clear o0 o1 o2 o3 p0 p1 p2 ki kj cE a_;go_wp2_with fail;go_ret;exact⟨aj HF.out.symm,hB.trans (cV.mono hB.size)⟩
   · have B9:=zi;rw[zi] at cE mi;clear zi;cases fF:decide (1≤st∧st≤3)
     · rw[fF] at kj mi;clear fF;have HF:Hid (eF n ak next log none (tx,ops,st,yes)=false):=by show _=_; rw[HR.out,mi.out]; simp
       go_enter Tryz.func67,Tryz.ntmps67;go_wp2_with fail;rw[HW.out];refine last.ai W.heap.size (by kernel_rfl) (by kernel_rfl) ?_
       repeat(go_big_quiet_step ((first | (go_at_call 100; with_reducible exact cE _) | (go_at_call 32; with_reducible exact ki _) | (go_at_call 32; with_reducible exact kj _))))
       refine wpQuiet_nil ?_;intro wq a8;obtain⟨xq,a8⟩:=a8;subst a8;have cV:Below W.heap.size W xq.w:=xq.2;generalize xq.w=w4 at *;clear o0 o1 o2 o3 p0 p1 p2 ki kj cE a_;go_wp2_with fail;go_ret;exact⟨aj HF.out.symm,hB.trans (cV.mono hB.size)⟩
     · have cc:=of_decide_eq_true fF;rw[fF] at kj mi;clear fF;have lV:Hid (eF n ak next log none (tx,ops,st,yes)=(dK (aD n ops) none yes && fy st (choice log tx))):=by show _=_; rw[HR.out,mi.out]; simp
       clear HR mi;go_enter Tryz.func67,Tryz.ntmps67;go_wp2_with fail;rw[HW.out];refine last.ai W.heap.size (by kernel_rfl) (by kernel_rfl) ?_
       repeat(go_big_quiet_step ((first | (go_at_call 100; with_reducible exact cE _) | (go_at_call 32; with_reducible exact ki _) | (go_at_call 32; with_reducible exact kj _))))
       refine wpQuiet_nil ?_;intro wq a8;obtain⟨xq,a8⟩:=a8;subst a8;have cV:Below W.heap.size W xq.w:=xq.2;generalize xq.w=w4 at *;clear o0 o1 o2 o3 p0 p1 p2 ki kj cE a_;have fF:=HA.out.below cV;have HZ:=Hid.mk' (ez oa ol oc ops n w4 fF.ops oL (WalkArith.wf_i64 (by omega)))
       obtain⟨x0,x1,x2,x3,x4,x5⟩:=fF.bc.cells;obtain⟨y0,y1,y2,y3⟩:=fF.bj.cells;clear HA cV;go_wp2_with fail;refine HZ.out.mono ?_;rintro e w5 ⟨gz,nz,cz,rfl,J5,de⟩;have gq:=fF.below de;have S9:=J5.sl;generalize aD n ops=list at *;clear HZ fF x0 x1 x2 x3 x4 x5 y0 y1 y2 y3 de J5 B9;have Xk:=Hid.mk' S9;have Xl:=Hid.mk' gq;have J6:=gq.yes.1;have PN:=gq.yes.2.1;unfold maxLen at PN;obtain⟨x0,x1,x2,x3,x4,x5⟩:=gq.bc.cells;obtain⟨y0,y1,y2,y3⟩:=gq.bj.cells;clear gq S9;go_wp2_with fail;go_loopw [7] (fun i wr=>∃k:Nat,k≤yl∧i=.int .i64 (k:Int)∧Below w5.heap.size w5 wr∧dK list none yes=dK list (oh yes k) (yes.drop k)) (fun i _=>yl - (intOf i).toNat)
       case atStart=>exact⟨0,Nat.zero_le _,rfl,Below.refl _ _,rfl⟩
       case round=>
        clear x0 x1 x2 x3 x4 x5 y0 y1 y2 y3;obtain⟨k,hk,rfl,mD,Bw⟩:=hrel;have Gt:=Xl.out.below mD;have Xm:=Xk.out.below mD;obtain⟨x0,x1,x2,x3,x4,x5⟩:=Gt.bc.cells;obtain⟨y0,y1,y2,y3⟩:=Gt.bj.cells;have tV:=Gt.e7;by_cases a6:k<yl
        · have ck:k<yes.length:=by omega
          obtain⟨yb,yo,e,zk⟩:=Gt.yes.2.2 (by omega)
          subst e;have fL:(k:Int)<(yl:Int):=by omega
          have Iz:=zk k ck;rw[Bv ck] at Bw;have m_:=Hid.mk' Bw;have nl:Hid (∀x:last.On wr.heap.size wr,Calls Tryz.prog 102 #[.slice (some ⟨gz,0,none⟩) nz cz,.int .i64 yes[k]] x.w fun e w'=>e=.returned (.bool (decide (yes[k]∈list)))∧∃y:last.On wr.heap.size wr,w'=y.w):=fun x=>last.Calls.on x (Nat.le_refl _) ((cI (some ⟨gz,0,none⟩) nz cz list yes[k] x.w (Xm.below x.2)).mono fun e w' ⟨he,hw⟩=>⟨he,by rw[hw]; exact Below.refl _ _⟩)
          have MC:Hid (dK list (some yes[k]) (yes.drop (k+1))=dK list (oh yes (k+1)) (yes.drop (k+1))):=by show _=_; rw[mL ck]
          have r3:=last.On.cell (B:=wr.heap.size) y3 (World.block_lt_of_cell? _ _ y3);have rk:=last.On.cell (B:=wr.heap.size) Iz (World.block_lt_of_cell? _ _ Iz);have qf:=last.On.gV wr.heap.size wr;clear Bw;cases k with
          | zero=>
           simp only[oh] at m_;simp only[Nat.add_zero] at rk Iz;have dj:=nl.out;clear nl;generalize yes[0]=z at *;cases hh:decide (z∈list)
           · rw[hh] at dj m_;clear hh;have HF:Hid (eF n ak next log none (tx,ops,st,yes)=false):=by show _=_; rw[lV.out,m_.out]; simp
             go_wp2_with fail;refine last.ai wr.heap.size (by kernel_rfl) (by kernel_rfl) ?_
             repeat(go_big_quiet_step ((go_at_call 102; with_reducible exact dj _)))
             refine wpQuiet_nil ?_;intro wq a8;obtain⟨xq,a8⟩:=a8;subst a8;have cV:Below wr.heap.size wr xq.w:=xq.2;generalize xq.w=w7 at *;clear r3 rk qf dj;go_wp2_with fail;go_ret;exact⟨aj HF.out.symm,tV.trans (cV.mono tV.size)⟩
           · rw[hh] at dj m_;clear hh;go_wp2_with fail;refine last.ai wr.heap.size (by kernel_rfl) (by kernel_rfl) ?_
             repeat(go_big_quiet_step ((go_at_call 102; with_reducible exact dj _)))
             refine wpQuiet_nil ?_;intro wq a8;obtain⟨xq,a8⟩:=a8;subst a8;have cV:Below wr.heap.size wr xq.w:=xq.2;generalize xq.w=w7 at *;clear r3 rk qf dj;have pG:=mD.trans (cV.mono mD.size);go_wp2_with fail;go_roundw
             case rel=>exact⟨0+1,by omega,by go_num,pG,by rw[m_.out,←MC.out]; simp⟩
             case measure=>simp[intOf]; omega
          | succ k'=>
           have Hc:=zk k' (by omega)
           have rp:=last.On.cell (B:=wr.heap.size) Hc (World.block_lt_of_cell? _ _ Hc);have S_:oh yes (k'+1)=some (yes[k']'(by omega)):=mL (by omega)
           rw[S_] at m_;have dj:=nl.out;have wk:IntKind.i64.wrap ((k':Int)+1 - 1)=(k':Int):=by rw[IntKind.wrap_i64]; omega
           clear nl S_;generalize yes[k']'(by omega)=z0 at *
           generalize yes[k'+1]=z at *;cases hh:decide (z∈list)
           · rw[hh] at dj m_;clear hh;have HF:Hid (eF n ak next log none (tx,ops,st,yes)=false):=by show _=_; rw[lV.out,m_.out]; simp
             go_wp2_with fail;refine last.ai wr.heap.size (by kernel_rfl) (by kernel_rfl) ?_
             repeat(go_big_quiet_step ((go_at_call 102; with_reducible exact dj _)))
             refine wpQuiet_nil ?_;intro wq a8;obtain⟨xq,a8⟩:=a8;subst a8;have cV:Below wr.heap.size wr xq.w:=xq.2;generalize xq.w=w7 at *;clear r3 rk qf dj rp;go_wp2_with fail;go_ret;exact⟨aj HF.out.symm,tV.trans (cV.mono tV.size)⟩
           · rw[hh] at dj m_;clear hh;by_cases hz:z0<z
             · have J7:decide (z0<z)=true:=decide_eq_true hz;have CI:¬z≤z0:=by omega
               simp only[J7] at m_;clear J7;go_wp2_with fail;refine last.ai wr.heap.size (by kernel_rfl) (by kernel_rfl) ?_
               repeat(go_big_quiet_step ((go_at_call 102; with_reducible exact dj _)))
               refine wpQuiet_nil ?_;intro wq a8;obtain⟨xq,a8⟩:=a8;subst a8;have cV:Below wr.heap.size wr xq.w:=xq.2;generalize xq.w=w7 at *;clear r3 rk qf dj rp;have pG:=mD.trans (cV.mono mD.size);go_wp2_with fail;go_roundw
               case rel=>exact⟨k'+1+1,by omega,by go_num,pG,by rw[m_.out,←MC.out]; simp⟩
               case measure=>simp[intOf]; omega
             · have J7:decide (z0<z)=false:=decide_eq_false hz;have CI:z≤z0:=by omega
               simp only[J7] at m_;clear J7;have HF:Hid (eF n ak next log none (tx,ops,st,yes)=false):=by show _=_; rw[lV.out,m_.out]; simp
               go_wp2_with fail;refine last.ai wr.heap.size (by kernel_rfl) (by kernel_rfl) ?_
               repeat(go_big_quiet_step ((go_at_call 102; with_reducible exact dj _)))
               refine wpQuiet_nil ?_;intro wq a8;obtain⟨xq,a8⟩:=a8;subst a8;have cV:Below wr.heap.size wr xq.w:=xq.2;generalize xq.w=w7 at *;clear r3 rk qf dj rp;go_wp2_with fail;go_ret;exact⟨aj HF.out.symm,tV.trans (cV.mono tV.size)⟩
        · have CF:¬(k:Int)<(yl:Int):=by omega
          have PO:Hid (dK list none yes=true):=by show _=_; rw[Bw,List.drop_of_length_le (by omega)]; cases oh yes k <;> rfl
          clear Bw;have uW:=Hid.mk' (og n ak next sure (some ⟨jb,ep,none⟩) jn jc la ln lc log tx wr Gt.log);have pG:=aS wr (kr n ak next sure (some ⟨jb,ep,none⟩) jn jc la ln lc);have J8:=Gt.below pG;have m5:=J8.log;obtain⟨z0,z1,z2,z3,z4,z5⟩:=J8.bc.cells;obtain⟨v0,v1,v2,v3⟩:=J8.bj.cells;have jy:=J8.e7;obtain⟨Wz,Nn⟩:∃Wz,wr.alloc (kr n ak next sure (some ⟨jb,ep,none⟩) jn jc la ln lc)=Wz:=⟨_,rfl⟩;rw[Nn] at uW m5 z0 z1 z2 z3 z4 z5 v0 v1 v2 v3 jy;clear Nn J8 pG;have J9:st=1∨st=2∨st=3:=by omega
          have Hp:Hid (eF n ak next log none (tx,ops,st,yes)=fy st (choice log tx)):=by show _=_; rw[lV.out,PO.out]; rfl
          rcases vh:fe log tx with _ | k2
          · rw[vh,rf] at uW;rw[sZ vh] at Hp;clear vh lV PO;rcases J9 with rfl | rfl | rfl
            all_goals
             go_wp2_with fail;refine uW.out.mono ?_;rintro e w6 ⟨rfl,wP⟩;replace wP:=wP.symm;subst wP;go_wp2_with fail;go_ret;exact⟨aj (by rw[Hp.out]; rfl),jy⟩
          · obtain⟨gY,vK⟩:=od vh;rw[vh,re] at uW;rw[vK] at Hp;have lP:=m5.1;obtain⟨lb,lo,e⟩:=fT m5 (by omega)
            subst e;have hcy:=(vf m5 k2 gY).2;have Xn:(k2:Int)<(ln:Int):=by omega
            have Xo:¬(k2:Int)<0:=by omega
            generalize log[k2].2=yy at *;clear vh vK lV PO;rcases J9 with rfl | rfl | rfl <;> cases yy
            all_goals
             go_wp2_with fail;refine uW.out.mono ?_;rintro e w6 ⟨rfl,wP⟩;replace wP:=wP.symm;subst wP;go_wp2_with fail;go_ret;exact⟨aj (by rw[Hp.out]; rfl),jy⟩
theorem J_(n ak next sure:Int)(jb ep jn jc:Nat)(la:Option Addr)(ln lc:Nat)(tx st:Int)(oa:Option Addr)(ol oc:Nat)(ya:Option Addr)(yl yc:Nat)(ops:List Od)(yes:List Int)(log:List Ch)(i:Nat)(q:Int)(w:World)(hn:1≤n∧n≤8)(zy:1≤ak∧ak≤900)(rA:0≤next∧next≤999)(hi:i+1<jn)(DK:jn≤1099511627776)(oL:ol≤1099511627776)(dG:∀p∈ops,p.2.1.size≤1099511627776)
 (c0:w.cell? ⟨jb,ep+(i+1) * 4,none⟩=some (.int .i64 tx)) (c1:w.cell? ⟨jb,ep+(i+1) * 4+1,none⟩=some (.slice oa ol oc)) (c2:w.cell? ⟨jb,ep+(i+1) * 4+2,none⟩=some (.int .i64 st)) (c3:w.cell? ⟨jb,ep+(i+1) * 4+3,none⟩=some (.slice ya yl yc)) (cp:w.cell? ⟨jb,ep+i * 4,none⟩=some (.int .i64 q)) (hO:dD w oa ol ops) (hY:tz w ya yl yes) (hG:nc q_ w la ln log):
 Calls Tryz.prog 67 #[Gs n ak next sure (some ⟨jb,ep,none⟩) jn jc la ln lc,.int .i64 ((i:Int)+1)] w fun e w'=>e=.returned (.bool (eF n ak next log (some q) (tx,ops,st,yes)))∧Below w.heap.size w w':=by
 have HR:=Hid.mk' (Bu n ak next log (some q) (tx,ops,st,yes));obtain⟨W1,sK⟩:∃W1,w.alloc (kr n ak next sure (some ⟨jb,ep,none⟩) jn jc la ln lc)=W1:=⟨_,rfl⟩;have aT:Below w.heap.size w W1:=by rw[←sK]; exact aS _ _
 have tL:W1.heap.size=w.heap.size+1:=by rw[←sK]; simp
 have DN:fh w.heap.size n ak next sure (some ⟨jb,ep,none⟩) jn jc la ln lc W1:=by rw[←sK]; exact eo _ _ _ _ _ _ _ _ _ _ _
 obtain⟨W,hW⟩:∃W,W1.alloc (.cells #[.int .i64 tx,.slice oa ol oc,.int .i64 st,.slice ya yl yc] 75)=W:=⟨_,rfl⟩;have aU:Below W1.heap.size W1 W:=by rw[←hW]; exact aS _ _
 have S8:iK (w.heap.size+1) tx st (.slice oa ol oc) (.slice ya yl yc) W:=by rw[←hW,←tL]; exact heap_alloc_new W1 _
 have hB:=aT.trans (aU.mono aT.size);have hA:S7 w W n ak next sure (some ⟨jb,ep,none⟩) jn jc la ln lc tx st oa ol oc ya yl yc ops yes log:=⟨hB,DN.below aU,S8,hO.below hB,hY.below hB,hG.below hB⟩;have d0:=(aT.cell (World.block_lt_of_cell? w _ c0)).trans c0;have d1:=(aT.cell (World.block_lt_of_cell? w _ c1)).trans c1;have d2:=(aT.cell (World.block_lt_of_cell? w _ c2)).trans c2;have d3:=(aT.cell (World.block_lt_of_cell? w _ c3)).trans c3;obtain⟨b0,b1,b2,b3,b4,b5⟩:=DN.cells;rw[←sK] at d0 d1 d2 d3 b0 b1 b2 b3 b4 b5;have hii:((i:Int)+1)<(jn:Int):=by omega
 have HW:Hid ((w.alloc (kr n ak next sure (some ⟨jb,ep,none⟩) jn jc la ln lc)).alloc (.cells #[.int .i64 tx,.slice oa ol oc,.int .i64 st,.slice ya yl yc] 75)=W):=by show _=_; rw[sK,hW]
 have w1:IntKind.i64.wrap (ak * 1000)=ak * 1000:=by rw[IntKind.wrap_i64]; omega
 have w2:IntKind.i64.wrap (ak * 1000+next)=ak * 1000+next:=by rw[IntKind.wrap_i64]; omega
 have w3:IntKind.i64.wrap (ak * 1000+next - 1)=ak * 1000+next - 1:=by rw[IntKind.wrap_i64]; omega
 obtain⟨x0,x1,x2,x3,x4,x5⟩:=hA.bc.cells;obtain⟨y0,y1,y2,y3⟩:=hA.bj.cells;have o0:=last.On.cell (B:=W.heap.size) x0 (World.block_lt_of_cell? _ _ x0);have o1:=last.On.cell (B:=W.heap.size) x1 (World.block_lt_of_cell? _ _ x1);have o2:=last.On.cell (B:=W.heap.size) x2 (World.block_lt_of_cell? _ _ x2);have o3:=last.On.cell (B:=W.heap.size) x3 (World.block_lt_of_cell? _ _ x3);have p0:=last.On.cell (B:=W.heap.size) y0 (World.block_lt_of_cell? _ _ y0);have p1:=last.On.cell (B:=W.heap.size) y1 (World.block_lt_of_cell? _ _ y1);have p2:=last.On.cell (B:=W.heap.size) y2 (World.block_lt_of_cell? _ _ y2);have ce:=(hB.cell (World.block_lt_of_cell? w _ cp)).trans cp;have pe:=last.On.cell (B:=W.heap.size) ce (World.block_lt_of_cell? _ _ ce);have wi:IntKind.i64.wrap ((i:Int)+1 - 1)=(i:Int):=by rw[IntKind.wrap_i64]; omega
 have a_:=last.On.gV W.heap.size W;have ki:∀x:last.On W.heap.size W,Calls Tryz.prog 32 #[.int .i64 tx,.int .i64 (ak * 1000),.int .i64 (ak * 1000+next - 1)] x.w fun e w'=>e=.returned (.bool (decide (ak * 1000≤tx∧tx≤ak * 1000+next - 1)))∧∃y:last.On W.heap.size W,w'=y.w:=fun x=>last.Calls.on x (Nat.le_refl _) ((jE tx (ak * 1000) (ak * 1000+next - 1) x.w).mono fun e w' ⟨he,hw⟩=>⟨he,by rw[hw]; exact Below.refl _ _⟩)
 have kj:∀x:last.On W.heap.size W,Calls Tryz.prog 32 #[.int .i64 st,.int .i64 1,.int .i64 3] x.w fun e w'=>e=.returned (.bool (decide (1≤st∧st≤3)))∧∃y:last.On W.heap.size W,w'=y.w:=fun x=>last.Calls.on x (Nat.le_refl _) ((jE st 1 3 x.w).mono fun e w' ⟨he,hw⟩=>⟨he,by rw[hw]; exact Below.refl _ _⟩)
 have cE:∀x:last.On W.heap.size W,Calls Tryz.prog 100 #[.slice oa ol oc] x.w fun e w'=>e=.returned (.bool (bM ops))∧∃y:last.On W.heap.size W,w'=y.w:=fun x=>last.Calls.on x (Nat.le_refl _) (fM oa ol oc ops x.w (hA.ops.below x.2) dG)
 have mi:Hid (PM ak next (some q) (tx,ops,st,yes)=(decide (ak * 1000≤tx∧tx≤ak * 1000+next - 1) && decide (q<tx) && bM ops && decide (1≤st∧st≤3))):=rfl;clear hW sK aT aU DN S8 c0 c1 c2 c3 hO hY hG dG cp ce;have HA:=Hid.mk' hA;clear hA x0 x1 x2 x3 x4 x5 y0 y1 y2 y3;cases pk:decide (ak * 1000≤tx∧tx≤ak * 1000+next - 1)
 · rw[pk] at ki mi;clear pk;have HF:Hid (eF n ak next log (some q) (tx,ops,st,yes)=false):=by show _=_; rw[HR.out,mi.out]; simp
   go_enter Tryz.func67,Tryz.ntmps67;go_wp2_with fail;rw[HW.out];refine last.ai W.heap.size (by kernel_rfl) (by kernel_rfl) ?_
   repeat(go_big_quiet_step ((first | (go_at_call 100; with_reducible exact cE _) | (go_at_call 32; with_reducible exact ki _) | (go_at_call 32; with_reducible exact kj _))))
   refine wpQuiet_nil ?_;intro wq a8;obtain⟨xq,a8⟩:=a8;subst a8;have cV:Below W.heap.size W xq.w:=xq.2;generalize xq.w=w4 at *;clear o0 o1 o2 o3 p0 p1 p2 ki kj cE a_ pe;go_wp2_with fail;go_ret;exact⟨aj HF.out.symm,hB.trans (cV.mono hB.size)⟩
 · rw[pk] at ki mi;clear pk;by_cases hq:q<tx
   · have oT:decide (q<tx)=true:=decide_eq_true hq;have CN:decide (tx≤q)=false:=decide_eq_false (by omega)
     rw[oT] at mi;clear oT;cases zi:bM ops
     · rw[zi] at cE mi;clear zi;have HF:Hid (eF n ak next log (some q) (tx,ops,st,yes)=false):=by show _=_; rw[HR.out,mi.out]; simp
       go_enter Tryz.func67,Tryz.ntmps67;go_wp2_with fail;rw[HW.out];refine last.ai W.heap.size (by kernel_rfl) (by kernel_rfl) ?_
       repeat(go_big_quiet_step ((first | (go_at_call 100; with_reducible exact cE _) | (go_at_call 32; with_reducible exact ki _) | (go_at_call 32; with_reducible exact kj _))))
       refine wpQuiet_nil ?_;intro wq a8;obtain⟨xq,a8⟩:=a8;subst a8;have cV:Below W.heap.size W xq.w:=xq.2;generalize xq.w=w4 at *;clear o0 o1 o2 o3 p0 p1 p2 ki kj cE a_ pe;go_wp2_with fail;go_ret;exact⟨aj HF.out.symm,hB.trans (cV.mono hB.size)⟩
     · have B9:=zi;rw[zi] at cE mi;clear zi;cases fF:decide (1≤st∧st≤3)
       · rw[fF] at kj mi;clear fF;have HF:Hid (eF n ak next log (some q) (tx,ops,st,yes)=false):=by show _=_; rw[HR.out,mi.out]; simp
         go_enter Tryz.func67,Tryz.ntmps67;go_wp2_with fail;rw[HW.out];refine last.ai W.heap.size (by kernel_rfl) (by kernel_rfl) ?_
         repeat(go_big_quiet_step ((first | (go_at_call 100; with_reducible exact cE _) | (go_at_call 32; with_reducible exact ki _) | (go_at_call 32; with_reducible exact kj _))))
         refine wpQuiet_nil ?_;intro wq a8;obtain⟨xq,a8⟩:=a8;subst a8;have cV:Below W.heap.size W xq.w:=xq.2;generalize xq.w=w4 at *;clear o0 o1 o2 o3 p0 p1 p2 ki kj cE a_ pe;go_wp2_with fail;go_ret;exact⟨aj HF.out.symm,hB.trans (cV.mono hB.size)⟩
       · have cc:=of_decide_eq_true fF;rw[fF] at kj mi;clear fF;have lV:Hid (eF n ak next log (some q) (tx,ops,st,yes)=(dK (aD n ops) none yes && fy st (choice log tx))):=by show _=_; rw[HR.out,mi.out]; simp
         clear HR mi;go_enter Tryz.func67,Tryz.ntmps67;go_wp2_with fail;rw[HW.out];refine last.ai W.heap.size (by kernel_rfl) (by kernel_rfl) ?_
         repeat(go_big_quiet_step ((first | (go_at_call 100; with_reducible exact cE _) | (go_at_call 32; with_reducible exact ki _) | (go_at_call 32; with_reducible exact kj _))))
         refine wpQuiet_nil ?_;intro wq a8;obtain⟨xq,a8⟩:=a8;subst a8;have cV:Below W.heap.size W xq.w:=xq.2;generalize xq.w=w4 at *;clear o0 o1 o2 o3 p0 p1 p2 ki kj cE a_ pe;have fF:=HA.out.below cV;have HZ:=Hid.mk' (ez oa ol oc ops n w4 fF.ops oL (WalkArith.wf_i64 (by omega)))
         obtain⟨x0,x1,x2,x3,x4,x5⟩:=fF.bc.cells;obtain⟨y0,y1,y2,y3⟩:=fF.bj.cells;clear HA cV;go_wp2_with fail;refine HZ.out.mono ?_;rintro e w5 ⟨gz,nz,cz,rfl,J5,de⟩;have gq:=fF.below de;have S9:=J5.sl;generalize aD n ops=list at *;clear HZ fF x0 x1 x2 x3 x4 x5 y0 y1 y2 y3 de J5 B9;have Xk:=Hid.mk' S9;have Xl:=Hid.mk' gq;have J6:=gq.yes.1;have PN:=gq.yes.2.1;unfold maxLen at PN;obtain⟨x0,x1,x2,x3,x4,x5⟩:=gq.bc.cells;obtain⟨y0,y1,y2,y3⟩:=gq.bj.cells;clear gq S9;go_wp2_with fail;go_loopw [7] (fun i wr=>∃k:Nat,k≤yl∧i=.int .i64 (k:Int)∧Below w5.heap.size w5 wr∧dK list none yes=dK list (oh yes k) (yes.drop k)) (fun i _=>yl - (intOf i).toNat)
         case atStart=>exact⟨0,Nat.zero_le _,rfl,Below.refl _ _,rfl⟩
         case round=>
          clear x0 x1 x2 x3 x4 x5 y0 y1 y2 y3;obtain⟨k,hk,rfl,mD,Bw⟩:=hrel;have Gt:=Xl.out.below mD;have Xm:=Xk.out.below mD;obtain⟨x0,x1,x2,x3,x4,x5⟩:=Gt.bc.cells;obtain⟨y0,y1,y2,y3⟩:=Gt.bj.cells;have tV:=Gt.e7;by_cases a6:k<yl
          · have ck:k<yes.length:=by omega
            obtain⟨yb,yo,e,zk⟩:=Gt.yes.2.2 (by omega)
            subst e;have fL:(k:Int)<(yl:Int):=by omega
            have Iz:=zk k ck;rw[Bv ck] at Bw;have m_:=Hid.mk' Bw;have nl:Hid (∀x:last.On wr.heap.size wr,Calls Tryz.prog 102 #[.slice (some ⟨gz,0,none⟩) nz cz,.int .i64 yes[k]] x.w fun e w'=>e=.returned (.bool (decide (yes[k]∈list)))∧∃y:last.On wr.heap.size wr,w'=y.w):=fun x=>last.Calls.on x (Nat.le_refl _) ((cI (some ⟨gz,0,none⟩) nz cz list yes[k] x.w (Xm.below x.2)).mono fun e w' ⟨he,hw⟩=>⟨he,by rw[hw]; exact Below.refl _ _⟩)
            have MC:Hid (dK list (some yes[k]) (yes.drop (k+1))=dK list (oh yes (k+1)) (yes.drop (k+1))):=by show _=_; rw[mL ck]
            have r3:=last.On.cell (B:=wr.heap.size) y3 (World.block_lt_of_cell? _ _ y3);have rk:=last.On.cell (B:=wr.heap.size) Iz (World.block_lt_of_cell? _ _ Iz);have qf:=last.On.gV wr.heap.size wr;clear Bw;cases k with
            | zero=>
             simp only[oh] at m_;simp only[Nat.add_zero] at rk Iz;have dj:=nl.out;clear nl;generalize yes[0]=z at *;cases hh:decide (z∈list)
             · rw[hh] at dj m_;clear hh;have HF:Hid (eF n ak next log (some q) (tx,ops,st,yes)=false):=by show _=_; rw[lV.out,m_.out]; simp
               go_wp2_with fail;refine last.ai wr.heap.size (by kernel_rfl) (by kernel_rfl) ?_
               repeat(go_big_quiet_step ((go_at_call 102; with_reducible exact dj _)))
               refine wpQuiet_nil ?_;intro wq a8;obtain⟨xq,a8⟩:=a8;subst a8;have cV:Below wr.heap.size wr xq.w:=xq.2;generalize xq.w=w7 at *;clear r3 rk qf dj;go_wp2_with fail;go_ret;exact⟨aj HF.out.symm,tV.trans (cV.mono tV.size)⟩
             · rw[hh] at dj m_;clear hh;go_wp2_with fail;refine last.ai wr.heap.size (by kernel_rfl) (by kernel_rfl) ?_
               repeat(go_big_quiet_step ((go_at_call 102; with_reducible exact dj _)))
               refine wpQuiet_nil ?_;intro wq a8;obtain⟨xq,a8⟩:=a8;subst a8;have cV:Below wr.heap.size wr xq.w:=xq.2;generalize xq.w=w7 at *;clear r3 rk qf dj;have pG:=mD.trans (cV.mono mD.size);go_wp2_with fail;go_roundw
               case rel=>exact⟨0+1,by omega,by go_num,pG,by rw[m_.out,←MC.out]; simp⟩
               case measure=>simp[intOf]; omega
            | succ k'=>
             have Hc:=zk k' (by omega)
             have rp:=last.On.cell (B:=wr.heap.size) Hc (World.block_lt_of_cell? _ _ Hc);have S_:oh yes (k'+1)=some (yes[k']'(by omega)):=mL (by omega)
             rw[S_] at m_;have dj:=nl.out;have wk:IntKind.i64.wrap ((k':Int)+1 - 1)=(k':Int):=by rw[IntKind.wrap_i64]; omega
             clear nl S_;generalize yes[k']'(by omega)=z0 at *
             generalize yes[k'+1]=z at *;cases hh:decide (z∈list)
             · rw[hh] at dj m_;clear hh;have HF:Hid (eF n ak next log (some q) (tx,ops,st,yes)=false):=by show _=_; rw[lV.out,m_.out]; simp
               go_wp2_with fail;refine last.ai wr.heap.size (by kernel_rfl) (by kernel_rfl) ?_
               repeat(go_big_quiet_step ((go_at_call 102; with_reducible exact dj _)))
               refine wpQuiet_nil ?_;intro wq a8;obtain⟨xq,a8⟩:=a8;subst a8;have cV:Below wr.heap.size wr xq.w:=xq.2;generalize xq.w=w7 at *;clear r3 rk qf dj rp;go_wp2_with fail;go_ret;exact⟨aj HF.out.symm,tV.trans (cV.mono tV.size)⟩
             · rw[hh] at dj m_;clear hh;by_cases hz:z0<z
               · have J7:decide (z0<z)=true:=decide_eq_true hz;have CI:¬z≤z0:=by omega
                 simp only[J7] at m_;clear J7;go_wp2_with fail;refine last.ai wr.heap.size (by kernel_rfl) (by kernel_rfl) ?_
                 repeat(go_big_quiet_step ((go_at_call 102; with_reducible exact dj _)))
                 refine wpQuiet_nil ?_;intro wq a8;obtain⟨xq,a8⟩:=a8;subst a8;have cV:Below wr.heap.size wr xq.w:=xq.2;generalize xq.w=w7 at *;clear r3 rk qf dj rp;have pG:=mD.trans (cV.mono mD.size);go_wp2_with fail;go_roundw
                 case rel=>exact⟨k'+1+1,by omega,by go_num,pG,by rw[m_.out,←MC.out]; simp⟩
                 case measure=>simp[intOf]; omega
               · have J7:decide (z0<z)=false:=decide_eq_false hz;have CI:z≤z0:=by omega
                 simp only[J7] at m_;clear J7;have HF:Hid (eF n ak next log (some q) (tx,ops,st,yes)=false):=by show _=_; rw[lV.out,m_.out]; simp
                 go_wp2_with fail;refine last.ai wr.heap.size (by kernel_rfl) (by kernel_rfl) ?_
                 repeat(go_big_quiet_step ((go_at_call 102; with_reducible exact dj _)))
                 refine wpQuiet_nil ?_;intro wq a8;obtain⟨xq,a8⟩:=a8;subst a8;have cV:Below wr.heap.size wr xq.w:=xq.2;generalize xq.w=w7 at *;clear r3 rk qf dj rp;go_wp2_with fail;go_ret;exact⟨aj HF.out.symm,tV.trans (cV.mono tV.size)⟩
          · have CF:¬(k:Int)<(yl:Int):=by omega
            have PO:Hid (dK list none yes=true):=by show _=_; rw[Bw,List.drop_of_length_le (by omega)]; cases oh yes k <;> rfl
            clear Bw;have uW:=Hid.mk' (og n ak next sure (some ⟨jb,ep,none⟩) jn jc la ln lc log tx wr Gt.log);have pG:=aS wr (kr n ak next sure (some ⟨jb,ep,none⟩) jn jc la ln lc);have J8:=Gt.below pG;have m5:=J8.log;obtain⟨z0,z1,z2,z3,z4,z5⟩:=J8.bc.cells;obtain⟨v0,v1,v2,v3⟩:=J8.bj.cells;have jy:=J8.e7;obtain⟨Wz,Nn⟩:∃Wz,wr.alloc (kr n ak next sure (some ⟨jb,ep,none⟩) jn jc la ln lc)=Wz:=⟨_,rfl⟩;rw[Nn] at uW m5 z0 z1 z2 z3 z4 z5 v0 v1 v2 v3 jy;clear Nn J8 pG;have J9:st=1∨st=2∨st=3:=by omega
            have Hp:Hid (eF n ak next log (some q) (tx,ops,st,yes)=fy st (choice log tx)):=by show _=_; rw[lV.out,PO.out]; rfl
            rcases vh:fe log tx with _ | k2
            · rw[vh,rf] at uW;rw[sZ vh] at Hp;clear vh lV PO;rcases J9 with rfl | rfl | rfl
              all_goals
               go_wp2_with fail;refine uW.out.mono ?_;rintro e w6 ⟨rfl,wP⟩;replace wP:=wP.symm;subst wP;go_wp2_with fail;go_ret;exact⟨aj (by rw[Hp.out]; rfl),jy⟩
            · obtain⟨gY,vK⟩:=od vh;rw[vh,re] at uW;rw[vK] at Hp;have lP:=m5.1;obtain⟨lb,lo,e⟩:=fT m5 (by omega)
              subst e;have hcy:=(vf m5 k2 gY).2;have Xn:(k2:Int)<(ln:Int):=by omega
              have Xo:¬(k2:Int)<0:=by omega
              generalize log[k2].2=yy at *;clear vh vK lV PO;rcases J9 with rfl | rfl | rfl <;> cases yy
              all_goals
               go_wp2_with fail;refine uW.out.mono ?_;rintro e w6 ⟨rfl,wP⟩;replace wP:=wP.symm;subst wP;go_wp2_with fail;go_ret;exact⟨aj (by rw[Hp.out]; rfl),jy⟩
   · have oT:decide (q<tx)=false:=decide_eq_false hq;have CN:decide (tx≤q)=true:=decide_eq_true (by omega)
     rw[oT] at mi;clear oT;have HF:Hid (eF n ak next log (some q) (tx,ops,st,yes)=false):=by show _=_; rw[HR.out,mi.out]; simp
     go_enter Tryz.func67,Tryz.ntmps67;go_wp2_with fail;rw[HW.out];refine last.ai W.heap.size (by kernel_rfl) (by kernel_rfl) ?_
     repeat(go_big_quiet_step ((first | (go_at_call 100; with_reducible exact cE _) | (go_at_call 32; with_reducible exact ki _) | (go_at_call 32; with_reducible exact kj _))))
     refine wpQuiet_nil ?_;intro wq a8;obtain⟨xq,a8⟩:=a8;subst a8;have cV:Below W.heap.size W xq.w:=xq.2;generalize xq.w=w4 at *;clear o0 o1 o2 o3 p0 p1 p2 ki kj cE a_ pe;go_wp2_with fail;go_ret;exact⟨aj HF.out.symm,hB.trans (cV.mono hB.size)⟩
end cos
end Go.Proofs.YtmibabclefgljaaGreat
