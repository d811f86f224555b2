/- CoU CoA OrdCopy -/
import Derived.Test.YtmibabclefgljaaGreatShaw
import Derived.Handy
import Derived.Test.YtmibabclefgljaaGreatShau
set_option linter.unusedVariables false
set_option linter.unusedSimpArgs false
set_option maxRecDepth 100000
set_option maxHeartbeats 4000000
namespace Go.Proofs.YtmibabclefgljaaGreat
namespace cos
open Go Go.RowKit base av aN lay kN
theorem xN{n ak next:Int}{log:List Ch}{jobs:List Jb}{k:Nat}{p:Option Int}(hk:k<jobs.length):eC n ak next log p (jobs.drop k)=(eF n ak next log p jobs[k] && eC n ak next log (some jobs[k].1) (jobs.drop (k+1))):=by
 rw[List.drop_eq_getElem_cons hk]; rfl
theorem oq{jobs:List Jb}{k:Nat}(hk:k<jobs.length):iu jobs (k+1)=some jobs[k].1:=by
 unfold iu; simp[List.getElem?_eq_getElem hk]
theorem Gu{hi:Int}{log:List Ch}(h:∀j (hj:j<log.length),(1000≤log[j].1∧log[j].1≤hi)∧fe log log[j].1=some j):cU hi log=true:=by
 unfold cU;rw[Bool.and_eq_true,List.all_eq_true,decide_eq_true_iff];refine⟨fun c hc=>?_,nodup_iff.2 fun i hi=>(h i hi).2⟩
 obtain⟨i,hi,rfl⟩:=List.getElem_of_mem hc;exact decide_eq_true (h i hi).1
theorem Ka{hi:Int}{log:List Ch}{k:Nat}(hk:k<log.length)(h:¬((1000≤log[k].1∧log[k].1≤hi)∧fe log log[k].1=some k)):cU hi log=false:=by
 cases e:cU hi log
 · rfl
 · exfalso;unfold cU at e;rw[Bool.and_eq_true,List.all_eq_true,decide_eq_true_iff] at e;exact h ⟨of_decide_eq_true (e.1 _ (List.getElem_mem hk)),nodup_iff.1 e.2 k hk⟩
theorem idx_eq{r:Option Nat}{k:Nat}:idx r=(k:Int)↔r=some k:=by
  cases r with
  | none=>rw[rf]; constructor <;> intro h; omega; cases h
  | some j=>rw[re]; constructor
            · intro h; congr 1; omega
            · intro h; cases h; rfl
def rC(c:Co):Prop:=c.2.2.2.1.length≤1099511627776∧c.2.2.2.2.1.length≤1099511627776∧∀j∈c.2.2.2.1,j.2.1.length≤1099511627776∧(∀p∈j.2.1,p.2.1.size≤1099511627776)
theorem qy(ja:Option Addr)(jn jc:Nat)(la:Option Addr)(ln lc:Nat)(c:Co)(w:World)(h:kQ w ja jn jc la ln lc c)(hf:rC c):
 Calls Tryz.prog 27 #[Gs c.1 c.2.1 c.2.2.1 c.2.2.2.2.2 ja jn jc la ln lc] w fun e w'=>e=.returned (.bool (be c))∧Below w.heap.size w w':=by
 obtain⟨n,ak,next,jobs,log,sure⟩:=c;simp only[] at *;have eL:jobs.length=jn:=h.jobs.1;have lP:log.length=ln:=h.log.1;have za:jobs.length≤1099511627776:=hf.1;have hlf2:log.length≤1099511627776:=hf.2.1;have Q_:Hid (∀j∈jobs,j.2.1.length≤1099511627776∧(∀p∈j.2.1,p.2.1.size≤1099511627776)):=hf.2.2;obtain⟨W,hW⟩:∃W,w.alloc (kr n ak next sure ja jn jc la ln lc)=W:=⟨_,rfl⟩;have hB:Below w.heap.size w W:=by rw[←hW]; exact aS _ _
 have bt:fh w.heap.size n ak next sure ja jn jc la ln lc W:=by rw[←hW]; exact eo _ _ _ _ _ _ _ _ _ _ _
 have HS:=Hid.mk' (h.below hB);have vi:=Hid.mk' bt;obtain⟨x0,x1,x2,x3,x4,x5⟩:=bt.cells;have HW:=Hid.mk' hW;have sR:=Hid.mk' (jE n 1 8 W);have Cd:=Hid.mk' (jE ak 1 900 W);have PQ:=Hid.mk' (jE next 0 999 W);have Ta:=Hid.mk' (jE sure 0 (ln:Int) W);have HR:Hid (be (n,ak,next,jobs,log,sure)=(decide (1≤n∧n≤8) && decide (1≤ak∧ak≤900) && decide (0≤next∧next≤999) && decide (ln≤1000) && decide (0≤sure∧sure≤(ln:Int)) && cU (ak * 1000+next - 1) log && eC n ak next log none jobs)):=by
  show _=_;rw[←lP]; rfl
 clear h hf hW bt;rw[←HW.out] at x0 x1 x2 x3 x4 x5;cases Gv:decide (1≤n∧n≤8)
 · rw[Gv] at HR sR;clear Gv;have HF:Hid (be (n,ak,next,jobs,log,sure)=false):=by show _=_; rw[HR.out]; simp
   go_enter Tryz.func27,Tryz.ntmps27;go_wp2_with fail;rw[HW.out];refine sR.out.mono ?_;rintro e w1 ⟨rfl,bx⟩;replace bx:=bx.symm;subst bx;rw[HW.out] at x0 x1 x2 x3 x4 x5;go_wp2_with fail;go_ret;exact⟨aj HF.out.symm,hB⟩
 · have Gw:=of_decide_eq_true Gv;rw[Gv] at HR sR;clear Gv;cases Gx:decide (1≤ak∧ak≤900)
   · rw[Gx] at HR Cd;clear Gx;have HF:Hid (be (n,ak,next,jobs,log,sure)=false):=by show _=_; rw[HR.out]; simp
     go_enter Tryz.func27,Tryz.ntmps27;go_wp2_with fail;rw[HW.out];refine sR.out.mono ?_;rintro e w1 ⟨rfl,bx⟩;replace bx:=bx.symm;subst bx;rw[HW.out] at x0 x1 x2 x3 x4 x5;go_wp2_with fail;refine Cd.out.mono ?_;rintro e w1 ⟨rfl,bx⟩;replace bx:=bx.symm;subst bx;go_wp2_with fail;go_ret;exact⟨aj HF.out.symm,hB⟩
   · have zK:=of_decide_eq_true Gx;rw[Gx] at HR Cd;clear Gx;cases lU:decide (0≤next∧next≤999)
     · rw[lU] at HR PQ;clear lU;have HF:Hid (be (n,ak,next,jobs,log,sure)=false):=by show _=_; rw[HR.out]; simp
       go_enter Tryz.func27,Tryz.ntmps27;go_wp2_with fail;rw[HW.out];refine sR.out.mono ?_;rintro e w1 ⟨rfl,bx⟩;replace bx:=bx.symm;subst bx;rw[HW.out] at x0 x1 x2 x3 x4 x5;go_wp2_with fail;refine Cd.out.mono ?_;rintro e w1 ⟨rfl,bx⟩;replace bx:=bx.symm;subst bx;go_wp2_with fail;refine PQ.out.mono ?_;rintro e w1 ⟨rfl,bx⟩;replace bx:=bx.symm;subst bx;go_wp2_with fail;go_ret;exact⟨aj HF.out.symm,hB⟩
     · have oK:=of_decide_eq_true lU;rw[lU] at HR PQ;clear lU;cases DO:decide (ln≤1000)
       · have U5:(1000:Int)<(ln:Int):=by have:=of_decide_eq_false DO; omega
         rw[DO] at HR;clear DO;have HF:Hid (be (n,ak,next,jobs,log,sure)=false):=by show _=_; rw[HR.out]; simp
         go_enter Tryz.func27,Tryz.ntmps27;go_wp2_with fail;rw[HW.out];refine sR.out.mono ?_;rintro e w1 ⟨rfl,bx⟩;replace bx:=bx.symm;subst bx;rw[HW.out] at x0 x1 x2 x3 x4 x5;go_wp2_with fail;refine Cd.out.mono ?_;rintro e w1 ⟨rfl,bx⟩;replace bx:=bx.symm;subst bx;go_wp2_with fail;refine PQ.out.mono ?_;rintro e w1 ⟨rfl,bx⟩;replace bx:=bx.symm;subst bx;go_wp2_with fail;go_ret;exact⟨aj HF.out.symm,hB⟩
       · have U5:¬(1000:Int)<(ln:Int):=by have:=of_decide_eq_true DO; omega
         rw[DO] at HR;clear DO;cases jJ:decide (0≤sure∧sure≤(ln:Int))
         · rw[jJ] at HR Ta;clear jJ;have HF:Hid (be (n,ak,next,jobs,log,sure)=false):=by show _=_; rw[HR.out]; simp
           go_enter Tryz.func27,Tryz.ntmps27;go_wp2_with fail;rw[HW.out];refine sR.out.mono ?_;rintro e w1 ⟨rfl,bx⟩;replace bx:=bx.symm;subst bx;rw[HW.out] at x0 x1 x2 x3 x4 x5;go_wp2_with fail;refine Cd.out.mono ?_;rintro e w1 ⟨rfl,bx⟩;replace bx:=bx.symm;subst bx;go_wp2_with fail;refine PQ.out.mono ?_;rintro e w1 ⟨rfl,bx⟩;replace bx:=bx.symm;subst bx;go_wp2_with fail;refine Ta.out.mono ?_;rintro e w1 ⟨rfl,bx⟩;replace bx:=bx.symm;subst bx;go_wp2_with fail;go_ret;exact⟨aj HF.out.symm,hB⟩
         · rw[jJ] at HR Ta;clear jJ;simp only[Bool.and_true,Bool.true_and] at HR;go_enter Tryz.func27,Tryz.ntmps27;go_wp2_with fail;rw[HW.out];refine sR.out.mono ?_;rintro e w1 ⟨rfl,bx⟩;replace bx:=bx.symm;subst bx;rw[HW.out] at x0 x1 x2 x3 x4 x5;go_wp2_with fail;refine Cd.out.mono ?_;rintro e w1 ⟨rfl,bx⟩;replace bx:=bx.symm;subst bx;go_wp2_with fail;refine PQ.out.mono ?_;rintro e w1 ⟨rfl,bx⟩;replace bx:=bx.symm;subst bx;go_wp2_with fail;refine Ta.out.mono ?_;rintro e w1 ⟨rfl,bx⟩;replace bx:=bx.symm;subst bx;clear x0 x1 x2 x3 x4 x5 sR Cd PQ Ta;go_wp2_with fail;have w1:IntKind.i64.wrap (ak * 1000)=ak * 1000:=by rw[IntKind.wrap_i64]; omega
           have w2:IntKind.i64.wrap (ak * 1000+next)=ak * 1000+next:=by rw[IntKind.wrap_i64]; omega
           have w3:IntKind.i64.wrap (ak * 1000+next - 1)=ak * 1000+next - 1:=by rw[IntKind.wrap_i64]; omega
           go_loopw [3] (fun i wr=>∃k:Nat,k≤ln∧i=.int .i64 (k:Int)∧Below W.heap.size W wr∧∀j (hj:j<k) (eL:j<log.length),(1000≤log[j].1∧log[j].1≤ak * 1000+next - 1)∧fe log log[j].1=some j) (fun i _=>ln - (intOf i).toNat)
           case atStart=>exact⟨0,Nat.zero_le _,rfl,Below.refl _ _,fun j hj=>absurd hj (by omega)⟩
           case round=>
            obtain⟨k,hk,rfl,mD,iD⟩:=hrel;have gv:=Hid.mk' iD;clear iD;have MD:=HS.out.below mD;obtain⟨x0,x1,x2,x3,x4,x5⟩:=(vi.out.below mD).cells;have tV:=hB.trans (mD.mono hB.size);by_cases a6:k<ln
            · have ck:k<log.length:=by omega
              obtain⟨b,off,e⟩:=fT MD.log (by omega)
              subst e;have fL:(k:Int)<(ln:Int):=by omega
              have p7:nc q_ wr (some ⟨b,off,none⟩) ln log:=MD.log;have fl:=(vf p7 k ck).1;have o0:=last.On.cell (B:=wr.heap.size) x0 (World.block_lt_of_cell? _ _ x0);have o1:=last.On.cell (B:=wr.heap.size) x1 (World.block_lt_of_cell? _ _ x1);have o2:=last.On.cell (B:=wr.heap.size) x2 (World.block_lt_of_cell? _ _ x2);have o3:=last.On.cell (B:=wr.heap.size) x3 (World.block_lt_of_cell? _ _ x3);have o4:=last.On.cell (B:=wr.heap.size) x4 (World.block_lt_of_cell? _ _ x4);have o5:=last.On.cell (B:=wr.heap.size) x5 (World.block_lt_of_cell? _ _ x5);have ok:=last.On.cell (B:=wr.heap.size) fl (World.block_lt_of_cell? _ _ fl);have qf:=last.On.gV wr.heap.size wr;have gZ:∀x:last.On wr.heap.size wr,Calls Tryz.prog 32 #[.int .i64 log[k].1,.int .i64 1000,.int .i64 (ak * 1000+next - 1)] x.w fun e w'=>e=.returned (.bool (decide (1000≤log[k].1∧log[k].1≤ak * 1000+next - 1)))∧∃y:last.On wr.heap.size wr,w'=y.w:=fun x=>last.Calls.on x (Nat.le_refl _) ((jE log[k].1 1000 (ak * 1000+next - 1) x.w).mono fun e w' ⟨he,hw⟩=>⟨he,by rw[hw]; exact Below.refl _ _⟩)
              have vh:∀x:last.On wr.heap.size wr,Calls Tryz.prog 66 #[.agg #[.int .i64 n,.int .i64 ak,.int .i64 next,.slice ja jn jc,.slice (some ⟨b,off,none⟩) ln lc,.int .i64 sure],.int .i64 log[k].1] x.w fun e w'=>e=.returned (.int .i64 (idx (fe log log[k].1)))∧∃y:last.On wr.heap.size wr,w'=y.w:=fun x=>last.Calls.on x (Nat.le_refl _) ((og n ak next sure ja jn jc (some ⟨b,off,none⟩) ln lc log log[k].1 x.w (p7.below x.2)).mono fun e w' ⟨he,hw⟩=>⟨he,by rw[hw]; exact aS _ _⟩)
              have Cg:=Hid.mk' (fun hx=>Ka (hi:=ak * 1000+next - 1) ck hx)
              have U6:Hid ((1000≤log[k].1∧log[k].1≤ak * 1000+next - 1)→fe log log[k].1=some k→∀j (hj:j<k+1) (eL:j<log.length),(1000≤log[j].1∧log[j].1≤ak * 1000+next - 1)∧fe log log[j].1=some j):=fun h1 h2 j hj eL=>by
               rcases Nat.lt_succ_iff_lt_or_eq.1 hj with e | e
               · exact gv.out j e eL
               · subst e; exact⟨h1,h2⟩
              have Lk:Hid (idx (fe log log[k].1)=(k:Int)↔fe log log[k].1=some k):=idx_eq;clear p7 MD gv;generalize idx (fe log log[k].1)=Z at *;generalize log[k].1=PL at *;cases hg:decide (1000≤PL∧PL≤ak * 1000+next - 1)
              · have oQ:=Hid.mk' (Cg.out (fun hx=>of_decide_eq_false hg hx.1))
                rw[hg] at gZ;clear hg;have HF:Hid (be (n,ak,next,jobs,log,sure)=false):=by show _=_; rw[HR.out,oQ.out]; rfl
                clear Cg U6 oQ;go_wp2_with fail;refine last.ai wr.heap.size (by kernel_rfl) (by kernel_rfl) ?_
                repeat(go_big_quiet_step ((first | (go_at_call 66; with_reducible exact vh _) | (go_at_call 32; with_reducible exact gZ _))))
                refine wpQuiet_nil ?_;intro wq a8;obtain⟨xq,a8⟩:=a8;subst a8;have cV:Below wr.heap.size wr xq.w:=xq.2;generalize xq.w=w7 at *;clear o0 o1 o2 o3 o4 o5 ok qf gZ vh x0 x1 x2 x3 x4 x5 fl;go_wp2_with fail;go_ret;exact⟨aj HF.out.symm,tV.trans (cV.mono tV.size)⟩
              · have lC:=of_decide_eq_true hg;rw[hg] at gZ;clear hg;by_cases hz:Z=(k:Int)
                · have HN2:=Hid.mk' (U6.out lC (Lk.out.1 hz));rw[hz] at vh;clear Cg U6 Lk hz;go_wp2_with fail;refine last.ai wr.heap.size (by kernel_rfl) (by kernel_rfl) ?_
                  repeat(go_big_quiet_step ((first | (go_at_call 66; with_reducible exact vh _) | (go_at_call 32; with_reducible exact gZ _))))
                  refine wpQuiet_nil ?_;intro wq a8;obtain⟨xq,a8⟩:=a8;subst a8;have cV:Below wr.heap.size wr xq.w:=xq.2;generalize xq.w=w7 at *;clear o0 o1 o2 o3 o4 o5 ok qf gZ vh x0 x1 x2 x3 x4 x5 fl;have pG:=mD.trans (cV.mono mD.size);go_wp2_with fail;go_roundw
                  case rel=>exact⟨k+1,by omega,by go_num,pG,HN2.out⟩
                  case measure=>simp[intOf]; omega
                · have oQ:=Hid.mk' (Cg.out (fun hx=>hz (Lk.out.2 hx.2)))
                  have ZN:(Z==(k:Int))=false:=beq_eq_false_iff_ne.2 hz;have HF:Hid (be (n,ak,next,jobs,log,sure)=false):=by show _=_; rw[HR.out,oQ.out]; rfl
                  clear Cg U6 oQ;go_wp2_with fail;refine last.ai wr.heap.size (by kernel_rfl) (by kernel_rfl) ?_
                  repeat(go_big_quiet_step ((first | (go_at_call 66; with_reducible exact vh _) | (go_at_call 32; with_reducible exact gZ _))))
                  refine wpQuiet_nil ?_;intro wq a8;obtain⟨xq,a8⟩:=a8;subst a8;have cV:Below wr.heap.size wr xq.w:=xq.2;generalize xq.w=w7 at *;clear o0 o1 o2 o3 o4 o5 ok qf gZ vh x0 x1 x2 x3 x4 x5 fl;go_wp2_with fail;go_ret;exact⟨aj HF.out.symm,tV.trans (cV.mono tV.size)⟩
            · have CF:¬(k:Int)<(ln:Int):=by omega
              have HL:Hid (cU (ak * 1000+next - 1) log=true):=Gu fun j hj=>gv.out j (by omega) hj
              clear gv x1 x2 x5 w1 w2 w3;rw[HL.out,Bool.true_and] at HR;clear HL;go_wp2_with fail;clear x0 x3 x4 CF hk;have Xp:=tV;have Tb:=mD;clear tV MD;go_loopw [4] (fun i w2=>∃k:Nat,k≤jn∧i=.int .i64 (k:Int)∧Below W.heap.size W w2∧eC n ak next log none jobs=eC n ak next log (iu jobs k) (jobs.drop k)) (fun i _=>jn - (intOf i).toNat)
              case atStart=>exact⟨0,Nat.zero_le _,rfl,Tb,rfl⟩
              case round=>
               clear mD Tb Xp;obtain⟨k,hk,rfl,mD,Bw⟩:=hrel;have MD:=HS.out.below mD;obtain⟨x0,x1,x2,x3,x4,x5⟩:=(vi.out.below mD).cells;have tV:=hB.trans (mD.mono hB.size);by_cases a6:k<jn
               · have ck:k<jobs.length:=by omega
                 obtain⟨jb,ep,e⟩:=fT MD.jobs (by omega)
                 subst e;have fL:(k:Int)<(jn:Int):=by omega
                 rw[xN ck] at Bw;have Gy:nc dU wr (some ⟨jb,ep,none⟩) jn jobs:=MD.jobs;have RU:nc q_ wr la ln log:=MD.log;obtain⟨a0,a2,⟨oa,ol,oc,a1,ve,Hn⟩,ya,yl,yc,a3,Gz,zk⟩:=qe Gy k ck;have Ll:=Q_.out _ (List.getElem_mem ck);have oL:ol≤1099511627776:=by have h1:=ve.1; have h2:=Ll.1; omega
                 have HJ:Hid (Calls Tryz.prog 67 #[.agg #[.int .i64 n,.int .i64 ak,.int .i64 next,.slice (some ⟨jb,ep,none⟩) jn jc,.slice la ln lc,.int .i64 sure],.int .i64 (k:Int)] wr fun e w'=>e=.returned (.bool (eF n ak next log (iu jobs k) jobs[k]))∧Below wr.heap.size wr w'):=by
                  cases k with
                  | zero=>
                   simp only[Nat.zero_mul,Nat.add_zero] at a0 a1 a2 a3;exact J4 n ak next sure jb ep jn jc la ln lc jobs[0].1 jobs[0].2.2.1 oa ol oc ya yl yc jobs[0].2.1 jobs[0].2.2.2 log wr Gw zK oK a6 (by omega) oL Ll.2 a0 a1 a2 a3 ve Gz RU
                  | succ k'=>
                   have b0:=(qe Gy k' (by omega)).1
                   rw[oq (jobs:=jobs) (k:=k') (by omega),show((k'+1:Nat):Int)=(k':Int)+1 from by omega]
                   exact J_ n ak next sure jb ep jn jc la ln lc jobs[k'+1].1 jobs[k'+1].2.2.1 oa ol oc ya yl yc jobs[k'+1].2.1 jobs[k'+1].2.2.2 log k' _ wr Gw zK oK a6 (by omega) oL Ll.2 a0 a1 a2 a3 b0 ve Gz RU
                 have MC:Hid (iu jobs (k+1)=some jobs[k].1):=oq ck;have m_:=Hid.mk' Bw;clear Bw Gy RU MD a0 a1 a2 a3 ve Gz Ll oL Hn zk;generalize eF n ak next log (iu jobs k) jobs[k]=Q at *;generalize jobs[k].1=PL at *;cases Q
                 · have HF:Hid (be (n,ak,next,jobs,log,sure)=false):=by show _=_; rw[HR.out,m_.out]; simp
                   clear m_ MC;go_wp2_with fail;refine HJ.out.mono ?_;rintro e w6 ⟨rfl,mj⟩;have iE:=tV.trans (mj.mono tV.size);clear x0 x1 x2 x3 x4 x5 HJ;go_wp2_with fail;go_ret;exact⟨aj HF.out.symm,iE⟩
                 · have HY2:Hid (eC n ak next log none jobs=eC n ak next log (iu jobs (k+1)) (jobs.drop (k+1))):=by show _=_; rw[m_.out,MC.out]; simp
                   clear m_ MC;go_wp2_with fail;refine HJ.out.mono ?_;rintro e w6 ⟨rfl,mj⟩;have cP:=mD.trans (mj.mono mD.size);clear x0 x1 x2 x3 x4 x5 HJ;go_wp2_with fail;go_roundw
                   case rel=>exact⟨k+1,by omega,by go_num,cP,HY2.out⟩
                   case measure=>simp[intOf]; omega
               · have CF:¬(k:Int)<(jn:Int):=by omega
                 have HF:Hid (be (n,ak,next,jobs,log,sure)=true):=by show _=_; rw[HR.out,Bw,List.drop_of_length_le (by omega)]; cases iu jobs k <;> rfl
                 clear Bw;go_wp2_with fail;go_ret;exact⟨aj HF.out.symm,tV⟩
end cos
namespace cos
open Go Go.RowKit base av aN lay kN
def DP(n:Int):Co:=if 1≤n∧n≤8 then(n,1,0,[],[],0) else(0,0,0,[],[],0)
theorem wQ(n:Int)(w:World):
 Calls Tryz.prog 33 #[.int .i64 n] w fun e w'=>e=.returned (Gs (DP n).1 (DP n).2.1 (DP n).2.2.1 (DP n).2.2.2.2.2 none 0 0 none 0 0)∧Below w.heap.size w w':=by
 have gZ:=jE n 1 8 (w.alloc (kr 0 0 0 0 none 0 0 none 0 0));by_cases hn:1≤n∧n≤8
 · have HR:Hid (DP n=(n,1,0,[],[],0)):=if_pos hn;rw[decide_eq_true hn] at gZ;have HI:=Hid.mk' gZ;clear gZ;go_enter Tryz.func33,Tryz.ntmps33;go_wp2_with fail;refine HI.out.mono ?_;rintro e w1 ⟨rfl,bx⟩;subst bx;go_wp2_with fail;go_returns
   exact⟨by rw[HR.out],aS _ _⟩
 · have HR:Hid (DP n=(0,0,0,[],[],0)):=if_neg hn;rw[decide_eq_false hn] at gZ;have HI:=Hid.mk' gZ;clear gZ;go_enter Tryz.func33,Tryz.ntmps33;go_wp2_with fail;refine HI.out.mono ?_;rintro e w1 ⟨rfl,bx⟩;subst bx;go_wp2_with fail;go_returns
   exact⟨by rw[HR.out],aS _ _⟩
end cos
namespace kN
open Go Go.RowKit base av aN
theorem jZ(w:World)(g c:Nat)(ty:TypeId):(Builtin.append_ #[73,73] ty #[.slice (some ⟨g,0,none⟩) 0 0,.slice none 0 c]).run Tryz.prog w=.ok (.slice (some ⟨g,0,none⟩) 0 0) w:=by kernel_rfl
theorem fY(a:Option Addr)(len cap:Nat)(l:List Od)(w:World)(h:dD w a len l)(iO:len≤1099511627776):
 Calls Tryz.prog 95 #[.slice a len cap] w fun e w'=>∃g' LL,e=.returned (.slice (some ⟨g',0,none⟩) len LL)∧bR w' w.heap.size g' len LL l∧Below w.heap.size w w':=by
 obtain⟨i0,hi,dm,dk,cA⟩:=info_parts sx;have hl:=h.1;have eW:=h.2.2.1;have bg:Below w.heap.size w (w.alloc (.cells #[] 121)):=(Below.refl _ _).alloc (Nat.le_refl _) _;have qG:=lI w w.heap.size (Nat.le_refl _);cases a with
 | none=>
  have h0:len=0:=by
   rcases Nat.eq_zero_or_pos len with e | e
   · exact e
   · obtain⟨b,off,ha,_⟩:=h.2.2.2 e; cases ha
  subst h0;have e1:l=[]:=List.eq_nil_of_length_eq_zero hl;subst e1;have RM:=jZ;go_enter Tryz.func95,Tryz.ntmps95;go_wp2_with fail;go_ret;exact⟨_,_,rfl,qG,bg⟩
 | some ad=>
  have mU:Hid (∀j u,(aM l)[j]? =some u→(w.alloc (.cells #[] 121)).cell? (ad.add j)=some u):=by
   rcases Nat.eq_zero_or_pos len with e | e
   · intro j u hj;have e1:l=[]:=List.eq_nil_of_length_eq_zero (by omega)
     rw[e1] at hj; simp[aM] at hj
   · obtain⟨b,off,ha,_⟩:=h.2.2.2 e;cases ha;exact pS (h.below bg).cells
  have fD:0+len≤maxLen:=by unfold maxLen; omega
  have jX:(0+len) * 40≤140737488355328:=by omega
  have jh:(aM l).length=len * 3:=by rw[cH]; omega
  go_enter Tryz.func95,Tryz.ntmps95;go_wp2_with (at_builtin; refine wpList_append_own _ rfl (.tmp 3) (.tmp 4) 73 rfl w.heap.size 121 i0 (.agg #[.int .i64 0,.string ⟨#[]⟩,.string ⟨#[]⟩]) 3 40 Tryz.underlying73 hi dm dk cA rfl (by decide) _ _ _ rfl qG.2.2 ad len cap (aM l) rfl jh mU.out (bz l) fD jX bg.size ?_)
  intro v1 w1 aB az cN;have bY:¬v1=.slice none 0 0:=by simpa using cN
  obtain⟨g1,c1,oI,gi⟩:=ui hl eW bY (by have h9:=aB; rwa[show aM []++aM l=aM l from rfl] at h9)
  subst oI;have jF:(w.alloc (.cells #[] 121)).grownBy w1 (some w.heap.size):=az;have eU:=bg.grown jF bg.size (fun k e=>by cases e; exact Nat.le_refl _)
  clear aB az cN bY jF;go_wp2_with fail;go_ret;exact⟨g1,c1,rfl,gi,eU⟩
end kN
end Go.Proofs.YtmibabclefgljaaGreat
