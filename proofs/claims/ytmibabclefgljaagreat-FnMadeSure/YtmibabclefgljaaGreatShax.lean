/- CoU CoA OrdCopy -/
import Derived.Test.YtmibabclefgljaaGreatShaw
import Derived.Handy
import Derived.Test.YtmibabclefgljaaGreatShau
set_option linter.unusedVariables false
set_option linter.unusedSimpArgs false
set_option maxRecDepth 100000
set_option maxHeartbeats 4000000
namespace Go.Proofs.YtmibabclefgljaaGreat
namespace cos
open Go Go.RowKit base aE aX lay lh
theorem ye{n av next:Int}{log:List Ch}{jobs:List Jb}{k:Nat}{p:Option Int}(hk:k<jobs.length):eQ n av next log p (jobs.drop k)=(eT n av next log p jobs[k] && eQ n av next log (some jobs[k].1) (jobs.drop (k+1))):=by
 rw[List.drop_eq_getElem_cons hk]; rfl
theorem oL{jobs:List Jb}{k:Nat}(hk:k<jobs.length):iM jobs (k+1)=some jobs[k].1:=by
 unfold iM; simp[List.getElem?_eq_getElem hk]
theorem GK{hi:Int}{log:List Ch}(h:∀j (hj:j<log.length),(1000≤log[j].1∧log[j].1≤hi)∧fx log log[j].1=some j):di hi log=true:=by
 unfold di;rw[Bool.and_eq_true,List.all_eq_true,decide_eq_true_iff];refine⟨fun c hc=>?_,nodup_iff.2 fun i hi=>(h i hi).2⟩
 obtain⟨i,hi,rfl⟩:=List.getElem_of_mem hc;exact decide_eq_true (h i hi).1
theorem Km{hi:Int}{log:List Ch}{k:Nat}(hk:k<log.length)(h:¬((1000≤log[k].1∧log[k].1≤hi)∧fx log log[k].1=some k)):di hi log=false:=by
 cases e:di hi log
 · rfl
 · exfalso;unfold di at e;rw[Bool.and_eq_true,List.all_eq_true,decide_eq_true_iff] at e;exact h ⟨of_decide_eq_true (e.1 _ (List.getElem_mem hk)),nodup_iff.1 e.2 k hk⟩
theorem idx_eq{r:Option Nat}{k:Nat}:idx r=(k:Int)↔r=some k:=by
  cases r with
  | none=>rw[rI]; constructor <;> intro h; omega; cases h
  | some j=>rw[rH]; constructor
              · intro h; congr 1; omega
              · intro h; cases h; rfl
def rW(c:Co):Prop:=c.2.2.2.1.length≤1099511627776∧c.2.2.2.2.1.length≤1099511627776∧∀j∈c.2.2.2.1,j.2.1.length≤1099511627776∧(∀p∈j.2.1,p.2.1.size≤1099511627776)
theorem qR(ja:Option Addr)(jn jc:Nat)(la:Option Addr)(ln lc:Nat)(c:Co)(w:World)(h:ll w ja jn jc la ln lc c)(hf:rW c):
 Calls Tryz.prog 27 #[GI c.1 c.2.1 c.2.2.1 c.2.2.2.2.2 ja jn jc la ln lc] w fun e w'=>e=.returned (.bool (bt c))∧Below w.heap.size w w':=by
 obtain⟨n,av,next,jobs,log,sure⟩:=c;simp only[] at *;have e7:jobs.length=jn:=h.jobs.1;have mb:log.length=ln:=h.log.1;have zw:jobs.length≤1099511627776:=hf.1;have hlf2:log.length≤1099511627776:=hf.2.1;have Rl:Hid (∀j∈jobs,j.2.1.length≤1099511627776∧(∀p∈j.2.1,p.2.1.size≤1099511627776)):=hf.2.2;obtain⟨W,hW⟩:∃W,w.alloc (kM n av next sure ja jn jc la ln lc)=W:=⟨_,rfl⟩;have hB:Below w.heap.size w W:=by rw[←hW]; exact a8 _ _
 have bI:fB w.heap.size n av next sure ja jn jc la ln lc W:=by rw[←hW]; exact eI _ _ _ _ _ _ _ _ _ _ _
 have HS:=Hid.mk' (h.below hB);have vI:=Hid.mk' bI;obtain⟨x0,x1,x2,x3,x4,x5⟩:=bI.cells;have HW:=Hid.mk' hW;have ti:=Hid.mk' (jV n 1 8 W);have Cu:=Hid.mk' (jV av 1 900 W);have PZ:=Hid.mk' (jV next 0 999 W);have Tk:=Hid.mk' (jV sure 0 (ln:Int) W);have HR:Hid (bt (n,av,next,jobs,log,sure)=(decide (1≤n∧n≤8) && decide (1≤av∧av≤900) && decide (0≤next∧next≤999) && decide (ln≤1000) && decide (0≤sure∧sure≤(ln:Int)) && di (av * 1000+next - 1) log && eQ n av next log none jobs)):=by
  show _=_;rw[←mb]; rfl
 clear h hf hW bI;rw[←HW.out] at x0 x1 x2 x3 x4 x5;cases GL:decide (1≤n∧n≤8)
 · rw[GL] at HR ti;clear GL;have HF:Hid (bt (n,av,next,jobs,log,sure)=false):=by show _=_; rw[HR.out]; simp
   aj Tryz.func27,Tryz.ntmps27;ab fail;rw[HW.out];refine ti.out.mono ?_;rintro e w1 ⟨rfl,bL⟩;replace bL:=bL.symm;subst bL;rw[HW.out] at x0 x1 x2 x3 x4 x5;ab fail;an;exact⟨au HF.out.symm,hB⟩
 · have GM:=of_decide_eq_true GL;rw[GL] at HR ti;clear GL;cases GN:decide (1≤av∧av≤900)
   · rw[GN] at HR Cu;clear GN;have HF:Hid (bt (n,av,next,jobs,log,sure)=false):=by show _=_; rw[HR.out]; simp
     aj Tryz.func27,Tryz.ntmps27;ab fail;rw[HW.out];refine ti.out.mono ?_;rintro e w1 ⟨rfl,bL⟩;replace bL:=bL.symm;subst bL;rw[HW.out] at x0 x1 x2 x3 x4 x5;ab fail;refine Cu.out.mono ?_;rintro e w1 ⟨rfl,bL⟩;replace bL:=bL.symm;subst bL;ab fail;an;exact⟨au HF.out.symm,hB⟩
   · have z_:=of_decide_eq_true GN;rw[GN] at HR Cu;clear GN;cases mi:decide (0≤next∧next≤999)
     · rw[mi] at HR PZ;clear mi;have HF:Hid (bt (n,av,next,jobs,log,sure)=false):=by show _=_; rw[HR.out]; simp
       aj Tryz.func27,Tryz.ntmps27;ab fail;rw[HW.out];refine ti.out.mono ?_;rintro e w1 ⟨rfl,bL⟩;replace bL:=bL.symm;subst bL;rw[HW.out] at x0 x1 x2 x3 x4 x5;ab fail;refine Cu.out.mono ?_;rintro e w1 ⟨rfl,bL⟩;replace bL:=bL.symm;subst bL;ab fail;refine PZ.out.mono ?_;rintro e w1 ⟨rfl,bL⟩;replace bL:=bL.symm;subst bL;ab fail;an;exact⟨au HF.out.symm,hB⟩
     · have pd:=of_decide_eq_true mi;rw[mi] at HR PZ;clear mi;cases D6:decide (ln≤1000)
       · have Vf:(1000:Int)<(ln:Int):=by have:=of_decide_eq_false D6; omega
         rw[D6] at HR;clear D6;have HF:Hid (bt (n,av,next,jobs,log,sure)=false):=by show _=_; rw[HR.out]; simp
         aj Tryz.func27,Tryz.ntmps27;ab fail;rw[HW.out];refine ti.out.mono ?_;rintro e w1 ⟨rfl,bL⟩;replace bL:=bL.symm;subst bL;rw[HW.out] at x0 x1 x2 x3 x4 x5;ab fail;refine Cu.out.mono ?_;rintro e w1 ⟨rfl,bL⟩;replace bL:=bL.symm;subst bL;ab fail;refine PZ.out.mono ?_;rintro e w1 ⟨rfl,bL⟩;replace bL:=bL.symm;subst bL;ab fail;an;exact⟨au HF.out.symm,hB⟩
       · have Vf:¬(1000:Int)<(ln:Int):=by have:=of_decide_eq_true D6; omega
         rw[D6] at HR;clear D6;cases j5:decide (0≤sure∧sure≤(ln:Int))
         · rw[j5] at HR Tk;clear j5;have HF:Hid (bt (n,av,next,jobs,log,sure)=false):=by show _=_; rw[HR.out]; simp
           aj Tryz.func27,Tryz.ntmps27;ab fail;rw[HW.out];refine ti.out.mono ?_;rintro e w1 ⟨rfl,bL⟩;replace bL:=bL.symm;subst bL;rw[HW.out] at x0 x1 x2 x3 x4 x5;ab fail;refine Cu.out.mono ?_;rintro e w1 ⟨rfl,bL⟩;replace bL:=bL.symm;subst bL;ab fail;refine PZ.out.mono ?_;rintro e w1 ⟨rfl,bL⟩;replace bL:=bL.symm;subst bL;ab fail;refine Tk.out.mono ?_;rintro e w1 ⟨rfl,bL⟩;replace bL:=bL.symm;subst bL;ab fail;an;exact⟨au HF.out.symm,hB⟩
         · rw[j5] at HR Tk;clear j5;simp only[Bool.and_true,Bool.true_and] at HR;aj Tryz.func27,Tryz.ntmps27;ab fail;rw[HW.out];refine ti.out.mono ?_;rintro e w1 ⟨rfl,bL⟩;replace bL:=bL.symm;subst bL;rw[HW.out] at x0 x1 x2 x3 x4 x5;ab fail;refine Cu.out.mono ?_;rintro e w1 ⟨rfl,bL⟩;replace bL:=bL.symm;subst bL;ab fail;refine PZ.out.mono ?_;rintro e w1 ⟨rfl,bL⟩;replace bL:=bL.symm;subst bL;ab fail;refine Tk.out.mono ?_;rintro e w1 ⟨rfl,bL⟩;replace bL:=bL.symm;subst bL;clear x0 x1 x2 x3 x4 x5 ti Cu PZ Tk;ab fail;have w1:IntKind.i64.wrap (av * 1000)=av * 1000:=by rw[IntKind.wrap_i64]; omega
           have w2:IntKind.i64.wrap (av * 1000+next)=av * 1000+next:=by rw[IntKind.wrap_i64]; omega
           have w3:IntKind.i64.wrap (av * 1000+next - 1)=av * 1000+next - 1:=by rw[IntKind.wrap_i64]; omega
           aN [3] (fun i wr=>∃k:Nat,k≤ln∧i=.int .i64 (k:Int)∧Below W.heap.size W wr∧∀j (hj:j<k) (e7:j<log.length),(1000≤log[j].1∧log[j].1≤av * 1000+next - 1)∧fx log log[j].1=some j) (fun i _=>ln - (intOf i).toNat)
           case atStart=>exact⟨0,Nat.zero_le _,rfl,Below.refl _ _,fun j hj=>absurd hj (by omega)⟩
           case round=>
            obtain⟨k,hk,rfl,mU,iT⟩:=hrel;have gP:=Hid.mk' iT;clear iT;have MP:=HS.out.below mU;obtain⟨x0,x1,x2,x3,x4,x5⟩:=(vI.out.below mU).cells;have uq:=hB.trans (mU.mono hB.size);by_cases bn:k<ln
            · have cJ:k<log.length:=by omega
              obtain⟨b,off,e⟩:=gq MP.log (by omega)
              subst e;have fZ:(k:Int)<(ln:Int):=by omega
              have qu:nE rG wr (some ⟨b,off,none⟩) ln log:=MP.log;have fF:=(vG qu k cJ).1;have o0:=last.On.cell (B:=wr.heap.size) x0 (World.block_lt_of_cell? _ _ x0);have o1:=last.On.cell (B:=wr.heap.size) x1 (World.block_lt_of_cell? _ _ x1);have o2:=last.On.cell (B:=wr.heap.size) x2 (World.block_lt_of_cell? _ _ x2);have o3:=last.On.cell (B:=wr.heap.size) x3 (World.block_lt_of_cell? _ _ x3);have o4:=last.On.cell (B:=wr.heap.size) x4 (World.block_lt_of_cell? _ _ x4);have o5:=last.On.cell (B:=wr.heap.size) x5 (World.block_lt_of_cell? _ _ x5);have ok:=last.On.cell (B:=wr.heap.size) fF (World.block_lt_of_cell? _ _ fF);have qC:=last.On.iq wr.heap.size wr;have iw:∀x:last.On wr.heap.size wr,Calls Tryz.prog 32 #[.int .i64 log[k].1,.int .i64 1000,.int .i64 (av * 1000+next - 1)] x.w fun e w'=>e=.returned (.bool (decide (1000≤log[k].1∧log[k].1≤av * 1000+next - 1)))∧∃y:last.On wr.heap.size wr,w'=y.w:=fun x=>last.Calls.on x (Nat.le_refl _) ((jV log[k].1 1000 (av * 1000+next - 1) x.w).mono fun e w' ⟨he,hw⟩=>⟨he,by rw[hw]; exact Below.refl _ _⟩)
              have vH:∀x:last.On wr.heap.size wr,Calls Tryz.prog 66 #[.agg #[.int .i64 n,.int .i64 av,.int .i64 next,.slice ja jn jc,.slice (some ⟨b,off,none⟩) ln lc,.int .i64 sure],.int .i64 log[k].1] x.w fun e w'=>e=.returned (.int .i64 (idx (fx log log[k].1)))∧∃y:last.On wr.heap.size wr,w'=y.w:=fun x=>last.Calls.on x (Nat.le_refl _) ((oJ n av next sure ja jn jc (some ⟨b,off,none⟩) ln lc log log[k].1 x.w (qu.below x.2)).mono fun e w' ⟨he,hw⟩=>⟨he,by rw[hw]; exact a8 _ _⟩)
              have Cx:=Hid.mk' (fun hx=>Km (hi:=av * 1000+next - 1) cJ hx)
              have Vg:Hid ((1000≤log[k].1∧log[k].1≤av * 1000+next - 1)→fx log log[k].1=some k→∀j (hj:j<k+1) (e7:j<log.length),(1000≤log[j].1∧log[j].1≤av * 1000+next - 1)∧fx log log[j].1=some j):=fun h1 h2 j hj e7=>by
               rcases Nat.lt_succ_iff_lt_or_eq.1 hj with e | e
               · exact gP.out j e e7
               · subst e; exact⟨h1,h2⟩
              have Lw:Hid (idx (fx log log[k].1)=(k:Int)↔fx log log[k].1=some k):=idx_eq;clear qu MP gP;generalize idx (fx log log[k].1)=Z at *;generalize log[k].1=PV at *;cases hg:decide (1000≤PV∧PV≤av * 1000+next - 1)
              · have pn:=Hid.mk' (Cx.out (fun hx=>of_decide_eq_false hg hx.1))
                rw[hg] at iw;clear hg;have HF:Hid (bt (n,av,next,jobs,log,sure)=false):=by show _=_; rw[HR.out,pn.out]; rfl
                clear Cx Vg pn;ab fail;refine last.ar wr.heap.size (by aa) (by aa) ?_
                repeat(ai ((first | (ao 66; ag exact vH _) | (ao 32; ag exact iw _))))
                refine wpQuiet_nil ?_;intro wq bq;obtain⟨xq,bq⟩:=bq;subst bq;have dj:Below wr.heap.size wr xq.w:=xq.2;generalize xq.w=w7 at *;clear o0 o1 o2 o3 o4 o5 ok qC iw vH x0 x1 x2 x3 x4 x5 fF;ab fail;an;exact⟨au HF.out.symm,uq.trans (dj.mono uq.size)⟩
              · have lU:=of_decide_eq_true hg;rw[hg] at iw;clear hg;by_cases hz:Z=(k:Int)
                · have HN2:=Hid.mk' (Vg.out lU (Lw.out.1 hz));rw[hz] at vH;clear Cx Vg Lw hz;ab fail;refine last.ar wr.heap.size (by aa) (by aa) ?_
                  repeat(ai ((first | (ao 66; ag exact vH _) | (ao 32; ag exact iw _))))
                  refine wpQuiet_nil ?_;intro wq bq;obtain⟨xq,bq⟩:=bq;subst bq;have dj:Below wr.heap.size wr xq.w:=xq.2;generalize xq.w=w7 at *;clear o0 o1 o2 o3 o4 o5 ok qC iw vH x0 x1 x2 x3 x4 x5 fF;have pZ:=mU.trans (dj.mono mU.size);ab fail;aA
                  case rel=>exact⟨k+1,by omega,by aF,pZ,HN2.out⟩
                  case measure=>simp[intOf]; omega
                · have pn:=Hid.mk' (Cx.out (fun hx=>hz (Lw.out.2 hx.2)))
                  have Z0:(Z==(k:Int))=false:=beq_eq_false_iff_ne.2 hz;have HF:Hid (bt (n,av,next,jobs,log,sure)=false):=by show _=_; rw[HR.out,pn.out]; rfl
                  clear Cx Vg pn;ab fail;refine last.ar wr.heap.size (by aa) (by aa) ?_
                  repeat(ai ((first | (ao 66; ag exact vH _) | (ao 32; ag exact iw _))))
                  refine wpQuiet_nil ?_;intro wq bq;obtain⟨xq,bq⟩:=bq;subst bq;have dj:Below wr.heap.size wr xq.w:=xq.2;generalize xq.w=w7 at *;clear o0 o1 o2 o3 o4 o5 ok qC iw vH x0 x1 x2 x3 x4 x5 fF;ab fail;an;exact⟨au HF.out.symm,uq.trans (dj.mono uq.size)⟩
            · have CU:¬(k:Int)<(ln:Int):=by omega
              have HL:Hid (di (av * 1000+next - 1) log=true):=GK fun j hj=>gP.out j (by omega) hj
              clear gP x1 x2 x5 w1 w2 w3;rw[HL.out,Bool.true_and] at HR;clear HL;ab fail;clear x0 x3 x4 CU hk;have XB:=uq;have Tl:=mU;clear uq MP;aN [4] (fun i w2=>∃k:Nat,k≤jn∧i=.int .i64 (k:Int)∧Below W.heap.size W w2∧eQ n av next log none jobs=eQ n av next log (iM jobs k) (jobs.drop k)) (fun i _=>jn - (intOf i).toNat)
              case atStart=>exact⟨0,Nat.zero_le _,rfl,Tl,rfl⟩
              case round=>
               clear mU Tl XB;obtain⟨k,hk,rfl,mU,BL⟩:=hrel;have MP:=HS.out.below mU;obtain⟨x0,x1,x2,x3,x4,x5⟩:=(vI.out.below mU).cells;have uq:=hB.trans (mU.mono hB.size);by_cases bn:k<jn
               · have cJ:k<jobs.length:=by omega
                 obtain⟨jb,eJ,e⟩:=gq MP.jobs (by omega)
                 subst e;have fZ:(k:Int)<(jn:Int):=by omega
                 rw[ye cJ] at BL;have GO:nE ek wr (some ⟨jb,eJ,none⟩) jn jobs:=MP.jobs;have R4:nE rG wr la ln log:=MP.log;obtain⟨a0,a2,⟨oa,ol,oc,a1,vF,Hy⟩,ya,yl,yc,a3,GP,zE⟩:=qB GO k cJ;have Lx:=Rl.out _ (List.getElem_mem cJ);have pf:ol≤1099511627776:=by have h1:=vF.1; have h2:=Lx.1; omega
                 have HJ:Hid (Calls Tryz.prog 67 #[.agg #[.int .i64 n,.int .i64 av,.int .i64 next,.slice (some ⟨jb,eJ,none⟩) jn jc,.slice la ln lc,.int .i64 sure],.int .i64 (k:Int)] wr fun e w'=>e=.returned (.bool (eT n av next log (iM jobs k) jobs[k]))∧Below wr.heap.size wr w'):=by
                  cases k with
                  | zero=>
                   simp only[Nat.zero_mul,Nat.add_zero] at a0 a1 a2 a3;exact Kf n av next sure jb eJ jn jc la ln lc jobs[0].1 jobs[0].2.2.1 oa ol oc ya yl yc jobs[0].2.1 jobs[0].2.2.2 log wr GM z_ pd bn (by omega) pf Lx.2 a0 a1 a2 a3 vF GP R4
                  | succ k'=>
                   have b0:=(qB GO k' (by omega)).1
                   rw[oL (jobs:=jobs) (k:=k') (by omega),show((k'+1:Nat):Int)=(k':Int)+1 from by omega]
                   exact Kl n av next sure jb eJ jn jc la ln lc jobs[k'+1].1 jobs[k'+1].2.2.1 oa ol oc ya yl yc jobs[k'+1].2.1 jobs[k'+1].2.2.2 log k' _ wr GM z_ pd bn (by omega) pf Lx.2 a0 a1 a2 a3 b0 vF GP R4
                 have MO:Hid (iM jobs (k+1)=some jobs[k].1):=oL cJ;have nD:=Hid.mk' BL;clear BL GO R4 MP a0 a1 a2 a3 vF GP Lx pf Hy zE;generalize eT n av next log (iM jobs k) jobs[k]=Q at *;generalize jobs[k].1=PV at *;cases Q
                 · have HF:Hid (bt (n,av,next,jobs,log,sure)=false):=by show _=_; rw[HR.out,nD.out]; simp
                   clear nD MO;ab fail;refine HJ.out.mono ?_;rintro e w6 ⟨rfl,mJ⟩;have iU:=uq.trans (mJ.mono uq.size);clear x0 x1 x2 x3 x4 x5 HJ;ab fail;an;exact⟨au HF.out.symm,iU⟩
                 · have HY2:Hid (eQ n av next log none jobs=eQ n av next log (iM jobs (k+1)) (jobs.drop (k+1))):=by show _=_; rw[nD.out,MO.out]; simp
                   clear nD MO;ab fail;refine HJ.out.mono ?_;rintro e w6 ⟨rfl,mJ⟩;have dd:=mU.trans (mJ.mono mU.size);clear x0 x1 x2 x3 x4 x5 HJ;ab fail;aA
                   case rel=>exact⟨k+1,by omega,by aF,dd,HY2.out⟩
                   case measure=>simp[intOf]; omega
               · have CU:¬(k:Int)<(jn:Int):=by omega
                 have HF:Hid (bt (n,av,next,jobs,log,sure)=true):=by show _=_; rw[HR.out,BL,List.drop_of_length_le (by omega)]; cases iM jobs k <;> rfl
                 clear BL;ab fail;an;exact⟨au HF.out.symm,uq⟩
end cos
namespace cos
open Go Go.RowKit base aE aX lay lh
def D8(n:Int):Co:=if 1≤n∧n≤8 then(n,1,0,[],[],0) else(0,0,0,[],[],0)
theorem xk(n:Int)(w:World):
 Calls Tryz.prog 33 #[.int .i64 n] w fun e w'=>e=.returned (GI (D8 n).1 (D8 n).2.1 (D8 n).2.2.1 (D8 n).2.2.2.2.2 none 0 0 none 0 0)∧Below w.heap.size w w':=by
 have iw:=jV n 1 8 (w.alloc (kM 0 0 0 0 none 0 0 none 0 0));by_cases hn:1≤n∧n≤8
 · have HR:Hid (D8 n=(n,1,0,[],[],0)):=if_pos hn;rw[decide_eq_true hn] at iw;have HI:=Hid.mk' iw;clear iw;aj Tryz.func33,Tryz.ntmps33;ab fail;refine HI.out.mono ?_;rintro e w1 ⟨rfl,bL⟩;subst bL;ab fail;bO
   exact⟨by rw[HR.out],a8 _ _⟩
 · have HR:Hid (D8 n=(0,0,0,[],[],0)):=if_neg hn;rw[decide_eq_false hn] at iw;have HI:=Hid.mk' iw;clear iw;aj Tryz.func33,Tryz.ntmps33;ab fail;refine HI.out.mono ?_;rintro e w1 ⟨rfl,bL⟩;subst bL;ab fail;bO
   exact⟨by rw[HR.out],a8 _ _⟩
end cos
namespace lh
open Go Go.RowKit base aE aX
theorem kq(w:World)(g c:Nat)(ty:TypeId):(Builtin.append_ #[73,73] ty #[.slice (some ⟨g,0,none⟩) 0 0,.slice none 0 c]).run Tryz.prog w=.ok (.slice (some ⟨g,0,none⟩) 0 0) w:=by aa
theorem gD(a:Option Addr)(len cap:Nat)(l:List Od)(w:World)(h:dS w a len l)(jg:len≤1099511627776):
 Calls Tryz.prog 95 #[.slice a len cap] w fun e w'=>∃g' LX,e=.returned (.slice (some ⟨g',0,none⟩) len LX)∧ck w' w.heap.size g' len LX l∧Below w.heap.size w w':=by
 obtain⟨i0,hi,dE,dD,cO⟩:=info_parts sQ;have hl:=h.1;have fk:=h.2.2.1;have bw:Below w.heap.size w (w.alloc (.cells #[] 121)):=(Below.refl _ _).alloc (Nat.le_refl _) _;have qZ:=l0 w w.heap.size (Nat.le_refl _);cases a with
 | none=>
  have h0:len=0:=by
   rcases Nat.eq_zero_or_pos len with e | e
   · exact e
   · obtain⟨b,off,ha,_⟩:=h.2.2.2 e; cases ha
  subst h0;have e1:l=[]:=List.eq_nil_of_length_eq_zero hl;subst e1;have RW:=kq;aj Tryz.func95,Tryz.ntmps95;ab fail;an;exact⟨_,_,rfl,qZ,bw⟩
 | some ad=>
  have nl:Hid (∀j u,(aW l)[j]? =some u→(w.alloc (.cells #[] 121)).cell? (ad.add j)=some u):=by
   rcases Nat.eq_zero_or_pos len with e | e
   · intro j u hj;have e1:l=[]:=List.eq_nil_of_length_eq_zero (by omega)
     rw[e1] at hj; simp[aW] at hj
   · obtain⟨b,off,ha,_⟩:=h.2.2.2 e;cases ha;exact qh (h.below bw).cells
  have fR:0+len≤maxLen:=by unfold maxLen; omega
  have kn:(0+len) * 40≤140737488355328:=by omega
  have jA:(aW l).length=len * 3:=by rw[cW]; omega
  aj Tryz.func95,Tryz.ntmps95;ab (ak; refine wpList_append_own _ rfl (.tmp 3) (.tmp 4) 73 rfl w.heap.size 121 i0 (.agg #[.int .i64 0,.string ⟨#[]⟩,.string ⟨#[]⟩]) 3 40 Tryz.underlying73 hi dE dD cO rfl (by decide) _ _ _ rfl qZ.2.2 ad len cap (aW l) rfl jA nl.out (bM l) fR kn bw.size ?_)
  intro v1 w1 aK aI db;have cC:¬v1=.slice none 0 0:=by simpa using db
  obtain⟨g1,c1,o8,gK⟩:=uG hl fk cC (by have h9:=aK; oU [show aW []++aW l=aW l from rfl] at h9)
  subst o8;have jW:(w.alloc (.cells #[] 121)).grownBy w1 (some w.heap.size):=aI;have fi:=bw.grown jW bw.size (fun k e=>by cases e; exact Nat.le_refl _)
  clear aK aI db cC jW;ab fail;an;exact⟨g1,c1,rfl,gK,fi⟩
end lh
end Go.Proofs.YtmibabclefgljaaGreat
