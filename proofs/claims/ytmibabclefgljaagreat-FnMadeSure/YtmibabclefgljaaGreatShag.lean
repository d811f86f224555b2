/- RecQ RecW RecX -/
import Derived.Test.YtmibabclefgljaaGreatShaf
import Derived.Laws.CopyOwn
import Derived.Laws.CopyRow
set_option linter.unusedVariables false
set_option linter.unusedSimpArgs false
set_option maxRecDepth 100000
set_option maxHeartbeats 4000000
namespace Go.Proofs.YtmibabclefgljaaGreat
namespace aZ
open Go Go.RowKit base av aN
open Go.WideMaps (keyOf_string_mk)
theorem IX{X B1 B2:Nat}{pv:Value}{w:World}(h:lO X pv B1 B2 w)(v:Value):lO X v B1 B2 (w.setCell ⟨X,0,none⟩ v)∧w.grownBy (w.setCell ⟨X,0,none⟩ v) (some X):=by
 have h0:w.heap[X]? =some (.cells #[pv,.map (some B1),.map (some B2)] 175 (0,0)):=h;have s0:=bw h0 0 v;exact⟨s0.1,s0.2⟩
def ig(ops:List Od)(s:ByteArray):Bool:=ops.any fun o=>decide (o.2.1=s)
def tu(h:ByteArray→Nat)(ops:List Od)(s:ByteArray):Nat:=if ig ops s=true then 0 else h s
def rK(h:ByteArray→Nat)(ops:List Od)(t:Nat)(s:ByteArray):Nat:=if ig ops s=true then t else h s
theorem sJ(ops:List Od)(o:Od)(s:ByteArray):ig (ops++[o]) s=(ig ops s || decide (o.2.1=s)):=by simp[ig]
theorem FC(h:ByteArray→Nat)(ops:List Od)(o:Od):tu h (ops++[o])=fun s=>if s=o.2.1 then 0 else tu h ops s:=by
 funext s
 unfold tu;rw[sJ];by_cases e:o.2.1=s
 · subst e; simp
 · have e2:¬s=o.2.1:=fun x=>e x.symm
   simp[e,e2]
theorem FD(h:ByteArray→Nat)(ops:List Od)(t:Nat)(o:Od)(s:ByteArray):rK h (ops++[o]) t s=if s=o.2.1 then t else rK h ops t s:=by
 unfold rK;rw[sJ];by_cases e:o.2.1=s
 · subst e; simp
 · have e2:¬s=o.2.1:=fun x=>e x.symm
   simp[e,e2]
theorem Av{ops:Array Oper}{o:Oper}{a:Act}{w:World}{K:Act→World→Prop}{Q:Exit→Act→World→Prop}{E:Prop}(qC:o.guard=none)(m x:Operand)(B9:o.op=Op.call {callee:=Callee.builtin Builtin.delete,args:=#[m,x],argTypes:=#[173,9]})
 {B n:Nat} {f:ByteArray→Nat} (hm:a.eval m=.map (some B)) (hT:eM w B n f) {s:ByteArray} (hs:s.size≤maxLen) (hx:a.eval x=.string s)
 (h:∀w',eM w' B n (fun t=>if t=s then 0 else f t)→w.grownBy w' (some B)→K (a.put o.dst (.tuple #[])) w'):
 if Region.wanted o (yielded ops a.tmps)=true then Oper.wp Tryz.prog o a w K Q else E:=by
 have hw:Region.wanted o (yielded ops a.tmps)=true:=by simp[Region.wanted,qC]
 rw[if_pos hw];obtain⟨D,h1,h2,h3⟩:=hT;obtain⟨w',dh,r1,r2⟩:=h1.drop pV Tryz.underlying173 (keyOf_string_mk (P:=Tryz.prog) Tryz.underlying9 hs) o.type;unfold Oper.wp;simp[execOp,B9,resolve,invoke,builtin,hm,hx,dh,Result.andThen];exact h w' (eM.del h2 h3 r1) r2.grown
structure Made (w0 w:World) (X B1 B2 n1 n2 g np cp:Nat) (f:Int→Rc) (hf:ByteArray→Nat) (m:List Pr):Prop where
 box:lO X (.slice (some ⟨g,0,none⟩) np cp) B1 B2 w
 nL:fN w0 w B1 n1 f
 qN:eM w B2 n2 hf
 own:bJ w w0.heap.size g np cp m
 e7:Below w0.heap.size w0 w
 QY:w0.heap.size≤X
 QZ:w0.heap.size≤B1
 OQ:w0.heap.size≤B2
 x1:X≠B1
 x2:X≠B2
 Nj:B1≠B2
 gX:g≠X
 g1:g≠B1
 g2:g≠B2
section
variable{w0 w w':World}{X B1 B2 n1 n2 g np cp:Nat}{f:Int→Rc}{hf:ByteArray→Nat}{m:List Pr}
theorem uE{B n:Nat}(h:eM w B n hf):B<w.heap.size:=by
 obtain⟨D,⟨es,clock,hb,_⟩,_⟩:=h;exact(Array.getElem?_eq_some_iff.1 hb).1
theorem Made.below(h:Made w0 w X B1 B2 n1 n2 g np cp f hf m)(hb:Below w.heap.size w w'):Made w0 w' X B1 B2 n1 n2 g np cp f hf m:=
 ⟨h.box.below hb,h.nL.below hb,h.qN.below hb,h.own.below hb,h.e7.trans (hb.mono h.e7.size),h.QY,h.QZ,h.OQ,h.x1,h.x2,h.Nj,h.gX,h.g1,h.g2⟩
end
theorem OR(X B1 B2 n1 n2 g np cp:Nat)(f:Int→Rc)(hf:ByteArray→Nat)(m:List Pr)(kind tx:Int)(a:Option Addr)(len cap:Nat)(l:List Od)(w0 w:World)
 (h:Made w0 w X B1 B2 n1 n2 g np cp f hf m) (hS:dD w0 a len l) (ha:Plain a) (Hd:1≤tx) (K9:tx≤1000000) (Ft:n1≤1099511627776) (o9:n2≤1099511627776) (Zd:np≤1000) (UG:len≤8) (hf8:(f tx).2.2.length≤8) (aW:kind=2→(f tx).2.2≠[]):
 Calls Tryz.prog 135 #[.pointer (some ⟨X,0,none⟩),.agg #[.int .i64 kind,.int .i64 tx,.slice a len cap]] w fun e w'=>
  ∃g' VU LL,e=.returned (.tuple #[])∧Made w0 w' X B1 B2 (n1+1) (n2+len) g' VU LL (gF f tx (kind,tx,l)) (rK (tu hf (f tx).2.2) l tx.toNat) (if kind=2 then aG m (f tx).2.2 else m):=by
 have Ar:(Lit.int .i64 tx).wf=true:=WalkArith.wf_i64 (by omega)
 obtain⟨ops,cE⟩:∃ops,ops=(f tx).2.2:=⟨_,rfl⟩;obtain⟨f',VV⟩:∃f',f'=gF f tx (kind,tx,l):=⟨_,rfl⟩;rw[←cE] at hf8 aW ⊢;rw[←VV];obtain⟨W,hW⟩:∃W,W=w.alloc (.cells #[.int .i64 kind,.int .i64 tx,.slice a len cap] 98):=⟨_,rfl⟩;have bg:Below w.heap.size w W:=by rw[hW]; exact(Below.refl _ _).alloc (Nat.le_refl _) _
 have bt:da w.heap.size kind tx (.slice a len cap) W:=by rw[hW]; exact cd _ _ _ _
 have sK:=h.below bg;have HW:=Hid.mk' hW.symm;have iO:=h.e7.size;have iN:=h.box.lt;have h1l:=h.nL.lt;have h2l:=uE h.qN;clear hW;obtain⟨la,lm,lc,QW,yI,As⟩:=sK.nL.look Ar;have yF:∀x:last.On W.heap.size W,(Instr.lookup 172 (.map (some B1)) (.int .i64 tx) false).run Tryz.prog x.w=.ok (.agg #[.int .i64 (f tx).1,.int .i64 (f tx).2.1,.slice la lm lc]) x.w:=fun x=>As _ (x.2.block B1 sK.nL.lt)
 have QX:=field2;obtain⟨x0,x1,x2⟩:=sK.box.cells;obtain⟨d0,d1,d2⟩:=bt.cells;have UE:=sK.box.lt;have VQ:=bt.lt;have y1:=last.On.cell x1 UE;have z1:=last.On.cell d1 VQ;have a_:=last.On.gV W.heap.size W;go_enter Tryz.func135,Tryz.ntmps135;go_wp2_with fail;rw[HW.out];refine last.ai W.heap.size (by kernel_rfl) (by kernel_rfl) ?_
 repeat(go_big_quiet_step (fail))
 refine wpQuiet_nil ?_;intro w2 jO;obtain⟨Au,jO⟩:=jO;have aU:Below W.heap.size W w2:=by rw[jO]; exact Au.2
 clear jO Au a_ yF y1 z1 QX As x0 x1 x2 d0 d1 d2 HW;have UH:=sK.below aU;have bV:=bt.below aU;have OS:=UH.box.lt;have OT:=bV.lt;obtain⟨x0,x1,x2⟩:=UH.box.cells;obtain⟨d0,d1,d2⟩:=bV.cells;have y1:=last.On.cell x1 OS;have z0:=last.On.cell d0 OT;have z1:=last.On.cell d1 OT;have z2:=last.On.cell d2 OT;have a_:=last.On.gV w2.heap.size w2;go_wp2_with fail;refine last.kG w2.heap.size 7 _ rfl (by kernel_rfl) (by kernel_rfl) (by kernel_rfl) ?_
 simp only[List.take_succ_cons,List.take_zero];repeat(go_big_quiet_step (fail))
 refine wpQuiet_nil ?_;intro w3 ls;obtain⟨Ze,ls⟩:=ls;have dt:Below w2.heap.size w2 w3:=by rw[ls]; exact Ze.2
 clear ls Ze a_ y1 z0 z1 z2 x0 x1 x2 d0 d1 d2;have xm:=UH.below dt;have rL:=bV.below dt;have L0:=xm.nL;go_wp2_with (at_mapUpdate; refine qK rfl _ _ _ rfl rfl L0 (by unfold maxLen; omega) rfl Ar (r:=(kind,tx,l)) rfl ha hS ?_)
 intro w4 lu zC;rw[←VV] at lu;have He:Made w0 w4 X B1 B2 (n1+1) n2 g np cp f' hf m:=⟨xm.box.grown zC (by intro e; exact xm.x1 (Option.some.inj e)),lu,xm.qN.grown zC (by intro e; exact xm.Nj (Option.some.inj e).symm),xm.own.grown zC (by intro e; exact xm.g1 (Option.some.inj e)),xm.e7.grown zC xm.e7.size (fun j e=>by cases e; exact xm.QZ),xm.QY,xm.QZ,xm.OQ,xm.x1,xm.x2,xm.Nj,xm.gX,xm.g1,xm.g2⟩
 have L1:=rL.grown zC (by intro e; have:=Option.some.inj e; omega)
 rw[←cE] at yI;have qO:=yI.1;subst qO;have OU:=yI.2.2.1;clear xm UH sK h rL bV bt L0 lu zC dt aU bg cE VV;go_wp2_with fail;go_loopw [26] (fun i wr=>∃k:Nat,k≤ops.length∧i=.int .i64 (k:Int)∧Made w0 wr X B1 B2 (n1+1) n2 g np cp f' (tu hf (ops.take k)) m∧da w.heap.size kind tx (.slice a len cap) wr) (fun i _=>ops.length - (intOf i).toNat)
 case atStart=>exact⟨0,Nat.zero_le _,rfl,He,L1⟩
 case round=>
  clear He L1;obtain⟨k,hk,rfl,hM,bt⟩:=hrel;by_cases a6:k<ops.length
  · obtain⟨b,off,hb,_⟩:=yI.2.2.2 (by omega)
    subst hb;obtain⟨c0,c1,c2⟩:=(yI.below hM.e7).cells k a6;have fL:(k:Int)<(ops.length:Int):=by omega
    have dG:=(OU _ (List.getElem_mem a6)).2.1;have gW:Hid (tu hf (ops.take (k+1))=fun s=>if s=ops[k].2.1 then 0 else tu hf (ops.take k) s):=by show _=_; rw[List.take_succ_eq_append_getElem a6,FC]
    generalize ops[k]=p at *;obtain⟨V,hV⟩:∃V,V=wr.alloc (.cells #[.int .i64 p.1,.string p.2.1,.string p.2.2] 121):=⟨_,rfl⟩;have mZ:Below wr.heap.size wr V:=by rw[hV]; exact(Below.refl _ _).alloc (Nat.le_refl _) _
    have wv:=hM.below mZ;have C3:=bt.below mZ;have o1:V.cell? ⟨wr.heap.size,1,none⟩=some (.string p.2.1):=by rw[hV]; simp
    have Zf:wr.heap.size<V.heap.size:=by rw[hV]; simp
    obtain⟨x0,x1,x2⟩:=wv.box.cells;have VW:V.drew.cell? ⟨X,2,none⟩=some (.map (some B2)):=x2;have VX:V.drew.cell? ⟨wr.heap.size,1,none⟩=some (.string p.2.1):=o1;have HV:=Hid.mk' hV.symm;have j6:=wv.below ((Below.refl _ _).drew);have nM:=C3.below ((Below.refl _ _).drew);have LR:=j6.qN;have VY:=hM.box.lt;have Zg:=uE hM.qN;clear hV hM bt x0 x1 o1 x2 mZ wv C3;go_wp2_with fail;rw[HV.out];clear HV c0 c1 c2;go_region_held3 (fun w'=>w'.cell? ⟨X,2,none⟩=some (.map (some B2))∧w'.cell? ⟨wr.heap.size,1,none⟩=some (.string p.2.1))
     (first | (exact⟨VW,VX⟩) | (with_reducible assumption) | (exact⟨du.cell VW (fun e=>j6.x2 (Option.some.inj e)),du.cell VX (fun e=>Nat.lt_irrefl _ ((Option.some.inj e:wr.heap.size=B2) ▸ Zg))⟩))
     (first | (refine Av rfl (.tmp 33) (.tmp 35) rfl rfl LR dG rfl ?_; intro w6 Q0 du))
    rw[←gW.out] at Q0;have VZ:Made w0 w6 X B1 B2 (n1+1) n2 g np cp f' (tu hf (ops.take (k+1))) m:=⟨j6.box.grown du (by intro e; exact j6.x2 (Option.some.inj e)),j6.nL.grown du (by intro e; exact j6.Nj (Option.some.inj e)),Q0,j6.own.grown du (by intro e; exact j6.g2 (Option.some.inj e)),j6.e7.grown du j6.e7.size (fun j e=>by cases e; exact j6.OQ),j6.QY,j6.QZ,j6.OQ,j6.x1,j6.x2,j6.Nj,j6.gX,j6.g1,j6.g2⟩
    have C4:=nM.grown du (by intro e; have:=Option.some.inj e; omega)
    clear du Q0 j6 nM LR VW VX;go_wp2_with fail;go_roundw
    case rel=>exact⟨k+1,by omega,by go_num,VZ,C4⟩
    case measure=>simp[intOf]; omega
  · have HE:Hid (ops.take k=ops):=List.take_of_length_le (by omega)
    rw[HE.out] at hM;have lP:=hS.1;have V8:=hS.2.2.1;obtain⟨d0,d1,d2⟩:=bt.cells;generalize hh1:tu hf ops=h1 at *;have hex:¬(k:Int)<(ops.length:Int):=by omega
    clear HE hk;go_wp2_with fail;clear hex a6;go_loopw [40] (fun i wr=>∃k:Nat,k≤l.length∧i=.int .i64 (k:Int)∧Made w0 wr X B1 B2 (n1+1) (n2+k) g np cp f' (rK h1 (l.take k) tx.toNat) m∧da w.heap.size kind tx (.slice a len cap) wr) (fun i _=>l.length - (intOf i).toNat)
    case atStart=>exact⟨0,Nat.zero_le _,rfl,hM,bt⟩
    case round=>
     clear hM bt d0 d1 d2;obtain⟨k,hk,rfl,hM,bt⟩:=hrel;by_cases a6:k<l.length
     · obtain⟨b,off,hb,_⟩:=hS.2.2.2 (by omega)
       subst hb;obtain⟨c0,c1,c2⟩:=(hS.below hM.e7).cells k a6;have fL:(k:Int)<(len:Int):=by omega
       have dG:=(V8 _ (List.getElem_mem a6)).2.1;have gW:Hid (∀s,rK h1 (l.take (k+1)) tx.toNat s=if s=l[k].2.1 then tx.toNat else rK h1 (l.take k) tx.toNat s):=fun s=>by rw[List.take_succ_eq_append_getElem a6,FD]
       generalize l[k]=p at *;obtain⟨V,hV⟩:∃V,V=wr.alloc (.cells #[.int .i64 p.1,.string p.2.1,.string p.2.2] 121):=⟨_,rfl⟩;have mZ:Below wr.heap.size wr V:=by rw[hV]; exact(Below.refl _ _).alloc (Nat.le_refl _) _
       have wv:=hM.below mZ;have C3:=bt.below mZ;have o1:V.cell? ⟨wr.heap.size,1,none⟩=some (.string p.2.1):=by rw[hV]; simp
       have Zf:wr.heap.size<V.heap.size:=by rw[hV]; simp
       obtain⟨x0,x1,x2⟩:=wv.box.cells;obtain⟨d0,d1,d2⟩:=C3.cells;have y2:=last.On.cell x2 wv.box.lt;have z1:=last.On.cell o1 Zf;have t1:=last.On.cell d1 C3.lt;have a_:=last.On.gV V.heap.size V;have HV:=Hid.mk' hV.symm;have yE:=keyOf_string_mk (P:=Tryz.prog) Tryz.underlying9 dG;clear hV hM bt x0 x1 x2 o1 mZ d0 d1 d2;go_wp2_with fail;rw[HV.out];refine last.kG V.heap.size 8 _ rfl (by kernel_rfl) (by kernel_rfl) (by kernel_rfl) ?_
       simp only[List.take_succ_cons,List.take_zero];repeat(go_big_quiet_step (fail))
       refine wpQuiet_nil ?_;intro w5 bP;obtain⟨Zh,bP⟩:=bP;have de:Below V.heap.size V w5:=by rw[bP]; exact Zh.2
       clear bP Zh a_ y2 z1 t1 HV c0 c1 c2;have j6:=wv.below de;have nM:=C3.below de;obtain⟨D,aB,hD,uA⟩:=j6.qN;go_wp2_with (at_mapUpdate; refine wpList_mapUpdate_own _ rfl _ _ _ 173 rfl 9 3 pV Tryz.underlying173 _ B2 (n2+k) D rfl aB (by unfold maxLen; omega) _ _ _ rfl rfl yE _ [] (plainElem_int Tryz.underlying3 Ar) ?_)
       intro w6 Nk du;have Q0:eM w6 B2 (n2+(k+1)) (rK h1 (l.take (k+1)) tx.toNat):=eM.put hD uA (by rw[gW.out,if_pos rfl]; omega) (fun s hs=>by rw[gW.out,if_neg hs]) Nk
       have VZ:Made w0 w6 X B1 B2 (n1+1) (n2+(k+1)) g np cp f' (rK h1 (l.take (k+1)) tx.toNat) m:=⟨j6.box.grown du (by intro e; exact j6.x2 (Option.some.inj e)),j6.nL.grown du (by intro e; exact j6.Nj (Option.some.inj e)),Q0,j6.own.grown du (by intro e; exact j6.g2 (Option.some.inj e)),j6.e7.grown du j6.e7.size (fun j e=>by cases e; exact j6.OQ),j6.QY,j6.QZ,j6.OQ,j6.x1,j6.x2,j6.Nj,j6.gX,j6.g1,j6.g2⟩
       have C4:=nM.grown du (by intro e; have:=Option.some.inj e; omega)
       clear aB Nk du Q0 j6 nM wv C3 hD uA;go_wp2_with fail;go_roundw
       case rel=>exact⟨k+1,by omega,by go_num,VZ,C4⟩
       case measure=>simp[intOf]; omega
     · have HE:Hid (l.take k=l):=List.take_of_length_le (by omega)
       rw[HE.out] at hM;have hkL:k=len:=by omega
       subst hkL;obtain⟨d0,d1,d2⟩:=bt.cells;by_cases gY:kind=2
       · have hpo:=aW gY;have RY:0<ops.length:=List.length_pos_iff.2 hpo;obtain⟨b2,kx,aU,_⟩:=yI.2.2.2 RY;subst aU;have H6:=Hid.mk' (C0 g 0 np cp m b2 kx ops.length lc ops wr hM.own.sl (yI.below hM.e7) hM.own.cases.1 (by omega))
         obtain⟨x0,x1,x2⟩:=hM.box.cells;subst gY;have hXr:=hM.box.lt;have h1r:=hM.nL.lt;have Zg:=uE hM.qN;go_wp2_with fail;refine H6.out.mono ?_;rintro e w7 ⟨g7,n7,K_,rfl,rJ,cP⟩;have Aw:=hM.below cP;obtain⟨S1,S2⟩:=IX Aw.box (.slice (some ⟨g7,0,none⟩) n7 K_);have Hf:=rJ.lt;have HM8:Hid (Made w0 (w7.setCell ⟨X,0,none⟩ (.slice (some ⟨g7,0,none⟩) n7 K_)) X B1 B2 (n1+1) (n2+k) g7 n7 K_ f' (rK h1 l tx.toNat) (aG m ops)):=⟨S1,Aw.nL.grown S2 (by intro e; exact Aw.x1 (Option.some.inj e).symm),Aw.qN.grown S2 (by intro e; exact Aw.x2 (Option.some.inj e).symm),(rJ.mono hM.e7.size).grown S2 (by intro e; have:=Option.some.inj e; omega),Aw.e7.grown S2 Aw.e7.size (fun j e=>by cases e; exact Aw.QY),Aw.QY,Aw.QZ,Aw.OQ,Aw.x1,Aw.x2,Aw.Nj,by omega,by omega,by omega⟩
         obtain⟨q0,q1,q2⟩:=Aw.box.cells;have fq:=Aw.box.fz 0;clear H6 hM Aw S1 S2 rJ cP;go_wp2_with fail;refine bodyPost_end (v:=.tuple #[]) ?_ rfl ⟨rfl,g7,n7,K_,HM8.out⟩;simp[results,Tryz.results135,go_sem]
       · have RX:(kind==2)=false:=beq_eq_false_iff_ne.2 gY;go_wp2_with fail;refine bodyPost_end (v:=.tuple #[]) ?_ rfl ⟨rfl,g,np,cp,hM⟩;simp[results,Tryz.results135,go_sem]
end aZ
namespace aZ
open Go Go.RowKit base av aN
theorem FE{X:Nat}{k t:Int}{v:Value}{w:World}(h:da X k t v w)(a b c:Value):
 ((((w.setCell ⟨X,0,none⟩ a).setCell ⟨X,1,none⟩ b).setCell ⟨X,2,none⟩ c).heap[X]? =some (.cells #[a,b,c] 98 (0,0)))∧w.grownBy (((w.setCell ⟨X,0,none⟩ a).setCell ⟨X,1,none⟩ b).setCell ⟨X,2,none⟩ c) (some X):=by
 have h0:w.heap[X]? =some (.cells #[.int .i64 k,.int .i64 t,v] 98 (0,0)):=h;have s0:=bw h0 0 a;have s1:=bw s0.1 1 b;have s2:=bw s1.1 2 c;exact⟨s2.1,ao (ao s0.2 s1.2) s2.2⟩
theorem da.fz{X:Nat}{k t:Int}{v:Value}{w:World}(h:da X k t v w)(j:Nat):w.frozen? ⟨X,j,none⟩=false:=by unfold da at h; simp[World.frozen?,h]
theorem yJ(w:World)(g L L2:Nat)(a:Option Addr)(L3:Nat)(cur:Array Value)(l:List Od)(hl:l.length=L)(ty:TypeId)
 (hg:w.heap[g]? =some (.cells cur 121 (0,0))) (hc:cur.size=L * 3) (L4:dD w a L l):
 (Builtin.copy_ #[73,73] ty #[.slice (some ⟨g,0,none⟩) L L2,.slice a L L3]).run Tryz.prog w=.ok (goInt L) (w.setRow g (aM l).toArray):=by
 obtain⟨i0,hi,dm,dk,cA⟩:=info_parts sx;by_cases h0:L=0
 · subst h0;have e1:l=[]:=List.eq_nil_of_length_eq_zero hl;subst e1;have e2:cur=#[]:=Array.eq_empty_of_size_eq_zero (by omega)
   subst e2;have RZ:w.setRow g (aM []).toArray=w:=setRow_self w g #[] _ (0,0) hg;rw[RZ];cases a with
   | none=>simp[Builtin.copy_,run_underlying Tryz.underlying73,Builtin.lenOf,Builtin.firstCells,sizeOf,typeInfo,hi,dk,storeCells]
   | some ad=>simp[Builtin.copy_,run_underlying Tryz.underlying73,Builtin.lenOf,Builtin.firstCells,sizeOf,typeInfo,hi,dk,storeCells,loadCells,loadCellsFrom]
 · obtain⟨b,off,ha,_⟩:=L4.2.2.2 (by omega)
   subst ha;have vK:=pS L4.cells;have R0:=run_loadCells_list (P:=Tryz.prog) w ⟨b,off,none⟩ (aM l) vK;have cc:=run_storeCells_at Tryz.prog g 0 121 (aM l) 0 cur w hg (by rw[cH]; omega) (bz l)
   have R1:cur.toList.drop (aM l).length=[]:=List.drop_eq_nil_of_le (by rw[cH]; simp; omega)
   simp only[Nat.zero_add,List.take_zero,List.nil_append,R1,List.append_nil] at cc;rw[cH,hl] at R0;simp[Builtin.copy_,run_underlying Tryz.underlying73,Builtin.lenOf,Builtin.firstCells,sizeOf,typeInfo,hi,dk,R0,cc]
theorem tv{w:World}{ops:Array Oper}{rest:List Oper}{o:Oper}{a:Act}{Q:Exit→Act→World→Prop}(qC:o.guard=none)(d s:Operand)
 (ho:o.op=.call {callee:=.builtin .copy,args:=#[d,s],argTypes:=#[73,73]})
 (g L L2:Nat) (ad:Option Addr) (L3:Nat) (cur:Array Value) (l:List Od) (hl:l.length=L) (hd:a.eval d=.slice (some ⟨g,0,none⟩) L L2) (hs:a.eval s=.slice ad L L3)
 (hg:w.heap[g]? =some (.cells cur 121 (0,0))) (hc:cur.size=L * 3) (L4:dD w ad L l)
 (h:∀w',w'.heap[g]? =some (.cells (aM l).toArray 121 (0,0))→w.grownBy w' (some g)→wpList Tryz.prog ops Q rest (a.put o.dst (goInt L)) w'):wpList Tryz.prog ops Q (o::rest) a w:=by
 refine wpList_plain qC fun K hK=>?_
 have dh:=yJ w g L L2 ad L3 cur l hl o.type hg hc L4;unfold Oper.wp;simp[execOp,ho,resolve,invoke,builtin,hd,hs,dh,Result.andThen];exact hK _ _ (h _ (setRow_heap w g cur _ _ (0,0) hg) ⟨rfl,rfl,rfl,by simp[World.setRow],fun k hk aW=>setRow_other w g k _ (by intro e; exact aW (by rw[e]))⟩)
theorem Ax{w:World}{base g n:Nat}{l:List Od}(hn:l.length=n)(eW:∀p∈l,dN p)(hm:n≤maxLen)(hb:base≤g)(h:w.heap[g]? =some (.cells (aM l).toArray 121 (0,0))):bR w base g n n l:=
 ⟨hn,eW,by rw[cH]; omega,.inr ⟨g,n,_,rfl,hb,h,Nat.le_refl _,hm,by simp[cH,hn],by rw[List.take_of_length_le (by simp[cH]; omega)]⟩⟩
theorem Ay(kind tx:Int)(a:Option Addr)(len cap:Nat)(l:List Od)(w:World)(h:dD w a len l)(iO:len≤1099511627776):
 Calls Tryz.prog 129 #[.agg #[.int .i64 kind,.int .i64 tx,.slice a len cap]] w fun e w'=>
  ∃g,e=.returned (.agg #[.int .i64 kind,.int .i64 tx,.slice (some ⟨g,0,none⟩) len len])∧bR w' w.heap.size g len len l∧Below w.heap.size w w':=by
 obtain⟨i0,hi,dm,dk,cA⟩:=info_parts sx;obtain⟨W,hW⟩:∃W,W=(w.alloc (.cells #[.int .i64 kind,.int .i64 tx,.slice a len cap] 98)).alloc (.cells #[.int .i64 0,.int .i64 0,.slice none 0 0] 98):=⟨_,rfl⟩;have bg:Below w.heap.size w (w.alloc (.cells #[.int .i64 kind,.int .i64 tx,.slice a len cap] 98)):=(Below.refl _ _).alloc (Nat.le_refl _) _;have hB:Below w.heap.size w W:=by rw[hW]; exact bg.alloc bg.size _
 have hT:da w.heap.size kind tx (.slice a len cap) W:=by rw[hW]; exact(cd w _ _ _).below ((Below.refl _ _).alloc (Nat.le_refl _) _)
 have hR:da (w.heap.size+1) 0 0 (.slice none 0 0) W:=by
  rw[hW];have:=cd (w.alloc (.cells #[.int .i64 kind,.int .i64 tx,.slice a len cap] 98)) 0 0 (.slice none 0 0);rwa[show(w.alloc (.cells #[.int .i64 kind,.int .i64 tx,.slice a len cap] 98)).heap.size=w.heap.size+1 by simp] at this
 have HW:=Hid.mk' hW.symm;have hl:=h.1;have eW:=h.2.2.1;have Nl:=h.2.1;have lP:(len:Int)≤1099511627776:=by omega
 have Nn:W.heap.size=w.heap.size+1+1:=by rw[hW]; simp
 have jy:w.heap.size≤((w.alloc (.cells #[.int .i64 kind,.int .i64 tx,.slice a len cap] 98)).alloc (.cells #[.int .i64 0,.int .i64 0,.slice none 0 0] 98)).heap.size:=by rw[←hW]; exact hB.size
 obtain⟨d0,d1,d2⟩:=hT.cells;rw[hW] at d0 d1 d2;have V9:=Hid.mk' Nn;clear hW Nn;go_enter Tryz.func129,Tryz.ntmps129;go_wp2_with (at_make; refine wpList_make_full _ rfl _ _ 73 rfl w.heap.size 121 i0 (.agg #[.int .i64 0,.string ⟨#[]⟩,.string ⟨#[]⟩]) 3 Tryz.underlying73 hi dm dk _ _ _ _ len rfl rfl rfl rfl ?b2 ?b3 ?b4 ?_)
 case b2=>rw[cA]; omega
 case b3=>exact Nl
 case b4=>exact jy
 intro w2 nI C5;rw[HW.out] at C5;have aU:Below W.heap.size W w2:=(Below.refl _ _).grown C5 (Nat.le_refl _) (fun k e=>by cases e)
 have LM:=hT.below aU;have dn:=hR.below aU;have dw:=hB.trans (aU.mono hB.size);obtain⟨cur,xn,vK⟩:∃cur:Array Value,w2.heap[w.heap.size+1+1]? =some (.cells cur 121 (0,0))∧cur.size=len * 3:=by
  rcases nI.2 with⟨h',_⟩ | ⟨g',aO,cur,h',_,hg,_,_,hs,_⟩
  · simp at h'
  · simp at h';obtain⟨rfl,rfl⟩:=h';exact⟨cur,hg,hs⟩
 have zD:=h.below dw;clear d0 d1 d2 nI C5 jy;obtain⟨d0,d1,d2⟩:=LM.cells;go_wp2_with (refine tv rfl (.tmp 8) (.tmp 10) rfl (w.heap.size+1+1) len _ _ _ cur l hl rfl rfl xn vK zD ?_);intro w3 No ky;have Fm:=LM.grown ky (by simp; omega)
 have cC:=dn.grown ky (by simp)
 have cJ:=dw.grown ky dw.size (fun k e=>by cases e; omega)
 have d_:bR w3 w.heap.size (w.heap.size+1+1) len len l:=Ax hl eW Nl (by omega) No
 clear d0 d1 d2;obtain⟨d0,d1,d2⟩:=Fm.cells;obtain⟨r0,r1,r2⟩:=cC.cells;have f0:=cC.fz 0;have f1:=cC.fz 1;have f2:=cC.fz 2;obtain⟨z,zg⟩:=FE cC (.int .i64 kind) (.int .i64 tx) (.slice (some ⟨w.heap.size+1+1,0,none⟩) len len);have hz:da (w.heap.size+1) kind tx (.slice (some ⟨w.heap.size+1+1,0,none⟩) len len) _:=z;have lM:=hz.cells;have OA:=Hid.mk' (cJ.grown zg cJ.size (fun j e=>by cases e; omega))
 have Fo:=Hid.mk' (d_.grown zg (by simp))
 clear No ky xn;go_wp2_with fail;refine bodyPost_ret (v:=.agg #[.int .i64 kind,.int .i64 tx,.slice (some ⟨w.heap.size+1+1,0,none⟩) len len]) ?_ rfl ⟨_,rfl,Fo.out,OA.out⟩;simp[results,Tryz.results129,go_sem,lM.1,lM.2.1,lM.2.2]
theorem mA:(Tryz.prog.info? 98).map (fun i=>(i.zero,i.size,i.bytes))=some (some (.agg #[.int .i64 0,.int .i64 0,.slice none 0 0]),3,40):=by kernel_rfl
theorem iR(w:World)(a b:Int)(v:Value)(t:TypeId):∀j u,([.int .i64 a,.int .i64 b,v]:List Value)[j]? =some u→(w.alloc (.cells #[.int .i64 a,.int .i64 b,v] t)).cell? ((⟨w.heap.size,0,none⟩:Addr).add j)=some u:=sI w (.int .i64 a) (.int .i64 b) v t
theorem lQ(a b:Int){v:Value}(h:v.oneCell'=true):∀u∈([.int .i64 a,.int .i64 b,v]:List Value),u.oneCell'=true:=by
 intro u hu;simp at hu;rcases hu with rfl | rfl | rfl
 · rfl
 · rfl
 · exact h
def bF(f:Int→Rc)(l:List Rc):List Rc:=l.filter fun r=>decide ((f r.2.1).1=1)
theorem C6(f:Int→Rc)(l:List Rc)(k:Nat)(h:k<l.length):bF f (l.take (k+1))=if(f l[k].2.1).1=1 then bF f (l.take k)++[l[k]] else bF f (l.take k):=by
 unfold bF;rw[List.take_succ_eq_append_getElem h,List.filter_append];by_cases e:(f l[k].2.1).1=1
 · rw[if_pos e]; simp[e]
 · rw[if_neg e]; simp[e]
theorem IY(f:Int→Rc)(l:List Rc):(bF f l).length≤l.length:=List.length_filter_le _ _
theorem IZ(X B1 B2 n1:Nat)(pv:Value)(f:Int→Rc)(a:Option Addr)(len cap:Nat)(l:List Rc)(w0 w:World)(hM:lO X pv B1 B2 w)(hL:fN w0 w B1 n1 f)(h:rs w a len l)(iO:len≤1099511627776)(cE:∀r∈l,r.2.2.length≤1099511627776):
 Calls Tryz.prog 136 #[.pointer (some ⟨X,0,none⟩),.slice a len cap] w fun e w'=>
  ∃g cp hs,e=.returned (.slice (some ⟨g,0,none⟩) (bF f l).length cp)∧bm w' w.heap.size (.slice (some ⟨g,0,none⟩) (bF f l).length cp) (bF f l) hs∧Below w.heap.size w w':=by
 obtain⟨i0,hi,dm,dk,cA⟩:=info_parts mA;obtain⟨hl,hm,eW,hc⟩:=id h;subst hl;unfold maxLen at hm;have bg:Below w.heap.size w (w.alloc (.cells #[] 98)):=(Below.refl _ _).alloc (Nat.le_refl _) _;have qG:=oG w w.heap.size (Nat.le_refl _);go_enter Tryz.func136,Tryz.ntmps136;go_wp2_with (at_builtin; fail)
 go_loopw [5,11] (fun ov iv wr=>∃(k g cp:Nat) (hs:List Value),k≤l.length∧ov=.slice (some ⟨g,0,none⟩) (bF f (l.take k)).length cp∧iv=.int .i64 (k:Int)∧bm wr w.heap.size (.slice (some ⟨g,0,none⟩) (bF f (l.take k)).length cp) (bF f (l.take k)) hs∧Below w.heap.size w wr) (fun _ iv _=>l.length - (intOf iv).toNat)
 case atStart=>exact⟨0,w.heap.size,0,[],Nat.zero_le _,rfl,rfl,qG,bg⟩
 case round=>
  clear qG bg;obtain⟨k,g,cp,hs,hk,rfl,rfl,hO,hB⟩:=hrel;have mX:=hB.size;by_cases a6:k<l.length
  · obtain⟨b,off,ha,_⟩:=hc (by omega)
    subst ha;obtain⟨c0,c1,pa,pl,pc,c2,dE,_⟩:=(h.at k a6).below hB;have fL:(k:Int)<(l.length:Int):=by omega
    have xo:=eW _ (List.getElem_mem a6);have Ar:(Lit.int .i64 l[k].2.1).wf=true:=xo.2.1;have oL:=cE _ (List.getElem_mem a6);have gW:=Hid.mk' (C6 f l k a6);have hsl:=IY f (l.take k);have iF:(l.take k).length≤k:=List.length_take_le _ _;generalize l[k]=r at *;generalize bF f (l.take k)=acc at *;obtain⟨W,hW⟩:∃W,W=wr.alloc (.cells #[.int .i64 r.1,.int .i64 r.2.1,.slice pa pl pc] 98):=⟨_,rfl⟩;have bg:Below wr.heap.size wr W:=by rw[hW]; exact(Below.refl _ _).alloc (Nat.le_refl _) _
    have bt:da wr.heap.size r.1 r.2.1 (.slice pa pl pc) W:=by rw[hW]; exact cd _ _ _ _
    have zx:=hB.trans (bg.mono mX);have Zi:=hM.below zx;have Zj:=hL.below zx;have OV:=hO.below bg;obtain⟨la,lm,lc,QW,yI,As⟩:=Zj.look Ar;have yF:∀x:last.On W.heap.size W,(Instr.lookup 172 (.map (some B1)) (.int .i64 r.2.1) false).run Tryz.prog x.w=.ok (.agg #[.int .i64 (f r.2.1).1,.int .i64 (f r.2.1).2.1,.slice la lm lc]) x.w:=fun x=>As _ (x.2.block B1 Zj.lt)
    have QX:=IW;obtain⟨x0,x1,x2⟩:=Zi.cells;obtain⟨d0,d1,d2⟩:=bt.cells;have y1:=last.On.cell x1 Zi.lt;have z1:=last.On.cell d1 bt.lt;have a_:=last.On.gV W.heap.size W;have HW:=Hid.mk' hW.symm;have Zk:=dE.below bg;clear hW As hO x0 x1 x2 d0 d1 d2 dE;by_cases hh:(f r.2.1).1=1
    · have hhb:((f r.2.1).1==1)=true:=by rw[hh]; rfl
      rw[if_pos hh] at gW;go_wp2_with (at_builtin; fail)
      rw[HW.out];refine last.ai W.heap.size (by kernel_rfl) (by kernel_rfl) ?_
      repeat(go_big_quiet_step (fail))
      refine wpQuiet_nil ?_;intro w2 jO;obtain⟨Au,jO⟩:=jO;have aU:Below W.heap.size W w2:=by rw[jO]; exact Au.2
      clear jO Au a_ yF y1 z1 QX HW c0 c1 c2;have fE:=OV.below aU;have dw:=zx.trans (aU.mono zx.size);obtain⟨d0,d1,d2⟩:=(bt.below aU).cells;have gd:=Zk.1;have Zl:=Hid.mk' (Ay r.1 r.2.1 pa pl pc r.2.2 w2 (Zk.below aU) (by omega))
      go_wp2_with (at_builtin; fail)
      refine Zl.out.mono ?_;rintro e w3 ⟨g3,rfl,d_,dt⟩;have jP:=(fv d_).mono (base':=w.heap.size) dw.size;have Np:=fE.below dt;have cJ:=dw.trans (dt.mono dw.size);have ky:=d_.lt;have jz:∀j,(Value.slice (some ⟨g3,0,none⟩) pl pl).ownBlock=some j→¬c_ (.slice (some ⟨g,0,none⟩) acc.length cp) hs j:=fun j hj hb=>by
       have e1:g3=j:=by simpa[Value.ownBlock] using hj
       have:=(fE.lt j hb).2;omega
      have yK:=Hid.mk' jz;have sL:Below w3.heap.size w3 (w3.alloc (.cells #[.int .i64 r.1,.int .i64 r.2.1,.slice (some ⟨g3,0,none⟩) pl pl] 98)):=(Below.refl _ _).alloc (Nat.le_refl _) _;have dT:=Np.below sL;have zE:=jP.below sL;have ej:=cJ.trans (sL.mono cJ.size);have I0:=Hid.mk' (iR w3 r.1 r.2.1 (.slice (some ⟨g3,0,none⟩) pl pl) 98);have B_:=Hid.mk' (lQ r.1 r.2.1 jP.one);have fD:acc.length+1≤maxLen:=by unfold maxLen; omega
      have jX:(acc.length+1) * 40≤140737488355328:=by omega
      clear Zl d_ dt jP Np cJ sL jz fE dw d0 d1 d2;go_wp2_with (at_builtin; refine wpList_append_own _ rfl (.tmp 24) (.tmp 27) 41 rfl w.heap.size 98 i0 (.agg #[.int .i64 0,.int .i64 0,.slice none 0 0]) 3 40 Tryz.underlying41 hi dm dk cA rfl (by decide) _ _ _ rfl dT.row ⟨w3.heap.size,0,none⟩ 1 1 _ rfl rfl I0.out B_.out fD jX ej.size ?_)
      intro v5 w5 ic eN uF;have bY:¬v5=.slice none 0 0:=by simpa using uF
      have eh:=dT.snoc zE xo yK.out ic eN;have ec:Below w.heap.size w w5:=ej.grown eN ej.size (fun j e=>(dT.row.lt j e).1)
      rw[←gW.out] at eh;rcases eh.shape with⟨FF,_⟩ | ⟨g5,vM,FF,_⟩
      · exact absurd FF bY
      · subst FF;have wu:=Hid.mk' eh;clear ic eN uF bY eh dT ej zE I0 B_ yK;go_wp2_with (at_builtin; fail)
        go_roundw
        case rel=>exact⟨k+1,g5,vM,_,by omega,by rw[gW.out],by go_num,wu.out,ec⟩
        case measure=>simp[intOf]; omega
    · have hhb:((f r.2.1).1==1)=false:=beq_eq_false_iff_ne.2 hh;rw[if_neg hh] at gW;go_wp2_with (at_builtin; fail)
      rw[HW.out];refine last.ai W.heap.size (by kernel_rfl) (by kernel_rfl) ?_
      repeat(go_big_quiet_step (fail))
      refine wpQuiet_nil ?_;intro w2 jO;obtain⟨Au,jO⟩:=jO;have aU:Below W.heap.size W w2:=by rw[jO]; exact Au.2
      clear jO Au a_ yF y1 z1 QX HW c0 c1 c2;have fE:=OV.below aU;have dw:=zx.trans (aU.mono zx.size);rw[←gW.out] at fE;have V_:Hid (acc.length=(bF f (l.take (k+1))).length):=by show _=_; rw[gW.out]
      go_wp2_with (at_builtin; fail)
      go_roundw
      case rel=>exact⟨k+1,g,cp,hs,by omega,by rw[V_.out],by go_num,fE,dw⟩
      case measure=>simp[intOf]; omega
  · have HE:Hid (l.take k=l):=List.take_of_length_le (by omega)
    have V_:Hid (bF f (l.take k)=bF f l):=by show _=_; rw[HE.out]
    have hex:¬(k:Int)<(l.length:Int):=by omega
    rw[V_.out] at hO ⊢;go_wp2_with (at_builtin; fail)
    go_ret;exact⟨g,cp,rfl,⟨hs,hO⟩,hB⟩
end aZ
namespace aZ
open Go Go.RowKit base av aN
def pz(m:List Pr)(f:Int→Rc)(r:Rc):List Pr:=if r.1=2 then aG m (f r.2.1).2.2 else m
def uG(f:Int→Rc)(hf:ByteArray→Nat)(r:Rc):ByteArray→Nat:=rK (tu hf (f r.2.1).2.2) r.2.2 r.2.1.toNat
structure Rel (pre:List Rc) (s:St) (f:Int→Rc) (hf:ByteArray→Nat):Prop where
 new:∀tx,tx∉s.2.2→f tx=(0,0,[])
 old:∀tx,tx∈s.2.2→(f tx).1≠0
 held:∀r∈s.2.1,f r.2.1=r∧bf r=true∧r.1=1
 back:∀tx,(f tx).1=1→f tx∈s.2.1∧(f tx).2.1=tx
 bare:∀tx,(f tx).1≠1→(f tx).2.2=[]
 keys:∀key,hf key≠0↔∃r∈s.2.1,ig r.2.2 key=true
 still:s.2.1=bF f pre
 met:∀r∈pre,r.2.1∈s.2.2
 jB:s.1.length≤60
 apart:s.2.1.Pairwise fun a b=>a.2.1≠b.2.1∧∀key,ig a.2.2 key=true→ig b.2.2 key=false
theorem uH(ops:List Od)(s:ByteArray):ig ops s=true↔∃o∈ops,o.2.1=s:=by simp[ig]
theorem uI(held:List Rc)(ops:List Od):locked held ops=true↔∃r∈held,∃o∈ops,ig r.2.2 o.2.1=true:=by
 unfold locked;simp only[List.any_eq_true,decide_eq_true_eq,uH];constructor
 · rintro⟨r,hr,o,ho,p,hp,e⟩; exact⟨r,hr,p,hp,o,ho,e⟩
 · rintro⟨r,hr,p,hp,o,ho,e⟩; exact⟨r,hr,o,ho,p,hp,e⟩
theorem FG:Rel [] ([],[],[]) (fun _=>(0,0,[])) (fun _=>0):=
 ⟨fun _ _=>rfl,fun _ h=>absurd h List.not_mem_nil,fun _ h=>absurd h List.not_mem_nil,fun _ h=>by simp at h,fun _ _=>rfl,fun key=>by simp,rfl,fun _ h=>absurd h List.not_mem_nil,Nat.zero_le _,List.Pairwise.nil⟩
theorem OW{held:List Rc}{tx:Int}{k:Nat}(hp:held.Pairwise fun a b=>a.2.1≠b.2.1)(h:aH tx held=some k):held.take k++held.drop (k+1)=held.filter fun r=>decide (r.2.1≠tx):=by
 induction held generalizing k with
 | nil=>cases h
 | cons r l ih=>
  rw[List.pairwise_cons] at hp;rw[aH] at h
  split at h
  · next e=>
    cases h;have:l.filter (fun r=>decide (r.2.1≠tx))=l:=List.filter_eq_self.2 fun x hx=>by
     have:=hp.1 x hx;rw[e] at this;simp; exact fun e2=>this e2.symm
    simp[List.filter_cons,e];simpa using this.symm
  · next e=>
    cases hq:aH tx l with
    | none=>rw[hq] at h; cases h
    | some j=>
     rw[hq] at h;simp only[Option.map_some,Option.some.injEq] at h;subst h;have:=ih hp.2 hq;simp only[List.take_succ_cons,List.drop_succ_cons,List.cons_append];rw[this];simp[List.filter_cons,e]
section
variable{pre:List Rc}{s:St}{f:Int→Rc}{hf:ByteArray→Nat}
theorem Rel.Nq(h:Rel pre s f hf){r:Rc}(hr:r∈s.2.1):r.2.1∈s.2.2:=by
 by_cases e:r.2.1∈s.2.2
 · exact e
 · have h1:=h.new _ e;obtain⟨h2,_,h4⟩:=h.held r hr;rw[h1] at h2;rw[←h2] at h4;simp at h4
theorem Rel.zero(h:Rel pre s f hf)(tx:Int):(f tx).1=0↔tx∉s.2.2:=by
 constructor
 · intro e gZ; exact h.old tx gZ e
 · intro e; rw[h.new tx e]
theorem xp(h:Rel pre s f hf)(tx:Int)(r:Rc)(vQ:tx∉s.2.2):bF (gF f tx r) pre=bF f pre:=by
 unfold bF;refine List.filter_congr fun x hx=>?_
 have:x.2.1≠tx:=fun e=>vQ (e ▸ h.met x hx)
 unfold gF;rw[if_neg this]
theorem Az(h:Rel pre s f hf)(r:Rc)(bD:bf r=true):fO s.1 f hf r=true↔(if r.1=1 then r.2.1∉s.2.2∧locked s.2.1 r.2.2=false∧meets s.1 r.2.2=true else if r.1=2 then(f r.2.1).1=1 else(f r.2.1).1=1∨(f r.2.1).1=0):=by
 have yF:(r.2.2.any fun o=>decide (hf o.2.1≠0))=locked s.2.1 r.2.2:=by
  rw[Bool.eq_iff_iff,uI,List.any_eq_true];constructor
  · rintro⟨o,ho,e⟩;obtain⟨x,hx,hk⟩:=(h.keys o.2.1).1 (of_decide_eq_true e);exact⟨x,hx,o,ho,hk⟩
  · rintro⟨x,hx,o,ho,hk⟩;exact⟨o,ho,decide_eq_true ((h.keys o.2.1).2 ⟨x,hx,hk⟩)⟩
 unfold fO;rw[bD,yF,Bool.true_and]
 split
 · simp only[Bool.and_eq_true,Bool.not_eq_true',decide_eq_true_eq,h.zero]
 · split
   · simp
   · simp
theorem I1(h:Rel pre s f hf)(r:Rc):(∃t,one s r=some t∧fO s.1 f hf r=true∧t.1=pz s.1 f r∧t.1.length≤60∧Rel (pre++[r]) t (gF f r.2.1 r) (uG f hf r))∨(one s r=none∧(fO s.1 f hf r=false∨(fO s.1 f hf r=true∧60<(pz s.1 f r).length))):=by
 cases bD:bf r
 · right;refine⟨?_,.inl ?_⟩
   · unfold one; rw[bD]; rfl
   · unfold fO; rw[bD]; rfl
 · have jA:=Az h r bD;obtain⟨⟨Hd,K9⟩,py⟩:=(bE r).1 bD;by_cases nr:r.1=1
   · rw[if_pos nr] at jA;by_cases hc:r.2.1∉s.2.2∧locked s.2.1 r.2.2=false∧meets s.1 r.2.2=true
     · left;have K8:=h.new _ hc.1;have UI:uG f hf r=rK hf r.2.2 r.2.1.toNat:=by unfold uG; rw[K8]; rfl
       have Nr:pz s.1 f r=s.1:=by unfold pz; rw[if_neg (by omega)]
       refine⟨(s.1,s.2.1++[r],s.2.2++[r.2.1]),?_,jA.2 hc,Nr.symm,h.jB,?_⟩
       · unfold one;rw[if_pos bD,if_pos nr,if_neg];simp[hc.1,hc.2.1,hc.2.2]
       · rw[UI];have aW:∀x∈s.2.1,x.2.1≠r.2.1:=fun x hx e=>hc.1 (e ▸ h.Nq hx)
         refine⟨fun tx ht=>?_,fun tx ht=>?_,fun x hx=>?_,fun tx ht=>?_,fun tx ht=>?_,fun key=>?_,?_,fun x hx=>?_,h.jB,?_⟩
         · simp at ht;unfold gF; rw[if_neg ht.2]; exact h.new tx ht.1
         · unfold gF
           split
           · omega
           · next e=>exact h.old tx (by simpa[e] using ht)
         · rcases List.mem_append.1 hx with e | e
           · unfold gF; rw[if_neg (aW x e)]; exact h.held x e
           · rw[List.mem_singleton.1 e]; unfold gF; rw[if_pos rfl]; exact⟨rfl,bD,nr⟩
         · unfold gF at ht ⊢
           split at ht
           · next e=>rw[if_pos e]; exact⟨List.mem_append.2 (.inr (by simp)),e.symm⟩
           · next e=>rw[if_neg e]; exact⟨List.mem_append.2 (.inl (h.back tx ht).1),(h.back tx ht).2⟩
         · unfold gF at ht ⊢
           split at ht
           · exact absurd nr ht
           · next e=>rw[if_neg e]; exact h.bare tx ht
         · unfold rK;constructor
           · intro e
             split at e
             · next e2=>exact⟨r,List.mem_append.2 (.inr (by simp)),e2⟩
             · obtain⟨x,hx,hk⟩:=(h.keys key).1 e;exact⟨x,List.mem_append.2 (.inl hx),hk⟩
           · rintro⟨x,hx,hk⟩
             split
             · omega
             · next e2=>
               rcases List.mem_append.1 hx with e | e
               · exact(h.keys key).2 ⟨x,e,hk⟩
               · rw[List.mem_singleton.1 e] at hk; exact absurd hk e2
         · have e1:=xp h r.2.1 r hc.1;unfold bF at e1 ⊢;rw[List.filter_append,e1];have:decide ((gF f r.2.1 r r.2.1).1=1)=true:=by unfold gF; rw[if_pos rfl]; simpa using nr
           simp only[List.filter_cons,this,if_true,List.filter_nil];rw[h.still]; rfl
         · rcases List.mem_append.1 hx with e | e
           · exact List.mem_append.2 (.inl (h.met x e))
           · rw[List.mem_singleton.1 e]; simp
         · rw[List.pairwise_append];refine⟨h.apart,by simp,fun x hx y hy=>?_⟩
           rw[List.mem_singleton.1 hy];refine⟨aW x hx,fun key hk=>?_⟩
           rw[←Bool.not_eq_true];intro e;obtain⟨o,ho,e2⟩:=(uH _ _).1 e;have:locked s.2.1 r.2.2=true:=(uI _ _).2 ⟨x,hx,o,ho,by rw[e2]; exact hk⟩
           rw[hc.2.1] at this;cases this
     · right;refine⟨?_,.inl ?_⟩
       · unfold one;rw[if_pos bD,if_pos nr,if_pos];by_cases h1:r.2.1∈s.2.2
         · exact .inl (decide_eq_true h1)
         · right;cases h2:locked s.2.1 r.2.2
           · right;cases h3:meets s.1 r.2.2
             · rfl
             · exact absurd ⟨h1,h2,h3⟩ hc
           · exact .inl rfl
       · rw[←Bool.not_eq_true]; intro e; exact hc (jA.1 e)
   · rw[if_neg nr] at jA;have cE:r.2.2=[]:=by rcases py with⟨h1,_⟩ | ⟨_,h1⟩; exact absurd h1 nr; exact h1
     have L5:r.1=2∨r.1=3:=by rcases py with⟨h1,_⟩ | ⟨h1,_⟩; exact absurd h1 nr; exact h1
     have UI:uG f hf r=tu hf (f r.2.1).2.2:=by unfold uG; rw[cE]; rfl
     have rM:one s r=match aH r.2.1 s.2.1 with
      | none=>if r.1=3∧r.2.1∉s.2.2 then some (s.1,s.2.1,s.2.2++[r.2.1]) else none
      | some k=>if(gS s r k).length≤60 then some (gS s r k,s.2.1.take k++s.2.1.drop (k+1),s.2.2) else none:=by
      unfold one;rw[if_pos bD,if_neg nr];cases aH r.2.1 s.2.1 <;> rfl
     have hpw:s.2.1.Pairwise fun a b=>a.2.1≠b.2.1:=h.apart.imp fun x=>x.1
     cases gd:aH r.2.1 s.2.1 with
     | none=>
      have jY:=mr gd;rw[gd] at rM;simp only[] at rM;have Wa:(f r.2.1).1≠1:=fun e=>jY _ (h.back _ e).1 (h.back _ e).2
      by_cases hc:r.1=3∧r.2.1∉s.2.2
      · left;rw[if_pos hc] at rM;have K8:=h.new _ hc.2;have Wb:uG f hf r=hf:=by rw[UI,K8]; rfl
        have Nr:pz s.1 f r=s.1:=by unfold pz; rw[if_neg (by omega)]
        refine⟨_,rM,jA.2 (by rw[if_neg (by omega)]; exact .inr (by rw[K8])),Nr.symm,h.jB,?_⟩
        rw[Wb];have aW:∀x∈s.2.1,x.2.1≠r.2.1:=fun x hx=>jY x hx
        refine⟨fun tx ht=>?_,fun tx ht=>?_,fun x hx=>?_,fun tx ht=>?_,fun tx ht=>?_,h.keys,?_,fun x hx=>?_,h.jB,h.apart⟩
        · simp at ht;unfold gF; rw[if_neg ht.2]; exact h.new tx ht.1
        · unfold gF
          split
          · omega
          · next e=>exact h.old tx (by simpa[e] using ht)
        · unfold gF; rw[if_neg (aW x hx)]; exact h.held x hx
        · unfold gF at ht ⊢
          split at ht
          · omega
          · next e=>rw[if_neg e]; exact h.back tx ht
        · unfold gF at ht ⊢
          split at ht
          · next e=>rw[if_pos e]; exact cE
          · next e=>rw[if_neg e]; exact h.bare tx ht
        · have e1:=xp h r.2.1 r hc.2;unfold bF at e1 ⊢;rw[List.filter_append,e1];have:decide ((gF f r.2.1 r r.2.1).1=1)=false:=by unfold gF; rw[if_pos rfl]; simpa using nr
          simp only[List.filter_cons,this,List.filter_nil,Bool.false_eq_true,if_false,List.append_nil];exact h.still
        · rcases List.mem_append.1 hx with e | e
          · exact List.mem_append.2 (.inl (h.met x e))
          · rw[List.mem_singleton.1 e]; simp
      · right;rw[if_neg hc] at rM;refine⟨rM,.inl ?_⟩;rw[←Bool.not_eq_true];intro e;have e2:=jA.1 e;rcases L5 with e3 | e3
        · rw[if_pos e3] at e2; exact Wa e2
        · rw[if_neg (by omega)] at e2
          rcases e2 with e2 | e2
          · exact Wa e2
          · exact hc ⟨e3,(h.zero _).1 e2⟩
     | some k=>
      rw[gd] at rM;simp only[] at rM;obtain⟨xh,L6⟩:=hI gd;have wy:s.2.1[k]∈s.2.1:=List.getElem_mem xh;obtain⟨h4,h5,h6⟩:=h.held _ wy;rw[L6] at h4;have Zm:(f r.2.1).1=1:=by rw[h4]; exact h6
      have Nr:gS s r k=pz s.1 f r:=by
       unfold gS pz bS;rw[List.getElem?_eq_getElem xh,h4]
      rw[Nr,OW hpw gd] at rM;have Ns:fO s.1 f hf r=true:=jA.2 (by
       rcases L5 with e3 | e3
       · rw[if_pos e3]; exact Zm
       · rw[if_neg (by omega)]; exact .inl Zm)
      by_cases hlen:(pz s.1 f r).length≤60
      · left;rw[if_pos hlen] at rM;refine⟨_,rM,Ns,rfl,hlen,?_⟩;rw[UI];have gZ:r.2.1∈s.2.2:=by have:=h.Nq wy; rwa[L6] at this
        refine⟨fun tx ht=>?_,fun tx ht=>?_,fun x hx=>?_,fun tx ht=>?_,fun tx ht=>?_,fun key=>?_,?_,fun x hx=>?_,hlen,List.Pairwise.filter _ h.apart⟩
        · have e:tx≠r.2.1:=fun e=>ht (e ▸ gZ)
          unfold gF; rw[if_neg e]; exact h.new tx ht
        · unfold gF
          split
          · omega
          · exact h.old tx ht
        · obtain⟨Ca,Wc⟩:=List.mem_filter.1 hx;unfold gF; rw[if_neg (of_decide_eq_true Wc)]; exact h.held x Ca
        · unfold gF at ht ⊢
          split at ht
          · omega
          · next e=>
            rw[if_neg e];have hb:=h.back tx ht;exact⟨List.mem_filter.2 ⟨hb.1,decide_eq_true (by rw[hb.2]; exact e)⟩,hb.2⟩
        · unfold gF at ht ⊢
          split at ht
          · next e=>rw[if_pos e]; exact cE
          · next e=>rw[if_neg e]; exact h.bare tx ht
        · rw[h4];have We:∀x∈s.2.1,x.2.1≠r.2.1→∀key,ig x.2.2 key=true→ig s.2.1[k].2.2 key=false:=by
           intro x hx aW key hk;obtain⟨j,hj,rfl⟩:=List.getElem_of_mem hx;rcases Nat.lt_trichotomy j k with e | e | e
           · exact(List.pairwise_iff_getElem.1 h.apart j k hj xh e).2 key hk
           · subst e; exact absurd L6 aW
           · have:=(List.pairwise_iff_getElem.1 h.apart k j xh hj e).2 key;cases e2:ig s.2.1[k].2.2 key
             · rfl
             · rw[this e2] at hk; cases hk
          unfold tu;constructor
          · intro e
            split at e
            · exact absurd rfl e
            · next e2=>
              obtain⟨x,hx,hk⟩:=(h.keys key).1 e;refine⟨x,List.mem_filter.2 ⟨hx,decide_eq_true fun e3=>?_⟩,hk⟩
              have h7:=(h.held x hx).1;rw[e3,h4] at h7;rw[h7] at e2;exact e2 hk
          · rintro⟨x,hx,hk⟩;obtain⟨Ca,Wc⟩:=List.mem_filter.1 hx;rw[if_neg (by rw[We x Ca (of_decide_eq_true Wc) key hk]; decide)]
            exact(h.keys key).2 ⟨x,Ca,hk⟩
        · show s.2.1.filter _=_;rw[h.still];unfold bF;rw[List.filter_append,List.filter_filter];have:decide ((gF f r.2.1 r r.2.1).1=1)=false:=by unfold gF; rw[if_pos rfl]; simpa using nr
          simp only[List.filter_cons,this,List.filter_nil,Bool.false_eq_true,if_false,List.append_nil];refine List.filter_congr fun x hx=>?_
          unfold gF;by_cases e:x.2.1=r.2.1
          · rw[if_pos e]; simp[e,nr]
          · rw[if_neg e]; simp[e]
        · rcases List.mem_append.1 hx with e | e
          · exact h.met x e
          · rw[List.mem_singleton.1 e]; exact gZ
      · right;rw[if_neg hlen] at rM;exact⟨rM,.inr ⟨Ns,by omega⟩⟩
end
end aZ
end Go.Proofs.YtmibabclefgljaaGreat
