/- RecQ RecW RecX -/
import Derived.Test.YtmibabclefgljaaGreatShaf
import Derived.Laws.CopyOwn
import Derived.Laws.CopyRow
set_option linter.unusedVariables false
set_option linter.unusedSimpArgs false
set_option maxRecDepth 100000
set_option maxHeartbeats 4000000
namespace Go.Proofs.YtmibabclefgljaaGreat
namespace bm
open Go Go.RowKit base aE aX
open Go.WideMaps (keyOf_string_mk)
theorem I8{X B1 B2:Nat}{pv:Value}{w:World}(h:l_ X pv B1 B2 w)(v:Value):l_ X v B1 B2 (w.setCell ⟨X,0,none⟩ v)∧w.grownBy (w.setCell ⟨X,0,none⟩ v) (some X):=by
 have h0:w.heap[X]? =some (.cells #[pv,.map (some B1),.map (some B2)] 175 (0,0)):=h;have s0:=bK h0 0 v;exact⟨s0.1,s0.2⟩
def iE(ops:List Od)(s:ByteArray):Bool:=ops.any fun o=>decide (o.2.1=s)
def tP(h:ByteArray→Nat)(ops:List Od)(s:ByteArray):Nat:=if iE ops s=true then 0 else h s
def r_(h:ByteArray→Nat)(ops:List Od)(t:Nat)(s:ByteArray):Nat:=if iE ops s=true then t else h s
theorem s8(ops:List Od)(o:Od)(s:ByteArray):iE (ops++[o]) s=(iE ops s || decide (o.2.1=s)):=by simp[iE]
theorem FW(h:ByteArray→Nat)(ops:List Od)(o:Od):tP h (ops++[o])=fun s=>if s=o.2.1 then 0 else tP h ops s:=by
 funext s
 unfold tP;rw[s8];by_cases e:o.2.1=s
 · subst e; simp
 · have e2:¬s=o.2.1:=fun x=>e x.symm
   simp[e,e2]
theorem FX(h:ByteArray→Nat)(ops:List Od)(t:Nat)(o:Od)(s:ByteArray):r_ h (ops++[o]) t s=if s=o.2.1 then t else r_ h ops t s:=by
 unfold r_;rw[s8];by_cases e:o.2.1=s
 · subst e; simp
 · have e2:¬s=o.2.1:=fun x=>e x.symm
   simp[e,e2]
theorem AM{ops:Array Oper}{o:Oper}{a:Act}{w:World}{K:Act→World→Prop}{Q:Exit→Act→World→Prop}{E:Prop}(qV:o.guard=none)(m x:Operand)(Cp:o.op=Op.call {callee:=Callee.builtin Builtin.delete,args:=#[m,x],argTypes:=#[173,9]})
 {B n:Nat} {f:ByteArray→Nat} (hm:a.eval m=.map (some B)) (hT:e_ w B n f) {s:ByteArray} (hs:s.size≤maxLen) (hx:a.eval x=.string s)
 (h:∀w',e_ w' B n (fun t=>if t=s then 0 else f t)→w.grownBy w' (some B)→K (a.put o.dst (.tuple #[])) w'):
 if Region.wanted o (yielded ops a.tmps)=true then Oper.wp Tryz.prog o a w K Q else E:=by
 have hw:Region.wanted o (yielded ops a.tmps)=true:=by simp[Region.wanted,qV]
 rw[if_pos hw];obtain⟨D,h1,h2,h3⟩:=hT;obtain⟨w',dA,r1,r2⟩:=h1.drop qm Tryz.underlying173 (keyOf_string_mk (P:=Tryz.prog) Tryz.underlying9 hs) o.type;unfold Oper.wp;simp[execOp,Cp,resolve,invoke,builtin,hm,hx,dA,Result.andThen];exact h w' (e_.del h2 h3 r1) r2.grown
structure Made (w0 w:World) (X B1 B2 n1 n2 g np cp:Nat) (f:Int→Rc) (hf:ByteArray→Nat) (m:List Pr):Prop where
 box:l_ X (.slice (some ⟨g,0,none⟩) np cp) B1 B2 w
 od:gb w0 w B1 n1 f
 rh:e_ w B2 n2 hf
 own:bX w w0.heap.size g np cp m
 fp:Below w0.heap.size w0 w
 Q8:w0.heap.size≤X
 Q9:w0.heap.size≤B1
 O0:w0.heap.size≤B2
 x1:X≠B1
 x2:X≠B2
 Nw:B1≠B2
 gX:g≠X
 g1:g≠B1
 g2:g≠B2
section
variable{w0 w w':World}{X B1 B2 n1 n2 g np cp:Nat}{f:Int→Rc}{hf:ByteArray→Nat}{m:List Pr}
theorem uX{B n:Nat}(h:e_ w B n hf):B<w.heap.size:=by
 obtain⟨D,⟨es,clock,hb,_⟩,_⟩:=h;exact(Array.getElem?_eq_some_iff.1 hb).1
theorem Made.below(h:Made w0 w X B1 B2 n1 n2 g np cp f hf m)(hb:Below w.heap.size w w'):Made w0 w' X B1 B2 n1 n2 g np cp f hf m:=
 ⟨h.box.below hb,h.od.below hb,h.rh.below hb,h.own.below hb,h.fp.trans (hb.mono h.fp.size),h.Q8,h.Q9,h.O0,h.x1,h.x2,h.Nw,h.gX,h.g1,h.g2⟩
end
theorem O1(X B1 B2 n1 n2 g np cp:Nat)(f:Int→Rc)(hf:ByteArray→Nat)(m:List Pr)(kind tx:Int)(a:Option Addr)(len cap:Nat)(l:List Od)(w0 w:World)
 (h:Made w0 w X B1 B2 n1 n2 g np cp f hf m) (hS:dS w0 a len l) (ha:Plain a) (Hp:1≤tx) (Lk:tx≤1000000) (FO:n1≤1099511627776) (pE:n2≤1099511627776) (Zq:np≤1000) (UR:len≤8) (hf8:(f tx).2.2.length≤8) (bh:kind=2→(f tx).2.2≠[]):
 Calls Tryz.prog 135 #[.pointer (some ⟨X,0,none⟩),.agg #[.int .i64 kind,.int .i64 tx,.slice a len cap]] w fun e w'=>
  ∃g' We LX,e=.returned (.tuple #[])∧Made w0 w' X B1 B2 (n1+1) (n2+len) g' We LX (gU f tx (kind,tx,l)) (r_ (tP hf (f tx).2.2) l tx.toNat) (if kind=2 then aQ m (f tx).2.2 else m):=by
 have AJ:(Lit.int .i64 tx).wf=true:=WalkArith.wf_i64 (by omega)
 obtain⟨ops,cT⟩:∃ops,ops=(f tx).2.2:=⟨_,rfl⟩;obtain⟨f',Wf⟩:∃f',f'=gU f tx (kind,tx,l):=⟨_,rfl⟩;rw[←cT] at hf8 bh ⊢;rw[←Wf];obtain⟨W,hW⟩:∃W,W=w.alloc (.cells #[.int .i64 kind,.int .i64 tx,.slice a len cap] 98):=⟨_,rfl⟩;have bw:Below w.heap.size w W:=by rw[hW]; exact(Below.refl _ _).alloc (Nat.le_refl _) _
 have bI:dt w.heap.size kind tx (.slice a len cap) W:=by rw[hW]; exact cG _ _ _ _
 have s_:=h.below bw;have HW:=Hid.mk' hW.symm;have jg:=h.fp.size;have jf:=h.box.lt;have h1l:=h.od.lt;have h2l:=uX h.rh;clear hW;obtain⟨la,lm,lc,Q6,y6,AK⟩:=s_.od.look AJ;have yX:∀x:last.On W.heap.size W,(Instr.lookup 172 (.map (some B1)) (.int .i64 tx) false).run Tryz.prog x.w=.ok (.agg #[.int .i64 (f tx).1,.int .i64 (f tx).2.1,.slice la lm lc]) x.w:=fun x=>AK _ (x.2.block B1 s_.od.lt)
 have Q7:=field2;obtain⟨x0,x1,x2⟩:=s_.box.cells;obtain⟨d0,d1,d2⟩:=bI.cells;have UP:=s_.box.lt;have V_:=bI.lt;have y1:=last.On.cell x1 UP;have z1:=last.On.cell d1 V_;have br:=last.On.iq W.heap.size W;aj Tryz.func135,Tryz.ntmps135;ab fail;rw[HW.out];refine last.ar W.heap.size (by aa) (by aa) ?_
 repeat(ai (fail))
 refine wpQuiet_nil ?_;intro w2 j_;obtain⟨AL,j_⟩:=j_;have be:Below W.heap.size W w2:=by rw[j_]; exact AL.2
 clear j_ AL br yX y1 z1 Q7 AK x0 x1 x2 d0 d1 d2 HW;have US:=s_.below be;have cv:=bI.below be;have O2:=US.box.lt;have O3:=cv.lt;obtain⟨x0,x1,x2⟩:=US.box.cells;obtain⟨d0,d1,d2⟩:=cv.cells;have y1:=last.On.cell x1 O2;have z0:=last.On.cell d0 O3;have z1:=last.On.cell d1 O3;have z2:=last.On.cell d2 O3;have br:=last.On.iq w2.heap.size w2;ab fail;refine last.kY w2.heap.size 7 _ rfl (by aa) (by aa) (by aa) ?_
 simp only[List.take_succ_cons,List.take_zero];repeat(ai (fail))
 refine wpQuiet_nil ?_;intro w3 lN;obtain⟨Zr,lN⟩:=lN;have dI:Below w2.heap.size w2 w3:=by rw[lN]; exact Zr.2
 clear lN Zr br y1 z0 z1 z2 x0 x1 x2 d0 d1 d2;have xI:=US.below dI;have sd:=cv.below dI;have Mb:=xI.od;ab (jY; refine q_ rfl _ _ _ rfl rfl Mb (by unfold maxLen; omega) rfl AJ (r:=(kind,tx,l)) rfl ha hS ?_)
 intro w4 lO zV;rw[←Wf] at lO;have Hq:Made w0 w4 X B1 B2 (n1+1) n2 g np cp f' hf m:=⟨xI.box.grown zV (by intro e; exact xI.x1 (Option.some.inj e)),lO,xI.rh.grown zV (by intro e; exact xI.Nw (Option.some.inj e).symm),xI.own.grown zV (by intro e; exact xI.g1 (Option.some.inj e)),xI.fp.grown zV xI.fp.size (fun j e=>by cases e; exact xI.Q9),xI.Q8,xI.Q9,xI.O0,xI.x1,xI.x2,xI.Nw,xI.gX,xI.g1,xI.g2⟩
 have Mc:=sd.grown zV (by intro e; have:=Option.some.inj e; omega)
 rw[←cT] at y6;have ri:=y6.1;subst ri;have O4:=y6.2.2.1;clear xI US s_ h sd cv bI Mb lO zV dI be bw cT Wf;ab fail;aN [26] (fun i wr=>∃k:Nat,k≤ops.length∧i=.int .i64 (k:Int)∧Made w0 wr X B1 B2 (n1+1) n2 g np cp f' (tP hf (ops.take k)) m∧dt w.heap.size kind tx (.slice a len cap) wr) (fun i _=>ops.length - (intOf i).toNat)
 case atStart=>exact⟨0,Nat.zero_le _,rfl,Hq,Mc⟩
 case round=>
  clear Hq Mc;obtain⟨k,hk,rfl,hM,bI⟩:=hrel;by_cases bn:k<ops.length
  · obtain⟨b,off,hb,_⟩:=y6.2.2.2 (by omega)
    subst hb;obtain⟨c0,c1,c2⟩:=(y6.below hM.fp).cells k bn;have fZ:(k:Int)<(ops.length:Int):=by omega
    have dV:=(O4 _ (List.getElem_mem bn)).2.1;have ir:Hid (tP hf (ops.take (k+1))=fun s=>if s=ops[k].2.1 then 0 else tP hf (ops.take k) s):=by show _=_; rw[List.take_succ_eq_append_getElem bn,FW]
    generalize ops[k]=p at *;obtain⟨V,hV⟩:∃V,V=wr.alloc (.cells #[.int .i64 p.1,.string p.2.1,.string p.2.2] 121):=⟨_,rfl⟩;have nw:Below wr.heap.size wr V:=by rw[hV]; exact(Below.refl _ _).alloc (Nat.le_refl _) _
    have wT:=hM.below nw;have Dh:=bI.below nw;have o1:V.cell? ⟨wr.heap.size,1,none⟩=some (.string p.2.1):=by rw[hV]; simp
    have Zs:wr.heap.size<V.heap.size:=by rw[hV]; simp
    obtain⟨x0,x1,x2⟩:=wT.box.cells;have Wg:V.drew.cell? ⟨X,2,none⟩=some (.map (some B2)):=x2;have Wh:V.drew.cell? ⟨wr.heap.size,1,none⟩=some (.string p.2.1):=o1;have HV:=Hid.mk' hV.symm;have ku:=wT.below ((Below.refl _ _).drew);have oe:=Dh.below ((Below.refl _ _).drew);have L3:=ku.rh;have Wi:=hM.box.lt;have Zt:=uX hM.rh;clear hV hM bI x0 x1 o1 x2 nw wT Dh;ab fail;rw[HV.out];clear HV c0 c1 c2;jM (fun w'=>w'.cell? ⟨X,2,none⟩=some (.map (some B2))∧w'.cell? ⟨wr.heap.size,1,none⟩=some (.string p.2.1))
     (first | (exact⟨Wg,Wh⟩) | (ag assumption) | (exact⟨dJ.cell Wg (fun e=>ku.x2 (Option.some.inj e)),dJ.cell Wh (fun e=>Nat.lt_irrefl _ ((Option.some.inj e:wr.heap.size=B2) ▸ Zt))⟩))
     (first | (refine AM rfl (.tmp 33) (.tmp 35) rfl rfl L3 dV rfl ?_; intro w6 Q_ dJ))
    rw[←ir.out] at Q_;have Wj:Made w0 w6 X B1 B2 (n1+1) n2 g np cp f' (tP hf (ops.take (k+1))) m:=⟨ku.box.grown dJ (by intro e; exact ku.x2 (Option.some.inj e)),ku.od.grown dJ (by intro e; exact ku.Nw (Option.some.inj e)),Q_,ku.own.grown dJ (by intro e; exact ku.g2 (Option.some.inj e)),ku.fp.grown dJ ku.fp.size (fun j e=>by cases e; exact ku.O0),ku.Q8,ku.Q9,ku.O0,ku.x1,ku.x2,ku.Nw,ku.gX,ku.g1,ku.g2⟩
    have Di:=oe.grown dJ (by intro e; have:=Option.some.inj e; omega)
    clear dJ Q_ ku oe L3 Wg Wh;ab fail;aA
    case rel=>exact⟨k+1,by omega,by aF,Wj,Di⟩
    case measure=>simp[intOf]; omega
  · have HE:Hid (ops.take k=ops):=List.take_of_length_le (by omega)
    rw[HE.out] at hM;have mb:=hS.1;have Wk:=hS.2.2.1;obtain⟨d0,d1,d2⟩:=bI.cells;generalize hh1:tP hf ops=h1 at *;have hex:¬(k:Int)<(ops.length:Int):=by omega
    clear HE hk;ab fail;clear hex bn;aN [40] (fun i wr=>∃k:Nat,k≤l.length∧i=.int .i64 (k:Int)∧Made w0 wr X B1 B2 (n1+1) (n2+k) g np cp f' (r_ h1 (l.take k) tx.toNat) m∧dt w.heap.size kind tx (.slice a len cap) wr) (fun i _=>l.length - (intOf i).toNat)
    case atStart=>exact⟨0,Nat.zero_le _,rfl,hM,bI⟩
    case round=>
     clear hM bI d0 d1 d2;obtain⟨k,hk,rfl,hM,bI⟩:=hrel;by_cases bn:k<l.length
     · obtain⟨b,off,hb,_⟩:=hS.2.2.2 (by omega)
       subst hb;obtain⟨c0,c1,c2⟩:=(hS.below hM.fp).cells k bn;have fZ:(k:Int)<(len:Int):=by omega
       have dV:=(Wk _ (List.getElem_mem bn)).2.1;have ir:Hid (∀s,r_ h1 (l.take (k+1)) tx.toNat s=if s=l[k].2.1 then tx.toNat else r_ h1 (l.take k) tx.toNat s):=fun s=>by rw[List.take_succ_eq_append_getElem bn,FX]
       generalize l[k]=p at *;obtain⟨V,hV⟩:∃V,V=wr.alloc (.cells #[.int .i64 p.1,.string p.2.1,.string p.2.2] 121):=⟨_,rfl⟩;have nw:Below wr.heap.size wr V:=by rw[hV]; exact(Below.refl _ _).alloc (Nat.le_refl _) _
       have wT:=hM.below nw;have Dh:=bI.below nw;have o1:V.cell? ⟨wr.heap.size,1,none⟩=some (.string p.2.1):=by rw[hV]; simp
       have Zs:wr.heap.size<V.heap.size:=by rw[hV]; simp
       obtain⟨x0,x1,x2⟩:=wT.box.cells;obtain⟨d0,d1,d2⟩:=Dh.cells;have y2:=last.On.cell x2 wT.box.lt;have z1:=last.On.cell o1 Zs;have t1:=last.On.cell d1 Dh.lt;have br:=last.On.iq V.heap.size V;have HV:=Hid.mk' hV.symm;have yW:=keyOf_string_mk (P:=Tryz.prog) Tryz.underlying9 dV;clear hV hM bI x0 x1 x2 o1 nw d0 d1 d2;ab fail;rw[HV.out];refine last.kY V.heap.size 8 _ rfl (by aa) (by aa) (by aa) ?_
       simp only[List.take_succ_cons,List.take_zero];repeat(ai (fail))
       refine wpQuiet_nil ?_;intro w5 cf;obtain⟨Zu,cf⟩:=cf;have dx:Below V.heap.size V w5:=by rw[cf]; exact Zu.2
       clear cf Zu br y2 z1 t1 HV c0 c1 c2;have ku:=wT.below dx;have oe:=Dh.below dx;obtain⟨D,aK,hD,uT⟩:=ku.rh;ab (jY; refine wpList_mapUpdate_own _ rfl _ _ _ 173 rfl 9 3 qm Tryz.underlying173 _ B2 (n2+k) D rfl aK (by unfold maxLen; omega) _ _ _ rfl rfl yW _ [] (plainElem_int Tryz.underlying3 AJ) ?_)
       intro w6 Nx dJ;have Q_:e_ w6 B2 (n2+(k+1)) (r_ h1 (l.take (k+1)) tx.toNat):=e_.put hD uT (by rw[ir.out,if_pos rfl]; omega) (fun s hs=>by rw[ir.out,if_neg hs]) Nx
       have Wj:Made w0 w6 X B1 B2 (n1+1) (n2+(k+1)) g np cp f' (r_ h1 (l.take (k+1)) tx.toNat) m:=⟨ku.box.grown dJ (by intro e; exact ku.x2 (Option.some.inj e)),ku.od.grown dJ (by intro e; exact ku.Nw (Option.some.inj e)),Q_,ku.own.grown dJ (by intro e; exact ku.g2 (Option.some.inj e)),ku.fp.grown dJ ku.fp.size (fun j e=>by cases e; exact ku.O0),ku.Q8,ku.Q9,ku.O0,ku.x1,ku.x2,ku.Nw,ku.gX,ku.g1,ku.g2⟩
       have Di:=oe.grown dJ (by intro e; have:=Option.some.inj e; omega)
       clear aK Nx dJ Q_ ku oe wT Dh hD uT;ab fail;aA
       case rel=>exact⟨k+1,by omega,by aF,Wj,Di⟩
       case measure=>simp[intOf]; omega
     · have HE:Hid (l.take k=l):=List.take_of_length_le (by omega)
       rw[HE.out] at hM;have hkL:k=len:=by omega
       subst hkL;obtain⟨d0,d1,d2⟩:=bI.cells;by_cases iu:kind=2
       · have hpo:=bh iu;have R8:0<ops.length:=List.length_pos_iff.2 hpo;obtain⟨b2,kP,be,_⟩:=y6.2.2.2 R8;subst be;have Ih:=Hid.mk' (De g 0 np cp m b2 kP ops.length lc ops wr hM.own.sl (y6.below hM.fp) hM.own.cases.1 (by omega))
         obtain⟨x0,x1,x2⟩:=hM.box.cells;subst iu;have hXr:=hM.box.lt;have h1r:=hM.od.lt;have Zt:=uX hM.rh;ab fail;refine Ih.out.mono ?_;rintro e w7 ⟨g7,n7,Ll,rfl,r9,dd⟩;have AN:=hM.below dd;obtain⟨S1,S2⟩:=I8 AN.box (.slice (some ⟨g7,0,none⟩) n7 Ll);have Hr:=r9.lt;have HM8:Hid (Made w0 (w7.setCell ⟨X,0,none⟩ (.slice (some ⟨g7,0,none⟩) n7 Ll)) X B1 B2 (n1+1) (n2+k) g7 n7 Ll f' (r_ h1 l tx.toNat) (aQ m ops)):=⟨S1,AN.od.grown S2 (by intro e; exact AN.x1 (Option.some.inj e).symm),AN.rh.grown S2 (by intro e; exact AN.x2 (Option.some.inj e).symm),(r9.mono hM.fp.size).grown S2 (by intro e; have:=Option.some.inj e; omega),AN.fp.grown S2 AN.fp.size (fun j e=>by cases e; exact AN.Q8),AN.Q8,AN.Q9,AN.O0,AN.x1,AN.x2,AN.Nw,by omega,by omega,by omega⟩
         obtain⟨q0,q1,q2⟩:=AN.box.cells;have fq:=AN.box.fz 0;clear Ih hM AN S1 S2 r9 dd;ab fail;refine bodyPost_end (v:=.tuple #[]) ?_ rfl ⟨rfl,g7,n7,Ll,HM8.out⟩;simp[results,Tryz.results135,go_sem]
       · have R7:(kind==2)=false:=beq_eq_false_iff_ne.2 iu;ab fail;refine bodyPost_end (v:=.tuple #[]) ?_ rfl ⟨rfl,g,np,cp,hM⟩;simp[results,Tryz.results135,go_sem]
end bm
namespace bm
open Go Go.RowKit base aE aX
theorem FY{X:Nat}{k t:Int}{v:Value}{w:World}(h:dt X k t v w)(a b c:Value):
 ((((w.setCell ⟨X,0,none⟩ a).setCell ⟨X,1,none⟩ b).setCell ⟨X,2,none⟩ c).heap[X]? =some (.cells #[a,b,c] 98 (0,0)))∧w.grownBy (((w.setCell ⟨X,0,none⟩ a).setCell ⟨X,1,none⟩ b).setCell ⟨X,2,none⟩ c) (some X):=by
 have h0:w.heap[X]? =some (.cells #[.int .i64 k,.int .i64 t,v] 98 (0,0)):=h;have s0:=bK h0 0 a;have s1:=bK s0.1 1 b;have s2:=bK s1.1 2 c;exact⟨s2.1,az (az s0.2 s1.2) s2.2⟩
theorem dt.fz{X:Nat}{k t:Int}{v:Value}{w:World}(h:dt X k t v w)(j:Nat):w.frozen? ⟨X,j,none⟩=false:=by unfold dt at h; simp[World.frozen?,h]
theorem y7(w:World)(g L Md:Nat)(a:Option Addr)(Me:Nat)(cur:Array Value)(l:List Od)(hl:l.length=L)(ty:TypeId)
 (hg:w.heap[g]? =some (.cells cur 121 (0,0))) (hc:cur.size=L * 3) (Mf:dS w a L l):
 (Builtin.copy_ #[73,73] ty #[.slice (some ⟨g,0,none⟩) L Md,.slice a L Me]).run Tryz.prog w=.ok (goInt L) (w.setRow g (aW l).toArray):=by
 obtain⟨i0,hi,dE,dD,cO⟩:=info_parts sQ;by_cases h0:L=0
 · subst h0;have e1:l=[]:=List.eq_nil_of_length_eq_zero hl;subst e1;have e2:cur=#[]:=Array.eq_empty_of_size_eq_zero (by omega)
   subst e2;have R9:w.setRow g (aW []).toArray=w:=setRow_self w g #[] _ (0,0) hg;rw[R9];cases a with
   | none=>simp[Builtin.copy_,run_underlying Tryz.underlying73,Builtin.lenOf,Builtin.firstCells,sizeOf,typeInfo,hi,dD,storeCells]
   | some ad=>simp[Builtin.copy_,run_underlying Tryz.underlying73,Builtin.lenOf,Builtin.firstCells,sizeOf,typeInfo,hi,dD,storeCells,loadCells,loadCellsFrom]
 · obtain⟨b,off,ha,_⟩:=Mf.2.2.2 (by omega)
   subst ha;have wg:=qh Mf.cells;have R_:=run_loadCells_list (P:=Tryz.prog) w ⟨b,off,none⟩ (aW l) wg;have cF:=run_storeCells_at Tryz.prog g 0 121 (aW l) 0 cur w hg (by rw[cW]; omega) (bM l)
   have Sa:cur.toList.drop (aW l).length=[]:=List.drop_eq_nil_of_le (by rw[cW]; simp; omega)
   simp only[Nat.zero_add,List.take_zero,List.nil_append,Sa,List.append_nil] at cF;rw[cW,hl] at R_;simp[Builtin.copy_,run_underlying Tryz.underlying73,Builtin.lenOf,Builtin.firstCells,sizeOf,typeInfo,hi,dD,R_,cF]
theorem tQ{w:World}{ops:Array Oper}{rest:List Oper}{o:Oper}{a:Act}{Q:Exit→Act→World→Prop}(qV:o.guard=none)(d s:Operand)
 (ho:o.op=.call {callee:=.builtin .copy,args:=#[d,s],argTypes:=#[73,73]})
 (g L Md:Nat) (ad:Option Addr) (Me:Nat) (cur:Array Value) (l:List Od) (hl:l.length=L) (hd:a.eval d=.slice (some ⟨g,0,none⟩) L Md) (hs:a.eval s=.slice ad L Me)
 (hg:w.heap[g]? =some (.cells cur 121 (0,0))) (hc:cur.size=L * 3) (Mf:dS w ad L l)
 (h:∀w',w'.heap[g]? =some (.cells (aW l).toArray 121 (0,0))→w.grownBy w' (some g)→wpList Tryz.prog ops Q rest (a.put o.dst (goInt L)) w'):wpList Tryz.prog ops Q (o::rest) a w:=by
 refine wpList_plain qV fun K hK=>?_
 have dA:=y7 w g L Md ad Me cur l hl o.type hg hc Mf;unfold Oper.wp;simp[execOp,ho,resolve,invoke,builtin,hd,hs,dA,Result.andThen];exact hK _ _ (h _ (setRow_heap w g cur _ _ (0,0) hg) ⟨rfl,rfl,rfl,by simp[World.setRow],fun k hk bh=>setRow_other w g k _ (by intro e; exact bh (by rw[e]))⟩)
theorem AO{w:World}{base g n:Nat}{l:List Od}(hn:l.length=n)(fk:∀p∈l,ed p)(hm:n≤maxLen)(hb:base≤g)(h:w.heap[g]? =some (.cells (aW l).toArray 121 (0,0))):ck w base g n n l:=
 ⟨hn,fk,by rw[cW]; omega,.inr ⟨g,n,_,rfl,hb,h,Nat.le_refl _,hm,by simp[cW,hn],by rw[List.take_of_length_le (by simp[cW]; omega)]⟩⟩
theorem AP(kind tx:Int)(a:Option Addr)(len cap:Nat)(l:List Od)(w:World)(h:dS w a len l)(jg:len≤1099511627776):
 Calls Tryz.prog 129 #[.agg #[.int .i64 kind,.int .i64 tx,.slice a len cap]] w fun e w'=>
  ∃g,e=.returned (.agg #[.int .i64 kind,.int .i64 tx,.slice (some ⟨g,0,none⟩) len len])∧ck w' w.heap.size g len len l∧Below w.heap.size w w':=by
 obtain⟨i0,hi,dE,dD,cO⟩:=info_parts sQ;obtain⟨W,hW⟩:∃W,W=(w.alloc (.cells #[.int .i64 kind,.int .i64 tx,.slice a len cap] 98)).alloc (.cells #[.int .i64 0,.int .i64 0,.slice none 0 0] 98):=⟨_,rfl⟩;have bw:Below w.heap.size w (w.alloc (.cells #[.int .i64 kind,.int .i64 tx,.slice a len cap] 98)):=(Below.refl _ _).alloc (Nat.le_refl _) _;have hB:Below w.heap.size w W:=by rw[hW]; exact bw.alloc bw.size _
 have hT:dt w.heap.size kind tx (.slice a len cap) W:=by rw[hW]; exact(cG w _ _ _).below ((Below.refl _ _).alloc (Nat.le_refl _) _)
 have hR:dt (w.heap.size+1) 0 0 (.slice none 0 0) W:=by
  rw[hW];have:=cG (w.alloc (.cells #[.int .i64 kind,.int .i64 tx,.slice a len cap] 98)) 0 0 (.slice none 0 0);oU [show(w.alloc (.cells #[.int .i64 kind,.int .i64 tx,.slice a len cap] 98)).heap.size=w.heap.size+1 by simp] at this
 have HW:=Hid.mk' hW.symm;have hl:=h.1;have fk:=h.2.2.1;have Ny:=h.2.1;have mb:(len:Int)≤1099511627776:=by omega
 have Nz:W.heap.size=w.heap.size+1+1:=by rw[hW]; simp
 have jP:w.heap.size≤((w.alloc (.cells #[.int .i64 kind,.int .i64 tx,.slice a len cap] 98)).alloc (.cells #[.int .i64 0,.int .i64 0,.slice none 0 0] 98)).heap.size:=by rw[←hW]; exact hB.size
 obtain⟨d0,d1,d2⟩:=hT.cells;rw[hW] at d0 d1 d2;have Wl:=Hid.mk' Nz;clear hW Nz;aj Tryz.func129,Tryz.ntmps129;ab (o_; refine wpList_make_full _ rfl _ _ 73 rfl w.heap.size 121 i0 (.agg #[.int .i64 0,.string ⟨#[]⟩,.string ⟨#[]⟩]) 3 Tryz.underlying73 hi dE dD _ _ _ _ len rfl rfl rfl rfl ?b2 ?b3 ?b4 ?_)
 case b2=>rw[cO]; omega
 case b3=>exact Ny
 case b4=>exact jP
 intro w2 nZ Dj;rw[HW.out] at Dj;have be:Below W.heap.size W w2:=(Below.refl _ _).grown Dj (Nat.le_refl _) (fun k e=>by cases e)
 have LY:=hT.below be;have dF:=hR.below be;have dL:=hB.trans (be.mono hB.size);obtain⟨cur,xJ,wg⟩:∃cur:Array Value,w2.heap[w.heap.size+1+1]? =some (.cells cur 121 (0,0))∧cur.size=len * 3:=by
  rcases nZ.2 with⟨h',_⟩ | ⟨g',aY,cur,h',_,hg,_,_,hs,_⟩
  · simp at h'
  · simp at h';obtain⟨rfl,rfl⟩:=h';exact⟨cur,hg,hs⟩
 have zW:=h.below dL;clear d0 d1 d2 nZ Dj jP;obtain⟨d0,d1,d2⟩:=LY.cells;ab (refine tQ rfl (.tmp 8) (.tmp 10) rfl (w.heap.size+1+1) len _ _ _ cur l hl rfl rfl xJ wg zW ?_);intro w3 NA kQ;have FH:=LY.grown kQ (by simp; omega)
 have cR:=dF.grown kQ (by simp)
 have cY:=dL.grown kQ dL.size (fun k e=>by cases e; omega)
 have ew:ck w3 w.heap.size (w.heap.size+1+1) len len l:=AO hl fk Ny (by omega) NA
 clear d0 d1 d2;obtain⟨d0,d1,d2⟩:=FH.cells;obtain⟨r0,r1,r2⟩:=cR.cells;have f0:=cR.fz 0;have f1:=cR.fz 1;have f2:=cR.fz 2;obtain⟨z,zg⟩:=FY cR (.int .i64 kind) (.int .i64 tx) (.slice (some ⟨w.heap.size+1+1,0,none⟩) len len);have hz:dt (w.heap.size+1) kind tx (.slice (some ⟨w.heap.size+1+1,0,none⟩) len len) _:=z;have l8:=hz.cells;have OL:=Hid.mk' (cY.grown zg cY.size (fun j e=>by cases e; omega))
 have FI:=Hid.mk' (ew.grown zg (by simp))
 clear NA kQ xJ;ab fail;refine bodyPost_ret (v:=.agg #[.int .i64 kind,.int .i64 tx,.slice (some ⟨w.heap.size+1+1,0,none⟩) len len]) ?_ rfl ⟨_,rfl,FI.out,OL.out⟩;simp[results,Tryz.results129,go_sem,l8.1,l8.2.1,l8.2.2]
theorem mR:(Tryz.prog.info? 98).map (fun i=>(i.zero,i.size,i.bytes))=some (some (.agg #[.int .i64 0,.int .i64 0,.slice none 0 0]),3,40):=by aa
theorem jj(w:World)(a b:Int)(v:Value)(t:TypeId):∀j u,([.int .i64 a,.int .i64 b,v]:List Value)[j]? =some u→(w.alloc (.cells #[.int .i64 a,.int .i64 b,v] t)).cell? ((⟨w.heap.size,0,none⟩:Addr).add j)=some u:=s7 w (.int .i64 a) (.int .i64 b) v t
theorem me(a b:Int){v:Value}(h:v.oneCell'=true):∀u∈([.int .i64 a,.int .i64 b,v]:List Value),u.oneCell'=true:=by
 intro u hu;simp at hu;rcases hu with rfl | rfl | rfl
 · rfl
 · rfl
 · exact h
def bT(f:Int→Rc)(l:List Rc):List Rc:=l.filter fun r=>decide ((f r.2.1).1=1)
theorem Dk(f:Int→Rc)(l:List Rc)(k:Nat)(h:k<l.length):bT f (l.take (k+1))=if(f l[k].2.1).1=1 then bT f (l.take k)++[l[k]] else bT f (l.take k):=by
 unfold bT;rw[List.take_succ_eq_append_getElem h,List.filter_append];by_cases e:(f l[k].2.1).1=1
 · rw[if_pos e]; simp[e]
 · rw[if_neg e]; simp[e]
theorem I9(f:Int→Rc)(l:List Rc):(bT f l).length≤l.length:=List.length_filter_le _ _
theorem I_(X B1 B2 n1:Nat)(pv:Value)(f:Int→Rc)(a:Option Addr)(len cap:Nat)(l:List Rc)(w0 w:World)(hM:l_ X pv B1 B2 w)(hL:gb w0 w B1 n1 f)(h:rP w a len l)(jg:len≤1099511627776)(cT:∀r∈l,r.2.2.length≤1099511627776):
 Calls Tryz.prog 136 #[.pointer (some ⟨X,0,none⟩),.slice a len cap] w fun e w'=>
  ∃g cp hs,e=.returned (.slice (some ⟨g,0,none⟩) (bT f l).length cp)∧bB w' w.heap.size (.slice (some ⟨g,0,none⟩) (bT f l).length cp) (bT f l) hs∧Below w.heap.size w w':=by
 obtain⟨i0,hi,dE,dD,cO⟩:=info_parts mR;obtain⟨hl,hm,fk,hc⟩:=id h;subst hl;unfold maxLen at hm;have bw:Below w.heap.size w (w.alloc (.cells #[] 98)):=(Below.refl _ _).alloc (Nat.le_refl _) _;have qZ:=oY w w.heap.size (Nat.le_refl _);aj Tryz.func136,Tryz.ntmps136;ab (ak; fail)
 aN [5,11] (fun ov iv wr=>∃(k g cp:Nat) (hs:List Value),k≤l.length∧ov=.slice (some ⟨g,0,none⟩) (bT f (l.take k)).length cp∧iv=.int .i64 (k:Int)∧bB wr w.heap.size (.slice (some ⟨g,0,none⟩) (bT f (l.take k)).length cp) (bT f (l.take k)) hs∧Below w.heap.size w wr) (fun _ iv _=>l.length - (intOf iv).toNat)
 case atStart=>exact⟨0,w.heap.size,0,[],Nat.zero_le _,rfl,rfl,qZ,bw⟩
 case round=>
  clear qZ bw;obtain⟨k,g,cp,hs,hk,rfl,rfl,hO,hB⟩:=hrel;have nu:=hB.size;by_cases bn:k<l.length
  · obtain⟨b,off,ha,_⟩:=hc (by omega)
    subst ha;obtain⟨c0,c1,pa,pl,pc,c2,dT,_⟩:=(h.at k bn).below hB;have fZ:(k:Int)<(l.length:Int):=by omega
    have xK:=fk _ (List.getElem_mem bn);have AJ:(Lit.int .i64 l[k].2.1).wf=true:=xK.2.1;have pf:=cT _ (List.getElem_mem bn);have ir:=Hid.mk' (Dk f l k bn);have hsl:=I9 f (l.take k);have iV:(l.take k).length≤k:=List.length_take_le _ _;generalize l[k]=r at *;generalize bT f (l.take k)=acc at *;obtain⟨W,hW⟩:∃W,W=wr.alloc (.cells #[.int .i64 r.1,.int .i64 r.2.1,.slice pa pl pc] 98):=⟨_,rfl⟩;have bw:Below wr.heap.size wr W:=by rw[hW]; exact(Below.refl _ _).alloc (Nat.le_refl _) _
    have bI:dt wr.heap.size r.1 r.2.1 (.slice pa pl pc) W:=by rw[hW]; exact cG _ _ _ _
    have zQ:=hB.trans (bw.mono nu);have Zv:=hM.below zQ;have Zw:=hL.below zQ;have O5:=hO.below bw;obtain⟨la,lm,lc,Q6,y6,AK⟩:=Zw.look AJ;have yX:∀x:last.On W.heap.size W,(Instr.lookup 172 (.map (some B1)) (.int .i64 r.2.1) false).run Tryz.prog x.w=.ok (.agg #[.int .i64 (f r.2.1).1,.int .i64 (f r.2.1).2.1,.slice la lm lc]) x.w:=fun x=>AK _ (x.2.block B1 Zw.lt)
    have Q7:=I7;obtain⟨x0,x1,x2⟩:=Zv.cells;obtain⟨d0,d1,d2⟩:=bI.cells;have y1:=last.On.cell x1 Zv.lt;have z1:=last.On.cell d1 bI.lt;have br:=last.On.iq W.heap.size W;have HW:=Hid.mk' hW.symm;have Zx:=dT.below bw;clear hW AK hO x0 x1 x2 d0 d1 d2 dT;by_cases hh:(f r.2.1).1=1
    · have hhb:((f r.2.1).1==1)=true:=by rw[hh]; rfl
      rw[if_pos hh] at ir;ab (ak; fail)
      rw[HW.out];refine last.ar W.heap.size (by aa) (by aa) ?_
      repeat(ai (fail))
      refine wpQuiet_nil ?_;intro w2 j_;obtain⟨AL,j_⟩:=j_;have be:Below W.heap.size W w2:=by rw[j_]; exact AL.2
      clear j_ AL br yX y1 z1 Q7 HW c0 c1 c2;have fS:=O5.below be;have dL:=zQ.trans (be.mono zQ.size);obtain⟨d0,d1,d2⟩:=(bI.below be).cells;have gI:=Zx.1;have Zy:=Hid.mk' (AP r.1 r.2.1 pa pl pc r.2.2 w2 (Zx.below be) (by omega))
      ab (ak; fail)
      refine Zy.out.mono ?_;rintro e w3 ⟨g3,rfl,ew,dI⟩;have kc:=(fK ew).mono (base':=w.heap.size) dL.size;have NB:=fS.below dI;have cY:=dL.trans (dI.mono dL.size);have kQ:=ew.lt;have jQ:∀j,(Value.slice (some ⟨g3,0,none⟩) pl pl).ownBlock=some j→¬dq (.slice (some ⟨g,0,none⟩) acc.length cp) hs j:=fun j hj hb=>by
       have e1:g3=j:=by simpa[Value.ownBlock] using hj
       have:=(fS.lt j hb).2;omega
      have y8:=Hid.mk' jQ;have ta:Below w3.heap.size w3 (w3.alloc (.cells #[.int .i64 r.1,.int .i64 r.2.1,.slice (some ⟨g3,0,none⟩) pl pl] 98)):=(Below.refl _ _).alloc (Nat.le_refl _) _;have ej:=NB.below ta;have zX:=kc.below ta;have eF:=cY.trans (ta.mono cY.size);have Ja:=Hid.mk' (jj w3 r.1 r.2.1 (.slice (some ⟨g3,0,none⟩) pl pl) 98);have Cq:=Hid.mk' (me r.1 r.2.1 kc.one);have fR:acc.length+1≤maxLen:=by unfold maxLen; omega
      have kn:(acc.length+1) * 40≤140737488355328:=by omega
      clear Zy ew dI kc NB cY ta jQ fS dL d0 d1 d2;ab (ak; refine wpList_append_own _ rfl (.tmp 24) (.tmp 27) 41 rfl w.heap.size 98 i0 (.agg #[.int .i64 0,.int .i64 0,.slice none 0 0]) 3 40 Tryz.underlying41 hi dE dD cO rfl (by decide) _ _ _ rfl ej.row ⟨w3.heap.size,0,none⟩ 1 1 _ rfl rfl Ja.out Cq.out fR kn eF.size ?_)
      intro v5 w5 iB fa uY;have cC:¬v5=.slice none 0 0:=by simpa using uY
      have eD:=ej.snoc zX xK y8.out iB fa;have ez:Below w.heap.size w w5:=eF.grown fa eF.size (fun j e=>(ej.row.lt j e).1)
      rw[←ir.out] at eD;rcases eD.shape with⟨FZ,_⟩ | ⟨g5,wj,FZ,_⟩
      · exact absurd FZ cC
      · subst FZ;have wS:=Hid.mk' eD;clear iB fa uY cC eD ej eF zX Ja Cq y8;ab (ak; fail)
        aA
        case rel=>exact⟨k+1,g5,wj,_,by omega,by rw[ir.out],by aF,wS.out,ez⟩
        case measure=>simp[intOf]; omega
    · have hhb:((f r.2.1).1==1)=false:=beq_eq_false_iff_ne.2 hh;rw[if_neg hh] at ir;ab (ak; fail)
      rw[HW.out];refine last.ar W.heap.size (by aa) (by aa) ?_
      repeat(ai (fail))
      refine wpQuiet_nil ?_;intro w2 j_;obtain⟨AL,j_⟩:=j_;have be:Below W.heap.size W w2:=by rw[j_]; exact AL.2
      clear j_ AL br yX y1 z1 Q7 HW c0 c1 c2;have fS:=O5.below be;have dL:=zQ.trans (be.mono zQ.size);rw[←ir.out] at fS;have Wm:Hid (acc.length=(bT f (l.take (k+1))).length):=by show _=_; rw[ir.out]
      ab (ak; fail)
      aA
      case rel=>exact⟨k+1,g,cp,hs,by omega,by rw[Wm.out],by aF,fS,dL⟩
      case measure=>simp[intOf]; omega
  · have HE:Hid (l.take k=l):=List.take_of_length_le (by omega)
    have Wm:Hid (bT f (l.take k)=bT f l):=by show _=_; rw[HE.out]
    have hex:¬(k:Int)<(l.length:Int):=by omega
    rw[Wm.out] at hO ⊢;ab (ak; fail)
    an;exact⟨g,cp,rfl,⟨hs,hO⟩,hB⟩
end bm
namespace bm
open Go Go.RowKit base aE aX
def pS(m:List Pr)(f:Int→Rc)(r:Rc):List Pr:=if r.1=2 then aQ m (f r.2.1).2.2 else m
def uZ(f:Int→Rc)(hf:ByteArray→Nat)(r:Rc):ByteArray→Nat:=r_ (tP hf (f r.2.1).2.2) r.2.2 r.2.1.toNat
structure Rel (pre:List Rc) (s:St) (f:Int→Rc) (hf:ByteArray→Nat):Prop where
 new:∀tx,tx∉s.2.2→f tx=(0,0,[])
 old:∀tx,tx∈s.2.2→(f tx).1≠0
 held:∀r∈s.2.1,f r.2.1=r∧bu r=true∧r.1=1
 back:∀tx,(f tx).1=1→f tx∈s.2.1∧(f tx).2.1=tx
 bare:∀tx,(f tx).1≠1→(f tx).2.2=[]
 keys:∀key,hf key≠0↔∃r∈s.2.1,iE r.2.2 key=true
 still:s.2.1=bT f pre
 met:∀r∈pre,r.2.1∈s.2.2
 jS:s.1.length≤60
 apart:s.2.1.Pairwise fun a b=>a.2.1≠b.2.1∧∀key,iE a.2.2 key=true→iE b.2.2 key=false
theorem u6(ops:List Od)(s:ByteArray):iE ops s=true↔∃o∈ops,o.2.1=s:=by simp[iE]
theorem u7(held:List Rc)(ops:List Od):locked held ops=true↔∃r∈held,∃o∈ops,iE r.2.2 o.2.1=true:=by
 unfold locked;simp only[List.any_eq_true,decide_eq_true_eq,u6];constructor
 · rintro⟨r,hr,o,ho,p,hp,e⟩; exact⟨r,hr,p,hp,o,ho,e⟩
 · rintro⟨r,hr,p,hp,o,ho,e⟩; exact⟨r,hr,o,ho,p,hp,e⟩
theorem F7:Rel [] ([],[],[]) (fun _=>(0,0,[])) (fun _=>0):=
 ⟨fun _ _=>rfl,fun _ h=>absurd h List.not_mem_nil,fun _ h=>absurd h List.not_mem_nil,fun _ h=>by simp at h,fun _ _=>rfl,fun key=>by simp,rfl,fun _ h=>absurd h List.not_mem_nil,Nat.zero_le _,List.Pairwise.nil⟩
theorem O6{held:List Rc}{tx:Int}{k:Nat}(hp:held.Pairwise fun a b=>a.2.1≠b.2.1)(h:aR tx held=some k):held.take k++held.drop (k+1)=held.filter fun r=>decide (r.2.1≠tx):=by
 induction held generalizing k with
 | nil=>cases h
 | cons r l ih=>
  rw[List.pairwise_cons] at hp;rw[aR] at h
  split at h
  · next e=>
    cases h;have:l.filter (fun r=>decide (r.2.1≠tx))=l:=List.filter_eq_self.2 fun x hx=>by
     have:=hp.1 x hx;rw[e] at this;simp; exact fun e2=>this e2.symm
    simp[List.filter_cons,e];simpa using this.symm
  · next e=>
    cases hq:aR tx l with
    | none=>rw[hq] at h; cases h
    | some j=>
     rw[hq] at h;simp only[Option.map_some,Option.some.injEq] at h;subst h;have:=ih hp.2 hq;simp only[List.take_succ_cons,List.drop_succ_cons,List.cons_append];rw[this];simp[List.filter_cons,e]
section
variable{pre:List Rc}{s:St}{f:Int→Rc}{hf:ByteArray→Nat}
theorem Rel.NC(h:Rel pre s f hf){r:Rc}(hr:r∈s.2.1):r.2.1∈s.2.2:=by
 by_cases e:r.2.1∈s.2.2
 · exact e
 · have h1:=h.new _ e;obtain⟨h2,_,h4⟩:=h.held r hr;rw[h1] at h2;rw[←h2] at h4;simp at h4
theorem Rel.zero(h:Rel pre s f hf)(tx:Int):(f tx).1=0↔tx∉s.2.2:=by
 constructor
 · intro e iw; exact h.old tx iw e
 · intro e; rw[h.new tx e]
theorem xL(h:Rel pre s f hf)(tx:Int)(r:Rc)(wv:tx∉s.2.2):bT (gU f tx r) pre=bT f pre:=by
 unfold bT;refine List.filter_congr fun x hx=>?_
 have:x.2.1≠tx:=fun e=>wv (e ▸ h.met x hx)
 unfold gU;rw[if_neg this]
theorem AQ(h:Rel pre s f hf)(r:Rc)(bR:bu r=true):gd s.1 f hf r=true↔(if r.1=1 then r.2.1∉s.2.2∧locked s.2.1 r.2.2=false∧meets s.1 r.2.2=true else if r.1=2 then(f r.2.1).1=1 else(f r.2.1).1=1∨(f r.2.1).1=0):=by
 have yX:(r.2.2.any fun o=>decide (hf o.2.1≠0))=locked s.2.1 r.2.2:=by
  rw[Bool.eq_iff_iff,u7,List.any_eq_true];constructor
  · rintro⟨o,ho,e⟩;obtain⟨x,hx,hk⟩:=(h.keys o.2.1).1 (of_decide_eq_true e);exact⟨x,hx,o,ho,hk⟩
  · rintro⟨x,hx,o,ho,hk⟩;exact⟨o,ho,decide_eq_true ((h.keys o.2.1).2 ⟨x,hx,hk⟩)⟩
 unfold gd;rw[bR,yX,Bool.true_and]
 split
 · simp only[Bool.and_eq_true,Bool.not_eq_true',decide_eq_true_eq,h.zero]
 · split
   · simp
   · simp
theorem Jc(h:Rel pre s f hf)(r:Rc):(∃t,one s r=some t∧gd s.1 f hf r=true∧t.1=pS s.1 f r∧t.1.length≤60∧Rel (pre++[r]) t (gU f r.2.1 r) (uZ f hf r))∨(one s r=none∧(gd s.1 f hf r=false∨(gd s.1 f hf r=true∧60<(pS s.1 f r).length))):=by
 cases bR:bu r
 · right;refine⟨?_,.inl ?_⟩
   · unfold one; rw[bR]; rfl
   · unfold gd; rw[bR]; rfl
 · have jR:=AQ h r bR;obtain⟨⟨Hp,Lk⟩,pR⟩:=(bS r).1 bR;by_cases nL:r.1=1
   · rw[if_pos nL] at jR;by_cases hc:r.2.1∉s.2.2∧locked s.2.1 r.2.2=false∧meets s.1 r.2.2=true
     · left;have Lj:=h.new _ hc.1;have UT:uZ f hf r=r_ hf r.2.2 r.2.1.toNat:=by unfold uZ; rw[Lj]; rfl
       have ND:pS s.1 f r=s.1:=by unfold pS; rw[if_neg (by omega)]
       refine⟨(s.1,s.2.1++[r],s.2.2++[r.2.1]),?_,jR.2 hc,ND.symm,h.jS,?_⟩
       · unfold one;rw[if_pos bR,if_pos nL,if_neg];simp[hc.1,hc.2.1,hc.2.2]
       · rw[UT];have bh:∀x∈s.2.1,x.2.1≠r.2.1:=fun x hx e=>hc.1 (e ▸ h.NC hx)
         refine⟨fun tx ht=>?_,fun tx ht=>?_,fun x hx=>?_,fun tx ht=>?_,fun tx ht=>?_,fun key=>?_,?_,fun x hx=>?_,h.jS,?_⟩
         · simp at ht;unfold gU; rw[if_neg ht.2]; exact h.new tx ht.1
         · unfold gU
           split
           · omega
           · next e=>exact h.old tx (by simpa[e] using ht)
         · rcases List.mem_append.1 hx with e | e
           · unfold gU; rw[if_neg (bh x e)]; exact h.held x e
           · rw[List.mem_singleton.1 e]; unfold gU; rw[if_pos rfl]; exact⟨rfl,bR,nL⟩
         · unfold gU at ht ⊢
           split at ht
           · next e=>rw[if_pos e]; exact⟨List.mem_append.2 (.inr (by simp)),e.symm⟩
           · next e=>rw[if_neg e]; exact⟨List.mem_append.2 (.inl (h.back tx ht).1),(h.back tx ht).2⟩
         · unfold gU at ht ⊢
           split at ht
           · exact absurd nL ht
           · next e=>rw[if_neg e]; exact h.bare tx ht
         · unfold r_;constructor
           · intro e
             split at e
             · next e2=>exact⟨r,List.mem_append.2 (.inr (by simp)),e2⟩
             · obtain⟨x,hx,hk⟩:=(h.keys key).1 e;exact⟨x,List.mem_append.2 (.inl hx),hk⟩
           · rintro⟨x,hx,hk⟩
             split
             · omega
             · next e2=>
               rcases List.mem_append.1 hx with e | e
               · exact(h.keys key).2 ⟨x,e,hk⟩
               · rw[List.mem_singleton.1 e] at hk; exact absurd hk e2
         · have e1:=xL h r.2.1 r hc.1;unfold bT at e1 ⊢;rw[List.filter_append,e1];have:decide ((gU f r.2.1 r r.2.1).1=1)=true:=by unfold gU; rw[if_pos rfl]; simpa using nL
           simp only[List.filter_cons,this,if_true,List.filter_nil];rw[h.still]; rfl
         · rcases List.mem_append.1 hx with e | e
           · exact List.mem_append.2 (.inl (h.met x e))
           · rw[List.mem_singleton.1 e]; simp
         · rw[List.pairwise_append];refine⟨h.apart,by simp,fun x hx y hy=>?_⟩
           rw[List.mem_singleton.1 hy];refine⟨bh x hx,fun key hk=>?_⟩
           rw[←Bool.not_eq_true];intro e;obtain⟨o,ho,e2⟩:=(u6 _ _).1 e;have:locked s.2.1 r.2.2=true:=(u7 _ _).2 ⟨x,hx,o,ho,by rw[e2]; exact hk⟩
           rw[hc.2.1] at this;cases this
     · right;refine⟨?_,.inl ?_⟩
       · unfold one;rw[if_pos bR,if_pos nL,if_pos];by_cases h1:r.2.1∈s.2.2
         · exact .inl (decide_eq_true h1)
         · right;cases h2:locked s.2.1 r.2.2
           · right;cases h3:meets s.1 r.2.2
             · rfl
             · exact absurd ⟨h1,h2,h3⟩ hc
           · exact .inl rfl
       · rw[←Bool.not_eq_true]; intro e; exact hc (jR.1 e)
   · rw[if_neg nL] at jR;have cT:r.2.2=[]:=by rcases pR with⟨h1,_⟩ | ⟨_,h1⟩; exact absurd h1 nL; exact h1
     have Mg:r.1=2∨r.1=3:=by rcases pR with⟨h1,_⟩ | ⟨h1,_⟩; exact absurd h1 nL; exact h1
     have UT:uZ f hf r=tP hf (f r.2.1).2.2:=by unfold uZ; rw[cT]; rfl
     have se:one s r=match aR r.2.1 s.2.1 with
      | none=>if r.1=3∧r.2.1∉s.2.2 then some (s.1,s.2.1,s.2.2++[r.2.1]) else none
      | some k=>if(ik s r k).length≤60 then some (ik s r k,s.2.1.take k++s.2.1.drop (k+1),s.2.2) else none:=by
      unfold one;rw[if_pos bR,if_neg nL];cases aR r.2.1 s.2.1 <;> rfl
     have hpw:s.2.1.Pairwise fun a b=>a.2.1≠b.2.1:=h.apart.imp fun x=>x.1
     cases gI:aR r.2.1 s.2.1 with
     | none=>
      have ko:=mN gI;rw[gI] at se;simp only[] at se;have Wn:(f r.2.1).1≠1:=fun e=>ko _ (h.back _ e).1 (h.back _ e).2
      by_cases hc:r.1=3∧r.2.1∉s.2.2
      · left;rw[if_pos hc] at se;have Lj:=h.new _ hc.2;have Wo:uZ f hf r=hf:=by rw[UT,Lj]; rfl
        have ND:pS s.1 f r=s.1:=by unfold pS; rw[if_neg (by omega)]
        refine⟨_,se,jR.2 (by rw[if_neg (by omega)]; exact .inr (by rw[Lj])),ND.symm,h.jS,?_⟩
        rw[Wo];have bh:∀x∈s.2.1,x.2.1≠r.2.1:=fun x hx=>ko x hx
        refine⟨fun tx ht=>?_,fun tx ht=>?_,fun x hx=>?_,fun tx ht=>?_,fun tx ht=>?_,h.keys,?_,fun x hx=>?_,h.jS,h.apart⟩
        · simp at ht;unfold gU; rw[if_neg ht.2]; exact h.new tx ht.1
        · unfold gU
          split
          · omega
          · next e=>exact h.old tx (by simpa[e] using ht)
        · unfold gU; rw[if_neg (bh x hx)]; exact h.held x hx
        · unfold gU at ht ⊢
          split at ht
          · omega
          · next e=>rw[if_neg e]; exact h.back tx ht
        · unfold gU at ht ⊢
          split at ht
          · next e=>rw[if_pos e]; exact cT
          · next e=>rw[if_neg e]; exact h.bare tx ht
        · have e1:=xL h r.2.1 r hc.2;unfold bT at e1 ⊢;rw[List.filter_append,e1];have:decide ((gU f r.2.1 r r.2.1).1=1)=false:=by unfold gU; rw[if_pos rfl]; simpa using nL
          simp only[List.filter_cons,this,List.filter_nil,Bool.false_eq_true,if_false,List.append_nil];exact h.still
        · rcases List.mem_append.1 hx with e | e
          · exact List.mem_append.2 (.inl (h.met x e))
          · rw[List.mem_singleton.1 e]; simp
      · right;rw[if_neg hc] at se;refine⟨se,.inl ?_⟩;rw[←Bool.not_eq_true];intro e;have e2:=jR.1 e;rcases Mg with e3 | e3
        · rw[if_pos e3] at e2; exact Wn e2
        · rw[if_neg (by omega)] at e2
          rcases e2 with e2 | e2
          · exact Wn e2
          · exact hc ⟨e3,(h.zero _).1 e2⟩
     | some k=>
      rw[gI] at se;simp only[] at se;obtain⟨xD,Mh⟩:=iz gI;have wU:s.2.1[k]∈s.2.1:=List.getElem_mem xD;obtain⟨h4,h5,h6⟩:=h.held _ wU;rw[Mh] at h4;have Zz:(f r.2.1).1=1:=by rw[h4]; exact h6
      have ND:ik s r k=pS s.1 f r:=by
       unfold ik pS cn;rw[List.getElem?_eq_getElem xD,h4]
      rw[ND,O6 hpw gI] at se;have NF:gd s.1 f hf r=true:=jR.2 (by
       rcases Mg with e3 | e3
       · rw[if_pos e3]; exact Zz
       · rw[if_neg (by omega)]; exact .inl Zz)
      by_cases hlen:(pS s.1 f r).length≤60
      · left;rw[if_pos hlen] at se;refine⟨_,se,NF,rfl,hlen,?_⟩;rw[UT];have iw:r.2.1∈s.2.2:=by have:=h.NC wU; oU [Mh] at this
        refine⟨fun tx ht=>?_,fun tx ht=>?_,fun x hx=>?_,fun tx ht=>?_,fun tx ht=>?_,fun key=>?_,?_,fun x hx=>?_,hlen,List.Pairwise.filter _ h.apart⟩
        · have e:tx≠r.2.1:=fun e=>ht (e ▸ iw)
          unfold gU; rw[if_neg e]; exact h.new tx ht
        · unfold gU
          split
          · omega
          · exact h.old tx ht
        · obtain⟨Cr,Wp⟩:=List.mem_filter.1 hx;unfold gU; rw[if_neg (of_decide_eq_true Wp)]; exact h.held x Cr
        · unfold gU at ht ⊢
          split at ht
          · omega
          · next e=>
            rw[if_neg e];have hb:=h.back tx ht;exact⟨List.mem_filter.2 ⟨hb.1,decide_eq_true (by rw[hb.2]; exact e)⟩,hb.2⟩
        · unfold gU at ht ⊢
          split at ht
          · next e=>rw[if_pos e]; exact cT
          · next e=>rw[if_neg e]; exact h.bare tx ht
        · rw[h4];have Wq:∀x∈s.2.1,x.2.1≠r.2.1→∀key,iE x.2.2 key=true→iE s.2.1[k].2.2 key=false:=by
           intro x hx bh key hk;obtain⟨j,hj,rfl⟩:=List.getElem_of_mem hx;rcases Nat.lt_trichotomy j k with e | e | e
           · exact(List.pairwise_iff_getElem.1 h.apart j k hj xD e).2 key hk
           · subst e; exact absurd Mh bh
           · have:=(List.pairwise_iff_getElem.1 h.apart k j xD hj e).2 key;cases e2:iE s.2.1[k].2.2 key
             · rfl
             · rw[this e2] at hk; cases hk
          unfold tP;constructor
          · intro e
            split at e
            · exact absurd rfl e
            · next e2=>
              obtain⟨x,hx,hk⟩:=(h.keys key).1 e;refine⟨x,List.mem_filter.2 ⟨hx,decide_eq_true fun e3=>?_⟩,hk⟩
              have h7:=(h.held x hx).1;rw[e3,h4] at h7;rw[h7] at e2;exact e2 hk
          · rintro⟨x,hx,hk⟩;obtain⟨Cr,Wp⟩:=List.mem_filter.1 hx;rw[if_neg (by rw[Wq x Cr (of_decide_eq_true Wp) key hk]; decide)]
            exact(h.keys key).2 ⟨x,Cr,hk⟩
        · show s.2.1.filter _=_;rw[h.still];unfold bT;rw[List.filter_append,List.filter_filter];have:decide ((gU f r.2.1 r r.2.1).1=1)=false:=by unfold gU; rw[if_pos rfl]; simpa using nL
          simp only[List.filter_cons,this,List.filter_nil,Bool.false_eq_true,if_false,List.append_nil];refine List.filter_congr fun x hx=>?_
          unfold gU;by_cases e:x.2.1=r.2.1
          · rw[if_pos e]; simp[e,nL]
          · rw[if_neg e]; simp[e]
        · rcases List.mem_append.1 hx with e | e
          · exact h.met x e
          · rw[List.mem_singleton.1 e]; exact iw
      · right;rw[if_neg hlen] at se;exact⟨se,.inr ⟨NF,by omega⟩⟩
end
end bm
end Go.Proofs.YtmibabclefgljaaGreat
