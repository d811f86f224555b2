/- CoBs GenMark GenCell OrdPut -/
import Derived.Test.YtmibabclefgljaaGreatShbd
import Derived.Test.YtmibabclefgljaaGreatShbe
import Derived.Test.YtmibabclefgljaaGreatShbb
import Derived.Test.YtmibabclefgljaaGreatShax
import Derived.Test.YtmibabclefgljaaGreatShaz
import Derived.Test.YtmibabclefgljaaGreatShah
set_option linter.unusedVariables false
set_option linter.unusedSimpArgs false
set_option maxRecDepth 100000
set_option maxHeartbeats 4000000
namespace Go.Proofs.YtmibabclefgljaaGreat
open Go in
abbrev qO31:Oper:={dst:=some 37,op:=Op.call {callee:=Callee.value (Operand.func 95),args:=#[Operand.tmp 36],argTypes:=#[73]},type:=73,pos:= "l11_coord.go:96",after:=#[{on:=10,ground:=Ground.data}],guard:=none}
namespace cos
open Go Go.RowKit base aE aX lay lh
def sG(w:World)(X:Nat)(T:TypeId)(pre post:List Value)(F:List Nat)(r:Co × List Wd × Int)(e:Ending)(w':World):Prop:=
 ∃g m cap q ja jn jc la ln lc F',e=.returned (.tuple #[.slice (some ⟨g,0,none⟩) m cap,.int .i64 r.2.2])∧bz 112 tC w' (.slice (some ⟨g,0,none⟩) m cap) r.2.1 q∧(∀k∈g::aw q,w.heap.size≤k∧k∉F')∧jt w' X T pre post ja jn jc la ln lc r.1 F'∧lay.Frame (X::F) w w'∧fJ w F F'
def ju(c:Co)(ops:List Od):Co × List Wd × Int:=if kL c ops=true then(K3 c ops,ie c.1 (iO c) ops [] (aM c.1 ops),iO c) else(c,[],0)
theorem jt.below{w w':World}{X:Nat}{T:TypeId}{pre post:List Value}{ja la:Option Addr}{jn jc ln lc:Nat}{c:Co}{F:List Nat}(h:jt w X T pre post ja jn jc la ln lc c F)(hb:Below w.heap.size w w'):jt w' X T pre post ja jn jc la ln lc c F:=⟨h.box.below hb,bp.gQ h.own hb,h.out⟩
theorem uu{X:Nat}{T:TypeId}{w:World}{pre post:List Value}{v0 v1 v2 v3 v4 v5:Value}(h:aD X T pre [v0,v1,v2,v3,v4,v5] post w):w.cell? ⟨X,pre.length,none⟩=some v0∧w.cell? ⟨X,pre.length+1,none⟩=some v1∧w.cell? ⟨X,pre.length+2,none⟩=some v2∧w.cell? ⟨X,pre.length+3,none⟩=some v3∧w.cell? ⟨X,pre.length+4,none⟩=some v4∧w.cell? ⟨X,pre.length+5,none⟩=some v5:=⟨h.cell 0 _ rfl,h.cell 1 _ rfl,h.cell 2 _ rfl,h.cell 3 _ rfl,h.cell 4 _ rfl,h.cell 5 _ rfl⟩
theorem vX{w w1:World}{X:Nat}{T:TypeId}{pre post:List Value}{ja la:Option Addr}{jn jc ln lc:Nat}{c:Co}{F:List Nat}(h:jt w X T pre post ja jn jc la ln lc c F)(hb:Below w.heap.size w w1):sG w X T pre post F (c,[],0) (.returned (.tuple #[.slice (some ⟨w1.heap.size,0,none⟩) 0 0,.int .i64 0])) (w1.alloc (.cells #[] 112)):=by
 have xT:Below w1.heap.size w1 (w1.alloc (.cells #[] 112)):=aT;have be:=hb.trans (xT.mono hb.size);refine⟨w1.heap.size,0,0,[],ja,jn,jc,la,ln,lc,F,rfl,lay.lT _ _ _,fun k hk=>?_,h.below be,lay.Frame.cM be,fJ.refl _ _⟩
 have e:k=w1.heap.size:=by simpa[aw] using hk
 have:=hb.size;refine⟨by omega,fun hm=>?_⟩
 have:=bp.dK h.own k hm;omega
theorem Hg{w U w5:World}{X:Nat}{T:TypeId}{pre post:List Value}{la:Option Addr}{m ln lc g' aY gw mw Ca:Nat}{c:Co}{F F1:List Nat}{q4 ql qw:dY}{words:List Wd}{tx:Int}(hX:aD X T pre [.int .i64 c.1,.int .i64 c.2.1,.int .i64 c.2.2.1,.slice (some ⟨g',0,none⟩) m aY,.slice la ln lc,.int .i64 c.2.2.2.2.2] post U)(hO:bz 75 ek U (.slice (some ⟨g',0,none⟩) m aY) c.2.2.2.1 q4)(hL:bz 87 rG U (.slice la ln lc) c.2.2.2.2.1 ql)(hF:lay.Frame (X::F) w U)(fH:sE c)(hq:∀k∈g'::aw q4,(k∈F1∨w.heap.size≤k)∧k≠X)(d_:F=F1++(Value.slice la ln lc).ownBlock.toList)(eo:F.Nodup)(jH:X∉F)(kF:∀k∈F,k<w.heap.size)(hW:bz 112 tC w5 (.slice (some ⟨gw,0,none⟩) mw Ca) words qw)(LG:∀k∈gw::aw qw,U.heap.size≤k)(hb:Below U.heap.size U w5):
 sG w X T pre post F (c,words,tx) (.returned (.tuple #[.slice (some ⟨gw,0,none⟩) mw Ca,.int .i64 tx])) w5:=by
 have Nd:∀k∈(Value.slice la ln lc).ownBlock.toList,k∈F:=fun k hk=>by rw[d_]; exact List.mem_append.2 (.inr hk)
 have QB:∀k∈g'::aw q4,k∉(Value.slice la ln lc).ownBlock.toList:=fun k hk h2=>by
  rcases(hq k hk).1 with e | e
  · rw[d_] at eo;exact(a7 eo).2.2 k e h2
  · have:=kF k (Nd k h2); omega
 have hOn:(g'::aw q4).Nodup:=by simpa[Value.ownBlock] using hO.nodup
 have mb:qA.own U [.slice la ln lc] c.2.2.2.2.1 (Value.slice la ln lc).ownBlock.toList:=iN.2 ⟨⟨ql,hL⟩,rfl⟩;have aK:bp.own U [.int .i64 c.1,.int .i64 c.2.1,.int .i64 c.2.2.1,.slice (some ⟨g',0,none⟩) m aY,.slice la ln lc,.int .i64 c.2.2.2.2.2] c ((g'::aw q4)++(Value.slice la ln lc).ownBlock.toList):=
  bC.2 ⟨_,_,g'::aw q4,_,rfl,fH,⟨_,q4,rfl,by simp[Value.ownBlock],hO⟩,mb,rfl,bZ hOn (qA.bU mb) QB⟩
 have bn:=bp.dK aK;refine⟨gw,mw,Ca,qw,_,_,_,la,ln,lc,_,rfl,hW,fun k hk=>⟨by have:=LG k hk; have:=hF.size; omega,fun hm=>?_⟩,⟨hX.below hb,bp.gQ aK hb,fun e=>?_⟩,hF.below hb,fun k hk=>?_⟩
 · have:=bn k hm;have:=LG k hk;omega
 · rcases List.mem_append.1 e with e | e
   · exact(hq X e).2 rfl
   · exact jH (Nd X e)
 · rcases List.mem_append.1 hk with e | e
   · rcases(hq k e).1 with e2 | e2
     · exact .inl (by rw[d_]; exact List.mem_append.2 (.inl e2))
     · exact .inr e2
   · exact .inl (Nd k e)
theorem lK(X:Nat)(T:TypeId)(pre post:List Value)(ja:Option Addr)(jn jc:Nat)(la:Option Addr)(ln lc:Nat)(c:Co)(F:List Nat)(a:Option Addr)(len cap:Nat)(ops:List Od)(w:World)(h:jt w X T pre post ja jn jc la ln lc c F)(cF:∀w',lay.Frame (X::F) w w'→dS w' a len ops)(dV:∀p∈ops,p.2.1.size≤1099511627776)(rM:1≤c.2.1∧c.2.1≤900)(tD:0≤c.2.2.1∧c.2.2.1≤999)(hj8:c.2.2.2.1.length≤1048576)(UR:c.2.2.2.2.1.length≤1048576):
 Calls Tryz.prog 130 #[.pointer (some ⟨X,pre.length,none⟩),.slice a len cap] w (sG w X T pre post F (ju c ops)):=by
 have H0:=Hid.mk' h;obtain⟨bI,aK,jH⟩:=h;have jf:=bI.lt;obtain⟨n,av,next,jobs,log,sure⟩:=c;simp only[] at *;have dT:=cF w (lay.Frame.refl _ _);have fl:=Hid.mk' (ga a len cap ops w dT dV);obtain⟨vx,vy,F1,F2,e,fH,hj,hl,d_,eo⟩:=bC.1 aK;simp only[List.cons.injEq,and_true,true_and] at e;obtain⟨rfl,rfl⟩:=e;obtain⟨⟨ql,hL⟩,rfl⟩:=iN.1 hl;have nI:ln=log.length:=hL.sl.1.symm;have vI:=Hid.mk' bI;cases bR:b_ ops with
 | false=>
  have HE:Hid (ju (n,av,next,jobs,log,sure) ops=((n,av,next,jobs,log,sure),[],0)):=by show _=_; unfold ju kL; rw[bR]; rfl
  rw[bR] at fl;clear bR bI aK hj hl hL nI fH eo d_ dT rM tD;rw[HE.out];aj Tryz.func130,Tryz.ntmps130;ab fail;refine fl.out.mono ?_;rintro e w1 ⟨rfl,a_⟩;have HP:=Hid.mk' (vX H0.out a_);clear fl vI H0 cF;ab fail;bO
  exact HP.out
 | true=>
  rw[bR] at fl;by_cases h9:next=999
  · have HE:Hid (ju (n,av,next,jobs,log,sure) ops=((n,av,next,jobs,log,sure),[],0)):=by show _=_; unfold ju kL; rw[bR]; simp[h9]
    have Rt:(next==999)=true:=beq_iff_eq.2 h9;clear bR bI aK hj hl hL nI fH eo d_ dT rM tD h9;rw[HE.out];aj Tryz.func130,Tryz.ntmps130;ab fail;refine fl.out.mono ?_;rintro e w1 ⟨rfl,a_⟩;have HP:=Hid.mk' (vX H0.out a_);have x2:=(vI.out.below a_).cell 2 _ rfl;clear fl vI H0 cF HE;generalize next=nx at *;ab fail;bO
    exact HP.out
  have Rt:(next==999)=false:=beq_eq_false_iff_ne.2 h9;by_cases yt:1000≤ln
  · have HE:Hid (ju (n,av,next,jobs,log,sure) ops=((n,av,next,jobs,log,sure),[],0)):=by show _=_; unfold ju kL; rw[bR]; simp; omega
    have Yv:¬(ln:Int)<1000:=by omega
    have QC:(1000:Int)≤(ln:Int):=by omega
    clear bR bI aK hj hl hL nI fH eo d_ dT rM tD h9;rw[HE.out];aj Tryz.func130,Tryz.ntmps130;ab fail;refine fl.out.mono ?_;rintro e w1 ⟨rfl,a_⟩;have HP:=Hid.mk' (vX H0.out a_);have x2:=(vI.out.below a_).cell 2 _ rfl;have x4:=(vI.out.below a_).cell 4 _ rfl;clear fl vI H0 cF HE;generalize next=nx at *;ab fail;bO
    exact HP.out
  have Yv:(ln:Int)<1000:=by omega
  have QC:¬(1000:Int)≤(ln:Int):=by omega
  have HE:Hid (ju (n,av,next,jobs,log,sure) ops=((n,av,next+1,jobs++[(av * 1000+next,ops,1,[])],log,sure),ie n (av * 1000+next) ops [] (aM n ops),av * 1000+next)):=by
   show _=_;unfold ju kL;rw[bR,if_pos (by simp; omega)]
   rfl
  rw[HE.out];have xu:len≤8:=by have:=dT.1; have:=(mD bR).2; omega
  obtain⟨vj,qj,e,tn,hJ⟩:=hj;simp only[List.cons.injEq,and_true] at e;subst e;have e7:jn=jobs.length:=hJ.sl.1.symm;have GA:=fH.n;have w1:IntKind.i64.wrap (av * 1000)=av * 1000:=by rw[IntKind.wrap_i64]; omega
  have w2:IntKind.i64.wrap (av * 1000+next)=av * 1000+next:=by rw[IntKind.wrap_i64]; omega
  have w3:IntKind.i64.wrap (next+1)=next+1:=by rw[IntKind.wrap_i64]; omega
  have AJ:(Lit.int .i64 (av * 1000+next)).wf=true:=WalkArith.wf_i64 (by omega)
  have JZ:(Lit.int .i64 (next+1)).wf=true:=WalkArith.wf_i64 (by omega)
  have BM:=Hid.mk' fH;have ir:=Hid.mk' cF;have HJ:=Hid.mk' hJ;have HL:=Hid.mk' hL;have TY:=Hid.mk' eo;have kF:=bp.dK aK;have HJL:=Hid.mk' e7;clear bR bI aK hl hL nI fH eo dT rM tD h9 yt cF hJ H0 HE e7;aj Tryz.func130,Tryz.ntmps130;ab fail;refine fl.out.mono ?_;rintro e W1 ⟨rfl,a_⟩;have x2:=(vI.out.below a_).cell 2 _ rfl;have x4:=(vI.out.below a_).cell 4 _ rfl;clear fl;ab fail;clear x2 x4;have Yw:=a_.size;have eX:Below W1.heap.size W1 W1.drew:=(Below.refl _ _).drew;have Yx:=Hid.mk' (vI.out.below a_);have Kc:=Hid.mk' (fun wx (hx:Below w.heap.size w wx)=>gD a len cap ops wx (ir.out wx (lay.Frame.cM hx)) (by omega))
  refine last.aB (S:=fun w'=>Below W1.heap.size W1 w') 14 (by aa) eX (fun al=>?_)
  generalize hD:W1.drew=D at *;clear hD;refine last.ae (i:=0) (v:=(.pointer (some ⟨X,pre.length,none⟩))) rfl rfl (by aa) (by aa) (by aa) (by aa) (fun _ _ _ h=>h) (Or.inl ⟨by rfl,?_⟩) (by assumption) ?_
  · intro wq aC; af
  try simp only[Act.put,List.setIfInBounds_toArray,List.set_cons_zero,List.set_cons_succ];refine last.ae (i:=1) (v:=(.pointer (some ⟨X,pre.length,none⟩))) rfl rfl (by aa) (by aa) (by aa) (by aa) (fun _ _ _ h=>h) (Or.inl ⟨by rfl,?_⟩) (by assumption) ?_
  · intro wq aC; af
  try simp only[Act.put,List.setIfInBounds_toArray,List.set_cons_zero,List.set_cons_succ];refine last.ae (i:=2) (v:=(.pointer (some ⟨X,pre.length+1,none⟩))) rfl rfl (by aa) (by aa) (by aa) (by aa) (fun _ _ _ h=>h) (Or.inl ⟨by rfl,?_⟩) (by assumption) ?_
  · intro wq aC; af
  try simp only[Act.put,List.setIfInBounds_toArray,List.set_cons_zero,List.set_cons_succ];refine last.ae (i:=3) (v:=(.int .i64 av)) rfl rfl (by aa) (by aa) (by aa) (by aa) (fun _ _ _ h=>h) (Or.inl ⟨by rfl,?_⟩) (by assumption) ?_
  · intro wq aC; have q:=(Yx.out.below aC).cell 1 _ rfl; af
  try simp only[Act.put,List.setIfInBounds_toArray,List.set_cons_zero,List.set_cons_succ];refine last.ae (i:=4) (v:=(.int .i64 (av * 1000))) rfl rfl (by aa) (by aa) (by aa) (by aa) (fun _ _ _ h=>h) (Or.inl ⟨by rfl,?_⟩) (by assumption) ?_
  · intro wq aC; af
  try simp only[Act.put,List.setIfInBounds_toArray,List.set_cons_zero,List.set_cons_succ];refine last.ae (i:=5) (v:=(.pointer (some ⟨X,pre.length,none⟩))) rfl rfl (by aa) (by aa) (by aa) (by aa) (fun _ _ _ h=>h) (Or.inl ⟨by rfl,?_⟩) (by assumption) ?_
  · intro wq aC; af
  try simp only[Act.put,List.setIfInBounds_toArray,List.set_cons_zero,List.set_cons_succ];refine last.ae (i:=6) (v:=(.pointer (some ⟨X,pre.length,none⟩))) rfl rfl (by aa) (by aa) (by aa) (by aa) (fun _ _ _ h=>h) (Or.inl ⟨by rfl,?_⟩) (by assumption) ?_
  · intro wq aC; af
  try simp only[Act.put,List.setIfInBounds_toArray,List.set_cons_zero,List.set_cons_succ];refine last.ae (i:=7) (v:=(.pointer (some ⟨X,pre.length+2,none⟩))) rfl rfl (by aa) (by aa) (by aa) (by aa) (fun _ _ _ h=>h) (Or.inl ⟨by rfl,?_⟩) (by assumption) ?_
  · intro wq aC; af
  try simp only[Act.put,List.setIfInBounds_toArray,List.set_cons_zero,List.set_cons_succ];refine last.ae (i:=8) (v:=(.int .i64 next)) rfl rfl (by aa) (by aa) (by aa) (by aa) (fun _ _ _ h=>h) (Or.inl ⟨by rfl,?_⟩) (by assumption) ?_
  · intro wq aC; have q:=(Yx.out.below aC).cell 2 _ rfl; af
  try simp only[Act.put,List.setIfInBounds_toArray,List.set_cons_zero,List.set_cons_succ];refine last.ae (i:=9) (v:=(.int .i64 (av * 1000+next))) rfl rfl (by aa) (by aa) (by aa) (by aa) (fun _ _ _ h=>h) (Or.inl ⟨by rfl,?_⟩) (by assumption) ?_
  · intro wq aC; af
  try simp only[Act.put,List.setIfInBounds_toArray,List.set_cons_zero,List.set_cons_succ];refine last.ae (i:=10) (v:=(.slice a len cap)) rfl rfl (by aa) (by aa) (by aa) (by aa) (fun _ _ _ h=>h) (Or.inl ⟨by rfl,?_⟩) (by assumption) ?_
  · intro wq aC; af
  try simp only[Act.put,List.setIfInBounds_toArray,List.set_cons_zero,List.set_cons_succ];refine last.eO (i:=11) (j:=13) (o:=qO31) (o':={dst:=some 6,op:=Op.alloc 75,type:=0,pos:= "l11_coord.go:96",after:=#[],guard:=none}) (by aa) rfl rfl (fun K hK=> ?wayA) (fun K hK=> ?wayB)
  case' wayA=>
   refine gv.N_ rfl 95 (.tmp 36) _ rfl (fun _ _=>rfl) (.slice a len cap) (by aa) _ (Kc.out _ (a_.trans (eX.mono a_.size))) ?_
   rintro e wB ⟨g1,iR,rfl,gK,yA⟩;refine⟨_,rfl,?_⟩;have fC:=eX.trans (yA.mono eX.size);have K5:=gK.lt;have QD:=yA.size;have FM:=eX.size;refine hK.out _ _ ?_ (fun aq=>?_)
   · exact fC
   clear hK K al;have al:=aq;clear aq;try simp only[Act.put,List.setIfInBounds_toArray,List.set_cons_zero,List.set_cons_succ];refine last.ae (i:=12) (v:=(.agg #[.int .i64 (av * 1000+next),.slice (some ⟨g1,0,none⟩) len iR,.int .i64 1,.slice none 0 0])) rfl rfl (by aa) (by aa) (by aa) (by aa) (fun _ _ _ h=>h) (Or.inl ⟨by rfl,?_⟩) (by assumption) ?_
   · intro wq aC; af
   try simp only[Act.put,List.setIfInBounds_toArray,List.set_cons_zero,List.set_cons_succ];refine last.ax (i:=13) (o:={dst:=some 6,op:=Op.alloc 75,type:=0,pos:= "l11_coord.go:96",after:=#[],guard:=none}) (by aa) rfl (fun K hK=>?_)
   af;obtain⟨wZ,iQ⟩:∃V,wB.alloc (.cells #[.int .i64 0,.slice none 0 0,.int .i64 0,.slice none 0 0] 75)=V:=⟨_,rfl⟩;have bw:Below wB.heap.size wB wZ:=by rw[←iQ]; exact aT
   have iS:aD wB.heap.size 75 [] [.int .i64 0,.slice none 0 0,.int .i64 0,.slice none 0 0] [] wZ:=by rw[←iQ]; exact aO _ _ _
   have yu:=fC.trans (bw.mono fC.size);have Qy:=iS.lt;have QE:=bw.size;have QF:=fC.size;rw[iQ];refine hK.out _ _ ?_ (fun aq=>?_)
   · exact yu
   clear hK K al;have al:=aq;clear aq;try simp only[Act.put,List.setIfInBounds_toArray,List.set_cons_zero,List.set_cons_succ];clear iQ;replace gK:=gK.below bw;generalize Ob:wB.heap.size=J at *;have bh:g1≠J:=by omega
   have Ly:W1.heap.size≤J:=by omega
   have Yy:W1.heap.size≤g1:=by omega
   have Nf:=gK.mono (base':=0) (Nat.zero_le _);clear gK K5 QD FM QE QF bw yA fC
  case' wayB=>
   af;obtain⟨wB,gu⟩:∃V,D.alloc (.cells #[.int .i64 0,.slice none 0 0,.int .i64 0,.slice none 0 0] 75)=V:=⟨_,rfl⟩;have bw:Below D.heap.size D wB:=by rw[←gu]; exact aT
   have iS:aD D.heap.size 75 [] [.int .i64 0,.slice none 0 0,.int .i64 0,.slice none 0 0] [] wB:=by rw[←gu]; exact aO _ _ _
   have fC:=eX.trans (bw.mono eX.size);have Qy:=iS.lt;have QE:=bw.size;have QF:=eX.size;rw[gu];refine hK.out _ _ ?_ (fun aq=>?_)
   · exact fC
   clear hK K al;have al:=aq;clear aq;try simp only[Act.put,List.setIfInBounds_toArray,List.set_cons_zero,List.set_cons_succ];clear gu;refine last.ax (i:=11) (o:=qO31) (by aa) rfl (fun K hK=>?_)
   refine gv.N_ rfl 95 (.tmp 36) _ rfl (fun _ _=>rfl) (.slice a len cap) (by aa) _ (Kc.out _ (a_.trans (fC.mono a_.size))) ?_
   rintro e wZ ⟨g1,iR,rfl,gK,yA⟩;refine⟨_,rfl,?_⟩;have yu:=fC.trans (yA.mono fC.size);have K5:=gK.lt;have QD:=yA.size;have FM:=fC.size;refine hK.out _ _ ?_ (fun aq=>?_)
   · exact yu
   clear hK K al;have al:=aq;clear aq;try simp only[Act.put,List.setIfInBounds_toArray,List.set_cons_zero,List.set_cons_succ];refine last.ae (i:=12) (v:=(.agg #[.int .i64 (av * 1000+next),.slice (some ⟨g1,0,none⟩) len iR,.int .i64 1,.slice none 0 0])) rfl rfl (by aa) (by aa) (by aa) (by aa) (fun _ _ _ h=>h) (Or.inl ⟨by rfl,?_⟩) (by assumption) ?_
   · intro wq aC; af
   try simp only[Act.put,List.setIfInBounds_toArray,List.set_cons_zero,List.set_cons_succ];replace iS:=iS.below yA;generalize Ob:D.heap.size=J at *;have bh:g1≠J:=by omega
   have Ly:W1.heap.size≤J:=by omega
   have Yy:W1.heap.size≤g1:=by omega
   have Nf:=gK.mono (base':=0) (Nat.zero_le _);clear gK K5 QD FM QE QF bw yA fC
  bo
   have Qy:=iS.lt;have K5:=Nf.lt;obtain⟨z0,z1,z2,z3⟩:=cells4 iS;have f0:=iS.fz 0;have f1:=iS.fz 1;have f2:=iS.fz 2;have f3:=iS.fz 3;have hS:=iS.whole [.int .i64 (av * 1000+next),.slice (some ⟨g1,0,none⟩) len iR,.int .i64 1,.slice none 0 0] rfl;obtain⟨U,hU⟩:∃U,bx wZ J 0 [.int .i64 (av * 1000+next),.slice (some ⟨g1,0,none⟩) len iR,.int .i64 1,.slice none 0 0]=U:=⟨_,rfl⟩;rw[hU] at hS;simp only[bx,Nat.zero_add,Nat.reduceAdd] at hU;have HU:=Hid.mk' hU;clear hU;refine last.aL (o:={dst:=none,op:=Op.store 75 (Operand.tmp 6) (Operand.tmp 38),type:=0,pos:= "l11_coord.go:96",after:=#[{on:=13,ground:=Ground.data},{on:=12,ground:=Ground.data},{on:=11,ground:=Ground.chain},{on:=0,ground:=Ground.phase},{on:=1,ground:=Ground.phase},{on:=2,ground:=Ground.phase},{on:=3,ground:=Ground.phase},{on:=4,ground:=Ground.phase},{on:=5,ground:=Ground.phase},{on:=6,ground:=Ground.phase},{on:=7,ground:=Ground.phase},{on:=8,ground:=Ground.phase},{on:=9,ground:=Ground.phase},{on:=10,ground:=Ground.phase},{on:=11,ground:=Ground.phase},{on:=12,ground:=Ground.phase},{on:=13,ground:=Ground.phase}],guard:=none}) (by aa) rfl (by aa) (fun K hK=>?_)
   af;refine hK.out _ _ ?_;clear hK K;rw[HU.out];have Yz:Below W1.heap.size W1 U:=yu.grown hS.2 yu.size (fun k e=>by cases e; omega)
   have K6:=hS.1;have hOU:=Nf.grown hS.2 (by simp; omega)
   have hg1U:g1<U.heap.size:=Nat.lt_of_lt_of_le K5.2 hS.2.size;have Vx:=Yx.out.below Yz;clear z0 z1 z2 z3 f0 f1 f2 f3 hS HU yu Nf iS Qy al Ob;have hXJ:X≠J:=by omega
   have x2:=Vx.cell 2 _ rfl;have f2:=Vx.fz (pre.length+2);have zW:=Vx.set 2 (by simp) (.int .i64 (next+1))
   obtain⟨U2,YA⟩:∃U2,U.setCell ⟨X,pre.length+2,none⟩ (.int .i64 (next+1))=U2:=⟨_,rfl⟩;rw[YA] at zW;have xG:=Hid.mk' YA;clear YA;ab fail;rw[xG.out];have fm:aD X T pre [.int .i64 n,.int .i64 av,.int .i64 (next+1),.slice ja jn jc,.slice la ln lc,.int .i64 sure] post U2:=zW.1;have E_:=K6.grown zW.2 (by simp; omega)
   have fS:=hOU.grown zW.2 (by simp; omega)
   have LB:lay.Frame [X] w U2:=(lay.Frame.cM (a_.trans (Yz.mono a_.size))).grown zW.2 (fun k e=>by cases e; exact .inl (by simp))
   have pQ:=zW.2.size;clear x2 f2 xG zW Vx K6 hOU;have Aa:=HJ.out.keep fun k hk=>LB.block k (HJ.out.at_ k hk) (fun e=>by
    rw[List.mem_singleton] at e;subst e;exact jH (by rw[d_,tn]; exact List.mem_append.2 (.inl hk)))
   have hLs:=HL.out.keep fun k hk=>LB.block k (HL.out.at_ k hk) (fun e=>by
    rw[List.mem_singleton] at e;subst e;rw[(dW.parts HL.out).2.2.1,List.append_nil] at hk;exact jH (by rw[d_]; exact List.mem_append.2 (.inr hk)))
   have Ng:Below U2.heap.size U2 U2.drew:=(Below.refl _ _).drew;have hw1s:w.heap.size≤W1.heap.size:=Yw;have hU1s:W1.heap.size≤U2.heap.size:=Nat.le_trans Yz.size pQ;have HX2:=Hid.mk' fm;have HJ2:=Hid.mk' E_;refine last.aB (S:=fun w'=>aD X T pre [.int .i64 n,.int .i64 av,.int .i64 (next+1),.slice ja jn jc,.slice la ln lc,.int .i64 sure] post w'∧aD J 75 [] [.int .i64 (av * 1000+next),.slice (some ⟨g1,0,none⟩) len iR,.int .i64 1,.slice none 0 0] [] w') 10 (by aa) ⟨fm.below Ng,E_.below Ng⟩ (fun al=>?_)
   have YB:=Aa.below Ng;have T4:=hLs.below Ng;have YC:=fS.below Ng;have YD:=LB.below Ng;have T5:=fm.below Ng;have T6:=E_.below Ng;have hds:=Ng.size;generalize hD2:U2.drew=D2 at *;clear hD2 Aa hLs fS LB fm E_;refine last.ae (i:=0) (v:=(.pointer (some ⟨X,pre.length,none⟩))) rfl rfl (by aa) (by aa) (by aa) (by aa) (fun _ _ _ h=>h) (Or.inl ⟨by rfl,?_⟩) (by assumption) ?_
   · intro wq aC; af
   try simp only[Act.put,List.setIfInBounds_toArray,List.set_cons_zero,List.set_cons_succ];refine last.ae (i:=1) (v:=(.pointer (some ⟨X,pre.length,none⟩))) rfl rfl (by aa) (by aa) (by aa) (by aa) (fun _ _ _ h=>h) (Or.inl ⟨by rfl,?_⟩) (by assumption) ?_
   · intro wq aC; af
   try simp only[Act.put,List.setIfInBounds_toArray,List.set_cons_zero,List.set_cons_succ];refine last.ae (i:=2) (v:=(.pointer (some ⟨X,pre.length,none⟩))) rfl rfl (by aa) (by aa) (by aa) (by aa) (fun _ _ _ h=>h) (Or.inl ⟨by rfl,?_⟩) (by assumption) ?_
   · intro wq aC; af
   try simp only[Act.put,List.setIfInBounds_toArray,List.set_cons_zero,List.set_cons_succ];refine last.ae (i:=3) (v:=(.pointer (some ⟨X,pre.length+3,none⟩))) rfl rfl (by aa) (by aa) (by aa) (by aa) (fun _ _ _ h=>h) (Or.inl ⟨by rfl,?_⟩) (by assumption) ?_
   · intro wq aC; af
   try simp only[Act.put,List.setIfInBounds_toArray,List.set_cons_zero,List.set_cons_succ];refine last.ae (i:=4) (v:=(.slice ja jn jc)) rfl rfl (by aa) (by aa) (by aa) (by aa) (fun _ _ _ h=>h) (Or.inl ⟨by rfl,?_⟩) (by assumption) ?_
   · intro wq aC; have q:=aC.1.cell 3 _ rfl; af
   try simp only[Act.put,List.setIfInBounds_toArray,List.set_cons_zero,List.set_cons_succ];refine last.ae (i:=5) (v:=(.agg #[.int .i64 (av * 1000+next),.slice (some ⟨g1,0,none⟩) len iR,.int .i64 1,.slice none 0 0])) rfl rfl (by aa) (by aa) (by aa) (by aa) (fun _ _ _ h=>h) (Or.inl ⟨by rfl,?_⟩) (by assumption) ?_
   · intro wq aC; obtain⟨q0,q1,q2,q3⟩:=cells4 aC.2; af
   try simp only[Act.put,List.setIfInBounds_toArray,List.set_cons_zero,List.set_cons_succ];refine last.ax (i:=6) (o:={dst:=some 53,op:=Op.buildSlice 25 1 #[(0,Operand.tmp 52)],type:=25,pos:= "l11_coord.go:98",after:=#[{on:=5,ground:=Ground.data}],guard:=none}) (by aa) rfl (fun K hK=>?_)
   af;obtain⟨V,hV⟩:∃V,D2.alloc (.cells #[.int .i64 (av * 1000+next),.slice (some ⟨g1,0,none⟩) len iR,.int .i64 1,.slice none 0 0] 75)=V:=⟨_,rfl⟩;have nw:Below D2.heap.size D2 V:=by rw[←hV]; exact aT
   have YE:aD D2.heap.size 75 [] [.int .i64 (av * 1000+next),.slice (some ⟨g1,0,none⟩) len iR,.int .i64 1,.slice none 0 0] [] V:=by rw[←hV]; exact aO _ _ _
   rw[hV];refine hK.out _ _ ?_ (fun aq=>?_)
   · exact⟨T5.below nw,T6.below nw⟩
   clear hK K al;have al:=aq;clear aq;try simp only[Act.put,List.setIfInBounds_toArray,List.set_cons_zero,List.set_cons_succ];have ew:=YC.below nw;have hxj:ek.own V [.int .i64 (av * 1000+next),.slice (some ⟨g1,0,none⟩) len iR,.int .i64 1,.slice none 0 0] (av * 1000+next,ops,1,[]) ([g1]++[]):=dX.2 ⟨_,_,rfl,AJ,(by decide:(Lit.int .i64 1).wf=true),(fK ew).mono (Nat.zero_le _),⟨fun _ h=>absurd h List.not_mem_nil,World.ownsRow_nil _ _ _ _⟩,rfl,by simp⟩
   have YF:∀k∈F,k<w.heap.size:=kF;have QG:∀k∈(Value.slice ja jn jc).ownBlock.toList++aw qj,k∈F:=fun k hk=>by rw[d_,tn]; exact List.mem_append.2 (.inl hk)
   obtain⟨g',aY,w4,dA,ej,jW,En⟩:=bz.zJ (P:=Tryz.prog) (z:=.agg #[.int .i64 0,.slice none 0 0,.int .i64 0,.slice none 0 0]) Tryz.underlying25 NZ rfl (by decide) (YB.below nw) hxj (fun b hb hc=>by
    rw[List.append_nil,List.mem_singleton] at hb;have h2:=YF b (QG b hc);omega) YE (by unfold maxLen; omega) (by omega) 25
   rw[←HJL.out] at dA ej;refine last.ax (i:=7) (o:={dst:=some 54,op:=Op.call {callee:=Callee.builtin Builtin.append,args:=#[Operand.tmp 51,Operand.tmp 53],argTypes:=#[25,25]},type:=25,pos:= "l11_coord.go:98",after:=#[{on:=4,ground:=Ground.data},{on:=6,ground:=Ground.data}],guard:=none}) (by aa) rfl (fun K hK=>?_)
   refine dc rfl (.tmp 51) (.tmp 53) 25 rfl (by aa) (by aa) dA ?_
   have jT:=nw.size;have M3:∀k,(Value.slice ja jn jc).ownBlock=some k→k∈F:=fun k e=>QG k (List.mem_append.2 (.inl (by rw[e]; simp)))
   have LH:=(T5.below nw).grown jW (fun e=>jH (M3 X e.symm))
   have rJ:=(T6.below nw).grown jW (fun e=>by have:=YF J (M3 J e.symm); omega)
   have eD:=ew.grown jW (fun e=>by have:=YF g1 (M3 g1 e.symm); omega)
   have zq:lay.Frame (X::F) w w4:=((YD.mono (G':=X::F) (fun j hj=>by rw[List.mem_singleton] at hj; subst hj; exact List.mem_cons_self)).below nw).grown jW (fun k e=>.inl (List.mem_cons_of_mem _ (M3 k e)))
   have hg'b:g'∈F∨w.heap.size≤g':=by
    rcases En with e | e
    · exact .inl (M3 g' e)
    · exact .inr (by omega)
   have lO:=(T4.below nw).keep fun k hk=>jW.block k ((T4.below nw).at_ k hk) (fun e=>by
    have h1:=M3 k e.symm;rw[(dW.parts HL.out).2.2.1,List.append_nil] at hk;have h2:k∈F1:=by rw[tn]; exact List.mem_append.2 (.inl (by rw[←e]; simp))
    have h3:=TY.out;rw[d_] at h3;exact(a7 h3).2.2 k h2 hk)
   clear dA;refine hK.out _ _ ?_ (fun aq=>?_)
   · exact⟨LH,rJ⟩
   clear hK K al;have al:=aq;clear aq;try simp only[Act.put,List.setIfInBounds_toArray,List.set_cons_zero,List.set_cons_succ];refine last.ax (i:=8) (o:={dst:=some 55,op:=Op.nilCheck (Operand.tmp 47),type:=0,pos:= "l11_coord.go:98",after:=#[{on:=0,ground:=Ground.data},{on:=0,ground:=Ground.phase},{on:=1,ground:=Ground.phase},{on:=2,ground:=Ground.phase},{on:=3,ground:=Ground.phase},{on:=4,ground:=Ground.phase},{on:=5,ground:=Ground.phase},{on:=6,ground:=Ground.phase},{on:=7,ground:=Ground.phase}],guard:=none}) (by aa) rfl (fun K hK=>?_)
   af;refine hK.out _ _ ?_ (fun aq=>?_)
   · exact⟨LH,rJ⟩
   clear hK K al;have al:=aq;clear aq;try simp only[Act.put,List.setIfInBounds_toArray,List.set_cons_zero,List.set_cons_succ];refine last.ae (i:=9) (v:=(.pointer (some ⟨X,pre.length+3,none⟩))) rfl rfl (by aa) (by aa) (by aa) (by aa) (fun _ _ _ h=>h) (Or.inl ⟨by rfl,?_⟩) (by assumption) ?_
   · intro wq aC; af
   try simp only[Act.put,List.setIfInBounds_toArray,List.set_cons_zero,List.set_cons_succ];have x3:=LH.cell 3 _ rfl;have f3:=LH.fz (pre.length+3);have Oc:=LH.set 3 (by simp) (.slice (some ⟨g',0,none⟩) (jn+1) aY)
   obtain⟨U3,YG⟩:∃U3,w4.setCell ⟨X,pre.length+3,none⟩ (.slice (some ⟨g',0,none⟩) (jn+1) aY)=U3:=⟨_,rfl⟩;rw[YG] at Oc;have HU3:=Hid.mk' YG;clear YG;refine last.aL (o:={dst:=none,op:=Op.store 25 (Operand.tmp 56) (Operand.tmp 54),type:=0,pos:= "l11_coord.go:98",after:=#[{on:=9,ground:=Ground.data},{on:=7,ground:=Ground.data},{on:=7,ground:=Ground.chain},{on:=0,ground:=Ground.phase},{on:=1,ground:=Ground.phase},{on:=2,ground:=Ground.phase},{on:=3,ground:=Ground.phase},{on:=4,ground:=Ground.phase},{on:=5,ground:=Ground.phase},{on:=6,ground:=Ground.phase},{on:=7,ground:=Ground.phase}],guard:=none}) (by aa) rfl (by aa) (fun K hK=>?_)
   af;refine hK.out _ _ ?_;clear hK K;rw[HU3.out];have Vw:=jW.size;have Ve:g'≠X:=fun e=>by
    rcases En with e2 | e2
    · exact jH (e ▸ M3 g' e2)
    · omega
   have nN:aD X T pre [.int .i64 n,.int .i64 av,.int .i64 (next+1),.slice (some ⟨g',0,none⟩) (jn+1) aY,.slice la ln lc,.int .i64 sure] post U3:=Oc.1;have Ie:=rJ.grown Oc.2 (by simp; omega)
   have en:=eD.grown Oc.2 (by simp; omega)
   have T7:lay.Frame (X::F) w U3:=zq.grown Oc.2 (fun k e=>by cases e; exact .inl List.mem_cons_self)
   have pt:∀k∈g'::aw (qj++[([.int .i64 (av * 1000+next),.slice (some ⟨g1,0,none⟩) len iR,.int .i64 1,.slice none 0 0],[g1]++[])]),(k∈F1∨w.heap.size≤k)∧k≠X:=fun k hk=>by
    rw[a6] at hk;rcases List.mem_cons.1 hk with e | e
    · refine⟨?_,fun e2=>Ve (e.symm.trans e2)⟩
      rcases En with e2 | e2
      · exact .inl (by rw[tn,e]; exact List.mem_append.2 (.inl (by rw[e2]; simp)))
      · exact .inr (by omega)
    · rcases List.mem_append.1 e with e | e
      · exact⟨.inl (by rw[tn]; exact List.mem_append.2 (.inr e)),fun e2=>jH (e2 ▸ QG k (List.mem_append.2 (.inr e)))⟩
      · have:k=g1:=by simpa[aw] using e
        exact⟨.inr (by omega),by omega⟩
   have r9:=ej.keep fun k hk=>Oc.2.block k (ej.at_ k hk) (fun e=>(pt k (by simpa[Value.ownBlock] using hk)).2 (Option.some.inj e))
   have hL7:=lO.keep fun k hk=>Oc.2.block k (lO.at_ k hk) (fun e=>by
    rw[(dW.parts HL.out).2.2.1,List.append_nil] at hk;have e2:=Option.some.inj e;exact jH (by rw[d_,←e2]; exact List.mem_append.2 (.inr hk)))
   have YH:sE (n,av,next+1,jobs++[(av * 1000+next,ops,1,[])],log,sure):=⟨GA,BM.out.av,JZ,BM.out.sure⟩;have wQ:=Hid.mk' r9;have HL7:=Hid.mk' hL7;have HF3:=Hid.mk' T7;have HQB:=Hid.mk' pt;have BY:=Hid.mk' d_;have HX3:=Hid.mk' nN;have Yo:=Hid.mk' Ie;clear r9 hL7 T7 pt ej lO zq Oc HU3 x3 f3 LH rJ eD jW En al nN Ie;ab fail;have T8:Below U3.heap.size U3 U3.drew:=(Below.refl _ _).drew;have tR:=Hid.mk' (fun wx (hx:Below U3.heap.size U3 wx)=>Em n av (next+1) sure (some ⟨g',0,none⟩) (jn+1) aY la ln lc (av * 1000+next) 1 (some ⟨g1,0,none⟩) len iR none 0 0 ops [] wx AJ (en.below hx).sl BV xu GA)
   refine last.aB (S:=fun w'=>Below U3.heap.size U3 w') 8 (by aa) T8 (fun al=>?_)
   generalize L5:U3.drew=D3 at *;clear L5;refine last.ae (i:=0) (v:=(.pointer (some ⟨X,pre.length,none⟩))) rfl rfl (by aa) (by aa) (by aa) (by aa) (fun _ _ _ h=>h) (Or.inl ⟨by rfl,?_⟩) (by assumption) ?_
   · intro wq aC; af
   try simp only[Act.put,List.setIfInBounds_toArray,List.set_cons_zero,List.set_cons_succ];refine last.ae (i:=1) (v:=(.pointer (some ⟨X,pre.length,none⟩))) rfl rfl (by aa) (by aa) (by aa) (by aa) (fun _ _ _ h=>h) (Or.inl ⟨by rfl,?_⟩) (by assumption) ?_
   · intro wq aC; af
   try simp only[Act.put,List.setIfInBounds_toArray,List.set_cons_zero,List.set_cons_succ];refine last.ae (i:=2) (v:=(.agg #[.int .i64 n,.int .i64 av,.int .i64 (next+1),.slice (some ⟨g',0,none⟩) (jn+1) aY,.slice la ln lc,.int .i64 sure])) rfl rfl (by aa) (by aa) (by aa) (by aa) (fun _ _ _ h=>h) (Or.inl ⟨by rfl,?_⟩) (by assumption) ?_
   · intro wq aC; obtain⟨q0,q1,q2,q3,q4,q5⟩:=uu (HX3.out.below aC); af
   try simp only[Act.put,List.setIfInBounds_toArray,List.set_cons_zero,List.set_cons_succ];refine last.ae (i:=3) (v:=(.agg #[.int .i64 (av * 1000+next),.slice (some ⟨g1,0,none⟩) len iR,.int .i64 1,.slice none 0 0])) rfl rfl (by aa) (by aa) (by aa) (by aa) (fun _ _ _ h=>h) (Or.inl ⟨by rfl,?_⟩) (by assumption) ?_
   · intro wq aC; obtain⟨q0,q1,q2,q3⟩:=cells4 (Yo.out.below aC); af
   try simp only[Act.put,List.setIfInBounds_toArray,List.set_cons_zero,List.set_cons_succ];refine last.ae (i:=5) (v:=(.pointer (some ⟨J,0,none⟩))) rfl rfl (by aa) (by aa) (by aa) (by aa) (fun _ _ _ h=>h) (Or.inl ⟨by rfl,?_⟩) (by assumption) ?_
   · intro wq aC; af
   try simp only[Act.put,List.setIfInBounds_toArray,List.set_cons_zero,List.set_cons_succ];refine last.ae (i:=6) (v:=(.int .i64 (av * 1000+next))) rfl rfl (by aa) (by aa) (by aa) (by aa) (fun _ _ _ h=>h) (Or.inl ⟨by rfl,?_⟩) (by assumption) ?_
   · intro wq aC; obtain⟨q0,q1,q2,q3⟩:=cells4 (Yo.out.below aC); af
   try simp only[Act.put,List.setIfInBounds_toArray,List.set_cons_zero,List.set_cons_succ];refine last.ax (i:=4) (o:={dst:=some 61,op:=Op.call {callee:=Callee.value (Operand.func 163),args:=#[Operand.tmp 59,Operand.tmp 60],argTypes:=#[28,75]},type:=30,pos:= "l11_coord.go:99",after:=#[{on:=2,ground:=Ground.data},{on:=3,ground:=Ground.data}],guard:=none}) (by aa) rfl (fun K hK=>?_)
   refine gv.call2 rfl 163 (.tmp 59) (.tmp 60) _ rfl (fun _ _=>rfl) (.agg #[.int .i64 n,.int .i64 av,.int .i64 (next+1),.slice (some ⟨g',0,none⟩) (jn+1) aY,.slice la ln lc,.int .i64 sure]) (.agg #[.int .i64 (av * 1000+next),.slice (some ⟨g1,0,none⟩) len iR,.int .i64 1,.slice none 0 0]) (by aa) (by aa) _ (tR.out _ T8) ?_
   rintro e w5 ⟨gw,mw,Ca,qw,rfl,N7,LG,dx⟩;refine⟨_,rfl,?_⟩;have T9:=T8.trans (dx.mono T8.size);refine hK.out _ _ ?_ (fun aq=>?_)
   · exact T9
   clear hK K al;have al:=aq;clear aq;try simp only[Act.put,List.setIfInBounds_toArray,List.set_cons_zero,List.set_cons_succ];refine last.ae (i:=7) (v:=(.slice (some ⟨gw,0,none⟩) mw Ca)) rfl rfl (by aa) (by aa) (by aa) (by aa) (fun _ _ _ h=>h) (Or.inl ⟨by rfl,?_⟩) (by assumption) ?_
   · intro wq aC; af
   try simp only[Act.put,List.setIfInBounds_toArray,List.set_cons_zero,List.set_cons_succ];have HP:=Hid.mk' (Hg (tx:=av * 1000+next) HX3.out wQ.out HL7.out HF3.out YH HQB.out BY.out TY.out jH kF N7 (fun k hk=>Nat.le_trans T8.size (LG k hk)) T9)
   refine last.aL (o:={dst:=some 5,op:=Op.assign (Operand.tmp 63),type:=3,pos:= "l11_coord.go:99",after:=#[{on:=6,ground:=Ground.data},{on:=7,ground:=Ground.chain},{on:=0,ground:=Ground.phase},{on:=1,ground:=Ground.phase},{on:=2,ground:=Ground.phase},{on:=3,ground:=Ground.phase},{on:=4,ground:=Ground.phase},{on:=5,ground:=Ground.phase},{on:=6,ground:=Ground.phase},{on:=7,ground:=Ground.phase}],guard:=none}) (by aa) rfl (by aa) (fun K hK=>?_)
   af;refine hK.out _ _ ?_;clear hK K;ab fail;bO
   exact HP.out
end cos
namespace lay
open Go Go.RowKit base
section
variable{α:Type}
theorem QH{l:List α}{i:Nat}{x:α}(h:i<l.length):(l.set i x)[i]'(by simpa using h)=x:=by simp
end
theorem bz.open{α:Type}{ty:TypeId}{R:Rd α}{w:World}{g n cap:Nat}{l:List α}{q:dY}(h:bz ty R w (.slice (some ⟨g,0,none⟩) n cap) l q)(i:Nat)(hi:i<l.length):
 ∃us F,R.own w us l[i] F∧(∀j u,us[j]? =some u→w.cell? ⟨g,i * R.size+j,none⟩=some u)∧(∀k∈F,k∈aw q)∧∀(w':World) (x':α) (G:List Nat),Frame G w w'→(∀k∈G,k∈F)→R.own w' us x' F→bz ty R w' (.slice (some ⟨g,0,none⟩) n cap) (l.set i x') q:=by
 have hl:=h.len;have hn:=h.nF;subst hn;refine⟨_,_,h.each i hi,fun j u hj=>?_,fun k hk=>List.mem_flatMap.2 ⟨_,List.getElem_mem _,hk⟩,fun w' x' G hf hG hx=>h.inner i hi x' hf hG hx⟩
 have hp:=h.parts;have e7:=(List.getElem?_eq_some_iff.1 hj).1;rw[hp _ (List.getElem_mem _)] at e7;have iw:i * R.size+j<l.length * R.size:=by
  have:=Nat.mul_le_mul_right R.size (show i+1≤l.length from hi)
  rw[Nat.add_mul] at this; omega
 rw[h.row.cellAt (i * R.size+j) iw,ig hp i (by omega) j e7]
 exact hj
end lay
namespace lay
open Go Go.RowKit base
theorem bz.T_{α:Type}{ty:TypeId}{R:Rd α}{w:World}{g n cap:Nat}{l:List α}{q:dY}(h:bz ty R w (.slice (some ⟨g,0,none⟩) n cap) l q)(i:Nat)(hi:i<l.length)(j:Nat)(hj:j<R.size)(u:Value)(x:α)(F':List Nat)(hx:R.own w ((q[i]'(by have:=h.len; omega)).1.set j u) x F')(hN:∀b∈F',b∈(q[i]'(by have:=h.len; omega)).2∨b∉g::aw q):
 bz ty R (w.setCell ⟨g,i * R.size+j,none⟩ u) (.slice (some ⟨g,0,none⟩) n cap) (l.set i x) (q.set i ((q[i]'(by have:=h.len; omega)).1.set j u,F'))∧w.grownBy (w.setCell ⟨g,i * R.size+j,none⟩ u) (some g):=by
 have hn:n=l.length:=h.nF;subst hn;have hl:=h.len;have C2:i<q.length:=by omega
 have hr:=h.row.stored (i * R.size+j) u;have hp:=h.parts;have gI:=hp _ (List.getElem_mem C2);have e0:(cellsOf q).set (i * R.size+j) u=cellsOf (q.set i (q[i].1.set j u,F')):=by
  rw[←tu hp i C2 (q[i].1.set j u) (by rw[List.length_set]; exact gI) F']
  have iw:i * R.size+R.size≤(cellsOf q).length:=by
   rw[fU hp];have:=Nat.mul_le_mul_right R.size (show i+1≤q.length from C2)
   rw[Nat.add_mul] at this; omega
  refine List.ext_getElem? fun z=>?_
  rw[vP _ _ _ _ (by rw[List.length_set,gI]; exact iw),List.length_set,gI]
  by_cases hz:i * R.size≤z∧z<i * R.size+R.size
  · rw[if_pos hz];obtain⟨d,rfl⟩:∃d,z=i * R.size+d:=⟨z - i * R.size,by omega⟩
    rw[Nat.add_sub_cancel_left];by_cases hd:d=j
    · subst hd;rw[List.getElem?_set_self (by omega),List.getElem?_set_self (by omega)]
    · rw[List.getElem?_set_ne (by omega),List.getElem?_set_ne (by omega),ig hp i C2 d (by omega)]
  · rw[if_neg hz,List.getElem?_set_ne (by omega)]
 rw[e0] at hr;have xc:∀b∈aw q,b≠g:=fun b hb e=>by
  have:=(a7 h.nodup).2.2 g (by simp[Value.ownBlock])
  exact this (e ▸ hb)
 have dj:∀k (hk:k<q.length),∀b∈q[k].2,b∈aw q:=fun k hk b hb=>List.mem_flatMap.2 ⟨_,List.getElem_mem _,hb⟩
 have hFg:∀b∈F',b≠g:=fun b hb e=>by
  rcases hN b hb with e2 | e2
  · exact xc b (dj i C2 b e2) e
  · exact e2 (by rw[e]; exact List.mem_cons_self)
 exact⟨h.Qb i hi _ x _ hr.1 (R.kV hx fun k hk=>hr.2.block k (R.dK hx k hk) fun e=>hFg k hk (Option.some.inj e)) (fun k hk bh b hb=>hr.2.block b (R.dK (h.each k hk) b hb) fun e=>xc b (dj k (by omega) b hb) (Option.some.inj e)) (fun b hb=>(hN b hb).imp_right fun e=>by simpa[Value.ownBlock] using e),hr.2⟩
theorem bz.yw{α:Type}{ty:TypeId}{R:Rd α}{w:World}{g n cap:Nat}{l:List α}{q:dY}(h:bz ty R w (.slice (some ⟨g,0,none⟩) n cap) l q)(i:Nat)(hi:i<l.length):
 ∃us F,R.own w us l[i] F∧(∀j u,us[j]? =some u→w.cell? ⟨g,i * R.size+j,none⟩=some u)∧(∀k∈F,k∈aw q)∧
  ∀(j:Nat) (u:Value) (x:α) (F':List Nat),j<R.size→R.own w (us.set j u) x F'→(∀b∈F',b∈F∨b∉g::aw q)→∃q',bz ty R (w.setCell ⟨g,i * R.size+j,none⟩ u) (.slice (some ⟨g,0,none⟩) n cap) (l.set i x) q'∧(∀b∈aw q',b∈aw q∨b∈F')∧w.grownBy (w.setCell ⟨g,i * R.size+j,none⟩ u) (some g)∧∀z v,(us.set j u)[z]? =some v→(w.setCell ⟨g,i * R.size+j,none⟩ u).cell? ⟨g,i * R.size+z,none⟩=some v:=by
 have hl:=h.len;obtain⟨_,_,_,h2,h3,_⟩:=h.open i hi;refine⟨(q[i]'(by omega)).1,(q[i]'(by omega)).2,h.each i hi,fun j u hu=>?_,fun k hk=>List.mem_flatMap.2 ⟨_,List.getElem_mem _,hk⟩,fun j u x F' hj hx hN=>?_⟩
 · have:=h.cells i hi j u hu;exact this
 · have hc:=h.T_ i hi j hj u x F' hx hN;refine⟨_,hc.1,fun b hb=>?_,hc.2,fun z v hz=>?_⟩
   · obtain⟨p,hp,be⟩:=List.mem_flatMap.1 hb;rcases List.mem_or_eq_of_mem_set hp with e | e
     · exact .inl (List.mem_flatMap.2 ⟨p,e,be⟩)
     · rw[e] at be; exact .inr be
   · have:=hc.1.cells i (by simpa using hi) z v (by simpa using hz)
     exact this
end lay
namespace aX
open Go Go.RowKit base aE lay cos
theorem Nh{w:World}{base g n cap:Nat}{zs:List Int}{v:Value}(h:tt w (.slice (some ⟨g,0,none⟩) n cap) zs)(hb:base≤g)(hl:zs.length=n)(hs:base≤w.heap.size):dm w base g n cap zs:=by
 obtain⟨h1,h2,h3⟩:=h;refine⟨hl,by rw[←hl]; exact h2,?_⟩
 rcases h3 with⟨e,_⟩ | ⟨g',c',cur,e,h4,h5⟩
 · cases e
 · cases e;exact .inr ⟨g,_,cur,by rw[hl],hb,h5⟩
theorem Er(a:Option Addr)(m cp:Nat)(zs:List Int)(n:Int)(w:World)(h:tS w a m zs)(hn:n∈zs):
 Calls Tryz.prog 143 #[.slice a m cp,.int .i64 n] w fun e w'=>e=.returned (.slice a m cp)∧w'=w:=by
 have HH:=Hid.mk' (cX a m cp zs n w h);rw[decide_eq_true hn] at HH;clear hn h;aj Tryz.func143,Tryz.ntmps143;ab (ak; fail)
 refine HH.out.mono ?_;rintro e w1 ⟨rfl,bL⟩;subst bL;ab (ak; fail)
 an;exact⟨rfl,rfl⟩
theorem Cb(a:Option Addr)(m cp:Nat)(zs:List Int)(n:Int)(w:World)(h:tS w a m zs)(hn:n∉zs)(hw:∀z∈zs,(Lit.int .i64 z).wf=true)(Ho:m≤cp)(ha:tJ zs)(jg:m≤1099511627776):
 Calls Tryz.prog 143 #[.slice a m cp,.int .i64 n] w fun e w'=>
  ∃g' n' aY,e=.returned (.slice (some ⟨g',0,none⟩) n' aY)∧dm w' w.heap.size g' n' aY (fj zs n)∧Below w.heap.size w w':=by
 obtain⟨i0,jX,dE,dD,cO⟩:=info_parts pT;have hl:=h.1;subst hl;have HH:=Hid.mk' (cX a zs.length cp zs n w h)
 · rw[decide_eq_false hn] at HH;have HN:=Hid.mk' hn;clear hn;have bw:Below w.heap.size w (w.alloc (.cells #[] 3)):=(Below.refl _ _).alloc (Nat.le_refl _) _;have GM:(w.alloc (.cells #[] 3)).ownsRow 0 3 1 (.slice (some ⟨w.heap.size,0,none⟩) 0 0) 0 []:=World.ownsRow_made w #[] 0 (Nat.zero_le _) (Nat.zero_le _) (by simp)
   obtain⟨g1,CW,w2,dA,zZ,Ua,tY⟩:=yh w.heap.size a zs.length cp 54 GM (h.below bw) hw Ho jg;have fi:Below w.heap.size w w2:=bw.grown Ua (aS _ _ (Nat.le_refl _)) (fun k e=>by cases e; exact Nat.le_refl _)
   have MX:w.heap.size≤g1:=by
    rcases tY with e | e
    · omega
    · have:=bw.size; omega
   have gK:dm w2 w.heap.size g1 zs.length CW zs:=Nh (v:=.bool true) (mz.1 zZ).1 MX rfl fi.size;aj Tryz.func143,Tryz.ntmps143;ab (ak; fail)
   refine HH.out.mono ?_;rintro e w1 ⟨rfl,bL⟩;subst bL;have qi:w1.heap.size≤w2.heap.size:=fi.size;have fR:zs.length+1≤maxLen:=by unfold maxLen; omega
   have kn:(zs.length+1) * 8≤140737488355328:=by omega
   clear zZ Ua tY GM HH;ab (ak; first | (refine fO rfl _ _ 54 rfl rfl rfl dA ?_) | (refine wpList_append_own _ rfl _ _ 54 rfl w1.heap.size 3 i0 (.int .i64 0) 1 8 Tryz.underlying54 jX dE dD cO rfl (by decide) _ _ _ rfl (gK.2.alloc _) ⟨w2.heap.size,0,none⟩ 1 1 (bg [n]) rfl rfl (eM _ _ _) (cq _) fR kn (aS _ _ qi) ?_))
   intro v3 w3 aK aI db;obtain⟨g3,yL,hv,ew⟩:=u9 (zs:=zs) rfl db aK;subst hv;have cY:Below w1.heap.size w1 w3:=(fi.alloc qi _).grown aI (aS _ _ qi) (fun k e=>by simp[Value.ownBlock] at e; have:=gK.lt; omega)
   have e0:zs++[n]=rQ zs zs.length n:=by unfold rQ; simp
   rw[e0] at ew;clear aK aI db gK fi e0;ab (ak; fail)
   aN [6] (fun kv wr=>∃(k:Nat) (x:Int),k≤zs.length∧kv=.int .i64 (k:Int)∧(∀y∈zs.drop k,n<y)∧dm wr w1.heap.size g3 (zs.length+1) yL (rQ zs k x)∧Below w1.heap.size w1 wr) (fun kv _=>(intOf kv).toNat)
   case atStart=>exact⟨zs.length,n,Nat.le_refl _,by aF,by simp,ew,cY⟩
   case round=>
    clear ew cY;obtain⟨k,x,hk,rfl,hd,hO,hB⟩:=hrel;have ny:=u_ zs k x hk;by_cases Cn:k=0
    · subst Cn;have HP:Hid (fj zs n=rQ zs 0 n):=uf zs n 0 ha HN.out hk hd (.inl rfl);have Lj:=hO.frozen 0;have fF:=hO.at 0 (by omega)
      have R:=mf hO 0 n;rw[ph zs 0 x n hk,←HP.out] at R;have HR:=Hid.mk' R;have va:=hO.lt;generalize(rQ zs 0 x)[0]=y0 at *;clear R hO hd;ab (ak; fail)
      an;exact⟨g3,_,yL,rfl,HR.out.1,hB.trans (fV HR.out.2 va.1 hB.size)⟩
    · obtain⟨j,rfl⟩:∃j,k=j+1:=⟨k - 1,by omega⟩
      have IQ:j<zs.length:=by omega
      have xN:=AX zs (j+1) x (by omega) hk
      simp only[Nat.add_sub_cancel] at xN;have fF:wr.cell? ⟨g3,j,none⟩=some (.int .i64 zs[j]):=by
       have:=hO.at j (by omega)
       rw[this];have e:=List.getElem?_eq_getElem (l:=rQ zs (j+1) x) (i:=j) (by omega)
       rw[e] at xN;rw[Option.some.inj xN]
      have Wu:=hO.at (j+1) (by omega)
      have Lj:=hO.frozen (j+1);have UO:((j+1:Nat):Int) - 1=(j:Int):=by omega
      have e7:((j:Nat):Int)<((zs.length+1:Nat):Int):=by omega
      have O8:((j+1:Nat):Int)<((zs.length+1:Nat):Int):=by omega
      have Wv:(0:Int)<((j+1:Nat):Int):=by omega
      by_cases Ra:n<zs[j]
      · have R:=mf hO (j+1) zs[j];have qV:=AY zs (j+1) (by omega) hk
        simp only[Nat.add_sub_cancel] at qV;rw[ph zs (j+1) x zs[j] hk,qV] at R;have HD:Hid (∀y∈zs.drop j,n<y):=by
         intro y hy;rw[List.drop_eq_getElem_cons IQ] at hy;rcases List.mem_cons.1 hy with rfl | hy
         · exact Ra
         · exact hd y hy
        have HR:=Hid.mk' R;have va:=hO.lt;generalize(rQ zs (j+1) x)[j+1]=y0 at *;generalize zs[j]=zj at *;clear R hO hd xN qV;ab (ak; fail)
        aA
        case rel=>exact⟨j,zj,by omega,by aF,HD.out,HR.out.1,hB.trans (fV HR.out.2 va.1 hB.size)⟩
        case measure=>simp[intOf]
      · have HP:Hid (fj zs n=rQ zs (j+1) n):=uf zs n (j+1) ha HN.out hk hd (.inr ⟨IQ,Ra⟩);have R:=mf hO (j+1) n;rw[ph zs (j+1) x n hk,←HP.out] at R;have HR:=Hid.mk' R;have va:=hO.lt;generalize(rQ zs (j+1) x)[j+1]=y0 at *;generalize zs[j]=zj at *;clear R hO hd xN;ab (ak; fail)
        an;exact⟨g3,_,yL,rfl,HR.out.1,hB.trans (fV HR.out.2 va.1 hB.size)⟩
end aX
end Go.Proofs.YtmibabclefgljaaGreat
