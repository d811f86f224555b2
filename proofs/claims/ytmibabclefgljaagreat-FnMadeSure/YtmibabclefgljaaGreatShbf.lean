/- CoBs GenMark GenCell OrdPut -/
import Derived.Test.YtmibabclefgljaaGreatShbd
import Derived.Test.YtmibabclefgljaaGreatShbe
import Derived.Test.YtmibabclefgljaaGreatShbb
import Derived.Test.YtmibabclefgljaaGreatShax
import Derived.Test.YtmibabclefgljaaGreatShaz
import Derived.Test.YtmibabclefgljaaGreatShah
set_option linter.unusedVariables false
set_option linter.unusedSimpArgs false
set_option maxRecDepth 100000
set_option maxHeartbeats 4000000
namespace Go.Proofs.YtmibabclefgljaaGreat
open Go in
abbrev qO31:Oper:={dst:=some 37,op:=Op.call {callee:=Callee.value (Operand.func 95),args:=#[Operand.tmp 36],argTypes:=#[73]},type:=73,pos:= "l11_coord.go:96",after:=#[{on:=10,ground:=Ground.data}],guard:=none}
namespace cos
open Go Go.RowKit base av aN lay kN
def sd(w:World)(X:Nat)(T:TypeId)(pre post:List Value)(F:List Nat)(r:Co × List Wd × Int)(e:Ending)(w':World):Prop:=
 ∃g m cap q ja jn jc la ln lc F',e=.returned (.tuple #[.slice (some ⟨g,0,none⟩) m cap,.int .i64 r.2.2])∧bk 112 te w' (.slice (some ⟨g,0,none⟩) m cap) r.2.1 q∧(∀k∈g::al q,w.heap.size≤k∧k∉F')∧iY w' X T pre post ja jn jc la ln lc r.1 F'∧lay.Frame (X::F) w w'∧fu w F F'
def i_(c:Co)(ops:List Od):Co × List Wd × Int:=if kq c ops=true then(KP c ops,gP c.1 (ix c) ops [] (aD c.1 ops),ix c) else(c,[],0)
theorem iY.below{w w':World}{X:Nat}{T:TypeId}{pre post:List Value}{ja la:Option Addr}{jn jc ln lc:Nat}{c:Co}{F:List Nat}(h:iY w X T pre post ja jn jc la ln lc c F)(hb:Below w.heap.size w w'):iY w' X T pre post ja jn jc la ln lc c F:=⟨h.box.below hb,a7.gB h.own hb,h.out⟩
theorem tX{X:Nat}{T:TypeId}{w:World}{pre post:List Value}{v0 v1 v2 v3 v4 v5:Value}(h:au X T pre [v0,v1,v2,v3,v4,v5] post w):w.cell? ⟨X,pre.length,none⟩=some v0∧w.cell? ⟨X,pre.length+1,none⟩=some v1∧w.cell? ⟨X,pre.length+2,none⟩=some v2∧w.cell? ⟨X,pre.length+3,none⟩=some v3∧w.cell? ⟨X,pre.length+4,none⟩=some v4∧w.cell? ⟨X,pre.length+5,none⟩=some v5:=⟨h.cell 0 _ rfl,h.cell 1 _ rfl,h.cell 2 _ rfl,h.cell 3 _ rfl,h.cell 4 _ rfl,h.cell 5 _ rfl⟩
theorem vE{w w1:World}{X:Nat}{T:TypeId}{pre post:List Value}{ja la:Option Addr}{jn jc ln lc:Nat}{c:Co}{F:List Nat}(h:iY w X T pre post ja jn jc la ln lc c F)(hb:Below w.heap.size w w1):sd w X T pre post F (c,[],0) (.returned (.tuple #[.slice (some ⟨w1.heap.size,0,none⟩) 0 0,.int .i64 0])) (w1.alloc (.cells #[] 112)):=by
 have xB:Below w1.heap.size w1 (w1.alloc (.cells #[] 112)):=aJ;have aU:=hb.trans (xB.mono hb.size);refine⟨w1.heap.size,0,0,[],ja,jn,jc,la,ln,lc,F,rfl,lay.lB _ _ _,fun k hk=>?_,h.below aU,lay.Frame.cu aU,fu.refl _ _⟩
 have e:k=w1.heap.size:=by simpa[al] using hk
 have:=hb.size;refine⟨by omega,fun hm=>?_⟩
 have:=a7.dv h.own k hm;omega
theorem GV{w U w5:World}{X:Nat}{T:TypeId}{pre post:List Value}{la:Option Addr}{m ln lc g' aO gw mw BT:Nat}{c:Co}{F F1:List Nat}{q4 ql qw:dJ}{words:List Wd}{tx:Int}(hX:au X T pre [.int .i64 c.1,.int .i64 c.2.1,.int .i64 c.2.2.1,.slice (some ⟨g',0,none⟩) m aO,.slice la ln lc,.int .i64 c.2.2.2.2.2] post U)(hO:bk 75 dU U (.slice (some ⟨g',0,none⟩) m aO) c.2.2.2.1 q4)(hL:bk 87 q_ U (.slice la ln lc) c.2.2.2.2.1 ql)(hF:lay.Frame (X::F) w U)(fo:r9 c)(hq:∀k∈g'::al q4,(k∈F1∨w.heap.size≤k)∧k≠X)(dL:F=F1++(Value.slice la ln lc).ownBlock.toList)(dW:F.Nodup)(jr:X∉F)(kh:∀k∈F,k<w.heap.size)(hW:bk 112 te w5 (.slice (some ⟨gw,0,none⟩) mw BT) words qw)(Lu:∀k∈gw::al qw,U.heap.size≤k)(hb:Below U.heap.size U w5):
 sd w X T pre post F (c,words,tx) (.returned (.tuple #[.slice (some ⟨gw,0,none⟩) mw BT,.int .i64 tx])) w5:=by
 have M2:∀k∈(Value.slice la ln lc).ownBlock.toList,k∈F:=fun k hk=>by rw[dL]; exact List.mem_append.2 (.inr hk)
 have Qs:∀k∈g'::al q4,k∉(Value.slice la ln lc).ownBlock.toList:=fun k hk h2=>by
  rcases(hq k hk).1 with e | e
  · rw[dL] at dW;exact(aR dW).2.2 k e h2
  · have:=kh k (M2 k h2); omega
 have hOn:(g'::al q4).Nodup:=by simpa[Value.ownBlock] using hO.nodup
 have lP:qd.own U [.slice la ln lc] c.2.2.2.2.1 (Value.slice la ln lc).ownBlock.toList:=iw.2 ⟨⟨ql,hL⟩,rfl⟩;have aB:a7.own U [.int .i64 c.1,.int .i64 c.2.1,.int .i64 c.2.2.1,.slice (some ⟨g',0,none⟩) m aO,.slice la ln lc,.int .i64 c.2.2.2.2.2] c ((g'::al q4)++(Value.slice la ln lc).ownBlock.toList):=
  bn.2 ⟨_,_,g'::al q4,_,rfl,fo,⟨_,q4,rfl,by simp[Value.ownBlock],hO⟩,lP,rfl,bL hOn (qd.bG lP) Qs⟩
 have a6:=a7.dv aB;refine⟨gw,mw,BT,qw,_,_,_,la,ln,lc,_,rfl,hW,fun k hk=>⟨by have:=Lu k hk; have:=hF.size; omega,fun hm=>?_⟩,⟨hX.below hb,a7.gB aB hb,fun e=>?_⟩,hF.below hb,fun k hk=>?_⟩
 · have:=a6 k hm;have:=Lu k hk;omega
 · rcases List.mem_append.1 e with e | e
   · exact(hq X e).2 rfl
   · exact jr (M2 X e)
 · rcases List.mem_append.1 hk with e | e
   · rcases(hq k e).1 with e2 | e2
     · exact .inl (by rw[dL]; exact List.mem_append.2 (.inl e2))
     · exact .inr e2
   · exact .inl (M2 k e)
theorem lp(X:Nat)(T:TypeId)(pre post:List Value)(ja:Option Addr)(jn jc:Nat)(la:Option Addr)(ln lc:Nat)(c:Co)(F:List Nat)(a:Option Addr)(len cap:Nat)(ops:List Od)(w:World)(h:iY w X T pre post ja jn jc la ln lc c F)(cc:∀w',lay.Frame (X::F) w w'→dD w' a len ops)(dG:∀p∈ops,p.2.1.size≤1099511627776)(rl:1≤c.2.1∧c.2.1≤900)(tg:0≤c.2.2.1∧c.2.2.1≤999)(hj8:c.2.2.2.1.length≤1048576)(UG:c.2.2.2.2.1.length≤1048576):
 Calls Tryz.prog 130 #[.pointer (some ⟨X,pre.length,none⟩),.slice a len cap] w (sd w X T pre post F (i_ c ops)):=by
 have H0:=Hid.mk' h;obtain⟨bt,aB,jr⟩:=h;have iN:=bt.lt;obtain⟨n,ak,next,jobs,log,sure⟩:=c;simp only[] at *;have dE:=cc w (lay.Frame.refl _ _);have eX:=Hid.mk' (fM a len cap ops w dE dG);obtain⟨vx,vy,F1,F2,e,fo,hj,hl,dL,dW⟩:=bn.1 aB;simp only[List.cons.injEq,and_true,true_and] at e;obtain⟨rfl,rfl⟩:=e;obtain⟨⟨ql,hL⟩,rfl⟩:=iw.1 hl;have nj:ln=log.length:=hL.sl.1.symm;have vi:=Hid.mk' bt;cases bD:bM ops with
 | false=>
  have HE:Hid (i_ (n,ak,next,jobs,log,sure) ops=((n,ak,next,jobs,log,sure),[],0)):=by show _=_; unfold i_ kq; rw[bD]; rfl
  rw[bD] at eX;clear bD bt aB hj hl hL nj fo dW dL dE rl tg;rw[HE.out];go_enter Tryz.func130,Tryz.ntmps130;go_wp2_with fail;refine eX.out.mono ?_;rintro e w1 ⟨rfl,aT⟩;have HP:=Hid.mk' (vE H0.out aT);clear eX vi H0 cc;go_wp2_with fail;go_returns
  exact HP.out
 | true=>
  rw[bD] at eX;by_cases h9:next=999
  · have HE:Hid (i_ (n,ak,next,jobs,log,sure) ops=((n,ak,next,jobs,log,sure),[],0)):=by show _=_; unfold i_ kq; rw[bD]; simp[h9]
    have Rj:(next==999)=true:=beq_iff_eq.2 h9;clear bD bt aB hj hl hL nj fo dW dL dE rl tg h9;rw[HE.out];go_enter Tryz.func130,Tryz.ntmps130;go_wp2_with fail;refine eX.out.mono ?_;rintro e w1 ⟨rfl,aT⟩;have HP:=Hid.mk' (vE H0.out aT);have x2:=(vi.out.below aT).cell 2 _ rfl;clear eX vi H0 cc HE;generalize next=nx at *;go_wp2_with fail;go_returns
    exact HP.out
  have Rj:(next==999)=false:=beq_eq_false_iff_ne.2 h9;by_cases xY:1000≤ln
  · have HE:Hid (i_ (n,ak,next,jobs,log,sure) ops=((n,ak,next,jobs,log,sure),[],0)):=by show _=_; unfold i_ kq; rw[bD]; simp; omega
    have Yi:¬(ln:Int)<1000:=by omega
    have Qt:(1000:Int)≤(ln:Int):=by omega
    clear bD bt aB hj hl hL nj fo dW dL dE rl tg h9;rw[HE.out];go_enter Tryz.func130,Tryz.ntmps130;go_wp2_with fail;refine eX.out.mono ?_;rintro e w1 ⟨rfl,aT⟩;have HP:=Hid.mk' (vE H0.out aT);have x2:=(vi.out.below aT).cell 2 _ rfl;have x4:=(vi.out.below aT).cell 4 _ rfl;clear eX vi H0 cc HE;generalize next=nx at *;go_wp2_with fail;go_returns
    exact HP.out
  have Yi:(ln:Int)<1000:=by omega
  have Qt:¬(1000:Int)≤(ln:Int):=by omega
  have HE:Hid (i_ (n,ak,next,jobs,log,sure) ops=((n,ak,next+1,jobs++[(ak * 1000+next,ops,1,[])],log,sure),gP n (ak * 1000+next) ops [] (aD n ops),ak * 1000+next)):=by
   show _=_;unfold i_ kq;rw[bD,if_pos (by simp; omega)]
   rfl
  rw[HE.out];have wY:len≤8:=by have:=dE.1; have:=(mb bD).2; omega
  obtain⟨vj,qj,e,sW,hJ⟩:=hj;simp only[List.cons.injEq,and_true] at e;subst e;have eL:jn=jobs.length:=hJ.sl.1.symm;have Gk:=fo.n;have w1:IntKind.i64.wrap (ak * 1000)=ak * 1000:=by rw[IntKind.wrap_i64]; omega
  have w2:IntKind.i64.wrap (ak * 1000+next)=ak * 1000+next:=by rw[IntKind.wrap_i64]; omega
  have w3:IntKind.i64.wrap (next+1)=next+1:=by rw[IntKind.wrap_i64]; omega
  have Ar:(Lit.int .i64 (ak * 1000+next)).wf=true:=WalkArith.wf_i64 (by omega)
  have JN:(Lit.int .i64 (next+1)).wf=true:=WalkArith.wf_i64 (by omega)
  have Bx:=Hid.mk' fo;have gW:=Hid.mk' cc;have HJ:=Hid.mk' hJ;have HL:=Hid.mk' hL;have TO:=Hid.mk' dW;have kh:=a7.dv aB;have HJL:=Hid.mk' eL;clear bD bt aB hl hL nj fo dW dE rl tg h9 xY cc hJ H0 HE eL;go_enter Tryz.func130,Tryz.ntmps130;go_wp2_with fail;refine eX.out.mono ?_;rintro e W1 ⟨rfl,aT⟩;have x2:=(vi.out.below aT).cell 2 _ rfl;have x4:=(vi.out.below aT).cell 4 _ rfl;clear eX;go_wp2_with fail;clear x2 x4;have Yj:=aT.size;have eJ:Below W1.heap.size W1 W1.drew:=(Below.refl _ _).drew;have Yk:=Hid.mk' (vi.out.below aT);have J1:=Hid.mk' (fun wx (hx:Below w.heap.size w wx)=>fY a len cap ops wx (gW.out wx (lay.Frame.cu hx)) (by omega))
  refine last.aq (S:=fun w'=>Below W1.heap.size W1 w') 14 (by kernel_rfl) eJ (fun af=>?_)
  generalize hD:W1.drew=D at *;clear hD;refine last.wpTk 0 (.pointer (some ⟨X,pre.length,none⟩)) rfl rfl ?_ ?_
  · intro wq ar; go_simp
  try simp only[Act.put,zP,zQ,zR]
  refine last.wpTk 1 (.pointer (some ⟨X,pre.length,none⟩)) rfl rfl ?_ ?_
  · intro wq ar; go_simp
  try simp only[Act.put,zP,zQ,zR]
  refine last.wpTk 2 (.pointer (some ⟨X,pre.length+1,none⟩)) rfl rfl ?_ ?_
  · intro wq ar; go_simp
  try simp only[Act.put,zP,zQ,zR]
  refine last.wpTk 3 (.int .i64 ak) rfl rfl ?_ ?_
  · intro wq ar; have q:=(Yk.out.below ar).cell 1 _ rfl; go_simp
  try simp only[Act.put,zP,zQ,zR]
  refine last.wpTk 4 (.int .i64 (ak * 1000)) rfl rfl ?_ ?_
  · intro wq ar; go_simp
  try simp only[Act.put,zP,zQ,zR]
  refine last.wpTk 5 (.pointer (some ⟨X,pre.length,none⟩)) rfl rfl ?_ ?_
  · intro wq ar; go_simp
  try simp only[Act.put,zP,zQ,zR]
  refine last.wpTk 6 (.pointer (some ⟨X,pre.length,none⟩)) rfl rfl ?_ ?_
  · intro wq ar; go_simp
  try simp only[Act.put,zP,zQ,zR]
  refine last.wpTk 7 (.pointer (some ⟨X,pre.length+2,none⟩)) rfl rfl ?_ ?_
  · intro wq ar; go_simp
  try simp only[Act.put,zP,zQ,zR]
  refine last.wpTk 8 (.int .i64 next) rfl rfl ?_ ?_
  · intro wq ar; have q:=(Yk.out.below ar).cell 2 _ rfl; go_simp
  try simp only[Act.put,zP,zQ,zR]
  refine last.wpTk 9 (.int .i64 (ak * 1000+next)) rfl rfl ?_ ?_
  · intro wq ar; go_simp
  try simp only[Act.put,zP,zQ,zR]
  refine last.wpTk 10 (.slice a len cap) rfl rfl ?_ ?_
  · intro wq ar; go_simp
  try simp only[Act.put,zP,zQ,zR]
  refine last.eA (i:=11) (j:=13) (o:=qO31) (o':={dst:=some 6,op:=Op.alloc 75,type:=0,pos:= "l11_coord.go:96",after:=#[],guard:=none}) (by kernel_rfl) rfl rfl (fun K hK=> ?wayA) (fun K hK=> ?wayB)
  case' wayA=>
   refine fV.NZ rfl 95 (.tmp 36) _ rfl (fun _ _=>rfl) (.slice a len cap) (by kernel_rfl) _ (J1.out _ (aT.trans (eJ.mono aT.size))) ?_
   rintro e wB ⟨g1,iA,rfl,gi,x_⟩;refine⟨_,rfl,?_⟩;have fi:=eJ.trans (x_.mono eJ.size);have KR:=gi.lt;have Qu:=x_.size;have Fp:=eJ.size;refine hK.out _ _ ?_ (fun ag=>?_)
   · exact fi
   clear hK K af;have af:=ag;clear ag;try simp only[Act.put,zP,zQ,zR]
   refine last.wpTk 12 (.agg #[.int .i64 (ak * 1000+next),.slice (some ⟨g1,0,none⟩) len iA,.int .i64 1,.slice none 0 0]) rfl rfl ?_ ?_
   · intro wq ar; go_simp
   try simp only[Act.put,zP,zQ,zR]
   refine last.an (i:=13) (o:={dst:=some 6,op:=Op.alloc 75,type:=0,pos:= "l11_coord.go:96",after:=#[],guard:=none}) (by kernel_rfl) rfl (fun K hK=>?_)
   go_simp;obtain⟨wZ,iz⟩:∃V,wB.alloc (.cells #[.int .i64 0,.slice none 0 0,.int .i64 0,.slice none 0 0] 75)=V:=⟨_,rfl⟩;have bg:Below wB.heap.size wB wZ:=by rw[←iz]; exact aJ
   have iB:au wB.heap.size 75 [] [.int .i64 0,.slice none 0 0,.int .i64 0,.slice none 0 0] [] wZ:=by rw[←iz]; exact aE _ _ _
   have xZ:=fi.trans (bg.mono fi.size);have Qp:=iB.lt;have Qv:=bg.size;have Qw:=fi.size;rw[iz];refine hK.out _ _ ?_ (fun ag=>?_)
   · exact xZ
   clear hK K af;have af:=ag;clear ag;try simp only[Act.put,zP,zQ,zR]
   clear iz;replace gi:=gi.below bg;generalize N1:wB.heap.size=J at *;have aW:g1≠J:=by omega
   have Lm:W1.heap.size≤J:=by omega
   have Yl:W1.heap.size≤g1:=by omega
   have M3:=gi.mono (base':=0) (Nat.zero_le _);clear gi KR Qu Fp Qv Qw bg x_ fi
  case' wayB=>
   go_simp;obtain⟨wB,fU⟩:∃V,D.alloc (.cells #[.int .i64 0,.slice none 0 0,.int .i64 0,.slice none 0 0] 75)=V:=⟨_,rfl⟩;have bg:Below D.heap.size D wB:=by rw[←fU]; exact aJ
   have iB:au D.heap.size 75 [] [.int .i64 0,.slice none 0 0,.int .i64 0,.slice none 0 0] [] wB:=by rw[←fU]; exact aE _ _ _
   have fi:=eJ.trans (bg.mono eJ.size);have Qp:=iB.lt;have Qv:=bg.size;have Qw:=eJ.size;rw[fU];refine hK.out _ _ ?_ (fun ag=>?_)
   · exact fi
   clear hK K af;have af:=ag;clear ag;try simp only[Act.put,zP,zQ,zR]
   clear fU;refine last.an (i:=11) (o:=qO31) (by kernel_rfl) rfl (fun K hK=>?_)
   refine fV.NZ rfl 95 (.tmp 36) _ rfl (fun _ _=>rfl) (.slice a len cap) (by kernel_rfl) _ (J1.out _ (aT.trans (fi.mono aT.size))) ?_
   rintro e wZ ⟨g1,iA,rfl,gi,x_⟩;refine⟨_,rfl,?_⟩;have xZ:=fi.trans (x_.mono fi.size);have KR:=gi.lt;have Qu:=x_.size;have Fp:=fi.size;refine hK.out _ _ ?_ (fun ag=>?_)
   · exact xZ
   clear hK K af;have af:=ag;clear ag;try simp only[Act.put,zP,zQ,zR]
   refine last.wpTk 12 (.agg #[.int .i64 (ak * 1000+next),.slice (some ⟨g1,0,none⟩) len iA,.int .i64 1,.slice none 0 0]) rfl rfl ?_ ?_
   · intro wq ar; go_simp
   try simp only[Act.put,zP,zQ,zR]
   replace iB:=iB.below x_;generalize N1:D.heap.size=J at *;have aW:g1≠J:=by omega
   have Lm:W1.heap.size≤J:=by omega
   have Yl:W1.heap.size≤g1:=by omega
   have M3:=gi.mono (base':=0) (Nat.zero_le _);clear gi KR Qu Fp Qv Qw bg x_ fi
  all_goals
   have Qp:=iB.lt;have KR:=M3.lt;obtain⟨z0,z1,z2,z3⟩:=cells4 iB;have f0:=iB.fz 0;have f1:=iB.fz 1;have f2:=iB.fz 2;have f3:=iB.fz 3;have hS:=iB.whole [.int .i64 (ak * 1000+next),.slice (some ⟨g1,0,none⟩) len iA,.int .i64 1,.slice none 0 0] rfl;obtain⟨U,hU⟩:∃U,bh wZ J 0 [.int .i64 (ak * 1000+next),.slice (some ⟨g1,0,none⟩) len iA,.int .i64 1,.slice none 0 0]=U:=⟨_,rfl⟩;rw[hU] at hS;simp only[bh,Nat.zero_add,Nat.reduceAdd] at hU;have HU:=Hid.mk' hU;clear hU;refine last.aC (o:={dst:=none,op:=Op.store 75 (Operand.tmp 6) (Operand.tmp 38),type:=0,pos:= "l11_coord.go:96",after:=#[{on:=13,ground:=Ground.data},{on:=12,ground:=Ground.data},{on:=11,ground:=Ground.chain},{on:=0,ground:=Ground.phase},{on:=1,ground:=Ground.phase},{on:=2,ground:=Ground.phase},{on:=3,ground:=Ground.phase},{on:=4,ground:=Ground.phase},{on:=5,ground:=Ground.phase},{on:=6,ground:=Ground.phase},{on:=7,ground:=Ground.phase},{on:=8,ground:=Ground.phase},{on:=9,ground:=Ground.phase},{on:=10,ground:=Ground.phase},{on:=11,ground:=Ground.phase},{on:=12,ground:=Ground.phase},{on:=13,ground:=Ground.phase}],guard:=none}) (by kernel_rfl) rfl (by kernel_rfl) (fun K hK=>?_)
   go_simp;refine hK.out _ _ ?_;clear hK K;rw[HU.out];have Ym:Below W1.heap.size W1 U:=xZ.grown hS.2 xZ.size (fun k e=>by cases e; omega)
   have KS:=hS.1;have hOU:=M3.grown hS.2 (by simp; omega)
   have hg1U:g1<U.heap.size:=Nat.lt_of_lt_of_le KR.2 hS.2.size;have Vl:=Yk.out.below Ym;clear z0 z1 z2 z3 f0 f1 f2 f3 hS HU xZ M3 iB Qp af N1;have hXJ:X≠J:=by omega
   have x2:=Vl.cell 2 _ rfl;have f2:=Vl.fz (pre.length+2);have zD:=Vl.set 2 (by simp) (.int .i64 (next+1))
   obtain⟨U2,Yn⟩:∃U2,U.setCell ⟨X,pre.length+2,none⟩ (.int .i64 (next+1))=U2:=⟨_,rfl⟩;rw[Yn] at zD;have xk:=Hid.mk' Yn;clear Yn;go_wp2_with fail;rw[xk.out];have eY:au X T pre [.int .i64 n,.int .i64 ak,.int .i64 (next+1),.slice ja jn jc,.slice la ln lc,.int .i64 sure] post U2:=zD.1;have EV:=KS.grown zD.2 (by simp; omega)
   have fE:=hOU.grown zD.2 (by simp; omega)
   have Lq:lay.Frame [X] w U2:=(lay.Frame.cu (aT.trans (Ym.mono aT.size))).grown zD.2 (fun k e=>by cases e; exact .inl (by simp))
   have px:=zD.2.size;clear x2 f2 xk zD Vl KS hOU;have zL:=HJ.out.keep fun k hk=>Lq.block k (HJ.out.at_ k hk) (fun e=>by
    rw[List.mem_singleton] at e;subst e;exact jr (by rw[dL,sW]; exact List.mem_append.2 (.inl hk)))
   have hLs:=HL.out.keep fun k hk=>Lq.block k (HL.out.at_ k hk) (fun e=>by
    rw[List.mem_singleton] at e;subst e;rw[(dH.parts HL.out).2.2.1,List.append_nil] at hk;exact jr (by rw[dL]; exact List.mem_append.2 (.inr hk)))
   have M4:Below U2.heap.size U2 U2.drew:=(Below.refl _ _).drew;have hw1s:w.heap.size≤W1.heap.size:=Yj;have hU1s:W1.heap.size≤U2.heap.size:=Nat.le_trans Ym.size px;have HX2:=Hid.mk' eY;have HJ2:=Hid.mk' EV;refine last.aq (S:=fun w'=>au X T pre [.int .i64 n,.int .i64 ak,.int .i64 (next+1),.slice ja jn jc,.slice la ln lc,.int .i64 sure] post w'∧au J 75 [] [.int .i64 (ak * 1000+next),.slice (some ⟨g1,0,none⟩) len iA,.int .i64 1,.slice none 0 0] [] w') 10 (by kernel_rfl) ⟨eY.below M4,EV.below M4⟩ (fun af=>?_)
   have Yo:=zL.below M4;have TU:=hLs.below M4;have Yp:=fE.below M4;have Yq:=Lq.below M4;have TV:=eY.below M4;have TW:=EV.below M4;have hds:=M4.size;generalize hD2:U2.drew=D2 at *;clear hD2 zL hLs fE Lq eY EV;refine last.wpTk 0 (.pointer (some ⟨X,pre.length,none⟩)) rfl rfl ?_ ?_
   · intro wq ar; go_simp
   try simp only[Act.put,zP,zQ,zR]
   refine last.wpTk 1 (.pointer (some ⟨X,pre.length,none⟩)) rfl rfl ?_ ?_
   · intro wq ar; go_simp
   try simp only[Act.put,zP,zQ,zR]
   refine last.wpTk 2 (.pointer (some ⟨X,pre.length,none⟩)) rfl rfl ?_ ?_
   · intro wq ar; go_simp
   try simp only[Act.put,zP,zQ,zR]
   refine last.wpTk 3 (.pointer (some ⟨X,pre.length+3,none⟩)) rfl rfl ?_ ?_
   · intro wq ar; go_simp
   try simp only[Act.put,zP,zQ,zR]
   refine last.wpTk 4 (.slice ja jn jc) rfl rfl ?_ ?_
   · intro wq ar; have q:=ar.1.cell 3 _ rfl; go_simp
   try simp only[Act.put,zP,zQ,zR]
   refine last.wpTk 5 (.agg #[.int .i64 (ak * 1000+next),.slice (some ⟨g1,0,none⟩) len iA,.int .i64 1,.slice none 0 0]) rfl rfl ?_ ?_
   · intro wq ar; obtain⟨q0,q1,q2,q3⟩:=cells4 ar.2; go_simp
   try simp only[Act.put,zP,zQ,zR]
   refine last.an (i:=6) (o:={dst:=some 53,op:=Op.buildSlice 25 1 #[(0,Operand.tmp 52)],type:=25,pos:= "l11_coord.go:98",after:=#[{on:=5,ground:=Ground.data}],guard:=none}) (by kernel_rfl) rfl (fun K hK=>?_)
   go_simp;obtain⟨V,hV⟩:∃V,D2.alloc (.cells #[.int .i64 (ak * 1000+next),.slice (some ⟨g1,0,none⟩) len iA,.int .i64 1,.slice none 0 0] 75)=V:=⟨_,rfl⟩;have mZ:Below D2.heap.size D2 V:=by rw[←hV]; exact aJ
   have Yr:au D2.heap.size 75 [] [.int .i64 (ak * 1000+next),.slice (some ⟨g1,0,none⟩) len iA,.int .i64 1,.slice none 0 0] [] V:=by rw[←hV]; exact aE _ _ _
   rw[hV];refine hK.out _ _ ?_ (fun ag=>?_)
   · exact⟨TV.below mZ,TW.below mZ⟩
   clear hK K af;have af:=ag;clear ag;try simp only[Act.put,zP,zQ,zR]
   have d_:=Yp.below mZ;have hxj:dU.own V [.int .i64 (ak * 1000+next),.slice (some ⟨g1,0,none⟩) len iA,.int .i64 1,.slice none 0 0] (ak * 1000+next,ops,1,[]) ([g1]++[]):=dI.2 ⟨_,_,rfl,Ar,(by decide:(Lit.int .i64 1).wf=true),(fv d_).mono (Nat.zero_le _),⟨fun _ h=>absurd h List.not_mem_nil,World.ownsRow_nil _ _ _ _⟩,rfl,by simp⟩
   have Ys:∀k∈F,k<w.heap.size:=kh;have Qx:∀k∈(Value.slice ja jn jc).ownBlock.toList++al qj,k∈F:=fun k hk=>by rw[dL,sW]; exact List.mem_append.2 (.inl hk)
   obtain⟨g',aO,w4,dh,dT,jF,D9⟩:=bk.zp (P:=Tryz.prog) (z:=.agg #[.int .i64 0,.slice none 0 0,.int .i64 0,.slice none 0 0]) Tryz.underlying25 NN rfl (by decide) (Yo.below mZ) hxj (fun b hb hc=>by
    rw[List.append_nil,List.mem_singleton] at hb;have h2:=Ys b (Qx b hc);omega) Yr (by unfold maxLen; omega) (by omega) 25
   rw[←HJL.out] at dh dT;refine last.an (i:=7) (o:={dst:=some 54,op:=Op.call {callee:=Callee.builtin Builtin.append,args:=#[Operand.tmp 51,Operand.tmp 53],argTypes:=#[25,25]},type:=25,pos:= "l11_coord.go:98",after:=#[{on:=4,ground:=Ground.data},{on:=6,ground:=Ground.data}],guard:=none}) (by kernel_rfl) rfl (fun K hK=>?_)
   refine cO rfl (.tmp 51) (.tmp 53) 25 rfl (by kernel_rfl) (by kernel_rfl) dh ?_
   have jC:=mZ.size;have MR:∀k,(Value.slice ja jn jc).ownBlock=some k→k∈F:=fun k e=>Qx k (List.mem_append.2 (.inl (by rw[e]; simp)))
   have Lv:=(TV.below mZ).grown jF (fun e=>jr (MR X e.symm))
   have rh:=(TW.below mZ).grown jF (fun e=>by have:=Ys J (MR J e.symm); omega)
   have eh:=d_.grown jF (fun e=>by have:=Ys g1 (MR g1 e.symm); omega)
   have yZ:lay.Frame (X::F) w w4:=((Yq.mono (G':=X::F) (fun j hj=>by rw[List.mem_singleton] at hj; subst hj; exact List.mem_cons_self)).below mZ).grown jF (fun k e=>.inl (List.mem_cons_of_mem _ (MR k e)))
   have hg'b:g'∈F∨w.heap.size≤g':=by
    rcases D9 with e | e
    · exact .inl (MR g' e)
    · exact .inr (by omega)
   have lu:=(TU.below mZ).keep fun k hk=>jF.block k ((TU.below mZ).at_ k hk) (fun e=>by
    have h1:=MR k e.symm;rw[(dH.parts HL.out).2.2.1,List.append_nil] at hk;have h2:k∈F1:=by rw[sW]; exact List.mem_append.2 (.inl (by rw[←e]; simp))
    have h3:=TO.out;rw[dL] at h3;exact(aR h3).2.2 k h2 hk)
   clear dh;refine hK.out _ _ ?_ (fun ag=>?_)
   · exact⟨Lv,rh⟩
   clear hK K af;have af:=ag;clear ag;try simp only[Act.put,zP,zQ,zR]
   refine last.an (i:=8) (o:={dst:=some 55,op:=Op.nilCheck (Operand.tmp 47),type:=0,pos:= "l11_coord.go:98",after:=#[{on:=0,ground:=Ground.data},{on:=0,ground:=Ground.phase},{on:=1,ground:=Ground.phase},{on:=2,ground:=Ground.phase},{on:=3,ground:=Ground.phase},{on:=4,ground:=Ground.phase},{on:=5,ground:=Ground.phase},{on:=6,ground:=Ground.phase},{on:=7,ground:=Ground.phase}],guard:=none}) (by kernel_rfl) rfl (fun K hK=>?_)
   go_simp;refine hK.out _ _ ?_ (fun ag=>?_)
   · exact⟨Lv,rh⟩
   clear hK K af;have af:=ag;clear ag;try simp only[Act.put,zP,zQ,zR]
   refine last.wpTk 9 (.pointer (some ⟨X,pre.length+3,none⟩)) rfl rfl ?_ ?_
   · intro wq ar; go_simp
   try simp only[Act.put,zP,zQ,zR]
   have x3:=Lv.cell 3 _ rfl;have f3:=Lv.fz (pre.length+3);have N2:=Lv.set 3 (by simp) (.slice (some ⟨g',0,none⟩) (jn+1) aO)
   obtain⟨U3,Yt⟩:∃U3,w4.setCell ⟨X,pre.length+3,none⟩ (.slice (some ⟨g',0,none⟩) (jn+1) aO)=U3:=⟨_,rfl⟩;rw[Yt] at N2;have HU3:=Hid.mk' Yt;clear Yt;refine last.aC (o:={dst:=none,op:=Op.store 25 (Operand.tmp 56) (Operand.tmp 54),type:=0,pos:= "l11_coord.go:98",after:=#[{on:=9,ground:=Ground.data},{on:=7,ground:=Ground.data},{on:=7,ground:=Ground.chain},{on:=0,ground:=Ground.phase},{on:=1,ground:=Ground.phase},{on:=2,ground:=Ground.phase},{on:=3,ground:=Ground.phase},{on:=4,ground:=Ground.phase},{on:=5,ground:=Ground.phase},{on:=6,ground:=Ground.phase},{on:=7,ground:=Ground.phase}],guard:=none}) (by kernel_rfl) rfl (by kernel_rfl) (fun K hK=>?_)
   go_simp;refine hK.out _ _ ?_;clear hK K;rw[HU3.out];have Vk:=jF.size;have U4:g'≠X:=fun e=>by
    rcases D9 with e2 | e2
    · exact jr (e ▸ MR g' e2)
    · omega
   have nu:au X T pre [.int .i64 n,.int .i64 ak,.int .i64 (next+1),.slice (some ⟨g',0,none⟩) (jn+1) aO,.slice la ln lc,.int .i64 sure] post U3:=N2.1;have HQ:=rh.grown N2.2 (by simp; omega)
   have dV:=eh.grown N2.2 (by simp; omega)
   have TX:lay.Frame (X::F) w U3:=yZ.grown N2.2 (fun k e=>by cases e; exact .inl List.mem_cons_self)
   have oT:∀k∈g'::al (qj++[([.int .i64 (ak * 1000+next),.slice (some ⟨g1,0,none⟩) len iA,.int .i64 1,.slice none 0 0],[g1]++[])]),(k∈F1∨w.heap.size≤k)∧k≠X:=fun k hk=>by
    rw[aQ] at hk;rcases List.mem_cons.1 hk with e | e
    · refine⟨?_,fun e2=>U4 (e.symm.trans e2)⟩
      rcases D9 with e2 | e2
      · exact .inl (by rw[sW,e]; exact List.mem_append.2 (.inl (by rw[e2]; simp)))
      · exact .inr (by omega)
    · rcases List.mem_append.1 e with e | e
      · exact⟨.inl (by rw[sW]; exact List.mem_append.2 (.inr e)),fun e2=>jr (e2 ▸ Qx k (List.mem_append.2 (.inr e)))⟩
      · have:k=g1:=by simpa[al] using e
        exact⟨.inr (by omega),by omega⟩
   have rJ:=dT.keep fun k hk=>N2.2.block k (dT.at_ k hk) (fun e=>(oT k (by simpa[Value.ownBlock] using hk)).2 (Option.some.inj e))
   have hL7:=lu.keep fun k hk=>N2.2.block k (lu.at_ k hk) (fun e=>by
    rw[(dH.parts HL.out).2.2.1,List.append_nil] at hk;have e2:=Option.some.inj e;exact jr (by rw[dL,←e2]; exact List.mem_append.2 (.inr hk)))
   have Yu:r9 (n,ak,next+1,jobs++[(ak * 1000+next,ops,1,[])],log,sure):=⟨Gk,Bx.out.ak,JN,Bx.out.sure⟩;have wm:=Hid.mk' rJ;have HL7:=Hid.mk' hL7;have HF3:=Hid.mk' TX;have HQB:=Hid.mk' oT;have BJ:=Hid.mk' dL;have HX3:=Hid.mk' nu;have Yb:=Hid.mk' HQ;clear rJ hL7 TX oT dT lu yZ N2 HU3 x3 f3 Lv rh eh jF D9 af nu HQ;go_wp2_with fail;have TY:Below U3.heap.size U3 U3.drew:=(Below.refl _ _).drew;have tw:=Hid.mk' (fun wx (hx:Below U3.heap.size U3 wx)=>D8 n ak (next+1) sure (some ⟨g',0,none⟩) (jn+1) aO la ln lc (ak * 1000+next) 1 (some ⟨g1,0,none⟩) len iA none 0 0 ops [] wx Ar (dV.below hx).sl BG wY Gk)
   refine last.aq (S:=fun w'=>Below U3.heap.size U3 w') 8 (by kernel_rfl) TY (fun af=>?_)
   generalize LU:U3.drew=D3 at *;clear LU;refine last.wpTk 0 (.pointer (some ⟨X,pre.length,none⟩)) rfl rfl ?_ ?_
   · intro wq ar; go_simp
   try simp only[Act.put,zP,zQ,zR]
   refine last.wpTk 1 (.pointer (some ⟨X,pre.length,none⟩)) rfl rfl ?_ ?_
   · intro wq ar; go_simp
   try simp only[Act.put,zP,zQ,zR]
   refine last.wpTk 2 (.agg #[.int .i64 n,.int .i64 ak,.int .i64 (next+1),.slice (some ⟨g',0,none⟩) (jn+1) aO,.slice la ln lc,.int .i64 sure]) rfl rfl ?_ ?_
   · intro wq ar; obtain⟨q0,q1,q2,q3,q4,q5⟩:=tX (HX3.out.below ar); go_simp
   try simp only[Act.put,zP,zQ,zR]
   refine last.wpTk 3 (.agg #[.int .i64 (ak * 1000+next),.slice (some ⟨g1,0,none⟩) len iA,.int .i64 1,.slice none 0 0]) rfl rfl ?_ ?_
   · intro wq ar; obtain⟨q0,q1,q2,q3⟩:=cells4 (Yb.out.below ar); go_simp
   try simp only[Act.put,zP,zQ,zR]
   refine last.wpTk 5 (.pointer (some ⟨J,0,none⟩)) rfl rfl ?_ ?_
   · intro wq ar; go_simp
   try simp only[Act.put,zP,zQ,zR]
   refine last.wpTk 6 (.int .i64 (ak * 1000+next)) rfl rfl ?_ ?_
   · intro wq ar; obtain⟨q0,q1,q2,q3⟩:=cells4 (Yb.out.below ar); go_simp
   try simp only[Act.put,zP,zQ,zR]
   refine last.an (i:=4) (o:={dst:=some 61,op:=Op.call {callee:=Callee.value (Operand.func 163),args:=#[Operand.tmp 59,Operand.tmp 60],argTypes:=#[28,75]},type:=30,pos:= "l11_coord.go:99",after:=#[{on:=2,ground:=Ground.data},{on:=3,ground:=Ground.data}],guard:=none}) (by kernel_rfl) rfl (fun K hK=>?_)
   refine fV.call2 rfl 163 (.tmp 59) (.tmp 60) _ rfl (fun _ _=>rfl) (.agg #[.int .i64 n,.int .i64 ak,.int .i64 (next+1),.slice (some ⟨g',0,none⟩) (jn+1) aO,.slice la ln lc,.int .i64 sure]) (.agg #[.int .i64 (ak * 1000+next),.slice (some ⟨g1,0,none⟩) len iA,.int .i64 1,.slice none 0 0]) (by kernel_rfl) (by kernel_rfl) _ (tw.out _ TY) ?_
   rintro e w5 ⟨gw,mw,BT,qw,rfl,NV,Lu,de⟩;refine⟨_,rfl,?_⟩;have TZ:=TY.trans (de.mono TY.size);refine hK.out _ _ ?_ (fun ag=>?_)
   · exact TZ
   clear hK K af;have af:=ag;clear ag;try simp only[Act.put,zP,zQ,zR]
   refine last.wpTk 7 (.slice (some ⟨gw,0,none⟩) mw BT) rfl rfl ?_ ?_
   · intro wq ar; go_simp
   try simp only[Act.put,zP,zQ,zR]
   have HP:=Hid.mk' (GV (tx:=ak * 1000+next) HX3.out wm.out HL7.out HF3.out Yu HQB.out BJ.out TO.out jr kh NV (fun k hk=>Nat.le_trans TY.size (Lu k hk)) TZ)
   refine last.aC (o:={dst:=some 5,op:=Op.assign (Operand.tmp 63),type:=3,pos:= "l11_coord.go:99",after:=#[{on:=6,ground:=Ground.data},{on:=7,ground:=Ground.chain},{on:=0,ground:=Ground.phase},{on:=1,ground:=Ground.phase},{on:=2,ground:=Ground.phase},{on:=3,ground:=Ground.phase},{on:=4,ground:=Ground.phase},{on:=5,ground:=Ground.phase},{on:=6,ground:=Ground.phase},{on:=7,ground:=Ground.phase}],guard:=none}) (by kernel_rfl) rfl (by kernel_rfl) (fun K hK=>?_)
   go_simp;refine hK.out _ _ ?_;clear hK K;go_wp2_with fail;go_returns
   exact HP.out
end cos
namespace lay
open Go Go.RowKit base
section
variable{α:Type}
theorem Qy{l:List α}{i:Nat}{x:α}(h:i<l.length):(l.set i x)[i]'(by simpa using h)=x:=by simp
end
theorem bk.open{α:Type}{ty:TypeId}{R:Rd α}{w:World}{g n cap:Nat}{l:List α}{q:dJ}(h:bk ty R w (.slice (some ⟨g,0,none⟩) n cap) l q)(i:Nat)(hi:i<l.length):
 ∃us F,R.own w us l[i] F∧(∀j u,us[j]? =some u→w.cell? ⟨g,i * R.size+j,none⟩=some u)∧(∀k∈F,k∈al q)∧∀(w':World) (x':α) (G:List Nat),Frame G w w'→(∀k∈G,k∈F)→R.own w' us x' F→bk ty R w' (.slice (some ⟨g,0,none⟩) n cap) (l.set i x') q:=by
 have hl:=h.len;have hn:=h.nf;subst hn;refine⟨_,_,h.each i hi,fun j u hj=>?_,fun k hk=>List.mem_flatMap.2 ⟨_,List.getElem_mem _,hk⟩,fun w' x' G hf hG hx=>h.inner i hi x' hf hG hx⟩
 have hp:=h.parts;have eL:=(List.getElem?_eq_some_iff.1 hj).1;rw[hp _ (List.getElem_mem _)] at eL;have gZ:i * R.size+j<l.length * R.size:=by
  have:=Nat.mul_le_mul_right R.size (show i+1≤l.length from hi)
  rw[Nat.add_mul] at this; omega
 rw[h.row.cellAt (i * R.size+j) gZ,gQ hp i (by omega) j eL]
 exact hj
end lay
namespace lay
open Go Go.RowKit base
theorem bk.T0{α:Type}{ty:TypeId}{R:Rd α}{w:World}{g n cap:Nat}{l:List α}{q:dJ}(h:bk ty R w (.slice (some ⟨g,0,none⟩) n cap) l q)(i:Nat)(hi:i<l.length)(j:Nat)(hj:j<R.size)(u:Value)(x:α)(F':List Nat)(hx:R.own w ((q[i]'(by have:=h.len; omega)).1.set j u) x F')(hN:∀b∈F',b∈(q[i]'(by have:=h.len; omega)).2∨b∉g::al q):
 bk ty R (w.setCell ⟨g,i * R.size+j,none⟩ u) (.slice (some ⟨g,0,none⟩) n cap) (l.set i x) (q.set i ((q[i]'(by have:=h.len; omega)).1.set j u,F'))∧w.grownBy (w.setCell ⟨g,i * R.size+j,none⟩ u) (some g):=by
 have hn:n=l.length:=h.nf;subst hn;have hl:=h.len;have CN:i<q.length:=by omega
 have hr:=h.row.stored (i * R.size+j) u;have hp:=h.parts;have gd:=hp _ (List.getElem_mem CN);have e0:(cellsOf q).set (i * R.size+j) u=cellsOf (q.set i (q[i].1.set j u,F')):=by
  rw[←s7 hp i CN (q[i].1.set j u) (by rw[List.length_set]; exact gd) F']
  have gZ:i * R.size+R.size≤(cellsOf q).length:=by
   rw[fG hp];have:=Nat.mul_le_mul_right R.size (show i+1≤q.length from CN)
   rw[Nat.add_mul] at this; omega
  refine List.ext_getElem? fun z=>?_
  rw[vu _ _ _ _ (by rw[List.length_set,gd]; exact gZ),List.length_set,gd]
  by_cases hz:i * R.size≤z∧z<i * R.size+R.size
  · rw[if_pos hz];obtain⟨d,rfl⟩:∃d,z=i * R.size+d:=⟨z - i * R.size,by omega⟩
    rw[Nat.add_sub_cancel_left];by_cases hd:d=j
    · subst hd;rw[List.getElem?_set_self (by omega),List.getElem?_set_self (by omega)]
    · rw[List.getElem?_set_ne (by omega),List.getElem?_set_ne (by omega),gQ hp i CN d (by omega)]
  · rw[if_neg hz,List.getElem?_set_ne (by omega)]
 rw[e0] at hr;have wK:∀b∈al q,b≠g:=fun b hb e=>by
  have:=(aR h.nodup).2.2 g (by simp[Value.ownBlock])
  exact this (e ▸ hb)
 have cV:∀k (hk:k<q.length),∀b∈q[k].2,b∈al q:=fun k hk b hb=>List.mem_flatMap.2 ⟨_,List.getElem_mem _,hb⟩
 have hFg:∀b∈F',b≠g:=fun b hb e=>by
  rcases hN b hb with e2 | e2
  · exact wK b (cV i CN b e2) e
  · exact e2 (by rw[e]; exact List.mem_cons_self)
 exact⟨h.P3 i hi _ x _ hr.1 (R.kD hx fun k hk=>hr.2.block k (R.dv hx k hk) fun e=>hFg k hk (Option.some.inj e)) (fun k hk aW b hb=>hr.2.block b (R.dv (h.each k hk) b hb) fun e=>wK b (cV k (by omega) b hb) (Option.some.inj e)) (fun b hb=>(hN b hb).imp_right fun e=>by simpa[Value.ownBlock] using e),hr.2⟩
theorem bk.x6{α:Type}{ty:TypeId}{R:Rd α}{w:World}{g n cap:Nat}{l:List α}{q:dJ}(h:bk ty R w (.slice (some ⟨g,0,none⟩) n cap) l q)(i:Nat)(hi:i<l.length):
 ∃us F,R.own w us l[i] F∧(∀j u,us[j]? =some u→w.cell? ⟨g,i * R.size+j,none⟩=some u)∧(∀k∈F,k∈al q)∧
  ∀(j:Nat) (u:Value) (x:α) (F':List Nat),j<R.size→R.own w (us.set j u) x F'→(∀b∈F',b∈F∨b∉g::al q)→∃q',bk ty R (w.setCell ⟨g,i * R.size+j,none⟩ u) (.slice (some ⟨g,0,none⟩) n cap) (l.set i x) q'∧(∀b∈al q',b∈al q∨b∈F')∧w.grownBy (w.setCell ⟨g,i * R.size+j,none⟩ u) (some g)∧∀z v,(us.set j u)[z]? =some v→(w.setCell ⟨g,i * R.size+j,none⟩ u).cell? ⟨g,i * R.size+z,none⟩=some v:=by
 have hl:=h.len;obtain⟨_,_,_,h2,h3,_⟩:=h.open i hi;refine⟨(q[i]'(by omega)).1,(q[i]'(by omega)).2,h.each i hi,fun j u hu=>?_,fun k hk=>List.mem_flatMap.2 ⟨_,List.getElem_mem _,hk⟩,fun j u x F' hj hx hN=>?_⟩
 · have:=h.cells i hi j u hu;exact this
 · have hc:=h.T0 i hi j hj u x F' hx hN;refine⟨_,hc.1,fun b hb=>?_,hc.2,fun z v hz=>?_⟩
   · obtain⟨p,hp,aU⟩:=List.mem_flatMap.1 hb;rcases List.mem_or_eq_of_mem_set hp with e | e
     · exact .inl (List.mem_flatMap.2 ⟨p,e,aU⟩)
     · rw[e] at aU; exact .inr aU
   · have:=hc.1.cells i (by simpa using hi) z v (by simpa using hz)
     exact this
end lay
namespace aN
open Go Go.RowKit base av lay cos
theorem M5{w:World}{base g n cap:Nat}{zs:List Int}{v:Value}(h:s6 w (.slice (some ⟨g,0,none⟩) n cap) zs)(hb:base≤g)(hl:zs.length=n)(hs:base≤w.heap.size):cX w base g n cap zs:=by
 obtain⟨h1,h2,h3⟩:=h;refine⟨hl,by rw[←hl]; exact h2,?_⟩
 rcases h3 with⟨e,_⟩ | ⟨g',c',cur,e,h4,h5⟩
 · cases e
 · cases e;exact .inr ⟨g,_,cur,by rw[hl],hb,h5⟩
theorem Eb(a:Option Addr)(m cp:Nat)(zs:List Int)(n:Int)(w:World)(h:tz w a m zs)(hn:n∈zs):
 Calls Tryz.prog 143 #[.slice a m cp,.int .i64 n] w fun e w'=>e=.returned (.slice a m cp)∧w'=w:=by
 have HH:=Hid.mk' (cI a m cp zs n w h);rw[decide_eq_true hn] at HH;clear hn h;go_enter Tryz.func143,Tryz.ntmps143;go_wp2_with (at_builtin; fail)
 refine HH.out.mono ?_;rintro e w1 ⟨rfl,bx⟩;subst bx;go_wp2_with (at_builtin; fail)
 go_ret;exact⟨rfl,rfl⟩
theorem BU(a:Option Addr)(m cp:Nat)(zs:List Int)(n:Int)(w:World)(h:tz w a m zs)(hn:n∉zs)(hw:∀z∈zs,(Lit.int .i64 z).wf=true)(Hc:m≤cp)(ha:tm zs)(iO:m≤1099511627776):
 Calls Tryz.prog 143 #[.slice a m cp,.int .i64 n] w fun e w'=>
  ∃g' n' aO,e=.returned (.slice (some ⟨g',0,none⟩) n' aO)∧cX w' w.heap.size g' n' aO (eV zs n)∧Below w.heap.size w w':=by
 obtain⟨i0,jG,dm,dk,cA⟩:=info_parts pA;have hl:=h.1;subst hl;have HH:=Hid.mk' (cI a zs.length cp zs n w h)
 · rw[decide_eq_false hn] at HH;have HN:=Hid.mk' hn;clear hn;have bg:Below w.heap.size w (w.alloc (.cells #[] 3)):=(Below.refl _ _).alloc (Nat.le_refl _) _;have Gw:(w.alloc (.cells #[] 3)).ownsRow 0 3 1 (.slice (some ⟨w.heap.size,0,none⟩) 0 0) 0 []:=World.ownsRow_made w #[] 0 (Nat.zero_le _) (Nat.zero_le _) (by simp)
   obtain⟨g1,CH,w2,dh,zG,T1,tF⟩:=xP w.heap.size a zs.length cp 54 Gw (h.below bg) hw Hc iO;have eU:Below w.heap.size w w2:=bg.grown T1 (aI _ _ (Nat.le_refl _)) (fun k e=>by cases e; exact Nat.le_refl _)
   have ML:w.heap.size≤g1:=by
    rcases tF with e | e
    · omega
    · have:=bg.size; omega
   have gi:cX w2 w.heap.size g1 zs.length CH zs:=M5 (v:=.bool true) (l7.1 zG).1 ML rfl eU.size;go_enter Tryz.func143,Tryz.ntmps143;go_wp2_with (at_builtin; fail)
   refine HH.out.mono ?_;rintro e w1 ⟨rfl,bx⟩;subst bx;have pT:w1.heap.size≤w2.heap.size:=eU.size;have fD:zs.length+1≤maxLen:=by unfold maxLen; omega
   have jX:(zs.length+1) * 8≤140737488355328:=by omega
   clear zG T1 tF Gw HH;go_wp2_with (at_builtin; first | (refine fA rfl _ _ 54 rfl rfl rfl dh ?_) | (refine wpList_append_own _ rfl _ _ 54 rfl w1.heap.size 3 i0 (.int .i64 0) 1 8 Tryz.underlying54 jG dm dk cA rfl (by decide) _ _ _ rfl (gi.2.alloc _) ⟨w2.heap.size,0,none⟩ 1 1 (aV [n]) rfl rfl (ew _ _ _) (bT _) fD jX (aI _ _ pT) ?_))
   intro v3 w3 aB az cN;obtain⟨g3,yq,hv,d_⟩:=uJ (zs:=zs) rfl cN aB;subst hv;have cJ:Below w1.heap.size w1 w3:=(eU.alloc pT _).grown az (aI _ _ pT) (fun k e=>by simp[Value.ownBlock] at e; have:=gi.lt; omega)
   have e0:zs++[n]=ru zs zs.length n:=by unfold ru; simp
   rw[e0] at d_;clear aB az cN gi eU e0;go_wp2_with (at_builtin; fail)
   go_loopw [6] (fun kv wr=>∃(k:Nat) (x:Int),k≤zs.length∧kv=.int .i64 (k:Int)∧(∀y∈zs.drop k,n<y)∧cX wr w1.heap.size g3 (zs.length+1) yq (ru zs k x)∧Below w1.heap.size w1 wr) (fun kv _=>(intOf kv).toNat)
   case atStart=>exact⟨zs.length,n,Nat.le_refl _,by go_num,by simp,d_,cJ⟩
   case round=>
    clear d_ cJ;obtain⟨k,x,hk,rfl,hd,hO,hB⟩:=hrel;have m5:=uK zs k x hk;by_cases B8:k=0
    · subst B8;have HP:Hid (eV zs n=ru zs 0 n):=tN zs n 0 ha HN.out hk hd (.inl rfl);have K8:=hO.frozen 0;have fl:=hO.at 0 (by omega)
      have R:=lR hO 0 n;rw[oN zs 0 x n hk,←HP.out] at R;have HR:=Hid.mk' R;have uL:=hO.lt;generalize(ru zs 0 x)[0]=y0 at *;clear R hO hd;go_wp2_with (at_builtin; fail)
      go_ret;exact⟨g3,_,yq,rfl,HR.out.1,hB.trans (fH HR.out.2 uL.1 hB.size)⟩
    · obtain⟨j,rfl⟩:∃j,k=j+1:=⟨k - 1,by omega⟩
      have ID:j<zs.length:=by omega
      have xt:=AH zs (j+1) x (by omega) hk
      simp only[Nat.add_sub_cancel] at xt;have fl:wr.cell? ⟨g3,j,none⟩=some (.int .i64 zs[j]):=by
       have:=hO.at j (by omega)
       rw[this];have e:=List.getElem?_eq_getElem (l:=ru zs (j+1) x) (i:=j) (by omega)
       rw[e] at xt;rw[Option.some.inj xt]
      have Wh:=hO.at (j+1) (by omega)
      have K8:=hO.frozen (j+1);have UD:((j+1:Nat):Int) - 1=(j:Int):=by omega
      have eL:((j:Nat):Int)<((zs.length+1:Nat):Int):=by omega
      have OY:((j+1:Nat):Int)<((zs.length+1:Nat):Int):=by omega
      have Wi:(0:Int)<((j+1:Nat):Int):=by omega
      by_cases Q1:n<zs[j]
      · have R:=lR hO (j+1) zs[j];have qC:=AI zs (j+1) (by omega) hk
        simp only[Nat.add_sub_cancel] at qC;rw[oN zs (j+1) x zs[j] hk,qC] at R;have HD:Hid (∀y∈zs.drop j,n<y):=by
         intro y hy;rw[List.drop_eq_getElem_cons ID] at hy;rcases List.mem_cons.1 hy with rfl | hy
         · exact Q1
         · exact hd y hy
        have HR:=Hid.mk' R;have uL:=hO.lt;generalize(ru zs (j+1) x)[j+1]=y0 at *;generalize zs[j]=zj at *;clear R hO hd xt qC;go_wp2_with (at_builtin; fail)
        go_roundw
        case rel=>exact⟨j,zj,by omega,by go_num,HD.out,HR.out.1,hB.trans (fH HR.out.2 uL.1 hB.size)⟩
        case measure=>simp[intOf]
      · have HP:Hid (eV zs n=ru zs (j+1) n):=tN zs n (j+1) ha HN.out hk hd (.inr ⟨ID,Q1⟩);have R:=lR hO (j+1) n;rw[oN zs (j+1) x n hk,←HP.out] at R;have HR:=Hid.mk' R;have uL:=hO.lt;generalize(ru zs (j+1) x)[j+1]=y0 at *;generalize zs[j]=zj at *;clear R hO hd xt;go_wp2_with (at_builtin; fail)
        go_ret;exact⟨g3,_,yq,rfl,HR.out.1,hB.trans (fH HR.out.2 uL.1 hB.size)⟩
end aN
end Go.Proofs.YtmibabclefgljaaGreat
