/- ShD RecZm ShC -/
import Derived.Test.YtmibabclefgljaaGreatSham
import Derived.Test.YtmibabclefgljaaGreatShad
import Derived.Test.YtmibabclefgljaaGreatShag
set_option linter.unusedVariables false
set_option linter.unusedSimpArgs false
set_option maxRecDepth 100000
set_option maxHeartbeats 4000000
namespace Go.Proofs.YtmibabclefgljaaGreat
open Go in
abbrev qO13:Oper:={dst:=some 7,op:=Op.call {callee:=Callee.value (Operand.func 94),args:=#[Operand.tmp 6],argTypes:=#[41]},type:=41,pos:= "l09_shard.go:57",after:=#[{on:=3,ground:=Ground.data}],guard:=none}
open Go in
abbrev qO14:Oper:={dst:=some 10,op:=Op.buildSlice 37 0 #[],type:=37,pos:= "l09_shard.go:57",after:=#[],guard:=none}
open Go in
abbrev qO15:Oper:={dst:=some 13,op:=Op.call {callee:=Callee.builtin Builtin.append,args:=#[Operand.tmp 10,Operand.tmp 12],argTypes:=#[37,37]},type:=37,pos:= "l09_shard.go:57",after:=#[{on:=7,ground:=Ground.data},{on:=9,ground:=Ground.data},{on:=4,ground:=Ground.chain}],guard:=none}
open Go in
abbrev qO16:Oper:={dst:=some 16,op:=Op.call {callee:=Callee.value (Operand.func 94),args:=#[Operand.tmp 15],argTypes:=#[41]},type:=41,pos:= "l09_shard.go:57",after:=#[{on:=12,ground:=Ground.data},{on:=10,ground:=Ground.chain}],guard:=none}
open Go in
abbrev qO17:Oper:={dst:=none,op:=Op.store 43 (Operand.tmp 2) (Operand.tmp 17),type:=0,pos:= "l09_shard.go:57",after:=#[{on:=14,ground:=Ground.data},{on:=13,ground:=Ground.chain},{on:=0,ground:=Ground.phase},{on:=1,ground:=Ground.phase},{on:=2,ground:=Ground.phase},{on:=3,ground:=Ground.phase},{on:=4,ground:=Ground.phase},{on:=5,ground:=Ground.phase},{on:=6,ground:=Ground.phase},{on:=7,ground:=Ground.phase},{on:=8,ground:=Ground.phase},{on:=9,ground:=Ground.phase},{on:=10,ground:=Ground.phase},{on:=11,ground:=Ground.phase},{on:=12,ground:=Ground.phase},{on:=13,ground:=Ground.phase},{on:=14,ground:=Ground.phase}],guard:=none}
namespace aZ
open Go Go.RowKit base av aN dp gu lay
theorem yU(tx:Int)(l:List Rc)(k:Nat)(h:k<l.length):eI tx (l.take (k+1))=if l[k].2.1=tx∧l[k].1=3 then 4 else if l[k].2.1=tx∧l[k].1=2 then 3 else eI tx (l.take k):=by
 rw[List.take_succ_eq_append_getElem h,mC]
theorem A2(l:List Rc)(k:Nat)(h:k<l.length):bC (l.take (k+1))=bC (l.take k)+l[k].2.2.length:=by
 rw[List.take_succ_eq_append_getElem h]; unfold bC; rw[List.map_append,List.sum_append]; simp
theorem FZ(l:List Rc)(k:Nat):bC (l.take k)≤bC l:=by
 conv=>rhs; rw[←List.take_append_drop k l]
 unfold bC; rw[List.map_append,List.sum_append]; omega
theorem nX(la:Option Addr)(ln lc:Nat)(ma:Option Addr)(mn mc:Nat)(ha:Option Addr)(hn hc:Nat)(s:cQ)(tx:Int)(w:World)(h:eK w la ln lc ma mn mc ha hn hc s):
 Calls Tryz.prog 157 #[bO s.1 s.2.2.1 la ln lc ma mn mc ha hn hc,.int .i64 tx] w fun e w'=>e=.returned (.int .i64 (eB s tx))∧Below w.heap.size w w':=by
 obtain⟨hl,hm,eW,Ce⟩:=id h.log;unfold maxLen at hm;obtain⟨W,hW⟩:∃W,w.alloc (bW s.1 s.2.2.1 la ln lc ma mn mc ha hn hc)=W:=⟨_,rfl⟩;have hB:Below w.heap.size w W:=by rw[←hW]; exact(Below.refl _ _).alloc (Nat.le_refl _) _
 have bt:au w.heap.size 43 [] (aK s.1 s.2.2.1 la ln lc ma mn mc ha hn hc) [] W:=by rw[←hW]; exact aE w _ _
 have Fv:=Hid.mk' (ed ha hn hc s.2.2.2.2 tx W (h.held.below hB));have c1:=bt.cell 1 _ rfl;have c4:=bt.cell 4 _ rfl;simp only[List.length_nil,Nat.zero_add] at c1 c4;have p7:=h.log.below hB;have HW:=Hid.mk' hW;rw[←hW] at c1 c4;have HL:=Hid.mk' hl;clear hW hl;cases hp:aH tx s.2.2.2.2 with
 | some k=>
  have HO:Hid (eB s tx=1):=by show _=_; unfold eB; rw[hp]; rfl
  rw[hp,show fw (some k)=(k:Int) from rfl] at Fv
  have B8:(0:Int)≤(k:Int):=by omega
  clear hp;go_enter Tryz.func157,Tryz.ntmps157;go_wp2_with fail;rw[HW.out];refine Fv.out.mono ?_;rintro e w1 ⟨rfl,rfl⟩;clear c1 c4 Fv HW;go_wp2_with fail;go_ret;rw[HO.out];exact⟨rfl,hB⟩
 | none=>
  have HO:Hid (eB s tx=eI tx s.2.1):=by show _=_; unfold eB; rw[hp]; rfl
  rw[hp,show fw none=(-1:Int) from rfl] at Fv
  clear hp;go_enter Tryz.func157,Tryz.ntmps157;go_wp2_with fail;rw[HW.out];refine Fv.out.mono ?_;rintro e w1 ⟨rfl,rfl⟩;have d1:=bt.cell 1 _ rfl;simp only[List.length_nil,Nat.zero_add] at d1;clear c1 c4 Fv HW;go_wp2_with fail;go_loopw [5,6] (fun o i wr=>∃k:Nat,k≤ln∧i=.int .i64 (k:Int)∧o=.int .i64 (eI tx (s.2.1.take k))∧wr=w1) (fun _ i _=>ln - (intOf i).toNat)
  case atStart=>exact⟨0,Nat.zero_le _,rfl,rfl,rfl⟩
  case round=>
   obtain⟨k,hk,rfl,rfl,rfl⟩:=hrel;by_cases a6:k<ln
   · have ck:k<s.2.1.length:=by have:=HL.out; omega
     obtain⟨b,off,e,_⟩:=Ce (by omega)
     subst e;obtain⟨e0,e1,pa,pl,pc,e2,_,_⟩:=p7.at k ck;have fL:(k:Int)<(ln:Int):=by omega
     have HT:=Hid.mk' (yU tx s.2.1 k ck);generalize s.2.1[k]=r at *;generalize eI tx (s.2.1.take k)=o0 at *;obtain⟨r1,r2,r3⟩:=r;simp only[] at e0 e1 e2 HT;by_cases h1:r2=tx
     · subst h1;have f1:(r2==r2)=true:=by simp
       by_cases h2:r1=2
       · subst h2;have O6:Hid (eI r2 (s.2.1.take (k+1))=3):=by show _=_; rw[HT.out]; simp
         clear HT;go_wp2_with fail;go_roundw
         case rel=>exact⟨k+1,by omega,by go_num,by rw[O6.out],by trivial⟩
         case measure=>simp[intOf]; omega
       · have g2:(r1==2)=false:=beq_eq_false_iff_ne.2 h2;by_cases h3:r1=3
         · subst h3;have O6:Hid (eI r2 (s.2.1.take (k+1))=4):=by show _=_; rw[HT.out]; simp
           clear HT h2 g2;go_wp2_with fail;go_roundw
           case rel=>exact⟨k+1,by omega,by go_num,by rw[O6.out],by trivial⟩
           case measure=>simp[intOf]; omega
         · have g3:(r1==3)=false:=beq_eq_false_iff_ne.2 h3;have O6:Hid (eI r2 (s.2.1.take (k+1))=o0):=by show _=_; rw[HT.out]; simp[h2,h3]
           clear HT h2 h3;go_wp2_with fail;go_roundw
           case rel=>exact⟨k+1,by omega,by go_num,by rw[O6.out],by trivial⟩
           case measure=>simp[intOf]; omega
     · have f1:(r2==tx)=false:=beq_eq_false_iff_ne.2 h1;have O6:Hid (eI tx (s.2.1.take (k+1))=o0):=by show _=_; rw[HT.out]; simp[h1]
       clear HT h1;go_wp2_with fail;go_roundw
       case rel=>exact⟨k+1,by omega,by go_num,by rw[O6.out],by trivial⟩
       case measure=>simp[intOf]; omega
   · have HE:Hid (s.2.1.take k=s.2.1):=List.take_of_length_le (by have:=HL.out; omega)
     have CF:¬(k:Int)<(ln:Int):=by omega
     go_wp2_with fail;go_ret;rw[HO.out,HE.out];exact⟨rfl,hB⟩
theorem A3(la:Option Addr)(ln lc:Nat)(ma:Option Addr)(mn mc:Nat)(ha:Option Addr)(hn hc:Nat)(s:cQ)(oa:Option Addr)(on oc:Nat)(ops:List Od)(w:World)(h:eK w la ln lc ma mn mc ha hn hc s)(ho:dD w oa on ops)(tL:bC s.2.2.2.2≤1099511627776)(px:mn≤1099511627776)(Lc:on≤1099511627776):
 Calls Tryz.prog 158 #[bO s.1 s.2.2.1 la ln lc ma mn mc ha hn hc,.slice oa on oc] w fun e w'=>e=.returned (.int .i64 (k7 s ops:Int))∧Below w.heap.size w w':=by
 obtain⟨hl,hm,eW,Ce⟩:=id h.held;unfold maxLen at hm;obtain⟨W,hW⟩:∃W,w.alloc (bW s.1 s.2.2.1 la ln lc ma mn mc ha hn hc)=W:=⟨_,rfl⟩;have hB:Below w.heap.size w W:=by rw[←hW]; exact(Below.refl _ _).alloc (Nat.le_refl _) _
 have bt:au w.heap.size 43 [] (aK s.1 s.2.2.1 la ln lc ma mn mc ha hn hc) [] W:=by rw[←hW]; exact aE w _ _
 have c3:=bt.cell 3 _ rfl;have c4:=bt.cell 4 _ rfl;simp only[List.length_nil,Nat.zero_add] at c3 c4;have Sk:=h.held.below hB;have HW:=Hid.mk' hW;rw[←hW] at c3;have HL:=Hid.mk' hl;have HK:Hid (k7 s ops=mn+on+bC s.2.2.2.2):=by show _=_; unfold k7; rw[h.map.1,ho.1]
 clear hW hl;go_enter Tryz.func158,Tryz.ntmps158;go_wp2_with fail;go_loopw [5,6] (fun o i wr=>∃k:Nat,k≤hn∧i=.int .i64 (k:Int)∧o=.int .i64 ((mn+on+bC (s.2.2.2.2.take k):Nat):Int)∧wr=W) (fun _ i _=>hn - (intOf i).toNat)
 case atStart=>exact⟨0,Nat.zero_le _,rfl,by simp[bC],HW.out⟩
 case round=>
  obtain⟨k,hk,rfl,rfl,rfl⟩:=hrel;clear c3;by_cases a6:k<hn
  · have ck:k<s.2.2.2.2.length:=by have:=HL.out; omega
    obtain⟨b,off,e,_⟩:=Ce (by omega)
    subst e;obtain⟨e0,e1,pa,pl,pc,e2,dE,_⟩:=Sk.at k ck;have fL:(k:Int)<(hn:Int):=by omega
    have HT:=Hid.mk' (A2 s.2.2.2.2 k ck);have hle:=FZ s.2.2.2.2 (k+1);have gd:=dE.1;have hS0:bC (s.2.2.2.2.take k)+pl≤1099511627776:=by rw[HT.out] at hle; omega
    have Uu:=Hid.mk' gd;clear gd hle dE;generalize hA:bC (s.2.2.2.2.take k)=A at *;clear hA;generalize s.2.2.2.2[k]=r at *;go_wp2_with fail;go_roundw
    case rel=>exact⟨k+1,by omega,by go_num,by rw[HT.out,Uu.out]; go_num,by trivial⟩
    case measure=>simp[intOf]; omega
  · have HE:Hid (s.2.2.2.2.take k=s.2.2.2.2):=List.take_of_length_le (by have:=HL.out; omega)
    have CF:¬(k:Int)<(hn:Int):=by omega
    go_wp2_with fail;go_ret;rw[HK.out,HE.out];exact⟨rfl,hB⟩
end aZ
namespace aZ
open Go Go.RowKit base av aN
theorem jf(a:Option Addr)(len cap:Nat)(l:List Rc)(w:World)(h:rs w a len l)(iO:len≤1099511627776)(cE:∀r∈l,r.2.2.length≤1099511627776):
 Calls Tryz.prog 94 #[.slice a len cap] w fun e w'=>∃g cp hs,e=.returned (.slice (some ⟨g,0,none⟩) len cp)∧bm w' w.heap.size (.slice (some ⟨g,0,none⟩) len cp) l hs∧Below w.heap.size w w':=by
 obtain⟨i0,hi,dm,dk,cA⟩:=info_parts mA;obtain⟨hl,hm,eW,hc⟩:=id h;subst hl;unfold maxLen at hm;have IG:Below w.heap.size w (w.alloc (.cells #[] 98)):=(Below.refl _ _).alloc (Nat.le_refl _) _;have zG:=oG w w.heap.size (Nat.le_refl _);go_enter Tryz.func94,Tryz.ntmps94;go_wp2_with (at_builtin; fail)
 go_loopw [3,4] (fun v i wr=>∃(k g cp:Nat) (hs:List Value),k≤l.length∧v=.slice (some ⟨g,0,none⟩) k cp∧i=.int .i64 (k:Int)∧bm wr w.heap.size (.slice (some ⟨g,0,none⟩) k cp) (l.take k) hs∧Below w.heap.size w wr) (fun _ i _=>l.length - (intOf i).toNat)
 case atStart=>exact⟨0,_,0,[],Nat.zero_le _,rfl,rfl,zG,IG⟩
 case round=>
  clear zG IG;obtain⟨k,g,cp,hs,hk,rfl,rfl,hO,hB⟩:=hrel;by_cases a6:k<l.length
  · obtain⟨b,off,ha,_⟩:=hc (by omega)
    subst ha;obtain⟨I2,Nt,pa,pl,pc,oJ,dE,_⟩:=h.at k a6;have mX:=World.block_lt_of_cell? w _ I2;have c0:=(hB.cell (p:=⟨b,off+k * 3,none⟩) mX).trans I2;have c1:=(hB.cell (p:=⟨b,off+k * 3+1,none⟩) mX).trans Nt;have c2:=(hB.cell (p:=⟨b,off+k * 3+2,none⟩) mX).trans oJ;have fL:(k:Int)<(l.length:Int):=by omega
    have xo:=eW _ (List.getElem_mem a6);have oL:=cE _ (List.getElem_mem a6);have xr:Hid (l.take (k+1)=l.take k++[l[k]]):=List.take_succ_eq_append_getElem a6;have rN:(l.take k).length=k:=by rw[List.length_take]; omega
    generalize l[k]=r at *;generalize l.take k=T at *;clear I2 Nt oJ mX;have Hg:=dE.1;have wE:=Hid.mk' (my r.1 r.2.1 pa pl pc r.2.2 wr (dE.below hB) (by omega))
    have Mf:=Hid.mk' rN;have HO:=Hid.mk' hO;clear hO rN;go_wp2_with (at_builtin; fail)
    refine wE.out.mono ?_;rintro e w3 ⟨g3,c3,rfl,d_,dt⟩;have jP:=(fv d_).mono (base':=w.heap.size) hB.size;have Np:=HO.out.below dt;have cJ:=hB.trans (dt.mono hB.size);have ky:=d_.lt;have jz:∀j,(Value.slice (some ⟨g3,0,none⟩) pl c3).ownBlock=some j→¬c_ (.slice (some ⟨g,0,none⟩) k cp) hs j:=fun j hj hb=>by
     have e1:g3=j:=by simpa[Value.ownBlock] using hj
     have:=(HO.out.lt j hb).2;omega
    have yK:=Hid.mk' jz;have sL:Below w3.heap.size w3 (w3.alloc (.cells #[.int .i64 r.1,.int .i64 r.2.1,.slice (some ⟨g3,0,none⟩) pl c3] 98)):=(Below.refl _ _).alloc (Nat.le_refl _) _;have dT:=Np.below sL;have zE:=jP.below sL;have ej:=cJ.trans (sL.mono cJ.size);have I0:=Hid.mk' (iR w3 r.1 r.2.1 (.slice (some ⟨g3,0,none⟩) pl c3) 98);have B_:=Hid.mk' (lQ r.1 r.2.1 jP.one);have fD:T.length+1≤maxLen:=by have:=Mf.out; unfold maxLen; omega
    have jX:(T.length+1) * 40≤140737488355328:=by have:=Mf.out; omega
    clear wE d_ dt jP Np cJ sL jz c0 c1 c2 HO;go_wp2_with (at_builtin; refine wpList_append_own _ rfl (.tmp 12) (.tmp 18) 41 rfl w.heap.size 98 i0 (.agg #[.int .i64 0,.int .i64 0,.slice none 0 0]) 3 40 Tryz.underlying41 hi dm dk cA rfl (by decide) _ _ _ rfl dT.row ⟨w3.heap.size,0,none⟩ 1 1 _ rfl rfl I0.out B_.out fD jX ej.size ?_)
    intro v5 w5 ic eN uF;have bY:¬v5=.slice none 0 0:=by simpa using uF
    have eh:=dT.snoc zE xo yK.out ic eN;have ec:Below w.heap.size w w5:=ej.grown eN ej.size (fun j e=>(dT.row.lt j e).1)
    rw[←xr.out] at eh;have Jp:(l.take (k+1)).length=k+1:=by rw[List.length_take]; omega
    rcases eh.shape with⟨FF,_⟩ | ⟨g5,vM,FF,_⟩
    · exact absurd FF bY
    · rw[Jp] at FF;subst FF;have wu:=Hid.mk' eh;clear ic eN uF bY eh dT ej zE I0 B_ yK Jp;go_wp2_with (at_builtin; fail)
      go_roundw
      case rel=>exact⟨k+1,g5,vM,_,by omega,rfl,by go_num,wu.out,ec⟩
      case measure=>simp[intOf]; omega
  · have EF:k=l.length:=by omega
    subst EF;rw[List.take_length] at hO;have fB:¬(l.length:Int)<(l.length:Int):=by omega
    go_wp2_with (at_builtin; fail)
    go_ret;exact⟨g,cp,rfl,⟨hs,hO⟩,hB⟩
end aZ
namespace lay
open Go Go.RowKit base av aN aZ
theorem au.ni{X:Nat}{T:TypeId}{pre post:List Value}{a0 a1 a2 a3 a4:Value}{w:World}(h:au X T pre [a0,a1,a2,a3,a4] post w)(b0 b1 b2 b3 b4:Value):
 au X T pre [b0,b1,b2,b3,b4] post (((((w.setCell ⟨X,pre.length,none⟩ b0).setCell ⟨X,pre.length+1,none⟩ b1).setCell ⟨X,pre.length+2,none⟩ b2).setCell ⟨X,pre.length+3,none⟩ b3).setCell ⟨X,pre.length+4,none⟩ b4)∧
 w.grownBy (((((w.setCell ⟨X,pre.length,none⟩ b0).setCell ⟨X,pre.length+1,none⟩ b1).setCell ⟨X,pre.length+2,none⟩ b2).setCell ⟨X,pre.length+3,none⟩ b3).setCell ⟨X,pre.length+4,none⟩ b4) (some X):=by
 have h0:=h.set 0 (by simp) b0
 have h1:=h0.1.set 1 (by simp) b1
 have h2:=h1.1.set 2 (by simp) b2
 have h3:=h2.1.set 3 (by simp) b3
 have h4:=h3.1.set 4 (by simp) b4
 exact⟨h4.1,ao (ao (ao (ao h0.2 h1.2) h2.2) h3.2) h4.2⟩
end lay
namespace aZ
open Go Go.RowKit base av aN dp gu lay
theorem bm.tQ{w:World}{base b2 g n cap:Nat}{v:Value}{l:List Rc}{hs:List Value}{P:List Pr}(h:bm w base v l hs)(hp:bJ w b2 g n cap P):¬c_ v hs g:=by
 rintro(e | ⟨y,hy,e⟩)
 · exact fX h.row hp.2.2 e rfl (by decide)
 · obtain⟨i,hi,rfl⟩:=List.getElem_of_mem hy;exact fX (h.ops i (by have:=h.len; omega)).2 hp.2.2 e rfl (by decide)
theorem qQ{w:World}{B C gl ln cl gm mn cm gh hn ch:Nat}{s:cQ}{hl hh:List Value}(F7:(Lit.int .i64 s.1).wf=true)(EG:(Lit.int .i64 s.2.2.1).wf=true)
 (h1:bm w B (.slice (some ⟨gl,0,none⟩) ln cl) s.2.1 hl) (h2:bJ w B gm mn cm s.2.2.2.1) (h3:bm w B (.slice (some ⟨gh,0,none⟩) hn ch) s.2.2.2.2 hh) (qO:∀k,c_ (.slice (some ⟨gl,0,none⟩) ln cl) hl k→k<C) (F8:∀k,c_ (.slice (some ⟨gh,0,none⟩) hn ch) hh k→C≤k):
 ∃F,cY w (some ⟨gl,0,none⟩) ln cl (some ⟨gm,0,none⟩) mn cm (some ⟨gh,0,none⟩) hn ch s F∧∀k∈F,B≤k:=by
 have o1:=h1.mono (base':=0) (Nat.zero_le _);have o3:=h3.mono (base':=0) (Nat.zero_le _);have d1:=lay.kK.bG (lay.di.2 ⟨hl,o1,rfl⟩);have d3:=lay.kK.bG (lay.di.2 ⟨hh,o3,rfl⟩);refine⟨_,⟨F7,EG,⟨hl,o1,hh,o3,rfl⟩,ij h2,?_⟩,fun k hk=>?_⟩
 · refine bL d1 (bL (by simp[Value.ownBlock]) d3 (fun k hk gY=>?_)) (fun k hk gY=>?_)
   · have:k=gm:=by simpa[Value.ownBlock] using hk
     subst this;exact h3.tQ h2 (lay.aA.1 gY)
   · have hk:=lay.aA.1 hk;rcases List.mem_append.1 gY with e | e
     · have:k=gm:=by simpa[Value.ownBlock] using e
       subst this;exact h1.tQ h2 hk
     · have:=qO k hk;have:=F8 k (lay.aA.1 e);omega
 · rcases List.mem_append.1 hk with e | e
   · exact(h1.lt k (lay.aA.1 e)).1
   · rcases List.mem_append.1 e with e | e
     · have:k=gm:=by simpa[Value.ownBlock] using e
       subst this;exact h2.lt.1
     · exact(h3.lt k (lay.aA.1 e)).1
theorem Dm(la:Option Addr)(ln lc:Nat)(mn mc:Nat)(ha:Option Addr)(hn hc:Nat)(s:cQ)(w:World)(h:eK w la ln lc none mn mc ha hn hc s)(hf:vS s.2.1)(vJ:vS s.2.2.2.2)(vP:ln≤1099511627776)(jh:mn≤1099511627776)(Cf:hn≤1099511627776):
 Calls Tryz.prog 55 #[bO s.1 s.2.2.1 la ln lc none mn mc ha hn hc] w fun e w'=>∃gl cl gm cm gh ch F,e=.returned (bO s.1 s.2.2.1 (some ⟨gl,0,none⟩) ln cl (some ⟨gm,0,none⟩) mn cm (some ⟨gh,0,none⟩) hn ch)∧
  cY w' (some ⟨gl,0,none⟩) ln cl (some ⟨gm,0,none⟩) mn cm (some ⟨gh,0,none⟩) hn ch s F∧(∀k∈F,w.heap.size≤k)∧Below w.heap.size w w':=by
 obtain⟨i0,jG,dm,dk,cA⟩:=info_parts mW;obtain⟨W,hW⟩:∃W,W=(w.alloc (bW s.1 s.2.2.1 la ln lc none mn mc ha hn hc)).alloc (bW 0 0 none 0 0 none 0 0 none 0 0):=⟨_,rfl⟩;have bg:Below w.heap.size w (w.alloc (bW s.1 s.2.2.1 la ln lc none mn mc ha hn hc)):=(Below.refl _ _).alloc (Nat.le_refl _) _;have hB:Below w.heap.size w W:=by rw[hW]; exact bg.alloc bg.size _
 have hT:au w.heap.size 43 [] (aK s.1 s.2.2.1 la ln lc none mn mc ha hn hc) [] W:=by rw[hW]; exact(aE w _ _).below ((Below.refl _ _).alloc (Nat.le_refl _) _)
 have hR:au (w.heap.size+1) 43 [] (aK 0 0 none 0 0 none 0 0 none 0 0) [] W:=by
  rw[hW];have:=aE (w.alloc (bW s.1 s.2.2.1 la ln lc none mn mc ha hn hc)) (aK 0 0 none 0 0 none 0 0 none 0 0) 43;rwa[show(w.alloc (bW s.1 s.2.2.1 la ln lc none mn mc ha hn hc)).heap.size=w.heap.size+1 by simp] at this
 have Ld:w.heap.size+1<W.heap.size:=hR.lt;have HW:=Hid.mk' hW.symm;clear hW;have Cs:=Hid.mk' (fun wx (hx:Below W.heap.size W wx)=>jf la ln lc s.2.1 wx ((h.log.below hB).below hx) vP (fun r hr=>(hf r hr).1))
 have uW:=Hid.mk' (fun wx (hx:Below W.heap.size W wx)=>jf ha hn hc s.2.2.2.2 wx ((h.held.below hB).below hx) Cf (fun r hr=>(vJ r hr).1))
 have xl:=h.map.1;have eW:=h.map.2.2.1;have h0:mn=0:=by
  rcases Nat.eq_zero_or_pos mn with e | e
  · exact e
  · obtain⟨b,off,ha,_⟩:=h.map.2.2.2 e; cases ha
 subst h0;have Wq:Hid (s.2.2.2.1=[]):=List.eq_nil_of_length_eq_zero xl;have RM:=jx;have F7:=h.id;have EG:=h.sure;have Le:=Hid.mk' xl;clear h hf vJ xl;have eJ:Below W.heap.size W W.drew:=(Below.refl _ _).drew;go_enter Tryz.func55,Tryz.ntmps55;go_wp2_with fail;rw[HW.out];refine last.aq (S:=fun w'=>au w.heap.size 43 [] (aK s.1 s.2.2.1 la ln lc none 0 mc ha hn hc) [] w'∧au (w.heap.size+1) 43 [] (aK 0 0 none 0 0 none 0 0 none 0 0) [] w') 15 (by kernel_rfl) ⟨hT.below eJ,hR.below eJ⟩ (fun af=>?_)
 refine last.wpTk 0 (.pointer (some ⟨w.heap.size,0,none⟩)) rfl rfl ?_ ?_
 · intro wq ar; go_simp
 try simp only[Act.put,zP,zQ,zR]
 refine last.wpTk 1 (.int .i64 s.1) rfl rfl ?_ ?_
 · intro wq ar; have q:=ar.1.cell 0 _ rfl; simp only[List.length_nil,Nat.zero_add] at q; go_simp
 try simp only[Act.put,zP,zQ,zR]
 refine last.wpTk 2 (.pointer (some ⟨w.heap.size,1,none⟩)) rfl rfl ?_ ?_
 · intro wq ar; go_simp
 try simp only[Act.put,zP,zQ,zR]
 refine last.wpTk 3 (.slice la ln lc) rfl rfl ?_ ?_
 · intro wq ar; have q:=ar.1.cell 1 _ rfl; simp only[List.length_nil,Nat.zero_add] at q; go_simp
 try simp only[Act.put,zP,zQ,zR]
 refine last.wpTk 5 (.pointer (some ⟨w.heap.size,2,none⟩)) rfl rfl ?_ ?_
 · intro wq ar; go_simp
 try simp only[Act.put,zP,zQ,zR]
 refine last.wpTk 6 (.int .i64 s.2.2.1) rfl rfl ?_ ?_
 · intro wq ar; have q:=ar.1.cell 2 _ rfl; simp only[List.length_nil,Nat.zero_add] at q; go_simp
 try simp only[Act.put,zP,zQ,zR]
 refine last.wpTk 8 (.pointer (some ⟨w.heap.size,3,none⟩)) rfl rfl ?_ ?_
 · intro wq ar; go_simp
 try simp only[Act.put,zP,zQ,zR]
 refine last.wpTk 9 (.slice none 0 mc) rfl rfl ?_ ?_
 · intro wq ar; have q:=ar.1.cell 3 _ rfl; simp only[List.length_nil,Nat.zero_add] at q; go_simp
 try simp only[Act.put,zP,zQ,zR]
 refine last.wpTk 11 (.pointer (some ⟨w.heap.size,4,none⟩)) rfl rfl ?_ ?_
 · intro wq ar; go_simp
 try simp only[Act.put,zP,zQ,zR]
 refine last.wpTk 12 (.slice ha hn hc) rfl rfl ?_ ?_
 · intro wq ar; have q:=ar.1.cell 4 _ rfl; simp only[List.length_nil,Nat.zero_add] at q; go_simp
 try simp only[Act.put,zP,zQ,zR]
 refine last.eA (i:=4) (j:=7) (o:=qO13) (o':={dst:=some 10,op:=Op.buildSlice 37 0 #[],type:=37,pos:= "l09_shard.go:57",after:=#[],guard:=none}) (by kernel_rfl) rfl rfl (fun K hK=> ?wayA) (fun K hK=> ?wayB)
 case' wayA=>
  refine fx.cq rfl 94 (.tmp 6) _ rfl (fun _ _=>rfl) (.slice la ln lc) (by kernel_rfl) _ (Cs.out _ eJ) ?_
  rintro e w4 ⟨gl,cl,hl,rfl,uX,eD⟩;refine⟨_,rfl,?_⟩;have ej:=eJ.trans (eD.mono eJ.size);refine hK.out _ _ ?_ (fun ag=>?_)
  · exact⟨hT.below ej,hR.below ej⟩
  clear hK K af;have af:=ag;clear ag;try simp only[Act.put,zP,zQ,zR]
  refine last.an (i:=7) (o:=qO14) (by kernel_rfl) rfl (fun K hK=>?_)
  go_simp;have cP:Below w4.heap.size w4 (w4.alloc (.cells #[] 100)):=(Below.refl _ _).alloc (Nat.le_refl _) _;have gT:=ej.trans (cP.mono ej.size);have rV:=(uX.below cP).mono (base':=W.heap.size) eJ.size;have kg:=bX w4 W.heap.size ej.size;refine hK.out _ _ ?_ (fun ag=>?_)
  · exact⟨hT.below gT,hR.below gT⟩
  clear hK K af;have af:=ag;clear ag;generalize O7:w4.alloc (.cells #[] 100)=wA at *;generalize O8:w4.heap.size=g0 at *;clear O7 O8 uX eD ej cP
 case' wayB=>
  go_simp;have cP:Below W.heap.size W (W.drew.alloc (.cells #[] 100)):=eJ.alloc eJ.size _;have qG:=bX W.drew W.heap.size (Nat.le_refl _);refine hK.out _ _ ?_ (fun ag=>?_)
  · exact⟨hT.below cP,hR.below cP⟩
  clear hK K af;have af:=ag;clear ag;try simp only[Act.put,zP,zQ,zR]
  refine last.an (i:=4) (o:=qO13) (by kernel_rfl) rfl (fun K hK=>?_)
  refine fx.cq rfl 94 (.tmp 6) _ rfl (fun _ _=>rfl) (.slice la ln lc) (by kernel_rfl) _ (Cs.out _ cP) ?_
  rintro e wA ⟨gl,cl,hl,rfl,uX,eD⟩;refine⟨_,rfl,?_⟩;have gT:=cP.trans (eD.mono cP.size);have rV:=uX.mono (base':=W.heap.size) cP.size;have kg:=qG.below eD;refine hK.out _ _ ?_ (fun ag=>?_)
  · exact⟨hT.below gT,hR.below gT⟩
  clear hK K af;have af:=ag;clear ag;obtain⟨g0,Dn⟩:∃g0,g0=W.heap.size:=⟨_,rfl⟩;have kg:bJ wA W.heap.size g0 0 0 []:=by rw[Dn]; exact kg
  rw[←Dn];clear qG uX eD cP Dn
 all_goals
  try simp only[Act.put,zP,zQ,zR]
  refine last.an (i:=10) (o:=qO15) (by kernel_rfl) rfl (fun K hK=>?_)
  go_simp;have Dp:bJ wA W.heap.size g0 0 0 s.2.2.2.1:=by rw[Wq.out]; exact kg
  have fC:=gT;have nY:=rV;refine hK.out _ _ ?_ (fun ag=>?_)
  · exact⟨hT.below fC,hR.below fC⟩
  clear hK K af;have af:=ag;clear ag;try simp only[Act.put,zP,zQ,zR]
  refine last.an (i:=13) (o:=qO16) (by kernel_rfl) rfl (fun K hK=>?_)
  refine fx.cq rfl 94 (.tmp 15) _ rfl (fun _ _=>rfl) (.slice ha hn hc) (by kernel_rfl) _ (uW.out _ fC) ?_
  rintro e Ws ⟨gh,ch,hh,rfl,Jq,p8⟩;refine⟨_,rfl,?_⟩;have mF:=fC.trans (p8.mono fC.size);have bQ:=hR.below mF;refine hK.out _ _ ?_ (fun ag=>?_)
  · exact⟨hT.below mF,bQ⟩
  clear hK K af;have af:=ag;clear ag;try simp only[Act.put,zP,zQ,zR]
  refine last.wpTk 14 (bO s.1 s.2.2.1 (some ⟨gl,0,none⟩) ln cl (some ⟨g0,0,none⟩) 0 0 (some ⟨gh,0,none⟩) hn ch) rfl rfl ?_ ?_
  · intro wq ar; go_simp
  try simp only[Act.put,zP,zQ,zR]
  have z0:=bQ.cell 0 _ rfl;have z1:=bQ.cell 1 _ rfl;have z2:=bQ.cell 2 _ rfl;have z3:=bQ.cell 3 _ rfl;have z4:=bQ.cell 4 _ rfl;simp only[List.length_nil,Nat.zero_add] at z0 z1 z2 z3 z4;have f0:=bQ.fz 0;have f1:=bQ.fz 1;have f2:=bQ.fz 2;have f3:=bQ.fz 3;have f4:=bQ.fz 4;refine last.aC (o:=qO17) (by kernel_rfl) rfl (by kernel_rfl) (fun K hK=>?_)
  go_simp;refine hK.out _ _ ?_;clear hK K;have cB:=bQ.ni (.int .i64 s.1) (.slice (some ⟨gl,0,none⟩) ln cl) (.int .i64 s.2.2.1) (.slice (some ⟨g0,0,none⟩) 0 0) (.slice (some ⟨gh,0,none⟩) hn ch);simp only[List.length_nil,Nat.zero_add] at cB;have qO:∀k,c_ (.slice (some ⟨gl,0,none⟩) ln cl) hl k→k<wA.heap.size:=fun k hk=>(nY.lt k hk).2
  have F8:∀k,c_ (.slice (some ⟨gh,0,none⟩) hn ch) hh k→wA.heap.size≤k:=fun k hk=>(Jq.lt k hk).1
  obtain⟨F,qt,tR⟩:=qQ (B:=W.heap.size) F7 EG (nY.below p8) (Dp.below p8) (Jq.mono fC.size) qO F8;have Dq:=qt.keep (w':=_) (fun k hk=>cB.2.block k (qt.lt k hk) (fun e=>by have:=tR k hk; have:=Option.some.inj e; omega))
  have jy:=(hB.trans (mF.mono hB.size)).grown cB.2 (hB.trans (mF.mono hB.size)).size (fun j e=>by cases e; omega)
  have dy:=cB.1.cell 0 _ rfl;have dz:=cB.1.cell 1 _ rfl;have dA:=cB.1.cell 2 _ rfl;have dB:=cB.1.cell 3 _ rfl;have dC:=cB.1.cell 4 _ rfl;simp only[List.length_nil,Nat.zero_add] at dy dz dA dB dC;have Dr:∀k∈F,w.heap.size≤k:=fun k hk=>by have:=tR k hk; omega
  clear z0 z1 z2 z3 z4 f0 f1 f2 f3 f4;go_wp2_with fail;refine bodyPost_ret (v:=bO s.1 s.2.2.1 (some ⟨gl,0,none⟩) ln cl (some ⟨g0,0,none⟩) 0 0 (some ⟨gh,0,none⟩) hn ch) ?_ rfl ⟨_,_,_,_,_,_,F,rfl,Dq,Dr,jy⟩;simp[results,Tryz.results55,go_sem,dy,dz,dA,dB,dC]
theorem A4(la:Option Addr)(ln lc:Nat)(ad:Addr)(mn mc:Nat)(ha:Option Addr)(hn hc:Nat)(s:cQ)(w:World)(h:eK w la ln lc (some ad) mn mc ha hn hc s)(hf:vS s.2.1)(vJ:vS s.2.2.2.2)(vP:ln≤1099511627776)(jh:mn≤1099511627776)(Cf:hn≤1099511627776):
 Calls Tryz.prog 55 #[bO s.1 s.2.2.1 la ln lc (some ad) mn mc ha hn hc] w fun e w'=>∃gl cl gm cm gh ch F,e=.returned (bO s.1 s.2.2.1 (some ⟨gl,0,none⟩) ln cl (some ⟨gm,0,none⟩) mn cm (some ⟨gh,0,none⟩) hn ch)∧
  cY w' (some ⟨gl,0,none⟩) ln cl (some ⟨gm,0,none⟩) mn cm (some ⟨gh,0,none⟩) hn ch s F∧(∀k∈F,w.heap.size≤k)∧Below w.heap.size w w':=by
 obtain⟨i0,jG,dm,dk,cA⟩:=info_parts mW;obtain⟨W,hW⟩:∃W,W=(w.alloc (bW s.1 s.2.2.1 la ln lc (some ad) mn mc ha hn hc)).alloc (bW 0 0 none 0 0 none 0 0 none 0 0):=⟨_,rfl⟩;have bg:Below w.heap.size w (w.alloc (bW s.1 s.2.2.1 la ln lc (some ad) mn mc ha hn hc)):=(Below.refl _ _).alloc (Nat.le_refl _) _;have hB:Below w.heap.size w W:=by rw[hW]; exact bg.alloc bg.size _
 have hT:au w.heap.size 43 [] (aK s.1 s.2.2.1 la ln lc (some ad) mn mc ha hn hc) [] W:=by rw[hW]; exact(aE w _ _).below ((Below.refl _ _).alloc (Nat.le_refl _) _)
 have hR:au (w.heap.size+1) 43 [] (aK 0 0 none 0 0 none 0 0 none 0 0) [] W:=by
  rw[hW];have:=aE (w.alloc (bW s.1 s.2.2.1 la ln lc (some ad) mn mc ha hn hc)) (aK 0 0 none 0 0 none 0 0 none 0 0) 43;rwa[show(w.alloc (bW s.1 s.2.2.1 la ln lc (some ad) mn mc ha hn hc)).heap.size=w.heap.size+1 by simp] at this
 have Ld:w.heap.size+1<W.heap.size:=hR.lt;have HW:=Hid.mk' hW.symm;clear hW;have Cs:=Hid.mk' (fun wx (hx:Below W.heap.size W wx)=>jf la ln lc s.2.1 wx ((h.log.below hB).below hx) vP (fun r hr=>(hf r hr).1))
 have uW:=Hid.mk' (fun wx (hx:Below W.heap.size W wx)=>jf ha hn hc s.2.2.2.2 wx ((h.held.below hB).below hx) Cf (fun r hr=>(vJ r hr).1))
 have xl:=h.map.1;have eW:=h.map.2.2.1;have Wt:Hid (∀wx,Below W.heap.size W wx→∀j u,(aw s.2.2.2.1)[j]? =some u→wx.cell? (ad.add j)=some u):=by
  intro wx hx;rcases Nat.eq_zero_or_pos mn with e | e
  · intro j u hj;have e1:s.2.2.2.1=[]:=List.eq_nil_of_length_eq_zero (by omega)
    rw[e1] at hj; simp[aw] at hj
  · obtain⟨b,off,ha,_⟩:=h.map.2.2.2 e;cases ha;exact cM ((h.map.below hB).below hx).cells
 have fD:0+mn≤maxLen:=by unfold maxLen; omega
 have jX:(0+mn) * 32≤140737488355328:=by omega
 have RY:(aw s.2.2.2.1).length=mn * 2:=by rw[bo]; omega
 have F7:=h.id;have EG:=h.sure;have Le:=Hid.mk' xl;clear h hf vJ xl;have eJ:Below W.heap.size W W.drew:=(Below.refl _ _).drew;go_enter Tryz.func55,Tryz.ntmps55;go_wp2_with fail;rw[HW.out];refine last.aq (S:=fun w'=>au w.heap.size 43 [] (aK s.1 s.2.2.1 la ln lc (some ad) mn mc ha hn hc) [] w'∧au (w.heap.size+1) 43 [] (aK 0 0 none 0 0 none 0 0 none 0 0) [] w') 15 (by kernel_rfl) ⟨hT.below eJ,hR.below eJ⟩ (fun af=>?_)
 refine last.wpTk 0 (.pointer (some ⟨w.heap.size,0,none⟩)) rfl rfl ?_ ?_
 · intro wq ar; go_simp
 try simp only[Act.put,zP,zQ,zR]
 refine last.wpTk 1 (.int .i64 s.1) rfl rfl ?_ ?_
 · intro wq ar; have q:=ar.1.cell 0 _ rfl; simp only[List.length_nil,Nat.zero_add] at q; go_simp
 try simp only[Act.put,zP,zQ,zR]
 refine last.wpTk 2 (.pointer (some ⟨w.heap.size,1,none⟩)) rfl rfl ?_ ?_
 · intro wq ar; go_simp
 try simp only[Act.put,zP,zQ,zR]
 refine last.wpTk 3 (.slice la ln lc) rfl rfl ?_ ?_
 · intro wq ar; have q:=ar.1.cell 1 _ rfl; simp only[List.length_nil,Nat.zero_add] at q; go_simp
 try simp only[Act.put,zP,zQ,zR]
 refine last.wpTk 5 (.pointer (some ⟨w.heap.size,2,none⟩)) rfl rfl ?_ ?_
 · intro wq ar; go_simp
 try simp only[Act.put,zP,zQ,zR]
 refine last.wpTk 6 (.int .i64 s.2.2.1) rfl rfl ?_ ?_
 · intro wq ar; have q:=ar.1.cell 2 _ rfl; simp only[List.length_nil,Nat.zero_add] at q; go_simp
 try simp only[Act.put,zP,zQ,zR]
 refine last.wpTk 8 (.pointer (some ⟨w.heap.size,3,none⟩)) rfl rfl ?_ ?_
 · intro wq ar; go_simp
 try simp only[Act.put,zP,zQ,zR]
 refine last.wpTk 9 (.slice (some ad) mn mc) rfl rfl ?_ ?_
 · intro wq ar; have q:=ar.1.cell 3 _ rfl; simp only[List.length_nil,Nat.zero_add] at q; go_simp
 try simp only[Act.put,zP,zQ,zR]
 refine last.wpTk 11 (.pointer (some ⟨w.heap.size,4,none⟩)) rfl rfl ?_ ?_
 · intro wq ar; go_simp
 try simp only[Act.put,zP,zQ,zR]
 refine last.wpTk 12 (.slice ha hn hc) rfl rfl ?_ ?_
 · intro wq ar; have q:=ar.1.cell 4 _ rfl; simp only[List.length_nil,Nat.zero_add] at q; go_simp
 try simp only[Act.put,zP,zQ,zR]
 refine last.eA (i:=4) (j:=7) (o:=qO13) (o':={dst:=some 10,op:=Op.buildSlice 37 0 #[],type:=37,pos:= "l09_shard.go:57",after:=#[],guard:=none}) (by kernel_rfl) rfl rfl (fun K hK=> ?wayA) (fun K hK=> ?wayB)
 case' wayA=>
  refine fx.cq rfl 94 (.tmp 6) _ rfl (fun _ _=>rfl) (.slice la ln lc) (by kernel_rfl) _ (Cs.out _ eJ) ?_
  rintro e w4 ⟨gl,cl,hl,rfl,uX,eD⟩;refine⟨_,rfl,?_⟩;have ej:=eJ.trans (eD.mono eJ.size);refine hK.out _ _ ?_ (fun ag=>?_)
  · exact⟨hT.below ej,hR.below ej⟩
  clear hK K af;have af:=ag;clear ag;try simp only[Act.put,zP,zQ,zR]
  refine last.an (i:=7) (o:=qO14) (by kernel_rfl) rfl (fun K hK=>?_)
  go_simp;have cP:Below w4.heap.size w4 (w4.alloc (.cells #[] 100)):=(Below.refl _ _).alloc (Nat.le_refl _) _;have gT:=ej.trans (cP.mono ej.size);have rV:=(uX.below cP).mono (base':=W.heap.size) eJ.size;have kg:=bX w4 W.heap.size ej.size;refine hK.out _ _ ?_ (fun ag=>?_)
  · exact⟨hT.below gT,hR.below gT⟩
  clear hK K af;have af:=ag;clear ag;generalize O7:w4.alloc (.cells #[] 100)=wA at *;generalize O8:w4.heap.size=g0 at *;clear O7 O8 uX eD ej cP
 case' wayB=>
  go_simp;have cP:Below W.heap.size W (W.drew.alloc (.cells #[] 100)):=eJ.alloc eJ.size _;have qG:=bX W.drew W.heap.size (Nat.le_refl _);refine hK.out _ _ ?_ (fun ag=>?_)
  · exact⟨hT.below cP,hR.below cP⟩
  clear hK K af;have af:=ag;clear ag;try simp only[Act.put,zP,zQ,zR]
  refine last.an (i:=4) (o:=qO13) (by kernel_rfl) rfl (fun K hK=>?_)
  refine fx.cq rfl 94 (.tmp 6) _ rfl (fun _ _=>rfl) (.slice la ln lc) (by kernel_rfl) _ (Cs.out _ cP) ?_
  rintro e wA ⟨gl,cl,hl,rfl,uX,eD⟩;refine⟨_,rfl,?_⟩;have gT:=cP.trans (eD.mono cP.size);have rV:=uX.mono (base':=W.heap.size) cP.size;have kg:=qG.below eD;refine hK.out _ _ ?_ (fun ag=>?_)
  · exact⟨hT.below gT,hR.below gT⟩
  clear hK K af;have af:=ag;clear ag;obtain⟨g0,Dn⟩:∃g0,g0=W.heap.size:=⟨_,rfl⟩;have kg:bJ wA W.heap.size g0 0 0 []:=by rw[Dn]; exact kg
  rw[←Dn];clear qG uX eD cP Dn
 all_goals
  try simp only[Act.put,zP,zQ,zR]
  refine last.an (i:=10) (o:=qO15) (by kernel_rfl) rfl (fun K hK=>?_)
  refine cL rfl (.tmp 10) (.tmp 12) 37 rfl W.heap.size 100 i0 (.agg #[.string ⟨#[]⟩,.string ⟨#[]⟩]) 2 32 Tryz.underlying37 jG dm dk cA rfl (by decide) _ _ _ rfl kg.2.2 ad mn mc (aw s.2.2.2.1) rfl RY (Wt.out _ gT) (aF _) fD jX gT.size ?_
  intro v10 wI aB az cN;have bY:¬v10=.slice none 0 0:=fun e=>by have:=(cN.1 e).1; cases this
  obtain⟨g10,pE,hv,Dp⟩:=df Le.out eW bY (by have h9:=aB; simp only[aw,List.flatMap_nil,List.nil_append,Nat.zero_add] at h9; exact h9)
  subst hv;have jF:wA.grownBy wI (some g0):=az;have fC:=gT.grown jF gT.size (fun k e=>by cases e; exact kg.lt.1)
  have nY:=rV.grown jF (rV.tQ kg);refine hK.out _ _ ?_ (fun ag=>?_)
  · exact⟨hT.below fC,hR.below fC⟩
  clear hK K af;have af:=ag;clear ag;clear aB az jF cN bY;try simp only[Act.put,zP,zQ,zR]
  refine last.an (i:=13) (o:=qO16) (by kernel_rfl) rfl (fun K hK=>?_)
  refine fx.cq rfl 94 (.tmp 15) _ rfl (fun _ _=>rfl) (.slice ha hn hc) (by kernel_rfl) _ (uW.out _ fC) ?_
  rintro e Ws ⟨gh,ch,hh,rfl,Jq,p8⟩;refine⟨_,rfl,?_⟩;have mF:=fC.trans (p8.mono fC.size);have bQ:=hR.below mF;refine hK.out _ _ ?_ (fun ag=>?_)
  · exact⟨hT.below mF,bQ⟩
  clear hK K af;have af:=ag;clear ag;try simp only[Act.put,zP,zQ,zR]
  refine last.wpTk 14 (bO s.1 s.2.2.1 (some ⟨gl,0,none⟩) ln cl (some ⟨g10,0,none⟩) mn pE (some ⟨gh,0,none⟩) hn ch) rfl rfl ?_ ?_
  · intro wq ar; go_simp
  try simp only[Act.put,zP,zQ,zR]
  have z0:=bQ.cell 0 _ rfl;have z1:=bQ.cell 1 _ rfl;have z2:=bQ.cell 2 _ rfl;have z3:=bQ.cell 3 _ rfl;have z4:=bQ.cell 4 _ rfl;simp only[List.length_nil,Nat.zero_add] at z0 z1 z2 z3 z4;have f0:=bQ.fz 0;have f1:=bQ.fz 1;have f2:=bQ.fz 2;have f3:=bQ.fz 3;have f4:=bQ.fz 4;refine last.aC (o:=qO17) (by kernel_rfl) rfl (by kernel_rfl) (fun K hK=>?_)
  go_simp;refine hK.out _ _ ?_;clear hK K;have cB:=bQ.ni (.int .i64 s.1) (.slice (some ⟨gl,0,none⟩) ln cl) (.int .i64 s.2.2.1) (.slice (some ⟨g10,0,none⟩) mn pE) (.slice (some ⟨gh,0,none⟩) hn ch);simp only[List.length_nil,Nat.zero_add] at cB;have qO:∀k,c_ (.slice (some ⟨gl,0,none⟩) ln cl) hl k→k<wI.heap.size:=fun k hk=>(nY.lt k hk).2
  have F8:∀k,c_ (.slice (some ⟨gh,0,none⟩) hn ch) hh k→wI.heap.size≤k:=fun k hk=>(Jq.lt k hk).1
  obtain⟨F,qt,tR⟩:=qQ (B:=W.heap.size) F7 EG (nY.below p8) (Dp.below p8) (Jq.mono fC.size) qO F8;have Dq:=qt.keep (w':=_) (fun k hk=>cB.2.block k (qt.lt k hk) (fun e=>by have:=tR k hk; have:=Option.some.inj e; omega))
  have jy:=(hB.trans (mF.mono hB.size)).grown cB.2 (hB.trans (mF.mono hB.size)).size (fun j e=>by cases e; omega)
  have dy:=cB.1.cell 0 _ rfl;have dz:=cB.1.cell 1 _ rfl;have dA:=cB.1.cell 2 _ rfl;have dB:=cB.1.cell 3 _ rfl;have dC:=cB.1.cell 4 _ rfl;simp only[List.length_nil,Nat.zero_add] at dy dz dA dB dC;have Dr:∀k∈F,w.heap.size≤k:=fun k hk=>by have:=tR k hk; omega
  clear z0 z1 z2 z3 z4 f0 f1 f2 f3 f4;go_wp2_with fail;refine bodyPost_ret (v:=bO s.1 s.2.2.1 (some ⟨gl,0,none⟩) ln cl (some ⟨g10,0,none⟩) mn pE (some ⟨gh,0,none⟩) hn ch) ?_ rfl ⟨_,_,_,_,_,_,F,rfl,Dq,Dr,jy⟩;simp[results,Tryz.results55,go_sem,dy,dz,dA,dB,dC]
theorem A5(la:Option Addr)(ln lc:Nat)(ma:Option Addr)(mn mc:Nat)(ha:Option Addr)(hn hc:Nat)(s:cQ)(w:World)(h:eK w la ln lc ma mn mc ha hn hc s)(hf:vS s.2.1)(vJ:vS s.2.2.2.2)(vP:ln≤1099511627776)(jh:mn≤1099511627776)(Cf:hn≤1099511627776):
 Calls Tryz.prog 55 #[bO s.1 s.2.2.1 la ln lc ma mn mc ha hn hc] w fun e w'=>∃gl cl gm cm gh ch F,e=.returned (bO s.1 s.2.2.1 (some ⟨gl,0,none⟩) ln cl (some ⟨gm,0,none⟩) mn cm (some ⟨gh,0,none⟩) hn ch)∧
  cY w' (some ⟨gl,0,none⟩) ln cl (some ⟨gm,0,none⟩) mn cm (some ⟨gh,0,none⟩) hn ch s F∧(∀k∈F,w.heap.size≤k)∧Below w.heap.size w w':=by
 cases ma with
 | none=>exact Dm la ln lc mn mc ha hn hc s w h hf vJ vP jh Cf
 | some ad=>exact A4 la ln lc ad mn mc ha hn hc s w h hf vJ vP jh Cf
end aZ
end Go.Proofs.YtmibabclefgljaaGreat
