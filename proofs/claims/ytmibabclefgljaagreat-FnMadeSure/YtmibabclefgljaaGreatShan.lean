/- ShD RecZm ShC -/
import Derived.Test.YtmibabclefgljaaGreatSham
import Derived.Test.YtmibabclefgljaaGreatShad
import Derived.Test.YtmibabclefgljaaGreatShag
set_option linter.unusedVariables false
set_option linter.unusedSimpArgs false
set_option maxRecDepth 100000
set_option maxHeartbeats 4000000
namespace Go.Proofs.YtmibabclefgljaaGreat
open Go in
abbrev qO13:Oper:={dst:=some 7,op:=Op.call {callee:=Callee.value (Operand.func 94),args:=#[Operand.tmp 6],argTypes:=#[41]},type:=41,pos:= "l09_shard.go:57",after:=#[{on:=3,ground:=Ground.data}],guard:=none}
open Go in
abbrev qO14:Oper:={dst:=some 10,op:=Op.buildSlice 37 0 #[],type:=37,pos:= "l09_shard.go:57",after:=#[],guard:=none}
open Go in
abbrev qO15:Oper:={dst:=some 13,op:=Op.call {callee:=Callee.builtin Builtin.append,args:=#[Operand.tmp 10,Operand.tmp 12],argTypes:=#[37,37]},type:=37,pos:= "l09_shard.go:57",after:=#[{on:=7,ground:=Ground.data},{on:=9,ground:=Ground.data},{on:=4,ground:=Ground.chain}],guard:=none}
open Go in
abbrev qO16:Oper:={dst:=some 16,op:=Op.call {callee:=Callee.value (Operand.func 94),args:=#[Operand.tmp 15],argTypes:=#[41]},type:=41,pos:= "l09_shard.go:57",after:=#[{on:=12,ground:=Ground.data},{on:=10,ground:=Ground.chain}],guard:=none}
open Go in
abbrev qO17:Oper:={dst:=none,op:=Op.store 43 (Operand.tmp 2) (Operand.tmp 17),type:=0,pos:= "l09_shard.go:57",after:=#[{on:=14,ground:=Ground.data},{on:=13,ground:=Ground.chain},{on:=0,ground:=Ground.phase},{on:=1,ground:=Ground.phase},{on:=2,ground:=Ground.phase},{on:=3,ground:=Ground.phase},{on:=4,ground:=Ground.phase},{on:=5,ground:=Ground.phase},{on:=6,ground:=Ground.phase},{on:=7,ground:=Ground.phase},{on:=8,ground:=Ground.phase},{on:=9,ground:=Ground.phase},{on:=10,ground:=Ground.phase},{on:=11,ground:=Ground.phase},{on:=12,ground:=Ground.phase},{on:=13,ground:=Ground.phase},{on:=14,ground:=Ground.phase}],guard:=none}
namespace bm
open Go Go.RowKit base aE aX dG gO lay
theorem zl(tx:Int)(l:List Rc)(k:Nat)(h:k<l.length):eW tx (l.take (k+1))=if l[k].2.1=tx∧l[k].1=3 then 4 else if l[k].2.1=tx∧l[k].1=2 then 3 else eW tx (l.take k):=by
 rw[List.take_succ_eq_append_getElem h,mT]
theorem Bg(l:List Rc)(k:Nat)(h:k<l.length):bQ (l.take (k+1))=bQ (l.take k)+l[k].2.2.length:=by
 rw[List.take_succ_eq_append_getElem h]; unfold bQ; rw[List.map_append,List.sum_append]; simp
theorem Gk(l:List Rc)(k:Nat):bQ (l.take k)≤bQ l:=by
 conv=>rhs; rw[←List.take_append_drop k l]
 unfold bQ; rw[List.map_append,List.sum_append]; omega
theorem oC(la:Option Addr)(ln lc:Nat)(ma:Option Addr)(mn mc:Nat)(ha:Option Addr)(hn hc:Nat)(s:de)(tx:Int)(w:World)(h:eY w la ln lc ma mn mc ha hn hc s):
 Calls Tryz.prog 157 #[cd s.1 s.2.2.1 la ln lc ma mn mc ha hn hc,.int .i64 tx] w fun e w'=>e=.returned (.int .i64 (eP s tx))∧Below w.heap.size w w':=by
 obtain⟨hl,hm,fk,Cv⟩:=id h.log;unfold maxLen at hm;obtain⟨W,hW⟩:∃W,w.alloc (cA s.1 s.2.2.1 la ln lc ma mn mc ha hn hc)=W:=⟨_,rfl⟩;have hB:Below w.heap.size w W:=by rw[←hW]; exact(Below.refl _ _).alloc (Nat.le_refl _) _
 have bI:aD w.heap.size 43 [] (aU s.1 s.2.2.1 la ln lc ma mn mc ha hn hc) [] W:=by rw[←hW]; exact aO w _ _
 have FQ:=Hid.mk' (eA ha hn hc s.2.2.2.2 tx W (h.held.below hB));have c1:=bI.cell 1 _ rfl;have c4:=bI.cell 4 _ rfl;simp only[List.length_nil,Nat.zero_add] at c1 c4;have qu:=h.log.below hB;have HW:=Hid.mk' hW;rw[←hW] at c1 c4;have HL:=Hid.mk' hl;clear hW hl;cases hp:aR tx s.2.2.2.2 with
 | some k=>
  have HO:Hid (eP s tx=1):=by show _=_; unfold eP; rw[hp]; rfl
  rw[hp,show fL (some k)=(k:Int) from rfl] at FQ
  have Cn:(0:Int)≤(k:Int):=by omega
  clear hp;aj Tryz.func157,Tryz.ntmps157;ab fail;rw[HW.out];refine FQ.out.mono ?_;rintro e w1 ⟨rfl,rfl⟩;clear c1 c4 FQ HW;ab fail;an;rw[HO.out];exact⟨rfl,hB⟩
 | none=>
  have HO:Hid (eP s tx=eW tx s.2.1):=by show _=_; unfold eP; rw[hp]; rfl
  rw[hp,show fL none=(-1:Int) from rfl] at FQ
  clear hp;aj Tryz.func157,Tryz.ntmps157;ab fail;rw[HW.out];refine FQ.out.mono ?_;rintro e w1 ⟨rfl,rfl⟩;have d1:=bI.cell 1 _ rfl;simp only[List.length_nil,Nat.zero_add] at d1;clear c1 c4 FQ HW;ab fail;aN [5,6] (fun o i wr=>∃k:Nat,k≤ln∧i=.int .i64 (k:Int)∧o=.int .i64 (eW tx (s.2.1.take k))∧wr=w1) (fun _ i _=>ln - (intOf i).toNat)
  case atStart=>exact⟨0,Nat.zero_le _,rfl,rfl,rfl⟩
  case round=>
   obtain⟨k,hk,rfl,rfl,rfl⟩:=hrel;by_cases bn:k<ln
   · have cJ:k<s.2.1.length:=by have:=HL.out; omega
     obtain⟨b,off,e,_⟩:=Cv (by omega)
     subst e;obtain⟨e0,e1,pa,pl,pc,e2,_,_⟩:=qu.at k cJ;have fZ:(k:Int)<(ln:Int):=by omega
     have HT:=Hid.mk' (zl tx s.2.1 k cJ);generalize s.2.1[k]=r at *;generalize eW tx (s.2.1.take k)=o0 at *;obtain⟨r1,r2,r3⟩:=r;simp only[] at e0 e1 e2 HT;by_cases h1:r2=tx
     · subst h1;have f1:(r2==r2)=true:=by simp
       by_cases h2:r1=2
       · subst h2;have Pf:Hid (eW r2 (s.2.1.take (k+1))=3):=by show _=_; rw[HT.out]; simp
         clear HT;ab fail;aA
         case rel=>exact⟨k+1,by omega,by aF,by rw[Pf.out],by trivial⟩
         case measure=>simp[intOf]; omega
       · have g2:(r1==2)=false:=beq_eq_false_iff_ne.2 h2;by_cases h3:r1=3
         · subst h3;have Pf:Hid (eW r2 (s.2.1.take (k+1))=4):=by show _=_; rw[HT.out]; simp
           clear HT h2 g2;ab fail;aA
           case rel=>exact⟨k+1,by omega,by aF,by rw[Pf.out],by trivial⟩
           case measure=>simp[intOf]; omega
         · have g3:(r1==3)=false:=beq_eq_false_iff_ne.2 h3;have Pf:Hid (eW r2 (s.2.1.take (k+1))=o0):=by show _=_; rw[HT.out]; simp[h2,h3]
           clear HT h2 h3;ab fail;aA
           case rel=>exact⟨k+1,by omega,by aF,by rw[Pf.out],by trivial⟩
           case measure=>simp[intOf]; omega
     · have f1:(r2==tx)=false:=beq_eq_false_iff_ne.2 h1;have Pf:Hid (eW tx (s.2.1.take (k+1))=o0):=by show _=_; rw[HT.out]; simp[h1]
       clear HT h1;ab fail;aA
       case rel=>exact⟨k+1,by omega,by aF,by rw[Pf.out],by trivial⟩
       case measure=>simp[intOf]; omega
   · have HE:Hid (s.2.1.take k=s.2.1):=List.take_of_length_le (by have:=HL.out; omega)
     have CU:¬(k:Int)<(ln:Int):=by omega
     ab fail;an;rw[HO.out,HE.out];exact⟨rfl,hB⟩
theorem Bh(la:Option Addr)(ln lc:Nat)(ma:Option Addr)(mn mc:Nat)(ha:Option Addr)(hn hc:Nat)(s:de)(oa:Option Addr)(on oc:Nat)(ops:List Od)(w:World)(h:eY w la ln lc ma mn mc ha hn hc s)(ho:dS w oa on ops)(ud:bQ s.2.2.2.2≤1099511627776)(pQ:mn≤1099511627776)(Lo:on≤1099511627776):
 Calls Tryz.prog 158 #[cd s.1 s.2.2.1 la ln lc ma mn mc ha hn hc,.slice oa on oc] w fun e w'=>e=.returned (.int .i64 (lB s ops:Int))∧Below w.heap.size w w':=by
 obtain⟨hl,hm,fk,Cv⟩:=id h.held;unfold maxLen at hm;obtain⟨W,hW⟩:∃W,w.alloc (cA s.1 s.2.2.1 la ln lc ma mn mc ha hn hc)=W:=⟨_,rfl⟩;have hB:Below w.heap.size w W:=by rw[←hW]; exact(Below.refl _ _).alloc (Nat.le_refl _) _
 have bI:aD w.heap.size 43 [] (aU s.1 s.2.2.1 la ln lc ma mn mc ha hn hc) [] W:=by rw[←hW]; exact aO w _ _
 have c3:=bI.cell 3 _ rfl;have c4:=bI.cell 4 _ rfl;simp only[List.length_nil,Nat.zero_add] at c3 c4;have Sx:=h.held.below hB;have HW:=Hid.mk' hW;rw[←hW] at c3;have HL:=Hid.mk' hl;have HK:Hid (lB s ops=mn+on+bQ s.2.2.2.2):=by show _=_; unfold lB; rw[h.map.1,ho.1]
 clear hW hl;aj Tryz.func158,Tryz.ntmps158;ab fail;aN [5,6] (fun o i wr=>∃k:Nat,k≤hn∧i=.int .i64 (k:Int)∧o=.int .i64 ((mn+on+bQ (s.2.2.2.2.take k):Nat):Int)∧wr=W) (fun _ i _=>hn - (intOf i).toNat)
 case atStart=>exact⟨0,Nat.zero_le _,rfl,by simp[bQ],HW.out⟩
 case round=>
  obtain⟨k,hk,rfl,rfl,rfl⟩:=hrel;clear c3;by_cases bn:k<hn
  · have cJ:k<s.2.2.2.2.length:=by have:=HL.out; omega
    obtain⟨b,off,e,_⟩:=Cv (by omega)
    subst e;obtain⟨e0,e1,pa,pl,pc,e2,dT,_⟩:=Sx.at k cJ;have fZ:(k:Int)<(hn:Int):=by omega
    have HT:=Hid.mk' (Bg s.2.2.2.2 k cJ);have hle:=Gk s.2.2.2.2 (k+1);have gI:=dT.1;have hS0:bQ (s.2.2.2.2.take k)+pl≤1099511627776:=by rw[HT.out] at hle; omega
    have UF:=Hid.mk' gI;clear gI hle dT;generalize hA:bQ (s.2.2.2.2.take k)=A at *;clear hA;generalize s.2.2.2.2[k]=r at *;ab fail;aA
    case rel=>exact⟨k+1,by omega,by aF,by rw[HT.out,UF.out]; aF,by trivial⟩
    case measure=>simp[intOf]; omega
  · have HE:Hid (s.2.2.2.2.take k=s.2.2.2.2):=List.take_of_length_le (by have:=HL.out; omega)
    have CU:¬(k:Int)<(hn:Int):=by omega
    ab fail;an;rw[HK.out,HE.out];exact⟨rfl,hB⟩
end bm
namespace bm
open Go Go.RowKit base aE aX
theorem jy(a:Option Addr)(len cap:Nat)(l:List Rc)(w:World)(h:rP w a len l)(jg:len≤1099511627776)(cT:∀r∈l,r.2.2.length≤1099511627776):
 Calls Tryz.prog 94 #[.slice a len cap] w fun e w'=>∃g cp hs,e=.returned (.slice (some ⟨g,0,none⟩) len cp)∧bB w' w.heap.size (.slice (some ⟨g,0,none⟩) len cp) l hs∧Below w.heap.size w w':=by
 obtain⟨i0,hi,dE,dD,cO⟩:=info_parts mR;obtain⟨hl,hm,fk,hc⟩:=id h;subst hl;unfold maxLen at hm;have IU:Below w.heap.size w (w.alloc (.cells #[] 98)):=(Below.refl _ _).alloc (Nat.le_refl _) _;have zZ:=oY w w.heap.size (Nat.le_refl _);aj Tryz.func94,Tryz.ntmps94;ab (ak; fail)
 aN [3,4] (fun v i wr=>∃(k g cp:Nat) (hs:List Value),k≤l.length∧v=.slice (some ⟨g,0,none⟩) k cp∧i=.int .i64 (k:Int)∧bB wr w.heap.size (.slice (some ⟨g,0,none⟩) k cp) (l.take k) hs∧Below w.heap.size w wr) (fun _ i _=>l.length - (intOf i).toNat)
 case atStart=>exact⟨0,_,0,[],Nat.zero_le _,rfl,rfl,zZ,IU⟩
 case round=>
  clear zZ IU;obtain⟨k,g,cp,hs,hk,rfl,rfl,hO,hB⟩:=hrel;by_cases bn:k<l.length
  · obtain⟨b,off,ha,_⟩:=hc (by omega)
    subst ha;obtain⟨Jd,NG,pa,pl,pc,o9,dT,_⟩:=h.at k bn;have nu:=World.block_lt_of_cell? w _ Jd;have c0:=(hB.cell (p:=⟨b,off+k * 3,none⟩) nu).trans Jd;have c1:=(hB.cell (p:=⟨b,off+k * 3+1,none⟩) nu).trans NG;have c2:=(hB.cell (p:=⟨b,off+k * 3+2,none⟩) nu).trans o9;have fZ:(k:Int)<(l.length:Int):=by omega
    have xK:=fk _ (List.getElem_mem bn);have pf:=cT _ (List.getElem_mem bn);have xM:Hid (l.take (k+1)=l.take k++[l[k]]):=List.take_succ_eq_append_getElem bn;have sf:(l.take k).length=k:=by rw[List.length_take]; omega
    generalize l[k]=r at *;generalize l.take k=T at *;clear Jd NG o9 nu;have Hs:=dT.1;have wW:=Hid.mk' (mP r.1 r.2.1 pa pl pc r.2.2 wr (dT.below hB) (by omega))
    have Mr:=Hid.mk' sf;have HO:=Hid.mk' hO;clear hO sf;ab (ak; fail)
    refine wW.out.mono ?_;rintro e w3 ⟨g3,c3,rfl,ew,dI⟩;have kc:=(fK ew).mono (base':=w.heap.size) hB.size;have NB:=HO.out.below dI;have cY:=hB.trans (dI.mono hB.size);have kQ:=ew.lt;have jQ:∀j,(Value.slice (some ⟨g3,0,none⟩) pl c3).ownBlock=some j→¬dq (.slice (some ⟨g,0,none⟩) k cp) hs j:=fun j hj hb=>by
     have e1:g3=j:=by simpa[Value.ownBlock] using hj
     have:=(HO.out.lt j hb).2;omega
    have y8:=Hid.mk' jQ;have ta:Below w3.heap.size w3 (w3.alloc (.cells #[.int .i64 r.1,.int .i64 r.2.1,.slice (some ⟨g3,0,none⟩) pl c3] 98)):=(Below.refl _ _).alloc (Nat.le_refl _) _;have ej:=NB.below ta;have zX:=kc.below ta;have eF:=cY.trans (ta.mono cY.size);have Ja:=Hid.mk' (jj w3 r.1 r.2.1 (.slice (some ⟨g3,0,none⟩) pl c3) 98);have Cq:=Hid.mk' (me r.1 r.2.1 kc.one);have fR:T.length+1≤maxLen:=by have:=Mr.out; unfold maxLen; omega
    have kn:(T.length+1) * 40≤140737488355328:=by have:=Mr.out; omega
    clear wW ew dI kc NB cY ta jQ c0 c1 c2 HO;ab (ak; refine wpList_append_own _ rfl (.tmp 12) (.tmp 18) 41 rfl w.heap.size 98 i0 (.agg #[.int .i64 0,.int .i64 0,.slice none 0 0]) 3 40 Tryz.underlying41 hi dE dD cO rfl (by decide) _ _ _ rfl ej.row ⟨w3.heap.size,0,none⟩ 1 1 _ rfl rfl Ja.out Cq.out fR kn eF.size ?_)
    intro v5 w5 iB fa uY;have cC:¬v5=.slice none 0 0:=by simpa using uY
    have eD:=ej.snoc zX xK y8.out iB fa;have ez:Below w.heap.size w w5:=eF.grown fa eF.size (fun j e=>(ej.row.lt j e).1)
    rw[←xM.out] at eD;have JB:(l.take (k+1)).length=k+1:=by rw[List.length_take]; omega
    rcases eD.shape with⟨FZ,_⟩ | ⟨g5,wj,FZ,_⟩
    · exact absurd FZ cC
    · rw[JB] at FZ;subst FZ;have wS:=Hid.mk' eD;clear iB fa uY cC eD ej eF zX Ja Cq y8 JB;ab (ak; fail)
      aA
      case rel=>exact⟨k+1,g5,wj,_,by omega,rfl,by aF,wS.out,ez⟩
      case measure=>simp[intOf]; omega
  · have EV:k=l.length:=by omega
    subst EV;rw[List.take_length] at hO;have fP:¬(l.length:Int)<(l.length:Int):=by omega
    ab (ak; fail)
    an;exact⟨g,cp,rfl,⟨hs,hO⟩,hB⟩
end bm
namespace lay
open Go Go.RowKit base aE aX bm
theorem aD.nH{X:Nat}{T:TypeId}{pre post:List Value}{a0 a1 a2 a3 a4:Value}{w:World}(h:aD X T pre [a0,a1,a2,a3,a4] post w)(b0 b1 b2 b3 b4:Value):
 aD X T pre [b0,b1,b2,b3,b4] post (((((w.setCell ⟨X,pre.length,none⟩ b0).setCell ⟨X,pre.length+1,none⟩ b1).setCell ⟨X,pre.length+2,none⟩ b2).setCell ⟨X,pre.length+3,none⟩ b3).setCell ⟨X,pre.length+4,none⟩ b4)∧
 w.grownBy (((((w.setCell ⟨X,pre.length,none⟩ b0).setCell ⟨X,pre.length+1,none⟩ b1).setCell ⟨X,pre.length+2,none⟩ b2).setCell ⟨X,pre.length+3,none⟩ b3).setCell ⟨X,pre.length+4,none⟩ b4) (some X):=by
 have h0:=h.set 0 (by simp) b0
 have h1:=h0.1.set 1 (by simp) b1
 have h2:=h1.1.set 2 (by simp) b2
 have h3:=h2.1.set 3 (by simp) b3
 have h4:=h3.1.set 4 (by simp) b4
 exact⟨h4.1,az (az (az (az h0.2 h1.2) h2.2) h3.2) h4.2⟩
end lay
namespace bm
open Go Go.RowKit base aE aX dG gO lay
theorem bB.ui{w:World}{base b2 g n cap:Nat}{v:Value}{l:List Rc}{hs:List Value}{P:List Pr}(h:bB w base v l hs)(hp:bX w b2 g n cap P):¬dq v hs g:=by
 rintro(e | ⟨y,hy,e⟩)
 · exact gC h.row hp.2.2 e rfl (by decide)
 · obtain⟨i,hi,rfl⟩:=List.getElem_of_mem hy;exact gC (h.ops i (by have:=h.len; omega)).2 hp.2.2 e rfl (by decide)
theorem rl{w:World}{B C gl ln cl gm mn cm gh hn ch:Nat}{s:de}{hl hh:List Value}(Gl:(Lit.int .i64 s.1).wf=true)(EW:(Lit.int .i64 s.2.2.1).wf=true)
 (h1:bB w B (.slice (some ⟨gl,0,none⟩) ln cl) s.2.1 hl) (h2:bX w B gm mn cm s.2.2.2.1) (h3:bB w B (.slice (some ⟨gh,0,none⟩) hn ch) s.2.2.2.2 hh) (ri:∀k,dq (.slice (some ⟨gl,0,none⟩) ln cl) hl k→k<C) (Gm:∀k,dq (.slice (some ⟨gh,0,none⟩) hn ch) hh k→C≤k):
 ∃F,dn w (some ⟨gl,0,none⟩) ln cl (some ⟨gm,0,none⟩) mn cm (some ⟨gh,0,none⟩) hn ch s F∧∀k∈F,B≤k:=by
 have o1:=h1.mono (base':=0) (Nat.zero_le _);have o3:=h3.mono (base':=0) (Nat.zero_le _);have d1:=lay.k9.bU (lay.dB.2 ⟨hl,o1,rfl⟩);have d3:=lay.k9.bU (lay.dB.2 ⟨hh,o3,rfl⟩);refine⟨_,⟨Gl,EW,⟨hl,o1,hh,o3,rfl⟩,iF h2,?_⟩,fun k hk=>?_⟩
 · refine bZ d1 (bZ (by simp[Value.ownBlock]) d3 (fun k hk iu=>?_)) (fun k hk iu=>?_)
   · have:k=gm:=by simpa[Value.ownBlock] using hk
     subst this;exact h3.ui h2 (lay.aJ.1 iu)
   · have hk:=lay.aJ.1 hk;rcases List.mem_append.1 iu with e | e
     · have:k=gm:=by simpa[Value.ownBlock] using e
       subst this;exact h1.ui h2 hk
     · have:=ri k hk;have:=Gm k (lay.aJ.1 e);omega
 · rcases List.mem_append.1 hk with e | e
   · exact(h1.lt k (lay.aJ.1 e)).1
   · rcases List.mem_append.1 e with e | e
     · have:k=gm:=by simpa[Value.ownBlock] using e
       subst this;exact h2.lt.1
     · exact(h3.lt k (lay.aJ.1 e)).1
theorem DC(la:Option Addr)(ln lc:Nat)(mn mc:Nat)(ha:Option Addr)(hn hc:Nat)(s:de)(w:World)(h:eY w la ln lc none mn mc ha hn hc s)(hf:wD s.2.1)(we:wD s.2.2.2.2)(wu:ln≤1099511627776)(jA:mn≤1099511627776)(Cw:hn≤1099511627776):
 Calls Tryz.prog 55 #[cd s.1 s.2.2.1 la ln lc none mn mc ha hn hc] w fun e w'=>∃gl cl gm cm gh ch F,e=.returned (cd s.1 s.2.2.1 (some ⟨gl,0,none⟩) ln cl (some ⟨gm,0,none⟩) mn cm (some ⟨gh,0,none⟩) hn ch)∧
  dn w' (some ⟨gl,0,none⟩) ln cl (some ⟨gm,0,none⟩) mn cm (some ⟨gh,0,none⟩) hn ch s F∧(∀k∈F,w.heap.size≤k)∧Below w.heap.size w w':=by
 obtain⟨i0,jX,dE,dD,cO⟩:=info_parts nt;obtain⟨W,hW⟩:∃W,W=(w.alloc (cA s.1 s.2.2.1 la ln lc none mn mc ha hn hc)).alloc (cA 0 0 none 0 0 none 0 0 none 0 0):=⟨_,rfl⟩;have bw:Below w.heap.size w (w.alloc (cA s.1 s.2.2.1 la ln lc none mn mc ha hn hc)):=(Below.refl _ _).alloc (Nat.le_refl _) _;have hB:Below w.heap.size w W:=by rw[hW]; exact bw.alloc bw.size _
 have hT:aD w.heap.size 43 [] (aU s.1 s.2.2.1 la ln lc none mn mc ha hn hc) [] W:=by rw[hW]; exact(aO w _ _).below ((Below.refl _ _).alloc (Nat.le_refl _) _)
 have hR:aD (w.heap.size+1) 43 [] (aU 0 0 none 0 0 none 0 0 none 0 0) [] W:=by
  rw[hW];have:=aO (w.alloc (cA s.1 s.2.2.1 la ln lc none mn mc ha hn hc)) (aU 0 0 none 0 0 none 0 0 none 0 0) 43;oU [show(w.alloc (cA s.1 s.2.2.1 la ln lc none mn mc ha hn hc)).heap.size=w.heap.size+1 by simp] at this
 have Lp:w.heap.size+1<W.heap.size:=hR.lt;have HW:=Hid.mk' hW.symm;clear hW;have CH:=Hid.mk' (fun wx (hx:Below W.heap.size W wx)=>jy la ln lc s.2.1 wx ((h.log.below hB).below hx) wu (fun r hr=>(hf r hr).1))
 have vn:=Hid.mk' (fun wx (hx:Below W.heap.size W wx)=>jy ha hn hc s.2.2.2.2 wx ((h.held.below hB).below hx) Cw (fun r hr=>(we r hr).1))
 have xH:=h.map.1;have fk:=h.map.2.2.1;have h0:mn=0:=by
  rcases Nat.eq_zero_or_pos mn with e | e
  · exact e
  · obtain⟨b,off,ha,_⟩:=h.map.2.2.2 e; cases ha
 subst h0;have WE:Hid (s.2.2.2.1=[]):=List.eq_nil_of_length_eq_zero xH;have RW:=jO;have Gl:=h.id;have EW:=h.sure;have Lq:=Hid.mk' xH;clear h hf we xH;have eX:Below W.heap.size W W.drew:=(Below.refl _ _).drew;aj Tryz.func55,Tryz.ntmps55;ab fail;rw[HW.out];refine last.aB (S:=fun w'=>aD w.heap.size 43 [] (aU s.1 s.2.2.1 la ln lc none 0 mc ha hn hc) [] w'∧aD (w.heap.size+1) 43 [] (aU 0 0 none 0 0 none 0 0 none 0 0) [] w') 15 (by aa) ⟨hT.below eX,hR.below eX⟩ (fun al=>?_)
 refine last.ae (i:=0) (v:=(.pointer (some ⟨w.heap.size,0,none⟩))) rfl rfl (by aa) (by aa) (by aa) (by aa) (fun _ _ _ h=>h) (Or.inl ⟨by rfl,?_⟩) (by assumption) ?_
 · intro wq aC; af
 try simp only[Act.put,List.setIfInBounds_toArray,List.set_cons_zero,List.set_cons_succ];refine last.ae (i:=1) (v:=(.int .i64 s.1)) rfl rfl (by aa) (by aa) (by aa) (by aa) (fun _ _ _ h=>h) (Or.inl ⟨by rfl,?_⟩) (by assumption) ?_
 · intro wq aC; have q:=aC.1.cell 0 _ rfl; simp only[List.length_nil,Nat.zero_add] at q; af
 try simp only[Act.put,List.setIfInBounds_toArray,List.set_cons_zero,List.set_cons_succ];refine last.ae (i:=2) (v:=(.pointer (some ⟨w.heap.size,1,none⟩))) rfl rfl (by aa) (by aa) (by aa) (by aa) (fun _ _ _ h=>h) (Or.inl ⟨by rfl,?_⟩) (by assumption) ?_
 · intro wq aC; af
 try simp only[Act.put,List.setIfInBounds_toArray,List.set_cons_zero,List.set_cons_succ];refine last.ae (i:=3) (v:=(.slice la ln lc)) rfl rfl (by aa) (by aa) (by aa) (by aa) (fun _ _ _ h=>h) (Or.inl ⟨by rfl,?_⟩) (by assumption) ?_
 · intro wq aC; have q:=aC.1.cell 1 _ rfl; simp only[List.length_nil,Nat.zero_add] at q; af
 try simp only[Act.put,List.setIfInBounds_toArray,List.set_cons_zero,List.set_cons_succ];refine last.ae (i:=5) (v:=(.pointer (some ⟨w.heap.size,2,none⟩))) rfl rfl (by aa) (by aa) (by aa) (by aa) (fun _ _ _ h=>h) (Or.inl ⟨by rfl,?_⟩) (by assumption) ?_
 · intro wq aC; af
 try simp only[Act.put,List.setIfInBounds_toArray,List.set_cons_zero,List.set_cons_succ];refine last.ae (i:=6) (v:=(.int .i64 s.2.2.1)) rfl rfl (by aa) (by aa) (by aa) (by aa) (fun _ _ _ h=>h) (Or.inl ⟨by rfl,?_⟩) (by assumption) ?_
 · intro wq aC; have q:=aC.1.cell 2 _ rfl; simp only[List.length_nil,Nat.zero_add] at q; af
 try simp only[Act.put,List.setIfInBounds_toArray,List.set_cons_zero,List.set_cons_succ];refine last.ae (i:=8) (v:=(.pointer (some ⟨w.heap.size,3,none⟩))) rfl rfl (by aa) (by aa) (by aa) (by aa) (fun _ _ _ h=>h) (Or.inl ⟨by rfl,?_⟩) (by assumption) ?_
 · intro wq aC; af
 try simp only[Act.put,List.setIfInBounds_toArray,List.set_cons_zero,List.set_cons_succ];refine last.ae (i:=9) (v:=(.slice none 0 mc)) rfl rfl (by aa) (by aa) (by aa) (by aa) (fun _ _ _ h=>h) (Or.inl ⟨by rfl,?_⟩) (by assumption) ?_
 · intro wq aC; have q:=aC.1.cell 3 _ rfl; simp only[List.length_nil,Nat.zero_add] at q; af
 try simp only[Act.put,List.setIfInBounds_toArray,List.set_cons_zero,List.set_cons_succ];refine last.ae (i:=11) (v:=(.pointer (some ⟨w.heap.size,4,none⟩))) rfl rfl (by aa) (by aa) (by aa) (by aa) (fun _ _ _ h=>h) (Or.inl ⟨by rfl,?_⟩) (by assumption) ?_
 · intro wq aC; af
 try simp only[Act.put,List.setIfInBounds_toArray,List.set_cons_zero,List.set_cons_succ];refine last.ae (i:=12) (v:=(.slice ha hn hc)) rfl rfl (by aa) (by aa) (by aa) (by aa) (fun _ _ _ h=>h) (Or.inl ⟨by rfl,?_⟩) (by assumption) ?_
 · intro wq aC; have q:=aC.1.cell 4 _ rfl; simp only[List.length_nil,Nat.zero_add] at q; af
 try simp only[Act.put,List.setIfInBounds_toArray,List.set_cons_zero,List.set_cons_succ];refine last.eO (i:=4) (j:=7) (o:=qO13) (o':={dst:=some 10,op:=Op.buildSlice 37 0 #[],type:=37,pos:= "l09_shard.go:57",after:=#[],guard:=none}) (by aa) rfl rfl (fun K hK=> ?wayA) (fun K hK=> ?wayB)
 case' wayA=>
  refine fM.cL rfl 94 (.tmp 6) _ rfl (fun _ _=>rfl) (.slice la ln lc) (by aa) _ (CH.out _ eX) ?_
  rintro e w4 ⟨gl,cl,hl,rfl,vq,eR⟩;refine⟨_,rfl,?_⟩;have eF:=eX.trans (eR.mono eX.size);refine hK.out _ _ ?_ (fun aq=>?_)
  · exact⟨hT.below eF,hR.below eF⟩
  clear hK K al;have al:=aq;clear aq;try simp only[Act.put,List.setIfInBounds_toArray,List.set_cons_zero,List.set_cons_succ];refine last.ax (i:=7) (o:=qO14) (by aa) rfl (fun K hK=>?_)
  af;have dd:Below w4.heap.size w4 (w4.alloc (.cells #[] 100)):=(Below.refl _ _).alloc (Nat.le_refl _) _;have il:=eF.trans (dd.mono eF.size);have sx:=(vq.below dd).mono (base':=W.heap.size) eX.size;have kE:=cB w4 W.heap.size eF.size;refine hK.out _ _ ?_ (fun aq=>?_)
  · exact⟨hT.below il,hR.below il⟩
  clear hK K al;have al:=aq;clear aq;generalize Pg:w4.alloc (.cells #[] 100)=wA at *;generalize Ph:w4.heap.size=g0 at *;clear Pg Ph vq eR eF dd
 case' wayB=>
  af;have dd:Below W.heap.size W (W.drew.alloc (.cells #[] 100)):=eX.alloc eX.size _;have qZ:=cB W.drew W.heap.size (Nat.le_refl _);refine hK.out _ _ ?_ (fun aq=>?_)
  · exact⟨hT.below dd,hR.below dd⟩
  clear hK K al;have al:=aq;clear aq;try simp only[Act.put,List.setIfInBounds_toArray,List.set_cons_zero,List.set_cons_succ];refine last.ax (i:=4) (o:=qO13) (by aa) rfl (fun K hK=>?_)
  refine fM.cL rfl 94 (.tmp 6) _ rfl (fun _ _=>rfl) (.slice la ln lc) (by aa) _ (CH.out _ dd) ?_
  rintro e wA ⟨gl,cl,hl,rfl,vq,eR⟩;refine⟨_,rfl,?_⟩;have il:=dd.trans (eR.mono dd.size);have sx:=vq.mono (base':=W.heap.size) dd.size;have kE:=qZ.below eR;refine hK.out _ _ ?_ (fun aq=>?_)
  · exact⟨hT.below il,hR.below il⟩
  clear hK K al;have al:=aq;clear aq;obtain⟨g0,DD⟩:∃g0,g0=W.heap.size:=⟨_,rfl⟩;have kE:bX wA W.heap.size g0 0 0 []:=by rw[DD]; exact kE
  rw[←DD];clear qZ vq eR dd DD
 bo
  try simp only[Act.put,List.setIfInBounds_toArray,List.set_cons_zero,List.set_cons_succ];refine last.ax (i:=10) (o:=qO15) (by aa) rfl (fun K hK=>?_)
  af;have DE:bX wA W.heap.size g0 0 0 s.2.2.2.1:=by rw[WE.out]; exact kE
  have fQ:=il;have oD:=sx;refine hK.out _ _ ?_ (fun aq=>?_)
  · exact⟨hT.below fQ,hR.below fQ⟩
  clear hK K al;have al:=aq;clear aq;try simp only[Act.put,List.setIfInBounds_toArray,List.set_cons_zero,List.set_cons_succ];refine last.ax (i:=13) (o:=qO16) (by aa) rfl (fun K hK=>?_)
  refine fM.cL rfl 94 (.tmp 15) _ rfl (fun _ _=>rfl) (.slice ha hn hc) (by aa) _ (vn.out _ fQ) ?_
  rintro e WG ⟨gh,ch,hh,rfl,JC,qv⟩;refine⟨_,rfl,?_⟩;have mW:=fQ.trans (qv.mono fQ.size);have cj:=hR.below mW;refine hK.out _ _ ?_ (fun aq=>?_)
  · exact⟨hT.below mW,cj⟩
  clear hK K al;have al:=aq;clear aq;try simp only[Act.put,List.setIfInBounds_toArray,List.set_cons_zero,List.set_cons_succ];refine last.ae (i:=14) (v:=(cd s.1 s.2.2.1 (some ⟨gl,0,none⟩) ln cl (some ⟨g0,0,none⟩) 0 0 (some ⟨gh,0,none⟩) hn ch)) rfl rfl (by aa) (by aa) (by aa) (by aa) (fun _ _ _ h=>h) (Or.inl ⟨by rfl,?_⟩) (by assumption) ?_
  · intro wq aC; af
  try simp only[Act.put,List.setIfInBounds_toArray,List.set_cons_zero,List.set_cons_succ];have z0:=cj.cell 0 _ rfl;have z1:=cj.cell 1 _ rfl;have z2:=cj.cell 2 _ rfl;have z3:=cj.cell 3 _ rfl;have z4:=cj.cell 4 _ rfl;simp only[List.length_nil,Nat.zero_add] at z0 z1 z2 z3 z4;have f0:=cj.fz 0;have f1:=cj.fz 1;have f2:=cj.fz 2;have f3:=cj.fz 3;have f4:=cj.fz 4;refine last.aL (o:=qO17) (by aa) rfl (by aa) (fun K hK=>?_)
  af;refine hK.out _ _ ?_;clear hK K;have cP:=cj.nH (.int .i64 s.1) (.slice (some ⟨gl,0,none⟩) ln cl) (.int .i64 s.2.2.1) (.slice (some ⟨g0,0,none⟩) 0 0) (.slice (some ⟨gh,0,none⟩) hn ch);simp only[List.length_nil,Nat.zero_add] at cP;have ri:∀k,dq (.slice (some ⟨gl,0,none⟩) ln cl) hl k→k<wA.heap.size:=fun k hk=>(oD.lt k hk).2
  have Gm:∀k,dq (.slice (some ⟨gh,0,none⟩) hn ch) hh k→wA.heap.size≤k:=fun k hk=>(JC.lt k hk).1
  obtain⟨F,qN,uj⟩:=rl (B:=W.heap.size) Gl EW (oD.below qv) (DE.below qv) (JC.mono fQ.size) ri Gm;have DF:=qN.keep (w':=_) (fun k hk=>cP.2.block k (qN.lt k hk) (fun e=>by have:=uj k hk; have:=Option.some.inj e; omega))
  have jP:=(hB.trans (mW.mono hB.size)).grown cP.2 (hB.trans (mW.mono hB.size)).size (fun j e=>by cases e; omega)
  have dN:=cP.1.cell 0 _ rfl;have dO:=cP.1.cell 1 _ rfl;have dP:=cP.1.cell 2 _ rfl;have dQ:=cP.1.cell 3 _ rfl;have dR:=cP.1.cell 4 _ rfl;simp only[List.length_nil,Nat.zero_add] at dN dO dP dQ dR;have DG:∀k∈F,w.heap.size≤k:=fun k hk=>by have:=uj k hk; omega
  clear z0 z1 z2 z3 z4 f0 f1 f2 f3 f4;ab fail;refine bodyPost_ret (v:=cd s.1 s.2.2.1 (some ⟨gl,0,none⟩) ln cl (some ⟨g0,0,none⟩) 0 0 (some ⟨gh,0,none⟩) hn ch) ?_ rfl ⟨_,_,_,_,_,_,F,rfl,DF,DG,jP⟩;simp[results,Tryz.results55,go_sem,dN,dO,dP,dQ,dR]
theorem Bi(la:Option Addr)(ln lc:Nat)(ad:Addr)(mn mc:Nat)(ha:Option Addr)(hn hc:Nat)(s:de)(w:World)(h:eY w la ln lc (some ad) mn mc ha hn hc s)(hf:wD s.2.1)(we:wD s.2.2.2.2)(wu:ln≤1099511627776)(jA:mn≤1099511627776)(Cw:hn≤1099511627776):
 Calls Tryz.prog 55 #[cd s.1 s.2.2.1 la ln lc (some ad) mn mc ha hn hc] w fun e w'=>∃gl cl gm cm gh ch F,e=.returned (cd s.1 s.2.2.1 (some ⟨gl,0,none⟩) ln cl (some ⟨gm,0,none⟩) mn cm (some ⟨gh,0,none⟩) hn ch)∧
  dn w' (some ⟨gl,0,none⟩) ln cl (some ⟨gm,0,none⟩) mn cm (some ⟨gh,0,none⟩) hn ch s F∧(∀k∈F,w.heap.size≤k)∧Below w.heap.size w w':=by
 obtain⟨i0,jX,dE,dD,cO⟩:=info_parts nt;obtain⟨W,hW⟩:∃W,W=(w.alloc (cA s.1 s.2.2.1 la ln lc (some ad) mn mc ha hn hc)).alloc (cA 0 0 none 0 0 none 0 0 none 0 0):=⟨_,rfl⟩;have bw:Below w.heap.size w (w.alloc (cA s.1 s.2.2.1 la ln lc (some ad) mn mc ha hn hc)):=(Below.refl _ _).alloc (Nat.le_refl _) _;have hB:Below w.heap.size w W:=by rw[hW]; exact bw.alloc bw.size _
 have hT:aD w.heap.size 43 [] (aU s.1 s.2.2.1 la ln lc (some ad) mn mc ha hn hc) [] W:=by rw[hW]; exact(aO w _ _).below ((Below.refl _ _).alloc (Nat.le_refl _) _)
 have hR:aD (w.heap.size+1) 43 [] (aU 0 0 none 0 0 none 0 0 none 0 0) [] W:=by
  rw[hW];have:=aO (w.alloc (cA s.1 s.2.2.1 la ln lc (some ad) mn mc ha hn hc)) (aU 0 0 none 0 0 none 0 0 none 0 0) 43;oU [show(w.alloc (cA s.1 s.2.2.1 la ln lc (some ad) mn mc ha hn hc)).heap.size=w.heap.size+1 by simp] at this
 have Lp:w.heap.size+1<W.heap.size:=hR.lt;have HW:=Hid.mk' hW.symm;clear hW;have CH:=Hid.mk' (fun wx (hx:Below W.heap.size W wx)=>jy la ln lc s.2.1 wx ((h.log.below hB).below hx) wu (fun r hr=>(hf r hr).1))
 have vn:=Hid.mk' (fun wx (hx:Below W.heap.size W wx)=>jy ha hn hc s.2.2.2.2 wx ((h.held.below hB).below hx) Cw (fun r hr=>(we r hr).1))
 have xH:=h.map.1;have fk:=h.map.2.2.1;have WH:Hid (∀wx,Below W.heap.size W wx→∀j u,(aG s.2.2.2.1)[j]? =some u→wx.cell? (ad.add j)=some u):=by
  intro wx hx;rcases Nat.eq_zero_or_pos mn with e | e
  · intro j u hj;have e1:s.2.2.2.1=[]:=List.eq_nil_of_length_eq_zero (by omega)
    rw[e1] at hj; simp[aG] at hj
  · obtain⟨b,off,ha,_⟩:=h.map.2.2.2 e;cases ha;exact da ((h.map.below hB).below hx).cells
 have fR:0+mn≤maxLen:=by unfold maxLen; omega
 have kn:(0+mn) * 32≤140737488355328:=by omega
 have R8:(aG s.2.2.2.1).length=mn * 2:=by rw[bD]; omega
 have Gl:=h.id;have EW:=h.sure;have Lq:=Hid.mk' xH;clear h hf we xH;have eX:Below W.heap.size W W.drew:=(Below.refl _ _).drew;aj Tryz.func55,Tryz.ntmps55;ab fail;rw[HW.out];refine last.aB (S:=fun w'=>aD w.heap.size 43 [] (aU s.1 s.2.2.1 la ln lc (some ad) mn mc ha hn hc) [] w'∧aD (w.heap.size+1) 43 [] (aU 0 0 none 0 0 none 0 0 none 0 0) [] w') 15 (by aa) ⟨hT.below eX,hR.below eX⟩ (fun al=>?_)
 refine last.ae (i:=0) (v:=(.pointer (some ⟨w.heap.size,0,none⟩))) rfl rfl (by aa) (by aa) (by aa) (by aa) (fun _ _ _ h=>h) (Or.inl ⟨by rfl,?_⟩) (by assumption) ?_
 · intro wq aC; af
 try simp only[Act.put,List.setIfInBounds_toArray,List.set_cons_zero,List.set_cons_succ];refine last.ae (i:=1) (v:=(.int .i64 s.1)) rfl rfl (by aa) (by aa) (by aa) (by aa) (fun _ _ _ h=>h) (Or.inl ⟨by rfl,?_⟩) (by assumption) ?_
 · intro wq aC; have q:=aC.1.cell 0 _ rfl; simp only[List.length_nil,Nat.zero_add] at q; af
 try simp only[Act.put,List.setIfInBounds_toArray,List.set_cons_zero,List.set_cons_succ];refine last.ae (i:=2) (v:=(.pointer (some ⟨w.heap.size,1,none⟩))) rfl rfl (by aa) (by aa) (by aa) (by aa) (fun _ _ _ h=>h) (Or.inl ⟨by rfl,?_⟩) (by assumption) ?_
 · intro wq aC; af
 try simp only[Act.put,List.setIfInBounds_toArray,List.set_cons_zero,List.set_cons_succ];refine last.ae (i:=3) (v:=(.slice la ln lc)) rfl rfl (by aa) (by aa) (by aa) (by aa) (fun _ _ _ h=>h) (Or.inl ⟨by rfl,?_⟩) (by assumption) ?_
 · intro wq aC; have q:=aC.1.cell 1 _ rfl; simp only[List.length_nil,Nat.zero_add] at q; af
 try simp only[Act.put,List.setIfInBounds_toArray,List.set_cons_zero,List.set_cons_succ];refine last.ae (i:=5) (v:=(.pointer (some ⟨w.heap.size,2,none⟩))) rfl rfl (by aa) (by aa) (by aa) (by aa) (fun _ _ _ h=>h) (Or.inl ⟨by rfl,?_⟩) (by assumption) ?_
 · intro wq aC; af
 try simp only[Act.put,List.setIfInBounds_toArray,List.set_cons_zero,List.set_cons_succ];refine last.ae (i:=6) (v:=(.int .i64 s.2.2.1)) rfl rfl (by aa) (by aa) (by aa) (by aa) (fun _ _ _ h=>h) (Or.inl ⟨by rfl,?_⟩) (by assumption) ?_
 · intro wq aC; have q:=aC.1.cell 2 _ rfl; simp only[List.length_nil,Nat.zero_add] at q; af
 try simp only[Act.put,List.setIfInBounds_toArray,List.set_cons_zero,List.set_cons_succ];refine last.ae (i:=8) (v:=(.pointer (some ⟨w.heap.size,3,none⟩))) rfl rfl (by aa) (by aa) (by aa) (by aa) (fun _ _ _ h=>h) (Or.inl ⟨by rfl,?_⟩) (by assumption) ?_
 · intro wq aC; af
 try simp only[Act.put,List.setIfInBounds_toArray,List.set_cons_zero,List.set_cons_succ];refine last.ae (i:=9) (v:=(.slice (some ad) mn mc)) rfl rfl (by aa) (by aa) (by aa) (by aa) (fun _ _ _ h=>h) (Or.inl ⟨by rfl,?_⟩) (by assumption) ?_
 · intro wq aC; have q:=aC.1.cell 3 _ rfl; simp only[List.length_nil,Nat.zero_add] at q; af
 try simp only[Act.put,List.setIfInBounds_toArray,List.set_cons_zero,List.set_cons_succ];refine last.ae (i:=11) (v:=(.pointer (some ⟨w.heap.size,4,none⟩))) rfl rfl (by aa) (by aa) (by aa) (by aa) (fun _ _ _ h=>h) (Or.inl ⟨by rfl,?_⟩) (by assumption) ?_
 · intro wq aC; af
 try simp only[Act.put,List.setIfInBounds_toArray,List.set_cons_zero,List.set_cons_succ];refine last.ae (i:=12) (v:=(.slice ha hn hc)) rfl rfl (by aa) (by aa) (by aa) (by aa) (fun _ _ _ h=>h) (Or.inl ⟨by rfl,?_⟩) (by assumption) ?_
 · intro wq aC; have q:=aC.1.cell 4 _ rfl; simp only[List.length_nil,Nat.zero_add] at q; af
 try simp only[Act.put,List.setIfInBounds_toArray,List.set_cons_zero,List.set_cons_succ];refine last.eO (i:=4) (j:=7) (o:=qO13) (o':={dst:=some 10,op:=Op.buildSlice 37 0 #[],type:=37,pos:= "l09_shard.go:57",after:=#[],guard:=none}) (by aa) rfl rfl (fun K hK=> ?wayA) (fun K hK=> ?wayB)
 case' wayA=>
  refine fM.cL rfl 94 (.tmp 6) _ rfl (fun _ _=>rfl) (.slice la ln lc) (by aa) _ (CH.out _ eX) ?_
  rintro e w4 ⟨gl,cl,hl,rfl,vq,eR⟩;refine⟨_,rfl,?_⟩;have eF:=eX.trans (eR.mono eX.size);refine hK.out _ _ ?_ (fun aq=>?_)
  · exact⟨hT.below eF,hR.below eF⟩
  clear hK K al;have al:=aq;clear aq;try simp only[Act.put,List.setIfInBounds_toArray,List.set_cons_zero,List.set_cons_succ];refine last.ax (i:=7) (o:=qO14) (by aa) rfl (fun K hK=>?_)
  af;have dd:Below w4.heap.size w4 (w4.alloc (.cells #[] 100)):=(Below.refl _ _).alloc (Nat.le_refl _) _;have il:=eF.trans (dd.mono eF.size);have sx:=(vq.below dd).mono (base':=W.heap.size) eX.size;have kE:=cB w4 W.heap.size eF.size;refine hK.out _ _ ?_ (fun aq=>?_)
  · exact⟨hT.below il,hR.below il⟩
  clear hK K al;have al:=aq;clear aq;generalize Pg:w4.alloc (.cells #[] 100)=wA at *;generalize Ph:w4.heap.size=g0 at *;clear Pg Ph vq eR eF dd
 case' wayB=>
  af;have dd:Below W.heap.size W (W.drew.alloc (.cells #[] 100)):=eX.alloc eX.size _;have qZ:=cB W.drew W.heap.size (Nat.le_refl _);refine hK.out _ _ ?_ (fun aq=>?_)
  · exact⟨hT.below dd,hR.below dd⟩
  clear hK K al;have al:=aq;clear aq;try simp only[Act.put,List.setIfInBounds_toArray,List.set_cons_zero,List.set_cons_succ];refine last.ax (i:=4) (o:=qO13) (by aa) rfl (fun K hK=>?_)
  refine fM.cL rfl 94 (.tmp 6) _ rfl (fun _ _=>rfl) (.slice la ln lc) (by aa) _ (CH.out _ dd) ?_
  rintro e wA ⟨gl,cl,hl,rfl,vq,eR⟩;refine⟨_,rfl,?_⟩;have il:=dd.trans (eR.mono dd.size);have sx:=vq.mono (base':=W.heap.size) dd.size;have kE:=qZ.below eR;refine hK.out _ _ ?_ (fun aq=>?_)
  · exact⟨hT.below il,hR.below il⟩
  clear hK K al;have al:=aq;clear aq;obtain⟨g0,DD⟩:∃g0,g0=W.heap.size:=⟨_,rfl⟩;have kE:bX wA W.heap.size g0 0 0 []:=by rw[DD]; exact kE
  rw[←DD];clear qZ vq eR dd DD
 bo
  try simp only[Act.put,List.setIfInBounds_toArray,List.set_cons_zero,List.set_cons_succ];refine last.ax (i:=10) (o:=qO15) (by aa) rfl (fun K hK=>?_)
  refine c_ rfl (.tmp 10) (.tmp 12) 37 rfl W.heap.size 100 i0 (.agg #[.string ⟨#[]⟩,.string ⟨#[]⟩]) 2 32 Tryz.underlying37 jX dE dD cO rfl (by decide) _ _ _ rfl kE.2.2 ad mn mc (aG s.2.2.2.1) rfl R8 (WH.out _ il) (aP _) fR kn il.size ?_
  intro v10 xa aK aI db;have cC:¬v10=.slice none 0 0:=fun e=>by have:=(db.1 e).1; cases this
  obtain⟨g10,pX,hv,DE⟩:=dy Lq.out fk cC (by have h9:=aK; simp only[aG,List.flatMap_nil,List.nil_append,Nat.zero_add] at h9; exact h9)
  subst hv;have jW:wA.grownBy xa (some g0):=aI;have fQ:=il.grown jW il.size (fun k e=>by cases e; exact kE.lt.1)
  have oD:=sx.grown jW (sx.ui kE);refine hK.out _ _ ?_ (fun aq=>?_)
  · exact⟨hT.below fQ,hR.below fQ⟩
  clear hK K al;have al:=aq;clear aq;clear aK aI jW db cC;try simp only[Act.put,List.setIfInBounds_toArray,List.set_cons_zero,List.set_cons_succ];refine last.ax (i:=13) (o:=qO16) (by aa) rfl (fun K hK=>?_)
  refine fM.cL rfl 94 (.tmp 15) _ rfl (fun _ _=>rfl) (.slice ha hn hc) (by aa) _ (vn.out _ fQ) ?_
  rintro e WG ⟨gh,ch,hh,rfl,JC,qv⟩;refine⟨_,rfl,?_⟩;have mW:=fQ.trans (qv.mono fQ.size);have cj:=hR.below mW;refine hK.out _ _ ?_ (fun aq=>?_)
  · exact⟨hT.below mW,cj⟩
  clear hK K al;have al:=aq;clear aq;try simp only[Act.put,List.setIfInBounds_toArray,List.set_cons_zero,List.set_cons_succ];refine last.ae (i:=14) (v:=(cd s.1 s.2.2.1 (some ⟨gl,0,none⟩) ln cl (some ⟨g10,0,none⟩) mn pX (some ⟨gh,0,none⟩) hn ch)) rfl rfl (by aa) (by aa) (by aa) (by aa) (fun _ _ _ h=>h) (Or.inl ⟨by rfl,?_⟩) (by assumption) ?_
  · intro wq aC; af
  try simp only[Act.put,List.setIfInBounds_toArray,List.set_cons_zero,List.set_cons_succ];have z0:=cj.cell 0 _ rfl;have z1:=cj.cell 1 _ rfl;have z2:=cj.cell 2 _ rfl;have z3:=cj.cell 3 _ rfl;have z4:=cj.cell 4 _ rfl;simp only[List.length_nil,Nat.zero_add] at z0 z1 z2 z3 z4;have f0:=cj.fz 0;have f1:=cj.fz 1;have f2:=cj.fz 2;have f3:=cj.fz 3;have f4:=cj.fz 4;refine last.aL (o:=qO17) (by aa) rfl (by aa) (fun K hK=>?_)
  af;refine hK.out _ _ ?_;clear hK K;have cP:=cj.nH (.int .i64 s.1) (.slice (some ⟨gl,0,none⟩) ln cl) (.int .i64 s.2.2.1) (.slice (some ⟨g10,0,none⟩) mn pX) (.slice (some ⟨gh,0,none⟩) hn ch);simp only[List.length_nil,Nat.zero_add] at cP;have ri:∀k,dq (.slice (some ⟨gl,0,none⟩) ln cl) hl k→k<xa.heap.size:=fun k hk=>(oD.lt k hk).2
  have Gm:∀k,dq (.slice (some ⟨gh,0,none⟩) hn ch) hh k→xa.heap.size≤k:=fun k hk=>(JC.lt k hk).1
  obtain⟨F,qN,uj⟩:=rl (B:=W.heap.size) Gl EW (oD.below qv) (DE.below qv) (JC.mono fQ.size) ri Gm;have DF:=qN.keep (w':=_) (fun k hk=>cP.2.block k (qN.lt k hk) (fun e=>by have:=uj k hk; have:=Option.some.inj e; omega))
  have jP:=(hB.trans (mW.mono hB.size)).grown cP.2 (hB.trans (mW.mono hB.size)).size (fun j e=>by cases e; omega)
  have dN:=cP.1.cell 0 _ rfl;have dO:=cP.1.cell 1 _ rfl;have dP:=cP.1.cell 2 _ rfl;have dQ:=cP.1.cell 3 _ rfl;have dR:=cP.1.cell 4 _ rfl;simp only[List.length_nil,Nat.zero_add] at dN dO dP dQ dR;have DG:∀k∈F,w.heap.size≤k:=fun k hk=>by have:=uj k hk; omega
  clear z0 z1 z2 z3 z4 f0 f1 f2 f3 f4;ab fail;refine bodyPost_ret (v:=cd s.1 s.2.2.1 (some ⟨gl,0,none⟩) ln cl (some ⟨g10,0,none⟩) mn pX (some ⟨gh,0,none⟩) hn ch) ?_ rfl ⟨_,_,_,_,_,_,F,rfl,DF,DG,jP⟩;simp[results,Tryz.results55,go_sem,dN,dO,dP,dQ,dR]
theorem Bj(la:Option Addr)(ln lc:Nat)(ma:Option Addr)(mn mc:Nat)(ha:Option Addr)(hn hc:Nat)(s:de)(w:World)(h:eY w la ln lc ma mn mc ha hn hc s)(hf:wD s.2.1)(we:wD s.2.2.2.2)(wu:ln≤1099511627776)(jA:mn≤1099511627776)(Cw:hn≤1099511627776):
 Calls Tryz.prog 55 #[cd s.1 s.2.2.1 la ln lc ma mn mc ha hn hc] w fun e w'=>∃gl cl gm cm gh ch F,e=.returned (cd s.1 s.2.2.1 (some ⟨gl,0,none⟩) ln cl (some ⟨gm,0,none⟩) mn cm (some ⟨gh,0,none⟩) hn ch)∧
  dn w' (some ⟨gl,0,none⟩) ln cl (some ⟨gm,0,none⟩) mn cm (some ⟨gh,0,none⟩) hn ch s F∧(∀k∈F,w.heap.size≤k)∧Below w.heap.size w w':=by
 cases ma with
 | none=>exact DC la ln lc mn mc ha hn hc s w h hf we wu jA Cw
 | some ad=>exact Bi la ln lc ad mn mc ha hn hc s w h hf we wu jA Cw
end bm
end Go.Proofs.YtmibabclefgljaaGreat
