/- Draw PairW DrawP DrawQ DrawG DrawO DrawW DrawX RecD -/
import Derived.Test.YtmibabclefgljaaGreatRows
import Derived.Test.YtmibabclefgljaaGreatShaa
import Derived.Test.YtmibabclefgljaaGreatShac
import Derived.Test.YtmibabclefgljaaGreatShaf
import Derived.Test.YtmibabclefgljaaGreatSham
set_option linter.unusedVariables false
set_option linter.unusedSimpArgs false
set_option maxRecDepth 100000
set_option maxHeartbeats 4000000
namespace Go.Proofs.YtmibabclefgljaaGreat
namespace draw
open Go.RowKit base
def gY(w0 w:World)(gc:Nat)(a:Option Addr)(len cap:Nat)(code:List UInt8):Prop:=
 Sl w0 a len code∧Below w0.heap.size w0 w∧w0.heap.size≤gc∧len≤1099511627776∧
 ∃i h:Int,0≤i∧i≤len∧w.heap[gc]? =some (.cells #[.slice a len cap,.int .i64 i,.int .i64 h] 109 (0,0))
theorem rv(z:Int):0≤bits .and .i64 z 255∧bits .and .i64 z 255≤255:=by
 have e:bits .and .i64 z 255=IntKind.i64.wrap (((BitVec.ofInt 64 z) &&& (BitVec.ofInt 64 255)).toNat:Int):=rfl;have h:((BitVec.ofInt 64 z) &&& (BitVec.ofInt 64 255)).toNat≤255:=by
  rw[BitVec.toNat_and];exact Nat.le_trans Nat.and_le_right (by decide)
 rw[e,lX _ (by omega) (by omega)]
 omega
theorem JM{w0 w w1:World}{gc:Nat}{a:Option Addr}{len cap:Nat}{code:List UInt8}{i h:Int}(hS:Sl w0 a len code)(hB:Below w0.heap.size w0 w)(xJ:w0.heap.size≤gc)(sw:len≤1099511627776)
 (Cy:0≤i) (Ct:i≤len) (hg:w.grownBy w1 (some gc)) (hr:w1.heap[gc]? =some (.cells #[.slice a len cap,.int .i64 i,.int .i64 h] 109 (0,0))):gY w0 w1 gc a len cap code:=
 ⟨hS,hB.grown hg hB.size (fun k e=>by cases e; exact xJ),xJ,sw,i,h,Cy,Ct,hr⟩
theorem E2(w0 w:World)(gc:Nat)(a:Option Addr)(len cap:Nat)(code:List UInt8)(h:gY w0 w gc a len cap code):
 Calls Tryz.prog 103 #[.pointer (some ⟨gc,0,none⟩)] w fun e w'=>∃x:Int,0≤x∧x≤255∧e=.returned (.int .i64 x)∧gY w0 w' gc a len cap code∧w.grownBy w' (some gc):=by
 obtain⟨hS,hB,xJ,sw,i,hh,Cy,Ct,pK⟩:=h;have c0:w.cell? ⟨gc,0,none⟩=some (.slice a len cap):=jB pK 0 _ rfl;have c1:w.cell? ⟨gc,1,none⟩=some (.int .i64 i):=jB pK 1 _ rfl;have c2:w.cell? ⟨gc,2,none⟩=some (.int .i64 hh):=jB pK 2 _ rfl;have f1:w.frozen? ⟨gc,1,none⟩=false:=frozen_of_row w gc 1 _ _ pK;have f2:w.frozen? ⟨gc,2,none⟩=false:=frozen_of_row w gc 2 _ _ pK;have JN:=Hid.mk' pK;clear pK;by_cases bn:i<len
 · obtain⟨I,rfl⟩:=Int.eq_ofNat_of_zero_le Cy;have ZX:=hS.below hB;have Xa:I<code.length:=by have:=hS.1; omega
   obtain⟨b,off,ha,cZ⟩:=hS.2.2 (by omega)
   subst ha;have pY:b<w0.heap.size:=World.block_lt_of_cell? w0 _ (cZ I Xa);have bh:¬b=gc:=by omega
   have Xb:¬gc=b:=by omega
   generalize NO:code[I].toNat=c;have ZY:c<256:=by rw[←NO]; exact UInt8.toNat_lt _
   have c3:w.cell? ⟨b,off+I,none⟩=some (.int .u8 (c:Int)):=by rw[ZX.at I Xa,NO]
   have hi3:(I:Int)<(len:Int):=bn;clear cZ NO Xa ZX;aj Tryz.func103,Tryz.ntmps103;bf;bE (fail)
   bf;bE (fail)
   bf;bE (fail)
   bf;an;have hs:=bK JN.out 2 (.int .i64 (wrap64 (wrap64 (hh * 6364136223846793005)+1442695040888963407)));have pQ:=fun n=>bK (w:=(w.setCell ⟨gc,2,none⟩ (.int .i64 (wrap64 (wrap64 (hh * 6364136223846793005)+1442695040888963407)))).drewN n) hs.1 1 (.int .i64 ((I:Int)+1))
   have hg:=fun n=>az (jC hs.2 n) (pQ n).2
   exact⟨_,(rv _).1,(rv _).2,rfl,JM hS hB xJ sw (by omega) (by omega) (hg _) (pQ _).1,hg _⟩
 · aj Tryz.func103,Tryz.ntmps103;bf;bE (fail)
   bf;bE (fail)
   bf;an;have hs:=bK JN.out 2 (.int .i64 (wrap64 (wrap64 (hh * 6364136223846793005)+1442695040888963407)));exact⟨_,(rv _).1,(rv _).2,rfl,JM hS hB xJ sw Cy Ct (jC (jC hs.2 _) _) hs.1,jC (jC hs.2 _) _⟩
theorem gY.lt{w0 w:World}{gc:Nat}{a:Option Addr}{len cap:Nat}{code:List UInt8}(h:gY w0 w gc a len cap code):gc<w.heap.size:=by
 obtain⟨_,_,_,_,i,hh,_,_,hr⟩:=h;exact(Array.getElem?_eq_some_iff.1 hr).1
theorem gY.fp{w0 w:World}{gc:Nat}{a:Option Addr}{len cap:Nat}{code:List UInt8}(h:gY w0 w gc a len cap code):Below w0.heap.size w0 w:=h.2.1
theorem gY.ge{w0 w:World}{gc:Nat}{a:Option Addr}{len cap:Nat}{code:List UInt8}(h:gY w0 w gc a len cap code):w0.heap.size≤gc:=h.2.2.1
theorem gY.grown{w0 w w1:World}{gc:Nat}{a:Option Addr}{len cap:Nat}{code:List UInt8}{row:Option Nat}(h:gY w0 w gc a len cap code)(hg:w.grownBy w1 row)(bh:some gc≠row)(hr:∀k,row=some k→w0.heap.size≤k):gY w0 w1 gc a len cap code:=by
 have bn:=h.lt;obtain⟨hS,hB,xJ,sw,i,hh,Cy,Ct,pK⟩:=h;exact⟨hS,hB.grown hg hB.size hr,xJ,sw,i,hh,Cy,Ct,by rw[hg.block gc bn bh]; exact pK⟩
theorem gY.below{w0 w w1:World}{gc:Nat}{a:Option Addr}{len cap:Nat}{code:List UInt8}(h:gY w0 w gc a len cap code)(hb:Below w.heap.size w w1):gY w0 w1 gc a len cap code:=
 h.grown (row:=none) ⟨hb.os,hb.tape,hb.output,hb.size,fun k hk _=>hb.block k hk⟩ (by simp) (fun k e=>by cases e)
theorem cH(w0 w:World)(gc:Nat)(a:Option Addr)(len cap:Nat)(code:List UInt8)(n:Int)(h:gY w0 w gc a len cap code)(hn:0<n)(pE:n≤1000000000):
 Calls Tryz.prog 68 #[.pointer (some ⟨gc,0,none⟩),.int .i64 n] w fun e w'=>∃x:Nat,(x:Int)<n∧e=.returned (.int .i64 (x:Int))∧gY w0 w' gc a len cap code∧w.grownBy w' (some gc):=by
 by_cases hs:n≤256
 · aj Tryz.func68,Tryz.ntmps68;ab fail;refine(E2 w0 _ gc a len cap code h).mono ?_;rintro e w1 ⟨x,Pt,Cr,rfl,gL,ij⟩;ab fail;an;have e1:0≤x % n:=Int.emod_nonneg _ (by omega)
   have e2:x % n<n:=Int.emod_lt_of_pos _ hn;exact⟨(x % n).toNat,by omega,gZ (by omega),gL,ij⟩
 · aj Tryz.func68,Tryz.ntmps68;ab fail;refine(E2 w0 _ gc a len cap code h).mono ?_;rintro e w1 ⟨x,Pt,Cr,rfl,gL,ij⟩;ab fail;refine(E2 w0 _ gc a len cap code gL).mono ?_;rintro e w2 ⟨y,zh,Hu,rfl,ei,lU⟩;ab fail;refine(E2 w0 _ gc a len cap code ei).mono ?_;rintro e w3 ⟨z,dE,dD,rfl,fR,kQ⟩;ab fail;an;have e1:0≤(x * 65536+y * 256+z) % n:=Int.emod_nonneg _ (by omega)
   have e2:(x * 65536+y * 256+z) % n<n:=Int.emod_lt_of_pos _ hn;exact⟨((x * 65536+y * 256+z) % n).toNat,by omega,gZ (by omega),fR,az (az ij lU) kQ⟩
theorem vw(w0 w:World)(gc:Nat)(a:Option Addr)(len cap:Nat)(code:List UInt8)(gl n cp:Nat)(zs:Array Value)(mk:Nat × Nat)(h:gY w0 w gc a len cap code)(hr:w.heap[gl]? =some (.cells zs 3 mk))(hz:zs.size=n)(hn:0<n)(pE:n≤1000)(bh:gl≠gc)
 (P:Int→Prop) (hP:∀i,i<n→∃z,zs[i]? =some (.int .i64 z)∧P z):
 Calls Tryz.prog 29 #[.pointer (some ⟨gc,0,none⟩),.slice (some ⟨gl,0,none⟩) n cp] w fun e w'=>∃z:Int,P z∧e=.returned (.int .i64 z)∧gY w0 w' gc a len cap code∧w.grownBy w' (some gc):=by
 aj Tryz.func29,Tryz.ntmps29;ab fail;refine(cH w0 _ gc a len cap code _ h (by omega) (by omega)).mono ?_
 rintro e w1 ⟨x,hx,rfl,gL,ij⟩;have ny:gl<w.heap.size:=(Array.getElem?_eq_some_iff.1 hr).1;obtain⟨z,dD,cO⟩:=hP x (by omega)
 have c1:w1.cell? ⟨gl,x,none⟩=some (.int .i64 z):=by
  have e1:=ij.block gl ny (by simpa using bh)
  rw[hr] at e1;exact jB e1 x _ dD
 ab fail;an;exact⟨z,cO,rfl,gL,ij⟩
theorem Mz(w0 w:World)(gc:Nat)(a:Option Addr)(len cap:Nat)(code:List UInt8)(gl n cp:Nat)(zs:Array Value)(mk:Nat × Nat)(h:gY w0 w gc a len cap code)(hr:w.heap[gl]? =some (.cells zs 9 mk))(hz:zs.size=n)(hn:0<n)(pE:n≤1000)(bh:gl≠gc)
 (P:ByteArray→Prop) (hP:∀i,i<n→∃z,zs[i]? =some (.string z)∧P z):
 Calls Tryz.prog 179 #[.pointer (some ⟨gc,0,none⟩),.slice (some ⟨gl,0,none⟩) n cp] w fun e w'=>∃z:ByteArray,P z∧e=.returned (.string z)∧gY w0 w' gc a len cap code∧w.grownBy w' (some gc):=by
 aj Tryz.func179,Tryz.ntmps179;ab fail;refine(cH w0 _ gc a len cap code _ h (by omega) (by omega)).mono ?_
 rintro e w1 ⟨x,hx,rfl,gL,ij⟩;have ny:gl<w.heap.size:=(Array.getElem?_eq_some_iff.1 hr).1;obtain⟨z,dD,cO⟩:=hP x (by omega)
 have c1:w1.cell? ⟨gl,x,none⟩=some (.string z):=by
  have e1:=ij.block gl ny (by simpa using bh)
  rw[hr] at e1;exact jB e1 x _ dD
 ab fail;an;exact⟨z,cO,rfl,gL,ij⟩
theorem SI(w0 w:World)(a:Option Addr)(len cap:Nat)(code:List UInt8)(h0:Sl w0 a len code)(hB:Below w0.heap.size w0 w)(sw:len≤1099511627776):
 Calls Tryz.prog 28 #[.slice a len cap] w fun e w'=>e=.returned (.pointer (some ⟨w.heap.size,0,none⟩))∧gY w0 w' w.heap.size a len cap code∧Below w.heap.size w w':=by
 have hS:=h0.below hB;obtain⟨hl,hm,hc⟩:=id hS;subst hl;aj Tryz.func28,Tryz.ntmps28;bf;jv [3,4] (fun hv i=>∃(k:Nat) (hh:Int),k≤code.length∧i=.int .i64 (k:Int)∧hv=.int .i64 hh) (fun _ i=>code.length - (intOf i).toNat)
 case atStart=>exact⟨0,_,Nat.zero_le _,rfl,rfl⟩
 case round=>
  obtain⟨k,hh,hk,rfl,rfl⟩:=hrel;by_cases bn:k<code.length
  · by_cases h4:k<4000
    · obtain⟨b,off,ha,cZ⟩:=hc (by omega)
      subst ha;have c1:w.cell? ⟨b,off+k,none⟩=some (.int .u8 code[k].toNat):=cZ k bn;have Ct:(k:Int)<(code.length:Int):=by omega
      clear cZ hc;bf;f_
      case rel=>exact⟨k+1,_,by omega,by aF,rfl⟩
      case measure=>simp[intOf]; omega
    · bf;an;exact⟨rfl,⟨h0,hB.alloc hB.size _,hB.size,sw,0,hh,by omega,by omega,heap_alloc_new w _⟩,(Below.refl _ _).alloc (Nat.le_refl _) _⟩
  · bf;an;exact⟨rfl,⟨h0,hB.alloc hB.size _,hB.size,sw,0,hh,by omega,by omega,heap_alloc_new w _⟩,(Below.refl _ _).alloc (Nat.le_refl _) _⟩
end draw
namespace aE
open Go Go.RowKit base
end aE
namespace aE
open Go Go.RowKit base draw
def SJ(N:Nat)(w0 w:World)(gc:Nat)(a:Option Addr)(len cap:Nat)(code:List UInt8)(e:Ending)(w':World):Prop:=
 ∃z:ByteArray,z.size≤N∧e=.returned (.string z)∧gY w0 w' gc a len cap code∧w.grownBy w' (some gc)
theorem iI{w w':World}{o:Obj}{row:Option Nat}(h:(w.alloc o).grownBy w' row):w.grownBy w' row:=az (yG w o row) h
theorem mZ(w0 w:World)(gc:Nat)(a:Option Addr)(len cap:Nat)(code:List UInt8)(n:Int)(h:gY w0 w gc a len cap code)(hn:0<n)(pE:n≤1000000000):
 Calls Tryz.prog 125 #[.pointer (some ⟨gc,0,none⟩),.int .i64 n] w fun e w'=>∃b:Bool,e=.returned (.bool b)∧gY w0 w' gc a len cap code∧w.grownBy w' (some gc):=by
 aj Tryz.func125,Tryz.ntmps125;ab fail;refine(cH w0 _ gc a len cap code n h hn pE).mono ?_;rintro e w1 ⟨x,hx,rfl,gL,ij⟩;ab fail;an;exact⟨_,rfl,gL,ij⟩
theorem JO{w0 w:World}{gc:Nat}{a:Option Addr}{len cap:Nat}{code:List UInt8}(h:gY w0 w gc a len cap code):w.heap.size≠gc:=by have:=h.lt; omega
theorem E3(zs:Array Value)(n:Nat)(N:Nat)(h:(List.range n).all (fun i=>match zs[i]? with | some (.string z)=>decide (z.size≤N) | _=>false)=true):∀i,i<n→∃z,zs[i]? =some (.string z)∧z.size≤N:=by
 intro i hi;have:=List.all_eq_true.1 h i (List.mem_range.2 hi)
 split at this
 · eZ z hz; exact⟨z,hz,of_decide_eq_true this⟩
 · cases this
theorem SK(w0 w:World)(gc:Nat)(a:Option Addr)(len cap:Nat)(code:List UInt8)(h:gY w0 w gc a len cap code):
 Calls Tryz.prog 178 #[.pointer (some ⟨gc,0,none⟩)] w fun e w'=>SJ 13 w0 w gc a len cap code e w':=by
 aj Tryz.func178,Tryz.ntmps178;ab fail;have bh:=JO h;refine(Mz w0 _ gc a len cap code w.heap.size 7 _ _ _ (h.below ((Below.refl _ _).alloc (Nat.le_refl _) _)) (heap_alloc_new w _) rfl (by omega) (by omega) bh (fun z=>z.size≤13) (E3 _ 7 13 (by aa))).mono ?_
 rintro e w1 ⟨z,hz,rfl,gL,ij⟩;ab fail;an;exact⟨z,hz,rfl,gL,iI ij⟩
theorem JP(w0 w:World)(gc:Nat)(a:Option Addr)(len cap:Nat)(code:List UInt8)(h:gY w0 w gc a len cap code):
 Calls Tryz.prog 162 #[.pointer (some ⟨gc,0,none⟩)] w fun e w'=>SJ 13 w0 w gc a len cap code e w':=by
 aj Tryz.func162,Tryz.ntmps162;ab fail;refine(mZ w0 _ gc a len cap code _ h (by omega) (by omega)).mono ?_
 rintro e w1 ⟨b,rfl,gL,ij⟩;cases b
 · ab fail;refine(SK w0 _ gc a len cap code gL).mono ?_;rintro e w2 ⟨z,hz,rfl,ei,lU⟩;ab fail;an;exact⟨z,hz,rfl,ei,az ij lU⟩
 · ab fail;have bh:=JO gL;refine(Mz w0 _ gc a len cap code w1.heap.size 5 _ _ _ (gL.below ((Below.refl _ _).alloc (Nat.le_refl _) _)) (heap_alloc_new w1 _) rfl (by omega) (by omega) bh (fun z=>z.size≤13) (E3 _ 5 13 (by aa))).mono ?_
   rintro e w2 ⟨z,hz,rfl,ei,lU⟩;ab fail;an;exact⟨z,hz,rfl,ei,az ij (iI lU)⟩
theorem SL{n:Nat}(h:n≤21):n≤maxLen:=Nat.le_trans h (by decide)
end aE
namespace aE
open Go Go.RowKit base draw
end aE
namespace aE
open Go Go.RowKit base draw
def E4(z:ByteArray):Bool:=gS z && Op.bytesLess z.data.toList [122,122]
theorem JQ{z:ByteArray}(h:E4 z=true):gS z=true:=(Bool.and_eq_true_iff.1 h).1
theorem Bs(zs:Array Value)(n:Nat)(f:ByteArray→Bool)(h:(List.range n).all (fun i=>match zs[i]? with | some (.string z)=>f z | _=>false)=true):∀i,i<n→∃z,zs[i]? =some (.string z)∧f z=true:=by
 intro i hi;have:=List.all_eq_true.1 h i (List.mem_range.2 hi)
 split at this
 · eZ z hz; exact⟨z,hz,this⟩
 · cases this
theorem Pu(w0 w:World)(gc:Nat)(a:Option Addr)(len cap:Nat)(code:List UInt8)(h:gY w0 w gc a len cap code):
 Calls Tryz.prog 178 #[.pointer (some ⟨gc,0,none⟩)] w fun e w'=>∃z:ByteArray,E4 z=true∧e=.returned (.string z)∧gY w0 w' gc a len cap code∧w.grownBy w' (some gc):=by
 aj Tryz.func178,Tryz.ntmps178;ab fail;have bh:=JO h;refine(Mz w0 _ gc a len cap code w.heap.size 7 _ _ _ (h.below ((Below.refl _ _).alloc (Nat.le_refl _) _)) (heap_alloc_new w _) rfl (by omega) (by omega) bh (fun z=>E4 z=true) (Bs _ 7 E4 (by aa))).mono ?_
 rintro e w1 ⟨z,hz,rfl,gL,ij⟩;ab fail;an;exact⟨z,hz,rfl,gL,iI ij⟩
end aE
namespace aX
open Go Go.RowKit base aE draw
def fA(o:Od):Bool→List Od→List Od
 | put,[]=>if put=true then[] else[o]
 | put,p::l=>(if(!put && !kN p.2.1 o.2.1)=true then[o] else[])++(if p.2.1=o.2.1 then[] else[p])++fA o (put || !kN p.2.1 o.2.1) l
theorem Gx(o:Od)(l:List Od)(h:∀p∈l,p.2.1≠o.2.1):fA o true l=l:=by
 induction l with
 | nil=>rfl
 | cons p l ih=>
  rw[fA,Bool.true_or,ih (fun q hq=>h q (List.mem_cons_of_mem _ hq)),if_neg (h p List.mem_cons_self)]
  rfl
theorem xY{o p:Od}{b:Bool}{l:List Od}(h:p∈fA o b l):p∈l∨p=o:=by
 induction l generalizing b with
 | nil=>
  rw[fA] at h
  split at h
  · cases h
  · exact .inr (List.mem_singleton.1 h)
 | cons q l ih=>
  rw[fA] at h;rcases List.mem_append.1 h with h1 | h1
  · rcases List.mem_append.1 h1 with h2 | h2
    · split at h2
      · exact .inr (List.mem_singleton.1 h2)
      · cases h2
    · split at h2
      · cases h2
      · exact .inl (by rw[List.mem_singleton.1 h2]; exact List.mem_cons_self)
  · rcases ih h1 with h2 | h2
    · exact .inl (List.mem_cons_of_mem _ h2)
    · exact .inr h2
theorem zt(o:Od)(b:Bool)(l:List Od):(fA o b l).length≤l.length+(if b=true then 0 else 1):=by
 induction l generalizing b with
 | nil=>rw[fA]; cases b <;> simp
 | cons p l ih=>
  rw[fA];have:=ih (b || !kN p.2.1 o.2.1)
  simp only[List.length_append,List.length_cons];have h1:(if p.2.1=o.2.1 then([]:List Od) else[p]).length≤1:=by split <;> simp
  cases b
  · cases h2:kN p.2.1 o.2.1 <;> simp[h2] at this ⊢ <;> omega
  · simp at this ⊢; omega
theorem DN{o:Od}{l:List Od}(h:sO l):sO (fA o false l):=by
 induction l with
 | nil=>exact List.pairwise_singleton _ _
 | cons p l ih=>
  unfold sO at h;rw[List.pairwise_cons] at h;rw[fA];cases hl:kN p.2.1 o.2.1
  · have bh:∀q∈l,q.2.1≠o.2.1:=by
     intro q hq e;have:=h.1 q hq;rw[e,hl] at this;cases this
    rw[show(false || !false)=true from rfl,Gx o l bh]
    by_cases e:p.2.1=o.2.1
    · simp[e];exact List.pairwise_cons.2 ⟨fun q hq=>by rw[←e]; exact h.1 q hq,h.2⟩
    · simp[e];have Cp:kN o.2.1 p.2.1=true:=by
       cases h3:kN o.2.1 p.2.1
       · exact absurd (rY hl h3) e
       · rfl
      refine List.pairwise_cons.2 ⟨fun q hq=>?_,List.pairwise_cons.2 ⟨h.1,h.2⟩⟩
      rcases List.mem_cons.1 hq with rfl | hq
      · exact Cp
      · exact lZ Cp (h.1 q hq)
  · have e:¬p.2.1=o.2.1:=OI hl;simp[e];refine List.pairwise_cons.2 ⟨fun q hq=>?_,ih h.2⟩
    rcases xY hq with h1 | rfl
    · exact h.1 q h1
    · exact hl
theorem xZ{w w':World}{b o1 o2 o3:Nat}{v1 v2 v3:Value}{row:Option Nat}(hg:w.grownBy w' row)(bh:some b≠row)(h:w.cell? ⟨b,o1,none⟩=some v1∧w.cell? ⟨b,o2,none⟩=some v2∧w.cell? ⟨b,o3,none⟩=some v3):w'.cell? ⟨b,o1,none⟩=some v1∧w'.cell? ⟨b,o2,none⟩=some v2∧w'.cell? ⟨b,o3,none⟩=some v3:=
 ⟨hg.cell h.1 bh,hg.cell h.2.1 bh,hg.cell h.2.2 bh⟩
theorem DO(a:Option Addr)(len cap:Nat)(l:List Od)(o:Od)(w:World)(h:dS w a len l)(ho:ed o)(jg:len≤1000):
 Calls Tryz.prog 160 #[.slice a len cap,.agg #[.int .i64 o.1,.string o.2.1,.string o.2.2]] w fun e w'=>
  ∃g' n' aY,e=.returned (.slice (some ⟨g',0,none⟩) n' aY)∧ck w' w.heap.size g' n' aY (fA o false l)∧Below w.heap.size w w':=by
 obtain⟨i0,jX,dE,dD,cO⟩:=info_parts sQ;have hl:=h.1;have fk:=h.2.2.1;subst hl;generalize hR:fA o false l=R;have HR:=Hid.mk' hR;clear hR;have bw:Below w.heap.size w (w.alloc (.cells #[.int .i64 o.1,.string o.2.1,.string o.2.2] 121)):=(Below.refl _ _).alloc (Nat.le_refl _) _;have zZ:=l0 (w.alloc (.cells #[.int .i64 o.1,.string o.2.1,.string o.2.2] 121)) (w.heap.size+1) (by simp)
 have DP:(w.alloc (.cells #[.int .i64 o.1,.string o.2.1,.string o.2.2] 121)).heap.size=w.heap.size+1:=by simp
 rw[DP] at zZ;have yK:=bw.alloc (aS _ _ (Nat.le_refl _)) (.cells #[] 121);obtain⟨wz,Hn⟩:∃wz,(w.alloc (.cells #[.int .i64 o.1,.string o.2.1,.string o.2.2] 121)).alloc (.cells #[] 121)=wz:=⟨_,rfl⟩;have Rf:wz.cell? ⟨w.heap.size,0,none⟩=some (.int .i64 o.1)∧wz.cell? ⟨w.heap.size,1,none⟩=some (.string o.2.1)∧wz.cell? ⟨w.heap.size,2,none⟩=some (.string o.2.2):=by
  rw[←Hn];refine⟨?_,?_,?_⟩ <;> simp[go_sem]
 rw[Hn] at zZ yK;have Wl:=Hid.mk' Hn;clear Hn bw DP;aj Tryz.func160,Tryz.ntmps160;ab (ak; fail)
 rw[Wl.out];clear Wl;aN [5,6,7] (fun v pv i wr=>∃(k g n cp:Nat) (put:Bool) (acc:List Od),k≤l.length∧n≤2 * k∧i=.int .i64 (k:Int)∧pv=.bool put∧v=.slice (some ⟨g,0,none⟩) n cp∧acc++fA o put (l.drop k)=R∧ck wr (w.heap.size+1) g n cp acc∧(wr.cell? ⟨w.heap.size,0,none⟩=some (.int .i64 o.1)∧wr.cell? ⟨w.heap.size,1,none⟩=some (.string o.2.1)∧wr.cell? ⟨w.heap.size,2,none⟩=some (.string o.2.2))∧Below w.heap.size w wr) (fun _ _ i _=>l.length - (intOf i).toNat)
 case atStart=>exact⟨0,w.heap.size+1,0,0,false,[],Nat.zero_le _,Nat.le_refl _,rfl,rfl,rfl,HR.out,zZ,Rf,yK⟩
 case round=>
  clear zZ Rf yK HR;obtain⟨k,g,n,cp,put,acc,hk,hn,rfl,rfl,rfl,hr,hO,hC,hB⟩:=hrel;by_cases bn:k<l.length
  · obtain⟨b,off,ha,_⟩:=h.2.2.2 (by omega)
    subst ha;have NO:=(h.below hB).cells k bn;have mH:=fk _ (List.getElem_mem bn);have fZ:(k:Int)<(l.length:Int):=by omega
    rw[List.drop_eq_getElem_cons bn,fA] at hr;have HKP:Hid (∀wx,Below w.heap.size w wx→nU wx b off l):=fun wx hx=>(h.below hx).cells
    have Rg:Hid (∀wx,Below w.heap.size w wx→wx.cell? ⟨b,off+k * 3,none⟩=some (.int .i64 l[k].1)∧wx.cell? ⟨b,off+k * 3+1,none⟩=some (.string l[k].2.1)∧wx.cell? ⟨b,off+k * 3+2,none⟩=some (.string l[k].2.2)):=fun wx hx=>(h.below hx).cells k bn
    clear HKP;generalize l[k]=p at *;have xe:=hO;have qx:=hB;have mo:=hC;have lG:=NO;clear hO hB hC NO;by_cases he:p.2.1=o.2.1
    · rw[if_pos he] at hr;have SM:kN p.2.1 o.2.1=false:=by rw[he]; exact mK _
      rw[SM] at hr;have Lt:Op.bytesLess o.2.1.toList o.2.1.toList=false:=mK _;have hq:(o.2.1.toList==o.2.1.toList)=true:=beq_self_eq_true _;rw[he] at Rg lG;clear SM;cases put
      · have HF:Hid ((acc++[o])++fA o true (l.drop (k+1))=R):=by show _=_; rw[←hr]; simp
        clear hr;have Ey:=last.On.cell (B:=wr.heap.size) lG.2.1 (World.block_lt_of_cell? _ _ lG.2.1);have MA:=last.On.cell (B:=wr.heap.size) mo.2.1 (World.block_lt_of_cell? _ _ mo.2.1);have ry:=last.On.iq wr.heap.size wr;ab (ak; fail)
        refine last.ar wr.heap.size (by aa) (by aa) ?_
        repeat(ai ((fail)))
        refine wpQuiet_nil ?_;intro wq bq;obtain⟨xq,bq⟩:=bq;subst bq;have hE:Below wr.heap.size wr xq.w:=xq.2;generalize xq.w=w4 at *;have mq:=xe.below hE;have m5:=qx.trans (hE.mono qx.size);have jJ:=dz hE mo;have nJ:=dz hE lG;clear Ey MA ry hE xe qx mo lG;have x0:=jJ.1;have x1:=jJ.2.1;have x2:=jJ.2.2;have Pv:n+1≤maxLen:=by unfold maxLen; omega
        have Pw:(n+1) * 40≤140737488355328:=by omega
        have Xc:=mq.lt;have Px:w.heap.size+1≤w4.heap.size:=by omega
        have JR:=m5.size;ab (ak; refine wpList_append_own _ rfl _ _ 73 rfl (w.heap.size+1) 121 i0 (.agg #[.int .i64 0,.string ⟨#[]⟩,.string ⟨#[]⟩]) 3 40 Tryz.underlying73 jX dE dD cO rfl (by decide) _ _ _ rfl (mq.2.2.alloc _) ⟨w4.heap.size,0,none⟩ 1 1 (aW [o]) rfl rfl (du _ _ _) (bM _) Pv Pw (aS _ _ Px) ?_)
        intro v5 w5 aK aI db;obtain⟨g5,wj,hv,eD⟩:=iD mq.1 mq.2.1 ho db aK;subst hv;have ez:Below w.heap.size w w5:=(m5.alloc JR _).grown aI (aS _ _ JR) (fun k e=>by simp[Value.ownBlock] at e; omega)
        have Py:=xZ aI (by simp[Value.ownBlock]; omega) (dz ((Below.refl _ _).alloc (Nat.le_refl _) (.cells #[.int .i64 o.1,.string o.2.1,.string o.2.2] 121)) jJ)
        clear aK aI db;have SN:=Rg.out _ ez;have JS:=eD;have DQ:=ez;have zu:=Py;have zv:=SN;clear eD ez Py SN x0 x1 x2 mq m5 jJ nJ;have MB:=last.On.cell (B:=w5.heap.size) zv.2.1 (World.block_lt_of_cell? _ _ zv.2.1);have MC:=last.On.cell (B:=w5.heap.size) zu.2.1 (World.block_lt_of_cell? _ _ zu.2.1);have rz:=last.On.iq w5.heap.size w5;ab (ak; fail)
        refine last.ar w5.heap.size (by aa) (by aa) ?_
        repeat(ai ((fail)))
        refine wpQuiet_nil ?_;intro wq bq;obtain⟨xq,bq⟩:=bq;subst bq;have iK:Below w5.heap.size w5 xq.w:=xq.2;generalize xq.w=w6 at *;have lH:=JS.below iK;have qy:=DQ.trans (iK.mono DQ.size);have rA:=dz iK zu;have mr:=dz iK zv;clear MB MC rz iK JS DQ zu zv;have HX:=Hid.mk' rA;have HY:=Hid.mk' mr;clear rA mr;ab (ak; fail)
        aA
        case rel=>exact⟨k+1,g5,n+1,wj,true,acc++[o],by omega,by omega,by aF,rfl,rfl,HF.out,lH,HX.out,qy⟩
        case measure=>simp[intOf]; omega
      · have HF:Hid (acc++fA o true (l.drop (k+1))=R):=by show _=_; rw[←hr]; simp
        clear hr;have Ey:=last.On.cell (B:=wr.heap.size) lG.2.1 (World.block_lt_of_cell? _ _ lG.2.1);have MA:=last.On.cell (B:=wr.heap.size) mo.2.1 (World.block_lt_of_cell? _ _ mo.2.1);have ry:=last.On.iq wr.heap.size wr;ab (ak; fail)
        refine last.ar wr.heap.size (by aa) (by aa) ?_
        repeat(ai ((fail)))
        refine wpQuiet_nil ?_;intro wq bq;obtain⟨xq,bq⟩:=bq;subst bq;have hE:Below wr.heap.size wr xq.w:=xq.2;generalize xq.w=w4 at *;have mq:=xe.below hE;have m5:=qx.trans (hE.mono qx.size);have jJ:=dz hE mo;have nJ:=dz hE lG;clear Ey MA ry hE xe qx mo lG;have MB:=last.On.cell (B:=w4.heap.size) nJ.2.1 (World.block_lt_of_cell? _ _ nJ.2.1);have MC:=last.On.cell (B:=w4.heap.size) jJ.2.1 (World.block_lt_of_cell? _ _ jJ.2.1);have rz:=last.On.iq w4.heap.size w4;ab (ak; fail)
        refine last.ar w4.heap.size (by aa) (by aa) ?_
        repeat(ai ((fail)))
        refine wpQuiet_nil ?_;intro wq bq;obtain⟨xq,bq⟩:=bq;subst bq;have iK:Below w4.heap.size w4 xq.w:=xq.2;generalize xq.w=w6 at *;have lH:=mq.below iK;have qy:=m5.trans (iK.mono m5.size);have rA:=dz iK jJ;have mr:=dz iK nJ;clear MB MC rz iK mq m5 jJ nJ;have HX:=Hid.mk' rA;have HY:=Hid.mk' mr;clear rA mr;ab (ak; fail)
        aA
        case rel=>exact⟨k+1,g,n,cp,true,acc,by omega,by omega,by aF,rfl,rfl,HF.out,lH,HX.out,qy⟩
        case measure=>simp[intOf]; omega
    · rw[if_neg he] at hr;have hq:=ef he;cases put
      · cases ue:kN p.2.1 o.2.1
        · rw[ue] at hr;have HF:Hid ((acc++[o]++[p])++fA o true (l.drop (k+1))=R):=by show _=_; rw[←hr]; simp
          have Lt:Op.bytesLess p.2.1.toList o.2.1.toList=false:=ue;clear hr ue;have Ey:=last.On.cell (B:=wr.heap.size) lG.2.1 (World.block_lt_of_cell? _ _ lG.2.1);have MA:=last.On.cell (B:=wr.heap.size) mo.2.1 (World.block_lt_of_cell? _ _ mo.2.1);have ry:=last.On.iq wr.heap.size wr;ab (ak; fail)
          refine last.ar wr.heap.size (by aa) (by aa) ?_
          repeat(ai ((fail)))
          refine wpQuiet_nil ?_;intro wq bq;obtain⟨xq,bq⟩:=bq;subst bq;have hE:Below wr.heap.size wr xq.w:=xq.2;generalize xq.w=w4 at *;have mq:=xe.below hE;have m5:=qx.trans (hE.mono qx.size);have jJ:=dz hE mo;have nJ:=dz hE lG;clear Ey MA ry hE xe qx mo lG;have x0:=jJ.1;have x1:=jJ.2.1;have x2:=jJ.2.2;have Pv:n+1≤maxLen:=by unfold maxLen; omega
          have Pw:(n+1) * 40≤140737488355328:=by omega
          have Xc:=mq.lt;have Px:w.heap.size+1≤w4.heap.size:=by omega
          have JR:=m5.size;ab (ak; refine wpList_append_own _ rfl _ _ 73 rfl (w.heap.size+1) 121 i0 (.agg #[.int .i64 0,.string ⟨#[]⟩,.string ⟨#[]⟩]) 3 40 Tryz.underlying73 jX dE dD cO rfl (by decide) _ _ _ rfl (mq.2.2.alloc _) ⟨w4.heap.size,0,none⟩ 1 1 (aW [o]) rfl rfl (du _ _ _) (bM _) Pv Pw (aS _ _ Px) ?_)
          intro v5 w5 aK aI db;obtain⟨g5,wj,hv,eD⟩:=iD mq.1 mq.2.1 ho db aK;subst hv;have ez:Below w.heap.size w w5:=(m5.alloc JR _).grown aI (aS _ _ JR) (fun k e=>by simp[Value.ownBlock] at e; omega)
          have Py:=xZ aI (by simp[Value.ownBlock]; omega) (dz ((Below.refl _ _).alloc (Nat.le_refl _) (.cells #[.int .i64 o.1,.string o.2.1,.string o.2.2] 121)) jJ)
          clear aK aI db;have SN:=Rg.out _ ez;have JS:=eD;have DQ:=ez;have zu:=Py;have zv:=SN;clear eD ez Py SN x0 x1 x2 mq m5 jJ nJ;have Zo:n+1≤2 * k+1:=by omega
          generalize n+1=m at *;have MB:=last.On.cell (B:=w5.heap.size) zv.2.1 (World.block_lt_of_cell? _ _ zv.2.1);have MC:=last.On.cell (B:=w5.heap.size) zu.2.1 (World.block_lt_of_cell? _ _ zu.2.1);have rz:=last.On.iq w5.heap.size w5;ab (ak; fail)
          refine last.ar w5.heap.size (by aa) (by aa) ?_
          repeat(ai ((fail)))
          refine wpQuiet_nil ?_;intro wq bq;obtain⟨xq,bq⟩:=bq;subst bq;have iK:Below w5.heap.size w5 xq.w:=xq.2;generalize xq.w=w6 at *;have lH:=JS.below iK;have qy:=DQ.trans (iK.mono DQ.size);have rA:=dz iK zu;have mr:=dz iK zv;clear MB MC rz iK JS DQ zu zv;have x0:=mr.1;have x1:=mr.2.1;have x2:=mr.2.2;have JT:m+1≤maxLen:=by unfold maxLen; omega
          have JU:(m+1) * 40≤140737488355328:=by omega
          have SO:=lH.lt;have JV:w.heap.size+1≤w6.heap.size:=by omega
          have Bt:=qy.size;ab (ak; refine wpList_append_own _ rfl _ _ 73 rfl (w.heap.size+1) 121 i0 (.agg #[.int .i64 0,.string ⟨#[]⟩,.string ⟨#[]⟩]) 3 40 Tryz.underlying73 jX dE dD cO rfl (by decide) _ _ _ rfl (lH.2.2.alloc _) ⟨w6.heap.size,0,none⟩ 1 1 (aW [p]) rfl rfl (du _ _ _) (bM _) JT JU (aS _ _ JV) ?_)
          intro v7 w7 aK aI db;obtain⟨g7,Ll,hv,r9⟩:=iD lH.1 lH.2.1 mH db aK;subst hv;have jd:Below w.heap.size w w7:=(qy.alloc Bt _).grown aI (aS _ _ Bt) (fun k e=>by simp[Value.ownBlock] at e; omega)
          have NP:=xZ aI (by simp[Value.ownBlock]; omega) (dz ((Below.refl _ _).alloc (Nat.le_refl _) (.cells #[.int .i64 p.1,.string p.2.1,.string p.2.2] 121)) rA)
          clear aK aI db;have NQ:=Rg.out _ jd;have JW:=r9;have JX:=jd;have Bu:=NP;have Bv:=NQ;clear r9 jd NP NQ x0 x1 x2 lH qy rA mr;have HX:=Hid.mk' Bu;have HY:=Hid.mk' Bv;clear Bu Bv;ab (ak; fail)
          aA
          case rel=>exact⟨k+1,g7,m+1,Ll,true,acc++[o]++[p],by omega,by omega,by aF,rfl,rfl,HF.out,JW,HX.out,JX⟩
          case measure=>simp[intOf]; omega
        · rw[ue] at hr;have HF:Hid ((acc++[p])++fA o false (l.drop (k+1))=R):=by show _=_; rw[←hr]; simp
          have Lt:Op.bytesLess p.2.1.toList o.2.1.toList=true:=ue;clear hr ue;have Ey:=last.On.cell (B:=wr.heap.size) lG.2.1 (World.block_lt_of_cell? _ _ lG.2.1);have MA:=last.On.cell (B:=wr.heap.size) mo.2.1 (World.block_lt_of_cell? _ _ mo.2.1);have ry:=last.On.iq wr.heap.size wr;ab (ak; fail)
          refine last.ar wr.heap.size (by aa) (by aa) ?_
          repeat(ai ((fail)))
          refine wpQuiet_nil ?_;intro wq bq;obtain⟨xq,bq⟩:=bq;subst bq;have hE:Below wr.heap.size wr xq.w:=xq.2;generalize xq.w=w4 at *;have mq:=xe.below hE;have m5:=qx.trans (hE.mono qx.size);have jJ:=dz hE mo;have nJ:=dz hE lG;clear Ey MA ry hE xe qx mo lG;have MB:=last.On.cell (B:=w4.heap.size) nJ.2.1 (World.block_lt_of_cell? _ _ nJ.2.1);have MC:=last.On.cell (B:=w4.heap.size) jJ.2.1 (World.block_lt_of_cell? _ _ jJ.2.1);have rz:=last.On.iq w4.heap.size w4;ab (ak; fail)
          refine last.ar w4.heap.size (by aa) (by aa) ?_
          repeat(ai ((fail)))
          refine wpQuiet_nil ?_;intro wq bq;obtain⟨xq,bq⟩:=bq;subst bq;have iK:Below w4.heap.size w4 xq.w:=xq.2;generalize xq.w=w6 at *;have lH:=mq.below iK;have qy:=m5.trans (iK.mono m5.size);have rA:=dz iK jJ;have mr:=dz iK nJ;clear MB MC rz iK mq m5 jJ nJ;have x0:=mr.1;have x1:=mr.2.1;have x2:=mr.2.2;have JT:n+1≤maxLen:=by unfold maxLen; omega
          have JU:(n+1) * 40≤140737488355328:=by omega
          have SO:=lH.lt;have JV:w.heap.size+1≤w6.heap.size:=by omega
          have Bt:=qy.size;ab (ak; refine wpList_append_own _ rfl _ _ 73 rfl (w.heap.size+1) 121 i0 (.agg #[.int .i64 0,.string ⟨#[]⟩,.string ⟨#[]⟩]) 3 40 Tryz.underlying73 jX dE dD cO rfl (by decide) _ _ _ rfl (lH.2.2.alloc _) ⟨w6.heap.size,0,none⟩ 1 1 (aW [p]) rfl rfl (du _ _ _) (bM _) JT JU (aS _ _ JV) ?_)
          intro v7 w7 aK aI db;obtain⟨g7,Ll,hv,r9⟩:=iD lH.1 lH.2.1 mH db aK;subst hv;have jd:Below w.heap.size w w7:=(qy.alloc Bt _).grown aI (aS _ _ Bt) (fun k e=>by simp[Value.ownBlock] at e; omega)
          have NP:=xZ aI (by simp[Value.ownBlock]; omega) (dz ((Below.refl _ _).alloc (Nat.le_refl _) (.cells #[.int .i64 p.1,.string p.2.1,.string p.2.2] 121)) rA)
          clear aK aI db;have NQ:=Rg.out _ jd;have JW:=r9;have JX:=jd;have Bu:=NP;have Bv:=NQ;clear r9 jd NP NQ x0 x1 x2 lH qy rA mr;have HX:=Hid.mk' Bu;have HY:=Hid.mk' Bv;clear Bu Bv;ab (ak; fail)
          aA
          case rel=>exact⟨k+1,g7,n+1,Ll,false,acc++[p],by omega,by omega,by aF,rfl,rfl,HF.out,JW,HX.out,JX⟩
          case measure=>simp[intOf]; omega
      · have HF:Hid ((acc++[p])++fA o true (l.drop (k+1))=R):=by show _=_; rw[←hr]; simp
        clear hr;have Ey:=last.On.cell (B:=wr.heap.size) lG.2.1 (World.block_lt_of_cell? _ _ lG.2.1);have MA:=last.On.cell (B:=wr.heap.size) mo.2.1 (World.block_lt_of_cell? _ _ mo.2.1);have ry:=last.On.iq wr.heap.size wr;ab (ak; fail)
        refine last.ar wr.heap.size (by aa) (by aa) ?_
        repeat(ai ((fail)))
        refine wpQuiet_nil ?_;intro wq bq;obtain⟨xq,bq⟩:=bq;subst bq;have hE:Below wr.heap.size wr xq.w:=xq.2;generalize xq.w=w4 at *;have mq:=xe.below hE;have m5:=qx.trans (hE.mono qx.size);have jJ:=dz hE mo;have nJ:=dz hE lG;clear Ey MA ry hE xe qx mo lG;have MB:=last.On.cell (B:=w4.heap.size) nJ.2.1 (World.block_lt_of_cell? _ _ nJ.2.1);have MC:=last.On.cell (B:=w4.heap.size) jJ.2.1 (World.block_lt_of_cell? _ _ jJ.2.1);have rz:=last.On.iq w4.heap.size w4;ab (ak; fail)
        refine last.ar w4.heap.size (by aa) (by aa) ?_
        repeat(ai ((fail)))
        refine wpQuiet_nil ?_;intro wq bq;obtain⟨xq,bq⟩:=bq;subst bq;have iK:Below w4.heap.size w4 xq.w:=xq.2;generalize xq.w=w6 at *;have lH:=mq.below iK;have qy:=m5.trans (iK.mono m5.size);have rA:=dz iK jJ;have mr:=dz iK nJ;clear MB MC rz iK mq m5 jJ nJ;have x0:=mr.1;have x1:=mr.2.1;have x2:=mr.2.2;have JT:n+1≤maxLen:=by unfold maxLen; omega
        have JU:(n+1) * 40≤140737488355328:=by omega
        have SO:=lH.lt;have JV:w.heap.size+1≤w6.heap.size:=by omega
        have Bt:=qy.size;ab (ak; refine wpList_append_own _ rfl _ _ 73 rfl (w.heap.size+1) 121 i0 (.agg #[.int .i64 0,.string ⟨#[]⟩,.string ⟨#[]⟩]) 3 40 Tryz.underlying73 jX dE dD cO rfl (by decide) _ _ _ rfl (lH.2.2.alloc _) ⟨w6.heap.size,0,none⟩ 1 1 (aW [p]) rfl rfl (du _ _ _) (bM _) JT JU (aS _ _ JV) ?_)
        intro v7 w7 aK aI db;obtain⟨g7,Ll,hv,r9⟩:=iD lH.1 lH.2.1 mH db aK;subst hv;have jd:Below w.heap.size w w7:=(qy.alloc Bt _).grown aI (aS _ _ Bt) (fun k e=>by simp[Value.ownBlock] at e; omega)
        have NP:=xZ aI (by simp[Value.ownBlock]; omega) (dz ((Below.refl _ _).alloc (Nat.le_refl _) (.cells #[.int .i64 p.1,.string p.2.1,.string p.2.2] 121)) rA)
        clear aK aI db;have NQ:=Rg.out _ jd;have JW:=r9;have JX:=jd;have Bu:=NP;have Bv:=NQ;clear r9 jd NP NQ x0 x1 x2 lH qy rA mr;have HX:=Hid.mk' Bu;have HY:=Hid.mk' Bv;clear Bu Bv;ab (ak; fail)
        aA
        case rel=>exact⟨k+1,g7,n+1,Ll,true,acc++[p],by omega,by omega,by aF,rfl,rfl,HF.out,JW,HX.out,JX⟩
        case measure=>simp[intOf]; omega
  · have hd:l.drop k=[]:=List.drop_eq_nil_of_le (by omega)
    rw[hd,fA] at hr;obtain⟨e0,e1,e2⟩:=hC;cases put
    · have HF:Hid (acc++[o]=R):=by show _=_; simpa using hr
      clear hr hd;have Xd:n+1≤maxLen:=by unfold maxLen; omega
      have Xe:(n+1) * 40≤140737488355328:=by omega
      have Gy:=hO.lt;have yM:w.heap.size+1≤wr.heap.size:=by omega
      have SP:=hB.size;ab (ak; refine wpList_append_own _ rfl _ _ 73 rfl (w.heap.size+1) 121 i0 (.agg #[.int .i64 0,.string ⟨#[]⟩,.string ⟨#[]⟩]) 3 40 Tryz.underlying73 jX dE dD cO rfl (by decide) _ _ _ rfl (hO.2.2.alloc _) ⟨wr.heap.size,0,none⟩ 1 1 (aW [o]) rfl rfl (du _ _ _) (bM _) Xd Xe (aS _ _ yM) ?_)
      intro v3 w3 aK aI db;obtain⟨g3,cp3,hv,ew⟩:=iD hO.1 hO.2.1 ho db aK;subst hv;have cY:Below w.heap.size w w3:=(hB.alloc SP _).grown aI (aS _ _ SP) (fun k e=>by simp[Value.ownBlock] at e; omega)
      have Xf:=xZ aI (by simp[Value.ownBlock]; omega) (dz ((Below.refl _ _).alloc (Nat.le_refl _) (.cells #[.int .i64 o.1,.string o.2.1,.string o.2.2] 121)) ⟨e0,e1,e2⟩)
      clear aK aI db;ab (ak; fail)
      an;rw[←HF.out];exact⟨g3,_,cp3,rfl,ew.mono (by omega),cY⟩
    · have HF:Hid (acc=R):=by show _=_; simpa using hr
      clear hr hd;ab (ak; fail)
      an;rw[←HF.out];exact⟨g,_,cp,rfl,hO.mono (by omega),hB⟩
end aX
namespace aX
open Go Go.RowKit base aE draw
theorem iL(zs:Array Value)(n:Nat)(f:Int→Bool)(h:(List.range n).all (fun i=>match zs[i]? with | some (.int .i64 z)=>f z | _=>false)=true):∀i,i<n→∃z,zs[i]? =some (.int .i64 z)∧f z=true:=by
 intro i hi;have:=List.all_eq_true.1 h i (List.mem_range.2 hi)
 split at this
 · eZ z hz; exact⟨z,hz,this⟩
 · cases this
def SQ(w0 w:World)(gc:Nat)(a:Option Addr)(len cap:Nat)(code:List UInt8)(e:Ending)(w':World):Prop:=
 ∃o:Od,dU o=true∧e=.returned (.agg #[.int .i64 o.1,.string o.2.1,.string o.2.2])∧gY w0 w' gc a len cap code∧w.grownBy w' (some gc)
theorem DR{o:Od}(h:dU o=true):ed o:=by
 obtain⟨h1,_,h3,h4⟩:=(kh o).1 h;have:=qe h3;exact⟨WalkArith.wf_i64 (by omega),by unfold maxLen; omega,by unfold maxLen; omega⟩
theorem NR(w0 w:World)(gc:Nat)(a:Option Addr)(len cap:Nat)(code:List UInt8)(h:gY w0 w gc a len cap code):
 Calls Tryz.prog 161 #[.pointer (some ⟨gc,0,none⟩)] w fun e w'=>SQ w0 w gc a len cap code e w':=by
 have cZ:=h.lt;have rS:=h.ge;obtain⟨wa,jw⟩:∃wa,w.alloc (.cells #[.int .i64 0,.string ⟨#[]⟩,.string ⟨#[]⟩] 121)=wa:=⟨_,rfl⟩;have bw:Below w.heap.size w wa:=by rw[←jw]; exact(Below.refl _ _).alloc (Nat.le_refl _) _
 have Hz:wa.heap.size=w.heap.size+1:=by rw[←jw]; simp
 have x6:V3 wa w.heap.size 121 (.int .i64 0) (.string ⟨#[]⟩) (.string ⟨#[]⟩):=by rw[←jw]; exact heap_alloc_new w _
 have x7:=Hid.mk' jw;clear jw;aj Tryz.func161,Tryz.ntmps161;ab fail;rw[x7.out];clear x7;have pY:Below wa.heap.size wa (wa.alloc (.cells #[.int .i64 1,.int .i64 1,.int .i64 1,.int .i64 2,.int .i64 3] 3)):=(Below.refl _ _).alloc (Nat.le_refl _) _;have hL:=heap_alloc_new wa (.cells #[.int .i64 1,.int .i64 1,.int .i64 1,.int .i64 2,.int .i64 3] 3);rw[Hz] at hL;refine(vw w0 _ gc a len cap code (w.heap.size+1) 5 5 _ _ ((h.below bw).below pY) hL rfl (by omega) (by omega) (by omega) (fun z=>decide (1≤z∧z≤3)=true) (iL _ 5 (fun z=>decide (1≤z∧z≤3)) (by aa))).mono ?_
 rintro e w1 ⟨z,hz,rfl,gL,ij⟩;ab fail;refine(Pu w0 _ gc a len cap code gL).mono ?_;rintro e w2 ⟨key,l9,rfl,ei,lU⟩;have pH:=x6.below pY;have dF:=cE pH ij (by simp; omega)
 have cR:=cE dF lU (by simp; omega)
 have oF:w.grownBy w2 (some gc):=az (aZ (aZ (World.grownBy.refl _ _) bw) pY) (az ij lU);have hI:=ei.lt;have pQ:w.heap.size<w2.heap.size:=cR.lt;clear pH dF x6 hL gL ij lU bw;obtain⟨w3,lN⟩:∃w3,w2.alloc (.cells #[.int .i64 z,.string key,.string ⟨#[]⟩] 121)=w3:=⟨_,rfl⟩;have dI:Below w2.heap.size w2 w3:=by rw[←lN]; exact(Below.refl _ _).alloc (Nat.le_refl _) _
 have kc:V3 w3 w2.heap.size 121 (.int .i64 z) (.string key) (.string ⟨#[]⟩):=by rw[←lN]; exact heap_alloc_new w2 _
 have Lo:w3.heap.size=w2.heap.size+1:=by rw[←lN]; simp
 have Pz:=cR.below dI;have fR:=ei.below dI;have x8:=aZ oF dI;have Lu:=of_decide_eq_true hz;have ZZ:=JQ l9;have zU:=Hid.mk' lN;clear lN dI hz l9;by_cases cO:z=2
 · subst cO;have fl:Hid (dU ((2:Int),key,(⟨#[]⟩:ByteArray))=true):=(kh _).2 ⟨Lu,fun _=>rfl,ZZ,by show(0:Nat)≤20; omega⟩
   have r0:=cR.c0;have r1:=cR.c1;have r2:=cR.c2;have q0:=eH cR 0;have q1:=eH cR 1;have q2:=eH cR 2;have cU:=(lC cR (.int .i64 2) (.string key) (.string ⟨#[]⟩)).2;have lM:=ei.grown cU (by simp; omega) (fun k e=>by cases e; omega)
   have SR:=cN oF cU (Nat.le_refl _);have pZ:∀W:World,Below W.heap.size W (W.alloc (.cells #[.int .i64 2,.string key,.string ⟨#[]⟩] 121)):=fun W=>(Below.refl _ _).alloc (Nat.le_refl _) _
   have PA:=Hid.mk' ((lC cR (.int .i64 2) (.string key) (.string ⟨#[]⟩)).1.below (pZ _));have DS:=Hid.mk' (lM.below (pZ _));have DT:=Hid.mk' (aZ SR (pZ _));clear cU lM SR pZ ei oF cR fR x8 kc Pz zU Lo;ab fail;refine bodyPost_ret (v:=.agg #[.int .i64 2,.string key,.string ⟨#[]⟩]) ?_ rfl ⟨((2:Int),key,(⟨#[]⟩:ByteArray)),fl.out,rfl,DS.out,DT.out⟩;simp[results,Tryz.results161,go_sem,PA.out.c0,PA.out.c1,PA.out.c2]
 · have Z0:(z==2)=false:=beq_eq_false_iff_ne.2 cO;have hzn:¬z=2:=cO;clear cO cR ei oF;obtain⟨w4,iX⟩:∃w4,w3.alloc (.cells #[.string ⟨#[49]⟩,.string ⟨#[50]⟩,.string ⟨#[120]⟩,.string ⟨#[]⟩,.string ⟨#[49]⟩] 9)=w4:=⟨_,rfl⟩;have eR:Below w3.heap.size w3 w4:=by rw[←iX]; exact(Below.refl _ _).alloc (Nat.le_refl _) _
   have lO:w4.heap[w2.heap.size+1]? =some (.cells #[.string ⟨#[49]⟩,.string ⟨#[50]⟩,.string ⟨#[120]⟩,.string ⟨#[]⟩,.string ⟨#[49]⟩] 9):=by
    have:=heap_alloc_new w3 (.cells #[.string ⟨#[49]⟩,.string ⟨#[50]⟩,.string ⟨#[120]⟩,.string ⟨#[]⟩,.string ⟨#[49]⟩] 9);rw[Lo,iX] at this;exact this
   have ir:=Hid.mk' (Mz w0 w4 gc a len cap code (w2.heap.size+1) 5 5 _ _ (fR.below eR) lO rfl (by omega) (by omega) (by omega) (fun z=>decide (z.size≤20)=true) (Bs _ 5 (fun z=>decide (z.size≤20)) (by aa)))
   rw[←iX,←zU.out] at ir;have U9:=Hid.mk' eR;have rT:=Hid.mk' iX;clear iX lO eR;ab fail;refine ir.out.mono ?_;rw[zU.out,rT.out];rintro e w5 ⟨val,LP,rfl,jx,ix⟩;have tF:=cE (kc.below U9.out) ix (by simp; omega)
   have Bw:=cE (Pz.below U9.out) ix (by simp; omega)
   have PB:=az (aZ x8 U9.out) ix;have fl:Hid (dU (z,key,val)=true):=(kh _).2 ⟨Lu,fun e=>absurd e hzn,ZZ,of_decide_eq_true LP⟩
   clear ir U9 rT zU kc Pz x8 fR ix;have t0:=tF.c0;have t1:=tF.c1;have t2:=tF.c2;have t3:=eH tF 2;have iY:=(oA tF).2.2 (.string val);have Bx:=cE Bw iY.2 (by simp; omega)
   have eU:=jx.grown iY.2 (by simp; omega) (fun k e=>by cases e; omega)
   have By:=cN PB iY.2 (by omega)
   have r0:=Bw.c0;have r1:=Bw.c1;have r2:=Bw.c2;have q0:=eH Bw 0;have q1:=eH Bw 1;have q2:=eH Bw 2;have cU:=(lC Bx (.int .i64 z) (.string key) (.string val)).2;have DS:=Hid.mk' (eU.grown cU (by simp; omega) (fun k e=>by cases e; omega))
   have DT:=Hid.mk' (cN By cU (Nat.le_refl _));have db:w.heap.size≠w2.heap.size:=by omega
   clear cU eU By Bx iY tF Bw jx PB;ab fail;refine bodyPost_ret (v:=.agg #[.int .i64 z,.string key,.string val]) ?_ rfl ⟨(z,key,val),fl.out,rfl,DS.out,DT.out⟩;simp[results,Tryz.results161,go_sem,r0,r1,r2]
end aX
namespace aX
open Go Go.RowKit base aE draw
theorem Gz(o:Od)(l:List Od):o∈fA o false l:=by
 induction l with
 | nil=>exact List.mem_singleton.2 rfl
 | cons p l ih=>
  rw[fA];cases hl:kN p.2.1 o.2.1
  · exact List.mem_append.2 (.inl (List.mem_append.2 (.inl (by simp))))
  · exact List.mem_append.2 (.inr ih)
def PC(w0 w:World)(gc:Nat)(a:Option Addr)(len cap:Nat)(code:List UInt8)(e:Ending)(w':World):Prop:=
 ∃(g n cp:Nat) (l:List Od),n≤4∧b_ l=true∧e=.returned (.slice (some ⟨g,0,none⟩) n cp)∧ck w' w.heap.size g n cp l∧gY w0 w' gc a len cap code∧w.grownBy w' (some gc)
theorem rB(w0 w:World)(gc:Nat)(a:Option Addr)(len cap:Nat)(code:List UInt8)(h:gY w0 w gc a len cap code):
 Calls Tryz.prog 123 #[.pointer (some ⟨gc,0,none⟩)] w fun e w'=>PC w0 w gc a len cap code e w':=by
 have bw:Below w.heap.size w (w.alloc (.cells #[] 121)):=(Below.refl _ _).alloc (Nat.le_refl _) _;have cZ:=h.lt;aj Tryz.func123,Tryz.ntmps123;ab fail;refine(cH w0 _ gc a len cap code _ (h.below bw) (by omega) (by omega)).mono ?_
 rintro e w1 ⟨x,hx,rfl,gL,ij⟩;have gK:ck w1 w.heap.size w.heap.size 0 0 []:=(l0 w w.heap.size (Nat.le_refl _)).grown ij (by simp; omega)
 have E5:w.grownBy w1 (some gc):=iI ij;clear ij bw;ab fail;aN [3,4] (fun v i wr=>∃(k g n cp:Nat) (l:List Od),n+k≤4∧(1≤k∨1≤n)∧i=.int .i64 (k:Int)∧v=.slice (some ⟨g,0,none⟩) n cp∧(∀p∈l,dU p=true)∧sO l∧ck wr w.heap.size g n cp l∧gY w0 wr gc a len cap code∧w.grownBy wr (some gc)) (fun _ i _=>(intOf i).toNat)
 case atStart=>exact⟨x+1,w.heap.size,0,0,[],by omega,.inl (by omega),by aF,rfl,(fun p hp=>absurd hp List.not_mem_nil),List.Pairwise.nil,gK,gL,E5⟩
 case round=>
  clear gK gL E5;obtain⟨k,g,n,cp,l,CU,nL,rfl,rfl,iT,Xg,hO,hC,hG⟩:=hrel;by_cases Cn:0<k
  · have vz:g≠gc:=by have:=hO.lt; omega
    ab fail;refine(NR w0 _ gc a len cap code hC).mono ?_;rintro e w2 ⟨o,bR,rfl,Cz,oF⟩;have fS:=hO.grown oF (by simpa using vz)
    have sw:=fS.1;ab fail;refine(DO _ n cp l o _ fS.sl (DR bR) (by omega)).mono ?_
    rintro e w4 ⟨g4,n4,O7,rfl,ej,eF⟩;have gI:=zt o false l;have dC:=List.length_pos_of_mem (Gz o l);simp at gI;have Cm:n4≤n+1∧1≤n4:=by have:=ej.1; omega
    have Bz:=Cz.below eF;have CA:=aZ (az hG oF) eF;have eD:=ej.mono (base':=w.heap.size) (by have:=hG.size; have:=oF.size; omega)
    have SS:∀p∈fA o false l,dU p=true:=fun p hp=>by
     rcases xY hp with h1 | rfl
     · exact iT p h1
     · exact bR
    have Xh:=DN (o:=o) Xg;generalize fA o false l=l4 at *;clear hO fS ej eF hC Cz hG oF gI dC iT Xg;ab fail;aA
    case rel=>exact⟨k - 1,g4,n4,O7,l4,by omega,.inr Cm.2,by aF,rfl,SS,Xh,eD,Bz,CA⟩
    case measure=>simp[intOf]; omega
  · ab fail;an;have:=hO.1;exact⟨g,n,cp,l,by omega,(bG l).2 ⟨⟨iT,Xg⟩,by omega,by omega⟩,rfl,hO,hC,hG⟩
end aX
namespace bm
open Go Go.RowKit base aE draw aX
end bm
end Go.Proofs.YtmibabclefgljaaGreat
