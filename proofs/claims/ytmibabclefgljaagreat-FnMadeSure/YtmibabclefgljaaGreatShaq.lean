/- Draw PairW DrawP DrawQ DrawG DrawO DrawW DrawX RecD -/
import Derived.Test.YtmibabclefgljaaGreatRows
import Derived.Test.YtmibabclefgljaaGreatShaa
import Derived.Test.YtmibabclefgljaaGreatShac
import Derived.Test.YtmibabclefgljaaGreatShaf
import Derived.Test.YtmibabclefgljaaGreatSham
set_option linter.unusedVariables false
set_option linter.unusedSimpArgs false
set_option maxRecDepth 100000
set_option maxHeartbeats 4000000
namespace Go.Proofs.YtmibabclefgljaaGreat
namespace draw
open Go.RowKit base
def gI(w0 w:World)(gc:Nat)(a:Option Addr)(len cap:Nat)(code:List UInt8):Prop:=
 Sl w0 a len code∧Below w0.heap.size w0 w∧w0.heap.size≤gc∧len≤1099511627776∧
 ∃i h:Int,0≤i∧i≤len∧w.heap[gc]? =some (.cells #[.slice a len cap,.int .i64 i,.int .i64 h] 109 (0,0))
theorem qV(z:Int):0≤bits .and .i64 z 255∧bits .and .i64 z 255≤255:=by
 have e:bits .and .i64 z 255=IntKind.i64.wrap (((BitVec.ofInt 64 z) &&& (BitVec.ofInt 64 255)).toNat:Int):=rfl;have h:((BitVec.ofInt 64 z) &&& (BitVec.ofInt 64 255)).toNat≤255:=by
  rw[BitVec.toNat_and];exact Nat.le_trans Nat.and_le_right (by decide)
 rw[e,lF _ (by omega) (by omega)]
 omega
theorem JA{w0 w w1:World}{gc:Nat}{a:Option Addr}{len cap:Nat}{code:List UInt8}{i h:Int}(hS:Sl w0 a len code)(hB:Below w0.heap.size w0 w)(xn:w0.heap.size≤gc)(rU:len≤1099511627776)
 (Ci:0≤i) (Cc:i≤len) (hg:w.grownBy w1 (some gc)) (hr:w1.heap[gc]? =some (.cells #[.slice a len cap,.int .i64 i,.int .i64 h] 109 (0,0))):gI w0 w1 gc a len cap code:=
 ⟨hS,hB.grown hg hB.size (fun k e=>by cases e; exact xn),xn,rU,i,h,Ci,Cc,hr⟩
theorem EM(w0 w:World)(gc:Nat)(a:Option Addr)(len cap:Nat)(code:List UInt8)(h:gI w0 w gc a len cap code):
 Calls Tryz.prog 103 #[.pointer (some ⟨gc,0,none⟩)] w fun e w'=>∃x:Int,0≤x∧x≤255∧e=.returned (.int .i64 x)∧gI w0 w' gc a len cap code∧w.grownBy w' (some gc):=by
 obtain⟨hS,hB,xn,rU,i,hh,Ci,Cc,pj⟩:=h;have c0:w.cell? ⟨gc,0,none⟩=some (.slice a len cap):=ji pj 0 _ rfl;have c1:w.cell? ⟨gc,1,none⟩=some (.int .i64 i):=ji pj 1 _ rfl;have c2:w.cell? ⟨gc,2,none⟩=some (.int .i64 hh):=ji pj 2 _ rfl;have f1:w.frozen? ⟨gc,1,none⟩=false:=frozen_of_row w gc 1 _ _ pj;have f2:w.frozen? ⟨gc,2,none⟩=false:=frozen_of_row w gc 2 _ _ pj;have JB:=Hid.mk' pj;clear pj;by_cases a6:i<len
 · obtain⟨I,rfl⟩:=Int.eq_ofNat_of_zero_le Ci;have ZK:=hS.below hB;have WR:I<code.length:=by have:=hS.1; omega
   obtain⟨b,off,ha,cK⟩:=hS.2.2 (by omega)
   subst ha;have pF:b<w0.heap.size:=World.block_lt_of_cell? w0 _ (cK I WR);have aW:¬b=gc:=by omega
   have WS:¬gc=b:=by omega
   generalize NB:code[I].toNat=c;have ZL:c<256:=by rw[←NB]; exact UInt8.toNat_lt _
   have c3:w.cell? ⟨b,off+I,none⟩=some (.int .u8 (c:Int)):=by rw[ZK.at I WR,NB]
   have hi3:(I:Int)<(len:Int):=a6;clear cK NB WR ZK;go_enter Tryz.func103,Tryz.ntmps103;go_wp2;go_quiet (fail)
   go_wp2;go_quiet (fail)
   go_wp2;go_quiet (fail)
   go_wp2;go_ret;have hs:=bw JB.out 2 (.int .i64 (wrap64 (wrap64 (hh * 6364136223846793005)+1442695040888963407)));have px:=fun n=>bw (w:=(w.setCell ⟨gc,2,none⟩ (.int .i64 (wrap64 (wrap64 (hh * 6364136223846793005)+1442695040888963407)))).drewN n) hs.1 1 (.int .i64 ((I:Int)+1))
   have hg:=fun n=>ao (jj hs.2 n) (px n).2
   exact⟨_,(qV _).1,(qV _).2,rfl,JA hS hB xn rU (by omega) (by omega) (hg _) (px _).1,hg _⟩
 · go_enter Tryz.func103,Tryz.ntmps103;go_wp2;go_quiet (fail)
   go_wp2;go_quiet (fail)
   go_wp2;go_ret;have hs:=bw JB.out 2 (.int .i64 (wrap64 (wrap64 (hh * 6364136223846793005)+1442695040888963407)));exact⟨_,(qV _).1,(qV _).2,rfl,JA hS hB xn rU Ci Cc (jj (jj hs.2 _) _) hs.1,jj (jj hs.2 _) _⟩
theorem gI.lt{w0 w:World}{gc:Nat}{a:Option Addr}{len cap:Nat}{code:List UInt8}(h:gI w0 w gc a len cap code):gc<w.heap.size:=by
 obtain⟨_,_,_,_,i,hh,_,_,hr⟩:=h;exact(Array.getElem?_eq_some_iff.1 hr).1
theorem gI.e7{w0 w:World}{gc:Nat}{a:Option Addr}{len cap:Nat}{code:List UInt8}(h:gI w0 w gc a len cap code):Below w0.heap.size w0 w:=h.2.1
theorem gI.ge{w0 w:World}{gc:Nat}{a:Option Addr}{len cap:Nat}{code:List UInt8}(h:gI w0 w gc a len cap code):w0.heap.size≤gc:=h.2.2.1
theorem gI.grown{w0 w w1:World}{gc:Nat}{a:Option Addr}{len cap:Nat}{code:List UInt8}{row:Option Nat}(h:gI w0 w gc a len cap code)(hg:w.grownBy w1 row)(aW:some gc≠row)(hr:∀k,row=some k→w0.heap.size≤k):gI w0 w1 gc a len cap code:=by
 have a6:=h.lt;obtain⟨hS,hB,xn,rU,i,hh,Ci,Cc,pj⟩:=h;exact⟨hS,hB.grown hg hB.size hr,xn,rU,i,hh,Ci,Cc,by rw[hg.block gc a6 aW]; exact pj⟩
theorem gI.below{w0 w w1:World}{gc:Nat}{a:Option Addr}{len cap:Nat}{code:List UInt8}(h:gI w0 w gc a len cap code)(hb:Below w.heap.size w w1):gI w0 w1 gc a len cap code:=
 h.grown (row:=none) ⟨hb.os,hb.tape,hb.output,hb.size,fun k hk _=>hb.block k hk⟩ (by simp) (fun k e=>by cases e)
theorem cf(w0 w:World)(gc:Nat)(a:Option Addr)(len cap:Nat)(code:List UInt8)(n:Int)(h:gI w0 w gc a len cap code)(hn:0<n)(o9:n≤1000000000):
 Calls Tryz.prog 68 #[.pointer (some ⟨gc,0,none⟩),.int .i64 n] w fun e w'=>∃x:Nat,(x:Int)<n∧e=.returned (.int .i64 (x:Int))∧gI w0 w' gc a len cap code∧w.grownBy w' (some gc):=by
 by_cases hs:n≤256
 · go_enter Tryz.func68,Tryz.ntmps68;go_wp2_with fail;refine(EM w0 _ gc a len cap code h).mono ?_;rintro e w1 ⟨x,Ph,Ca,rfl,gk,gR⟩;go_wp2_with fail;go_ret;have e1:0≤x % n:=Int.emod_nonneg _ (by omega)
   have e2:x % n<n:=Int.emod_lt_of_pos _ hn;exact⟨(x % n).toNat,by omega,gJ (by omega),gk,gR⟩
 · go_enter Tryz.func68,Tryz.ntmps68;go_wp2_with fail;refine(EM w0 _ gc a len cap code h).mono ?_;rintro e w1 ⟨x,Ph,Ca,rfl,gk,gR⟩;go_wp2_with fail;refine(EM w0 _ gc a len cap code gk).mono ?_;rintro e w2 ⟨y,yR,Hj,rfl,dS,lC⟩;go_wp2_with fail;refine(EM w0 _ gc a len cap code dS).mono ?_;rintro e w3 ⟨z,dm,dk,rfl,fD,ky⟩;go_wp2_with fail;go_ret;have e1:0≤(x * 65536+y * 256+z) % n:=Int.emod_nonneg _ (by omega)
   have e2:(x * 65536+y * 256+z) % n<n:=Int.emod_lt_of_pos _ hn;exact⟨((x * 65536+y * 256+z) % n).toNat,by omega,gJ (by omega),fD,ao (ao gR lC) ky⟩
theorem u7(w0 w:World)(gc:Nat)(a:Option Addr)(len cap:Nat)(code:List UInt8)(gl n cp:Nat)(zs:Array Value)(mk:Nat × Nat)(h:gI w0 w gc a len cap code)(hr:w.heap[gl]? =some (.cells zs 3 mk))(hz:zs.size=n)(hn:0<n)(o9:n≤1000)(aW:gl≠gc)
 (P:Int→Prop) (hP:∀i,i<n→∃z,zs[i]? =some (.int .i64 z)∧P z):
 Calls Tryz.prog 29 #[.pointer (some ⟨gc,0,none⟩),.slice (some ⟨gl,0,none⟩) n cp] w fun e w'=>∃z:Int,P z∧e=.returned (.int .i64 z)∧gI w0 w' gc a len cap code∧w.grownBy w' (some gc):=by
 go_enter Tryz.func29,Tryz.ntmps29;go_wp2_with fail;refine(cf w0 _ gc a len cap code _ h (by omega) (by omega)).mono ?_
 rintro e w1 ⟨x,hx,rfl,gk,gR⟩;have m5:gl<w.heap.size:=(Array.getElem?_eq_some_iff.1 hr).1;obtain⟨z,dk,cA⟩:=hP x (by omega)
 have c1:w1.cell? ⟨gl,x,none⟩=some (.int .i64 z):=by
  have e1:=gR.block gl m5 (by simpa using aW)
  rw[hr] at e1;exact ji e1 x _ dk
 go_wp2_with fail;go_ret;exact⟨z,cA,rfl,gk,gR⟩
theorem Mn(w0 w:World)(gc:Nat)(a:Option Addr)(len cap:Nat)(code:List UInt8)(gl n cp:Nat)(zs:Array Value)(mk:Nat × Nat)(h:gI w0 w gc a len cap code)(hr:w.heap[gl]? =some (.cells zs 9 mk))(hz:zs.size=n)(hn:0<n)(o9:n≤1000)(aW:gl≠gc)
 (P:ByteArray→Prop) (hP:∀i,i<n→∃z,zs[i]? =some (.string z)∧P z):
 Calls Tryz.prog 179 #[.pointer (some ⟨gc,0,none⟩),.slice (some ⟨gl,0,none⟩) n cp] w fun e w'=>∃z:ByteArray,P z∧e=.returned (.string z)∧gI w0 w' gc a len cap code∧w.grownBy w' (some gc):=by
 go_enter Tryz.func179,Tryz.ntmps179;go_wp2_with fail;refine(cf w0 _ gc a len cap code _ h (by omega) (by omega)).mono ?_
 rintro e w1 ⟨x,hx,rfl,gk,gR⟩;have m5:gl<w.heap.size:=(Array.getElem?_eq_some_iff.1 hr).1;obtain⟨z,dk,cA⟩:=hP x (by omega)
 have c1:w1.cell? ⟨gl,x,none⟩=some (.string z):=by
  have e1:=gR.block gl m5 (by simpa using aW)
  rw[hr] at e1;exact ji e1 x _ dk
 go_wp2_with fail;go_ret;exact⟨z,cA,rfl,gk,gR⟩
theorem Sy(w0 w:World)(a:Option Addr)(len cap:Nat)(code:List UInt8)(h0:Sl w0 a len code)(hB:Below w0.heap.size w0 w)(rU:len≤1099511627776):
 Calls Tryz.prog 28 #[.slice a len cap] w fun e w'=>e=.returned (.pointer (some ⟨w.heap.size,0,none⟩))∧gI w0 w' w.heap.size a len cap code∧Below w.heap.size w w':=by
 have hS:=h0.below hB;obtain⟨hl,hm,hc⟩:=id hS;subst hl;go_enter Tryz.func28,Tryz.ntmps28;go_wp2;go_loop [3,4] (fun hv i=>∃(k:Nat) (hh:Int),k≤code.length∧i=.int .i64 (k:Int)∧hv=.int .i64 hh) (fun _ i=>code.length - (intOf i).toNat)
 case atStart=>exact⟨0,_,Nat.zero_le _,rfl,rfl⟩
 case round=>
  obtain⟨k,hh,hk,rfl,rfl⟩:=hrel;by_cases a6:k<code.length
  · by_cases h4:k<4000
    · obtain⟨b,off,ha,cK⟩:=hc (by omega)
      subst ha;have c1:w.cell? ⟨b,off+k,none⟩=some (.int .u8 code[k].toNat):=cK k a6;have Cc:(k:Int)<(code.length:Int):=by omega
      clear cK hc;go_wp2;go_round
      case rel=>exact⟨k+1,_,by omega,by go_num,rfl⟩
      case measure=>simp[intOf]; omega
    · go_wp2;go_ret;exact⟨rfl,⟨h0,hB.alloc hB.size _,hB.size,rU,0,hh,by omega,by omega,heap_alloc_new w _⟩,(Below.refl _ _).alloc (Nat.le_refl _) _⟩
  · go_wp2;go_ret;exact⟨rfl,⟨h0,hB.alloc hB.size _,hB.size,rU,0,hh,by omega,by omega,heap_alloc_new w _⟩,(Below.refl _ _).alloc (Nat.le_refl _) _⟩
end draw
namespace av
open Go Go.RowKit base
end av
namespace av
open Go Go.RowKit base draw
def Sz(N:Nat)(w0 w:World)(gc:Nat)(a:Option Addr)(len cap:Nat)(code:List UInt8)(e:Ending)(w':World):Prop:=
 ∃z:ByteArray,z.size≤N∧e=.returned (.string z)∧gI w0 w' gc a len cap code∧w.grownBy w' (some gc)
theorem im{w w':World}{o:Obj}{row:Option Nat}(h:(w.alloc o).grownBy w' row):w.grownBy w' row:=ao (yj w o row) h
theorem mI(w0 w:World)(gc:Nat)(a:Option Addr)(len cap:Nat)(code:List UInt8)(n:Int)(h:gI w0 w gc a len cap code)(hn:0<n)(o9:n≤1000000000):
 Calls Tryz.prog 125 #[.pointer (some ⟨gc,0,none⟩),.int .i64 n] w fun e w'=>∃b:Bool,e=.returned (.bool b)∧gI w0 w' gc a len cap code∧w.grownBy w' (some gc):=by
 go_enter Tryz.func125,Tryz.ntmps125;go_wp2_with fail;refine(cf w0 _ gc a len cap code n h hn o9).mono ?_;rintro e w1 ⟨x,hx,rfl,gk,gR⟩;go_wp2_with fail;go_ret;exact⟨_,rfl,gk,gR⟩
theorem JC{w0 w:World}{gc:Nat}{a:Option Addr}{len cap:Nat}{code:List UInt8}(h:gI w0 w gc a len cap code):w.heap.size≠gc:=by have:=h.lt; omega
theorem EN(zs:Array Value)(n:Nat)(N:Nat)(h:(List.range n).all (fun i=>match zs[i]? with | some (.string z)=>decide (z.size≤N) | _=>false)=true):∀i,i<n→∃z,zs[i]? =some (.string z)∧z.size≤N:=by
 intro i hi;have:=List.all_eq_true.1 h i (List.mem_range.2 hi)
 split at this
 · rename_i z hz; exact⟨z,hz,of_decide_eq_true this⟩
 · cases this
theorem SA(w0 w:World)(gc:Nat)(a:Option Addr)(len cap:Nat)(code:List UInt8)(h:gI w0 w gc a len cap code):
 Calls Tryz.prog 178 #[.pointer (some ⟨gc,0,none⟩)] w fun e w'=>Sz 13 w0 w gc a len cap code e w':=by
 go_enter Tryz.func178,Tryz.ntmps178;go_wp2_with fail;have aW:=JC h;refine(Mn w0 _ gc a len cap code w.heap.size 7 _ _ _ (h.below ((Below.refl _ _).alloc (Nat.le_refl _) _)) (heap_alloc_new w _) rfl (by omega) (by omega) aW (fun z=>z.size≤13) (EN _ 7 13 (by kernel_rfl))).mono ?_
 rintro e w1 ⟨z,hz,rfl,gk,gR⟩;go_wp2_with fail;go_ret;exact⟨z,hz,rfl,gk,im gR⟩
theorem JD(w0 w:World)(gc:Nat)(a:Option Addr)(len cap:Nat)(code:List UInt8)(h:gI w0 w gc a len cap code):
 Calls Tryz.prog 162 #[.pointer (some ⟨gc,0,none⟩)] w fun e w'=>Sz 13 w0 w gc a len cap code e w':=by
 go_enter Tryz.func162,Tryz.ntmps162;go_wp2_with fail;refine(mI w0 _ gc a len cap code _ h (by omega) (by omega)).mono ?_
 rintro e w1 ⟨b,rfl,gk,gR⟩;cases b
 · go_wp2_with fail;refine(SA w0 _ gc a len cap code gk).mono ?_;rintro e w2 ⟨z,hz,rfl,dS,lC⟩;go_wp2_with fail;go_ret;exact⟨z,hz,rfl,dS,ao gR lC⟩
 · go_wp2_with fail;have aW:=JC gk;refine(Mn w0 _ gc a len cap code w1.heap.size 5 _ _ _ (gk.below ((Below.refl _ _).alloc (Nat.le_refl _) _)) (heap_alloc_new w1 _) rfl (by omega) (by omega) aW (fun z=>z.size≤13) (EN _ 5 13 (by kernel_rfl))).mono ?_
   rintro e w2 ⟨z,hz,rfl,dS,lC⟩;go_wp2_with fail;go_ret;exact⟨z,hz,rfl,dS,ao gR (im lC)⟩
theorem SB{n:Nat}(h:n≤21):n≤maxLen:=Nat.le_trans h (by decide)
end av
namespace av
open Go Go.RowKit base draw
end av
namespace av
open Go Go.RowKit base draw
def EO(z:ByteArray):Bool:=gD z && Op.bytesLess z.data.toList [122,122]
theorem JE{z:ByteArray}(h:EO z=true):gD z=true:=(Bool.and_eq_true_iff.1 h).1
theorem Bd(zs:Array Value)(n:Nat)(f:ByteArray→Bool)(h:(List.range n).all (fun i=>match zs[i]? with | some (.string z)=>f z | _=>false)=true):∀i,i<n→∃z,zs[i]? =some (.string z)∧f z=true:=by
 intro i hi;have:=List.all_eq_true.1 h i (List.mem_range.2 hi)
 split at this
 · rename_i z hz; exact⟨z,hz,this⟩
 · cases this
theorem Pj(w0 w:World)(gc:Nat)(a:Option Addr)(len cap:Nat)(code:List UInt8)(h:gI w0 w gc a len cap code):
 Calls Tryz.prog 178 #[.pointer (some ⟨gc,0,none⟩)] w fun e w'=>∃z:ByteArray,EO z=true∧e=.returned (.string z)∧gI w0 w' gc a len cap code∧w.grownBy w' (some gc):=by
 go_enter Tryz.func178,Tryz.ntmps178;go_wp2_with fail;have aW:=JC h;refine(Mn w0 _ gc a len cap code w.heap.size 7 _ _ _ (h.below ((Below.refl _ _).alloc (Nat.le_refl _) _)) (heap_alloc_new w _) rfl (by omega) (by omega) aW (fun z=>EO z=true) (Bd _ 7 EO (by kernel_rfl))).mono ?_
 rintro e w1 ⟨z,hz,rfl,gk,gR⟩;go_wp2_with fail;go_ret;exact⟨z,hz,rfl,gk,im gR⟩
end av
namespace aN
open Go Go.RowKit base av draw
def fg(o:Od):Bool→List Od→List Od
 | put,[]=>if put=true then[] else[o]
 | put,p::l=>(if(!put && !kt p.2.1 o.2.1)=true then[o] else[])++(if p.2.1=o.2.1 then[] else[p])++fg o (put || !kt p.2.1 o.2.1) l
theorem Gh(o:Od)(l:List Od)(h:∀p∈l,p.2.1≠o.2.1):fg o true l=l:=by
 induction l with
 | nil=>rfl
 | cons p l ih=>
  rw[fg,Bool.true_or,ih (fun q hq=>h q (List.mem_cons_of_mem _ hq)),if_neg (h p List.mem_cons_self)]
  rfl
theorem xG{o p:Od}{b:Bool}{l:List Od}(h:p∈fg o b l):p∈l∨p=o:=by
 induction l generalizing b with
 | nil=>
  rw[fg] at h
  split at h
  · cases h
  · exact .inr (List.mem_singleton.1 h)
 | cons q l ih=>
  rw[fg] at h;rcases List.mem_append.1 h with h1 | h1
  · rcases List.mem_append.1 h1 with h2 | h2
    · split at h2
      · exact .inr (List.mem_singleton.1 h2)
      · cases h2
    · split at h2
      · cases h2
      · exact .inl (by rw[List.mem_singleton.1 h2]; exact List.mem_cons_self)
  · rcases ih h1 with h2 | h2
    · exact .inl (List.mem_cons_of_mem _ h2)
    · exact .inr h2
theorem y7(o:Od)(b:Bool)(l:List Od):(fg o b l).length≤l.length+(if b=true then 0 else 1):=by
 induction l generalizing b with
 | nil=>rw[fg]; cases b <;> simp
 | cons p l ih=>
  rw[fg];have:=ih (b || !kt p.2.1 o.2.1)
  simp only[List.length_append,List.length_cons];have h1:(if p.2.1=o.2.1 then([]:List Od) else[p]).length≤1:=by split <;> simp
  cases b
  · cases h2:kt p.2.1 o.2.1 <;> simp[h2] at this ⊢ <;> omega
  · simp at this ⊢; omega
theorem Dy{o:Od}{l:List Od}(h:sv l):sv (fg o false l):=by
 induction l with
 | nil=>exact List.pairwise_singleton _ _
 | cons p l ih=>
  unfold sv at h;rw[List.pairwise_cons] at h;rw[fg];cases hl:kt p.2.1 o.2.1
  · have aW:∀q∈l,q.2.1≠o.2.1:=by
     intro q hq e;have:=h.1 q hq;rw[e,hl] at this;cases this
    rw[show(false || !false)=true from rfl,Gh o l aW]
    by_cases e:p.2.1=o.2.1
    · simp[e];exact List.pairwise_cons.2 ⟨fun q hq=>by rw[←e]; exact h.1 q hq,h.2⟩
    · simp[e];have B9:kt o.2.1 p.2.1=true:=by
       cases h3:kt o.2.1 p.2.1
       · exact absurd (rD hl h3) e
       · rfl
      refine List.pairwise_cons.2 ⟨fun q hq=>?_,List.pairwise_cons.2 ⟨h.1,h.2⟩⟩
      rcases List.mem_cons.1 hq with rfl | hq
      · exact B9
      · exact lH B9 (h.1 q hq)
  · have e:¬p.2.1=o.2.1:=Ox hl;simp[e];refine List.pairwise_cons.2 ⟨fun q hq=>?_,ih h.2⟩
    rcases xG hq with h1 | rfl
    · exact h.1 q h1
    · exact hl
theorem xH{w w':World}{b o1 o2 o3:Nat}{v1 v2 v3:Value}{row:Option Nat}(hg:w.grownBy w' row)(aW:some b≠row)(h:w.cell? ⟨b,o1,none⟩=some v1∧w.cell? ⟨b,o2,none⟩=some v2∧w.cell? ⟨b,o3,none⟩=some v3):w'.cell? ⟨b,o1,none⟩=some v1∧w'.cell? ⟨b,o2,none⟩=some v2∧w'.cell? ⟨b,o3,none⟩=some v3:=
 ⟨hg.cell h.1 aW,hg.cell h.2.1 aW,hg.cell h.2.2 aW⟩
theorem Dz(a:Option Addr)(len cap:Nat)(l:List Od)(o:Od)(w:World)(h:dD w a len l)(ho:dN o)(iO:len≤1000):
 Calls Tryz.prog 160 #[.slice a len cap,.agg #[.int .i64 o.1,.string o.2.1,.string o.2.2]] w fun e w'=>
  ∃g' n' aO,e=.returned (.slice (some ⟨g',0,none⟩) n' aO)∧bR w' w.heap.size g' n' aO (fg o false l)∧Below w.heap.size w w':=by
 obtain⟨i0,jG,dm,dk,cA⟩:=info_parts sx;have hl:=h.1;have eW:=h.2.2.1;subst hl;generalize hR:fg o false l=R;have HR:=Hid.mk' hR;clear hR;have bg:Below w.heap.size w (w.alloc (.cells #[.int .i64 o.1,.string o.2.1,.string o.2.2] 121)):=(Below.refl _ _).alloc (Nat.le_refl _) _;have zG:=lI (w.alloc (.cells #[.int .i64 o.1,.string o.2.1,.string o.2.2] 121)) (w.heap.size+1) (by simp)
 have DA:(w.alloc (.cells #[.int .i64 o.1,.string o.2.1,.string o.2.2] 121)).heap.size=w.heap.size+1:=by simp
 rw[DA] at zG;have yp:=bg.alloc (aI _ _ (Nat.le_refl _)) (.cells #[] 121);obtain⟨wz,Hb⟩:∃wz,(w.alloc (.cells #[.int .i64 o.1,.string o.2.1,.string o.2.2] 121)).alloc (.cells #[] 121)=wz:=⟨_,rfl⟩;have Q4:wz.cell? ⟨w.heap.size,0,none⟩=some (.int .i64 o.1)∧wz.cell? ⟨w.heap.size,1,none⟩=some (.string o.2.1)∧wz.cell? ⟨w.heap.size,2,none⟩=some (.string o.2.2):=by
  rw[←Hb];refine⟨?_,?_,?_⟩ <;> simp[go_sem]
 rw[Hb] at zG yp;have V9:=Hid.mk' Hb;clear Hb bg DA;go_enter Tryz.func160,Tryz.ntmps160;go_wp2_with (at_builtin; fail)
 rw[V9.out];clear V9;go_loopw [5,6,7] (fun v pv i wr=>∃(k g n cp:Nat) (put:Bool) (acc:List Od),k≤l.length∧n≤2 * k∧i=.int .i64 (k:Int)∧pv=.bool put∧v=.slice (some ⟨g,0,none⟩) n cp∧acc++fg o put (l.drop k)=R∧bR wr (w.heap.size+1) g n cp acc∧(wr.cell? ⟨w.heap.size,0,none⟩=some (.int .i64 o.1)∧wr.cell? ⟨w.heap.size,1,none⟩=some (.string o.2.1)∧wr.cell? ⟨w.heap.size,2,none⟩=some (.string o.2.2))∧Below w.heap.size w wr) (fun _ _ i _=>l.length - (intOf i).toNat)
 case atStart=>exact⟨0,w.heap.size+1,0,0,false,[],Nat.zero_le _,Nat.le_refl _,rfl,rfl,rfl,HR.out,zG,Q4,yp⟩
 case round=>
  clear zG Q4 yp HR;obtain⟨k,g,n,cp,put,acc,hk,hn,rfl,rfl,rfl,hr,hO,hC,hB⟩:=hrel;by_cases a6:k<l.length
  · obtain⟨b,off,ha,_⟩:=h.2.2.2 (by omega)
    subst ha;have NB:=(h.below hB).cells k a6;have mh:=eW _ (List.getElem_mem a6);have fL:(k:Int)<(l.length:Int):=by omega
    rw[List.drop_eq_getElem_cons a6,fg] at hr;have HKP:Hid (∀wx,Below w.heap.size w wx→nD wx b off l):=fun wx hx=>(h.below hx).cells
    have Q5:Hid (∀wx,Below w.heap.size w wx→wx.cell? ⟨b,off+k * 3,none⟩=some (.int .i64 l[k].1)∧wx.cell? ⟨b,off+k * 3+1,none⟩=some (.string l[k].2.1)∧wx.cell? ⟨b,off+k * 3+2,none⟩=some (.string l[k].2.2)):=fun wx hx=>(h.below hx).cells k a6
    clear HKP;generalize l[k]=p at *;have wL:=hO;have p9:=hB;have lX:=hC;have lh:=NB;clear hO hB hC NB;by_cases he:p.2.1=o.2.1
    · rw[if_pos he] at hr;have SC:kt p.2.1 o.2.1=false:=by rw[he]; exact ml _
      rw[SC] at hr;have Lh:Op.bytesLess o.2.1.toList o.2.1.toList=false:=ml _;have hq:(o.2.1.toList==o.2.1.toList)=true:=beq_self_eq_true _;rw[he] at Q5 lh;clear SC;cases put
      · have HF:Hid ((acc++[o])++fg o true (l.drop (k+1))=R):=by show _=_; rw[←hr]; simp
        clear hr;have Ei:=last.On.cell (B:=wr.heap.size) lh.2.1 (World.block_lt_of_cell? _ _ lh.2.1);have Mo:=last.On.cell (B:=wr.heap.size) lX.2.1 (World.block_lt_of_cell? _ _ lX.2.1);have qW:=last.On.gV wr.heap.size wr;go_wp2_with (at_builtin; fail)
        refine last.ai wr.heap.size (by kernel_rfl) (by kernel_rfl) ?_
        repeat(go_big_quiet_step ((fail)))
        refine wpQuiet_nil ?_;intro wq a8;obtain⟨xq,a8⟩:=a8;subst a8;have gL:Below wr.heap.size wr xq.w:=xq.2;generalize xq.w=w4 at *;have lY:=wL.below gL;have mJ:=p9.trans (gL.mono p9.size);have jt:=dg gL lX;have nk:=dg gL lh;clear Ei Mo qW gL wL p9 lX lh;have x0:=jt.1;have x1:=jt.2.1;have x2:=jt.2.2;have Pk:n+1≤maxLen:=by unfold maxLen; omega
        have Pl:(n+1) * 40≤140737488355328:=by omega
        have WT:=lY.lt;have Pm:w.heap.size+1≤w4.heap.size:=by omega
        have JF:=mJ.size;go_wp2_with (at_builtin; refine wpList_append_own _ rfl _ _ 73 rfl (w.heap.size+1) 121 i0 (.agg #[.int .i64 0,.string ⟨#[]⟩,.string ⟨#[]⟩]) 3 40 Tryz.underlying73 jG dm dk cA rfl (by decide) _ _ _ rfl (lY.2.2.alloc _) ⟨w4.heap.size,0,none⟩ 1 1 (aM [o]) rfl rfl (db _ _ _) (bz _) Pk Pl (aI _ _ Pm) ?_)
        intro v5 w5 aB az cN;obtain⟨g5,vM,hv,eh⟩:=ie lY.1 lY.2.1 ho cN aB;subst hv;have ec:Below w.heap.size w w5:=(mJ.alloc JF _).grown az (aI _ _ JF) (fun k e=>by simp[Value.ownBlock] at e; omega)
        have Pn:=xH az (by simp[Value.ownBlock]; omega) (dg ((Below.refl _ _).alloc (Nat.le_refl _) (.cells #[.int .i64 o.1,.string o.2.1,.string o.2.2] 121)) jt)
        clear aB az cN;have SD:=Q5.out _ ec;have JG:=eh;have DB:=ec;have y8:=Pn;have y_:=SD;clear eh ec Pn SD x0 x1 x2 lY mJ jt nk;have Mp:=last.On.cell (B:=w5.heap.size) y_.2.1 (World.block_lt_of_cell? _ _ y_.2.1);have Mq:=last.On.cell (B:=w5.heap.size) y8.2.1 (World.block_lt_of_cell? _ _ y8.2.1);have qX:=last.On.gV w5.heap.size w5;go_wp2_with (at_builtin; fail)
        refine last.ai w5.heap.size (by kernel_rfl) (by kernel_rfl) ?_
        repeat(go_big_quiet_step ((fail)))
        refine wpQuiet_nil ?_;intro wq a8;obtain⟨xq,a8⟩:=a8;subst a8;have iq:Below w5.heap.size w5 xq.w:=xq.2;generalize xq.w=w6 at *;have lj:=JG.below iq;have p_:=DB.trans (iq.mono DB.size);have qY:=dg iq y8;have lZ:=dg iq y_;clear Mp Mq qX iq JG DB y8 y_;have HX:=Hid.mk' qY;have HY:=Hid.mk' lZ;clear qY lZ;go_wp2_with (at_builtin; fail)
        go_roundw
        case rel=>exact⟨k+1,g5,n+1,vM,true,acc++[o],by omega,by omega,by go_num,rfl,rfl,HF.out,lj,HX.out,p_⟩
        case measure=>simp[intOf]; omega
      · have HF:Hid (acc++fg o true (l.drop (k+1))=R):=by show _=_; rw[←hr]; simp
        clear hr;have Ei:=last.On.cell (B:=wr.heap.size) lh.2.1 (World.block_lt_of_cell? _ _ lh.2.1);have Mo:=last.On.cell (B:=wr.heap.size) lX.2.1 (World.block_lt_of_cell? _ _ lX.2.1);have qW:=last.On.gV wr.heap.size wr;go_wp2_with (at_builtin; fail)
        refine last.ai wr.heap.size (by kernel_rfl) (by kernel_rfl) ?_
        repeat(go_big_quiet_step ((fail)))
        refine wpQuiet_nil ?_;intro wq a8;obtain⟨xq,a8⟩:=a8;subst a8;have gL:Below wr.heap.size wr xq.w:=xq.2;generalize xq.w=w4 at *;have lY:=wL.below gL;have mJ:=p9.trans (gL.mono p9.size);have jt:=dg gL lX;have nk:=dg gL lh;clear Ei Mo qW gL wL p9 lX lh;have Mp:=last.On.cell (B:=w4.heap.size) nk.2.1 (World.block_lt_of_cell? _ _ nk.2.1);have Mq:=last.On.cell (B:=w4.heap.size) jt.2.1 (World.block_lt_of_cell? _ _ jt.2.1);have qX:=last.On.gV w4.heap.size w4;go_wp2_with (at_builtin; fail)
        refine last.ai w4.heap.size (by kernel_rfl) (by kernel_rfl) ?_
        repeat(go_big_quiet_step ((fail)))
        refine wpQuiet_nil ?_;intro wq a8;obtain⟨xq,a8⟩:=a8;subst a8;have iq:Below w4.heap.size w4 xq.w:=xq.2;generalize xq.w=w6 at *;have lj:=lY.below iq;have p_:=mJ.trans (iq.mono mJ.size);have qY:=dg iq jt;have lZ:=dg iq nk;clear Mp Mq qX iq lY mJ jt nk;have HX:=Hid.mk' qY;have HY:=Hid.mk' lZ;clear qY lZ;go_wp2_with (at_builtin; fail)
        go_roundw
        case rel=>exact⟨k+1,g,n,cp,true,acc,by omega,by omega,by go_num,rfl,rfl,HF.out,lj,HX.out,p_⟩
        case measure=>simp[intOf]; omega
    · rw[if_neg he] at hr;have hq:=dP he;cases put
      · cases tM:kt p.2.1 o.2.1
        · rw[tM] at hr;have HF:Hid ((acc++[o]++[p])++fg o true (l.drop (k+1))=R):=by show _=_; rw[←hr]; simp
          have Lh:Op.bytesLess p.2.1.toList o.2.1.toList=false:=tM;clear hr tM;have Ei:=last.On.cell (B:=wr.heap.size) lh.2.1 (World.block_lt_of_cell? _ _ lh.2.1);have Mo:=last.On.cell (B:=wr.heap.size) lX.2.1 (World.block_lt_of_cell? _ _ lX.2.1);have qW:=last.On.gV wr.heap.size wr;go_wp2_with (at_builtin; fail)
          refine last.ai wr.heap.size (by kernel_rfl) (by kernel_rfl) ?_
          repeat(go_big_quiet_step ((fail)))
          refine wpQuiet_nil ?_;intro wq a8;obtain⟨xq,a8⟩:=a8;subst a8;have gL:Below wr.heap.size wr xq.w:=xq.2;generalize xq.w=w4 at *;have lY:=wL.below gL;have mJ:=p9.trans (gL.mono p9.size);have jt:=dg gL lX;have nk:=dg gL lh;clear Ei Mo qW gL wL p9 lX lh;have x0:=jt.1;have x1:=jt.2.1;have x2:=jt.2.2;have Pk:n+1≤maxLen:=by unfold maxLen; omega
          have Pl:(n+1) * 40≤140737488355328:=by omega
          have WT:=lY.lt;have Pm:w.heap.size+1≤w4.heap.size:=by omega
          have JF:=mJ.size;go_wp2_with (at_builtin; refine wpList_append_own _ rfl _ _ 73 rfl (w.heap.size+1) 121 i0 (.agg #[.int .i64 0,.string ⟨#[]⟩,.string ⟨#[]⟩]) 3 40 Tryz.underlying73 jG dm dk cA rfl (by decide) _ _ _ rfl (lY.2.2.alloc _) ⟨w4.heap.size,0,none⟩ 1 1 (aM [o]) rfl rfl (db _ _ _) (bz _) Pk Pl (aI _ _ Pm) ?_)
          intro v5 w5 aB az cN;obtain⟨g5,vM,hv,eh⟩:=ie lY.1 lY.2.1 ho cN aB;subst hv;have ec:Below w.heap.size w w5:=(mJ.alloc JF _).grown az (aI _ _ JF) (fun k e=>by simp[Value.ownBlock] at e; omega)
          have Pn:=xH az (by simp[Value.ownBlock]; omega) (dg ((Below.refl _ _).alloc (Nat.le_refl _) (.cells #[.int .i64 o.1,.string o.2.1,.string o.2.2] 121)) jt)
          clear aB az cN;have SD:=Q5.out _ ec;have JG:=eh;have DB:=ec;have y8:=Pn;have y_:=SD;clear eh ec Pn SD x0 x1 x2 lY mJ jt nk;have Zb:n+1≤2 * k+1:=by omega
          generalize n+1=m at *;have Mp:=last.On.cell (B:=w5.heap.size) y_.2.1 (World.block_lt_of_cell? _ _ y_.2.1);have Mq:=last.On.cell (B:=w5.heap.size) y8.2.1 (World.block_lt_of_cell? _ _ y8.2.1);have qX:=last.On.gV w5.heap.size w5;go_wp2_with (at_builtin; fail)
          refine last.ai w5.heap.size (by kernel_rfl) (by kernel_rfl) ?_
          repeat(go_big_quiet_step ((fail)))
          refine wpQuiet_nil ?_;intro wq a8;obtain⟨xq,a8⟩:=a8;subst a8;have iq:Below w5.heap.size w5 xq.w:=xq.2;generalize xq.w=w6 at *;have lj:=JG.below iq;have p_:=DB.trans (iq.mono DB.size);have qY:=dg iq y8;have lZ:=dg iq y_;clear Mp Mq qX iq JG DB y8 y_;have x0:=lZ.1;have x1:=lZ.2.1;have x2:=lZ.2.2;have JH:m+1≤maxLen:=by unfold maxLen; omega
          have JI:(m+1) * 40≤140737488355328:=by omega
          have SE:=lj.lt;have JJ:w.heap.size+1≤w6.heap.size:=by omega
          have Be:=p_.size;go_wp2_with (at_builtin; refine wpList_append_own _ rfl _ _ 73 rfl (w.heap.size+1) 121 i0 (.agg #[.int .i64 0,.string ⟨#[]⟩,.string ⟨#[]⟩]) 3 40 Tryz.underlying73 jG dm dk cA rfl (by decide) _ _ _ rfl (lj.2.2.alloc _) ⟨w6.heap.size,0,none⟩ 1 1 (aM [p]) rfl rfl (db _ _ _) (bz _) JH JI (aI _ _ JJ) ?_)
          intro v7 w7 aB az cN;obtain⟨g7,K_,hv,rJ⟩:=ie lj.1 lj.2.1 mh cN aB;subst hv;have iL:Below w.heap.size w w7:=(p_.alloc Be _).grown az (aI _ _ Be) (fun k e=>by simp[Value.ownBlock] at e; omega)
          have NC:=xH az (by simp[Value.ownBlock]; omega) (dg ((Below.refl _ _).alloc (Nat.le_refl _) (.cells #[.int .i64 p.1,.string p.2.1,.string p.2.2] 121)) qY)
          clear aB az cN;have ND:=Q5.out _ iL;have JK:=rJ;have JL:=iL;have Bf:=NC;have Bg:=ND;clear rJ iL NC ND x0 x1 x2 lj p_ qY lZ;have HX:=Hid.mk' Bf;have HY:=Hid.mk' Bg;clear Bf Bg;go_wp2_with (at_builtin; fail)
          go_roundw
          case rel=>exact⟨k+1,g7,m+1,K_,true,acc++[o]++[p],by omega,by omega,by go_num,rfl,rfl,HF.out,JK,HX.out,JL⟩
          case measure=>simp[intOf]; omega
        · rw[tM] at hr;have HF:Hid ((acc++[p])++fg o false (l.drop (k+1))=R):=by show _=_; rw[←hr]; simp
          have Lh:Op.bytesLess p.2.1.toList o.2.1.toList=true:=tM;clear hr tM;have Ei:=last.On.cell (B:=wr.heap.size) lh.2.1 (World.block_lt_of_cell? _ _ lh.2.1);have Mo:=last.On.cell (B:=wr.heap.size) lX.2.1 (World.block_lt_of_cell? _ _ lX.2.1);have qW:=last.On.gV wr.heap.size wr;go_wp2_with (at_builtin; fail)
          refine last.ai wr.heap.size (by kernel_rfl) (by kernel_rfl) ?_
          repeat(go_big_quiet_step ((fail)))
          refine wpQuiet_nil ?_;intro wq a8;obtain⟨xq,a8⟩:=a8;subst a8;have gL:Below wr.heap.size wr xq.w:=xq.2;generalize xq.w=w4 at *;have lY:=wL.below gL;have mJ:=p9.trans (gL.mono p9.size);have jt:=dg gL lX;have nk:=dg gL lh;clear Ei Mo qW gL wL p9 lX lh;have Mp:=last.On.cell (B:=w4.heap.size) nk.2.1 (World.block_lt_of_cell? _ _ nk.2.1);have Mq:=last.On.cell (B:=w4.heap.size) jt.2.1 (World.block_lt_of_cell? _ _ jt.2.1);have qX:=last.On.gV w4.heap.size w4;go_wp2_with (at_builtin; fail)
          refine last.ai w4.heap.size (by kernel_rfl) (by kernel_rfl) ?_
          repeat(go_big_quiet_step ((fail)))
          refine wpQuiet_nil ?_;intro wq a8;obtain⟨xq,a8⟩:=a8;subst a8;have iq:Below w4.heap.size w4 xq.w:=xq.2;generalize xq.w=w6 at *;have lj:=lY.below iq;have p_:=mJ.trans (iq.mono mJ.size);have qY:=dg iq jt;have lZ:=dg iq nk;clear Mp Mq qX iq lY mJ jt nk;have x0:=lZ.1;have x1:=lZ.2.1;have x2:=lZ.2.2;have JH:n+1≤maxLen:=by unfold maxLen; omega
          have JI:(n+1) * 40≤140737488355328:=by omega
          have SE:=lj.lt;have JJ:w.heap.size+1≤w6.heap.size:=by omega
          have Be:=p_.size;go_wp2_with (at_builtin; refine wpList_append_own _ rfl _ _ 73 rfl (w.heap.size+1) 121 i0 (.agg #[.int .i64 0,.string ⟨#[]⟩,.string ⟨#[]⟩]) 3 40 Tryz.underlying73 jG dm dk cA rfl (by decide) _ _ _ rfl (lj.2.2.alloc _) ⟨w6.heap.size,0,none⟩ 1 1 (aM [p]) rfl rfl (db _ _ _) (bz _) JH JI (aI _ _ JJ) ?_)
          intro v7 w7 aB az cN;obtain⟨g7,K_,hv,rJ⟩:=ie lj.1 lj.2.1 mh cN aB;subst hv;have iL:Below w.heap.size w w7:=(p_.alloc Be _).grown az (aI _ _ Be) (fun k e=>by simp[Value.ownBlock] at e; omega)
          have NC:=xH az (by simp[Value.ownBlock]; omega) (dg ((Below.refl _ _).alloc (Nat.le_refl _) (.cells #[.int .i64 p.1,.string p.2.1,.string p.2.2] 121)) qY)
          clear aB az cN;have ND:=Q5.out _ iL;have JK:=rJ;have JL:=iL;have Bf:=NC;have Bg:=ND;clear rJ iL NC ND x0 x1 x2 lj p_ qY lZ;have HX:=Hid.mk' Bf;have HY:=Hid.mk' Bg;clear Bf Bg;go_wp2_with (at_builtin; fail)
          go_roundw
          case rel=>exact⟨k+1,g7,n+1,K_,false,acc++[p],by omega,by omega,by go_num,rfl,rfl,HF.out,JK,HX.out,JL⟩
          case measure=>simp[intOf]; omega
      · have HF:Hid ((acc++[p])++fg o true (l.drop (k+1))=R):=by show _=_; rw[←hr]; simp
        clear hr;have Ei:=last.On.cell (B:=wr.heap.size) lh.2.1 (World.block_lt_of_cell? _ _ lh.2.1);have Mo:=last.On.cell (B:=wr.heap.size) lX.2.1 (World.block_lt_of_cell? _ _ lX.2.1);have qW:=last.On.gV wr.heap.size wr;go_wp2_with (at_builtin; fail)
        refine last.ai wr.heap.size (by kernel_rfl) (by kernel_rfl) ?_
        repeat(go_big_quiet_step ((fail)))
        refine wpQuiet_nil ?_;intro wq a8;obtain⟨xq,a8⟩:=a8;subst a8;have gL:Below wr.heap.size wr xq.w:=xq.2;generalize xq.w=w4 at *;have lY:=wL.below gL;have mJ:=p9.trans (gL.mono p9.size);have jt:=dg gL lX;have nk:=dg gL lh;clear Ei Mo qW gL wL p9 lX lh;have Mp:=last.On.cell (B:=w4.heap.size) nk.2.1 (World.block_lt_of_cell? _ _ nk.2.1);have Mq:=last.On.cell (B:=w4.heap.size) jt.2.1 (World.block_lt_of_cell? _ _ jt.2.1);have qX:=last.On.gV w4.heap.size w4;go_wp2_with (at_builtin; fail)
        refine last.ai w4.heap.size (by kernel_rfl) (by kernel_rfl) ?_
        repeat(go_big_quiet_step ((fail)))
        refine wpQuiet_nil ?_;intro wq a8;obtain⟨xq,a8⟩:=a8;subst a8;have iq:Below w4.heap.size w4 xq.w:=xq.2;generalize xq.w=w6 at *;have lj:=lY.below iq;have p_:=mJ.trans (iq.mono mJ.size);have qY:=dg iq jt;have lZ:=dg iq nk;clear Mp Mq qX iq lY mJ jt nk;have x0:=lZ.1;have x1:=lZ.2.1;have x2:=lZ.2.2;have JH:n+1≤maxLen:=by unfold maxLen; omega
        have JI:(n+1) * 40≤140737488355328:=by omega
        have SE:=lj.lt;have JJ:w.heap.size+1≤w6.heap.size:=by omega
        have Be:=p_.size;go_wp2_with (at_builtin; refine wpList_append_own _ rfl _ _ 73 rfl (w.heap.size+1) 121 i0 (.agg #[.int .i64 0,.string ⟨#[]⟩,.string ⟨#[]⟩]) 3 40 Tryz.underlying73 jG dm dk cA rfl (by decide) _ _ _ rfl (lj.2.2.alloc _) ⟨w6.heap.size,0,none⟩ 1 1 (aM [p]) rfl rfl (db _ _ _) (bz _) JH JI (aI _ _ JJ) ?_)
        intro v7 w7 aB az cN;obtain⟨g7,K_,hv,rJ⟩:=ie lj.1 lj.2.1 mh cN aB;subst hv;have iL:Below w.heap.size w w7:=(p_.alloc Be _).grown az (aI _ _ Be) (fun k e=>by simp[Value.ownBlock] at e; omega)
        have NC:=xH az (by simp[Value.ownBlock]; omega) (dg ((Below.refl _ _).alloc (Nat.le_refl _) (.cells #[.int .i64 p.1,.string p.2.1,.string p.2.2] 121)) qY)
        clear aB az cN;have ND:=Q5.out _ iL;have JK:=rJ;have JL:=iL;have Bf:=NC;have Bg:=ND;clear rJ iL NC ND x0 x1 x2 lj p_ qY lZ;have HX:=Hid.mk' Bf;have HY:=Hid.mk' Bg;clear Bf Bg;go_wp2_with (at_builtin; fail)
        go_roundw
        case rel=>exact⟨k+1,g7,n+1,K_,true,acc++[p],by omega,by omega,by go_num,rfl,rfl,HF.out,JK,HX.out,JL⟩
        case measure=>simp[intOf]; omega
  · have hd:l.drop k=[]:=List.drop_eq_nil_of_le (by omega)
    rw[hd,fg] at hr;obtain⟨e0,e1,e2⟩:=hC;cases put
    · have HF:Hid (acc++[o]=R):=by show _=_; simpa using hr
      clear hr hd;have WU:n+1≤maxLen:=by unfold maxLen; omega
      have WV:(n+1) * 40≤140737488355328:=by omega
      have Gi:=hO.lt;have yr:w.heap.size+1≤wr.heap.size:=by omega
      have SF:=hB.size;go_wp2_with (at_builtin; refine wpList_append_own _ rfl _ _ 73 rfl (w.heap.size+1) 121 i0 (.agg #[.int .i64 0,.string ⟨#[]⟩,.string ⟨#[]⟩]) 3 40 Tryz.underlying73 jG dm dk cA rfl (by decide) _ _ _ rfl (hO.2.2.alloc _) ⟨wr.heap.size,0,none⟩ 1 1 (aM [o]) rfl rfl (db _ _ _) (bz _) WU WV (aI _ _ yr) ?_)
      intro v3 w3 aB az cN;obtain⟨g3,cp3,hv,d_⟩:=ie hO.1 hO.2.1 ho cN aB;subst hv;have cJ:Below w.heap.size w w3:=(hB.alloc SF _).grown az (aI _ _ SF) (fun k e=>by simp[Value.ownBlock] at e; omega)
      have WW:=xH az (by simp[Value.ownBlock]; omega) (dg ((Below.refl _ _).alloc (Nat.le_refl _) (.cells #[.int .i64 o.1,.string o.2.1,.string o.2.2] 121)) ⟨e0,e1,e2⟩)
      clear aB az cN;go_wp2_with (at_builtin; fail)
      go_ret;rw[←HF.out];exact⟨g3,_,cp3,rfl,d_.mono (by omega),cJ⟩
    · have HF:Hid (acc=R):=by show _=_; simpa using hr
      clear hr hd;go_wp2_with (at_builtin; fail)
      go_ret;rw[←HF.out];exact⟨g,_,cp,rfl,hO.mono (by omega),hB⟩
end aN
namespace aN
open Go Go.RowKit base av draw
theorem ir(zs:Array Value)(n:Nat)(f:Int→Bool)(h:(List.range n).all (fun i=>match zs[i]? with | some (.int .i64 z)=>f z | _=>false)=true):∀i,i<n→∃z,zs[i]? =some (.int .i64 z)∧f z=true:=by
 intro i hi;have:=List.all_eq_true.1 h i (List.mem_range.2 hi)
 split at this
 · rename_i z hz; exact⟨z,hz,this⟩
 · cases this
def SG(w0 w:World)(gc:Nat)(a:Option Addr)(len cap:Nat)(code:List UInt8)(e:Ending)(w':World):Prop:=
 ∃o:Od,dF o=true∧e=.returned (.agg #[.int .i64 o.1,.string o.2.1,.string o.2.2])∧gI w0 w' gc a len cap code∧w.grownBy w' (some gc)
theorem DC{o:Od}(h:dF o=true):dN o:=by
 obtain⟨h1,_,h3,h4⟩:=(jT o).1 h;have:=pP h3;exact⟨WalkArith.wf_i64 (by omega),by unfold maxLen; omega,by unfold maxLen; omega⟩
theorem NF(w0 w:World)(gc:Nat)(a:Option Addr)(len cap:Nat)(code:List UInt8)(h:gI w0 w gc a len cap code):
 Calls Tryz.prog 161 #[.pointer (some ⟨gc,0,none⟩)] w fun e w'=>SG w0 w gc a len cap code e w':=by
 have cK:=h.lt;have ry:=h.ge;obtain⟨wa,jd⟩:∃wa,w.alloc (.cells #[.int .i64 0,.string ⟨#[]⟩,.string ⟨#[]⟩] 121)=wa:=⟨_,rfl⟩;have bg:Below w.heap.size w wa:=by rw[←jd]; exact(Below.refl _ _).alloc (Nat.le_refl _) _
 have Ho:wa.heap.size=w.heap.size+1:=by rw[←jd]; simp
 have xI:V3 wa w.heap.size 121 (.int .i64 0) (.string ⟨#[]⟩) (.string ⟨#[]⟩):=by rw[←jd]; exact heap_alloc_new w _
 have xJ:=Hid.mk' jd;clear jd;go_enter Tryz.func161,Tryz.ntmps161;go_wp2_with fail;rw[xJ.out];clear xJ;have pF:Below wa.heap.size wa (wa.alloc (.cells #[.int .i64 1,.int .i64 1,.int .i64 1,.int .i64 2,.int .i64 3] 3)):=(Below.refl _ _).alloc (Nat.le_refl _) _;have hL:=heap_alloc_new wa (.cells #[.int .i64 1,.int .i64 1,.int .i64 1,.int .i64 2,.int .i64 3] 3);rw[Ho] at hL;refine(u7 w0 _ gc a len cap code (w.heap.size+1) 5 5 _ _ ((h.below bg).below pF) hL rfl (by omega) (by omega) (by omega) (fun z=>decide (1≤z∧z≤3)=true) (ir _ 5 (fun z=>decide (1≤z∧z≤3)) (by kernel_rfl))).mono ?_
 rintro e w1 ⟨z,hz,rfl,gk,gR⟩;go_wp2_with fail;refine(Pj w0 _ gc a len cap code gk).mono ?_;rintro e w2 ⟨key,lN,rfl,dS,lC⟩;have pf:=xI.below pF;have dn:=b_ pf gR (by simp; omega)
 have cC:=b_ dn lC (by simp; omega)
 have n9:w.grownBy w2 (some gc):=ao (aP (aP (World.grownBy.refl _ _) bg) pF) (ao gR lC);have gM:=dS.lt;have px:w.heap.size<w2.heap.size:=cC.lt;clear pf dn xI hL gk gR lC bg;obtain⟨w3,ls⟩:∃w3,w2.alloc (.cells #[.int .i64 z,.string key,.string ⟨#[]⟩] 121)=w3:=⟨_,rfl⟩;have dt:Below w2.heap.size w2 w3:=by rw[←ls]; exact(Below.refl _ _).alloc (Nat.le_refl _) _
 have jP:V3 w3 w2.heap.size 121 (.int .i64 z) (.string key) (.string ⟨#[]⟩):=by rw[←ls]; exact heap_alloc_new w2 _
 have Lc:w3.heap.size=w2.heap.size+1:=by rw[←ls]; simp
 have Po:=cC.below dt;have fD:=dS.below dt;have xK:=aP n9 dt;have Li:=of_decide_eq_true hz;have ZM:=JE lN;have zB:=Hid.mk' ls;clear ls dt hz lN;by_cases cA:z=2
 · subst cA;have eX:Hid (dF ((2:Int),key,(⟨#[]⟩:ByteArray))=true):=(jT _).2 ⟨Li,fun _=>rfl,ZM,by show(0:Nat)≤20; omega⟩
   have r0:=cC.c0;have r1:=cC.c1;have r2:=cC.c2;have q0:=en cC 0;have q1:=en cC 1;have q2:=en cC 2;have cF:=(k8 cC (.int .i64 2) (.string key) (.string ⟨#[]⟩)).2;have lr:=dS.grown cF (by simp; omega) (fun k e=>by cases e; omega)
   have SH:=cv n9 cF (Nat.le_refl _);have pG:∀W:World,Below W.heap.size W (W.alloc (.cells #[.int .i64 2,.string key,.string ⟨#[]⟩] 121)):=fun W=>(Below.refl _ _).alloc (Nat.le_refl _) _
   have Pp:=Hid.mk' ((k8 cC (.int .i64 2) (.string key) (.string ⟨#[]⟩)).1.below (pG _));have DD:=Hid.mk' (lr.below (pG _));have DE:=Hid.mk' (aP SH (pG _));clear cF lr SH pG dS n9 cC fD xK jP Po zB Lc;go_wp2_with fail;refine bodyPost_ret (v:=.agg #[.int .i64 2,.string key,.string ⟨#[]⟩]) ?_ rfl ⟨((2:Int),key,(⟨#[]⟩:ByteArray)),eX.out,rfl,DD.out,DE.out⟩;simp[results,Tryz.results161,go_sem,Pp.out.c0,Pp.out.c1,Pp.out.c2]
 · have ZN:(z==2)=false:=beq_eq_false_iff_ne.2 cA;have hzn:¬z=2:=cA;clear cA cC dS n9;obtain⟨w4,iH⟩:∃w4,w3.alloc (.cells #[.string ⟨#[49]⟩,.string ⟨#[50]⟩,.string ⟨#[120]⟩,.string ⟨#[]⟩,.string ⟨#[49]⟩] 9)=w4:=⟨_,rfl⟩;have eD:Below w3.heap.size w3 w4:=by rw[←iH]; exact(Below.refl _ _).alloc (Nat.le_refl _) _
   have lu:w4.heap[w2.heap.size+1]? =some (.cells #[.string ⟨#[49]⟩,.string ⟨#[50]⟩,.string ⟨#[120]⟩,.string ⟨#[]⟩,.string ⟨#[49]⟩] 9):=by
    have:=heap_alloc_new w3 (.cells #[.string ⟨#[49]⟩,.string ⟨#[50]⟩,.string ⟨#[120]⟩,.string ⟨#[]⟩,.string ⟨#[49]⟩] 9);rw[Lc,iH] at this;exact this
   have gW:=Hid.mk' (Mn w0 w4 gc a len cap code (w2.heap.size+1) 5 5 _ _ (fD.below eD) lu rfl (by omega) (by omega) (by omega) (fun z=>decide (z.size≤20)=true) (Bd _ 5 (fun z=>decide (z.size≤20)) (by kernel_rfl)))
   rw[←iH,←zB.out] at gW;have UW:=Hid.mk' eD;have rz:=Hid.mk' iH;clear iH lu eD;go_wp2_with fail;refine gW.out.mono ?_;rw[zB.out,rz.out];rintro e w5 ⟨val,LD,rfl,je,g_⟩;have ti:=b_ (jP.below UW.out) g_ (by simp; omega)
   have Bh:=b_ (Po.below UW.out) g_ (by simp; omega)
   have Pq:=ao (aP xK UW.out) g_;have eX:Hid (dF (z,key,val)=true):=(jT _).2 ⟨Li,fun e=>absurd e hzn,ZM,of_decide_eq_true LD⟩
   clear gW UW rz zB jP Po xK fD g_;have t0:=ti.c0;have t1:=ti.c1;have t2:=ti.c2;have t3:=en ti 2;have iI:=(nV ti).2.2 (.string val);have Bi:=b_ Bh iI.2 (by simp; omega)
   have eG:=je.grown iI.2 (by simp; omega) (fun k e=>by cases e; omega)
   have Bj:=cv Pq iI.2 (by omega)
   have r0:=Bh.c0;have r1:=Bh.c1;have r2:=Bh.c2;have q0:=en Bh 0;have q1:=en Bh 1;have q2:=en Bh 2;have cF:=(k8 Bi (.int .i64 z) (.string key) (.string val)).2;have DD:=Hid.mk' (eG.grown cF (by simp; omega) (fun k e=>by cases e; omega))
   have DE:=Hid.mk' (cv Bj cF (Nat.le_refl _));have cN:w.heap.size≠w2.heap.size:=by omega
   clear cF eG Bj Bi iI ti Bh je Pq;go_wp2_with fail;refine bodyPost_ret (v:=.agg #[.int .i64 z,.string key,.string val]) ?_ rfl ⟨(z,key,val),eX.out,rfl,DD.out,DE.out⟩;simp[results,Tryz.results161,go_sem,r0,r1,r2]
end aN
namespace aN
open Go Go.RowKit base av draw
theorem Gj(o:Od)(l:List Od):o∈fg o false l:=by
 induction l with
 | nil=>exact List.mem_singleton.2 rfl
 | cons p l ih=>
  rw[fg];cases hl:kt p.2.1 o.2.1
  · exact List.mem_append.2 (.inl (List.mem_append.2 (.inl (by simp))))
  · exact List.mem_append.2 (.inr ih)
def Ps(w0 w:World)(gc:Nat)(a:Option Addr)(len cap:Nat)(code:List UInt8)(e:Ending)(w':World):Prop:=
 ∃(g n cp:Nat) (l:List Od),n≤4∧bM l=true∧e=.returned (.slice (some ⟨g,0,none⟩) n cp)∧bR w' w.heap.size g n cp l∧gI w0 w' gc a len cap code∧w.grownBy w' (some gc)
theorem qZ(w0 w:World)(gc:Nat)(a:Option Addr)(len cap:Nat)(code:List UInt8)(h:gI w0 w gc a len cap code):
 Calls Tryz.prog 123 #[.pointer (some ⟨gc,0,none⟩)] w fun e w'=>Ps w0 w gc a len cap code e w':=by
 have bg:Below w.heap.size w (w.alloc (.cells #[] 121)):=(Below.refl _ _).alloc (Nat.le_refl _) _;have cK:=h.lt;go_enter Tryz.func123,Tryz.ntmps123;go_wp2_with fail;refine(cf w0 _ gc a len cap code _ (h.below bg) (by omega) (by omega)).mono ?_
 rintro e w1 ⟨x,hx,rfl,gk,gR⟩;have gi:bR w1 w.heap.size w.heap.size 0 0 []:=(lI w w.heap.size (Nat.le_refl _)).grown gR (by simp; omega)
 have EP:w.grownBy w1 (some gc):=im gR;clear gR bg;go_wp2_with fail;go_loopw [3,4] (fun v i wr=>∃(k g n cp:Nat) (l:List Od),n+k≤4∧(1≤k∨1≤n)∧i=.int .i64 (k:Int)∧v=.slice (some ⟨g,0,none⟩) n cp∧(∀p∈l,dF p=true)∧sv l∧bR wr w.heap.size g n cp l∧gI w0 wr gc a len cap code∧w.grownBy wr (some gc)) (fun _ i _=>(intOf i).toNat)
 case atStart=>exact⟨x+1,w.heap.size,0,0,[],by omega,.inl (by omega),by go_num,rfl,(fun p hp=>absurd hp List.not_mem_nil),List.Pairwise.nil,gi,gk,EP⟩
 case round=>
  clear gi gk EP;obtain⟨k,g,n,cp,l,CF,nr,rfl,rfl,iD,WX,hO,hC,hG⟩:=hrel;by_cases B8:0<k
  · have u9:g≠gc:=by have:=hO.lt; omega
    go_wp2_with fail;refine(NF w0 _ gc a len cap code hC).mono ?_;rintro e w2 ⟨o,bD,rfl,Cj,n9⟩;have fE:=hO.grown n9 (by simpa using u9)
    have rU:=fE.1;go_wp2_with fail;refine(Dz _ n cp l o _ fE.sl (DC bD) (by omega)).mono ?_
    rintro e w4 ⟨g4,n4,OX,rfl,dT,ej⟩;have gd:=y7 o false l;have dj:=List.length_pos_of_mem (Gj o l);simp at gd;have B6:n4≤n+1∧1≤n4:=by have:=dT.1; omega
    have Bk:=Cj.below ej;have Ck:=aP (ao hG n9) ej;have eh:=dT.mono (base':=w.heap.size) (by have:=hG.size; have:=n9.size; omega)
    have SI:∀p∈fg o false l,dF p=true:=fun p hp=>by
     rcases xG hp with h1 | rfl
     · exact iD p h1
     · exact bD
    have WY:=Dy (o:=o) WX;generalize fg o false l=l4 at *;clear hO fE dT ej hC Cj hG n9 gd dj iD WX;go_wp2_with fail;go_roundw
    case rel=>exact⟨k - 1,g4,n4,OX,l4,by omega,.inr B6.2,by go_num,rfl,SI,WY,eh,Bk,Ck⟩
    case measure=>simp[intOf]; omega
  · go_wp2_with fail;go_ret;have:=hO.1;exact⟨g,n,cp,l,by omega,(bq l).2 ⟨⟨iD,WX⟩,by omega,by omega⟩,rfl,hO,hC,hG⟩
end aN
namespace aZ
open Go Go.RowKit base av draw aN
end aZ
end Go.Proofs.YtmibabclefgljaaGreat
