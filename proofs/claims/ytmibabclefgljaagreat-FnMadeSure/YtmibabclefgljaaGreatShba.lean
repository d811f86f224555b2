/- CoIm CoK CoJ RowM SortI -/
import Derived.Test.YtmibabclefgljaaGreatShau
import Derived.Test.YtmibabclefgljaaGreatShav
import Derived.Test.YtmibabclefgljaaGreatSham
import Derived.Test.YtmibabclefgljaaGreatShac
import Derived.Maps.OwnSet
import Derived.Maps.OwnOps
import Derived.Maps.Views
import Derived.DeepKeys4
import Derived.BigQuiet
import Derived.Handy
import Derived.Test.YtmibabclefgljaaGreatShaf
import Derived.Test.YtmibabclefgljaaGreatShah
import Derived.Maps.AppendAt
import Derived.Maps.RangeWalk
import Derived.Shelf.Sort.Plain
import Derived.Shelf.Slices.In.SortNone
import Derived.Test.YtmibabclefgljaaGreatProg
set_option linter.unusedVariables false
set_option linter.unusedSimpArgs false
set_option maxRecDepth 100000
set_option maxHeartbeats 2000000
namespace Go.Proofs.YtmibabclefgljaaGreat
namespace cos
open Go Go.RowKit base av aN
/-! ### shards that said yes: what stands up to each that is found is cut off -/
def gO:List Int→List Int→Bool
 | _,[]=>true
 | left,x::r=>match left.findIdx? (fun z=>decide (z=x)) with | none=>false | some k=>gO (left.drop (k+1)) r
def mO(p:Option Int)(z:Int):Bool:=match p with | none=>true | some q=>decide (q<z)
theorem Kr{l:List Int}(h:tm l){k:Nat}(hk:k<l.length):l.drop (k+1)=l.filter (fun z=>decide (l[k]<z)):=by
 have e:=List.take_append_drop (k+1) l;have h1:(l.take (k+1)).filter (fun z=>decide (l[k]<z))=[]:=by
  refine List.filter_eq_nil_iff.2 fun x hx=>?_
  obtain⟨i,hi,rfl⟩:=List.getElem_of_mem hx;rw[List.getElem_take];simp only[List.length_take] at hi;rcases Nat.lt_or_ge i k with Wg | Wg
  · have:=List.pairwise_iff_getElem.1 h i k (by omega) hk Wg
    simp; omega
  · have:i=k:=by omega
    subst this; simp
 have h2:(l.drop (k+1)).filter (fun z=>decide (l[k]<z))=l.drop (k+1):=by
  refine List.filter_eq_self.2 fun x hx=>?_
  obtain⟨i,hi,rfl⟩:=List.getElem_of_mem hx;rw[List.getElem_drop];simp only[List.length_drop] at hi;have:=List.pairwise_iff_getElem.1 h k (k+1+i) hk (by omega) (by omega)
  simpa using this
 generalize l[k]=y at *;have h3:l.filter (fun z=>decide (y<z))=(l.take (k+1)++l.drop (k+1)).filter (fun z=>decide (y<z)):=by rw[e]
 rw[h3,List.filter_append,h1,h2,List.nil_append]
theorem Ks{list:List Int}(ha:tm list)(p:Option Int)(x:Int)(r:List Int):gO (list.filter (mO p)) (x::r)=(decide (x∈list) && mO p x && gO (list.filter (mO (some x))) r):=by
 have hf:tm (list.filter (mO p)):=List.Pairwise.filter _ ha;cases e:(list.filter (mO p)).findIdx? (fun z=>decide (z=x)) with
 | none=>
  have hn:x∉list.filter (mO p):=fun hm=>by
   have:=List.findIdx?_eq_none_iff.1 e x hm;simp at this
  have h0:(decide (x∈list) && mO p x)=false:=by
   cases hp:mO p x
   · simp
   · have:x∉list:=fun hm=>hn (List.mem_filter.2 ⟨hm,hp⟩)
     simp[this]
  have hs:gO (list.filter (mO p)) (x::r)=false:=by
   conv=>lhs; unfold gO
   rw[e]
  rw[hs,h0,Bool.false_and]
 | some k=>
  obtain⟨hk,hp,_⟩:=jK e;have hx:(list.filter (mO p))[k]=x:=of_decide_eq_true hp;have hm:x∈list.filter (mO p):=by rw[←hx]; exact List.getElem_mem hk
  obtain⟨Fh,jD⟩:=List.mem_filter.1 hm;have h3:(list.filter (mO p)).drop (k+1)=list.filter (mO (some x)):=by
   rw[Kr hf hk,hx,List.filter_filter];refine List.filter_congr fun z hz=>?_
   show(decide (x<z) && mO p z)=decide (x<z);by_cases a6:x<z
   · have:mO p z=true:=by
      cases p with
      | none=>rfl
      | some q=>have:=of_decide_eq_true jD; exact decide_eq_true (by omega)
     rw[this,Bool.and_true]
   · simp[a6]
  have hs:gO (list.filter (mO p)) (x::r)=gO ((list.filter (mO p)).drop (k+1)) r:=by
   conv=>lhs; unfold gO
   rw[e]
  rw[hs,h3,decide_eq_true Fh,jD,Bool.true_and,Bool.true_and]
theorem MN{list:List Int}(ha:tm list)(p:Option Int)(ys:List Int):gO (list.filter (mO p)) ys=dK list p ys:=by
 induction ys generalizing p with
 | nil=>rfl
 | cons x r ih=>
  rw[Ks ha,ih (some x)];cases p <;> rfl
theorem MO{list:List Int}(ha:tm list)(ys:List Int):gO list ys=dK list none ys:=by
 have:=MN ha none ys;rwa[show list.filter (mO none)=list from List.filter_eq_self.2 fun _ _=>rfl] at this
/-! ### choices -/
def has(log:List Ch)(c:Ch):Bool:=decide (c∈log)
def dc(log:List Ch)(tx:Int):Bool:=has log (tx,true) || has log (tx,false)
def placeOf(log:List Ch)(c:Ch):Nat:=(log.findIdx? fun d=>decide (d=c)).getD 0
theorem ot{log:List Ch}{tx:Int}:dc log tx=true↔∃y,(tx,y)∈log:=by
 unfold dc has;rw[Bool.or_eq_true,decide_eq_true_iff,decide_eq_true_iff];constructor
 · rintro(h | h)
   · exact⟨true,h⟩
   · exact⟨false,h⟩
 · rintro⟨y,h⟩;cases y
   · exact .inr h
   · exact .inl h
theorem pK{log:List Ch}(hn:(log.map fun c=>c.1).Nodup){c:Ch}(h:c∈log):choice log c.1=some c.2:=by
 obtain⟨i,hi,rfl⟩:=List.getElem_of_mem h;obtain⟨hk,e⟩:=od (nodup_iff.1 hn i hi);exact e
theorem pL{log:List Ch}{tx:Int}{y:Bool}(h:choice log tx=some y):(tx,y)∈log:=by
 unfold choice at h;cases e:log.find? (fun c=>decide (c.1=tx)) with
 | none=>rw[e] at h; cases h
 | some c=>
  rw[e] at h;simp only[Option.map_some,Option.some.injEq] at h;have h1:=List.mem_of_find?_eq_some e;have h2:c.1=tx:=by have h3:=List.find?_some e; simpa using h3
  rw[←h,←h2]; exact h1
theorem mP{log:List Ch}(hn:(log.map fun c=>c.1).Nodup)(tx:Int)(y:Bool):has log (tx,y)=decide (choice log tx=some y):=by
 unfold has;rw[decide_eq_decide];exact⟨fun h=>pK hn h,pL⟩
theorem vw{log:List Ch}(hn:(log.map fun c=>c.1).Nodup)(tx:Int):dc log tx=(choice log tx).isSome:=by
 unfold dc;rw[mP hn,mP hn];cases choice log tx with
 | none=>rfl
 | some y=>cases y <;> rfl
theorem BB{hi:Int}{log:List Ch}(h:cU hi log=true):(log.map fun c=>c.1).Nodup:=by
 unfold cU at h;rw[Bool.and_eq_true,decide_eq_true_iff] at h;exact h.2
theorem vz{hi:Int}{l:List Ch}{c:Ch}:cU hi (l++[c])=(cU hi l && (decide (1000≤c.1∧c.1≤hi) && !dc l c.1)):=by
 have hiff:cU hi (l++[c])=true↔(cU hi l && (decide (1000≤c.1∧c.1≤hi) && !dc l c.1))=true:=by
  unfold cU;simp only[Bool.and_eq_true,List.all_append,List.map_append,List.map_cons,List.map_nil,decide_eq_true_iff,Bool.not_eq_true',List.all_cons,List.all_nil,Bool.and_true];rw[List.nodup_append];constructor
  · rintro⟨⟨h1,h2⟩,h3,_,h4⟩;refine⟨⟨h1,h3⟩,h2,?_⟩;cases e:dc l c.1
    · rfl
    · obtain⟨y,hy⟩:=ot.1 e;exact absurd rfl (h4 c.1 (List.mem_map.2 ⟨_,hy,rfl⟩) c.1 (by simp))
  · rintro⟨⟨h1,h3⟩,h2,h4⟩;refine⟨⟨h1,h2⟩,h3,by simp,fun a ha b hb e=>?_⟩
    obtain⟨d,hd,rfl⟩:=List.mem_map.1 ha;have aU:b=c.1:=by simpa using hb
    subst aU;have:dc l c.1=true:=ot.2 ⟨d.2,by rw[←e]; exact hd⟩
    rw[this] at h4; cases h4
 cases h1:cU hi (l++[c]) <;> cases h2:(cU hi l && (decide (1000≤c.1∧c.1≤hi) && !dc l c.1)) <;> simp_all
theorem DW{hi:Int}{log:List Ch}{k:Nat}(h:cU hi log=true):cU hi (log.take k)=true:=by
 unfold cU at h ⊢;simp only[Bool.and_eq_true,decide_eq_true_iff,List.all_eq_true] at h ⊢;exact⟨fun c hc=>h.1 c (List.mem_of_mem_take hc),by rw[List.map_take]; exact List.Nodup.sublist (List.take_sublist _ _) h.2⟩
theorem DX{hi:Int}{log:List Ch}{k:Nat}(hk:k<log.length)(h:(decide (1000≤log[k].1∧log[k].1≤hi) && !dc (log.take k) log[k].1)=false):cU hi log=false:=by
 cases e:cU hi log
 · rfl
 · have:=DW (k:=k+1) e;rw[List.take_succ_eq_append_getElem hk,vz,h] at this;simp at this
theorem zq{l:List Ch}{c:Ch}(h:c∉l)(d:Ch):placeOf (l++[c]) d=if d=c then l.length else placeOf l d:=by
 unfold placeOf;rw[List.findIdx?_append];by_cases e:d=c
 · subst e;rw[if_pos rfl,List.findIdx?_eq_none_iff.2 (fun x hx=>decide_eq_false fun(e2:x=d)=>h (e2 ▸ hx))]
   simp[List.findIdx?_cons]
 · rw[if_neg e];have:([c]:List Ch).findIdx? (fun x=>decide (x=d))=none:=by
    rw[List.findIdx?_eq_none_iff];intro x hx;have:x=c:=by simpa using hx
    subst this;exact decide_eq_false fun e2=>e e2.symm
   rw[this];cases List.findIdx? (fun x=>decide (x=d)) l <;> rfl
theorem Kt{l:List Ch}{c:Ch}(d:Ch):has (l++[c]) d=(has l d || decide (d=c)):=by
 unfold has; simp[Bool.decide_or]
/-! ### what is told: the program's way -/
end cos
namespace cos
open Go Go.RowKit base av aN lay kN
abbrev Tr(tx:Int)(y:Bool):Value:=.agg #[.int .i64 tx,.bool y]
def MP(tx:Int)(y:Bool):Lit:=.string (keyBytes [.int .i64 tx,.bool y])
theorem gC:Maps.Keyed Tryz.prog 87:=Maps.Keyed.of_law (deep_law_laid (by kernel_rfl) (m:=2) (by decide) (of_decide_eq_true (by kernel_rfl)) (by kernel_rfl) (by kernel_rfl))
theorem Ts(w:World):(zeroValue 3).run Tryz.prog w=.ok (.int .i64 0) w:=by kernel_rfl
theorem l9{tx:Int}{y:Bool}(h:(Lit.int .i64 tx).wf=true):keyOf Tryz.prog 87 (Tr tx y)=some (MP tx y):=by
 have L6:Tryz.prog.keyType 87=true:=by kernel_rfl
 have hfm:(Tr tx y).formed Tryz.prog 87=true:=by kernel_rfl
 obtain⟨m,hm⟩:∃m,Tryz.prog.types.size=m+1:=⟨Tryz.prog.types.size - 1,by kernel_rfl⟩
 have c0:Tryz.prog.cellsOf 3=1:=by kernel_rfl
 have c1:Tryz.prog.cellsOf 4=1:=by kernel_rfl
 have c2:Tryz.prog.cellsOf 87=2:=by kernel_rfl
 unfold keyOf;simp only[Tryz.underlying87];rw[if_pos (by rw[L6,hfm]; rfl),hm]
 unfold Program.keyLits;simp only[Tryz.underlying87,Value.cells];rw[if_pos ⟨by rw[c2]; rfl,by kernel_rfl⟩]
 simp[List.mapM_cons,List.mapM_nil,c0,c1,Program.keyLits,Tryz.underlying3,Tryz.underlying4,h,MP]
theorem Qb{tx XM:Int}{y y':Bool}(h:(Lit.int .i64 tx).wf=true)(h':(Lit.int .i64 XM).wf=true)(aW:(tx,y)≠(XM,y')):MP tx y≠MP XM y':=fun e=>by
 have h1:=l9 (y:=y) h;have h2:=l9 (y:=y') h';rw[←e] at h2;have:=gC.inj h1 h2;simp only[Tr,Value.agg.injEq,Array.mk.injEq,List.cons.injEq,Value.int.injEq,Value.bool.injEq,true_and,and_true] at this;exact aW (Prod.ext this.1 this.2)
theorem Ku{a b:Int}(h:(DataW.lit (.int .i64 a):DataW Unit)=.lit (.int .i64 b)):a=b:=by
 cases h; rfl
def Made(w:World)(B n:Nat)(log:List Ch):Prop:=
 ∃D:DataW Unit,w.ownsMap Tryz.prog 87 (plainElem Tryz.prog 3) B n D∧∀c:Ch,(Lit.int .i64 c.1).wf=true→Maps.has D (MP c.1 c.2)=has log c∧D.atKey (MP c.1 c.2) (.lit (.int .i64 0))=.lit (.int .i64 (placeOf log c:Int))
section
variable{w w':World}{B n:Nat}{log:List Ch}
theorem Kv(w:World):Made (w.alloc (.map #[] 0)) w.heap.size 0 []:=
 ⟨.map [],World.ownsMap_made _ _ _ _,fun c hc=>⟨rfl,rfl⟩⟩
theorem Made.lt(h:Made w B n log):B<w.heap.size:=by
 obtain⟨D,⟨es,clock,hb,_⟩,_⟩:=h;exact(Array.getElem?_eq_some_iff.1 hb).1
theorem Made.keep(h:Made w B n log)(hk:w'.heap[B]? =w.heap[B]?):Made w' B n log:=by
 obtain⟨D,⟨es,clock,hb,r⟩,h3⟩:=h;exact⟨D,⟨es,clock,hk.trans hb,r⟩,h3⟩
theorem Made.below(h:Made w B n log)(hb:Below w.heap.size w w'):Made w' B n log:=h.keep (hb.block B h.lt)
theorem Made.look(h:Made w B n log){tx:Int}{y:Bool}(hw:(Lit.int .i64 tx).wf=true):(Instr.lookup 90 (.map (some B)) (Tr tx y) true).run Tryz.prog w=.ok (.tuple #[.int .i64 (placeOf log (tx,y):Int),.bool (has log (tx,y))]) w:=by
 obtain⟨D,h1,h3⟩:=h;obtain⟨v,ps,dh,hR⟩:=h1.look_ok gC Tryz.underlying90 (Ts w) (plainElem_int Tryz.underlying3 (by decide)) (l9 (y:=y) hw)
 obtain⟨hh,ha⟩:=h3 (tx,y) hw;simp only[] at hh ha;rw[ha] at hR;obtain⟨c,rfl,hc,_⟩:=plainElem_int_inv Tryz.underlying3 hR;have dS:(placeOf log (tx,y):Int)=c:=Ku (congrArg Prod.fst hc);rw[dh,hh,dS]
end
theorem EY(B m:Nat)(log:List Ch)(tx:Int)(y:Bool)(w:World)(h:Made w B m log)(hw:(Lit.int .i64 tx).wf=true):
 Calls Tryz.prog 148 #[.map (some B),Tr tx y] w fun e w'=>e=.returned (.bool (has log (tx,y)))∧Below w.heap.size w w':=by
 have hb:=aS w (.cells #[.int .i64 tx,.bool y] 87);have yF:=(h.below hb).look (y:=y) hw;generalize placeOf log (tx,y)=pl at *;generalize has log (tx,y)=r at *;clear h hw;go_enter Tryz.func148,Tryz.ntmps148;go_wp2_with fail;go_ret;exact⟨rfl,hb⟩
theorem xS(B m:Nat)(log:List Ch)(tx:Int)(w:World)(h:Made w B m log)(hw:(Lit.int .i64 tx).wf=true):
 Calls Tryz.prog 119 #[.map (some B),.int .i64 tx] w fun e w'=>e=.returned (.bool (dc log tx))∧Below w.heap.size w w':=by
 have H1:=Hid.mk' (EY B m log tx true w h hw);have H2:=Hid.mk' (fun wx (hx:Below w.heap.size w wx)=>EY B m log tx false wx (h.below hx) hw)
 have HR:Hid (dc log tx=(has log (tx,true) || has log (tx,false))):=rfl
 clear h hw;cases h1:has log (tx,true)
 · rw[h1] at H1 HR;clear h1;generalize has log (tx,false)=r at *;go_enter Tryz.func119,Tryz.ntmps119;go_wp2_with fail;refine H1.out.mono ?_;rintro e w1 ⟨rfl,aT⟩;go_wp2_with fail;refine(H2.out _ aT).mono ?_;rintro e w2 ⟨rfl,aU⟩;go_wp2_with fail;go_ret;exact⟨aj (by rw[HR.out]; rfl),aT.trans (aU.mono aT.size)⟩
 · rw[h1] at H1 HR;clear h1 H2;go_enter Tryz.func119,Tryz.ntmps119;go_wp2_with fail;refine H1.out.mono ?_;rintro e w1 ⟨rfl,aT⟩;go_wp2_with fail;go_ret;exact⟨aj (by rw[HR.out]; rfl),aT⟩
/-! ### numbers of transactions -/
section
variable(X:Nat)(T:TypeId)(pre post:List Value)(n ak next sure:Int)(ja:Option Addr)(jn jc:Nat)(la:Option Addr)(ln lc:Nat)(w:World)
theorem xT(h:au X T pre (oe n ak next sure ja jn jc la ln lc) post w)(hl:1≤ak∧ak≤900):
 Calls Tryz.prog 106 #[.pointer (some ⟨X,pre.length,none⟩)] w fun e w'=>e=.returned (.int .i64 (ak * 1000))∧w'=w:=by
 have w1:IntKind.i64.wrap (ak * 1000)=ak * 1000:=by rw[IntKind.wrap_i64]; omega
 have c1:=h.cell 1 _ rfl;clear h;go_enter Tryz.func106,Tryz.ntmps106;go_wp2_with fail;go_ret;exact⟨rfl,rfl⟩
theorem BC(h:au X T pre (oe n ak next sure ja jn jc la ln lc) post w)(hl:1≤ak∧ak≤900)(hn:0≤next∧next≤999):
 Calls Tryz.prog 70 #[.pointer (some ⟨X,pre.length,none⟩)] w fun e w'=>e=.returned (.int .i64 (ak * 1000+next))∧Below w.heap.size w w':=by
 have w2:IntKind.i64.wrap (ak * 1000+next)=ak * 1000+next:=by rw[IntKind.wrap_i64]; omega
 have c2:=h.cell 2 _ rfl;have hX:=h.lt;have o2:=last.On.cell c2 hX;have a_:=last.On.gV w.heap.size w;have dX:∀x:last.On w.heap.size w,Calls Tryz.prog 106 #[.pointer (some ⟨X,pre.length,none⟩)] x.w fun e w'=>e=.returned (.int .i64 (ak * 1000))∧∃y:last.On w.heap.size w,w'=y.w:=fun x=>last.Calls.on x (Nat.le_refl _) ((xT X T pre post n ak next sure ja jn jc la ln lc x.w (h.below x.2) hl).mono fun e w' ⟨he,hw⟩=>⟨he,by rw[hw]; exact Below.refl _ _⟩)
 clear h c2;go_enter Tryz.func70,Tryz.ntmps70;go_wp2_with fail;refine last.ai w.heap.size (by kernel_rfl) (by kernel_rfl) ?_
 repeat(go_big_quiet_step ((first | (go_at_call 106; with_reducible exact dX _))))
 refine wpQuiet_nil ?_;intro wq a8;obtain⟨xq,a8⟩:=a8;subst a8;have cV:Below w.heap.size w xq.w:=xq.2;generalize xq.w=w4 at *;clear o2 dX a_;go_wp2_with fail;go_ret;exact⟨rfl,cV⟩
end
end cos
namespace cos
open Go Go.RowKit base av aN lay kN
def Qc(w:World)(ln:Nat)(hi:Int)(log:List Ch)(e:Ending)(w':World):Prop:=
 Below w.heap.size w w'∧(((decide (ln≤1000) && cU hi log)=false∧e=.returned (.tuple #[.map none,.bool false]))∨((decide (ln≤1000) && cU hi log)=true∧∃B m,e=.returned (.tuple #[.map (some B),.bool true])∧Made w' B m log))
theorem Tt{w:World}{a:Option Addr}{len:Nat}{l:List Ch}(h:nc q_ w a len l)(i:Nat)(hi:i<l.length):(Lit.int .i64 l[i].1).wf=true:=by
 obtain⟨vs,hv⟩:=h.2.2.1 l[i] (List.getElem_mem hi);exact(dH.eZ.1 hv).2.1
theorem Made.put{w':World}{B n:Nat}{log:List Ch}{D:DataW Unit}{c:Ch}(hD:Maps.IsMap D)(h3:∀d:Ch,(Lit.int .i64 d.1).wf=true→Maps.has D (MP d.1 d.2)=has log d∧D.atKey (MP d.1 d.2) (.lit (.int .i64 0))=.lit (.int .i64 (placeOf log d:Int)))(hw:(Lit.int .i64 c.1).wf=true)(hn:c∉log)
 (h1:w'.ownsMap Tryz.prog 87 (plainElem Tryz.prog 3) B n (D.put (MP c.1 c.2) (.lit (.int .i64 (log.length:Int))))):Made w' B n (log++[c]):=by
 refine⟨_,h1,fun d hd=>?_⟩
 rw[Kt,zq hn];by_cases e:d=c
 · subst e;rw[Maps.has_put_same hD (gC.key (l9 (y:=d.2) hd)),Maps.atKey_put_same hD (gC.key (l9 (y:=d.2) hd)),if_pos rfl];exact⟨by simp,rfl⟩
 · have aW:=Qb (y:=d.2) (y':=c.2) hd hw (fun e2=>e e2)
   rw[Maps.has_put_other aW,Maps.atKey_put_other aW,if_neg e,(h3 d hd).1,(h3 d hd).2];exact⟨by simp[e],rfl⟩
theorem BD(X:Nat)(T:TypeId)(pre post:List Value)(n ak next sure:Int)(ja:Option Addr)(jn jc:Nat)(la:Option Addr)(ln lc:Nat)(log:List Ch)(w:World)(bt:au X T pre (oe n ak next sure ja jn jc la ln lc) post w)(hl:nc q_ w la ln log)(zy:1≤ak∧ak≤900)(Qd:0≤next∧next≤999):
 Calls Tryz.prog 87 #[.pointer (some ⟨X,pre.length,none⟩)] w (Qc w ln (ak * 1000+next - 1) log):=by
 have lP:=hl.1;have Nl:=hl.2.1;unfold maxLen at Nl;have c4:=bt.cell 4 _ rfl;obtain⟨hi,F8⟩:∃hi:Int,ak * 1000+next - 1=hi:=⟨_,rfl⟩;rw[F8];have Z7:=Hid.mk' F8;clear F8;by_cases NR:ln≤1000
 · have vP:¬(1000:Int)<(ln:Int):=by omega
   have HR:Hid ((decide (ln≤1000) && cU hi log)=cU hi log):=by show _=_; rw[decide_eq_true NR,Bool.true_and]
   have OJ:= @run_makeMap Tryz.prog;have Lh:Below w.heap.size w (w.alloc (.map #[] 0)):=aS _ _;have d4:=(bt.below Lh).cell 4 _ rfl;go_enter Tryz.func87,Tryz.ntmps87;go_wp2_with (at_builtin; fail)
   go_loopw [19] (fun i wr=>∃k:Nat,k≤ln∧i=.int .i64 (k:Int)∧Made wr w.heap.size k (log.take k)∧cU hi (log.take k)=true∧Below w.heap.size w wr) (fun i _=>ln - (intOf i).toNat)
   case atStart=>exact⟨0,Nat.zero_le _,rfl,Kv w,rfl,Lh⟩
   case round=>
    obtain⟨k,hk,rfl,hM,bD,hB⟩:=hrel;clear OJ c4 d4 Lh;by_cases a6:k<ln
    · have ck:k<log.length:=by omega
      obtain⟨b,off,e⟩:=fT hl (by omega)
      subst e;have hS:=hl.below hB;obtain⟨e0,e1⟩:=vf hS k ck;have fo:=Tt hS k ck;have fL:(k:Int)<(ln:Int):=by omega
      have gW:Hid ((decide (1000≤log[k].1∧log[k].1≤hi) && !dc (log.take k) log[k].1)=false→cU hi log=false):=DX ck;have Tu:Hid ((decide (1000≤log[k].1∧log[k].1≤hi) && !dc (log.take k) log[k].1)=true→cU hi (log.take (k+1))=true):=fun e=>by
       rw[List.take_succ_eq_append_getElem ck,vz,bD,e]; rfl
      have xr:Hid (log.take (k+1)=log.take k++[log[k]]):=List.take_succ_eq_append_getElem ck;have A8:Hid ((log.take k).length=k):=by show _=_; simp; omega
      have CM:Hid (dc (log.take k) log[k].1=false→log[k]∉log.take k):=fun e hm=>by
       have:dc (log.take k) log[k].1=true:=ot.2 ⟨log[k].2,hm⟩;rw[e] at this; cases this
      generalize log[k]=c at *;obtain⟨tx,y⟩:=c;simp only[] at *;obtain⟨V,hV⟩:∃V,wr.alloc (.cells #[.int .i64 tx,.bool y] 87)=V:=⟨_,rfl⟩;have mZ:Below wr.heap.size wr V:=by rw[←hV]; exact aS _ _
      have q0:V.cell? ⟨wr.heap.size,0,none⟩=some (.int .i64 tx):=by rw[←hV]; simp
      have q1:V.cell? ⟨wr.heap.size,1,none⟩=some (.bool y):=by rw[←hV]; simp
      have kV:=hB.trans (mZ.mono hB.size);have wv:=hM.below mZ;have Z8:=bt.below kV;have o0:=last.On.cell (B:=V.heap.size) q0 (World.block_lt_of_cell? _ _ q0);have a_:=last.On.gV V.heap.size V;have rA:∀x:last.On V.heap.size V,Calls Tryz.prog 70 #[.pointer (some ⟨X,pre.length,none⟩)] x.w fun e w'=>e=.returned (.int .i64 (ak * 1000+next))∧∃y:last.On V.heap.size V,w'=y.w:=fun x=>last.Calls.on x (Nat.le_refl _) (BC X T pre post n ak next sure ja jn jc _ ln lc x.w (Z8.below x.2) zy Qd)
      have vR:∀x:last.On V.heap.size V,Calls Tryz.prog 119 #[.map (some w.heap.size),.int .i64 tx] x.w fun e w'=>e=.returned (.bool (dc (log.take k) tx))∧∃y:last.On V.heap.size V,w'=y.w:=fun x=>last.Calls.on x (Nat.le_refl _) (xS w.heap.size k (log.take k) tx x.w (wv.below x.2) fo)
      have HV:=Hid.mk' hV;have HMV:=Hid.mk' wv;clear hV hM bt hl hS mZ hB Z8 wv;by_cases Hd:tx<1000
      · have HF:Hid (cU hi log=false):=gW.out (by rw[decide_eq_false (by omega)]; rfl)
        clear gW Tu CM;have htd:decide (tx<1000)=true:=decide_eq_true Hd;go_wp2_with fail;rw[HV.out];refine last.ai V.heap.size (by kernel_rfl) (by kernel_rfl) ?_
        repeat(go_big_quiet_step ((first | (go_at_call 70; with_reducible exact rA _) | (go_at_call 119; with_reducible exact vR _))))
        refine wpQuiet_nil ?_;intro wq a8;obtain⟨xq,a8⟩:=a8;subst a8;have cV:Below V.heap.size V xq.w:=xq.2;generalize xq.w=w4 at *;clear o0 rA vR a_;go_wp2_with fail;go_returns
        exact⟨kV.trans (cV.mono kV.size),.inl ⟨by rw[HR.out,HF.out],rfl⟩⟩
      have htd:decide (tx<1000)=false:=decide_eq_false Hd;by_cases K9:ak * 1000+next≤tx
      · have hte:decide (ak * 1000+next≤tx)=true:=decide_eq_true K9;have HF:Hid (cU hi log=false):=gW.out (by have:=Z7.out; rw[decide_eq_false (by omega)]; rfl)
        clear gW Tu CM;go_wp2_with fail;rw[HV.out];refine last.ai V.heap.size (by kernel_rfl) (by kernel_rfl) ?_
        repeat(go_big_quiet_step ((first | (go_at_call 70; with_reducible exact rA _) | (go_at_call 119; with_reducible exact vR _))))
        refine wpQuiet_nil ?_;intro wq a8;obtain⟨xq,a8⟩:=a8;subst a8;have cV:Below V.heap.size V xq.w:=xq.2;generalize xq.w=w4 at *;clear o0 rA vR a_;go_wp2_with fail;go_returns
        exact⟨kV.trans (cV.mono kV.size),.inl ⟨by rw[HR.out,HF.out],rfl⟩⟩
      have hte:decide (ak * 1000+next≤tx)=false:=decide_eq_false K9;cases Qe:dc (log.take k) tx
      · have HG:Hid (cU hi (log.take (k+1))=true):=Tu.out (by have:=Z7.out; rw[Qe,decide_eq_true (by omega)]; rfl)
        have HNM:Hid ((tx,y)∉log.take k):=CM.out Qe;rw[Qe] at vR;clear gW Tu CM Qe;go_wp2_with fail;rw[HV.out];refine last.ai V.heap.size (by kernel_rfl) (by kernel_rfl) ?_
        repeat(go_big_quiet_step ((first | (go_at_call 70; with_reducible exact rA _) | (go_at_call 119; with_reducible exact vR _))))
        refine wpQuiet_nil ?_;intro wq a8;obtain⟨xq,a8⟩:=a8;subst a8;have cV:Below V.heap.size V xq.w:=xq.2;generalize xq.w=w4 at *;clear o0 rA vR a_;have ej:=kV.trans (cV.mono kV.size);obtain⟨D,aB,h3⟩:=HMV.out.below cV;have H3:=Hid.mk' h3;have g0:w4.cell? ⟨wr.heap.size,0,none⟩=some (.int .i64 tx):=(cV.cell (p:=⟨wr.heap.size,0,none⟩) (World.block_lt_of_cell? _ _ q0)).trans q0;have g1:w4.cell? ⟨wr.heap.size,1,none⟩=some (.bool y):=(cV.cell (p:=⟨wr.heap.size,1,none⟩) (World.block_lt_of_cell? _ _ q1)).trans q1;have lN:=l9 (y:=y) fo;clear h3 q0 q1 e0 e1;go_wp2_with (at_mapUpdate; refine wpList_mapUpdate_own _ rfl _ _ _ 90 rfl 87 3 gC Tryz.underlying90 _ w.heap.size k D rfl aB (by unfold maxLen; omega) _ _ _ rfl rfl lN _ [] (plainElem_int Tryz.underlying3 (WalkArith.wf_i64 (by omega))) ?_)
        intro w5 ic eN;have j6:Made w5 w.heap.size (k+1) (log.take (k+1)):=by
         rw[xr.out];exact Made.put aB.isMap H3.out fo HNM.out (by rw[A8.out]; exact ic)
        have ec:=ej.grown eN ej.size (fun j hj=>by cases hj; exact Nat.le_refl _)
        clear ic eN aB;go_wp2_with fail;go_roundw
        case rel=>exact⟨k+1,by omega,by go_num,j6,HG.out,ec⟩
        case measure=>simp[intOf]; omega
      · have HF:Hid (cU hi log=false):=gW.out (by rw[Qe]; simp)
        rw[Qe] at vR;clear gW Tu CM Qe;go_wp2_with fail;rw[HV.out];refine last.ai V.heap.size (by kernel_rfl) (by kernel_rfl) ?_
        repeat(go_big_quiet_step ((first | (go_at_call 70; with_reducible exact rA _) | (go_at_call 119; with_reducible exact vR _))))
        refine wpQuiet_nil ?_;intro wq a8;obtain⟨xq,a8⟩:=a8;subst a8;have cV:Below V.heap.size V xq.w:=xq.2;generalize xq.w=w4 at *;clear o0 rA vR a_;go_wp2_with fail;go_returns
        exact⟨kV.trans (cV.mono kV.size),.inl ⟨by rw[HR.out,HF.out],rfl⟩⟩
    · have EF:log.take k=log:=List.take_of_length_le (by omega)
      rw[EF] at hM bD;have HM:=Hid.mk' hM;have eX:=Hid.mk' bD;have fL:¬(k:Int)<(ln:Int):=by omega
      clear hM bD EF bt hl;go_wp2_with fail;go_returns
      exact⟨hB,.inr ⟨by rw[HR.out,eX.out],_,_,rfl,HM.out⟩⟩
 · have vP:(1000:Int)<(ln:Int):=by omega
   clear bt hl;go_enter Tryz.func87,Tryz.ntmps87;go_wp2_with fail;go_returns
   exact⟨Below.refl _ _,.inl ⟨by rw[decide_eq_false NR]; rfl,rfl⟩⟩
end cos
namespace aN
open Go Go.RowKit base av
open Go.ChangeMaps Go.MapKept
open Go.WideElems (Fit rd rg pl rd_val rd_key rg_of)
open Go.Maps (Keyed)
open Go.Maps (keyOf_int_mk)
theorem zr:Keyed Tryz.prog 3:=Maps.int_keyed Tryz.underlying3
def Cm:Value→Option (DataW Unit × List MemPlace):=fun _=>some (.nil,[])
def xU(es:Array MapEntry)(D:DataW Unit):Prop:=D=.map ((es.toList.map (rg Tryz.prog 3 Cm)).foldr DataW.insert [])
def Ri(f:Int→List Od)(s:Int)(l:List Od)(t:Int):List Od:=if t=s then l else f t
theorem ri(f:Int→List Od)(s:Int)(l:List Od):Ri f s l s=l:=if_pos rfl
theorem oY{f:Int→List Od}{s t:Int}{l:List Od}(h:t≠s):Ri f s l t=f t:=if_neg h
def eT(w:World)(B base n:Nat)(f:Int→List Od):Prop:=
 ∃es clock,w.heap[B]? =some (.map es clock)∧Fit Tryz.prog 3 Cm es clock∧es.size≤n∧B<base∧
  (∀x∈es.toList,∃(s:Int) (g m cp:Nat),x.key=.int .i64 s∧x.val=.slice (some ⟨g,0,none⟩) m cp∧f s≠[]∧bR w base g m cp (f s))∧
  (∀D,xU es D→∀s,(Lit.int .i64 s).wf=true→(Maps.has D (.int .i64 s)=true↔f s≠[]))∧
  ∀x∈es.toList,∀y∈es.toList,x.key≠y.key→x.val.ownBlock≠y.val.ownBlock
section
variable{w w':World}{B base n:Nat}{f:Int→List Od}{row:Option Nat}
theorem BE(w:World):eT (w.alloc (.map #[] 0)) w.heap.size (w.heap.size+1) 0 (fun _=>[]):=
 ⟨#[],0,(MapKept.heap_alloc w _).1,⟨by simp,stamped_empty 0,by simp⟩,Nat.le_refl _,Nat.lt_succ_self _,by simp,fun D hD s _=>by unfold xU at hD; subst hD; simp[Maps.has],by simp⟩
theorem eT.lt(h:eT w B base n f):B<w.heap.size:=by
 obtain⟨es,clock,hb,_⟩:=h;exact(Array.getElem?_eq_some_iff.1 hb).1
theorem eT.size(h:eT w B base n f):B<base:=by
 obtain⟨es,clock,hb,_,_,h1,_⟩:=h;exact h1
theorem eT.grown(h:eT w B base n f)(hg:w.grownBy w' row)(hB:some B≠row)(hr:∀j,row=some j→j<base):eT w' B base n f:=by
 have a6:=h.lt;obtain⟨es,clock,hb,F,hs,pF,Lr,dj,Fl⟩:=h;refine⟨es,clock,(hg.block B a6 hB).trans hb,F,hs,pF,fun x hx=>?_,dj,Fl⟩
 obtain⟨s,g,m,cp,h1,h2,h3,h4⟩:=Lr x hx;exact⟨s,g,m,cp,h1,h2,h3,h4.grown hg (fun e=>by have:=hr g e.symm; have:=h4.lt; omega)⟩
theorem eT.below(h:eT w B base n f)(hb:Below w.heap.size w w'):eT w' B base n f:=
 h.grown (row:=none) ⟨hb.os,hb.tape,hb.output,hb.size,fun k hk _=>hb.block k hk⟩ (by simp) (fun j e=>by cases e)
theorem eT.owns(h:eT w B base n f):∃D,w.ownsMap Tryz.prog 3 Cm B n D∧Maps.IsMap D∧∀s,(Lit.int .i64 s).wf=true→(Maps.has D (.int .i64 s)=true↔f s≠[]):=by
 obtain⟨es,clock,hb,F,hs,pF,Lr,dj,Fl⟩:=h;exact⟨_,⟨es,clock,hb,F,hs,rfl⟩,⟨_,rfl⟩,dj _ rfl⟩
def MQ(w:World)(B base n:Nat)(f:Int→List Od)(s:Int)(v:Value):Prop:=
 ∀(w1:World) (g m cp:Nat) (l':List Od),w.grownBy w1 v.ownBlock→bR w1 base g m cp l'→l'≠[]→(some g=v.ownBlock∨w.heap.size≤g)→
  ∃w2,(Instr.mapUpdate 84 (.map (some B)) (.int .i64 s) (.slice (some ⟨g,0,none⟩) m cp)).run Tryz.prog w1=.ok () w2∧
   eT w2 B base (n+1) (Ri f s l')∧w1.grownBy w2 (some B)
theorem ta{es:Array MapEntry}{clock:Nat}{s:Int}{v:Value}(Cn:(Lit.int .i64 s).wf=true)(hb:w.heap[B]? =some (.map es clock))(F:Fit Tryz.prog 3 Cm es clock)(hs:es.size≤n)(hn:n<maxLen)(pF:B<base)
 (Lr:∀x∈es.toList,∃(s:Int) (g m cp:Nat),x.key=.int .i64 s∧x.val=.slice (some ⟨g,0,none⟩) m cp∧f s≠[]∧bR w base g m cp (f s))
 (dj:∀D,xU es D→∀s,(Lit.int .i64 s).wf=true→(Maps.has D (.int .i64 s)=true↔f s≠[]))
 (Fl:∀x∈es.toList,∀y∈es.toList,x.key≠y.key→x.val.ownBlock≠y.val.ownBlock)
 (hv:∀x∈es.toList,x.key≠ .int .i64 s→x.val.ownBlock≠v.ownBlock) (MR:v.ownBlock≠some B):MQ w B base n f s v:=by
 intro w1 g m cp l' hg Z9 Tv tF;have XN:B<w.heap.size:=(Array.getElem?_eq_some_iff.1 hb).1;have aT:w1.heap[B]? =some (.map es clock):=(hg.block B XN (fun e1=>MR e1.symm)).trans hb
 have lN:=keyOf_int_mk (P:=Tryz.prog) Tryz.underlying3 Cn;obtain⟨Tw,Kw,dh,F',Tx,_,_,Qf⟩:=Maps.fit_store (R:=Cm) (R':=Cm) (val:=.slice (some ⟨g,0,none⟩) m cp) zr Tryz.underlying84 aT F (Nat.lt_of_le_of_lt hs hn) (fun x hx _ z hz=>hz) lN (yv:=(.nil,[])) rfl
 have lC:w1.grownBy (setBlock w1 B (.map Tw Kw)) (some B):=⟨rfl,rfl,rfl,by simp[setBlock],fun i _ hi=>heap_setBlock_other aT _ (fun e1=>hi (by rw[e1]))⟩
 obtain⟨D0,Lj⟩:∃D,xU es D:=⟨_,rfl⟩;have hD:∀D',xU Tw D'→D'=D0.put (.int .i64 s) .nil:=by intro D' h'; unfold xU at h' Lj; rw[h',Lj,DataW.put_eq,Tx]
 have hD1:Maps.IsMap D0:=⟨_,Lj⟩;have hgb:=Z9.lt;refine⟨_,dh,⟨Tw,Kw,heap_setBlock_same aT _,F',?_,pF,?_,?_,?_⟩,lC⟩
 · have e1:Tw.size=((Tw.toList.map (rg Tryz.prog 3 Cm)).foldr DataW.insert []).length:=by rw[length_sorted]; simp
   rw[e1,Tx];unfold Go.ChangeMaps.putKey;rw[length_insert];have e2:=List.length_filter_le (notKey (.int .i64 s)) ((es.toList.map (rg Tryz.prog 3 Cm)).foldr DataW.insert []);rw[length_sorted] at e2;simp at e2;omega
 · intro x hx;rcases Qf x hx with⟨Ph,Ls⟩ | ⟨Ls,XO⟩
   · obtain⟨t,gx,mx,cx,h1,h2,h3,h4⟩:=Lr x Ph;have Mc:t≠s:=fun e=>Ls (by rw[h1,e])
     have hgx:some gx≠v.ownBlock:=fun e=>hv x Ph Ls (by rw[h2]; exact e)
     have:=h4.lt;exact⟨t,gx,mx,cx,h1,h2,by rw[oY Mc]; exact h3,by rw[oY Mc]; exact(h4.grown hg hgx).grown lC (fun e=>by cases e; omega)⟩
   · exact⟨s,g,m,cp,Ls,XO,by rw[ri]; exact Tv,by rw[ri]; exact Z9.grown lC (fun e=>by cases e; omega)⟩
 · intro D' h' t ht;rw[hD D' h'];by_cases e:t=s
   · subst e;rw[Maps.has_put_same hD1 (by trivial)]
     rw[ri]; simpa using Tv
   · rw[Maps.has_put_other (fun e1=>e (by cases e1; rfl)),dj D0 Lj t ht,oY e]
 · have EZ:∀x∈es.toList,x.key≠ .int .i64 s→x.val.ownBlock≠some g:=by
    intro x hx Ls e1;rcases tF with h1 | h1
    · exact hv x hx Ls (by rw[e1,h1])
    · obtain⟨t,gx,mx,cx,_,h2,_,h4⟩:=Lr x hx;have:=h4.lt;rw[h2] at e1;simp[Value.ownBlock] at e1;omega
   intro x hx y hy aW;rcases Qf x hx with⟨Ph,Ls⟩ | ⟨Ls,XO⟩ <;> rcases Qf y hy with⟨yR,XP⟩ | ⟨XP,hyv⟩
   · exact Fl x Ph y yR aW
   · rw[hyv]; exact EZ x Ph Ls
   · rw[XO]; exact fun e=>EZ y yR XP e.symm
   · exact absurd (Ls.trans XP.symm) aW
theorem eT.look(h:eT w B base n f){s:Int}(Cn:(Lit.int .i64 s).wf=true)(hn:n<maxLen):
 ∃v,(Instr.lookup 84 (.map (some B)) (.int .i64 s) false).run Tryz.prog w=.ok v w∧w.ownsRow base 121 3 v (f s).length (aM (f s))∧(∀p∈f s,dN p)∧MQ w B base n f s v:=by
 obtain⟨es,clock,hb,F,hs,pF,Lr,dj,Fl⟩:=h;have lN:=keyOf_int_mk (P:=Tryz.prog) Tryz.underlying3 Cn;rcases Maps.fit_look (R:=Cm) false zr Tryz.underlying84 (z:=.slice none 0 0) (by kernel_rfl) hb F lN with⟨dh,ku,fl⟩ | ⟨e0,y,Ty,h3,dh,hR,fl,_⟩
 · have hf:f s=[]:=by
    have:=Maps.has_false_of_atKey fl;have h1:=dj _ rfl s Cn;cases Q7:f s with
    | nil=>rfl
    | cons a l=>
     have h2:=h1.2 (by rw[Q7]; simp)
     rw[this] at h2; cases h2
   refine⟨.slice none 0 0,by simpa using dh,by rw[hf]; exact World.ownsRow_nil _ _ _ _,by rw[hf]; exact fun p hp=>absurd hp List.not_mem_nil,ta Cn hb F hs hn pF Lr dj Fl (fun x hx _=>?_) (by simp[Value.ownBlock])⟩
   obtain⟨t,g,m,cp,_,h2,_,_⟩:=Lr x hx;rw[h2]; simp[Value.ownBlock]
 · obtain⟨t,g,m,cp,h1,h2,h4,h5⟩:=Lr e0 Ty;obtain rfl:t=s:=by rw[h3] at h1; cases h1; rfl
   have a6:=h5.lt;refine⟨e0.val,by simpa using dh,by rw[h2,h5.1]; exact h5.2.2,h5.2.1,ta Cn hb F hs hn pF Lr dj Fl (fun x hx aW=>Fl x hx e0 Ty (by rw[h3]; exact aW)) ?_⟩
   rw[h2]; simp[Value.ownBlock]; omega
end
theorem qi(w:World){ops:Array Oper}{rest:List Oper}{o:Oper}{a:Act}{Q:Exit→Act→World→Prop}
 (hg:o.guard=none) (m x:Operand) (B9:o.op=Op.lookup 84 m x false) {B base n:Nat} {f:Int→List Od} {s:Int}
 (hm:a.eval m=.map (some B)) (hx:a.eval x=.int .i64 s) (h:eT w B base n f) (Cn:(Lit.int .i64 s).wf=true) (hn:n<maxLen)
 (hK:∀v,w.ownsRow base 121 3 v (f s).length (aM (f s))→(∀p∈f s,dN p)→MQ w B base n f s v→wpList Tryz.prog ops Q rest (a.put o.dst v) w):
 wpList Tryz.prog ops Q (o::rest) a w:=by
 refine wpList_plain hg fun K' OL=>?_
 obtain⟨v,dh,h1,h2,h3⟩:=h.look Cn hn;unfold Oper.wp;simp[execOp,B9,hm,hx,dh,Result.andThen];exact OL _ _ (hK v h1 h2 h3)
theorem rj(w:World){ops:Array Oper}{rest:List Oper}{o:Oper}{a:Act}{Q:Exit→Act→World→Prop}
 (hg:o.guard=none) (m x y:Operand) (B9:o.op=Op.mapUpdate 84 m x y) {w0:World} {B base n g k cp:Nat} {f:Int→List Od} {s:Int} {v:Value} {l':List Od}
 (E0:MQ w0 B base n f s v) (hm:a.eval m=.map (some B)) (hx:a.eval x=.int .i64 s) (hy:a.eval y=.slice (some ⟨g,0,none⟩) k cp)
 (jF:w0.grownBy w v.ownBlock) (hO:bR w base g k cp l') (aW:l'≠[]) (tF:some g=v.ownBlock∨w0.heap.size≤g)
 (hK:∀w2,eT w2 B base (n+1) (Ri f s l')→w.grownBy w2 (some B)→wpList Tryz.prog ops Q rest (a.put o.dst undef) w2):
 wpList Tryz.prog ops Q (o::rest) a w:=by
 refine wpList_plain hg fun K' OL=>?_
 obtain⟨w2,dh,r1,r2⟩:=E0 w g k cp l' jF hO aW tF;unfold Oper.wp;simp[execOp,B9,hm,hx,hy,dh,Result.andThen];exact OL _ _ (hK w2 r1 r2)
end aN
namespace NS
open Go Go.Proofs Go.Shelf
def Qg:Go.Shelf.Ren:=⟨fun | 189=>175 | 125=>184 | 257=>183 | 128=>197 | 129=>198 | 294=>188 | 295=>189 | 296=>190 | 297=>191 | 298=>192 | 299=>193 | 216=>194 | 300=>195 | 301=>196 | 328=>199 | 329=>200 | 330=>201 | 331=>202 | 332=>203 | 215=>116 | 343=>204 | n=>n,fun | 28=>54 | 3=>3 | 46=>183 | 0=>0 | 51=>238 | 53=>240 | 4=>4 | 183=>231 | 182=>230 | 131=>220 | 5=>5 | 9=>9 | 218=>241 | 222=>245 | 228=>247 | 229=>248 | n=>n,fun | n=>n⟩
theorem MS:Go.Proofs.Lays.n189 Tryz.prog Qg:={
 mixed:=by kernel_rfl
 f125:=Tryz.func184.trans (congrArg some (by kernel_rfl))
 f128:=Tryz.func197.trans (congrArg some (by kernel_rfl))
 f129:=Tryz.func198.trans (congrArg some (by kernel_rfl))
 f189:=Tryz.func175.trans (congrArg some (by kernel_rfl))
 f215:=Tryz.func116.trans (congrArg some (by kernel_rfl))
 f216:=Tryz.func194.trans (congrArg some (by kernel_rfl))
 f257:=Tryz.func183.trans (congrArg some (by kernel_rfl))
 f294:=Tryz.func188.trans (congrArg some (by kernel_rfl))
 f295:=Tryz.func189.trans (congrArg some (by kernel_rfl))
 f296:=Tryz.func190.trans (congrArg some (by kernel_rfl))
 f297:=Tryz.func191.trans (congrArg some (by kernel_rfl))
 f298:=Tryz.func192.trans (congrArg some (by kernel_rfl))
 f299:=Tryz.func193.trans (congrArg some (by kernel_rfl))
 f300:=Tryz.func195.trans (congrArg some (by kernel_rfl))
 f301:=Tryz.func196.trans (congrArg some (by kernel_rfl))
 f328:=Tryz.func199.trans (congrArg some (by kernel_rfl))
 f329:=Tryz.func200.trans (congrArg some (by kernel_rfl))
 f330:=Tryz.func201.trans (congrArg some (by kernel_rfl))
 f331:=Tryz.func202.trans (congrArg some (by kernel_rfl))
 f332:=Tryz.func203.trans (congrArg some (by kernel_rfl))
 f343:=Tryz.func204.trans (congrArg some (by kernel_rfl))
 t0:=Tryz.underlying0
 a0:=Tryz.isAgg0
 z0:=Tryz.sizeOf0
 v0:=Tryz.zeroValue0
 t3:=Tryz.underlying3
 a3:=Tryz.isAgg3
 z3:=Tryz.sizeOf3
 v3:=Tryz.zeroValue3
 t4:=Tryz.underlying4
 a4:=Tryz.isAgg4
 z4:=Tryz.sizeOf4
 v4:=Tryz.zeroValue4
 t5:=Tryz.underlying5
 a5:=Tryz.isAgg5
 z5:=Tryz.sizeOf5
 v5:=Tryz.zeroValue5
 t9:=Tryz.underlying9
 a9:=Tryz.isAgg9
 z9:=Tryz.sizeOf9
 v9:=Tryz.zeroValue9
 t28:=Tryz.underlying54
 a28:=Tryz.isAgg54
 z28:=Tryz.sizeOf54
 v28:=Tryz.zeroValue54
 t46:=Tryz.underlying183
 a46:=Tryz.isAgg183
 z46:=Tryz.sizeOf183
 v46:=Tryz.zeroValue183
 t51:=Tryz.underlying238
 a51:=Tryz.isAgg238
 z51:=Tryz.sizeOf238
 v51:=Tryz.zeroValue238
 t53:=Tryz.underlying240
 a53:=Tryz.isAgg240
 z53:=Tryz.sizeOf240
 v53:=Tryz.zeroValue240
 t131:=Tryz.underlying220
 a131:=Tryz.isAgg220
 z131:=Tryz.sizeOf220
 v131:=Tryz.zeroValue220
 t182:=Tryz.underlying230
 a182:=Tryz.isAgg230
 z182:=Tryz.sizeOf230
 v182:=Tryz.zeroValue230
 t183:=Tryz.underlying231
 a183:=Tryz.isAgg231
 z183:=Tryz.sizeOf231
 v183:=Tryz.zeroValue231
 t218:=Tryz.underlying241
 a218:=Tryz.isAgg241
 z218:=Tryz.sizeOf241
 v218:=Tryz.zeroValue241
 t222:=Tryz.underlying245
 a222:=Tryz.isAgg245
 z222:=Tryz.sizeOf245
 v222:=Tryz.zeroValue245
 t228:=Tryz.underlying247
 a228:=Tryz.isAgg247
 z228:=Tryz.sizeOf247
 v228:=Tryz.zeroValue247
 t229:=Tryz.underlying248
 a229:=Tryz.isAgg248
 z229:=Tryz.sizeOf248
 v229:=Tryz.zeroValue248}
open Go.Sort Go.RowKit in
theorem Kx(Tz off cap:Nat)(zs:List Int)(w:World)(hH:Holds (Value.int .i64) w Tz off zs.toArray)(XQ:Tz<w.heap.size)(iO:zs.length<4611686018427387904):
 Calls Tryz.prog 175 #[.slice (some ⟨Tz,off,none⟩) zs.length cap] w fun e w'=>
  e=.returned (.tuple #[])∧∃n os,w'=grow (putRow (Value.int .i64) (Sort.ahead w n) Tz off (zs.mergeSort fun x y=>decide (x≤y)).toArray) os:=Any.slices_Sort_int MS Tz off cap zs w hH XQ iO
end NS
end Go.Proofs.YtmibabclefgljaaGreat
