/- CoIm CoK CoJ RowM SortI -/
import Derived.Test.YtmibabclefgljaaGreatShau
import Derived.Test.YtmibabclefgljaaGreatShav
import Derived.Test.YtmibabclefgljaaGreatSham
import Derived.Test.YtmibabclefgljaaGreatShac
import Derived.Maps.OwnSet
import Derived.Maps.OwnOps
import Derived.Maps.Views
import Derived.DeepKeys4
import Derived.BigQuiet
import Derived.Handy
import Derived.Test.YtmibabclefgljaaGreatShaf
import Derived.Test.YtmibabclefgljaaGreatShah
import Derived.Maps.AppendAt
import Derived.Maps.RangeWalk
import Derived.Shelf.Sort.Plain
import Derived.Shelf.Slices.In.SortNone
import Derived.Test.YtmibabclefgljaaGreatProg
set_option linter.unusedVariables false
set_option linter.unusedSimpArgs false
set_option maxRecDepth 100000
set_option maxHeartbeats 2000000
namespace Go.Proofs.YtmibabclefgljaaGreat
namespace cos
open Go Go.RowKit base aE aX
/-! ### shards that said yes: what stands up to each that is found is cut off -/
def ic:List Int→List Int→Bool
 | _,[]=>true
 | left,x::r=>match left.findIdx? (fun z=>decide (z=x)) with | none=>false | some k=>ic (left.drop (k+1)) r
def nc(p:Option Int)(z:Int):Bool:=match p with | none=>true | some q=>decide (q<z)
theorem KD{l:List Int}(h:tJ l){k:Nat}(hk:k<l.length):l.drop (k+1)=l.filter (fun z=>decide (l[k]<z)):=by
 have e:=List.take_append_drop (k+1) l;have h1:(l.take (k+1)).filter (fun z=>decide (l[k]<z))=[]:=by
  refine List.filter_eq_nil_iff.2 fun x hx=>?_
  obtain⟨i,hi,rfl⟩:=List.getElem_of_mem hx;rw[List.getElem_take];simp only[List.length_take] at hi;rcases Nat.lt_or_ge i k with Wt | Wt
  · have:=List.pairwise_iff_getElem.1 h i k (by omega) hk Wt
    simp; omega
  · have:i=k:=by omega
    subst this; simp
 have h2:(l.drop (k+1)).filter (fun z=>decide (l[k]<z))=l.drop (k+1):=by
  refine List.filter_eq_self.2 fun x hx=>?_
  obtain⟨i,hi,rfl⟩:=List.getElem_of_mem hx;rw[List.getElem_drop];simp only[List.length_drop] at hi;have:=List.pairwise_iff_getElem.1 h k (k+1+i) hk (by omega) (by omega)
  simpa using this
 generalize l[k]=y at *;have h3:l.filter (fun z=>decide (y<z))=(l.take (k+1)++l.drop (k+1)).filter (fun z=>decide (y<z)):=by rw[e]
 rw[h3,List.filter_append,h1,h2,List.nil_append]
theorem KE{list:List Int}(ha:tJ list)(p:Option Int)(x:Int)(r:List Int):ic (list.filter (nc p)) (x::r)=(decide (x∈list) && nc p x && ic (list.filter (nc (some x))) r):=by
 have hf:tJ (list.filter (nc p)):=List.Pairwise.filter _ ha;cases e:(list.filter (nc p)).findIdx? (fun z=>decide (z=x)) with
 | none=>
  have hn:x∉list.filter (nc p):=fun hm=>by
   have:=List.findIdx?_eq_none_iff.1 e x hm;simp at this
  have h0:(decide (x∈list) && nc p x)=false:=by
   cases hp:nc p x
   · simp
   · have:x∉list:=fun hm=>hn (List.mem_filter.2 ⟨hm,hp⟩)
     simp[this]
  have hs:ic (list.filter (nc p)) (x::r)=false:=by
   conv=>lhs; unfold ic
   rw[e]
  rw[hs,h0,Bool.false_and]
 | some k=>
  obtain⟨hk,hp,_⟩:=j6 e;have hx:(list.filter (nc p))[k]=x:=of_decide_eq_true hp;have hm:x∈list.filter (nc p):=by rw[←hx]; exact List.getElem_mem hk
  obtain⟨FC,jU⟩:=List.mem_filter.1 hm;have h3:(list.filter (nc p)).drop (k+1)=list.filter (nc (some x)):=by
   rw[KD hf hk,hx,List.filter_filter];refine List.filter_congr fun z hz=>?_
   show(decide (x<z) && nc p z)=decide (x<z);by_cases bn:x<z
   · have:nc p z=true:=by
      cases p with
      | none=>rfl
      | some q=>have:=of_decide_eq_true jU; exact decide_eq_true (by omega)
     rw[this,Bool.and_true]
   · simp[bn]
  have hs:ic (list.filter (nc p)) (x::r)=ic ((list.filter (nc p)).drop (k+1)) r:=by
   conv=>lhs; unfold ic
   rw[e]
  rw[hs,h3,decide_eq_true FC,jU,Bool.true_and,Bool.true_and]
theorem MZ{list:List Int}(ha:tJ list)(p:Option Int)(ys:List Int):ic (list.filter (nc p)) ys=dZ list p ys:=by
 induction ys generalizing p with
 | nil=>rfl
 | cons x r ih=>
  rw[KE ha,ih (some x)];cases p <;> rfl
theorem M0{list:List Int}(ha:tJ list)(ys:List Int):ic list ys=dZ list none ys:=by
 have:=MZ ha none ys;oU [show list.filter (nc none)=list from List.filter_eq_self.2 fun _ _=>rfl] at this
/-! ### choices -/
def has(log:List Ch)(c:Ch):Bool:=decide (c∈log)
def dv(log:List Ch)(tx:Int):Bool:=has log (tx,true) || has log (tx,false)
def placeOf(log:List Ch)(c:Ch):Nat:=(log.findIdx? fun d=>decide (d=c)).getD 0
theorem oM{log:List Ch}{tx:Int}:dv log tx=true↔∃y,(tx,y)∈log:=by
 unfold dv has;rw[Bool.or_eq_true,decide_eq_true_iff,decide_eq_true_iff];constructor
 · rintro(h | h)
   · exact⟨true,h⟩
   · exact⟨false,h⟩
 · rintro⟨y,h⟩;cases y
   · exact .inr h
   · exact .inl h
theorem p8{log:List Ch}(hn:(log.map fun c=>c.1).Nodup){c:Ch}(h:c∈log):choice log c.1=some c.2:=by
 obtain⟨i,hi,rfl⟩:=List.getElem_of_mem h;obtain⟨hk,e⟩:=oH (nodup_iff.1 hn i hi);exact e
theorem p9{log:List Ch}{tx:Int}{y:Bool}(h:choice log tx=some y):(tx,y)∈log:=by
 unfold choice at h;cases e:log.find? (fun c=>decide (c.1=tx)) with
 | none=>rw[e] at h; cases h
 | some c=>
  rw[e] at h;simp only[Option.map_some,Option.some.injEq] at h;have h1:=List.mem_of_find?_eq_some e;have h2:c.1=tx:=by have h3:=List.find?_some e; simpa using h3
  rw[←h,←h2]; exact h1
theorem nf{log:List Ch}(hn:(log.map fun c=>c.1).Nodup)(tx:Int)(y:Bool):has log (tx,y)=decide (choice log tx=some y):=by
 unfold has;rw[decide_eq_decide];exact⟨fun h=>p8 hn h,p9⟩
theorem vR{log:List Ch}(hn:(log.map fun c=>c.1).Nodup)(tx:Int):dv log tx=(choice log tx).isSome:=by
 unfold dv;rw[nf hn,nf hn];cases choice log tx with
 | none=>rfl
 | some y=>cases y <;> rfl
theorem BQ{hi:Int}{log:List Ch}(h:di hi log=true):(log.map fun c=>c.1).Nodup:=by
 unfold di at h;rw[Bool.and_eq_true,decide_eq_true_iff] at h;exact h.2
theorem vS{hi:Int}{l:List Ch}{c:Ch}:di hi (l++[c])=(di hi l && (decide (1000≤c.1∧c.1≤hi) && !dv l c.1)):=by
 have hiff:di hi (l++[c])=true↔(di hi l && (decide (1000≤c.1∧c.1≤hi) && !dv l c.1))=true:=by
  unfold di;simp only[Bool.and_eq_true,List.all_append,List.map_append,List.map_cons,List.map_nil,decide_eq_true_iff,Bool.not_eq_true',List.all_cons,List.all_nil,Bool.and_true];rw[List.nodup_append];constructor
  · rintro⟨⟨h1,h2⟩,h3,_,h4⟩;refine⟨⟨h1,h3⟩,h2,?_⟩;cases e:dv l c.1
    · rfl
    · obtain⟨y,hy⟩:=oM.1 e;exact absurd rfl (h4 c.1 (List.mem_map.2 ⟨_,hy,rfl⟩) c.1 (by simp))
  · rintro⟨⟨h1,h3⟩,h2,h4⟩;refine⟨⟨h1,h2⟩,h3,by simp,fun a ha b hb e=>?_⟩
    obtain⟨d,hd,rfl⟩:=List.mem_map.1 ha;have be:b=c.1:=by simpa using hb
    subst be;have:dv l c.1=true:=oM.2 ⟨d.2,by rw[←e]; exact hd⟩
    rw[this] at h4; cases h4
 cases h1:di hi (l++[c]) <;> cases h2:(di hi l && (decide (1000≤c.1∧c.1≤hi) && !dv l c.1)) <;> uw
theorem Ee{hi:Int}{log:List Ch}{k:Nat}(h:di hi log=true):di hi (log.take k)=true:=by
 unfold di at h ⊢;simp only[Bool.and_eq_true,decide_eq_true_iff,List.all_eq_true] at h ⊢;exact⟨fun c hc=>h.1 c (List.mem_of_mem_take hc),by rw[List.map_take]; exact List.Nodup.sublist (List.take_sublist _ _) h.2⟩
theorem Ef{hi:Int}{log:List Ch}{k:Nat}(hk:k<log.length)(h:(decide (1000≤log[k].1∧log[k].1≤hi) && !dv (log.take k) log[k].1)=false):di hi log=false:=by
 cases e:di hi log
 · rfl
 · have:=Ee (k:=k+1) e;rw[List.take_succ_eq_append_getElem hk,vS,h] at this;simp at this
theorem zK{l:List Ch}{c:Ch}(h:c∉l)(d:Ch):placeOf (l++[c]) d=if d=c then l.length else placeOf l d:=by
 unfold placeOf;rw[List.findIdx?_append];by_cases e:d=c
 · subst e;rw[if_pos rfl,List.findIdx?_eq_none_iff.2 (fun x hx=>decide_eq_false fun(e2:x=d)=>h (e2 ▸ hx))]
   simp[List.findIdx?_cons]
 · rw[if_neg e];have:([c]:List Ch).findIdx? (fun x=>decide (x=d))=none:=by
    rw[List.findIdx?_eq_none_iff];intro x hx;have:x=c:=by simpa using hx
    subst this;exact decide_eq_false fun e2=>e e2.symm
   rw[this];cases List.findIdx? (fun x=>decide (x=d)) l <;> rfl
theorem KF{l:List Ch}{c:Ch}(d:Ch):has (l++[c]) d=(has l d || decide (d=c)):=by
 unfold has; simp[Bool.decide_or]
/-! ### what is told: the program's way -/
end cos
namespace cos
open Go Go.RowKit base aE aX lay lh
abbrev TA(tx:Int)(y:Bool):Value:=.agg #[.int .i64 tx,.bool y]
def M1(tx:Int)(y:Bool):Lit:=.string (keyBytes [.int .i64 tx,.bool y])
theorem gR:Maps.Keyed Tryz.prog 87:=Maps.Keyed.of_law (deep_law_laid (by aa) (m:=2) (by decide) (of_decide_eq_true (by aa)) (by aa) (by aa))
theorem TB(w:World):(zeroValue 3).run Tryz.prog w=.ok (.int .i64 0) w:=by aa
theorem mB{tx:Int}{y:Bool}(h:(Lit.int .i64 tx).wf=true):keyOf Tryz.prog 87 (TA tx y)=some (M1 tx y):=by
 have Mh:Tryz.prog.keyType 87=true:=by aa
 have hfm:(TA tx y).formed Tryz.prog 87=true:=by aa
 obtain⟨m,hm⟩:∃m,Tryz.prog.types.size=m+1:=⟨Tryz.prog.types.size - 1,by aa⟩
 have c0:Tryz.prog.cellsOf 3=1:=by aa
 have c1:Tryz.prog.cellsOf 4=1:=by aa
 have c2:Tryz.prog.cellsOf 87=2:=by aa
 unfold keyOf;simp only[Tryz.underlying87];rw[if_pos (by rw[Mh,hfm]; rfl),hm]
 unfold Program.keyLits;simp only[Tryz.underlying87,Value.cells];rw[if_pos ⟨by rw[c2]; rfl,by aa⟩]
 simp[List.mapM_cons,List.mapM_nil,c0,c1,Program.keyLits,Tryz.underlying3,Tryz.underlying4,h,M1]
theorem Qk{tx XY:Int}{y y':Bool}(h:(Lit.int .i64 tx).wf=true)(h':(Lit.int .i64 XY).wf=true)(bh:(tx,y)≠(XY,y')):M1 tx y≠M1 XY y':=fun e=>by
 have h1:=mB (y:=y) h;have h2:=mB (y:=y') h';rw[←e] at h2;have:=gR.inj h1 h2;simp only[TA,Value.agg.injEq,Array.mk.injEq,List.cons.injEq,Value.int.injEq,Value.bool.injEq,true_and,and_true] at this;exact bh (Prod.ext this.1 this.2)
theorem KG{a b:Int}(h:(DataW.lit (.int .i64 a):DataW Unit)=.lit (.int .i64 b)):a=b:=by
 cases h; rfl
def Made(w:World)(B n:Nat)(log:List Ch):Prop:=
 ∃D:DataW Unit,w.ownsMap Tryz.prog 87 (plainElem Tryz.prog 3) B n D∧∀c:Ch,(Lit.int .i64 c.1).wf=true→Maps.has D (M1 c.1 c.2)=has log c∧D.atKey (M1 c.1 c.2) (.lit (.int .i64 0))=.lit (.int .i64 (placeOf log c:Int))
section
variable{w w':World}{B n:Nat}{log:List Ch}
theorem KH(w:World):Made (w.alloc (.map #[] 0)) w.heap.size 0 []:=
 ⟨.map [],World.ownsMap_made _ _ _ _,fun c hc=>⟨rfl,rfl⟩⟩
theorem Made.lt(h:Made w B n log):B<w.heap.size:=by
 obtain⟨D,⟨es,clock,hb,_⟩,_⟩:=h;exact(Array.getElem?_eq_some_iff.1 hb).1
theorem Made.keep(h:Made w B n log)(hk:w'.heap[B]? =w.heap[B]?):Made w' B n log:=by
 obtain⟨D,⟨es,clock,hb,r⟩,h3⟩:=h;exact⟨D,⟨es,clock,hk.trans hb,r⟩,h3⟩
theorem Made.below(h:Made w B n log)(hb:Below w.heap.size w w'):Made w' B n log:=h.keep (hb.block B h.lt)
theorem Made.look(h:Made w B n log){tx:Int}{y:Bool}(hw:(Lit.int .i64 tx).wf=true):(Instr.lookup 90 (.map (some B)) (TA tx y) true).run Tryz.prog w=.ok (.tuple #[.int .i64 (placeOf log (tx,y):Int),.bool (has log (tx,y))]) w:=by
 obtain⟨D,h1,h3⟩:=h;obtain⟨v,ps,dA,hR⟩:=h1.look_ok gR Tryz.underlying90 (TB w) (plainElem_int Tryz.underlying3 (by decide)) (mB (y:=y) hw)
 obtain⟨hh,ha⟩:=h3 (tx,y) hw;simp only[] at hh ha;rw[ha] at hR;obtain⟨c,rfl,hc,_⟩:=plainElem_int_inv Tryz.underlying3 hR;have ei:(placeOf log (tx,y):Int)=c:=KG (congrArg Prod.fst hc);rw[dA,hh,ei]
end
theorem Fc(B m:Nat)(log:List Ch)(tx:Int)(y:Bool)(w:World)(h:Made w B m log)(hw:(Lit.int .i64 tx).wf=true):
 Calls Tryz.prog 148 #[.map (some B),TA tx y] w fun e w'=>e=.returned (.bool (has log (tx,y)))∧Below w.heap.size w w':=by
 have hb:=a8 w (.cells #[.int .i64 tx,.bool y] 87);have yX:=(h.below hb).look (y:=y) hw;generalize placeOf log (tx,y)=pl at *;generalize has log (tx,y)=r at *;clear h hw;aj Tryz.func148,Tryz.ntmps148;ab fail;an;exact⟨rfl,hb⟩
theorem yk(B m:Nat)(log:List Ch)(tx:Int)(w:World)(h:Made w B m log)(hw:(Lit.int .i64 tx).wf=true):
 Calls Tryz.prog 119 #[.map (some B),.int .i64 tx] w fun e w'=>e=.returned (.bool (dv log tx))∧Below w.heap.size w w':=by
 have H1:=Hid.mk' (Fc B m log tx true w h hw);have H2:=Hid.mk' (fun wx (hx:Below w.heap.size w wx)=>Fc B m log tx false wx (h.below hx) hw)
 have HR:Hid (dv log tx=(has log (tx,true) || has log (tx,false))):=rfl
 clear h hw;cases h1:has log (tx,true)
 · rw[h1] at H1 HR;clear h1;generalize has log (tx,false)=r at *;aj Tryz.func119,Tryz.ntmps119;ab fail;refine H1.out.mono ?_;rintro e w1 ⟨rfl,a_⟩;ab fail;refine(H2.out _ a_).mono ?_;rintro e w2 ⟨rfl,be⟩;ab fail;an;exact⟨au (by rw[HR.out]; rfl),a_.trans (be.mono a_.size)⟩
 · rw[h1] at H1 HR;clear h1 H2;aj Tryz.func119,Tryz.ntmps119;ab fail;refine H1.out.mono ?_;rintro e w1 ⟨rfl,a_⟩;ab fail;an;exact⟨au (by rw[HR.out]; rfl),a_⟩
/-! ### numbers of transactions -/
section
variable(X:Nat)(T:TypeId)(pre post:List Value)(n av next sure:Int)(ja:Option Addr)(jn jc:Nat)(la:Option Addr)(ln lc:Nat)(w:World)
theorem ym(h:aD X T pre (oI n av next sure ja jn jc la ln lc) post w)(hl:1≤av∧av≤900):
 Calls Tryz.prog 106 #[.pointer (some ⟨X,pre.length,none⟩)] w fun e w'=>e=.returned (.int .i64 (av * 1000))∧w'=w:=by
 have w1:IntKind.i64.wrap (av * 1000)=av * 1000:=by rw[IntKind.wrap_i64]; omega
 have c1:=h.cell 1 _ rfl;clear h;aj Tryz.func106,Tryz.ntmps106;ab fail;an;exact⟨rfl,rfl⟩
theorem BR(h:aD X T pre (oI n av next sure ja jn jc la ln lc) post w)(hl:1≤av∧av≤900)(hn:0≤next∧next≤999):
 Calls Tryz.prog 70 #[.pointer (some ⟨X,pre.length,none⟩)] w fun e w'=>e=.returned (.int .i64 (av * 1000+next))∧Below w.heap.size w w':=by
 have w2:IntKind.i64.wrap (av * 1000+next)=av * 1000+next:=by rw[IntKind.wrap_i64]; omega
 have c2:=h.cell 2 _ rfl;have hX:=h.lt;have o2:=last.On.cell c2 hX;have br:=last.On.iq w.heap.size w;have ep:∀x:last.On w.heap.size w,Calls Tryz.prog 106 #[.pointer (some ⟨X,pre.length,none⟩)] x.w fun e w'=>e=.returned (.int .i64 (av * 1000))∧∃y:last.On w.heap.size w,w'=y.w:=fun x=>last.Calls.on x (Nat.le_refl _) ((ym X T pre post n av next sure ja jn jc la ln lc x.w (h.below x.2) hl).mono fun e w' ⟨he,hw⟩=>⟨he,by rw[hw]; exact Below.refl _ _⟩)
 clear h c2;aj Tryz.func70,Tryz.ntmps70;ab fail;refine last.ar w.heap.size (by aa) (by aa) ?_
 repeat(ai ((first | (ao 106; ag exact ep _))))
 refine wpQuiet_nil ?_;intro wq bq;obtain⟨xq,bq⟩:=bq;subst bq;have dj:Below w.heap.size w xq.w:=xq.2;generalize xq.w=w4 at *;clear o2 ep br;ab fail;an;exact⟨rfl,dj⟩
end
end cos
namespace cos
open Go Go.RowKit base aE aX lay lh
def Ql(w:World)(ln:Nat)(hi:Int)(log:List Ch)(e:Ending)(w':World):Prop:=
 Below w.heap.size w w'∧(((decide (ln≤1000) && di hi log)=false∧e=.returned (.tuple #[.map none,.bool false]))∨((decide (ln≤1000) && di hi log)=true∧∃B m,e=.returned (.tuple #[.map (some B),.bool true])∧Made w' B m log))
theorem TC{w:World}{a:Option Addr}{len:Nat}{l:List Ch}(h:nE rG w a len l)(i:Nat)(hi:i<l.length):(Lit.int .i64 l[i].1).wf=true:=by
 obtain⟨vs,hv⟩:=h.2.2.1 l[i] (List.getElem_mem hi);exact(dW.fo.1 hv).2.1
theorem Made.put{w':World}{B n:Nat}{log:List Ch}{D:DataW Unit}{c:Ch}(hD:Maps.IsMap D)(h3:∀d:Ch,(Lit.int .i64 d.1).wf=true→Maps.has D (M1 d.1 d.2)=has log d∧D.atKey (M1 d.1 d.2) (.lit (.int .i64 0))=.lit (.int .i64 (placeOf log d:Int)))(hw:(Lit.int .i64 c.1).wf=true)(hn:c∉log)
 (h1:w'.ownsMap Tryz.prog 87 (plainElem Tryz.prog 3) B n (D.put (M1 c.1 c.2) (.lit (.int .i64 (log.length:Int))))):Made w' B n (log++[c]):=by
 refine⟨_,h1,fun d hd=>?_⟩
 rw[KF,zK hn];by_cases e:d=c
 · subst e;rw[Maps.has_put_same hD (gR.key (mB (y:=d.2) hd)),Maps.atKey_put_same hD (gR.key (mB (y:=d.2) hd)),if_pos rfl];exact⟨by simp,rfl⟩
 · have bh:=Qk (y:=d.2) (y':=c.2) hd hw (fun e2=>e e2)
   rw[Maps.has_put_other bh,Maps.atKey_put_other bh,if_neg e,(h3 d hd).1,(h3 d hd).2];exact⟨by simp[e],rfl⟩
theorem BS(X:Nat)(T:TypeId)(pre post:List Value)(n av next sure:Int)(ja:Option Addr)(jn jc:Nat)(la:Option Addr)(ln lc:Nat)(log:List Ch)(w:World)(bI:aD X T pre (oI n av next sure ja jn jc la ln lc) post w)(hl:nE rG w la ln log)(zR:1≤av∧av≤900)(Qm:0≤next∧next≤999):
 Calls Tryz.prog 87 #[.pointer (some ⟨X,pre.length,none⟩)] w (Ql w ln (av * 1000+next - 1) log):=by
 have mb:=hl.1;have Ny:=hl.2.1;unfold maxLen at Ny;have c4:=bI.cell 4 _ rfl;obtain⟨hi,Gm⟩:∃hi:Int,av * 1000+next - 1=hi:=⟨_,rfl⟩;rw[Gm];have HHI:=Hid.mk' Gm;clear Gm;by_cases N3:ln≤1000
 · have wu:¬(1000:Int)<(ln:Int):=by omega
   have HR:Hid ((decide (ln≤1000) && di hi log)=di hi log):=by show _=_; rw[decide_eq_true N3,Bool.true_and]
   have OT:= @run_makeMap Tryz.prog;have Lt:Below w.heap.size w (w.alloc (.map #[] 0)):=a8 _ _;have d4:=(bI.below Lt).cell 4 _ rfl;aj Tryz.func87,Tryz.ntmps87;ab (ak; fail)
   aN [19] (fun i wr=>∃k:Nat,k≤ln∧i=.int .i64 (k:Int)∧Made wr w.heap.size k (log.take k)∧di hi (log.take k)=true∧Below w.heap.size w wr) (fun i _=>ln - (intOf i).toNat)
   case atStart=>exact⟨0,Nat.zero_le _,rfl,KH w,rfl,Lt⟩
   case round=>
    obtain⟨k,hk,rfl,hM,bR,hB⟩:=hrel;clear OT c4 d4 Lt;by_cases bn:k<ln
    · have cJ:k<log.length:=by omega
      obtain⟨b,off,e⟩:=gq hl (by omega)
      subst e;have hS:=hl.below hB;obtain⟨e0,e1⟩:=vG hS k cJ;have fH:=TC hS k cJ;have fZ:(k:Int)<(ln:Int):=by omega
      have ir:Hid ((decide (1000≤log[k].1∧log[k].1≤hi) && !dv (log.take k) log[k].1)=false→di hi log=false):=Ef cJ;have TD:Hid ((decide (1000≤log[k].1∧log[k].1≤hi) && !dv (log.take k) log[k].1)=true→di hi (log.take (k+1))=true):=fun e=>by
       rw[List.take_succ_eq_append_getElem cJ,vS,bR,e]; rfl
      have xM:Hid (log.take (k+1)=log.take k++[log[k]]):=List.take_succ_eq_append_getElem cJ;have Bm:Hid ((log.take k).length=k):=by show _=_; simp; omega
      have C1:Hid (dv (log.take k) log[k].1=false→log[k]∉log.take k):=fun e hm=>by
       have:dv (log.take k) log[k].1=true:=oM.2 ⟨log[k].2,hm⟩;rw[e] at this; cases this
      generalize log[k]=c at *;obtain⟨tx,y⟩:=c;simp only[] at *;obtain⟨V,hV⟩:∃V,wr.alloc (.cells #[.int .i64 tx,.bool y] 87)=V:=⟨_,rfl⟩;have nw:Below wr.heap.size wr V:=by rw[←hV]; exact a8 _ _
      have q0:V.cell? ⟨wr.heap.size,0,none⟩=some (.int .i64 tx):=by rw[←hV]; simp
      have q1:V.cell? ⟨wr.heap.size,1,none⟩=some (.bool y):=by rw[←hV]; simp
      have lu:=hB.trans (nw.mono hB.size);have wT:=hM.below nw;have hxV:=bI.below lu;have o0:=last.On.cell (B:=V.heap.size) q0 (World.block_lt_of_cell? _ _ q0);have br:=last.On.iq V.heap.size V;have rU:∀x:last.On V.heap.size V,Calls Tryz.prog 70 #[.pointer (some ⟨X,pre.length,none⟩)] x.w fun e w'=>e=.returned (.int .i64 (av * 1000+next))∧∃y:last.On V.heap.size V,w'=y.w:=fun x=>last.Calls.on x (Nat.le_refl _) (BR X T pre post n av next sure ja jn jc _ ln lc x.w (hxV.below x.2) zR Qm)
      have wy:∀x:last.On V.heap.size V,Calls Tryz.prog 119 #[.map (some w.heap.size),.int .i64 tx] x.w fun e w'=>e=.returned (.bool (dv (log.take k) tx))∧∃y:last.On V.heap.size V,w'=y.w:=fun x=>last.Calls.on x (Nat.le_refl _) (yk w.heap.size k (log.take k) tx x.w (wT.below x.2) fH)
      have HV:=Hid.mk' hV;have HMV:=Hid.mk' wT;clear hV hM bI hl hS nw hB hxV wT;by_cases Hp:tx<1000
      · have HF:Hid (di hi log=false):=ir.out (by rw[decide_eq_false (by omega)]; rfl)
        clear ir TD C1;have htd:decide (tx<1000)=true:=decide_eq_true Hp;ab fail;rw[HV.out];refine last.ar V.heap.size (by aa) (by aa) ?_
        repeat(ai ((first | (ao 70; ag exact rU _) | (ao 119; ag exact wy _))))
        refine wpQuiet_nil ?_;intro wq bq;obtain⟨xq,bq⟩:=bq;subst bq;have dj:Below V.heap.size V xq.w:=xq.2;generalize xq.w=w4 at *;clear o0 rU wy br;ab fail;bO
        exact⟨lu.trans (dj.mono lu.size),.inl ⟨by rw[HR.out,HF.out],rfl⟩⟩
      have htd:decide (tx<1000)=false:=decide_eq_false Hp;by_cases Lk:av * 1000+next≤tx
      · have hte:decide (av * 1000+next≤tx)=true:=decide_eq_true Lk;have HF:Hid (di hi log=false):=ir.out (by have:=HHI.out; rw[decide_eq_false (by omega)]; rfl)
        clear ir TD C1;ab fail;rw[HV.out];refine last.ar V.heap.size (by aa) (by aa) ?_
        repeat(ai ((first | (ao 70; ag exact rU _) | (ao 119; ag exact wy _))))
        refine wpQuiet_nil ?_;intro wq bq;obtain⟨xq,bq⟩:=bq;subst bq;have dj:Below V.heap.size V xq.w:=xq.2;generalize xq.w=w4 at *;clear o0 rU wy br;ab fail;bO
        exact⟨lu.trans (dj.mono lu.size),.inl ⟨by rw[HR.out,HF.out],rfl⟩⟩
      have hte:decide (av * 1000+next≤tx)=false:=decide_eq_false Lk;cases Qn:dv (log.take k) tx
      · have HG:Hid (di hi (log.take (k+1))=true):=TD.out (by have:=HHI.out; rw[Qn,decide_eq_true (by omega)]; rfl)
        have HNM:Hid ((tx,y)∉log.take k):=C1.out Qn;rw[Qn] at wy;clear ir TD C1 Qn;ab fail;rw[HV.out];refine last.ar V.heap.size (by aa) (by aa) ?_
        repeat(ai ((first | (ao 70; ag exact rU _) | (ao 119; ag exact wy _))))
        refine wpQuiet_nil ?_;intro wq bq;obtain⟨xq,bq⟩:=bq;subst bq;have dj:Below V.heap.size V xq.w:=xq.2;generalize xq.w=w4 at *;clear o0 rU wy br;have eF:=lu.trans (dj.mono lu.size);obtain⟨D,aK,h3⟩:=HMV.out.below dj;have H3:=Hid.mk' h3;have g0:w4.cell? ⟨wr.heap.size,0,none⟩=some (.int .i64 tx):=(dj.cell (p:=⟨wr.heap.size,0,none⟩) (World.block_lt_of_cell? _ _ q0)).trans q0;have g1:w4.cell? ⟨wr.heap.size,1,none⟩=some (.bool y):=(dj.cell (p:=⟨wr.heap.size,1,none⟩) (World.block_lt_of_cell? _ _ q1)).trans q1;have l9:=mB (y:=y) fH;clear h3 q0 q1 e0 e1;ab (jY; refine wpList_mapUpdate_own _ rfl _ _ _ 90 rfl 87 3 gR Tryz.underlying90 _ w.heap.size k D rfl aK (by unfold maxLen; omega) _ _ _ rfl rfl l9 _ [] (plainElem_int Tryz.underlying3 (WalkArith.wf_i64 (by omega))) ?_)
        intro w5 iB fa;have ku:Made w5 w.heap.size (k+1) (log.take (k+1)):=by
         rw[xM.out];exact Made.put aK.isMap H3.out fH HNM.out (by rw[Bm.out]; exact iB)
        have ez:=eF.grown fa eF.size (fun j hj=>by cases hj; exact Nat.le_refl _)
        clear iB fa aK;ab fail;aA
        case rel=>exact⟨k+1,by omega,by aF,ku,HG.out,ez⟩
        case measure=>simp[intOf]; omega
      · have HF:Hid (di hi log=false):=ir.out (by rw[Qn]; simp)
        rw[Qn] at wy;clear ir TD C1 Qn;ab fail;rw[HV.out];refine last.ar V.heap.size (by aa) (by aa) ?_
        repeat(ai ((first | (ao 70; ag exact rU _) | (ao 119; ag exact wy _))))
        refine wpQuiet_nil ?_;intro wq bq;obtain⟨xq,bq⟩:=bq;subst bq;have dj:Below V.heap.size V xq.w:=xq.2;generalize xq.w=w4 at *;clear o0 rU wy br;ab fail;bO
        exact⟨lu.trans (dj.mono lu.size),.inl ⟨by rw[HR.out,HF.out],rfl⟩⟩
    · have EV:log.take k=log:=List.take_of_length_le (by omega)
      rw[EV] at hM bR;have HM:=Hid.mk' hM;have fl:=Hid.mk' bR;have fZ:¬(k:Int)<(ln:Int):=by omega
      clear hM bR EV bI hl;ab fail;bO
      exact⟨hB,.inr ⟨by rw[HR.out,fl.out],_,_,rfl,HM.out⟩⟩
 · have wu:(1000:Int)<(ln:Int):=by omega
   clear bI hl;aj Tryz.func87,Tryz.ntmps87;ab fail;bO
   exact⟨Below.refl _ _,.inl ⟨by rw[decide_eq_false N3]; rfl,rfl⟩⟩
end cos
namespace aX
open Go Go.RowKit base aE
open Go.ChangeMaps Go.MapKept
open Go.WideElems (Fit rd rg pl rd_val rd_key rg_of)
open Go.Maps (Keyed)
open Go.Maps (keyOf_int_mk)
theorem zL:Keyed Tryz.prog 3:=Maps.int_keyed Tryz.underlying3
def CC:Value→Option (DataW Unit × List MemPlace):=fun _=>some (.nil,[])
def yn(es:Array MapEntry)(D:DataW Unit):Prop:=D=.map ((es.toList.map (rg Tryz.prog 3 CC)).foldr DataW.insert [])
def Rs(f:Int→List Od)(s:Int)(l:List Od)(t:Int):List Od:=if t=s then l else f t
theorem rK(f:Int→List Od)(s:Int)(l:List Od):Rs f s l s=l:=if_pos rfl
theorem pA{f:Int→List Od}{s t:Int}{l:List Od}(h:t≠s):Rs f s l t=f t:=if_neg h
def fh(w:World)(B base n:Nat)(f:Int→List Od):Prop:=
 ∃es clock,w.heap[B]? =some (.map es clock)∧Fit Tryz.prog 3 CC es clock∧es.size≤n∧B<base∧
  (∀x∈es.toList,∃(s:Int) (g m cp:Nat),x.key=.int .i64 s∧x.val=.slice (some ⟨g,0,none⟩) m cp∧f s≠[]∧ck w base g m cp (f s))∧
  (∀D,yn es D→∀s,(Lit.int .i64 s).wf=true→(Maps.has D (.int .i64 s)=true↔f s≠[]))∧
  ∀x∈es.toList,∀y∈es.toList,x.key≠y.key→x.val.ownBlock≠y.val.ownBlock
section
variable{w w':World}{B base n:Nat}{f:Int→List Od}{row:Option Nat}
theorem BT(w:World):fh (w.alloc (.map #[] 0)) w.heap.size (w.heap.size+1) 0 (fun _=>[]):=
 ⟨#[],0,(MapKept.heap_alloc w _).1,⟨by simp,stamped_empty 0,by simp⟩,Nat.le_refl _,Nat.lt_succ_self _,by simp,fun D hD s _=>by unfold yn at hD; subst hD; simp[Maps.has],by simp⟩
theorem fh.lt(h:fh w B base n f):B<w.heap.size:=by
 obtain⟨es,clock,hb,_⟩:=h;exact(Array.getElem?_eq_some_iff.1 hb).1
theorem fh.size(h:fh w B base n f):B<base:=by
 obtain⟨es,clock,hb,_,_,h1,_⟩:=h;exact h1
theorem fh.grown(h:fh w B base n f)(hg:w.grownBy w' row)(hB:some B≠row)(hr:∀j,row=some j→j<base):fh w' B base n f:=by
 have bn:=h.lt;obtain⟨es,clock,hb,F,hs,pY,LC,dC,FG⟩:=h;refine⟨es,clock,(hg.block B bn hB).trans hb,F,hs,pY,fun x hx=>?_,dC,FG⟩
 obtain⟨s,g,m,cp,h1,h2,h3,h4⟩:=LC x hx;exact⟨s,g,m,cp,h1,h2,h3,h4.grown hg (fun e=>by have:=hr g e.symm; have:=h4.lt; omega)⟩
theorem fh.below(h:fh w B base n f)(hb:Below w.heap.size w w'):fh w' B base n f:=
 h.grown (row:=none) ⟨hb.os,hb.tape,hb.output,hb.size,fun k hk _=>hb.block k hk⟩ (by simp) (fun j e=>by cases e)
theorem fh.owns(h:fh w B base n f):∃D,w.ownsMap Tryz.prog 3 CC B n D∧Maps.IsMap D∧∀s,(Lit.int .i64 s).wf=true→(Maps.has D (.int .i64 s)=true↔f s≠[]):=by
 obtain⟨es,clock,hb,F,hs,pY,LC,dC,FG⟩:=h;exact⟨_,⟨es,clock,hb,F,hs,rfl⟩,⟨_,rfl⟩,dC _ rfl⟩
def M2(w:World)(B base n:Nat)(f:Int→List Od)(s:Int)(v:Value):Prop:=
 ∀(w1:World) (g m cp:Nat) (l':List Od),w.grownBy w1 v.ownBlock→ck w1 base g m cp l'→l'≠[]→(some g=v.ownBlock∨w.heap.size≤g)→
  ∃w2,(Instr.mapUpdate 84 (.map (some B)) (.int .i64 s) (.slice (some ⟨g,0,none⟩) m cp)).run Tryz.prog w1=.ok () w2∧
   fh w2 B base (n+1) (Rs f s l')∧w1.grownBy w2 (some B)
theorem tz{es:Array MapEntry}{clock:Nat}{s:Int}{v:Value}(CD:(Lit.int .i64 s).wf=true)(hb:w.heap[B]? =some (.map es clock))(F:Fit Tryz.prog 3 CC es clock)(hs:es.size≤n)(hn:n<maxLen)(pY:B<base)
 (LC:∀x∈es.toList,∃(s:Int) (g m cp:Nat),x.key=.int .i64 s∧x.val=.slice (some ⟨g,0,none⟩) m cp∧f s≠[]∧ck w base g m cp (f s))
 (dC:∀D,yn es D→∀s,(Lit.int .i64 s).wf=true→(Maps.has D (.int .i64 s)=true↔f s≠[]))
 (FG:∀x∈es.toList,∀y∈es.toList,x.key≠y.key→x.val.ownBlock≠y.val.ownBlock)
 (hv:∀x∈es.toList,x.key≠ .int .i64 s→x.val.ownBlock≠v.ownBlock) (M3:v.ownBlock≠some B):M2 w B base n f s v:=by
 intro w1 g m cp l' hg hO' TE tY;have XZ:B<w.heap.size:=(Array.getElem?_eq_some_iff.1 hb).1;have a_:w1.heap[B]? =some (.map es clock):=(hg.block B XZ (fun e1=>M3 e1.symm)).trans hb
 have l9:=keyOf_int_mk (P:=Tryz.prog) Tryz.underlying3 CD;obtain⟨TF,KI,dA,F',TG,_,_,Qo⟩:=Maps.fit_store (R:=CC) (R':=CC) (val:=.slice (some ⟨g,0,none⟩) m cp) zL Tryz.underlying84 a_ F (Nat.lt_of_le_of_lt hs hn) (fun x hx _ z hz=>hz) l9 (yv:=(.nil,[])) rfl
 have lU:w1.grownBy (setBlock w1 B (.map TF KI)) (some B):=⟨rfl,rfl,rfl,by simp[setBlock],fun i _ hi=>heap_setBlock_other a_ _ (fun e1=>hi (by rw[e1]))⟩
 obtain⟨D0,Lv⟩:∃D,yn es D:=⟨_,rfl⟩;have hD:∀D',yn TF D'→D'=D0.put (.int .i64 s) .nil:=by intro D' h'; unfold yn at h' Lv; rw[h',Lv,DataW.put_eq,TG]
 have hD1:Maps.IsMap D0:=⟨_,Lv⟩;have hgb:=hO'.lt;refine⟨_,dA,⟨TF,KI,heap_setBlock_same a_ _,F',?_,pY,?_,?_,?_⟩,lU⟩
 · have e1:TF.size=((TF.toList.map (rg Tryz.prog 3 CC)).foldr DataW.insert []).length:=by rw[length_sorted]; simp
   rw[e1,TG];unfold Go.ChangeMaps.putKey;rw[length_insert];have e2:=List.length_filter_le (notKey (.int .i64 s)) ((es.toList.map (rg Tryz.prog 3 CC)).foldr DataW.insert []);rw[length_sorted] at e2;simp at e2;omega
 · intro x hx;rcases Qo x hx with⟨Pt,LD⟩ | ⟨LD,X0⟩
   · obtain⟨t,gx,mx,cx,h1,h2,h3,h4⟩:=LC x Pt;have Mo:t≠s:=fun e=>LD (by rw[h1,e])
     have hgx:some gx≠v.ownBlock:=fun e=>hv x Pt LD (by rw[h2]; exact e)
     have:=h4.lt;exact⟨t,gx,mx,cx,h1,h2,by rw[pA Mo]; exact h3,by rw[pA Mo]; exact(h4.grown hg hgx).grown lU (fun e=>by cases e; omega)⟩
   · exact⟨s,g,m,cp,LD,X0,by rw[rK]; exact TE,by rw[rK]; exact hO'.grown lU (fun e=>by cases e; omega)⟩
 · intro D' h' t ht;rw[hD D' h'];by_cases e:t=s
   · subst e;rw[Maps.has_put_same hD1 (by trivial)]
     rw[rK]; simpa using TE
   · rw[Maps.has_put_other (fun e1=>e (by cases e1; rfl)),dC D0 Lv t ht,pA e]
 · have Fe:∀x∈es.toList,x.key≠ .int .i64 s→x.val.ownBlock≠some g:=by
    intro x hx LD e1;rcases tY with h1 | h1
    · exact hv x hx LD (by rw[e1,h1])
    · obtain⟨t,gx,mx,cx,_,h2,_,h4⟩:=LC x hx;have:=h4.lt;rw[h2] at e1;simp[Value.ownBlock] at e1;omega
   intro x hx y hy bh;rcases Qo x hx with⟨Pt,LD⟩ | ⟨LD,X0⟩ <;> rcases Qo y hy with⟨zh,X1⟩ | ⟨X1,hyv⟩
   · exact FG x Pt y zh bh
   · rw[hyv]; exact Fe x Pt LD
   · rw[X0]; exact fun e=>Fe y zh X1 e.symm
   · exact absurd (LD.trans X1.symm) bh
theorem fh.look(h:fh w B base n f){s:Int}(CD:(Lit.int .i64 s).wf=true)(hn:n<maxLen):
 ∃v,(Instr.lookup 84 (.map (some B)) (.int .i64 s) false).run Tryz.prog w=.ok v w∧w.ownsRow base 121 3 v (f s).length (aW (f s))∧(∀p∈f s,ed p)∧M2 w B base n f s v:=by
 obtain⟨es,clock,hb,F,hs,pY,LC,dC,FG⟩:=h;have l9:=keyOf_int_mk (P:=Tryz.prog) Tryz.underlying3 CD;rcases Maps.fit_look (R:=CC) false zL Tryz.underlying84 (z:=.slice none 0 0) (by aa) hb F l9 with⟨dA,kO,fF⟩ | ⟨e0,y,TH,h3,dA,hR,fF,_⟩
 · have hf:f s=[]:=by
    have:=Maps.has_false_of_atKey fF;have h1:=dC _ rfl s CD;cases Ri:f s with
    | nil=>rfl
    | cons a l=>
     have h2:=h1.2 (by rw[Ri]; simp)
     rw[this] at h2; cases h2
   refine⟨.slice none 0 0,by simpa using dA,by rw[hf]; exact World.ownsRow_nil _ _ _ _,by rw[hf]; exact fun p hp=>absurd hp List.not_mem_nil,tz CD hb F hs hn pY LC dC FG (fun x hx _=>?_) (by simp[Value.ownBlock])⟩
   obtain⟨t,g,m,cp,_,h2,_,_⟩:=LC x hx;rw[h2]; simp[Value.ownBlock]
 · obtain⟨t,g,m,cp,h1,h2,h4,h5⟩:=LC e0 TH;obtain rfl:t=s:=by rw[h3] at h1; cases h1; rfl
   have bn:=h5.lt;refine⟨e0.val,by simpa using dA,by rw[h2,h5.1]; exact h5.2.2,h5.2.1,tz CD hb F hs hn pY LC dC FG (fun x hx bh=>FG x hx e0 TH (by rw[h3]; exact bh)) ?_⟩
   rw[h2]; simp[Value.ownBlock]; omega
end
theorem qF(w:World){ops:Array Oper}{rest:List Oper}{o:Oper}{a:Act}{Q:Exit→Act→World→Prop}
 (hg:o.guard=none) (m x:Operand) (Cp:o.op=Op.lookup 84 m x false) {B base n:Nat} {f:Int→List Od} {s:Int}
 (hm:a.eval m=.map (some B)) (hx:a.eval x=.int .i64 s) (h:fh w B base n f) (CD:(Lit.int .i64 s).wf=true) (hn:n<maxLen)
 (hK:∀v,w.ownsRow base 121 3 v (f s).length (aW (f s))→(∀p∈f s,ed p)→M2 w B base n f s v→wpList Tryz.prog ops Q rest (a.put o.dst v) w):
 wpList Tryz.prog ops Q (o::rest) a w:=by
 refine wpList_plain hg fun K' OV=>?_
 obtain⟨v,dA,h1,h2,h3⟩:=h.look CD hn;unfold Oper.wp;simp[execOp,Cp,hm,hx,dA,Result.andThen];exact OV _ _ (hK v h1 h2 h3)
theorem rL(w:World){ops:Array Oper}{rest:List Oper}{o:Oper}{a:Act}{Q:Exit→Act→World→Prop}
 (hg:o.guard=none) (m x y:Operand) (Cp:o.op=Op.mapUpdate 84 m x y) {w0:World} {B base n g k cp:Nat} {f:Int→List Od} {s:Int} {v:Value} {l':List Od}
 (Ff:M2 w0 B base n f s v) (hm:a.eval m=.map (some B)) (hx:a.eval x=.int .i64 s) (hy:a.eval y=.slice (some ⟨g,0,none⟩) k cp)
 (jW:w0.grownBy w v.ownBlock) (hO:ck w base g k cp l') (bh:l'≠[]) (tY:some g=v.ownBlock∨w0.heap.size≤g)
 (hK:∀w2,fh w2 B base (n+1) (Rs f s l')→w.grownBy w2 (some B)→wpList Tryz.prog ops Q rest (a.put o.dst undef) w2):
 wpList Tryz.prog ops Q (o::rest) a w:=by
 refine wpList_plain hg fun K' OV=>?_
 obtain⟨w2,dA,r1,r2⟩:=Ff w g k cp l' jW hO bh tY;unfold Oper.wp;simp[execOp,Cp,hm,hx,hy,dA,Result.andThen];exact OV _ _ (hK w2 r1 r2)
end aX
namespace N4
open Go Go.Proofs Go.Shelf
def Qp:Go.Shelf.Ren:=⟨fun | 189=>175 | 125=>184 | 257=>183 | 128=>197 | 129=>198 | 294=>188 | 295=>189 | 296=>190 | 297=>191 | 298=>192 | 299=>193 | 216=>194 | 300=>195 | 301=>196 | 328=>199 | 329=>200 | 330=>201 | 331=>202 | 332=>203 | 215=>116 | 343=>204 | n=>n,fun | 28=>54 | 3=>3 | 46=>183 | 0=>0 | 51=>238 | 53=>240 | 4=>4 | 183=>231 | 182=>230 | 131=>220 | 5=>5 | 9=>9 | 218=>241 | 222=>245 | 228=>247 | 229=>248 | n=>n,fun | n=>n⟩
theorem M4:Go.Proofs.Lays.n189 Tryz.prog Qp:={
 mixed:=by aa
 f125:=Tryz.func184.trans (congrArg some (by aa))
 f128:=Tryz.func197.trans (congrArg some (by aa))
 f129:=Tryz.func198.trans (congrArg some (by aa))
 f189:=Tryz.func175.trans (congrArg some (by aa))
 f215:=Tryz.func116.trans (congrArg some (by aa))
 f216:=Tryz.func194.trans (congrArg some (by aa))
 f257:=Tryz.func183.trans (congrArg some (by aa))
 f294:=Tryz.func188.trans (congrArg some (by aa))
 f295:=Tryz.func189.trans (congrArg some (by aa))
 f296:=Tryz.func190.trans (congrArg some (by aa))
 f297:=Tryz.func191.trans (congrArg some (by aa))
 f298:=Tryz.func192.trans (congrArg some (by aa))
 f299:=Tryz.func193.trans (congrArg some (by aa))
 f300:=Tryz.func195.trans (congrArg some (by aa))
 f301:=Tryz.func196.trans (congrArg some (by aa))
 f328:=Tryz.func199.trans (congrArg some (by aa))
 f329:=Tryz.func200.trans (congrArg some (by aa))
 f330:=Tryz.func201.trans (congrArg some (by aa))
 f331:=Tryz.func202.trans (congrArg some (by aa))
 f332:=Tryz.func203.trans (congrArg some (by aa))
 f343:=Tryz.func204.trans (congrArg some (by aa))
 t0:=Tryz.underlying0
 a0:=Tryz.isAgg0
 z0:=Tryz.sizeOf0
 v0:=Tryz.zeroValue0
 t3:=Tryz.underlying3
 a3:=Tryz.isAgg3
 z3:=Tryz.sizeOf3
 v3:=Tryz.zeroValue3
 t4:=Tryz.underlying4
 a4:=Tryz.isAgg4
 z4:=Tryz.sizeOf4
 v4:=Tryz.zeroValue4
 t5:=Tryz.underlying5
 a5:=Tryz.isAgg5
 z5:=Tryz.sizeOf5
 v5:=Tryz.zeroValue5
 t9:=Tryz.underlying9
 a9:=Tryz.isAgg9
 z9:=Tryz.sizeOf9
 v9:=Tryz.zeroValue9
 t28:=Tryz.underlying54
 a28:=Tryz.isAgg54
 z28:=Tryz.sizeOf54
 v28:=Tryz.zeroValue54
 t46:=Tryz.underlying183
 a46:=Tryz.isAgg183
 z46:=Tryz.sizeOf183
 v46:=Tryz.zeroValue183
 t51:=Tryz.underlying238
 a51:=Tryz.isAgg238
 z51:=Tryz.sizeOf238
 v51:=Tryz.zeroValue238
 t53:=Tryz.underlying240
 a53:=Tryz.isAgg240
 z53:=Tryz.sizeOf240
 v53:=Tryz.zeroValue240
 t131:=Tryz.underlying220
 a131:=Tryz.isAgg220
 z131:=Tryz.sizeOf220
 v131:=Tryz.zeroValue220
 t182:=Tryz.underlying230
 a182:=Tryz.isAgg230
 z182:=Tryz.sizeOf230
 v182:=Tryz.zeroValue230
 t183:=Tryz.underlying231
 a183:=Tryz.isAgg231
 z183:=Tryz.sizeOf231
 v183:=Tryz.zeroValue231
 t218:=Tryz.underlying241
 a218:=Tryz.isAgg241
 z218:=Tryz.sizeOf241
 v218:=Tryz.zeroValue241
 t222:=Tryz.underlying245
 a222:=Tryz.isAgg245
 z222:=Tryz.sizeOf245
 v222:=Tryz.zeroValue245
 t228:=Tryz.underlying247
 a228:=Tryz.isAgg247
 z228:=Tryz.sizeOf247
 v228:=Tryz.zeroValue247
 t229:=Tryz.underlying248
 a229:=Tryz.isAgg248
 z229:=Tryz.sizeOf248
 v229:=Tryz.zeroValue248}
open Go.Sort Go.RowKit in
theorem KJ(TI off cap:Nat)(zs:List Int)(w:World)(hH:Holds (Value.int .i64) w TI off zs.toArray)(X2:TI<w.heap.size)(jg:zs.length<4611686018427387904):
 Calls Tryz.prog 175 #[.slice (some ⟨TI,off,none⟩) zs.length cap] w fun e w'=>
  e=.returned (.tuple #[])∧∃n os,w'=grow (putRow (Value.int .i64) (Sort.ahead w n) TI off (zs.mergeSort fun x y=>decide (x≤y)).toArray) os:=Any.slices_Sort_int M4 TI off cap zs w hH X2 jg
end N4
end Go.Proofs.YtmibabclefgljaaGreat
