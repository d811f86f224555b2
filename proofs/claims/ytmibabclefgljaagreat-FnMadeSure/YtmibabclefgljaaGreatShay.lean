/- CoC -/
import Derived.Test.YtmibabclefgljaaGreatShax
import Derived.Deep.Onto
set_option linter.unusedVariables false
set_option linter.unusedSimpArgs false
namespace Go.Proofs.YtmibabclefgljaaGreat
namespace cos
open Go Go.RowKit base av aN lay kN
theorem NN:(Tryz.prog.info? 75).map (fun i=>(i.zero,i.size,i.bytes))=some (some (.agg #[.int .i64 0,.slice none 0 0,.int .i64 0,.slice none 0 0]),4,64):=by kernel_rfl
theorem Tc:(Tryz.prog.info? 87).map (fun i=>(i.zero,i.size,i.bytes))=some (some (.agg #[.int .i64 0,.bool false]),2,16):=by kernel_rfl
theorem tE(w:World)(g c:Nat)(ty:TypeId):(Builtin.append_ #[26,26] ty #[.slice (some ⟨g,0,none⟩) 0 0,.slice none 0 c]).run Tryz.prog w=.ok (.slice (some ⟨g,0,none⟩) 0 0) w:=by kernel_rfl
theorem m7(w:World)(g c:Nat)(ty:TypeId):(Builtin.append_ #[54,54] ty #[.slice (some ⟨g,0,none⟩) 0 0,.slice none 0 c]).run Tryz.prog w=.ok (.slice (some ⟨g,0,none⟩) 0 0) w:=by kernel_rfl
def iW(l:List Ch):List Value:=l.flatMap fun c=>[.int .i64 c.1,.bool c.2]
theorem pI(l:List Ch):(iW l).length=l.length * 2:=by
 induction l with
 | nil=>rfl
 | cons x l ih=>simp only[iW,List.flatMap_cons,List.length_append] at *; simp[ih]; omega
theorem DQ(l:List Ch):∀u∈iW l,u.oneCell'=true:=by
 intro u hu;obtain⟨c,_,hc⟩:=List.mem_flatMap.1 hu;simp only[List.mem_cons,List.not_mem_nil,or_false] at hc;rcases hc with rfl | rfl <;> rfl
theorem vk(l:List Ch):∀i (hi:i<l.length),(iW l)[i * 2]? =some (.int .i64 l[i].1)∧(iW l)[i * 2+1]? =some (.bool l[i].2):=by
 induction l with
 | nil=>intro i hi; simp at hi
 | cons x l ih=>
  intro i hi;cases i with
  | zero=>exact⟨rfl,rfl⟩
  | succ i=>
   have h:=ih i (by simpa using hi)
   have e:iW (x::l)=.int .i64 x.1:: .bool x.2::iW l:=rfl;rw[e,show(i+1) * 2=i * 2+1+1 by omega,show i * 2+1+1+1=(i * 2+1)+1+1 by omega]
   simpa using h
theorem Kb{w:World}{b off len:Nat}{l:List Ch}(h:nc q_ w (some ⟨b,off,none⟩) len l):∀j u,(iW l)[j]? =some u→w.cell? ((⟨b,off,none⟩:Addr).add j)=some u:=by
 intro j u hj;have a6:j<l.length * 2:=by
  rw[←pI];exact(List.getElem?_eq_some_iff.1 hj).1
 obtain⟨i,hi | hi⟩:∃i,j=i * 2∨j=i * 2+1:=⟨j / 2,by omega⟩
 · subst hi;have h1:=vf h i (by omega)
   have h2:=(vk l i (by omega)).1
   rw[hj] at h2;cases h2;rw[Addr.add_lit]; exact h1.1
 · subst hi;have h1:=vf h i (by omega)
   have h2:=(vk l i (by omega)).2
   rw[hj] at h2;cases h2;rw[Addr.add_lit,←Nat.add_assoc]; exact h1.2
theorem iK.fz{X:Nat}{tx st:Int}{v y:Value}{w:World}(h:iK X tx st v y w)(j:Nat):w.frozen? ⟨X,j,none⟩=false:=by unfold iK at h; simp[World.frozen?,h]
theorem xO{X:Nat}{tx st:Int}{v y:Value}{w:World}(h:iK X tx st v y w)(u:Value):iK X tx st u y (w.setCell ⟨X,1,none⟩ u)∧w.grownBy (w.setCell ⟨X,1,none⟩ u) (some X):=bw h 1 u
theorem oU{X:Nat}{tx st:Int}{v y:Value}{w:World}(h:iK X tx st v y w)(u:Value):iK X tx st v u (w.setCell ⟨X,3,none⟩ u)∧w.grownBy (w.setCell ⟨X,3,none⟩ u) (some X):=bw h 3 u
structure gN (w V:World) (n ak next sure:Int) (ja:Option Addr) (jn jc:Nat) (la:Option Addr) (ln lc:Nat) (k gj eH gl cW:Nat) (jobs:List Jb) (log:List Ch) (q ql:dJ):Prop where
 e7:Below w.heap.size w V
 p:fh w.heap.size n ak next sure ja jn jc la ln lc V
 r:fh (w.heap.size+1) 0 0 0 0 none 0 0 none 0 0 V
 o:fh (w.heap.size+1+1) n ak next sure (some ⟨gj,0,none⟩) k eH (some ⟨gl,0,none⟩) ln cW V
 jobs:bk 75 dU V (.slice (some ⟨gj,0,none⟩) k eH) jobs q
 log:bk 87 q_ V (.slice (some ⟨gl,0,none⟩) ln cW) log ql
 new:∀b∈gl::gj::al q,w.heap.size+3≤b
 ne:gl∉gj::al q
section
variable{w V V':World}{n ak next sure:Int}{ja:Option Addr}{jn jc:Nat}{la:Option Addr}{ln lc k gj eH gl cW:Nat}{jobs:List Jb}{log:List Ch}{q ql:dJ}
theorem gN.below(h:gN w V n ak next sure ja jn jc la ln lc k gj eH gl cW jobs log q ql)(hb:Below V.heap.size V V'):gN w V' n ak next sure ja jn jc la ln lc k gj eH gl cW jobs log q ql:=
 ⟨h.e7.trans (hb.mono h.e7.size),h.p.below hb,h.r.below hb,h.o.below hb,h.jobs.keep fun b hk=>hb.block b (h.jobs.at_ b hk),h.log.keep fun b hk=>hb.block b (h.log.at_ b hk),h.new,h.ne⟩
theorem gN.other(h:gN w V n ak next sure ja jn jc la ln lc k gj eH gl cW jobs log q ql){g:Nat}(hg:V.grownBy V' (some g))(h1:w.heap.size+3≤g)(h2:g≠gl)(h3:g∉gj::al q)(h4:g∉al ql):gN w V' n ak next sure ja jn jc la ln lc k gj eH gl cW jobs log q ql:=by
 refine⟨h.e7.grown hg h.e7.size (fun k e=>by cases e; omega),h.p.grown hg (by simp; omega),h.r.grown hg (by simp; omega),h.o.grown hg (by simp; omega),h.jobs.keep fun b hk=>hg.block b (h.jobs.at_ b hk) ?_,h.log.keep fun b hk=>hg.block b (h.log.at_ b hk) ?_,h.new,h.ne⟩
 · intro e; cases e
   exact h3 (by simpa[Value.ownBlock] using hk)
 · intro e; cases e
   rcases List.mem_append.1 hk with hk | hk
   · exact h2 (by simpa[Value.ownBlock] using hk)
   · exact h4 hk
end
theorem qg{w:World}{base:Nat}{e:TypeId}{size n:Nat}{v:Value}{xs:List Value}(h:w.ownsRow base e size v n xs)(h0:¬v=.slice none 0 0):∃g cap,v=.slice (some ⟨g,0,none⟩) n cap∧base≤g:=by
 rcases h.2 with⟨e,_⟩ | ⟨g,cap,cur,e,hb,_⟩
 · exact absurd e h0
 · exact⟨g,cap,e,hb⟩
theorem ME{w:World}{base g n cap:Nat}{l:List Ch}(hl:l.length=n)(hw:∀c∈l,(Lit.int .i64 c.1).wf=true)(h:w.ownsRow base 87 2 (.slice (some ⟨g,0,none⟩) n cap) n (iW l)):bk 87 q_ w (.slice (some ⟨g,0,none⟩) n cap) l (l.map fun x=>([.int .i64 x.1,.bool x.2],[])):=by
 subst hl;exact dH.made (h.mono (Nat.zero_le _)) fun c hc=>⟨hw c hc,trivial⟩
theorem vl(l:List Ch):al (l.map fun x=>([Value.int .i64 x.1,.bool x.2],([]:List Nat)))=[]:=by
 unfold al; rw[List.flatMap_map]; simp
theorem PR{w:World}{a:Option Addr}{len:Nat}{l:List Ch}(h:nc q_ w a len l):∀c∈l,(Lit.int .i64 c.1).wf=true:=fun c hc=>by
 obtain⟨vs,hv⟩:=h.2.2.1 c hc;exact(dH.eZ.1 hv).2.1
theorem l8{X:Nat}{n ak next sure:Int}{ja:Option Addr}{jn jc:Nat}{la:Option Addr}{ln lc:Nat}{w:World}(h:fh X n ak next sure ja jn jc la ln lc w)(a:Option Addr)(k m:Nat):fh X n ak next sure a k m la ln lc (w.setCell ⟨X,3,none⟩ (.slice a k m))∧w.grownBy (w.setCell ⟨X,3,none⟩ (.slice a k m)) (some X):=bw h 3 _
theorem GA{X:Nat}{n ak next sure:Int}{ja:Option Addr}{jn jc:Nat}{la:Option Addr}{ln lc:Nat}{w:World}(h:fh X n ak next sure ja jn jc la ln lc w)(a:Option Addr)(k m:Nat):fh X n ak next sure ja jn jc a k m (w.setCell ⟨X,4,none⟩ (.slice a k m))∧w.grownBy (w.setCell ⟨X,4,none⟩ (.slice a k m)) (some X):=bw h 4 _
abbrev Td(w:World)(X:Nat)(a b c d e f:Value):World:=(((((w.setCell ⟨X,0,none⟩ a).setCell ⟨X,1,none⟩ b).setCell ⟨X,2,none⟩ c).setCell ⟨X,3,none⟩ d).setCell ⟨X,4,none⟩ e).setCell ⟨X,5,none⟩ f
theorem oV{X:Nat}{n ak next sure:Int}{ja:Option Addr}{jn jc:Nat}{la:Option Addr}{ln lc:Nat}{w:World}(h:fh X n ak next sure ja jn jc la ln lc w)(n' ET next' EU:Int)(Ht:Option Addr)(Hu Hv:Nat)(Bl:Option Addr)(Bm Bn:Nat):
 fh X n' ET next' EU Ht Hu Hv Bl Bm Bn (Td w X (.int .i64 n') (.int .i64 ET) (.int .i64 next') (.slice Ht Hu Hv) (.slice Bl Bm Bn) (.int .i64 EU))∧w.grownBy (Td w X (.int .i64 n') (.int .i64 ET) (.int .i64 next') (.slice Ht Hu Hv) (.slice Bl Bm Bn) (.int .i64 EU)) (some X):=by
 have s0:=bw h 0 (.int .i64 n');have s1:=bw s0.1 1 (.int .i64 ET);have s2:=bw s1.1 2 (.int .i64 next');have s3:=bw s2.1 3 (.slice Ht Hu Hv);have s4:=bw s3.1 4 (.slice Bl Bm Bn);have s5:=bw s4.1 5 (.int .i64 EU);exact⟨s5.1,ao (ao (ao (ao (ao s0.2 s1.2) s2.2) s3.2) s4.2) s5.2⟩
theorem DR{w:World}{a:Option Addr}{len:Nat}{l:List Jb}(h:nc dU w a len l)(i:Nat)(hi:i<l.length):(Lit.int .i64 l[i].1).wf=true∧(Lit.int .i64 l[i].2.2.1).wf=true∧(∀o∈l[i].2.1,dN o)∧∀z∈l[i].2.2.2,(Lit.int .i64 z).wf=true:=by
 obtain⟨vs,hv⟩:=h.2.2.1 l[i] (List.getElem_mem hi);obtain⟨oa,ol,oc,ya,yl,yc,_,k1,k3,h5,h6,_⟩:=tU.1 hv;exact⟨k1,k3,h5.1.2.2.1,h6.2⟩
def km(w:World)(jn ln:Nat)(c:Co)(e:Ending)(w':World):Prop:=∃gj eH gl cW q ql,e=.returned (Gs c.1 c.2.1 c.2.2.1 c.2.2.2.2.2 (some ⟨gj,0,none⟩) jn eH (some ⟨gl,0,none⟩) ln cW)∧bk 75 dU w' (.slice (some ⟨gj,0,none⟩) jn eH) c.2.2.2.1 q∧bk 87 q_ w' (.slice (some ⟨gl,0,none⟩) ln cW) c.2.2.2.2.1 ql∧(∀b∈gl::gj::al q,w.heap.size≤b)∧gl∉gj::al q∧Below w.heap.size w w'
set_option maxRecDepth 100000 in
set_option maxHeartbeats 2000000 in
theorem GB(ja:Option Addr)(jn jc:Nat)(la:Option Addr)(ln lc:Nat)(c:Co)(w:World)(h:kQ w ja jn jc la ln lc c)(hf:rC c)(U7:∀j∈c.2.2.2.1,j.2.2.2.length≤1099511627776):
 Calls Tryz.prog 56 #[Gs c.1 c.2.1 c.2.2.1 c.2.2.2.2.2 ja jn jc la ln lc] w fun e w'=>km w jn ln c e w':=by
 obtain⟨n,ak,next,jobs,log,sure⟩:=c;simp only[] at *;have p7:nc q_ w la ln log:=h.log;have lP:=p7.1;have eL:jobs.length=jn:=h.jobs.1;have hff:log.length≤1099511627776:=hf.2.1;have za:jobs.length≤1099511627776:=hf.1;have Bx:=Hid.mk' (PR p7);have Q_:Hid (∀j∈jobs,j.2.1.length≤1099511627776∧(∀p∈j.2.1,p.2.1.size≤1099511627776)):=hf.2.2;have Z1:Hid (∀j∈jobs,j.2.2.2.length≤1099511627776):=U7;obtain⟨iC,hiC,Q4,UX,Cj⟩:=info_parts Tc;obtain⟨iJ,U8,U9,U_,Va⟩:=info_parts NN;have zS:=Hid.mk' (fun wx (hx:Below w.heap.size w wx)=>(h.below hx).jobs)
 cases la with
 | none=>
  have h0:ln=0:=by
   rcases Nat.eq_zero_or_pos ln with e | e
   · exact e
   · obtain⟨b,off,ha,_⟩:=p7.2.2.2 e; cases ha
  subst h0;have tM:log=[]:=List.eq_nil_of_length_eq_zero lP;have hanc:=tE;obtain⟨V0,PS⟩:∃V0,((((w.alloc (kr n ak next sure ja jn jc none 0 lc)).alloc (kr 0 0 0 0 none 0 0 none 0 0)).alloc (kr n ak next sure (some ⟨w.heap.size+1+1+1+1,0,none⟩) 0 0 (some ⟨w.heap.size+1+1+1,0,none⟩) 0 0)).alloc (.cells #[] 87)).alloc (.cells #[] 75)=V0:=⟨_,rfl⟩;have Te:=Hid.mk' PS;have HA:Hid (gN w V0 n ak next sure ja jn jc none 0 lc 0 (w.heap.size+1+1+1+1) 0 (w.heap.size+1+1+1) 0 (jobs.take 0) [] [] []):=by
   rw[←PS];have e1:(w.alloc (kr n ak next sure ja jn jc none 0 lc)).heap.size=w.heap.size+1:=by simp
   have e2:((w.alloc (kr n ak next sure ja jn jc none 0 lc)).alloc (kr 0 0 0 0 none 0 0 none 0 0)).heap.size=w.heap.size+1+1:=by simp
   have hr:=eo (w.alloc (kr n ak next sure ja jn jc none 0 lc)) 0 0 0 0 none 0 0 none 0 0;have ho:=eo ((w.alloc (kr n ak next sure ja jn jc none 0 lc)).alloc (kr 0 0 0 0 none 0 0 none 0 0)) n ak next sure (some ⟨w.heap.size+1+1+1+1,0,none⟩) 0 0 (some ⟨w.heap.size+1+1+1,0,none⟩) 0 0;rw[e1] at hr;rw[e2] at ho;generalize hU:((w.alloc (kr n ak next sure ja jn jc none 0 lc)).alloc (kr 0 0 0 0 none 0 0 none 0 0)).alloc (kr n ak next sure (some ⟨w.heap.size+1+1+1+1,0,none⟩) 0 0 (some ⟨w.heap.size+1+1+1,0,none⟩) 0 0)=U at *;have hsU:U.heap.size=w.heap.size+1+1+1:=by rw[←hU]; simp
   have Kc:Below w.heap.size w U:=by rw[←hU]; exact(((Below.refl _ _).alloc (Nat.le_refl _) _).alloc (by simp) _).alloc (by simp; omega) _
   have hpU:fh w.heap.size n ak next sure ja jn jc none 0 lc U:=by rw[←hU]; exact((eo w _ _ _ _ _ _ _ _ _ _).below (aS _ _)).below (aS _ _)
   have hrU:fh (w.heap.size+1) 0 0 0 0 none 0 0 none 0 0 U:=by rw[←hU]; exact hr.below (aS _ _)
   have gk:=aS U (.cells #[] 87);have Ib:=lB 87 q_ U;rw[hsU] at Ib;have px:(U.alloc (.cells #[] 87)).heap.size=w.heap.size+1+1+1+1:=by simp; omega
   have dS:=aS (U.alloc (.cells #[] 87)) (.cells #[] 75);have sk:=lB 75 dU (U.alloc (.cells #[] 87));rw[px] at sk;have eU:=Kc.trans (gk.mono Kc.size);refine⟨eU.trans (dS.mono eU.size),(hpU.below gk).below dS,(hrU.below gk).below dS,(ho.below gk).below dS,sk,Ib.keep fun b hk=>dS.block b (Ib.at_ b hk),?_,?_⟩
   · intro b hb;simp[al] at hb;omega
   · simp[al]
  obtain⟨gl,cW,ql,Z2,HA,oT⟩:∃gl cW ql Z2,Hid (gN w V0 n ak next sure ja jn jc none 0 lc 0 Z2 0 gl cW (jobs.take 0) log [] ql)∧al ql=[]:=⟨_,_,_,_,by rw[tM]; exact HA,rfl⟩
  clear tM PS p7 h;go_enter Tryz.func56,Tryz.ntmps56;go_wp2_with fail;rw[Te.out];go_loopw [4] (fun i wr=>∃(k gj eH:Nat) (q:dJ),k≤jn∧i=.int .i64 (k:Int)∧gN w wr n ak next sure ja jn jc none 0 lc k gj eH gl cW (jobs.take k) log q ql) (fun i _=>jn - (intOf i).toNat)
  case atStart=>exact⟨0,_,0,[],Nat.zero_le _,rfl,HA.out⟩
  case round=>
   clear HA Te;obtain⟨k,gj,eH,q,hk,rfl,hA⟩:=hrel;obtain⟨x0,x1,x2,x3,x4,x5⟩:=hA.p.cells;by_cases a6:k<jn
   · have ck:k<jobs.length:=by omega
     have fL:(k:Int)<(jn:Int):=by omega
     have Gy:nc dU w ja jn jobs:=zS.out w (Below.refl _ _);obtain⟨jb,ep,e⟩:=fT Gy (by omega)
     subst e;obtain⟨c0,c2,⟨oa,ol,oc,c1,ve,Hn⟩,ya,yl,yc,c3,Gz,zk⟩:=qe Gy k ck;replace c0:=(hA.e7.cell (World.block_lt_of_cell? w _ c0)).trans c0;replace c1:=(hA.e7.cell (World.block_lt_of_cell? w _ c1)).trans c1;replace c2:=(hA.e7.cell (World.block_lt_of_cell? w _ c2)).trans c2;replace c3:=(hA.e7.cell (World.block_lt_of_cell? w _ c3)).trans c3;have wR:=Hid.mk' (DR Gy k ck);have Ll:=Q_.out _ (List.getElem_mem ck);have MF:yl≤1099511627776:=by have h1:=Gz.1; have h2:=Z1.out _ (List.getElem_mem ck); omega
     have oL:ol≤1099511627776:=by have h1:=ve.1; have h2:=Ll.1; omega
     have xr:Hid (jobs.take (k+1)=jobs.take k++[jobs[k]]):=List.take_succ_eq_append_getElem ck;generalize jobs[k]=jk at *;obtain⟨tx,ops,st,yes⟩:=jk;simp only[] at c0 c1 c2 c3 ve Gz wR;obtain⟨V1,MG⟩:∃V1,wr.alloc (.cells #[.int .i64 tx,.slice oa ol oc,.int .i64 st,.slice ya yl yc] 75)=V1:=⟨_,rfl⟩;have aT:Below wr.heap.size wr V1:=by rw[←MG]; exact aS _ _
     have Lm:iK wr.heap.size tx st (.slice oa ol oc) (.slice ya yl yc) V1:=by rw[←MG]; exact heap_alloc_new wr _
     have E_:=Hid.mk' (fY oa ol oc ops V1 (ve.below (hA.e7.trans (aT.mono hA.e7.size))) oL);have Br:=Hid.mk' MG;have Xq:=Hid.mk' (hA.below aT);have Ln:=Hid.mk' hA;have Tf:=Hid.mk' Gz;clear MG Gy ve Gz Ll hA;go_wp2_with fail;rw[Br.out];refine E_.out.mono ?_;rintro e V2 ⟨g1,iA,rfl,gi,aU⟩;have cT:=Xq.out.below aU;have EV:=Lm.below aU;have Tg:=Tf.out.below cT.e7;have tL:V1.heap.size=wr.heap.size+1:=by rw[←Br.out]; simp
     have gR:=gi.lt;have Xr:=aU.size;have zL:=xO EV (.slice (some ⟨g1,0,none⟩) ol iA);obtain⟨j0,j1,j2,j3⟩:=EV.cells;have jf1:=EV.fz 1;obtain⟨m0,m1,m2,m3⟩:=zL.1.cells;have Th:=zL.1.fz 3;have OY:=EV.lt;have r8:∀b∈gl::gj::al q,b<wr.heap.size:=fun b hb=>by
      rcases List.mem_cons.1 hb with e | e
      · subst e; exact Ln.out.log.at_ _ (List.mem_append.2 (.inl (by simp[Value.ownBlock])))
      · rcases List.mem_cons.1 e with e | e
        · subst e; exact Ln.out.jobs.at_ _ (List.mem_append.2 (.inl (by simp[Value.ownBlock])))
        · exact Ln.out.jobs.at_ _ (List.mem_append.2 (.inr e))
     have sS:w.heap.size+3≤wr.heap.size:=by have:=Ln.out.o.lt; omega
     have sF:∀g,wr.heap.size≤g→g≠gl∧g∉gj::al q∧g∉al ql:=fun g hg=>⟨fun e=>by have:=r8 gl (by simp); omega,fun e=>by have:=r8 g (List.mem_cons_of_mem _ e); omega,by rw[oT]; simp⟩
     have zi:=cT.other zL.2 sS (sF _ (Nat.le_refl _)).1 (sF _ (Nat.le_refl _)).2.1 (sF _ (Nat.le_refl _)).2.2;have d_:=gi.grown zL.2 (by simp; omega)
     have Gk:¬wr.heap.size=V2.heap.size:=by omega
     have Xs:¬V2.heap.size=wr.heap.size:=by omega
     cases ya with
     | none=>
      have h0:yl=0:=by
       rcases Nat.eq_zero_or_pos yl with e | e
       · exact e
       · obtain⟨b,off,ha,_⟩:=Tg.2.2 e; cases ha
      subst h0;have yR:yes=[]:=List.eq_nil_of_length_eq_zero Tg.1;subst yR;have Xt:=m7;have wS:=oU zL.1 (.slice (some ⟨V2.heap.size,0,none⟩) 0 0);obtain⟨V5,ti⟩:∃V5,(V2.setCell ⟨wr.heap.size,1,none⟩ (.slice (some ⟨g1,0,none⟩) ol iA)).setCell ⟨wr.heap.size,3,none⟩ (.slice (some ⟨V2.heap.size,0,none⟩) 0 0)=V5:=⟨_,rfl⟩;have CT:V5.heap.size=V2.heap.size:=by rw[←ti]; simp
      rw[ti] at wS;obtain⟨V6,pM⟩:∃V6,V5.alloc (.cells #[] 3)=V6:=⟨_,rfl⟩;have mj:Below V5.heap.size V5 V6:=by rw[←pM]; exact aS _ _
      have bB:=(zi.other wS.2 sS (sF _ (Nat.le_refl _)).1 (sF _ (Nat.le_refl _)).2.1 (sF _ (Nat.le_refl _)).2.2).below mj;have tW:=wS.1.below mj;have dV:=(d_.grown wS.2 (by simp; omega)).below mj
      have DS:cX V6 0 V2.heap.size 0 0 []:=by rw[←pM,←CT]; exact(iS V5 0 (Nat.zero_le _))
      obtain⟨V7,pC⟩:∃V7,V6.alloc (.cells #[.int .i64 tx,.slice (some ⟨g1,0,none⟩) ol iA,.int .i64 st,.slice (some ⟨V2.heap.size,0,none⟩) 0 0] 75)=V7:=⟨_,rfl⟩;have PT:=Hid.mk' pC;have Hr:V6.heap.size=V2.heap.size+1:=by rw[←pM]; simp; omega
      obtain⟨u0,u1,u2,u3,u4,u5⟩:=bB.o.cells;obtain⟨i0,i1,i2,i3⟩:=tW.cells;have cP:Below V6.heap.size V6 V7:=by rw[←pC]; exact aS _ _
      have wO:=bB.below cP;have DT:iK V6.heap.size tx st (.slice (some ⟨g1,0,none⟩) ol iA) (.slice (some ⟨V2.heap.size,0,none⟩) 0 0) V7:=by rw[←pC]; exact heap_alloc_new V6 _
      rw[Hr] at DT;have I7:V7.heap.size=V6.heap.size+1:=by rw[←pC]; simp
      have rN:(jobs.take k).length=k:=by simp; omega
      have vm:V7.ownsRow 0 75 4 (.slice (some ⟨gj,0,none⟩) k eH) k (cellsOf q):=by have:=wO.jobs.row; rw[rN] at this; exact this
      have Cl:Hid (∀j u,([.int .i64 tx,.slice (some ⟨g1,0,none⟩) ol iA,.int .i64 st,.slice (some ⟨V2.heap.size,0,none⟩) 0 0]:List Value)[j]? =some u→V7.cell? ((⟨V2.heap.size+1,0,none⟩:Addr).add j)=some u):=by
       intro j u hj;obtain⟨n0,n1,n2,n3⟩:=DT.cells;rw[Addr.add_lit,Nat.zero_add]
       match j,hj with
       | 0,hj=>cases hj; exact n0
       | 1,hj=>cases hj; exact n1
       | 2,hj=>cases hj; exact n2
       | 3,hj=>cases hj; exact n3
      have B_:Hid (∀u∈([.int .i64 tx,.slice (some ⟨g1,0,none⟩) ol iA,.int .i64 st,.slice (some ⟨V2.heap.size,0,none⟩) 0 0]:List Value),u.oneCell'=true):=by
       intro u hu;simp only[List.mem_cons,List.not_mem_nil,or_false] at hu;rcases hu with rfl | rfl | rfl | rfl <;> rfl
      have Lp:k+1≤maxLen:=by unfold maxLen; omega
      have tC:(k+1) * 64≤140737488355328:=by omega
      have kn:=Hid.mk' wO;have wm:=Hid.mk' (fv ((dV.below cP).mono (base':=0) (Nat.zero_le _)));have Kd:Hid (s6 V7 (.slice (some ⟨V2.heap.size,0,none⟩) 0 0) []):=⟨wR.out.2.2.2,by have h9:=(DS.below cP).2; have h8:=(DS.below cP).1; first | (rw[h8]; exact h9) | (rw[←h8] at h9; simpa using h9)⟩
      clear wO bB DT cP dV DS tW pC;go_wp2_with (at_builtin; rw[PT.out]; refine wpList_append_lies _ rfl (.tmp 36) (.tmp 38) 25 rfl 0 75 iJ (.agg #[.int .i64 0,.slice none 0 0,.int .i64 0,.slice none 0 0]) 4 64 Tryz.underlying25 U8 U9 U_ Va rfl (by decide) _ _ _ rfl vm ⟨V2.heap.size+1,0,none⟩ 1 1 [.int .i64 tx,.slice (some ⟨g1,0,none⟩) ol iA,.int .i64 st,.slice (some ⟨V2.heap.size,0,none⟩) 0 0] ?e1 rfl Cl.out B_.out (by decide) Lp tC (Nat.zero_le _) _ rfl ?_)
      case e1=>simp[Act.eval]
      intro g8 mM w8 fQ bK iG uO;have iX:V7.grownBy w8 (some gj):=bK;have dW:([g1]++[V2.heap.size]:List Nat).Nodup:=by simp; omega
      have hx:dU.own V7 [.int .i64 tx,.slice (some ⟨g1,0,none⟩) ol iA,.int .i64 st,.slice (some ⟨V2.heap.size,0,none⟩) 0 0] (tx,ops,st,[]) ([g1]++[V2.heap.size]):=dI.2 ⟨_,_,rfl,wR.out.1,wR.out.2.1,wm.out,Kd.out,rfl,dW⟩;have kU:∀b∈([g1]++[V2.heap.size]:List Nat),wr.heap.size≤b:=fun b hb=>by simp at hb; rcases hb with rfl | rfl <;> omega
      have hd:∀b∈([g1]++[V2.heap.size]:List Nat),b∉(Value.slice (some ⟨gj,0,none⟩) k eH).ownBlock.toList++al q:=fun b hb hc=>by
       have h1:=kU b hb;have h2:=r8 b (List.mem_cons_of_mem _ (by simpa[Value.ownBlock] using hc))
       omega
      have zl:=bk.snoc kn.out.jobs hx hd (by rw[rN]; exact fQ) bK iG (by omega)
      rw[rN,←xr.out] at zl;have mN:=kn.out.new;have PU:w.heap.size+3≤gj:=mN gj (by simp)
      have Gi:w.heap.size+3≤gl:=mN gl (by simp)
      have qh:=kn.out.ne;have zm:=kn.out.o.grown iX (by simp; omega)
      have s9:=l8 zm (some ⟨g8,0,none⟩) (k+1) mM;have PV:w.heap.size+3≤g8:=by
       rcases iG with e | e
       · have:gj=g8:=by simpa[Value.ownBlock] using e
         omega
       · omega
      have ly:=kn.out.e7.grown iX kn.out.e7.size (fun b e=>by cases e; omega)
      have zf:=kn.out.log.keep fun b hk=>iX.block b (kn.out.log.at_ b hk) (by
       rw[oT] at hk;simp[Value.ownBlock] at hk;subst hk;simp;intro e;exact qh (by simp[e]))
      have PW:Hid (gN w (w8.setCell ⟨w.heap.size+1+1,3,none⟩ (.slice (some ⟨g8,0,none⟩) (k+1) mM)) n ak next sure (some ⟨jb,ep,none⟩) jn jc none 0 lc (k+1) g8 mM gl cW (jobs.take (k+1)) log (q++[([.int .i64 tx,.slice (some ⟨g1,0,none⟩) ol iA,.int .i64 st,.slice (some ⟨V2.heap.size,0,none⟩) 0 0],[g1]++[V2.heap.size])]) ql):=by
       refine⟨ly.grown s9.2 ly.size (fun b e=>by cases e; omega),(kn.out.p.grown iX (by simp; omega)).grown s9.2 (by simp <;> omega),(kn.out.r.grown iX (by simp; omega)).grown s9.2 (by simp <;> omega),s9.1,?_,?_,?_,?_⟩
       · refine zl.keep fun b hk=>s9.2.block b (zl.at_ b hk) ?_
         rw[aQ] at hk;have:w.heap.size+3≤b:=by
          rcases List.mem_append.1 hk with h1 | h1
          · simp[Value.ownBlock] at h1; omega
          · rcases List.mem_append.1 h1 with h2 | h2
            · exact mN b (by simp[h2])
            · have:=kU b (by simpa[al] using h2); omega
         simp; omega
       · refine zf.keep fun b hk=>s9.2.block b (zf.at_ b hk) ?_
         rw[oT] at hk;simp[Value.ownBlock] at hk;simp; omega
       · intro b hb;rw[aQ] at hb;rcases List.mem_cons.1 hb with h1 | h1
         · omega
         · rcases List.mem_cons.1 h1 with h2 | h2
           · omega
           · rcases List.mem_append.1 h2 with h3 | h3
             · exact mN b (by simp[h3])
             · have:=kU b (by simpa[al] using h3); omega
       · intro hb;rw[aQ] at hb;have Xu:=r8 gl (by simp)
         rcases List.mem_cons.1 hb with h1 | h1
         · rcases iG with e | e
           · have:gj=g8:=by simpa[Value.ownBlock] using e
             exact qh (by simp[h1,this])
           · omega
         · rcases List.mem_append.1 h1 with h3 | h3
           · exact qh (by simp[h3])
           · have:=kU gl (by simpa[al] using h3); omega
      obtain⟨y0,y1,y2,y3,y4,y5⟩:=zm.cells;have yf:=zm.fz 3;clear zl hx hd fQ bK iX zf ly s9 zm kn wm Kd;go_wp2_with fail;go_roundw
      case rel=>exact⟨k+1,g8,mM,_,by omega,by go_num,PW.out⟩
      case measure=>simp[intOf]; omega
     | some ay=>
      obtain⟨iZ,Xv,Xw,Xx,Xy⟩:=info_parts pA;obtain⟨V3,jP⟩:∃V3,V2.setCell ⟨wr.heap.size,1,none⟩ (.slice (some ⟨g1,0,none⟩) ol iA)=V3:=⟨_,rfl⟩;have PX:V3.heap.size=V2.heap.size:=by rw[←jP]; simp
      rw[jP] at zL zi d_ m0 m1 m2 m3 Th;obtain⟨V4,zE⟩:∃V4,V3.alloc (.cells #[] 3)=V4:=⟨_,rfl⟩;have DU:Below V3.heap.size V3 V4:=by rw[←zE]; exact aS _ _
      have fF:=zi.below DU;have Ti:=Tf.out.below fF.e7;have rh:=zL.1.below DU;have dT:=d_.below DU;have PY:=iS V3 V2.heap.size (by omega)
      rw[PX,zE] at PY;have Xz:V4.heap.size=V2.heap.size+1:=by rw[←zE]; simp; omega
      have J6:=Ti.1;have PN:yl≤1099511627776:=MF;have vn:Hid (∀j u,(aV yes)[j]? =some u→V4.cell? (ay.add j)=some u):=by
       intro j u hj;have Ke:j<yes.length:=by rw[←eP]; exact(List.getElem?_eq_some_iff.1 hj).1
       obtain⟨b,off,ha,lr⟩:=Ti.2.2 (by omega)
       cases ha;rw[Addr.add_lit,lr j Ke];have:(aV yes)[j]? =some (.int .i64 yes[j]):=by simp[aV,Ke]
       rw[this] at hj;exact hj
      have XA:(aV yes).length=yl * 1:=by rw[eP]; omega
      have PZ:0+yl≤maxLen:=by unfold maxLen; omega
      have P0:(0+yl) * 8≤140737488355328:=by omega
      have P1:V2.heap.size≤V4.heap.size:=by omega
      obtain⟨i0,i1,i2,i3⟩:=rh.cells;go_wp2_with (at_builtin; refine wpList_append_own _ rfl (.tmp 30) (.tmp 32) 54 rfl V2.heap.size 3 iZ (.int .i64 0) 1 8 Tryz.underlying54 Xv Xw Xx Xy rfl (by decide) _ _ _ rfl PY.2 ay yl yc (aV yes) rfl XA vn.out (bT _) PZ P0 P1 ?_)
      intro vy w6 By vq Kf;have Bz:¬vy=.slice none 0 0:=by simpa using Kf
      have vt:w6.ownsRow V2.heap.size 3 1 vy yl (aV yes):=by have h9:=By; simpa[aV] using h9
      obtain⟨gy,cy,ey,hgy⟩:=qg vt Bz;subst ey;have zn:V4.grownBy w6 (some V2.heap.size):=vq;have sk:=sF V2.heap.size (by omega)
      have gq:=fF.other zn (by omega) sk.1 sk.2.1 sk.2.2
      have vT:iK wr.heap.size tx st (.slice (some ⟨g1,0,none⟩) ol iA) (.slice (some ay) yl yc) w6:=(zn.block _ rh.lt (by simp; omega)).trans rh
      have eh:=dT.grown zn (by simp; omega)
      have J5:cX w6 V2.heap.size gy yl cy yes:=⟨J6,vt⟩;have wS:=oU vT (.slice (some ⟨gy,0,none⟩) yl cy);obtain⟨V6,pM⟩:∃V6,w6.setCell ⟨wr.heap.size,3,none⟩ (.slice (some ⟨gy,0,none⟩) yl cy)=V6:=⟨_,rfl⟩;have Hr:V6.heap.size=w6.heap.size:=by rw[←pM]; simp
      rw[pM] at wS;have bB:=gq.other wS.2 sS (sF _ (Nat.le_refl _)).1 (sF _ (Nat.le_refl _)).2.1 (sF _ (Nat.le_refl _)).2.2;have tW:=wS.1;have dV:=eh.grown wS.2 (by simp; omega)
      have DS:cX V6 0 gy yl cy yes:=(J5.grown wS.2 (by simp; omega)).mono (Nat.zero_le _)
      have XB:=zn.size;obtain⟨V7,pC⟩:∃V7,V6.alloc (.cells #[.int .i64 tx,.slice (some ⟨g1,0,none⟩) ol iA,.int .i64 st,.slice (some ⟨gy,0,none⟩) yl cy] 75)=V7:=⟨_,rfl⟩;have PT:=Hid.mk' pC;obtain⟨t0,t1,t2,t3⟩:=vT.cells;have tf3:=iK.fz vT 3;clear i0 i1 i2 i3 m0 m1 m2 m3 Th By vq Kf Bz vn PY fF gq rh dT eh J5 zE jP;obtain⟨u0,u1,u2,u3,u4,u5⟩:=bB.o.cells;obtain⟨v0,v1,v2,v3⟩:=tW.cells;have cP:Below V6.heap.size V6 V7:=by rw[←pC]; exact aS _ _
      have wO:=bB.below cP;have DT:iK V6.heap.size tx st (.slice (some ⟨g1,0,none⟩) ol iA) (.slice (some ⟨gy,0,none⟩) yl cy) V7:=by rw[←pC]; exact heap_alloc_new V6 _
      rw[Hr] at DT;have I7:V7.heap.size=V6.heap.size+1:=by rw[←pC]; simp
      have rN:(jobs.take k).length=k:=by simp; omega
      have vm:V7.ownsRow 0 75 4 (.slice (some ⟨gj,0,none⟩) k eH) k (cellsOf q):=by have:=wO.jobs.row; rw[rN] at this; exact this
      have Cl:Hid (∀j u,([.int .i64 tx,.slice (some ⟨g1,0,none⟩) ol iA,.int .i64 st,.slice (some ⟨gy,0,none⟩) yl cy]:List Value)[j]? =some u→V7.cell? ((⟨w6.heap.size,0,none⟩:Addr).add j)=some u):=by
       intro j u hj;obtain⟨n0,n1,n2,n3⟩:=DT.cells;rw[Addr.add_lit,Nat.zero_add]
       match j,hj with
       | 0,hj=>cases hj; exact n0
       | 1,hj=>cases hj; exact n1
       | 2,hj=>cases hj; exact n2
       | 3,hj=>cases hj; exact n3
      have B_:Hid (∀u∈([.int .i64 tx,.slice (some ⟨g1,0,none⟩) ol iA,.int .i64 st,.slice (some ⟨gy,0,none⟩) yl cy]:List Value),u.oneCell'=true):=by
       intro u hu;simp only[List.mem_cons,List.not_mem_nil,or_false] at hu;rcases hu with rfl | rfl | rfl | rfl <;> rfl
      have Lp:k+1≤maxLen:=by unfold maxLen; omega
      have tC:(k+1) * 64≤140737488355328:=by omega
      have kn:=Hid.mk' wO;have wm:=Hid.mk' (fv ((dV.below cP).mono (base':=0) (Nat.zero_le _)));have Kd:Hid (s6 V7 (.slice (some ⟨gy,0,none⟩) yl cy) yes):=⟨wR.out.2.2.2,by have h9:=(DS.below cP).2; have h8:=(DS.below cP).1; first | (rw[h8]; exact h9) | (rw[←h8] at h9; simpa using h9)⟩
      clear wO bB DT cP dV DS tW pC;go_wp2_with (at_builtin; rw[PT.out]; refine wpList_append_lies _ rfl (.tmp 36) (.tmp 38) 25 rfl 0 75 iJ (.agg #[.int .i64 0,.slice none 0 0,.int .i64 0,.slice none 0 0]) 4 64 Tryz.underlying25 U8 U9 U_ Va rfl (by decide) _ _ _ rfl vm ⟨w6.heap.size,0,none⟩ 1 1 [.int .i64 tx,.slice (some ⟨g1,0,none⟩) ol iA,.int .i64 st,.slice (some ⟨gy,0,none⟩) yl cy] ?e1 rfl Cl.out B_.out (by decide) Lp tC (Nat.zero_le _) _ rfl ?_)
      case e1=>simp[Act.eval]
      intro g8 mM w8 fQ bK iG uO;have iX:V7.grownBy w8 (some gj):=bK;have dW:([g1]++[gy]:List Nat).Nodup:=by simp; omega
      have hx:dU.own V7 [.int .i64 tx,.slice (some ⟨g1,0,none⟩) ol iA,.int .i64 st,.slice (some ⟨gy,0,none⟩) yl cy] (tx,ops,st,yes) ([g1]++[gy]):=dI.2 ⟨_,_,rfl,wR.out.1,wR.out.2.1,wm.out,Kd.out,rfl,dW⟩;have kU:∀b∈([g1]++[gy]:List Nat),wr.heap.size≤b:=fun b hb=>by simp at hb; rcases hb with rfl | rfl <;> omega
      have hd:∀b∈([g1]++[gy]:List Nat),b∉(Value.slice (some ⟨gj,0,none⟩) k eH).ownBlock.toList++al q:=fun b hb hc=>by
       have h1:=kU b hb;have h2:=r8 b (List.mem_cons_of_mem _ (by simpa[Value.ownBlock] using hc))
       omega
      have zl:=bk.snoc kn.out.jobs hx hd (by rw[rN]; exact fQ) bK iG (by omega)
      rw[rN,←xr.out] at zl;have mN:=kn.out.new;have PU:w.heap.size+3≤gj:=mN gj (by simp)
      have Gi:w.heap.size+3≤gl:=mN gl (by simp)
      have qh:=kn.out.ne;have zm:=kn.out.o.grown iX (by simp; omega)
      have s9:=l8 zm (some ⟨g8,0,none⟩) (k+1) mM;have PV:w.heap.size+3≤g8:=by
       rcases iG with e | e
       · have:gj=g8:=by simpa[Value.ownBlock] using e
         omega
       · omega
      have ly:=kn.out.e7.grown iX kn.out.e7.size (fun b e=>by cases e; omega)
      have zf:=kn.out.log.keep fun b hk=>iX.block b (kn.out.log.at_ b hk) (by
       rw[oT] at hk;simp[Value.ownBlock] at hk;subst hk;simp;intro e;exact qh (by simp[e]))
      have PW:Hid (gN w (w8.setCell ⟨w.heap.size+1+1,3,none⟩ (.slice (some ⟨g8,0,none⟩) (k+1) mM)) n ak next sure (some ⟨jb,ep,none⟩) jn jc none 0 lc (k+1) g8 mM gl cW (jobs.take (k+1)) log (q++[([.int .i64 tx,.slice (some ⟨g1,0,none⟩) ol iA,.int .i64 st,.slice (some ⟨gy,0,none⟩) yl cy],[g1]++[gy])]) ql):=by
       refine⟨ly.grown s9.2 ly.size (fun b e=>by cases e; omega),(kn.out.p.grown iX (by simp; omega)).grown s9.2 (by simp <;> omega),(kn.out.r.grown iX (by simp; omega)).grown s9.2 (by simp <;> omega),s9.1,?_,?_,?_,?_⟩
       · refine zl.keep fun b hk=>s9.2.block b (zl.at_ b hk) ?_
         rw[aQ] at hk;have:w.heap.size+3≤b:=by
          rcases List.mem_append.1 hk with h1 | h1
          · simp[Value.ownBlock] at h1; omega
          · rcases List.mem_append.1 h1 with h2 | h2
            · exact mN b (by simp[h2])
            · have:=kU b (by simpa[al] using h2); omega
         simp; omega
       · refine zf.keep fun b hk=>s9.2.block b (zf.at_ b hk) ?_
         rw[oT] at hk;simp[Value.ownBlock] at hk;simp; omega
       · intro b hb;rw[aQ] at hb;rcases List.mem_cons.1 hb with h1 | h1
         · omega
         · rcases List.mem_cons.1 h1 with h2 | h2
           · omega
           · rcases List.mem_append.1 h2 with h3 | h3
             · exact mN b (by simp[h3])
             · have:=kU b (by simpa[al] using h3); omega
       · intro hb;rw[aQ] at hb;have Xu:=r8 gl (by simp)
         rcases List.mem_cons.1 hb with h1 | h1
         · rcases iG with e | e
           · have:gj=g8:=by simpa[Value.ownBlock] using e
             exact qh (by simp[h1,this])
           · omega
         · rcases List.mem_append.1 h1 with h3 | h3
           · exact qh (by simp[h3])
           · have:=kU gl (by simpa[al] using h3); omega
      obtain⟨y0,y1,y2,y3,y4,y5⟩:=zm.cells;have yf:=zm.fz 3;clear zl hx hd fQ bK iX zf ly s9 zm kn wm Kd;go_wp2_with fail;go_roundw
      case rel=>exact⟨k+1,g8,mM,_,by omega,by go_num,PW.out⟩
      case measure=>simp[intOf]; omega
   · have CF:¬(k:Int)<(jn:Int):=by omega
     have XC:k=jn:=by omega
     subst XC;obtain⟨o0,o1,o2,o3,o4,o5⟩:=hA.o.cells;obtain⟨r0,r1,r2,r3,r4,r5⟩:=hA.r.cells;have f0:=hA.r.fz 0;have f1:=hA.r.fz 1;have f2:=hA.r.fz 2;have f3:=hA.r.fz 3;have f4:=hA.r.fz 4;have f5:=hA.r.fz 5;have hz:=oV hA.r n ak next sure (some ⟨gj,0,none⟩) k eH (some ⟨gl,0,none⟩) 0 cW;have lM:=hz.1.cells;have P2:=Hid.mk' lM;have rN:jobs.take k=jobs:=List.take_of_length_le (by omega)
     have kC:=hA.new;have XD:=Hid.mk' (show bk 75 dU _ (.slice (some ⟨gj,0,none⟩) k eH) jobs q from by
      have h1:=hA.jobs;rw[rN] at h1;exact h1.keep fun b hk=>hz.2.block b (h1.at_ b hk) (by
       have:=kC b (List.mem_cons_of_mem _ (by simpa[Value.ownBlock] using hk))
       simp; omega))
     have Ra:=Hid.mk' (hA.log.keep fun b hk=>hz.2.block b (hA.log.at_ b hk) (by
      rw[oT] at hk;simp[Value.ownBlock] at hk;have:=kC gl (by simp)
      simp; omega))
     have XE:=Hid.mk' (hA.e7.grown hz.2 hA.e7.size (fun b e=>by cases e; omega))
     have Cl:Hid (∀b∈gl::gj::al q,w.heap.size≤b):=fun b hb=>by have:=kC b hb; omega
     have Rb:=Hid.mk' hA.ne;clear hz lM hA kC;go_wp2_with fail;have lM:=P2.out;refine bodyPost_ret (v:=.agg #[.int .i64 n,.int .i64 ak,.int .i64 next,.slice (some ⟨gj,0,none⟩) k eH,.slice (some ⟨gl,0,none⟩) 0 cW,.int .i64 sure]) ?_ rfl (show km w k 0 (n,ak,next,jobs,log,sure) _ _ from⟨gj,eH,gl,cW,q,ql,rfl,XD.out,Ra.out,Cl.out,Rb.out,XE.out⟩)
     simp[results,Tryz.results56,go_sem,lM.1,lM.2.1,lM.2.2.1,lM.2.2.2.1,lM.2.2.2.2.1,lM.2.2.2.2.2]
 | some ad=>
  obtain⟨W3,zA⟩:∃W3,((w.alloc (kr n ak next sure ja jn jc (some ad) ln lc)).alloc (kr 0 0 0 0 none 0 0 none 0 0)).alloc (kr n ak next sure ja jn jc (some ad) ln lc)=W3:=⟨_,rfl⟩;have cJ:Below w.heap.size w W3:=by rw[←zA]; exact(((Below.refl _ _).alloc (Nat.le_refl _) _).alloc (by simp) _).alloc (by simp; omega) _
  have Lc:W3.heap.size=w.heap.size+1+1+1:=by rw[←zA]; simp
  have Z3:fh w.heap.size n ak next sure ja jn jc (some ad) ln lc W3:=by rw[←zA]; exact((eo w _ _ _ _ _ _ _ _ _ _).below (aS _ _)).below (aS _ _)
  have Vb:fh (w.heap.size+1) 0 0 0 0 none 0 0 none 0 0 W3:=by
   rw[←zA];have:=eo (w.alloc (kr n ak next sure ja jn jc (some ad) ln lc)) 0 0 0 0 none 0 0 none 0 0;have e:(w.alloc (kr n ak next sure ja jn jc (some ad) ln lc)).heap.size=w.heap.size+1:=by simp
   rw[e] at this;exact this.below (aS _ _)
  have Z4:fh (w.heap.size+1+1) n ak next sure ja jn jc (some ad) ln lc W3:=by
   rw[←zA];have:=eo ((w.alloc (kr n ak next sure ja jn jc (some ad) ln lc)).alloc (kr 0 0 0 0 none 0 0 none 0 0)) n ak next sure ja jn jc (some ad) ln lc;have e:((w.alloc (kr n ak next sure ja jn jc (some ad) ln lc)).alloc (kr 0 0 0 0 none 0 0 none 0 0)).heap.size=w.heap.size+1+1:=by simp
   rw[e] at this;exact this
  have eD:=aS W3 (.cells #[] 87);have ej:=cJ.trans (eD.mono cJ.size);have pj:(W3.alloc (.cells #[] 87)).ownsRow (w.heap.size+1+1+1) 87 2 (.slice (some ⟨w.heap.size+1+1+1,0,none⟩) 0 0) 0 []:=by
   have:=World.ownsRow_made (base:=w.heap.size+1+1+1) (e:=87) (size:=2) W3 #[] 0 (by omega) (Nat.zero_le _) (by simp)
   rw[Lc] at this;exact this
  have mU:Hid (∀j u,(iW log)[j]? =some u→(W3.alloc (.cells #[] 87)).cell? (ad.add j)=some u):=by
   rcases Nat.eq_zero_or_pos ln with e | e
   · intro j u hj;have e1:log=[]:=List.eq_nil_of_length_eq_zero (by omega)
     rw[e1] at hj; simp[iW] at hj
   · obtain⟨b,off,ha,_⟩:=p7.2.2.2 e;cases ha;exact Kb (p7.below ej)
  have jh:(iW log).length=ln * 2:=by rw[pI]; omega
  have fD:0+ln≤maxLen:=by unfold maxLen; omega
  have jX:(0+ln) * 16≤140737488355328:=by omega
  have zB:=Hid.mk' zA;have iM:w.heap.size+1+1+1≤(W3.alloc (.cells #[] 87)).heap.size:=by simp; omega
  clear zA p7 h;go_enter Tryz.func56,Tryz.ntmps56;go_wp2_with (at_builtin; rw[zB.out]; refine wpList_append_own _ rfl (.tmp 7) (.tmp 9) 26 rfl (w.heap.size+1+1+1) 87 iC (.agg #[.int .i64 0,.bool false]) 2 16 Tryz.underlying26 hiC Q4 UX Cj rfl (by decide) _ _ _ rfl pj ad ln lc (iW log) rfl jh mU.out (DQ _) fD jX iM ?_)
  intro v5 w5 ic eN uF;obtain⟨gl,cW,e5,m5⟩:=qg ic uF;subst e5;have Kg:(W3.alloc (.cells #[] 87)).grownBy w5 (some (w.heap.size+1+1+1)):=eN;have Z5:=(Z3.below eD).grown Kg (by simp <;> omega)
  have Hw:=(Vb.below eD).grown Kg (by simp <;> omega)
  have Re:=(Z4.below eD).grown Kg (by simp <;> omega)
  have ec:=ej.grown Kg ej.size (fun k e=>by cases e; omega)
  have Tj:=ic.lt gl rfl;obtain⟨o0,o1,o2,o3,o4,o5⟩:=Re.cells;have f3:=Re.fz 3;have f4:=Re.fz 4;have s4:=GA Re (some ⟨gl,0,none⟩) ln cW;have s3:=l8 s4.1 (some ⟨w5.heap.size,0,none⟩) 0 0;obtain⟨t0,t1,t2,t3,t4,t5⟩:=s4.1.cells;have tf:=s4.1.fz 3;have hol5:=Re.lt;have hne1:¬w.heap.size+1+1=w5.heap.size:=by omega
  have WS:¬w5.heap.size=w.heap.size+1+1:=by omega
  have hz5:(w5.setCell ⟨w.heap.size+1+1,4,none⟩ (.slice (some ⟨gl,0,none⟩) ln cW)).heap.size=w5.heap.size:=by simp
  have hg:=ao s4.2 s3.2;obtain⟨V0,PS⟩:∃V0,((w5.setCell ⟨w.heap.size+1+1,4,none⟩ (.slice (some ⟨gl,0,none⟩) ln cW)).setCell ⟨w.heap.size+1+1,3,none⟩ (.slice (some ⟨w5.heap.size,0,none⟩) 0 0)).alloc (.cells #[] 75)=V0:=⟨_,rfl⟩;have hz:((w5.setCell ⟨w.heap.size+1+1,4,none⟩ (.slice (some ⟨gl,0,none⟩) ln cW)).setCell ⟨w.heap.size+1+1,3,none⟩ (.slice (some ⟨w5.heap.size,0,none⟩) 0 0)).heap.size=w5.heap.size:=by simp
  have pG:=aS ((w5.setCell ⟨w.heap.size+1+1,4,none⟩ (.slice (some ⟨gl,0,none⟩) ln cW)).setCell ⟨w.heap.size+1+1,3,none⟩ (.slice (some ⟨w5.heap.size,0,none⟩) 0 0)) (.cells #[] 75);have XF:=lB 75 dU ((w5.setCell ⟨w.heap.size+1+1,4,none⟩ (.slice (some ⟨gl,0,none⟩) ln cW)).setCell ⟨w.heap.size+1+1,3,none⟩ (.slice (some ⟨w5.heap.size,0,none⟩) 0 0));rw[hz] at XF;have Hx:=ME lP Bx.out ic;have Rf:=Hx.keep fun b hk=>hg.block b (Hx.at_ b hk) (by
   rw[vl] at hk;simp[Value.ownBlock] at hk;simp; omega)
  have HA:Hid (gN w V0 n ak next sure ja jn jc (some ad) ln lc 0 w5.heap.size 0 gl cW (jobs.take 0) log [] (log.map fun x=>([.int .i64 x.1,.bool x.2],[]))):=by
   rw[←PS];have iE:=ec.grown hg ec.size (fun k e=>by cases e; omega)
   refine⟨iE.trans (pG.mono iE.size),(Z5.grown hg (by simp <;> omega)).below pG,(Hw.grown hg (by simp <;> omega)).below pG,s3.1.below pG,XF,Rf.keep fun b hk=>pG.block b (Rf.at_ b hk),?_,?_⟩
   · intro b hb;simp[al] at hb;have:=ec.size;have:=Tj.2;rcases hb with rfl | rfl <;> omega
   · simp[al]; have:=Tj.2; omega
  have Te:=Hid.mk' PS;have oT:=vl log;generalize hql:(log.map fun x=>([Value.int .i64 x.1,.bool x.2],([]:List Nat)))=ql at *
  clear PS Hx Rf XF pG hz hg hz5 s3 s4 Z5 Hw Re ec ic eN Kg uF Z3 Vb Z4 cJ ej eD pj mU zB;go_wp2_with fail;rw[Te.out];go_loopw [4] (fun i wr=>∃(k gj eH:Nat) (q:dJ),k≤jn∧i=.int .i64 (k:Int)∧gN w wr n ak next sure ja jn jc (some ad) ln lc k gj eH gl cW (jobs.take k) log q ql) (fun i _=>jn - (intOf i).toNat)
  case atStart=>exact⟨0,_,0,[],Nat.zero_le _,rfl,HA.out⟩
  case round=>
   clear HA Te;obtain⟨k,gj,eH,q,hk,rfl,hA⟩:=hrel;obtain⟨x0,x1,x2,x3,x4,x5⟩:=hA.p.cells;by_cases a6:k<jn
   · have ck:k<jobs.length:=by omega
     have fL:(k:Int)<(jn:Int):=by omega
     have Gy:nc dU w ja jn jobs:=zS.out w (Below.refl _ _);obtain⟨jb,ep,e⟩:=fT Gy (by omega)
     subst e;obtain⟨c0,c2,⟨oa,ol,oc,c1,ve,Hn⟩,ya,yl,yc,c3,Gz,zk⟩:=qe Gy k ck;replace c0:=(hA.e7.cell (World.block_lt_of_cell? w _ c0)).trans c0;replace c1:=(hA.e7.cell (World.block_lt_of_cell? w _ c1)).trans c1;replace c2:=(hA.e7.cell (World.block_lt_of_cell? w _ c2)).trans c2;replace c3:=(hA.e7.cell (World.block_lt_of_cell? w _ c3)).trans c3;have wR:=Hid.mk' (DR Gy k ck);have Ll:=Q_.out _ (List.getElem_mem ck);have MF:yl≤1099511627776:=by have h1:=Gz.1; have h2:=Z1.out _ (List.getElem_mem ck); omega
     have oL:ol≤1099511627776:=by have h1:=ve.1; have h2:=Ll.1; omega
     have xr:Hid (jobs.take (k+1)=jobs.take k++[jobs[k]]):=List.take_succ_eq_append_getElem ck;generalize jobs[k]=jk at *;obtain⟨tx,ops,st,yes⟩:=jk;simp only[] at c0 c1 c2 c3 ve Gz wR;obtain⟨V1,MG⟩:∃V1,wr.alloc (.cells #[.int .i64 tx,.slice oa ol oc,.int .i64 st,.slice ya yl yc] 75)=V1:=⟨_,rfl⟩;have aT:Below wr.heap.size wr V1:=by rw[←MG]; exact aS _ _
     have Lm:iK wr.heap.size tx st (.slice oa ol oc) (.slice ya yl yc) V1:=by rw[←MG]; exact heap_alloc_new wr _
     have E_:=Hid.mk' (fY oa ol oc ops V1 (ve.below (hA.e7.trans (aT.mono hA.e7.size))) oL);have Br:=Hid.mk' MG;have Xq:=Hid.mk' (hA.below aT);have Ln:=Hid.mk' hA;have Tf:=Hid.mk' Gz;clear MG Gy ve Gz Ll hA;go_wp2_with fail;rw[Br.out];refine E_.out.mono ?_;rintro e V2 ⟨g1,iA,rfl,gi,aU⟩;have cT:=Xq.out.below aU;have EV:=Lm.below aU;have Tg:=Tf.out.below cT.e7;have tL:V1.heap.size=wr.heap.size+1:=by rw[←Br.out]; simp
     have gR:=gi.lt;have Xr:=aU.size;have zL:=xO EV (.slice (some ⟨g1,0,none⟩) ol iA);obtain⟨j0,j1,j2,j3⟩:=EV.cells;have jf1:=EV.fz 1;obtain⟨m0,m1,m2,m3⟩:=zL.1.cells;have Th:=zL.1.fz 3;have OY:=EV.lt;have r8:∀b∈gl::gj::al q,b<wr.heap.size:=fun b hb=>by
      rcases List.mem_cons.1 hb with e | e
      · subst e; exact Ln.out.log.at_ _ (List.mem_append.2 (.inl (by simp[Value.ownBlock])))
      · rcases List.mem_cons.1 e with e | e
        · subst e; exact Ln.out.jobs.at_ _ (List.mem_append.2 (.inl (by simp[Value.ownBlock])))
        · exact Ln.out.jobs.at_ _ (List.mem_append.2 (.inr e))
     have sS:w.heap.size+3≤wr.heap.size:=by have:=Ln.out.o.lt; omega
     have sF:∀g,wr.heap.size≤g→g≠gl∧g∉gj::al q∧g∉al ql:=fun g hg=>⟨fun e=>by have:=r8 gl (by simp); omega,fun e=>by have:=r8 g (List.mem_cons_of_mem _ e); omega,by rw[oT]; simp⟩
     have zi:=cT.other zL.2 sS (sF _ (Nat.le_refl _)).1 (sF _ (Nat.le_refl _)).2.1 (sF _ (Nat.le_refl _)).2.2;have d_:=gi.grown zL.2 (by simp; omega)
     have Gk:¬wr.heap.size=V2.heap.size:=by omega
     have Xs:¬V2.heap.size=wr.heap.size:=by omega
     cases ya with
     | none=>
      have h0:yl=0:=by
       rcases Nat.eq_zero_or_pos yl with e | e
       · exact e
       · obtain⟨b,off,ha,_⟩:=Tg.2.2 e; cases ha
      subst h0;have yR:yes=[]:=List.eq_nil_of_length_eq_zero Tg.1;subst yR;have Xt:=m7;have wS:=oU zL.1 (.slice (some ⟨V2.heap.size,0,none⟩) 0 0);obtain⟨V5,ti⟩:∃V5,(V2.setCell ⟨wr.heap.size,1,none⟩ (.slice (some ⟨g1,0,none⟩) ol iA)).setCell ⟨wr.heap.size,3,none⟩ (.slice (some ⟨V2.heap.size,0,none⟩) 0 0)=V5:=⟨_,rfl⟩;have CT:V5.heap.size=V2.heap.size:=by rw[←ti]; simp
      rw[ti] at wS;obtain⟨V6,pM⟩:∃V6,V5.alloc (.cells #[] 3)=V6:=⟨_,rfl⟩;have mj:Below V5.heap.size V5 V6:=by rw[←pM]; exact aS _ _
      have bB:=(zi.other wS.2 sS (sF _ (Nat.le_refl _)).1 (sF _ (Nat.le_refl _)).2.1 (sF _ (Nat.le_refl _)).2.2).below mj;have tW:=wS.1.below mj;have dV:=(d_.grown wS.2 (by simp; omega)).below mj
      have DS:cX V6 0 V2.heap.size 0 0 []:=by rw[←pM,←CT]; exact(iS V5 0 (Nat.zero_le _))
      obtain⟨V7,pC⟩:∃V7,V6.alloc (.cells #[.int .i64 tx,.slice (some ⟨g1,0,none⟩) ol iA,.int .i64 st,.slice (some ⟨V2.heap.size,0,none⟩) 0 0] 75)=V7:=⟨_,rfl⟩;have PT:=Hid.mk' pC;have Hr:V6.heap.size=V2.heap.size+1:=by rw[←pM]; simp; omega
      obtain⟨u0,u1,u2,u3,u4,u5⟩:=bB.o.cells;obtain⟨i0,i1,i2,i3⟩:=tW.cells;have cP:Below V6.heap.size V6 V7:=by rw[←pC]; exact aS _ _
      have wO:=bB.below cP;have DT:iK V6.heap.size tx st (.slice (some ⟨g1,0,none⟩) ol iA) (.slice (some ⟨V2.heap.size,0,none⟩) 0 0) V7:=by rw[←pC]; exact heap_alloc_new V6 _
      rw[Hr] at DT;have I7:V7.heap.size=V6.heap.size+1:=by rw[←pC]; simp
      have rN:(jobs.take k).length=k:=by simp; omega
      have vm:V7.ownsRow 0 75 4 (.slice (some ⟨gj,0,none⟩) k eH) k (cellsOf q):=by have:=wO.jobs.row; rw[rN] at this; exact this
      have Cl:Hid (∀j u,([.int .i64 tx,.slice (some ⟨g1,0,none⟩) ol iA,.int .i64 st,.slice (some ⟨V2.heap.size,0,none⟩) 0 0]:List Value)[j]? =some u→V7.cell? ((⟨V2.heap.size+1,0,none⟩:Addr).add j)=some u):=by
       intro j u hj;obtain⟨n0,n1,n2,n3⟩:=DT.cells;rw[Addr.add_lit,Nat.zero_add]
       match j,hj with
       | 0,hj=>cases hj; exact n0
       | 1,hj=>cases hj; exact n1
       | 2,hj=>cases hj; exact n2
       | 3,hj=>cases hj; exact n3
      have B_:Hid (∀u∈([.int .i64 tx,.slice (some ⟨g1,0,none⟩) ol iA,.int .i64 st,.slice (some ⟨V2.heap.size,0,none⟩) 0 0]:List Value),u.oneCell'=true):=by
       intro u hu;simp only[List.mem_cons,List.not_mem_nil,or_false] at hu;rcases hu with rfl | rfl | rfl | rfl <;> rfl
      have Lp:k+1≤maxLen:=by unfold maxLen; omega
      have tC:(k+1) * 64≤140737488355328:=by omega
      have kn:=Hid.mk' wO;have wm:=Hid.mk' (fv ((dV.below cP).mono (base':=0) (Nat.zero_le _)));have Kd:Hid (s6 V7 (.slice (some ⟨V2.heap.size,0,none⟩) 0 0) []):=⟨wR.out.2.2.2,by have h9:=(DS.below cP).2; have h8:=(DS.below cP).1; first | (rw[h8]; exact h9) | (rw[←h8] at h9; simpa using h9)⟩
      clear wO bB DT cP dV DS tW pC;go_wp2_with (at_builtin; rw[PT.out]; refine wpList_append_lies _ rfl (.tmp 36) (.tmp 38) 25 rfl 0 75 iJ (.agg #[.int .i64 0,.slice none 0 0,.int .i64 0,.slice none 0 0]) 4 64 Tryz.underlying25 U8 U9 U_ Va rfl (by decide) _ _ _ rfl vm ⟨V2.heap.size+1,0,none⟩ 1 1 [.int .i64 tx,.slice (some ⟨g1,0,none⟩) ol iA,.int .i64 st,.slice (some ⟨V2.heap.size,0,none⟩) 0 0] ?e1 rfl Cl.out B_.out (by decide) Lp tC (Nat.zero_le _) _ rfl ?_)
      case e1=>simp[Act.eval]
      intro g8 mM w8 fQ bK iG uO;have iX:V7.grownBy w8 (some gj):=bK;have dW:([g1]++[V2.heap.size]:List Nat).Nodup:=by simp; omega
      have hx:dU.own V7 [.int .i64 tx,.slice (some ⟨g1,0,none⟩) ol iA,.int .i64 st,.slice (some ⟨V2.heap.size,0,none⟩) 0 0] (tx,ops,st,[]) ([g1]++[V2.heap.size]):=dI.2 ⟨_,_,rfl,wR.out.1,wR.out.2.1,wm.out,Kd.out,rfl,dW⟩;have kU:∀b∈([g1]++[V2.heap.size]:List Nat),wr.heap.size≤b:=fun b hb=>by simp at hb; rcases hb with rfl | rfl <;> omega
      have hd:∀b∈([g1]++[V2.heap.size]:List Nat),b∉(Value.slice (some ⟨gj,0,none⟩) k eH).ownBlock.toList++al q:=fun b hb hc=>by
       have h1:=kU b hb;have h2:=r8 b (List.mem_cons_of_mem _ (by simpa[Value.ownBlock] using hc))
       omega
      have zl:=bk.snoc kn.out.jobs hx hd (by rw[rN]; exact fQ) bK iG (by omega)
      rw[rN,←xr.out] at zl;have mN:=kn.out.new;have PU:w.heap.size+3≤gj:=mN gj (by simp)
      have Gi:w.heap.size+3≤gl:=mN gl (by simp)
      have qh:=kn.out.ne;have zm:=kn.out.o.grown iX (by simp; omega)
      have s9:=l8 zm (some ⟨g8,0,none⟩) (k+1) mM;have PV:w.heap.size+3≤g8:=by
       rcases iG with e | e
       · have:gj=g8:=by simpa[Value.ownBlock] using e
         omega
       · omega
      have ly:=kn.out.e7.grown iX kn.out.e7.size (fun b e=>by cases e; omega)
      have zf:=kn.out.log.keep fun b hk=>iX.block b (kn.out.log.at_ b hk) (by
       rw[oT] at hk;simp[Value.ownBlock] at hk;subst hk;simp;intro e;exact qh (by simp[e]))
      have PW:Hid (gN w (w8.setCell ⟨w.heap.size+1+1,3,none⟩ (.slice (some ⟨g8,0,none⟩) (k+1) mM)) n ak next sure (some ⟨jb,ep,none⟩) jn jc (some ad) ln lc (k+1) g8 mM gl cW (jobs.take (k+1)) log (q++[([.int .i64 tx,.slice (some ⟨g1,0,none⟩) ol iA,.int .i64 st,.slice (some ⟨V2.heap.size,0,none⟩) 0 0],[g1]++[V2.heap.size])]) ql):=by
       refine⟨ly.grown s9.2 ly.size (fun b e=>by cases e; omega),(kn.out.p.grown iX (by simp; omega)).grown s9.2 (by simp <;> omega),(kn.out.r.grown iX (by simp; omega)).grown s9.2 (by simp <;> omega),s9.1,?_,?_,?_,?_⟩
       · refine zl.keep fun b hk=>s9.2.block b (zl.at_ b hk) ?_
         rw[aQ] at hk;have:w.heap.size+3≤b:=by
          rcases List.mem_append.1 hk with h1 | h1
          · simp[Value.ownBlock] at h1; omega
          · rcases List.mem_append.1 h1 with h2 | h2
            · exact mN b (by simp[h2])
            · have:=kU b (by simpa[al] using h2); omega
         simp; omega
       · refine zf.keep fun b hk=>s9.2.block b (zf.at_ b hk) ?_
         rw[oT] at hk;simp[Value.ownBlock] at hk;simp; omega
       · intro b hb;rw[aQ] at hb;rcases List.mem_cons.1 hb with h1 | h1
         · omega
         · rcases List.mem_cons.1 h1 with h2 | h2
           · omega
           · rcases List.mem_append.1 h2 with h3 | h3
             · exact mN b (by simp[h3])
             · have:=kU b (by simpa[al] using h3); omega
       · intro hb;rw[aQ] at hb;have Xu:=r8 gl (by simp)
         rcases List.mem_cons.1 hb with h1 | h1
         · rcases iG with e | e
           · have:gj=g8:=by simpa[Value.ownBlock] using e
             exact qh (by simp[h1,this])
           · omega
         · rcases List.mem_append.1 h1 with h3 | h3
           · exact qh (by simp[h3])
           · have:=kU gl (by simpa[al] using h3); omega
      obtain⟨y0,y1,y2,y3,y4,y5⟩:=zm.cells;have yf:=zm.fz 3;clear zl hx hd fQ bK iX zf ly s9 zm kn wm Kd;go_wp2_with fail;go_roundw
      case rel=>exact⟨k+1,g8,mM,_,by omega,by go_num,PW.out⟩
      case measure=>simp[intOf]; omega
     | some ay=>
      obtain⟨iZ,Xv,Xw,Xx,Xy⟩:=info_parts pA;obtain⟨V3,jP⟩:∃V3,V2.setCell ⟨wr.heap.size,1,none⟩ (.slice (some ⟨g1,0,none⟩) ol iA)=V3:=⟨_,rfl⟩;have PX:V3.heap.size=V2.heap.size:=by rw[←jP]; simp
      rw[jP] at zL zi d_ m0 m1 m2 m3 Th;obtain⟨V4,zE⟩:∃V4,V3.alloc (.cells #[] 3)=V4:=⟨_,rfl⟩;have DU:Below V3.heap.size V3 V4:=by rw[←zE]; exact aS _ _
      have fF:=zi.below DU;have Ti:=Tf.out.below fF.e7;have rh:=zL.1.below DU;have dT:=d_.below DU;have PY:=iS V3 V2.heap.size (by omega)
      rw[PX,zE] at PY;have Xz:V4.heap.size=V2.heap.size+1:=by rw[←zE]; simp; omega
      have J6:=Ti.1;have PN:yl≤1099511627776:=MF;have vn:Hid (∀j u,(aV yes)[j]? =some u→V4.cell? (ay.add j)=some u):=by
       intro j u hj;have Ke:j<yes.length:=by rw[←eP]; exact(List.getElem?_eq_some_iff.1 hj).1
       obtain⟨b,off,ha,lr⟩:=Ti.2.2 (by omega)
       cases ha;rw[Addr.add_lit,lr j Ke];have:(aV yes)[j]? =some (.int .i64 yes[j]):=by simp[aV,Ke]
       rw[this] at hj;exact hj
      have XA:(aV yes).length=yl * 1:=by rw[eP]; omega
      have PZ:0+yl≤maxLen:=by unfold maxLen; omega
      have P0:(0+yl) * 8≤140737488355328:=by omega
      have P1:V2.heap.size≤V4.heap.size:=by omega
      obtain⟨i0,i1,i2,i3⟩:=rh.cells;go_wp2_with (at_builtin; refine wpList_append_own _ rfl (.tmp 30) (.tmp 32) 54 rfl V2.heap.size 3 iZ (.int .i64 0) 1 8 Tryz.underlying54 Xv Xw Xx Xy rfl (by decide) _ _ _ rfl PY.2 ay yl yc (aV yes) rfl XA vn.out (bT _) PZ P0 P1 ?_)
      intro vy w6 By vq Kf;have Bz:¬vy=.slice none 0 0:=by simpa using Kf
      have vt:w6.ownsRow V2.heap.size 3 1 vy yl (aV yes):=by have h9:=By; simpa[aV] using h9
      obtain⟨gy,cy,ey,hgy⟩:=qg vt Bz;subst ey;have zn:V4.grownBy w6 (some V2.heap.size):=vq;have sk:=sF V2.heap.size (by omega)
      have gq:=fF.other zn (by omega) sk.1 sk.2.1 sk.2.2
      have vT:iK wr.heap.size tx st (.slice (some ⟨g1,0,none⟩) ol iA) (.slice (some ay) yl yc) w6:=(zn.block _ rh.lt (by simp; omega)).trans rh
      have eh:=dT.grown zn (by simp; omega)
      have J5:cX w6 V2.heap.size gy yl cy yes:=⟨J6,vt⟩;have wS:=oU vT (.slice (some ⟨gy,0,none⟩) yl cy);obtain⟨V6,pM⟩:∃V6,w6.setCell ⟨wr.heap.size,3,none⟩ (.slice (some ⟨gy,0,none⟩) yl cy)=V6:=⟨_,rfl⟩;have Hr:V6.heap.size=w6.heap.size:=by rw[←pM]; simp
      rw[pM] at wS;have bB:=gq.other wS.2 sS (sF _ (Nat.le_refl _)).1 (sF _ (Nat.le_refl _)).2.1 (sF _ (Nat.le_refl _)).2.2;have tW:=wS.1;have dV:=eh.grown wS.2 (by simp; omega)
      have DS:cX V6 0 gy yl cy yes:=(J5.grown wS.2 (by simp; omega)).mono (Nat.zero_le _)
      have XB:=zn.size;obtain⟨V7,pC⟩:∃V7,V6.alloc (.cells #[.int .i64 tx,.slice (some ⟨g1,0,none⟩) ol iA,.int .i64 st,.slice (some ⟨gy,0,none⟩) yl cy] 75)=V7:=⟨_,rfl⟩;have PT:=Hid.mk' pC;obtain⟨t0,t1,t2,t3⟩:=vT.cells;have tf3:=iK.fz vT 3;clear i0 i1 i2 i3 m0 m1 m2 m3 Th By vq Kf Bz vn PY fF gq rh dT eh J5 zE jP;obtain⟨u0,u1,u2,u3,u4,u5⟩:=bB.o.cells;obtain⟨v0,v1,v2,v3⟩:=tW.cells;have cP:Below V6.heap.size V6 V7:=by rw[←pC]; exact aS _ _
      have wO:=bB.below cP;have DT:iK V6.heap.size tx st (.slice (some ⟨g1,0,none⟩) ol iA) (.slice (some ⟨gy,0,none⟩) yl cy) V7:=by rw[←pC]; exact heap_alloc_new V6 _
      rw[Hr] at DT;have I7:V7.heap.size=V6.heap.size+1:=by rw[←pC]; simp
      have rN:(jobs.take k).length=k:=by simp; omega
      have vm:V7.ownsRow 0 75 4 (.slice (some ⟨gj,0,none⟩) k eH) k (cellsOf q):=by have:=wO.jobs.row; rw[rN] at this; exact this
      have Cl:Hid (∀j u,([.int .i64 tx,.slice (some ⟨g1,0,none⟩) ol iA,.int .i64 st,.slice (some ⟨gy,0,none⟩) yl cy]:List Value)[j]? =some u→V7.cell? ((⟨w6.heap.size,0,none⟩:Addr).add j)=some u):=by
       intro j u hj;obtain⟨n0,n1,n2,n3⟩:=DT.cells;rw[Addr.add_lit,Nat.zero_add]
       match j,hj with
       | 0,hj=>cases hj; exact n0
       | 1,hj=>cases hj; exact n1
       | 2,hj=>cases hj; exact n2
       | 3,hj=>cases hj; exact n3
      have B_:Hid (∀u∈([.int .i64 tx,.slice (some ⟨g1,0,none⟩) ol iA,.int .i64 st,.slice (some ⟨gy,0,none⟩) yl cy]:List Value),u.oneCell'=true):=by
       intro u hu;simp only[List.mem_cons,List.not_mem_nil,or_false] at hu;rcases hu with rfl | rfl | rfl | rfl <;> rfl
      have Lp:k+1≤maxLen:=by unfold maxLen; omega
      have tC:(k+1) * 64≤140737488355328:=by omega
      have kn:=Hid.mk' wO;have wm:=Hid.mk' (fv ((dV.below cP).mono (base':=0) (Nat.zero_le _)));have Kd:Hid (s6 V7 (.slice (some ⟨gy,0,none⟩) yl cy) yes):=⟨wR.out.2.2.2,by have h9:=(DS.below cP).2; have h8:=(DS.below cP).1; first | (rw[h8]; exact h9) | (rw[←h8] at h9; simpa using h9)⟩
      clear wO bB DT cP dV DS tW pC;go_wp2_with (at_builtin; rw[PT.out]; refine wpList_append_lies _ rfl (.tmp 36) (.tmp 38) 25 rfl 0 75 iJ (.agg #[.int .i64 0,.slice none 0 0,.int .i64 0,.slice none 0 0]) 4 64 Tryz.underlying25 U8 U9 U_ Va rfl (by decide) _ _ _ rfl vm ⟨w6.heap.size,0,none⟩ 1 1 [.int .i64 tx,.slice (some ⟨g1,0,none⟩) ol iA,.int .i64 st,.slice (some ⟨gy,0,none⟩) yl cy] ?e1 rfl Cl.out B_.out (by decide) Lp tC (Nat.zero_le _) _ rfl ?_)
      case e1=>simp[Act.eval]
      intro g8 mM w8 fQ bK iG uO;have iX:V7.grownBy w8 (some gj):=bK;have dW:([g1]++[gy]:List Nat).Nodup:=by simp; omega
      have hx:dU.own V7 [.int .i64 tx,.slice (some ⟨g1,0,none⟩) ol iA,.int .i64 st,.slice (some ⟨gy,0,none⟩) yl cy] (tx,ops,st,yes) ([g1]++[gy]):=dI.2 ⟨_,_,rfl,wR.out.1,wR.out.2.1,wm.out,Kd.out,rfl,dW⟩;have kU:∀b∈([g1]++[gy]:List Nat),wr.heap.size≤b:=fun b hb=>by simp at hb; rcases hb with rfl | rfl <;> omega
      have hd:∀b∈([g1]++[gy]:List Nat),b∉(Value.slice (some ⟨gj,0,none⟩) k eH).ownBlock.toList++al q:=fun b hb hc=>by
       have h1:=kU b hb;have h2:=r8 b (List.mem_cons_of_mem _ (by simpa[Value.ownBlock] using hc))
       omega
      have zl:=bk.snoc kn.out.jobs hx hd (by rw[rN]; exact fQ) bK iG (by omega)
      rw[rN,←xr.out] at zl;have mN:=kn.out.new;have PU:w.heap.size+3≤gj:=mN gj (by simp)
      have Gi:w.heap.size+3≤gl:=mN gl (by simp)
      have qh:=kn.out.ne;have zm:=kn.out.o.grown iX (by simp; omega)
      have s9:=l8 zm (some ⟨g8,0,none⟩) (k+1) mM;have PV:w.heap.size+3≤g8:=by
       rcases iG with e | e
       · have:gj=g8:=by simpa[Value.ownBlock] using e
         omega
       · omega
      have ly:=kn.out.e7.grown iX kn.out.e7.size (fun b e=>by cases e; omega)
      have zf:=kn.out.log.keep fun b hk=>iX.block b (kn.out.log.at_ b hk) (by
       rw[oT] at hk;simp[Value.ownBlock] at hk;subst hk;simp;intro e;exact qh (by simp[e]))
      have PW:Hid (gN w (w8.setCell ⟨w.heap.size+1+1,3,none⟩ (.slice (some ⟨g8,0,none⟩) (k+1) mM)) n ak next sure (some ⟨jb,ep,none⟩) jn jc (some ad) ln lc (k+1) g8 mM gl cW (jobs.take (k+1)) log (q++[([.int .i64 tx,.slice (some ⟨g1,0,none⟩) ol iA,.int .i64 st,.slice (some ⟨gy,0,none⟩) yl cy],[g1]++[gy])]) ql):=by
       refine⟨ly.grown s9.2 ly.size (fun b e=>by cases e; omega),(kn.out.p.grown iX (by simp; omega)).grown s9.2 (by simp <;> omega),(kn.out.r.grown iX (by simp; omega)).grown s9.2 (by simp <;> omega),s9.1,?_,?_,?_,?_⟩
       · refine zl.keep fun b hk=>s9.2.block b (zl.at_ b hk) ?_
         rw[aQ] at hk;have:w.heap.size+3≤b:=by
          rcases List.mem_append.1 hk with h1 | h1
          · simp[Value.ownBlock] at h1; omega
          · rcases List.mem_append.1 h1 with h2 | h2
            · exact mN b (by simp[h2])
            · have:=kU b (by simpa[al] using h2); omega
         simp; omega
       · refine zf.keep fun b hk=>s9.2.block b (zf.at_ b hk) ?_
         rw[oT] at hk;simp[Value.ownBlock] at hk;simp; omega
       · intro b hb;rw[aQ] at hb;rcases List.mem_cons.1 hb with h1 | h1
         · omega
         · rcases List.mem_cons.1 h1 with h2 | h2
           · omega
           · rcases List.mem_append.1 h2 with h3 | h3
             · exact mN b (by simp[h3])
             · have:=kU b (by simpa[al] using h3); omega
       · intro hb;rw[aQ] at hb;have Xu:=r8 gl (by simp)
         rcases List.mem_cons.1 hb with h1 | h1
         · rcases iG with e | e
           · have:gj=g8:=by simpa[Value.ownBlock] using e
             exact qh (by simp[h1,this])
           · omega
         · rcases List.mem_append.1 h1 with h3 | h3
           · exact qh (by simp[h3])
           · have:=kU gl (by simpa[al] using h3); omega
      obtain⟨y0,y1,y2,y3,y4,y5⟩:=zm.cells;have yf:=zm.fz 3;clear zl hx hd fQ bK iX zf ly s9 zm kn wm Kd;go_wp2_with fail;go_roundw
      case rel=>exact⟨k+1,g8,mM,_,by omega,by go_num,PW.out⟩
      case measure=>simp[intOf]; omega
   · have CF:¬(k:Int)<(jn:Int):=by omega
     have XC:k=jn:=by omega
     subst XC;obtain⟨o0,o1,o2,o3,o4,o5⟩:=hA.o.cells;obtain⟨r0,r1,r2,r3,r4,r5⟩:=hA.r.cells;have f0:=hA.r.fz 0;have f1:=hA.r.fz 1;have f2:=hA.r.fz 2;have f3:=hA.r.fz 3;have f4:=hA.r.fz 4;have f5:=hA.r.fz 5;have hz:=oV hA.r n ak next sure (some ⟨gj,0,none⟩) k eH (some ⟨gl,0,none⟩) ln cW;have lM:=hz.1.cells;have P2:=Hid.mk' lM;have rN:jobs.take k=jobs:=List.take_of_length_le (by omega)
     have kC:=hA.new;have XD:=Hid.mk' (show bk 75 dU _ (.slice (some ⟨gj,0,none⟩) k eH) jobs q from by
      have h1:=hA.jobs;rw[rN] at h1;exact h1.keep fun b hk=>hz.2.block b (h1.at_ b hk) (by
       have:=kC b (List.mem_cons_of_mem _ (by simpa[Value.ownBlock] using hk))
       simp; omega))
     have Ra:=Hid.mk' (hA.log.keep fun b hk=>hz.2.block b (hA.log.at_ b hk) (by
      rw[oT] at hk;simp[Value.ownBlock] at hk;have:=kC gl (by simp)
      simp; omega))
     have XE:=Hid.mk' (hA.e7.grown hz.2 hA.e7.size (fun b e=>by cases e; omega))
     have Cl:Hid (∀b∈gl::gj::al q,w.heap.size≤b):=fun b hb=>by have:=kC b hb; omega
     have Rb:=Hid.mk' hA.ne;clear hz lM hA kC;go_wp2_with fail;have lM:=P2.out;refine bodyPost_ret (v:=.agg #[.int .i64 n,.int .i64 ak,.int .i64 next,.slice (some ⟨gj,0,none⟩) k eH,.slice (some ⟨gl,0,none⟩) ln cW,.int .i64 sure]) ?_ rfl (show km w k ln (n,ak,next,jobs,log,sure) _ _ from⟨gj,eH,gl,cW,q,ql,rfl,XD.out,Ra.out,Cl.out,Rb.out,XE.out⟩)
     simp[results,Tryz.results56,go_sem,lM.1,lM.2.1,lM.2.2.1,lM.2.2.2.1,lM.2.2.2.2.1,lM.2.2.2.2.2]
end cos
end Go.Proofs.YtmibabclefgljaaGreat
