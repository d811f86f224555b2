/- CoC -/
import Derived.Test.YtmibabclefgljaaGreatShax
import Derived.Deep.Onto
set_option linter.unusedVariables false
set_option linter.unusedSimpArgs false
namespace Go.Proofs.YtmibabclefgljaaGreat
namespace cos
open Go Go.RowKit base aE aX lay lh
theorem NZ:(Tryz.prog.info? 75).map (fun i=>(i.zero,i.size,i.bytes))=some (some (.agg #[.int .i64 0,.slice none 0 0,.int .i64 0,.slice none 0 0]),4,64):=by aa
theorem Tm:(Tryz.prog.info? 87).map (fun i=>(i.zero,i.size,i.bytes))=some (some (.agg #[.int .i64 0,.bool false]),2,16):=by aa
theorem tX(w:World)(g c:Nat)(ty:TypeId):(Builtin.append_ #[26,26] ty #[.slice (some ⟨g,0,none⟩) 0 0,.slice none 0 c]).run Tryz.prog w=.ok (.slice (some ⟨g,0,none⟩) 0 0) w:=by aa
theorem nB(w:World)(g c:Nat)(ty:TypeId):(Builtin.append_ #[54,54] ty #[.slice (some ⟨g,0,none⟩) 0 0,.slice none 0 c]).run Tryz.prog w=.ok (.slice (some ⟨g,0,none⟩) 0 0) w:=by aa
def jr(l:List Ch):List Value:=l.flatMap fun c=>[.int .i64 c.1,.bool c.2]
theorem p6(l:List Ch):(jr l).length=l.length * 2:=by
 induction l with
 | nil=>rfl
 | cons x l ih=>simp only[jr,List.flatMap_cons,List.length_append] at *; simp[ih]; omega
theorem D9(l:List Ch):∀u∈jr l,u.oneCell'=true:=by
 intro u hu;obtain⟨c,_,hc⟩:=List.mem_flatMap.1 hu;simp only[List.mem_cons,List.not_mem_nil,or_false] at hc;rcases hc with rfl | rfl <;> rfl
theorem vJ(l:List Ch):∀i (hi:i<l.length),(jr l)[i * 2]? =some (.int .i64 l[i].1)∧(jr l)[i * 2+1]? =some (.bool l[i].2):=by
 induction l with
 | nil=>intro i hi; simp at hi
 | cons x l ih=>
  intro i hi;cases i with
  | zero=>exact⟨rfl,rfl⟩
  | succ i=>
   have h:=ih i (by simpa using hi)
   have e:jr (x::l)=.int .i64 x.1:: .bool x.2::jr l:=rfl;rw[e,show(i+1) * 2=i * 2+1+1 by omega,show i * 2+1+1+1=(i * 2+1)+1+1 by omega]
   simpa using h
theorem Kn{w:World}{b off len:Nat}{l:List Ch}(h:nE rG w (some ⟨b,off,none⟩) len l):∀j u,(jr l)[j]? =some u→w.cell? ((⟨b,off,none⟩:Addr).add j)=some u:=by
 intro j u hj;have bn:j<l.length * 2:=by
  rw[←p6];exact(List.getElem?_eq_some_iff.1 hj).1
 obtain⟨i,hi | hi⟩:∃i,j=i * 2∨j=i * 2+1:=⟨j / 2,by omega⟩
 · subst hi;have h1:=vG h i (by omega)
   have h2:=(vJ l i (by omega)).1
   rw[hj] at h2;cases h2;rw[Addr.add_lit]; exact h1.1
 · subst hi;have h1:=vG h i (by omega)
   have h2:=(vJ l i (by omega)).2
   rw[hj] at h2;cases h2;rw[Addr.add_lit,←Nat.add_assoc]; exact h1.2
theorem i_.fz{X:Nat}{tx st:Int}{v y:Value}{w:World}(h:i_ X tx st v y w)(j:Nat):w.frozen? ⟨X,j,none⟩=false:=by unfold i_ at h; simp[World.frozen?,h]
theorem yg{X:Nat}{tx st:Int}{v y:Value}{w:World}(h:i_ X tx st v y w)(u:Value):i_ X tx st u y (w.setCell ⟨X,1,none⟩ u)∧w.grownBy (w.setCell ⟨X,1,none⟩ u) (some X):=bK h 1 u
theorem pw{X:Nat}{tx st:Int}{v y:Value}{w:World}(h:i_ X tx st v y w)(u:Value):i_ X tx st v u (w.setCell ⟨X,3,none⟩ u)∧w.grownBy (w.setCell ⟨X,3,none⟩ u) (some X):=bK h 3 u
structure h_ (w V:World) (n av next sure:Int) (ja:Option Addr) (jn jc:Nat) (la:Option Addr) (ln lc:Nat) (k gj eV gl dk:Nat) (jobs:List Jb) (log:List Ch) (q ql:dY):Prop where
 fp:Below w.heap.size w V
 p:fB w.heap.size n av next sure ja jn jc la ln lc V
 r:fB (w.heap.size+1) 0 0 0 0 none 0 0 none 0 0 V
 o:fB (w.heap.size+1+1) n av next sure (some ⟨gj,0,none⟩) k eV (some ⟨gl,0,none⟩) ln dk V
 jobs:bz 75 ek V (.slice (some ⟨gj,0,none⟩) k eV) jobs q
 log:bz 87 rG V (.slice (some ⟨gl,0,none⟩) ln dk) log ql
 new:∀b∈gl::gj::aw q,w.heap.size+3≤b
 ne:gl∉gj::aw q
section
variable{w V V':World}{n av next sure:Int}{ja:Option Addr}{jn jc:Nat}{la:Option Addr}{ln lc k gj eV gl dk:Nat}{jobs:List Jb}{log:List Ch}{q ql:dY}
theorem h_.below(h:h_ w V n av next sure ja jn jc la ln lc k gj eV gl dk jobs log q ql)(hb:Below V.heap.size V V'):h_ w V' n av next sure ja jn jc la ln lc k gj eV gl dk jobs log q ql:=
 ⟨h.fp.trans (hb.mono h.fp.size),h.p.below hb,h.r.below hb,h.o.below hb,h.jobs.keep fun b hk=>hb.block b (h.jobs.at_ b hk),h.log.keep fun b hk=>hb.block b (h.log.at_ b hk),h.new,h.ne⟩
theorem h_.other(h:h_ w V n av next sure ja jn jc la ln lc k gj eV gl dk jobs log q ql){g:Nat}(hg:V.grownBy V' (some g))(h1:w.heap.size+3≤g)(h2:g≠gl)(h3:g∉gj::aw q)(h4:g∉aw ql):h_ w V' n av next sure ja jn jc la ln lc k gj eV gl dk jobs log q ql:=by
 refine⟨h.fp.grown hg h.fp.size (fun k e=>by cases e; omega),h.p.grown hg (by simp; omega),h.r.grown hg (by simp; omega),h.o.grown hg (by simp; omega),h.jobs.keep fun b hk=>hg.block b (h.jobs.at_ b hk) ?_,h.log.keep fun b hk=>hg.block b (h.log.at_ b hk) ?_,h.new,h.ne⟩
 · intro e; cases e
   exact h3 (by simpa[Value.ownBlock] using hk)
 · intro e; cases e
   rcases List.mem_append.1 hk with hk | hk
   · exact h2 (by simpa[Value.ownBlock] using hk)
   · exact h4 hk
end
theorem qD{w:World}{base:Nat}{e:TypeId}{size n:Nat}{v:Value}{xs:List Value}(h:w.ownsRow base e size v n xs)(h0:¬v=.slice none 0 0):∃g cap,v=.slice (some ⟨g,0,none⟩) n cap∧base≤g:=by
 rcases h.2 with⟨e,_⟩ | ⟨g,cap,cur,e,hb,_⟩
 · exact absurd e h0
 · exact⟨g,cap,e,hb⟩
theorem MQ{w:World}{base g n cap:Nat}{l:List Ch}(hl:l.length=n)(hw:∀c∈l,(Lit.int .i64 c.1).wf=true)(h:w.ownsRow base 87 2 (.slice (some ⟨g,0,none⟩) n cap) n (jr l)):bz 87 rG w (.slice (some ⟨g,0,none⟩) n cap) l (l.map fun x=>([.int .i64 x.1,.bool x.2],[])):=by
 subst hl;exact dW.made (h.mono (Nat.zero_le _)) fun c hc=>⟨hw c hc,trivial⟩
theorem vK(l:List Ch):aw (l.map fun x=>([Value.int .i64 x.1,.bool x.2],([]:List Nat)))=[]:=by
 unfold aw; rw[List.flatMap_map]; simp
theorem P0{w:World}{a:Option Addr}{len:Nat}{l:List Ch}(h:nE rG w a len l):∀c∈l,(Lit.int .i64 c.1).wf=true:=fun c hc=>by
 obtain⟨vs,hv⟩:=h.2.2.1 c hc;exact(dW.fo.1 hv).2.1
theorem mA{X:Nat}{n av next sure:Int}{ja:Option Addr}{jn jc:Nat}{la:Option Addr}{ln lc:Nat}{w:World}(h:fB X n av next sure ja jn jc la ln lc w)(a:Option Addr)(k m:Nat):fB X n av next sure a k m la ln lc (w.setCell ⟨X,3,none⟩ (.slice a k m))∧w.grownBy (w.setCell ⟨X,3,none⟩ (.slice a k m)) (some X):=bK h 3 _
theorem GQ{X:Nat}{n av next sure:Int}{ja:Option Addr}{jn jc:Nat}{la:Option Addr}{ln lc:Nat}{w:World}(h:fB X n av next sure ja jn jc la ln lc w)(a:Option Addr)(k m:Nat):fB X n av next sure ja jn jc a k m (w.setCell ⟨X,4,none⟩ (.slice a k m))∧w.grownBy (w.setCell ⟨X,4,none⟩ (.slice a k m)) (some X):=bK h 4 _
abbrev Tn(w:World)(X:Nat)(a b c d e f:Value):World:=(((((w.setCell ⟨X,0,none⟩ a).setCell ⟨X,1,none⟩ b).setCell ⟨X,2,none⟩ c).setCell ⟨X,3,none⟩ d).setCell ⟨X,4,none⟩ e).setCell ⟨X,5,none⟩ f
theorem px{X:Nat}{n av next sure:Int}{ja:Option Addr}{jn jc:Nat}{la:Option Addr}{ln lc:Nat}{w:World}(h:fB X n av next sure ja jn jc la ln lc w)(n' E8 next' E9:Int)(H7:Option Addr)(H8 H9:Nat)(BA:Option Addr)(BB BC:Nat):
 fB X n' E8 next' E9 H7 H8 H9 BA BB BC (Tn w X (.int .i64 n') (.int .i64 E8) (.int .i64 next') (.slice H7 H8 H9) (.slice BA BB BC) (.int .i64 E9))∧w.grownBy (Tn w X (.int .i64 n') (.int .i64 E8) (.int .i64 next') (.slice H7 H8 H9) (.slice BA BB BC) (.int .i64 E9)) (some X):=by
 have s0:=bK h 0 (.int .i64 n');have s1:=bK s0.1 1 (.int .i64 E8);have s2:=bK s1.1 2 (.int .i64 next');have s3:=bK s2.1 3 (.slice H7 H8 H9);have s4:=bK s3.1 4 (.slice BA BB BC);have s5:=bK s4.1 5 (.int .i64 E9);exact⟨s5.1,az (az (az (az (az s0.2 s1.2) s2.2) s3.2) s4.2) s5.2⟩
theorem D_{w:World}{a:Option Addr}{len:Nat}{l:List Jb}(h:nE ek w a len l)(i:Nat)(hi:i<l.length):(Lit.int .i64 l[i].1).wf=true∧(Lit.int .i64 l[i].2.2.1).wf=true∧(∀o∈l[i].2.1,ed o)∧∀z∈l[i].2.2.2,(Lit.int .i64 z).wf=true:=by
 obtain⟨vs,hv⟩:=h.2.2.1 l[i] (List.getElem_mem hi);obtain⟨oa,ol,oc,ya,yl,yc,_,k1,k3,h5,h6,_⟩:=uo.1 hv;exact⟨k1,k3,h5.1.2.2.1,h6.2⟩
def kI(w:World)(jn ln:Nat)(c:Co)(e:Ending)(w':World):Prop:=∃gj eV gl dk q ql,e=.returned (GI c.1 c.2.1 c.2.2.1 c.2.2.2.2.2 (some ⟨gj,0,none⟩) jn eV (some ⟨gl,0,none⟩) ln dk)∧bz 75 ek w' (.slice (some ⟨gj,0,none⟩) jn eV) c.2.2.2.1 q∧bz 87 rG w' (.slice (some ⟨gl,0,none⟩) ln dk) c.2.2.2.2.1 ql∧(∀b∈gl::gj::aw q,w.heap.size≤b)∧gl∉gj::aw q∧Below w.heap.size w w'
set_option maxRecDepth 100000 in
set_option maxHeartbeats 2000000 in
theorem GR(ja:Option Addr)(jn jc:Nat)(la:Option Addr)(ln lc:Nat)(c:Co)(w:World)(h:ll w ja jn jc la ln lc c)(hf:rW c)(Vh:∀j∈c.2.2.2.1,j.2.2.2.length≤1099511627776):
 Calls Tryz.prog 56 #[GI c.1 c.2.1 c.2.2.1 c.2.2.2.2.2 ja jn jc la ln lc] w fun e w'=>kI w jn ln c e w':=by
 obtain⟨n,av,next,jobs,log,sure⟩:=c;simp only[] at *;have qu:nE rG w la ln log:=h.log;have mb:=qu.1;have e7:jobs.length=jn:=h.jobs.1;have hff:log.length≤1099511627776:=hf.2.1;have zw:jobs.length≤1099511627776:=hf.1;have BM:=Hid.mk' (P0 qu);have Rl:Hid (∀j∈jobs,j.2.1.length≤1099511627776∧(∀p∈j.2.1,p.2.1.size≤1099511627776)):=hf.2.2;have HYF:Hid (∀j∈jobs,j.2.2.2.length≤1099511627776):=Vh;obtain⟨iC,hiC,Rf,U_,Cz⟩:=info_parts Tm;obtain⟨iJ,Vi,Vj,Vk,Vl⟩:=info_parts NZ;have Ae:=Hid.mk' (fun wx (hx:Below w.heap.size w wx)=>(h.below hx).jobs)
 cases la with
 | none=>
  have h0:ln=0:=by
   rcases Nat.eq_zero_or_pos ln with e | e
   · exact e
   · obtain⟨b,off,ha,_⟩:=qu.2.2.2 e; cases ha
  subst h0;have ue:log=[]:=List.eq_nil_of_length_eq_zero mb;have hanc:=tX;obtain⟨V0,P1⟩:∃V0,((((w.alloc (kM n av next sure ja jn jc none 0 lc)).alloc (kM 0 0 0 0 none 0 0 none 0 0)).alloc (kM n av next sure (some ⟨w.heap.size+1+1+1+1,0,none⟩) 0 0 (some ⟨w.heap.size+1+1+1,0,none⟩) 0 0)).alloc (.cells #[] 87)).alloc (.cells #[] 75)=V0:=⟨_,rfl⟩;have To:=Hid.mk' P1;have HA:Hid (h_ w V0 n av next sure ja jn jc none 0 lc 0 (w.heap.size+1+1+1+1) 0 (w.heap.size+1+1+1) 0 (jobs.take 0) [] [] []):=by
   rw[←P1];have e1:(w.alloc (kM n av next sure ja jn jc none 0 lc)).heap.size=w.heap.size+1:=by simp
   have e2:((w.alloc (kM n av next sure ja jn jc none 0 lc)).alloc (kM 0 0 0 0 none 0 0 none 0 0)).heap.size=w.heap.size+1+1:=by simp
   have hr:=eI (w.alloc (kM n av next sure ja jn jc none 0 lc)) 0 0 0 0 none 0 0 none 0 0;have ho:=eI ((w.alloc (kM n av next sure ja jn jc none 0 lc)).alloc (kM 0 0 0 0 none 0 0 none 0 0)) n av next sure (some ⟨w.heap.size+1+1+1+1,0,none⟩) 0 0 (some ⟨w.heap.size+1+1+1,0,none⟩) 0 0;rw[e1] at hr;rw[e2] at ho;generalize hU:((w.alloc (kM n av next sure ja jn jc none 0 lc)).alloc (kM 0 0 0 0 none 0 0 none 0 0)).alloc (kM n av next sure (some ⟨w.heap.size+1+1+1+1,0,none⟩) 0 0 (some ⟨w.heap.size+1+1+1,0,none⟩) 0 0)=U at *;have hsU:U.heap.size=w.heap.size+1+1+1:=by rw[←hU]; simp
   have Ko:Below w.heap.size w U:=by rw[←hU]; exact(((Below.refl _ _).alloc (Nat.le_refl _) _).alloc (by simp) _).alloc (by simp; omega) _
   have hpU:fB w.heap.size n av next sure ja jn jc none 0 lc U:=by rw[←hU]; exact((eI w _ _ _ _ _ _ _ _ _ _).below (a8 _ _)).below (a8 _ _)
   have hrU:fB (w.heap.size+1) 0 0 0 0 none 0 0 none 0 0 U:=by rw[←hU]; exact hr.below (a8 _ _)
   have gL:=a8 U (.cells #[] 87);have Io:=lT 87 rG U;rw[hsU] at Io;have pQ:(U.alloc (.cells #[] 87)).heap.size=w.heap.size+1+1+1+1:=by simp; omega
   have ei:=a8 (U.alloc (.cells #[] 87)) (.cells #[] 75);have sL:=lT 75 ek (U.alloc (.cells #[] 87));rw[pQ] at sL;have fi:=Ko.trans (gL.mono Ko.size);refine⟨fi.trans (ei.mono fi.size),(hpU.below gL).below ei,(hrU.below gL).below ei,(ho.below gL).below ei,sL,Io.keep fun b hk=>ei.block b (Io.at_ b hk),?_,?_⟩
   · intro b hb;simp[aw] at hb;omega
   · simp[aw]
  obtain⟨gl,dk,ql,gj0,HA,pt⟩:∃gl dk ql gj0,Hid (h_ w V0 n av next sure ja jn jc none 0 lc 0 gj0 0 gl dk (jobs.take 0) log [] ql)∧aw ql=[]:=⟨_,_,_,_,by rw[ue]; exact HA,rfl⟩
  clear ue P1 qu h;aj Tryz.func56,Tryz.ntmps56;ab fail;rw[To.out];aN [4] (fun i wr=>∃(k gj eV:Nat) (q:dY),k≤jn∧i=.int .i64 (k:Int)∧h_ w wr n av next sure ja jn jc none 0 lc k gj eV gl dk (jobs.take k) log q ql) (fun i _=>jn - (intOf i).toNat)
  case atStart=>exact⟨0,_,0,[],Nat.zero_le _,rfl,HA.out⟩
  case round=>
   clear HA To;obtain⟨k,gj,eV,q,hk,rfl,hA⟩:=hrel;obtain⟨x0,x1,x2,x3,x4,x5⟩:=hA.p.cells;by_cases bn:k<jn
   · have cJ:k<jobs.length:=by omega
     have fZ:(k:Int)<(jn:Int):=by omega
     have GO:nE ek w ja jn jobs:=Ae.out w (Below.refl _ _);obtain⟨jb,eJ,e⟩:=gq GO (by omega)
     subst e;obtain⟨c0,c2,⟨oa,ol,oc,c1,vF,Hy⟩,ya,yl,yc,c3,GP,zE⟩:=qB GO k cJ;replace c0:=(hA.fp.cell (World.block_lt_of_cell? w _ c0)).trans c0;replace c1:=(hA.fp.cell (World.block_lt_of_cell? w _ c1)).trans c1;replace c2:=(hA.fp.cell (World.block_lt_of_cell? w _ c2)).trans c2;replace c3:=(hA.fp.cell (World.block_lt_of_cell? w _ c3)).trans c3;have xl:=Hid.mk' (D_ GO k cJ);have Lx:=Rl.out _ (List.getElem_mem cJ);have MR:yl≤1099511627776:=by have h1:=GP.1; have h2:=HYF.out _ (List.getElem_mem cJ); omega
     have pf:ol≤1099511627776:=by have h1:=vF.1; have h2:=Lx.1; omega
     have xM:Hid (jobs.take (k+1)=jobs.take k++[jobs[k]]):=List.take_succ_eq_append_getElem cJ;generalize jobs[k]=jk at *;obtain⟨tx,ops,st,yes⟩:=jk;simp only[] at c0 c1 c2 c3 vF GP xl;obtain⟨V1,MS⟩:∃V1,wr.alloc (.cells #[.int .i64 tx,.slice oa ol oc,.int .i64 st,.slice ya yl yc] 75)=V1:=⟨_,rfl⟩;have a_:Below wr.heap.size wr V1:=by rw[←MS]; exact a8 _ _
     have Ly:i_ wr.heap.size tx st (.slice oa ol oc) (.slice ya yl yc) V1:=by rw[←MS]; exact heap_alloc_new wr _
     have Fs:=Hid.mk' (gD oa ol oc ops V1 (vF.below (hA.fp.trans (a_.mono hA.fp.size))) pf);have BG:=Hid.mk' MS;have XC:=Hid.mk' (hA.below a_);have Lz:=Hid.mk' hA;have Tp:=Hid.mk' GP;clear MS GO vF GP Lx hA;ab fail;rw[BG.out];refine Fs.out.mono ?_;rintro e V2 ⟨g1,iR,rfl,gK,be⟩;have dh:=XC.out.below be;have E_:=Ly.below be;have Tq:=Tp.out.below dh.fp;have ud:V1.heap.size=wr.heap.size+1:=by rw[←BG.out]; simp
     have ij:=gK.lt;have XD:=be.size;have Aa:=yg E_ (.slice (some ⟨g1,0,none⟩) ol iR);obtain⟨j0,j1,j2,j3⟩:=E_.cells;have jf1:=E_.fz 1;obtain⟨m0,m1,m2,m3⟩:=Aa.1.cells;have Tr:=Aa.1.fz 3;have O8:=E_.lt;have sD:∀b∈gl::gj::aw q,b<wr.heap.size:=fun b hb=>by
      rcases List.mem_cons.1 hb with e | e
      · subst e; exact Lz.out.log.at_ _ (List.mem_append.2 (.inl (by simp[Value.ownBlock])))
      · rcases List.mem_cons.1 e with e | e
        · subst e; exact Lz.out.jobs.at_ _ (List.mem_append.2 (.inl (by simp[Value.ownBlock])))
        · exact Lz.out.jobs.at_ _ (List.mem_append.2 (.inr e))
     have tj:w.heap.size+3≤wr.heap.size:=by have:=Lz.out.o.lt; omega
     have sY:∀g,wr.heap.size≤g→g≠gl∧g∉gj::aw q∧g∉aw ql:=fun g hg=>⟨fun e=>by have:=sD gl (by simp); omega,fun e=>by have:=sD g (List.mem_cons_of_mem _ e); omega,by rw[pt]; simp⟩
     have zD:=dh.other Aa.2 tj (sY _ (Nat.le_refl _)).1 (sY _ (Nat.le_refl _)).2.1 (sY _ (Nat.le_refl _)).2.2;have ew:=gK.grown Aa.2 (by simp; omega)
     have GA:¬wr.heap.size=V2.heap.size:=by omega
     have XE:¬V2.heap.size=wr.heap.size:=by omega
     cases ya with
     | none=>
      have h0:yl=0:=by
       rcases Nat.eq_zero_or_pos yl with e | e
       · exact e
       · obtain⟨b,off,ha,_⟩:=Tq.2.2 e; cases ha
      subst h0;have zh:yes=[]:=List.eq_nil_of_length_eq_zero Tq.1;subst zh;have XF:=nB;have xm:=pw Aa.1 (.slice (some ⟨V2.heap.size,0,none⟩) 0 0);obtain⟨V5,tF⟩:∃V5,(V2.setCell ⟨wr.heap.size,1,none⟩ (.slice (some ⟨g1,0,none⟩) ol iR)).setCell ⟨wr.heap.size,3,none⟩ (.slice (some ⟨V2.heap.size,0,none⟩) 0 0)=V5:=⟨_,rfl⟩;have C8:V5.heap.size=V2.heap.size:=by rw[←tF]; simp
      rw[tF] at xm;obtain⟨V6,p_⟩:∃V6,V5.alloc (.cells #[] 3)=V6:=⟨_,rfl⟩;have mJ:Below V5.heap.size V5 V6:=by rw[←p_]; exact a8 _ _
      have bP:=(zD.other xm.2 tj (sY _ (Nat.le_refl _)).1 (sY _ (Nat.le_refl _)).2.1 (sY _ (Nat.le_refl _)).2.2).below mJ;have ur:=xm.1.below mJ;have en:=(ew.grown xm.2 (by simp; omega)).below mJ
      have Ea:dm V6 0 V2.heap.size 0 0 []:=by rw[←p_,←C8]; exact(jl V5 0 (Nat.zero_le _))
      obtain⟨V7,pV⟩:∃V7,V6.alloc (.cells #[.int .i64 tx,.slice (some ⟨g1,0,none⟩) ol iR,.int .i64 st,.slice (some ⟨V2.heap.size,0,none⟩) 0 0] 75)=V7:=⟨_,rfl⟩;have P2:=Hid.mk' pV;have H5:V6.heap.size=V2.heap.size+1:=by rw[←p_]; simp; omega
      obtain⟨u0,u1,u2,u3,u4,u5⟩:=bP.o.cells;obtain⟨i0,i1,i2,i3⟩:=ur.cells;have dd:Below V6.heap.size V6 V7:=by rw[←pV]; exact a8 _ _
      have xh:=bP.below dd;have Eb:i_ V6.heap.size tx st (.slice (some ⟨g1,0,none⟩) ol iR) (.slice (some ⟨V2.heap.size,0,none⟩) 0 0) V7:=by rw[←pV]; exact heap_alloc_new V6 _
      rw[H5] at Eb;have Jj:V7.heap.size=V6.heap.size+1:=by rw[←pV]; simp
      have sf:(jobs.take k).length=k:=by simp; omega
      have vL:V7.ownsRow 0 75 4 (.slice (some ⟨gj,0,none⟩) k eV) k (cellsOf q):=by have:=xh.jobs.row; rw[sf] at this; exact this
      have CB:Hid (∀j u,([.int .i64 tx,.slice (some ⟨g1,0,none⟩) ol iR,.int .i64 st,.slice (some ⟨V2.heap.size,0,none⟩) 0 0]:List Value)[j]? =some u→V7.cell? ((⟨V2.heap.size+1,0,none⟩:Addr).add j)=some u):=by
       intro j u hj;obtain⟨n0,n1,n2,n3⟩:=Eb.cells;rw[Addr.add_lit,Nat.zero_add]
       match j,hj with
       | 0,hj=>cases hj; exact n0
       | 1,hj=>cases hj; exact n1
       | 2,hj=>cases hj; exact n2
       | 3,hj=>cases hj; exact n3
      have Cq:Hid (∀u∈([.int .i64 tx,.slice (some ⟨g1,0,none⟩) ol iR,.int .i64 st,.slice (some ⟨V2.heap.size,0,none⟩) 0 0]:List Value),u.oneCell'=true):=by
       intro u hu;simp only[List.mem_cons,List.not_mem_nil,or_false] at hu;rcases hu with rfl | rfl | rfl | rfl <;> rfl
      have LA:k+1≤maxLen:=by unfold maxLen; omega
      have tV:(k+1) * 64≤140737488355328:=by omega
      have kJ:=Hid.mk' xh;have wQ:=Hid.mk' (fK ((en.below dd).mono (base':=0) (Nat.zero_le _)));have Kp:Hid (tt V7 (.slice (some ⟨V2.heap.size,0,none⟩) 0 0) []):=⟨xl.out.2.2.2,by have h9:=(Ea.below dd).2; have h8:=(Ea.below dd).1; first | (rw[h8]; exact h9) | (rw[←h8] at h9; simpa using h9)⟩
      clear xh bP Eb dd en Ea ur pV;ab (ak; rw[P2.out]; refine wpList_append_lies _ rfl (.tmp 36) (.tmp 38) 25 rfl 0 75 iJ (.agg #[.int .i64 0,.slice none 0 0,.int .i64 0,.slice none 0 0]) 4 64 Tryz.underlying25 Vi Vj Vk Vl rfl (by decide) _ _ _ rfl vL ⟨V2.heap.size+1,0,none⟩ 1 1 [.int .i64 tx,.slice (some ⟨g1,0,none⟩) ol iR,.int .i64 st,.slice (some ⟨V2.heap.size,0,none⟩) 0 0] ?e1 rfl CB.out Cq.out (by decide) LA tV (Nat.zero_le _) _ rfl ?_)
      case e1=>simp[Act.eval]
      intro g8 m9 w8 gi bY iW vd;have js:V7.grownBy w8 (some gj):=bY;have eo:([g1]++[V2.heap.size]:List Nat).Nodup:=by simp; omega
      have hx:ek.own V7 [.int .i64 tx,.slice (some ⟨g1,0,none⟩) ol iR,.int .i64 st,.slice (some ⟨V2.heap.size,0,none⟩) 0 0] (tx,ops,st,[]) ([g1]++[V2.heap.size]):=dX.2 ⟨_,_,rfl,xl.out.1,xl.out.2.1,wQ.out,Kp.out,rfl,eo⟩;have ls:∀b∈([g1]++[V2.heap.size]:List Nat),wr.heap.size≤b:=fun b hb=>by simp at hb; rcases hb with rfl | rfl <;> omega
      have hd:∀b∈([g1]++[V2.heap.size]:List Nat),b∉(Value.slice (some ⟨gj,0,none⟩) k eV).ownBlock.toList++aw q:=fun b hb hc=>by
       have h1:=ls b hb;have h2:=sD b (List.mem_cons_of_mem _ (by simpa[Value.ownBlock] using hc))
       omega
      have zF:=bz.snoc kJ.out.jobs hx hd (by rw[sf]; exact gi) bY iW (by omega)
      rw[sf,←xM.out] at zF;have m_:=kJ.out.new;have P3:w.heap.size+3≤gj:=m_ gj (by simp)
      have Gy:w.heap.size+3≤gl:=m_ gl (by simp)
      have qE:=kJ.out.ne;have zG:=kJ.out.o.grown js (by simp; omega)
      have s9:=mA zG (some ⟨g8,0,none⟩) (k+1) m9;have P4:w.heap.size+3≤g8:=by
       rcases iW with e | e
       · have:gj=g8:=by simpa[Value.ownBlock] using e
         omega
       · omega
      have lQ:=kJ.out.fp.grown js kJ.out.fp.size (fun b e=>by cases e; omega)
      have zB:=kJ.out.log.keep fun b hk=>js.block b (kJ.out.log.at_ b hk) (by
       rw[pt] at hk;simp[Value.ownBlock] at hk;subst hk;simp;intro e;exact qE (by simp[e]))
      have P5:Hid (h_ w (w8.setCell ⟨w.heap.size+1+1,3,none⟩ (.slice (some ⟨g8,0,none⟩) (k+1) m9)) n av next sure (some ⟨jb,eJ,none⟩) jn jc none 0 lc (k+1) g8 m9 gl dk (jobs.take (k+1)) log (q++[([.int .i64 tx,.slice (some ⟨g1,0,none⟩) ol iR,.int .i64 st,.slice (some ⟨V2.heap.size,0,none⟩) 0 0],[g1]++[V2.heap.size])]) ql):=by
       refine⟨lQ.grown s9.2 lQ.size (fun b e=>by cases e; omega),(kJ.out.p.grown js (by simp; omega)).grown s9.2 (by simp <;> omega),(kJ.out.r.grown js (by simp; omega)).grown s9.2 (by simp <;> omega),s9.1,?_,?_,?_,?_⟩
       · refine zF.keep fun b hk=>s9.2.block b (zF.at_ b hk) ?_
         rw[a6] at hk;have:w.heap.size+3≤b:=by
          rcases List.mem_append.1 hk with h1 | h1
          · simp[Value.ownBlock] at h1; omega
          · rcases List.mem_append.1 h1 with h2 | h2
            · exact m_ b (by simp[h2])
            · have:=ls b (by simpa[aw] using h2); omega
         simp; omega
       · refine zB.keep fun b hk=>s9.2.block b (zB.at_ b hk) ?_
         rw[pt] at hk;simp[Value.ownBlock] at hk;simp; omega
       · intro b hb;rw[a6] at hb;rcases List.mem_cons.1 hb with h1 | h1
         · omega
         · rcases List.mem_cons.1 h1 with h2 | h2
           · omega
           · rcases List.mem_append.1 h2 with h3 | h3
             · exact m_ b (by simp[h3])
             · have:=ls b (by simpa[aw] using h3); omega
       · intro hb;rw[a6] at hb;have XG:=sD gl (by simp)
         rcases List.mem_cons.1 hb with h1 | h1
         · rcases iW with e | e
           · have:gj=g8:=by simpa[Value.ownBlock] using e
             exact qE (by simp[h1,this])
           · omega
         · rcases List.mem_append.1 h1 with h3 | h3
           · exact qE (by simp[h3])
           · have:=ls gl (by simpa[aw] using h3); omega
      obtain⟨y0,y1,y2,y3,y4,y5⟩:=zG.cells;have yf:=zG.fz 3;clear zF hx hd gi bY js zB lQ s9 zG kJ wQ Kp;ab fail;aA
      case rel=>exact⟨k+1,g8,m9,_,by omega,by aF,P5.out⟩
      case measure=>simp[intOf]; omega
     | some ay=>
      obtain⟨iZ,XH,XI,XJ,XK⟩:=info_parts pT;obtain⟨V3,kc⟩:∃V3,V2.setCell ⟨wr.heap.size,1,none⟩ (.slice (some ⟨g1,0,none⟩) ol iR)=V3:=⟨_,rfl⟩;have P6:V3.heap.size=V2.heap.size:=by rw[←kc]; simp
      rw[kc] at Aa zD ew m0 m1 m2 m3 Tr;obtain⟨V4,zX⟩:∃V4,V3.alloc (.cells #[] 3)=V4:=⟨_,rfl⟩;have Ec:Below V3.heap.size V3 V4:=by rw[←zX]; exact a8 _ _
      have fT:=zD.below Ec;have Ts:=Tp.out.below fT.fp;have rJ:=Aa.1.below Ec;have ej:=ew.below Ec;have P7:=jl V3 V2.heap.size (by omega)
      rw[P6,zX] at P7;have XL:V4.heap.size=V2.heap.size+1:=by rw[←zX]; simp; omega
      have Kh:=Ts.1;have PX:yl≤1099511627776:=MR;have vM:Hid (∀j u,(bg yes)[j]? =some u→V4.cell? (ay.add j)=some u):=by
       intro j u hj;have Kq:j<yes.length:=by rw[←fc]; exact(List.getElem?_eq_some_iff.1 hj).1
       obtain⟨b,off,ha,lM⟩:=Ts.2.2 (by omega)
       cases ha;rw[Addr.add_lit,lM j Kq];have:(bg yes)[j]? =some (.int .i64 yes[j]):=by simp[bg,Kq]
       rw[this] at hj;exact hj
      have XM:(bg yes).length=yl * 1:=by rw[fc]; omega
      have P8:0+yl≤maxLen:=by unfold maxLen; omega
      have P9:(0+yl) * 8≤140737488355328:=by omega
      have P_:V2.heap.size≤V4.heap.size:=by omega
      obtain⟨i0,i1,i2,i3⟩:=rJ.cells;ab (ak; refine wpList_append_own _ rfl (.tmp 30) (.tmp 32) 54 rfl V2.heap.size 3 iZ (.int .i64 0) 1 8 Tryz.underlying54 XH XI XJ XK rfl (by decide) _ _ _ rfl P7.2 ay yl yc (bg yes) rfl XM vM.out (cq _) P8 P9 P_ ?_)
      intro vy w6 BN vN Kr;have BO:¬vy=.slice none 0 0:=by simpa using Kr
      have vO:w6.ownsRow V2.heap.size 3 1 vy yl (bg yes):=by have h9:=BN; simpa[bg] using h9
      obtain⟨gy,cy,ey,hgy⟩:=qD vO BO;subst ey;have zH:V4.grownBy w6 (some V2.heap.size):=vN;have sL:=sY V2.heap.size (by omega)
      have gN:=fT.other zH (by omega) sL.1 sL.2.1 sL.2.2
      have wE:i_ wr.heap.size tx st (.slice (some ⟨g1,0,none⟩) ol iR) (.slice (some ay) yl yc) w6:=(zH.block _ rJ.lt (by simp; omega)).trans rJ
      have eD:=ej.grown zH (by simp; omega)
      have Kg:dm w6 V2.heap.size gy yl cy yes:=⟨Kh,vO⟩;have xm:=pw wE (.slice (some ⟨gy,0,none⟩) yl cy);obtain⟨V6,p_⟩:∃V6,w6.setCell ⟨wr.heap.size,3,none⟩ (.slice (some ⟨gy,0,none⟩) yl cy)=V6:=⟨_,rfl⟩;have H5:V6.heap.size=w6.heap.size:=by rw[←p_]; simp
      rw[p_] at xm;have bP:=gN.other xm.2 tj (sY _ (Nat.le_refl _)).1 (sY _ (Nat.le_refl _)).2.1 (sY _ (Nat.le_refl _)).2.2;have ur:=xm.1;have en:=eD.grown xm.2 (by simp; omega)
      have Ea:dm V6 0 gy yl cy yes:=(Kg.grown xm.2 (by simp; omega)).mono (Nat.zero_le _)
      have XN:=zH.size;obtain⟨V7,pV⟩:∃V7,V6.alloc (.cells #[.int .i64 tx,.slice (some ⟨g1,0,none⟩) ol iR,.int .i64 st,.slice (some ⟨gy,0,none⟩) yl cy] 75)=V7:=⟨_,rfl⟩;have P2:=Hid.mk' pV;obtain⟨t0,t1,t2,t3⟩:=wE.cells;have tf3:=i_.fz wE 3;clear i0 i1 i2 i3 m0 m1 m2 m3 Tr BN vN Kr BO vM P7 fT gN rJ ej eD Kg zX kc;obtain⟨u0,u1,u2,u3,u4,u5⟩:=bP.o.cells;obtain⟨v0,v1,v2,v3⟩:=ur.cells;have dd:Below V6.heap.size V6 V7:=by rw[←pV]; exact a8 _ _
      have xh:=bP.below dd;have Eb:i_ V6.heap.size tx st (.slice (some ⟨g1,0,none⟩) ol iR) (.slice (some ⟨gy,0,none⟩) yl cy) V7:=by rw[←pV]; exact heap_alloc_new V6 _
      rw[H5] at Eb;have Jj:V7.heap.size=V6.heap.size+1:=by rw[←pV]; simp
      have sf:(jobs.take k).length=k:=by simp; omega
      have vL:V7.ownsRow 0 75 4 (.slice (some ⟨gj,0,none⟩) k eV) k (cellsOf q):=by have:=xh.jobs.row; rw[sf] at this; exact this
      have CB:Hid (∀j u,([.int .i64 tx,.slice (some ⟨g1,0,none⟩) ol iR,.int .i64 st,.slice (some ⟨gy,0,none⟩) yl cy]:List Value)[j]? =some u→V7.cell? ((⟨w6.heap.size,0,none⟩:Addr).add j)=some u):=by
       intro j u hj;obtain⟨n0,n1,n2,n3⟩:=Eb.cells;rw[Addr.add_lit,Nat.zero_add]
       match j,hj with
       | 0,hj=>cases hj; exact n0
       | 1,hj=>cases hj; exact n1
       | 2,hj=>cases hj; exact n2
       | 3,hj=>cases hj; exact n3
      have Cq:Hid (∀u∈([.int .i64 tx,.slice (some ⟨g1,0,none⟩) ol iR,.int .i64 st,.slice (some ⟨gy,0,none⟩) yl cy]:List Value),u.oneCell'=true):=by
       intro u hu;simp only[List.mem_cons,List.not_mem_nil,or_false] at hu;rcases hu with rfl | rfl | rfl | rfl <;> rfl
      have LA:k+1≤maxLen:=by unfold maxLen; omega
      have tV:(k+1) * 64≤140737488355328:=by omega
      have kJ:=Hid.mk' xh;have wQ:=Hid.mk' (fK ((en.below dd).mono (base':=0) (Nat.zero_le _)));have Kp:Hid (tt V7 (.slice (some ⟨gy,0,none⟩) yl cy) yes):=⟨xl.out.2.2.2,by have h9:=(Ea.below dd).2; have h8:=(Ea.below dd).1; first | (rw[h8]; exact h9) | (rw[←h8] at h9; simpa using h9)⟩
      clear xh bP Eb dd en Ea ur pV;ab (ak; rw[P2.out]; refine wpList_append_lies _ rfl (.tmp 36) (.tmp 38) 25 rfl 0 75 iJ (.agg #[.int .i64 0,.slice none 0 0,.int .i64 0,.slice none 0 0]) 4 64 Tryz.underlying25 Vi Vj Vk Vl rfl (by decide) _ _ _ rfl vL ⟨w6.heap.size,0,none⟩ 1 1 [.int .i64 tx,.slice (some ⟨g1,0,none⟩) ol iR,.int .i64 st,.slice (some ⟨gy,0,none⟩) yl cy] ?e1 rfl CB.out Cq.out (by decide) LA tV (Nat.zero_le _) _ rfl ?_)
      case e1=>simp[Act.eval]
      intro g8 m9 w8 gi bY iW vd;have js:V7.grownBy w8 (some gj):=bY;have eo:([g1]++[gy]:List Nat).Nodup:=by simp; omega
      have hx:ek.own V7 [.int .i64 tx,.slice (some ⟨g1,0,none⟩) ol iR,.int .i64 st,.slice (some ⟨gy,0,none⟩) yl cy] (tx,ops,st,yes) ([g1]++[gy]):=dX.2 ⟨_,_,rfl,xl.out.1,xl.out.2.1,wQ.out,Kp.out,rfl,eo⟩;have ls:∀b∈([g1]++[gy]:List Nat),wr.heap.size≤b:=fun b hb=>by simp at hb; rcases hb with rfl | rfl <;> omega
      have hd:∀b∈([g1]++[gy]:List Nat),b∉(Value.slice (some ⟨gj,0,none⟩) k eV).ownBlock.toList++aw q:=fun b hb hc=>by
       have h1:=ls b hb;have h2:=sD b (List.mem_cons_of_mem _ (by simpa[Value.ownBlock] using hc))
       omega
      have zF:=bz.snoc kJ.out.jobs hx hd (by rw[sf]; exact gi) bY iW (by omega)
      rw[sf,←xM.out] at zF;have m_:=kJ.out.new;have P3:w.heap.size+3≤gj:=m_ gj (by simp)
      have Gy:w.heap.size+3≤gl:=m_ gl (by simp)
      have qE:=kJ.out.ne;have zG:=kJ.out.o.grown js (by simp; omega)
      have s9:=mA zG (some ⟨g8,0,none⟩) (k+1) m9;have P4:w.heap.size+3≤g8:=by
       rcases iW with e | e
       · have:gj=g8:=by simpa[Value.ownBlock] using e
         omega
       · omega
      have lQ:=kJ.out.fp.grown js kJ.out.fp.size (fun b e=>by cases e; omega)
      have zB:=kJ.out.log.keep fun b hk=>js.block b (kJ.out.log.at_ b hk) (by
       rw[pt] at hk;simp[Value.ownBlock] at hk;subst hk;simp;intro e;exact qE (by simp[e]))
      have P5:Hid (h_ w (w8.setCell ⟨w.heap.size+1+1,3,none⟩ (.slice (some ⟨g8,0,none⟩) (k+1) m9)) n av next sure (some ⟨jb,eJ,none⟩) jn jc none 0 lc (k+1) g8 m9 gl dk (jobs.take (k+1)) log (q++[([.int .i64 tx,.slice (some ⟨g1,0,none⟩) ol iR,.int .i64 st,.slice (some ⟨gy,0,none⟩) yl cy],[g1]++[gy])]) ql):=by
       refine⟨lQ.grown s9.2 lQ.size (fun b e=>by cases e; omega),(kJ.out.p.grown js (by simp; omega)).grown s9.2 (by simp <;> omega),(kJ.out.r.grown js (by simp; omega)).grown s9.2 (by simp <;> omega),s9.1,?_,?_,?_,?_⟩
       · refine zF.keep fun b hk=>s9.2.block b (zF.at_ b hk) ?_
         rw[a6] at hk;have:w.heap.size+3≤b:=by
          rcases List.mem_append.1 hk with h1 | h1
          · simp[Value.ownBlock] at h1; omega
          · rcases List.mem_append.1 h1 with h2 | h2
            · exact m_ b (by simp[h2])
            · have:=ls b (by simpa[aw] using h2); omega
         simp; omega
       · refine zB.keep fun b hk=>s9.2.block b (zB.at_ b hk) ?_
         rw[pt] at hk;simp[Value.ownBlock] at hk;simp; omega
       · intro b hb;rw[a6] at hb;rcases List.mem_cons.1 hb with h1 | h1
         · omega
         · rcases List.mem_cons.1 h1 with h2 | h2
           · omega
           · rcases List.mem_append.1 h2 with h3 | h3
             · exact m_ b (by simp[h3])
             · have:=ls b (by simpa[aw] using h3); omega
       · intro hb;rw[a6] at hb;have XG:=sD gl (by simp)
         rcases List.mem_cons.1 hb with h1 | h1
         · rcases iW with e | e
           · have:gj=g8:=by simpa[Value.ownBlock] using e
             exact qE (by simp[h1,this])
           · omega
         · rcases List.mem_append.1 h1 with h3 | h3
           · exact qE (by simp[h3])
           · have:=ls gl (by simpa[aw] using h3); omega
      obtain⟨y0,y1,y2,y3,y4,y5⟩:=zG.cells;have yf:=zG.fz 3;clear zF hx hd gi bY js zB lQ s9 zG kJ wQ Kp;ab fail;aA
      case rel=>exact⟨k+1,g8,m9,_,by omega,by aF,P5.out⟩
      case measure=>simp[intOf]; omega
   · have CU:¬(k:Int)<(jn:Int):=by omega
     have XO:k=jn:=by omega
     subst XO;obtain⟨o0,o1,o2,o3,o4,o5⟩:=hA.o.cells;obtain⟨r0,r1,r2,r3,r4,r5⟩:=hA.r.cells;have f0:=hA.r.fz 0;have f1:=hA.r.fz 1;have f2:=hA.r.fz 2;have f3:=hA.r.fz 3;have f4:=hA.r.fz 4;have f5:=hA.r.fz 5;have hz:=px hA.r n av next sure (some ⟨gj,0,none⟩) k eV (some ⟨gl,0,none⟩) 0 dk;have l8:=hz.1.cells;have Qa:=Hid.mk' l8;have sf:jobs.take k=jobs:=List.take_of_length_le (by omega)
     have kU:=hA.new;have XP:=Hid.mk' (show bz 75 ek _ (.slice (some ⟨gj,0,none⟩) k eV) jobs q from by
      have h1:=hA.jobs;rw[sf] at h1;exact h1.keep fun b hk=>hz.2.block b (h1.at_ b hk) (by
       have:=kU b (List.mem_cons_of_mem _ (by simpa[Value.ownBlock] using hk))
       simp; omega))
     have Rm:=Hid.mk' (hA.log.keep fun b hk=>hz.2.block b (hA.log.at_ b hk) (by
      rw[pt] at hk;simp[Value.ownBlock] at hk;have:=kU gl (by simp)
      simp; omega))
     have XQ:=Hid.mk' (hA.fp.grown hz.2 hA.fp.size (fun b e=>by cases e; omega))
     have CB:Hid (∀b∈gl::gj::aw q,w.heap.size≤b):=fun b hb=>by have:=kU b hb; omega
     have Rn:=Hid.mk' hA.ne;clear hz l8 hA kU;ab fail;have l8:=Qa.out;refine bodyPost_ret (v:=.agg #[.int .i64 n,.int .i64 av,.int .i64 next,.slice (some ⟨gj,0,none⟩) k eV,.slice (some ⟨gl,0,none⟩) 0 dk,.int .i64 sure]) ?_ rfl (show kI w k 0 (n,av,next,jobs,log,sure) _ _ from⟨gj,eV,gl,dk,q,ql,rfl,XP.out,Rm.out,CB.out,Rn.out,XQ.out⟩)
     simp[results,Tryz.results56,go_sem,l8.1,l8.2.1,l8.2.2.1,l8.2.2.2.1,l8.2.2.2.2.1,l8.2.2.2.2.2]
 | some ad=>
  obtain⟨W3,zT⟩:∃W3,((w.alloc (kM n av next sure ja jn jc (some ad) ln lc)).alloc (kM 0 0 0 0 none 0 0 none 0 0)).alloc (kM n av next sure ja jn jc (some ad) ln lc)=W3:=⟨_,rfl⟩;have cY:Below w.heap.size w W3:=by rw[←zT]; exact(((Below.refl _ _).alloc (Nat.le_refl _) _).alloc (by simp) _).alloc (by simp; omega) _
  have Lo:W3.heap.size=w.heap.size+1+1+1:=by rw[←zT]; simp
  have hp3:fB w.heap.size n av next sure ja jn jc (some ad) ln lc W3:=by rw[←zT]; exact((eI w _ _ _ _ _ _ _ _ _ _).below (a8 _ _)).below (a8 _ _)
  have Vm:fB (w.heap.size+1) 0 0 0 0 none 0 0 none 0 0 W3:=by
   rw[←zT];have:=eI (w.alloc (kM n av next sure ja jn jc (some ad) ln lc)) 0 0 0 0 none 0 0 none 0 0;have e:(w.alloc (kM n av next sure ja jn jc (some ad) ln lc)).heap.size=w.heap.size+1:=by simp
   rw[e] at this;exact this.below (a8 _ _)
  have ho3:fB (w.heap.size+1+1) n av next sure ja jn jc (some ad) ln lc W3:=by
   rw[←zT];have:=eI ((w.alloc (kM n av next sure ja jn jc (some ad) ln lc)).alloc (kM 0 0 0 0 none 0 0 none 0 0)) n av next sure ja jn jc (some ad) ln lc;have e:((w.alloc (kM n av next sure ja jn jc (some ad) ln lc)).alloc (kM 0 0 0 0 none 0 0 none 0 0)).heap.size=w.heap.size+1+1:=by simp
   rw[e] at this;exact this
  have eR:=a8 W3 (.cells #[] 87);have eF:=cY.trans (eR.mono cY.size);have pK:(W3.alloc (.cells #[] 87)).ownsRow (w.heap.size+1+1+1) 87 2 (.slice (some ⟨w.heap.size+1+1+1,0,none⟩) 0 0) 0 []:=by
   have:=World.ownsRow_made (base:=w.heap.size+1+1+1) (e:=87) (size:=2) W3 #[] 0 (by omega) (Nat.zero_le _) (by simp)
   rw[Lo] at this;exact this
  have nl:Hid (∀j u,(jr log)[j]? =some u→(W3.alloc (.cells #[] 87)).cell? (ad.add j)=some u):=by
   rcases Nat.eq_zero_or_pos ln with e | e
   · intro j u hj;have e1:log=[]:=List.eq_nil_of_length_eq_zero (by omega)
     rw[e1] at hj; simp[jr] at hj
   · obtain⟨b,off,ha,_⟩:=qu.2.2.2 e;cases ha;exact Kn (qu.below eF)
  have jA:(jr log).length=ln * 2:=by rw[p6]; omega
  have fR:0+ln≤maxLen:=by unfold maxLen; omega
  have kn:(0+ln) * 16≤140737488355328:=by omega
  have zU:=Hid.mk' zT;have je:w.heap.size+1+1+1≤(W3.alloc (.cells #[] 87)).heap.size:=by simp; omega
  clear zT qu h;aj Tryz.func56,Tryz.ntmps56;ab (ak; rw[zU.out]; refine wpList_append_own _ rfl (.tmp 7) (.tmp 9) 26 rfl (w.heap.size+1+1+1) 87 iC (.agg #[.int .i64 0,.bool false]) 2 16 Tryz.underlying26 hiC Rf U_ Cz rfl (by decide) _ _ _ rfl pK ad ln lc (jr log) rfl jA nl.out (D9 _) fR kn je ?_)
  intro v5 w5 iB fa uY;obtain⟨gl,dk,e5,ny⟩:=qD iB uY;subst e5;have Ks:(W3.alloc (.cells #[] 87)).grownBy w5 (some (w.heap.size+1+1+1)):=fa;have hp5:=(hp3.below eR).grown Ks (by simp <;> omega)
  have H_:=(Vm.below eR).grown Ks (by simp <;> omega)
  have Ro:=(ho3.below eR).grown Ks (by simp <;> omega)
  have ez:=eF.grown Ks eF.size (fun k e=>by cases e; omega)
  have Tt:=iB.lt gl rfl;obtain⟨o0,o1,o2,o3,o4,o5⟩:=Ro.cells;have f3:=Ro.fz 3;have f4:=Ro.fz 4;have s4:=GQ Ro (some ⟨gl,0,none⟩) ln dk;have s3:=mA s4.1 (some ⟨w5.heap.size,0,none⟩) 0 0;obtain⟨t0,t1,t2,t3,t4,t5⟩:=s4.1.cells;have tf:=s4.1.fz 3;have hol5:=Ro.lt;have hne1:¬w.heap.size+1+1=w5.heap.size:=by omega
  have Xb:¬w5.heap.size=w.heap.size+1+1:=by omega
  have hz5:(w5.setCell ⟨w.heap.size+1+1,4,none⟩ (.slice (some ⟨gl,0,none⟩) ln dk)).heap.size=w5.heap.size:=by simp
  have hg:=az s4.2 s3.2;obtain⟨V0,P1⟩:∃V0,((w5.setCell ⟨w.heap.size+1+1,4,none⟩ (.slice (some ⟨gl,0,none⟩) ln dk)).setCell ⟨w.heap.size+1+1,3,none⟩ (.slice (some ⟨w5.heap.size,0,none⟩) 0 0)).alloc (.cells #[] 75)=V0:=⟨_,rfl⟩;have hz:((w5.setCell ⟨w.heap.size+1+1,4,none⟩ (.slice (some ⟨gl,0,none⟩) ln dk)).setCell ⟨w.heap.size+1+1,3,none⟩ (.slice (some ⟨w5.heap.size,0,none⟩) 0 0)).heap.size=w5.heap.size:=by simp
  have pZ:=a8 ((w5.setCell ⟨w.heap.size+1+1,4,none⟩ (.slice (some ⟨gl,0,none⟩) ln dk)).setCell ⟨w.heap.size+1+1,3,none⟩ (.slice (some ⟨w5.heap.size,0,none⟩) 0 0)) (.cells #[] 75);have XR:=lT 75 ek ((w5.setCell ⟨w.heap.size+1+1,4,none⟩ (.slice (some ⟨gl,0,none⟩) ln dk)).setCell ⟨w.heap.size+1+1,3,none⟩ (.slice (some ⟨w5.heap.size,0,none⟩) 0 0));rw[hz] at XR;have Ia:=MQ mb BM.out iB;have Rp:=Ia.keep fun b hk=>hg.block b (Ia.at_ b hk) (by
   rw[vK] at hk;simp[Value.ownBlock] at hk;simp; omega)
  have HA:Hid (h_ w V0 n av next sure ja jn jc (some ad) ln lc 0 w5.heap.size 0 gl dk (jobs.take 0) log [] (log.map fun x=>([.int .i64 x.1,.bool x.2],[]))):=by
   rw[←P1];have iU:=ez.grown hg ez.size (fun k e=>by cases e; omega)
   refine⟨iU.trans (pZ.mono iU.size),(hp5.grown hg (by simp <;> omega)).below pZ,(H_.grown hg (by simp <;> omega)).below pZ,s3.1.below pZ,XR,Rp.keep fun b hk=>pZ.block b (Rp.at_ b hk),?_,?_⟩
   · intro b hb;simp[aw] at hb;have:=ez.size;have:=Tt.2;rcases hb with rfl | rfl <;> omega
   · simp[aw]; have:=Tt.2; omega
  have To:=Hid.mk' P1;have pt:=vK log;generalize hql:(log.map fun x=>([Value.int .i64 x.1,.bool x.2],([]:List Nat)))=ql at *
  clear P1 Ia Rp XR pZ hz hg hz5 s3 s4 hp5 H_ Ro ez iB fa Ks uY hp3 Vm ho3 cY eF eR pK nl zU;ab fail;rw[To.out];aN [4] (fun i wr=>∃(k gj eV:Nat) (q:dY),k≤jn∧i=.int .i64 (k:Int)∧h_ w wr n av next sure ja jn jc (some ad) ln lc k gj eV gl dk (jobs.take k) log q ql) (fun i _=>jn - (intOf i).toNat)
  case atStart=>exact⟨0,_,0,[],Nat.zero_le _,rfl,HA.out⟩
  case round=>
   clear HA To;obtain⟨k,gj,eV,q,hk,rfl,hA⟩:=hrel;obtain⟨x0,x1,x2,x3,x4,x5⟩:=hA.p.cells;by_cases bn:k<jn
   · have cJ:k<jobs.length:=by omega
     have fZ:(k:Int)<(jn:Int):=by omega
     have GO:nE ek w ja jn jobs:=Ae.out w (Below.refl _ _);obtain⟨jb,eJ,e⟩:=gq GO (by omega)
     subst e;obtain⟨c0,c2,⟨oa,ol,oc,c1,vF,Hy⟩,ya,yl,yc,c3,GP,zE⟩:=qB GO k cJ;replace c0:=(hA.fp.cell (World.block_lt_of_cell? w _ c0)).trans c0;replace c1:=(hA.fp.cell (World.block_lt_of_cell? w _ c1)).trans c1;replace c2:=(hA.fp.cell (World.block_lt_of_cell? w _ c2)).trans c2;replace c3:=(hA.fp.cell (World.block_lt_of_cell? w _ c3)).trans c3;have xl:=Hid.mk' (D_ GO k cJ);have Lx:=Rl.out _ (List.getElem_mem cJ);have MR:yl≤1099511627776:=by have h1:=GP.1; have h2:=HYF.out _ (List.getElem_mem cJ); omega
     have pf:ol≤1099511627776:=by have h1:=vF.1; have h2:=Lx.1; omega
     have xM:Hid (jobs.take (k+1)=jobs.take k++[jobs[k]]):=List.take_succ_eq_append_getElem cJ;generalize jobs[k]=jk at *;obtain⟨tx,ops,st,yes⟩:=jk;simp only[] at c0 c1 c2 c3 vF GP xl;obtain⟨V1,MS⟩:∃V1,wr.alloc (.cells #[.int .i64 tx,.slice oa ol oc,.int .i64 st,.slice ya yl yc] 75)=V1:=⟨_,rfl⟩;have a_:Below wr.heap.size wr V1:=by rw[←MS]; exact a8 _ _
     have Ly:i_ wr.heap.size tx st (.slice oa ol oc) (.slice ya yl yc) V1:=by rw[←MS]; exact heap_alloc_new wr _
     have Fs:=Hid.mk' (gD oa ol oc ops V1 (vF.below (hA.fp.trans (a_.mono hA.fp.size))) pf);have BG:=Hid.mk' MS;have XC:=Hid.mk' (hA.below a_);have Lz:=Hid.mk' hA;have Tp:=Hid.mk' GP;clear MS GO vF GP Lx hA;ab fail;rw[BG.out];refine Fs.out.mono ?_;rintro e V2 ⟨g1,iR,rfl,gK,be⟩;have dh:=XC.out.below be;have E_:=Ly.below be;have Tq:=Tp.out.below dh.fp;have ud:V1.heap.size=wr.heap.size+1:=by rw[←BG.out]; simp
     have ij:=gK.lt;have XD:=be.size;have Aa:=yg E_ (.slice (some ⟨g1,0,none⟩) ol iR);obtain⟨j0,j1,j2,j3⟩:=E_.cells;have jf1:=E_.fz 1;obtain⟨m0,m1,m2,m3⟩:=Aa.1.cells;have Tr:=Aa.1.fz 3;have O8:=E_.lt;have sD:∀b∈gl::gj::aw q,b<wr.heap.size:=fun b hb=>by
      rcases List.mem_cons.1 hb with e | e
      · subst e; exact Lz.out.log.at_ _ (List.mem_append.2 (.inl (by simp[Value.ownBlock])))
      · rcases List.mem_cons.1 e with e | e
        · subst e; exact Lz.out.jobs.at_ _ (List.mem_append.2 (.inl (by simp[Value.ownBlock])))
        · exact Lz.out.jobs.at_ _ (List.mem_append.2 (.inr e))
     have tj:w.heap.size+3≤wr.heap.size:=by have:=Lz.out.o.lt; omega
     have sY:∀g,wr.heap.size≤g→g≠gl∧g∉gj::aw q∧g∉aw ql:=fun g hg=>⟨fun e=>by have:=sD gl (by simp); omega,fun e=>by have:=sD g (List.mem_cons_of_mem _ e); omega,by rw[pt]; simp⟩
     have zD:=dh.other Aa.2 tj (sY _ (Nat.le_refl _)).1 (sY _ (Nat.le_refl _)).2.1 (sY _ (Nat.le_refl _)).2.2;have ew:=gK.grown Aa.2 (by simp; omega)
     have GA:¬wr.heap.size=V2.heap.size:=by omega
     have XE:¬V2.heap.size=wr.heap.size:=by omega
     cases ya with
     | none=>
      have h0:yl=0:=by
       rcases Nat.eq_zero_or_pos yl with e | e
       · exact e
       · obtain⟨b,off,ha,_⟩:=Tq.2.2 e; cases ha
      subst h0;have zh:yes=[]:=List.eq_nil_of_length_eq_zero Tq.1;subst zh;have XF:=nB;have xm:=pw Aa.1 (.slice (some ⟨V2.heap.size,0,none⟩) 0 0);obtain⟨V5,tF⟩:∃V5,(V2.setCell ⟨wr.heap.size,1,none⟩ (.slice (some ⟨g1,0,none⟩) ol iR)).setCell ⟨wr.heap.size,3,none⟩ (.slice (some ⟨V2.heap.size,0,none⟩) 0 0)=V5:=⟨_,rfl⟩;have C8:V5.heap.size=V2.heap.size:=by rw[←tF]; simp
      rw[tF] at xm;obtain⟨V6,p_⟩:∃V6,V5.alloc (.cells #[] 3)=V6:=⟨_,rfl⟩;have mJ:Below V5.heap.size V5 V6:=by rw[←p_]; exact a8 _ _
      have bP:=(zD.other xm.2 tj (sY _ (Nat.le_refl _)).1 (sY _ (Nat.le_refl _)).2.1 (sY _ (Nat.le_refl _)).2.2).below mJ;have ur:=xm.1.below mJ;have en:=(ew.grown xm.2 (by simp; omega)).below mJ
      have Ea:dm V6 0 V2.heap.size 0 0 []:=by rw[←p_,←C8]; exact(jl V5 0 (Nat.zero_le _))
      obtain⟨V7,pV⟩:∃V7,V6.alloc (.cells #[.int .i64 tx,.slice (some ⟨g1,0,none⟩) ol iR,.int .i64 st,.slice (some ⟨V2.heap.size,0,none⟩) 0 0] 75)=V7:=⟨_,rfl⟩;have P2:=Hid.mk' pV;have H5:V6.heap.size=V2.heap.size+1:=by rw[←p_]; simp; omega
      obtain⟨u0,u1,u2,u3,u4,u5⟩:=bP.o.cells;obtain⟨i0,i1,i2,i3⟩:=ur.cells;have dd:Below V6.heap.size V6 V7:=by rw[←pV]; exact a8 _ _
      have xh:=bP.below dd;have Eb:i_ V6.heap.size tx st (.slice (some ⟨g1,0,none⟩) ol iR) (.slice (some ⟨V2.heap.size,0,none⟩) 0 0) V7:=by rw[←pV]; exact heap_alloc_new V6 _
      rw[H5] at Eb;have Jj:V7.heap.size=V6.heap.size+1:=by rw[←pV]; simp
      have sf:(jobs.take k).length=k:=by simp; omega
      have vL:V7.ownsRow 0 75 4 (.slice (some ⟨gj,0,none⟩) k eV) k (cellsOf q):=by have:=xh.jobs.row; rw[sf] at this; exact this
      have CB:Hid (∀j u,([.int .i64 tx,.slice (some ⟨g1,0,none⟩) ol iR,.int .i64 st,.slice (some ⟨V2.heap.size,0,none⟩) 0 0]:List Value)[j]? =some u→V7.cell? ((⟨V2.heap.size+1,0,none⟩:Addr).add j)=some u):=by
       intro j u hj;obtain⟨n0,n1,n2,n3⟩:=Eb.cells;rw[Addr.add_lit,Nat.zero_add]
       match j,hj with
       | 0,hj=>cases hj; exact n0
       | 1,hj=>cases hj; exact n1
       | 2,hj=>cases hj; exact n2
       | 3,hj=>cases hj; exact n3
      have Cq:Hid (∀u∈([.int .i64 tx,.slice (some ⟨g1,0,none⟩) ol iR,.int .i64 st,.slice (some ⟨V2.heap.size,0,none⟩) 0 0]:List Value),u.oneCell'=true):=by
       intro u hu;simp only[List.mem_cons,List.not_mem_nil,or_false] at hu;rcases hu with rfl | rfl | rfl | rfl <;> rfl
      have LA:k+1≤maxLen:=by unfold maxLen; omega
      have tV:(k+1) * 64≤140737488355328:=by omega
      have kJ:=Hid.mk' xh;have wQ:=Hid.mk' (fK ((en.below dd).mono (base':=0) (Nat.zero_le _)));have Kp:Hid (tt V7 (.slice (some ⟨V2.heap.size,0,none⟩) 0 0) []):=⟨xl.out.2.2.2,by have h9:=(Ea.below dd).2; have h8:=(Ea.below dd).1; first | (rw[h8]; exact h9) | (rw[←h8] at h9; simpa using h9)⟩
      clear xh bP Eb dd en Ea ur pV;ab (ak; rw[P2.out]; refine wpList_append_lies _ rfl (.tmp 36) (.tmp 38) 25 rfl 0 75 iJ (.agg #[.int .i64 0,.slice none 0 0,.int .i64 0,.slice none 0 0]) 4 64 Tryz.underlying25 Vi Vj Vk Vl rfl (by decide) _ _ _ rfl vL ⟨V2.heap.size+1,0,none⟩ 1 1 [.int .i64 tx,.slice (some ⟨g1,0,none⟩) ol iR,.int .i64 st,.slice (some ⟨V2.heap.size,0,none⟩) 0 0] ?e1 rfl CB.out Cq.out (by decide) LA tV (Nat.zero_le _) _ rfl ?_)
      case e1=>simp[Act.eval]
      intro g8 m9 w8 gi bY iW vd;have js:V7.grownBy w8 (some gj):=bY;have eo:([g1]++[V2.heap.size]:List Nat).Nodup:=by simp; omega
      have hx:ek.own V7 [.int .i64 tx,.slice (some ⟨g1,0,none⟩) ol iR,.int .i64 st,.slice (some ⟨V2.heap.size,0,none⟩) 0 0] (tx,ops,st,[]) ([g1]++[V2.heap.size]):=dX.2 ⟨_,_,rfl,xl.out.1,xl.out.2.1,wQ.out,Kp.out,rfl,eo⟩;have ls:∀b∈([g1]++[V2.heap.size]:List Nat),wr.heap.size≤b:=fun b hb=>by simp at hb; rcases hb with rfl | rfl <;> omega
      have hd:∀b∈([g1]++[V2.heap.size]:List Nat),b∉(Value.slice (some ⟨gj,0,none⟩) k eV).ownBlock.toList++aw q:=fun b hb hc=>by
       have h1:=ls b hb;have h2:=sD b (List.mem_cons_of_mem _ (by simpa[Value.ownBlock] using hc))
       omega
      have zF:=bz.snoc kJ.out.jobs hx hd (by rw[sf]; exact gi) bY iW (by omega)
      rw[sf,←xM.out] at zF;have m_:=kJ.out.new;have P3:w.heap.size+3≤gj:=m_ gj (by simp)
      have Gy:w.heap.size+3≤gl:=m_ gl (by simp)
      have qE:=kJ.out.ne;have zG:=kJ.out.o.grown js (by simp; omega)
      have s9:=mA zG (some ⟨g8,0,none⟩) (k+1) m9;have P4:w.heap.size+3≤g8:=by
       rcases iW with e | e
       · have:gj=g8:=by simpa[Value.ownBlock] using e
         omega
       · omega
      have lQ:=kJ.out.fp.grown js kJ.out.fp.size (fun b e=>by cases e; omega)
      have zB:=kJ.out.log.keep fun b hk=>js.block b (kJ.out.log.at_ b hk) (by
       rw[pt] at hk;simp[Value.ownBlock] at hk;subst hk;simp;intro e;exact qE (by simp[e]))
      have P5:Hid (h_ w (w8.setCell ⟨w.heap.size+1+1,3,none⟩ (.slice (some ⟨g8,0,none⟩) (k+1) m9)) n av next sure (some ⟨jb,eJ,none⟩) jn jc (some ad) ln lc (k+1) g8 m9 gl dk (jobs.take (k+1)) log (q++[([.int .i64 tx,.slice (some ⟨g1,0,none⟩) ol iR,.int .i64 st,.slice (some ⟨V2.heap.size,0,none⟩) 0 0],[g1]++[V2.heap.size])]) ql):=by
       refine⟨lQ.grown s9.2 lQ.size (fun b e=>by cases e; omega),(kJ.out.p.grown js (by simp; omega)).grown s9.2 (by simp <;> omega),(kJ.out.r.grown js (by simp; omega)).grown s9.2 (by simp <;> omega),s9.1,?_,?_,?_,?_⟩
       · refine zF.keep fun b hk=>s9.2.block b (zF.at_ b hk) ?_
         rw[a6] at hk;have:w.heap.size+3≤b:=by
          rcases List.mem_append.1 hk with h1 | h1
          · simp[Value.ownBlock] at h1; omega
          · rcases List.mem_append.1 h1 with h2 | h2
            · exact m_ b (by simp[h2])
            · have:=ls b (by simpa[aw] using h2); omega
         simp; omega
       · refine zB.keep fun b hk=>s9.2.block b (zB.at_ b hk) ?_
         rw[pt] at hk;simp[Value.ownBlock] at hk;simp; omega
       · intro b hb;rw[a6] at hb;rcases List.mem_cons.1 hb with h1 | h1
         · omega
         · rcases List.mem_cons.1 h1 with h2 | h2
           · omega
           · rcases List.mem_append.1 h2 with h3 | h3
             · exact m_ b (by simp[h3])
             · have:=ls b (by simpa[aw] using h3); omega
       · intro hb;rw[a6] at hb;have XG:=sD gl (by simp)
         rcases List.mem_cons.1 hb with h1 | h1
         · rcases iW with e | e
           · have:gj=g8:=by simpa[Value.ownBlock] using e
             exact qE (by simp[h1,this])
           · omega
         · rcases List.mem_append.1 h1 with h3 | h3
           · exact qE (by simp[h3])
           · have:=ls gl (by simpa[aw] using h3); omega
      obtain⟨y0,y1,y2,y3,y4,y5⟩:=zG.cells;have yf:=zG.fz 3;clear zF hx hd gi bY js zB lQ s9 zG kJ wQ Kp;ab fail;aA
      case rel=>exact⟨k+1,g8,m9,_,by omega,by aF,P5.out⟩
      case measure=>simp[intOf]; omega
     | some ay=>
      obtain⟨iZ,XH,XI,XJ,XK⟩:=info_parts pT;obtain⟨V3,kc⟩:∃V3,V2.setCell ⟨wr.heap.size,1,none⟩ (.slice (some ⟨g1,0,none⟩) ol iR)=V3:=⟨_,rfl⟩;have P6:V3.heap.size=V2.heap.size:=by rw[←kc]; simp
      rw[kc] at Aa zD ew m0 m1 m2 m3 Tr;obtain⟨V4,zX⟩:∃V4,V3.alloc (.cells #[] 3)=V4:=⟨_,rfl⟩;have Ec:Below V3.heap.size V3 V4:=by rw[←zX]; exact a8 _ _
      have fT:=zD.below Ec;have Ts:=Tp.out.below fT.fp;have rJ:=Aa.1.below Ec;have ej:=ew.below Ec;have P7:=jl V3 V2.heap.size (by omega)
      rw[P6,zX] at P7;have XL:V4.heap.size=V2.heap.size+1:=by rw[←zX]; simp; omega
      have Kh:=Ts.1;have PX:yl≤1099511627776:=MR;have vM:Hid (∀j u,(bg yes)[j]? =some u→V4.cell? (ay.add j)=some u):=by
       intro j u hj;have Kq:j<yes.length:=by rw[←fc]; exact(List.getElem?_eq_some_iff.1 hj).1
       obtain⟨b,off,ha,lM⟩:=Ts.2.2 (by omega)
       cases ha;rw[Addr.add_lit,lM j Kq];have:(bg yes)[j]? =some (.int .i64 yes[j]):=by simp[bg,Kq]
       rw[this] at hj;exact hj
      have XM:(bg yes).length=yl * 1:=by rw[fc]; omega
      have P8:0+yl≤maxLen:=by unfold maxLen; omega
      have P9:(0+yl) * 8≤140737488355328:=by omega
      have P_:V2.heap.size≤V4.heap.size:=by omega
      obtain⟨i0,i1,i2,i3⟩:=rJ.cells;ab (ak; refine wpList_append_own _ rfl (.tmp 30) (.tmp 32) 54 rfl V2.heap.size 3 iZ (.int .i64 0) 1 8 Tryz.underlying54 XH XI XJ XK rfl (by decide) _ _ _ rfl P7.2 ay yl yc (bg yes) rfl XM vM.out (cq _) P8 P9 P_ ?_)
      intro vy w6 BN vN Kr;have BO:¬vy=.slice none 0 0:=by simpa using Kr
      have vO:w6.ownsRow V2.heap.size 3 1 vy yl (bg yes):=by have h9:=BN; simpa[bg] using h9
      obtain⟨gy,cy,ey,hgy⟩:=qD vO BO;subst ey;have zH:V4.grownBy w6 (some V2.heap.size):=vN;have sL:=sY V2.heap.size (by omega)
      have gN:=fT.other zH (by omega) sL.1 sL.2.1 sL.2.2
      have wE:i_ wr.heap.size tx st (.slice (some ⟨g1,0,none⟩) ol iR) (.slice (some ay) yl yc) w6:=(zH.block _ rJ.lt (by simp; omega)).trans rJ
      have eD:=ej.grown zH (by simp; omega)
      have Kg:dm w6 V2.heap.size gy yl cy yes:=⟨Kh,vO⟩;have xm:=pw wE (.slice (some ⟨gy,0,none⟩) yl cy);obtain⟨V6,p_⟩:∃V6,w6.setCell ⟨wr.heap.size,3,none⟩ (.slice (some ⟨gy,0,none⟩) yl cy)=V6:=⟨_,rfl⟩;have H5:V6.heap.size=w6.heap.size:=by rw[←p_]; simp
      rw[p_] at xm;have bP:=gN.other xm.2 tj (sY _ (Nat.le_refl _)).1 (sY _ (Nat.le_refl _)).2.1 (sY _ (Nat.le_refl _)).2.2;have ur:=xm.1;have en:=eD.grown xm.2 (by simp; omega)
      have Ea:dm V6 0 gy yl cy yes:=(Kg.grown xm.2 (by simp; omega)).mono (Nat.zero_le _)
      have XN:=zH.size;obtain⟨V7,pV⟩:∃V7,V6.alloc (.cells #[.int .i64 tx,.slice (some ⟨g1,0,none⟩) ol iR,.int .i64 st,.slice (some ⟨gy,0,none⟩) yl cy] 75)=V7:=⟨_,rfl⟩;have P2:=Hid.mk' pV;obtain⟨t0,t1,t2,t3⟩:=wE.cells;have tf3:=i_.fz wE 3;clear i0 i1 i2 i3 m0 m1 m2 m3 Tr BN vN Kr BO vM P7 fT gN rJ ej eD Kg zX kc;obtain⟨u0,u1,u2,u3,u4,u5⟩:=bP.o.cells;obtain⟨v0,v1,v2,v3⟩:=ur.cells;have dd:Below V6.heap.size V6 V7:=by rw[←pV]; exact a8 _ _
      have xh:=bP.below dd;have Eb:i_ V6.heap.size tx st (.slice (some ⟨g1,0,none⟩) ol iR) (.slice (some ⟨gy,0,none⟩) yl cy) V7:=by rw[←pV]; exact heap_alloc_new V6 _
      rw[H5] at Eb;have Jj:V7.heap.size=V6.heap.size+1:=by rw[←pV]; simp
      have sf:(jobs.take k).length=k:=by simp; omega
      have vL:V7.ownsRow 0 75 4 (.slice (some ⟨gj,0,none⟩) k eV) k (cellsOf q):=by have:=xh.jobs.row; rw[sf] at this; exact this
      have CB:Hid (∀j u,([.int .i64 tx,.slice (some ⟨g1,0,none⟩) ol iR,.int .i64 st,.slice (some ⟨gy,0,none⟩) yl cy]:List Value)[j]? =some u→V7.cell? ((⟨w6.heap.size,0,none⟩:Addr).add j)=some u):=by
       intro j u hj;obtain⟨n0,n1,n2,n3⟩:=Eb.cells;rw[Addr.add_lit,Nat.zero_add]
       match j,hj with
       | 0,hj=>cases hj; exact n0
       | 1,hj=>cases hj; exact n1
       | 2,hj=>cases hj; exact n2
       | 3,hj=>cases hj; exact n3
      have Cq:Hid (∀u∈([.int .i64 tx,.slice (some ⟨g1,0,none⟩) ol iR,.int .i64 st,.slice (some ⟨gy,0,none⟩) yl cy]:List Value),u.oneCell'=true):=by
       intro u hu;simp only[List.mem_cons,List.not_mem_nil,or_false] at hu;rcases hu with rfl | rfl | rfl | rfl <;> rfl
      have LA:k+1≤maxLen:=by unfold maxLen; omega
      have tV:(k+1) * 64≤140737488355328:=by omega
      have kJ:=Hid.mk' xh;have wQ:=Hid.mk' (fK ((en.below dd).mono (base':=0) (Nat.zero_le _)));have Kp:Hid (tt V7 (.slice (some ⟨gy,0,none⟩) yl cy) yes):=⟨xl.out.2.2.2,by have h9:=(Ea.below dd).2; have h8:=(Ea.below dd).1; first | (rw[h8]; exact h9) | (rw[←h8] at h9; simpa using h9)⟩
      clear xh bP Eb dd en Ea ur pV;ab (ak; rw[P2.out]; refine wpList_append_lies _ rfl (.tmp 36) (.tmp 38) 25 rfl 0 75 iJ (.agg #[.int .i64 0,.slice none 0 0,.int .i64 0,.slice none 0 0]) 4 64 Tryz.underlying25 Vi Vj Vk Vl rfl (by decide) _ _ _ rfl vL ⟨w6.heap.size,0,none⟩ 1 1 [.int .i64 tx,.slice (some ⟨g1,0,none⟩) ol iR,.int .i64 st,.slice (some ⟨gy,0,none⟩) yl cy] ?e1 rfl CB.out Cq.out (by decide) LA tV (Nat.zero_le _) _ rfl ?_)
      case e1=>simp[Act.eval]
      intro g8 m9 w8 gi bY iW vd;have js:V7.grownBy w8 (some gj):=bY;have eo:([g1]++[gy]:List Nat).Nodup:=by simp; omega
      have hx:ek.own V7 [.int .i64 tx,.slice (some ⟨g1,0,none⟩) ol iR,.int .i64 st,.slice (some ⟨gy,0,none⟩) yl cy] (tx,ops,st,yes) ([g1]++[gy]):=dX.2 ⟨_,_,rfl,xl.out.1,xl.out.2.1,wQ.out,Kp.out,rfl,eo⟩;have ls:∀b∈([g1]++[gy]:List Nat),wr.heap.size≤b:=fun b hb=>by simp at hb; rcases hb with rfl | rfl <;> omega
      have hd:∀b∈([g1]++[gy]:List Nat),b∉(Value.slice (some ⟨gj,0,none⟩) k eV).ownBlock.toList++aw q:=fun b hb hc=>by
       have h1:=ls b hb;have h2:=sD b (List.mem_cons_of_mem _ (by simpa[Value.ownBlock] using hc))
       omega
      have zF:=bz.snoc kJ.out.jobs hx hd (by rw[sf]; exact gi) bY iW (by omega)
      rw[sf,←xM.out] at zF;have m_:=kJ.out.new;have P3:w.heap.size+3≤gj:=m_ gj (by simp)
      have Gy:w.heap.size+3≤gl:=m_ gl (by simp)
      have qE:=kJ.out.ne;have zG:=kJ.out.o.grown js (by simp; omega)
      have s9:=mA zG (some ⟨g8,0,none⟩) (k+1) m9;have P4:w.heap.size+3≤g8:=by
       rcases iW with e | e
       · have:gj=g8:=by simpa[Value.ownBlock] using e
         omega
       · omega
      have lQ:=kJ.out.fp.grown js kJ.out.fp.size (fun b e=>by cases e; omega)
      have zB:=kJ.out.log.keep fun b hk=>js.block b (kJ.out.log.at_ b hk) (by
       rw[pt] at hk;simp[Value.ownBlock] at hk;subst hk;simp;intro e;exact qE (by simp[e]))
      have P5:Hid (h_ w (w8.setCell ⟨w.heap.size+1+1,3,none⟩ (.slice (some ⟨g8,0,none⟩) (k+1) m9)) n av next sure (some ⟨jb,eJ,none⟩) jn jc (some ad) ln lc (k+1) g8 m9 gl dk (jobs.take (k+1)) log (q++[([.int .i64 tx,.slice (some ⟨g1,0,none⟩) ol iR,.int .i64 st,.slice (some ⟨gy,0,none⟩) yl cy],[g1]++[gy])]) ql):=by
       refine⟨lQ.grown s9.2 lQ.size (fun b e=>by cases e; omega),(kJ.out.p.grown js (by simp; omega)).grown s9.2 (by simp <;> omega),(kJ.out.r.grown js (by simp; omega)).grown s9.2 (by simp <;> omega),s9.1,?_,?_,?_,?_⟩
       · refine zF.keep fun b hk=>s9.2.block b (zF.at_ b hk) ?_
         rw[a6] at hk;have:w.heap.size+3≤b:=by
          rcases List.mem_append.1 hk with h1 | h1
          · simp[Value.ownBlock] at h1; omega
          · rcases List.mem_append.1 h1 with h2 | h2
            · exact m_ b (by simp[h2])
            · have:=ls b (by simpa[aw] using h2); omega
         simp; omega
       · refine zB.keep fun b hk=>s9.2.block b (zB.at_ b hk) ?_
         rw[pt] at hk;simp[Value.ownBlock] at hk;simp; omega
       · intro b hb;rw[a6] at hb;rcases List.mem_cons.1 hb with h1 | h1
         · omega
         · rcases List.mem_cons.1 h1 with h2 | h2
           · omega
           · rcases List.mem_append.1 h2 with h3 | h3
             · exact m_ b (by simp[h3])
             · have:=ls b (by simpa[aw] using h3); omega
       · intro hb;rw[a6] at hb;have XG:=sD gl (by simp)
         rcases List.mem_cons.1 hb with h1 | h1
         · rcases iW with e | e
           · have:gj=g8:=by simpa[Value.ownBlock] using e
             exact qE (by simp[h1,this])
           · omega
         · rcases List.mem_append.1 h1 with h3 | h3
           · exact qE (by simp[h3])
           · have:=ls gl (by simpa[aw] using h3); omega
      obtain⟨y0,y1,y2,y3,y4,y5⟩:=zG.cells;have yf:=zG.fz 3;clear zF hx hd gi bY js zB lQ s9 zG kJ wQ Kp;ab fail;aA
      case rel=>exact⟨k+1,g8,m9,_,by omega,by aF,P5.out⟩
      case measure=>simp[intOf]; omega
   · have CU:¬(k:Int)<(jn:Int):=by omega
     have XO:k=jn:=by omega
     subst XO;obtain⟨o0,o1,o2,o3,o4,o5⟩:=hA.o.cells;obtain⟨r0,r1,r2,r3,r4,r5⟩:=hA.r.cells;have f0:=hA.r.fz 0;have f1:=hA.r.fz 1;have f2:=hA.r.fz 2;have f3:=hA.r.fz 3;have f4:=hA.r.fz 4;have f5:=hA.r.fz 5;have hz:=px hA.r n av next sure (some ⟨gj,0,none⟩) k eV (some ⟨gl,0,none⟩) ln dk;have l8:=hz.1.cells;have Qa:=Hid.mk' l8;have sf:jobs.take k=jobs:=List.take_of_length_le (by omega)
     have kU:=hA.new;have XP:=Hid.mk' (show bz 75 ek _ (.slice (some ⟨gj,0,none⟩) k eV) jobs q from by
      have h1:=hA.jobs;rw[sf] at h1;exact h1.keep fun b hk=>hz.2.block b (h1.at_ b hk) (by
       have:=kU b (List.mem_cons_of_mem _ (by simpa[Value.ownBlock] using hk))
       simp; omega))
     have Rm:=Hid.mk' (hA.log.keep fun b hk=>hz.2.block b (hA.log.at_ b hk) (by
      rw[pt] at hk;simp[Value.ownBlock] at hk;have:=kU gl (by simp)
      simp; omega))
     have XQ:=Hid.mk' (hA.fp.grown hz.2 hA.fp.size (fun b e=>by cases e; omega))
     have CB:Hid (∀b∈gl::gj::aw q,w.heap.size≤b):=fun b hb=>by have:=kU b hb; omega
     have Rn:=Hid.mk' hA.ne;clear hz l8 hA kU;ab fail;have l8:=Qa.out;refine bodyPost_ret (v:=.agg #[.int .i64 n,.int .i64 av,.int .i64 next,.slice (some ⟨gj,0,none⟩) k eV,.slice (some ⟨gl,0,none⟩) ln dk,.int .i64 sure]) ?_ rfl (show kI w k ln (n,av,next,jobs,log,sure) _ _ from⟨gj,eV,gl,dk,q,ql,rfl,XP.out,Rm.out,CB.out,Rn.out,XQ.out⟩)
     simp[results,Tryz.results56,go_sem,l8.1,l8.2.1,l8.2.2.1,l8.2.2.2.1,l8.2.2.2.2.1,l8.2.2.2.2.2]
end cos
end Go.Proofs.YtmibabclefgljaaGreat
