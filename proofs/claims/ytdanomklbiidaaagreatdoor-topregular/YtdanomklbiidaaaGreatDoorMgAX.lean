import Derived.Test.YtdanomklbiidaaaGreatDoorMgAW
import Derived.Test.YtdanomklbiidaaaGreatDoorMgAB
import Derived.Maps.AppendAt
import Derived.Test.YtdanomklbiidaaaGreatDoorWr10
import Derived.Test.YtdanomklbiidaaaGreatDoorMgAP
namespace Go.Proofs.YtdanomklbiidaaaGreatDoor
open Go Go.RowKit
theorem rowsIn_wd {P:Program} {n:Nat} {row:String} {args:Array Value} {w:World} {R:Value→World→Prop} (h:Rows P row args w R):RowsIn Fence.wide n P row args w R:=by
 intro c cs _
 obtain ⟨v,w',h1,h2⟩:=h c cs
 exact ⟨v,w',h1,stepsIn_wide.2 h2⟩
theorem wpOp_wd {P:Program} {n:Nat} {ops:Array Oper} {K0:Act→World→Prop} {Q:Exit→Act→World→Prop} {K K':Act→World→Prop} {i:Nat} {a:Act} {w:World} (hd:∀o,ops[i]?=some o→∀c,o.op≠.defer c)
  (hK:∀a w,K a w→K' a w) (h:wpOp P ops (Nrm K0) i K a w):wpOpIn Fence.wide n P ops Q i K' a w:=by
 unfold wpOp at h
 unfold wpOpIn
 cases ho:ops[i]? with
 | none=>
  rw [ho] at h
  exact hK _ _ h
 | some o=>
  rw [ho] at h
  simp only at h ⊢
  by_cases hw:Region.wanted o (yielded ops a.tmps)=true
  ·rw [if_pos hw] at h ⊢
   rcases h with h | ⟨_,h⟩
   ·refine ⟨fun f _=>trivial,?_⟩
    have hsem:o.semAt Fence.wide.round a.eval=execOp a.eval o:=Oper.semAt_plain Fence.wide _ _ (hd o ho)
    rw [hsem]
    unfold Oper.wp at h
    generalize (execOp a.eval o).run P w=r at *
    cases r with
    | ok nx w'=>
     cases nx with
     | value v=>exact hK _ _ h
     | skip=>exact hK _ _ h
     | defer d=>exact hK _ _ h
     | enter f args=>
      refine ⟨fun hx=>(by cases hx),?_⟩
      refine callsIn_wide.2 (Calls.mono h ?_)
      intro e w'' he
      cases e with
      | returned v=>exact hK _ _ he
      | panicked c=>exact he.elim
      | outgrown=>exact (nrm_lets he).elim
     | row row args=>
      refine ⟨fun hx=>(by cases hx),rowsIn_wd (Rows.mono h fun v w'' he=>hK _ _ he)⟩
     | _=>exact h.elim
    | halt x w'=>
     cases x <;> exact h.elim
   ·exact (nrm_lets h).elim
  ·rw [if_neg hw] at h ⊢
   exact ⟨fun f _=>trivial,hK _ _ h⟩
theorem wpAnyIn_wd {P:Program} {n:Nat} {md:Region.Mode} {ops:Array Oper} {S:World→Prop} {K:Act→World→Prop} {Q:Exit→Act→World→Prop} (hd:∀(i:Nat) (o:Oper),ops[i]?=some o→∀c,o.op≠.defer c) (hQ:∀a w,K a w→Q .normal a w) :
  ∀(fuel:Nat) (listed:Array Bool) (a:Act) (w:World),wpAnyH P md ops (Nrm K) S fuel listed a w→wpAnyIn Fence.wide n P md ops Q fuel listed a w
 | 0,_,_,_,h=>⟨h.1,hQ _ _ h.2⟩
 | fuel+1,_,_,_,h=>⟨fun hr=>hQ _ _ (h.1 hr),fun i hi=>wpOp_wd (hd i) (fun a' w' h'=>wpAnyIn_wd hd hQ fuel _ a' w' h'.2) (h.2 i hi)⟩
theorem wpIn_region_wd {P:Program} {n id:Nat} {ops:Array Oper} (S:World→Prop) {K:Act→World→Prop} {Q:Exit→Act→World→Prop} {a:Act} {w:World} (hm:P.follows .mixedOrders=true) (hd:∀(i:Nat) (o:Oper),ops[i]?=some o→∀c,o.op≠.defer c) (hQ:∀a w,K a w→Q .normal a w)
  (h:wpAnyH P .any ops (Nrm K) S ops.size (Array.replicate ops.size false) a w.drew):(Code.region id ops true).wpIn Fence.wide n P Q a w:=
 wpIn_region_any hm (wpAnyIn_wd hd hQ _ _ _ _ h)
end Go.Proofs.YtdanomklbiidaaaGreatDoor

namespace Go.Proofs.YtdanomklbiidaaaGreatDoor
open Go.RowKit Go.Shelf Lin
attribute [local go_sem] Oper.semAt_some
structure Inw (m' R:List (List Int)):Prop where
 mem:∀r,r∈m'↔r∈R
 asc:SAsc m'
theorem good_of {d:Nat} {P P':List (List Int)} (hg:Good d P) (hm:∀r,r∈P'↔r∈P) (hl:P'.length≤P.length):Good d P':=by
 have hbox:Box d 30 P':=fun y hy=>hg.box y ((hm y).1 hy)
 have hf:(pickL d (diffL P')).length=d:=full_of_span (fun y hy=>(hbox y hy).1) (fun c hc=>good_span hg c fun y hy z hz=>hc y ((hm y).2 hy) z ((hm z).2 hz))
 have h1:(pickL d (diffL P')).length≤(diffL P').length:=pickL_len _ _
 rw [diffL_length] at h1
 have:=hg.d1
 exact ⟨hg.d1,hg.dm,by omega,by have:=hg.n24; omega,hbox,hf⟩
theorem one_list {y:List Int} (h:y.length=1):y=[y.getD 0 0]:=by
 match y,h with
 | [a],_=>rfl
theorem line_ends {P:List (List Int)} (hg:Good 1 P) (hs:SAsc P) {y:List Int} (hy:y∈P):(P.getD 0 []).getD 0 0≤y.getD 0 0∧y.getD 0 0≤(P.getD (P.length-1) []).getD 0 0:=by
 have hn:=hg.n2
 have hlen:∀i,(h:i < P.length)→(P[i]).length=1:=fun i h=>(hg.box _ (List.getElem_mem h)).1
 have hlt:∀i j,(hi:i < P.length)→(hj:j < P.length)→i < j→(P[i]).getD 0 0 < (P[j]).getD 0 0:=fun i j hi hj hij=>by
  have h:=List.pairwise_iff_getElem.1 hs i j hi hj hij
  rw [one_list (hlen i hi),one_list (hlen j hj)] at h
  simp only [cmpL] at h
  by_cases h1:(P[i]).getD 0 0 < (P[j]).getD 0 0
  ·exact h1
  ·rw [if_neg h1] at h
   split at h <;> omega
 obtain ⟨k,hk,rfl⟩:=List.getElem_of_mem hy
 have e0:P.getD 0 []=P[0]'(by omega):=by simp [show 0 < P.length by omega]
 have e1:P.getD (P.length-1) []=P[P.length-1]'(by omega):=by simp [show P.length-1 < P.length by omega]
 rw [e0,e1]
 constructor
 ·by_cases h:k=0
  ·subst h; exact Int.le_refl _
  ·have:=hlt 0 k (by omega) hk (by omega); omega
 ·by_cases h:k=P.length-1
  ·subst h; exact Int.le_refl _
  ·have:=hlt k (P.length-1) hk (by omega) (by omega); omega
theorem dot_one (c:Nat→Int) (y:List Int):dot 1 c (V y)=c 0*y.getD 0 0:=by simp [dot,sumN,V]
def lineR (P:List (List Int)):List (List Int):=[[-1,-(P.getD 0 []).getD 0 0],[1,(P.getD (P.length-1) []).getD 0 0]]
theorem line_rows {P:List (List Int)} (hg:Good 1 P) (hs:SAsc P) (r:List Int):r∈lineR P↔r∈rowsC P [] 1 P:=by
 have hn:=hg.n2
 have hm0:P.getD 0 []∈P:=by simp [show 0 < P.length by omega]
 have hm1:P.getD (P.length-1) []∈P:=by simp [show P.length-1 < P.length by omega]
 have hpar:∀u c:Nat→Int,Par 1 u c:=fun u c i j hi hj=>by
  have h1:i=0:=by omega
  have h2:j=0:=by omega
  subst h1 h2
  grind
 have hl1:low [(-1:Int)]=[-1]:=by decide
 have hl2:low [(1:Int)]=[1]:=by decide
 unfold lineR
 simp only [List.mem_cons,List.not_mem_nil,or_false]
 constructor
 ·rintro (rfl | rfl)
  ·have h:=wr_row hg hm0 (c:=fun _=>-1) ⟨0,by omega,by decide⟩ (fun y hy=>by rw [dot_one,dot_one]; have:=(line_ends hg hs hy).1; omega) (fun u _=>hpar _ _)
   have e:(List.range 1).map (fun _=>(-1:Int))=[-1]:=rfl
   rw [e,hl1] at h
   have hd:dotL [-1] (P.getD 0 [])=-(P.getD 0 []).getD 0 0:=by
    rw [one_list (hg.box _ hm0).1]; simp [dotL,sumN]
   rw [hd] at h
   exact h
  ·have h:=wr_row hg hm1 (c:=fun _=>1) ⟨0,by omega,by decide⟩ (fun y hy=>by rw [dot_one,dot_one]; have:=(line_ends hg hs hy).2; omega) (fun u _=>hpar _ _)
   have e:(List.range 1).map (fun _=>(1:Int))=[1]:=rfl
   rw [e,hl2] at h
   have hd:dotL [1] (P.getD (P.length-1) [])=(P.getD (P.length-1) []).getD 0 0:=by
    rw [one_list (hg.box _ hm1).1]; simp [dotL,sumN]
   rw [hd] at h
   exact h
 ·intro hr
  obtain ⟨hrl,hgc⟩:=row_prim hg hr
  have hfit:=rowsC_fit hg.box hg.d1 (by decide) (fun _=>Iff.rfl) hr
  obtain ⟨t,ht,ht0,_,_⟩:=row_one (fun y hy=>(hg.box y hy).1) hg.d1 hr
  obtain ⟨hyP,hye⟩:=ht _ ht0
  match r,hrl with
  | [p,q],_=>
   have e1:([p,q]:List Int).getD 1 0=q:=rfl
   have e0:V [p,q] 0=p:=rfl
   rw [e1,dot_one,e0] at hye
   have hg1:p.natAbs=1:=by
    have:([p,q]:List Int).take 1=[p]:=rfl
    rw [this] at hgc
    simpa [gc,gcf] using hgc
   have ha:=hfit.all _ hm0
   have hb:=hfit.all _ hm1
   rw [e1,dot_one,e0] at ha hb
   have hy:=line_ends hg hs hyP
   have hp:p=1∨p=-1:=by omega
   rcases hp with rfl | rfl
   ·right
    have:q=(P.getD (P.length-1) []).getD 0 0:=by omega
    rw [this]
   ·left
    have:q=-(P.getD 0 []).getD 0 0:=by omega
    rw [this]
theorem line_asc (P:List (List Int)):SAsc (lineR P):=by
 unfold lineR SAsc
 simp [cmpL]
theorem own_built {w:World} {g:Nat} {a b:Value} {e:TypeId} {B:Nat} (h:w.heap[g]?=some (.cells #[a,b] e (0,0))) (hB:B≤g):w.ownsRow B e 1 (.slice (some ⟨g,0,none⟩) 2 2) 2 [a,b]:=
 ⟨by simp,Or.inr ⟨g,2,#[a,b],rfl,hB,h,Nat.le_refl _,by unfold maxLen; omega,by simp,by simp⟩⟩
theorem three_heap (W0:World) (A B C:Obj):(((W0.alloc A).alloc B).alloc C).drew.heap[W0.heap.size]?=some A∧(((W0.alloc A).alloc B).alloc C).drew.heap[W0.heap.size+1]?=some B∧(((W0.alloc A).alloc B).alloc C).drew.heap[W0.heap.size+1+1]?=some C:=by
 have e:(((W0.alloc A).alloc B).alloc C).drew.heap=((W0.heap.push A).push B).push C:=rfl
 rw [e]
 simp only [Array.getElem?_push,Array.size_push]
 refine ⟨?_,?_,?_⟩
 ·rw [if_neg (by omega),if_neg (by omega),if_pos trivial]
 ·rw [if_neg (by omega),if_pos trivial]
 ·rw [if_pos trivial]
theorem line_fr {w W:World} {g1 g2 g3:Nat} {a b:Int} (h1:W.heap[g1]?=some (.cells #[.int .i64 (-1),.int .i64 a] 3 (0,0))) (h2:W.heap[g2]?=some (.cells #[.int .i64 1,.int .i64 b] 3 (0,0)))
  (h3:W.heap[g3]?=some (.cells #[.slice (some ⟨g1,0,none⟩) 2 2,.slice (some ⟨g2,0,none⟩) 2 2] 22 (0,0))) (hB:w.heap.size≤g3):Fr w.heap.size 22 3 W (.slice (some ⟨g3,0,none⟩) 2 2) [[-1,a],[1,b]]:=by
 refine ⟨[.slice (some ⟨g1,0,none⟩) 2 2,.slice (some ⟨g2,0,none⟩) 2 2],rfl,own_built h3 hB,fun i hi=>?_⟩
 match i,hi with
 | 0,_=>exact (Sl.own (own_built (B:=0) h1 (Nat.zero_le _)))
 | 1,_=>exact (Sl.own (own_built (B:=0) h2 (Nat.zero_le _)))
set_option maxRecDepth 100000 in
set_option maxHeartbeats 8000000 in
theorem rowsAround1_any (P:List (List Int)) (v:Value) (w:World) (hv:Mat w.heap.size 22 3 w v P) (hg:Good 1 P) :
  Calls Tryz.prog 56 #[v] w fun r w'=>∃u,r=.returned u∧Fr w.heap.size 22 3 w' u (lineR P)∧Below w.heap.size w w':=by
 obtain ⟨pb,pf,pc,p1,rfl,hlc,hpc,hp1'⟩:=mat_cell hv (k:=0) (by have:=hg.n2; omega)
 have h2:=hg.n2
 have h24:=hg.n24
 obtain ⟨_,_,_,q1,hqq,_,hqc,hq1'⟩:=mat_cell hv (k:=P.length-1) (by omega)
 simp only [Value.slice.injEq,Option.some.injEq,Addr.mk.injEq,and_true,true_and] at hqq
 obtain ⟨⟨rfl,rfl⟩,rfl⟩:=hqq
 obtain ⟨xb,xf,xc,rfl,hx1,hx2⟩:=sl_cell hp1' (k:=0) (by rw [(hg.box _ (by simp [show 0 < P.length by omega])).1]; omega)
 obtain ⟨yb,yf,yc,rfl,hy1,hy2⟩:=sl_cell hq1' (k:=0) (by rw [(hg.box _ (by simp [show P.length-1 < P.length by omega])).1]; omega)
 have hl0:(P.getD 0 []).length=1:=(hg.box _ (by simp [show 0 < P.length by omega])).1
 have hl1:(P.getD (P.length-1) []).length=1:=(hg.box _ (by simp [show P.length-1 < P.length by omega])).1
 have HLR:Hid (lineR P=[[-1,-(P.getD 0 []).getD 0 0],[1,(P.getD (P.length-1) []).getD 0 0]]):=rfl
 have ba:=(hg.box _ (show P.getD 0 []∈P by simp [show 0 < P.length by omega])).2 ((P.getD 0 []).getD 0 0) (getD_mem (by omega))
 have bb:=(hg.box _ (show P.getD (P.length-1) []∈P by simp [show P.length-1 < P.length by omega])).2 ((P.getD (P.length-1) []).getD 0 0) (getD_mem (by omega))
 rw [hl0] at hpc
 rw [hl1] at hqc
 rw [Nat.add_zero] at hpc hx2 hy2
 obtain ⟨L,hL⟩:∃L,L=P.length-1:=⟨_,rfl⟩
 rw [←hL] at hqc hy2 HLR bb
 have hLI:(P.length:Int)-1=(L:Int):=by omega
 have hLlt:(L:Int) < (P.length:Int):=by omega
 have hLltN:L < P.length:=by omega
 obtain ⟨a,ha⟩:∃a,a=(P.getD 0 []).getD 0 0:=⟨_,rfl⟩
 obtain ⟨b,hb⟩:∃b,b=(P.getD L []).getD 0 0:=⟨_,rfl⟩
 rw [←ha] at hx2 HLR ba
 rw [←hb] at hy2 HLR bb
 obtain ⟨W0,hW0⟩:∃W0,W0=w.alloc (.cells #[.slice (some ⟨pb,pf,none⟩) P.length pc] 23):=⟨_,rfl⟩
 have hb0:Below w.heap.size w W0:=by rw [hW0]; exact alloc_keep _ _
 have hs0:W0.heap.size=w.heap.size+1:=by rw [hW0]; exact size_alloc _ _
 have k0:W0.cell? ⟨w.heap.size,0,none⟩=some (.slice (some ⟨pb,pf,none⟩) P.length pc):=by rw [hW0]; simp
 have k1:W0.cell? ⟨pb,pf,none⟩=some (.slice (some ⟨xb,xf,none⟩) 1 xc):=(hb0.cell (lt_of_cell hpc)).trans hpc
 have k2:W0.cell? ⟨xb,xf,none⟩=some (.int .i64 a):=(hb0.cell (lt_of_cell hx2)).trans hx2
 have k3:W0.cell? ⟨pb,pf+L,none⟩=some (.slice (some ⟨yb,yf,none⟩) 1 yc):=(hb0.cell (lt_of_cell hqc)).trans hqc
 have k4:W0.cell? ⟨yb,yf,none⟩=some (.int .i64 b):=(hb0.cell (lt_of_cell hy2)).trans hy2
 have HS:Hid (∀X,Below W0.heap.size W0 X→X.cell? ⟨w.heap.size,0,none⟩=some (.slice (some ⟨pb,pf,none⟩) P.length pc)∧X.cell? ⟨pb,pf,none⟩=some (.slice (some ⟨xb,xf,none⟩) 1 xc)∧X.cell? ⟨xb,xf,none⟩=some (.int .i64 a)∧X.cell? ⟨pb,pf+L,none⟩=some (.slice (some ⟨yb,yf,none⟩) 1 yc)∧X.cell? ⟨yb,yf,none⟩=some (.int .i64 b)):=fun X hX=>
  ⟨(hX.cell (lt_of_cell k0)).trans k0,(hX.cell (lt_of_cell k1)).trans k1,(hX.cell (lt_of_cell k2)).trans k2,(hX.cell (lt_of_cell k3)).trans k3,(hX.cell (lt_of_cell k4)).trans k4⟩
 have HB0:Hid (Below w.heap.size w W0):=hb0
 have HS0:Hid (W0.heap.size=w.heap.size+1):=hs0
 clear hv hg hp1' hq1' hpc hqc hx2 hy2 hl0 hl1 ha hb hb0 hs0 hx1 hy1 hL
 generalize P.length=n at *
 refine callsIn_wide (n:=0).1 ?_
 refine callsIn_of_wp_marks Tryz.func56 rfl trivial ?_ rfl
 simp only [Tryz.ntmps56,List.size_toArray,List.length_cons,List.length_nil,Nat.reduceAdd,Nat.reduceSub,Array.replicate_succ,Array.replicate_zero,List.push_toArray,List.append_toArray,List.nil_append,List.cons_append]
 rw [hW0] at k0 k1 k2 k3 k4
 gi_upto_region 3 with fail
 rw [←hW0] at k0 k1 k2 k3 k4 ⊢
 clear hW0
 have HBD:Hid (Below W0.heap.size W0 W0.drew):=(Below.refl _ _).drew
 have hS:=HS.out _ HBD.out
 refine wpIn_region_wd (fun w'=>w'.cell? ⟨w.heap.size,0,none⟩=some (.slice (some ⟨pb,pf,none⟩) n pc)∧w'.cell? ⟨pb,pf,none⟩=some (.slice (some ⟨xb,xf,none⟩) 1 xc)∧w'.cell? ⟨xb,xf,none⟩=some (.int .i64 a)∧w'.cell? ⟨pb,pf+L,none⟩=some (.slice (some ⟨yb,yf,none⟩) 1 yc)∧w'.cell? ⟨yb,yf,none⟩=some (.int .i64 b)) (by kernel_rfl) (no_defer (by kernel_rfl)) (fun a w h=>h) ?_
 have hHeld:=hS
 have hwa:IntKind.i64.wrap (-a)=-a:=by rw [IntWalk.i64_left]; exact IntWalk.wrap64_in _ ⟨by omega,by omega⟩
 have hwL:IntKind.i64.wrap (L:Int)=(L:Int):=by rw [IntWalk.i64_left]; exact IntWalk.wrap64_in _ ⟨by omega,by omega⟩
 clear k0 k1 k2 k3 k4 hS
 refine wpAnyH_tk (i:=0) (d:=12) (v:=.slice (some ⟨pb,pf,none⟩) n pc) rfl rfl (by kernel_rfl) (by kernel_rfl) (by kernel_rfl) (fun _ _ _ h=>h) (.inl ⟨by rfl,by (intro wq hSw; (try dsimp only at hSw); go_simp; (try (first | rfl | omega)))⟩) hHeld ?_
 simp only [Act.put,List.setIfInBounds_toArray,List.set_cons_zero,List.set_cons_succ]
 refine wpAnyH_tk (i:=1) (d:=13) (v:=.pointer (some ⟨pb,pf,none⟩)) rfl rfl (by kernel_rfl) (by kernel_rfl) (by kernel_rfl) (fun _ _ _ h=>h) (.inl ⟨by rfl,by (intro wq hSw; (try dsimp only at hSw); go_simp; (try (first | rfl | omega)))⟩) hHeld ?_
 simp only [Act.put,List.setIfInBounds_toArray,List.set_cons_zero,List.set_cons_succ]
 refine wpAnyH_tk (i:=2) (d:=14) (v:=.slice (some ⟨xb,xf,none⟩) 1 xc) rfl rfl (by kernel_rfl) (by kernel_rfl) (by kernel_rfl) (fun _ _ _ h=>h) (.inl ⟨by rfl,by (intro wq hSw; (try dsimp only at hSw); go_simp; (try (first | rfl | omega)))⟩) hHeld ?_
 simp only [Act.put,List.setIfInBounds_toArray,List.set_cons_zero,List.set_cons_succ]
 refine wpAnyH_tk (i:=3) (d:=15) (v:=.pointer (some ⟨xb,xf,none⟩)) rfl rfl (by kernel_rfl) (by kernel_rfl) (by kernel_rfl) (fun _ _ _ h=>h) (.inl ⟨by rfl,by (intro wq hSw; (try dsimp only at hSw); go_simp; (try (first | rfl | omega)))⟩) hHeld ?_
 simp only [Act.put,List.setIfInBounds_toArray,List.set_cons_zero,List.set_cons_succ]
 refine wpAnyH_tk (i:=4) (d:=16) (v:=.int .i64 a) rfl rfl (by kernel_rfl) (by kernel_rfl) (by kernel_rfl) (fun _ _ _ h=>h) (.inl ⟨by rfl,by (intro wq hSw; (try dsimp only at hSw); go_simp; (try (first | rfl | omega)))⟩) hHeld ?_
 simp only [Act.put,List.setIfInBounds_toArray,List.set_cons_zero,List.set_cons_succ]
 refine wpAnyH_tk (i:=5) (d:=17) (v:=.int .i64 (-a)) rfl rfl (by kernel_rfl) (by kernel_rfl) (by kernel_rfl) (fun _ _ _ h=>h) (.inl ⟨by rfl,by (intro wq hSw; (try dsimp only at hSw); go_simp; (try (first | rfl | omega)))⟩) hHeld ?_
 simp only [Act.put,List.setIfInBounds_toArray,List.set_cons_zero,List.set_cons_succ]
 refine wpAnyH_tk (i:=7) (d:=19) (v:=.slice (some ⟨pb,pf,none⟩) n pc) rfl rfl (by kernel_rfl) (by kernel_rfl) (by kernel_rfl) (fun _ _ _ h=>h) (.inl ⟨by rfl,by (intro wq hSw; (try dsimp only at hSw); go_simp; (try (first | rfl | omega)))⟩) hHeld ?_
 simp only [Act.put,List.setIfInBounds_toArray,List.set_cons_zero,List.set_cons_succ]
 refine wpAnyH_tk (i:=8) (d:=20) (v:=.slice (some ⟨pb,pf,none⟩) n pc) rfl rfl (by kernel_rfl) (by kernel_rfl) (by kernel_rfl) (fun _ _ _ h=>h) (.inl ⟨by rfl,by (intro wq hSw; (try dsimp only at hSw); go_simp; (try (first | rfl | omega)))⟩) hHeld ?_
 simp only [Act.put,List.setIfInBounds_toArray,List.set_cons_zero,List.set_cons_succ]
 refine wpAnyH_tk (i:=9) (d:=21) (v:=.int .i64 n) rfl rfl (by kernel_rfl) (by kernel_rfl) (by kernel_rfl) (fun _ _ _ h=>h) (.inl ⟨by rfl,by (intro wq hSw; (try dsimp only at hSw); go_simp; (try (first | rfl | omega)))⟩) hHeld ?_
 simp only [Act.put,List.setIfInBounds_toArray,List.set_cons_zero,List.set_cons_succ]
 refine wpAnyH_tk (i:=10) (d:=22) (v:=.int .i64 L) rfl rfl (by kernel_rfl) (by kernel_rfl) (by kernel_rfl) (fun _ _ _ h=>h) (.inl ⟨by rfl,by (intro wq hSw; (try dsimp only at hSw); go_simp; (try (first | rfl | omega)))⟩) hHeld ?_
 simp only [Act.put,List.setIfInBounds_toArray,List.set_cons_zero,List.set_cons_succ]
 refine wpAnyH_tk (i:=11) (d:=23) (v:=.pointer (some ⟨pb,pf+L,none⟩)) rfl rfl (by kernel_rfl) (by kernel_rfl) (by kernel_rfl) (fun _ _ _ h=>h) (.inl ⟨by rfl,by (intro wq hSw; (try dsimp only at hSw); go_simp; (try (first | rfl | omega)))⟩) hHeld ?_
 simp only [Act.put,List.setIfInBounds_toArray,List.set_cons_zero,List.set_cons_succ]
 refine wpAnyH_tk (i:=12) (d:=24) (v:=.slice (some ⟨yb,yf,none⟩) 1 yc) rfl rfl (by kernel_rfl) (by kernel_rfl) (by kernel_rfl) (fun _ _ _ h=>h) (.inl ⟨by rfl,by (intro wq hSw; (try dsimp only at hSw); go_simp; (try (first | rfl | omega)))⟩) hHeld ?_
 simp only [Act.put,List.setIfInBounds_toArray,List.set_cons_zero,List.set_cons_succ]
 refine wpAnyH_tk (i:=13) (d:=25) (v:=.pointer (some ⟨yb,yf,none⟩)) rfl rfl (by kernel_rfl) (by kernel_rfl) (by kernel_rfl) (fun _ _ _ h=>h) (.inl ⟨by rfl,by (intro wq hSw; (try dsimp only at hSw); go_simp; (try (first | rfl | omega)))⟩) hHeld ?_
 simp only [Act.put,List.setIfInBounds_toArray,List.set_cons_zero,List.set_cons_succ]
 refine wpAnyH_tk (i:=14) (d:=26) (v:=.int .i64 b) rfl rfl (by kernel_rfl) (by kernel_rfl) (by kernel_rfl) (fun _ _ _ h=>h) (.inl ⟨by rfl,by (intro wq hSw; (try dsimp only at hSw); go_simp; (try (first | rfl | omega)))⟩) hHeld ?_
 simp only [Act.put,List.setIfInBounds_toArray,List.set_cons_zero,List.set_cons_succ]
 refine wpAnyH_ready (rs:=[6,15]) (by kernel_rfl) (by simp) ?_
 refine ready_tk (i:=6) rfl (by rfl) (fun K hK=>?_) (ready_tk (i:=15) rfl (by rfl) (fun K hK=>?_) AllReadyH.nil)
 ·go_simp
  refine hK.out _ _ (HS.out _ (by repeat first | exact Below.refl _ _ | refine Below.drew ?_ | refine Below.alloc ?_ (by simp; try omega) _)) (fun hHeld=>?_)
  clear hK K
  refine wpAnyH_ready (rs:=[15]) (by kernel_rfl) (by simp) ?_
  refine ready_tk (i:=15) rfl (by rfl) (fun K hK=>?_) AllReadyH.nil
  go_simp
  refine hK.out _ _ (HS.out _ (by repeat first | exact Below.refl _ _ | refine Below.drew ?_ | refine Below.alloc ?_ (by simp; try omega) _)) (fun hHeld=>?_)
  clear hK K
  refine wpAnyH_ready (rs:=[16]) (by kernel_rfl) (by simp) ?_
  refine ready_tk (i:=16) rfl (by rfl) (fun K hK=>?_) AllReadyH.nil
  go_simp
  refine hK.out _ _ (HS.out _ (by repeat first | exact Below.refl _ _ | refine Below.drew ?_ | refine Below.alloc ?_ (by simp; try omega) _)) (fun hHeld=>?_)
  clear hK K
  obtain ⟨W3,hW3⟩:∃W3,W3=(((W0.alloc (.cells #[.int .i64 (-1),.int .i64 (-a)] 3)).alloc (.cells #[.int .i64 1,.int .i64 b] 3)).alloc (.cells #[.slice (some ⟨W0.heap.size,0,none⟩) 2 2,.slice (some ⟨W0.heap.size+1,0,none⟩) 2 2] 22)).drew:=⟨_,rfl⟩
  have HF:Hid (Fr w.heap.size 22 3 W3 (.slice (some ⟨W0.heap.size+1+1,0,none⟩) 2 2) (lineR P)):=by
   rw [HLR.out]
   refine line_fr (g1:=W0.heap.size) (g2:=W0.heap.size+1) ?_ ?_ ?_ (by have:=HS0.out; omega)
   ·rw [hW3]; exact (three_heap _ _ _ _).1
   ·rw [hW3]; exact (three_heap _ _ _ _).2.1
   ·rw [hW3]; exact (three_heap _ _ _ _).2.2
  have HBW:Hid (Below w.heap.size w W3):=by
   have h:Below W0.heap.size W0 W3:=by
    rw [hW3]
    repeat first | exact Below.refl _ _ | refine Below.drew ?_ | refine Below.alloc ?_ (by simp; try omega) _
   exact HB0.out.trans (h.mono (by have:=HS0.out; omega))
  rw [←hW3] at hHeld ⊢
  clear hW3
  refine wpAnyH_tk (i:=17) (d:=2) (v:=.slice (some ⟨W0.heap.size+1+1,0,none⟩) 2 2) rfl rfl (by kernel_rfl) (by kernel_rfl) (by kernel_rfl) (fun _ _ _ h=>h) (.inl ⟨by rfl,by (intro wq hSw; (try dsimp only at hSw); go_simp; (try (first | rfl | omega)))⟩) hHeld ?_
  simp only [Act.put,List.setIfInBounds_toArray,List.set_cons_zero,List.set_cons_succ]
  refine wpAnyH_done (by kernel_rfl) ?_ _
  dsimp only [Nrm]
  gi_wp2
  refine leaves_mks [] W3 (by simp) (fun r hr=>by simp at hr) (fun w' hc=>⟨.slice (some ⟨W0.heap.size+1+1,0,none⟩) 2 2,?_,?_⟩)
  ·simp [results,Tryz.results56,go_sem]
  ·have hbx:Below W3.heap.size W3 w':=⟨hc.os,hc.tape,hc.output,hc.size,fun b hb=>hc.block b hb (by simp)⟩
   exact ⟨_,rfl,HF.out.below hbx (Nat.le_refl _),HBW.out.trans (hbx.mono HBW.out.size)⟩
 ·go_simp
  refine hK.out _ _ (HS.out _ (by repeat first | exact Below.refl _ _ | refine Below.drew ?_ | refine Below.alloc ?_ (by simp; try omega) _)) (fun hHeld=>?_)
  clear hK K
  refine wpAnyH_ready (rs:=[6]) (by kernel_rfl) (by simp) ?_
  refine ready_tk (i:=6) rfl (by rfl) (fun K hK=>?_) AllReadyH.nil
  go_simp
  refine hK.out _ _ (HS.out _ (by repeat first | exact Below.refl _ _ | refine Below.drew ?_ | refine Below.alloc ?_ (by simp; try omega) _)) (fun hHeld=>?_)
  clear hK K
  refine wpAnyH_ready (rs:=[16]) (by kernel_rfl) (by simp) ?_
  refine ready_tk (i:=16) rfl (by rfl) (fun K hK=>?_) AllReadyH.nil
  go_simp
  refine hK.out _ _ (HS.out _ (by repeat first | exact Below.refl _ _ | refine Below.drew ?_ | refine Below.alloc ?_ (by simp; try omega) _)) (fun hHeld=>?_)
  clear hK K
  obtain ⟨W3,hW3⟩:∃W3,W3=(((W0.alloc (.cells #[.int .i64 1,.int .i64 b] 3)).alloc (.cells #[.int .i64 (-1),.int .i64 (-a)] 3)).alloc (.cells #[.slice (some ⟨W0.heap.size+1,0,none⟩) 2 2,.slice (some ⟨W0.heap.size,0,none⟩) 2 2] 22)).drew:=⟨_,rfl⟩
  have HF:Hid (Fr w.heap.size 22 3 W3 (.slice (some ⟨W0.heap.size+1+1,0,none⟩) 2 2) (lineR P)):=by
   rw [HLR.out]
   refine line_fr (g1:=W0.heap.size+1) (g2:=W0.heap.size) ?_ ?_ ?_ (by have:=HS0.out; omega)
   ·rw [hW3]; exact (three_heap _ _ _ _).2.1
   ·rw [hW3]; exact (three_heap _ _ _ _).1
   ·rw [hW3]; exact (three_heap _ _ _ _).2.2
  have HBW:Hid (Below w.heap.size w W3):=by
   have h:Below W0.heap.size W0 W3:=by
    rw [hW3]
    repeat first | exact Below.refl _ _ | refine Below.drew ?_ | refine Below.alloc ?_ (by simp; try omega) _
   exact HB0.out.trans (h.mono (by have:=HS0.out; omega))
  rw [←hW3] at hHeld ⊢
  clear hW3
  refine wpAnyH_tk (i:=17) (d:=2) (v:=.slice (some ⟨W0.heap.size+1+1,0,none⟩) 2 2) rfl rfl (by kernel_rfl) (by kernel_rfl) (by kernel_rfl) (fun _ _ _ h=>h) (.inl ⟨by rfl,by (intro wq hSw; (try dsimp only at hSw); go_simp; (try (first | rfl | omega)))⟩) hHeld ?_
  simp only [Act.put,List.setIfInBounds_toArray,List.set_cons_zero,List.set_cons_succ]
  refine wpAnyH_done (by kernel_rfl) ?_ _
  dsimp only [Nrm]
  gi_wp2
  refine leaves_mks [] W3 (by simp) (fun r hr=>by simp at hr) (fun w' hc=>⟨.slice (some ⟨W0.heap.size+1+1,0,none⟩) 2 2,?_,?_⟩)
  ·simp [results,Tryz.results56,go_sem]
  ·have hbx:Below W3.heap.size W3 w':=⟨hc.os,hc.tape,hc.output,hc.size,fun b hb=>hc.block b hb (by simp)⟩
   exact ⟨_,rfl,HF.out.below hbx (Nat.le_refl _),HBW.out.trans (hbx.mono HBW.out.size)⟩
theorem wrapAround_any (d:Nat) (P:List (List Int)) (v:Value) (w:World) (hv:Mat w.heap.size 22 3 w v P) (hg:Good d P) (hs:SAsc P) :
  Calls Tryz.prog 56 #[v] w fun r w'=>∃u rows,r=.returned u∧Fr w.heap.size 22 3 w' u rows∧Inw rows (rowsC P [] d P)∧Below w.heap.size w w':=by
 by_cases h:d=1
 ·subst h
  refine (rowsAround1_any P v w hv hg).mono ?_
  rintro r w' ⟨u,rfl,hf,hb⟩
  exact ⟨u,_,rfl,hf,⟨line_rows hg hs,line_asc P⟩,hb⟩
 ·obtain ⟨e,rfl⟩:∃e,d=e+1:=⟨d-1,by have:=hg.d1; omega⟩
  refine (rowsAround2_any (e+1) e P v w hv hg rfl (by omega)).mono ?_
  rintro r w' ⟨u,m',m,rfl,hf,hin,hq,hb⟩
  exact ⟨u,m',rfl,hf,⟨fun r=>(hin.mem r).trans (hq.mem hg (by omega) r),hin.asc⟩,hb⟩
set_option maxRecDepth 100000 in
set_option maxHeartbeats 800000 in
theorem wrapRows_any (d:Nat) (P:List (List Int)) (v:Value) (w:World) (hv:Mat w.heap.size 22 3 w v P) (hg:Good d P) :
  Calls Tryz.prog 112 #[v] w fun e w'=>∃u P' rows,e=.returned u∧Fr w.heap.size 22 3 w' u rows∧Inor P' P∧Inw rows (rowsC P' [] d P')∧Below w.heap.size w w':=by
 obtain ⟨po,pc,rfl,hlc,hcm⟩:=mat_open hv
 have HG:Hid (Good d P):=hg
 have HDS:Hid (Calls Tryz.prog 54 #[.slice po P.length pc] w fun e w'=>∃xo xl xc P',e=.returned (.slice xo xl xc)∧(Mat w'.heap.size 22 3 w' (.slice xo xl xc) P'∧Inor P' P∧Below w.heap.size w w')):=by
  refine (distinct_any w.heap.size P _ w hv (by have:=hg.n24; omega) (fun r hr=>by rw [(hg.box r hr).1]; have:=hg.d4; omega)).mono ?_
  rintro e w' ⟨y,P',rfl,hf,hin,hb⟩
  have hM:Mat w'.heap.size 22 3 w' y P':=hf.rws.mat hb.size
  obtain ⟨yo,yc,hyv,_,_⟩:=mat_open hM
  subst hyv
  exact ⟨yo,_,yc,P',rfl,hM,hin,hb⟩
 clear hv hg
 go_enter Tryz.func112,Tryz.ntmps112
 go_wp2_with fail
 refine HDS.out.mono ?_
 rintro e w1 ⟨xo,xl,xc,P',rfl,hx⟩
 have HX:Hid (Mat w1.heap.size 22 3 w1 (.slice xo xl xc) P'∧Inor P' P∧Below w.heap.size w w1):=hx
 clear hx HDS
 go_wp2_with fail
 refine (wrapAround_any d P' _ w1 HX.out.1 (good_of HG.out HX.out.2.1.mem HX.out.2.1.len) HX.out.2.1.asc).mono ?_
 rintro e w2 ⟨u,rows,rfl,hf,hin,hb⟩
 have HF:Hid (Fr w1.heap.size 22 3 w2 u rows):=hf
 have HI:Hid (Inw rows (rowsC P' [] d P')):=hin
 have HB:Hid (Below w.heap.size w w2):=HX.out.2.2.trans (hb.mono HX.out.2.2.size)
 obtain ⟨uo,uc,huv,_,_⟩:=fr_open hf
 subst huv
 clear hf hin hb
 go_wp2
 go_ret
 exact ⟨_,P',rows,rfl,HF.out.mono HX.out.2.2.size,HX.out.2.1,HI.out,HB.out⟩
end Go.Proofs.YtdanomklbiidaaaGreatDoor
