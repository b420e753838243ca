import Derived.Test.YtfhjjpiakffagaaGreatDoorWr10
import Derived.Test.YtfhjjpiakffagaaGreatDoorRgY
import Derived.Test.YtfhjjpiakffagaaGreatDoorHmA
import Derived.Test.YtfhjjpiakffagaaGreatDoorOrdY
import Derived.Test.YtfhjjpiakffagaaGreatDoorWiA
import Derived.Test.YtfhjjpiakffagaaGreatDoorGY
namespace Go.Proofs.YtfhjjpiakffagaaGreatDoor
open Go.RowKit Go.Shelf Lin
attribute [local go_sem] Oper.semAt_some
structure Inw (m' R:List (List Int)):Prop where
 mem:∀r,r∈m'↔r∈R
 asc:SAsc m'
theorem good_of {d:Nat} {P P':List (List Int)} (hg:Good d P) (hm:∀r,r∈P'↔r∈P) (hl:P'.length≤P.length):Good d P':=by
 have hbox:Box d 30 P':=fun y hy=>hg.box y ((hm y).1 hy)
 have hf:(pickL d (diffL P')).length=d:=full_of_span (fun y hy=>(hbox y hy).1) (fun c hc=>good_span hg c fun y hy z hz=>hc y ((hm y).2 hy) z ((hm z).2 hz))
 have h1:(pickL d (diffL P')).length≤(diffL P').length:=pickL_len _ _
 rw [diffL_length] at h1
 have:=hg.d1
 exact ⟨hg.d1,hg.d4,by omega,by have:=hg.n24; omega,hbox,hf⟩
theorem one_list {y:List Int} (h:y.length=1):y=[y.getD 0 0]:=by
 match y,h with
 | [a],_=>rfl
theorem line_ends {P:List (List Int)} (hg:Good 1 P) (hs:SAsc P) {y:List Int} (hy:y∈P):(P.getD 0 []).getD 0 0≤y.getD 0 0∧y.getD 0 0≤(P.getD (P.length-1) []).getD 0 0:=by
 have hn:=hg.n2
 have hlen:∀i,(h:i < P.length)→(P[i]).length=1:=fun i h=>(hg.box _ (List.getElem_mem h)).1
 have hlt:∀i j,(hi:i < P.length)→(hj:j < P.length)→i < j→(P[i]).getD 0 0 < (P[j]).getD 0 0:=fun i j hi hj hij=>by
  have h:=List.pairwise_iff_getElem.1 hs i j hi hj hij
  rw [one_list (hlen i hi),one_list (hlen j hj)] at h
  simp only [cmpL] at h
  by_cases h1:(P[i]).getD 0 0 < (P[j]).getD 0 0
  ·exact h1
  ·rw [if_neg h1] at h
   split at h <;> omega
 obtain ⟨k,hk,rfl⟩:=List.getElem_of_mem hy
 have e0:P.getD 0 []=P[0]'(by omega):=by simp [show 0 < P.length by omega]
 have e1:P.getD (P.length-1) []=P[P.length-1]'(by omega):=by simp [show P.length-1 < P.length by omega]
 rw [e0,e1]
 constructor
 ·by_cases h:k=0
  ·subst h; exact Int.le_refl _
  ·have:=hlt 0 k (by omega) hk (by omega); omega
 ·by_cases h:k=P.length-1
  ·subst h; exact Int.le_refl _
  ·have:=hlt k (P.length-1) hk (by omega) (by omega); omega
theorem dot_one (c:Nat→Int) (y:List Int):dot 1 c (V y)=c 0*y.getD 0 0:=by simp [dot,sumN,V]
def lineR (P:List (List Int)):List (List Int):=[[-1,-(P.getD 0 []).getD 0 0],[1,(P.getD (P.length-1) []).getD 0 0]]
theorem line_rows {P:List (List Int)} (hg:Good 1 P) (hs:SAsc P) (r:List Int):r∈lineR P↔r∈rowsC P [] 1 P:=by
 have hn:=hg.n2
 have hm0:P.getD 0 []∈P:=by simp [show 0 < P.length by omega]
 have hm1:P.getD (P.length-1) []∈P:=by simp [show P.length-1 < P.length by omega]
 have hpar:∀u c:Nat→Int,Par 1 u c:=fun u c i j hi hj=>by
  have h1:i=0:=by omega
  have h2:j=0:=by omega
  subst h1 h2
  grind
 have hl1:low [(-1:Int)]=[-1]:=by decide
 have hl2:low [(1:Int)]=[1]:=by decide
 unfold lineR
 simp only [List.mem_cons,List.not_mem_nil,or_false]
 constructor
 ·rintro (rfl | rfl)
  ·have h:=wr_row hg hm0 (c:=fun _=>-1) ⟨0,by omega,by decide⟩ (fun y hy=>by rw [dot_one,dot_one]; have:=(line_ends hg hs hy).1; omega) (fun u _=>hpar _ _)
   have e:(List.range 1).map (fun _=>(-1:Int))=[-1]:=rfl
   rw [e,hl1] at h
   have hd:dotL [-1] (P.getD 0 [])=-(P.getD 0 []).getD 0 0:=by
    rw [one_list (hg.box _ hm0).1]; simp [dotL,sumN]
   rw [hd] at h
   exact h
  ·have h:=wr_row hg hm1 (c:=fun _=>1) ⟨0,by omega,by decide⟩ (fun y hy=>by rw [dot_one,dot_one]; have:=(line_ends hg hs hy).2; omega) (fun u _=>hpar _ _)
   have e:(List.range 1).map (fun _=>(1:Int))=[1]:=rfl
   rw [e,hl2] at h
   have hd:dotL [1] (P.getD (P.length-1) [])=(P.getD (P.length-1) []).getD 0 0:=by
    rw [one_list (hg.box _ hm1).1]; simp [dotL,sumN]
   rw [hd] at h
   exact h
 ·intro hr
  obtain ⟨hrl,hgc⟩:=row_prim hg hr
  have hfit:=rowsC_fit hg.box hg.d1 (by decide) (fun _=>Iff.rfl) hr
  obtain ⟨t,ht,ht0,_,_⟩:=row_one (fun y hy=>(hg.box y hy).1) hg.d1 hr
  obtain ⟨hyP,hye⟩:=ht _ ht0
  match r,hrl with
  | [p,q],_=>
   have e1:([p,q]:List Int).getD 1 0=q:=rfl
   have e0:V [p,q] 0=p:=rfl
   rw [e1,dot_one,e0] at hye
   have hg1:p.natAbs=1:=by
    have:([p,q]:List Int).take 1=[p]:=rfl
    rw [this] at hgc
    simpa [gc,gcf] using hgc
   have ha:=hfit.all _ hm0
   have hb:=hfit.all _ hm1
   rw [e1,dot_one,e0] at ha hb
   have hy:=line_ends hg hs hyP
   have hp:p=1∨p=-1:=by omega
   rcases hp with rfl | rfl
   ·right
    have:q=(P.getD (P.length-1) []).getD 0 0:=by omega
    rw [this]
   ·left
    have:q=-(P.getD 0 []).getD 0 0:=by omega
    rw [this]
theorem line_asc (P:List (List Int)):SAsc (lineR P):=by
 unfold lineR SAsc
 simp [cmpL]
theorem own_built {w:World} {g:Nat} {a b:Value} {e:TypeId} {B:Nat} (h:w.heap[g]?=some (.cells #[a,b] e (0,0))) (hB:B≤g):w.ownsRow B e 1 (.slice (some ⟨g,0,none⟩) 2 2) 2 [a,b]:=
 ⟨by simp,Or.inr ⟨g,2,#[a,b],rfl,hB,h,Nat.le_refl _,by unfold maxLen; omega,by simp,by simp⟩⟩
theorem three_heap (W0:World) (A B C:Obj):(((W0.alloc A).alloc B).alloc C).drew.heap[W0.heap.size]?=some A∧(((W0.alloc A).alloc B).alloc C).drew.heap[W0.heap.size+1]?=some B∧(((W0.alloc A).alloc B).alloc C).drew.heap[W0.heap.size+1+1]?=some C:=by
 have e:(((W0.alloc A).alloc B).alloc C).drew.heap=((W0.heap.push A).push B).push C:=rfl
 rw [e]
 simp only [Array.getElem?_push,Array.size_push]
 refine ⟨?_,?_,?_⟩
 ·rw [if_neg (by omega),if_neg (by omega),if_pos trivial]
 ·rw [if_neg (by omega),if_pos trivial]
 ·rw [if_pos trivial]
theorem line_fr {w W:World} {g1 g2 g3:Nat} {a b:Int} (h1:W.heap[g1]?=some (.cells #[.int .i64 (-1),.int .i64 a] 3 (0,0))) (h2:W.heap[g2]?=some (.cells #[.int .i64 1,.int .i64 b] 3 (0,0)))
  (h3:W.heap[g3]?=some (.cells #[.slice (some ⟨g1,0,none⟩) 2 2,.slice (some ⟨g2,0,none⟩) 2 2] 22 (0,0))) (hB:w.heap.size≤g3):Fr w.heap.size 22 3 W (.slice (some ⟨g3,0,none⟩) 2 2) [[-1,a],[1,b]]:=by
 refine ⟨[.slice (some ⟨g1,0,none⟩) 2 2,.slice (some ⟨g2,0,none⟩) 2 2],rfl,own_built h3 hB,fun i hi=>?_⟩
 match i,hi with
 | 0,_=>exact (Sl.own (own_built (B:=0) h1 (Nat.zero_le _)))
 | 1,_=>exact (Sl.own (own_built (B:=0) h2 (Nat.zero_le _)))
set_option maxRecDepth 100000 in
set_option maxHeartbeats 8000000 in
theorem rowsAround1_any (P:List (List Int)) (v:Value) (w:World) (hv:Mat w.heap.size 22 3 w v P) (hg:Good 1 P) :
  Calls Tryz.prog 83 #[v] w fun r w'=>∃u,r=.returned u∧Fr w.heap.size 22 3 w' u (lineR P)∧Below w.heap.size w w':=by
 obtain ⟨pb,pf,pc,p1,rfl,hlc,hpc,hp1'⟩:=mat_cell hv (k:=0) (by have:=hg.n2; omega)
 have h2:=hg.n2
 have h24:=hg.n24
 obtain ⟨_,_,_,q1,hqq,_,hqc,hq1'⟩:=mat_cell hv (k:=P.length-1) (by omega)
 simp only [Value.slice.injEq,Option.some.injEq,Addr.mk.injEq,and_true,true_and] at hqq
 obtain ⟨⟨rfl,rfl⟩,rfl⟩:=hqq
 obtain ⟨xb,xf,xc,rfl,hx1,hx2⟩:=sl_cell hp1' (k:=0) (by rw [(hg.box _ (by simp [show 0 < P.length by omega])).1]; omega)
 obtain ⟨yb,yf,yc,rfl,hy1,hy2⟩:=sl_cell hq1' (k:=0) (by rw [(hg.box _ (by simp [show P.length-1 < P.length by omega])).1]; omega)
 have hl0:(P.getD 0 []).length=1:=(hg.box _ (by simp [show 0 < P.length by omega])).1
 have hl1:(P.getD (P.length-1) []).length=1:=(hg.box _ (by simp [show P.length-1 < P.length by omega])).1
 have HLR:Hid (lineR P=[[-1,-(P.getD 0 []).getD 0 0],[1,(P.getD (P.length-1) []).getD 0 0]]):=rfl
 have ba:=(hg.box _ (show P.getD 0 []∈P by simp [show 0 < P.length by omega])).2 ((P.getD 0 []).getD 0 0) (getD_mem (by omega))
 have bb:=(hg.box _ (show P.getD (P.length-1) []∈P by simp [show P.length-1 < P.length by omega])).2 ((P.getD (P.length-1) []).getD 0 0) (getD_mem (by omega))
 rw [hl0] at hpc
 rw [hl1] at hqc
 rw [Nat.add_zero] at hpc hx2 hy2
 obtain ⟨L,hL⟩:∃L,L=P.length-1:=⟨_,rfl⟩
 rw [←hL] at hqc hy2 HLR bb
 have hLI:(P.length:Int)-1=(L:Int):=by omega
 have hLlt:(L:Int) < (P.length:Int):=by omega
 have hLltN:L < P.length:=by omega
 obtain ⟨a,ha⟩:∃a,a=(P.getD 0 []).getD 0 0:=⟨_,rfl⟩
 obtain ⟨b,hb⟩:∃b,b=(P.getD L []).getD 0 0:=⟨_,rfl⟩
 rw [←ha] at hx2 HLR ba
 rw [←hb] at hy2 HLR bb
 obtain ⟨W0,hW0⟩:∃W0,W0=w.alloc (.cells #[.slice (some ⟨pb,pf,none⟩) P.length pc] 24):=⟨_,rfl⟩
 have hb0:Below w.heap.size w W0:=by rw [hW0]; exact alloc_keep _ _
 have hs0:W0.heap.size=w.heap.size+1:=by rw [hW0]; exact size_alloc _ _
 have k0:W0.cell? ⟨w.heap.size,0,none⟩=some (.slice (some ⟨pb,pf,none⟩) P.length pc):=by rw [hW0]; simp
 have k1:W0.cell? ⟨pb,pf,none⟩=some (.slice (some ⟨xb,xf,none⟩) 1 xc):=(hb0.cell (lt_of_cell hpc)).trans hpc
 have k2:W0.cell? ⟨xb,xf,none⟩=some (.int .i64 a):=(hb0.cell (lt_of_cell hx2)).trans hx2
 have k3:W0.cell? ⟨pb,pf+L,none⟩=some (.slice (some ⟨yb,yf,none⟩) 1 yc):=(hb0.cell (lt_of_cell hqc)).trans hqc
 have k4:W0.cell? ⟨yb,yf,none⟩=some (.int .i64 b):=(hb0.cell (lt_of_cell hy2)).trans hy2
 have HS:Hid (∀X,Below W0.heap.size W0 X→X.cell? ⟨w.heap.size,0,none⟩=some (.slice (some ⟨pb,pf,none⟩) P.length pc)∧X.cell? ⟨pb,pf,none⟩=some (.slice (some ⟨xb,xf,none⟩) 1 xc)∧X.cell? ⟨xb,xf,none⟩=some (.int .i64 a)∧X.cell? ⟨pb,pf+L,none⟩=some (.slice (some ⟨yb,yf,none⟩) 1 yc)∧X.cell? ⟨yb,yf,none⟩=some (.int .i64 b)):=fun X hX=>
  ⟨(hX.cell (lt_of_cell k0)).trans k0,(hX.cell (lt_of_cell k1)).trans k1,(hX.cell (lt_of_cell k2)).trans k2,(hX.cell (lt_of_cell k3)).trans k3,(hX.cell (lt_of_cell k4)).trans k4⟩
 have HB0:Hid (Below w.heap.size w W0):=hb0
 have HS0:Hid (W0.heap.size=w.heap.size+1):=hs0
 clear hv hg hp1' hq1' hpc hqc hx2 hy2 hl0 hl1 ha hb hb0 hs0 hx1 hy1 hL
 generalize P.length=n at *
 refine callsIn_wide (n:=0).1 ?_
 refine callsIn_of_wp_marks Tryz.func83 rfl trivial ?_ rfl
 simp only [Tryz.ntmps83,List.size_toArray,List.length_cons,List.length_nil,Nat.reduceAdd,Nat.reduceSub,Array.replicate_succ,Array.replicate_zero,List.push_toArray,List.append_toArray,List.nil_append,List.cons_append]
 rw [hW0] at k0 k1 k2 k3 k4
 gi_upto_region 3 with fail
 rw [←hW0] at k0 k1 k2 k3 k4 ⊢
 clear hW0
 have HBD:Hid (Below W0.heap.size W0 W0.drew):=(Below.refl _ _).drew
 have hS:=HS.out _ HBD.out
 refine wpIn_region_wd (fun w'=>w'.cell? ⟨w.heap.size,0,none⟩=some (.slice (some ⟨pb,pf,none⟩) n pc)∧w'.cell? ⟨pb,pf,none⟩=some (.slice (some ⟨xb,xf,none⟩) 1 xc)∧w'.cell? ⟨xb,xf,none⟩=some (.int .i64 a)∧w'.cell? ⟨pb,pf+L,none⟩=some (.slice (some ⟨yb,yf,none⟩) 1 yc)∧w'.cell? ⟨yb,yf,none⟩=some (.int .i64 b)) (by kernel_rfl) (no_defer (by kernel_rfl)) (fun a w h=>h) ?_
 have hHeld:=hS
 have hwa:IntKind.i64.wrap (-a)=-a:=by rw [IntWalk.i64_left]; exact IntWalk.wrap64_in _ ⟨by omega,by omega⟩
 have hwL:IntKind.i64.wrap (L:Int)=(L:Int):=by rw [IntWalk.i64_left]; exact IntWalk.wrap64_in _ ⟨by omega,by omega⟩
 clear k0 k1 k2 k3 k4 hS
 refine wpAnyH_tk (i:=0) (d:=12) (v:=.slice (some ⟨pb,pf,none⟩) n pc) rfl rfl (by kernel_rfl) (by kernel_rfl) (by kernel_rfl) (fun _ _ _ h=>h) (.inl ⟨by rfl,by (intro wq hSw; (try dsimp only at hSw); go_simp; (try (first | rfl | omega)))⟩) hHeld ?_
 simp only [Act.put,List.setIfInBounds_toArray,List.set_cons_zero,List.set_cons_succ]
 refine wpAnyH_tk (i:=1) (d:=13) (v:=.pointer (some ⟨pb,pf,none⟩)) rfl rfl (by kernel_rfl) (by kernel_rfl) (by kernel_rfl) (fun _ _ _ h=>h) (.inl ⟨by rfl,by (intro wq hSw; (try dsimp only at hSw); go_simp; (try (first | rfl | omega)))⟩) hHeld ?_
 simp only [Act.put,List.setIfInBounds_toArray,List.set_cons_zero,List.set_cons_succ]
 refine wpAnyH_tk (i:=2) (d:=14) (v:=.slice (some ⟨xb,xf,none⟩) 1 xc) rfl rfl (by kernel_rfl) (by kernel_rfl) (by kernel_rfl) (fun _ _ _ h=>h) (.inl ⟨by rfl,by (intro wq hSw; (try dsimp only at hSw); go_simp; (try (first | rfl | omega)))⟩) hHeld ?_
 simp only [Act.put,List.setIfInBounds_toArray,List.set_cons_zero,List.set_cons_succ]
 refine wpAnyH_tk (i:=3) (d:=15) (v:=.pointer (some ⟨xb,xf,none⟩)) rfl rfl (by kernel_rfl) (by kernel_rfl) (by kernel_rfl) (fun _ _ _ h=>h) (.inl ⟨by rfl,by (intro wq hSw; (try dsimp only at hSw); go_simp; (try (first | rfl | omega)))⟩) hHeld ?_
 simp only [Act.put,List.setIfInBounds_toArray,List.set_cons_zero,List.set_cons_succ]
 refine wpAnyH_tk (i:=4) (d:=16) (v:=.int .i64 a) rfl rfl (by kernel_rfl) (by kernel_rfl) (by kernel_rfl) (fun _ _ _ h=>h) (.inl ⟨by rfl,by (intro wq hSw; (try dsimp only at hSw); go_simp; (try (first | rfl | omega)))⟩) hHeld ?_
 simp only [Act.put,List.setIfInBounds_toArray,List.set_cons_zero,List.set_cons_succ]
 refine wpAnyH_tk (i:=5) (d:=17) (v:=.int .i64 (-a)) rfl rfl (by kernel_rfl) (by kernel_rfl) (by kernel_rfl) (fun _ _ _ h=>h) (.inl ⟨by rfl,by (intro wq hSw; (try dsimp only at hSw); go_simp; (try (first | rfl | omega)))⟩) hHeld ?_
 simp only [Act.put,List.setIfInBounds_toArray,List.set_cons_zero,List.set_cons_succ]
 refine wpAnyH_tk (i:=7) (d:=19) (v:=.slice (some ⟨pb,pf,none⟩) n pc) rfl rfl (by kernel_rfl) (by kernel_rfl) (by kernel_rfl) (fun _ _ _ h=>h) (.inl ⟨by rfl,by (intro wq hSw; (try dsimp only at hSw); go_simp; (try (first | rfl | omega)))⟩) hHeld ?_
 simp only [Act.put,List.setIfInBounds_toArray,List.set_cons_zero,List.set_cons_succ]
 refine wpAnyH_tk (i:=8) (d:=20) (v:=.slice (some ⟨pb,pf,none⟩) n pc) rfl rfl (by kernel_rfl) (by kernel_rfl) (by kernel_rfl) (fun _ _ _ h=>h) (.inl ⟨by rfl,by (intro wq hSw; (try dsimp only at hSw); go_simp; (try (first | rfl | omega)))⟩) hHeld ?_
 simp only [Act.put,List.setIfInBounds_toArray,List.set_cons_zero,List.set_cons_succ]
 refine wpAnyH_tk (i:=9) (d:=21) (v:=.int .i64 n) rfl rfl (by kernel_rfl) (by kernel_rfl) (by kernel_rfl) (fun _ _ _ h=>h) (.inl ⟨by rfl,by (intro wq hSw; (try dsimp only at hSw); go_simp; (try (first | rfl | omega)))⟩) hHeld ?_
 simp only [Act.put,List.setIfInBounds_toArray,List.set_cons_zero,List.set_cons_succ]
 refine wpAnyH_tk (i:=10) (d:=22) (v:=.int .i64 L) rfl rfl (by kernel_rfl) (by kernel_rfl) (by kernel_rfl) (fun _ _ _ h=>h) (.inl ⟨by rfl,by (intro wq hSw; (try dsimp only at hSw); go_simp; (try (first | rfl | omega)))⟩) hHeld ?_
 simp only [Act.put,List.setIfInBounds_toArray,List.set_cons_zero,List.set_cons_succ]
 refine wpAnyH_tk (i:=11) (d:=23) (v:=.pointer (some ⟨pb,pf+L,none⟩)) rfl rfl (by kernel_rfl) (by kernel_rfl) (by kernel_rfl) (fun _ _ _ h=>h) (.inl ⟨by rfl,by (intro wq hSw; (try dsimp only at hSw); go_simp; (try (first | rfl | omega)))⟩) hHeld ?_
 simp only [Act.put,List.setIfInBounds_toArray,List.set_cons_zero,List.set_cons_succ]
 refine wpAnyH_tk (i:=12) (d:=24) (v:=.slice (some ⟨yb,yf,none⟩) 1 yc) rfl rfl (by kernel_rfl) (by kernel_rfl) (by kernel_rfl) (fun _ _ _ h=>h) (.inl ⟨by rfl,by (intro wq hSw; (try dsimp only at hSw); go_simp; (try (first | rfl | omega)))⟩) hHeld ?_
 simp only [Act.put,List.setIfInBounds_toArray,List.set_cons_zero,List.set_cons_succ]
 refine wpAnyH_tk (i:=13) (d:=25) (v:=.pointer (some ⟨yb,yf,none⟩)) rfl rfl (by kernel_rfl) (by kernel_rfl) (by kernel_rfl) (fun _ _ _ h=>h) (.inl ⟨by rfl,by (intro wq hSw; (try dsimp only at hSw); go_simp; (try (first | rfl | omega)))⟩) hHeld ?_
 simp only [Act.put,List.setIfInBounds_toArray,List.set_cons_zero,List.set_cons_succ]
 refine wpAnyH_tk (i:=14) (d:=26) (v:=.int .i64 b) rfl rfl (by kernel_rfl) (by kernel_rfl) (by kernel_rfl) (fun _ _ _ h=>h) (.inl ⟨by rfl,by (intro wq hSw; (try dsimp only at hSw); go_simp; (try (first | rfl | omega)))⟩) hHeld ?_
 simp only [Act.put,List.setIfInBounds_toArray,List.set_cons_zero,List.set_cons_succ]
 refine wpAnyH_ready (rs:=[6,15]) (by kernel_rfl) (by simp) ?_
 refine ready_tk (i:=6) rfl (by rfl) (fun K hK=>?_) (ready_tk (i:=15) rfl (by rfl) (fun K hK=>?_) AllReadyH.nil)
 ·go_simp
  refine hK.out _ _ (HS.out _ (by repeat first | exact Below.refl _ _ | refine Below.drew ?_ | refine Below.alloc ?_ (by simp; try omega) _)) (fun hHeld=>?_)
  clear hK K
  refine wpAnyH_ready (rs:=[15]) (by kernel_rfl) (by simp) ?_
  refine ready_tk (i:=15) rfl (by rfl) (fun K hK=>?_) AllReadyH.nil
  go_simp
  refine hK.out _ _ (HS.out _ (by repeat first | exact Below.refl _ _ | refine Below.drew ?_ | refine Below.alloc ?_ (by simp; try omega) _)) (fun hHeld=>?_)
  clear hK K
  refine wpAnyH_ready (rs:=[16]) (by kernel_rfl) (by simp) ?_
  refine ready_tk (i:=16) rfl (by rfl) (fun K hK=>?_) AllReadyH.nil
  go_simp
  refine hK.out _ _ (HS.out _ (by repeat first | exact Below.refl _ _ | refine Below.drew ?_ | refine Below.alloc ?_ (by simp; try omega) _)) (fun hHeld=>?_)
  clear hK K
  obtain ⟨W3,hW3⟩:∃W3,W3=(((W0.alloc (.cells #[.int .i64 (-1),.int .i64 (-a)] 3)).alloc (.cells #[.int .i64 1,.int .i64 b] 3)).alloc (.cells #[.slice (some ⟨W0.heap.size,0,none⟩) 2 2,.slice (some ⟨W0.heap.size+1,0,none⟩) 2 2] 22)).drew:=⟨_,rfl⟩
  have HF:Hid (Fr w.heap.size 22 3 W3 (.slice (some ⟨W0.heap.size+1+1,0,none⟩) 2 2) (lineR P)):=by
   rw [HLR.out]
   refine line_fr (g1:=W0.heap.size) (g2:=W0.heap.size+1) ?_ ?_ ?_ (by have:=HS0.out; omega)
   ·rw [hW3]; exact (three_heap _ _ _ _).1
   ·rw [hW3]; exact (three_heap _ _ _ _).2.1
   ·rw [hW3]; exact (three_heap _ _ _ _).2.2
  have HBW:Hid (Below w.heap.size w W3):=by
   have h:Below W0.heap.size W0 W3:=by
    rw [hW3]
    repeat first | exact Below.refl _ _ | refine Below.drew ?_ | refine Below.alloc ?_ (by simp; try omega) _
   exact HB0.out.trans (h.mono (by have:=HS0.out; omega))
  rw [←hW3] at hHeld ⊢
  clear hW3
  refine wpAnyH_tk (i:=17) (d:=2) (v:=.slice (some ⟨W0.heap.size+1+1,0,none⟩) 2 2) rfl rfl (by kernel_rfl) (by kernel_rfl) (by kernel_rfl) (fun _ _ _ h=>h) (.inl ⟨by rfl,by (intro wq hSw; (try dsimp only at hSw); go_simp; (try (first | rfl | omega)))⟩) hHeld ?_
  simp only [Act.put,List.setIfInBounds_toArray,List.set_cons_zero,List.set_cons_succ]
  refine wpAnyH_done (by kernel_rfl) ?_ _
  dsimp only [Nrm]
  gi_wp2
  refine leaves_mks [] W3 (by simp) (fun r hr=>by simp at hr) (fun w' hc=>⟨.slice (some ⟨W0.heap.size+1+1,0,none⟩) 2 2,?_,?_⟩)
  ·simp [results,Tryz.results83,go_sem]
  ·have hbx:Below W3.heap.size W3 w':=⟨hc.os,hc.tape,hc.output,hc.size,fun b hb=>hc.block b hb (by simp)⟩
   exact ⟨_,rfl,HF.out.below hbx (Nat.le_refl _),HBW.out.trans (hbx.mono HBW.out.size)⟩
 ·go_simp
  refine hK.out _ _ (HS.out _ (by repeat first | exact Below.refl _ _ | refine Below.drew ?_ | refine Below.alloc ?_ (by simp; try omega) _)) (fun hHeld=>?_)
  clear hK K
  refine wpAnyH_ready (rs:=[6]) (by kernel_rfl) (by simp) ?_
  refine ready_tk (i:=6) rfl (by rfl) (fun K hK=>?_) AllReadyH.nil
  go_simp
  refine hK.out _ _ (HS.out _ (by repeat first | exact Below.refl _ _ | refine Below.drew ?_ | refine Below.alloc ?_ (by simp; try omega) _)) (fun hHeld=>?_)
  clear hK K
  refine wpAnyH_ready (rs:=[16]) (by kernel_rfl) (by simp) ?_
  refine ready_tk (i:=16) rfl (by rfl) (fun K hK=>?_) AllReadyH.nil
  go_simp
  refine hK.out _ _ (HS.out _ (by repeat first | exact Below.refl _ _ | refine Below.drew ?_ | refine Below.alloc ?_ (by simp; try omega) _)) (fun hHeld=>?_)
  clear hK K
  obtain ⟨W3,hW3⟩:∃W3,W3=(((W0.alloc (.cells #[.int .i64 1,.int .i64 b] 3)).alloc (.cells #[.int .i64 (-1),.int .i64 (-a)] 3)).alloc (.cells #[.slice (some ⟨W0.heap.size+1,0,none⟩) 2 2,.slice (some ⟨W0.heap.size,0,none⟩) 2 2] 22)).drew:=⟨_,rfl⟩
  have HF:Hid (Fr w.heap.size 22 3 W3 (.slice (some ⟨W0.heap.size+1+1,0,none⟩) 2 2) (lineR P)):=by
   rw [HLR.out]
   refine line_fr (g1:=W0.heap.size+1) (g2:=W0.heap.size) ?_ ?_ ?_ (by have:=HS0.out; omega)
   ·rw [hW3]; exact (three_heap _ _ _ _).2.1
   ·rw [hW3]; exact (three_heap _ _ _ _).1
   ·rw [hW3]; exact (three_heap _ _ _ _).2.2
  have HBW:Hid (Below w.heap.size w W3):=by
   have h:Below W0.heap.size W0 W3:=by
    rw [hW3]
    repeat first | exact Below.refl _ _ | refine Below.drew ?_ | refine Below.alloc ?_ (by simp; try omega) _
   exact HB0.out.trans (h.mono (by have:=HS0.out; omega))
  rw [←hW3] at hHeld ⊢
  clear hW3
  refine wpAnyH_tk (i:=17) (d:=2) (v:=.slice (some ⟨W0.heap.size+1+1,0,none⟩) 2 2) rfl rfl (by kernel_rfl) (by kernel_rfl) (by kernel_rfl) (fun _ _ _ h=>h) (.inl ⟨by rfl,by (intro wq hSw; (try dsimp only at hSw); go_simp; (try (first | rfl | omega)))⟩) hHeld ?_
  simp only [Act.put,List.setIfInBounds_toArray,List.set_cons_zero,List.set_cons_succ]
  refine wpAnyH_done (by kernel_rfl) ?_ _
  dsimp only [Nrm]
  gi_wp2
  refine leaves_mks [] W3 (by simp) (fun r hr=>by simp at hr) (fun w' hc=>⟨.slice (some ⟨W0.heap.size+1+1,0,none⟩) 2 2,?_,?_⟩)
  ·simp [results,Tryz.results83,go_sem]
  ·have hbx:Below W3.heap.size W3 w':=⟨hc.os,hc.tape,hc.output,hc.size,fun b hb=>hc.block b hb (by simp)⟩
   exact ⟨_,rfl,HF.out.below hbx (Nat.le_refl _),HBW.out.trans (hbx.mono HBW.out.size)⟩
theorem wrapAround_any (d:Nat) (P:List (List Int)) (v:Value) (w:World) (hv:Mat w.heap.size 22 3 w v P) (hg:Good d P) (hs:SAsc P) :
  Calls Tryz.prog 83 #[v] w fun r w'=>∃u rows,r=.returned u∧Fr w.heap.size 22 3 w' u rows∧Inw rows (rowsC P [] d P)∧Below w.heap.size w w':=by
 by_cases h:d=1
 ·subst h
  refine (rowsAround1_any P v w hv hg).mono ?_
  rintro r w' ⟨u,rfl,hf,hb⟩
  exact ⟨u,_,rfl,hf,⟨line_rows hg hs,line_asc P⟩,hb⟩
 ·obtain ⟨e,rfl⟩:∃e,d=e+1:=⟨d-1,by have:=hg.d1; omega⟩
  refine (rowsAround2_any (e+1) e P v w hv hg rfl (by omega)).mono ?_
  rintro r w' ⟨u,m',m,rfl,hf,hin,hq,hb⟩
  exact ⟨u,m',rfl,hf,⟨fun r=>(hin.mem r).trans (hq.mem hg (by omega) r),hin.asc⟩,hb⟩
set_option maxRecDepth 100000 in
set_option maxHeartbeats 800000 in
theorem wrapRows_any (d:Nat) (P:List (List Int)) (v:Value) (w:World) (hv:Mat w.heap.size 22 3 w v P) (hg:Good d P) :
  Calls Tryz.prog 108 #[v] w fun e w'=>∃u P' rows,e=.returned u∧Fr w.heap.size 22 3 w' u rows∧Inor P' P∧Inw rows (rowsC P' [] d P')∧Below w.heap.size w w':=by
 obtain ⟨po,pc,rfl,hlc,hcm⟩:=mat_open hv
 have HG:Hid (Good d P):=hg
 have HDS:Hid (Calls Tryz.prog 81 #[.slice po P.length pc] w fun e w'=>∃xo xl xc P',e=.returned (.slice xo xl xc)∧(Mat w'.heap.size 22 3 w' (.slice xo xl xc) P'∧Inor P' P∧Below w.heap.size w w')):=by
  refine (distinct_any w.heap.size P _ w hv (by have:=hg.n24; omega) (fun r hr=>by rw [(hg.box r hr).1]; have:=hg.d4; omega)).mono ?_
  rintro e w' ⟨y,P',rfl,hf,hin,hb⟩
  have hM:Mat w'.heap.size 22 3 w' y P':=hf.rws.mat hb.size
  obtain ⟨yo,yc,hyv,_,_⟩:=mat_open hM
  subst hyv
  exact ⟨yo,_,yc,P',rfl,hM,hin,hb⟩
 clear hv hg
 go_enter Tryz.func108,Tryz.ntmps108
 go_wp2_with fail
 refine HDS.out.mono ?_
 rintro e w1 ⟨xo,xl,xc,P',rfl,hx⟩
 have HX:Hid (Mat w1.heap.size 22 3 w1 (.slice xo xl xc) P'∧Inor P' P∧Below w.heap.size w w1):=hx
 clear hx HDS
 go_wp2_with fail
 refine (wrapAround_any d P' _ w1 HX.out.1 (good_of HG.out HX.out.2.1.mem HX.out.2.1.len) HX.out.2.1.asc).mono ?_
 rintro e w2 ⟨u,rows,rfl,hf,hin,hb⟩
 have HF:Hid (Fr w1.heap.size 22 3 w2 u rows):=hf
 have HI:Hid (Inw rows (rowsC P' [] d P')):=hin
 have HB:Hid (Below w.heap.size w w2):=HX.out.2.2.trans (hb.mono HX.out.2.2.size)
 obtain ⟨uo,uc,huv,_,_⟩:=fr_open hf
 subst huv
 clear hf hin hb
 go_wp2
 go_ret
 exact ⟨_,P',rows,rfl,HF.out.mono HX.out.2.2.size,HX.out.2.1,HI.out,HB.out⟩
end Go.Proofs.YtfhjjpiakffagaaGreatDoor
namespace Go.Proofs.YtfhjjpiakffagaaGreatDoor
open Go.RowKit
attribute [local go_sem ↓] Go.wp_at_zero Go.wp_at_succ
theorem chk100_ok (B d:Nat) (x:List Int) (u:Value) (w:World) (hu:Sl B 3 w u (ints x)) (hx:x.length=d) (hn:(x.any (farB · 100))=false) :
  Calls Tryz.prog 54 #[u,.int .i64 d,.int .i64 100] w fun e w'=>e=.returned (.int .i64 0)∧Below w.heap.size w w':=by
 refine (chkL_any B d 100 x u w hu (by omega) (by omega)).mono ?_
 rintro e w' ⟨rfl,hb⟩
 exact ⟨by rw [if_neg (by simp [hx]),if_neg (by simp [hn])],hb⟩
set_option maxRecDepth 100000 in
set_option maxHeartbeats 1600000 in
theorem hullCheckK (d:Nat) (P:List (List Int)) (v:Value) (w:World) (hv:Mat w.heap.size 22 3 w v P) (hg:Good d P) :
  Calls Tryz.prog 58 #[.agg #[.int .i64 d,v]] w fun e w'=>e=.returned (.int .i64 0)∧Below w.heap.size w w':=by
 obtain ⟨b,o,cap,r1,hvv,hlc,_,_⟩:=mat_cell hv (k:=0) (by have:=hg.n2; omega)
 subst hvv
 have HG:Hid (Good d P):=hg
 have h1:=hg.d1
 have h4:=hg.d4
 have h2:=hg.n2
 have h24:=hg.n24
 obtain ⟨W,hW⟩:∃W,W=w.alloc (.cells #[.int .i64 d,.slice (some ⟨b,o,none⟩) P.length cap] 26):=⟨_,rfl⟩
 have hbw:Below w.heap.size w W:=by rw [hW]; exact alloc_keep _ _
 have HW:Hid (Below w.heap.size w W):=hbw
 have HV:Hid (Mat w.heap.size 22 3 W (.slice (some ⟨b,o,none⟩) P.length cap) P):=hv.below hbw (Nat.le_refl _)
 have hsW:W.heap.size=w.heap.size+1:=by rw [hW]; exact size_alloc _ _
 have c0:W.cell? ⟨w.heap.size,0,none⟩=some (.int .i64 d):=by rw [hW]; simp
 have c1:W.cell? ⟨w.heap.size,1,none⟩=some (.slice (some ⟨b,o,none⟩) P.length cap):=by rw [hW]; simp
 have HC:Hid (∀W',Below W.heap.size W W'→W'.cell? ⟨w.heap.size,0,none⟩=some (.int .i64 d)∧W'.cell? ⟨w.heap.size,1,none⟩=some (.slice (some ⟨b,o,none⟩) P.length cap)):=fun W' h=>⟨(h.cell (lt_of_cell c0)).trans c0,(h.cell (lt_of_cell c1)).trans c1⟩
 clear hv hg hbw
 have t1:decide ((d:Int) < 1)=false:=by simp; omega
 have t2:decide ((4:Int) < (d:Int))=false:=by simp; omega
 have t3:decide ((P.length:Int) < 1)=false:=by simp; omega
 have t4:decide ((24:Int) < (P.length:Int))=false:=by simp; omega
 go_enter Tryz.func58,Tryz.ntmps58
 go_wp2
 rw [←hW]
 clear hW
 go_loopw [27] (fun i wr=>∃k:Nat,k≤P.length∧i=.int .i64 k∧Below W.heap.size W wr) (fun i _=>P.length-(intOf i).toNat)
 case atStart=>exact ⟨0,Nat.zero_le _,rfl,Below.refl _ _⟩
 case round=>
  obtain ⟨k,hk,rfl,hbel⟩:=hrel
  have HB:Hid (Below W.heap.size W wr):=hbel
  have e0:=(HC.out wr hbel).1
  have e1:=(HC.out wr hbel).2
  clear hbel
  by_cases hlt:k < P.length
  ·obtain ⟨b2,o2,cp2,rk,hs,hc1,hcc,hrk⟩:=mat_cell (HV.out.below HB.out (Nat.le_refl _)) hlt
   simp only [Value.slice.injEq,Option.some.injEq,Addr.mk.injEq,and_true,true_and] at hs
   obtain ⟨⟨rfl,rfl⟩,rfl⟩:=hs
   obtain ⟨ro,rc,hrv,_,_⟩:=sl_open hrk
   subst hrv
   have hmem:P.getD k []∈P:=by simp [hlt]
   have HRK:Hid (Sl w.heap.size 3 wr (.slice ro (P.getD k []).length rc) (ints (P.getD k []))):=hrk
   have HL:Hid ((P.getD k []).length=d):=(HG.out.box _ hmem).1
   have HN:Hid (((P.getD k []).any (farB · 100))=false):=box_near HG.out.box (by decide) hmem
   clear hrk hmem
   generalize P.getD k []=q at *
   generalize hql:q.length=ql at *
   have HQ:Hid (q.length=ql):=hql
   clear hql
   go_wp2_with fail
   refine (chk100_ok w.heap.size d q _ wr HRK.out (by rw [HQ.out]; exact HL.out) HN.out).mono ?_
   rintro e w2 ⟨rfl,hb2⟩
   have HB2:Hid (Below W.heap.size W w2):=HB.out.trans (hb2.mono HB.out.size)
   clear hb2
   go_wp2
   go_roundw
   case rel=>exact ⟨k+1,by omega,by go_num,HB2.out⟩
   case measure=>simp [intOf]; omega
  ·have HRW:Hid (∀r∈P,r.length=d):=fun r hr=>(HG.out.box r hr).1
   have HRB:Hid (∀r∈P,∀z∈r,z.natAbs≤1000000):=fun r hr z hz=>by have:=box_small HG.out.box hr z hz; omega
   have HVr:Hid (Mat w.heap.size 22 3 wr (.slice (some ⟨b,o,none⟩) P.length cap) P):=HV.out.below HB.out (Nat.le_refl _)
   have HDF:Hid (Calls Tryz.prog 61 #[.slice (some ⟨b,o,none⟩) P.length cap] wr.drew fun e w'=>∃xo xl xc,e=.returned (.slice xo xl xc)∧(Mat w'.heap.size 22 3 w' (.slice xo xl xc) (diffL P)∧Below W.heap.size W w')):=by
    refine (differences_any w.heap.size d P _ wr.drew (HVr.out.drewN 1) (by omega) (by omega) h1 (by omega) HRW.out HRB.out).mono ?_
    rintro e w' ⟨x,rfl,hx,hb⟩
    have hM:=hx.mat (B':=w'.heap.size) hb.size
    obtain ⟨xo,xc,hxv,_,_⟩:=mat_open hM
    subst hxv
    exact ⟨xo,_,xc,rfl,hM,HB.out.drew.trans (hb.mono HB.out.size)⟩
   have HRK:Hid (∀w' xo xl xc,Mat w'.heap.size 22 3 w' (.slice xo xl xc) (diffL P)→Below W.heap.size W w'→Calls Tryz.prog 80 #[.slice xo xl xc,.int .i64 d] w' fun e w''=>e=.returned (.int .i64 d)∧Below W.heap.size W w''):=fun w' xo xl xc hM hb=>by
    have hmx:=diff_mx HG.out.box h1 (show d≤5 by omega)
    refine (rankP_any w'.heap.size d (diffL P) _ w' hmx hM (by rw [diffL_length]; omega) (by rw [diffL_length]; omega)).mono ?_
    rintro e w'' ⟨rfl,hb2⟩
    exact ⟨by rw [HG.out.full],hb.trans (hb2.mono hb.size)⟩
   have hdd:decide ((d:Int) < (d:Int))=false:=by simp
   go_wp2
   go_region_law (first
    | (refine step_call (o:={ dst:=some 41,op:=_,type:=_,pos:=_,after:=_,guard:=_ }) (by rfl) 61 _ 24 (by rfl) _ (by rfl) ⟨_,Tryz.func61,by rfl,by rfl⟩ ?_; refine (HDF.out).mono ?_; rintro e w2 ⟨xo,xl,xc,rfl,hx⟩; refine ⟨_,rfl,?_⟩; have HX2:Hid (Mat w2.heap.size 22 3 w2 (.slice xo xl xc) (diffL P)∧Below W.heap.size W w2):=hx; have f0:=(HC.out w2 hx.2).1; clear hx)
    | (refine step_call2 (o:={ dst:=some 44,op:=_,type:=_,pos:=_,after:=_,guard:=_ }) (by rfl) 80 _ _ 24 3 (by rfl) _ _ (by rfl) (by rfl) ⟨_,Tryz.func80,by rfl,by rfl⟩ ?_; refine (HRK.out w2 xo xl xc HX2.out.1 HX2.out.2).mono ?_; rintro e w3 ⟨rfl,hb3⟩; refine ⟨_,rfl,?_⟩; have HB3:Hid (Below W.heap.size W w3):=hb3; have g0:=(HC.out w3 hb3).1; clear hb3))
   all_goals
    go_wp2
    go_ret
    exact ⟨rfl,HW.out.trans (HB3.out.mono HW.out.size)⟩
end Go.Proofs.YtfhjjpiakffagaaGreatDoor
namespace Go.Proofs.YtfhjjpiakffagaaGreatDoor
open Go.RowKit Lin
attribute [local go_sem ↓] Go.wp_at_zero Go.wp_at_succ
set_option maxRecDepth 100000 in
set_option maxHeartbeats 800000 in
theorem wrapCorners_any (d:Nat) (P:List (List Int)) (v:Value) (w:World) (hv:Mat w.heap.size 22 3 w v P) (hg:Good d P) :
  Calls Tryz.prog 59 #[v] w fun e w'=>∃u P' rows,e=.returned u∧Fr w.heap.size 22 3 w' u (P'.filter fun x=>!twin rows P' x)∧Inor P' P∧Inw rows (rowsC P' [] d P')∧Below w.heap.size w w':=by
 obtain ⟨po,pc,rfl,hlc,hcm⟩:=mat_open hv
 have HG:Hid (Good d P):=hg
 have h4:=hg.d4
 have HDS:Hid (Calls Tryz.prog 81 #[.slice po P.length pc] w fun e w'=>∃xo xl xc P',e=.returned (.slice xo xl xc)∧(Mat 0 22 3 w' (.slice xo xl xc) P'∧Inor P' P∧Below w.heap.size w w')):=by
  refine (distinct_any w.heap.size P _ w hv (by have:=hg.n24; omega) (fun r hr=>by rw [(hg.box r hr).1]; have:=hg.d4; omega)).mono ?_
  rintro e w' ⟨y,P',rfl,hf,hin,hb⟩
  have hM:Mat 0 22 3 w' y P':=by
   obtain ⟨vs,f1,f2,f3⟩:=hf
   exact ⟨vs,f1,Sl.own f2,f3⟩
  obtain ⟨yo,yc,hyv,_,_⟩:=mat_open hM
  subst hyv
  exact ⟨yo,_,yc,P',rfl,hM,hin,hb⟩
 have HRA:Hid (∀w' xo xl xc P',Mat 0 22 3 w' (.slice xo xl xc) P'→Inor P' P→Below w.heap.size w w'→Calls Tryz.prog 83 #[.slice xo xl xc] w' fun e w''=>∃yo yl yc rows,e=.returned (.slice yo yl yc)∧(Mat w''.heap.size 22 3 w'' (.slice yo yl yc) rows∧Mat 0 22 3 w'' (.slice xo xl xc) P'∧Inw rows (rowsC P' [] d P')∧Below w.heap.size w w'')):=fun w' xo xl xc P' hM hin hb=>by
  refine (wrapAround_any d P' _ w' (hM.more (Nat.zero_le _)) (good_of HG.out hin.mem hin.len) hin.asc).mono ?_
  rintro e w'' ⟨y,rows,rfl,hf,hin2,hb2⟩
  have hM2:Mat w''.heap.size 22 3 w'' y rows:=hf.rws.mat hb2.size
  obtain ⟨yo,yc,hyv,_,_⟩:=mat_open hM2
  subst hyv
  exact ⟨yo,_,yc,rows,rfl,hM2,hM.below hb2 (Nat.le_refl _),hin2,hb.trans (hb2.mono hb.size)⟩
 have HCO:Hid (∀w' xv yv P' rows,Mat 0 22 3 w' xv P'→Mat w'.heap.size 22 3 w' yv rows→Inor P' P→Inw rows (rowsC P' [] d P')→Below w.heap.size w w'→Calls Tryz.prog 82 #[xv,yv] w' fun e w''=>∃u,e=.returned u∧(Fr w.heap.size 22 3 w'' u (P'.filter fun x=>!twin rows P' x)∧Below w.heap.size w w'')):=fun w' xv yv P' rows hM hR hin hin2 hb=>by
  refine (cornersZ_any w'.heap.size rows P' xv yv w' hM hR (by have:=hin.len; have:=HG.out.n24; omega) fun x hx r hr y hy=>?_).mono ?_
  ·have hrow:=rowsC_fit HG.out.box HG.out.d1 (by omega) hin.mem ((hin2.mem r).1 hr)
   have hxP:=(hin.mem x).1 hx
   have hyP:=(hin.mem y).1 hy
   have s1:=sm_of hrow h4 (HG.out.box x hxP).1 (box_small HG.out.box hxP)
   have s2:=sm_of hrow h4 (HG.out.box y hyP).1 (box_small HG.out.box hyP)
   exact ⟨s1.1,s2.1,s1.2,s2.2⟩
  ·rintro e w'' ⟨u,rfl,h1,h2⟩
   exact ⟨u,rfl,h1.mono hb.size,hb.trans (h2.mono hb.size)⟩
 clear hv hg
 go_enter Tryz.func59,Tryz.ntmps59
 go_wp2_with fail
 refine HDS.out.mono ?_
 rintro e w3 ⟨xo,xl,xc,P',rfl,hx⟩
 have HX3:Hid (Mat 0 22 3 w3 (.slice xo xl xc) P'∧Inor P' P∧Below w.heap.size w w3):=hx
 clear hx HDS
 go_wp2_with fail
 refine (HRA.out w3 xo xl xc P' HX3.out.1 HX3.out.2.1 HX3.out.2.2).mono ?_
 rintro e w4 ⟨yo,yl,yc,rows,rfl,hy⟩
 have HY4:Hid (Mat w4.heap.size 22 3 w4 (.slice yo yl yc) rows∧Mat 0 22 3 w4 (.slice xo xl xc) P'∧Inw rows (rowsC P' [] d P')∧Below w.heap.size w w4):=hy
 clear hy
 go_wp2_with fail
 refine (HCO.out w4 _ _ P' rows HY4.out.2.1 HY4.out.1 HX3.out.2.1 HY4.out.2.2.1 HY4.out.2.2.2).mono ?_
 rintro e w5 ⟨u,rfl,hu⟩
 have HU5:Hid (Fr w.heap.size 22 3 w5 u (P'.filter fun x=>!twin rows P' x)∧Below w.heap.size w w5):=hu
 clear hu
 go_wp2
 go_ret
 exact ⟨u,P',rows,rfl,HU5.out.1,HX3.out.2.1,HY4.out.2.2.1,HU5.out.2⟩
set_option maxRecDepth 100000 in
set_option maxHeartbeats 800000 in
theorem cornersK_fr (d:Nat) (P:List (List Int)) (v:Value) (w:World) (hv:Mat w.heap.size 22 3 w v P) (hg:Good d P) :
  Calls Tryz.prog 43 #[.agg #[.int .i64 d,v]] w fun e w'=>∃P' u rows,Inor P' P∧Inw rows (rowsC P' [] d P')∧e=.returned (.tuple #[u,.int .i64 0])∧Fr w.heap.size 22 3 w' u (P'.filter fun x=>!twin rows P' x)∧Below w.heap.size w w':=by
 obtain ⟨b,o,cap,r1,hvv,hlc,_,_⟩:=mat_cell hv (k:=0) (by have:=hg.n2; omega)
 subst hvv
 have HG:Hid (Good d P):=hg
 obtain ⟨W,hW⟩:∃W,W=w.alloc (.cells #[.int .i64 d,.slice (some ⟨b,o,none⟩) P.length cap] 26):=⟨_,rfl⟩
 have hbw:Below w.heap.size w W:=by rw [hW]; exact alloc_keep _ _
 have HW:Hid (Below w.heap.size w W):=hbw
 have HV:Hid (Mat w.heap.size 22 3 W (.slice (some ⟨b,o,none⟩) P.length cap) P):=hv.below hbw (Nat.le_refl _)
 have hsW:W.heap.size=w.heap.size+1:=by rw [hW]; exact size_alloc _ _
 have c0:W.cell? ⟨w.heap.size,0,none⟩=some (.int .i64 d):=by rw [hW]; simp
 have c1:W.cell? ⟨w.heap.size,1,none⟩=some (.slice (some ⟨b,o,none⟩) P.length cap):=by rw [hW]; simp
 have HC:Hid (∀W',Below W.heap.size W W'→W'.cell? ⟨w.heap.size,0,none⟩=some (.int .i64 d)∧W'.cell? ⟨w.heap.size,1,none⟩=some (.slice (some ⟨b,o,none⟩) P.length cap)):=fun W' h=>⟨(h.cell (lt_of_cell c0)).trans c0,(h.cell (lt_of_cell c1)).trans c1⟩
 clear hv hg hbw
 go_enter Tryz.func43,Tryz.ntmps43
 go_wp2_with fail
 rw [←hW]
 clear hW
 refine (hullCheckK d P _ W (HV.out.any (by omega)) HG.out).mono ?_
 rintro e w2 ⟨rfl,hb12⟩
 have HB2:Hid (Below W.heap.size W w2):=hb12
 have e2:=(HC.out w2 hb12).1
 have e3:=(HC.out w2 hb12).2
 clear hb12
 go_wp2_with fail
 refine (wrapCorners_any d P _ w2 ((HV.out.below HB2.out (Nat.le_refl _)).any (by have:=HB2.out.size; omega)) HG.out).mono ?_
 rintro e w5 ⟨u,P',rows,rfl,q1,q2,q3,q4⟩
 have HU5:Hid (Fr w2.heap.size 22 3 w5 u (P'.filter fun x=>!twin rows P' x)∧Inor P' P∧Inw rows (rowsC P' [] d P')∧Below W.heap.size W w5):=⟨q1,q2,q3,HB2.out.trans (q4.mono HB2.out.size)⟩
 clear q1 q2 q3 q4
 go_wp2
 go_ret2
 exact ⟨P',u,rows,HU5.out.2.1,HU5.out.2.2.1,rfl,HU5.out.1.mono (by have:=HB2.out.size; omega),HW.out.trans (HU5.out.2.2.2.mono (by omega))⟩
set_option maxRecDepth 100000 in
set_option maxHeartbeats 800000 in
theorem rowsK_fr (d:Nat) (P:List (List Int)) (v:Value) (w:World) (hv:Mat w.heap.size 22 3 w v P) (hg:Good d P) :
  Calls Tryz.prog 86 #[.agg #[.int .i64 d,v]] w fun e w'=>∃P' u rows,Inor P' P∧Inw rows (rowsC P' [] d P')∧e=.returned (.tuple #[u,.int .i64 0])∧Fr w.heap.size 22 3 w' u rows∧Below w.heap.size w w':=by
 obtain ⟨b,o,cap,r1,hvv,hlc,_,_⟩:=mat_cell hv (k:=0) (by have:=hg.n2; omega)
 subst hvv
 have HG:Hid (Good d P):=hg
 obtain ⟨W,hW⟩:∃W,W=w.alloc (.cells #[.int .i64 d,.slice (some ⟨b,o,none⟩) P.length cap] 26):=⟨_,rfl⟩
 have hbw:Below w.heap.size w W:=by rw [hW]; exact alloc_keep _ _
 have HW:Hid (Below w.heap.size w W):=hbw
 have HV:Hid (Mat w.heap.size 22 3 W (.slice (some ⟨b,o,none⟩) P.length cap) P):=hv.below hbw (Nat.le_refl _)
 have hsW:W.heap.size=w.heap.size+1:=by rw [hW]; exact size_alloc _ _
 have c0:W.cell? ⟨w.heap.size,0,none⟩=some (.int .i64 d):=by rw [hW]; simp
 have c1:W.cell? ⟨w.heap.size,1,none⟩=some (.slice (some ⟨b,o,none⟩) P.length cap):=by rw [hW]; simp
 have HC:Hid (∀W',Below W.heap.size W W'→W'.cell? ⟨w.heap.size,0,none⟩=some (.int .i64 d)∧W'.cell? ⟨w.heap.size,1,none⟩=some (.slice (some ⟨b,o,none⟩) P.length cap)):=fun W' h=>⟨(h.cell (lt_of_cell c0)).trans c0,(h.cell (lt_of_cell c1)).trans c1⟩
 clear hv hg hbw
 go_enter Tryz.func86,Tryz.ntmps86
 go_wp2_with fail
 rw [←hW]
 clear hW
 refine (hullCheckK d P _ W (HV.out.any (by omega)) HG.out).mono ?_
 rintro e w2 ⟨rfl,hb12⟩
 have HB2:Hid (Below W.heap.size W w2):=hb12
 have e2:=(HC.out w2 hb12).1
 have e3:=(HC.out w2 hb12).2
 clear hb12
 go_wp2_with fail
 refine (wrapRows_any d P _ w2 ((HV.out.below HB2.out (Nat.le_refl _)).any (by have:=HB2.out.size; omega)) HG.out).mono ?_
 rintro e w5 ⟨u,P',rows,rfl,q1,q2,q3,q4⟩
 have HU5:Hid (Fr w2.heap.size 22 3 w5 u rows∧Inor P' P∧Inw rows (rowsC P' [] d P')∧Below W.heap.size W w5):=⟨q1,q2,q3,HB2.out.trans (q4.mono HB2.out.size)⟩
 clear q1 q2 q3 q4
 go_wp2
 go_ret2
 exact ⟨P',u,rows,HU5.out.2.1,HU5.out.2.2.1,rfl,HU5.out.1.mono (by have:=HB2.out.size; omega),HW.out.trans (HU5.out.2.2.2.mono (by omega))⟩
end Go.Proofs.YtfhjjpiakffagaaGreatDoor
