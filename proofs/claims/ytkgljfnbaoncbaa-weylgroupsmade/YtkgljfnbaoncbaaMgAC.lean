import Derived.Test.YtkgljfnbaoncbaaMgAB
import Derived.Laws.AppendOwnNone
import Derived.Test.YtkgljfnbaoncbaaLinAll
import Derived.Deep.RegionHeld3
import Derived.Deep.RegionLaw
import Derived.Deep.DrawnRows
import Derived.Maps.AppendAt
import Derived.Test.YtkgljfnbaoncbaaMgAA
import Derived.Deep.OwnRows
import Derived.Deep.QuietTactic
import Derived.BigQuiet
/- The document's answer: copies, signs, divisors. -/
namespace Go.Proofs.Ytkgljfnbaoncbaa
open Go.RowKit

theorem ints_oneCell' (l : List Int) : ∀ u ∈ ints l, u.oneCell' = true := by
  intro u hu; simp only [ints, List.mem_map] at hu; obtain ⟨z, _, rfl⟩ := hu; rfl

theorem sl_cells {B : Nat} {e : TypeId} {w : World} {a : Addr} {n cap : Nat} {xs : List Value} (h : Sl B e w (.slice (some a) n cap) xs) (o : Obj) : ∀ j u, xs[j]? = some u → (w.alloc o).cell? (a.add j) = some u := by
  intro j u hj
  have hlt : j < xs.length := by
    rcases Nat.lt_or_ge j xs.length with h' | h'
    · exact h'
    · rw [List.getElem?_eq_none h'] at hj; cases hj
  obtain ⟨ao, c, hv, h1, h2, h3, h4⟩ := h.alloc o
  simp only [Value.slice.injEq] at hv
  obtain ⟨rfl, _, rfl⟩ := hv
  obtain ⟨b, of, hb, hc, _⟩ := h3 j hlt
  simp only [Option.some.injEq] at hb
  subst hb
  rw [← hj, ← hc]
  by_cases hj0 : j = 0
  · subst hj0; simp [Addr.add]
  · simp [Addr.add, hj0]

set_option maxHeartbeats 400000 in
theorem copy_any (B : Nat) (l : List Int) (v : Value) (w : World) (hv : Sl B 3 w v (ints l)) (hl : l.length ≤ 1000000) :
    Calls Try.prog 35 #[v] w fun e w' => ∃ u, e = .returned u ∧ w'.ownsRow w.heap.size 3 1 u l.length (ints l) ∧ Below w.heap.size w w' := by
  obtain ⟨i3, hi3, hz30, hz31, hz32⟩ := info_parts Try.info3
  have hv' := hv
  obtain ⟨ao, cap, hvv, hlc, hcm, hcell, hnil⟩ := hv'
  simp only [ints_length] at hvv hlc
  subst hvv
  have HV : Hid (Sl B 3 w (.slice ao l.length cap) (ints l)) := hv
  clear hcell hv
  have HE : Hid ((w.alloc (.cells #[] 3)).ownsRow w.heap.size 3 1 (.slice (some ⟨w.heap.size, 0, none⟩) 0 0) 0 []) :=
    World.ownsRow_made w #[] 0 (Nat.le_refl _) (by simp [maxLen]) (by simp)
  cases ao with
  | none =>
    have hc0 := hnil rfl
    subst hc0
    have hl0 : l = [] := List.eq_nil_of_length_eq_zero (by omega)
    subst hl0
    go_enter Try.func35, Try.ntmps35
    go_wp2_with (first | (at_builtin; refine wpList_append_own_none rfl _ _ 26 rfl w.heap.size 3 i3 1 Try.underlying26 hi3 _ _ _ rfl HE.out rfl ?_))
    go_ret
    exact ⟨_, rfl, HE.out, (Below.refl _ _).alloc (Nat.le_refl _) _⟩
  | some a =>
    clear hnil
    go_enter Try.func35, Try.ntmps35
    go_wp2_with (first | (at_builtin; refine wpList_append_own _ rfl _ _ 26 rfl w.heap.size 3 i3 (.int .i64 0) 1 8 Try.underlying26 hi3 hz30 hz31 hz32 rfl (by decide) _ _ _ rfl HE.out a l.length cap (ints l) rfl (by simp) (sl_cells HV.out _) (ints_oneCell' l) ?c3 ?c4 ?c5 ?_))
    case c3 => unfold maxLen; omega
    case c4 => omega
    case c5 => simp
    intro v' w3 ho hg _
    have ho' : w3.ownsRow w.heap.size 3 1 v' l.length (ints l) := by simpa using ho
    have HO : Hid (w3.ownsRow w.heap.size 3 1 v' l.length (ints l)) := ho'
    have HB : Hid (Below w.heap.size w w3) := ((Below.refl _ _).alloc (Nat.le_refl _) _).grown hg (by simp) (fun k hk => by simp [Value.ownBlock] at hk; omega)
    clear ho ho' hg
    go_wp2
    go_ret
    exact ⟨_, rfl, HO.out, HB.out⟩

end Go.Proofs.Ytkgljfnbaoncbaa

/- The document's answer: all rising choices. -/
namespace Go.Proofs.Ytkgljfnbaoncbaa
open Go.RowKit

/-- Rows of the call's own, each inner one of its own, too. -/
def Fr (B : Nat) (e2 e1 : TypeId) (w : World) (v : Value) (m : List (List Int)) : Prop :=
  ∃ vs, vs.length = m.length ∧ w.ownsRow B e2 1 v m.length vs ∧ ∀ i, i < m.length → Sl 0 e1 w (vs.getD i (.slice none 0 0)) (ints (m.getD i []))

theorem Fr.rws {B : Nat} {e2 e1 : TypeId} {w : World} {v : Value} {m : List (List Int)} (h : Fr B e2 e1 w v m) : Rws B e2 e1 w v m := by
  obtain ⟨vs, h1, h2, h3⟩ := h
  exact ⟨vs, h1, h2, fun i hi => (h3 i hi).more (Nat.zero_le _)⟩

theorem Fr.nil (B : Nat) (e2 e1 : TypeId) (w : World) : Fr B e2 e1 w (.slice none 0 0) [] :=
  ⟨[], rfl, World.ownsRow_nil _ _ _ _, fun i hi => absurd hi (by simp)⟩

theorem Fr.below {B N : Nat} {e2 e1 : TypeId} {w w' : World} {v : Value} {m : List (List Int)} (h : Fr B e2 e1 w v m) (hb : Below N w w') (hN : w.heap.size ≤ N) : Fr B e2 e1 w' v m := by
  obtain ⟨vs, h1, h2, h3⟩ := h
  exact ⟨vs, h1, owns_below h2 hb hN, fun i hi => (h3 i hi).below hb hN⟩

theorem Fr.alloc {B : Nat} {e2 e1 : TypeId} {w : World} {v : Value} {m : List (List Int)} (h : Fr B e2 e1 w v m) (o : Obj) : Fr B e2 e1 (w.alloc o) v m := by
  obtain ⟨vs, h1, h2, h3⟩ := h
  exact ⟨vs, h1, h2.alloc o, fun i hi => (h3 i hi).alloc o⟩

/-- Another row of rows, appended to. -/
theorem Fr.kept {B B' n : Nat} {e2 e1 : TypeId} {w w' : World} {v u : Value} {m : List (List Int)} {us : List Value} (hne : e2 ≠ e1) (h : Fr B e2 e1 w v m) (hu : w.ownsRow B' e2 1 u n us) (hg : w.grownBy w' u.ownBlock)
    (ha : ∀ g, u.ownBlock = some g → v.ownBlock ≠ some g) : Fr B e2 e1 w' v m := by
  obtain ⟨vs, h1, h2, h3⟩ := h
  refine ⟨vs, h1, h2.kept hg ?_, fun i hi => (h3 i hi).grown hg (fun k hk => ⟨Nat.zero_le _, (owns_typed hu hne k hk).2⟩)⟩
  cases hv : v.ownBlock with
  | none => exact Or.inl rfl
  | some g => exact Or.inr fun e => ha g e.symm hv

theorem Fr.push {B : Nat} {e2 e1 : TypeId} {w w' : World} {v v' u : Value} {m : List (List Int)} {vs : List Value} {zs : List Int} (hne : e2 ≠ e1)
    (h1 : vs.length = m.length) (h2 : w.ownsRow B e2 1 v m.length vs) (h3 : ∀ i, i < m.length → Sl 0 e1 w (vs.getD i (.slice none 0 0)) (ints (m.getD i []))) (hu : Sl 0 e1 w u (ints zs))
    (ho : w'.ownsRow B e2 1 v' (m.length + 1) (vs ++ [u])) (hg : w.grownBy w' v.ownBlock) : Fr B e2 e1 w' v' (m ++ [zs]) := by
  have ht : ∀ k, v.ownBlock = some k → 0 ≤ k ∧ ∀ cur, w.heap[k]? ≠ some (.cells cur e1 (0, 0)) := fun k hk => ⟨Nat.zero_le _, (owns_typed h2 hne k hk).2⟩
  refine ⟨vs ++ [u], by simp [h1], by simpa using ho, fun i hi => ?_⟩
  by_cases hlt : i < m.length
  · have e1' : (vs ++ [u]).getD i (.slice none 0 0) = vs.getD i (.slice none 0 0) := by
      simp only [List.getD_eq_getElem?_getD]; rw [List.getElem?_append_left (by omega)]
    have e2' : (m ++ [zs]).getD i [] = m.getD i [] := by
      simp only [List.getD_eq_getElem?_getD]; rw [List.getElem?_append_left (by omega)]
    rw [e1', e2']
    exact (h3 i hlt).grown hg ht
  · have hi' : i = m.length := by simp at hi; omega
    subst hi'
    have e1' : (vs ++ [u]).getD m.length (.slice none 0 0) = u := by
      rw [← h1]; simp
    have e2' : (m ++ [zs]).getD m.length [] = zs := by simp
    rw [e1', e2']
    exact hu.grown hg ht

/-- Two slices do not lie in one block. -/
def Apart (x l : Value) : Prop := ∀ g, x.ownBlock = some g → l.ownBlock ≠ some g

end Go.Proofs.Ytkgljfnbaoncbaa

/- mirror.Over: marks, turned over in their own memory. -/
namespace Go.Proofs.Ytkgljfnbaoncbaa
open Go.RowKit
attribute [local go_sem ↓] Go.wp_at_zero Go.wp_at_succ

/-- A square of so many rows of small numbers. -/
structure Sqc (n : Nat) (c : List (List Int)) : Prop where
  len : c.length = n
  n4 : n ≤ 4
  row : ∀ r ∈ c, r.length = n
  ent : ∀ i j, -3 ≤ cE c i j ∧ cE c i j ≤ 3

/-- All blocks but one are as they were. -/
structure Only (g : Nat) (w w' : World) : Prop where
  os : w'.os = w.os
  tape : w'.tape = w.tape
  output : w'.output = w.output
  size : w'.heap.size = w.heap.size
  block : ∀ b, b ≠ g → w'.heap[b]? = w.heap[b]?

theorem Only.refl (g : Nat) (w : World) : Only g w w := ⟨rfl, rfl, rfl, rfl, fun _ _ => rfl⟩
theorem Only.trans {g : Nat} {a b c : World} (h : Only g a b) (k : Only g b c) : Only g a c := ⟨k.os.trans h.os, k.tape.trans h.tape, k.output.trans h.output, k.size.trans h.size, fun x hx => (k.block x hx).trans (h.block x hx)⟩
theorem Only.set {g : Nat} {a b : World} (h : Only g a b) (j : Nat) (u : Value) : Only g a (b.setCell ⟨g, j, none⟩ u) := ⟨h.os, h.tape, h.output, by simp only [World.setCell, Array.size_modify]; exact h.size, fun x hx => (Below.heap_setCell _ _ _ _ hx).trans (h.block x hx)⟩
theorem Only.drew {g : Nat} {a b : World} (h : Only g a b) : Only g a b.drew := ⟨h.os, h.tape, h.output, h.size, h.block⟩

/-- The first marks turned over. -/
def ovF (c : List (List Int)) (v : List Int) (r j k : Nat) : Int := if k < j then v.getD k 0 - v.getD r 0 * cE c r k else v.getD k 0

set_option maxRecDepth 100000 in
set_option maxHeartbeats 1600000 in
theorem over_any (n : Nat) (c : List (List Int)) (v : List Int) (r g B : Nat) (cv : Value) (w0 w : World) (hc : Sqc n c) (hm : Mat B 26 3 w0 cv c) (hag : ∀ b, b < w0.heap.size → w.heap[b]? = w0.heap[b]?) (hg : w0.heap.size ≤ g) (hr : r < n) (hv : ∀ k, -1000000 ≤ v.getD k 0 ∧ v.getD k 0 ≤ 1000000)
    (hrow : w.rowIs g 3 n (fun k => .int .i64 (v.getD k 0))) :
    Calls Try.prog 50 #[cv, .slice (some ⟨g, 0, none⟩) n n, .int .i64 r] w fun e w' => e = .returned (.tuple #[]) ∧ w'.rowIs g 3 n (fun k => .int .i64 ((ovL c v r).getD k 0)) ∧ Only g w w' := by
  obtain ⟨ao, cap, hvv, hlc, hcm⟩ := mat_open hm
  subst hvv
  have hn4 := hc.n4
  have HCL : Hid (c.length = n) := hc.len
  have HC : Hid (Mat B 26 3 w0 (.slice ao c.length cap) c) := hm
  have HAG : Hid (∀ W' (a : Nat) (o : Nat) u, Only g w W' → w0.cell? ⟨a, o, none⟩ = some u → W'.cell? ⟨a, o, none⟩ = some u) := fun W' a o u h1 h2 => by
    have hb := lt_of_cell h2
    exact (World.cell?_of_block (w := w0) ((h1.block a (by omega)).trans (hag a hb))).trans h2
  have HR : Hid (∀ r ∈ c, r.length = n) := hc.row
  obtain ⟨V, hV⟩ : ∃ V, V = v.getD r 0 := ⟨_, rfl⟩
  have hVb := hv r
  rw [← hV] at hVb
  have HE : Hid (∀ k, -3 ≤ cE c r k ∧ cE c r k ≤ 3) := fun k => hc.ent r k
  have c0 := hrow.cell hr
  (try simp only at c0)
  rw [← hV] at c0
  have rI : (r : Int) < (n : Int) := by omega
  have rI0 : (0 : Int) ≤ (r : Int) := by omega
  have HV : Hid (V = v.getD r 0) := hV
  have HVB : Hid (∀ k, -1000000 ≤ v.getD k 0 ∧ v.getD k 0 ≤ 1000000) := hv
  have HR0 : Hid (w.rowIs g 3 n (fun k => .int .i64 (v.getD k 0))) := hrow
  have HEN : Hid (∀ k, k < n → ovF c v r n k = (ovL c v r).getD k 0) := fun k hk => by
    unfold ovF ovL
    rw [if_pos hk, getD_range (by rw [HCL.out]; exact hk)]
  have hvl := HVB.out r
  clear hm hc hrow hV hvl hv
  rw [HCL.out]
  go_enter Try.func50, Try.ntmps50
  go_wp2
  clear c0
  go_loopw [7, 14] (fun _ i wr => ∃ j : Nat, j ≤ n ∧ i = .int .i64 j ∧ wr.rowIs g 3 n (fun k => .int .i64 (ovF c v r j k)) ∧ Only g w wr) (fun _ i _ => n - (intOf i).toNat)
  case atStart => exact ⟨0, Nat.zero_le _, rfl, HR0.out.congr (fun k hk => by simp [ovF]), Only.refl _ _⟩
  case round =>
    obtain ⟨j, hj, rfl, hrw, hon⟩ := hrel
    have HRW : Hid (wr.rowIs g 3 n (fun k => .int .i64 (ovF c v r j k))) := hrw
    have HON : Hid (Only g w wr) := hon
    clear hrw hon
    by_cases hlt : j < n
    · obtain ⟨b1, o1, cp1, r1, hs, _, hcc0, hr1⟩ := mat_cell HC.out (k := r) (by rw [HCL.out]; exact hr)
      rw [HCL.out] at hs
      simp only [Value.slice.injEq, true_and] at hs
      obtain ⟨rfl, rfl⟩ := hs
      obtain ⟨ro, rc, hrv, hrl, _⟩ := sl_open hr1
      subst hrv
      have hln : (c.getD r []).length = n := HR.out _ (by simp [HCL.out, hr])
      obtain ⟨b2, o2, cp2, hs2, _, hcc3⟩ := sl_cell hr1 (k := j) (by rw [hln]; exact hlt)
      rw [hln] at hs2 hcc0
      simp only [Value.slice.injEq, true_and] at hs2
      obtain ⟨rfl, rfl⟩ := hs2
      have hcc := HAG.out wr _ _ _ HON.out hcc0
      have x0 := HRW.out.cell hlt
      have hfz := HRW.out.frozen j
      have e0 : ovF c v r j j = v.getD j 0 := by simp [ovF]
      simp only [e0] at x0
      have eb := HE.out j
      have vb := HVB.out j
      have ee : (c.getD r []).getD j 0 = cE c r j := rfl
      rw [ee] at hcc3
      have HNX : Hid (∀ W', Only g w W' → W'.rowIs g 3 n (fun k => .int .i64 (ovF c v r j k)) → (W'.setCell ⟨g, j, none⟩ (.int .i64 (v.getD j 0 - V * cE c r j))).rowIs g 3 n (fun k => .int .i64 (ovF c v r (j + 1) k)) ∧ Only g w (W'.setCell ⟨g, j, none⟩ (.int .i64 (v.getD j 0 - V * cE c r j)))) := fun W' h1 h2 => by
        refine ⟨(h2.set j (.int .i64 (v.getD j 0 - V * cE c r j))).congr fun k hk => ?_, h1.set _ _⟩
        by_cases e : k = j
        · subst e
          rw [if_pos rfl]
          simp [ovF, HV.out]
        · rw [if_neg e]
          have : (k < j + 1) ↔ (k < j) := by omega
          simp [ovF, this]
      have HRD : Hid (wr.drew.rowIs g 3 n (fun k => .int .i64 (ovF c v r j k))) := HRW.out.of_block rfl
      have HOD : Hid (Only g w wr.drew) := HON.out.drew
      obtain ⟨E, hE⟩ : ∃ E, E = cE c r j := ⟨_, rfl⟩
      rw [← hE] at hcc3 eb HNX
      have hcc2 := HAG.out wr _ _ _ HON.out hcc3
      obtain ⟨y, hy⟩ : ∃ y, y = v.getD j 0 := ⟨_, rfl⟩
      rw [← hy] at x0 vb HNX
      have hmb : -3000000 ≤ V * E ∧ V * E ≤ 3000000 := by
        rcases (show E = -3 ∨ E = -2 ∨ E = -1 ∨ E = 0 ∨ E = 1 ∨ E = 2 ∨ E = 3 by omega) with rfl | rfl | rfl | rfl | rfl | rfl | rfl <;> omega
      have m1 : IntKind.i64.wrap (V * E) = V * E := by rw [IntWalk.i64_left]; exact IntWalk.wrap64_in _ ⟨by omega, by omega⟩
      have m2 : IntKind.i64.wrap (y - V * E) = y - V * E := by rw [IntWalk.i64_left]; exact IntWalk.wrap64_in _ ⟨by omega, by omega⟩
      have jI : (j : Int) < (n : Int) := by omega
      have jI0 : (0 : Int) ≤ (j : Int) := by omega
      obtain ⟨N1, N2⟩ := HNX.out _ HOD.out HRD.out
      have HN1 : Hid _ := N1
      have HN2 : Hid _ := N2
      have hfd : wr.drew.frozen? ⟨g, j, none⟩ = false := hfz
      have xd : wr.drew.cell? ⟨g, j, none⟩ = some (.int .i64 y) := x0
      have HCS : Hid ((wr.drew.setCell ⟨g, j, none⟩ (.int .i64 (y - V * E))).cell? ⟨b1, o1 + r, none⟩ = some (.slice (some ⟨b2, o2, none⟩) n rc) ∧ (wr.drew.setCell ⟨g, j, none⟩ (.int .i64 (y - V * E))).cell? ⟨b2, o2 + j, none⟩ = some (.int .i64 E)) := ⟨HAG.out _ _ _ _ HN2.out hcc0, HAG.out _ _ _ _ HN2.out hcc3⟩
      clear hr1 e0 ee hE hy N1 N2 HNX hcc0 hcc3
      go_wp2
      refine wp_region_held_drew (S := fun w' => w'.cell? ⟨b1, o1 + r, none⟩ = some (.slice (some ⟨b2, o2, none⟩) n rc) ∧ w'.cell? ⟨b2, o2 + j, none⟩ = some (.int .i64 E)) (by kernel_rfl) ⟨hcc, hcc2⟩ (fun hHeld => ?_)
      refine wpAnyH_tk (i := 0) (d := 17) (v := (.slice (some ⟨g, 0, none⟩) n n)) rfl rfl (by kernel_rfl) (by kernel_rfl) (by kernel_rfl) (fun _ _ _ h => h) (.inl ⟨by rfl, by (intro wq hSw; (try dsimp only at hSw); go_simp)⟩) hHeld ?_
      simp only [Act.put, List.setIfInBounds_toArray, List.set_cons_zero, List.set_cons_succ]
      refine wpAnyH_tk (i := 1) (d := 18) (v := (.int .i64 j)) rfl rfl (by kernel_rfl) (by kernel_rfl) (by kernel_rfl) (fun _ _ _ h => h) (.inl ⟨by rfl, by (intro wq hSw; (try dsimp only at hSw); go_simp)⟩) hHeld ?_
      simp only [Act.put, List.setIfInBounds_toArray, List.set_cons_zero, List.set_cons_succ]
      refine wpAnyH_tk (i := 2) (d := 19) (v := (.pointer (some ⟨g, j, none⟩))) rfl rfl (by kernel_rfl) (by kernel_rfl) (by kernel_rfl) (fun _ _ _ h => h) (.inl ⟨by rfl, by (intro wq hSw; (try dsimp only at hSw); go_simp)⟩) hHeld ?_
      simp only [Act.put, List.setIfInBounds_toArray, List.set_cons_zero, List.set_cons_succ]
      refine wpAnyH_tk (i := 4) (d := 21) (v := (.int .i64 V)) rfl rfl (by kernel_rfl) (by kernel_rfl) (by kernel_rfl) (fun _ _ _ h => h) (.inl ⟨by rfl, by (intro wq hSw; (try dsimp only at hSw); go_simp)⟩) hHeld ?_
      simp only [Act.put, List.setIfInBounds_toArray, List.set_cons_zero, List.set_cons_succ]
      refine wpAnyH_tk (i := 5) (d := 22) (v := (.slice (some ⟨b1, o1, none⟩) n cap)) rfl rfl (by kernel_rfl) (by kernel_rfl) (by kernel_rfl) (fun _ _ _ h => h) (.inl ⟨by rfl, by (intro wq hSw; (try dsimp only at hSw); go_simp)⟩) hHeld ?_
      simp only [Act.put, List.setIfInBounds_toArray, List.set_cons_zero, List.set_cons_succ]
      refine wpAnyH_tk (i := 6) (d := 23) (v := (.int .i64 r)) rfl rfl (by kernel_rfl) (by kernel_rfl) (by kernel_rfl) (fun _ _ _ h => h) (.inl ⟨by rfl, by (intro wq hSw; (try dsimp only at hSw); go_simp)⟩) hHeld ?_
      simp only [Act.put, List.setIfInBounds_toArray, List.set_cons_zero, List.set_cons_succ]
      refine wpAnyH_tk (i := 7) (d := 24) (v := (.pointer (some ⟨b1, o1 + r, none⟩))) rfl rfl (by kernel_rfl) (by kernel_rfl) (by kernel_rfl) (fun _ _ _ h => h) (.inl ⟨by rfl, by (intro wq hSw; (try dsimp only at hSw); go_simp)⟩) hHeld ?_
      simp only [Act.put, List.setIfInBounds_toArray, List.set_cons_zero, List.set_cons_succ]
      refine wpAnyH_tk (i := 8) (d := 25) (v := (.slice (some ⟨b2, o2, none⟩) n rc)) rfl rfl (by kernel_rfl) (by kernel_rfl) (by kernel_rfl) (fun _ _ _ h => h) (.inl ⟨by rfl, by (intro wq hSw; (try dsimp only at hSw); go_simp)⟩) hHeld ?_
      simp only [Act.put, List.setIfInBounds_toArray, List.set_cons_zero, List.set_cons_succ]
      refine wpAnyH_tk (i := 9) (d := 26) (v := (.int .i64 j)) rfl rfl (by kernel_rfl) (by kernel_rfl) (by kernel_rfl) (fun _ _ _ h => h) (.inl ⟨by rfl, by (intro wq hSw; (try dsimp only at hSw); go_simp)⟩) hHeld ?_
      simp only [Act.put, List.setIfInBounds_toArray, List.set_cons_zero, List.set_cons_succ]
      refine wpAnyH_tk (i := 10) (d := 27) (v := (.pointer (some ⟨b2, o2 + j, none⟩))) rfl rfl (by kernel_rfl) (by kernel_rfl) (by kernel_rfl) (fun _ _ _ h => h) (.inl ⟨by rfl, by (intro wq hSw; (try dsimp only at hSw); go_simp)⟩) hHeld ?_
      simp only [Act.put, List.setIfInBounds_toArray, List.set_cons_zero, List.set_cons_succ]
      refine wpAnyH_tk (i := 11) (d := 28) (v := (.int .i64 E)) rfl rfl (by kernel_rfl) (by kernel_rfl) (by kernel_rfl) (fun _ _ _ h => h) (.inl ⟨by rfl, by (intro wq hSw; (try dsimp only at hSw); go_simp)⟩) hHeld ?_
      simp only [Act.put, List.setIfInBounds_toArray, List.set_cons_zero, List.set_cons_succ]
      refine wpAnyH_tk (i := 12) (d := 29) (v := (.int .i64 (V * E))) rfl rfl (by kernel_rfl) (by kernel_rfl) (by kernel_rfl) (fun _ _ _ h => h) (.inl ⟨by rfl, by (intro wq hSw; (try dsimp only at hSw); go_simp)⟩) hHeld ?_
      simp only [Act.put, List.setIfInBounds_toArray, List.set_cons_zero, List.set_cons_succ]
      refine wpAnyH_ready (rs := [3]) (by kernel_rfl) (by simp) ?_
      refine ready_tk (i := 3) rfl (by rfl) (fun K hK => ?_) AllReadyH.nil
      go_simp
      refine hK.out _ _ ⟨hcc, hcc2⟩ (fun hHeld => ?_)
      clear hK K
      refine wpAnyH_tk (i := 13) (d := 30) (v := (.int .i64 (y - V * E))) rfl rfl (by kernel_rfl) (by kernel_rfl) (by kernel_rfl) (fun _ _ _ h => h) (.inl ⟨by rfl, by (intro wq hSw; (try dsimp only at hSw); go_simp)⟩) hHeld ?_
      simp only [Act.put, List.setIfInBounds_toArray, List.set_cons_zero, List.set_cons_succ]
      refine wpAnyH_tk (i := 14) (d := 31) (v := (.pointer (some ⟨g, j, none⟩))) rfl rfl (by kernel_rfl) (by kernel_rfl) (by kernel_rfl) (fun _ _ _ h => h) (.inl ⟨by rfl, by (intro wq hSw; (try dsimp only at hSw); go_simp)⟩) hHeld ?_
      simp only [Act.put, List.setIfInBounds_toArray, List.set_cons_zero, List.set_cons_succ]
      refine wpAnyH_ready (rs := [15]) (by kernel_rfl) (by simp) ?_
      refine ready_tk (i := 15) rfl (by rfl) (fun K hK => ?_) AllReadyH.nil
      go_simp
      refine hK.out _ _ HCS.out (fun hHeld => ?_)
      clear hK K
      refine wpAnyH_done (by kernel_rfl) ?_ _
      clear hHeld
      go_wp2
      exact ⟨⟨j + 1, by omega, by go_num, HN1.out, HN2.out⟩, by simp [intOf]; omega⟩
    · have hje : n = j := by omega
      subst hje
      have HFN : Hid (wr.rowIs g 3 n (fun k => .int .i64 ((ovL c v r).getD k 0))) := HRW.out.congr fun k hk => by rw [HEN.out k hk]
      go_wp2
      go_end0
      exact ⟨rfl, HFN.out, HON.out⟩

end Go.Proofs.Ytkgljfnbaoncbaa

/- Rows in blocks of their own, as slices. -/
namespace Go.Proofs.Ytkgljfnbaoncbaa
open Go.RowKit

/-- A row in a block of its own, as a slice. -/
theorem row_slT {B : Nat} {w : World} {g cap n : Nat} {F : Nat → Value} {l : List Int} (r : w.rowIs g 3 cap F) (hF : ∀ i, i < n → F i = .int .i64 (l.getD i 0)) (hl : l.length = n) (hn : n ≤ cap) (hc : cap ≤ 9223372036854775807) : Sl B 3 w (.slice (some ⟨g, 0, none⟩) n cap) (ints l) := by
  refine ⟨some ⟨g, 0, none⟩, cap, by simp [hl], by simpa [hl] using hn, by unfold maxLen; omega, fun i hi => ?_, fun h => by cases h⟩
  have hi' : i < l.length := by simpa using hi
  refine ⟨g, 0, rfl, ?_, ?_⟩
  · rw [Nat.zero_add, r.cell (by omega), hF i (by omega), ints_get _ _ hi']
  · obtain ⟨c, hb, _, _⟩ := r
    exact Or.inr ⟨c, hb⟩

theorem own_rw {B n : Nat} {e : TypeId} {w : World} {v : Value} {l : List Int} (h : w.ownsRow B e 1 v n (ints l)) (hn : 0 < n) : ∃ g cap F, v = .slice (some ⟨g, 0, none⟩) n cap ∧ B ≤ g ∧ w.rowIs g e cap F ∧ (∀ i, i < n → F i = .int .i64 (l.getD i 0)) ∧ n ≤ cap ∧ cap ≤ 9223372036854775807 := by
  obtain ⟨h1, h2⟩ := h
  rcases h2 with ⟨_, h0⟩ | ⟨g, cap, cur, hu, hg, hh, hnc, hcm, hs, htk⟩
  · omega
  · have hll : l.length = n := by simpa [ints] using h1
    refine ⟨g, cap, fun i => cur.toList.getD i (.int .i64 0), hu, hg, ⟨cur, hh, by omega, fun i hi => ?_⟩, fun i hi => ?_, hnc, by unfold maxLen at hcm; exact hcm⟩
    · show cur[i]? = some (cur.toList.getD i (.int .i64 0))
      rw [← Array.getElem?_toList, List.getD_eq_getElem?_getD, List.getElem?_eq_getElem (by simp; omega)]; rfl
    · have e1 : cur.toList.getD i (.int .i64 0) = (ints l).getD i (.int .i64 0) := by
        rw [← htk]
        simp only [List.getD_eq_getElem?_getD]
        rw [List.getElem?_take_of_lt (by omega)]
      show cur.toList.getD i (.int .i64 0) = _
      rw [e1]
      simp [ints, show i < l.length by omega]

end Go.Proofs.Ytkgljfnbaoncbaa

/- The program's own lists: copies, divisors, signs. -/
namespace Go.Proofs.Ytkgljfnbaoncbaa
open Go.RowKit

set_option maxRecDepth 100000 in
set_option maxHeartbeats 400000 in
theorem clone_any (B : Nat) (l : List Int) (v : Value) (w : World) (hv : Sl B 3 w v (ints l)) (hl : l.length ≤ 1000000) :
    Calls Try.prog 79 #[v] w fun e w' => ∃ u, e = .returned u ∧ w'.ownsRow w.heap.size 3 1 u l.length (ints l) ∧ Below w.heap.size w w' := by
  obtain ⟨i3, hi3, hz30, hz31, hz32⟩ := info_parts Try.info3
  have hv' := hv
  obtain ⟨ao, cap, hvv, hlc, hcm, hcell, hnil⟩ := hv'
  simp only [ints_length] at hvv hlc
  subst hvv
  have HV : Hid (Sl B 3 w (.slice ao l.length cap) (ints l)) := hv
  clear hcell hv
  have HE : Hid ((w.alloc (.cells #[] 3)).ownsRow w.heap.size 3 1 (.slice (some ⟨w.heap.size, 0, none⟩) 0 0) 0 []) :=
    World.ownsRow_made w #[] 0 (Nat.le_refl _) (by simp [maxLen]) (by simp)
  have hq := fun (w : World) (a : Option Addr) (n c : Nat) => Lib.run_eql_slice_nil (P := Try.prog) w 26 3 a n c 0 0 Try.underlying26
  cases ao with
  | none =>
    have hc0 := hnil rfl
    subst hc0
    have hl0 : l = [] := List.eq_nil_of_length_eq_zero (by omega)
    subst hl0
    go_enter Try.func79, Try.ntmps79
    go_wp2
    go_ret
    exact ⟨_, rfl, World.ownsRow_nil _ _ _ _, Below.refl _ _⟩
  | some a =>
    clear hnil
    go_enter Try.func79, Try.ntmps79
    go_wp2_with (first | (at_builtin; refine wpList_append_own _ rfl _ _ 26 rfl w.heap.size 3 i3 (.int .i64 0) 1 8 Try.underlying26 hi3 hz30 hz31 hz32 rfl (by decide) _ _ _ rfl HE.out a l.length cap (ints l) rfl (by simp) (sl_cells HV.out _) (ints_oneCell' l) ?c3 ?c4 ?c5 ?_))
    case c3 => unfold maxLen; omega
    case c4 => omega
    case c5 => simp
    intro v' w3 ho hg _
    have ho' : w3.ownsRow w.heap.size 3 1 v' l.length (ints l) := by simpa using ho
    have HO : Hid (w3.ownsRow w.heap.size 3 1 v' l.length (ints l)) := ho'
    have HB : Hid (Below w.heap.size w w3) := ((Below.refl _ _).alloc (Nat.le_refl _) _).grown hg (by simp) (fun k hk => by simp [Value.ownBlock] at hk; omega)
    clear ho ho' hg
    go_wp2
    go_ret
    exact ⟨_, rfl, HO.out, HB.out⟩

end Go.Proofs.Ytkgljfnbaoncbaa
