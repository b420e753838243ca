import Derived.Test.YtilblfoapjnmaaaGreatDoorMgAB
import Derived.Laws.AppendOwnNone
import Derived.Test.YtilblfoapjnmaaaGreatDoorLinAll
import Derived.Test.YtilblfoapjnmaaaGreatDoorMgAA
import Derived.Deep.RegionHeld3
import Derived.Deep.RegionLaw
import Derived.Deep.DrawnRows
import Derived.Maps.AppendAt
import Derived.Deep.OwnRows
import Derived.Deep.QuietTactic
import Derived.BigQuiet
/- The document's answer: copies, signs, divisors. -/
namespace Go.Proofs.YtilblfoapjnmaaaGreatDoor
open Go.RowKit

theorem ints_oneCell' (l : List Int) : ∀ u ∈ ints l, u.oneCell' = true := by
  intro u hu; simp only [ints, List.mem_map] at hu; obtain ⟨z, _, rfl⟩ := hu; rfl

theorem sl_cells {B : Nat} {e : TypeId} {w : World} {a : Addr} {n cap : Nat} {xs : List Value} (h : Sl B e w (.slice (some a) n cap) xs) (o : Obj) : ∀ j u, xs[j]? = some u → (w.alloc o).cell? (a.add j) = some u := by
  intro j u hj
  have hlt : j < xs.length := by
    rcases Nat.lt_or_ge j xs.length with h' | h'
    · exact h'
    · rw [List.getElem?_eq_none h'] at hj; cases hj
  obtain ⟨ao, c, hv, h1, h2, h3, h4⟩ := h.alloc o
  simp only [Value.slice.injEq] at hv
  obtain ⟨rfl, _, rfl⟩ := hv
  obtain ⟨b, of, hb, hc, _⟩ := h3 j hlt
  simp only [Option.some.injEq] at hb
  subst hb
  rw [← hj, ← hc]
  by_cases hj0 : j = 0
  · subst hj0; simp [Addr.add]
  · simp [Addr.add, hj0]

set_option maxHeartbeats 400000 in
theorem copy_any (B : Nat) (l : List Int) (v : Value) (w : World) (hv : Sl B 3 w v (ints l)) (hl : l.length ≤ 1000000) :
    Calls Tryz.prog 43 #[v] w fun e w' => ∃ u, e = .returned u ∧ w'.ownsRow w.heap.size 3 1 u l.length (ints l) ∧ Below w.heap.size w w' := by
  obtain ⟨i3, hi3, hz30, hz31, hz32⟩ := info_parts Tryz.info3
  have hv' := hv
  obtain ⟨ao, cap, hvv, hlc, hcm, hcell, hnil⟩ := hv'
  simp only [ints_length] at hvv hlc
  subst hvv
  have HV : Hid (Sl B 3 w (.slice ao l.length cap) (ints l)) := hv
  clear hcell hv
  have HE : Hid ((w.alloc (.cells #[] 3)).ownsRow w.heap.size 3 1 (.slice (some ⟨w.heap.size, 0, none⟩) 0 0) 0 []) :=
    World.ownsRow_made w #[] 0 (Nat.le_refl _) (by simp [maxLen]) (by simp)
  cases ao with
  | none =>
    have hc0 := hnil rfl
    subst hc0
    have hl0 : l = [] := List.eq_nil_of_length_eq_zero (by omega)
    subst hl0
    go_enter Tryz.func43, Tryz.ntmps43
    go_wp2_with (first | (at_builtin; refine wpList_append_own_none rfl _ _ 26 rfl w.heap.size 3 i3 1 Tryz.underlying26 hi3 _ _ _ rfl HE.out rfl ?_))
    go_ret
    exact ⟨_, rfl, HE.out, (Below.refl _ _).alloc (Nat.le_refl _) _⟩
  | some a =>
    clear hnil
    go_enter Tryz.func43, Tryz.ntmps43
    go_wp2_with (first | (at_builtin; refine wpList_append_own _ rfl _ _ 26 rfl w.heap.size 3 i3 (.int .i64 0) 1 8 Tryz.underlying26 hi3 hz30 hz31 hz32 rfl (by decide) _ _ _ rfl HE.out a l.length cap (ints l) rfl (by simp) (sl_cells HV.out _) (ints_oneCell' l) ?c3 ?c4 ?c5 ?_))
    case c3 => unfold maxLen; omega
    case c4 => omega
    case c5 => simp
    intro v' w3 ho hg _
    have ho' : w3.ownsRow w.heap.size 3 1 v' l.length (ints l) := by simpa using ho
    have HO : Hid (w3.ownsRow w.heap.size 3 1 v' l.length (ints l)) := ho'
    have HB : Hid (Below w.heap.size w w3) := ((Below.refl _ _).alloc (Nat.le_refl _) _).grown hg (by simp) (fun k hk => by simp [Value.ownBlock] at hk; omega)
    clear ho ho' hg
    go_wp2
    go_ret
    exact ⟨_, rfl, HO.out, HB.out⟩

end Go.Proofs.YtilblfoapjnmaaaGreatDoor

/- The document's answer: all rising choices. -/
namespace Go.Proofs.YtilblfoapjnmaaaGreatDoor
open Go.RowKit

/-- Rows of the call's own, each inner one of its own, too. -/
def Fr (B : Nat) (e2 e1 : TypeId) (w : World) (v : Value) (m : List (List Int)) : Prop :=
  ∃ vs, vs.length = m.length ∧ w.ownsRow B e2 1 v m.length vs ∧ ∀ i, i < m.length → Sl 0 e1 w (vs.getD i (.slice none 0 0)) (ints (m.getD i []))

theorem Fr.rws {B : Nat} {e2 e1 : TypeId} {w : World} {v : Value} {m : List (List Int)} (h : Fr B e2 e1 w v m) : Rws B e2 e1 w v m := by
  obtain ⟨vs, h1, h2, h3⟩ := h
  exact ⟨vs, h1, h2, fun i hi => (h3 i hi).more (Nat.zero_le _)⟩

theorem Fr.nil (B : Nat) (e2 e1 : TypeId) (w : World) : Fr B e2 e1 w (.slice none 0 0) [] :=
  ⟨[], rfl, World.ownsRow_nil _ _ _ _, fun i hi => absurd hi (by simp)⟩

theorem Fr.below {B N : Nat} {e2 e1 : TypeId} {w w' : World} {v : Value} {m : List (List Int)} (h : Fr B e2 e1 w v m) (hb : Below N w w') (hN : w.heap.size ≤ N) : Fr B e2 e1 w' v m := by
  obtain ⟨vs, h1, h2, h3⟩ := h
  exact ⟨vs, h1, owns_below h2 hb hN, fun i hi => (h3 i hi).below hb hN⟩

theorem Fr.alloc {B : Nat} {e2 e1 : TypeId} {w : World} {v : Value} {m : List (List Int)} (h : Fr B e2 e1 w v m) (o : Obj) : Fr B e2 e1 (w.alloc o) v m := by
  obtain ⟨vs, h1, h2, h3⟩ := h
  exact ⟨vs, h1, h2.alloc o, fun i hi => (h3 i hi).alloc o⟩

/-- Another row of rows, appended to. -/
theorem Fr.kept {B B' n : Nat} {e2 e1 : TypeId} {w w' : World} {v u : Value} {m : List (List Int)} {us : List Value} (hne : e2 ≠ e1) (h : Fr B e2 e1 w v m) (hu : w.ownsRow B' e2 1 u n us) (hg : w.grownBy w' u.ownBlock)
    (ha : ∀ g, u.ownBlock = some g → v.ownBlock ≠ some g) : Fr B e2 e1 w' v m := by
  obtain ⟨vs, h1, h2, h3⟩ := h
  refine ⟨vs, h1, h2.kept hg ?_, fun i hi => (h3 i hi).grown hg (fun k hk => ⟨Nat.zero_le _, (owns_typed hu hne k hk).2⟩)⟩
  cases hv : v.ownBlock with
  | none => exact Or.inl rfl
  | some g => exact Or.inr fun e => ha g e.symm hv

theorem Fr.push {B : Nat} {e2 e1 : TypeId} {w w' : World} {v v' u : Value} {m : List (List Int)} {vs : List Value} {zs : List Int} (hne : e2 ≠ e1)
    (h1 : vs.length = m.length) (h2 : w.ownsRow B e2 1 v m.length vs) (h3 : ∀ i, i < m.length → Sl 0 e1 w (vs.getD i (.slice none 0 0)) (ints (m.getD i []))) (hu : Sl 0 e1 w u (ints zs))
    (ho : w'.ownsRow B e2 1 v' (m.length + 1) (vs ++ [u])) (hg : w.grownBy w' v.ownBlock) : Fr B e2 e1 w' v' (m ++ [zs]) := by
  have ht : ∀ k, v.ownBlock = some k → 0 ≤ k ∧ ∀ cur, w.heap[k]? ≠ some (.cells cur e1 (0, 0)) := fun k hk => ⟨Nat.zero_le _, (owns_typed h2 hne k hk).2⟩
  refine ⟨vs ++ [u], by simp [h1], by simpa using ho, fun i hi => ?_⟩
  by_cases hlt : i < m.length
  · have e1' : (vs ++ [u]).getD i (.slice none 0 0) = vs.getD i (.slice none 0 0) := by
      simp only [List.getD_eq_getElem?_getD]; rw [List.getElem?_append_left (by omega)]
    have e2' : (m ++ [zs]).getD i [] = m.getD i [] := by
      simp only [List.getD_eq_getElem?_getD]; rw [List.getElem?_append_left (by omega)]
    rw [e1', e2']
    exact (h3 i hlt).grown hg ht
  · have hi' : i = m.length := by simp at hi; omega
    subst hi'
    have e1' : (vs ++ [u]).getD m.length (.slice none 0 0) = u := by
      rw [← h1]; simp
    have e2' : (m ++ [zs]).getD m.length [] = zs := by simp
    rw [e1', e2']
    exact hu.grown hg ht

end Go.Proofs.YtilblfoapjnmaaaGreatDoor

/- mirror.Over: marks, turned over in their own memory. -/
namespace Go.Proofs.YtilblfoapjnmaaaGreatDoor
open Go.RowKit
attribute [local go_sem ↓] Go.wp_at_zero Go.wp_at_succ

/-- A square of so many rows of small numbers. -/
structure Sqc (n : Nat) (c : List (List Int)) : Prop where
  len : c.length = n
  n4 : n ≤ 4
  row : ∀ r ∈ c, r.length = n
  ent : ∀ i j, -3 ≤ cE c i j ∧ cE c i j ≤ 3

/-- All blocks but one are as they were. -/
structure Only (g : Nat) (w w' : World) : Prop where
  os : w'.os = w.os
  tape : w'.tape = w.tape
  output : w'.output = w.output
  size : w'.heap.size = w.heap.size
  block : ∀ b, b ≠ g → w'.heap[b]? = w.heap[b]?

theorem Only.refl (g : Nat) (w : World) : Only g w w := ⟨rfl, rfl, rfl, rfl, fun _ _ => rfl⟩
theorem Only.trans {g : Nat} {a b c : World} (h : Only g a b) (k : Only g b c) : Only g a c := ⟨k.os.trans h.os, k.tape.trans h.tape, k.output.trans h.output, k.size.trans h.size, fun x hx => (k.block x hx).trans (h.block x hx)⟩
theorem Only.set {g : Nat} {a b : World} (h : Only g a b) (j : Nat) (u : Value) : Only g a (b.setCell ⟨g, j, none⟩ u) := ⟨h.os, h.tape, h.output, by simp only [World.setCell, Array.size_modify]; exact h.size, fun x hx => (Below.heap_setCell _ _ _ _ hx).trans (h.block x hx)⟩
theorem Only.drew {g : Nat} {a b : World} (h : Only g a b) : Only g a b.drew := ⟨h.os, h.tape, h.output, h.size, h.block⟩

end Go.Proofs.YtilblfoapjnmaaaGreatDoor

/- Rows in blocks of their own, as slices. -/
namespace Go.Proofs.YtilblfoapjnmaaaGreatDoor
open Go.RowKit

/-- A row in a block of its own, as a slice. -/
theorem row_slT {B : Nat} {w : World} {g cap n : Nat} {F : Nat → Value} {l : List Int} (r : w.rowIs g 3 cap F) (hF : ∀ i, i < n → F i = .int .i64 (l.getD i 0)) (hl : l.length = n) (hn : n ≤ cap) (hc : cap ≤ 9223372036854775807) : Sl B 3 w (.slice (some ⟨g, 0, none⟩) n cap) (ints l) := by
  refine ⟨some ⟨g, 0, none⟩, cap, by simp [hl], by simpa [hl] using hn, by unfold maxLen; omega, fun i hi => ?_, fun h => by cases h⟩
  have hi' : i < l.length := by simpa using hi
  refine ⟨g, 0, rfl, ?_, ?_⟩
  · rw [Nat.zero_add, r.cell (by omega), hF i (by omega), ints_get _ _ hi']
  · obtain ⟨c, hb, _, _⟩ := r
    exact Or.inr ⟨c, hb⟩

theorem own_rw {B n : Nat} {e : TypeId} {w : World} {v : Value} {l : List Int} (h : w.ownsRow B e 1 v n (ints l)) (hn : 0 < n) : ∃ g cap F, v = .slice (some ⟨g, 0, none⟩) n cap ∧ B ≤ g ∧ w.rowIs g e cap F ∧ (∀ i, i < n → F i = .int .i64 (l.getD i 0)) ∧ n ≤ cap ∧ cap ≤ 9223372036854775807 := by
  obtain ⟨h1, h2⟩ := h
  rcases h2 with ⟨_, h0⟩ | ⟨g, cap, cur, hu, hg, hh, hnc, hcm, hs, htk⟩
  · omega
  · have hll : l.length = n := by simpa [ints] using h1
    refine ⟨g, cap, fun i => cur.toList.getD i (.int .i64 0), hu, hg, ⟨cur, hh, by omega, fun i hi => ?_⟩, fun i hi => ?_, hnc, by unfold maxLen at hcm; exact hcm⟩
    · show cur[i]? = some (cur.toList.getD i (.int .i64 0))
      rw [← Array.getElem?_toList, List.getD_eq_getElem?_getD, List.getElem?_eq_getElem (by simp; omega)]; rfl
    · have e1 : cur.toList.getD i (.int .i64 0) = (ints l).getD i (.int .i64 0) := by
        rw [← htk]
        simp only [List.getD_eq_getElem?_getD]
        rw [List.getElem?_take_of_lt (by omega)]
      show cur.toList.getD i (.int .i64 0) = _
      rw [e1]
      simp [ints, show i < l.length by omega]

end Go.Proofs.YtilblfoapjnmaaaGreatDoor

/- The program's own lists: copies, divisors, signs. -/
namespace Go.Proofs.YtilblfoapjnmaaaGreatDoor
open Go.RowKit

set_option maxRecDepth 100000 in
set_option maxHeartbeats 400000 in
theorem clone_any (B : Nat) (l : List Int) (v : Value) (w : World) (hv : Sl B 3 w v (ints l)) (hl : l.length ≤ 1000000) :
    Calls Tryz.prog 89 #[v] w fun e w' => ∃ u, e = .returned u ∧ w'.ownsRow w.heap.size 3 1 u l.length (ints l) ∧ Below w.heap.size w w' := by
  obtain ⟨i3, hi3, hz30, hz31, hz32⟩ := info_parts Tryz.info3
  have hv' := hv
  obtain ⟨ao, cap, hvv, hlc, hcm, hcell, hnil⟩ := hv'
  simp only [ints_length] at hvv hlc
  subst hvv
  have HV : Hid (Sl B 3 w (.slice ao l.length cap) (ints l)) := hv
  clear hcell hv
  have HE : Hid ((w.alloc (.cells #[] 3)).ownsRow w.heap.size 3 1 (.slice (some ⟨w.heap.size, 0, none⟩) 0 0) 0 []) :=
    World.ownsRow_made w #[] 0 (Nat.le_refl _) (by simp [maxLen]) (by simp)
  have hq := fun (w : World) (a : Option Addr) (n c : Nat) => Lib.run_eql_slice_nil (P := Tryz.prog) w 26 3 a n c 0 0 Tryz.underlying26
  cases ao with
  | none =>
    have hc0 := hnil rfl
    subst hc0
    have hl0 : l = [] := List.eq_nil_of_length_eq_zero (by omega)
    subst hl0
    go_enter Tryz.func89, Tryz.ntmps89
    go_wp2
    go_ret
    exact ⟨_, rfl, World.ownsRow_nil _ _ _ _, Below.refl _ _⟩
  | some a =>
    clear hnil
    go_enter Tryz.func89, Tryz.ntmps89
    go_wp2_with (first | (at_builtin; refine wpList_append_own _ rfl _ _ 26 rfl w.heap.size 3 i3 (.int .i64 0) 1 8 Tryz.underlying26 hi3 hz30 hz31 hz32 rfl (by decide) _ _ _ rfl HE.out a l.length cap (ints l) rfl (by simp) (sl_cells HV.out _) (ints_oneCell' l) ?c3 ?c4 ?c5 ?_))
    case c3 => unfold maxLen; omega
    case c4 => omega
    case c5 => simp
    intro v' w3 ho hg _
    have ho' : w3.ownsRow w.heap.size 3 1 v' l.length (ints l) := by simpa using ho
    have HO : Hid (w3.ownsRow w.heap.size 3 1 v' l.length (ints l)) := ho'
    have HB : Hid (Below w.heap.size w w3) := ((Below.refl _ _).alloc (Nat.le_refl _) _).grown hg (by simp) (fun k hk => by simp [Value.ownBlock] at hk; omega)
    clear ho ho' hg
    go_wp2
    go_ret
    exact ⟨_, rfl, HO.out, HB.out⟩

end Go.Proofs.YtilblfoapjnmaaaGreatDoor
