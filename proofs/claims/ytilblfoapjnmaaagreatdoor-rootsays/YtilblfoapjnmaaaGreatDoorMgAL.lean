import Derived.Test.YtilblfoapjnmaaaGreatDoorMgAE
import Derived.Test.YtilblfoapjnmaaaGreatDoorMgAA
import Derived.Test.YtilblfoapjnmaaaGreatDoorMgAH
import Derived.Test.YtilblfoapjnmaaaGreatDoorMgAB
import Derived.Laws.EntriesVeiled
import Derived.Test.YtilblfoapjnmaaaGreatDoorMgAC
import Derived.Deep.RegionHeld3
import Derived.Deep.RegionLaw
import Derived.Test.YtilblfoapjnmaaaGreatDoorMgAG
import Derived.Deep.DrawnRows
import Derived.Deep.OwnRows
import Derived.Deep.QuietTactic
import Derived.BigQuiet
/- facetref.Kinds, pieceMay: of the twelve names. -/
namespace Go.Proofs.YtilblfoapjnmaaaGreatDoor
open Go.RowKit
attribute [local go_sem ↓] Go.wp_at_zero Go.wp_at_succ

/-- The twelve names' letters and numbers. -/
def kdL : List (UInt8 × UInt8) := [(65, 49), (65, 50), (65, 51), (65, 52), (66, 50), (66, 51), (66, 52), (67, 51), (67, 52), (68, 52), (70, 52), (71, 50)]

def kdB (p : UInt8 × UInt8) : ByteArray := ⟨#[p.1, p.2]⟩

def kdV : Array Value := #[.string ⟨#[65, 49]⟩, .string ⟨#[65, 50]⟩, .string ⟨#[65, 51]⟩, .string ⟨#[65, 52]⟩, .string ⟨#[66, 50]⟩, .string ⟨#[66, 51]⟩, .string ⟨#[66, 52]⟩, .string ⟨#[67, 51]⟩, .string ⟨#[67, 52]⟩, .string ⟨#[68, 52]⟩, .string ⟨#[70, 52]⟩, .string ⟨#[71, 50]⟩]

theorem kd_at : ∀ i, i < 12 → kdV[i]? = some (.string (kdB (kdL.getD i (0, 0)))) := by
  intro i hi
  rcases (show i = 0 ∨ i = 1 ∨ i = 2 ∨ i = 3 ∨ i = 4 ∨ i = 5 ∨ i = 6 ∨ i = 7 ∨ i = 8 ∨ i = 9 ∨ i = 10 ∨ i = 11 by omega) with rfl | rfl | rfl | rfl | rfl | rfl | rfl | rfl | rfl | rfl | rfl | rfl <;> rfl

set_option maxRecDepth 100000 in
theorem kinds_any (w : World) :
    Calls Tryz.prog 45 #[] w fun e w' => e = .returned (.slice (some ⟨w.heap.size, 0, none⟩) 12 12) ∧ (∀ i, i < 12 → w'.cell? ⟨w.heap.size, i, none⟩ = some (.string (kdB (kdL.getD i (0, 0))))) ∧ Below w.heap.size w w' := by
  go_enter Tryz.func45, Tryz.ntmps45
  go_wp2
  go_ret
  refine ⟨rfl, fun i hi => ?_, (Below.refl _ _).alloc (Nat.le_refl _) _⟩
  rw [← kd_at i hi]
  have h := fun o => heap_alloc_new w o
  simp only [World.cell?, h]
  rfl

end Go.Proofs.YtilblfoapjnmaaaGreatDoor

/- facetref.NameFrom: some of the names, in a row. -/
namespace Go.Proofs.YtilblfoapjnmaaaGreatDoor
open Go.RowKit
attribute [local go_sem ↓] Go.wp_at_zero Go.wp_at_succ

/-- A piece's rank. -/
def rkP (p : UInt8 × UInt8) : Nat := p.2.toNat - 48

theorem kd_rk : ∀ p ∈ kdL, 1 ≤ rkP p ∧ rkP p ≤ 4 ∧ p.2.toNat = 48 + rkP p := by decide

end Go.Proofs.YtilblfoapjnmaaaGreatDoor

/- facetref.Cut: a text, cut at +. -/
namespace Go.Proofs.YtilblfoapjnmaaaGreatDoor
open Go.RowKit
attribute [local go_sem ↓] Go.wp_at_zero Go.wp_at_succ

theorem Tryz.info9 : (Tryz.prog.info? 9).map (fun i => (i.zero, i.size, i.bytes)) = some (some (.string ⟨#[]⟩), 1, 16) := by kernel_rfl

theorem one_str (s : ByteArray) : ∀ u ∈ [Value.string s], u.oneCell' = true := by
  intro u hu; simp at hu; subst hu; rfl

end Go.Proofs.YtilblfoapjnmaaaGreatDoor

/- Even squares and their parts, pure. -/
namespace Go.Proofs.YtilblfoapjnmaaaGreatDoor

/-! Parts -/

def setM (R : List (List Int)) (i j : Nat) (z : Int) : List (List Int) := R.set i ((R.getD i []).set j z)

theorem setM_len (R : List (List Int)) (i j : Nat) (z : Int) : (setM R i j z).length = R.length := by simp [setM]

theorem setM_row {R : List (List Int)} {i j a : Nat} {z : Int} : ((setM R i j z).getD a []).length = (R.getD a []).length := by
  unfold setM
  by_cases e : a = i
  · subst e
    by_cases h : a < R.length
    · simp [List.getD_eq_getElem?_getD, h]
    · simp [List.getD_eq_getElem?_getD, h]
  · simp [List.getD_eq_getElem?_getD, List.getElem?_set_ne (Ne.symm e)]

end Go.Proofs.YtilblfoapjnmaaaGreatDoor

/- Squares whose rows are the call's own, each in a block of its own, and are written into; named.room, named.take. -/
namespace Go.Proofs.YtilblfoapjnmaaaGreatDoor
open Go.RowKit
attribute [local go_sem ↓] Go.wp_at_zero Go.wp_at_succ

def rowsV (g c : Nat → Nat) (n k : Nat) : List Value := (List.range k).map fun i => .slice (some ⟨g i, 0, none⟩) n (c i)

theorem rowsV_get {g c : Nat → Nat} {n k i : Nat} (h : i < k) : (rowsV g c n k)[i]? = some (.slice (some ⟨g i, 0, none⟩) n (c i)) := by simp [rowsV, h]
theorem rowsV_succ (g c : Nat → Nat) (n k : Nat) : rowsV g c n (k + 1) = rowsV g c n k ++ [.slice (some ⟨g k, 0, none⟩) n (c k)] := by simp [rowsV, List.range_succ]
structure OM (B : Nat) (g c : Nat → Nat) (k n : Nat) (w : World) (v : Value) (R : List (List Int)) : Prop where
  num : R.length = k
  len : ∀ i, i < k → (R.getD i []).length = n
  out : w.ownsRow B 26 1 v k (rowsV g c n k)
  row : ∀ i, i < k → w.ownsRow B 3 1 (.slice (some ⟨g i, 0, none⟩) n (c i)) n (ints (R.getD i []))
  apart : ∀ i j, i < k → j < k → g i = g j → i = j

theorem own_heap {B e s n : Nat} {w : World} {g cap : Nat} {xs : List Value} (h : w.ownsRow B e s (.slice (some ⟨g, 0, none⟩) n cap) n xs) : ∃ cur, w.heap[g]? = some (.cells cur e (0, 0)) := by
  rcases h.2 with ⟨h', _⟩ | ⟨g', cap', cur, h', hb, hg, _⟩
  · simp at h'
  · simp only [Value.slice.injEq, Option.some.injEq, Addr.mk.injEq, and_true, true_and] at h'
    obtain ⟨rfl, rfl⟩ := h'
    exact ⟨cur, hg⟩

theorem own_keepB {B e s n : Nat} {w W : World} {v : Value} {xs : List Value} (h : w.ownsRow B e s v n xs) (hk : ∀ g, v.ownBlock = some g → W.heap[g]? = w.heap[g]?) : W.ownsRow B e s v n xs := by
  refine ⟨h.1, ?_⟩
  rcases h.2 with h2 | ⟨g, cap, cur, rfl, hb, hh, r⟩
  · exact Or.inl h2
  · exact Or.inr ⟨g, cap, cur, rfl, hb, (hk g rfl).trans hh, r⟩

theorem OM.form {B : Nat} {g c : Nat → Nat} {k n : Nat} {w : World} {v : Value} {R : List (List Int)} (h : OM B g c k n w v R) (hk : 1 ≤ k) : ∃ G cap, v = .slice (some ⟨G, 0, none⟩) k cap ∧ B ≤ G ∧ G < w.heap.size ∧ k ≤ cap ∧ cap ≤ 9223372036854775807 := by
  rcases h.out.2 with ⟨_, h0⟩ | ⟨G, cap, cur, hv, hb, hh, h1, h2, _⟩
  · omega
  · exact ⟨G, cap, hv, hb, (h.out.lt G (by rw [hv]; rfl)).2, h1, by simpa [maxLen] using h2⟩

theorem OM.cellG {B : Nat} {g c : Nat → Nat} {k n G cap : Nat} {w : World} {R : List (List Int)} (h : OM B g c k n w (.slice (some ⟨G, 0, none⟩) k cap) R) {i : Nat} (hi : i < k) : w.cell? ⟨G, i, none⟩ = some (.slice (some ⟨g i, 0, none⟩) n (c i)) := by
  rw [h.out.cellAt i (by omega), rowsV_get hi]

theorem OM.ent {B : Nat} {g c : Nat → Nat} {k n : Nat} {w : World} {v : Value} {R : List (List Int)} (h : OM B g c k n w v R) {i j : Nat} (hi : i < k) (hj : j < n) : w.cell? ⟨g i, j, none⟩ = some (.int .i64 (ent R i j)) ∧ w.frozen? ⟨g i, j, none⟩ = false := by
  refine ⟨?_, (h.row i hi).frozenAt j⟩
  rw [(h.row i hi).cellAt j (by omega), ints_get _ _ (by rw [h.len i hi]; exact hj)]
  rfl

theorem OM.keep {B : Nat} {g c : Nat → Nat} {k n : Nat} {w W : World} {v : Value} {R : List (List Int)} (h : OM B g c k n w v R) (hk : ∀ b, (v.ownBlock = some b ∨ ∃ i, i < k ∧ b = g i) → W.heap[b]? = w.heap[b]?) : OM B g c k n W v R :=
  ⟨h.num, h.len, own_keepB h.out (fun b hb => hk b (Or.inl hb)), fun i hi => own_keepB (h.row i hi) (fun b hb => hk b (Or.inr ⟨i, hi, by simpa [Value.ownBlock] using hb.symm⟩)), h.apart⟩

theorem OM.lt {B : Nat} {g c : Nat → Nat} {k n : Nat} {w : World} {v : Value} {R : List (List Int)} (h : OM B g c k n w v R) : ∀ b, (v.ownBlock = some b ∨ ∃ i, i < k ∧ b = g i) → B ≤ b ∧ b < w.heap.size := by
  rintro b (hb | ⟨i, hi, rfl⟩)
  · exact h.out.lt b hb
  · exact (h.row i hi).lt _ rfl

theorem OM.below {B N : Nat} {g c : Nat → Nat} {k n : Nat} {w W : World} {v : Value} {R : List (List Int)} (h : OM B g c k n w v R) (hb : Below N w W) (hN : w.heap.size ≤ N) : OM B g c k n W v R :=
  h.keep fun b hx => hb.block b (by have := (h.lt b hx).2; omega)

theorem ints_set (l : List Int) (j : Nat) (z : Int) : ints (l.set j z) = (ints l).set j (.int .i64 z) := by simp [ints, List.map_set]

theorem OM.set {B : Nat} {g c : Nat → Nat} {k n : Nat} {w : World} {v : Value} {R : List (List Int)} (h : OM B g c k n w v R) {i j : Nat} (hi : i < k) (z : Int) : OM B g c k n (w.setCell ⟨g i, j, none⟩ (.int .i64 z)) v (setM R i j z) := by
  have hoth : ∀ b, b ≠ g i → (w.setCell ⟨g i, j, none⟩ (.int .i64 z)).heap[b]? = w.heap[b]? := fun b hb => Below.heap_setCell w _ _ b hb
  obtain ⟨cur, hcur⟩ := own_heap (h.row i hi)
  refine ⟨by rw [setM_len]; exact h.num, fun a ha => by rw [setM_row]; exact h.len a ha, own_keepB h.out (fun b hb => hoth b fun e => ?_), fun a ha => ?_, h.apart⟩
  · subst e
    rcases h.out.2 with ⟨rfl, _⟩ | ⟨G, cap, cur', rfl, _, hh, _⟩
    · simp [Value.ownBlock] at hb
    · simp only [Value.ownBlock, Option.some.injEq] at hb
      subst hb
      rw [hcur] at hh
      simp at hh
  · by_cases e : a = i
    · subst e
      have h1 := ((h.row a ha).stored j (.int .i64 z)).1
      have e2 : (setM R a j z).getD a [] = (R.getD a []).set j z := by
        unfold setM
        have : a < R.length := by rw [h.num]; exact ha
        simp [List.getD_eq_getElem?_getD, this]
      rw [e2, ints_set]
      exact h1
    · have e2 : (setM R i j z).getD a [] = R.getD a [] := by
        unfold setM
        simp [List.getD_eq_getElem?_getD, List.getElem?_set_ne (Ne.symm e)]
      rw [e2]
      exact own_keepB (h.row a ha) (fun b hb => hoth b fun e3 => e (by
        simp only [Value.ownBlock, Option.some.injEq] at hb
        exact h.apart a i ha hi (by omega)))

end Go.Proofs.YtilblfoapjnmaaaGreatDoor
