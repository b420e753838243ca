/- poset.aboveAny, setsThat, Filters, Apart. -/
import Derived.Test.YtcmemhdlendlkaaDoorPoB
import Derived.Test.YtcmemhdlendlkaaDoorMt1
import Derived.WalkMore
namespace Go.Proofs.YtcmemhdlendlkaaDoor
open Go.RowKit
attribute [local go_sem ↓] Go.wp_at_zero Go.wp_at_succ

/-- A set that allows what is above each of its things. -/
def stB (q : Nat → Nat → Bool) (f : Nat → Nat) (s : Nat) : Bool := (mem8 s).all fun x => q s (f x.toNat)

def stTo (q : Nat → Nat → Bool) (f : Nat → Nat) (k : Nat) : List Int := ((List.range k).filter (stB q f)).map fun s : Nat => (s : Int)

theorem stTo_succ (q : Nat → Nat → Bool) (f : Nat → Nat) (k : Nat) : stTo q f (k + 1) = stTo q f k ++ if stB q f k then [(k : Int)] else [] := by
  unfold stTo
  rw [List.range_succ, List.filter_append, List.map_append]
  cases h : stB q f k <;> simp [h]

theorem stTo_len (q : Nat → Nat → Bool) (f : Nat → Nat) (k : Nat) : (stTo q f k).length ≤ k := by
  unfold stTo
  rw [List.length_map]
  exact Nat.le_trans (List.length_filter_le _ _) (by simp)

def filQ (s a : Nat) : Bool := a &&& s == a

def apaQ (s a : Nat) : Bool := a &&& s == 0

theorem filQ_tab : ∀ s : Nat, s < 64 → ∀ a : Nat, a < 64 → (bits .andNot .u64 (a : Int) (s : Int) == 0) = filQ s a := by decide +kernel

theorem apaQ_tab : ∀ s : Nat, s < 64 → ∀ a : Nat, a < 64 → (bits .and .u64 (a : Int) (s : Int) == 0) = apaQ s a := by decide +kernel

set_option maxRecDepth 100000 in
theorem fil1_any (s a : Nat) (w : World) (hs : s < 64) (ha : a < 64) :
    Calls Tryd.prog 32 #[.int .u64 (s : Int), .int .u64 (a : Int)] w fun e w' => e = .returned (.bool (filQ s a)) ∧ w' = w := by
  have HE : Hid ((bits .andNot .u64 (a : Int) (s : Int) == 0) = filQ s a) := filQ_tab s hs a ha
  have HI : Calls Tryd.prog 33 #[.int .u64 (a : Int), .int .u64 (s : Int)] w fun e w' => e = .returned (.bool (filQ s a)) ∧ w' = w := by
    go_enter Tryd.func33, Tryd.ntmps33
    go_wp2
    go_ret
    exact ⟨ret_bool HE.out, rfl⟩
  go_enter Tryd.func32, Tryd.ntmps32
  go_wp2_with fail
  refine HI.mono ?_
  rintro e w' ⟨rfl, rfl⟩
  go_wp2
  go_ret
  exact ⟨rfl, rfl⟩

set_option maxRecDepth 100000 in
theorem apa1_any (s a : Nat) (w : World) (hs : s < 64) (ha : a < 64) :
    Calls Tryd.prog 34 #[.int .u64 (s : Int), .int .u64 (a : Int)] w fun e w' => e = .returned (.bool (apaQ s a)) ∧ w' = w := by
  have HE : Hid ((bits .and .u64 (a : Int) (s : Int) == 0) = apaQ s a) := apaQ_tab s hs a ha
  go_enter Tryd.func34, Tryd.ntmps34
  go_wp2
  go_ret
  exact ⟨ret_bool HE.out, rfl⟩

theorem mem8_at {s k n : Nat} (hs : s < 2 ^ n) (hk : k < (mem8 s).length) : ∃ i : Nat, (mem8 s).getD k 0 = (i : Int) ∧ i < n := by
  have hm : (mem8 s).getD k 0 ∈ mem8 s := by simp [hk]
  obtain ⟨i, _, h2, h3⟩ := mem8_iff.1 hm
  refine ⟨i, h3.symm, ?_⟩
  refine Nat.lt_of_not_le fun hle => ?_
  have := Nat.testBit_lt_two_pow (Nat.lt_of_lt_of_le hs (Nat.pow_le_pow_right (by decide) hle))
  rw [this] at h2
  cases h2

theorem AbR.grown {B a n m : Nat} {f : Nat → Nat} {w w' : World} {v : Value} {xs : List Value} (h : AbR w a n f) (ho : w.ownsRow B 3 1 v m xs) (hg : w.grownBy w' v.ownBlock) : AbR w' a n f := by
  refine World.rowIs.of_block h (hg.block a h.lt fun e => ?_)
  obtain ⟨c, h1, _, _⟩ := h
  exact (owns_typed (e1 := 59) ho (by decide) a e.symm).2 c h1

theorem AbR.below {a n N : Nat} {f : Nat → Nat} {w w' : World} (h : AbR w a n f) (hb : Below N w w') (hN : w.heap.size ≤ N) : AbR w' a n f := World.rowIs.of_block h (hb.block a (by have := h.lt; omega))

end Go.Proofs.YtcmemhdlendlkaaDoor
