/- Maps: the program's count and the document's are one. -/
import Derived.Test.YtcmemhdlendlkaaDoorWa0
namespace Go.Proofs.YtcmemhdlendlkaaDoor
open Go.RowKit

/-- Of a full list: does it fit? -/
def fulB (n : Nat) (f : Nat → Nat) (fit : Int → Int → Bool) (h : List Int) : Bool := (List.range n).all fun i => (mem8 (f i)).all fun y => fit (h.getD i 0) (h.getD y.toNat 0)

/-- The document's count. -/
def mdF (n : Nat) (f : Nat → Nat) (k : Nat) (fit : Int → Int → Bool) : Nat → List Int → Int
  | 0, h => if fulB n f fit h then 1 else 0
  | t + 1, h => sN k fun v => mdF n f k fit t (h ++ [(v : Int)])

theorem mdF_bd {n : Nat} {f : Nat → Nat} {k : Nat} {fit : Int → Int → Bool} (hk : k ≤ 6) : ∀ (t : Nat) (h : List Int), 0 ≤ mdF n f k fit t h ∧ mdF n f k fit t h ≤ ((6 ^ t : Nat) : Int)
  | 0, h => by
    simp only [mdF]
    split <;> simp
  | t + 1, h => by
    have h0 := sN_le k ((6 ^ t : Nat) : Int) (f := fun v => mdF n f k fit t (h ++ [(v : Int)])) fun v _ => mdF_bd hk t _
    have e : 6 ^ (t + 1) = 6 * 6 ^ t := by rw [Nat.pow_succ, Nat.mul_comm]
    have h1 : (k : Int) * ((6 ^ t : Nat) : Int) ≤ 6 * ((6 ^ t : Nat) : Int) := Int.mul_le_mul_of_nonneg_right (by omega) (Int.natCast_nonneg _)
    simp only [mdF]
    rw [e]
    generalize 6 ^ t = q at *
    omega

/-- Each number fitted when it was given. -/
def pokB (f : Nat → Nat) (fit : Int → Int → Bool) (h : List Int) : Bool := (List.range h.length).all fun i => okW f fit (h.take i) (h.getD i 0)

theorem pokB_snoc (f : Nat → Nat) (fit : Int → Int → Bool) (h : List Int) (v : Int) : pokB f fit (h ++ [v]) = (pokB f fit h && okW f fit h v) := by
  unfold pokB
  rw [List.length_append, List.length_singleton, List.range_succ, List.all_append]
  congr 1
  · rw [Bool.eq_iff_iff, List.all_eq_true, List.all_eq_true]
    refine forall_congr' fun i => forall_congr' fun hi => ?_
    have hi2 := List.mem_range.1 hi
    rw [List.take_append_of_le_length (by omega)]
    have e : (h ++ [v]).getD i 0 = h.getD i 0 := by
      simp only [List.getD_eq_getElem?_getD]
      rw [List.getElem?_append_left (by omega)]
    rw [e]
  · simp

theorem okW_iff {f : Nat → Nat} {fit : Int → Int → Bool} {g : List Int} {v : Int} : okW f fit g v = true ↔ ∀ o, o < g.length → ((f g.length).testBit o = true → fit v (g.getD o 0) = true) ∧ ((f o).testBit g.length = true → fit (g.getD o 0) v = true) := by
  unfold okW
  rw [List.all_eq_true]
  refine ⟨fun h o ho => ?_, fun h o ho => ?_⟩
  · have := h o (List.mem_range.2 ho)
    revert this
    cases (f g.length).testBit o <;> cases (f o).testBit g.length <;> cases fit v (g.getD o 0) <;> cases fit (g.getD o 0) v <;> simp
  · have := h o (List.mem_range.1 ho)
    revert this
    cases (f g.length).testBit o <;> cases (f o).testBit g.length <;> cases fit v (g.getD o 0) <;> cases fit (g.getD o 0) v <;> simp

theorem getD_take (h : List Int) {i o : Nat} (ho : o < i) : (h.take i).getD o 0 = h.getD o 0 := by
  simp only [List.getD_eq_getElem?_getD]
  rw [List.getElem?_take_of_lt ho]

theorem ful_pok {n : Nat} {f : Nat → Nat} (hP : PoO n f) (hn : n ≤ 6) (fit : Int → Int → Bool) {h : List Int} (hl : h.length = n) : fulB n f fit h = pokB f fit h := by
  rw [Bool.eq_iff_iff]
  unfold fulB pokB
  rw [List.all_eq_true, List.all_eq_true, hl]
  have key : (∀ i, i < n → ∀ j, j < n → (f i).testBit j = true → fit (h.getD i 0) (h.getD j 0) = true) ↔ ∀ x ∈ List.range n, okW f fit (h.take x) (h.getD x 0) = true := by
    constructor
    · intro hh x hx
      have hx2 := List.mem_range.1 hx
      rw [okW_iff]
      have el : (h.take x).length = x := by rw [List.length_take]; omega
      rw [el]
      intro o ho
      rw [getD_take h ho]
      exact ⟨hh x hx2 o (by omega), hh o (by omega) x hx2⟩
    · intro hh i hi j hj hb
      rcases Nat.lt_trichotomy i j with hij | hij | hij
      · have h1 := hh j (List.mem_range.2 hj)
        rw [okW_iff] at h1
        have el : (h.take j).length = j := by rw [List.length_take]; omega
        rw [el] at h1
        have h2 := (h1 i hij).2 hb
        rw [getD_take h hij] at h2
        exact h2
      · subst hij
        rw [hP.irr i hi] at hb
        cases hb
      · have h1 := hh i (List.mem_range.2 hi)
        rw [okW_iff] at h1
        have el : (h.take i).length = i := by rw [List.length_take]; omega
        rw [el] at h1
        have h2 := (h1 j hij).1 hb
        rw [getD_take h hij] at h2
        exact h2
  rw [← key]
  constructor
  · intro hh i hi j hj hb
    have h1 := hh i (List.mem_range.2 hi)
    rw [List.all_eq_true] at h1
    exact h1 (j : Int) (mem8_iff.2 ⟨j, by omega, hb, rfl⟩)
  · intro hh i hi
    rw [List.all_eq_true]
    intro y hy
    obtain ⟨j, hj8, hb, rfl⟩ := mem8_iff.1 hy
    have hi2 := List.mem_range.1 hi
    refine hh i hi2 j ?_ hb
    refine Nat.lt_of_not_le fun hle => ?_
    have := Nat.testBit_lt_two_pow (Nat.lt_of_lt_of_le (hP.lt i hi2) (Nat.pow_le_pow_right (by decide) hle))
    rw [this] at hb
    cases hb

theorem md_wy {n : Nat} {f : Nat → Nat} (hP : PoO n f) (hn : n ≤ 6) (k : Nat) (fit : Int → Int → Bool) : ∀ (t : Nat) (h : List Int), h.length + t = n → mdF n f k fit t h = if pokB f fit h then wyF f k fit t h else 0
  | 0, h, hl => by
    simp only [mdF, wyF]
    rw [ful_pok hP hn fit (by omega)]
  | t + 1, h, hl => by
    simp only [mdF, wyF]
    cases hp : pokB f fit h
    · simp only [Bool.false_eq_true, if_false]
      refine sN_zero k fun v _ => ?_
      rw [md_wy hP hn k fit t _ (by rw [List.length_append, List.length_singleton]; omega), pokB_snoc, hp]
      rfl
    · simp only [if_true]
      refine sN_congr k fun v _ => ?_
      rw [md_wy hP hn k fit t _ (by rw [List.length_append, List.length_singleton]; omega), pokB_snoc, hp]
      simp

theorem md_all {n : Nat} {f : Nat → Nat} (hP : PoO n f) (hn : n ≤ 6) (k : Nat) (fit : Int → Int → Bool) : mdF n f k fit n [] = wyF f k fit n [] := by
  rw [md_wy hP hn k fit n [] (by simp)]
  rfl

end Go.Proofs.YtcmemhdlendlkaaDoor
