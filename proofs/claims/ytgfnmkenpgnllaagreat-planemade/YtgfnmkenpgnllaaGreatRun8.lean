/- The program's elimination: a column, with what it leaves told by minors. -/
import Derived.Test.YtgfnmkenpgnllaaGreatRun7
import Derived.Test.YtgfnmkenpgnllaaGreatLin8
namespace Go.Proofs.YtgfnmkenpgnllaaGreat
open Go.RowKit Lin

/-- What keeps the numbers within an int. -/
def Bd (M : Nat → Nat → Int) (n c : Nat) : Prop := ∀ q M' C k sgn, q ≤ c → Red M n q M' C (k + 1) sgn → ∀ i, i < n → ∀ j, j < c →
  (dk M' C k * rr M' C (k + 1) i j).natAbs ≤ 9223372036854775807 ∧ (rr M' C (k + 1) i j).natAbs ≤ 9223372036854775807

/-- In memory: elimination of the first q columns. -/
def LS (B R n c : Nat) (M : Nat → Nat → Int) (q : Nat) (w : World) : Prop :=
  ∃ M' C k sgn, Red M n q M' C k sgn ∧ ∃ go capo pv bs caps, RS B R n c (rr M' C k) ((List.range k).map fun b => (C b : Int)) (dk M' C k) sgn go capo pv bs caps w

theorem range_congr {k q : Nat} {C : Nat → Nat} : ((List.range (k + 1)).map fun b => (sC C k q b : Int)) = ((List.range k).map fun b => (C b : Int)) ++ [(q : Int)] := by
  rw [List.range_succ, List.map_append]
  congr 1
  · refine List.map_congr_left fun b hb => ?_
    have : b < k := by simpa using hb
    unfold sC; rw [if_neg (by omega)]
  · simp [sC]

theorem find_first {n k : Nat} (p : Nat → Int) : (∀ i, k ≤ i → i < n → p i = 0) ∨ ∃ f, k + f < n ∧ p (k + f) ≠ 0 ∧ ∀ i, k ≤ i → i < k + f → p i = 0 := by
  by_cases h : ∀ i, k ≤ i → i < n → p i = 0
  · exact Or.inl h
  · refine Or.inr ?_
    have h' : ∃ i, k ≤ i ∧ i < n ∧ p i ≠ 0 := by
      apply Classical.byContradiction
      intro hn
      apply h
      intro i h1 h2
      apply Classical.byContradiction
      intro h3
      exact hn ⟨i, h1, h2, h3⟩
    have hf : ∃ f, k + f < n ∧ p (k + f) ≠ 0 := by
      obtain ⟨i, h1, h2, h3⟩ := h'
      exact ⟨i - k, by omega, by rw [show k + (i - k) = i by omega]; exact h3⟩
    have ind : ∀ m f, f < m → k + f < n → p (k + f) ≠ 0 → ∃ f, k + f < n ∧ p (k + f) ≠ 0 ∧ ∀ i, k ≤ i → i < k + f → p i = 0 := by
      intro m
      induction m with
      | zero => intro f h; omega
      | succ m ih =>
        intro f hf h1 h2
        by_cases h3 : ∀ i, k ≤ i → i < k + f → p i = 0
        · exact ⟨f, h1, h2, h3⟩
        · have : ∃ i, k ≤ i ∧ i < k + f ∧ p i ≠ 0 := by
            apply Classical.byContradiction
            intro hn
            apply h3
            intro i a1 a2
            apply Classical.byContradiction
            intro a3
            exact hn ⟨i, a1, a2, a3⟩
          obtain ⟨i, a1, a2, a3⟩ := this
          exact ih (i - k) (by omega) (by omega) (by rw [show k + (i - k) = i by omega]; exact a3)
    obtain ⟨f, h1, h2⟩ := hf
    exact ind (f + 1) f (by omega) h1 h2

theorem pivot_step (B R n c q : Nat) (M : Nat → Nat → Int) (w : World) (h : LS B R n c M q w) (hB : B ≤ w.heap.size) (hBR : B ≤ R) (hn : n ≤ 500) (hq : q < c) (hbd : Bd M n c) :
    Calls Tryz.prog 115 #[.pointer (some ⟨R, 0, none⟩), .int .i64 q] w fun e w' => e = .returned (.tuple #[]) ∧ LS B R n c M (q + 1) w' ∧ Below B w w' := by
  obtain ⟨M', C, k, sgn, hr, go, capo, pv, bs, caps, hs⟩ := h
  have hl : ((List.range k).map fun b => (C b : Int)).length = k := by simp
  rcases find_first (n := n) (k := k) fun i => rr M' C k i q with hz | ⟨f, h1, h2, h3⟩
  · refine (pivot_none B R n c q _ _ _ _ go capo pv bs caps w hs hB hn (by rw [hl]; exact hr.done.kn) hq (by rw [hl]; exact hz)).mono ?_
    rintro e w' ⟨e1, e2, e3⟩
    exact ⟨e1, ⟨M', C, k, sgn, hr.none hz, go, capo, pv, bs, caps, e2⟩, e3⟩
  · obtain ⟨r1, r2, r3, r4, r5⟩ := hr.some h1 h2
    have hb := hbd (q + 1) _ _ _ _ (by omega) r1
    refine (pivot_some B R n c q f (rr M' C k) (rr (fun i => M' (sw k (k + f) i)) (sC C k q) (k + 1)) _ _ _ go capo pv bs caps w hs hB hBR hn (by rw [hl]; exact h1) hq (by rw [hl]; exact h3) (by rw [hl]; exact h2) hr.done.nz hr.one
      (by rw [hl]; exact fun i _ hi j _ => r3 i hi j) (by rw [hl]; exact fun i hi _ j hj => by have := hb i hi j hj; rw [r5] at this; exact this)).mono ?_
    rintro e w' ⟨e1, ⟨pv', bs', caps', e2⟩, e3⟩
    refine ⟨e1, ⟨_, _, _, _, r1, go, capo, pv', bs', caps', ?_⟩, e3⟩
    rw [hl] at e2
    rw [range_congr, r2]
    refine e2.congr fun i _ j _ => ?_
    by_cases e : i = k
    · subst e; rw [if_pos rfl, r4]
    · rw [if_neg e]

end Go.Proofs.YtgfnmkenpgnllaaGreat
