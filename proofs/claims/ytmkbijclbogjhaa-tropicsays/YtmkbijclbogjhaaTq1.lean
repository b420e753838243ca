/- Roots of the least of sums, pure: as many as the degree, each once. -/
import Derived.Test.YtmkbijclbogjhaaTsd
namespace Go.Proofs.Ytmkbijclbogjhaa

/-- Term j, where i and k are alike. -/
def tj (l : List Int) (a b : Int) (j : Nat) : Int := l.getD j 0 * b + (j : Int) * a

theorem tT_at {l : List Int} {i k j : Nat} (h : j < l.length) : (tT l i k).getD j 0 = tj l (q0T l i k) (q1T l i k) j := tmL_at h

/-- i and k are the first and the last of the least. -/
structure Acc (l : List Int) (a b : Int) (i k : Nat) : Prop where
  b1 : 1 ≤ b
  ik : i < k
  kn : k < l.length
  low : ∀ j, j < l.length → tj l a b i ≤ tj l a b j
  same : tj l a b i = tj l a b k
  fst : ∀ j, j < i → tj l a b i < tj l a b j
  lst : ∀ j, k < j → j < l.length → tj l a b i < tj l a b j

theorem alike {l : List Int} {i k : Nat} (h : i < k) : tj l (q0T l i k) (q1T l i k) i = tj l (q0T l i k) (q1T l i k) k := by
  obtain ⟨g, h1, h2, h3, h4⟩ := q_fact (l := l) h
  unfold tj
  generalize q0T l i k = a at *
  generalize q1T l i k = b at *
  have e : (l.getD i 0 - l.getD k 0) * b = ((k : Int) - i) * a := by
    rw [h2, h3]
    rw [Int.mul_assoc, Int.mul_assoc, Int.mul_comm a b]
  rw [Int.sub_mul, Int.sub_mul] at e
  omega

theorem rtB_acc {l : List Int} {i k : Nat} (h : i < k) (hk : k < l.length) : rtB l i k = true ↔ Acc l (q0T l i k) (q1T l i k) i k := by
  obtain ⟨g, _, _, _, hb1⟩ := q_fact (l := l) h
  have hT : (tT l i k).length = l.length := tmL_len _ _ _
  have hs := alike (l := l) h
  unfold rtB
  rw [Bool.and_eq_true, beq_iff_eq, Bool.not_eq_true']
  constructor
  · rintro ⟨h1, h2⟩
    have hany : (tT l i k).any (· == minL (tT l i k)) = true := by
      unfold findI at h1
      split at h1
      · assumption
      · omega
    unfold findI at h1
    rw [hany, if_pos rfl] at h1
    have hi : (tT l i k).findIdx (· == minL (tT l i k)) = i := by omega
    have hil : i < (tT l i k).length := by omega
    have hp := List.findIdx_getElem (w := by rw [hi]; exact hil) (xs := tT l i k) (p := (· == minL (tT l i k)))
    have hpi : (tT l i k).getD i 0 = minL (tT l i k) := by
      have e : (tT l i k).getD i 0 = (tT l i k)[i] := by simp [hil]
      rw [e]
      simp only [hi, beq_iff_eq] at hp
      exact hp
    have hlow : ∀ j, j < l.length → tj l (q0T l i k) (q1T l i k) i ≤ tj l (q0T l i k) (q1T l i k) j := fun j hj => by
      have := minL_le (zs := tT l i k) (j := j) (by omega)
      rw [← hpi, tT_at (by omega), tT_at hj] at this
      exact this
    refine ⟨hb1, h, hk, hlow, hs, fun j hj => ?_, fun j hj hjl => ?_⟩
    · have hn := List.not_of_lt_findIdx (xs := tT l i k) (p := (· == minL (tT l i k))) (i := j) (by omega)
      have hjl : j < (tT l i k).length := by omega
      have e : (tT l i k).getD j 0 = (tT l i k)[j] := by simp [hjl]
      have hne : (tT l i k).getD j 0 ≠ minL (tT l i k) := by
        rw [e]
        simpa using hn
      rw [← hpi, tT_at (by omega), tT_at (by omega)] at hne
      have := hlow j (by omega)
      omega
    · have hne : (tT l i k).getD j 0 ≠ minL (tT l i k) := by
        intro he
        have hjl' : j < (tT l i k).length := by omega
        have hm : (tT l i k)[j] ∈ (tT l i k).drop (k + 1) := by
          rw [List.mem_iff_getElem]
          refine ⟨j - (k + 1), by simp; omega, ?_⟩
          simp only [List.getElem_drop]
          congr 1
          omega
        have e : (tT l i k).getD j 0 = (tT l i k)[j] := by simp [hjl']
        have := List.any_eq_false.1 h2 _ hm
        rw [← e, he] at this
        simp at this
      rw [← hpi, tT_at hjl, tT_at (show i < l.length by omega)] at hne
      have := hlow j hjl
      omega
  · intro ha
    have hm : minL (tT l i k) = tj l (q0T l i k) (q1T l i k) i := by
      obtain ⟨j, hj, he⟩ := minL_mem (zs := tT l i k) (by omega)
      have h1 := minL_le (zs := tT l i k) (j := i) (by omega)
      rw [tT_at (by omega)] at h1
      rw [tT_at (by omega)] at he
      have := ha.low j (by omega)
      omega
    constructor
    · have hil : i < (tT l i k).length := by omega
      refine findI_hit hil ?_ ?_
      · rw [List.any_eq_false]
        intro z hz
        rw [List.mem_take_iff_getElem] at hz
        obtain ⟨j, hj, rfl⟩ := hz
        have hj' : j < i := by omega
        have := ha.fst j hj'
        have e : (tT l i k)[j]'(by omega) = (tT l i k).getD j 0 := by simp [show j < (tT l i k).length by omega]
        rw [e, tT_at (by omega), hm]
        simp
        omega
      · have e : (tT l i k)[i] = (tT l i k).getD i 0 := by simp [hil]
        rw [e, tT_at (by omega), hm]
        simp
    · rw [List.any_eq_false]
      intro z hz
      rw [List.mem_iff_getElem] at hz
      obtain ⟨j, hj, rfl⟩ := hz
      simp only [List.length_drop] at hj
      rw [List.getElem_drop]
      have := ha.lst (k + 1 + j) (by omega) (by omega)
      have e : (tT l i k)[k + 1 + j]'(by omega) = (tT l i k).getD (k + 1 + j) 0 := by simp [show k + 1 + j < (tT l i k).length by omega]
      rw [e, tT_at (by omega), hm]
      simp
      omega

/-- Two slopes: what a term is more by. -/
theorem tj_two (l : List Int) (a b a' b' : Int) (j : Nat) : tj l a b j * b' - tj l a' b' j * b = (j : Int) * (a * b' - a' * b) := by
  unfold tj
  simp only [Int.add_mul, Int.mul_sub]
  have e1 : l.getD j 0 * b * b' = l.getD j 0 * b' * b := by rw [Int.mul_assoc, Int.mul_comm b b', ← Int.mul_assoc]
  have e2 : (j : Int) * a * b' = (j : Int) * (a * b') := Int.mul_assoc _ _ _
  have e3 : (j : Int) * a' * b = (j : Int) * (a' * b) := Int.mul_assoc _ _ _
  omega

/-- A greater slope lies further ahead. -/
theorem acc_apart {l : List Int} {a b a' b' : Int} {i k i' k' : Nat} (h : Acc l a b i k) (h' : Acc l a' b' i' k') (hd : a' * b < a * b') : k ≤ i' := by
  refine Nat.not_lt.1 (fun hlt => ?_)
  have hi' : i' < l.length := Nat.lt_trans h'.ik h'.kn
  have e1 := tj_two l a b a' b' i'
  have e2 := tj_two l a b a' b' k
  have l1 : tj l a b k ≤ tj l a b i' := by have := h.low i' hi'; rw [h.same] at this; exact this
  have l2 : tj l a' b' i' ≤ tj l a' b' k := h'.low k h.kn
  have m1 : tj l a b k * b' ≤ tj l a b i' * b' := Int.mul_le_mul_of_nonneg_right l1 (by have := h'.b1; omega)
  have m2 : tj l a' b' i' * b ≤ tj l a' b' k * b := Int.mul_le_mul_of_nonneg_right l2 (by have := h.b1; omega)
  have hp : 0 < a * b' - a' * b := by omega
  have m3 : (i' : Int) * (a * b' - a' * b) < (k : Int) * (a * b' - a' * b) := Int.mul_lt_mul_of_pos_right (by omega) hp
  omega

/-- One slope: one pair. -/
theorem acc_same {l : List Int} {a b a' b' : Int} {i k i' k' : Nat} (h : Acc l a b i k) (h' : Acc l a' b' i' k') (hd : a' * b = a * b') : i = i' ∧ k = k' := by
  have e : ∀ j, tj l a b j * b' = tj l a' b' j * b := fun j => by
    have := tj_two l a b a' b' j
    rw [← hd, Int.sub_self, Int.mul_zero] at this
    omega
  have hb := h.b1
  have hb' := h'.b1
  have le1 : ∀ x y, tj l a b x ≤ tj l a b y → tj l a' b' x ≤ tj l a' b' y := fun x y hxy => by
    have m := Int.mul_le_mul_of_nonneg_right hxy (show (0 : Int) ≤ b' by omega)
    rw [e x, e y] at m
    exact Int.le_of_mul_le_mul_right m (by omega)
  have le2 : ∀ x y, tj l a' b' x ≤ tj l a' b' y → tj l a b x ≤ tj l a b y := fun x y hxy => by
    have m := Int.mul_le_mul_of_nonneg_right hxy (show (0 : Int) ≤ b by omega)
    rw [← e x, ← e y] at m
    exact Int.le_of_mul_le_mul_right m (by omega)
  have hin : i < l.length := Nat.lt_trans h.ik h.kn
  have hin' : i' < l.length := Nat.lt_trans h'.ik h'.kn
  have hik : h.ik = h.ik := rfl
  refine ⟨?_, ?_⟩
  · rcases Nat.lt_trichotomy i i' with hlt | heq | hgt
    · have h1 := h'.fst i hlt
      have h2 := le1 i i' (h.low i' hin')
      omega
    · exact heq
    · have h1 := h.fst i' hgt
      have h2 := le2 i' i (h'.low i hin)
      omega
  · rcases Nat.lt_trichotomy k k' with hlt | heq | hgt
    · have h1 := h.lst k' hlt h'.kn
      have h2 := le2 k' i (by rw [← h'.same]; exact h'.low i hin)
      omega
    · exact heq
    · have h1 := h'.lst k hgt h.kn
      have h2 := le1 k i' (by rw [← h.same]; exact h.low i' hin')
      omega

/-- One of a finite row that is greatest, by an order in which any two stand. -/
theorem best_of {R : Nat → Nat → Prop} (hrefl : ∀ x, R x x) (htot : ∀ x y, R x y ∨ R y x) (htr : ∀ x y z, R x y → R y z → R x z) (lo : Nat) : ∀ m, ∃ x, lo ≤ x ∧ x ≤ lo + m ∧ ∀ y, lo ≤ y → y ≤ lo + m → R y x
  | 0 => ⟨lo, Nat.le_refl _, Nat.le_refl _, fun y h1 h2 => by rw [show y = lo by omega]; exact hrefl _⟩
  | m + 1 => by
    obtain ⟨x, h1, h2, h3⟩ := best_of hrefl htot htr lo m
    rcases htot x (lo + (m + 1)) with h | h
    · refine ⟨lo + (m + 1), by omega, Nat.le_refl _, fun y hy1 hy2 => ?_⟩
      by_cases e : y = lo + (m + 1)
      · rw [e]; exact hrefl _
      · exact htr _ _ _ (h3 y hy1 (by omega)) h
    · refine ⟨x, h1, by omega, fun y hy1 hy2 => ?_⟩
      by_cases e : y = lo + (m + 1)
      · rw [e]; exact h
      · exact h3 y hy1 (by omega)

end Go.Proofs.Ytmkbijclbogjhaa
