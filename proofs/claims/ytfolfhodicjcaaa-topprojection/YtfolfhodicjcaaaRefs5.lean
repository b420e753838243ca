/- The document's answer: are rows free? -/
import Derived.Test.YtfolfhodicjcaaaRefs4
import Derived.Test.YtfolfhodicjcaaaLinAll
namespace Go.Proofs.Ytfolfhodicjcaaa
open Go.RowKit

/-- What is held of rows of c numbers. -/
structure Mx (c Bd : Nat) (m : List (List Int)) : Prop where
  row : ∀ r ∈ m, r.length = c
  bd : ∀ r ∈ m, ∀ z ∈ r, z.natAbs ≤ Bd
  c5 : c ≤ 5
  c1 : 1 ≤ c
  pos : 1 ≤ Bd
  small : Lin.fb Bd c ≤ 1152921504606846976

theorem chosen_mem : ∀ k n q, q ∈ chosenL k n → (∀ i, i < k → 0 ≤ q.getD i 0 ∧ q.getD i 0 < (n : Int)) ∧ ∀ i j, i < j → j < k → q.getD i 0 < q.getD j 0 := by
  intro k
  induction k with
  | zero => intro n q h; exact ⟨fun i hi => by omega, fun i j _ hj => by omega⟩
  | succ k ih =>
    intro n q h
    simp only [chosenL, List.mem_flatMap, List.mem_map, List.mem_range'_1] at h
    obtain ⟨v, hv, l, hl, rfl⟩ := h
    have hll := chosen_row k v l hl
    obtain ⟨h1, h2⟩ := ih v l hl
    have e1 : ∀ i, i < k → (l ++ [(v : Int)]).getD i 0 = l.getD i 0 := by
      intro i hi; simp only [List.getD_eq_getElem?_getD]; rw [List.getElem?_append_left (by omega)]
    have e2 : (l ++ [(v : Int)]).getD k 0 = v := by
      simp only [List.getD_eq_getElem?_getD]; rw [List.getElem?_append_right (by omega)]; simp [hll]
    refine ⟨fun i hi => ?_, fun i j hij hj => ?_⟩
    · by_cases e : i < k
      · rw [e1 i e]; have := h1 i e; omega
      · rw [show i = k by omega, e2]; omega
    · by_cases e : j < k
      · rw [e1 i (by omega), e1 j e]; exact h2 i j hij e
      · rw [show j = k by omega, e2, e1 i (by omega)]; exact (h1 i (by omega)).2

theorem chosen_all : ∀ k n K, Lin.Rising k n K → ((List.range k).map fun i => (K i : Int)) ∈ chosenL k n := by
  intro k
  induction k with
  | zero => intro n K _; simp [chosenL]
  | succ k ih =>
    intro n K h
    simp only [chosenL, List.mem_flatMap, List.mem_map, List.mem_range'_1]
    have hk : k ≤ K k := by
      have : ∀ i, i < k + 1 → i ≤ K i := by
        intro i
        induction i with
        | zero => intro _; omega
        | succ i ii => intro hi; have := ii (by omega); have := h.1 i (i + 1) (by omega) hi; omega
      exact this k (by omega)
    refine ⟨K k, ⟨hk, by have := h.2 k (by omega); omega⟩, _, ih (K k) K ⟨fun i j hij hj => h.1 i j hij (by omega), fun i hi => h.1 i k hi (by omega)⟩, ?_⟩
    simp [List.range_succ]

def freeL (c : Nat) (m : List (List Int)) : Bool := m.length == 0 || (decide (m.length ≤ c) && (chosenL m.length c).any fun q => detL (colsL m q) != 0)

def toK (q : List Int) : Nat → Nat := fun i => (q.getD i 0).toNat

theorem det_cols {m : List (List Int)} {q : List Int} (hq : q.length = m.length) : detL (colsL m q) = Lin.od (fm m).length (Lin.cols (fm m) (toK q)) fun _ => false := by
  unfold detL
  rw [colsL_length, show (fm m).length = m.length by simp [fm]]
  refine Lin.od_congr (by simp [fm, colsL, Lin.cols]) (fun i hi j hj => ?_) _
  have hi' : i < m.length := by simpa [fm, colsL] using hi
  simp [fm, colsL, Lin.cols, hi', toK, hq, hj]

theorem toK_rising {k n : Nat} {q : List Int} (h : q ∈ chosenL k n) : Lin.Rising k n (toK q) := by
  obtain ⟨h1, h2⟩ := chosen_mem k n q h
  refine ⟨fun i j hij hj => ?_, fun i hi => ?_⟩
  · have a1 := h1 i (by omega)
    have a2 := h2 i j hij hj
    unfold toK; omega
  · have a1 := h1 i hi
    unfold toK; omega

theorem freeL_iff {c : Nat} {m : List (List Int)} : freeL c m = true ↔ Lin.FreeP c (fm m) := by
  have hfl : (fm m).length = m.length := by simp [fm]
  constructor
  · intro h
    simp only [freeL, Bool.or_eq_true, beq_iff_eq, Bool.and_eq_true, decide_eq_true_eq, List.any_eq_true] at h
    rcases h with h | ⟨_, q, hq, hd⟩
    · have : m = [] := List.eq_nil_of_length_eq_zero h
      subst this
      exact ⟨id, ⟨fun _ _ _ h => absurd h (by simp [fm]), fun _ h => absurd h (by simp [fm])⟩, by simp [fm, Lin.cols, Lin.od]⟩
    · refine ⟨toK q, by rw [hfl]; exact toK_rising hq, ?_⟩
      rw [← det_cols (chosen_row _ _ _ hq)]
      simpa using hd
  · rintro ⟨K, hK, hod⟩
    rw [hfl] at hK
    simp only [freeL, Bool.or_eq_true, beq_iff_eq, Bool.and_eq_true, decide_eq_true_eq, List.any_eq_true]
    right
    have hle : m.length ≤ c := by
      by_cases h0 : m.length = 0
      · omega
      · have : ∀ i, i < m.length → i ≤ K i := by
          intro i
          induction i with
          | zero => intro _; omega
          | succ i ii => intro hi; have := ii (by omega); have := hK.1 i (i + 1) (by omega) hi; omega
        have a1 := this (m.length - 1) (by omega)
        have a2 := hK.2 (m.length - 1) (by omega)
        omega
    refine ⟨hle, _, chosen_all _ _ K hK, ?_⟩
    rw [det_cols (by simp)]
    have e : Lin.od (fm m).length (Lin.cols (fm m) (toK ((List.range m.length).map fun i => (K i : Int)))) (fun _ => false) = Lin.od (fm m).length (Lin.cols (fm m) K) (fun _ => false) := by
      refine Lin.od_congr (by simp [Lin.cols]) (fun i hi j hj => ?_) _
      have hi' : i < m.length := by simpa [Lin.cols, fm] using hi
      have hj' : j < m.length := by rw [hfl] at hj; exact hj
      simp [Lin.cols, fm, hi', toK, hj']
    rw [e]
    simpa using hod

theorem sq_cols {c Bd : Nat} {m : List (List Int)} {q : List Int} (h : Mx c Bd m) (hm : m.length ≤ c) (hq : q ∈ chosenL m.length c) : Sq (colsL m q).length Bd (colsL m q) := by
  have hl := chosen_row _ _ _ hq
  have hc5 := h.c5
  rw [colsL_length]
  refine ⟨colsL_length m q, fun r hr => ?_, fun r hr j hj => ?_, Nat.le_trans (fb_mono h.pos hm) h.small, by omega, h.pos⟩
  · simp only [colsL, List.mem_map] at hr
    obtain ⟨r', _, rfl⟩ := hr
    simp [hl]
  · simp only [colsL, List.mem_map] at hr
    obtain ⟨r', hr', rfl⟩ := hr
    have e : (q.map fun x => r'.getD x.toNat 0).getD j 0 = r'.getD (toK q j) 0 := by
      simp [toK, hl, hj]
    rw [e]
    have hlt := (toK_rising hq).2 j hj
    have : r'.getD (toK q j) 0 ∈ r' := by
      have : toK q j < r'.length := by rw [h.row r' hr']; exact hlt
      simp [this]
    exact h.bd r' hr' _ this

end Go.Proofs.Ytfolfhodicjcaaa
