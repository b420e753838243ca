import Derived.Test.YtmljnfgfjcjmmaaRefA
import Derived.Test.YtmljnfgfjcjmmaaLinAll
/- The document's answer: determinants by all orders of columns. -/
namespace Go.Proofs.Ytmljnfgfjcjmmaa
open Go.RowKit
attribute [local go_sem ↓] Go.wp_at_zero Go.wp_at_succ

/-- A list of lists as rows of numbers. -/
def fm (m : List (List Int)) : List (Nat → Int) := m.map fun l j => l.getD j 0

theorem fb_mono {Bd : Nat} (h : 1 ≤ Bd) : ∀ {a b : Nat}, a ≤ b → Lin.fb Bd a ≤ Lin.fb Bd b := by
  intro a b hab
  induction b with
  | zero => have : a = 0 := by omega
            subst this; exact Nat.le_refl _
  | succ b ih =>
    by_cases e : a = b + 1
    · subst e; exact Nat.le_refl _
    · have := ih (by omega)
      simp only [Lin.fb]
      have h2 : 1 * Lin.fb Bd b ≤ (b + 1) * Bd * Lin.fb Bd b := Nat.mul_le_mul_right _ (Nat.mul_pos (by omega) (by omega))
      omega

theorem Mat.setCell {B : Nat} {e2 e1 t : TypeId} {w : World} {v u : Value} {m : List (List Int)} {g k n : Nat} {f : Nat → Value} (h : Mat B e2 e1 w v m) (hr : w.rowIs g t n f) (hg : B ≤ g) (h1 : t ≠ e1) (h2 : t ≠ e2) : Mat B e2 e1 (w.setCell ⟨g, k, none⟩ u) v m := by
  obtain ⟨c, hc, _⟩ := hr
  obtain ⟨vs, q1, q2, q3⟩ := h
  have z : ∀ e, t ≠ e → ∀ cur, w.heap[g]? ≠ some (.cells cur e (0, 0)) := by
    intro e he cur; rw [hc]; simp; intro _ hh; exact absurd hh he
  exact ⟨vs, q1, q2.setCell _ ⟨hg, z e2 h2⟩, fun i hi => (q3 i hi).setCell _ ⟨hg, z e1 h1⟩⟩

/-- The determinant of a square. -/
def detL (m : List (List Int)) : Int := Lin.od m.length (fm m) fun _ => false

end Go.Proofs.Ytmljnfgfjcjmmaa

/- The document's answer: are rows free? -/
namespace Go.Proofs.Ytmljnfgfjcjmmaa
open Go.RowKit

/-- What is held of rows of c numbers. -/
structure Mx (c Bd : Nat) (m : List (List Int)) : Prop where
  row : ∀ r ∈ m, r.length = c
  bd : ∀ r ∈ m, ∀ z ∈ r, z.natAbs ≤ Bd
  c5 : c ≤ 5
  c1 : 1 ≤ c
  pos : 1 ≤ Bd
  small : Lin.fb Bd c ≤ 1152921504606846976

theorem chosen_mem : ∀ k n q, q ∈ chosenL k n → (∀ i, i < k → 0 ≤ q.getD i 0 ∧ q.getD i 0 < (n : Int)) ∧ ∀ i j, i < j → j < k → q.getD i 0 < q.getD j 0 := by
  intro k
  induction k with
  | zero => intro n q h; exact ⟨fun i hi => by omega, fun i j _ hj => by omega⟩
  | succ k ih =>
    intro n q h
    simp only [chosenL, List.mem_flatMap, List.mem_map, List.mem_range'_1] at h
    obtain ⟨v, hv, l, hl, rfl⟩ := h
    have hll := chosen_row k v l hl
    obtain ⟨h1, h2⟩ := ih v l hl
    have e1 : ∀ i, i < k → (l ++ [(v : Int)]).getD i 0 = l.getD i 0 := by
      intro i hi; simp only [List.getD_eq_getElem?_getD]; rw [List.getElem?_append_left (by omega)]
    have e2 : (l ++ [(v : Int)]).getD k 0 = v := by
      simp only [List.getD_eq_getElem?_getD]; rw [List.getElem?_append_right (by omega)]; simp [hll]
    refine ⟨fun i hi => ?_, fun i j hij hj => ?_⟩
    · by_cases e : i < k
      · rw [e1 i e]; have := h1 i e; omega
      · rw [show i = k by omega, e2]; omega
    · by_cases e : j < k
      · rw [e1 i (by omega), e1 j e]; exact h2 i j hij e
      · rw [show j = k by omega, e2, e1 i (by omega)]; exact (h1 i (by omega)).2

theorem chosen_all : ∀ k n K, Lin.Rising k n K → ((List.range k).map fun i => (K i : Int)) ∈ chosenL k n := by
  intro k
  induction k with
  | zero => intro n K _; simp [chosenL]
  | succ k ih =>
    intro n K h
    simp only [chosenL, List.mem_flatMap, List.mem_map, List.mem_range'_1]
    have hk : k ≤ K k := by
      have : ∀ i, i < k + 1 → i ≤ K i := by
        intro i
        induction i with
        | zero => intro _; omega
        | succ i ii => intro hi; have := ii (by omega); have := h.1 i (i + 1) (by omega) hi; omega
      exact this k (by omega)
    refine ⟨K k, ⟨hk, by have := h.2 k (by omega); omega⟩, _, ih (K k) K ⟨fun i j hij hj => h.1 i j hij (by omega), fun i hi => h.1 i k hi (by omega)⟩, ?_⟩
    simp [List.range_succ]

def freeL (c : Nat) (m : List (List Int)) : Bool := m.length == 0 || (decide (m.length ≤ c) && (chosenL m.length c).any fun q => detL (colsL m q) != 0)

def toK (q : List Int) : Nat → Nat := fun i => (q.getD i 0).toNat

theorem det_cols {m : List (List Int)} {q : List Int} (hq : q.length = m.length) : detL (colsL m q) = Lin.od (fm m).length (Lin.cols (fm m) (toK q)) fun _ => false := by
  unfold detL
  rw [colsL_length, show (fm m).length = m.length by simp [fm]]
  refine Lin.od_congr (by simp [fm, colsL, Lin.cols]) (fun i hi j hj => ?_) _
  have hi' : i < m.length := by simpa [fm, colsL] using hi
  simp [fm, colsL, Lin.cols, hi', toK, hq, hj]

theorem toK_rising {k n : Nat} {q : List Int} (h : q ∈ chosenL k n) : Lin.Rising k n (toK q) := by
  obtain ⟨h1, h2⟩ := chosen_mem k n q h
  refine ⟨fun i j hij hj => ?_, fun i hi => ?_⟩
  · have a1 := h1 i (by omega)
    have a2 := h2 i j hij hj
    unfold toK; omega
  · have a1 := h1 i hi
    unfold toK; omega

theorem freeL_iff {c : Nat} {m : List (List Int)} : freeL c m = true ↔ Lin.FreeP c (fm m) := by
  have hfl : (fm m).length = m.length := by simp [fm]
  constructor
  · intro h
    simp only [freeL, Bool.or_eq_true, beq_iff_eq, Bool.and_eq_true, decide_eq_true_eq, List.any_eq_true] at h
    rcases h with h | ⟨_, q, hq, hd⟩
    · have : m = [] := List.eq_nil_of_length_eq_zero h
      subst this
      exact ⟨id, ⟨fun _ _ _ h => absurd h (by simp [fm]), fun _ h => absurd h (by simp [fm])⟩, by simp [fm, Lin.cols, Lin.od]⟩
    · refine ⟨toK q, by rw [hfl]; exact toK_rising hq, ?_⟩
      rw [← det_cols (chosen_row _ _ _ hq)]
      simpa using hd
  · rintro ⟨K, hK, hod⟩
    rw [hfl] at hK
    simp only [freeL, Bool.or_eq_true, beq_iff_eq, Bool.and_eq_true, decide_eq_true_eq, List.any_eq_true]
    right
    have hle : m.length ≤ c := by
      by_cases h0 : m.length = 0
      · omega
      · have : ∀ i, i < m.length → i ≤ K i := by
          intro i
          induction i with
          | zero => intro _; omega
          | succ i ii => intro hi; have := ii (by omega); have := hK.1 i (i + 1) (by omega) hi; omega
        have a1 := this (m.length - 1) (by omega)
        have a2 := hK.2 (m.length - 1) (by omega)
        omega
    refine ⟨hle, _, chosen_all _ _ K hK, ?_⟩
    rw [det_cols (by simp)]
    have e : Lin.od (fm m).length (Lin.cols (fm m) (toK ((List.range m.length).map fun i => (K i : Int)))) (fun _ => false) = Lin.od (fm m).length (Lin.cols (fm m) K) (fun _ => false) := by
      refine Lin.od_congr (by simp [Lin.cols]) (fun i hi j hj => ?_) _
      have hi' : i < m.length := by simpa [Lin.cols, fm] using hi
      have hj' : j < m.length := by rw [hfl] at hj; exact hj
      simp [Lin.cols, fm, hi', toK, hj']
    rw [e]
    simpa using hod

end Go.Proofs.Ytmljnfgfjcjmmaa

/- The document's answer: the rows that make the rank more. -/
namespace Go.Proofs.Ytmljnfgfjcjmmaa
open Go.RowKit
attribute [local go_sem ↓] Go.wp_at_zero Go.wp_at_succ

/-- The greedy choice. -/
def pickL (c : Nat) (m : List (List Int)) : List (List Int) := m.foldl (fun h r => if freeL c (h ++ [r]) then h ++ [r] else h) []

theorem pickL_mem {c : Nat} {m : List (List Int)} {r : List Int} (h : r ∈ pickL c m) : r ∈ m := by
  have : ∀ (m h : List (List Int)) (r : List Int), r ∈ m.foldl (fun h r => if freeL c (h ++ [r]) then h ++ [r] else h) h → r ∈ h ∨ r ∈ m := by
    intro m
    induction m with
    | nil => intro h r hr; exact Or.inl hr
    | cons x m ih =>
      intro h r hr
      rcases ih _ _ hr with h1 | h1
      · have h1 : r ∈ (if freeL c (h ++ [x]) = true then h ++ [x] else h) := h1
        by_cases hf : freeL c (h ++ [x]) = true
        · rw [if_pos hf] at h1
          rcases List.mem_append.1 h1 with h2 | h2
          · exact Or.inl h2
          · simp at h2; exact Or.inr (by simp [h2])
        · rw [if_neg hf] at h1; exact Or.inl h1
      · exact Or.inr (by simp [h1])
  rcases this m [] r h with h | h
  · simp at h
  · exact h

theorem fm_append (a b : List (List Int)) : fm (a ++ b) = fm a ++ fm b := by simp [fm]

/-- It is a greedy choice in the plain sense. -/
theorem pick_greedy (c : Nat) (m : List (List Int)) : Lin.Greedy c (fm m) (fm (pickL c m)) := by
  have : ∀ (m h l : List (List Int)), Lin.Greedy c (fm l) (fm h) → Lin.Greedy c (fm (l ++ m)) (fm (m.foldl (fun h r => if freeL c (h ++ [r]) then h ++ [r] else h) h)) := by
    intro m
    induction m with
    | nil => intro h l hg; simpa using hg
    | cons x m ih =>
      intro h l hg
      have e : l ++ x :: m = (l ++ [x]) ++ m := by simp
      rw [e, List.foldl_cons]
      apply ih
      by_cases hf : freeL c (h ++ [x]) = true
      · rw [if_pos hf, fm_append, fm_append]
        exact hg.more (by have := freeL_iff.1 hf; rwa [fm_append] at this)
      · rw [if_neg hf, fm_append]
        refine hg.less fun hp => hf (freeL_iff.2 ?_)
        rw [fm_append]; exact hp
  exact this m [] [] (Lin.Greedy.nil c)

theorem Mx.sub {c Bd : Nat} {m l : List (List Int)} (h : Mx c Bd m) (hs : ∀ r ∈ l, r ∈ m) : Mx c Bd l :=
  ⟨fun r hr => h.row r (hs r hr), fun r hr => h.bd r (hs r hr), h.c5, h.c1, h.pos, h.small⟩

theorem freeL_cap {c : Nat} {m : List (List Int)} (h : freeL c m = true) : m.length ≤ c := by
  by_cases hle : c < m.length
  · have hb0 : (m.length == 0) = false := by simp; intro h0; rw [h0] at hle; simp at hle
    have hf : freeL c m = false := by rw [freeL, hb0, decide_eq_false (by omega)]; rfl
    rw [hf] at h
    exact absurd h (by decide)
  · omega

theorem pickL_cap (c : Nat) (m : List (List Int)) : (pickL c m).length ≤ c := by
  have gen : ∀ (m h : List (List Int)), h.length ≤ c → (m.foldl (fun h r => if freeL c (h ++ [r]) then h ++ [r] else h) h).length ≤ c := by
    intro m
    induction m with
    | nil => intro h hh; exact hh
    | cons r m ih =>
      intro h hh
      rw [List.foldl_cons]
      refine ih _ ?_
      split
      · rename_i hf; exact freeL_cap hf
      · exact hh
  exact gen m [] (by simp)

end Go.Proofs.Ytmljnfgfjcjmmaa

/- The document's answer: the one direction, by minors. -/
namespace Go.Proofs.Ytmljnfgfjcjmmaa
open Go.RowKit

/-- The direction that minors tell, number by number. -/
def muL (c : Nat) (rows : List (List Int)) : List Int := (List.range c).map fun k => Lin.mu (fm rows) k

theorem ngo_mod (k : Nat) : Lin.ngo k = if k % 2 = 1 then -1 else 1 := by
  induction k with
  | zero => rfl
  | succ k ih =>
    simp only [Lin.ngo]; rw [ih]
    by_cases h : k % 2 = 1
    · rw [if_pos h, if_neg (by omega)]; rfl
    · rw [if_neg h, if_pos (by omega)]

theorem low_bd {l : List Int} {b : Nat} (h : ∀ z ∈ l, z.natAbs ≤ b) : ∀ z ∈ Lin.low l, z.natAbs ≤ b := by
  intro z hz
  simp only [Lin.low, List.mem_map] at hz
  obtain ⟨y, hy, rfl⟩ := hz
  by_cases h0 : Lin.gc l = 0
  · rw [h0]; simp
  · have h1 := h y hy
    obtain ⟨q, hq⟩ := Lin.gc_dvd hy
    have h3 : y / (Lin.gc l : Int) = q := by rw [hq]; exact Int.mul_ediv_cancel_left q (by omega)
    have h4 : y.natAbs = Lin.gc l * q.natAbs := by rw [hq, Int.natAbs_mul]; simp
    rw [h3]
    have h5 : 1 * q.natAbs ≤ Lin.gc l * q.natAbs := Nat.mul_le_mul_right _ (by omega)
    omega

/-- The answer: the list, and whether there is one. -/
def normL (c : Nat) (m : List (List Int)) : List Int := if (pickL c m).length + 1 = c then Lin.upr (Lin.low (muL c (pickL c m))) else []
def normB (c : Nat) (m : List (List Int)) : Bool := decide ((pickL c m).length + 1 = c)

end Go.Proofs.Ytmljnfgfjcjmmaa
