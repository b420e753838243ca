/- Rows with a mark (pure): Fourier's and Motzkin's way, rows that hold beyond among them. -/
import Derived.Test.YtgfnmkenpgnllaaGreatNrm
namespace Go.Proofs.YtgfnmkenpgnllaaGreat
open Lin

theorem top_row {α : Type} (c a : α → Int) : ∀ l : List α, (∃ r ∈ l, 0 < c r) → ∃ i ∈ l, 0 < c i ∧ ∀ r ∈ l, 0 < c r → c i * a r ≤ c r * a i
  | [], ⟨_, h, _⟩ => absurd h (by simp)
  | x :: t, hx => by
    by_cases ht : ∃ r ∈ t, 0 < c r
    · obtain ⟨i, hi, hci, hb⟩ := top_row c a t ht
      by_cases hw : 0 < c x ∧ c x * a i < c i * a x
      · refine ⟨x, List.mem_cons_self, hw.1, fun r hr hcr => ?_⟩
        rcases List.mem_cons.1 hr with rfl | hr
        · exact Int.le_refl _
        · have h1 := hb r hr hcr
          refine Int.le_of_mul_le_mul_left ?_ hci
          have h2 : c x * (c i * a r) ≤ c x * (c r * a i) := Int.mul_le_mul_of_nonneg_left h1 (by omega)
          have h3 : c r * (c x * a i) ≤ c r * (c i * a x) := Int.mul_le_mul_of_nonneg_left (by omega) (by omega)
          have e1 : c i * (c x * a r) = c x * (c i * a r) := by grind
          have e2 : c x * (c r * a i) = c r * (c x * a i) := by grind
          have e3 : c i * (c r * a x) = c r * (c i * a x) := by grind
          omega
      · refine ⟨i, List.mem_cons_of_mem _ hi, hci, fun r hr hcr => ?_⟩
        rcases List.mem_cons.1 hr with rfl | hr
        · exact Int.not_lt.1 fun h => hw ⟨hcr, h⟩
        · exact hb r hr hcr
    · obtain ⟨r, hr, hcr⟩ := hx
      rcases List.mem_cons.1 hr with rfl | hr
      · refine ⟨r, List.mem_cons_self, hcr, fun s hs hcs => ?_⟩
        rcases List.mem_cons.1 hs with rfl | hs
        · exact Int.le_refl _
        · exact absurd ⟨s, hs, hcs⟩ ht
      · exact absurd ⟨r, hr, hcr⟩ ht

theorem mul_neg_le {x y : Int} (hx : 0 ≤ x) (hy : y ≤ 0) : x * y ≤ 0 := by
  have := Int.mul_le_mul_of_nonneg_left hy hx
  omega

theorem mul_neg_lt {x y : Int} (hx : 0 < x) (hy : y < 0) : x * y < 0 := Int.mul_neg_of_pos_of_neg hx hy

theorem fm_line {α : Type} (l : List α) (a c : α → Int) (m : α → Prop) (h0 : ∀ r ∈ l, c r = 0 → a r ≤ 0 ∧ (m r → a r < 0))
    (h1 : ∀ i ∈ l, ∀ j ∈ l, 0 < c i → c j < 0 → -(c j) * a i + c i * a j ≤ 0 ∧ (m i ∨ m j → -(c j) * a i + c i * a j < 0)) :
    ∃ p q : Int, 0 < q ∧ ∀ r ∈ l, q * a r + c r * p ≤ 0 ∧ (m r → q * a r + c r * p < 0) := by
  by_cases hp : ∃ r ∈ l, 0 < c r <;> by_cases hn : ∃ r ∈ l, 0 < -(c r)
  · obtain ⟨i, hi, hci, hbi⟩ := top_row c a l hp
    obtain ⟨j, hj, hcj, hbj⟩ := top_row (fun r => -(c r)) a l hn
    refine ⟨a j * c i + a i * c j, 2 * (-(c j) * c i), ?_, fun r hr => ?_⟩
    · have := Int.mul_pos hcj hci
      omega
    · rcases Int.lt_trichotomy (c r) 0 with hcr | hcr | hcr
      · have e : 2 * (-(c j) * c i) * a r + c r * (a j * c i + a i * c j) = c i * (-(c j) * a r - -(c r) * a j) + -(c j) * (-(c r) * a i + c i * a r) := by grind
        have k1 := hbj r hr (by omega)
        have k2 := h1 i hi r hr hci hcr
        have k3 := mul_neg_le (x := c i) (y := -(c j) * a r - -(c r) * a j) (by omega) (by omega)
        refine ⟨?_, fun hm => ?_⟩
        · have k4 := mul_neg_le (x := -(c j)) (y := -(c r) * a i + c i * a r) (by omega) k2.1
          omega
        · have k4 := mul_neg_lt (x := -(c j)) (y := -(c r) * a i + c i * a r) hcj (k2.2 (.inr hm))
          omega
      · have k := h0 r hr hcr
        have hq := Int.mul_pos hcj hci
        rw [hcr, Int.zero_mul, Int.add_zero]
        exact ⟨mul_neg_le (by omega) k.1, fun hm => mul_neg_lt (by omega) (k.2 hm)⟩
      · have e : 2 * (-(c j) * c i) * a r + c r * (a j * c i + a i * c j) = -(c j) * (c i * a r - c r * a i) + c i * (-(c j) * a r + c r * a j) := by grind
        have k1 := hbi r hr hcr
        have k2 := h1 r hr j hj hcr (by omega)
        have k3 := mul_neg_le (x := -(c j)) (y := c i * a r - c r * a i) (by omega) (by omega)
        refine ⟨?_, fun hm => ?_⟩
        · have k4 := mul_neg_le (x := c i) (y := -(c j) * a r + c r * a j) (by omega) k2.1
          omega
        · have k4 := mul_neg_lt (x := c i) (y := -(c j) * a r + c r * a j) hci (k2.2 (.inl hm))
          omega
  · obtain ⟨i, hi, hci, hbi⟩ := top_row c a l hp
    refine ⟨-(a i) - c i, c i, hci, fun r hr => ?_⟩
    rcases Int.lt_trichotomy (c r) 0 with hcr | hcr | hcr
    · exact absurd ⟨r, hr, by omega⟩ hn
    · have k := h0 r hr hcr
      rw [hcr, Int.zero_mul, Int.add_zero]
      exact ⟨mul_neg_le (by omega) k.1, fun hm => mul_neg_lt (by omega) (k.2 hm)⟩
    · have e : c i * a r + c r * (-(a i) - c i) = (c i * a r - c r * a i) - c r * c i := by grind
      have k1 := hbi r hr hcr
      have k2 := Int.mul_pos hcr hci
      exact ⟨by omega, fun _ => by omega⟩
  · obtain ⟨j, hj, hcj, hbj⟩ := top_row (fun r => -(c r)) a l hn
    refine ⟨a j - c j, -(c j), hcj, fun r hr => ?_⟩
    rcases Int.lt_trichotomy (c r) 0 with hcr | hcr | hcr
    · have e : -(c j) * a r + c r * (a j - c j) = (-(c j) * a r - -(c r) * a j) - -(c r) * -(c j) := by grind
      have k1 := hbj r hr (by omega)
      have k2 := Int.mul_pos (show (0 : Int) < -(c r) by omega) hcj
      exact ⟨by omega, fun _ => by omega⟩
    · have k := h0 r hr hcr
      rw [hcr, Int.zero_mul, Int.add_zero]
      exact ⟨mul_neg_le (by omega) k.1, fun hm => mul_neg_lt (by omega) (k.2 hm)⟩
    · exact absurd ⟨r, hr, hcr⟩ hp
  · refine ⟨0, 1, by decide, fun r hr => ?_⟩
    have hcr : c r = 0 := by
      rcases Int.lt_trichotomy (c r) 0 with h | h | h
      · exact absurd ⟨r, hr, by omega⟩ hn
      · exact h
      · exact absurd ⟨r, hr, h⟩ hp
    have k := h0 r hr hcr
    rw [hcr, Int.one_mul, Int.zero_mul, Int.add_zero]
    exact k

/-- A row of k numbers, what they come to at most, and a mark (above 0: below it). -/
def RwH (k : Nat) (r : List Int) (v : Nat → Int) (w : Int) : Prop := dot k (V r) v ≤ V r k * w ∧ (0 < V r (k + 1) → dot k (V r) v < V r k * w)
def Ths (k : Nat) (rows : List (List Int)) : Prop := ∃ v w, 0 < w ∧ ∀ r ∈ rows, RwH k r v w

def drE (r : List Int) (k : Nat) : List Int := r.take k ++ r.drop (k + 1)
def cmE (v : Int) (f : List Int) (u : Int) (s : List Int) : List Int := (List.range f.length).map fun i => v * f.getD i 0 + u * s.getD i 0
def eaO (k : Nat) (rows : List (List Int)) : List (List Int) := rows.flatMap fun f => (if f.getD k 0 = 0 then [drE f k] else []) ++ rows.flatMap fun s => if 0 < f.getD k 0 ∧ s.getD k 0 < 0 then [drE (cmE (-(s.getD k 0)) f (f.getD k 0) s) k] else []

theorem drE_lt {r : List Int} {k i : Nat} (h : i < k) (hk : k < r.length) : V (drE r k) i = V r i := by
  simp only [V, drE, List.getD_eq_getElem?_getD]
  rw [List.getElem?_append_left (by simp; omega), List.getElem?_take_of_lt h]

theorem drE_ge {r : List Int} {k i : Nat} (h : k ≤ i) (hk : k < r.length) : V (drE r k) i = V r (i + 1) := by
  simp only [V, drE, List.getD_eq_getElem?_getD]
  rw [List.getElem?_append_right (by simp; omega), List.getElem?_drop]
  congr 2
  simp
  omega

theorem cmE_at {v u : Int} {f s : List Int} {i : Nat} (h : i < f.length) : V (cmE v f u s) i = v * V f i + u * V s i := by simp [cmE, V, h]

theorem eaO_mem {k : Nat} {rows : List (List Int)} {r : List Int} : r ∈ eaO k rows ↔ (∃ f ∈ rows, V f k = 0 ∧ r = drE f k) ∨ ∃ f ∈ rows, ∃ s ∈ rows, 0 < V f k ∧ V s k < 0 ∧ r = drE (cmE (-(V s k)) f (V f k) s) k := by
  simp only [eaO, List.mem_flatMap, List.mem_append]
  constructor
  · rintro ⟨f, hf, h | ⟨s, hs, h⟩⟩
    · split at h
      · rename_i e
        exact .inl ⟨f, hf, e, List.mem_singleton.1 h⟩
      · cases h
    · split at h
      · rename_i e
        exact .inr ⟨f, hf, s, hs, e.1, e.2, List.mem_singleton.1 h⟩
      · cases h
  · rintro (⟨f, hf, e, rfl⟩ | ⟨f, hf, s, hs, e1, e2, rfl⟩)
    · refine ⟨f, hf, .inl ?_⟩
      rw [if_pos (show f.getD k 0 = 0 from e)]
      exact List.mem_singleton.2 rfl
    · refine ⟨f, hf, .inr ⟨s, hs, ?_⟩⟩
      rw [if_pos (show 0 < f.getD k 0 ∧ s.getD k 0 < 0 from ⟨e1, e2⟩)]
      exact List.mem_singleton.2 rfl

theorem drE_dot {r : List Int} {k : Nat} (hk : k < r.length) (v : Nat → Int) : dot k (V (drE r k)) v = dot k (V r) v := dot_congr (fun _ h => drE_lt h hk) fun _ _ => rfl

theorem cmE_dot {a b : Int} {f s : List Int} {k : Nat} (hk : k < f.length) (v : Nat → Int) : dot k (V (drE (cmE a f b s) k)) v = a * dot k (V f) v + b * dot k (V s) v := by
  rw [drE_dot (by simpa [cmE] using hk), ← dot_lc]
  exact dot_congr (fun i h => cmE_at (by omega)) fun _ _ => rfl

theorem ease_iff {k : Nat} {rows : List (List Int)} (hl : ∀ r ∈ rows, r.length = k + 3) (hm : ∀ r ∈ rows, 0 ≤ V r (k + 2)) : Ths (k + 1) rows ↔ Ths k (eaO k rows) := by
  have ds : ∀ (r : List Int) v, dot (k + 1) (V r) v = dot k (V r) v + V r k * v k := fun _ _ => rfl
  constructor
  · rintro ⟨v, w, hw, h⟩
    refine ⟨v, w, hw, fun r hr => ?_⟩
    rcases eaO_mem.1 hr with ⟨f, hf, e, rfl⟩ | ⟨f, hf, s, hs, e1, e2, rfl⟩
    · have h1 := h f hf
      unfold RwH at h1 ⊢
      rw [ds, e, Int.zero_mul, Int.add_zero] at h1
      have hlf := hl f hf
      rw [drE_dot (by omega), drE_ge (Nat.le_refl _) (by omega), drE_ge (by omega) (by omega)]
      exact h1
    · have h1 := h f hf
      have h2 := h s hs
      have hlf := hl f hf
      have m1 := hm f hf
      have m2 := hm s hs
      have hc : (cmE (-(V s k)) f (V f k) s).length = k + 3 := by simp [cmE, hlf]
      unfold RwH at h1 h2 ⊢
      rw [ds] at h1 h2
      rw [cmE_dot (by omega), drE_ge (Nat.le_refl _) (by omega), drE_ge (by omega) (by omega), cmE_at (by omega), cmE_at (by omega)]
      have e : -(V s k) * dot k (V f) v + V f k * dot k (V s) v - (-(V s k) * V f (k + 1) + V f k * V s (k + 1)) * w = -(V s k) * (dot k (V f) v + V f k * v k - V f (k + 1) * w) + V f k * (dot k (V s) v + V s k * v k - V s (k + 1) * w) := by grind
      have k1 := mul_neg_le (x := -(V s k)) (y := dot k (V f) v + V f k * v k - V f (k + 1) * w) (by omega) (by omega)
      have k2 := mul_neg_le (x := V f k) (y := dot k (V s) v + V s k * v k - V s (k + 1) * w) (by omega) (by omega)
      refine ⟨by omega, fun hmk => ?_⟩
      by_cases q : 0 < V f (k + 2)
      · have k3 := mul_neg_lt (x := -(V s k)) (y := dot k (V f) v + V f k * v k - V f (k + 1) * w) (by omega) (by have := h1.2 q; omega)
        omega
      · have q0 : V f (k + 2) = 0 := by omega
        have q2 : 0 < V s (k + 2) := by
          refine Int.not_le.1 fun hle => ?_
          have q3 : V s (k + 2) = 0 := by omega
          have : V f (k + 1 + 1) = 0 := q0
          have : V s (k + 1 + 1) = 0 := q3
          simp_all
        have k3 := mul_neg_lt (x := V f k) (y := dot k (V s) v + V s k * v k - V s (k + 1) * w) e1 (by have := h2.2 q2; omega)
        omega
  · rintro ⟨v, w, hw, h⟩
    obtain ⟨p, q, hq, hx⟩ := fm_line rows (fun r => dot k (V r) v - V r (k + 1) * w) (fun r => V r k) (fun r => 0 < V r (k + 2)) (fun r hr hc => by
      have h1 := h (drE r k) (eaO_mem.2 (.inl ⟨r, hr, hc, rfl⟩))
      have hlr := hl r hr
      unfold RwH at h1
      rw [drE_dot (by omega), drE_ge (Nat.le_refl _) (by omega), drE_ge (by omega) (by omega)] at h1
      exact ⟨by omega, fun hm => by have := h1.2 hm; omega⟩) (fun f hf s hs e1 e2 => by
      have h1 := h _ (eaO_mem.2 (.inr ⟨f, hf, s, hs, e1, e2, rfl⟩))
      have hlf := hl f hf
      have m1 := hm f hf
      have m2 := hm s hs
      have hc : (cmE (-(V s k)) f (V f k) s).length = k + 3 := by simp [cmE, hlf]
      unfold RwH at h1
      rw [cmE_dot (by omega), drE_ge (Nat.le_refl _) (by omega), drE_ge (by omega) (by omega), cmE_at (by omega), cmE_at (by omega)] at h1
      have e : -(V s k) * (dot k (V f) v - V f (k + 1) * w) + V f k * (dot k (V s) v - V s (k + 1) * w) = -(V s k) * dot k (V f) v + V f k * dot k (V s) v - (-(V s k) * V f (k + 1) + V f k * V s (k + 1)) * w := by grind
      refine ⟨by rw [e]; omega, fun hmm => ?_⟩
      have hpos : 0 < -(V s k) * V f (k + 1 + 1) + V f k * V s (k + 1 + 1) := by
        have a1 := Int.mul_nonneg (show (0 : Int) ≤ -(V s k) by omega) m1
        have a2 := Int.mul_nonneg (show (0 : Int) ≤ V f k by omega) m2
        show 0 < -(V s k) * V f (k + 2) + V f k * V s (k + 2)
        rcases hmm with hmm | hmm
        · have := Int.mul_pos (show (0 : Int) < -(V s k) by omega) hmm
          omega
        · have := Int.mul_pos e1 hmm
          omega
      have := h1.2 hpos
      rw [e]; omega)
    refine ⟨fun i => if i = k then p else q * v i, q * w, Int.mul_pos hq hw, fun r hr => ?_⟩
    have h1 := hx r hr
    have e1 : dot k (V r) (fun i => if i = k then p else q * v i) = q * dot k (V r) v := by
      have e2 : dot k (V r) (fun i => if i = k then p else q * v i) = dot k (fun i => q * V r i + 0 * V r i) v := sumN_congr fun i hi => by
        show V r i * (if i = k then p else q * v i) = (q * V r i + 0 * V r i) * v i
        rw [if_neg (by omega)]; grind
      rw [e2, dot_lc]; omega
    unfold RwH
    rw [ds, e1]
    simp only [if_true]
    have e3 : q * (dot k (V r) v - V r (k + 1) * w) + V r k * p = q * dot k (V r) v + V r k * p - V r (k + 1) * (q * w) := by grind
    rw [e3] at h1
    exact ⟨by omega, fun hm => by have := h1.2 hm; omega⟩

/-- Without numbers: what is left says it. -/
theorem ths_zero {rows : List (List Int)} : Ths 0 rows ↔ ∀ r ∈ rows, 0 ≤ V r 0 ∧ (0 < V r 1 → 0 < V r 0) := by
  have d0 : ∀ (r : List Int) v, dot 0 (V r) v = 0 := fun _ _ => rfl
  constructor
  · rintro ⟨v, w, hw, h⟩ r hr
    have h1 := h r hr
    unfold RwH at h1
    rw [d0] at h1
    refine ⟨Int.not_lt.1 fun hn => ?_, fun hm => Int.not_le.1 fun hn => ?_⟩
    · have := Int.mul_neg_of_neg_of_pos hn hw
      omega
    · have h2 := h1.2 hm
      have := Int.mul_le_mul_of_nonneg_right hn (show (0 : Int) ≤ w by omega)
      omega
  · intro h
    refine ⟨fun _ => 0, 1, by decide, fun r hr => ?_⟩
    have h1 := h r hr
    unfold RwH
    rw [d0, Int.mul_one]
    exact h1

end Go.Proofs.YtgfnmkenpgnllaaGreat
