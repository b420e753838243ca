/- Plain facts: bounds of determinants; what elimination tells: the rank, the one direction. -/
import Derived.Test.YtfbgcfbafnmahaaLin4
namespace Go.Proofs.Ytfbgcfbafnmahaa.Lin

/-- m! times B^m. -/
def fb (B : Nat) : Nat → Nat
  | 0 => 1
  | m + 1 => (m + 1) * B * fb B m

theorem sum_bd {n b : Nat} {U : Nat → Bool} {g : Nat → Int} (h : ∀ k, k < n → U k = false → (g k).natAbs ≤ b) : (sumN n fun k => if U k then 0 else g k).natAbs ≤ cu n U * b := by
  induction n with
  | zero => simp [sumN, cu]
  | succ n ih =>
    simp only [sumN, cu]
    have h1 := ih fun k hk => h k (by omega)
    cases hU : U n
    · have h2 := h n (by omega) hU
      have h3 := Int.natAbs_add_le (sumN n fun k => if U k then 0 else g k) (g n)
      simp only [Bool.false_eq_true, if_false]
      rw [Nat.add_mul]; omega
    · simpa using h1

theorem sg_abs (n : Nat) (U : Nat → Bool) (k : Nat) : (sg n U k).natAbs = 1 := by
  induction n with
  | zero => rfl
  | succ n ih => simp only [sg]; by_cases h : k < n ∧ U n = true <;> simp [h, ih]

theorem od_bd {n B : Nat} (L : List (Nat → Int)) (U : Nat → Bool) (hB : ∀ r ∈ L, ∀ k, k < n → (r k).natAbs ≤ B) (hc : cu n U ≤ L.length) : (od n L U).natAbs ≤ fb B L.length := by
  induction L generalizing U with
  | nil => simp [od, fb]
  | cons r L ih =>
    simp only [od, List.length_cons, fb]
    refine Nat.le_trans (sum_bd (b := B * fb B L.length) fun k hk hU => ?_) ?_
    · rw [Int.natAbs_mul, Int.natAbs_mul, sg_abs, Nat.one_mul]
      exact Nat.mul_le_mul (hB r (by simp) k hk) (ih _ (fun r hr => hB r (by simp [hr])) (by have := cu_ins hk hU; simp at hc; omega))
    · rw [Nat.mul_assoc]; exact Nat.mul_le_mul_right _ (by simpa using hc)

theorem dk_bd {B k : Nat} {M : Nat → Nat → Int} {C : Nat → Nat} (hB : ∀ i, i < k → ∀ b, b < k → (M i (C b)).natAbs ≤ B) : (dk M C k).natAbs ≤ fb B k := by
  unfold dk
  have h := od_bd (n := k) (B := B) (cols (srows M k) C) (fun _ => false) (fun r hr b hb => by
    simp only [cols, srows, List.mem_map, List.mem_range] at hr
    obtain ⟨_, ⟨i, hi, rfl⟩, rfl⟩ := hr
    exact hB i hi b hb) (by rw [cu_none, cols_length, srows_length]; exact Nat.le_refl _)
  rwa [cols_length, srows_length] at h

theorem rho_bd {B k j : Nat} {M : Nat → Nat → Int} {C : Nat → Nat} {u : Nat → Int} (hB : ∀ i, i < k → ∀ b, b < k → (M i (C b)).natAbs ≤ B) (hj : ∀ i, i < k → (M i j).natAbs ≤ B)
    (hu : ∀ b, b < k → (u (C b)).natAbs ≤ B) (huj : (u j).natAbs ≤ B) : (rho M C k u j).natAbs ≤ fb B (k + 1) := by
  unfold rho
  have h := od_bd (n := k + 1) (B := B) (cols (srows M k ++ [u]) (posn C k j)) (fun _ => false) (fun r hr b hb => by
    simp only [cols, srows, List.mem_map, List.mem_append, List.mem_range, List.mem_singleton] at hr
    obtain ⟨r', hr', rfl⟩ := hr
    show (r' (posn C k j b)).natAbs ≤ B
    unfold posn
    by_cases hbk : b < k
    · rw [if_pos hbk]
      rcases hr' with ⟨i, hi, rfl⟩ | rfl
      · exact hB i hi b hbk
      · exact hu b hbk
    · rw [if_neg hbk]
      rcases hr' with ⟨i, hi, rfl⟩ | rfl
      · exact hj i hi
      · exact huj) (by rw [cu_none, cols_length, List.length_append, srows_length]; exact Nat.le_refl _)
  rwa [cols_length, List.length_append, srows_length] at h

/-- Each number of elimination is small. -/
theorem rr_bd {B n c k i j : Nat} {M : Nat → Nat → Int} {C : Nat → Nat} (hB1 : 1 ≤ B) (hB : ∀ i, i < n → ∀ j, j < c → (M i j).natAbs ≤ B) (hk : k ≤ n) (hC : ∀ b, b < k → C b < c) (hi : i < n) (hj : j < c) :
    (rr M C k i j).natAbs ≤ fb B k + fb B (k + 1) := by
  have hu : ∀ q x, (unit q x).natAbs ≤ 1 := by intro q x; unfold unit; by_cases h : x = q <;> simp [h]
  unfold rr
  by_cases h : i < k
  · rw [if_pos h]
    have h1 := dk_bd (B := B) (k := k) (M := M) (C := C) fun i hi b hb => hB i (by omega) _ (hC b hb)
    have h2 := rho_bd (B := B) (k := k) (j := j) (M := M) (C := C) (u := unit (C i)) (fun i hi b hb => hB i (by omega) _ (hC b hb)) (fun i hi => hB i (by omega) j hj)
      (fun b _ => Nat.le_trans (hu _ _) hB1) (Nat.le_trans (hu _ _) hB1)
    have h3 : (dk M C k * unit (C i) j).natAbs ≤ fb B k := by
      rw [Int.natAbs_mul]
      exact Nat.le_trans (Nat.mul_le_mul h1 (hu _ _)) (by simp)
    omega
  · rw [if_neg h]
    have h2 := rho_bd (B := B) (k := k) (j := j) (M := M) (C := C) (u := M i) (fun i hi b hb => hB i (by omega) _ (hC b hb)) (fun i hi => hB i (by omega) j hj)
      (fun b hb => hB i hi _ (hC b hb)) (hB i hi j hj)
    omega

/-- What elimination has come to. -/
structure Done (M : Nat → Nat → Int) (n c k : Nat) (C : Nat → Nat) : Prop where
  kn : k ≤ n
  rise : Rising k c C
  nz : dk M C k ≠ 0
  zero : ∀ i, k ≤ i → i < n → ∀ j, j < c → rr M C k i j = 0

theorem rr_pivot {M : Nat → Nat → Int} {k : Nat} {C : Nat → Nat} (hD : dk M C k ≠ 0) (hC : ∀ a b, a < b → b < k → C a < C b) {a b : Nat} (ha : a < k) (hb : b < k) : rr M C k a (C b) = if a = b then dk M C k else 0 := by
  unfold rr
  rw [if_pos ha, rho_at hD _ hb]
  by_cases e : a = b
  · subst e; simp [unit]
  · have : C b ≠ C a := by
      rcases Nat.lt_or_gt_of_ne e with h | h
      · have := hC a b h hb; omega
      · have := hC b a h ha; omega
    simp [unit, e, this]

/-- Each row, by those that were chosen. -/
theorem rr_span {M : Nat → Nat → Int} {k : Nat} {C : Nat → Nat} (hC : ∀ a b, a < b → b < k → C a < C b) (u : Nat → Int) (j : Nat) :
    dk M C k * u j - rho M C k u j = comb k (fun a => u (C a)) (rr M C k) j := by
  have hw : ∀ b, b < k → (lc 1 u (-1) (comb k (fun a => u (C a)) (fun a => unit (C a)))) (C b) = 0 := by
    intro b hb
    have e : comb k (fun a => u (C a)) (fun a => unit (C a)) (C b) = u (C b) := by
      unfold comb
      rw [sumN_one (k := b) hb (fun a ha hne => by
        have : C b ≠ C a := by
          rcases Nat.lt_or_gt_of_ne hne with h | h
          · have := hC a b h hb; omega
          · have := hC b a h ha; omega
        simp [unit, this])]
      simp [unit]
    simp only [lc]; rw [e]; omega
  have h1 := rho_zero (M := M) hw j
  rw [rho_lin, rho_comb] at h1
  have e2 : comb k (fun a => u (C a)) (rr M C k) j = dk M C k * comb k (fun a => u (C a)) (fun a => unit (C a)) j - sumN k (fun a => u (C a) * rho M C k (unit (C a)) j) := by
    unfold comb
    rw [← sumN_mul, Int.sub_eq_add_neg, ← sumN_neg, ← sumN_add]
    refine sumN_congr fun a ha => ?_
    show u (C a) * rr M C k a j = _
    unfold rr; rw [if_pos ha]; grind
  rw [e2]
  simp only [lc] at h1
  grind

theorem done_rows {M : Nat → Nat → Int} {n c k : Nat} {C : Nat → Nat} (h : Done M n c k C) {i : Nat} (hi : i < n) {j : Nat} (hj : j < c) : dk M C k * M i j = comb k (fun a => M i (C a)) (rr M C k) j := by
  have h1 := rr_span (M := M) h.rise.1 (M i) j
  have h2 : rho M C k (M i) j = 0 := by
    by_cases hik : i < k
    · exact rho_own hik j
    · have := h.zero i (by omega) hi j hj
      unfold rr at this; rwa [if_neg hik] at this
  rw [h2] at h1; omega

theorem rr_made {M : Nat → Nat → Int} {k : Nat} {C : Nat → Nat} (hD : dk M C k ≠ 0) {a : Nat} (ha : a < k) : ∃ e l, e ≠ 0 ∧ ∀ j, e * rr M C k a j = comb k l M j := by
  obtain ⟨e, l, he, _, h2⟩ := rho_solve hD (unit (C a))
  refine ⟨e, fun i => dk M C k * l i, he, fun j => ?_⟩
  have h3 : comb k (fun i => dk M C k * l i) M j = dk M C k * comb k l M j := by
    unfold comb; rw [← sumN_mul]; exact sumN_congr fun i _ => by rw [Int.mul_assoc]
  have h4 := h2 j
  rw [h3]
  unfold rr; rw [if_pos ha, Int.mul_sub, h4]; grind

/-- v hangs on the first t of B, at the columns below c. -/
def Dep (c t : Nat) (B : Nat → Nat → Int) (v : Nat → Int) : Prop := ∃ e l, e ≠ 0 ∧ ∀ j, j < c → e * v j = comb t l B j

theorem comb_add (t : Nat) (l l' : Nat → Int) (x y : Int) (B : Nat → Nat → Int) (j : Nat) : comb t (fun i => x * l i + y * l' i) B j = x * comb t l B j + y * comb t l' B j := by
  unfold comb; rw [← sumN_mul, ← sumN_mul, ← sumN_add]; exact sumN_congr fun i _ => by grind

theorem Dep.comb {c t m : Nat} {B A : Nat → Nat → Int} (h : ∀ i, i < m → Dep c t B (A i)) (l : Nat → Int) : Dep c t B (comb m l A) := by
  induction m with
  | zero => exact ⟨1, fun _ => 0, by decide, fun j _ => by simp [Lin.comb, sumN, sumN_zero]⟩
  | succ m ih =>
    obtain ⟨e, f, he, h1⟩ := ih fun i hi => h i (by omega)
    obtain ⟨e', f', he', h2⟩ := h m (by omega)
    refine ⟨e * e', fun i => e' * f i + (e * l m) * f' i, Int.mul_ne_zero he he', fun j hj => ?_⟩
    rw [comb_add, ← h1 j hj, ← h2 j hj]
    have : Lin.comb (m + 1) l A j = Lin.comb m l A j + l m * A m j := by simp [Lin.comb, sumN]
    rw [this]; grind

/-- As many rows are chosen as any list of free rows has on which all rows hang. -/
theorem rank_eq {M : Nat → Nat → Int} {n c k : Nat} {C : Nat → Nat} (h : Done M n c k C) {H : List (Nat → Int)} {K : Nat → Nat} (hK : ∀ b, b < H.length → K b < c) (hf : od H.length (cols H K) (fun _ => false) ≠ 0)
    (hin : ∀ a, a < H.length → ∃ i, i < n ∧ ∀ j, j < c → row H a j = M i j) (hdep : ∀ i, i < n → Dep c H.length (row H) (M i)) : k = H.length := by
  apply Nat.le_antisymm
  · -- the chosen rows' numbers are free, and made of H
    apply Classical.byContradiction
    intro hlt
    have hr : ∀ a, a < k → Dep c H.length (row H) (fun j => rr M C k a j) := by
      intro a ha
      obtain ⟨e, l, he, h1⟩ := rr_made h.nz ha
      obtain ⟨e', l', he', h2⟩ := Dep.comb (c := c) (m := k) (fun i hi => hdep i (by have := h.kn; omega)) l
      refine ⟨e' * e, l', Int.mul_ne_zero he' he, fun j hj => ?_⟩
      rw [Int.mul_assoc, h1 j, h2 j hj]
    have hr' : ∃ (e : Nat → Int) (f : Nat → Nat → Int), (∀ a, a < k → e a ≠ 0) ∧ ∀ a, a < k → ∀ j, j < c → e a * rr M C k a j = comb H.length (f a) (row H) j := by
      refine ⟨fun a => if ha : a < k then Classical.choose (hr a ha) else 1, fun a => if ha : a < k then Classical.choose (Classical.choose_spec (hr a ha)) else fun _ => 0, fun a ha => ?_, fun a ha j hj => ?_⟩
      · simp only [ha, dif_pos]; exact (Classical.choose_spec (Classical.choose_spec (hr a ha))).1
      · simp only [ha, dif_pos]; exact (Classical.choose_spec (Classical.choose_spec (hr a ha))).2 j hj
    obtain ⟨e, f, he, hef⟩ := hr'
    obtain ⟨d, p, hp, hd, hz⟩ := steinitz (c := c) (m := k) (t := H.length) (A := rr M C k) (B := row H) (e := e) (f := f) (by omega) he hef
    have h0 := hz (C p) (h.rise.2 p hp)
    unfold comb at h0
    rw [sumN_one (k := p) hp (fun a ha hne => by rw [rr_pivot h.nz h.rise.1 ha hp, if_neg hne, Int.mul_zero]), rr_pivot h.nz h.rise.1 hp hp, if_pos rfl] at h0
    rcases Int.mul_eq_zero.1 h0 with h1 | h1
    · exact hd h1
    · exact h.nz h1
  · apply Classical.byContradiction
    intro hlt
    obtain ⟨d, p, hp, hd, hz⟩ := steinitz (c := c) (m := H.length) (t := k) (A := row H) (B := rr M C k) (e := fun _ => dk M C k) (f := fun a b => row H a (C b)) (by omega) (fun _ _ => h.nz)
      (fun a ha j hj => by
        obtain ⟨i, hi, hij⟩ := hin a ha
        rw [hij j hj, done_rows h hi hj]
        unfold comb
        exact sumN_congr fun b hb => by show M i (C b) * _ = row H a (C b) * _; rw [hij _ (h.rise.2 b hb)])
    apply hf
    refine od_dep (p := p) (c := d) (by rw [cols_length]; exact hp) hd (fun b hb => ?_) _
    rw [cols_length]
    have := hz (K b) (hK b hb)
    unfold comb at this ⊢
    rw [← this]
    refine sumN_congr fun i hi => ?_
    rw [cols_row hi]

theorem rising_id {k : Nat} {C : Nat → Nat} (h : Rising k k C) {i : Nat} (hi : i < k) : C i = i := by
  have h1 : ∀ i, i < k → i ≤ C i := by
    intro i
    induction i with
    | zero => intro _; omega
    | succ i ih => intro hi; have := ih (by omega); have := h.1 i (i + 1) (by omega) hi; omega
  have h2 : ∀ d, d < k → C (k - 1 - d) ≤ k - 1 - d := by
    intro d
    induction d with
    | zero => intro hd; have := h.2 (k - 1) (by omega); simp; omega
    | succ d ih => intro hd; have := ih (by omega); have := h.1 (k - 1 - (d + 1)) (k - 1 - d) (by omega) (by omega); omega
  have a1 := h1 i hi
  have a2 := h2 (k - 1 - i) (by omega)
  rw [show k - 1 - (k - 1 - i) = i by omega] at a2
  omega

theorem dk_full {M : Nat → Nat → Int} {k : Nat} {C : Nat → Nat} (h : Rising k k C) : dk M C k = od k (srows M k) fun _ => false := by
  unfold dk
  refine od_congr (by simp [cols]) (fun i hi b hb => ?_) _
  have hi' : i < (srows M k).length := by simpa [cols] using hi
  have e := cols_row (C := C) hi'
  unfold row at e
  rw [e]
  exact congrArg _ (rising_id h hb)

end Go.Proofs.Ytfbgcfbafnmahaa.Lin
