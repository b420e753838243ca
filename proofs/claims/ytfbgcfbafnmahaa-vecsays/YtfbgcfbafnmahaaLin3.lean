/- Plain facts: elimination; as many free vectors as there are at most. -/
import Derived.Test.YtfbgcfbafnmahaaLin2
namespace Go.Proofs.Ytfbgcfbafnmahaa.Lin

theorem od_scaled (n : Nat) (v : Nat → Int) (x : Int) (g : (Nat → Int) → Int) (Q : List (Nat → Int)) (P : List (Nat → Int)) (U : Nat → Bool) :
    od n (P ++ (Q.map fun r => lc x r (- g r) v) ++ [v]) U = x ^ Q.length * od n (P ++ Q ++ [v]) U := by
  induction Q generalizing P with
  | nil => simp
  | cons q Q ih =>
    simp only [List.map_cons, List.length_cons]
    have e := od_lin n P ((Q.map fun r => lc x r (- g r) v) ++ [v]) x (- g q) q v U
    have z := od_two n P (Q.map fun r => lc x r (- g r) v) [] v U
    rw [z, Int.mul_zero, Int.add_zero] at e
    have h := ih (P ++ [q])
    simp only [List.append_assoc, List.cons_append, List.nil_append] at e h ⊢
    rw [e, h, Int.pow_succ]; grind

theorem od_to_end (n : Nat) (A B : List (Nat → Int)) (v : Nat → Int) (U : Nat → Bool) : od n (A ++ v :: B) U = 0 ↔ od n (A ++ B ++ [v]) U = 0 := by
  induction B generalizing A with
  | nil => simp
  | cons b B ih =>
    rw [od_swap]
    have h := ih (A ++ [b])
    simp only [List.append_assoc, List.cons_append, List.nil_append] at h ⊢
    rw [← h]; omega

def unsk (p j : Nat) : Nat := if j < p then j else j - 1

theorem unsk_skp (p i : Nat) : unsk p (skp p i) = i := by
  unfold unsk skp
  by_cases h : i < p
  · simp [h]
  · simp [h, show ¬ i + 1 < p by omega]

theorem skp_ne (p i : Nat) : skp p i ≠ p := by
  unfold skp; by_cases h : i < p <;> simp [h] <;> omega

theorem skp_lt {p i n : Nat} (hi : i < n) : skp p i < n + 1 := by
  unfold skp; by_cases h : i < p <;> simp [h] <;> omega

theorem row_map {L : List (Nat → Int)} {f : (Nat → Int) → (Nat → Int)} {i : Nat} (hi : i < L.length) : row (L.map f) i = f (row L i) := by
  simp [row, hi]

theorem row_mem {L : List (Nat → Int)} {i : Nat} (hi : i < L.length) : row L i ∈ L := by
  have : row L i = L[i] := by simp [row, hi]
  rw [this]; exact List.getElem_mem hi

theorem mem_row {L : List (Nat → Int)} {r : Nat → Int} (h : r ∈ L) : ∃ i, i < L.length ∧ row L i = r := by
  obtain ⟨i, hi, e⟩ := List.mem_iff_getElem.1 h
  exact ⟨i, hi, by simp [row, hi, e]⟩

/-- Rows: a square of theirs is not 0, or they hang on each other. -/
theorem elim (c : Nat) : ∀ L : List (Nat → Int), (∃ C, Rising L.length c C ∧ od L.length (cols L C) (fun _ => false) ≠ 0) ∨
    (∃ d p, p < L.length ∧ d p ≠ 0 ∧ ∀ k, k < c → comb L.length d (row L) k = 0) := by
  induction c with
  | zero =>
    intro L
    by_cases hL : L.length = 0
    · left
      refine ⟨id, ⟨fun i j _ hj => by omega, fun i hi => by omega⟩, ?_⟩
      have : L = [] := List.eq_nil_of_length_eq_zero hL
      subst this
      simp [cols, od]
    · right; exact ⟨fun _ => 1, 0, by omega, by decide, fun k hk => by omega⟩
  | succ c ih =>
    intro L
    by_cases hz : ∀ r ∈ L, r c = 0
    · rcases ih L with ⟨C, hC, hod⟩ | ⟨d, p, hp, hd, hk⟩
      · exact Or.inl ⟨C, ⟨hC.1, fun i hi => by have := hC.2 i hi; omega⟩, hod⟩
      · refine Or.inr ⟨d, p, hp, hd, fun k hk' => ?_⟩
        by_cases e : k = c
        · subst e
          exact sumN_zero fun i hi => by rw [hz _ (row_mem hi), Int.mul_zero]
        · exact hk k (by omega)
    · have hz' : ∃ p, p < L.length ∧ row L p c ≠ 0 := by
        apply Classical.byContradiction
        intro hn
        apply hz
        intro r hr
        obtain ⟨i, hi, rfl⟩ := mem_row hr
        apply Classical.byContradiction
        intro h0
        exact hn ⟨i, hi, h0⟩
      obtain ⟨p, hp, hx⟩ := hz'
      obtain ⟨m, hm⟩ : ∃ m, L.length = m + 1 := ⟨L.length - 1, by omega⟩
      have hlen : ((L.eraseIdx p).map fun r => lc (row L p c) r (- r c) (row L p)).length = m := by
        rw [List.length_map, List.length_eraseIdx, if_pos hp]; omega
      have hle : (L.eraseIdx p).length = m := by rw [List.length_eraseIdx, if_pos hp]; omega
      have hrow : ∀ i, i < m → row ((L.eraseIdx p).map fun r => lc (row L p c) r (- r c) (row L p)) i = lc (row L p c) (row L (skp p i)) (- row L (skp p i) c) (row L p) := by
        intro i hi
        rw [row_map (by omega), erase_row]
      rcases ih ((L.eraseIdx p).map fun r => lc (row L p c) r (- r c) (row L p)) with ⟨C, hC, hod⟩ | ⟨d, q, hq, hd, hk⟩
      · left
        rw [hlen] at hC hod
        have hLL : L = L.take p ++ row L p :: L.drop (p + 1) := by
          rw [← set_split hp, set_row hp]
        have hER : L.eraseIdx p = L.take p ++ L.drop (p + 1) := List.eraseIdx_eq_take_drop_succ L p
        refine ⟨fun i => if i < m then C i else c, ⟨fun i j hij hj => ?_, fun i hi => ?_⟩, ?_⟩
        · rw [hm] at hj
          show (if i < m then C i else c) < (if j < m then C j else c)
          by_cases hjm : j < m
          · rw [if_pos (by omega), if_pos hjm]; exact hC.1 i j hij hjm
          · rw [if_pos (by omega), if_neg hjm]; exact hC.2 i (by omega)
        · show (if i < m then C i else c) < c + 1
          by_cases him : i < m
          · rw [if_pos him]; have := hC.2 i him; omega
          · rw [if_neg him]; omega
        · rw [hm]
          intro h0
          have e0 : cols L (fun i => if i < m then C i else c) = cols (L.take p) (fun i => if i < m then C i else c) ++ (fun k => row L p ((fun i => if i < m then C i else c) k)) :: cols (L.drop (p + 1)) (fun i => if i < m then C i else c) := by
            conv => lhs; rw [hLL]
            simp [cols]
          rw [e0, od_to_end] at h0
          have e1 : cols (L.take p) (fun i => if i < m then C i else c) ++ cols (L.drop (p + 1)) (fun i => if i < m then C i else c) = cols (L.eraseIdx p) (fun i => if i < m then C i else c) := by
            rw [hER]; simp [cols]
          rw [e1] at h0
          have e2 := od_scaled (m + 1) (fun k => row L p ((fun i => if i < m then C i else c) k)) (row L p c) (fun r => r m) (cols (L.eraseIdx p) (fun i => if i < m then C i else c)) [] (fun _ => false)
          rw [List.nil_append, List.nil_append, h0, Int.mul_zero] at e2
          have e3 : (cols (L.eraseIdx p) (fun i => if i < m then C i else c)).map (fun r => lc (row L p c) r (- r m) (fun k => row L p ((fun i => if i < m then C i else c) k))) =
              cols ((L.eraseIdx p).map fun r => lc (row L p c) r (- r c) (row L p)) (fun i => if i < m then C i else c) := by
            simp [cols, lc, Function.comp_def]
            intro a _
            funext k
            rfl
          rw [e3] at e2
          -- the last row in two parts
          have e4 : (fun k => row L p ((fun i => if i < m then C i else c) k)) = lc 1 (fun k => if k < m then row L p (C k) else 0) 1 (fun k => if k < m then 0 else row L p c) := by
            funext k; simp only [lc]; by_cases hk : k < m <;> simp [hk]
          have e5 := od_lin (m + 1) (cols ((L.eraseIdx p).map fun r => lc (row L p c) r (- r c) (row L p)) (fun i => if i < m then C i else c)) [] 1 1 (fun k => if k < m then row L p (C k) else 0) (fun k => if k < m then 0 else row L p c) (fun _ => false)
          rw [← e4, e2] at e5
          have hvan : ∀ r ∈ cols ((L.eraseIdx p).map fun r => lc (row L p c) r (- r c) (row L p)) (fun i => if i < m then C i else c), r m = 0 := by
            intro r hr
            simp only [cols, List.mem_map] at hr
            obtain ⟨a, ⟨b, hb, rfl⟩, rfl⟩ := hr
            simp [lc]; grind
          have e6 := od_col (n := m + 1) (q := m) (by omega) (cols ((L.eraseIdx p).map fun r => lc (row L p c) r (- r c) (row L p)) (fun i => if i < m then C i else c) ++ [fun k => if k < m then row L p (C k) else 0]) (fun _ => false) rfl
            (by intro r hr
                rcases List.mem_append.1 hr with hr | hr
                · exact hvan r hr
                · simp at hr; subst hr; simp)
            (by rw [cu_none]; simp [cols, hle])
          have e7 := od_end (n := m) (cols ((L.eraseIdx p).map fun r => lc (row L p c) r (- r c) (row L p)) (fun i => if i < m then C i else c)) (fun k => if k < m then 0 else row L p c) (fun k hk => by simp [hk]) (fun _ => false)
          rw [e6, e7] at e5
          have e8 : od m (cols ((L.eraseIdx p).map fun r => lc (row L p c) r (- r c) (row L p)) (fun i => if i < m then C i else c)) (fun _ => false) = od m (cols ((L.eraseIdx p).map fun r => lc (row L p c) r (- r c) (row L p)) C) (fun _ => false) := by
            refine od_congr (by simp [cols]) (fun i hi k hk => ?_) _
            have hi' : i < (L.eraseIdx p).length := by simpa [cols] using hi
            simp [cols, hi', hk]
          rw [e8] at e5
          simp only [Bool.false_eq_true, if_false, Int.mul_zero, Int.one_mul, Int.zero_add, Nat.lt_irrefl] at e5
          rcases Int.mul_eq_zero.1 e5.symm with h | h
          · exact hod h
          · exact hx h
      · right
        rw [hlen] at hq hk
        refine ⟨fun j => if j = p then - sumN m (fun i => d i * row L (skp p i) c) else row L p c * d (unsk p j), skp p q, ?_, ?_, fun k _ => ?_⟩
        · rw [hm]; exact skp_lt hq
        · simp only [skp_ne, if_false, unsk_skp]
          exact Int.mul_ne_zero hx hd
        · rw [hm]
          have e1 : comb (m + 1) (fun j => if j = p then - sumN m (fun i => d i * row L (skp p i) c) else row L p c * d (unsk p j)) (row L) k =
              comb m d (row ((L.eraseIdx p).map fun r => lc (row L p c) r (- r c) (row L p))) k := by
            unfold comb
            rw [sumN_skp (p := p) (by omega)]
            simp only [if_true, skp_ne, if_false, unsk_skp]
            rw [Int.neg_mul, ← sumN_mul_right, ← sumN_neg, ← sumN_add]
            refine sumN_congr fun i hi => ?_
            rw [hrow i hi]; simp only [lc]; grind
          rw [e1]
          by_cases e : k = c
          · subst e
            refine sumN_zero fun i hi => ?_
            rw [hrow i hi]; simp only [lc]; grind
          · exact hk k (by omega)

/-- More than t vectors that are made of t hang on each other. -/
theorem steinitz {c m t : Nat} {A B : Nat → Nat → Int} {e : Nat → Int} {f : Nat → Nat → Int} (hmt : t < m) (he : ∀ i, i < m → e i ≠ 0) (h : ∀ i, i < m → ∀ k, k < c → e i * A i k = comb t (f i) B k) :
    ∃ d p, p < m ∧ d p ≠ 0 ∧ ∀ k, k < c → comb m d A k = 0 := by
  have hl : ((List.range m).map f).length = m := by simp
  have hr : ∀ i, i < m → row ((List.range m).map f) i = f i := by
    intro i hi; simp [row, hi]
  rcases elim t ((List.range m).map f) with ⟨C, hC, _⟩ | ⟨d, p, hp, hd, hk⟩
  · exfalso
    rw [hl] at hC
    have : ∀ i, i < m → i ≤ C i := by
      intro i
      induction i with
      | zero => intro _; omega
      | succ i ih => intro hi; have := ih (by omega); have := hC.1 i (i + 1) (by omega) hi; omega
    have h1 := this (m - 1) (by omega)
    have h2 := hC.2 (m - 1) (by omega)
    omega
  · rw [hl] at hp hk
    refine ⟨fun i => d i * e i, p, hp, Int.mul_ne_zero hd (he p hp), fun k hkc => ?_⟩
    have e1 : comb m (fun i => d i * e i) A k = sumN m (fun i => sumN t (fun a => d i * (f i a * B a k))) := by
      refine sumN_congr fun i hi => ?_
      rw [Int.mul_assoc, h i hi k hkc]
      unfold comb; rw [← sumN_mul]
    rw [e1, sumN_swap]
    refine sumN_zero fun a ha => ?_
    have e2 := hk a ha
    unfold comb at e2
    have e3 : sumN m (fun i => d i * (f i a * B a k)) = sumN m (fun i => d i * row ((List.range m).map f) i a) * B a k := by
      rw [← sumN_mul_right]
      exact sumN_congr fun i hi => by rw [hr i hi, Int.mul_assoc]
    rw [e3, e2, Int.zero_mul]

end Go.Proofs.Ytfbgcfbafnmahaa.Lin
