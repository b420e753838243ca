/- Plain facts: greedy choice of free rows; the direction that minors tell. -/
import Derived.Test.YtfbgcfbafnmahaaLin5
namespace Go.Proofs.Ytfbgcfbafnmahaa.Lin

/-- Free rows: a square of theirs is not 0. -/
def FreeP (c : Nat) (H : List (Nat → Int)) : Prop := ∃ K, Rising H.length c K ∧ od H.length (cols H K) (fun _ => false) ≠ 0

theorem row_append_left {A B : List (Nat → Int)} {i : Nat} (h : i < A.length) : row (A ++ B) i = row A i := by
  simp only [row, List.getD_eq_getElem?_getD]; rw [List.getElem?_append_left h]

theorem row_append_end {A : List (Nat → Int)} {u : Nat → Int} : row (A ++ [u]) A.length = u := by
  simp [row]

/-- A row that makes it no more hangs on the others. -/
theorem dep_of_not_free {c : Nat} {H : List (Nat → Int)} {u : Nat → Int} (hf : FreeP c H) (hn : ¬ FreeP c (H ++ [u])) : Dep c H.length (row H) u := by
  rcases elim c (H ++ [u]) with ⟨C, hC, hod⟩ | ⟨d, p, hp, hd, hk⟩
  · exact absurd ⟨C, hC, hod⟩ hn
  · have hl : (H ++ [u]).length = H.length + 1 := by simp
    rw [hl] at hp hk
    have hk' : ∀ k, k < c → comb H.length d (row H) k + d H.length * u k = 0 := by
      intro k hkc
      have := hk k hkc
      unfold comb at this ⊢
      rw [sumN, row_append_end, sumN_congr (g := fun i => d i * row H i k) (fun i hi => by rw [row_append_left hi])] at this
      exact this
    have hne : d H.length ≠ 0 := by
      intro h0
      obtain ⟨K, hK, hod⟩ := hf
      apply hod
      have hpl : p < H.length := by
        by_cases e : p = H.length
        · subst e; exact absurd h0 hd
        · omega
      refine od_dep (p := p) (c := d) (by rw [cols_length]; exact hpl) hd (fun b hb => ?_) _
      have h1 := hk' (K b) (hK.2 b hb)
      rw [h0, Int.zero_mul, Int.add_zero] at h1
      rw [cols_length]
      unfold comb at h1 ⊢
      rw [← h1]
      exact sumN_congr fun i hi => by rw [cols_row hi]
    refine ⟨d H.length, fun i => - d i, hne, fun j hj => ?_⟩
    have h1 := hk' j hj
    have h2 : comb H.length (fun i => - d i) (row H) j = - comb H.length d (row H) j := by
      unfold comb; rw [← sumN_neg]; exact sumN_congr fun i _ => by rw [Int.neg_mul]
    omega

theorem Dep.grow {c : Nat} {H : List (Nat → Int)} {u v : Nat → Int} (h : Dep c H.length (row H) v) : Dep c (H ++ [u]).length (row (H ++ [u])) v := by
  obtain ⟨e, l, he, h1⟩ := h
  refine ⟨e, fun i => if i < H.length then l i else 0, he, fun j hj => ?_⟩
  rw [h1 j hj]
  have hl : (H ++ [u]).length = H.length + 1 := by simp
  rw [hl]
  unfold Lin.comb
  rw [sumN]
  simp only [Nat.lt_irrefl, if_false, Int.zero_mul, Int.add_zero]
  exact sumN_congr fun i hi => by rw [row_append_left hi]; simp [hi]

theorem Dep.self {c : Nat} {H : List (Nat → Int)} {i : Nat} (hi : i < H.length) : Dep c H.length (row H) (row H i) := by
  refine ⟨1, unit i, by decide, fun j _ => ?_⟩
  unfold Lin.comb
  rw [sumN_one (k := i) hi (fun a _ hne => by simp [unit, hne])]
  simp [unit]

/-- What the greedy choice keeps. -/
structure Greedy (c : Nat) (L H : List (Nat → Int)) : Prop where
  free : FreeP c H
  mem : ∀ r ∈ H, r ∈ L
  dep : ∀ r ∈ L, Dep c H.length (row H) r

theorem Greedy.nil (c : Nat) : Greedy c [] [] :=
  ⟨⟨id, ⟨fun _ _ _ h => absurd h (by simp), fun _ h => absurd h (by simp)⟩, by simp [cols, od]⟩, fun _ h => h, fun _ h => absurd h (by simp)⟩

theorem Greedy.more {c : Nat} {L H : List (Nat → Int)} {u : Nat → Int} (h : Greedy c L H) (hf : FreeP c (H ++ [u])) : Greedy c (L ++ [u]) (H ++ [u]) := by
  refine ⟨hf, fun r hr => ?_, fun r hr => ?_⟩
  · rcases List.mem_append.1 hr with hr | hr
    · exact List.mem_append_left _ (h.mem r hr)
    · exact List.mem_append_right _ hr
  · rcases List.mem_append.1 hr with hr | hr
    · exact (h.dep r hr).grow
    · simp at hr; subst hr
      have := Dep.self (c := c) (H := H ++ [r]) (i := H.length) (by simp)
      rwa [row_append_end] at this

theorem Greedy.less {c : Nat} {L H : List (Nat → Int)} {u : Nat → Int} (h : Greedy c L H) (hf : ¬ FreeP c (H ++ [u])) : Greedy c (L ++ [u]) H := by
  refine ⟨h.free, fun r hr => List.mem_append_left _ (h.mem r hr), fun r hr => ?_⟩
  rcases List.mem_append.1 hr with hr | hr
  · exact h.dep r hr
  · simp at hr; subst hr
    exact dep_of_not_free h.free hf

/-! Columns but one. -/

def up (k : Nat) (U : Nat → Bool) : Nat → Bool := fun j => if j = k then true else U (unsk k j)

theorem up_skp (k : Nat) (U : Nat → Bool) (j : Nat) : up k U (skp k j) = U j := by
  unfold up; rw [if_neg (skp_ne k j), unsk_skp]

theorem up_ins (k : Nat) (U : Nat → Bool) (j : Nat) : ins (up k U) (skp k j) = up k (ins U j) := by
  funext x
  unfold ins up
  by_cases h1 : x = k
  · subst h1; simp
  · rw [if_neg h1, if_neg h1]
    by_cases h2 : x = skp k j
    · subst h2; rw [if_pos rfl, unsk_skp]; exact (if_pos rfl).symm
    · rw [if_neg h2]
      refine (if_neg ?_).symm
      intro h3
      apply h2
      subst h3
      unfold skp unsk
      by_cases h4 : x < k
      · simp [h4]
      · simp [h4, show ¬ x - 1 < k by omega]; omega

theorem sg_up {m k : Nat} (hk : k ≤ m) (U : Nat → Bool) (j : Nat) : sg (m + 1) (up k U) (skp k j) = sg m U j * (if j < k then -1 else 1) := by
  induction m with
  | zero =>
    have : k = 0 := by omega
    subst this
    simp [sg, skp]
  | succ m ih =>
    by_cases e : k = m + 1
    · subst e
      have hs : ∀ x, x ≤ m + 1 → ∀ i, sg x (up (m + 1) U) i = sg x U i := by
        intro x hx i
        induction x with
        | zero => rfl
        | succ x ix =>
          have hu : up (m + 1) U x = U x := by unfold up unsk; rw [if_neg (by omega), if_pos (by omega)]
          simp only [sg]; rw [ix (by omega), hu]
      rw [sg, hs (m + 1) (Nat.le_refl _)]
      have hu : up (m + 1) U (m + 1) = true := by simp [up]
      rw [hu]
      by_cases h : j < m + 1
      · have e1 : skp (m + 1) j = j := by simp [skp, h]
        rw [e1]; simp [h]
      · have e1 : skp (m + 1) j = j + 1 := by simp [skp, h]
        rw [e1, sg_last U (by omega), sg_last U (by omega)]
        simp [h, show ¬ j + 1 < m + 1 by omega]
    · have hu : up k U (m + 1) = U m := by unfold up unsk; rw [if_neg (by omega), if_neg (by omega)]; rfl
      rw [sg, ih (by omega), hu, sg]
      have hiff : (skp k j < m + 1) ↔ (j < m) := by
        unfold skp; by_cases h : j < k <;> simp [h] <;> omega
      by_cases h : j < m ∧ U m = true
      · rw [if_pos ⟨hiff.2 h.1, h.2⟩, if_pos h, Int.neg_mul]
      · rw [if_neg (fun h' => h ⟨hiff.1 h'.1, h'.2⟩), if_neg h]

/-- -1, so often. -/
def ngo : Nat → Int
  | 0 => 1
  | n + 1 => - ngo n

theorem od_up {m k : Nat} (hk : k ≤ m) (H : List (Nat → Int)) (U : Nat → Bool) (hc : cu m U = H.length) : od (m + 1) H (up k U) = ngo (cu k U) * od m (cols H (skp k)) U := by
  induction H generalizing U with
  | nil =>
    have : ∀ x, x ≤ m → cu x U = 0 := by
      intro x hx
      have mono : ∀ t, cu x U ≤ cu (x + t) U := by
        intro t
        induction t with
        | zero => exact Nat.le_refl _
        | succ t it => rw [← Nat.add_assoc, cu]; omega
      have := mono (m - x)
      rw [show x + (m - x) = m by omega] at this
      simp at hc; omega
    rw [this k hk]; simp [od, cols, ngo]
  | cons r H ih =>
    simp only [od, cols, List.map_cons]
    rw [sumN_skp (p := k) hk]
    have hkk : up k U k = true := by simp [up]
    rw [hkk]
    simp only [if_true, Int.add_zero]
    rw [← sumN_mul]
    refine sumN_congr fun j hj => ?_
    rw [up_skp]
    cases hU : U j
    · simp only [Bool.false_eq_true, if_false]
      rw [up_ins, sg_up hk, ih (ins U j) (by have := cu_ins hj hU; simp at hc; omega)]
      by_cases hjk : j < k
      · have := cu_ins hjk hU
        rw [if_pos hjk, ← this]
        simp only [ngo, cols]; grind
      · have : cu k (ins U j) = cu k U := by
          have hs : ∀ x, x ≤ k → cu x (ins U j) = cu x U := by
            intro x hx
            induction x with
            | zero => rfl
            | succ x ix =>
              have hi : ins U j x = U x := by unfold ins; rw [if_neg (by omega)]
              simp only [cu]; rw [ix (by omega), hi]
          exact hs k (Nat.le_refl _)
        rw [if_neg hjk, this]
        simp only [cols]; grind
    · simp

/-- The direction that minors tell. -/
def mu (H : List (Nat → Int)) (k : Nat) : Int := ngo k * od H.length (cols H (skp k)) fun _ => false

theorem mu_orth {H : List (Nat → Int)} {a : Nat} (ha : a < H.length) : sumN (H.length + 1) (fun k => row H a k * mu H k) = 0 := by
  have e1 : od (H.length + 1) (row H a :: H) (fun _ => false) = 0 := by
    have hs : H = H.take a ++ row H a :: H.drop (a + 1) := by rw [← set_split ha, set_row ha]
    have := od_two (H.length + 1) [] (H.take a) (H.drop (a + 1)) (row H a) (fun _ => false)
    rw [List.nil_append] at this
    rw [← hs] at this
    exact this
  rw [od] at e1
  rw [← e1]
  refine sumN_congr fun k hk => ?_
  have hu : ins (fun _ => false) k = up k (fun _ => false) := by funext x; unfold ins up; rfl
  have hsg : sg (H.length + 1) (fun _ => false) k = 1 := by
    have : ∀ n, sg n (fun _ => false) k = 1 := by
      intro n; induction n with
      | zero => rfl
      | succ n ih => simp [sg, ih]
    exact this _
  simp only [Bool.false_eq_true, if_false]
  rw [hsg, hu, od_up (by omega) H _ (cu_none _), cu_none]
  unfold mu; grind

/-- m rising places below m + 1 are all but one. -/
theorem rising_skp {m : Nat} {K : Nat → Nat} (h : Rising m (m + 1) K) : ∃ k, k ≤ m ∧ ∀ i, i < m → K i = skp k i := by
  induction m with
  | zero => exact ⟨0, by omega, fun i hi => by omega⟩
  | succ m ih =>
    by_cases e : K m = m
    · have hm : ∀ i, i < m + 1 → K i = i := by
        have h2 : Rising (m + 1) (m + 1) K := ⟨h.1, fun i hi => by
          by_cases hi' : i = m
          · subst hi'; omega
          · have := h.1 i m (by omega) (by omega); omega⟩
        exact fun i hi => rising_id h2 hi
      exact ⟨m + 1, Nat.le_refl _, fun i hi => by rw [hm i hi]; simp [skp, hi]⟩
    · have hlast : K m = m + 1 := by
        have h1 := h.2 m (by omega)
        have h2 : ∀ i, i < m + 1 → i ≤ K i := by
          intro i
          induction i with
          | zero => intro _; omega
          | succ i ii => intro hi; have := ii (by omega); have := h.1 i (i + 1) (by omega) hi; omega
        have := h2 m (by omega); omega
      obtain ⟨k, hk, hh⟩ := ih ⟨fun i j hij hj => h.1 i j hij (by omega), fun i hi => by have := h.1 i m hi (by omega); omega⟩
      refine ⟨k, by omega, fun i hi => ?_⟩
      by_cases hi' : i < m
      · exact hh i hi'
      · have : i = m := by omega
        subst this
        rw [hlast]; simp [skp, show ¬ i < k by omega]

theorem mu_free {H : List (Nat → Int)} (hf : FreeP (H.length + 1) H) : ∃ k, k < H.length + 1 ∧ mu H k ≠ 0 := by
  obtain ⟨K, hK, hod⟩ := hf
  obtain ⟨k, hk, hh⟩ := rising_skp hK
  refine ⟨k, by omega, ?_⟩
  have e : od H.length (cols H K) (fun _ => false) = od H.length (cols H (skp k)) (fun _ => false) := by
    refine od_congr (by simp [cols]) (fun i hi b hb => ?_) _
    have hi' : i < H.length := by simpa [cols] using hi
    have e1 := cols_row (C := K) hi'
    have e2 := cols_row (C := skp k) hi'
    unfold row at e1 e2
    rw [e1, e2]
    exact congrArg _ (hh b hb)
  have hn : ∀ n, ngo n ≠ 0 := by
    intro n; induction n with
    | zero => decide
    | succ n ih => simp only [ngo]; omega
  unfold mu
  rw [← e]
  exact Int.mul_ne_zero (hn k) hod

/-- The direction that elimination tells, at the column f that was not chosen. -/
structure Nu (M : Nat → Nat → Int) (c k : Nat) (C : Nat → Nat) (f : Nat) (v : Nat → Int) : Prop where
  fc : f < c
  off : ∀ a, a < k → C a ≠ f
  all : ∀ j, j < c → j = f ∨ ∃ a, a < k ∧ C a = j
  atf : v f = dk M C k
  atC : ∀ a, a < k → v (C a) = - rr M C k a f

/-- Whatever is 0 with all rows is so many times that direction. -/
theorem nu_only {M : Nat → Nat → Int} {n c k f : Nat} {C : Nat → Nat} {v y : Nat → Int} (h : Done M n c k C) (hv : Nu M c k C f v) (hy : ∀ i, i < n → sumN c (fun j => M i j * y j) = 0) {j : Nat} (hj : j < c) :
    dk M C k * y j = y f * v j := by
  have hr : ∀ a, a < k → sumN c (fun j => rr M C k a j * y j) = 0 := by
    intro a ha
    obtain ⟨e, l, he, h1⟩ := rr_made h.nz ha
    have h2 : e * sumN c (fun j => rr M C k a j * y j) = 0 := by
      rw [← sumN_mul, sumN_congr (g := fun j => sumN k (fun i => l i * (M i j * y j))) (fun j hj => by
        rw [← Int.mul_assoc, h1 j]; unfold comb; rw [← sumN_mul_right]; exact sumN_congr fun i _ => by rw [Int.mul_assoc])]
      rw [sumN_swap]
      exact sumN_zero fun i hi => by rw [sumN_mul, hy i (by have := h.kn; omega), Int.mul_zero]
    rcases Int.mul_eq_zero.1 h2 with h3 | h3
    · exact absurd h3 he
    · exact h3
  rcases hv.all j hj with rfl | ⟨a, ha, rfl⟩
  · rw [hv.atf, Int.mul_comm]
  · -- only two places of that row count
    have h1 := hr a ha
    have h2 : sumN c (fun j => rr M C k a j * y j) = dk M C k * y (C a) + rr M C k a f * y f := by
      have e : ∀ j, j < c → rr M C k a j * y j = (if j = C a then dk M C k * y (C a) else 0) + (if j = f then rr M C k a f * y f else 0) := by
        intro j hj
        rcases hv.all j hj with rfl | ⟨b, hb, rfl⟩
        · have hne : j ≠ C a := fun e => hv.off a ha e.symm
          simp [hne]
        · rw [rr_pivot h.nz h.rise.1 ha hb]
          have hnf := hv.off b hb
          by_cases hab : a = b
          · subst hab; simp [hnf]
          · have : C b ≠ C a := by
              rcases Nat.lt_or_gt_of_ne hab with h' | h'
              · have := h.rise.1 a b h' hb; omega
              · have := h.rise.1 b a h' ha; omega
            simp [hab, hnf, this]
      rw [sumN_congr e, sumN_add, sumN_one (k := C a) (h.rise.2 a ha) (fun i _ hne => by simp [hne]), sumN_one (k := f) hv.fc (fun i _ hne => by simp [hne])]
      simp
    rw [hv.atC a ha]
    rw [h1] at h2
    grind

end Go.Proofs.Ytfbgcfbafnmahaa.Lin
