/- Roots of the least of sums, pure: in order, each once, as many as the degree. -/
import Derived.Test.YtmkbijclbogjhaaTq2
namespace Go.Proofs.Ytmkbijclbogjhaa

theorem ext_nodup (n : Nat) : ∀ k fr, (ext n k fr).Nodup := by
  intro k
  induction k with
  | zero => intro fr; simp [ext]
  | succ k ih =>
    suffices h : ∀ m fr, n ≤ fr + m → (ext n (k + 1) fr).Nodup from fun fr => h n fr (by omega)
    intro m
    induction m with
    | zero => intro fr h; rw [ext_end (by omega)]; exact List.nodup_nil
    | succ m ihm =>
      intro fr h
      by_cases hlt : fr < n
      · rw [ext_step hlt, List.nodup_append]
        refine ⟨?_, ihm (fr + 1) (by omega), ?_⟩
        · rw [List.Nodup, List.pairwise_map]
          exact (ih (fr + 1)).imp (fun hne e => hne (List.cons.inj e).2)
        · intro x hx y hy e
          subst e
          simp only [List.mem_map] at hx
          obtain ⟨z, _, rfl⟩ := hx
          have := (ext_rise hy).2.1 0 (by omega)
          simp only [List.getD_cons_zero] at this
          omega
      · rw [ext_end (by omega)]; exact List.nodup_nil

theorem ext_pair {n i k : Nat} (h : i < k) (hk : k < n) : [(i : Int), (k : Int)] ∈ ext n 2 0 := by
  simp only [ext, List.mem_flatMap, List.mem_map, List.mem_range'_1]
  exact ⟨i, by omega, [(k : Int)], ⟨k, by omega, [], by simp, rfl⟩, rfl⟩

theorem ext_form {n : Nat} {c : List Int} (h : c ∈ ext n 2 0) : ∃ i k : Nat, c = [(i : Int), (k : Int)] ∧ i < k ∧ k < n := by
  obtain ⟨h1, h2, h3⟩ := ext_rise h
  have a := h2 0 (by omega)
  have b := h2 1 (by omega)
  have d := h3 0 1 (by omega) (by omega)
  refine ⟨(c.getD 0 0).toNat, (c.getD 1 0).toNat, ?_, by omega, by omega⟩
  refine List.ext_getElem (by simp [h1]) fun j hj1 hj2 => ?_
  have hj : j = 0 ∨ j = 1 := by simp at hj2; omega
  rcases hj with rfl | rfl
  · have e : c.getD 0 0 = c[0] := by simp [hj1]
    simp only [List.getElem_cons_zero]
    omega
  · have e : c.getD 1 0 = c[1] := by simp [hj1]
    simp only [List.getElem_cons_succ, List.getElem_cons_zero]
    omega

/-- Counted: one. -/
theorem count_one {α : Type} {P : α → Bool} {c0 : α} : ∀ (L : List α), L.Nodup → c0 ∈ L → P c0 = true → (∀ c ∈ L, P c = true → c = c0) → (L.map (fun c => if P c then (1 : Int) else 0)).sum = 1
  | [], _, h, _, _ => by simp at h
  | c :: L, hn, hm, hp, hu => by
    have hn' := List.nodup_cons.1 hn
    rcases List.mem_cons.1 hm with rfl | hm
    · have hz : ∀ M : List α, (∀ c ∈ M, P c = false) → (M.map (fun c => if P c then (1 : Int) else 0)).sum = 0 := by
        intro M
        induction M with
        | nil => intro _; rfl
        | cons d M ih =>
          intro h
          rw [List.map_cons, List.sum_cons, ih (fun x hx => h x (by simp [hx])), h d (by simp)]
          rfl
      rw [List.map_cons, List.sum_cons, hz L (fun d hd => by
        cases hpd : P d
        · rfl
        · have := hu d (by simp [hd]) hpd
          subst this
          exact absurd hd hn'.1), hp]
      rfl
    · have hc : P c = false := by
        cases hpc : P c
        · rfl
        · have := hu c (by simp) hpc
          subst this
          exact absurd hm hn'.1
      rw [List.map_cons, List.sum_cons, count_one L hn'.2 hm hp (fun d hd => hu d (by simp [hd])), hc]
      rfl

theorem sum_swap {α : Type} (f : α → Nat → Int) (m : Nat) : ∀ L : List α, (L.map (fun c => sumF (f c) m)).sum = sumF (fun t => (L.map (fun c => f c t)).sum) m
  | [] => by
    have : ∀ m, sumF (fun _ => (0 : Int)) m = 0 := by
      intro m
      induction m with
      | zero => rfl
      | succ m ih => rw [sumF, ih]; rfl
    simp [this]
  | c :: L => by
    have hadd : ∀ (g h : Nat → Int) m, sumF (fun t => g t + h t) m = sumF g m + sumF h m := by
      intro g h m
      induction m with
      | zero => rfl
      | succ m ih => simp only [sumF, ih]; omega
    simp only [List.map_cons, List.sum_cons]
    rw [hadd, sum_swap f m L]

theorem span {i k : Nat} (h : i < k) : ∀ m, k ≤ m → sumF (fun t => if i ≤ t ∧ t < k then (1 : Int) else 0) m = (k : Int) - i := by
  have low : ∀ m, m ≤ i → sumF (fun t => if i ≤ t ∧ t < k then (1 : Int) else 0) m = 0 := by
    intro m
    induction m with
    | zero => intro _; rfl
    | succ m ih => intro hm; rw [sumF, ih (by omega), if_neg (by omega)]; rfl
  have mid : ∀ d, i + d ≤ k → sumF (fun t => if i ≤ t ∧ t < k then (1 : Int) else 0) (i + d) = d := by
    intro d
    induction d with
    | zero => intro _; exact low i (Nat.le_refl _)
    | succ d ih =>
      intro hd
      rw [← Nat.add_assoc, sumF, ih (by omega), if_pos (by omega)]
      omega
  intro m hm
  obtain ⟨e, rfl⟩ : ∃ e, m = k + e := ⟨m - k, by omega⟩
  induction e with
  | zero =>
    have := mid (k - i) (by omega)
    rw [show i + (k - i) = k by omega] at this
    rw [Nat.add_zero, this]
    omega
  | succ e ih =>
    rw [← Nat.add_assoc, sumF, ih (by omega), if_neg (by omega)]
    omega

def pI (c : List Int) : Nat := (c.getD 0 0).toNat
def pK (c : List Int) : Nat := (c.getD 1 0).toNat

theorem rootsU_sum {l : List Int} (hn : 1 ≤ l.length) : ((rootsU l).map (fun t => t.2.2)).sum = (l.length : Int) - 1 := by
  have e1 : ∀ L : List (List Int), ((rsL l L).map (fun t => t.2.2)).sum = (L.map (fun c => if rtB l (pI c) (pK c) then ((pK c : Int)) - pI c else 0)).sum := by
    intro L
    induction L with
    | nil => rfl
    | cons c L ih =>
      have e : rsL l (c :: L) = (if rtB l (pI c) (pK c) then [rtV l (pI c) (pK c)] else []) ++ rsL l L := by simp [rsL, pI, pK]
      rw [e, List.map_append, List.sum_append, ih, List.map_cons, List.sum_cons]
      congr 1
      split
      · rename_i h
        simp [rtV, h]
      · rfl
  unfold rootsU
  rw [e1]
  have e2 : (ext l.length 2 0).map (fun c => if rtB l (pI c) (pK c) then ((pK c : Int)) - pI c else 0) = (ext l.length 2 0).map (fun c => sumF (fun t => if (rtB l (pI c) (pK c) && (decide (pI c ≤ t) && decide (t < pK c))) then (1 : Int) else 0) (l.length - 1)) := by
    refine List.map_congr_left fun c hc => ?_
    obtain ⟨i, k, rfl, hik, hk⟩ := ext_form hc
    have ei : pI [(i : Int), (k : Int)] = i := by simp [pI]
    have ek : pK [(i : Int), (k : Int)] = k := by simp [pK]
    rw [ei, ek]
    cases hr : rtB l i k
    · have hz : ∀ m, sumF (fun _ => (0 : Int)) m = 0 := by
        intro m
        induction m with
        | zero => rfl
        | succ m ih => rw [sumF, ih]; rfl
      simp [hz]
    · have := span hik (l.length - 1) (by omega)
      simp only [Bool.true_and, Bool.and_eq_true, decide_eq_true_eq, if_true]
      exact this.symm
  rw [e2, sum_swap]
  have e3 : ∀ m, m ≤ l.length - 1 → sumF (fun t => ((ext l.length 2 0).map (fun c => if (rtB l (pI c) (pK c) && (decide (pI c ≤ t) && decide (t < pK c))) then (1 : Int) else 0)).sum) m = m := by
    intro m
    induction m with
    | zero => intro _; rfl
    | succ m ih =>
      intro hm
      rw [sumF, ih (by omega)]
      obtain ⟨i, k, h1, h2, h3, h4⟩ := acc_some (l := l) (t := m) (by omega)
      have hik : i < k := by omega
      have ei : pI [(i : Int), (k : Int)] = i := by simp [pI]
      have ek : pK [(i : Int), (k : Int)] = k := by simp [pK]
      rw [count_one (c0 := [(i : Int), (k : Int)]) (P := fun c => rtB l (pI c) (pK c) && (decide (pI c ≤ m) && decide (m < pK c))) _ (ext_nodup _ _ _) (ext_pair hik h3) (by simp [ei, ek, h4, h1, h2]) (fun c hc hp => ?_)]
      · omega
      · obtain ⟨i', k', rfl, hik', hk'⟩ := ext_form hc
        have ei' : pI [(i' : Int), (k' : Int)] = i' := by simp [pI]
        have ek' : pK [(i' : Int), (k' : Int)] = k' := by simp [pK]
        simp only [ei', ek', Bool.and_eq_true, decide_eq_true_eq] at hp
        obtain ⟨hr, hp1, hp2⟩ := hp
        have A := (rtB_acc hik h3).1 h4
        have A' := (rtB_acc hik' hk').1 hr
        rcases Int.lt_trichotomy (q0T l i' k' * q1T l i k) (q0T l i k * q1T l i' k') with hd | hd | hd
        · have := acc_apart A A' hd; omega
        · obtain ⟨rfl, rfl⟩ := acc_same A A' hd
          rfl
        · have := acc_apart A' A hd; omega
  rw [e3 _ (Nat.le_refl _)]
  omega

/-- No two of one slope. -/
theorem rootsU_apart (l : List Int) : (rootsU l).Pairwise (fun s t => s.1 * t.2.1 ≠ t.1 * s.2.1) := by
  have hL : ∀ L : List (List Int), L.Nodup → (∀ c ∈ L, c ∈ ext l.length 2 0) → (rsL l L).Pairwise (fun s t => s.1 * t.2.1 ≠ t.1 * s.2.1) := by
    intro L
    induction L with
    | nil => intro _ _; exact List.Pairwise.nil
    | cons c L ih =>
      intro hn hs
      have hn' := List.nodup_cons.1 hn
      have e : rsL l (c :: L) = (if rtB l (pI c) (pK c) then [rtV l (pI c) (pK c)] else []) ++ rsL l L := by simp [rsL, pI, pK]
      rw [e]
      cases hr : rtB l (pI c) (pK c)
      · exact ih hn'.2 (fun d hd => hs d (by simp [hd]))
      · simp only [if_true, List.singleton_append]
        refine List.Pairwise.cons (fun t ht => ?_) (ih hn'.2 (fun d hd => hs d (by simp [hd])))
        simp only [rsL, List.mem_flatMap] at ht
        obtain ⟨d, hd, ht⟩ := ht
        have hd' : rtB l (pI d) (pK d) = true ∧ t = rtV l (pI d) (pK d) := by
          change t ∈ (if rtB l (pI d) (pK d) then [rtV l (pI d) (pK d)] else []) at ht
          split at ht
          · rename_i h; exact ⟨h, by simpa using ht⟩
          · simp at ht
        obtain ⟨hrd, rfl⟩ := hd'
        obtain ⟨i, k, rfl, hik, hk⟩ := ext_form (hs c (by simp))
        obtain ⟨i', k', rfl, hik', hk'⟩ := ext_form (hs d (by simp [hd]))
        have ei : pI [(i : Int), (k : Int)] = i := by simp [pI]
        have ek : pK [(i : Int), (k : Int)] = k := by simp [pK]
        have ei' : pI [(i' : Int), (k' : Int)] = i' := by simp [pI]
        have ek' : pK [(i' : Int), (k' : Int)] = k' := by simp [pK]
        rw [ei, ek] at hr ⊢
        rw [ei', ek'] at hrd ⊢
        intro he
        simp only [rtV, hr, hrd, if_true] at he
        have A := (rtB_acc hik hk).1 hr
        have A' := (rtB_acc hik' hk').1 hrd
        obtain ⟨rfl, rfl⟩ := acc_same A A' he.symm
        exact hn'.1 hd
  exact hL _ (ext_nodup _ _ _) (fun c h => h)

/-- Sorted, they rise. -/
theorem roots_rise {l : List Int} {m : List (Int × Int × Int)} (hp : m.Perm (rootsU l)) (ha : AscT m) {i j : Nat} (hij : i < j) (hj : j < m.length) :
    (m.getD i (0, 1, 0)).1 * (m.getD j (0, 1, 0)).2.1 < (m.getD j (0, 1, 0)).1 * (m.getD i (0, 1, 0)).2.1 := by
  have h1 := ha i j hij hj
  have h2 := (hp.pairwise_iff (R := fun s t : Int × Int × Int => s.1 * t.2.1 ≠ t.1 * s.2.1) (fun {x y} h e => h e.symm)).2 (rootsU_apart l)
  have h3 := List.pairwise_iff_getElem.1 h2 i j (by omega) hj hij
  have e1 : m.getD i (0, 1, 0) = m[i]'(by omega) := by simp [show i < m.length by omega]
  have e2 : m.getD j (0, 1, 0) = m[j] := by simp [hj]
  rw [e1, e2] at h1 ⊢
  omega

theorem roots_sum {l : List Int} {m : List (Int × Int × Int)} (hn : 1 ≤ l.length) (hp : m.Perm (rootsU l)) : (m.map (fun t => t.2.2)).sum = (l.length : Int) - 1 := by
  rw [← rootsU_sum hn]
  have h := hp.map (fun t => t.2.2)
  have key : ∀ {x y : List Int}, x.Perm y → x.sum = y.sum := by
    intro x y h
    induction h with
    | nil => rfl
    | cons a _ ih => simp [ih]
    | swap a b l => simp; omega
    | trans _ _ ih1 ih2 => rw [ih1, ih2]
  exact key h

theorem roots_each {l : List Int} {m : List (Int × Int × Int)} (hl : Lst l) (hp : m.Perm (rootsU l)) {t : Int × Int × Int} (ht : t ∈ m) : (1 ≤ t.2.1 ∧ t.2.1 ≤ 19) ∧ (-20000 ≤ t.1 ∧ t.1 ≤ 20000) ∧ 1 ≤ t.2.2 ∧ t.2.2 ≤ 19 := by
  have hm := hp.mem_iff.1 ht
  have hs := rootsU_sma hl t hm
  refine ⟨hs.1, hs.2, ?_⟩
  simp only [rootsU, rsL, List.mem_flatMap] at hm
  obtain ⟨c, hc, hm⟩ := hm
  obtain ⟨i, k, rfl, hik, hk⟩ := ext_form hc
  have h20 := hl.n20
  split at hm
  · rename_i hr
    simp only [List.mem_singleton] at hm
    subst hm
    simp only [rtV, hr, if_true]
    simp
    omega
  · simp at hm

end Go.Proofs.Ytmkbijclbogjhaa
