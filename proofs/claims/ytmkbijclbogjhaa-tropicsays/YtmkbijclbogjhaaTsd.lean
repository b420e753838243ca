/- Roots, pure: of which choices. -/
import Derived.Test.YtmkbijclbogjhaaTs3
import Derived.Test.YtmkbijclbogjhaaChz
namespace Go.Proofs.Ytmkbijclbogjhaa

/-- The roots of the choices so far. -/
def rsL (l : List Int) (pre : List (List Int)) : List (Int × Int × Int) := pre.flatMap fun c => if rtB l (c.getD 0 0).toNat (c.getD 1 0).toNat then [rtV l (c.getD 0 0).toNat (c.getD 1 0).toNat] else []

theorem rsL_snoc (l : List Int) (pre : List (List Int)) (c : List Int) : rsL l (pre ++ [c]) = rsL l pre ++ if rtB l (c.getD 0 0).toNat (c.getD 1 0).toNat then [rtV l (c.getD 0 0).toNat (c.getD 1 0).toNat] else [] := by simp [rsL]

theorem rsL_len (l : List Int) : ∀ pre, (rsL l pre).length ≤ pre.length
  | [] => by simp [rsL]
  | c :: pre => by
    have h := rsL_len l pre
    have e : rsL l (c :: pre) = (if rtB l (c.getD 0 0).toNat (c.getD 1 0).toNat then [rtV l (c.getD 0 0).toNat (c.getD 1 0).toNat] else []) ++ rsL l pre := by simp [rsL]
    rw [e, List.length_append, List.length_cons]
    split
    · rw [List.length_singleton]; omega
    · rw [List.length_nil]; omega

/-- What Roots answers, unsorted. -/
def rootsU (l : List Int) : List (Int × Int × Int) := rsL l (ext l.length 2 0)

/-- Sorted. -/
def AscT (m : List (Int × Int × Int)) : Prop := ∀ i j, i < j → j < m.length → ¬ (m.getD j (0, 1, 0)).1 * (m.getD i (0, 1, 0)).2.1 < (m.getD i (0, 1, 0)).1 * (m.getD j (0, 1, 0)).2.1

theorem ext2_len {n : Nat} (h : n ≤ 20) : (ext n 2 0).length ≤ 1000 := by
  have e1 : ∀ fr, (ext n 1 fr).length ≤ n := fun fr => by
    have : (ext n 1 fr).length = n - fr := by
      simp [ext, List.length_flatMap, List.map_const', List.sum_replicate_nat]
    omega
  have e2 : ∀ m fr, n ≤ fr + m → (ext n 2 fr).length ≤ m * n := by
    intro m
    induction m with
    | zero => intro fr h; rw [ext_end (by omega)]; simp
    | succ m ih =>
      intro fr h
      by_cases hlt : fr < n
      · rw [ext_step hlt, List.length_append, List.length_map, Nat.succ_mul]
        have h1 := e1 (fr + 1)
        have h2 : (ext n (1 + 1) (fr + 1)).length ≤ m * n := ih (fr + 1) (by omega)
        omega
      · rw [ext_end (by omega)]; simp
  have := e2 n 0 (by omega)
  have h3 : n * n ≤ 20 * 20 := Nat.mul_le_mul h h
  omega

theorem rootsU_sma {l : List Int} (hl : Lst l) : Sma (rootsU l) := by
  intro t ht
  simp only [rootsU, rsL, List.mem_flatMap] at ht
  obtain ⟨c, hc, ht⟩ := ht
  obtain ⟨h1, h2, h3⟩ := ext_rise hc
  split at ht
  · rename_i hr
    simp only [List.mem_singleton] at ht
    subst ht
    have a := h2 0 (by omega)
    have b := h2 1 (by omega)
    have d := h3 0 1 (by omega) (by omega)
    have hq := q_bd (i := (c.getD 0 0).toNat) (k := (c.getD 1 0).toNat) hl (by omega) (by omega)
    unfold rtV
    rw [if_pos hr]
    exact ⟨hq.2, hq.1⟩
  · simp at ht

end Go.Proofs.Ytmkbijclbogjhaa
