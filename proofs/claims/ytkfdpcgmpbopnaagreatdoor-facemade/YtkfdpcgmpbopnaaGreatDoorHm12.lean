/- What the law calls: lists that are the same. -/
import Derived.Test.YtkfdpcgmpbopnaaGreatDoorHm11
import Derived.Test.YtkfdpcgmpbopnaaGreatDoorHm9
namespace Go.Proofs.YtkfdpcgmpbopnaaGreatDoor
open Go.RowKit
attribute [local go_sem ↓] Go.wp_at_zero Go.wp_at_succ

set_option maxRecDepth 100000 in
theorem lists_same (B : Nat) (x : List (List Int)) (u v : Value) (w : World) (hu : Mat B 22 3 w u x) (hv : Mat B 22 3 w v x) :
    Calls Tryz.prog 20 #[u, .int .i64 0, v, .int .i64 0] w fun x w' => x = .returned (.bool true) ∧ Below w.heap.size w w' := by
  obtain ⟨uo, uc, rfl, _, _⟩ := mat_open hu
  obtain ⟨vo, vc, rfl, _, _⟩ := mat_open hv
  have HU : Hid (Mat B 22 3 w (.slice uo x.length uc) x) := hu
  have HV : Hid (Mat B 22 3 w (.slice vo x.length vc) x) := hv
  clear hu hv
  go_enter Tryz.func20, Tryz.ntmps20
  go_wp2_with fail
  refine (sameAll_any B x x _ _ w HU.out HV.out).mono ?_
  rintro e w' ⟨rfl, n, rfl⟩
  have hxx : (x == x) = true := by simp
  rw [hxx]
  go_wp2
  go_ret
  exact ⟨rfl, ⟨rfl, rfl, rfl, Nat.le_refl _, fun _ _ => rfl⟩⟩

/-- The program's rows are the document's, one for one. -/
theorem rows_equal {d : Nat} {P P' s rows : List (List Int)} (hg : Good d P) (hP : Inor P' P) (hr : Inor rows (rowsC P' [] d P')) (hs : SAsc s) (hm : ∀ r, r ∈ s ↔ r ∈ rowsD P d) : rows = s := by
  refine sasc_ext rows s hr.asc hs fun r => ?_
  rw [hr.mem r, hm r, mem_rowsD]
  exact rows_same hg hP.mem r

/-- A row's last number is small. -/
theorem rowsD_last {d : Nat} {P : List (List Int)} (hP : Box d 30 P) (h1 : 1 ≤ d) (h5 : d ≤ 5) {r : List Int} (hr : r ∈ rowsD P d) : (r.getD d 0).natAbs ≤ 1000000000000000000 := by
  have hr0 := hr
  unfold rowsD at hr
  obtain ⟨c, hc, hr⟩ := List.mem_flatMap.1 hr
  have hl := chosen_row d P.length c hc
  have htl : (pks P [] c).length = d := by rw [← hl]; simp [pks]
  have htm : ∀ x ∈ pks P [] c, x ∈ P := pks_in fun q hq => by
    obtain ⟨i, hi, rfl⟩ := List.mem_iff_getElem.1 hq
    have := (chosen_mem d P.length c hc).1 i (by omega)
    simpa [hi] using this
  obtain ⟨σ, hσ, hnb, hre⟩ := rowT_form htl (Option.mem_toList.1 hr)
  have hal := norm_len hnb
  have hbd := norm_bd (diff_mx (fun x hx => hP x (htm x hx)) h1 h5)
  have h0 : (pks P [] c).getD 0 [] ∈ P := htm _ (by simp [show 0 < (pks P [] c).length by omega])
  have hsm : Sm (normL d (diffL (pks P [] c))) ((pks P [] c).getD 0 []) := ⟨by rw [hal, (hP _ h0).1]; exact Nat.le_refl _, by rw [hal]; omega, hbd, fun z hz => by have := (hP _ h0).2 z hz; omega⟩
  have hd := dot_small0 hsm
  have e : r.getD d 0 = σ * dotL (normL d (diffL (pks P [] c))) ((pks P [] c).getD 0 []) := by
    rw [hre]
    have := V_map (normL d (diffL (pks P [] c)) ++ [dotL (normL d (diffL (pks P [] c))) ((pks P [] c).getD 0 [])]) σ d
    simp only [V] at this
    rw [this, (row_app hal).2.2.1]
  rw [e, Int.natAbs_mul]
  generalize dotL (normL d (diffL (pks P [] c))) ((pks P [] c).getD 0 []) = q at *
  rcases hσ with rfl | rfl <;> simp <;> omega

theorem agn_over (r x : List Int) : agn r x = if 0 < overL r x then 1 else if overL r x = 0 then 0 else -1 := by
  unfold agn cmpI overL
  generalize dotL (r.take x.length) x = a
  generalize r.getD x.length 0 = b
  repeat' split
  all_goals omega

theorem whL_cons (r : List Int) (s : List (List Int)) (x : List Int) : whL (r :: s) x = max (agn r x) (whL s x) := by
  rw [agn_over]
  unfold whL
  simp only [List.any_cons, Bool.or_eq_true, decide_eq_true_eq]
  generalize overL r x = a
  by_cases h1 : (s.any fun r => decide (0 < overL r x)) = true
  · simp only [h1, or_true, if_true]
    repeat' split
    all_goals omega
  · by_cases h2 : (s.any fun r => decide (overL r x = 0)) = true
    · simp only [h1, h2, or_false, or_true, if_true, if_false, Bool.false_eq_true]
      repeat' split
      all_goals omega
    · simp only [h1, h2, or_false, if_false, Bool.false_eq_true]
      repeat' split
      all_goals omega

theorem whr_whL (s : List (List Int)) (x : List Int) : whr s x = whL s x := by
  have key : ∀ (s : List (List Int)) (p : Int), -1 ≤ p → p ≤ 1 → s.foldl (fun p r => max p (agn r x)) p = max p (whL s x) := by
    intro s
    induction s with
    | nil => intro p h1 h2; simp [whL]; omega
    | cons r s ih =>
      intro p h1 h2
      have hb := agn_bd r x
      rw [List.foldl_cons, ih _ (by omega) (by omega), whL_cons]
      omega
  have h : -1 ≤ whL s x := by
    unfold whL
    repeat' split
    all_goals omega
  unfold whr
  rw [key s (-1) (by omega) (by omega)]
  omega

end Go.Proofs.YtkfdpcgmpbopnaaGreatDoor
