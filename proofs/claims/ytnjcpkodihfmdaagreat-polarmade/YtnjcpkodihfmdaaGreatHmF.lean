import Derived.Test.YtnjcpkodihfmdaaGreatHm8
import Derived.Test.YtnjcpkodihfmdaaGreatHm10
import Derived.Test.YtnjcpkodihfmdaaGreatHmB
/- The document's answer: where a point is: the walk. -/
namespace Go.Proofs.YtnjcpkodihfmdaaGreat
open Go.RowKit
attribute [local go_sem ↓] Go.wp_at_zero Go.wp_at_succ

/-- What a row says of a point of the same dimension, for small numbers. -/
theorem over_of {d : Nat} {P : List (List Int)} {r x : List Int} (hr : RowOf d P r) (hx : x.length = d) (hb : (r.getD d 0).natAbs ≤ 1000000000000000000) (h4 : d ≤ 4) (hxb : ∀ z ∈ x, z.natAbs ≤ 1000) (B : Nat) (u v : Value) (w : World) (hu : Sl B 3 w u (ints r)) (hv : Sl B 3 w v (ints x)) :
    Calls Tryz.prog 32 #[u, v] w fun e w' => e = .returned (.int .i64 (overL r x)) ∧ ∃ n, w' = w.drewN n := by
  refine over_any B r x u v w hu hv (by rw [hx]; exact hr.len) ⟨?_, ?_, ?_, hxb⟩ (by rw [hx]; exact hb)
  · rw [List.length_take]; omega
  · rw [List.length_take]; omega
  · rw [hx]; exact hr.bd

/-- Where a point is, by rows. -/
def whL (s : List (List Int)) (x : List Int) : Int := if (s.any fun r => decide (0 < overL r x)) = true then 1 else if (s.any fun r => decide (overL r x = 0)) = true then 0 else -1

theorem whL_same {s t : List (List Int)} (h : ∀ r, r ∈ s ↔ r ∈ t) (x : List Int) : whL s x = whL t x := by
  have e : ∀ f : List Int → Bool, s.any f = t.any f := fun f => by
    rw [Bool.eq_iff_iff]
    simp only [List.any_eq_true]
    exact ⟨fun ⟨r, h1, h2⟩ => ⟨r, (h r).1 h1, h2⟩, fun ⟨r, h1, h2⟩ => ⟨r, (h r).2 h1, h2⟩⟩
  unfold whL
  rw [e, e]

set_option maxRecDepth 100000 in
set_option maxHeartbeats 400000 in
theorem whereIs_any (B d : Nat) (P : List (List Int)) (x : List Int) (v u : Value) (w : World) (hv : Mat B 22 3 w v P) (hu : Sl B 3 w u (ints x)) (hd1 : 1 ≤ d) (hd : d ≤ 4) (hP1 : 1 ≤ P.length) (hP : P.length ≤ 16) (hx : Box d 30 P) (hxl : x.length = d) (hxb : ∀ z ∈ x, z.natAbs ≤ 1000)
    (hrb : ∀ r ∈ rowsD P d, (r.getD d 0).natAbs ≤ 1000000000000000000) :
    Calls Tryz.prog 20 #[v, u] w fun e w' => e = .returned (.int .i64 (whL (rowsD P d) x)) ∧ Below w.heap.size w w' := by
  have HV : Hid (Mat B 22 3 w v P) := hv
  have HU : Hid (Sl B 3 w u (ints x)) := hu
  have HX : Hid (Box d 30 P) := hx
  have HRB : Hid (∀ r ∈ rowsD P d, (r.getD d 0).natAbs ≤ 1000000000000000000) := hrb
  have HXL : Hid (x.length = d ∧ ∀ z ∈ x, z.natAbs ≤ 1000) := ⟨hxl, hxb⟩
  clear hv hu hx hrb hxl hxb
  go_enter Tryz.func20, Tryz.ntmps20
  go_wp2_with fail
  refine (rowsOf_any B d P v w HV.out hd1 hd hP1 hP HX.out).mono ?_
  rintro e w1 ⟨sv, s, rfl, hf, _, hm, hb⟩
  have HF : Hid (Fr w.heap.size 22 3 w1 sv s) := hf
  have HM : Hid (∀ r, r ∈ s ↔ r ∈ rowsD P d) := hm
  have HB : Hid (Below w.heap.size w w1) := hb
  obtain ⟨so, sc, hsv, _, _⟩ := fr_open hf
  subst hsv
  clear hf hm hb
  have HOV : Hid (∀ r ∈ s, ∀ (wq : World) (rv : Value), Qw w1 wq → Sl w.heap.size 3 wq rv (ints r) → Calls Tryz.prog 32 #[rv, u] wq fun e w' => e = .returned (.int .i64 (overL r x)) ∧ ∃ n, w' = wq.drewN n) := fun r hr wq rv hq hs => by
    have hu1 : Sl B 3 wq u (ints x) := by
      obtain ⟨nn, rfl⟩ := hq
      exact (HU.out.below HB.out (Nat.le_refl _)).drewN nn
    exact over_of (rowsD_facts HX.out hd1 (by omega) r ((HM.out r).1 hr)) HXL.out.1 (HRB.out r ((HM.out r).1 hr)) hd HXL.out.2 (max B w.heap.size) rv u wq (hs.more (by omega)) (hu1.more (by omega))
  have HW : Hid (whL (rowsD P d) x = whL s x) := whL_same (fun r => (HM.out r).symm) x
  go_wp2
  go_loopw [4, 6, 7, 8] (fun _ a i _ wq => ∃ (j : Nat) (av : Int), j ≤ s.length ∧ i = .int .i64 j ∧ a = .int .i64 av ∧ av = (if ((s.take j).any fun r => decide (overL r x = 0)) = true then 0 else -1) ∧ (∀ r ∈ s.take j, overL r x ≤ 0) ∧ Qw w1 wq) (fun _ _ i _ _ => s.length - (intOf i).toNat)
  case atStart => exact ⟨0, -1, Nat.zero_le _, rfl, rfl, rfl, fun r hr => by simp at hr, Qw.refl _⟩
  case round =>
    obtain ⟨j, av, hj, rfl, rfl, hav, hno, hqw⟩ := hrel
    have HAV : Hid (av = (if ((s.take j).any fun r => decide (overL r x = 0)) = true then 0 else -1)) := hav
    clear hav
    have HNO : Hid (∀ r ∈ s.take j, overL r x ≤ 0) := hno
    have HQW : Hid (Qw w1 wr) := hqw
    have HFr : Hid (Fr w.heap.size 22 3 wr (.slice so s.length sc) s) := hqw.fr HF.out
    have HBr : Hid (Below w.heap.size w wr) := HB.out.trans hqw.below
    clear hno hqw
    by_cases hjl : j < s.length
    · obtain ⟨b2, o2, cp2, rv, hs2, _, hcc2, hr2⟩ := mat_cell (HFr.out.rws.mat (Nat.le_refl _)) hjl
      simp only [Value.slice.injEq, true_and] at hs2
      obtain ⟨rfl, rfl⟩ := hs2
      have hmem : s.getD j [] ∈ s := by simp [hjl]
      have HCA := HOV.out _ hmem wr rv HQW.out hr2
      have HTJ : Hid (s.take (j + 1) = s.take j ++ [s.getD j []]) := by
        show _ = _
        rw [List.take_succ_eq_append_getElem hjl]; simp [hjl]
      have HMM : Hid (s.getD j [] ∈ s) := hmem
      clear hr2 hmem
      generalize s.getD j [] = r at *
      have HVV : Hid (0 < overL r x → whL (rowsD P d) x = 1) := fun h => by
        rw [HW.out]; unfold whL; rw [if_pos (List.any_eq_true.2 ⟨r, HMM.out, by simpa using h⟩)]
      have HN2 : Hid (overL r x ≤ 0 → ∀ y ∈ s.take (j + 1), overL y x ≤ 0) := fun h y hy => by
        rw [HTJ.out] at hy
        rcases List.mem_append.1 hy with g | g
        · exact HNO.out y g
        · simp at g; rw [g]; exact h
      have HJ1 : Hid (((s.take (j + 1)).any fun r => decide (overL r x = 0)) = (((s.take j).any fun r => decide (overL r x = 0)) || decide (overL r x = 0))) := by
        show _ = _
        rw [HTJ.out, List.any_append]
        simp
      generalize ((s.take j).any fun r => decide (overL r x = 0)) = pb at *
      have HC : Hid (Calls Tryz.prog 32 #[rv, u] wr fun e w' => e = .returned (.int .i64 (overL r x)) ∧ ∃ n, w' = wr.drewN n) := HCA
      clear HCA
      generalize overL r x = z at *
      have hjI : (j : Int) < (s.length : Int) := by omega
      have hjI0 : (0 : Int) ≤ (j : Int) := by omega
      go_wp2_with fail
      refine HC.out.mono ?_
      rintro e w9 ⟨rfl, nn, rfl⟩
      have HQ9 : Hid (Qw w1 (wr.drewN nn)) := HQW.out.drewN nn
      have HB9 : Hid (Below w.heap.size w (wr.drewN nn)) := HBr.out.trans ⟨rfl, rfl, rfl, Nat.le_refl _, fun _ _ => rfl⟩
      generalize wr.drewN nn = w9 at *
      clear HC
      by_cases hz : 0 < z
      · have HV1 : Hid (whL (rowsD P d) x = 1) := HVV.out hz
        go_wp2
        go_ret
        exact ⟨by rw [HV1.out]; rfl, HB9.out⟩
      · have HN3 := HN2.out (by omega)
        have HN4 : Hid (∀ y ∈ s.take (j + 1), overL y x ≤ 0) := HN3
        clear HN3
        by_cases hz0 : z = 0
        · subst hz0
          have HJ3 : Hid (((s.take (j + 1)).any fun r => decide (overL r x = 0)) = true) := by
            show _ = _
            rw [HJ1.out]; simp
          go_wp2
          exact ⟨⟨j + 1, 0, hjl, by go_num, rfl, by rw [HJ3.out]; rfl, HN4.out, HQ9.out⟩, by simp [intOf]; omega⟩
        · have HJ3 : Hid (((s.take (j + 1)).any fun r => decide (overL r x = 0)) = pb) := by
            show _ = _
            rw [HJ1.out]; simp [hz0]
          go_wp2
          exact ⟨⟨j + 1, av, hjl, by go_num, rfl, by rw [HJ3.out]; exact HAV.out, HN4.out, HQ9.out⟩, by simp [intOf]; omega⟩
    · have HE : Hid (whL (rowsD P d) x = av) := by
        show _ = _
        rw [HW.out, HAV.out]
        unfold whL
        have h := HNO.out
        rw [List.take_of_length_le (by omega)] at h ⊢
        rw [if_neg]
        intro hc
        obtain ⟨r, h1, h2⟩ := List.any_eq_true.1 hc
        have h3 := h r h1
        simp at h2
        omega
      go_wp2
      go_ret
      exact ⟨by rw [HE.out]; rfl, HBr.out⟩

end Go.Proofs.YtnjcpkodihfmdaaGreat

/- What the law calls: lists that are the same. -/
namespace Go.Proofs.YtnjcpkodihfmdaaGreat
open Go.RowKit
attribute [local go_sem ↓] Go.wp_at_zero Go.wp_at_succ

set_option maxRecDepth 100000 in
theorem lists_same (B : Nat) (x : List (List Int)) (u v : Value) (w : World) (hu : Mat B 22 3 w u x) (hv : Mat B 22 3 w v x) :
    Calls Tryz.prog 12 #[u, .int .i64 0, v, .int .i64 0] w fun x w' => x = .returned (.bool true) ∧ Below w.heap.size w w' := by
  obtain ⟨uo, uc, rfl, _, _⟩ := mat_open hu
  obtain ⟨vo, vc, rfl, _, _⟩ := mat_open hv
  have HU : Hid (Mat B 22 3 w (.slice uo x.length uc) x) := hu
  have HV : Hid (Mat B 22 3 w (.slice vo x.length vc) x) := hv
  clear hu hv
  go_enter Tryz.func12, Tryz.ntmps12
  go_wp2_with fail
  refine (sameAll_any B x x _ _ w HU.out HV.out).mono ?_
  rintro e w' ⟨rfl, n, rfl⟩
  have hxx : (x == x) = true := by simp
  rw [hxx]
  go_wp2
  go_ret
  exact ⟨rfl, ⟨rfl, rfl, rfl, Nat.le_refl _, fun _ _ => rfl⟩⟩

/-- The program's rows are the document's, one for one. -/
theorem rows_equal {d : Nat} {P P' s rows : List (List Int)} (hg : Good d P) (hP : Inor P' P) (hr : Inor rows (rowsC P' [] d P')) (hs : SAsc s) (hm : ∀ r, r ∈ s ↔ r ∈ rowsD P d) : rows = s := by
  refine sasc_ext rows s hr.asc hs fun r => ?_
  rw [hr.mem r, hm r, mem_rowsD]
  exact rows_same hg hP.mem r

/-- A row's last number is small. -/
theorem rowsD_last {d : Nat} {P : List (List Int)} (hP : Box d 30 P) (h1 : 1 ≤ d) (h5 : d ≤ 5) {r : List Int} (hr : r ∈ rowsD P d) : (r.getD d 0).natAbs ≤ 1000000000000000000 := by
  have hr0 := hr
  unfold rowsD at hr
  obtain ⟨c, hc, hr⟩ := List.mem_flatMap.1 hr
  have hl := chosen_row d P.length c hc
  have htl : (pks P [] c).length = d := by rw [← hl]; simp [pks]
  have htm : ∀ x ∈ pks P [] c, x ∈ P := pks_in fun q hq => by
    obtain ⟨i, hi, rfl⟩ := List.mem_iff_getElem.1 hq
    have := (chosen_mem d P.length c hc).1 i (by omega)
    simpa [hi] using this
  obtain ⟨σ, hσ, hnb, hre⟩ := rowT_form htl (Option.mem_toList.1 hr)
  have hal := norm_len hnb
  have hbd := norm_bd (diff_mx (fun x hx => hP x (htm x hx)) h1 h5)
  have h0 : (pks P [] c).getD 0 [] ∈ P := htm _ (by simp [show 0 < (pks P [] c).length by omega])
  have hsm : Sm (normL d (diffL (pks P [] c))) ((pks P [] c).getD 0 []) := ⟨by rw [hal, (hP _ h0).1]; exact Nat.le_refl _, by rw [hal]; omega, hbd, fun z hz => by have := (hP _ h0).2 z hz; omega⟩
  have hd := dot_small0 hsm
  have e : r.getD d 0 = σ * dotL (normL d (diffL (pks P [] c))) ((pks P [] c).getD 0 []) := by
    rw [hre]
    have := V_map (normL d (diffL (pks P [] c)) ++ [dotL (normL d (diffL (pks P [] c))) ((pks P [] c).getD 0 [])]) σ d
    simp only [V] at this
    rw [this, (row_app hal).2.2.1]
  rw [e, Int.natAbs_mul]
  generalize dotL (normL d (diffL (pks P [] c))) ((pks P [] c).getD 0 []) = q at *
  rcases hσ with rfl | rfl <;> simp <;> omega

theorem agn_over (r x : List Int) : agn r x = if 0 < overL r x then 1 else if overL r x = 0 then 0 else -1 := by
  unfold agn cmpI overL
  generalize dotL (r.take x.length) x = a
  generalize r.getD x.length 0 = b
  repeat' split
  all_goals omega

theorem whL_cons (r : List Int) (s : List (List Int)) (x : List Int) : whL (r :: s) x = max (agn r x) (whL s x) := by
  rw [agn_over]
  unfold whL
  simp only [List.any_cons, Bool.or_eq_true, decide_eq_true_eq]
  generalize overL r x = a
  by_cases h1 : (s.any fun r => decide (0 < overL r x)) = true
  · simp only [h1, or_true, if_true]
    repeat' split
    all_goals omega
  · by_cases h2 : (s.any fun r => decide (overL r x = 0)) = true
    · simp only [h1, h2, or_false, or_true, if_true, if_false, Bool.false_eq_true]
      repeat' split
      all_goals omega
    · simp only [h1, h2, or_false, if_false, Bool.false_eq_true]
      repeat' split
      all_goals omega

theorem whr_whL (s : List (List Int)) (x : List Int) : whr s x = whL s x := by
  have key : ∀ (s : List (List Int)) (p : Int), -1 ≤ p → p ≤ 1 → s.foldl (fun p r => max p (agn r x)) p = max p (whL s x) := by
    intro s
    induction s with
    | nil => intro p h1 h2; simp [whL]; omega
    | cons r s ih =>
      intro p h1 h2
      have hb := agn_bd r x
      rw [List.foldl_cons, ih _ (by omega) (by omega), whL_cons]
      omega
  have h : -1 ≤ whL s x := by
    unfold whL
    repeat' split
    all_goals omega
  unfold whr
  rw [key s (-1) (by omega) (by omega)]
  omega

end Go.Proofs.YtnjcpkodihfmdaaGreat
