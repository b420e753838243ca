import Derived.Test.YtfhhjifkgknhgaaHf9
import Derived.Test.YtfhhjifkgknhgaaHfB
import Derived.Test.YtfhhjifkgknhgaaLpD
/- What the corners of a cut with a box around it say of what is greatest (pure). -/
namespace Go.Proofs.Ytfhhjifkgknhgaa
open Lin

theorem mt_bd4 {d : Nat} {t : List (List Int)} (hx : Mx (d + 1) 60 t) (h3 : d ≤ 3) (hb : mtB d t = true) : ∀ z ∈ mtL d t, z.natAbs ≤ 1296000 := by
  have hnb : normB (d + 1) t = true := by unfold mtB at hb; rw [Bool.and_eq_true] at hb; exact hb.1
  have hP : ∀ z ∈ mtP d t, z.natAbs ≤ 1296000 := fun z hz => by
    unfold mtP at hz
    split at hz
    · obtain ⟨y, hy, rfl⟩ := List.mem_map.1 hz
      have := norm_bd4 hx (by omega) y hy; omega
    · exact norm_bd4 hx (by omega) z hz
  intro z hz
  unfold mtL ngR at hz
  rcases List.mem_append.1 hz with h1 | h1
  · exact hP z (List.mem_of_mem_take h1)
  · simp only [List.mem_singleton] at h1
    have := hP ((mtP d t).getD d 0) (getD_mem (by rw [mtP_len hnb]; omega))
    omega

/-- What the law asks of the corners. -/
structure DuP (d : Nat) (g : List Int) (a b : Int) (m : List (List Int)) : Prop where
  len : ∀ z ∈ m, z.length = d + 1
  pos : ∀ z ∈ m, 1 ≤ z.getD d 0
  bd : ∀ z ∈ m, ∀ x ∈ z, x.natAbs ≤ 1296000
  le : ∀ z ∈ m, dotL g z * b ≤ a * z.getD d 0
  met : ∃ z ∈ m, dotL g z * b = a * z.getD d 0

theorem low_pos {S U a b : Int} (h : low [S, U] = [a, b]) (hU : 0 < U) : 0 < b := by
  have m := low_at [S, U] 1
  rw [h] at m
  have m2 : ((Lin.gc [S, U] : Nat) : Int) * b = U := m
  rcases Int.lt_trichotomy b 0 with hb | hb | hb
  · have := Int.mul_nonpos_of_nonneg_of_nonpos (show (0 : Int) ≤ ((Lin.gc [S, U] : Nat) : Int) by omega) (Int.le_of_lt hb)
    omega
  · rw [hb, Int.mul_zero] at m2; omega
  · exact hb

theorem cross_le {S U a b q z : Int} (hU : 0 < U) (hb : 0 < b) (hx : S * b = a * U) (h : q * U ≤ S * z) : q * b ≤ a * z := by
  have h1 : q * U * b ≤ S * z * b := Int.mul_le_mul_of_nonneg_right h (Int.le_of_lt hb)
  have h2 : q * b * U ≤ a * z * U := by
    have e1 : q * b * U = q * U * b := Int.mul_right_comm _ _ _
    have e2 : a * z * U = S * z * b := by rw [Int.mul_right_comm a z U, ← hx, Int.mul_right_comm]
    rw [e1, e2]; exact h1
  exact Int.le_of_mul_le_mul_right h2 hU

theorem cross_eq {S U a b q z : Int} (hU : 0 < U) (hx : S * b = a * U) (h : q * U = S * z) : q * b = a * z := by
  have h2 : q * b * U = a * z * U := by
    have e1 : q * b * U = q * U * b := Int.mul_right_comm _ _ _
    have e2 : a * z * U = S * z * b := by rw [Int.mul_right_comm a z U, ← hx, Int.mul_right_comm]
    rw [e1, e2, h]
  exact Int.eq_of_mul_eq_mul_right (by omega) h2

theorem crL_mem {d : Nat} {rows : List (List Int)} {z : List Int} : z ∈ crL d rows (ext rows.length d 0) ↔ ∃ t, t.Sublist rows ∧ t.length = d ∧ mtB d t = true ∧ inK rows d (mtL d t) = true ∧ z = mtL d t := by
  have hx := chz_ext rows [] d 0
  rw [List.drop_zero] at hx
  constructor
  · intro h
    simp only [crL, List.mem_flatMap] at h
    obtain ⟨c, hc, hz⟩ := h
    have hm : pks rows [] c ∈ chz d rows := by rw [← hx]; exact List.mem_map.2 ⟨c, hc, rfl⟩
    obtain ⟨h1, h2⟩ := chz_mem.1 hm
    unfold crC at hz
    split at hz
    · rename_i hq
      simp only [List.mem_singleton] at hz
      exact ⟨_, h1, h2, hq.1, hq.2, hz⟩
    · cases hz
  · rintro ⟨t, h1, h2, h3, h4, rfl⟩
    have hm : t ∈ chz d rows := chz_mem.2 ⟨h1, h2⟩
    rw [← hx] at hm
    obtain ⟨c, hc, rfl⟩ := List.mem_map.1 hm
    simp only [crL, List.mem_flatMap]
    refine ⟨c, hc, ?_⟩
    unfold crC
    rw [if_pos ⟨h3, h4⟩]
    simp

theorem du_least {d : Nat} {rows : List (List Int)} {g y : List Int} (hg : g.length = d) (hy : lwO d rows g (waysL rows g) = some y) : ∀ t, t.Sublist rows → wayB g t = true → wS g (pks rows [] y) * wU g t ≤ wS g t * wU g (pks rows [] y) := fun t hs hwt => by
  obtain ⟨c, hc, rfl⟩ := ways_sub (g := rows) hs hwt rfl
  have := lwO_least (fun x hx => uW_pos hx) hy c hc
  rw [sd_wS hg, sd_wS hg, uW_wU, uW_wU] at this
  exact this

theorem du_fea {d : Nat} {rows : List (List Int)} {g y : List Int} {a b : Int} (hg : g.length = d) (hy : lwO d rows g (waysL rows g) = some y) (hab : low [sdL rows d y (mW rows g y), uW rows g y] = [a, b]) {x : Nat → Int} {z : Int} (hf : Fea d rows x z) : dot d (V g) x * b ≤ a * z := by
  have hym := lwO_mem hy
  have hw := (way_mem hym).1
  have hU : 0 < uW rows g y := uW_pos hym
  have hwk := weak hg hf (fun r hr => (sub_way hym).subset hr) hw
  rw [← uW_wU, ← sd_wS hg] at hwk
  exact cross_le hU (low_pos hab hU) (low_cross hab).1 hwk

theorem du_ok {d : Nat} {rows m : List (List Int)} {g y : List Int} {a b : Int} (hc : CutOk d rows) (hB : BxA d rows) (hg : g.length = d) (he : empB d rows = false) (hy : lwO d rows g (waysL rows g) = some y) (hab : low [sdL rows d y (mW rows g y), uW rows g y] = [a, b]) (hm : ∀ z, z ∈ m ↔ z ∈ crL d rows (ext rows.length d 0)) : DuP d g a b m := by
  have hym := lwO_mem hy
  have hU : 0 < uW rows g y := uW_pos hym
  have key : ∀ z ∈ m, z.length = d + 1 ∧ Fea d rows (V z) (V z d) ∧ ∀ x ∈ z, x.natAbs ≤ 1296000 := fun z hz => by
    obtain ⟨t, h1, h2, h3, h4, rfl⟩ := crL_mem.1 ((hm z).1 hz)
    obtain ⟨k1, k2⟩ := in_fea hc.len h3 h4
    exact ⟨k2, k1, mt_bd4 (pks_mxC hc fun x hx => h1.subset hx) hc.d3 h3⟩
  refine ⟨fun z hz => (key z hz).1, fun z hz => ?_, fun z hz => (key z hz).2.2, fun z hz => ?_, ?_⟩
  · have := (key z hz).2.1.1
    change 0 < z.getD d 0 at this
    omega
  · have := du_fea hg hy hab (key z hz).2.1
    rw [← dotL_V hg] at this
    exact this
  · obtain ⟨x0, w0, hf⟩ := emp_fea.1 he
    obtain ⟨t, y0, h1, h2, h3, h4, h5⟩ := strongP hg hc.len hB.pt hf (sub_way hym) (way_mem hym).1 (du_least hg hy)
    obtain ⟨k1, k2⟩ := mt_pt (fun r hr => hc.len r (h1.subset hr)) h3
    have hk : inK rows d y0 = true := by
      rw [in_ptK hc.len]
      exact (ptK_iff hc.len).2 (pt_fea hc.len h3).2
    refine ⟨y0, (hm y0).2 (crL_mem.2 ⟨t, h1, h2, k1, by rw [k2]; exact hk, k2.symm⟩), ?_⟩
    rw [← uW_wU, ← sd_wS hg, ← dotL_V hg] at h5
    exact cross_eq hU (low_cross hab).1 h5

/-- Where all rows hold the goal is no more. -/
theorem du_at {d : Nat} {rows : List (List Int)} {g y x : List Int} {a b : Int} (hg : g.length = d) (hy : lwO d rows g (waysL rows g) = some y) (hab : low [sdL rows d y (mW rows g y), uW rows g y] = [a, b]) (hx : x.length = d) (hh : ∀ r ∈ rows, dotL x r ≤ r.getD d 0) : dotL g x * b ≤ a := by
  have hf : Fea d rows (V x) 1 := ⟨by omega, fun r hr => by
    have := hh r hr
    rw [dotL_V hx] at this
    rw [dot_comm]
    show _ ≤ r.getD d 0 * 1
    omega⟩
  have := du_fea hg hy hab hf
  rw [← dotL_V hg] at this
  omega

end Go.Proofs.Ytfhhjifkgknhgaa

/- half.Corners, of a cut that may be and has an end. -/
namespace Go.Proofs.Ytfhhjifkgknhgaa
open Go.RowKit
attribute [local go_sem ↓] Go.wp_at_zero Go.wp_at_succ

/-- What it gives. -/
def CoV (d : Nat) (rows : List (List Int)) (w : World) (u : Value) (e : Int) : Prop :=
  (empB d rows = true ∧ u = .slice none 0 0 ∧ e = 6) ∨ (empB d rows = false ∧ e = 0 ∧ ∃ m, Mat 0 22 3 w u m ∧ Inor m (crL d rows (ext rows.length d 0)))

set_option maxRecDepth 100000 in
set_option maxHeartbeats 1600000 in
theorem halfCorners_ok (d : Nat) (rows : List (List Int)) (v : Value) (w : World) (hv : Mat 0 22 3 w v rows) (hc : CutOk d rows) (hop : opB d rows = false) :
    Calls Try.prog 9 #[.agg #[.int .i64 d, v]] w fun e w' => ∃ u E, e = .returned (.tuple #[u, .int .i64 E]) ∧ CoV d rows w' u E ∧ Below w.heap.size w w' := by
  obtain ⟨ro, rc, hvv, hlc, hcm⟩ := mat_open hv
  subst hvv
  obtain ⟨W, hW, hbW, hsW, hcW⟩ := cut_box w d (.slice ro rows.length rc)
  have HWW : Hid (W = w.alloc (.cells #[.int .i64 d, .slice ro rows.length rc] 26)) := hW
  have HBW : Hid (∀ X, Below W.heap.size W X → Below w.heap.size w X) := fun X hX => hbW.trans (hX.mono hbW.size)
  have HCC : Hid (∀ X, Below W.heap.size W X → X.cell? ⟨w.heap.size, 0, none⟩ = some (.int .i64 d) ∧ X.cell? ⟨w.heap.size, 1, none⟩ = some (.slice ro rows.length rc)) := hcW
  have HVW : ∀ X, Below W.heap.size W X → Mat 0 22 3 X (.slice ro rows.length rc) rows := fun X hX => hv.below (HBW.out X hX) (Nat.le_refl _)
  have H1 : Hid (∀ X, Below W.heap.size W X → Calls Try.prog 19 #[.agg #[.int .i64 d, .slice ro rows.length rc]] X fun e w' => e = .returned (.int .i64 0) ∧ Below X.heap.size X w') := fun X hX => halfCheck_ok d rows _ X ((HVW X hX).more (Nat.zero_le _)) hc
  have H2 : Hid (∀ X, Below W.heap.size W X → Calls Try.prog 20 #[.agg #[.int .i64 d, .slice ro rows.length rc]] X fun e w' => e = .returned (.bool (empB d rows)) ∧ Below X.heap.size X w') := fun X hX => isEmpty_ok d rows _ X ((HVW X hX).more (Nat.zero_le _)) hc
  have H3 : Hid (∀ X, Below W.heap.size W X → Calls Try.prog 21 #[.agg #[.int .i64 d, .slice ro rows.length rc]] X fun e w' => e = .returned (.bool false) ∧ Below X.heap.size X w') := fun X hX => by
    have h := isOpen_ok d rows _ X (HVW X hX) hc
    rw [hop] at h
    exact h
  have H4 : Hid (∀ X, Below W.heap.size W X → Calls Try.prog 22 #[.agg #[.int .i64 d, .slice ro rows.length rc]] X fun e w' => ∃ xo xc m, e = .returned (.slice xo m.length xc) ∧ Mat 0 22 3 w' (.slice xo m.length xc) m ∧ Inor m (crL d rows (ext rows.length d 0)) ∧ Below X.heap.size X w') := fun X hX => by
    refine (corners_any d rows _ X (HVW X hX) hc).mono ?_
    rintro e w' ⟨u, m, rfl, g1, g2, g3⟩
    have g4 := fr_mat g1
    obtain ⟨xo, xc, rfl, _, _⟩ := mat_open g4
    exact ⟨xo, xc, m, rfl, g4, g2, g3⟩
  obtain ⟨c0, c1⟩ := hcW W (Below.refl _ _)
  clear hv hc hop hW hbW hsW hcW HVW
  go_enter Try.func9, Try.ntmps9
  go_upto_region 1 with fail
  rw [← HWW.out]
  go_wp2_with fail
  refine (H1.out W (Below.refl _ _)).mono ?_
  rintro e w1 ⟨rfl, hb1⟩
  have HB1 : Hid (Below W.heap.size W w1) := hb1
  clear hb1 c0 c1
  obtain ⟨c0, c1⟩ := HCC.out w1 HB1.out
  go_wp2_with fail
  refine (H2.out w1 HB1.out).mono ?_
  rintro e w2 ⟨rfl, hb2⟩
  have HB2 : Hid (Below W.heap.size W w2) := HB1.out.trans (hb2.mono HB1.out.size)
  clear hb2 c0 c1
  obtain ⟨c0, c1⟩ := HCC.out w2 HB2.out
  cases he : empB d rows with
  | true =>
    have HE : Hid (empB d rows = true) := he
    clear he
    go_wp2
    exact bodyPost_ret (v := .tuple #[.slice none 0 0, .int .i64 6]) (by simp [results, Try.results9, go_sem]) rfl ⟨_, _, rfl, .inl ⟨HE.out, rfl, rfl⟩, HBW.out _ HB2.out⟩
  | false =>
    have HE : Hid (empB d rows = false) := he
    clear he
    go_wp2_with fail
    refine (H3.out w2 HB2.out).mono ?_
    rintro e w3 ⟨rfl, hb3⟩
    have HB3 : Hid (Below W.heap.size W w3) := HB2.out.trans (hb3.mono HB2.out.size)
    clear hb3 c0 c1
    obtain ⟨c0, c1⟩ := HCC.out w3 HB3.out
    go_wp2_with fail
    refine (H4.out w3 HB3.out).mono ?_
    rintro e w4 ⟨xo, xc, m, rfl, hm, hin, hb4⟩
    have HB4 : Hid (Below W.heap.size W w4) := HB3.out.trans (hb4.mono HB3.out.size)
    have HM : Hid (Mat 0 22 3 w4 (.slice xo m.length xc) m) := hm
    have HIN : Hid (Inor m (crL d rows (ext rows.length d 0))) := hin
    clear hb4 c0 c1 hm hin
    go_wp2
    exact bodyPost_ret (v := .tuple #[.slice xo m.length xc, .int .i64 0]) (by simp [results, Try.results9, go_sem]) rfl ⟨_, _, rfl, .inr ⟨HE.out, rfl, m, HM.out, HIN.out⟩, HBW.out _ HB4.out⟩

end Go.Proofs.Ytfhhjifkgknhgaa
