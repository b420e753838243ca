import Derived.Test.YtaklkiagkdpimaaGreatDoorLn5
import Derived.Test.YtaklkiagkdpimaaGreatDoorLn6
import Derived.Test.YtaklkiagkdpimaaGreatDoorHmW
import Derived.Test.YtaklkiagkdpimaaGreatDoorBetY
/- The law of lines of sides, for good polytopes. -/
namespace Go.Proofs.YtaklkiagkdpimaaGreatDoor
open Go.RowKit Lin
attribute [local go_sem ↓] Go.wp_at_zero Go.wp_at_succ

set_option maxRecDepth 100000 in
theorem listsN_same (B : Nat) (x : List (List Int)) (u v : Value) (w : World) (hu : Mat B 22 3 w u x) (hv : Mat B 22 3 w v x) :
    Calls Tryz.prog 13 #[u, .int .i64 0, v, .int .i64 0] w fun x w' => x = .returned (.bool true) ∧ Below w.heap.size w w' := by
  obtain ⟨uo, uc, rfl, _, _⟩ := mat_open hu
  obtain ⟨vo, vc, rfl, _, _⟩ := mat_open hv
  have HS : Hid (Calls Tryz.prog 28 #[.slice uo x.length uc, .slice vo x.length vc] w fun e w' => e = .returned (.bool true) ∧ Below w.heap.size w w') := by
    refine (sameAll_any B x x _ _ w hu hv).mono ?_
    rintro e w' ⟨rfl, n, rfl⟩
    exact ⟨by simp, below_drewN (Below.refl _ _) n⟩
  clear hu hv
  go_enter Tryz.func13, Tryz.ntmps13
  go_wp2_with fail
  refine HS.out.mono ?_
  rintro e w' ⟨rfl, hb⟩
  have HB : Hid (Below w.heap.size w w') := hb
  clear hb
  go_wp2
  go_ret
  exact ⟨rfl, HB.out⟩

set_option maxRecDepth 100000 in
theorem listsN_no (w : World) :
    Calls Tryz.prog 13 #[.slice none 0 0, .int .i64 8, .slice none 0 0, .int .i64 8] w fun x w' => x = .returned (.bool true) ∧ Below w.heap.size w w' := by
  go_enter Tryz.func13, Tryz.ntmps13
  go_wp2
  go_ret
  exact ⟨rfl, Below.refl _ _⟩

/-- The two orders are one. -/
theorem line_same {m m' : List Sde} {ps : List Nat} (ht : TknI m ps) (hl : ps.length = m.length) (hf : Fall m') (hp : m'.Perm m) : (m'.map fun t => memL t.1) = ps.map fun p => memL (m.getD p (0, 0, 1)).1 := by
  have e : m' = ps.map fun p => m.getD p (0, 0, 1) := fall_same hf ht.fall (hp.trans (ht.all hl).symm)
  rw [e, List.map_map]
  rfl

set_option maxRecDepth 100000 in
set_option maxHeartbeats 3200000 in
theorem shellLines_any (d : Nat) (P : List (List Int)) (wy : List Int) (v u : Value) (w : World) (hv : Mat w.heap.size 22 3 w v P) (hu : Sl w.heap.size 3 w u (ints wy)) (hg : Good d P) (hbx : Box d 6 P) (hn : P.length ≤ 10) (hT : TabB w) (hwl : wy.length = d) (hw : ∀ z ∈ wy, z.natAbs ≤ 20) :
    Calls Tryz.prog 5 #[.agg #[.int .i64 d, v], u] w fun e w' => e = .returned (.bool true) ∧ Below w.heap.size w w' := by
  obtain ⟨po, pc, rfl, hlc, hcm⟩ := mat_open hv
  obtain ⟨uo, uc, rfl, hlu, hcu⟩ := sl_open hu
  rw [hwl] at hu hlu ⊢
  have h1 := hg.d1
  have h4 := hg.d4
  have hnear : ∀ l : List Int, (∀ z ∈ l, z.natAbs ≤ 20) → l.any (farB · 20) = false := fun l h => List.any_eq_false.2 fun z hz => by
    have := h z hz
    simp only [farB, Bool.or_eq_true, decide_eq_true_eq]
    omega
  obtain ⟨W, hW⟩ : ∃ W, W = w.alloc (.cells #[.int .i64 d, .slice po P.length pc] 27) := ⟨_, rfl⟩
  have hbw : Below w.heap.size w W := by rw [hW]; exact alloc_keep _ _
  have HW : Hid (Below w.heap.size w W) := hbw
  have hsW : W.heap.size = w.heap.size + 1 := by rw [hW]; exact size_alloc _ _
  have c0 : W.cell? ⟨w.heap.size, 0, none⟩ = some (.int .i64 d) := by rw [hW]; simp
  have c1 : W.cell? ⟨w.heap.size, 1, none⟩ = some (.slice po P.length pc) := by rw [hW]; simp
  have HC : Hid (∀ X, Below W.heap.size W X → X.cell? ⟨w.heap.size, 0, none⟩ = some (.int .i64 d) ∧ X.cell? ⟨w.heap.size, 1, none⟩ = some (.slice po P.length pc)) := fun X h => ⟨(h.cell (lt_of_cell c0)).trans c0, (h.cell (lt_of_cell c1)).trans c1⟩
  have HM : Hid (∀ X, Below W.heap.size W X → Mat X.heap.size 22 3 X (.slice po P.length pc) P) := fun X h => (((hv.below hbw (Nat.le_refl _)).any (Nat.le_refl _)).below h (Nat.le_refl _)).any (Nat.le_refl _)
  have HU : Hid (∀ X, Below W.heap.size W X → Sl X.heap.size 3 X (.slice uo d uc) (ints wy)) := fun X h => (((hu.below hbw (Nat.le_refl _)).any (Nat.le_refl _)).below h (Nat.le_refl _)).any (Nat.le_refl _)
  have HT : Hid (∀ X, Below W.heap.size W X → TabB X) := fun X h => (hT.below hbw).below h
  have K1 : Hid (Calls Tryz.prog 8 #[.slice po P.length pc] W fun e w' => ∃ q, e = .returned (.bool q) ∧ w' = W) := (heavy_any W.heap.size P _ W (HM.out W (Below.refl _ _))).mono fun e w' ⟨q, h1, _, h3⟩ => ⟨q, h1, h3⟩
  have K2 : Hid (∀ X, Below W.heap.size W X → Calls Tryz.prog 9 #[.agg #[.int .i64 d, .slice po P.length pc]] X fun e w' => e = .returned (.int .i64 0) ∧ Below W.heap.size W w') := fun X h => (hullMay_ok d P _ X (HM.out X h) hg).mono fun e w' ⟨e1, e2⟩ => ⟨e1, h.trans (e2.mono h.size)⟩
  have K3 : Hid (∀ X, Below W.heap.size W X → Calls Tryz.prog 10 #[.slice uo d uc, .int .i64 20] X fun e w' => e = .returned (.bool false) ∧ w' = X) := fun X h => by
    refine (farAny_any X.heap.size wy _ 20 X (HU.out X h) (by omega) (by omega)).mono ?_
    rintro e w' ⟨rfl, rfl⟩
    exact ⟨by rw [hnear wy hw], rfl⟩
  have K4 : Hid (∀ X i, Below W.heap.size W X → i < P.length → ∃ pb pf yo yc, po = some ⟨pb, pf, none⟩ ∧ X.cell? ⟨pb, pf + i, none⟩ = some (.slice yo d yc) ∧ Calls Tryz.prog 10 #[.slice yo d yc, .int .i64 20] X fun e w' => e = .returned (.bool false) ∧ w' = X) := fun X i h hi => by
    obtain ⟨qb, qo, qcp, q1, hqs, _, hqc, hq1⟩ := mat_cell (HM.out X h) hi
    simp only [Value.slice.injEq, true_and] at hqs
    have hkm : P.getD i [] ∈ P := by simp [hi]
    obtain ⟨yo, yc, rfl, hy1, hy2⟩ := sl_open hq1
    rw [(hbx _ hkm).1] at hqc hq1
    refine ⟨qb, qo, yo, yc, hqs.1, hqc, (farAny_any X.heap.size _ _ 20 X hq1 (by omega) (by omega)).mono ?_⟩
    rintro e w' ⟨rfl, rfl⟩
    have hfar := hnear (P.getD i []) fun z hz => by
      have := (hbx _ hkm).2 z hz
      omega
    exact ⟨by rw [hfar], rfl⟩
  have K5 : Hid (∀ X, Below W.heap.size W X → Calls Tryz.prog 11 #[.agg #[.int .i64 d, .slice po P.length pc], .slice uo d uc] X fun e w' => ∃ s C : List (List Int), (SAsc s ∧ (∀ r, r ∈ s ↔ r ∈ rowsD P d) ∧ SAsc C ∧ (∀ y, y ∈ C ↔ y ∈ crn d s P)) ∧ ((∃ (ps : List Nat) (xo : Option Addr) (xc : Nat), e = .returned (.tuple #[.slice xo s.length xc, .int .i64 0]) ∧ TknI (s.map (hgt d C wy)) ps ∧ ps.length = s.length ∧ Mat 0 22 3 w' (.slice xo s.length xc) (ps.map fun p => memL ((s.map (hgt d C wy)).getD p (0, 0, 1)).1)) ∨ (e = .returned (.tuple #[.slice none 0 0, .int .i64 8]) ∧ ¬ Apt (s.map (hgt d C wy)))) ∧ Below W.heap.size W w') := fun X h => by
    refine (lineOf_any d P wy _ _ X (HM.out X h) (HU.out X h) hg hbx hn hwl hw).mono ?_
    rintro e w' ⟨s, C, q1, q2, q3, q4, q5, q6⟩
    refine ⟨s, C, ⟨q1, q2, q3, q4⟩, ?_, h.trans (q6.mono h.size)⟩
    rcases q5 with ⟨ps, xo, xc, r1, r2, r3, r4⟩ | ⟨r1, r2⟩
    · exact Or.inl ⟨ps, xo, xc, r3, r1, r2, r4⟩
    · exact Or.inr ⟨r2, r1⟩
  have K6 : Hid (∀ X (s C : List (List Int)), (SAsc s ∧ (∀ r, r ∈ s ↔ r ∈ rowsD P d) ∧ SAsc C ∧ (∀ y, y ∈ C ↔ y ∈ crn d s P)) → Below W.heap.size W X → Calls Tryz.prog 12 #[.agg #[.int .i64 d, .slice po P.length pc], .slice uo d uc] X fun e w' => ((∃ (m' : List Sde) (xo : Option Addr) (xc : Nat), e = .returned (.tuple #[.slice xo m'.length xc, .int .i64 0]) ∧ Fall m' ∧ m'.Perm (s.map (hgt d C wy)) ∧ Mat 0 22 3 w' (.slice xo m'.length xc) (m'.map fun t => memL t.1)) ∨ (e = .returned (.tuple #[.slice none 0 0, .int .i64 8]) ∧ ¬ Apt (s.map (hgt d C wy)))) ∧ Below X.heap.size X w') := fun X s C ⟨q1, q2, q3, q4⟩ h => by
    refine (line_any d P s C wy _ _ X (HM.out X h) (HU.out X h) hg hbx hn (HT.out X h) hwl hw q1 q2 q3 q4).mono ?_
    rintro e w' ⟨q5, q6⟩
    refine ⟨?_, q6⟩
    rcases q5 with ⟨m', xo, xc, r1, r2, r3, r4⟩ | ⟨r1, r2⟩
    · exact Or.inl ⟨m', xo, xc, r3, r1, r2, r4⟩
    · exact Or.inr ⟨r2, r1⟩
  clear hv hu hg hbx hT hbw c0 c1 hw hnear hwl
  have hdn : ((d : Int) != (d : Int)) = false := by simp
  have hd300 : decide ((300 : Int) < (d : Int)) = false := by simp; omega
  go_enter Tryz.func5, Tryz.ntmps5
  obtain ⟨e0, e1⟩ := HC.out W (Below.refl _ _)
  go_wp2_with fail
  rw [← hW]
  clear hW
  refine K1.out.mono ?_
  rintro e w0 ⟨q, rfl, rfl⟩
  clear K1
  cases q
  case true =>
    go_wp2
    go_ret
    exact ⟨rfl, HW.out⟩
  case false =>
    go_wp2_with fail
    refine (K2.out _ (Below.refl _ _)).mono ?_
    rintro e w1 ⟨rfl, hb1⟩
    have HB1 : Hid (Below w0.heap.size w0 w1) := hb1
    clear hb1 e0 e1 K2
    obtain ⟨e0, e1⟩ := HC.out w1 HB1.out
    go_wp2_with fail
    refine (K3.out w1 HB1.out).mono ?_
    rintro e w1' ⟨rfl, rfl⟩
    clear K3
    go_wp2
    go_loopw [5, 6] (fun ev iv wr => ∃ i : Nat, i ≤ P.length ∧ iv = .int .i64 (i : Int) ∧ ev = .int .i64 0 ∧ wr = w1') (fun _ iv _ => P.length - (intOf iv).toNat)
    case atStart => exact ⟨0, Nat.zero_le _, rfl, rfl, rfl⟩
    case round =>
      obtain ⟨i, hi, rfl, rfl, rfl⟩ := hrel
      by_cases hlt : i < P.length
      · obtain ⟨pb, pf, yo, yc, hpo, hyc, hfa⟩ := K4.out wr i HB1.out hlt
        have HFA : Hid (Calls Tryz.prog 10 #[.slice yo d yc, .int .i64 20] wr fun e w' => e = .returned (.bool false) ∧ w' = wr) := hfa
        have hiI : (i : Int) < (P.length : Int) := by omega
        subst hpo
        clear hfa
        go_wp2_with fail
        refine HFA.out.mono ?_
        rintro e w2 ⟨rfl, rfl⟩
        go_wp2
        exact ⟨⟨i + 1, by omega, by go_num, by first | rfl | trivial, by first | rfl | trivial⟩, by simp [intOf]; omega⟩
      · have hie : i = P.length := by omega
        subst hie
        clear hlt hi K4
        go_wp2_with fail
        refine (K5.out wr HB1.out).mono ?_
        rintro e w3 ⟨s, C, hsc, hor, hb3⟩
        have HB3 : Hid (Below wr.heap.size wr w3 ∨ Below w0.heap.size w0 w3) := Or.inr hb3
        have HB3' : Hid (Below w0.heap.size w0 w3) := hb3
        have HSC : Hid (SAsc s ∧ (∀ r, r ∈ s ↔ r ∈ rowsD P d) ∧ SAsc C ∧ (∀ y, y ∈ C ↔ y ∈ crn d s P)) := hsc
        clear hb3 hsc K5 e0 e1 HB3
        obtain ⟨e0, e1⟩ := HC.out w3 HB3'.out
        rcases hor with ⟨ps, xo, xc, rfl, ht, hpl, hM⟩ | ⟨rfl, hna⟩
        · have HTK : Hid (TknI (s.map (hgt d C wy)) ps) := ht
          have HPL : Hid (ps.length = s.length) := hpl
          have HMD : Hid (Mat 0 22 3 w3 (.slice xo s.length xc) (ps.map fun p => memL ((s.map (hgt d C wy)).getD p (0, 0, 1)).1)) := hM
          clear ht hpl hM
          go_wp2_with fail
          refine (K6.out w3 s C HSC.out HB3'.out).mono ?_
          rintro e w4 ⟨hor, hb4⟩
          have HB4 : Hid (Below w.heap.size w w4) := HW.out.trans ((HB3'.out.trans (hb4.mono HB3'.out.size)).mono HW.out.size)
          rcases hor with ⟨m', zo, zc, rfl, hf, hp, hM4⟩ | ⟨rfl, hna⟩
          · have hsame := line_same HTK.out (by rw [List.length_map]; exact HPL.out) hf hp
            have hD4 := HMD.out.below hb4 (Nat.le_refl _)
            rw [← hsame] at hD4
            have HLS : Hid (Calls Tryz.prog 13 #[.slice zo m'.length zc, .int .i64 0, .slice xo s.length xc, .int .i64 0] w4 fun x w' => x = .returned (.bool true) ∧ Below w4.heap.size w4 w') := listsN_same 0 _ _ _ w4 hM4 hD4
            clear hf hp hM4 hb4 hsame hD4 HMD HTK HPL
            generalize m'.length = ml at *
            go_wp2_with fail
            refine HLS.out.mono ?_
            rintro e w5 ⟨rfl, hb5⟩
            have HB5 : Hid (Below w.heap.size w w5) := HB4.out.trans (hb5.mono HB4.out.size)
            clear hb5
            go_wp2
            go_ret
            exact ⟨rfl, HB5.out⟩
          · exfalso
            have hA : Apt (s.map (hgt d C wy)) := HTK.out.fall.apt.perm (HTK.out.all (by rw [List.length_map]; exact HPL.out)).symm
            exact hna hA
        · have HNA : Hid (¬ Apt (s.map (hgt d C wy))) := hna
          clear hna
          go_wp2_with fail
          refine (K6.out w3 s C HSC.out HB3'.out).mono ?_
          rintro e w4 ⟨hor, hb4⟩
          have HB4 : Hid (Below w.heap.size w w4) := HW.out.trans ((HB3'.out.trans (hb4.mono HB3'.out.size)).mono HW.out.size)
          rcases hor with ⟨m', zo, zc, rfl, hf, hp, hM4⟩ | ⟨rfl, hna⟩
          · exact absurd (hf.apt.perm hp.symm) HNA.out
          · clear hna hb4
            go_wp2_with fail
            refine (listsN_no w4).mono ?_
            rintro e w5 ⟨rfl, hb5⟩
            have HB5 : Hid (Below w.heap.size w w5) := HB4.out.trans (hb5.mono HB4.out.size)
            clear hb5
            go_wp2
            go_ret
            exact ⟨rfl, HB5.out⟩

end Go.Proofs.YtaklkiagkdpimaaGreatDoor

/- The law ShellLinesMade: the walk. -/
namespace Go.Proofs.YtaklkiagkdpimaaGreatDoor
open Go.RowKit
attribute [local go_sem ↓] Go.wp_at_zero Go.wp_at_succ

theorem poly_boxN {n wd : Nat} {m : List (List Int)} (hm : Box n wd m) (hw : wd ≤ 6) : Box n 6 (polyL n m) := by
  intro r hr
  simp only [polyL, List.mem_append, List.mem_singleton, List.mem_map, List.mem_range] at hr
  rcases hr with (hr | rfl) | ⟨k, hk, rfl⟩
  · refine ⟨(hm r hr).1, fun z hz => ?_⟩
    have := (hm r hr).2 z hz
    omega
  · refine ⟨by simp [zerosL], fun z hz => ?_⟩
    simp only [zerosL, List.mem_map] at hz
    obtain ⟨_, _, rfl⟩ := hz
    omega
  · refine ⟨by simp [spk], fun z hz => ?_⟩
    simp only [spk, List.mem_map] at hz
    obtain ⟨j, _, rfl⟩ := hz
    have := Nat.mod_lt k (show 0 < 2 by decide)
    split <;> omega

set_option maxRecDepth 100000 in
set_option maxHeartbeats 1600000 in
theorem shellLinesMade_any (B : Nat) (raw : List Int) (d0 m0 : Int) (v : Value) (w : World) (hv : Sl B 3 w v (ints raw)) (hr : ∀ z ∈ raw, In64 z) (hd : In64 d0) (hm : In64 m0) (hT : TabB w) :
    Calls Tryz.prog 3 #[v, .int .i64 d0, .int .i64 m0] w fun e w' => e = .returned (.bool true) ∧ Below w.heap.size w w' := by
  obtain ⟨ao, cap, hvv, hlc, hcm⟩ := sl_open hv
  subst hvv
  have HV : Hid (Sl B 3 w (.slice ao raw.length cap) (ints raw)) := hv
  have HRR : Hid (∀ z ∈ raw, In64 z) := hr
  have HD : Hid (In64 d0) := hd
  have HMM : Hid (In64 m0) := hm
  have HT : Hid (TabB w) := hT
  clear hv hr hd hm hT
  by_cases h1 : 256 < raw.length
  · have b1 : decide ((256 : Int) < (raw.length : Int)) = true := decide_eq_true (by omega)
    go_enter Tryz.func3, Tryz.ntmps3
    go_wp2
    go_ret
    exact ⟨rfl, Below.refl _ _⟩
  · have b1 : decide ((256 : Int) < (raw.length : Int)) = false := decide_eq_false (by omega)
    have HRL : Hid (raw.length ≤ 1000000) := by
      show _ ≤ _
      omega
    clear h1
    go_enter Tryz.func3, Tryz.ntmps3
    go_wp2_with fail
    refine (pick_any d0 4 w (by omega) (by omega) HD.out).mono ?_
    rintro e w1 ⟨z, rfl, hz, rfl⟩
    obtain ⟨n, hn⟩ : ∃ n : Nat, (n : Int) = 1 + z := ⟨(1 + z).toNat, by omega⟩
    have hz1' := hz.1
    have hz2' := hz.2
    have HN : Hid ((n : Int) = 1 + z) := hn
    have hn1 : 1 ≤ n := by omega
    have hn4 : n ≤ 4 := by omega
    clear hz hn
    go_wp2_with fail
    rw [← HN.out]
    refine (pick_any m0 5 w1 (by omega) (by omega) HMM.out).mono ?_
    rintro e w2 ⟨y, rfl, hy, rfl⟩
    obtain ⟨k, hk⟩ : ∃ k : Nat, (k : Int) = y := ⟨y.toNat, by omega⟩
    have hk5 : k ≤ 4 := by omega
    subst hk
    clear hy hz1' hz2' HN
    go_wp2_with fail
    refine (polytopeOf_any B raw _ n k 5 w2 HV.out HRR.out HRL.out hn1 hn4 (by omega) (by omega)).mono ?_
    rintro e w3 ⟨x, m, rfl, hml, hbx, hmat, hb3⟩
    have hgood : Good n (polyL n m) := poly_good hn1 hn4 hbx (by omega) (by omega)
    have hlen : (polyL n m).length ≤ 10 := by rw [poly_len]; omega
    have HFS : Hid (∀ X (wy : List Int) u, Below w3.heap.size w3 X → Sl X.heap.size 3 X u (ints wy) → wy.length = n → (∀ z ∈ wy, z.natAbs ≤ 20) → Calls Tryz.prog 5 #[.agg #[.int .i64 n, x], u] X fun e w' => e = .returned (.bool true) ∧ Below X.heap.size X w') := fun X wy u hX hu hwl hw =>
      shellLines_any n (polyL n m) wy x u X ((hmat.below hX (Nat.le_refl _)).any (Nat.le_refl _)) hu hgood (poly_boxN hbx (by omega)) hlen (HT.out.below (hb3.trans (hX.mono hb3.size))) hwl hw
    have HB3 : Hid (Below w2.heap.size w2 w3) := hb3
    have HPO : Hid (Calls Tryz.prog 7 #[.slice ao raw.length cap, .int .i64 50, .int .i64 n, .int .i64 1, .int .i64 20] w3 fun e w' => ∃ gb gf gc yo yc, e = .returned (.slice (some ⟨gb, gf, none⟩) 1 gc) ∧ w'.cell? ⟨gb, gf, none⟩ = some (.slice yo n yc) ∧ (∃ wy : List Int, Sl 0 3 w' (.slice yo n yc) (ints wy) ∧ wy.length = n ∧ ∀ z ∈ wy, z.natAbs ≤ 20) ∧ Below w3.heap.size w3 w') := by
      refine (pointsOf_any B raw _ 50 n 1 20 w3 (HV.out.below hb3 (Nat.le_refl _)) HRR.out HRL.out (by omega) (by omega) (by omega) (by omega)).mono ?_
      rintro e w' ⟨x2, m2, rfl, hl2, hbx2, hfr, hb⟩
      obtain ⟨vs, g1, g2, g3⟩ := hfr
      obtain ⟨b, o, cp, r1, hqs, _, hcc, hr1⟩ := mat_cell (B := 0) ⟨vs, g1, Sl.own g2, g3⟩ (k := 0) (by omega)
      have hkm : m2.getD 0 [] ∈ m2 := by simp [show 0 < m2.length by omega]
      have hbw := hbx2 _ hkm
      obtain ⟨yo, yc, rfl, _, _⟩ := sl_open hr1
      rw [hbw.1] at hcc hr1
      rw [hl2] at hqs
      refine ⟨b, o, cp, yo, yc, by rw [hqs], hcc, ⟨m2.getD 0 [], hr1, hbw.1, fun z hz => ?_⟩, hb⟩
      have := hbw.2 z hz
      omega
    obtain ⟨xo, xc, hxv, _, _⟩ := mat_open hmat
    subst hxv
    clear hml hbx hmat hb3 hgood hlen
    go_wp2_with fail
    refine HPO.out.mono ?_
    rintro e w4 ⟨gb, gf, gc, yo, yc, rfl, hcc, ⟨wy, hwy, hwl, hwb⟩, hb4⟩
    have HSL := HFS.out w4 wy (.slice yo n yc) hb4 (hwy.more (Nat.zero_le _)) hwl hwb
    have HB4 : Hid (Below w2.heap.size w2 w4) := HB3.out.trans (hb4.mono HB3.out.size)
    clear hb4 hwy hwl hwb HFS HPO
    go_wp2_with fail
    refine HSL.mono ?_
    rintro e w5 ⟨rfl, hb5⟩
    have HB5 : Hid (Below w2.heap.size w2 w5) := HB4.out.trans (hb5.mono HB4.out.size)
    clear hb5 HSL
    go_wp2
    go_ret
    exact ⟨rfl, HB5.out⟩

end Go.Proofs.YtaklkiagkdpimaaGreatDoor
