/- TopThereAndBack. -/
import Derived.Test.YtpbahagfhkpfhaaGreatTb0
import Derived.Test.YtpbahagfhkpfhaaGreatTbA
import Derived.Test.YtpbahagfhkpfhaaGreatWhY
import Derived.Test.YtpbahagfhkpfhaaGreatHgA
import Derived.Test.YtpbahagfhkpfhaaGreatHulY
import Derived.Test.YtpbahagfhkpfhaaGreatBet3
import Derived.Test.YtpbahagfhkpfhaaGreatPik
namespace Go.Proofs.YtpbahagfhkpfhaaGreat
open Go.RowKit
attribute [local go_sem ↓] Go.wp_at_zero Go.wp_at_succ

/-- What the law knows of a polytope's rows and corners. -/
structure TbK (d : Nat) (P R C : List (List Int)) : Prop where
  asc : SAsc R
  mem : ∀ r, r ∈ R ↔ r ∈ Go.Proofs.YtpbahagfhkpfhaaGreat.rowsC P [] d P
  casc : SAsc C
  cmem : ∀ x, x ∈ C ↔ x ∈ P ∧ Crn d P x

theorem TbK.fit {d : Nat} {P R C : List (List Int)} (h : TbK d P R C) (hg : Good d P) : ∀ r ∈ R, RowOf d P r := fun r hr => rowsC_fit hg.box hg.d1 (by have := hg.d4; omega) (fun _ => Iff.rfl) ((h.mem r).1 hr)

theorem far_bd {z : Int} (h : ¬ farB z 20 = true) : z.natAbs ≤ 20 := by
  unfold farB at h
  simp at h
  omega

theorem getD_take {l : List Int} {n i : Nat} (hi : i < n) (hl : i < l.length) : l.getD i 0 ∈ l.take n := by
  have : l.getD i 0 = (l.take n).getD i 0 := by simp [List.getD_eq_getElem?_getD, hi]
  rw [this]
  exact getD_mem (by simp; omega)

set_option maxRecDepth 100000 in
set_option maxHeartbeats 6000000 in
theorem topThere_any (raw : List Int) (d0 m0 : Int) (v : Value) (w : World) {B : Nat} (hv : Sl B 3 w v (ints raw)) (hr : ∀ z ∈ raw, In64 z) (hd : In64 d0) (hm : In64 m0) :
    Calls Tryz.prog 3 #[v, .int .i64 d0, .int .i64 m0] w fun e w' => e = .returned (.bool true) ∧ Below w.heap.size w w' := by
  obtain ⟨ao, cap, hvv, hlc, hcm⟩ := sl_open hv
  subst hvv
  by_cases hbig : 256 < raw.length
  · have h1 : (256 : Int) < (raw.length : Int) := by omega
    clear hv
    go_enter Tryz.func3, Tryz.ntmps3
    go_wp2
    go_ret
    exact ⟨rfl, Below.refl _ _⟩
  have hpk : ∀ (c n : Int), In64 c → 1 ≤ n → n ≤ 100 → ∃ p : Nat, (p : Int) < n ∧ ∀ w : World, Calls Tryz.prog 4 #[.int .i64 c, .int .i64 n] w fun e w' => e = .returned (.int .i64 p) ∧ w' = w := fun c n hc h1 h2 => by
    have hb := pickF_bd (c := c) (n := n) h1
    refine ⟨(pickF c n).toNat, by omega, fun w => ?_⟩
    rw [show (((pickF c n).toNat : Nat) : Int) = pickF c n by omega]
    exact pick_val c n w h1 (by omega) hc
  obtain ⟨p3, hp3, H3⟩ := hpk d0 3 hd (by omega) (by omega)
  obtain ⟨p5, hp5, H5⟩ := hpk m0 5 hm (by omega) (by omega)
  obtain ⟨d, hdd⟩ : ∃ d : Nat, d = 1 + p3 := ⟨_, rfl⟩
  have hdI : 1 + (p3 : Int) = (d : Int) := by omega
  have hd1 : 1 ≤ d := by omega
  have hd3 : d ≤ 3 := by omega
  have HP3 : Hid (∀ w : World, Calls Tryz.prog 4 #[.int .i64 d0, .int .i64 3] w fun e w' => e = .returned (.int .i64 p3) ∧ w' = w) := H3
  have HP5 : Hid (∀ w : World, Calls Tryz.prog 4 #[.int .i64 m0, .int .i64 5] w fun e w' => e = .returned (.int .i64 p5) ∧ w' = w) := H5
  have HPO : Hid (Calls Tryz.prog 5 #[.slice ao raw.length cap, .int .i64 0, .int .i64 d, .int .i64 p5, .int .i64 2] w fun e w' => ∃ xo xc, ∃ P : List (List Int), e = .returned (.agg #[.int .i64 d, .slice xo P.length xc]) ∧ Good d P ∧ Mat w'.heap.size 22 3 w' (.slice xo P.length xc) P ∧ Below w.heap.size w w') := by
    refine (polytopeOf_any B raw _ d p5 2 w hv hr (by omega) hd1 (by omega) (by omega) (by omega)).mono ?_
    rintro e w' ⟨x, m, rfl, hml, hbx, hmat, hb⟩
    obtain ⟨xo, xc, rfl, _, _⟩ := mat_open hmat
    exact ⟨xo, xc, _, rfl, poly_good hd1 (by omega) hbx (by omega) (by omega), hmat, hb⟩
  have hnb : decide ((256 : Int) < (raw.length : Int)) = false := decide_eq_false (by omega)
  have hnbN : decide (256 < raw.length) = false := decide_eq_false (by omega)
  clear H3 H5 hpk hdd hv hr
  go_enter Tryz.func3, Tryz.ntmps3
  go_wp2_with fail
  refine (HP3.out _).mono ?_
  rintro e w2 ⟨rfl, he⟩
  rw [he]
  clear he w2
  go_wp2_with fail
  refine (HP5.out _).mono ?_
  rintro e w2 ⟨rfl, he⟩
  rw [he]
  clear he w2
  go_wp2_with fail
  refine HPO.out.mono ?_
  rintro e w1 ⟨xo, xc, P, rfl, hg, hmp, hb1⟩
  obtain ⟨Rb, hRb⟩ : ∃ Rb, Rb = w1.heap.size := ⟨_, rfl⟩
  obtain ⟨W, hW⟩ : ∃ W, W = w1.alloc (.cells #[.int .i64 d, .slice xo P.length xc] 26) := ⟨_, rfl⟩
  have hbw : Below w1.heap.size w1 W := by rw [hW]; exact alloc_keep _ _
  have hsW : W.heap.size = Rb + 1 := by rw [hW, hRb]; simp
  have hkW : W.heap[Rb]? = some (.cells #[.int .i64 d, .slice xo P.length xc] 26 (0, 0)) := by rw [hW, hRb]; exact alloc_new _ _
  have HW : Hid (W = w1.alloc (.cells #[.int .i64 d, .slice xo P.length xc] 26)) := hW
  have HRB : Hid (Rb = w1.heap.size) := hRb
  have HG : Hid (Good d P) := hg
  have HBW : Hid (∀ X, Below W.heap.size W X → Below w.heap.size w X) := fun X hX => (hb1.trans (hbw.mono hb1.size)).trans (hX.mono (Nat.le_trans hb1.size hbw.size))
  have HCC : Hid (∀ X, Below W.heap.size W X → X.cell? ⟨Rb, 0, none⟩ = some (.int .i64 d) ∧ X.cell? ⟨Rb, 1, none⟩ = some (.slice xo P.length xc)) := fun X hX => by
    have h0 := (hX.block Rb (by omega)).trans hkW
    exact ⟨by simp [World.cell?, h0], by simp [World.cell?, h0]⟩
  have HMP : Hid (∀ X, Below W.heap.size W X → Mat W.heap.size 22 3 X (.slice xo P.length xc) P) := fun X hX => ((hmp.below hbw (Nat.le_refl _)).any (by exact Nat.le_refl _)).below hX (Nat.le_refl _)
  have HRO : Hid (∀ X, Below W.heap.size W X → Calls Tryz.prog 6 #[.agg #[.int .i64 d, .slice xo P.length xc]] X fun e w' => ∃ ro rc, ∃ R : List (List Int), e = .returned (.tuple #[.slice ro R.length rc, .int .i64 0]) ∧ SAsc R ∧ (∀ r, r ∈ R ↔ r ∈ rowsC P [] d P) ∧ Mat 0 22 3 w' (.slice ro R.length rc) R ∧ Below X.heap.size X w' ∧ R.length ≤ 100000) := fun X hX => by
    refine (rowsK_fr d P _ X ((HMP.out X hX).more hX.size) hg).mono ?_
    rintro e w' ⟨P', u, R, h1, h2, rfl, h5, h4⟩
    have g := fr_matE h5
    obtain ⟨ro, rc, rfl, _, _⟩ := mat_open g
    refine ⟨ro, rc, R, rfl, h2.asc, fun r => (h2.mem r).trans (rows_same hg h1.mem r), g, h4, ?_⟩
    refine Nat.le_trans (nodup_lenL R (rowsC P' [] d P') (sasc_nodup h2.asc) fun r hr => (h2.mem r).1 hr) (Nat.le_trans (rowsC_len _ _ _ _) (Nat.le_trans (chs_len _ _) ?_))
    exact Nat.le_trans (Nat.pow_le_pow_left (show P'.length + 1 ≤ 25 by have := h1.len; have := hg.n24; omega) d) (Nat.le_trans (Nat.pow_le_pow_right (by decide) hd3) (by decide))
  have HCO : Hid (∀ X, Below W.heap.size W X → Calls Tryz.prog 7 #[.agg #[.int .i64 d, .slice xo P.length xc]] X fun e w' => ∃ co cc, ∃ C : List (List Int), e = .returned (.tuple #[.slice co C.length cc, .int .i64 0]) ∧ SAsc C ∧ (∀ x, x ∈ C ↔ x ∈ P ∧ Crn d P x) ∧ Mat w'.heap.size 22 3 w' (.slice co C.length cc) C ∧ Below X.heap.size X w') := fun X hX => by
    refine (cornersK_ok d P _ X ((HMP.out X hX).more hX.size) hg).mono ?_
    rintro e w' ⟨P', u, R, h1, h2, rfl, h4, h5⟩
    obtain ⟨co, cc, rfl, _, _⟩ := mat_open h4
    obtain ⟨k1, k2⟩ := tb_mem hg h1 h2
    exact ⟨co, cc, _, rfl, k1, k2, h4, h5⟩
  obtain ⟨c0, c1⟩ := HCC.out W (Below.refl _ _)
  clear hg hmp hb1 hbw hsW hkW hW hRb HPO HP3 HP5
  go_upto_region 5 with fail
  rw [← HW.out, ← HRB.out]
  clear HW HRB
  go_wp2_with fail
  refine (HRO.out W (Below.refl _ _)).mono ?_
  rintro e w2 ⟨ro, rc, R, rfl, hra, hrm, hrM, hb2, hR5⟩
  have HB2 : Hid (Below W.heap.size W w2) := hb2
  have HRM : Hid (∀ X, Below w2.heap.size w2 X → Mat 0 22 3 X (.slice ro R.length rc) R) := fun X hX => hrM.below hX (Nat.le_refl _)
  have HRA : Hid (SAsc R ∧ ∀ r, r ∈ R ↔ r ∈ rowsC P [] d P) := ⟨hra, hrm⟩
  clear hra hrm hrM hb2 c0 c1 HRO
  obtain ⟨c0, c1⟩ := HCC.out w2 HB2.out
  go_wp2_with fail
  refine (HCO.out w2 HB2.out).mono ?_
  rintro e w3 ⟨co, cc, C, rfl, hca, hcm', hcM, hb3⟩
  have HB23 : Hid (Below w2.heap.size w2 w3) := hb3
  have HB3 : Hid (Below W.heap.size W w3) := HB2.out.trans (hb3.mono HB2.out.size)
  have hK : TbK d P R C := ⟨HRA.out.1, HRA.out.2, hca, hcm'⟩
  have HK : Hid (TbK d P R C) := hK
  have HCM : Hid (∀ X, Below w3.heap.size w3 X → Mat w3.heap.size 22 3 X (.slice co C.length cc) C) := fun X hX => hcM.below hX (Nat.le_refl _)
  obtain ⟨hgC, hrC⟩ := tb_facts HG.out hca hcm'
  have HGC : Hid (Good d C) := hgC
  have hRn := rows_many HG.out HRA.out.2
  have hCn := good_many hgC
  have hC24 := hgC.n24
  have HAG : Hid (Calls Tryz.prog 6 #[.agg #[.int .i64 d, .slice co C.length cc]] w3 fun e w' => ∃ uo uc, e = .returned (.tuple #[.slice uo R.length uc, .int .i64 0]) ∧ Mat 0 22 3 w' (.slice uo R.length uc) R ∧ Below w3.heap.size w3 w') := by
    refine (rowsK_fr d C _ w3 (HCM.out w3 (Below.refl _ _)) hgC).mono ?_
    rintro e w' ⟨P', u, R2, h1, h2, rfl, h5, h4⟩
    have e1 : R2 = R := sasc_ext R2 R h2.asc HRA.out.1 fun r => by rw [h2.mem, rows_same hgC h1.mem, hrC, HRA.out.2]
    subst e1
    have g := fr_matE h5
    obtain ⟨uo, uc, rfl, _, _⟩ := mat_open g
    exact ⟨uo, uc, rfl, g, h4⟩
  have hRb : decide ((R.length : Int) < (d : Int) + 1) = false := decide_eq_false (by omega)
  have hCb : decide ((C.length : Int) < (d : Int) + 1) = false := decide_eq_false (by omega)
  have hw1 : IntKind.i64.wrap ((d : Int) + 1) = (d : Int) + 1 := by rw [IntKind.wrap_i64]; omega
  have HRn : Hid (d + 1 ≤ R.length ∧ d + 1 ≤ C.length) := ⟨hRn, hCn⟩
  clear hca hcm' hcM hb3 hK hgC hrC c0 c1 HCO hRn hCn HRA
  go_wp2_with fail
  refine HAG.out.mono ?_
  rintro e w4 ⟨uo, uc, rfl, huM, hb4⟩
  have HB34 : Hid (Below w3.heap.size w3 w4) := hb4
  have HB4 : Hid (Below W.heap.size W w4) := HB3.out.trans (hb4.mono HB3.out.size)
  have HB24 : Hid (Below w2.heap.size w2 w4) := HB23.out.trans (hb4.mono HB23.out.size)
  have HSA : Hid (Calls Tryz.prog 8 #[.slice ro R.length rc, .slice uo R.length uc] w4 fun e w' => e = .returned (.bool true) ∧ Below w4.heap.size w4 w') := by
    refine (sameAll_any 0 R R _ _ w4 (HRM.out w4 HB24.out) huM).mono ?_
    rintro e w' ⟨rfl, n, rfl⟩
    exact ⟨by simp, ⟨rfl, rfl, rfl, Nat.le_refl _, fun _ _ => rfl⟩⟩
  clear huM hb4 HAG
  go_wp2_with fail
  refine HSA.out.mono ?_
  rintro e w5 ⟨rfl, hb5⟩
  have HB5 : Hid (Below W.heap.size W w5) := HB4.out.trans (hb5.mono HB4.out.size)
  have HB35 : Hid (Below w3.heap.size w3 w5) := HB34.out.trans (hb5.mono HB34.out.size)
  have HB25 : Hid (Below w2.heap.size w2 w5) := HB24.out.trans (hb5.mono HB24.out.size)
  have hP24 := HG.out.n24
  clear hb5 HSA
  go_wp2
  go_loopw [13] (fun i wr => ∃ p : Nat, p ≤ P.length ∧ i = .int .i64 p ∧ Below w5.heap.size w5 wr) (fun i _ => P.length - (intOf i).toNat)
  case atStart => exact ⟨0, Nat.zero_le _, rfl, Below.refl _ _⟩
  case round =>
    obtain ⟨p, hp, rfl, hbr⟩ := hrel
    obtain ⟨wa, rfl⟩ : ∃ wa, wa = wr := ⟨_, rfl⟩
    have HBA : Hid (Below w5.heap.size w5 wa) := hbr
    have HBWa : Hid (Below W.heap.size W wa) := HB5.out.trans (hbr.mono HB5.out.size)
    have HB2a : Hid (Below w2.heap.size w2 wa) := HB25.out.trans (hbr.mono HB25.out.size)
    have HB3a : Hid (Below w3.heap.size w3 wa) := HB35.out.trans (hbr.mono HB35.out.size)
    obtain ⟨c0, c1⟩ := HCC.out wa HBWa.out
    clear hbr
    by_cases hlt : p < P.length
    · obtain ⟨b, o, cp, xv, hs, _, hxc, hxv⟩ := mat_cell (HMP.out wa HBWa.out) hlt
      simp only [Value.slice.injEq] at hs
      obtain ⟨rfl, -, rfl⟩ := hs
      obtain ⟨x, hx⟩ : ∃ x, x = P.getD p [] := ⟨_, rfl⟩
      have hxm : x ∈ P := by rw [hx, List.getD_eq_getElem?_getD, List.getElem?_eq_getElem hlt]; exact List.getElem_mem _
      rw [← hx] at hxv
      have hxl := (HG.out.box x hxm).1
      obtain ⟨zo, zc, hzv, _, _⟩ := sl_open hxv
      rw [hxl] at hzv
      subst hzv
      have HHO : Hid (Calls Tryz.prog 9 #[.slice ro R.length rc, .slice zo d zc] wa fun e w' => e = .returned (.bool true) ∧ Below wa.heap.size wa w') := by
        have hfit := HK.out.fit HG.out
        have h := holdsT_any W.heap.size R x (.slice ro R.length rc) (.slice zo d zc) wa (HRM.out wa HB2a.out) hxv (fun r hr => by
          rw [hxl]
          refine ⟨(hfit r hr).len, fun i hi => (hfit r hr).bd _ (getD_take hi (by rw [(hfit r hr).len]; omega))⟩) (by omega) (fun z hz => by have := (HG.out.box x hxm).2 z hz; omega)
        have e1 : hoB R x = true := hoB_iff.2 fun r hr => by
          have := (hfit r hr).all x hxm
          rw [hxl]
          unfold dotL
          rw [hxl]
          rw [Lin.dot_comm] at this
          exact this
        rw [e1] at h
        exact h
      have hpI : (p : Int) < (P.length : Int) := by omega
      have hpI0 : (0 : Int) ≤ (p : Int) := by omega
      clear hx hxm hxl hxv
      go_wp2_with fail
      refine HHO.out.mono ?_
      rintro e w7 ⟨rfl, hb7⟩
      have HB7 : Hid (Below w5.heap.size w5 w7) := HBA.out.trans (hb7.mono HBA.out.size)
      clear hb7
      go_wp2
      exact ⟨⟨p + 1, by omega, by go_num, HB7.out⟩, by simp [intOf]; omega⟩
    · have hpe : p = P.length := by omega
      subst hpe
      clear hlt
      go_wp2
      go_loopw [14] (fun i wr => ∃ q : Nat, q ≤ R.length ∧ i = .int .i64 q ∧ (∀ r ∈ R.take q, r.any (farB · 20) = false) ∧ Below wa.heap.size wa wr) (fun i _ => R.length - (intOf i).toNat)
      case atStart => exact ⟨0, Nat.zero_le _, rfl, fun r hr => (by simp at hr), Below.refl _ _⟩
      case round =>
        obtain ⟨q, hq, rfl, hfar, hbr⟩ := hrel
        obtain ⟨wb, rfl⟩ : ∃ wb, wb = wr := ⟨_, rfl⟩
        have HBB : Hid (Below wa.heap.size wa wb) := hbr
        have HFAR : Hid (∀ r ∈ R.take q, r.any (farB · 20) = false) := hfar
        have HBWb : Hid (Below W.heap.size W wb) := HBWa.out.trans (hbr.mono HBWa.out.size)
        have HB2b : Hid (Below w2.heap.size w2 wb) := HB2a.out.trans (hbr.mono HB2a.out.size)
        have HB3b : Hid (Below w3.heap.size w3 wb) := HB3a.out.trans (hbr.mono HB3a.out.size)
        clear hbr hfar
        by_cases hlq : q < R.length
        · obtain ⟨b, o, cp, rv, hs, _, hrc, hrv⟩ := mat_cell (HRM.out wb HB2b.out) hlq
          simp only [Value.slice.injEq] at hs
          obtain ⟨rfl, -, rfl⟩ := hs
          have HTK : Hid ((R.getD q []).any (farB · 20) = false → ∀ r ∈ R.take (q + 1), r.any (farB · 20) = false) := fun h r hr => by
            rw [List.take_succ_eq_append_getElem hlq] at hr
            rcases List.mem_append.1 hr with h1 | h1
            · exact HFAR.out r h1
            · simp only [List.mem_singleton] at h1
              rw [h1]
              simpa [hlq] using h
          obtain ⟨r, hr⟩ : ∃ r, r = R.getD q [] := ⟨_, rfl⟩
          rw [← hr] at hrv HTK
          obtain ⟨zo, zc, hzv, _, _⟩ := sl_open hrv
          obtain ⟨zl, hzl⟩ : ∃ zl, zl = r.length := ⟨_, rfl⟩
          rw [← hzl] at hzv
          subst hzv
          have HFA : Hid (Calls Tryz.prog 10 #[.slice zo zl zc, .int .i64 20] wb fun e w' => e = .returned (.bool (r.any (farB · 20))) ∧ w' = wb) := farAny_any 0 r _ 20 wb hrv (by omega) (by omega)
          have hqI : (q : Int) < (R.length : Int) := by omega
          have hqI0 : (0 : Int) ≤ (q : Int) := by omega
          clear hr hrv hzl
          generalize r.any (farB · 20) = fb at *
          go_wp2_with fail
          refine HFA.out.mono ?_
          rintro e w7 ⟨rfl, he⟩
          rw [he]
          clear he w7
          cases fb with
          | true =>
            go_wp2
            go_ret
            exact ⟨rfl, HBW.out _ HBWb.out⟩
          | false =>
            have HT2 : Hid (∀ r ∈ R.take (q + 1), r.any (farB · 20) = false) := HTK.out rfl
            clear HTK
            go_wp2
            exact ⟨⟨q + 1, by omega, by go_num, HT2.out, HBB.out⟩, by simp [intOf]; omega⟩
        · have hqe : q = R.length := by omega
          subst hqe
          clear hlq
          by_cases h12 : 12 < R.length
          · have h12b : decide ((12 : Int) < (R.length : Int)) = true := decide_eq_true (by omega)
            have h12I : (12 : Int) < (R.length : Int) := by omega
            go_wp2
            go_ret
            exact ⟨rfl, HBW.out _ HBWb.out⟩
          · have h12b : decide ((12 : Int) < (R.length : Int)) = false := decide_eq_false (by omega)
            have h12N : decide (12 < R.length) = false := decide_eq_false (by omega)
            have hcut : CutOk d R := ⟨hd1, hd3, by omega, fun r hr => (HK.out.fit HG.out r hr).len, fun r hr z hz => by
              have h := HFAR.out r (by rw [List.take_length]; exact hr)
              rw [List.any_eq_false] at h
              have := h z hz
              exact far_bd this⟩
            have HHC : Hid (Calls Tryz.prog 11 #[.agg #[.int .i64 d, .slice ro R.length rc]] wb fun e w' => ∃ yo yc, e = .returned (.tuple #[.slice yo C.length yc, .int .i64 0]) ∧ Mat 0 22 3 w' (.slice yo C.length yc) (C.map (· ++ [1])) ∧ Below wb.heap.size wb w') := by
              refine (halfCornersG_ok d R _ wb (HRM.out wb HB2b.out) hcut).mono ?_
              rintro e w' ⟨yo, yl, yc, E, rfl, hcw, hb⟩
              obtain ⟨f1, f2⟩ := rows_full HG.out HK.out.mem
              rcases hcw with ⟨h, _⟩ | ⟨_, h, _⟩ | ⟨_, _, rfl, m, hm, hin⟩
              · rw [f1] at h; cases h
              · rw [f2] at h; cases h
              · have e1 := ends_are HG.out HK.out.mem HK.out.casc HK.out.cmem hin
                subst e1
                obtain ⟨yo', yc', hyv, _, _⟩ := mat_open hm
                rw [List.length_map] at hyv
                simp only [Value.slice.injEq] at hyv
                obtain ⟨rfl, rfl, rfl⟩ := hyv
                exact ⟨yo, yc, rfl, hm, hb⟩
            clear hcut
            go_wp2_with fail
            refine HHC.out.mono ?_
            rintro e w8 ⟨yo, yc, rfl, hyM, hb8⟩
            have HB8 : Hid (Below W.heap.size W w8) := HBWb.out.trans (hb8.mono HBWb.out.size)
            have HB38 : Hid (Below w3.heap.size w3 w8) := HB3b.out.trans (hb8.mono HB3b.out.size)
            have HYM : Hid (∀ X, Below w8.heap.size w8 X → Mat 0 22 3 X (.slice yo C.length yc) (C.map (· ++ [1]))) := fun X hX => hyM.below hX (Nat.le_refl _)
            have hcc : ((C.length : Int) != (C.length : Int)) = false := by simp
            clear hb8 hyM HHC
            go_wp2
            go_loopw [16] (fun i wr => ∃ j : Nat, j ≤ C.length ∧ i = .int .i64 j ∧ Below w8.heap.size w8 wr) (fun i _ => C.length - (intOf i).toNat)
            case atStart => exact ⟨0, Nat.zero_le _, rfl, Below.refl _ _⟩
            case round =>
              obtain ⟨j, hj, rfl, hbr⟩ := hrel
              obtain ⟨wc, rfl⟩ : ∃ wc, wc = wr := ⟨_, rfl⟩
              have HBC : Hid (Below w8.heap.size w8 wc) := hbr
              have HBWc : Hid (Below W.heap.size W wc) := HB8.out.trans (hbr.mono HB8.out.size)
              have HB3c : Hid (Below w3.heap.size w3 wc) := HB38.out.trans (hbr.mono HB38.out.size)
              clear hbr
              by_cases hlj : j < C.length
              · obtain ⟨b, o, cp, zv, hs, _, hzc, hzv⟩ := mat_cell (HYM.out wc HBC.out) (k := j) (by rw [List.length_map]; exact hlj)
                rw [List.length_map] at hs
                simp only [Value.slice.injEq] at hs
                obtain ⟨rfl, -, rfl⟩ := hs
                obtain ⟨x, hx⟩ : ∃ x, x = C.getD j [] := ⟨_, rfl⟩
                have hxm : x ∈ C := by rw [hx, List.getD_eq_getElem?_getD, List.getElem?_eq_getElem hlj]; exact List.getElem_mem _
                have hxe : (C.map (· ++ [1])).getD j [] = x ++ [1] := by rw [hx]; simp [hlj]
                rw [hxe] at hzv
                have hxl := (HGC.out.box x hxm).1
                obtain ⟨zb, zf, zc, hzs, hzc1, hzd⟩ := sl_cell hzv (k := d) (by simp [hxl])
                have hzl : (x ++ [(1 : Int)]).length = d + 1 := by simp [hxl]
                rw [(row_app (b := 1) hxl).2.2.1] at hzd
                have htk := hzv
                rw [hzs] at htk
                have htk2 := Sl.takeE (n := d) htk (by rw [hzl]; omega)
                rw [(row_app (b := 1) hxl).2.1] at htk2
                rw [hzl] at hzs hzc1
                subst hzs
                have HHU : Hid (Calls Tryz.prog 12 #[.slice co C.length cc, .slice (some ⟨zb, zf, none⟩) d zc] wc fun e w' => e = .returned (.bool true) ∧ Below wc.heap.size wc w') := by
                  refine (holdsU_any w3.heap.size x C _ _ wc (htk2.more (Nat.zero_le _)) (HCM.out wc HB3c.out)).mono ?_
                  rintro e w' ⟨rfl, n, rfl⟩
                  refine ⟨?_, ⟨rfl, rfl, rfl, Nat.le_refl _, fun _ _ => rfl⟩⟩
                  have : C.any (· == x) = true := List.any_eq_true.2 ⟨x, hxm, by simp⟩
                  rw [this]
                have hjI : (j : Int) < (C.length : Int) := by omega
                have hjI0 : (0 : Int) ≤ (j : Int) := by omega
                have hdJ : (d : Int) < (d : Int) + 1 := by omega
                have hdJ0 : (0 : Int) ≤ (d : Int) := by omega
                have hdc : (d : Int) ≤ (zc : Int) := by omega
                have hdcN : d ≤ zc := by omega
                have hddn : (((d : Int) + 1) != ((d : Int) + 1)) = false := by simp
                clear hx hxm hxe hxl hzv htk htk2 hzl
                go_wp2_with fail
                refine HHU.out.mono ?_
                rintro e w9 ⟨rfl, hb9⟩
                have HB9 : Hid (Below w8.heap.size w8 w9) := HBC.out.trans (hb9.mono HBC.out.size)
                clear hb9
                go_wp2
                exact ⟨⟨j + 1, by omega, by go_num, HB9.out⟩, by simp [intOf]; omega⟩
              · have hje : j = C.length := by omega
                subst hje
                go_wp2
                go_ret
                exact ⟨rfl, HBW.out _ HBWc.out⟩

end Go.Proofs.YtpbahagfhkpfhaaGreat
