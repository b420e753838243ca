/- shell.checkWay. Made by mkln.py. -/
import Derived.Test.YtaklkiagkdpimaaGreatDoorGZ
import Derived.Test.YtaklkiagkdpimaaGreatDoorWhY
namespace Go.Proofs.YtaklkiagkdpimaaGreatDoor
open Go.RowKit
attribute [local go_sem ↓] Go.wp_at_zero Go.wp_at_succ

set_option maxRecDepth 100000 in
set_option maxHeartbeats 800000 in
theorem idxWy_any (B : Nat) (f : List Int → Bool) (m : List (List Int)) (v : Value) (w : World) (hv : Mat B 22 3 w v m)
    (hc : ∀ r ∈ m, ∀ (W : World) (rv : Value), Below w.heap.size w W → Sl B 3 W rv (ints r) → Calls Tryz.prog 38 #[rv] W fun e w' => e = .returned (.bool (f r)) ∧ Below w.heap.size w w') :
    Calls Tryz.prog 58 #[v, .func (.func 38) #[] #[]] w fun e w' => (∃ z, e = .returned (.int .i64 z) ∧ -1 ≤ z ∧ z < m.length ∧ decide (0 ≤ z) = m.any f) ∧ Below w.heap.size w w' := by
  obtain ⟨ao, cap, hvv, hlc, hcm⟩ := mat_open hv
  subst hvv
  have HV : Hid (Mat B 22 3 w (.slice ao m.length cap) m) := hv
  have HC : Hid (∀ r ∈ m, ∀ (W : World) (rv : Value), Below w.heap.size w W → Sl B 3 W rv (ints r) → Calls Tryz.prog 38 #[rv] W fun e w' => e = .returned (.bool (f r)) ∧ Below w.heap.size w w') := hc
  clear hv hc
  go_enter Tryz.func58, Tryz.ntmps58
  go_wp2
  go_loopw [8] (fun i wr => ∃ k : Nat, k ≤ m.length ∧ i = .int .i64 k ∧ (m.take k).any f = false ∧ Below w.heap.size w wr) (fun i _ => m.length - (intOf i).toNat)
  case atStart => exact ⟨0, Nat.zero_le _, rfl, by simp, Below.refl _ _⟩
  case round =>
    obtain ⟨k, hk, rfl, hno, hb⟩ := hrel
    have HN : Hid ((m.take k).any f = false) := hno
    have HB : Hid (Below w.heap.size w wr) := hb
    clear hno hb
    by_cases hlt : k < m.length
    · obtain ⟨b1, o, cp, r1, hs, hc1, hcc, hr1⟩ := mat_cell (HV.out.below HB.out (Nat.le_refl _)) hlt
      simp only [Value.slice.injEq] at hs
      obtain ⟨rfl, hxx, rfl⟩ := hs
      clear hxx
      have HS1 : Hid ((m.take (k + 1)).any f = f (m.getD k [])) := anyR_snoc (p := f) hlt HN.out
      have HME : Hid (m.getD k [] ∈ m) := by
        show _ ∈ _
        simp [hlt]
      have HCA : Hid (Calls Tryz.prog 38 #[r1] wr fun e w' => e = .returned (.bool (f (m.getD k []))) ∧ Below w.heap.size w w') := HC.out _ HME.out wr r1 HB.out hr1
      clear hr1
      generalize m.getD k [] = x at *
      obtain ⟨fb, hfb⟩ : ∃ fb, fb = f x := ⟨_, rfl⟩
      have HFB : Hid (fb = f x) := hfb
      rw [← hfb] at HCA
      clear hfb
      go_wp2_with fail
      refine HCA.out.mono ?_
      rintro e w2 ⟨rfl, hb2⟩
      have HB2 : Hid (Below w.heap.size w w2) := hb2
      clear hb2 HCA
      cases hf : fb
      · have HF : Hid (f x = false) := by rw [← hf]; exact HFB.out.symm
        clear hf
        go_wp2
        go_roundw
        case rel => exact ⟨k + 1, by omega, by go_num, by rw [HS1.out]; exact HF.out, HB2.out⟩
        case measure => simp [intOf]; omega
      · have HF : Hid (f x = true) := by rw [← hf]; exact HFB.out.symm
        clear hf
        go_wp2
        go_ret
        refine ⟨⟨_, rfl, by omega, by omega, ?_⟩, HB2.out⟩
        rw [decide_eq_true (by omega)]
        exact (List.any_eq_true.2 ⟨x, HME.out, HF.out⟩).symm
    · have HTK : Hid (m.take k = m) := List.take_of_length_le (by omega)
      go_wp2
      go_ret
      exact ⟨⟨-1, rfl, by omega, by omega, by rw [← HTK.out, HN.out]; rfl⟩, HB.out⟩

set_option maxRecDepth 100000 in
theorem hasWy_any (B : Nat) (f : List Int → Bool) (m : List (List Int)) (v : Value) (w : World) (hv : Mat B 22 3 w v m)
    (hc : ∀ r ∈ m, ∀ (W : World) (rv : Value), Below w.heap.size w W → Sl B 3 W rv (ints r) → Calls Tryz.prog 38 #[rv] W fun e w' => e = .returned (.bool (f r)) ∧ Below w.heap.size w w') :
    Calls Tryz.prog 37 #[v, .func (.func 38) #[] #[]] w fun e w' => e = .returned (.bool (m.any f)) ∧ Below w.heap.size w w' := by
  have HI : Hid (Calls Tryz.prog 58 #[v, .func (.func 38) #[] #[]] w fun e w' => (∃ z, e = .returned (.int .i64 z) ∧ -1 ≤ z ∧ z < m.length ∧ decide (0 ≤ z) = m.any f) ∧ Below w.heap.size w w') := idxWy_any B f m v w hv hc
  obtain ⟨ao, cap, hvv, hlc, hcm⟩ := mat_open hv
  subst hvv
  clear hv hc
  generalize m.any f = R at *
  go_enter Tryz.func37, Tryz.ntmps37
  go_wp2_with fail
  refine HI.out.mono ?_
  rintro e w' ⟨⟨z, rfl, hz1, hz2, hz3⟩, hb⟩
  have HZ : Hid (decide (0 ≤ z) = R) := hz3
  have HB : Hid (Below w.heap.size w w') := hb
  clear hz3 hb
  go_wp2
  go_ret
  exact ⟨ret_bool HZ.out, HB.out⟩

set_option maxRecDepth 100000 in
theorem checkWay1_any (B : Nat) (r : List Int) (rv : Value) (w W : World) (hb : Below w.heap.size w W) (hr : Sl B 3 W rv (ints r)) :
    Calls Tryz.prog 38 #[rv] W fun e w' => e = .returned (.bool (r.any (farB · 20))) ∧ Below w.heap.size w w' := by
  obtain ⟨ao, cap, hvv, hlc, hcm⟩ := sl_open hr
  subst hvv
  have HA : Hid (Calls Tryz.prog 39 #[.slice ao r.length cap, .int .i64 20] W fun e w' => e = .returned (.bool (r.any (farB · 20))) ∧ Below w.heap.size w w') := (anyBeyond_any B r _ 20 W hr (by omega) (by omega)).mono fun e w' ⟨h1, h2⟩ => ⟨h1, hb.trans (h2.mono hb.size)⟩
  generalize r.any (farB · 20) = R at *
  clear hb hr
  go_enter Tryz.func38, Tryz.ntmps38
  go_wp2_with fail
  refine HA.out.mono ?_
  rintro e w' ⟨rfl, hb⟩
  have HB : Hid (Below w.heap.size w w') := hb
  clear hb HA
  go_wp2
  go_ret
  exact ⟨rfl, HB.out⟩

set_option maxRecDepth 100000 in
set_option maxHeartbeats 800000 in
theorem checkWay_any (d : Nat) (P : List (List Int)) (wy : List Int) (v u : Value) (w : World) (hv : Mat w.heap.size 22 3 w v P) (hu : Sl w.heap.size 3 w u (ints wy)) (hg : Good d P) (hbx : ∀ r ∈ P, r.any (farB · 20) = false) (hwl : wy.length = d) (hwf : wy.any (farB · 20) = false) :
    Calls Tryz.prog 23 #[.agg #[.int .i64 d, v], u] w fun e w' => e = .returned (.int .i64 0) ∧ Below w.heap.size w w' := by
  obtain ⟨po, pc, rfl, hlc, hcm⟩ := mat_open hv
  obtain ⟨uo, uc, rfl, hlu, hcu⟩ := sl_open hu
  rw [hwl] at hu hlu ⊢
  have h1 := hg.d1
  have h4 := hg.d4
  obtain ⟨W, hW⟩ : ∃ W, W = w.alloc (.cells #[.int .i64 d, .slice po P.length pc] 27) := ⟨_, rfl⟩
  have hbw : Below w.heap.size w W := by rw [hW]; exact alloc_keep _ _
  have HW : Hid (Below w.heap.size w W) := hbw
  have hsW : W.heap.size = w.heap.size + 1 := by rw [hW]; exact size_alloc _ _
  have c0 : W.cell? ⟨w.heap.size, 0, none⟩ = some (.int .i64 d) := by rw [hW]; simp
  have c1 : W.cell? ⟨w.heap.size, 1, none⟩ = some (.slice po P.length pc) := by rw [hW]; simp
  have HC : Hid (∀ X, Below W.heap.size W X → X.cell? ⟨w.heap.size, 0, none⟩ = some (.int .i64 d) ∧ X.cell? ⟨w.heap.size, 1, none⟩ = some (.slice po P.length pc)) := fun X h => ⟨(h.cell (lt_of_cell c0)).trans c0, (h.cell (lt_of_cell c1)).trans c1⟩
  have HM : Hid (∀ X, Below W.heap.size W X → Mat X.heap.size 22 3 X (.slice po P.length pc) P) := fun X h => (((hv.below hbw (Nat.le_refl _)).any (Nat.le_refl _)).below h (Nat.le_refl _)).any (Nat.le_refl _)
  have HU : Hid (∀ X, Below W.heap.size W X → Sl w.heap.size 3 X (.slice uo d uc) (ints wy)) := fun X h => (hu.below hbw (Nat.le_refl _)).below h (by omega)
  have K1 : Hid (∀ X, Below W.heap.size W X → Calls Tryz.prog 35 #[.agg #[.int .i64 d, .slice po P.length pc]] X fun e w' => e = .returned (.int .i64 0) ∧ Below W.heap.size W w') := fun X h => (hullCheckK d P _ X (HM.out X h) hg).mono fun e w' ⟨e1, e2⟩ => ⟨e1, h.trans (e2.mono h.size)⟩
  have K2 : Hid (∀ X, Below W.heap.size W X → Calls Tryz.prog 36 #[.slice uo d uc, .int .i64 d, .int .i64 20] X fun e w' => e = .returned (.int .i64 0) ∧ Below W.heap.size W w') := fun X h => by
    refine (chkL_any w.heap.size d 20 wy _ X (HU.out X h) (by omega) (by omega)).mono ?_
    rintro e w' ⟨rfl, hb⟩
    exact ⟨by rw [if_neg (by simp [hwl]), if_neg (by simp [hwf])], h.trans (hb.mono h.size)⟩
  have K3 : Hid (∀ X, Below W.heap.size W X → Calls Tryz.prog 37 #[.slice po P.length pc, .func (.func 38) #[] #[]] X fun e w' => e = .returned (.bool false) ∧ Below W.heap.size W w') := fun X h => by
    refine (hasWy_any X.heap.size (fun r => r.any (farB · 20)) P _ X (HM.out X h) fun r hr Y rv hY hs => checkWay1_any X.heap.size r rv X Y hY hs).mono ?_
    rintro e w' ⟨rfl, hb⟩
    refine ⟨?_, h.trans (hb.mono h.size)⟩
    have : P.any (fun r => r.any (farB · 20)) = false := List.any_eq_false.2 fun r hr => by rw [hbx r hr]; decide
    rw [this]
  clear hv hu hg hbw hbx c0 c1 hwf hwl
  go_enter Tryz.func23, Tryz.ntmps23
  obtain ⟨e0, e1⟩ := HC.out W (Below.refl _ _)
  go_wp2_with fail
  rw [← hW]
  clear hW
  refine (K1.out _ (Below.refl _ _)).mono ?_
  rintro e w1 ⟨rfl, hb1⟩
  have HB1 : Hid (Below W.heap.size W w1) := hb1
  clear hb1 e0 e1 K1
  obtain ⟨e0, e1⟩ := HC.out w1 HB1.out
  go_wp2_with fail
  refine (K2.out _ HB1.out).mono ?_
  rintro e w2 ⟨rfl, hb2⟩
  have HB2 : Hid (Below W.heap.size W w2) := hb2
  clear hb2 e0 e1 K2
  obtain ⟨e0, e1⟩ := HC.out w2 HB2.out
  go_wp2_with fail
  refine (K3.out _ HB2.out).mono ?_
  rintro e w3 ⟨rfl, hb3⟩
  have HB3 : Hid (Below W.heap.size W w3) := hb3
  clear hb3 e0 e1 K3
  go_wp2
  go_ret
  exact ⟨rfl, HW.out.trans (HB3.out.mono HW.out.size)⟩

end Go.Proofs.YtaklkiagkdpimaaGreatDoor
