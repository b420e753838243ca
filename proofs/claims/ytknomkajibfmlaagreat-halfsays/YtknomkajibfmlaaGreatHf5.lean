/- exact.Product of small by great; is there a row that ..: by half.isIn's closure. Made by mkhas3.py. -/
import Derived.Test.YtknomkajibfmlaaGreatHf4
namespace Go.Proofs.YtknomkajibfmlaaGreat
open Go.RowKit
attribute [local go_sem ↓] Go.wp_at_zero Go.wp_at_succ

set_option maxRecDepth 100000 in
set_option maxHeartbeats 400000 in
theorem productE_any (B : Nat) (a x : List Int) (u v : Value) (w : World) (hu : Sl B 3 w u (ints a)) (hv : Sl B 3 w v (ints x)) (hs : Swe a x) :
    Calls Tryz.prog 75 #[u, v] w fun e w' => e = .returned (.int .i64 (dotL a x)) ∧ ∃ n, w' = w.drewN n := by
  obtain ⟨ao, cap, hvv, hlc, hcm⟩ := sl_open hu
  obtain ⟨bo, cbp, huu, hlb, hcb⟩ := sl_open hv
  subst hvv huu
  have HU : Hid (Sl B 3 w (.slice ao a.length cap) (ints a)) := hu
  have HV : Hid (Sl B 3 w (.slice bo x.length cbp) (ints x)) := hv
  have HS : Hid (Swe a x) := hs
  have hle : a.length ≤ x.length := hs.1
  have hl8 : a.length ≤ 8 := hs.2.1
  clear hu hv hs
  go_enter Tryz.func75, Tryz.ntmps75
  go_wp2
  go_loopw [5, 9] (fun s i wr => ∃ k : Nat, k ≤ a.length ∧ i = .int .i64 k ∧ s = .int .i64 (Lin.sumN k fun i => a.getD i 0 * x.getD i 0) ∧ ∃ n, wr = w.drewN n) (fun _ i _ => a.length - (intOf i).toNat)
  case atStart => exact ⟨0, Nat.zero_le _, rfl, rfl, 0, rfl⟩
  case round =>
    obtain ⟨k, hk, rfl, rfl, n, rfl⟩ := hrel
    by_cases hlt : k < a.length
    · have hlt2 : k < x.length := by omega
      obtain ⟨b, o, cp, hs, hc1, hcc⟩ := sl_cell HU.out hlt
      simp only [Value.slice.injEq] at hs
      obtain ⟨rfl, _, rfl⟩ := hs
      obtain ⟨b2, o2, cp2, hs2, hc2, hcc2⟩ := sl_cell HV.out hlt2
      simp only [Value.slice.injEq] at hs2
      obtain ⟨rfl, _, rfl⟩ := hs2
      have h1 := sum_swe HS.out k hk
      have h2 := sum_swe HS.out (k + 1) (by omega)
      have h3 : (a.getD k 0 * x.getD k 0).natAbs ≤ 1000000000000000 := mul_bwe (HS.out.2.2.1 _ (by simp [hlt])) (HS.out.2.2.2 _ (by simp [hlt2]))
      have HSU : Hid ((Lin.sumN (k + 1) fun i => a.getD i 0 * x.getD i 0) = (Lin.sumN k fun i => a.getD i 0 * x.getD i 0) + a.getD k 0 * x.getD k 0) := rfl
      rw [HSU.out] at h2
      generalize (Lin.sumN k fun i => a.getD i 0 * x.getD i 0) = S at *
      generalize a.getD k 0 = p at *
      generalize x.getD k 0 = q at *
      have e2 : wrap64 (S + wrap64 (p * q)) = S + p * q := by
        rw [IntWalk.wrap64_in (p * q) ⟨by omega, by omega⟩, IntWalk.wrap64_in _ ⟨by omega, by omega⟩]
      clear h1 h2 h3
      go_wp2
      go_quiet (fail)
      go_wp2
      go_roundw
      case rel => exact ⟨k + 1, by omega, by go_num, by rw [HSU.out, e2], _, rfl⟩
      case measure => simp [intOf]; omega
    · have hke : k = a.length := by omega
      subst hke
      go_wp2
      go_ret
      exact ⟨rfl, n, rfl⟩


set_option maxRecDepth 100000 in
set_option maxHeartbeats 800000 in
theorem idxI_any (B : Nat) (f : List Int → Bool) (m : List (List Int)) (v : Value) (p1 p2 p3 : Addr) (w : World) (hv : Mat B 38 3 w v m)
    (hc : ∀ r ∈ m, ∀ (W : World) (rv : Value), Below w.heap.size w W → Sl B 3 W rv (ints r) → Calls Tryz.prog 74 #[rv, .pointer (some p1), .pointer (some p2), .pointer (some p3)] W fun e w' => e = .returned (.bool (f r)) ∧ Below w.heap.size w w') :
    Calls Tryz.prog 84 #[v, .func (.func 74) #[] #[.pointer (some p1), .pointer (some p2), .pointer (some p3)]] w fun e w' => (∃ z, e = .returned (.int .i64 z) ∧ -1 ≤ z ∧ z < m.length ∧ decide (0 ≤ z) = m.any f) ∧ Below w.heap.size w w' := by
  obtain ⟨ao, cap, hvv, hlc, hcm⟩ := mat_open hv
  subst hvv
  have HV : Hid (Mat B 38 3 w (.slice ao m.length cap) m) := hv
  have HC : Hid (∀ r ∈ m, ∀ (W : World) (rv : Value), Below w.heap.size w W → Sl B 3 W rv (ints r) → Calls Tryz.prog 74 #[rv, .pointer (some p1), .pointer (some p2), .pointer (some p3)] W fun e w' => e = .returned (.bool (f r)) ∧ Below w.heap.size w w') := hc
  clear hv hc
  go_enter Tryz.func84, Tryz.ntmps84
  go_wp2
  go_loopw [8] (fun i wr => ∃ k : Nat, k ≤ m.length ∧ i = .int .i64 k ∧ (m.take k).any f = false ∧ Below w.heap.size w wr) (fun i _ => m.length - (intOf i).toNat)
  case atStart => exact ⟨0, Nat.zero_le _, rfl, by simp, Below.refl _ _⟩
  case round =>
    obtain ⟨k, hk, rfl, hno, hb⟩ := hrel
    have HN : Hid ((m.take k).any f = false) := hno
    have HB : Hid (Below w.heap.size w wr) := hb
    clear hno hb
    by_cases hlt : k < m.length
    · obtain ⟨b1, o, cp, r1, hs, hc1, hcc, hr1⟩ := mat_cell (HV.out.below HB.out (Nat.le_refl _)) hlt
      simp only [Value.slice.injEq] at hs
      obtain ⟨rfl, hxx, rfl⟩ := hs
      clear hxx
      have HS1 : Hid ((m.take (k + 1)).any f = f (m.getD k [])) := anyR_snoc (p := f) hlt HN.out
      have HME : Hid (m.getD k [] ∈ m) := by
        show _ ∈ _
        simp [hlt]
      have HCA : Hid (Calls Tryz.prog 74 #[r1, .pointer (some p1), .pointer (some p2), .pointer (some p3)] wr fun e w' => e = .returned (.bool (f (m.getD k []))) ∧ Below w.heap.size w w') := HC.out _ HME.out wr r1 HB.out hr1
      clear hr1
      generalize m.getD k [] = x at *
      obtain ⟨fb, hfb⟩ : ∃ fb, fb = f x := ⟨_, rfl⟩
      have HFB : Hid (fb = f x) := hfb
      rw [← hfb] at HCA
      clear hfb
      go_wp2_with fail
      refine HCA.out.mono ?_
      rintro e w2 ⟨rfl, hb2⟩
      have HB2 : Hid (Below w.heap.size w w2) := hb2
      clear hb2 HCA
      cases hf : fb
      · have HF : Hid (f x = false) := by rw [← hf]; exact HFB.out.symm
        clear hf
        go_wp2
        go_roundw
        case rel => exact ⟨k + 1, by omega, by go_num, by rw [HS1.out]; exact HF.out, HB2.out⟩
        case measure => simp [intOf]; omega
      · have HF : Hid (f x = true) := by rw [← hf]; exact HFB.out.symm
        clear hf
        go_wp2
        go_ret
        refine ⟨⟨_, rfl, by omega, by omega, ?_⟩, HB2.out⟩
        rw [decide_eq_true (by omega)]
        exact (List.any_eq_true.2 ⟨x, HME.out, HF.out⟩).symm
    · have HTK : Hid (m.take k = m) := List.take_of_length_le (by omega)
      go_wp2
      go_ret
      exact ⟨⟨-1, rfl, by omega, by omega, by rw [← HTK.out, HN.out]; rfl⟩, HB.out⟩

set_option maxRecDepth 100000 in
theorem hasI_any (B : Nat) (f : List Int → Bool) (m : List (List Int)) (v : Value) (p1 p2 p3 : Addr) (w : World) (hv : Mat B 38 3 w v m)
    (hc : ∀ r ∈ m, ∀ (W : World) (rv : Value), Below w.heap.size w W → Sl B 3 W rv (ints r) → Calls Tryz.prog 74 #[rv, .pointer (some p1), .pointer (some p2), .pointer (some p3)] W fun e w' => e = .returned (.bool (f r)) ∧ Below w.heap.size w w') :
    Calls Tryz.prog 73 #[v, .func (.func 74) #[] #[.pointer (some p1), .pointer (some p2), .pointer (some p3)]] w fun e w' => e = .returned (.bool (m.any f)) ∧ Below w.heap.size w w' := by
  have HI : Hid (Calls Tryz.prog 84 #[v, .func (.func 74) #[] #[.pointer (some p1), .pointer (some p2), .pointer (some p3)]] w fun e w' => (∃ z, e = .returned (.int .i64 z) ∧ -1 ≤ z ∧ z < m.length ∧ decide (0 ≤ z) = m.any f) ∧ Below w.heap.size w w') := idxI_any B f m v p1 p2 p3 w hv hc
  obtain ⟨ao, cap, hvv, hlc, hcm⟩ := mat_open hv
  subst hvv
  clear hv hc
  generalize m.any f = R at *
  go_enter Tryz.func73, Tryz.ntmps73
  go_wp2_with fail
  refine HI.out.mono ?_
  rintro e w' ⟨⟨z, rfl, hz1, hz2, hz3⟩, hb⟩
  have HZ : Hid (decide (0 ≤ z) = R) := hz3
  have HB : Hid (Below w.heap.size w w') := hb
  clear hz3 hb
  go_wp2
  go_ret
  exact ⟨ret_bool HZ.out, HB.out⟩

set_option maxRecDepth 100000 in
set_option maxHeartbeats 800000 in
theorem isIn1_any (d : Nat) (r y : List Int) (ww : Int) (ro : Option Addr) (rc : Nat) (xo : Option Addr) (xc : Nat) (b1 b2 b3 : Nat) (w : World) {B0 : Nat} (hr : Sl B0 3 w (.slice ro (d + 1) rc) (ints r)) (hx : Sl 0 3 w (.slice xo d xc) (ints y)) (hrl : r.length = d + 1) (hyl : y.length = d) (hrb : ∀ z ∈ r, z.natAbs ≤ 20) (hyb : ∀ z ∈ y, z.natAbs ≤ 1000000000000) (hwb : ww.natAbs ≤ 1000000000000) (hd : d ≤ 4)
    (c1 : w.cell? ⟨b1, 0, none⟩ = some (.int .i64 d)) (c2 : w.cell? ⟨b2, 0, none⟩ = some (.slice xo d xc)) (c3 : w.cell? ⟨b3, 0, none⟩ = some (.int .i64 ww)) :
    Calls Tryz.prog 74 #[.slice ro (d + 1) rc, .pointer (some ⟨b1, 0, none⟩), .pointer (some ⟨b2, 0, none⟩), .pointer (some ⟨b3, 0, none⟩)] w fun e w' => e = .returned (.bool (decide (r.getD d 0 * ww < dotL (r.take d) y))) ∧ ∃ n, w' = w.drewN n := by
  obtain ⟨rb, rf, rcc, hrv, hrc, hrd⟩ := sl_cell hr (k := d) (by rw [hrl]; omega)
  rw [hrl] at hrv hrc
  simp only [Value.slice.injEq] at hrv
  obtain ⟨rfl, -, rfl⟩ := hrv
  have hr' := hr
  rw [← hrl] at hr'
  have htk := Sl.takeE (n := d) hr' (by rw [hrl]; omega)
  have HPD : Hid (∀ m, Calls Tryz.prog 75 #[.slice (some ⟨rb, rf, none⟩) d rc, .slice xo d xc] (w.drewN m) fun e w' => e = .returned (.int .i64 (dotL (r.take d) y)) ∧ ∃ k, w' = (w.drewN m).drewN k) := fun m =>
    productE_any B0 _ y _ _ _ (htk.drewN m) ((hx.drewN m).more (Nat.zero_le _)) ⟨by rw [hyl]; simp; omega, by simp; omega, fun z hz => by have := hrb z (List.mem_of_mem_take hz); omega, hyb⟩
  have hb1 := hrb (r.getD d 0) (getD_mem (by rw [hrl]; omega))
  have hpb : (r.getD d 0 * ww).natAbs ≤ 20 * 1000000000000 := by rw [Int.natAbs_mul]; exact Nat.mul_le_mul hb1 hwb
  generalize dotL (r.take d) y = D at *
  generalize r.getD d 0 = rd at *
  have hw1 : wrap64 (rd * ww) = rd * ww := IntWalk.wrap64_in _ ⟨by omega, by omega⟩
  have hw2 : IntKind.i64.wrap (rd * ww) = rd * ww := by rw [IntWalk.i64_left]; exact hw1
  have hdI : (d : Int) < (d : Int) + 1 := by omega
  have hdI0 : (0 : Int) ≤ (d : Int) := by omega
  have hdc : (d : Int) ≤ (rc : Int) := by omega
  have hdc2 : d ≤ rc := by omega
  clear hr hr' hx htk hrb hyb hb1 hpb hwb
  go_enter Tryz.func74, Tryz.ntmps74
  go_wp2
  go_quiet ((go_at_call 75; exact Calls.quiet_of (w := w) (HPD.out _)))
  go_wp2
  go_ret
  exact ⟨rfl, _, rfl⟩

end Go.Proofs.YtknomkajibfmlaaGreat
