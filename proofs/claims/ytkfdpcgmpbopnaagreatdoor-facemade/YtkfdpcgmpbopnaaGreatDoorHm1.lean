/- The document's answer: products, how far a point is beyond a row, differences. -/
import Derived.Test.YtkfdpcgmpbopnaaGreatDoorRow1
import Derived.Test.YtkfdpcgmpbopnaaGreatDoorWhr1
namespace Go.Proofs.YtkfdpcgmpbopnaaGreatDoor
open Go.RowKit
attribute [local go_sem ↓] Go.wp_at_zero Go.wp_at_succ

set_option maxRecDepth 100000 in
set_option maxHeartbeats 400000 in
theorem dotR_any (B : Nat) (a x : List Int) (u v : Value) (w : World) (hu : Sl B 3 w u (ints a)) (hv : Sl B 3 w v (ints x)) (hs : Sm a x) :
    Calls Tryz.prog 64 #[u, v] w fun e w' => e = .returned (.int .i64 (dotL a x)) ∧ ∃ n, w' = w.drewN n := by
  obtain ⟨ao, cap, hvv, hlc, hcm⟩ := sl_open hu
  obtain ⟨bo, cbp, huu, hlb, hcb⟩ := sl_open hv
  subst hvv huu
  have HU : Hid (Sl B 3 w (.slice ao a.length cap) (ints a)) := hu
  have HV : Hid (Sl B 3 w (.slice bo x.length cbp) (ints x)) := hv
  have HS : Hid (Sm a x) := hs
  have hle : a.length ≤ x.length := hs.1
  have hl8 : a.length ≤ 8 := hs.2.1
  clear hu hv hs
  go_enter Tryz.func64, Tryz.ntmps64
  go_wp2
  go_loopw [5, 6] (fun s i wr => ∃ k : Nat, k ≤ a.length ∧ i = .int .i64 k ∧ s = .int .i64 (Lin.sumN k fun i => a.getD i 0 * x.getD i 0) ∧ ∃ n, wr = w.drewN n) (fun _ i _ => a.length - (intOf i).toNat)
  case atStart => exact ⟨0, Nat.zero_le _, rfl, rfl, 0, rfl⟩
  case round =>
    obtain ⟨k, hk, rfl, rfl, n, rfl⟩ := hrel
    by_cases hlt : k < a.length
    · have hlt2 : k < x.length := by omega
      obtain ⟨b, o, cp, hs, hc1, hcc⟩ := sl_cell HU.out hlt
      simp only [Value.slice.injEq] at hs
      obtain ⟨rfl, _, rfl⟩ := hs
      obtain ⟨b2, o2, cp2, hs2, hc2, hcc2⟩ := sl_cell HV.out hlt2
      simp only [Value.slice.injEq] at hs2
      obtain ⟨rfl, _, rfl⟩ := hs2
      have h1 := sum_sm HS.out k hk
      have h2 := sum_sm HS.out (k + 1) (by omega)
      have h3 : (a.getD k 0 * x.getD k 0).natAbs ≤ 1000000000000000 := mul_bd (HS.out.2.2.1 _ (by simp [hlt])) (HS.out.2.2.2 _ (by simp [hlt2]))
      have HSU : Hid ((Lin.sumN (k + 1) fun i => a.getD i 0 * x.getD i 0) = (Lin.sumN k fun i => a.getD i 0 * x.getD i 0) + a.getD k 0 * x.getD k 0) := rfl
      rw [HSU.out] at h2
      generalize (Lin.sumN k fun i => a.getD i 0 * x.getD i 0) = S at *
      generalize a.getD k 0 = p at *
      generalize x.getD k 0 = q at *
      have e2 : wrap64 (S + wrap64 (p * q)) = S + p * q := by
        rw [IntWalk.wrap64_in (p * q) ⟨by omega, by omega⟩, IntWalk.wrap64_in _ ⟨by omega, by omega⟩]
      have hkI : (k : Int) < (a.length : Int) := by omega
      have hkI2 : (k : Int) < (x.length : Int) := by omega
      have hkI0 : (0 : Int) ≤ (k : Int) := by omega
      clear h1 h2 h3
      go_wp2
      go_quiet (fail)
      go_wp2
      go_roundw
      case rel => exact ⟨k + 1, by omega, by go_num, by rw [HSU.out, e2], _, rfl⟩
      case measure => simp [intOf]; omega
    · have hke : k = a.length := by omega
      subst hke
      go_wp2
      go_ret
      exact ⟨rfl, n, rfl⟩

theorem dot_small0 {a x : List Int} (h : Sm a x) : (dotL a x).natAbs ≤ 8000000000000000 := by
  have h1 := sum_sm h a.length (Nat.le_refl _)
  have h2 := h.2.1
  unfold dotL
  omega

/-- How far a point is beyond a row. -/
def overL (r x : List Int) : Int := dotL (r.take x.length) x - r.getD x.length 0

set_option maxRecDepth 100000 in
set_option maxHeartbeats 800000 in
theorem over_any (B : Nat) (r x : List Int) (u v : Value) (w : World) (hu : Sl B 3 w u (ints r)) (hv : Sl B 3 w v (ints x)) (hl : r.length = x.length + 1) (hs : Sm (r.take x.length) x) (hb : (r.getD x.length 0).natAbs ≤ 1000000000000000000) :
    Calls Tryz.prog 44 #[u, v] w fun e w' => e = .returned (.int .i64 (overL r x)) ∧ ∃ n, w' = w.drewN n := by
  obtain ⟨ao, cap, huu, hlc, hcm⟩ := sl_open hu
  obtain ⟨bo, cbp, hvv, hlb, hcb⟩ := sl_open hv
  subst huu hvv
  have HU : Hid (Sl B 3 w (.slice ao r.length cap) (ints r)) := hu
  have HV : Hid (Sl B 3 w (.slice bo x.length cbp) (ints x)) := hv
  have HS : Hid (Sm (r.take x.length) x) := hs
  have hTK := Sl.take (n := x.length) hu (by omega)
  obtain ⟨b, o, cp, hs1, hc1, hcc⟩ := sl_cell hu (k := x.length) (by omega)
  simp only [Value.slice.injEq] at hs1
  obtain ⟨rfl, _, rfl⟩ := hs1
  have hD := dot_small0 hs
  have HTK : Hid (Sl B 3 w (.slice (some ⟨b, o, none⟩) x.length cap) (ints (r.take x.length))) := hTK
  have HP : Hid (∀ n, Calls Tryz.prog 64 #[.slice (some ⟨b, o, none⟩) x.length cap, .slice bo x.length cbp] (w.drewN n) fun e w' => e = .returned (.int .i64 (dotL (r.take x.length) x)) ∧ ∃ k, w' = (w.drewN n).drewN k) := fun n =>
    dotR_any B _ x _ _ _ (HTK.out.drewN n) (HV.out.drewN n) HS.out
  have HAG : Hid (overL r x = dotL (r.take x.length) x - r.getD x.length 0) := rfl
  generalize dotL (r.take x.length) x = D at *
  generalize r.getD x.length 0 = q at *
  rw [hl] at hlc
  rw [hl]
  clear hu hv hs hTK
  generalize hxl : x.length = xl at *
  have hx0 : (0 : Int) ≤ (xl : Int) := by omega
  have hx1 : (xl : Int) < (xl : Int) + 1 := by omega
  have hx2 : xl ≤ cap := by omega
  have hx3 : (xl : Int) ≤ (cap : Int) := by omega
  have hw : wrap64 (D - q) = D - q := IntWalk.wrap64_in _ ⟨by omega, by omega⟩
  have hw2 : IntKind.i64.wrap (D - q) = D - q := by rw [IntWalk.i64_left]; exact hw
  go_enter Tryz.func44, Tryz.ntmps44
  go_wp2
  go_quiet ((go_at_call 64; exact Calls.quiet_of (w := w) (HP.out _)))
  go_wp2
  go_ret
  exact ⟨ret_int (by rw [HAG.out]), _, rfl⟩

end Go.Proofs.YtkfdpcgmpbopnaaGreatDoor
