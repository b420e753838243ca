/- The program's products; points looked through for one beyond a row. -/
import Derived.Test.YtkfdpcgmpbopnaaGreatDoorDif1
import Derived.Test.YtkfdpcgmpbopnaaGreatDoorLinAll
import Derived.Test.YtkfdpcgmpbopnaaGreatDoorMade1
namespace Go.Proofs.YtkfdpcgmpbopnaaGreatDoor
open Go.RowKit
attribute [local go_sem ↓] Go.wp_at_zero Go.wp_at_succ

/-- The products, added. -/
def dotL (a x : List Int) : Int := Lin.sumN a.length fun i => a.getD i 0 * x.getD i 0

/-- Small enough that nothing passes 64 bits. -/
def Sm (a x : List Int) : Prop := a.length ≤ x.length ∧ a.length ≤ 8 ∧ (∀ z ∈ a, z.natAbs ≤ 1000000000000) ∧ ∀ z ∈ x, z.natAbs ≤ 1000

theorem mul_bd {a x : Int} (ha : a.natAbs ≤ 1000000000000) (hx : x.natAbs ≤ 1000) : (a * x).natAbs ≤ 1000000000000000 := by
  rw [Int.natAbs_mul]
  exact Nat.le_trans (Nat.mul_le_mul ha hx) (by decide)

theorem sum_sm {a x : List Int} (h : Sm a x) : ∀ k, k ≤ a.length → (Lin.sumN k fun i => a.getD i 0 * x.getD i 0).natAbs ≤ k * 1000000000000000 := by
  intro k
  induction k with
  | zero => intro _; simp [Lin.sumN]
  | succ k ih =>
    intro hk
    have h1 := ih (by omega)
    have h2 : (a.getD k 0 * x.getD k 0).natAbs ≤ 1000000000000000 := mul_bd (h.2.2.1 _ (by simp [show k < a.length by omega])) (h.2.2.2 _ (by simp [show k < x.length by have := h.1; omega]))
    simp only [Lin.sumN]
    omega

set_option maxRecDepth 100000 in
set_option maxHeartbeats 400000 in
theorem product_any (B : Nat) (a x : List Int) (u v : Value) (w : World) (hu : Sl B 3 w u (ints a)) (hv : Sl B 3 w v (ints x)) (hs : Sm a x) :
    Calls Tryz.prog 69 #[u, v] w fun e w' => e = .returned (.int .i64 (dotL a x)) ∧ ∃ n, w' = w.drewN n := by
  obtain ⟨ao, cap, hvv, hlc, hcm⟩ := sl_open hu
  obtain ⟨bo, cbp, huu, hlb, hcb⟩ := sl_open hv
  subst hvv huu
  have HU : Hid (Sl B 3 w (.slice ao a.length cap) (ints a)) := hu
  have HV : Hid (Sl B 3 w (.slice bo x.length cbp) (ints x)) := hv
  have HS : Hid (Sm a x) := hs
  have hle : a.length ≤ x.length := hs.1
  have hl8 : a.length ≤ 8 := hs.2.1
  clear hu hv hs
  go_enter Tryz.func69, Tryz.ntmps69
  go_wp2
  go_loopw [5, 9] (fun s i wr => ∃ k : Nat, k ≤ a.length ∧ i = .int .i64 k ∧ s = .int .i64 (Lin.sumN k fun i => a.getD i 0 * x.getD i 0) ∧ ∃ n, wr = w.drewN n) (fun _ i _ => a.length - (intOf i).toNat)
  case atStart => exact ⟨0, Nat.zero_le _, rfl, rfl, 0, rfl⟩
  case round =>
    obtain ⟨k, hk, rfl, rfl, n, rfl⟩ := hrel
    by_cases hlt : k < a.length
    · have hlt2 : k < x.length := by omega
      obtain ⟨b, o, cp, hs, hc1, hcc⟩ := sl_cell HU.out hlt
      simp only [Value.slice.injEq] at hs
      obtain ⟨rfl, _, rfl⟩ := hs
      obtain ⟨b2, o2, cp2, hs2, hc2, hcc2⟩ := sl_cell HV.out hlt2
      simp only [Value.slice.injEq] at hs2
      obtain ⟨rfl, _, rfl⟩ := hs2
      have h1 := sum_sm HS.out k hk
      have h2 := sum_sm HS.out (k + 1) (by omega)
      have h3 : (a.getD k 0 * x.getD k 0).natAbs ≤ 1000000000000000 := mul_bd (HS.out.2.2.1 _ (by simp [hlt])) (HS.out.2.2.2 _ (by simp [hlt2]))
      have HSU : Hid ((Lin.sumN (k + 1) fun i => a.getD i 0 * x.getD i 0) = (Lin.sumN k fun i => a.getD i 0 * x.getD i 0) + a.getD k 0 * x.getD k 0) := rfl
      rw [HSU.out] at h2
      generalize (Lin.sumN k fun i => a.getD i 0 * x.getD i 0) = S at *
      generalize a.getD k 0 = p at *
      generalize x.getD k 0 = q at *
      have e2 : wrap64 (S + wrap64 (p * q)) = S + p * q := by
        rw [IntWalk.wrap64_in (p * q) ⟨by omega, by omega⟩, IntWalk.wrap64_in _ ⟨by omega, by omega⟩]
      clear h1 h2 h3
      go_wp2
      go_quiet (fail)
      go_wp2
      go_roundw
      case rel => exact ⟨k + 1, by omega, by go_num, by rw [HSU.out, e2], _, rfl⟩
      case measure => simp [intOf]; omega
    · have hke : k = a.length := by omega
      subst hke
      go_wp2
      go_ret
      exact ⟨rfl, n, rfl⟩

end Go.Proofs.YtkfdpcgmpbopnaaGreatDoor
