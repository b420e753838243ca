/- facetref.Set, facetref.pulled: the document's cells. -/
import Derived.Test.YtopjjhejjjchpaaDoorGA
import Derived.Test.YtopjjhejjjchpaaDoorRgA
import Derived.Test.YtopjjhejjjchpaaDoorDiY
import Derived.Test.YtopjjhejjjchpaaDoorShY
import Derived.Test.YtopjjhejjjchpaaDoorRefA
namespace Go.Proofs.YtopjjhejjjchpaaDoor
open Go.RowKit Lin
attribute [local go_sem ↓] Go.wp_at_zero Go.wp_at_succ

theorem setN_ltn {n : Nat} : ∀ l : List Int, (∀ x ∈ l, 0 ≤ x ∧ x < (n : Int)) → setN l < 2 ^ n
  | [], _ => by simp [setN]; exact Nat.pow_pos (by decide)
  | v :: l, h => by
    have h1 := h v (by simp)
    unfold setN
    exact Nat.or_lt_two_pow (Nat.pow_lt_pow_right (by decide) (by omega)) (setN_ltn l fun x hx => h x (by simp [hx]))

set_option maxRecDepth 100000 in
set_option maxHeartbeats 800000 in
theorem setR_any (B : Nat) (l : List Int) (v : Value) (w : World) (hv : Sl B 3 w v (ints l)) (hb : ∀ x ∈ l, 0 ≤ x ∧ x < (10 : Int)) :
    Calls Tryd.prog 7 #[v] w fun e w' => e = .returned (.int .i64 (setN l : Nat)) ∧ w' = w := by
  obtain ⟨ao, cap, hvv, hlc, hcm⟩ := sl_open hv
  subst hvv
  have HV : Hid (Sl B 3 w (.slice ao l.length cap) (ints l)) := hv
  have HX : Hid (∀ x ∈ l, 0 ≤ x ∧ x < (10 : Int)) := hb
  clear hv hb
  go_enter Tryd.func7, Tryd.ntmps7
  go_wp2
  go_loopw [3, 4] (fun sv iv wr => ∃ k : Nat, k ≤ l.length ∧ iv = .int .i64 (k : Int) ∧ sv = .int .i64 ((setN (l.take k) : Nat) : Int) ∧ wr = w) (fun _ iv _ => l.length - (intOf iv).toNat)
  case atStart => exact ⟨0, Nat.zero_le _, rfl, by simp [setN], rfl⟩
  case round =>
    obtain ⟨k, hk, rfl, rfl, rfl⟩ := hrel
    by_cases hlt : k < l.length
    · obtain ⟨b, o, cp, hs, _, hcc⟩ := sl_cell HV.out hlt
      simp only [Value.slice.injEq, true_and] at hs
      obtain ⟨rfl, rfl⟩ := hs
      have hm : l.getD k 0 ∈ l := getD_mem hlt
      have hx := HX.out _ hm
      have hS : setN (l.take k) < 2 ^ 10 := setN_ltn _ fun x hx => HX.out x (List.mem_of_mem_take hx)
      have hsu : setN (l.take (k + 1)) = setN (l.take k) ||| 2 ^ (l.getD k 0).toNat := by
        rw [List.take_succ_eq_append_getElem hlt, setN_app]
        congr 2
        simp [hlt]
      obtain ⟨j, hj⟩ : ∃ j : Nat, l.getD k 0 = (j : Int) := ⟨(l.getD k 0).toNat, by omega⟩
      rw [hj] at hcc hx hsu
      rw [Int.toNat_natCast] at hsu
      have hj10 : j < 10 := by omega
      have hpj : 2 ^ j < 2 ^ 10 := Nat.pow_lt_pow_right (by decide) hj10
      have HBT : Hid (bits .or .i64 (setN (l.take k) : Int) (wrap64 ((2 : Int) ^ j)) = (setN (l.take (k + 1)) : Int)) := by
        have e : ((2 : Int) ^ j) = ((2 ^ j : Nat) : Int) := by simp
        show bits .or .i64 (setN (l.take k) : Int) (wrap64 ((2 : Int) ^ j)) = (setN (l.take (k + 1)) : Int)
        rw [hsu, e]
        generalize 2 ^ j = q at *
        rw [IntWalk.wrap64_in (q : Int) ⟨by omega, by omega⟩]
        exact bits_or_i64_nat _ q (by omega) (by omega)
      have hkI : (k : Int) < (l.length : Int) := by omega
      have hj0 : (0 : Int) ≤ (j : Int) := by omega
      clear hm hj hS hsu hpj
      generalize setN (l.take k) = S at *
      obtain ⟨S1, hS1⟩ : ∃ S1, S1 = setN (l.take (k + 1)) := ⟨_, rfl⟩
      have HS1 : Hid (S1 = setN (l.take (k + 1))) := hS1
      rw [← hS1] at HBT
      clear hS1
      go_wp2
      exact ⟨⟨k + 1, by omega, by go_num, by rw [HBT.out, HS1.out], by first | rfl | trivial⟩, by simp [intOf]; omega⟩
    · have hke : l.take k = l := List.take_of_length_le (by omega)
      rw [hke]
      go_wp2
      go_ret
      exact ⟨rfl, rfl⟩

end Go.Proofs.YtopjjhejjjchpaaDoor
