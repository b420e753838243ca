/- facetref.Value: a polynomial at a number. -/
import Derived.Test.YtmljnfgfjcjmmaaDatA
import Derived.Test.YtmljnfgfjcjmmaaLinAll
import Derived.Test.YtmljnfgfjcjmmaaRefs
namespace Go.Proofs.Ytmljnfgfjcjmmaa
open Go.RowKit Lin

def hor (x : Int) : List Int → Int
  | [] => 0
  | a :: l => hor x l * x + a

theorem hor_sum (x : Int) : ∀ l : List Int, hor x l = sumN l.length fun j => l.getD j 0 * x ^ j
  | [] => rfl
  | a :: l => by
    have hsh : ∀ (n : Nat) (f : Nat → Int), sumN (n + 1) f = f 0 + sumN n fun i => f (i + 1) := by
      intro n f
      induction n with
      | zero => simp [sumN]
      | succ n ih =>
        rw [sumN, ih]
        conv => rhs; rw [sumN]
        omega
    rw [hor, hor_sum x l, List.length_cons, hsh, ← sumN_mul_right]
    have : (sumN l.length fun i => l.getD i 0 * x ^ i * x) = sumN l.length fun i => (a :: l).getD (i + 1) 0 * x ^ (i + 1) := sumN_congr fun i _ => by
      rw [List.getD_cons_succ, Int.pow_succ]
      grind
    rw [this]
    simp
    omega

theorem hor_abs {x : Int} (hx : x.natAbs ≤ 1000) : ∀ l : List Int, (∀ z ∈ l, z.natAbs ≤ 100000) → (hor x l).natAbs ≤ 100000 * 1001 ^ l.length
  | [], _ => by simp [hor]
  | a :: l, h => by
    have h1 := hor_abs hx l fun z hz => h z (List.mem_cons_of_mem _ hz)
    have h2 := h a (by simp)
    have h3 : (hor x l * x).natAbs ≤ (100000 * 1001 ^ l.length) * 1000 := by rw [Int.natAbs_mul]; exact Nat.mul_le_mul h1 hx
    have h4 : 1 ≤ 1001 ^ l.length := Nat.pow_pos (by decide)
    rw [hor, List.length_cons, Nat.pow_succ]
    omega

theorem hor_step (x : Int) (l : List Int) {k : Nat} (hk : k < l.length) : hor x (l.drop (l.length - (k + 1))) = hor x (l.drop (l.length - k)) * x + l.getD (l.length - 1 - k) 0 := by
  have e : l.drop (l.length - (k + 1)) = l.getD (l.length - 1 - k) 0 :: l.drop (l.length - k) := by
    rw [List.drop_eq_getElem_cons (by omega)]
    congr 1
    · simp [show l.length - 1 - k < l.length by omega, show l.length - (k + 1) = l.length - 1 - k by omega]
    · congr 1
      omega
  rw [e]; rfl

set_option maxRecDepth 100000 in
set_option maxHeartbeats 800000 in
theorem value_any (B : Nat) (l : List Int) (x : Int) (v : Value) (w : World) (hv : Sl B 3 w v (ints l)) (hl : l.length ≤ 4) (hb : ∀ z ∈ l, z.natAbs ≤ 100000) (hx : x.natAbs ≤ 1000) :
    Calls Try.prog 11 #[v, .int .i64 x] w fun e w' => e = .returned (.int .i64 (hor x l)) ∧ w' = w := by
  obtain ⟨ao, cap, rfl, hlc, hcm⟩ := sl_open hv
  have HV : Hid (Sl B 3 w (.slice ao l.length cap) (ints l)) := hv
  have HAB : Hid (∀ k, k ≤ l.length → (hor x (l.drop (l.length - k))).natAbs ≤ 200000000000000000) := fun k hk => by
    have h1 := hor_abs hx (l.drop (l.length - k)) fun z hz => hb z (List.mem_of_mem_drop hz)
    have h2 : (l.drop (l.length - k)).length = k := by rw [List.length_drop]; omega
    rw [h2] at h1
    have h3 : 1001 ^ k ≤ 1001 ^ 4 := Nat.pow_le_pow_right (by decide) (by omega)
    have h4 : (1001 : Nat) ^ 4 ≤ 1004006004001 := by decide
    show _ ≤ _
    omega
  have HB : Hid (∀ z ∈ l, z.natAbs ≤ 100000) := hb
  clear hv hb
  go_enter Try.func11, Try.ntmps11
  go_wp2
  go_loopw [5, 6] (fun s i wr => ∃ k : Nat, k ≤ l.length ∧ i = .int .i64 ((l.length : Int) - 1 - (k : Int)) ∧ s = .int .i64 (hor x (l.drop (l.length - k))) ∧ wr = w) (fun _ i _ => (intOf i + 1).toNat)
  case atStart => exact ⟨0, Nat.zero_le _, by simp, by simp [hor], rfl⟩
  case round =>
    obtain ⟨k, hk, rfl, rfl, hw⟩ := hrel
    subst hw
    by_cases hlt : k < l.length
    · obtain ⟨j, hj⟩ : ∃ j : Nat, j = l.length - 1 - k := ⟨_, rfl⟩
      have hjI : (l.length : Int) - 1 - (k : Int) = (j : Int) := by omega
      have hjl : j < l.length := by omega
      obtain ⟨b, o, cp, hs, hc1, hcc⟩ := sl_cell HV.out hjl
      simp only [Value.slice.injEq] at hs
      obtain ⟨rfl, _, rfl⟩ := hs
      have HS := hor_step x l hlt
      rw [← hj] at HS
      have h1 := HAB.out k hk
      have h2 := HAB.out (k + 1) (by omega)
      have h3 := HB.out (l.getD j 0) (by simp [hjl])
      rw [HS] at h2
      have HSS : Hid (hor x (l.drop (l.length - (k + 1))) = hor x (l.drop (l.length - k)) * x + l.getD j 0) := HS
      generalize hor x (l.drop (l.length - k)) = S at *
      generalize l.getD j 0 = z at *
      have hp : wrap64 (S * x) = S * x := IntWalk.wrap64_in _ ⟨by omega, by omega⟩
      have hq : wrap64 (S * x + z) = S * x + z := IntWalk.wrap64_in _ ⟨by omega, by omega⟩
      have hjI2 : (j : Int) < (l.length : Int) := by omega
      have HJJ : Hid ((l.length : Int) - 1 - ((k + 1 : Nat) : Int) = (j : Int) - 1) := by show _ = _; omega
      rw [hjI]
      clear hj hjI HS h1 h2 h3
      have HQ : Hid (wrap64 (S * x + z) = S * x + z) := hq
      have HKM : Hid (k + 1 ≤ l.length) := hlt
      go_wp2
      exact ⟨⟨k + 1, HKM.out, by rw [HJJ.out], by rw [HQ.out, HSS.out], trivial⟩, by simp [intOf]⟩
    · have hke : k = l.length := by omega
      subst hke
      have hj1 : (l.length : Int) - 1 - (l.length : Int) = -1 := by omega
      have HE : Hid (l.drop (l.length - l.length) = l) := by
        show _ = _
        rw [Nat.sub_self, List.drop_zero]
      rw [HE.out, hj1]
      clear hj1
      go_wp2
      go_ret
      exact ⟨rfl, rfl⟩

end Go.Proofs.Ytmljnfgfjcjmmaa
