/- facetref.Lesser, facetref.MinorOf. -/
import Derived.Test.YtehklbekaflokaaDoorMsB
import Derived.Test.YtehklbekaflokaaDoorRd2
namespace Go.Proofs.YtehklbekaflokaaDoor
open Go.RowKit
attribute [local go_sem ↓] Go.wp_at_zero Go.wp_at_succ

theorem lesTo_bd : ∀ s, s < 256 → ∀ i, i < 8 → ∀ k, k ≤ 8 → lesTo i ((mem8 s).take k) < 256 := by decide +kernel

set_option maxRecDepth 100000 in
set_option maxHeartbeats 1600000 in
theorem lesser_any (s i : Nat) (w : World) (hs : s < 256) (hi : i < 8) :
    Calls Tryd.prog 31 #[.int .i64 s, .int .i64 i] w fun e w' => e = .returned (.int .i64 (lesN s i)) ∧ Below w.heap.size w w' := by
  have HMM : Hid (Calls Tryd.prog 24 #[.int .i64 s] w fun e w' => ∃ u, e = .returned u ∧ w'.ownsRow w.heap.size 3 1 u (mem8 s).length (ints (mem8 s)) ∧ Below w.heap.size w w') := members8_any s w hs
  have hm8 := mem8_len s
  go_enter Tryd.func31, Tryd.ntmps31
  go_wp2_with fail
  refine HMM.out.mono ?_
  rintro e w3 ⟨mv, rfl, hmo, hb3⟩
  obtain ⟨mo, mc, hmv⟩ := owns_form hmo
  subst hmv
  have HM3 : Hid (Sl 0 3 w3 (.slice mo (mem8 s).length mc) (ints (mem8 s))) := Sl.own hmo
  have HB3 : Hid (Below w.heap.size w w3) := hb3
  clear hmo hb3 HMM
  go_wp2
  go_loopw [6, 7] (fun tv iv wq => ∃ k : Nat, k ≤ (mem8 s).length ∧ iv = .int .i64 k ∧ tv = .int .i64 (lesTo i ((mem8 s).take k)) ∧ wq = w3) (fun _ iv _ => (mem8 s).length - (intOf iv).toNat)
  case atStart => exact ⟨0, Nat.zero_le _, rfl, rfl, rfl⟩
  case round =>
    obtain ⟨k, hk, rfl, rfl, rfl⟩ := hrel
    by_cases hin : k < (mem8 s).length
    · obtain ⟨gb, gq, gcc, hsl, _, hcc⟩ := sl_cell HM3.out hin
      simp only [Value.slice.injEq] at hsl
      obtain ⟨rfl, -, rfl⟩ := hsl
      obtain ⟨x, hx8, hxb, hx⟩ := mem8_iff.1 (show (mem8 s).getD k 0 ∈ mem8 s by simp [hin])
      rw [← hx] at hcc
      have HSN : Hid (lesTo i ((mem8 s).take (k + 1)) = lesTo i ((mem8 s).take k) + (if x < i then 2 ^ x else if i < x then 2 ^ (x - 1) else 0)) := by
        show _ = _
        rw [List.take_succ_eq_append_getElem hin, lesTo_snoc]
        have : (mem8 s)[k] = (x : Int) := by rw [hx]; simp [hin]
        rw [this, Int.toNat_natCast]
      have hbd := lesTo_bd s hs i hi (k + 1) (by omega)
      rw [HSN.out] at hbd
      have kI : (k : Int) < ((mem8 s).length : Int) := by omega
      have kI0 : (0 : Int) ≤ (k : Int) := by omega
      clear hx hxb
      generalize lesTo i ((mem8 s).take k) = T at *
      by_cases h1 : x < i
      · have q1 : decide ((x : Int) < (i : Int)) = true := decide_eq_true (by omega)
        have q1' : decide (x < i) = true := decide_eq_true (by omega)
        have q2 : decide ((i : Int) < (x : Int)) = false := decide_eq_false (by omega)
        have q2' : decide (i < x) = false := decide_eq_false (by omega)
        rw [if_pos h1] at HSN hbd
        obtain ⟨pw, hpw⟩ : ∃ pw : Nat, pw = 2 ^ x := ⟨_, rfl⟩
        have hpI : (2 : Int) ^ x = (pw : Int) := by rw [hpw]; simp
        rw [← hpw] at HSN hbd
        have q3 : IntKind.i64.wrap (pw : Int) = (pw : Int) := wrap_small (by omega)
        clear hpw h1
        go_wp2
        go_roundw
        case rel => exact ⟨k + 1, by omega, by go_num, by rw [HSN.out]; first | rfl | go_num, trivial⟩
        case measure => simp [intOf]; omega
      · have q1 : decide ((x : Int) < (i : Int)) = false := decide_eq_false (by omega)
        have q1' : decide (x < i) = false := decide_eq_false (by omega)
        rw [if_neg h1] at HSN hbd
        by_cases h2 : i < x
        · have q2 : decide ((i : Int) < (x : Int)) = true := decide_eq_true (by omega)
          have q2' : decide (i < x) = true := decide_eq_true (by omega)
          rw [if_pos h2] at HSN hbd
          obtain ⟨y, hy⟩ : ∃ y : Nat, y = x - 1 := ⟨_, rfl⟩
          have q4 : IntKind.i64.wrap ((x : Int) - 1) = (y : Int) := by rw [show (x : Int) - 1 = (y : Int) by omega]; exact wrap_small (by omega)
          rw [← hy] at HSN hbd
          obtain ⟨pw, hpw⟩ : ∃ pw : Nat, pw = 2 ^ y := ⟨_, rfl⟩
          have hpI : (2 : Int) ^ y = (pw : Int) := by rw [hpw]; simp
          rw [← hpw] at HSN hbd
          have q3 : IntKind.i64.wrap (pw : Int) = (pw : Int) := wrap_small (by omega)
          have hxy : (x : Int) - 1 = (y : Int) := by omega
          have hy0 : (0 : Int) ≤ (y : Int) := by omega
          clear hpw h1 h2 hy
          go_wp2
          go_roundw
          case rel => exact ⟨k + 1, by omega, by go_num, by rw [HSN.out]; first | rfl | go_num, trivial⟩
          case measure => simp [intOf]; omega
        · have q2 : decide ((i : Int) < (x : Int)) = false := decide_eq_false (by omega)
          have q2' : decide (i < x) = false := decide_eq_false (by omega)
          rw [if_neg h2, Nat.add_zero] at HSN hbd
          clear h1 h2
          go_wp2
          go_roundw
          case rel => exact ⟨k + 1, by omega, by go_num, by rw [HSN.out]; rfl, trivial⟩
          case measure => simp [intOf]; omega
    · have hke : k = (mem8 s).length := by omega
      subst hke
      have HF : Hid (lesTo i ((mem8 s).take (mem8 s).length) = lesN s i) := by rw [List.take_length]; exact lesTo_full s hs i hi
      go_wp2
      go_ret
      exact ⟨by rw [HF.out]; rfl, HB3.out⟩

end Go.Proofs.YtehklbekaflokaaDoor
