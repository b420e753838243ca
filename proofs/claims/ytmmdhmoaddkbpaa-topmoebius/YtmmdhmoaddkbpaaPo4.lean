/- poset.read of an order that may be. -/
import Derived.Test.YtmmdhmoaddkbpaaPo3
namespace Go.Proofs.Ytmmdhmoaddkbpaa
open Go.RowKit
attribute [local go_sem ↓] Go.wp_at_zero Go.wp_at_succ

theorem noP_none {n : Nat} {es : List (Nat × Nat)} (h : ∀ e ∈ es, e.1 < n ∧ e.2 < n) : (npL es).any (noP (n : Int)) = false := by
  rw [List.any_eq_false]
  intro x hx
  obtain ⟨e, he, rfl⟩ := List.mem_map.1 hx
  have := h e he
  simp [noP, noB]
  omega

set_option maxRecDepth 100000 in
set_option maxHeartbeats 1600000 in
theorem read_ok (n : Nat) (es : List (Nat × Nat)) (pv : Value) (w : World) (hv : Prs w pv (npL es)) (hes : ∀ e ∈ es, e.1 < n ∧ e.2 < n) (hn1 : 1 ≤ n) (hn : n ≤ 6) (hl : es.length ≤ 36) (hi : ∀ i, i < n → (upF n es i).testBit i = false) :
    Calls Try.prog 9 #[.agg #[.int .i64 (n : Int), pv]] w fun e w' => ∃ g, e = .returned (.tuple #[.slice (some ⟨g, 0, none⟩) n n, .int .i64 0]) ∧ AbR w' g n (upF n es) ∧ Below w.heap.size w w' ∧ w.heap.size ≤ g := by
  obtain ⟨W1, hW1⟩ : ∃ W1, W1 = w.alloc (.cells #[.int .i64 (n : Int), pv] 26) := ⟨_, rfl⟩
  obtain ⟨W2, hW2⟩ : ∃ W2, W2 = W1.alloc (.cells #[noneV w.heap.size] 44) := ⟨_, rfl⟩
  have HB1 : Below w.heap.size w W1 := by rw [hW1]; exact (Below.refl _ _).alloc (Nat.le_refl _) _
  have hs1 : W1.heap.size = w.heap.size + 1 := by rw [hW1]; simp
  have HB2 : Below w.heap.size w W2 := by rw [hW2]; exact HB1.alloc (by omega) _
  have hs2 : W2.heap.size = w.heap.size + 1 + 1 := by rw [hW2]; simp [hs1]
  have d0 : W2.cell? ⟨w.heap.size, 0, none⟩ = some (.int .i64 (n : Int)) := by rw [hW2, hW1]; simp
  have d1 : W2.cell? ⟨w.heap.size, 1, none⟩ = some pv := by rw [hW2, hW1]; simp
  have d2 : W2.cell? ⟨w.heap.size + 1, 0, none⟩ = some (noneV w.heap.size) := by rw [hW2, ← hs1]; simp
  have hv2 : Prs W2 pv (npL es) := hv.below HB2 (Nat.le_refl _)
  have HCN := containsP_any n (npL es) pv w.heap.size (w.heap.size + 1) W2 hv2 (by rw [npL_len]; exact hl) d0 d2
  rw [noP_none hes] at HCN
  have HCL : Hid (∀ W3, Below W2.heap.size W2 W3 → (Calls Try.prog 14 #[.agg #[.int .i64 (n : Int), pv]] W3 fun e w' => ∃ g, e = .returned (.slice (some ⟨g, 0, none⟩) n n) ∧ AbR w' g n (upF n es) ∧ Below w.heap.size w w' ∧ w.heap.size ≤ g) ∧ W3.cell? ⟨w.heap.size, 0, none⟩ = some (.int .i64 (n : Int)) ∧ W3.cell? ⟨w.heap.size, 1, none⟩ = some pv) := fun W3 h => by
    refine ⟨(closed_any n es pv W3 (hv2.below h (Nat.le_refl _)) hes hn1 hn hl).mono ?_, (h.cell (lt_of_cell d0)).trans d0, (h.cell (lt_of_cell d1)).trans d1⟩
    rintro e w' ⟨g, h1, h2, h3, h4⟩
    have h5 := HB2.trans (h.mono (by omega))
    exact ⟨g, h1, h2, h5.trans (h3.mono h5.size), Nat.le_trans h5.size h4⟩
  have HI : Hid (∀ i, i < n → ∀ W, Calls Try.prog 15 #[.int .i64 (i : Int), .int .u64 ((upF n es i : Nat) : Int)] W fun e w' => e = .returned (.bool false) ∧ w' = W) := fun i h W => by
    have h0 := isIn_any i (upF n es i) W (by omega) (Nat.lt_of_lt_of_le (war_lt (prF_lt (n := n) (fun e he => (hes e he).2)) n i) (Nat.pow_le_pow_right (by omega) hn : 2 ^ n ≤ 2 ^ 6))
    rw [hi i h] at h0
    exact h0
  obtain ⟨po, pc, hpv, -⟩ := hv
  rw [npL_len] at hpv
  subst hpv
  clear hv2 hes hi HB1 HB2 hs2 d0 d1 d2
  have e2 : noneV w.heap.size = .func (.func 11) #[] #[.pointer (some ⟨w.heap.size, 0, none⟩)] := rfl
  rw [e2, hW1] at hW2
  clear hW1 e2 hs1
  have nI1 : ¬ (n : Int) < 1 := by omega
  have nI6 : ¬ 6 < (n : Int) := by omega
  have lI : ¬ 36 < (es.length : Int) := by omega
  go_enter Try.func9, Try.ntmps9
  go_wp2_with fail
  try rw [← hW2]
  refine HCN.mono ?_
  rintro e w3 ⟨rfl, hb3⟩
  obtain ⟨HC, c0, c1⟩ := HCL.out w3 hb3
  clear HCN HCL hb3 hW2
  go_wp2_with fail
  refine HC.mono ?_
  rintro e w4 ⟨g, rfl, ha, hb4, hg⟩
  have HA : Hid (AbR w4 g n (upF n es)) := ha
  have HB : Hid (Below w.heap.size w w4) := hb4
  clear ha hb4 HC c0 c1
  go_wp2
  go_loop [28] (fun iv => ∃ i : Nat, i ≤ n ∧ iv = .int .i64 (i : Int)) (fun iv => n - (intOf iv).toNat)
  case atStart => exact ⟨0, Nat.zero_le _, rfl⟩
  case round =>
    obtain ⟨i, hi, rfl⟩ := hrel
    by_cases hlt : i < n
    · have c := HA.out.cell hlt
      have HIX := HI.out i hlt
      generalize upF n es i = x at *
      have kI : (i : Int) < (n : Int) := by omega
      have kI0 : (0 : Int) ≤ (i : Int) := by omega
      go_wp2_with fail
      refine (HIX _).mono ?_
      rintro e w5 ⟨rfl, hw⟩
      subst hw
      go_wp2
      go_round
      case rel => exact ⟨i + 1, by omega, by go_num⟩
      case measure => simp [intOf]; omega
    · have hie : i = n := by omega
      subst hie
      go_wp2
      go_ret2
      exact ⟨g, rfl, HA.out, HB.out, hg⟩

end Go.Proofs.Ytmmdhmoaddkbpaa
