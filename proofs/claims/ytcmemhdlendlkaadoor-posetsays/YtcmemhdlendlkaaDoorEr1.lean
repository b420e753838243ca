/- poset.read of an order that may not be. -/
import Derived.Test.YtcmemhdlendlkaaDoorPoB
namespace Go.Proofs.YtcmemhdlendlkaaDoor
open Go.RowKit
attribute [local go_sem ↓] Go.wp_at_zero Go.wp_at_succ

/-- Pairs of numbers, as things. -/
def toNp (zs : List (Int × Int)) : List (Nat × Nat) := zs.map fun e => (e.1.toNat, e.2.toNat)

/-- What is wrong with an order. -/
def rdE (N : Int) (zs : List (Int × Int)) : Int :=
  if N < 1 ∨ 6 < N then 11 else if 36 < zs.length then 2 else if zs.any (noP N) then 9 else if (List.range N.toNat).any (fun i => (upF N.toNat (toNp zs) i).testBit i) then 3 else 0

theorem np_back {n : Nat} {zs : List (Int × Int)} (h : zs.any (noP (n : Int)) = false) : npL (toNp zs) = zs ∧ ∀ e ∈ toNp zs, e.1 < n ∧ e.2 < n := by
  rw [List.any_eq_false] at h
  have h2 : ∀ e ∈ zs, 0 ≤ e.1 ∧ e.1 < n ∧ 0 ≤ e.2 ∧ e.2 < n := fun e he => by
    have := h e he
    simp [noP, noB] at this
    omega
  refine ⟨?_, fun e he => ?_⟩
  · unfold npL toNp
    rw [List.map_map]
    conv => rhs; rw [← List.map_id zs]
    refine List.map_congr_left fun e he => ?_
    have := h2 e he
    simp
    refine Prod.ext ?_ ?_
    · simp; omega
    · simp; omega
  · unfold toNp at he
    obtain ⟨x, hx, rfl⟩ := List.mem_map.1 he
    have := h2 x hx
    simp
    omega

/-- Nothing wrong: an order that may be. -/
theorem rdE_ok {N : Int} {zs : List (Int × Int)} (h : rdE N zs = 0) : ∃ n : Nat, N = (n : Int) ∧ npL (toNp zs) = zs ∧ GdO n (toNp zs) := by
  unfold rdE at h
  split at h
  · omega
  · rename_i h1
    split at h
    · omega
    · rename_i h2
      split at h
      · omega
      · rename_i h3
        split at h
        · omega
        · rename_i h4
          refine ⟨N.toNat, by omega, ?_⟩
          have hN : ((N.toNat : Nat) : Int) = N := by omega
          have h5 : zs.any (noP ((N.toNat : Nat) : Int)) = false := by
            rw [hN]
            cases hz : zs.any (noP N)
            · rfl
            · exact absurd hz h3
          obtain ⟨k1, k2⟩ := np_back h5
          refine ⟨k1, by omega, by omega, by simp [toNp]; omega, k2, fun i hi => ?_⟩
          cases hb : (upF N.toNat (toNp zs) i).testBit i
          · rfl
          · exact absurd (List.any_eq_true.2 ⟨i, List.mem_range.2 hi, hb⟩ : (List.range N.toNat).any (fun i => (upF N.toNat (toNp zs) i).testBit i) = true) h4

set_option maxRecDepth 100000 in
set_option maxHeartbeats 1600000 in
theorem read_no (N : Int) (zs : List (Int × Int)) (pv : Value) (w : World) (hv : Prs w pv zs) (hE : ¬ rdE N zs = 0) (hl : zs.length ≤ 100) :
    Calls Tryd.prog 27 #[.agg #[.int .i64 N, pv]] w fun e w' => e = .returned (.tuple #[.slice none 0 0, .int .i64 (rdE N zs)]) ∧ Below w.heap.size w w' := by
  obtain ⟨W1, hW1⟩ : ∃ W1, W1 = w.alloc (.cells #[.int .i64 N, pv] 24) := ⟨_, rfl⟩
  have HB1 : Below w.heap.size w W1 := by rw [hW1]; exact (Below.refl _ _).alloc (Nat.le_refl _) _
  by_cases h1 : N < 1
  · have e : rdE N zs = 11 := by rw [rdE, if_pos (.inl h1)]
    rw [e]
    obtain ⟨po, pc, hpv, -⟩ := hv
    subst hpv
    clear hE
    have HB : Hid (Below w.heap.size w (w.alloc (.cells #[.int .i64 N, .slice po zs.length pc] 24))) := (Below.refl _ _).alloc (Nat.le_refl _) _
    clear hW1 HB1
    go_enter Tryd.func27, Tryd.ntmps27
    go_wp2
    go_ret2
    exact ⟨rfl, HB.out⟩
  by_cases h6 : 6 < N
  · have e : rdE N zs = 11 := by rw [rdE, if_pos (.inr h6)]
    rw [e]
    obtain ⟨po, pc, hpv, -⟩ := hv
    subst hpv
    clear hE
    have HB : Hid (Below w.heap.size w (w.alloc (.cells #[.int .i64 N, .slice po zs.length pc] 24))) := (Below.refl _ _).alloc (Nat.le_refl _) _
    clear hW1 HB1
    go_enter Tryd.func27, Tryd.ntmps27
    go_wp2
    go_ret2
    exact ⟨rfl, HB.out⟩
  by_cases h36 : 36 < zs.length
  · have e : rdE N zs = 2 := by rw [rdE, if_neg (by omega), if_pos h36]
    rw [e]
    obtain ⟨po, pc, hpv, -⟩ := hv
    subst hpv
    clear hE
    have l36 : 36 < (zs.length : Int) := by omega
    have HB : Hid (Below w.heap.size w (w.alloc (.cells #[.int .i64 N, .slice po zs.length pc] 24))) := (Below.refl _ _).alloc (Nat.le_refl _) _
    clear hW1 HB1
    go_enter Tryd.func27, Tryd.ntmps27
    go_wp2
    go_ret2
    exact ⟨rfl, HB.out⟩
  obtain ⟨n, hn⟩ : ∃ n : Nat, N = (n : Int) := ⟨N.toNat, by omega⟩
  subst hn
  obtain ⟨W2, hW2⟩ : ∃ W2, W2 = W1.alloc (.cells #[noneV w.heap.size] 68) := ⟨_, rfl⟩
  have hs1 : W1.heap.size = w.heap.size + 1 := by rw [hW1]; simp
  have HB2 : Below w.heap.size w W2 := by rw [hW2]; exact HB1.alloc (by omega) _
  have hs2 : W2.heap.size = w.heap.size + 1 + 1 := by rw [hW2]; simp [hs1]
  have d0 : W2.cell? ⟨w.heap.size, 0, none⟩ = some (.int .i64 (n : Int)) := by rw [hW2, hW1]; simp
  have d1 : W2.cell? ⟨w.heap.size, 1, none⟩ = some pv := by rw [hW2, hW1]; simp
  have d2 : W2.cell? ⟨w.heap.size + 1, 0, none⟩ = some (noneV w.heap.size) := by rw [hW2, ← hs1]; simp
  have hv2 : Prs W2 pv zs := hv.below HB2 (Nat.le_refl _)
  have HCN := containsP_any n zs pv w.heap.size (w.heap.size + 1) W2 hv2 (by omega) d0 d2
  have nI1 : ¬ (n : Int) < 1 := by omega
  have nI6 : ¬ 6 < (n : Int) := by omega
  have lI : ¬ 36 < (zs.length : Int) := by omega
  have e2 : noneV w.heap.size = .func (.func 40) #[] #[.pointer (some ⟨w.heap.size, 0, none⟩)] := rfl
  cases hp : zs.any (noP (n : Int))
  · obtain ⟨k1, k2⟩ := np_back hp
    have e : rdE n zs = 3 ∧ ∃ i, i < n ∧ (upF n (toNp zs) i).testBit i = true := by
      have h0 := hE
      unfold rdE at h0 ⊢
      rw [if_neg (by omega), if_neg h36, hp, Int.toNat_natCast] at h0 ⊢
      simp only [Bool.false_eq_true, if_false] at h0 ⊢
      by_cases ha : (List.range n).any (fun i => (upF n (toNp zs) i).testBit i) = true
      · rw [if_pos ha]
        obtain ⟨i, hi, hb⟩ := List.any_eq_true.1 ha
        exact ⟨rfl, i, List.mem_range.1 hi, hb⟩
      · rw [if_neg ha] at h0
        exact absurd rfl h0
    obtain ⟨e3, iw, hiw, hbw⟩ := e
    rw [e3]
    rw [hp] at HCN
    have hv3 : Prs W2 pv (npL (toNp zs)) := by rw [k1]; exact hv2
    have HCL : Hid (∀ W3, Below W2.heap.size W2 W3 → (Calls Tryd.prog 43 #[.agg #[.int .i64 (n : Int), pv]] W3 fun e w' => ∃ g, e = .returned (.slice (some ⟨g, 0, none⟩) n n) ∧ AbR w' g n (upF n (toNp zs)) ∧ Below w.heap.size w w') ∧ W3.cell? ⟨w.heap.size, 0, none⟩ = some (.int .i64 (n : Int)) ∧ W3.cell? ⟨w.heap.size, 1, none⟩ = some pv) := fun W3 h => by
      refine ⟨(closed_any n (toNp zs) pv W3 (hv3.below h (Nat.le_refl _)) k2 (by omega) (by omega) (by simp [toNp]; omega)).mono ?_, (h.cell (lt_of_cell d0)).trans d0, (h.cell (lt_of_cell d1)).trans d1⟩
      rintro e w' ⟨g, h1, h2, h3, h4⟩
      have h5 := HB2.trans (h.mono (by omega))
      exact ⟨g, h1, h2, h5.trans (h3.mono h5.size)⟩
    have HI : Hid (∀ i, i < n → ∀ W, Calls Tryd.prog 44 #[.int .i64 (i : Int), .int .u64 ((upF n (toNp zs) i : Nat) : Int)] W fun e w' => e = .returned (.bool ((upF n (toNp zs) i).testBit i)) ∧ w' = W) := fun i h W => isIn_any i _ W (by omega) (Nat.lt_of_lt_of_le (war_lt (prF_lt (n := n) (fun e he => (k2 e he).2)) n i) (Nat.pow_le_pow_right (by omega) (by omega : n ≤ 6) : 2 ^ n ≤ 2 ^ 6))
    have HBW : Hid (∃ i, i < n ∧ (upF n (toNp zs) i).testBit i = true) := ⟨iw, hiw, hbw⟩
    obtain ⟨po, pc, hpv, -⟩ := hv
    subst hpv
    clear hv2 hv3 HB1 HB2 hs2 d0 d1 d2 hE k1 k2 hbw hiw e3 hp
    rw [e2, hW1] at hW2
    clear hW1 e2 hs1
    go_enter Tryd.func27, Tryd.ntmps27
    go_wp2_with fail
    try rw [← hW2]
    refine HCN.mono ?_
    rintro e w3 ⟨rfl, hb3⟩
    obtain ⟨HC, c0, c1⟩ := HCL.out w3 hb3
    clear HCN HCL hb3 hW2
    go_wp2_with fail
    refine HC.mono ?_
    rintro e w4 ⟨g, rfl, ha, hb4⟩
    have HA : Hid (AbR w4 g n (upF n (toNp zs))) := ha
    have HB : Hid (Below w.heap.size w w4) := hb4
    clear ha hb4 HC c0 c1
    go_wp2
    go_loop [28] (fun iv => ∃ i : Nat, i ≤ n ∧ iv = .int .i64 (i : Int) ∧ ∀ j, j < i → (upF n (toNp zs) j).testBit j = false) (fun iv => n - (intOf iv).toNat)
    case atStart => exact ⟨0, Nat.zero_le _, rfl, fun j hj => by omega⟩
    case round =>
      obtain ⟨i, hi, rfl, hno⟩ := hrel
      have HNO : Hid (∀ j, j < i → (upF n (toNp zs) j).testBit j = false) := hno
      clear hno
      by_cases hlt : i < n
      · have c := HA.out.cell hlt
        have HIX := HI.out i hlt
        have HNX : Hid ((upF n (toNp zs) i).testBit i = false → ∀ j, j < i + 1 → (upF n (toNp zs) j).testBit j = false) := fun h j hj => by
          by_cases e : j = i
          · subst e; exact h
          · exact HNO.out j (by omega)
        generalize (upF n (toNp zs) i).testBit i = tb at *
        generalize upF n (toNp zs) i = x at *
        have kI : (i : Int) < (n : Int) := by omega
        have kI0 : (0 : Int) ≤ (i : Int) := by omega
        cases tb
        · have HN2 : Hid (∀ j, j < i + 1 → (upF n (toNp zs) j).testBit j = false) := HNX.out rfl
          clear HNX
          go_wp2_with fail
          refine (HIX _).mono ?_
          rintro e w5 ⟨rfl, hw⟩
          subst hw
          go_wp2
          go_round
          case rel => exact ⟨i + 1, by omega, by go_num, HN2.out⟩
          case measure => simp [intOf]; omega
        · clear HNX
          go_wp2_with fail
          refine (HIX _).mono ?_
          rintro e w5 ⟨rfl, hw⟩
          subst hw
          go_wp2
          go_ret2
          exact ⟨rfl, HB.out⟩
      · exfalso
        obtain ⟨j, hj, hb⟩ := HBW.out
        rw [HNO.out j (by omega)] at hb
        cases hb
  · have e : rdE n zs = 9 := by rw [rdE, if_neg (by omega), if_neg h36, if_pos hp]
    rw [e]
    rw [hp] at HCN
    obtain ⟨po, pc, hpv, -⟩ := hv
    subst hpv
    have HBX : Hid (∀ W3, Below W2.heap.size W2 W3 → Below w.heap.size w W3) := fun W3 h => HB2.trans (h.mono (by omega))
    clear hv2 HB1 HB2 hs2 d0 d1 d2 hE hp e
    rw [e2, hW1] at hW2
    clear hW1 e2 hs1
    go_enter Tryd.func27, Tryd.ntmps27
    go_wp2_with fail
    try rw [← hW2]
    refine HCN.mono ?_
    rintro e w3 ⟨rfl, hb3⟩
    have HB : Hid (Below w.heap.size w w3) := HBX.out w3 hb3
    clear HCN hb3 hW2 HBX
    go_wp2
    go_ret2
    exact ⟨rfl, HB.out⟩

end Go.Proofs.YtcmemhdlendlkaaDoor
