/- matroid.rankOf, matroid.Rank. -/
import Derived.Test.YtehklbekaflokaaDoorMs0
import Derived.Test.YtehklbekaflokaaDoorMtB
namespace Go.Proofs.YtehklbekaflokaaDoor
open Go.RowKit
attribute [local go_sem ↓] Go.wp_at_zero Go.wp_at_succ

set_option maxRecDepth 100000 in
set_option maxHeartbeats 800000 in
theorem rankOf_any (N : Int) (bs : List Int) (s : Nat) (v : Value) (w : World) (hv : Sl w.heap.size 3 w v (ints bs)) (h8 : B8 bs) (hs : s < 256) :
    Calls Tryd.prog 32 #[.agg #[.int .i64 N, v], .int .u64 s] w fun e w' => e = .returned (.int .i64 (rkN bs s)) ∧ Below w.heap.size w w' := by
  obtain ⟨ao, cap, hvv, hlc, hcm⟩ := sl_open hv
  subst hvv
  obtain ⟨W, hW⟩ : ∃ W, W = w.alloc (.cells #[.int .i64 N, .slice ao bs.length cap] 24) := ⟨_, rfl⟩
  have HBA : Hid (Below w.heap.size w W) := by rw [hW]; exact (Below.refl _ _).alloc (Nat.le_refl _) _
  have c1 : W.cell? ⟨w.heap.size, 1, none⟩ = some (.slice ao bs.length cap) := by rw [hW]; simp
  have HV : Hid (Sl w.heap.size 3 W (.slice ao bs.length cap) (ints bs)) := hv.below HBA.out (Nat.le_refl _)
  have H8 : Hid (B8 bs) := h8
  clear hv h8
  go_enter Tryd.func32, Tryd.ntmps32
  go_wp2
  rw [← hW]
  clear hW
  go_loopw [5, 7, 11] (fun b _ i wr => ∃ k : Nat, k ≤ bs.length ∧ i = .int .i64 k ∧ b = .int .i64 (rkTo bs s k) ∧ wr = W) (fun _ _ i _ => bs.length - (intOf i).toNat)
  case atStart => exact ⟨0, Nat.zero_le _, rfl, rfl, rfl⟩
  case round =>
    obtain ⟨k, hk, rfl, rfl, rfl⟩ := hrel
    by_cases hlt : k < bs.length
    · obtain ⟨gb, gq, gcc, hsl, _, hcc⟩ := sl_cell HV.out hlt
      simp only [Value.slice.injEq] at hsl
      obtain ⟨rfl, -, rfl⟩ := hsl
      obtain ⟨hx0, hx8⟩ := H8.out (bs.getD k 0) (by simp [hlt])
      obtain ⟨y, hy⟩ : ∃ y : Nat, bs.getD k 0 = (y : Int) := ⟨(bs.getD k 0).toNat, by omega⟩
      have hy8 : y < 256 := by omega
      obtain ⟨z, hz⟩ : ∃ z : Nat, z = s &&& y := ⟨_, rfl⟩
      have e1 : bits .and .u64 (s : Int) (y : Int) = (z : Int) := by rw [hz]; exact bits_and_u64_nat s y (by omega) (by omega)
      have HLN : Hid (Calls Tryd.prog 26 #[.int .u64 z] wr fun e w' => e = .returned (.int .i64 (szN z)) ∧ w' = wr) := len8_any z (by rw [hz]; exact Nat.lt_of_le_of_lt Nat.and_le_left hs) wr
      have HS1 : Hid (rkTo bs s (k + 1) = max (rkTo bs s k) (szN z)) := by
        show _ = _
        simp only [rkTo]
        rw [hy, Int.toNat_natCast, ← hz]
      rw [hy] at hcc
      have kI : (k : Int) < (bs.length : Int) := by omega
      have kI0 : (0 : Int) ≤ (k : Int) := by omega
      clear hx0 hx8 hy hz
      generalize szN z = q at *
      generalize rkTo bs s k = rk at *
      go_wp2_with fail
      refine HLN.out.mono ?_
      rintro e w' ⟨rfl, rfl⟩
      go_wp2
      go_roundw
      case rel => exact ⟨k + 1, by omega, by go_num, by rw [HS1.out]; first | rfl | go_num, trivial⟩
      case measure => simp [intOf]; omega
    · have hke : k = bs.length := by omega
      subst hke
      go_wp2
      go_ret
      exact ⟨rfl, HBA.out⟩

/-- What Rank answers. -/
def rkE (N : Int) (bs : List Int) (s : Int) : Int := if matE N bs ≠ 0 then matE N bs else if (decide (0 ≤ s) && decide (s < 2 ^ N.toNat)) = true then 0 else 4

def rkA (N : Int) (bs : List Int) (s : Int) : Int := if rkE N bs s = 0 then rkN bs s.toNat else 0

set_option maxRecDepth 100000 in
set_option maxHeartbeats 800000 in
theorem rank_any (N : Int) (bs : List Int) (s : Int) (v : Value) (w : World) (hv : Sl w.heap.size 3 w v (ints bs)) (hl : bs.length ≤ 1000000) (hT : TabB w) :
    Calls Tryd.prog 12 #[.agg #[.int .i64 N, v], .int .i64 s] w fun e w' => e = .returned (.tuple #[.int .i64 (rkA N bs s), .int .i64 (rkE N bs s)]) ∧ Below w.heap.size w w' := by
  obtain ⟨ao, cap, hvv, hlc, hcm⟩ := sl_open hv
  subst hvv
  obtain ⟨W, hW⟩ : ∃ W, W = w.alloc (.cells #[.int .i64 N, .slice ao bs.length cap] 24) := ⟨_, rfl⟩
  have HBA : Hid (Below w.heap.size w W) := by rw [hW]; exact (Below.refl _ _).alloc (Nat.le_refl _) _
  have c0 : W.cell? ⟨w.heap.size, 0, none⟩ = some (.int .i64 N) := by rw [hW]; simp
  have c1 : W.cell? ⟨w.heap.size, 1, none⟩ = some (.slice ao bs.length cap) := by rw [hW]; simp
  have HC : Hid (∀ W', Below W.heap.size W W' → W'.cell? ⟨w.heap.size, 0, none⟩ = some (.int .i64 N) ∧ W'.cell? ⟨w.heap.size, 1, none⟩ = some (.slice ao bs.length cap) ∧ Sl w.heap.size 3 W' (.slice ao bs.length cap) (ints bs) ∧ Below w.heap.size w W') := fun W' h =>
    ⟨(h.cell (lt_of_cell c0)).trans c0, (h.cell (lt_of_cell c1)).trans c1, (hv.below HBA.out (Nat.le_refl _)).below h (Nat.le_refl _), HBA.out.trans (h.mono HBA.out.size)⟩
  have HCK : Hid (Calls Tryd.prog 6 #[.agg #[.int .i64 N, .slice ao bs.length cap]] W fun e w' => e = .returned (.int .i64 (matE N bs)) ∧ Below W.heap.size W w') :=
    checkM_any N bs _ W ((hv.below HBA.out (Nat.le_refl _)).more HBA.out.size) hl (hT.below HBA.out)
  clear hv hT
  go_enter Tryd.func12, Tryd.ntmps12
  go_wp2_with fail
  rw [← hW]
  clear hW c0 c1
  refine HCK.out.mono ?_
  rintro e w1 ⟨rfl, hb1⟩
  have HB1 : Hid (Below W.heap.size W w1) := hb1
  obtain ⟨d0, d1, hs1, hbw⟩ := HC.out w1 hb1
  have HBF : Hid (Below w.heap.size w w1) := hbw
  have HS1 : Hid (Sl w.heap.size 3 w1 (.slice ao bs.length cap) (ints bs)) := hs1
  clear hb1 HCK hbw hs1
  by_cases hm : matE N bs ≠ 0
  · have HE : Hid (rkE N bs s = matE N bs) := if_pos hm
    have HA : Hid (rkA N bs s = 0) := if_neg (by rw [HE.out]; exact hm)
    have q1 : (matE N bs != 0) = true := by simpa using hm
    clear hm
    generalize matE N bs = E at *
    go_wp2
    exact bodyPost_ret (v := .tuple #[.int .i64 0, .int .i64 E]) (by simp [results, Tryd.results12, go_sem]) rfl ⟨by rw [HA.out, HE.out], HBF.out⟩
  · have hm0 : matE N bs = 0 := by omega
    obtain ⟨hb8, hN0, hN8⟩ := mat_b8 hm0
    have HB8 : Hid (B8 bs) := hb8
    obtain ⟨n, rfl⟩ : ∃ n : Nat, N = (n : Int) := ⟨N.toNat, by omega⟩
    have hn8 : n ≤ 8 := by omega
    have HE : Hid (rkE (n : Int) bs s = if (decide (0 ≤ s) && decide (s < 2 ^ n)) = true then 0 else 4) := if_neg hm
    have HIS : Hid (Calls Tryd.prog 25 #[.agg #[.int .i64 n, .slice ao bs.length cap], .int .i64 s] w1 fun e w' => e = .returned (.bool (decide (0 ≤ s) && decide (s < 2 ^ n))) ∧ Below w1.heap.size w1 w') := isSet_any n s _ w1 hn8
    rw [hm0]
    clear hm hm0 hb8 hN0 hN8
    by_cases hss : (decide (0 ≤ s) && decide (s < 2 ^ n)) = true
    · have HE0 : Hid (rkE (n : Int) bs s = 0) := by rw [HE.out, hss]; rfl
      rw [hss] at HIS
      simp only [Bool.and_eq_true, decide_eq_true_eq] at hss
      have hp := pow8_le n hn8
      obtain ⟨z, hz⟩ : ∃ z : Nat, s = (z : Int) := ⟨s.toNat, by omega⟩
      subst hz
      have hz8 : z < 256 := by omega
      have HA : Hid (rkA (n : Int) bs (z : Int) = rkN bs z) := if_pos HE0.out
      have qz : IntKind.u64.wrap (z : Int) = (z : Int) := by rw [IntKind.wrap_u64]; omega
      have HRK : Hid (∀ W', Below w1.heap.size w1 W' → Calls Tryd.prog 32 #[.agg #[.int .i64 n, .slice ao bs.length cap], .int .u64 z] W' fun e w' => e = .returned (.int .i64 (rkN bs z)) ∧ Below W'.heap.size W' w') := fun W' h =>
        rankOf_any n bs z _ W' ((HS1.out.below h (Nat.le_refl _)).more (Nat.le_trans HBF.out.size h.size)) HB8.out hz8
      clear hss hp
      go_wp2_with fail
      refine HIS.out.mono ?_
      rintro e w2 ⟨rfl, hb2⟩
      obtain ⟨f0, f1, -, -⟩ := HC.out w2 (HB1.out.trans (hb2.mono HB1.out.size))
      have HB2 : Hid (Below w1.heap.size w1 w2) := hb2
      clear hb2
      go_wp2_with fail
      refine (HRK.out w2 HB2.out).mono ?_
      rintro e w3 ⟨rfl, hb3⟩
      have HB3 : Hid (Below w.heap.size w w3) := HBF.out.trans ((HB2.out.trans (hb3.mono HB2.out.size)).mono HBF.out.size)
      clear hb3
      generalize rkN bs z = R at *
      go_wp2
      exact bodyPost_ret (v := .tuple #[.int .i64 R, .int .i64 0]) (by simp [results, Tryd.results12, go_sem]) rfl ⟨by rw [HA.out, HE0.out], HB3.out⟩
    · rw [Bool.not_eq_true] at hss
      have HE0 : Hid (rkE (n : Int) bs s = 4) := by rw [HE.out, hss]; rfl
      have HA : Hid (rkA (n : Int) bs s = 0) := if_neg (by rw [HE0.out]; decide)
      rw [hss] at HIS
      clear hss
      go_wp2_with fail
      refine HIS.out.mono ?_
      rintro e w2 ⟨rfl, hb2⟩
      have HB3 : Hid (Below w.heap.size w w2) := HBF.out.trans (hb2.mono HBF.out.size)
      clear hb2
      go_wp2
      exact bodyPost_ret (v := .tuple #[.int .i64 0, .int .i64 4]) (by simp [results, Tryd.results12, go_sem]) rfl ⟨by rw [HA.out, HE0.out], HB3.out⟩

end Go.Proofs.YtehklbekaflokaaDoor
