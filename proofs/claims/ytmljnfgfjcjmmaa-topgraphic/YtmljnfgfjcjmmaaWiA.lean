import Derived.Test.YtmljnfgfjcjmmaaDatA
import Derived.Test.YtmljnfgfjcjmmaaCycAll
import Derived.Test.YtmljnfgfjcjmmaaRefA
import Derived.Test.YtmljnfgfjcjmmaaWysA
import Derived.Test.YtmljnfgfjcjmmaaWyA
import Derived.Test.YtmljnfgfjcjmmaaRefB
import Derived.Test.YtmljnfgfjcjmmaaLinAll
import Derived.Test.YtmljnfgfjcjmmaaOfAll
import Derived.Deep.OwnRows
import Derived.Deep.DeepCutAuto
import Derived.Laws.AppendOwnNone
import Derived.Deep.RegionHeld3
/- check.Within: a list of so many numbers, none of them below the least or above the most. -/
namespace Go.Proofs.Ytmljnfgfjcjmmaa
open Go.RowKit
attribute [local go_sem ↓] Go.wp_at_zero Go.wp_at_succ

def outB (lo hi x : Int) : Bool := decide (x < lo) || decide (hi < x)

set_option maxHeartbeats 400000 in
theorem out1_any (x lo hi : Int) (w : World) (a b : Addr) (hc : w.cell? a = some (.int .i64 lo)) (hd : w.cell? b = some (.int .i64 hi)) :
    Calls Try.prog 70 #[.int .i64 x, .pointer (some a), .pointer (some b)] w fun e w' => e = .returned (.bool (outB lo hi x)) ∧ w' = w := by
  by_cases hb : x < lo
  · go_enter Try.func70, Try.ntmps70
    go_wp2
    go_ret
    exact ⟨ret_bool (by simp [outB, hb]), rfl⟩
  · go_enter Try.func70, Try.ntmps70
    go_wp2
    go_ret
    exact ⟨ret_bool (by rw [outB, decide_eq_false (by omega : ¬ x < lo)]; rfl), rfl⟩

set_option maxHeartbeats 400000 in
theorem indexW_any (B : Nat) (lo hi : Int) (zs : List Int) (v : Value) (a b : Addr) (w : World) (hv : Sl B 3 w v (ints zs)) (hc : w.cell? a = some (.int .i64 lo)) (hd : w.cell? b = some (.int .i64 hi)) :
    Calls Try.prog 81 #[v, .func (.func 70) #[] #[.pointer (some a), .pointer (some b)]] w fun e w' => e = .returned (.int .i64 (findI (outB lo hi) zs)) ∧ w' = w := by
  obtain ⟨ao, cap, hvv, hlc, hcm⟩ := sl_open hv
  subst hvv
  have HV : Hid (Sl B 3 w (.slice ao zs.length cap) (ints zs)) := hv
  have HIL : Hid (∀ x, Calls Try.prog 70 #[.int .i64 x, .pointer (some a), .pointer (some b)] w fun e w' => e = .returned (.bool (outB lo hi x)) ∧ w' = w) := fun x => out1_any x lo hi w a b hc hd
  clear hv hc hd
  go_enter Try.func81, Try.ntmps81
  go_wp2
  go_loop [8] (fun i => ∃ k : Nat, k ≤ zs.length ∧ i = .int .i64 k ∧ (zs.take k).any (outB lo hi) = false) (fun i => zs.length - (intOf i).toNat)
  case atStart => exact ⟨0, Nat.zero_le _, rfl, by simp⟩
  case round =>
    obtain ⟨k, hk, rfl, hno⟩ := hrel
    have HN : Hid ((zs.take k).any (outB lo hi) = false) := hno
    clear hno
    by_cases hlt : k < zs.length
    · obtain ⟨b', o, cp, hs, hc1, hcc⟩ := sl_cell HV.out hlt
      simp only [Value.slice.injEq] at hs
      obtain ⟨rfl, _, rfl⟩ := hs
      have HS1 : Hid ((zs.take (k + 1)).any (outB lo hi) = outB lo hi zs[k]) := any_snoc (p := outB lo hi) hlt HN.out
      have HH : Hid (outB lo hi zs[k] = true → findI (outB lo hi) zs = k) := fun h => findI_hit (p := outB lo hi) hlt HN.out h
      rw [show zs.getD k 0 = zs[k] by simp [hlt]] at hcc
      generalize zs[k] = x at *
      have HIX : Hid (Calls Try.prog 70 #[.int .i64 x, .pointer (some a), .pointer (some b)] w fun e w' => e = .returned (.bool (outB lo hi x)) ∧ w' = w) := HIL.out x
      generalize outB lo hi x = fb at *
      cases fb
      · go_wp2_with (go_at_call 70; refine HIX.out.mono ?_; rintro e w' ⟨rfl, rfl⟩)
        go_round
        case rel => exact ⟨k + 1, by omega, by go_num, HS1.out⟩
        case measure => simp [intOf]; omega
      · have HH2 : Hid (findI (outB lo hi) zs = k) := HH.out rfl
        clear HH
        go_wp2_with (go_at_call 70; refine HIX.out.mono ?_; rintro e w' ⟨rfl, rfl⟩)
        go_ret
        exact ⟨ret_int HH2.out.symm, rfl⟩
    · have e : zs.take k = zs := List.take_of_length_le (by omega)
      rw [e] at HN
      have HF : Hid (findI (outB lo hi) zs = -1) := findI_none HN.out
      go_wp2
      go_ret
      exact ⟨ret_int HF.out.symm, rfl⟩

set_option maxRecDepth 100000 in
theorem containsW_any (B : Nat) (lo hi : Int) (zs : List Int) (v : Value) (a b : Addr) (w : World) (hv : Sl B 3 w v (ints zs)) (hc : w.cell? a = some (.int .i64 lo)) (hd : w.cell? b = some (.int .i64 hi)) :
    Calls Try.prog 69 #[v, .func (.func 70) #[] #[.pointer (some a), .pointer (some b)]] w fun e w' => e = .returned (.bool (zs.any (outB lo hi))) ∧ w' = w := by
  have HII := indexW_any B lo hi zs v a b w hv hc hd
  go_enter Try.func69, Try.ntmps69
  go_wp2_with fail
  refine HII.mono ?_
  rintro e w' ⟨rfl, rfl⟩
  go_wp2
  go_ret
  exact ⟨ret_bool findI_ge, rfl⟩

def withE (c : Nat) (lo hi : Int) (r : List Int) : Int := if r.length ≠ c then 3 else if r.any (outB lo hi) then 4 else 0

set_option maxRecDepth 100000 in
set_option maxHeartbeats 400000 in
theorem within_any (B : Nat) (c : Nat) (lo hi : Int) (r : List Int) (v : Value) (w : World) (hv : Sl B 3 w v (ints r)) :
    Calls Try.prog 51 #[v, .int .i64 c, .int .i64 lo, .int .i64 hi] w fun e w' => e = .returned (.int .i64 (withE c lo hi r)) ∧ Below w.heap.size w w' := by
  obtain ⟨ao, cap, hvv, hlc, hcm⟩ := sl_open hv
  subst hvv
  have HV : Hid (Sl B 3 w (.slice ao r.length cap) (ints r)) := hv
  clear hv
  by_cases hl : r.length = c
  · have b0 : ((r.length : Int) != (c : Int)) = false := by rw [bne_eq_false_iff_eq]; omega
    rw [withE, if_neg (by omega)]
    clear hl
    obtain ⟨w1, hw1⟩ : ∃ w1, w1 = (w.alloc (.cells #[.int .i64 lo] 3)).alloc (.cells #[.int .i64 hi] 3) := ⟨_, rfl⟩
    have HA : Hid (Calls Try.prog 69 #[.slice ao r.length cap, .func (.func 70) #[] #[.pointer (some ⟨w.heap.size, 0, none⟩), .pointer (some ⟨w.heap.size + 1, 0, none⟩)]] w1 fun e w' => e = .returned (.bool (r.any (outB lo hi))) ∧ w' = w1) := by
      subst hw1
      exact containsW_any B lo hi r _ _ _ _ ((HV.out.alloc _).alloc _) (by simp) (by simp)
    have HBB : Hid (Below w.heap.size w w1) := by
      subst hw1
      exact ((Below.refl _ _).alloc (Nat.le_refl _) _).alloc (by simp) _
    generalize r.any (outB lo hi) = R at *
    go_enter Try.func51, Try.ntmps51
    go_wp2_with fail
    try rw [← hw1]
    refine HA.out.mono ?_
    rintro e w' ⟨rfl, rfl⟩
    cases R
    · go_wp2
      go_ret
      exact ⟨rfl, by have := HBB.out; rw [hw1] at this; exact this⟩
    · go_wp2
      go_ret
      exact ⟨rfl, by have := HBB.out; rw [hw1] at this; exact this⟩
  · have b0 : ((r.length : Int) != (c : Int)) = true := by rw [bne_iff_ne]; omega
    rw [withE, if_pos hl]
    clear hl
    go_enter Try.func51, Try.ntmps51
    go_wp2
    go_ret
    exact ⟨rfl, ((Below.refl _ _).alloc (Nat.le_refl _) _).alloc (by simp) _⟩

theorem outB_far (most : Int) : outB (-most) most = (farB · most) := by
  funext x
  rw [Bool.eq_iff_iff]
  simp [outB, farB, Bool.or_comm]

set_option maxRecDepth 100000 in
set_option maxHeartbeats 400000 in
theorem chkL_any (B : Nat) (c : Nat) (most : Int) (r : List Int) (v : Value) (w : World) (hv : Sl B 3 w v (ints r)) (h0 : 0 ≤ most) (h1 : most ≤ 1000000) :
    Calls Try.prog 34 #[v, .int .i64 c, .int .i64 most] w fun e w' => e = .returned (.int .i64 (if r.length ≠ c then 3 else if r.any (farB · most) then 4 else 0)) ∧ Below w.heap.size w w' := by
  have HA : Hid (Calls Try.prog 51 #[v, .int .i64 c, .int .i64 (-most), .int .i64 most] w fun e w' => e = .returned (.int .i64 (if r.length ≠ c then 3 else if r.any (farB · most) then 4 else 0)) ∧ Below w.heap.size w w') := by
    have := within_any B c (-most) most r v w hv
    rw [withE, outB_far] at this
    exact this
  generalize (if r.length ≠ c then (3 : Int) else if r.any (farB · most) then 4 else 0) = R at *
  go_enter Try.func34, Try.ntmps34
  go_wp2_with fail
  refine HA.out.mono ?_
  rintro e w' ⟨rfl, hb⟩
  have HB : Hid (Below w.heap.size w w') := hb
  clear hb
  go_wp2
  go_ret
  exact ⟨rfl, HB.out⟩

end Go.Proofs.Ytmljnfgfjcjmmaa

/- half.Check and half.Empty, of cuts that may be. -/
namespace Go.Proofs.Ytmljnfgfjcjmmaa
open Go.RowKit

/-- A cut that may be, of few dimensions. -/
structure CutOk (d : Nat) (rows : List (List Int)) : Prop where
  d1 : 1 ≤ d
  d3 : d ≤ 3
  n12 : rows.length ≤ 12
  len : ∀ r ∈ rows, r.length = d + 1
  bd : ∀ r ∈ rows, ∀ z ∈ r, z.natAbs ≤ 20

/-- Nothing is in it: there is a way in which rows say that 0 is below 0. -/
def empB (d : Nat) (rows : List (List Int)) : Bool := !(waysL rows (refG d)).isEmpty

theorem far_no {r : List Int} {n : Nat} (h : ∀ z ∈ r, z.natAbs ≤ n) : r.any (farB · n) = false := by
  rw [List.any_eq_false]
  intro z hz
  have := h z hz
  simp [farB]
  omega

set_option maxRecDepth 100000 in
set_option maxHeartbeats 400000 in
theorem list_ok (B : Nat) (r : List Int) (v : Value) (many : Int) (w : World) (hv : Sl B 3 w v (ints r)) (hd : (r.length : Int) = many) (hn : r.any (farB · 20) = false) :
    Calls Try.prog 34 #[v, .int .i64 many, .int .i64 20] w fun e w' => e = .returned (.int .i64 0) ∧ Below w.heap.size w w' := by
  subst hd
  refine (chkL_any B r.length 20 r v w hv (by decide) (by decide)).mono ?_
  rintro e w1 ⟨rfl, hb1⟩
  rw [hn]
  exact ⟨by simp, hb1⟩

set_option maxRecDepth 100000 in
set_option maxHeartbeats 1600000 in
theorem halfCheck_ok (d : Nat) (rows : List (List Int)) (v : Value) (w : World) (hv : Mat w.heap.size 22 3 w v rows) (hc : CutOk d rows) :
    Calls Try.prog 88 #[.agg #[.int .i64 d, v]] w fun e w' => e = .returned (.int .i64 0) ∧ Below w.heap.size w w' := by
  obtain ⟨ao, cap, hvv, hlc, hcm⟩ := mat_open hv
  subst hvv
  have HV : Hid (Mat w.heap.size 22 3 w (.slice ao rows.length cap) rows) := hv
  have HC : Hid (CutOk d rows) := hc
  have h1 : (1 : Int) ≤ (d : Int) := by have := hc.d1; omega
  have h1' : ¬ (d : Int) < 1 := by omega
  have h4 : (d : Int) ≤ 4 := by have := hc.d3; omega
  have h12 := hc.n12
  have hd1 : decide ((d : Int) < 1) = false := by simp; omega
  obtain ⟨W0, hW0⟩ : ∃ W0, W0 = w.alloc (.cells #[.int .i64 d, .slice ao rows.length cap] 69) := ⟨_, rfl⟩
  have HW0 : Hid (W0 = w.alloc (.cells #[.int .i64 d, .slice ao rows.length cap] 69)) := hW0
  have HB0 : Hid (Below w.heap.size w W0) := by rw [hW0]; exact alloc_keep _ _
  have HK0 : Hid (W0.cell? ⟨w.heap.size, 0, none⟩ = some (.int .i64 d)) := by
    have h0 : W0.heap[w.heap.size]? = some (.cells #[.int .i64 d, .slice ao rows.length cap] 69 (0, 0)) := by rw [hW0]; exact alloc_new _ _
    show W0.cell? _ = _
    simp [World.cell?, h0]
  have HS0 : Hid (W0.heap.size = w.heap.size + 1) := by rw [hW0]; exact size_alloc _ _
  clear hv hc hW0
  go_enter Try.func88, Try.ntmps88
  go_wp2
  rw [← HW0.out]
  go_loopw [21] (fun i wr => ∃ k : Nat, k ≤ rows.length ∧ i = .int .i64 k ∧ Below W0.heap.size W0 wr) (fun i _ => rows.length - (intOf i).toNat)
  case atStart => exact ⟨0, Nat.zero_le _, rfl, Below.refl _ _⟩
  case round =>
    obtain ⟨k, hk, rfl, hb⟩ := hrel
    have HB : Hid (Below W0.heap.size W0 wr) := hb
    have hbw : Below w.heap.size w wr := HB0.out.trans (hb.mono HB0.out.size)
    have HBW : Hid (Below w.heap.size w wr) := hbw
    have hcc : wr.cell? ⟨w.heap.size, 0, none⟩ = some (.int .i64 d) := (hb.cell (p := ⟨w.heap.size, 0, none⟩) (by have := HS0.out; show w.heap.size < _; omega)).trans HK0.out
    clear hb
    by_cases hlt : k < rows.length
    · obtain ⟨vb, voo, vcp, rv, hvs, _, hvcell, hrv⟩ := mat_cell (HV.out.below hbw (Nat.le_refl _)) hlt
      simp only [Value.slice.injEq] at hvs
      obtain ⟨rfl, _, rfl⟩ := hvs
      have hmem : rows.getD k [] ∈ rows := by simp [hlt]
      have hlen := HC.out.len _ hmem
      have HLC : Hid (Calls Try.prog 34 #[rv, .int .i64 ((d : Int) + 1), .int .i64 20] wr fun e w' => e = .returned (.int .i64 0) ∧ Below wr.heap.size wr w') :=
        list_ok _ (rows.getD k []) rv _ wr hrv (by rw [hlen]; omega) (far_no (HC.out.bd _ hmem))
      clear hrv hlen hmem hbw
      have hkI : (0 : Int) ≤ (k : Int) := by omega
      have hkJ : (k : Int) < (rows.length : Int) := by omega
      go_wp2_with fail
      refine HLC.out.mono ?_
      rintro e w1 ⟨rfl, hb1⟩
      have HB1 : Hid (Below W0.heap.size W0 w1) := HB.out.trans (hb1.mono HB.out.size)
      clear hb1 hvcell hcc HLC
      go_wp2
      go_roundw
      case rel => exact ⟨k + 1, by omega, by go_num, HB1.out⟩
      case measure => simp [intOf]; omega
    · clear hbw
      go_wp2
      go_ret
      exact ⟨rfl, HBW.out⟩

set_option maxRecDepth 100000 in
set_option maxHeartbeats 1600000 in
theorem isEmpty_ok (d : Nat) (rows : List (List Int)) (v : Value) (w : World) (hv : Mat w.heap.size 22 3 w v rows) (hc : CutOk d rows) :
    Calls Try.prog 92 #[.agg #[.int .i64 d, v]] w fun e w' => e = .returned (.bool (empB d rows)) ∧ Below w.heap.size w w' := by
  obtain ⟨ao, cap, hvv, hlc, hcm⟩ := mat_open hv
  subst hvv
  have HR : Hid (Calls Try.prog 96 #[.slice ao rows.length cap, .int .i64 d] (w.alloc (.cells #[.int .i64 d, .slice ao rows.length cap] 69)) fun e w' => ∃ p q u, e = .returned (.tuple #[.agg #[p, q, .int .i64 u], .bool (empB d rows)]) ∧ (∃ a b c, p = .slice a b c) ∧ (∃ a b c, q = .slice a b c) ∧ Below w.heap.size w w') := by
    have hm : Mat (w.alloc (.cells #[.int .i64 d, .slice ao rows.length cap] 69)).heap.size 22 3 (w.alloc (.cells #[.int .i64 d, .slice ao rows.length cap] 69)) (.slice ao rows.length cap) rows := (hv.below (alloc_keep w _) (Nat.le_refl _)).more (by simp)
    refine (refuted_any rows d _ _ hm (fun r hr => ⟨hc.len r hr, fun z hz => by have := hc.bd r hr z hz; omega⟩) hc.d3 (by have := hc.n12; omega)).mono ?_
    rintro e w' ⟨tv, rfl, h1, h2⟩
    have hb : Below w.heap.size w w' := (alloc_keep w _).trans (h2.mono (by simp))
    rcases h1 with ⟨_, rfl⟩ | ⟨c, l, co, cc, po, pc, _, rfl, _, _⟩
    · exact ⟨_, _, _, rfl, ⟨_, _, _, rfl⟩, ⟨_, _, _, rfl⟩, hb⟩
    · exact ⟨_, _, _, rfl, ⟨_, _, _, rfl⟩, ⟨_, _, _, rfl⟩, hb⟩
  clear hv hc
  generalize empB d rows = eb at *
  go_enter Try.func92, Try.ntmps92
  go_wp2_with fail
  refine HR.out.mono ?_
  rintro e w1 ⟨p, q, u, rfl, ⟨a1, a2, a3, rfl⟩, ⟨b1, b2, b3, rfl⟩, hb⟩
  have HB : Hid (Below w.heap.size w w1) := hb
  have hsz := hb.size
  clear hb HR
  go_wp2
  go_ret
  exact ⟨rfl, HB.out.alloc hsz _⟩

set_option maxRecDepth 100000 in
set_option maxHeartbeats 1600000 in
theorem empty_ok (d : Nat) (rows : List (List Int)) (v : Value) (w : World) (hv : Mat w.heap.size 22 3 w v rows) (hc : CutOk d rows) :
    Calls Try.prog 89 #[.agg #[.int .i64 d, v]] w fun e w' => e = .returned (.tuple #[.bool (empB d rows), .int .i64 0]) ∧ Below w.heap.size w w' := by
  obtain ⟨ao, cap, hvv, hlc, hcm⟩ := mat_open hv
  subst hvv
  have HV : Hid (Mat w.heap.size 22 3 w (.slice ao rows.length cap) rows) := hv
  have HC : Hid (CutOk d rows) := hc
  obtain ⟨eb, heb⟩ : ∃ eb, eb = empB d rows := ⟨_, rfl⟩
  rw [← heb]
  have HEB : Hid (eb = empB d rows) := heb
  clear hv hc heb
  obtain ⟨W, hW⟩ : ∃ W, W = w.alloc (.cells #[.int .i64 d, .slice ao rows.length cap] 69) := ⟨_, rfl⟩
  have hbW : Below w.heap.size w W := by rw [hW]; exact alloc_keep _ _
  have hkW : W.heap[w.heap.size]? = some (.cells #[.int .i64 d, .slice ao rows.length cap] 69 (0, 0)) := by rw [hW]; exact alloc_new _ _
  have hsW : W.heap.size = w.heap.size + 1 := by rw [hW]; simp
  have H1 : Hid (Calls Try.prog 88 #[.agg #[.int .i64 d, .slice ao rows.length cap]] W fun e w' => e = .returned (.int .i64 0) ∧ Below W.heap.size W w') := halfCheck_ok d rows _ W ((HV.out.below hbW (Nat.le_refl _)).more hbW.size) HC.out
  have HW : Hid (W = w.alloc (.cells #[.int .i64 d, .slice ao rows.length cap] 69)) := hW
  have HBW : Hid (Below w.heap.size w W) := hbW
  have HKW : Hid (W.heap[w.heap.size]? = some (.cells #[.int .i64 d, .slice ao rows.length cap] 69 (0, 0))) := hkW
  have HSW : Hid (W.heap.size = w.heap.size + 1) := hsW
  clear hW hbW hkW hsW
  go_enter Try.func89, Try.ntmps89
  go_wp2_with fail
  rw [← HW.out]
  refine H1.out.mono ?_
  rintro e w1 ⟨rfl, hb1⟩
  have hb2 : Below w.heap.size w w1 := HBW.out.trans (hb1.mono HBW.out.size)
  have H2 : Hid (Calls Try.prog 92 #[.agg #[.int .i64 d, .slice ao rows.length cap]] w1 fun e w' => e = .returned (.bool eb) ∧ Below w1.heap.size w1 w') := by
    rw [HEB.out]
    exact isEmpty_ok d rows _ w1 ((HV.out.below hb2 (Nat.le_refl _)).more hb2.size) HC.out
  have hk1 : w1.heap[w.heap.size]? = some (.cells #[.int .i64 d, .slice ao rows.length cap] 69 (0, 0)) := (hb1.block _ (by have := HSW.out; omega)).trans HKW.out
  have k0 : w1.cell? ⟨w.heap.size, 0, none⟩ = some (.int .i64 d) := by simp [World.cell?, hk1]
  have k1 : w1.cell? ⟨w.heap.size, 1, none⟩ = some (.slice ao rows.length cap) := by simp [World.cell?, hk1]
  have HB2 : Hid (Below w.heap.size w w1) := hb2
  clear hb1 hb2 hk1
  go_wp2_with fail
  refine H2.out.mono ?_
  rintro e w2 ⟨rfl, hb3⟩
  have HB3 : Hid (Below w.heap.size w w2) := HB2.out.trans (hb3.mono HB2.out.size)
  clear hb3
  go_wp2
  go_ret2
  exact ⟨rfl, HB3.out⟩

end Go.Proofs.Ytmljnfgfjcjmmaa

/- What is done with each choice: its row, if there is one, is kept. -/
namespace Go.Proofs.Ytmljnfgfjcjmmaa
open Go.RowKit
attribute [local go_sem ↓] Go.wp_at_zero Go.wp_at_succ

theorem set_one {w : World} {b : Nat} {x u : Value} {t : TypeId} (h : w.heap[b]? = some (.cells #[x] t (0, 0))) : (w.setCell ⟨b, 0, none⟩ u).heap[b]? = some (.cells #[u] t (0, 0)) := by
  simp [World.setCell, Array.getElem?_modify, h]

theorem owns_set {B R n j : Nat} {e : TypeId} {w : World} {v u : Value} {xs : List Value} (h : w.ownsRow B e 1 v n xs) (hR : R < B) : (w.setCell ⟨R, j, none⟩ u).ownsRow B e 1 v n xs := by
  refine ⟨h.1, ?_⟩
  rcases h.2 with h2 | ⟨k, cap, cur, rfl, hb, hh, r⟩
  · exact Or.inl h2
  · exact Or.inr ⟨k, cap, cur, rfl, hb, (Below.heap_setCell w _ u k (by show k ≠ R; omega)).trans hh, r⟩

/-- Behind a store into a block of another element type. -/
theorem Fr.set {B b j : Nat} {t : TypeId} {w : World} {v u : Value} {m : List (List Int)} {cur : Array Value} (h : Fr B 22 3 w v m) (hb : b < B) (hR : w.heap[b]? = some (.cells cur t (0, 0))) (ht : t ≠ 3) : Fr B 22 3 (w.setCell ⟨b, j, none⟩ u) v m := by
  obtain ⟨vs, h1, h2, h3⟩ := h
  refine ⟨vs, h1, owns_set h2 hb, fun i hi => (h3 i hi).setCell u ⟨Nat.zero_le _, fun cur' e => ?_⟩⟩
  have e' : w.heap[b]? = some (.cells cur' 3 (0, 0)) := e
  rw [hR] at e'
  simp at e'
  exact ht e'.2

end Go.Proofs.Ytmljnfgfjcjmmaa

/- Where rows hold at all, they hold at a place where so many of them are met, or numbers are 0, that there is no other one (pure). -/
namespace Go.Proofs.Ytmljnfgfjcjmmaa
open Lin

/-- All rows hold at x by w. -/
def Fea (d : Nat) (rows : List (List Int)) (x : Nat → Int) (w : Int) : Prop := 0 < w ∧ ∀ r ∈ rows, dot d (V r) x ≤ V r d * w

theorem dot_last (d : Nat) (a x : Nat → Int) : dot (d + 1) a x = dot d a x + a d * x d := rfl

theorem ref_last (d : Nat) (c : Nat → Int) : dot (refG d).length c (V (refG d)) = - c d := by
  rw [refG_len, dot_last]
  have h0 : dot d c (V (refG d)) = 0 := by
    rw [dot_comm]
    refine dot_zero fun i hi => ?_
    simp [V, refG, show i < d + 1 by omega, show ¬ i = d by omega]
  have h1 : V (refG d) d = -1 := by simp [V, refG]
  rw [h0, h1]; omega

/-- A cut is empty just if its rows hold nowhere. -/
theorem emp_fea {d : Nat} {rows : List (List Int)} : empB d rows = false ↔ ∃ x w, Fea d rows x w := by
  have he : empB d rows = false ↔ waysL rows (refG d) = [] := by
    unfold empB
    cases waysL rows (refG d) <;> simp
  rw [he, ways_none]
  constructor
  · rintro ⟨c, h1, h2⟩
    rw [ref_last] at h2
    refine ⟨c, - c d, h2, fun r hr => ?_⟩
    have := h1 r hr
    rw [refG_len, dot_last, dot_comm] at this
    have e : V r d * - c d = -(c d * V r d) := by grind
    omega
  · rintro ⟨x, w, hw, h⟩
    refine ⟨fun k => if k = d then -w else x k, fun r hr => ?_, ?_⟩
    · have h1 := h r hr
      rw [refG_len, dot_last]
      simp only [if_true]
      have e : dot d (fun k => if k = d then -w else x k) (V r) = dot d (V r) x := by
        rw [dot_comm]
        exact dot_congr (fun _ _ => rfl) fun i hi => by rw [if_neg (by omega)]
      rw [e]
      have e2 : -w * V r d = -(V r d * w) := by grind
      omega
    · rw [ref_last]
      simp only [if_true]; omega

end Go.Proofs.Ytmljnfgfjcjmmaa

/- Rows in blocks of their own, as slices. -/
namespace Go.Proofs.Ytmljnfgfjcjmmaa
open Go.RowKit

/-- A row in a block of its own, as a slice. -/
theorem row_slT {B : Nat} {w : World} {g cap n : Nat} {F : Nat → Value} {l : List Int} (r : w.rowIs g 3 cap F) (hF : ∀ i, i < n → F i = .int .i64 (l.getD i 0)) (hl : l.length = n) (hn : n ≤ cap) (hc : cap ≤ 9223372036854775807) : Sl B 3 w (.slice (some ⟨g, 0, none⟩) n cap) (ints l) := by
  refine ⟨some ⟨g, 0, none⟩, cap, by simp [hl], by simpa [hl] using hn, by unfold maxLen; omega, fun i hi => ?_, fun h => by cases h⟩
  have hi' : i < l.length := by simpa using hi
  refine ⟨g, 0, rfl, ?_, ?_⟩
  · rw [Nat.zero_add, r.cell (by omega), hF i (by omega), ints_get _ _ hi']
  · obtain ⟨c, hb, _, _⟩ := r
    exact Or.inr ⟨c, hb⟩

end Go.Proofs.Ytmljnfgfjcjmmaa

/- The document's Empty. -/
namespace Go.Proofs.Ytmljnfgfjcjmmaa
open Go.RowKit Lin
attribute [local go_sem ↓] Go.wp_at_zero Go.wp_at_succ

theorem fr_matE {B : Nat} {w : World} {v : Value} {m : List (List Int)} (h : Fr B 22 3 w v m) : Mat 0 22 3 w v m := by
  obtain ⟨vs, h1, h2, h3⟩ := h
  exact ⟨vs, h1, Sl.own h2, h3⟩

/-- Rows of a cut that may be, or of one with a row more. -/
def RwE (d : Nat) (rows : List (List Int)) : Prop := ∀ r ∈ rows, r.length = d + 1 ∧ ∀ z ∈ r, z.natAbs ≤ 20

end Go.Proofs.Ytmljnfgfjcjmmaa

/- The document's CutMay (of cuts that may be) and GoalMay. -/
namespace Go.Proofs.Ytmljnfgfjcjmmaa
open Go.RowKit Lin
attribute [local go_sem ↓] Go.wp_at_zero Go.wp_at_succ

/-- A cut in a box of its own. -/
theorem cut_box (w : World) (d : Nat) (v : Value) : ∃ W0, W0 = w.alloc (.cells #[.int .i64 d, v] 69) ∧ Below w.heap.size w W0 ∧ W0.heap.size = w.heap.size + 1 ∧ ∀ W', Below W0.heap.size W0 W' → W'.cell? ⟨w.heap.size, 0, none⟩ = some (.int .i64 d) ∧ W'.cell? ⟨w.heap.size, 1, none⟩ = some v := by
  refine ⟨_, rfl, alloc_keep _ _, size_alloc _ _, fun W' hB => ?_⟩
  have h0 := (hB.block w.heap.size (by rw [size_alloc]; omega)).trans (alloc_new w (.cells #[.int .i64 d, v] 69))
  exact ⟨by simp [World.cell?, h0], by simp [World.cell?, h0]⟩

theorem far20 {r : List Int} (h : ∀ z ∈ r, z.natAbs ≤ 20) : r.any (farB · 20) = false := far_no (n := 20) h

/-- What is wrong with a goal. -/
def gmE (d : Nat) (rows : List (List Int)) (g : List Int) : Int := if empB d rows = true then 6 else if waysL rows g = [] then 7 else 0

theorem CutOk.rw {d : Nat} {rows : List (List Int)} (h : CutOk d rows) : RwE d rows := fun r hr => ⟨h.len r hr, h.bd r hr⟩

end Go.Proofs.Ytmljnfgfjcjmmaa

/- What Greatest leans on. -/
namespace Go.Proofs.Ytmljnfgfjcjmmaa
open Go.RowKit Lin

theorem mu_small4 {c : Nat} {m : List (List Int)} (hx : Mx c 60 m) (h4 : c ≤ 4) (hl : (pickL c m).length + 1 = c) : ∀ z ∈ muL c (pickL c m), z.natAbs ≤ 1296000 := by
  intro z hz
  simp only [muL, List.mem_map, List.mem_range] at hz
  obtain ⟨k, hk, rfl⟩ := hz
  unfold Lin.mu
  rw [Int.natAbs_mul]
  have h2 : (Lin.ngo k).natAbs = 1 := by rw [ngo_mod]; by_cases e : k % 2 = 1 <;> simp [e]
  rw [h2, Nat.one_mul, fm_length]
  have h5 : Lin.fb 60 3 = 1296000 := by decide
  have m2 : Lin.fb 60 (pickL c m).length ≤ Lin.fb 60 3 := fb_mono (by decide) (by omega)
  have hb := Lin.od_bd (n := (pickL c m).length) (B := 60) (Lin.cols (fm (pickL c m)) (Lin.skp k)) (fun _ => false) (fun r hr j hj => by
    simp only [Lin.cols, fm, List.mem_map] at hr
    obtain ⟨_, ⟨l, hl', rfl⟩, rfl⟩ := hr
    by_cases hi : Lin.skp k j < l.length
    · exact hx.bd l (pickL_mem hl') _ (by simp [hi])
    · simp only [List.getD_eq_getElem?_getD]; rw [List.getElem?_eq_none (by omega)]; simp) (by rw [Lin.cu_none]; simp [Lin.cols, fm])
  have hl2 : (Lin.cols (fm (pickL c m)) (Lin.skp k)).length = (pickL c m).length := by simp [Lin.cols, fm]
  rw [hl2] at hb
  omega

theorem norm_bd4 {c : Nat} {m : List (List Int)} (hx : Mx c 60 m) (h4 : c ≤ 4) : ∀ z ∈ normL c m, z.natAbs ≤ 1296000 := by
  intro z hz
  unfold normL at hz
  split at hz
  · rename_i hl
    exact upr_bd (low_bd (mu_small4 hx h4 hl)) z hz
  · simp at hz

theorem twoE {w : World} {a b : Int} : Sl 0 3 (w.alloc (.cells #[.int .i64 a, .int .i64 b] 3)) (.slice (some ⟨w.heap.size, 0, none⟩) 2 2) (ints [a, b]) := by
  refine ⟨some ⟨w.heap.size, 0, none⟩, 2, rfl, by simp [ints], by simp [maxLen], fun i hi => ⟨w.heap.size, 0, rfl, ?_, .inr ⟨_, heap_alloc_new w _⟩⟩, fun e => by cases e⟩
  rw [Nat.zero_add]
  simp only [World.cell?, heap_alloc_new]
  match i, hi with
  | 0, _ => rfl
  | 1, _ => rfl

theorem two_cellsE {B : Nat} {w : World} {u : Value} {a b : Int} (h : w.ownsRow B 3 1 u 2 (ints [a, b])) : ∃ g gc, u = .slice (some ⟨g, 0, none⟩) 2 gc ∧ B ≤ g ∧ w.cell? ⟨g, 0, none⟩ = some (.int .i64 a) ∧ w.cell? ⟨g, 1, none⟩ = some (.int .i64 b) := by
  rcases h.2 with ⟨_, h0⟩ | ⟨g, cap, cur, h1, h2, h3, _⟩
  · omega
  · subst h1
    exact ⟨g, cap, rfl, h2, h.cellAt 0 (by omega), h.cellAt 1 (by omega)⟩

end Go.Proofs.Ytmljnfgfjcjmmaa

/- An operation of a drawn region is taken first, its slot told. -/
namespace Go.Proofs.Ytmljnfgfjcjmmaa
open Go

theorem wpAnyH_tk {P : Program} {md : Region.Mode} {ops : Array Oper} {Q : Exit → Act → World → Prop} {S : World → Prop} {i d : Nat} {oi : Oper} {v : Value} {fuel : Nat} {listed : Array Bool} {a : Act} {w : World} (hi : ops.toList[i]? = some oi) (hd : oi.dst = some d)
    (hs : Region.noSelect ops = true) (hf : Region.free md ops listed i = true) (hr : (Region.ready md ops listed).contains i = true)
    (hQ : ∀ c a w, Q (.panic c) (a.put (some d) v) w → Q (.panic c) a w) (hy : YieldsIf P ops S oi v a) (hS : S w)
    (h : wpAnyH P md ops Q S fuel (listed.setIfInBounds i true) (a.put (some d) v) w) : wpAnyH P md ops Q S (fuel + 1) listed a w := by
  rw [Array.getElem?_toList] at hi
  rw [← hd] at hQ h
  exact wpAnyH_take hi hs hf hr hQ hy hS h

theorem ready_tk {P : Program} {md : Region.Mode} {ops : Array Oper} {Q : Exit → Act → World → Prop} {S : World → Prop} {fuel : Nat} {listed : Array Bool} {a : Act} {w : World} {i : Nat} {o : Oper} {rs : List Nat} (ho : ops.toList[i]? = some o) (hw : Region.wanted o (yielded ops a.tmps) = true)
    (h : ∀ K' : Act → World → Prop, Shut (∀ a w, S w → (S w → wpAnyH P md ops Q S fuel (listed.setIfInBounds i true) a w) → K' a w) → Oper.wp P o a w K' Q)
    (hs : AllReadyH P md ops Q S fuel listed a w rs) : AllReadyH P md ops Q S fuel listed a w (i :: rs) := by
  rw [Array.getElem?_toList] at ho
  refine AllReadyH.cons ho (fun K' hK => ?_) hs
  rw [if_pos hw]
  exact h K' hK

end Go.Proofs.Ytmljnfgfjcjmmaa
