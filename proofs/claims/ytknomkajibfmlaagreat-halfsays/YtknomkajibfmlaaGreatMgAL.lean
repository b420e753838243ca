import Derived.Test.YtknomkajibfmlaaGreatMgAA
import Derived.Test.YtknomkajibfmlaaGreatMgAF
import Derived.Test.YtknomkajibfmlaaGreatRef1
/- check.Within: a list of so many numbers, none of them below the least or above the most. -/
namespace Go.Proofs.YtknomkajibfmlaaGreat
open Go.RowKit
attribute [local go_sem ↓] Go.wp_at_zero Go.wp_at_succ

def outB (lo hi x : Int) : Bool := decide (x < lo) || decide (hi < x)

set_option maxHeartbeats 400000 in
theorem out1_any (x lo hi : Int) (w : World) (a b : Addr) (hc : w.cell? a = some (.int .i64 lo)) (hd : w.cell? b = some (.int .i64 hi)) :
    Calls Tryz.prog 56 #[.int .i64 x, .pointer (some a), .pointer (some b)] w fun e w' => e = .returned (.bool (outB lo hi x)) ∧ w' = w := by
  by_cases hb : x < lo
  · go_enter Tryz.func56, Tryz.ntmps56
    go_wp2
    go_ret
    exact ⟨ret_bool (by simp [outB, hb]), rfl⟩
  · go_enter Tryz.func56, Tryz.ntmps56
    go_wp2
    go_ret
    exact ⟨ret_bool (by rw [outB, decide_eq_false (by omega : ¬ x < lo)]; rfl), rfl⟩

set_option maxHeartbeats 400000 in
theorem indexW_any (B : Nat) (lo hi : Int) (zs : List Int) (v : Value) (a b : Addr) (w : World) (hv : Sl B 3 w v (ints zs)) (hc : w.cell? a = some (.int .i64 lo)) (hd : w.cell? b = some (.int .i64 hi)) :
    Calls Tryz.prog 78 #[v, .func (.func 56) #[] #[.pointer (some a), .pointer (some b)]] w fun e w' => e = .returned (.int .i64 (findI (outB lo hi) zs)) ∧ w' = w := by
  obtain ⟨ao, cap, hvv, hlc, hcm⟩ := sl_open hv
  subst hvv
  have HV : Hid (Sl B 3 w (.slice ao zs.length cap) (ints zs)) := hv
  have HIL : Hid (∀ x, Calls Tryz.prog 56 #[.int .i64 x, .pointer (some a), .pointer (some b)] w fun e w' => e = .returned (.bool (outB lo hi x)) ∧ w' = w) := fun x => out1_any x lo hi w a b hc hd
  clear hv hc hd
  go_enter Tryz.func78, Tryz.ntmps78
  go_wp2
  go_loop [8] (fun i => ∃ k : Nat, k ≤ zs.length ∧ i = .int .i64 k ∧ (zs.take k).any (outB lo hi) = false) (fun i => zs.length - (intOf i).toNat)
  case atStart => exact ⟨0, Nat.zero_le _, rfl, by simp⟩
  case round =>
    obtain ⟨k, hk, rfl, hno⟩ := hrel
    have HN : Hid ((zs.take k).any (outB lo hi) = false) := hno
    clear hno
    by_cases hlt : k < zs.length
    · obtain ⟨b', o, cp, hs, hc1, hcc⟩ := sl_cell HV.out hlt
      simp only [Value.slice.injEq] at hs
      obtain ⟨rfl, _, rfl⟩ := hs
      have HS1 : Hid ((zs.take (k + 1)).any (outB lo hi) = outB lo hi zs[k]) := any_snoc (p := outB lo hi) hlt HN.out
      have HH : Hid (outB lo hi zs[k] = true → findI (outB lo hi) zs = k) := fun h => findI_hit (p := outB lo hi) hlt HN.out h
      rw [show zs.getD k 0 = zs[k] by simp [hlt]] at hcc
      generalize zs[k] = x at *
      have HIX : Hid (Calls Tryz.prog 56 #[.int .i64 x, .pointer (some a), .pointer (some b)] w fun e w' => e = .returned (.bool (outB lo hi x)) ∧ w' = w) := HIL.out x
      generalize outB lo hi x = fb at *
      cases fb
      · go_wp2_with (go_at_call 56; refine HIX.out.mono ?_; rintro e w' ⟨rfl, rfl⟩)
        go_round
        case rel => exact ⟨k + 1, by omega, by go_num, HS1.out⟩
        case measure => simp [intOf]; omega
      · have HH2 : Hid (findI (outB lo hi) zs = k) := HH.out rfl
        clear HH
        go_wp2_with (go_at_call 56; refine HIX.out.mono ?_; rintro e w' ⟨rfl, rfl⟩)
        go_ret
        exact ⟨ret_int HH2.out.symm, rfl⟩
    · have e : zs.take k = zs := List.take_of_length_le (by omega)
      rw [e] at HN
      have HF : Hid (findI (outB lo hi) zs = -1) := findI_none HN.out
      go_wp2
      go_ret
      exact ⟨ret_int HF.out.symm, rfl⟩

set_option maxRecDepth 100000 in
theorem containsW_any (B : Nat) (lo hi : Int) (zs : List Int) (v : Value) (a b : Addr) (w : World) (hv : Sl B 3 w v (ints zs)) (hc : w.cell? a = some (.int .i64 lo)) (hd : w.cell? b = some (.int .i64 hi)) :
    Calls Tryz.prog 55 #[v, .func (.func 56) #[] #[.pointer (some a), .pointer (some b)]] w fun e w' => e = .returned (.bool (zs.any (outB lo hi))) ∧ w' = w := by
  have HII := indexW_any B lo hi zs v a b w hv hc hd
  go_enter Tryz.func55, Tryz.ntmps55
  go_wp2_with fail
  refine HII.mono ?_
  rintro e w' ⟨rfl, rfl⟩
  go_wp2
  go_ret
  exact ⟨ret_bool findI_ge, rfl⟩

def withE (c : Nat) (lo hi : Int) (r : List Int) : Int := if r.length ≠ c then 3 else if r.any (outB lo hi) then 4 else 0

set_option maxRecDepth 100000 in
set_option maxHeartbeats 400000 in
theorem within_any (B : Nat) (c : Nat) (lo hi : Int) (r : List Int) (v : Value) (w : World) (hv : Sl B 3 w v (ints r)) :
    Calls Tryz.prog 36 #[v, .int .i64 c, .int .i64 lo, .int .i64 hi] w fun e w' => e = .returned (.int .i64 (withE c lo hi r)) ∧ Below w.heap.size w w' := by
  obtain ⟨ao, cap, hvv, hlc, hcm⟩ := sl_open hv
  subst hvv
  have HV : Hid (Sl B 3 w (.slice ao r.length cap) (ints r)) := hv
  clear hv
  by_cases hl : r.length = c
  · have b0 : ((r.length : Int) != (c : Int)) = false := by rw [bne_eq_false_iff_eq]; omega
    rw [withE, if_neg (by omega)]
    clear hl
    obtain ⟨w1, hw1⟩ : ∃ w1, w1 = (w.alloc (.cells #[.int .i64 lo] 3)).alloc (.cells #[.int .i64 hi] 3) := ⟨_, rfl⟩
    have HA : Hid (Calls Tryz.prog 55 #[.slice ao r.length cap, .func (.func 56) #[] #[.pointer (some ⟨w.heap.size, 0, none⟩), .pointer (some ⟨w.heap.size + 1, 0, none⟩)]] w1 fun e w' => e = .returned (.bool (r.any (outB lo hi))) ∧ w' = w1) := by
      subst hw1
      exact containsW_any B lo hi r _ _ _ _ ((HV.out.alloc _).alloc _) (by simp) (by simp)
    have HBB : Hid (Below w.heap.size w w1) := by
      subst hw1
      exact ((Below.refl _ _).alloc (Nat.le_refl _) _).alloc (by simp) _
    generalize r.any (outB lo hi) = R at *
    go_enter Tryz.func36, Tryz.ntmps36
    go_wp2_with fail
    try rw [← hw1]
    refine HA.out.mono ?_
    rintro e w' ⟨rfl, rfl⟩
    cases R
    · go_wp2
      go_ret
      exact ⟨rfl, by have := HBB.out; rw [hw1] at this; exact this⟩
    · go_wp2
      go_ret
      exact ⟨rfl, by have := HBB.out; rw [hw1] at this; exact this⟩
  · have b0 : ((r.length : Int) != (c : Int)) = true := by rw [bne_iff_ne]; omega
    rw [withE, if_pos hl]
    clear hl
    go_enter Tryz.func36, Tryz.ntmps36
    go_wp2
    go_ret
    exact ⟨rfl, ((Below.refl _ _).alloc (Nat.le_refl _) _).alloc (by simp) _⟩

theorem outB_far (most : Int) : outB (-most) most = (farB · most) := by
  funext x
  rw [Bool.eq_iff_iff]
  simp [outB, farB, Bool.or_comm]

set_option maxRecDepth 100000 in
set_option maxHeartbeats 400000 in
theorem chkL_any (B : Nat) (c : Nat) (most : Int) (r : List Int) (v : Value) (w : World) (hv : Sl B 3 w v (ints r)) (h0 : 0 ≤ most) (h1 : most ≤ 1000000) :
    Calls Tryz.prog 21 #[v, .int .i64 c, .int .i64 most] w fun e w' => e = .returned (.int .i64 (if r.length ≠ c then 3 else if r.any (farB · most) then 4 else 0)) ∧ Below w.heap.size w w' := by
  have HA : Hid (Calls Tryz.prog 36 #[v, .int .i64 c, .int .i64 (-most), .int .i64 most] w fun e w' => e = .returned (.int .i64 (if r.length ≠ c then 3 else if r.any (farB · most) then 4 else 0)) ∧ Below w.heap.size w w') := by
    have := within_any B c (-most) most r v w hv
    rw [withE, outB_far] at this
    exact this
  generalize (if r.length ≠ c then (3 : Int) else if r.any (farB · most) then 4 else 0) = R at *
  go_enter Tryz.func21, Tryz.ntmps21
  go_wp2_with fail
  refine HA.out.mono ?_
  rintro e w' ⟨rfl, hb⟩
  have HB : Hid (Below w.heap.size w w') := hb
  clear hb
  go_wp2
  go_ret
  exact ⟨rfl, HB.out⟩

end Go.Proofs.YtknomkajibfmlaaGreat

/- half.Check and half.Empty, of cuts that may be. -/
namespace Go.Proofs.YtknomkajibfmlaaGreat
open Go.RowKit

/-- A cut that may be, of few dimensions. -/
structure CutOk (d : Nat) (rows : List (List Int)) : Prop where
  d1 : 1 ≤ d
  d3 : d ≤ 3
  n12 : rows.length ≤ 12
  len : ∀ r ∈ rows, r.length = d + 1
  bd : ∀ r ∈ rows, ∀ z ∈ r, z.natAbs ≤ 20

/-- A cut that may be. -/
structure CutF (d : Nat) (rows : List (List Int)) : Prop where
  d1 : 1 ≤ d
  d4 : d ≤ 4
  n12 : rows.length ≤ 12
  len : ∀ r ∈ rows, r.length = d + 1
  bd : ∀ r ∈ rows, ∀ z ∈ r, z.natAbs ≤ 20

theorem CutOk.f {d : Nat} {rows : List (List Int)} (h : CutOk d rows) : CutF d rows := ⟨h.d1, Nat.le_succ_of_le h.d3, h.n12, h.len, h.bd⟩

instance {d : Nat} {rows : List (List Int)} : Coe (CutOk d rows) (CutF d rows) := ⟨CutOk.f⟩

/-- Nothing is in it: there is a way in which rows say that 0 is below 0. -/
def empB (d : Nat) (rows : List (List Int)) : Bool := !(waysL rows (refG d)).isEmpty

theorem far_no {r : List Int} {n : Nat} (h : ∀ z ∈ r, z.natAbs ≤ n) : r.any (farB · n) = false := by
  rw [List.any_eq_false]
  intro z hz
  have := h z hz
  simp [farB]
  omega

set_option maxRecDepth 100000 in
set_option maxHeartbeats 400000 in
theorem list_ok (B : Nat) (r : List Int) (v : Value) (many : Int) (w : World) (hv : Sl B 3 w v (ints r)) (hd : (r.length : Int) = many) (hn : r.any (farB · 20) = false) :
    Calls Tryz.prog 21 #[v, .int .i64 many, .int .i64 20] w fun e w' => e = .returned (.int .i64 0) ∧ Below w.heap.size w w' := by
  subst hd
  refine (chkL_any B r.length 20 r v w hv (by decide) (by decide)).mono ?_
  rintro e w1 ⟨rfl, hb1⟩
  rw [hn]
  exact ⟨by simp, hb1⟩

set_option maxRecDepth 100000 in
set_option maxHeartbeats 1600000 in
theorem halfCheckF_ok (d : Nat) (rows : List (List Int)) (v : Value) (w : World) (hv : Mat w.heap.size 38 3 w v rows) (hc : CutF d rows) :
    Calls Tryz.prog 8 #[.agg #[.int .i64 d, v]] w fun e w' => e = .returned (.int .i64 0) ∧ Below w.heap.size w w' := by
  obtain ⟨ao, cap, hvv, hlc, hcm⟩ := mat_open hv
  subst hvv
  have HV : Hid (Mat w.heap.size 38 3 w (.slice ao rows.length cap) rows) := hv
  have HC : Hid (CutF d rows) := hc
  have h1 : (1 : Int) ≤ (d : Int) := by have := hc.d1; omega
  have h1' : ¬ (d : Int) < 1 := by omega
  have h4 : (d : Int) ≤ 4 := by have := hc.d4; omega
  have h12 := hc.n12
  have hd1 : decide ((d : Int) < 1) = false := by simp; omega
  obtain ⟨W0, hW0⟩ : ∃ W0, W0 = w.alloc (.cells #[.int .i64 d, .slice ao rows.length cap] 24) := ⟨_, rfl⟩
  have HW0 : Hid (W0 = w.alloc (.cells #[.int .i64 d, .slice ao rows.length cap] 24)) := hW0
  have HB0 : Hid (Below w.heap.size w W0) := by rw [hW0]; exact alloc_keep _ _
  have HK0 : Hid (W0.cell? ⟨w.heap.size, 0, none⟩ = some (.int .i64 d)) := by
    have h0 : W0.heap[w.heap.size]? = some (.cells #[.int .i64 d, .slice ao rows.length cap] 24 (0, 0)) := by rw [hW0]; exact alloc_new _ _
    show W0.cell? _ = _
    simp [World.cell?, h0]
  have HS0 : Hid (W0.heap.size = w.heap.size + 1) := by rw [hW0]; exact size_alloc _ _
  clear hv hc hW0
  go_enter Tryz.func8, Tryz.ntmps8
  go_wp2
  rw [← HW0.out]
  go_loopw [21] (fun i wr => ∃ k : Nat, k ≤ rows.length ∧ i = .int .i64 k ∧ Below W0.heap.size W0 wr) (fun i _ => rows.length - (intOf i).toNat)
  case atStart => exact ⟨0, Nat.zero_le _, rfl, Below.refl _ _⟩
  case round =>
    obtain ⟨k, hk, rfl, hb⟩ := hrel
    have HB : Hid (Below W0.heap.size W0 wr) := hb
    have hbw : Below w.heap.size w wr := HB0.out.trans (hb.mono HB0.out.size)
    have HBW : Hid (Below w.heap.size w wr) := hbw
    have hcc : wr.cell? ⟨w.heap.size, 0, none⟩ = some (.int .i64 d) := (hb.cell (p := ⟨w.heap.size, 0, none⟩) (by have := HS0.out; show w.heap.size < _; omega)).trans HK0.out
    clear hb
    by_cases hlt : k < rows.length
    · obtain ⟨vb, voo, vcp, rv, hvs, _, hvcell, hrv⟩ := mat_cell (HV.out.below hbw (Nat.le_refl _)) hlt
      simp only [Value.slice.injEq] at hvs
      obtain ⟨rfl, _, rfl⟩ := hvs
      have hmem : rows.getD k [] ∈ rows := by simp [hlt]
      have hlen := HC.out.len _ hmem
      have HLC : Hid (Calls Tryz.prog 21 #[rv, .int .i64 ((d : Int) + 1), .int .i64 20] wr fun e w' => e = .returned (.int .i64 0) ∧ Below wr.heap.size wr w') :=
        list_ok _ (rows.getD k []) rv _ wr hrv (by rw [hlen]; omega) (far_no (HC.out.bd _ hmem))
      clear hrv hlen hmem hbw
      have hkI : (0 : Int) ≤ (k : Int) := by omega
      have hkJ : (k : Int) < (rows.length : Int) := by omega
      go_wp2_with fail
      refine HLC.out.mono ?_
      rintro e w1 ⟨rfl, hb1⟩
      have HB1 : Hid (Below W0.heap.size W0 w1) := HB.out.trans (hb1.mono HB.out.size)
      clear hb1 hvcell hcc HLC
      go_wp2
      go_roundw
      case rel => exact ⟨k + 1, by omega, by go_num, HB1.out⟩
      case measure => simp [intOf]; omega
    · clear hbw
      go_wp2
      go_ret
      exact ⟨rfl, HBW.out⟩

set_option maxRecDepth 100000 in
set_option maxHeartbeats 1600000 in
theorem isEmptyF_ok (d : Nat) (rows : List (List Int)) (v : Value) (w : World) (hv : Mat w.heap.size 38 3 w v rows) (hc : CutF d rows) :
    Calls Tryz.prog 20 #[.agg #[.int .i64 d, v]] w fun e w' => e = .returned (.bool (empB d rows)) ∧ Below w.heap.size w w' := by
  obtain ⟨ao, cap, hvv, hlc, hcm⟩ := mat_open hv
  subst hvv
  have HR : Hid (Calls Tryz.prog 35 #[.slice ao rows.length cap, .int .i64 d] (w.alloc (.cells #[.int .i64 d, .slice ao rows.length cap] 24)) fun e w' => ∃ p q u, e = .returned (.tuple #[.agg #[p, q, .int .i64 u], .bool (empB d rows)]) ∧ (∃ a b c, p = .slice a b c) ∧ (∃ a b c, q = .slice a b c) ∧ Below w.heap.size w w') := by
    have hm : Mat (w.alloc (.cells #[.int .i64 d, .slice ao rows.length cap] 24)).heap.size 38 3 (w.alloc (.cells #[.int .i64 d, .slice ao rows.length cap] 24)) (.slice ao rows.length cap) rows := (hv.below (alloc_keep w _) (Nat.le_refl _)).more (by simp)
    refine (refuted5_any rows d _ _ hm (fun r hr => ⟨hc.len r hr, fun z hz => by have := hc.bd r hr z hz; omega⟩) (.inr ⟨hc.d4, hc.bd⟩) (by have := hc.n12; omega)).mono ?_
    rintro e w' ⟨tv, rfl, h1, h2⟩
    have hb : Below w.heap.size w w' := (alloc_keep w _).trans (h2.mono (by simp))
    rcases h1 with ⟨_, rfl⟩ | ⟨c, l, co, cc, po, pc, _, rfl, _, _⟩
    · exact ⟨_, _, _, rfl, ⟨_, _, _, rfl⟩, ⟨_, _, _, rfl⟩, hb⟩
    · exact ⟨_, _, _, rfl, ⟨_, _, _, rfl⟩, ⟨_, _, _, rfl⟩, hb⟩
  clear hv hc
  generalize empB d rows = eb at *
  go_enter Tryz.func20, Tryz.ntmps20
  go_wp2_with fail
  refine HR.out.mono ?_
  rintro e w1 ⟨p, q, u, rfl, ⟨a1, a2, a3, rfl⟩, ⟨b1, b2, b3, rfl⟩, hb⟩
  have HB : Hid (Below w.heap.size w w1) := hb
  have hsz := hb.size
  clear hb HR
  go_wp2
  go_ret
  exact ⟨rfl, HB.out.alloc hsz _⟩

set_option maxRecDepth 100000 in
set_option maxHeartbeats 1600000 in
theorem emptyF_ok (d : Nat) (rows : List (List Int)) (v : Value) (w : World) (hv : Mat w.heap.size 38 3 w v rows) (hc : CutF d rows) :
    Calls Tryz.prog 7 #[.agg #[.int .i64 d, v]] w fun e w' => e = .returned (.tuple #[.bool (empB d rows), .int .i64 0]) ∧ Below w.heap.size w w' := by
  obtain ⟨ao, cap, hvv, hlc, hcm⟩ := mat_open hv
  subst hvv
  have HV : Hid (Mat w.heap.size 38 3 w (.slice ao rows.length cap) rows) := hv
  have HC : Hid (CutF d rows) := hc
  obtain ⟨eb, heb⟩ : ∃ eb, eb = empB d rows := ⟨_, rfl⟩
  rw [← heb]
  have HEB : Hid (eb = empB d rows) := heb
  clear hv hc heb
  obtain ⟨W, hW⟩ : ∃ W, W = w.alloc (.cells #[.int .i64 d, .slice ao rows.length cap] 24) := ⟨_, rfl⟩
  have hbW : Below w.heap.size w W := by rw [hW]; exact alloc_keep _ _
  have hkW : W.heap[w.heap.size]? = some (.cells #[.int .i64 d, .slice ao rows.length cap] 24 (0, 0)) := by rw [hW]; exact alloc_new _ _
  have hsW : W.heap.size = w.heap.size + 1 := by rw [hW]; simp
  have H1 : Hid (Calls Tryz.prog 8 #[.agg #[.int .i64 d, .slice ao rows.length cap]] W fun e w' => e = .returned (.int .i64 0) ∧ Below W.heap.size W w') := halfCheckF_ok d rows _ W ((HV.out.below hbW (Nat.le_refl _)).more hbW.size) HC.out
  have HW : Hid (W = w.alloc (.cells #[.int .i64 d, .slice ao rows.length cap] 24)) := hW
  have HBW : Hid (Below w.heap.size w W) := hbW
  have HKW : Hid (W.heap[w.heap.size]? = some (.cells #[.int .i64 d, .slice ao rows.length cap] 24 (0, 0))) := hkW
  have HSW : Hid (W.heap.size = w.heap.size + 1) := hsW
  clear hW hbW hkW hsW
  go_enter Tryz.func7, Tryz.ntmps7
  go_wp2_with fail
  rw [← HW.out]
  refine H1.out.mono ?_
  rintro e w1 ⟨rfl, hb1⟩
  have hb2 : Below w.heap.size w w1 := HBW.out.trans (hb1.mono HBW.out.size)
  have H2 : Hid (Calls Tryz.prog 20 #[.agg #[.int .i64 d, .slice ao rows.length cap]] w1 fun e w' => e = .returned (.bool eb) ∧ Below w1.heap.size w1 w') := by
    rw [HEB.out]
    exact isEmptyF_ok d rows _ w1 ((HV.out.below hb2 (Nat.le_refl _)).more hb2.size) HC.out
  have hk1 : w1.heap[w.heap.size]? = some (.cells #[.int .i64 d, .slice ao rows.length cap] 24 (0, 0)) := (hb1.block _ (by have := HSW.out; omega)).trans HKW.out
  have k0 : w1.cell? ⟨w.heap.size, 0, none⟩ = some (.int .i64 d) := by simp [World.cell?, hk1]
  have k1 : w1.cell? ⟨w.heap.size, 1, none⟩ = some (.slice ao rows.length cap) := by simp [World.cell?, hk1]
  have HB2 : Hid (Below w.heap.size w w1) := hb2
  clear hb1 hb2 hk1
  go_wp2_with fail
  refine H2.out.mono ?_
  rintro e w2 ⟨rfl, hb3⟩
  have HB3 : Hid (Below w.heap.size w w2) := HB2.out.trans (hb3.mono HB2.out.size)
  clear hb3
  go_wp2
  go_ret2
  exact ⟨rfl, HB3.out⟩

end Go.Proofs.YtknomkajibfmlaaGreat
