/- A polytope has a side; the law ShellMade: the walk. -/
import Derived.Test.YtmldemimdejciaaDoorLt6
import Derived.Test.YtmldemimdejciaaDoorSh12
import Derived.Test.YtmldemimdejciaaDoorPik
import Derived.Test.YtmldemimdejciaaDoorBetB
namespace Go.Proofs.YtmldemimdejciaaDoor
open Lin

/-- A row meets one of the points that it comes of. -/
theorem row_meets {d : Nat} {C : List (List Int)} (hg : Good d C) {r : List Int} (hr : r ∈ rowsC C [] d C) : ∃ y ∈ C, r.getD d 0 = dot d (V r) (V y) := by
  obtain ⟨t, hts, htl, hrt⟩ := mem_rowsC.1 hr
  obtain ⟨σ, hσ, hnb, hre⟩ := rowT_form htl hrt
  have hal := norm_len hnb
  have hd1 := hg.d1
  have hVr : ∀ i, i < d → V r i = σ * V (normL d (diffL t)) i := fun i hi => by
    rw [hre]
    have h := V_map (normL d (diffL t) ++ [dotL (normL d (diffL t)) (t.getD 0 [])]) σ i
    rw [h, (row_app hal).2.2.2 i hi]
  have hlast : r.getD d 0 = σ * dotL (normL d (diffL t)) (t.getD 0 []) := by
    rw [hre]
    have h := V_map (normL d (diffL t) ++ [dotL (normL d (diffL t)) (t.getD 0 [])]) σ d
    simp only [V] at h
    rw [h, (row_app hal).2.2.1]
  refine ⟨t.getD 0 [], hts.subset (by simp [show 0 < t.length by omega]), ?_⟩
  rw [hlast, dotL_eq hal]
  unfold dot
  rw [← sumN_mul]
  exact (sumN_congr fun i hi => by rw [hVr i hi, Int.mul_assoc]).symm

theorem mem_side {C : List (List Int)} {r : List Int} (hC : C.length ≤ 16) {y : List Int} : y ∈ pks C [] (memL (sdN C r)) ↔ y ∈ C ∧ overL r y = 0 := by
  have hlt : sdN C r < 2 ^ 64 := Nat.lt_of_lt_of_le (sdTo_lt C r C.length) (Nat.pow_le_pow_right (by decide) (by omega))
  unfold pks
  simp only [List.mem_map]
  constructor
  · rintro ⟨x, hx, rfl⟩
    obtain ⟨k, rfl, hk⟩ := (mem_memL hlt).1 hx
    unfold sdN at hk
    rw [sdTo_bit] at hk
    simp only [Bool.and_eq_true, decide_eq_true_eq] at hk
    rw [show ((k : Int)).toNat = k by omega]
    exact ⟨by simp [hk.1], hk.2⟩
  · rintro ⟨hy, ho⟩
    obtain ⟨k, hk, rfl⟩ := List.mem_iff_getElem.1 hy
    have e : C.getD k [] = C[k] := by simp [hk]
    refine ⟨(k : Int), (mem_memL hlt).2 ⟨k, rfl, ?_⟩, by rw [show ((k : Int)).toNat = k by omega]; exact e⟩
    unfold sdN
    rw [sdTo_bit, e]
    simp [hk, ho]

/-- There is a side. -/
theorem side_there {B d : Nat} {P : List (List Int)} {w : World} {x : Value} {C s : List (List Int)} {A : List Nat} (h : Lat B d P w x C s A) (hg : Good d C) (hC : C.length ≤ 16) : ∃ a ∈ A, dimL d C a = (d : Int) - 1 := by
  obtain ⟨r, hr⟩ := row_some hg
  have hrs : r ∈ s := (h.rows.2 r).2 (mem_rowsD.2 hr)
  have hlt := sdTo_lt C r C.length
  have hmem := h.all.cl 0 h.all.hd.1 (sdN C r) (List.mem_map.2 ⟨r, hrs, rfl⟩)
  rw [h.all.hd.2, Nat.and_comm, Nat.and_two_pow_sub_one_eq_mod, Nat.mod_eq_of_lt (show sdN C r < 2 ^ C.length from hlt)] at hmem
  refine ⟨sdN C r, hmem, ?_⟩
  have hd5 : d ≤ 5 := by have := hg.d4; omega
  have hrow := rowsC_fit hg.box hg.d1 hd5 (fun _ => Iff.rfl) hr
  have hz : ∀ y ∈ C, (overL r y = 0 ↔ r.getD d 0 = dot d (V r) (V y)) := fun y hy => over_zero hrow.len (hg.box y hy).1
  have hrk := side_rank hg hr (p := pks C [] (memL (sdN C r))) (fun y => by
    rw [mem_side hC]
    exact and_congr_right fun hy => hz y hy)
  obtain ⟨y, hy, hty⟩ := row_meets hg hr
  have hin : y ∈ pks C [] (memL (sdN C r)) := (mem_side hC).2 ⟨hy, (hz y hy).2 hty⟩
  have hne : memL (sdN C r) ≠ [] := by
    intro h0
    rw [h0] at hin
    simp [pks] at hin
  unfold dimL
  rw [if_neg hne]
  omega

/-- Two rows change places. -/
theorem swap_rows {w : World} {g cap : Nat} {f : Nat → Value} {m : List (List Int)} (h : RowM w g cap f m) {i j : Nat} (hi : i < m.length) (hj : j < m.length) :
    ∃ m2, Mat ((w.setCell ⟨g, i, none⟩ (f j)).setCell ⟨g, j, none⟩ (f i)).heap.size 26 3 ((w.setCell ⟨g, i, none⟩ (f j)).setCell ⟨g, j, none⟩ (f i)) (.slice (some ⟨g, 0, none⟩) m.length cap) m2 := by
  have ht : Touch g w ((w.setCell ⟨g, i, none⟩ (f j)).setCell ⟨g, j, none⟩ (f i)) := ((Touch.refl _ _).setCell i _).setCell j _
  obtain ⟨cur, hcur, _⟩ := h.row
  have hin : ∀ k, k < m.length → Sl 0 3 ((w.setCell ⟨g, i, none⟩ (f j)).setCell ⟨g, j, none⟩ (f i)) (f k) (ints (m.getD k [])) := fun k hk => ht.sl hcur (h.inn k hk)
  have hrow := (h.row.set i (f j)).set j (f i)
  have hl : ((List.range m.length).map fun k => if k = j then m.getD i [] else if k = i then m.getD j [] else m.getD k []).length = m.length := by simp
  have hr : RowM ((w.setCell ⟨g, i, none⟩ (f j)).setCell ⟨g, j, none⟩ (f i)) g cap (fun q => if q = j then f i else if q = i then f j else f q) ((List.range m.length).map fun k => if k = j then m.getD i [] else if k = i then m.getD j [] else m.getD k []) := by
    refine ⟨hrow, by rw [hl]; exact h.cap1, h.cap2, fun k hk => ?_⟩
    rw [hl] at hk
    have e : ((List.range m.length).map fun k => if k = j then m.getD i [] else if k = i then m.getD j [] else m.getD k []).getD k [] = if k = j then m.getD i [] else if k = i then m.getD j [] else m.getD k [] := by simp [hk]
    rw [e]
    by_cases h1 : k = j
    · rw [if_pos h1, if_pos h1]
      exact hin i hi
    · rw [if_neg h1, if_neg h1]
      by_cases h2 : k = i
      · rw [if_pos h2, if_pos h2]
        exact hin j hj
      · rw [if_neg h2, if_neg h2]
        exact hin k hk
  have hf := hr.fr (B := 0) (Nat.zero_le _)
  rw [hl] at hf
  exact ⟨_, hf.rws.mat (Nat.zero_le _)⟩

open Go.RowKit
attribute [local go_sem ↓] Go.wp_at_zero Go.wp_at_succ

theorem poly_field (a b : Value) (w : World) : (Instr.field 36 (.agg #[a, b]) 1).run Tryd.prog w = .ok b w := by kernel_rfl

theorem poly_boxS {n wd : Nat} {m : List (List Int)} (hm : Box n wd m) (hw : wd ≤ 6) : Box n 6 (polyL n m) := by
  intro r hr
  simp only [polyL, List.mem_append, List.mem_singleton, List.mem_map, List.mem_range] at hr
  rcases hr with (hr | rfl) | ⟨k, hk, rfl⟩
  · refine ⟨(hm r hr).1, fun z hz => ?_⟩
    have := (hm r hr).2 z hz
    omega
  · refine ⟨by simp [zerosL], fun z hz => ?_⟩
    simp only [zerosL, List.mem_map] at hz
    obtain ⟨_, _, rfl⟩ := hz
    omega
  · refine ⟨by simp [spk], fun z hz => ?_⟩
    simp only [spk, List.mem_map] at hz
    obtain ⟨j, _, rfl⟩ := hz
    have := Nat.mod_lt k (show 0 < 2 by decide)
    split <;> omega

set_option maxRecDepth 100000 in
set_option maxHeartbeats 1600000 in
theorem shellMade_any (B : Nat) (raw : List Int) (d0 m0 a0 b0 : Int) (v : Value) (w : World) (hv : Sl B 3 w v (ints raw)) (hr : ∀ z ∈ raw, In64 z) (hd : In64 d0) (hm : In64 m0) (ha : In64 a0) (hb : In64 b0) (hT : TabB w) :
    Calls Tryd.prog 4 #[v, .int .i64 d0, .int .i64 m0, .int .i64 a0, .int .i64 b0] w fun e w' => e = .returned (.bool true) ∧ Below w.heap.size w w' := by
  obtain ⟨ao, cap, hvv, hlc, hcm⟩ := sl_open hv
  subst hvv
  have HV : Hid (Sl B 3 w (.slice ao raw.length cap) (ints raw)) := hv
  have HRR : Hid (∀ z ∈ raw, In64 z) := hr
  have HD : Hid (In64 d0) := hd
  have HMM : Hid (In64 m0) := hm
  have HAA : Hid (In64 a0) := ha
  have HBB : Hid (In64 b0) := hb
  have HT : Hid (TabB w) := hT
  clear hv hr hd hm ha hb hT
  by_cases h1 : 256 < raw.length
  · have b1 : decide ((256 : Int) < (raw.length : Int)) = true := decide_eq_true (by omega)
    go_enter Tryd.func4, Tryd.ntmps4
    go_wp2
    go_ret
    exact ⟨rfl, Below.refl _ _⟩
  · have b1 : decide ((256 : Int) < (raw.length : Int)) = false := decide_eq_false (by omega)
    have HRL : Hid (raw.length ≤ 1000000) := by
      show _ ≤ _
      omega
    clear h1
    go_enter Tryd.func4, Tryd.ntmps4
    go_wp2_with fail
    refine (pick_any d0 4 w (by omega) (by omega) HD.out).mono ?_
    rintro e w1 ⟨z, rfl, hz, rfl⟩
    obtain ⟨n, hn⟩ : ∃ n : Nat, (n : Int) = 1 + z := ⟨(1 + z).toNat, by omega⟩
    have hz1' := hz.1
    have hz2' := hz.2
    have HN : Hid ((n : Int) = 1 + z) := hn
    have hn1 : 1 ≤ n := by omega
    have hn4 : n ≤ 4 := by omega
    clear hz hn
    go_wp2_with fail
    rw [← HN.out]
    refine (pick_any m0 5 w1 (by omega) (by omega) HMM.out).mono ?_
    rintro e w2 ⟨y, rfl, hy, rfl⟩
    obtain ⟨k, hk⟩ : ∃ k : Nat, (k : Int) = y := ⟨y.toNat, by omega⟩
    have hk4 : k ≤ 4 := by omega
    subst hk
    clear hy hz1' hz2' HN
    go_wp2_with fail
    refine (polytopeOf_any B raw _ n k 6 w2 HV.out HRR.out HRL.out hn1 hn4 (by omega) (by omega)).mono ?_
    rintro e w3 ⟨x, m, rfl, hml, hbx, hmat, hb3⟩
    obtain ⟨P, hP⟩ : ∃ P, P = polyL n m := ⟨_, rfl⟩
    have HG : Hid (Good n P) := by rw [hP]; exact poly_good hn1 hn4 hbx (by omega) (by omega)
    have HBX : Hid (Box n 6 P) := by rw [hP]; exact poly_boxS hbx (by omega)
    have HPL : Hid (P.length ≤ 16) := by rw [hP]; show _ ≤ _; rw [poly_len]; omega
    rw [← hP] at hmat
    have HB3 : Hid (Below w2.heap.size w2 w3) := hb3
    have HLA : Hid (Calls Tryd.prog 12 #[x] w3 fun e w' => ∃ qb qo qc lb lc lev, e = .returned (.slice (some ⟨qb, qo, none⟩) (n + 2) qc) ∧ w'.cell? ⟨qb, qo + n, none⟩ = some (.slice (some ⟨lb, 0, none⟩) lev.length lc) ∧ (0 < lev.length ∧ lev.length ≤ 65536 ∧ (∃ f, RowM w' lb lc f lev) ∧ w2.heap.size ≤ lb ∧ Below w2.heap.size w2 w')) := by
      refine (latticeOf_any w3.heap.size n P x w3 hmat HG.out HPL.out HBX.out).mono ?_
      rintro e w' ⟨u, C, s, A, rfl, hl, hb⟩
      obtain ⟨s0, h4, h5⟩ := hl.crn.2
      have hgC : Good n C := corners_good HG.out h4 (fun x hx => corner_rank HG.out (P' := P) (fun _ => Iff.rfl) h4 hx) h5 hl.crn.1.nodup
      have hC16 : C.length ≤ 16 := by
        have h1 := nodup_lenL C P hl.crn.1.nodup fun y hy => (List.mem_filter.1 ((h5 y).1 hy)).1
        have h2 := HPL.out
        omega
      obtain ⟨a, haA, had⟩ := side_there hl hgC hC16
      obtain ⟨vs, g1, g2, g3⟩ := hl.lev.rows
      obtain ⟨lev, f1, f2⟩ := g3 n (by omega)
      have hpos : 0 < lev.length := List.length_pos_of_mem ((f2.2 (memL a)).2 ⟨a, haA, had, rfl⟩)
      obtain ⟨lb, lc, f, hlv, hlb, _, hrm⟩ := f1.rowM hpos
      have hS := Sl.own (B := 0) g2
      obtain ⟨qb, qo, qc, hq, _, _, hcell⟩ := hS.at (by omega)
      rw [g1] at hq
      subst hq
      have hc := hcell n (by omega)
      have e1 : vs[n]? = some (vs.getD n (.slice none 0 0)) := by simp [show n < vs.length by omega]
      rw [e1, hlv] at hc
      have hlen : lev.length ≤ 65536 := by
        have h1 := nodup_lenL lev (A.map memL) f2.1.nodup fun r hr => by
          obtain ⟨a, ha, _, rfl⟩ := (f2.2 r).1 hr
          exact List.mem_map.2 ⟨a, ha, rfl⟩
        rw [List.length_map] at h1
        have h2 := hl.all.len
        have h3 := pow16 hC16
        omega
      exact ⟨qb, qo, qc, lb, lc, lev, rfl, hc, hpos, hlen, ⟨f, hrm⟩, Nat.le_trans HB3.out.size hlb, HB3.out.trans (hb.mono HB3.out.size)⟩
    obtain ⟨xb, xo, xc, r1, hxv, _, _, _⟩ := mat_cell hmat (k := 0) (by have := HG.out.n2; omega)
    subst hxv
    obtain ⟨pl, hpl⟩ : ∃ pl, pl = P.length := ⟨_, rfl⟩
    rw [← hpl] at HLA ⊢
    have hfl := poly_field (.int .i64 n) (.slice (some ⟨xb, xo, none⟩) pl xc) w3
    clear hml hbx hb3 hP hmat hpl
    go_wp2_with fail
    refine HLA.out.mono ?_
    rintro e w4 ⟨qb, qo, qc, lb, lc, lev, rfl, hc4, hx4⟩
    have HX4 : Hid ((∃ f, RowM w4 lb lc f lev) ∧ w2.heap.size ≤ lb ∧ Below w2.heap.size w2 w4) := hx4.2.2
    obtain ⟨ll, hll⟩ : ∃ ll, ll = lev.length := ⟨_, rfl⟩
    have HLL : Hid (ll = lev.length) := hll
    have hl0 : 0 < ll := by have := hx4.1; omega
    have hl1 : ll ≤ 65536 := by have := hx4.2.1; omega
    rw [← hll] at hc4
    clear hll hx4 HLA hfl
    have hnI : (n : Int) < (n : Int) + 2 := by omega
    have hnI0 : (0 : Int) ≤ (n : Int) := by omega
    have hnN : n < n + 2 := by omega
    go_wp2_with fail
    refine (pick_any a0 ll w4 (by omega) (by omega) HAA.out).mono ?_
    rintro e w5 ⟨y1, rfl, hy1, rfl⟩
    obtain ⟨ia, hia⟩ : ∃ ia : Nat, (ia : Int) = y1 := ⟨y1.toNat, by omega⟩
    have hia2 : ia < ll := by omega
    subst hia
    clear hy1
    go_wp2_with fail
    refine (pick_any b0 ll w5 (by omega) (by omega) HBB.out).mono ?_
    rintro e w6 ⟨y2, rfl, hy2, rfl⟩
    obtain ⟨ib, hib⟩ : ∃ ib : Nat, (ib : Int) = y2 := ⟨y2.toNat, by omega⟩
    have hib2 : ib < ll := by omega
    subst hib
    clear hy2 hc4
    obtain ⟨⟨f, hrm⟩, hlb, hbel⟩ := HX4.out
    have HRM : Hid (RowM w6 lb lc f lev) := hrm
    have hlc1 : ll ≤ lc := by have := hrm.cap1; have := HLL.out; omega
    have ca := hrm.cell (i := ia) (by omega)
    have cb := hrm.cell (i := ib) (by omega)
    have fa := hrm.row.frozen ia
    have fb := hrm.row.frozen ib
    obtain ⟨p1, p2, hfa, _, _⟩ := sl_open (hrm.inn ia (by rw [← HLL.out]; exact hia2))
    obtain ⟨q1, q2, hfb, _, _⟩ := sl_open (hrm.inn ib (by rw [← HLL.out]; exact hib2))
    obtain ⟨l1, hl1e⟩ : ∃ l1, l1 = (lev.getD ia []).length := ⟨_, rfl⟩
    obtain ⟨l2, hl2e⟩ : ∃ l2, l2 = (lev.getD ib []).length := ⟨_, rfl⟩
    rw [← hl1e] at hfa
    rw [← hl2e] at hfb
    have HFA : Hid (f ia = .slice p1 l1 p2) := hfa
    have HFB : Hid (f ib = .slice q1 l2 q2) := hfb
    rw [hfa] at ca
    rw [hfb] at cb
    have HSW : Hid (∃ m2, Mat ((w6.setCell ⟨lb, ia, none⟩ (.slice q1 l2 q2)).setCell ⟨lb, ib, none⟩ (.slice p1 l1 p2)).heap.size 26 3 ((w6.setCell ⟨lb, ia, none⟩ (.slice q1 l2 q2)).setCell ⟨lb, ib, none⟩ (.slice p1 l1 p2)) (.slice (some ⟨lb, 0, none⟩) ll lc) m2) := by
      have h := swap_rows HRM.out (i := ia) (j := ib) (by rw [← HLL.out]; exact hia2) (by rw [← HLL.out]; exact hib2)
      rw [HFA.out, HFB.out, ← HLL.out] at h
      exact h
    have HBS : Hid (Below w2.heap.size w2 ((w6.setCell ⟨lb, ia, none⟩ (.slice q1 l2 q2)).setCell ⟨lb, ib, none⟩ (.slice p1 l1 p2))) := (((Touch.refl _ _).setCell ia _).setCell ib _).below hbel hlb
    clear hl1e hl2e hfa hfb hrm hlb hbel
    have hiaI : (ia : Int) < (ll : Int) := by omega
    have hibI : (ib : Int) < (ll : Int) := by omega
    have hiaI0 : (0 : Int) ≤ (ia : Int) := by omega
    have hibI0 : (0 : Int) ≤ (ib : Int) := by omega
    have cb2 : ∃ q, (w6.setCell ⟨lb, ia, none⟩ (.slice q1 l2 q2)).cell? ⟨lb, ib, none⟩ = some q := by
      have h := (HRM.out.row.set ia (.slice q1 l2 q2)).cell (i := ib) (by omega)
      exact ⟨_, h⟩
    obtain ⟨qv, cb2⟩ := cb2
    have fb2 : (w6.setCell ⟨lb, ia, none⟩ (.slice q1 l2 q2)).frozen? ⟨lb, ib, none⟩ = false := (HRM.out.row.set ia (.slice q1 l2 q2)).frozen ib
    go_wp2_with fail
    obtain ⟨m2, hm2⟩ := HSW.out
    refine (shellSays_any _ m2 _ _ hm2 (HT.out.below HBS.out)).mono ?_
    rintro e w7 ⟨rfl, hb7⟩
    have HB7 : Hid (Below w2.heap.size w2 w7) := HBS.out.trans (hb7.mono HBS.out.size)
    clear hb7 hm2
    go_wp2
    go_ret
    exact ⟨rfl, HB7.out⟩

end Go.Proofs.YtmldemimdejciaaDoor
