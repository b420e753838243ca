/- The document's CutMay (of cuts that may be) and GoalMay. -/
import Derived.Test.YtdmkmljhljoojaaEm1
import Derived.Test.YtdmkmljhljoojaaMgAK
namespace Go.Proofs.Ytdmkmljhljoojaa
open Go.RowKit Lin
attribute [local go_sem ↓] Go.wp_at_zero Go.wp_at_succ

/-- A cut in a box of its own. -/
theorem cut_box (w : World) (d : Nat) (v : Value) : ∃ W0, W0 = w.alloc (.cells #[.int .i64 d, v] 24) ∧ Below w.heap.size w W0 ∧ W0.heap.size = w.heap.size + 1 ∧ ∀ W', Below W0.heap.size W0 W' → W'.cell? ⟨w.heap.size, 0, none⟩ = some (.int .i64 d) ∧ W'.cell? ⟨w.heap.size, 1, none⟩ = some v := by
  refine ⟨_, rfl, alloc_keep _ _, size_alloc _ _, fun W' hB => ?_⟩
  have h0 := (hB.block w.heap.size (by rw [size_alloc]; omega)).trans (alloc_new w (.cells #[.int .i64 d, v] 24))
  exact ⟨by simp [World.cell?, h0], by simp [World.cell?, h0]⟩

theorem far20 {r : List Int} (h : ∀ z ∈ r, z.natAbs ≤ 20) : r.any (farB · 20) = false := far_no (n := 20) h

set_option maxRecDepth 100000 in
set_option maxHeartbeats 1600000 in
theorem cutMay_ok (d : Nat) (rows : List (List Int)) (v : Value) (w : World) {B0 : Nat} (hv : Mat B0 25 3 w v rows) (hc : CutF d rows) :
    Calls Try.prog 10 #[.agg #[.int .i64 d, v]] w fun e w' => e = .returned (.int .i64 0) ∧ Below w.heap.size w w' := by
  obtain ⟨ao, cap, hvv, hlc, hcm⟩ := mat_open hv
  subst hvv
  obtain ⟨W0, hW0, hb0, hs0, hc0⟩ := cut_box w d (.slice ao rows.length cap)
  have HV : Hid (∀ W', Below W0.heap.size W0 W' → Mat B0 25 3 W' (.slice ao rows.length cap) rows) := fun W' hB => (hv.below hb0 (Nat.le_refl _)).below hB (Nat.le_refl _)
  have HC : Hid (CutF d rows) := hc
  have HW0 : Hid (W0 = w.alloc (.cells #[.int .i64 d, .slice ao rows.length cap] 24)) := hW0
  have HB0 : Hid (Below w.heap.size w W0) := hb0
  have HC0 : Hid (∀ W', Below W0.heap.size W0 W' → W'.cell? ⟨w.heap.size, 0, none⟩ = some (.int .i64 d) ∧ W'.cell? ⟨w.heap.size, 1, none⟩ = some (.slice ao rows.length cap)) := hc0
  have h1 : decide ((d : Int) < 1) = false := decide_eq_false (by have := hc.d1; omega)
  have h4 : (d : Int) ≤ 4 := by have := hc.d4; omega
  have h4' : decide ((4 : Int) < (d : Int)) = false := decide_eq_false (by omega)
  have h12 := hc.n12
  have hd1 := hc.d1
  clear hv hc hW0 hb0 hs0 hc0
  go_enter Try.func10, Try.ntmps10
  go_wp2
  rw [← HW0.out]
  go_loopw [3] (fun i wr => ∃ k : Nat, k ≤ rows.length ∧ i = .int .i64 k ∧ Below W0.heap.size W0 wr) (fun i _ => rows.length - (intOf i).toNat)
  case atStart => exact ⟨0, Nat.zero_le _, rfl, Below.refl _ _⟩
  case round =>
    obtain ⟨k, hk, rfl, hb⟩ := hrel
    have HB : Hid (Below W0.heap.size W0 wr) := hb
    obtain ⟨c0, c1⟩ := HC0.out wr hb
    clear hb
    by_cases hlt : k < rows.length
    · obtain ⟨vb, voo, vcp, rv, hvs, _, hvcell, hrv⟩ := mat_cell (HV.out wr HB.out) hlt
      simp only [Value.slice.injEq] at hvs
      obtain ⟨rfl, _, rfl⟩ := hvs
      have hmem : rows.getD k [] ∈ rows := by simp [hlt]
      have hlen := HC.out.len _ hmem
      obtain ⟨uo, uc, huv, _, _⟩ := sl_open hrv
      rw [hlen] at huv
      subst huv
      have HFA : Hid (Calls Try.prog 14 #[.slice uo (d + 1) uc, .int .i64 20] wr.drew fun e w' => e = .returned (.bool false) ∧ w' = wr.drew) := by
        have h := farAny_any _ (rows.getD k []) (.slice uo (d + 1) uc) 20 wr.drew hrv.drew (by decide) (by decide)
        rw [far20 (HC.out.bd _ hmem)] at h
        exact h
      clear hrv hlen hmem
      have hkI : (0 : Int) ≤ (k : Int) := by omega
      have hkJ : (k : Int) < (rows.length : Int) := by omega
      have hdd : (((d + 1 : Nat) : Int) != (d : Int) + 1) = false := by rw [bne_eq_false_iff_eq]; omega
      go_wp2
      go_region
      go_wp2_with fail
      refine HFA.out.mono ?_
      rintro e w1 ⟨rfl, hw1⟩
      rw [hw1]
      clear hw1
      go_wp2
      go_roundw
      case rel => exact ⟨k + 1, by omega, by go_num, HB.out.drew⟩
      case measure => simp [intOf]; omega
    · go_wp2
      go_ret
      exact ⟨rfl, HB0.out.trans (HB.out.mono HB0.out.size)⟩

/-- A row with nothing behind. -/
def zlR (d : Nat) (r : List Int) : List Int := r.take d ++ [0]
theorem zlR_len {d : Nat} {r : List Int} (h : r.length = d + 1) : (zlR d r).length = d + 1 := by simp [zlR, h]
theorem zlR_get {d i : Nat} {r : List Int} (h : r.length = d + 1) (hi : i < d + 1) : (zlR d r).getD i 0 = if i = d then 0 else r.getD i 0 := by
  unfold zlR
  by_cases e : i = d
  · subst e
    rw [if_pos rfl]
    simp [List.getD_eq_getElem?_getD, h]
  · rw [if_neg e]
    have hi2 : i < (r.take d).length := by simp [h]; omega
    rw [List.getD_eq_getElem?_getD, List.getElem?_append_left hi2, List.getElem?_take_of_lt (by omega), ← List.getD_eq_getElem?_getD]

/-- The goal is to grow. -/
def moR (g : List Int) : List Int := (g.map fun z => -z) ++ [-1]
def growL (d : Nat) (rows : List (List Int)) (g : List Int) : List (List Int) := rows.map (zlR d) ++ [moR g]

theorem moR_V {g : List Int} {i : Nat} (h : i < g.length) : V (moR g) i = - V g i := by
  unfold V moR
  rw [List.getD_eq_getElem?_getD, List.getElem?_append_left (by simpa using h)]
  simp [h]
theorem moR_last {g : List Int} : V (moR g) g.length = -1 := by
  unfold V moR
  rw [List.getD_eq_getElem?_getD, List.getElem?_append_right (by simp)]; simp

/-- There is a direction on which no row bars the goal's growing just if there is no way to it. -/
theorem grow_iff {d : Nat} {rows : List (List Int)} {g : List Int} (hg : g.length = d) (hl : ∀ r ∈ rows, r.length = d + 1) : empB d (growL d rows g) = false ↔ waysL rows g = [] := by
  rw [emp_fea, ways_none, hg]
  have hz : ∀ r ∈ rows, ∀ x, dot d (V (zlR d r)) x = dot d (V r) x := fun r hr x => dot_congr (fun i hi => by unfold V; rw [zlR_get (hl r hr) (by omega), if_neg (by omega)]) fun _ _ => rfl
  have hzd : ∀ r ∈ rows, V (zlR d r) d = 0 := fun r hr => by unfold V; rw [zlR_get (hl r hr) (by omega), if_pos rfl]
  have hm : ∀ x, dot d (V (moR g)) x = - dot d (V g) x := fun x => by
    rw [← dot_neg]
    exact dot_congr (fun i hi => moR_V (by omega)) fun _ _ => rfl
  have hmd : V (moR g) d = -1 := by rw [← hg]; exact moR_last
  constructor
  · rintro ⟨x, w, hw, h⟩
    refine ⟨x, fun r hr => ?_, ?_⟩
    · have := h (zlR d r) (List.mem_append_left _ (List.mem_map.2 ⟨r, hr, rfl⟩))
      rw [hz r hr, hzd r hr] at this
      rw [dot_comm]; omega
    · have := h (moR g) (List.mem_append_right _ (by simp))
      rw [hm, hmd] at this
      rw [dot_comm]; omega
  · rintro ⟨c, h1, h2⟩
    refine ⟨c, dot d c (V g), h2, fun r hr => ?_⟩
    rcases List.mem_append.1 hr with hr | hr
    · obtain ⟨q, hq, rfl⟩ := List.mem_map.1 hr
      have := h1 q hq
      rw [dot_comm] at this
      rw [hz q hq, hzd q hq]; omega
    · simp only [List.mem_singleton] at hr
      subst hr
      rw [hm, hmd, dot_comm d (V g)]; omega

/-- What is wrong with a goal. -/
def gmE (d : Nat) (rows : List (List Int)) (g : List Int) : Int := if empB d rows = true then 6 else if waysL rows g = [] then 7 else 0

theorem grow_rw {d : Nat} {rows : List (List Int)} {g : List Int} (hg : g.length = d) (hgb : ∀ z ∈ g, z.natAbs ≤ 20) (h : RwE d rows) : RwE d (growL d rows g) := fun r hr => by
  rcases List.mem_append.1 hr with hr | hr
  · obtain ⟨q, hq, rfl⟩ := List.mem_map.1 hr
    refine ⟨zlR_len (h q hq).1, fun z hz => ?_⟩
    unfold zlR at hz
    rcases List.mem_append.1 hz with h1 | h1
    · exact (h q hq).2 z (List.mem_of_mem_take h1)
    · simp at h1; subst h1; decide
  · simp only [List.mem_singleton] at hr
    subst hr
    refine ⟨by simp [moR, hg], fun z hz => ?_⟩
    unfold moR at hz
    rcases List.mem_append.1 hz with h1 | h1
    · obtain ⟨y, hy, rfl⟩ := List.mem_map.1 h1
      have := hgb y hy; omega
    · simp at h1; subst h1; decide

theorem CutF.rw {d : Nat} {rows : List (List Int)} (h : CutF d rows) : RwE d rows := fun r hr => ⟨h.len r hr, h.bd r hr⟩
set_option maxRecDepth 100000 in
set_option maxHeartbeats 4000000 in
theorem goalMay_any (d : Nat) (rows : List (List Int)) (g : List Int) (v gv : Value) (w : World) {B0 B1 : Nat} (hv : Mat B0 25 3 w v rows) (hgs : Sl B1 3 w gv (ints g)) (hc : CutF d rows) (hg : g.length = d) (hgb : ∀ z ∈ g, z.natAbs ≤ 20) :
    Calls Try.prog 5 #[.agg #[.int .i64 d, v], gv] w fun e w' => e = .returned (.int .i64 (gmE d rows g)) ∧ Below w.heap.size w w' := by
  obtain ⟨i0, hi, hz0, hz1, hz2⟩ := info_parts Try.info25
  obtain ⟨i3, hi3, hz30, hz31, hz32⟩ := info_parts Try.info3
  obtain ⟨ao, cap, hvv, hlc, hcm⟩ := mat_open hv
  obtain ⟨go, gc, hgv, hgl, hgm⟩ := sl_open hgs
  rw [hg] at hgv
  subst hvv hgv
  obtain ⟨W0, hW0, hb0, hs0, hc0⟩ := cut_box w d (.slice ao rows.length cap)
  have HV : Hid (∀ W', Below W0.heap.size W0 W' → Mat B0 25 3 W' (.slice ao rows.length cap) rows) := fun W' hB => (hv.below hb0 (Nat.le_refl _)).below hB (Nat.le_refl _)
  have HGV : Hid (∀ W', Below W0.heap.size W0 W' → Sl B1 3 W' (.slice go d gc) (ints g)) := fun W' hB => (hgs.below hb0 (Nat.le_refl _)).below hB (Nat.le_refl _)
  have HC : Hid (CutF d rows) := hc
  have HG : Hid (g.length = d) := hg
  have HGB : Hid (∀ z ∈ g, z.natAbs ≤ 20) := hgb
  have HW0 : Hid (W0 = w.alloc (.cells #[.int .i64 d, .slice ao rows.length cap] 24)) := hW0
  have HB0 : Hid (Below w.heap.size w W0) := hb0
  have HC0 : Hid (∀ W', Below W0.heap.size W0 W' → W'.cell? ⟨w.heap.size, 0, none⟩ = some (.int .i64 d) ∧ W'.cell? ⟨w.heap.size, 1, none⟩ = some (.slice ao rows.length cap)) := hc0
  have h12 := hc.n12
  have hd1 := hc.d1
  have hd3 := hc.d4
  have HCM : Hid (Calls Try.prog 10 #[.agg #[.int .i64 d, .slice ao rows.length cap]] W0 fun e w' => e = .returned (.int .i64 0) ∧ Below W0.heap.size W0 w') := cutMay_ok d rows _ W0 (HV.out W0 (Below.refl _ _)) hc
  have HFA : Hid (∀ W', Below W0.heap.size W0 W' → Calls Try.prog 14 #[.slice go d gc, .int .i64 20] W' fun e w' => e = .returned (.bool false) ∧ w' = W') := fun W' hB => by
    have h := farAny_any _ g (.slice go d gc) 20 W' (HGV.out W' hB) (by decide) (by decide)
    rw [far20 HGB.out] at h
    exact h
  have HEM : Hid (∀ W', Below W0.heap.size W0 W' → Calls Try.prog 11 #[.slice ao rows.length cap, .int .i64 d] W' fun e w' => e = .returned (.bool (empB d rows)) ∧ Below W'.heap.size W' w') := fun W' hB => by
    have h := empty_any d rows (.slice ao rows.length cap) W' (HV.out W' hB) hd1 hd3 (by omega) hc.rw
    rw [doc_emp hc.len] at h
    exact h
  have HEG : Hid (∀ W' v', Mat 0 25 3 W' v' (growL d rows g) → Calls Try.prog 11 #[v', .int .i64 d] W' fun e w' => e = .returned (.bool (empB d (growL d rows g))) ∧ Below W'.heap.size W' w') := fun W' v' hm => by
    have hr := grow_rw hg hgb hc.rw
    have h := empty_any d (growL d rows g) v' W' hm hd1 hd3 (by simp [growL]; omega) hr
    rw [doc_emp fun r h => (hr r h).1] at h
    exact h
  have HGE : Hid (gmE d rows g = if empB d rows = true then 6 else if empB d (growL d rows g) = true then 0 else 7) := by
    show _ = _
    unfold gmE
    by_cases he : empB d rows = true
    · rw [if_pos he, if_pos he]
    · rw [if_neg he, if_neg he]
      cases h2 : empB d (growL d rows g) with
      | false => rw [if_pos ((grow_iff hg hc.len).1 h2)]; rfl
      | true => rw [if_neg (fun h => by rw [(grow_iff hg hc.len).2 h] at h2; cases h2)]; rfl
  have hgd : ((d : Int) != (d : Int)) = false := by simp
  obtain ⟨nr, hnr⟩ : ∃ nr, nr = rows.length := ⟨_, rfl⟩
  have HNR : Hid (nr = rows.length) := hnr
  rw [← hnr] at HV HC0 HCM HEM HW0 h12
  rw [← hnr]
  clear hv hgs hc hg hgb hW0 hb0 hs0 hc0 hgl hlc hnr
  go_enter Try.func5, Try.ntmps5
  go_wp2_with fail
  rw [← HW0.out]
  refine HCM.out.mono ?_
  rintro e w1 ⟨rfl, hb1⟩
  have HB1 : Hid (Below W0.heap.size W0 w1) := hb1
  obtain ⟨c0, c1⟩ := HC0.out w1 hb1
  clear hb1 HCM
  go_wp2_with fail
  refine (HFA.out w1 HB1.out).mono ?_
  rintro e w' ⟨rfl, hw'⟩
  rw [hw']
  clear hw' HFA
  go_wp2_with fail
  refine (HEM.out w1 HB1.out).mono ?_
  rintro e w2 ⟨rfl, hb2⟩
  have HB2 : Hid (Below W0.heap.size W0 w2) := HB1.out.trans (hb2.mono HB1.out.size)
  clear hb2 c0 c1 HEM
  generalize empB d rows = eb at *
  cases eb
  case true =>
    have HE : Hid (gmE d rows g = 6) := HGE.out
    go_wp2
    go_ret
    exact ⟨by rw [HE.out]; rfl, HB0.out.trans (HB2.out.mono HB0.out.size)⟩
  have HGE2 : Hid (gmE d rows g = if empB d (growL d rows g) = true then 0 else 7) := HGE.out
  clear HGE
  go_wp2
  go_loopw [6, 7] (fun x i wr => ∃ k : Nat, k ≤ nr ∧ i = .int .i64 k ∧ Fr w2.heap.size 25 3 wr x ((rows.take k).map (zlR d)) ∧ Below w2.heap.size w2 wr) (fun _ i _ => nr - (intOf i).toNat)
  case atStart => exact ⟨0, Nat.zero_le _, rfl, Fr.nil _ _ _ _, Below.refl _ _⟩
  case round =>
    obtain ⟨k, hk, rfl, hfr, hbel⟩ := hrel
    have HF : Hid (Fr w2.heap.size 25 3 wr u6 ((rows.take k).map (zlR d))) := hfr
    have HB : Hid (Below w2.heap.size w2 wr) := hbel
    have hsz : w2.heap.size ≤ wr.heap.size := hbel.size
    have HBr : Hid (Below W0.heap.size W0 wr) := HB2.out.trans (hbel.mono HB2.out.size)
    obtain ⟨c0, c1⟩ := HC0.out wr HBr.out
    clear hfr hbel
    by_cases hlt : k < nr
    · have hltR : k < rows.length := by rw [← HNR.out]; exact hlt
      obtain ⟨vb, voo, vcp, rv, hvs, _, hvcell, hrv⟩ := mat_cell (HV.out wr HBr.out) hltR
      rw [← HNR.out] at hvs
      simp only [Value.slice.injEq, true_and] at hvs
      obtain ⟨rfl, rfl⟩ := hvs
      have hmem : rows.getD k [] ∈ rows := by simp [hltR]
      have hlen := HC.out.len _ hmem
      obtain ⟨uo, uc, huv, _, _⟩ := sl_open hrv
      rw [hlen] at huv
      subst huv
      have HSN : Hid ((rows.take (k + 1)).map (zlR d) = (rows.take k).map (zlR d) ++ [zlR d (rows.getD k [])]) := by
        show _ = _
        rw [List.take_succ_eq_append_getElem hltR, List.map_append]
        simp [hltR]
      have HLN : Hid (((rows.take k).map (zlR d)).length = k) := by show _ = _; simp; omega
      have HRL : Hid ((rows.getD k []).length = d + 1) := hlen
      have HCP : Hid (Calls Try.prog 15 #[.slice uo (d + 1) uc] wr fun e w' => ∃ u, e = .returned u ∧ w'.ownsRow wr.heap.size 3 1 u (d + 1) (ints (rows.getD k [])) ∧ Below wr.heap.size wr w') := by
        have h := copy_any _ (rows.getD k []) (.slice uo (d + 1) uc) wr hrv (by rw [hlen]; omega)
        rw [hlen] at h
        exact h
      clear hrv hlen hmem
      generalize rows.getD k [] = y at *
      have hkI : (0 : Int) ≤ (k : Int) := by omega
      have hkJ : (k : Int) < (nr : Int) := by omega
      go_wp2_with fail
      refine HCP.out.mono ?_
      rintro e w3 ⟨u, rfl, ho2, hb3⟩
      obtain ⟨gb, gcp, F, hu, hgge, hrow, hF, hgn, hgm'⟩ := own_rw ho2 (by omega)
      subst hu
      have ca := hrow.cell (i := d) (by omega)
      have cf := hrow.frozen d
      rw [hF d (by omega)] at ca
      obtain ⟨c0', c1'⟩ := HC0.out w3 (HBr.out.trans (hb3.mono HBr.out.size))
      have HROW : Hid ((w3.setCell ⟨gb, d, none⟩ (.int .i64 0)).rowIs gb 3 gcp (fun i => if i = d then .int .i64 0 else F i)) := hrow.set d _
      have HSL : Hid (Sl 0 3 (w3.setCell ⟨gb, d, none⟩ (.int .i64 0)) (.slice (some ⟨gb, 0, none⟩) (d + 1) gcp) (ints (zlR d y))) := row_slT HROW.out (fun i hi => by
        show (if i = d then Value.int .i64 0 else F i) = _
        rw [zlR_get HRL.out hi]
        by_cases e : i = d
        · rw [if_pos e, if_pos e]
        · rw [if_neg e, if_neg e, hF i hi]) (zlR_len HRL.out) hgn hgm'
      have HB3 : Hid (Below wr.heap.size wr (w3.setCell ⟨gb, d, none⟩ (.int .i64 0))) := ((Touch.refl _ _).setCell d _).below hb3 hgge
      have hdI : (d : Int) < (d : Int) + 1 := by omega
      have hdI0 : (0 : Int) ≤ (d : Int) := by omega
      clear hrow hF ho2 hb3 c0 c1 hvcell
      generalize y.getD d 0 = z at *
      go_upto_region 16 with fail
      obtain ⟨W3, hW3⟩ : ∃ W3, W3 = w3.setCell ⟨gb, d, none⟩ (.int .i64 0) := ⟨_, rfl⟩
      rw [← hW3] at HSL HB3 ⊢
      clear hW3 HROW ca cf c0' c1'
      obtain ⟨vs, g1, g2, g3⟩ := HF.out.below HB3.out (Nat.le_refl _)
      rw [HLN.out] at g1 g2 g3
      have G1 : Hid (vs.length = k) := g1
      have G2 : Hid (W3.ownsRow w2.heap.size 25 1 u6 k vs) := g2
      have G3 : Hid (∀ i, i < k → Sl 0 3 W3 (vs.getD i (.slice none 0 0)) (ints (((rows.take k).map (zlR d)).getD i []))) := g3
      have hsz3 : w2.heap.size ≤ W3.heap.size := Nat.le_trans hsz HB3.out.size
      have HB3w : Hid (Below w2.heap.size w2 W3) := HB.out.trans (HB3.out.mono hsz)
      clear g1 g2 g3
      go_wp2_with (first | (at_builtin; refine wpList_append_own _ rfl _ _ 22 rfl w2.heap.size 25 i0 (.slice none 0 0) 1 24 Try.underlying22 hi hz0 hz1 hz2 rfl (by decide) _ _ _ rfl (G2.out.alloc _) ⟨W3.heap.size, 0, none⟩ 1 1 [.slice (some ⟨gb, 0, none⟩) (d + 1) gcp] rfl rfl (one_new _ _ _) (one_slice _ _ _) ?d3 ?d4 ?d5 ?_))
      case d3 => unfold maxLen; omega
      case d4 => omega
      case d5 => simp; omega
      intro v' w4 ho hg' _
      have R1 : Hid (Fr w2.heap.size 25 3 w4 v' ((rows.take (k + 1)).map (zlR d))) := by
        have hp := Fr.push (e2 := 25) (e1 := 3) (m := (rows.take k).map (zlR d)) (u := .slice (some ⟨gb, 0, none⟩) (d + 1) gcp) (zs := zlR d y) (by decide) (by rw [HLN.out]; exact G1.out) (by rw [HLN.out]; exact G2.out.alloc _)
          (fun i hi => (G3.out i (by rw [HLN.out] at hi; exact hi)).alloc _) (HSL.out.alloc _) (by rw [HLN.out]; exact ho) hg'
        rw [← HSN.out] at hp
        exact hp
      have R2 : Hid (Below w2.heap.size w2 w4) := (HB3w.out.alloc hsz3 _).grown hg' (by simp; omega) (fun x hx => (G2.out.lt x hx).1)
      clear ho hg'
      go_wp2
      go_roundw
      case rel => exact ⟨k + 1, by omega, by go_num, R1.out, R2.out⟩
      case measure => simp [intOf]; omega
    · obtain rfl : nr = k := by omega
      have HFF : Hid (Fr w2.heap.size 25 3 wr u6 (rows.map (zlR d))) := by
        have h := HF.out
        rw [List.take_of_length_le (by rw [← HNR.out]; exact Nat.le_refl _)] at h
        exact h
      have HTU : Hid (Calls Try.prog 16 #[.slice go d gc] wr fun e w' => ∃ u, e = .returned u ∧ w'.ownsRow wr.heap.size 3 1 u d (ints (g.map fun z => -z)) ∧ Below wr.heap.size wr w') := by
        have h := turned_any _ g (.slice go d gc) wr (HGV.out wr HBr.out) (by rw [HG.out]; omega) (fun z hz => by have := HGB.out z hz; omega)
        rw [HG.out] at h
        exact h
      clear HF
      go_wp2_with fail
      refine HTU.out.mono ?_
      rintro e w3 ⟨u, rfl, hou, hb3⟩
      have HOU : Hid (w3.ownsRow wr.heap.size 3 1 u d (ints (g.map fun z => -z))) := hou
      have HB3 : Hid (Below wr.heap.size wr w3) := hb3
      have hsz3 : wr.heap.size ≤ w3.heap.size := hb3.size
      clear hou hb3 c0 c1
      go_wp2_with (first | (at_builtin; refine wpList_append_own _ rfl _ _ 25 rfl wr.heap.size 3 i3 (.int .i64 0) 1 8 Try.underlying25 hi3 hz30 hz31 hz32 rfl (by decide) _ _ _ rfl (HOU.out.alloc _) ⟨w3.heap.size, 0, none⟩ 1 1 [.int .i64 (-1)] rfl rfl (one_new _ _ _) (one_int _) ?d3 ?d4 ?d5 ?_))
      case d3 => unfold maxLen; omega
      case d4 => omega
      case d5 => simp; omega
      intro v4 w4 ho4 hg4 _
      have HP4 : Hid (w4.ownsRow wr.heap.size 3 1 v4 (d + 1) (ints (moR g)) ∧ Below wr.heap.size wr w4) := by
        have hlg : (g.map fun z => -z).length = d := by rw [List.length_map, HG.out]
        have := owns_push (z := -1) (N := d + 1) hsz3 (l := g.map fun z => -z) (by rw [hlg]; exact HOU.out) HB3.out (by rw [hlg]; exact ho4) hg4 (by rw [hlg])
        exact this
      obtain ⟨m1, m2, hm12⟩ := owns_form ho4
      subst hm12
      clear ho4 hg4
      obtain ⟨vs, g1, g2, g3⟩ := HFF.out.below HP4.out.2 (Nat.le_refl _)
      have HLN : Hid ((rows.map (zlR d)).length = nr) := by show _ = _; rw [List.length_map, HNR.out]
      rw [HLN.out] at g1 g2 g3
      have G1 : Hid (vs.length = nr) := g1
      have G2 : Hid (w4.ownsRow w2.heap.size 25 1 u6 nr vs) := g2
      have G3 : Hid (∀ i, i < nr → Sl 0 3 w4 (vs.getD i (.slice none 0 0)) (ints ((rows.map (zlR d)).getD i []))) := g3
      have HB4 : Hid (Below w2.heap.size w2 w4) := HB.out.trans (HP4.out.2.mono hsz)
      have hsz4 : w2.heap.size ≤ w4.heap.size := HB4.out.size
      have HB04 : Hid (Below W0.heap.size W0 w4) := HB2.out.trans (HB4.out.mono HB2.out.size)
      obtain ⟨c0, c1⟩ := HC0.out w4 HB04.out
      have HPU : Hid (∀ v' w5, w5.ownsRow w2.heap.size 25 1 v' (nr + 1) (vs ++ [.slice m1 (d + 1) m2]) → (w4.drew.alloc (.cells #[.slice m1 (d + 1) m2] 25)).grownBy w5 u6.ownBlock → Mat 0 25 3 w5 v' (growL d rows g) ∧ w5.cell? ⟨w.heap.size, 0, none⟩ = some (.int .i64 d) ∧ Below W0.heap.size W0 w5) := by
        intro v' w5 ho hg
        have hp := Fr.push (e2 := 25) (e1 := 3) (m := rows.map (zlR d)) (u := .slice m1 (d + 1) m2) (zs := moR g) (by decide) (by rw [HLN.out]; exact G1.out) (by rw [HLN.out]; exact G2.out.drew.alloc _)
          (fun i hi => ((G3.out i (by rw [HLN.out] at hi; exact hi)).drew).alloc _) ((Sl.own (w := w4.drew) HP4.out.1.drew).alloc _) (by rw [HLN.out]; exact ho) hg
        have hb5 : Below w2.heap.size w2 w5 := (HB4.out.drew.alloc (by show w2.heap.size ≤ w4.heap.size; omega) _).grown hg (by simp; show w2.heap.size ≤ w4.heap.size + 1; omega) (fun x hx => (G2.out.lt x hx).1)
        have hb05 := HB2.out.trans (hb5.mono HB2.out.size)
        exact ⟨fr_matE hp, (HC0.out w5 hb05).1, hb05⟩
      clear g1 g2 g3 c1 HP4
      go_wp2
      go_region_held3 (fun w' => w'.cell? ⟨w.heap.size, 0, none⟩ = some (.int .i64 d)) (first | go_keep | exact KS.out | exact KE.out)
        (first
          | (go_at_call 11; refine (HEG.out _ _ HMW.out).mono ?_; rintro e w6 ⟨rfl, hb6⟩; have HB6 : Hid (Below W0.heap.size W0 w6) := HBM.out.trans (hb6.mono HBM.out.size); have KE : Hid (w6.cell? ⟨w.heap.size, 0, none⟩ = some (.int .i64 d)) := (HC0.out w6 HB6.out).1)
          | (refine step_append_own (by rfl) _ _ 22 (by rfl) w2.heap.size 25 i0 (.slice none 0 0) 1 24 Try.underlying22 hi hz0 hz1 hz2 rfl (by decide) _ _ _ (by rfl) (G2.out.drew.alloc _) ⟨w4.heap.size, 0, none⟩ 1 1 [.slice m1 (d + 1) m2] (by rfl) rfl (one_new _ _ _) (one_slice _ _ _) (by unfold maxLen; omega) (by omega) (by simp; omega) ?_; intro v' w5 ho hg; have HM3 := HPU.out v' w5 ho hg; have HMW : Hid (Mat 0 25 3 w5 v' (growL d rows g)) := HM3.1; have KS : Hid (w5.cell? ⟨w.heap.size, 0, none⟩ = some (.int .i64 d)) := HM3.2.1; have HBM : Hid (Below W0.heap.size W0 w5) := HM3.2.2; clear HM3 ho hg))
      generalize empB d (growL d rows g) = eg at *
      clear HPU HEG
      cases eg
      · have HE : Hid (gmE d rows g = 7) := HGE2.out
        go_wp2
        go_ret
        exact ⟨by rw [HE.out]; rfl, HB0.out.trans (HB6.out.mono HB0.out.size)⟩
      · have HE : Hid (gmE d rows g = 0) := HGE2.out
        go_wp2
        go_ret
        exact ⟨by rw [HE.out]; rfl, HB0.out.trans (HB6.out.mono HB0.out.size)⟩

end Go.Proofs.Ytdmkmljhljoojaa
