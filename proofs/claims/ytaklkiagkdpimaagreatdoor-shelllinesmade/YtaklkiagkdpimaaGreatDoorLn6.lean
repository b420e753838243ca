/- facetref.LineOf: the sides, as a line comes to them, by the document. -/
import Derived.Test.YtaklkiagkdpimaaGreatDoorLn4
import Derived.Test.YtaklkiagkdpimaaGreatDoorLtA
import Derived.Test.YtaklkiagkdpimaaGreatDoorBetY
namespace Go.Proofs.YtaklkiagkdpimaaGreatDoor
open Go.RowKit Lin
attribute [local go_sem ↓] Go.wp_at_zero Go.wp_at_succ

theorem add_mid {d : Nat} {C : List (List Int)} {i : Nat} : addL (midL d C i) (C.getD i []) = midL d C (i + 1) := by
  unfold addL
  rw [midL_len]
  unfold midL
  refine List.map_congr_left fun j hj => ?_
  have hj' := List.mem_range.1 hj
  have e : ((List.range d).map fun i_1 => sumN i fun t => (C.getD t []).getD i_1 0).getD j 0 = sumN i fun t => (C.getD t []).getD j 0 := by simp [hj']
  rw [e]
  rfl

/-- Two rows of numbers that grow side by side. -/
structure OuI (B : Nat) (W0 : World) (ov uv : Value) (a b : Nat) (A U : List Value) (wr : World) : Prop where
  o : wr.ownsRow B 3 1 ov a A
  u : wr.ownsRow B 3 1 uv b U
  ap : ∀ g, ov.ownBlock = some g → uv.ownBlock ≠ some g
  bel : Below B W0 wr
  lo : B ≤ wr.heap.size

theorem OuI.drew {B : Nat} {W0 : World} {ov uv : Value} {a b : Nat} {A U : List Value} {wr : World} (h : OuI B W0 ov uv a b A U wr) (n : Nat) : OuI B W0 ov uv a b A U (wr.drewN n) :=
  ⟨h.o, h.u, h.ap, below_drewN h.bel n, h.lo⟩

theorem OuI.pushO {B : Nat} {W0 : World} {ov uv v' : Value} {a b : Nat} {A U : List Value} {x : Value} {wr w3 : World} (h : OuI B W0 ov uv a b A U wr) {t : Obj}
    (ho : w3.ownsRow B 3 1 v' (a + 1) (A ++ [x])) (hg : (wr.alloc t).grownBy w3 ov.ownBlock) (hb : v'.ownBlock = ov.ownBlock ∨ v'.ownBlock = some (wr.alloc t).heap.size) : OuI B W0 v' uv (a + 1) b (A ++ [x]) U w3 := by
  have hlo := h.lo
  refine ⟨ho, (h.u.alloc t).kept hg ?_, fun g hgv hu => ?_, (h.bel.alloc h.lo _).grown hg (by simp; omega) (fun x hx => (h.o.lt x hx).1), ?_⟩
  · by_cases e : uv.ownBlock = none
    · exact Or.inl e
    · refine Or.inr fun q => ?_
      obtain ⟨g, hg'⟩ := Option.ne_none_iff_exists'.1 e
      exact h.ap g (by rw [← q]; exact hg') hg'
  · rcases hb with hb | hb
    · exact h.ap g (by rw [← hb]; exact hgv) hu
    · rw [hb] at hgv
      have := (h.u.lt g hu).2
      simp at hgv
      omega
  · have := hg.size
    simp at this
    omega

theorem OuI.swap {B : Nat} {W0 : World} {ov uv : Value} {a b : Nat} {A U : List Value} {wr : World} (h : OuI B W0 ov uv a b A U wr) : OuI B W0 uv ov b a U A wr :=
  ⟨h.u, h.o, fun g h1 h2 => h.ap g h2 h1, h.bel, h.lo⟩

theorem fr_offB {G B : Nat} {w : World} {v : Value} {m : List (List Int)} {cur : Array Value} {j : Nat} {x : Value} (h : Fr B 22 3 w v m) (hG : w.heap[G]? = some (.cells cur 4 (0, 0))) (hB : G < B) : Fr B 22 3 (w.setCell ⟨G, j, none⟩ x) v m := by
  obtain ⟨vs, h1, h2, h3⟩ := h
  refine ⟨vs, h1, ownsRow_setCell_other h2 (a := ⟨G, j, none⟩) (fun e => by have : B ≤ G := (h2.lt _ e).1; omega) x, fun i hi => (h3 i hi).move fun b hl ht => ⟨Below.heap_setCell _ _ _ _ (fun e => ?_), ht⟩⟩
  rcases ht with ht | ⟨c, ht⟩
  · omega
  · subst e
    rw [hG] at ht
    simp at ht

theorem ovs_snoc {d : Nat} {C s : List (List Int)} {wy : List Int} {k : Nat} (hk : k < s.length) : ints (((s.take (k + 1)).map (hgt d C wy)).map fun t => t.2.1) = ints (((s.take k).map (hgt d C wy)).map fun t => t.2.1) ++ [.int .i64 (dotL ((s.getD k []).take d) wy)] := by
  rw [hgt_snoc hk, List.map_append]
  simp [ints, hgt]

theorem uns_snoc {d : Nat} {C s : List (List Int)} {wy : List Int} {k : Nat} (hk : k < s.length) : ints (((s.take (k + 1)).map (hgt d C wy)).map fun t => t.2.2) = ints (((s.take k).map (hgt d C wy)).map fun t => t.2.2) ++ [.int .i64 ((s.getD k []).getD d 0 * C.length - dotL ((s.getD k []).take d) (midL d C C.length))] := by
  rw [hgt_snoc hk, List.map_append]
  simp [ints, hgt]

set_option maxRecDepth 100000 in
set_option maxHeartbeats 6400000 in
theorem lineOf_any (d : Nat) (P : List (List Int)) (wy : List Int) (v u : Value) (w : World) (hv : Mat w.heap.size 22 3 w v P) (hu : Sl w.heap.size 3 w u (ints wy)) (hg : Good d P) (hbx : Box d 6 P) (hn : P.length ≤ 10) (hwl : wy.length = d) (hw : ∀ z ∈ wy, z.natAbs ≤ 20) :
    Calls Tryz.prog 11 #[.agg #[.int .i64 d, v], u] w fun e w' => ∃ s C : List (List Int), SAsc s ∧ (∀ r, r ∈ s ↔ r ∈ rowsD P d) ∧ SAsc C ∧ (∀ y, y ∈ C ↔ y ∈ crn d s P) ∧ ((∃ (ps : List Nat) (xo : Option Addr) (xc : Nat), TknI (s.map (hgt d C wy)) ps ∧ ps.length = s.length ∧ e = .returned (.tuple #[.slice xo s.length xc, .int .i64 0]) ∧ Mat 0 22 3 w' (.slice xo s.length xc) (ps.map fun p => memL ((s.map (hgt d C wy)).getD p (0, 0, 1)).1)) ∨ (¬ Apt (s.map (hgt d C wy)) ∧ e = .returned (.tuple #[.slice none 0 0, .int .i64 8]))) ∧ Below w.heap.size w w' := by
  obtain ⟨i0, hi, hz0, hz1, hz2⟩ := info_parts Tryz.info22
  obtain ⟨i3, hi3, hz30, hz31, hz32⟩ := info_parts Tryz.info3
  obtain ⟨po, pc, rfl, hlc, hcmx⟩ := mat_open hv
  obtain ⟨uo, uc, rfl, hlu, hcu⟩ := sl_open hu
  rw [hwl] at hu hlu ⊢
  have h1 := hg.d1
  have h4 := hg.d4
  have h2 := hg.n2
  obtain ⟨W, hW⟩ : ∃ W, W = w.alloc (.cells #[.int .i64 d, .slice po P.length pc] 27) := ⟨_, rfl⟩
  have hbw : Below w.heap.size w W := by rw [hW]; exact alloc_keep _ _
  have HW : Hid (Below w.heap.size w W) := hbw
  have hsW : W.heap.size = w.heap.size + 1 := by rw [hW]; exact size_alloc _ _
  have c0 : W.cell? ⟨w.heap.size, 0, none⟩ = some (.int .i64 d) := by rw [hW]; simp
  have c1 : W.cell? ⟨w.heap.size, 1, none⟩ = some (.slice po P.length pc) := by rw [hW]; simp
  have HC : Hid (∀ X, Below W.heap.size W X → X.cell? ⟨w.heap.size, 0, none⟩ = some (.int .i64 d) ∧ X.cell? ⟨w.heap.size, 1, none⟩ = some (.slice po P.length pc)) := fun X h => ⟨(h.cell (lt_of_cell c0)).trans c0, (h.cell (lt_of_cell c1)).trans c1⟩
  have HM : Hid (∀ X, Below W.heap.size W X → Mat X.heap.size 22 3 X (.slice po P.length pc) P) := fun X h => (((hv.below hbw (Nat.le_refl _)).any (Nat.le_refl _)).below h (Nat.le_refl _)).any (Nat.le_refl _)
  have HU : Hid (∀ X, Below W.heap.size W X → Sl W.heap.size 3 X (.slice uo d uc) (ints wy)) := fun X h => ((hu.below hbw (Nat.le_refl _)).any (Nat.le_refl _)).below h (Nat.le_refl _)
  have K1 : Hid (∀ X, Below W.heap.size W X → Calls Tryz.prog 18 #[.slice po P.length pc] X fun e w' => ∃ (s : List (List Int)) (ro : Option Addr) (rc : Nat), e = .returned (.slice ro s.length rc) ∧ (SAsc s ∧ (∀ r, r ∈ s ↔ r ∈ rowsD P d) ∧ Mat 0 22 3 w' (.slice ro s.length rc) s ∧ Below W.heap.size W w')) := fun X h => by
    refine (rowsOf_any X.heap.size d P _ X (HM.out X h) h1 h4 (by omega) (by omega) (box_up hbx)).mono ?_
    rintro e w' ⟨x, s, rfl, hf, hs, hm, hb⟩
    have hM := fr_mat0F hf
    obtain ⟨ro, rc, rfl, _, _⟩ := mat_open hM
    exact ⟨s, ro, rc, rfl, hs, hm, hM, h.trans (hb.mono h.size)⟩
  have K2 : Hid (∀ X s, SAsc s → (∀ r, r ∈ s ↔ r ∈ rowsD P d) → Below W.heap.size W X → Calls Tryz.prog 19 #[.slice po P.length pc] X fun e w' => ∃ (C : List (List Int)) (co : Option Addr) (cc : Nat), e = .returned (.slice co C.length cc) ∧ (SAsc C ∧ (∀ y, y ∈ C ↔ y ∈ crn d s P) ∧ Mat 0 22 3 w' (.slice co C.length cc) C ∧ Below X.heap.size X w')) := fun X s hs hm h => by
    refine (cornersOf_any X.heap.size d P _ X (HM.out X h) h1 h4 (by omega) (by omega) hbx).mono ?_
    rintro e w' ⟨x, C, s', rfl, hf, hc, hs', hm', hcm, hb⟩
    have e : s' = s := sasc_ext s' s hs' hs fun r => (hm' r).trans (hm r).symm
    subst e
    have hM := fr_mat0F hf
    obtain ⟨co, cc, rfl, _, _⟩ := mat_open hM
    exact ⟨C, co, cc, rfl, hc, hcm, hM, hb⟩
  have HFA : Hid (∀ s C, SAsc s → (∀ r, r ∈ s ↔ r ∈ rowsD P d) → SAsc C → (∀ y, y ∈ C ↔ y ∈ crn d s P) → Box d 6 C ∧ C.length ≤ 10 ∧ s.length ≤ 16777216 ∧ (∀ r ∈ s, r.length = d + 1 ∧ (∀ z ∈ r.take d, z.natAbs ≤ 10368) ∧ (r.getD d 0).natAbs ≤ 248832 ∧ 0 < (hgt d C wy r).2.2)) := fun s C hs hm hc hcm => by
    obtain ⟨hgC, hrC⟩ := doc_body hg hm hc hcm
    have hCP : ∀ y ∈ C, y ∈ P := fun y hy => (List.mem_filter.1 ((hcm y).1 hy)).1
    have hCB : Box d 6 C := fun y hy => hbx y (hCP y hy)
    have hA : ∀ r ∈ s, ∀ z ∈ r.take d, z.natAbs ≤ 10368 := fun r hr => rowsD_12 hbx h1 h4 ((hm r).1 hr)
    have hl : C.length ≤ 10 := Nat.le_trans (nodup_lenL C P hc.nodup hCP) hn
    refine ⟨hCB, hl, ?_, fun r hr => ⟨(rowsC_fit hgC.box h1 (by omega) (fun _ => Iff.rfl) ((hrC r).1 hr)).len, hA r hr, row_last hgC hCB ((hrC r).1 hr) (hA r hr), hgt_posC hgC wy ((hrC r).1 hr)⟩⟩
    exact rowsD_len h4 (by omega) hs hm
  clear hv hu hg hbx hbw c0 c1
  go_enter Tryz.func11, Tryz.ntmps11
  obtain ⟨e0, e1⟩ := HC.out W (Below.refl _ _)
  go_wp2_with fail
  rw [← hW]
  clear hW
  refine (K1.out W (Below.refl _ _)).mono ?_
  rintro e w1 ⟨s, ro, rc, rfl, hs, hm, hR1, hb1⟩
  have HB1 : Hid (Below W.heap.size W w1) := hb1
  have HS : Hid (SAsc s ∧ ∀ r, r ∈ s ↔ r ∈ rowsD P d) := ⟨hs, hm⟩
  have HR1 : Hid (Mat 0 22 3 w1 (.slice ro s.length rc) s) := hR1
  clear hb1 e0 e1 K1 hs hm hR1
  obtain ⟨e0, e1⟩ := HC.out w1 HB1.out
  go_wp2_with fail
  refine (K2.out w1 s HS.out.1 HS.out.2 HB1.out).mono ?_
  rintro e w2 ⟨C, co, cc, rfl, hc, hcm, hC2, hb2⟩
  have HB2 : Hid (Below W.heap.size W w2) := HB1.out.trans (hb2.mono HB1.out.size)
  have HCC : Hid (SAsc C ∧ ∀ y, y ∈ C ↔ y ∈ crn d s P) := ⟨hc, hcm⟩
  have HR : Hid (∀ X, Below w2.heap.size w2 X → Mat 0 22 3 X (.slice ro s.length rc) s) := fun X h => (HR1.out.below hb2 (Nat.le_refl _)).below h (Nat.le_refl _)
  have HCN : Hid (∀ X, Below w2.heap.size w2 X → Mat 0 22 3 X (.slice co C.length cc) C) := fun X h => hC2.below h (Nat.le_refl _)
  obtain ⟨f1, f2, f3, f4⟩ := HFA.out s C HS.out.1 HS.out.2 hc hcm
  have HBC : Hid (Box d 6 C) := f1
  have HRF : Hid (∀ r ∈ s, r.length = d + 1 ∧ (∀ z ∈ r.take d, z.natAbs ≤ 10368) ∧ (r.getD d 0).natAbs ≤ 248832 ∧ 0 < (hgt d C wy r).2.2) := f4
  have hCl := f2
  have hsl := f3
  clear hb2 e0 e1 K2 hc hcm hC2 HR1 HFA f1 f4 HM
  have HGB : Hid (∀ r ∈ s, (dotL (r.take d) wy).natAbs ≤ 829440 ∧ (dotL (r.take d) (midL d C C.length)).natAbs ≤ 2488320 ∧ (r.getD d 0 * C.length).natAbs ≤ 2488320) := fun r hr => hgt_bd h4 HBC.out hCl hw (HRF.out r hr).2.1 (HRF.out r hr).2.2.1
  have HS1 : Hid (∀ r ∈ s, Sm (r.take d) wy) := fun r hr => ⟨by simp; omega, by simp; omega, fun z hz => by have := (HRF.out r hr).2.1 z hz; omega, fun z hz => by have := hw z hz; omega⟩
  have HS2 : Hid (∀ r ∈ s, Sm (r.take d) (midL d C C.length)) := fun r hr => ⟨by rw [midL_len]; simp; omega, by simp; omega, fun z hz => by have := (HRF.out r hr).2.1 z hz; omega, fun z hz => by have := midL_bd HBC.out (Nat.le_refl _) z hz; omega⟩
  have HCX : Hid (∀ X, Below w2.heap.size w2 X → X.cell? ⟨w.heap.size, 0, none⟩ = some (.int .i64 d)) := fun X h => (HC.out X (HB2.out.trans (h.mono HB2.out.size))).1
  have HUX : Hid (∀ X, Below w2.heap.size w2 X → Sl W.heap.size 3 X (.slice uo d uc) (ints wy)) := fun X h => HU.out X (HB2.out.trans (h.mono HB2.out.size))
  have HBE : Hid (∀ X, Below w2.heap.size w2 X → Below w.heap.size w X) := fun X h => (HW.out.trans (HB2.out.mono HW.out.size)).trans (h.mono (Nat.le_trans HW.out.size HB2.out.size))
  clear HC HU hw hwl
  have hmk : ∀ w : World, (Instr.makeSlice 22 (.int .i64 (d : Int)) (.int .i64 (d : Int))).run Tryz.prog w = .ok (.slice (some ⟨w.heap.size, 0, none⟩) d d) (w.alloc (.cells (madeCells #[.int .i64 0] d) 3)) := run_make_row' (P := Tryz.prog) 22 3 (.int .i64 0) 8 Tryz.underlying22 (by kernel_rfl) rfl .i64 .i64 d (by omega) (by omega)
  obtain ⟨W3, hW3⟩ : ∃ W3, W3 = w2.alloc (.cells (madeCells #[.int .i64 0] d) 3) := ⟨_, rfl⟩
  have HM0 : Hid (Sl 0 3 W3 (.slice (some ⟨w2.heap.size, 0, none⟩) d d) (ints (midL d C 0)) ∧ Below w2.heap.size w2 W3) := by
    refine ⟨Sl.own (rowN_own (B := 0) (F := fun _ => .int .i64 0) ?_ (Nat.zero_le _) (midL_len _ _ _) (fun i hi => ?_) (Nat.le_refl _) (by omega)), by rw [hW3]; exact alloc_keep _ _⟩
    · rw [hW3]
      refine ⟨_, alloc_at _ _, by simp [madeCells], fun i hi => ?_⟩
      rw [← Array.getElem?_toList, toList_madeCells_one]
      simp [hi]
    · rw [midL_at C 0 hi]
      rfl
  have e0 := HCX.out w2 (Below.refl _ _)
  go_upto_region 5 with fail
  rw [← hW3]
  clear hW3 e0 hmk
  go_wp2
  go_loopw [9, 10] (fun x iv wr => ∃ i : Nat, ∃ xo xc, i ≤ C.length ∧ iv = .int .i64 (i : Int) ∧ x = .slice xo d xc ∧ Sl 0 3 wr (.slice xo d xc) (ints (midL d C i)) ∧ Below w2.heap.size w2 wr) (fun _ iv _ => C.length - (intOf iv).toNat)
  case atStart => exact ⟨0, _, _, Nat.zero_le _, rfl, rfl, HM0.out.1, HM0.out.2⟩
  case round =>
    obtain ⟨i, xo, xc, hi', rfl, rfl, hsl9, hb9⟩ := hrel
    have HX : Hid (Sl 0 3 wr (.slice xo d xc) (ints (midL d C i))) := hsl9
    have HB9 : Hid (Below w2.heap.size w2 wr) := hb9
    clear hsl9 hb9 HM0
    by_cases hlt : i < C.length
    · obtain ⟨qb, qo, qcp, q1, hqs, _, hqc, hq1⟩ := mat_cell (HCN.out wr HB9.out) hlt
      simp only [Value.slice.injEq, true_and] at hqs
      obtain ⟨rfl, rfl⟩ := hqs
      have hkm : C.getD i [] ∈ C := by simp [hlt]
      have hyl := (HBC.out _ hkm).1
      obtain ⟨yo, yc, rfl, hy1, hy2⟩ := sl_open hq1
      rw [hyl] at hqc hq1 hy1
      have HAD : Hid (Calls Tryz.prog 20 #[.slice xo d xc, .slice yo d yc, .int .i64 1] wr fun e w' => ∃ zo zc, e = .returned (.slice zo d zc) ∧ (Sl 0 3 w' (.slice zo d zc) (ints (midL d C (i + 1))) ∧ Below w2.heap.size w2 w')) := by
        have hh := added_any 0 (midL d C i) (C.getD i []) (.slice xo d xc) _ wr HX.out hq1 (by rw [midL_len, hyl]; exact Nat.le_refl _) (by rw [midL_len]; omega) (fun z hz => by have := midL_bd HBC.out (Nat.le_of_lt hlt) z hz; omega) (fun z hz => by have := (HBC.out _ hkm).2 z hz; omega)
        refine hh.mono ?_
        rintro e w' ⟨x, rfl, ho, hb⟩
        rw [midL_len, add_mid] at ho
        obtain ⟨zo, zc, rfl⟩ := owns_form ho
        exact ⟨zo, zc, rfl, Sl.own ho, HB9.out.trans (hb.mono HB9.out.size)⟩
      have hiI : (i : Int) < (C.length : Int) := by omega
      clear hq1 hkm hyl
      go_wp2_with fail
      refine HAD.out.mono ?_
      rintro e w3 ⟨zo, zc, rfl, hz3⟩
      have HZ3 : Hid (Sl 0 3 w3 (.slice zo d zc) (ints (midL d C (i + 1))) ∧ Below w2.heap.size w2 w3) := hz3
      clear hz3 HAD
      go_wp2
      go_roundw
      case rel => exact ⟨i + 1, zo, zc, by omega, by go_num, rfl, HZ3.out.1, HZ3.out.2⟩
      case measure => simp [intOf]; omega
    · have hie : i = C.length := by omega
      subst hie
      clear hlt hi'
      obtain ⟨w3, hw3⟩ : ∃ w3, w3 = wr := ⟨wr, rfl⟩
      rw [← hw3] at HX HB9 ⊢
      clear hw3 wr
      have HX3 : Hid (∀ X, Below w3.heap.size w3 X → Below w2.heap.size w2 X ∧ Sl 0 3 X (.slice xo d xc) (ints (midL d C C.length))) := fun X h => ⟨HB9.out.trans (h.mono HB9.out.size), HX.out.below h (Nat.le_refl _)⟩
      clear HX HB9
      go_wp2
      go_loopw [11, 12, 13] (fun ov uv iv wr => ∃ k : Nat, k ≤ s.length ∧ iv = .int .i64 (k : Int) ∧ OuI w3.heap.size w3 ov uv k k (ints (((s.take k).map (hgt d C wy)).map fun t => t.2.1)) (ints (((s.take k).map (hgt d C wy)).map fun t => t.2.2)) wr) (fun _ _ iv _ => s.length - (intOf iv).toNat)
      case atStart => exact ⟨0, Nat.zero_le _, rfl, World.ownsRow_nil _ _ _ _, World.ownsRow_nil _ _ _ _, fun g h => by simp [Value.ownBlock] at h, Below.refl _ _, Nat.le_refl _⟩
      case round =>
        obtain ⟨k, hk, rfl, hI⟩ := hrel
        have HI : Hid (OuI w3.heap.size w3 u11 u12 k k (ints (((s.take k).map (hgt d C wy)).map fun t => t.2.1)) (ints (((s.take k).map (hgt d C wy)).map fun t => t.2.2)) wr) := hI
        obtain ⟨oo, oc, rfl⟩ := owns_form hI.o
        obtain ⟨no, nc, rfl⟩ := owns_form hI.u
        clear hI
        by_cases hlt : k < s.length
        · obtain ⟨qb, qo, qcp, q1, hqs, _, hqc0, hq1⟩ := mat_cell (HR.out w2 (Below.refl _ _)) hlt
          simp only [Value.slice.injEq, true_and] at hqs
          obtain ⟨rfl, rfl⟩ := hqs
          have hkm : s.getD k [] ∈ s := by simp [hlt]
          have hrl := (HRF.out _ hkm).1
          obtain ⟨rb, rf, rcc, rfl, hrc1, hrd0⟩ := sl_cell hq1 (k := d) (by rw [hrl]; omega)
          have HTK : Hid (∀ X, Below w2.heap.size w2 X → Sl W.heap.size 3 X (.slice (some ⟨rb, rf, none⟩) d rcc) (ints ((s.getD k []).take d))) := fun X h => by
            have h1 := hq1.below h (Nat.le_refl _)
            exact (Sl.take (n := d) h1 (by rw [hrl]; omega)).more (Nat.zero_le _)
          have HCE : Hid (∀ X, Below w2.heap.size w2 X → X.cell? ⟨w.heap.size, 0, none⟩ = some (.int .i64 d) ∧ X.cell? ⟨qb, qo + k, none⟩ = some (.slice (some ⟨rb, rf, none⟩) (d + 1) rcc) ∧ X.cell? ⟨rb, rf + d, none⟩ = some (.int .i64 ((s.getD k []).getD d 0))) := fun X h => by
            rw [hrl] at hqc0
            exact ⟨HCX.out X h, (h.cell (lt_of_cell hqc0)).trans hqc0, (h.cell (lt_of_cell hrd0)).trans hrd0⟩
          have HD1 : Hid (∀ X, Below w3.heap.size w3 X → Calls Tryz.prog 21 #[.slice (some ⟨rb, rf, none⟩) d rcc, .slice uo d uc] X fun e w' => e = .returned (.int .i64 (dotL ((s.getD k []).take d) wy)) ∧ ∃ n, w' = X.drewN n) := fun X h => dotR_any W.heap.size _ _ _ _ X (HTK.out X (HX3.out X h).1) (HUX.out X (HX3.out X h).1) (HS1.out _ hkm)
          have HD2 : Hid (∀ X, Below w3.heap.size w3 X → Calls Tryz.prog 21 #[.slice (some ⟨rb, rf, none⟩) d rcc, .slice xo d xc] X fun e w' => e = .returned (.int .i64 (dotL ((s.getD k []).take d) (midL d C C.length))) ∧ ∃ n, w' = X.drewN n) := fun X h => dotR_any W.heap.size _ _ _ _ X (HTK.out X (HX3.out X h).1) ((HX3.out X h).2.more (Nat.zero_le _)) (HS2.out _ hkm)
          obtain ⟨hg1, hg2, hg3⟩ := HGB.out _ hkm
          have HN1 : Hid (ints (((s.take (k + 1)).map (hgt d C wy)).map fun t => t.2.1) = ints (((s.take k).map (hgt d C wy)).map fun t => t.2.1) ++ [.int .i64 (dotL ((s.getD k []).take d) wy)]) := ovs_snoc hlt
          have HN2 : Hid (ints (((s.take (k + 1)).map (hgt d C wy)).map fun t => t.2.2) = ints (((s.take k).map (hgt d C wy)).map fun t => t.2.2) ++ [.int .i64 ((s.getD k []).getD d 0 * C.length - dotL ((s.getD k []).take d) (midL d C C.length))]) := uns_snoc hlt
          have hkI : (k : Int) < (s.length : Int) := by omega
          have hdI : (d : Int) < (d : Int) + 1 := by omega
          have hdI0 : (0 : Int) ≤ (d : Int) := by omega
          rw [hrl] at hrc1
          have hdc : (d : Int) ≤ (rcc : Int) := by omega
          have hdc2 : d ≤ rcc := by omega
          clear hq1 hkm hrl hqc0 hrd0
          generalize dotL ((s.getD k []).take d) wy = ov at *
          generalize dotL ((s.getD k []).take d) (midL d C C.length) = md at *
          generalize (s.getD k []).getD d 0 = lst at *
          obtain ⟨pr, hpr⟩ : ∃ pr, pr = lst * (C.length : Int) := ⟨_, rfl⟩
          have hw1 : IntKind.wrap .i64 (lst * (C.length : Int)) = pr := by rw [← hpr, IntKind.wrap_i64]; omega
          rw [← hpr] at hg3 HN2
          clear hpr
          have hw2 : IntKind.wrap .i64 (pr - md) = pr - md := by rw [IntKind.wrap_i64]; omega
          have HB2X : Hid (∀ X, Below w3.heap.size w3 X → Below w2.heap.size w2 X) := fun X h => (HX3.out X h).1
          go_upto_region 14 with fail
          obtain ⟨WD, hWD⟩ : ∃ WD, WD = wr.drew := ⟨_, rfl⟩
          have HID : Hid (OuI w3.heap.size w3 (.slice oo k oc) (.slice no k nc) k k (ints (((s.take k).map (hgt d C wy)).map fun t => t.2.1)) (ints (((s.take k).map (hgt d C wy)).map fun t => t.2.2)) WD) := by rw [hWD]; exact ⟨HI.out.o, HI.out.u, HI.out.ap, HI.out.bel.drew, HI.out.lo⟩
          have S0 := HCE.out WD (HB2X.out WD HID.out.bel)
          rw [hWD] at S0
          refine wp_region_held_drew (S := fun X => X.cell? ⟨w.heap.size, 0, none⟩ = some (.int .i64 d) ∧ X.cell? ⟨qb, qo + k, none⟩ = some (.slice (some ⟨rb, rf, none⟩) (d + 1) rcc) ∧ X.cell? ⟨rb, rf + d, none⟩ = some (.int .i64 lst)) (by kernel_rfl) S0 (fun hHeld => ?_)
          rw [← hWD] at hHeld ⊢
          clear hWD S0 HI
          refine wpAnyH_tk (i := 0) (d := 49) (v := .slice oo k oc) rfl rfl (by kernel_rfl) (by kernel_rfl) (by kernel_rfl) (fun _ _ _ h => h) (.inl ⟨by rfl, by (intro wq hSw; (try dsimp only at hSw); go_simp; (try (first | rfl | omega)))⟩) hHeld ?_
          simp only [Act.put, List.setIfInBounds_toArray, List.set_cons_zero, List.set_cons_succ]
          refine wpAnyH_tk (i := 1) (d := 50) (v := .slice (some ⟨qb, qo, none⟩) s.length rc) rfl rfl (by kernel_rfl) (by kernel_rfl) (by kernel_rfl) (fun _ _ _ h => h) (.inl ⟨by rfl, by (intro wq hSw; (try dsimp only at hSw); go_simp; (try (first | rfl | omega)))⟩) hHeld ?_
          simp only [Act.put, List.setIfInBounds_toArray, List.set_cons_zero, List.set_cons_succ]
          refine wpAnyH_tk (i := 2) (d := 51) (v := .int .i64 (k : Int)) rfl rfl (by kernel_rfl) (by kernel_rfl) (by kernel_rfl) (fun _ _ _ h => h) (.inl ⟨by rfl, by (intro wq hSw; (try dsimp only at hSw); go_simp; (try (first | rfl | omega)))⟩) hHeld ?_
          simp only [Act.put, List.setIfInBounds_toArray, List.set_cons_zero, List.set_cons_succ]
          refine wpAnyH_tk (i := 3) (d := 52) (v := .pointer (some ⟨qb, qo + k, none⟩)) rfl rfl (by kernel_rfl) (by kernel_rfl) (by kernel_rfl) (fun _ _ _ h => h) (.inl ⟨by rfl, by (intro wq hSw; (try dsimp only at hSw); go_simp; (try (first | rfl | omega)))⟩) hHeld ?_
          simp only [Act.put, List.setIfInBounds_toArray, List.set_cons_zero, List.set_cons_succ]
          refine wpAnyH_tk (i := 4) (d := 53) (v := .slice (some ⟨rb, rf, none⟩) (d + 1) rcc) rfl rfl (by kernel_rfl) (by kernel_rfl) (by kernel_rfl) (fun _ _ _ h => h) (.inl ⟨by rfl, by (intro wq hSw; (try dsimp only at hSw); go_simp; (try (first | rfl | omega)))⟩) hHeld ?_
          simp only [Act.put, List.setIfInBounds_toArray, List.set_cons_zero, List.set_cons_succ]
          refine wpAnyH_tk (i := 5) (d := 54) (v := .pointer (some ⟨w.heap.size, 0, none⟩)) rfl rfl (by kernel_rfl) (by kernel_rfl) (by kernel_rfl) (fun _ _ _ h => h) (.inl ⟨by rfl, by (intro wq hSw; (try dsimp only at hSw); go_simp; (try (first | rfl | omega)))⟩) hHeld ?_
          simp only [Act.put, List.setIfInBounds_toArray, List.set_cons_zero, List.set_cons_succ]
          refine wpAnyH_tk (i := 6) (d := 55) (v := .int .i64 (d : Int)) rfl rfl (by kernel_rfl) (by kernel_rfl) (by kernel_rfl) (fun _ _ _ h => h) (.inl ⟨by rfl, by (intro wq hSw; (try dsimp only at hSw); go_simp; (try (first | rfl | omega)))⟩) hHeld ?_
          simp only [Act.put, List.setIfInBounds_toArray, List.set_cons_zero, List.set_cons_succ]
          refine wpAnyH_tk (i := 7) (d := 56) (v := .slice (some ⟨rb, rf, none⟩) d rcc) rfl rfl (by kernel_rfl) (by kernel_rfl) (by kernel_rfl) (fun _ _ _ h => h) (.inl ⟨by rfl, by (intro wq hSw; (try dsimp only at hSw); go_simp; (try (first | rfl | omega)))⟩) hHeld ?_
          simp only [Act.put, List.setIfInBounds_toArray, List.set_cons_zero, List.set_cons_succ]
          refine wpAnyH_tk (i := 8) (d := 57) (v := .slice uo d uc) rfl rfl (by kernel_rfl) (by kernel_rfl) (by kernel_rfl) (fun _ _ _ h => h) (.inl ⟨by rfl, by (intro wq hSw; (try dsimp only at hSw); go_simp; (try (first | rfl | omega)))⟩) hHeld ?_
          simp only [Act.put, List.setIfInBounds_toArray, List.set_cons_zero, List.set_cons_succ]
          refine wpAnyH_ready (rs := [9]) (by kernel_rfl) (by simp) ?_
          refine ready_tk (i := 9) rfl (by rfl) (fun K hK => ?_) AllReadyH.nil
          go_simp
          refine (HD1.out WD HID.out.bel).mono ?_
          rintro e WE ⟨rfl, n4, hWE⟩
          have HIE : Hid (OuI w3.heap.size w3 (.slice oo k oc) (.slice no k nc) k k (ints (((s.take k).map (hgt d C wy)).map fun t => t.2.1)) (ints (((s.take k).map (hgt d C wy)).map fun t => t.2.2)) WE) := by rw [hWE]; exact HID.out.drew n4
          refine hK.out _ _ (HCE.out WE (HB2X.out WE HIE.out.bel)) (fun hHeld => ?_)
          clear hK K hWE
          try simp only [Act.put, List.setIfInBounds_toArray, List.set_cons_zero, List.set_cons_succ]
          refine wpAnyH_ready (rs := [10]) (by kernel_rfl) (by simp) ?_
          refine ready_tk (i := 10) rfl (by rfl) (fun K hK => ?_) AllReadyH.nil
          go_simp
          refine hK.out _ _ (HCE.out _ (HB2X.out _ (HIE.out.bel.alloc HIE.out.lo _))) (fun hHeld => ?_)
          clear hK K
          try simp only [Act.put, List.setIfInBounds_toArray, List.set_cons_zero, List.set_cons_succ]
          refine wpAnyH_ready (rs := [11]) (by kernel_rfl) (by simp) ?_
          refine ready_tk (i := 11) rfl (by rfl) (fun K hK => ?_) AllReadyH.nil
          refine op_append_ownA _ _ 22 rfl w3.heap.size 3 i3 (.int .i64 0) 1 8 Tryz.underlying22 hi3 hz30 hz31 hz32 rfl (by decide) (.slice oo k oc) k _ rfl (HIE.out.o.alloc _) ⟨WE.heap.size, 0, none⟩ 1 1 [.int .i64 ov] rfl rfl (one_new _ _ _) (one_int _) (by unfold maxLen; omega) (by omega) (by have := HIE.out.lo; simp; omega) ?_
          intro v' w5 ho5 hg5 hb5
          have h5 := HIE.out.pushO ho5 hg5 hb5
          obtain ⟨ao, ac, rfl⟩ := owns_form ho5
          rw [← HN1.out] at h5
          have HI5 : Hid (OuI w3.heap.size w3 (.slice ao (k + 1) ac) (.slice no k nc) (k + 1) k (ints (((s.take (k + 1)).map (hgt d C wy)).map fun t => t.2.1)) (ints (((s.take k).map (hgt d C wy)).map fun t => t.2.2)) w5) := h5
          refine hK.out _ _ (HCE.out w5 (HB2X.out w5 h5.bel)) (fun hHeld => ?_)
          clear hK K ho5 hg5 hb5 h5 HID HIE
          try simp only [Act.put, List.setIfInBounds_toArray, List.set_cons_zero, List.set_cons_succ]
          refine wpAnyH_tk (i := 12) (d := 11) (v := .slice ao (k + 1) ac) rfl rfl (by kernel_rfl) (by kernel_rfl) (by kernel_rfl) (fun _ _ _ h => h) (.inl ⟨by rfl, by (intro wq hSw; (try dsimp only at hSw); go_simp; (try (first | rfl | omega)))⟩) hHeld ?_
          simp only [Act.put, List.setIfInBounds_toArray, List.set_cons_zero, List.set_cons_succ]
          refine wpAnyH_done (by kernel_rfl) ?_ _
          clear hHeld
          go_upto_region 15 with fail
          obtain ⟨WD, hWD⟩ : ∃ WD, WD = w5.drew := ⟨_, rfl⟩
          have HID : Hid (OuI w3.heap.size w3 (.slice ao (k + 1) ac) (.slice no k nc) (k + 1) k (ints (((s.take (k + 1)).map (hgt d C wy)).map fun t => t.2.1)) (ints (((s.take k).map (hgt d C wy)).map fun t => t.2.2)) WD) := by rw [hWD]; exact ⟨HI5.out.o, HI5.out.u, HI5.out.ap, HI5.out.bel.drew, HI5.out.lo⟩
          have S0 := HCE.out WD (HB2X.out WD HID.out.bel)
          rw [hWD] at S0
          refine wp_region_held_drew (S := fun X => X.cell? ⟨w.heap.size, 0, none⟩ = some (.int .i64 d) ∧ X.cell? ⟨qb, qo + k, none⟩ = some (.slice (some ⟨rb, rf, none⟩) (d + 1) rcc) ∧ X.cell? ⟨rb, rf + d, none⟩ = some (.int .i64 lst)) (by kernel_rfl) S0 (fun hHeld => ?_)
          rw [← hWD] at hHeld ⊢
          clear hWD S0 HI5
          refine wpAnyH_tk (i := 0) (d := 61) (v := .slice no k nc) rfl rfl (by kernel_rfl) (by kernel_rfl) (by kernel_rfl) (fun _ _ _ h => h) (.inl ⟨by rfl, by (intro wq hSw; (try dsimp only at hSw); go_simp; (try (first | rfl | omega)))⟩) hHeld ?_
          simp only [Act.put, List.setIfInBounds_toArray, List.set_cons_zero, List.set_cons_succ]
          refine wpAnyH_tk (i := 1) (d := 62) (v := .slice (some ⟨qb, qo, none⟩) s.length rc) rfl rfl (by kernel_rfl) (by kernel_rfl) (by kernel_rfl) (fun _ _ _ h => h) (.inl ⟨by rfl, by (intro wq hSw; (try dsimp only at hSw); go_simp; (try (first | rfl | omega)))⟩) hHeld ?_
          simp only [Act.put, List.setIfInBounds_toArray, List.set_cons_zero, List.set_cons_succ]
          refine wpAnyH_tk (i := 2) (d := 63) (v := .int .i64 (k : Int)) rfl rfl (by kernel_rfl) (by kernel_rfl) (by kernel_rfl) (fun _ _ _ h => h) (.inl ⟨by rfl, by (intro wq hSw; (try dsimp only at hSw); go_simp; (try (first | rfl | omega)))⟩) hHeld ?_
          simp only [Act.put, List.setIfInBounds_toArray, List.set_cons_zero, List.set_cons_succ]
          refine wpAnyH_tk (i := 3) (d := 64) (v := .pointer (some ⟨qb, qo + k, none⟩)) rfl rfl (by kernel_rfl) (by kernel_rfl) (by kernel_rfl) (fun _ _ _ h => h) (.inl ⟨by rfl, by (intro wq hSw; (try dsimp only at hSw); go_simp; (try (first | rfl | omega)))⟩) hHeld ?_
          simp only [Act.put, List.setIfInBounds_toArray, List.set_cons_zero, List.set_cons_succ]
          refine wpAnyH_tk (i := 4) (d := 65) (v := .slice (some ⟨rb, rf, none⟩) (d + 1) rcc) rfl rfl (by kernel_rfl) (by kernel_rfl) (by kernel_rfl) (fun _ _ _ h => h) (.inl ⟨by rfl, by (intro wq hSw; (try dsimp only at hSw); go_simp; (try (first | rfl | omega)))⟩) hHeld ?_
          simp only [Act.put, List.setIfInBounds_toArray, List.set_cons_zero, List.set_cons_succ]
          refine wpAnyH_tk (i := 5) (d := 66) (v := .pointer (some ⟨w.heap.size, 0, none⟩)) rfl rfl (by kernel_rfl) (by kernel_rfl) (by kernel_rfl) (fun _ _ _ h => h) (.inl ⟨by rfl, by (intro wq hSw; (try dsimp only at hSw); go_simp; (try (first | rfl | omega)))⟩) hHeld ?_
          simp only [Act.put, List.setIfInBounds_toArray, List.set_cons_zero, List.set_cons_succ]
          refine wpAnyH_tk (i := 6) (d := 67) (v := .int .i64 (d : Int)) rfl rfl (by kernel_rfl) (by kernel_rfl) (by kernel_rfl) (fun _ _ _ h => h) (.inl ⟨by rfl, by (intro wq hSw; (try dsimp only at hSw); go_simp; (try (first | rfl | omega)))⟩) hHeld ?_
          simp only [Act.put, List.setIfInBounds_toArray, List.set_cons_zero, List.set_cons_succ]
          refine wpAnyH_tk (i := 7) (d := 68) (v := .pointer (some ⟨rb, rf + d, none⟩)) rfl rfl (by kernel_rfl) (by kernel_rfl) (by kernel_rfl) (fun _ _ _ h => h) (.inl ⟨by rfl, by (intro wq hSw; (try dsimp only at hSw); go_simp; (try (first | rfl | omega)))⟩) hHeld ?_
          simp only [Act.put, List.setIfInBounds_toArray, List.set_cons_zero, List.set_cons_succ]
          refine wpAnyH_tk (i := 8) (d := 69) (v := .int .i64 lst) rfl rfl (by kernel_rfl) (by kernel_rfl) (by kernel_rfl) (fun _ _ _ h => h) (.inl ⟨by rfl, by (intro wq hSw; (try dsimp only at hSw); go_simp; (try (first | rfl | omega)))⟩) hHeld ?_
          simp only [Act.put, List.setIfInBounds_toArray, List.set_cons_zero, List.set_cons_succ]
          refine wpAnyH_tk (i := 9) (d := 70) (v := .int .i64 (C.length : Int)) rfl rfl (by kernel_rfl) (by kernel_rfl) (by kernel_rfl) (fun _ _ _ h => h) (.inl ⟨by rfl, by (intro wq hSw; (try dsimp only at hSw); go_simp; (try (first | rfl | omega)))⟩) hHeld ?_
          simp only [Act.put, List.setIfInBounds_toArray, List.set_cons_zero, List.set_cons_succ]
          refine wpAnyH_tk (i := 10) (d := 71) (v := .int .i64 pr) rfl rfl (by kernel_rfl) (by kernel_rfl) (by kernel_rfl) (fun _ _ _ h => h) (.inl ⟨by rfl, by (intro wq hSw; (try dsimp only at hSw); go_simp; (try (first | rfl | omega)))⟩) hHeld ?_
          simp only [Act.put, List.setIfInBounds_toArray, List.set_cons_zero, List.set_cons_succ]
          refine wpAnyH_tk (i := 11) (d := 72) (v := .slice (some ⟨qb, qo, none⟩) s.length rc) rfl rfl (by kernel_rfl) (by kernel_rfl) (by kernel_rfl) (fun _ _ _ h => h) (.inl ⟨by rfl, by (intro wq hSw; (try dsimp only at hSw); go_simp; (try (first | rfl | omega)))⟩) hHeld ?_
          simp only [Act.put, List.setIfInBounds_toArray, List.set_cons_zero, List.set_cons_succ]
          refine wpAnyH_tk (i := 12) (d := 73) (v := .int .i64 (k : Int)) rfl rfl (by kernel_rfl) (by kernel_rfl) (by kernel_rfl) (fun _ _ _ h => h) (.inl ⟨by rfl, by (intro wq hSw; (try dsimp only at hSw); go_simp; (try (first | rfl | omega)))⟩) hHeld ?_
          simp only [Act.put, List.setIfInBounds_toArray, List.set_cons_zero, List.set_cons_succ]
          refine wpAnyH_tk (i := 13) (d := 74) (v := .pointer (some ⟨qb, qo + k, none⟩)) rfl rfl (by kernel_rfl) (by kernel_rfl) (by kernel_rfl) (fun _ _ _ h => h) (.inl ⟨by rfl, by (intro wq hSw; (try dsimp only at hSw); go_simp; (try (first | rfl | omega)))⟩) hHeld ?_
          simp only [Act.put, List.setIfInBounds_toArray, List.set_cons_zero, List.set_cons_succ]
          refine wpAnyH_tk (i := 14) (d := 75) (v := .slice (some ⟨rb, rf, none⟩) (d + 1) rcc) rfl rfl (by kernel_rfl) (by kernel_rfl) (by kernel_rfl) (fun _ _ _ h => h) (.inl ⟨by rfl, by (intro wq hSw; (try dsimp only at hSw); go_simp; (try (first | rfl | omega)))⟩) hHeld ?_
          simp only [Act.put, List.setIfInBounds_toArray, List.set_cons_zero, List.set_cons_succ]
          refine wpAnyH_tk (i := 15) (d := 76) (v := .pointer (some ⟨w.heap.size, 0, none⟩)) rfl rfl (by kernel_rfl) (by kernel_rfl) (by kernel_rfl) (fun _ _ _ h => h) (.inl ⟨by rfl, by (intro wq hSw; (try dsimp only at hSw); go_simp; (try (first | rfl | omega)))⟩) hHeld ?_
          simp only [Act.put, List.setIfInBounds_toArray, List.set_cons_zero, List.set_cons_succ]
          refine wpAnyH_tk (i := 16) (d := 77) (v := .int .i64 (d : Int)) rfl rfl (by kernel_rfl) (by kernel_rfl) (by kernel_rfl) (fun _ _ _ h => h) (.inl ⟨by rfl, by (intro wq hSw; (try dsimp only at hSw); go_simp; (try (first | rfl | omega)))⟩) hHeld ?_
          simp only [Act.put, List.setIfInBounds_toArray, List.set_cons_zero, List.set_cons_succ]
          refine wpAnyH_tk (i := 17) (d := 78) (v := .slice (some ⟨rb, rf, none⟩) d rcc) rfl rfl (by kernel_rfl) (by kernel_rfl) (by kernel_rfl) (fun _ _ _ h => h) (.inl ⟨by rfl, by (intro wq hSw; (try dsimp only at hSw); go_simp; (try (first | rfl | omega)))⟩) hHeld ?_
          simp only [Act.put, List.setIfInBounds_toArray, List.set_cons_zero, List.set_cons_succ]
          refine wpAnyH_tk (i := 18) (d := 79) (v := .slice xo d xc) rfl rfl (by kernel_rfl) (by kernel_rfl) (by kernel_rfl) (fun _ _ _ h => h) (.inl ⟨by rfl, by (intro wq hSw; (try dsimp only at hSw); go_simp; (try (first | rfl | omega)))⟩) hHeld ?_
          simp only [Act.put, List.setIfInBounds_toArray, List.set_cons_zero, List.set_cons_succ]
          refine wpAnyH_ready (rs := [19]) (by kernel_rfl) (by simp) ?_
          refine ready_tk (i := 19) rfl (by rfl) (fun K hK => ?_) AllReadyH.nil
          go_simp
          refine (HD2.out WD HID.out.bel).mono ?_
          rintro e WE ⟨rfl, n4, hWE⟩
          have HIE : Hid (OuI w3.heap.size w3 (.slice ao (k + 1) ac) (.slice no k nc) (k + 1) k (ints (((s.take (k + 1)).map (hgt d C wy)).map fun t => t.2.1)) (ints (((s.take k).map (hgt d C wy)).map fun t => t.2.2)) WE) := by rw [hWE]; exact HID.out.drew n4
          refine hK.out _ _ (HCE.out WE (HB2X.out WE HIE.out.bel)) (fun hHeld => ?_)
          clear hK K hWE
          try simp only [Act.put, List.setIfInBounds_toArray, List.set_cons_zero, List.set_cons_succ]
          refine wpAnyH_tk (i := 20) (d := 81) (v := .int .i64 (pr - md)) rfl rfl (by kernel_rfl) (by kernel_rfl) (by kernel_rfl) (fun _ _ _ h => h) (.inl ⟨by rfl, by (intro wq hSw; (try dsimp only at hSw); go_simp; (try (first | rfl | omega)))⟩) hHeld ?_
          simp only [Act.put, List.setIfInBounds_toArray, List.set_cons_zero, List.set_cons_succ]
          refine wpAnyH_ready (rs := [21]) (by kernel_rfl) (by simp) ?_
          refine ready_tk (i := 21) rfl (by rfl) (fun K hK => ?_) AllReadyH.nil
          go_simp
          refine hK.out _ _ (HCE.out _ (HB2X.out _ (HIE.out.bel.alloc HIE.out.lo _))) (fun hHeld => ?_)
          clear hK K
          try simp only [Act.put, List.setIfInBounds_toArray, List.set_cons_zero, List.set_cons_succ]
          refine wpAnyH_ready (rs := [22]) (by kernel_rfl) (by simp) ?_
          refine ready_tk (i := 22) rfl (by rfl) (fun K hK => ?_) AllReadyH.nil
          refine op_append_ownA _ _ 22 rfl w3.heap.size 3 i3 (.int .i64 0) 1 8 Tryz.underlying22 hi3 hz30 hz31 hz32 rfl (by decide) (.slice no k nc) k _ rfl (HIE.out.u.alloc _) ⟨WE.heap.size, 0, none⟩ 1 1 [.int .i64 (pr - md)] rfl rfl (one_new _ _ _) (one_int _) (by unfold maxLen; omega) (by omega) (by have := HIE.out.lo; simp; omega) ?_
          intro v' w6 ho6 hg6 hb6
          have h6 := (HIE.out.swap.pushO ho6 hg6 hb6).swap
          obtain ⟨bo, bc, rfl⟩ := owns_form ho6
          rw [← HN2.out] at h6
          have HI6 : Hid (OuI w3.heap.size w3 (.slice ao (k + 1) ac) (.slice bo (k + 1) bc) (k + 1) (k + 1) (ints (((s.take (k + 1)).map (hgt d C wy)).map fun t => t.2.1)) (ints (((s.take (k + 1)).map (hgt d C wy)).map fun t => t.2.2)) w6) := h6
          refine hK.out _ _ (HCE.out w6 (HB2X.out w6 h6.bel)) (fun hHeld => ?_)
          clear hK K ho6 hg6 hb6 h6 HID HIE
          try simp only [Act.put, List.setIfInBounds_toArray, List.set_cons_zero, List.set_cons_succ]
          refine wpAnyH_tk (i := 23) (d := 12) (v := .slice bo (k + 1) bc) rfl rfl (by kernel_rfl) (by kernel_rfl) (by kernel_rfl) (fun _ _ _ h => h) (.inl ⟨by rfl, by (intro wq hSw; (try dsimp only at hSw); go_simp; (try (first | rfl | omega)))⟩) hHeld ?_
          simp only [Act.put, List.setIfInBounds_toArray, List.set_cons_zero, List.set_cons_succ]
          refine wpAnyH_done (by kernel_rfl) ?_ _
          clear hHeld
          go_wp2
          go_roundw
          case rel => exact ⟨k + 1, by omega, by go_num, HI6.out⟩
          case measure => simp [intOf]; omega
        · have hke : k = s.length := by omega
          subst hke
          clear hlt hk
          obtain ⟨w4, hw4⟩ : ∃ w4, w4 = wr := ⟨wr, rfl⟩
          rw [← hw4] at HI ⊢
          clear hw4 wr
          obtain ⟨m, hm⟩ : ∃ m, m = s.map (hgt d C wy) := ⟨_, rfl⟩
          have HME : Hid (m = s.map (hgt d C wy)) := hm
          have hml : m.length = s.length := by rw [hm, List.length_map]
          have hI4 := HI.out
          rw [List.take_length, ← hm] at hI4
          have HB4 : Hid (∀ X, Below w4.heap.size w4 X → Below w2.heap.size w2 X) := fun X h => (HX3.out X (hI4.bel.trans (h.mono hI4.lo))).1
          have HOV : Hid (∀ X j, Below w4.heap.size w4 X → j < s.length → ∃ ob of, oo = some ⟨ob, of, none⟩ ∧ X.cell? ⟨ob, of + j, none⟩ = some (.int .i64 (m.getD j (0, 0, 1)).2.1)) := fun X j h hj => by
            obtain ⟨ao, cap, hv, _, _, h5, _⟩ := (Sl.own (B := 0) hI4.o).below h (Nat.le_refl _)
            simp only [Value.slice.injEq] at hv
            obtain ⟨ob, of, hs, hcc, _⟩ := h5 j (by simp [ints, hml]; exact hj)
            refine ⟨ob, of, hv.1.trans hs, ?_⟩
            rw [hcc]
            simp [ints, show j < m.length by omega]
          have HUV : Hid (∀ X j, Below w4.heap.size w4 X → j < s.length → ∃ ob of, no = some ⟨ob, of, none⟩ ∧ X.cell? ⟨ob, of + j, none⟩ = some (.int .i64 (m.getD j (0, 0, 1)).2.2)) := fun X j h hj => by
            obtain ⟨ao, cap, hv, _, _, h5, _⟩ := (Sl.own (B := 0) hI4.u).below h (Nat.le_refl _)
            simp only [Value.slice.injEq] at hv
            obtain ⟨ob, of, hs, hcc, _⟩ := h5 j (by simp [ints, hml]; exact hj)
            refine ⟨ob, of, hv.1.trans hs, ?_⟩
            rw [hcc]
            simp [ints, show j < m.length by omega]
          have HMB : Hid (∀ j, j < s.length → (1 ≤ (m.getD j (0, 0, 1)).2.2 ∧ (m.getD j (0, 0, 1)).2.2 ≤ 5000000) ∧ (-1000000 ≤ (m.getD j (0, 0, 1)).2.1 ∧ (m.getD j (0, 0, 1)).2.1 ≤ 1000000)) := fun j hj => by
            have hjm : s.getD j [] ∈ s := by simp [hj]
            have e : m.getD j (0, 0, 1) = hgt d C wy (s.getD j []) := by rw [hm]; simp [hj]
            have p1 := (HRF.out _ hjm).2.2.2
            obtain ⟨p2, p3, p4⟩ := HGB.out _ hjm
            rw [e]
            have p5 : (hgt d C wy (s.getD j [])).2.1 = dotL ((s.getD j []).take d) wy := rfl
            have p6 : (hgt d C wy (s.getD j [])).2.2 = (s.getD j []).getD d 0 * C.length - dotL ((s.getD j []).take d) (midL d C C.length) := rfl
            omega
          have HPO : Hid (∀ a ∈ m, 0 < a.2.2) := fun a ha => by
            obtain ⟨j, hj, rfl⟩ := List.mem_iff_getElem.1 ha
            have := (HMB.out j (by omega)).1
            have e : m.getD j (0, 0, 1) = m[j] := by simp [hj]
            rw [e] at this
            omega
          have HSI : Hid (∀ j, j < s.length → memL (m.getD j (0, 0, 1)).1 = mtTo C (s.getD j []) C.length) := fun j hj => by
            have e : m.getD j (0, 0, 1) = hgt d C wy (s.getD j []) := by rw [hm]; simp [hj]
            rw [e]
            exact memL_side (by omega) _
          have hmk : ∀ w : World, (Instr.makeSlice 44 (.int .i64 (s.length : Int)) (.int .i64 (s.length : Int))).run Tryz.prog w = .ok (.slice (some ⟨w.heap.size, 0, none⟩) s.length s.length) (w.alloc (.cells (madeCells #[.bool false] s.length) 4)) := run_make_row' (P := Tryz.prog) 44 4 (.bool false) 1 Tryz.underlying44 Tryz.info4 rfl .i64 .i64 s.length (by omega) (by omega)
          obtain ⟨W5, hW5⟩ : ∃ W5, W5 = w4.alloc (.cells (madeCells #[.bool false] s.length) 4) := ⟨_, rfl⟩
          have HU0 : Hid (W5.rowIs w4.heap.size 4 s.length (fun j => .bool (decide (j ∈ ([] : List Nat)))) ∧ Below w4.heap.size w4 W5) := by
            rw [hW5]
            refine ⟨⟨_, alloc_at _ _, by simp [madeCells], fun i hi => ?_⟩, (Below.refl _ _).alloc (Nat.le_refl _) _⟩
            rw [← Array.getElem?_toList, toList_madeCells_one]
            simp [hi]
          have HCP : Hid (∀ X j, Below w4.heap.size w4 X → j < s.length → ∃ rb rf rl rcc, ro = some ⟨rb, rf, none⟩ ∧ X.cell? ⟨rb, rf + j, none⟩ = some (.slice rl (d + 1) rcc) ∧ Sl 0 3 X (.slice rl (d + 1) rcc) (ints (s.getD j []))) := fun X j h hj => by
            obtain ⟨qb, qo, qcp, q1, hqs, _, hqc, hq1⟩ := mat_cell (HR.out X (HB4.out X h)) hj
            simp only [Value.slice.injEq, true_and] at hqs
            obtain ⟨yo, yc, rfl, _, _⟩ := sl_open hq1
            have hjm : s.getD j [] ∈ s := by simp [hj]
            rw [(HRF.out _ hjm).1] at hqc hq1
            exact ⟨qb, qo, yo, yc, hqs.1, hqc, hq1⟩
          have HCQ : Hid (∀ X j, Below w4.heap.size w4 X → j < C.length → ∃ rb rf rl rcc, co = some ⟨rb, rf, none⟩ ∧ X.cell? ⟨rb, rf + j, none⟩ = some (.slice rl d rcc) ∧ Sl 0 3 X (.slice rl d rcc) (ints (C.getD j []))) := fun X j h hj => by
            obtain ⟨qb, qo, qcp, q1, hqs, _, hqc, hq1⟩ := mat_cell (HCN.out X (HB4.out X h)) hj
            simp only [Value.slice.injEq, true_and] at hqs
            obtain ⟨yo, yc, rfl, _, _⟩ := sl_open hq1
            have hjm : C.getD j [] ∈ C := by simp [hj]
            rw [(HBC.out _ hjm).1] at hqc hq1
            exact ⟨qb, qo, yo, yc, hqs.1, hqc, hq1⟩
          have HOX : Hid (∀ X j q, j < s.length → q < C.length → ∀ rv cv, Sl 0 3 X rv (ints (s.getD j [])) → Sl 0 3 X cv (ints (C.getD q [])) → Calls Tryz.prog 22 #[rv, cv] X fun e w' => e = .returned (.int .i64 (overL (s.getD j []) (C.getD q []))) ∧ ∃ n, w' = X.drewN n) := fun X j q hj hq rv cv hr hc => by
            have hjm : s.getD j [] ∈ s := by simp [hj]
            have hqm : C.getD q [] ∈ C := by simp [hq]
            have k1 := HRF.out _ hjm
            have k2 := HBC.out _ hqm
            refine over_any 0 _ _ rv cv X hr hc (by rw [k2.1]; exact k1.1) ⟨by rw [List.length_take]; omega, by rw [List.length_take]; omega, fun z hz => ?_, fun z hz => by have := k2.2 z hz; omega⟩ (by rw [k2.1]; omega)
            rw [k2.1] at hz
            have := k1.2.1 z hz
            omega
          have HMS : Hid (∀ j q, mtTo C (s.getD j []) (q + 1) = mtTo C (s.getD j []) q ++ (if overL (s.getD j []) (C.getD q []) = 0 then [(q : Int)] else [])) := fun j q => mtTo_succ C _ q
          have HEN : Hid (∀ X, Below w4.heap.size w4 X → Below w.heap.size w X) := fun X h => HBE.out X (HB4.out X h)
          clear hm HI hI4 HRF HGB HR HCN HX3 HS1 HS2 HUX HCX HBE
          go_upto_region 18 with fail
          rw [← hW5]
          clear hW5 hmk
          go_wp2
          go_loopw [14, 16] (fun x kv wr => ∃ ps : List Nat, kv = .int .i64 (ps.length : Int) ∧ ps.length ≤ s.length ∧ TknI m ps ∧ Fr (w4.heap.size + 1) 22 3 wr x (ps.map fun p => memL (m.getD p (0, 0, 1)).1) ∧ wr.rowIs w4.heap.size 4 s.length (fun j => .bool (decide (j ∈ ps))) ∧ Below w4.heap.size w4 wr) (fun _ kv _ => s.length - (intOf kv).toNat)
          case atStart => exact ⟨[], rfl, Nat.zero_le _, TknI.nil m, Fr.nil _ _ _ _, HU0.out.1, HU0.out.2⟩
          case round =>
            obtain ⟨ps, rfl, hpl, htk, hfr, hrow, hbr⟩ := hrel
            have HTK : Hid (TknI m ps) := htk
            have HFR : Hid (Fr (w4.heap.size + 1) 22 3 wr u14 (ps.map fun p => memL (m.getD p (0, 0, 1)).1)) := hfr
            have HRO : Hid (wr.rowIs w4.heap.size 4 s.length (fun j => .bool (decide (j ∈ ps)))) := hrow
            have HBR : Hid (Below w4.heap.size w4 wr) := hbr
            clear htk hfr hrow hbr HU0
            obtain ⟨wa, hwa⟩ : ∃ wa, wa = wr := ⟨wr, rfl⟩
            rw [← hwa] at HFR HRO HBR ⊢
            clear hwa wr
            have hGa : w4.heap.size < wa.heap.size := by
              obtain ⟨cur, h1, _, _⟩ := HRO.out
              exact lt_of_block h1
            obtain ⟨zo, zc, hzv⟩ : ∃ zo zc, u14 = .slice zo ps.length zc := by
              obtain ⟨o, c, h, _, _⟩ := mat_open (fr_mat0F HFR.out)
              rw [List.length_map] at h
              exact ⟨o, c, h⟩
            subst hzv
            by_cases hlt : ps.length < s.length
            · have hkI : (ps.length : Int) < (s.length : Int) := by omega
              have HXA : Hid (∀ X, Below wa.heap.size wa X → Below w4.heap.size w4 X) := fun X h => HBR.out.trans (h.mono (Nat.le_of_lt hGa))
              have HUS : Hid (∀ X i, Below wa.heap.size wa X → i < s.length → X.cell? ⟨w4.heap.size, i, none⟩ = some (.bool (decide (i ∈ ps)))) := fun X i h hi => by
                have := HRO.out.cell (i := i) hi
                exact (h.cell (lt_of_cell this)).trans this
              go_wp2
              go_loopw [17, 18] (fun bv iv wr => ∃ (i : Nat) (b : Int), i ≤ s.length ∧ iv = .int .i64 (i : Int) ∧ bv = .int .i64 b ∧ BstI m ps i b ∧ Below wa.heap.size wa wr) (fun _ iv _ => s.length - (intOf iv).toNat)
              case atStart => exact ⟨0, -1, Nat.zero_le _, rfl, rfl, BstI.none m ps, Below.refl _ _⟩
              case round =>
                obtain ⟨i, b, hi', rfl, rfl, hB, hbr⟩ := hrel
                have HBS : Hid (BstI m ps i b) := hB
                have HBW : Hid (Below wa.heap.size wa wr) := hbr
                clear hB hbr
                by_cases hli : i < s.length
                · have hus := HUS.out wr i HBW.out hli
                  have hiI : (i : Int) < (s.length : Int) := by omega
                  by_cases hin : i ∈ ps
                  · rw [decide_eq_true hin] at hus
                    have HNX : Hid (BstI m ps (i + 1) b) := HBS.out.used hin
                    clear HBS
                    go_wp2
                    exact ⟨⟨i + 1, b, by omega, by go_num, rfl, HNX.out, HBW.out⟩, by simp [intOf]; omega⟩
                  · rw [decide_eq_false hin] at hus
                    by_cases hb0 : 0 ≤ b
                    · obtain ⟨k, rfl, hki, hkn⟩ := HBS.out.idx hb0
                      obtain ⟨ob, of, rfl, hoi⟩ := HOV.out wr i (HXA.out wr HBW.out) hli
                      obtain ⟨ob', of', hoo, hok⟩ := HOV.out wr k (HXA.out wr HBW.out) (by omega)
                      simp only [Option.some.injEq, Addr.mk.injEq, and_true] at hoo
                      obtain ⟨rfl, rfl⟩ := hoo
                      obtain ⟨nb, nf, rfl, hui⟩ := HUV.out wr i (HXA.out wr HBW.out) hli
                      obtain ⟨nb', nf', hnn, huk⟩ := HUV.out wr k (HXA.out wr HBW.out) (by omega)
                      simp only [Option.some.injEq, Addr.mk.injEq, and_true] at hnn
                      obtain ⟨rfl, rfl⟩ := hnn
                      have m1 := HMB.out i hli
                      have m2 := HMB.out k (by omega)
                      have b1 := prod_bdN m1.2 m2.1
                      have b2 := prod_bdN m2.2 m1.1
                      have HEQ : Hid ((m.getD i (0, 0, 1)).2.1 * (m.getD k (0, 0, 1)).2.2 = (m.getD k (0, 0, 1)).2.1 * (m.getD i (0, 0, 1)).2.2 → ¬ Apt (s.map (hgt d C wy))) := fun h hA => by
                        have hA' : Apt m := by rw [HME.out]; exact hA
                        exact not_apt hki (by omega) (show heq (m.getD k (0, 0, 1)) (m.getD i (0, 0, 1)) from h.symm) hA'
                      have HLE : Hid ((m.getD i (0, 0, 1)).2.1 * (m.getD k (0, 0, 1)).2.2 < (m.getD k (0, 0, 1)).2.1 * (m.getD i (0, 0, 1)).2.2 → BstI m ps (i + 1) k) := fun h => HBS.out.less h
                      have HGT : Hid ((m.getD k (0, 0, 1)).2.1 * (m.getD i (0, 0, 1)).2.2 < (m.getD i (0, 0, 1)).2.1 * (m.getD k (0, 0, 1)).2.2 → BstI m ps (i + 1) i) := fun h => HBS.out.more hin (by omega) HPO.out h
                      generalize (m.getD i (0, 0, 1)).2.1 = oi at *
                      generalize (m.getD k (0, 0, 1)).2.1 = ok at *
                      generalize (m.getD i (0, 0, 1)).2.2 = ui at *
                      generalize (m.getD k (0, 0, 1)).2.2 = uk at *
                      obtain ⟨x, hx⟩ : ∃ x, x = oi * uk := ⟨_, rfl⟩
                      obtain ⟨y, hy⟩ : ∃ y, y = ok * ui := ⟨_, rfl⟩
                      rw [← hx] at HEQ HLE HGT b1
                      rw [← hy] at HEQ HLE HGT b2
                      have hwx : IntKind.wrap .i64 (oi * uk) = x := by rw [← hx, IntKind.wrap_i64]; omega
                      have hwy : IntKind.wrap .i64 (ok * ui) = y := by rw [← hy, IntKind.wrap_i64]; omega
                      have hkI2 : (k : Int) < (s.length : Int) := by omega
                      have hk0 : (0 : Int) ≤ (k : Int) := by omega
                      have hk1 : decide ((0 : Int) ≤ (k : Int)) = true := by simp
                      have hk2 : decide ((k : Int) < 0) = false := by simp
                      clear HBS hx hy m1 m2 b1 b2
                      by_cases hxy : x = y
                      · have HNA : Hid (¬ Apt (s.map (hgt d C wy))) := HEQ.out hxy
                        have t1 : (x == y) = true := by simp [hxy]
                        have HEB : Hid (Below w.heap.size w wr) := HEN.out wr (HXA.out wr HBW.out)
                        clear HEQ HLE HGT hxy
                        go_wp2
                        go_quiet (fail)
                        go_wp2
                        go_ret2
                        exact ⟨s, C, HS.out.1, HS.out.2, HCC.out.1, HCC.out.2, Or.inr ⟨HNA.out, rfl⟩, below_drewN HEB.out _⟩
                      · have t1 : (x == y) = false := by simp [hxy]
                        by_cases hlt2 : y < x
                        · have t2 : decide (y < x) = true := decide_eq_true hlt2
                          have HNX : Hid (BstI m ps (i + 1) i) := HGT.out hlt2
                          clear HEQ HLE HGT hxy hlt2
                          go_wp2
                          go_quiet (fail)
                          go_wp2
                          go_quiet (fail)
                          go_wp2
                          exact ⟨⟨i + 1, i, by omega, by go_num, rfl, HNX.out, below_drewN HBW.out _⟩, by simp [intOf]; omega⟩
                        · have t2 : decide (y < x) = false := decide_eq_false hlt2
                          have HNX : Hid (BstI m ps (i + 1) k) := HLE.out (by omega)
                          clear HEQ HLE HGT hxy hlt2
                          go_wp2
                          go_quiet (fail)
                          go_wp2
                          go_quiet (fail)
                          go_wp2
                          exact ⟨⟨i + 1, k, by omega, by go_num, rfl, HNX.out, below_drewN HBW.out _⟩, by simp [intOf]; omega⟩
                    · have hbe : b = -1 := by
                        rcases HBS.out with ⟨h, _⟩ | ⟨k, h, _⟩
                        · exact h
                        · omega
                      subst hbe
                      have HNX : Hid (BstI m ps (i + 1) i) := HBS.out.first hin
                      clear HBS hb0
                      go_wp2
                      go_quiet (fail)
                      go_wp2
                      go_quiet (fail)
                      go_wp2
                      exact ⟨⟨i + 1, i, by omega, by go_num, rfl, HNX.out, below_drewN HBW.out _⟩, by simp [intOf]; omega⟩
                · have hie : i = s.length := by omega
                  subst hie
                  have hB := HBS.out
                  rw [← hml] at hB
                  obtain ⟨k, rfl, hkm, hkn, htk⟩ := hB.take HTK.out (by omega)
                  rw [hml] at hkm
                  have HTN : Hid (TknI m (ps ++ [k])) := htk
                  have hkI2 : (k : Int) < (s.length : Int) := by omega
                  have hfz : wr.frozen? ⟨w4.heap.size, k, none⟩ = false := by
                    have h := HRO.out
                    obtain ⟨cur, h1, _, _⟩ := h
                    have := (HBW.out.block _ hGa).trans h1
                    simp [World.frozen?, this]
                  have hck := HUS.out wr k HBW.out hkm
                  rw [decide_eq_false hkn] at hck
                  obtain ⟨WB, hWB⟩ : ∃ WB, WB = wr.setCell ⟨w4.heap.size, k, none⟩ (.bool true) := ⟨_, rfl⟩
                  have hrw : wr.rowIs w4.heap.size 4 s.length (fun j => .bool (decide (j ∈ ps))) := by
                    obtain ⟨cur, h1, h2, h3⟩ := HRO.out
                    exact ⟨cur, (HBW.out.block _ hGa).trans h1, h2, h3⟩
                  have HRB : Hid (WB.rowIs w4.heap.size 4 s.length (fun j => .bool (decide (j ∈ ps ++ [k])))) := by
                    rw [hWB]
                    refine (World.rowIs.set hrw k (.bool true)).congr fun j hj => ?_
                    by_cases e : j = k
                    · subst e; simp
                    · simp [e]
                  have HFB : Hid (Fr (w4.heap.size + 1) 22 3 WB (.slice zo ps.length zc) (ps.map fun p => memL (m.getD p (0, 0, 1)).1)) := by
                    rw [hWB]
                    obtain ⟨cur, h1, _, _⟩ := hrw
                    exact fr_offB (HFR.out.below HBW.out (Nat.le_refl _)) h1 (by omega)
                  have HB4B : Hid (Below w4.heap.size w4 WB) := by rw [hWB]; exact (HXA.out wr HBW.out).setCell (Nat.le_refl _) _
                  have hGB : w4.heap.size < WB.heap.size := by
                    obtain ⟨cur, h1, _, _⟩ := HRB.out
                    exact lt_of_block h1
                  have HXB : Hid (∀ X, Below WB.heap.size WB X → Below w4.heap.size w4 X) := fun X h => HB4B.out.trans (h.mono (Nat.le_of_lt hGB))
                  have HSK : Hid (memL (m.getD k (0, 0, 1)).1 = mtTo C (s.getD k []) C.length) := HSI.out k hkm
                  have HMK : Hid (∀ q, mtTo C (s.getD k []) (q + 1) = mtTo C (s.getD k []) q ++ (if overL (s.getD k []) (C.getD q []) = 0 then [(q : Int)] else [])) := HMS.out k
                  have HOK : Hid (∀ X q, q < C.length → ∀ rv cv, Sl 0 3 X rv (ints (s.getD k [])) → Sl 0 3 X cv (ints (C.getD q [])) → Calls Tryz.prog 22 #[rv, cv] X fun e w' => e = .returned (.int .i64 (overL (s.getD k []) (C.getD q []))) ∧ ∃ n, w' = X.drewN n) := fun X q hq => HOX.out X k q hkm hq
                  have HMP : Hid ((ps ++ [k]).map (fun p => memL (m.getD p (0, 0, 1)).1) = (ps.map fun p => memL (m.getD p (0, 0, 1)).1) ++ [mtTo C (s.getD k []) C.length]) := by
                    show _ = _
                    rw [List.map_append, ← HSK.out]
                    rfl
                  have HCK : Hid (∀ X, Below w4.heap.size w4 X → ∃ rb rf rl rcc, ro = some ⟨rb, rf, none⟩ ∧ X.cell? ⟨rb, rf + k, none⟩ = some (.slice rl (d + 1) rcc) ∧ Sl 0 3 X (.slice rl (d + 1) rcc) (ints (s.getD k []))) := fun X h => HCP.out X k h hkm
                  clear hrw htk hB HBS HTK HFR HRO HUS HOV HUV HMB HPO HSI HMS HOX HCP HSK
                  generalize s.getD k [] = rk at *
                  go_upto_region 31 with fail
                  rw [← hWB]
                  clear hWB hfz hck
                  go_wp2
                  go_loopw [19, 20] (fun x qv wr => ∃ q : Nat, q ≤ C.length ∧ qv = .int .i64 (q : Int) ∧ wr.ownsRow WB.heap.size 3 1 x (mtTo C rk q).length (ints (mtTo C rk q)) ∧ Below WB.heap.size WB wr) (fun _ qv _ => C.length - (intOf qv).toNat)
                  case atStart => exact ⟨0, Nat.zero_le _, rfl, by rw [show mtTo C rk 0 = [] from rfl]; exact World.ownsRow_nil _ _ _ _, Below.refl _ _⟩
                  case round =>
                    obtain ⟨q, hq, rfl, ho, hbq⟩ := hrel
                    have HO : Hid (wr.ownsRow WB.heap.size 3 1 u19 (mtTo C rk q).length (ints (mtTo C rk q))) := ho
                    have HBQ : Hid (Below WB.heap.size WB wr) := hbq
                    have HML : Hid ((mtTo C rk q).length ≤ 16) := Nat.le_trans (mtTo_len C _ q) (by omega)
                    clear ho hbq
                    by_cases hlq : q < C.length
                    · obtain ⟨rb, rf, rl, rcc, hro, hrc, hrs⟩ := HCK.out wr (HXB.out wr HBQ.out)
                      obtain ⟨cb, cf, cl, ccc, hco, hcc, hcs⟩ := HCQ.out wr q (HXB.out wr HBQ.out) hlq
                      have HOV : Hid (∀ n, Calls Tryz.prog 22 #[.slice rl (d + 1) rcc, .slice cl d ccc] (wr.drewN n) fun e w' => e = .returned (.int .i64 (overL rk (C.getD q []))) ∧ ∃ k, w' = (wr.drewN n).drewN k) := fun n => HOK.out _ q hlq _ _ (hrs.drewN n) (hcs.drewN n)
                      have HSU : Hid (mtTo C rk (q + 1) = mtTo C rk q ++ (if overL rk (C.getD q []) = 0 then [(q : Int)] else [])) := HMK.out q
                      have hqI : (q : Int) < (C.length : Int) := by omega
                      subst hro hco
                      clear hrs hcs
                      generalize overL rk (C.getD q []) = z at *
                      by_cases hz : z = 0
                      · have tz : (z == 0) = true := by simp [hz]
                        have HS2 : Hid (mtTo C rk (q + 1) = mtTo C rk q ++ [(q : Int)]) := by
                          have h := HSU.out
                          rw [if_pos hz] at h
                          exact h
                        clear HSU hz
                        obtain ⟨ol, hol⟩ : ∃ ol, ol = (mtTo C rk q).length := ⟨_, rfl⟩
                        have HOL : Hid (ol = (mtTo C rk q).length) := hol
                        rw [← hol] at HO HML
                        have hol2 : ol ≤ 16 := HML.out
                        clear hol
                        go_wp2
                        go_quiet (first | (go_at_call 22; exact Calls.quiet_of (w := wr) (HOV.out _)))
                        obtain ⟨WX, hWX⟩ : ∃ WX, WX = wr.drewN nq := ⟨_, rfl⟩
                        rw [← hWX]
                        have HOX2 : Hid (WX.ownsRow WB.heap.size 3 1 u19 ol (ints (mtTo C rk q))) := by rw [hWX]; exact HO.out
                        have HBX : Hid (Below WB.heap.size WB WX) := by rw [hWX]; exact below_drewN HBQ.out _
                        have hszx : WB.heap.size ≤ WX.heap.size := HBX.out.size
                        clear hWX hrc hcc HOV HO
                        go_wp2_with (first | (at_builtin; refine wpList_append_own _ rfl _ _ 22 rfl WB.heap.size 3 i3 (.int .i64 0) 1 8 Tryz.underlying22 hi3 hz30 hz31 hz32 rfl (by decide) _ _ _ rfl (HOX2.out.alloc _) ⟨WX.heap.size, 0, none⟩ 1 1 [.int .i64 q] rfl rfl (one_new _ _ _) (one_int _) ?c3 ?c4 ?c5 ?_))
                        case c3 => unfold maxLen; omega
                        case c4 => omega
                        case c5 => first | exact hszx | omega | (simp; omega)
                        intro v' w7 ho7 hg7 _
                        have R1 : Hid (w7.ownsRow WB.heap.size 3 1 v' (mtTo C rk (q + 1)).length (ints (mtTo C rk (q + 1)))) := by
                          have e1 : (mtTo C rk (q + 1)).length = ol + 1 := by rw [HS2.out, List.length_append, ← HOL.out]; rfl
                          have e2 : ints (mtTo C rk (q + 1)) = ints (mtTo C rk q) ++ [.int .i64 (q : Int)] := by rw [HS2.out]; simp [ints]
                          show World.ownsRow _ _ _ _ _ _ _
                          rw [e1, e2]
                          exact ho7
                        have R2 : Hid (Below WB.heap.size WB w7) := (HBX.out.alloc hszx _).grown hg7 (by simp; omega) (fun x hx => (HOX2.out.lt x hx).1)
                        clear ho7 hg7
                        go_wp2
                        exact ⟨⟨q + 1, by omega, by go_num, R1.out, R2.out⟩, by simp [intOf]; omega⟩
                      · have tz : (z == 0) = false := by simp [hz]
                        have HS2 : Hid (mtTo C rk (q + 1) = mtTo C rk q) := by
                          have h := HSU.out
                          rw [if_neg hz, List.append_nil] at h
                          exact h
                        clear HSU hz
                        go_wp2
                        go_quiet (first | (go_at_call 22; exact Calls.quiet_of (w := wr) (HOV.out _)))
                        obtain ⟨WX, hWX⟩ : ∃ WX, WX = wr.drewN nq := ⟨_, rfl⟩
                        rw [← hWX]
                        have HOX2 : Hid (WX.ownsRow WB.heap.size 3 1 u19 (mtTo C rk (q + 1)).length (ints (mtTo C rk (q + 1)))) := by rw [hWX, HS2.out]; exact HO.out
                        have HBX : Hid (Below WB.heap.size WB WX) := by rw [hWX]; exact below_drewN HBQ.out _
                        clear hWX hrc hcc HOV HO
                        go_wp2
                        exact ⟨⟨q + 1, by omega, by go_num, HOX2.out, HBX.out⟩, by simp [intOf]; omega⟩
                    · have hqe : q = C.length := by omega
                      subst hqe
                      obtain ⟨so, sc, hsv⟩ := owns_form HO.out
                      subst hsv
                      have HSD : Hid (Sl 0 3 wr (.slice so (mtTo C rk C.length).length sc) (ints (mtTo C rk C.length))) := Sl.own HO.out
                      obtain ⟨vs, g1, g2, g3⟩ := HFB.out.below HBQ.out (Nat.le_refl _)
                      rw [List.length_map] at g1 g2 g3
                      have G1 : Hid (vs.length = ps.length) := g1
                      have G2 : Hid (wr.ownsRow (w4.heap.size + 1) 22 1 (.slice zo ps.length zc) ps.length vs) := g2
                      have G3 : Hid (∀ j, j < ps.length → Sl 0 3 wr (vs.getD j (.slice none 0 0)) (ints ((ps.map fun p => memL (m.getD p (0, 0, 1)).1).getD j []))) := g3
                      have hszr : w4.heap.size + 1 ≤ wr.heap.size := Nat.le_trans hGB HBQ.out.size
                      have HML2 : Hid ((mtTo C rk C.length).length ≤ 16) := HML.out
                      clear g1 g2 g3 HO hlq hq
                      generalize hsn : (mtTo C rk C.length).length = sn at *
                      go_wp2_with (first | (at_builtin; refine wpList_append_own _ rfl _ _ 25 rfl (w4.heap.size + 1) 22 i0 (.slice none 0 0) 1 24 Tryz.underlying25 hi hz0 hz1 hz2 rfl (by decide) _ _ _ rfl (G2.out.alloc _) ⟨wr.heap.size, 0, none⟩ 1 1 [.slice so sn sc] rfl rfl (one_new _ _ _) (one_slice _ _ _) ?d3 ?d4 ?d5 ?_))
                      case d3 => unfold maxLen; omega
                      case d4 => omega
                      case d5 => first | exact hszr | omega | (simp; omega)
                      intro v' w8 ho8 hg8 _
                      have R1 : Hid (Fr (w4.heap.size + 1) 22 3 w8 v' ((ps ++ [k]).map fun p => memL (m.getD p (0, 0, 1)).1)) := by
                        have hp := Fr.push (e2 := 22) (e1 := 3) (m := ps.map fun p => memL (m.getD p (0, 0, 1)).1) (u := .slice so sn sc) (zs := mtTo C rk C.length) (by decide) (by rw [List.length_map]; exact G1.out) (by rw [List.length_map]; exact G2.out.alloc _)
                          (fun j hj => (G3.out j (by rw [List.length_map] at hj; exact hj)).alloc _) (HSD.out.alloc _) (by rw [List.length_map]; exact ho8) hg8
                        show Fr _ _ _ _ _ _
                        rw [HMP.out]
                        exact hp
                      have R2 : Hid (Below (w4.heap.size + 1) WB w8) := ((HBQ.out.mono hGB).alloc hszr _).grown hg8 (by simp; omega) (fun x hx => (G2.out.lt x hx).1)
                      have R3 : Hid (w8.rowIs w4.heap.size 4 s.length (fun j => .bool (decide (j ∈ ps ++ [k])))) := by
                        obtain ⟨cur, h1, h2, h3⟩ := HRB.out
                        exact ⟨cur, (R2.out.block _ (by omega)).trans h1, h2, h3⟩
                      have R4 : Hid (Below w4.heap.size w4 w8) := HB4B.out.trans (R2.out.mono (by omega))
                      have hpl2 : (ps ++ [k]).length = ps.length + 1 := by simp
                      clear ho8 hg8
                      go_wp2
                      exact ⟨⟨ps ++ [k], by rw [hpl2]; go_num, by omega, HTN.out, R1.out, R3.out, R4.out⟩, by simp [intOf]; omega⟩
            · have hpe : ps.length = s.length := by omega
              have HMA : Hid (Mat 0 22 3 wa (.slice zo ps.length zc) (ps.map fun p => memL (m.getD p (0, 0, 1)).1)) := fr_mat0F HFR.out
              have HEB : Hid (Below w.heap.size w wa) := HEN.out wa HBR.out
              clear HFR HRO HOV HUV HMB HPO HSI HCP HCQ HOX HMS
              rw [hpe] at HMA ⊢
              go_wp2
              go_ret2
              refine ⟨s, C, HS.out.1, HS.out.2, HCC.out.1, HCC.out.2, Or.inl ⟨ps, zo, zc, ?_, hpe, rfl, ?_⟩, HEB.out⟩
              · rw [← HME.out]; exact HTK.out
              · rw [← HME.out]; exact HMA.out

end Go.Proofs.YtaklkiagkdpimaaGreatDoor
