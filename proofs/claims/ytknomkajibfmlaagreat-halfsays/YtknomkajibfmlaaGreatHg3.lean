/- facetref.Open, facetref.CutCorners. -/
import Derived.Test.YtknomkajibfmlaaGreatHg0
import Derived.Test.YtknomkajibfmlaaGreatPqx
import Derived.Test.YtknomkajibfmlaaGreatMgAV
import Derived.Test.YtknomkajibfmlaaGreatMgAM
import Derived.Deep.DeepCutAuto
namespace Go.Proofs.YtknomkajibfmlaaGreat
open Go.RowKit
attribute [local go_sem ↓] Go.wp_at_zero Go.wp_at_succ

theorem on_row {w : World} {d k : Nat} {s : Int} (hk : k < d) (hd : d ≤ 100) {o : Obj} (ho : o = .cells (((madeCells #[.int .i64 0] (d + 1)).setIfInBounds k (.int .i64 s)).setIfInBounds d (.int .i64 (-1))) 3) : Sl 0 3 (w.alloc o) (.slice (some ⟨w.heap.size, 0, none⟩) (d + 1) (d + 1)) (ints (onS d k s)) := by
  subst ho
  have n3 := alloc_new w (.cells (((madeCells #[.int .i64 0] (d + 1)).setIfInBounds k (.int .i64 s)).setIfInBounds d (.int .i64 (-1))) 3)
  have hsz : (madeCells #[.int .i64 0] (d + 1)).size = d + 1 := by rw [← Array.length_toList, toList_madeCells_one]; simp
  have hgrow : (w.alloc (.cells (((madeCells #[.int .i64 0] (d + 1)).setIfInBounds k (.int .i64 s)).setIfInBounds d (.int .i64 (-1))) 3)).rowIs w.heap.size 3 (d + 1) (fun j => if j = d then .int .i64 (-1) else if j = k then .int .i64 s else .int .i64 0) := by
    refine ⟨_, n3, ?_, fun i hi => ?_⟩
    · simp only [Array.size_setIfInBounds]
      exact hsz
    · rw [Array.getElem?_setIfInBounds]
      by_cases e : d = i
      · subst e
        simp [hsz]
      · rw [if_neg e, Array.getElem?_setIfInBounds]
        by_cases e2 : k = i
        · subst e2
          have hz : k < (madeCells #[.int .i64 0] (d + 1)).size := by rw [hsz]; omega
          simp [hz, show ¬ k = d from fun h => e h.symm]
        · rw [if_neg e2, ← Array.getElem?_toList, toList_madeCells_one]
          simp [hi, show ¬ i = k from fun h => e2 h.symm, show ¬ i = d from fun h => e h.symm]
  refine Sl.row' hgrow (by unfold maxLen; omega) (by simp [onS]) (fun i hi => ?_)
  rw [ints_get _ _ (by rw [onS_len]; exact hi)]
  have e3 : (onS d k s).getD i 0 = if i = d then -1 else if i = k then s else 0 := by simp [onS, hi]
  rw [e3]
  by_cases e : i = d
  · simp [e]
  · by_cases e2 : i = k
    · subst e2
      simp [e]
    · simp [e, e2]

theorem stR_get {d i : Nat} {r : List Int} (h : r.length = d + 1) (hi : i < d + 1) : (stR d r).getD i 0 = if i = d then 0 else r.getD i 0 := by
  by_cases e : i = d
  · rw [if_pos e, e]; exact stR_last h
  · rw [if_neg e]; exact stR_at h (by omega)

/-- A row of rows laid behind nothing. -/
theorem fr_laid {B : Nat} {W w1 : World} {v0 v1 : Value} {m : List (List Int)} {vs : List Value} (g1 : vs.length = m.length) (g3 : ∀ i, i < m.length → Sl 0 3 W (vs.getD i (.slice none 0 0)) (ints (m.getD i []))) (h0 : W.ownsRow B 38 1 v0 0 []) (ho : w1.ownsRow B 38 1 v1 m.length vs) (hg : W.grownBy w1 v0.ownBlock) : Fr B 38 3 w1 v1 m :=
  ⟨vs, g1, ho, fun i hi => (g3 i hi).grown hg (fun k hk => ⟨Nat.zero_le _, (owns_typed h0 (by decide) k hk).2⟩)⟩

theorem st_rw {d : Nat} {rows : List (List Int)} (hc : CutF d rows) {k : Nat} {s : Int} (hs : s.natAbs ≤ 1) : RwE d (opR d rows k s) := fun r hr => by
  refine ⟨opR_len hc.len r hr, fun z hz => ?_⟩
  unfold opR at hr
  rcases List.mem_append.1 hr with h | h
  · obtain ⟨q, hq, rfl⟩ := List.mem_map.1 h
    unfold stR at hz
    rcases List.mem_append.1 hz with h2 | h2
    · have := hc.bd q hq z (List.mem_of_mem_take h2); omega
    · simp only [List.mem_singleton] at h2; rw [h2]; decide
  · simp only [List.mem_singleton] at h
    rw [h] at hz
    simp only [onS, List.mem_map] at hz
    obtain ⟨i, _, rfl⟩ := hz
    split
    · decide
    · split
      · omega
      · decide

theorem opD_yes {d k : Nat} {rows : List (List Int)} {s : Int} (hk : k < d) (hs : s = -1 ∨ s = 1) (h : docE d (opR d rows k s) = false) : opD d rows = true := by
  unfold opD
  rw [List.any_eq_true]
  refine ⟨k, List.mem_range.2 hk, ?_⟩
  rcases hs with rfl | rfl
  · simp [h]
  · simp [h]

theorem opD_no {d : Nat} {rows : List (List Int)} (h : ∀ q, q < d → docE d (opR d rows q (-1)) = true ∧ docE d (opR d rows q 1) = true) : opD d rows = false := by
  unfold opD
  rw [List.any_eq_false]
  intro q hq
  obtain ⟨a, b⟩ := h q (List.mem_range.1 hq)
  simp [a, b]

set_option maxRecDepth 100000 in
set_option maxHeartbeats 3200000 in
theorem openR_any (d : Nat) (rows : List (List Int)) (v : Value) (w : World) {B0 : Nat} (hv : Mat B0 38 3 w v rows) (hc : CutF d rows) :
    Calls Tryz.prog 27 #[v, .int .i64 d] w fun e w' => e = .returned (.bool (opD d rows)) ∧ Below w.heap.size w w' := by
  obtain ⟨i0, hi, hz0, hz1, hz2⟩ := info_parts Tryz.info38
  obtain ⟨ro, rc, hvv, hlc, hcm⟩ := mat_open hv
  subst hvv
  have HV : Hid (Mat B0 38 3 w (.slice ro rows.length rc) rows) := hv
  have HC : Hid (CutF d rows) := hc
  have hn12 := hc.n12
  have hd3 := hc.d4
  have hd1 := hc.d1
  have HML : Hid ((rows.map (stR d)).length = rows.length) := List.length_map _
  have hmk := run_make_row' (P := Tryz.prog) 38 3 (.int .i64 0) 8 Tryz.underlying38 Tryz.info3 rfl .i64 .i64 (d + 1) (by omega) (by omega)
  rw [show (((d + 1 : Nat) : Int)) = (d : Int) + 1 by omega] at hmk
  clear hv hc
  go_enter Tryz.func27, Tryz.ntmps27
  go_wp2
  go_loopw [5, 6] (fun x i wr => ∃ p : Nat, p ≤ rows.length ∧ i = .int .i64 p ∧ Fr w.heap.size 38 3 wr x ((rows.map (stR d)).take p) ∧ Below w.heap.size w wr) (fun _ i _ => rows.length - (intOf i).toNat)
  case atStart => exact ⟨0, Nat.zero_le _, rfl, Fr.nil _ _ _ _, Below.refl _ _⟩
  case round =>
    obtain ⟨p, hp, rfl, hfr, hbel⟩ := hrel
    obtain ⟨wa, rfl⟩ : ∃ wa, wa = wr := ⟨_, rfl⟩
    have HB : Hid (Below w.heap.size w wa) := hbel
    have HF : Hid (Fr w.heap.size 38 3 wa u5 ((rows.map (stR d)).take p)) := hfr
    have hsza : w.heap.size ≤ wa.heap.size := hbel.size
    clear hbel hfr
    by_cases hlt : p < rows.length
    · have HSN : Hid ((rows.map (stR d)).take (p + 1) = (rows.map (stR d)).take p ++ [stR d (rows.getD p [])]) := by
        show _ = _
        rw [List.take_succ_eq_append_getElem (by rw [HML.out]; exact hlt)]
        simp [hlt]
      obtain ⟨b, o, cp, fv, hs, _, hfc, hfv⟩ := mat_cell (HV.out.below HB.out (Nat.le_refl _)) hlt
      simp only [Value.slice.injEq] at hs
      obtain ⟨rfl, -, rfl⟩ := hs
      have hfm : rows.getD p [] ∈ rows := by rw [List.getD_eq_getElem?_getD, List.getElem?_eq_getElem hlt]; exact List.getElem_mem _
      obtain ⟨y, hy⟩ : ∃ y, y = rows.getD p [] := ⟨_, rfl⟩
      rw [← hy] at hfv hfm HSN
      clear hy
      have HYL : Hid (y.length = d + 1) := HC.out.len y hfm
      obtain ⟨yo, yc, hyv, _, _⟩ := sl_open hfv
      rw [HYL.out] at hyv
      subst hyv
      have HFV : Hid (Sl B0 3 wa (.slice yo (d + 1) yc) (ints y)) := hfv
      have hpI : (p : Int) < (rows.length : Int) := by omega
      have hpI0 : (0 : Int) ≤ (p : Int) := by omega
      clear hfv hfm
      go_wp2_with fail
      refine (copy_any _ y _ wa HFV.out (by rw [HYL.out]; omega)).mono ?_
      rintro e w2 ⟨u, rfl, ho2, hb2⟩
      rw [HYL.out] at ho2
      obtain ⟨g, gc, F, hu, hg, hrow, hF, hgn, hgm⟩ := own_rw ho2 (by omega)
      subst hu
      have ca := hrow.cell (i := d) (by omega)
      have cf := hrow.frozen d
      rw [hF d (by omega)] at ca
      have HROW : Hid ((w2.setCell ⟨g, d, none⟩ (.int .i64 0)).rowIs g 3 gc (fun i => if i = d then .int .i64 0 else F i)) := hrow.set d _
      have HSL : Hid (∀ Z, Sl Z 3 (w2.setCell ⟨g, d, none⟩ (.int .i64 0)) (.slice (some ⟨g, 0, none⟩) (d + 1) gc) (ints (stR d y))) := fun Z => row_slT HROW.out (fun i hi => by
        show (if i = d then Value.int .i64 0 else F i) = _
        rw [stR_get HYL.out hi]
        by_cases e : i = d
        · rw [if_pos e, if_pos e]
        · rw [if_neg e, if_neg e, hF i hi]) (stR_len HYL.out) hgn hgm
      have HB3 : Hid (Below wa.heap.size wa (w2.setCell ⟨g, d, none⟩ (.int .i64 0))) := ((Touch.refl _ _).setCell d _).below hb2 hg
      generalize y.getD d 0 = z at *
      have hdI : (d : Int) < (d : Int) + 1 := by omega
      have hdI0 : (0 : Int) ≤ (d : Int) := by omega
      clear hrow hF ho2 hb2
      go_upto_region 7 with fail
      obtain ⟨W3, hW3⟩ : ∃ W3, W3 = w2.setCell ⟨g, d, none⟩ (.int .i64 0) := ⟨_, rfl⟩
      rw [← hW3] at HSL HB3 ⊢
      clear hW3 HROW ca cf
      have HB3w : Hid (Below w.heap.size w W3) := HB.out.trans (HB3.out.mono hsza)
      obtain ⟨M, hM⟩ : ∃ M, M = (rows.map (stR d)).take p := ⟨_, rfl⟩
      have hml : M.length ≤ 12 := by rw [hM, List.length_take]; omega
      rw [← hM] at HF HSN
      clear hM
      obtain ⟨vs, g1, g2, g3⟩ := HF.out.below HB3.out (Nat.le_refl _)
      have G2 : Hid (W3.ownsRow w.heap.size 38 1 u5 M.length vs) := g2
      have hsz3 : w.heap.size ≤ W3.heap.size := HB3w.out.size
      have HMO : Hid (∀ v' w3, w3.ownsRow w.heap.size 38 1 v' (M.length + 1) (vs ++ [.slice (some ⟨g, 0, none⟩) (d + 1) gc]) → (W3.alloc (.cells #[.slice (some ⟨g, 0, none⟩) (d + 1) gc] 38)).grownBy w3 u5.ownBlock → Fr w.heap.size 38 3 w3 v' (M ++ [stR d y]) ∧ Below w.heap.size w w3) := fun v' w3 ho hg => 
        ⟨Fr.push (e2 := 38) (e1 := 3) (m := M) (u := .slice (some ⟨g, 0, none⟩) (d + 1) gc) (zs := stR d y) (by decide) g1 (g2.alloc _) (fun i hi => (g3 i hi).alloc _) ((HSL.out 0).alloc _) ho hg,
         (HB3w.out.alloc hsz3 _).grown hg (by simp; omega) (fun x hx => (g2.lt x hx).1)⟩
      clear g1 g2 g3
      go_wp2_with (first | (at_builtin; refine wpList_append_own _ rfl _ _ 22 rfl w.heap.size 38 i0 (.slice none 0 0) 1 24 Tryz.underlying22 hi hz0 hz1 hz2 rfl (by decide) _ _ _ rfl (G2.out.alloc _) ⟨W3.heap.size, 0, none⟩ 1 1 [.slice (some ⟨g, 0, none⟩) (d + 1) gc] rfl rfl (one_new _ _ _) (one_slice _ _ _) ?d3 ?d4 ?d5 ?_))
      case d3 => unfold maxLen; omega
      case d4 => omega
      case d5 => simp; omega
      intro v' w4 ho hg' _
      obtain ⟨q1, q2⟩ := HMO.out v' w4 ho hg'
      have R1 : Hid (Fr w.heap.size 38 3 w4 v' ((rows.map (stR d)).take (p + 1))) := by show Fr _ _ _ _ _ _; rw [HSN.out]; exact q1
      have R2 : Hid (Below w.heap.size w w4) := q2
      clear ho hg' q1 q2 HMO G2
      go_wp2
      go_roundw
      case rel => exact ⟨p + 1, by omega, by go_num, R1.out, R2.out⟩
      case measure => simp [intOf]; omega
    · have hpe : p = rows.length := by omega
      subst hpe
      have hf := HF.out
      rw [List.take_of_length_le (by rw [HML.out]; exact Nat.le_refl _)] at hf
      obtain ⟨T, hT⟩ : ∃ T, T = rows.map (stR d) := ⟨_, rfl⟩
      have HOP : Hid (∀ k s, opR d rows k s = T ++ [onS d k s]) := fun k s => by rw [hT]; rfl
      have hTl : T.length = rows.length := by rw [hT]; exact HML.out
      rw [← hT] at hf
      obtain ⟨tvs, t1, t2, t3⟩ := hf
      obtain ⟨tO, tc, htv⟩ := owns_form t2
      subst htv
      have hT12 : T.length ≤ 12 := by omega
      have T1 : Hid (tvs.length = T.length) := t1
      have T3 : Hid (∀ W', Below wa.heap.size wa W' → Sl 0 38 W' (.slice tO T.length tc) tvs ∧ ∀ i, i < T.length → Sl 0 3 W' (tvs.getD i (.slice none 0 0)) (ints (T.getD i []))) := fun W' hB => ⟨(Sl.own (B := 0) t2).below hB (Nat.le_refl _), fun i hi => (t3 i hi).below hB (Nat.le_refl _)⟩
      have HONE : Hid (∀ u ∈ tvs, u.oneCell' = true) := rows_one1 (m := T) t1 t3
      clear HF hT hTl t1 t2 t3
      go_wp2
      go_loopw [8] (fun i wr => ∃ k : Nat, k ≤ d ∧ i = .int .i64 k ∧ (∀ q, q < k → docE d (opR d rows q (-1)) = true ∧ docE d (opR d rows q 1) = true) ∧ Below wa.heap.size wa wr) (fun i _ => d - (intOf i).toNat)
      case atStart => exact ⟨0, Nat.zero_le _, rfl, fun q hq => by omega, Below.refl _ _⟩
      case round =>
        obtain ⟨k, hk, rfl, hno, hbel⟩ := hrel
        obtain ⟨wb, rfl⟩ : ∃ wb, wb = wr := ⟨_, rfl⟩
        have HBB : Hid (Below wa.heap.size wa wb) := hbel
        have HNO : Hid (∀ q, q < k → docE d (opR d rows q (-1)) = true ∧ docE d (opR d rows q 1) = true) := hno
        clear hbel hno
        by_cases hlt2 : k < d
        · have hkI : (k : Int) < (d : Int) := by omega
          have hkI0 : (0 : Int) ≤ (k : Int) := by omega
          have hkI1 : (k : Int) < (d : Int) + 1 := by omega
          have hdI : (d : Int) < (d : Int) + 1 := by omega
          have hdI0 : (0 : Int) ≤ (d : Int) := by omega
          go_wp2
          go_loopw [9] (fun i wr => ∃ s : Int, i = .int .i64 s ∧ (s = -1 ∨ s = 1 ∧ docE d (opR d rows k (-1)) = true ∨ s = 3 ∧ docE d (opR d rows k (-1)) = true ∧ docE d (opR d rows k 1) = true) ∧ Below wa.heap.size wa wr) (fun i _ => (3 - intOf i).toNat)
          case atStart => exact ⟨-1, rfl, .inl rfl, HBB.out⟩
          case round =>
            obtain ⟨s, rfl, hss, hbel⟩ := hrel
            obtain ⟨wd, rfl⟩ : ∃ wd, wd = wr := ⟨_, rfl⟩
            have HBD : Hid (Below wa.heap.size wa wd) := hbel
            have hszd : wa.heap.size ≤ wd.heap.size := hbel.size
            clear hbel
            by_cases h3 : s = 3
            · have HBO : Hid (docE d (opR d rows k (-1)) = true ∧ docE d (opR d rows k 1) = true) := by
                rcases hss with h | ⟨h, _⟩ | ⟨_, h⟩
                · omega
                · omega
                · exact h
              subst h3
              clear hss
              go_wp2
              exact ⟨⟨k + 1, by omega, by go_num, fun q hq => (by
                by_cases e : q = k
                · subst e; exact HBO.out
                · exact HNO.out q (by omega)), HBD.out⟩, by simp [intOf]; omega⟩
            · have hs1 : s = -1 ∨ s = 1 := by
                rcases hss with h | ⟨h, _⟩ | ⟨h, _⟩
                · exact .inl h
                · exact .inr h
                · exact absurd h h3
              have HS1 : Hid (s = -1 ∨ s = 1) := hs1
              have HSS : Hid (s = 1 → docE d (opR d rows k (-1)) = true) := fun e => by
                rcases hss with h | ⟨_, h⟩ | ⟨h, _⟩
                · omega
                · exact h
                · exact absurd h h3
              have hsle : s ≤ 1 := by omega
              have hsge : -1 ≤ s := by omega
              have hsb : decide (s ≤ 1) = true := decide_eq_true hsle
              clear hss h3 hs1
              have hmc : (madeCells #[.int .i64 0] (d + 1))[k]? = some (.int .i64 0) := by
                rw [← Array.getElem?_toList, toList_madeCells_one, List.getElem?_replicate, if_pos (by omega)]
              have hmd : ((madeCells #[.int .i64 0] (d + 1)).setIfInBounds k (.int .i64 s))[d]? = some (.int .i64 0) := by
                rw [Array.getElem?_setIfInBounds, if_neg (by omega), ← Array.getElem?_toList, toList_madeCells_one, List.getElem?_replicate, if_pos (by omega)]
              obtain ⟨W3, hW3⟩ : ∃ W3, W3 = wd.alloc (.cells (((madeCells #[.int .i64 0] (d + 1)).setIfInBounds k (.int .i64 s)).setIfInBounds d (.int .i64 (-1))) 3) := ⟨_, rfl⟩
              have HSL : Hid (Sl 0 3 W3 (.slice (some ⟨wd.heap.size, 0, none⟩) (d + 1) (d + 1)) (ints (onS d k s))) := by rw [hW3]; exact on_row hlt2 (by omega) rfl
              have HB3 : Hid (Below wd.heap.size wd W3) := by rw [hW3]; exact alloc_keep _ _
              go_upto_region 17 with fail
              rw [← hW3]
              clear hW3 hmc hmd
              have HB3a : Hid (Below wa.heap.size wa W3) := HBD.out.trans (HB3.out.mono hszd)
              have hsz3 : wa.heap.size ≤ W3.heap.size := HB3a.out.size
              have HE0 : Hid ((W3.alloc (.cells #[] 38)).ownsRow wa.heap.size 38 1 (.slice (some ⟨W3.heap.size, 0, none⟩) 0 0) 0 []) := emp_own W3 wa.heap.size hsz3
              have HBE : Hid (Below W3.heap.size W3 (W3.alloc (.cells #[] 38))) := alloc_keep _ _
              have HBEa : Hid (Below wa.heap.size wa (W3.alloc (.cells #[] 38))) := HB3a.out.trans (HBE.out.mono hsz3)
              have HTS : Hid (Sl 0 38 (W3.alloc (.cells #[] 38)) (.slice tO T.length tc) tvs) := (T3.out _ HBEa.out).1
              have HSZE : Hid (wa.heap.size ≤ (W3.alloc (.cells #[] 38)).heap.size) := by show _ ≤ _; rw [size_alloc]; omega
              have HLD : Hid (∀ v1 w1, w1.ownsRow wa.heap.size 38 1 v1 T.length tvs → (W3.alloc (.cells #[] 38)).grownBy w1 (Value.slice (some ⟨W3.heap.size, 0, none⟩) 0 0).ownBlock → Fr wa.heap.size 38 3 w1 v1 T ∧ Below wa.heap.size wa w1 ∧ Sl 0 3 w1 (.slice (some ⟨wd.heap.size, 0, none⟩) (d + 1) (d + 1)) (ints (onS d k s))) := fun v1 w1 ho hg => by
                refine ⟨fr_laid T1.out (fun i hi => (T3.out _ HBEa.out).2 i hi) HE0.out ho hg, HBEa.out.grown hg HSZE.out (fun x hx => (HE0.out.lt x hx).1), ?_⟩
                exact (HSL.out.below HBE.out (Nat.le_refl _)).grown hg (fun k hk => ⟨Nat.zero_le _, (owns_typed HE0.out (by decide) k hk).2⟩)
              clear HB3 HBE
              go_wp2_with (first | (at_builtin; refine wpList_app_sl rfl _ _ 22 rfl wa.heap.size 38 i0 (.slice none 0 0) 24 Tryz.underlying22 hi hz0 hz1 hz2 rfl _ 0 [] rfl HE0.out tO T.length tc tvs rfl HTS.out HONE.out ?d3 ?d4 HSZE.out ?_))
              case d3 => unfold maxLen; omega
              case d4 => omega
              intro v1 w1 ho1 hg1
              obtain ⟨q1, q2, q3⟩ := HLD.out v1 w1 ho1 hg1
              obtain ⟨vs, g1, g2, g3⟩ := q1
              obtain ⟨vo, vc, hv1⟩ := owns_form g2
              subst hv1
              have G2 : Hid (w1.ownsRow wa.heap.size 38 1 (.slice vo T.length vc) T.length vs) := g2
              have hsz1 : wa.heap.size ≤ w1.heap.size := q2.size
              have HMO : Hid (∀ v' w3, w3.ownsRow wa.heap.size 38 1 v' (T.length + 1) (vs ++ [.slice (some ⟨wd.heap.size, 0, none⟩) (d + 1) (d + 1)]) → (w1.alloc (.cells #[.slice (some ⟨wd.heap.size, 0, none⟩) (d + 1) (d + 1)] 38)).grownBy w3 (Value.slice vo T.length vc).ownBlock → Fr wa.heap.size 38 3 w3 v' (T ++ [onS d k s]) ∧ Below wa.heap.size wa w3) := fun v' w3 ho hg =>
                ⟨Fr.push (e2 := 38) (e1 := 3) (m := T) (u := .slice (some ⟨wd.heap.size, 0, none⟩) (d + 1) (d + 1)) (zs := onS d k s) (by decide) g1 (g2.alloc _) (fun i hi => (g3 i hi).alloc _) (q3.alloc _) ho hg,
                 (q2.alloc hsz1 _).grown hg (by simp; omega) (fun x hx => (g2.lt x hx).1)⟩
              clear q2 q3 g1 g2 g3 ho1 hg1 HLD
              go_wp2_with (first | (at_builtin; refine wpList_append_own _ rfl _ _ 22 rfl wa.heap.size 38 i0 (.slice none 0 0) 1 24 Tryz.underlying22 hi hz0 hz1 hz2 rfl (by decide) _ _ _ rfl (G2.out.alloc _) ⟨w1.heap.size, 0, none⟩ 1 1 [.slice (some ⟨wd.heap.size, 0, none⟩) (d + 1) (d + 1)] rfl rfl (one_new _ _ _) (one_slice _ _ _) ?d3 ?d4 ?d5 ?_))
              case d3 => unfold maxLen; omega
              case d4 => omega
              case d5 => simp; omega
              intro v2 w2 ho2 hg2 _
              obtain ⟨q1, q2⟩ := HMO.out v2 w2 ho2 hg2
              rw [← HOP.out] at q1
              have HB2 : Hid (Below wa.heap.size wa w2) := q2
              have hm2 := fr_matE q1
              obtain ⟨vo2, vc2, hv2, _, _⟩ := mat_open hm2
              obtain ⟨n2, hn2⟩ : ∃ n2, n2 = (opR d rows k s).length := ⟨_, rfl⟩
              rw [← hn2] at hv2
              subst hv2
              have hol : (opR d rows k s).length ≤ 13 := by rw [HOP.out, List.length_append]; simp; omega
              have HEM : Hid (Calls Tryz.prog 6 #[.slice vo2 n2 vc2, .int .i64 d] w2 fun e w' => e = .returned (.bool (docE d (opR d rows k s))) ∧ Below wa.heap.size wa w') := by
                refine (empty_any d (opR d rows k s) _ w2 hm2 hd1 hd3 hol (st_rw HC.out (by omega))).mono ?_
                rintro e w' ⟨rfl, hb⟩
                exact ⟨rfl, HB2.out.trans (hb.mono HB2.out.size)⟩
              clear q1 q2 ho2 hg2 HMO G2 hm2 hol hn2
              have HYES : Hid (docE d (opR d rows k s) = false → opD d rows = true) := fun h => opD_yes hlt2 HS1.out h
              have HNX : Hid (docE d (opR d rows k s) = true → (s + 2 = -1 ∨ s + 2 = 1 ∧ docE d (opR d rows k (-1)) = true ∨ s + 2 = 3 ∧ docE d (opR d rows k (-1)) = true ∧ docE d (opR d rows k 1) = true)) := fun h => by
                rcases HS1.out with e | e
                · rw [e] at h ⊢; exact .inr (.inl ⟨by decide, h⟩)
                · rw [e] at h ⊢; exact .inr (.inr ⟨by decide, HSS.out e, h⟩)
              generalize docE d (opR d rows k s) = E at *
              have hw1 : IntKind.i64.wrap (s + 2) = s + 2 := by rw [IntKind.wrap_i64]; omega
              have hw2 : wrap64 (s + 2) = s + 2 := IntWalk.wrap64_in _ ⟨by omega, by omega⟩
              go_wp2_with fail
              refine HEM.out.mono ?_
              rintro e w3 ⟨rfl, hb3⟩
              have HB3z : Hid (Below wa.heap.size wa w3) := hb3
              clear hb3 HEM
              cases E with
              | false =>
                have HY := HYES.out rfl
                have HY2 : Hid (opD d rows = true) := HY
                clear HY
                go_wp2
                go_ret
                exact ⟨by rw [HY2.out]; rfl, HB.out.trans (HB3z.out.mono hsza)⟩
              | true =>
                have HNX2 : Hid (s + 2 = -1 ∨ s + 2 = 1 ∧ docE d (opR d rows k (-1)) = true ∨ s + 2 = 3 ∧ docE d (opR d rows k (-1)) = true ∧ docE d (opR d rows k 1) = true) := HNX.out rfl
                clear HNX
                go_wp2
                exact ⟨⟨s + 2, rfl, HNX2.out, HB3z.out⟩, by simp [intOf]; omega⟩
        · have hke : k = d := by omega
          have HN2 : Hid (opD d rows = false) := opD_no (fun q hq => HNO.out q (by omega))
          subst hke
          go_wp2
          go_ret
          exact ⟨by rw [HN2.out]; rfl, HB.out.trans (HBB.out.mono hsza)⟩

set_option maxRecDepth 100000 in
set_option maxHeartbeats 1600000 in
theorem cutCorners_any (d : Nat) (rows : List (List Int)) (v : Value) (w : World) {B0 : Nat} (hv : Mat B0 38 3 w v rows) (hc : CutF d rows) :
    Calls Tryz.prog 12 #[v, .int .i64 d] w fun e w' => ∃ uo ul uc E, e = .returned (.tuple #[.slice uo ul uc, .int .i64 E]) ∧ ((empB d rows = true ∧ Value.slice uo ul uc = .slice none 0 0 ∧ E = 6) ∨ (empB d rows = false ∧ opB d rows = true ∧ Value.slice uo ul uc = .slice none 0 0 ∧ E = 7) ∨ (empB d rows = false ∧ opB d rows = false ∧ E = 0 ∧ ∃ s, Mat 0 38 3 w' (.slice uo ul uc) s ∧ SAsc s ∧ ∀ r, r ∈ s ↔ r ∈ ptsD rows d)) ∧ Below w.heap.size w w' := by
  obtain ⟨ro, rc, hvv, hlc, hcm⟩ := mat_open hv
  subst hvv
  have HVW : ∀ X, Below w.heap.size w X → Mat B0 38 3 X (.slice ro rows.length rc) rows := fun X hX => hv.below hX (Nat.le_refl _)
  have H1 : Hid (∀ X, Below w.heap.size w X → Calls Tryz.prog 6 #[.slice ro rows.length rc, .int .i64 d] X fun e w' => e = .returned (.bool (empB d rows)) ∧ Below X.heap.size X w') := fun X hX => by
    have h := empty_any d rows _ X (HVW X hX) hc.d1 hc.d4 (by have := hc.n12; omega) hc.rw
    rw [doc_emp hc.len] at h
    exact h
  have H2 : Hid (∀ X, Below w.heap.size w X → Calls Tryz.prog 27 #[.slice ro rows.length rc, .int .i64 d] X fun e w' => e = .returned (.bool (opB d rows)) ∧ Below X.heap.size X w') := fun X hX => by
    have h := openR_any d rows _ X (HVW X hX) hc
    rw [op_doc hc.len] at h
    exact h
  have H3 : Hid (opB d rows = false → ∀ X, Below w.heap.size w X → Calls Tryz.prog 28 #[.slice ro rows.length rc, .int .i64 d] X fun e w' => ∃ xo xc s, e = .returned (.slice xo s.length xc) ∧ Mat 0 38 3 w' (.slice xo s.length xc) s ∧ SAsc s ∧ (∀ r, r ∈ s ↔ r ∈ ptsD rows d) ∧ Below X.heap.size X w') := fun ho X hX => by
    refine (pointsR_any _ d rows _ X (HVW X hX) hc.d1 hc.d4 (op_some hc.d1 ho) (by have := hc.n12; omega) (fun r hr => ⟨hc.len r hr, fun z hz => by have := hc.bd r hr z hz; omega⟩)).mono ?_
    rintro e w' ⟨x, s, rfl, h1, h2, h3, h4⟩
    have g4 := fr_matE h1
    obtain ⟨xo, xc, rfl, _, _⟩ := mat_open g4
    exact ⟨xo, xc, s, rfl, g4, h2, h3, h4⟩
  clear hv hc HVW
  go_enter Tryz.func12, Tryz.ntmps12
  go_wp2_with fail
  refine (H1.out w (Below.refl _ _)).mono ?_
  rintro e w1 ⟨rfl, hb1⟩
  have HB1 : Hid (Below w.heap.size w w1) := hb1
  clear hb1
  cases he : empB d rows with
  | true =>
    have HE : Hid (empB d rows = true) := he
    clear he
    go_wp2
    exact bodyPost_ret (v := .tuple #[.slice none 0 0, .int .i64 6]) (by simp [results, Tryz.results12, go_sem]) rfl ⟨_, _, _, _, rfl, .inl ⟨HE.out, rfl, rfl⟩, HB1.out⟩
  | false =>
    have HE : Hid (empB d rows = false) := he
    clear he
    go_wp2_with fail
    refine (H2.out w1 HB1.out).mono ?_
    rintro e w2 ⟨rfl, hb2⟩
    have HB2 : Hid (Below w.heap.size w w2) := HB1.out.trans (hb2.mono HB1.out.size)
    clear hb2
    cases ho : opB d rows with
    | true =>
      have HO : Hid (opB d rows = true) := ho
      clear ho
      go_wp2
      exact bodyPost_ret (v := .tuple #[.slice none 0 0, .int .i64 7]) (by simp [results, Tryz.results12, go_sem]) rfl ⟨_, _, _, _, rfl, .inr (.inl ⟨HE.out, HO.out, rfl, rfl⟩), HB2.out⟩
    | false =>
      have HO : Hid (opB d rows = false) := ho
      clear ho
      go_wp2_with fail
      refine (H3.out HO.out w2 HB2.out).mono ?_
      rintro e w3 ⟨xo, xc, s, rfl, h1, h2, h3, h4⟩
      have HB3 : Hid (Below w.heap.size w w3) := HB2.out.trans (h4.mono HB2.out.size)
      have HM : Hid (Mat 0 38 3 w3 (.slice xo s.length xc) s ∧ SAsc s ∧ ∀ r, r ∈ s ↔ r ∈ ptsD rows d) := ⟨h1, h2, h3⟩
      clear h1 h2 h3 h4
      go_wp2
      exact bodyPost_ret (v := .tuple #[.slice xo s.length xc, .int .i64 0]) (by simp [results, Tryz.results12, go_sem]) rfl ⟨_, _, _, _, rfl, .inr (.inr ⟨HE.out, HO.out, rfl, s, HM.out⟩), HB3.out⟩
end Go.Proofs.YtknomkajibfmlaaGreat
