/- exact.reduce of fewer columns than rows have numbers; exact.Rank by it (made out of Run9.k's reduce_any0). -/
import Derived.Test.YtmljnfgfjcjmmaaRunB
namespace Go.Proofs.Ytmljnfgfjcjmmaa
open Go.RowKit Lin
attribute [local go_sem ↓] Go.wp_at_zero Go.wp_at_succ

theorem GS.startW {B R n c wd a b : Nat} {mat : Nat → Nat → Int} {W : World} {f g : Nat → Nat} (hR : W.heap[R]? = some (.cells #[.slice (some ⟨a, 0, none⟩) 0 n, .slice (some ⟨b, 0, none⟩) 0 wd, .int .i64 1, .int .i64 1] 80 (0, 0)))
    (ha : W.heap[a]? = some (.cells (madeCells #[.slice none 0 0] n) 22 (0, 0))) (hb : W.heap[b]? = some (.cells (madeCells #[.int .i64 0] wd) 3 (0, 0))) (ha' : B ≤ a) (hb' : B ≤ b) (hn : n ≤ maxLen) (hc : wd ≤ maxLen) :
    GS B R 0 c mat (.slice (some ⟨a, 0, none⟩) 0 n) (.slice (some ⟨b, 0, none⟩) 0 wd) f g W :=
  ⟨hR, ⟨by simp, Or.inr ⟨a, n, _, rfl, ha', ha, Nat.zero_le _, hn, by rw [size_madeCells]; omega, by simp⟩⟩, fun i hi => absurd hi (by omega), fun i j hi => absurd hi (by omega),
    ⟨by simp, Or.inr ⟨b, wd, _, rfl, hb', hb, Nat.zero_le _, hc, by rw [size_madeCells]; omega, by simp⟩⟩, fun _ _ i hi => absurd hi (by omega)⟩


set_option linter.unusedSimpArgs false in
set_option maxRecDepth 100000 in
set_option maxHeartbeats 4000000 in
theorem reduceW_any (B0 c wd : Nat) (hwd : wd ≤ c) (hw0 : 0 < wd) (m : List (List Int)) (v : Value) (w : World) (hv : Mat B0 22 3 w v m) (hm : m.length ≤ 500) (hc0 : 0 < c) (hc : c ≤ 64) (hw : ∀ r ∈ m, r.length = c) (hbd : Bd (mOf m) m.length c) :
    Calls Try.prog 44 #[v, .int .i64 wd] w fun e w' => ∃ M' C k sgn, Red (mOf m) m.length wd M' C k sgn ∧ ∃ rv pv, e = .returned (.agg #[rv, pv, .int .i64 (dk M' C k), .int .i64 sgn]) ∧
      Mat w.heap.size 22 3 w' rv (rowsOf m.length c (rr M' C k)) ∧ Sl w.heap.size 3 w' pv (ints ((List.range k).map fun b => (C b : Int))) ∧ Below w.heap.size w w' := by
  obtain ⟨i3, hi3, hz30, hz31, hz32⟩ := info_parts Try.info22
  obtain ⟨ao, cap, hvv, hcap, hcm⟩ := mat_open hv
  subst hvv
  have HV : Hid (Mat B0 22 3 w (.slice ao m.length cap) m) := hv
  have HBD : Hid (Bd (mOf m) m.length c) := hbd
  have HW : Hid (∀ r ∈ m, r.length = c) := hw
  clear hv hbd hw
  have hmL := run_make_room (P := Try.prog) 26 22 (.slice none 0 0) 24 Try.underlying26 Try.info22 rfl .i64 .i64 m.length (by omega) (by omega)
  have hmI := run_make_room (P := Try.prog) 22 3 (.int .i64 0) 8 Try.underlying22 Try.info3 rfl .i64 .i64 wd (by omega) (by omega)
  go_enter Try.func44, Try.ntmps44
  go_upto_region 1 with fail
  go_cut [5] from 9 (fun x wx => ∃ R rv pv, x = .pointer (some ⟨R, 0, none⟩) ∧ w.heap.size + 1 ≤ R ∧ GS (w.heap.size + 1) R 0 c (mOf m) rv pv (fun _ => 0) (fun _ => 0) wx ∧ Below w.heap.size w wx ∧ wx.heap[w.heap.size]? = some (.cells #[.slice none 0 0, .slice none 0 0, .int .i64 0, .int .i64 0] 80 (0, 0)) ∧ ∃ ra rcp, rv = .slice (some ⟨ra, 0, none⟩) 0 rcp)
  case first =>
    go_region_law fail
    all_goals go_wp2
    all_goals go_meet
    all_goals (have n1 : (w.heap.size = w.heap.size + 1 + 1 + 1) = False := by simp; omega)
    all_goals (have n2 : (w.heap.size = w.heap.size + 1 + 1) = False := by simp; omega)
    all_goals first
      | (refine ⟨_, .slice (some ⟨w.heap.size + 1, 0, none⟩) 0 m.length, .slice (some ⟨w.heap.size + 1 + 1, 0, none⟩) 0 wd, rfl, ?g0, GS.startW ?g1 ?g2 ?g3 ?g4 ?g5 ?g6 ?g7, ?g8, ?g9, _, _, rfl⟩; (case g1 => simp [alloc_heapK, drew_heapK, Array.getElem_push]); (case g2 => simp [alloc_heapK, drew_heapK, Array.getElem_push]); (case g3 => simp [alloc_heapK, drew_heapK, Array.getElem_push]); (case g0 => omega); (case g4 => omega); (case g5 => omega); (case g6 => unfold maxLen; omega); (case g7 => unfold maxLen; omega); (case g8 => repeat first | exact Below.refl _ _ | refine Below.drew ?_ | refine Below.setCell ?_ (by simp; try omega) _ | refine Below.alloc ?_ (by simp; try omega) _); (case g9 => simp [alloc_heapK, drew_heapK, Array.getElem?_push, n1, n2]))
      | (refine ⟨_, .slice (some ⟨w.heap.size + 1, 0, none⟩) 0 m.length, .slice (some ⟨w.heap.size + 1 + 1 + 1, 0, none⟩) 0 wd, rfl, ?g0, GS.startW ?g1 ?g2 ?g3 ?g4 ?g5 ?g6 ?g7, ?g8, ?g9, _, _, rfl⟩; (case g1 => simp [alloc_heapK, drew_heapK, Array.getElem_push]); (case g2 => simp [alloc_heapK, drew_heapK, Array.getElem_push]); (case g3 => simp [alloc_heapK, drew_heapK, Array.getElem_push]); (case g0 => omega); (case g4 => omega); (case g5 => omega); (case g6 => unfold maxLen; omega); (case g7 => unfold maxLen; omega); (case g8 => repeat first | exact Below.refl _ _ | refine Below.drew ?_ | refine Below.setCell ?_ (by simp; try omega) _ | refine Below.alloc ?_ (by simp; try omega) _); (case g9 => simp [alloc_heapK, drew_heapK, Array.getElem?_push, n1, n2]))
      | (refine ⟨_, .slice (some ⟨w.heap.size + 1 + 1, 0, none⟩) 0 m.length, .slice (some ⟨w.heap.size + 1, 0, none⟩) 0 wd, rfl, ?g0, GS.startW ?g1 ?g2 ?g3 ?g4 ?g5 ?g6 ?g7, ?g8, ?g9, _, _, rfl⟩; (case g1 => simp [alloc_heapK, drew_heapK, Array.getElem_push]); (case g2 => simp [alloc_heapK, drew_heapK, Array.getElem_push]); (case g3 => simp [alloc_heapK, drew_heapK, Array.getElem_push]); (case g0 => omega); (case g4 => omega); (case g5 => omega); (case g6 => unfold maxLen; omega); (case g7 => unfold maxLen; omega); (case g8 => repeat first | exact Below.refl _ _ | refine Below.drew ?_ | refine Below.setCell ?_ (by simp; try omega) _ | refine Below.alloc ?_ (by simp; try omega) _); (case g9 => simp [alloc_heapK, drew_heapK, Array.getElem?_push, n1, n2]))
      | (refine ⟨_, .slice (some ⟨w.heap.size + 1 + 1, 0, none⟩) 0 m.length, .slice (some ⟨w.heap.size + 1 + 1 + 1, 0, none⟩) 0 wd, rfl, ?g0, GS.startW ?g1 ?g2 ?g3 ?g4 ?g5 ?g6 ?g7, ?g8, ?g9, _, _, rfl⟩; (case g1 => simp [alloc_heapK, drew_heapK, Array.getElem_push]); (case g2 => simp [alloc_heapK, drew_heapK, Array.getElem_push]); (case g3 => simp [alloc_heapK, drew_heapK, Array.getElem_push]); (case g0 => omega); (case g4 => omega); (case g5 => omega); (case g6 => unfold maxLen; omega); (case g7 => unfold maxLen; omega); (case g8 => repeat first | exact Below.refl _ _ | refine Below.drew ?_ | refine Below.setCell ?_ (by simp; try omega) _ | refine Below.alloc ?_ (by simp; try omega) _); (case g9 => simp [alloc_heapK, drew_heapK, Array.getElem?_push, n1, n2]))
      | (refine ⟨_, .slice (some ⟨w.heap.size + 1 + 1 + 1, 0, none⟩) 0 m.length, .slice (some ⟨w.heap.size + 1, 0, none⟩) 0 wd, rfl, ?g0, GS.startW ?g1 ?g2 ?g3 ?g4 ?g5 ?g6 ?g7, ?g8, ?g9, _, _, rfl⟩; (case g1 => simp [alloc_heapK, drew_heapK, Array.getElem_push]); (case g2 => simp [alloc_heapK, drew_heapK, Array.getElem_push]); (case g3 => simp [alloc_heapK, drew_heapK, Array.getElem_push]); (case g0 => omega); (case g4 => omega); (case g5 => omega); (case g6 => unfold maxLen; omega); (case g7 => unfold maxLen; omega); (case g8 => repeat first | exact Below.refl _ _ | refine Below.drew ?_ | refine Below.setCell ?_ (by simp; try omega) _ | refine Below.alloc ?_ (by simp; try omega) _); (case g9 => simp [alloc_heapK, drew_heapK, Array.getElem?_push, n1, n2]))
      | (refine ⟨_, .slice (some ⟨w.heap.size + 1 + 1 + 1, 0, none⟩) 0 m.length, .slice (some ⟨w.heap.size + 1 + 1, 0, none⟩) 0 wd, rfl, ?g0, GS.startW ?g1 ?g2 ?g3 ?g4 ?g5 ?g6 ?g7, ?g8, ?g9, _, _, rfl⟩; (case g1 => simp [alloc_heapK, drew_heapK, Array.getElem_push]); (case g2 => simp [alloc_heapK, drew_heapK, Array.getElem_push]); (case g3 => simp [alloc_heapK, drew_heapK, Array.getElem_push]); (case g0 => omega); (case g4 => omega); (case g5 => omega); (case g6 => unfold maxLen; omega); (case g7 => unfold maxLen; omega); (case g8 => repeat first | exact Below.refl _ _ | refine Below.drew ?_ | refine Below.setCell ?_ (by simp; try omega) _ | refine Below.alloc ?_ (by simp; try omega) _); (case g9 => simp [alloc_heapK, drew_heapK, Array.getElem?_push, n1, n2]))
  case rest =>
  obtain ⟨R, rv0, pv, rfl, hR1, hgs0, hb0, hk0, hrv0⟩ := hcut
  obtain ⟨W0, hW0⟩ : ∃ W0, W0 = wc := ⟨_, rfl⟩
  rw [← hW0] at hgs0 hb0 hk0 ⊢
  obtain ⟨B, hB⟩ : ∃ B, B = w.heap.size + 1 := ⟨_, rfl⟩
  rw [← hB] at hgs0 hR1
  have HR : Hid (B = w.heap.size + 1) := hB
  have HBR : Hid (B ≤ R) := hR1
  have HG0 : Hid (GS B R 0 c (mOf m) rv0 pv (fun _ => 0) (fun _ => 0) W0) := hgs0
  have HB0 : Hid (Below w.heap.size w W0) := hb0
  have HS0 : Hid (B ≤ W0.heap.size) := Nat.le_trans hR1 (Nat.le_of_lt (lt_of_block hgs0.st))
  have HRV : Hid (∃ ra rcp, rv0 = .slice (some ⟨ra, 0, none⟩) 0 rcp) := hrv0
  have HK0 : Hid (W0.heap[w.heap.size]? = some (.cells #[.slice none 0 0, .slice none 0 0, .int .i64 0, .int .i64 0] 80 (0, 0))) := hk0
  clear hW0 hR1 hgs0 hb0 hk0 hB hmL hmI hrv0
  go_wp2
  go_loopw [17, 7] (fun i _ wr => ∃ t : Nat, t ≤ m.length ∧ i = .int .i64 t ∧ Below B W0 wr ∧ ∃ rv bs caps, GS B R t c (mOf m) rv pv bs caps wr ∧ ∃ ra n2 rcp, rv = .slice (some ⟨ra, 0, none⟩) n2 rcp) (fun i _ _ => m.length - (intOf i).toNat)
  case atStart =>
    obtain ⟨ra, rcp, e⟩ := HRV.out
    exact ⟨0, Nat.zero_le _, rfl, Below.refl _ _, _, _, _, HG0.out, ra, 0, rcp, e⟩
  case round =>
    obtain ⟨t, ht, rfl, hbel, rv, bs, caps, hgs, hsome⟩ := hrel
    obtain ⟨ro, rc, hrv⟩ := owns_form hgs.out
    subst hrv
    have HSM : Hid (∃ ra, ro = some ⟨ra, 0, none⟩) := by
      obtain ⟨ra, n2, rcp, e⟩ := hsome
      simp only [Value.slice.injEq] at e
      exact ⟨ra, e.1⟩
    clear hsome
    have HGS : Hid (GS B R t c (mOf m) (.slice ro t rc) pv bs caps wr) := hgs
    have HBL : Hid (Below B W0 wr) := hbel
    have HBW : Hid (Below w.heap.size w wr) := HB0.out.trans (hbel.mono (by rw [HR.out]; omega))
    have HRW : Hid (R < wr.heap.size) := lt_of_block hgs.st
    have g0 : wr.cell? ⟨R, 0, none⟩ = some (.slice ro t rc) := by simp [World.cell?, hgs.st]
    clear hgs hbel
    by_cases htn : t < m.length
    · obtain ⟨b, o, cap2, u, hv1, _, hcc, hsl⟩ := mat_cell (HV.out.below HBW.out (Nat.le_refl _)) htn
      simp only [Value.slice.injEq, true_and] at hv1
      obtain ⟨rfl, rfl⟩ := hv1
      have hlen : (m.getD t []).length = c := by
        rw [List.getD_eq_getElem?_getD, List.getElem?_eq_getElem htn]; exact HW.out _ (List.getElem_mem htn)
      obtain ⟨xo, xc, hu, _, _⟩ := sl_open hsl
      rw [hlen] at hu
      subst hu
      have HCL : Hid (Calls Try.prog 41 #[.slice xo c xc] wr.drew fun e w2 => ∃ g uc, e = .returned (.slice (some ⟨g, 0, none⟩) c uc) ∧ w2.ownsRow wr.heap.size 3 1 (.slice (some ⟨g, 0, none⟩) c uc) c (ints ((List.range c).map (mOf m t))) ∧ Below wr.heap.size wr w2) := by
        refine (clone_any B0 (m.getD t []) _ wr.drew hsl.drew (by omega)).mono ?_
        rintro e w2 ⟨u, rfl, h1, h2⟩
        rw [hlen] at h1
        obtain ⟨g, uc, rfl⟩ := own_some h1 hc0
        exact ⟨g, uc, rfl, by rw [row_range HW.out htn]; exact h1, ⟨h2.os, h2.tape, h2.output, h2.size, h2.block⟩⟩
      have HFL : Hid (∀ w2 g uc o v' w3, w2.ownsRow wr.heap.size 3 1 (.slice (some ⟨g, 0, none⟩) c uc) c (ints ((List.range c).map (mOf m t))) → Below wr.heap.size wr w2 → (w2.alloc o).grownBy w3 (Value.slice ro t rc).ownBlock →
          w3.ownsRow B 22 1 v' (t + 1) (((List.range t).map fun i => .slice (some ⟨bs i, 0, none⟩) c (caps i)) ++ [.slice (some ⟨g, 0, none⟩) c uc]) → (v'.ownBlock = (Value.slice ro t rc).ownBlock ∨ v'.ownBlock = some (w2.alloc o).heap.size) →
          GS B R (t + 1) c (mOf m) v' pv (fun i => if i = t then g else bs i) (fun i => if i = t then uc else caps i) (w3.setCell ⟨R, 0, none⟩ v') ∧ w3.cell? ⟨R, 0, none⟩ = some (.slice ro t rc) ∧ w3.frozen? ⟨R, 0, none⟩ = false ∧ Below B wr w3) :=
        fun w2 g uc o v' w3 a1 a2 a3 a4 a5 => HGS.out.push (Nat.le_trans HBR.out (Nat.le_of_lt HRW.out)) a2 a1 a3 a4 a5
      have HC2 : Hid (∀ w2, Below wr.heap.size wr w2 → w2.cell? ⟨R, 0, none⟩ = some (.slice ro t rc) ∧ R < w2.heap.size ∧ w2.ownsRow B 22 1 (.slice ro t rc) t ((List.range t).map fun i => .slice (some ⟨bs i, 0, none⟩) c (caps i))) :=
        fun _ h => ⟨(h.cell HRW.out).trans g0, Nat.lt_of_lt_of_le HRW.out h.size, owns_below HGS.out.out h (Nat.le_refl _)⟩
      have htm : t + 1 ≤ maxLen := by unfold maxLen; omega
      have hRw : R < wr.heap.size := HRW.out
      clear hsl hlen
      go_wp2
      go_region_law (first
        | (refine step_call (o := { dst := some 24, op := _, type := _, pos := _, after := _, guard := _ }) (by rfl) 41 _ 22 (by rfl) _ (by rfl) ⟨_, Try.func41, by rfl, by rfl⟩ ?_; refine (HCL.out).mono ?_; rintro e w2 ⟨g, uc, rfl, ho2, hb2⟩; refine ⟨_, rfl, ?_⟩; have OW2 : Hid (w2.ownsRow wr.heap.size 3 1 (.slice (some ⟨g, 0, none⟩) c uc) c (ints ((List.range c).map (mOf m t)))) := ho2; have BE2 : Hid (Below wr.heap.size wr w2) := hb2; have KS1 := (HC2.out w2 hb2).1; have KS2 := (HC2.out w2 hb2).2.1; have KS3 : Hid (w2.ownsRow B 22 1 (.slice ro t rc) t ((List.range t).map fun i => .slice (some ⟨bs i, 0, none⟩) c (caps i))) := (HC2.out w2 hb2).2.2; clear ho2 hb2)
        | (refine step_append_at (o := { dst := some 26, op := _, type := _, pos := _, after := _, guard := _ }) (by rfl) _ _ 26 (by rfl) B 22 i3 (.slice none 0 0) 1 24 Try.underlying26 hi3 hz30 hz31 hz32 rfl (by decide) _ _ _ (by rfl) (KS3.out.alloc _) ⟨w2.heap.size, 0, none⟩ 1 1 [.slice (some ⟨g, 0, none⟩) c uc] (by rfl) rfl (one_new _ _ _) (one_slice _ _ _) htm (by omega) (Nat.le_trans HBR.out (Nat.le_trans (Nat.le_of_lt KS2) (by simp))) ?_; intro v' w3 ho hg hat; obtain ⟨vo, vc, hv'⟩ := owns_form ho; subst hv'; have FF : Hid _ := HFL.out w2 g uc _ _ w3 OW2.out BE2.out hg ho hat; have LS1 := FF.out.2.1; have LS2 := FF.out.2.2.1))
      all_goals
        have S1 : Hid (∃ rv bs caps, GS B R (t + 1) c (mOf m) rv pv bs caps (w3.setCell ⟨R, 0, none⟩ (.slice vo (t + 1) vc)) ∧ ∃ ra n2 rcp, rv = .slice (some ⟨ra, 0, none⟩) n2 rcp) := ⟨_, _, _, FF.out.1, own_some3 FF.out.1.out (by omega)⟩
        have S2 : Hid (Below B W0 (w3.setCell ⟨R, 0, none⟩ (.slice vo (t + 1) vc))) := (HBL.out.trans FF.out.2.2.2).setCell (by exact HBR.out) _
        clear FF hg ho hat LS1 LS2 KS1 KS2 KS3 OW2 BE2
        go_wp2
        go_roundw
        case rel => exact ⟨t + 1, by omega, by go_num, S2.out, S1.out⟩
        case measure => simp [intOf]; omega
    · have htn' : t = m.length := by omega
      subst htn'
      have HL0 : Hid (LS B R m.length c (mOf m) 0 wr) := by
        obtain ⟨ra, e⟩ := HSM.out
        subst e
        exact HGS.out.ls0
      clear htn g0 HGS
      go_wp2
      go_loopw [30, 8] (fun i _ wx => ∃ q : Nat, q ≤ wd ∧ i = .int .i64 q ∧ Below B W0 wx ∧ LS B R m.length c (mOf m) q wx) (fun i _ _ => wd - (intOf i).toNat)
      case atStart => exact ⟨0, Nat.zero_le _, rfl, HBL.out, HL0.out⟩
      case round =>
        obtain ⟨q, hq, rfl, hbq, hlq⟩ := hrel
        have hsz : B ≤ wr.heap.size := Nat.le_trans HS0.out hbq.size
        have HBQ : Hid (Below B W0 wr) := hbq
        by_cases hqc : q < wd
        · have HP : Hid (Calls Try.prog 55 #[.pointer (some ⟨R, 0, none⟩), .int .i64 q] wr fun e w' => e = .returned (.tuple #[]) ∧ LS B R m.length c (mOf m) (q + 1) w' ∧ Below B wr w') := pivot_step B R m.length c q (mOf m) wr hlq hsz HBR.out hm (by omega) HBD.out
          clear hlq hbq
          go_wp2_with fail
          refine (HP.out).mono ?_
          rintro e w2 ⟨rfl, hl2, hb2⟩
          have S1 : Hid (LS B R m.length c (mOf m) (q + 1) w2) := hl2
          have S2 : Hid (Below B W0 w2) := HBQ.out.trans hb2
          clear hl2 hb2 HP
          go_wp2
          go_roundw
          case rel => exact ⟨q + 1, by omega, by go_num, S2.out, S1.out⟩
          case measure => simp [intOf]; omega
        · have hqc' : q = wd := by omega
          subst hqc'
          obtain ⟨M', C, k, sgn, hred, go, capo, pv, bs, caps, hrs⟩ := hlq
          obtain ⟨po, pc, hpv⟩ := owns_form hrs.piv
          simp only [List.length_map, List.length_range] at hpv
          subst hpv
          obtain ⟨c0, c1, c2, c3, _, _, _, _⟩ := hrs.cells
          have HRD : Hid (Red (mOf m) m.length q M' C k sgn) := hred
          have HRS : Hid (RS B R m.length c (rr M' C k) ((List.range k).map fun b => (C b : Int)) (dk M' C k) sgn go capo (.slice po k pc) bs caps wr) := hrs
          have hk : wr.heap[w.heap.size]? = some (.cells #[.slice none 0 0, .slice none 0 0, .int .i64 0, .int .i64 0] 80 (0, 0)) := (hbq.block _ (by rw [HR.out]; omega)).trans HK0.out
          have k0 : wr.cell? ⟨w.heap.size, 0, none⟩ = some (.slice none 0 0) := by simp [World.cell?, hk]
          have k1 : wr.cell? ⟨w.heap.size, 1, none⟩ = some (.slice none 0 0) := by simp [World.cell?, hk]
          have k2 : wr.cell? ⟨w.heap.size, 2, none⟩ = some (.int .i64 0) := by simp [World.cell?, hk]
          have k3 : wr.cell? ⟨w.heap.size, 3, none⟩ = some (.int .i64 0) := by simp [World.cell?, hk]
          have kf : ∀ i, wr.frozen? ⟨w.heap.size, i, none⟩ = false := fun i => by simp [World.frozen?, hk]
          have f0 := kf 0
          have f1 := kf 1
          have f2 := kf 2
          have f3 := kf 3
          generalize hdd : dk M' C k = dd at *
          clear hred hrs hbq hk kf hqc hq HL0 HBL HBW HRW
          have HFN : Hid (∀ x0 x1 x2 x3, Mat w.heap.size 22 3 ((((wr.setCell ⟨w.heap.size, 0, none⟩ x0).setCell ⟨w.heap.size, 1, none⟩ x1).setCell ⟨w.heap.size, 2, none⟩ x2).setCell ⟨w.heap.size, 3, none⟩ x3) (.slice (some ⟨go, 0, none⟩) m.length capo) (rowsOf m.length c (rr M' C k)) ∧
              Sl w.heap.size 3 ((((wr.setCell ⟨w.heap.size, 0, none⟩ x0).setCell ⟨w.heap.size, 1, none⟩ x1).setCell ⟨w.heap.size, 2, none⟩ x2).setCell ⟨w.heap.size, 3, none⟩ x3) (.slice po k pc) (ints ((List.range k).map fun b => (C b : Int))) ∧
              Below w.heap.size w ((((wr.setCell ⟨w.heap.size, 0, none⟩ x0).setCell ⟨w.heap.size, 1, none⟩ x1).setCell ⟨w.heap.size, 2, none⟩ x2).setCell ⟨w.heap.size, 3, none⟩ x3)) := by
            intro x0 x1 x2 x3
            have hr := HR.out
            have h1 := HRS.out.above (w' := (((wr.setCell ⟨w.heap.size, 0, none⟩ x0).setCell ⟨w.heap.size, 1, none⟩ x1).setCell ⟨w.heap.size, 2, none⟩ x2).setCell ⟨w.heap.size, 3, none⟩ x3) HBR.out (fun b hb => by
              have hne : b ≠ w.heap.size := by omega
              rw [Below.heap_setCell _ _ _ _ hne, Below.heap_setCell _ _ _ _ hne, Below.heap_setCell _ _ _ _ hne, Below.heap_setCell _ _ _ _ hne])
            refine ⟨?_, Sl.own h1.piv, ?_⟩
            · exact h1.whole
            · exact (((((HB0.out.trans (HBQ.out.mono (by omega))).setCell (by exact Nat.le_refl _) _).setCell (by exact Nat.le_refl _) _).setCell (by exact Nat.le_refl _) _).setCell (by exact Nat.le_refl _) _)
          have HDD : Hid (dk M' C k = dd) := hdd
          clear hdd
          go_wp2
          refine bodyPost_ret (v := .agg #[.slice (some ⟨go, 0, none⟩) m.length capo, .slice po k pc, .int .i64 dd, .int .i64 sgn]) (by simp [results, Try.results44, go_sem, *]) rfl ?_
          exact ⟨M', C, k, sgn, HRD.out, _, _, by rw [HDD.out], (HFN.out _ _ _ _).1, (HFN.out _ _ _ _).2.1, (HFN.out _ _ _ _).2.2⟩


set_option maxRecDepth 100000 in
set_option maxHeartbeats 800000 in
theorem rankW_any (B c wd : Nat) (m : List (List Int)) (v : Value) (w : World) (hwd : wd ≤ c) (hw0 : 0 < wd) (hx : Mx c 60 m) (hv : Mat B 22 3 w v m) (hm : m.length ≤ 500) :
    Calls Try.prog 25 #[v, .int .i64 wd] w fun e w' => e = .returned (.int .i64 ((pickL wd m).length : Nat)) ∧ Below w.heap.size w w' := by
  obtain ⟨ao, cap, hvv, hlc, hcm⟩ := mat_open hv
  subst hvv
  have hc5 := hx.c5
  have hc1 := hx.c1
  have HR : Hid (Calls Try.prog 44 #[.slice ao m.length cap, .int .i64 wd] w fun e w' => ∃ ro rc po pc val sgn, e = .returned (.agg #[.slice ro m.length rc, .slice po (pickL wd m).length pc, .int .i64 val, .int .i64 sgn]) ∧ Below w.heap.size w w') := by
    refine (reduceW_any B c wd hwd hw0 m _ w hv hm hc1 (by omega) hx.row (bd60 hx)).mono ?_
    rintro e w' ⟨M', C, k, sgn, hr, rv, pv, rfl, h1, h2, h3⟩
    obtain ⟨ro, rc, e1, _, _⟩ := mat_open h1
    obtain ⟨po, pc, e2, _, _⟩ := sl_open h2
    have hk := red_rank hr
    simp only [List.length_map, List.length_range, rowsOf] at e1 e2
    rw [hk] at e2
    exact ⟨ro, rc, po, pc, _, _, by rw [e1, e2], h3⟩
  clear hv
  go_enter Try.func25, Try.ntmps25
  go_wp2_with fail
  refine (HR.out).mono ?_
  rintro e w2 ⟨ro, rc, po, pc, val, sgn, rfl, hb⟩
  have HB : Hid (Below w.heap.size w w2) := hb
  clear hb
  have hfl := field1 (.slice ro m.length rc) (.slice po (pickL wd m).length pc) (.int .i64 val) (.int .i64 sgn) w2
  go_wp2
  go_ret
  exact ⟨rfl, HB.out⟩

end Go.Proofs.Ytmljnfgfjcjmmaa
