/- The document's answer: the corners of the polar. -/
import Derived.Test.YtnpapoegkbehbaaGreatPqA
import Derived.Test.YtnpapoegkbehbaaGreatLtA
import Derived.Test.YtnpapoegkbehbaaGreatHmE
namespace Go.Proofs.YtnpapoegkbehbaaGreat
open Go.RowKit
attribute [local go_sem ↓] Go.wp_at_zero Go.wp_at_succ

theorem withOne_box {d : Nat} {C : List (List Int)} (h : Box d 6 C) : Box (d + 1) 30 (withOne C) := fun r hr => by
  obtain ⟨c, hc, rfl⟩ := List.mem_map.1 hr
  refine ⟨by simp [(h c hc).1], fun z hz => ?_⟩
  rcases List.mem_append.1 hz with hz | hz
  · have := (h c hc).2 z hz; omega
  · simp only [List.mem_singleton] at hz; omega

theorem withOne_snoc (C : List (List Int)) (k : Nat) (h : k < C.length) : withOne (C.take (k + 1)) = withOne (C.take k) ++ [C.getD k [] ++ [1]] := by
  unfold withOne
  have e : C.getD k [] = C[k] := by simp [h]
  rw [List.take_succ_eq_append_getElem h, List.map_append, e]
  rfl

/-- The places of the corners are the rows of the points. -/
theorem polar_rows {d : Nat} {P s C : List (List Int)} (hg : Good d P) (hs : ∀ r, r ∈ s ↔ r ∈ rowsD P d) (hC : ∀ y, y ∈ C ↔ y ∈ crn d s P) (hCn : C.Nodup) (hpos : ∀ r ∈ rowsD P d, 0 < r.getD d 0) (y : List Int) : y ∈ ptsD (withOne C) d ↔ y ∈ rowsD P d := by
  have hcr : ∀ x ∈ P, ((pickL d (onL d s x)).length = d ↔ ∀ v : Nat → Int, (∀ r ∈ rowsC P [] d P, r.getD d 0 = Lin.dot d (V r) (V x) → Lin.dot d (V r) v = 0) → ∀ i, i < d → v i = 0) := fun x hx => corner_rank hg (P' := P) (fun _ => Iff.rfl) hs hx
  have hgC : Good d C := corners_good hg hs hcr hC hCn
  have hrc := rows_corners hg hs hcr hC hCn
  have hp : ∀ r ∈ rowsC C [] d C, 0 < r.getD d 0 := fun r hr => hpos r (mem_rowsD.2 ((hrc r).1 hr))
  rw [mem_rowsD, ← hrc y]
  exact ⟨fun h => polar_to hgC hp h, fun h => polar_from hgC h (hp y h)⟩

set_option maxRecDepth 100000 in
set_option maxHeartbeats 800000 in
theorem polarOf_any (d : Nat) (P q : List (List Int)) (v : Value) (w : World) (hv : Mat w.heap.size 22 3 w v P) (hg : Good d P) (hbx : Box d 6 P) (h3 : d ≤ 3) (h16 : P.length ≤ 16) (hpos : ∀ r ∈ rowsD P d, 0 < r.getD d 0) (hq : SAsc q) (hqm : ∀ r, r ∈ q ↔ r ∈ rowsD P d) :
    Calls Tryz.prog 9 #[.agg #[.int .i64 d, v]] w fun e w' => ∃ x, e = .returned x ∧ Mat w'.heap.size 22 3 w' x q ∧ Below w.heap.size w w' := by
  obtain ⟨i0, hi, hz0, hz1, hz2⟩ := info_parts Tryz.info22
  obtain ⟨i3, hi3, hz30, hz31, hz32⟩ := info_parts Tryz.info3
  have hn2 := hg.n2
  have hd1 := hg.d1
  obtain ⟨b, o, cap, r1, hvv, hlc, _, _⟩ := mat_cell hv (k := 0) (by omega)
  obtain ⟨vl, hvl⟩ : ∃ vl, vl = P.length := ⟨_, rfl⟩
  rw [← hvl] at hvv
  clear hvl
  subst hvv
  obtain ⟨W, hW⟩ : ∃ W, W = w.alloc (.cells #[.int .i64 d, .slice (some ⟨b, o, none⟩) vl cap] 26) := ⟨_, rfl⟩
  obtain ⟨g, hgd⟩ : ∃ g, g = w.heap.size := ⟨_, rfl⟩
  have hbw : Below w.heap.size w W := by rw [hW]; exact (Below.refl _ _).alloc (Nat.le_refl _) _
  have hsW : W.heap.size = w.heap.size + 1 := by rw [hW]; simp
  have HW : Hid (∀ W', Below W.heap.size W W' → Below w.heap.size w W') := fun W' hB => hbw.trans (hB.mono (by omega))
  have c0 : W.cell? ⟨g, 0, none⟩ = some (.int .i64 d) := by rw [hgd, hW]; simp
  have c1 : W.cell? ⟨g, 1, none⟩ = some (.slice (some ⟨b, o, none⟩) vl cap) := by rw [hgd, hW]; simp
  have HC0 : Hid (∀ W', Below W.heap.size W W' → W'.cell? ⟨g, 0, none⟩ = some (.int .i64 d)) := fun W' hB => (hB.cell (lt_of_cell c0)).trans c0
  have hvW : Mat W.heap.size 22 3 W (.slice (some ⟨b, o, none⟩) vl cap) P := (hv.below hbw (Nat.le_refl _)).any (Nat.le_refl _)
  have HCO : Hid (Calls Tryz.prog 21 #[.slice (some ⟨b, o, none⟩) vl cap] W fun e w' => ∃ co n cc C, e = .returned (.slice co n cc) ∧ n = C.length ∧ (Mat w'.heap.size 22 3 w' (.slice co n cc) C ∧ Box d 6 C ∧ 1 ≤ n ∧ n ≤ 16 ∧ (∀ y, y ∈ ptsD (withOne C) d ↔ y ∈ rowsD P d) ∧ Below W.heap.size W w')) := by
    refine (cornersOf_any W.heap.size d P _ W hvW hd1 (by omega) (by omega) h16 hbx).mono ?_
    rintro e w' ⟨x, C, s, rfl, hf, hc, _, hs, hcm, hb⟩
    have hM : Mat w'.heap.size 22 3 w' x C := hf.rws.mat hb.size
    obtain ⟨xo, xc, hxv, _, _⟩ := mat_open hM
    subst hxv
    have hgC : Good d C := corners_good hg hs (fun x hx => corner_rank hg (P' := P) (fun _ => Iff.rfl) hs hx) hcm hc.nodup
    have hin : ∀ y ∈ C, y ∈ P := fun y hy => (List.mem_filter.1 ((hcm y).1 hy)).1
    exact ⟨xo, _, xc, C, rfl, rfl, hM, fun r hr => hbx r (hin r hr), by have := hgC.n2; omega, Nat.le_trans (nodup_lenL C P hc.nodup hin) h16, fun y => polar_rows hg hs hcm hc.nodup hpos y, hb⟩
  have HQ : Hid (SAsc q ∧ ∀ r, r ∈ q ↔ r ∈ rowsD P d) := ⟨hq, hqm⟩
  clear hv hg hbx hpos hvW hbw hsW hq hqm c0 c1
  have c1 : W.cell? ⟨g, 1, none⟩ = some (.slice (some ⟨b, o, none⟩) vl cap) := by rw [hgd, hW]; simp
  go_enter Tryz.func9, Tryz.ntmps9
  go_wp2_with fail
  rw [← hW, ← hgd]
  clear hW hgd
  refine HCO.out.mono ?_
  rintro e w1 ⟨co, n, cc, C, rfl, hnC, hC⟩
  have HC : Hid (Mat w1.heap.size 22 3 w1 (.slice co n cc) C ∧ Box d 6 C ∧ 1 ≤ n ∧ n ≤ 16 ∧ (∀ y, y ∈ ptsD (withOne C) d ↔ y ∈ rowsD P d) ∧ Below W.heap.size W w1) := hC
  have HNC : Hid (n = C.length) := hnC
  have hn1 := hC.2.2.1
  have hn16 := hC.2.2.2.1
  clear hC hnC HCO c1
  go_wp2
  go_loopw [3, 5] (fun x i wr => ∃ k : Nat, k ≤ n ∧ i = .int .i64 k ∧ Rws w1.heap.size 22 3 wr x (withOne (C.take k)) ∧ Below w1.heap.size w1 wr) (fun _ i _ => n - (intOf i).toNat)
  case atStart => exact ⟨0, Nat.zero_le _, rfl, Rws.nil _ _ _ _, Below.refl _ _⟩
  case round =>
    obtain ⟨k, hk, rfl, hfr, hbel⟩ := hrel
    have HF : Hid (Rws w1.heap.size 22 3 wr u3 (withOne (C.take k))) := hfr
    have HB : Hid (Below w1.heap.size w1 wr) := hbel
    have hszr : w1.heap.size ≤ wr.heap.size := hbel.size
    clear hfr hbel
    by_cases hlt : k < n
    · have hkC : k < C.length := by rw [← HNC.out]; exact hlt
      obtain ⟨b2, o2, cp2, r1, hs, _, hcc, hr1⟩ := mat_cell ((HC.out.1.below HB.out (Nat.le_refl _)).any (Nat.le_refl _)) hkC
      rw [← HNC.out] at hs
      simp only [Value.slice.injEq, true_and] at hs
      obtain ⟨rfl, rfl⟩ := hs
      have hcl : (C.getD k []).length = d := (HC.out.2.1 _ (by simp [hkC])).1
      obtain ⟨yo, yc, hyv, _, _⟩ := sl_open hr1
      rw [hcl] at hyv
      subst hyv
      have HSN : Hid (withOne (C.take (k + 1)) = withOne (C.take k) ++ [C.getD k [] ++ [1]]) := withOne_snoc C k hkC
      have HLN : Hid ((withOne (C.take k)).length = k) := by show _ = _; simp [withOne]; omega
      have HCP : Hid (Calls Tryz.prog 22 #[.slice yo d yc] wr fun e w' => ∃ u, e = .returned u ∧ (w'.ownsRow wr.heap.size 3 1 u d (ints (C.getD k [])) ∧ Below wr.heap.size wr w')) := by
        have h := copy_any wr.heap.size (C.getD k []) _ wr hr1 (by rw [hcl]; omega)
        rw [hcl] at h
        exact h
      have HCL : Hid ((C.getD k []).length = d) := hcl
      generalize C.getD k [] = c at *
      have hkI : (k : Int) < (n : Int) := by omega
      have hkI0 : (0 : Int) ≤ (k : Int) := by omega
      clear hr1 hcl hkC
      rename World => wa
      go_wp2_with fail
      refine HCP.out.mono ?_
      rintro e w2 ⟨u, rfl, ho2, hb2⟩
      have HO2 : Hid (w2.ownsRow wa.heap.size 3 1 u d (ints c)) := ho2
      have HB2 : Hid (Below wa.heap.size wa w2) := hb2
      have hsz2 : wa.heap.size ≤ w2.heap.size := hb2.size
      clear ho2 hb2
      go_wp2_with (first | (at_builtin; refine wpList_append_own _ rfl _ _ 22 rfl wa.heap.size 3 i3 (.int .i64 0) 1 8 Tryz.underlying22 hi3 hz30 hz31 hz32 rfl (by decide) _ _ _ rfl (HO2.out.alloc _) ⟨w2.heap.size, 0, none⟩ 1 1 [.int .i64 1] rfl rfl (one_new _ _ _) (one_int _) ?d3 ?d4 ?d5 ?_))
      case d3 => unfold maxLen; omega
      case d4 => omega
      case d5 => simp; omega
      intro v3 w3 ho3 hg3 _
      have hp3 := owns_push (z := 1) (N := d + 1) hsz2 (l := c) (by rw [HCL.out]; exact HO2.out) HB2.out (by rw [HCL.out]; exact ho3) hg3 (by rw [HCL.out])
      obtain ⟨y3, z3, hv3⟩ := owns_form hp3.1
      subst hv3
      have HO3 : Hid (w3.ownsRow wa.heap.size 3 1 (.slice y3 (d + 1) z3) (d + 1) (ints (c ++ [1]))) := hp3.1
      have HB3 : Hid (Below wa.heap.size wa w3) := hp3.2
      clear hp3 ho3 hg3
      obtain ⟨vs, g1, g2, g3⟩ := HF.out.below HB3.out (Nat.le_refl _)
      have hlen := HLN.out
      rw [hlen] at g1 g2 g3
      have G1 : Hid (vs.length = k) := g1
      have G2 : Hid (w3.ownsRow w1.heap.size 22 1 u3 k vs) := g2
      have G3 : Hid (∀ i, i < k → Sl w1.heap.size 3 w3 (vs.getD i (.slice none 0 0)) (ints ((withOne (C.take k)).getD i []))) := g3
      have hsz3 : w1.heap.size ≤ w3.heap.size := Nat.le_trans hszr HB3.out.size
      have HB3a : Hid (Below w1.heap.size w1 w3) := HB.out.trans (HB3.out.mono hszr)
      clear g1 g2 g3 hlen
      go_wp2_with (first | (at_builtin; refine wpList_append_own _ rfl _ _ 24 rfl w1.heap.size 22 i0 (.slice none 0 0) 1 24 Tryz.underlying24 hi hz0 hz1 hz2 rfl (by decide) _ _ _ rfl (G2.out.alloc _) ⟨w3.heap.size, 0, none⟩ 1 1 [.slice y3 (d + 1) z3] rfl rfl (one_new _ _ _) (one_slice _ _ _) ?d3 ?d4 ?d5 ?_))
      case d3 => unfold maxLen; omega
      case d4 => omega
      case d5 => simp; omega
      intro v' w4 ho hg' _
      have R1 : Hid (Rws w1.heap.size 22 3 w4 v' (withOne (C.take (k + 1)))) := by
        have hp := Rws.push (e2 := 22) (e1 := 3) (m := withOne (C.take k)) (u := .slice y3 (d + 1) z3) (zs := c ++ [1]) (by decide) (by rw [HLN.out]; exact G1.out) (by rw [HLN.out]; exact G2.out.alloc _)
          (fun i hi => (G3.out i (by rw [HLN.out] at hi; exact hi)).alloc _) ((Sl.own HO3.out).alloc _) (by rw [HLN.out]; exact ho) hg'
        rw [← HSN.out] at hp
        exact hp
      have R2 : Hid (Below w1.heap.size w1 w4) := (HB3a.out.alloc hsz3 _).grown hg' (by simp; omega) (fun x hx => (G2.out.lt x hx).1)
      clear ho hg'
      go_wp2
      go_roundw
      case rel => exact ⟨k + 1, by omega, by go_num, R1.out, R2.out⟩
      case measure => simp [intOf]; omega
    · obtain rfl : n = k := by omega
      have HRW : Hid (Rws w1.heap.size 22 3 wr u3 (withOne C)) := by
        have := HF.out
        rw [List.take_of_length_le (by rw [← HNC.out]; exact Nat.le_refl _)] at this
        exact this
      have HBW : Hid (Below W.heap.size W wr) := HC.out.2.2.2.2.2.trans (HB.out.mono HC.out.2.2.2.2.2.size)
      have k0 := HC0.out wr HBW.out
      clear HF hk hlt
      go_wp2_with fail
      refine (pointsR_any wr.heap.size d (withOne C) u3 wr ((HRW.out.mat (Nat.le_refl _)).any (Nat.le_refl _)) hd1 h3 (by simp [withOne, ← HNC.out]; omega) (by simp [withOne, ← HNC.out]; omega) (withOne_box HC.out.2.1)).mono ?_
      rintro e w5 ⟨x, s, rfl, hf5, hs5, hm5, hb5⟩
      have he : s = q := sasc_ext s q hs5 HQ.out.1 fun r => by rw [hm5 r, HC.out.2.2.2.2.1 r, HQ.out.2 r]
      subst he
      have HM5 : Hid (Mat w5.heap.size 22 3 w5 x s) := hf5.rws.mat hb5.size
      have HB5 : Hid (Below w.heap.size w w5) := HW.out _ (HBW.out.trans (hb5.mono HBW.out.size))
      clear hf5 hs5 hm5 hb5
      go_wp2
      go_ret
      exact ⟨_, rfl, HM5.out, HB5.out⟩

end Go.Proofs.YtnpapoegkbehbaaGreat
