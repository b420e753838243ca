import Derived.Test.YtkgljfnbaoncbaaWy6
import Derived.Test.YtkgljfnbaoncbaaMgAB
import Derived.Test.YtkgljfnbaoncbaaMgAH
import Derived.Test.YtkgljfnbaoncbaaMgAD
import Derived.Deep.QuietTactic
import Derived.BigQuiet
/- The document's over: a sum of roots, turned over. -/
namespace Go.Proofs.Ytkgljfnbaoncbaa
open Go.RowKit
attribute [local go_sem ↓] Go.wp_at_zero Go.wp_at_succ

set_option maxRecDepth 100000 in
set_option maxHeartbeats 1600000 in
theorem overM_any (n : Nat) (c : List (List Int)) (b : List Int) (j : Nat) (cv bv : Value) (w : World) (hc : Sqc n c) (hn1 : 1 ≤ n) (hm : Mat w.heap.size 26 3 w cv c) (hbv : Sl w.heap.size 3 w bv (ints b)) (hbl : b.length = n) (hb : ∀ k, -18014398509481984 ≤ b.getD k 0 ∧ b.getD k 0 ≤ 18014398509481984) (hj : j < n) :
    Calls Try.prog 30 #[cv, bv, .int .i64 j] w fun e w' => ∃ u, e = .returned u ∧ w'.ownsRow w.heap.size 3 1 u n (ints (tnL c b j)) ∧ Below w.heap.size w w' := by
  obtain ⟨ao, cap, hvv, hlc, hcm⟩ := mat_open hm
  subst hvv
  obtain ⟨bo, bc, hbvv, hblc, hbcm⟩ := sl_open hbv
  subst hbvv
  have hn4 := hc.n4
  have HCL : Hid (c.length = n) := hc.len
  have HCO : Hid (Sqc n c) := hc
  have HM : Hid (Mat w.heap.size 26 3 w (.slice ao c.length cap) c) := hm
  have HBV : Hid (Sl w.heap.size 3 w (.slice bo b.length bc) (ints b)) := hbv
  have HBB : Hid (∀ k, -18014398509481984 ≤ b.getD k 0 ∧ b.getD k 0 ≤ 18014398509481984) := hb
  have HBL : Hid (b.length = n) := hbl
  have HCN : Hid (Calls Try.prog 35 #[.slice bo b.length bc] w fun e w' => ∃ u, e = .returned u ∧ w'.ownsRow w.heap.size 3 1 u b.length (ints b) ∧ Below w.heap.size w w') := copy_any w.heap.size b _ w hbv (by omega)
  rw [HBL.out] at HCN
  rw [HBL.out, HCL.out]
  clear hc hm hbv hb hbl
  go_enter Try.func30, Try.ntmps30
  go_wp2_with fail
  refine HCN.out.mono ?_
  rintro e w1 ⟨u, rfl, ho, hb1⟩
  obtain ⟨g, gc, F, hu, hgB, hrow, hF, hgn, hgm⟩ := own_rw ho (by omega)
  subst hu
  have HB1 : Hid (Below w.heap.size w w1) := hb1
  have HR1 : Hid (w1.rowIs g 3 gc F) := hrow
  have HFF : Hid (∀ i, i < n → F i = .int .i64 (b.getD i 0)) := hF
  have HGB : Hid (w.heap.size ≤ g) := hgB
  have hgw : g < w1.heap.size := hrow.lt
  clear ho hb1 hrow hF hgB HCN
  go_wp2
  go_loopw [8] (fun iv wr => ∃ i : Nat, i ≤ n ∧ iv = .int .i64 i ∧ wr.rowIs g 3 gc (fun k => if k < n then .int .i64 (tnF c b j i k) else F k) ∧ Only g w1 wr) (fun iv _ => n - (intOf iv).toNat)
  case atStart => exact ⟨0, Nat.zero_le _, rfl, HR1.out.congr (fun k hk => by
    by_cases hkn : k < n
    · rw [if_pos hkn, HFF.out k hkn]
      by_cases e : k = j
      · subst e; simp [tnF, sm]
      · simp [tnF, e]
    · rw [if_neg hkn]), Only.refl _ _⟩
  case round =>
    obtain ⟨i, hi, rfl, hrw, hon⟩ := hrel
    have HRW : Hid (wr.rowIs g 3 gc (fun k => if k < n then .int .i64 (tnF c b j i k) else F k)) := hrw
    have HON : Hid (Only g w1 wr) := hon
    have HLO : Hid (∀ a, a < w.heap.size → wr.heap[a]? = w.heap[a]?) := fun a ha => (HON.out.block a (by have := HGB.out; omega)).trans (HB1.out.block a ha)
    clear hrw hon
    by_cases hlt : i < n
    · obtain ⟨b3, o3, cp3, hs3, _, hc3⟩ := sl_cell HBV.out (k := i) (by rw [HBL.out]; exact hlt)
      rw [HBL.out] at hs3
      simp only [Value.slice.injEq, true_and] at hs3
      obtain ⟨rfl, rfl⟩ := hs3
      obtain ⟨b1, o1, cp1, r1, hs, _, hcc0, hr1⟩ := mat_cell HM.out (k := i) (by rw [HCL.out]; exact hlt)
      rw [HCL.out] at hs
      simp only [Value.slice.injEq, true_and] at hs
      obtain ⟨rfl, rfl⟩ := hs
      obtain ⟨ro, rc, hrv, hrl, _⟩ := sl_open hr1
      subst hrv
      have hln : (c.getD i []).length = n := HCO.out.row _ (by simp [HCL.out, hlt])
      obtain ⟨b2, o2, cp2, hs2, _, hcc3⟩ := sl_cell hr1 (k := j) (by rw [hln]; exact hj)
      rw [hln] at hs2 hcc0
      simp only [Value.slice.injEq, true_and] at hs2
      obtain ⟨rfl, rfl⟩ := hs2
      have ee : (c.getD i []).getD j 0 = cE c i j := rfl
      rw [ee] at hcc3
      have HAG : Hid (∀ (W' : World) (a o : Nat) (u : Value), (∀ x, x < w.heap.size → W'.heap[x]? = w.heap[x]?) → w.cell? ⟨a, o, none⟩ = some u → W'.cell? ⟨a, o, none⟩ = some u) := fun W' a o u h1 h2 => (World.cell?_of_block (w := w) (h1 a (lt_of_cell h2))).trans h2
      have x0 := HRW.out.cell (i := j) (by omega)
      have hfz := HRW.out.frozen j
      simp only [hj, if_true] at x0
      have bd := tn_bd (c := c) (b := b) (j := j) (M := 18014398509481984) (by omega) HBB.out HCO.out.ent i
      have bj := HBB.out j
      have bi := HBB.out i
      have ce := HCO.out.ent i j
      obtain ⟨Y, hY⟩ : ∃ Y, Y = tnF c b j i j := ⟨_, rfl⟩
      have hYb : -288230376151711744 ≤ Y ∧ Y ≤ 288230376151711744 := by
        rw [hY]; unfold tnF; rw [if_pos rfl]
        generalize sm i (fun i => b.getD i 0 * cE c i j) = s at *
        have : (i : Int) ≤ 4 := by omega
        omega
      rw [← hY] at x0
      obtain ⟨X, hX⟩ : ∃ X, X = b.getD i 0 := ⟨_, rfl⟩
      obtain ⟨E, hE⟩ : ∃ E, E = cE c i j := ⟨_, rfl⟩
      rw [← hX] at hc3 bi
      rw [← hE] at hcc3 ce
      have HNX : Hid (∀ W', Only g w1 W' → W'.rowIs g 3 gc (fun k => if k < n then .int .i64 (tnF c b j i k) else F k) → (W'.setCell ⟨g, j, none⟩ (.int .i64 (Y - X * E))).rowIs g 3 gc (fun k => if k < n then .int .i64 (tnF c b j (i + 1) k) else F k) ∧ Only g w1 (W'.setCell ⟨g, j, none⟩ (.int .i64 (Y - X * E)))) := fun W' h1 h2 => by
        refine ⟨(h2.set j (.int .i64 (Y - X * E))).congr fun k hk => ?_, h1.set _ _⟩
        by_cases e : k = j
        · subst e
          rw [if_pos rfl, if_pos hj, hY, hX, hE]
          simp only [tnF, if_true, sm]
          congr 1
          omega
        · rw [if_neg e]
          simp [tnF, e]
      have HRD : Hid (wr.drew.rowIs g 3 gc (fun k => if k < n then .int .i64 (tnF c b j i k) else F k)) := HRW.out.of_block rfl
      have HOD : Hid (Only g w1 wr.drew) := HON.out.drew
      have hmb : -54043195528445952 ≤ X * E ∧ X * E ≤ 54043195528445952 := by
        rcases (show E = -3 ∨ E = -2 ∨ E = -1 ∨ E = 0 ∨ E = 1 ∨ E = 2 ∨ E = 3 by omega) with h | h | h | h | h | h | h <;> rw [h] <;> omega
      have m1 : IntKind.i64.wrap (X * E) = X * E := by rw [IntWalk.i64_left]; exact IntWalk.wrap64_in _ ⟨by omega, by omega⟩
      have m2 : IntKind.i64.wrap (Y - X * E) = Y - X * E := by rw [IntWalk.i64_left]; exact IntWalk.wrap64_in _ ⟨by omega, by omega⟩
      obtain ⟨N1, N2⟩ := HNX.out _ HOD.out HRD.out
      have HN1 : Hid _ := N1
      have HN2 : Hid _ := N2
      have hfd : wr.drew.frozen? ⟨g, j, none⟩ = false := hfz
      have xd : wr.drew.cell? ⟨g, j, none⟩ = some (.int .i64 Y) := x0
      have hc3w := HAG.out wr _ _ _ HLO.out hc3
      have hcc := HAG.out wr _ _ _ HLO.out hcc0
      have hcc2 := HAG.out wr _ _ _ HLO.out hcc3
      have HCS : Hid ((wr.drew.setCell ⟨g, j, none⟩ (.int .i64 (Y - X * E))).cell? ⟨b1, o1 + i, none⟩ = some (.slice (some ⟨b2, o2, none⟩) n rc) ∧ (wr.drew.setCell ⟨g, j, none⟩ (.int .i64 (Y - X * E))).cell? ⟨b2, o2 + j, none⟩ = some (.int .i64 E) ∧ (wr.drew.setCell ⟨g, j, none⟩ (.int .i64 (Y - X * E))).cell? ⟨b3, o3 + i, none⟩ = some (.int .i64 X)) := by
        have h1 : ∀ x, x < w.heap.size → (wr.drew.setCell ⟨g, j, none⟩ (.int .i64 (Y - X * E))).heap[x]? = w.heap[x]? := fun x hx => (HN2.out.block x (by have := HGB.out; omega)).trans (HB1.out.block x hx)
        exact ⟨HAG.out _ _ _ _ h1 hcc0, HAG.out _ _ _ _ h1 hcc3, HAG.out _ _ _ _ h1 hc3⟩
      have iI : (i : Int) < (n : Int) := by omega
      have iI0 : (0 : Int) ≤ (i : Int) := by omega
      have jI : (j : Int) < (n : Int) := by omega
      have jI0 : (0 : Int) ≤ (j : Int) := by omega
      clear hr1 ee hE hX hY N1 N2 HNX hcc0 hcc3 hc3 bd bj HAG
      go_wp2
      refine wp_region_held_drew (S := fun w' => w'.cell? ⟨b1, o1 + i, none⟩ = some (.slice (some ⟨b2, o2, none⟩) n rc) ∧ w'.cell? ⟨b2, o2 + j, none⟩ = some (.int .i64 E) ∧ w'.cell? ⟨b3, o3 + i, none⟩ = some (.int .i64 X)) (by kernel_rfl) ⟨hcc, hcc2, hc3w⟩ (fun hHeld => ?_)
      refine wpAnyH_tk (i := 0) (d := 17) (v := (.slice (some ⟨g, 0, none⟩) n gc)) rfl rfl (by kernel_rfl) (by kernel_rfl) (by kernel_rfl) (fun _ _ _ h => h) (.inl ⟨by rfl, by (intro wq hSw; (try dsimp only at hSw); go_simp; (try (first | rfl | omega)))⟩) hHeld ?_
      simp only [Act.put, List.setIfInBounds_toArray, List.set_cons_zero, List.set_cons_succ]
      refine wpAnyH_tk (i := 1) (d := 18) (v := (.int .i64 j)) rfl rfl (by kernel_rfl) (by kernel_rfl) (by kernel_rfl) (fun _ _ _ h => h) (.inl ⟨by rfl, by (intro wq hSw; (try dsimp only at hSw); go_simp; (try (first | rfl | omega)))⟩) hHeld ?_
      simp only [Act.put, List.setIfInBounds_toArray, List.set_cons_zero, List.set_cons_succ]
      refine wpAnyH_tk (i := 2) (d := 19) (v := (.slice (some ⟨g, 0, none⟩) n gc)) rfl rfl (by kernel_rfl) (by kernel_rfl) (by kernel_rfl) (fun _ _ _ h => h) (.inl ⟨by rfl, by (intro wq hSw; (try dsimp only at hSw); go_simp; (try (first | rfl | omega)))⟩) hHeld ?_
      simp only [Act.put, List.setIfInBounds_toArray, List.set_cons_zero, List.set_cons_succ]
      refine wpAnyH_tk (i := 3) (d := 20) (v := (.int .i64 j)) rfl rfl (by kernel_rfl) (by kernel_rfl) (by kernel_rfl) (fun _ _ _ h => h) (.inl ⟨by rfl, by (intro wq hSw; (try dsimp only at hSw); go_simp; (try (first | rfl | omega)))⟩) hHeld ?_
      simp only [Act.put, List.setIfInBounds_toArray, List.set_cons_zero, List.set_cons_succ]
      refine wpAnyH_tk (i := 4) (d := 21) (v := (.pointer (some ⟨g, j, none⟩))) rfl rfl (by kernel_rfl) (by kernel_rfl) (by kernel_rfl) (fun _ _ _ h => h) (.inl ⟨by rfl, by (intro wq hSw; (try dsimp only at hSw); go_simp; (try (first | rfl | omega)))⟩) hHeld ?_
      simp only [Act.put, List.setIfInBounds_toArray, List.set_cons_zero, List.set_cons_succ]
      refine wpAnyH_tk (i := 6) (d := 23) (v := (.slice (some ⟨b3, o3, none⟩) n bc)) rfl rfl (by kernel_rfl) (by kernel_rfl) (by kernel_rfl) (fun _ _ _ h => h) (.inl ⟨by rfl, by (intro wq hSw; (try dsimp only at hSw); go_simp; (try (first | rfl | omega)))⟩) hHeld ?_
      simp only [Act.put, List.setIfInBounds_toArray, List.set_cons_zero, List.set_cons_succ]
      refine wpAnyH_tk (i := 7) (d := 24) (v := (.int .i64 i)) rfl rfl (by kernel_rfl) (by kernel_rfl) (by kernel_rfl) (fun _ _ _ h => h) (.inl ⟨by rfl, by (intro wq hSw; (try dsimp only at hSw); go_simp; (try (first | rfl | omega)))⟩) hHeld ?_
      simp only [Act.put, List.setIfInBounds_toArray, List.set_cons_zero, List.set_cons_succ]
      refine wpAnyH_tk (i := 8) (d := 25) (v := (.pointer (some ⟨b3, o3 + i, none⟩))) rfl rfl (by kernel_rfl) (by kernel_rfl) (by kernel_rfl) (fun _ _ _ h => h) (.inl ⟨by rfl, by (intro wq hSw; (try dsimp only at hSw); go_simp; (try (first | rfl | omega)))⟩) hHeld ?_
      simp only [Act.put, List.setIfInBounds_toArray, List.set_cons_zero, List.set_cons_succ]
      refine wpAnyH_tk (i := 9) (d := 26) (v := (.int .i64 X)) rfl rfl (by kernel_rfl) (by kernel_rfl) (by kernel_rfl) (fun _ _ _ h => h) (.inl ⟨by rfl, by (intro wq hSw; (try dsimp only at hSw); go_simp; (try (first | rfl | omega)))⟩) hHeld ?_
      simp only [Act.put, List.setIfInBounds_toArray, List.set_cons_zero, List.set_cons_succ]
      refine wpAnyH_tk (i := 10) (d := 27) (v := (.slice (some ⟨b1, o1, none⟩) n cap)) rfl rfl (by kernel_rfl) (by kernel_rfl) (by kernel_rfl) (fun _ _ _ h => h) (.inl ⟨by rfl, by (intro wq hSw; (try dsimp only at hSw); go_simp; (try (first | rfl | omega)))⟩) hHeld ?_
      simp only [Act.put, List.setIfInBounds_toArray, List.set_cons_zero, List.set_cons_succ]
      refine wpAnyH_tk (i := 11) (d := 28) (v := (.int .i64 i)) rfl rfl (by kernel_rfl) (by kernel_rfl) (by kernel_rfl) (fun _ _ _ h => h) (.inl ⟨by rfl, by (intro wq hSw; (try dsimp only at hSw); go_simp; (try (first | rfl | omega)))⟩) hHeld ?_
      simp only [Act.put, List.setIfInBounds_toArray, List.set_cons_zero, List.set_cons_succ]
      refine wpAnyH_tk (i := 12) (d := 29) (v := (.pointer (some ⟨b1, o1 + i, none⟩))) rfl rfl (by kernel_rfl) (by kernel_rfl) (by kernel_rfl) (fun _ _ _ h => h) (.inl ⟨by rfl, by (intro wq hSw; (try dsimp only at hSw); go_simp; (try (first | rfl | omega)))⟩) hHeld ?_
      simp only [Act.put, List.setIfInBounds_toArray, List.set_cons_zero, List.set_cons_succ]
      refine wpAnyH_tk (i := 13) (d := 30) (v := (.slice (some ⟨b2, o2, none⟩) n rc)) rfl rfl (by kernel_rfl) (by kernel_rfl) (by kernel_rfl) (fun _ _ _ h => h) (.inl ⟨by rfl, by (intro wq hSw; (try dsimp only at hSw); go_simp; (try (first | rfl | omega)))⟩) hHeld ?_
      simp only [Act.put, List.setIfInBounds_toArray, List.set_cons_zero, List.set_cons_succ]
      refine wpAnyH_tk (i := 14) (d := 31) (v := (.int .i64 j)) rfl rfl (by kernel_rfl) (by kernel_rfl) (by kernel_rfl) (fun _ _ _ h => h) (.inl ⟨by rfl, by (intro wq hSw; (try dsimp only at hSw); go_simp; (try (first | rfl | omega)))⟩) hHeld ?_
      simp only [Act.put, List.setIfInBounds_toArray, List.set_cons_zero, List.set_cons_succ]
      refine wpAnyH_tk (i := 15) (d := 32) (v := (.pointer (some ⟨b2, o2 + j, none⟩))) rfl rfl (by kernel_rfl) (by kernel_rfl) (by kernel_rfl) (fun _ _ _ h => h) (.inl ⟨by rfl, by (intro wq hSw; (try dsimp only at hSw); go_simp; (try (first | rfl | omega)))⟩) hHeld ?_
      simp only [Act.put, List.setIfInBounds_toArray, List.set_cons_zero, List.set_cons_succ]
      refine wpAnyH_tk (i := 16) (d := 33) (v := (.int .i64 E)) rfl rfl (by kernel_rfl) (by kernel_rfl) (by kernel_rfl) (fun _ _ _ h => h) (.inl ⟨by rfl, by (intro wq hSw; (try dsimp only at hSw); go_simp; (try (first | rfl | omega)))⟩) hHeld ?_
      simp only [Act.put, List.setIfInBounds_toArray, List.set_cons_zero, List.set_cons_succ]
      refine wpAnyH_tk (i := 17) (d := 34) (v := (.int .i64 (X * E))) rfl rfl (by kernel_rfl) (by kernel_rfl) (by kernel_rfl) (fun _ _ _ h => h) (.inl ⟨by rfl, by (intro wq hSw; (try dsimp only at hSw); go_simp; (try (first | rfl | omega)))⟩) hHeld ?_
      simp only [Act.put, List.setIfInBounds_toArray, List.set_cons_zero, List.set_cons_succ]
      refine wpAnyH_ready (rs := [5]) (by kernel_rfl) (by simp) ?_
      refine ready_tk (i := 5) rfl (by rfl) (fun K hK => ?_) AllReadyH.nil
      go_simp
      refine hK.out _ _ ⟨hcc, hcc2, hc3w⟩ (fun hHeld => ?_)
      clear hK K
      refine wpAnyH_tk (i := 18) (d := 35) (v := (.int .i64 (Y - X * E))) rfl rfl (by kernel_rfl) (by kernel_rfl) (by kernel_rfl) (fun _ _ _ h => h) (.inl ⟨by rfl, by (intro wq hSw; (try dsimp only at hSw); go_simp; (try (first | rfl | omega)))⟩) hHeld ?_
      simp only [Act.put, List.setIfInBounds_toArray, List.set_cons_zero, List.set_cons_succ]
      refine wpAnyH_tk (i := 19) (d := 36) (v := (.pointer (some ⟨g, j, none⟩))) rfl rfl (by kernel_rfl) (by kernel_rfl) (by kernel_rfl) (fun _ _ _ h => h) (.inl ⟨by rfl, by (intro wq hSw; (try dsimp only at hSw); go_simp; (try (first | rfl | omega)))⟩) hHeld ?_
      simp only [Act.put, List.setIfInBounds_toArray, List.set_cons_zero, List.set_cons_succ]
      refine wpAnyH_ready (rs := [20]) (by kernel_rfl) (by simp) ?_
      refine ready_tk (i := 20) rfl (by rfl) (fun K hK => ?_) AllReadyH.nil
      go_simp
      refine hK.out _ _ HCS.out (fun hHeld => ?_)
      clear hK K
      refine wpAnyH_done (by kernel_rfl) ?_ _
      clear hHeld
      go_wp2
      exact ⟨⟨i + 1, by omega, by go_num, HN1.out, HN2.out⟩, by simp [intOf]; omega⟩
    · have hie : n = i := by omega
      have HOW : Hid (wr.ownsRow w.heap.size 3 1 (.slice (some ⟨g, 0, none⟩) n gc) n (ints (tnL c b j))) := by
        obtain ⟨cur, h1, h2, h3⟩ := HRW.out
        refine ⟨by rw [ints_length, tnL_len, HCL.out]; omega, .inr ⟨g, gc, cur, rfl, HGB.out, h1, hgn, by unfold maxLen; omega, by omega, ?_⟩⟩
        refine List.ext_getElem? fun k => ?_
        by_cases hk : k < n
        · rw [List.getElem?_take_of_lt (by omega), Array.getElem?_toList, h3 k (by omega)]
          show some (if k < n then Value.int .i64 (tnF c b j i k) else F k) = _
          rw [if_pos hk]
          have e : (ints (tnL c b j))[k]? = some (.int .i64 (tnF c b j n k)) := by simp [ints, tnL, HCL.out, hk]
          rw [e, hie]
        · rw [List.getElem?_eq_none (by simp; omega), List.getElem?_eq_none (by rw [ints_length, tnL_len, HCL.out]; omega)]
      have HBF : Hid (Below w.heap.size w wr) := ⟨HON.out.os.trans HB1.out.os, HON.out.tape.trans HB1.out.tape, HON.out.output.trans HB1.out.output, by rw [HON.out.size]; exact HB1.out.size, HLO.out⟩
      have iD : decide ((i : Int) < (n : Int)) = false := decide_eq_false (by omega)
      have iD' : decide (i < n) = false := decide_eq_false (by omega)
      go_wp2
      go_ret
      exact ⟨_, rfl, HOW.out, HBF.out⟩

theorem overD_any (n : Nat) (c : List (List Int)) (b : List Int) (j : Nat) (cv bv : Value) (w : World) (hc : Sqc n c) (hn1 : 1 ≤ n) (hm : Mat w.heap.size 26 3 w cv c) (hbv : Sl w.heap.size 3 w bv (ints b)) (hbl : b.length = n) (hb : ∀ k, -1000 ≤ b.getD k 0 ∧ b.getD k 0 ≤ 1000) (hj : j < n) :
    Calls Try.prog 30 #[cv, bv, .int .i64 j] w fun e w' => ∃ u, e = .returned u ∧ w'.ownsRow w.heap.size 3 1 u n (ints (tnL c b j)) ∧ Below w.heap.size w w' :=
  overM_any n c b j cv bv w hc hn1 hm hbv hbl (fun k => by have := hb k; omega) hj

end Go.Proofs.Ytkgljfnbaoncbaa

/- The document's Holds. -/
namespace Go.Proofs.Ytkgljfnbaoncbaa
open Go.RowKit
attribute [local go_sem ↓] Go.wp_at_zero Go.wp_at_succ

set_option maxRecDepth 100000 in
set_option maxHeartbeats 800000 in
theorem holdsD_any (B : Nat) (x : List Int) (m : List (List Int)) (u v : Value) (w : World) (hu : Sl B 3 w u (ints x)) (hv : Mat B 26 3 w v m) :
    Calls Try.prog 31 #[v, u] w fun e w' => e = .returned (.bool (m.any (· == x))) ∧ ∃ n, w' = w.drewN n := by
  obtain ⟨ao, cap, hvv, hlc, hcm⟩ := mat_open hv
  subst hvv
  have HU : Hid (Sl B 3 w u (ints x)) := hu
  have HV : Hid (Mat B 26 3 w (.slice ao m.length cap) m) := hv
  clear hu hv
  go_enter Try.func31, Try.ntmps31
  go_wp2
  go_loopw [5] (fun i wr => ∃ k : Nat, k ≤ m.length ∧ i = .int .i64 k ∧ (m.take k).any (fun z => z == x) = false ∧ ∃ n, wr = w.drewN n) (fun i _ => m.length - (intOf i).toNat)
  case atStart => exact ⟨0, Nat.zero_le _, rfl, by simp, 0, rfl⟩
  case round =>
    obtain ⟨k, hk, rfl, hno, n, rfl⟩ := hrel
    have HN : Hid ((m.take k).any (fun z => z == x) = false) := hno
    clear hno
    by_cases hlt : k < m.length
    · obtain ⟨b, o, cp, r1, hs, hc1, hcc, hr1⟩ := mat_cell (HV.out.drewN n) hlt
      simp only [Value.slice.injEq] at hs
      obtain ⟨rfl, _, rfl⟩ := hs
      have HR1 : Hid (Sl B 3 (w.drewN n) r1 (ints (m.getD k []))) := hr1
      have HS1 : Hid ((m.take (k + 1)).any (fun z => z == x) = (m.getD k [] == x)) := anyT_snoc (p := fun z => z == x) hlt HN.out
      have HG : Hid ((m.getD k [] == x) = true → m.any (fun z => z == x) = true) := fun h => anyT_get (p := fun z => z == x) hlt h
      clear hr1
      generalize m.getD k [] = z at *
      go_wp2_with fail
      refine (same_any B z x r1 u (w.drewN n) HR1.out (HU.out.drewN n)).mono ?_
      rintro e w' ⟨rfl, n2, rfl⟩
      cases hf : (z == x)
      · have HF : Hid ((z == x) = false) := hf
        clear hf
        go_wp2
        go_roundw
        case rel => exact ⟨k + 1, by omega, by go_num, by rw [HS1.out]; exact HF.out, _, rfl⟩
        case measure => simp [intOf]; omega
      · have HF : Hid ((z == x) = true) := hf
        clear hf
        go_wp2
        go_ret
        exact ⟨ret_bool (HG.out HF.out).symm, _, rfl⟩
    · have hke : m.take k = m := List.take_of_length_le (by omega)
      have HE : Hid (m.any (fun z => z == x) = false) := by rw [← hke]; exact HN.out
      go_wp2
      go_ret
      exact ⟨ret_bool HE.out.symm, n, rfl⟩

end Go.Proofs.Ytkgljfnbaoncbaa

/- The document's answer: is a list ahead of another one? -/
namespace Go.Proofs.Ytkgljfnbaoncbaa
open Go.RowKit

set_option maxRecDepth 100000 in
set_option maxHeartbeats 800000 in
theorem below_any (B : Nat) (x y : List Int) (u v : Value) (w : World) (hu : Sl B 3 w u (ints x)) (hv : Sl B 3 w v (ints y)) :
    Calls Try.prog 52 #[u, v] w fun e w' => e = .returned (.bool (decide (cmpL x y < 0))) ∧ ∃ n, w' = w.drewN n := by
  obtain ⟨ao, cap, hvv, hlc, hcm⟩ := sl_open hu
  obtain ⟨bo, cbp, huu, hlb, hcb⟩ := sl_open hv
  subst hvv huu
  have HU : Hid (Sl B 3 w (.slice ao x.length cap) (ints x)) := hu
  have HV : Hid (Sl B 3 w (.slice bo y.length cbp) (ints y)) := hv
  clear hu hv
  go_enter Try.func52, Try.ntmps52
  go_wp2
  go_loopw [5] (fun i wr => ∃ k : Nat, k ≤ x.length ∧ k ≤ y.length ∧ i = .int .i64 k ∧ cmpL x y = cmpL (x.drop k) (y.drop k) ∧ ∃ n, wr = w.drewN n) (fun i _ => x.length - (intOf i).toNat)
  case atStart => exact ⟨0, Nat.zero_le _, Nat.zero_le _, rfl, rfl, 0, rfl⟩
  case round =>
    obtain ⟨k, hk, hk2, rfl, hcm2, n, rfl⟩ := hrel
    have HC : Hid (cmpL x y = cmpL (x.drop k) (y.drop k)) := hcm2
    clear hcm2
    by_cases hlt : k < x.length
    · have hltI : (k : Int) < (x.length : Int) := by omega
      obtain ⟨b, o, cp, hs, hc1, hcc⟩ := sl_cell HU.out hlt
      simp only [Value.slice.injEq] at hs
      obtain ⟨rfl, _, rfl⟩ := hs
      by_cases hlt2 : k < y.length
      · have hltJ : (k : Int) < (y.length : Int) := by omega
        obtain ⟨b2, o2, cp2, hs2, hc2, hcc2⟩ := sl_cell HV.out hlt2
        simp only [Value.slice.injEq] at hs2
        obtain ⟨rfl, _, rfl⟩ := hs2
        have HA : Hid (cmpL (x.drop k) (y.drop k) = if cmpI (x.getD k 0) (y.getD k 0) = 0 then cmpL (x.drop (k + 1)) (y.drop (k + 1)) else cmpI (x.getD k 0) (y.getD k 0)) := cmpL_at hlt hlt2
        have hk0 : (0 : Int) ≤ (k : Int) := by omega
        generalize x.getD k 0 = a at *
        generalize y.getD k 0 = c at *
        by_cases hac : a = c
        · have HR : Hid (cmpL x y = cmpL (x.drop (k + 1)) (y.drop (k + 1))) := by
            show _ = _
            rw [HC.out, HA.out, if_pos (by rw [hac]; simp [cmpI])]
          have hacb : (a != c) = false := by simp [hac]
          clear hac
          go_wp2
          go_quiet (fail)
          go_wp2
          go_roundw
          case rel => exact ⟨k + 1, by omega, by omega, by go_num, HR.out, _, rfl⟩
          case measure => simp [intOf]; omega
        · have HR : Hid (cmpL x y = cmpI a c) := by
            show _ = _
            rw [HC.out, HA.out, if_neg (by unfold cmpI; split <;> (try split) <;> omega)]
          have HS : Hid (decide (cmpI a c < 0) = decide (a < c)) := by
            show _ = _
            unfold cmpI
            by_cases h : a < c
            · simp [h]
            · by_cases h' : c < a <;> simp [h, h']
          have hacb : (a != c) = true := by simp [hac]
          clear hac
          go_wp2
          go_quiet (fail)
          go_wp2
          go_quiet (fail)
          go_wp2
          go_ret
          exact ⟨ret_bool (by rw [HR.out, HS.out]), _, by rw [World.drewN_drewN, World.drewN_drewN]⟩
      · have hltJ : decide ((k : Int) < (y.length : Int)) = false := by simp; omega
        have hke : k = y.length := by omega
        have HR : Hid (cmpL x y = 1) := by
          show _ = _
          rw [HC.out, hke, List.drop_length, List.drop_eq_getElem_cons (by omega)]; rfl
        have hxy : decide ((x.length : Int) < (y.length : Int)) = false := by simp; omega
        clear hke
        go_wp2
        go_ret
        exact ⟨ret_bool (by rw [HR.out]; first | rfl | simpa using hxy), _, rfl⟩
    · have hltI : decide ((k : Int) < (x.length : Int)) = false := by simp; omega
      have hke : k = x.length := by omega
      have HR : Hid (decide (cmpL x y < 0) = decide (x.length < y.length)) := by
        show _ = _
        rw [HC.out, hke, List.drop_length]
        by_cases hxy : x.length < y.length
        · rw [List.drop_eq_getElem_cons hxy]
          simp [cmpL, hxy]
        · rw [List.drop_eq_nil_of_le (by omega)]
          simp [cmpL]; omega
      clear hke
      go_wp2
      go_ret
      exact ⟨ret_bool HR.out.symm, _, rfl⟩

end Go.Proofs.Ytkgljfnbaoncbaa
