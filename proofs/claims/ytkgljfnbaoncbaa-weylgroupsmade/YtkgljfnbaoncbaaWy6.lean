/- root.turned: a sum of roots, turned over. -/
import Derived.Test.YtkgljfnbaoncbaaMgAC
namespace Go.Proofs.Ytkgljfnbaoncbaa
open Go.RowKit
attribute [local go_sem ↓] Go.wp_at_zero Go.wp_at_succ

/-- A sum of roots, turned over by the j-th: of the first ones. -/
def tnF (c : List (List Int)) (b : List Int) (j i k : Nat) : Int := if k = j then b.getD j 0 - sm i (fun i => b.getD i 0 * cE c i j) else b.getD k 0

def tnL (c : List (List Int)) (b : List Int) (j : Nat) : List Int := (List.range c.length).map fun k => tnF c b j c.length k

theorem tnL_len (c : List (List Int)) (b : List Int) (j : Nat) : (tnL c b j).length = c.length := by simp [tnL]

theorem tn_bd {c : List (List Int)} {b : List Int} {j : Nat} {M : Int} (hM : 0 ≤ M) (hb : ∀ k, -M ≤ b.getD k 0 ∧ b.getD k 0 ≤ M) (hc : ∀ i j, -3 ≤ cE c i j ∧ cE c i j ≤ 3) : ∀ i : Nat, -(3 * M * i) ≤ sm i (fun i => b.getD i 0 * cE c i j) ∧ sm i (fun i => b.getD i 0 * cE c i j) ≤ 3 * M * i
  | 0 => by simp [sm]
  | i + 1 => by
    have ih := tn_bd (j := j) hM hb hc i
    have h1 := hb i
    have h2 := hc i j
    have h3 : -(3 * M) ≤ b.getD i 0 * cE c i j ∧ b.getD i 0 * cE c i j ≤ 3 * M := by
      generalize b.getD i 0 = x at *
      generalize cE c i j = y at *
      rcases (show y = -3 ∨ y = -2 ∨ y = -1 ∨ y = 0 ∨ y = 1 ∨ y = 2 ∨ y = 3 by omega) with rfl | rfl | rfl | rfl | rfl | rfl | rfl <;> omega
    show -(3 * M * ((i + 1 : Nat) : Int)) ≤ sm i (fun i => b.getD i 0 * cE c i j) + b.getD i 0 * cE c i j ∧ sm i (fun i => b.getD i 0 * cE c i j) + b.getD i 0 * cE c i j ≤ 3 * M * ((i + 1 : Nat) : Int)
    rw [show ((i + 1 : Nat) : Int) = (i : Int) + 1 by omega, Int.mul_add]
    generalize 3 * M * (i : Int) = P at *
    omega

set_option maxRecDepth 100000 in
set_option maxHeartbeats 1600000 in
theorem turnedM_any (n : Nat) (c : List (List Int)) (b : List Int) (j : Nat) (cv bv : Value) (w : World) (hc : Sqc n c) (hn1 : 1 ≤ n) (hm : Mat w.heap.size 26 3 w cv c) (hbv : Sl w.heap.size 3 w bv (ints b)) (hbl : b.length = n) (hb : ∀ k, -18014398509481984 ≤ b.getD k 0 ∧ b.getD k 0 ≤ 18014398509481984) (hj : j < n) :
    Calls Try.prog 64 #[cv, bv, .int .i64 j] w fun e w' => ∃ u, e = .returned u ∧ w'.ownsRow w.heap.size 3 1 u n (ints (tnL c b j)) ∧ Below w.heap.size w w' := by
  obtain ⟨ao, cap, hvv, hlc, hcm⟩ := mat_open hm
  subst hvv
  obtain ⟨bo, bc, hbvv, hblc, hbcm⟩ := sl_open hbv
  subst hbvv
  have hn4 := hc.n4
  have HCL : Hid (c.length = n) := hc.len
  have HCO : Hid (Sqc n c) := hc
  have HM : Hid (Mat w.heap.size 26 3 w (.slice ao c.length cap) c) := hm
  have HBV : Hid (Sl w.heap.size 3 w (.slice bo b.length bc) (ints b)) := hbv
  have HBB : Hid (∀ k, -18014398509481984 ≤ b.getD k 0 ∧ b.getD k 0 ≤ 18014398509481984) := hb
  have HBL : Hid (b.length = n) := hbl
  have HCN : Hid (Calls Try.prog 79 #[.slice bo b.length bc] w fun e w' => ∃ u, e = .returned u ∧ w'.ownsRow w.heap.size 3 1 u b.length (ints b) ∧ Below w.heap.size w w') := clone_any w.heap.size b _ w hbv (by omega)
  rw [HBL.out] at HCN
  rw [HBL.out, HCL.out]
  clear hc hm hbv hb hbl
  go_enter Try.func64, Try.ntmps64
  go_wp2_with fail
  refine HCN.out.mono ?_
  rintro e w1 ⟨u, rfl, ho, hb1⟩
  obtain ⟨g, gc, F, hu, hgB, hrow, hF, hgn, hgm⟩ := own_rw ho (by omega)
  subst hu
  have HB1 : Hid (Below w.heap.size w w1) := hb1
  have HR1 : Hid (w1.rowIs g 3 gc F) := hrow
  have HFF : Hid (∀ i, i < n → F i = .int .i64 (b.getD i 0)) := hF
  have HGB : Hid (w.heap.size ≤ g) := hgB
  have hgw : g < w1.heap.size := hrow.lt
  clear ho hb1 hrow hF hgB HCN
  go_wp2
  go_loopw [8, 9, 14] (fun _ _ iv wr => ∃ i : Nat, i ≤ n ∧ iv = .int .i64 i ∧ wr.rowIs g 3 gc (fun k => if k < n then .int .i64 (tnF c b j i k) else F k) ∧ Only g w1 wr) (fun _ _ iv _ => n - (intOf iv).toNat)
  case atStart => exact ⟨0, Nat.zero_le _, rfl, HR1.out.congr (fun k hk => by
    by_cases hkn : k < n
    · rw [if_pos hkn, HFF.out k hkn]
      by_cases e : k = j
      · subst e; simp [tnF, sm]
      · simp [tnF, e]
    · rw [if_neg hkn]), Only.refl _ _⟩
  case round =>
    obtain ⟨i, hi, rfl, hrw, hon⟩ := hrel
    have HRW : Hid (wr.rowIs g 3 gc (fun k => if k < n then .int .i64 (tnF c b j i k) else F k)) := hrw
    have HON : Hid (Only g w1 wr) := hon
    have HLO : Hid (∀ a, a < w.heap.size → wr.heap[a]? = w.heap[a]?) := fun a ha => (HON.out.block a (by have := HGB.out; omega)).trans (HB1.out.block a ha)
    clear hrw hon
    by_cases hlt : i < n
    · obtain ⟨b3, o3, cp3, hs3, _, hc3⟩ := sl_cell HBV.out (k := i) (by rw [HBL.out]; exact hlt)
      rw [HBL.out] at hs3
      simp only [Value.slice.injEq, true_and] at hs3
      obtain ⟨rfl, rfl⟩ := hs3
      obtain ⟨b1, o1, cp1, r1, hs, _, hcc0, hr1⟩ := mat_cell HM.out (k := i) (by rw [HCL.out]; exact hlt)
      rw [HCL.out] at hs
      simp only [Value.slice.injEq, true_and] at hs
      obtain ⟨rfl, rfl⟩ := hs
      obtain ⟨ro, rc, hrv, hrl, _⟩ := sl_open hr1
      subst hrv
      have hln : (c.getD i []).length = n := HCO.out.row _ (by simp [HCL.out, hlt])
      obtain ⟨b2, o2, cp2, hs2, _, hcc3⟩ := sl_cell hr1 (k := j) (by rw [hln]; exact hj)
      rw [hln] at hs2 hcc0
      simp only [Value.slice.injEq, true_and] at hs2
      obtain ⟨rfl, rfl⟩ := hs2
      have ee : (c.getD i []).getD j 0 = cE c i j := rfl
      rw [ee] at hcc3
      have HAG : Hid (∀ (W' : World) (a o : Nat) (u : Value), (∀ x, x < w.heap.size → W'.heap[x]? = w.heap[x]?) → w.cell? ⟨a, o, none⟩ = some u → W'.cell? ⟨a, o, none⟩ = some u) := fun W' a o u h1 h2 => (World.cell?_of_block (w := w) (h1 a (lt_of_cell h2))).trans h2
      have x0 := HRW.out.cell (i := j) (by omega)
      have hfz := HRW.out.frozen j
      simp only [hj, if_true] at x0
      have bd := tn_bd (c := c) (b := b) (j := j) (M := 18014398509481984) (by omega) HBB.out HCO.out.ent i
      have bj := HBB.out j
      have bi := HBB.out i
      have ce := HCO.out.ent i j
      obtain ⟨Y, hY⟩ : ∃ Y, Y = tnF c b j i j := ⟨_, rfl⟩
      have hYb : -288230376151711744 ≤ Y ∧ Y ≤ 288230376151711744 := by
        rw [hY]; unfold tnF; rw [if_pos rfl]
        generalize sm i (fun i => b.getD i 0 * cE c i j) = s at *
        have : (i : Int) ≤ 4 := by omega
        omega
      rw [← hY] at x0
      obtain ⟨X, hX⟩ : ∃ X, X = b.getD i 0 := ⟨_, rfl⟩
      obtain ⟨E, hE⟩ : ∃ E, E = cE c i j := ⟨_, rfl⟩
      rw [← hX] at hc3 bi
      rw [← hE] at hcc3 ce
      have HNX : Hid (∀ W', Only g w1 W' → W'.rowIs g 3 gc (fun k => if k < n then .int .i64 (tnF c b j i k) else F k) → (W'.setCell ⟨g, j, none⟩ (.int .i64 (Y - X * E))).rowIs g 3 gc (fun k => if k < n then .int .i64 (tnF c b j (i + 1) k) else F k) ∧ Only g w1 (W'.setCell ⟨g, j, none⟩ (.int .i64 (Y - X * E)))) := fun W' h1 h2 => by
        refine ⟨(h2.set j (.int .i64 (Y - X * E))).congr fun k hk => ?_, h1.set _ _⟩
        by_cases e : k = j
        · subst e
          rw [if_pos rfl, if_pos hj, hY, hX, hE]
          simp only [tnF, if_true, sm]
          congr 1
          omega
        · rw [if_neg e]
          simp [tnF, e]
      have HRD : Hid (wr.drew.rowIs g 3 gc (fun k => if k < n then .int .i64 (tnF c b j i k) else F k)) := HRW.out.of_block rfl
      have HOD : Hid (Only g w1 wr.drew) := HON.out.drew
      have hmb : -54043195528445952 ≤ X * E ∧ X * E ≤ 54043195528445952 := by
        rcases (show E = -3 ∨ E = -2 ∨ E = -1 ∨ E = 0 ∨ E = 1 ∨ E = 2 ∨ E = 3 by omega) with h | h | h | h | h | h | h <;> rw [h] <;> omega
      have m1 : IntKind.i64.wrap (X * E) = X * E := by rw [IntWalk.i64_left]; exact IntWalk.wrap64_in _ ⟨by omega, by omega⟩
      have m2 : IntKind.i64.wrap (Y - X * E) = Y - X * E := by rw [IntWalk.i64_left]; exact IntWalk.wrap64_in _ ⟨by omega, by omega⟩
      obtain ⟨N1, N2⟩ := HNX.out _ HOD.out HRD.out
      have HN1 : Hid _ := N1
      have HN2 : Hid _ := N2
      have hfd : wr.drew.frozen? ⟨g, j, none⟩ = false := hfz
      have xd : wr.drew.cell? ⟨g, j, none⟩ = some (.int .i64 Y) := x0
      have hc3w := HAG.out wr _ _ _ HLO.out hc3
      have hcc := HAG.out wr _ _ _ HLO.out hcc0
      have hcc2 := HAG.out wr _ _ _ HLO.out hcc3
      have HCS : Hid ((wr.drew.setCell ⟨g, j, none⟩ (.int .i64 (Y - X * E))).cell? ⟨b1, o1 + i, none⟩ = some (.slice (some ⟨b2, o2, none⟩) n rc) ∧ (wr.drew.setCell ⟨g, j, none⟩ (.int .i64 (Y - X * E))).cell? ⟨b2, o2 + j, none⟩ = some (.int .i64 E)) := by
        have h1 : ∀ x, x < w.heap.size → (wr.drew.setCell ⟨g, j, none⟩ (.int .i64 (Y - X * E))).heap[x]? = w.heap[x]? := fun x hx => (HN2.out.block x (by have := HGB.out; omega)).trans (HB1.out.block x hx)
        exact ⟨HAG.out _ _ _ _ h1 hcc0, HAG.out _ _ _ _ h1 hcc3⟩
      have iI : (i : Int) < (n : Int) := by omega
      have iI0 : (0 : Int) ≤ (i : Int) := by omega
      have jI : (j : Int) < (n : Int) := by omega
      have jI0 : (0 : Int) ≤ (j : Int) := by omega
      clear hr1 ee hE hX hY N1 N2 HNX hcc0 hcc3 hc3 bd bj HAG
      go_wp2
      refine wp_region_held_drew (S := fun w' => w'.cell? ⟨b1, o1 + i, none⟩ = some (.slice (some ⟨b2, o2, none⟩) n rc) ∧ w'.cell? ⟨b2, o2 + j, none⟩ = some (.int .i64 E)) (by kernel_rfl) ⟨hcc, hcc2⟩ (fun hHeld => ?_)
      refine wpAnyH_tk (i := 0) (d := 19) (v := (.slice (some ⟨g, 0, none⟩) n gc)) rfl rfl (by kernel_rfl) (by kernel_rfl) (by kernel_rfl) (fun _ _ _ h => h) (.inl ⟨by rfl, by (intro wq hSw; (try dsimp only at hSw); go_simp)⟩) hHeld ?_
      simp only [Act.put, List.setIfInBounds_toArray, List.set_cons_zero, List.set_cons_succ]
      refine wpAnyH_tk (i := 1) (d := 20) (v := (.int .i64 j)) rfl rfl (by kernel_rfl) (by kernel_rfl) (by kernel_rfl) (fun _ _ _ h => h) (.inl ⟨by rfl, by (intro wq hSw; (try dsimp only at hSw); go_simp)⟩) hHeld ?_
      simp only [Act.put, List.setIfInBounds_toArray, List.set_cons_zero, List.set_cons_succ]
      refine wpAnyH_tk (i := 2) (d := 21) (v := (.pointer (some ⟨g, j, none⟩))) rfl rfl (by kernel_rfl) (by kernel_rfl) (by kernel_rfl) (fun _ _ _ h => h) (.inl ⟨by rfl, by (intro wq hSw; (try dsimp only at hSw); go_simp)⟩) hHeld ?_
      simp only [Act.put, List.setIfInBounds_toArray, List.set_cons_zero, List.set_cons_succ]
      refine wpAnyH_tk (i := 4) (d := 23) (v := (.int .i64 X)) rfl rfl (by kernel_rfl) (by kernel_rfl) (by kernel_rfl) (fun _ _ _ h => h) (.inl ⟨by rfl, by (intro wq hSw; (try dsimp only at hSw); go_simp)⟩) hHeld ?_
      simp only [Act.put, List.setIfInBounds_toArray, List.set_cons_zero, List.set_cons_succ]
      refine wpAnyH_tk (i := 5) (d := 24) (v := (.slice (some ⟨b1, o1, none⟩) n cap)) rfl rfl (by kernel_rfl) (by kernel_rfl) (by kernel_rfl) (fun _ _ _ h => h) (.inl ⟨by rfl, by (intro wq hSw; (try dsimp only at hSw); go_simp)⟩) hHeld ?_
      simp only [Act.put, List.setIfInBounds_toArray, List.set_cons_zero, List.set_cons_succ]
      refine wpAnyH_tk (i := 6) (d := 25) (v := (.int .i64 i)) rfl rfl (by kernel_rfl) (by kernel_rfl) (by kernel_rfl) (fun _ _ _ h => h) (.inl ⟨by rfl, by (intro wq hSw; (try dsimp only at hSw); go_simp)⟩) hHeld ?_
      simp only [Act.put, List.setIfInBounds_toArray, List.set_cons_zero, List.set_cons_succ]
      refine wpAnyH_tk (i := 7) (d := 26) (v := (.pointer (some ⟨b1, o1 + i, none⟩))) rfl rfl (by kernel_rfl) (by kernel_rfl) (by kernel_rfl) (fun _ _ _ h => h) (.inl ⟨by rfl, by (intro wq hSw; (try dsimp only at hSw); go_simp)⟩) hHeld ?_
      simp only [Act.put, List.setIfInBounds_toArray, List.set_cons_zero, List.set_cons_succ]
      refine wpAnyH_tk (i := 8) (d := 27) (v := (.slice (some ⟨b2, o2, none⟩) n rc)) rfl rfl (by kernel_rfl) (by kernel_rfl) (by kernel_rfl) (fun _ _ _ h => h) (.inl ⟨by rfl, by (intro wq hSw; (try dsimp only at hSw); go_simp)⟩) hHeld ?_
      simp only [Act.put, List.setIfInBounds_toArray, List.set_cons_zero, List.set_cons_succ]
      refine wpAnyH_tk (i := 9) (d := 28) (v := (.int .i64 j)) rfl rfl (by kernel_rfl) (by kernel_rfl) (by kernel_rfl) (fun _ _ _ h => h) (.inl ⟨by rfl, by (intro wq hSw; (try dsimp only at hSw); go_simp)⟩) hHeld ?_
      simp only [Act.put, List.setIfInBounds_toArray, List.set_cons_zero, List.set_cons_succ]
      refine wpAnyH_tk (i := 10) (d := 29) (v := (.pointer (some ⟨b2, o2 + j, none⟩))) rfl rfl (by kernel_rfl) (by kernel_rfl) (by kernel_rfl) (fun _ _ _ h => h) (.inl ⟨by rfl, by (intro wq hSw; (try dsimp only at hSw); go_simp)⟩) hHeld ?_
      simp only [Act.put, List.setIfInBounds_toArray, List.set_cons_zero, List.set_cons_succ]
      refine wpAnyH_tk (i := 11) (d := 30) (v := (.int .i64 E)) rfl rfl (by kernel_rfl) (by kernel_rfl) (by kernel_rfl) (fun _ _ _ h => h) (.inl ⟨by rfl, by (intro wq hSw; (try dsimp only at hSw); go_simp)⟩) hHeld ?_
      simp only [Act.put, List.setIfInBounds_toArray, List.set_cons_zero, List.set_cons_succ]
      refine wpAnyH_tk (i := 12) (d := 31) (v := (.int .i64 (X * E))) rfl rfl (by kernel_rfl) (by kernel_rfl) (by kernel_rfl) (fun _ _ _ h => h) (.inl ⟨by rfl, by (intro wq hSw; (try dsimp only at hSw); go_simp)⟩) hHeld ?_
      simp only [Act.put, List.setIfInBounds_toArray, List.set_cons_zero, List.set_cons_succ]
      refine wpAnyH_ready (rs := [3]) (by kernel_rfl) (by simp) ?_
      refine ready_tk (i := 3) rfl (by rfl) (fun K hK => ?_) AllReadyH.nil
      go_simp
      refine hK.out _ _ ⟨hcc, hcc2⟩ (fun hHeld => ?_)
      clear hK K
      refine wpAnyH_tk (i := 13) (d := 32) (v := (.int .i64 (Y - X * E))) rfl rfl (by kernel_rfl) (by kernel_rfl) (by kernel_rfl) (fun _ _ _ h => h) (.inl ⟨by rfl, by (intro wq hSw; (try dsimp only at hSw); go_simp)⟩) hHeld ?_
      simp only [Act.put, List.setIfInBounds_toArray, List.set_cons_zero, List.set_cons_succ]
      refine wpAnyH_tk (i := 14) (d := 33) (v := (.pointer (some ⟨g, j, none⟩))) rfl rfl (by kernel_rfl) (by kernel_rfl) (by kernel_rfl) (fun _ _ _ h => h) (.inl ⟨by rfl, by (intro wq hSw; (try dsimp only at hSw); go_simp)⟩) hHeld ?_
      simp only [Act.put, List.setIfInBounds_toArray, List.set_cons_zero, List.set_cons_succ]
      refine wpAnyH_ready (rs := [15]) (by kernel_rfl) (by simp) ?_
      refine ready_tk (i := 15) rfl (by rfl) (fun K hK => ?_) AllReadyH.nil
      go_simp
      refine hK.out _ _ HCS.out (fun hHeld => ?_)
      clear hK K
      refine wpAnyH_done (by kernel_rfl) ?_ _
      clear hHeld
      go_wp2
      exact ⟨⟨i + 1, by omega, by go_num, HN1.out, HN2.out⟩, by simp [intOf]; omega⟩
    · have hie : n = i := by omega
      have HOW : Hid (wr.ownsRow w.heap.size 3 1 (.slice (some ⟨g, 0, none⟩) n gc) n (ints (tnL c b j))) := by
        obtain ⟨cur, h1, h2, h3⟩ := HRW.out
        refine ⟨by rw [ints_length, tnL_len, HCL.out]; omega, .inr ⟨g, gc, cur, rfl, HGB.out, h1, hgn, by unfold maxLen; omega, by omega, ?_⟩⟩
        refine List.ext_getElem? fun k => ?_
        by_cases hk : k < n
        · rw [List.getElem?_take_of_lt (by omega), Array.getElem?_toList, h3 k (by omega)]
          show some (if k < n then Value.int .i64 (tnF c b j i k) else F k) = _
          rw [if_pos hk]
          have e : (ints (tnL c b j))[k]? = some (.int .i64 (tnF c b j n k)) := by simp [ints, tnL, HCL.out, hk]
          rw [e, hie]
        · rw [List.getElem?_eq_none (by simp; omega), List.getElem?_eq_none (by rw [ints_length, tnL_len, HCL.out]; omega)]
      have HBF : Hid (Below w.heap.size w wr) := ⟨HON.out.os.trans HB1.out.os, HON.out.tape.trans HB1.out.tape, HON.out.output.trans HB1.out.output, by rw [HON.out.size]; exact HB1.out.size, HLO.out⟩
      have iD : decide ((i : Int) < (n : Int)) = false := decide_eq_false (by omega)
      have iD' : decide (i < n) = false := decide_eq_false (by omega)
      go_wp2
      go_ret
      exact ⟨_, rfl, HOW.out, HBF.out⟩

end Go.Proofs.Ytkgljfnbaoncbaa
