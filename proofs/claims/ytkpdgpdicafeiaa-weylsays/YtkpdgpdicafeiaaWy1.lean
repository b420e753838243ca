/- mirror.Over: marks, turned over in their own memory. -/
import Derived.Test.YtkpdgpdicafeiaaWlA
import Derived.Test.YtkpdgpdicafeiaaTk1
import Derived.Test.YtkpdgpdicafeiaaDatA
import Derived.Test.YtkpdgpdicafeiaaRefs3
namespace Go.Proofs.Ytkpdgpdicafeiaa
open Go.RowKit
attribute [local go_sem ↓] Go.wp_at_zero Go.wp_at_succ

/-- A square of so many rows of small numbers. -/
structure Sqc (n : Nat) (c : List (List Int)) : Prop where
  len : c.length = n
  n4 : n ≤ 4
  row : ∀ r ∈ c, r.length = n
  ent : ∀ i j, -3 ≤ cE c i j ∧ cE c i j ≤ 3

/-- All blocks but one are as they were. -/
structure Only (g : Nat) (w w' : World) : Prop where
  os : w'.os = w.os
  tape : w'.tape = w.tape
  output : w'.output = w.output
  size : w'.heap.size = w.heap.size
  block : ∀ b, b ≠ g → w'.heap[b]? = w.heap[b]?

theorem Only.refl (g : Nat) (w : World) : Only g w w := ⟨rfl, rfl, rfl, rfl, fun _ _ => rfl⟩
theorem Only.trans {g : Nat} {a b c : World} (h : Only g a b) (k : Only g b c) : Only g a c := ⟨k.os.trans h.os, k.tape.trans h.tape, k.output.trans h.output, k.size.trans h.size, fun x hx => (k.block x hx).trans (h.block x hx)⟩
theorem Only.set {g : Nat} {a b : World} (h : Only g a b) (j : Nat) (u : Value) : Only g a (b.setCell ⟨g, j, none⟩ u) := ⟨h.os, h.tape, h.output, by simp only [World.setCell, Array.size_modify]; exact h.size, fun x hx => (Below.heap_setCell _ _ _ _ hx).trans (h.block x hx)⟩
theorem Only.drew {g : Nat} {a b : World} (h : Only g a b) : Only g a b.drew := ⟨h.os, h.tape, h.output, h.size, h.block⟩

/-- The first marks turned over. -/
def ovF (c : List (List Int)) (v : List Int) (r j k : Nat) : Int := if k < j then v.getD k 0 - v.getD r 0 * cE c r k else v.getD k 0

set_option maxRecDepth 100000 in
set_option maxHeartbeats 1600000 in
theorem over_any (n : Nat) (c : List (List Int)) (v : List Int) (r g B : Nat) (cv : Value) (w0 w : World) (hc : Sqc n c) (hm : Mat B 23 3 w0 cv c) (hag : ∀ b, b < w0.heap.size → w.heap[b]? = w0.heap[b]?) (hg : w0.heap.size ≤ g) (hr : r < n) (hv : ∀ k, -1000000 ≤ v.getD k 0 ∧ v.getD k 0 ≤ 1000000)
    (hrow : w.rowIs g 3 n (fun k => .int .i64 (v.getD k 0))) :
    Calls Try.prog 34 #[cv, .slice (some ⟨g, 0, none⟩) n n, .int .i64 r] w fun e w' => e = .returned (.tuple #[]) ∧ w'.rowIs g 3 n (fun k => .int .i64 ((ovL c v r).getD k 0)) ∧ Only g w w' := by
  obtain ⟨ao, cap, hvv, hlc, hcm⟩ := mat_open hm
  subst hvv
  have hn4 := hc.n4
  have HCL : Hid (c.length = n) := hc.len
  have HC : Hid (Mat B 23 3 w0 (.slice ao c.length cap) c) := hm
  have HAG : Hid (∀ W' (a : Nat) (o : Nat) u, Only g w W' → w0.cell? ⟨a, o, none⟩ = some u → W'.cell? ⟨a, o, none⟩ = some u) := fun W' a o u h1 h2 => by
    have hb := lt_of_cell h2
    exact (World.cell?_of_block (w := w0) ((h1.block a (by omega)).trans (hag a hb))).trans h2
  have HR : Hid (∀ r ∈ c, r.length = n) := hc.row
  obtain ⟨V, hV⟩ : ∃ V, V = v.getD r 0 := ⟨_, rfl⟩
  have hVb := hv r
  rw [← hV] at hVb
  have HE : Hid (∀ k, -3 ≤ cE c r k ∧ cE c r k ≤ 3) := fun k => hc.ent r k
  have c0 := hrow.cell hr
  (try simp only at c0)
  rw [← hV] at c0
  have rI : (r : Int) < (n : Int) := by omega
  have rI0 : (0 : Int) ≤ (r : Int) := by omega
  have HV : Hid (V = v.getD r 0) := hV
  have HVB : Hid (∀ k, -1000000 ≤ v.getD k 0 ∧ v.getD k 0 ≤ 1000000) := hv
  have HR0 : Hid (w.rowIs g 3 n (fun k => .int .i64 (v.getD k 0))) := hrow
  have HEN : Hid (∀ k, k < n → ovF c v r n k = (ovL c v r).getD k 0) := fun k hk => by
    unfold ovF ovL
    rw [if_pos hk, getD_range (by rw [HCL.out]; exact hk)]
  have hvl := HVB.out r
  clear hm hc hrow hV hvl hv
  rw [HCL.out]
  go_enter Try.func34, Try.ntmps34
  go_wp2
  clear c0
  go_loopw [7, 14] (fun _ i wr => ∃ j : Nat, j ≤ n ∧ i = .int .i64 j ∧ wr.rowIs g 3 n (fun k => .int .i64 (ovF c v r j k)) ∧ Only g w wr) (fun _ i _ => n - (intOf i).toNat)
  case atStart => exact ⟨0, Nat.zero_le _, rfl, HR0.out.congr (fun k hk => by simp [ovF]), Only.refl _ _⟩
  case round =>
    obtain ⟨j, hj, rfl, hrw, hon⟩ := hrel
    have HRW : Hid (wr.rowIs g 3 n (fun k => .int .i64 (ovF c v r j k))) := hrw
    have HON : Hid (Only g w wr) := hon
    clear hrw hon
    by_cases hlt : j < n
    · obtain ⟨b1, o1, cp1, r1, hs, _, hcc0, hr1⟩ := mat_cell HC.out (k := r) (by rw [HCL.out]; exact hr)
      rw [HCL.out] at hs
      simp only [Value.slice.injEq, true_and] at hs
      obtain ⟨rfl, rfl⟩ := hs
      obtain ⟨ro, rc, hrv, hrl, _⟩ := sl_open hr1
      subst hrv
      have hln : (c.getD r []).length = n := HR.out _ (by simp [HCL.out, hr])
      obtain ⟨b2, o2, cp2, hs2, _, hcc3⟩ := sl_cell hr1 (k := j) (by rw [hln]; exact hlt)
      rw [hln] at hs2 hcc0
      simp only [Value.slice.injEq, true_and] at hs2
      obtain ⟨rfl, rfl⟩ := hs2
      have hcc := HAG.out wr _ _ _ HON.out hcc0
      have x0 := HRW.out.cell hlt
      have hfz := HRW.out.frozen j
      have e0 : ovF c v r j j = v.getD j 0 := by simp [ovF]
      simp only [e0] at x0
      have eb := HE.out j
      have vb := HVB.out j
      have ee : (c.getD r []).getD j 0 = cE c r j := rfl
      rw [ee] at hcc3
      have HNX : Hid (∀ W', Only g w W' → W'.rowIs g 3 n (fun k => .int .i64 (ovF c v r j k)) → (W'.setCell ⟨g, j, none⟩ (.int .i64 (v.getD j 0 - V * cE c r j))).rowIs g 3 n (fun k => .int .i64 (ovF c v r (j + 1) k)) ∧ Only g w (W'.setCell ⟨g, j, none⟩ (.int .i64 (v.getD j 0 - V * cE c r j)))) := fun W' h1 h2 => by
        refine ⟨(h2.set j (.int .i64 (v.getD j 0 - V * cE c r j))).congr fun k hk => ?_, h1.set _ _⟩
        by_cases e : k = j
        · subst e
          rw [if_pos rfl]
          simp [ovF, HV.out]
        · rw [if_neg e]
          have : (k < j + 1) ↔ (k < j) := by omega
          simp [ovF, this]
      have HRD : Hid (wr.drew.rowIs g 3 n (fun k => .int .i64 (ovF c v r j k))) := HRW.out.of_block rfl
      have HOD : Hid (Only g w wr.drew) := HON.out.drew
      obtain ⟨E, hE⟩ : ∃ E, E = cE c r j := ⟨_, rfl⟩
      rw [← hE] at hcc3 eb HNX
      have hcc2 := HAG.out wr _ _ _ HON.out hcc3
      obtain ⟨y, hy⟩ : ∃ y, y = v.getD j 0 := ⟨_, rfl⟩
      rw [← hy] at x0 vb HNX
      have hmb : -3000000 ≤ V * E ∧ V * E ≤ 3000000 := by
        rcases (show E = -3 ∨ E = -2 ∨ E = -1 ∨ E = 0 ∨ E = 1 ∨ E = 2 ∨ E = 3 by omega) with rfl | rfl | rfl | rfl | rfl | rfl | rfl <;> omega
      have m1 : IntKind.i64.wrap (V * E) = V * E := by rw [IntWalk.i64_left]; exact IntWalk.wrap64_in _ ⟨by omega, by omega⟩
      have m2 : IntKind.i64.wrap (y - V * E) = y - V * E := by rw [IntWalk.i64_left]; exact IntWalk.wrap64_in _ ⟨by omega, by omega⟩
      have jI : (j : Int) < (n : Int) := by omega
      have jI0 : (0 : Int) ≤ (j : Int) := by omega
      obtain ⟨N1, N2⟩ := HNX.out _ HOD.out HRD.out
      have HN1 : Hid _ := N1
      have HN2 : Hid _ := N2
      have hfd : wr.drew.frozen? ⟨g, j, none⟩ = false := hfz
      have xd : wr.drew.cell? ⟨g, j, none⟩ = some (.int .i64 y) := x0
      have HCS : Hid ((wr.drew.setCell ⟨g, j, none⟩ (.int .i64 (y - V * E))).cell? ⟨b1, o1 + r, none⟩ = some (.slice (some ⟨b2, o2, none⟩) n rc) ∧ (wr.drew.setCell ⟨g, j, none⟩ (.int .i64 (y - V * E))).cell? ⟨b2, o2 + j, none⟩ = some (.int .i64 E)) := ⟨HAG.out _ _ _ _ HN2.out hcc0, HAG.out _ _ _ _ HN2.out hcc3⟩
      clear hr1 e0 ee hE hy N1 N2 HNX hcc0 hcc3
      go_wp2
      refine wp_region_held_drew (S := fun w' => w'.cell? ⟨b1, o1 + r, none⟩ = some (.slice (some ⟨b2, o2, none⟩) n rc) ∧ w'.cell? ⟨b2, o2 + j, none⟩ = some (.int .i64 E)) (by kernel_rfl) ⟨hcc, hcc2⟩ (fun hHeld => ?_)
      refine wpAnyH_tk (i := 0) (d := 17) (v := (.slice (some ⟨g, 0, none⟩) n n)) rfl rfl (by kernel_rfl) (by kernel_rfl) (by kernel_rfl) (fun _ _ _ h => h) (.inl ⟨by rfl, by (intro wq hSw; (try dsimp only at hSw); go_simp)⟩) hHeld ?_
      simp only [Act.put, List.setIfInBounds_toArray, List.set_cons_zero, List.set_cons_succ]
      refine wpAnyH_tk (i := 1) (d := 18) (v := (.int .i64 j)) rfl rfl (by kernel_rfl) (by kernel_rfl) (by kernel_rfl) (fun _ _ _ h => h) (.inl ⟨by rfl, by (intro wq hSw; (try dsimp only at hSw); go_simp)⟩) hHeld ?_
      simp only [Act.put, List.setIfInBounds_toArray, List.set_cons_zero, List.set_cons_succ]
      refine wpAnyH_tk (i := 2) (d := 19) (v := (.pointer (some ⟨g, j, none⟩))) rfl rfl (by kernel_rfl) (by kernel_rfl) (by kernel_rfl) (fun _ _ _ h => h) (.inl ⟨by rfl, by (intro wq hSw; (try dsimp only at hSw); go_simp)⟩) hHeld ?_
      simp only [Act.put, List.setIfInBounds_toArray, List.set_cons_zero, List.set_cons_succ]
      refine wpAnyH_tk (i := 4) (d := 21) (v := (.int .i64 V)) rfl rfl (by kernel_rfl) (by kernel_rfl) (by kernel_rfl) (fun _ _ _ h => h) (.inl ⟨by rfl, by (intro wq hSw; (try dsimp only at hSw); go_simp)⟩) hHeld ?_
      simp only [Act.put, List.setIfInBounds_toArray, List.set_cons_zero, List.set_cons_succ]
      refine wpAnyH_tk (i := 5) (d := 22) (v := (.slice (some ⟨b1, o1, none⟩) n cap)) rfl rfl (by kernel_rfl) (by kernel_rfl) (by kernel_rfl) (fun _ _ _ h => h) (.inl ⟨by rfl, by (intro wq hSw; (try dsimp only at hSw); go_simp)⟩) hHeld ?_
      simp only [Act.put, List.setIfInBounds_toArray, List.set_cons_zero, List.set_cons_succ]
      refine wpAnyH_tk (i := 6) (d := 23) (v := (.int .i64 r)) rfl rfl (by kernel_rfl) (by kernel_rfl) (by kernel_rfl) (fun _ _ _ h => h) (.inl ⟨by rfl, by (intro wq hSw; (try dsimp only at hSw); go_simp)⟩) hHeld ?_
      simp only [Act.put, List.setIfInBounds_toArray, List.set_cons_zero, List.set_cons_succ]
      refine wpAnyH_tk (i := 7) (d := 24) (v := (.pointer (some ⟨b1, o1 + r, none⟩))) rfl rfl (by kernel_rfl) (by kernel_rfl) (by kernel_rfl) (fun _ _ _ h => h) (.inl ⟨by rfl, by (intro wq hSw; (try dsimp only at hSw); go_simp)⟩) hHeld ?_
      simp only [Act.put, List.setIfInBounds_toArray, List.set_cons_zero, List.set_cons_succ]
      refine wpAnyH_tk (i := 8) (d := 25) (v := (.slice (some ⟨b2, o2, none⟩) n rc)) rfl rfl (by kernel_rfl) (by kernel_rfl) (by kernel_rfl) (fun _ _ _ h => h) (.inl ⟨by rfl, by (intro wq hSw; (try dsimp only at hSw); go_simp)⟩) hHeld ?_
      simp only [Act.put, List.setIfInBounds_toArray, List.set_cons_zero, List.set_cons_succ]
      refine wpAnyH_tk (i := 9) (d := 26) (v := (.int .i64 j)) rfl rfl (by kernel_rfl) (by kernel_rfl) (by kernel_rfl) (fun _ _ _ h => h) (.inl ⟨by rfl, by (intro wq hSw; (try dsimp only at hSw); go_simp)⟩) hHeld ?_
      simp only [Act.put, List.setIfInBounds_toArray, List.set_cons_zero, List.set_cons_succ]
      refine wpAnyH_tk (i := 10) (d := 27) (v := (.pointer (some ⟨b2, o2 + j, none⟩))) rfl rfl (by kernel_rfl) (by kernel_rfl) (by kernel_rfl) (fun _ _ _ h => h) (.inl ⟨by rfl, by (intro wq hSw; (try dsimp only at hSw); go_simp)⟩) hHeld ?_
      simp only [Act.put, List.setIfInBounds_toArray, List.set_cons_zero, List.set_cons_succ]
      refine wpAnyH_tk (i := 11) (d := 28) (v := (.int .i64 E)) rfl rfl (by kernel_rfl) (by kernel_rfl) (by kernel_rfl) (fun _ _ _ h => h) (.inl ⟨by rfl, by (intro wq hSw; (try dsimp only at hSw); go_simp)⟩) hHeld ?_
      simp only [Act.put, List.setIfInBounds_toArray, List.set_cons_zero, List.set_cons_succ]
      refine wpAnyH_tk (i := 12) (d := 29) (v := (.int .i64 (V * E))) rfl rfl (by kernel_rfl) (by kernel_rfl) (by kernel_rfl) (fun _ _ _ h => h) (.inl ⟨by rfl, by (intro wq hSw; (try dsimp only at hSw); go_simp)⟩) hHeld ?_
      simp only [Act.put, List.setIfInBounds_toArray, List.set_cons_zero, List.set_cons_succ]
      refine wpAnyH_ready (rs := [3]) (by kernel_rfl) (by simp) ?_
      refine ready_tk (i := 3) rfl (by rfl) (fun K hK => ?_) AllReadyH.nil
      go_simp
      refine hK.out _ _ ⟨hcc, hcc2⟩ (fun hHeld => ?_)
      clear hK K
      refine wpAnyH_tk (i := 13) (d := 30) (v := (.int .i64 (y - V * E))) rfl rfl (by kernel_rfl) (by kernel_rfl) (by kernel_rfl) (fun _ _ _ h => h) (.inl ⟨by rfl, by (intro wq hSw; (try dsimp only at hSw); go_simp)⟩) hHeld ?_
      simp only [Act.put, List.setIfInBounds_toArray, List.set_cons_zero, List.set_cons_succ]
      refine wpAnyH_tk (i := 14) (d := 31) (v := (.pointer (some ⟨g, j, none⟩))) rfl rfl (by kernel_rfl) (by kernel_rfl) (by kernel_rfl) (fun _ _ _ h => h) (.inl ⟨by rfl, by (intro wq hSw; (try dsimp only at hSw); go_simp)⟩) hHeld ?_
      simp only [Act.put, List.setIfInBounds_toArray, List.set_cons_zero, List.set_cons_succ]
      refine wpAnyH_ready (rs := [15]) (by kernel_rfl) (by simp) ?_
      refine ready_tk (i := 15) rfl (by rfl) (fun K hK => ?_) AllReadyH.nil
      go_simp
      refine hK.out _ _ HCS.out (fun hHeld => ?_)
      clear hK K
      refine wpAnyH_done (by kernel_rfl) ?_ _
      clear hHeld
      go_wp2
      exact ⟨⟨j + 1, by omega, by go_num, HN1.out, HN2.out⟩, by simp [intOf]; omega⟩
    · have hje : n = j := by omega
      subst hje
      have HFN : Hid (wr.rowIs g 3 n (fun k => .int .i64 ((ovL c v r).getD k 0))) := HRW.out.congr fun k hk => by rw [HEN.out k hk]
      go_wp2
      go_end0
      exact ⟨rfl, HFN.out, HON.out⟩

end Go.Proofs.Ytkpdgpdicafeiaa
