/- facetref.MatroidFrom, branch 0. -/
import Derived.Test.YtkimhomkeneddaaDoorGt7
namespace Go.Proofs.YtkimhomkeneddaaDoor
open Go.RowKit
attribute [local go_sem ↓] Go.wp_at_zero Go.wp_at_succ

set_option maxRecDepth 100000 in
set_option maxHeartbeats 1600000 in
theorem from_0 (n : Nat) (kind : Int) (raw : List Int) (v : Value) (w : World) (hv : Sl w.heap.size 3 w v (ints raw)) (hr : ∀ z ∈ raw, In64 z) (hl : raw.length ≤ 256) (hn1 : 1 ≤ n) (hn : n ≤ 7) (HP0 : Hid (∀ W', Calls Tryd.prog 8 #[.int .i64 kind, .int .i64 3] W' fun e w' => e = .returned (.int .i64 0) ∧ w' = W')) :
    Calls Tryd.prog 10 #[v, .int .i64 0, .int .i64 kind, .int .i64 n] w fun e w' => ∃ N u xs, e = .returned (.agg #[.int .i64 N, u]) ∧ Sl 0 3 w' u (ints xs) ∧ Below w.heap.size w w' := by
  obtain ⟨i3, hi3, hz30, hz31, hz32⟩ := info_parts Tryd.info3
  obtain ⟨i0, hi0, hz0, hz1, hz2⟩ := info_parts infoRow
  obtain ⟨lo, lc, hvv, hlc, hcm⟩ := sl_open hv
  subst hvv
  have HV : Hid (∀ W', Below w.heap.size w W' → Sl w.heap.size 3 W' (.slice lo raw.length lc) (ints raw)) := fun W' h => hv.below h (Nat.le_refl _)
  have HRA : Hid (∀ z ∈ raw, In64 z) := hr
  have HRW : Hid (∀ W' (i : Nat), Below w.heap.size w W' → i ≤ 1000 → Calls Tryd.prog 9 #[.slice lo raw.length lc, .int .i64 i] W' fun e w' => ∃ z, e = .returned (.int .i64 z) ∧ (0 ≤ z ∧ z ≤ 4611686018427387904) ∧ Below W'.heap.size W' w') := fun W' i h hi =>
    raw_any w.heap.size raw _ i W' (HV.out W' h) hr (by omega) (by omega)
  have HPK : Hid (∀ W' z (q : Nat), 0 ≤ z ∧ z ≤ 4611686018427387904 → 1 ≤ q → q ≤ 100 → ∃ a : Nat, a < q ∧ Calls Tryd.prog 8 #[.int .i64 z, .int .i64 q] W' fun e w' => e = .returned (.int .i64 a) ∧ w' = W') := fun W' z q hz hq hq2 => by
    obtain ⟨k1, k2⟩ := pickF_bd (c := z) (n := (q : Int)) (by omega)
    refine ⟨(pickF z q).toNat, by omega, ?_⟩
    rw [Int.toNat_of_nonneg k1]
    exact pick_val z q W' (by omega) (by omega) ⟨by omega, by omega⟩
  obtain ⟨W, hW⟩ : ∃ W, W = w.alloc (.cells #[.int .i64 0, .slice none 0 0] 24) := ⟨_, rfl⟩
  have HBA : Hid (Below w.heap.size w W) := by rw [hW]; exact (Below.refl _ _).alloc (Nat.le_refl _) _
  have HR0 : Hid (W.heap[w.heap.size]? = some (.cells #[.int .i64 0, .slice none 0 0] 24 (0, 0))) := by rw [hW]; exact heap_alloc_new w _
  have HWS : Hid (W.heap.size = w.heap.size + 1) := by rw [hW]; show _ = _; simp
  have HRES : Hid (∀ W', Below W.heap.size W W' → W'.heap[w.heap.size]? = some (.cells #[.int .i64 0, .slice none 0 0] 24 (0, 0)) ∧ Below w.heap.size w W') := fun W' h => ⟨(h.block _ (by rw [HWS.out]; omega)).trans HR0.out, HBA.out.trans (h.mono HBA.out.size)⟩
  clear hv hr
  go_enter Tryd.func10, Tryd.ntmps10
  go_wp2_with fail
  rw [← hW]
  clear hW
  refine (HP0.out W).mono ?_
  rintro e w1 ⟨rfl, hw1⟩
  subst hw1
  obtain ⟨hf, hhf⟩ : ∃ hf : Nat, hf = n / 2 := ⟨_, rfl⟩
  obtain ⟨nd, hnd⟩ : ∃ nd : Nat, nd = 1 + hf := ⟨_, rfl⟩
  have q1 : (n : Int).tdiv 2 = (hf : Int) := by
    rw [Int.tdiv_eq_ediv_of_nonneg (by omega)]; omega
  have q2 : IntKind.i64.wrap (hf : Int) = (hf : Int) := wrap_small (by omega)
  have q3 : IntKind.i64.wrap (1 + (hf : Int)) = (nd : Int) := by
    rw [show (1 + (hf : Int)) = (nd : Int) by omega]; exact wrap_small (by omega)
  have HGE : Hid (Calls Tryd.prog 20 #[.slice lo raw.length lc, .int .i64 0, .int .i64 nd, .int .i64 n] w1 fun e w' => ∃ u, e = .returned u ∧ Edg w'.heap.size w' u n nd ∧ Below w1.heap.size w1 w') := graphEdges_any nd n raw _ w1 ((HV.out w1 HBA.out).more HBA.out.size) HRA.out hl (by omega) (by omega) (by omega) hn1
  have bh : hf ≤ 3 := by omega
  have bn : nd ≤ 4 := by omega
  have bn1 : 1 ≤ nd := by omega
  clear hhf hnd
  go_wp2_with fail
  refine HGE.out.mono ?_
  rintro e w3 ⟨u, rfl, hed, hb3⟩
  have HGO : Hid (Calls Tryd.prog 19 #[.int .i64 nd, u] w3 fun e w' => ∃ u xs, e = .returned (.agg #[.int .i64 n, u]) ∧ Sl 0 3 w' u (ints xs) ∧ Below w3.heap.size w3 w') := graphOf_any nd n u w3 hed (by omega) (by omega)
  have HB3 : Hid (Below w1.heap.size w1 w3) := hb3
  clear hed hb3
  go_wp2_with fail
  refine HGO.out.mono ?_
  rintro e w5 ⟨u2, ys, rfl, hs5, hb5⟩
  obtain ⟨hres, hbw⟩ := HRES.out w5 (HB3.out.trans (hb5.mono HB3.out.size))
  obtain ⟨yo, yc, hyv, _, _⟩ := sl_open hs5
  subst hyv
  obtain ⟨e1, e2⟩ := box_fin (N := n) hres hs5 hbw
  have HBX : Hid _ := e1
  have HSX : Hid _ := e2
  have r0 : w5.cell? ⟨w.heap.size, 0, none⟩ = some (.int .i64 0) := by simp [World.cell?, hres]
  have r1 : w5.cell? ⟨w.heap.size, 1, none⟩ = some (.slice none 0 0) := by simp [World.cell?, hres]
  have rf0 : w5.frozen? ⟨w.heap.size, 0, none⟩ = false := by simp [World.frozen?, hres]
  have rf1 : w5.frozen? ⟨w.heap.size, 1, none⟩ = false := by simp [World.frozen?, hres]
  clear hs5 hb5 hres hbw e1 e2
  go_wp2
  exact bodyPost_ret (v := .agg #[.int .i64 n, .slice yo ys.length yc]) (by simp [results, Tryd.results10, go_sem, *]) rfl ⟨_, _, ys, rfl, HSX.out, HBX.out⟩

end Go.Proofs.YtkimhomkeneddaaDoor
