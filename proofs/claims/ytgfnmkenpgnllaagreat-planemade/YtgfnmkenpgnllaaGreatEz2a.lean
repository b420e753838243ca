/- facetref.drop: a list without its k-th number. -/
import Derived.Test.YtgfnmkenpgnllaaGreatEz1
import Derived.Test.YtgfnmkenpgnllaaGreatEm0
import Derived.Test.YtgfnmkenpgnllaaGreatAp1
import Derived.Test.YtgfnmkenpgnllaaGreatRefs
import Derived.Deep.DeepCutAuto
namespace Go.Proofs.YtgfnmkenpgnllaaGreat
open Go.RowKit
attribute [local go_sem ↓] Go.wp_at_zero Go.wp_at_succ

theorem run_tailE {b o n c k : Nat} (h1 : k + 1 < n) (h2 : n ≤ c) (w : World) : (Instr.slice 22 (.slice (some ⟨b, o, none⟩) n c) (some (.int .i64 ((k : Int) + 1))) none none).run Tryz.prog w = .ok (.slice (some ⟨b, o + (k + 1), none⟩) (n - (k + 1)) (c - (k + 1))) w := by
  have e1 : (0 : Int) ≤ (k : Int) + 1 ∧ (k : Int) + 1 ≤ (n : Int) := by omega
  have e2 : ((k : Int) + 1).toNat = k + 1 := by omega
  have e3 : ¬ c = k + 1 := by omega
  have hz : ∀ w, (Go.sizeOf 3).run Tryz.prog w = .ok 1 w := fun w => by kernel_rfl
  simp [Instr.slice, Instr.sliceBounds, Instr.sliceBound, run_underlying Tryz.underlying22, asIntOf, e1, e2, e3, hz, Addr.add, go_sem]

theorem Sl.tailE {B : Nat} {w : World} {b o n c j : Nat} {zs : List Int} (h : Sl B 3 w (.slice (some ⟨b, o, none⟩) n c) (ints zs)) (hj : j ≤ n) : Sl B 3 w (.slice (some ⟨b, o + j, none⟩) (n - j) (c - j)) (ints (zs.drop j)) := by
  obtain ⟨ao, cap, hv, h1, h2, h3, h4⟩ := h
  simp only [Value.slice.injEq, ints_length] at hv h1
  obtain ⟨rfl, hn, rfl⟩ := hv
  refine ⟨some ⟨b, o + j, none⟩, c - j, by simp [hn], by simp; omega, by omega, fun i hi => ?_, fun h => by cases h⟩
  have hi' : i < zs.length - j := by simpa using hi
  obtain ⟨b', o', ha, hc, ht⟩ := h3 (j + i) (by simp; omega)
  simp only [Option.some.injEq, Addr.mk.injEq] at ha
  obtain ⟨rfl, rfl, _⟩ := ha
  refine ⟨b, o + j, rfl, ?_, ht⟩
  rw [show o + j + i = o + (j + i) by omega, hc, ints_get _ _ (by omega), ints_get _ _ (by simp; omega)]
  simp [show j + i < zs.length by omega]

theorem sl_cellsE {B : Nat} {e : TypeId} {w : World} {a : Addr} {n cap : Nat} {xs : List Value} (h : Sl B e w (.slice (some a) n cap) xs) : ∀ j u, xs[j]? = some u → w.cell? (a.add j) = some u := by
  intro j u hj
  have hlt := (List.getElem?_eq_some_iff.1 hj).1
  obtain ⟨ao, c, hv, h1, h2, h3, h4⟩ := h
  simp only [Value.slice.injEq] at hv
  obtain ⟨rfl, _, rfl⟩ := hv
  obtain ⟨b, o, ha, hc, _⟩ := h3 j hlt
  cases ha
  rw [hj] at hc
  by_cases ej : j = 0
  · subst ej; simpa [Addr.add] using hc
  · simpa [Addr.add, ej] using hc

set_option maxRecDepth 100000 in
set_option maxHeartbeats 1600000 in
theorem dropE_own (k : Nat) (r : List Int) (v : Value) (w : World) (hv : Sl 0 3 w v (ints r)) (hk : k + 1 < r.length) (hn : r.length ≤ 10) :
    Calls Tryz.prog 73 #[v, .int .i64 k] w fun e w' => ∃ u, e = .returned u ∧ w'.ownsRow w.heap.size 3 1 u (r.length - 1) (ints (drE r k)) ∧ Below w.heap.size w w' := by
  obtain ⟨i3, hi3, hz30, hz31, hz32⟩ := info_parts Tryz.info3
  obtain ⟨b, o, c, hvv, hc1, _⟩ := sl_cell hv (k := k) (by omega)
  subst hvv
  obtain ⟨n, hnn⟩ : ∃ n, n = r.length := ⟨_, rfl⟩
  rw [← hnn] at hv hc1 hk hn ⊢
  have HT : ∀ w, (Instr.slice 22 (.slice (some ⟨b, o, none⟩) n c) (some (.int .i64 ((k : Int) + 1))) none none).run Tryz.prog w = .ok (.slice (some ⟨b, o + (k + 1), none⟩) (n - (k + 1)) (c - (k + 1))) w := fun w => run_tailE (by omega) hc1 w
  have HCP : Hid (Calls Tryz.prog 27 #[.slice (some ⟨b, o, none⟩) k c] w.drew fun e w' => ∃ uo uc, e = .returned (.slice uo k uc) ∧ w'.ownsRow w.heap.size 3 1 (.slice uo k uc) k (ints (r.take k)) ∧ Below w.heap.size w w') := by
    have hv' := hv
    rw [hnn] at hv'
    have h1 : Sl 0 3 w (.slice (some ⟨b, o, none⟩) k c) (ints (r.take k)) := Sl.takeE hv' (by omega)
    refine (copy_any 0 (r.take k) _ w.drew (h1.drewN 1) (by simp; omega)).mono ?_
    rintro e w' ⟨u, rfl, ho, hb⟩
    have e1 : (r.take k).length = k := by rw [List.length_take]; omega
    rw [e1] at ho
    obtain ⟨uo, uc, rfl⟩ := owns_form ho
    exact ⟨uo, uc, rfl, ho, ((Below.refl _ _).drew (B := w.heap.size)).trans hb⟩
  have HTL : Hid (∀ W, Below w.heap.size w W → ∀ j u, (ints (r.drop (k + 1)))[j]? = some u → W.cell? ((⟨b, o + (k + 1), none⟩ : Addr).add j) = some u) := fun W hb => sl_cellsE ((Sl.tailE (j := k + 1) hv (by omega)).below hb (Nat.le_refl _))
  have HEND : Hid (ints (r.take k) ++ ints (r.drop (k + 1)) = ints (drE r k)) := by show _ = _; unfold drE; simp [ints]
  have HLD : Hid ((ints (r.drop (k + 1))).length = (n - (k + 1)) * 1) := by show _ = _; simp [ints, ← hnn]
  have hk0 : (0 : Int) ≤ (k : Int) := by omega
  have hkc : (k : Int) ≤ (c : Int) := by omega
  have hkcN : k ≤ c := by omega
  have hw1 : IntKind.i64.wrap ((k : Int) + 1) = (k : Int) + 1 := by rw [IntKind.wrap_i64]; omega
  have hw2 : wrap64 ((k : Int) + 1) = (k : Int) + 1 := IntWalk.wrap64_in _ ⟨by omega, by omega⟩
  have HN1 : Hid (k + (n - (k + 1)) = n - 1) := by show _ = _; omega
  have HN10 : Hid (n ≤ 10 ∧ k + 1 < n) := ⟨hn, hk⟩
  clear hv hnn
  go_enter Tryz.func73, Tryz.ntmps73
  go_upto_region 1 with fail
  refine wp_region_held_drew (S := fun _ => True) (by kernel_rfl) trivial (fun hHeld => ?_)
  refine wpAnyH_tk (i := 0) (d := 5) (v := .slice (some ⟨b, o, none⟩) n c) rfl rfl (by kernel_rfl) (by kernel_rfl) (by kernel_rfl) (fun _ _ _ h => h) (.inl ⟨by rfl, by (intro wq hSw; (try dsimp only at hSw); go_simp; (try (first | rfl | omega)))⟩) hHeld ?_
  simp only [Act.put, List.setIfInBounds_toArray, List.set_cons_zero, List.set_cons_succ]
  refine wpAnyH_tk (i := 1) (d := 6) (v := .int .i64 k) rfl rfl (by kernel_rfl) (by kernel_rfl) (by kernel_rfl) (fun _ _ _ h => h) (.inl ⟨by rfl, by (intro wq hSw; (try dsimp only at hSw); go_simp; (try (first | rfl | omega)))⟩) hHeld ?_
  simp only [Act.put, List.setIfInBounds_toArray, List.set_cons_zero, List.set_cons_succ]
  refine wpAnyH_tk (i := 2) (d := 7) (v := .slice (some ⟨b, o, none⟩) k c) rfl rfl (by kernel_rfl) (by kernel_rfl) (by kernel_rfl) (fun _ _ _ h => h) (.inl ⟨by rfl, by (intro wq hSw; (try dsimp only at hSw); go_simp; (try (first | rfl | omega)))⟩) hHeld ?_
  simp only [Act.put, List.setIfInBounds_toArray, List.set_cons_zero, List.set_cons_succ]
  refine wpAnyH_tk (i := 4) (d := 9) (v := .slice (some ⟨b, o, none⟩) n c) rfl rfl (by kernel_rfl) (by kernel_rfl) (by kernel_rfl) (fun _ _ _ h => h) (.inl ⟨by rfl, by (intro wq hSw; (try dsimp only at hSw); go_simp; (try (first | rfl | omega)))⟩) hHeld ?_
  simp only [Act.put, List.setIfInBounds_toArray, List.set_cons_zero, List.set_cons_succ]
  refine wpAnyH_tk (i := 5) (d := 10) (v := .int .i64 k) rfl rfl (by kernel_rfl) (by kernel_rfl) (by kernel_rfl) (fun _ _ _ h => h) (.inl ⟨by rfl, by (intro wq hSw; (try dsimp only at hSw); go_simp; (try (first | rfl | omega)))⟩) hHeld ?_
  simp only [Act.put, List.setIfInBounds_toArray, List.set_cons_zero, List.set_cons_succ]
  refine wpAnyH_tk (i := 6) (d := 11) (v := .int .i64 ((k : Int) + 1)) rfl rfl (by kernel_rfl) (by kernel_rfl) (by kernel_rfl) (fun _ _ _ h => h) (.inl ⟨by rfl, by (intro wq hSw; (try dsimp only at hSw); go_simp; (try (first | rfl | omega)))⟩) hHeld ?_
  simp only [Act.put, List.setIfInBounds_toArray, List.set_cons_zero, List.set_cons_succ]
  refine wpAnyH_tk (i := 7) (d := 12) (v := .slice (some ⟨b, o + (k + 1), none⟩) (n - (k + 1)) (c - (k + 1))) rfl rfl (by kernel_rfl) (by kernel_rfl) (by kernel_rfl) (fun _ _ _ h => h) (.inl ⟨by rfl, by (intro wq hSw; (try dsimp only at hSw); go_simp; (try (first | rfl | omega)))⟩) hHeld ?_
  simp only [Act.put, List.setIfInBounds_toArray, List.set_cons_zero, List.set_cons_succ]
  refine wpAnyH_ready (rs := [3]) (by kernel_rfl) (by simp) ?_
  refine ready_tk (i := 3) rfl (by rfl) (fun K hK => ?_) AllReadyH.nil
  go_simp
  refine HCP.out.mono ?_
  rintro e w6 ⟨uo, uc, rfl, ho6, hb6⟩
  refine hK.out _ _ trivial (fun hHeld => ?_)
  clear hK K
  have HO6 : Hid (w6.ownsRow w.heap.size 3 1 (.slice uo k uc) k (ints (r.take k))) := ho6
  have HB6 : Hid (Below w.heap.size w w6) := hb6
  have HC6 : Hid (∀ j u, (ints (r.drop (k + 1)))[j]? = some u → w6.cell? ((⟨b, o + (k + 1), none⟩ : Addr).add j) = some u) := HTL.out w6 hb6
  clear ho6 hb6
  refine wpAnyH_ready (rs := [8]) (by kernel_rfl) (by simp) ?_
  refine ready_tk (i := 8) rfl (by rfl) (fun K hK => ?_) AllReadyH.nil
  refine op_append_ownA (.tmp 8) (.tmp 12) 22 (by rfl) w.heap.size 3 i3 (.int .i64 0) 1 8 Tryz.underlying22 hi3 hz30 hz31 hz32 rfl (by decide) _ _ _ (by rfl) HO6.out ⟨b, o + (k + 1), none⟩ (n - (k + 1)) (c - (k + 1)) (ints (r.drop (k + 1))) (by rfl) HLD.out HC6.out (ints_oneCell' _) (by unfold maxLen; omega) (by omega) HB6.out.size ?_
  intro v' w7 ho7 hg7 _
  rw [HN1.out, HEND.out] at ho7
  refine hK.out _ _ trivial (fun hHeld => ?_)
  clear hK K
  simp only [Act.put, List.setIfInBounds_toArray, List.set_cons_zero, List.set_cons_succ]
  obtain ⟨vo, vc, hvv⟩ := owns_form ho7
  subst hvv
  have HO7 : Hid (w7.ownsRow w.heap.size 3 1 (.slice vo (n - 1) vc) (n - 1) (ints (drE r k))) := ho7
  have HB7 : Hid (Below w.heap.size w w7) := HB6.out.grown hg7 HB6.out.size (fun x hx => (HO6.out.lt x hx).1)
  clear ho7 hg7
  refine wpAnyH_tk (i := 9) (d := 4) (v := .slice vo (n - 1) vc) rfl rfl (by kernel_rfl) (by kernel_rfl) (by kernel_rfl) (fun _ _ _ h => h) (.inl ⟨by rfl, by (intro wq hSw; (try dsimp only at hSw); go_simp; (try (first | rfl | omega)))⟩) hHeld ?_
  simp only [Act.put, List.setIfInBounds_toArray, List.set_cons_zero, List.set_cons_succ]
  refine wpAnyH_done (by kernel_rfl) ?_ _
  clear hHeld
  go_wp2
  go_ret
  exact ⟨_, rfl, HO7.out, HB7.out⟩
end Go.Proofs.YtgfnmkenpgnllaaGreat
