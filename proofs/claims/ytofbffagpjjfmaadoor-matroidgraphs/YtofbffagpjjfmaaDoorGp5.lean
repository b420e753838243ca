/- matroid.isForest. -/
import Derived.Test.YtofbffagpjjfmaaDoorGp1
import Derived.Test.YtofbffagpjjfmaaDoorAp1
namespace Go.Proofs.YtofbffagpjjfmaaDoor
open Go.RowKit
attribute [local go_sem ↓] Go.wp_at_zero Go.wp_at_succ

/-- Names of the first nodes that were X become Y. -/
def rnT (f : Nat → Nat) (X Y k : Nat) : Nat → Nat := fun v => if v < k then (if f v = X then Y else f v) else f v

theorem rnT_succ (f : Nat → Nat) (X Y k : Nat) : (f k = X → (fun j => if j = k then Y else rnT f X Y k j) = rnT f X Y (k + 1)) ∧ (f k ≠ X → rnT f X Y k = rnT f X Y (k + 1)) := by
  constructor
  · intro h; funext j; unfold rnT
    by_cases c : j = k
    · rw [if_pos c, if_pos (by omega), c, if_pos h]
    · rw [if_neg c]
      by_cases d : j < k
      · have d2 : j < k + 1 := by omega
        simp only [d, d2, if_true]
      · rw [if_neg d, if_neg (by omega)]
  · intro h; funext j; unfold rnT
    by_cases c : j = k
    · rw [if_neg (by omega), if_pos (by omega), c, if_neg h]
    · by_cases d : j < k
      · have d2 : j < k + 1 := by omega
        simp only [d, d2, if_true]
      · rw [if_neg d, if_neg (by omega)]

theorem rnT_at (f : Nat → Nat) (X Y k : Nat) : rnT f X Y k k = f k := by unfold rnT; rw [if_neg (by omega)]

set_option maxRecDepth 100000 in
set_option maxHeartbeats 1600000 in
theorem isForest_any (nodes : Nat) (P : List (Nat × Nat)) (v : Value) (w : World) (he : Eds w.heap.size w v P) (hP : ∀ e ∈ P, e.1 < nodes ∧ e.2 < nodes) (hl : P.length ≤ 1000) (hn : nodes ≤ 16) :
    Calls Tryd.prog 11 #[.int .i64 nodes, v] w fun e w' => e = .returned (.bool (fsB P fun v => v)) ∧ Below w.heap.size w w' := by
  obtain ⟨po, ec, rfl, hec⟩ := he
  have HE : Hid (∀ W', Below w.heap.size w W' → ∀ i, i < P.length → ∃ eb eo, ∃ a b : Nat, P.getD i (0, 0) = (a, b) ∧ po = some ⟨eb, eo, none⟩ ∧ a < nodes ∧ b < nodes ∧ W'.cell? ⟨eb, eo + i * 2, none⟩ = some (.int .i64 a) ∧ W'.cell? ⟨eb, eo + i * 2 + 1, none⟩ = some (.int .i64 b)) := fun W' h i hi => by
    obtain ⟨eb, eo, h1, h2, h3, h4⟩ := hec i hi
    have hm := hP (P.getD i (0, 0)) (by simp [hi])
    exact ⟨eb, eo, _, _, rfl, h1, hm.1, hm.2, (h.cell h2).trans h3, (h.cell h2).trans h4⟩
  have HFA : Hid (fsB P (fun v => v) = true ↔ ∀ t, t < P.length → jns (P.take t) (fun v => v) (P.getD t (0, 0)).1 ≠ jns (P.take t) (fun v => v) (P.getD t (0, 0)).2) := fsB_at P _
  have HJT : Hid (∀ t a b, t < P.length → P.getD t (0, 0) = (a, b) → jns (P.take (t + 1)) (fun v => v) = jn (jns (P.take t) fun v => v) a b) := fun t a b ht h => by
    rw [jns_take _ ht, h]
  have hmk : ∀ w : World, (Instr.makeSlice 25 (.int .i64 (nodes : Int)) (.int .i64 (nodes : Int))).run Tryd.prog w = .ok (.slice (some ⟨w.heap.size, 0, none⟩) nodes nodes) (w.alloc (.cells (madeCells #[.int .i64 0] nodes) 3)) := run_make_row' (P := Tryd.prog) 25 3 (.int .i64 0) 8 Tryd.underlying25 Tryd.info3 rfl .i64 .i64 nodes (by omega) (by omega)
  clear hec hP
  obtain ⟨W1, hW1⟩ : ∃ W1, W1 = w.alloc (.cells (madeCells #[.int .i64 0] nodes) 3) := ⟨_, rfl⟩
  have HR0 : Hid (W1.rowIs w.heap.size 3 nodes (fun _ => .int .i64 0)) := by rw [hW1]; exact World.rowIs_made w (.int .i64 0) nodes 3
  have HBW1 : Hid (Below w.heap.size w W1) := by rw [hW1]; exact (Below.refl _ _).alloc (Nat.le_refl _) _
  have HST : Hid (∀ W' (f : Nat → Nat) (i z : Nat), W'.rowIs w.heap.size 3 nodes (fun i => .int .i64 (f i)) → Below w.heap.size w W' → ((W'.setCell ⟨w.heap.size, i, none⟩ (.int .i64 z)).rowIs w.heap.size 3 nodes (fun j => .int .i64 ((if j = i then z else f j : Nat)))) ∧ Below w.heap.size w (W'.setCell ⟨w.heap.size, i, none⟩ (.int .i64 z))) := fun W' f i z hr hb => by
    refine ⟨(hr.set i (.int .i64 z)).congr fun j _ => ?_, ⟨hb.os, hb.tape, hb.output, by simp only [World.setCell, Array.size_modify]; exact hb.size, fun b hbb => (Below.heap_setCell _ _ _ _ (by show b ≠ w.heap.size; omega)).trans (hb.block b hbb)⟩⟩
    by_cases h : j = i
    · simp [h]
    · simp [h]
  go_enter Tryd.func11, Tryd.ntmps11
  go_wp2
  rw [← hW1]
  clear hW1 hmk
  go_loopw [17] (fun x wr => ∃ k : Nat, k ≤ nodes ∧ x = .int .i64 k ∧ (∃ f : Nat → Nat, (∀ i, i < k → f i = i) ∧ wr.rowIs w.heap.size 3 nodes (fun i => .int .i64 (f i))) ∧ Below w.heap.size w wr) (fun x _ => nodes - (intOf x).toNat)
  case atStart => exact ⟨0, Nat.zero_le _, rfl, ⟨fun _ => 0, fun i hi => by omega, HR0.out⟩, HBW1.out⟩
  case round =>
    obtain ⟨k, hk, rfl, ⟨f, hfi, hrw⟩, hbr⟩ := hrel
    have HFI : Hid (∀ i, i < k → f i = i) := hfi
    have HRW : Hid (wr.rowIs w.heap.size 3 nodes (fun i => .int .i64 (f i))) := hrw
    have HBR : Hid (Below w.heap.size w wr) := hbr
    clear hfi hrw hbr
    by_cases hlt : k < nodes
    · have c1 := HRW.out.cell hlt
      have c2 := HRW.out.frozen k
      have kI : (k : Int) < (nodes : Int) := by omega
      have kI0 : (0 : Int) ≤ (k : Int) := by omega
      have HN := HST.out wr f k k HRW.out HBR.out
      have HN1 : Hid (∃ f : Nat → Nat, (∀ i, i < k + 1 → f i = i) ∧ (wr.setCell ⟨w.heap.size, k, none⟩ (.int .i64 k)).rowIs w.heap.size 3 nodes (fun i => .int .i64 (f i))) := ⟨_, fun i hi => by
        by_cases c : i = k
        · rw [if_pos c, c]
        · rw [if_neg c]; exact HFI.out i (by omega), HN.1⟩
      have HN2 : Hid (Below w.heap.size w (wr.setCell ⟨w.heap.size, k, none⟩ (.int .i64 k))) := HN.2
      clear HN
      go_wp2
      exact ⟨⟨k + 1, by omega, by go_num, HN1.out, HN2.out⟩, by simp [intOf]; omega⟩
    · have hke : nodes = k := by omega
      subst hke
      clear hlt
      have HRI : Hid (wr.rowIs w.heap.size 3 nodes (fun i => .int .i64 (jns (P.take 0) (fun v => v) i : Nat))) := HRW.out.congr fun i hi => by rw [HFI.out i hi]; rfl
      clear HRW HFI
      go_wp2
      go_loopw [27] (fun x wr => ∃ t : Nat, t ≤ P.length ∧ x = .int .i64 t ∧ wr.rowIs w.heap.size 3 nodes (fun i => .int .i64 (jns (P.take t) (fun v => v) i : Nat)) ∧ (∀ s, s < t → jns (P.take s) (fun v => v) (P.getD s (0, 0)).1 ≠ jns (P.take s) (fun v => v) (P.getD s (0, 0)).2) ∧ Below w.heap.size w wr) (fun x _ => P.length - (intOf x).toNat)
      case atStart => exact ⟨0, Nat.zero_le _, rfl, HRI.out, fun s hs => by omega, HBR.out⟩
      case round =>
        obtain ⟨t, ht, rfl, hrw, hall, hbr⟩ := hrel
        have HRT : Hid (wr.rowIs w.heap.size 3 nodes (fun i => .int .i64 (jns (P.take t) (fun v => v) i : Nat))) := hrw
        have HAL : Hid (∀ s, s < t → jns (P.take s) (fun v => v) (P.getD s (0, 0)).1 ≠ jns (P.take s) (fun v => v) (P.getD s (0, 0)).2) := hall
        have HBT : Hid (Below w.heap.size w wr) := hbr
        clear hrw hbr hall HRI HBR
        obtain ⟨wt, rfl⟩ : ∃ wt, wt = wr := ⟨wr, rfl⟩
        by_cases htl : t < P.length
        · obtain ⟨eb, eo, a, b, hgd, hpo, ha, hb, hca, hcb⟩ := HE.out wt HBT.out t htl
          subst hpo
          have HJ1 : Hid (jns (P.take (t + 1)) (fun v => v) = jn (jns (P.take t) fun v => v) a b) := HJT.out t a b htl hgd
          have HA1 : Hid (jns (P.take t) (fun v => v) a ≠ jns (P.take t) (fun v => v) b → ∀ s, s < t + 1 → jns (P.take s) (fun v => v) (P.getD s (0, 0)).1 ≠ jns (P.take s) (fun v => v) (P.getD s (0, 0)).2) := fun h s hs => by
            by_cases c : s = t
            · rw [c, hgd]; exact h
            · exact HAL.out s (by omega)
          have HA0 : Hid (jns (P.take t) (fun v => v) a = jns (P.take t) (fun v => v) b → fsB P (fun v => v) = false) := fun h => by
            cases hc : fsB P (fun v => v)
            · rfl
            · have := HFA.out.1 hc t htl
              rw [hgd] at this
              exact absurd h this
          generalize hf1 : jns (P.take (t + 1)) (fun v => v) = f1 at *
          have HF1 : Hid (jns (P.take (t + 1)) (fun v => v) = f1) := hf1
          clear hf1
          generalize jns (P.take t) (fun v => v) = f at *
          have hbs : w.heap.size ≤ wt.heap.size := HBT.out.size
          have hws : w.heap.size < wt.heap.size := lt_of_cell (HRT.out.cell ha)
          obtain ⟨W2, hW2⟩ : ∃ W2, W2 = wt.alloc (.cells #[.int .i64 a, .int .i64 b] 33) := ⟨_, rfl⟩
          have HR2 : Hid (W2.rowIs w.heap.size 3 nodes (fun i => .int .i64 (f i))) := by rw [hW2]; exact HRT.out.alloc _
          have HB2 : Hid (Below w.heap.size w W2) := by rw [hW2]; exact HBT.out.alloc hbs _
          have pa := HR2.out.cell ha
          have pb := HR2.out.cell hb
          have c8 : W2.cell? ⟨wt.heap.size, 0, none⟩ = some (.int .i64 a) := by rw [hW2]; simp
          have c9 : W2.cell? ⟨wt.heap.size, 1, none⟩ = some (.int .i64 b) := by rw [hW2]; simp
          have tI : (t : Int) < (P.length : Int) := by omega
          have tI0 : (0 : Int) ≤ (t : Int) := by omega
          have aI : (a : Int) < (nodes : Int) := by omega
          have aI0 : (0 : Int) ≤ (a : Int) := by omega
          have bI : (b : Int) < (nodes : Int) := by omega
          have bI0 : (0 : Int) ≤ (b : Int) := by omega
          go_wp2
          rw [← hW2]
          clear hW2
          refine wp_region_held_drew (S := fun w' => w'.cell? ⟨wt.heap.size, 0, none⟩ = some (.int .i64 a) ∧ w'.cell? ⟨wt.heap.size, 1, none⟩ = some (.int .i64 b) ∧ w'.cell? ⟨w.heap.size, a, none⟩ = some (.int .i64 (f a)) ∧ w'.cell? ⟨w.heap.size, b, none⟩ = some (.int .i64 (f b))) (by kernel_rfl) ⟨c8, c9, pa, pb⟩ (fun hHeld => ?_)
          refine wpAnyH_tk (i := 0) (d := 31) (v := (.slice (some ⟨w.heap.size, 0, none⟩) nodes nodes)) rfl rfl (by kernel_rfl) (by kernel_rfl) (by kernel_rfl) (fun _ _ _ h => h) (.inl ⟨by rfl, by (intro wq hSw; (try dsimp only at hSw); go_simp; (try (first | rfl | omega)))⟩) hHeld ?_
          simp only [Act.put, List.setIfInBounds_toArray, List.set_cons_zero, List.set_cons_succ]
          refine wpAnyH_tk (i := 1) (d := 32) (v := (.pointer (some ⟨wt.heap.size, 0, none⟩))) rfl rfl (by kernel_rfl) (by kernel_rfl) (by kernel_rfl) (fun _ _ _ h => h) (.inl ⟨by rfl, by (intro wq hSw; (try dsimp only at hSw); go_simp; (try (first | rfl | omega)))⟩) hHeld ?_
          simp only [Act.put, List.setIfInBounds_toArray, List.set_cons_zero, List.set_cons_succ]
          refine wpAnyH_tk (i := 2) (d := 33) (v := (.int .i64 a)) rfl rfl (by kernel_rfl) (by kernel_rfl) (by kernel_rfl) (fun _ _ _ h => h) (.inl ⟨by rfl, by (intro wq hSw; (try dsimp only at hSw); go_simp; (try (first | rfl | omega)))⟩) hHeld ?_
          simp only [Act.put, List.setIfInBounds_toArray, List.set_cons_zero, List.set_cons_succ]
          refine wpAnyH_tk (i := 3) (d := 34) (v := (.pointer (some ⟨w.heap.size, a, none⟩))) rfl rfl (by kernel_rfl) (by kernel_rfl) (by kernel_rfl) (fun _ _ _ h => h) (.inl ⟨by rfl, by (intro wq hSw; (try dsimp only at hSw); go_simp; (try (first | rfl | omega)))⟩) hHeld ?_
          simp only [Act.put, List.setIfInBounds_toArray, List.set_cons_zero, List.set_cons_succ]
          refine wpAnyH_tk (i := 4) (d := 35) (v := (.int .i64 (f a))) rfl rfl (by kernel_rfl) (by kernel_rfl) (by kernel_rfl) (fun _ _ _ h => h) (.inl ⟨by rfl, by (intro wq hSw; (try dsimp only at hSw); go_simp; (try (first | rfl | omega)))⟩) hHeld ?_
          simp only [Act.put, List.setIfInBounds_toArray, List.set_cons_zero, List.set_cons_succ]
          refine wpAnyH_tk (i := 5) (d := 36) (v := (.slice (some ⟨w.heap.size, 0, none⟩) nodes nodes)) rfl rfl (by kernel_rfl) (by kernel_rfl) (by kernel_rfl) (fun _ _ _ h => h) (.inl ⟨by rfl, by (intro wq hSw; (try dsimp only at hSw); go_simp; (try (first | rfl | omega)))⟩) hHeld ?_
          simp only [Act.put, List.setIfInBounds_toArray, List.set_cons_zero, List.set_cons_succ]
          refine wpAnyH_tk (i := 6) (d := 37) (v := (.pointer (some ⟨wt.heap.size, 1, none⟩))) rfl rfl (by kernel_rfl) (by kernel_rfl) (by kernel_rfl) (fun _ _ _ h => h) (.inl ⟨by rfl, by (intro wq hSw; (try dsimp only at hSw); go_simp; (try (first | rfl | omega)))⟩) hHeld ?_
          simp only [Act.put, List.setIfInBounds_toArray, List.set_cons_zero, List.set_cons_succ]
          refine wpAnyH_tk (i := 7) (d := 38) (v := (.int .i64 b)) rfl rfl (by kernel_rfl) (by kernel_rfl) (by kernel_rfl) (fun _ _ _ h => h) (.inl ⟨by rfl, by (intro wq hSw; (try dsimp only at hSw); go_simp; (try (first | rfl | omega)))⟩) hHeld ?_
          simp only [Act.put, List.setIfInBounds_toArray, List.set_cons_zero, List.set_cons_succ]
          refine wpAnyH_tk (i := 8) (d := 39) (v := (.pointer (some ⟨w.heap.size, b, none⟩))) rfl rfl (by kernel_rfl) (by kernel_rfl) (by kernel_rfl) (fun _ _ _ h => h) (.inl ⟨by rfl, by (intro wq hSw; (try dsimp only at hSw); go_simp; (try (first | rfl | omega)))⟩) hHeld ?_
          simp only [Act.put, List.setIfInBounds_toArray, List.set_cons_zero, List.set_cons_succ]
          refine wpAnyH_tk (i := 9) (d := 40) (v := (.int .i64 (f b))) rfl rfl (by kernel_rfl) (by kernel_rfl) (by kernel_rfl) (fun _ _ _ h => h) (.inl ⟨by rfl, by (intro wq hSw; (try dsimp only at hSw); go_simp; (try (first | rfl | omega)))⟩) hHeld ?_
          simp only [Act.put, List.setIfInBounds_toArray, List.set_cons_zero, List.set_cons_succ]
          refine wpAnyH_tk (i := 10) (d := 9) (v := (.int .i64 (f a))) rfl rfl (by kernel_rfl) (by kernel_rfl) (by kernel_rfl) (fun _ _ _ h => h) (.inl ⟨by rfl, by (intro wq hSw; (try dsimp only at hSw); go_simp; (try (first | rfl | omega)))⟩) hHeld ?_
          simp only [Act.put, List.setIfInBounds_toArray, List.set_cons_zero, List.set_cons_succ]
          refine wpAnyH_tk (i := 11) (d := 10) (v := (.int .i64 (f b))) rfl rfl (by kernel_rfl) (by kernel_rfl) (by kernel_rfl) (fun _ _ _ h => h) (.inl ⟨by rfl, by (intro wq hSw; (try dsimp only at hSw); go_simp; (try (first | rfl | omega)))⟩) hHeld ?_
          simp only [Act.put, List.setIfInBounds_toArray, List.set_cons_zero, List.set_cons_succ]
          refine wpAnyH_done (by kernel_rfl) ?_ _
          clear hHeld
          by_cases hXY : f a = f b
          · have t1 : ((f a : Int) == (f b : Int)) = true := by rw [hXY]; simp
            have HRS : Hid (fsB P (fun v => v) = false) := HA0.out hXY
            go_wp2
            go_ret
            exact ⟨by rw [HRS.out]; rfl, ⟨HB2.out.os, HB2.out.tape, HB2.out.output, HB2.out.size, HB2.out.block⟩⟩
          · have t1 : ((f a : Int) == (f b : Int)) = false := by rw [beq_eq_false_iff_ne]; omega
            have HRD : Hid (W2.drew.rowIs w.heap.size 3 nodes (fun i => .int .i64 (rnT f (f a) (f b) 0 i : Nat))) := HR2.out.congr fun i _ => by simp [rnT]
            have HBD : Hid (Below w.heap.size w W2.drew) := ⟨HB2.out.os, HB2.out.tape, HB2.out.output, HB2.out.size, HB2.out.block⟩
            have HRE : Hid (∀ W' : World, W'.rowIs w.heap.size 3 nodes (fun i => .int .i64 (rnT f (f a) (f b) nodes i : Nat)) → W'.rowIs w.heap.size 3 nodes (fun i => .int .i64 (f1 i : Nat))) := fun W' h => h.congr fun i hi => by
              rw [HJ1.out]; simp [rnT, jn, hi]
            have HA1' := HA1.out hXY
            have HA2 : Hid _ := HA1'
            clear HA1 HA1' HA0 HJ1 HR2 HB2 HRT pa pb c8 c9
            have HSC : Hid (∀ k, (f k = f a → (fun j => if j = k then f b else rnT f (f a) (f b) k j) = rnT f (f a) (f b) (k + 1)) ∧ (f k ≠ f a → rnT f (f a) (f b) k = rnT f (f a) (f b) (k + 1))) := rnT_succ f (f a) (f b)
            have HAT : Hid (∀ k, rnT f (f a) (f b) k k = f k) := rnT_at f (f a) (f b)
            generalize f a = X at *
            generalize f b = Y at *
            go_wp2
            go_loopw [46] (fun x wr => ∃ k : Nat, k ≤ nodes ∧ x = .int .i64 k ∧ wr.rowIs w.heap.size 3 nodes (fun i => .int .i64 (rnT f X Y k i : Nat)) ∧ Below w.heap.size w wr) (fun x _ => nodes - (intOf x).toNat)
            case atStart => exact ⟨0, Nat.zero_le _, rfl, HRD.out, HBD.out⟩
            case round =>
              obtain ⟨k, hk, rfl, hrw, hbr⟩ := hrel
              have HRK : Hid (wr.rowIs w.heap.size 3 nodes (fun i => .int .i64 (rnT f X Y k i : Nat))) := hrw
              have HBK : Hid (Below w.heap.size w wr) := hbr
              clear hrw hbr
              by_cases hlt : k < nodes
              · have c1 := HRK.out.cell hlt
                rw [HAT.out k] at c1
                have c2 := HRK.out.frozen k
                have kI : (k : Int) < (nodes : Int) := by omega
                have kI0 : (0 : Int) ≤ (k : Int) := by omega
                have HN := HST.out wr (rnT f X Y k) k Y HRK.out HBK.out
                have HSK := HSC.out k
                by_cases hfx : f k = X
                · have t2 : ((f k : Int) == (X : Int)) = true := by rw [hfx]; simp
                  have HN1 : Hid ((wr.setCell ⟨w.heap.size, k, none⟩ (.int .i64 Y)).rowIs w.heap.size 3 nodes (fun i => .int .i64 (rnT f X Y (k + 1) i : Nat))) := by
                    have h := HN.1
                    show World.rowIs _ _ _ _ _
                    rw [← HSK.1 hfx]; exact h
                  have HN2 : Hid (Below w.heap.size w (wr.setCell ⟨w.heap.size, k, none⟩ (.int .i64 Y))) := HN.2
                  clear HN HSK hfx
                  generalize f k = fk at *
                  go_wp2
                  exact ⟨⟨k + 1, by omega, by go_num, HN1.out, HN2.out⟩, by simp [intOf]; omega⟩
                · have t2 : ((f k : Int) == (X : Int)) = false := by rw [beq_eq_false_iff_ne]; omega
                  have HN1 : Hid (wr.rowIs w.heap.size 3 nodes (fun i => .int .i64 (rnT f X Y (k + 1) i : Nat))) := by
                    show World.rowIs _ _ _ _ _
                    rw [← HSK.2 hfx]; exact HRK.out
                  clear HN HSK hfx
                  generalize f k = fk at *
                  go_wp2
                  exact ⟨⟨k + 1, by omega, by go_num, HN1.out, HBK.out⟩, by simp [intOf]; omega⟩
              · have hke : nodes = k := by omega
                subst hke
                have HF := HRE.out wr HRK.out
                have HF2 : Hid _ := HF
                clear HF
                go_wp2
                exact ⟨⟨t + 1, by omega, by go_num, by rw [HF1.out]; exact HF2.out, HA2.out, HBK.out⟩, by simp [intOf]; omega⟩
        · have hte : t = P.length := by omega
          subst hte
          have HRS : Hid (fsB P (fun v => v) = true) := HFA.out.2 HAL.out
          go_wp2
          go_ret
          exact ⟨by rw [HRS.out]; rfl, HBT.out⟩

end Go.Proofs.YtofbffagpjjfmaaDoor
