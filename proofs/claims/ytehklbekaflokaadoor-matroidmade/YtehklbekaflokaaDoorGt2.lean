/- facetref.around: it comes to its end. -/
import Derived.Test.YtehklbekaflokaaDoorGt1
import Derived.Test.YtehklbekaflokaaDoorMt9a
import Derived.Deep.OwnRows
namespace Go.Proofs.YtehklbekaflokaaDoor
open Go.RowKit
attribute [local go_sem ↓] Go.wp_at_zero Go.wp_at_succ

/-- A list of edges between so many nodes. -/
def Edg (B : Nat) (w : World) (v : Value) (m nodes : Nat) : Prop :=
  ∃ eb eo ec, v = .slice (some ⟨eb, eo, none⟩) m ec ∧ eb < B ∧ B ≤ w.heap.size ∧ ∀ i, i < m → ∃ a b : Nat, a < nodes ∧ b < nodes ∧ w.cell? ⟨eb, eo + i * 2, none⟩ = some (.int .i64 a) ∧ w.cell? ⟨eb, eo + i * 2 + 1, none⟩ = some (.int .i64 b)

set_option maxRecDepth 100000 in
set_option maxHeartbeats 1600000 in
theorem around_any (nodes m s : Nat) (v : Value) (w : World) (he : Edg w.heap.size w v m nodes) (hs : s < 2 ^ m) (hm : m ≤ 8) (hn : nodes ≤ 8) :
    Calls Tryd.prog 60 #[.int .i64 nodes, v, .int .i64 s] w fun e w' => ∃ b, e = .returned (.bool b) ∧ Below w.heap.size w w' := by
  obtain ⟨eb, eo, ec, rfl, heb, _, hec⟩ := he
  have hs8 : s < 256 := Nat.lt_of_lt_of_le hs (show 2 ^ m ≤ 2 ^ 8 from Nat.pow_le_pow_right (by omega) hm)
  have HM : Hid (Calls Tryd.prog 24 #[.int .i64 s] w fun e w' => ∃ uo uc, e = .returned (.slice uo (mem8 s).length uc) ∧ Sl 0 3 w' (.slice uo (mem8 s).length uc) (ints (mem8 s)) ∧ Below w.heap.size w w') := (members8_any s w hs8).mono (by
    rintro e w' ⟨u, rfl, h1, h2⟩
    obtain ⟨uo, uc, rfl⟩ := owns_form h1
    exact ⟨uo, uc, rfl, Sl.own h1, h2⟩)
  have HI : Hid (∀ z ∈ mem8 s, ∃ i : Nat, z = (i : Int) ∧ i < m) := fun z hz => by
    obtain ⟨i, _, h2, rfl⟩ := mem8_iff.1 hz
    exact ⟨i, rfl, bit_lt hs h2⟩
  have HE : Hid (∀ W', Below w.heap.size w W' → ∀ i, i < m → ∃ a b : Nat, a < nodes ∧ b < nodes ∧ W'.cell? ⟨eb, eo + i * 2, none⟩ = some (.int .i64 a) ∧ W'.cell? ⟨eb, eo + i * 2 + 1, none⟩ = some (.int .i64 b)) := fun W' h i hi => by
    obtain ⟨a, b, h1, h2, h3, h4⟩ := hec i hi
    exact ⟨a, b, h1, h2, (h.cell (lt_of_cell h3)).trans h3, (h.cell (lt_of_cell h4)).trans h4⟩
  have hml := mem8_len s
  generalize mem8 s = M at *
  have hmk : ∀ w : World, (Instr.makeSlice 22 (.int .i64 (nodes : Int)) (.int .i64 (nodes : Int))).run Tryd.prog w = .ok (.slice (some ⟨w.heap.size, 0, none⟩) nodes nodes) (w.alloc (.cells (madeCells #[.int .i64 0] nodes) 3)) := run_make_row' (P := Tryd.prog) 22 3 (.int .i64 0) 8 Tryd.underlying22 Tryd.info3 rfl .i64 .i64 nodes (by omega) (by omega)
  clear hec hs hs8
  go_enter Tryd.func60, Tryd.ntmps60
  go_wp2_with fail
  refine HM.out.mono ?_
  rintro e w1 ⟨mo, mc, rfl, hs1, hb1⟩
  have HB1 : Hid (Below w.heap.size w w1) := hb1
  have HS1 : Hid (Sl 0 3 w1 (.slice mo M.length mc) (ints M)) := hs1
  clear hs1 hb1 HM
  obtain ⟨W1, hW1⟩ : ∃ W1, W1 = w1.alloc (.cells (madeCells #[.int .i64 0] nodes) 3) := ⟨_, rfl⟩
  have HR0 : Hid (W1.rowIs w1.heap.size 3 nodes (fun _ => .int .i64 0)) := by rw [hW1]; exact World.rowIs_made w1 (.int .i64 0) nodes 3
  have HBW1 : Hid (Below w1.heap.size w1 W1) := by rw [hW1]; exact (Below.refl _ _).alloc (Nat.le_refl _) _
  have HKP : Hid (∀ W', Below w1.heap.size w1 W' → Sl 0 3 W' (.slice mo M.length mc) (ints M) ∧ Below w.heap.size w W') := fun W' h => ⟨HS1.out.below h (Nat.le_refl _), HB1.out.trans (h.mono HB1.out.size)⟩
  have HST : Hid (∀ W' (f : Nat → Int) (i : Nat) (z : Int), W'.rowIs w1.heap.size 3 nodes (fun i => .int .i64 (f i)) → Below w1.heap.size w1 W' → (∃ f : Nat → Int, (W'.setCell ⟨w1.heap.size, i, none⟩ (.int .i64 z)).rowIs w1.heap.size 3 nodes (fun i => .int .i64 (f i))) ∧ Below w1.heap.size w1 (W'.setCell ⟨w1.heap.size, i, none⟩ (.int .i64 z))) := fun W' f i z hr hb => by
    refine ⟨⟨fun j => if j = i then z else f j, (hr.set i (.int .i64 z)).congr fun j _ => ?_⟩, ⟨hb.os, hb.tape, hb.output, by simp only [World.setCell, Array.size_modify]; exact hb.size, fun b hbb => (Below.heap_setCell _ _ _ _ (by show b ≠ w1.heap.size; omega)).trans (hb.block b hbb)⟩⟩
    by_cases h : j = i
    · simp [h]
    · simp [h]
  go_wp2
  rw [← hW1]
  clear hW1 hmk
  go_loopw [9] (fun x wr => ∃ k : Nat, k ≤ nodes ∧ x = .int .i64 k ∧ (∃ f : Nat → Int, wr.rowIs w1.heap.size 3 nodes (fun i => .int .i64 (f i))) ∧ Below w1.heap.size w1 wr) (fun x _ => nodes - (intOf x).toNat)
  case atStart => exact ⟨0, Nat.zero_le _, rfl, ⟨fun _ => 0, HR0.out⟩, HBW1.out⟩
  case round =>
    obtain ⟨k, hk, rfl, ⟨f, hrw⟩, hbr⟩ := hrel
    have HRW : Hid (wr.rowIs w1.heap.size 3 nodes (fun i => .int .i64 (f i))) := hrw
    have HBR : Hid (Below w1.heap.size w1 wr) := hbr
    clear hrw hbr
    by_cases hlt : k < nodes
    · have c1 := HRW.out.cell hlt
      have c2 := HRW.out.frozen k
      have kI : (k : Int) < (nodes : Int) := by omega
      have kI0 : (0 : Int) ≤ (k : Int) := by omega
      have HN := HST.out wr f k k HRW.out HBR.out
      have HN1 : Hid _ := HN.1
      have HN2 : Hid (Below w1.heap.size w1 (wr.setCell ⟨w1.heap.size, k, none⟩ (.int .i64 k))) := HN.2
      clear HN
      go_wp2
      exact ⟨⟨k + 1, by omega, by go_num, HN1.out, HN2.out⟩, by simp [intOf]; omega⟩
    · have hke : nodes = k := by omega
      subst hke
      clear hlt
      go_wp2
      go_loopw [10] (fun x wr => ∃ k : Nat, k ≤ nodes ∧ x = .int .i64 k ∧ (∃ f : Nat → Int, wr.rowIs w1.heap.size 3 nodes (fun i => .int .i64 (f i))) ∧ Below w1.heap.size w1 wr) (fun x _ => nodes - (intOf x).toNat)
      case atStart => exact ⟨0, Nat.zero_le _, rfl, ⟨f, HRW.out⟩, HBR.out⟩
      case round =>
        obtain ⟨k, hk, rfl, ⟨f, hrw⟩, hbr⟩ := hrel
        have HRK : Hid (wr.rowIs w1.heap.size 3 nodes (fun i => .int .i64 (f i))) := hrw
        have HBK : Hid (Below w1.heap.size w1 wr) := hbr
        clear hrw hbr HRW HBR
        obtain ⟨wk, rfl⟩ : ∃ wk, wk = wr := ⟨wr, rfl⟩
        by_cases hlt : k < nodes
        · have kI : (k : Int) < (nodes : Int) := by omega
          go_wp2
          go_loopw [11] (fun x wr => ∃ t : Nat, t ≤ M.length ∧ x = .int .i64 t ∧ (∃ f : Nat → Int, wr.rowIs w1.heap.size 3 nodes (fun i => .int .i64 (f i))) ∧ Below w1.heap.size w1 wr) (fun x _ => M.length - (intOf x).toNat)
          case atStart => exact ⟨0, Nat.zero_le _, rfl, ⟨f, HRK.out⟩, HBK.out⟩
          case round =>
            obtain ⟨t, ht, rfl, ⟨f, hrw⟩, hbr⟩ := hrel
            have HRT : Hid (wr.rowIs w1.heap.size 3 nodes (fun i => .int .i64 (f i))) := hrw
            have HBT : Hid (Below w1.heap.size w1 wr) := hbr
            clear hrw hbr HRK HBK
            obtain ⟨wt, rfl⟩ : ∃ wt, wt = wr := ⟨wr, rfl⟩
            by_cases htl : t < M.length
            · obtain ⟨mb, mq, _, hs, _, hcm⟩ := sl_cell (HKP.out wt HBT.out).1 htl
              simp only [Value.slice.injEq] at hs
              obtain ⟨rfl, -, -⟩ := hs
              obtain ⟨x, hx, hxm⟩ := HI.out (M.getD t 0) (by simp [htl])
              rw [hx] at hcm
              obtain ⟨a, b, ha, hb, hca, hcb⟩ := HE.out wt (HKP.out wt HBT.out).2 x hxm
              have pa := HRT.out.cell ha
              have pb := HRT.out.cell hb
              have fa := HRT.out.frozen a
              have fb := HRT.out.frozen b
              obtain ⟨X, hX⟩ : ∃ X, X = f a := ⟨_, rfl⟩
              obtain ⟨Y, hY⟩ : ∃ Y, Y = f b := ⟨_, rfl⟩
              rw [← hX] at pa
              rw [← hY] at pb
              have HRD : Hid (wt.drew.rowIs w1.heap.size 3 nodes (fun i => .int .i64 (f i))) := HRT.out
              have HBD : Hid (Below w1.heap.size w1 wt.drew) := ⟨HBT.out.os, HBT.out.tape, HBT.out.output, HBT.out.size, HBT.out.block⟩
              have HNA := HST.out wt.drew f b X HRD.out HBD.out
              have HNB := HST.out wt.drew f a Y HRD.out HBD.out
              have HA1 : Hid _ := HNA.1
              have HA2 : Hid (Below w1.heap.size w1 (wt.drew.setCell ⟨w1.heap.size, b, none⟩ (.int .i64 X))) := HNA.2
              have HB1' : Hid _ := HNB.1
              have HB2' : Hid (Below w1.heap.size w1 (wt.drew.setCell ⟨w1.heap.size, a, none⟩ (.int .i64 Y))) := HNB.2
              have tI : (t : Int) < (M.length : Int) := by omega
              have tI0 : (0 : Int) ≤ (t : Int) := by omega
              have xI : (x : Int) < (m : Int) := by omega
              have xI0 : (0 : Int) ≤ (x : Int) := by omega
              have aI : (a : Int) < (nodes : Int) := by omega
              have aI0 : (0 : Int) ≤ (a : Int) := by omega
              have bI : (b : Int) < (nodes : Int) := by omega
              have bI0 : (0 : Int) ≤ (b : Int) := by omega
              clear hx HNA HNB hX hY
              by_cases hXY : X < Y
              · have t1 : decide (X < Y) = true := decide_eq_true hXY
                go_wp2
                refine wp_region_held_drew (S := fun w' => w'.cell? ⟨w1.heap.size, a, none⟩ = some (.int .i64 X) ∧ w'.cell? ⟨w1.heap.size, b, none⟩ = some (.int .i64 Y)) (by kernel_rfl) ⟨pa, pb⟩ (fun hHeld => ?_)
                refine wpAnyH_tk (i := 0) (d := 56) (v := (.slice (some ⟨w1.heap.size, 0, none⟩) nodes nodes)) rfl rfl (by kernel_rfl) (by kernel_rfl) (by kernel_rfl) (fun _ _ _ h => h) (.inl ⟨by rfl, by (intro wq hSw; (try dsimp only at hSw); go_simp)⟩) hHeld ?_
                simp only [Act.put, List.setIfInBounds_toArray, List.set_cons_zero, List.set_cons_succ]
                refine wpAnyH_tk (i := 1) (d := 57) (v := (.int .i64 a)) rfl rfl (by kernel_rfl) (by kernel_rfl) (by kernel_rfl) (fun _ _ _ h => h) (.inl ⟨by rfl, by (intro wq hSw; (try dsimp only at hSw); go_simp)⟩) hHeld ?_
                simp only [Act.put, List.setIfInBounds_toArray, List.set_cons_zero, List.set_cons_succ]
                refine wpAnyH_tk (i := 2) (d := 58) (v := (.pointer (some ⟨w1.heap.size, a, none⟩))) rfl rfl (by kernel_rfl) (by kernel_rfl) (by kernel_rfl) (fun _ _ _ h => h) (.inl ⟨by rfl, by (intro wq hSw; (try dsimp only at hSw); go_simp)⟩) hHeld ?_
                simp only [Act.put, List.setIfInBounds_toArray, List.set_cons_zero, List.set_cons_succ]
                refine wpAnyH_tk (i := 3) (d := 59) (v := (.int .i64 X)) rfl rfl (by kernel_rfl) (by kernel_rfl) (by kernel_rfl) (fun _ _ _ h => h) (.inl ⟨by rfl, by (intro wq hSw; (try dsimp only at hSw); go_simp)⟩) hHeld ?_
                simp only [Act.put, List.setIfInBounds_toArray, List.set_cons_zero, List.set_cons_succ]
                refine wpAnyH_tk (i := 4) (d := 60) (v := (.slice (some ⟨w1.heap.size, 0, none⟩) nodes nodes)) rfl rfl (by kernel_rfl) (by kernel_rfl) (by kernel_rfl) (fun _ _ _ h => h) (.inl ⟨by rfl, by (intro wq hSw; (try dsimp only at hSw); go_simp)⟩) hHeld ?_
                simp only [Act.put, List.setIfInBounds_toArray, List.set_cons_zero, List.set_cons_succ]
                refine wpAnyH_tk (i := 5) (d := 61) (v := (.int .i64 b)) rfl rfl (by kernel_rfl) (by kernel_rfl) (by kernel_rfl) (fun _ _ _ h => h) (.inl ⟨by rfl, by (intro wq hSw; (try dsimp only at hSw); go_simp)⟩) hHeld ?_
                simp only [Act.put, List.setIfInBounds_toArray, List.set_cons_zero, List.set_cons_succ]
                refine wpAnyH_tk (i := 6) (d := 62) (v := (.pointer (some ⟨w1.heap.size, b, none⟩))) rfl rfl (by kernel_rfl) (by kernel_rfl) (by kernel_rfl) (fun _ _ _ h => h) (.inl ⟨by rfl, by (intro wq hSw; (try dsimp only at hSw); go_simp)⟩) hHeld ?_
                simp only [Act.put, List.setIfInBounds_toArray, List.set_cons_zero, List.set_cons_succ]
                refine wpAnyH_tk (i := 7) (d := 63) (v := (.int .i64 Y)) rfl rfl (by kernel_rfl) (by kernel_rfl) (by kernel_rfl) (fun _ _ _ h => h) (.inl ⟨by rfl, by (intro wq hSw; (try dsimp only at hSw); go_simp)⟩) hHeld ?_
                simp only [Act.put, List.setIfInBounds_toArray, List.set_cons_zero, List.set_cons_succ]
                refine wpAnyH_tk (i := 8) (d := 64) (v := (.bool true)) rfl rfl (by kernel_rfl) (by kernel_rfl) (by kernel_rfl) (fun _ _ _ h => h) (.inl ⟨by rfl, by (intro wq hSw; (try dsimp only at hSw); go_simp)⟩) hHeld ?_
                simp only [Act.put, List.setIfInBounds_toArray, List.set_cons_zero, List.set_cons_succ]
                refine wpAnyH_done (by kernel_rfl) ?_ _
                clear hHeld
                go_wp2
                exact ⟨⟨t + 1, by omega, by go_num, HA1.out, HA2.out⟩, by simp [intOf]; omega⟩
              · have t1 : decide (X < Y) = false := decide_eq_false hXY
                have t2 : Y ≤ X := by omega
                go_wp2
                refine wp_region_held_drew (S := fun w' => w'.cell? ⟨w1.heap.size, a, none⟩ = some (.int .i64 X) ∧ w'.cell? ⟨w1.heap.size, b, none⟩ = some (.int .i64 Y)) (by kernel_rfl) ⟨pa, pb⟩ (fun hHeld => ?_)
                refine wpAnyH_tk (i := 0) (d := 56) (v := (.slice (some ⟨w1.heap.size, 0, none⟩) nodes nodes)) rfl rfl (by kernel_rfl) (by kernel_rfl) (by kernel_rfl) (fun _ _ _ h => h) (.inl ⟨by rfl, by (intro wq hSw; (try dsimp only at hSw); go_simp)⟩) hHeld ?_
                simp only [Act.put, List.setIfInBounds_toArray, List.set_cons_zero, List.set_cons_succ]
                refine wpAnyH_tk (i := 1) (d := 57) (v := (.int .i64 a)) rfl rfl (by kernel_rfl) (by kernel_rfl) (by kernel_rfl) (fun _ _ _ h => h) (.inl ⟨by rfl, by (intro wq hSw; (try dsimp only at hSw); go_simp)⟩) hHeld ?_
                simp only [Act.put, List.setIfInBounds_toArray, List.set_cons_zero, List.set_cons_succ]
                refine wpAnyH_tk (i := 2) (d := 58) (v := (.pointer (some ⟨w1.heap.size, a, none⟩))) rfl rfl (by kernel_rfl) (by kernel_rfl) (by kernel_rfl) (fun _ _ _ h => h) (.inl ⟨by rfl, by (intro wq hSw; (try dsimp only at hSw); go_simp)⟩) hHeld ?_
                simp only [Act.put, List.setIfInBounds_toArray, List.set_cons_zero, List.set_cons_succ]
                refine wpAnyH_tk (i := 3) (d := 59) (v := (.int .i64 X)) rfl rfl (by kernel_rfl) (by kernel_rfl) (by kernel_rfl) (fun _ _ _ h => h) (.inl ⟨by rfl, by (intro wq hSw; (try dsimp only at hSw); go_simp)⟩) hHeld ?_
                simp only [Act.put, List.setIfInBounds_toArray, List.set_cons_zero, List.set_cons_succ]
                refine wpAnyH_tk (i := 4) (d := 60) (v := (.slice (some ⟨w1.heap.size, 0, none⟩) nodes nodes)) rfl rfl (by kernel_rfl) (by kernel_rfl) (by kernel_rfl) (fun _ _ _ h => h) (.inl ⟨by rfl, by (intro wq hSw; (try dsimp only at hSw); go_simp)⟩) hHeld ?_
                simp only [Act.put, List.setIfInBounds_toArray, List.set_cons_zero, List.set_cons_succ]
                refine wpAnyH_tk (i := 5) (d := 61) (v := (.int .i64 b)) rfl rfl (by kernel_rfl) (by kernel_rfl) (by kernel_rfl) (fun _ _ _ h => h) (.inl ⟨by rfl, by (intro wq hSw; (try dsimp only at hSw); go_simp)⟩) hHeld ?_
                simp only [Act.put, List.setIfInBounds_toArray, List.set_cons_zero, List.set_cons_succ]
                refine wpAnyH_tk (i := 6) (d := 62) (v := (.pointer (some ⟨w1.heap.size, b, none⟩))) rfl rfl (by kernel_rfl) (by kernel_rfl) (by kernel_rfl) (fun _ _ _ h => h) (.inl ⟨by rfl, by (intro wq hSw; (try dsimp only at hSw); go_simp)⟩) hHeld ?_
                simp only [Act.put, List.setIfInBounds_toArray, List.set_cons_zero, List.set_cons_succ]
                refine wpAnyH_tk (i := 7) (d := 63) (v := (.int .i64 Y)) rfl rfl (by kernel_rfl) (by kernel_rfl) (by kernel_rfl) (fun _ _ _ h => h) (.inl ⟨by rfl, by (intro wq hSw; (try dsimp only at hSw); go_simp)⟩) hHeld ?_
                simp only [Act.put, List.setIfInBounds_toArray, List.set_cons_zero, List.set_cons_succ]
                refine wpAnyH_tk (i := 8) (d := 64) (v := (.bool false)) rfl rfl (by kernel_rfl) (by kernel_rfl) (by kernel_rfl) (fun _ _ _ h => h) (.inl ⟨by rfl, by (intro wq hSw; (try dsimp only at hSw); go_simp)⟩) hHeld ?_
                simp only [Act.put, List.setIfInBounds_toArray, List.set_cons_zero, List.set_cons_succ]
                refine wpAnyH_done (by kernel_rfl) ?_ _
                clear hHeld
                go_wp2
                exact ⟨⟨t + 1, by omega, by go_num, HB1'.out, HB2'.out⟩, by simp [intOf]; omega⟩
            · have hte : t = M.length := by omega
              subst hte
              go_wp2
              exact ⟨⟨k + 1, by omega, by go_num, ⟨f, HRT.out⟩, HBT.out⟩, by simp [intOf]; omega⟩
        · have hke : nodes = k := by omega
          subst hke
          go_wp2
          go_loopw [14, 15] (fun c x wr => ∃ t q : Nat, t ≤ nodes ∧ q ≤ t ∧ x = .int .i64 t ∧ c = .int .i64 q ∧ wr = wk) (fun _ x _ => nodes - (intOf x).toNat)
          case atStart => exact ⟨0, 0, Nat.zero_le _, Nat.le_refl _, rfl, rfl, rfl⟩
          case round =>
            obtain ⟨t, q, ht, hq, rfl, rfl, rfl⟩ := hrel
            by_cases htl : t < nodes
            · have ct := HRK.out.cell htl
              have tI : (t : Int) < (nodes : Int) := by omega
              have tI0 : (0 : Int) ≤ (t : Int) := by omega
              have w1' : IntKind.i64.wrap ((q : Int) + 1) = (q : Int) + 1 := wrap_small (a := q + 1) (by omega)
              by_cases heq : f t = (t : Int)
              · have t1 : (f t == (t : Int)) = true := by rw [heq]; simp
                generalize f t = ft at *
                clear heq
                go_wp2
                exact ⟨⟨t + 1, q + 1, by omega, by omega, by go_num, by go_num, trivial⟩, by simp [intOf]; omega⟩
              · have t1 : (f t == (t : Int)) = false := by rw [beq_eq_false_iff_ne]; exact heq
                generalize f t = ft at *
                clear heq
                go_wp2
                exact ⟨⟨t + 1, q, by omega, by omega, by go_num, rfl, trivial⟩, by simp [intOf]; omega⟩
            · have hte : nodes = t := by omega
              subst hte
              have HBZ : Hid (Below w.heap.size w wr) := (HKP.out wr HBK.out).2
              go_wp2
              go_ret
              exact ⟨_, rfl, HBZ.out⟩

end Go.Proofs.YtehklbekaflokaaDoor
