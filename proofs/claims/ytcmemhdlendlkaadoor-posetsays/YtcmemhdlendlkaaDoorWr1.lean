/- poset.Check, Filters, Apart, Maps; what Above and Moebius give, as lists. -/
import Derived.Test.YtcmemhdlendlkaaDoorPsA
import Derived.Test.YtcmemhdlendlkaaDoorWaA
import Derived.Test.YtcmemhdlendlkaaDoorDc2
namespace Go.Proofs.YtcmemhdlendlkaaDoor
open Go.RowKit
attribute [local go_sem ↓] Go.wp_at_zero Go.wp_at_succ

set_option maxRecDepth 100000 in
theorem checkP_any (n : Nat) (es : List (Nat × Nat)) (pv : Value) (w : World) (hv : Prs w pv (npL es)) (hG : GdO n es) :
    Calls Tryd.prog 16 #[.agg #[.int .i64 (n : Int), pv]] w fun e w' => e = .returned (.int .i64 0) ∧ Below w.heap.size w w' := by
  obtain ⟨W1, hW1⟩ : ∃ W1, W1 = w.alloc (.cells #[.int .i64 (n : Int), pv] 24) := ⟨_, rfl⟩
  have HB1 : Below w.heap.size w W1 := by rw [hW1]; exact (Below.refl _ _).alloc (Nat.le_refl _) _
  have HRD : Hid (Calls Tryd.prog 27 #[.agg #[.int .i64 (n : Int), pv]] W1 fun e w' => ∃ g, e = .returned (.tuple #[.slice (some ⟨g, 0, none⟩) n n, .int .i64 0]) ∧ Below w.heap.size w w') := (read_ok n es pv W1 (hv.below HB1 (Nat.le_refl _)) hG.bd hG.n1 hG.n6 hG.len hG.irr).mono (by
    rintro e w' ⟨g, h1, h2, h3, h4⟩
    exact ⟨g, h1, HB1.trans (h3.mono HB1.size)⟩)
  clear hv hG HB1
  go_enter Tryd.func16, Tryd.ntmps16
  go_wp2_with fail
  try rw [← hW1]
  refine HRD.out.mono ?_
  rintro e w2 ⟨g, rfl, hb2⟩
  have HB : Hid (Below w.heap.size w w2) := hb2
  clear HRD hb2 hW1
  go_wp2
  go_ret
  exact ⟨rfl, HB.out⟩

set_option maxRecDepth 100000 in
theorem filters_any (n : Nat) (es : List (Nat × Nat)) (pv : Value) (w : World) (hv : Prs w pv (npL es)) (hG : GdO n es) (hT : TabB w) :
    Calls Tryd.prog 14 #[.agg #[.int .i64 (n : Int), pv]] w fun e w' => ∃ u, e = .returned (.tuple #[u, .int .i64 0]) ∧ w'.ownsRow w.heap.size 3 1 u (stTo filQ (upF n es) (2 ^ n)).length (ints (stTo filQ (upF n es) (2 ^ n))) ∧ Below w.heap.size w w' := by
  obtain ⟨W1, hW1⟩ : ∃ W1, W1 = w.alloc (.cells #[.int .i64 (n : Int), pv] 24) := ⟨_, rfl⟩
  have HB1 : Below w.heap.size w W1 := by rw [hW1]; exact (Below.refl _ _).alloc (Nat.le_refl _) _
  have HST : Hid (Calls Tryd.prog 31 #[.agg #[.int .i64 (n : Int), pv], .func (.func 32) #[] #[]] W1 fun e w' => ∃ u, e = .returned (.tuple #[u, .int .i64 0]) ∧ w'.ownsRow w.heap.size 3 1 u (stTo filQ (upF n es) (2 ^ n)).length (ints (stTo filQ (upF n es) (2 ^ n))) ∧ Below w.heap.size w w') := (setsThat_fil n es pv W1 (hv.below HB1 (Nat.le_refl _)) hG (hT.below HB1)).mono (by
    rintro e w' ⟨u, h1, h2, h3⟩
    refine ⟨u, h1, ⟨h2.1, ?_⟩, HB1.trans (h3.mono HB1.size)⟩
    rcases h2.2 with q | ⟨g, cap, cur, f1, f2, f3⟩
    · exact .inl q
    · exact .inr ⟨g, cap, cur, f1, Nat.le_trans HB1.size f2, f3⟩)
  clear hv hG HB1 hT
  generalize stTo filQ (upF n es) (2 ^ n) = LS at *
  go_enter Tryd.func14, Tryd.ntmps14
  go_wp2_with fail
  try rw [← hW1]
  refine HST.out.mono ?_
  rintro e w2 ⟨u, rfl, ho, hb2⟩
  have HB : Hid (Below w.heap.size w w2) := hb2
  have HO : Hid (w2.ownsRow w.heap.size 3 1 u LS.length (ints LS)) := ho
  clear HST hb2 hW1 ho
  go_wp2
  go_ret2
  exact ⟨_, rfl, HO.out, HB.out⟩

set_option maxRecDepth 100000 in
theorem apartP_any (n : Nat) (es : List (Nat × Nat)) (pv : Value) (w : World) (hv : Prs w pv (npL es)) (hG : GdO n es) (hT : TabB w) :
    Calls Tryd.prog 15 #[.agg #[.int .i64 (n : Int), pv]] w fun e w' => ∃ u, e = .returned (.tuple #[u, .int .i64 0]) ∧ w'.ownsRow w.heap.size 3 1 u (stTo apaQ (upF n es) (2 ^ n)).length (ints (stTo apaQ (upF n es) (2 ^ n))) ∧ Below w.heap.size w w' := by
  obtain ⟨W1, hW1⟩ : ∃ W1, W1 = w.alloc (.cells #[.int .i64 (n : Int), pv] 24) := ⟨_, rfl⟩
  have HB1 : Below w.heap.size w W1 := by rw [hW1]; exact (Below.refl _ _).alloc (Nat.le_refl _) _
  have HST : Hid (Calls Tryd.prog 31 #[.agg #[.int .i64 (n : Int), pv], .func (.func 34) #[] #[]] W1 fun e w' => ∃ u, e = .returned (.tuple #[u, .int .i64 0]) ∧ w'.ownsRow w.heap.size 3 1 u (stTo apaQ (upF n es) (2 ^ n)).length (ints (stTo apaQ (upF n es) (2 ^ n))) ∧ Below w.heap.size w w') := (setsThat_apa n es pv W1 (hv.below HB1 (Nat.le_refl _)) hG (hT.below HB1)).mono (by
    rintro e w' ⟨u, h1, h2, h3⟩
    refine ⟨u, h1, ⟨h2.1, ?_⟩, HB1.trans (h3.mono HB1.size)⟩
    rcases h2.2 with q | ⟨g, cap, cur, f1, f2, f3⟩
    · exact .inl q
    · exact .inr ⟨g, cap, cur, f1, Nat.le_trans HB1.size f2, f3⟩)
  clear hv hG HB1 hT
  generalize stTo apaQ (upF n es) (2 ^ n) = LS at *
  go_enter Tryd.func15, Tryd.ntmps15
  go_wp2_with fail
  try rw [← hW1]
  refine HST.out.mono ?_
  rintro e w2 ⟨u, rfl, ho, hb2⟩
  have HB : Hid (Below w.heap.size w w2) := hb2
  have HO : Hid (w2.ownsRow w.heap.size 3 1 u LS.length (ints LS)) := ho
  clear HST hb2 hW1 ho
  go_wp2
  go_ret2
  exact ⟨_, rfl, HO.out, HB.out⟩

set_option maxRecDepth 100000 in
set_option maxHeartbeats 800000 in
theorem maps_any (n : Nat) (es : List (Nat × Nat)) (k : Nat) (pv : Value) (w : World) (hv : Prs w pv (npL es)) (hG : GdO n es) (hk : k ≤ 6) :
    Calls Tryd.prog 23 #[.agg #[.int .i64 (n : Int), pv], .int .i64 (k : Int)] w fun e w' => e = .returned (.tuple #[.int .i64 (wyF (upF n es) k leF n []), .int .i64 (wyF (upF n es) k ltF n []), .int .i64 0]) ∧ Below w.heap.size w w' := by
  obtain ⟨W1, hW1⟩ : ∃ W1, W1 = w.alloc (.cells #[.int .i64 (n : Int), pv] 24) := ⟨_, rfl⟩
  have HB1 : Below w.heap.size w W1 := by rw [hW1]; exact (Below.refl _ _).alloc (Nat.le_refl _) _
  have HRD : Hid (Calls Tryd.prog 27 #[.agg #[.int .i64 (n : Int), pv]] W1 fun e w' => ∃ g, e = .returned (.tuple #[.slice (some ⟨g, 0, none⟩) n n, .int .i64 0]) ∧ AbR w' g n (upF n es) ∧ Below w.heap.size w w') := (read_ok n es pv W1 (hv.below HB1 (Nat.le_refl _)) hG.bd hG.n1 hG.n6 hG.len hG.irr).mono (by
    rintro e w' ⟨g, h1, h2, h3, h4⟩
    exact ⟨g, h1, h2, HB1.trans (h3.mono HB1.size)⟩)
  have HW1 : Hid (∀ g W, AbR W g n (upF n es) → Calls Tryd.prog 37 #[.slice (some ⟨g, 0, none⟩) n n, .int .i64 (k : Int), .func (.func 38) #[] #[]] W fun e w' => e = .returned (.int .i64 (wyF (upF n es) k leF n [])) ∧ Below W.heap.size W w') := fun g W hA => waysLe_any g n k _ W hG.n6 hk (fun i hi => hG.b64 hi) hA
  have HW2 : Hid (∀ g W, AbR W g n (upF n es) → Calls Tryd.prog 37 #[.slice (some ⟨g, 0, none⟩) n n, .int .i64 (k : Int), .func (.func 39) #[] #[]] W fun e w' => e = .returned (.int .i64 (wyF (upF n es) k ltF n [])) ∧ Below W.heap.size W w') := fun g W hA => waysLt_any g n k _ W hG.n6 hk (fun i hi => hG.b64 hi) hA
  have k1 : ¬ (k : Int) < 0 := by omega
  have k2 : ¬ 6 < (k : Int) := by omega
  clear hv hG HB1
  generalize wyF (upF n es) k leF n [] = A at *
  generalize wyF (upF n es) k ltF n [] = B at *
  generalize upF n es = f at *
  go_enter Tryd.func23, Tryd.ntmps23
  go_wp2_with fail
  try rw [← hW1]
  refine HRD.out.mono ?_
  rintro e w2 ⟨g, rfl, hA, hb2⟩
  have HX1 := HW1.out g w2 hA
  have HA : Hid (AbR w2 g n f) := hA
  have HB : Hid (Below w.heap.size w w2) := hb2
  clear HRD hb2 hW1 hA
  go_wp2_with fail
  refine HX1.mono ?_
  rintro e w3 ⟨rfl, hb3⟩
  have HX2 := HW2.out g w3 (HA.out.below hb3 (Nat.le_refl _))
  have HB3 : Hid (Below w.heap.size w w3) := HB.out.trans (hb3.mono HB.out.size)
  clear HX1 hb3 HB HA
  go_wp2_with fail
  refine HX2.mono ?_
  rintro e w4 ⟨rfl, hb4⟩
  have HB4 : Hid (Below w.heap.size w w4) := HB3.out.trans (hb4.mono HB3.out.size)
  clear HX2 hb4
  go_wp2
  refine bodyPost_ret (v := .tuple #[.int .i64 A, .int .i64 B, .int .i64 0]) (by simp [results, Tryd.results23, go_sem]) rfl ⟨rfl, HB4.out⟩

theorem mat_moR {w : World} {g n : Nat} {M : Nat → Nat → Int} (h : MoR w g n M) (hn1 : 1 ≤ n) (hn : n ≤ 6) : Mat w.heap.size 27 3 w (.slice (some ⟨g, 0, none⟩) n n) ((List.range n).map fun i => (List.range n).map (M i)) := by
  have hm : ∀ i : Nat, ∃ v : Value, i < n → w.cell? ⟨g, i, none⟩ = some v ∧ Sl w.heap.size 3 w v (ints ((List.range n).map (M i))) := fun i => by
    by_cases hi : i < n
    · obtain ⟨b, c, h1, h2, h3, h4⟩ := h i hi
      refine ⟨_, fun _ => ⟨h1, ?_⟩⟩
      have hl : (ints ((List.range n).map (M i))).length = n := by simp [ints]
      refine ⟨some ⟨b, 0, none⟩, c, by rw [hl], by omega, h4, fun j hj => ⟨b, 0, rfl, ?_, .inl ?_⟩, fun e => by cases e⟩
      · rw [hl] at hj
        rw [Nat.zero_add, h2 j hj]
        simp [ints, hj]
      · exact lt_of_cell (h2 0 (by omega))
    · exact ⟨.slice none 0 0, fun h => absurd h hi⟩
  have hch : ∃ V : Nat → Value, ∀ i, i < n → w.cell? ⟨g, i, none⟩ = some (V i) ∧ Sl w.heap.size 3 w (V i) (ints ((List.range n).map (M i))) := ⟨fun i => Classical.choose (hm i), fun i => Classical.choose_spec (hm i)⟩
  obtain ⟨V, hV⟩ := hch
  refine ⟨(List.range n).map V, by simp, ⟨some ⟨g, 0, none⟩, n, by simp, by simp, by unfold maxLen; omega, fun i hi => ⟨g, 0, rfl, ?_, .inl ?_⟩, fun e => by cases e⟩, fun i hi => ?_⟩
  · have hi2 : i < n := by simpa using hi
    rw [Nat.zero_add, (hV i hi2).1]
    simp [hi2]
  · have hi2 : i < n := by simpa using hi
    exact lt_of_cell (hV i hi2).1
  · have hi2 : i < n := by simpa using hi
    have e1 : ((List.range n).map V).getD i (.slice none 0 0) = V i := by simp [hi2]
    have e2 : ((List.range n).map fun i => (List.range n).map (M i)).getD i [] = (List.range n).map (M i) := by simp [hi2]
    rw [e1, e2]
    exact (hV i hi2).2

end Go.Proofs.YtcmemhdlendlkaaDoor
