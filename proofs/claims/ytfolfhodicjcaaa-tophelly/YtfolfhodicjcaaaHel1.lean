/- The fact that below -1 and above 0 there is nothing; lists of cuts. -/
import Derived.Test.YtfolfhodicjcaaaEmp1
import Derived.Test.YtfolfhodicjcaaaPik
namespace Go.Proofs.Ytfolfhodicjcaaa
open Go.RowKit

theorem empT : empB 1 [[1, -1], [-1, 0]] = true := by decide +kernel
theorem empF : empB 1 [[1, 1], [-1, 0]] = false := by decide +kernel

theorem sl_two {w : World} {b : Nat} {t : TypeId} {x y : Value} (h : w.heap[b]? = some (.cells #[x, y] t (0, 0))) : Sl 0 t w (.slice (some ⟨b, 0, none⟩) 2 2) [x, y] := by
  refine ⟨some ⟨b, 0, none⟩, 2, rfl, by simp, by simp [maxLen], fun i hi => ⟨b, 0, rfl, ?_, .inr ⟨_, h⟩⟩, fun h => by cases h⟩
  have : i = 0 ∨ i = 1 := by simp at hi; omega
  rcases this with rfl | rfl <;> simp [World.cell?, h]

theorem mat_two {w : World} {g b c : Nat} {x0 x1 y0 y1 : Int} (hg : w.heap[g]? = some (.cells #[.slice (some ⟨b, 0, none⟩) 2 2, .slice (some ⟨c, 0, none⟩) 2 2] 22 (0, 0)))
    (hb : w.heap[b]? = some (.cells #[.int .i64 x0, .int .i64 x1] 3 (0, 0))) (hc : w.heap[c]? = some (.cells #[.int .i64 y0, .int .i64 y1] 3 (0, 0))) : Mat 0 22 3 w (.slice (some ⟨g, 0, none⟩) 2 2) [[x0, x1], [y0, y1]] := by
  refine ⟨[.slice (some ⟨b, 0, none⟩) 2 2, .slice (some ⟨c, 0, none⟩) 2 2], rfl, sl_two hg, fun i hi => ?_⟩
  have : i = 0 ∨ i = 1 := by simp at hi; omega
  rcases this with rfl | rfl
  · exact sl_two hb
  · exact sl_two hc

theorem threeB (w : World) (o1 o2 o3 : Obj) :
    ∃ W, W = ((w.alloc o1).alloc o2).alloc o3 ∧ W.heap[w.heap.size]? = some o1 ∧ W.heap[w.heap.size + 1]? = some o2 ∧ W.heap[w.heap.size + 1 + 1]? = some o3 ∧ W.heap.size = w.heap.size + 3 ∧ Below w.heap.size w W := by
  obtain ⟨w1, h1⟩ : ∃ w1, w1 = w.alloc o1 := ⟨_, rfl⟩
  obtain ⟨w2, h2⟩ : ∃ w2, w2 = w1.alloc o2 := ⟨_, rfl⟩
  have s1 : w1.heap.size = w.heap.size + 1 := by rw [h1]; exact size_alloc _ _
  have s2 : w2.heap.size = w.heap.size + 2 := by rw [h2, size_alloc]; omega
  have n1 : w1.heap[w.heap.size]? = some o1 := by rw [h1]; exact alloc_new _ _
  have n2 : w2.heap[w.heap.size + 1]? = some o2 := by rw [h2, ← s1]; exact alloc_new _ _
  have b1 : Below w.heap.size w w1 := by rw [h1]; exact alloc_keep _ _
  have b2 : Below w1.heap.size w1 w2 := by rw [h2]; exact alloc_keep _ _
  have b3 : Below w2.heap.size w2 (w2.alloc o3) := alloc_keep _ _
  refine ⟨w2.alloc o3, by rw [h2, h1], ?_, ?_, ?_, ?_, ?_⟩
  · rw [b3.block _ (by omega), b2.block _ (by omega)]; exact n1
  · rw [b3.block _ (by omega)]; exact n2
  · rw [show w.heap.size + 1 + 1 = w2.heap.size by omega]; exact alloc_new _ _
  · rw [size_alloc]; omega
  · exact (b1.trans (b2.mono (by omega))).trans (b3.mono (by omega))

theorem cut_two {x0 x1 y0 y1 : Int} (h0 : x0.natAbs ≤ 20) (h1 : x1.natAbs ≤ 20) (h2 : y0.natAbs ≤ 20) (h3 : y1.natAbs ≤ 20) : CutOk 1 [[x0, x1], [y0, y1]] := by
  refine ⟨by omega, by omega, by simp, fun r hr => ?_, fun r hr z hz => ?_⟩
  · simp at hr; rcases hr with rfl | rfl <;> rfl
  · simp at hr; rcases hr with rfl | rfl <;> simp at hz <;> rcases hz with rfl | rfl <;> assumption

theorem emptyTwo (w : World) (x0 x1 y0 y1 : Int) (h0 : x0.natAbs ≤ 20) (h1 : x1.natAbs ≤ 20) (h2 : y0.natAbs ≤ 20) (h3 : y1.natAbs ≤ 20) :
    Calls Try.prog 8 #[.agg #[.int .i64 1, .slice (some ⟨w.heap.size + 1 + 1, 0, none⟩) 2 2]] (((w.alloc (.cells #[.int .i64 x0, .int .i64 x1] 3)).alloc (.cells #[.int .i64 y0, .int .i64 y1] 3)).alloc (.cells #[.slice (some ⟨w.heap.size, 0, none⟩) 2 2, .slice (some ⟨w.heap.size + 1, 0, none⟩) 2 2] 22)) fun e w' =>
      e = .returned (.tuple #[.bool (empB 1 [[x0, x1], [y0, y1]]), .int .i64 0]) ∧ Below w.heap.size w w' := by
  obtain ⟨W, hW, e1, e2, e3, hs, hb⟩ := threeB w (.cells #[.int .i64 x0, .int .i64 x1] 3) (.cells #[.int .i64 y0, .int .i64 y1] 3) (.cells #[.slice (some ⟨w.heap.size, 0, none⟩) 2 2, .slice (some ⟨w.heap.size + 1, 0, none⟩) 2 2] 22)
  rw [← hW]
  have h := empty_ok 1 [[x0, x1], [y0, y1]] (.slice (some ⟨w.heap.size + 1 + 1, 0, none⟩) 2 2) W ((mat_two e3 e1 e2).more (Nat.zero_le _)) (cut_two h0 h1 h2 h3)
  exact h.mono fun e w' ⟨h1, h2⟩ => ⟨h1, hb.trans (h2.mono hb.size)⟩

set_option maxRecDepth 100000 in
set_option maxHeartbeats 1600000 in
theorem empties_any (w : World) : Calls Try.prog 9 #[] w fun e w' => e = .returned (.bool true) ∧ Below w.heap.size w w' := by
  have H1 : Hid (∀ w, Calls Try.prog 8 #[.agg #[.int .i64 1, .slice (some ⟨w.heap.size + 1 + 1, 0, none⟩) 2 2]] (((w.alloc (.cells #[.int .i64 1, .int .i64 (-1)] 3)).alloc (.cells #[.int .i64 (-1), .int .i64 0] 3)).alloc (.cells #[.slice (some ⟨w.heap.size, 0, none⟩) 2 2, .slice (some ⟨w.heap.size + 1, 0, none⟩) 2 2] 22)) fun e w' =>
      e = .returned (.tuple #[.bool true, .int .i64 0]) ∧ Below w.heap.size w w') := fun w => by
    have h := emptyTwo w 1 (-1) (-1) 0 (by decide) (by decide) (by decide) (by decide)
    rw [empT] at h
    exact h
  have H2 : Hid (∀ w, Calls Try.prog 8 #[.agg #[.int .i64 1, .slice (some ⟨w.heap.size + 1 + 1, 0, none⟩) 2 2]] (((w.alloc (.cells #[.int .i64 1, .int .i64 1] 3)).alloc (.cells #[.int .i64 (-1), .int .i64 0] 3)).alloc (.cells #[.slice (some ⟨w.heap.size, 0, none⟩) 2 2, .slice (some ⟨w.heap.size + 1, 0, none⟩) 2 2] 22)) fun e w' =>
      e = .returned (.tuple #[.bool false, .int .i64 0]) ∧ Below w.heap.size w w') := fun w => by
    have h := emptyTwo w 1 1 (-1) 0 (by decide) (by decide) (by decide) (by decide)
    rw [empF] at h
    exact h
  go_enter Try.func9, Try.ntmps9
  go_wp2_with fail
  refine (H1.out w).mono ?_
  rintro e w1 ⟨rfl, hb1⟩
  have HB1 : Hid (Below w.heap.size w w1) := hb1
  clear hb1
  go_wp2_with fail
  refine (H2.out w1).mono ?_
  rintro e w2 ⟨rfl, hb2⟩
  have HB2 : Hid (Below w.heap.size w w2) := HB1.out.trans (hb2.mono HB1.out.size)
  clear hb2
  go_wp2
  go_ret
  exact ⟨rfl, HB2.out⟩

end Go.Proofs.Ytfolfhodicjcaaa
