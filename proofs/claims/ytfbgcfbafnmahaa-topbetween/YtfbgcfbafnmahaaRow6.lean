/- The walk through all choices, from its start. -/
import Derived.Test.YtfbgcfbafnmahaaRow5
import Derived.Laws.EntriesVeiled
namespace Go.Proofs.Ytfbgcfbafnmahaa
open Go.RowKit
attribute [local go_sem ↓] Go.wp_at_zero Go.wp_at_succ

theorem alloc_keep (w : World) (o : Obj) : Below w.heap.size w (w.alloc o) := (Below.refl _ _).alloc (Nat.le_refl _) _

theorem size_alloc (w : World) (o : Obj) : (w.alloc o).heap.size = w.heap.size + 1 := by simp

theorem Fr.mono {B B' : Nat} {w : World} {v : Value} {m : List (List Int)} (h : Fr B 28 3 w v m) (hB : B' ≤ B) : Fr B' 28 3 w v m := by
  obtain ⟨vs, h1, h2, h3⟩ := h
  exact ⟨vs, h1, h2.mono hB, h3⟩

/-- Six blocks, one after another. -/
theorem six (w : World) (o1 o2 o3 o4 o5 o6 : Obj) :
    ∃ W, W = (((((w.alloc o1).alloc o2).alloc o3).alloc o4).alloc o5).alloc o6 ∧ W.heap[w.heap.size]? = some o1 ∧ W.heap[w.heap.size + 1]? = some o2 ∧ W.heap[w.heap.size + 1 + 1]? = some o3 ∧ W.heap[w.heap.size + 1 + 1 + 1]? = some o4 ∧
      W.heap[w.heap.size + 1 + 1 + 1 + 1]? = some o5 ∧ W.heap[w.heap.size + 1 + 1 + 1 + 1 + 1]? = some o6 ∧ W.heap.size = w.heap.size + 6 ∧ Below w.heap.size w W := by
  obtain ⟨w1, h1⟩ : ∃ w1, w1 = w.alloc o1 := ⟨_, rfl⟩
  obtain ⟨w2, h2⟩ : ∃ w2, w2 = w1.alloc o2 := ⟨_, rfl⟩
  obtain ⟨w3, h3⟩ : ∃ w3, w3 = w2.alloc o3 := ⟨_, rfl⟩
  obtain ⟨w4, h4⟩ : ∃ w4, w4 = w3.alloc o4 := ⟨_, rfl⟩
  obtain ⟨w5, h5⟩ : ∃ w5, w5 = w4.alloc o5 := ⟨_, rfl⟩
  have s1 : w1.heap.size = w.heap.size + 1 := by rw [h1]; exact size_alloc _ _
  have s2 : w2.heap.size = w.heap.size + 2 := by rw [h2, size_alloc]; omega
  have s3 : w3.heap.size = w.heap.size + 3 := by rw [h3, size_alloc]; omega
  have s4 : w4.heap.size = w.heap.size + 4 := by rw [h4, size_alloc]; omega
  have s5 : w5.heap.size = w.heap.size + 5 := by rw [h5, size_alloc]; omega
  have n1 : w1.heap[w.heap.size]? = some o1 := by rw [h1]; exact alloc_at _ _
  have n2 : w2.heap[w.heap.size + 1]? = some o2 := by rw [h2, ← s1]; exact alloc_at _ _
  have n3 : w3.heap[w.heap.size + 1 + 1]? = some o3 := by rw [h3, show w.heap.size + 1 + 1 = w2.heap.size by omega]; exact alloc_at _ _
  have n4 : w4.heap[w.heap.size + 1 + 1 + 1]? = some o4 := by rw [h4, show w.heap.size + 1 + 1 + 1 = w3.heap.size by omega]; exact alloc_at _ _
  have n5 : w5.heap[w.heap.size + 1 + 1 + 1 + 1]? = some o5 := by rw [h5, show w.heap.size + 1 + 1 + 1 + 1 = w4.heap.size by omega]; exact alloc_at _ _
  have b1 : Below w.heap.size w w1 := by rw [h1]; exact alloc_keep _ _
  have b2 : Below w1.heap.size w1 w2 := by rw [h2]; exact alloc_keep _ _
  have b3 : Below w2.heap.size w2 w3 := by rw [h3]; exact alloc_keep _ _
  have b4 : Below w3.heap.size w3 w4 := by rw [h4]; exact alloc_keep _ _
  have b5 : Below w4.heap.size w4 w5 := by rw [h5]; exact alloc_keep _ _
  have b6 : Below w5.heap.size w5 (w5.alloc o6) := alloc_keep _ _
  refine ⟨w5.alloc o6, by rw [h5, h4, h3, h2, h1], ?_, ?_, ?_, ?_, ?_, ?_, ?_, ?_⟩
  · rw [b6.block _ (by omega), b5.block _ (by omega), b4.block _ (by omega), b3.block _ (by omega), b2.block _ (by omega)]; exact n1
  · rw [b6.block _ (by omega), b5.block _ (by omega), b4.block _ (by omega), b3.block _ (by omega)]; exact n2
  · rw [b6.block _ (by omega), b5.block _ (by omega), b4.block _ (by omega)]; exact n3
  · rw [b6.block _ (by omega), b5.block _ (by omega)]; exact n4
  · rw [b6.block _ (by omega)]; exact n5
  · rw [show w.heap.size + 1 + 1 + 1 + 1 + 1 = w5.heap.size by omega]; exact alloc_at _ _
  · rw [size_alloc]; omega
  · exact ((((b1.trans (b2.mono (by omega))).trans (b3.mono (by omega))).trans (b4.mono (by omega))).trans (b5.mono (by omega))).trans (b6.mono (by omega))

theorem cell_of {w : World} {b : Nat} {x : Value} {t : TypeId} (h : w.heap[b]? = some (.cells #[x] t (0, 0))) : w.cell? ⟨b, 0, none⟩ = some x := by simp [World.cell?, h]

set_option maxRecDepth 100000 in
set_option maxHeartbeats 1600000 in
theorem eachChoice_any (win : World) (R pp many vb vo vc : Nat) (P : List (List Int)) (w : World) (hwin : Below win.heap.size win w) (hm : Mat win.heap.size 28 3 win (.slice (some ⟨vb, vo, none⟩) P.length vc) P)
    (hNR : win.heap.size ≤ R) (hR : w.heap[R]? = some (.cells #[.slice none 0 0] 22 (0, 0))) (hpp : w.cell? ⟨pp, 0, none⟩ = some (.slice (some ⟨vb, vo, none⟩) P.length vc)) (hpR : pp ≠ R) (hfit : Box many 30 P) (h1 : 1 ≤ many) (h4 : many ≤ 4) (h24 : P.length ≤ 24) (hP1 : 1 ≤ P.length) :
    Calls Try.prog 75 #[.slice (some ⟨vb, vo, none⟩) P.length vc, .int .i64 many, .func (.func 76) #[] #[.pointer (some ⟨pp, 0, none⟩), .pointer (some ⟨R, 0, none⟩)]] w fun e w' =>
      e = .returned (.tuple #[]) ∧ ∃ rv', w'.heap[R]? = some (.cells #[rv'] 22 (0, 0)) ∧ Fr w.heap.size 28 3 w' rv' (rowsC P [] many P) ∧ But w.heap.size R w w' := by
  have hmk := run_make_row' (P := Try.prog) 22 28 (.slice none 0 0) 24 Try.underlying22 Try.info28 rfl .i64 .i64 many (by omega) (by omega)
  have HW : Hid (Below win.heap.size win w) := hwin
  have HM : Hid (Mat win.heap.size 28 3 win (.slice (some ⟨vb, vo, none⟩) P.length vc) P) := hm
  have HR : Hid (w.heap[R]? = some (.cells #[.slice none 0 0] 22 (0, 0))) := hR
  have HPP : Hid (w.cell? ⟨pp, 0, none⟩ = some (.slice (some ⟨vb, vo, none⟩) P.length vc)) := hpp
  have HFIT : Hid (Box many 30 P) := hfit
  clear hwin hm hR hpp hfit
  go_enter Try.func75, Try.ntmps75
  go_wp2_with fail
  obtain ⟨W, hW, e1, e2, e3, e4, e5, e6, hsz, hbw⟩ := six w (.cells #[.slice (some ⟨vb, vo, none⟩) P.length vc] 22) (.cells #[.int .i64 many] 3) (.cells #[.func (.func 76) #[] #[.pointer (some ⟨pp, 0, none⟩), .pointer (some ⟨R, 0, none⟩)]] 83)
    (.cells (madeCells #[.slice none 0 0] many) 28) (.cells #[.slice (some ⟨w.heap.size + 1 + 1 + 1, 0, none⟩) many many] 22)
    (.cells #[.func (.func 94) #[] #[.pointer (some ⟨w.heap.size + 1, 0, none⟩), .pointer (some ⟨w.heap.size + 1 + 1, 0, none⟩), .pointer (some ⟨w.heap.size + 1 + 1 + 1 + 1, 0, none⟩), .pointer (some ⟨w.heap.size, 0, none⟩), .pointer (some ⟨w.heap.size + 1 + 1 + 1 + 1 + 1, 0, none⟩)]] 93)
  rw [← hW]
  clear hW
  have hRw : R < w.heap.size := lt_of_block HR.out
  have hpw : pp < w.heap.size := lt_of_cell HPP.out
  have hnw : win.heap.size ≤ w.heap.size := HW.out.size
  have hbin : Below win.heap.size win W := HW.out.trans (hbw.mono hnw)
  obtain ⟨M, hM⟩ : ∃ M, M = w.heap.size + 6 := ⟨_, rfl⟩
  have hpts : ∀ w', Sx W M R (w.heap.size + 1 + 1 + 1) w' → Below win.heap.size win w' := fun w' hs =>
    ⟨hs.os.trans hbin.os, hs.tape.trans hbin.tape, hs.output.trans hbin.output, by have := hs.size; omega, fun b hb => (hs.block b (by omega) (by omega) (by omega)).trans (hbin.block b hb)⟩
  obtain ⟨vs, hvs, hso, hsi⟩ := HM.out
  obtain ⟨ao', cap', hv1, hv2, hv3, hv4, _⟩ := hso
  simp only [Value.slice.injEq] at hv1
  obtain ⟨hv1a, hv1b, hv1c⟩ := hv1
  subst hv1c
  have hx : Cx W win.heap.size M R (w.heap.size + 1 + 1 + 1) many P vb vo vc (fun k => vs.getD k (.slice none 0 0)) (w.heap.size + 1) (w.heap.size + 1 + 1) (w.heap.size + 1 + 1 + 1 + 1) w.heap.size (w.heap.size + 1 + 1 + 1 + 1 + 1) pp := by
    refine ⟨hNR, by omega, by omega, by omega, by omega, fun b hb => by omega, cell_of e2, cell_of e3, cell_of e5, cell_of e1, cell_of e6, (hbw.cell hpw).trans HPP.out, fun w' hs => ⟨HM.out.below (hpts w' hs) (Nat.le_refl _), fun k hk => ?_⟩, ⟨by omega, by unfold maxLen at hv3; omega⟩, HFIT.out, h1, h4, h24⟩
    obtain ⟨b, o, hao, hcell, _⟩ := hv4 k (by omega)
    rw [← hv1a] at hao
    simp only [Option.some.injEq, Addr.mk.injEq, and_true] at hao
    obtain ⟨rfl, rfl⟩ := hao
    have hxs : vs[k]? = some (vs.getD k (.slice none 0 0)) := by
      rw [List.getD_eq_getElem?_getD, List.getElem?_eq_getElem (by omega)]; rfl
    refine ⟨?_, (hsi k hk).below (hpts w' hs) (Nat.le_refl _)⟩
    rw [hxs] at hcell
    exact ((hpts w' hs).cell (lt_of_cell hcell)).trans hcell
  have hs0 : Sx W M R (w.heap.size + 1 + 1 + 1) W := ⟨rfl, rfl, rfl, by omega, fun _ _ _ _ => rfl⟩
  have hrow : W.rowIs (w.heap.size + 1 + 1 + 1) 28 many (fun _ => .slice none 0 0) := by
    refine ⟨_, e4, ?_, fun i hi => ?_⟩
    · rw [← Array.length_toList, toList_madeCells_one]; simp
    · rw [← Array.getElem?_toList, toList_madeCells_one]; simp [hi]
  have hlen : (rowsC P (preL P []) many (P.drop 0)).length ≤ 390625 := by
    refine Nat.le_trans (rowsC_len _ _ _ _) (Nat.le_trans (chs_len _ _) ?_)
    rw [List.drop_zero]
    exact Nat.le_trans (Nat.pow_le_pow_left (show P.length + 1 ≤ 25 by omega) many) (Nat.le_trans (Nat.pow_le_pow_right (by decide) h4) (by decide))
  have hc := fill_any many W win.heap.size M R (w.heap.size + 1 + 1 + 1) many P vb vo vc _ _ _ _ _ _ _ hx [] 0 [] (.slice none 0 0) _ W (by simp) (fun i hi => absurd hi (by simp)) (Nat.zero_le _) hs0 ((hbw.block R hRw).trans HR.out) (Fr.nil _ _ _ _) hrow (fun j hj => absurd hj (by simp)) (by simp only [List.length_nil]; omega)
  refine hc.mono ?_
  rintro e w' ⟨rfl, hs', rv', f', q1, q2, q3, _⟩
  have Q1 : Hid (w'.heap[R]? = some (.cells #[rv'] 22 (0, 0))) := q1
  have Q2 : Hid (Fr w.heap.size 28 3 w' rv' (rowsC P [] many P)) := by
    have h : Fr M 28 3 w' rv' (rowsC P [] many P) := q2
    exact h.mono (by omega)
  have Q3 : Hid (But w.heap.size R w w') := ⟨hs'.os.trans hbw.os, hs'.tape.trans hbw.tape, hs'.output.trans hbw.output, by have := hs'.size; omega, fun b hb hne => (hs'.block b (by omega) hne (by omega)).trans (hbw.block b hb)⟩
  clear hc hx hs0 hrow hlen hs' q1 q2 q3 hpts e1 e2 e3 e4 e5 e6 hbin hbw hsi hvs hv4
  go_wp2
  go_end0
  exact ⟨rfl, rv', Q1.out, Q2.out, Q3.out⟩

end Go.Proofs.Ytfbgcfbafnmahaa
