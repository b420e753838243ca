/- lp.checkGoal, and lp.Farkas, of cuts that may be. -/
import Derived.Test.YtgfnmkenpgnllaaGreatLp1
namespace Go.Proofs.YtgfnmkenpgnllaaGreat
open Go.RowKit Lin
attribute [local go_sem ↓] Go.wp_at_zero Go.wp_at_succ

set_option maxRecDepth 100000 in
set_option maxHeartbeats 1600000 in
theorem checkGoal_ok (d : Nat) (rows : List (List Int)) (g : List Int) (v gv : Value) (w : World) (hv : Mat 0 22 3 w v rows) (hg : Sl 0 3 w gv (ints g)) (hc : CutOk d rows) (hgl : g.length = d) (hgb : ∀ z ∈ g, z.natAbs ≤ 20) :
    Calls Tryz.prog 145 #[.agg #[.int .i64 d, v], gv] w fun e w' => e = .returned (.int .i64 (if empB d rows = true then 6 else 0)) ∧ Below w.heap.size w w' := by
  obtain ⟨ro, rc, hvv, hlc, hcm⟩ := mat_open hv
  obtain ⟨go, gc, hgg, _, _⟩ := sl_open hg
  rw [hgl] at hgg
  subst hvv hgg
  obtain ⟨W, hW, hb0, hs0, hc0⟩ := cut_box w d (.slice ro rows.length rc)
  have HWW : Hid (W = w.alloc (.cells #[.int .i64 d, .slice ro rows.length rc] 61)) := hW
  have HBW : Hid (∀ X, Below W.heap.size W X → Below w.heap.size w X) := fun X hX => hb0.trans (hX.mono hb0.size)
  have HCC : Hid (∀ X, Below W.heap.size W X → X.cell? ⟨w.heap.size, 0, none⟩ = some (.int .i64 d) ∧ X.cell? ⟨w.heap.size, 1, none⟩ = some (.slice ro rows.length rc)) := hc0
  have H1 : Hid (Calls Tryz.prog 50 #[.agg #[.int .i64 d, .slice ro rows.length rc]] W fun e w' => e = .returned (.int .i64 0) ∧ Below W.heap.size W w') := halfCheck_ok d rows _ W ((hv.below hb0 (Nat.le_refl _)).more (Nat.zero_le _)) hc
  have H2 : Hid (∀ X, Below W.heap.size W X → Calls Tryz.prog 67 #[.slice go d gc, .int .i64 d, .int .i64 20] X fun e w' => e = .returned (.int .i64 0) ∧ Below X.heap.size X w') := fun X hX =>
    list_ok 0 g _ d X (hg.below (HBW.out X hX) (Nat.le_refl _)) (by rw [hgl]) (far20 hgb)
  have H3 : Hid (∀ X, Below W.heap.size W X → Calls Tryz.prog 157 #[.agg #[.int .i64 d, .slice ro rows.length rc]] X fun e w' => e = .returned (.tuple #[.bool (empB d rows), .int .i64 0]) ∧ Below X.heap.size X w') := fun X hX =>
    empty_ok d rows _ X ((hv.below (HBW.out X hX) (Nat.le_refl _)).more (Nat.zero_le _)) hc
  clear hv hg hc hgl hgb hW hb0 hs0 hc0
  obtain ⟨c0, c1⟩ := HCC.out W (Below.refl _ _)
  generalize empB d rows = eb at *
  go_enter Tryz.func145, Tryz.ntmps145
  go_upto_region 1 with fail
  rw [← HWW.out]
  go_wp2_with fail
  refine H1.out.mono ?_
  rintro e w1 ⟨rfl, hb1⟩
  have HB1 : Hid (Below W.heap.size W w1) := hb1
  clear hb1 c0 c1
  obtain ⟨c0, c1⟩ := HCC.out w1 HB1.out
  go_wp2_with fail
  refine (H2.out w1 HB1.out).mono ?_
  rintro e w2 ⟨rfl, hb2⟩
  have HB2 : Hid (Below W.heap.size W w2) := HB1.out.trans (hb2.mono HB1.out.size)
  clear hb2 c0 c1
  obtain ⟨c0, c1⟩ := HCC.out w2 HB2.out
  go_wp2_with fail
  refine (H3.out w2 HB2.out).mono ?_
  rintro e w3 ⟨rfl, hb3⟩
  have HB3 : Hid (Below w.heap.size w w3) := HBW.out _ (HB2.out.trans (hb3.mono HB2.out.size))
  clear hb3 c0 c1
  cases eb
  · go_wp2
    go_ret
    exact ⟨rfl, HB3.out⟩
  · go_wp2
    go_ret
    exact ⟨rfl, HB3.out⟩

/-- The five cells of Farkas: its cut, and what comes out. -/
theorem cut_res (w : World) (d : Nat) (v : Value) : ∃ W, W = (w.alloc (.cells #[.int .i64 d, v] 61)).alloc (.cells #[.slice none 0 0, .slice none 0 0, .int .i64 0] 105) ∧ Below w.heap.size w W ∧ W.heap.size = w.heap.size + 2 ∧ W.heap[w.heap.size]? = some (.cells #[.int .i64 d, v] 61 (0, 0)) ∧ W.heap[w.heap.size + 1]? = some (.cells #[.slice none 0 0, .slice none 0 0, .int .i64 0] 105 (0, 0)) := by
  have k1 := alloc_keep w (.cells #[.int .i64 d, v] 61)
  have k2 := alloc_keep (w.alloc (.cells #[.int .i64 d, v] 61)) (.cells #[.slice none 0 0, .slice none 0 0, .int .i64 0] 105)
  refine ⟨_, rfl, k1.trans (k2.mono k1.size), by rw [size_alloc, size_alloc], (k2.block _ (by rw [size_alloc]; omega)).trans (alloc_new _ _), ?_⟩
  have := alloc_new (w.alloc (.cells #[.int .i64 d, v] 61)) (.cells #[.slice none 0 0, .slice none 0 0, .int .i64 0] 105)
  rw [size_alloc] at this
  exact this

end Go.Proofs.YtgfnmkenpgnllaaGreat
