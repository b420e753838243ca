/- poset.Above, poset.Moebius. -/
import Derived.Test.YtmmdhmoaddkbpaaPo4
import Derived.Test.YtmmdhmoaddkbpaaAp1
namespace Go.Proofs.Ytmmdhmoaddkbpaa
open Go.RowKit
attribute [local go_sem ↓] Go.wp_at_zero Go.wp_at_succ

/-- Pairs of an order that may be. -/
structure GdO (n : Nat) (es : List (Nat × Nat)) : Prop where
  n1 : 1 ≤ n
  n6 : n ≤ 6
  len : es.length ≤ 36
  bd : ∀ e ∈ es, e.1 < n ∧ e.2 < n
  irr : ∀ i, i < n → (upF n es i).testBit i = false

theorem GdO.ord {n : Nat} {es : List (Nat × Nat)} (h : GdO n es) : PoO n (upF n es) := upF_ord (fun e he => (h.bd e he).2) h.irr

theorem GdO.b64 {n : Nat} {es : List (Nat × Nat)} (h : GdO n es) {i : Nat} (hi : i < n) : upF n es i < 64 := Nat.lt_of_lt_of_le (h.ord.lt i hi) (Nat.pow_le_pow_right (by omega) h.n6 : 2 ^ n ≤ 2 ^ 6)

/-- A row of numbers. -/
abbrev NuR (w : World) (g n : Nat) (f : Nat → Int) : Prop := w.rowIs g 3 n (fun i => .int .i64 (f i))

theorem NuR.set {w : World} {g n i : Nat} {f f2 : Nat → Int} {z : Int} (h : NuR w g n f) (hz : f2 i = z) (hg : ∀ j, j < n → j ≠ i → f2 j = f j) : NuR (w.setCell ⟨g, i, none⟩ (.int .i64 z)) g n f2 := by
  refine (World.rowIs.set h i (.int .i64 z)).congr fun j hj => ?_
  by_cases e : j = i
  · subst e
    simp [hz]
  · simp [e, hg j hj e]

set_option maxRecDepth 100000 in
set_option maxHeartbeats 1600000 in
theorem above_any (n : Nat) (es : List (Nat × Nat)) (pv : Value) (w : World) (hv : Prs w pv (npL es)) (hG : GdO n es) :
    Calls Try.prog 7 #[.agg #[.int .i64 (n : Int), pv]] w fun e w' => ∃ g, e = .returned (.tuple #[.slice (some ⟨g, 0, none⟩) n n, .int .i64 0]) ∧ NuR w' g n (fun i => (upF n es i : Int)) ∧ Below w.heap.size w w' ∧ w.heap.size ≤ g := by
  obtain ⟨W1, hW1⟩ : ∃ W1, W1 = w.alloc (.cells #[.int .i64 (n : Int), pv] 26) := ⟨_, rfl⟩
  have HB1 : Below w.heap.size w W1 := by rw [hW1]; exact (Below.refl _ _).alloc (Nat.le_refl _) _
  have hs1 : W1.heap.size = w.heap.size + 1 := by rw [hW1]; simp
  have d0 : W1.cell? ⟨w.heap.size, 0, none⟩ = some (.int .i64 (n : Int)) := by rw [hW1]; simp
  have HRD : Hid (Calls Try.prog 9 #[.agg #[.int .i64 (n : Int), pv]] W1 fun e w' => ∃ g, e = .returned (.tuple #[.slice (some ⟨g, 0, none⟩) n n, .int .i64 0]) ∧ AbR w' g n (upF n es) ∧ Below w.heap.size w w' ∧ w'.cell? ⟨w.heap.size, 0, none⟩ = some (.int .i64 (n : Int))) := (read_ok n es pv W1 (hv.below HB1 (Nat.le_refl _)) hG.bd hG.n1 hG.n6 hG.len hG.irr).mono (by
    rintro e w' ⟨g, h1, h2, h3, h4⟩
    exact ⟨g, h1, h2, HB1.trans (h3.mono HB1.size), (h3.cell (lt_of_cell d0)).trans d0⟩)
  have HX : Hid (∀ i, i < n → upF n es i < 64) := fun i hi => hG.b64 hi
  have hn1 := hG.n1
  have hn := hG.n6
  have hmk : ∀ w : World, (Instr.makeSlice 22 (.int .i64 (n : Int)) (.int .i64 (n : Int))).run Try.prog w = .ok (.slice (some ⟨w.heap.size, 0, none⟩) n n) (w.alloc (.cells (madeCells #[.int .i64 0] n) 3)) := run_make_row' (P := Try.prog) 22 3 (.int .i64 0) 8 Try.underlying22 (by kernel_rfl) rfl .i64 .i64 n (by omega) (by omega)
  clear hG hv HB1 hs1 d0
  go_enter Try.func7, Try.ntmps7
  go_wp2_with fail
  try rw [← hW1]
  refine HRD.out.mono ?_
  rintro e w2 ⟨a, rfl, ha, hb2, d0⟩
  clear HRD hW1
  obtain ⟨g, hg⟩ : ∃ g, g = w2.heap.size := ⟨_, rfl⟩
  have hag : a ≠ g := by have := ha.lt; omega
  have hgw : w.heap.size ≤ g := by have := hb2.size; omega
  have HA0 : Hid (AbR (w2.alloc (.cells (madeCells #[.int .i64 0] n) 3)) a n (upF n es)) := World.rowIs.alloc ha _
  have HN0 : Hid (NuR (w2.alloc (.cells (madeCells #[.int .i64 0] n) 3)) g n (fun i => if i < 0 then (upF n es i : Int) else 0)) := by rw [hg]; exact World.rowIs_made w2 (.int .i64 0) n 3
  have HB0 : Hid (Below w.heap.size w (w2.alloc (.cells (madeCells #[.int .i64 0] n) 3))) := hb2.alloc hb2.size _
  clear ha hb2
  go_wp2
  rw [← hg]
  clear hg hmk d0
  go_loopw [22] (fun iv wr => ∃ i : Nat, i ≤ n ∧ iv = .int .i64 (i : Int) ∧ NuR wr g n (fun j => if j < i then (upF n es j : Int) else 0) ∧ AbR wr a n (upF n es) ∧ Below w.heap.size w wr) (fun iv _ => n - (intOf iv).toNat)
  case atStart => exact ⟨0, Nat.zero_le _, rfl, HN0.out, HA0.out, HB0.out⟩
  case round =>
    obtain ⟨i, hi, rfl, hn2, ha2, hb2⟩ := hrel
    clear HA0 HN0 HB0
    by_cases hlt : i < n
    · have c1 := ha2.cell hlt
      have c2 := hn2.cell hlt
      have c3 := hn2.frozen i
      have hx := HX.out i hlt
      have HN : Hid (NuR (wr.setCell ⟨g, i, none⟩ (.int .i64 (upF n es i : Int))) g n (fun j => if j < i + 1 then (upF n es j : Int) else 0)) := NuR.set hn2 (by show (if i < i + 1 then _ else _) = _; rw [if_pos (by omega)]) (fun j _ hj => by
        show (if j < i + 1 then _ else _) = if j < i then _ else _
        by_cases h : j < i
        · rw [if_pos h, if_pos (by omega)]
        · rw [if_neg h, if_neg (by omega)])
      have HA : Hid (AbR (wr.setCell ⟨g, i, none⟩ (.int .i64 (upF n es i : Int))) a n (upF n es)) := World.rowIs.setOther ha2 (by exact hag) _
      have HB : Hid (Below w.heap.size w (wr.setCell ⟨g, i, none⟩ (.int .i64 (upF n es i : Int)))) := below_set hb2 hgw
      clear hn2 ha2 hb2
      generalize upF n es i = x at *
      have kI : (i : Int) < (n : Int) := by omega
      have kI0 : (0 : Int) ≤ (i : Int) := by omega
      have hxw : IntKind.i64.wrap (x : Int) = (x : Int) := by rw [IntWalk.i64_left]; exact IntWalk.wrap64_in _ ⟨by omega, by omega⟩
      go_wp2
      go_roundw
      case rel => exact ⟨i + 1, by omega, by go_num, HN.out, HA.out, HB.out⟩
      case measure => simp [intOf]; omega
    · have hie : i = n := by omega
      subst hie
      have HN : Hid (NuR wr g i (fun j => (upF i es j : Int))) := hn2.congr fun j hj => by
        show Value.int _ (if j < i then _ else _) = _
        rw [if_pos hj]
      have HB : Hid (Below w.heap.size w wr) := hb2
      clear hn2 ha2 hb2
      go_wp2
      go_ret2
      exact ⟨g, rfl, HN.out, HB.out, hgw⟩

end Go.Proofs.Ytmmdhmoaddkbpaa
