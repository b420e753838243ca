/- The program: does a point meet a row that another one does not? -/
import Derived.Test.YtkfdpcgmpbopnaaGreatDoorHm12
namespace Go.Proofs.YtkfdpcgmpbopnaaGreatDoor
open Go.RowKit
attribute [local go_sem ↓] Go.wp_at_zero Go.wp_at_succ

set_option maxRecDepth 100000 in
set_option maxHeartbeats 400000 in
theorem meet1_any (B : Nat) (r x y : List Int) (u xv yv : Value) (g1 g2 : Nat) (w : World) (hu : Sl B 3 w u (ints r)) (h1 : w.cell? ⟨g1, 0, none⟩ = some xv) (h2 : w.cell? ⟨g2, 0, none⟩ = some yv) (hx : Sl B 3 w xv (ints x)) (hy : Sl B 3 w yv (ints y))
    (hlx : r.length = x.length + 1) (hly : r.length = y.length + 1) (hsx : Sm (r.take x.length) x) (hsy : Sm (r.take y.length) y) :
    Calls Tryz.prog 129 #[u, .pointer (some ⟨g1, 0, none⟩), .pointer (some ⟨g2, 0, none⟩)] w fun e w' => e = .returned (.bool (decide (agn r x = 0) && !decide (agn r y = 0))) ∧ Below w.heap.size w w' := by
  have HC1 : Hid (∀ W, Below w.heap.size w W → Calls Tryz.prog 130 #[u, xv] W fun e w' => e = .returned (.int .i64 (agn r x)) ∧ Below w.heap.size w w') := fun W hW =>
    (against_any B r x u xv W (hu.below hW (Nat.le_refl _)) (hx.below hW (Nat.le_refl _)) hlx hsx).mono fun e w' h => ⟨h.1, hW.trans (h.2.mono hW.size)⟩
  have HC2 : Hid (∀ W, Below w.heap.size w W → Calls Tryz.prog 130 #[u, yv] W fun e w' => e = .returned (.int .i64 (agn r y)) ∧ Below w.heap.size w w') := fun W hW =>
    (against_any B r y u yv W (hu.below hW (Nat.le_refl _)) (hy.below hW (Nat.le_refl _)) hly hsy).mono fun e w' h => ⟨h.1, hW.trans (h.2.mono hW.size)⟩
  have HK : Hid (∀ W, Below w.heap.size w W → W.cell? ⟨g1, 0, none⟩ = some xv ∧ W.cell? ⟨g2, 0, none⟩ = some yv) := fun W hW => ⟨(hW.cell (lt_of_cell h1)).trans h1, (hW.cell (lt_of_cell h2)).trans h2⟩
  clear hu hx hy hlx hly hsx hsy
  generalize agn r x = a at *
  generalize agn r y = b at *
  go_enter Tryz.func129, Tryz.ntmps129
  go_wp2_with fail
  refine (HC1.out w (Below.refl _ _)).mono ?_
  rintro e w1 ⟨rfl, hb1⟩
  have HB1 : Hid (Below w.heap.size w w1) := hb1
  have k2 := (HK.out w1 hb1).2
  clear hb1 HC1 h1 h2
  by_cases ha : a = 0
  · subst ha
    go_wp2_with fail
    refine (HC2.out w1 HB1.out).mono ?_
    rintro e w2 ⟨rfl, hb2⟩
    have HB2 : Hid (Below w.heap.size w w2) := hb2
    clear hb2 HC2
    by_cases hb : b = 0
    · subst hb
      go_wp2
      go_ret
      exact ⟨rfl, HB2.out⟩
    · go_wp2
      go_ret
      exact ⟨by simp [hb], HB2.out⟩
  · go_wp2
    go_ret
    exact ⟨by simp [ha], HB1.out⟩

end Go.Proofs.YtkfdpcgmpbopnaaGreatDoor
