/- The program: does one point meet all rows that another one meets? -/
import Derived.Test.YtkfdpcgmpbopnaaGreatDoorHm14
namespace Go.Proofs.YtkfdpcgmpbopnaaGreatDoor
open Go.RowKit
attribute [local go_sem ↓] Go.wp_at_zero Go.wp_at_succ

/-- A row that x meets and y does not. -/
def apt (x y r : List Int) : Bool := decide (agn r x = 0) && !decide (agn r y = 0)

set_option maxRecDepth 100000 in
set_option maxHeartbeats 400000 in
theorem meets_any (B : Nat) (m : List (List Int)) (x y : List Int) (v xv yv : Value) (w : World) (hv : Mat B 22 3 w v m) (hx : Sl B 3 w xv (ints x)) (hy : Sl B 3 w yv (ints y))
    (hr : ∀ r ∈ m, r.length = x.length + 1 ∧ r.length = y.length + 1 ∧ Sm (r.take x.length) x ∧ Sm (r.take y.length) y) :
    Calls Tryz.prog 104 #[v, xv, yv] w fun e w' => e = .returned (.bool (!m.any (apt x y))) ∧ Below w.heap.size w w' := by
  obtain ⟨xo, xc, hxe, _, _⟩ := sl_open hx
  obtain ⟨yo, yc, hye, _, _⟩ := sl_open hy
  obtain ⟨xl, hxl⟩ : ∃ xl, xl = x.length := ⟨_, rfl⟩
  obtain ⟨yl, hyl⟩ : ∃ yl, yl = y.length := ⟨_, rfl⟩
  rw [← hxl] at hxe
  rw [← hyl] at hye
  clear hxl hyl
  have HV : Hid (Mat B 22 3 w v m) := hv
  have HX : Hid (Sl B 3 w xv (ints x)) := hx
  have HY : Hid (Sl B 3 w yv (ints y)) := hy
  have HR : Hid (∀ r ∈ m, r.length = x.length + 1 ∧ r.length = y.length + 1 ∧ Sm (r.take x.length) x ∧ Sm (r.take y.length) y) := hr
  clear hv hx hy hr
  have HKEY : Hid (∀ W : World, Below w.heap.size w W → ∀ g1 g2 : Nat, W.cell? ⟨g1, 0, none⟩ = some xv → W.cell? ⟨g2, 0, none⟩ = some yv → Calls Tryz.prog 102 #[v, .func (.func 129) #[] #[.pointer (some ⟨g1, 0, none⟩), .pointer (some ⟨g2, 0, none⟩)]] W fun e w' => e = .returned (.bool (m.any (apt x y))) ∧ Below w.heap.size w w') := fun W hW g1 g2 h1 h2 =>
    (hasM_any B (apt x y) m v _ _ W (HV.out.below hW (Nat.le_refl _)) fun r hr W' rv hW' hrv => by
      obtain ⟨a1, a2, a3, a4⟩ := HR.out r hr
      exact (meet1_any B r x y rv xv yv g1 g2 W' hrv ((hW'.cell (lt_of_cell h1)).trans h1) ((hW'.cell (lt_of_cell h2)).trans h2) (HX.out.below (hW.trans (hW'.mono hW.size)) (Nat.le_refl _)) (HY.out.below (hW.trans (hW'.mono hW.size)) (Nat.le_refl _)) a1 a2 a3 a4).mono fun e w' h => ⟨h.1, hW'.trans (h.2.mono hW'.size)⟩).mono fun e w' h => ⟨h.1, hW.trans (h.2.mono hW.size)⟩
  subst hxe hye
  go_enter Tryz.func104, Tryz.ntmps104
  go_wp2_with fail
  refine (HKEY.out ((w.alloc (.cells #[.slice xo xl xc] 22)).alloc (.cells #[.slice yo yl yc] 22)) (((Below.refl _ _).alloc (Nat.le_refl _) _).alloc (by simp) _) w.heap.size (w.heap.size + 1) (by simp) (by simp)).mono ?_
  rintro e w2 ⟨rfl, hb2⟩
  have HB2 : Hid (Below w.heap.size w w2) := hb2
  clear hb2
  obtain ⟨R, hR⟩ : ∃ R, R = m.any (apt x y) := ⟨_, rfl⟩
  rw [← hR]
  have HR2 : Hid (R = m.any (apt x y)) := hR
  clear hR
  cases R
  all_goals
    go_wp2
    go_ret
    exact ⟨by rw [← HR2.out]; rfl, HB2.out⟩

end Go.Proofs.YtkfdpcgmpbopnaaGreatDoor
