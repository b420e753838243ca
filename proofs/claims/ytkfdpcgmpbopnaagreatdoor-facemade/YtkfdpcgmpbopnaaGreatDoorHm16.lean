/- The program: another point that meets all rows that a point meets. -/
import Derived.Test.YtkfdpcgmpbopnaaGreatDoorHm15
import Derived.Test.YtkfdpcgmpbopnaaGreatDoorOrd2
namespace Go.Proofs.YtkfdpcgmpbopnaaGreatDoor
open Go.RowKit
attribute [local go_sem ↓] Go.wp_at_zero Go.wp_at_succ

set_option maxRecDepth 100000 in
set_option maxHeartbeats 400000 in
theorem other_any (B : Nat) (m : List (List Int)) (x y : List Int) (u xv mv : Value) (g1 g2 : Nat) (w : World) (hu : Sl B 3 w u (ints y)) (h1 : w.cell? ⟨g1, 0, none⟩ = some xv) (h2 : w.cell? ⟨g2, 0, none⟩ = some mv) (hx : Sl B 3 w xv (ints x)) (hm : Mat B 22 3 w mv m)
    (hr : ∀ r ∈ m, r.length = x.length + 1 ∧ r.length = y.length + 1 ∧ Sm (r.take x.length) x ∧ Sm (r.take y.length) y) :
    Calls Tryz.prog 103 #[u, .pointer (some ⟨g1, 0, none⟩), .pointer (some ⟨g2, 0, none⟩)] w fun e w' => e = .returned (.bool (!(x == y) && !m.any (apt x y))) ∧ Below w.heap.size w w' := by
  have HM : Hid (∀ W, Below w.heap.size w W → Calls Tryz.prog 104 #[mv, xv, u] W fun e w' => e = .returned (.bool (!m.any (apt x y))) ∧ Below w.heap.size w w') := fun W hW =>
    (meets_any B m x y mv xv u W (hm.below hW (Nat.le_refl _)) (hx.below hW (Nat.le_refl _)) (hu.below hW (Nat.le_refl _)) hr).mono fun e w' h => ⟨h.1, hW.trans (h.2.mono hW.size)⟩
  have HK : Hid (∀ W, Below w.heap.size w W → W.cell? ⟨g1, 0, none⟩ = some xv ∧ W.cell? ⟨g2, 0, none⟩ = some mv) := fun W hW => ⟨(hW.cell (lt_of_cell h1)).trans h1, (hW.cell (lt_of_cell h2)).trans h2⟩
  have HX : Hid (Sl B 3 w xv (ints x)) := hx
  have HU : Hid (Sl B 3 w u (ints y)) := hu
  clear hu hx hm hr
  go_enter Tryz.func103, Tryz.ntmps103
  go_wp2_with fail
  refine (equal_any B x y xv u w HX.out HU.out).mono ?_
  rintro e w1 ⟨rfl, nn, rfl⟩
  have HB1 : Hid (Below w.heap.size w (w.drewN nn)) := ⟨rfl, rfl, rfl, Nat.le_refl _, fun _ _ => rfl⟩
  have k1 := (HK.out _ HB1.out).1
  have k2 := (HK.out _ HB1.out).2
  generalize w.drewN nn = w1 at *
  obtain ⟨e1, he1⟩ : ∃ e1, e1 = (x == y) := ⟨_, rfl⟩
  have HE : Hid (e1 = (x == y)) := he1
  rw [← he1]
  clear he1 h1 h2
  obtain ⟨R, hR⟩ : ∃ R, R = m.any (apt x y) := ⟨_, rfl⟩
  have HR2 : Hid (R = m.any (apt x y)) := hR
  rw [← hR] at HM
  clear hR
  cases e1
  · go_wp2_with fail
    refine (HM.out w1 HB1.out).mono ?_
    rintro e w2 ⟨rfl, hb2⟩
    have HB2 : Hid (Below w.heap.size w w2) := hb2
    clear hb2 HM
    cases R
    all_goals
      go_wp2
      go_ret
      exact ⟨by rw [← HE.out, ← HR2.out]; rfl, HB2.out⟩
  · go_wp2
    go_ret
    exact ⟨by rw [← HE.out]; rfl, HB1.out⟩

/-- Is there another point that meets all rows that x meets? -/
def twin (m P : List (List Int)) (x : List Int) : Bool := P.any fun y => !(x == y) && !m.any (apt x y)

set_option maxRecDepth 100000 in
set_option maxHeartbeats 400000 in
theorem twin_any (B : Nat) (m P : List (List Int)) (x : List Int) (u pv mv : Value) (g1 g2 : Nat) (w : World) (hu : Sl B 3 w u (ints x)) (h1 : w.cell? ⟨g1, 0, none⟩ = some pv) (h2 : w.cell? ⟨g2, 0, none⟩ = some mv) (hp : Mat B 22 3 w pv P) (hm : Mat B 22 3 w mv m)
    (hr : ∀ r ∈ m, ∀ y ∈ P, r.length = x.length + 1 ∧ r.length = y.length + 1 ∧ Sm (r.take x.length) x ∧ Sm (r.take y.length) y) :
    Calls Tryz.prog 101 #[u, .pointer (some ⟨g1, 0, none⟩), .pointer (some ⟨g2, 0, none⟩)] w fun e w' => e = .returned (.bool (twin m P x)) ∧ Below w.heap.size w w' := by
  obtain ⟨xo, xc, hxe, _, _⟩ := sl_open hu
  obtain ⟨xl, hxl⟩ : ∃ xl, xl = x.length := ⟨_, rfl⟩
  rw [← hxl] at hxe
  clear hxl
  have HKEY : Hid (∀ W : World, Below w.heap.size w W → ∀ g0 : Nat, W.cell? ⟨g0, 0, none⟩ = some u → Calls Tryz.prog 102 #[pv, .func (.func 103) #[] #[.pointer (some ⟨g0, 0, none⟩), .pointer (some ⟨g2, 0, none⟩)]] W fun e w' => e = .returned (.bool (twin m P x)) ∧ Below w.heap.size w w') := fun W hW g0 h0 =>
    (hasC_any B (fun y => !(x == y) && !m.any (apt x y)) P pv _ _ W (hp.below hW (Nat.le_refl _)) fun y hy W' rv hW' hrv => by
      have hww := hW.trans (hW'.mono hW.size)
      exact (other_any B m x y rv u mv g0 g2 W' hrv ((hW'.cell (lt_of_cell h0)).trans h0) ((hww.cell (lt_of_cell h2)).trans h2) (hu.below hww (Nat.le_refl _)) (hm.below hww (Nat.le_refl _)) (fun r hr' => hr r hr' y hy)).mono fun e w' h => ⟨h.1, hW'.trans (h.2.mono hW'.size)⟩).mono fun e w' h => ⟨h.1, hW.trans (h.2.mono hW.size)⟩
  have c1 : (w.alloc (.cells #[u] 22)).cell? ⟨g1, 0, none⟩ = some pv := by
    have hb : Below w.heap.size w (w.alloc (.cells #[u] 22)) := (Below.refl _ _).alloc (Nat.le_refl _) _
    exact (hb.cell (lt_of_cell h1)).trans h1
  have c2 : (w.alloc (.cells #[u] 22)).cell? ⟨g2, 0, none⟩ = some mv := by
    have hb : Below w.heap.size w (w.alloc (.cells #[u] 22)) := (Below.refl _ _).alloc (Nat.le_refl _) _
    exact (hb.cell (lt_of_cell h2)).trans h2
  clear hu hp hm hr h1 h2
  subst hxe
  go_enter Tryz.func101, Tryz.ntmps101
  go_wp2_with fail
  refine (HKEY.out (w.alloc (.cells #[.slice xo xl xc] 22)) ((Below.refl _ _).alloc (Nat.le_refl _) _) w.heap.size (by simp)).mono ?_
  rintro e w2 ⟨rfl, hb2⟩
  have HB2 : Hid (Below w.heap.size w w2) := hb2
  clear hb2
  go_wp2
  go_ret
  exact ⟨rfl, HB2.out⟩

end Go.Proofs.YtkfdpcgmpbopnaaGreatDoor
