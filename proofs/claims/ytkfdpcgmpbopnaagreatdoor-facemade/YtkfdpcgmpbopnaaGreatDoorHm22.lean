/- The program: the corners of a polytope. -/
import Derived.Test.YtkfdpcgmpbopnaaGreatDoorHm21
namespace Go.Proofs.YtkfdpcgmpbopnaaGreatDoor
open Go.RowKit
attribute [local go_sem ↓] Go.wp_at_zero Go.wp_at_succ

set_option maxRecDepth 100000 in
set_option maxHeartbeats 800000 in
theorem cornersH_any (B : Nat) (m P : List (List Int)) (pv mv : Value) (w : World) (hp : Mat B 22 3 w pv P) (hm : Mat B 22 3 w mv m) (hl : P.length ≤ 1000000)
    (hr : ∀ x ∈ P, ∀ r ∈ m, ∀ y ∈ P, r.length = x.length + 1 ∧ r.length = y.length + 1 ∧ Sm (r.take x.length) x ∧ Sm (r.take y.length) y) :
    Calls Tryz.prog 88 #[pv, mv] w fun e w' => ∃ u, e = .returned u ∧ Mat w'.heap.size 22 3 w' u (P.filter fun x => !twin m P x) ∧ Below w.heap.size w w' := by
  obtain ⟨po, pc, hpv, _, _⟩ := mat_open hp
  obtain ⟨mo, mc, hmv, _, _⟩ := mat_open hm
  obtain ⟨pl, hpl⟩ : ∃ pl, pl = P.length := ⟨_, rfl⟩
  obtain ⟨ml, hml⟩ : ∃ ml, ml = m.length := ⟨_, rfl⟩
  rw [← hpl] at hpv
  rw [← hml] at hmv
  subst hpv hmv
  clear hpl hml
  obtain ⟨W, hW⟩ : ∃ W, W = (w.alloc (.cells #[.slice po pl pc] 25)).alloc (.cells #[.slice mo ml mc] 25) := ⟨_, rfl⟩
  have hbw : Below w.heap.size w W := by rw [hW]; exact ((Below.refl _ _).alloc (Nat.le_refl _) _).alloc (by simp) _
  have hsW : W.heap.size = w.heap.size + 2 := by rw [hW]; simp
  have c0 : W.cell? ⟨w.heap.size, 0, none⟩ = some (.slice po pl pc) := by rw [hW]; simp
  have c1 : W.cell? ⟨w.heap.size + 1, 0, none⟩ = some (.slice mo ml mc) := by rw [hW]; simp
  have HW : Hid (Below w.heap.size w W) := hbw
  have HPW : Hid (Mat W.heap.size 22 3 W (.slice po pl pc) P) := (hp.below hbw (Nat.le_refl _)).any (Nat.le_refl _)
  have HMW : Hid (Mat W.heap.size 22 3 W (.slice mo ml mc) m) := (hm.below hbw (Nat.le_refl _)).any (Nat.le_refl _)
  have HDEL : Hid (∀ (u : Value) (w2 : World), Rws W.heap.size 22 3 w2 u P → Below W.heap.size W w2 → Calls Tryz.prog 99 #[u, .func (.func 101) #[] #[.pointer (some ⟨w.heap.size, 0, none⟩), .pointer (some ⟨w.heap.size + 1, 0, none⟩)]] w2 fun e w' => ∃ u, e = .returned u ∧ (Mat w'.heap.size 22 3 w' u (P.filter fun x => !twin m P x) ∧ Below W.heap.size W w')) := fun u w2 hu hb2 => by
    refine (delete_any W.heap.size (twin m P) P u _ _ w2 hu hb2.size hl fun r hr' W' rv hW' hrv => ?_).mono ?_
    · have hww : Below W.heap.size W W' := hb2.trans hW'
      exact twin_any W.heap.size m P r rv (.slice po pl pc) (.slice mo ml mc) w.heap.size (w.heap.size + 1) W' hrv ((hww.cell (lt_of_cell c0)).trans c0) ((hww.cell (lt_of_cell c1)).trans c1) (HPW.out.below hww (Nat.le_refl _)) (HMW.out.below hww (Nat.le_refl _)) (hr r hr')
    · rintro e w' ⟨u', rfl, h1, h2⟩
      exact ⟨u', rfl, h1.mat (Nat.le_trans hb2.size h2.size), hb2.trans h2⟩
  have HCL : Hid (Calls Tryz.prog 100 #[.slice po pl pc] W fun e w' => ∃ u, e = .returned u ∧ Rws W.heap.size 22 3 w' u P ∧ Below W.heap.size W w') := cloneM_any W.heap.size P _ W HPW.out hl
  clear hp hm hbw hr c1
  go_enter Tryz.func88, Tryz.ntmps88
  go_wp2_with fail
  rw [← hW]
  clear hW
  refine HCL.out.mono ?_
  rintro e w2 ⟨u, rfl, hu, hb2⟩
  have HU : Hid (Rws W.heap.size 22 3 w2 u P) := hu
  have HB2 : Hid (Below W.heap.size W w2) := hb2
  clear hu hb2
  go_wp2_with fail
  refine (HDEL.out u w2 HU.out HB2.out).mono ?_
  rintro e w3 ⟨u3, rfl, h3⟩
  have H3 : Hid (Mat w3.heap.size 22 3 w3 u3 (P.filter fun x => !twin m P x) ∧ Below W.heap.size W w3) := h3
  clear h3
  go_wp2
  go_ret
  exact ⟨_, rfl, H3.out.1, HW.out.trans (H3.out.2.mono (by omega))⟩

theorem sm_of {d : Nat} {P : List (List Int)} {r x : List Int} (hr : RowOf d P r) (hd : d ≤ 4) (hx : x.length = d) (hb : ∀ z ∈ x, z.natAbs ≤ 1000) : r.length = x.length + 1 ∧ Sm (r.take x.length) x :=
  ⟨by rw [hx]; exact hr.len, by rw [List.length_take]; have := hr.len; omega, by rw [List.length_take]; have := hr.len; omega, by rw [hx]; exact hr.bd, hb⟩

end Go.Proofs.YtkfdpcgmpbopnaaGreatDoor
