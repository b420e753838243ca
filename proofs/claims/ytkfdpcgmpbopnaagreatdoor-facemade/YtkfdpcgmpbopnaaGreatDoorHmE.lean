import Derived.Test.YtkfdpcgmpbopnaaGreatDoorLtA
import Derived.Test.YtkfdpcgmpbopnaaGreatDoorHmY
import Derived.Test.YtkfdpcgmpbopnaaGreatDoorRaY
import Derived.Test.YtkfdpcgmpbopnaaGreatDoorHmA
/- The program's corners are the document's. -/
namespace Go.Proofs.YtkfdpcgmpbopnaaGreatDoor
open Lin

theorem over_zero {d : Nat} {r x : List Int} (hr : r.length = d + 1) (hx : x.length = d) : overL r x = 0 ↔ r.getD d 0 = dot d (V r) (V x) := by
  have e : dotL (r.take d) x = dot d (V r) (V x) := by
    rw [dotL_eq (d := d) (by rw [List.length_take]; omega) x]
    exact dot_congr (fun i hi => V_take hi) (fun _ _ => rfl)
  unfold overL
  rw [hx, e]
  omega

theorem corner_rank {d : Nat} {P P' s : List (List Int)} (hg : Good d P) (hP : ∀ r, r ∈ P' ↔ r ∈ P) (hs : ∀ r, r ∈ s ↔ r ∈ rowsD P d) {x : List Int} (hx : x ∈ P) :
    (pickL d (onL d s x)).length = d ↔ ∀ v : Nat → Int, (∀ r ∈ rowsC P' [] d P', r.getD d 0 = dot d (V r) (V x) → dot d (V r) v = 0) → ∀ i, i < d → v i = 0 := by
  have hgr := greedy_full (pick_greedy d (onL d s x))
  rw [fm_length] at hgr
  rw [hgr]
  have hxl := (hg.box x hx).1
  have hrw : ∀ r, r ∈ s ↔ r ∈ rowsC P' [] d P' := fun r => by rw [hs r, mem_rowsD]; exact (rows_same hg hP r).symm
  have hlen : ∀ r ∈ s, r.length = d + 1 := fun r hr => (rowsD_facts hg.box hg.d1 (by have := hg.d4; omega) r ((hs r).1 hr)).len
  have key : ∀ v : Nat → Int, (∀ r ∈ fm (onL d s x), dot d r v = 0) ↔ ∀ r ∈ rowsC P' [] d P', r.getD d 0 = dot d (V r) (V x) → dot d (V r) v = 0 := by
    intro v
    constructor
    · intro h r hr he
      have hrs := (hrw r).2 hr
      have h1 := h (V (r.take d)) (mem_fm.2 ⟨r.take d, List.mem_map.2 ⟨r, List.mem_filter.2 ⟨hrs, decide_eq_true ((over_zero (hlen r hrs) hxl).2 he)⟩, rfl⟩, rfl⟩)
      rw [← h1]
      exact dot_congr (fun i hi => (V_take hi).symm) (fun _ _ => rfl)
    · intro h q hq
      obtain ⟨l, hl, rfl⟩ := mem_fm.1 hq
      obtain ⟨r, hr, rfl⟩ := List.mem_map.1 hl
      obtain ⟨hrs, ho⟩ := List.mem_filter.1 hr
      have h1 := h r ((hrw r).1 hrs) ((over_zero (hlen r hrs) hxl).1 (of_decide_eq_true ho))
      rw [← h1]
      exact dot_congr (fun i hi => V_take hi) (fun _ _ => rfl)
  exact ⟨fun h v hv => h v ((key v).2 hv), fun h v hv => h v ((key v).1 hv)⟩

/-- The program's corners are the document's, one for one. -/
theorem corners_equal {d : Nat} {P P' s rows c : List (List Int)} (hg : Good d P) (hP : Inor P' P) (hr : Inor rows (rowsC P' [] d P')) (hm : ∀ r, r ∈ s ↔ r ∈ rowsD P d) (hc : SAsc c) (hcm : ∀ y, y ∈ c ↔ y ∈ crn d s P) :
    (P'.filter fun x => !twin rows P' x) = c := by
  refine sasc_ext _ c (List.Pairwise.filter _ hP.asc) hc fun y => ?_
  rw [hcm y]
  unfold crn
  rw [List.mem_filter, List.mem_filter, hP.mem y]
  refine and_congr_right fun hy => ?_
  have hrl : ∀ r ∈ rows, r.length = d + 1 := fun r hr' => (rowsC_fit hg.box hg.d1 (by have := hg.d4; omega) hP.mem ((hr.mem r).1 hr')).len
  have h1 := twin_iff (d := d) (m := rows) (P := P') (x := y) hrl (fun z hz => (hg.box z ((hP.mem z).1 hz)).1) (hg.box y hy).1
  have h2 := corner_iff hg hP.mem hy
  have h3 := corner_rank hg hP.mem hm hy
  simp only [Bool.not_eq_true', decide_eq_true_eq]
  rw [h1, h3, ← h2]
  constructor
  · intro h z hz hne
    obtain ⟨r, hr1, hr2⟩ := h z ((hP.mem z).2 hz) hne
    exact ⟨r, (hr.mem r).1 hr1, hr2⟩
  · intro h z hz hne
    obtain ⟨r, hr1, hr2⟩ := h z ((hP.mem z).1 hz) hne
    exact ⟨r, (hr.mem r).2 hr1, hr2⟩

end Go.Proofs.YtkfdpcgmpbopnaaGreatDoor

/- The program: the corners of a polytope. -/
namespace Go.Proofs.YtkfdpcgmpbopnaaGreatDoor
open Go.RowKit
attribute [local go_sem ↓] Go.wp_at_zero Go.wp_at_succ

set_option maxRecDepth 100000 in
set_option maxHeartbeats 800000 in
theorem cornersH_any (B : Nat) (m P : List (List Int)) (pv mv : Value) (w : World) (hp : Mat B 22 3 w pv P) (hm : Mat B 22 3 w mv m) (hl : P.length ≤ 1000000)
    (hr : ∀ x ∈ P, ∀ r ∈ m, ∀ y ∈ P, r.length = x.length + 1 ∧ r.length = y.length + 1 ∧ Sm (r.take x.length) x ∧ Sm (r.take y.length) y) :
    Calls Tryz.prog 88 #[pv, mv] w fun e w' => ∃ u, e = .returned u ∧ Mat w'.heap.size 22 3 w' u (P.filter fun x => !twin m P x) ∧ Below w.heap.size w w' := by
  obtain ⟨po, pc, hpv, _, _⟩ := mat_open hp
  obtain ⟨mo, mc, hmv, _, _⟩ := mat_open hm
  obtain ⟨pl, hpl⟩ : ∃ pl, pl = P.length := ⟨_, rfl⟩
  obtain ⟨ml, hml⟩ : ∃ ml, ml = m.length := ⟨_, rfl⟩
  rw [← hpl] at hpv
  rw [← hml] at hmv
  subst hpv hmv
  clear hpl hml
  obtain ⟨W, hW⟩ : ∃ W, W = (w.alloc (.cells #[.slice po pl pc] 25)).alloc (.cells #[.slice mo ml mc] 25) := ⟨_, rfl⟩
  have hbw : Below w.heap.size w W := by rw [hW]; exact ((Below.refl _ _).alloc (Nat.le_refl _) _).alloc (by simp) _
  have hsW : W.heap.size = w.heap.size + 2 := by rw [hW]; simp
  have c0 : W.cell? ⟨w.heap.size, 0, none⟩ = some (.slice po pl pc) := by rw [hW]; simp
  have c1 : W.cell? ⟨w.heap.size + 1, 0, none⟩ = some (.slice mo ml mc) := by rw [hW]; simp
  have HW : Hid (Below w.heap.size w W) := hbw
  have HPW : Hid (Mat W.heap.size 22 3 W (.slice po pl pc) P) := (hp.below hbw (Nat.le_refl _)).any (Nat.le_refl _)
  have HMW : Hid (Mat W.heap.size 22 3 W (.slice mo ml mc) m) := (hm.below hbw (Nat.le_refl _)).any (Nat.le_refl _)
  have HDEL : Hid (∀ (u : Value) (w2 : World), Rws W.heap.size 22 3 w2 u P → Below W.heap.size W w2 → Calls Tryz.prog 99 #[u, .func (.func 101) #[] #[.pointer (some ⟨w.heap.size, 0, none⟩), .pointer (some ⟨w.heap.size + 1, 0, none⟩)]] w2 fun e w' => ∃ u, e = .returned u ∧ (Mat w'.heap.size 22 3 w' u (P.filter fun x => !twin m P x) ∧ Below W.heap.size W w')) := fun u w2 hu hb2 => by
    refine (delete_any W.heap.size (twin m P) P u _ _ w2 hu hb2.size hl fun r hr' W' rv hW' hrv => ?_).mono ?_
    · have hww : Below W.heap.size W W' := hb2.trans hW'
      exact twin_any W.heap.size m P r rv (.slice po pl pc) (.slice mo ml mc) w.heap.size (w.heap.size + 1) W' hrv ((hww.cell (lt_of_cell c0)).trans c0) ((hww.cell (lt_of_cell c1)).trans c1) (HPW.out.below hww (Nat.le_refl _)) (HMW.out.below hww (Nat.le_refl _)) (hr r hr')
    · rintro e w' ⟨u', rfl, h1, h2⟩
      exact ⟨u', rfl, h1.mat (Nat.le_trans hb2.size h2.size), hb2.trans h2⟩
  have HCL : Hid (Calls Tryz.prog 100 #[.slice po pl pc] W fun e w' => ∃ u, e = .returned u ∧ Rws W.heap.size 22 3 w' u P ∧ Below W.heap.size W w') := cloneM_any W.heap.size P _ W HPW.out hl
  clear hp hm hbw hr c1
  go_enter Tryz.func88, Tryz.ntmps88
  go_wp2_with fail
  rw [← hW]
  clear hW
  refine HCL.out.mono ?_
  rintro e w2 ⟨u, rfl, hu, hb2⟩
  have HU : Hid (Rws W.heap.size 22 3 w2 u P) := hu
  have HB2 : Hid (Below W.heap.size W w2) := hb2
  clear hu hb2
  go_wp2_with fail
  refine (HDEL.out u w2 HU.out HB2.out).mono ?_
  rintro e w3 ⟨u3, rfl, h3⟩
  have H3 : Hid (Mat w3.heap.size 22 3 w3 u3 (P.filter fun x => !twin m P x) ∧ Below W.heap.size W w3) := h3
  clear h3
  go_wp2
  go_ret
  exact ⟨_, rfl, H3.out.1, HW.out.trans (H3.out.2.mono (by omega))⟩

theorem sm_of {d : Nat} {P : List (List Int)} {r x : List Int} (hr : RowOf d P r) (hd : d ≤ 4) (hx : x.length = d) (hb : ∀ z ∈ x, z.natAbs ≤ 1000) : r.length = x.length + 1 ∧ Sm (r.take x.length) x :=
  ⟨by rw [hx]; exact hr.len, by rw [List.length_take]; have := hr.len; omega, by rw [List.length_take]; have := hr.len; omega, by rw [hx]; exact hr.bd, hb⟩

end Go.Proofs.YtkfdpcgmpbopnaaGreatDoor

/- The program: the rows of a polytope. -/
namespace Go.Proofs.YtkfdpcgmpbopnaaGreatDoor
open Go.RowKit
attribute [local go_sem ↓] Go.wp_at_zero Go.wp_at_succ

end Go.Proofs.YtkfdpcgmpbopnaaGreatDoor
