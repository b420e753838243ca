/- The program: a copy of points. -/
import Derived.Test.YtkfdpcgmpbopnaaGreatDoorHm17
namespace Go.Proofs.YtkfdpcgmpbopnaaGreatDoor
open Go.RowKit
attribute [local go_sem ↓] Go.wp_at_zero Go.wp_at_succ

set_option maxRecDepth 100000 in
set_option maxHeartbeats 400000 in
theorem cloneM_any (B : Nat) (m : List (List Int)) (v : Value) (w : World) (hv : Mat B 22 3 w v m) (hl : m.length ≤ 1000000) :
    Calls Tryz.prog 100 #[v] w fun e w' => ∃ u, e = .returned u ∧ Rws w.heap.size 22 3 w' u m ∧ Below w.heap.size w w' := by
  obtain ⟨i0, hi, hz0, hz1, hz2⟩ := info_parts Tryz.info22
  obtain ⟨vs, hvl, hsl, hin⟩ := hv.any (Nat.le_refl w.heap.size)
  have hsl' := hsl
  obtain ⟨ao, cap, hvv, hlc, hcm, hcell, hnil⟩ := hsl'
  subst hvv
  have HV : Hid (Sl w.heap.size 22 w (.slice ao vs.length cap) vs) := hsl
  have HIN : Hid (∀ i, i < m.length → Sl w.heap.size 3 w (vs.getD i (.slice none 0 0)) (ints (m.getD i []))) := hin
  have HVL : Hid (vs.length = m.length) := hvl
  have HO : Hid (∀ u ∈ vs, u.oneCell' = true) := fun u hu => by
    obtain ⟨i, hi, rfl⟩ := List.mem_iff_getElem.1 hu
    have := hin i (by omega)
    have e : vs.getD i (.slice none 0 0) = vs[i] := by simp [hi]
    rw [e] at this
    exact sl_one this
  have hvn : vs.length ≤ 1000000 := by omega
  clear hcell hsl hv hin hvl hl
  have HE : Hid ((w.alloc (.cells #[] 22)).ownsRow w.heap.size 22 1 (.slice (some ⟨w.heap.size, 0, none⟩) 0 0) 0 []) :=
    World.ownsRow_made w #[] 0 (Nat.le_refl _) (by simp [maxLen]) (by simp)
  have hq := fun (w : World) (a : Option Addr) (n c : Nat) => Lib.run_eql_slice_nil (P := Tryz.prog) w 25 22 a n c 0 0 Tryz.underlying25
  cases ao with
  | none =>
    have hc0 := hnil rfl
    subst hc0
    have hl0 : vs = [] := List.eq_nil_of_length_eq_zero (by omega)
    subst hl0
    have hm0 : m = [] := List.eq_nil_of_length_eq_zero (by have := HVL.out; simp at this; omega)
    subst hm0
    go_enter Tryz.func100, Tryz.ntmps100
    go_wp2
    go_ret
    exact ⟨_, rfl, Rws.nil _ _ _ _, Below.refl _ _⟩
  | some a =>
    clear hnil
    go_enter Tryz.func100, Tryz.ntmps100
    go_wp2_with (first | (at_builtin; refine wpList_append_own _ rfl _ _ 25 rfl w.heap.size 22 i0 (.slice none 0 0) 1 24 Tryz.underlying25 hi hz0 hz1 hz2 rfl (by decide) _ _ _ rfl HE.out a vs.length cap vs rfl (by simp) (sl_cells HV.out _) HO.out ?c3 ?c4 ?c5 ?_))
    case c3 => unfold maxLen; omega
    case c4 => omega
    case c5 => simp
    intro v' w3 ho hg _
    have ho' : w3.ownsRow w.heap.size 22 1 v' vs.length vs := by simpa using ho
    have hb : Below w.heap.size w w3 := ((Below.refl _ _).alloc (Nat.le_refl _) _).grown hg (by simp) (fun x hx => (HE.out.lt x hx).1)
    have R1 : Hid (Rws w.heap.size 22 3 w3 v' m) := ⟨vs, HVL.out, by rw [← HVL.out]; exact ho', fun i hi => (HIN.out i hi).below hb (Nat.le_refl _)⟩
    have R2 : Hid (Below w.heap.size w w3) := hb
    clear ho ho' hg hb
    go_wp2
    go_ret
    exact ⟨_, rfl, R1.out, R2.out⟩

end Go.Proofs.YtkfdpcgmpbopnaaGreatDoor
