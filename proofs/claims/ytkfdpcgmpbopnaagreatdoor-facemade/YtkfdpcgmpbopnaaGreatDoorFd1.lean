/- facetref.CountsOf: how many faces of each dimension. -/
import Derived.Test.YtkfdpcgmpbopnaaGreatDoorFq0
import Derived.Test.YtkfdpcgmpbopnaaGreatDoorFc8
namespace Go.Proofs.YtkfdpcgmpbopnaaGreatDoor
open Go.RowKit Lin
attribute [local go_sem ↓] Go.wp_at_zero Go.wp_at_succ

/-- Levels that are named. -/
structure LvV (w : World) (x : Value) (j : Nat) (LV : Nat → List (List Int)) : Prop where
  rows : ∃ ao cap, x = .slice ao j cap ∧ ∀ X t, Below w.heap.size w X → t < j → ∃ b o ro rc, ao = some ⟨b, o, none⟩ ∧ X.cell? ⟨b, o + t, none⟩ = some (.slice ro (LV t).length rc) ∧ Mat X.heap.size 22 3 X (.slice ro (LV t).length rc) (LV t)

theorem Lvs.named {B : Nat} {w : World} {x : Value} {j : Nat} {ok : Nat → List (List Int) → Prop} (h : Lvs B w x j ok) : ∃ LV, LvV w x j LV ∧ ∀ t, t < j → ok t (LV t) := by
  obtain ⟨vs, h1, h2, h3⟩ := h.rows
  have hch : ∃ LV : Nat → List (List Int), ∀ t, t < j → Fr B 22 3 w (vs.getD t (.slice none 0 0)) (LV t) ∧ ok t (LV t) := by
    refine ⟨fun t => if ht : t < j then Classical.choose (h3 t ht) else [], fun t ht => ?_⟩
    simp only [ht, dif_pos]
    exact Classical.choose_spec (h3 t ht)
  obtain ⟨LV, hLV⟩ := hch
  obtain ⟨ao, cap, hx⟩ := owns_form h2
  refine ⟨LV, ⟨ao, cap, hx, fun X t hX ht => ?_⟩, fun t ht => (hLV t ht).2⟩
  obtain ⟨ao2, cap2, hx2, _, _, h5, _⟩ := Sl.own (B := 0) h2
  rw [hx] at hx2
  simp only [Value.slice.injEq] at hx2
  obtain ⟨rfl, _, rfl⟩ := hx2
  obtain ⟨b, o, hb, hc, _⟩ := h5 t (by omega)
  have hm : Mat 0 22 3 w (vs.getD t (.slice none 0 0)) (LV t) := by
    obtain ⟨us, u1, u2, u3⟩ := (hLV t ht).1
    exact ⟨us, u1, Sl.own u2, u3⟩
  obtain ⟨ro, rc, hv, _, _⟩ := mat_open hm
  refine ⟨b, o, ro, rc, hb, ?_, ?_⟩
  · rw [← hv]
    have e : vs[t]? = some (vs.getD t (.slice none 0 0)) := by simp [show t < vs.length by omega]
    rw [e] at hc
    have hbl := lt_of_cell hc
    exact (hX.cell hbl).trans hc
  · rw [← hv]
    exact (hm.below hX (Nat.le_refl _)).more (Nat.zero_le _)

theorem LvV.low {w w2 : World} {x : Value} {j : Nat} {LV : Nat → List (List Int)} (h : LvV w x j LV) (hb : Below w.heap.size w w2) : LvV w2 x j LV := by
  obtain ⟨ao, cap, hx, h1⟩ := h.rows
  exact ⟨ao, cap, hx, fun X t hX ht => h1 X t (hb.trans (hX.mono hb.size)) ht⟩

set_option maxRecDepth 100000 in
set_option maxHeartbeats 800000 in
theorem countsOfR_any (j : Nat) (x : Value) (LV : Nat → List (List Int)) (w : World) (h : LvV w x j LV) (hj : j ≤ 100) :
    Calls Tryz.prog 10 #[x] w fun e w' => ∃ u, e = .returned u ∧ w'.ownsRow w.heap.size 3 1 u j (ints (cnF (fun t => (LV t).length) j)) ∧ Below w.heap.size w w' := by
  obtain ⟨i3, hi3, hz30, hz31, hz32⟩ := info_parts Tryz.info3
  obtain ⟨ao, cap, rfl, h1⟩ := h.rows
  have HCL : Hid (∀ X t, Below w.heap.size w X → t < j → ∃ b o ro rc, ao = some ⟨b, o, none⟩ ∧ X.cell? ⟨b, o + t, none⟩ = some (.slice ro (LV t).length rc)) := fun X t hX ht => by
    obtain ⟨b, o, ro, rc, e1, e2, _⟩ := h1 X t hX ht
    exact ⟨b, o, ro, rc, e1, e2⟩
  obtain ⟨L, hL⟩ : ∃ L : Nat → Nat, L = fun t => (LV t).length := ⟨_, rfl⟩
  have HLL : Hid (∀ t, (LV t).length = L t) := fun t => by rw [hL]
  rw [← hL]
  clear h h1 hL
  go_enter Tryz.func10, Tryz.ntmps10
  go_wp2
  go_loopw [3, 4] (fun x i wr => ∃ k : Nat, k ≤ j ∧ i = .int .i64 (k : Int) ∧ wr.ownsRow w.heap.size 3 1 x k (ints (cnF L k)) ∧ Below w.heap.size w wr) (fun _ i _ => j - (intOf i).toNat)
  case atStart => exact ⟨0, Nat.zero_le _, rfl, World.ownsRow_nil _ _ _ _, Below.refl _ _⟩
  case round =>
    obtain ⟨k, hk, rfl, ho, hb⟩ := hrel
    obtain ⟨xo, xc, hx⟩ := owns_form ho
    subst hx
    have HO : Hid (wr.ownsRow w.heap.size 3 1 (.slice xo k xc) k (ints (cnF L k))) := ho
    have HB : Hid (Below w.heap.size w wr) := hb
    have hsz : w.heap.size ≤ wr.heap.size := hb.size
    clear ho hb
    by_cases hlt : k < j
    · obtain ⟨b, o, ro, rc, hao, hc⟩ := HCL.out wr k HB.out hlt
      rw [HLL.out k] at hc
      have hkI : (k : Int) < (j : Int) := by omega
      have HS : Hid (ints (cnF L (k + 1)) = ints (cnF L k) ++ [.int .i64 (L k : Int)]) := cnF_succ L k
      subst hao
      clear HCL HLL
      generalize L k = lk at *
      go_wp2_with (first | (at_builtin; refine wpList_append_own _ rfl _ _ 22 rfl w.heap.size 3 i3 (.int .i64 0) 1 8 Tryz.underlying22 hi3 hz30 hz31 hz32 rfl (by decide) _ _ _ rfl (HO.out.alloc _) ⟨wr.heap.size, 0, none⟩ 1 1 [.int .i64 (lk : Int)] rfl rfl (one_new _ _ _) (one_int _) ?c3 ?c4 ?c5 ?_))
      case c3 => unfold maxLen; omega
      case c4 => omega
      case c5 => first | exact hsz | omega | (simp; omega)
      intro v' w3 ho hg _
      have HNX : Hid (w3.ownsRow w.heap.size 3 1 v' (k + 1) (ints (cnF L (k + 1)))) := by rw [HS.out]; exact ho
      have HB3 : Hid (Below w.heap.size w w3) := (HB.out.alloc hsz _).grown hg (by simp; omega) (fun y hy => (HO.out.lt y hy).1)
      clear ho hg hc
      go_wp2
      go_roundw
      case rel => exact ⟨k + 1, by omega, by go_num, HNX.out, HB3.out⟩
      case measure => simp [intOf]; omega
    · have hke : k = j := by omega
      subst hke
      clear HCL HLL
      go_wp2
      go_ret
      exact ⟨_, rfl, HO.out, HB.out⟩

end Go.Proofs.YtkfdpcgmpbopnaaGreatDoor
