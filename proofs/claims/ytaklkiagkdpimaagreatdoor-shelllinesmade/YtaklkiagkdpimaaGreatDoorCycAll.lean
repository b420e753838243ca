/- Plain facts: the powers of a small number, and the points of a cyclic polytope. -/
import Derived.Test.YtaklkiagkdpimaaGreatDoorDatA
import Derived.Deep.OwnRows
import Derived.Laws.ResultCell

namespace Go.Proofs.YtaklkiagkdpimaaGreatDoor

/-- t, t^2, .. (d of them). -/
def pw (t : Int) : Nat → List Int
  | 0 => []
  | d + 1 => pw t d ++ [t ^ (d + 1)]

@[simp] theorem pw_length (t : Int) (d : Nat) : (pw t d).length = d := by
  induction d with
  | zero => rfl
  | succ d ih => simp [pw, ih]

/-- The points of a cyclic polytope: the first k of n. -/
def cpts (n d : Nat) : Nat → List (List Int)
  | 0 => []
  | k + 1 => cpts n d k ++ [pw ((k : Int) - (n : Int) / 2) d]

@[simp] theorem cpts_length (n d k : Nat) : (cpts n d k).length = k := by
  induction k with
  | zero => rfl
  | succ k ih => simp [cpts, ih]

end Go.Proofs.YtaklkiagkdpimaaGreatDoor

/- The walks of Cyclic and of the document's answer to it. -/
namespace Go.Proofs.YtaklkiagkdpimaaGreatDoor
open Go.RowKit

theorem Tryz.info3 : (Tryz.prog.info? 3).map (fun i => (i.zero, i.size, i.bytes)) = some (some (.int .i64 0), 1, 8) := by kernel_rfl
theorem Tryz.info22 : (Tryz.prog.info? 22).map (fun i => (i.zero, i.size, i.bytes)) = some (some (.slice none 0 0), 1, 24) := by kernel_rfl

theorem Sl.row {B b : Nat} {e : TypeId} {w : World} {n : Nat} {f : Nat → Value} {xs : List Value} (h : w.rowIs b e n f) (hn : xs.length = n) (hm : n ≤ maxLen) (hx : ∀ i, i < n → xs[i]? = some (f i)) :
    Sl B e w (.slice (some ⟨b, 0, none⟩) n n) xs := by
  refine ⟨_, n, by rw [hn], by omega, hm, fun i hi => ⟨b, 0, rfl, ?_, ?_⟩, fun h => by cases h⟩
  · rw [hx i (by omega), Nat.zero_add]; exact h.cell (by omega)
  · obtain ⟨c, hb, _, _⟩ := h; exact Or.inr ⟨c, hb⟩

set_option maxHeartbeats 400000 in
theorem beyond_any (x most : Int) (w : World) (a : Addr) (h0 : 0 ≤ most) (h1 : most ≤ 1000000) (hc : w.cell? a = some (.int .i64 most)) :
    Calls Tryz.prog 60 #[.int .i64 x, .pointer (some a)] w fun e w' => e = .returned (.bool (farB x most)) ∧ w' = w := by
  by_cases hb : most < x
  · go_enter Tryz.func60, Tryz.ntmps60
    go_wp2
    go_ret
    exact ⟨ret_bool (by simp [farB, hb]), rfl⟩
  · go_enter Tryz.func60, Tryz.ntmps60
    go_wp2
    go_ret
    exact ⟨ret_bool (by rw [farB, decide_eq_false (by omega : ¬ most < x)]; rfl), rfl⟩

/-- The first place at which p holds, or -1. -/
def findI (p : Int → Bool) (zs : List Int) : Int := if zs.any p then (zs.findIdx p : Int) else -1

theorem ret_int {k : IntKind} {a b : Int} (h : a = b) : Ending.returned (.int k a) = .returned (.int k b) := by rw [h]

theorem findI_hit {p : Int → Bool} {l : List Int} {k : Nat} (h : k < l.length) (h0 : (l.take k).any p = false) (h1 : p l[k] = true) : findI p l = k := by
  have ha : l.any p = true := any_hit h h1
  have hi : l.findIdx p = k := by
    rw [List.findIdx_eq h]
    refine ⟨h1, fun j hj => ?_⟩
    have := List.any_eq_false.1 h0 l[j] (by rw [List.mem_take_iff_getElem]; exact ⟨j, by omega, rfl⟩)
    simpa using this
  simp [findI, ha, hi]

theorem findI_none {p : Int → Bool} {l : List Int} (h0 : l.any p = false) : findI p l = -1 := by
  unfold findI; rw [h0]; rfl

theorem findI_ge {p : Int → Bool} {l : List Int} : decide (0 ≤ findI p l) = l.any p := by
  cases h : l.any p
  · rw [findI_none h]; rfl
  · unfold findI; rw [h]; simp

set_option maxHeartbeats 400000 in
theorem index89_any (B : Nat) (zs : List Int) (v : Value) (most : Int) (a : Addr) (w : World) (hv : Sl B 3 w v (ints zs)) (h0 : 0 ≤ most) (h1 : most ≤ 1000000) (hc : w.cell? a = some (.int .i64 most)) :
    Calls Tryz.prog 73 #[v, .func (.func 60) #[] #[.pointer (some a)]] w fun e w' => e = .returned (.int .i64 (findI (farB · most) zs)) ∧ w' = w := by
  obtain ⟨ao, cap, hvv, hlc, hcm⟩ := sl_open hv
  subst hvv
  have HV : Hid (Sl B 3 w (.slice ao zs.length cap) (ints zs)) := hv
  clear hv
  go_enter Tryz.func73, Tryz.ntmps73
  go_wp2
  go_loop [8] (fun i => ∃ k : Nat, k ≤ zs.length ∧ i = .int .i64 k ∧ (zs.take k).any (farB · most) = false) (fun i => zs.length - (intOf i).toNat)
  case atStart => exact ⟨0, Nat.zero_le _, rfl, by simp⟩
  case round =>
    obtain ⟨k, hk, rfl, hno⟩ := hrel
    have HN : Hid ((zs.take k).any (farB · most) = false) := hno
    clear hno
    by_cases hlt : k < zs.length
    · obtain ⟨b, o, cp, hs, hc1, hcc⟩ := sl_cell HV.out hlt
      simp only [Value.slice.injEq] at hs
      obtain ⟨rfl, _, rfl⟩ := hs
      go_wp2_with (go_at_call 60; refine (beyond_any _ most _ a (by omega) (by omega) (by exact hc)).mono ?_; rintro e w' ⟨rfl, rfl⟩)
      · have hf : farB zs[k] most = true := by assumption
        go_ret
        exact ⟨ret_int (findI_hit (p := (farB · most)) hlt HN.out hf).symm, rfl⟩
      · have hf : farB zs[k] most = false := by assumption
        go_round
        case rel => exact ⟨k + 1, by omega, by go_num, (any_snoc hlt HN.out).trans hf⟩
        case measure => simp [intOf]; omega
    · go_wp2
      go_ret
      have e : zs.take k = zs := List.take_of_length_le (by omega)
      exact ⟨ret_int (findI_none (by rw [← HN.out, e])).symm, rfl⟩

set_option maxHeartbeats 400000 in
theorem contains89_any (B : Nat) (zs : List Int) (v : Value) (most : Int) (a : Addr) (w : World) (hv : Sl B 3 w v (ints zs)) (h0 : 0 ≤ most) (h1 : most ≤ 1000000) (hc : w.cell? a = some (.int .i64 most)) :
    Calls Tryz.prog 59 #[v, .func (.func 60) #[] #[.pointer (some a)]] w fun e w' => e = .returned (.bool (zs.any (farB · most))) ∧ w' = w := by
  go_enter Tryz.func59, Tryz.ntmps59
  go_wp2_with fail
  refine (index89_any B zs v most a w hv h0 h1 hc).mono ?_
  rintro e w' ⟨rfl, rfl⟩
  go_wp2
  go_ret
  exact ⟨ret_bool findI_ge, rfl⟩

set_option maxHeartbeats 400000 in
theorem anyBeyond_any (B : Nat) (zs : List Int) (v : Value) (most : Int) (w : World) (hv : Sl B 3 w v (ints zs)) (h0 : 0 ≤ most) (h1 : most ≤ 1000000) :
    Calls Tryz.prog 39 #[v, .int .i64 most] w fun e w' => e = .returned (.bool (zs.any (farB · most))) ∧ Below w.heap.size w w' := by
  go_enter Tryz.func39, Tryz.ntmps39
  go_wp2_with fail
  refine (contains89_any B zs v most ⟨w.heap.size, 0, none⟩ _ (hv.alloc _) h0 h1 (by simp)).mono ?_
  rintro e w' ⟨rfl, rfl⟩
  go_wp2
  go_ret
  exact ⟨rfl, (Below.refl _ _).alloc (Nat.le_refl _) _⟩


end Go.Proofs.YtaklkiagkdpimaaGreatDoor
