import Derived.Test.YtdmkmljhljoojaaRows
import Derived.Test.YtdmkmljhljoojaaData
import Derived.Deep.QuietTactic
import Derived.BigQuiet
import Derived.WalkLawsBesides
import Derived.Deep.OwnRows
import Derived.Laws.ResultCell
/- The functions that only read: Far, FarAny, Same, SameAll of the document's answer. -/
namespace Go.Proofs.Ytdmkmljhljoojaa
open Go.RowKit

/-- Beyond a bound, either way. -/
def farB (v most : Int) : Bool := decide (most < v) || decide (v < -most)

theorem ret_bool {a b : Bool} (h : a = b) : Ending.returned (.bool a) = .returned (.bool b) := by rw [h]

set_option maxHeartbeats 400000 in
theorem far_any (v most : Int) (w : World) (h0 : 0 ≤ most) (h1 : most ≤ 1000000000000) :
    Calls Try.prog 27 #[.int .i64 v, .int .i64 most] w fun e w' => e = .returned (.bool (farB v most)) ∧ w' = w := by
  by_cases hb : most < v
  · go_enter Try.func27, Try.ntmps27
    go_wp2
    go_ret
    exact ⟨ret_bool (by simp [farB, hb]), rfl⟩
  · go_enter Try.func27, Try.ntmps27
    go_wp2
    go_ret
    exact ⟨ret_bool (by rw [farB, decide_eq_false (by omega : ¬ most < v)]; rfl), rfl⟩

theorem take_snoc_int (l : List Int) (k : Nat) (h : k < l.length) : l.take (k + 1) = l.take k ++ [l.getD k 0] := by
  rw [List.take_succ_eq_append_getElem h]; simp [h]

theorem sl_cell {B : Nat} {w : World} {v : Value} {zs : List Int} (h : Sl B 3 w v (ints zs)) {k : Nat} (hk : k < zs.length) :
    ∃ b o cap, v = .slice (some ⟨b, o, none⟩) zs.length cap ∧ zs.length ≤ cap ∧ w.cell? ⟨b, o + k, none⟩ = some (.int .i64 (zs.getD k 0)) := by
  obtain ⟨b, o, cap, hv, h1, _, h3⟩ := h.at (by simp; omega)
  simp only [ints_length] at hv h1 h3
  exact ⟨b, o, cap, hv, h1, by rw [h3 k hk, ints_get zs k hk]⟩

theorem any_snoc {p : Int → Bool} {l : List Int} {k : Nat} (h : k < l.length) (h0 : (l.take k).any p = false) : (l.take (k + 1)).any p = p l[k] := by
  rw [List.take_succ_eq_append_getElem h, List.any_append, h0]; simp

theorem any_hit {p : Int → Bool} {l : List Int} {k : Nat} (h : k < l.length) (h0 : p l[k] = true) : l.any p = true :=
  List.any_eq_true.2 ⟨l[k], List.getElem_mem h, h0⟩

set_option maxHeartbeats 400000 in
theorem farAny_any (B : Nat) (zs : List Int) (v : Value) (most : Int) (w : World) (hv : Sl B 3 w v (ints zs)) (h0 : 0 ≤ most) (h1 : most ≤ 1000000000000) :
    Calls Try.prog 14 #[v, .int .i64 most] w fun e w' => e = .returned (.bool (zs.any (farB · most))) ∧ w' = w := by
  have hv' := hv
  obtain ⟨ao, cap, hvv, hlc, hcm, -⟩ := hv'
  simp only [ints_length] at hlc hvv
  subst hvv
  have HV : Hid (Sl B 3 w (.slice ao zs.length cap) (ints zs)) := hv
  clear hv
  unfold maxLen at hcm
  go_enter Try.func14, Try.ntmps14
  go_wp2
  go_loop [5] (fun i => ∃ k : Nat, k ≤ zs.length ∧ i = .int .i64 k ∧ (zs.take k).any (farB · most) = false) (fun i => zs.length - (intOf i).toNat)
  case atStart => exact ⟨0, Nat.zero_le _, rfl, by simp⟩
  case round =>
    obtain ⟨k, hk, rfl, hno⟩ := hrel
    have HN : Hid ((zs.take k).any (farB · most) = false) := hno
    clear hno
    by_cases hlt : k < zs.length
    · obtain ⟨b, o, cp, hs, hc1, hcc⟩ := sl_cell HV.out hlt
      simp only [Value.slice.injEq] at hs
      obtain ⟨rfl, _, rfl⟩ := hs
      go_wp2_with (go_at_call 27; refine (far_any _ _ _ (by omega) (by omega)).mono ?_; rintro e w' ⟨rfl, rfl⟩)
      · have hf : farB zs[k] most = true := by assumption
        go_ret
        exact ⟨ret_bool (any_hit (p := (farB · most)) hlt hf).symm, rfl⟩
      · have hf : farB zs[k] most = false := by assumption
        go_round
        case rel => exact ⟨k + 1, by omega, by go_num, (any_snoc hlt HN.out).trans hf⟩
        case measure => simp [intOf]; omega
    · go_wp2
      go_ret
      have : zs.take k = zs := List.take_of_length_le (by omega)
      exact ⟨ret_bool (by rw [← HN.out, this]), rfl⟩

theorem mat_cell {B : Nat} {w : World} {v : Value} {m : List (List Int)} (h : Mat B 25 3 w v m) {k : Nat} (hk : k < m.length) :
    ∃ b o cap u, v = .slice (some ⟨b, o, none⟩) m.length cap ∧ m.length ≤ cap ∧ w.cell? ⟨b, o + k, none⟩ = some u ∧ Sl B 3 w u (ints (m.getD k [])) := by
  obtain ⟨vs, h1, h2, h3⟩ := h
  obtain ⟨b, o, cap, hv, hc, _, h4⟩ := h2.at (by omega)
  rw [h1] at hv hc
  refine ⟨b, o, cap, vs.getD k (.slice none 0 0), hv, hc, ?_, h3 k hk⟩
  rw [h4 k (by omega)]
  simp [show k < vs.length by omega]

theorem mat_open {B : Nat} {w : World} {v : Value} {m : List (List Int)} (h : Mat B 25 3 w v m) : ∃ ao cap, v = .slice ao m.length cap ∧ m.length ≤ cap ∧ cap ≤ 9223372036854775807 := by
  obtain ⟨vs, h1, ⟨ao, cap, rfl, h2, h3, _⟩, _⟩ := h
  refine ⟨ao, cap, by rw [h1], by omega, ?_⟩
  unfold maxLen at h3; omega

theorem sl_open {B : Nat} {e : TypeId} {w : World} {v : Value} {x : List Int} (h : Sl B e w v (ints x)) : ∃ ao cap, v = .slice ao x.length cap ∧ x.length ≤ cap ∧ cap ≤ 9223372036854775807 := by
  obtain ⟨ao, cap, rfl, h2, h3, _⟩ := h
  refine ⟨ao, cap, by simp, by simpa using h2, ?_⟩
  unfold maxLen at h3; omega

theorem Mat.drewN {B : Nat} {e2 e1 : TypeId} {w : World} {v : Value} {m : List (List Int)} (h : Mat B e2 e1 w v m) (n : Nat) : Mat B e2 e1 (w.drewN n) v m := h
theorem Sl.drewN {B : Nat} {e : TypeId} {w : World} {v : Value} {m : List Value} (h : Sl B e w v m) (n : Nat) : Sl B e (w.drewN n) v m := h

end Go.Proofs.Ytdmkmljhljoojaa

/- Plain facts: the powers of a small number, and the points of a cyclic polytope. -/

namespace Go.Proofs.Ytdmkmljhljoojaa

/-- t, t^2, .. (d of them). -/
def pw (t : Int) : Nat → List Int
  | 0 => []
  | d + 1 => pw t d ++ [t ^ (d + 1)]

@[simp] theorem pw_length (t : Int) (d : Nat) : (pw t d).length = d := by
  induction d with
  | zero => rfl
  | succ d ih => simp [pw, ih]

/-- The points of a cyclic polytope: the first k of n. -/
def cpts (n d : Nat) : Nat → List (List Int)
  | 0 => []
  | k + 1 => cpts n d k ++ [pw ((k : Int) - (n : Int) / 2) d]

@[simp] theorem cpts_length (n d k : Nat) : (cpts n d k).length = k := by
  induction k with
  | zero => rfl
  | succ k ih => simp [cpts, ih]

end Go.Proofs.Ytdmkmljhljoojaa

/- The walks of Cyclic and of the document's answer to it. -/
namespace Go.Proofs.Ytdmkmljhljoojaa
open Go.RowKit

theorem Try.info3 : (Try.prog.info? 3).map (fun i => (i.zero, i.size, i.bytes)) = some (some (.int .i64 0), 1, 8) := by kernel_rfl
theorem Try.info25 : (Try.prog.info? 25).map (fun i => (i.zero, i.size, i.bytes)) = some (some (.slice none 0 0), 1, 24) := by kernel_rfl

theorem Sl.row {B b : Nat} {e : TypeId} {w : World} {n : Nat} {f : Nat → Value} {xs : List Value} (h : w.rowIs b e n f) (hn : xs.length = n) (hm : n ≤ maxLen) (hx : ∀ i, i < n → xs[i]? = some (f i)) :
    Sl B e w (.slice (some ⟨b, 0, none⟩) n n) xs := by
  refine ⟨_, n, by rw [hn], by omega, hm, fun i hi => ⟨b, 0, rfl, ?_, ?_⟩, fun h => by cases h⟩
  · rw [hx i (by omega), Nat.zero_add]; exact h.cell (by omega)
  · obtain ⟨c, hb, _, _⟩ := h; exact Or.inr ⟨c, hb⟩

/-- The first place at which p holds, or -1. -/
def findI (p : Int → Bool) (zs : List Int) : Int := if zs.any p then (zs.findIdx p : Int) else -1

theorem ret_int {k : IntKind} {a b : Int} (h : a = b) : Ending.returned (.int k a) = .returned (.int k b) := by rw [h]

theorem findI_hit {p : Int → Bool} {l : List Int} {k : Nat} (h : k < l.length) (h0 : (l.take k).any p = false) (h1 : p l[k] = true) : findI p l = k := by
  have ha : l.any p = true := any_hit h h1
  have hi : l.findIdx p = k := by
    rw [List.findIdx_eq h]
    refine ⟨h1, fun j hj => ?_⟩
    have := List.any_eq_false.1 h0 l[j] (by rw [List.mem_take_iff_getElem]; exact ⟨j, by omega, rfl⟩)
    simpa using this
  simp [findI, ha, hi]

theorem findI_none {p : Int → Bool} {l : List Int} (h0 : l.any p = false) : findI p l = -1 := by
  unfold findI; rw [h0]; rfl

theorem findI_ge {p : Int → Bool} {l : List Int} : decide (0 ≤ findI p l) = l.any p := by
  cases h : l.any p
  · rw [findI_none h]; rfl
  · unfold findI; rw [h]; simp

end Go.Proofs.Ytdmkmljhljoojaa
