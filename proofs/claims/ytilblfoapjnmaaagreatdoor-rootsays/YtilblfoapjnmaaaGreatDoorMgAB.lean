import Derived.Test.YtilblfoapjnmaaaGreatDoorRows
import Derived.Test.YtilblfoapjnmaaaGreatDoorMgAA
import Derived.Deep.QuietTactic
import Derived.BigQuiet
import Derived.WalkLawsBesides
import Derived.Deep.OwnRows
import Derived.Laws.ResultCell
/- The functions that only read: Far, FarAny, Same, SameAll of the document's answer. -/
namespace Go.Proofs.YtilblfoapjnmaaaGreatDoor
open Go.RowKit

theorem ret_bool {a b : Bool} (h : a = b) : Ending.returned (.bool a) = .returned (.bool b) := by rw [h]

theorem sl_cell {B : Nat} {w : World} {v : Value} {zs : List Int} (h : Sl B 3 w v (ints zs)) {k : Nat} (hk : k < zs.length) :
    ∃ b o cap, v = .slice (some ⟨b, o, none⟩) zs.length cap ∧ zs.length ≤ cap ∧ w.cell? ⟨b, o + k, none⟩ = some (.int .i64 (zs.getD k 0)) := by
  obtain ⟨b, o, cap, hv, h1, _, h3⟩ := h.at (by simp; omega)
  simp only [ints_length] at hv h1 h3
  exact ⟨b, o, cap, hv, h1, by rw [h3 k hk, ints_get zs k hk]⟩

theorem eq_of_all {x y : List Int} (hl : x.length = y.length) (h : ∀ i, i < x.length → x.getD i 0 = y.getD i 0) : x = y := by
  apply List.ext_getElem hl
  intro i h1 h2
  have := h i h1
  simpa [h1, h2] using this

set_option maxHeartbeats 400000 in
theorem same_any (B : Nat) (x y : List Int) (u v : Value) (w : World) (hu : Sl B 3 w u (ints x)) (hv : Sl B 3 w v (ints y)) :
    Calls Tryz.prog 38 #[u, v] w fun e w' => e = .returned (.bool (x == y)) ∧ ∃ n, w' = w.drewN n := by
  have hu' := hu
  have hv' := hv
  obtain ⟨ao, cap, hvv, hlc, hcm, -⟩ := hu'
  obtain ⟨bo, cbp, huu, hlb, hcb, -⟩ := hv'
  simp only [ints_length] at hlc hvv hlb huu
  subst hvv huu
  have HU : Hid (Sl B 3 w (.slice ao x.length cap) (ints x)) := hu
  have HV : Hid (Sl B 3 w (.slice bo y.length cbp) (ints y)) := hv
  clear hu hv
  unfold maxLen at hcm hcb
  by_cases hl : x.length = y.length
  · have hbe : ((x.length : Int) != (y.length : Int)) = false := by simp [hl]
    have HL : Hid (x.length = y.length) := hl
    have hle : y.length ≤ x.length := by omega
    have hge : x.length ≤ y.length := by omega
    clear hl
    go_enter Tryz.func38, Tryz.ntmps38
    go_wp2
    go_loopw [5] (fun i wr => ∃ k : Nat, k ≤ x.length ∧ i = .int .i64 k ∧ (∀ j, j < k → x.getD j 0 = y.getD j 0) ∧ ∃ n, wr = w.drewN n) (fun i _ => x.length - (intOf i).toNat)
    case atStart => exact ⟨0, Nat.zero_le _, rfl, fun j hj => absurd hj (by omega), 0, rfl⟩
    case round =>
      obtain ⟨k, hk, rfl, hno, n, rfl⟩ := hrel
      have HN : Hid (∀ j, j < k → x.getD j 0 = y.getD j 0) := hno
      clear hno
      by_cases hlt : k < x.length
      · have hlt2 : k < y.length := by omega
        obtain ⟨b, o, cp, hs, hc1, hcc⟩ := sl_cell HU.out hlt
        simp only [Value.slice.injEq] at hs
        obtain ⟨rfl, _, rfl⟩ := hs
        obtain ⟨b2, o2, cp2, hs2, hc2, hcc2⟩ := sl_cell HV.out hlt2
        simp only [Value.slice.injEq] at hs2
        obtain ⟨rfl, _, rfl⟩ := hs2
        go_wp2
        go_quiet (fail)
        go_wp2
        · have hf : (x[k] != y[k]) = true := by assumption
          go_ret
          refine ⟨ret_bool (Eq.symm ?_), n + nq, by rw [World.drewN_drewN]⟩
          rw [beq_eq_false_iff_ne]
          rintro rfl
          simp at hf
        · have hf : (x[k] != y[k]) = false := by assumption
          go_roundw
          case rel =>
            refine ⟨k + 1, by omega, by go_num, fun j hj => ?_, _, rfl⟩
            by_cases hjk : j < k
            · exact HN.out j hjk
            · have : j = k := by omega
              subst this
              simpa [hlt, hlt2] using hf
          case measure => simp [intOf]; omega
      · go_wp2
        go_ret
        refine ⟨ret_bool (Eq.symm ?_), _, rfl⟩
        rw [beq_iff_eq]
        exact eq_of_all HL.out fun i hi => HN.out i (by omega)
  · have hbe : ((x.length : Int) != (y.length : Int)) = true := by simp; omega
    go_enter Tryz.func38, Tryz.ntmps38
    go_wp2
    go_ret
    refine ⟨ret_bool (Eq.symm ?_), 0, rfl⟩
    rw [beq_eq_false_iff_ne]
    rintro rfl
    exact hl rfl

theorem mat_cell {B : Nat} {w : World} {v : Value} {m : List (List Int)} (h : Mat B 26 3 w v m) {k : Nat} (hk : k < m.length) :
    ∃ b o cap u, v = .slice (some ⟨b, o, none⟩) m.length cap ∧ m.length ≤ cap ∧ w.cell? ⟨b, o + k, none⟩ = some u ∧ Sl B 3 w u (ints (m.getD k [])) := by
  obtain ⟨vs, h1, h2, h3⟩ := h
  obtain ⟨b, o, cap, hv, hc, _, h4⟩ := h2.at (by omega)
  rw [h1] at hv hc
  refine ⟨b, o, cap, vs.getD k (.slice none 0 0), hv, hc, ?_, h3 k hk⟩
  rw [h4 k (by omega)]
  simp [show k < vs.length by omega]

theorem mat_open {B : Nat} {w : World} {v : Value} {m : List (List Int)} (h : Mat B 26 3 w v m) : ∃ ao cap, v = .slice ao m.length cap ∧ m.length ≤ cap ∧ cap ≤ 9223372036854775807 := by
  obtain ⟨vs, h1, ⟨ao, cap, rfl, h2, h3, _⟩, _⟩ := h
  refine ⟨ao, cap, by rw [h1], by omega, ?_⟩
  unfold maxLen at h3; omega

theorem sl_open {B : Nat} {e : TypeId} {w : World} {v : Value} {x : List Int} (h : Sl B e w v (ints x)) : ∃ ao cap, v = .slice ao x.length cap ∧ x.length ≤ cap ∧ cap ≤ 9223372036854775807 := by
  obtain ⟨ao, cap, rfl, h2, h3, _⟩ := h
  refine ⟨ao, cap, by simp, by simpa using h2, ?_⟩
  unfold maxLen at h3; omega

theorem eq_of_all_rows {x y : List (List Int)} (hl : x.length = y.length) (h : ∀ i, i < x.length → x.getD i [] = y.getD i []) : x = y := by
  apply List.ext_getElem hl
  intro i h1 h2
  have := h i h1
  simpa [h1, h2] using this

theorem Mat.drewN {B : Nat} {e2 e1 : TypeId} {w : World} {v : Value} {m : List (List Int)} (h : Mat B e2 e1 w v m) (n : Nat) : Mat B e2 e1 (w.drewN n) v m := h
theorem Sl.drewN {B : Nat} {e : TypeId} {w : World} {v : Value} {m : List Value} (h : Sl B e w v m) (n : Nat) : Sl B e (w.drewN n) v m := h

set_option maxHeartbeats 400000 in
theorem sameAll_any (B : Nat) (x y : List (List Int)) (u v : Value) (w : World) (hu : Mat B 26 3 w u x) (hv : Mat B 26 3 w v y) :
    Calls Tryz.prog 37 #[u, v] w fun e w' => e = .returned (.bool (x == y)) ∧ ∃ n, w' = w.drewN n := by
  obtain ⟨ao, cap, hvv, hlc, hcm⟩ := mat_open hu
  obtain ⟨bo, cbp, huu, hlb, hcb⟩ := mat_open hv
  subst hvv huu
  have HU : Hid (Mat B 26 3 w (.slice ao x.length cap) x) := hu
  have HV : Hid (Mat B 26 3 w (.slice bo y.length cbp) y) := hv
  clear hu hv
  by_cases hl : x.length = y.length
  · have hbe : ((x.length : Int) != (y.length : Int)) = false := by simp [hl]
    have HL : Hid (x.length = y.length) := hl
    have hle : y.length ≤ x.length := by omega
    have hge : x.length ≤ y.length := by omega
    clear hl
    go_enter Tryz.func37, Tryz.ntmps37
    go_wp2
    go_loopw [5] (fun i wr => ∃ k : Nat, k ≤ x.length ∧ i = .int .i64 k ∧ (∀ j, j < k → x.getD j [] = y.getD j []) ∧ ∃ n, wr = w.drewN n) (fun i _ => x.length - (intOf i).toNat)
    case atStart => exact ⟨0, Nat.zero_le _, rfl, fun j hj => absurd hj (by omega), 0, rfl⟩
    case round =>
      obtain ⟨k, hk, rfl, hno, n, hwr⟩ := hrel
      have HUr : Hid (Mat B 26 3 wr (.slice ao x.length cap) x) := by subst hwr; exact HU.out.drewN n
      have HVr : Hid (Mat B 26 3 wr (.slice bo y.length cbp) y) := by subst hwr; exact HV.out.drewN n
      have HW : Hid (∃ n, wr = w.drewN n) := ⟨n, hwr⟩
      clear hwr HU HV
      have HN : Hid (∀ j, j < k → x.getD j [] = y.getD j []) := hno
      clear hno
      by_cases hlt : k < x.length
      · have hlt2 : k < y.length := by omega
        obtain ⟨b, o, cp, r1, hs, hc1, hcc, hr1⟩ := mat_cell HUr.out hlt
        simp only [Value.slice.injEq] at hs
        obtain ⟨rfl, _, rfl⟩ := hs
        obtain ⟨b2, o2, cp2, r2, hs2, hc2, hcc2, hr2⟩ := mat_cell HVr.out hlt2
        simp only [Value.slice.injEq] at hs2
        obtain ⟨rfl, _, rfl⟩ := hs2
        have HR1 : Hid (Sl B 3 wr r1 (ints (x.getD k []))) := hr1
        have HR2 : Hid (Sl B 3 wr r2 (ints (y.getD k []))) := hr2
        clear hr1 hr2
        go_wp2
        go_quiet ((go_at_call 38; exact Calls.quiet_of (w := wr) (same_any B (x.getD k []) (y.getD k []) _ _ _ (HR1.out.drewN _) (HR2.out.drewN _))))
        go_wp2
        · have hf : (!x[k] == y[k]) = true := by assumption
          go_ret
          refine ⟨ret_bool (Eq.symm ?_), ?_⟩
          · rw [beq_eq_false_iff_ne]
            rintro rfl
            simp at hf
          · obtain ⟨n, hn⟩ := HW.out
            exact ⟨n + nq, by rw [hn, World.drewN_drewN]⟩
        · have hf : (!x[k] == y[k]) = false := by assumption
          go_roundw
          case rel =>
            refine ⟨k + 1, by omega, by go_num, fun j hj => ?_, ?_⟩
            · by_cases hjk : j < k
              · exact HN.out j hjk
              · have : j = k := by omega
                subst this
                simpa [hlt, hlt2] using hf
            · obtain ⟨n, hn⟩ := HW.out
              exact ⟨n + nq, by rw [hn, World.drewN_drewN]⟩
          case measure => simp [intOf]; omega
      · go_wp2
        go_ret
        refine ⟨ret_bool (Eq.symm ?_), HW.out⟩
        rw [beq_iff_eq]
        exact eq_of_all_rows HL.out fun i hi => HN.out i (by omega)
  · have hbe : ((x.length : Int) != (y.length : Int)) = true := by simp; omega
    go_enter Tryz.func37, Tryz.ntmps37
    go_wp2
    go_ret
    refine ⟨ret_bool (Eq.symm ?_), 0, rfl⟩
    rw [beq_eq_false_iff_ne]
    rintro rfl
    exact hl rfl

end Go.Proofs.YtilblfoapjnmaaaGreatDoor

/- Plain facts: the powers of a small number, and the points of a cyclic polytope. -/

namespace Go.Proofs.YtilblfoapjnmaaaGreatDoor

/-- t, t^2, .. (d of them). -/
def pw (t : Int) : Nat → List Int
  | 0 => []
  | d + 1 => pw t d ++ [t ^ (d + 1)]

@[simp] theorem pw_length (t : Int) (d : Nat) : (pw t d).length = d := by
  induction d with
  | zero => rfl
  | succ d ih => simp [pw, ih]

/-- The points of a cyclic polytope: the first k of n. -/
def cpts (n d : Nat) : Nat → List (List Int)
  | 0 => []
  | k + 1 => cpts n d k ++ [pw ((k : Int) - (n : Int) / 2) d]

@[simp] theorem cpts_length (n d k : Nat) : (cpts n d k).length = k := by
  induction k with
  | zero => rfl
  | succ k ih => simp [cpts, ih]

end Go.Proofs.YtilblfoapjnmaaaGreatDoor

/- The walks of Cyclic and of the document's answer to it. -/
namespace Go.Proofs.YtilblfoapjnmaaaGreatDoor
open Go.RowKit

theorem Tryz.info3 : (Tryz.prog.info? 3).map (fun i => (i.zero, i.size, i.bytes)) = some (some (.int .i64 0), 1, 8) := by kernel_rfl
theorem Tryz.info26 : (Tryz.prog.info? 26).map (fun i => (i.zero, i.size, i.bytes)) = some (some (.slice none 0 0), 1, 24) := by kernel_rfl

theorem Sl.row {B b : Nat} {e : TypeId} {w : World} {n : Nat} {f : Nat → Value} {xs : List Value} (h : w.rowIs b e n f) (hn : xs.length = n) (hm : n ≤ maxLen) (hx : ∀ i, i < n → xs[i]? = some (f i)) :
    Sl B e w (.slice (some ⟨b, 0, none⟩) n n) xs := by
  refine ⟨_, n, by rw [hn], by omega, hm, fun i hi => ⟨b, 0, rfl, ?_, ?_⟩, fun h => by cases h⟩
  · rw [hx i (by omega), Nat.zero_add]; exact h.cell (by omega)
  · obtain ⟨c, hb, _, _⟩ := h; exact Or.inr ⟨c, hb⟩

end Go.Proofs.YtilblfoapjnmaaaGreatDoor
