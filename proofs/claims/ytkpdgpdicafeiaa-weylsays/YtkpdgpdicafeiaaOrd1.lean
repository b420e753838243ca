/- Lists compared, and whether they are one. -/
import Derived.Test.YtkpdgpdicafeiaaDatA
namespace Go.Proofs.Ytkpdgpdicafeiaa
open Go.RowKit

def cmpI (x y : Int) : Int := if x < y then -1 else if y < x then 1 else 0

/-- In order, as lists. -/
def cmpL : List Int → List Int → Int
  | [], [] => 0
  | [], _ :: _ => -1
  | _ :: _, [] => 1
  | x :: xs, y :: ys => if x < y then -1 else if y < x then 1 else cmpL xs ys

theorem cmpL_at {x y : List Int} {k : Nat} (h1 : k < x.length) (h2 : k < y.length) : cmpL (x.drop k) (y.drop k) = if cmpI (x.getD k 0) (y.getD k 0) = 0 then cmpL (x.drop (k + 1)) (y.drop (k + 1)) else cmpI (x.getD k 0) (y.getD k 0) := by
  rw [List.drop_eq_getElem_cons h1, List.drop_eq_getElem_cons h2]
  simp only [cmpL, cmpI, List.getD_eq_getElem?_getD, List.getElem?_eq_getElem h1, List.getElem?_eq_getElem h2, Option.getD_some]
  by_cases a : x[k] < y[k]
  · simp [a]
  · by_cases b : y[k] < x[k]
    · simp [a, b]
    · simp [a, b]

set_option maxRecDepth 100000 in
set_option maxHeartbeats 400000 in
theorem equal_any (B : Nat) (x y : List Int) (u v : Value) (w : World) (hu : Sl B 3 w u (ints x)) (hv : Sl B 3 w v (ints y)) :
    Calls Try.prog 30 #[u, v] w fun e w' => e = .returned (.bool (x == y)) ∧ ∃ n, w' = w.drewN n := by
  have hu' := hu
  have hv' := hv
  obtain ⟨ao, cap, hvv, hlc, hcm, -⟩ := hu'
  obtain ⟨bo, cbp, huu, hlb, hcb, -⟩ := hv'
  simp only [ints_length] at hlc hvv hlb huu
  subst hvv huu
  have HU : Hid (Sl B 3 w (.slice ao x.length cap) (ints x)) := hu
  have HV : Hid (Sl B 3 w (.slice bo y.length cbp) (ints y)) := hv
  clear hu hv
  unfold maxLen at hcm hcb
  by_cases hl : x.length = y.length
  · have hbe : ((x.length : Int) != (y.length : Int)) = false := by simp [hl]
    have HL : Hid (x.length = y.length) := hl
    have hle : y.length ≤ x.length := by omega
    have hge : x.length ≤ y.length := by omega
    clear hl
    go_enter Try.func30, Try.ntmps30
    go_wp2
    go_loopw [13] (fun i wr => ∃ k : Nat, k ≤ x.length ∧ i = .int .i64 k ∧ (∀ j, j < k → x.getD j 0 = y.getD j 0) ∧ ∃ n, wr = w.drewN n) (fun i _ => x.length - (intOf i).toNat)
    case atStart => exact ⟨0, Nat.zero_le _, rfl, fun j hj => absurd hj (by omega), 0, rfl⟩
    case round =>
      obtain ⟨k, hk, rfl, hno, n, rfl⟩ := hrel
      have HN : Hid (∀ j, j < k → x.getD j 0 = y.getD j 0) := hno
      clear hno
      by_cases hlt : k < x.length
      · have hlt2 : k < y.length := by omega
        obtain ⟨b, o, cp, hs, hc1, hcc⟩ := sl_cell HU.out hlt
        simp only [Value.slice.injEq] at hs
        obtain ⟨rfl, _, rfl⟩ := hs
        obtain ⟨b2, o2, cp2, hs2, hc2, hcc2⟩ := sl_cell HV.out hlt2
        simp only [Value.slice.injEq] at hs2
        obtain ⟨rfl, _, rfl⟩ := hs2
        go_wp2
        go_quiet (fail)
        go_wp2
        · have hf : (x[k] != y[k]) = true := by assumption
          go_ret
          refine ⟨ret_bool (Eq.symm ?_), n + nq, by rw [World.drewN_drewN]⟩
          rw [beq_eq_false_iff_ne]
          rintro rfl
          simp at hf
        · have hf : (x[k] != y[k]) = false := by assumption
          go_roundw
          case rel =>
            refine ⟨k + 1, by omega, by go_num, fun j hj => ?_, _, rfl⟩
            by_cases hjk : j < k
            · exact HN.out j hjk
            · have : j = k := by omega
              subst this
              simpa [hlt, hlt2] using hf
          case measure => simp [intOf]; omega
      · go_wp2
        go_ret
        refine ⟨ret_bool (Eq.symm ?_), _, rfl⟩
        rw [beq_iff_eq]
        exact eq_of_all HL.out fun i hi => HN.out i (by omega)
  · have hbe : ((x.length : Int) != (y.length : Int)) = true := by simp; omega
    go_enter Try.func30, Try.ntmps30
    go_wp2
    go_ret
    refine ⟨ret_bool (Eq.symm ?_), 0, rfl⟩
    rw [beq_eq_false_iff_ne]
    rintro rfl
    exact hl rfl

end Go.Proofs.Ytkpdgpdicafeiaa
