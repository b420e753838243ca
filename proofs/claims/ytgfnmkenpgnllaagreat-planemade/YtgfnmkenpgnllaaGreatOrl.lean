/- cmp.Or of numbers. -/
import Derived.Test.YtgfnmkenpgnllaaGreatOrd1
import Derived.Test.YtgfnmkenpgnllaaGreatRsl
namespace Go.Proofs.YtgfnmkenpgnllaaGreat
open Go.RowKit

/-- The first that is not 0. -/
def orL : List Int → Int
  | [] => 0
  | z :: l => if z = 0 then orL l else z

theorem orL_zero : ∀ {l : List Int}, (∀ z ∈ l, z = 0) → orL l = 0
  | [], _ => rfl
  | z :: l, h => by
    unfold orL
    rw [if_pos (h z (by simp))]
    exact orL_zero fun x hx => h x (by simp [hx])

theorem orL_at : ∀ {l : List Int} {k : Nat}, k < l.length → (∀ z ∈ l.take k, z = 0) → l.getD k 0 ≠ 0 → orL l = l.getD k 0
  | z :: l, 0, _, _, h => by
    unfold orL
    rw [if_neg (by simpa using h)]
    rfl
  | z :: l, k + 1, hk, h0, h => by
    unfold orL
    rw [if_pos (h0 z (by simp))]
    exact orL_at (k := k) (by simpa using hk) (fun x hx => h0 x (by simp [hx])) (by simpa using h)

set_option maxRecDepth 100000 in
set_option maxHeartbeats 400000 in
theorem orI_any (B : Nat) (zs : List Int) (v : Value) (w : World) (hv : Sl B 3 w v (ints zs)) :
    Calls Tryz.prog 62 #[v] w fun e w' => e = .returned (.int .i64 (orL zs)) ∧ w' = w := by
  obtain ⟨ao, cap, hvv, hlc, hcm⟩ := sl_open hv
  subst hvv
  have HV : Hid (Sl B 3 w (.slice ao zs.length cap) (ints zs)) := hv
  clear hv
  go_enter Tryz.func62, Tryz.ntmps62
  go_wp2
  go_loopw [5, 8] (fun _ i wr => ∃ k : Nat, k ≤ zs.length ∧ i = .int .i64 k ∧ (∀ z ∈ zs.take k, z = 0) ∧ wr = w) (fun _ i _ => zs.length - (intOf i).toNat)
  case atStart => exact ⟨0, Nat.zero_le _, rfl, by simp, rfl⟩
  case round =>
    obtain ⟨k, hk, rfl, hno, rfl⟩ := hrel
    have HN : Hid (∀ z ∈ zs.take k, z = 0) := hno
    clear hno
    by_cases hlt : k < zs.length
    · obtain ⟨b, o, cp, hs, hc1, hcc⟩ := sl_cell HV.out hlt
      simp only [Value.slice.injEq] at hs
      obtain ⟨rfl, _, rfl⟩ := hs
      have HS1 : Hid (zs.getD k 0 = 0 → ∀ z ∈ zs.take (k + 1), z = 0) := fun h z hz => by
        have e : zs.getD k 0 = zs[k] := by simp [hlt]
        rw [List.take_succ_eq_append_getElem hlt, List.mem_append, List.mem_singleton] at hz
        rcases hz with hz | hz
        · exact HN.out z hz
        · rw [hz, ← e, h]
      have HG : Hid (zs.getD k 0 ≠ 0 → orL zs = zs.getD k 0) := fun h => orL_at hlt HN.out h
      generalize zs.getD k 0 = z at *
      cases hf : (z == 0)
      · have hne : z ≠ 0 := by simpa using hf
        have HF : Hid (z ≠ 0) := hne
        clear hne
        go_wp2
        go_ret
        exact ⟨by rw [HG.out HF.out]; rfl, rfl⟩
      · have hf2 : z = 0 := by simpa using hf
        clear hf
        subst hf2
        go_wp2
        go_roundw
        case rel => exact ⟨k + 1, by omega, by go_num, HS1.out rfl, trivial⟩
        case measure => simp [intOf]; omega
    · have hke : zs.take k = zs := List.take_of_length_le (by omega)
      have HE : Hid (orL zs = 0) := orL_zero (by rw [← hke]; exact HN.out)
      go_wp2
      go_ret
      exact ⟨by rw [HE.out]; rfl, rfl⟩

theorem two_sl {B : Nat} {w : World} {a b : Int} : Sl B 3 (w.alloc (.cells #[.int .i64 a, .int .i64 b] 3)) (.slice (some ⟨w.heap.size, 0, none⟩) 2 2) (ints [a, b]) := by
  have hr : (w.alloc (.cells #[.int .i64 a, .int .i64 b] 3)).rowIs w.heap.size 3 2 (fun i => .int .i64 ([a, b].getD i 0)) := by
    refine ⟨#[.int .i64 a, .int .i64 b], heap_alloc_new w _, rfl, fun i hi => ?_⟩
    match i, hi with
    | 0, _ => rfl
    | 1, _ => rfl
  exact row_slT (n := 2) hr (fun i _ => rfl) rfl (Nat.le_refl _) (by decide)

theorem cmpI_lt {a b : Int} : cmpI a b < 0 ↔ a < b := by
  unfold cmpI
  by_cases h1 : a < b
  · rw [if_pos h1]; exact ⟨fun _ => h1, fun _ => by decide⟩
  · rw [if_neg h1]
    by_cases h2 : b < a
    · rw [if_pos h2]; exact ⟨fun h => absurd h (by decide), fun h => absurd h h1⟩
    · rw [if_neg h2]; exact ⟨fun h => absurd h (by decide), fun h => absurd h h1⟩

theorem cmpI_zero {a b : Int} : cmpI a b = 0 ↔ a = b := by
  unfold cmpI
  by_cases h1 : a < b
  · rw [if_pos h1]; exact ⟨fun h => absurd h (by decide), fun h => by omega⟩
  · rw [if_neg h1]
    by_cases h2 : b < a
    · rw [if_pos h2]; exact ⟨fun h => absurd h (by decide), fun h => by omega⟩
    · rw [if_neg h2]; exact ⟨fun _ => by omega, fun _ => rfl⟩

end Go.Proofs.YtgfnmkenpgnllaaGreat
