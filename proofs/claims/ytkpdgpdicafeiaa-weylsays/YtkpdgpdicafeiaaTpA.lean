import Derived.Test.YtkpdgpdicafeiaaDatA
import Derived.Test.YtkpdgpdicafeiaaCycAll
import Derived.Test.YtkpdgpdicafeiaaRefs
import Derived.Deep.RegionHeld3
import Derived.Deep.RegionLaw
import Derived.Deep.DrawnRows
/- Least choices of a square, pure: orders, what a cycle of rows costs, prices by going down from column to column. -/
namespace Go.Proofs.Ytkpdgpdicafeiaa

/-- The number in row i and column j. -/
def ent (M : List (List Int)) (i j : Nat) : Int := (M.getD i []).getD j 0

/-- All orders of n numbers that open with what is there, k more to come. -/
def ords (n : Nat) : Nat → List Int → List (List Int)
  | 0, h => [h]
  | k + 1, h => (List.range n).flatMap fun (v : Nat) => if h.contains (v : Int) then [] else ords n k (h ++ [(v : Int)])

section
variable (M : List (List Int)) (σ : Nat → Nat)

def la : Nat → List Nat → Nat
  | r, [] => r
  | _, s :: t => la s t

end

end Go.Proofs.Ytkpdgpdicafeiaa

/- Squares that may be, by the program and by the document; what a list holds, and its sum. -/
namespace Go.Proofs.Ytkpdgpdicafeiaa
open Go.RowKit
attribute [local go_sem ↓] Go.wp_at_zero Go.wp_at_succ

theorem anyT_snoc {α : Type} {p : α → Bool} {l : List α} {d : α} {k : Nat} (h : k < l.length) (h0 : (l.take k).any p = false) : (l.take (k + 1)).any p = p (l.getD k d) := by
  rw [List.take_succ_eq_append_getElem h, List.any_append, h0]; simp [h]

theorem anyT_get {α : Type} {p : α → Bool} {l : List α} {d : α} {k : Nat} (h : k < l.length) (h0 : p (l.getD k d) = true) : l.any p = true :=
  List.any_eq_true.2 ⟨l.getD k d, by simp [h], h0⟩

theorem sumL_snoc (l : List Int) (k : Nat) (h : k < l.length) : (l.take (k + 1)).sum = (l.take k).sum + l.getD k 0 := by
  have e : l.getD k 0 = l[k] := by simp [h]
  rw [List.take_succ_eq_append_getElem h, List.sum_append, e]; simp

theorem sumL_bd {l : List Int} {b : Nat} : ∀ k, k ≤ l.length → (∀ z ∈ l, z.natAbs ≤ b) → (l.take k).sum.natAbs ≤ b * k
  | 0, _, _ => by simp
  | k + 1, hk, hb => by
    have h1 := sumL_bd (l := l) k (by omega) hb
    rw [sumL_snoc l k (by omega)]
    have h2 : (l.getD k 0).natAbs ≤ b := by
      have e : l.getD k 0 = l[k] := by simp [show k < l.length by omega]
      rw [e]; exact hb _ (List.getElem_mem _)
    rw [Nat.mul_add, Nat.mul_one]
    omega

set_option maxRecDepth 100000 in
set_option maxHeartbeats 400000 in
theorem sumT_any (B : Nat) (zs : List Int) (v : Value) (w : World) (hv : Sl B 3 w v (ints zs)) (hl : zs.length ≤ 1000) (hb : ∀ z ∈ zs, z.natAbs ≤ 1000000000) :
    Calls Try.prog 40 #[v] w fun e w' => e = .returned (.int .i64 zs.sum) ∧ ∃ n, w' = w.drewN n := by
  obtain ⟨ao, cap, hvv, hlc, hcm⟩ := sl_open hv
  subst hvv
  have HV : Hid (Sl B 3 w (.slice ao zs.length cap) (ints zs)) := hv
  have HB : Hid (∀ k, k ≤ zs.length → -1000000000000 ≤ (zs.take k).sum ∧ (zs.take k).sum ≤ 1000000000000) := fun k hk => by
    have := sumL_bd k hk hb
    have : 1000000000 * k ≤ 1000000000 * 1000 := Nat.mul_le_mul_left _ (by omega)
    omega
  clear hv hb
  go_enter Try.func40, Try.ntmps40
  go_wp2
  go_loopw [3, 4] (fun s i wr => ∃ k : Nat, k ≤ zs.length ∧ i = .int .i64 k ∧ s = .int .i64 (zs.take k).sum ∧ ∃ n, wr = w.drewN n) (fun _ i _ => zs.length - (intOf i).toNat)
  case atStart => exact ⟨0, Nat.zero_le _, rfl, by simp, 0, rfl⟩
  case round =>
    obtain ⟨k, hk, rfl, rfl, n, rfl⟩ := hrel
    by_cases hlt : k < zs.length
    · obtain ⟨b, o, cp, hs, hc1, hcc⟩ := sl_cell HV.out hlt
      simp only [Value.slice.injEq] at hs
      obtain ⟨rfl, _, rfl⟩ := hs
      have HS : Hid ((zs.take (k + 1)).sum = (zs.take k).sum + zs.getD k 0) := sumL_snoc zs k hlt
      have b1 := HB.out k hk
      have b2 := HB.out (k + 1) hlt
      rw [HS.out] at b2
      generalize zs.getD k 0 = z at *
      generalize (zs.take k).sum = S at *
      go_wp2
      go_roundw
      case rel => exact ⟨k + 1, by omega, by go_num, by rw [HS.out], _, rfl⟩
      case measure => simp [intOf]; omega
    · have hke : zs.take k = zs := List.take_of_length_le (by omega)
      rw [hke]
      go_wp2
      go_ret
      exact ⟨rfl, n, rfl⟩

end Go.Proofs.Ytkpdgpdicafeiaa
