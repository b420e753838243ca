import Derived.Test.YtddbfcikhnhbnaaGreatRunD
import Derived.Lib.JoinLaws
import Derived.Test.YtddbfcikhnhbnaaGreatLinAll
import Derived.Test.YtddbfcikhnhbnaaGreatMade1
/- The program's differences of points. -/
namespace Go.Proofs.YtddbfcikhnhbnaaGreat
open Go.RowKit
attribute [local go_sem ↓] Go.wp_at_zero Go.wp_at_succ

/-- One list less another one. -/
def subL (r b : List Int) : List Int := (List.range r.length).map fun i => r.getD i 0 - b.getD i 0

/-- What the points behind the first one have more than it. -/
def diffL (m : List (List Int)) : List (List Int) := (m.drop 1).map fun r => subL r (m.getD 0 [])

theorem subL_length (r b : List Int) : (subL r b).length = r.length := by simp [subL]
theorem diffL_length (m : List (List Int)) : (diffL m).length = m.length - 1 := by simp [diffL]

theorem subL_at {r b : List Int} {k : Nat} (h : k < r.length) : (subL r b).getD k 0 = r.getD k 0 - b.getD k 0 := by simp [subL, h]

theorem diffL_snoc (m : List (List Int)) (k : Nat) (h : k + 1 < m.length) : (diffL m).take (k + 1) = (diffL m).take k ++ [subL (m.getD (k + 1) []) (m.getD 0 [])] := by
  rw [List.take_succ_eq_append_getElem (by rw [diffL_length]; omega)]
  have e : (diffL m)[k]'(by rw [diffL_length]; omega) = subL (m.getD (k + 1) []) (m.getD 0 []) := by
    have h1 : m[1 + k]? = some (m[1 + k]'(by omega)) := List.getElem?_eq_getElem (by omega)
    simp only [diffL, List.getElem_map, List.getElem_drop, List.getD_eq_getElem?_getD]
    rw [show k + 1 = 1 + k by omega, h1]; rfl
  rw [e]

theorem set_mix {r nr : List Int} {k : Nat} (hl : r.length = nr.length) (hk : k < r.length) : ints (nr.take (k + 1) ++ r.drop (k + 1)) = (ints (nr.take k ++ r.drop k)).set k (.int .i64 (nr.getD k 0)) := by
  apply List.ext_getElem?
  intro i
  rw [List.getElem?_set, ints_length]
  simp only [ints, List.getElem?_map]
  by_cases hik : i < k
  · rw [List.getElem?_append_left (by simp; omega), List.getElem?_append_left (by simp; omega), if_neg (by omega)]
    simp [hik, show i < k + 1 by omega]
  · by_cases hik2 : i = k
    · subst hik2
      rw [List.getElem?_append_left (by simp; omega), if_pos rfl, if_pos (by simp; omega)]
      simp [show i < nr.length by omega]
    · rw [List.getElem?_append_right (by simp; omega), List.getElem?_append_right (by simp; omega), if_neg (by omega)]
      simp only [List.length_take, List.getElem?_drop]
      rw [show k + 1 + (i - min (k + 1) nr.length) = i by omega, show k + (i - min k nr.length) = i by omega]

theorem mix_at {r nr : List Int} {k : Nat} (hl : r.length = nr.length) (hk : k < r.length) : (nr.take k ++ r.drop k).getD k 0 = r.getD k 0 := by
  simp only [List.getD_eq_getElem?_getD]; rw [List.getElem?_append_right (by simp; omega)]; simp [show k - min k nr.length = 0 by omega]

theorem mix_end {r nr : List Int} {k : Nat} (hl : r.length = nr.length) (hk : r.length ≤ k) : nr.take k ++ r.drop k = nr := by
  rw [List.take_of_length_le (by omega), List.drop_eq_nil_of_le (by omega), List.append_nil]

theorem Touch.below {g M : Nat} {w w2 wr : World} (h : Touch g w2 wr) (hb : Below M w w2) (hg : M ≤ g) : Below M w wr :=
  ⟨h.os.trans hb.os, h.tape.trans hb.tape, h.output.trans hb.output, by rw [h.size]; exact hb.size, fun b hlt => (h.block b (by omega)).trans (hb.block b hlt)⟩

end Go.Proofs.YtddbfcikhnhbnaaGreat

/- The program's products; points looked through for one beyond a row. -/
namespace Go.Proofs.YtddbfcikhnhbnaaGreat
open Go.RowKit
attribute [local go_sem ↓] Go.wp_at_zero Go.wp_at_succ

/-- The products, added. -/
def dotL (a x : List Int) : Int := Lin.sumN a.length fun i => a.getD i 0 * x.getD i 0

/-- Small enough that nothing passes 64 bits. -/
def Sm (a x : List Int) : Prop := a.length ≤ x.length ∧ a.length ≤ 8 ∧ (∀ z ∈ a, z.natAbs ≤ 1000000000000) ∧ ∀ z ∈ x, z.natAbs ≤ 1000

theorem mul_bd {a x : Int} (ha : a.natAbs ≤ 1000000000000) (hx : x.natAbs ≤ 1000) : (a * x).natAbs ≤ 1000000000000000 := by
  rw [Int.natAbs_mul]
  exact Nat.le_trans (Nat.mul_le_mul ha hx) (by decide)

theorem sum_sm {a x : List Int} (h : Sm a x) : ∀ k, k ≤ a.length → (Lin.sumN k fun i => a.getD i 0 * x.getD i 0).natAbs ≤ k * 1000000000000000 := by
  intro k
  induction k with
  | zero => intro _; simp [Lin.sumN]
  | succ k ih =>
    intro hk
    have h1 := ih (by omega)
    have h2 : (a.getD k 0 * x.getD k 0).natAbs ≤ 1000000000000000 := mul_bd (h.2.2.1 _ (by simp [show k < a.length by omega])) (h.2.2.2 _ (by simp [show k < x.length by have := h.1; omega]))
    simp only [Lin.sumN]
    omega

set_option maxRecDepth 100000 in
set_option maxHeartbeats 400000 in
theorem product_any (B : Nat) (a x : List Int) (u v : Value) (w : World) (hu : Sl B 3 w u (ints a)) (hv : Sl B 3 w v (ints x)) (hs : Sm a x) :
    Calls Tryz.prog 80 #[u, v] w fun e w' => e = .returned (.int .i64 (dotL a x)) ∧ ∃ n, w' = w.drewN n := by
  obtain ⟨ao, cap, hvv, hlc, hcm⟩ := sl_open hu
  obtain ⟨bo, cbp, huu, hlb, hcb⟩ := sl_open hv
  subst hvv huu
  have HU : Hid (Sl B 3 w (.slice ao a.length cap) (ints a)) := hu
  have HV : Hid (Sl B 3 w (.slice bo x.length cbp) (ints x)) := hv
  have HS : Hid (Sm a x) := hs
  have hle : a.length ≤ x.length := hs.1
  have hl8 : a.length ≤ 8 := hs.2.1
  clear hu hv hs
  go_enter Tryz.func80, Tryz.ntmps80
  go_wp2
  go_loopw [5, 9] (fun s i wr => ∃ k : Nat, k ≤ a.length ∧ i = .int .i64 k ∧ s = .int .i64 (Lin.sumN k fun i => a.getD i 0 * x.getD i 0) ∧ ∃ n, wr = w.drewN n) (fun _ i _ => a.length - (intOf i).toNat)
  case atStart => exact ⟨0, Nat.zero_le _, rfl, rfl, 0, rfl⟩
  case round =>
    obtain ⟨k, hk, rfl, rfl, n, rfl⟩ := hrel
    by_cases hlt : k < a.length
    · have hlt2 : k < x.length := by omega
      obtain ⟨b, o, cp, hs, hc1, hcc⟩ := sl_cell HU.out hlt
      simp only [Value.slice.injEq] at hs
      obtain ⟨rfl, _, rfl⟩ := hs
      obtain ⟨b2, o2, cp2, hs2, hc2, hcc2⟩ := sl_cell HV.out hlt2
      simp only [Value.slice.injEq] at hs2
      obtain ⟨rfl, _, rfl⟩ := hs2
      have h1 := sum_sm HS.out k hk
      have h2 := sum_sm HS.out (k + 1) (by omega)
      have h3 : (a.getD k 0 * x.getD k 0).natAbs ≤ 1000000000000000 := mul_bd (HS.out.2.2.1 _ (by simp [hlt])) (HS.out.2.2.2 _ (by simp [hlt2]))
      have HSU : Hid ((Lin.sumN (k + 1) fun i => a.getD i 0 * x.getD i 0) = (Lin.sumN k fun i => a.getD i 0 * x.getD i 0) + a.getD k 0 * x.getD k 0) := rfl
      rw [HSU.out] at h2
      generalize (Lin.sumN k fun i => a.getD i 0 * x.getD i 0) = S at *
      generalize a.getD k 0 = p at *
      generalize x.getD k 0 = q at *
      have e2 : wrap64 (S + wrap64 (p * q)) = S + p * q := by
        rw [IntWalk.wrap64_in (p * q) ⟨by omega, by omega⟩, IntWalk.wrap64_in _ ⟨by omega, by omega⟩]
      clear h1 h2 h3
      go_wp2
      go_quiet (fail)
      go_wp2
      go_roundw
      case rel => exact ⟨k + 1, by omega, by go_num, by rw [HSU.out, e2], _, rfl⟩
      case measure => simp [intOf]; omega
    · have hke : k = a.length := by omega
      subst hke
      go_wp2
      go_ret
      exact ⟨rfl, n, rfl⟩

end Go.Proofs.YtddbfcikhnhbnaaGreat
