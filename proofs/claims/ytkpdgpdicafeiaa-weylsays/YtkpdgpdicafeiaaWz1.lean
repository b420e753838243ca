/- root.checkPair, root.checked, root.Check: of a good matrix. -/
import Derived.Test.YtkpdgpdicafeiaaWy9
namespace Go.Proofs.Ytkpdgpdicafeiaa
open Go.RowKit
attribute [local go_sem ↓] Go.wp_at_zero Go.wp_at_succ

structure Gdc (n : Nat) (c : List (List Int)) : Prop where
  sq : Sqc n c
  n1 : 1 ≤ n
  dia : ∀ i, i < n → cE c i i = 2
  off : ∀ i j, i < n → j < n → i ≠ j → (-3 ≤ cE c i j ∧ cE c i j ≤ 0) ∧ (cE c i j = 0 ↔ cE c j i = 0)
  many : (abL c).length ≤ 24
  bd : ∀ b ∈ abL c, b.length = n ∧ ∀ k, -1000 ≤ b.getD k 0 ∧ b.getD k 0 ≤ 1000

def CPz (v a z : Int) : Prop := (-3 ≤ v ∧ v ≤ 0) ∧ (v = 0 ↔ a = 0) → z = 0

set_option maxRecDepth 100000 in
theorem checkPair_any (v a : Int) (w : World) :
    Calls Try.prog 43 #[.int .i64 v, .int .i64 a] w fun e w' => (∃ z, e = .returned (.int .i64 z) ∧ CPz v a z) ∧ w' = w := by
  by_cases h1 : v < -3
  · go_enter Try.func43, Try.ntmps43
    go_wp2
    go_ret
    exact ⟨⟨_, rfl, fun h => by obtain ⟨_, _⟩ := h; omega⟩, rfl⟩
  · by_cases h2 : 0 < v
    · go_enter Try.func43, Try.ntmps43
      go_wp2
      go_ret
      exact ⟨⟨_, rfl, fun h => by obtain ⟨_, _⟩ := h; omega⟩, rfl⟩
    · by_cases h3 : v = 0
      · subst h3
        by_cases h4 : a = 0
        · subst h4
          go_enter Try.func43, Try.ntmps43
          go_wp2
          go_ret
          exact ⟨⟨_, rfl, fun h => rfl⟩, rfl⟩
        · have b2 : (a == 0) = false := by simpa using h4
          go_enter Try.func43, Try.ntmps43
          go_wp2
          go_ret
          exact ⟨⟨_, rfl, fun h => by obtain ⟨_, _⟩ := h; omega⟩, rfl⟩
      · have b1 : (v == 0) = false := by simpa using h3
        by_cases h4 : a = 0
        · subst h4
          go_enter Try.func43, Try.ntmps43
          go_wp2
          go_ret
          exact ⟨⟨_, rfl, fun h => by obtain ⟨_, _⟩ := h; omega⟩, rfl⟩
        · have b2 : (a == 0) = false := by simpa using h4
          go_enter Try.func43, Try.ntmps43
          go_wp2
          go_ret
          exact ⟨⟨_, rfl, fun h => rfl⟩, rfl⟩

/-- One entry, as it lies. -/
theorem ent_cell {n : Nat} {c : List (List Int)} {B : Nat} {w : World} {ao : Option Addr} {cap : Nat} (hc : Sqc n c) (hm : Mat B 23 3 w (.slice ao n cap) c) {i : Nat} (hi : i < n) :
    ∃ b o b3 o3 cp3, ao = some ⟨b, o, none⟩ ∧ w.cell? ⟨b, o + i, none⟩ = some (.slice (some ⟨b3, o3, none⟩) n cp3) ∧ ∀ j, j < n → w.cell? ⟨b3, o3 + j, none⟩ = some (.int .i64 (cE c i j)) := by
  have hcl := hc.len
  obtain ⟨b, o, cp, r1, hs, _, hc1, hr⟩ := mat_cell hm (k := i) (by omega)
  simp only [Value.slice.injEq] at hs
  obtain ⟨rfl, _, rfl⟩ := hs
  have hrl : (c.getD i []).length = n := hc.row _ (by simp [hcl, hi])
  obtain ⟨b3, o3, cp3, hs3, _, _⟩ := sl_cell hr (k := 0) (by omega)
  subst hs3
  rw [hrl] at hc1
  refine ⟨b, o, b3, o3, cp3, rfl, hc1, fun j hj => ?_⟩
  obtain ⟨b4, o4, cp4, hs4, _, h4⟩ := sl_cell hr (k := j) (by omega)
  simp only [Value.slice.injEq, Option.some.injEq, Addr.mk.injEq, and_true, true_and] at hs4
  obtain ⟨⟨rfl, rfl⟩, rfl⟩ := hs4
  exact h4

set_option maxRecDepth 100000 in
set_option maxHeartbeats 3200000 in
theorem checkedR_any (n : Nat) (c : List (List Int)) (cv : Value) (w : World) (hg : Gdc n c) (hm : Mat w.heap.size 23 3 w cv c) :
    Calls Try.prog 37 #[cv] w fun e w' => ∃ u, e = .returned (.tuple #[u, .int .i64 0]) ∧ Fr w.heap.size 23 3 w' u (abL c) ∧ Below w.heap.size w w' := by
  obtain ⟨ao, cap, hvv, hlc, hcm⟩ := mat_open hm
  subst hvv
  have hn4 := hg.sq.n4
  have hn1 := hg.n1
  have HCL : Hid (c.length = n) := hg.sq.len
  have HAB : Hid (Calls Try.prog 44 #[.slice ao c.length cap] w fun e w' => ∃ u, e = .returned u ∧ Fr w.heap.size 23 3 w' u (abL c) ∧ Below w.heap.size w w') := above_any n c _ w hg.sq hn1 hm hg.bd
  have HMN : Hid ((abL c).length ≤ 24) := hg.many
  have HG : Hid (Gdc n c) := hg
  rw [HCL.out] at hm HAB
  have HM : Hid (Mat w.heap.size 23 3 w (.slice ao n cap) c) := hm
  rw [HCL.out]
  have nI1 : ¬ (n : Int) < 1 := by omega
  have nI4 : ¬ (4 : Int) < (n : Int) := by omega
  clear hg hm hlc
  go_enter Try.func37, Try.ntmps37
  go_wp2
  go_loopw [4, 5, 22] (fun _ _ iv wr => ∃ i : Nat, i ≤ n ∧ iv = .int .i64 i ∧ wr = w) (fun _ _ iv _ => n - (intOf iv).toNat)
  case atStart => exact ⟨0, Nat.zero_le _, rfl, rfl⟩
  case round =>
    obtain ⟨i, hi, rfl, hwr⟩ := hrel
    subst hwr
    by_cases hlt : i < n
    · obtain ⟨b, o, b3, o3, cp3, hao, hc1, hc2⟩ := ent_cell HG.out.sq HM.out hlt
      subst hao
      have hc3 := hc2 i hlt
      rw [HG.out.dia i hlt] at hc3
      clear hc2
      go_wp2
      go_roundw
      case rel => exact ⟨i + 1, by omega, by go_num, by trivial⟩
      case measure => simp [intOf]; omega
    · have hie : i = n := by omega
      subst hie
      clear hlt hi
      go_wp2
      go_loopw [6, 7, 8, 9, 10, 42] (fun _ _ _ _ _ iv wq => ∃ i' : Nat, i' ≤ i ∧ iv = .int .i64 i' ∧ wq = wr) (fun _ _ _ _ _ iv _ => i - (intOf iv).toNat)
      case atStart => exact ⟨0, Nat.zero_le _, rfl, rfl⟩
      case round =>
        obtain ⟨p, hp, rfl, hwr⟩ := hrel
        subst hwr
        by_cases hlt : p < i
        · obtain ⟨b, o, b3, o3, cp3, hao, hc1, hc2⟩ := ent_cell HG.out.sq HM.out hlt
          subst hao
          have HC2 : Hid (∀ j, j < i → wr.cell? ⟨b3, o3 + j, none⟩ = some (.int .i64 (cE c p j))) := hc2
          clear hc2
          go_wp2
          go_loopw [8, 9, 10, 49] (fun _ _ _ jv wq => ∃ j : Nat, j ≤ i ∧ jv = .int .i64 j ∧ wq = wr) (fun _ _ _ jv _ => i - (intOf jv).toNat)
          case atStart => exact ⟨0, Nat.zero_le _, rfl, rfl⟩
          case round =>
            obtain ⟨j, hj, rfl, hwr⟩ := hrel
            subst hwr
            by_cases hltj : j < i
            · have hc3 := HC2.out j hltj
              obtain ⟨b', o', b4, o4, cp4, hao, hc4, hc5⟩ := ent_cell HG.out.sq HM.out hltj
              simp only [Option.some.injEq, Addr.mk.injEq, and_true] at hao
              obtain ⟨rfl, rfl⟩ := hao
              have hc6 := hc5 p hlt
              clear hc5
              have HGD : Hid (p ≠ j → (-3 ≤ cE c p j ∧ cE c p j ≤ 0) ∧ (cE c p j = 0 ↔ cE c j p = 0)) := HG.out.off p j hlt hltj
              have HCP := checkPair_any (cE c p j) (cE c j p) wr
              generalize cE c p j = x at *
              generalize cE c j p = y at *
              go_wp2_with fail
              refine HCP.mono ?_
              rintro e w' ⟨⟨z, rfl, hz⟩, hw'⟩
              subst hw'
              by_cases hpj : p = j
              · subst hpj
                go_wp2
                go_roundw
                case rel => exact ⟨p + 1, by omega, by go_num, by trivial⟩
                case measure => simp [intOf]; omega
              · have hz0 : z = 0 := hz (HGD.out hpj)
                subst hz0
                have hpI : ¬ ((p : Int) = (j : Int)) := by omega
                have hpB : ((p : Int) == (j : Int)) = false := by simpa using hpI
                go_wp2
                go_roundw
                case rel => exact ⟨j + 1, by omega, by go_num, by trivial⟩
                case measure => simp [intOf]; omega
            · have hje : j = i := by omega
              subst hje
              go_wp2
              go_roundw
              case rel => exact ⟨p + 1, by omega, by go_num, by trivial⟩
              case measure => simp [intOf]; omega
        · have hpe : p = i := by omega
          subst hpe
          go_wp2_with fail
          refine HAB.out.mono ?_
          rintro e w' ⟨u, rfl, hf, hb⟩
          obtain ⟨xo, xc, hxv⟩ : ∃ xo xc, u = .slice xo (abL c).length xc := by
            obtain ⟨vs, g1, g2, g3⟩ := hf
            exact owns_form g2
          subst hxv
          have HF : Hid (Fr wr.heap.size 23 3 w' (.slice xo (abL c).length xc) (abL c)) := hf
          have HBW : Hid (Below wr.heap.size wr w') := hb
          have hmn := HMN.out
          clear hf hb HAB HMN
          generalize hA : abL c = A at *
          have hmI : ¬ (24 : Int) < (A.length : Int) := by omega
          go_wp2
          go_ret2
          exact ⟨_, rfl, by rw [hA]; exact HF.out, HBW.out⟩

set_option maxRecDepth 100000 in
theorem checkR_any (n : Nat) (c : List (List Int)) (cv : Value) (w : World) (hg : Gdc n c) (hm : Mat w.heap.size 23 3 w cv c) :
    Calls Try.prog 25 #[cv] w fun e w' => e = .returned (.int .i64 0) ∧ Below w.heap.size w w' := by
  have HC : Hid (Calls Try.prog 37 #[cv] w fun e w' => ∃ u, e = .returned (.tuple #[u, .int .i64 0]) ∧ Fr w.heap.size 23 3 w' u (abL c) ∧ Below w.heap.size w w') := checkedR_any n c cv w hg hm
  obtain ⟨ao, cap, hvv, hlc, hcm⟩ := mat_open hm
  subst hvv
  clear hg hm hlc
  go_enter Try.func25, Try.ntmps25
  go_wp2_with fail
  refine HC.out.mono ?_
  rintro e w' ⟨u, rfl, _, hb⟩
  have HB : Hid (Below w.heap.size w w') := hb
  clear hb
  go_wp2
  go_ret
  exact ⟨rfl, HB.out⟩

end Go.Proofs.Ytkpdgpdicafeiaa
