/- crystal.Check, checkPlace, facetref.LettersMay. -/
import Derived.Test.YtnooabbcfhmjaaaNat0
import Derived.Test.YtnooabbcfhmjaaaCr0
import Derived.Test.YtnooabbcfhmjaaaTw1
namespace Go.Proofs.Ytnooabbcfhmjaaa
open Go.RowKit
attribute [local go_sem ↓] Go.wp_at_zero Go.wp_at_succ

def outK (n x : Int) : Bool := decide (x < 0) || decide (n < x)

/-- What Check says. -/
def chkE (n : Int) (m : List Int) : Int := if n < 1 ∨ 3 < n then 1 else if 8 < m.length then 11 else if m.any (outK n) = true then 4 else 0

set_option maxRecDepth 100000 in
theorem chkc_any (n x : Int) (p : Nat) (w : World) (hc : w.cell? ⟨p, 0, none⟩ = some (.int .i64 n)) :
    Calls Try.prog 26 #[.int .i64 x, .pointer (some ⟨p, 0, none⟩)] w fun e w' => e = .returned (.bool (outK n x)) ∧ w' = w := by
  unfold outK
  by_cases h1 : x < 0
  · go_enter Try.func26, Try.ntmps26
    go_wp2
    go_ret
    exact ⟨by simp [h1], rfl⟩
  · by_cases h2 : n < x
    · go_enter Try.func26, Try.ntmps26
      go_wp2
      go_ret
      exact ⟨by simp, rfl⟩
    · go_enter Try.func26, Try.ntmps26
      go_wp2
      go_ret
      exact ⟨by simp [h1, h2], rfl⟩

set_option maxRecDepth 100000 in
set_option maxHeartbeats 800000 in
theorem idxK_any (B : Nat) (n : Int) (m : List Int) (v : Value) (p : Nat) (w : World) (hv : Sl B 3 w v (ints m)) (hc : w.cell? ⟨p, 0, none⟩ = some (.int .i64 n)) :
    Calls Try.prog 37 #[v, .func (.func 26) #[] #[.pointer (some ⟨p, 0, none⟩)]] w fun e w' => ∃ z : Int, e = .returned (.int .i64 z) ∧ decide (0 ≤ z) = m.any (outK n) ∧ w' = w := by
  obtain ⟨ao, cap, hvv, hlc, hcm⟩ := sl_open hv
  subst hvv
  have HV : Hid (Sl B 3 w (.slice ao m.length cap) (ints m)) := hv
  have HC : Hid (∀ x, Calls Try.prog 26 #[.int .i64 x, .pointer (some ⟨p, 0, none⟩)] w fun e w' => e = .returned (.bool (outK n x)) ∧ w' = w) := fun x => chkc_any n x p w hc
  have hml : m.length ≤ 9223372036854775807 := by have := hv.len; simpa [maxLen] using this
  clear hv hc
  go_enter Try.func37, Try.ntmps37
  go_wp2
  go_loopw [8] (fun i wr => ∃ k : Nat, k ≤ m.length ∧ i = .int .i64 k ∧ (m.take k).any (outK n) = false ∧ wr = w) (fun i _ => m.length - (intOf i).toNat)
  case atStart => exact ⟨0, Nat.zero_le _, rfl, by simp, rfl⟩
  case round =>
    obtain ⟨k, hk, rfl, hno, hwr⟩ := hrel
    subst hwr
    have HN : Hid ((m.take k).any (outK n) = false) := hno
    clear hno
    by_cases hlt : k < m.length
    · obtain ⟨b1, o, cp, hs, _, hcc⟩ := sl_cell HV.out hlt
      simp only [Value.slice.injEq, true_and] at hs
      obtain ⟨rfl, rfl⟩ := hs
      have HS1 : Hid ((m.take (k + 1)).any (outK n) = outK n (m.getD k 0)) := anyT_snoc (p := outK n) hlt HN.out
      have HG : Hid (outK n (m.getD k 0) = true → m.any (outK n) = true) := fun h => anyT_get (p := outK n) hlt h
      have HCA := HC.out (m.getD k 0)
      generalize m.getD k 0 = x at *
      generalize hq : outK n x = q at *
      go_wp2_with fail
      refine HCA.mono ?_
      rintro e w2 ⟨rfl, rfl⟩
      cases q
      · go_wp2
        go_roundw
        case rel => exact ⟨k + 1, by omega, by go_num, by rw [HS1.out], by trivial⟩
        case measure => simp [intOf]; omega
      · have HT : Hid (m.any (outK n) = true) := HG.out rfl
        go_wp2
        go_ret
        exact ⟨(k : Int), rfl, by rw [HT.out]; simp, rfl⟩
    · have hke : m.take k = m := List.take_of_length_le (by omega)
      have HE : Hid (m.any (outK n) = false) := by rw [← hke]; exact HN.out
      go_wp2
      go_ret
      exact ⟨-1, rfl, by rw [HE.out]; rfl, rfl⟩

set_option maxRecDepth 100000 in
theorem hasK_any (B : Nat) (n : Int) (m : List Int) (v : Value) (p : Nat) (w : World) (hv : Sl B 3 w v (ints m)) (hc : w.cell? ⟨p, 0, none⟩ = some (.int .i64 n)) :
    Calls Try.prog 25 #[v, .func (.func 26) #[] #[.pointer (some ⟨p, 0, none⟩)]] w fun e w' => e = .returned (.bool (m.any (outK n))) ∧ w' = w := by
  have HI := idxK_any B n m v p w hv hc
  obtain ⟨ao, cap, hvv, hlc, hcm⟩ := sl_open hv
  subst hvv
  clear hv hc
  generalize m.any (outK n) = q at *
  go_enter Try.func25, Try.ntmps25
  go_wp2_with fail
  refine HI.mono ?_
  rintro e w' ⟨z, rfl, hz, rfl⟩
  by_cases h0 : 0 ≤ z
  · rw [decide_eq_true h0] at hz
    subst hz
    go_wp2
    go_ret
    exact ⟨rfl, rfl⟩
  · have hz2 : decide (0 ≤ z) = false := decide_eq_false h0
    rw [hz2] at hz
    subst hz
    go_wp2
    go_ret
    exact ⟨by rw [← hz2]; rfl, rfl⟩

set_option maxRecDepth 100000 in
set_option maxHeartbeats 800000 in
theorem checkK_any (B : Nat) (n : Int) (m : List Int) (v : Value) (w : World) (hv : Sl B 3 w v (ints m)) :
    Calls Try.prog 9 #[.int .i64 n, v] w fun e w' => e = .returned (.int .i64 (chkE n m)) ∧ Below w.heap.size w w' := by
  obtain ⟨W, hW⟩ : ∃ W, W = w.alloc (.cells #[.int .i64 n] 3) := ⟨_, rfl⟩
  have hcW : W.cell? ⟨w.heap.size, 0, none⟩ = some (.int .i64 n) := by rw [hW]; simp [go_sem]
  have HB : Hid (Below w.heap.size w W) := by rw [hW]; exact (Below.refl _ _).alloc (Nat.le_refl _) _
  have HH : Hid (Calls Try.prog 25 #[v, .func (.func 26) #[] #[.pointer (some ⟨w.heap.size, 0, none⟩)]] W fun e w' => e = .returned (.bool (m.any (outK n))) ∧ w' = W) := hasK_any B n m v w.heap.size W (by rw [hW]; exact hv.alloc _) hcW
  obtain ⟨ao, cap, hvv, hlc, hcm⟩ := sl_open hv
  subst hvv
  rw [hW] at HH HB hcW
  clear hv hW
  unfold chkE
  by_cases h1 : n < 1
  · rw [if_pos (Or.inl h1)]
    go_enter Try.func9, Try.ntmps9
    go_wp2
    go_ret
    exact ⟨rfl, HB.out⟩
  · by_cases h2 : 3 < n
    · rw [if_pos (Or.inr h2)]
      go_enter Try.func9, Try.ntmps9
      go_wp2
      go_ret
      exact ⟨rfl, HB.out⟩
    · rw [if_neg (by omega)]
      by_cases h3 : 8 < m.length
      · rw [if_pos h3]
        have h3I : (8 : Int) < (m.length : Int) := by omega
        go_enter Try.func9, Try.ntmps9
        go_wp2
        go_ret
        exact ⟨rfl, HB.out⟩
      · rw [if_neg h3]
        have h3I : ¬ (8 : Int) < (m.length : Int) := by omega
        generalize m.any (outK n) = q at *
        go_enter Try.func9, Try.ntmps9
        go_wp2_with fail
        refine HH.out.mono ?_
        rintro e w2 ⟨rfl, rfl⟩
        cases q
        · go_wp2
          go_ret
          exact ⟨rfl, HB.out⟩
        · go_wp2
          go_ret
          exact ⟨rfl, HB.out⟩

set_option maxRecDepth 100000 in
set_option maxHeartbeats 800000 in
theorem lettersMay_any (B : Nat) (n : Int) (m : List Int) (v : Value) (w : World) (hv : Sl B 3 w v (ints m)) :
    Calls Try.prog 5 #[.int .i64 n, v] w fun e w' => e = .returned (.int .i64 (chkE n m)) ∧ Below w.heap.size w w' := by
  obtain ⟨ao, cap, hvv, hlc, hcm⟩ := sl_open hv
  subst hvv
  have HV : Hid (Sl B 3 w (.slice ao m.length cap) (ints m)) := hv
  clear hv
  unfold chkE
  by_cases h1 : n < 1
  · rw [if_pos (Or.inl h1)]
    go_enter Try.func5, Try.ntmps5
    go_wp2
    go_ret
    exact ⟨rfl, Below.refl _ _⟩
  · by_cases h2 : 3 < n
    · rw [if_pos (Or.inr h2)]
      go_enter Try.func5, Try.ntmps5
      go_wp2
      go_ret
      exact ⟨rfl, Below.refl _ _⟩
    · rw [if_neg (by omega)]
      by_cases h3 : 8 < m.length
      · rw [if_pos h3]
        have h3I : (8 : Int) < (m.length : Int) := by omega
        go_enter Try.func5, Try.ntmps5
        go_wp2
        go_ret
        exact ⟨rfl, Below.refl _ _⟩
      · rw [if_neg h3]
        have h3I : ¬ (8 : Int) < (m.length : Int) := by omega
        obtain ⟨E, hE⟩ : ∃ E : Int, E = if m.any (outK n) = true then 4 else 0 := ⟨_, rfl⟩
        rw [← hE]
        have HE : Hid (E = if m.any (outK n) = true then 4 else 0) := hE
        clear hE
        go_enter Try.func5, Try.ntmps5
        go_wp2
        go_loopw [5] (fun i wr => ∃ k : Nat, k ≤ m.length ∧ i = .int .i64 k ∧ (m.take k).any (outK n) = false ∧ ∃ q, wr = w.drewN q) (fun i _ => m.length - (intOf i).toNat)
        case atStart => exact ⟨0, Nat.zero_le _, rfl, by simp, 0, rfl⟩
        case round =>
          obtain ⟨k, hk, rfl, hno, q, rfl⟩ := hrel
          have HN : Hid ((m.take k).any (outK n) = false) := hno
          clear hno
          by_cases hlt : k < m.length
          · obtain ⟨b1, o, cp, hs, _, hcc⟩ := sl_cell (HV.out.drewN q) hlt
            simp only [Value.slice.injEq, true_and] at hs
            obtain ⟨rfl, rfl⟩ := hs
            have HS1 : Hid ((m.take (k + 1)).any (outK n) = outK n (m.getD k 0)) := anyT_snoc (p := outK n) hlt HN.out
            have HG : Hid (outK n (m.getD k 0) = true → m.any (outK n) = true) := fun h => anyT_get (p := outK n) hlt h
            generalize m.getD k 0 = x at *
            by_cases g1 : x < 0
            · have HT : Hid (m.any (outK n) = true) := HG.out (by simp [outK, g1])
              go_wp2
              go_ret
              exact ⟨by rw [HE.out, if_pos HT.out]; rfl, ⟨rfl, rfl, rfl, Nat.le_refl _, fun _ _ => rfl⟩⟩
            · by_cases g2 : n < x
              · have HT : Hid (m.any (outK n) = true) := HG.out (by simp [outK, g2])
                go_wp2
                go_ret
                exact ⟨by rw [HE.out, if_pos HT.out]; rfl, ⟨rfl, rfl, rfl, Nat.le_refl _, fun _ _ => rfl⟩⟩
              · have HF : Hid (outK n x = false) := by
                  show _ = _
                  simp [outK, g1, g2]
                go_wp2
                go_roundw
                case rel => exact ⟨k + 1, by omega, by go_num, by rw [HS1.out, HF.out], _, rfl⟩
                case measure => simp [intOf]; omega
          · have hke : m.take k = m := List.take_of_length_le (by omega)
            have HF : Hid (m.any (outK n) = false) := by rw [← hke]; exact HN.out
            go_wp2
            go_ret
            exact ⟨by rw [HE.out, if_neg (by rw [HF.out]; decide)]; rfl, ⟨rfl, rfl, rfl, Nat.le_refl _, fun _ _ => rfl⟩⟩

/-- What Check says, a place besides. -/
def chkP (n : Int) (m : List Int) (i : Int) : Int := if chkE n m = 0 then (if i < 0 ∨ n ≤ i then 9 else 0) else chkE n m

theorem chkE_cases (n : Int) (m : List Int) : chkE n m = 0 ∨ chkE n m = 1 ∨ chkE n m = 11 ∨ chkE n m = 4 := by
  unfold chkE
  split
  · exact Or.inr (Or.inl rfl)
  · split
    · exact Or.inr (Or.inr (Or.inl rfl))
    · split
      · exact Or.inr (Or.inr (Or.inr rfl))
      · exact Or.inl rfl

set_option maxRecDepth 100000 in
set_option maxHeartbeats 800000 in
theorem checkPlace_any (B : Nat) (n : Int) (m : List Int) (i : Int) (v : Value) (w : World) (hv : Sl B 3 w v (ints m)) :
    Calls Try.prog 22 #[.int .i64 n, v, .int .i64 i] w fun e w' => e = .returned (.int .i64 (chkP n m i)) ∧ Below w.heap.size w w' := by
  have HC := checkK_any B n m v w hv
  obtain ⟨ao, cap, hvv, hlc, hcm⟩ := sl_open hv
  subst hvv
  have hcs := chkE_cases n m
  unfold chkP
  generalize chkE n m = E at *
  clear hv
  go_enter Try.func22, Try.ntmps22
  go_wp2_with fail
  refine HC.mono ?_
  rintro e w2 ⟨rfl, hb⟩
  have HB : Hid (Below w.heap.size w w2) := hb
  clear hb HC
  rcases hcs with rfl | rfl | rfl | rfl
  · by_cases h1 : i < 0
    · go_wp2
      go_ret
      exact ⟨by simp, HB.out⟩
    · by_cases h2 : n ≤ i
      · go_wp2
        go_ret
        exact ⟨by simp, HB.out⟩
      · go_wp2
        go_ret
        exact ⟨rfl, HB.out⟩
  · go_wp2
    go_ret
    exact ⟨rfl, HB.out⟩
  · go_wp2
    go_ret
    exact ⟨rfl, HB.out⟩
  · go_wp2
    go_ret
    exact ⟨rfl, HB.out⟩

end Go.Proofs.Ytnooabbcfhmjaaa
