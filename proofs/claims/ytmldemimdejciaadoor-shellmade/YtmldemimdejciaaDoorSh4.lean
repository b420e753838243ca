/- Which simplices may be: one list, by the program. -/
import Derived.Test.YtmldemimdejciaaDoorShA
namespace Go.Proofs.YtmldemimdejciaaDoor
open Go.RowKit
attribute [local go_sem ↓] Go.wp_at_zero Go.wp_at_succ

/-- The first that is not 0. -/
def firstE (f : Nat → Int) : Nat → Int
  | 0 => 0
  | n + 1 => if firstE f n = 0 then f n else firstE f n

theorem firstE_step {f : Nat → Int} {k : Nat} (h : firstE f k = 0) (h2 : f k = 0) : firstE f (k + 1) = 0 := by
  rw [firstE, if_pos h, h2]

theorem firstE_hit {f : Nat → Int} {k : Nat} (h : firstE f k = 0) (h2 : f k ≠ 0) : ∀ n, k < n → firstE f n = f k := by
  intro n
  induction n with
  | zero => intro hn; omega
  | succ n ih =>
    intro hn
    by_cases hk : k = n
    · subst hk; rw [firstE, if_pos h]
    · have := ih (by omega)
      rw [firstE, if_neg (by rw [this]; exact h2), this]

theorem firstE_zero {f : Nat → Int} : ∀ n, firstE f n = 0 → ∀ k, k < n → f k = 0
  | 0, _, k, hk => by omega
  | n + 1, h, k, hk => by
    rw [firstE] at h
    by_cases h0 : firstE f n = 0
    · rw [if_pos h0] at h
      by_cases hkn : k = n
      · subst hkn; exact h
      · exact firstE_zero n h0 k (by omega)
    · rw [if_neg h0] at h
      exact absurd h h0

/-- One number of a list. -/
def numE (x : List Int) (k : Nat) : Int :=
  if x.getD k 0 < 0 ∨ 63 < x.getD k 0 then 4 else if 0 < k ∧ x.getD k 0 ≤ x.getD (k - 1) 0 then 3 else 0

/-- One list. -/
def listE (c : Nat) (x : List Int) : Int := if x.length ≠ c ∨ c < 1 ∨ 5 < c then 3 else firstE (numE x) x.length

/-- One list among others. -/
def simE (m : List (List Int)) (i : Nat) : Int :=
  if listE (m.getD 0 []).length (m.getD i []) = 0 then (if (m.take i).contains (m.getD i []) then 8 else 0) else listE (m.getD 0 []).length (m.getD i [])

/-- All lists. -/
def facetsE (m : List (List Int)) : Int := if m.length < 1 ∨ 40 < m.length then 2 else firstE (simE m) m.length

set_option maxRecDepth 100000 in
set_option maxHeartbeats 800000 in
theorem checkList_any (B : Nat) (x : List Int) (c : Nat) (v : Value) (w : World) (hv : Sl B 3 w v (ints x)) :
    Calls Tryd.prog 19 #[v, .int .i64 c] w fun e w' => e = .returned (.int .i64 (listE c x)) ∧ w' = w := by
  obtain ⟨ao, cap, hvv, hlc, hcm⟩ := sl_open hv
  subst hvv
  have HV : Hid (Sl B 3 w (.slice ao x.length cap) (ints x)) := hv
  clear hv
  by_cases h0 : x.length = c
  · have c0 : ((x.length : Int) != (c : Int)) = false := by simp [h0]
    by_cases h3 : c < 1
    · have c1 : decide ((c : Int) < 1) = true := decide_eq_true (by omega)
      have HE : Hid (listE c x = 3) := if_pos (by omega)
      go_enter Tryd.func19, Tryd.ntmps19
      go_wp2
      go_ret
      exact ⟨by rw [HE.out]; rfl, rfl⟩
    · have c1 : decide ((c : Int) < 1) = false := decide_eq_false (by omega)
      by_cases h4 : 5 < c
      · have c2 : decide ((5 : Int) < (c : Int)) = true := decide_eq_true (by omega)
        have HE : Hid (listE c x = 3) := if_pos (by omega)
        go_enter Tryd.func19, Tryd.ntmps19
        go_wp2
        go_ret
        exact ⟨by rw [HE.out]; rfl, rfl⟩
      · have c2 : decide ((5 : Int) < (c : Int)) = false := decide_eq_false (by omega)
        have HE : Hid (listE c x = firstE (numE x) x.length) := if_neg (by omega)
        go_enter Tryd.func19, Tryd.ntmps19
        go_wp2
        go_loopw [21] (fun i wr => ∃ k : Nat, k ≤ x.length ∧ i = .int .i64 k ∧ firstE (numE x) k = 0 ∧ wr = w) (fun i _ => x.length - (intOf i).toNat)
        case atStart => exact ⟨0, Nat.zero_le _, rfl, rfl, rfl⟩
        case round =>
          obtain ⟨k, hk, rfl, hno, rfl⟩ := hrel
          have HN : Hid (firstE (numE x) k = 0) := hno
          clear hno
          by_cases hlt : k < x.length
          · obtain ⟨b, o, cp, hs, hc1, hcc⟩ := sl_cell HV.out hlt
            simp only [Value.slice.injEq] at hs
            obtain ⟨rfl, _, rfl⟩ := hs
            have HIT : Hid (numE x k ≠ 0 → listE c x = numE x k) := fun h => by rw [HE.out]; exact firstE_hit HN.out h _ hlt
            have HK : Hid (numE x k = if x.getD k 0 < 0 ∨ 63 < x.getD k 0 then 4 else if 0 < k ∧ x.getD k 0 ≤ x.getD (k - 1) 0 then 3 else 0) := rfl
            have HC2 : Hid (0 < k → wr.cell? ⟨b, o + (k - 1), none⟩ = some (.int .i64 (x.getD (k - 1) 0))) := fun h0 => by
              obtain ⟨b2, o2, cp2, hs2, _, hcc2⟩ := sl_cell HV.out (show k - 1 < x.length by omega)
              simp only [Value.slice.injEq, Option.some.injEq, Addr.mk.injEq] at hs2
              obtain ⟨⟨rfl, rfl, _⟩, _, _⟩ := hs2
              exact hcc2
            generalize x.getD k 0 = z at *
            generalize x.getD (k - 1) 0 = y at *
            by_cases d1 : z < 0
            · have e1 : decide (z < 0) = true := decide_eq_true d1
              have HF : Hid (listE c x = 4) := by
                have e : numE x k = 4 := by rw [HK.out]; exact if_pos (Or.inl d1)
                have := HIT.out (by rw [e]; decide)
                rw [e] at this; exact this
              go_wp2
              go_ret
              exact ⟨by rw [HF.out]; rfl, rfl⟩
            · have e1 : decide (z < 0) = false := decide_eq_false d1
              by_cases d2 : 63 < z
              · have e2 : decide (63 < z) = true := decide_eq_true d2
                have HF : Hid (listE c x = 4) := by
                  have e : numE x k = 4 := by rw [HK.out]; exact if_pos (Or.inr d2)
                  have := HIT.out (by rw [e]; decide)
                  rw [e] at this; exact this
                go_wp2
                go_ret
                exact ⟨by rw [HF.out]; rfl, rfl⟩
              · have e2 : decide (63 < z) = false := decide_eq_false d2
                by_cases d3 : 0 < k
                · have hc2 := HC2.out d3
                  have e3 : decide ((0 : Int) < (k : Int)) = true := decide_eq_true (by omega)
                  have hk1 : (k : Int) - 1 = ((k - 1 : Nat) : Int) := by omega
                  have hkl : k - 1 < x.length := by omega
                  by_cases d4 : z ≤ y
                  · have e4 : decide (z ≤ y) = true := decide_eq_true d4
                    have HF : Hid (listE c x = 3) := by
                      have e : numE x k = 3 := by rw [HK.out, if_neg (by omega)]; exact if_pos ⟨d3, d4⟩
                      have := HIT.out (by rw [e]; decide)
                      rw [e] at this; exact this
                    go_wp2
                    go_ret
                    exact ⟨by rw [HF.out]; rfl, rfl⟩
                  · have e4 : decide (z ≤ y) = false := decide_eq_false d4
                    have HF : Hid (numE x k = 0) := by show _ = _; rw [HK.out, if_neg (by omega)]; exact if_neg (by omega)
                    go_wp2
                    go_roundw
                    case rel => exact ⟨k + 1, by omega, by go_num, firstE_step HN.out HF.out, trivial⟩
                    case measure => simp [intOf]; omega
                · have e3 : decide ((0 : Int) < (k : Int)) = false := decide_eq_false (by omega)
                  have HF : Hid (numE x k = 0) := by show _ = _; rw [HK.out, if_neg (by omega)]; exact if_neg (by omega)
                  go_wp2
                  go_roundw
                  case rel => exact ⟨k + 1, by omega, by go_num, firstE_step HN.out HF.out, trivial⟩
                  case measure => simp [intOf]; omega
          · have hke : k = x.length := by omega
            have HZ : Hid (listE c x = 0) := by show _ = _; rw [HE.out, ← hke]; exact HN.out
            go_wp2
            go_ret
            exact ⟨by rw [HZ.out]; rfl, rfl⟩
  · have c0 : ((x.length : Int) != (c : Int)) = true := by rw [bne_iff_ne]; omega
    have HE : Hid (listE c x = 3) := if_pos (by omega)
    go_enter Tryd.func19, Tryd.ntmps19
    go_wp2
    go_ret
    exact ⟨by rw [HE.out]; rfl, rfl⟩
end Go.Proofs.YtmldemimdejciaaDoor
