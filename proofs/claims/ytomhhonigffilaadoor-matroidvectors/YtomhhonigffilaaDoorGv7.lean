/- facetref.VectorsMay. -/
import Derived.Test.YtomhhonigffilaaDoorWi1
import Derived.Test.YtomhhonigffilaaDoorSh3
import Derived.Test.YtomhhonigffilaaDoorMade1
import Derived.BigQuiet
import Derived.Deep.QuietTactic
namespace Go.Proofs.YtomhhonigffilaaDoor
open Go.RowKit
attribute [local go_sem ↓] Go.wp_at_zero Go.wp_at_succ

/-- What is wrong with a column. -/
def vcE (p : Int) (long : Nat) (r : List Int) : Int := if r.length ≠ long ∨ long < 1 ∨ 8 < long then 3 else if r.any (outB 0 (p - 1)) then 4 else 0

def scV (p : Int) (long : Nat) : List (List Int) → Int
  | [] => 0
  | r :: m => if vcE p long r = 0 then scV p long m else vcE p long r

/-- What is wrong with columns. -/
def vmE (p : Int) (m : List (List Int)) : Int := if ([2, 3, 5, 7] : List Int).contains p = false then 10 else if 8 < m.length then 11 else scV p (m.getD 0 []).length m

theorem scV_hit {p : Int} {long : Nat} : ∀ (m : List (List Int)) (i : Nat), (∀ q, q < i → vcE p long (m.getD q []) = 0) → i < m.length → vcE p long (m.getD i []) ≠ 0 → scV p long m = vcE p long (m.getD i [])
  | [], i, _, h, _ => by simp at h
  | r :: m, 0, _, _, h => by
    have h' : vcE p long r ≠ 0 := h
    show (if vcE p long r = 0 then _ else _) = _
    rw [if_neg h']; rfl
  | r :: m, i + 1, hq, hl, h => by
    have h0 : vcE p long r = 0 := hq 0 (by omega)
    show (if vcE p long r = 0 then _ else _) = _
    rw [if_pos h0]
    exact scV_hit m i (fun q hq' => hq (q + 1) (by omega)) (by simpa using hl) h

theorem scV_none {p : Int} {long : Nat} : ∀ (m : List (List Int)), (∀ q, q < m.length → vcE p long (m.getD q []) = 0) → scV p long m = 0
  | [], _ => rfl
  | r :: m, hq => by
    have h0 : vcE p long r = 0 := hq 0 (by simp)
    show (if vcE p long r = 0 then _ else _) = _
    rw [if_pos h0]
    exact scV_none m fun q hq' => hq (q + 1) (by simpa using hq')

theorem vcE_form {p : Int} {long : Nat} {r : List Int} (h : r.length ≠ long ∨ long < 1 ∨ 8 < long) : vcE p long r = 3 := if_pos h

theorem vcE_value {p : Int} {long : Nat} {r : List Int} (h : ¬ (r.length ≠ long ∨ long < 1 ∨ 8 < long)) (h2 : r.any (outB 0 (p - 1)) = true) : vcE p long r = 4 := by
  unfold vcE; rw [if_neg h, if_pos h2]

theorem vcE_ok {p : Int} {long : Nat} {r : List Int} (h : ¬ (r.length ≠ long ∨ long < 1 ∨ 8 < long)) (h2 : r.any (outB 0 (p - 1)) = false) : vcE p long r = 0 := by
  unfold vcE; rw [if_neg h, h2]; rfl

set_option maxRecDepth 100000 in
set_option maxHeartbeats 1600000 in
theorem vectorsMay_any (B : Nat) (p : Int) (m : List (List Int)) (v : Value) (w : World) (hv : Mat B 26 3 w v m) (hl : m.length ≤ 1000000) :
    Calls Tryd.prog 5 #[.int .i64 p, v] w fun e w' => e = .returned (.int .i64 (vmE p m)) ∧ Below w.heap.size w w' := by
  obtain ⟨ao, cap, hvv, hlc, hcm⟩ := mat_open hv
  subst hvv
  have HV : Hid (∀ W', Below w.heap.size w W' → Mat B 26 3 W' (.slice ao m.length cap) m) := fun W' h => hv.below h (Nat.le_refl _)
  clear hv
  obtain ⟨W, hW⟩ : ∃ W, W = w.alloc (.cells #[.int .i64 2, .int .i64 3, .int .i64 5, .int .i64 7] 3) := ⟨_, rfl⟩
  have HBW : Hid (Below w.heap.size w W) := by rw [hW]; exact (Below.refl _ _).alloc (Nat.le_refl _) _
  have HIN : Hid (Calls Tryd.prog 9 #[.int .i64 p, .slice (some ⟨w.heap.size, 0, none⟩) 4 4] W fun e w' => e = .returned (.bool (([2, 3, 5, 7] : List Int).contains p)) ∧ ∃ n, w' = W.drewN n) := by
    refine inR_any 0 p [2, 3, 5, 7] _ W ?_
    rw [hW]
    refine ⟨some ⟨w.heap.size, 0, none⟩, 4, rfl, by simp [ints], by simp [maxLen], fun i hi => ⟨w.heap.size, 0, rfl, ?_, .inr ⟨_, heap_alloc_new w _⟩⟩, fun e => by cases e⟩
    rw [Nat.zero_add]
    simp only [World.cell?, heap_alloc_new]
    match i, hi with
    | 0, _ => rfl
    | 1, _ => rfl
    | 2, _ => rfl
    | 3, _ => rfl
  have HWW : Hid (W = w.alloc (.cells #[.int .i64 2, .int .i64 3, .int .i64 5, .int .i64 7] 3)) := hW
  clear hW
  cases hc : ([2, 3, 5, 7] : List Int).contains p with
  | false =>
    have HE : Hid (vmE p m = 10) := if_pos hc
    rw [hc] at HIN
    clear hc
    go_enter Tryd.func5, Tryd.ntmps5
    go_wp2_with fail
    rw [← HWW.out]
    refine HIN.out.mono ?_
    rintro e w' ⟨rfl, n, rfl⟩
    go_wp2
    go_ret
    exact ⟨by rw [HE.out]; rfl, bel_drewN HBW.out _⟩
  | true =>
    rw [hc] at HIN
    by_cases h8 : 8 < m.length
    · have HE : Hid (vmE p m = 11) := by show _ = _; unfold vmE; rw [if_neg (by rw [hc]; simp), if_pos h8]
      have h8' : (8 : Int) < (m.length : Int) := by omega
      clear hc
      go_enter Tryd.func5, Tryd.ntmps5
      go_wp2_with fail
      rw [← HWW.out]
      refine HIN.out.mono ?_
      rintro e w' ⟨rfl, n, rfl⟩
      go_wp2
      go_ret
      exact ⟨by rw [HE.out]; rfl, bel_drewN HBW.out _⟩
    have HE : Hid (vmE p m = scV p (m.getD 0 []).length m) := by show _ = _; unfold vmE; rw [if_neg (by rw [hc]; simp), if_neg h8]
    have h8' : ¬ (8 : Int) < (m.length : Int) := by omega
    clear hc
    go_enter Tryd.func5, Tryd.ntmps5
    go_wp2_with fail
    rw [← HWW.out]
    refine HIN.out.mono ?_
    rintro e w' ⟨rfl, n, rfl⟩
    have HB0 : Hid (Below w.heap.size w (W.drewN n)) := bel_drewN HBW.out _
    generalize W.drewN n = W1 at *
    go_wp2
    go_loopw [5] (fun x wr => ∃ i : Nat, i ≤ m.length ∧ x = .int .i64 i ∧ (∀ q, q < i → vcE p (m.getD 0 []).length (m.getD q []) = 0) ∧ Below w.heap.size w wr) (fun x _ => m.length - (intOf x).toNat)
    case atStart => exact ⟨0, Nat.zero_le _, rfl, fun q hq => by omega, HB0.out⟩
    case round =>
      obtain ⟨i, hi, rfl, hno, hbr⟩ := hrel
      have HNO : Hid (∀ q, q < i → vcE p (m.getD 0 []).length (m.getD q []) = 0) := hno
      have HBR : Hid (Below w.heap.size w wr) := hbr
      clear hno hbr HB0
      by_cases hlt : i < m.length
      · obtain ⟨b, o, cp, ui, hs, _, hci, hsi⟩ := mat_cell (HV.out wr HBR.out) hlt
        simp only [Value.slice.injEq] at hs
        obtain ⟨rfl, -, -⟩ := hs
        obtain ⟨b', o', cp', u0, hs', _, hc0, hs0⟩ := mat_cell (HV.out wr HBR.out) (k := 0) (by omega)
        simp only [Value.slice.injEq, Option.some.injEq, Addr.mk.injEq, and_true] at hs'
        obtain ⟨⟨rfl, rfl⟩, -, -⟩ := hs'
        obtain ⟨uo, uc, huv, _, _⟩ := sl_open hsi
        obtain ⟨zo, zc, hzv, _, _⟩ := sl_open hs0
        have HHIT : Hid (vcE p (m.getD 0 []).length (m.getD i []) ≠ 0 → vmE p m = vcE p (m.getD 0 []).length (m.getD i [])) := fun h => by
          rw [HE.out]; exact scV_hit m i HNO.out hlt h
        have HNX : Hid (vcE p (m.getD 0 []).length (m.getD i []) = 0 → ∀ q, q < i + 1 → vcE p (m.getD 0 []).length (m.getD q []) = 0) := fun h q hq => by
          by_cases e : q = i
          · rw [e]; exact h
          · exact HNO.out q (by omega)
        generalize m.getD i [] = r at *
        generalize m.getD 0 [] = r0 at *
        subst huv hzv
        have HSI : Hid (Sl B 3 wr (.slice uo r.length uc) (ints r)) := hsi
        rw [Nat.add_zero] at hc0
        clear hsi hs0 HNO
        have iI : (i : Int) < (m.length : Int) := by omega
        have iI0 : (0 : Int) ≤ (i : Int) := by omega
        have mI0 : (0 : Int) < (m.length : Int) := by omega
        obtain ⟨rl, hrl⟩ : ∃ rl, rl = r.length := ⟨_, rfl⟩
        obtain ⟨r0l, hr0l⟩ : ∃ r0l, r0l = r0.length := ⟨_, rfl⟩
        have HRL : Hid (rl = r.length) := hrl
        have HR0 : Hid (r0l = r0.length) := hr0l
        rw [← hrl] at HSI hci
        rw [← hr0l] at hc0 HHIT HNX
        clear hrl hr0l
        have HBAD : Hid ((rl ≠ r0l ∨ r0l < 1 ∨ 8 < r0l) → vmE p m = 3) := fun h => by
          have e : vcE p r0l r = 3 := vcE_form (by rw [← HRL.out]; exact h)
          rw [HHIT.out (by rw [e]; decide), e]
        by_cases g1 : rl = r0l
        · have q1 : ((rl : Int) != (r0l : Int)) = false := by rw [bne_eq_false_iff_eq]; omega
          by_cases g2 : rl < 1
          · have HF : Hid (vmE p m = 3) := HBAD.out (by omega)
            have q2 : decide ((rl : Int) < 1) = true := decide_eq_true (by omega)
            clear g1 g2
            go_wp2_with fail
            go_big_quiet (fail)
            go_wp2
            go_ret
            exact ⟨by rw [HF.out]; rfl, bel_drewN HBR.out _⟩
          have q2 : decide ((rl : Int) < 1) = false := decide_eq_false (by omega)
          by_cases g3 : 8 < rl
          · have HF : Hid (vmE p m = 3) := HBAD.out (by omega)
            have q3 : decide ((8 : Int) < (rl : Int)) = true := decide_eq_true (by omega)
            clear g1 g2 g3
            go_wp2_with fail
            go_big_quiet (fail)
            go_wp2
            go_ret
            exact ⟨by rw [HF.out]; rfl, bel_drewN HBR.out _⟩
          have q3 : decide ((8 : Int) < (rl : Int)) = false := decide_eq_false (by omega)
          have HVAL : Hid (r.any (outB 0 (p - 1)) = true → vmE p m = 4) := fun h => by
            have e : vcE p r0l r = 4 := vcE_value (by rw [← HRL.out]; omega) h
            rw [HHIT.out (by rw [e]; decide), e]
          have HOK : Hid (r.any (outB 0 (p - 1)) = false → ∀ q, q < i + 1 → vcE p r0l (m.getD q []) = 0) := fun h =>
            HNX.out (vcE_ok (by rw [← HRL.out]; omega) h)
          clear g1 g2 HBAD HHIT HNX
          go_wp2_with fail
          go_big_quiet (fail)
          have HBQ : Hid (Below w.heap.size w (wr.drewN nq)) := bel_drewN HBR.out _
          have HSQ : Hid (Sl B 3 (wr.drewN nq) (.slice uo rl uc) (ints r)) := HSI.out
          have hciq : (wr.drewN nq).cell? ⟨b, o + i, none⟩ = some (.slice uo rl uc) := hci
          generalize wr.drewN nq = W2 at *
          clear hci hc0 HSI HBR
          go_wp2
          go_loopw [6] (fun x wy => ∃ k : Nat, k ≤ rl ∧ x = .int .i64 k ∧ (r.take k).any (outB 0 (p - 1)) = false ∧ wy = W2) (fun x _ => rl - (intOf x).toNat)
          case atStart => exact ⟨0, Nat.zero_le _, rfl, by simp, rfl⟩
          case round =>
            obtain ⟨k, hk, rfl, hany, rfl⟩ := hrel
            have HA : Hid ((r.take k).any (outB 0 (p - 1)) = false) := hany
            clear hany
            by_cases hkl : k < rl
            · obtain ⟨sb, so, _, hs, _, hcz⟩ := sl_cell HSQ.out (show k < r.length by rw [← HRL.out]; exact hkl)
              simp only [Value.slice.injEq] at hs
              obtain ⟨rfl, -, -⟩ := hs
              have HSN : Hid ((r.take (k + 1)).any (outB 0 (p - 1)) = outB 0 (p - 1) (r.getD k 0)) := any_take_snoc (p := outB 0 (p - 1)) (show k < r.length by rw [← HRL.out]; exact hkl) HA.out
              have HGT : Hid (outB 0 (p - 1) (r.getD k 0) = true → r.any (outB 0 (p - 1)) = true) := fun h => any_get (p := outB 0 (p - 1)) (show k < r.length by rw [← HRL.out]; exact hkl) h
              generalize r.getD k 0 = z at *
              have kI : (k : Int) < (rl : Int) := by omega
              have kI0 : (0 : Int) ≤ (k : Int) := by omega
              by_cases z1 : z < 0
              · have HF : Hid (vmE p m = 4) := HVAL.out (HGT.out (by unfold outB; rw [decide_eq_true z1]; rfl))
                go_wp2
                go_ret
                exact ⟨by rw [HF.out]; rfl, HBQ.out⟩
              by_cases z2 : p ≤ z
              · have HF : Hid (vmE p m = 4) := HVAL.out (HGT.out (by unfold outB; rw [decide_eq_true (show p - 1 < z by omega), Bool.or_true]))
                go_wp2
                go_ret
                exact ⟨by rw [HF.out]; rfl, HBQ.out⟩
              have HF : Hid ((r.take (k + 1)).any (outB 0 (p - 1)) = false) := by
                show _ = _
                rw [HSN.out]; unfold outB
                rw [decide_eq_false z1, decide_eq_false (show ¬ p - 1 < z by omega)]; rfl
              go_wp2
              exact ⟨⟨k + 1, by omega, by go_num, HF.out, trivial⟩, by simp [intOf]; omega⟩
            · have e : r.take k = r := List.take_of_length_le (by rw [← HRL.out]; omega)
              have HF : Hid (∀ q, q < i + 1 → vcE p r0l (m.getD q []) = 0) := HOK.out (by rw [← e]; exact HA.out)
              clear e
              have kI : ¬ (k : Int) < (rl : Int) := by omega
              go_wp2
              exact ⟨⟨i + 1, by omega, by go_num, by rw [← HR0.out]; exact HF.out, HBQ.out⟩, by simp [intOf]; omega⟩
        · have HF : Hid (vmE p m = 3) := HBAD.out (by omega)
          have q1 : ((rl : Int) != (r0l : Int)) = true := by rw [bne_iff_ne]; omega
          clear g1
          go_wp2_with fail
          go_big_quiet (fail)
          go_wp2
          go_ret
          exact ⟨by rw [HF.out]; rfl, bel_drewN HBR.out _⟩
      · have HF : Hid (vmE p m = 0) := by
          show _ = _
          rw [HE.out]
          exact scV_none m fun q hq => HNO.out q (by omega)
        go_wp2
        go_ret
        exact ⟨by rw [HF.out]; rfl, HBR.out⟩

end Go.Proofs.YtomhhonigffilaaDoor
