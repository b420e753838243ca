/- TropicSays: the law. -/
import Derived.Test.YtmkbijclbogjhaaTr2
namespace Go.Proofs.Ytmkbijclbogjhaa
open Go.RowKit
attribute [local go_sem ↓] Go.wp_at_zero Go.wp_at_succ
attribute [local go_sem] Try.sizeOfT Try.isAggT

/-- The least so far. -/
def bsJ (l : List Int) (x : Int) (j : Nat) : Int := if j = 0 then 0 else minTo (tmL l x 1) (j - 1)

theorem bsJ_pos (l : List Int) (x : Int) (k : Nat) : bsJ l x (k + 1) = minTo (tmL l x 1) k := if_neg (by omega)

theorem bsJ_succ {l : List Int} {x : Int} {j : Nat} (h : j < l.length) : bsJ l x (j + 1) = if j = 0 ∨ l.getD j 0 + (j : Int) * x < bsJ l x j then l.getD j 0 + (j : Int) * x else bsJ l x j := by
  have e : (tmL l x 1).getD j 0 = l.getD j 0 + (j : Int) * x := by rw [tmL_at h]; omega
  rw [bsJ_pos]
  cases j with
  | zero => rw [if_pos (.inl rfl)]; exact e
  | succ k =>
    rw [bsJ_pos]
    show (if (tmL l x 1).getD (k + 1) 0 < minTo (tmL l x 1) k then (tmL l x 1).getD (k + 1) 0 else minTo (tmL l x 1) k) = _
    rw [e]
    by_cases c : l.getD (k + 1) 0 + ((k + 1 : Nat) : Int) * x < minTo (tmL l x 1) k
    · rw [if_pos c, if_pos (Or.inr c)]
    · rw [if_neg c, if_neg (fun h => h.elim (fun h => by omega) c)]

theorem bsJ_end {l : List Int} {x : Int} (h : 1 ≤ l.length) : bsJ l x l.length = minL (tmL l x 1) := by
  unfold bsJ minL
  rw [if_neg (by omega), tmL_len]

theorem bsJ_bd {l : List Int} {x : Int} (hl : Lst l) (hx : -10000 ≤ x ∧ x ≤ 10000) {j : Nat} (hj : j ≤ l.length) : -500000 ≤ bsJ l x j ∧ bsJ l x j ≤ 500000 := by
  unfold bsJ
  by_cases c : j = 0
  · rw [if_pos c]; decide
  · rw [if_neg c]
    obtain ⟨q, hq, e⟩ := minTo_mem (tmL l x 1) (j - 1)
    rw [← e, tmL_at (by omega)]
    have h := tm_bd (j := q) (hl.at q) (show -20 ≤ (1 : Int) ∧ (1 : Int) ≤ 20 by decide) (show -20000 ≤ x ∧ x ≤ 20000 by omega) (by have := hl.n20; omega)
    have := hl.at q
    omega

set_option maxRecDepth 100000 in
set_option maxHeartbeats 3200000 in
theorem tropicSays_any (l : List Int) (x : Int) (v : Value) (w : World) (hv : Sl w.heap.size 3 w v (ints l)) :
    Calls Try.prog 3 #[v, .int .i64 x] w fun e w' => e = .returned (.bool true) ∧ Below w.heap.size w w' := by
  obtain ⟨ao, cap, hvv, hlc, hcm⟩ := sl_open hv
  subst hvv
  have HV : Hid (∀ W', Below w.heap.size w W' → Sl w.heap.size 3 W' (.slice ao l.length cap) (ints l)) := fun W' h => hv.below h (Nat.le_refl _)
  have HLM : Hid (Calls Try.prog 4 #[.slice ao l.length cap] w fun e w' => e = .returned (.int .i64 (listTE l)) ∧ w' = w) := listMay_any w.heap.size l _ w hv
  have HRT : Hid (∀ W', Below w.heap.size w W' → Calls Try.prog 6 #[.slice ao l.length cap] W' fun e w' => RootsPost l W' e w') := fun W' h => roots_any l _ W' ((HV.out W' h).more h.size)
  have HCK : Hid (∀ W', Below w.heap.size w W' → Calls Try.prog 7 #[.slice ao l.length cap] W' fun e w' => e = .returned (.int .i64 (listTE l)) ∧ Below W'.heap.size W' w') := fun W' h => checkT_any w.heap.size l _ W' (HV.out W' h)
  have HAT : Hid (∀ W', Below w.heap.size w W' → Calls Try.prog 9 #[.slice ao l.length cap, .int .i64 x] W' fun e w' => e = .returned (.tuple #[.int .i64 (atV l x), .int .i64 (atE l x)]) ∧ Below W'.heap.size W' w') := fun W' h => at_any w.heap.size l x _ W' (HV.out W' h) h.size
  have HFA : Hid (∀ W' : World, Calls Try.prog 8 #[.int .i64 x, .int .i64 10000] W' fun e w' => e = .returned (.bool (farB x 10000)) ∧ w' = W') := fun W' => far_any x 10000 W' (by decide) (by decide)
  have HMO : Hid (Lst l → Calls Try.prog 5 #[.slice ao l.length cap] w fun e w' => MetPost l w e w') := fun h => metOf_any l _ w h hv
  clear hv hlc hcm
  by_cases h300 : 300 < l.length
  · have h1 : (300 : Int) < (l.length : Int) := by omega
    go_enter Try.func3, Try.ntmps3
    go_wp2
    go_ret
    exact ⟨rfl, Below.refl _ _⟩
  have h1 : ¬ (300 : Int) < (l.length : Int) := by omega
  by_cases h0 : listTE l = 0
  · have hL := list_okT h0
    have HL : Hid (Lst l) := hL
    have HM2 : Hid (Calls Try.prog 5 #[.slice ao l.length cap] w fun e w' => MetPost l w e w') := HMO.out hL
    have HAE : Hid (atE l x = if farB x 10000 then 9 else 0) := if_neg (by rw [h0]; simp)
    have HH0 : Hid (listTE l = 0) := h0
    rw [h0] at HLM HCK
    have hn1 := hL.n1
    have hn20 := hL.n20
    clear h0 hL HMO h300
    go_enter Try.func3, Try.ntmps3
    go_wp2_with fail
    refine HLM.out.mono ?_
    rintro e w' ⟨rfl, hw⟩
    obtain rfl := hw.symm
    clear hw
    go_wp2_with fail
    refine HM2.out.mono ?_
    rintro e w1 ⟨u, O, rfl, hou, hmet, hb1⟩
    have HOU : Hid (w1.ownsRow w.heap.size 30 3 u O.length (O.flatMap encT)) := hou
    have HMT : Hid (Met l (fun _ _ => True) O) := hmet
    have HB1 : Hid (Below w.heap.size w w1) := hb1
    obtain ⟨uo, uc, huv⟩ := owns_form3 hou
    subst huv
    clear hou hmet hb1
    go_wp2_with fail
    refine (HRT.out w1 HB1.out).mono ?_
    rintro e w2 ⟨rv, m, rfl, hor, -, hm2, hb2⟩
    obtain ⟨hperm, hasc⟩ := hm2 HH0.out
    have hml : m.length ≤ 1000 := by
      rw [hperm.length_eq]
      exact Nat.le_trans (rsL_len l _) (ext2_len hn20)
    have hOm : O = m := HMT.out.done (fun _ _ _ _ => trivial) hperm hasc
    subst hOm
    rw [HH0.out]
    have HOR : Hid (w2.ownsRow w1.heap.size 30 3 rv O.length (O.flatMap encT)) := hor
    have HOU2 : Hid (w2.ownsRow w.heap.size 30 3 (.slice uo O.length uc) O.length (O.flatMap encT)) := ownsR_keep HOU.out fun g hg => hb2.block g (HOU.out.lt g hg).2
    have HB2 : Hid (Below w.heap.size w w2) := HB1.out.trans (hb2.mono HB1.out.size)
    obtain ⟨ro, rc, hrv⟩ := owns_form3 hor
    subst hrv
    clear hor hm2 hb2 hperm hasc HOU HMT HB1
    go_wp2_with fail
    refine (HCK.out w2 HB2.out).mono ?_
    rintro e w3 ⟨rfl, hb3⟩
    have HOR3 : Hid (w3.ownsRow w1.heap.size 30 3 (.slice ro O.length rc) O.length (O.flatMap encT)) := ownsR_keep HOR.out fun g hg => hb3.block g (HOR.out.lt g hg).2
    have HOU3 : Hid (w3.ownsRow w.heap.size 30 3 (.slice uo O.length uc) O.length (O.flatMap encT)) := ownsR_keep HOU2.out fun g hg => hb3.block g (HOU2.out.lt g hg).2
    have HB3 : Hid (Below w.heap.size w w3) := HB2.out.trans (hb3.mono HB2.out.size)
    clear hb3 HOR HOU2 HB2
    have hOO : ((O.length : Int) != (O.length : Int)) = false := by simp
    go_wp2
    go_loopw [9] (fun y wr => ∃ k : Nat, k ≤ O.length ∧ y = .int .i64 k ∧ ∃ q, wr = w3.drewN q) (fun y _ => O.length - (intOf y).toNat)
    case atStart => exact ⟨0, Nat.zero_le _, rfl, 0, rfl⟩
    case round =>
      obtain ⟨k, hk, rfl, q, rfl⟩ := hrel
      by_cases hlt : k < O.length
      · obtain ⟨gu, hgu, _, _⟩ := met_form HOU3.out (by omega)
        obtain ⟨gr, hgr, _, _⟩ := met_form HOR3.out (by omega)
        subst hgu hgr
        obtain ⟨a0, a1, a2⟩ := met_cells HOU3.out rfl hlt
        obtain ⟨b0, b1, b2⟩ := met_cells HOR3.out rfl hlt
        generalize O.getD k (0, 1, 0) = o at *
        obtain ⟨o1, o2, o3⟩ := o
        dsimp only at a0 a1 a2 b0 b1 b2
        have hme := fun w => met_eq o1 o2 o3 w
        have kI : (k : Int) < (O.length : Int) := by omega
        have kI0 : (0 : Int) ≤ (k : Int) := by omega
        have a0' : (w3.drewN q).cell? ⟨gu, k * 3, none⟩ = some (.int .i64 o1) := a0
        have a1' : (w3.drewN q).cell? ⟨gu, k * 3 + 1, none⟩ = some (.int .i64 o2) := a1
        have a2' : (w3.drewN q).cell? ⟨gu, k * 3 + 2, none⟩ = some (.int .i64 o3) := a2
        have b0' : (w3.drewN q).cell? ⟨gr, k * 3, none⟩ = some (.int .i64 o1) := b0
        have b1' : (w3.drewN q).cell? ⟨gr, k * 3 + 1, none⟩ = some (.int .i64 o2) := b1
        have b2' : (w3.drewN q).cell? ⟨gr, k * 3 + 2, none⟩ = some (.int .i64 o3) := b2
        clear a0 a1 a2 b0 b1 b2
        obtain ⟨Wq, hWq⟩ : ∃ Wq, Wq = w3.drewN q := ⟨_, rfl⟩
        have HWQ : Hid (Wq = w3.drewN q) := hWq
        rw [← hWq] at a0' a1' a2' b0' b1' b2' ⊢
        clear hWq
        go_wp2_with fail
        go_big_quiet (fail)
        have HWR : Hid (∃ q', Wq.drewN nq = w3.drewN q') := by rw [HWQ.out]; exact ⟨q + nq, by rw [World.drewN_drewN]⟩
        go_wp2
        exact ⟨⟨k + 1, by omega, by go_num, HWR.out⟩, by simp [intOf]; omega⟩
      · have kI : ¬ (k : Int) < (O.length : Int) := by omega
        have HBQ : Hid (Below w.heap.size w (w3.drewN q)) := ⟨HB3.out.os, HB3.out.tape, HB3.out.output, HB3.out.size, HB3.out.block⟩
        generalize w3.drewN q = W4 at *
        clear HOU3 HOR3 HB3
        go_wp2_with fail
        refine (HFA.out W4).mono ?_
        rintro e w5 ⟨rfl, hw5⟩
        rw [hw5]
        clear hw5
        have HNF : Hid (∀ a E : Int, ∀ W' : World, (E ≠ 0 → a = 0) → ∀ b, (E = 0 → a = b) → Calls Try.prog 10 #[.int .i64 a, .int .i64 E, .int .i64 b, .int .i64 E] W' fun x w' => x = .returned (.bool true) ∧ w' = W') := fun a E W' h1 b h2 => num_true a E b E W' rfl h1 h2
        by_cases hf : farB x 10000 = true
        · have HE2 : Hid (atE l x = 9) := by show _ = _; rw [HAE.out, if_pos hf]
          have HV2 : Hid (atV l x = 0) := if_neg (by rw [HE2.out]; decide)
          have HA2 : Hid (Calls Try.prog 9 #[.slice ao l.length cap, .int .i64 x] W4 fun e w' => e = .returned (.tuple #[.int .i64 0, .int .i64 9]) ∧ Below W4.heap.size W4 w') := by
            have h := HAT.out W4 HBQ.out
            rw [HE2.out, HV2.out] at h
            exact h
          rw [hf]
          clear hf HAT HE2 HV2 HAE
          have l0 : decide ((0 : Int) < (l.length : Int)) = true := decide_eq_true (by omega)
          go_wp2
          go_loopw [10, 11] (fun b y wr => b = .int .i64 0 ∧ y = .int .i64 0 ∧ wr = W4) (fun _ y _ => 0)
          case atStart => exact ⟨rfl, rfl, rfl⟩
          case round =>
            obtain ⟨rfl, rfl, rfl⟩ := hrel
            go_wp2_with fail
            refine HA2.out.mono ?_
            rintro e w6 ⟨rfl, hb6⟩
            have HB6 : Hid (Below w.heap.size w w6) := HBQ.out.trans (hb6.mono HBQ.out.size)
            clear hb6
            go_wp2_with fail
            refine (HNF.out 0 9 w6 (fun _ => rfl) 0 (fun _ => rfl)).mono ?_
            rintro e w7 ⟨rfl, hw7⟩
            rw [hw7]
            clear hw7
            go_wp2
            go_ret
            exact ⟨rfl, HB6.out⟩
        · have hf' : farB x 10000 = false := by simpa using hf
          have HE2 : Hid (atE l x = 0) := by show _ = _; rw [HAE.out, if_neg hf]
          have HV2 : Hid (atV l x = bsJ l x l.length) := by rw [bsJ_end hn1]; exact if_pos HE2.out
          have hx : -10000 ≤ x ∧ x ≤ 10000 := by
            unfold farB at hf'
            have : ¬ (10000 < x) ∧ ¬ (x < -10000) := by simpa using hf'
            omega
          have HA2 : Hid (Calls Try.prog 9 #[.slice ao l.length cap, .int .i64 x] W4 fun e w' => e = .returned (.tuple #[.int .i64 (bsJ l x l.length), .int .i64 0]) ∧ Below W4.heap.size W4 w') := by
            have h := HAT.out W4 HBQ.out
            rw [HE2.out, HV2.out] at h
            exact h
          rw [hf']
          clear hf hf' HAT HE2 HV2 HAE
          go_wp2
          go_loopw [10, 11] (fun bv y wr => ∃ j : Nat, j ≤ l.length ∧ y = .int .i64 j ∧ bv = .int .i64 (bsJ l x j) ∧ wr = W4) (fun _ y _ => l.length - (intOf y).toNat)
          case atStart => exact ⟨0, Nat.zero_le _, rfl, rfl, rfl⟩
          case round =>
            obtain ⟨j, hj, rfl, rfl, rfl⟩ := hrel
            by_cases hjn : j < l.length
            · obtain ⟨lb, lq, _, hs, _, cj⟩ := sl_cell (HV.out wr HBQ.out) hjn
              simp only [Value.slice.injEq] at hs
              obtain ⟨rfl, -, -⟩ := hs
              have HSC : Hid (bsJ l x (j + 1) = if j = 0 ∨ l.getD j 0 + (j : Int) * x < bsJ l x j then l.getD j 0 + (j : Int) * x else bsJ l x j) := bsJ_succ hjn
              have hb := bsJ_bd HL.out hx (j := j) hj
              have hlj := HL.out.at j
              have hjx := tm_bd (x := 0) (b := 0) (a := x) (j := j) (by decide) (by decide) (by omega) (by omega)
              generalize l.getD j 0 = lj at *
              obtain ⟨p2, hp2⟩ : ∃ p2, p2 = (j : Int) * x := ⟨_, rfl⟩
              rw [← hp2] at HSC hjx
              have s1 : IntKind.i64.wrap ((j : Int) * x) = p2 := by rw [← hp2, IntKind.wrap_i64]; omega
              obtain ⟨tv, htv⟩ : ∃ tv, tv = lj + p2 := ⟨_, rfl⟩
              rw [← htv] at HSC
              have s2 : IntKind.i64.wrap (lj + p2) = tv := by rw [← htv, IntKind.wrap_i64]; omega
              generalize bsJ l x j = bj at *
              have jI : (j : Int) < (l.length : Int) := by omega
              have jI0 : (0 : Int) ≤ (j : Int) := by omega
              clear hp2 htv hb hlj hjx
              by_cases c0 : j = 0
              · have q0 : ((j : Int) == 0) = true := by rw [c0]; rfl
                have HN2 : Hid (bsJ l x (j + 1) = tv) := by show _ = _; rw [HSC.out, if_pos (.inl c0)]
                clear c0 HSC
                go_wp2
                exact ⟨⟨j + 1, by omega, by go_num, by rw [HN2.out], trivial⟩, by simp [intOf]; omega⟩
              · have q0 : ((j : Int) == 0) = false := by rw [beq_eq_false_iff_ne]; omega
                have q0' : (j == 0) = false := by rw [beq_eq_false_iff_ne]; omega
                by_cases c1 : tv < bj
                · have q1 : decide (tv < bj) = true := decide_eq_true c1
                  have HN2 : Hid (bsJ l x (j + 1) = tv) := by show _ = _; rw [HSC.out, if_pos (.inr c1)]
                  clear c0 HSC
                  go_wp2
                  exact ⟨⟨j + 1, by omega, by go_num, by rw [HN2.out], trivial⟩, by simp [intOf]; omega⟩
                · have q1 : decide (tv < bj) = false := decide_eq_false c1
                  have HN2 : Hid (bsJ l x (j + 1) = bj) := by show _ = _; rw [HSC.out, if_neg (fun h => h.elim c0 c1)]
                  clear c0 HSC
                  go_wp2
                  exact ⟨⟨j + 1, by omega, by go_num, by rw [HN2.out], trivial⟩, by simp [intOf]; omega⟩
            · have hje : j = l.length := by omega
              have jI : ¬ (j : Int) < (l.length : Int) := by omega
              have HJE : Hid (bsJ l x j = bsJ l x l.length) := by show _ = _; rw [hje]
              rw [HJE.out]
              generalize bsJ l x l.length = bn at *
              clear hje HJE
              go_wp2_with fail
              refine HA2.out.mono ?_
              rintro e w6 ⟨rfl, hb6⟩
              have HB6 : Hid (Below w.heap.size w w6) := HBQ.out.trans (hb6.mono HBQ.out.size)
              clear hb6
              go_wp2_with fail
              refine (HNF.out bn 0 w6 (fun h => absurd rfl h) bn (fun _ => rfl)).mono ?_
              rintro e w7 ⟨rfl, hw7⟩
              rw [hw7]
              clear hw7
              go_wp2
              go_ret
              exact ⟨rfl, HB6.out⟩
  · have HE2 : Hid (atE l x = listTE l) := if_pos h0
    have HV2 : Hid (atV l x = 0) := if_neg (by rw [HE2.out]; exact h0)
    have HNE : Hid (listTE l ≠ 0) := h0
    have HA2 : Hid (∀ W', Below w.heap.size w W' → Calls Try.prog 9 #[.slice ao l.length cap, .int .i64 x] W' fun e w' => e = .returned (.tuple #[.int .i64 0, .int .i64 (listTE l)]) ∧ Below W'.heap.size W' w') := fun W' hb => by
      have h := HAT.out W' hb
      rw [HE2.out, HV2.out] at h
      exact h
    have HRT2 : Hid (∀ W', Below w.heap.size w W' → Calls Try.prog 6 #[.slice ao l.length cap] W' fun e w' => ∃ ro rc, e = .returned (.tuple #[.slice ro 0 rc, .int .i64 (listTE l)]) ∧ Below W'.heap.size W' w') := fun W' hb => (HRT.out W' hb).mono fun e w' h => by
      obtain ⟨rv, m, rfl, hor, hm0, _, hb2⟩ := h
      have hm := hm0 HNE.out
      subst hm
      obtain ⟨ro, rc, hrv⟩ := owns_form3 hor
      subst hrv
      exact ⟨ro, rc, rfl, hb2⟩
    have qE : (listTE l == 0) = false := by rw [beq_eq_false_iff_ne]; exact h0
    have qN : (listTE l != listTE l) = false := by simp
    clear h0 HAT HRT HMO HE2 HV2 h300
    generalize listTE l = E at *
    have HNF : Hid (∀ W' : World, Calls Try.prog 10 #[.int .i64 0, .int .i64 E, .int .i64 0, .int .i64 E] W' fun x w' => x = .returned (.bool true) ∧ w' = W') := fun W' => num_true 0 E 0 E W' rfl (fun _ => rfl) (fun _ => rfl)
    go_enter Try.func3, Try.ntmps3
    go_wp2_with fail
    refine HLM.out.mono ?_
    rintro e w' ⟨rfl, hw⟩
    obtain rfl := hw.symm
    clear hw
    go_wp2_with fail
    refine (HRT2.out w (Below.refl _ _)).mono ?_
    rintro e w2 ⟨ro, rc, rfl, hb2⟩
    have HB2 : Hid (Below w.heap.size w w2) := hb2
    clear hb2
    go_wp2_with fail
    refine (HCK.out w2 HB2.out).mono ?_
    rintro e w3 ⟨rfl, hb3⟩
    have HB3 : Hid (Below w.heap.size w w3) := HB2.out.trans (hb3.mono HB2.out.size)
    clear hb3
    go_wp2
    go_loopw [9] (fun y wr => y = .int .i64 0 ∧ wr = w3) (fun y _ => 0)
    case atStart => exact ⟨rfl, rfl⟩
    case round =>
      obtain ⟨rfl, rfl⟩ := hrel
      go_wp2
      go_loopw [10, 11] (fun b y wq => b = .int .i64 0 ∧ y = .int .i64 0 ∧ wq = wr) (fun _ y _ => 0)
      case atStart => exact ⟨rfl, rfl, rfl⟩
      case round =>
        obtain ⟨rfl, rfl, rfl⟩ := hrel
        by_cases hl0 : 0 < l.length
        · have l0 : decide ((0 : Int) < (l.length : Int)) = true := decide_eq_true (by omega)
          have l0' : (0 : Int) < (l.length : Int) := by omega
          go_wp2_with fail
          refine (HA2.out _ HB3.out).mono ?_
          rintro e w6 ⟨rfl, hb6⟩
          have HB6 : Hid (Below w.heap.size w w6) := HB3.out.trans (hb6.mono HB3.out.size)
          clear hb6
          go_wp2_with fail
          refine (HNF.out w6).mono ?_
          rintro e w7 ⟨rfl, hw7⟩
          rw [hw7]
          clear hw7
          go_wp2
          go_ret
          exact ⟨rfl, HB6.out⟩
        · have l0 : decide ((0 : Int) < (l.length : Int)) = false := decide_eq_false (by omega)
          have l0' : ¬ (0 : Int) < (l.length : Int) := by omega
          go_wp2_with fail
          refine (HA2.out _ HB3.out).mono ?_
          rintro e w6 ⟨rfl, hb6⟩
          have HB6 : Hid (Below w.heap.size w w6) := HB3.out.trans (hb6.mono HB3.out.size)
          clear hb6
          go_wp2_with fail
          refine (HNF.out w6).mono ?_
          rintro e w7 ⟨rfl, hw7⟩
          rw [hw7]
          clear hw7
          go_wp2
          go_ret
          exact ⟨rfl, HB6.out⟩

end Go.Proofs.Ytmkbijclbogjhaa
