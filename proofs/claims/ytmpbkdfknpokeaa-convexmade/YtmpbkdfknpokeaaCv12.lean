/- ConvexMade: points of raw numbers. -/
import Derived.Test.YtmpbkdfknpokeaaCv11
import Derived.Test.YtmpbkdfknpokeaaMade1
import Derived.Test.YtmpbkdfknpokeaaPik
namespace Go.Proofs.Ytmpbkdfknpokeaa
open Go.RowKit
attribute [local go_sem ↓] Go.wp_at_zero Go.wp_at_succ

set_option maxRecDepth 100000 in
set_option maxHeartbeats 1600000 in
theorem convexMade_any (l : List Int) (dm my wd : Int) (v : Value) (w : World) (hv : Sl w.heap.size 3 w v (ints l)) (hr : ∀ z ∈ l, In64 z) (h1 : In64 dm) (h2 : In64 my) (h3 : In64 wd) :
    Calls Try.prog 4 #[v, .int .i64 dm, .int .i64 my, .int .i64 wd] w fun e w' => e = .returned (.bool true) ∧ Below w.heap.size w w' := by
  obtain ⟨ao, cap, hvv, hlc, hcm⟩ := sl_open hv
  subst hvv
  have HV : Hid (∀ W', Below w.heap.size w W' → Sl w.heap.size 3 W' (.slice ao l.length cap) (ints l)) := fun W' hB => hv.below hB (Nat.le_refl _)
  have HR : Hid (∀ z ∈ l, In64 z) := hr
  by_cases h256 : 256 < l.length
  · have b1 : (256 : Int) < (l.length : Int) := by omega
    clear hv hr
    go_enter Try.func4, Try.ntmps4
    go_wp2
    go_ret
    exact ⟨rfl, Below.refl _ _⟩
  have b1 : ¬ (256 : Int) < (l.length : Int) := by omega
  have HPK : Hid (∀ (c n : Int) (W' : World), In64 c → 1 ≤ n → n ≤ 100 → Calls Try.prog 16 #[.int .i64 c, .int .i64 n] W' fun e w' => ∃ k : Nat, e = .returned (.int .i64 k) ∧ (k : Int) < n ∧ w' = W') := fun c n W' hc hn hn2 => by
    refine (pick_val c n W' hn (by omega) hc).mono ?_
    rintro e w' ⟨rfl, rfl⟩
    have := pickF_bd (c := c) hn
    exact ⟨(pickF c n).toNat, by rw [Int.toNat_of_nonneg this.1], by rw [Int.toNat_of_nonneg this.1]; exact this.2, rfl⟩
  have HPO : Hid (∀ (fr n many wd : Nat) (W' : World), Below w.heap.size w W' → fr ≤ 1000 → n ≤ 100 → many ≤ 100 → wd ≤ 100 → Calls Try.prog 17 #[.slice ao l.length cap, .int .i64 fr, .int .i64 n, .int .i64 many, .int .i64 wd] W' fun e w' => ∃ xo xc m, e = .returned (.slice xo many xc) ∧ (m.length = many ∧ Mat 0 23 3 w' (.slice xo many xc) m) ∧ Below W'.heap.size W' w') := fun fr n many wd W' hB a b c d => by
    refine (pointsOf_any _ l _ fr n many wd W' (HV.out W' hB) HR.out (by omega) a b c (by omega)).mono ?_
    rintro e w' ⟨x, m, rfl, hm, _, hf, hb⟩
    have hm0 := fr_mat0 hf
    obtain ⟨xo, xc, rfl, _, _⟩ := mat_open hm0
    rw [hm] at hm0 ⊢
    exact ⟨xo, xc, m, rfl, ⟨hm, hm0⟩, hb⟩
  have HCS : Hid (∀ (p : List (List Int)) (x : List Int) (pv xv : Value) (W' : World), Mat W'.heap.size 23 3 W' pv p → Sl W'.heap.size 3 W' xv (ints x) → Calls Try.prog 3 #[pv, xv] W' fun e w' => e = .returned (.bool true) ∧ Below W'.heap.size W' w') := fun p x pv xv W' a b => convexSays_any p x pv xv W' a b
  clear hv hr
  have H1 : Hid (In64 dm) := h1
  have H2 : Hid (In64 my) := h2
  have H3 : Hid (In64 wd) := h3
  clear h1 h2 h3
  go_enter Try.func4, Try.ntmps4
  go_wp2_with fail
  refine (HPK.out dm 3 w H1.out (by decide) (by decide)).mono ?_
  rintro e w' ⟨d, rfl, hd, hw⟩
  obtain rfl := hw.symm
  clear hw
  have hd2 : d ≤ 2 := by omega
  have hdI : IntKind.i64.wrap (1 + (d : Int)) = ((d + 1 : Nat) : Int) := by rw [IntKind.wrap_i64]; omega
  clear hd
  go_wp2_with fail
  refine (HPO.out 40 (d + 1) 1 2 w (Below.refl _ _) (by decide) (by omega) (by decide) (by decide)).mono ?_
  rintro e w1 ⟨xo, xc, m, rfl, ⟨hml, hm⟩, hb1⟩
  obtain ⟨b0, o0, cp0, r0, hs0, _, hcc0, hr0⟩ := mat_cell hm (k := 0) (by omega)
  rw [hml] at hs0
  simp only [Value.slice.injEq] at hs0
  obtain ⟨rfl, -, rfl⟩ := hs0
  simp only [Nat.add_zero] at hcc0
  obtain ⟨uo, uc, huv, _, _⟩ := sl_open hr0
  have HX : Hid (∀ W', Below w1.heap.size w1 W' → Sl W'.heap.size 3 W' r0 (ints (m.getD 0 []))) := fun W' hB => (hr0.below hB (Nat.le_refl _)).more (Nat.zero_le _)
  have HB1 : Hid (Below w.heap.size w w1) := hb1
  clear hb1 hm hml hr0
  generalize m.getD 0 [] = x at *
  obtain ⟨xl, hxl⟩ : ∃ xl, xl = x.length := ⟨_, rfl⟩
  rw [← hxl] at huv
  clear hxl
  subst huv
  go_wp2_with fail
  refine (HPK.out wd 5 w1 H3.out (by decide) (by decide)).mono ?_
  rintro e w' ⟨g, rfl, hg, hw⟩
  rw [hw]
  clear hw w' hcc0
  have hg4 : g ≤ 4 := by omega
  have hgI : IntKind.i64.wrap (1 + (g : Int)) = ((g + 1 : Nat) : Int) := by rw [IntKind.wrap_i64]; omega
  have hdI2 : IntKind.i64.wrap (((d + 1 : Nat) : Int) + 2) = ((d + 3 : Nat) : Int) := by rw [IntKind.wrap_i64]; omega
  clear hg
  go_wp2_with fail
  refine (HPO.out 0 (d + 1) (d + 3) (g + 1) w1 HB1.out (by decide) (by omega) (by omega) (by omega)).mono ?_
  rintro e w2 ⟨po, pc, P, rfl, ⟨hpl, hp⟩, hb2⟩
  have HB12 : Hid (Below w1.heap.size w1 w2) := hb2
  have HB2 : Hid (Below w.heap.size w w2) := HB1.out.trans (hb2.mono HB1.out.size)
  have HP : Hid (Mat 0 23 3 w2 (.slice po (d + 3) pc) P) := hp
  clear hb2 hp hpl
  go_wp2_with fail
  refine (HCS.out P x _ _ w2 (HP.out.more (Nat.zero_le _)) (HX.out w2 HB12.out)).mono ?_
  rintro e w3 ⟨rfl, hb3⟩
  have HB13 : Hid (Below w1.heap.size w1 w3) := HB12.out.trans (hb3.mono HB12.out.size)
  have HB3 : Hid (Below w.heap.size w w3) := HB2.out.trans (hb3.mono HB2.out.size)
  clear hb3 HP
  go_wp2_with fail
  refine (HPK.out my 9 w3 H2.out (by decide) (by decide)).mono ?_
  rintro e w' ⟨t, rfl, ht, hw⟩
  rw [hw]
  clear hw w'
  have ht8 : t ≤ 8 := by omega
  have htI : IntKind.i64.wrap (1 + (t : Int)) = ((t + 1 : Nat) : Int) := by rw [IntKind.wrap_i64]; omega
  clear ht
  go_wp2_with fail
  refine (HPO.out 3 (d + 1) (t + 1) (g + 1) w3 HB3.out (by decide) (by omega) (by omega) (by omega)).mono ?_
  rintro e w4 ⟨po, pc, P, rfl, ⟨hpl, hp⟩, hb4⟩
  have HB14 : Hid (Below w1.heap.size w1 w4) := HB13.out.trans (hb4.mono HB13.out.size)
  have HB4 : Hid (Below w.heap.size w w4) := HB3.out.trans (hb4.mono HB3.out.size)
  have HP : Hid (Mat 0 23 3 w4 (.slice po (t + 1) pc) P) := hp
  clear hb4 hp hpl
  go_wp2_with fail
  refine (HCS.out P x _ _ w4 (HP.out.more (Nat.zero_le _)) (HX.out w4 HB14.out)).mono ?_
  rintro e w5 ⟨rfl, hb5⟩
  have HB5 : Hid (Below w.heap.size w w5) := HB4.out.trans (hb5.mono HB4.out.size)
  clear hb5
  go_wp2
  go_ret
  exact ⟨rfl, HB5.out⟩

end Go.Proofs.Ytmpbkdfknpokeaa
