import Derived.Test.YtilblfoapjnmaaaGreatDoorDo3r
import Derived.Test.YtilblfoapjnmaaaGreatDoorMgAI
import Derived.Test.YtilblfoapjnmaaaGreatDoorMgAA
import Derived.Test.YtilblfoapjnmaaaGreatDoorMgAB
import Derived.Deep.RegionHeld3
import Derived.Deep.RegionLaw
import Derived.Deep.DrawnRows
/- slices.MaxFunc over roots by heights; root.Highest. -/
namespace Go.Proofs.YtilblfoapjnmaaaGreatDoor
open Go.RowKit
attribute [local go_sem ↓] Go.wp_at_zero Go.wp_at_succ

theorem cmpL_neg : ∀ x y : List Int, cmpL y x = - cmpL x y
  | [], [] => rfl
  | [], _ :: _ => rfl
  | _ :: _, [] => rfl
  | x :: xs, y :: ys => by
    have ih := cmpL_neg xs ys
    unfold cmpL
    by_cases h1 : x < y
    · rw [if_neg (show ¬ y < x by omega), if_pos h1, if_pos h1]; rfl
    · by_cases h2 : y < x
      · rw [if_pos h2, if_neg h1, if_pos h2]
      · rw [if_neg h2, if_neg h1, if_neg h1, if_neg h2]; exact ih

theorem hcf_neg (x y : List Int) : hcf y x = - hcf x y := by
  have h1 : cmpI y.sum x.sum = - cmpI x.sum y.sum := by
    unfold cmpI
    repeat' split
    all_goals omega
  have h2 := cmpL_neg x y
  unfold hcf orL
  rw [h1]
  by_cases h : cmpI x.sum y.sum = 0
  · rw [if_pos (by omega), if_pos h]
    unfold orL
    by_cases h3 : cmpL x y = 0
    · rw [if_pos (by omega), if_pos h3]; rfl
    · rw [if_neg (by omega), if_neg h3]; exact h2
  · rw [if_neg (by omega), if_neg h]

theorem hcf_trans {x y z : List Int} (h1 : hcf x y < 0) (h2 : hcf y z < 0) : hcf x z < 0 := by
  rcases (hcf_lt x y).1 h1 with a | ⟨a, a2⟩
  · rcases (hcf_lt y z).1 h2 with b | ⟨b, b2⟩
    · exact (hcf_lt x z).2 (.inl (by omega))
    · exact (hcf_lt x z).2 (.inl (by omega))
  · rcases (hcf_lt y z).1 h2 with b | ⟨b, b2⟩
    · exact (hcf_lt x z).2 (.inl (by omega))
    · exact (hcf_lt x z).2 (.inr ⟨by omega, cmpL_trans _ _ _ a2 b2⟩)

/-- The place of the greatest of the first roots. -/
def TopAt (m : List (List Int)) (j k : Nat) : Prop := j < k ∧ ∀ t, t < k → ¬ hcf (m.getD j []) (m.getD t []) < 0

theorem TopAt.next {m : List (List Int)} {j k : Nat} (h : TopAt m j k) : (0 < hcf (m.getD k []) (m.getD j []) → TopAt m k (k + 1)) ∧ (¬ 0 < hcf (m.getD k []) (m.getD j []) → TopAt m j (k + 1)) := by
  have hs : hcf (m.getD k []) (m.getD k []) = 0 := by have := hcf_neg (m.getD k []) (m.getD k []); omega
  refine ⟨fun h1 => ⟨by omega, fun t ht h2 => ?_⟩, fun h1 => ⟨by have := h.1; omega, fun t ht h2 => ?_⟩⟩
  · by_cases e : t = k
    · subst e; omega
    · refine h.2 t (by omega) (hcf_trans ?_ h2)
      rw [hcf_neg]; omega
  · by_cases e : t = k
    · subst e
      rw [hcf_neg] at h2; omega
    · exact h.2 t (by omega) h2

set_option maxRecDepth 100000 in
set_option maxHeartbeats 1600000 in
theorem maxH_any (n : Nat) (m : List (List Int)) (v : Value) (w : World) (hv : Mat 0 26 3 w v m) (hm0 : 0 < m.length) (hml : m.length ≤ 1000) (hb : ∀ b ∈ m, SmX b ∧ b.length = n) :
    Calls Tryz.prog 35 #[v, .func (.func 29) #[] #[]] w fun e w' => (∃ j ro rc, e = .returned (.slice ro n rc) ∧ TopAt m j m.length ∧ Sl 0 3 w' (.slice ro n rc) (ints (m.getD j []))) ∧ Below w.heap.size w w' := by
  obtain ⟨b, o, cap, r0, hvv, hlc, hc0, hr0⟩ := mat_cell hv hm0
  subst hvv
  have HV : Hid (∀ X, Below w.heap.size w X → Mat 0 26 3 X (.slice (some ⟨b, o, none⟩) m.length cap) m) := fun X hX => hv.below hX (Nat.le_refl _)
  have HBD : Hid (∀ k, k < m.length → SmX (m.getD k []) ∧ (m.getD k []).length = n) := fun k hk => hb _ (by simp [hk])
  have HCE : Hid (∀ k, k < m.length → ∃ ro rc, ∀ X, Below w.heap.size w X → X.cell? ⟨b, o + k, none⟩ = some (.slice ro n rc) ∧ Sl 0 3 X (.slice ro n rc) (ints (m.getD k []))) := fun k hk => by
    obtain ⟨b2, o2, cp2, r, hs2, _, hc2, hr⟩ := mat_cell hv hk
    simp only [Value.slice.injEq, Option.some.injEq, Addr.mk.injEq, and_true] at hs2
    obtain ⟨⟨rfl, rfl⟩, -, rfl⟩ := hs2
    obtain ⟨ro, rc, rfl, _, _⟩ := sl_open hr
    rw [(HBD.out k hk).2] at hc2 hr
    exact ⟨ro, rc, fun X hX => ⟨(hX.cell (lt_of_cell hc2)).trans hc2, hr.below hX (Nat.le_refl _)⟩⟩
  obtain ⟨r0o, r0c, hr0'⟩ := HCE.out 0 hm0
  obtain ⟨c0, s0⟩ := hr0' w (Below.refl _ _)
  have HS0 : Hid (∀ X, Below w.heap.size w X → Sl 0 3 X (.slice r0o n r0c) (ints (m.getD 0 []))) := fun X hX => (hr0' X hX).2
  have t1 : ¬ (m.length : Int) < 1 := by omega
  have HT0 : Hid (TopAt m 0 1) := ⟨by omega, fun t ht => by
    have e : t = 0 := by omega
    subst e
    have := hcf_neg (m.getD 0 []) (m.getD 0 [])
    omega⟩
  have hmI : (0 : Int) < (m.length : Int) := by omega
  simp only [Nat.add_zero] at c0
  clear hv hb hr0 hc0 hr0' s0
  go_enter Tryz.func35, Tryz.ntmps35
  go_wp2
  clear c0
  go_loopw [5, 6] (fun mv iv wr => ∃ (k j : Nat) (ro : Option Addr) (rc : Nat), k ≤ m.length ∧ iv = .int .i64 k ∧ mv = .slice ro n rc ∧ TopAt m j k ∧ (∀ X, Below w.heap.size w X → Sl 0 3 X (.slice ro n rc) (ints (m.getD j []))) ∧ Below w.heap.size w wr) (fun _ iv _ => m.length - (intOf iv).toNat)
  case atStart => exact ⟨1, 0, r0o, r0c, hm0, rfl, rfl, HT0.out, HS0.out, Below.refl _ _⟩
  case round =>
    obtain ⟨k, j, ro, rc, hk, rfl, rfl, htop, hsl, hbel⟩ := hrel
    have HTP : Hid (TopAt m j k) := htop
    have HSL : Hid (∀ X, Below w.heap.size w X → Sl 0 3 X (.slice ro n rc) (ints (m.getD j []))) := hsl
    have HB : Hid (Below w.heap.size w wr) := hbel
    have hjk := htop.1
    clear htop hsl hbel HS0 HT0
    have kI0 : (0 : Int) ≤ (k : Int) := by omega
    by_cases hlt : k < m.length
    · have kI : (k : Int) < (m.length : Int) := by omega
      obtain ⟨xo, xc, hx⟩ := HCE.out k hlt
      have ck := (hx wr HB.out).1
      have HCK : Hid (∀ X, Below w.heap.size w X → X.cell? ⟨b, o + k, none⟩ = some (.slice xo n xc) ∧ Sl 0 3 X (.slice xo n xc) (ints (m.getD k []))) := hx
      obtain ⟨b1, _⟩ := HBD.out k hlt
      obtain ⟨b2, _⟩ := HBD.out j (by omega)
      have HBH : Hid (∀ X, Below w.heap.size w X → Calls Tryz.prog 29 #[.slice xo n xc, .slice ro n rc] X fun e w' => e = .returned (.int .i64 (hcf (m.getD k []) (m.getD j []))) ∧ Below X.heap.size X w') := fun X hX => by
        refine (byHeight_any 0 (m.getD k []) (m.getD j []) _ _ X (HCK.out X hX).2 (HSL.out X hX) b1 b2).mono ?_
        rintro e w' ⟨h1, rfl⟩
        exact ⟨h1, (Below.refl _ _).alloc (Nat.le_refl _) _⟩
      obtain ⟨n1, n2⟩ := HTP.out.next
      have HN1 : Hid (0 < hcf (m.getD k []) (m.getD j []) → TopAt m k (k + 1)) := n1
      have HN2 : Hid (¬ 0 < hcf (m.getD k []) (m.getD j []) → TopAt m j (k + 1)) := n2
      clear n1 n2 hx b1 b2
      generalize hcf (m.getD k []) (m.getD j []) = T at *
      go_wp2_with fail
      refine (HBH.out wr HB.out).mono ?_
      rintro e w2 ⟨rfl, hb2⟩
      have HB2 : Hid (Below w.heap.size w w2) := HB.out.trans (hb2.mono HB.out.size)
      have ck2 := (HCK.out w2 HB2.out).1
      have HSX : Hid (∀ X, Below w.heap.size w X → Sl 0 3 X (.slice xo n xc) (ints (m.getD k []))) := fun X hX => (HCK.out X hX).2
      clear hb2 HBH ck
      by_cases hT : 0 < T
      · have HF := HN1.out hT
        have HFF : Hid (TopAt m k (k + 1)) := HF
        go_wp2
        exact ⟨⟨k + 1, k, xo, xc, by omega, by go_num, rfl, HFF.out, HSX.out, HB2.out⟩, by simp [intOf]; omega⟩
      · have HFF : Hid (TopAt m j (k + 1)) := HN2.out (by omega)
        go_wp2
        exact ⟨⟨k + 1, j, ro, rc, by omega, by go_num, rfl, HFF.out, HSL.out, HB2.out⟩, by simp [intOf]; omega⟩
    · have hke : k = m.length := by omega
      subst hke
      have hlt2 : ¬ (m.length : Int) < (m.length : Int) := by omega
      clear hlt hk
      go_wp2
      go_ret
      exact ⟨⟨j, ro, rc, rfl, HTP.out, HSL.out wr HB.out⟩, HB.out⟩

/-- The last of roots in order is the greatest. -/
theorem top_last {m m' : List (List Int)} {j : Nat} (h : TopAt m j m.length) (hp : m'.Perm m) (ha : AscH m') : m.getD j [] = m'.getD (m'.length - 1) [] := by
  have hl := hp.length_eq
  have hj := h.1
  have m1 : m.getD j [] ∈ m' := hp.mem_iff.2 (by simp [hj])
  have m2 : m'.getD (m'.length - 1) [] ∈ m := hp.mem_iff.1 (by simp [show m'.length - 1 < m'.length by omega])
  obtain ⟨a, ha1, ha2⟩ := List.mem_iff_getElem.1 m1
  obtain ⟨b, hb1, hb2⟩ := List.mem_iff_getElem.1 m2
  have h1 := h.2 b hb1
  have eb : m.getD b [] = m'.getD (m'.length - 1) [] := by rw [← hb2]; simp [hb1]
  rw [eb] at h1
  have ea : m'.getD a [] = m.getD j [] := by rw [← ha2]; simp [ha1]
  by_cases e : a = m'.length - 1
  · rw [← ea, e]
  · have h2 := ha a (m'.length - 1) (by omega) (by omega)
    rw [ea] at h2
    generalize m.getD j [] = x at *
    generalize m'.getD (m'.length - 1) [] = y at *
    have h3 := fun q => h1 ((hcf_lt x y).2 q)
    have h4 := fun q => h2 ((hcf_lt y x).2 q)
    refine cmpL_eq x y (fun q => ?_) (fun q => ?_)
    · by_cases hs : x.sum < y.sum
      · exact h3 (.inl hs)
      · by_cases hs2 : y.sum < x.sum
        · exact h4 (.inl hs2)
        · exact h3 (.inr ⟨by omega, q⟩)
    · by_cases hs : x.sum < y.sum
      · exact h3 (.inl hs)
      · by_cases hs2 : y.sum < x.sum
        · exact h4 (.inl hs2)
        · exact h4 (.inr ⟨by omega, q⟩)

set_option maxRecDepth 100000 in
set_option maxHeartbeats 800000 in
theorem highest_any (n : Nat) (c : List (List Int)) (cv : Value) (w : World) (hg : Gdc n c) (hm : Mat w.heap.size 26 3 w cv c) :
    Calls Tryz.prog 13 #[cv] w fun e w' => ((1 < (paL c).length → e = .returned (.tuple #[.slice none 0 0, .int .i64 3])) ∧ ((paL c).length = 1 → ∃ ro rc r, e = .returned (.tuple #[.slice ro n rc, .int .i64 0]) ∧ Sl 0 3 w' (.slice ro n rc) (ints r) ∧ r.length = n ∧ ∀ m', m'.Perm (abL c) → AscH m' → r = m'.getD (m'.length - 1) [])) ∧ Below w.heap.size w w' := by
  have HCK : Hid (Calls Tryz.prog 27 #[cv] w fun e w' => ∃ u, e = .returned (.tuple #[u, .int .i64 0]) ∧ Fr w.heap.size 26 3 w' u (abL c) ∧ Below w.heap.size w w') := checkedR_any n c cv w hg hm
  have HPA : Hid (∀ X, Below w.heap.size w X → Calls Tryz.prog 30 #[cv] X fun e w' => ∃ u, e = .returned u ∧ FrN X.heap.size w' u (natsM (paL c)) ∧ Below X.heap.size X w') := fun X hX => parts_any n c cv X hg.sq ((hm.below hX (Nat.le_refl _)).any (Nat.le_refl _))
  have HSM : Hid (∀ b ∈ abL c, SmX b ∧ b.length = n) := fun b hb => ⟨gdc_smx hg hb, (hg.bd b hb).1⟩
  have HL0 : Hid (0 < (abL c).length) := ab_some hg
  have HL24 : Hid ((abL c).length ≤ 24) := hg.many
  have HP1 : Hid (1 ≤ (paL c).length) := by
    have h0 : 0 < c.length := by rw [hg.sq.len]; exact hg.n1
    have : ∀ i, 1 ≤ i → 1 ≤ (paI c i).length := by
      intro i
      induction i with
      | zero => intro h; omega
      | succ i ih =>
        intro _
        unfold paI
        split
        · rename_i h
          cases i with
          | zero => simp [paI] at h
          | succ i => exact ih (by omega)
        · simp
    exact this _ (by omega)
  obtain ⟨ao, cap, hvv, hlc, hcm⟩ := mat_open hm
  subst hvv
  have HCL : Hid (c.length = n) := hg.sq.len
  rw [HCL.out]
  rw [HCL.out] at HCK HPA
  clear hm hlc hg
  go_enter Tryz.func13, Tryz.ntmps13
  go_wp2_with fail
  refine HCK.out.mono ?_
  rintro e w1 ⟨u, rfl, hf, hb1⟩
  have HB1 : Hid (Below w.heap.size w w1) := hb1
  have HF1 : Hid (Fr w.heap.size 26 3 w1 u (abL c)) := hf
  obtain ⟨uo, uc, hu⟩ : ∃ uo uc, u = .slice uo (abL c).length uc := by
    obtain ⟨vs, g1, g2, g3⟩ := hf
    exact owns_form g2
  subst hu
  have HP2 := HPA.out w1 HB1.out
  clear hf hb1 HCK HPA
  go_wp2_with fail
  refine HP2.mono ?_
  rintro e w2 ⟨v, rfl, hfn, hb2⟩
  obtain ⟨vo, vc, hv⟩ : ∃ vo vc, v = .slice vo (paL c).length vc := by
    obtain ⟨vs, g1, g2, g3⟩ := hfn
    obtain ⟨a, b, h⟩ := owns_form g2
    exact ⟨a, b, by rw [h, natsM_len]⟩
  subst hv
  have HB2 : Hid (Below w.heap.size w w2) := HB1.out.trans (hb2.mono HB1.out.size)
  have HM2 : Hid (Mat 0 26 3 w2 (.slice uo (abL c).length uc) (abL c)) := fr_matRp (HF1.out.below hb2 (Nat.le_refl _))
  have hp1 := HP1.out
  clear hfn hb2 HP2
  by_cases h1 : 1 < (paL c).length
  · have h1I : (1 : Int) < ((paL c).length : Int) := by omega
    go_wp2
    go_ret2
    exact ⟨⟨fun _ => rfl, fun h => by omega⟩, HB2.out⟩
  · have h1I : ¬ (1 : Int) < ((paL c).length : Int) := by omega
    have HMX : Hid (Calls Tryz.prog 35 #[.slice uo (abL c).length uc, .func (.func 29) #[] #[]] w2 fun e w' => (∃ j ro rc, e = .returned (.slice ro n rc) ∧ TopAt (abL c) j (abL c).length ∧ Sl 0 3 w' (.slice ro n rc) (ints ((abL c).getD j []))) ∧ Below w2.heap.size w2 w') := maxH_any n (abL c) _ w2 HM2.out HL0.out (by have := HL24.out; omega) HSM.out
    have HTL : Hid (∀ j, TopAt (abL c) j (abL c).length → ((abL c).getD j []).length = n ∧ ∀ m', m'.Perm (abL c) → AscH m' → (abL c).getD j [] = m'.getD (m'.length - 1) []) := fun j hj => ⟨(HSM.out _ (by have := hj.1; simp [this])).2, fun m' h2 h3 => top_last hj h2 h3⟩
    generalize (abL c).length = al at *
    go_wp2_with fail
    refine HMX.out.mono ?_
    rintro e w3 ⟨⟨j, ro, rc, rfl, htop, hsl⟩, hb3⟩
    have HS3 : Hid (Sl 0 3 w3 (.slice ro n rc) (ints ((abL c).getD j []))) := hsl
    have HT3 : Hid (((abL c).getD j []).length = n ∧ ∀ m', m'.Perm (abL c) → AscH m' → (abL c).getD j [] = m'.getD (m'.length - 1) []) := HTL.out j htop
    have HB3 : Hid (Below w.heap.size w w3) := HB2.out.trans (hb3.mono HB2.out.size)
    clear hsl htop hb3 HMX
    go_wp2
    go_ret2
    exact ⟨⟨fun h => absurd h h1, fun _ => ⟨ro, rc, _, rfl, HS3.out, HT3.out.1, HT3.out.2⟩⟩, HB3.out⟩

end Go.Proofs.YtilblfoapjnmaaaGreatDoor

/- What the laws don't look at, and how they hold two numbers against each other. -/
namespace Go.Proofs.YtilblfoapjnmaaaGreatDoor
open Go.RowKit
attribute [local go_sem ↓] Go.wp_at_zero Go.wp_at_succ

set_option maxRecDepth 100000 in
set_option maxHeartbeats 800000 in
theorem heavy_any (B : Nat) (m : List (List Int)) (v : Value) (w : World) (hv : Mat B 26 3 w v m) :
    Calls Tryz.prog 5 #[v] w fun e w' => ∃ b, e = .returned (.bool b) ∧ (b = false → m.length ≤ 300) ∧ w' = w := by
  obtain ⟨ao, cap, hvv, hlc, hcm⟩ := mat_open hv
  subst hvv
  have HV : Hid (Mat B 26 3 w (.slice ao m.length cap) m) := hv
  clear hv
  by_cases h1 : 300 < m.length
  · have b1 : decide ((300 : Int) < (m.length : Int)) = true := decide_eq_true (by omega)
    go_enter Tryz.func5, Tryz.ntmps5
    go_wp2
    go_ret
    exact ⟨true, rfl, (fun h => absurd h (by decide)), rfl⟩
  · have b1 : decide ((300 : Int) < (m.length : Int)) = false := decide_eq_false (by omega)
    have HL : Hid (m.length ≤ 300) := by show _ ≤ _; omega
    go_enter Tryz.func5, Tryz.ntmps5
    go_wp2
    go_loopw [3, 4] (fun n i wr => ∃ t s : Nat, t ≤ m.length ∧ s ≤ 300 * t ∧ n = .int .i64 s ∧ i = .int .i64 t ∧ wr = w) (fun _ i _ => m.length - (intOf i).toNat)
    case atStart => exact ⟨0, 0, Nat.zero_le _, Nat.le_refl _, rfl, rfl, rfl⟩
    case round =>
      obtain ⟨t, s, ht, hs, rfl, rfl, rfl⟩ := hrel
      by_cases htn : t < m.length
      · obtain ⟨b, o, cp, u, hs, _, hcc, hu⟩ := mat_cell HV.out htn
        simp only [Value.slice.injEq, true_and] at hs
        obtain ⟨rfl, rfl⟩ := hs
        obtain ⟨uo, uc, hue, hul, hum⟩ := sl_open hu
        subst hue
        generalize (m.getD t []).length = l at *
        clear hu
        by_cases hl : 300 < l
        · have b2 : decide ((300 : Int) < (l : Int)) = true := decide_eq_true (by omega)
          go_wp2
          go_ret
          exact ⟨true, rfl, (fun h => absurd h (by decide)), rfl⟩
        · have b2 : decide ((300 : Int) < (l : Int)) = false := decide_eq_false (by omega)
          go_wp2
          go_roundw
          case rel => exact ⟨t + 1, s + l, by omega, by omega, by go_num, by go_num, trivial⟩
          case measure => simp [intOf]; omega
      · go_wp2
        go_ret
        exact ⟨_, rfl, fun _ => HL.out, rfl⟩

end Go.Proofs.YtilblfoapjnmaaaGreatDoor

/- The law's own looks: two lists that are the same. -/
namespace Go.Proofs.YtilblfoapjnmaaaGreatDoor
open Go.RowKit
attribute [local go_sem ↓] Go.wp_at_zero Go.wp_at_succ

set_option maxRecDepth 100000 in
theorem list_same (B : Nat) (x : List Int) (u v : Value) (w : World) (hu : Sl B 3 w u (ints x)) (hv : Sl B 3 w v (ints x)) :
    Calls Tryz.prog 17 #[u, .int .i64 0, v, .int .i64 0] w fun x w' => x = .returned (.bool true) ∧ Below w.heap.size w w' := by
  obtain ⟨uo, uc, rfl, _, _⟩ := sl_open hu
  obtain ⟨vo, vc, rfl, _, _⟩ := sl_open hv
  have HU : Hid (Sl B 3 w (.slice uo x.length uc) (ints x)) := hu
  have HV : Hid (Sl B 3 w (.slice vo x.length vc) (ints x)) := hv
  clear hu hv
  go_enter Tryz.func17, Tryz.ntmps17
  go_wp2_with fail
  refine (same_any B x x _ _ w HU.out HV.out).mono ?_
  rintro e w' ⟨rfl, n, rfl⟩
  have hxx : (x == x) = true := by simp
  rw [hxx]
  go_wp2
  go_ret
  exact ⟨rfl, ⟨rfl, rfl, rfl, Nat.le_refl _, fun _ _ => rfl⟩⟩

end Go.Proofs.YtilblfoapjnmaaaGreatDoor
