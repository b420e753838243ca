/- The document's least choice. -/
import Derived.Test.YthocinibieefkaaTw9
import Derived.Test.YthocinibieefkaaTw5
import Derived.Lib.SliceRun
import Derived.Deep.QuietTactic
namespace Go.Proofs.Ythocinibieefkaa
open Go.RowKit
attribute [local go_sem ↓] Go.wp_at_zero Go.wp_at_succ

theorem leastP_len {M : List (List Int)} {n : Nat} {l : List (List Int)} (h : ∀ o ∈ l, o.length = n) : (leastP M n l).2.length = n ∨ (leastP M n l).2 = [] := by
  suffices H : ∀ (l : List (List Int)) (s : Int × List Int), (∀ o ∈ l, o.length = n) → (s.2.length = n ∨ s.2 = []) → ((l.foldl (lstp M n) s).2.length = n ∨ (l.foldl (lstp M n) s).2 = []) from H l (0, []) h (.inr rfl)
  intro l
  induction l with
  | nil => intro s _ h; exact h
  | cons o l ih =>
    intro s hl hs
    rw [List.foldl_cons]
    refine ih _ (fun x hx => hl x (by simp [hx])) ?_
    unfold lstp
    split
    · exact .inl (hl o (by simp))
    · exact hs

set_option maxRecDepth 100000 in
set_option maxHeartbeats 1600000 in
theorem leastOf_any (M : List (List Int)) (v : Value) (w : World) (hM : Sqr M) (hv : Mat w.heap.size 26 3 w v M) :
    Calls Try.prog 7 #[v] w fun e w' => ∃ cv, e = .returned (.tuple #[.int .i64 (leastP M M.length (ords M.length M.length [])).1, cv]) ∧ Sl w'.heap.size 3 w' cv (ints (leastP M M.length (ords M.length M.length [])).2) ∧ Below w.heap.size w w' := by
  have qL : ∀ (w : World) (a : Option Addr) (n c n' c' : Nat), (binOp .eql 26 (.slice a n c) (.slice none n' c')).run Try.prog w = .ok (.bool a.isNone) w := fun w a n c n' c' => Lib.run_eql_slice_nil w _ _ a n c n' c' Try.underlying26
  obtain ⟨po, pc, hvv, hlc, hcm⟩ := mat_open hv
  subst hvv
  have HV : Hid (Mat w.heap.size 26 3 w (.slice po M.length pc) M) := hv
  have HM : Hid (Sqr M) := hM
  have h6 := hM.n6
  have hn1 := hM.n1
  have HCO : Hid (Calls Try.prog 17 #[.int .i64 M.length, .slice none 0 0] w fun e w' => ∃ x, e = .returned x ∧ Fr w.heap.size 26 3 w' x (ords M.length M.length []) ∧ Below w.heap.size w w') :=
    ordD_any M.length h6 M.length h6 [] _ w ⟨by simp, by simp⟩ (by simp) (Sl.nil _ _ _)
  have HOI : Hid (∀ o ∈ ords M.length M.length [], IsOrd M.length o ∧ o.length = M.length) := fun o ho => by
    have := ords_is M.length [] o ⟨by simp, by simp⟩ ho
    exact ⟨this.1, by simpa using this.2⟩
  have HLN : Hid ((ords M.length M.length []).length ≤ 46656) := Nat.le_trans (ords_len h6 _ _) (Nat.le_trans (Nat.pow_le_pow_right (by decide) h6) (by decide))
  clear hv hM
  go_enter Try.func7, Try.ntmps7
  go_wp2_with fail
  refine HCO.out.mono ?_
  rintro e w1 ⟨x, rfl, hfr, hb1⟩
  have HMO : Hid (Mat w1.heap.size 26 3 w1 x (ords M.length M.length [])) := (hfr.rws.mat hb1.size)
  have HB1 : Hid (Below w.heap.size w w1) := hb1
  have HV1 : Hid (Mat w.heap.size 26 3 w1 (.slice po M.length pc) M) := HV.out.below hb1 (Nat.le_refl _)
  obtain ⟨xo, xc, hxv, hxc1, hxc2⟩ := mat_open HMO.out
  subst hxv
  clear hfr hb1 HCO
  generalize hgo : ords M.length M.length [] = os at *
  have HOS : Hid (ords M.length M.length [] = os) := hgo
  clear hgo
  obtain ⟨n, hn⟩ : ∃ n, n = M.length := ⟨_, rfl⟩
  have HNL : Hid (M.length = n) := hn.symm
  rw [← hn] at HOI HV1 h6 hn1 hlc ⊢
  clear hn
  have hos := HLN.out
  go_wp2
  go_loopw [5, 6, 7] (fun bv cv i wr => ∃ k : Nat, k ≤ os.length ∧ i = .int .i64 k ∧ bv = .int .i64 (leastP M n (os.take k)).1 ∧ (∃ d, wr = w1.drewN d) ∧ Sl w1.heap.size 3 w1 cv (ints (leastP M n (os.take k)).2) ∧ ((leastP M n (os.take k)).2 = [] → cv = .slice none 0 0)) (fun _ _ i _ => os.length - (intOf i).toNat)
  case atStart => exact ⟨0, Nat.zero_le _, rfl, rfl, ⟨0, rfl⟩, Sl.nil _ _ _, fun _ => rfl⟩
  case round =>
    obtain ⟨k, hk, rfl, rfl, ⟨d, rfl⟩, hcv, hnil⟩ := hrel
    have HCV : Hid (Sl w1.heap.size 3 w1 u6 (ints (leastP M n (os.take k)).2)) := hcv
    have HNIL : Hid ((leastP M n (os.take k)).2 = [] → u6 = .slice none 0 0) := hnil
    clear hcv hnil
    by_cases hlt : k < os.length
    · obtain ⟨b1, o1, c1, u, hs1, _, hcc1, hu⟩ := mat_cell HMO.out hlt
      simp only [Value.slice.injEq, true_and] at hs1
      obtain ⟨rfl, rfl⟩ := hs1
      have hmem : os.getD k [] ∈ os := by simp [hlt]
      obtain ⟨hio, hil⟩ := HOI.out _ hmem
      have HSN : Hid (leastP M n (os.take (k + 1)) = lstp M n (leastP M n (os.take k)) (os.getD k [])) := by
        show _ = _
        have e : os.take (k + 1) = os.take k ++ [os.getD k []] := by
          have e0 : os.getD k [] = os[k] := by simp [hlt]
          rw [e0, List.take_succ_eq_append_getElem hlt]
        rw [e, leastP_snoc]
      obtain ⟨uo, uc, huv, hul1, hul2⟩ := sl_open hu
      rw [hil] at huv hul1
      subst huv
      have HU : Hid (Sl w1.heap.size 3 w1 (.slice uo n uc) (ints (os.getD k []))) := hu
      have HIO : Hid (IsOrd n (os.getD k [])) := hio
      have HIL : Hid ((os.getD k []).length = n) := hil
      clear hu hio hil hmem
      generalize os.getD k [] = o at *
      have HLC : Hid (lstp M n (leastP M n (os.take k)) o = if (leastP M n (os.take k)).2 = [] ∨ cst M n o < (leastP M n (os.take k)).1 then (cst M n o, o) else leastP M n (os.take k)) := rfl
      go_wp2
      go_loopw [8, 9] (fun s i wr => ∃ j : Nat, j ≤ n ∧ i = .int .i64 j ∧ s = .int .i64 (costF M (fun i => (o.getD i 0).toNat) j) ∧ ∃ d, wr = w1.drewN d) (fun _ i _ => n - (intOf i).toNat)
      case atStart => exact ⟨0, Nat.zero_le _, rfl, rfl, d, rfl⟩
      case round =>
        obtain ⟨j, hj, rfl, rfl, d2, rfl⟩ := hrel
        by_cases hjl : j < n
        · have HMJ : Hid (j < M.length) := by show _ < _; rw [HNL.out]; exact hjl
          obtain ⟨t, ht, htn⟩ := ord_at HIO.out HIL.out hjl
          have hb1 := costF_bd HM.out (fun i => (o.getD i 0).toNat) j
          have hb2 := HM.out.ent (i := j) (j := (o.getD j 0).toNat)
          have HS : Hid (costF M (fun i => (o.getD i 0).toNat) (j + 1) = costF M (fun i => (o.getD i 0).toNat) j + ent M j (o.getD j 0).toNat) := rfl
          have hU := HU.out
          rw [show n = o.length from HIL.out.symm] at hU
          obtain ⟨b2, o2, c2, hs2, _, hcc2⟩ := sl_cell hU (k := j) (by rw [HIL.out]; exact hjl)
          simp only [Value.slice.injEq] at hs2
          obtain ⟨rfl, _, rfl⟩ := hs2
          have hvm := HV1.out
          rw [show n = M.length from HNL.out.symm] at hvm
          obtain ⟨b3, o3, c3, r, hs3, _, hcc3, hr⟩ := mat_cell hvm (k := j) HMJ.out
          simp only [Value.slice.injEq, true_and] at hs3
          obtain ⟨rfl, rfl⟩ := hs3
          have hrl : (M.getD j []).length = n := by
            have e : M.getD j [] = M[j]'HMJ.out := by simp [HMJ.out]
            rw [e, HM.out.len _ (List.getElem_mem _), HNL.out]
          obtain ⟨b4, o4, c4, hs4, hc4, hcc4⟩ := sl_cell hr (k := t) (by omega)
          subst hs4
          have he : (M.getD j []).getD t 0 = ent M j (o.getD j 0).toNat := by rw [ht]; rfl
          rw [he] at hcc4
          rw [ht] at hcc2
          rw [hrl] at hcc3 hc4
          clear hr hU hvm hrl he
          generalize ent M j (o.getD j 0).toNat = E at *
          generalize hC : costF M (fun i => (o.getD i 0).toNat) j = C at *
          clear hC ht
          have hb3 : -60000 ≤ C ∧ C ≤ 60000 := by omega
          clear hb1
          go_wp2
          go_region
          all_goals
            go_wp2
            exact ⟨⟨j + 1, by omega, by go_num, by rw [HS.out], _, rfl⟩, by simp [intOf]; omega⟩
        · have hje : j = n := by omega
          subst hje
          have HCS : Hid (costF M (fun i => (o.getD i 0).toNat) j = cst M j o) := rfl
          rw [HCS.out]
          by_cases hc0 : (leastP M j (os.take k)).2 = []
          · have hu6 := HNIL.out hc0
            subst hu6
            have HF : Hid (leastP M j (os.take (k + 1)) = (cst M j o, o)) := by
              show _ = _
              rw [HSN.out, HLC.out, if_pos (.inl hc0)]
            have HNN : Hid (o ≠ []) := fun e => by have := HIL.out; rw [e] at this; simp at this; omega
            clear HNIL hc0 HLC HSN
            generalize (leastP M j (os.take k)).1 = Z at *
            generalize cst M j o = C at *
            go_wp2
            refine ⟨⟨k + 1, by omega, by go_num, by rw [HF.out], ⟨_, rfl⟩, by rw [HF.out]; exact HU.out, fun h => ?_⟩, by simp [intOf]; omega⟩
            rw [HF.out] at h
            exact absurd h HNN.out
          · obtain ⟨co, cl, cc, hcv⟩ : ∃ co cl cc, u6 = .slice (some co) cl cc := by
              obtain ⟨ao, cap, hv, _, _, h3, _⟩ := HCV.out
              have hp : 0 < (leastP M j (os.take k)).2.length := List.length_pos_iff.2 hc0
              obtain ⟨b, o', ha, _⟩ := h3 0 (by simpa using hp)
              exact ⟨_, _, _, by rw [hv, ha]⟩
            subst hcv
            have HNN : Hid (o ≠ []) := fun e => by have := HIL.out; rw [e] at this; simp at this; omega
            by_cases hl : cst M j o < (leastP M j (os.take k)).1
            · have hlb : decide (cst M j o < (leastP M j (os.take k)).1) = true := decide_eq_true hl
              have HF : Hid (leastP M j (os.take (k + 1)) = (cst M j o, o)) := by
                show _ = _
                rw [HSN.out, HLC.out, if_pos (.inr hl)]
              clear HNIL hc0 HLC HSN hl
              generalize (leastP M j (os.take k)).1 = Z at *
              generalize cst M j o = C at *
              go_wp2
              refine ⟨⟨k + 1, by omega, by go_num, by rw [HF.out], ⟨_, rfl⟩, by rw [HF.out]; exact HU.out, fun h => ?_⟩, by simp [intOf]; omega⟩
              rw [HF.out] at h
              exact absurd h HNN.out
            · have hlb : decide (cst M j o < (leastP M j (os.take k)).1) = false := decide_eq_false hl
              have HF : Hid (leastP M j (os.take (k + 1)) = leastP M j (os.take k)) := by
                show _ = _
                rw [HSN.out, HLC.out, if_neg (fun h => h.elim hc0 hl)]
              have HC0 : Hid ((leastP M j (os.take k)).2 ≠ []) := hc0
              clear HNIL hc0 HLC HSN hl
              obtain ⟨Z, hZ⟩ : ∃ Z, Z = (leastP M j (os.take k)).1 := ⟨_, rfl⟩
              have HZ : Hid (Z = (leastP M j (os.take k)).1) := hZ
              rw [← hZ] at hlb ⊢
              clear hZ
              generalize cst M j o = C at *
              go_wp2
              refine ⟨⟨k + 1, by omega, by go_num, by rw [HF.out, ← HZ.out], ⟨_, rfl⟩, by rw [HF.out]; exact HCV.out, fun h => ?_⟩, by simp [intOf]; omega⟩
              rw [HF.out] at h
              exact absurd h HC0.out
    · have hke : k = os.length := by omega
      have HTK : Hid (os.take k = os) := List.take_of_length_le (by omega)
      rw [HTK.out] at HCV ⊢
      clear HNIL hke
      obtain ⟨co, cc, hcv, _, _⟩ := sl_open HCV.out
      subst hcv
      have HB2 : Hid (Below w.heap.size w (w1.drewN d)) := HB1.out.trans ⟨rfl, rfl, rfl, Nat.le_refl _, fun _ _ => rfl⟩
      obtain ⟨Z, hZ⟩ : ∃ Z, Z = (leastP M n os).1 := ⟨_, rfl⟩
      obtain ⟨K, hK⟩ : ∃ K, K = (leastP M n os).2.length := ⟨_, rfl⟩
      have HZ : Hid (Z = (leastP M n os).1) := hZ
      rw [← hZ, ← hK]
      rw [← hK] at HCV
      clear hZ hK
      have hkf : decide ((k : Int) < (os.length : Int)) = false := by simp; omega
      go_wp2
      exact bodyPost_ret (v := .tuple #[.int .i64 Z, .slice co K cc]) (by simp [results, Try.results7, go_sem]) rfl ⟨_, by rw [HOS.out, HNL.out, HZ.out], by rw [HOS.out, HNL.out]; exact HCV.out, HB2.out⟩

end Go.Proofs.Ythocinibieefkaa
