/- tropic.Prices. -/
import Derived.Test.YthocinibieefkaaTw6
import Derived.Test.YthocinibieefkaaTw7
import Derived.Deep.RegionHeld3
import Derived.Deep.Onto
namespace Go.Proofs.Ythocinibieefkaa
open Go.RowKit
attribute [local go_sem ↓] Go.wp_at_zero Go.wp_at_succ

/-- The rows' prices. -/
def prU (M : List (List Int)) (c V : List Int) : List Int := (List.range M.length).map fun i => ent M i (c.getD i 0).toNat - V.getD (c.getD i 0).toNat 0

theorem prU_len (M : List (List Int)) (c V : List Int) : (prU M c V).length = M.length := by simp [prU]

theorem prU_snoc {M : List (List Int)} {c V : List Int} {j : Nat} (h : j < M.length) : (prU M c V).take (j + 1) = (prU M c V).take j ++ [ent M j (c.getD j 0).toNat - V.getD (c.getD j 0).toNat 0] := by
  rw [List.take_succ_eq_append_getElem (by rw [prU_len]; exact h)]
  congr 1
  simp [prU]

/-- What Prices answers. -/
def prC (M : List (List Int)) : List Int := if sqE M = 0 then rnds M (fun i => ((leastQ M).2.getD i 0).toNat) M.length M.length else []
def prR (M : List (List Int)) : List Int := if sqE M = 0 then prU M (leastQ M).2 (rnds M (fun i => ((leastQ M).2.getD i 0).toNat) M.length M.length) else []

theorem leastC_ok {M : List (List Int)} (h : sqE M = 0) : LeastC M (leastQ M).2 ∧ (leastQ M).1 = cst M M.length (leastQ M).2 := by
  have hs := sq_ok h
  have e : leastQ M = leastP M M.length (ords M.length M.length []) := if_pos h
  have hid : Ins M.length (fun i => i) := ⟨fun i hi => hi, fun i j _ _ e => e⟩
  have hall : ∀ g, Ins M.length g → (List.range M.length).map (fun i => (g i : Int)) ∈ ords M.length M.length [] := fun g hg => by
    have := ords_all (n := M.length) M.length [] ((List.range M.length).map (fun i => (g i : Int))) (by simp) (by simpa using ins_ord hg)
    simpa using this
  have hne : ∀ x ∈ ords M.length M.length [], x ≠ [] := fun x hx e => by
    have := (ords_is M.length [] x ⟨by simp, by simp⟩ hx).2
    rw [e] at this
    have := hs.n1
    simp at *
    omega
  have hm := hall _ hid
  generalize hl : ords M.length M.length [] = l at *
  cases l with
  | nil => simp at hm
  | cons o l =>
    obtain ⟨h1, h2, h3⟩ := least_fact M M.length o l hne
    rw [← e] at h1 h2 h3
    rw [← hl] at h2
    obtain ⟨h4, h5⟩ := ords_is M.length [] _ ⟨by simp, by simp⟩ h2
    refine ⟨⟨hs, h4, by simpa using h5, fun g hg => ?_⟩, h1⟩
    have h6 := h3 _ (hall g hg)
    rw [h1] at h6
    refine Int.le_trans h6 (Int.le_of_eq ?_)
    refine costF_congr (fun i hi => ?_)
    simp [hi]

set_option maxRecDepth 100000 in
set_option maxHeartbeats 3200000 in
theorem prices_any (M : List (List Int)) (v : Value) (w : World) (hv : Mat w.heap.size 26 3 w v M) :
    Calls Try.prog 9 #[v] w fun e w' => ∃ u cv, e = .returned (.tuple #[u, cv, .int .i64 (sqE M)]) ∧ w'.ownsRow w.heap.size 3 1 u (prR M).length (ints (prR M)) ∧ w'.ownsRow w.heap.size 3 1 cv (prC M).length (ints (prC M)) ∧ Below w.heap.size w w' := by
  obtain ⟨i3, hi3, hz30, hz31, hz32⟩ := info_parts Try.info3
  obtain ⟨po, pc, hvv, hlc, hcm⟩ := mat_open hv
  subst hvv
  have HV : Hid (Mat w.heap.size 26 3 w (.slice po M.length pc) M) := hv
  have HLE : Hid (Calls Try.prog 8 #[.slice po M.length pc] w fun e w' => ∃ cv, e = .returned (.tuple #[.int .i64 (leastQ M).1, cv, .int .i64 (sqE M)]) ∧ w'.ownsRow w.heap.size 3 1 cv (leastQ M).2.length (ints (leastQ M).2) ∧ Below w.heap.size w w') := least_any M _ w hv
  clear hv
  go_enter Try.func9, Try.ntmps9
  go_wp2_with fail
  refine HLE.out.mono ?_
  rintro e w1 ⟨cv, rfl, hc1, hb1⟩
  obtain ⟨co, cc, hcv⟩ := owns_form hc1
  subst hcv
  have HC1 : Hid (w1.ownsRow w.heap.size 3 1 (.slice co (leastQ M).2.length cc) (leastQ M).2.length (ints (leastQ M).2)) := hc1
  have HB1 : Hid (Below w.heap.size w w1) := hb1
  clear hc1 hb1 HLE
  by_cases hq : sqE M = 0
  · obtain ⟨hlc2, _⟩ := leastC_ok hq
    have HPR : Hid (prR M = prU M (leastQ M).2 (rnds M (fun i => ((leastQ M).2.getD i 0).toNat) M.length M.length)) := if_pos hq
    have HPC : Hid (prC M = rnds M (fun i => ((leastQ M).2.getD i 0).toNat) M.length M.length) := if_pos hq
    have HQ : Hid (sqE M = 0) := hq
    have HP : Hid (Prc M (leastQ M).2 (rnds M (fun i => ((leastQ M).2.getD i 0).toNat) M.length M.length)) := prc_rnds hlc2 _
    have HLC : Hid (LeastC M (leastQ M).2) := hlc2
    have HCP : Hid (Calls Try.prog 20 #[.slice po M.length pc, .slice co (leastQ M).2.length cc] w1 fun e w' => ∃ u, e = .returned u ∧ w'.ownsRow w1.heap.size 3 1 u M.length (ints (rnds M (fun i => ((leastQ M).2.getD i 0).toNat) M.length M.length)) ∧ Below w1.heap.size w1 w') :=
      columnPrices_any M (leastQ M).2 _ _ w1 hlc2 ((HV.out.below HB1.out (Nat.le_refl _)).more HB1.out.size) (Sl.own HC1.out)
    have HVL : Hid ((rnds M (fun i => ((leastQ M).2.getD i 0).toNat) M.length M.length).length = M.length) := by
      obtain ⟨L, _, _, h3⟩ := prc_rnds hlc2 M.length
      exact h3.1
    have h6 := hlc2.sq.n6
    have hcl := hlc2.len
    rw [hcl] at HCP HC1 ⊢
    rw [hq]
    clear hq hlc2 hcl
    generalize (leastQ M).2 = c at *
    generalize rnds M (fun i => (c.getD i 0).toNat) M.length M.length = V at *
    generalize (leastQ M).1 = bst at *
    go_wp2_with fail
    refine HCP.out.mono ?_
    rintro e w2 ⟨u, rfl, hu, hb2⟩
    obtain ⟨uo, uc, huv⟩ := owns_form hu
    subst huv
    obtain ⟨N, hN⟩ : ∃ N, N = w2.heap.size := ⟨_, rfl⟩
    have HN : Hid (N = w2.heap.size) := hN
    have HBW : Hid (Below w.heap.size w w2) := HB1.out.trans (hb2.mono HB1.out.size)
    have HU : Hid (w2.ownsRow w.heap.size 3 1 (.slice uo M.length uc) M.length (ints V)) := hu.mono HB1.out.size
    have HC2 : Hid (w2.ownsRow w.heap.size 3 1 (.slice co M.length cc) M.length (ints c)) := owns_below HC1.out hb2 (Nat.le_refl _)
    have hNs : w.heap.size ≤ N := by rw [hN]; exact HBW.out.size
    clear hu hb2 HCP HC1 HB1 hN
    obtain ⟨n, hn⟩ : ∃ n, n = M.length := ⟨_, rfl⟩
    have HNL : Hid (M.length = n) := hn.symm
    have HOC : Hid (∀ i, i < n → ∃ t : Nat, c.getD i 0 = t ∧ t < n) := fun i hi => by
      obtain ⟨t, h1, h2⟩ := ord_at HLC.out.ord HLC.out.len (k := i) (by omega)
      exact ⟨t, h1, by omega⟩
    rw [← hn] at HU HC2 h6 HV hlc HVL ⊢
    clear hn
    go_wp2
    go_loopw [2, 23] (fun x i wr => ∃ j : Nat, j ≤ n ∧ i = .int .i64 j ∧ wr.ownsRow N 3 1 x j (ints ((prU M c V).take j)) ∧ Below N w2 wr) (fun _ i _ => n - (intOf i).toNat)
    case atStart => exact ⟨0, Nat.zero_le _, rfl, World.ownsRow_nil _ _ _ _, Below.refl _ _⟩
    case round =>
      obtain ⟨j, hj, rfl, hown, hbel⟩ := hrel
      have HO : Hid (wr.ownsRow N 3 1 u2 j (ints ((prU M c V).take j))) := hown
      have HBq : Hid (Below N w2 wr) := hbel
      have hszq : N ≤ wr.heap.size := by have := hbel.size; rw [HN.out]; exact this
      clear hown hbel
      by_cases hjl : j < n
      · obtain ⟨t, ht, htn⟩ := HOC.out j hjl
        have HMJ : Hid (j < M.length) := by show _ < _; rw [HNL.out]; exact hjl
        have hc2 := Sl.own (B := 0) HC2.out
        rw [show n = c.length by rw [HLC.out.len, HNL.out]] at hc2
        obtain ⟨b1, o1, c1, hs1, _, hcc1a⟩ := sl_cell hc2 (k := j) (by rw [HLC.out.len]; exact HMJ.out)
        simp only [Value.slice.injEq] at hs1
        obtain ⟨rfl, _, rfl⟩ := hs1
        rw [ht] at hcc1a
        have hvm := HV.out.below HBW.out (Nat.le_refl _)
        rw [show n = M.length from HNL.out.symm] at hvm
        obtain ⟨b2, o2, c2, u, hs2, _, hcc2a, hu⟩ := mat_cell hvm (k := j) HMJ.out
        simp only [Value.slice.injEq, true_and] at hs2
        obtain ⟨rfl, rfl⟩ := hs2
        have hrl : (M.getD j []).length = n := by
          have e : M.getD j [] = M[j]'HMJ.out := by simp [HMJ.out]
          rw [e, HLC.out.sq.len _ (List.getElem_mem _), HNL.out]
        obtain ⟨b3, o3, c3, hs3, hc3, hcc3a⟩ := sl_cell hu (k := t) (by omega)
        subst hs3
        have huu := Sl.own (B := 0) HU.out
        rw [show n = V.length from HVL.out.symm] at huu
        obtain ⟨b4, o4, c4, hs4, _, hcc4a⟩ := sl_cell huu (k := t) (by rw [HVL.out]; exact htn)
        simp only [Value.slice.injEq] at hs4
        obtain ⟨rfl, _, rfl⟩ := hs4
        rw [hrl] at hcc2a hc3
        have f3 : (M.getD j []).getD t 0 = ent M j t := rfl
        rw [f3] at hcc3a
        have e1 := HLC.out.sq.ent (i := j) (j := t)
        have e2 := HP.out.bd HLC.out (j := t) (by rw [HNL.out]; exact htn)
        have HZ : Hid ((prU M c V).take (j + 1) = (prU M c V).take j ++ [ent M j t - V.getD t 0]) := by
          have h := prU_snoc (M := M) (c := c) (V := V) HMJ.out
          rw [ht] at h
          exact h
        have HLL : Hid (((prU M c V).take j).length = j) := by
          show _ = _
          rw [List.length_take, prU_len, HNL.out]; omega
        generalize ent M j t = E at *
        generalize V.getD t 0 = A at *
        have hcc1 : wr.cell? ⟨b1, o1 + j, none⟩ = some (.int .i64 t) := (HBq.out.cell (by rw [HN.out]; exact lt_of_cell hcc1a)).trans hcc1a
        have hcc2 : wr.cell? ⟨b2, o2 + j, none⟩ = some (.slice (some ⟨b3, o3, none⟩) n c3) := (HBq.out.cell (by rw [HN.out]; exact lt_of_cell hcc2a)).trans hcc2a
        have hcc3 : wr.cell? ⟨b3, o3 + t, none⟩ = some (.int .i64 E) := (HBq.out.cell (by rw [HN.out]; exact lt_of_cell hcc3a)).trans hcc3a
        have hcc4 : wr.cell? ⟨b4, o4 + t, none⟩ = some (.int .i64 A) := (HBq.out.cell (by rw [HN.out]; exact lt_of_cell hcc4a)).trans hcc4a
        have KA : Hid (((b2 < N ∧ w2.cell? ⟨b2, o2 + j, none⟩ = some (.slice (some ⟨b3, o3, none⟩) n c3)) ∧ (b3 < N ∧ w2.cell? ⟨b3, o3 + t, none⟩ = some (.int .i64 E))) ∧ (b4 < N ∧ w2.cell? ⟨b4, o4 + t, none⟩ = some (.int .i64 A))) := by
          rw [HN.out]; exact ⟨⟨⟨lt_of_cell hcc2a, hcc2a⟩, ⟨lt_of_cell hcc3a, hcc3a⟩⟩, ⟨lt_of_cell hcc4a, hcc4a⟩⟩
        clear hcc1a hcc2a hcc3a hcc4a hu huu hvm hc2 hrl ht f3
        have hjI : (j : Int) < (n : Int) := by omega
        have hjI0 : (0 : Int) ≤ (j : Int) := by omega
        have htI : (t : Int) < (n : Int) := by omega
        have htI0 : (0 : Int) ≤ (t : Int) := by omega
        obtain ⟨hE1, hE2⟩ := e1
        obtain ⟨hA1, hA2⟩ := e2
        have hw2 : IntKind.i64.wrap (E - A) = E - A := by rw [IntWalk.i64_left]; exact IntWalk.wrap64_in _ ⟨by omega, by omega⟩
        go_wp2
        go_region_held3 (fun w' => w'.cell? ⟨b2, o2 + j, none⟩ = some (.slice (some ⟨b3, o3, none⟩) n c3) ∧ w'.cell? ⟨b3, o3 + t, none⟩ = some (.int .i64 E) ∧ w'.cell? ⟨b4, o4 + t, none⟩ = some (.int .i64 A)) (first | exact KS.out | go_keep)
          ((refine step_append_own (by rfl) _ _ 26 (by rfl) N 3 i3 (.int .i64 0) 1 8 Try.underlying26 hi3 hz30 hz31 hz32 rfl (by decide) _ _ _ (by rfl) (HO.out.drew.alloc _) ⟨wr.heap.size, 0, none⟩ 1 1 [.int .i64 (E - A)] (by rfl) rfl (one_new _ _ _) (one_int _) (by unfold maxLen; omega) (by omega) (by simp; omega) ?_; intro v' w3 ho hg; have RR := push3 HBq.out hszq HLL.out HO.out ho hg (hz := HZ.out); have KS := keep3 (a1 := ⟨b2, o2 + j, none⟩) (a2 := ⟨b3, o3 + t, none⟩) (a3 := ⟨b4, o4 + t, none⟩) RR.2 KA.out))
        have R1 : Hid (w3.ownsRow N 3 1 v' (j + 1) (ints ((prU M c V).take (j + 1)))) := RR.1
        have R2 : Hid (Below N w2 w3) := RR.2
        clear RR ho hg KS
        go_wp2
        go_roundw
        case rel => exact ⟨j + 1, by omega, by go_num, R1.out, R2.out⟩
        case measure => simp [intOf]; omega
      · have hje : j = n := by omega
        subst hje
        have HX : Hid (wr.ownsRow w.heap.size 3 1 u2 (prR M).length (ints (prR M))) := by
          have h := HO.out
          rw [List.take_of_length_le (by rw [prU_len, HNL.out]; exact Nat.le_refl _)] at h
          rw [HPR.out, prU_len, HNL.out]
          exact h.mono hNs
        have HY : Hid (wr.ownsRow w.heap.size 3 1 (.slice uo j uc) (prC M).length (ints (prC M))) := by
          rw [HPC.out, HVL.out]
          exact owns_below HU.out HBq.out (by rw [HN.out]; exact Nat.le_refl _)
        have HBB : Hid (Below w.heap.size w wr) := HBW.out.trans (HBq.out.mono hNs)
        clear HO
        go_wp2
        exact bodyPost_ret (v := .tuple #[u2, .slice uo j uc, .int .i64 0]) (by simp [results, Try.results9, go_sem]) rfl ⟨_, _, by rw [HQ.out], HX.out, HY.out, HBB.out⟩
  · have HPR : Hid (prR M = []) := if_neg hq
    have HPC : Hid (prC M = []) := if_neg hq
    have hq' : (sqE M != 0) = true := by simpa using hq
    clear hq
    go_wp2
    exact bodyPost_ret (v := .tuple #[.slice none 0 0, .slice none 0 0, .int .i64 (sqE M)]) (by simp [results, Try.results9, go_sem]) rfl ⟨_, _, rfl, by rw [HPR.out]; exact World.ownsRow_nil _ _ _ _, by rw [HPC.out]; exact World.ownsRow_nil _ _ _ _, HB1.out⟩

end Go.Proofs.Ythocinibieefkaa
