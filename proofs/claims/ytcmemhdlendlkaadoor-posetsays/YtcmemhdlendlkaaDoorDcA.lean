import Derived.Test.YtcmemhdlendlkaaDoorDc1
import Derived.Test.YtcmemhdlendlkaaDoorTkA
import Derived.Test.YtcmemhdlendlkaaDoorMa0
import Derived.Test.YtcmemhdlendlkaaDoorWa1
import Derived.Test.YtcmemhdlendlkaaDoorWa2
/- facetref.MapsOf. -/
namespace Go.Proofs.YtcmemhdlendlkaaDoor
open Go.RowKit
attribute [local go_sem ↓] Go.wp_at_zero Go.wp_at_succ

/-- 1 or 0. -/
def oneI (b : Bool) : Int := if b then 1 else 0

theorem mem8_in {x n : Nat} (hx : x < 2 ^ n) {k : Nat} (hk : k < (mem8 x).length) : ∃ i : Nat, (mem8 x).getD k 0 = (i : Int) ∧ i < n := mem8_at hx hk

def rowB (f : Nat → Nat) (fit : Int → Int → Bool) (h : List Int) (i : Nat) : Bool := (mem8 (f i)).all fun y => fit (h.getD i 0) (h.getD y.toNat 0)

set_option maxRecDepth 100000 in
set_option maxHeartbeats 3200000 in
theorem mapsOf_leaf (n : Nat) (f : Nat → Nat) (hP : PoO n f) (hn1 : 1 ≤ n) (hn : n ≤ 6) (k : Nat) (v hv : Value) (h : List Int) (W : World) (hu : Sl W.heap.size 3 W v (ints (upL n f))) (hh : Sl W.heap.size 3 W hv (ints h)) (hl : h.length = n) :
    Calls Tryd.prog 22 #[v, .int .i64 (k : Int), hv] W fun e w' => e = .returned (.tuple #[.int .i64 (oneI (fulB n f leF h)), .int .i64 (oneI (fulB n f ltF h))]) ∧ Below W.heap.size W w' := by
  obtain ⟨ub, uo, uc, hvv, hcap, -⟩ := sl_cell hu (k := 0) (by rw [upL_len]; omega)
  rw [upL_len] at hvv hcap
  subst hvv
  obtain ⟨hb, ho, hc, hvv2, hcap2, -⟩ := sl_cell hh (k := 0) (by omega)
  rw [hl] at hvv2 hcap2
  subst hvv2
  have HUC : Hid (∀ i, i < n → W.cell? ⟨ub, uo + i, none⟩ = some (.int .i64 ((f i : Nat) : Int))) := fun i hi => by
    obtain ⟨b2, o2, c2, hs, _, hc⟩ := sl_cell hu (k := i) (by rw [upL_len]; exact hi)
    simp only [Value.slice.injEq, Option.some.injEq, Addr.mk.injEq, and_true] at hs
    obtain ⟨⟨rfl, rfl⟩, -, rfl⟩ := hs
    rw [upL_at f hi] at hc
    exact hc
  have HHC : Hid (∀ i, i < n → W.cell? ⟨hb, ho + i, none⟩ = some (.int .i64 (h.getD i 0))) := fun i hi => by
    obtain ⟨b2, o2, c2, hs, _, hc⟩ := sl_cell hh (k := i) (by omega)
    simp only [Value.slice.injEq, Option.some.injEq, Addr.mk.injEq, and_true] at hs
    obtain ⟨⟨rfl, rfl⟩, -, rfl⟩ := hs
    exact hc
  have HFB : Hid (∀ i, i < n → f i < 256 ∧ ∀ j, j < (mem8 (f i)).length → ∃ y : Nat, (mem8 (f i)).getD j 0 = (y : Int) ∧ y < n) := fun i hi => ⟨Nat.lt_of_lt_of_le (hP.lt i hi) (Nat.le_trans (Nat.pow_le_pow_right (by omega) hn : 2 ^ n ≤ 2 ^ 6) (by decide)), fun j hj => mem8_in (hP.lt i hi) hj⟩
  have HA0 : Hid (∀ fit, fulB n f fit h = (List.range n).all (rowB f fit h)) := fun _ => rfl
  have HA1 : Hid (∀ fit i, (List.range (i + 1)).all (rowB f fit h) = ((List.range i).all (rowB f fit h) && rowB f fit h i)) := fun fit i => by
    rw [List.range_succ, List.all_append]
    simp
  rw [HA0.out, HA0.out]
  clear hu hh hl hP HA0
  go_enter Tryd.func22, Tryd.ntmps22
  go_wp2
  go_loopw [14, 15, 16] (fun av bv iv wr => ∃ i : Nat, i ≤ n ∧ iv = .int .i64 (i : Int) ∧ av = .int .i64 (oneI ((List.range i).all (rowB f leF h))) ∧ bv = .int .i64 (oneI ((List.range i).all (rowB f ltF h))) ∧ Below W.heap.size W wr) (fun _ _ iv _ => n - (intOf iv).toNat)
  case atStart => exact ⟨0, Nat.zero_le _, rfl, rfl, rfl, Below.refl _ _⟩
  case round =>
    obtain ⟨i, hi, rfl, rfl, rfl, hbr⟩ := hrel
    have HBR : Hid (Below W.heap.size W wr) := hbr
    clear hbr
    by_cases hlt : i < n
    · obtain ⟨hf256, hmm⟩ := HFB.out i hlt
      have HME := members8_any (f i) wr hf256
      have HM : Hid (∀ j, j < (mem8 (f i)).length → ∃ y : Nat, (mem8 (f i)).getD j 0 = (y : Int) ∧ y < n) := hmm
      have HE1 := HA1.out leF i
      have HE2 := HA1.out ltF i
      have eR1 : rowB f leF h i = (mem8 (f i)).all fun y => leF (h.getD i 0) (h.getD y.toNat 0) := rfl
      have eR2 : rowB f ltF h i = (mem8 (f i)).all fun y => ltF (h.getD i 0) (h.getD y.toNat 0) := rfl
      rw [eR1] at HE1
      rw [eR2] at HE2
      have hL8 := mem8_len (f i)
      have cu : wr.cell? ⟨ub, uo + i, none⟩ = some (.int .i64 ((f i : Nat) : Int)) := (HBR.out.cell (lt_of_cell (HUC.out i hlt))).trans (HUC.out i hlt)
      generalize mem8 (f i) = L at *
      generalize f i = fi at *
      have HE1b : Hid ((List.range (i + 1)).all (rowB f leF h) = ((List.range i).all (rowB f leF h) && L.all fun y => leF (h.getD i 0) (h.getD y.toNat 0))) := HE1
      have HE2b : Hid ((List.range (i + 1)).all (rowB f ltF h) = ((List.range i).all (rowB f ltF h) && L.all fun y => ltF (h.getD i 0) (h.getD y.toNat 0))) := HE2
      have iI : (i : Int) < (n : Int) := by omega
      have iI0 : (0 : Int) ≤ (i : Int) := by omega
      clear eR1 eR2 HE1 HE2 hmm
      generalize (List.range i).all (rowB f leF h) = A at *
      generalize (List.range i).all (rowB f ltF h) = B at *
      go_wp2_with fail
      refine HME.mono ?_
      rintro e w3 ⟨u, rfl, hu, hb3⟩
      obtain ⟨ul, lc, huv⟩ := owns_form hu
      subst huv
      have HU : Hid (Sl 0 3 w3 (.slice ul L.length lc) (ints L)) := Sl.own hu
      have HB3 : Hid (Below W.heap.size W w3) := HBR.out.trans (hb3.mono HBR.out.size)
      have hsz3 : W.heap.size ≤ w3.heap.size := HB3.out.size
      clear hu hb3 HME HBR cu
      go_wp2
      go_loopw [14, 15, 18] (fun av bv jv wq => ∃ j : Nat, j ≤ L.length ∧ jv = .int .i64 (j : Int) ∧ av = .int .i64 (oneI (A && (L.take j).all fun y => leF (h.getD i 0) (h.getD y.toNat 0))) ∧ bv = .int .i64 (oneI (B && (L.take j).all fun y => ltF (h.getD i 0) (h.getD y.toNat 0))) ∧ Below w3.heap.size w3 wq) (fun _ _ jv _ => L.length - (intOf jv).toNat)
      case atStart => exact ⟨0, Nat.zero_le _, rfl, by simp, by simp, Below.refl _ _⟩
      case round =>
        obtain ⟨j, hj, rfl, rfl, rfl, hbq⟩ := hrel
        rename World => wq
        have HBQ : Hid (Below w3.heap.size w3 wq) := hbq
        clear hbq
        by_cases hlj : j < L.length
        · obtain ⟨y, hy, hyn⟩ := HM.out j hlj
          obtain ⟨lb, lo, lc2, hs2, _, hcc⟩ := sl_cell HU.out hlj
          simp only [Value.slice.injEq, true_and] at hs2
          obtain ⟨rfl, rfl⟩ := hs2
          rw [hy] at hcc
          have HTA : Hid ((L.take (j + 1)).all (fun y => leF (h.getD i 0) (h.getD y.toNat 0)) = ((L.take j).all (fun y => leF (h.getD i 0) (h.getD y.toNat 0)) && leF (h.getD i 0) (h.getD y 0))) := by
            show _ = _
            rw [take_snoc_int L j hlj, List.all_append, hy]
            simp
          have HTB : Hid ((L.take (j + 1)).all (fun y => ltF (h.getD i 0) (h.getD y.toNat 0)) = ((L.take j).all (fun y => ltF (h.getD i 0) (h.getD y.toNat 0)) && ltF (h.getD i 0) (h.getD y 0))) := by
            show _ = _
            rw [take_snoc_int L j hlj, List.all_append, hy]
            simp
          have HBW : Below W.heap.size W wq := HB3.out.trans (HBQ.out.mono hsz3)
          have c1 : wq.cell? ⟨hb, ho + i, none⟩ = some (.int .i64 (h.getD i 0)) := (HBW.cell (lt_of_cell (HHC.out i hlt))).trans (HHC.out i hlt)
          have c2 : wq.cell? ⟨lb, lo + j, none⟩ = some (.int .i64 (y : Int)) := (HBQ.out.cell (lt_of_cell hcc)).trans hcc
          have c3 : wq.cell? ⟨hb, ho + y, none⟩ = some (.int .i64 (h.getD y 0)) := (HBW.cell (lt_of_cell (HHC.out y hyn))).trans (HHC.out y hyn)
          have eL : leF (h.getD i 0) (h.getD y 0) = decide (h.getD i 0 ≤ h.getD y 0) := rfl
          have eT : ltF (h.getD i 0) (h.getD y 0) = decide (h.getD i 0 < h.getD y 0) := rfl
          rw [eL] at HTA
          rw [eT] at HTB
          generalize (L.take j).all (fun y => leF (h.getD i 0) (h.getD y.toNat 0)) = A2 at *
          generalize (L.take j).all (fun y => ltF (h.getD i 0) (h.getD y.toNat 0)) = B2 at *
          obtain ⟨x, hx⟩ : ∃ x, x = h.getD i 0 := ⟨_, rfl⟩
          obtain ⟨z, hz⟩ : ∃ z, z = h.getD y 0 := ⟨_, rfl⟩
          have HX : Hid (x = h.getD i 0) := hx
          have HZ : Hid (z = h.getD y 0) := hz
          rw [← hx] at c1
          rw [← hz] at c3
          have iI2 : (i : Int) < (n : Int) := by omega
          have jI : (j : Int) < (L.length : Int) := by omega
          have jI0 : (0 : Int) ≤ (j : Int) := by omega
          have yI : (y : Int) < (n : Int) := by omega
          have yI0 : (0 : Int) ≤ (y : Int) := by omega
          clear hy hcc HBW eL eT hx hz
          rcases Int.lt_trichotomy x z with hxz | hxz | hxz
          · have HNA : Hid (.int .i64 (oneI (A && A2)) = Value.int .i64 (oneI (A && (L.take (j + 1)).all fun y => leF (h.getD i 0) (h.getD y.toNat 0)))) := by
              show _ = _
              rw [HTA.out, decide_eq_true (by rw [← HX.out, ← HZ.out]; omega)]
              simp
            have HNB : Hid (.int .i64 (oneI (B && B2)) = Value.int .i64 (oneI (B && (L.take (j + 1)).all fun y => ltF (h.getD i 0) (h.getD y.toNat 0)))) := by
              show _ = _
              rw [HTB.out, decide_eq_true (by rw [← HX.out, ← HZ.out]; omega)]
              simp
            have t1 : decide (z < x) = false := decide_eq_false (by omega)
            have t2 : decide (z ≤ x) = false := decide_eq_false (by omega)
            go_wp2
            refine wp_region_held_drew (S := fun w' => w'.cell? ⟨hb, ho + i, none⟩ = some (.int .i64 x) ∧ w'.cell? ⟨lb, lo + j, none⟩ = some (.int .i64 (y : Int)) ∧ w'.cell? ⟨hb, ho + y, none⟩ = some (.int .i64 z)) (by kernel_rfl) ⟨c1, c2, c3⟩ (fun hHeld => ?_)
            refine wpAnyH_tk (i := 0) (d := 65) (v := (.slice (some ⟨hb, ho, none⟩) n hc)) rfl rfl (by kernel_rfl) (by kernel_rfl) (by kernel_rfl) (fun _ _ _ h => h) (.inl ⟨by rfl, by (intro wq hSw; (try dsimp only at hSw); go_simp; (try (first | rfl | omega)))⟩) hHeld ?_
            simp only [Act.put, List.setIfInBounds_toArray, List.set_cons_zero, List.set_cons_succ]
            refine wpAnyH_tk (i := 1) (d := 66) (v := (.int .i64 (i : Int))) rfl rfl (by kernel_rfl) (by kernel_rfl) (by kernel_rfl) (fun _ _ _ h => h) (.inl ⟨by rfl, by (intro wq hSw; (try dsimp only at hSw); go_simp; (try (first | rfl | omega)))⟩) hHeld ?_
            simp only [Act.put, List.setIfInBounds_toArray, List.set_cons_zero, List.set_cons_succ]
            refine wpAnyH_tk (i := 2) (d := 67) (v := (.pointer (some ⟨hb, ho + i, none⟩))) rfl rfl (by kernel_rfl) (by kernel_rfl) (by kernel_rfl) (fun _ _ _ h => h) (.inl ⟨by rfl, by (intro wq hSw; (try dsimp only at hSw); go_simp; (try (first | rfl | omega)))⟩) hHeld ?_
            simp only [Act.put, List.setIfInBounds_toArray, List.set_cons_zero, List.set_cons_succ]
            refine wpAnyH_tk (i := 3) (d := 68) (v := (.int .i64 x)) rfl rfl (by kernel_rfl) (by kernel_rfl) (by kernel_rfl) (fun _ _ _ h => h) (.inl ⟨by rfl, by (intro wq hSw; (try dsimp only at hSw); go_simp; (try (first | rfl | omega)))⟩) hHeld ?_
            simp only [Act.put, List.setIfInBounds_toArray, List.set_cons_zero, List.set_cons_succ]
            refine wpAnyH_tk (i := 4) (d := 69) (v := (.slice (some ⟨hb, ho, none⟩) n hc)) rfl rfl (by kernel_rfl) (by kernel_rfl) (by kernel_rfl) (fun _ _ _ h => h) (.inl ⟨by rfl, by (intro wq hSw; (try dsimp only at hSw); go_simp; (try (first | rfl | omega)))⟩) hHeld ?_
            simp only [Act.put, List.setIfInBounds_toArray, List.set_cons_zero, List.set_cons_succ]
            refine wpAnyH_tk (i := 5) (d := 70) (v := (.slice (some ⟨lb, lo, none⟩) L.length lc)) rfl rfl (by kernel_rfl) (by kernel_rfl) (by kernel_rfl) (fun _ _ _ h => h) (.inl ⟨by rfl, by (intro wq hSw; (try dsimp only at hSw); go_simp; (try (first | rfl | omega)))⟩) hHeld ?_
            simp only [Act.put, List.setIfInBounds_toArray, List.set_cons_zero, List.set_cons_succ]
            refine wpAnyH_tk (i := 6) (d := 71) (v := (.int .i64 (j : Int))) rfl rfl (by kernel_rfl) (by kernel_rfl) (by kernel_rfl) (fun _ _ _ h => h) (.inl ⟨by rfl, by (intro wq hSw; (try dsimp only at hSw); go_simp; (try (first | rfl | omega)))⟩) hHeld ?_
            simp only [Act.put, List.setIfInBounds_toArray, List.set_cons_zero, List.set_cons_succ]
            refine wpAnyH_tk (i := 7) (d := 72) (v := (.pointer (some ⟨lb, lo + j, none⟩))) rfl rfl (by kernel_rfl) (by kernel_rfl) (by kernel_rfl) (fun _ _ _ h => h) (.inl ⟨by rfl, by (intro wq hSw; (try dsimp only at hSw); go_simp; (try (first | rfl | omega)))⟩) hHeld ?_
            simp only [Act.put, List.setIfInBounds_toArray, List.set_cons_zero, List.set_cons_succ]
            refine wpAnyH_tk (i := 8) (d := 73) (v := (.int .i64 (y : Int))) rfl rfl (by kernel_rfl) (by kernel_rfl) (by kernel_rfl) (fun _ _ _ h => h) (.inl ⟨by rfl, by (intro wq hSw; (try dsimp only at hSw); go_simp; (try (first | rfl | omega)))⟩) hHeld ?_
            simp only [Act.put, List.setIfInBounds_toArray, List.set_cons_zero, List.set_cons_succ]
            refine wpAnyH_tk (i := 9) (d := 74) (v := (.pointer (some ⟨hb, ho + y, none⟩))) rfl rfl (by kernel_rfl) (by kernel_rfl) (by kernel_rfl) (fun _ _ _ h => h) (.inl ⟨by rfl, by (intro wq hSw; (try dsimp only at hSw); go_simp; (try (first | rfl | omega)))⟩) hHeld ?_
            simp only [Act.put, List.setIfInBounds_toArray, List.set_cons_zero, List.set_cons_succ]
            refine wpAnyH_tk (i := 10) (d := 75) (v := (.int .i64 z)) rfl rfl (by kernel_rfl) (by kernel_rfl) (by kernel_rfl) (fun _ _ _ h => h) (.inl ⟨by rfl, by (intro wq hSw; (try dsimp only at hSw); go_simp; (try (first | rfl | omega)))⟩) hHeld ?_
            simp only [Act.put, List.setIfInBounds_toArray, List.set_cons_zero, List.set_cons_succ]
            refine wpAnyH_tk (i := 11) (d := 76) (v := (.bool false)) rfl rfl (by kernel_rfl) (by kernel_rfl) (by kernel_rfl) (fun _ _ _ h => h) (.inl ⟨by rfl, by (intro wq hSw; (try dsimp only at hSw); go_simp; (try (first | rfl | omega)))⟩) hHeld ?_
            simp only [Act.put, List.setIfInBounds_toArray, List.set_cons_zero, List.set_cons_succ]
            refine wpAnyH_done (by kernel_rfl) ?_ _
            clear hHeld
            go_wp2
            refine wp_region_held_drew (S := fun w' => w'.cell? ⟨hb, ho + i, none⟩ = some (.int .i64 x) ∧ w'.cell? ⟨lb, lo + j, none⟩ = some (.int .i64 (y : Int)) ∧ w'.cell? ⟨hb, ho + y, none⟩ = some (.int .i64 z)) (by kernel_rfl) ⟨c1, c2, c3⟩ (fun hHeld => ?_)
            refine wpAnyH_tk (i := 0) (d := 77) (v := (.slice (some ⟨hb, ho, none⟩) n hc)) rfl rfl (by kernel_rfl) (by kernel_rfl) (by kernel_rfl) (fun _ _ _ h => h) (.inl ⟨by rfl, by (intro wq hSw; (try dsimp only at hSw); go_simp; (try (first | rfl | omega)))⟩) hHeld ?_
            simp only [Act.put, List.setIfInBounds_toArray, List.set_cons_zero, List.set_cons_succ]
            refine wpAnyH_tk (i := 1) (d := 78) (v := (.int .i64 (i : Int))) rfl rfl (by kernel_rfl) (by kernel_rfl) (by kernel_rfl) (fun _ _ _ h => h) (.inl ⟨by rfl, by (intro wq hSw; (try dsimp only at hSw); go_simp; (try (first | rfl | omega)))⟩) hHeld ?_
            simp only [Act.put, List.setIfInBounds_toArray, List.set_cons_zero, List.set_cons_succ]
            refine wpAnyH_tk (i := 2) (d := 79) (v := (.pointer (some ⟨hb, ho + i, none⟩))) rfl rfl (by kernel_rfl) (by kernel_rfl) (by kernel_rfl) (fun _ _ _ h => h) (.inl ⟨by rfl, by (intro wq hSw; (try dsimp only at hSw); go_simp; (try (first | rfl | omega)))⟩) hHeld ?_
            simp only [Act.put, List.setIfInBounds_toArray, List.set_cons_zero, List.set_cons_succ]
            refine wpAnyH_tk (i := 3) (d := 80) (v := (.int .i64 x)) rfl rfl (by kernel_rfl) (by kernel_rfl) (by kernel_rfl) (fun _ _ _ h => h) (.inl ⟨by rfl, by (intro wq hSw; (try dsimp only at hSw); go_simp; (try (first | rfl | omega)))⟩) hHeld ?_
            simp only [Act.put, List.setIfInBounds_toArray, List.set_cons_zero, List.set_cons_succ]
            refine wpAnyH_tk (i := 4) (d := 81) (v := (.slice (some ⟨hb, ho, none⟩) n hc)) rfl rfl (by kernel_rfl) (by kernel_rfl) (by kernel_rfl) (fun _ _ _ h => h) (.inl ⟨by rfl, by (intro wq hSw; (try dsimp only at hSw); go_simp; (try (first | rfl | omega)))⟩) hHeld ?_
            simp only [Act.put, List.setIfInBounds_toArray, List.set_cons_zero, List.set_cons_succ]
            refine wpAnyH_tk (i := 5) (d := 82) (v := (.slice (some ⟨lb, lo, none⟩) L.length lc)) rfl rfl (by kernel_rfl) (by kernel_rfl) (by kernel_rfl) (fun _ _ _ h => h) (.inl ⟨by rfl, by (intro wq hSw; (try dsimp only at hSw); go_simp; (try (first | rfl | omega)))⟩) hHeld ?_
            simp only [Act.put, List.setIfInBounds_toArray, List.set_cons_zero, List.set_cons_succ]
            refine wpAnyH_tk (i := 6) (d := 83) (v := (.int .i64 (j : Int))) rfl rfl (by kernel_rfl) (by kernel_rfl) (by kernel_rfl) (fun _ _ _ h => h) (.inl ⟨by rfl, by (intro wq hSw; (try dsimp only at hSw); go_simp; (try (first | rfl | omega)))⟩) hHeld ?_
            simp only [Act.put, List.setIfInBounds_toArray, List.set_cons_zero, List.set_cons_succ]
            refine wpAnyH_tk (i := 7) (d := 84) (v := (.pointer (some ⟨lb, lo + j, none⟩))) rfl rfl (by kernel_rfl) (by kernel_rfl) (by kernel_rfl) (fun _ _ _ h => h) (.inl ⟨by rfl, by (intro wq hSw; (try dsimp only at hSw); go_simp; (try (first | rfl | omega)))⟩) hHeld ?_
            simp only [Act.put, List.setIfInBounds_toArray, List.set_cons_zero, List.set_cons_succ]
            refine wpAnyH_tk (i := 8) (d := 85) (v := (.int .i64 (y : Int))) rfl rfl (by kernel_rfl) (by kernel_rfl) (by kernel_rfl) (fun _ _ _ h => h) (.inl ⟨by rfl, by (intro wq hSw; (try dsimp only at hSw); go_simp; (try (first | rfl | omega)))⟩) hHeld ?_
            simp only [Act.put, List.setIfInBounds_toArray, List.set_cons_zero, List.set_cons_succ]
            refine wpAnyH_tk (i := 9) (d := 86) (v := (.pointer (some ⟨hb, ho + y, none⟩))) rfl rfl (by kernel_rfl) (by kernel_rfl) (by kernel_rfl) (fun _ _ _ h => h) (.inl ⟨by rfl, by (intro wq hSw; (try dsimp only at hSw); go_simp; (try (first | rfl | omega)))⟩) hHeld ?_
            simp only [Act.put, List.setIfInBounds_toArray, List.set_cons_zero, List.set_cons_succ]
            refine wpAnyH_tk (i := 10) (d := 87) (v := (.int .i64 z)) rfl rfl (by kernel_rfl) (by kernel_rfl) (by kernel_rfl) (fun _ _ _ h => h) (.inl ⟨by rfl, by (intro wq hSw; (try dsimp only at hSw); go_simp; (try (first | rfl | omega)))⟩) hHeld ?_
            simp only [Act.put, List.setIfInBounds_toArray, List.set_cons_zero, List.set_cons_succ]
            refine wpAnyH_tk (i := 11) (d := 88) (v := (.bool false)) rfl rfl (by kernel_rfl) (by kernel_rfl) (by kernel_rfl) (fun _ _ _ h => h) (.inl ⟨by rfl, by (intro wq hSw; (try dsimp only at hSw); go_simp; (try (first | rfl | omega)))⟩) hHeld ?_
            simp only [Act.put, List.setIfInBounds_toArray, List.set_cons_zero, List.set_cons_succ]
            refine wpAnyH_done (by kernel_rfl) ?_ _
            clear hHeld
            go_wp2
            go_roundw
            case rel => exact ⟨j + 1, by omega, by go_num, HNA.out, HNB.out, HBQ.out.trans ⟨rfl, rfl, rfl, Nat.le_refl _, fun _ _ => rfl⟩⟩
            case measure => simp [intOf]; omega
          · have HNA : Hid (.int .i64 (oneI (A && A2)) = Value.int .i64 (oneI (A && (L.take (j + 1)).all fun y => leF (h.getD i 0) (h.getD y.toNat 0)))) := by
              show _ = _
              rw [HTA.out, decide_eq_true (by rw [← HX.out, ← HZ.out]; omega)]
              simp
            have HNB : Hid (.int .i64 0 = Value.int .i64 (oneI (B && (L.take (j + 1)).all fun y => ltF (h.getD i 0) (h.getD y.toNat 0)))) := by
              show _ = _
              rw [HTB.out, decide_eq_false (by rw [← HX.out, ← HZ.out]; omega)]
              simp [oneI]
            have t1 : decide (z < x) = false := decide_eq_false (by omega)
            have t2 : decide (z ≤ x) = true := decide_eq_true (by omega)
            go_wp2
            refine wp_region_held_drew (S := fun w' => w'.cell? ⟨hb, ho + i, none⟩ = some (.int .i64 x) ∧ w'.cell? ⟨lb, lo + j, none⟩ = some (.int .i64 (y : Int)) ∧ w'.cell? ⟨hb, ho + y, none⟩ = some (.int .i64 z)) (by kernel_rfl) ⟨c1, c2, c3⟩ (fun hHeld => ?_)
            refine wpAnyH_tk (i := 0) (d := 65) (v := (.slice (some ⟨hb, ho, none⟩) n hc)) rfl rfl (by kernel_rfl) (by kernel_rfl) (by kernel_rfl) (fun _ _ _ h => h) (.inl ⟨by rfl, by (intro wq hSw; (try dsimp only at hSw); go_simp; (try (first | rfl | omega)))⟩) hHeld ?_
            simp only [Act.put, List.setIfInBounds_toArray, List.set_cons_zero, List.set_cons_succ]
            refine wpAnyH_tk (i := 1) (d := 66) (v := (.int .i64 (i : Int))) rfl rfl (by kernel_rfl) (by kernel_rfl) (by kernel_rfl) (fun _ _ _ h => h) (.inl ⟨by rfl, by (intro wq hSw; (try dsimp only at hSw); go_simp; (try (first | rfl | omega)))⟩) hHeld ?_
            simp only [Act.put, List.setIfInBounds_toArray, List.set_cons_zero, List.set_cons_succ]
            refine wpAnyH_tk (i := 2) (d := 67) (v := (.pointer (some ⟨hb, ho + i, none⟩))) rfl rfl (by kernel_rfl) (by kernel_rfl) (by kernel_rfl) (fun _ _ _ h => h) (.inl ⟨by rfl, by (intro wq hSw; (try dsimp only at hSw); go_simp; (try (first | rfl | omega)))⟩) hHeld ?_
            simp only [Act.put, List.setIfInBounds_toArray, List.set_cons_zero, List.set_cons_succ]
            refine wpAnyH_tk (i := 3) (d := 68) (v := (.int .i64 x)) rfl rfl (by kernel_rfl) (by kernel_rfl) (by kernel_rfl) (fun _ _ _ h => h) (.inl ⟨by rfl, by (intro wq hSw; (try dsimp only at hSw); go_simp; (try (first | rfl | omega)))⟩) hHeld ?_
            simp only [Act.put, List.setIfInBounds_toArray, List.set_cons_zero, List.set_cons_succ]
            refine wpAnyH_tk (i := 4) (d := 69) (v := (.slice (some ⟨hb, ho, none⟩) n hc)) rfl rfl (by kernel_rfl) (by kernel_rfl) (by kernel_rfl) (fun _ _ _ h => h) (.inl ⟨by rfl, by (intro wq hSw; (try dsimp only at hSw); go_simp; (try (first | rfl | omega)))⟩) hHeld ?_
            simp only [Act.put, List.setIfInBounds_toArray, List.set_cons_zero, List.set_cons_succ]
            refine wpAnyH_tk (i := 5) (d := 70) (v := (.slice (some ⟨lb, lo, none⟩) L.length lc)) rfl rfl (by kernel_rfl) (by kernel_rfl) (by kernel_rfl) (fun _ _ _ h => h) (.inl ⟨by rfl, by (intro wq hSw; (try dsimp only at hSw); go_simp; (try (first | rfl | omega)))⟩) hHeld ?_
            simp only [Act.put, List.setIfInBounds_toArray, List.set_cons_zero, List.set_cons_succ]
            refine wpAnyH_tk (i := 6) (d := 71) (v := (.int .i64 (j : Int))) rfl rfl (by kernel_rfl) (by kernel_rfl) (by kernel_rfl) (fun _ _ _ h => h) (.inl ⟨by rfl, by (intro wq hSw; (try dsimp only at hSw); go_simp; (try (first | rfl | omega)))⟩) hHeld ?_
            simp only [Act.put, List.setIfInBounds_toArray, List.set_cons_zero, List.set_cons_succ]
            refine wpAnyH_tk (i := 7) (d := 72) (v := (.pointer (some ⟨lb, lo + j, none⟩))) rfl rfl (by kernel_rfl) (by kernel_rfl) (by kernel_rfl) (fun _ _ _ h => h) (.inl ⟨by rfl, by (intro wq hSw; (try dsimp only at hSw); go_simp; (try (first | rfl | omega)))⟩) hHeld ?_
            simp only [Act.put, List.setIfInBounds_toArray, List.set_cons_zero, List.set_cons_succ]
            refine wpAnyH_tk (i := 8) (d := 73) (v := (.int .i64 (y : Int))) rfl rfl (by kernel_rfl) (by kernel_rfl) (by kernel_rfl) (fun _ _ _ h => h) (.inl ⟨by rfl, by (intro wq hSw; (try dsimp only at hSw); go_simp; (try (first | rfl | omega)))⟩) hHeld ?_
            simp only [Act.put, List.setIfInBounds_toArray, List.set_cons_zero, List.set_cons_succ]
            refine wpAnyH_tk (i := 9) (d := 74) (v := (.pointer (some ⟨hb, ho + y, none⟩))) rfl rfl (by kernel_rfl) (by kernel_rfl) (by kernel_rfl) (fun _ _ _ h => h) (.inl ⟨by rfl, by (intro wq hSw; (try dsimp only at hSw); go_simp; (try (first | rfl | omega)))⟩) hHeld ?_
            simp only [Act.put, List.setIfInBounds_toArray, List.set_cons_zero, List.set_cons_succ]
            refine wpAnyH_tk (i := 10) (d := 75) (v := (.int .i64 z)) rfl rfl (by kernel_rfl) (by kernel_rfl) (by kernel_rfl) (fun _ _ _ h => h) (.inl ⟨by rfl, by (intro wq hSw; (try dsimp only at hSw); go_simp; (try (first | rfl | omega)))⟩) hHeld ?_
            simp only [Act.put, List.setIfInBounds_toArray, List.set_cons_zero, List.set_cons_succ]
            refine wpAnyH_tk (i := 11) (d := 76) (v := (.bool false)) rfl rfl (by kernel_rfl) (by kernel_rfl) (by kernel_rfl) (fun _ _ _ h => h) (.inl ⟨by rfl, by (intro wq hSw; (try dsimp only at hSw); go_simp; (try (first | rfl | omega)))⟩) hHeld ?_
            simp only [Act.put, List.setIfInBounds_toArray, List.set_cons_zero, List.set_cons_succ]
            refine wpAnyH_done (by kernel_rfl) ?_ _
            clear hHeld
            go_wp2
            refine wp_region_held_drew (S := fun w' => w'.cell? ⟨hb, ho + i, none⟩ = some (.int .i64 x) ∧ w'.cell? ⟨lb, lo + j, none⟩ = some (.int .i64 (y : Int)) ∧ w'.cell? ⟨hb, ho + y, none⟩ = some (.int .i64 z)) (by kernel_rfl) ⟨c1, c2, c3⟩ (fun hHeld => ?_)
            refine wpAnyH_tk (i := 0) (d := 77) (v := (.slice (some ⟨hb, ho, none⟩) n hc)) rfl rfl (by kernel_rfl) (by kernel_rfl) (by kernel_rfl) (fun _ _ _ h => h) (.inl ⟨by rfl, by (intro wq hSw; (try dsimp only at hSw); go_simp; (try (first | rfl | omega)))⟩) hHeld ?_
            simp only [Act.put, List.setIfInBounds_toArray, List.set_cons_zero, List.set_cons_succ]
            refine wpAnyH_tk (i := 1) (d := 78) (v := (.int .i64 (i : Int))) rfl rfl (by kernel_rfl) (by kernel_rfl) (by kernel_rfl) (fun _ _ _ h => h) (.inl ⟨by rfl, by (intro wq hSw; (try dsimp only at hSw); go_simp; (try (first | rfl | omega)))⟩) hHeld ?_
            simp only [Act.put, List.setIfInBounds_toArray, List.set_cons_zero, List.set_cons_succ]
            refine wpAnyH_tk (i := 2) (d := 79) (v := (.pointer (some ⟨hb, ho + i, none⟩))) rfl rfl (by kernel_rfl) (by kernel_rfl) (by kernel_rfl) (fun _ _ _ h => h) (.inl ⟨by rfl, by (intro wq hSw; (try dsimp only at hSw); go_simp; (try (first | rfl | omega)))⟩) hHeld ?_
            simp only [Act.put, List.setIfInBounds_toArray, List.set_cons_zero, List.set_cons_succ]
            refine wpAnyH_tk (i := 3) (d := 80) (v := (.int .i64 x)) rfl rfl (by kernel_rfl) (by kernel_rfl) (by kernel_rfl) (fun _ _ _ h => h) (.inl ⟨by rfl, by (intro wq hSw; (try dsimp only at hSw); go_simp; (try (first | rfl | omega)))⟩) hHeld ?_
            simp only [Act.put, List.setIfInBounds_toArray, List.set_cons_zero, List.set_cons_succ]
            refine wpAnyH_tk (i := 4) (d := 81) (v := (.slice (some ⟨hb, ho, none⟩) n hc)) rfl rfl (by kernel_rfl) (by kernel_rfl) (by kernel_rfl) (fun _ _ _ h => h) (.inl ⟨by rfl, by (intro wq hSw; (try dsimp only at hSw); go_simp; (try (first | rfl | omega)))⟩) hHeld ?_
            simp only [Act.put, List.setIfInBounds_toArray, List.set_cons_zero, List.set_cons_succ]
            refine wpAnyH_tk (i := 5) (d := 82) (v := (.slice (some ⟨lb, lo, none⟩) L.length lc)) rfl rfl (by kernel_rfl) (by kernel_rfl) (by kernel_rfl) (fun _ _ _ h => h) (.inl ⟨by rfl, by (intro wq hSw; (try dsimp only at hSw); go_simp; (try (first | rfl | omega)))⟩) hHeld ?_
            simp only [Act.put, List.setIfInBounds_toArray, List.set_cons_zero, List.set_cons_succ]
            refine wpAnyH_tk (i := 6) (d := 83) (v := (.int .i64 (j : Int))) rfl rfl (by kernel_rfl) (by kernel_rfl) (by kernel_rfl) (fun _ _ _ h => h) (.inl ⟨by rfl, by (intro wq hSw; (try dsimp only at hSw); go_simp; (try (first | rfl | omega)))⟩) hHeld ?_
            simp only [Act.put, List.setIfInBounds_toArray, List.set_cons_zero, List.set_cons_succ]
            refine wpAnyH_tk (i := 7) (d := 84) (v := (.pointer (some ⟨lb, lo + j, none⟩))) rfl rfl (by kernel_rfl) (by kernel_rfl) (by kernel_rfl) (fun _ _ _ h => h) (.inl ⟨by rfl, by (intro wq hSw; (try dsimp only at hSw); go_simp; (try (first | rfl | omega)))⟩) hHeld ?_
            simp only [Act.put, List.setIfInBounds_toArray, List.set_cons_zero, List.set_cons_succ]
            refine wpAnyH_tk (i := 8) (d := 85) (v := (.int .i64 (y : Int))) rfl rfl (by kernel_rfl) (by kernel_rfl) (by kernel_rfl) (fun _ _ _ h => h) (.inl ⟨by rfl, by (intro wq hSw; (try dsimp only at hSw); go_simp; (try (first | rfl | omega)))⟩) hHeld ?_
            simp only [Act.put, List.setIfInBounds_toArray, List.set_cons_zero, List.set_cons_succ]
            refine wpAnyH_tk (i := 9) (d := 86) (v := (.pointer (some ⟨hb, ho + y, none⟩))) rfl rfl (by kernel_rfl) (by kernel_rfl) (by kernel_rfl) (fun _ _ _ h => h) (.inl ⟨by rfl, by (intro wq hSw; (try dsimp only at hSw); go_simp; (try (first | rfl | omega)))⟩) hHeld ?_
            simp only [Act.put, List.setIfInBounds_toArray, List.set_cons_zero, List.set_cons_succ]
            refine wpAnyH_tk (i := 10) (d := 87) (v := (.int .i64 z)) rfl rfl (by kernel_rfl) (by kernel_rfl) (by kernel_rfl) (fun _ _ _ h => h) (.inl ⟨by rfl, by (intro wq hSw; (try dsimp only at hSw); go_simp; (try (first | rfl | omega)))⟩) hHeld ?_
            simp only [Act.put, List.setIfInBounds_toArray, List.set_cons_zero, List.set_cons_succ]
            refine wpAnyH_tk (i := 11) (d := 88) (v := (.bool true)) rfl rfl (by kernel_rfl) (by kernel_rfl) (by kernel_rfl) (fun _ _ _ h => h) (.inl ⟨by rfl, by (intro wq hSw; (try dsimp only at hSw); go_simp; (try (first | rfl | omega)))⟩) hHeld ?_
            simp only [Act.put, List.setIfInBounds_toArray, List.set_cons_zero, List.set_cons_succ]
            refine wpAnyH_done (by kernel_rfl) ?_ _
            clear hHeld
            go_wp2
            go_roundw
            case rel => exact ⟨j + 1, by omega, by go_num, HNA.out, HNB.out, HBQ.out.trans ⟨rfl, rfl, rfl, Nat.le_refl _, fun _ _ => rfl⟩⟩
            case measure => simp [intOf]; omega
          · have HNA : Hid (.int .i64 0 = Value.int .i64 (oneI (A && (L.take (j + 1)).all fun y => leF (h.getD i 0) (h.getD y.toNat 0)))) := by
              show _ = _
              rw [HTA.out, decide_eq_false (by rw [← HX.out, ← HZ.out]; omega)]
              simp [oneI]
            have HNB : Hid (.int .i64 0 = Value.int .i64 (oneI (B && (L.take (j + 1)).all fun y => ltF (h.getD i 0) (h.getD y.toNat 0)))) := by
              show _ = _
              rw [HTB.out, decide_eq_false (by rw [← HX.out, ← HZ.out]; omega)]
              simp [oneI]
            have t1 : decide (z < x) = true := decide_eq_true (by omega)
            have t2 : decide (z ≤ x) = true := decide_eq_true (by omega)
            go_wp2
            refine wp_region_held_drew (S := fun w' => w'.cell? ⟨hb, ho + i, none⟩ = some (.int .i64 x) ∧ w'.cell? ⟨lb, lo + j, none⟩ = some (.int .i64 (y : Int)) ∧ w'.cell? ⟨hb, ho + y, none⟩ = some (.int .i64 z)) (by kernel_rfl) ⟨c1, c2, c3⟩ (fun hHeld => ?_)
            refine wpAnyH_tk (i := 0) (d := 65) (v := (.slice (some ⟨hb, ho, none⟩) n hc)) rfl rfl (by kernel_rfl) (by kernel_rfl) (by kernel_rfl) (fun _ _ _ h => h) (.inl ⟨by rfl, by (intro wq hSw; (try dsimp only at hSw); go_simp; (try (first | rfl | omega)))⟩) hHeld ?_
            simp only [Act.put, List.setIfInBounds_toArray, List.set_cons_zero, List.set_cons_succ]
            refine wpAnyH_tk (i := 1) (d := 66) (v := (.int .i64 (i : Int))) rfl rfl (by kernel_rfl) (by kernel_rfl) (by kernel_rfl) (fun _ _ _ h => h) (.inl ⟨by rfl, by (intro wq hSw; (try dsimp only at hSw); go_simp; (try (first | rfl | omega)))⟩) hHeld ?_
            simp only [Act.put, List.setIfInBounds_toArray, List.set_cons_zero, List.set_cons_succ]
            refine wpAnyH_tk (i := 2) (d := 67) (v := (.pointer (some ⟨hb, ho + i, none⟩))) rfl rfl (by kernel_rfl) (by kernel_rfl) (by kernel_rfl) (fun _ _ _ h => h) (.inl ⟨by rfl, by (intro wq hSw; (try dsimp only at hSw); go_simp; (try (first | rfl | omega)))⟩) hHeld ?_
            simp only [Act.put, List.setIfInBounds_toArray, List.set_cons_zero, List.set_cons_succ]
            refine wpAnyH_tk (i := 3) (d := 68) (v := (.int .i64 x)) rfl rfl (by kernel_rfl) (by kernel_rfl) (by kernel_rfl) (fun _ _ _ h => h) (.inl ⟨by rfl, by (intro wq hSw; (try dsimp only at hSw); go_simp; (try (first | rfl | omega)))⟩) hHeld ?_
            simp only [Act.put, List.setIfInBounds_toArray, List.set_cons_zero, List.set_cons_succ]
            refine wpAnyH_tk (i := 4) (d := 69) (v := (.slice (some ⟨hb, ho, none⟩) n hc)) rfl rfl (by kernel_rfl) (by kernel_rfl) (by kernel_rfl) (fun _ _ _ h => h) (.inl ⟨by rfl, by (intro wq hSw; (try dsimp only at hSw); go_simp; (try (first | rfl | omega)))⟩) hHeld ?_
            simp only [Act.put, List.setIfInBounds_toArray, List.set_cons_zero, List.set_cons_succ]
            refine wpAnyH_tk (i := 5) (d := 70) (v := (.slice (some ⟨lb, lo, none⟩) L.length lc)) rfl rfl (by kernel_rfl) (by kernel_rfl) (by kernel_rfl) (fun _ _ _ h => h) (.inl ⟨by rfl, by (intro wq hSw; (try dsimp only at hSw); go_simp; (try (first | rfl | omega)))⟩) hHeld ?_
            simp only [Act.put, List.setIfInBounds_toArray, List.set_cons_zero, List.set_cons_succ]
            refine wpAnyH_tk (i := 6) (d := 71) (v := (.int .i64 (j : Int))) rfl rfl (by kernel_rfl) (by kernel_rfl) (by kernel_rfl) (fun _ _ _ h => h) (.inl ⟨by rfl, by (intro wq hSw; (try dsimp only at hSw); go_simp; (try (first | rfl | omega)))⟩) hHeld ?_
            simp only [Act.put, List.setIfInBounds_toArray, List.set_cons_zero, List.set_cons_succ]
            refine wpAnyH_tk (i := 7) (d := 72) (v := (.pointer (some ⟨lb, lo + j, none⟩))) rfl rfl (by kernel_rfl) (by kernel_rfl) (by kernel_rfl) (fun _ _ _ h => h) (.inl ⟨by rfl, by (intro wq hSw; (try dsimp only at hSw); go_simp; (try (first | rfl | omega)))⟩) hHeld ?_
            simp only [Act.put, List.setIfInBounds_toArray, List.set_cons_zero, List.set_cons_succ]
            refine wpAnyH_tk (i := 8) (d := 73) (v := (.int .i64 (y : Int))) rfl rfl (by kernel_rfl) (by kernel_rfl) (by kernel_rfl) (fun _ _ _ h => h) (.inl ⟨by rfl, by (intro wq hSw; (try dsimp only at hSw); go_simp; (try (first | rfl | omega)))⟩) hHeld ?_
            simp only [Act.put, List.setIfInBounds_toArray, List.set_cons_zero, List.set_cons_succ]
            refine wpAnyH_tk (i := 9) (d := 74) (v := (.pointer (some ⟨hb, ho + y, none⟩))) rfl rfl (by kernel_rfl) (by kernel_rfl) (by kernel_rfl) (fun _ _ _ h => h) (.inl ⟨by rfl, by (intro wq hSw; (try dsimp only at hSw); go_simp; (try (first | rfl | omega)))⟩) hHeld ?_
            simp only [Act.put, List.setIfInBounds_toArray, List.set_cons_zero, List.set_cons_succ]
            refine wpAnyH_tk (i := 10) (d := 75) (v := (.int .i64 z)) rfl rfl (by kernel_rfl) (by kernel_rfl) (by kernel_rfl) (fun _ _ _ h => h) (.inl ⟨by rfl, by (intro wq hSw; (try dsimp only at hSw); go_simp; (try (first | rfl | omega)))⟩) hHeld ?_
            simp only [Act.put, List.setIfInBounds_toArray, List.set_cons_zero, List.set_cons_succ]
            refine wpAnyH_tk (i := 11) (d := 76) (v := (.bool true)) rfl rfl (by kernel_rfl) (by kernel_rfl) (by kernel_rfl) (fun _ _ _ h => h) (.inl ⟨by rfl, by (intro wq hSw; (try dsimp only at hSw); go_simp; (try (first | rfl | omega)))⟩) hHeld ?_
            simp only [Act.put, List.setIfInBounds_toArray, List.set_cons_zero, List.set_cons_succ]
            refine wpAnyH_done (by kernel_rfl) ?_ _
            clear hHeld
            go_wp2
            refine wp_region_held_drew (S := fun w' => w'.cell? ⟨hb, ho + i, none⟩ = some (.int .i64 x) ∧ w'.cell? ⟨lb, lo + j, none⟩ = some (.int .i64 (y : Int)) ∧ w'.cell? ⟨hb, ho + y, none⟩ = some (.int .i64 z)) (by kernel_rfl) ⟨c1, c2, c3⟩ (fun hHeld => ?_)
            refine wpAnyH_tk (i := 0) (d := 77) (v := (.slice (some ⟨hb, ho, none⟩) n hc)) rfl rfl (by kernel_rfl) (by kernel_rfl) (by kernel_rfl) (fun _ _ _ h => h) (.inl ⟨by rfl, by (intro wq hSw; (try dsimp only at hSw); go_simp; (try (first | rfl | omega)))⟩) hHeld ?_
            simp only [Act.put, List.setIfInBounds_toArray, List.set_cons_zero, List.set_cons_succ]
            refine wpAnyH_tk (i := 1) (d := 78) (v := (.int .i64 (i : Int))) rfl rfl (by kernel_rfl) (by kernel_rfl) (by kernel_rfl) (fun _ _ _ h => h) (.inl ⟨by rfl, by (intro wq hSw; (try dsimp only at hSw); go_simp; (try (first | rfl | omega)))⟩) hHeld ?_
            simp only [Act.put, List.setIfInBounds_toArray, List.set_cons_zero, List.set_cons_succ]
            refine wpAnyH_tk (i := 2) (d := 79) (v := (.pointer (some ⟨hb, ho + i, none⟩))) rfl rfl (by kernel_rfl) (by kernel_rfl) (by kernel_rfl) (fun _ _ _ h => h) (.inl ⟨by rfl, by (intro wq hSw; (try dsimp only at hSw); go_simp; (try (first | rfl | omega)))⟩) hHeld ?_
            simp only [Act.put, List.setIfInBounds_toArray, List.set_cons_zero, List.set_cons_succ]
            refine wpAnyH_tk (i := 3) (d := 80) (v := (.int .i64 x)) rfl rfl (by kernel_rfl) (by kernel_rfl) (by kernel_rfl) (fun _ _ _ h => h) (.inl ⟨by rfl, by (intro wq hSw; (try dsimp only at hSw); go_simp; (try (first | rfl | omega)))⟩) hHeld ?_
            simp only [Act.put, List.setIfInBounds_toArray, List.set_cons_zero, List.set_cons_succ]
            refine wpAnyH_tk (i := 4) (d := 81) (v := (.slice (some ⟨hb, ho, none⟩) n hc)) rfl rfl (by kernel_rfl) (by kernel_rfl) (by kernel_rfl) (fun _ _ _ h => h) (.inl ⟨by rfl, by (intro wq hSw; (try dsimp only at hSw); go_simp; (try (first | rfl | omega)))⟩) hHeld ?_
            simp only [Act.put, List.setIfInBounds_toArray, List.set_cons_zero, List.set_cons_succ]
            refine wpAnyH_tk (i := 5) (d := 82) (v := (.slice (some ⟨lb, lo, none⟩) L.length lc)) rfl rfl (by kernel_rfl) (by kernel_rfl) (by kernel_rfl) (fun _ _ _ h => h) (.inl ⟨by rfl, by (intro wq hSw; (try dsimp only at hSw); go_simp; (try (first | rfl | omega)))⟩) hHeld ?_
            simp only [Act.put, List.setIfInBounds_toArray, List.set_cons_zero, List.set_cons_succ]
            refine wpAnyH_tk (i := 6) (d := 83) (v := (.int .i64 (j : Int))) rfl rfl (by kernel_rfl) (by kernel_rfl) (by kernel_rfl) (fun _ _ _ h => h) (.inl ⟨by rfl, by (intro wq hSw; (try dsimp only at hSw); go_simp; (try (first | rfl | omega)))⟩) hHeld ?_
            simp only [Act.put, List.setIfInBounds_toArray, List.set_cons_zero, List.set_cons_succ]
            refine wpAnyH_tk (i := 7) (d := 84) (v := (.pointer (some ⟨lb, lo + j, none⟩))) rfl rfl (by kernel_rfl) (by kernel_rfl) (by kernel_rfl) (fun _ _ _ h => h) (.inl ⟨by rfl, by (intro wq hSw; (try dsimp only at hSw); go_simp; (try (first | rfl | omega)))⟩) hHeld ?_
            simp only [Act.put, List.setIfInBounds_toArray, List.set_cons_zero, List.set_cons_succ]
            refine wpAnyH_tk (i := 8) (d := 85) (v := (.int .i64 (y : Int))) rfl rfl (by kernel_rfl) (by kernel_rfl) (by kernel_rfl) (fun _ _ _ h => h) (.inl ⟨by rfl, by (intro wq hSw; (try dsimp only at hSw); go_simp; (try (first | rfl | omega)))⟩) hHeld ?_
            simp only [Act.put, List.setIfInBounds_toArray, List.set_cons_zero, List.set_cons_succ]
            refine wpAnyH_tk (i := 9) (d := 86) (v := (.pointer (some ⟨hb, ho + y, none⟩))) rfl rfl (by kernel_rfl) (by kernel_rfl) (by kernel_rfl) (fun _ _ _ h => h) (.inl ⟨by rfl, by (intro wq hSw; (try dsimp only at hSw); go_simp; (try (first | rfl | omega)))⟩) hHeld ?_
            simp only [Act.put, List.setIfInBounds_toArray, List.set_cons_zero, List.set_cons_succ]
            refine wpAnyH_tk (i := 10) (d := 87) (v := (.int .i64 z)) rfl rfl (by kernel_rfl) (by kernel_rfl) (by kernel_rfl) (fun _ _ _ h => h) (.inl ⟨by rfl, by (intro wq hSw; (try dsimp only at hSw); go_simp; (try (first | rfl | omega)))⟩) hHeld ?_
            simp only [Act.put, List.setIfInBounds_toArray, List.set_cons_zero, List.set_cons_succ]
            refine wpAnyH_tk (i := 11) (d := 88) (v := (.bool true)) rfl rfl (by kernel_rfl) (by kernel_rfl) (by kernel_rfl) (fun _ _ _ h => h) (.inl ⟨by rfl, by (intro wq hSw; (try dsimp only at hSw); go_simp; (try (first | rfl | omega)))⟩) hHeld ?_
            simp only [Act.put, List.setIfInBounds_toArray, List.set_cons_zero, List.set_cons_succ]
            refine wpAnyH_done (by kernel_rfl) ?_ _
            clear hHeld
            go_wp2
            go_roundw
            case rel => exact ⟨j + 1, by omega, by go_num, HNA.out, HNB.out, HBQ.out.trans ⟨rfl, rfl, rfl, Nat.le_refl _, fun _ _ => rfl⟩⟩
            case measure => simp [intOf]; omega
        · have hje : j = L.length := by omega
          subst hje
          rw [List.take_length] 
          have HB4 : Hid (Below W.heap.size W wq) := HB3.out.trans (HBQ.out.mono hsz3)
          rw [← HE1b.out, ← HE2b.out]
          clear HBQ
          go_wp2
          go_roundw
          case rel => exact ⟨i + 1, by omega, by go_num, rfl, rfl, HB4.out⟩
          case measure => simp [intOf]; omega
    · have hie : n = i := by omega
      subst hie
      clear hlt hi
      go_wp2
      go_ret2
      exact ⟨rfl, HBR.out⟩

end Go.Proofs.YtcmemhdlendlkaaDoor

/- facetref.MapsOf, all of it. -/
namespace Go.Proofs.YtcmemhdlendlkaaDoor
open Go.RowKit
attribute [local go_sem ↓] Go.wp_at_zero Go.wp_at_succ

set_option maxRecDepth 100000 in
set_option maxHeartbeats 3200000 in
theorem mapsOf_any (n : Nat) (f : Nat → Nat) (hP : PoO n f) (hn1 : 1 ≤ n) (hn : n ≤ 6) (k : Nat) (hk : k ≤ 6) (v : Value) (w : World) (hu : Sl w.heap.size 3 w v (ints (upL n f))) : ∀ (t : Nat) (h : List Int) (hv : Value) (W : World), h.length + t = n → Below w.heap.size w W → Sl W.heap.size 3 W hv (ints h) →
    Calls Tryd.prog 22 #[v, .int .i64 (k : Int), hv] W fun e w' => e = .returned (.tuple #[.int .i64 (mdF n f k leF t h), .int .i64 (mdF n f k ltF t h)]) ∧ Below W.heap.size W w'
  | 0, h, hv, W, hl, hb, hh => mapsOf_leaf n f hP hn1 hn k v hv h W ((hu.below hb (Nat.le_refl _)).any (Nat.le_refl _)) hh (by omega)
  | t + 1, h, hv, W, hl, hb, hh => by
    obtain ⟨i3, hi3, hz30, hz31, hz32⟩ := info_parts Tryd.info3
    obtain ⟨ub, uo, uc, hvv, hcap, -⟩ := sl_cell hu (k := 0) (by rw [upL_len]; omega)
    rw [upL_len] at hvv hcap
    have HREC : Hid (∀ (x : Nat) (u : Value) (W2 : World), Below w.heap.size w W2 → Sl W2.heap.size 3 W2 u (ints (h ++ [(x : Int)])) → Calls Tryd.prog 22 #[.slice (some ⟨ub, uo, none⟩) n uc, .int .i64 (k : Int), u] W2 fun e w' => e = .returned (.tuple #[.int .i64 (mdF n f k leF t (h ++ [(x : Int)])), .int .i64 (mdF n f k ltF t (h ++ [(x : Int)]))]) ∧ Below W2.heap.size W2 w') := fun x u W2 h1 h2 => by
      have := mapsOf_any n f hP hn1 hn k hk v w hu t (h ++ [(x : Int)]) u W2 (by rw [List.length_append, List.length_singleton]; omega) h1 h2
      rw [hvv] at this
      exact this
    subst hvv
    obtain ⟨ho, hc, hvv2, hcap2, hcm⟩ := sl_open hh
    subst hvv2
    have HCP : Hid (∀ W2, Below W.heap.size W W2 → Calls Tryd.prog 24 #[.slice ho h.length hc] W2 fun e w' => ∃ u, e = .returned u ∧ w'.ownsRow W2.heap.size 3 1 u h.length (ints h) ∧ Below W2.heap.size W2 w') := fun W2 h2 => copy_any W.heap.size h _ W2 (hh.below h2 (Nat.le_refl _)) (by omega)
    have HBW : Hid (Below w.heap.size w W) := hb
    obtain ⟨SA, hSA⟩ : ∃ S : Nat → Int, S = fun J => sN J fun x => mdF n f k leF t (h ++ [(x : Int)]) := ⟨_, rfl⟩
    obtain ⟨SB, hSB⟩ : ∃ S : Nat → Int, S = fun J => sN J fun x => mdF n f k ltF t (h ++ [(x : Int)]) := ⟨_, rfl⟩
    have eA : mdF n f k leF (t + 1) h = SA k := by rw [hSA]; rfl
    have eB : mdF n f k ltF (t + 1) h = SB k := by rw [hSB]; rfl
    rw [eA, eB]
    have HA1 : Hid (∀ J, SA (J + 1) = SA J + mdF n f k leF t (h ++ [(J : Int)])) := by rw [hSA]; exact fun _ => rfl
    have HB1 : Hid (∀ J, SB (J + 1) = SB J + mdF n f k ltF t (h ++ [(J : Int)])) := by rw [hSB]; exact fun _ => rfl
    have HA0 : Hid (SA 0 = 0) := by rw [hSA]; show sN 0 _ = 0; rfl
    have HB0 : Hid (SB 0 = 0) := by rw [hSB]; show sN 0 _ = 0; rfl
    have hp : 6 ^ t ≤ 46656 := Nat.le_trans (Nat.pow_le_pow_right (by omega) (by omega : t ≤ 6)) (by decide)
    have HAB : Hid (∀ J, J ≤ k → 0 ≤ SA J ∧ SA J ≤ 1000000) := fun J hJ => by
      have h0 := sN_le J ((6 ^ t : Nat) : Int) (f := fun x => mdF n f k leF t (h ++ [(x : Int)])) fun x _ => mdF_bd hk t _
      have h1 : (J : Int) * ((6 ^ t : Nat) : Int) ≤ 6 * ((6 ^ t : Nat) : Int) := Int.mul_le_mul_of_nonneg_right (by omega) (Int.natCast_nonneg _)
      rw [hSA]
      show 0 ≤ sN J _ ∧ sN J _ ≤ _
      generalize 6 ^ t = q at *
      omega
    have HBB : Hid (∀ J, J ≤ k → 0 ≤ SB J ∧ SB J ≤ 1000000) := fun J hJ => by
      have h0 := sN_le J ((6 ^ t : Nat) : Int) (f := fun x => mdF n f k ltF t (h ++ [(x : Int)])) fun x _ => mdF_bd hk t _
      have h1 : (J : Int) * ((6 ^ t : Nat) : Int) ≤ 6 * ((6 ^ t : Nat) : Int) := Int.mul_le_mul_of_nonneg_right (by omega) (Int.natCast_nonneg _)
      rw [hSB]
      show 0 ≤ sN J _ ∧ sN J _ ≤ _
      generalize 6 ^ t = q at *
      omega
    have hlt0 : (h.length : Int) < (n : Int) := by omega
    have hln : h.length < n := by omega
    clear eA eB hSA hSB hh hb hu hl hp
    have e0 := HA0.out
    have e1 := HB0.out
    go_enter Tryd.func22, Tryd.ntmps22
    go_wp2
    go_loopw [9, 10, 11] (fun av bv xv wr => ∃ x : Nat, x ≤ k ∧ xv = .int .i64 (x : Int) ∧ av = .int .i64 (SA x) ∧ bv = .int .i64 (SB x) ∧ Below W.heap.size W wr) (fun _ _ xv _ => k - (intOf xv).toNat)
    case atStart => exact ⟨0, Nat.zero_le _, rfl, by rw [e0], by rw [e1], Below.refl _ _⟩
    case round =>
      obtain ⟨x, hx, rfl, rfl, rfl, hbr⟩ := hrel
      have HBR : Hid (Below W.heap.size W wr) := hbr
      clear hbr e0 e1 HA0 HB0
      by_cases hlt : x < k
      · have xI : (x : Int) < (k : Int) := by omega
        have HCX := HCP.out wr HBR.out
        obtain ⟨a1, a2⟩ := HAB.out x hx
        obtain ⟨b1, b2⟩ := HBB.out x hx
        obtain ⟨a3, a4⟩ := HAB.out (x + 1) (by omega)
        obtain ⟨b3, b4⟩ := HBB.out (x + 1) (by omega)
        have HAX := HA1.out x
        have HBX := HB1.out x
        go_wp2_with fail
        refine HCX.mono ?_
        rintro e w2 ⟨u, rfl, ho2, hb2⟩
        obtain ⟨xo, xc, hxv⟩ := owns_form ho2
        subst hxv
        have HO2 : Hid (w2.ownsRow wr.heap.size 3 1 (.slice xo h.length xc) h.length (ints h)) := ho2
        have HB2 : Hid (Below wr.heap.size wr w2) := hb2
        have hsz2 : wr.heap.size ≤ w2.heap.size := hb2.size
        clear ho2 hb2 HCX
        go_wp2_with (first | (at_builtin; refine wpList_append_own _ rfl _ _ 27 rfl wr.heap.size 3 i3 (.int .i64 0) 1 8 Tryd.underlying27 hi3 hz30 hz31 hz32 rfl (by decide) _ _ _ rfl (HO2.out.alloc _) ⟨w2.heap.size, 0, none⟩ 1 1 [.int .i64 (x : Int)] rfl rfl (one_new _ _ _) (one_int _) ?c3 ?c4 ?c5 ?_))
        case c3 => unfold maxLen; omega
        case c4 => omega
        case c5 => first | exact hsz2 | omega | (simp; omega)
        intro v2 w4 ho hg _
        have RR := owns_push (z := (x : Int)) (N := h.length + 1) hsz2 (l := h) HO2.out HB2.out ho hg rfl
        have HB4 : Below W.heap.size W w4 := HBR.out.trans (RR.2.mono HBR.out.size)
        have HRX := HREC.out x v2 w4 (HBW.out.trans (HB4.mono HBW.out.size)) (Sl.own (by rw [show h.length + 1 = (h ++ [(x : Int)]).length by simp] at RR; exact RR.1))
        have HB5 : Hid (Below W.heap.size W w4) := HB4
        obtain ⟨vo, vc, hv2⟩ := owns_form ho
        subst hv2
        clear ho hg RR HB4 HO2 HB2
        generalize mdF n f k leF t (h ++ [(x : Int)]) = ma at *
        generalize mdF n f k ltF t (h ++ [(x : Int)]) = mb at *
        have HAY : Hid (SA (x + 1) = SA x + ma) := HAX
        have HBY : Hid (SB (x + 1) = SB x + mb) := HBX
        have m1 : 0 ≤ SA x + ma := by omega
        have m2 : SA x + ma ≤ 1000000 := by omega
        have m3 : 0 ≤ SB x + mb := by omega
        have m4 : SB x + mb ≤ 1000000 := by omega
        clear HAX HBX a3 a4 b3 b4
        go_wp2_with fail
        refine HRX.mono ?_
        rintro e w5 ⟨rfl, hb5⟩
        have HB6 : Hid (Below W.heap.size W w5) := HB5.out.trans (hb5.mono HB5.out.size)
        clear HRX hb5 HB5
        go_wp2
        go_roundw
        case rel => exact ⟨x + 1, by omega, by go_num, by rw [HAY.out], by rw [HBY.out], HB6.out⟩
        case measure => simp [intOf]; omega
      · have hxe : k = x := by omega
        subst hxe
        clear hlt hx
        go_wp2
        go_ret2
        exact ⟨rfl, HBR.out⟩

end Go.Proofs.YtcmemhdlendlkaaDoor
