/- named.Parts. -/
import Derived.Test.YtmffbaclgbmnbaaNpi
import Derived.Test.YtmffbaclgbmnbaaTwF
import Derived.Test.YtmffbaclgbmnbaaTw6
import Derived.Test.YtmffbaclgbmnbaaFrN
import Derived.Maps.OwnIn
import Derived.Sort.CutIn
namespace Go.Proofs.Ytmffbaclgbmnbaa
open Go.RowKit Go.Shelf
attribute [local go_sem] Oper.semAt_some

def prO (m : List (List Int)) : List (List Int) := if evE m = 0 then (pFold m.length m (ords m.length m.length [])).ords else []
def prM (m : List (List Int)) : List Int := if evE m = 0 then (pFold m.length m (ords m.length m.length [])).many else []

theorem evE_sq {m : List (List Int)} (h : evE m = 0) : Sq0 m := by
  unfold evE at h
  by_cases h1 : cntE m ≠ 0
  · rw [if_pos h1] at h; exact absurd h h1
  · exact sq0_ok (by omega)

theorem handF_below (N0 : Nat) (W0 W : World) (S : Nat → Prop) (x : List Int) (vs : Array Value) (W' : World) (h : HandF N0 W0 W S x vs) (hb : Below W.heap.size W W') : HandF N0 W0 W' S x vs := by
  obtain ⟨v, h1, h2, h3, h4, h5, h6⟩ := h
  exact ⟨v, h1, owns_below h2 hb (Nat.le_refl _), h3, h4, Nat.le_trans h5 hb.size, fun b cur t f hc => by
    have := h6 b cur t f hc
    exact (hb.block b (Array.getElem?_eq_some_iff.1 this).1).trans this⟩

theorem handF_put (N0 : Nat) (W0 W : World) (S : Nat → Prop) (x : List Int) (vs : Array Value) (l : Nat) (r : Loop) (o : Obj) (h : HandF N0 W0 W S x vs) (hl : W.heap[l]? = some (.loop r)) : HandF N0 W0 (W.putObj l o) S x vs := by
  obtain ⟨v, h1, h2, h3, h4, h5, h6⟩ := h
  refine ⟨v, h1, ownsT_putObj h2 _ hl, h3, h4, by simpa using h5, fun b cur t f hc => ?_⟩
  have := h6 b cur t f hc
  have hne : b ≠ l := fun e => by rw [e, hl] at this; cases this
  exact (World.putObj_heap_other (k := b) (r := l) hne).trans this

theorem nil_no {l : List Nat} (h : l = []) : ∀ i, ¬ i ∈ l := fun i hi => by rw [h] at hi; cases hi

/-- While rows are copied: the box of the copy. -/
def BI (w1 : World) (s6 n : Nat) (m : List (List Int)) (k : Nat) (wr : World) : Prop :=
  ∃ g c rv, wr.heap[s6]? = some (.cells #[rv] 24 (0, 0)) ∧ OM (s6 + 1) g c k n wr rv (m.take k) ∧ Below s6 w1 wr

/-- A row copied. -/
def C1 (wa : World) (n : Nat) (r : List Int) (gk ck : Nat) (w' : World) : Prop := w'.ownsRow wa.heap.size 3 1 (.slice (some ⟨gk, 0, none⟩) n ck) n (ints r) ∧ Below wa.heap.size wa w'

/-- Appended. -/
def C3 (w1 : World) (s6 n : Nat) (m : List (List Int)) (k : Nat) (rv v' : Value) (w' : World) : Prop := w'.heap[s6]? = some (.cells #[rv] 24 (0, 0)) ∧ ∃ g c, OM (s6 + 1) g c k n w' v' (m.take k) ∧ Below s6 w1 w'

/-- How far the copy of a row is. -/
structure I8 (wa w1 : World) (n : Nat) (m : List (List Int)) (k : Nat) (r : List Int) (rv src : Value) (b0 b1 b2 b3 b4 b5 : Bool) (x22 x23 x24 x25 x26 : Value) (w' : World) : Prop where
  e0 : b0 = true → x22 = rv
  e1 : b1 = true → x23 = src
  d3 : b3 = true → b2 = true
  d4 : b4 = true → b3 = true ∧ b0 = true
  d5 : b5 = true → b4 = true
  s0 : b2 = false → w' = wa.drew
  s1 : b2 = true → b3 = false → ∃ gk ck, x24 = .slice (some ⟨gk, 0, none⟩) n ck ∧ C1 wa n r gk ck w'
  s2 : b3 = true → b4 = false → ∃ gk ck wq, x24 = .slice (some ⟨gk, 0, none⟩) n ck ∧ C1 wa n r gk ck wq ∧ w' = wq.alloc (.cells #[x24] 22) ∧ x25 = .slice (some ⟨wq.heap.size, 0, none⟩) 1 1
  s3 : b4 = true → b5 = false → C3 w1 w1.heap.size n m (k + 1) rv x26 w'
  s4 : b5 = true → BI w1 w1.heap.size n m (k + 1) w'

theorem I8.box {wa w1 : World} {n : Nat} {m : List (List Int)} {k : Nat} {r : List Int} {rv src : Value} {b0 b1 b2 b3 b4 b5 : Bool} {x22 x23 x24 x25 x26 : Value} {w' : World} (h : I8 wa w1 n m k r rv src b0 b1 b2 b3 b4 b5 x22 x23 x24 x25 x26 w')
    (hb : wa.heap[w1.heap.size]? = some (.cells #[rv] 24 (0, 0))) (h5 : b5 = false) : w'.heap[w1.heap.size]? = some (.cells #[rv] 24 (0, 0)) := by
  have hlt := (Array.getElem?_eq_some_iff.1 hb).1
  cases h2 : b2 with
  | false => rw [h.s0 h2]; exact hb
  | true =>
    cases h3 : b3 with
    | false =>
      obtain ⟨gk, ck, _, hc⟩ := h.s1 h2 h3
      exact (hc.2.block _ hlt).trans hb
    | true =>
      cases h4 : b4 with
      | false =>
        obtain ⟨gk, ck, wq, _, hc, hw, _⟩ := h.s2 h3 h4
        rw [hw]
        exact (Below.heap_alloc _ _ _ (by have := hc.2.size; omega)).trans ((hc.2.block _ hlt).trans hb)
      | true => exact (h.s3 h4 h5).1

theorem C3.store {w1 w' : World} {n : Nat} {m : List (List Int)} {k : Nat} {rv v' : Value} (h : C3 w1 w1.heap.size n m k rv v' w') : BI w1 w1.heap.size n m k (w'.setCell ⟨w1.heap.size, 0, none⟩ v') := by
  obtain ⟨h1, g, c, h2, h3⟩ := h
  have hoth : ∀ b, b ≠ w1.heap.size → (w'.setCell ⟨w1.heap.size, 0, none⟩ v').heap[b]? = w'.heap[b]? := fun b hb => Below.heap_setCell _ _ _ _ hb
  refine ⟨g, c, v', by simp [World.setCell, Array.getElem?_modify, h1], h2.keep (fun b hb => hoth b (by have := (h2.lt b hb).1; omega)), h3.trans ⟨rfl, rfl, rfl, by simp [World.setCell], fun b hb => hoth b (by omega)⟩⟩

/-- How far the two lists' growth is. -/
structure I15 (w3 : World) (s bn : Nat) (ov mv v : Value) (z : Int) (K K' : Nat) (vs ms : List Value) (b0 b1 b2 b3 b4 b5 b6 b7 b8 b9 : Bool) (x41 x42 x43 x44 x45 x46 x47 x48 : Value) (w' : World) : Prop where
  e0 : b0 = true → x41 = ov
  e1 : b1 = true → x42 = v
  e4 : b4 = true → x45 = mv
  e5 : b5 = true → x46 = .int .i64 z
  d3 : b3 = true → b0 = true ∧ b2 = true
  d7 : b7 = true → b4 = true ∧ b6 = true
  d8 : b8 = true → b3 = true
  d9 : b9 = true → b7 = true
  A : RA (bn + 1) w3.heap.size s 22 24 ov v K vs w' b2 b3 b8 x43 x44
  B : RA (bn + 1) w3.heap.size (s + 1) 3 22 mv (.int .i64 z) K' ms w' b6 b7 b9 x47 x48
  O : RO w3.heap.size s (s + 1) ov mv w3 w'

theorem one_at {w : World} {q : Nat} {x : Value} {t : TypeId} (h : w.heap[q]? = some (.cells #[x] t (0, 0))) : ∀ j u, [x][j]? = some u → w.cell? ((⟨q, 0, none⟩ : Addr).add j) = some u := by
  intro j u hj
  rcases j with _ | j
  · show World.cell? _ ⟨q, 0, none⟩ = _
    simp only [List.getElem?_cons_zero, Option.some.injEq] at hj
    subst hj
    exact oq_cell h
  · simp at hj

theorem no_false {b : Bool} (h : b = true → False) : b = false := by cases b with | false => rfl | true => exact (h rfl).elim

set_option maxRecDepth 100000 in
set_option maxHeartbeats 8000000 in
theorem parts_any (m : List (List Int)) (v : Value) (w : World) (hv : Mat w.heap.size 22 3 w v m) :
    Calls Try.prog 6 #[v] w fun e w' => ∃ x y, e = .returned (.tuple #[x, y, .int .i64 (evE m)]) ∧ FrN w.heap.size w' x (prO m) ∧ w'.ownsRow w.heap.size 3 1 y (prM m).length (ints (prM m)) ∧ Below w.heap.size w w' := by
  obtain ⟨i0, hi0, hz0, hz1, hz2⟩ := info_parts Try.info22
  obtain ⟨i3, hi3, hz30, hz31, hz32⟩ := info_parts Try.info3
  obtain ⟨po, pc, hvv, hlc, hcm⟩ := mat_open hv
  subst hvv
  have HV : Hid (Mat w.heap.size 22 3 w (.slice po m.length pc) m) := hv
  obtain ⟨W0, hW0⟩ : ∃ W0, W0 = (w.alloc (.cells #[.slice none 0 0] 24)).alloc (.cells #[.slice none 0 0] 22) := ⟨_, rfl⟩
  have HW0 : Hid (W0 = (w.alloc (.cells #[.slice none 0 0] 24)).alloc (.cells #[.slice none 0 0] 22)) := hW0
  have hs0 : W0.heap.size = w.heap.size + 2 := by rw [hW0, oSize_alloc, oSize_alloc]
  have hb0 : Below w.heap.size w W0 := by rw [hW0]; exact (oAlloc_keep _ _).trans ((oAlloc_keep _ _).mono (by simp))
  have a1 : W0.heap[w.heap.size]? = some (.cells #[.slice none 0 0] 24 (0, 0)) := by rw [hW0]; exact ((oAlloc_keep _ _).block _ (by simp)).trans (oAlloc_new _ _)
  have a2 : W0.heap[w.heap.size + 1]? = some (.cells #[.slice none 0 0] 22 (0, 0)) := by
    rw [hW0]; have := oAlloc_new (w.alloc (.cells #[.slice none 0 0] 24)) (.cells #[.slice none 0 0] 22); rwa [oSize_alloc] at this
  have HCS : Hid (Calls Try.prog 10 #[.slice po m.length pc] W0 fun e w' => e = .returned (.int .i64 (evE m)) ∧ Below W0.heap.size W0 w') :=
    checkSquareN_any m _ W0 ((hv.below hb0 (Nat.le_refl _)).any (by omega) |>.more (Nat.le_refl _))
  clear hv hW0
  refine callsIn_wide (n := 0).1 ?_
  refine callsIn_of_wp_marks Try.func6 rfl trivial ?_ rfl
  simp only [Try.ntmps6, List.size_toArray, List.length_cons, List.length_nil, Nat.reduceAdd, Nat.reduceSub, Array.replicate_succ, Array.replicate_zero, List.push_toArray, List.append_toArray, List.nil_append, List.cons_append]
  gi_wp2_with fail
  refine ⟨trivial, rfl, ?_⟩
  rw [← HW0.out]
  refine (callsIn_wide.2 HCS.out).mono ?_
  rintro e w1 ⟨rfl, hb1⟩
  have hs1 := hb1.size
  have b0 : w1.heap[w.heap.size]? = some (.cells #[.slice none 0 0] 24 (0, 0)) := (hb1.block _ (by omega)).trans a1
  have b1 : w1.heap[w.heap.size + 1]? = some (.cells #[.slice none 0 0] 22 (0, 0)) := (hb1.block _ (by omega)).trans a2
  have hbw : Below w.heap.size w w1 := hb0.trans (hb1.mono (by omega))
  have HB0 : Hid (w1.heap[w.heap.size]? = some (.cells #[.slice none 0 0] 24 (0, 0))) := b0
  have HB1 : Hid (w1.heap[w.heap.size + 1]? = some (.cells #[.slice none 0 0] 22 (0, 0))) := b1
  have HBW : Hid (Below w.heap.size w w1) := hbw
  have HS1 : Hid (w.heap.size + 2 ≤ w1.heap.size) := by show _ ≤ _; omega
  have d0 := oq_cell b0
  have d1 := oq_cell b1
  have f0 := oq_frozen b0
  have f1 := oq_frozen b1
  clear hb1 hs1 b0 b1 hbw HCS HW0 hb0 hs0 a1 a2 hlc hcm
  by_cases hq : evE m = 0
  · have hM := evE_sq hq
    have HM : Hid (Sq0 m) := hM
    have HPO : Hid (prO m = (pFold m.length m (ords m.length m.length [])).ords) := if_pos hq
    have HPM : Hid (prM m = (pFold m.length m (ords m.length m.length [])).many) := if_pos hq
    have HQ : Hid (evE m = 0) := hq
    have h6 := hM.n6
    have hn1 := hM.n1
    have HSN : Hid (SqN m.length m) := ⟨rfl, hM.len, hM.bd⟩
    rw [hq]
    clear hq hM
    obtain ⟨W6, hW6⟩ : ∃ W6, W6 = w1.alloc (.cells #[.slice none 0 0] 24) := ⟨_, rfl⟩
    have HW6 : Hid (W6 = w1.alloc (.cells #[.slice none 0 0] 24)) := hW6
    have HI0 : Hid (BI w1 w1.heap.size m.length m 0 W6) := by
      rw [hW6]
      exact ⟨fun _ => 0, fun _ => 0, .slice none 0 0, oAlloc_new _ _, ⟨rfl, fun i hi => by omega, World.ownsRow_nil _ _ _ _, fun i hi => by omega, fun i j hi => by omega⟩, oAlloc_keep _ _⟩
    clear hW6
    gi_wp2
    rw [← HW6.out]
    gi_loopw [8, 18] (fun _ i wr => ∃ k : Nat, k ≤ m.length ∧ i = .int .i64 k ∧ BI w1 w1.heap.size m.length m k wr) (fun _ i _ => m.length - (intOf i).toNat)
    case atStart => exact ⟨0, Nat.zero_le _, rfl, HI0.out⟩
    case round =>
      obtain ⟨k, hk, rfl, hbi⟩ := hrel
      by_cases hlt : k < m.length
      · obtain ⟨g, c, rv, k1, k2, k3⟩ := hbi
        obtain ⟨wa, rfl⟩ : ∃ wa, wa = wr := ⟨wr, rfl⟩
        have K1 : Hid (wa.heap[w1.heap.size]? = some (.cells #[rv] 24 (0, 0))) := k1
        have K2 : Hid (OM (w1.heap.size + 1) g c k m.length wa rv (m.take k)) := k2
        have K3 : Hid (Below w1.heap.size w1 wa) := k3
        have hba : Below w.heap.size w wa := HBW.out.trans (k3.mono HBW.out.size)
        obtain ⟨vb, voo, vcp, rw', hvs, _, hvcell, hrv⟩ := mat_cell (HV.out.below hba (Nat.le_refl _)) hlt
        simp only [Value.slice.injEq] at hvs
        obtain ⟨rfl, -, rfl⟩ := hvs
        have hrl := HM.out.len k hlt
        have HCL : Hid (Calls Try.prog 11 #[rw'] wa.drew fun e w' => ∃ gk ck, e = .returned (.slice (some ⟨gk, 0, none⟩) m.length ck) ∧ w'.ownsRow wa.heap.size 3 1 (.slice (some ⟨gk, 0, none⟩) m.length ck) m.length (ints (m.getD k [])) ∧ Below wa.heap.size wa w') :=
          (clone_any _ (m.getD k []) _ wa.drew hrv (by omega)).mono (by
            rintro e w' ⟨u, rfl, h2, h3⟩
            rw [hrl] at h2
            rcases h2.2 with ⟨_, h0⟩ | ⟨gk, ck, cur, rfl, _⟩
            · omega
            · exact ⟨gk, ck, rfl, h2, ⟨h3.os, h3.tape, h3.output, h3.size, h3.block⟩⟩)
        obtain ⟨uo, uc, hue, _, _⟩ := sl_open hrv
        rw [hrl] at hue
        subst hue
        have HRL : Hid ((m.getD k []).length = m.length) := hrl
        have HTK : Hid (m.take (k + 1) = m.take k ++ [m.getD k []]) := by
          show _ = _
          rw [List.take_succ_eq_append_getElem hlt]
          simp [hlt]
        obtain ⟨xo, xc, hx⟩ : ∃ xo xc, rv = .slice xo k xc := owns_form k2.out
        subst hx
        have c6 : wa.cell? ⟨w1.heap.size, 0, none⟩ = some (.slice xo k xc) := oq_cell k1
        clear hrv hrl k1 k2 k3 hba
        generalize m.getD k [] = r at *
        have hsl := K2.out.out
        have HOUT : Hid (wa.ownsRow (w1.heap.size + 1) 22 1 (.slice xo k xc) k (rowsV g c m.length k)) := hsl
        have HSS : Hid (w1.heap.size + 1 ≤ wa.heap.size) := (Array.getElem?_eq_some_iff.1 K1.out).1
        have HAPP : Hid (∀ gk ck wq v2 w3, C1 wa m.length r gk ck wq → w3.ownsRow (w1.heap.size + 1) 22 1 v2 (k + 1) (rowsV g c m.length k ++ [.slice (some ⟨gk, 0, none⟩) m.length ck]) → (wq.alloc (.cells #[.slice (some ⟨gk, 0, none⟩) m.length ck] 22)).grownBy w3 (Value.slice xo k xc).ownBlock → C3 w1 w1.heap.size m.length m (k + 1) (.slice xo k xc) v2 w3) := fun gk ck wq v2 w3 hc ho3 hg3 => by
          have hss := HSS.out
          have hq := hc.2.size
          refine ⟨?_, updN g k gk, updN c k ck, ?_, ?_⟩
          · refine (hg3.block _ (by simp; omega) (fun e => ?_)).trans ((Below.heap_alloc _ _ _ (by omega)).trans ((hc.2.block _ (by omega)).trans K1.out))
            have := (HOUT.out.lt _ e.symm).1
            omega
          · rw [HTK.out]
            exact K2.out.push HSS.out HRL.out hc.1 hc.2 ho3 hg3
          · refine (K3.out.trans (hc.2.mono K3.out.size)).trans ?_
            refine ⟨hg3.os, hg3.tape, hg3.output, by have := hg3.size; simp at this; omega, fun b hb => (hg3.block b (by simp; omega) (fun e => ?_)).trans (Below.heap_alloc _ _ _ (by omega))⟩
            have := (HOUT.out.lt _ e.symm).1
            omega
        clear hsl
        gi_upto_region 8 with fail
        refine wpIn_region_wd (fun _ => True) (by kernel_rfl) (no_defer (by kernel_rfl)) (fun a w h => h) ?_
        refine wpAnyH_inv (fun L a w' => ∃ b0 b1 b2 b3 b4 b5 x22 x23 x24 x25 x26, L = #[b0, b1, b2, b3, b4, b5] ∧ a = { tmps := #[.slice (some ⟨vb, voo, none⟩) m.length pc, undef, .pointer (some ⟨w.heap.size, 0, none⟩), .pointer (some ⟨w.heap.size + 1, 0, none⟩), .int .i64 0, .int .i64 0, .pointer (some ⟨w1.heap.size, 0, none⟩), undef, .slice uo m.length uc, undef, undef, .slice (some ⟨vb, voo, none⟩) m.length pc, .int .i64 0, .int .i64 0, .bool false, undef, .slice (some ⟨vb, voo, none⟩) m.length pc, .int .i64 m.length, .int .i64 k, .bool true, .pointer (some ⟨vb, voo + k, none⟩), .slice uo m.length uc, x22, x23, x24, x25, x26, u27, undef, undef, undef, undef, undef, undef, undef, undef, undef, undef, undef, undef, undef, undef, undef, undef, undef, undef, undef, undef, undef, undef, undef], defers := [] } ∧ I8 wa w1 m.length m k r (.slice xo k xc) (.slice uo m.length uc) b0 b1 b2 b3 b4 b5 x22 x23 x24 x25 x26 w') ?step ?fin _ _ _ _ ?init ?cnt
        case cnt => decide
        case init => exact ⟨false, false, false, false, false, false, _, _, _, _, _, rfl, rfl, ⟨fun h => (by cases h), fun h => (by cases h), fun h => (by cases h), fun h => (by cases h), fun h => (by cases h), fun _ => rfl, fun h => (by cases h), fun h => (by cases h), fun h => (by cases h), fun h => (by cases h)⟩⟩
        case step =>
          rintro L a w' i ⟨b0, b1, b2, b3, b4, b5, x22, x23, x24, x25, x26, rfl, rfl, hI⟩ hi
          have hi2 := List.mem_filter.1 hi
          have hi1 := List.mem_range.1 hi2.1
          have hrd := hi2.2
          clear hi hi2
          have hcase : i = 0 ∨ i = 1 ∨ i = 2 ∨ i = 3 ∨ i = 4 ∨ i = 5 := by
            simp only [List.size_toArray, List.length_cons, List.length_nil] at hi1
            omega
          clear hi1
          rcases hcase with rfl | rfl | rfl | rfl | rfl | rfl
          · simp [Region.binds] at hrd
            subst hrd
            have h5 : b5 = false := by
              cases h : b5 with
              | false => rfl
              | true => have := (hI.d4 (hI.d5 h)).2; cases this
            have cb := oq_cell (hI.box K1.out h5)
            refine wpOp_hid rfl rfl (fun K' hK => ?_)
            go_simp
            refine hK.out _ _ ⟨true, b1, b2, b3, b4, b5, _, _, _, _, _, rfl, rfl, ⟨fun _ => rfl, hI.e1, hI.d3, fun h => ⟨(hI.d4 h).1, rfl⟩, hI.d5, hI.s0, hI.s1, hI.s2, hI.s3, hI.s4⟩⟩
          · simp [Region.binds] at hrd
            subst hrd
            refine wpOp_hid rfl rfl (fun K' hK => ?_)
            go_simp
            refine hK.out _ _ ⟨b0, true, b2, b3, b4, b5, _, _, _, _, _, rfl, rfl, ⟨hI.e0, fun _ => rfl, hI.d3, hI.d4, hI.d5, hI.s0, hI.s1, hI.s2, hI.s3, hI.s4⟩⟩
          · simp [Region.binds] at hrd
            obtain ⟨rfl, rfl⟩ := hrd
            have h3 : b3 = false := by
              cases h : b3 with
              | false => rfl
              | true => have := hI.d3 h; cases this
            have h4 : b4 = false := by
              cases h : b4 with
              | false => rfl
              | true => have := (hI.d4 h).1; rw [h3] at this; cases this
            have h5 : b5 = false := by
              cases h : b5 with
              | false => rfl
              | true => have := hI.d5 h; rw [h4] at this; cases this
            have hw := hI.s0 rfl
            have hx := hI.e1 rfl
            subst hw hx h3 h4 h5
            refine wpOp_hid rfl rfl (fun K' hK => ?_)
            go_simp
            refine HCL.out.mono ?_
            rintro e w' ⟨gk, ck, rfl, h1, h2⟩
            dsimp only
            refine hK.out _ _ ⟨b0, true, true, false, false, false, _, _, _, _, _, rfl, rfl, ⟨hI.e0, fun _ => rfl, fun _ => rfl, fun h => (by cases h), fun h => (by cases h), fun h => (by cases h), fun _ _ => ⟨gk, ck, rfl, h1, h2⟩, fun h => (by cases h), fun h => (by cases h), fun h => (by cases h)⟩⟩
          · simp [Region.binds] at hrd
            obtain ⟨rfl, rfl⟩ := hrd
            have h4 : b4 = false := by
              cases h : b4 with
              | false => rfl
              | true => have := (hI.d4 h).1; cases this
            have h5 : b5 = false := by
              cases h : b5 with
              | false => rfl
              | true => have := hI.d5 h; rw [h4] at this; cases this
            obtain ⟨gk, ck, rfl, hc⟩ := hI.s1 rfl rfl
            subst h4 h5
            refine wpOp_hid rfl rfl (fun K' hK => ?_)
            go_simp
            refine hK.out _ _ ⟨b0, b1, true, true, false, false, _, _, _, _, _, rfl, rfl, ⟨hI.e0, hI.e1, fun _ => rfl, fun h => (by cases h), fun h => (by cases h), fun h => (by cases h), fun _ h => (by cases h), fun _ _ => ⟨gk, ck, w', rfl, hc, rfl, rfl⟩, fun h => (by cases h), fun h => (by cases h)⟩⟩
          · simp [Region.binds] at hrd
            obtain ⟨rfl, rfl, rfl, rfl⟩ := hrd
            have h5 : b5 = false := by
              cases h : b5 with
              | false => rfl
              | true => have := hI.d5 h; cases this
            obtain ⟨gk, ck, wq, rfl, hc, rfl, rfl⟩ := hI.s2 rfl rfl
            have hx := hI.e0 rfl
            subst hx h5
            have hss := HSS.out
            have hqs := hc.2.size
            refine wpOp_hid rfl rfl (fun K' hK => ?_)
            refine op_append_own (.tmp 22) (.tmp 25) 24 rfl (w1.heap.size + 1) 22 i0 (.slice none 0 0) 1 24 Try.underlying24 hi0 hz0 hz1 hz2 rfl (by decide) (.slice xo k xc) k (rowsV g c m.length k) (by simp [Act.eval]) ((owns_below HOUT.out hc.2 (Nat.le_refl _)).alloc _) ⟨wq.heap.size, 0, none⟩ 1 1 [.slice (some ⟨gk, 0, none⟩) m.length ck] (by simp [Act.eval]) rfl (one_new _ _ _) (one_slice _ _ _) (by unfold maxLen; omega) (by omega) (by simp; omega) ?_
            intro v2 w3 ho3 hg3 _
            refine hK.out _ _ ⟨true, b1, true, true, true, false, _, _, _, _, v2, rfl, rfl, ⟨fun _ => rfl, hI.e1, fun _ => rfl, fun _ => ⟨rfl, rfl⟩, fun h => (by cases h), fun h => (by cases h), fun _ h => (by cases h), fun _ h => (by cases h), fun _ _ => HAPP.out gk ck wq v2 w3 hc ho3 hg3, fun h => (by cases h)⟩⟩
          · simp [Region.binds] at hrd
            obtain ⟨rfl, rfl, rfl, rfl, rfl, rfl, -⟩ := hrd
            have h3 := hI.s3 rfl rfl
            obtain ⟨yo, yc, hy⟩ : ∃ yo yc, x26 = .slice yo (k + 1) yc := by
              obtain ⟨_, g', c', ho, _⟩ := h3
              exact owns_form ho.out
            subst hy
            have cb := oq_cell h3.1
            have cf := oq_frozen h3.1
            refine wpOp_hid rfl rfl (fun K' hK => ?_)
            go_simp
            refine hK.out _ _ ⟨true, true, true, true, true, true, _, _, _, _, _, rfl, rfl, ⟨hI.e0, hI.e1, fun _ => rfl, fun _ => ⟨rfl, rfl⟩, fun _ => rfl, fun h => (by cases h), fun _ h => (by cases h), fun _ h => (by cases h), fun _ h => (by cases h), fun _ => h3.store⟩⟩
        case fin =>
          rintro L a w' ⟨b0, b1, b2, b3, b4, b5, x22, x23, x24, x25, x26, rfl, rfl, hI⟩ hr
          have hm := nil_no hr
          clear hr
          have h0 : b0 = true := by
            cases b0 with
            | true => rfl
            | false => exact absurd (List.mem_filter.2 ⟨List.mem_range.2 (by decide), by simp [Region.binds]⟩) (hm 0)
          subst h0
          have h1 : b1 = true := by
            cases b1 with
            | true => rfl
            | false => exact absurd (List.mem_filter.2 ⟨List.mem_range.2 (by decide), by simp [Region.binds]⟩) (hm 1)
          subst h1
          have h2 : b2 = true := by
            cases b2 with
            | true => rfl
            | false => exact absurd (List.mem_filter.2 ⟨List.mem_range.2 (by decide), by simp [Region.binds]⟩) (hm 2)
          subst h2
          have h3 : b3 = true := by
            cases b3 with
            | true => rfl
            | false => exact absurd (List.mem_filter.2 ⟨List.mem_range.2 (by decide), by simp [Region.binds]⟩) (hm 3)
          subst h3
          have h4 : b4 = true := by
            cases b4 with
            | true => rfl
            | false => exact absurd (List.mem_filter.2 ⟨List.mem_range.2 (by decide), by simp [Region.binds]⟩) (hm 4)
          subst h4
          have h5 : b5 = true := by
            cases b5 with
            | true => rfl
            | false => exact absurd (List.mem_filter.2 ⟨List.mem_range.2 (by decide), by simp [Region.binds]⟩) (hm 5)
          subst h5
          have HN : Hid (BI w1 w1.heap.size m.length m (k + 1) w') := hI.s4 rfl
          clear hI hm
          dsimp only [Nrm]
          gi_wp2
          go_roundw
          case rel => exact ⟨k + 1, by omega, by go_num, HN.out⟩
          case measure => simp [intOf]; omega
      · have hke : k = m.length := by omega
        subst hke
        obtain ⟨g, c, rv, k1, k2, k3⟩ := hbi
        rw [List.take_length] at k2
        obtain ⟨wa, rfl⟩ : ∃ wa, wa = wr := ⟨wr, rfl⟩
        obtain ⟨n, hn⟩ : ∃ n, n = m.length := ⟨_, rfl⟩
        have HNN : Hid (n = m.length) := hn
        rw [← hn] at k2 HSN HPO HPM h6 hn1 ⊢
        have hs2 := HS1.out
        have hl6 : w1.heap.size < wa.heap.size := (Array.getElem?_eq_some_iff.1 k1).1
        have hOL : ∀ b, (rv.ownBlock = some b ∨ ∃ i, i < n ∧ b = g i) → b < wa.heap.size := fun b hb => (k2.lt b hb).2
        have HOL : Hid (∀ b, (rv.ownBlock = some b ∨ ∃ i, i < n ∧ b = g i) → b < wa.heap.size) := hOL
        obtain ⟨WN, hWN⟩ : ∃ WN, WN = wa.alloc (.cells #[.int .i64 n] 3) := ⟨_, rfl⟩
        have hsN : WN.heap.size = wa.heap.size + 1 := by rw [hWN, oSize_alloc]
        have hbN : Below wa.heap.size wa WN := by rw [hWN]; exact oAlloc_keep _ _
        have n1 : WN.heap[wa.heap.size]? = some (.cells #[.int .i64 n] 3 (0, 0)) := by rw [hWN]; exact oAlloc_new _ _
        have HSZ : Hid (WN.heap.size = wa.heap.size + 1) := hsN
        have HL6 : Hid (w1.heap.size < wa.heap.size) := hl6
        have hbx : ∀ b, b < w1.heap.size → WN.heap[b]? = w1.heap[b]? := fun b hb => (hbN.block b (by omega)).trans (k3.block b hb)
        have HI0' : Hid (NI w WN w1.heap.size wa.heap.size n m g c rv (fun b => b = wa.heap.size) [] WN) := by
          refine ⟨fun b hb => by omega, Nat.le_refl _, hbN.os.trans (k3.os.trans HBW.out.os), hbN.tape.trans (k3.tape.trans HBW.out.tape), hbN.output.trans (k3.output.trans HBW.out.output), fun b hb => (hbx b (by omega)).trans (HBW.out.block b hb), (hbN.block _ hl6).trans k1, k2.keep (fun b hb => hbN.block b (hOL b hb)), .slice none 0 0, .slice none 0 0, [], ?_⟩
          exact ⟨(hbx _ (by omega)).trans HB0.out, (hbx _ (by omega)).trans HB1.out, rfl, World.ownsRow_nil _ _ _ _, World.ownsRow_nil _ _ _ _, fun i hi => absurd hi (by simp [pFold]), fun b hb => by simp [Value.ownBlock] at hb, fun b hb => by simp [Value.ownBlock] at hb⟩
        have HSQ := orders_seqF n wa.heap.size WN h6 (oq_cell n1)
        have HWN : Hid (WN = wa.alloc (.cells #[.int .i64 n] 3)) := hWN
        clear hWN hsN hbN n1 hbx k1 k2 k3 hOL hl6 hs2 hlt hk HI0 HW6 hn d0 d1 f0 f1
        gi_wp2_with (refine ⟨trivial, rfl, ?_⟩; gi_at_call 12; refine (callsIn_wide.2 (ordsIt_any _ _)).mono ?_; rintro e w' ⟨rfl, rfl⟩)
        rw [← HWN.out]
        clear HWN
        refine range_f (R := HandF WN.heap.size) (cs := ords n n []) (T := fun _ => False) (S0 := fun b => b = wa.heap.size) (gf := 18) (lb := #[.pointer (some ⟨wa.heap.size, 0, none⟩)]) rfl (enters_of Try.func18 (by kernel_rfl) rfl) HSQ (fun b hb => by have := HSZ.out; omega)
          (fun W0 W' S x vs ⟨v, h1, _⟩ => by rw [h1]; rfl) (handF_below _) (handF_put _)
          (fun S pre W' => NI w WN w1.heap.size wa.heap.size n m g c rv S pre W')
          (fun c S pre W' => False)
          (fun S S' pre W' W'' h hc hs => h.stab HS1.out HL6.out HSZ.out HOL.out hc hs) (fun c S S' pre W' W'' h hc hs => h) HI0'.out
          (fun vs a' W' => ∃ v, vs = #[v] ∧ a' = { tmps := #[.slice po n pc, undef, .pointer (some ⟨w.heap.size, 0, none⟩), .pointer (some ⟨w.heap.size + 1, 0, none⟩), .int .i64 0, .int .i64 0, .pointer (some ⟨w1.heap.size, 0, none⟩), undef, u8, v, undef, .slice po n pc, .int .i64 0, .int .i64 0, .bool false, undef, .slice po n pc, .int .i64 n, .int .i64 n, .bool false, u20, u21, u22, u23, u24, u25, u26, u27, .slice po n pc, .int .i64 n, .func (.func 18) #[] #[.pointer (some ⟨wa.heap.size, 0, none⟩)], v, undef, undef, undef, undef, undef, undef, undef, undef, undef, undef, undef, undef, undef, undef, undef, undef, undef, undef, undef], defers := [] })
          (fun vs a' W' l r o h _ => h) ?assign ?body (fun h => h) ?done ?stop
        case assign =>
          rintro S x vs W0 W' K ⟨v, rfl, h2, h3, h4⟩ hK
          gi_wp2
          exact hK _ _ (Below.refl _ _) ⟨v, rfl, rfl⟩
        case stop =>
          rintro c S pre W' hpre h
          exact h.elim
        case body =>
          rintro S pre x vs a' W1 hi hSD hSL hlt1 hdf hlp hpre ⟨S1, Wz, hi0, hh, hS1⟩ ⟨v, hvs', rfl⟩
          subst hvs'
          have hcm' : x ∈ ords n n [] := hpre.subset (by simp)
          obtain ⟨hio, hxl⟩ := ords_is n [] x ⟨by simp, by simp⟩ hcm'
          simp only [List.length_nil, Nat.zero_add] at hxl
          have HOD : Hid (Od n x) := ord_od hio hxl
          have hpm : ∀ o ∈ pre, Od n o := fun o ho => by
            have := ords_is n [] o ⟨by simp, by simp⟩ (hpre.subset (by simp [ho]))
            exact ord_od this.1 (by simpa using this.2)
          have HSQR : Hid (SqN n (pFold n m pre).rest) := pFold_sq HSN.out _ hpm
          have hlen := pFold_len n m pre
          have hpl : pre.length ≤ 46656 := by
            have q1 := hpre.length_le
            have q2 : (ords n n []).length ≤ 46656 := Nat.le_trans (ords_len h6 _ _) (Nat.le_trans (Nat.pow_le_pow_right (by decide) h6) (by decide))
            simp only [List.length_append, List.length_singleton] at q1
            omega
          have hK1 : (pFold n m pre).ords.length ≤ 46656 := by omega
          have hK2 : (pFold n m pre).many.length ≤ 46656 := by omega
          obtain ⟨ov, mv, vs, ht⟩ := hi.two
          have HNEW : Hid (∀ b, mv.ownBlock = some b → v.ownBlock ≠ some b) := hand_new hi0 ht hh
          obtain ⟨u, hu, hown, hB0, hN0, hBW, hkc⟩ := hh
          have hu' : v = u := by simpa using hu
          subst hu'
          rw [hxl] at hown
          have hsz := HSZ.out
          have hws := hi.size
          have hs1 := HS1.out
          have hl6 := HL6.out
          obtain ⟨lr, hlp⟩ := hlp
          obtain ⟨gv, cv, hvf⟩ : ∃ gv cv, v = .slice (some ⟨gv, 0, none⟩) n cv := by
            rcases hown.2 with ⟨_, h2⟩ | ⟨gv, cv, cur, h1, _⟩
            · omega
            · exact ⟨gv, cv, h1⟩
          subst hvf
          have hgv := hown.lt gv rfl
          have HVO : Hid (W1.ownsRow (wa.heap.size + 1) 3 1 (.slice (some ⟨gv, 0, none⟩) n cv) n (ints x)) := by
            refine ⟨hown.1, ?_⟩
            rcases hown.2 with h2 | ⟨g', cap, cur, h1, h2, r⟩
            · exact Or.inl h2
            · exact Or.inr ⟨g', cap, cur, h1, by omega, r⟩
          have HNOTS : Hid (∀ b, (Value.slice (some ⟨gv, 0, none⟩) n cv).ownBlock = some b → ¬ S b) := fun b hb hx => by
            simp only [Value.ownBlock, Option.some.injEq] at hb
            subst hb
            obtain ⟨cur, hcur⟩ := own_heap hown
            rcases (hS1 _).1 hx with hx | hx | hx
            · have := hB0 _ hx; omega
            · rw [hx, hdf] at hcur; cases hcur
            · rw [hx, hlp] at hcur; cases hcur
          have HSB : Hid (∀ b, S b → b < W1.heap.size) := fun b hx => by
            rcases (hS1 _).1 hx with hx | hx | hx
            · have := hB0 _ hx; omega
            · omega
            · omega
          have HSN1 : Hid (pFold n m (pre ++ [x]) = pStep n (pFold n m pre) x) := pFold_snoc _ _ _ _
          have HII : Hid (NI w WN w1.heap.size wa.heap.size n m g c rv S pre W1) := hi
          have HT : Hid (T2 w.heap.size wa.heap.size n (pFold n m pre) S W1 ov mv vs) := ht
          obtain ⟨G, cap, hrvf, _, _, _, _⟩ := hi.rest.form hn1
          subst hrvf
          have c6 : W1.cell? ⟨w1.heap.size, 0, none⟩ = some (.slice (some ⟨G, 0, none⟩) n cap) := oq_cell hi.box6
          have HRM : Hid (Calls Try.prog 13 #[.slice (some ⟨G, 0, none⟩) n cap, .slice (some ⟨gv, 0, none⟩) n cv] W1 fun e w' => e = .returned (.int .i64 (roomTo (pFold n m pre).rest x n)) ∧ ∃ q, w' = W1.drewN q) :=
            room_any _ g c n _ x _ _ W1 hn1 h6 hi.rest HSQR.out HOD.out (Sl.own hown)
          have HRB : Hid (0 ≤ roomTo (pFold n m pre).rest x n ∧ roomTo (pFold n m pre).rest x n ≤ 10000) := roomTo_bd HSQR.out.bd n
          clear hi hi0 hpre hown hB0 hN0 hBW hkc hS1 hcm' hdf hlp HSQ hSD hSL hio hxl hpm hlen hpl ht hgv hu
          obtain ⟨z, hz⟩ : ∃ z, z = roomTo (pFold n m pre).rest x n := ⟨_, rfl⟩
          have HZ : Hid (z = roomTo (pFold n m pre).rest x n) := hz
          rw [← hz] at HRM HRB
          have hzb := HRB.out
          clear hz
          gi_wp2_with fail
          refine ⟨trivial, rfl, ?_⟩
          refine (CallsIn.inRound _ (callsIn_wide.2 HRM.out)).mono ?_
          rintro e W2 ⟨rfl, q, hW2⟩
          have HD2 : Hid (W2 = W1.drewN q) := hW2
          have c6' : W2.cell? ⟨w1.heap.size, 0, none⟩ = some (.slice (some ⟨G, 0, none⟩) n cap) := by rw [hW2]; exact c6
          clear hW2 HRM c6
          by_cases hpos : 0 < z
          · have hp1 : decide (0 < z) = true := decide_eq_true hpos
            have hT2 : T2 w.heap.size wa.heap.size n (pFold n m pre) S W2 ov mv vs := by
              rw [HD2.out]
              exact HT.out.move (fun hx => by have := HII.out.sn _ hx; omega) (fun hx => by have := HII.out.sn _ hx; omega) (fun b _ _ _ => rfl) (fun b _ hx => hx)
            have HTK : Hid (Calls Try.prog 14 #[.slice (some ⟨G, 0, none⟩) n cap, .slice (some ⟨gv, 0, none⟩) n cv, .int .i64 z] W2 fun e w' => e = .returned (.tuple #[]) ∧ OM (w1.heap.size + 1) g c n n w' (.slice (some ⟨G, 0, none⟩) n cap) (takeTo (pFold n m pre).rest x z n) ∧ Wrt (fun b => ∃ i, i < n ∧ b = g i) W2 w') := by
              refine take_any _ g c n _ x z _ _ W2 hn1 h6 ?_ HSQR.out HOD.out ?_ ?_ (by omega) (fun i hi => by rw [HZ.out]; exact roomTo_le hi)
              · rw [HD2.out]; exact HII.out.rest.keep (fun _ _ => rfl)
              · rw [HD2.out]; exact Sl.own HVO.out
              · intro a l c' e i hi
                simp only [Value.slice.injEq, Option.some.injEq] at e
                obtain ⟨rfl, -, -⟩ := e
                have h1 := (HVO.out.lt gv rfl).1
                have h2 := HOL.out (g i) (.inr ⟨i, hi, rfl⟩)
                show gv ≠ g i
                omega
            have HT2 : Hid (T2 w.heap.size wa.heap.size n (pFold n m pre) S W2 ov mv vs) := hT2
            have HSTP : Hid (pFold n m (pre ++ [x]) = ⟨takeTo (pFold n m pre).rest x z n, (pFold n m pre).ords ++ [x], (pFold n m pre).many ++ [z]⟩) := by
              show _ = _
              rw [HSN1.out]
              unfold pStep
              rw [← HZ.out, if_pos hpos]
            clear hT2 hpos HSN1
            gi_wp2_with fail
            refine ⟨trivial, rfl, ?_⟩
            refine (CallsIn.inRound _ (callsIn_wide.2 HTK.out)).mono ?_
            rintro e w3 ⟨rfl, hom3, hwr⟩
            have HOM3 : Hid (OM (w1.heap.size + 1) g c n n w3 (.slice (some ⟨G, 0, none⟩) n cap) (takeTo (pFold n m pre).rest x z n)) := hom3
            have hgb : ∀ b, (b ≤ w1.heap.size ∨ wa.heap.size ≤ b) → w3.heap[b]? = W2.heap[b]? := fun b hb => hwr.block b (by
              rintro ⟨i, hi, rfl⟩
              have h1 := HOL.out (g i) (.inr ⟨i, hi, rfl⟩)
              have h2 := (hom3.lt (g i) (.inr ⟨i, hi, rfl⟩)).1
              omega)
            have ht3 : T2 w.heap.size wa.heap.size n (pFold n m pre) S w3 ov mv vs := HT2.out.move (fun hx => by have := HII.out.sn _ hx; omega) (fun hx => by have := HII.out.sn _ hx; omega) (fun b _ _ hb => hgb b (by omega)) (fun b _ hx => hx)
            have HGB : Hid (∀ b, (b ≤ w1.heap.size ∨ wa.heap.size ≤ b) → w3.heap[b]? = W1.heap[b]?) := fun b hb => (hgb b hb).trans (by rw [HD2.out]; rfl)
            have HW3 : Hid (w3.os = W1.os ∧ w3.tape = W1.tape ∧ w3.output = W1.output ∧ w3.heap.size = W1.heap.size) := by
              refine ⟨hwr.os.trans ?_, hwr.tape.trans ?_, hwr.output.trans ?_, hwr.size.trans ?_⟩ <;> rw [HD2.out] <;> rfl
            have HT3 : Hid (T2 w.heap.size wa.heap.size n (pFold n m pre) S w3 ov mv vs) := ht3
            have HV3 : Hid (w3.ownsRow (wa.heap.size + 1) 3 1 (.slice (some ⟨gv, 0, none⟩) n cv) n (ints x)) := own_keepB HVO.out (fun b hb => HGB.out b (.inr (by have := (HVO.out.lt b hb).1; omega)))
            clear hom3 hwr hgb ht3 HTK c6'
            obtain ⟨oo, oc, hof⟩ := owns_form HT3.out.oo
            obtain ⟨mo, mc, hmf⟩ := owns_form HT3.out.om
            have hszN : wa.heap.size + 1 ≤ w3.heap.size := by
              have h1 := HW3.out.2.2.2
              omega
            gi_upto_region 15 with fail
            refine wpIn_region_rnd (fun _ => True) (by kernel_rfl) (no_defer (by kernel_rfl)) (fun a w h => h) trivial (fun _ => ?_)
            refine wpAnyH_inv (fun L a w' => ∃ b0 b1 b2 b3 b4 b5 b6 b7 b8 b9 x41 x42 x43 x44 x45 x46 x47 x48, L = #[b0, b1, b2, b3, b4, b5, b6, b7, b8, b9] ∧ a = { tmps := #[.slice po n pc, undef, .pointer (some ⟨w.heap.size, 0, none⟩), .pointer (some ⟨w.heap.size + 1, 0, none⟩), .int .i64 0, .int .i64 0, .pointer (some ⟨w1.heap.size, 0, none⟩), undef, u8, .slice (some ⟨gv, 0, none⟩) n cv, .int .i64 z, .slice po n pc, .int .i64 0, .int .i64 0, .bool false, undef, .slice po n pc, .int .i64 n, .int .i64 n, .bool false, u20, u21, u22, u23, u24, u25, u26, u27, .slice po n pc, .int .i64 n, .func (.func 18) #[] #[.pointer (some ⟨wa.heap.size, 0, none⟩)], .slice (some ⟨gv, 0, none⟩) n cv, .slice (some ⟨G, 0, none⟩) n cap, .slice (some ⟨gv, 0, none⟩) n cv, .int .i64 z, .int .i64 z, .bool true, .slice (some ⟨G, 0, none⟩) n cap, .slice (some ⟨gv, 0, none⟩) n cv, .int .i64 z, .tuple #[], x41, x42, x43, x44, x45, x46, x47, x48, undef, undef], defers := [] } ∧ I15 w3 w.heap.size wa.heap.size ov mv (.slice (some ⟨gv, 0, none⟩) n cv) z (pFold n m pre).ords.length (pFold n m pre).many.length vs (ints (pFold n m pre).many) b0 b1 b2 b3 b4 b5 b6 b7 b8 b9 x41 x42 x43 x44 x45 x46 x47 x48 w') ?step ?fin _ _ _ _ ?init ?cnt
            case cnt => decide
            case init =>
              refine ⟨false, false, false, false, false, false, false, false, false, false, _, _, _, _, _, _, _, _, rfl, rfl, ⟨fun h => (by cases h), fun h => (by cases h), fun h => (by cases h), fun h => (by cases h), fun h => (by cases h), fun h => (by cases h), fun h => (by cases h), fun h => (by cases h), ?_, ?_, ?_⟩⟩
              · exact ⟨fun _ => HT3.out.oo, fun h => (by cases h), fun h => (by cases h), fun _ => HT3.out.bo, fun h => (by cases h)⟩
              · exact ⟨fun _ => HT3.out.om, fun h => (by cases h), fun h => (by cases h), fun _ => HT3.out.bm, fun h => (by cases h)⟩
              · exact ⟨rfl, rfl, rfl, Nat.le_refl _, fun _ _ _ _ _ _ => rfl⟩
            case step =>
              rintro L a w' i ⟨b0, b1, b2, b3, b4, b5, b6, b7, b8, b9, x41, x42, x43, x44, x45, x46, x47, x48, rfl, rfl, hI⟩ hi
              have hi2 := List.mem_filter.1 hi
              have hi1 := List.mem_range.1 hi2.1
              have hrd := hi2.2
              clear hi hi2
              have hcase : i = 0 ∨ i = 1 ∨ i = 2 ∨ i = 3 ∨ i = 4 ∨ i = 5 ∨ i = 6 ∨ i = 7 ∨ i = 8 ∨ i = 9 := by
                simp only [List.size_toArray, List.length_cons, List.length_nil] at hi1
                omega
              clear hi1
              have hsw := hI.O.size
              rcases hcase with rfl | rfl | rfl | rfl | rfl | rfl | rfl | rfl | rfl | rfl
              · simp [Region.binds] at hrd
                subst hrd
                have h8 : b8 = false := no_false fun h => by have := (hI.d3 (hI.d8 h)).1; cases this
                have cb := oq_cell (hI.A.box0 h8)
                refine wpOp_hid rfl rfl (fun K' hK => ?_)
                go_simp
                refine hK.out _ _ ⟨true, b1, b2, b3, b4, b5, b6, b7, b8, b9, _, _, _, _, _, _, _, _, rfl, rfl, ⟨fun _ => hof.symm, hI.e1, hI.e4, hI.e5, fun h => ⟨rfl, (hI.d3 h).2⟩, hI.d7, hI.d8, hI.d9, hI.A, hI.B, hI.O⟩⟩
              · simp [Region.binds] at hrd
                subst hrd
                refine wpOp_hid rfl rfl (fun K' hK => ?_)
                go_simp
                refine hK.out _ _ ⟨b0, true, b2, b3, b4, b5, b6, b7, b8, b9, _, _, _, _, _, _, _, _, rfl, rfl, ⟨hI.e0, fun _ => rfl, hI.e4, hI.e5, hI.d3, hI.d7, hI.d8, hI.d9, hI.A, hI.B, hI.O⟩⟩
              · simp [Region.binds] at hrd
                obtain ⟨rfl, rfl⟩ := hrd
                have h3 : b3 = false := no_false fun h => by have := (hI.d3 h).2; cases this
                have hx := hI.e1 rfl
                subst hx h3
                have h8 : b8 = false := no_false fun h => by have := hI.d8 h; cases this
                subst h8
                refine wpOp_hid rfl rfl (fun K' hK => ?_)
                go_simp
                refine hK.out _ _ ⟨b0, true, true, false, b4, b5, b6, b7, false, b9, _, _, _, _, _, _, _, _, rfl, rfl, ⟨hI.e0, fun _ => rfl, hI.e4, hI.e5, fun h => (by cases h), hI.d7, fun h => (by cases h), hI.d9, hI.A.build (by omega), hI.B.alloc _, hI.O.alloc (Nat.le_refl _) _⟩⟩
              · simp [Region.binds] at hrd
                obtain ⟨rfl, rfl, rfl⟩ := hrd
                have h8 : b8 = false := no_false fun h => by have := hI.d8 h; cases this
                obtain ⟨qq, rfl, hq1, hq2⟩ := hI.A.blt rfl rfl
                have hx := hI.e0 rfl
                subst h8
                rw [hx]
                have ho1 := hI.A.own rfl
                refine wpOp_hid rfl rfl (fun K' hK => ?_)
                refine op_append_own (.tmp 41) (.tmp 43) 24 rfl (wa.heap.size + 1) 22 i0 (.slice none 0 0) 1 24 Try.underlying24 hi0 hz0 hz1 hz2 rfl (by decide) ov _ vs (by simp [Act.eval]) ho1 ⟨qq, 0, none⟩ 1 1 [(.slice (some ⟨gv, 0, none⟩) n cv)] (by simp [Act.eval]) rfl (one_at hq1) (one_slice _ _ _) (by unfold maxLen; omega) (by omega) (by omega) ?_
                intro v2 w4 ho hg hat
                refine hK.out _ _ ⟨true, b1, true, true, b4, b5, b6, b7, false, b9, _, _, _, v2, _, _, _, _, rfl, rfl, ⟨fun _ => rfl, hI.e1, hI.e4, hI.e5, fun _ => ⟨rfl, rfl⟩, hI.d7, fun h => (by cases h), hI.d9, hI.A.append (by omega) hsw ho hg (hat.imp_right fun e => ⟨_, e, Nat.le_refl _⟩), hI.B.grown (by decide) (by omega) ho1 hg, hI.O.grown (Nat.le_refl _) (.inl rfl) hg⟩⟩
              · simp [Region.binds] at hrd
                subst hrd
                have h9 : b9 = false := no_false fun h => by have := (hI.d7 (hI.d9 h)).1; cases this
                have cb := oq_cell (hI.B.box0 h9)
                refine wpOp_hid rfl rfl (fun K' hK => ?_)
                go_simp
                refine hK.out _ _ ⟨b0, b1, b2, b3, true, b5, b6, b7, b8, b9, _, _, _, _, _, _, _, _, rfl, rfl, ⟨hI.e0, hI.e1, fun _ => hmf.symm, hI.e5, hI.d3, fun h => ⟨rfl, (hI.d7 h).2⟩, hI.d8, hI.d9, hI.A, hI.B, hI.O⟩⟩
              · simp [Region.binds] at hrd
                subst hrd
                refine wpOp_hid rfl rfl (fun K' hK => ?_)
                go_simp
                refine hK.out _ _ ⟨b0, b1, b2, b3, b4, true, b6, b7, b8, b9, _, _, _, _, _, _, _, _, rfl, rfl, ⟨hI.e0, hI.e1, hI.e4, fun _ => rfl, hI.d3, hI.d7, hI.d8, hI.d9, hI.A, hI.B, hI.O⟩⟩
              · simp [Region.binds] at hrd
                obtain ⟨rfl, rfl⟩ := hrd
                have h7 : b7 = false := no_false fun h => by have := (hI.d7 h).2; cases this
                have hx := hI.e5 rfl
                subst hx h7
                have h9 : b9 = false := no_false fun h => by have := hI.d9 h; cases this
                subst h9
                refine wpOp_hid rfl rfl (fun K' hK => ?_)
                go_simp
                refine hK.out _ _ ⟨b0, b1, b2, b3, b4, true, true, false, b8, false, _, _, _, _, _, _, _, _, rfl, rfl, ⟨hI.e0, hI.e1, hI.e4, fun _ => rfl, hI.d3, fun h => (by cases h), hI.d8, fun h => (by cases h), hI.A.alloc _, hI.B.build (by omega), hI.O.alloc (Nat.le_refl _) _⟩⟩
              · simp [Region.binds] at hrd
                obtain ⟨rfl, rfl, rfl, rfl⟩ := hrd
                have h9 : b9 = false := no_false fun h => by have := hI.d9 h; cases this
                obtain ⟨qq, rfl, hq1, hq2⟩ := hI.B.blt rfl rfl
                have hx := hI.e4 rfl
                subst h9
                rw [hx]
                have ho1 := hI.B.own rfl
                refine wpOp_hid rfl rfl (fun K' hK => ?_)
                refine op_append_own (.tmp 45) (.tmp 47) 22 rfl (wa.heap.size + 1) 3 i3 (.int .i64 0) 1 8 Try.underlying22 hi3 hz30 hz31 hz32 rfl (by decide) mv _ _ (by simp [Act.eval]) ho1 ⟨qq, 0, none⟩ 1 1 [.int .i64 z] (by simp [Act.eval]) rfl (one_at hq1) (one_int _) (by unfold maxLen; omega) (by omega) (by omega) ?_
                intro v2 w4 ho hg hat
                refine hK.out _ _ ⟨b0, b1, b2, true, true, b5, true, true, b8, false, _, _, _, _, _, _, _, v2, rfl, rfl, ⟨hI.e0, hI.e1, fun _ => rfl, hI.e5, hI.d3, fun _ => ⟨rfl, rfl⟩, hI.d8, fun h => (by cases h), hI.A.grown (by decide) (by omega) ho1 hg, hI.B.append (by omega) hsw ho hg (hat.imp_right fun e => ⟨_, e, Nat.le_refl _⟩), hI.O.grown (Nat.le_refl _) (.inr rfl) hg⟩⟩
              · simp [Region.binds] at hrd
                obtain ⟨rfl, rfl, rfl, rfl, rfl, rfl, -⟩ := hrd
                have h3 := (hI.A.app rfl).1
                obtain ⟨yo, yc, hy⟩ := owns_form h3
                subst hy
                have cb := oq_cell (hI.A.box0 rfl)
                have cf := oq_frozen (hI.A.box0 rfl)
                refine wpOp_hid rfl rfl (fun K' hK => ?_)
                go_simp
                refine hK.out _ _ ⟨true, true, true, true, b4, b5, b6, true, true, b9, _, _, _, _, _, _, _, _, rfl, rfl, ⟨hI.e0, hI.e1, hI.e4, hI.e5, hI.d3, hI.d7, fun _ => rfl, fun _ => rfl, hI.A.store (by omega), hI.B.setOther (by omega) (by omega), hI.O.set (.inl rfl)⟩⟩
              · simp [Region.binds] at hrd
                obtain ⟨rfl, rfl, rfl, rfl, rfl, rfl, rfl, rfl, rfl, rfl, -⟩ := hrd
                have h3 := (hI.B.app rfl).1
                obtain ⟨yo, yc, hy⟩ := owns_form h3
                subst hy
                have cb := oq_cell (hI.B.box0 rfl)
                have cf := oq_frozen (hI.B.box0 rfl)
                refine wpOp_hid rfl rfl (fun K' hK => ?_)
                go_simp
                refine hK.out _ _ ⟨true, true, true, true, true, true, true, true, true, true, _, _, _, _, _, _, _, _, rfl, rfl, ⟨hI.e0, hI.e1, hI.e4, hI.e5, hI.d3, hI.d7, hI.d8, fun _ => rfl, hI.A.setOther (by omega) (by omega), hI.B.store (by omega), hI.O.set (.inr rfl)⟩⟩
            case fin =>
              rintro L a w' ⟨b0, b1, b2, b3, b4, b5, b6, b7, b8, b9, x41, x42, x43, x44, x45, x46, x47, x48, rfl, rfl, hI⟩ hr
              have hm := nil_no hr
              clear hr
              have h0' : b0 = true := by
                cases b0 with
                | true => rfl
                | false => exact absurd (List.mem_filter.2 ⟨List.mem_range.2 (by decide), by simp [Region.binds]⟩) (hm 0)
              subst h0'
              have h1' : b1 = true := by
                cases b1 with
                | true => rfl
                | false => exact absurd (List.mem_filter.2 ⟨List.mem_range.2 (by decide), by simp [Region.binds]⟩) (hm 1)
              subst h1'
              have h2' : b2 = true := by
                cases b2 with
                | true => rfl
                | false => exact absurd (List.mem_filter.2 ⟨List.mem_range.2 (by decide), by simp [Region.binds]⟩) (hm 2)
              subst h2'
              have h3' : b3 = true := by
                cases b3 with
                | true => rfl
                | false => exact absurd (List.mem_filter.2 ⟨List.mem_range.2 (by decide), by simp [Region.binds]⟩) (hm 3)
              subst h3'
              have h4' : b4 = true := by
                cases b4 with
                | true => rfl
                | false => exact absurd (List.mem_filter.2 ⟨List.mem_range.2 (by decide), by simp [Region.binds]⟩) (hm 4)
              subst h4'
              have h5' : b5 = true := by
                cases b5 with
                | true => rfl
                | false => exact absurd (List.mem_filter.2 ⟨List.mem_range.2 (by decide), by simp [Region.binds]⟩) (hm 5)
              subst h5'
              have h6' : b6 = true := by
                cases b6 with
                | true => rfl
                | false => exact absurd (List.mem_filter.2 ⟨List.mem_range.2 (by decide), by simp [Region.binds]⟩) (hm 6)
              subst h6'
              have h7' : b7 = true := by
                cases b7 with
                | true => rfl
                | false => exact absurd (List.mem_filter.2 ⟨List.mem_range.2 (by decide), by simp [Region.binds]⟩) (hm 7)
              subst h7'
              have h8' : b8 = true := by
                cases b8 with
                | true => rfl
                | false => exact absurd (List.mem_filter.2 ⟨List.mem_range.2 (by decide), by simp [Region.binds]⟩) (hm 8)
              subst h8'
              have h9' : b9 = true := by
                cases b9 with
                | true => rfl
                | false => exact absurd (List.mem_filter.2 ⟨List.mem_range.2 (by decide), by simp [Region.binds]⟩) (hm 9)
              subst h9'
              have hfin : NI w WN w1.heap.size wa.heap.size n m g c (.slice (some ⟨G, 0, none⟩) n cap) S (pre ++ [x]) w' ∧ Kpt (fun b => S b ∨ False) w3 w' := by
                have q := HW3.out
                refine NI.step HS1.out HL6.out HSZ.out HOL.out HII.out.sn (fun b hb => by have := HSB.out b hb; omega) (by omega) (q.1.trans HII.out.os) (q.2.1.trans HII.out.tape) (q.2.2.1.trans HII.out.output) (fun b hb => (HGB.out b (.inl (by omega))).trans (HII.out.low b hb)) ((HGB.out _ (.inl (Nat.le_refl _))).trans HII.out.box6) HOM3.out HT3.out HV3.out HNOTS.out HNEW.out ⟨gv, rfl⟩ HSTP.out hI.A hI.B hI.O
              have HF1 : Hid (NI w WN w1.heap.size wa.heap.size n m g c (.slice (some ⟨G, 0, none⟩) n cap) S (pre ++ [x]) w') := hfin.1
              have HF2 : Hid (Kpt (fun b => S b ∨ False) W1 w') := by
                refine (Kpt.trans ⟨by have := HW3.out.2.2.2; omega, fun b hb hs => HGB.out b (.inr ?_)⟩ hfin.2)
                exact HII.out.sn b (hs.elim id False.elim)
              clear hfin hI hm
              dsimp only [Nrm]
              gi_wp2
              exact ⟨HF2.out, HF1.out⟩
          · have hp1 : decide (0 < z) = false := decide_eq_false hpos
            have HFI : Hid (NI w WN w1.heap.size wa.heap.size n m g c (.slice (some ⟨G, 0, none⟩) n cap) S (pre ++ [x]) W2) := by
              have e : pFold n m (pre ++ [x]) = pFold n m pre := by
                rw [HSN1.out]
                unfold pStep
                rw [← HZ.out, if_neg hpos]
              rw [HD2.out]
              obtain ⟨q1, q2, q3, q4, q5, q6, q7, q8, q9⟩ := HII.out
              refine ⟨q1, q2, q3, q4, q5, q6, q7, ?_, ?_⟩
              · rw [e]; exact q8.keep (fun _ _ => rfl)
              · rw [e]
                obtain ⟨ov, mv, vs, t⟩ := q9
                exact ⟨ov, mv, vs, t.move (fun hx => by have := q1 _ hx; omega) (fun hx => by have := q1 _ hx; omega) (fun b _ _ _ => rfl) (fun b _ hx => hx)⟩
            have HKC : Hid (Kpt (fun b => S b ∨ False) W1 W2) := by rw [HD2.out]; exact ⟨Nat.le_refl _, fun _ _ _ => rfl⟩
            clear hpos
            gi_wp2
            exact ⟨HKC.out, HFI.out⟩
        case done =>
          rintro S W' hi hSD hdf
          obtain ⟨ov, mv, vs, ht⟩ := hi.two
          have hsz := HSZ.out
          have hws := hi.size
          have hs1 := HS1.out
          have hl6 := HL6.out
          have c1 := oq_cell ht.bo
          have c2 := oq_cell ht.bm
          have p1 := oq_frozen ht.bo
          have p2 := oq_frozen ht.bm
          obtain ⟨oo, oc, hof⟩ := owns_form ht.oo
          subst hof
          obtain ⟨mo, mc, hmf⟩ := owns_form ht.om
          subst hmf
          have HI : Hid (NI w WN w1.heap.size wa.heap.size n m g c rv S (ords n n []) W') := hi
          have HT : Hid (T2 w.heap.size wa.heap.size n (pFold n m (ords n n [])) S W' (.slice oo (pFold n m (ords n n [])).ords.length oc) (.slice mo (pFold n m (ords n n [])).many.length mc) vs) := ht
          have HSD : Hid (S WN.heap.size) := hSD
          have HDF : Hid (W'.heap[WN.heap.size]? = some (.deferred (some []))) := hdf
          clear hi hdf ht hSD HSQ
          generalize pFold n m (ords n n []) = st at *
          gi_wp2
          gi_region
          all_goals
            gi_wp2
            have hoth : ∀ x y b, b ≠ w.heap.size → b ≠ w.heap.size + 1 → ((W'.setCell ⟨w.heap.size, 0, none⟩ x).setCell ⟨w.heap.size + 1, 0, none⟩ y).heap[b]? = W'.heap[b]? := fun x y b h1 h2 =>
              (Below.heap_setCell _ _ _ _ h2).trans (Below.heap_setCell _ _ _ _ h1)
            obtain ⟨W9, hW9⟩ : ∃ W9, W9 = ((W'.setCell ⟨w.heap.size, 0, none⟩ (.slice oo st.ords.length oc)).setCell ⟨w.heap.size + 1, 0, none⟩ (.slice mo st.many.length mc)).drew := ⟨_, rfl⟩
            rw [← hW9]
            have q1 : W9.heap[w.heap.size]? = some (.cells #[.slice oo st.ords.length oc] 24 (0, 0)) := by
              rw [hW9]
              exact (Below.heap_setCell _ _ _ _ (by show w.heap.size ≠ w.heap.size + 1; omega)).trans (oq_set HT.out.bo)
            have q2 : W9.heap[w.heap.size + 1]? = some (.cells #[.slice mo st.many.length mc] 22 (0, 0)) := by
              rw [hW9]
              exact oq_set ((Below.heap_setCell _ _ _ _ (by show w.heap.size + 1 ≠ w.heap.size; omega)).trans HT.out.bm)
            have q3 : ∀ b, W9.heap[b]? = W'.heap[b]? := fun b => by
              by_cases e1 : b = w.heap.size
              · rw [e1, q1, HT.out.bo]
              · by_cases e2 : b = w.heap.size + 1
                · rw [e2, q2, HT.out.bm]
                · rw [hW9]; exact hoth _ _ b e1 e2
            have q4 : W9.heap.size = W'.heap.size := by rw [hW9]; simp [World.setCell]
            have q5 : W9.os = W'.os ∧ W9.tape = W'.tape ∧ W9.output = W'.output := by rw [hW9]; exact ⟨rfl, rfl, rfl⟩
            clear hW9 hoth
            refine leaves_mks [WN.heap.size] W9 (by simp) (fun r hr => ?_) (fun wF hc => ⟨.tuple #[.slice oo st.ords.length oc, .slice mo st.many.length mc, .int .i64 0], ?_, ?_⟩)
            · simp only [List.mem_singleton] at hr
              subst hr
              exact (q3 _).trans HDF.out
            · have r1 : wF.cell? ⟨w.heap.size, 0, none⟩ = some (.slice oo st.ords.length oc) := oq_cell ((hc.block _ (by omega) (by simp; omega)).trans q1)
              have r2 : wF.cell? ⟨w.heap.size + 1, 0, none⟩ = some (.slice mo st.many.length mc) := oq_cell ((hc.block _ (by omega) (by simp; omega)).trans q2)
              simp [results, Try.results6, go_sem, r1, r2]
            · have hk : ∀ b, b < W'.heap.size → b ≠ WN.heap.size → wF.heap[b]? = W'.heap[b]? := fun b hb hn => (hc.block b (by omega) (by simpa using hn)).trans (q3 b)
              have tF : T2 w.heap.size wa.heap.size n st (fun _ => False) wF (.slice oo st.ords.length oc) (.slice mo st.many.length mc) vs :=
                HT.out.move (fun hx => by have := HI.out.sn _ hx; omega) (fun hx => by have := HI.out.sn _ hx; omega) (fun b hb hs _ => hk b hb (fun e => hs (by rw [e]; exact HSD.out))) (fun b _ hx => hx.elim)
              refine ⟨_, _, by rw [HQ.out], ?_, ?_, hc.os.trans (q5.1.trans HI.out.os), hc.tape.trans (q5.2.1.trans HI.out.tape), hc.output.trans (q5.2.2.trans HI.out.output), by have := hc.size; omega, fun b hb => (hk b (by omega) (by omega)).trans (HI.out.low b hb)⟩
              · rw [HPO.out]
                refine ⟨vs, tF.len, ⟨tF.oo.1, ?_⟩, fun i hi => ?_⟩
                · rcases tF.oo.2 with h2 | ⟨g', cap, cur, h1, h2, r⟩
                  · exact Or.inl h2
                  · exact Or.inr ⟨g', cap, cur, h1, by omega, r⟩
                · obtain ⟨gi, _, k2, _⟩ := tF.rows i hi
                  exact (SlN.own k2).mono (by omega)
              · rw [HPM.out]
                refine ⟨tF.om.1, ?_⟩
                rcases tF.om.2 with h2 | ⟨g', cap, cur, h1, h2, r⟩
                · exact Or.inl h2
                · exact Or.inr ⟨g', cap, cur, h1, by omega, r⟩
  · have HPO : Hid (prO m = []) := if_neg hq
    have HPM : Hid (prM m = []) := if_neg hq
    have hq' : (evE m != 0) = true := by simpa using hq
    clear hq
    gi_wp2
    have hs3 := HS1.out
    obtain ⟨W9, hW9⟩ : ∃ W9, W9 = (w1.setCell ⟨w.heap.size, 0, none⟩ (.slice none 0 0)).setCell ⟨w.heap.size + 1, 0, none⟩ (.slice none 0 0) := ⟨_, rfl⟩
    rw [← hW9]
    have q1 : W9.heap[w.heap.size]? = some (.cells #[.slice none 0 0] 24 (0, 0)) := by
      rw [hW9]
      exact (Below.heap_setCell _ _ _ _ (by show w.heap.size ≠ w.heap.size + 1; omega)).trans (oq_set HB0.out)
    have q2 : W9.heap[w.heap.size + 1]? = some (.cells #[.slice none 0 0] 22 (0, 0)) := by
      rw [hW9]
      exact oq_set ((Below.heap_setCell _ _ _ _ (by show w.heap.size + 1 ≠ w.heap.size; omega)).trans HB1.out)
    have q3 : ∀ b, b < w.heap.size → W9.heap[b]? = w1.heap[b]? := fun b hb => by
      rw [hW9]
      exact (Below.heap_setCell _ _ _ _ (by show b ≠ w.heap.size + 1; omega)).trans (Below.heap_setCell _ _ _ _ (by show b ≠ w.heap.size; omega))
    have q4 : W9.heap.size = w1.heap.size := by rw [hW9]; simp [World.setCell]
    have q5 : W9.os = w1.os ∧ W9.tape = w1.tape ∧ W9.output = w1.output := by rw [hW9]; exact ⟨rfl, rfl, rfl⟩
    clear hW9
    refine leaves_mks [] W9 (by simp) (fun r hr => by simp at hr) (fun w' hc => ⟨.tuple #[.slice none 0 0, .slice none 0 0, .int .i64 (evE m)], ?_, ?_⟩)
    · have r1 : w'.cell? ⟨w.heap.size, 0, none⟩ = some (.slice none 0 0) := oq_cell ((hc.block _ (by omega) (by simp)).trans q1)
      have r2 : w'.cell? ⟨w.heap.size + 1, 0, none⟩ = some (.slice none 0 0) := oq_cell ((hc.block _ (by omega) (by simp)).trans q2)
      simp [results, Try.results6, go_sem, r1, r2]
    · refine ⟨_, _, rfl, ?_, ?_, hc.os.trans (q5.1.trans HBW.out.os), hc.tape.trans (q5.2.1.trans HBW.out.tape), hc.output.trans (q5.2.2.trans HBW.out.output), by have := hc.size; omega, fun b hb => (hc.block b (by omega) (by simp)).trans ((q3 b hb).trans (HBW.out.block b hb))⟩
      · rw [HPO.out]; exact FrN.nil _ _
      · rw [HPM.out]; exact World.ownsRow_nil _ _ _ _

end Go.Proofs.Ytmffbaclgbmnbaa
