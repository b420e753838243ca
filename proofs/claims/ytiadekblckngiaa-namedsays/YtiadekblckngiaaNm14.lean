/- facetref.NamedOf: kind 4 (trees), and what may not be. -/
import Derived.Test.YtiadekblckngiaaNm10
import Derived.Test.YtiadekblckngiaaNm5
namespace Go.Proofs.Ytiadekblckngiaa
open Go.RowKit
attribute [local go_sem ↓] Go.wp_at_zero Go.wp_at_succ

/-- Another row of rows, new, is put into the box. -/
theorem NpI.put {w wr w2 : World} {R Q n : Nat} {m s : List (List Int)} {v : Value} (h : NpI w R Q n m wr) (hb : Below wr.heap.size wr w2) (hv : Fr wr.heap.size 35 3 w2 v s) :
    (∃ so sc, w2.cell? ⟨Q, 1, none⟩ = some (.slice so m.length sc)) ∧ w2.frozen? ⟨Q, 1, none⟩ = false ∧ NpI w R Q n s (w2.setCell ⟨Q, 1, none⟩ v) := by
  have h2 := h.below hb (Nat.le_refl _)
  obtain ⟨sv, hbox, vs, f1, f2, f3⟩ := h2.box
  obtain ⟨so, sc, rfl⟩ := owns_form f2
  have hsz := h.sz
  have hlo := h.lo
  have hrq := h.rq
  obtain ⟨us, u1, u2, u3⟩ := hv
  refine ⟨⟨so, sc, by simp [World.cell?, hbox]⟩, by simp [World.frozen?, hbox], hlo, hrq, (Below.heap_setCell _ _ _ _ (by show R ≠ Q; omega)).trans h2.res, ⟨v, by simp [World.setCell, Array.getElem?_modify, hbox], us, u1, ⟨u2.1, ?_⟩, fun i hi => Sl.setCell (u3 i hi) _ ⟨Nat.zero_le _, fun cur => ?_⟩⟩, below_setN h2.bel (by show _ ≤ Q; omega), by simp only [World.setCell, Array.size_modify]; exact h2.sz⟩
  · rcases u2.2 with q | ⟨g, cap, cur, e1, e2, e3, e4⟩
    · exact .inl q
    · exact .inr ⟨g, cap, cur, e1, by omega, (Below.heap_setCell _ _ _ _ (by show g ≠ Q; omega)).trans e3, e4⟩
  · rw [show (⟨Q, 1, none⟩ : Addr).block = Q from rfl, hbox]
    simp

theorem trN_asc : ∀ d, d < 4 → ((trO d).map fun r => r.take d).Pairwise fun a b => cmpL a b < 0 := by decide +kernel

theorem trN_of {d : Nat} {s : List (List Int)} (h1 : 1 ≤ d) (h3 : d ≤ 3) (hs : SAsc s) (hm : ∀ r, r ∈ s ↔ r ∈ cutL d (trL (d + 1))) : s = (trO d).map fun r => r.take d := by
  refine sasc_ext _ _ hs (trN_asc d (by omega)) fun r => ?_
  obtain ⟨m1, m2⟩ := trO_mem d (by omega) h1
  rw [hm]
  simp only [cutL, List.mem_map]
  exact ⟨fun ⟨a, ha, e⟩ => ⟨a, m2 a ha, e⟩, fun ⟨a, ha, e⟩ => ⟨a, m1 a ha, e⟩⟩

set_option maxRecDepth 100000 in
set_option maxHeartbeats 3200000 in
theorem named4_any (d : Nat) (w : World) (h1 : 1 ≤ d) (h3 : d ≤ 3) :
    Calls Try.prog 9 #[.int .i64 4, .int .i64 (d : Int)] w fun e w' => ∃ u, e = .returned (.tuple #[.agg #[.int .i64 (d : Int), u], .int .i64 0]) ∧ Mat 0 35 3 w' u ((trO d).map fun r => r.take d) ∧ Below w.heap.size w w' := by
  obtain ⟨i0, hi0, hz0, hz1, hz2⟩ := info_parts infoSlN
  have d1 : ¬ (d : Int) < 1 := by omega
  have d2 : ¬ (4 : Int) < (d : Int) := by omega
  have d3 : ¬ (3 : Int) < (d : Int) := by omega
  have e1 : (d : Int) + 1 = ((d + 1 : Nat) : Int) := by omega
  have HT : Hid (∀ W : World, Calls Try.prog 22 #[.int .i64 ((d : Int) + 1)] W fun e w' => ∃ uo uc, e = .returned (.slice uo (trL (d + 1)).length uc) ∧ Fr W.heap.size 35 3 w' (.slice uo (trL (d + 1)).length uc) (trL (d + 1)) ∧ Below W.heap.size W w') := fun W => by
    rw [e1]
    refine (trD_any (d + 1) (by omega) W).mono ?_
    rintro e w' ⟨uo, ul, uc, rfl, rfl, hf, hb⟩
    exact ⟨uo, uc, rfl, hf, hb⟩
  have HROW : Hid (∀ r ∈ trL (d + 1), r.length = d + 1) := trL_row (d + 1) (by omega)
  have HNM : Hid (∀ s, SAsc s → (∀ r, r ∈ s ↔ r ∈ cutL d (trL (d + 1))) → s = (trO d).map fun r => r.take d) := fun s hs hm => trN_of h1 h3 hs hm
  have hml := (trL_len (d + 1) (by omega)).2
  generalize trL (d + 1) = m at *
  have HCS : Hid (∀ k, k < m.length → cutL d (m.take (k + 1)) = cutL d (m.take k) ++ [(m.getD k []).take d]) := fun k hk => cutL_snoc d m k hk
  have HCL : Hid (∀ k, k ≤ m.length → (cutL d (m.take k)).length = k) := fun k hk => by rw [cutL_len]; simp; omega
  obtain ⟨W2, hW2⟩ : ∃ W2, W2 = (w.alloc (.cells #[.int .i64 0, .slice none 0 0] 24)).alloc (.cells #[.int .i64 (d : Int), .slice none 0 0] 24) := ⟨_, rfl⟩
  have HI0 : Hid (NpI w w.heap.size (w.heap.size + 1) d (cutL d (m.take 0)) W2) := by rw [hW2]; exact np_start w d
  obtain ⟨R, hR⟩ : ∃ R, R = w.heap.size := ⟨_, rfl⟩
  rw [← hR] at HI0
  clear e1
  go_enter Try.func9, Try.ntmps9
  go_wp2_with fail
  rw [← hW2, ← hR]
  refine (HT.out W2).mono ?_
  rintro e w2 ⟨lo, lc, rfl, hfl, hb2⟩
  have HI2 : Hid (NpJ w R (R + 1) d (cutL d (m.take 0)) [(.slice lo m.length lc, m)] w2) := (NpJ.of HI0.out).add hb2 hfl
  clear HI0 hW2 hfl hb2 HT hR
  go_wp2
  go_loopw [16] (fun iv wr => ∃ k : Nat, k ≤ m.length ∧ iv = .int .i64 (k : Int) ∧ NpJ w R (R + 1) d (cutL d (m.take k)) [(.slice lo m.length lc, m)] wr) (fun iv _ => m.length - (intOf iv).toNat)
  case atStart => exact ⟨0, Nat.zero_le _, rfl, HI2.out⟩
  case round =>
    obtain ⟨k, hk, rfl, hj⟩ := hrel
    obtain ⟨wa, rfl⟩ : ∃ wa, wa = wr := ⟨_, rfl⟩
    have HJ : Hid (NpJ w R (R + 1) d (cutL d (m.take k)) [(.slice lo m.length lc, m)] wa) := hj
    clear hj HI2
    by_cases hlt : k < m.length
    · obtain ⟨b, o, cp, r1, hs, hc1, hcc, hr1⟩ := mat_cell ((HJ.out.oth (.slice lo m.length lc, m) (by simp)).1.rws.mat (Nat.le_refl _)) hlt
      simp only [Value.slice.injEq] at hs
      obtain ⟨rfl, -, rfl⟩ := hs
      obtain ⟨ro, rc, hrv, hrc1, hrc2⟩ := sl_open hr1
      subst hrv
      have hrc1 : (m.getD k []).length ≤ rc := hrc1
      have hdl : d ≤ (m.getD k []).length := by rw [HROW.out _ (by simp [hlt])]; omega
      have hr0 : Sl 0 3 wa (.slice ro (m.getD k []).length rc) (ints (m.getD k [])) := hr1.more (Nat.zero_le _)
      obtain ⟨a, ha⟩ : ∃ a, ro = some a := by
        obtain ⟨ao, c2, e, _, _, h3, _⟩ := hr0
        obtain ⟨b', o', e2, _⟩ := h3 0 (by rw [ints_length]; omega)
        simp only [Value.slice.injEq] at e
        exact ⟨_, e.1.trans e2⟩
      subst ha
      have hsl := fun w => run_cut2 (a := a) (n := (m.getD k []).length) (c := rc) (d := d) hdl hrc1 w
      have hcut : Sl 0 3 wa.drew (.slice (some a) d rc) (ints ((m.getD k []).take d)) := (hr0.cut hdl (by omega) (by unfold maxLen; omega)).drew
      obtain ⟨so, sc, vs, q1, q2, q3, q4⟩ := HJ.out.push ((Below.refl _ _).drew) hcut
      have HCK := HCL.out k hk
      rw [HCK] at q1 q2 q4
      rw [← HCS.out k hlt] at q4
      have HQ2 : Hid (wa.drew.ownsRow (R + 1 + 1) 35 1 (.slice so k sc) k vs) := q2
      have HQ4 : Hid (∀ v' w5, w5.ownsRow (R + 1 + 1) 35 1 v' (k + 1) (vs ++ [.slice (some a) d rc]) → (wa.drew.alloc (.cells #[.slice (some a) d rc] 35)).grownBy w5 (Value.slice so k sc).ownBlock → (v'.ownBlock = (Value.slice so k sc).ownBlock ∨ v'.ownBlock = some (wa.drew.heap.size + 1)) → w5.cell? ⟨R + 1, 1, none⟩ = some (.slice so k sc) ∧ w5.frozen? ⟨R + 1, 1, none⟩ = false ∧ NpJ w R (R + 1) d (cutL d (m.take (k + 1))) [(.slice (some ⟨b, o, none⟩) m.length lc, m)] (w5.setCell ⟨R + 1, 1, none⟩ v')) := q4
      have q1a : (wa.drew.alloc (.cells #[.slice (some a) d rc] 35)).cell? ⟨R + 1, 1, none⟩ = some (.slice so k sc) := (((Below.refl wa.drew.heap.size wa.drew).alloc (Nat.le_refl _) _).cell (lt_of_cell q1)).trans q1
      have q1c : (wa.alloc (.cells #[.slice (some a) d rc] 35)).cell? ⟨R + 1, 1, none⟩ = some (.slice so k sc) := q1a
      have q1b : wa.cell? ⟨R + 1, 1, none⟩ = some (.slice so k sc) := q1
      have hccA : (wa.alloc (.cells #[.slice (some a) d rc] 35)).cell? ⟨b, o + k, none⟩ = some (.slice (some a) (m.getD k []).length rc) := (((Below.refl wa.heap.size wa).alloc (Nat.le_refl _) _).cell (lt_of_cell hcc)).trans hcc
      have HSZ : Hid (R + 1 + 1 ≤ (wa.drew.alloc (.cells #[.slice (some a) d rc] 35)).heap.size) := by show _ ≤ _; simp at q3 ⊢; omega
      obtain ⟨rl, hrl⟩ : ∃ rl, rl = (m.getD k []).length := ⟨_, rfl⟩
      rw [← hrl] at hcc hsl hccA
      have kI : (k : Int) < (m.length : Int) := by omega
      have kI0 : (0 : Int) ≤ (k : Int) := by omega
      clear q2 q4 hr1 hr0 hcut HJ HCK hrl hdl hrc1 hrc2
      go_wp2
      go_region_law (refine step_append_at (o := { dst := some 53, op := _, type := _, pos := _, after := _, guard := _ }) (by rfl) _ _ 22 (by rfl) (R + 1 + 1) 35 i0 (.slice none 0 0) 1 24 Try.underlying22 hi0 hz0 hz1 hz2 rfl (by decide) _ _ _ (by rfl) (HQ2.out.alloc _) ⟨wa.drew.heap.size, 0, none⟩ 1 1 [.slice (some a) d rc] (by rfl) rfl (one_new _ _ _) (one_slice _ _ _) (by unfold maxLen; omega) (by omega) HSZ.out ?_; intro v' w5 ho hg hat; obtain ⟨vo, vc, hv5⟩ := owns_form ho; subst hv5; obtain ⟨g1, g2, g3⟩ := HQ4.out _ w5 ho hg (by simpa using hat); have HF : Hid (NpJ w R (R + 1) d (cutL d (m.take (k + 1))) [(.slice (some ⟨b, o, none⟩) m.length lc, m)] (w5.setCell ⟨R + 1, 1, none⟩ (.slice vo (k + 1) vc))) := g3; clear g3 ho hg hat)
      all_goals
        go_wp2
        go_roundw
        case rel => exact ⟨k + 1, by omega, by go_num, HF.out⟩
        case measure => simp [intOf]; omega
    · have hke : m.length = k := by omega
      subst hke
      have HK := HJ.out.I
      rw [List.take_length] at HK
      have HKK : Hid (NpI w R (R + 1) d (cutL d m) wa) := HK
      obtain ⟨sv, hbox, hfr⟩ := HK.box
      obtain ⟨po, pc, hpv, _, _⟩ := fr_open hfr
      subst hpv
      have c1 : wa.cell? ⟨R + 1, 1, none⟩ = some (.slice po (cutL d m).length pc) := by simp [World.cell?, hbox]
      have HSR : Hid (Calls Try.prog 23 #[.slice po (cutL d m).length pc] wa fun e w' => ∃ xo xl xc so sc cl, e = .returned (.slice xo xl xc) ∧ w'.cell? ⟨R + 1, 1, none⟩ = some (.slice so cl sc) ∧ w'.frozen? ⟨R + 1, 1, none⟩ = false ∧ NpI w R (R + 1) d ((trO d).map fun r => r.take d) (w'.setCell ⟨R + 1, 1, none⟩ (.slice xo xl xc))) := by
        refine (sortR_any (wa.heap.size) (cutL d m) _ wa (hfr.rws.mat (by have := HK.sz; omega)) (by rw [cutL_len]; omega) (fun r hr => ?_)).mono ?_
        · simp only [cutL, List.mem_map] at hr
          obtain ⟨a, ha, rfl⟩ := hr
          simp; omega
        · rintro e w' ⟨x, s, rfl, hf, hsa, hme, hb⟩
          obtain ⟨xo, xc, hx, _, _⟩ := fr_open hf
          subst hx
          have hs := HNM.out s hsa hme
          subst hs
          obtain ⟨⟨so, sc, k1⟩, k2, k3⟩ := HKK.out.put hb hf
          exact ⟨xo, _, xc, so, sc, _, rfl, k1, k2, k3⟩
      obtain ⟨cl, hcl⟩ : ∃ cl, cl = (cutL d m).length := ⟨_, rfl⟩
      rw [← hcl] at HSR c1
      clear hbox hfr HK HJ HKK hcl
      go_wp2_with fail
      refine HSR.out.mono ?_
      rintro e w5 ⟨xo, xl, xc, so, sc, cl2, rfl, k1, k2, k3⟩
      obtain ⟨bo, bc, m0, m1, r0, r1, rf0, rf1, hmat, hbel⟩ := k3.fin
      have HMT : Hid (Mat 0 35 3 (((w5.setCell ⟨R + 1, 1, none⟩ (.slice xo xl xc)).setCell ⟨R, 0, none⟩ (.int .i64 (d : Int))).setCell ⟨R, 1, none⟩ (.slice bo ((trO d).map fun r => r.take d).length bc)) (.slice bo ((trO d).map fun r => r.take d).length bc) ((trO d).map fun r => r.take d)) := hmat
      have HBX : Hid (Below w.heap.size w (((w5.setCell ⟨R + 1, 1, none⟩ (.slice xo xl xc)).setCell ⟨R, 0, none⟩ (.int .i64 (d : Int))).setCell ⟨R, 1, none⟩ (.slice bo ((trO d).map fun r => r.take d).length bc))) := hbel
      clear hmat hbel HSR k3
      generalize ((trO d).map fun r => r.take d).length = cl at *
      go_wp2
      exact bodyPost_ret (v := .tuple #[.agg #[.int .i64 (d : Int), .slice bo cl bc], .int .i64 0]) (by simp [results, Try.results9, go_sem, *]) rfl ⟨_, rfl, HMT.out, HBX.out⟩

set_option maxRecDepth 100000 in
set_option maxHeartbeats 800000 in
theorem named_no (k : Nat) (d : Int) (w : World) (hk : k < 5) (h : ¬ nmO k d) :
    Calls Try.prog 9 #[.int .i64 (k : Int), .int .i64 d] w fun e w' => e = .returned (.tuple #[.agg #[.int .i64 0, .slice none 0 0], .int .i64 1]) ∧ Below w.heap.size w w' := by
  have HE : Hid (Below w.heap.size w (w.alloc (.cells #[.int .i64 0, .slice none 0 0] 24))) := (Below.refl w.heap.size w).alloc (Nat.le_refl _) _
  unfold nmO at h
  by_cases c1 : d < 1
  · clear h
    go_enter Try.func9, Try.ntmps9
    go_wp2
    exact bodyPost_ret (v := .tuple #[.agg #[.int .i64 0, .slice none 0 0], .int .i64 1]) (by simp [results, Try.results9, go_sem]) rfl ⟨rfl, by simpa using HE.out⟩
  · by_cases c2 : 4 < d
    · clear h
      go_enter Try.func9, Try.ntmps9
      go_wp2
      exact bodyPost_ret (v := .tuple #[.agg #[.int .i64 0, .slice none 0 0], .int .i64 1]) (by simp [results, Try.results9, go_sem]) rfl ⟨rfl, by simpa using HE.out⟩
    · have c3 : 2 < (k : Int) := by omega
      have c4 : 3 < d := by omega
      clear h
      go_enter Try.func9, Try.ntmps9
      go_wp2
      exact bodyPost_ret (v := .tuple #[.agg #[.int .i64 0, .slice none 0 0], .int .i64 1]) (by simp [results, Try.results9, go_sem]) rfl ⟨rfl, by simpa using HE.out⟩

end Go.Proofs.Ytiadekblckngiaa
