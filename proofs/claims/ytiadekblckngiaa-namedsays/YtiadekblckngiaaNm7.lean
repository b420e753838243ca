/- named.polytope by a function of lists. -/
import Derived.Test.YtiadekblckngiaaNmp
import Derived.Test.YtiadekblckngiaaStepsAll
namespace Go.Proofs.Ytiadekblckngiaa
open Go.RowKit
attribute [local go_sem ↓] Go.wp_at_zero Go.wp_at_succ

def cutL (d : Nat) (m : List (List Int)) : List (List Int) := m.map fun r => r.take d

theorem cutL_snoc (d : Nat) (m : List (List Int)) (k : Nat) (h : k < m.length) : cutL d (m.take (k + 1)) = cutL d (m.take k) ++ [(m.getD k []).take d] := by
  unfold cutL
  rw [List.take_succ_eq_append_getElem h, List.map_append]
  rw [show m.getD k [] = m[k] by simp [h]]
  rfl
theorem cutL_len (d : Nat) (m : List (List Int)) : (cutL d m).length = m.length := by simp [cutL]

/-- A kind's function of lists. -/
structure KnF (f : Nat) (d : Nat) (m : List (List Int)) : Prop where
  run : ∀ W : World, Calls Try.prog f #[.int .i64 (d : Int)] W fun e w' => ∃ u, e = .returned u ∧ Fr W.heap.size 35 3 w' u m ∧ Below W.heap.size W w'
  len : m.length ≤ 100
  row : ∀ r ∈ m, d ≤ r.length
  ent : ∀ args w, (callFunc f args).run Try.prog w = .ok (.enter f args) w

set_option maxRecDepth 100000 in
set_option maxHeartbeats 3200000 in
theorem polytope_ok (f d most : Nat) (m : List (List Int)) (w : World) (hF : KnF f d m) (h1 : 1 ≤ d) (h2 : d ≤ most) (h4 : most ≤ 4) :
    Calls Try.prog 11 #[.int .i64 (d : Int), .int .i64 (most : Int), .func (.func f) #[] #[]] w fun e w' => ∃ u, e = .returned (.tuple #[.agg #[.int .i64 (d : Int), u], .int .i64 0]) ∧ Mat 0 35 3 w' u (cutL d m) ∧ Below w.heap.size w w' := by
  obtain ⟨i0, hi0, hz0, hz1, hz2⟩ := info_parts infoSlN
  have d1 : ¬ (d : Int) < 1 := by omega
  have d2 : ¬ (most : Int) < (d : Int) := by omega
  have HRUN : Hid (∀ W : World, Calls Try.prog f #[.int .i64 (d : Int)] W fun e w' => ∃ u, e = .returned u ∧ Fr W.heap.size 35 3 w' u m ∧ Below W.heap.size W w') := hF.run
  have HROW : Hid (∀ r ∈ m, d ≤ r.length) := hF.row
  have heg := hF.ent
  have hml := hF.len
  have hW1 : (w.alloc (.cells #[.int .i64 0, .slice none 0 0] 24)).heap.size = w.heap.size + 1 := by simp
  have HI0 : Hid (NpI w w.heap.size (w.heap.size + 1) d (cutL d (m.take 0)) ((w.alloc (.cells #[.int .i64 0, .slice none 0 0] 24)).alloc (.cells #[.int .i64 (d : Int), .slice none 0 0] 24))) := by
    have := NpI.start w (w.alloc (.cells #[.int .i64 0, .slice none 0 0] 24)) w.heap.size d (Nat.le_refl _) (heap_alloc_new w _) ((Below.refl _ _).alloc (Nat.le_refl _) _)
    rw [hW1] at this
    exact this
  have HCS : Hid (∀ k, k < m.length → cutL d (m.take (k + 1)) = cutL d (m.take k) ++ [(m.getD k []).take d]) := fun k hk => cutL_snoc d m k hk
  have HCL : Hid (∀ k, k ≤ m.length → (cutL d (m.take k)).length = k) := fun k hk => by rw [cutL_len]; simp; omega
  obtain ⟨W2, hW2⟩ : ∃ W2, W2 = (w.alloc (.cells #[.int .i64 0, .slice none 0 0] 24)).alloc (.cells #[.int .i64 (d : Int), .slice none 0 0] 24) := ⟨_, rfl⟩
  rw [← hW2] at HI0
  obtain ⟨R, hR⟩ : ∃ R, R = w.heap.size := ⟨_, rfl⟩
  rw [← hR] at HI0
  clear hF hW1
  go_enter Try.func11, Try.ntmps11
  go_wp2_with fail
  rw [← hW2, ← hR]
  refine (HRUN.out W2).mono ?_
  rintro e w2 ⟨lv, rfl, hfl, hb2⟩
  have HJ2 : NpJ w R (R + 1) d (cutL d (m.take 0)) [(lv, m)] w2 := (NpJ.of HI0.out).add hb2 hfl
  obtain ⟨lo, lc, hlv⟩ : ∃ lo lc, lv = .slice lo m.length lc := by
    obtain ⟨vs, g1, g2, g3⟩ := hfl
    exact owns_form g2
  subst hlv
  have HI2 : Hid (NpJ w R (R + 1) d (cutL d (m.take 0)) [(.slice lo m.length lc, m)] w2) := HJ2
  clear HI0 hW2 hfl hb2 HJ2 HRUN hR heg
  go_wp2
  go_loopw [10, 25] (fun _ iv wr => ∃ k : Nat, k ≤ m.length ∧ iv = .int .i64 (k : Int) ∧ NpJ w R (R + 1) d (cutL d (m.take k)) [(.slice lo m.length lc, m)] wr) (fun _ iv _ => m.length - (intOf iv).toNat)
  case atStart => exact ⟨0, Nat.zero_le _, rfl, HI2.out⟩
  case round =>
    obtain ⟨k, hk, rfl, hj⟩ := hrel
    obtain ⟨wa, rfl⟩ : ∃ wa, wa = wr := ⟨_, rfl⟩
    have HJ : Hid (NpJ w R (R + 1) d (cutL d (m.take k)) [(.slice lo m.length lc, m)] wa) := hj
    clear hj HI2
    by_cases hlt : k < m.length
    · obtain ⟨b, o, cp, r1, hs, hc1, hcc, hr1⟩ := mat_cell ((HJ.out.oth (.slice lo m.length lc, m) (by simp)).1.rws.mat (Nat.le_refl _)) hlt
      simp only [Value.slice.injEq] at hs
      obtain ⟨rfl, -, rfl⟩ := hs
      obtain ⟨ro, rc, hrv, hrc1, hrc2⟩ := sl_open hr1
      subst hrv
      have hrc1 : (m.getD k []).length ≤ rc := hrc1
      have hdl : d ≤ (m.getD k []).length := HROW.out _ (by simp [hlt])
      have hr0 : Sl 0 3 wa (.slice ro (m.getD k []).length rc) (ints (m.getD k [])) := hr1.more (Nat.zero_le _)
      obtain ⟨a, ha⟩ : ∃ a, ro = some a := by
        obtain ⟨ao, c2, e, _, _, h3, _⟩ := hr0
        obtain ⟨b', o', e2, _⟩ := h3 0 (by rw [ints_length]; omega)
        simp only [Value.slice.injEq] at e
        exact ⟨_, e.1.trans e2⟩
      subst ha
      have hsl := fun w => run_cut3 (a := a) (n := (m.getD k []).length) (c := rc) (d := d) hdl hrc1 w
      have hcut : Sl 0 3 wa.drew (.slice (some a) d d) (ints ((m.getD k []).take d)) := (hr0.cut hdl (Nat.le_refl _) (by unfold maxLen; omega)).drew
      obtain ⟨so, sc, vs, q1, q2, q3, q4⟩ := HJ.out.push ((Below.refl _ _).drew) hcut
      have HCK := HCL.out k hk
      rw [HCK] at q1 q2 q4
      rw [← HCS.out k hlt] at q4
      have HQ2 : Hid (wa.drew.ownsRow (R + 1 + 1) 35 1 (.slice so k sc) k vs) := q2
      have HQ4 : Hid (∀ v' w5, w5.ownsRow (R + 1 + 1) 35 1 v' (k + 1) (vs ++ [.slice (some a) d d]) → (wa.drew.alloc (.cells #[.slice (some a) d d] 35)).grownBy w5 (Value.slice so k sc).ownBlock → (v'.ownBlock = (Value.slice so k sc).ownBlock ∨ v'.ownBlock = some (wa.drew.heap.size + 1)) → w5.cell? ⟨R + 1, 1, none⟩ = some (.slice so k sc) ∧ w5.frozen? ⟨R + 1, 1, none⟩ = false ∧ NpJ w R (R + 1) d (cutL d (m.take (k + 1))) [(.slice (some ⟨b, o, none⟩) m.length lc, m)] (w5.setCell ⟨R + 1, 1, none⟩ v')) := q4
      have q1a : (wa.drew.alloc (.cells #[.slice (some a) d d] 35)).cell? ⟨R + 1, 1, none⟩ = some (.slice so k sc) := (((Below.refl wa.drew.heap.size wa.drew).alloc (Nat.le_refl _) _).cell (lt_of_cell q1)).trans q1
      have q1c : (wa.alloc (.cells #[.slice (some a) d d] 35)).cell? ⟨R + 1, 1, none⟩ = some (.slice so k sc) := q1a
      have q1b : wa.cell? ⟨R + 1, 1, none⟩ = some (.slice so k sc) := q1
      have HSZ : Hid (R + 1 + 1 ≤ (wa.drew.alloc (.cells #[.slice (some a) d d] 35)).heap.size) := by show _ ≤ _; simp at q3 ⊢; omega
      obtain ⟨rl, hrl⟩ : ∃ rl, rl = (m.getD k []).length := ⟨_, rfl⟩
      rw [← hrl] at hcc hsl
      have kI : (k : Int) < (m.length : Int) := by omega
      have kI0 : (0 : Int) ≤ (k : Int) := by omega
      clear q2 q4 hr1 hr0 hcut HJ HCK hrl hdl hrc1 hrc2
      go_wp2
      go_region_law (refine step_append_at (o := { dst := some 36, op := _, type := _, pos := _, after := _, guard := _ }) (by rfl) _ _ 22 (by rfl) (R + 1 + 1) 35 i0 (.slice none 0 0) 1 24 Try.underlying22 hi0 hz0 hz1 hz2 rfl (by decide) _ _ _ (by rfl) (HQ2.out.alloc _) ⟨wa.drew.heap.size, 0, none⟩ 1 1 [.slice (some a) d d] (by rfl) rfl (one_new _ _ _) (one_slice _ _ _) (by unfold maxLen; omega) (by omega) HSZ.out ?_; intro v' w5 ho hg hat; obtain ⟨vo, vc, hv5⟩ := owns_form ho; subst hv5; obtain ⟨g1, g2, g3⟩ := HQ4.out _ w5 ho hg (by simpa using hat); have HF : Hid (NpJ w R (R + 1) d (cutL d (m.take (k + 1))) [(.slice (some ⟨b, o, none⟩) m.length lc, m)] (w5.setCell ⟨R + 1, 1, none⟩ (.slice vo (k + 1) vc))) := g3; clear g3 ho hg hat)
      all_goals
        go_wp2
        go_roundw
        case rel => exact ⟨k + 1, by omega, by go_num, HF.out⟩
        case measure => simp [intOf]; omega
    · have hke : k = m.length := by omega
      subst hke
      have HK := HJ.out.I
      rw [List.take_length] at HK
      obtain ⟨bo, bc, m0, m1, r0, r1, rf0, rf1, hmat, hbel⟩ := HK.fin
      have HMT : Hid (Mat 0 35 3 ((wa.setCell ⟨R, 0, none⟩ (.int .i64 (d : Int))).setCell ⟨R, 1, none⟩ (.slice bo (cutL d m).length bc)) (.slice bo (cutL d m).length bc) (cutL d m)) := hmat
      have HBX : Hid (Below w.heap.size w ((wa.setCell ⟨R, 0, none⟩ (.int .i64 (d : Int))).setCell ⟨R, 1, none⟩ (.slice bo (cutL d m).length bc))) := hbel
      clear hmat hbel HJ HK
      generalize (cutL d m).length = cl at *
      go_wp2
      exact bodyPost_ret (v := .tuple #[.agg #[.int .i64 (d : Int), .slice bo cl bc], .int .i64 0]) (by simp [results, Try.results11, go_sem, *]) rfl ⟨_, rfl, HMT.out, HBX.out⟩

set_option maxRecDepth 100000 in
set_option maxHeartbeats 400000 in
theorem polytope_no (f most : Nat) (d : Int) (w : World) (h : d < 1 ∨ (most : Int) < d) :
    Calls Try.prog 11 #[.int .i64 d, .int .i64 (most : Int), .func (.func f) #[] #[]] w fun e w' => e = .returned (.tuple #[.agg #[.int .i64 0, .slice none 0 0], .int .i64 1]) ∧ Below w.heap.size w w' := by
  by_cases h1 : d < 1
  · go_enter Try.func11, Try.ntmps11
    go_wp2
    exact bodyPost_ret (v := .tuple #[.agg #[.int .i64 0, .slice none 0 0], .int .i64 1]) (by simp [results, Try.results11, go_sem]) rfl ⟨rfl, by simpa using (Below.refl w.heap.size w).alloc (Nat.le_refl _) _⟩
  · have h2 : (most : Int) < d := h.resolve_left h1
    clear h
    go_enter Try.func11, Try.ntmps11
    go_wp2
    exact bodyPost_ret (v := .tuple #[.agg #[.int .i64 0, .slice none 0 0], .int .i64 1]) (by simp [results, Try.results11, go_sem]) rfl ⟨rfl, by simpa using (Below.refl w.heap.size w).alloc (Nat.le_refl _) _⟩

end Go.Proofs.Ytiadekblckngiaa
