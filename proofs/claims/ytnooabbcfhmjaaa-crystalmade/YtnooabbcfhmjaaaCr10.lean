/- crystal.Mark. -/
import Derived.Test.YtnooabbcfhmjaaaCr9
namespace Go.Proofs.Ytnooabbcfhmjaaa
open Go.RowKit
attribute [local go_sem ↓] Go.wp_at_zero Go.wp_at_succ

/-- How many of a letter. -/
def cnF (wd : List Nat) (k j : Nat) : Int := ((wd.take k).count j : Int)

theorem cnF_succ {wd : List Nat} {k : Nat} (hk : k < wd.length) (j : Nat) : cnF wd (k + 1) j = cnF wd k j + (if wd.getD k 0 = j then 1 else 0) := by
  have e : wd.getD k 0 = wd[k] := by simp [hk]
  unfold cnF
  rw [List.take_succ_eq_append_getElem hk, e]
  simp only [List.count_append, List.count_singleton, beq_iff_eq]
  split <;> simp

theorem cnF_le (wd : List Nat) (k j : Nat) : 0 ≤ cnF wd k j ∧ cnF wd k j ≤ k := by
  unfold cnF
  have h1 : (wd.take k).count j ≤ k := Nat.le_trans List.count_le_length (by simp; omega)
  omega

theorem mkR_zero (n : Nat) {f : Nat → Int} (h : ∀ j, f j = 0) : mkR n f = List.replicate n 0 := by
  apply List.ext_getElem (by simp [mkR])
  intro j h1 h2
  simp [mkR, h]

/-- A row of the call's own at a block, over a world. -/
structure RwI (g : Nat) (w0 : World) (n : Nat) (f : Nat → Int) (wr : World) : Prop where
  own : wr.ownsRow g 3 1 (.slice (some ⟨g, 0, none⟩) n n) n (ints (mkR n f))
  bel : Below w0.heap.size w0 wr

theorem RwI.cell {g : Nat} {w0 wr : World} {n i : Nat} {f : Nat → Int} (h : RwI g w0 n f wr) (hi : i < n) : wr.cell? ⟨g, i, none⟩ = some (.int .i64 (f i)) ∧ wr.frozen? ⟨g, i, none⟩ = false := by
  refine ⟨?_, h.own.frozenAt i⟩
  have := num_cell (l := mkR n f) (by rw [mkR_len]; exact h.own) (p := i) (by rw [mkR_len]; exact hi)
  rw [this, mkR_get f hi]

theorem RwI.set {g : Nat} {w0 wr : World} {n i : Nat} {f f2 : Nat → Int} {z : Int} (h : RwI g w0 n f wr) (h0 : w0.heap.size ≤ g) (hi : i < n) (hz : f2 i = z) (hg : ∀ j, j < n → j ≠ i → f2 j = f j) : RwI g w0 n f2 (wr.setCell ⟨g, i, none⟩ (.int .i64 z)) := by
  have := num_set (l := mkR n f) (p := i) (z := z) (by rw [mkR_len]; exact h.own) h.bel h0
  rw [mkR_len] at this
  refine ⟨?_, this.2⟩
  rw [mkR_set hi hg, hz]
  exact this.1

theorem RwI.to {g : Nat} {w0 wr : World} {n : Nat} {f f2 : Nat → Int} (h : RwI g w0 n f wr) (hg : ∀ j, j < n → f2 j = f j) : RwI g w0 n f2 wr := ⟨by rw [mkR_congr hg]; exact h.own, h.bel⟩

theorem RwI.made {w0 w : World} {n : Nat} {f : Nat → Int} (hb : Below w0.heap.size w0 w) (hn : n ≤ 1000) (hf : ∀ j, f j = 0) : RwI w.heap.size w0 n f (w.alloc (.cells (madeCells #[.int .i64 0] n) 3)) :=
  ⟨by rw [mkR_zero n hf]; exact made_own w n _ (Nat.le_refl _) hn, hb.alloc hb.size _⟩

/-- What is written elsewhere changes nothing. -/
theorem RwI.other {g g2 i : Nat} {w0 wr : World} {n : Nat} {f : Nat → Int} {u : Value} (h : RwI g w0 n f wr) (hne : g ≠ g2) (hb : Below w0.heap.size w0 (wr.setCell ⟨g2, i, none⟩ u)) : RwI g w0 n f (wr.setCell ⟨g2, i, none⟩ u) :=
  ⟨own_keepK h.own fun b hb => by
    simp only [Value.ownBlock, Option.some.injEq] at hb
    subst hb
    exact Below.heap_setCell _ _ _ _ hne, hb⟩

set_option maxRecDepth 100000 in
set_option maxHeartbeats 800000 in
theorem mark_no (B : Nat) (n : Int) (m : List Int) (v : Value) (w : World) (hv : Sl B 3 w v (ints m)) (h0 : ¬ chkE n m = 0) :
    Calls Try.prog 14 #[.int .i64 n, v] w fun e w' => e = .returned (.tuple #[.slice none 0 0, .int .i64 (chkE n m)]) ∧ Below w.heap.size w w' := by
  have HC := checkK_any B n m v w hv
  obtain ⟨ao, cap, hvv, hlc, hcm⟩ := sl_open hv
  subst hvv
  clear hv
  generalize chkE n m = E at *
  go_enter Try.func14, Try.ntmps14
  go_wp2_with fail
  refine HC.mono ?_
  rintro e w1 ⟨rfl, hb⟩
  have HB : Hid (Below w.heap.size w w1) := hb
  clear HC hb
  go_wp2
  go_ret2
  exact ⟨rfl, HB.out⟩

set_option maxRecDepth 100000 in
set_option maxHeartbeats 3200000 in
theorem mark_any (B : Nat) (n : Nat) (wd : List Nat) (v : Value) (w : World) (hv : Sl B 3 w v (ints (natsI wd))) (h0 : chkE n (natsI wd) = 0) (hn3 : n ≤ 3) (hl : wd.length ≤ 8) (hlw : Lw n wd) :
    Calls Try.prog 14 #[.int .i64 (n : Int), v] w fun e w' => ∃ g, e = .returned (.tuple #[.slice (some ⟨g, 0, none⟩) n n, .int .i64 0]) ∧ RwI g w n (mkM wd wd.length) w' := by
  have HC := checkK_any B n (natsI wd) v w hv
  rw [h0] at HC
  have HLW : Hid (∀ k, k < wd.length → wd.getD k 0 ≤ n) := fun k hk => hlw _ (by simp [hk])
  obtain ⟨ao, cap, hvv, hlc, hcm⟩ := sl_open hv
  subst hvv
  rw [natsI_len] at hv hlc HC ⊢
  have HV : Hid (Sl B 3 w (.slice ao wd.length cap) (ints (natsI wd))) := hv
  clear hv h0 hlw
  obtain ⟨n1, hn1⟩ : ∃ n1, n + 1 = n1 := ⟨_, rfl⟩
  have hn1I : (n : Int) + 1 = (n1 : Int) := by omega
  have hwr : IntKind.i64.wrap ((n : Int) + 1) = (n1 : Int) := by
    rw [hn1I, IntWalk.i64_left]
    exact IntWalk.wrap64_in _ ⟨by omega, by omega⟩
  have hmk1 : ∀ w : World, (Instr.makeSlice 22 (.int .i64 ((n : Int) + 1)) (.int .i64 ((n : Int) + 1))).run Try.prog w = .ok (.slice (some ⟨w.heap.size, 0, none⟩) n1 n1) (w.alloc (.cells (madeCells #[.int .i64 0] n1) 3)) := by
    rw [hn1I]
    exact run_make_row' (P := Try.prog) 22 3 (.int .i64 0) 8 Try.underlying22 (by kernel_rfl) rfl .i64 .i64 n1 (by omega) (by omega)
  have hmk : ∀ w : World, (Instr.makeSlice 22 (.int .i64 (n : Int)) (.int .i64 (n : Int))).run Try.prog w = .ok (.slice (some ⟨w.heap.size, 0, none⟩) n n) (w.alloc (.cells (madeCells #[.int .i64 0] n) 3)) := run_make_row' (P := Try.prog) 22 3 (.int .i64 0) 8 Try.underlying22 (by kernel_rfl) rfl .i64 .i64 n (by omega) (by omega)
  have HMK : Hid (∀ w : World, (Instr.makeSlice 22 (.int .i64 (n : Int)) (.int .i64 (n : Int))).run Try.prog w = .ok (.slice (some ⟨w.heap.size, 0, none⟩) n n) (w.alloc (.cells (madeCells #[.int .i64 0] n) 3))) := hmk
  clear hmk hn1I hwr
  go_enter Try.func14, Try.ntmps14
  go_wp2_with fail
  refine HC.mono ?_
  rintro e w1 ⟨rfl, hb⟩
  have HB : Hid (Below w.heap.size w w1) := hb
  have hsz : w.heap.size ≤ w1.heap.size := hb.size
  have HM0 : Hid (RwI w1.heap.size w n1 (cnF wd 0) (w1.alloc (.cells (madeCells #[.int .i64 0] n1) 3))) := RwI.made hb (by omega) (fun j => by simp [cnF])
  obtain ⟨G, hG⟩ : ∃ G, w1.heap.size = G := ⟨_, rfl⟩
  clear HC hb
  go_wp2
  rw [hG] at HM0 hsz
  go_loopw [23] (fun kv wr => ∃ k : Nat, k ≤ wd.length ∧ kv = .int .i64 (k : Int) ∧ RwI G w n1 (cnF wd k) wr) (fun kv _ => wd.length - (intOf kv).toNat)
  case atStart => exact ⟨0, Nat.zero_le _, rfl, HM0.out⟩
  case round =>
    obtain ⟨k, hk, rfl, hm⟩ := hrel
    have HM : Hid (RwI G w n1 (cnF wd k) wr) := hm
    clear HM0
    by_cases hlt : k < wd.length
    · have hx := HLW.out k hlt
      obtain ⟨hc1, hf1⟩ := hm.cell (i := wd.getD k 0) (by omega)
      obtain ⟨b1, o, cp, hs, _, hcc⟩ := sl_cell (HV.out.below hm.bel (Nat.le_refl _)) (k := k) (by rw [natsI_len]; exact hlt)
      rw [natsI_len] at hs
      simp only [Value.slice.injEq, true_and] at hs
      obtain ⟨rfl, rfl⟩ := hs
      rw [natsI_at hlt] at hcc
      have HF : Hid (RwI G w n1 (cnF wd (k + 1)) (wr.setCell ⟨G, wd.getD k 0, none⟩ (.int .i64 (cnF wd k (wd.getD k 0) + 1)))) := hm.set hsz (by omega) (by rw [cnF_succ hlt, if_pos rfl]) (fun j _ hj => by rw [cnF_succ hlt, if_neg (fun e => hj e.symm)]; omega)
      have hbd := cnF_le wd k (wd.getD k 0)
      generalize cnF wd k (wd.getD k 0) = z at *
      generalize wd.getD k 0 = x at *
      have hxI : (x : Int) < (n1 : Int) := by omega
      have hltI : (k : Int) < (wd.length : Int) := by omega
      clear hm hmk1
      go_wp2
      go_roundw
      case rel => exact ⟨k + 1, by omega, by go_num, HF.out⟩
      case measure => simp [intOf]; omega
    · have hke : k = wd.length := by omega
      subst hke
      have hszr : w.heap.size ≤ wr.heap.size := hm.bel.size
      have hGr : G < wr.heap.size := (hm.own.lt G rfl).2
      obtain ⟨H, hH⟩ : ∃ H, wr.heap.size = H := ⟨_, rfl⟩
      have hmk := HMK.out
      have HF0 : Hid (RwI H w n (fun j => if j < 0 then mkM wd wd.length j else 0) (wr.alloc (.cells (madeCells #[.int .i64 0] n) 3))) := by rw [← hH]; exact RwI.made hm.bel (by omega) (fun j => rfl)
      have HM1 : Hid (RwI G w n1 (cnF wd wd.length) (wr.alloc (.cells (madeCells #[.int .i64 0] n) 3))) := ⟨hm.own.alloc _, hm.bel.alloc hszr _⟩
      clear hm HM HMK hmk1
      go_wp2
      clear hmk
      rw [hH] at hszr hGr
      go_loopw [38] (fun kv wq => ∃ k : Nat, k ≤ n ∧ kv = .int .i64 (k : Int) ∧ RwI H w n (fun j => if j < k then mkM wd wd.length j else 0) wq ∧ RwI G w n1 (cnF wd wd.length) wq) (fun kv _ => n - (intOf kv).toNat)
      case atStart => exact ⟨0, Nat.zero_le _, rfl, HF0.out, HM1.out⟩
      case round =>
        obtain ⟨k, hk, rfl, hm, hm1⟩ := hrel
        rename World => wq
        clear HF0 HM1
        by_cases hlt2 : k < n
        · obtain ⟨hc0, hf0⟩ := hm.cell hlt2
          obtain ⟨hc1, _⟩ := hm1.cell (i := k) (by omega)
          obtain ⟨hc2, _⟩ := hm1.cell (i := k + 1) (by omega)
          have eM : mkM wd wd.length k = cnF wd wd.length k - cnF wd wd.length (k + 1) := rfl
          have hb1 := cnF_le wd wd.length k
          have hb2 := cnF_le wd wd.length (k + 1)
          have HSA : Hid (RwI H w n (fun j => if j < k + 1 then mkM wd wd.length j else 0) (wq.setCell ⟨H, k, none⟩ (.int .i64 (cnF wd wd.length k - cnF wd wd.length (k + 1))))) := hm.set hszr hlt2 (by show (if k < k + 1 then _ else _) = _; rw [if_pos (by omega)]; exact eM) (fun j _ hj => by
            show (if j < k + 1 then _ else _) = if j < k then _ else _
            by_cases h : j < k
            · rw [if_pos h, if_pos (by omega)]
            · rw [if_neg h, if_neg (by omega)])
          have HSB : Hid (RwI G w n1 (cnF wd wd.length) (wq.setCell ⟨H, k, none⟩ (.int .i64 (cnF wd wd.length k - cnF wd wd.length (k + 1))))) := hm1.other (by omega) HSA.out.bel
          have HSC : Hid ((wq.setCell ⟨H, k, none⟩ (.int .i64 (cnF wd wd.length k - cnF wd wd.length (k + 1)))).cell? ⟨G, k, none⟩ = some (.int .i64 (cnF wd wd.length k)) ∧ (wq.setCell ⟨H, k, none⟩ (.int .i64 (cnF wd wd.length k - cnF wd wd.length (k + 1)))).cell? ⟨G, k + 1, none⟩ = some (.int .i64 (cnF wd wd.length (k + 1)))) := ⟨(HSB.out.cell (i := k) (by omega)).1, (HSB.out.cell (i := k + 1) (by omega)).1⟩
          generalize cnF wd wd.length k = X at *
          generalize cnF wd wd.length (k + 1) = Y at *
          generalize (if k < k then mkM wd wd.length k else 0 : Int) = Z at *
          obtain ⟨K1, hK1⟩ : ∃ K1 : Nat, k + 1 = K1 := ⟨_, rfl⟩
          rw [hK1] at hc2 HSC
          have hwr : IntKind.i64.wrap ((k : Int) + 1) = (K1 : Int) := by
            rw [show (k : Int) + 1 = (K1 : Int) by omega, IntWalk.i64_left]
            exact IntWalk.wrap64_in _ ⟨by omega, by omega⟩
          have hws : IntKind.i64.wrap (X - Y) = X - Y := by
            rw [IntWalk.i64_left]
            exact IntWalk.wrap64_in _ ⟨by omega, by omega⟩
          have kI : (k : Int) < (n : Int) := by omega
          have kI1 : (k : Int) < (n1 : Int) := by omega
          have kI2 : (K1 : Int) < (n1 : Int) := by omega
          have k0 : (0 : Int) ≤ (k : Int) := by omega
          have k10 : (0 : Int) ≤ (K1 : Int) := by omega
          clear hm hm1 eM
          go_wp2
          refine wp_region_held_drew (S := fun w' => w'.cell? ⟨G, k, none⟩ = some (.int .i64 X) ∧ w'.cell? ⟨G, K1, none⟩ = some (.int .i64 Y)) (by kernel_rfl) ⟨hc1, hc2⟩ (fun hHeld => ?_)
          refine wpAnyH_tk (i := 0) (d := 41) (v := (.slice (some ⟨H, 0, none⟩) n n)) rfl rfl (by kernel_rfl) (by kernel_rfl) (by kernel_rfl) (fun _ _ _ h => h) (.inl ⟨by rfl, by (intro wq hSw; (try dsimp only at hSw); go_simp; (try (first | rfl | omega)))⟩) hHeld ?_
          simp only [Act.put, List.setIfInBounds_toArray, List.set_cons_zero, List.set_cons_succ]
          refine wpAnyH_tk (i := 1) (d := 42) (v := (.int .i64 (k : Int))) rfl rfl (by kernel_rfl) (by kernel_rfl) (by kernel_rfl) (fun _ _ _ h => h) (.inl ⟨by rfl, by (intro wq hSw; (try dsimp only at hSw); go_simp; (try (first | rfl | omega)))⟩) hHeld ?_
          simp only [Act.put, List.setIfInBounds_toArray, List.set_cons_zero, List.set_cons_succ]
          refine wpAnyH_tk (i := 2) (d := 43) (v := (.slice (some ⟨G, 0, none⟩) n1 n1)) rfl rfl (by kernel_rfl) (by kernel_rfl) (by kernel_rfl) (fun _ _ _ h => h) (.inl ⟨by rfl, by (intro wq hSw; (try dsimp only at hSw); go_simp; (try (first | rfl | omega)))⟩) hHeld ?_
          simp only [Act.put, List.setIfInBounds_toArray, List.set_cons_zero, List.set_cons_succ]
          refine wpAnyH_tk (i := 3) (d := 44) (v := (.int .i64 (k : Int))) rfl rfl (by kernel_rfl) (by kernel_rfl) (by kernel_rfl) (fun _ _ _ h => h) (.inl ⟨by rfl, by (intro wq hSw; (try dsimp only at hSw); go_simp; (try (first | rfl | omega)))⟩) hHeld ?_
          simp only [Act.put, List.setIfInBounds_toArray, List.set_cons_zero, List.set_cons_succ]
          refine wpAnyH_tk (i := 4) (d := 45) (v := (.pointer (some ⟨G, k, none⟩))) rfl rfl (by kernel_rfl) (by kernel_rfl) (by kernel_rfl) (fun _ _ _ h => h) (.inl ⟨by rfl, by (intro wq hSw; (try dsimp only at hSw); go_simp; (try (first | rfl | omega)))⟩) hHeld ?_
          simp only [Act.put, List.setIfInBounds_toArray, List.set_cons_zero, List.set_cons_succ]
          refine wpAnyH_tk (i := 5) (d := 46) (v := (.int .i64 X)) rfl rfl (by kernel_rfl) (by kernel_rfl) (by kernel_rfl) (fun _ _ _ h => h) (.inl ⟨by rfl, by (intro wq hSw; (try dsimp only at hSw); go_simp; (try (first | rfl | omega)))⟩) hHeld ?_
          simp only [Act.put, List.setIfInBounds_toArray, List.set_cons_zero, List.set_cons_succ]
          refine wpAnyH_tk (i := 6) (d := 47) (v := (.slice (some ⟨G, 0, none⟩) n1 n1)) rfl rfl (by kernel_rfl) (by kernel_rfl) (by kernel_rfl) (fun _ _ _ h => h) (.inl ⟨by rfl, by (intro wq hSw; (try dsimp only at hSw); go_simp; (try (first | rfl | omega)))⟩) hHeld ?_
          simp only [Act.put, List.setIfInBounds_toArray, List.set_cons_zero, List.set_cons_succ]
          refine wpAnyH_tk (i := 7) (d := 48) (v := (.int .i64 (k : Int))) rfl rfl (by kernel_rfl) (by kernel_rfl) (by kernel_rfl) (fun _ _ _ h => h) (.inl ⟨by rfl, by (intro wq hSw; (try dsimp only at hSw); go_simp; (try (first | rfl | omega)))⟩) hHeld ?_
          simp only [Act.put, List.setIfInBounds_toArray, List.set_cons_zero, List.set_cons_succ]
          refine wpAnyH_tk (i := 8) (d := 49) (v := (.int .i64 (K1 : Int))) rfl rfl (by kernel_rfl) (by kernel_rfl) (by kernel_rfl) (fun _ _ _ h => h) (.inl ⟨by rfl, by (intro wq hSw; (try dsimp only at hSw); go_simp; (try (first | rfl | omega)))⟩) hHeld ?_
          simp only [Act.put, List.setIfInBounds_toArray, List.set_cons_zero, List.set_cons_succ]
          refine wpAnyH_tk (i := 9) (d := 50) (v := (.pointer (some ⟨G, K1, none⟩))) rfl rfl (by kernel_rfl) (by kernel_rfl) (by kernel_rfl) (fun _ _ _ h => h) (.inl ⟨by rfl, by (intro wq hSw; (try dsimp only at hSw); go_simp; (try (first | rfl | omega)))⟩) hHeld ?_
          simp only [Act.put, List.setIfInBounds_toArray, List.set_cons_zero, List.set_cons_succ]
          refine wpAnyH_tk (i := 10) (d := 51) (v := (.int .i64 Y)) rfl rfl (by kernel_rfl) (by kernel_rfl) (by kernel_rfl) (fun _ _ _ h => h) (.inl ⟨by rfl, by (intro wq hSw; (try dsimp only at hSw); go_simp; (try (first | rfl | omega)))⟩) hHeld ?_
          simp only [Act.put, List.setIfInBounds_toArray, List.set_cons_zero, List.set_cons_succ]
          refine wpAnyH_tk (i := 11) (d := 52) (v := (.int .i64 (X - Y))) rfl rfl (by kernel_rfl) (by kernel_rfl) (by kernel_rfl) (fun _ _ _ h => h) (.inl ⟨by rfl, by (intro wq hSw; (try dsimp only at hSw); go_simp; (try (first | rfl | omega)))⟩) hHeld ?_
          simp only [Act.put, List.setIfInBounds_toArray, List.set_cons_zero, List.set_cons_succ]
          refine wpAnyH_tk (i := 12) (d := 53) (v := (.pointer (some ⟨H, k, none⟩))) rfl rfl (by kernel_rfl) (by kernel_rfl) (by kernel_rfl) (fun _ _ _ h => h) (.inl ⟨by rfl, by (intro wq hSw; (try dsimp only at hSw); go_simp; (try (first | rfl | omega)))⟩) hHeld ?_
          simp only [Act.put, List.setIfInBounds_toArray, List.set_cons_zero, List.set_cons_succ]
          refine wpAnyH_ready (rs := [13]) (by kernel_rfl) (by simp) ?_
          refine ready_tk (i := 13) rfl (by rfl) (fun K hK => ?_) AllReadyH.nil
          go_simp
          refine hK.out _ _ HSC.out (fun hHeld => ?_)
          clear hK K
          refine wpAnyH_done (by kernel_rfl) ?_ _
          clear hHeld
          clear hwr hws
          go_wp2
          go_roundw
          case rel => exact ⟨k + 1, by omega, by go_num, ⟨HSA.out.own, HSA.out.bel.trans ⟨rfl, rfl, rfl, Nat.le_refl _, fun _ _ => rfl⟩⟩, ⟨HSB.out.own, HSB.out.bel.trans ⟨rfl, rfl, rfl, Nat.le_refl _, fun _ _ => rfl⟩⟩⟩
          case measure => simp [intOf]; omega
        · have hke : k = n := by omega
          subst hke
          have HF : Hid (RwI H w k (mkM wd wd.length) wq) := hm.to fun j hj => by
            show _ = if j < k then _ else _
            rw [if_pos hj]
          clear hm hm1
          go_wp2
          go_ret2
          exact ⟨H, rfl, HF.out⟩

end Go.Proofs.Ytnooabbcfhmjaaa
