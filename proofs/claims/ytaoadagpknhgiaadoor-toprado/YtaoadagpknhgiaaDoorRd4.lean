/- facettop.misses. -/
import Derived.Test.YtaoadagpknhgiaaDoorRd3
namespace Go.Proofs.YtaoadagpknhgiaaDoor
open Go.RowKit
attribute [local go_sem ↓] Go.wp_at_zero Go.wp_at_succ

theorem wgL_succ (k a b : Nat) : wgL (k + 1) a b = wgL k a b ++ [wg a b k] := by
  unfold wgL
  rw [List.range_succ, List.map_append]; rfl

/-- Those that are done. -/
def dnN (ws : List Int) : Nat → Nat
  | 0 => 0
  | k + 1 => dnN ws k ||| 2 ^ ((hvL ws).getD k 0).toNat

theorem dnN_bit {ws : List Int} : ∀ (k i : Nat), k ≤ ws.length → (dnN ws k).testBit i = dnB ws k i
  | 0, i, _ => by simp [dnN, dnB]
  | k + 1, i, hk => by
    have hp := (hvL_keep ws).2 k (by rw [(hvL_keep ws).1]; omega)
    rw [dnN, or_bit, dnN_bit k i (by omega), dn_succ (b := ((hvL ws).getD k 0).toNat) (by omega) (by omega) i]
    by_cases h : i = ((hvL ws).getD k 0).toNat
    · rw [if_pos h, h]; simp
    · rw [if_neg h]
      have : decide (((hvL ws).getD k 0).toNat = i) = false := decide_eq_false (fun e => h e.symm)
      rw [this, Bool.or_false]

theorem dnN_lt {ws : List Int} (hn : ws.length ≤ 8) : ∀ k, k ≤ ws.length → dnN ws k < 256
  | 0, _ => by simp [dnN]
  | k + 1, hk => by
    have hp := (hvL_keep ws).2 k (by rw [(hvL_keep ws).1]; omega)
    rw [dnN]
    exact Nat.or_lt_two_pow (n := 8) (dnN_lt hn k (by omega)) (Nat.pow_lt_pow_right (by omega) (by omega))

theorem wg_bd (a b i : Nat) : 0 ≤ wg a b i ∧ wg a b i ≤ 1000 := by
  unfold wg
  cases a.testBit i <;> cases b.testBit i <;> simp

set_option maxRecDepth 100000 in
set_option maxHeartbeats 1600000 in
theorem misses_any (bs : List Int) (n a b : Nat) (v : Value) (w : World) (hv : Sl w.heap.size 3 w v (ints bs)) (hn : n ≤ 8) (ha : a < 2 ^ n) (hb : b < 2 ^ n) (hbs : ∀ x ∈ bs, ∃ B : Nat, x = (B : Int) ∧ B < 2 ^ n) :
    Calls Tryd.prog 9 #[.agg #[.int .i64 n, v], .int .i64 a, .int .i64 b] w fun e w' => e = .returned (.bool (missB bs n a b)) ∧ Below w.heap.size w w' := by
  obtain ⟨i3, hi3, hz30, hz31, hz32⟩ := info_parts Tryd.info3
  obtain ⟨ao, cap, hvv, hlc, hcm⟩ := sl_open hv
  subst hvv
  obtain ⟨W, hW⟩ : ∃ W, W = w.alloc (.cells #[.int .i64 n, .slice ao bs.length cap] 27) := ⟨_, rfl⟩
  have HBA : Hid (Below w.heap.size w W) := by rw [hW]; exact (Below.refl _ _).alloc (Nat.le_refl _) _
  have c0 : W.cell? ⟨w.heap.size, 0, none⟩ = some (.int .i64 n) := by rw [hW]; simp
  have c1 : W.cell? ⟨w.heap.size, 1, none⟩ = some (.slice ao bs.length cap) := by rw [hW]; simp
  have hp8 : 2 ^ n ≤ 256 := show 2 ^ n ≤ 2 ^ 8 from Nat.pow_le_pow_right (by omega) hn
  have h8 : B8 bs := fun x hx => by
    obtain ⟨B, rfl, h⟩ := hbs x hx
    omega
  have HC : Hid (∀ W', Below W.heap.size W W' → W'.cell? ⟨w.heap.size, 0, none⟩ = some (.int .i64 n) ∧ W'.cell? ⟨w.heap.size, 1, none⟩ = some (.slice ao bs.length cap) ∧ Sl w.heap.size 3 W' (.slice ao bs.length cap) (ints bs) ∧ Below w.heap.size w W') := fun W' h =>
    ⟨(h.cell (lt_of_cell c0)).trans c0, (h.cell (lt_of_cell c1)).trans c1, (hv.below HBA.out (Nat.le_refl _)).below h (Nat.le_refl _), HBA.out.trans (h.mono HBA.out.size)⟩
  have HIF : Hid (∀ W' (s : Nat), Below W.heap.size W W' → s < 256 → Calls Tryd.prog 13 #[.agg #[.int .i64 n, .slice ao bs.length cap], .int .i64 s] W' fun e w' => e = .returned (.bool (freeB bs s)) ∧ Below W'.heap.size W' w') := fun W' s h hs =>
    isFree_any n bs s _ W' ((HC.out W' h).2.2.1.more (Nat.le_trans HBA.out.size h.size)) h8 hs
  have HGA : Hid (a < 2 ^ n ∧ b < 2 ^ n ∧ 2 ^ n ≤ 256) := ⟨ha, hb, hp8⟩
  have HBS : Hid (∀ x ∈ bs, ∃ B : Nat, x = (B : Int) ∧ B < 2 ^ n) := hbs
  clear hv h8 ha hb hbs hp8
  go_enter Tryd.func9, Tryd.ntmps9
  go_wp2
  rw [← hW]
  clear hW c0 c1
  go_loopw [7, 8] (fun wv i wr => ∃ k : Nat, k ≤ n ∧ i = .int .i64 k ∧ wr.ownsRow W.heap.size 3 1 wv k (ints (wgL k a b)) ∧ Below W.heap.size W wr) (fun _ i _ => n - (intOf i).toNat)
  case atStart => exact ⟨0, Nat.zero_le _, rfl, World.ownsRow_nil _ _ _ _, Below.refl _ _⟩
  case round =>
    obtain ⟨k, hk, rfl, ho, hbr⟩ := hrel
    have HO : Hid (wr.ownsRow W.heap.size 3 1 u7 k (ints (wgL k a b))) := ho
    have HB : Hid (Below W.heap.size W wr) := hbr
    obtain ⟨d0, -, -, -⟩ := HC.out wr hbr
    clear ho hbr
    have hszr : W.heap.size ≤ wr.heap.size := HB.out.size
    by_cases hlt : k < n
    · have kI : (k : Int) < (n : Int) := by omega
      have ta := bit_eq1 a k
      have tb := bit_eq1 b k
      cases hta : a.testBit k
      · cases htb : b.testBit k
        · have HSN : Hid (wgL (k + 1) a b = wgL k a b ++ [0]) := by
            show _ = _
            rw [wgL_succ, wg, hta, htb]; rfl
          rw [hta] at ta
          rw [htb] at tb
          clear hta htb
          go_wp2_with (first | (at_builtin; refine wpList_append_own _ rfl _ _ 22 rfl W.heap.size 3 i3 (.int .i64 0) 1 8 Tryd.underlying22 hi3 hz30 hz31 hz32 rfl (by decide) _ _ _ rfl (HO.out.alloc _) ⟨wr.heap.size, 0, none⟩ 1 1 [.int .i64 0] rfl rfl (one_new _ _ _) (one_int _) ?c3 ?c4 ?c5 ?_))
          case c3 => unfold maxLen; omega
          case c4 => omega
          case c5 => first | exact hszr | omega | (simp; omega)
          intro v' w3 ho3 hg3 _
          have R1 : Hid (w3.ownsRow W.heap.size 3 1 v' (k + 1) (ints (wgL (k + 1) a b))) := by
            have e2 : ints (wgL (k + 1) a b) = ints (wgL k a b) ++ [.int .i64 0] := by rw [HSN.out]; simp [ints]
            show World.ownsRow _ _ _ _ _ _ _
            rw [e2]
            exact ho3
          have R2 : Hid (Below W.heap.size W w3) := (HB.out.alloc hszr _).grown hg3 (by simp; omega) (fun x hx => (HO.out.lt x hx).1)
          clear ho3 hg3
          go_wp2
          exact ⟨⟨k + 1, by omega, by go_num, R1.out, R2.out⟩, by simp [intOf]; omega⟩
        · have HSN : Hid (wgL (k + 1) a b = wgL k a b ++ [900]) := by
            show _ = _
            rw [wgL_succ, wg, hta, htb]; rfl
          rw [hta] at ta
          rw [htb] at tb
          clear hta htb
          go_wp2_with (first | (at_builtin; refine wpList_append_own _ rfl _ _ 22 rfl W.heap.size 3 i3 (.int .i64 0) 1 8 Tryd.underlying22 hi3 hz30 hz31 hz32 rfl (by decide) _ _ _ rfl (HO.out.alloc _) ⟨wr.heap.size, 0, none⟩ 1 1 [.int .i64 900] rfl rfl (one_new _ _ _) (one_int _) ?c3 ?c4 ?c5 ?_))
          case c3 => unfold maxLen; omega
          case c4 => omega
          case c5 => first | exact hszr | omega | (simp; omega)
          intro v' w3 ho3 hg3 _
          have R1 : Hid (w3.ownsRow W.heap.size 3 1 v' (k + 1) (ints (wgL (k + 1) a b))) := by
            have e2 : ints (wgL (k + 1) a b) = ints (wgL k a b) ++ [.int .i64 900] := by rw [HSN.out]; simp [ints]
            show World.ownsRow _ _ _ _ _ _ _
            rw [e2]
            exact ho3
          have R2 : Hid (Below W.heap.size W w3) := (HB.out.alloc hszr _).grown hg3 (by simp; omega) (fun x hx => (HO.out.lt x hx).1)
          clear ho3 hg3
          go_wp2
          exact ⟨⟨k + 1, by omega, by go_num, R1.out, R2.out⟩, by simp [intOf]; omega⟩
      · cases htb : b.testBit k
        · have HSN : Hid (wgL (k + 1) a b = wgL k a b ++ [901]) := by
            show _ = _
            rw [wgL_succ, wg, hta, htb]; rfl
          rw [hta] at ta
          rw [htb] at tb
          clear hta htb
          go_wp2_with (first | (at_builtin; refine wpList_append_own _ rfl _ _ 22 rfl W.heap.size 3 i3 (.int .i64 0) 1 8 Tryd.underlying22 hi3 hz30 hz31 hz32 rfl (by decide) _ _ _ rfl (HO.out.alloc _) ⟨wr.heap.size, 0, none⟩ 1 1 [.int .i64 901] rfl rfl (one_new _ _ _) (one_int _) ?c3 ?c4 ?c5 ?_))
          case c3 => unfold maxLen; omega
          case c4 => omega
          case c5 => first | exact hszr | omega | (simp; omega)
          intro v' w3 ho3 hg3 _
          have R1 : Hid (w3.ownsRow W.heap.size 3 1 v' (k + 1) (ints (wgL (k + 1) a b))) := by
            have e2 : ints (wgL (k + 1) a b) = ints (wgL k a b) ++ [.int .i64 901] := by rw [HSN.out]; simp [ints]
            show World.ownsRow _ _ _ _ _ _ _
            rw [e2]
            exact ho3
          have R2 : Hid (Below W.heap.size W w3) := (HB.out.alloc hszr _).grown hg3 (by simp; omega) (fun x hx => (HO.out.lt x hx).1)
          clear ho3 hg3
          go_wp2
          exact ⟨⟨k + 1, by omega, by go_num, R1.out, R2.out⟩, by simp [intOf]; omega⟩
        · have HSN : Hid (wgL (k + 1) a b = wgL k a b ++ [1000]) := by
            show _ = _
            rw [wgL_succ, wg, hta, htb]; rfl
          rw [hta] at ta
          rw [htb] at tb
          clear hta htb
          go_wp2_with (first | (at_builtin; refine wpList_append_own _ rfl _ _ 22 rfl W.heap.size 3 i3 (.int .i64 0) 1 8 Tryd.underlying22 hi3 hz30 hz31 hz32 rfl (by decide) _ _ _ rfl (HO.out.alloc _) ⟨wr.heap.size, 0, none⟩ 1 1 [.int .i64 1000] rfl rfl (one_new _ _ _) (one_int _) ?c3 ?c4 ?c5 ?_))
          case c3 => unfold maxLen; omega
          case c4 => omega
          case c5 => first | exact hszr | omega | (simp; omega)
          intro v' w3 ho3 hg3 _
          have R1 : Hid (w3.ownsRow W.heap.size 3 1 v' (k + 1) (ints (wgL (k + 1) a b))) := by
            have e2 : ints (wgL (k + 1) a b) = ints (wgL k a b) ++ [.int .i64 1000] := by rw [HSN.out]; simp [ints]
            show World.ownsRow _ _ _ _ _ _ _
            rw [e2]
            exact ho3
          have R2 : Hid (Below W.heap.size W w3) := (HB.out.alloc hszr _).grown hg3 (by simp; omega) (fun x hx => (HO.out.lt x hx).1)
          clear ho3 hg3
          go_wp2
          exact ⟨⟨k + 1, by omega, by go_num, R1.out, R2.out⟩, by simp [intOf]; omega⟩
    · have hke : n = k := by omega
      subst hke
      obtain ⟨wo, wc, hu⟩ := owns_form HO.out
      subst hu
      obtain ⟨wl, rfl⟩ : ∃ wl, wl = wr := ⟨wr, rfl⟩
      have HLW : Hid (Sl 0 3 wl (.slice wo n wc) (ints (wgL n a b))) := Sl.own HO.out
      obtain ⟨hga, hgb, hg8⟩ := HGA.out
      have hwl := wgL_len n a b
      have HWL : Hid ((wgL n a b).length = n) := hwl
      have HWB : Hid (∀ i : Nat, 0 ≤ (wgL n a b).getD i 0 ∧ (wgL n a b).getD i 0 ≤ 1000) := fun i => by
        rw [wgL_get hga hgb]; exact wg_bd a b i
      have HBD : Hid (∀ k, k ≤ n → (grT bs (wgL n a b) (hvL (wgL n a b)) k).1 < 256) := fun k hk => (grT_bd (bs := bs) (ws := wgL n a b) (l := hvL (wgL n a b)) hn (by rw [(hvL_keep _).1, hwl]) (by have := (hvL_keep (wgL n a b)).2; rw [hwl] at this; exact this) (fun i => by have := HWB.out i; omega) k hk).1
      have HSB : Hid (∀ i, (grS bs n a b).testBit i = true → i < n) := fun i h => by
        obtain ⟨p, hp, he⟩ := (dn_iff (ws := wgL n a b) (k := n) (i := i) (by omega)).1 (grT_dn n i (by omega) h)
        have := (hvL_keep (wgL n a b)).2 p (by rw [(hvL_keep _).1]; omega)
        omega
      have HDL : Hid (∀ k, k ≤ n → dnN (wgL n a b) k < 256) := fun k hk => dnN_lt (by omega) k (by omega)
      have HMB : Hid (missB bs n a b = bs.any fun B => decide (wgh (wgL n a b) (grS bs n a b) < wgh (wgL n a b) B.toNat)) := rfl
      have HGS : Hid (grS bs n a b = (grT bs (wgL n a b) (hvL (wgL n a b)) n).1) := rfl
      have HWG : Hid (∀ W' (s : Nat), Below wl.heap.size wl W' → s < 256 → (∀ i, s.testBit i = true → i < n) → Calls Tryd.prog 14 #[.slice wo n wc, .int .i64 s] W' fun e w' => e = .returned (.int .i64 (wgh (wgL n a b) s)) ∧ Below W'.heap.size W' w') := fun W' s h hs hi => by
        have := weigh_any (wgL n a b) s (.slice wo n wc) W' (((HLW.out.below h (Nat.le_refl _)).more (Nat.zero_le _))) hs (fun i hb => by rw [HWL.out]; exact hi i hb) HWB.out
        exact this
      clear hga hgb hg8 hwl HO hszr
      obtain ⟨ws, hws⟩ : ∃ ws, ws = wgL n a b := ⟨_, rfl⟩
      rw [← hws] at HLW HWL HWB HBD HDL HMB HGS HWG
      clear hws
      go_wp2
      clear d0
      go_loopw [10, 11, 12] (fun sv dv kv wr => ∃ k : Nat, k ≤ n ∧ kv = .int .i64 k ∧ sv = .int .i64 ((grT bs ws (hvL ws) k).1 : Int) ∧ dv = .int .i64 (dnN ws k : Int) ∧ Below wl.heap.size wl wr) (fun _ _ kv _ => n - (intOf kv).toNat)
      case atStart => exact ⟨0, Nat.zero_le _, rfl, rfl, rfl, Below.refl _ _⟩
      case round =>
        obtain ⟨k, hk, rfl, rfl, rfl, hbr⟩ := hrel
        have HBR : Hid (Below wl.heap.size wl wr) := hbr
        clear hbr
        obtain ⟨wk, rfl⟩ : ∃ wk, wk = wr := ⟨wr, rfl⟩
        have HBX : Hid (Below W.heap.size W wk) := HB.out.trans (HBR.out.mono HB.out.size)
        obtain ⟨d0, -, -, -⟩ := HC.out wk HBX.out
        by_cases hlt : k < n
        · have kI : (k : Int) < (n : Int) := by omega
          obtain ⟨D, hD⟩ : ∃ D, D = dnN ws k := ⟨_, rfl⟩
          have HD : Hid (∀ i, D.testBit i = dnB ws k i) := fun i => by rw [hD]; exact dnN_bit k i (by rw [HWL.out]; omega)
          have HDV : Hid (D = dnN ws k) := hD
          rw [← hD]
          clear hD
          go_wp2
          clear d0
          go_loopw [13, 14] (fun bv iv wr => ∃ (i : Nat) (b : Int), i ≤ n ∧ iv = .int .i64 i ∧ bv = .int .i64 b ∧ BestR ws k i b ∧ Below wk.heap.size wk wr) (fun _ iv _ => n - (intOf iv).toNat)
          case atStart => exact ⟨0, -1, Nat.zero_le _, rfl, rfl, .inl ⟨rfl, fun j hj => by omega⟩, Below.refl _ _⟩
          case round =>
            obtain ⟨i, bv, hi, rfl, rfl, hbe, hbr⟩ := hrel
            have HBE : Hid (BestR ws k i bv) := hbe
            have HBI : Hid (Below wk.heap.size wk wr) := hbr
            clear hbe hbr
            obtain ⟨wi, rfl⟩ : ∃ wi, wi = wr := ⟨wr, rfl⟩
            have HBK : Hid (Below wl.heap.size wl wi) := HBR.out.trans (HBI.out.mono HBR.out.size)
            have HBW : Hid (Below W.heap.size W wi) := HB.out.trans (HBK.out.mono HB.out.size)
            obtain ⟨d0, d1, -, -⟩ := HC.out wi HBW.out
            have HVW : Hid (Sl 0 3 wi (.slice wo n wc) (ints ws)) := HLW.out.below HBK.out (Nat.le_refl _)
            have HBJ : Hid (Below wk.heap.size wk wi.drew) := ⟨HBI.out.os, HBI.out.tape, HBI.out.output, HBI.out.size, HBI.out.block⟩
            by_cases hil : i < n
            · have hil2 : i < ws.length := by rw [HWL.out]; exact hil
              obtain ⟨wb, wq, _, hs, _, hci⟩ := sl_cell HVW.out hil2
              simp only [Value.slice.injEq] at hs
              obtain ⟨rfl, -, -⟩ := hs
              obtain ⟨X, hX⟩ : ∃ X, X = ws.getD i 0 := ⟨_, rfl⟩
              have HX : Hid (X = ws.getD i 0) := hX
              rw [← hX] at hci
              have iI : (i : Int) < (n : Int) := by omega
              have iI0 : (0 : Int) ≤ (i : Int) := by omega
              have td := bit_eq0 D i
              rw [HD.out i] at td
              clear hX
              cases hdn : dnB ws k i
              · rw [hdn] at td
                have HDN : Hid (dnB ws k i = false) := hdn
                clear hdn
                rw [Bool.not_false] at td
                by_cases hbn : bv = -1
                · subst hbn
                  have HNX : Hid (BestR ws k (i + 1) i) := best_first HBE.out HDN.out
                  clear hil2 hci
                  go_wp2
                  refine wp_region_held_drew (S := fun _ => True) (by kernel_rfl) trivial (fun hHeld => ?_)
                  refine wpAnyH_tk (i := 0) (d := 54) (v := (.int .i64 D)) rfl rfl (by kernel_rfl) (by kernel_rfl) (by kernel_rfl) (fun _ _ _ h => h) (.inl ⟨by rfl, by (intro wq hSw; (try dsimp only at hSw); go_simp)⟩) hHeld ?_
                  simp only [Act.put, List.setIfInBounds_toArray, List.set_cons_zero, List.set_cons_succ]
                  refine wpAnyH_tk (i := 1) (d := 55) (v := (.int .i64 i)) rfl rfl (by kernel_rfl) (by kernel_rfl) (by kernel_rfl) (fun _ _ _ h => h) (.inl ⟨by rfl, by (intro wq hSw; (try dsimp only at hSw); go_simp)⟩) hHeld ?_
                  simp only [Act.put, List.setIfInBounds_toArray, List.set_cons_zero, List.set_cons_succ]
                  refine wpAnyH_tk (i := 2) (d := 56) (v := (.int .i64 ((D : Int) / 2 ^ i))) rfl rfl (by kernel_rfl) (by kernel_rfl) (by kernel_rfl) (fun _ _ _ h => h) (.inl ⟨by rfl, by (intro wq hSw; (try dsimp only at hSw); go_simp)⟩) hHeld ?_
                  simp only [Act.put, List.setIfInBounds_toArray, List.set_cons_zero, List.set_cons_succ]
                  refine wpAnyH_tk (i := 3) (d := 57) (v := (.int .i64 (((D : Int) / 2 ^ i).tmod 2))) rfl rfl (by kernel_rfl) (by kernel_rfl) (by kernel_rfl) (fun _ _ _ h => h) (.inl ⟨by rfl, by (intro wq hSw; (try dsimp only at hSw); go_simp)⟩) hHeld ?_
                  simp only [Act.put, List.setIfInBounds_toArray, List.set_cons_zero, List.set_cons_succ]
                  refine wpAnyH_tk (i := 4) (d := 58) (v := (.bool true)) rfl rfl (by kernel_rfl) (by kernel_rfl) (by kernel_rfl) (fun _ _ _ h => h) (.inl ⟨by rfl, by (intro wq hSw; (try dsimp only at hSw); go_simp)⟩) hHeld ?_
                  simp only [Act.put, List.setIfInBounds_toArray, List.set_cons_zero, List.set_cons_succ]
                  refine wpAnyH_tk (i := 5) (d := 59) (v := (.bool true)) rfl rfl (by kernel_rfl) (by kernel_rfl) (by kernel_rfl) (fun _ _ _ h => h) (.inl ⟨by rfl, by (intro wq hSw; (try dsimp only at hSw); go_simp)⟩) hHeld ?_
                  simp only [Act.put, List.setIfInBounds_toArray, List.set_cons_zero, List.set_cons_succ]
                  refine wpAnyH_tk (i := 6) (d := 60) (v := (.int .i64 (-1))) rfl rfl (by kernel_rfl) (by kernel_rfl) (by kernel_rfl) (fun _ _ _ h => h) (.inl ⟨by rfl, by (intro wq hSw; (try dsimp only at hSw); go_simp)⟩) hHeld ?_
                  simp only [Act.put, List.setIfInBounds_toArray, List.set_cons_zero, List.set_cons_succ]
                  refine wpAnyH_tk (i := 7) (d := 61) (v := (.bool true)) rfl rfl (by kernel_rfl) (by kernel_rfl) (by kernel_rfl) (fun _ _ _ h => h) (.inl ⟨by rfl, by (intro wq hSw; (try dsimp only at hSw); go_simp)⟩) hHeld ?_
                  simp only [Act.put, List.setIfInBounds_toArray, List.set_cons_zero, List.set_cons_succ]
                  refine wpAnyH_tk (i := 8) (d := 62) (v := (.bool true)) rfl rfl (by kernel_rfl) (by kernel_rfl) (by kernel_rfl) (fun _ _ _ h => h) (.inl ⟨by rfl, by (intro wq hSw; (try dsimp only at hSw); go_simp)⟩) hHeld ?_
                  simp only [Act.put, List.setIfInBounds_toArray, List.set_cons_zero, List.set_cons_succ]
                  refine wpAnyH_tk (i := 9) (d := 63) (v := undef) rfl rfl (by kernel_rfl) (by kernel_rfl) (by kernel_rfl) (fun _ _ _ h => h) (.inr ⟨by rfl, rfl⟩) hHeld ?_
                  simp only [Act.put, List.setIfInBounds_toArray, List.set_cons_zero, List.set_cons_succ]
                  refine wpAnyH_tk (i := 10) (d := 64) (v := undef) rfl rfl (by kernel_rfl) (by kernel_rfl) (by kernel_rfl) (fun _ _ _ h => h) (.inr ⟨by rfl, rfl⟩) hHeld ?_
                  simp only [Act.put, List.setIfInBounds_toArray, List.set_cons_zero, List.set_cons_succ]
                  refine wpAnyH_tk (i := 11) (d := 65) (v := undef) rfl rfl (by kernel_rfl) (by kernel_rfl) (by kernel_rfl) (fun _ _ _ h => h) (.inr ⟨by rfl, rfl⟩) hHeld ?_
                  simp only [Act.put, List.setIfInBounds_toArray, List.set_cons_zero, List.set_cons_succ]
                  refine wpAnyH_tk (i := 12) (d := 66) (v := undef) rfl rfl (by kernel_rfl) (by kernel_rfl) (by kernel_rfl) (fun _ _ _ h => h) (.inr ⟨by rfl, rfl⟩) hHeld ?_
                  simp only [Act.put, List.setIfInBounds_toArray, List.set_cons_zero, List.set_cons_succ]
                  refine wpAnyH_tk (i := 13) (d := 67) (v := undef) rfl rfl (by kernel_rfl) (by kernel_rfl) (by kernel_rfl) (fun _ _ _ h => h) (.inr ⟨by rfl, rfl⟩) hHeld ?_
                  simp only [Act.put, List.setIfInBounds_toArray, List.set_cons_zero, List.set_cons_succ]
                  refine wpAnyH_tk (i := 14) (d := 68) (v := undef) rfl rfl (by kernel_rfl) (by kernel_rfl) (by kernel_rfl) (fun _ _ _ h => h) (.inr ⟨by rfl, rfl⟩) hHeld ?_
                  simp only [Act.put, List.setIfInBounds_toArray, List.set_cons_zero, List.set_cons_succ]
                  refine wpAnyH_tk (i := 15) (d := 69) (v := undef) rfl rfl (by kernel_rfl) (by kernel_rfl) (by kernel_rfl) (fun _ _ _ h => h) (.inr ⟨by rfl, rfl⟩) hHeld ?_
                  simp only [Act.put, List.setIfInBounds_toArray, List.set_cons_zero, List.set_cons_succ]
                  refine wpAnyH_tk (i := 16) (d := 70) (v := undef) rfl rfl (by kernel_rfl) (by kernel_rfl) (by kernel_rfl) (fun _ _ _ h => h) (.inr ⟨by rfl, rfl⟩) hHeld ?_
                  simp only [Act.put, List.setIfInBounds_toArray, List.set_cons_zero, List.set_cons_succ]
                  refine wpAnyH_tk (i := 17) (d := 71) (v := undef) rfl rfl (by kernel_rfl) (by kernel_rfl) (by kernel_rfl) (fun _ _ _ h => h) (.inr ⟨by rfl, rfl⟩) hHeld ?_
                  simp only [Act.put, List.setIfInBounds_toArray, List.set_cons_zero, List.set_cons_succ]
                  refine wpAnyH_tk (i := 18) (d := 72) (v := (.bool true)) rfl rfl (by kernel_rfl) (by kernel_rfl) (by kernel_rfl) (fun _ _ _ h => h) (.inl ⟨by rfl, by (intro wq hSw; (try dsimp only at hSw); go_simp)⟩) hHeld ?_
                  simp only [Act.put, List.setIfInBounds_toArray, List.set_cons_zero, List.set_cons_succ]
                  refine wpAnyH_tk (i := 19) (d := 73) (v := (.bool true)) rfl rfl (by kernel_rfl) (by kernel_rfl) (by kernel_rfl) (fun _ _ _ h => h) (.inl ⟨by rfl, by (intro wq hSw; (try dsimp only at hSw); go_simp)⟩) hHeld ?_
                  simp only [Act.put, List.setIfInBounds_toArray, List.set_cons_zero, List.set_cons_succ]
                  refine wpAnyH_done (by kernel_rfl) ?_ _
                  clear hHeld
                  go_wp2
                  exact ⟨⟨i + 1, i, by omega, by go_num, rfl, HNX.out, HBJ.out⟩, by simp [intOf]; omega⟩
                · obtain ⟨b, hbv, hbi⟩ : ∃ b : Nat, bv = (b : Int) ∧ b < i := by
                    rcases HBE.out with ⟨h1, _⟩ | ⟨b, h1, h2, _⟩
                    · exact absurd h1 hbn
                    · exact ⟨b, h1, h2⟩
                  subst hbv
                  have hbl2 : b < ws.length := by omega
                  obtain ⟨wb', wq', _, hs, _, hcb⟩ := sl_cell HVW.out hbl2
                  simp only [Value.slice.injEq, Option.some.injEq, Addr.mk.injEq, and_true] at hs
                  obtain ⟨⟨rfl, rfl⟩, -, -⟩ := hs
                  obtain ⟨Y, hY⟩ : ∃ Y, Y = ws.getD b 0 := ⟨_, rfl⟩
                  have HY : Hid (Y = ws.getD b 0) := hY
                  rw [← hY] at hcb
                  have bI2 : (b : Int) < (n : Int) := by omega
                  have bI0 : (0 : Int) ≤ (b : Int) := by omega
                  clear hY hbn hil2 hbl2
                  by_cases hXY : Y < X
                  · have q1 : decide (Y < X) = true := decide_eq_true hXY
                    have HNX : Hid (BestR ws k (i + 1) i) := best_new HBE.out HDN.out (by rw [← HX.out, ← HY.out]; exact hXY)
                    go_wp2
                    refine wp_region_held_drew (S := fun w' => w'.cell? ⟨wb, wq + i, none⟩ = some (.int .i64 X) ∧ w'.cell? ⟨wb, wq + b, none⟩ = some (.int .i64 Y)) (by kernel_rfl) ⟨hci, hcb⟩ (fun hHeld => ?_)
                    refine wpAnyH_tk (i := 0) (d := 54) (v := (.int .i64 D)) rfl rfl (by kernel_rfl) (by kernel_rfl) (by kernel_rfl) (fun _ _ _ h => h) (.inl ⟨by rfl, by (intro wq hSw; (try dsimp only at hSw); go_simp)⟩) hHeld ?_
                    simp only [Act.put, List.setIfInBounds_toArray, List.set_cons_zero, List.set_cons_succ]
                    refine wpAnyH_tk (i := 1) (d := 55) (v := (.int .i64 i)) rfl rfl (by kernel_rfl) (by kernel_rfl) (by kernel_rfl) (fun _ _ _ h => h) (.inl ⟨by rfl, by (intro wq hSw; (try dsimp only at hSw); go_simp)⟩) hHeld ?_
                    simp only [Act.put, List.setIfInBounds_toArray, List.set_cons_zero, List.set_cons_succ]
                    refine wpAnyH_tk (i := 2) (d := 56) (v := (.int .i64 ((D : Int) / 2 ^ i))) rfl rfl (by kernel_rfl) (by kernel_rfl) (by kernel_rfl) (fun _ _ _ h => h) (.inl ⟨by rfl, by (intro wq hSw; (try dsimp only at hSw); go_simp)⟩) hHeld ?_
                    simp only [Act.put, List.setIfInBounds_toArray, List.set_cons_zero, List.set_cons_succ]
                    refine wpAnyH_tk (i := 3) (d := 57) (v := (.int .i64 (((D : Int) / 2 ^ i).tmod 2))) rfl rfl (by kernel_rfl) (by kernel_rfl) (by kernel_rfl) (fun _ _ _ h => h) (.inl ⟨by rfl, by (intro wq hSw; (try dsimp only at hSw); go_simp)⟩) hHeld ?_
                    simp only [Act.put, List.setIfInBounds_toArray, List.set_cons_zero, List.set_cons_succ]
                    refine wpAnyH_tk (i := 4) (d := 58) (v := (.bool true)) rfl rfl (by kernel_rfl) (by kernel_rfl) (by kernel_rfl) (fun _ _ _ h => h) (.inl ⟨by rfl, by (intro wq hSw; (try dsimp only at hSw); go_simp)⟩) hHeld ?_
                    simp only [Act.put, List.setIfInBounds_toArray, List.set_cons_zero, List.set_cons_succ]
                    refine wpAnyH_tk (i := 5) (d := 59) (v := (.bool true)) rfl rfl (by kernel_rfl) (by kernel_rfl) (by kernel_rfl) (fun _ _ _ h => h) (.inl ⟨by rfl, by (intro wq hSw; (try dsimp only at hSw); go_simp)⟩) hHeld ?_
                    simp only [Act.put, List.setIfInBounds_toArray, List.set_cons_zero, List.set_cons_succ]
                    refine wpAnyH_tk (i := 6) (d := 60) (v := (.int .i64 b)) rfl rfl (by kernel_rfl) (by kernel_rfl) (by kernel_rfl) (fun _ _ _ h => h) (.inl ⟨by rfl, by (intro wq hSw; (try dsimp only at hSw); go_simp)⟩) hHeld ?_
                    simp only [Act.put, List.setIfInBounds_toArray, List.set_cons_zero, List.set_cons_succ]
                    refine wpAnyH_tk (i := 7) (d := 61) (v := (.bool false)) rfl rfl (by kernel_rfl) (by kernel_rfl) (by kernel_rfl) (fun _ _ _ h => h) (.inl ⟨by rfl, by (intro wq hSw; (try dsimp only at hSw); go_simp)⟩) hHeld ?_
                    simp only [Act.put, List.setIfInBounds_toArray, List.set_cons_zero, List.set_cons_succ]
                    refine wpAnyH_tk (i := 8) (d := 62) (v := (.bool false)) rfl rfl (by kernel_rfl) (by kernel_rfl) (by kernel_rfl) (fun _ _ _ h => h) (.inl ⟨by rfl, by (intro wq hSw; (try dsimp only at hSw); go_simp)⟩) hHeld ?_
                    simp only [Act.put, List.setIfInBounds_toArray, List.set_cons_zero, List.set_cons_succ]
                    refine wpAnyH_tk (i := 9) (d := 63) (v := (.slice (some ⟨wb, wq, none⟩) n wc)) rfl rfl (by kernel_rfl) (by kernel_rfl) (by kernel_rfl) (fun _ _ _ h => h) (.inl ⟨by rfl, by (intro wq hSw; (try dsimp only at hSw); go_simp)⟩) hHeld ?_
                    simp only [Act.put, List.setIfInBounds_toArray, List.set_cons_zero, List.set_cons_succ]
                    refine wpAnyH_tk (i := 10) (d := 64) (v := (.int .i64 i)) rfl rfl (by kernel_rfl) (by kernel_rfl) (by kernel_rfl) (fun _ _ _ h => h) (.inl ⟨by rfl, by (intro wq hSw; (try dsimp only at hSw); go_simp)⟩) hHeld ?_
                    simp only [Act.put, List.setIfInBounds_toArray, List.set_cons_zero, List.set_cons_succ]
                    refine wpAnyH_tk (i := 11) (d := 65) (v := (.pointer (some ⟨wb, wq + i, none⟩))) rfl rfl (by kernel_rfl) (by kernel_rfl) (by kernel_rfl) (fun _ _ _ h => h) (.inl ⟨by rfl, by (intro wq hSw; (try dsimp only at hSw); go_simp)⟩) hHeld ?_
                    simp only [Act.put, List.setIfInBounds_toArray, List.set_cons_zero, List.set_cons_succ]
                    refine wpAnyH_tk (i := 12) (d := 66) (v := (.int .i64 X)) rfl rfl (by kernel_rfl) (by kernel_rfl) (by kernel_rfl) (fun _ _ _ h => h) (.inl ⟨by rfl, by (intro wq hSw; (try dsimp only at hSw); go_simp)⟩) hHeld ?_
                    simp only [Act.put, List.setIfInBounds_toArray, List.set_cons_zero, List.set_cons_succ]
                    refine wpAnyH_tk (i := 13) (d := 67) (v := (.slice (some ⟨wb, wq, none⟩) n wc)) rfl rfl (by kernel_rfl) (by kernel_rfl) (by kernel_rfl) (fun _ _ _ h => h) (.inl ⟨by rfl, by (intro wq hSw; (try dsimp only at hSw); go_simp)⟩) hHeld ?_
                    simp only [Act.put, List.setIfInBounds_toArray, List.set_cons_zero, List.set_cons_succ]
                    refine wpAnyH_tk (i := 14) (d := 68) (v := (.int .i64 b)) rfl rfl (by kernel_rfl) (by kernel_rfl) (by kernel_rfl) (fun _ _ _ h => h) (.inl ⟨by rfl, by (intro wq hSw; (try dsimp only at hSw); go_simp)⟩) hHeld ?_
                    simp only [Act.put, List.setIfInBounds_toArray, List.set_cons_zero, List.set_cons_succ]
                    refine wpAnyH_tk (i := 15) (d := 69) (v := (.pointer (some ⟨wb, wq + b, none⟩))) rfl rfl (by kernel_rfl) (by kernel_rfl) (by kernel_rfl) (fun _ _ _ h => h) (.inl ⟨by rfl, by (intro wq hSw; (try dsimp only at hSw); go_simp)⟩) hHeld ?_
                    simp only [Act.put, List.setIfInBounds_toArray, List.set_cons_zero, List.set_cons_succ]
                    refine wpAnyH_tk (i := 16) (d := 70) (v := (.int .i64 Y)) rfl rfl (by kernel_rfl) (by kernel_rfl) (by kernel_rfl) (fun _ _ _ h => h) (.inl ⟨by rfl, by (intro wq hSw; (try dsimp only at hSw); go_simp)⟩) hHeld ?_
                    simp only [Act.put, List.setIfInBounds_toArray, List.set_cons_zero, List.set_cons_succ]
                    refine wpAnyH_tk (i := 17) (d := 71) (v := (.bool true)) rfl rfl (by kernel_rfl) (by kernel_rfl) (by kernel_rfl) (fun _ _ _ h => h) (.inl ⟨by rfl, by (intro wq hSw; (try dsimp only at hSw); go_simp)⟩) hHeld ?_
                    simp only [Act.put, List.setIfInBounds_toArray, List.set_cons_zero, List.set_cons_succ]
                    refine wpAnyH_tk (i := 18) (d := 72) (v := (.bool true)) rfl rfl (by kernel_rfl) (by kernel_rfl) (by kernel_rfl) (fun _ _ _ h => h) (.inl ⟨by rfl, by (intro wq hSw; (try dsimp only at hSw); go_simp)⟩) hHeld ?_
                    simp only [Act.put, List.setIfInBounds_toArray, List.set_cons_zero, List.set_cons_succ]
                    refine wpAnyH_tk (i := 19) (d := 73) (v := (.bool true)) rfl rfl (by kernel_rfl) (by kernel_rfl) (by kernel_rfl) (fun _ _ _ h => h) (.inl ⟨by rfl, by (intro wq hSw; (try dsimp only at hSw); go_simp)⟩) hHeld ?_
                    simp only [Act.put, List.setIfInBounds_toArray, List.set_cons_zero, List.set_cons_succ]
                    refine wpAnyH_done (by kernel_rfl) ?_ _
                    clear hHeld
                    go_wp2
                    exact ⟨⟨i + 1, i, by omega, by go_num, rfl, HNX.out, HBJ.out⟩, by simp [intOf]; omega⟩
                  · have q1 : decide (Y < X) = false := decide_eq_false hXY
                    have q2 : X ≤ Y := by omega
                    have HNX : Hid (BestR ws k (i + 1) b) := best_old HBE.out (by rw [← HX.out, ← HY.out]; exact hXY)
                    go_wp2
                    refine wp_region_held_drew (S := fun w' => w'.cell? ⟨wb, wq + i, none⟩ = some (.int .i64 X) ∧ w'.cell? ⟨wb, wq + b, none⟩ = some (.int .i64 Y)) (by kernel_rfl) ⟨hci, hcb⟩ (fun hHeld => ?_)
                    refine wpAnyH_tk (i := 0) (d := 54) (v := (.int .i64 D)) rfl rfl (by kernel_rfl) (by kernel_rfl) (by kernel_rfl) (fun _ _ _ h => h) (.inl ⟨by rfl, by (intro wq hSw; (try dsimp only at hSw); go_simp)⟩) hHeld ?_
                    simp only [Act.put, List.setIfInBounds_toArray, List.set_cons_zero, List.set_cons_succ]
                    refine wpAnyH_tk (i := 1) (d := 55) (v := (.int .i64 i)) rfl rfl (by kernel_rfl) (by kernel_rfl) (by kernel_rfl) (fun _ _ _ h => h) (.inl ⟨by rfl, by (intro wq hSw; (try dsimp only at hSw); go_simp)⟩) hHeld ?_
                    simp only [Act.put, List.setIfInBounds_toArray, List.set_cons_zero, List.set_cons_succ]
                    refine wpAnyH_tk (i := 2) (d := 56) (v := (.int .i64 ((D : Int) / 2 ^ i))) rfl rfl (by kernel_rfl) (by kernel_rfl) (by kernel_rfl) (fun _ _ _ h => h) (.inl ⟨by rfl, by (intro wq hSw; (try dsimp only at hSw); go_simp)⟩) hHeld ?_
                    simp only [Act.put, List.setIfInBounds_toArray, List.set_cons_zero, List.set_cons_succ]
                    refine wpAnyH_tk (i := 3) (d := 57) (v := (.int .i64 (((D : Int) / 2 ^ i).tmod 2))) rfl rfl (by kernel_rfl) (by kernel_rfl) (by kernel_rfl) (fun _ _ _ h => h) (.inl ⟨by rfl, by (intro wq hSw; (try dsimp only at hSw); go_simp)⟩) hHeld ?_
                    simp only [Act.put, List.setIfInBounds_toArray, List.set_cons_zero, List.set_cons_succ]
                    refine wpAnyH_tk (i := 4) (d := 58) (v := (.bool true)) rfl rfl (by kernel_rfl) (by kernel_rfl) (by kernel_rfl) (fun _ _ _ h => h) (.inl ⟨by rfl, by (intro wq hSw; (try dsimp only at hSw); go_simp)⟩) hHeld ?_
                    simp only [Act.put, List.setIfInBounds_toArray, List.set_cons_zero, List.set_cons_succ]
                    refine wpAnyH_tk (i := 5) (d := 59) (v := (.bool true)) rfl rfl (by kernel_rfl) (by kernel_rfl) (by kernel_rfl) (fun _ _ _ h => h) (.inl ⟨by rfl, by (intro wq hSw; (try dsimp only at hSw); go_simp)⟩) hHeld ?_
                    simp only [Act.put, List.setIfInBounds_toArray, List.set_cons_zero, List.set_cons_succ]
                    refine wpAnyH_tk (i := 6) (d := 60) (v := (.int .i64 b)) rfl rfl (by kernel_rfl) (by kernel_rfl) (by kernel_rfl) (fun _ _ _ h => h) (.inl ⟨by rfl, by (intro wq hSw; (try dsimp only at hSw); go_simp)⟩) hHeld ?_
                    simp only [Act.put, List.setIfInBounds_toArray, List.set_cons_zero, List.set_cons_succ]
                    refine wpAnyH_tk (i := 7) (d := 61) (v := (.bool false)) rfl rfl (by kernel_rfl) (by kernel_rfl) (by kernel_rfl) (fun _ _ _ h => h) (.inl ⟨by rfl, by (intro wq hSw; (try dsimp only at hSw); go_simp)⟩) hHeld ?_
                    simp only [Act.put, List.setIfInBounds_toArray, List.set_cons_zero, List.set_cons_succ]
                    refine wpAnyH_tk (i := 8) (d := 62) (v := (.bool false)) rfl rfl (by kernel_rfl) (by kernel_rfl) (by kernel_rfl) (fun _ _ _ h => h) (.inl ⟨by rfl, by (intro wq hSw; (try dsimp only at hSw); go_simp)⟩) hHeld ?_
                    simp only [Act.put, List.setIfInBounds_toArray, List.set_cons_zero, List.set_cons_succ]
                    refine wpAnyH_tk (i := 9) (d := 63) (v := (.slice (some ⟨wb, wq, none⟩) n wc)) rfl rfl (by kernel_rfl) (by kernel_rfl) (by kernel_rfl) (fun _ _ _ h => h) (.inl ⟨by rfl, by (intro wq hSw; (try dsimp only at hSw); go_simp)⟩) hHeld ?_
                    simp only [Act.put, List.setIfInBounds_toArray, List.set_cons_zero, List.set_cons_succ]
                    refine wpAnyH_tk (i := 10) (d := 64) (v := (.int .i64 i)) rfl rfl (by kernel_rfl) (by kernel_rfl) (by kernel_rfl) (fun _ _ _ h => h) (.inl ⟨by rfl, by (intro wq hSw; (try dsimp only at hSw); go_simp)⟩) hHeld ?_
                    simp only [Act.put, List.setIfInBounds_toArray, List.set_cons_zero, List.set_cons_succ]
                    refine wpAnyH_tk (i := 11) (d := 65) (v := (.pointer (some ⟨wb, wq + i, none⟩))) rfl rfl (by kernel_rfl) (by kernel_rfl) (by kernel_rfl) (fun _ _ _ h => h) (.inl ⟨by rfl, by (intro wq hSw; (try dsimp only at hSw); go_simp)⟩) hHeld ?_
                    simp only [Act.put, List.setIfInBounds_toArray, List.set_cons_zero, List.set_cons_succ]
                    refine wpAnyH_tk (i := 12) (d := 66) (v := (.int .i64 X)) rfl rfl (by kernel_rfl) (by kernel_rfl) (by kernel_rfl) (fun _ _ _ h => h) (.inl ⟨by rfl, by (intro wq hSw; (try dsimp only at hSw); go_simp)⟩) hHeld ?_
                    simp only [Act.put, List.setIfInBounds_toArray, List.set_cons_zero, List.set_cons_succ]
                    refine wpAnyH_tk (i := 13) (d := 67) (v := (.slice (some ⟨wb, wq, none⟩) n wc)) rfl rfl (by kernel_rfl) (by kernel_rfl) (by kernel_rfl) (fun _ _ _ h => h) (.inl ⟨by rfl, by (intro wq hSw; (try dsimp only at hSw); go_simp)⟩) hHeld ?_
                    simp only [Act.put, List.setIfInBounds_toArray, List.set_cons_zero, List.set_cons_succ]
                    refine wpAnyH_tk (i := 14) (d := 68) (v := (.int .i64 b)) rfl rfl (by kernel_rfl) (by kernel_rfl) (by kernel_rfl) (fun _ _ _ h => h) (.inl ⟨by rfl, by (intro wq hSw; (try dsimp only at hSw); go_simp)⟩) hHeld ?_
                    simp only [Act.put, List.setIfInBounds_toArray, List.set_cons_zero, List.set_cons_succ]
                    refine wpAnyH_tk (i := 15) (d := 69) (v := (.pointer (some ⟨wb, wq + b, none⟩))) rfl rfl (by kernel_rfl) (by kernel_rfl) (by kernel_rfl) (fun _ _ _ h => h) (.inl ⟨by rfl, by (intro wq hSw; (try dsimp only at hSw); go_simp)⟩) hHeld ?_
                    simp only [Act.put, List.setIfInBounds_toArray, List.set_cons_zero, List.set_cons_succ]
                    refine wpAnyH_tk (i := 16) (d := 70) (v := (.int .i64 Y)) rfl rfl (by kernel_rfl) (by kernel_rfl) (by kernel_rfl) (fun _ _ _ h => h) (.inl ⟨by rfl, by (intro wq hSw; (try dsimp only at hSw); go_simp)⟩) hHeld ?_
                    simp only [Act.put, List.setIfInBounds_toArray, List.set_cons_zero, List.set_cons_succ]
                    refine wpAnyH_tk (i := 17) (d := 71) (v := (.bool false)) rfl rfl (by kernel_rfl) (by kernel_rfl) (by kernel_rfl) (fun _ _ _ h => h) (.inl ⟨by rfl, by (intro wq hSw; (try dsimp only at hSw); go_simp)⟩) hHeld ?_
                    simp only [Act.put, List.setIfInBounds_toArray, List.set_cons_zero, List.set_cons_succ]
                    refine wpAnyH_tk (i := 18) (d := 72) (v := (.bool false)) rfl rfl (by kernel_rfl) (by kernel_rfl) (by kernel_rfl) (fun _ _ _ h => h) (.inl ⟨by rfl, by (intro wq hSw; (try dsimp only at hSw); go_simp)⟩) hHeld ?_
                    simp only [Act.put, List.setIfInBounds_toArray, List.set_cons_zero, List.set_cons_succ]
                    refine wpAnyH_tk (i := 19) (d := 73) (v := (.bool false)) rfl rfl (by kernel_rfl) (by kernel_rfl) (by kernel_rfl) (fun _ _ _ h => h) (.inl ⟨by rfl, by (intro wq hSw; (try dsimp only at hSw); go_simp)⟩) hHeld ?_
                    simp only [Act.put, List.setIfInBounds_toArray, List.set_cons_zero, List.set_cons_succ]
                    refine wpAnyH_done (by kernel_rfl) ?_ _
                    clear hHeld
                    go_wp2
                    exact ⟨⟨i + 1, b, by omega, by go_num, rfl, HNX.out, HBJ.out⟩, by simp [intOf]; omega⟩
              · rw [hdn] at td
                have HNX : Hid (BestR ws k (i + 1) bv) := best_done HBE.out hdn
                rw [Bool.not_true] at td
                clear hdn hil2 hci
                go_wp2
                refine wp_region_held_drew (S := fun _ => True) (by kernel_rfl) trivial (fun hHeld => ?_)
                refine wpAnyH_tk (i := 0) (d := 54) (v := (.int .i64 D)) rfl rfl (by kernel_rfl) (by kernel_rfl) (by kernel_rfl) (fun _ _ _ h => h) (.inl ⟨by rfl, by (intro wq hSw; (try dsimp only at hSw); go_simp)⟩) hHeld ?_
                simp only [Act.put, List.setIfInBounds_toArray, List.set_cons_zero, List.set_cons_succ]
                refine wpAnyH_tk (i := 1) (d := 55) (v := (.int .i64 i)) rfl rfl (by kernel_rfl) (by kernel_rfl) (by kernel_rfl) (fun _ _ _ h => h) (.inl ⟨by rfl, by (intro wq hSw; (try dsimp only at hSw); go_simp)⟩) hHeld ?_
                simp only [Act.put, List.setIfInBounds_toArray, List.set_cons_zero, List.set_cons_succ]
                refine wpAnyH_tk (i := 2) (d := 56) (v := (.int .i64 ((D : Int) / 2 ^ i))) rfl rfl (by kernel_rfl) (by kernel_rfl) (by kernel_rfl) (fun _ _ _ h => h) (.inl ⟨by rfl, by (intro wq hSw; (try dsimp only at hSw); go_simp)⟩) hHeld ?_
                simp only [Act.put, List.setIfInBounds_toArray, List.set_cons_zero, List.set_cons_succ]
                refine wpAnyH_tk (i := 3) (d := 57) (v := (.int .i64 (((D : Int) / 2 ^ i).tmod 2))) rfl rfl (by kernel_rfl) (by kernel_rfl) (by kernel_rfl) (fun _ _ _ h => h) (.inl ⟨by rfl, by (intro wq hSw; (try dsimp only at hSw); go_simp)⟩) hHeld ?_
                simp only [Act.put, List.setIfInBounds_toArray, List.set_cons_zero, List.set_cons_succ]
                refine wpAnyH_tk (i := 4) (d := 58) (v := (.bool false)) rfl rfl (by kernel_rfl) (by kernel_rfl) (by kernel_rfl) (fun _ _ _ h => h) (.inl ⟨by rfl, by (intro wq hSw; (try dsimp only at hSw); go_simp)⟩) hHeld ?_
                simp only [Act.put, List.setIfInBounds_toArray, List.set_cons_zero, List.set_cons_succ]
                refine wpAnyH_tk (i := 5) (d := 59) (v := (.bool false)) rfl rfl (by kernel_rfl) (by kernel_rfl) (by kernel_rfl) (fun _ _ _ h => h) (.inl ⟨by rfl, by (intro wq hSw; (try dsimp only at hSw); go_simp)⟩) hHeld ?_
                simp only [Act.put, List.setIfInBounds_toArray, List.set_cons_zero, List.set_cons_succ]
                refine wpAnyH_tk (i := 6) (d := 60) (v := undef) rfl rfl (by kernel_rfl) (by kernel_rfl) (by kernel_rfl) (fun _ _ _ h => h) (.inr ⟨by rfl, rfl⟩) hHeld ?_
                simp only [Act.put, List.setIfInBounds_toArray, List.set_cons_zero, List.set_cons_succ]
                refine wpAnyH_tk (i := 7) (d := 61) (v := undef) rfl rfl (by kernel_rfl) (by kernel_rfl) (by kernel_rfl) (fun _ _ _ h => h) (.inr ⟨by rfl, rfl⟩) hHeld ?_
                simp only [Act.put, List.setIfInBounds_toArray, List.set_cons_zero, List.set_cons_succ]
                refine wpAnyH_tk (i := 8) (d := 62) (v := undef) rfl rfl (by kernel_rfl) (by kernel_rfl) (by kernel_rfl) (fun _ _ _ h => h) (.inr ⟨by rfl, rfl⟩) hHeld ?_
                simp only [Act.put, List.setIfInBounds_toArray, List.set_cons_zero, List.set_cons_succ]
                refine wpAnyH_tk (i := 9) (d := 63) (v := undef) rfl rfl (by kernel_rfl) (by kernel_rfl) (by kernel_rfl) (fun _ _ _ h => h) (.inr ⟨by rfl, rfl⟩) hHeld ?_
                simp only [Act.put, List.setIfInBounds_toArray, List.set_cons_zero, List.set_cons_succ]
                refine wpAnyH_tk (i := 10) (d := 64) (v := undef) rfl rfl (by kernel_rfl) (by kernel_rfl) (by kernel_rfl) (fun _ _ _ h => h) (.inr ⟨by rfl, rfl⟩) hHeld ?_
                simp only [Act.put, List.setIfInBounds_toArray, List.set_cons_zero, List.set_cons_succ]
                refine wpAnyH_tk (i := 11) (d := 65) (v := undef) rfl rfl (by kernel_rfl) (by kernel_rfl) (by kernel_rfl) (fun _ _ _ h => h) (.inr ⟨by rfl, rfl⟩) hHeld ?_
                simp only [Act.put, List.setIfInBounds_toArray, List.set_cons_zero, List.set_cons_succ]
                refine wpAnyH_tk (i := 12) (d := 66) (v := undef) rfl rfl (by kernel_rfl) (by kernel_rfl) (by kernel_rfl) (fun _ _ _ h => h) (.inr ⟨by rfl, rfl⟩) hHeld ?_
                simp only [Act.put, List.setIfInBounds_toArray, List.set_cons_zero, List.set_cons_succ]
                refine wpAnyH_tk (i := 13) (d := 67) (v := undef) rfl rfl (by kernel_rfl) (by kernel_rfl) (by kernel_rfl) (fun _ _ _ h => h) (.inr ⟨by rfl, rfl⟩) hHeld ?_
                simp only [Act.put, List.setIfInBounds_toArray, List.set_cons_zero, List.set_cons_succ]
                refine wpAnyH_tk (i := 14) (d := 68) (v := undef) rfl rfl (by kernel_rfl) (by kernel_rfl) (by kernel_rfl) (fun _ _ _ h => h) (.inr ⟨by rfl, rfl⟩) hHeld ?_
                simp only [Act.put, List.setIfInBounds_toArray, List.set_cons_zero, List.set_cons_succ]
                refine wpAnyH_tk (i := 15) (d := 69) (v := undef) rfl rfl (by kernel_rfl) (by kernel_rfl) (by kernel_rfl) (fun _ _ _ h => h) (.inr ⟨by rfl, rfl⟩) hHeld ?_
                simp only [Act.put, List.setIfInBounds_toArray, List.set_cons_zero, List.set_cons_succ]
                refine wpAnyH_tk (i := 16) (d := 70) (v := undef) rfl rfl (by kernel_rfl) (by kernel_rfl) (by kernel_rfl) (fun _ _ _ h => h) (.inr ⟨by rfl, rfl⟩) hHeld ?_
                simp only [Act.put, List.setIfInBounds_toArray, List.set_cons_zero, List.set_cons_succ]
                refine wpAnyH_tk (i := 17) (d := 71) (v := undef) rfl rfl (by kernel_rfl) (by kernel_rfl) (by kernel_rfl) (fun _ _ _ h => h) (.inr ⟨by rfl, rfl⟩) hHeld ?_
                simp only [Act.put, List.setIfInBounds_toArray, List.set_cons_zero, List.set_cons_succ]
                refine wpAnyH_tk (i := 18) (d := 72) (v := undef) rfl rfl (by kernel_rfl) (by kernel_rfl) (by kernel_rfl) (fun _ _ _ h => h) (.inr ⟨by rfl, rfl⟩) hHeld ?_
                simp only [Act.put, List.setIfInBounds_toArray, List.set_cons_zero, List.set_cons_succ]
                refine wpAnyH_tk (i := 19) (d := 73) (v := (.bool false)) rfl rfl (by kernel_rfl) (by kernel_rfl) (by kernel_rfl) (fun _ _ _ h => h) (.inl ⟨by rfl, by (intro wq hSw; (try dsimp only at hSw); go_simp)⟩) hHeld ?_
                simp only [Act.put, List.setIfInBounds_toArray, List.set_cons_zero, List.set_cons_succ]
                refine wpAnyH_done (by kernel_rfl) ?_ _
                clear hHeld
                go_wp2
                exact ⟨⟨i + 1, bv, by omega, by go_num, rfl, HNX.out, HBJ.out⟩, by simp [intOf]; omega⟩
            · have hie : n = i := by omega
              subst hie
              have hle : k < ws.length := by rw [HWL.out]; exact hlt
              obtain ⟨hbe, hb0, hbl⟩ := best_end hle (by rw [HWL.out]; exact HBE.out)
              obtain ⟨b, rfl⟩ : ∃ b : Nat, bv = (b : Int) := ⟨bv.toNat, by omega⟩
              have hbN : b < n := by rw [← HWL.out]; omega
              have hs8 := HBD.out k (by omega)
              have hd8 := HDL.out k (by omega)
              rw [← HDV.out] at hd8
              obtain ⟨pb, hpb⟩ : ∃ pb : Nat, pb = 2 ^ b := ⟨_, rfl⟩
              have hpbi : (2 : Int) ^ b = (pb : Int) := by rw [hpb]; simp
              have hp1 := pow8_le b (by omega)
              rw [hpbi] at hp1
              have HGT : Hid ((grT bs ws (hvL ws) (k + 1)).1 = if freeB bs ((grT bs ws (hvL ws) k).1 ||| pb) = true then (grT bs ws (hvL ws) k).1 ||| pb else (grT bs ws (hvL ws) k).1) := by
                show _ = _
                rw [grT, ← hbe, Int.toNat_natCast, hpb]
                split <;> rfl
              have HDT : Hid (dnN ws (k + 1) = D ||| pb) := by
                show _ = _
                rw [dnN, ← hbe, Int.toNat_natCast, hpb, HDV.out]
              have hs28 : (grT bs ws (hvL ws) k).1 ||| pb < 256 := by
                rw [hpb]; exact Nat.or_lt_two_pow (n := 8) hs8 (Nat.pow_lt_pow_right (by omega) (by omega))
              generalize hgk : (grT bs ws (hvL ws) k).1 = s0 at *
              have q1 : IntKind.i64.wrap (pb : Int) = (pb : Int) := wrap_small (by omega)
              have q2 : bits .or .i64 (s0 : Int) (pb : Int) = ((s0 ||| pb : Nat) : Int) := bits_or_i64_nat _ _ (by omega) (by omega)
              have q3 : bits .or .i64 (D : Int) (pb : Int) = ((D ||| pb : Nat) : Int) := bits_or_i64_nat _ _ (by omega) (by omega)
              obtain ⟨s2, hs2⟩ : ∃ s2, s2 = s0 ||| pb := ⟨_, rfl⟩
              obtain ⟨D2, hD2⟩ : ∃ D2, D2 = D ||| pb := ⟨_, rfl⟩
              rw [← hs2] at q2 hs28 HGT
              rw [← hD2] at q3 HDT
              have HCA := HIF.out wi.drew s2 ⟨HBW.out.os, HBW.out.tape, HBW.out.output, HBW.out.size, HBW.out.block⟩ hs28
              have HCB : Hid (Calls Tryd.prog 13 #[.agg #[.int .i64 n, .slice ao bs.length cap], .int .i64 s2] wi.drew fun e w' => e = .returned (.bool (freeB bs s2)) ∧ Below wi.heap.size wi w') := HCA.mono (by
                rintro e w' ⟨h1, h2⟩
                exact ⟨h1, h2.os, h2.tape, h2.output, h2.size, h2.block⟩)
              have HKS : Hid (∀ W', Below wi.heap.size wi W' → Below wl.heap.size wl W' ∧ W'.cell? ⟨w.heap.size, 0, none⟩ = some (.int .i64 n) ∧ W'.cell? ⟨w.heap.size, 1, none⟩ = some (.slice ao bs.length cap)) := fun W' h =>
                ⟨HBK.out.trans (h.mono HBK.out.size), (h.cell (lt_of_cell d0)).trans d0, (h.cell (lt_of_cell d1)).trans d1⟩
              have bI2 : (b : Int) < (n : Int) := by omega
              have bI0 : (0 : Int) ≤ (b : Int) := by omega
              clear hp1 hpb hs28 hs8 hd8 hbe HCA hb0 hbl hs2 hD2 hgk
              generalize freeB bs s2 = fb at *
              go_wp2
              refine wp_region_held_drew (S := fun w' => w'.cell? ⟨w.heap.size, 0, none⟩ = some (.int .i64 n) ∧ w'.cell? ⟨w.heap.size, 1, none⟩ = some (.slice ao bs.length cap)) (by kernel_rfl) ⟨d0, d1⟩ (fun hHeld => ?_)
              refine wpAnyH_tk (i := 0) (d := 79) (v := (.agg #[.int .i64 n, .slice ao bs.length cap])) rfl rfl (by kernel_rfl) (by kernel_rfl) (by kernel_rfl) (fun _ _ _ h => h) (.inl ⟨by rfl, by (intro wq hSw; (try dsimp only at hSw); go_simp)⟩) hHeld ?_
              simp only [Act.put, List.setIfInBounds_toArray, List.set_cons_zero, List.set_cons_succ]
              refine wpAnyH_tk (i := 1) (d := 80) (v := (.int .i64 s0)) rfl rfl (by kernel_rfl) (by kernel_rfl) (by kernel_rfl) (fun _ _ _ h => h) (.inl ⟨by rfl, by (intro wq hSw; (try dsimp only at hSw); go_simp)⟩) hHeld ?_
              simp only [Act.put, List.setIfInBounds_toArray, List.set_cons_zero, List.set_cons_succ]
              refine wpAnyH_tk (i := 2) (d := 81) (v := (.int .i64 b)) rfl rfl (by kernel_rfl) (by kernel_rfl) (by kernel_rfl) (fun _ _ _ h => h) (.inl ⟨by rfl, by (intro wq hSw; (try dsimp only at hSw); go_simp)⟩) hHeld ?_
              simp only [Act.put, List.setIfInBounds_toArray, List.set_cons_zero, List.set_cons_succ]
              refine wpAnyH_tk (i := 3) (d := 82) (v := (.int .i64 pb)) rfl rfl (by kernel_rfl) (by kernel_rfl) (by kernel_rfl) (fun _ _ _ h => h) (.inl ⟨by rfl, by (intro wq hSw; (try dsimp only at hSw); go_simp)⟩) hHeld ?_
              simp only [Act.put, List.setIfInBounds_toArray, List.set_cons_zero, List.set_cons_succ]
              refine wpAnyH_tk (i := 4) (d := 83) (v := (.int .i64 s2)) rfl rfl (by kernel_rfl) (by kernel_rfl) (by kernel_rfl) (fun _ _ _ h => h) (.inl ⟨by rfl, by (intro wq hSw; (try dsimp only at hSw); go_simp)⟩) hHeld ?_
              simp only [Act.put, List.setIfInBounds_toArray, List.set_cons_zero, List.set_cons_succ]
              refine wpAnyH_ready (rs := [5]) (by kernel_rfl) (by simp) ?_
              refine ready_tk (i := 5) rfl (by rfl) (fun K hK => ?_) AllReadyH.nil
              go_simp
              refine HCB.out.mono ?_
              rintro e w3 ⟨rfl, hb3⟩
              obtain ⟨g1, g3, g4⟩ := HKS.out w3 hb3
              have HG2 : Hid (Below wl.heap.size wl w3) := g1
              clear hb3 g1 HKS
              refine hK.out _ _ ⟨g3, g4⟩ (fun hHeld => ?_)
              clear hK K
              refine wpAnyH_done (by kernel_rfl) ?_ _
              clear hHeld d0 d1
              cases fb
              · have HG : Hid ((grT bs ws (hvL ws) (k + 1)).1 = s0) := by
                  show _ = _
                  rw [HGT.out, if_neg (by decide)]
                go_wp2
                exact ⟨⟨k + 1, by omega, by go_num, by rw [HG.out], by rw [HDT.out], HG2.out⟩, by simp [intOf]; omega⟩
              · have HG : Hid ((grT bs ws (hvL ws) (k + 1)).1 = s2) := by
                  show _ = _
                  rw [HGT.out, if_pos rfl]
                go_wp2
                exact ⟨⟨k + 1, by omega, by go_num, by rw [HG.out], by rw [HDT.out], HG2.out⟩, by simp [intOf]; omega⟩
        · have hke : n = k := by omega
          subst hke
          have hs8 := HBD.out n (by omega)
          rw [← HGS.out] at hs8 ⊢
          have HW1 : Hid (Calls Tryd.prog 14 #[.slice wo n wc, .int .i64 (grS bs n a b : Int)] wk fun e w' => e = .returned (.int .i64 (wgh ws (grS bs n a b))) ∧ Below wk.heap.size wk w') := HWG.out wk (grS bs n a b) HBR.out hs8 HSB.out
          generalize grS bs n a b = s0 at *
          clear hs8
          generalize wgh ws s0 = top at *
          go_wp2_with fail
          refine HW1.out.mono ?_
          rintro e w5 ⟨rfl, hb5⟩
          have HB5 : Hid (Below wl.heap.size wl w5) := HBR.out.trans (hb5.mono HBR.out.size)
          clear hb5 d0
          go_wp2
          go_loopw [16] (fun i wr => ∃ k : Nat, k ≤ bs.length ∧ i = .int .i64 k ∧ (bs.take k).any (fun B => decide (top < wgh ws B.toNat)) = false ∧ Below wl.heap.size wl wr) (fun i _ => bs.length - (intOf i).toNat)
          case atStart => exact ⟨0, Nat.zero_le _, rfl, by simp, HB5.out⟩
          case round =>
            obtain ⟨k, hk, rfl, hno, hbr⟩ := hrel
            have HNO : Hid ((bs.take k).any (fun B => decide (top < wgh ws B.toNat)) = false) := hno
            have HB6 : Hid (Below wl.heap.size wl wr) := hbr
            have HBX6 : Hid (Below W.heap.size W wr) := HB.out.trans (HB6.out.mono HB.out.size)
            clear hno hbr
            obtain ⟨-, d1, hsl, hbw⟩ := HC.out wr HBX6.out
            have HBW6 : Hid (Below w.heap.size w wr) := hbw
            clear hbw
            by_cases hkl : k < bs.length
            · obtain ⟨gb, gq, _, hs, _, hcc⟩ := sl_cell hsl hkl
              simp only [Value.slice.injEq] at hs
              obtain ⟨rfl, -, -⟩ := hs
              obtain ⟨B, hB, hBl⟩ := HBS.out (bs.getD k 0) (by simp [hkl])
              have HN1 : Hid ((bs.take (k + 1)).any (fun B => decide (top < wgh ws B.toNat)) = decide (top < wgh ws B)) := by
                have := any_snocM (p := fun B : Int => decide (top < wgh ws B.toNat)) hkl HNO.out
                rw [hB, Int.toNat_natCast] at this
                exact this
              have HH1 : Hid (decide (top < wgh ws B) = true → missB bs n a b = true) := fun h => by
                rw [HMB.out]
                exact any_hitM hkl (by rw [hB, Int.toNat_natCast]; exact h)
              have HW2 : Hid (Calls Tryd.prog 14 #[.slice wo n wc, .int .i64 (B : Int)] wr fun e w' => e = .returned (.int .i64 (wgh ws B)) ∧ Below wr.heap.size wr w') := HWG.out wr B HB6.out (Nat.lt_of_lt_of_le hBl HGA.out.2.2) (fun i h => bit_lt hBl h)
              rw [hB] at hcc
              clear hB hBl hsl
              generalize wgh ws B = wB at *
              have kI : (k : Int) < (bs.length : Int) := by omega
              have kI0 : (0 : Int) ≤ (k : Int) := by omega
              go_wp2_with fail
              refine HW2.out.mono ?_
              rintro e w7 ⟨rfl, hb7⟩
              have HB7 : Hid (Below wl.heap.size wl w7) := HB6.out.trans (hb7.mono HB6.out.size)
              have HB8 : Hid (Below w.heap.size w w7) := HBW6.out.trans (hb7.mono HBW6.out.size)
              clear hb7 d1 hcc
              by_cases htw : top < wB
              · have HE : Hid (missB bs n a b = true) := HH1.out (decide_eq_true htw)
                have t1 : decide (top < wB) = true := decide_eq_true htw
                clear htw
                go_wp2
                go_ret
                exact ⟨by rw [HE.out]; rfl, HB8.out⟩
              · have t1 : decide (top < wB) = false := decide_eq_false htw
                have t2 : wB ≤ top := by omega
                go_wp2
                exact ⟨⟨k + 1, by omega, by go_num, by rw [HN1.out]; exact t1, HB7.out⟩, by simp [intOf]; omega⟩
            · have hke : k = bs.length := by omega
              subst hke
              have HE : Hid (missB bs n a b = false) := by
                have := HNO.out
                rw [List.take_length] at this
                show _ = _
                rw [HMB.out]; exact this
              clear hsl
              go_wp2
              go_ret
              exact ⟨by rw [HE.out]; rfl, HBW6.out⟩

end Go.Proofs.YtaoadagpknhgiaaDoor
