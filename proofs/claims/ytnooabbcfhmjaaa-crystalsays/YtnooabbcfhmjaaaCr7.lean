/- The document's TurnedWord. -/
import Derived.Test.YtnooabbcfhmjaaaCr6
namespace Go.Proofs.Ytnooabbcfhmjaaa
open Go.RowKit
attribute [local go_sem ↓] Go.wp_at_zero Go.wp_at_succ

def slLenK : Value → Nat
  | .slice _ n _ => n
  | _ => 0

/-- As far as the second loop is. -/
structure CutI (w0 : World) (wd : List Nat) (i : Nat) (av kv : Value) (wr : World) (l : List Nat) (k : Nat) : Prop where
  kv : kv = .int .i64 (k : Int)
  lp : LeftP wd i l
  le : k ≤ l.length
  no : ∀ j, j < k → j + 1 < l.length → ¬ (wd.getD (l.getD j 0) 0 = i ∧ wd.getD (l.getD (j + 1) 0) 0 = i + 1)
  own : wr.ownsRow w0.heap.size 3 1 av l.length (ints (natsI l))
  bel : Below w0.heap.size w0 wr

/-- As far as the third loop is. -/
structure PlI (w0 : World) (up : Bool) (wd : List Nat) (i : Nat) (l : List Nat) (av pv kv : Value) (wr : World) (k : Nat) : Prop where
  kv : kv = .int .i64 (k : Int)
  le : k ≤ l.length
  pv : pv = .int .i64 (plc up wd i (l.take k))
  own : wr.ownsRow w0.heap.size 3 1 av l.length (ints (natsI l))
  bel : Below w0.heap.size w0 wr

theorem sl_word {B b o cap k : Nat} {w W : World} {wd : List Nat} (hv : Sl B 3 w (.slice (some ⟨b, o, none⟩) wd.length cap) (ints (natsI wd))) (hb : Below w.heap.size w W) (hk : k < wd.length) : W.cell? ⟨b, o + k, none⟩ = some (.int .i64 ((wd.getD k 0 : Nat) : Int)) := by
  obtain ⟨b1, o1, cp, hs, _, hcc⟩ := sl_cell (hv.below hb (Nat.le_refl _)) (k := k) (by rw [natsI_len]; exact hk)
  rw [natsI_len] at hs
  simp only [Value.slice.injEq, Option.some.injEq, Addr.mk.injEq, and_true, true_and] at hs
  obtain ⟨⟨rfl, rfl⟩, rfl⟩ := hs
  rw [natsI_at hk] at hcc
  exact hcc

set_option maxRecDepth 100000 in
set_option maxHeartbeats 3200000 in
theorem turnW_any (B : Nat) (up : Bool) (wd : List Nat) (i : Nat) (v : Value) (w : World) (hv : Sl B 3 w v (ints (natsI wd))) (hl : wd.length ≤ 8) (hi : i ≤ 3) :
    Calls Try.prog 6 #[v, .int .i64 (i : Int), .bool up] w fun e w' => TurnP w.heap.size w (turn up wd i) e w' := by
  obtain ⟨i3, hi3, hz30, hz31, hz32⟩ := info_parts Try.info3
  have HCW : Hid (∀ W, Below w.heap.size w W → Calls Try.prog 21 #[v] W fun e w' => ∃ u, e = .returned u ∧ w'.ownsRow W.heap.size 3 1 u wd.length (ints (natsI wd)) ∧ Below W.heap.size W w') := fun W hW => by
    have := copy_any B (natsI wd) v W (hv.below hW (Nat.le_refl _)) (by rw [natsI_len]; omega)
    rw [natsI_len] at this
    exact this
  obtain ⟨ao, cap, hvv, hlc, hcm⟩ := sl_open hv
  subst hvv
  rw [natsI_len] at hv hlc HCW ⊢
  have HV : Hid (Sl B 3 w (.slice ao wd.length cap) (ints (natsI wd))) := hv
  clear hv
  go_enter Try.func6, Try.ntmps6
  go_wp2
  go_loopw [8, 9] (fun av x wr => ∃ k : Nat, k ≤ wd.length ∧ x = .int .i64 (k : Int) ∧ wr.ownsRow w.heap.size 3 1 av (plL wd i k).length (ints (natsI (plL wd i k))) ∧ Below w.heap.size w wr) (fun _ x _ => wd.length - (intOf x).toNat)
  case atStart => exact ⟨0, Nat.zero_le _, rfl, World.ownsRow_nil _ _ _ _, Below.refl _ _⟩
  case round =>
    obtain ⟨k, hk, rfl, hown, hbel⟩ := hrel
    have HB : Hid (Below w.heap.size w wr) := hbel
    have hsz : w.heap.size ≤ wr.heap.size := hbel.size
    by_cases hlt : k < wd.length
    · have HST : Hid (plL wd i (k + 1) = if wd.getD k 0 = i ∨ wd.getD k 0 = i + 1 then plL wd i k ++ [k] else plL wd i k) := plL_succ wd i k
      have hln := plL_len wd i k
      obtain ⟨b1, o, cp, hs, _, hcc⟩ := sl_cell (HV.out.below hbel (Nat.le_refl _)) (k := k) (by rw [natsI_len]; exact hlt)
      rw [natsI_len] at hs
      simp only [Value.slice.injEq, true_and] at hs
      obtain ⟨rfl, rfl⟩ := hs
      rw [natsI_at hlt] at hcc
      generalize wd.getD k 0 = x at *
      generalize plL wd i k = A at *
      obtain ⟨xo, xc, hxv⟩ := owns_form hown
      subst hxv
      have HOA : Hid (wr.ownsRow w.heap.size 3 1 (.slice xo A.length xc) A.length (ints (natsI A))) := hown
      clear hown hbel
      have kI : (k : Int) < (wd.length : Int) := by omega
      by_cases g : x = i ∨ x = i + 1
      · have HS2 : Hid (plL wd i (k + 1) = A ++ [k]) := by show _ = _; rw [HST.out, if_pos g]
        clear HST
        have HJ : Hid (∀ v' w5, w5.ownsRow w.heap.size 3 1 v' (A.length + 1) (ints (natsI A) ++ [.int .i64 (k : Int)]) → (wr.alloc (.cells #[.int .i64 (k : Int)] 3)).grownBy w5 (Value.slice xo A.length xc).ownBlock → w5.ownsRow w.heap.size 3 1 v' (plL wd i (k + 1)).length (ints (natsI (plL wd i (k + 1)))) ∧ Below w.heap.size w w5) := fun v' w5 ho5 hg5 => by
          rw [HS2.out, natsI_app, List.length_append, List.length_singleton]
          exact ⟨ho5, (HB.out.alloc hsz _).grown hg5 (by simp; omega) (fun x hx => (HOA.out.lt x hx).1)⟩
        rcases g with g | g
        · have gI : (x : Int) = (i : Int) := by omega
          rw [gI] at hcc
          clear gI g
          go_wp2_with (first | (at_builtin; refine wpList_append_own _ rfl _ _ 22 rfl w.heap.size 3 i3 (.int .i64 0) 1 8 Try.underlying22 hi3 hz30 hz31 hz32 rfl (by decide) _ _ _ rfl (HOA.out.alloc _) ⟨wr.heap.size, 0, none⟩ 1 1 [.int .i64 (k : Int)] rfl rfl (one_new _ _ _) (one_int _) ?c3 ?c4 ?c5 ?_))
          case c3 => unfold maxLen; omega
          case c4 => omega
          case c5 => first | exact Nat.le_trans hsz (Nat.le_succ _) | (simp; omega)
          intro v' w5 ho5 hg5 _
          have HT5 : Hid (_ ∧ _) := HJ.out v' w5 ho5 hg5
          clear ho5 hg5
          go_wp2
          go_roundw
          case rel => exact ⟨k + 1, by omega, by go_num, HT5.out.1, HT5.out.2⟩
          case measure => simp [intOf]; omega
        · have gI : (x : Int) = (i : Int) + 1 := by omega
          rw [gI] at hcc
          clear gI g
          go_wp2_with (first | (at_builtin; refine wpList_append_own _ rfl _ _ 22 rfl w.heap.size 3 i3 (.int .i64 0) 1 8 Try.underlying22 hi3 hz30 hz31 hz32 rfl (by decide) _ _ _ rfl (HOA.out.alloc _) ⟨wr.heap.size, 0, none⟩ 1 1 [.int .i64 (k : Int)] rfl rfl (one_new _ _ _) (one_int _) ?d3 ?d4 ?d5 ?_))
          case d3 => unfold maxLen; omega
          case d4 => omega
          case d5 => first | exact Nat.le_trans hsz (Nat.le_succ _) | (simp; omega)
          intro v' w5 ho5 hg5 _
          have HT5 : Hid (_ ∧ _) := HJ.out v' w5 ho5 hg5
          clear ho5 hg5
          go_wp2
          go_roundw
          case rel => exact ⟨k + 1, by omega, by go_num, HT5.out.1, HT5.out.2⟩
          case measure => simp [intOf]; omega
      · have HS2 : Hid (plL wd i (k + 1) = A) := by show _ = _; rw [HST.out, if_neg g]
        have g1I : ((x : Int) == (i : Int)) = false := by simp; omega
        have g2I : ((x : Int) == (i : Int) + 1) = false := by simp; omega
        clear HST g
        go_wp2
        go_roundw
        case rel => exact ⟨k + 1, by omega, by go_num, by rw [HS2.out]; exact HOA.out, HB.out⟩
        case measure => simp [intOf]; omega
    · have hke : k = wd.length := by omega
      subst hke
      have HI0 : Hid (CutI w wd i u8 (.int .i64 0) wr (plL wd i wd.length) 0) := ⟨rfl, plL_left wd i, Nat.zero_le _, fun j hj => absurd hj (by omega), hown, hbel⟩
      clear hown hbel
      obtain ⟨xo, xc, hxv⟩ := owns_form HI0.out.own
      subst hxv
      generalize plL wd i wd.length = l0 at *
      go_wp2
      go_loopw [8, 10] (fun av kv wq => ∃ l k, CutI w wd i av kv wq l k) (fun av kv _ => slLenK av * 10 - (intOf kv).toNat)
      case atStart => exact ⟨l0, 0, HI0.out⟩
      case round =>
        obtain ⟨l, k, hI⟩ := hrel
        have hkv := hI.kv
        subst hkv
        obtain ⟨xo, xc, hxv⟩ := owns_form hI.own
        subst hxv
        have HI : Hid (CutI w wd i (.slice xo l.length xc) (.int .i64 (k : Int)) wr l k) := hI
        have hll := hI.lp.len
        have hkl := hI.le
        clear hI HI0
        by_cases hlt : k + 1 < l.length
        · have hltI : (k : Int) + 1 < (l.length : Int) := by omega
          obtain ⟨L, hL⟩ : ∃ L, l.length = L + 1 := ⟨l.length - 1, by omega⟩
          have hok := HI.out.own
          rw [hL] at hok
          obtain ⟨g, c1, hgv, hgc, hgm⟩ := owns_some hok
          rw [← hL] at hgv hgc
          simp only [Value.slice.injEq, true_and] at hgv
          obtain ⟨rfl, rfl⟩ := hgv
          clear hok hL
          unfold maxLen at hgm
          have hc1 := word_cell HI.out.own (p := k) (by omega)
          have hc2 := word_cell HI.out.own (p := k + 1) hlt
          obtain ⟨hp1, hp1'⟩ := HI.out.lp.mem (l.getD k 0) (by simp [show k < l.length by omega])
          obtain ⟨hp2, hp2'⟩ := HI.out.lp.mem (l.getD (k + 1) 0) (by simp [hlt])
          obtain ⟨b, o, cp, hs, _, _⟩ := sl_cell HV.out (k := 0) (by rw [natsI_len]; omega)
          rw [natsI_len] at hs
          simp only [Value.slice.injEq, true_and] at hs
          obtain ⟨rfl, rfl⟩ := hs
          have hd1 := sl_word HV.out HI.out.bel hp1
          have hd2 := sl_word HV.out HI.out.bel hp2
          have HNP : Hid (∀ j, j < k + 1 → j < k ∨ j = k) := fun j hj => by omega
          have HCT : Hid (wd.getD (l.getD k 0) 0 = i → wd.getD (l.getD (k + 1) 0) 0 = i + 1 → LeftP wd i (l.take k ++ l.drop (k + 2))) := fun h1 h2 => HI.out.lp.cut hlt h1 h2
          have HNX : Hid (¬ (wd.getD (l.getD k 0) 0 = i ∧ wd.getD (l.getD (k + 1) 0) 0 = i + 1) → CutI w wd i (.slice (some ⟨g, 0, none⟩) l.length xc) (.int .i64 ((k + 1 : Nat) : Int)) wr l (k + 1)) := fun hno => ⟨rfl, HI.out.lp, by omega, fun j hj hj2 => by
            rcases HNP.out j hj with h | h
            · exact HI.out.no j h hj2
            · rw [h]; exact hno, HI.out.own, HI.out.bel⟩
          generalize wd.getD (l.getD k 0) 0 = x at *
          generalize wd.getD (l.getD (k + 1) 0) 0 = y at *
          generalize l.getD k 0 = p at *
          generalize l.getD (k + 1) 0 = q at *
          have hp1I : (p : Int) < (wd.length : Int) := by omega
          have hp2I : (q : Int) < (wd.length : Int) := by omega
          have hkI : (k : Int) < (l.length : Int) := by omega
          by_cases g1 : x = i ∧ y = i + 1
          · have g1x : (x : Int) = (i : Int) := by omega
            have g1y : (y : Int) = (i : Int) + 1 := by omega
            rw [g1x] at hd1
            rw [g1y] at hd2
            clear g1x g1y
            have HLP0 : Hid (LeftP wd i (l.take k ++ l.drop (k + 2))) := HCT.out g1.1 g1.2
            clear HCT HNX HNP hp1' hp2' g1
            have HCP : Hid (∀ W, Below wr.heap.size wr W → Calls Try.prog 21 #[.slice (some ⟨g, 0, none⟩) k xc] W fun e w' => ∃ u, e = .returned u ∧ w'.ownsRow W.heap.size 3 1 u k (ints (natsI (l.take k))) ∧ Below W.heap.size W w') := fun W hW => by
              have h1 : W.ownsRow w.heap.size 3 1 (.slice (some ⟨g, 0, none⟩) k xc) k (ints (natsI (l.take k))) := by
                rw [natsI_take]
                exact own_take (owns_below HI.out.own hW (Nat.le_refl _)) (by omega)
              have := copy_any W.heap.size (natsI (l.take k)) _ W (Sl.own h1) (by rw [natsI_len]; simp; omega)
              rw [natsI_len, List.length_take, Nat.min_eq_left (by omega)] at this
              exact this
            obtain ⟨K2, hK2⟩ : ∃ K2 : Nat, k + 2 = K2 := ⟨_, rfl⟩
            have HLP : Hid (LeftP wd i (l.take k ++ l.drop K2)) := by rw [← hK2]; exact HLP0.out
            have hwr : IntKind.i64.wrap ((k : Int) + 2) = (K2 : Int) := by
              rw [show (k : Int) + 2 = (K2 : Int) by omega, IntWalk.i64_left]
              exact IntWalk.wrap64_in _ ⟨by omega, by omega⟩
            have HTC : Hid (∀ W, Below wr.heap.size wr W → ∀ j u, (ints (natsI (l.drop K2)))[j]? = some u → W.cell? ((if xc = K2 then (⟨g, 0, none⟩ : Addr) else ⟨g, K2, none⟩).add j) = some u) := fun W hW => tail_cells (owns_below HI.out.own hW (Nat.le_refl _)) rfl
            have HFIN : Hid (∀ W v6, W.ownsRow wr.heap.size 3 1 v6 (k + (l.length - K2)) (ints (natsI (l.take k)) ++ ints (natsI (l.drop K2))) → Below w.heap.size w W → CutI w wd i v6 (.int .i64 0) W (l.take k ++ l.drop K2) 0) := fun W v6 ho hb => by
              have e : ints (natsI (l.take k ++ l.drop K2)) = ints (natsI (l.take k)) ++ ints (natsI (l.drop K2)) := by simp [ints, natsI]
              have e2 : (l.take k ++ l.drop K2).length = k + (l.length - K2) := by simp; omega
              refine ⟨rfl, HLP.out, Nat.zero_le _, fun j hj => absurd hj (by omega), ?_, hb⟩
              rw [e, e2]
              exact own_low ho HI.out.bel.size
            have HBW : Hid (Below w.heap.size w wr) := HI.out.bel
            have hsz : w.heap.size ≤ wr.heap.size := HI.out.bel.size
            have hk2 : K2 ≤ l.length := by omega
            have hk2I : (K2 : Int) ≤ (l.length : Int) := by omega
            obtain ⟨AD, hAD⟩ : ∃ AD : Addr, (if xc = K2 then some (⟨g, 0, none⟩ : Addr) else some ⟨g, K2, none⟩) = some AD := ⟨if xc = K2 then (⟨g, 0, none⟩ : Addr) else ⟨g, K2, none⟩, by split <;> rfl⟩
            have hAE : (if xc = K2 then (⟨g, 0, none⟩ : Addr) else ⟨g, K2, none⟩) = AD := by
              by_cases h : xc = K2
              · rw [if_pos h] at hAD ⊢; exact Option.some.inj hAD
              · rw [if_neg h] at hAD ⊢; exact Option.some.inj hAD
            rw [hAE] at HTC
            have hkl2 : k + 2 = K2 := hK2
            clear HI HLP HLP0 hAE
            go_wp2
            refine wp_region_held_drew (S := fun _ => True) (by kernel_rfl) trivial (fun hHeld => ?_)
            refine wpAnyH_tk (i := 0) (d := 68) (v := (.slice (some ⟨g, 0, none⟩) l.length xc)) rfl rfl (by kernel_rfl) (by kernel_rfl) (by kernel_rfl) (fun _ _ _ h => h) (.inl ⟨by rfl, by (intro wq hSw; (try dsimp only at hSw); go_simp; (try (first | rfl | omega)))⟩) hHeld ?_
            simp only [Act.put, List.setIfInBounds_toArray, List.set_cons_zero, List.set_cons_succ]
            refine wpAnyH_tk (i := 1) (d := 69) (v := (.int .i64 (k : Int))) rfl rfl (by kernel_rfl) (by kernel_rfl) (by kernel_rfl) (fun _ _ _ h => h) (.inl ⟨by rfl, by (intro wq hSw; (try dsimp only at hSw); go_simp; (try (first | rfl | omega)))⟩) hHeld ?_
            simp only [Act.put, List.setIfInBounds_toArray, List.set_cons_zero, List.set_cons_succ]
            refine wpAnyH_tk (i := 2) (d := 70) (v := (.slice (some ⟨g, 0, none⟩) k xc)) rfl rfl (by kernel_rfl) (by kernel_rfl) (by kernel_rfl) (fun _ _ _ h => h) (.inl ⟨by rfl, by (intro wq hSw; (try dsimp only at hSw); go_simp; (try (first | rfl | omega)))⟩) hHeld ?_
            simp only [Act.put, List.setIfInBounds_toArray, List.set_cons_zero, List.set_cons_succ]
            refine wpAnyH_tk (i := 4) (d := 72) (v := (.slice (some ⟨g, 0, none⟩) l.length xc)) rfl rfl (by kernel_rfl) (by kernel_rfl) (by kernel_rfl) (fun _ _ _ h => h) (.inl ⟨by rfl, by (intro wq hSw; (try dsimp only at hSw); go_simp; (try (first | rfl | omega)))⟩) hHeld ?_
            simp only [Act.put, List.setIfInBounds_toArray, List.set_cons_zero, List.set_cons_succ]
            refine wpAnyH_tk (i := 5) (d := 73) (v := (.int .i64 (k : Int))) rfl rfl (by kernel_rfl) (by kernel_rfl) (by kernel_rfl) (fun _ _ _ h => h) (.inl ⟨by rfl, by (intro wq hSw; (try dsimp only at hSw); go_simp; (try (first | rfl | omega)))⟩) hHeld ?_
            simp only [Act.put, List.setIfInBounds_toArray, List.set_cons_zero, List.set_cons_succ]
            refine wpAnyH_tk (i := 6) (d := 74) (v := (.int .i64 (K2 : Int))) rfl rfl (by kernel_rfl) (by kernel_rfl) (by kernel_rfl) (fun _ _ _ h => h) (.inl ⟨by rfl, by (intro wq hSw; (try dsimp only at hSw); go_simp; (try (first | rfl | omega)))⟩) hHeld ?_
            simp only [Act.put, List.setIfInBounds_toArray, List.set_cons_zero, List.set_cons_succ]
            refine wpAnyH_tk (i := 7) (d := 75) (v := (.slice (some AD) (l.length - K2) (xc - K2))) rfl rfl (by kernel_rfl) (by kernel_rfl) (by kernel_rfl) (fun _ _ _ h => h) (.inl ⟨by rfl, by (intro wq hSw; (try dsimp only at hSw); go_simp; (try simp only [hAD]); (try rfl))⟩) hHeld ?_
            simp only [Act.put, List.setIfInBounds_toArray, List.set_cons_zero, List.set_cons_succ]
            refine wpAnyH_ready (rs := [3]) (by kernel_rfl) (by simp) ?_
            refine ready_tk (i := 3) rfl (by rfl) (fun K hK => ?_) AllReadyH.nil
            go_simp
            refine (HCP.out wr.drew ⟨rfl, rfl, rfl, Nat.le_refl _, fun _ _ => rfl⟩).mono ?_
            rintro e w5 ⟨u5, rfl, ho5, hb5⟩
            have hb5' : Below wr.heap.size wr w5 := ⟨hb5.os, hb5.tape, hb5.output, hb5.size, hb5.block⟩
            have HB5 : Hid (Below wr.heap.size wr w5) := hb5'
            have hsz5 : wr.heap.size ≤ w5.heap.size := hb5'.size
            obtain ⟨uo5, uc5, huv5⟩ := owns_form ho5
            subst huv5
            have HO5 : Hid (w5.ownsRow wr.heap.size 3 1 (.slice uo5 k uc5) k (ints (natsI (l.take k)))) := ho5
            clear ho5 hb5 hb5'
            refine hK.out _ _ trivial (fun hHeld => ?_)
            clear hK K
            refine wpAnyH_ready (rs := [8]) (by kernel_rfl) (by simp) ?_
            refine ready_tk (i := 8) rfl (by rfl) (fun K hK => ?_) AllReadyH.nil
            refine op_append_ownA (.tmp 71) (.tmp 75) 22 (by rfl) wr.heap.size 3 i3 (.int .i64 0) 1 8 Try.underlying22 hi3 hz30 hz31 hz32 rfl (by decide) _ _ _ (by rfl) HO5.out AD (l.length - K2) (xc - K2) (ints (natsI (l.drop K2))) (by rfl) (by simp [ints, natsI]) (HTC.out w5 HB5.out) (ints_oneCell' _) (by unfold maxLen; omega) (by omega) hsz5 ?_
            intro v6 w6 ho6 hg6 _
            have hb6 : Below wr.heap.size wr w6 := HB5.out.grown hg6 hsz5 (fun x hx => (HO5.out.lt x hx).1)
            have HF6 : Hid (CutI w wd i v6 (.int .i64 0) w6 (l.take k ++ l.drop K2) 0) := HFIN.out w6 v6 ho6 (HBW.out.trans (hb6.mono hsz))
            refine hK.out _ _ trivial (fun hHeld => ?_)
            clear hK K
            simp only [Act.put, List.setIfInBounds_toArray, List.set_cons_zero, List.set_cons_succ]
            obtain ⟨vo, vc, hv6⟩ := owns_form ho6
            subst hv6
            clear hg6 ho6 hb6
            refine wpAnyH_tk (i := 9) (d := 8) (v := (.slice vo (k + (l.length - K2)) vc)) rfl rfl (by kernel_rfl) (by kernel_rfl) (by kernel_rfl) (fun _ _ _ h => h) (.inl ⟨by rfl, by (intro wq hSw; (try dsimp only at hSw); go_simp; (try (first | rfl | omega)))⟩) hHeld ?_
            simp only [Act.put, List.setIfInBounds_toArray, List.set_cons_zero, List.set_cons_succ]
            refine wpAnyH_done (by kernel_rfl) ?_ _
            clear hHeld
            go_wp2
            go_roundw
            case rel => exact ⟨_, 0, HF6.out⟩
            case measure => simp [intOf, slLenK]; omega
          · have HNX2 := HNX.out g1
            have HNX3 : Hid (CutI w wd i (.slice (some ⟨g, 0, none⟩) l.length xc) (.int .i64 ((k + 1 : Nat) : Int)) wr l (k + 1)) := HNX2
            clear HNX HCT HNX2 HNP HI
            have gb : (((x : Int) == (i : Int)) && ((y : Int) == (i : Int) + 1)) = false := by
              by_cases h : x = i
              · have : ((y : Int) == (i : Int) + 1) = false := by simp; omega
                rw [this]; simp
              · have : ((x : Int) == (i : Int)) = false := by simp; omega
                rw [this]; simp
            clear g1 hp1' hp2'
            by_cases h : x = i
            · have hx : (x : Int) = (i : Int) := by omega
              have hy : ((y : Int) == (i : Int) + 1) = false := by
                have e : ((x : Int) == (i : Int)) = true := by simp; omega
                rw [e] at gb
                simpa using gb
              rw [hx] at hd1
              clear hx h gb
              go_wp2
              go_roundw
              case rel => exact ⟨l, k + 1, by have := HNX3.out; exact ⟨by go_num, this.lp, this.le, this.no, this.own, this.bel⟩⟩
              case measure => simp [intOf, slLenK]; omega
            · have hx : ((x : Int) == (i : Int)) = false := by simp; omega
              clear h gb
              go_wp2
              go_roundw
              case rel => exact ⟨l, k + 1, by have := HNX3.out; exact ⟨by go_num, this.lp, this.le, this.no, this.own, this.bel⟩⟩
              case measure => simp [intOf, slLenK]; omega
        · have hltI : ¬ (k : Int) + 1 < (l.length : Int) := by omega
          have HNO : Hid (NoP wd i l) := fun j hj => HI.out.no j (by omega) hj
          have HP0 : Hid (PlI w up wd i l (.slice xo l.length xc) (.int .i64 (-1)) (.int .i64 0) wr 0) := ⟨rfl, Nat.zero_le _, rfl, HI.out.own, HI.out.bel⟩
          have HLP : Hid (LeftP wd i l) := HI.out.lp
          clear HI
          go_wp2
          go_loopw [11, 12] (fun pv kv wq => ∃ k, PlI w up wd i l (.slice xo l.length xc) pv kv wq k) (fun _ kv _ => l.length - (intOf kv).toNat)
          case atStart => exact ⟨0, HP0.out⟩
          case round =>
            obtain ⟨k3, hI⟩ := hrel
            have hkv := hI.kv
            subst hkv
            have hpv := hI.pv
            subst hpv
            have hle := hI.le
            clear HP0
            have HOW : Hid (wr.ownsRow w.heap.size 3 1 (.slice xo l.length xc) l.length (ints (natsI l))) := hI.own
            have HBW : Hid (Below w.heap.size w wr) := hI.bel
            clear hI
            by_cases hlt3 : k3 < l.length
            · have hlt3I : (k3 : Int) < (l.length : Int) := by omega
              obtain ⟨L, hL⟩ : ∃ L, l.length = L + 1 := ⟨l.length - 1, by omega⟩
              have hok := HOW.out
              rw [hL] at hok
              obtain ⟨g, c1, hgv, hgc, hgm⟩ := owns_some hok
              rw [← hL] at hgv
              simp only [Value.slice.injEq, true_and] at hgv
              obtain ⟨rfl, rfl⟩ := hgv
              clear hok hL hgc
              have hc1 := word_cell HOW.out (p := k3) hlt3
              obtain ⟨hp1, hx⟩ := HLP.out.mem (l.getD k3 0) (by simp [hlt3])
              obtain ⟨b, o, cp, hs, _, _⟩ := sl_cell HV.out (k := 0) (by rw [natsI_len]; omega)
              rw [natsI_len] at hs
              simp only [Value.slice.injEq, true_and] at hs
              obtain ⟨rfl, rfl⟩ := hs
              have hd1 := sl_word HV.out HBW.out hp1
              have HSN := plc_snoc up wd i hlt3
              have HFI : Hid (∀ z : Int, plc up wd i (l.take (k3 + 1)) = z → PlI w up wd i l (.slice (some ⟨g, 0, none⟩) l.length xc) (.int .i64 z) (.int .i64 ((k3 + 1 : Nat) : Int)) wr (k3 + 1)) := fun z hz => ⟨rfl, by omega, by rw [hz], HOW.out, HBW.out⟩
              unfold stp at HSN
              generalize plc up wd i (l.take k3) = P at *
              generalize plc up wd i (l.take (k3 + 1)) = P2 at *
              generalize wd.getD (l.getD k3 0) 0 = x at *
              generalize l.getD k3 0 = p at *
              have hp1I : (p : Int) < (wd.length : Int) := by omega
              have HFJ : Hid (∀ z : Int, P2 = z → ∃ k, PlI w up wd i l (.slice (some ⟨g, 0, none⟩) l.length xc) (.int .i64 z) (.int .i64 ((k3 + 1 : Nat) : Int)) wr k) := fun z hz => ⟨_, HFI.out z hz⟩
              clear HFI
              cases up with
              | true =>
                by_cases hx1 : x = i + 1
                · have e : Hid (P2 = (p : Int)) := by show _ = _; rw [HSN, if_pos (Or.inl ⟨rfl, hx1⟩)]
                  have hxI : (x : Int) = (i : Int) + 1 := by omega
                  rw [hxI] at hd1
                  clear hxI HSN hx hx1
                  go_wp2
                  go_roundw
                  case rel => exact HFJ.out _ e.out
                  case measure => simp [intOf]; omega
                · have e : Hid (P2 = P) := by show _ = _; rw [HSN, if_neg (fun h => h.elim (fun h => hx1 h.2) (fun h => Bool.noConfusion h.1))]
                  have hxI : ((x : Int) == (i : Int) + 1) = false := by simp; omega
                  clear HSN hx hx1
                  go_wp2
                  go_roundw
                  case rel => exact HFJ.out _ e.out
                  case measure => simp [intOf]; omega
              | false =>
                by_cases hx1 : x = i
                · have hxI : (x : Int) = (i : Int) := by omega
                  rw [hxI] at hd1
                  by_cases hP : P < 0
                  · have e : Hid (P2 = (p : Int)) := by show _ = _; rw [HSN, if_pos (Or.inr ⟨rfl, hx1, hP⟩)]
                    clear hxI HSN hx hx1
                    go_wp2
                    go_roundw
                    case rel => exact HFJ.out _ e.out
                    case measure => simp [intOf]; omega
                  · have e : Hid (P2 = P) := by show _ = _; rw [HSN, if_neg (fun h => h.elim (fun h => Bool.noConfusion h.1) (fun h => hP h.2.2))]
                    have hPd : decide (P < 0) = false := by simp; omega
                    clear hxI HSN hx hx1
                    go_wp2
                    go_roundw
                    case rel => exact HFJ.out _ e.out
                    case measure => simp [intOf]; omega
                · have e : Hid (P2 = P) := by show _ = _; rw [HSN, if_neg (fun h => h.elim (fun h => Bool.noConfusion h.1) (fun h => hx1 h.2.1))]
                  have hxI : ((x : Int) == (i : Int)) = false := by simp; omega
                  clear HSN hx hx1
                  go_wp2
                  go_roundw
                  case rel => exact HFJ.out _ e.out
                  case measure => simp [intOf]; omega
            · have hke : k3 = l.length := by omega
              subst hke
              rw [List.take_length]
              have hdone := plc_done (up := up) HLP.out HNO.out
              have HCY := HCW.out wr HBW.out
              generalize plc up wd i l = P at *
              clear HLP HNO HCW
              rcases hdone with ⟨hP, hT⟩ | ⟨p, rfl, hp, hT⟩
              · have HT : Hid (turn up wd i = none) := hT
                clear hT HCY
                go_wp2
                go_ret2
                rw [HT.out]
                exact ⟨⟨_, rfl, rfl⟩, HBW.out⟩
              · have hp0 : ¬ (p : Int) < 0 := by omega
                have HT : Hid (turn up wd i = some (wd.set p (if up = true then i else i + 1))) := hT
                clear hT
                go_wp2_with fail
                refine HCY.mono ?_
                rintro e w5 ⟨u, rfl, hou, hb5⟩
                obtain ⟨wl, hwl⟩ : ∃ n, wd.length = n + 1 := ⟨wd.length - 1, by omega⟩
                have hou2 := hou
                rw [hwl] at hou2
                obtain ⟨g2, c2, hg2, hg2c, hg2m⟩ := owns_some hou2
                rw [← hwl] at hg2
                subst hg2
                have hc1 := word_cell hou hp
                have hf1 := hou.frozenAt p
                have hsz := HBW.out.size
                have ST := set_word (p := p) (z := i + 1) hou (HBW.out.trans (hb5.mono hsz)) hsz
                have ei : ((i + 1 : Nat) : Int) = (i : Int) + 1 := by omega
                rw [ei] at ST
                have HST : Hid (_ ∧ _) := ST
                have ST2 := set_word (wd := wd.set p (i + 1)) (p := p) (z := i) (by rw [List.length_set]; have := ST.1; rw [List.length_set] at this; exact this) ST.2 hsz
                rw [List.set_set, List.length_set] at ST2
                have HST2 : Hid (_ ∧ _) := ST2
                have hpI : (p : Int) < (wd.length : Int) := by omega
                clear ST ST2 hou hou2 HCY hb5 ei hwl hg2c
                generalize wd.getD p 0 = zz at *
                cases up with
                | true =>
                  go_wp2
                  go_ret2
                  rw [HT.out]
                  exact ⟨⟨_, rfl, own_low HST2.out.1 hsz⟩, HST2.out.2⟩
                | false =>
                  go_wp2
                  go_ret2
                  rw [HT.out]
                  exact ⟨⟨_, rfl, own_low HST.out.1 hsz⟩, HST.out.2⟩

end Go.Proofs.Ytnooabbcfhmjaaa
