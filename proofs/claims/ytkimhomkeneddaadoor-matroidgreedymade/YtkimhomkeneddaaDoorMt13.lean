/- matroid.heaviestFirst: the walk. -/
import Derived.Test.YtkimhomkeneddaaDoorMt12
namespace Go.Proofs.YtkimhomkeneddaaDoor
open Go.RowKit
attribute [local go_sem ↓] Go.wp_at_zero Go.wp_at_succ

set_option maxRecDepth 100000 in
set_option maxHeartbeats 800000 in
theorem heaviest_any (ws : List Int) (v : Value) (w : World) (hv : Sl w.heap.size 3 w v (ints ws)) (hn : ws.length ≤ 8) :
    Calls Tryd.prog 17 #[v] w fun e w' => ∃ u, e = .returned u ∧ w'.ownsRow w.heap.size 3 1 u ws.length (ints (hvL ws)) ∧ Below w.heap.size w w' := by
  obtain ⟨i3, hi3, hz30, hz31, hz32⟩ := info_parts Tryd.info3
  obtain ⟨ao, cap, hvv, hlc, hcm⟩ := sl_open hv
  subst hvv
  obtain ⟨W, hW⟩ : ∃ W, W = w.alloc (.cells #[.slice ao ws.length cap] 22) := ⟨_, rfl⟩
  have HBA : Hid (Below w.heap.size w W) := by rw [hW]; exact (Below.refl _ _).alloc (Nat.le_refl _) _
  have hsW : W.heap.size = w.heap.size + 1 := by rw [hW]; simp
  have c1 : W.cell? ⟨w.heap.size, 0, none⟩ = some (.slice ao ws.length cap) := by rw [hW]; simp
  have HV : Hid (Sl w.heap.size 3 W (.slice ao ws.length cap) (ints ws)) := hv.below HBA.out (Nat.le_refl _)
  have HC1 : Hid (W.cell? ⟨w.heap.size, 0, none⟩ = some (.slice ao ws.length cap)) := c1
  have HSW : Hid (W.heap.size = w.heap.size + 1) := hsW
  clear hv hsW
  go_enter Tryd.func17, Tryd.ntmps17
  go_wp2
  rw [← hW]
  clear hW c1
  go_loopw [3, 4, 7] (fun x _ i wr => ∃ k : Nat, k ≤ ws.length ∧ i = .int .i64 k ∧ wr.ownsRow W.heap.size 3 1 x k (ints (rngI k)) ∧ Below W.heap.size W wr) (fun _ _ i _ => ws.length - (intOf i).toNat)
  case atStart => exact ⟨0, Nat.zero_le _, rfl, World.ownsRow_nil _ _ _ _, Below.refl _ _⟩
  case round =>
    obtain ⟨k, hk, rfl, ho, hb⟩ := hrel
    have HO : Hid (wr.ownsRow W.heap.size 3 1 u3 k (ints (rngI k))) := ho
    have HB : Hid (Below W.heap.size W wr) := hb
    clear ho hb
    have hszr : W.heap.size ≤ wr.heap.size := HB.out.size
    by_cases hlt : k < ws.length
    · have HSN : Hid (ints (rngI (k + 1)) = ints (rngI k) ++ [.int .i64 (k : Int)]) := by
        show _ = _
        rw [rngI_succ]; simp [ints]
      have kI : (k : Int) < (ws.length : Int) := by omega
      go_wp2_with (first | (at_builtin; refine wpList_append_own _ rfl _ _ 22 rfl W.heap.size 3 i3 (.int .i64 0) 1 8 Tryd.underlying22 hi3 hz30 hz31 hz32 rfl (by decide) _ _ _ rfl (HO.out.alloc _) ⟨wr.heap.size, 0, none⟩ 1 1 [.int .i64 k] rfl rfl (one_new _ _ _) (one_int _) ?c3 ?c4 ?c5 ?_))
      case c3 => unfold maxLen; omega
      case c4 => omega
      case c5 => first | exact hszr | omega | (simp; omega)
      intro v' w3 ho3 hg3 _
      have R1 : Hid (w3.ownsRow W.heap.size 3 1 v' (k + 1) (ints (rngI (k + 1)))) := by
        show World.ownsRow _ _ _ _ _ _ _
        rw [HSN.out]
        exact ho3
      have R2 : Hid (Below W.heap.size W w3) := (HB.out.alloc hszr _).grown hg3 (by simp; omega) (fun x hx => (HO.out.lt x hx).1)
      clear ho3 hg3
      go_wp2
      go_roundw
      case rel => exact ⟨k + 1, by omega, by go_num, R1.out, R2.out⟩
      case measure => simp [intOf]; omega
    · have hke : k = ws.length := by omega
      have kD : decide ((k : Int) < (ws.length : Int)) = false := decide_eq_false (by omega)
      obtain ⟨xo, xc, hx⟩ := owns_form HO.out
      subst hx
      have HSRT : Hid (Calls Tryd.prog 33 #[.slice xo k xc, .func (.func 34) #[] #[.pointer (some ⟨w.heap.size, 0, none⟩)]] wr fun e w' => e = .returned (.tuple #[]) ∧ (w'.ownsRow w.heap.size 3 1 (.slice xo k xc) ws.length (ints (hvL ws)) ∧ Below w.heap.size w w')) := by
        have hsW := HSW.out
        refine sortS_any k xc xo _ wr _ (by omega) ?_
        have hbw : Below w.heap.size w wr := HBA.out.trans (HB.out.mono HBA.out.size)
        cases k with
        | zero =>
          refine (insS0_any _ _ wr).mono ?_
          rintro e w' ⟨rfl, rfl⟩
          refine ⟨rfl, ?_, hbw⟩
          have e0 : hvL ws = [] := by
            unfold hvL
            rw [← hke]; rfl
          rw [e0, ← hke]
          have h := HO.out
          refine ⟨h.1, ?_⟩
          rcases h.2 with h2 | ⟨g', cap', cur, h1, h2, r⟩
          · exact Or.inl h2
          · exact Or.inr ⟨g', cap', cur, h1, by omega, r⟩
        | succ q =>
          rcases HO.out.2 with ⟨_, h0⟩ | ⟨g, cap', cur, h1, hB, hh, r⟩
          · omega
          · simp only [Value.slice.injEq] at h1
            obtain ⟨rfl, -, rfl⟩ := h1
            have hIS : IS W.heap.size g xc (q + 1) ws.length wr (rngI (q + 1)) wr := ⟨HO.out, rngI_len _, by rw [hke]; exact rngI_pl _, fun _ _ => rfl, rfl, rfl, rfl, rfl⟩
            refine (insS_any W.heap.size g xc (q + 1) ws (rngI (q + 1)) ⟨w.heap.size, 0, none⟩ wr hIS (by omega) (by omega) (fun W' hW' x y hx hy => ?_)).mono ?_
            · have hk2 : ∀ b, b < W.heap.size → W'.heap[b]? = W.heap[b]? := fun b hb => (hW' b (by omega)).trans (HB.out.block b hb)
              exact heavy1_any w.heap.size ws x y (.slice ao ws.length cap) _ W' (HV.out.keepM hk2) hx hy ((World.cell?_of_block (w := W) (a := ⟨w.heap.size, 0, none⟩) (hk2 w.heap.size (by omega))).trans HC1.out)
            · rintro e w' ⟨rfl, hIS'⟩
              refine ⟨rfl, ?_, hbw.trans ⟨hIS'.os, hIS'.tape, hIS'.out, by rw [hIS'.sz]; exact Nat.le_refl _, fun b hb => hIS'.oth b (by omega)⟩⟩
              have h := hIS'.own
              have e0 : insO ws (q + 1 - 1) 1 (rngI (q + 1)) = hvL ws := by unfold hvL; rw [← hke]
              rw [e0] at h
              rw [← hke]
              refine ⟨h.1, ?_⟩
              rcases h.2 with h2 | ⟨g', cap', cur, h1, h2, r⟩
              · exact Or.inl h2
              · exact Or.inr ⟨g', cap', cur, h1, by omega, r⟩
      clear HO HB HV hke
      go_wp2_with fail
      refine HSRT.out.mono ?_
      rintro e w' ⟨rfl, h1, h2⟩
      have H1 : Hid (w'.ownsRow w.heap.size 3 1 (.slice xo k xc) ws.length (ints (hvL ws))) := h1
      have H2 : Hid (Below w.heap.size w w') := h2
      clear h1 h2 HSRT
      go_wp2
      go_ret
      exact ⟨_, rfl, H1.out, H2.out⟩

end Go.Proofs.YtkimhomkeneddaaDoor
