/- The document's HighOf. -/
import Derived.Test.YtnooabbcfhmjaaaCr7
namespace Go.Proofs.Ytnooabbcfhmjaaa
open Go.RowKit
attribute [local go_sem ↓] Go.wp_at_zero Go.wp_at_succ

/-- A list. -/
structure HighD (B : Nat) (wa : World) (n : Nat) (wd : List Nat) (e : Ending) (w : World) : Prop where
  ex : ∃ u z, e = .returned u ∧ HiR n wd z ∧ w.ownsRow B 3 1 u z.length (ints (natsI z))
  bel : Below B wa w

/-- As far as the loop is. -/
structure HighJ (w0 : World) (n : Nat) (wd : List Nat) (iv : Value) (wr : World) (i : Nat) : Prop where
  iv : iv = .int .i64 (i : Int)
  le : i ≤ n
  no : ∀ j, j < i → cUp wd j = none
  bel : Below w0.heap.size w0 wr

set_option maxRecDepth 100000 in
set_option maxHeartbeats 1600000 in
theorem highOf_step (B : Nat) (n : Nat) (wd : List Nat) (v : Value) (w : World) (hv : Sl B 3 w v (ints (natsI wd))) (hn3 : n ≤ 3) (hl : wd.length ≤ 8)
    (ih : ∀ x u (W : World), (∃ j, cUp wd j = some x) → Sl W.heap.size 3 W u (ints (natsI x)) → Calls Try.prog 12 #[.int .i64 (n : Int), u] W fun e w' => HighD W.heap.size W n x e w') :
    Calls Try.prog 12 #[.int .i64 (n : Int), v] w fun e w' => HighD w.heap.size w n wd e w' := by
  have HCW : Hid (∀ W, Below w.heap.size w W → Calls Try.prog 21 #[v] W fun e w' => ∃ u, e = .returned u ∧ w'.ownsRow W.heap.size 3 1 u wd.length (ints (natsI wd)) ∧ Below W.heap.size W w') := fun W hW => by
    have := copy_any B (natsI wd) v W (hv.below hW (Nat.le_refl _)) (by rw [natsI_len]; omega)
    rw [natsI_len] at this
    exact this
  have HTU : Hid (∀ W (i : Nat), Below w.heap.size w W → i ≤ 3 → Calls Try.prog 6 #[v, .int .i64 (i : Int), .bool true] W fun e w' => TurnP W.heap.size W (cUp wd i) e w') := fun W i hW hi => turnW_any B true wd i v W (hv.below hW (Nat.le_refl _)) hl hi
  have HIH : Hid (∀ x u (W : World), (∃ j, cUp wd j = some x) → Sl W.heap.size 3 W u (ints (natsI x)) → Calls Try.prog 12 #[.int .i64 (n : Int), u] W fun e w' => HighD W.heap.size W n x e w') := ih
  clear ih
  obtain ⟨ao, cap, hvv, hlc, hcm⟩ := sl_open hv
  subst hvv
  clear hv
  go_enter Try.func12, Try.ntmps12
  go_wp2
  go_loopw [5] (fun iv wr => ∃ i, HighJ w n wd iv wr i) (fun iv _ => n - (intOf iv).toNat)
  case atStart => exact ⟨0, rfl, Nat.zero_le _, fun j hj => absurd hj (by omega), Below.refl _ _⟩
  case round =>
    obtain ⟨i, hI⟩ := hrel
    have hiv := hI.iv
    subst hiv
    have HI : Hid (HighJ w n wd (.int .i64 (i : Int)) wr i) := hI
    have hle := hI.le
    by_cases hlt : i < n
    · have H3 := HTU.out wr i hI.bel (by omega)
      have hltI : (i : Int) < (n : Int) := by omega
      clear hI
      go_wp2_with fail
      refine H3.mono ?_
      rintro e w3 ⟨⟨u, rfl, hu⟩, hb3⟩
      have HB3 : Hid (Below wr.heap.size wr w3) := hb3
      clear hb3 H3
      cases hc : cUp wd i with
      | none =>
        have HC0 : Hid (cUp wd i = none) := hc
        clear hu hc
        simp only [Option.isSome_none]
        go_wp2
        go_roundw
        case rel => exact ⟨i + 1, by go_num, hlt, fun j hj => by
          by_cases hji : j < i
          · exact HI.out.no j hji
          · rw [show j = i by omega]; exact HC0.out, HI.out.bel.trans (HB3.out.mono HI.out.bel.size)⟩
        case measure => simp [intOf]; omega
      | some y =>
        rw [hc] at hu
        have H4 := HIH.out y u w3 ⟨i, hc⟩ (Sl.own hu)
        have HU : Hid (w3.ownsRow wr.heap.size 3 1 u y.length (ints (natsI y))) := hu
        have HC0 : Hid (cUp wd i = some y) := hc
        clear hu hc
        simp only [Option.isSome_some]
        go_wp2_with fail
        refine H4.mono ?_
        rintro e w4 ⟨⟨u4, z, rfl, hz, ho4⟩, hb4⟩
        have HBB : Hid (Below w.heap.size w w3) := HI.out.bel.trans (HB3.out.mono HI.out.bel.size)
        have H5 : Hid (HiR n wd z ∧ w4.ownsRow w.heap.size 3 1 u4 z.length (ints (natsI z)) ∧ Below w.heap.size w w4) := ⟨.step hlt HI.out.no HC0.out hz, own_low ho4 HBB.out.size, HBB.out.trans (hb4.mono HBB.out.size)⟩
        clear hz ho4 hb4 H4
        go_wp2
        go_ret
        exact ⟨⟨_, z, rfl, H5.out.1, H5.out.2.1⟩, H5.out.2.2⟩
    · have hie : i = n := by omega
      subst hie
      have H3 := HCW.out wr hI.bel
      clear hI
      go_wp2_with fail
      refine H3.mono ?_
      rintro e w3 ⟨u, rfl, hu, hb3⟩
      have H5 : Hid (w3.ownsRow w.heap.size 3 1 u wd.length (ints (natsI wd)) ∧ Below w.heap.size w w3) := ⟨own_low hu HI.out.bel.size, HI.out.bel.trans (hb3.mono HI.out.bel.size)⟩
      clear hu hb3 H3
      go_wp2
      go_ret
      exact ⟨⟨_, wd, rfl, .stop HI.out.no, H5.out.1⟩, H5.out.2⟩

theorem highOf_all : ∀ (s B n : Nat) (wd : List Nat) (v : Value) (w : World), wd.sum = s → Sl B 3 w v (ints (natsI wd)) → n ≤ 3 → wd.length ≤ 8 →
    Calls Try.prog 12 #[.int .i64 (n : Int), v] w fun e w' => HighD w.heap.size w n wd e w' := by
  intro s
  induction s using Nat.strongRecOn with
  | _ s ih =>
    intro B n wd v w hs hv hn hl
    refine highOf_step B n wd v w hv hn hl fun x u W ⟨j, hj⟩ hx => ?_
    have := cUp_sum hj
    exact ih x.sum (by omega) W.heap.size n x u W rfl hx hn (by rw [cUp_len hj]; exact hl)

theorem highOf_any (B n : Nat) (wd : List Nat) (v : Value) (w : World) (hv : Sl B 3 w v (ints (natsI wd))) (hn : n ≤ 3) (hl : wd.length ≤ 8) :
    Calls Try.prog 12 #[.int .i64 (n : Int), v] w fun e w' => HighD w.heap.size w n wd e w' := highOf_all _ B n wd v w rfl hv hn hl

end Go.Proofs.Ytnooabbcfhmjaaa
