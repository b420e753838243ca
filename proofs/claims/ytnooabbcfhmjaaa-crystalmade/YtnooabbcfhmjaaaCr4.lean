/- crystal.Up, Down. -/
import Derived.Test.YtnooabbcfhmjaaaCr3
namespace Go.Proofs.Ytnooabbcfhmjaaa
open Go.RowKit
attribute [local go_sem ↓] Go.wp_at_zero Go.wp_at_succ

def natOf (m : List Int) : List Nat := m.map Int.toNat

/-- What a word that may be is. -/
structure May (n : Int) (m : List Int) : Prop where
  n1 : 1 ≤ n
  n3 : n ≤ 3
  l8 : m.length ≤ 8
  eq : natsI (natOf m) = m
  lw : Lw n.toNat (natOf m)

theorem chkE_may {n : Int} {m : List Int} (h : chkE n m = 0) : May n m := by
  unfold chkE at h
  split at h
  · cases h
  · split at h
    · cases h
    · split at h
      · cases h
      · rename_i h1 h2 h3
        have h4 : ∀ x ∈ m, 0 ≤ x ∧ x ≤ n := fun x hx => by
          have : ¬ outK n x = true := fun e => h3 (List.any_eq_true.2 ⟨x, hx, e⟩)
          unfold outK at this
          simp at this
          exact this
        refine ⟨by omega, by omega, by omega, ?_, ?_⟩
        · unfold natsI natOf
          rw [List.map_map]
          refine (List.map_congr_left (g := id) fun x hx => ?_).trans (List.map_id _)
          have := h4 x hx
          simp
          omega
        · intro z hz
          unfold natOf at hz
          obtain ⟨x, hx, rfl⟩ := List.mem_map.1 hz
          have := h4 x hx
          omega

theorem natOf_len (m : List Int) : (natOf m).length = m.length := by simp [natOf]

theorem chkP_may {n : Int} {m : List Int} {i : Int} (h : chkP n m i = 0) : May n m ∧ 0 ≤ i ∧ i < n := by
  unfold chkP at h
  split at h
  · rename_i h1
    split at h
    · cases h
    · exact ⟨chkE_may h1, by omega, by omega⟩
  · rename_i h1
    exact absurd h h1

/-- A word, that there is one, and what is wrong. -/
structure TurnQ (B : Nat) (wa : World) (o : Option (List Nat)) (E : Int) (e : Ending) (w : World) : Prop where
  ex : ∃ u, e = .returned (.tuple #[u, .bool o.isSome, .int .i64 E]) ∧ OptW B w u o
  bel : Below B wa w

theorem OptW.low {B B' : Nat} {w : World} {u : Value} {o : Option (List Nat)} (h : OptW B' w u o) (hB : B ≤ B') : OptW B w u o := by
  cases o with
  | none => exact h
  | some x => exact own_low h hB

set_option maxRecDepth 100000 in
set_option maxHeartbeats 800000 in
theorem Up_any (B : Nat) (n : Int) (m : List Int) (i : Int) (v : Value) (w : World) (hv : Sl B 3 w v (ints m)) :
    Calls Try.prog 7 #[.int .i64 n, v, .int .i64 i] w fun e w' => TurnQ w.heap.size w (if chkP n m i = 0 then cUp (natOf m) i.toNat else none) (chkP n m i) e w' := by
  have HC := checkPlace_any B n m i v w hv
  obtain ⟨O, hO⟩ : ∃ O, O = if chkP n m i = 0 then cUp (natOf m) i.toNat else none := ⟨_, rfl⟩
  rw [← hO]
  have HO : Hid (O = if chkP n m i = 0 then cUp (natOf m) i.toNat else none) := hO
  have HU : Hid (∀ W, Below w.heap.size w W → chkP n m i = 0 → Calls Try.prog 23 #[v, .int .i64 i] W fun e w' => TurnP W.heap.size W O e w') := fun W hW h0 => by
    obtain ⟨h1, h2, h3⟩ := chkP_may h0
    have hl := h1.l8
    have := up_any B (natOf m) i.toNat v W (by rw [h1.eq]; exact hv.below hW (Nat.le_refl _)) (by rw [natOf_len]; exact h1.l8) (by have := h1.n3; omega)
    rw [hO, if_pos h0]
    rw [show ((i.toNat : Nat) : Int) = i by omega] at this
    exact this
  obtain ⟨ao, cap, hvv, hlc, hcm⟩ := sl_open hv
  subst hvv
  clear hv hO
  generalize chkP n m i = E at *
  go_enter Try.func7, Try.ntmps7
  go_wp2_with fail
  refine HC.mono ?_
  rintro e w1 ⟨rfl, hb⟩
  have HB : Hid (Below w.heap.size w w1) := hb
  clear HC
  by_cases h0 : E = 0
  · have H2 := HU.out w1 hb h0
    subst h0
    clear hb
    go_wp2_with fail
    refine H2.mono ?_
    rintro e w2 ⟨⟨u, rfl, hu⟩, hb2⟩
    have HU2 : Hid (OptW w1.heap.size w2 u O ∧ Below w1.heap.size w1 w2) := ⟨hu, hb2⟩
    clear hu hb2 H2 HU
    go_wp2
    go_ret3
    exact ⟨⟨_, rfl, HU2.out.1.low HB.out.size⟩, HB.out.trans (HU2.out.2.mono HB.out.size)⟩
  · have e : Hid (O = none) := by show _ = _; rw [HO.out, if_neg h0]
    clear hb HU
    go_wp2
    go_ret3
    rw [e.out]
    exact ⟨⟨_, rfl, rfl⟩, HB.out⟩

set_option maxRecDepth 100000 in
set_option maxHeartbeats 800000 in
theorem Down_any (B : Nat) (n : Int) (m : List Int) (i : Int) (v : Value) (w : World) (hv : Sl B 3 w v (ints m)) :
    Calls Try.prog 8 #[.int .i64 n, v, .int .i64 i] w fun e w' => TurnQ w.heap.size w (if chkP n m i = 0 then cDn (natOf m) i.toNat else none) (chkP n m i) e w' := by
  have HC := checkPlace_any B n m i v w hv
  obtain ⟨O, hO⟩ : ∃ O, O = if chkP n m i = 0 then cDn (natOf m) i.toNat else none := ⟨_, rfl⟩
  rw [← hO]
  have HO : Hid (O = if chkP n m i = 0 then cDn (natOf m) i.toNat else none) := hO
  have HU : Hid (∀ W, Below w.heap.size w W → chkP n m i = 0 → Calls Try.prog 24 #[v, .int .i64 i] W fun e w' => TurnP W.heap.size W O e w') := fun W hW h0 => by
    obtain ⟨h1, h2, h3⟩ := chkP_may h0
    have hl := h1.l8
    have := down_any B (natOf m) i.toNat v W (by rw [h1.eq]; exact hv.below hW (Nat.le_refl _)) (by rw [natOf_len]; exact h1.l8) (by have := h1.n3; omega)
    rw [hO, if_pos h0]
    rw [show ((i.toNat : Nat) : Int) = i by omega] at this
    exact this
  obtain ⟨ao, cap, hvv, hlc, hcm⟩ := sl_open hv
  subst hvv
  clear hv hO
  generalize chkP n m i = E at *
  go_enter Try.func8, Try.ntmps8
  go_wp2_with fail
  refine HC.mono ?_
  rintro e w1 ⟨rfl, hb⟩
  have HB : Hid (Below w.heap.size w w1) := hb
  clear HC
  by_cases h0 : E = 0
  · have H2 := HU.out w1 hb h0
    subst h0
    clear hb
    go_wp2_with fail
    refine H2.mono ?_
    rintro e w2 ⟨⟨u, rfl, hu⟩, hb2⟩
    have HU2 : Hid (OptW w1.heap.size w2 u O ∧ Below w1.heap.size w1 w2) := ⟨hu, hb2⟩
    clear hu hb2 H2 HU
    go_wp2
    go_ret3
    exact ⟨⟨_, rfl, HU2.out.1.low HB.out.size⟩, HB.out.trans (HU2.out.2.mono HB.out.size)⟩
  · have e : Hid (O = none) := by show _ = _; rw [HO.out, if_neg h0]
    clear hb HU
    go_wp2
    go_ret3
    rw [e.out]
    exact ⟨⟨_, rfl, rfl⟩, HB.out⟩

end Go.Proofs.Ytnooabbcfhmjaaa
