/- crystal.nearTo. -/
import Derived.Test.YtnooabbcfhmjaaaCr10
import Derived.Test.YtnooabbcfhmjaaaRefs3
namespace Go.Proofs.Ytnooabbcfhmjaaa
open Go.RowKit
attribute [local go_sem ↓] Go.wp_at_zero Go.wp_at_succ

def nearL (wd : List Nat) (k : Nat) : List (List Nat) := (List.range k).flatMap fun i => (cDn wd i).toList ++ (cUp wd i).toList

theorem nearL_succ (wd : List Nat) (k : Nat) : nearL wd (k + 1) = nearL wd k ++ ((cDn wd k).toList ++ (cUp wd k).toList) := by
  unfold nearL
  rw [List.range_succ, List.flatMap_append]
  simp

theorem nearL_len (wd : List Nat) : ∀ k, (nearL wd k).length ≤ 2 * k
  | 0 => by simp [nearL]
  | k + 1 => by
    rw [nearL_succ]
    have := nearL_len wd k
    have h1 : (cDn wd k).toList.length ≤ 1 := by cases cDn wd k <;> simp
    have h2 : (cUp wd k).toList.length ≤ 1 := by cases cUp wd k <;> simp
    simp only [List.length_append]
    omega

/-- Words, a list of the call's own. -/
structure WdsI (B : Nat) (w0 : World) (L : List (List Nat)) (v : Value) (wr : World) : Prop where
  fr : Fr B 22 3 wr v (L.map natsI)
  bel : Below B w0 wr

theorem WdsI.low {B : Nat} {w0 wr w2 : World} {L : List (List Nat)} {v : Value} (h : WdsI B w0 L v wr) (hB : B ≤ wr.heap.size) (hb : Below wr.heap.size wr w2) : WdsI B w0 L v w2 := ⟨h.fr.below hb (Nat.le_refl _), h.bel.trans (hb.mono hB)⟩

/-- Opened for an append. -/
theorem WdsI.opn {B : Nat} {w0 wr : World} {L : List (List Nat)} {v : Value} (h : WdsI B w0 L v wr) : ∃ vs ao c, v = .slice ao L.length c ∧ wr.ownsRow B 22 1 v L.length vs ∧
    ∀ (x : List Nat) (u : Value), Sl 0 3 wr u (ints (natsI x)) → ∀ v' w3, w3.ownsRow B 22 1 v' (L.length + 1) (vs ++ [u]) → (wr.alloc (.cells #[u] 22)).grownBy w3 v.ownBlock → B ≤ wr.heap.size → WdsI B w0 (L ++ [x]) v' w3 := by
  obtain ⟨vs, h1, h2, h3⟩ := h.fr
  rw [List.length_map] at h1 h2
  obtain ⟨ao, c, hv⟩ := owns_form h2
  refine ⟨vs, ao, c, hv, h2, fun x u hu v' w3 ho hg hB => ⟨?_, (h.bel.alloc hB _).grown hg (by simp; omega) (fun x hx => (h2.lt x hx).1)⟩⟩
  rw [List.map_append, List.map_singleton]
  exact Fr.push (m := L.map natsI) (by decide) (by rw [List.length_map]; exact h1) (by rw [List.length_map]; exact h2.alloc _) (fun i hi => (h3 i hi).alloc _) (hu.alloc _) (by rw [List.length_map]; exact ho) hg

theorem word_one (u : Value) (ao : Option Addr) (n c : Nat) (h : u = .slice ao n c) : ∀ x ∈ [u], x.oneCell' = true := by
  subst h
  intro x hx
  simp at hx
  subst hx
  rfl

set_option maxRecDepth 100000 in
set_option maxHeartbeats 3200000 in
theorem near_any (B n : Nat) (wd : List Nat) (v : Value) (w : World) (hv : Sl B 3 w v (ints (natsI wd))) (hn : n ≤ 3) (hl : wd.length ≤ 8) :
    Calls Try.prog 31 #[.int .i64 (n : Int), v] w fun e w' => ∃ u, e = .returned u ∧ WdsI w.heap.size w (nearL wd n) u w' := by
  obtain ⟨i0, hi0, hz0, hz1, hz2⟩ := info_parts Try.info22
  have HU : Hid (∀ W (i : Nat), Below w.heap.size w W → i ≤ 3 → Calls Try.prog 23 #[v, .int .i64 (i : Int)] W fun e w' => TurnP W.heap.size W (cUp wd i) e w') := fun W i hW hi => up_any B wd i v W (hv.below hW (Nat.le_refl _)) hl hi
  have HD : Hid (∀ W (i : Nat), Below w.heap.size w W → i ≤ 3 → Calls Try.prog 24 #[v, .int .i64 (i : Int)] W fun e w' => TurnP W.heap.size W (cDn wd i) e w') := fun W i hW hi => down_any B wd i v W (hv.below hW (Nat.le_refl _)) hl hi
  obtain ⟨ao, cap, hvv, hlc, hcm⟩ := sl_open hv
  subst hvv
  clear hv
  go_enter Try.func31, Try.ntmps31
  go_wp2
  go_loopw [5, 12] (fun lv iv wr => ∃ i : Nat, i ≤ n ∧ iv = .int .i64 (i : Int) ∧ WdsI w.heap.size w (nearL wd i) lv wr) (fun _ iv _ => n - (intOf iv).toNat)
  case atStart => exact ⟨0, Nat.zero_le _, rfl, Fr.nil _ _ _ _, Below.refl _ _⟩
  case round =>
    obtain ⟨i, hi, rfl, hI⟩ := hrel
    by_cases hlt : i < n
    · have hltI : (i : Int) < (n : Int) := by omega
      have hln := nearL_len wd i
      have HNS : Hid (nearL wd (i + 1) = nearL wd i ++ ((cDn wd i).toList ++ (cUp wd i).toList)) := nearL_succ wd i
      have H1 := HD.out wr i hI.bel (by omega)
      have HI : Hid (WdsI w.heap.size w (nearL wd i) u5 wr) := hI
      have hsz : w.heap.size ≤ wr.heap.size := hI.bel.size
      clear hI
      generalize nearL wd i = L at *
      go_wp2_with fail
      refine H1.mono ?_
      rintro e w1 ⟨⟨u, rfl, hu⟩, hb1⟩
      have HI1 : Hid (WdsI w.heap.size w L u5 w1) := HI.out.low hsz hb1
      have hsz1 : w.heap.size ≤ w1.heap.size := HI1.out.bel.size
      clear hb1 H1 HI
      cases hcd : cDn wd i with
      | none =>
        have HN1 : Hid (nearL wd (i + 1) = L ++ (cUp wd i).toList) := by show _ = _; rw [HNS.out, hcd]; simp
        clear hu hcd HNS
        simp only [Option.isSome_none]
        have HX : Hid (WdsI w.heap.size w L u5 w1) := HI1.out
        have hszX : w.heap.size ≤ w1.heap.size := hsz1
        have hlnX : L.length ≤ 2 * i + 1 := by omega
        have H2 := HU.out w1 i HX.out.bel (by omega)
        go_wp2_with fail
        refine H2.mono ?_
        rintro e w5 ⟨⟨u, rfl, hu⟩, hb5⟩
        have HI5 : Hid (WdsI w.heap.size w L u5 w5) := HX.out.low hszX hb5
        have hsz5 : w.heap.size ≤ w5.heap.size := HI5.out.bel.size
        clear hb5 H2 HX
        cases hcu : cUp wd i with
        | none =>
          have HN2 : Hid (nearL wd (i + 1) = L) := by show _ = _; rw [HN1.out, hcu]; simp
          clear hu hcu HN1
          simp only [Option.isSome_none]
          go_wp2
          go_roundw
          case rel => exact ⟨i + 1, by omega, by go_num, by rw [HN2.out]; exact HI5.out⟩
          case measure => simp [intOf]; omega
        | some z =>
          rw [hcu] at hu
          have hus : Sl 0 3 w5 u (ints (natsI z)) := Sl.own hu
          obtain ⟨zo, zc, hzv⟩ := owns_form hu
          subst hzv
          have HN2 : Hid (nearL wd (i + 1) = L ++ [z]) := by show _ = _; rw [HN1.out, hcu]; simp
          obtain ⟨vs5, xo5, xc5, hxv5, hown5, hpu5⟩ := HI5.out.opn
          subst hxv5
          have HOW5 : Hid (w5.ownsRow w.heap.size 22 1 (.slice xo5 L.length xc5) L.length vs5) := hown5
          have HPU5 : Hid (∀ v' w6, w6.ownsRow w.heap.size 22 1 v' (L.length + 1) (vs5 ++ [.slice zo z.length zc]) → (w5.alloc (.cells #[.slice zo z.length zc] 22)).grownBy w6 (Value.slice xo5 L.length xc5).ownBlock → WdsI w.heap.size w (L ++ [z]) v' w6) := fun v' w6 h1 h2 => hpu5 z _ hus v' w6 h1 h2 hsz5
          clear hu hcu HN1 hpu5 hown5 hus HI5
          simp only [Option.isSome_some]
          go_wp2_with (first | (at_builtin; refine wpList_append_own _ rfl _ _ 30 rfl w.heap.size 22 i0 (.slice none 0 0) 1 24 Try.underlying30 hi0 hz0 hz1 hz2 rfl (by decide) _ _ _ rfl (HOW5.out.alloc _) ⟨w5.heap.size, 0, none⟩ 1 1 [.slice zo z.length zc] rfl rfl (one_new _ _ _) (word_one _ zo z.length zc rfl) ?d3 ?d4 ?d5 ?_))
          case d3 => unfold maxLen; omega
          case d4 => omega
          case d5 => first | exact Nat.le_trans hsz5 (Nat.le_succ _) | (simp; omega)
          intro v6 w6 ho6 hg6 _
          have H6 : Hid (WdsI w.heap.size w (L ++ [z]) v6 w6) := HPU5.out v6 w6 ho6 hg6
          clear ho6 hg6 HPU5 HOW5
          go_wp2
          go_roundw
          case rel => exact ⟨i + 1, by omega, by go_num, by rw [HN2.out]; exact H6.out⟩
          case measure => simp [intOf]; omega
      | some y =>
        rw [hcd] at hu
        have hus : Sl 0 3 w1 u (ints (natsI y)) := Sl.own hu
        obtain ⟨yo, yc, hyv⟩ := owns_form hu
        subst hyv
        have HN0 : Hid (nearL wd (i + 1) = (L ++ [y]) ++ (cUp wd i).toList) := by show _ = _; rw [HNS.out, hcd]; simp
        obtain ⟨vs, xo, xc, hxv, hown, hpu⟩ := HI1.out.opn
        subst hxv
        have HOW : Hid (w1.ownsRow w.heap.size 22 1 (.slice xo L.length xc) L.length vs) := hown
        have HPU : Hid (∀ v' w3, w3.ownsRow w.heap.size 22 1 v' (L.length + 1) (vs ++ [.slice yo y.length yc]) → (w1.alloc (.cells #[.slice yo y.length yc] 22)).grownBy w3 (Value.slice xo L.length xc).ownBlock → WdsI w.heap.size w (L ++ [y]) v' w3) := fun v' w3 h1 h2 => hpu y _ hus v' w3 h1 h2 hsz1
        clear hu hcd HNS hpu hown hus HI1
        simp only [Option.isSome_some]
        go_wp2_with (first | (at_builtin; refine wpList_append_own _ rfl _ _ 30 rfl w.heap.size 22 i0 (.slice none 0 0) 1 24 Try.underlying30 hi0 hz0 hz1 hz2 rfl (by decide) _ _ _ rfl (HOW.out.alloc _) ⟨w1.heap.size, 0, none⟩ 1 1 [.slice yo y.length yc] rfl rfl (one_new _ _ _) (word_one _ yo y.length yc rfl) ?c3 ?c4 ?c5 ?_))
        case c3 => unfold maxLen; omega
        case c4 => omega
        case c5 => first | exact Nat.le_trans hsz1 (Nat.le_succ _) | (simp; omega)
        intro v' w3 ho3 hg3 _
        have HX : Hid (WdsI w.heap.size w (L ++ [y]) v' w3) := HPU.out v' w3 ho3 hg3
        have HN1 : Hid (nearL wd (i + 1) = (L ++ [y]) ++ (cUp wd i).toList) := HN0.out
        have hszX : w.heap.size ≤ w3.heap.size := HX.out.bel.size
        obtain ⟨L2, hL2⟩ : ∃ L2, L2 = L ++ [y] := ⟨_, rfl⟩
        have hlnX : L2.length ≤ 2 * i + 1 := by rw [hL2]; simp; omega
        rw [← hL2] at HX HN1
        have H2 := HU.out w3 i HX.out.bel (by omega)
        clear ho3 hg3 HPU HOW HN0 hL2
        go_wp2_with fail
        refine H2.mono ?_
        rintro e w5 ⟨⟨u, rfl, hu⟩, hb5⟩
        have HI5 : Hid (WdsI w.heap.size w L2 v' w5) := HX.out.low hszX hb5
        have hsz5 : w.heap.size ≤ w5.heap.size := HI5.out.bel.size
        clear hb5 H2 HX
        cases hcu : cUp wd i with
        | none =>
          have HN2 : Hid (nearL wd (i + 1) = L2) := by show _ = _; rw [HN1.out, hcu]; simp
          clear hu hcu HN1
          simp only [Option.isSome_none]
          go_wp2
          go_roundw
          case rel => exact ⟨i + 1, by omega, by go_num, by rw [HN2.out]; exact HI5.out⟩
          case measure => simp [intOf]; omega
        | some z =>
          rw [hcu] at hu
          have hus : Sl 0 3 w5 u (ints (natsI z)) := Sl.own hu
          obtain ⟨zo, zc, hzv⟩ := owns_form hu
          subst hzv
          have HN2 : Hid (nearL wd (i + 1) = L2 ++ [z]) := by show _ = _; rw [HN1.out, hcu]; simp
          obtain ⟨vs5, xo5, xc5, hxv5, hown5, hpu5⟩ := HI5.out.opn
          subst hxv5
          have HOW5 : Hid (w5.ownsRow w.heap.size 22 1 (.slice xo5 L2.length xc5) L2.length vs5) := hown5
          have HPU5 : Hid (∀ v' w6, w6.ownsRow w.heap.size 22 1 v' (L2.length + 1) (vs5 ++ [.slice zo z.length zc]) → (w5.alloc (.cells #[.slice zo z.length zc] 22)).grownBy w6 (Value.slice xo5 L2.length xc5).ownBlock → WdsI w.heap.size w (L2 ++ [z]) v' w6) := fun v' w6 h1 h2 => hpu5 z _ hus v' w6 h1 h2 hsz5
          clear hu hcu HN1 hpu5 hown5 hus HI5
          simp only [Option.isSome_some]
          go_wp2_with (first | (at_builtin; refine wpList_append_own _ rfl _ _ 30 rfl w.heap.size 22 i0 (.slice none 0 0) 1 24 Try.underlying30 hi0 hz0 hz1 hz2 rfl (by decide) _ _ _ rfl (HOW5.out.alloc _) ⟨w5.heap.size, 0, none⟩ 1 1 [.slice zo z.length zc] rfl rfl (one_new _ _ _) (word_one _ zo z.length zc rfl) ?e3 ?e4 ?e5 ?_))
          case e3 => unfold maxLen; omega
          case e4 => omega
          case e5 => first | exact Nat.le_trans hsz5 (Nat.le_succ _) | (simp; omega)
          intro v6 w6 ho6 hg6 _
          have H6 : Hid (WdsI w.heap.size w (L2 ++ [z]) v6 w6) := HPU5.out v6 w6 ho6 hg6
          clear ho6 hg6 HPU5 HOW5
          go_wp2
          go_roundw
          case rel => exact ⟨i + 1, by omega, by go_num, by rw [HN2.out]; exact H6.out⟩
          case measure => simp [intOf]; omega
    · have hie : i = n := by omega
      subst hie
      have HI : Hid (WdsI w.heap.size w (nearL wd i) u5 wr) := hI
      clear hI
      go_wp2
      go_ret
      exact ⟨_, rfl, HI.out⟩

end Go.Proofs.Ytnooabbcfhmjaaa
