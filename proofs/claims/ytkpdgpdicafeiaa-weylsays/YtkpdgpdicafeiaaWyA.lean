import Derived.Test.YtkpdgpdicafeiaaWy6
import Derived.Test.YtkpdgpdicafeiaaOrd1
import Derived.Test.YtkpdgpdicafeiaaCycAll
import Derived.Test.YtkpdgpdicafeiaaRefs3
/- root.above: is a root there already? The closure, and IndexFunc, ContainsFunc by it. -/
namespace Go.Proofs.Ytkpdgpdicafeiaa
open Go.RowKit
attribute [local go_sem ↓] Go.wp_at_zero Go.wp_at_succ

theorem anyR_snocW {p : List Int → Bool} {l : List (List Int)} {k : Nat} (h : k < l.length) (h0 : (l.take k).any p = false) : (l.take (k + 1)).any p = p (l.getD k []) := by
  rw [List.take_succ_eq_append_getElem h, List.any_append, h0]
  simp [h]

set_option maxRecDepth 100000 in
theorem there1_any (B : Nat) (r b : List Int) (rv bv : Value) (p : Nat) (w : World) (hr : Sl B 3 w rv (ints r)) (hb : Sl B 3 w bv (ints b)) (hc : w.cell? ⟨p, 0, none⟩ = some bv) :
    Calls Try.prog 49 #[rv, .pointer (some ⟨p, 0, none⟩)] w fun e w' => e = .returned (.bool (r == b)) ∧ Below w.heap.size w w' := by
  have HE : Hid (Calls Try.prog 30 #[rv, bv] w fun e w' => e = .returned (.bool (r == b)) ∧ Below w.heap.size w w') := (equal_any B r b rv bv w hr hb).mono (fun e w' h => by
    obtain ⟨h1, n, rfl⟩ := h
    exact ⟨h1, ⟨rfl, rfl, rfl, Nat.le_refl _, fun _ _ => rfl⟩⟩)
  obtain ⟨ro, rc, hrv, _, _⟩ := sl_open hr
  subst hrv
  obtain ⟨bo, bc, hbv, _, _⟩ := sl_open hb
  subst hbv
  clear hr hb
  generalize (r == b) = fb at *
  go_enter Try.func49, Try.ntmps49
  go_wp2_with fail
  refine HE.out.mono ?_
  rintro e w' ⟨rfl, hb⟩
  have HB : Hid (Below w.heap.size w w') := hb
  clear hb
  go_wp2
  go_ret
  exact ⟨rfl, HB.out⟩

set_option maxRecDepth 100000 in
set_option maxHeartbeats 800000 in
theorem idxT_any (B : Nat) (f : List Int → Bool) (m : List (List Int)) (v : Value) (p1 : Addr) (w : World) (hv : Mat B 23 3 w v m)
    (hc : ∀ r ∈ m, ∀ (W : World) (rv : Value), Below w.heap.size w W → Sl B 3 W rv (ints r) → Calls Try.prog 49 #[rv, .pointer (some p1)] W fun e w' => e = .returned (.bool (f r)) ∧ Below w.heap.size w w') :
    Calls Try.prog 52 #[v, .func (.func 49) #[] #[.pointer (some p1)]] w fun e w' => (∃ z, e = .returned (.int .i64 z) ∧ -1 ≤ z ∧ z < m.length ∧ decide (0 ≤ z) = m.any f) ∧ Below w.heap.size w w' := by
  obtain ⟨ao, cap, hvv, hlc, hcm⟩ := mat_open hv
  subst hvv
  have HV : Hid (Mat B 23 3 w (.slice ao m.length cap) m) := hv
  have HC : Hid (∀ r ∈ m, ∀ (W : World) (rv : Value), Below w.heap.size w W → Sl B 3 W rv (ints r) → Calls Try.prog 49 #[rv, .pointer (some p1)] W fun e w' => e = .returned (.bool (f r)) ∧ Below w.heap.size w w') := hc
  clear hv hc
  go_enter Try.func52, Try.ntmps52
  go_wp2
  go_loopw [8] (fun i wr => ∃ k : Nat, k ≤ m.length ∧ i = .int .i64 k ∧ (m.take k).any f = false ∧ Below w.heap.size w wr) (fun i _ => m.length - (intOf i).toNat)
  case atStart => exact ⟨0, Nat.zero_le _, rfl, by simp, Below.refl _ _⟩
  case round =>
    obtain ⟨k, hk, rfl, hno, hb⟩ := hrel
    have HN : Hid ((m.take k).any f = false) := hno
    have HB : Hid (Below w.heap.size w wr) := hb
    clear hno hb
    by_cases hlt : k < m.length
    · obtain ⟨b1, o, cp, r1, hs, hc1, hcc, hr1⟩ := mat_cell (HV.out.below HB.out (Nat.le_refl _)) hlt
      simp only [Value.slice.injEq] at hs
      obtain ⟨rfl, hxx, rfl⟩ := hs
      clear hxx
      have HS1 : Hid ((m.take (k + 1)).any f = f (m.getD k [])) := anyR_snocW (p := f) hlt HN.out
      have HME : Hid (m.getD k [] ∈ m) := by
        show _ ∈ _
        simp [hlt]
      have HCA : Hid (Calls Try.prog 49 #[r1, .pointer (some p1)] wr fun e w' => e = .returned (.bool (f (m.getD k []))) ∧ Below w.heap.size w w') := HC.out _ HME.out wr r1 HB.out hr1
      clear hr1
      generalize m.getD k [] = x at *
      obtain ⟨fb, hfb⟩ : ∃ fb, fb = f x := ⟨_, rfl⟩
      have HFB : Hid (fb = f x) := hfb
      rw [← hfb] at HCA
      clear hfb
      go_wp2_with fail
      refine HCA.out.mono ?_
      rintro e w2 ⟨rfl, hb2⟩
      have HB2 : Hid (Below w.heap.size w w2) := hb2
      clear hb2 HCA
      cases hf : fb
      · have HF : Hid (f x = false) := by rw [← hf]; exact HFB.out.symm
        clear hf
        go_wp2
        go_roundw
        case rel => exact ⟨k + 1, by omega, by go_num, by rw [HS1.out]; exact HF.out, HB2.out⟩
        case measure => simp [intOf]; omega
      · have HF : Hid (f x = true) := by rw [← hf]; exact HFB.out.symm
        clear hf
        go_wp2
        go_ret
        refine ⟨⟨_, rfl, by omega, by omega, ?_⟩, HB2.out⟩
        rw [decide_eq_true (by omega)]
        exact (List.any_eq_true.2 ⟨x, HME.out, HF.out⟩).symm
    · have HTK : Hid (m.take k = m) := List.take_of_length_le (by omega)
      go_wp2
      go_ret
      exact ⟨⟨-1, rfl, by omega, by omega, by rw [← HTK.out, HN.out]; rfl⟩, HB.out⟩

set_option maxRecDepth 100000 in
theorem hasT_any (B : Nat) (f : List Int → Bool) (m : List (List Int)) (v : Value) (p1 : Addr) (w : World) (hv : Mat B 23 3 w v m)
    (hc : ∀ r ∈ m, ∀ (W : World) (rv : Value), Below w.heap.size w W → Sl B 3 W rv (ints r) → Calls Try.prog 49 #[rv, .pointer (some p1)] W fun e w' => e = .returned (.bool (f r)) ∧ Below w.heap.size w w') :
    Calls Try.prog 50 #[v, .func (.func 49) #[] #[.pointer (some p1)]] w fun e w' => e = .returned (.bool (m.any f)) ∧ Below w.heap.size w w' := by
  have HI : Hid (Calls Try.prog 52 #[v, .func (.func 49) #[] #[.pointer (some p1)]] w fun e w' => (∃ z, e = .returned (.int .i64 z) ∧ -1 ≤ z ∧ z < m.length ∧ decide (0 ≤ z) = m.any f) ∧ Below w.heap.size w w') := idxT_any B f m v p1 w hv hc
  obtain ⟨ao, cap, hvv, hlc, hcm⟩ := mat_open hv
  subst hvv
  clear hv hc
  generalize m.any f = R at *
  go_enter Try.func50, Try.ntmps50
  go_wp2_with fail
  refine HI.out.mono ?_
  rintro e w' ⟨⟨z, rfl, hz1, hz2, hz3⟩, hb⟩
  have HZ : Hid (decide (0 ≤ z) = R) := hz3
  have HB : Hid (Below w.heap.size w w') := hb
  clear hz3 hb
  go_wp2
  go_ret
  exact ⟨ret_bool HZ.out, HB.out⟩

end Go.Proofs.Ytkpdgpdicafeiaa

/- root.above: the roots above 0. -/
namespace Go.Proofs.Ytkpdgpdicafeiaa
open Go.RowKit
attribute [local go_sem ↓] Go.wp_at_zero Go.wp_at_succ

/-- One turn: what comes of a root, if it is above 0 and new. -/
def abS (c : List (List Int)) (i j : Nat) (L : List (List Int)) : List (List Int) :=
  if (0 ≤ (tnL c (L.getD i []) j).getD j 0 ∧ L.any (· == tnL c (L.getD i []) j) = false) then L ++ [tnL c (L.getD i []) j] else L

/-- All turns of one root. -/
def abI (c : List (List Int)) (i : Nat) : Nat → List (List Int) → List (List Int)
  | 0, L => L
  | j + 1, L => abS c i j (abI c i j L)

/-- Root after root. -/
def abO (c : List (List Int)) : Nat → Nat → List (List Int) → List (List Int)
  | 0, _, L => L
  | f + 1, i, L => if i < L.length ∧ L.length ≤ 24 then abO c f (i + 1) (abI c i c.length L) else L

def abL (c : List (List Int)) : List (List Int) := abO c 30 0 ((List.range c.length).map fun r => un c.length r)

theorem abS_pre (c : List (List Int)) (i j : Nat) (L : List (List Int)) : L <+: abS c i j L := by
  unfold abS
  split
  · exact List.prefix_append _ _
  · exact List.prefix_refl _

theorem abI_pre (c : List (List Int)) (i : Nat) : ∀ (j : Nat) (L : List (List Int)), L <+: abI c i j L
  | 0, _ => List.prefix_refl _
  | j + 1, L => (abI_pre c i j L).trans (abS_pre c i j _)

theorem abO_pre (c : List (List Int)) : ∀ (f i : Nat) (L : List (List Int)), L <+: abO c f i L
  | 0, _, _ => List.prefix_refl _
  | f + 1, i, L => by
    unfold abO
    split
    · exact (abI_pre c i _ L).trans (abO_pre c f _ _)
    · exact List.prefix_refl _

theorem abS_len (c : List (List Int)) (i j : Nat) (L : List (List Int)) : (abS c i j L).length ≤ L.length + 1 := by
  unfold abS
  split
  · simp
  · omega

theorem abI_len (c : List (List Int)) (i : Nat) : ∀ (j : Nat) (L : List (List Int)), (abI c i j L).length ≤ L.length + j
  | 0, _ => Nat.le_refl _
  | j + 1, L => by
    have h1 := abI_len c i j L
    have h2 := abS_len c i j (abI c i j L)
    show (abS c i j (abI c i j L)).length ≤ _
    omega

end Go.Proofs.Ytkpdgpdicafeiaa
