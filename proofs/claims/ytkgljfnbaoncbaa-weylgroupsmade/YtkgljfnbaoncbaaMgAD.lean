import Derived.Test.YtkgljfnbaoncbaaMgAB
import Derived.Test.YtkgljfnbaoncbaaWy6
import Derived.Test.YtkgljfnbaoncbaaMgAC
/- Lists compared, and whether they are one. -/
namespace Go.Proofs.Ytkgljfnbaoncbaa
open Go.RowKit

def cmpI (x y : Int) : Int := if x < y then -1 else if y < x then 1 else 0

/-- In order, as lists. -/
def cmpL : List Int → List Int → Int
  | [], [] => 0
  | [], _ :: _ => -1
  | _ :: _, [] => 1
  | x :: xs, y :: ys => if x < y then -1 else if y < x then 1 else cmpL xs ys

set_option maxRecDepth 100000 in
theorem nan_any (x : Int) (w : World) : Calls Try.prog 78 #[.int .i64 x] w fun e w' => e = .returned (.bool false) ∧ w' = w := by
  have hx : (x != x) = false := by simp
  go_enter Try.func78, Try.ntmps78
  go_wp2
  go_ret
  exact ⟨ret_bool (by simp), rfl⟩

set_option maxRecDepth 100000 in
theorem cmpI_any (x y : Int) (w : World) : Calls Try.prog 60 #[.int .i64 x, .int .i64 y] w fun e w' => e = .returned (.int .i64 (cmpI x y)) ∧ w' = w := by
  by_cases h1 : x < y
  · have HE : Hid (cmpI x y = -1) := if_pos h1
    go_enter Try.func60, Try.ntmps60
    go_wp2_with fail
    refine (nan_any x w).mono ?_
    rintro e w1 ⟨rfl, rfl⟩
    go_wp2_with fail
    refine (nan_any y w1).mono ?_
    rintro e w2 ⟨rfl, rfl⟩
    go_wp2
    go_ret
    exact ⟨by rw [HE.out]; rfl, rfl⟩
  · by_cases h2 : y < x
    · have HE : Hid (cmpI x y = 1) := by
        show _ = _
        unfold cmpI; rw [if_neg h1, if_pos h2]
      go_enter Try.func60, Try.ntmps60
      go_wp2_with fail
      refine (nan_any x w).mono ?_
      rintro e w1 ⟨rfl, rfl⟩
      go_wp2_with fail
      refine (nan_any y w1).mono ?_
      rintro e w2 ⟨rfl, rfl⟩
      go_wp2
      go_ret
      exact ⟨by rw [HE.out]; rfl, rfl⟩
    · have HE : Hid (cmpI x y = 0) := by
        show _ = _
        unfold cmpI; rw [if_neg h1, if_neg h2]
      go_enter Try.func60, Try.ntmps60
      go_wp2_with fail
      refine (nan_any x w).mono ?_
      rintro e w1 ⟨rfl, rfl⟩
      go_wp2_with fail
      refine (nan_any y w1).mono ?_
      rintro e w2 ⟨rfl, rfl⟩
      go_wp2
      go_ret
      exact ⟨by rw [HE.out]; rfl, rfl⟩

theorem cmpL_at {x y : List Int} {k : Nat} (h1 : k < x.length) (h2 : k < y.length) : cmpL (x.drop k) (y.drop k) = if cmpI (x.getD k 0) (y.getD k 0) = 0 then cmpL (x.drop (k + 1)) (y.drop (k + 1)) else cmpI (x.getD k 0) (y.getD k 0) := by
  rw [List.drop_eq_getElem_cons h1, List.drop_eq_getElem_cons h2]
  simp only [cmpL, cmpI, List.getD_eq_getElem?_getD, List.getElem?_eq_getElem h1, List.getElem?_eq_getElem h2, Option.getD_some]
  by_cases a : x[k] < y[k]
  · simp [a]
  · by_cases b : y[k] < x[k]
    · simp [a, b]
    · simp [a, b]

set_option maxRecDepth 100000 in
set_option maxHeartbeats 400000 in
theorem compare_any (B : Nat) (x y : List Int) (u v : Value) (w : World) (hu : Sl B 3 w u (ints x)) (hv : Sl B 3 w v (ints y)) :
    Calls Try.prog 61 #[u, v] w fun e w' => e = .returned (.int .i64 (cmpL x y)) ∧ w' = w := by
  obtain ⟨ao, cap, hvv, hlc, hcm⟩ := sl_open hu
  obtain ⟨bo, cbp, huu, hlb, hcb⟩ := sl_open hv
  subst hvv huu
  have HU : Hid (Sl B 3 w (.slice ao x.length cap) (ints x)) := hu
  have HV : Hid (Sl B 3 w (.slice bo y.length cbp) (ints y)) := hv
  clear hu hv
  go_enter Try.func61, Try.ntmps61
  go_wp2
  go_loopw [11] (fun i wr => ∃ k : Nat, k ≤ x.length ∧ k ≤ y.length ∧ i = .int .i64 k ∧ cmpL x y = cmpL (x.drop k) (y.drop k) ∧ wr = w) (fun i _ => x.length - (intOf i).toNat)
  case atStart => exact ⟨0, Nat.zero_le _, Nat.zero_le _, rfl, rfl, rfl⟩
  case round =>
    obtain ⟨k, hk, hk2, rfl, hcm2, rfl⟩ := hrel
    have HC : Hid (cmpL x y = cmpL (x.drop k) (y.drop k)) := hcm2
    clear hcm2
    by_cases hlt : k < x.length
    · obtain ⟨b, o, cp, hs, hc1, hcc⟩ := sl_cell HU.out hlt
      simp only [Value.slice.injEq] at hs
      obtain ⟨rfl, _, rfl⟩ := hs
      by_cases hlt2 : k < y.length
      · obtain ⟨b2, o2, cp2, hs2, hc2, hcc2⟩ := sl_cell HV.out hlt2
        simp only [Value.slice.injEq] at hs2
        obtain ⟨rfl, _, rfl⟩ := hs2
        have HA : Hid (cmpL (x.drop k) (y.drop k) = if cmpI (x.getD k 0) (y.getD k 0) = 0 then cmpL (x.drop (k + 1)) (y.drop (k + 1)) else cmpI (x.getD k 0) (y.getD k 0)) := cmpL_at hlt hlt2
        generalize x.getD k 0 = a at *
        generalize y.getD k 0 = c at *
        go_wp2_with fail
        refine (cmpI_any a c wr).mono ?_
        rintro e w1 ⟨rfl, rfl⟩
        generalize cmpI a c = r at *
        by_cases hr : r = 0
        · have HR : Hid (cmpL x y = cmpL (x.drop (k + 1)) (y.drop (k + 1))) := by
            show _ = _
            rw [HC.out, HA.out, if_pos hr]
          have hrb : (r != 0) = false := by simp [hr]
          clear hr
          go_wp2
          go_roundw
          case rel => exact ⟨k + 1, by omega, by omega, by go_num, HR.out, trivial⟩
          case measure => simp [intOf]; omega
        · have HR : Hid (cmpL x y = r) := by
            show _ = _
            rw [HC.out, HA.out, if_neg hr]
          have hrb : (r != 0) = true := by simp [hr]
          clear hr
          go_wp2
          go_ret
          exact ⟨by rw [HR.out]; rfl, rfl⟩
      · have hke : k = y.length := by omega
        have HR : Hid (cmpL x y = 1) := by
          show _ = _
          rw [HC.out, hke, List.drop_length, List.drop_eq_getElem_cons (by omega)]; rfl
        clear hke
        go_wp2
        go_ret
        exact ⟨by rw [HR.out]; rfl, rfl⟩
    · have hke : k = x.length := by omega
      by_cases hxy : x.length < y.length
      · have HR : Hid (cmpL x y = -1) := by
          show _ = _
          rw [HC.out, hke, List.drop_length, List.drop_eq_getElem_cons hxy]; rfl
        go_wp2
        go_ret
        exact ⟨by rw [HR.out]; rfl, rfl⟩
      · have HR : Hid (cmpL x y = 0) := by
          show _ = _
          have h2 : y.drop k = [] := List.drop_eq_nil_of_le (by omega)
          rw [HC.out, h2, hke, List.drop_length]; rfl
        go_wp2
        go_ret
        exact ⟨by rw [HR.out]; rfl, rfl⟩

set_option maxRecDepth 100000 in
set_option maxHeartbeats 400000 in
theorem equal_any (B : Nat) (x y : List Int) (u v : Value) (w : World) (hu : Sl B 3 w u (ints x)) (hv : Sl B 3 w v (ints y)) :
    Calls Try.prog 66 #[u, v] w fun e w' => e = .returned (.bool (x == y)) ∧ ∃ n, w' = w.drewN n := by
  have hu' := hu
  have hv' := hv
  obtain ⟨ao, cap, hvv, hlc, hcm, -⟩ := hu'
  obtain ⟨bo, cbp, huu, hlb, hcb, -⟩ := hv'
  simp only [ints_length] at hlc hvv hlb huu
  subst hvv huu
  have HU : Hid (Sl B 3 w (.slice ao x.length cap) (ints x)) := hu
  have HV : Hid (Sl B 3 w (.slice bo y.length cbp) (ints y)) := hv
  clear hu hv
  unfold maxLen at hcm hcb
  by_cases hl : x.length = y.length
  · have hbe : ((x.length : Int) != (y.length : Int)) = false := by simp [hl]
    have HL : Hid (x.length = y.length) := hl
    have hle : y.length ≤ x.length := by omega
    have hge : x.length ≤ y.length := by omega
    clear hl
    go_enter Try.func66, Try.ntmps66
    go_wp2
    go_loopw [13] (fun i wr => ∃ k : Nat, k ≤ x.length ∧ i = .int .i64 k ∧ (∀ j, j < k → x.getD j 0 = y.getD j 0) ∧ ∃ n, wr = w.drewN n) (fun i _ => x.length - (intOf i).toNat)
    case atStart => exact ⟨0, Nat.zero_le _, rfl, fun j hj => absurd hj (by omega), 0, rfl⟩
    case round =>
      obtain ⟨k, hk, rfl, hno, n, rfl⟩ := hrel
      have HN : Hid (∀ j, j < k → x.getD j 0 = y.getD j 0) := hno
      clear hno
      by_cases hlt : k < x.length
      · have hlt2 : k < y.length := by omega
        obtain ⟨b, o, cp, hs, hc1, hcc⟩ := sl_cell HU.out hlt
        simp only [Value.slice.injEq] at hs
        obtain ⟨rfl, _, rfl⟩ := hs
        obtain ⟨b2, o2, cp2, hs2, hc2, hcc2⟩ := sl_cell HV.out hlt2
        simp only [Value.slice.injEq] at hs2
        obtain ⟨rfl, _, rfl⟩ := hs2
        go_wp2
        go_quiet (fail)
        go_wp2
        · have hf : (x[k] != y[k]) = true := by assumption
          go_ret
          refine ⟨ret_bool (Eq.symm ?_), n + nq, by rw [World.drewN_drewN]⟩
          rw [beq_eq_false_iff_ne]
          rintro rfl
          simp at hf
        · have hf : (x[k] != y[k]) = false := by assumption
          go_roundw
          case rel =>
            refine ⟨k + 1, by omega, by go_num, fun j hj => ?_, _, rfl⟩
            by_cases hjk : j < k
            · exact HN.out j hjk
            · have : j = k := by omega
              subst this
              simpa [hlt, hlt2] using hf
          case measure => simp [intOf]; omega
      · go_wp2
        go_ret
        refine ⟨ret_bool (Eq.symm ?_), _, rfl⟩
        rw [beq_iff_eq]
        exact eq_of_all HL.out fun i hi => HN.out i (by omega)
  · have hbe : ((x.length : Int) != (y.length : Int)) = true := by simp; omega
    go_enter Try.func66, Try.ntmps66
    go_wp2
    go_ret
    refine ⟨ret_bool (Eq.symm ?_), 0, rfl⟩
    rw [beq_eq_false_iff_ne]
    rintro rfl
    exact hl rfl

end Go.Proofs.Ytkgljfnbaoncbaa

/- root.above: is a root there already? The closure, and IndexFunc, ContainsFunc by it. -/
namespace Go.Proofs.Ytkgljfnbaoncbaa
open Go.RowKit
attribute [local go_sem ↓] Go.wp_at_zero Go.wp_at_succ

theorem anyR_snocW {p : List Int → Bool} {l : List (List Int)} {k : Nat} (h : k < l.length) (h0 : (l.take k).any p = false) : (l.take (k + 1)).any p = p (l.getD k []) := by
  rw [List.take_succ_eq_append_getElem h, List.any_append, h0]
  simp [h]

set_option maxRecDepth 100000 in
theorem there1_any (B : Nat) (r b : List Int) (rv bv : Value) (p : Nat) (w : World) (hr : Sl B 3 w rv (ints r)) (hb : Sl B 3 w bv (ints b)) (hc : w.cell? ⟨p, 0, none⟩ = some bv) :
    Calls Try.prog 65 #[rv, .pointer (some ⟨p, 0, none⟩)] w fun e w' => e = .returned (.bool (r == b)) ∧ Below w.heap.size w w' := by
  have HE : Hid (Calls Try.prog 66 #[rv, bv] w fun e w' => e = .returned (.bool (r == b)) ∧ Below w.heap.size w w') := (equal_any B r b rv bv w hr hb).mono (fun e w' h => by
    obtain ⟨h1, n, rfl⟩ := h
    exact ⟨h1, ⟨rfl, rfl, rfl, Nat.le_refl _, fun _ _ => rfl⟩⟩)
  obtain ⟨ro, rc, hrv, _, _⟩ := sl_open hr
  subst hrv
  obtain ⟨bo, bc, hbv, _, _⟩ := sl_open hb
  subst hbv
  clear hr hb
  generalize (r == b) = fb at *
  go_enter Try.func65, Try.ntmps65
  go_wp2_with fail
  refine HE.out.mono ?_
  rintro e w' ⟨rfl, hb⟩
  have HB : Hid (Below w.heap.size w w') := hb
  clear hb
  go_wp2
  go_ret
  exact ⟨rfl, HB.out⟩

set_option maxRecDepth 100000 in
set_option maxHeartbeats 800000 in
theorem idxT_any (B : Nat) (f : List Int → Bool) (m : List (List Int)) (v : Value) (p1 : Addr) (w : World) (hv : Mat B 26 3 w v m)
    (hc : ∀ r ∈ m, ∀ (W : World) (rv : Value), Below w.heap.size w W → Sl B 3 W rv (ints r) → Calls Try.prog 65 #[rv, .pointer (some p1)] W fun e w' => e = .returned (.bool (f r)) ∧ Below w.heap.size w w') :
    Calls Try.prog 80 #[v, .func (.func 65) #[] #[.pointer (some p1)]] w fun e w' => (∃ z, e = .returned (.int .i64 z) ∧ -1 ≤ z ∧ z < m.length ∧ decide (0 ≤ z) = m.any f) ∧ Below w.heap.size w w' := by
  obtain ⟨ao, cap, hvv, hlc, hcm⟩ := mat_open hv
  subst hvv
  have HV : Hid (Mat B 26 3 w (.slice ao m.length cap) m) := hv
  have HC : Hid (∀ r ∈ m, ∀ (W : World) (rv : Value), Below w.heap.size w W → Sl B 3 W rv (ints r) → Calls Try.prog 65 #[rv, .pointer (some p1)] W fun e w' => e = .returned (.bool (f r)) ∧ Below w.heap.size w w') := hc
  clear hv hc
  go_enter Try.func80, Try.ntmps80
  go_wp2
  go_loopw [8] (fun i wr => ∃ k : Nat, k ≤ m.length ∧ i = .int .i64 k ∧ (m.take k).any f = false ∧ Below w.heap.size w wr) (fun i _ => m.length - (intOf i).toNat)
  case atStart => exact ⟨0, Nat.zero_le _, rfl, by simp, Below.refl _ _⟩
  case round =>
    obtain ⟨k, hk, rfl, hno, hb⟩ := hrel
    have HN : Hid ((m.take k).any f = false) := hno
    have HB : Hid (Below w.heap.size w wr) := hb
    clear hno hb
    by_cases hlt : k < m.length
    · obtain ⟨b1, o, cp, r1, hs, hc1, hcc, hr1⟩ := mat_cell (HV.out.below HB.out (Nat.le_refl _)) hlt
      simp only [Value.slice.injEq] at hs
      obtain ⟨rfl, hxx, rfl⟩ := hs
      clear hxx
      have HS1 : Hid ((m.take (k + 1)).any f = f (m.getD k [])) := anyR_snocW (p := f) hlt HN.out
      have HME : Hid (m.getD k [] ∈ m) := by
        show _ ∈ _
        simp [hlt]
      have HCA : Hid (Calls Try.prog 65 #[r1, .pointer (some p1)] wr fun e w' => e = .returned (.bool (f (m.getD k []))) ∧ Below w.heap.size w w') := HC.out _ HME.out wr r1 HB.out hr1
      clear hr1
      generalize m.getD k [] = x at *
      obtain ⟨fb, hfb⟩ : ∃ fb, fb = f x := ⟨_, rfl⟩
      have HFB : Hid (fb = f x) := hfb
      rw [← hfb] at HCA
      clear hfb
      go_wp2_with fail
      refine HCA.out.mono ?_
      rintro e w2 ⟨rfl, hb2⟩
      have HB2 : Hid (Below w.heap.size w w2) := hb2
      clear hb2 HCA
      cases hf : fb
      · have HF : Hid (f x = false) := by rw [← hf]; exact HFB.out.symm
        clear hf
        go_wp2
        go_roundw
        case rel => exact ⟨k + 1, by omega, by go_num, by rw [HS1.out]; exact HF.out, HB2.out⟩
        case measure => simp [intOf]; omega
      · have HF : Hid (f x = true) := by rw [← hf]; exact HFB.out.symm
        clear hf
        go_wp2
        go_ret
        refine ⟨⟨_, rfl, by omega, by omega, ?_⟩, HB2.out⟩
        rw [decide_eq_true (by omega)]
        exact (List.any_eq_true.2 ⟨x, HME.out, HF.out⟩).symm
    · have HTK : Hid (m.take k = m) := List.take_of_length_le (by omega)
      go_wp2
      go_ret
      exact ⟨⟨-1, rfl, by omega, by omega, by rw [← HTK.out, HN.out]; rfl⟩, HB.out⟩

set_option maxRecDepth 100000 in
theorem hasT_any (B : Nat) (f : List Int → Bool) (m : List (List Int)) (v : Value) (p1 : Addr) (w : World) (hv : Mat B 26 3 w v m)
    (hc : ∀ r ∈ m, ∀ (W : World) (rv : Value), Below w.heap.size w W → Sl B 3 W rv (ints r) → Calls Try.prog 65 #[rv, .pointer (some p1)] W fun e w' => e = .returned (.bool (f r)) ∧ Below w.heap.size w w') :
    Calls Try.prog 67 #[v, .func (.func 65) #[] #[.pointer (some p1)]] w fun e w' => e = .returned (.bool (m.any f)) ∧ Below w.heap.size w w' := by
  have HI : Hid (Calls Try.prog 80 #[v, .func (.func 65) #[] #[.pointer (some p1)]] w fun e w' => (∃ z, e = .returned (.int .i64 z) ∧ -1 ≤ z ∧ z < m.length ∧ decide (0 ≤ z) = m.any f) ∧ Below w.heap.size w w') := idxT_any B f m v p1 w hv hc
  obtain ⟨ao, cap, hvv, hlc, hcm⟩ := mat_open hv
  subst hvv
  clear hv hc
  generalize m.any f = R at *
  go_enter Try.func67, Try.ntmps67
  go_wp2_with fail
  refine HI.out.mono ?_
  rintro e w' ⟨⟨z, rfl, hz1, hz2, hz3⟩, hb⟩
  have HZ : Hid (decide (0 ≤ z) = R) := hz3
  have HB : Hid (Below w.heap.size w w') := hb
  clear hz3 hb
  go_wp2
  go_ret
  exact ⟨ret_bool HZ.out, HB.out⟩

end Go.Proofs.Ytkgljfnbaoncbaa

/- root.above: the roots above 0. -/
namespace Go.Proofs.Ytkgljfnbaoncbaa
open Go.RowKit
attribute [local go_sem ↓] Go.wp_at_zero Go.wp_at_succ

/-- One turn: what comes of a root, if it is above 0 and new. -/
def abS (c : List (List Int)) (i j : Nat) (L : List (List Int)) : List (List Int) :=
  if (0 ≤ (tnL c (L.getD i []) j).getD j 0 ∧ L.any (· == tnL c (L.getD i []) j) = false) then L ++ [tnL c (L.getD i []) j] else L

/-- All turns of one root. -/
def abI (c : List (List Int)) (i : Nat) : Nat → List (List Int) → List (List Int)
  | 0, L => L
  | j + 1, L => abS c i j (abI c i j L)

/-- Root after root. -/
def abO (c : List (List Int)) : Nat → Nat → List (List Int) → List (List Int)
  | 0, _, L => L
  | f + 1, i, L => if i < L.length ∧ L.length ≤ 24 then abO c f (i + 1) (abI c i c.length L) else L

def abL (c : List (List Int)) : List (List Int) := abO c 30 0 ((List.range c.length).map fun r => un c.length r)

theorem abS_pre (c : List (List Int)) (i j : Nat) (L : List (List Int)) : L <+: abS c i j L := by
  unfold abS
  split
  · exact List.prefix_append _ _
  · exact List.prefix_refl _

theorem abI_pre (c : List (List Int)) (i : Nat) : ∀ (j : Nat) (L : List (List Int)), L <+: abI c i j L
  | 0, _ => List.prefix_refl _
  | j + 1, L => (abI_pre c i j L).trans (abS_pre c i j _)

theorem abO_pre (c : List (List Int)) : ∀ (f i : Nat) (L : List (List Int)), L <+: abO c f i L
  | 0, _, _ => List.prefix_refl _
  | f + 1, i, L => by
    unfold abO
    split
    · exact (abI_pre c i _ L).trans (abO_pre c f _ _)
    · exact List.prefix_refl _

theorem abS_len (c : List (List Int)) (i j : Nat) (L : List (List Int)) : (abS c i j L).length ≤ L.length + 1 := by
  unfold abS
  split
  · simp
  · omega

theorem abI_len (c : List (List Int)) (i : Nat) : ∀ (j : Nat) (L : List (List Int)), (abI c i j L).length ≤ L.length + j
  | 0, _ => Nat.le_refl _
  | j + 1, L => by
    have h1 := abI_len c i j L
    have h2 := abS_len c i j (abI c i j L)
    show (abS c i j (abI c i j L)).length ≤ _
    omega

end Go.Proofs.Ytkgljfnbaoncbaa
