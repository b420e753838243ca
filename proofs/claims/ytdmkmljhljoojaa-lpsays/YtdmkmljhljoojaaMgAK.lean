import Derived.Test.YtdmkmljhljoojaaRef1
import Derived.Test.YtdmkmljhljoojaaWi1
import Derived.Test.YtdmkmljhljoojaaMgAI
import Derived.Test.YtdmkmljhljoojaaRefs5
import Derived.Test.YtdmkmljhljoojaaMgAG
import Derived.Test.YtdmkmljhljoojaaRefs7
/- half.Check and half.Empty, of cuts that may be. -/
namespace Go.Proofs.Ytdmkmljhljoojaa
open Go.RowKit

/-- A cut that may be. -/
structure CutF (d : Nat) (rows : List (List Int)) : Prop where
  d1 : 1 ≤ d
  d4 : d ≤ 4
  n12 : rows.length ≤ 12
  len : ∀ r ∈ rows, r.length = d + 1
  bd : ∀ r ∈ rows, ∀ z ∈ r, z.natAbs ≤ 20

/-- Nothing is in it: there is a way in which rows say that 0 is below 0. -/
def empB (d : Nat) (rows : List (List Int)) : Bool := !(waysL rows (refG d)).isEmpty

theorem far_no {r : List Int} {n : Nat} (h : ∀ z ∈ r, z.natAbs ≤ n) : r.any (farB · n) = false := by
  rw [List.any_eq_false]
  intro z hz
  have := h z hz
  simp [farB]
  omega

set_option maxRecDepth 100000 in
set_option maxHeartbeats 400000 in
theorem list_ok (B : Nat) (r : List Int) (v : Value) (many : Int) (w : World) (hv : Sl B 3 w v (ints r)) (hd : (r.length : Int) = many) (hn : r.any (farB · 20) = false) :
    Calls Try.prog 39 #[v, .int .i64 many, .int .i64 20] w fun e w' => e = .returned (.int .i64 0) ∧ Below w.heap.size w w' := by
  subst hd
  refine (chkL_any B r.length 20 r v w hv (by decide) (by decide)).mono ?_
  rintro e w1 ⟨rfl, hb1⟩
  rw [hn]
  exact ⟨by simp, hb1⟩

set_option maxRecDepth 100000 in
set_option maxHeartbeats 1600000 in
theorem halfCheckF_ok (d : Nat) (rows : List (List Int)) (v : Value) (w : World) (hv : Mat w.heap.size 25 3 w v rows) (hc : CutF d rows) :
    Calls Try.prog 25 #[.agg #[.int .i64 d, v]] w fun e w' => e = .returned (.int .i64 0) ∧ Below w.heap.size w w' := by
  obtain ⟨ao, cap, hvv, hlc, hcm⟩ := mat_open hv
  subst hvv
  have HV : Hid (Mat w.heap.size 25 3 w (.slice ao rows.length cap) rows) := hv
  have HC : Hid (CutF d rows) := hc
  have h1 : (1 : Int) ≤ (d : Int) := by have := hc.d1; omega
  have h1' : ¬ (d : Int) < 1 := by omega
  have h4 : (d : Int) ≤ 4 := by have := hc.d4; omega
  have h12 := hc.n12
  have hd1 : decide ((d : Int) < 1) = false := by simp; omega
  obtain ⟨W0, hW0⟩ : ∃ W0, W0 = w.alloc (.cells #[.int .i64 d, .slice ao rows.length cap] 24) := ⟨_, rfl⟩
  have HW0 : Hid (W0 = w.alloc (.cells #[.int .i64 d, .slice ao rows.length cap] 24)) := hW0
  have HB0 : Hid (Below w.heap.size w W0) := by rw [hW0]; exact alloc_keep _ _
  have HK0 : Hid (W0.cell? ⟨w.heap.size, 0, none⟩ = some (.int .i64 d)) := by
    have h0 : W0.heap[w.heap.size]? = some (.cells #[.int .i64 d, .slice ao rows.length cap] 24 (0, 0)) := by rw [hW0]; exact alloc_new _ _
    show W0.cell? _ = _
    simp [World.cell?, h0]
  have HS0 : Hid (W0.heap.size = w.heap.size + 1) := by rw [hW0]; exact size_alloc _ _
  clear hv hc hW0
  go_enter Try.func25, Try.ntmps25
  go_wp2
  rw [← HW0.out]
  go_loopw [21] (fun i wr => ∃ k : Nat, k ≤ rows.length ∧ i = .int .i64 k ∧ Below W0.heap.size W0 wr) (fun i _ => rows.length - (intOf i).toNat)
  case atStart => exact ⟨0, Nat.zero_le _, rfl, Below.refl _ _⟩
  case round =>
    obtain ⟨k, hk, rfl, hb⟩ := hrel
    have HB : Hid (Below W0.heap.size W0 wr) := hb
    have hbw : Below w.heap.size w wr := HB0.out.trans (hb.mono HB0.out.size)
    have HBW : Hid (Below w.heap.size w wr) := hbw
    have hcc : wr.cell? ⟨w.heap.size, 0, none⟩ = some (.int .i64 d) := (hb.cell (p := ⟨w.heap.size, 0, none⟩) (by have := HS0.out; show w.heap.size < _; omega)).trans HK0.out
    clear hb
    by_cases hlt : k < rows.length
    · obtain ⟨vb, voo, vcp, rv, hvs, _, hvcell, hrv⟩ := mat_cell (HV.out.below hbw (Nat.le_refl _)) hlt
      simp only [Value.slice.injEq] at hvs
      obtain ⟨rfl, _, rfl⟩ := hvs
      have hmem : rows.getD k [] ∈ rows := by simp [hlt]
      have hlen := HC.out.len _ hmem
      have HLC : Hid (Calls Try.prog 39 #[rv, .int .i64 ((d : Int) + 1), .int .i64 20] wr fun e w' => e = .returned (.int .i64 0) ∧ Below wr.heap.size wr w') :=
        list_ok _ (rows.getD k []) rv _ wr hrv (by rw [hlen]; omega) (far_no (HC.out.bd _ hmem))
      clear hrv hlen hmem hbw
      have hkI : (0 : Int) ≤ (k : Int) := by omega
      have hkJ : (k : Int) < (rows.length : Int) := by omega
      go_wp2_with fail
      refine HLC.out.mono ?_
      rintro e w1 ⟨rfl, hb1⟩
      have HB1 : Hid (Below W0.heap.size W0 w1) := HB.out.trans (hb1.mono HB.out.size)
      clear hb1 hvcell hcc HLC
      go_wp2
      go_roundw
      case rel => exact ⟨k + 1, by omega, by go_num, HB1.out⟩
      case measure => simp [intOf]; omega
    · clear hbw
      go_wp2
      go_ret
      exact ⟨rfl, HBW.out⟩

set_option maxRecDepth 100000 in
set_option maxHeartbeats 1600000 in
theorem isEmptyF_ok (d : Nat) (rows : List (List Int)) (v : Value) (w : World) (hv : Mat w.heap.size 25 3 w v rows) (hc : CutF d rows) :
    Calls Try.prog 47 #[.agg #[.int .i64 d, v]] w fun e w' => e = .returned (.bool (empB d rows)) ∧ Below w.heap.size w w' := by
  obtain ⟨ao, cap, hvv, hlc, hcm⟩ := mat_open hv
  subst hvv
  have HR : Hid (Calls Try.prog 26 #[.slice ao rows.length cap, .int .i64 d] (w.alloc (.cells #[.int .i64 d, .slice ao rows.length cap] 24)) fun e w' => ∃ p q u, e = .returned (.tuple #[.agg #[p, q, .int .i64 u], .bool (empB d rows)]) ∧ (∃ a b c, p = .slice a b c) ∧ (∃ a b c, q = .slice a b c) ∧ Below w.heap.size w w') := by
    have hm : Mat (w.alloc (.cells #[.int .i64 d, .slice ao rows.length cap] 24)).heap.size 25 3 (w.alloc (.cells #[.int .i64 d, .slice ao rows.length cap] 24)) (.slice ao rows.length cap) rows := (hv.below (alloc_keep w _) (Nat.le_refl _)).more (by simp)
    refine (refuted5_any rows d _ _ hm (fun r hr => ⟨hc.len r hr, fun z hz => by have := hc.bd r hr z hz; omega⟩) (.inr ⟨hc.d4, hc.bd⟩) (by have := hc.n12; omega)).mono ?_
    rintro e w' ⟨tv, rfl, h1, h2⟩
    have hb : Below w.heap.size w w' := (alloc_keep w _).trans (h2.mono (by simp))
    rcases h1 with ⟨_, rfl⟩ | ⟨c, l, co, cc, po, pc, _, rfl, _, _⟩
    · exact ⟨_, _, _, rfl, ⟨_, _, _, rfl⟩, ⟨_, _, _, rfl⟩, hb⟩
    · exact ⟨_, _, _, rfl, ⟨_, _, _, rfl⟩, ⟨_, _, _, rfl⟩, hb⟩
  clear hv hc
  generalize empB d rows = eb at *
  go_enter Try.func47, Try.ntmps47
  go_wp2_with fail
  refine HR.out.mono ?_
  rintro e w1 ⟨p, q, u, rfl, ⟨a1, a2, a3, rfl⟩, ⟨b1, b2, b3, rfl⟩, hb⟩
  have HB : Hid (Below w.heap.size w w1) := hb
  have hsz := hb.size
  clear hb HR
  go_wp2
  go_ret
  exact ⟨rfl, HB.out.alloc hsz _⟩

set_option maxRecDepth 100000 in
set_option maxHeartbeats 1600000 in
theorem emptyF_ok (d : Nat) (rows : List (List Int)) (v : Value) (w : World) (hv : Mat w.heap.size 25 3 w v rows) (hc : CutF d rows) :
    Calls Try.prog 42 #[.agg #[.int .i64 d, v]] w fun e w' => e = .returned (.tuple #[.bool (empB d rows), .int .i64 0]) ∧ Below w.heap.size w w' := by
  obtain ⟨ao, cap, hvv, hlc, hcm⟩ := mat_open hv
  subst hvv
  have HV : Hid (Mat w.heap.size 25 3 w (.slice ao rows.length cap) rows) := hv
  have HC : Hid (CutF d rows) := hc
  obtain ⟨eb, heb⟩ : ∃ eb, eb = empB d rows := ⟨_, rfl⟩
  rw [← heb]
  have HEB : Hid (eb = empB d rows) := heb
  clear hv hc heb
  obtain ⟨W, hW⟩ : ∃ W, W = w.alloc (.cells #[.int .i64 d, .slice ao rows.length cap] 24) := ⟨_, rfl⟩
  have hbW : Below w.heap.size w W := by rw [hW]; exact alloc_keep _ _
  have hkW : W.heap[w.heap.size]? = some (.cells #[.int .i64 d, .slice ao rows.length cap] 24 (0, 0)) := by rw [hW]; exact alloc_new _ _
  have hsW : W.heap.size = w.heap.size + 1 := by rw [hW]; simp
  have H1 : Hid (Calls Try.prog 25 #[.agg #[.int .i64 d, .slice ao rows.length cap]] W fun e w' => e = .returned (.int .i64 0) ∧ Below W.heap.size W w') := halfCheckF_ok d rows _ W ((HV.out.below hbW (Nat.le_refl _)).more hbW.size) HC.out
  have HW : Hid (W = w.alloc (.cells #[.int .i64 d, .slice ao rows.length cap] 24)) := hW
  have HBW : Hid (Below w.heap.size w W) := hbW
  have HKW : Hid (W.heap[w.heap.size]? = some (.cells #[.int .i64 d, .slice ao rows.length cap] 24 (0, 0))) := hkW
  have HSW : Hid (W.heap.size = w.heap.size + 1) := hsW
  clear hW hbW hkW hsW
  go_enter Try.func42, Try.ntmps42
  go_wp2_with fail
  rw [← HW.out]
  refine H1.out.mono ?_
  rintro e w1 ⟨rfl, hb1⟩
  have hb2 : Below w.heap.size w w1 := HBW.out.trans (hb1.mono HBW.out.size)
  have H2 : Hid (Calls Try.prog 47 #[.agg #[.int .i64 d, .slice ao rows.length cap]] w1 fun e w' => e = .returned (.bool eb) ∧ Below w1.heap.size w1 w') := by
    rw [HEB.out]
    exact isEmptyF_ok d rows _ w1 ((HV.out.below hb2 (Nat.le_refl _)).more hb2.size) HC.out
  have hk1 : w1.heap[w.heap.size]? = some (.cells #[.int .i64 d, .slice ao rows.length cap] 24 (0, 0)) := (hb1.block _ (by have := HSW.out; omega)).trans HKW.out
  have k0 : w1.cell? ⟨w.heap.size, 0, none⟩ = some (.int .i64 d) := by simp [World.cell?, hk1]
  have k1 : w1.cell? ⟨w.heap.size, 1, none⟩ = some (.slice ao rows.length cap) := by simp [World.cell?, hk1]
  have HB2 : Hid (Below w.heap.size w w1) := hb2
  clear hb1 hb2 hk1
  go_wp2_with fail
  refine H2.out.mono ?_
  rintro e w2 ⟨rfl, hb3⟩
  have HB3 : Hid (Below w.heap.size w w2) := HB2.out.trans (hb3.mono HB2.out.size)
  clear hb3
  go_wp2
  go_ret2
  exact ⟨rfl, HB3.out⟩

end Go.Proofs.Ytdmkmljhljoojaa

/- The normal when the last column's sign is turned (pure). -/
namespace Go.Proofs.Ytdmkmljhljoojaa
open Lin

/-- Just one direction is 0 with all rows. -/
def OneDir (d : Nat) (m : List (List Int)) : Prop :=
  ∃ a : Nat → Int, (∃ i, i < d ∧ a i ≠ 0) ∧ (∀ r ∈ m, dot d (V r) a = 0) ∧ ∀ u : Nat → Int, (∀ r ∈ m, dot d (V r) u = 0) → Par d u a

theorem norm_one_iff {d : Nat} {m : List (List Int)} : normB d m = true ↔ OneDir d m := by
  constructor
  · intro h
    have hl : (pickL d m).length + 1 = d := by simpa [normB] using h
    obtain ⟨h0, h1, h2⟩ := norm_spec hl
    exact ⟨_, h0, h1, h2⟩
  · rintro ⟨a, h0, h1, h2⟩
    have hc := greedy_count (pick_greedy d m) (a := a) h0 (fun r hr => by
      obtain ⟨l, hl, rfl⟩ := mem_fm.1 hr
      exact h1 l hl) (fun u hu => h2 u (fun r hr => hu (V r) (mem_fm.2 ⟨r, hr, rfl⟩)))
    rw [fm_length] at hc
    simpa [normB] using hc

end Go.Proofs.Ytdmkmljhljoojaa

/- What is done with each choice: its row, if there is one, is kept. -/
namespace Go.Proofs.Ytdmkmljhljoojaa
open Go.RowKit
attribute [local go_sem ↓] Go.wp_at_zero Go.wp_at_succ

theorem owns_set {B R n j : Nat} {e : TypeId} {w : World} {v u : Value} {xs : List Value} (h : w.ownsRow B e 1 v n xs) (hR : R < B) : (w.setCell ⟨R, j, none⟩ u).ownsRow B e 1 v n xs := by
  refine ⟨h.1, ?_⟩
  rcases h.2 with h2 | ⟨k, cap, cur, rfl, hb, hh, r⟩
  · exact Or.inl h2
  · exact Or.inr ⟨k, cap, cur, rfl, hb, (Below.heap_setCell w _ u k (by show k ≠ R; omega)).trans hh, r⟩

/-- Behind a store into a block of another element type. -/
theorem Fr.set {B b j : Nat} {t : TypeId} {w : World} {v u : Value} {m : List (List Int)} {cur : Array Value} (h : Fr B 25 3 w v m) (hb : b < B) (hR : w.heap[b]? = some (.cells cur t (0, 0))) (ht : t ≠ 3) : Fr B 25 3 (w.setCell ⟨b, j, none⟩ u) v m := by
  obtain ⟨vs, h1, h2, h3⟩ := h
  refine ⟨vs, h1, owns_set h2 hb, fun i hi => (h3 i hi).setCell u ⟨Nat.zero_le _, fun cur' e => ?_⟩⟩
  have e' : w.heap[b]? = some (.cells cur' 3 (0, 0)) := e
  rw [hR] at e'
  simp at e'
  exact ht e'.2

end Go.Proofs.Ytdmkmljhljoojaa

/- Choices by numbers: the document's are the program's. -/
namespace Go.Proofs.Ytdmkmljhljoojaa
open Go.RowKit

theorem ext_all : ∀ (k : Nat) {n fr : Nat} {c : List Int}, c.length = k → (∀ i, i < k → (fr : Int) ≤ c.getD i 0 ∧ c.getD i 0 < n) → (∀ i j, i < j → j < k → c.getD i 0 < c.getD j 0) → c ∈ ext n k fr
  | 0, n, fr, c, hl, _, _ => by
    have := List.eq_nil_of_length_eq_zero hl
    subst this
    simp [ext]
  | k + 1, n, fr, c, hl, hb, hr => by
    cases c with
    | nil => simp at hl
    | cons a c =>
      have h0 := hb 0 (by omega)
      simp only [List.getD_cons_zero] at h0
      simp only [ext, List.mem_flatMap, List.mem_map, List.mem_range'_1]
      refine ⟨a.toNat, by omega, c, ext_all k (by simpa using hl) (fun i hi => ?_) (fun i j hij hj => ?_), by congr 1; omega⟩
      · have h1 := hb (i + 1) (by omega)
        have h2 := hr 0 (i + 1) (by omega) (by omega)
        simp only [List.getD_cons_succ, List.getD_cons_zero] at h1 h2
        exact ⟨by omega, h1.2⟩
      · have h2 := hr (i + 1) (j + 1) (by omega) (by omega)
        simpa only [List.getD_cons_succ] using h2

theorem chosen_ext {k n : Nat} {c : List Int} : c ∈ chosenL k n ↔ c ∈ ext n k 0 := by
  constructor
  · intro h
    obtain ⟨h1, h2⟩ := chosen_mem k n c h
    exact ext_all k (chosen_row k n c h) (fun i hi => by have := h1 i hi; exact ⟨by simpa using this.1, this.2⟩) h2
  · intro h
    obtain ⟨h1, h2, h3⟩ := ext_rise h
    have := chosen_all k n (fun i => (c.getD i 0).toNat) ⟨fun i j hij hj => by
      have q1 := h3 i j hij hj
      have q2 := h2 i (by omega)
      show (c.getD i 0).toNat < (c.getD j 0).toNat
      omega, fun i hi => by
      have q2 := h2 i hi
      show (c.getD i 0).toNat < n
      omega⟩
    have e : ((List.range k).map fun i => (((c.getD i 0).toNat : Nat) : Int)) = c := by
      apply List.ext_getElem
      · simp [h1]
      · intro i q1 q2
        have := h2 i (by omega)
        have e2 : c.getD i 0 = c[i] := by simp [show i < c.length by omega]
        simp only [List.getElem_map, List.getElem_range]
        rw [← e2]
        omega
    rw [e] at this
    exact this

end Go.Proofs.Ytdmkmljhljoojaa

/- What a choice of rows gives: the place where they are met, if there is one alone and it keeps all rows (pure). -/
namespace Go.Proofs.Ytdmkmljhljoojaa

/-- A row whose last number has the other sign. -/
def ngR (d : Nat) (r : List Int) : List Int := r.take d ++ [-(r.getD d 0)]

theorem ngR_len {d : Nat} {r : List Int} (h : r.length = d + 1) : (ngR d r).length = d + 1 := by simp [ngR, h]

theorem ngR_get {d i : Nat} {r : List Int} (h : r.length = d + 1) (hi : i < d + 1) : (ngR d r).getD i 0 = if i = d then -(r.getD d 0) else r.getD i 0 := by
  unfold ngR
  by_cases e : i = d
  · subst e
    rw [if_pos rfl]
    simp [List.getD_eq_getElem?_getD, h]
  · rw [if_neg e]
    have hi2 : i < (r.take d).length := by simp [h]; omega
    rw [List.getD_eq_getElem?_getD, List.getElem?_append_left hi2, List.getElem?_take_of_lt (by omega), ← List.getD_eq_getElem?_getD]

/-- What a choice of rows gives: the place where they are met, if there is one alone and it keeps all rows. -/
def ptY (d : Nat) (t : List (List Int)) : List Int :=
  if (normL (d + 1) (t.map (ngR d))).getD d 0 < 0 then (normL (d + 1) (t.map (ngR d))).map (fun z => -z) else normL (d + 1) (t.map (ngR d))

def ptK (R : List (List Int)) (d : Nat) (y : List Int) : Bool := R.all fun r => decide (dotL (r.take d) y ≤ r.getD d 0 * y.getD d 0)

def ptT (R : List (List Int)) (d : Nat) (t : List (List Int)) : Option (List Int) :=
  if normB (d + 1) (t.map (ngR d)) = true ∧ (normL (d + 1) (t.map (ngR d))).getD d 0 ≠ 0 ∧ ptK R d (ptY d t) = true then some (ptY d t) else none

end Go.Proofs.Ytdmkmljhljoojaa
