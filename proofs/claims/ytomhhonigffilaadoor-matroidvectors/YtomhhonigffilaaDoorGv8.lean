/- slices.Contains; matroid.checkColumn; matroid.Vectors. -/
import Derived.Test.YtomhhonigffilaaDoorGv5
import Derived.Test.YtomhhonigffilaaDoorGv7
namespace Go.Proofs.YtomhhonigffilaaDoor
open Go.RowKit
attribute [local go_sem ↓] Go.wp_at_zero Go.wp_at_succ

theorem anyV_contains (zs : List Int) (x : Int) : zs.any (fun z => z == x) = zs.contains x := by
  rw [Bool.eq_iff_iff]; simp

theorem anyV_snoc {α : Type} {p : α → Bool} {l : List α} {d : α} {k : Nat} (h : k < l.length) (h0 : (l.take k).any p = false) : (l.take (k + 1)).any p = p (l.getD k d) := by
  rw [List.take_succ_eq_append_getElem h, List.any_append, h0]; simp [h]

theorem anyV_get {α : Type} {p : α → Bool} {l : List α} {d : α} {k : Nat} (h : k < l.length) (h0 : p (l.getD k d) = true) : l.any p = true :=
  List.any_eq_true.2 ⟨l.getD k d, by simp [h], h0⟩

set_option maxRecDepth 100000 in
set_option maxHeartbeats 400000 in
theorem indexV_any (B : Nat) (x : Int) (zs : List Int) (v : Value) (w : World) (hv : Sl B 3 w v (ints zs)) :
    Calls Tryd.prog 23 #[v, .int .i64 x] w fun e w' => ∃ k : Int, e = .returned (.int .i64 k) ∧ decide (0 ≤ k) = zs.contains x ∧ w' = w := by
  obtain ⟨ao, cap, hvv, hlc, hcm⟩ := sl_open hv
  subst hvv
  have HV : Hid (Sl B 3 w (.slice ao zs.length cap) (ints zs)) := hv
  clear hv
  rw [← anyV_contains]
  go_enter Tryd.func23, Tryd.ntmps23
  go_wp2
  go_loopw [8, 5] (fun i _ wr => ∃ k : Nat, k ≤ zs.length ∧ i = .int .i64 k ∧ (zs.take k).any (fun z => z == x) = false ∧ wr = w) (fun i _ _ => zs.length - (intOf i).toNat)
  case atStart => exact ⟨0, Nat.zero_le _, rfl, by simp, rfl⟩
  case round =>
    obtain ⟨k, hk, rfl, hno, rfl⟩ := hrel
    have HN : Hid ((zs.take k).any (fun z => z == x) = false) := hno
    clear hno
    by_cases hlt : k < zs.length
    · obtain ⟨b, o, cp, hs, hc1, hcc⟩ := sl_cell HV.out hlt
      simp only [Value.slice.injEq] at hs
      obtain ⟨rfl, _, rfl⟩ := hs
      have HS1 : Hid ((zs.take (k + 1)).any (fun z => z == x) = (zs.getD k 0 == x)) := anyV_snoc (p := fun z => z == x) hlt HN.out
      have HG : Hid ((zs.getD k 0 == x) = true → zs.any (fun z => z == x) = true) := fun h => anyV_get (p := fun z => z == x) hlt h
      generalize zs.getD k 0 = z at *
      cases hf : (x == z)
      · have HF : Hid ((z == x) = false) := by rw [beq_eq_false_iff_ne] at hf ⊢; exact fun e => hf e.symm
        go_wp2
        go_roundw
        case rel => exact ⟨k + 1, by omega, by go_num, by rw [HS1.out]; exact HF.out, trivial⟩
        case measure => simp [intOf]; omega
      · have HF : Hid ((z == x) = true) := by rw [beq_iff_eq] at hf ⊢; exact hf.symm
        have HK : Hid (decide ((0 : Int) ≤ (k : Int)) = true) := decide_eq_true (by omega)
        go_wp2
        go_ret
        exact ⟨k, rfl, by rw [HK.out, HG.out HF.out], rfl⟩
    · have hke : zs.take k = zs := List.take_of_length_le (by omega)
      have HE : Hid (zs.any (fun z => z == x) = false) := by rw [← hke]; exact HN.out
      go_wp2
      go_ret
      exact ⟨-1, rfl, by rw [HE.out]; rfl, rfl⟩

set_option maxRecDepth 100000 in
theorem containsV_any (B : Nat) (x : Int) (zs : List Int) (v : Value) (w : World) (hv : Sl B 3 w v (ints zs)) :
    Calls Tryd.prog 13 #[v, .int .i64 x] w fun e w' => e = .returned (.bool (zs.contains x)) ∧ w' = w := by
  obtain ⟨ao, cap, hvv, hlc, hcm⟩ := sl_open hv
  subst hvv
  have HI : Hid (Calls Tryd.prog 23 #[.slice ao zs.length cap, .int .i64 x] w fun e w' => ∃ k : Int, e = .returned (.int .i64 k) ∧ decide (0 ≤ k) = zs.contains x ∧ w' = w) := indexV_any B x zs _ w hv
  clear hv
  generalize zs.contains x = c at *
  go_enter Tryd.func13, Tryd.ntmps13
  go_wp2_with fail
  refine HI.out.mono ?_
  rintro e w' ⟨k, rfl, hk, rfl⟩
  have HK : Hid (decide (0 ≤ k) = c) := hk
  clear hk
  go_wp2
  go_ret
  exact ⟨ret_bool HK.out, rfl⟩

theorem vcE_with {p : Int} {long : Nat} {r : List Int} (h : ¬ (long < 1 ∨ 8 < long)) : vcE p long r = withE long 0 (p - 1) r := by
  unfold vcE withE
  by_cases c : r.length ≠ long
  · rw [if_pos (.inl c), if_pos c]
  · rw [if_neg (by omega), if_neg c]

set_option maxRecDepth 100000 in
theorem checkColumn_any (B : Nat) (p : Int) (long : Nat) (r : List Int) (v : Value) (w : World) (hv : Sl B 3 w v (ints r)) (hp : 0 ≤ p) (hp7 : p ≤ 7) :
    Calls Tryd.prog 14 #[.int .i64 p, v, .int .i64 long] w fun e w' => e = .returned (.int .i64 (vcE p long r)) ∧ Below w.heap.size w w' := by
  have HW : Hid (Calls Tryd.prog 24 #[v, .int .i64 long, .int .i64 0, .int .i64 (p - 1)] w fun e w' => e = .returned (.int .i64 (withE long 0 (p - 1) r)) ∧ Below w.heap.size w w') := within_any B long 0 (p - 1) r v w hv
  have hw : IntKind.i64.wrap (p - 1) = p - 1 := by rw [IntKind.wrap_i64]; omega
  by_cases h1 : long < 1
  · have HE : Hid (vcE p long r = 3) := vcE_form (.inr (.inl h1))
    have h1' : (long : Int) < 1 := by omega
    clear h1
    go_enter Tryd.func14, Tryd.ntmps14
    go_wp2
    go_ret
    exact ⟨by rw [HE.out]; rfl, Below.refl _ _⟩
  by_cases h2 : 8 < long
  · have HE : Hid (vcE p long r = 3) := vcE_form (.inr (.inr h2))
    have h1' : ¬ (long : Int) < 1 := by omega
    have h2' : (8 : Int) < (long : Int) := by omega
    clear h1 h2
    go_enter Tryd.func14, Tryd.ntmps14
    go_wp2
    go_ret
    exact ⟨by rw [HE.out]; rfl, Below.refl _ _⟩
  have HE : Hid (vcE p long r = withE long 0 (p - 1) r) := vcE_with (by omega)
  have h1' : ¬ (long : Int) < 1 := by omega
  have h2' : ¬ (8 : Int) < (long : Int) := by omega
  clear h1 h2
  go_enter Tryd.func14, Tryd.ntmps14
  go_wp2_with fail
  refine HW.out.mono ?_
  rintro e w' ⟨rfl, hb⟩
  have HB : Hid (Below w.heap.size w w') := hb
  clear hb
  go_wp2
  go_ret
  exact ⟨by rw [HE.out]; rfl, HB.out⟩

/-- What Vectors gives: how many things, and the bases. -/
def vmN (p : Int) (m : List (List Int)) : Int := if vmE p m = 0 then (m.length : Int) else 0

noncomputable def vmB (p : Int) (m : List (List Int)) : List Int := if vmE p m = 0 then greL (setsTo (fvE p (m.getD 0 []).length m) (2 ^ m.length)) else []

theorem scV_all {p : Int} {long : Nat} : ∀ (m : List (List Int)), scV p long m = 0 → ∀ r ∈ m, vcE p long r = 0
  | [], _, r, hr => by simp at hr
  | x :: m, h, r, hr => by
    have h' : (if vcE p long x = 0 then scV p long m else vcE p long x) = 0 := h
    by_cases c : vcE p long x = 0
    · rw [if_pos c] at h'
      rcases List.mem_cons.1 hr with rfl | hr
      · exact c
      · exact scV_all m h' r hr
    · rw [if_neg c] at h'; exact absurd h' c

theorem has4 {p : Int} (h : ([2, 3, 5, 7] : List Int).contains p = true) : p = 2 ∨ p = 3 ∨ p = 5 ∨ p = 7 := by
  have h' : p ∈ ([2, 3, 5, 7] : List Int) := List.contains_iff_mem.1 h
  simpa using h'

/-- Columns that may be: rows of d numbers below p. -/
theorem vmE_good {p : Int} {m : List (List Int)} (h : vmE p m = 0) : ∃ q : Nat, p = (q : Int) ∧ (q = 2 ∨ q = 3 ∨ q = 5 ∨ q = 7) ∧ m.length ≤ 8 ∧ (m ≠ [] → 1 ≤ (m.getD 0 []).length ∧ (m.getD 0 []).length ≤ 8) ∧ Rp (m.getD 0 []).length q m := by
  unfold vmE at h
  by_cases c1 : ([2, 3, 5, 7] : List Int).contains p = false
  · rw [if_pos c1] at h; cases h
  rw [if_neg c1] at h
  by_cases c2 : 8 < m.length
  · rw [if_pos c2] at h; cases h
  rw [if_neg c2] at h
  have hp : p = 2 ∨ p = 3 ∨ p = 5 ∨ p = 7 := has4 (by revert c1; cases ([2, 3, 5, 7] : List Int).contains p <;> simp)
  have hall := scV_all m h
  refine ⟨p.toNat, by omega, by omega, by omega, fun hne => ?_, fun r hr => ?_⟩
  · match m, hne with
    | x :: m, _ =>
      have hx := hall x (by simp)
      unfold vcE at hx
      by_cases c : x.length ≠ ((x :: m).getD 0 []).length ∨ ((x :: m).getD 0 []).length < 1 ∨ 8 < ((x :: m).getD 0 []).length
      · rw [if_pos c] at hx; cases hx
      · omega
  · have hx := hall r hr
    unfold vcE at hx
    by_cases c : r.length ≠ (m.getD 0 []).length ∨ (m.getD 0 []).length < 1 ∨ 8 < (m.getD 0 []).length
    · rw [if_pos c] at hx; cases hx
    rw [if_neg c] at hx
    refine ⟨by omega, fun z hz => ?_⟩
    by_cases c2 : r.any (outB 0 (p - 1)) = true
    · rw [if_pos c2] at hx; cases hx
    · have := List.any_eq_false.1 (by simpa using c2) z hz
      unfold outB at this
      have h2 : ¬ z < 0 ∧ ¬ p - 1 < z := by simpa using this
      omega

/-- Vectors's three boxes. -/
structure VcX (w : World) (n : Int) (v : Value) (W : World) : Prop where
  b0 : W.heap[w.heap.size]? = some (.cells #[.int .i64 n] 3 (0, 0))
  b1 : W.heap[w.heap.size + 1]? = some (.cells #[v] 22 (0, 0))
  b2 : W.heap[w.heap.size + 1 + 1]? = some (.cells #[.int .i64 0, .slice none 0 0] 28 (0, 0))
  bel : Below w.heap.size w W
  sz : w.heap.size + 3 ≤ W.heap.size

theorem VcX.next {w : World} {n : Int} {v : Value} {W W' : World} (h : VcX w n v W) (hb : Below W.heap.size W W') : VcX w n v W' := by
  have := h.sz
  exact ⟨(hb.block _ (by omega)).trans h.b0, (hb.block _ (by omega)).trans h.b1, (hb.block _ (by omega)).trans h.b2, h.bel.trans (hb.mono (by omega)), by have := hb.size; omega⟩

theorem VcX.start (w : World) (n : Int) (v : Value) : VcX w n v (((w.alloc (.cells #[.int .i64 n] 3)).alloc (.cells #[v] 22)).alloc (.cells #[.int .i64 0, .slice none 0 0] 28)) := by
  have s1 : (w.alloc (.cells #[.int .i64 n] 3)).heap.size = w.heap.size + 1 := by simp
  have s2 : ((w.alloc (.cells #[.int .i64 n] 3)).alloc (.cells #[v] 22)).heap.size = w.heap.size + 1 + 1 := by simp
  refine ⟨?_, ?_, ?_, ?_, by simp⟩
  · refine (Below.heap_alloc _ _ _ (by omega)).trans ((Below.heap_alloc _ _ _ (by omega)).trans (heap_alloc_new w _))
  · refine (Below.heap_alloc _ _ _ (by omega)).trans ?_
    rw [← s1]; exact heap_alloc_new _ _
  · rw [← s2]; exact heap_alloc_new _ _
  · exact (((Below.refl _ _).alloc (Nat.le_refl _) _).alloc (by omega) _).alloc (by omega) _

/-- The result's box, written. -/
theorem VcX.res {w : World} {n : Int} {v : Value} {W : World} (h : VcX w n v W) (x : Int) (u : Value) : Below w.heap.size w ((W.setCell ⟨w.heap.size + 1 + 1, 0, none⟩ (.int .i64 x)).setCell ⟨w.heap.size + 1 + 1, 1, none⟩ u) ∧ ((W.setCell ⟨w.heap.size + 1 + 1, 0, none⟩ (.int .i64 x)).setCell ⟨w.heap.size + 1 + 1, 1, none⟩ u).heap[w.heap.size + 1 + 1]? = some (.cells #[.int .i64 x, u] 28 (0, 0)) :=
  ⟨(h.bel.setCell (by show _ ≤ w.heap.size + 1 + 1; omega) _).setCell (by show _ ≤ w.heap.size + 1 + 1; omega) _, by simp [World.setCell, Array.getElem?_modify, h.b2]⟩


set_option maxRecDepth 100000 in
set_option maxHeartbeats 1600000 in
theorem vectors_any (B : Nat) (p : Int) (m : List (List Int)) (v : Value) (w : World) (hv : Mat B 26 3 w v m) (hB : B ≤ w.heap.size) (hl : m.length ≤ 1000000) (hT : TabB w) :
    Calls Tryd.prog 7 #[.int .i64 p, v] w fun e w' => ∃ u, e = .returned (.tuple #[.agg #[.int .i64 (vmN p m), u], .int .i64 (vmE p m)]) ∧ Sl 0 3 w' u (ints (vmB p m)) ∧ Below w.heap.size w w' := by
  obtain ⟨po, pc, hvv, hlc, hcm⟩ := mat_open hv
  subst hvv
  have HV : Hid (∀ W', Below w.heap.size w W' → Mat B 26 3 W' (.slice po m.length pc) m) := fun W' h => hv.below h (Nat.le_refl _)
  clear hv
  obtain ⟨W, hW⟩ : ∃ W, W = ((w.alloc (.cells #[.int .i64 p] 3)).alloc (.cells #[.slice po m.length pc] 22)).alloc (.cells #[.int .i64 0, .slice none 0 0] 28) := ⟨_, rfl⟩
  have HX : Hid (VcX w p (.slice po m.length pc) W) := by rw [hW]; exact VcX.start _ _ _
  obtain ⟨W1, hW1⟩ : ∃ W1, W1 = W.alloc (.cells #[.int .i64 2, .int .i64 3, .int .i64 5, .int .i64 7] 3) := ⟨_, rfl⟩
  have HX1 : Hid (VcX w p (.slice po m.length pc) W1) := by rw [hW1]; exact HX.out.next ((Below.refl _ _).alloc (Nat.le_refl _) _)
  have hWs : W.heap.size = w.heap.size + 3 := by rw [hW]; simp
  have HCN : Hid (Calls Tryd.prog 13 #[.slice (some ⟨w.heap.size + 1 + 1 + 1, 0, none⟩) 4 4, .int .i64 p] W1 fun e w' => e = .returned (.bool (([2, 3, 5, 7] : List Int).contains p)) ∧ w' = W1) := by
    refine containsV_any 0 p [2, 3, 5, 7] _ W1 ?_
    rw [hW1, show w.heap.size + 1 + 1 + 1 = W.heap.size by omega]
    refine ⟨some ⟨W.heap.size, 0, none⟩, 4, rfl, by simp [ints], by simp [maxLen], fun i hi => ⟨W.heap.size, 0, rfl, ?_, .inr ⟨_, heap_alloc_new W _⟩⟩, fun e => by cases e⟩
    rw [Nat.zero_add]
    simp only [World.cell?, heap_alloc_new]
    match i, hi with
    | 0, _ => rfl
    | 1, _ => rfl
    | 2, _ => rfl
    | 3, _ => rfl
  have HWW : Hid (W1 = (((w.alloc (.cells #[.int .i64 p] 3)).alloc (.cells #[.slice po m.length pc] 22)).alloc (.cells #[.int .i64 0, .slice none 0 0] 28)).alloc (.cells #[.int .i64 2, .int .i64 3, .int .i64 5, .int .i64 7] 3)) := by rw [hW1, hW]; rfl
  have g0 : ((((w.alloc (.cells #[.int .i64 p] 3)).alloc (.cells #[.slice po m.length pc] 22)).alloc (.cells #[.int .i64 0, .slice none 0 0] 28)).alloc (.cells #[.int .i64 2, .int .i64 3, .int .i64 5, .int .i64 7] 3)).cell? ⟨w.heap.size, 0, none⟩ = some (.int .i64 p) := by rw [← HWW.out]; simp [World.cell?, HX1.out.b0]
  clear hW hW1 hWs
  have HERR : Hid (∀ (W9 : World) (E : Int), Below w.heap.size w W9 → vmE p m = E → E ≠ 0 → (∃ u, Ending.returned (.tuple #[.agg #[.int .i64 0, .slice none 0 0], .int .i64 E]) = .returned (.tuple #[.agg #[.int .i64 (vmN p m), u], .int .i64 (vmE p m)]) ∧ Sl 0 3 W9 u (ints (vmB p m)) ∧ Below w.heap.size w W9)) := fun W9 E hb hE h0 => by
    refine ⟨.slice none 0 0, ?_, ?_, hb⟩
    · unfold vmN; rw [hE, if_neg h0]
    · unfold vmB; rw [hE, if_neg h0]; exact Sl.nil _ _ _
  have HBX : Hid (∀ W', VcX w p (.slice po m.length pc) W' → W'.cell? ⟨w.heap.size, 0, none⟩ = some (.int .i64 p) ∧ W'.cell? ⟨w.heap.size + 1, 0, none⟩ = some (.slice po m.length pc) ∧ W'.cell? ⟨w.heap.size + 1 + 1, 0, none⟩ = some (.int .i64 0) ∧ W'.cell? ⟨w.heap.size + 1 + 1, 1, none⟩ = some (.slice none 0 0) ∧ W'.frozen? ⟨w.heap.size + 1 + 1, 0, none⟩ = false ∧ W'.frozen? ⟨w.heap.size + 1 + 1, 1, none⟩ = false) := fun W' h =>
    ⟨by simp [World.cell?, h.b0], by simp [World.cell?, h.b1], by simp [World.cell?, h.b2], by simp [World.cell?, h.b2], by simp [World.frozen?, h.b2], by simp [World.frozen?, h.b2]⟩
  have HRES : Hid (∀ W' (x : Int) (u : Value), VcX w p (.slice po m.length pc) W' → ((W'.setCell ⟨w.heap.size + 1 + 1, 0, none⟩ (.int .i64 x)).setCell ⟨w.heap.size + 1 + 1, 1, none⟩ u).cell? ⟨w.heap.size + 1 + 1, 0, none⟩ = some (.int .i64 x) ∧ ((W'.setCell ⟨w.heap.size + 1 + 1, 0, none⟩ (.int .i64 x)).setCell ⟨w.heap.size + 1 + 1, 1, none⟩ u).cell? ⟨w.heap.size + 1 + 1, 1, none⟩ = some u) := fun W' x u h => by
    have h2 := (h.res x u).2
    exact ⟨by simp only [World.cell?, h2]; rfl, by simp only [World.cell?, h2]; rfl⟩
  obtain ⟨x0, x1, x2, x3, x4, x5⟩ := HBX.out W1 HX1.out
  cases hc : ([2, 3, 5, 7] : List Int).contains p with
  | false =>
    have HE : Hid (vmE p m = 10) := if_pos hc
    rw [hc] at HCN
    clear hc
    go_enter Tryd.func7, Tryd.ntmps7
    go_wp2_with fail
    rw [← HWW.out]
    refine HCN.out.mono ?_
    rintro e w' ⟨rfl, hw⟩
    obtain rfl := hw.symm
    clear hw
    go_wp2
    exact bodyPost_ret (v := .tuple #[.agg #[.int .i64 0, .slice none 0 0], .int .i64 10]) (by simp [results, Tryd.results7, go_sem, HRES.out _ _ _ HX1.out]) rfl (HERR.out _ _ (HX1.out.res _ _).1 HE.out (by decide))
  | true =>
    have hp := has4 hc
    rw [hc] at HCN
    by_cases h8 : 8 < m.length
    · have HE : Hid (vmE p m = 11) := by show _ = _; unfold vmE; rw [if_neg (by rw [hc]; simp), if_pos h8]
      have h8' : (8 : Int) < (m.length : Int) := by omega
      clear hc
      go_enter Tryd.func7, Tryd.ntmps7
      go_wp2_with fail
      rw [← HWW.out]
      refine HCN.out.mono ?_
      rintro e w' ⟨rfl, hw⟩
      obtain rfl := hw.symm
      clear hw
      go_wp2
      exact bodyPost_ret (v := .tuple #[.agg #[.int .i64 0, .slice none 0 0], .int .i64 11]) (by simp [results, Tryd.results7, go_sem, HRES.out _ _ _ HX1.out]) rfl (HERR.out _ _ (HX1.out.res _ _).1 HE.out (by decide))
    have HE : Hid (vmE p m = scV p (m.getD 0 []).length m) := by show _ = _; unfold vmE; rw [if_neg (by rw [hc]; simp), if_neg h8]
    have h8' : ¬ (8 : Int) < (m.length : Int) := by omega
    have hp0 : 0 ≤ p := by omega
    have hp7 : p ≤ 7 := by omega
    have HCC : Hid (∀ (r : List Int) (u : Value) (long : Nat) W', Sl B 3 W' u (ints r) → Calls Tryd.prog 14 #[.int .i64 p, u, .int .i64 long] W' fun e w' => e = .returned (.int .i64 (vcE p long r)) ∧ Below W'.heap.size W' w') := fun r u long W' h => checkColumn_any B p long r u W' h hp0 hp7
    clear hc hp
    go_enter Tryd.func7, Tryd.ntmps7
    go_wp2_with fail
    rw [← HWW.out]
    refine HCN.out.mono ?_
    rintro e w' ⟨rfl, hw⟩
    obtain rfl := hw.symm
    clear hw
    go_wp2
    clear g0 HWW HCN x0 x1 x2 x3 x4 x5
    go_loopw [7, 8, 21] (fun _ _ x wr => ∃ k : Nat, k ≤ m.length ∧ x = .int .i64 k ∧ (∀ q, q < k → vcE p (m.getD 0 []).length (m.getD q []) = 0) ∧ VcX w p (.slice po m.length pc) wr) (fun _ _ x _ => m.length - (intOf x).toNat)
    case atStart => exact ⟨0, Nat.zero_le _, rfl, fun q hq => by omega, HX1.out⟩
    case round =>
      obtain ⟨i, hi, rfl, hno, hx⟩ := hrel
      have HNO : Hid (∀ q, q < i → vcE p (m.getD 0 []).length (m.getD q []) = 0) := hno
      have HXR : Hid (VcX w p (.slice po m.length pc) wr) := hx
      clear hno hx HX HX1
      obtain ⟨x0, x1, x2, x3, x4, x5⟩ := HBX.out wr HXR.out
      by_cases hlt : i < m.length
      · obtain ⟨b, o, cp, ui, hs, _, hci, hsi⟩ := mat_cell (HV.out wr HXR.out.bel) hlt
        simp only [Value.slice.injEq] at hs
        obtain ⟨rfl, -, -⟩ := hs
        obtain ⟨b', o', cp', u0, hs', _, hc0, hs0⟩ := mat_cell (HV.out wr HXR.out.bel) (k := 0) (by omega)
        simp only [Value.slice.injEq, Option.some.injEq, Addr.mk.injEq, and_true] at hs'
        obtain ⟨⟨rfl, rfl⟩, -, -⟩ := hs'
        obtain ⟨uo, uc, huv, _, _⟩ := sl_open hsi
        obtain ⟨zo, zc, hzv, _, _⟩ := sl_open hs0
        have HHIT : Hid (vcE p (m.getD 0 []).length (m.getD i []) ≠ 0 → vmE p m = vcE p (m.getD 0 []).length (m.getD i [])) := fun h => by
          rw [HE.out]; exact scV_hit m i HNO.out hlt h
        have HNX : Hid (vcE p (m.getD 0 []).length (m.getD i []) = 0 → ∀ q, q < i + 1 → vcE p (m.getD 0 []).length (m.getD q []) = 0) := fun h q hq => by
          by_cases e : q = i
          · rw [e]; exact h
          · exact HNO.out q (by omega)
        have HCX : Hid (Calls Tryd.prog 14 #[.int .i64 p, ui, .int .i64 (m.getD 0 []).length] wr.drew fun e w' => e = .returned (.int .i64 (vcE p (m.getD 0 []).length (m.getD i []))) ∧ Below wr.drew.heap.size wr.drew w') := HCC.out (m.getD i []) ui _ wr.drew hsi
        generalize vcE p (m.getD 0 []).length (m.getD i []) = E at *
        subst huv hzv
        rw [Nat.add_zero] at hc0
        clear hsi hs0 HNO
        generalize (m.getD i []).length = rl at *
        generalize hr0 : (m.getD 0 []).length = r0l at *
        have HR0 : Hid ((m.getD 0 []).length = r0l) := hr0
        clear hr0
        have iI : (i : Int) < (m.length : Int) := by omega
        have iI0 : (0 : Int) ≤ (i : Int) := by omega
        have mI0 : (0 : Int) < (m.length : Int) := by omega
        have hmne : ¬ m = [] := fun e => by rw [e] at hlt; simp at hlt
        have HSS : Hid (∀ W', Below wr.heap.size wr W' → W'.cell? ⟨w.heap.size, 0, none⟩ = some (.int .i64 p) ∧ W'.cell? ⟨w.heap.size + 1, 0, none⟩ = some (.slice (some ⟨b, o, none⟩) m.length pc) ∧ W'.cell? ⟨b, o, none⟩ = some (.slice zo r0l zc)) := fun W' h => ⟨(h.cell (lt_of_cell x0)).trans x0, (h.cell (lt_of_cell x1)).trans x1, (h.cell (lt_of_cell hc0)).trans hc0⟩
        go_wp2
        refine wp_region_held_drew (S := fun w' => w'.cell? ⟨w.heap.size, 0, none⟩ = some (.int .i64 p) ∧ w'.cell? ⟨w.heap.size + 1, 0, none⟩ = some (.slice (some ⟨b, o, none⟩) m.length pc) ∧ w'.cell? ⟨b, o, none⟩ = some (.slice zo r0l zc)) (by kernel_rfl) ⟨x0, x1, hc0⟩ (fun hHeld => ?_)
        refine wpAnyH_tk (i := 0) (d := 25) (v := (.int .i64 p)) rfl rfl (by kernel_rfl) (by kernel_rfl) (by kernel_rfl) (fun _ _ _ h => h) (.inl ⟨by rfl, by (intro wq hSw; (try dsimp only at hSw); go_simp; (try (first | rfl | omega)))⟩) hHeld ?_
        simp only [Act.put, List.setIfInBounds_toArray, List.set_cons_zero, List.set_cons_succ]
        refine wpAnyH_tk (i := 1) (d := 26) (v := (.slice uo rl uc)) rfl rfl (by kernel_rfl) (by kernel_rfl) (by kernel_rfl) (fun _ _ _ h => h) (.inl ⟨by rfl, by (intro wq hSw; (try dsimp only at hSw); go_simp; (try (first | rfl | omega)))⟩) hHeld ?_
        simp only [Act.put, List.setIfInBounds_toArray, List.set_cons_zero, List.set_cons_succ]
        refine wpAnyH_tk (i := 2) (d := 27) (v := (.slice (some ⟨b, o, none⟩) m.length pc)) rfl rfl (by kernel_rfl) (by kernel_rfl) (by kernel_rfl) (fun _ _ _ h => h) (.inl ⟨by rfl, by (intro wq hSw; (try dsimp only at hSw); go_simp; (try (first | rfl | omega)))⟩) hHeld ?_
        simp only [Act.put, List.setIfInBounds_toArray, List.set_cons_zero, List.set_cons_succ]
        refine wpAnyH_tk (i := 3) (d := 28) (v := (.pointer (some ⟨b, o, none⟩))) rfl rfl (by kernel_rfl) (by kernel_rfl) (by kernel_rfl) (fun _ _ _ h => h) (.inl ⟨by rfl, by (intro wq hSw; (try dsimp only at hSw); go_simp; (try (first | rfl | omega)))⟩) hHeld ?_
        simp only [Act.put, List.setIfInBounds_toArray, List.set_cons_zero, List.set_cons_succ]
        refine wpAnyH_tk (i := 4) (d := 29) (v := (.slice zo r0l zc)) rfl rfl (by kernel_rfl) (by kernel_rfl) (by kernel_rfl) (fun _ _ _ h => h) (.inl ⟨by rfl, by (intro wq hSw; (try dsimp only at hSw); go_simp; (try (first | rfl | omega)))⟩) hHeld ?_
        simp only [Act.put, List.setIfInBounds_toArray, List.set_cons_zero, List.set_cons_succ]
        refine wpAnyH_tk (i := 5) (d := 30) (v := (.int .i64 r0l)) rfl rfl (by kernel_rfl) (by kernel_rfl) (by kernel_rfl) (fun _ _ _ h => h) (.inl ⟨by rfl, by (intro wq hSw; (try dsimp only at hSw); go_simp; (try (first | rfl | omega)))⟩) hHeld ?_
        simp only [Act.put, List.setIfInBounds_toArray, List.set_cons_zero, List.set_cons_succ]
        refine wpAnyH_ready (rs := [6]) (by kernel_rfl) (by simp) ?_
        refine ready_tk (i := 6) rfl (by rfl) (fun K hK => ?_) AllReadyH.nil
        go_simp
        refine HCX.out.mono ?_
        rintro e w3 ⟨rfl, hb3⟩
        have HB3 : Hid (Below wr.heap.size wr w3) := (Below.drew (Below.refl wr.heap.size wr)).trans hb3
        clear hb3
        refine hK.out _ _ (HSS.out w3 HB3.out) (fun hHeld => ?_)
        clear hK K
        refine wpAnyH_tk (i := 7) (d := 8) (v := (.int .i64 E)) rfl rfl (by kernel_rfl) (by kernel_rfl) (by kernel_rfl) (fun _ _ _ h => h) (.inl ⟨by rfl, by (intro wq hSw; (try dsimp only at hSw); go_simp; (try (first | rfl | omega)))⟩) hHeld ?_
        simp only [Act.put, List.setIfInBounds_toArray, List.set_cons_zero, List.set_cons_succ]
        refine wpAnyH_done (by kernel_rfl) ?_ _
        clear hHeld
        have HX3 : Hid (VcX w p (.slice (some ⟨b, o, none⟩) m.length pc) w3) := HXR.out.next HB3.out
        clear x0 x1 x2 x3 x4 x5 hci hc0
        obtain ⟨x0, x1, x2, x3, x4, x5⟩ := HBX.out w3 HX3.out
        by_cases h0 : E = 0
        · have HF : Hid (∀ q, q < i + 1 → vcE p r0l (m.getD q []) = 0) := HNX.out h0
          subst h0
          go_wp2
          exact ⟨⟨i + 1, by omega, by go_num, HF.out, HX3.out⟩, by simp [intOf]; omega⟩
        · have HF : Hid (vmE p m = E) := HHIT.out h0
          have HN0 : Hid (E ≠ 0) := h0
          have hb : (E != 0) = true := by simp [h0]
          clear h0
          go_wp2
          exact bodyPost_ret (v := .tuple #[.agg #[.int .i64 0, .slice none 0 0], .int .i64 E]) (by simp [results, Tryd.results7, go_sem, HRES.out _ _ _ HX3.out]) rfl (HERR.out _ _ (HX3.out.res _ _).1 HF.out HN0.out)
      · have HF : Hid (vmE p m = 0) := by
          show _ = _
          rw [HE.out]
          exact scV_none m fun q hq => HNO.out q (by omega)
        obtain ⟨q, hq, hq4, hm8, hd, hrp⟩ := vmE_good HF.out
        subst hq
        have HMK : Hid (Calls Tryd.prog 19 #[.int .i64 m.length, .func (.func 15) #[] #[.pointer (some ⟨w.heap.size, 0, none⟩), .pointer (some ⟨w.heap.size + 1, 0, none⟩)]] wr fun e w' => ∃ u, e = .returned (.agg #[.int .i64 m.length, u]) ∧ Sl 0 3 w' u (ints (vmB q m)) ∧ Below wr.heap.size wr w') := by
          have e2 : vmB q m = greL (setsTo (fvE q (m.getD 0 []).length m) (2 ^ m.length)) := if_pos HF.out
          rw [e2]
          by_cases hmn : m = []
          · subst hmn
            exact madeV_any 0 _ w.heap.size (w.heap.size + 1) wr (by omega) fun s hs W' hb => by
              have hX := HXR.out.next hb
              have h0 : fvE (q : Int) ([] : List (List Int)).length [] s = fvE q 1 [] s := by
                have : s = 0 := by simpa using hs
                subst this
                unfold fvE
                rw [dpB_false.2 (by exact dpn_nil), dpB_false.2 (by exact dpn_nil)]
              exact (vectors1_any B q 1 s hq4 (by omega) (by omega) [] _ w.heap.size (w.heap.size + 1) W' (HV.out W' hX.bel) (Nat.le_trans hB hX.bel.size) (fun r hr => by simp at hr) hs (by simp) (hT.below hX.bel) (by simp [World.cell?, hX.b0]) (by simp [World.cell?, hX.b1])).mono fun e w' h => by
                rw [← h0] at h
                exact h
          · obtain ⟨hd1, hd8⟩ := hd hmn
            exact madeV_any m.length _ w.heap.size (w.heap.size + 1) wr hm8 fun s hs W' hb => by
              have hX := HXR.out.next hb
              exact vectors1_any B q (m.getD 0 []).length s hq4 hd1 hd8 m _ w.heap.size (w.heap.size + 1) W' (HV.out W' hX.bel) (Nat.le_trans hB hX.bel.size) hrp hs hm8 (hT.below hX.bel) (by simp [World.cell?, hX.b0]) (by simp [World.cell?, hX.b1])
        have HGN : Hid (vmN q m = m.length) := by show _ = _; unfold vmN; rw [HF.out, if_pos rfl]
        generalize hys : vmB q m = ys at *
        have HYS : Hid (vmB q m = ys) := hys
        clear hys hd hrp
        have kI : ¬ (i : Int) < (m.length : Int) := by omega
        go_wp2_with fail
        refine HMK.out.mono ?_
        rintro e w3 ⟨u, rfl, hu, hb3⟩
        have HX3 : Hid (VcX w q (.slice po m.length pc) w3) := HXR.out.next hb3
        obtain ⟨uo, uc, huu, _, _⟩ := sl_open hu
        subst huu
        clear x0 x1 x2 x3 x4 x5
        obtain ⟨x0, x1, x2, x3, x4, x5⟩ := HBX.out w3 HX3.out
        have HSX : Hid (Sl 0 3 ((w3.setCell ⟨w.heap.size + 1 + 1, 0, none⟩ (.int .i64 m.length)).setCell ⟨w.heap.size + 1 + 1, 1, none⟩ (.slice uo ys.length uc)) (.slice uo ys.length uc) (ints ys)) := by
          refine Sl.move hu fun b hl ht => ?_
          have hne : b ≠ w.heap.size + 1 + 1 := fun e => by
            rcases ht with ht | ⟨cur, ht⟩
            · omega
            · rw [e, HX3.out.b2] at ht
              cases ht
          exact ⟨(Below.heap_setCell _ _ _ _ hne).trans (Below.heap_setCell _ _ _ _ hne), ht⟩
        obtain ⟨r1, r2⟩ := HX3.out.res m.length (.slice uo ys.length uc)
        have HR1 : Hid (Below w.heap.size w ((w3.setCell ⟨w.heap.size + 1 + 1, 0, none⟩ (.int .i64 m.length)).setCell ⟨w.heap.size + 1 + 1, 1, none⟩ (.slice uo ys.length uc))) := r1
        clear hu r1 r2 hb3
        go_wp2
        exact bodyPost_ret (v := .tuple #[.agg #[.int .i64 m.length, .slice uo ys.length uc], .int .i64 0]) (by simp [results, Tryd.results7, go_sem, HRES.out _ _ _ HX3.out]) rfl ⟨.slice uo ys.length uc, by rw [HGN.out, HF.out], by rw [HYS.out]; exact HSX.out, HR1.out⟩

end Go.Proofs.YtomhhonigffilaaDoor
