import Derived.Test.YtbmncbbibipoaaaGreatCtB
import Derived.Test.YtbmncbbibipoaaaGreatHm20
import Derived.Test.YtbmncbbibipoaaaGreatHm4
/- The document's answer: places of a polytope, what may be counted. -/
namespace Go.Proofs.YtbmncbbibipoaaaGreat
open Go.RowKit
attribute [local go_sem ↓] Go.wp_at_zero Go.wp_at_succ

theorem dotL_bd {a x : List Int} {A X : Nat} (ha : ∀ z ∈ a, z.natAbs ≤ A) (hx : ∀ z ∈ x, z.natAbs ≤ X) : (dotL a x).natAbs ≤ a.length * (A * X) := by
  have key : ∀ n, n ≤ a.length → (Lin.sumN n fun i => a.getD i 0 * x.getD i 0).natAbs ≤ n * (A * X) := by
    intro n
    induction n with
    | zero => intro _; simp [Lin.sumN]
    | succ n ih =>
      intro hn
      have h1 := ih (by omega)
      have h2 : (a.getD n 0 * x.getD n 0).natAbs ≤ A * X := by
        rw [Int.natAbs_mul]
        refine Nat.mul_le_mul (ha _ (getD_mem (by omega))) ?_
        by_cases hxn : n < x.length
        · exact hx _ (getD_mem hxn)
        · rw [show x.getD n 0 = 0 by simp only [List.getD_eq_getElem?_getD]; rw [List.getElem?_eq_none (by omega)]; rfl]; simp
      show (Lin.sumN n (fun i => a.getD i 0 * x.getD i 0) + a.getD n 0 * x.getD n 0).natAbs ≤ (n + 1) * (A * X)
      have e : (n + 1) * (A * X) = n * (A * X) + A * X := by rw [Nat.succ_mul]
      rw [e]
      generalize n * (A * X) = p at *
      generalize A * X = q at *
      omega
  exact key a.length (Nat.le_refl _)

/-- The last number of a row of small points. -/
theorem rowsD_end {d : Nat} {P : List (List Int)} (hP : Box d 6 P) (h1 : 1 ≤ d) (h4 : d ≤ 4) {r : List Int} (hr : r ∈ rowsD P d) : (r.getD d 0).natAbs ≤ 1000000 := by
  unfold rowsD at hr
  obtain ⟨c, hc, hr⟩ := List.mem_flatMap.1 hr
  have hl := chosen_row d P.length c hc
  have htl : (pks P [] c).length = d := by rw [← hl]; simp [pks]
  have htm : ∀ x ∈ pks P [] c, x ∈ P := pks_in fun q hq => by
    obtain ⟨i, hi, rfl⟩ := List.mem_iff_getElem.1 hq
    have := (chosen_mem d P.length c hc).1 i (by omega)
    simpa [hi] using this
  obtain ⟨σ, hσ, hnb, hre⟩ := rowT_form htl (Option.mem_toList.1 hr)
  have hal := norm_len hnb
  have hbd := norm_12 (diff_mx12 (fun x hx => hP x (htm x hx)) h1 (by omega)) h4
  have h0 : (pks P [] c).getD 0 [] ∈ P := htm _ (by simp [show 0 < (pks P [] c).length by omega])
  have hd := dotL_bd (X := 6) hbd (x := (pks P [] c).getD 0 []) (fun z hz => by have := (hP _ h0).2 z hz; omega)
  have e : r.getD d 0 = σ * dotL (normL d (diffL (pks P [] c))) ((pks P [] c).getD 0 []) := by
    rw [hre]
    have := V_map (normL d (diffL (pks P [] c)) ++ [dotL (normL d (diffL (pks P [] c))) ((pks P [] c).getD 0 [])]) σ d
    simp only [V] at this
    rw [this, (row_app hal).2.2.1]
  rw [hal] at hd
  rw [e, Int.natAbs_mul]
  have h5 : d * (10368 * 6) ≤ 4 * (10368 * 6) := Nat.mul_le_mul_right _ h4
  generalize dotL (normL d (diffL (pks P [] c))) ((pks P [] c).getD 0 []) = q at *
  rcases hσ with rfl | rfl <;> simp <;> omega

theorem rowsD_bd {d : Nat} {P : List (List Int)} (hP : Box d 6 P) (h1 : 1 ≤ d) (h4 : d ≤ 4) {r : List Int} (hr : r ∈ rowsD P d) {i : Nat} (hi : i < d) : (r.getD i 0).natAbs ≤ 10368 := by
  have h := rowsD_12 hP h1 h4 hr
  have hl := (rowsD_facts (box_up hP) h1 (by omega) r hr).len
  refine h _ ?_
  have e : r.getD i 0 = (r.take d).getD i 0 := by simp only [List.getD_eq_getElem?_getD]; rw [List.getElem?_take_of_lt hi]
  rw [e]
  exact getD_mem (by rw [List.length_take]; omega)

/-- What is held, of a polytope of small numbers. -/
theorem pfd_of {d k : Nat} {P s : List (List Int)} (hg : Good d P) (hP : Box d 6 P) (h16 : P.length ≤ 16) (hk : k ≤ 10) (hs : SAsc s) (hm : ∀ r, r ∈ s ↔ r ∈ rowsD P d) : Pfd d k P s := by
  have h1 := hg.d1
  have h4 := hg.d4
  have hn := hg.n2
  have hT := fun i (hi : i < d) => T_bd hP (by omega) hi P.length (Nat.le_refl _)
  refine ⟨h1, h4, by omega, by omega, fun x hx => (hP x hx).1, fun r hr => (rowsD_facts (box_up hP) h1 (by omega) r ((hm r).1 hr)).len, fun r hr => (rowsD_facts (box_up hP) h1 (by omega) r ((hm r).1 hr)).bd, fun r hr => Nat.le_trans (rowsD_end hP h1 h4 ((hm r).1 hr)) (by decide), fun i hi => ?_, fun i hi => ?_, hk, Nat.le_trans (rowsD_len h4 h16 hs hm) (by decide)⟩
  · have := hT i hi
    rw [Int.natAbs_mul]
    exact Nat.le_trans (Nat.mul_le_mul (show (loT P i P.length).natAbs ≤ 6 by omega) (show (k : Int).natAbs ≤ 10 by omega)) (by decide)
  · have := hT i hi
    rw [Int.natAbs_mul]
    exact Nat.le_trans (Nat.mul_le_mul (show (hiT P i P.length).natAbs ≤ 6 by omega) (show (k : Int).natAbs ≤ 10 by omega)) (by decide)

theorem fld_of {d k : Nat} {P s : List (List Int)} (hg : Good d P) (hP : Box d 6 P) (h16 : P.length ≤ 16) (hk : k ≤ 10) (hs : SAsc s) (hm : ∀ r, r ∈ s ↔ r ∈ rowsD P d) : Fld d s (loL P d) (hiL P d) k := by
  have h1 := hg.d1
  have h4 := hg.d4
  have hn := hg.n2
  have hT := fun i (hi : i < d) => T_bd hP (by omega) hi P.length (Nat.le_refl _)
  refine ⟨fun r hr => (rowsD_facts (box_up hP) h1 (by omega) r ((hm r).1 hr)).len, fun r hr i hi => Nat.le_trans (rowsD_bd hP h1 h4 ((hm r).1 hr) hi) (by decide), by simp [loL], by simp [hiL], fun i hi => ?_, fun i hi => ?_, hk, Nat.le_trans (rowsD_len h4 h16 hs hm) (by decide)⟩
  · have := hT i hi
    rw [loL_get hi]
    omega
  · have := hT i hi
    rw [hiL_get hi]
    omega

/-- Boxes of small polytopes are small. -/
theorem bx_le {d k : Nat} {P : List (List Int)} (hP : Box d 3 P) (h1 : 1 ≤ P.length) (hk : k ≤ 4) : ∀ i, i ≤ d → 1 ≤ bx k (loL P d) (hiL P d) i ∧ bx k (loL P d) (hiL P d) i ≤ 25 ^ i
  | 0, _ => by simp [bx]
  | i + 1, hi => by
    have ih := bx_le hP h1 hk i (by omega)
    have hT := T_bd hP h1 (c := i) (by omega) P.length (Nat.le_refl _)
    have e : bx k (loL P d) (hiL P d) (i + 1) = bx k (loL P d) (hiL P d) i * ((k : Int) * (hiT P i P.length - loT P i P.length) + 1) := by
      show bx k (loL P d) (hiL P d) i * ((k : Int) * ((hiL P d).getD i 0 - (loL P d).getD i 0) + 1) = _
      rw [loL_get (by omega), hiL_get (by omega)]
    rw [e, Int.pow_succ]
    have hf0 : 0 ≤ (k : Int) * (hiT P i P.length - loT P i P.length) := Int.mul_nonneg (by omega) (by omega)
    have hf1 : (k : Int) * (hiT P i P.length - loT P i P.length) ≤ 4 * 6 := Int.mul_le_mul (by omega) (by omega) (by omega) (by omega)
    generalize (k : Int) * (hiT P i P.length - loT P i P.length) = f at *
    generalize bx k (loL P d) (hiL P d) i = q at *
    constructor
    · have := Int.mul_le_mul ih.1 (show (1 : Int) ≤ f + 1 by omega) (by omega) (by omega)
      omega
    · exact Int.mul_le_mul ih.2 (by omega) (by omega) (Int.pow_nonneg (by decide))

theorem bx_le3 {d k : Nat} {P : List (List Int)} (hP : Box d 3 P) (h1 : 1 ≤ P.length) (hk : k ≤ 4) (hd : d ≤ 3) (i : Nat) (hi : i ≤ d) : 1 ≤ bx k (loL P d) (hiL P d) i ∧ bx k (loL P d) (hiL P d) i ≤ 15625 := by
  have h := bx_le hP h1 hk i hi
  refine ⟨h.1, Int.le_trans h.2 ?_⟩
  have : i = 0 ∨ i = 1 ∨ i = 2 ∨ i = 3 := by omega
  rcases this with rfl | rfl | rfl | rfl <;> decide

set_option maxRecDepth 100000 in
theorem placesAll_any (d k : Nat) (P s : List (List Int)) (v : Value) (w : World) (hv : Mat w.heap.size 22 3 w v P) (hg : Good d P) (hP : Box d 6 P) (h16 : P.length ≤ 16) (hk : k ≤ 10) (hs : SAsc s) (hm : ∀ r, r ∈ s ↔ r ∈ rowsD P d) :
    Calls Tryz.prog 10 #[v, .int .i64 k] w fun e w' => e = .returned (.tuple #[.int .i64 (plA k d P s d []), .int .i64 (plI k d P s d [])]) ∧ Below w.heap.size w w' := by
  have HRO : Hid (Calls Tryz.prog 24 #[v] w fun e w' => ∃ x, e = .returned x ∧ (Mat w'.heap.size 22 3 w' x s ∧ Below w.heap.size w w')) := by
    refine (rowsOf_any w.heap.size d P v w hv hg.d1 hg.d4 (by have := hg.n2; omega) h16 (box_up hP)).mono ?_
    rintro e w' ⟨x, s', rfl, h1, h2, h3, h4⟩
    have e1 : s' = s := sasc_ext s' s h2 hs fun r => by rw [h3 r, hm r]
    subst e1
    exact ⟨x, rfl, h1.rws.mat h4.size, h4⟩
  have HPL : Hid (∀ x W, Below w.heap.size w W → Mat W.heap.size 22 3 W x s → Calls Tryz.prog 23 #[x, v, .int .i64 k, .slice none 0 0] W fun e w' => e = .returned (.tuple #[.int .i64 (plA k d P s d []), .int .i64 (plI k d P s d [])]) ∧ Below W.heap.size W w') := fun x W hW hx =>
    placesD_any d k P s v x (pfd_of hg hP h16 hk hs hm) d [] (by simp) (.slice none 0 0) W hx ((hv.below hW (Nat.le_refl _)).any (Nat.le_refl _)) (Sl.nil _ _ _) (fun z hz => by simp at hz)
  generalize plA k d P s d [] = pa at *
  generalize plI k d P s d [] = pi at *
  clear hv
  go_enter Tryz.func10, Tryz.ntmps10
  go_wp2_with fail
  refine HRO.out.mono ?_
  rintro e w1 ⟨x, rfl, hx⟩
  have HX : Hid (Mat w1.heap.size 22 3 w1 x s ∧ Below w.heap.size w w1) := hx
  clear hx HRO
  go_wp2_with fail
  refine (HPL.out x w1 HX.out.2 HX.out.1).mono ?_
  rintro e w2 ⟨rfl, hb⟩
  have HB : Hid (Below w.heap.size w w2) := HX.out.2.trans (hb.mono HX.out.2.size)
  clear hb
  go_wp2
  go_ret2
  exact ⟨rfl, HB.out⟩

end Go.Proofs.YtbmncbbibipoaaaGreat

/- The document's answer: what may be counted; the law's own look; the first counts. -/
namespace Go.Proofs.YtbmncbbibipoaaaGreat
open Go.RowKit
attribute [local go_sem ↓] Go.wp_at_zero Go.wp_at_succ

/-- What is held of a polytope of small numbers, at a place of memory. -/
structure Sml (d : Nat) (P : List (List Int)) : Prop where
  good : Good d P
  box : Box d 3 P
  d3 : d ≤ 3
  n16 : P.length ≤ 16

theorem Sml.box6 {d : Nat} {P : List (List Int)} (h : Sml d P) : Box d 6 P := fun r hr => ⟨(h.box r hr).1, fun z hz => by have := (h.box r hr).2 z hz; omega⟩

theorem boxS_any {d k : Nat} {P : List (List Int)} (h : Sml d P) (hk : k ≤ 4) (B : Nat) (v : Value) (w : World) (hv : Mat B 22 3 w v P) :
    Calls Tryz.prog 22 #[v, .int .i64 k] w fun e w' => e = .returned (.int .i64 (bx k (loL P d) (hiL P d) d)) ∧ w' = w := by
  have hn := h.good.n2
  refine boxD_any B d k P v w hv (by omega) (by have := h.n16; omega) (fun x hx => (h.box x hx).1) (by have := h.d3; omega) (by omega) (fun i hi => ?_) (fun i hi => ?_)
  · have := T_bd h.box (by omega) hi P.length (Nat.le_refl _)
    omega
  · have := bx_le3 h.box (by omega) hk h.d3 i hi
    omega

set_option maxRecDepth 100000 in
set_option maxHeartbeats 800000 in
theorem countMay_any (d k least : Nat) (P : List (List Int)) (v : Value) (w : World) (hv : Mat w.heap.size 22 3 w v P) (h : Sml d P) (hk : k ≤ 4) :
    Calls Tryz.prog 9 #[.agg #[.int .i64 d, v], .int .i64 k, .int .i64 least] w fun e w' => e = .returned (.int .i64 (if k < least then 9 else 0)) ∧ Below w.heap.size w w' := by
  have hn := h.good.n2
  obtain ⟨b, o, cap, r1, hvv, hlc, _, _⟩ := mat_cell hv (k := 0) (by omega)
  obtain ⟨vl, hvl⟩ : ∃ vl, vl = P.length := ⟨_, rfl⟩
  rw [← hvl] at hvv
  clear hvl
  subst hvv
  obtain ⟨W, hW⟩ : ∃ W, W = w.alloc (.cells #[.int .i64 d, .slice (some ⟨b, o, none⟩) vl cap] 27) := ⟨_, rfl⟩
  have hbw : Below w.heap.size w W := by rw [hW]; exact (Below.refl _ _).alloc (Nat.le_refl _) _
  have HW : Hid (Below w.heap.size w W) := hbw
  have hsW : W.heap.size = w.heap.size + 1 := by rw [hW]; simp
  have HSW : Hid (w.heap.size ≤ W.heap.size) := by show _ ≤ _; omega
  have c1 : W.cell? ⟨w.heap.size, 1, none⟩ = some (.slice (some ⟨b, o, none⟩) vl cap) := by rw [hW]; simp
  have HMA : Hid (Calls Tryz.prog 14 #[.agg #[.int .i64 d, .slice (some ⟨b, o, none⟩) vl cap]] W fun e w' => e = .returned (.int .i64 0) ∧ (Below w.heap.size w w' ∧ w'.cell? ⟨w.heap.size, 1, none⟩ = some (.slice (some ⟨b, o, none⟩) vl cap))) :=
    (hullMay_ok d P _ W ((hv.below hbw (Nat.le_refl _)).any (Nat.le_refl _)) h.good).mono fun e w' ⟨e1, e2⟩ => ⟨e1, hbw.trans (e2.mono (by omega)), (e2.cell (lt_of_cell c1)).trans c1⟩
  have HBX : Hid (∀ W', Below w.heap.size w W' → Calls Tryz.prog 22 #[.slice (some ⟨b, o, none⟩) vl cap, .int .i64 k] W' fun e w' => e = .returned (.int .i64 (bx k (loL P d) (hiL P d) d)) ∧ w' = W') := fun W' hW' => boxS_any h hk w.heap.size _ W' (hv.below hW' (Nat.le_refl _))
  have hbb := bx_le3 h.box (by omega) hk h.d3 d (Nat.le_refl _)
  generalize bx k (loL P d) (hiL P d) d = bb at *
  have hb1 : ¬ (200000 : Int) < bb := by omega
  have hk6 : ¬ (6 : Int) < (k : Int) := by omega
  clear hv hbw hsW c1 hbb
  by_cases hkl : k < least
  · have t1 : (k : Int) < (least : Int) := by omega
    rw [if_pos hkl]
    go_enter Tryz.func9, Tryz.ntmps9
    go_wp2_with fail
    rw [← hW]
    clear hW
    refine HMA.out.mono ?_
    rintro e w1 ⟨rfl, hb1'⟩
    have HB1 : Hid (Below w.heap.size w w1) := hb1'.1
    clear hb1'
    go_wp2
    go_ret
    exact ⟨rfl, HB1.out⟩
  · have t1 : ¬ (k : Int) < (least : Int) := by omega
    rw [if_neg hkl]
    go_enter Tryz.func9, Tryz.ntmps9
    go_wp2_with fail
    rw [← hW]
    clear hW
    refine HMA.out.mono ?_
    rintro e w1 ⟨rfl, hb1'⟩
    have HB1 : Hid (Below w.heap.size w w1) := hb1'.1
    have c2 := hb1'.2
    clear hb1'
    go_wp2_with fail
    refine (HBX.out w1 HB1.out).mono ?_
    rintro e w2 ⟨rfl, rfl⟩
    go_wp2
    go_ret
    exact ⟨rfl, HB1.out⟩

set_option maxRecDepth 100000 in
set_option maxHeartbeats 800000 in
theorem few_any (d k : Nat) (P : List (List Int)) (v : Value) (w : World) (hv : Mat w.heap.size 22 3 w v P) (h : Sml d P) (hk : k ≤ 4) :
    Calls Tryz.prog 8 #[.agg #[.int .i64 d, v], .int .i64 k] w fun e w' => ∃ q, e = .returned (.bool q) ∧ Below w.heap.size w w' := by
  have hn := h.good.n2
  obtain ⟨b, o, cap, r1, hvv, hlc, _, _⟩ := mat_cell hv (k := 0) (by omega)
  obtain ⟨vl, hvl⟩ : ∃ vl, vl = P.length := ⟨_, rfl⟩
  rw [← hvl] at hvv
  clear hvl
  subst hvv
  obtain ⟨W, hW⟩ : ∃ W, W = w.alloc (.cells #[.int .i64 d, .slice (some ⟨b, o, none⟩) vl cap] 27) := ⟨_, rfl⟩
  have hbw : Below w.heap.size w W := by rw [hW]; exact (Below.refl _ _).alloc (Nat.le_refl _) _
  have HW : Hid (Below w.heap.size w W) := hbw
  have hsW : W.heap.size = w.heap.size + 1 := by rw [hW]; simp
  have c1 : W.cell? ⟨w.heap.size, 1, none⟩ = some (.slice (some ⟨b, o, none⟩) vl cap) := by rw [hW]; simp
  have HMA : Hid (Calls Tryz.prog 14 #[.agg #[.int .i64 d, .slice (some ⟨b, o, none⟩) vl cap]] W fun e w' => e = .returned (.int .i64 0) ∧ (Below w.heap.size w w' ∧ w'.cell? ⟨w.heap.size, 1, none⟩ = some (.slice (some ⟨b, o, none⟩) vl cap))) :=
    (hullMay_ok d P _ W ((hv.below hbw (Nat.le_refl _)).any (Nat.le_refl _)) h.good).mono fun e w' ⟨e1, e2⟩ => ⟨e1, hbw.trans (e2.mono (by omega)), (e2.cell (lt_of_cell c1)).trans c1⟩
  have HBX : Hid (∀ W', Below w.heap.size w W' → Calls Tryz.prog 22 #[.slice (some ⟨b, o, none⟩) vl cap, .int .i64 k] W' fun e w' => e = .returned (.int .i64 (bx k (loL P d) (hiL P d) d)) ∧ w' = W') := fun W' hW' => boxS_any h hk w.heap.size _ W' (hv.below hW' (Nat.le_refl _))
  generalize bx k (loL P d) (hiL P d) d = bb at *
  have hk6 : ¬ (6 : Int) < (k : Int) := by omega
  clear hv hbw hsW c1
  by_cases hk0 : (k : Int) ≤ 0
  · go_enter Tryz.func8, Tryz.ntmps8
    go_wp2
    rw [← hW]
    clear hW
    go_ret
    refine ⟨?_, HW.out⟩
    first | exact Or.inr rfl | exact Or.inl rfl | exact ⟨_, rfl⟩
  · by_cases hb3 : bb ≤ 3000
    · go_enter Tryz.func8, Tryz.ntmps8
      go_wp2_with fail
      rw [← hW]
      clear hW
      refine HMA.out.mono ?_
      rintro e w1 ⟨rfl, hb1'⟩
      have HB1 : Hid (Below w.heap.size w w1) := hb1'.1
      have c2 := hb1'.2
      clear hb1'
      go_wp2_with fail
      refine (HBX.out w1 HB1.out).mono ?_
      rintro e w2 ⟨rfl, rfl⟩
      go_wp2
      go_ret
      exact ⟨_, rfl, HB1.out⟩
    · go_enter Tryz.func8, Tryz.ntmps8
      go_wp2_with fail
      rw [← hW]
      clear hW
      refine HMA.out.mono ?_
      rintro e w1 ⟨rfl, hb1'⟩
      have HB1 : Hid (Below w.heap.size w w1) := hb1'.1
      have c2 := hb1'.2
      clear hb1'
      go_wp2_with fail
      refine (HBX.out w1 HB1.out).mono ?_
      rintro e w2 ⟨rfl, rfl⟩
      go_wp2_with fail
      refine (HBX.out w2 HB1.out).mono ?_
      rintro e w3 ⟨rfl, rfl⟩
      go_wp2
      go_ret
      exact ⟨_, rfl, HB1.out⟩

end Go.Proofs.YtbmncbbibipoaaaGreat

/- The document's answer: the first counts. -/
namespace Go.Proofs.YtbmncbbibipoaaaGreat
open Go.RowKit
attribute [local go_sem ↓] Go.wp_at_zero Go.wp_at_succ

/-- The counts of 0, 1, .. times the polytope. -/
def fsL (d : Nat) (P s : List (List Int)) (n : Nat) : List Int := (List.range n).map fun k => plA k d P s d []

theorem fsL_succ (d : Nat) (P s : List (List Int)) (n : Nat) : fsL d P s (n + 1) = fsL d P s n ++ [plA n d P s d []] := by
  unfold fsL
  rw [List.range_succ, List.map_append]
  rfl

theorem fsL_len (d : Nat) (P s : List (List Int)) (n : Nat) : (fsL d P s n).length = n := by simp [fsL]

set_option maxRecDepth 100000 in
set_option maxHeartbeats 800000 in
theorem firsts_any (d : Nat) (P s : List (List Int)) (v : Value) (w : World) (hv : Mat w.heap.size 22 3 w v P) (h : Sml d P) (hs : SAsc s) (hm : ∀ r, r ∈ s ↔ r ∈ rowsD P d) :
    Calls Tryz.prog 15 #[.agg #[.int .i64 d, v]] w fun e w' => ∃ u, e = .returned (.tuple #[u, .int .i64 0]) ∧ Sl w'.heap.size 3 w' u (ints (fsL d P s (d + 1))) ∧ Below w.heap.size w w' := by
  have hn := h.good.n2
  have hd3 := h.d3
  obtain ⟨i3, hi3, hz30, hz31, hz32⟩ := info_parts Tryz.info3
  obtain ⟨b, o, cap, r1, hvv, hlc, _, _⟩ := mat_cell hv (k := 0) (by omega)
  obtain ⟨vl, hvl⟩ : ∃ vl, vl = P.length := ⟨_, rfl⟩
  rw [← hvl] at hvv
  clear hvl
  subst hvv
  obtain ⟨W, hW⟩ : ∃ W, W = w.alloc (.cells #[.int .i64 d, .slice (some ⟨b, o, none⟩) vl cap] 27) := ⟨_, rfl⟩
  have hbw : Below w.heap.size w W := by rw [hW]; exact (Below.refl _ _).alloc (Nat.le_refl _) _
  have HW : Hid (Below w.heap.size w W) := hbw
  have hsW : W.heap.size = w.heap.size + 1 := by rw [hW]; simp
  have HSW : Hid (w.heap.size ≤ W.heap.size) := by show _ ≤ _; omega
  have c0 : W.cell? ⟨w.heap.size, 0, none⟩ = some (.int .i64 d) := by rw [hW]; simp
  have c1 : W.cell? ⟨w.heap.size, 1, none⟩ = some (.slice (some ⟨b, o, none⟩) vl cap) := by rw [hW]; simp
  have HKC : Hid (∀ W', Below W.heap.size W W' → W'.cell? ⟨w.heap.size, 0, none⟩ = some (.int .i64 d) ∧ W'.cell? ⟨w.heap.size, 1, none⟩ = some (.slice (some ⟨b, o, none⟩) vl cap)) := fun W' h => ⟨(h.cell (lt_of_cell c0)).trans c0, (h.cell (lt_of_cell c1)).trans c1⟩
  have hvW : Mat W.heap.size 22 3 W (.slice (some ⟨b, o, none⟩) vl cap) P := (hv.below hbw (Nat.le_refl _)).any (Nat.le_refl _)
  have HMA : Hid (∀ W' (k : Nat), k ≤ 4 → Below W.heap.size W W' → Calls Tryz.prog 9 #[.agg #[.int .i64 d, .slice (some ⟨b, o, none⟩) vl cap], .int .i64 k, .int .i64 0] W' fun e w' => e = .returned (.int .i64 0) ∧ Below W'.heap.size W' w') := fun W' k hk hb =>
    (countMay_any d k 0 P _ W' ((hvW.below hb (Nat.le_refl _)).any (Nat.le_refl _)) h hk).mono fun e w' ⟨e1, e2⟩ => ⟨by rw [e1, if_neg (by omega)], e2⟩
  have HPL : Hid (∀ W' (k : Nat), k ≤ 4 → Below W.heap.size W W' → Calls Tryz.prog 10 #[.slice (some ⟨b, o, none⟩) vl cap, .int .i64 k] W' fun e w' => e = .returned (.tuple #[.int .i64 (plA k d P s d []), .int .i64 (plI k d P s d [])]) ∧ Below W'.heap.size W' w') := fun W' k hk hb =>
    placesAll_any d k P s _ W' ((hvW.below hb (Nat.le_refl _)).any (Nat.le_refl _)) h.good h.box6 h.n16 (by omega) hs hm
  clear hv hbw hsW hvW
  go_enter Tryz.func15, Tryz.ntmps15
  go_wp2
  rw [← hW]
  clear hW
  go_loopw [2, 3, 5, 6] (fun _ _ i _ wr => ∃ j : Nat, j ≤ d + 1 ∧ i = .int .i64 j ∧ Below W.heap.size W wr) (fun _ _ i _ _ => d + 1 - (intOf i).toNat)
  case atStart => exact ⟨0, Nat.zero_le _, rfl, Below.refl _ _⟩
  case round =>
    obtain ⟨j, hj, rfl, hbel⟩ := hrel
    have HB : Hid (Below W.heap.size W wr) := hbel
    have k0 := (HKC.out wr hbel).1
    have k1 := (HKC.out wr hbel).2
    clear hbel
    by_cases hjd : j ≤ d
    · have hjI : (j : Int) ≤ (d : Int) := by omega
      have hj4 : j ≤ 4 := by omega
      go_wp2_with fail
      refine (HMA.out wr j hj4 HB.out).mono ?_
      rintro e w2 ⟨rfl, hb2⟩
      have HB2 : Hid (Below W.heap.size W w2) := HB.out.trans (hb2.mono HB.out.size)
      clear hb2 k0 k1
      go_wp2
      exact ⟨⟨j + 1, by omega, by go_num, HB2.out⟩, by simp [intOf]; omega⟩
    · have hjI : ¬ ((j : Int) ≤ (d : Int)) := by omega
      rename World => wa
      have hsza : W.heap.size ≤ wa.heap.size := HB.out.size
      clear c0 c1 k1 hj hjd
      go_wp2
      go_loopw [4, 7, 8, 9] (fun x i _ _ wr => ∃ j : Nat, j ≤ d + 1 ∧ i = .int .i64 j ∧ wr.ownsRow wa.heap.size 3 1 x j (ints (fsL d P s j)) ∧ Below wa.heap.size wa wr) (fun _ i _ _ _ => d + 1 - (intOf i).toNat)
      case atStart => exact ⟨0, Nat.zero_le _, rfl, World.ownsRow_nil _ _ _ _, Below.refl _ _⟩
      case round =>
        obtain ⟨q, hq, rfl, ho, hbel⟩ := hrel
        have HO : Hid (wr.ownsRow wa.heap.size 3 1 u4 q (ints (fsL d P s q))) := ho
        have HBa : Hid (Below wa.heap.size wa wr) := hbel
        have HBW : Hid (Below W.heap.size W wr) := HB.out.trans (hbel.mono hsza)
        have k0r := (HKC.out wr HBW.out).1
        have k1r := (HKC.out wr HBW.out).2
        clear ho hbel
        by_cases hqd : q ≤ d
        · have hqI : (q : Int) ≤ (d : Int) := by omega
          have hq4 : q ≤ 4 := by omega
          have HSN : Hid (ints (fsL d P s (q + 1)) = ints (fsL d P s q) ++ [.int .i64 (plA q d P s d [])]) := by
            show _ = _
            rw [fsL_succ]
            simp [ints]
          have HPQ := HPL.out wr q hq4 HBW.out
          have HPQ2 : Hid (Calls Tryz.prog 10 #[.slice (some ⟨b, o, none⟩) vl cap, .int .i64 q] wr fun e w' => e = .returned (.tuple #[.int .i64 (plA q d P s d []), .int .i64 (plI q d P s d [])]) ∧ Below wr.heap.size wr w') := HPQ
          clear HPQ
          generalize plA q d P s d [] = pa at *
          generalize plI q d P s d [] = pi at *
          go_wp2_with fail
          refine HPQ2.out.mono ?_
          rintro e w2 ⟨rfl, hb2⟩
          have HO2 : Hid (w2.ownsRow wa.heap.size 3 1 u4 q (ints (fsL d P s q))) := owns_below HO.out hb2 (Nat.le_refl _)
          have HB2 : Hid (Below wa.heap.size wa w2) := HBa.out.trans (hb2.mono HBa.out.size)
          have hsz2 : wa.heap.size ≤ w2.heap.size := HB2.out.size
          clear hb2 k0r k1r HPQ2
          go_wp2_with (first | (at_builtin; refine wpList_append_own _ rfl _ _ 22 rfl wa.heap.size 3 i3 (.int .i64 0) 1 8 Tryz.underlying22 hi3 hz30 hz31 hz32 rfl (by decide) _ _ _ rfl (HO2.out.alloc _) ⟨w2.heap.size, 0, none⟩ 1 1 [.int .i64 pa] rfl rfl (one_new _ _ _) (one_int _) ?c3 ?c4 ?c5 ?_))
          case c3 => unfold maxLen; omega
          case c4 => omega
          case c5 => first | exact hsz2 | omega | (simp; omega)
          intro v' w3 ho3 hg3 _
          have R1 : Hid (w3.ownsRow wa.heap.size 3 1 v' (q + 1) (ints (fsL d P s (q + 1)))) := by
            show World.ownsRow _ _ _ _ _ _ _
            rw [HSN.out]
            exact ho3
          have R2 : Hid (Below wa.heap.size wa w3) := (HB2.out.alloc hsz2 _).grown hg3 (by simp; omega) (fun x hx => (HO2.out.lt x hx).1)
          clear ho3 hg3
          go_wp2
          exact ⟨⟨q + 1, by omega, by go_num, R1.out, R2.out⟩, by simp [intOf]; omega⟩
        · have hqe : q = d + 1 := by omega
          have HSF : Hid (Sl wr.heap.size 3 wr u4 (ints (fsL d P s (d + 1)))) := by
            have h := HO.out
            rw [hqe] at h
            exact (Sl.own (B := 0) h).any (Nat.le_refl _)
          have hqI : ¬ ((q : Int) ≤ (d : Int)) := by omega
          have HBF : Hid (Below w.heap.size w wr) := HW.out.trans (HBW.out.mono HSW.out)
          clear hqe hq hqd k1r
          go_wp2
          go_ret2
          exact ⟨_, rfl, HSF.out, HBF.out⟩

end Go.Proofs.YtbmncbbibipoaaaGreat
