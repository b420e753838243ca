import Derived.Test.YtobcdcmmeabecaaGreatCtD
import Derived.Test.YtobcdcmmeabecaaGreatRaY
import Derived.Test.YtobcdcmmeabecaaGreatHmA
import Derived.Test.YtobcdcmmeabecaaGreatLtA
import Derived.Test.YtobcdcmmeabecaaGreatHmY
import Derived.Test.YtobcdcmmeabecaaGreatWhY
/- The program: places of a polytope, once its rows and its box are told (FieldOk). -/
namespace Go.Proofs.YtobcdcmmeabecaaGreat
open Go.RowKit
attribute [local go_sem ↓] Go.wp_at_zero Go.wp_at_succ

/-- What fieldOf is to give: the rows, the least and the greatest numbers. -/
def FieldOk (d : Nat) (P s : List (List Int)) : Prop := ∀ (v : Value) (w : World), Mat w.heap.size 22 3 w v P → Calls Tryz.prog 31 #[.agg #[.int .i64 d, v]] w fun e w' => ∃ ro rl rc lo ll lc mo ml mc, e = .returned (.tuple #[.agg #[.slice ro rl rc, .slice lo ll lc, .slice mo ml mc], .int .i64 0]) ∧ (Mat w'.heap.size 22 3 w' (.slice ro rl rc) s ∧ Sl w'.heap.size 3 w' (.slice lo ll lc) (ints (loL P d)) ∧ Sl w'.heap.size 3 w' (.slice mo ml mc) (ints (hiL P d)) ∧ Below w.heap.size w w')

set_option maxRecDepth 100000 in
set_option maxHeartbeats 800000 in
theorem placesOf_any (d k least : Nat) (sp : Int) (P s : List (List Int)) (v : Value) (w : World) (hv : Mat w.heap.size 22 3 w v P) (h : Sml d P) (hs : SAsc s) (hm : ∀ r, r ∈ s ↔ r ∈ rowsD P d) (hk : k ≤ 4) (hsp : sp = 0 ∨ sp = 1) (hF : FieldOk d P s) :
    Calls Tryz.prog 25 #[.agg #[.int .i64 d, v], .int .i64 k, .int .i64 least, .int .i64 sp] w fun e w' => e = .returned (.tuple #[.int .i64 (if k < least then 0 else thr k (loL P d) (hiL P d) s (d - 1) 0 (rms k sp d s)), .int .i64 (if k < least then 9 else 0)]) ∧ Below w.heap.size w w' := by
  have hn := h.good.n2
  obtain ⟨b, o, cap, r1, hvv, hlc, _, _⟩ := mat_cell hv (k := 0) (by omega)
  obtain ⟨vl, hvl⟩ : ∃ vl, vl = P.length := ⟨_, rfl⟩
  rw [← hvl] at hvv
  clear hvl
  subst hvv
  obtain ⟨W, hW⟩ : ∃ W, W = w.alloc (.cells #[.int .i64 d, .slice (some ⟨b, o, none⟩) vl cap] 27) := ⟨_, rfl⟩
  have hbw : Below w.heap.size w W := by rw [hW]; exact (Below.refl _ _).alloc (Nat.le_refl _) _
  have HW : Hid (Below w.heap.size w W) := hbw
  have hsW : W.heap.size = w.heap.size + 1 := by rw [hW]; simp
  have HSW : Hid (w.heap.size ≤ W.heap.size) := by show _ ≤ _; omega
  have c0 : W.cell? ⟨w.heap.size, 0, none⟩ = some (.int .i64 d) := by rw [hW]; simp
  have c1 : W.cell? ⟨w.heap.size, 1, none⟩ = some (.slice (some ⟨b, o, none⟩) vl cap) := by rw [hW]; simp
  have hvW : Mat W.heap.size 22 3 W (.slice (some ⟨b, o, none⟩) vl cap) P := (hv.below hbw (Nat.le_refl _)).any (Nat.le_refl _)
  have HCH : Hid (Calls Tryz.prog 44 #[.agg #[.int .i64 d, .slice (some ⟨b, o, none⟩) vl cap]] W fun e w' => e = .returned (.int .i64 0) ∧ (Below W.heap.size W w' ∧ w'.cell? ⟨w.heap.size, 0, none⟩ = some (.int .i64 d) ∧ w'.cell? ⟨w.heap.size, 1, none⟩ = some (.slice (some ⟨b, o, none⟩) vl cap))) :=
    (hullCheckK d P _ W hvW h.good).mono fun e w' ⟨e1, e2⟩ => ⟨e1, e2, (e2.cell (lt_of_cell c0)).trans c0, (e2.cell (lt_of_cell c1)).trans c1⟩
  have HFO : Hid (∀ W', Below W.heap.size W W' → Calls Tryz.prog 31 #[.agg #[.int .i64 d, .slice (some ⟨b, o, none⟩) vl cap]] W' fun e w' => ∃ ro rl rc lo ll lc mo ml mc, e = .returned (.tuple #[.agg #[.slice ro rl rc, .slice lo ll lc, .slice mo ml mc], .int .i64 0]) ∧ (Mat w'.heap.size 22 3 w' (.slice ro rl rc) s ∧ Sl w'.heap.size 3 w' (.slice lo ll lc) (ints (loL P d)) ∧ Sl w'.heap.size 3 w' (.slice mo ml mc) (ints (hiL P d)) ∧ Below W'.heap.size W' w')) := fun W' hb => hF _ W' ((hvW.below hb (Nat.le_refl _)).any (Nat.le_refl _))
  have hfl := fld_of h.good h.box6 h.n16 (show k ≤ 10 by omega) hs hm
  have HPL : Hid (∀ W' rv lv mv, Mat W'.heap.size 22 3 W' rv s → Sl W'.heap.size 3 W' lv (ints (loL P d)) → Sl W'.heap.size 3 W' mv (ints (hiL P d)) → Calls Tryz.prog 32 #[.agg #[rv, lv, mv], .int .i64 k, .int .i64 sp] W' fun e w' => e = .returned (.tuple #[.int .i64 (thr k (loL P d) (hiL P d) s (d - 1) 0 (rms k sp d s)), .int .i64 0]) ∧ Below W'.heap.size W' w') := fun W' rv lv mv h1 h2 h3 =>
    fplaces_any d k sp s (loL P d) (hiL P d) rv lv mv W' hfl h.good.d1 h.good.d4 hsp (fun r hr => Nat.le_trans (rowsD_end h.box6 h.good.d1 h.good.d4 ((hm r).1 hr)) (by decide)) (by have := bx_le3 h.box (by omega) hk h.d3 d (Nat.le_refl _); omega) h1 h2 h3
  generalize thr k (loL P d) (hiL P d) s (d - 1) 0 (rms k sp d s) = TT at *
  have hk6 : ¬ (6 : Int) < (k : Int) := by omega
  clear hv hbw hsW hvW c0 c1 hfl
  by_cases hkl : k < least
  · have t1 : (k : Int) < (least : Int) := by omega
    rw [if_pos hkl, if_pos hkl]
    go_enter Tryz.func25, Tryz.ntmps25
    go_wp2_with fail
    rw [← hW]
    clear hW
    refine HCH.out.mono ?_
    rintro e w1 ⟨rfl, hb1, _, _⟩
    have HB1 : Hid (Below w.heap.size w w1) := HW.out.trans (hb1.mono HSW.out)
    clear hb1
    go_wp2
    go_ret2
    exact ⟨rfl, HB1.out⟩
  · have t1 : ¬ (k : Int) < (least : Int) := by omega
    rw [if_neg hkl, if_neg hkl]
    go_enter Tryz.func25, Tryz.ntmps25
    go_wp2_with fail
    rw [← hW]
    clear hW
    refine HCH.out.mono ?_
    rintro e w1 ⟨rfl, hb1, e0, e1⟩
    have HB1 : Hid (Below W.heap.size W w1) := hb1
    clear hb1
    go_wp2_with fail
    refine (HFO.out w1 HB1.out).mono ?_
    rintro e w2 ⟨ro, rl, rc, lo, ll, lc, mo, ml, mc, rfl, hx⟩
    have HX : Hid (Mat w2.heap.size 22 3 w2 (.slice ro rl rc) s ∧ Sl w2.heap.size 3 w2 (.slice lo ll lc) (ints (loL P d)) ∧ Sl w2.heap.size 3 w2 (.slice mo ml mc) (ints (hiL P d)) ∧ Below w1.heap.size w1 w2) := hx
    clear hx e0 e1
    obtain ⟨W3, hW3⟩ : ∃ W3, W3 = w2.alloc (.cells #[.slice ro rl rc, .slice lo ll lc, .slice mo ml mc] 51) := ⟨_, rfl⟩
    have HB3 : Hid (Below w2.heap.size w2 W3) := by rw [hW3]; exact (Below.refl _ _).alloc (Nat.le_refl _) _
    go_wp2_with fail
    rw [← hW3]
    clear hW3
    refine (HPL.out W3 _ _ _ ((HX.out.1.below HB3.out (Nat.le_refl _)).any (Nat.le_refl _)) ((HX.out.2.1.below HB3.out (Nat.le_refl _)).any (Nat.le_refl _)) ((HX.out.2.2.1.below HB3.out (Nat.le_refl _)).any (Nat.le_refl _))).mono ?_
    rintro e w4 ⟨rfl, hb4⟩
    have HB4 : Hid (Below w.heap.size w w4) := by
      have q1 := HB1.out.trans (HX.out.2.2.2.mono HB1.out.size)
      have q2 := q1.trans (HB3.out.mono q1.size)
      have q3 := q2.trans (hb4.mono q2.size)
      exact HW.out.trans (q3.mono HSW.out)
    clear hb4
    go_wp2
    go_ret2
    exact ⟨rfl, HB4.out⟩

set_option maxRecDepth 100000 in
theorem points_any (d k : Nat) (P s : List (List Int)) (v : Value) (w : World) (hv : Mat w.heap.size 22 3 w v P) (h : Sml d P) (hs : SAsc s) (hm : ∀ r, r ∈ s ↔ r ∈ rowsD P d) (hk : k ≤ 4) (hF : FieldOk d P s) :
    Calls Tryz.prog 11 #[.agg #[.int .i64 d, v], .int .i64 k] w fun e w' => e = .returned (.tuple #[.int .i64 (plA k d P s d []), .int .i64 0]) ∧ Below w.heap.size w w' := by
  have hrl : ∀ r ∈ s, r.length = d + 1 := fun r hr => (rowsD_facts (box_up h.box6) h.good.d1 (by have := h.d3; omega) r ((hm r).1 hr)).len
  have hc := (count_eq (k := k) (P := P) h.good.d1 hrl).1
  rw [hc]
  have HPO : Hid (∀ W, Below w.heap.size w W → Calls Tryz.prog 25 #[.agg #[.int .i64 d, v], .int .i64 k, .int .i64 0, .int .i64 0] W fun e w' => e = .returned (.tuple #[.int .i64 (thr k (loL P d) (hiL P d) s (d - 1) 0 (rms k 0 d s)), .int .i64 0]) ∧ Below w.heap.size w w') := fun W hW =>
    (placesOf_any d k 0 0 P s v W ((hv.below hW (Nat.le_refl _)).any (Nat.le_refl _)) h hs hm hk (Or.inl rfl) hF).mono fun e w' ⟨e1, e2⟩ => ⟨by rw [e1, if_neg (by omega), if_neg (by omega)], hW.trans (e2.mono hW.size)⟩
  obtain ⟨b, o, cap, r1, hvv, _, _, _⟩ := mat_cell hv (k := 0) (by have := h.good.n2; omega)
  obtain ⟨vl, hvl⟩ : ∃ vl, vl = P.length := ⟨_, rfl⟩
  rw [← hvl] at hvv
  clear hvl
  subst hvv
  generalize thr k (loL P d) (hiL P d) s (d - 1) 0 (rms k 0 d s) = TT at *
  obtain ⟨W, hW⟩ : ∃ W, W = w.alloc (.cells #[.int .i64 d, .slice (some ⟨b, o, none⟩) vl cap] 27) := ⟨_, rfl⟩
  have HW : Hid (Below w.heap.size w W) := by rw [hW]; exact (Below.refl _ _).alloc (Nat.le_refl _) _
  clear hv hc
  go_enter Tryz.func11, Tryz.ntmps11
  go_wp2_with fail
  rw [← hW]
  clear hW
  refine (HPO.out W HW.out).mono ?_
  rintro e w2 ⟨rfl, hb2⟩
  have HB2 : Hid (Below w.heap.size w w2) := hb2
  clear hb2
  go_wp2
  go_ret2
  exact ⟨rfl, HB2.out⟩

set_option maxRecDepth 100000 in
theorem inner_any (d k : Nat) (P s : List (List Int)) (v : Value) (w : World) (hv : Mat w.heap.size 22 3 w v P) (h : Sml d P) (hs : SAsc s) (hm : ∀ r, r ∈ s ↔ r ∈ rowsD P d) (hk : k ≤ 4) (hF : FieldOk d P s) :
    Calls Tryz.prog 12 #[.agg #[.int .i64 d, v], .int .i64 k] w fun e w' => e = .returned (.tuple #[.int .i64 (if k < 1 then 0 else plI k d P s d []), .int .i64 (if k < 1 then 9 else 0)]) ∧ Below w.heap.size w w' := by
  have hrl : ∀ r ∈ s, r.length = d + 1 := fun r hr => (rowsD_facts (box_up h.box6) h.good.d1 (by have := h.d3; omega) r ((hm r).1 hr)).len
  have hc := (count_eq (k := k) (P := P) h.good.d1 hrl).2
  rw [hc]
  have HPO : Hid (∀ W, Below w.heap.size w W → Calls Tryz.prog 25 #[.agg #[.int .i64 d, v], .int .i64 k, .int .i64 1, .int .i64 1] W fun e w' => e = .returned (.tuple #[.int .i64 (if k < 1 then 0 else thr k (loL P d) (hiL P d) s (d - 1) 0 (rms k 1 d s)), .int .i64 (if k < 1 then 9 else 0)]) ∧ Below w.heap.size w w') := fun W hW =>
    (placesOf_any d k 1 1 P s v W ((hv.below hW (Nat.le_refl _)).any (Nat.le_refl _)) h hs hm hk (Or.inr rfl) hF).mono fun e w' ⟨e1, e2⟩ => ⟨e1, hW.trans (e2.mono hW.size)⟩
  obtain ⟨b, o, cap, r1, hvv, _, _, _⟩ := mat_cell hv (k := 0) (by have := h.good.n2; omega)
  obtain ⟨vl, hvl⟩ : ∃ vl, vl = P.length := ⟨_, rfl⟩
  rw [← hvl] at hvv
  clear hvl
  subst hvv
  obtain ⟨TT, hTT⟩ : ∃ TT, TT = (if k < 1 then 0 else thr k (loL P d) (hiL P d) s (d - 1) 0 (rms k 1 d s)) := ⟨_, rfl⟩
  obtain ⟨EE, hEE⟩ : ∃ EE : Int, EE = (if k < 1 then 9 else 0) := ⟨_, rfl⟩
  rw [← hTT, ← hEE] at HPO ⊢
  obtain ⟨W, hW⟩ : ∃ W, W = w.alloc (.cells #[.int .i64 d, .slice (some ⟨b, o, none⟩) vl cap] 27) := ⟨_, rfl⟩
  have HW : Hid (Below w.heap.size w W) := by rw [hW]; exact (Below.refl _ _).alloc (Nat.le_refl _) _
  clear hv hc hTT hEE
  go_enter Tryz.func12, Tryz.ntmps12
  go_wp2_with fail
  rw [← hW]
  clear hW
  refine (HPO.out W HW.out).mono ?_
  rintro e w2 ⟨rfl, hb2⟩
  have HB2 : Hid (Below w.heap.size w w2) := hb2
  clear hb2
  go_wp2
  go_ret2
  exact ⟨rfl, HB2.out⟩

end Go.Proofs.YtobcdcmmeabecaaGreat

/- The program: Delta, once its rows and its box are told (FieldOk). -/
namespace Go.Proofs.YtobcdcmmeabecaaGreat
open Go.RowKit
attribute [local go_sem ↓] Go.wp_at_zero Go.wp_at_succ

theorem fsL_get {d : Nat} {P s : List (List Int)} {n k : Nat} (hk : k < n) : (fsL d P s n).getD k 0 = plA k d P s d [] := by
  unfold fsL
  rw [List.getD_eq_getElem?_getD, List.getElem?_map, List.getElem?_range hk]
  rfl

theorem plA_small {d k : Nat} {P s : List (List Int)} (h : Sml d P) (hs : SAsc s) (hm : ∀ r, r ∈ s ↔ r ∈ rowsD P d) (hk : k ≤ 4) : 0 ≤ plA k d P s d [] ∧ plA k d P s d [] ≤ 20000000000000 :=
  (pl_small (pfd_of h.good h.box6 h.n16 (show k ≤ 10 by omega) hs hm) d [] (by simp)).1

/-- What the program's numbers are. -/
def dpL (d : Nat) (P s : List (List Int)) : List Int := (List.range (d + 1)).map (lsN (d + 1) fun i => (fsL d P s (d + 1)).getD i 0)

set_option maxRecDepth 100000 in
set_option maxHeartbeats 800000 in
theorem delta_any (d : Nat) (P s : List (List Int)) (v : Value) (w : World) (hv : Mat w.heap.size 22 3 w v P) (h : Sml d P) (hs : SAsc s) (hm : ∀ r, r ∈ s ↔ r ∈ rowsD P d) (hF : FieldOk d P s) :
    Calls Tryz.prog 18 #[.agg #[.int .i64 d, v]] w fun e w' => ∃ u, e = .returned (.tuple #[u, .int .i64 0]) ∧ Sl w'.heap.size 3 w' u (ints (dpL d P s)) ∧ Below w.heap.size w w' := by
  have hn := h.good.n2
  have hd3 := h.d3
  have hrl : ∀ r ∈ s, r.length = d + 1 := fun r hr => (rowsD_facts (box_up h.box6) h.good.d1 (by have := h.d3; omega) r ((hm r).1 hr)).len
  obtain ⟨i3, hi3, hz30, hz31, hz32⟩ := info_parts Tryz.info3
  obtain ⟨b, o, cap, r1, hvv, hlc, _, _⟩ := mat_cell hv (k := 0) (by omega)
  obtain ⟨vl, hvl⟩ : ∃ vl, vl = P.length := ⟨_, rfl⟩
  rw [← hvl] at hvv
  clear hvl
  subst hvv
  obtain ⟨W, hW⟩ : ∃ W, W = w.alloc (.cells #[.int .i64 d, .slice (some ⟨b, o, none⟩) vl cap] 27) := ⟨_, rfl⟩
  have hbw : Below w.heap.size w W := by rw [hW]; exact (Below.refl _ _).alloc (Nat.le_refl _) _
  have HW : Hid (Below w.heap.size w W) := hbw
  have hsW : W.heap.size = w.heap.size + 1 := by rw [hW]; simp
  have HSW : Hid (w.heap.size ≤ W.heap.size) := by show _ ≤ _; omega
  have c0 : W.cell? ⟨w.heap.size, 0, none⟩ = some (.int .i64 d) := by rw [hW]; simp
  have HKC : Hid (∀ W', Below W.heap.size W W' → W'.cell? ⟨w.heap.size, 0, none⟩ = some (.int .i64 d)) := fun W' h => (h.cell (lt_of_cell c0)).trans c0
  have hvW : Mat W.heap.size 22 3 W (.slice (some ⟨b, o, none⟩) vl cap) P := (hv.below hbw (Nat.le_refl _)).any (Nat.le_refl _)
  have HFO : Hid (Calls Tryz.prog 31 #[.agg #[.int .i64 d, .slice (some ⟨b, o, none⟩) vl cap]] W fun e w' => ∃ ro rl rc lo ll lc mo ml mc, e = .returned (.tuple #[.agg #[.slice ro rl rc, .slice lo ll lc, .slice mo ml mc], .int .i64 0]) ∧ (Mat w'.heap.size 22 3 w' (.slice ro rl rc) s ∧ Sl w'.heap.size 3 w' (.slice lo ll lc) (ints (loL P d)) ∧ Sl w'.heap.size 3 w' (.slice mo ml mc) (ints (hiL P d)) ∧ Below W.heap.size W w')) := hF _ W hvW
  have HPL : Hid (∀ (k : Nat) W' rv lv mv, k ≤ 4 → Mat W'.heap.size 22 3 W' rv s → Sl W'.heap.size 3 W' lv (ints (loL P d)) → Sl W'.heap.size 3 W' mv (ints (hiL P d)) → Calls Tryz.prog 32 #[.agg #[rv, lv, mv], .int .i64 k, .int .i64 0] W' fun e w' => e = .returned (.tuple #[.int .i64 (plA k d P s d []), .int .i64 0]) ∧ Below W'.heap.size W' w') := fun k W' rv lv mv hk h1 h2 h3 => by
    have hfl := fld_of h.good h.box6 h.n16 (show k ≤ 10 by omega) hs hm
    have hc := (count_eq (k := k) (P := P) h.good.d1 hrl).1
    rw [hc]
    exact fplaces_any d k 0 s (loL P d) (hiL P d) rv lv mv W' hfl h.good.d1 h.good.d4 (Or.inl rfl) (fun r hr => Nat.le_trans (rowsD_end h.box6 h.good.d1 h.good.d4 ((hm r).1 hr)) (by decide)) (by have := bx_le3 h.box (by omega) hk h.d3 d (Nat.le_refl _); omega) h1 h2 h3
  have HLS : Hid (∀ W' v', Sl W'.heap.size 3 W' v' (ints (fsL d P s (d + 1))) → Calls Tryz.prog 33 #[v', .int .i64 ((d : Int) + 1)] W' fun e w' => ∃ u, e = .returned u ∧ Sl w'.heap.size 3 w' u (ints (dpL d P s)) ∧ Below W'.heap.size W' w') := fun W' v' h1 => by
    have hh := less_any W'.heap.size (d + 1) (d + 1) (fsL d P s (d + 1)) v' W' h1 (fsL_len _ _ _ _) (by omega) (by omega) (by omega) (fun i hi => by
      rw [fsL_get hi]
      have := plA_small (k := i) h hs hm (by omega)
      omega)
    rw [show ((d + 1 : Nat) : Int) = (d : Int) + 1 by omega] at hh
    exact hh
  have hwd : wrap64 ((d : Int) + 1) = (d : Int) + 1 := IntWalk.wrap64_in _ ⟨by omega, by omega⟩
  clear hv hbw hsW hvW hrl hF
  go_enter Tryz.func18, Tryz.ntmps18
  go_wp2_with fail
  rw [← hW]
  clear hW
  refine HFO.out.mono ?_
  rintro e w2 ⟨ro, rl, rc, lo, ll, lc, mo, ml, mc, rfl, hx⟩
  obtain ⟨W3, hW3⟩ : ∃ W3, W3 = w2.alloc (.cells #[.slice ro rl rc, .slice lo ll lc, .slice mo ml mc] 51) := ⟨_, rfl⟩
  have hb3 : Below w2.heap.size w2 W3 := by rw [hW3]; exact (Below.refl _ _).alloc (Nat.le_refl _) _
  have HX : Hid (Mat W3.heap.size 22 3 W3 (.slice ro rl rc) s ∧ Sl W3.heap.size 3 W3 (.slice lo ll lc) (ints (loL P d)) ∧ Sl W3.heap.size 3 W3 (.slice mo ml mc) (ints (hiL P d)) ∧ Below W.heap.size W W3) :=
    ⟨(hx.1.below hb3 (Nat.le_refl _)).any (Nat.le_refl _), (hx.2.1.below hb3 (Nat.le_refl _)).any (Nat.le_refl _), (hx.2.2.1.below hb3 (Nat.le_refl _)).any (Nat.le_refl _), hx.2.2.2.trans (hb3.mono hx.2.2.2.size)⟩
  have f0 : W3.cell? ⟨w2.heap.size, 0, none⟩ = some (.slice ro rl rc) := by rw [hW3]; simp
  have f1 : W3.cell? ⟨w2.heap.size, 1, none⟩ = some (.slice lo ll lc) := by rw [hW3]; simp
  have f2 : W3.cell? ⟨w2.heap.size, 2, none⟩ = some (.slice mo ml mc) := by rw [hW3]; simp
  have HKF : Hid (∀ W', Below W3.heap.size W3 W' → W'.cell? ⟨w2.heap.size, 0, none⟩ = some (.slice ro rl rc) ∧ W'.cell? ⟨w2.heap.size, 1, none⟩ = some (.slice lo ll lc) ∧ W'.cell? ⟨w2.heap.size, 2, none⟩ = some (.slice mo ml mc)) := fun W' h => ⟨(h.cell (lt_of_cell f0)).trans f0, (h.cell (lt_of_cell f1)).trans f1, (h.cell (lt_of_cell f2)).trans f2⟩
  have g0 : W3.cell? ⟨w.heap.size, 0, none⟩ = some (.int .i64 d) := HKC.out W3 HX.out.2.2.2
  have g1 : (w2.alloc (.cells #[.slice ro rl rc, .slice lo ll lc, .slice mo ml mc] 51)).cell? ⟨w.heap.size, 0, none⟩ = some (.int .i64 d) := by rw [← hW3]; exact g0
  clear hx hb3 f0 f1 f2 g0 c0
  go_wp2
  rw [← hW3]
  clear hW3 g1
  go_loopw [2, 3, 6, 7, 8, 9, 21] (fun _ _ x _ _ _ i wr => ∃ j : Nat, j ≤ d + 1 ∧ i = .int .i64 j ∧ wr.ownsRow W3.heap.size 3 1 x j (ints (fsL d P s j)) ∧ Below W3.heap.size W3 wr) (fun _ _ _ _ _ _ i _ => d + 1 - (intOf i).toNat)
  case atStart => exact ⟨0, Nat.zero_le _, rfl, World.ownsRow_nil _ _ _ _, Below.refl _ _⟩
  case round =>
    obtain ⟨q, hq, rfl, ho, hbel⟩ := hrel
    have HO : Hid (wr.ownsRow W3.heap.size 3 1 u6 q (ints (fsL d P s q))) := ho
    have HBa : Hid (Below W3.heap.size W3 wr) := hbel
    have HBW : Hid (Below W.heap.size W wr) := HX.out.2.2.2.trans (hbel.mono HX.out.2.2.2.size)
    clear ho hbel
    by_cases hqd : q ≤ d
    · have hqI : (q : Int) < (d : Int) + 1 := by omega
      have hq4 : q ≤ 4 := by omega
      obtain ⟨f0, f1, f2⟩ := HKF.out wr HBa.out
      have HSN : Hid (ints (fsL d P s (q + 1)) = ints (fsL d P s q) ++ [.int .i64 (plA q d P s d [])]) := by
        show _ = _
        rw [fsL_succ]
        simp [ints]
      have HPQ2 : Hid (Calls Tryz.prog 32 #[.agg #[.slice ro rl rc, .slice lo ll lc, .slice mo ml mc], .int .i64 q, .int .i64 0] wr fun e w' => e = .returned (.tuple #[.int .i64 (plA q d P s d []), .int .i64 0]) ∧ Below wr.heap.size wr w') :=
        HPL.out q wr _ _ _ hq4 ((HX.out.1.below HBa.out (Nat.le_refl _)).any (Nat.le_refl _)) ((HX.out.2.1.below HBa.out (Nat.le_refl _)).any (Nat.le_refl _)) ((HX.out.2.2.1.below HBa.out (Nat.le_refl _)).any (Nat.le_refl _))
      generalize plA q d P s d [] = pa at *
      go_wp2_with fail
      refine HPQ2.out.mono ?_
      rintro e w4 ⟨rfl, hb2⟩
      have HO2 : Hid (w4.ownsRow W3.heap.size 3 1 u6 q (ints (fsL d P s q))) := owns_below HO.out hb2 (Nat.le_refl _)
      have HB2 : Hid (Below W3.heap.size W3 w4) := HBa.out.trans (hb2.mono HBa.out.size)
      have hsz2 : W3.heap.size ≤ w4.heap.size := HB2.out.size
      clear hb2 HPQ2 f0 f1 f2
      go_wp2_with (first | (at_builtin; refine wpList_append_own _ rfl _ _ 22 rfl W3.heap.size 3 i3 (.int .i64 0) 1 8 Tryz.underlying22 hi3 hz30 hz31 hz32 rfl (by decide) _ _ _ rfl (HO2.out.alloc _) ⟨w4.heap.size, 0, none⟩ 1 1 [.int .i64 pa] rfl rfl (one_new _ _ _) (one_int _) ?c3 ?c4 ?c5 ?_))
      case c3 => unfold maxLen; omega
      case c4 => omega
      case c5 => first | exact hsz2 | omega | (simp; omega)
      intro v' w5 ho3 hg3 _
      have R1 : Hid (w5.ownsRow W3.heap.size 3 1 v' (q + 1) (ints (fsL d P s (q + 1)))) := by
        show World.ownsRow _ _ _ _ _ _ _
        rw [HSN.out]
        exact ho3
      have R2 : Hid (Below W3.heap.size W3 w5) := (HB2.out.alloc hsz2 _).grown hg3 (by simp; omega) (fun x hx => (HO2.out.lt x hx).1)
      clear ho3 hg3
      go_wp2
      exact ⟨⟨q + 1, by omega, by go_num, R1.out, R2.out⟩, by simp [intOf]; omega⟩
    · have hqe : q = d + 1 := by omega
      have HSF : Hid (Sl wr.heap.size 3 wr u6 (ints (fsL d P s (d + 1)))) := by
        have h := HO.out
        rw [hqe] at h
        exact (Sl.own (B := 0) h).any (Nat.le_refl _)
      have hqI : ¬ ((q : Int) < (d : Int) + 1) := by omega
      have k0 := HKC.out wr HBW.out
      have HBF : Hid (Below w.heap.size w wr) := HW.out.trans (HBW.out.mono HSW.out)
      clear hqe hq hqd
      go_wp2_with fail
      refine (HLS.out wr u6 HSF.out).mono ?_
      rintro e w6 ⟨u, rfl, hs6, hb6⟩
      have HR : Hid (Sl w6.heap.size 3 w6 u (ints (dpL d P s)) ∧ Below w.heap.size w w6) := ⟨hs6, HBF.out.trans (hb6.mono HBF.out.size)⟩
      clear hs6 hb6 k0
      go_wp2
      go_ret2
      exact ⟨_, rfl, HR.out.1, HR.out.2⟩

end Go.Proofs.YtobcdcmmeabecaaGreat
