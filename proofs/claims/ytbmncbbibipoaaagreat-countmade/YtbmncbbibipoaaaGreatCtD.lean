import Derived.Test.YtbmncbbibipoaaaGreatCtC
import Derived.Test.YtbmncbbibipoaaaGreatHm10
/- The program: places of a polytope, once its rows and its box are told (FieldOk). -/
namespace Go.Proofs.YtbmncbbibipoaaaGreat
open Go.RowKit
attribute [local go_sem ↓] Go.wp_at_zero Go.wp_at_succ

/-- What fieldOf is to give: the rows, the least and the greatest numbers. -/
def FieldOk (d : Nat) (P s : List (List Int)) : Prop := ∀ (v : Value) (w : World), Mat w.heap.size 22 3 w v P → Calls Tryz.prog 31 #[.agg #[.int .i64 d, v]] w fun e w' => ∃ ro rl rc lo ll lc mo ml mc, e = .returned (.tuple #[.agg #[.slice ro rl rc, .slice lo ll lc, .slice mo ml mc], .int .i64 0]) ∧ (Mat w'.heap.size 22 3 w' (.slice ro rl rc) s ∧ Sl w'.heap.size 3 w' (.slice lo ll lc) (ints (loL P d)) ∧ Sl w'.heap.size 3 w' (.slice mo ml mc) (ints (hiL P d)) ∧ Below w.heap.size w w')

set_option maxRecDepth 100000 in
set_option maxHeartbeats 800000 in
theorem placesOf_any (d k least : Nat) (sp : Int) (P s : List (List Int)) (v : Value) (w : World) (hv : Mat w.heap.size 22 3 w v P) (h : Sml d P) (hs : SAsc s) (hm : ∀ r, r ∈ s ↔ r ∈ rowsD P d) (hk : k ≤ 4) (hsp : sp = 0 ∨ sp = 1) (hF : FieldOk d P s) :
    Calls Tryz.prog 25 #[.agg #[.int .i64 d, v], .int .i64 k, .int .i64 least, .int .i64 sp] w fun e w' => e = .returned (.tuple #[.int .i64 (if k < least then 0 else thr k (loL P d) (hiL P d) s (d - 1) 0 (rms k sp d s)), .int .i64 (if k < least then 9 else 0)]) ∧ Below w.heap.size w w' := by
  have hn := h.good.n2
  obtain ⟨b, o, cap, r1, hvv, hlc, _, _⟩ := mat_cell hv (k := 0) (by omega)
  obtain ⟨vl, hvl⟩ : ∃ vl, vl = P.length := ⟨_, rfl⟩
  rw [← hvl] at hvv
  clear hvl
  subst hvv
  obtain ⟨W, hW⟩ : ∃ W, W = w.alloc (.cells #[.int .i64 d, .slice (some ⟨b, o, none⟩) vl cap] 27) := ⟨_, rfl⟩
  have hbw : Below w.heap.size w W := by rw [hW]; exact (Below.refl _ _).alloc (Nat.le_refl _) _
  have HW : Hid (Below w.heap.size w W) := hbw
  have hsW : W.heap.size = w.heap.size + 1 := by rw [hW]; simp
  have HSW : Hid (w.heap.size ≤ W.heap.size) := by show _ ≤ _; omega
  have c0 : W.cell? ⟨w.heap.size, 0, none⟩ = some (.int .i64 d) := by rw [hW]; simp
  have c1 : W.cell? ⟨w.heap.size, 1, none⟩ = some (.slice (some ⟨b, o, none⟩) vl cap) := by rw [hW]; simp
  have hvW : Mat W.heap.size 22 3 W (.slice (some ⟨b, o, none⟩) vl cap) P := (hv.below hbw (Nat.le_refl _)).any (Nat.le_refl _)
  have HCH : Hid (Calls Tryz.prog 44 #[.agg #[.int .i64 d, .slice (some ⟨b, o, none⟩) vl cap]] W fun e w' => e = .returned (.int .i64 0) ∧ (Below W.heap.size W w' ∧ w'.cell? ⟨w.heap.size, 0, none⟩ = some (.int .i64 d) ∧ w'.cell? ⟨w.heap.size, 1, none⟩ = some (.slice (some ⟨b, o, none⟩) vl cap))) :=
    (hullCheck_ok d P _ W hvW h.good).mono fun e w' ⟨e1, e2⟩ => ⟨e1, e2, (e2.cell (lt_of_cell c0)).trans c0, (e2.cell (lt_of_cell c1)).trans c1⟩
  have HFO : Hid (∀ W', Below W.heap.size W W' → Calls Tryz.prog 31 #[.agg #[.int .i64 d, .slice (some ⟨b, o, none⟩) vl cap]] W' fun e w' => ∃ ro rl rc lo ll lc mo ml mc, e = .returned (.tuple #[.agg #[.slice ro rl rc, .slice lo ll lc, .slice mo ml mc], .int .i64 0]) ∧ (Mat w'.heap.size 22 3 w' (.slice ro rl rc) s ∧ Sl w'.heap.size 3 w' (.slice lo ll lc) (ints (loL P d)) ∧ Sl w'.heap.size 3 w' (.slice mo ml mc) (ints (hiL P d)) ∧ Below W'.heap.size W' w')) := fun W' hb => hF _ W' ((hvW.below hb (Nat.le_refl _)).any (Nat.le_refl _))
  have hfl := fld_of h.good h.box6 h.n16 (show k ≤ 10 by omega) hs hm
  have HPL : Hid (∀ W' rv lv mv, Mat W'.heap.size 22 3 W' rv s → Sl W'.heap.size 3 W' lv (ints (loL P d)) → Sl W'.heap.size 3 W' mv (ints (hiL P d)) → Calls Tryz.prog 32 #[.agg #[rv, lv, mv], .int .i64 k, .int .i64 sp] W' fun e w' => e = .returned (.tuple #[.int .i64 (thr k (loL P d) (hiL P d) s (d - 1) 0 (rms k sp d s)), .int .i64 0]) ∧ Below W'.heap.size W' w') := fun W' rv lv mv h1 h2 h3 =>
    fplaces_any d k sp s (loL P d) (hiL P d) rv lv mv W' hfl h.good.d1 h.good.d4 hsp (fun r hr => Nat.le_trans (rowsD_end h.box6 h.good.d1 h.good.d4 ((hm r).1 hr)) (by decide)) (by have := bx_le3 h.box (by omega) hk h.d3 d (Nat.le_refl _); omega) h1 h2 h3
  generalize thr k (loL P d) (hiL P d) s (d - 1) 0 (rms k sp d s) = TT at *
  have hk6 : ¬ (6 : Int) < (k : Int) := by omega
  clear hv hbw hsW hvW c0 c1 hfl
  by_cases hkl : k < least
  · have t1 : (k : Int) < (least : Int) := by omega
    rw [if_pos hkl, if_pos hkl]
    go_enter Tryz.func25, Tryz.ntmps25
    go_wp2_with fail
    rw [← hW]
    clear hW
    refine HCH.out.mono ?_
    rintro e w1 ⟨rfl, hb1, _, _⟩
    have HB1 : Hid (Below w.heap.size w w1) := HW.out.trans (hb1.mono HSW.out)
    clear hb1
    go_wp2
    go_ret2
    exact ⟨rfl, HB1.out⟩
  · have t1 : ¬ (k : Int) < (least : Int) := by omega
    rw [if_neg hkl, if_neg hkl]
    go_enter Tryz.func25, Tryz.ntmps25
    go_wp2_with fail
    rw [← hW]
    clear hW
    refine HCH.out.mono ?_
    rintro e w1 ⟨rfl, hb1, e0, e1⟩
    have HB1 : Hid (Below W.heap.size W w1) := hb1
    clear hb1
    go_wp2_with fail
    refine (HFO.out w1 HB1.out).mono ?_
    rintro e w2 ⟨ro, rl, rc, lo, ll, lc, mo, ml, mc, rfl, hx⟩
    have HX : Hid (Mat w2.heap.size 22 3 w2 (.slice ro rl rc) s ∧ Sl w2.heap.size 3 w2 (.slice lo ll lc) (ints (loL P d)) ∧ Sl w2.heap.size 3 w2 (.slice mo ml mc) (ints (hiL P d)) ∧ Below w1.heap.size w1 w2) := hx
    clear hx e0 e1
    obtain ⟨W3, hW3⟩ : ∃ W3, W3 = w2.alloc (.cells #[.slice ro rl rc, .slice lo ll lc, .slice mo ml mc] 51) := ⟨_, rfl⟩
    have HB3 : Hid (Below w2.heap.size w2 W3) := by rw [hW3]; exact (Below.refl _ _).alloc (Nat.le_refl _) _
    go_wp2_with fail
    rw [← hW3]
    clear hW3
    refine (HPL.out W3 _ _ _ ((HX.out.1.below HB3.out (Nat.le_refl _)).any (Nat.le_refl _)) ((HX.out.2.1.below HB3.out (Nat.le_refl _)).any (Nat.le_refl _)) ((HX.out.2.2.1.below HB3.out (Nat.le_refl _)).any (Nat.le_refl _))).mono ?_
    rintro e w4 ⟨rfl, hb4⟩
    have HB4 : Hid (Below w.heap.size w w4) := by
      have q1 := HB1.out.trans (HX.out.2.2.2.mono HB1.out.size)
      have q2 := q1.trans (HB3.out.mono q1.size)
      have q3 := q2.trans (hb4.mono q2.size)
      exact HW.out.trans (q3.mono HSW.out)
    clear hb4
    go_wp2
    go_ret2
    exact ⟨rfl, HB4.out⟩

set_option maxRecDepth 100000 in
theorem points_any (d k : Nat) (P s : List (List Int)) (v : Value) (w : World) (hv : Mat w.heap.size 22 3 w v P) (h : Sml d P) (hs : SAsc s) (hm : ∀ r, r ∈ s ↔ r ∈ rowsD P d) (hk : k ≤ 4) (hF : FieldOk d P s) :
    Calls Tryz.prog 11 #[.agg #[.int .i64 d, v], .int .i64 k] w fun e w' => e = .returned (.tuple #[.int .i64 (plA k d P s d []), .int .i64 0]) ∧ Below w.heap.size w w' := by
  have hrl : ∀ r ∈ s, r.length = d + 1 := fun r hr => (rowsD_facts (box_up h.box6) h.good.d1 (by have := h.d3; omega) r ((hm r).1 hr)).len
  have hc := (count_eq (k := k) (P := P) h.good.d1 hrl).1
  rw [hc]
  have HPO : Hid (∀ W, Below w.heap.size w W → Calls Tryz.prog 25 #[.agg #[.int .i64 d, v], .int .i64 k, .int .i64 0, .int .i64 0] W fun e w' => e = .returned (.tuple #[.int .i64 (thr k (loL P d) (hiL P d) s (d - 1) 0 (rms k 0 d s)), .int .i64 0]) ∧ Below w.heap.size w w') := fun W hW =>
    (placesOf_any d k 0 0 P s v W ((hv.below hW (Nat.le_refl _)).any (Nat.le_refl _)) h hs hm hk (Or.inl rfl) hF).mono fun e w' ⟨e1, e2⟩ => ⟨by rw [e1, if_neg (by omega), if_neg (by omega)], hW.trans (e2.mono hW.size)⟩
  obtain ⟨b, o, cap, r1, hvv, _, _, _⟩ := mat_cell hv (k := 0) (by have := h.good.n2; omega)
  obtain ⟨vl, hvl⟩ : ∃ vl, vl = P.length := ⟨_, rfl⟩
  rw [← hvl] at hvv
  clear hvl
  subst hvv
  generalize thr k (loL P d) (hiL P d) s (d - 1) 0 (rms k 0 d s) = TT at *
  obtain ⟨W, hW⟩ : ∃ W, W = w.alloc (.cells #[.int .i64 d, .slice (some ⟨b, o, none⟩) vl cap] 27) := ⟨_, rfl⟩
  have HW : Hid (Below w.heap.size w W) := by rw [hW]; exact (Below.refl _ _).alloc (Nat.le_refl _) _
  clear hv hc
  go_enter Tryz.func11, Tryz.ntmps11
  go_wp2_with fail
  rw [← hW]
  clear hW
  refine (HPO.out W HW.out).mono ?_
  rintro e w2 ⟨rfl, hb2⟩
  have HB2 : Hid (Below w.heap.size w w2) := hb2
  clear hb2
  go_wp2
  go_ret2
  exact ⟨rfl, HB2.out⟩

set_option maxRecDepth 100000 in
theorem inner_any (d k : Nat) (P s : List (List Int)) (v : Value) (w : World) (hv : Mat w.heap.size 22 3 w v P) (h : Sml d P) (hs : SAsc s) (hm : ∀ r, r ∈ s ↔ r ∈ rowsD P d) (hk : k ≤ 4) (hF : FieldOk d P s) :
    Calls Tryz.prog 12 #[.agg #[.int .i64 d, v], .int .i64 k] w fun e w' => e = .returned (.tuple #[.int .i64 (if k < 1 then 0 else plI k d P s d []), .int .i64 (if k < 1 then 9 else 0)]) ∧ Below w.heap.size w w' := by
  have hrl : ∀ r ∈ s, r.length = d + 1 := fun r hr => (rowsD_facts (box_up h.box6) h.good.d1 (by have := h.d3; omega) r ((hm r).1 hr)).len
  have hc := (count_eq (k := k) (P := P) h.good.d1 hrl).2
  rw [hc]
  have HPO : Hid (∀ W, Below w.heap.size w W → Calls Tryz.prog 25 #[.agg #[.int .i64 d, v], .int .i64 k, .int .i64 1, .int .i64 1] W fun e w' => e = .returned (.tuple #[.int .i64 (if k < 1 then 0 else thr k (loL P d) (hiL P d) s (d - 1) 0 (rms k 1 d s)), .int .i64 (if k < 1 then 9 else 0)]) ∧ Below w.heap.size w w') := fun W hW =>
    (placesOf_any d k 1 1 P s v W ((hv.below hW (Nat.le_refl _)).any (Nat.le_refl _)) h hs hm hk (Or.inr rfl) hF).mono fun e w' ⟨e1, e2⟩ => ⟨e1, hW.trans (e2.mono hW.size)⟩
  obtain ⟨b, o, cap, r1, hvv, _, _, _⟩ := mat_cell hv (k := 0) (by have := h.good.n2; omega)
  obtain ⟨vl, hvl⟩ : ∃ vl, vl = P.length := ⟨_, rfl⟩
  rw [← hvl] at hvv
  clear hvl
  subst hvv
  obtain ⟨TT, hTT⟩ : ∃ TT, TT = (if k < 1 then 0 else thr k (loL P d) (hiL P d) s (d - 1) 0 (rms k 1 d s)) := ⟨_, rfl⟩
  obtain ⟨EE, hEE⟩ : ∃ EE : Int, EE = (if k < 1 then 9 else 0) := ⟨_, rfl⟩
  rw [← hTT, ← hEE] at HPO ⊢
  obtain ⟨W, hW⟩ : ∃ W, W = w.alloc (.cells #[.int .i64 d, .slice (some ⟨b, o, none⟩) vl cap] 27) := ⟨_, rfl⟩
  have HW : Hid (Below w.heap.size w W) := by rw [hW]; exact (Below.refl _ _).alloc (Nat.le_refl _) _
  clear hv hc hTT hEE
  go_enter Tryz.func12, Tryz.ntmps12
  go_wp2_with fail
  rw [← hW]
  clear hW
  refine (HPO.out W HW.out).mono ?_
  rintro e w2 ⟨rfl, hb2⟩
  have HB2 : Hid (Below w.heap.size w w2) := hb2
  clear hb2
  go_wp2
  go_ret2
  exact ⟨rfl, HB2.out⟩

end Go.Proofs.YtbmncbbibipoaaaGreat

/- Each number less the one ahead, so many times over: the program. -/
namespace Go.Proofs.YtbmncbbibipoaaaGreat
open Go.RowKit
attribute [local go_sem ↓] Go.wp_at_zero Go.wp_at_succ

/-- Each less the one ahead. -/
def lsF (F : Nat → Int) : Nat → Int := fun i => if i = 0 then F 0 else F i - F (i - 1)

def lsN : Nat → (Nat → Int) → Nat → Int
  | 0, F => F
  | t + 1, F => lsF (lsN t F)

theorem lsN_bd {n : Nat} {F : Nat → Int} {B : Nat} (h : ∀ i, i < n → (F i).natAbs ≤ B) : ∀ t i, i < n → (lsN t F i).natAbs ≤ 2 ^ t * B
  | 0, i, hi => by simpa [lsN] using h i hi
  | t + 1, i, hi => by
    have h1 := lsN_bd h t i hi
    have e : 2 ^ (t + 1) * B = 2 ^ t * B + 2 ^ t * B := by rw [Nat.pow_succ]; grind
    show (lsF (lsN t F) i).natAbs ≤ _
    unfold lsF
    rw [e]
    split
    · rename_i h0
      subst h0
      generalize 2 ^ t * B = q at *
      omega
    · have h2 := lsN_bd h t (i - 1) (by omega)
      generalize 2 ^ t * B = q at *
      omega

set_option maxRecDepth 100000 in
set_option maxHeartbeats 800000 in
theorem less_any (B n times : Nat) (l : List Int) (v : Value) (w : World) (hv : Sl B 3 w v (ints l)) (hn : l.length = n) (hn1 : 1 ≤ n) (hn5 : n ≤ 5) (ht : times ≤ 5) (hb : ∀ i, i < n → (l.getD i 0).natAbs ≤ 1000000000000000) :
    Calls Tryz.prog 33 #[v, .int .i64 times] w fun e w' => ∃ u, e = .returned u ∧ Sl w'.heap.size 3 w' u (ints ((List.range n).map (lsN times fun i => l.getD i 0))) ∧ Below w.heap.size w w' := by
  have HCL : Hid (Calls Tryz.prog 48 #[v] w fun e w' => ∃ g cap, e = .returned (.slice (some ⟨g, 0, none⟩) n cap) ∧ ((∃ F : Nat → Value, w'.rowIs g 3 cap F ∧ ∀ i, i < n → F i = .int .i64 (l.getD i 0)) ∧ n ≤ cap ∧ cap ≤ 9223372036854775807 ∧ w.heap.size ≤ g ∧ Below w.heap.size w w')) := by
    refine (clone_any B l v w hv (by omega)).mono ?_
    rintro e w' ⟨u, rfl, ho, hb'⟩
    obtain ⟨h1, h2⟩ := ho
    rcases h2 with ⟨_, h0⟩ | ⟨g, cap, cur, hu, hg, hh, hnc, hcm, hs, htk⟩
    · omega
    · rw [hn] at hu hnc htk
      subst hu
      refine ⟨g, cap, rfl, ⟨fun i => cur.toList.getD i (.int .i64 0), ⟨cur, hh, by omega, fun i hi => ?_⟩, fun i hi => ?_⟩, hnc, by unfold maxLen at hcm; exact hcm, hg, hb'⟩
      · show cur[i]? = some (cur.toList.getD i (.int .i64 0))
        rw [← Array.getElem?_toList, List.getD_eq_getElem?_getD, List.getElem?_eq_getElem (by simp; omega)]; rfl
      · have e1 : cur.toList.getD i (.int .i64 0) = (ints l).getD i (.int .i64 0) := by
          rw [← htk]
          simp only [List.getD_eq_getElem?_getD]
          rw [List.getElem?_take_of_lt (by omega)]
        show cur.toList.getD i (.int .i64 0) = _
        rw [e1]
        simp [ints, show i < l.length by omega]
  have HLB : Hid (∀ t i, t ≤ 5 → i < n → (lsN t (fun i => l.getD i 0) i).natAbs ≤ 100000000000000000) := fun t i ht hi => by
    have h1 := lsN_bd hb t i hi
    have h2 : 2 ^ t ≤ 2 ^ 5 := Nat.pow_le_pow_right (by decide) ht
    have h3 := Nat.mul_le_mul_right 1000000000000000 h2
    exact Nat.le_trans h1 (Nat.le_trans h3 (by decide))
  obtain ⟨ao, cap0, hvv, _, _⟩ := sl_open hv
  rw [hn] at hvv
  subst hvv
  clear hv hb
  obtain ⟨G, hG⟩ : ∃ G : Nat → Int, G = fun i => l.getD i 0 := ⟨_, rfl⟩
  rw [← hG] at HLB ⊢
  have HG : Hid (∀ i, G i = l.getD i 0) := fun i => by rw [hG]
  clear hG
  go_enter Tryz.func33, Tryz.ntmps33
  go_wp2_with fail
  refine HCL.out.mono ?_
  rintro e w1 ⟨g, cap, rfl, ⟨F0, hrow0, hF0⟩, hnc, hcm, hgw, hb1⟩
  have HRW : Hid (w1.rowIs g 3 cap F0 ∧ ∀ i, i < n → F0 i = .int .i64 (lsN 0 G i)) := ⟨hrow0, fun i hi => by rw [hF0 i hi]; show _ = Value.int .i64 (G i); rw [HG.out]⟩
  have HB1 : Hid (Below w.heap.size w w1) := hb1
  have HGW : Hid (w.heap.size ≤ g) := hgw
  clear hrow0 hF0 hb1 hgw HCL
  go_wp2
  go_loopw [6, 10] (fun _ i wr => ∃ (t : Nat) (F : Nat → Value), t ≤ times ∧ i = .int .i64 t ∧ wr.rowIs g 3 cap F ∧ (∀ i, i < n → F i = .int .i64 (lsN t G i)) ∧ Below w.heap.size w wr) (fun _ i _ => times - (intOf i).toNat)
  case atStart => exact ⟨0, F0, Nat.zero_le _, rfl, HRW.out.1, HRW.out.2, HB1.out⟩
  case round =>
    obtain ⟨t, F, htt, rfl, hrow, hF, hbel⟩ := hrel
    have HR : Hid (wr.rowIs g 3 cap F) := hrow
    have HF : Hid (∀ i, i < n → F i = .int .i64 (lsN t G i)) := hF
    have HB : Hid (Below w.heap.size w wr) := hbel
    clear hrow hF hbel
    by_cases hlt : t < times
    · have htI : (t : Int) < (times : Int) := by omega
      rename World => wa
      go_wp2
      go_loopw [6] (fun i wr => ∃ (j : Nat) (F : Nat → Value), j < n ∧ i = .int .i64 j ∧ wr.rowIs g 3 cap F ∧ (∀ i, i < n → F i = .int .i64 (if j < i then lsN (t + 1) G i else lsN t G i)) ∧ Below w.heap.size w wr) (fun i _ => (intOf i).toNat)
      case atStart => exact ⟨n - 1, F, by omega, by congr 1; omega, HR.out, fun i hi => by rw [if_neg (by omega)]; exact HF.out i hi, HB.out⟩
      case round =>
        obtain ⟨j, F2, hj, rfl, hrow, hF, hbel⟩ := hrel
        have HR2 : Hid (wr.rowIs g 3 cap F2) := hrow
        have HF2 : Hid (∀ i, i < n → F2 i = .int .i64 (if j < i then lsN (t + 1) G i else lsN t G i)) := hF
        have HB2 : Hid (Below w.heap.size w wr) := hbel
        clear hrow hF hbel
        by_cases hj0 : 0 < j
        · obtain ⟨j1, hj1⟩ : ∃ j1, j = j1 + 1 := ⟨j - 1, by omega⟩
          subst hj1
          have ca := HR2.out.cell (i := j1 + 1) (by omega)
          have cb := HR2.out.cell (i := j1) (by omega)
          have cf := HR2.out.frozen (j1 + 1)
          rw [HF2.out _ hj, if_neg (by omega)] at ca
          rw [HF2.out _ (by omega), if_neg (by omega)] at cb
          have HLS : Hid (lsN (t + 1) G (j1 + 1) = lsN t G (j1 + 1) - lsN t G j1) := by
            show lsF (lsN t G) (j1 + 1) = _
            unfold lsF
            rw [if_neg (by omega), Nat.add_sub_cancel]
          have hb1 := HLB.out t (j1 + 1) (by omega) hj
          have hb2 := HLB.out t j1 (by omega) (by omega)
          have R1 : Hid ((wr.setCell ⟨g, j1 + 1, none⟩ (.int .i64 (lsN t G (j1 + 1) - lsN t G j1))).drew.rowIs g 3 cap (fun i => if i = j1 + 1 then .int .i64 (lsN t G (j1 + 1) - lsN t G j1) else F2 i)) := (HR2.out.set (j1 + 1) _).drew
          have R2 : Hid (∀ i, i < n → (if i = j1 + 1 then Value.int .i64 (lsN t G (j1 + 1) - lsN t G j1) else F2 i) = .int .i64 (if j1 < i then lsN (t + 1) G i else lsN t G i)) := fun i hi => by
            by_cases h1 : i = j1 + 1
            · rw [if_pos h1, if_pos (by omega), h1, HLS.out]
            · rw [if_neg h1, HF2.out i hi]
              by_cases h2 : j1 + 1 < i
              · rw [if_pos h2, if_pos (by omega)]
              · rw [if_neg h2, if_neg (by omega)]
          have R3 : Hid (Below w.heap.size w (wr.setCell ⟨g, j1 + 1, none⟩ (.int .i64 (lsN t G (j1 + 1) - lsN t G j1))).drew) := Below.drew (((Touch.refl _ _).setCell (j1 + 1) _).below HB2.out HGW.out)
          generalize lsN t G (j1 + 1) = za at *
          generalize lsN t G j1 = zb at *
          have h1I : (j1 : Int) + 1 < (n : Int) := by omega
          have h1I0 : (0 : Int) ≤ (j1 : Int) + 1 := by omega
          have h2I : (j1 : Int) < (n : Int) := by omega
          have h2I0 : (0 : Int) ≤ (j1 : Int) := by omega
          have h3 : (0 : Int) < (j1 : Int) + 1 := by omega
          clear hj0
          go_wp2
          go_region
          go_wp2
          exact ⟨⟨j1, _, by omega, by go_num, R1.out, R2.out, R3.out⟩, by simp [intOf]⟩
        · have hje : j = 0 := by omega
          have R2 : Hid (∀ i, i < n → F2 i = .int .i64 (lsN (t + 1) G i)) := fun i hi => by
            rw [HF2.out i hi]
            by_cases h1 : j < i
            · rw [if_pos h1]
            · rw [if_neg h1, show i = 0 by omega]
              rfl
          have hjI : ¬ ((0 : Int) < (j : Int)) := by omega
          clear hje hj hj0
          go_wp2
          exact ⟨⟨t + 1, F2, hlt, by go_num, HR2.out, R2.out, HB2.out⟩, by simp [intOf]; omega⟩
    · obtain rfl : t = times := by omega
      have HSF : Hid (Sl wr.heap.size 3 wr (.slice (some ⟨g, 0, none⟩) n cap) (ints ((List.range n).map (lsN t G)))) := by
        refine ⟨some ⟨g, 0, none⟩, cap, by simp, by simpa using hnc, by unfold maxLen; exact hcm, fun i hi => ?_, fun h => by cases h⟩
        have hi' : i < n := by simpa using hi
        refine ⟨g, 0, rfl, ?_, Or.inl HR.out.lt⟩
        rw [Nat.zero_add, HR.out.cell (by omega), HF.out i hi', ints_get _ _ (by simpa using hi')]
        simp [hi']
      clear htt hlt
      go_wp2
      go_ret
      exact ⟨_, rfl, HSF.out, HB.out⟩

end Go.Proofs.YtbmncbbibipoaaaGreat

/- The program: Delta, once its rows and its box are told (FieldOk). -/
namespace Go.Proofs.YtbmncbbibipoaaaGreat
open Go.RowKit
attribute [local go_sem ↓] Go.wp_at_zero Go.wp_at_succ

theorem fsL_get {d : Nat} {P s : List (List Int)} {n k : Nat} (hk : k < n) : (fsL d P s n).getD k 0 = plA k d P s d [] := by
  unfold fsL
  rw [List.getD_eq_getElem?_getD, List.getElem?_map, List.getElem?_range hk]
  rfl

theorem plA_small {d k : Nat} {P s : List (List Int)} (h : Sml d P) (hs : SAsc s) (hm : ∀ r, r ∈ s ↔ r ∈ rowsD P d) (hk : k ≤ 4) : 0 ≤ plA k d P s d [] ∧ plA k d P s d [] ≤ 20000000000000 :=
  (pl_small (pfd_of h.good h.box6 h.n16 (show k ≤ 10 by omega) hs hm) d [] (by simp)).1

/-- What the program's numbers are. -/
def dpL (d : Nat) (P s : List (List Int)) : List Int := (List.range (d + 1)).map (lsN (d + 1) fun i => (fsL d P s (d + 1)).getD i 0)

set_option maxRecDepth 100000 in
set_option maxHeartbeats 800000 in
theorem delta_any (d : Nat) (P s : List (List Int)) (v : Value) (w : World) (hv : Mat w.heap.size 22 3 w v P) (h : Sml d P) (hs : SAsc s) (hm : ∀ r, r ∈ s ↔ r ∈ rowsD P d) (hF : FieldOk d P s) :
    Calls Tryz.prog 18 #[.agg #[.int .i64 d, v]] w fun e w' => ∃ u, e = .returned (.tuple #[u, .int .i64 0]) ∧ Sl w'.heap.size 3 w' u (ints (dpL d P s)) ∧ Below w.heap.size w w' := by
  have hn := h.good.n2
  have hd3 := h.d3
  have hrl : ∀ r ∈ s, r.length = d + 1 := fun r hr => (rowsD_facts (box_up h.box6) h.good.d1 (by have := h.d3; omega) r ((hm r).1 hr)).len
  obtain ⟨i3, hi3, hz30, hz31, hz32⟩ := info_parts Tryz.info3
  obtain ⟨b, o, cap, r1, hvv, hlc, _, _⟩ := mat_cell hv (k := 0) (by omega)
  obtain ⟨vl, hvl⟩ : ∃ vl, vl = P.length := ⟨_, rfl⟩
  rw [← hvl] at hvv
  clear hvl
  subst hvv
  obtain ⟨W, hW⟩ : ∃ W, W = w.alloc (.cells #[.int .i64 d, .slice (some ⟨b, o, none⟩) vl cap] 27) := ⟨_, rfl⟩
  have hbw : Below w.heap.size w W := by rw [hW]; exact (Below.refl _ _).alloc (Nat.le_refl _) _
  have HW : Hid (Below w.heap.size w W) := hbw
  have hsW : W.heap.size = w.heap.size + 1 := by rw [hW]; simp
  have HSW : Hid (w.heap.size ≤ W.heap.size) := by show _ ≤ _; omega
  have c0 : W.cell? ⟨w.heap.size, 0, none⟩ = some (.int .i64 d) := by rw [hW]; simp
  have HKC : Hid (∀ W', Below W.heap.size W W' → W'.cell? ⟨w.heap.size, 0, none⟩ = some (.int .i64 d)) := fun W' h => (h.cell (lt_of_cell c0)).trans c0
  have hvW : Mat W.heap.size 22 3 W (.slice (some ⟨b, o, none⟩) vl cap) P := (hv.below hbw (Nat.le_refl _)).any (Nat.le_refl _)
  have HFO : Hid (Calls Tryz.prog 31 #[.agg #[.int .i64 d, .slice (some ⟨b, o, none⟩) vl cap]] W fun e w' => ∃ ro rl rc lo ll lc mo ml mc, e = .returned (.tuple #[.agg #[.slice ro rl rc, .slice lo ll lc, .slice mo ml mc], .int .i64 0]) ∧ (Mat w'.heap.size 22 3 w' (.slice ro rl rc) s ∧ Sl w'.heap.size 3 w' (.slice lo ll lc) (ints (loL P d)) ∧ Sl w'.heap.size 3 w' (.slice mo ml mc) (ints (hiL P d)) ∧ Below W.heap.size W w')) := hF _ W hvW
  have HPL : Hid (∀ (k : Nat) W' rv lv mv, k ≤ 4 → Mat W'.heap.size 22 3 W' rv s → Sl W'.heap.size 3 W' lv (ints (loL P d)) → Sl W'.heap.size 3 W' mv (ints (hiL P d)) → Calls Tryz.prog 32 #[.agg #[rv, lv, mv], .int .i64 k, .int .i64 0] W' fun e w' => e = .returned (.tuple #[.int .i64 (plA k d P s d []), .int .i64 0]) ∧ Below W'.heap.size W' w') := fun k W' rv lv mv hk h1 h2 h3 => by
    have hfl := fld_of h.good h.box6 h.n16 (show k ≤ 10 by omega) hs hm
    have hc := (count_eq (k := k) (P := P) h.good.d1 hrl).1
    rw [hc]
    exact fplaces_any d k 0 s (loL P d) (hiL P d) rv lv mv W' hfl h.good.d1 h.good.d4 (Or.inl rfl) (fun r hr => Nat.le_trans (rowsD_end h.box6 h.good.d1 h.good.d4 ((hm r).1 hr)) (by decide)) (by have := bx_le3 h.box (by omega) hk h.d3 d (Nat.le_refl _); omega) h1 h2 h3
  have HLS : Hid (∀ W' v', Sl W'.heap.size 3 W' v' (ints (fsL d P s (d + 1))) → Calls Tryz.prog 33 #[v', .int .i64 ((d : Int) + 1)] W' fun e w' => ∃ u, e = .returned u ∧ Sl w'.heap.size 3 w' u (ints (dpL d P s)) ∧ Below W'.heap.size W' w') := fun W' v' h1 => by
    have hh := less_any W'.heap.size (d + 1) (d + 1) (fsL d P s (d + 1)) v' W' h1 (fsL_len _ _ _ _) (by omega) (by omega) (by omega) (fun i hi => by
      rw [fsL_get hi]
      have := plA_small (k := i) h hs hm (by omega)
      omega)
    rw [show ((d + 1 : Nat) : Int) = (d : Int) + 1 by omega] at hh
    exact hh
  have hwd : wrap64 ((d : Int) + 1) = (d : Int) + 1 := IntWalk.wrap64_in _ ⟨by omega, by omega⟩
  clear hv hbw hsW hvW hrl hF
  go_enter Tryz.func18, Tryz.ntmps18
  go_wp2_with fail
  rw [← hW]
  clear hW
  refine HFO.out.mono ?_
  rintro e w2 ⟨ro, rl, rc, lo, ll, lc, mo, ml, mc, rfl, hx⟩
  obtain ⟨W3, hW3⟩ : ∃ W3, W3 = w2.alloc (.cells #[.slice ro rl rc, .slice lo ll lc, .slice mo ml mc] 51) := ⟨_, rfl⟩
  have hb3 : Below w2.heap.size w2 W3 := by rw [hW3]; exact (Below.refl _ _).alloc (Nat.le_refl _) _
  have HX : Hid (Mat W3.heap.size 22 3 W3 (.slice ro rl rc) s ∧ Sl W3.heap.size 3 W3 (.slice lo ll lc) (ints (loL P d)) ∧ Sl W3.heap.size 3 W3 (.slice mo ml mc) (ints (hiL P d)) ∧ Below W.heap.size W W3) :=
    ⟨(hx.1.below hb3 (Nat.le_refl _)).any (Nat.le_refl _), (hx.2.1.below hb3 (Nat.le_refl _)).any (Nat.le_refl _), (hx.2.2.1.below hb3 (Nat.le_refl _)).any (Nat.le_refl _), hx.2.2.2.trans (hb3.mono hx.2.2.2.size)⟩
  have f0 : W3.cell? ⟨w2.heap.size, 0, none⟩ = some (.slice ro rl rc) := by rw [hW3]; simp
  have f1 : W3.cell? ⟨w2.heap.size, 1, none⟩ = some (.slice lo ll lc) := by rw [hW3]; simp
  have f2 : W3.cell? ⟨w2.heap.size, 2, none⟩ = some (.slice mo ml mc) := by rw [hW3]; simp
  have HKF : Hid (∀ W', Below W3.heap.size W3 W' → W'.cell? ⟨w2.heap.size, 0, none⟩ = some (.slice ro rl rc) ∧ W'.cell? ⟨w2.heap.size, 1, none⟩ = some (.slice lo ll lc) ∧ W'.cell? ⟨w2.heap.size, 2, none⟩ = some (.slice mo ml mc)) := fun W' h => ⟨(h.cell (lt_of_cell f0)).trans f0, (h.cell (lt_of_cell f1)).trans f1, (h.cell (lt_of_cell f2)).trans f2⟩
  have g0 : W3.cell? ⟨w.heap.size, 0, none⟩ = some (.int .i64 d) := HKC.out W3 HX.out.2.2.2
  have g1 : (w2.alloc (.cells #[.slice ro rl rc, .slice lo ll lc, .slice mo ml mc] 51)).cell? ⟨w.heap.size, 0, none⟩ = some (.int .i64 d) := by rw [← hW3]; exact g0
  clear hx hb3 f0 f1 f2 g0 c0
  go_wp2
  rw [← hW3]
  clear hW3 g1
  go_loopw [2, 3, 6, 7, 8, 9, 21] (fun _ _ x _ _ _ i wr => ∃ j : Nat, j ≤ d + 1 ∧ i = .int .i64 j ∧ wr.ownsRow W3.heap.size 3 1 x j (ints (fsL d P s j)) ∧ Below W3.heap.size W3 wr) (fun _ _ _ _ _ _ i _ => d + 1 - (intOf i).toNat)
  case atStart => exact ⟨0, Nat.zero_le _, rfl, World.ownsRow_nil _ _ _ _, Below.refl _ _⟩
  case round =>
    obtain ⟨q, hq, rfl, ho, hbel⟩ := hrel
    have HO : Hid (wr.ownsRow W3.heap.size 3 1 u6 q (ints (fsL d P s q))) := ho
    have HBa : Hid (Below W3.heap.size W3 wr) := hbel
    have HBW : Hid (Below W.heap.size W wr) := HX.out.2.2.2.trans (hbel.mono HX.out.2.2.2.size)
    clear ho hbel
    by_cases hqd : q ≤ d
    · have hqI : (q : Int) < (d : Int) + 1 := by omega
      have hq4 : q ≤ 4 := by omega
      obtain ⟨f0, f1, f2⟩ := HKF.out wr HBa.out
      have HSN : Hid (ints (fsL d P s (q + 1)) = ints (fsL d P s q) ++ [.int .i64 (plA q d P s d [])]) := by
        show _ = _
        rw [fsL_succ]
        simp [ints]
      have HPQ2 : Hid (Calls Tryz.prog 32 #[.agg #[.slice ro rl rc, .slice lo ll lc, .slice mo ml mc], .int .i64 q, .int .i64 0] wr fun e w' => e = .returned (.tuple #[.int .i64 (plA q d P s d []), .int .i64 0]) ∧ Below wr.heap.size wr w') :=
        HPL.out q wr _ _ _ hq4 ((HX.out.1.below HBa.out (Nat.le_refl _)).any (Nat.le_refl _)) ((HX.out.2.1.below HBa.out (Nat.le_refl _)).any (Nat.le_refl _)) ((HX.out.2.2.1.below HBa.out (Nat.le_refl _)).any (Nat.le_refl _))
      generalize plA q d P s d [] = pa at *
      go_wp2_with fail
      refine HPQ2.out.mono ?_
      rintro e w4 ⟨rfl, hb2⟩
      have HO2 : Hid (w4.ownsRow W3.heap.size 3 1 u6 q (ints (fsL d P s q))) := owns_below HO.out hb2 (Nat.le_refl _)
      have HB2 : Hid (Below W3.heap.size W3 w4) := HBa.out.trans (hb2.mono HBa.out.size)
      have hsz2 : W3.heap.size ≤ w4.heap.size := HB2.out.size
      clear hb2 HPQ2 f0 f1 f2
      go_wp2_with (first | (at_builtin; refine wpList_append_own _ rfl _ _ 22 rfl W3.heap.size 3 i3 (.int .i64 0) 1 8 Tryz.underlying22 hi3 hz30 hz31 hz32 rfl (by decide) _ _ _ rfl (HO2.out.alloc _) ⟨w4.heap.size, 0, none⟩ 1 1 [.int .i64 pa] rfl rfl (one_new _ _ _) (one_int _) ?c3 ?c4 ?c5 ?_))
      case c3 => unfold maxLen; omega
      case c4 => omega
      case c5 => first | exact hsz2 | omega | (simp; omega)
      intro v' w5 ho3 hg3 _
      have R1 : Hid (w5.ownsRow W3.heap.size 3 1 v' (q + 1) (ints (fsL d P s (q + 1)))) := by
        show World.ownsRow _ _ _ _ _ _ _
        rw [HSN.out]
        exact ho3
      have R2 : Hid (Below W3.heap.size W3 w5) := (HB2.out.alloc hsz2 _).grown hg3 (by simp; omega) (fun x hx => (HO2.out.lt x hx).1)
      clear ho3 hg3
      go_wp2
      exact ⟨⟨q + 1, by omega, by go_num, R1.out, R2.out⟩, by simp [intOf]; omega⟩
    · have hqe : q = d + 1 := by omega
      have HSF : Hid (Sl wr.heap.size 3 wr u6 (ints (fsL d P s (d + 1)))) := by
        have h := HO.out
        rw [hqe] at h
        exact (Sl.own (B := 0) h).any (Nat.le_refl _)
      have hqI : ¬ ((q : Int) < (d : Int) + 1) := by omega
      have k0 := HKC.out wr HBW.out
      have HBF : Hid (Below w.heap.size w wr) := HW.out.trans (HBW.out.mono HSW.out)
      clear hqe hq hqd
      go_wp2_with fail
      refine (HLS.out wr u6 HSF.out).mono ?_
      rintro e w6 ⟨u, rfl, hs6, hb6⟩
      have HR : Hid (Sl w6.heap.size 3 w6 u (ints (dpL d P s)) ∧ Below w.heap.size w w6) := ⟨hs6, HBF.out.trans (hb6.mono HBF.out.size)⟩
      clear hs6 hb6 k0
      go_wp2
      go_ret2
      exact ⟨_, rfl, HR.out.1, HR.out.2⟩

end Go.Proofs.YtbmncbbibipoaaaGreat

/- The document's answer: n over k. -/
namespace Go.Proofs.YtbmncbbibipoaaaGreat
open Go.RowKit
attribute [local go_sem ↓] Go.wp_at_zero Go.wp_at_succ

/-- Each and the one ahead. -/
def upF (F : Nat → Int) : Nat → Int := fun i => if i = 0 then F 0 else F i + F (i - 1)

def upN : Nat → (Nat → Int) → Nat → Int
  | 0, F => F
  | t + 1, F => upF (upN t F)

def unt : Nat → Int := fun i => if i = 0 then 1 else 0

theorem upN_bd : ∀ t i, (upN t unt i).natAbs ≤ 2 ^ t
  | 0, i => by simp only [upN, unt]; split <;> simp
  | t + 1, i => by
    have h1 := upN_bd t i
    have h2 := upN_bd t (i - 1)
    have h0 := upN_bd t 0
    have e : 2 ^ (t + 1) = 2 ^ t + 2 ^ t := by rw [Nat.pow_succ]; omega
    show (upF (upN t unt) i).natAbs ≤ _
    unfold upF
    rw [e]
    generalize 2 ^ t = q at *
    split <;> omega

/-- n over k, as it is reckoned. -/
def wy (n k : Nat) : Int := upN n unt k

set_option maxRecDepth 100000 in
set_option maxHeartbeats 800000 in
theorem ways_any (n k : Nat) (w : World) (hn : n ≤ 5) (hk : k ≤ n) :
    Calls Tryz.prog 29 #[.int .i64 n, .int .i64 k] w fun e w' => e = .returned (.int .i64 (wy n k)) ∧ Below w.heap.size w w' := by
  have hmk := run_make_row' (P := Tryz.prog) 22 3 (.int .i64 0) 8 Tryz.underlying22 Tryz.info3 rfl .i64 .i64 (n + 1) (by omega) (by omega)
  have hmk2 : ∀ w : World, (Instr.makeSlice 22 (.int .i64 ((n : Int) + 1)) (.int .i64 ((n : Int) + 1))).run Tryz.prog w = .ok (.slice (some ⟨w.heap.size, 0, none⟩) (n + 1) (n + 1)) (w.alloc (.cells (madeCells #[.int .i64 0] (n + 1)) 3)) := fun w => by
    have h := hmk w
    rw [show ((n + 1 : Nat) : Int) = (n : Int) + 1 by omega] at h
    exact h
  have HUB : Hid (∀ t i, t ≤ 5 → (upN t unt i).natAbs ≤ 32) := fun t i ht => Nat.le_trans (upN_bd t i) (Nat.le_trans (Nat.pow_le_pow_right (by decide) ht) (by decide))
  obtain ⟨W, hW⟩ : ∃ W, W = (w.alloc (.cells (madeCells #[.int .i64 0] (n + 1)) 3)).setCell ⟨w.heap.size, 0, none⟩ (.int .i64 1) := ⟨_, rfl⟩
  have HRM : Hid (W.rowIs w.heap.size 3 (n + 1) (fun i => .int .i64 (unt i)) ∧ Below w.heap.size w W) := by
    rw [hW]
    refine ⟨?_, ((Touch.refl _ _).setCell 0 _).below ((Below.refl _ _).alloc (Nat.le_refl _) _) (Nat.le_refl _)⟩
    refine ((World.rowIs_made w (.int .i64 0) (n + 1) 3).set 0 (.int .i64 1)).congr fun i hi => ?_
    unfold unt
    by_cases h : i = 0
    · simp [h]
    · simp [h]
  have HW2 : Hid (w.alloc (.cells ((madeCells #[.int .i64 0] (n + 1)).setIfInBounds 0 (.int .i64 1)) 3) = W) := by
    show _ = _
    rw [hW]; simp [go_sem]
  clear hW
  have k0 : ¬ ((k : Int) < 0) := by omega
  have k1 : ¬ ((n : Int) < (k : Int)) := by omega
  have hnp : wrap64 ((n : Int) + 1) = (n : Int) + 1 := IntWalk.wrap64_in _ ⟨by omega, by omega⟩
  have h0c : (w.alloc (.cells (madeCells #[.int .i64 0] (n + 1)) 3)).cell? ⟨w.heap.size, 0, none⟩ = some (.int .i64 0) := (World.rowIs_made w (.int .i64 0) (n + 1) 3).cell (i := 0) (by omega)
  have h0f : (w.alloc (.cells (madeCells #[.int .i64 0] (n + 1)) 3)).frozen? ⟨w.heap.size, 0, none⟩ = false := (World.rowIs_made w (.int .i64 0) (n + 1) 3).frozen 0
  have h0I : (0 : Int) < (n : Int) + 1 := by omega
  have h0N : 0 < n + 1 := by omega
  clear hmk
  go_enter Tryz.func29, Tryz.ntmps29
  go_wp2
  rw [HW2.out]
  clear HW2 hmk2 h0c h0f
  go_loopw [6, 7] (fun i _ wr => ∃ (t : Nat) (F : Nat → Value), t ≤ n ∧ i = .int .i64 t ∧ wr.rowIs w.heap.size 3 (n + 1) F ∧ (∀ i, i < n + 1 → F i = .int .i64 (upN t unt i)) ∧ Below w.heap.size w wr) (fun i _ _ => n - (intOf i).toNat)
  case atStart => exact ⟨0, _, Nat.zero_le _, rfl, HRM.out.1, fun i hi => rfl, HRM.out.2⟩
  case round =>
    obtain ⟨t, F, htt, rfl, hrow, hF, hbel⟩ := hrel
    have HR : Hid (wr.rowIs w.heap.size 3 (n + 1) F) := hrow
    have HF : Hid (∀ i, i < n + 1 → F i = .int .i64 (upN t unt i)) := hF
    have HB : Hid (Below w.heap.size w wr) := hbel
    clear hrow hF hbel
    by_cases hlt : t < n
    · have htI : (t : Int) < (n : Int) := by omega
      rename World => wa
      go_wp2
      go_loopw [7] (fun i wr => ∃ (j : Nat) (F : Nat → Value), j ≤ n ∧ i = .int .i64 j ∧ wr.rowIs w.heap.size 3 (n + 1) F ∧ (∀ i, i < n + 1 → F i = .int .i64 (if j < i then upN (t + 1) unt i else upN t unt i)) ∧ Below w.heap.size w wr) (fun i _ => (intOf i).toNat)
      case atStart => exact ⟨n, F, Nat.le_refl _, rfl, HR.out, fun i hi => by rw [if_neg (by omega)]; exact HF.out i hi, HB.out⟩
      case round =>
        obtain ⟨j, F2, hj, rfl, hrow, hF, hbel⟩ := hrel
        have HR2 : Hid (wr.rowIs w.heap.size 3 (n + 1) F2) := hrow
        have HF2 : Hid (∀ i, i < n + 1 → F2 i = .int .i64 (if j < i then upN (t + 1) unt i else upN t unt i)) := hF
        have HB2 : Hid (Below w.heap.size w wr) := hbel
        clear hrow hF hbel
        by_cases hj0 : 0 < j
        · obtain ⟨j1, hj1⟩ : ∃ j1, j = j1 + 1 := ⟨j - 1, by omega⟩
          subst hj1
          have ca := HR2.out.cell (i := j1 + 1) (by omega)
          have cb := HR2.out.cell (i := j1) (by omega)
          have cf := HR2.out.frozen (j1 + 1)
          rw [HF2.out _ (by omega), if_neg (by omega)] at ca
          rw [HF2.out _ (by omega), if_neg (by omega)] at cb
          have HLS : Hid (upN (t + 1) unt (j1 + 1) = upN t unt (j1 + 1) + upN t unt j1) := by
            show upF (upN t unt) (j1 + 1) = _
            unfold upF
            rw [if_neg (by omega), Nat.add_sub_cancel]
          have hb1 := HUB.out t (j1 + 1) (by omega)
          have hb2 := HUB.out t j1 (by omega)
          have R1 : Hid ((wr.setCell ⟨w.heap.size, j1 + 1, none⟩ (.int .i64 (upN t unt (j1 + 1) + upN t unt j1))).drew.rowIs w.heap.size 3 (n + 1) (fun i => if i = j1 + 1 then .int .i64 (upN t unt (j1 + 1) + upN t unt j1) else F2 i)) := (HR2.out.set (j1 + 1) _).drew
          have R2 : Hid (∀ i, i < n + 1 → (if i = j1 + 1 then Value.int .i64 (upN t unt (j1 + 1) + upN t unt j1) else F2 i) = .int .i64 (if j1 < i then upN (t + 1) unt i else upN t unt i)) := fun i hi => by
            by_cases h1 : i = j1 + 1
            · rw [if_pos h1, if_pos (by omega), h1, HLS.out]
            · rw [if_neg h1, HF2.out i hi]
              by_cases h2 : j1 + 1 < i
              · rw [if_pos h2, if_pos (by omega)]
              · rw [if_neg h2, if_neg (by omega)]
          have R3 : Hid (Below w.heap.size w (wr.setCell ⟨w.heap.size, j1 + 1, none⟩ (.int .i64 (upN t unt (j1 + 1) + upN t unt j1))).drew) := Below.drew (((Touch.refl _ _).setCell (j1 + 1) _).below HB2.out (Nat.le_refl _))
          generalize upN t unt (j1 + 1) = za at *
          generalize upN t unt j1 = zb at *
          have h1I : (j1 : Int) + 1 < (n : Int) + 1 := by omega
          have h1I0 : (0 : Int) ≤ (j1 : Int) + 1 := by omega
          have h1N : j1 + 1 < n + 1 := by omega
          have h2N : j1 < n + 1 := by omega
          have h2I : (j1 : Int) < (n : Int) + 1 := by omega
          have h2I0 : (0 : Int) ≤ (j1 : Int) := by omega
          have h3 : (0 : Int) < (j1 : Int) + 1 := by omega
          clear hj0
          go_wp2
          go_region
          go_wp2
          exact ⟨⟨j1, _, by omega, by go_num, R1.out, R2.out, R3.out⟩, by simp [intOf]⟩
        · have R2 : Hid (∀ i, i < n + 1 → F2 i = .int .i64 (upN (t + 1) unt i)) := fun i hi => by
            rw [HF2.out i hi]
            by_cases h1 : j < i
            · rw [if_pos h1]
            · rw [if_neg h1, show i = 0 by omega]
              rfl
          have hjI : ¬ ((0 : Int) < (j : Int)) := by omega
          clear hj hj0
          go_wp2
          exact ⟨⟨t + 1, F2, hlt, by go_num, HR2.out, R2.out, HB2.out⟩, by simp [intOf]; omega⟩
    · obtain rfl : t = n := by omega
      have ck := HR.out.cell (i := k) (by omega)
      rw [HF.out k (by omega)] at ck
      have HWK : Hid (wy t k = upN t unt k) := rfl
      generalize upN t unt k = z at *
      have hkI : (k : Int) < (t : Int) + 1 := by omega
      have hkN : k < t + 1 := by omega
      have hkI0 : (0 : Int) ≤ (k : Int) := by omega
      clear htt hlt
      go_wp2
      go_ret
      exact ⟨ret_int HWK.out.symm, HB.out⟩

end Go.Proofs.YtbmncbbibipoaaaGreat

/- The document's answer: Stanley's numbers. -/
namespace Go.Proofs.YtbmncbbibipoaaaGreat
open Go.RowKit
attribute [local go_sem ↓] Go.wp_at_zero Go.wp_at_succ

def sg : Nat → Int
  | 0 => 1
  | j + 1 => - sg j

theorem sg_or : ∀ j, sg j = 1 ∨ sg j = -1
  | 0 => Or.inl rfl
  | j + 1 => by
    have h := sg_or j
    show - sg j = 1 ∨ - sg j = -1
    omega

/-- The first j terms of the i-th number. -/
def dlT (d : Nat) (G : Nat → Int) (i : Nat) : Nat → Int
  | 0 => 0
  | j + 1 => dlT d G i j + sg j * wy (d + 1) j * G (i - j)

def dlL (d : Nat) (G : Nat → Int) (n : Nat) : List Int := (List.range n).map fun i => dlT d G i (i + 1)

theorem dlL_succ (d : Nat) (G : Nat → Int) (n : Nat) : dlL d G (n + 1) = dlL d G n ++ [dlT d G n (n + 1)] := by
  unfold dlL
  rw [List.range_succ, List.map_append]
  rfl

theorem wy_bd {d j : Nat} (hd : d ≤ 4) : (wy (d + 1) j).natAbs ≤ 32 := Nat.le_trans (upN_bd (d + 1) j) (Nat.le_trans (Nat.pow_le_pow_right (by decide) (show d + 1 ≤ 5 by omega)) (by decide))

theorem dterm_bd {d i j : Nat} {G : Nat → Int} (hd : d ≤ 4) (hG : ∀ i, i ≤ d → (G i).natAbs ≤ 100000000000000) (hi : i ≤ d) : (sg j * wy (d + 1) j * G (i - j)).natAbs ≤ 3200000000000000 ∧ (sg j * wy (d + 1) j).natAbs ≤ 32 := by
  have h1 : (sg j * wy (d + 1) j).natAbs ≤ 32 := by
    rw [Int.natAbs_mul]
    have := wy_bd (j := j) hd
    rcases sg_or j with h | h <;> rw [h] <;> simp <;> exact this
  refine ⟨?_, h1⟩
  rw [Int.natAbs_mul]
  exact Nat.le_trans (Nat.mul_le_mul h1 (hG (i - j) (by omega))) (by decide)

theorem dlT_bd {d i : Nat} {G : Nat → Int} (hd : d ≤ 4) (hG : ∀ i, i ≤ d → (G i).natAbs ≤ 100000000000000) (hi : i ≤ d) : ∀ j, (dlT d G i j).natAbs ≤ j * 3200000000000000
  | 0 => by simp [dlT]
  | j + 1 => by
    have h1 := dlT_bd hd hG hi j
    have h2 := (dterm_bd (j := j) hd hG hi).1
    show (dlT d G i j + sg j * wy (d + 1) j * G (i - j)).natAbs ≤ _
    generalize sg j * wy (d + 1) j * G (i - j) = q at *
    generalize dlT d G i j = p at *
    omega

set_option maxRecDepth 100000 in
set_option maxHeartbeats 1600000 in
theorem deltaOf_any (B d : Nat) (l : List Int) (v : Value) (w : World) (hv : Sl B 3 w v (ints l)) (hl : l.length = d + 1) (hd : d ≤ 4) (hb : ∀ i, i ≤ d → (l.getD i 0).natAbs ≤ 100000000000000) :
    Calls Tryz.prog 16 #[v] w fun e w' => ∃ u, e = .returned u ∧ Sl w'.heap.size 3 w' u (ints (dlL d (fun i => l.getD i 0) (d + 1))) ∧ Below w.heap.size w w' := by
  obtain ⟨i3, hi3, hz30, hz31, hz32⟩ := info_parts Tryz.info3
  obtain ⟨ao, cap, hvv, hlc, hcm⟩ := sl_open hv
  rw [hl] at hvv hlc
  subst hvv
  have HV : Hid (Sl w.heap.size 3 w (.slice ao (d + 1) cap) (ints l)) := hv.any (Nat.le_refl _)
  have HL : Hid (l.length = d + 1) := hl
  obtain ⟨G, hG⟩ : ∃ G : Nat → Int, G = fun i => l.getD i 0 := ⟨_, rfl⟩
  have HG : Hid (∀ i, G i = l.getD i 0) := fun i => by rw [hG]
  have HGB : Hid (∀ i, i ≤ d → (G i).natAbs ≤ 100000000000000) := fun i hi => by rw [hG]; exact hb i hi
  rw [← hG]
  have HWY : Hid (∀ (j : Nat) W, j ≤ d + 1 → Calls Tryz.prog 29 #[.int .i64 ((d : Int) + 1), .int .i64 j] W fun e w' => e = .returned (.int .i64 (wy (d + 1) j)) ∧ Below W.heap.size W w') := fun j W hj => by
    have h := ways_any (d + 1) j W (by omega) hj
    rw [show ((d + 1 : Nat) : Int) = (d : Int) + 1 by omega] at h
    exact h
  clear hv hl hG hb
  go_enter Tryz.func16, Tryz.ntmps16
  go_wp2
  go_loopw [4, 5] (fun x i wr => ∃ q : Nat, q ≤ d + 1 ∧ i = .int .i64 q ∧ wr.ownsRow w.heap.size 3 1 x q (ints (dlL d G q)) ∧ Below w.heap.size w wr) (fun _ i _ => d + 1 - (intOf i).toNat)
  case atStart => exact ⟨0, Nat.zero_le _, rfl, World.ownsRow_nil _ _ _ _, Below.refl _ _⟩
  case round =>
    obtain ⟨q, hq, rfl, ho, hbel⟩ := hrel
    rename World => wa
    have HO : Hid (wa.ownsRow w.heap.size 3 1 u4 q (ints (dlL d G q))) := ho
    have HB : Hid (Below w.heap.size w wa) := hbel
    have hsza : w.heap.size ≤ wa.heap.size := hbel.size
    clear ho hbel
    by_cases hqd : q ≤ d
    · have hqI : (q : Int) ≤ (d : Int) := by omega
      go_wp2
      go_loopw [6, 7, 8] (fun x y i wr => ∃ j : Nat, j ≤ q + 1 ∧ i = .int .i64 j ∧ x = .int .i64 (dlT d G q j) ∧ y = .int .i64 (sg j) ∧ Below wa.heap.size wa wr) (fun _ _ i _ => q + 1 - (intOf i).toNat)
      case atStart => exact ⟨0, Nat.zero_le _, rfl, rfl, rfl, Below.refl _ _⟩
      case round =>
        obtain ⟨j, hj, rfl, rfl, rfl, hbel⟩ := hrel
        have HBa : Hid (Below wa.heap.size wa wr) := hbel
        have HBw : Hid (Below w.heap.size w wr) := HB.out.trans (hbel.mono hsza)
        clear hbel
        by_cases hjq : j ≤ q
        · obtain ⟨b1, o1, c1, hs1, _, hcc1⟩ := sl_cell (HV.out.below HBw.out (Nat.le_refl _)) (k := q - j) (by rw [HL.out]; omega)
          rw [HL.out] at hs1
          simp only [Value.slice.injEq, true_and] at hs1
          obtain ⟨rfl, rfl⟩ := hs1
          obtain ⟨t, ht⟩ : ∃ t, q = j + t := ⟨q - j, by omega⟩
          rw [← HG.out] at hcc1
          have hb1 := dterm_bd (j := j) hd HGB.out hqd
          have hb2 := dlT_bd hd HGB.out hqd j
          have hb3 := dlT_bd hd HGB.out hqd (j + 1)
          have HDT : Hid (dlT d G q (j + 1) = dlT d G q j + sg j * wy (d + 1) j * G (q - j)) := rfl
          rw [HDT.out] at hb3
          have hsg := sg_or j
          have hsb : (sg j).natAbs ≤ 1 := by rcases hsg with h | h <;> rw [h] <;> decide
          have HSG : Hid (sg (j + 1) = - sg j) := rfl
          have hqj : q - j = t := by omega
          rw [hqj] at hcc1 hb1 hb3 HDT
          have hbt := HGB.out t (by omega)
          have hwd : IntKind.i64.wrap ((d : Int) + 1) = (d : Int) + 1 := by rw [IntKind.wrap_i64]; omega
          have HWJ : Hid (∀ W, Calls Tryz.prog 29 #[.int .i64 (IntKind.i64.wrap ((d : Int) + 1)), .int .i64 j] W fun e w' => e = .returned (.int .i64 (wy (d + 1) j)) ∧ Below W.heap.size W w') := fun W => by
            rw [hwd]
            exact HWY.out j W (by omega)
          clear hwd
          have HCC : Hid (∀ W, Below wr.heap.size wr W → W.cell? ⟨b1, o1 + t, none⟩ = some (.int .i64 (G t))) := fun W h => (h.cell (lt_of_cell hcc1)).trans hcc1
          generalize dlT d G q j = S at *
          generalize sg j = g at *
          generalize wy (d + 1) j = wv at *
          generalize G t = z at *
          have hw1 : wrap64 (g * wv) = g * wv := IntWalk.wrap64_in _ ⟨by omega, by omega⟩
          have hw2 : wrap64 (g * wv * z) = g * wv * z := IntWalk.wrap64_in _ ⟨by omega, by omega⟩
          have hjb : j * 3200000000000000 ≤ 6 * 3200000000000000 := Nat.mul_le_mul_right _ (by omega)
          have hjb2 : (j + 1) * 3200000000000000 ≤ 6 * 3200000000000000 := Nat.mul_le_mul_right _ (by omega)
          have hw3 : wrap64 (S + g * wv * z) = S + g * wv * z := IntWalk.wrap64_in _ ⟨by omega, by omega⟩
          have HW3 : Hid (wrap64 (S + g * wv * z) = S + g * wv * z) := hw3
          have hm1 : IntKind.i64.wrap (g * wv) = g * wv := by rw [IntKind.wrap_i64]; omega
          have hm2 : IntKind.i64.wrap (g * wv * z) = g * wv * z := by rw [IntKind.wrap_i64]; omega
          have hm3 : IntKind.i64.wrap (S + g * wv * z) = S + g * wv * z := by rw [IntKind.wrap_i64]; omega
          have hjI : (j : Int) ≤ (q : Int) := by omega
          have HQT : Hid (q = j + t) := ht
          have htI : (t : Int) < (d : Int) + 1 := by omega
          have htI0 : (0 : Int) ≤ (t : Int) := by omega
          have htN : t < d + 1 := by omega
          clear hb1 hb2 hb3 hsg hqj hjb hjb2 hbt
          have hqj3 : (q : Int) - (j : Int) = (t : Int) := by omega
          have hqj5 : IntKind.i64.wrap ((q : Int) - (j : Int)) = (t : Int) := by rw [hqj3, IntKind.wrap_i64]; omega
          have hqj6 : IntKind.i64.wrap (t : Int) = (t : Int) := by rw [IntKind.wrap_i64]; omega
          clear HV HG HGB HWY HL ht hqd
          go_wp2
          go_region_held3 (fun w' => w'.cell? ⟨b1, o1 + t, none⟩ = some (.int .i64 z)) (first | exact KS.out | go_keep)
            (first | (go_at_call 29; refine (HWJ.out _).mono ?_; rintro e w3 ⟨rfl, hb3⟩; have HB3 : Hid (Below wr.heap.size wr w3) := ⟨hb3.os, hb3.tape, hb3.output, hb3.size, hb3.block⟩; clear hb3; have KS : Hid _ := HCC.out w3 HB3.out))
          all_goals
            have R2 : Hid (Below wa.heap.size wa w3) := HBa.out.trans (HB3.out.mono HBa.out.size)
            clear KS
            go_wp2
            exact ⟨⟨j + 1, by omega, by go_num, by rw [HDT.out], by rw [HSG.out], R2.out⟩, by simp [intOf]; omega⟩
        · have hje : j = q + 1 := by omega
          have HSN : Hid (ints (dlL d G (q + 1)) = ints (dlL d G q) ++ [.int .i64 (dlT d G q (q + 1))]) := by
            show _ = _
            rw [dlL_succ]
            simp [ints]
          rw [hje]
          have hjI : ¬ (((q + 1 : Nat) : Int) ≤ (q : Int)) := by omega
          have hjI2 : ¬ ((q : Int) + 1 ≤ (q : Int)) := by omega
          have HOr : Hid (wr.ownsRow w.heap.size 3 1 u4 q (ints (dlL d G q))) := owns_below HO.out HBa.out (Nat.le_refl _)
          have hszr : w.heap.size ≤ wr.heap.size := HBw.out.size
          generalize dlT d G q (q + 1) = S at *
          clear hje hj hjq
          go_wp2_with (first | (at_builtin; refine wpList_append_own _ rfl _ _ 22 rfl w.heap.size 3 i3 (.int .i64 0) 1 8 Tryz.underlying22 hi3 hz30 hz31 hz32 rfl (by decide) _ _ _ rfl (HOr.out.alloc _) ⟨wr.heap.size, 0, none⟩ 1 1 [.int .i64 S] rfl rfl (one_new _ _ _) (one_int _) ?c3 ?c4 ?c5 ?_))
          case c3 => unfold maxLen; omega
          case c4 => omega
          case c5 => first | exact hszr | omega | (simp; omega)
          intro v' w3 ho3 hg3 _
          have R1 : Hid (w3.ownsRow w.heap.size 3 1 v' (q + 1) (ints (dlL d G (q + 1)))) := by
            show World.ownsRow _ _ _ _ _ _ _
            rw [HSN.out]
            exact ho3
          have R2 : Hid (Below w.heap.size w w3) := (HBw.out.alloc hszr _).grown hg3 (by simp; omega) (fun x hx => (HOr.out.lt x hx).1)
          clear ho3 hg3
          go_wp2
          exact ⟨⟨q + 1, by omega, by go_num, R1.out, R2.out⟩, by simp [intOf]; omega⟩
    · have hqe : q = d + 1 := by omega
      have HSF : Hid (Sl wa.heap.size 3 wa u4 (ints (dlL d G (d + 1)))) := by
        have h := HO.out
        rw [hqe] at h
        exact (Sl.own (B := 0) h).any (Nat.le_refl _)
      have hqI : ¬ ((q : Int) ≤ (d : Int)) := by omega
      clear hqe hq hqd
      go_wp2
      go_ret
      exact ⟨_, rfl, HSF.out, HB.out⟩

end Go.Proofs.YtbmncbbibipoaaaGreat
