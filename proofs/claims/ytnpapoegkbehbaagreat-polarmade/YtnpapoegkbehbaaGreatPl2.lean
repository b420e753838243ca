/- polar.rowsAroundZero, areWhole, Corners, Whole of points around 0. -/
import Derived.Test.YtnpapoegkbehbaaGreatPl1
import Derived.Test.YtnpapoegkbehbaaGreatWhY
import Derived.Test.YtnpapoegkbehbaaGreatLtA
namespace Go.Proofs.YtnpapoegkbehbaaGreat
open Go.RowKit
attribute [local go_sem ↓] Go.wp_at_zero Go.wp_at_succ

/-- Points around 0, and their rows in order. -/
structure PlG (d : Nat) (P q : List (List Int)) : Prop where
  good : Good d P
  box : Box d 6 P
  d3 : d ≤ 3
  n16 : P.length ≤ 16
  pos : ∀ r ∈ rowsD P d, 0 < r.getD d 0
  asc : SAsc q
  mem : ∀ r, r ∈ q ↔ r ∈ rowsD P d

theorem PlG.len {d : Nat} {P q : List (List Int)} (h : PlG d P q) {r : List Int} (hr : r ∈ q) : r.length = d + 1 :=
  (rowsD_facts (box_up h.box) h.good.d1 (by have := h.d3; omega) r ((h.mem r).1 hr)).len
theorem PlG.ps {d : Nat} {P q : List (List Int)} (h : PlG d P q) {r : List Int} (hr : r ∈ q) : 0 < r.getD d 0 := h.pos r ((h.mem r).1 hr)
theorem PlG.many {d : Nat} {P q : List (List Int)} (h : PlG d P q) : q.length ≤ 16777216 := rowsD_len h.good.d4 h.n16 h.asc h.mem

/-- Are all last numbers 1? -/
def allOne (d : Nat) (q : List (List Int)) : Bool := !(q.any fun r => !(r.getD d 0 == 1))

set_option maxRecDepth 100000 in
set_option maxHeartbeats 400000 in
theorem zero1_any (B d : Nat) (r : List Int) (rv : Value) (g : Nat) (W : World) (hd : d < r.length) (hr : Sl B 3 W rv (ints r)) (hg : W.cell? ⟨g, 0, none⟩ = some (.int .i64 (d : Int))) :
    Calls Tryz.prog 39 #[rv, .pointer (some ⟨g, 0, none⟩)] W fun e w' => e = .returned (.bool (decide (r.getD d 0 ≤ 0))) ∧ w' = W := by
  obtain ⟨b, o, cp, hs, hc1, hcc⟩ := sl_cell hr hd
  subst hs
  have kI : (d : Int) < (r.length : Int) := by omega
  have kI0 : (0 : Int) ≤ (d : Int) := by omega
  clear hr
  generalize r.getD d 0 = z at *
  go_enter Tryz.func39, Tryz.ntmps39
  go_wp2
  go_ret
  exact ⟨by simp, rfl⟩

set_option maxRecDepth 100000 in
set_option maxHeartbeats 400000 in
theorem whole1_any (B d : Nat) (r : List Int) (rv : Value) (W : World) (hd : r.length = d + 1) (hd3 : d ≤ 3) (hr : Sl B 3 W rv (ints r)) :
    Calls Tryz.prog 40 #[rv] W fun e w' => e = .returned (.bool (!(r.getD d 0 == 1))) ∧ w' = W := by
  obtain ⟨b, o, cp, hs, hc1, hcc⟩ := sl_cell hr (k := d) (by omega)
  rw [hd] at hs hc1
  subst hs
  have kI : (d : Int) < ((d + 1 : Nat) : Int) := by omega
  have kI0 : (0 : Int) ≤ (d : Int) := by omega
  have e1 : ((d + 1 : Nat) : Int) - 1 = (d : Int) := by omega
  clear hr hd
  generalize r.getD d 0 = z at *
  go_enter Tryz.func40, Tryz.ntmps40
  go_wp2
  go_ret
  exact ⟨by simp [bne], rfl⟩

set_option maxRecDepth 100000 in
set_option maxHeartbeats 800000 in
theorem raz_any (d : Nat) (P q : List (List Int)) (v : Value) (w : World) (hv : Mat w.heap.size 22 3 w v P) (hG : PlG d P q) :
    Calls Tryz.prog 24 #[.agg #[.int .i64 d, v]] w fun e w' => ∃ uo uc, e = .returned (.tuple #[.slice uo q.length uc, .int .i64 0]) ∧ Fr w.heap.size 22 3 w' (.slice uo q.length uc) q ∧ Below w.heap.size w w' := by
  obtain ⟨ao, cap, hvv, hlc, hcm⟩ := mat_open hv
  obtain ⟨vl, hvl⟩ : ∃ vl, vl = P.length := ⟨_, rfl⟩
  rw [← hvl] at hvv
  subst hvv
  obtain ⟨W, hW⟩ : ∃ W, W = w.alloc (.cells #[.int .i64 d, .slice ao vl cap] 26) := ⟨_, rfl⟩
  obtain ⟨g, hgd⟩ : ∃ g, g = w.heap.size := ⟨_, rfl⟩
  have hbw : Below w.heap.size w W := by rw [hW]; exact (Below.refl _ _).alloc (Nat.le_refl _) _
  have hsW : W.heap.size = w.heap.size + 1 := by rw [hW]; simp
  have c0 : W.cell? ⟨g, 0, none⟩ = some (.int .i64 d) := by rw [hgd, hW]; simp
  have c1 : W.cell? ⟨g, 1, none⟩ = some (.slice ao vl cap) := by rw [hgd, hW]; simp
  have HR : Hid (Calls Tryz.prog 37 #[.agg #[.int .i64 d, .slice ao vl cap]] W fun e w' => ∃ uo uc, e = .returned (.tuple #[.slice uo q.length uc, .int .i64 0]) ∧ w'.cell? ⟨g, 0, none⟩ = some (.int .i64 d) ∧ (Fr w.heap.size 22 3 w' (.slice uo q.length uc) q ∧ Below w.heap.size w w' ∧ Mat w'.heap.size 22 3 w' (.slice uo q.length uc) q)) := by
    refine (rowsK_fr d P _ W ((hv.below hbw (Nat.le_refl _)).any (by omega)) hG.good).mono ?_
    rintro e w' ⟨P', u, rows, h1, h2, rfl, h6, h5⟩
    have h4 := h6.rws.mat h5.size
    have he := rows_equalK hG.good h1 h2 hG.asc hG.mem
    subst he
    obtain ⟨uo, uc, hx, _, _⟩ := fr_open h6
    subst hx
    exact ⟨uo, uc, rfl, (h5.cell (lt_of_cell c0)).trans c0, h6.mono (by omega), hbw.trans (h5.mono (by omega)), h4⟩
  have HNO : Hid (∀ w1 uo uc, Mat w1.heap.size 22 3 w1 (.slice uo q.length uc) q → w1.cell? ⟨g, 0, none⟩ = some (.int .i64 d) → Calls Tryz.prog 38 #[.slice uo q.length uc, .func (.func 39) #[] #[.pointer (some ⟨g, 0, none⟩)]] w1 fun e w' => e = .returned (.bool false) ∧ Below w1.heap.size w1 w') := fun w1 uo uc hm hc => by
    have h := hasZ_any w1.heap.size (fun r => decide (r.getD d 0 ≤ 0)) q (.slice uo q.length uc) ⟨g, 0, none⟩ w1 hm (fun r hr W' rv hb hs => (zero1_any _ d r rv g W' (by rw [hG.len hr]; omega) hs ((hb.cell (lt_of_cell hc)).trans hc)).mono fun e w' ⟨h1, h2⟩ => ⟨h1, by rw [h2]; exact hb⟩)
    have e : q.any (fun r => decide (r.getD d 0 ≤ 0)) = false := by
      rw [List.any_eq_false]
      intro r hr
      have := hG.ps hr
      simp only [decide_eq_true_eq]
      omega
    rw [e] at h
    exact h
  clear hv hG hbw hvl hsW
  generalize q.length = ql at *
  go_enter Tryz.func24, Tryz.ntmps24
  go_wp2_with fail
  rw [← hW, ← hgd]
  clear hW
  refine HR.out.mono ?_
  rintro e w1 ⟨uo, uc, rfl, k0, hf, hb, hm⟩
  have HF : Hid (Fr w.heap.size 22 3 w1 (.slice uo ql uc) q ∧ Below w.heap.size w w1) := ⟨hf, hb⟩
  have HCF := HNO.out w1 uo uc hm k0
  clear hf hb hm HNO HR hgd c0 c1
  go_wp2_with fail
  refine HCF.mono ?_
  rintro e w2 ⟨rfl, hb2⟩
  have HF2 : Hid (Fr w.heap.size 22 3 w2 (.slice uo ql uc) q ∧ Below w.heap.size w w2) := ⟨HF.out.1.below hb2 (Nat.le_refl _), HF.out.2.trans (hb2.mono HF.out.2.size)⟩
  clear hb2 HCF HF
  go_wp2
  go_ret2
  exact ⟨_, _, rfl, HF2.out⟩

set_option maxRecDepth 100000 in
set_option maxHeartbeats 400000 in
theorem areWhole_any (d : Nat) (q : List (List Int)) (v : Value) (w : World) (hv : Mat w.heap.size 22 3 w v q) (hd3 : d ≤ 3) (hl : ∀ r ∈ q, r.length = d + 1) :
    Calls Tryz.prog 25 #[v] w fun e w' => e = .returned (.bool (allOne d q)) ∧ Below w.heap.size w w' := by
  have HH : Hid (Calls Tryz.prog 38 #[v, .func (.func 40) #[] #[]] w fun e w' => e = .returned (.bool (q.any fun r => !(r.getD d 0 == 1))) ∧ Below w.heap.size w w') :=
    hasW_any w.heap.size (fun r => !(r.getD d 0 == 1)) q v w hv (fun r hr W' rv hb hs => (whole1_any _ d r rv W' (hl r hr) hd3 hs).mono fun e w' ⟨h1, h2⟩ => ⟨h1, by rw [h2]; exact hb⟩)
  obtain ⟨ao, cap, hvv, hlc, hcm⟩ := mat_open hv
  subst hvv
  have HA : Hid (allOne d q = !(q.any fun r => !(r.getD d 0 == 1))) := rfl
  clear hv hl
  generalize (q.any fun r => !(r.getD d 0 == 1)) = bb at *
  go_enter Tryz.func25, Tryz.ntmps25
  go_wp2_with fail
  refine HH.out.mono ?_
  rintro e w1 ⟨rfl, hb⟩
  have HB : Hid (Below w.heap.size w w1) := hb
  clear hb HH
  go_wp2
  go_ret
  exact ⟨by rw [HA.out]; rfl, HB.out⟩

end Go.Proofs.YtnpapoegkbehbaaGreat
