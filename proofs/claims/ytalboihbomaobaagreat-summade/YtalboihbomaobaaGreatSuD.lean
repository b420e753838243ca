import Derived.Test.YtalboihbomaobaaGreatSuC
import Derived.Test.YtalboihbomaobaaGreatSdA
import Derived.Test.YtalboihbomaobaaGreatHmF
import Derived.Test.YtalboihbomaobaaGreatCutA
import Derived.Test.YtalboihbomaobaaGreatMade1
/- The law SumSays, for polytopes that may be added. -/
namespace Go.Proofs.YtalboihbomaobaaGreat
open Go.RowKit Lin
attribute [local go_sem ↓] Go.wp_at_zero Go.wp_at_succ

/-- What the document's sums are. -/
theorem sumsD_any {d : Nat} {P Q : List (List Int)} (h : Two2 d P Q) (u v : Value) (w : World) (hu : Mat w.heap.size 22 3 w u P) (hv : Mat w.heap.size 22 3 w v Q) :
    Calls Tryz.prog 9 #[u, v] w fun e w' => ∃ (xo : Option Addr) (xc : Nat) (S : List (List Int)), e = .returned (.slice xo S.length xc) ∧ Good d S ∧ Box d 15 S ∧ (∀ r, r ∈ S ↔ r ∈ sumP P Q) ∧ Mat 0 22 3 w' (.slice xo S.length xc) S ∧ Below w.heap.size w w' := by
  refine (sumsR_any d 4 P Q u v w hu hv (by have := h.d3; omega) h.bp h.bq (by decide) (by have := h.p24; omega) (by have := h.q24; omega)).mono ?_
  rintro e w' ⟨x, S, rfl, hf, ha, hm, hb⟩
  obtain ⟨xo, xc, rfl, _, _⟩ := mat_open (fr_mat0S hf)
  exact ⟨xo, xc, S, rfl, good_of h.good hm (nodup_lenL S _ ha.nodup fun r hr => (hm r).1 hr), fun r hr => h.box r ((hm r).1 hr), hm, fr_mat0S hf, hb⟩

set_option maxRecDepth 100000 in
set_option maxHeartbeats 3200000 in
theorem sumSays_1 (P Q : List (List Int)) (pv qv : Value) (w : World) (hp : Mat w.heap.size 22 3 w pv P) (hq : Mat w.heap.size 22 3 w qv Q) (h : Two2 1 P Q) :
    Calls Tryz.prog 5 #[.agg #[.int .i64 1, pv], .agg #[.int .i64 1, qv]] w fun e w' => e = .returned (.bool true) ∧ Below w.heap.size w w' := by
  obtain ⟨po, pc, rfl, _, _⟩ := mat_open hp
  obtain ⟨qo, qc, rfl, _, _⟩ := mat_open hq
  obtain ⟨W, hW⟩ : ∃ W, W = (w.alloc (.cells #[.int .i64 1, .slice po P.length pc] 27)).alloc (.cells #[.int .i64 1, .slice qo Q.length qc] 27) := ⟨_, rfl⟩
  have hbw : Below w.heap.size w W := by rw [hW]; exact ((Below.refl _ _).alloc (Nat.le_refl _) _).alloc (by simp) _
  have HW : Hid (Below w.heap.size w W) := hbw
  have c0 : W.cell? ⟨w.heap.size, 0, none⟩ = some (.int .i64 1) := by rw [hW]; simp
  have c1 : W.cell? ⟨w.heap.size, 1, none⟩ = some (.slice po P.length pc) := by rw [hW]; simp
  have c2 : W.cell? ⟨w.heap.size + 1, 0, none⟩ = some (.int .i64 1) := by rw [hW]; simp
  have c3 : W.cell? ⟨w.heap.size + 1, 1, none⟩ = some (.slice qo Q.length qc) := by rw [hW]; simp
  have HC : Hid (∀ X, Below W.heap.size W X → X.cell? ⟨w.heap.size, 0, none⟩ = some (.int .i64 1) ∧ X.cell? ⟨w.heap.size, 1, none⟩ = some (.slice po P.length pc) ∧ X.cell? ⟨w.heap.size + 1, 0, none⟩ = some (.int .i64 1) ∧ X.cell? ⟨w.heap.size + 1, 1, none⟩ = some (.slice qo Q.length qc)) := fun X hX => ⟨(hX.cell (lt_of_cell c0)).trans c0, (hX.cell (lt_of_cell c1)).trans c1, (hX.cell (lt_of_cell c2)).trans c2, (hX.cell (lt_of_cell c3)).trans c3⟩
  have HCS : Hid (∀ X, Below W.heap.size W X → X.cell? ⟨w.heap.size, 1, none⟩ = some (.slice po P.length pc) ∧ X.cell? ⟨w.heap.size + 1, 1, none⟩ = some (.slice qo Q.length qc)) := fun X hX => ⟨(hX.cell (lt_of_cell c1)).trans c1, (hX.cell (lt_of_cell c3)).trans c3⟩
  have hPW : ∀ X, Below W.heap.size W X → Mat X.heap.size 22 3 X (.slice po P.length pc) P := fun X hX => ((hp.below hbw (Nat.le_refl _)).below hX (by have := hbw.size; omega)).any (Nat.le_refl _)
  have hQW : ∀ X, Below W.heap.size W X → Mat X.heap.size 22 3 X (.slice qo Q.length qc) Q := fun X hX => ((hq.below hbw (Nat.le_refl _)).below hX (by have := hbw.size; omega)).any (Nat.le_refl _)
  have K1 : Hid (Calls Tryz.prog 7 #[.slice po P.length pc] W fun e w' => ∃ b, e = .returned (.bool b) ∧ (b = false → P.length ≤ 300) ∧ w' = W) := heavy_any W.heap.size P _ W (hPW W (Below.refl _ _))
  have K2 : Hid (Calls Tryz.prog 7 #[.slice qo Q.length qc] W fun e w' => ∃ b, e = .returned (.bool b) ∧ (b = false → Q.length ≤ 300) ∧ w' = W) := heavy_any W.heap.size Q _ W (hQW W (Below.refl _ _))
  have K3 : Hid (Calls Tryz.prog 8 #[.agg #[.int .i64 1, .slice po P.length pc], .agg #[.int .i64 1, .slice qo Q.length qc]] W fun e w' => e = .returned (.int .i64 0) ∧ Below W.heap.size W w') := mayR_any 1 P Q _ _ W (hPW W (Below.refl _ _)) (hQW W (Below.refl _ _)) h
  have K4 : Hid (∀ X, Below W.heap.size W X → Calls Tryz.prog 9 #[.slice po P.length pc, .slice qo Q.length qc] X fun e w' => ∃ (xo : Option Addr) (xc : Nat) (S : List (List Int)), e = .returned (.slice xo S.length xc) ∧ (Good 1 S ∧ Box 1 15 S ∧ (∀ r, r ∈ S ↔ r ∈ sumP P Q) ∧ Mat 0 22 3 w' (.slice xo S.length xc) S ∧ Below X.heap.size X w')) := fun X hX => (sumsD_any h _ _ X (hPW X hX) (hQW X hX)).mono fun e w' ⟨xo, xc, S, e1, e2⟩ => ⟨xo, xc, S, e1, e2⟩
  have K5 : Hid (∀ X u (S : List (List Int)), Good 1 S → Box 1 15 S → Mat 0 22 3 X u S → Calls Tryz.prog 10 #[u] X fun e w' => ∃ (co : Option Addr) (cc : Nat) (s C : List (List Int)), e = .returned (.slice co C.length cc) ∧ (SrC 1 S s C ∧ Mat 0 22 3 w' (.slice co C.length cc) C ∧ Below X.heap.size X w')) := fun X u S hg hb hM => (cornersS_any 1 S u X (hM.more (Nat.zero_le _)) hg (by decide) hb).mono fun e w' ⟨co, cc, s, C, e1, e2, e3, e4⟩ => ⟨co, cc, s, C, e1, e2, fr_mat0S e3, e4⟩
  have K7 : Hid (∀ X, Below W.heap.size W X → Calls Tryz.prog 12 #[.agg #[.int .i64 1, .slice po P.length pc], .agg #[.int .i64 1, .slice qo Q.length qc]] X fun e w' => ∃ (co : Option Addr) (cc : Nat) (s C : List (List Int)), e = .returned (.tuple #[.slice co C.length cc, .int .i64 0]) ∧ (SrC 1 (sumP P Q) s C ∧ Mat 0 22 3 w' (.slice co C.length cc) C ∧ Below X.heap.size X w')) := fun X hX => (sumCorners_any 1 P Q _ _ X (hPW X hX) (hQW X hX) h).mono fun e w' ⟨co, cc, s, C, e1, e2⟩ => ⟨co, cc, s, C, e1, e2⟩
  have K8 : Hid (∀ X, Below W.heap.size W X → Calls Tryz.prog 13 #[.agg #[.int .i64 1, .slice po P.length pc], .agg #[.int .i64 1, .slice qo Q.length qc]] X fun e w' => e = .returned (.tuple #[.int .i64 0, .int .i64 1]) ∧ Below X.heap.size X w') := fun X hX => mixed_no 1 P Q _ _ X (hPW X hX) (hQW X hX) h (by decide)
  clear hp hq h hbw hPW hQW
  go_enter Tryz.func5, Tryz.ntmps5
  go_wp2_with fail
  rw [← hW]
  clear hW
  refine K1.out.mono ?_
  rintro e w1 ⟨b, rfl, -, rfl⟩
  clear K1
  cases b
  case true =>
    clear K2 K3 K4 K5 K7 K8
    go_wp2
    go_ret
    exact ⟨rfl, HW.out⟩
  case false =>
  go_wp2_with fail
  refine K2.out.mono ?_
  rintro e w1' ⟨b, rfl, -, rfl⟩
  clear K2
  cases b
  case true =>
    clear K3 K4 K5 K7 K8
    go_wp2
    go_ret
    exact ⟨rfl, HW.out⟩
  case false =>
  go_wp2_with fail
  refine K3.out.mono ?_
  rintro e w2 ⟨rfl, hb2⟩
  have HK4 := K4.out w2 hb2
  obtain ⟨d0, d1, d2, d3⟩ := HC.out w2 hb2
  have HB2 : Hid (Below w1'.heap.size w1' w2) := hb2
  clear K3 K4 hb2 c0 c1 c2 c3
  go_wp2_with fail
  refine HK4.mono ?_
  rintro e w3 ⟨xo, xc, S, rfl, hgS, hbS, hmS, hM3, hb3⟩
  have HB3 : Hid (Below w1'.heap.size w1' w3) := HB2.out.trans (hb3.mono HB2.out.size)
  have HMS : Hid (∀ r, r ∈ S ↔ r ∈ sumP P Q) := hmS
  have HK5 := K5.out w3 _ S hgS hbS hM3
  have HM3 : Hid (∀ X, Below w3.heap.size w3 X → Mat 0 22 3 X (.slice xo S.length xc) S) := fun X hX => hM3.below hX (Nat.le_refl _)
  obtain ⟨d0, d1, d2, d3⟩ := HC.out w3 HB3.out
  clear HK4 K5 hmS hM3 hb3 hgS hbS
  clear HM3
  go_wp2_with fail
  refine HK5.mono ?_
  rintro e w4 ⟨co, cc, s, C, rfl, hS4, hM4, hb4⟩
  have HB4 : Hid (Below w1'.heap.size w1' w4) := HB3.out.trans (hb4.mono HB3.out.size)
  have HS4 : Hid (SrC 1 S s C) := hS4
  have HM4 : Hid (∀ X, Below w4.heap.size w4 X → Mat 0 22 3 X (.slice co C.length cc) C) := fun X hX => hM4.below hX (Nat.le_refl _)
  clear HK5 hS4 hM4 hb4 d0 d1 d2 d3
  have HK7 := K7.out w4 HB4.out
  obtain ⟨d0, d1, d2, d3⟩ := HC.out w4 HB4.out
  clear K7
  go_wp2_with fail
  refine HK7.mono ?_
  rintro e w5 ⟨co', cc', s', C', rfl, hS5, hM5, hb5⟩
  have hCC : C' = C := (SrC.other HS4.out hS5 fun r => (HMS.out r).symm).2
  subst hCC
  have HB5 : Hid (Below w1'.heap.size w1' w5) := HB4.out.trans (hb5.mono HB4.out.size)
  have HK8 := K8.out w5 HB5.out
  have HM5 : Hid (∀ X, Below w5.heap.size w5 X → Mat 0 22 3 X (.slice co' C'.length cc') C') := fun X hX => hM5.below hX (Nat.le_refl _)
  have HM45 : Hid (∀ X, Below w5.heap.size w5 X → Mat 0 22 3 X (.slice co C'.length cc) C') := fun X hX => (HM4.out w5 hb5).below hX (Nat.le_refl _)
  obtain ⟨d0, d1, d2, d3⟩ := HC.out w5 HB5.out
  clear HK7 K8 hS5 hM5 hb5 HM4 HS4
  go_wp2_with fail
  refine HK8.mono ?_
  rintro e w6 ⟨rfl, hb6⟩
  have HLS : Hid (Calls Tryz.prog 14 #[.slice co' C'.length cc', .int .i64 0, .slice co C'.length cc, .int .i64 0] w6 fun x w' => x = .returned (.bool true) ∧ Below w6.heap.size w6 w') := lists_same 0 C' _ _ w6 (HM5.out w6 hb6) (HM45.out w6 hb6)
  have HB6 : Hid (Below w1'.heap.size w1' w6) := HB5.out.trans (hb6.mono HB5.out.size)
  clear HK8 HM5 HM45 hb6 d0 d1 d2 d3
  go_wp2_with fail
  refine HLS.out.mono ?_
  rintro e w7 ⟨rfl, hb7⟩
  have HB7 : Hid (Below w1'.heap.size w1' w7) := HB6.out.trans (hb7.mono HB6.out.size)
  clear hb7 HLS
  go_wp2_with fail
  refine (num_true 0 1 0 1 w7 rfl (fun _ => rfl) (fun h => absurd h (by decide))).mono ?_
  rintro e w8 ⟨rfl, rfl⟩
  go_wp2
  go_ret
  exact ⟨rfl, HW.out.trans (HB7.out.mono HW.out.size)⟩

set_option maxRecDepth 100000 in
set_option maxHeartbeats 3200000 in
theorem sumSays_3 (P Q : List (List Int)) (pv qv : Value) (w : World) (hp : Mat w.heap.size 22 3 w pv P) (hq : Mat w.heap.size 22 3 w qv Q) (h : Two2 3 P Q) :
    Calls Tryz.prog 5 #[.agg #[.int .i64 3, pv], .agg #[.int .i64 3, qv]] w fun e w' => e = .returned (.bool true) ∧ Below w.heap.size w w' := by
  obtain ⟨po, pc, rfl, _, _⟩ := mat_open hp
  obtain ⟨qo, qc, rfl, _, _⟩ := mat_open hq
  obtain ⟨W, hW⟩ : ∃ W, W = (w.alloc (.cells #[.int .i64 3, .slice po P.length pc] 27)).alloc (.cells #[.int .i64 3, .slice qo Q.length qc] 27) := ⟨_, rfl⟩
  have hbw : Below w.heap.size w W := by rw [hW]; exact ((Below.refl _ _).alloc (Nat.le_refl _) _).alloc (by simp) _
  have HW : Hid (Below w.heap.size w W) := hbw
  have c0 : W.cell? ⟨w.heap.size, 0, none⟩ = some (.int .i64 3) := by rw [hW]; simp
  have c1 : W.cell? ⟨w.heap.size, 1, none⟩ = some (.slice po P.length pc) := by rw [hW]; simp
  have c2 : W.cell? ⟨w.heap.size + 1, 0, none⟩ = some (.int .i64 3) := by rw [hW]; simp
  have c3 : W.cell? ⟨w.heap.size + 1, 1, none⟩ = some (.slice qo Q.length qc) := by rw [hW]; simp
  have HC : Hid (∀ X, Below W.heap.size W X → X.cell? ⟨w.heap.size, 0, none⟩ = some (.int .i64 3) ∧ X.cell? ⟨w.heap.size, 1, none⟩ = some (.slice po P.length pc) ∧ X.cell? ⟨w.heap.size + 1, 0, none⟩ = some (.int .i64 3) ∧ X.cell? ⟨w.heap.size + 1, 1, none⟩ = some (.slice qo Q.length qc)) := fun X hX => ⟨(hX.cell (lt_of_cell c0)).trans c0, (hX.cell (lt_of_cell c1)).trans c1, (hX.cell (lt_of_cell c2)).trans c2, (hX.cell (lt_of_cell c3)).trans c3⟩
  have HCS : Hid (∀ X, Below W.heap.size W X → X.cell? ⟨w.heap.size, 1, none⟩ = some (.slice po P.length pc) ∧ X.cell? ⟨w.heap.size + 1, 1, none⟩ = some (.slice qo Q.length qc)) := fun X hX => ⟨(hX.cell (lt_of_cell c1)).trans c1, (hX.cell (lt_of_cell c3)).trans c3⟩
  have hPW : ∀ X, Below W.heap.size W X → Mat X.heap.size 22 3 X (.slice po P.length pc) P := fun X hX => ((hp.below hbw (Nat.le_refl _)).below hX (by have := hbw.size; omega)).any (Nat.le_refl _)
  have hQW : ∀ X, Below W.heap.size W X → Mat X.heap.size 22 3 X (.slice qo Q.length qc) Q := fun X hX => ((hq.below hbw (Nat.le_refl _)).below hX (by have := hbw.size; omega)).any (Nat.le_refl _)
  have K1 : Hid (Calls Tryz.prog 7 #[.slice po P.length pc] W fun e w' => ∃ b, e = .returned (.bool b) ∧ (b = false → P.length ≤ 300) ∧ w' = W) := heavy_any W.heap.size P _ W (hPW W (Below.refl _ _))
  have K2 : Hid (Calls Tryz.prog 7 #[.slice qo Q.length qc] W fun e w' => ∃ b, e = .returned (.bool b) ∧ (b = false → Q.length ≤ 300) ∧ w' = W) := heavy_any W.heap.size Q _ W (hQW W (Below.refl _ _))
  have K3 : Hid (Calls Tryz.prog 8 #[.agg #[.int .i64 3, .slice po P.length pc], .agg #[.int .i64 3, .slice qo Q.length qc]] W fun e w' => e = .returned (.int .i64 0) ∧ Below W.heap.size W w') := mayR_any 3 P Q _ _ W (hPW W (Below.refl _ _)) (hQW W (Below.refl _ _)) h
  have K4 : Hid (∀ X, Below W.heap.size W X → Calls Tryz.prog 9 #[.slice po P.length pc, .slice qo Q.length qc] X fun e w' => ∃ (xo : Option Addr) (xc : Nat) (S : List (List Int)), e = .returned (.slice xo S.length xc) ∧ (Good 3 S ∧ Box 3 15 S ∧ (∀ r, r ∈ S ↔ r ∈ sumP P Q) ∧ Mat 0 22 3 w' (.slice xo S.length xc) S ∧ Below X.heap.size X w')) := fun X hX => (sumsD_any h _ _ X (hPW X hX) (hQW X hX)).mono fun e w' ⟨xo, xc, S, e1, e2⟩ => ⟨xo, xc, S, e1, e2⟩
  have K5 : Hid (∀ X u (S : List (List Int)), Good 3 S → Box 3 15 S → Mat 0 22 3 X u S → Calls Tryz.prog 10 #[u] X fun e w' => ∃ (co : Option Addr) (cc : Nat) (s C : List (List Int)), e = .returned (.slice co C.length cc) ∧ (SrC 3 S s C ∧ Mat 0 22 3 w' (.slice co C.length cc) C ∧ Below X.heap.size X w')) := fun X u S hg hb hM => (cornersS_any 3 S u X (hM.more (Nat.zero_le _)) hg (by decide) hb).mono fun e w' ⟨co, cc, s, C, e1, e2, e3, e4⟩ => ⟨co, cc, s, C, e1, e2, fr_mat0S e3, e4⟩
  have K7 : Hid (∀ X, Below W.heap.size W X → Calls Tryz.prog 12 #[.agg #[.int .i64 3, .slice po P.length pc], .agg #[.int .i64 3, .slice qo Q.length qc]] X fun e w' => ∃ (co : Option Addr) (cc : Nat) (s C : List (List Int)), e = .returned (.tuple #[.slice co C.length cc, .int .i64 0]) ∧ (SrC 3 (sumP P Q) s C ∧ Mat 0 22 3 w' (.slice co C.length cc) C ∧ Below X.heap.size X w')) := fun X hX => (sumCorners_any 3 P Q _ _ X (hPW X hX) (hQW X hX) h).mono fun e w' ⟨co, cc, s, C, e1, e2⟩ => ⟨co, cc, s, C, e1, e2⟩
  have K8 : Hid (∀ X, Below W.heap.size W X → Calls Tryz.prog 13 #[.agg #[.int .i64 3, .slice po P.length pc], .agg #[.int .i64 3, .slice qo Q.length qc]] X fun e w' => e = .returned (.tuple #[.int .i64 0, .int .i64 1]) ∧ Below X.heap.size X w') := fun X hX => mixed_no 3 P Q _ _ X (hPW X hX) (hQW X hX) h (by decide)
  clear hp hq h hbw hPW hQW
  go_enter Tryz.func5, Tryz.ntmps5
  go_wp2_with fail
  rw [← hW]
  clear hW
  refine K1.out.mono ?_
  rintro e w1 ⟨b, rfl, -, rfl⟩
  clear K1
  cases b
  case true =>
    clear K2 K3 K4 K5 K7 K8
    go_wp2
    go_ret
    exact ⟨rfl, HW.out⟩
  case false =>
  go_wp2_with fail
  refine K2.out.mono ?_
  rintro e w1' ⟨b, rfl, -, rfl⟩
  clear K2
  cases b
  case true =>
    clear K3 K4 K5 K7 K8
    go_wp2
    go_ret
    exact ⟨rfl, HW.out⟩
  case false =>
  go_wp2_with fail
  refine K3.out.mono ?_
  rintro e w2 ⟨rfl, hb2⟩
  have HK4 := K4.out w2 hb2
  obtain ⟨d0, d1, d2, d3⟩ := HC.out w2 hb2
  have HB2 : Hid (Below w1'.heap.size w1' w2) := hb2
  clear K3 K4 hb2 c0 c1 c2 c3
  go_wp2_with fail
  refine HK4.mono ?_
  rintro e w3 ⟨xo, xc, S, rfl, hgS, hbS, hmS, hM3, hb3⟩
  have HB3 : Hid (Below w1'.heap.size w1' w3) := HB2.out.trans (hb3.mono HB2.out.size)
  have HMS : Hid (∀ r, r ∈ S ↔ r ∈ sumP P Q) := hmS
  have HK5 := K5.out w3 _ S hgS hbS hM3
  have HM3 : Hid (∀ X, Below w3.heap.size w3 X → Mat 0 22 3 X (.slice xo S.length xc) S) := fun X hX => hM3.below hX (Nat.le_refl _)
  obtain ⟨d0, d1, d2, d3⟩ := HC.out w3 HB3.out
  clear HK4 K5 hmS hM3 hb3 hgS hbS
  clear HM3
  by_cases h40 : 40 < S.length
  · have h40d : decide ((40 : Int) < (S.length : Int)) = true := decide_eq_true (by omega)
    clear h40 HK5 K7 K8
    go_wp2
    go_ret
    exact ⟨rfl, HW.out.trans (HB3.out.mono HW.out.size)⟩
  have h40d : decide ((40 : Int) < (S.length : Int)) = false := decide_eq_false (by omega)
  clear h40
  go_wp2_with fail
  refine HK5.mono ?_
  rintro e w4 ⟨co, cc, s, C, rfl, hS4, hM4, hb4⟩
  have HB4 : Hid (Below w1'.heap.size w1' w4) := HB3.out.trans (hb4.mono HB3.out.size)
  have HS4 : Hid (SrC 3 S s C) := hS4
  have HM4 : Hid (∀ X, Below w4.heap.size w4 X → Mat 0 22 3 X (.slice co C.length cc) C) := fun X hX => hM4.below hX (Nat.le_refl _)
  clear HK5 hS4 hM4 hb4 d0 d1 d2 d3
  have HK7 := K7.out w4 HB4.out
  obtain ⟨d0, d1, d2, d3⟩ := HC.out w4 HB4.out
  clear K7
  go_wp2_with fail
  refine HK7.mono ?_
  rintro e w5 ⟨co', cc', s', C', rfl, hS5, hM5, hb5⟩
  have hCC : C' = C := (SrC.other HS4.out hS5 fun r => (HMS.out r).symm).2
  subst hCC
  have HB5 : Hid (Below w1'.heap.size w1' w5) := HB4.out.trans (hb5.mono HB4.out.size)
  have HK8 := K8.out w5 HB5.out
  have HM5 : Hid (∀ X, Below w5.heap.size w5 X → Mat 0 22 3 X (.slice co' C'.length cc') C') := fun X hX => hM5.below hX (Nat.le_refl _)
  have HM45 : Hid (∀ X, Below w5.heap.size w5 X → Mat 0 22 3 X (.slice co C'.length cc) C') := fun X hX => (HM4.out w5 hb5).below hX (Nat.le_refl _)
  obtain ⟨d0, d1, d2, d3⟩ := HC.out w5 HB5.out
  clear HK7 K8 hS5 hM5 hb5 HM4 HS4
  go_wp2_with fail
  refine HK8.mono ?_
  rintro e w6 ⟨rfl, hb6⟩
  have HLS : Hid (Calls Tryz.prog 14 #[.slice co' C'.length cc', .int .i64 0, .slice co C'.length cc, .int .i64 0] w6 fun x w' => x = .returned (.bool true) ∧ Below w6.heap.size w6 w') := lists_same 0 C' _ _ w6 (HM5.out w6 hb6) (HM45.out w6 hb6)
  have HB6 : Hid (Below w1'.heap.size w1' w6) := HB5.out.trans (hb6.mono HB5.out.size)
  clear HK8 HM5 HM45 hb6 d0 d1 d2 d3
  go_wp2_with fail
  refine HLS.out.mono ?_
  rintro e w7 ⟨rfl, hb7⟩
  have HB7 : Hid (Below w1'.heap.size w1' w7) := HB6.out.trans (hb7.mono HB6.out.size)
  clear hb7 HLS
  go_wp2_with fail
  refine (num_true 0 1 0 1 w7 rfl (fun _ => rfl) (fun h => absurd h (by decide))).mono ?_
  rintro e w8 ⟨rfl, rfl⟩
  go_wp2
  go_ret
  exact ⟨rfl, HW.out.trans (HB7.out.mono HW.out.size)⟩

set_option maxRecDepth 100000 in
set_option maxHeartbeats 3200000 in
theorem sumSays_2 (P Q : List (List Int)) (pv qv : Value) (w : World) (hp : Mat w.heap.size 22 3 w pv P) (hq : Mat w.heap.size 22 3 w qv Q) (h : Two2 2 P Q) :
    Calls Tryz.prog 5 #[.agg #[.int .i64 2, pv], .agg #[.int .i64 2, qv]] w fun e w' => e = .returned (.bool true) ∧ Below w.heap.size w w' := by
  obtain ⟨po, pc, rfl, _, _⟩ := mat_open hp
  obtain ⟨qo, qc, rfl, _, _⟩ := mat_open hq
  obtain ⟨W, hW⟩ : ∃ W, W = (w.alloc (.cells #[.int .i64 2, .slice po P.length pc] 27)).alloc (.cells #[.int .i64 2, .slice qo Q.length qc] 27) := ⟨_, rfl⟩
  have hbw : Below w.heap.size w W := by rw [hW]; exact ((Below.refl _ _).alloc (Nat.le_refl _) _).alloc (by simp) _
  have HW : Hid (Below w.heap.size w W) := hbw
  have c0 : W.cell? ⟨w.heap.size, 0, none⟩ = some (.int .i64 2) := by rw [hW]; simp
  have c1 : W.cell? ⟨w.heap.size, 1, none⟩ = some (.slice po P.length pc) := by rw [hW]; simp
  have c2 : W.cell? ⟨w.heap.size + 1, 0, none⟩ = some (.int .i64 2) := by rw [hW]; simp
  have c3 : W.cell? ⟨w.heap.size + 1, 1, none⟩ = some (.slice qo Q.length qc) := by rw [hW]; simp
  have HC : Hid (∀ X, Below W.heap.size W X → X.cell? ⟨w.heap.size, 0, none⟩ = some (.int .i64 2) ∧ X.cell? ⟨w.heap.size, 1, none⟩ = some (.slice po P.length pc) ∧ X.cell? ⟨w.heap.size + 1, 0, none⟩ = some (.int .i64 2) ∧ X.cell? ⟨w.heap.size + 1, 1, none⟩ = some (.slice qo Q.length qc)) := fun X hX => ⟨(hX.cell (lt_of_cell c0)).trans c0, (hX.cell (lt_of_cell c1)).trans c1, (hX.cell (lt_of_cell c2)).trans c2, (hX.cell (lt_of_cell c3)).trans c3⟩
  have HCS : Hid (∀ X, Below W.heap.size W X → X.cell? ⟨w.heap.size, 1, none⟩ = some (.slice po P.length pc) ∧ X.cell? ⟨w.heap.size + 1, 1, none⟩ = some (.slice qo Q.length qc)) := fun X hX => ⟨(hX.cell (lt_of_cell c1)).trans c1, (hX.cell (lt_of_cell c3)).trans c3⟩
  have hPW : ∀ X, Below W.heap.size W X → Mat X.heap.size 22 3 X (.slice po P.length pc) P := fun X hX => ((hp.below hbw (Nat.le_refl _)).below hX (by have := hbw.size; omega)).any (Nat.le_refl _)
  have hQW : ∀ X, Below W.heap.size W X → Mat X.heap.size 22 3 X (.slice qo Q.length qc) Q := fun X hX => ((hq.below hbw (Nat.le_refl _)).below hX (by have := hbw.size; omega)).any (Nat.le_refl _)
  have K1 : Hid (Calls Tryz.prog 7 #[.slice po P.length pc] W fun e w' => ∃ b, e = .returned (.bool b) ∧ (b = false → P.length ≤ 300) ∧ w' = W) := heavy_any W.heap.size P _ W (hPW W (Below.refl _ _))
  have K2 : Hid (Calls Tryz.prog 7 #[.slice qo Q.length qc] W fun e w' => ∃ b, e = .returned (.bool b) ∧ (b = false → Q.length ≤ 300) ∧ w' = W) := heavy_any W.heap.size Q _ W (hQW W (Below.refl _ _))
  have K3 : Hid (Calls Tryz.prog 8 #[.agg #[.int .i64 2, .slice po P.length pc], .agg #[.int .i64 2, .slice qo Q.length qc]] W fun e w' => e = .returned (.int .i64 0) ∧ Below W.heap.size W w') := mayR_any 2 P Q _ _ W (hPW W (Below.refl _ _)) (hQW W (Below.refl _ _)) h
  have K4 : Hid (∀ X, Below W.heap.size W X → Calls Tryz.prog 9 #[.slice po P.length pc, .slice qo Q.length qc] X fun e w' => ∃ (xo : Option Addr) (xc : Nat) (S : List (List Int)), e = .returned (.slice xo S.length xc) ∧ (Good 2 S ∧ Box 2 15 S ∧ (∀ r, r ∈ S ↔ r ∈ sumP P Q) ∧ Mat 0 22 3 w' (.slice xo S.length xc) S ∧ Below X.heap.size X w')) := fun X hX => (sumsD_any h _ _ X (hPW X hX) (hQW X hX)).mono fun e w' ⟨xo, xc, S, e1, e2⟩ => ⟨xo, xc, S, e1, e2⟩
  have K5 : Hid (∀ X u (S : List (List Int)), Good 2 S → Box 2 15 S → Mat 0 22 3 X u S → Calls Tryz.prog 10 #[u] X fun e w' => ∃ (co : Option Addr) (cc : Nat) (s C : List (List Int)), e = .returned (.slice co C.length cc) ∧ (SrC 2 S s C ∧ Mat 0 22 3 w' (.slice co C.length cc) C ∧ Below X.heap.size X w')) := fun X u S hg hb hM => (cornersS_any 2 S u X (hM.more (Nat.zero_le _)) hg (by decide) hb).mono fun e w' ⟨co, cc, s, C, e1, e2, e3, e4⟩ => ⟨co, cc, s, C, e1, e2, fr_mat0S e3, e4⟩
  have K7 : Hid (∀ X, Below W.heap.size W X → Calls Tryz.prog 12 #[.agg #[.int .i64 2, .slice po P.length pc], .agg #[.int .i64 2, .slice qo Q.length qc]] X fun e w' => ∃ (co : Option Addr) (cc : Nat) (s C : List (List Int)), e = .returned (.tuple #[.slice co C.length cc, .int .i64 0]) ∧ (SrC 2 (sumP P Q) s C ∧ Mat 0 22 3 w' (.slice co C.length cc) C ∧ Below X.heap.size X w')) := fun X hX => (sumCorners_any 2 P Q _ _ X (hPW X hX) (hQW X hX) h).mono fun e w' ⟨co, cc, s, C, e1, e2⟩ => ⟨co, cc, s, C, e1, e2⟩
  have K8 : Hid (∀ X, Below W.heap.size W X → Calls Tryz.prog 13 #[.agg #[.int .i64 2, .slice po P.length pc], .agg #[.int .i64 2, .slice qo Q.length qc]] X fun e w' => ∃ T A B, e = .returned (.tuple #[.int .i64 ((T - A - B).tdiv 2), .int .i64 0]) ∧ (IsA (sumP P Q) T ∧ IsA P A ∧ IsA Q B ∧ Below X.heap.size X w')) := fun X hX => (mixed_yes P Q _ _ X (hPW X hX) (hQW X hX) h).mono fun e w' ⟨T, A, B, e1, e2⟩ => ⟨T, A, B, e1, e2⟩
  have K9 : Hid (∀ X u (S : List (List Int)), Good 2 S → Box 2 15 S → Mat 0 22 3 X u S → Calls Tryz.prog 11 #[u] X fun e w' => ∃ a, e = .returned (.int .i64 a) ∧ (IsA S a ∧ 0 ≤ a ∧ a ≤ 1000000000000 ∧ Below X.heap.size X w')) := fun X u S hg hb hM => (area_any S u X (hM.more (Nat.zero_le _)) hg hb hg.n24).mono fun e w' ⟨s, C, h1, h2, h3⟩ => ⟨_, h1, ⟨s, C, h2, rfl⟩, (IsA.bd ⟨s, C, h2, rfl⟩ hg.n24).1, (IsA.bd ⟨s, C, h2, rfl⟩ hg.n24).2, h3⟩
  have KA : Hid (∀ X, Below W.heap.size W X → Calls Tryz.prog 11 #[.slice po P.length pc] X fun e w' => ∃ a, e = .returned (.int .i64 a) ∧ (IsA P a ∧ 0 ≤ a ∧ a ≤ 1000000000000 ∧ Below X.heap.size X w')) := fun X hX => (area_any P _ X (hPW X hX) h.gp (fun r hr => ⟨(h.bp r hr).1, fun z hz => by have := (h.bp r hr).2 z hz; omega⟩) h.gp.n24).mono fun e w' ⟨s, C, h1, h2, h3⟩ => ⟨_, h1, ⟨s, C, h2, rfl⟩, (IsA.bd ⟨s, C, h2, rfl⟩ h.gp.n24).1, (IsA.bd ⟨s, C, h2, rfl⟩ h.gp.n24).2, h3⟩
  have KB : Hid (∀ X, Below W.heap.size W X → Calls Tryz.prog 11 #[.slice qo Q.length qc] X fun e w' => ∃ a, e = .returned (.int .i64 a) ∧ (IsA Q a ∧ 0 ≤ a ∧ a ≤ 1000000000000 ∧ Below X.heap.size X w')) := fun X hX => (area_any Q _ X (hQW X hX) h.gq (fun r hr => ⟨(h.bq r hr).1, fun z hz => by have := (h.bq r hr).2 z hz; omega⟩) h.gq.n24).mono fun e w' ⟨s, C, h1, h2, h3⟩ => ⟨_, h1, ⟨s, C, h2, rfl⟩, (IsA.bd ⟨s, C, h2, rfl⟩ h.gq.n24).1, (IsA.bd ⟨s, C, h2, rfl⟩ h.gq.n24).2, h3⟩
  clear hp hq h hbw hPW hQW
  go_enter Tryz.func5, Tryz.ntmps5
  go_wp2_with fail
  rw [← hW]
  clear hW
  refine K1.out.mono ?_
  rintro e w1 ⟨b, rfl, -, rfl⟩
  clear K1
  cases b
  case true =>
    clear K2 K3 K4 K5 K7 K8 K9 KA KB
    go_wp2
    go_ret
    exact ⟨rfl, HW.out⟩
  case false =>
  go_wp2_with fail
  refine K2.out.mono ?_
  rintro e w1' ⟨b, rfl, -, rfl⟩
  clear K2
  cases b
  case true =>
    clear K3 K4 K5 K7 K8 K9 KA KB
    go_wp2
    go_ret
    exact ⟨rfl, HW.out⟩
  case false =>
  go_wp2_with fail
  refine K3.out.mono ?_
  rintro e w2 ⟨rfl, hb2⟩
  have HK4 := K4.out w2 hb2
  obtain ⟨d0, d1, d2, d3⟩ := HC.out w2 hb2
  have HB2 : Hid (Below w1'.heap.size w1' w2) := hb2
  clear K3 K4 hb2 c0 c1 c2 c3
  go_wp2_with fail
  refine HK4.mono ?_
  rintro e w3 ⟨xo, xc, S, rfl, hgS, hbS, hmS, hM3, hb3⟩
  have HB3 : Hid (Below w1'.heap.size w1' w3) := HB2.out.trans (hb3.mono HB2.out.size)
  have HMS : Hid (∀ r, r ∈ S ↔ r ∈ sumP P Q) := hmS
  have HK5 := K5.out w3 _ S hgS hbS hM3
  have HM3 : Hid (∀ X, Below w3.heap.size w3 X → Mat 0 22 3 X (.slice xo S.length xc) S) := fun X hX => hM3.below hX (Nat.le_refl _)
  have HK9 : Hid (∀ X, Below w3.heap.size w3 X → Calls Tryz.prog 11 #[.slice xo S.length xc] X fun e w' => ∃ a, e = .returned (.int .i64 a) ∧ (IsA S a ∧ 0 ≤ a ∧ a ≤ 1000000000000 ∧ Below X.heap.size X w')) := fun X hX => K9.out X _ S hgS hbS (HM3.out X hX)
  obtain ⟨d0, d1, d2, d3⟩ := HC.out w3 HB3.out
  clear HK4 K5 hmS hM3 hb3 hgS hbS
  clear K9 HM3
  go_wp2_with fail
  refine HK5.mono ?_
  rintro e w4 ⟨co, cc, s, C, rfl, hS4, hM4, hb4⟩
  have HB4 : Hid (Below w1'.heap.size w1' w4) := HB3.out.trans (hb4.mono HB3.out.size)
  have HS4 : Hid (SrC 2 S s C) := hS4
  have HM4 : Hid (∀ X, Below w4.heap.size w4 X → Mat 0 22 3 X (.slice co C.length cc) C) := fun X hX => hM4.below hX (Nat.le_refl _)
  have HB34 : Hid (Below w3.heap.size w3 w4) := hb4
  clear HK5 hS4 hM4 hb4 d0 d1 d2 d3
  go_upto_region 15 with fail
  refine wp_region_held_drew (S := fun w' => w'.cell? ⟨w.heap.size, 1, none⟩ = some (.slice po P.length pc) ∧ w'.cell? ⟨w.heap.size + 1, 1, none⟩ = some (.slice qo Q.length qc)) (by kernel_rfl) (HCS.out _ (HB4.out.drew)) (fun hHeld => ?_)
  refine wpAnyH_tk (i := 0) (d := 62) (v := .slice xo S.length xc) rfl rfl (by kernel_rfl) (by kernel_rfl) (by kernel_rfl) (fun _ _ _ h => h) (.inl ⟨by rfl, by (intro wq hSw; (try dsimp only at hSw); go_simp; (try (first | rfl | omega)))⟩) hHeld ?_
  simp only [Act.put, List.setIfInBounds_toArray, List.set_cons_zero, List.set_cons_succ]
  refine wpAnyH_tk (i := 2) (d := 64) (v := .pointer (some ⟨w.heap.size, 1, none⟩)) rfl rfl (by kernel_rfl) (by kernel_rfl) (by kernel_rfl) (fun _ _ _ h => h) (.inl ⟨by rfl, by (intro wq hSw; (try dsimp only at hSw); go_simp; (try (first | rfl | omega)))⟩) hHeld ?_
  simp only [Act.put, List.setIfInBounds_toArray, List.set_cons_zero, List.set_cons_succ]
  refine wpAnyH_tk (i := 3) (d := 65) (v := .slice po P.length pc) rfl rfl (by kernel_rfl) (by kernel_rfl) (by kernel_rfl) (fun _ _ _ h => h) (.inl ⟨by rfl, by (intro wq hSw; (try dsimp only at hSw); go_simp; (try (first | rfl | omega)))⟩) hHeld ?_
  simp only [Act.put, List.setIfInBounds_toArray, List.set_cons_zero, List.set_cons_succ]
  refine wpAnyH_tk (i := 6) (d := 68) (v := .pointer (some ⟨w.heap.size + 1, 1, none⟩)) rfl rfl (by kernel_rfl) (by kernel_rfl) (by kernel_rfl) (fun _ _ _ h => h) (.inl ⟨by rfl, by (intro wq hSw; (try dsimp only at hSw); go_simp; (try (first | rfl | omega)))⟩) hHeld ?_
  simp only [Act.put, List.setIfInBounds_toArray, List.set_cons_zero, List.set_cons_succ]
  refine wpAnyH_tk (i := 7) (d := 69) (v := .slice qo Q.length qc) rfl rfl (by kernel_rfl) (by kernel_rfl) (by kernel_rfl) (fun _ _ _ h => h) (.inl ⟨by rfl, by (intro wq hSw; (try dsimp only at hSw); go_simp; (try (first | rfl | omega)))⟩) hHeld ?_
  simp only [Act.put, List.setIfInBounds_toArray, List.set_cons_zero, List.set_cons_succ]
  refine wpAnyH_ready (rs := [1]) (by kernel_rfl) (by simp) ?_
  refine ready_tk (i := 1) rfl (by rfl) (fun K hK => ?_) AllReadyH.nil
  go_simp
  refine (HK9.out _ (HB34.out.drew)).mono ?_
  rintro e wx ⟨T, rfl, hT, ht0, ht1, hbx⟩
  have HBX : Hid (Below w4.heap.size w4 wx) := (Below.refl _ _).drew.trans hbx
  have HBx : Hid (Below w1'.heap.size w1' wx) := HB4.out.trans (HBX.out.mono HB4.out.size)
  have HT : Hid (IsA S T) := hT
  clear hT hbx HK9
  refine hK.out _ _ (HCS.out _ HBx.out) (fun hHeld => ?_)
  clear hK K
  refine wpAnyH_ready (rs := [4]) (by kernel_rfl) (by simp) ?_
  refine ready_tk (i := 4) rfl (by rfl) (fun K hK => ?_) AllReadyH.nil
  go_simp
  refine (KA.out _ HBx.out).mono ?_
  rintro e wy ⟨A, rfl, hA, ha0, ha1, hby⟩
  have HBY : Hid (Below w4.heap.size w4 wy) := HBX.out.trans (hby.mono HBX.out.size)
  have HBy : Hid (Below w1'.heap.size w1' wy) := HBx.out.trans (hby.mono HBx.out.size)
  have HA : Hid (IsA P A) := hA
  clear hA hby KA
  refine hK.out _ _ (HCS.out _ HBy.out) (fun hHeld => ?_)
  clear hK K
  have hw1 : IntKind.i64.wrap (T - A) = T - A := by rw [IntWalk.i64_left]; exact IntWalk.wrap64_in _ ⟨by omega, by omega⟩
  refine wpAnyH_tk (i := 5) (d := 67) (v := .int .i64 (T - A)) rfl rfl (by kernel_rfl) (by kernel_rfl) (by kernel_rfl) (fun _ _ _ h => h) (.inl ⟨by rfl, by (intro wq hSw; (try dsimp only at hSw); go_simp; (try (first | rfl | omega)))⟩) hHeld ?_
  simp only [Act.put, List.setIfInBounds_toArray, List.set_cons_zero, List.set_cons_succ]
  refine wpAnyH_ready (rs := [8]) (by kernel_rfl) (by simp) ?_
  refine ready_tk (i := 8) rfl (by rfl) (fun K hK => ?_) AllReadyH.nil
  go_simp
  refine (KB.out _ HBy.out).mono ?_
  rintro e wz ⟨B, rfl, hB, hb0, hb1, hbz⟩
  have HBZ : Hid (Below w4.heap.size w4 wz) := HBY.out.trans (hbz.mono HBY.out.size)
  have HBz : Hid (Below w1'.heap.size w1' wz) := HBy.out.trans (hbz.mono HBy.out.size)
  have HBI : Hid (IsA Q B) := hB
  clear hB hbz KB
  refine hK.out _ _ (HCS.out _ HBz.out) (fun hHeld => ?_)
  clear hK K
  have hw2 : IntKind.i64.wrap (T - A - B) = T - A - B := by rw [IntWalk.i64_left]; exact IntWalk.wrap64_in _ ⟨by omega, by omega⟩
  have hw3 : IntKind.i64.wrap ((T - A - B).tdiv 2) = (T - A - B).tdiv 2 := tdiv2_bd (by omega) (by omega)
  refine wpAnyH_tk (i := 9) (d := 71) (v := .int .i64 (T - A - B)) rfl rfl (by kernel_rfl) (by kernel_rfl) (by kernel_rfl) (fun _ _ _ h => h) (.inl ⟨by rfl, by (intro wq hSw; (try dsimp only at hSw); go_simp; (try (first | rfl | omega)))⟩) hHeld ?_
  simp only [Act.put, List.setIfInBounds_toArray, List.set_cons_zero, List.set_cons_succ]
  refine wpAnyH_tk (i := 10) (d := 72) (v := .int .i64 ((T - A - B).tdiv 2)) rfl rfl (by kernel_rfl) (by kernel_rfl) (by kernel_rfl) (fun _ _ _ h => h) (.inl ⟨by rfl, by (intro wq hSw; (try dsimp only at hSw); go_simp; (try (first | rfl | omega)))⟩) hHeld ?_
  simp only [Act.put, List.setIfInBounds_toArray, List.set_cons_zero, List.set_cons_succ]
  refine wpAnyH_tk (i := 11) (d := 8) (v := .int .i64 ((T - A - B).tdiv 2)) rfl rfl (by kernel_rfl) (by kernel_rfl) (by kernel_rfl) (fun _ _ _ h => h) (.inl ⟨by rfl, by (intro wq hSw; (try dsimp only at hSw); go_simp; (try (first | rfl | omega)))⟩) hHeld ?_
  simp only [Act.put, List.setIfInBounds_toArray, List.set_cons_zero, List.set_cons_succ]
  refine wpAnyH_done (by kernel_rfl) ?_ _
  clear hHeld
  have HK7 := K7.out wz HBz.out
  obtain ⟨d0, d1, d2, d3⟩ := HC.out wz HBz.out
  clear K7
  go_wp2_with fail
  refine HK7.mono ?_
  rintro e w5 ⟨co', cc', s', C', rfl, hS5, hM5, hb5⟩
  have hCC : C' = C := (SrC.other HS4.out hS5 fun r => (HMS.out r).symm).2
  subst hCC
  have HB5 : Hid (Below w1'.heap.size w1' w5) := HBz.out.trans (hb5.mono HBz.out.size)
  have HK8 := K8.out w5 HB5.out
  have HM5 : Hid (∀ X, Below w5.heap.size w5 X → Mat 0 22 3 X (.slice co' C'.length cc') C') := fun X hX => hM5.below hX (Nat.le_refl _)
  have HM45 : Hid (∀ X, Below w5.heap.size w5 X → Mat 0 22 3 X (.slice co C'.length cc) C') := fun X hX => (HM4.out w5 (HBZ.out.trans (hb5.mono HBZ.out.size))).below hX (Nat.le_refl _)
  obtain ⟨d0, d1, d2, d3⟩ := HC.out w5 HB5.out
  clear HK7 K8 hS5 hM5 hb5 HM4 HS4
  go_wp2_with fail
  refine HK8.mono ?_
  rintro e w6 ⟨T', A', B', rfl, hT6, hA6, hB6, hb6⟩
  have eT : T' = T := HT.out.one hT6 fun r => (HMS.out r).symm
  have eA : A' = A := HA.out.one hA6 fun r => Iff.rfl
  have eB : B' = B := HBI.out.one hB6 fun r => Iff.rfl
  subst eT eA eB
  clear hT6 hA6 hB6
  have HLS : Hid (Calls Tryz.prog 14 #[.slice co' C'.length cc', .int .i64 0, .slice co C'.length cc, .int .i64 0] w6 fun x w' => x = .returned (.bool true) ∧ Below w6.heap.size w6 w') := lists_same 0 C' _ _ w6 (HM5.out w6 hb6) (HM45.out w6 hb6)
  have HB6 : Hid (Below w1'.heap.size w1' w6) := HB5.out.trans (hb6.mono HB5.out.size)
  clear HK8 HM5 HM45 hb6 d0 d1 d2 d3
  go_wp2_with fail
  refine HLS.out.mono ?_
  rintro e w7 ⟨rfl, hb7⟩
  have HB7 : Hid (Below w1'.heap.size w1' w7) := HB6.out.trans (hb7.mono HB6.out.size)
  clear hb7 HLS
  go_wp2_with fail
  refine (num_true _ 0 _ 0 w7 rfl (fun h => absurd rfl h) (fun _ => rfl)).mono ?_
  rintro e w8 ⟨rfl, rfl⟩
  go_wp2
  go_ret
  exact ⟨rfl, HW.out.trans (HB7.out.mono HW.out.size)⟩

end Go.Proofs.YtalboihbomaobaaGreat

/- The law SumMade: the walk. -/
namespace Go.Proofs.YtalboihbomaobaaGreat
open Go.RowKit Lin
attribute [local go_sem ↓] Go.wp_at_zero Go.wp_at_succ

theorem poly_boxS {n wd : Nat} {m : List (List Int)} (hm : Box n wd m) (hw : wd ≤ 4) : Box n 4 (polyL n m) := by
  intro r hr
  simp only [polyL, List.mem_append, List.mem_singleton, List.mem_map, List.mem_range] at hr
  rcases hr with (hr | rfl) | ⟨k, hk, rfl⟩
  · refine ⟨(hm r hr).1, fun z hz => ?_⟩
    have := (hm r hr).2 z hz
    omega
  · refine ⟨by simp [zerosL], fun z hz => ?_⟩
    simp only [zerosL, List.mem_map] at hz
    obtain ⟨_, _, rfl⟩ := hz
    omega
  · refine ⟨by simp [spk], fun z hz => ?_⟩
    simp only [spk, List.mem_map] at hz
    obtain ⟨j, _, rfl⟩ := hz
    have := Nat.mod_lt k (show 0 < 2 by decide)
    split <;> omega

set_option maxRecDepth 100000 in
set_option maxHeartbeats 3200000 in
theorem sumMade_any (B : Nat) (raw : List Int) (d0 m0 a0 : Int) (v : Value) (w : World) (hv : Sl B 3 w v (ints raw)) (hr : ∀ z ∈ raw, In64 z) (hd : In64 d0) (hm : In64 m0) (ha : In64 a0) :
    Calls Tryz.prog 3 #[v, .int .i64 d0, .int .i64 m0, .int .i64 a0] w fun e w' => e = .returned (.bool true) ∧ Below w.heap.size w w' := by
  obtain ⟨ao, cap, hvv, hlc, hcm⟩ := sl_open hv
  subst hvv
  have HV : Hid (Sl B 3 w (.slice ao raw.length cap) (ints raw)) := hv
  have HRR : Hid (∀ z ∈ raw, In64 z) := hr
  have HD : Hid (In64 d0) := hd
  have HMM : Hid (In64 m0) := hm
  have HAA : Hid (In64 a0) := ha
  clear hv hr hd hm ha
  by_cases h1 : 256 < raw.length
  · have b1 : decide ((256 : Int) < (raw.length : Int)) = true := decide_eq_true (by omega)
    go_enter Tryz.func3, Tryz.ntmps3
    go_wp2
    go_ret
    exact ⟨rfl, Below.refl _ _⟩
  · have b1 : decide ((256 : Int) < (raw.length : Int)) = false := decide_eq_false (by omega)
    have HRL : Hid (raw.length ≤ 1000000) := by
      show _ ≤ _
      omega
    clear h1
    go_enter Tryz.func3, Tryz.ntmps3
    go_wp2_with fail
    refine (pick_any d0 3 w (by omega) (by omega) HD.out).mono ?_
    rintro e w1 ⟨z, rfl, hz, rfl⟩
    obtain ⟨n, hn⟩ : ∃ n : Nat, (n : Int) = 1 + z := ⟨(1 + z).toNat, by omega⟩
    have hz1' := hz.1
    have hz2' := hz.2
    have HN : Hid ((n : Int) = 1 + z) := hn
    have hn1 : 1 ≤ n := by omega
    have hn3 : n ≤ 3 := by omega
    clear hz hn
    go_wp2_with fail
    rw [← HN.out]
    refine (pick_any m0 4 w1 (by omega) (by omega) HMM.out).mono ?_
    rintro e w2 ⟨y, rfl, hy, rfl⟩
    obtain ⟨k, hk⟩ : ∃ k : Nat, (k : Int) = y := ⟨y.toNat, by omega⟩
    have hk5 : k ≤ 3 := by omega
    subst hk
    clear hy hz1' hz2' HN
    have HPO : Hid (Calls Tryz.prog 6 #[.slice ao raw.length cap, .int .i64 0, .int .i64 n, .int .i64 k, .int .i64 4] w2 fun e w' => ∃ x m, e = .returned (.agg #[.int .i64 n, x]) ∧ m.length = k ∧ Box n 4 m ∧ Mat w'.heap.size 22 3 w' x (polyL n m) ∧ Below w2.heap.size w2 w') := polytopeOfF_any B raw _ 0 n k 4 w2 HV.out HRR.out (Nat.le_trans HRL.out (by decide)) (by decide) hn1 (by omega) (by omega) (by decide)
    go_wp2_with fail
    refine HPO.out.mono ?_
    rintro e w3 ⟨x, m, rfl, hml, hbx, hmat, hb3⟩
    have hgood : Good n (polyL n m) := poly_good hn1 (by omega) hbx (by omega) (by omega)
    have hlen : (polyL n m).length ≤ 7 := by rw [poly_len]; omega
    have hpb := poly_boxS hbx (show 4 ≤ 4 by omega)
    have HV3 : Hid (Sl B 3 w3 (.slice ao raw.length cap) (ints raw)) := HV.out.below hb3 (Nat.le_refl _)
    generalize hPP : polyL n m = P at *
    clear hPP hml hbx HPO
    obtain ⟨xo, xc, hxv, _, _⟩ := mat_open hmat
    subst hxv
    have HB3 : Hid (Below w2.heap.size w2 w3) := hb3
    clear hb3
    go_wp2_with fail
    refine (pick_any a0 3 w3 (by omega) (by omega) HAA.out).mono ?_
    rintro e w4 ⟨y2, rfl, hy2, rfl⟩
    obtain ⟨k2, hk2⟩ : ∃ k2 : Nat, (k2 : Int) = y2 := ⟨y2.toNat, by omega⟩
    have hk25 : k2 ≤ 2 := by omega
    subst hk2
    clear hy2
    have HPO : Hid (Calls Tryz.prog 6 #[.slice ao raw.length cap, .int .i64 31, .int .i64 n, .int .i64 k2, .int .i64 3] w4 fun e w' => ∃ x m, e = .returned (.agg #[.int .i64 n, x]) ∧ m.length = k2 ∧ Box n 3 m ∧ Mat w'.heap.size 22 3 w' x (polyL n m) ∧ Below w4.heap.size w4 w') := polytopeOfF_any B raw _ 31 n k2 3 w4 HV3.out HRR.out (Nat.le_trans HRL.out (by decide)) (by decide) hn1 (by omega) (by omega) (by decide)
    go_wp2_with fail
    refine HPO.out.mono ?_
    rintro e w5 ⟨x2, m2, rfl, hml, hbx, hmat2, hb5⟩
    have hgood2 : Good n (polyL n m2) := poly_good hn1 (by omega) hbx (by omega) (by omega)
    have hlen2 : (polyL n m2).length ≤ 6 := by rw [poly_len]; omega
    have hpb2 := poly_boxS hbx (show 3 ≤ 4 by omega)
    generalize hPP : polyL n m2 = Q at *
    clear hPP hml hbx HPO
    obtain ⟨xo2, xc2, hxv2, _, _⟩ := mat_open hmat2
    subst hxv2
    have hTwo : Two2 n P Q := ⟨hgood, hgood2, hn3, hpb, hpb2, by omega, by omega, Nat.le_trans (Nat.mul_le_mul hlen hlen2) (by decide)⟩
    have HPW : Mat w5.heap.size 22 3 w5 (.slice xo P.length xc) P := (hmat.below hb5 (Nat.le_refl _)).any (Nat.le_refl _)
    have HB5 : Hid (Below w2.heap.size w2 w5) := HB3.out.trans (hb5.mono HB3.out.size)
    have HSS : Hid (Calls Tryz.prog 5 #[.agg #[.int .i64 n, .slice xo P.length xc], .agg #[.int .i64 n, .slice xo2 Q.length xc2]] w5 fun e w' => e = .returned (.bool true) ∧ Below w5.heap.size w5 w') := by
      have h123 : n = 1 ∨ n = 2 ∨ n = 3 := by omega
      rcases h123 with rfl | rfl | rfl
      · exact sumSays_1 P Q _ _ w5 HPW hmat2 hTwo
      · exact sumSays_2 P Q _ _ w5 HPW hmat2 hTwo
      · exact sumSays_3 P Q _ _ w5 HPW hmat2 hTwo
    clear hTwo HPW hmat hmat2 hgood hgood2 hpb hpb2 hb5 hlen hlen2 HV HV3
    go_wp2_with fail
    refine HSS.out.mono ?_
    rintro e w6 ⟨rfl, hb6⟩
    have HB6 : Hid (Below w2.heap.size w2 w6) := HB5.out.trans (hb6.mono HB5.out.size)
    clear hb6 HSS
    go_wp2
    go_ret
    exact ⟨rfl, HB6.out⟩

end Go.Proofs.YtalboihbomaobaaGreat
