/- plane.Regions, plane.Bounded. -/
import Derived.Test.YtgfnmkenpgnllaaGreatDelS
import Derived.Test.YtgfnmkenpgnllaaGreatSg5
import Derived.Test.YtgfnmkenpgnllaaGreatHg4
namespace Go.Proofs.YtgfnmkenpgnllaaGreat
open Go.RowKit Lin
attribute [local go_sem ↓] Go.wp_at_zero Go.wp_at_succ

theorem grr_cut {d : Nat} {P : List (List Int)} (hP : ∀ p ∈ P, p.length = d + 1 ∧ ∀ z ∈ p, z.natAbs ≤ 20) (hd1 : 1 ≤ d) (hd3 : d ≤ 3) (hs6 : P.length ≤ 6) {t : List UInt8} (ht : t ∈ grTR d P P.length) : t.length = P.length ∧ (∀ c ∈ t, c = 43 ∨ c = 45 ∨ c = 48) ∧ CutOk d (clR P t) ∧ empB d (clR P t) = false := by
  obtain ⟨⟨h1, z, hz⟩, h2⟩ := grr_iff.1 ht
  refine ⟨h1, fun c hc => by rcases h2 c hc with h | h <;> simp [h], ⟨hd1, hd3, ?_, fun r hr => ?_, fun r hr => ?_⟩, emp_fea.2 ⟨_, _, hz.fea⟩⟩
  · have := clT_len P t t.length
    show (clT P t t.length).length ≤ 12
    omega
  · obtain ⟨i, hi, h⟩ := clT_mem hr
    have := (hP (P.getD i []) (getD_memR (by omega))).1
    rcases h with rfl | rfl
    · exact this
    · simp only [ngL, List.length_map]; exact this
  · obtain ⟨i, hi, h⟩ := clT_mem hr
    have := (hP (P.getD i []) (getD_memR (by omega))).2
    rcases h with rfl | rfl
    · exact this
    · intro z hz
      simp only [ngL, List.mem_map] at hz
      obtain ⟨y, hy, rfl⟩ := hz
      have := this y hy
      omega

set_option maxRecDepth 100000 in
theorem regions_any (d : Nat) (P : List (List Int)) (v : Value) (w : World) (hd1 : 1 ≤ d) (hd3 : d ≤ 3) (hG : PlG d P) (h6 : P.length ≤ 6) (hv : Mat 0 22 3 w v P) :
    Calls Tryz.prog 13 #[.int .i64 d, v] w fun e w' => ∃ uo uc, e = .returned (.tuple #[.slice uo (grTR d P P.length).length uc, .int .i64 0]) ∧ w'.ownsRow w.heap.size 9 1 (.slice uo (grTR d P P.length).length uc) (grTR d P P.length).length (strs (grTR d P P.length)) ∧ Below w.heap.size w w' := by
  have H1 : Hid (Calls Tryz.prog 17 #[.int .i64 d, v] w fun e w' => e = .returned (.int .i64 0) ∧ Below w.heap.size w w') := planeCheck_any d P v w hd1 hd3 hG h6 hv
  have H2 : Hid (∀ X, Below w.heap.size w X → Calls Tryz.prog 34 #[.int .i64 d, v, .string ⟨#[43, 45]⟩] X fun e w' => ∃ u, e = .returned u ∧ w'.ownsRow X.heap.size 9 1 u (grTR d P P.length).length (strs (grTR d P P.length)) ∧ Below X.heap.size X w') := fun X hX => grownR_any d P v X (hv.below hX (Nat.le_refl _)) hG.row hd1 hd3 h6
  clear hv hG
  go_enter Tryz.func13, Tryz.ntmps13
  go_wp2_with fail
  refine H1.out.mono ?_
  rintro e w1 ⟨rfl, hb1⟩
  have HB1 : Hid (Below w.heap.size w w1) := hb1
  clear hb1
  go_wp2_with fail
  refine (H2.out w1 HB1.out).mono ?_
  rintro e w2 ⟨u, rfl, hs, hb2⟩
  obtain ⟨uo, uc, rfl⟩ := owns_form hs
  have HS : Hid (w2.ownsRow w.heap.size 9 1 (.slice uo (grTR d P P.length).length uc) (grTR d P P.length).length (strs (grTR d P P.length))) := own_low hs HB1.out.size
  have HB2 : Hid (Below w.heap.size w w2) := HB1.out.trans (hb2.mono HB1.out.size)
  clear hs hb2
  go_wp2
  refine bodyPost_ret (v := .tuple #[.slice uo (grTR d P P.length).length uc, .int .i64 0]) (by simp [results, Tryz.results13, go_sem]) rfl ⟨uo, uc, rfl, HS.out, HB2.out⟩

set_option maxRecDepth 100000 in
set_option maxHeartbeats 800000 in
theorem isOpen1_any (d : Nat) (P : List (List Int)) (t : List UInt8) (v : Value) (b1 b2 : Nat) (w : World) (hP : ∀ p ∈ P, p.length = d + 1 ∧ ∀ z ∈ p, z.natAbs ≤ 20) (hd1 : 1 ≤ d) (hd3 : d ≤ 3) (hs6 : P.length ≤ 6) (ht : t ∈ grTR d P P.length) (hv : Mat 0 22 3 w v P) (c1 : w.cell? ⟨b1, 0, none⟩ = some (.int .i64 d)) (c2 : w.cell? ⟨b2, 0, none⟩ = some v) :
    Calls Tryz.prog 35 #[strT t, .pointer (some ⟨b1, 0, none⟩), .pointer (some ⟨b2, 0, none⟩)] w fun e w' => e = .returned (.bool (opB d (clR P t))) ∧ Below w.heap.size w w' := by
  obtain ⟨h1, h2, h3, h4⟩ := grr_cut hP hd1 hd3 hs6 ht
  obtain ⟨vo, vc, rfl, _, _⟩ := mat_open hv
  have HCL := closed_any d P t _ w hv hP hd3 (by omega) hs6 h2
  have HCO : Hid (∀ (u : Value) X, Mat 0 22 3 X u (clR P t) → Calls Tryz.prog 36 #[.agg #[.int .i64 d, u]] X fun e w' => ∃ uo ul uc E, e = .returned (.tuple #[.slice uo ul uc, .int .i64 E]) ∧ (E == 7) = opB d (clR P t) ∧ Below X.heap.size X w') := fun u X hu => by
    refine (halfCornersG_ok d (clR P t) u X hu h3).mono ?_
    rintro e w' ⟨uo, ul, uc, E, rfl, hw, hb⟩
    refine ⟨uo, ul, uc, E, rfl, ?_, hb⟩
    rcases hw with ⟨q, _⟩ | ⟨_, q, _, rfl⟩ | ⟨_, q, rfl, _⟩
    · rw [h4] at q; cases q
    · rw [q]; rfl
    · rw [q]; rfl
  have HC2 : Hid (Calls Tryz.prog 37 #[.int .i64 d, .slice vo P.length vc, .string ⟨t.toArray⟩] w fun e w' => ∃ xo xc, e = .returned (.agg #[.int .i64 d, .slice xo (clR P t).length xc]) ∧ Mat 0 22 3 w' (.slice xo (clR P t).length xc) (clR P t) ∧ Below w.heap.size w w') := HCL
  generalize opB d (clR P t) = ob at *
  obtain ⟨TB, hTB⟩ : ∃ TB : ByteArray, TB = ⟨t.toArray⟩ := ⟨_, rfl⟩
  show Calls Tryz.prog 35 #[.string ⟨t.toArray⟩, .pointer (some ⟨b1, 0, none⟩), .pointer (some ⟨b2, 0, none⟩)] w fun e w' => e = .returned (.bool ob) ∧ Below w.heap.size w w'
  rw [← hTB] at HC2 ⊢
  clear hv h1 h2 h3 h4 hP hTB HCL
  go_enter Tryz.func35, Tryz.ntmps35
  go_wp2_with fail
  refine HC2.out.mono ?_
  rintro e w2 ⟨xo, xc, rfl, hm, hb⟩
  have HK := HCO.out _ w2 hm
  have HB2 : Hid (Below w.heap.size w w2) := hb
  clear hm hb c1 c2 HC2 HCO
  go_wp2_with fail
  refine HK.mono ?_
  rintro e w3 ⟨uo, ul, uc, E, rfl, hE, hb3⟩
  have HB3 : Hid (Below w.heap.size w w3) := HB2.out.trans (hb3.mono HB2.out.size)
  have HE : Hid ((E == 7) = ob) := hE
  clear hb3 HK hE
  go_wp2
  go_ret
  exact ⟨ret_bool HE.out, HB3.out⟩

set_option maxRecDepth 100000 in
set_option maxHeartbeats 1600000 in
theorem boundedC_any (d : Nat) (P : List (List Int)) (v : Value) (w : World) (hd1 : 1 ≤ d) (hd3 : d ≤ 3) (hG : PlG d P) (h6 : P.length ≤ 6) (hv : Mat 0 22 3 w v P) :
    Calls Tryz.prog 14 #[.int .i64 d, v] w fun e w' => ∃ uo uc, e = .returned (.tuple #[.slice uo ((grTR d P P.length).filter fun t => !opB d (clR P t)).length uc, .int .i64 0]) ∧ Sl 0 9 w' (.slice uo ((grTR d P P.length).filter fun t => !opB d (clR P t)).length uc) (strs ((grTR d P P.length).filter fun t => !opB d (clR P t))) ∧ Below w.heap.size w w' := by
  obtain ⟨vo, vc, rfl, _, _⟩ := mat_open hv
  obtain ⟨W, hW⟩ : ∃ W, W = (w.alloc (.cells #[.int .i64 d] 3)).alloc (.cells #[.slice vo P.length vc] 25) := ⟨_, rfl⟩
  have hbW : Below w.heap.size w W := by rw [hW]; exact ((Below.refl _ _).alloc (Nat.le_refl _) _).alloc (by simp) _
  have hsW : W.heap.size = w.heap.size + 2 := by rw [hW]; simp
  have n1 : W.heap[w.heap.size]? = some (.cells #[.int .i64 d] 3 (0, 0)) := by
    rw [hW]
    exact (Below.heap_alloc _ _ _ (by simp)).trans (heap_alloc_new _ _)
  have n2 : W.heap[w.heap.size + 1]? = some (.cells #[.slice vo P.length vc] 25 (0, 0)) := by
    rw [hW]
    have := heap_alloc_new (w.alloc (.cells #[.int .i64 d] 3)) (.cells #[.slice vo P.length vc] 25)
    simpa using this
  have hvW := hv.below hbW (Nat.le_refl _)
  have hmk : ∀ X : World, (∀ b, b < W.heap.size → X.heap[b]? = W.heap[b]?) → Mat 0 22 3 X (.slice vo P.length vc) P ∧ X.cell? ⟨w.heap.size, 0, none⟩ = some (.int .i64 d) ∧ X.cell? ⟨w.heap.size + 1, 0, none⟩ = some (.slice vo P.length vc) := fun X hX => by
    obtain ⟨vs, q1, q2, q3⟩ := hvW
    have k1 := (hX w.heap.size (by omega)).trans n1
    have k2 := (hX (w.heap.size + 1) (by omega)).trans n2
    exact ⟨⟨vs, q1, q2.move fun b hb ht => ⟨hX b hb, ht⟩, fun i hi => (q3 i hi).move fun b hb ht => ⟨hX b hb, ht⟩⟩, by simp [World.cell?, k1], by simp [World.cell?, k2]⟩
  have HRE : Hid (Calls Tryz.prog 13 #[.int .i64 d, .slice vo P.length vc] W fun e w' => ∃ uo uc, e = .returned (.tuple #[.slice uo (grTR d P P.length).length uc, .int .i64 0]) ∧ w'.ownsRow W.heap.size 9 1 (.slice uo (grTR d P P.length).length uc) (grTR d P P.length).length (strs (grTR d P P.length)) ∧ Below W.heap.size W w') := regions_any d P _ W hd1 hd3 hG h6 hvW
  have hlen : (grTR d P P.length).length ≤ 1000000 := Nat.le_trans (grr_len d P P.length) (Nat.le_trans (Nat.pow_le_pow_right (by decide) h6) (by decide))
  have HDE : Hid (∀ uo uc X, Below W.heap.size W X → X.ownsRow W.heap.size 9 1 (.slice uo (grTR d P P.length).length uc) (grTR d P P.length).length (strs (grTR d P P.length)) → Calls Tryz.prog 38 #[.slice uo (grTR d P P.length).length uc, .func (.func 35) #[] #[.pointer (some ⟨w.heap.size, 0, none⟩), .pointer (some ⟨w.heap.size + 1, 0, none⟩)]] X fun e w' => ∃ u, e = .returned u ∧ w'.ownsRow W.heap.size 9 1 u ((grTR d P P.length).filter fun t => !opB d (clR P t)).length (strs ((grTR d P P.length).filter fun t => !opB d (clR P t))) ∧ Below W.heap.size X w') := fun uo uc X hX ho => by
    refine deleteS_any W.heap.size w.heap.size (w.heap.size + 1) (fun t => opB d (clR P t)) (fun Y => (∀ b, b < W.heap.size → Y.heap[b]? = W.heap[b]?) ∧ W.heap.size ≤ Y.heap.size) _ _ X ho hX.size hlen (fun t ht Y hY => ?_) ⟨fun b hb => hX.block b hb, hX.size⟩ (fun Y Z hY hZ => ⟨fun b hb => (hZ.block b (by have := hY.2; omega)).trans (hY.1 b hb), Nat.le_trans hY.2 hZ.size⟩) (fun g hg Y c u hY => ⟨fun b hb => (Below.heap_setCell _ _ _ _ (by show b ≠ g; have := (ho.lt g hg).1; omega)).trans (hY.1 b hb), by simp [World.setCell]; exact hY.2⟩)
    obtain ⟨m1, m2, m3⟩ := hmk Y hY.1
    exact isOpen1_any d P t _ _ _ Y hG.row hd1 hd3 h6 ht m1 m2 m3
  have HBW : Hid (∀ X, Below W.heap.size W X → Below w.heap.size w X) := fun X hX => hbW.trans (hX.mono hbW.size)
  have HCC : Hid (∀ X, Below W.heap.size W X → X.cell? ⟨w.heap.size, 0, none⟩ = some (.int .i64 d) ∧ X.cell? ⟨w.heap.size + 1, 0, none⟩ = some (.slice vo P.length vc)) := fun X hX => (hmk X fun b hb => hX.block b hb).2
  have HWW : Hid (W = (w.alloc (.cells #[.int .i64 d] 3)).alloc (.cells #[.slice vo P.length vc] 25)) := hW
  obtain ⟨q1, q2⟩ := HCC.out W (Below.refl _ _)
  have HSW : Hid (W.heap.size = w.heap.size + 2) := hsW
  clear hv hG hvW hmk n1 n2 hW hbW hlen hsW
  generalize ((grTR d P P.length).filter fun t => !opB d (clR P t)) = FL at *
  generalize grTR d P P.length = GL at *
  go_enter Tryz.func14, Tryz.ntmps14
  go_upto_region 1 with fail
  rw [← HWW.out]
  go_wp2_with fail
  refine HRE.out.mono ?_
  rintro e w1 ⟨uo, uc, rfl, ho1, hb1⟩
  have HD1 := HDE.out uo uc w1 hb1 ho1
  have HB1 : Hid (Below W.heap.size W w1) := hb1
  clear ho1 hb1 HRE HDE q1 q2
  go_wp2_with fail
  refine HD1.mono ?_
  rintro e w2 ⟨u, rfl, ho2, hb2⟩
  obtain ⟨xo, xc, rfl⟩ := owns_form ho2
  have HB2 : Hid (Below w.heap.size w w2) := HBW.out _ (HB1.out.trans hb2)
  have HO2 : Hid (Sl 0 9 w2 (.slice xo FL.length xc) (strs FL)) := Sl.own ho2
  clear ho2 hb2 HD1
  go_wp2
  refine bodyPost_ret (v := .tuple #[.slice xo FL.length xc, .int .i64 0]) (by simp [results, Tryz.results14, go_sem]) rfl ⟨xo, xc, rfl, HO2.out, HB2.out⟩

end Go.Proofs.YtgfnmkenpgnllaaGreat
