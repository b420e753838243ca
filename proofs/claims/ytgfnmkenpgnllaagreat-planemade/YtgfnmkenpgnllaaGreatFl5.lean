/- plane.polynomial, plane.Poly. -/
import Derived.Test.YtgfnmkenpgnllaaGreatFl4
namespace Go.Proofs.YtgfnmkenpgnllaaGreat
open Go.RowKit Go.Maps Lin
attribute [local go_sem ↓] Go.wp_at_zero Go.wp_at_succ

theorem FlR.cells {B : Nat} {w : World} {uo : Option Addr} {n uc : Nat} {T : List FlT} (h : FlR B w (.slice uo n uc) T) {k : Nat} (hk : k < T.length) : ∃ g, uo = some ⟨g, 0, none⟩ ∧ B ≤ g ∧ g < w.heap.size ∧ w.cell? ⟨g, k * 2, none⟩ = some (T.getD k (.slice none 0 0, [], 0)).1 ∧ w.cell? ⟨g, k * 2 + 1, none⟩ = some (.int .i64 ((T.getD k (.slice none 0 0, [], 0)).2.2 : Nat)) := by
  rcases h.own.2 with ⟨_, h0⟩ | ⟨g, cap, cur, he, hB, hh, h1, _, h3, h4⟩
  · omega
  · simp only [Value.slice.injEq] at he
    obtain ⟨rfl, _, rfl⟩ := he
    have hc : ∀ t, t < T.length * 2 → w.cell? ⟨g, t, none⟩ = (encF (T.getD (t / 2) (.slice none 0 0, [], 0)))[t % 2]? := fun t ht => by
      rw [← flatF_get T t ht, ← h4, List.getElem?_take_of_lt ht, Array.getElem?_toList]
      simp [World.cell?, hh]
    refine ⟨g, rfl, hB, (Array.getElem?_eq_some_iff.1 hh).1, ?_, ?_⟩
    · rw [hc (k * 2) (by omega), Nat.mul_div_cancel _ (by decide), Nat.mul_mod_left]
      rfl
    · rw [hc (k * 2 + 1) (by omega), show (k * 2 + 1) / 2 = k by omega, show (k * 2 + 1) % 2 = 1 by omega]
      rfl

/-- Between the flats. -/
structure PoI (w : World) (d : Nat) (P : List (List Int)) (m : List (List Int × Nat)) (k : Nat) (W : World) : Prop where
  row : ∃ F, W.rowIs w.heap.size 3 (d + 1) F ∧ ∀ i, i < d + 1 → F i = .int .i64 ((coF d P m k).getD i 0)
  mp : ∃ D, NmI W (w.heap.size + 1) ((msk m).take k) (wf d P) D
  bel : Below w.heap.size w W
  size : w.heap.size + 2 ≤ W.heap.size

theorem PoI.below {w W W' : World} {d : Nat} {P : List (List Int)} {m : List (List Int × Nat)} {k : Nat} (h : PoI w d P m k W) (hb : Below W.heap.size W W') : PoI w d P m k W' := by
  have hs := h.size
  obtain ⟨F, h1, h2⟩ := h.row
  obtain ⟨D, h3⟩ := h.mp
  exact ⟨⟨F, h1.of_block (hb.block _ (by omega)), h2⟩, ⟨D, h3.below hb⟩, h.bel.trans (hb.mono h.bel.size), Nat.le_trans hs hb.size⟩

theorem coV_abs {d : Nat} {P : List (List Int)} {m : List (List Int × Nat)} {k j : Nat} (h6 : P.length ≤ 6) (hm : m.length ≤ 64) : (coV d P m k j).natAbs ≤ 4096 := by
  refine Nat.le_trans (list_abs (B := 64) _ fun x _ => ?_) ?_
  · split
    · exact wf_abs h6 _
    · decide
  · rw [List.length_take]
    have : min k m.length ≤ 64 := by omega
    exact Nat.le_trans (Nat.mul_le_mul_right 64 this) (by decide)

set_option maxRecDepth 100000 in
set_option maxHeartbeats 3200000 in
theorem polynomial_any (d B : Nat) (P : List (List Int)) (T : List FlT) (uo : Option Addr) (uc : Nat) (w : World) (hd1 : 1 ≤ d) (hd3 : d ≤ 3) (h6 : P.length ≤ 6) (hP : ∀ i, i < P.length → ∃ j, j < d ∧ V (P.getD i []) j ≠ 0) (hT : FlR B w (.slice uo T.length uc) T) (hS : FlS d P (T.map fun t => t.2)) :
    Calls Tryz.prog 40 #[.int .i64 d, .slice uo T.length uc] w fun e w' => ∃ co cc, e = .returned (.slice co (d + 1) cc) ∧ Sl 0 3 w' (.slice co (d + 1) cc) (ints ((List.range (d + 1)).map (whC d P))) ∧ Below w.heap.size w w' := by
  obtain ⟨m, hm⟩ : ∃ m, m = T.map fun t => t.2 := ⟨_, rfl⟩
  rw [← hm] at hS
  have hml : m.length = T.length := by rw [hm]; simp
  have hmg : ∀ k, k < T.length → (T.getD k (.slice none 0 0, [], 0)).2 = m.getD k ([], 0) := fun k hk => by rw [hm]; simp [hk]
  have hT64 : T.length ≤ 64 := by
    have h1 := hS.nodup h6
    have h2 : (msk m).length ≤ 2 ^ P.length := by
      have h3 : (msk m).length ≤ (List.range (2 ^ P.length)).length := List.Nodup.length_le_of_subset h1 fun x hx => by
        obtain ⟨y, hy, rfl⟩ := List.mem_map.1 hx
        exact List.mem_range.2 (hS.mem h6 hy).2.2.2
      simpa using h3
    have h3 : 2 ^ P.length ≤ 2 ^ 6 := Nat.pow_le_pow_right (by decide) h6
    have h4 : (msk m).length = m.length := by simp [msk]
    omega
  have hr3 : ∀ k, k < T.length → (m.getD k ([], 0)).2 ≤ d := fun k hk => by
    have hx : m.getD k ([], 0) ∈ m := by simp [hml, hk]
    obtain ⟨h1, h2, h3, h4⟩ := hS.mem h6 hx
    rw [h3, ← rS_rk (fl_iff.1 h2).1]
    exact rk_cap _ _
  have HMO : Hid (∀ k X, k < T.length → (∃ D, NmI X (w.heap.size + 1) ((msk m).take k) (wf d P) D) → Below w.heap.size w X → Calls Tryz.prog 65 #[.map (some (w.heap.size + 1)), .agg #[(T.getD k (.slice none 0 0, [], 0)).1, .int .i64 ((m.getD k ([], 0)).2 : Nat)]] X fun e w' => e = .returned (.int .i64 (wf d P (setN (m.getD k ([], 0)).1))) ∧ Below X.heap.size X w') := fun k X hk hD hX => by
    obtain ⟨D, hD⟩ := hD
    have hx : m.getD k ([], 0) ∈ m := by simp [hml, hk]
    obtain ⟨h1, h2, h3, h4⟩ := hS.mem h6 hx
    have hmk : ∀ x ∈ (msk m).take k, x < 64 := fun x hx => by
      obtain ⟨y, hy, rfl⟩ := List.mem_map.1 (List.mem_of_mem_take hx)
      exact Nat.lt_of_lt_of_le (hS.mem h6 hy).2.2.2 (Nat.le_trans (Nat.pow_le_pow_right (by decide) h6) (by decide))
    have hb64 : B64 (m.getD k ([], 0)).1 := fun z hz => by
      have := ((xt_all h6).1 _ h1).2.2 z hz
      omega
    have hsl : Sl 0 3 X (T.getD k (.slice none 0 0, [], 0)).1 (ints (m.getD k ([], 0)).1) := by
      have := (hT.inn _ (mem_getF T k hk)).below hX (Nat.le_refl _)
      rw [hmg k hk] at this
      exact this
    refine (moebius_any (w.heap.size + 1) ((msk m).take k) (wf d P) D (m.getD k ([], 0)).1 (m.getD k ([], 0)).2 _ X hD (by rw [List.length_take]; simp [msk]; omega) (List.Nodup.sublist (List.take_sublist _ _) (hS.nodup h6)) hmk (fun x => wf_abs h6 x) hsl hb64).mono ?_
    rintro e w' ⟨rfl, hb⟩
    refine ⟨ret_int ?_, hb⟩
    by_cases hr : (m.getD k ([], 0)).2 = 0
    · rw [if_pos hr]
      have h5 := rS_zero hP h4 (by rw [← h3]; exact hr)
      rw [h5]
      exact (wf_zero h6 hP).symm
    · rw [if_neg hr]
      exact hS.moe h6 (by omega) hr
  have HOF : Hid (∀ k X, k < T.length → Below w.heap.size w X → Calls Tryz.prog 66 #[(T.getD k (.slice none 0 0, [], 0)).1] X fun e w' => e = .returned (.int .u64 (setN (m.getD k ([], 0)).1 : Nat)) ∧ ∃ n, w' = X.drewN n) := fun k X hk hX => by
    have hx : m.getD k ([], 0) ∈ m := by simp [hml, hk]
    obtain ⟨h1, h2, h3, h4⟩ := hS.mem h6 hx
    have hsl : Sl 0 3 X (T.getD k (.slice none 0 0, [], 0)).1 (ints (m.getD k ([], 0)).1) := by
      have := (hT.inn _ (mem_getF T k hk)).below hX (Nat.le_refl _)
      rw [hmg k hk] at this
      exact this
    exact setOf_any 0 _ _ X hsl fun z hz => by
      have := ((xt_all h6).1 _ h1).2.2 z hz
      omega
  have HPU : Hid (∀ k X, k < T.length → (∃ D, NmI X (w.heap.size + 1) ((msk m).take k) (wf d P) D) → ∃ w2, (Instr.mapUpdate 91 (.map (some (w.heap.size + 1))) (.int .u64 (setN (m.getD k ([], 0)).1 : Nat)) (.int .i64 (wf d P (setN (m.getD k ([], 0)).1)))).run Tryz.prog X = .ok () w2 ∧ (∃ D', NmI w2 (w.heap.size + 1) ((msk m).take (k + 1)) (wf d P) D') ∧ X.grownBy w2 (some (w.heap.size + 1))) := fun k X hk hD => by
    obtain ⟨D, hD⟩ := hD
    have hx : m.getD k ([], 0) ∈ m := by simp [hml, hk]
    obtain ⟨h1, h2, h3, h4⟩ := hS.mem h6 hx
    have hlt : setN (m.getD k ([], 0)).1 < 64 := Nat.lt_of_lt_of_le h4 (Nat.le_trans (Nat.pow_le_pow_right (by decide) h6) (by decide))
    have := hD.put (x := setN (m.getD k ([], 0)).1) (by omega) (by rw [List.length_take]; simp [msk]; omega) (Nat.le_trans (wf_abs h6 _) (by decide))
    have e : (msk m).take (k + 1) = (msk m).take k ++ [setN (m.getD k ([], 0)).1] := by
      have hk2 : k < (msk m).length := by simp [msk]; omega
      rw [List.take_succ_eq_append_getElem hk2]
      simp [msk, show k < m.length by omega]
    rw [e]
    exact this
  have HSC : Hid (∀ k, k < T.length → coF d P m (k + 1) = (coF d P m k).set (d - (m.getD k ([], 0)).2) ((coF d P m k).getD (d - (m.getD k ([], 0)).2) 0 + wf d P (setN (m.getD k ([], 0)).1))) := fun k hk => coF_succ (by omega)
  have HCA : Hid (∀ k j, j < d + 1 → ((coF d P m k).getD j 0).natAbs ≤ 4096) := fun k j hj => by
    rw [coF_get hj]
    exact coV_abs h6 (by omega)
  have HWA : Hid (∀ F, (wf d P F).natAbs ≤ 64) := fun F => wf_abs h6 F
  have HCO : Hid (coF d P m m.length = (List.range (d + 1)).map (whC d P)) := hS.coef h6
  have HCL : Hid (∀ k X, k < T.length → Below w.heap.size w X → ∃ g, uo = some ⟨g, 0, none⟩ ∧ g < w.heap.size ∧ X.cell? ⟨g, k * 2, none⟩ = some (T.getD k (.slice none 0 0, [], 0)).1 ∧ X.cell? ⟨g, k * 2 + 1, none⟩ = some (.int .i64 ((m.getD k ([], 0)).2 : Nat))) := fun k X hk hX => by
    obtain ⟨g, h1, h2, h3, h4, h5⟩ := hT.cells hk
    rw [hmg k hk] at h5
    exact ⟨g, h1, h3, (hX.cell (p := ⟨g, k * 2, none⟩) h3).trans h4, (hX.cell (p := ⟨g, k * 2 + 1, none⟩) h3).trans h5⟩
  have HR3 : Hid (∀ k, k < T.length → (m.getD k ([], 0)).2 ≤ d) := hr3
  have HTF : Hid (∀ k, k < T.length → ∃ so n sc, (T.getD k (.slice none 0 0, [], 0)).1 = .slice so n sc) := fun k hk => by
    obtain ⟨so, sc, h, _, _⟩ := sl_open (hT.inn _ (mem_getF T k hk))
    exact ⟨so, _, sc, h⟩
  have HML : Hid (m.length = T.length) := hml
  have HZ : Hid (coF d P m 0 = List.replicate (d + 1) 0) := coF_zero d P m
  have hmk := run_make_row' (P := Tryz.prog) 22 3 (.int .i64 0) 8 Tryz.underlying22 Tryz.info3 rfl .i64 .i64 (d + 1) (by omega) (by omega)
  have hde : ((d + 1 : Nat) : Int) = (d : Int) + 1 := by omega
  simp only [hde] at hmk
  have hmm := @run_makeMap Tryz.prog
  clear hde
  clear hT hS hm hml hmg hr3 hP
  go_enter Tryz.func40, Tryz.ntmps40
  go_wp2
  obtain ⟨W2, hW2⟩ : ∃ W2, W2 = (w.alloc (.cells (madeCells #[.int .i64 0] (d + 1)) 3)).alloc (.map #[] 0) := ⟨_, rfl⟩
  have HI0 : Hid (PoI w d P m 0 W2) := by
    have hb1 : Below w.heap.size w (w.alloc (.cells (madeCells #[.int .i64 0] (d + 1)) 3)) := alloc_keep _ _
    have hb2 : Below w.heap.size w W2 := by rw [hW2]; exact hb1.alloc (by simp) _
    refine ⟨⟨fun _ => .int .i64 0, ⟨madeCells #[.int .i64 0] (d + 1), ?_, by rw [size_madeCells], fun i hi => ?_⟩, fun i hi => ?_⟩, ⟨.map [], ?_, fun x => ?_, fun x hx => absurd hx (by simp)⟩, hb2, by rw [hW2]; simp⟩
    · rw [hW2]
      exact (Below.heap_alloc _ _ _ (by simp)).trans (heap_alloc_new _ _)
    · rw [← Array.getElem?_toList, toList_madeCells_one]; simp [hi]
    · rw [HZ.out]
      simp [hi]
    · have := World.ownsMap_made (w.alloc (.cells (madeCells #[.int .i64 0] (d + 1)) 3)) Tryz.prog 94 (plainElem (H := Unit) Tryz.prog 3)
      rw [size_alloc] at this
      rw [hW2]
      exact this
    · simp [Maps.has]
  rw [← hW2]
  clear hW2 hmk hmm HZ
  go_loopw [8, 9, 16] (fun _ _ i wr => ∃ k : Nat, k ≤ T.length ∧ i = .int .i64 (k : Int) ∧ PoI w d P m k wr) (fun _ _ i _ => T.length - (intOf i).toNat)
  case atStart => exact ⟨0, Nat.zero_le _, rfl, HI0.out⟩
  case round =>
    obtain ⟨k, hk, rfl, hI⟩ := hrel
    have HI : Hid (PoI w d P m k wr) := hI
    have hsz := hI.size
    by_cases hlt : k < T.length
    · obtain ⟨g, hg, hgl, c1, c2⟩ := HCL.out k wr hlt hI.bel
      subst hg
      obtain ⟨so, sn, sc, hsf⟩ := HTF.out k hlt
      have hkI : (k : Int) < (T.length : Int) := by omega
      have hrd := HR3.out k hlt
      have HM2 := fun X => HMO.out k X hlt
      have HO2 := fun X => HOF.out k X hlt
      have HP2 := fun X => HPU.out k X hlt
      have HS2 := HSC.out k hlt
      rw [hsf] at c1 HM2 HO2
      clear hsf hI HMO HOF HPU HSC HCL HTF
      have HW2 := HWA.out (setN (m.getD k ([], 0)).1)
      generalize wf d P (setN (m.getD k ([], 0)).1) = wv at *
      generalize setN (m.getD k ([], 0)).1 = Fk at *
      generalize (m.getD k ([], 0)).2 = rk' at *
      have HM3 : Hid (∀ X, (∃ D, NmI X (w.heap.size + 1) ((msk m).take k) (wf d P) D) → Below w.heap.size w X → Calls Tryz.prog 65 #[.map (some (w.heap.size + 1)), .agg #[.slice so sn sc, .int .i64 (rk' : Nat)]] X fun e w' => e = .returned (.int .i64 wv) ∧ Below X.heap.size X w') := HM2
      have HO3 : Hid (∀ X, Below w.heap.size w X → Calls Tryz.prog 66 #[.slice so sn sc] X fun e w' => e = .returned (.int .u64 (Fk : Nat)) ∧ ∃ n, w' = X.drewN n) := HO2
      have HP3 : Hid (∀ X, (∃ D, NmI X (w.heap.size + 1) ((msk m).take k) (wf d P) D) → ∃ w2, (Instr.mapUpdate 91 (.map (some (w.heap.size + 1))) (.int .u64 (Fk : Nat)) (.int .i64 wv)).run Tryz.prog X = .ok () w2 ∧ (∃ D', NmI w2 (w.heap.size + 1) ((msk m).take (k + 1)) (wf d P) D') ∧ X.grownBy w2 (some (w.heap.size + 1))) := HP2
      have HS3 : Hid (coF d P m (k + 1) = (coF d P m k).set (d - rk') ((coF d P m k).getD (d - rk') 0 + wv)) := HS2
      clear HM2 HO2 HP2 HS2
      obtain ⟨X1, hX1⟩ : ∃ X1, X1 = wr.alloc (.cells #[.slice so sn sc, .int .i64 (rk' : Nat)] 68) := ⟨_, rfl⟩
      have hbX : Below wr.heap.size wr X1 := by rw [hX1]; exact alloc_keep _ _
      have hkX : X1.heap[wr.heap.size]? = some (.cells #[.slice so sn sc, .int .i64 (rk' : Nat)] 68 (0, 0)) := by rw [hX1]; exact alloc_new _ _
      have hsX : X1.heap.size = wr.heap.size + 1 := by rw [hX1]; exact size_alloc _ _
      have HIX := HI.out.below hbX
      have HM4 := HM3.out X1 HIX.mp HIX.bel
      have HXX : Hid (X1 = wr.alloc (.cells #[.slice so sn sc, .int .i64 (rk' : Nat)] 68)) := hX1
      have HBX : Hid (Below wr.heap.size wr X1 ∧ X1.heap.size = wr.heap.size + 1 ∧ X1.heap[wr.heap.size]? = some (.cells #[.slice so sn sc, .int .i64 (rk' : Nat)] 68 (0, 0))) := ⟨hbX, hsX, hkX⟩
      clear hbX hkX hsX hX1 HIX HM3
      go_wp2_with fail
      rw [← HXX.out]
      refine HM4.mono ?_
      rintro e w2 ⟨rfl, hb2⟩
      have hbW : Below wr.heap.size wr w2 := HBX.out.1.trans (hb2.mono HBX.out.1.size)
      have HI2 := HI.out.below hbW
      have hk2 : w2.heap[wr.heap.size]? = some (.cells #[.slice so sn sc, .int .i64 (rk' : Nat)] 68 (0, 0)) := (hb2.block _ (by have := HBX.out.2.1; omega)).trans HBX.out.2.2
      have c3 : w2.cell? ⟨wr.heap.size, 0, none⟩ = some (.slice so sn sc) := by simp [World.cell?, hk2]
      have HK2 : Hid (w2.heap[wr.heap.size]? = some (.cells #[.slice so sn sc, .int .i64 (rk' : Nat)] 68 (0, 0))) := hk2
      have HIW : Hid (PoI w d P m k w2) := HI2
      have HO4 := HO3.out w2 HI2.bel
      clear hb2 hbW HI2 hk2 HM4 HXX HBX c1 c2
      go_wp2_with fail
      refine HO4.mono ?_
      rintro e w3 ⟨rfl, nq, hw3⟩
      have h3h : w3.heap = w2.heap := by rw [hw3]; rfl
      have HI3 : PoI w d P m k w3 := by
        rw [hw3]
        obtain ⟨⟨F, p1, p2⟩, ⟨D, p3⟩, p4, p5⟩ := HIW.out
        obtain ⟨q1, q2, q3, q4, q5⟩ := p4
        exact ⟨⟨F, p1, p2⟩, ⟨D, p3.own, p3.has, p3.val⟩, ⟨q1, q2, q3, q4, q5⟩, p5⟩
      obtain ⟨w4, hp4, hm4, hg4⟩ := HP3.out w3 HI3.mp
      obtain ⟨F, hF1, hF2⟩ := HI3.row
      have hs3 := HI3.size
      have hF4 : w4.rowIs w.heap.size 3 (d + 1) F := hF1.of_block (hg4.block _ (by omega) (by simp))
      have hk4 : w4.heap[wr.heap.size]? = some (.cells #[.slice so sn sc, .int .i64 (rk' : Nat)] 68 (0, 0)) := by
        rw [hg4.block _ (by rw [h3h]; exact (Array.getElem?_eq_some_iff.1 HK2.out).1) (by simp; omega), h3h]
        exact HK2.out
      obtain ⟨j, hj⟩ : ∃ j, j = d - rk' := ⟨_, rfl⟩
      have hjI : (d : Int) - (rk' : Int) = (j : Int) := by omega
      have hjd : j < d + 1 := by omega
      have hjdI : (j : Int) < (d : Int) + 1 := by omega
      have c4 : w4.cell? ⟨wr.heap.size, 1, none⟩ = some (.int .i64 (rk' : Nat)) := by simp [World.cell?, hk4]
      have c5 : w4.cell? ⟨w.heap.size, j, none⟩ = some (.int .i64 ((coF d P m k).getD j 0)) := by rw [hF4.cell hjd, hF2 j hjd]
      have c6 : w4.frozen? ⟨w.heap.size, j, none⟩ = false := hF4.frozen j
      have hca := HCA.out k j hjd
      have HFI : Hid (PoI w d P m (k + 1) (w4.setCell ⟨w.heap.size, j, none⟩ (.int .i64 ((coF d P m k).getD j 0 + wv)))) := by
        refine ⟨⟨_, hF4.set j _, fun i hi => ?_⟩, ?_, ?_, ?_⟩
        · rw [HS3.out, ← hj]
          by_cases e : i = j
          · subst e
            have hl : i < (coF d P m k).length := by rw [coF_len]; omega
            simp [hl]
          · have e2 : ((coF d P m k).set j ((coF d P m k).getD j 0 + wv)).getD i 0 = (coF d P m k).getD i 0 := by
              rw [List.getD_eq_getElem?_getD, List.getElem?_set_ne (Ne.symm e), ← List.getD_eq_getElem?_getD]
            rw [if_neg e, hF2 i hi, e2]
        · obtain ⟨D', hD⟩ := hm4
          refine ⟨D', hD.own.kept (row := some w.heap.size) ?_ (by simp), hD.has, hD.val⟩
          exact ⟨rfl, rfl, rfl, by simp [World.setCell], fun b hb hne => Below.heap_setCell _ _ _ _ (fun e => hne (by rw [e]))⟩
        · have hb5 : Below w.heap.size w w4 := HI3.bel.grown hg4 HI3.bel.size (fun x hx => by simp at hx; omega)
          exact hb5.setCell (by show w.heap.size ≤ w.heap.size; omega) _
        · have := hg4.size
          simp [World.setCell]
          omega
      have HGS : Hid True := trivial
      clear HI3 hm4 hg4 hF1 hF2 hF4 hk4 HS3 hj HIW HO4 HO3 HP3 h3h c3 HK2
      subst hw3
      generalize (coF d P m k).getD j 0 = av at *
      go_wp2
      exact ⟨⟨k + 1, by omega, by go_num, HFI.out⟩, by simp [intOf]; omega⟩
    · have hke : k = T.length := by omega
      subst hke
      obtain ⟨F, hF1, hF2⟩ := hI.row
      have HSL : Hid (Sl 0 3 wr (.slice (some ⟨w.heap.size, 0, none⟩) (d + 1) (d + 1)) (ints ((List.range (d + 1)).map (whC d P)))) := by
        rw [← HCO.out, HML.out]
        exact row_slT hF1 hF2 (coF_len _ _ _ _) (Nat.le_refl _) (by omega)
      have HBE : Hid (Below w.heap.size w wr) := hI.bel
      clear hF1 hF2 hI HMO HOF HPU HSC HCL HTF
      go_wp2
      go_ret
      exact ⟨_, _, rfl, HSL.out, HBE.out⟩

set_option maxRecDepth 100000 in
theorem poly_any (d : Nat) (P : List (List Int)) (v : Value) (w : World) (hd1 : 1 ≤ d) (hd3 : d ≤ 3) (hG : PlG d P) (h5 : P.length ≤ 5) (hv : Mat 0 22 3 w v P) :
    Calls Tryz.prog 16 #[.int .i64 d, v] w fun e w' => ∃ co cc, e = .returned (.tuple #[.slice co (d + 1) cc, .int .i64 0]) ∧ Sl 0 3 w' (.slice co (d + 1) cc) (ints ((List.range (d + 1)).map (whC d P))) ∧ Below w.heap.size w w' := by
  have hP : ∀ i, i < P.length → ∃ j, j < d ∧ V (P.getD i []) j ≠ 0 := fun i hi => by
    refine Classical.byContradiction fun hn => hG.one _ (getD_memR hi) ?_
    have h0 : ∀ j, j < d → V (P.getD i []) j = 0 := fun j hj => Classical.byContradiction fun h => hn ⟨j, hj, h⟩
    have h1 : rk d [P.getD i []] ≤ rk d [] := rk_le fun u _ r hr => by
      rw [List.mem_singleton.1 hr]
      exact dot_zero h0
    have h2 : rk d ([] : List (List Int)) = 0 := rfl
    unfold rk at h1 h2
    omega
  have H1 : Hid (Calls Tryz.prog 17 #[.int .i64 d, v] w fun e w' => e = .returned (.int .i64 0) ∧ Below w.heap.size w w') := planeCheck_any d P v w hd1 hd3 hG (by omega) hv
  have H2 : Hid (∀ X, Below w.heap.size w X → Calls Tryz.prog 39 #[.int .i64 d, v] X fun e w' => ∃ uo uc T, e = .returned (.slice uo T.length uc) ∧ FlR (X.heap.size + 3) w' (.slice uo T.length uc) T ∧ FlS d P (T.map fun t => t.2) ∧ Below X.heap.size X w') := fun X hX => flats_any d P v X hd1 hd3 hG.row (flat_none hP) h5 (hv.below hX (Nat.le_refl _))
  have H3 : Hid (∀ (B : Nat) (T : List FlT) uo uc X, FlR B X (.slice uo T.length uc) T → FlS d P (T.map fun t => t.2) → Calls Tryz.prog 40 #[.int .i64 d, .slice uo T.length uc] X fun e w' => ∃ co cc, e = .returned (.slice co (d + 1) cc) ∧ Sl 0 3 w' (.slice co (d + 1) cc) (ints ((List.range (d + 1)).map (whC d P))) ∧ Below X.heap.size X w') := fun B T uo uc X h1 h2 => polynomial_any d B P T uo uc X hd1 hd3 (by omega) hP h1 h2
  clear hv hG hP
  go_enter Tryz.func16, Tryz.ntmps16
  go_wp2_with fail
  refine H1.out.mono ?_
  rintro e w1 ⟨rfl, hb1⟩
  have HB1 : Hid (Below w.heap.size w w1) := hb1
  clear hb1
  go_wp2_with fail
  refine (H2.out w1 HB1.out).mono ?_
  rintro e w2 ⟨uo, uc, T, rfl, hf, hs, hb2⟩
  have HK := H3.out _ T uo uc w2 hf hs
  have HB2 : Hid (Below w.heap.size w w2) := HB1.out.trans (hb2.mono HB1.out.size)
  clear hf hs hb2
  go_wp2_with fail
  refine HK.mono ?_
  rintro e w3 ⟨co, cc, rfl, hsl, hb3⟩
  have HSL : Hid (Sl 0 3 w3 (.slice co (d + 1) cc) (ints ((List.range (d + 1)).map (whC d P)))) := hsl
  have HB3 : Hid (Below w.heap.size w w3) := HB2.out.trans (hb3.mono HB2.out.size)
  clear hsl hb3 HK
  go_wp2
  refine bodyPost_ret (v := .tuple #[.slice co (d + 1) cc, .int .i64 0]) (by simp [results, Tryz.results16, go_sem]) rfl ⟨co, cc, rfl, HSL.out, HB3.out⟩

end Go.Proofs.YtgfnmkenpgnllaaGreat
