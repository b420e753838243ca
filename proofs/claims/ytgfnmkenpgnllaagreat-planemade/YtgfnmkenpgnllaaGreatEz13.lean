/- plane.Flats, and facetlaw.texts. -/
import Derived.Test.YtgfnmkenpgnllaaGreatEz7
import Derived.Test.YtgfnmkenpgnllaaGreatFl5
import Derived.Test.YtgfnmkenpgnllaaGreatSg8
import Derived.Test.YtgfnmkenpgnllaaGreatDsq
namespace Go.Proofs.YtgfnmkenpgnllaaGreat
open Go.RowKit Lin
attribute [local go_sem ↓] Go.wp_at_zero Go.wp_at_succ

theorem plG_some {d : Nat} {P : List (List Int)} (hG : PlG d P) : ∀ i, i < P.length → ∃ j, j < d ∧ V (P.getD i []) j ≠ 0 := fun i hi => by
  refine Classical.byContradiction fun hn => hG.one _ (getD_memR hi) ?_
  have h0 : ∀ j, j < d → V (P.getD i []) j = 0 := fun j hj => Classical.byContradiction fun h => hn ⟨j, hj, h⟩
  have h1 : rk d [P.getD i []] ≤ rk d [] := rk_le fun u _ r hr => by
    rw [List.mem_singleton.1 hr]
    exact dot_zero h0
  have h2 : rk d ([] : List (List Int)) = 0 := rfl
  unfold rk at h1 h2
  omega

theorem flS_len {d : Nat} {P : List (List Int)} {m : List (List Int × Nat)} (hS : FlS d P m) (h6 : P.length ≤ 6) : m.length ≤ 64 := by
  have h1 := hS.nodup h6
  have h2 : (msk m).length ≤ 2 ^ P.length := by
    have h3 : (msk m).length ≤ (List.range (2 ^ P.length)).length := List.Nodup.length_le_of_subset h1 fun x hx => by
      obtain ⟨y, hy, rfl⟩ := List.mem_map.1 hx
      exact List.mem_range.2 (hS.mem h6 hy).2.2.2
    simpa using h3
  have h3 : 2 ^ P.length ≤ 2 ^ 6 := Nat.pow_le_pow_right (by decide) h6
  have h4 : (msk m).length = m.length := by simp [msk]
  omega

set_option maxRecDepth 100000 in
set_option maxHeartbeats 4000000 in
theorem planeFlatsP_any (d : Nat) (P : List (List Int)) (v : Value) (w : World) (hd1 : 1 ≤ d) (hd3 : d ≤ 3) (hG : PlG d P) (h5 : P.length ≤ 5) (hv : Mat 0 22 3 w v P) :
    Calls Tryz.prog 15 #[.int .i64 d, v] w fun e w' => ∃ uo ul uc, e = .returned (.tuple #[.slice uo ul uc, .int .i64 0]) ∧ (∃ O : List (List Int), Mat 0 22 3 w' (.slice uo ul uc) O ∧ ∀ O', FlQ d P (d + 1) O' → O = O') ∧ Below w.heap.size w w' := by
  obtain ⟨i0, hi, hz0, hz1, hz2⟩ := info_parts Tryz.info22
  have hP := plG_some hG
  have H1 : Hid (Calls Tryz.prog 17 #[.int .i64 d, v] w fun e w' => e = .returned (.int .i64 0) ∧ Below w.heap.size w w') := planeCheck_any d P v w hd1 hd3 hG (by omega) hv
  have H2 : Hid (∀ X, Below w.heap.size w X → Calls Tryz.prog 39 #[.int .i64 d, v] X fun e w' => ∃ uo uc T, e = .returned (.slice uo T.length uc) ∧ FlR (X.heap.size + 3) w' (.slice uo T.length uc) T ∧ ((∀ O', FlQ d P (d + 1) O' → (T.map fun t => t.2.1) = O') ∧ T.length ≤ 64) ∧ Below X.heap.size X w') := fun X hX => by
    refine (flatsO_any d P v X hd1 hd3 hG.row (flat_none hP) h5 (hv.below hX (Nat.le_refl _))).mono ?_
    rintro e w' ⟨uo, uc, T, rfl, h1, ⟨h2, h3⟩, h4⟩
    refine ⟨uo, uc, T, rfl, h1, ⟨fun O' hO => ?_, ?_⟩, h4⟩
    · have := flats_same (by omega) h2 h3 hO
      rw [List.map_map] at this
      exact this
    · have := flS_len h2 (by omega)
      simpa using this
  clear hv hG hP
  go_enter Tryz.func15, Tryz.ntmps15
  go_wp2_with fail
  refine H1.out.mono ?_
  rintro e w1 ⟨rfl, hb1⟩
  have HB1 : Hid (Below w.heap.size w w1) := hb1
  clear hb1
  go_wp2_with fail
  refine (H2.out w1 HB1.out).mono ?_
  rintro e w2 ⟨uo, uc, T, rfl, hf, ⟨hs, hl⟩, hb2⟩
  have HF : Hid (FlR (w1.heap.size + 3) w2 (.slice uo T.length uc) T) := hf
  have HS : Hid (∀ O', FlQ d P (d + 1) O' → (T.map fun t => t.2.1) = O') := hs
  have HB2 : Hid (Below w.heap.size w w2) := HB1.out.trans (hb2.mono HB1.out.size)
  have HTF : Hid (∀ k, k < T.length → ∃ so n sc, (T.getD k (.slice none 0 0, [], 0)).1 = .slice so n sc ∧ ∀ X, Below w2.heap.size w2 X → Sl 0 3 X (.slice so n sc) (ints (T.getD k (.slice none 0 0, [], 0)).2.1)) := fun k hk => by
    have h1 := hf.inn _ (mem_getF T k hk)
    obtain ⟨so, sc, h, _, _⟩ := sl_open h1
    refine ⟨so, _, sc, h, fun X hX => ?_⟩
    rw [← h]
    exact h1.below hX (Nat.le_refl _)
  have HCL : Hid (∀ k X, k < T.length → Below w2.heap.size w2 X → ∃ g, uo = some ⟨g, 0, none⟩ ∧ X.cell? ⟨g, k * 2, none⟩ = some (T.getD k (.slice none 0 0, [], 0)).1 ∧ X.cell? ⟨g, k * 2 + 1, none⟩ = some (.int .i64 ((T.getD k (.slice none 0 0, [], 0)).2.2 : Nat))) := fun k X hk hX => by
    obtain ⟨g, h1, h2, h3, h4, h5⟩ := hf.cells hk
    exact ⟨g, h1, (hX.cell (p := ⟨g, k * 2, none⟩) h3).trans h4, (hX.cell (p := ⟨g, k * 2 + 1, none⟩) h3).trans h5⟩
  have HMS : Hid (∀ k, k < T.length → ((T.take (k + 1)).map fun t => t.2.1) = ((T.take k).map fun t => t.2.1) ++ [(T.getD k (.slice none 0 0, [], 0)).2.1]) := fun k hk => by
    rw [List.take_succ_eq_append_getElem hk, List.map_append]
    simp [hk]
  have HML : Hid (∀ k, ((T.take k).map fun t => t.2.1).length ≤ 64) := fun k => by
    rw [List.length_map, List.length_take]; omega
  have HME : Hid ((T.take T.length).map (fun t => t.2.1) = T.map fun t => t.2.1) := by show _ = _; rw [List.take_length]
  clear hf hs hb2
  go_wp2
  go_loopw [7, 9, 20] (fun x _ i wr => ∃ k : Nat, k ≤ T.length ∧ i = .int .i64 (k : Int) ∧ Fr w2.heap.size 22 3 wr x ((T.take k).map fun t => t.2.1) ∧ Below w2.heap.size w2 wr) (fun _ _ i _ => T.length - (intOf i).toNat)
  case atStart => exact ⟨0, Nat.zero_le _, rfl, Fr.nil _ _ _ _, Below.refl _ _⟩
  case round =>
    obtain ⟨k, hk, rfl, hfr, hbr⟩ := hrel
    obtain ⟨wa, rfl⟩ : ∃ wa, wa = wr := ⟨_, rfl⟩
    have HR : Hid (Fr w2.heap.size 22 3 wa u7 ((T.take k).map fun t => t.2.1)) := hfr
    have HB : Hid (Below w2.heap.size w2 wa) := hbr
    have hsza : w2.heap.size ≤ wa.heap.size := hbr.size
    clear hfr hbr
    by_cases hlt : k < T.length
    · obtain ⟨g, hg, c1, c2⟩ := HCL.out k wa hlt HB.out
      subst hg
      obtain ⟨so, sn, sc, hsf, hsl⟩ := HTF.out k hlt
      have hms := HMS.out k hlt
      have hml := HML.out k
      rw [hsf] at c1
      have HSL : Hid (∀ X, Below w2.heap.size w2 X → Sl 0 3 X (.slice so sn sc) (ints (T.getD k (.slice none 0 0, [], 0)).2.1)) := hsl
      have HM2 : Hid (((T.take (k + 1)).map fun t => t.2.1) = ((T.take k).map fun t => t.2.1) ++ [(T.getD k (.slice none 0 0, [], 0)).2.1]) := hms
      clear hsf hsl hms HCL HTF HMS HML
      generalize (T.getD k (.slice none 0 0, [], 0)).2.1 = zs at *
      generalize (T.getD k (.slice none 0 0, [], 0)).2.2 = rk' at *
      generalize ((T.take k).map fun t => t.2.1) = A at *
      obtain ⟨X1, hX1⟩ : ∃ X1, X1 = wa.alloc (.cells #[.slice so sn sc, .int .i64 (rk' : Nat)] 68) := ⟨_, rfl⟩
      have hbX : Below wa.heap.size wa X1 := by rw [hX1]; exact alloc_keep _ _
      have hkX : X1.heap[wa.heap.size]? = some (.cells #[.slice so sn sc, .int .i64 (rk' : Nat)] 68 (0, 0)) := by rw [hX1]; exact alloc_new _ _
      have hbW : Below w2.heap.size w2 X1 := HB.out.trans (hbX.mono hsza)
      have hszX : w2.heap.size ≤ X1.heap.size := hbW.size
      obtain ⟨vs, g1, g2, g3⟩ := HR.out.below hbX (Nat.le_refl _)
      have G2 : Hid (X1.ownsRow w2.heap.size 22 1 u7 A.length vs) := g2
      have HS1 := HSL.out X1 hbW
      have HMO : Hid (∀ v' w5, w5.ownsRow w2.heap.size 22 1 v' (A.length + 1) (vs ++ [.slice so sn sc]) → (X1.alloc (.cells #[.slice so sn sc] 22)).grownBy w5 u7.ownBlock → Fr w2.heap.size 22 3 w5 v' (A ++ [zs]) ∧ Below w2.heap.size w2 w5) := fun v' w5 ho hg => ⟨Fr.push (e2 := 22) (e1 := 3) (by decide) g1 (g2.alloc _) (fun i hi => (g3 i hi).alloc _) (HS1.alloc _) ho hg, (hbW.alloc hszX _).grown hg (by simp; omega) (fun x hx => (g2.lt x hx).1)⟩
      have HSZ : Hid (w2.heap.size ≤ X1.heap.size) := hszX
      have c3 : X1.cell? ⟨wa.heap.size, 0, none⟩ = some (.slice so sn sc) := by simp [World.cell?, hkX]
      have HXX : Hid (X1 = wa.alloc (.cells #[.slice so sn sc, .int .i64 (rk' : Nat)] 68)) := hX1
      have hkI : (k : Int) < (T.length : Int) := by omega
      have hkI0 : (0 : Int) ≤ (k : Int) := by omega
      clear g1 g2 g3 HS1 hX1 hbX hkX hbW hszX
      go_upto_region 8 with fail
      rw [← HXX.out]
      go_wp2_with (first | (at_builtin; refine wpList_append_own _ rfl _ _ 25 rfl w2.heap.size 22 i0 (.slice none 0 0) 1 24 Tryz.underlying25 hi hz0 hz1 hz2 rfl (by decide) _ _ _ rfl (G2.out.alloc _) ⟨X1.heap.size, 0, none⟩ 1 1 [.slice so sn sc] rfl rfl (one_new _ _ _) (one_slice _ _ _) ?d3 ?d4 ?d5 ?_))
      case d3 => unfold maxLen; omega
      case d4 => omega
      case d5 => have := HSZ.out; simp at *; omega
      intro x6 w5 ho hg _
      obtain ⟨q1, q2⟩ := HMO.out x6 w5 ho hg
      have R1 : Hid (Fr w2.heap.size 22 3 w5 x6 ((T.take (k + 1)).map fun t => t.2.1)) := by show Fr _ _ _ _ _ _; rw [HM2.out]; exact q1
      have R2 : Hid (Below w2.heap.size w2 w5) := q2
      clear q1 q2 ho hg HMO G2 c3 HXX
      go_wp2
      exact ⟨⟨k + 1, by omega, by go_num, R1.out, R2.out⟩, by simp [intOf]; omega⟩
    · have hke : k = T.length := by omega
      have HFE : Hid (Mat 0 22 3 wa u7 (T.map fun t => t.2.1)) := by
        have h := HR.out
        rw [hke, HME.out] at h
        obtain ⟨vs, q1, q2, q3⟩ := h
        exact ⟨vs, q1, Sl.own q2, q3⟩
      subst hke
      obtain ⟨xo, xc, hxe, _, _⟩ := mat_open HFE.out
      subst hxe
      have HBE : Hid (Below w.heap.size w wa) := HB2.out.trans (HB.out.mono HB2.out.size)
      clear HR HCL HTF HMS HML HME
      generalize (T.map fun t => t.2.1) = O at *
      go_wp2
      refine bodyPost_ret (v := .tuple #[.slice xo O.length xc, .int .i64 0]) (by simp [results, Tryz.results15, go_sem]) rfl ⟨xo, O.length, xc, rfl, ⟨O, HFE.out, HS.out⟩, HBE.out⟩

set_option maxRecDepth 100000 in
set_option maxHeartbeats 1600000 in
theorem texts_same (x : List (List UInt8)) (u v : Value) (w : World) (hu : Sl 0 9 w u (strs x)) (hv : Sl 0 9 w v (strs x)) :
    Calls Tryz.prog 18 #[u, .int .i64 0, v, .int .i64 0] w fun e w' => e = .returned (.bool true) ∧ Below w.heap.size w w' := by
  obtain ⟨uo, uc, rfl, _, _⟩ := sgs_open hu
  obtain ⟨vo, vc, rfl, _, _⟩ := sgs_open hv
  have HU : Hid (Sl 0 9 w (.slice uo x.length uc) (strs x)) := hu
  have HV : Hid (Sl 0 9 w (.slice vo x.length vc) (strs x)) := hv
  have hxx : ((x.length : Int) == (x.length : Int)) = true := by simp
  clear hu hv
  go_enter Tryz.func18, Tryz.ntmps18
  go_wp2
  go_loopw [9] (fun i wr => ∃ k : Nat, k ≤ x.length ∧ i = .int .i64 (k : Int) ∧ Qw w wr) (fun i _ => x.length - (intOf i).toNat)
  case atStart => exact ⟨0, Nat.zero_le _, rfl, Qw.refl _⟩
  case round =>
    obtain ⟨k, hk, rfl, hwr⟩ := hrel
    have HQW : Hid (Qw w wr) := hwr
    obtain ⟨n, hn⟩ := hwr
    have hcw : ∀ p, wr.cell? p = w.cell? p := fun p => by rw [hn]; rfl
    clear hn
    by_cases hlt : k < x.length
    · obtain ⟨b1, o1, e1, c1⟩ := sgs_cell HU.out hlt
      obtain ⟨b2, o2, e2, c2⟩ := sgs_cell HV.out hlt
      subst e1 e2
      obtain ⟨SB, hSB⟩ : ∃ SB : ByteArray, SB = ⟨(x.getD k []).toArray⟩ := ⟨_, rfl⟩
      have hut : strT (x.getD k []) = .string SB := by rw [hSB]; rfl
      rw [hut] at c1 c2
      rw [← hcw] at c1 c2
      have hss : (SB.data.toList == SB.data.toList) = true := by simp
      have hkI : (k : Int) < (x.length : Int) := by omega
      have hkI0 : (0 : Int) ≤ (k : Int) := by omega
      clear hut hSB hcw
      go_wp2
      go_quiet (fail)
      have HQ2 : Hid (Qw w (wr.drewN nq)) := HQW.out.drewN nq
      generalize wr.drewN nq = W9 at *
      go_wp2
      go_roundw
      case rel => exact ⟨k + 1, by omega, by go_num, HQ2.out⟩
      case measure => simp [intOf]; omega
    · clear hcw
      go_wp2
      go_ret
      exact ⟨rfl, HQW.out.below⟩
end Go.Proofs.YtgfnmkenpgnllaaGreat
