/- facetref.MakeOf: the square of a name. -/
import Derived.Test.YtkgljfnbaoncbaaMgAJ
import Derived.Test.YtkgljfnbaoncbaaMgAU
import Derived.Test.YtkgljfnbaoncbaaMgAO
namespace Go.Proofs.Ytkgljfnbaoncbaa
open Go.RowKit
attribute [local go_sem ↓] Go.wp_at_zero Go.wp_at_succ

/-- The first rows made longer. -/
def exT (A : List (List Int)) (m k : Nat) : List (List Int) := (A.take k).map (· ++ List.replicate m 0) ++ A.drop k

theorem exT_len (A : List (List Int)) (m k : Nat) : (exT A m k).length = A.length := by simp [exT]; omega

theorem exT_ge {A : List (List Int)} {m k i : Nat} (hk : k ≤ i) (hA : k ≤ A.length) : (exT A m k).getD i [] = A.getD i [] := by
  unfold exT
  rw [List.getD_eq_getElem?_getD, List.getElem?_append_right (by simp; omega), List.getElem?_drop, List.getD_eq_getElem?_getD]
  congr 2
  simp
  omega

theorem exT_get {A : List (List Int)} {m k j : Nat} (hk : k ≤ A.length) : (exT A m k)[j]? = if j < k then A[j]?.map (· ++ List.replicate m 0) else A[j]? := by
  unfold exT
  have hl : (List.map (· ++ List.replicate m (0 : Int)) (List.take k A)).length = k := by simp; omega
  by_cases h : j < k
  · rw [if_pos h, List.getElem?_append_left (by omega), List.getElem?_map, List.getElem?_take_of_lt h]
  · rw [if_neg h, List.getElem?_append_right (by omega), hl, List.getElem?_drop]
    congr 1
    omega

theorem exT_succ {A : List (List Int)} {m k : Nat} (hk : k < A.length) : exT A m (k + 1) = (exT A m k).set k ((exT A m k).getD k [] ++ List.replicate m 0) := by
  rw [exT_ge (Nat.le_refl _) (by omega)]
  refine List.ext_getElem? fun j => ?_
  rw [exT_get (by omega)]
  by_cases e : j = k
  · subst e
    rw [if_pos (by omega), List.getElem?_set_self (by rw [exT_len]; exact hk)]
    simp [hk]
  · rw [List.getElem?_set_ne (Ne.symm e), exT_get (by omega)]
    by_cases h : j < k
    · rw [if_pos h, if_pos (by omega)]
    · rw [if_neg h, if_neg (by omega)]

theorem exT_all (A : List (List Int)) (m : Nat) : exT A m A.length = A.map (· ++ List.replicate m 0) := by simp [exT]

theorem mk_take {ps : List (UInt8 × UInt8)} {i : Nat} (hi : i < ps.length) : mkL (ps.take (i + 1)) = bdg (mkL (ps.take i)) (pcL (ps.getD i (0, 0))) := by
  unfold mkL
  rw [List.take_succ_eq_append_getElem hi, List.foldl_append]
  simp [hi]

theorem sum_drop {ps : List (UInt8 × UInt8)} {i : Nat} (hi : i < ps.length) : ((ps.drop i).map rkP).sum = rkP (ps.getD i (0, 0)) + ((ps.drop (i + 1)).map rkP).sum := by
  rw [List.drop_eq_getElem_cons hi, List.map_cons, List.sum_cons]
  simp [hi]

theorem made_ownW (w : World) (n : Nat) (hn : n ≤ maxLen) : (w.alloc (.cells (madeCells #[.int .i64 0] n) 3)).ownsRow w.heap.size 3 1 (.slice (some ⟨w.heap.size, 0, none⟩) n n) n (ints (List.replicate n 0)) := by
  have h := World.ownsRow_lit (base := w.heap.size) (e := 3) (size := 1) w (madeCells #[.int .i64 0] n) n (Nat.le_refl _) hn (by rw [← Array.length_toList, toList_madeCells_one]; simp)
  rw [toList_madeCells_one] at h
  have e : ints (List.replicate n 0) = List.replicate n (.int .i64 0) := by simp [ints]
  rw [e]
  exact h

set_option maxRecDepth 100000 in
set_option maxHeartbeats 6400000 in
theorem makeOf_any (ps : List (UInt8 × UInt8)) (w : World) (h0 : ps ≠ []) (h3 : ps.length ≤ 3) (hk : ∀ p ∈ ps, p ∈ kdL) (hs : (ps.map rkP).sum ≤ 4) :
    Calls Try.prog 36 #[.string ⟨(jnB ps).toArray⟩] w fun e w' => ∃ x g c, e = .returned (.tuple #[x, .int .i64 0]) ∧ OM w.heap.size g c (mkL ps).length (mkL ps).length w' x (mkL ps) ∧ Below w.heap.size w w' := by
  obtain ⟨i0, hi0, hz0, hz1, hz2⟩ := info_parts Try.info26
  obtain ⟨i3, hi3, hz30, hz31, hz32⟩ := info_parts Try.info3
  have HCT : Hid (Calls Try.prog 53 #[.string ⟨(jnB ps).toArray⟩, .int .u8 43] w fun e w' => ∃ u, e = .returned u ∧ w'.ownsRow w.heap.size 9 1 u ps.length (ps.map fun p => .string (kdB p)) ∧ Below w.heap.size w w') := by
    have h := cut_any ⟨(jnB ps).toArray⟩ w (by have := jnB_len ps; show (jnB ps).toArray.size ≤ _; simp; omega)
    rw [cut_jn h0 h3 hk] at h
    show Calls _ _ _ _ _
    simpa [List.map_map, Function.comp_def] using h
  have HPM : Hid (∀ p ∈ kdL, ∀ W, Calls Try.prog 54 #[.string (kdB p)] W fun e w' => e = .returned (.int .i64 0) ∧ Below W.heap.size W w') := fun p hp W => pieceMay_any p W hp
  have HPI : Hid (∀ p ∈ kdL, ∀ W, Calls Try.prog 43 #[.string (kdB p)] W fun e w' => ∃ x g c, e = .returned x ∧ OM W.heap.size g c (rkP p) (rkP p) w' x (pcL p) ∧ Below W.heap.size W w') := fun p hp W => piece_any p W hp
  have HKD : Hid (∀ p ∈ ps, p ∈ kdL) := hk
  have HSU : Hid ((ps.map rkP).sum ≤ 4) := hs
  have hjl : (jnB ps).length ≤ 9 := by have := jnB_len ps; omega
  have h1 : 1 ≤ ps.length := by
    cases ps with
    | nil => exact absurd rfl h0
    | cons p l => simp
  clear hk hs h0
  go_enter Try.func36, Try.ntmps36
  go_wp2_with fail
  refine HCT.out.mono ?_
  rintro e w1 ⟨u, rfl, hou, hb1⟩
  obtain ⟨uo, uc, huv⟩ := owns_form hou
  subst huv
  have HU : Hid (w1.ownsRow w.heap.size 9 1 (.slice uo ps.length uc) ps.length (ps.map fun p => .string (kdB p))) := hou
  have HB1 : Hid (Below w.heap.size w w1) := hb1
  have HS1 : Hid (w.heap.size ≤ w1.heap.size) := hb1.size
  clear hou hb1 HCT
  go_wp2
  go_loopw [5, 6, 7, 8, 9, 10, 11] (fun ov iv _ _ _ _ _ wr => ∃ (i : Nat) (g c : Nat → Nat), i ≤ ps.length ∧ iv = .int .i64 i ∧ OM w1.heap.size g c (mkL (ps.take i)).length (mkL (ps.take i)).length wr ov (mkL (ps.take i)) ∧ (mkL (ps.take i)).length + ((ps.drop i).map rkP).sum ≤ 4 ∧ Below w1.heap.size w1 wr) (fun _ iv _ _ _ _ _ _ => ps.length - (intOf iv).toNat)
  case atStart => exact ⟨0, fun _ => 0, fun _ => 0, Nat.zero_le _, rfl, ⟨rfl, fun i hi => by simp [mkL] at hi, World.ownsRow_nil _ _ _ _, fun i hi => by simp [mkL] at hi, fun i j hi => by simp [mkL] at hi⟩, by simpa [mkL] using HSU.out, Below.refl _ _⟩
  case round =>
    obtain ⟨i, g, c, hi, rfl, hom, hsm, hb⟩ := hrel
    have HMT : Hid (i < ps.length → mkL (ps.take (i + 1)) = bdg (mkL (ps.take i)) (pcL (ps.getD i (0, 0)))) := fun h => mk_take h
    have HTE : Hid (i = ps.length → mkL (ps.take i) = mkL ps) := fun h => by rw [h, List.take_length]
    generalize hA : mkL (ps.take i) = A at *
    clear hA
    have HOM : Hid (OM w1.heap.size g c A.length A.length wr u5 A) := hom
    have HBR : Hid (Below w1.heap.size w1 wr) := hb
    obtain ⟨xo, xc, hx⟩ : ∃ xo xc, u5 = .slice xo A.length xc := owns_form hom.out
    subst hx
    by_cases hlt : i < ps.length
    · have hp : ps.getD i (0, 0) ∈ kdL := HKD.out _ (by simp [hlt])
      have hsd := sum_drop hlt
      have hcu : wr.cell? (⟨0, 0, none⟩ : Addr) = wr.cell? (⟨0, 0, none⟩ : Addr) := rfl
      obtain ⟨G0, hG0⟩ : ∃ G0, uo = some ⟨G0, 0, none⟩ := by
        rcases HU.out.2 with ⟨_, h⟩ | ⟨g', cap, cur, hv, _⟩
        · omega
        · simp only [Value.slice.injEq] at hv
          exact ⟨g', hv.1⟩
      subst hG0
      have hcu : w1.cell? ⟨G0, i, none⟩ = some (.string (kdB (ps.getD i (0, 0)))) := by
        rw [HU.out.cellAt i (by omega)]
        simp [hlt]
      have HCU : Hid (∀ W, Below w1.heap.size w1 W → W.cell? ⟨G0, i, none⟩ = some (.string (kdB (ps.getD i (0, 0))))) := fun W h => (h.cell (lt_of_cell hcu)).trans hcu
      have hcr := HCU.out wr HBR.out
      clear hcu hom hb
      have HMT2 := HMT.out hlt
      have HMT3 : Hid (mkL (ps.take (i + 1)) = bdg A (pcL (ps.getD i (0, 0)))) := HMT2
      clear HMT2 HMT HTE
      generalize ps.getD i (0, 0) = p at *
      have HP1 := HPM.out p hp wr
      have HP2 := HPI.out p hp
      have hrk := kd_rk p hp
      go_wp2_with fail
      refine HP1.mono ?_
      rintro e w2 ⟨rfl, hb2⟩
      have HB2 : Hid (Below wr.heap.size wr w2) := hb2
      have HBW2 : Hid (Below w1.heap.size w1 w2) := HBR.out.trans (hb2.mono HBR.out.size)
      have hc2 := HCU.out w2 HBW2.out
      have HP3 := HP2 w2
      clear HP1 HP2 hb2 hcr
      go_wp2_with fail
      refine HP3.mono ?_
      rintro e w3 ⟨mv, g2, c2, rfl, hm3, hb3⟩
      obtain ⟨hr1, hr2, _⟩ := hrk
      have HM3 : Hid (OM w2.heap.size g2 c2 (rkP p) (rkP p) w3 mv (pcL p)) := hm3
      have HB3 : Hid (Below w2.heap.size w2 w3) := hb3
      obtain ⟨Gm, mc, hmv, hGm1, hGm2, _, _⟩ := hm3.form hr1
      subst hmv
      have HBW3 : Hid (Below w1.heap.size w1 w3) := HBW2.out.trans (hb3.mono HBW2.out.size)
      have HO3 : Hid (GM w1.heap.size g c w3 (.slice xo A.length xc) A) := ((HOM.out.below HB2.out (Nat.le_refl _)).below HB3.out (Nat.le_refl _)).gm
      have HSQ : Hid (∀ q, q < A.length → (A.getD q []).length = A.length) := HOM.out.len
      have HGL : Hid (∀ q, q < A.length → g q < w2.heap.size) := fun q hq => Nat.lt_of_lt_of_le ((HOM.out.row q hq).lt _ rfl).2 HB2.out.size
      have HXL : Hid (∀ b, (Value.slice xo A.length xc).ownBlock = some b → b < w2.heap.size) := fun b hb => Nat.lt_of_lt_of_le (HOM.out.out.lt b hb).2 HB2.out.size
      have HPL : Hid ((pcL p).length = rkP p) := hm3.num
      have hAm : A.length + rkP p ≤ 4 := by omega
      generalize hm : rkP p = m at *
      clear hm hm3 hb3 HP3 hc2 HOM HB2 HBR HPM HPI
      have q1 : ¬ (4 : Int) < (A.length : Int) + (m : Int) := by omega
      go_wp2
      go_loopw [10] (fun kv wq => ∃ (k : Nat) (g c : Nat → Nat), k ≤ A.length ∧ kv = .int .i64 k ∧ GM w1.heap.size g c wq (.slice xo A.length xc) (exT A m k) ∧ (∀ q, k ≤ q → q < A.length → g q < w2.heap.size) ∧ (∀ b, w2.heap.size ≤ b → b < w3.heap.size → wq.heap[b]? = w3.heap[b]?) ∧ w3.heap.size ≤ wq.heap.size ∧ Below w1.heap.size w1 wq) (fun kv _ => A.length - (intOf kv).toNat)
      case atStart => exact ⟨0, g, c, Nat.zero_le _, rfl, by simpa [exT] using HO3.out, fun q _ hq => HGL.out q hq, fun _ _ _ => rfl, Nat.le_refl _, HBW3.out⟩
      case round =>
        obtain ⟨k, g, c, hk, rfl, hgm, hgl, hmid, hsz, hbq⟩ := hrel
        by_cases hltk : k < A.length
        · have hRk : (exT A m k).getD k [] = A.getD k [] := exT_ge (Nat.le_refl _) (by omega)
          have hlk : (A.getD k []).length = A.length := HSQ.out k hltk
          obtain ⟨G, hG⟩ : ∃ G, xo = some ⟨G, 0, none⟩ := by
            rcases hgm.out.2 with ⟨_, h⟩ | ⟨g', cap, cur, hv, _⟩
            · rw [exT_len] at h; omega
            · simp only [Value.slice.injEq] at hv
              exact ⟨g', hv.1⟩
          subst hG
          have hgm' : GM w1.heap.size g c wr (.slice (some ⟨G, 0, none⟩) (exT A m k).length xc) (exT A m k) := by rw [exT_len]; exact hgm
          have hkl : k < (exT A m k).length := by rw [exT_len]; exact hltk
          obtain ⟨x1, x2⟩ := hgm'.cellG hkl
          have hrow := hgm'.row k hkl
          have hgk := hgl k (Nat.le_refl _) hltk
          have hGl := HXL.out G rfl
          have HEX : Hid (∀ g' c' w', w'.ownsRow w1.heap.size 3 1 (.slice (some ⟨g', 0, none⟩) (A.length + m) c') (A.length + m) (ints ((exT A m k).getD k []) ++ List.replicate m (.int .i64 0)) → wr.grownBy w' (some (g k)) → (g' = g k ∨ g' = wr.heap.size) →
              (w'.cell? ⟨G, k, none⟩ = some (.slice (some ⟨g k, 0, none⟩) A.length (c k)) ∧ w'.frozen? ⟨G, k, none⟩ = false) ∧ ∃ g5 c5, GM w1.heap.size g5 c5 (w'.setCell ⟨G, k, none⟩ (.slice (some ⟨g', 0, none⟩) (A.length + m) c')) (.slice (some ⟨G, 0, none⟩) A.length xc) (exT A m (k + 1)) ∧ (∀ q, k + 1 ≤ q → q < A.length → g5 q < w2.heap.size) ∧ (∀ b, w2.heap.size ≤ b → b < w3.heap.size → (w'.setCell ⟨G, k, none⟩ (.slice (some ⟨g', 0, none⟩) (A.length + m) c')).heap[b]? = w3.heap[b]?) ∧ w3.heap.size ≤ (w'.setCell ⟨G, k, none⟩ (.slice (some ⟨g', 0, none⟩) (A.length + m) c')).heap.size ∧ Below w1.heap.size w1 (w'.setCell ⟨G, k, none⟩ (.slice (some ⟨g', 0, none⟩) (A.length + m) c'))) := fun g' c' w' h1 h2 h3 => by
            have e : ((exT A m k).getD k []).length = A.length := by rw [hRk]; exact hlk
            have hne : G ≠ g k := fun e2 => by
              obtain ⟨cur, hc⟩ := own_heap hrow
              obtain ⟨cur2, hc2⟩ := own_heap hgm'.out
              rw [← e2, hc2] at hc
              simp at hc
            have hx := hgm'.ext (m := m) hkl (by rw [e]; exact h1) h2 h3
            rw [← exT_succ hltk, exT_len, e] at hx
            have hGw : G < wr.heap.size := (hgm'.out.lt G rfl).2
            have hb1 : w1.heap.size ≤ g k := (hrow.lt _ rfl).1
            refine ⟨⟨h2.cell (by rw [e] at x1; exact x1) (by simp only [ne_eq, Option.some.injEq]; exact hne), (World.frozen?_of_block (h2.block G hGw (by simp only [ne_eq, Option.some.injEq]; exact hne))).trans x2⟩, _, _, hx, fun q hq1 hq2 => ?_, fun b hb1 hb2 => ?_, ?_, ?_⟩
            · unfold updN
              rw [if_neg (by omega)]
              exact hgl q (by omega) hq2
            · exact (Below.heap_setCell _ _ _ _ (by show b ≠ G; omega)).trans ((h2.block b (by omega) (by simp only [ne_eq, Option.some.injEq]; omega)).trans (hmid b hb1 hb2))
            · have := h2.size
              simp only [World.setCell, Array.size_modify]
              omega
            · exact (hbq.grown h2 hbq.size (fun x hx => by simp only [Option.some.injEq] at hx; omega)).setCell (hgm'.out.lt G rfl).1 _
          rw [hRk] at HEX
          rw [hRk, hlk] at x1 hrow
          have HRW : Hid (wr.ownsRow w1.heap.size 3 1 (.slice (some ⟨g k, 0, none⟩) A.length (c k)) A.length (ints (A.getD k []))) := hrow
          have HBQ : Hid (w1.heap.size ≤ wr.heap.size) := hbq.size
          clear hrow hgm hgm' hgl hmid hbq hRk hlk hkl hgk hGl x2
          generalize A.getD k [] = r at *
          go_wp2_with (first | (at_builtin; refine wpList_app_zero _ rfl _ _ 26 3 rfl w1.heap.size 3 i3 (.int .i64 0) .i64 Try.underlying26 Try.underlying3 hi3 hz30 rfl rfl hz31 hz32 (g k) A.length (c k) m (ints r) rfl rfl HRW.out ?c1 ?c2 ?c3 ?_))
          case c1 => omega
          case c2 => omega
          case c3 => exact HBQ.out
          intro g' c' w' ho hg hor
          obtain ⟨⟨y1, y2⟩, g5, c5, z1, z2, z3, z4, z5⟩ := HEX.out g' c' w' ho hg hor
          have Z1 : Hid _ := z1
          have Z2 : Hid _ := z2
          have Z3 : Hid _ := z3
          have Z4 : Hid _ := z4
          have Z5 : Hid _ := z5
          clear z1 z2 z3 z4 z5 ho hg hor HEX x1
          go_wp2
          go_roundw
          case rel => exact ⟨k + 1, g5, c5, by omega, by go_num, Z1.out, Z2.out, Z3.out, Z4.out, Z5.out⟩
          case measure => simp [intOf]; omega
        · have hke : k = A.length := by omega
          subst hke
          rw [exT_all] at hgm
          have hml : (A.map (· ++ List.replicate m (0 : Int))).length = A.length := by simp
          have hom : OM w1.heap.size g c A.length (A.length + m) wr (.slice xo A.length xc) (A.map (· ++ List.replicate m 0)) := by
            have h := hgm.om (n := A.length + m) (fun q hq => by
              rw [hml] at hq
              have := HSQ.out q hq
              simp [hq] at this ⊢
              exact this)
            rw [hml] at h
            exact h
          have HOM : Hid (OM w1.heap.size g c A.length (A.length + m) wr (.slice xo A.length xc) (A.map (· ++ List.replicate m 0))) := hom
          obtain ⟨wk, hwk⟩ : ∃ wk, wk = wr := ⟨_, rfl⟩
          have HMD : Hid (∀ b, w2.heap.size ≤ b → b < w3.heap.size → wr.heap[b]? = w3.heap[b]?) := hmid
          have HSZ : Hid (w3.heap.size ≤ wr.heap.size) := hsz
          have HBK : Hid (Below w1.heap.size w1 wr) := hbq
          clear hwk hgm hgl hmid hsz hbq hom hml
          have hmk : ∀ w : World, (Instr.makeSlice 26 (.int .i64 (A.length : Int)) (.int .i64 (A.length : Int))).run Try.prog w = .ok (.slice (some ⟨w.heap.size, 0, none⟩) A.length A.length) (w.alloc (.cells (madeCells #[.int .i64 0] A.length) 3)) := run_make_row' (P := Try.prog) 26 3 (.int .i64 0) 8 Try.underlying26 (by kernel_rfl) rfl .i64 .i64 A.length (by omega) (by omega)
          go_wp2
          go_loopw [5, 11] (fun ov kv wq => ∃ (k : Nat) (g c : Nat → Nat), k ≤ m ∧ kv = .int .i64 k ∧ OM w1.heap.size g c (A.length + k) (A.length + m) wq ov (A.map (· ++ List.replicate m 0) ++ ((pcL p).take k).map (List.replicate A.length 0 ++ ·)) ∧ (∀ b, w2.heap.size ≤ b → b < w3.heap.size → wq.heap[b]? = w3.heap[b]?) ∧ w3.heap.size ≤ wq.heap.size ∧ Below w1.heap.size w1 wq ∧ (∀ b, ov.ownBlock = some b → b < w2.heap.size ∨ w3.heap.size ≤ b)) (fun _ kv _ => m - (intOf kv).toNat)
          case atStart => exact ⟨0, g, c, Nat.zero_le _, rfl, by simpa using HOM.out, HMD.out, HSZ.out, HBK.out, fun b hb => .inl (HXL.out b hb)⟩
          case round =>
            obtain ⟨k, g, c, hk, rfl, hom, hmid, hsz, hbq, hob⟩ := hrel
            by_cases hltk : k < m
            · obtain ⟨yo, yc, hy⟩ : ∃ yo yc, u5 = .slice yo (A.length + k) yc := owns_form hom.out
              subst hy
              have hxl : ((pcL p).getD k []).length = m := HM3.out.len k hltk
              have hc0 : w3.cell? ⟨Gm, k, none⟩ = some (.slice (some ⟨g2 k, 0, none⟩) m (c2 k)) := HM3.out.cellG hltk
              have hgk := (HM3.out.row k hltk).lt (g2 k) rfl
              have hcw : wr.cell? ⟨Gm, k, none⟩ = some (.slice (some ⟨g2 k, 0, none⟩) m (c2 k)) := (World.cell?_of_block (w := w3) (hmid Gm hGm1 hGm2)).trans hc0
              have HNW : Hid (∀ j u, (ints ((pcL p).getD k []))[j]? = some u → wr.cell? ((⟨g2 k, 0, none⟩ : Addr).add j) = some u) := fun j u hu => by
                have h := (HM3.out.row k hltk).cells (g := g2 k) rfl j u hu
                rw [← h]
                rw [Addr.add_lit]
                exact World.cell?_of_block (w := w3) (hmid (g2 k) hgk.1 hgk.2)
              have HOM2 : Hid (OM w1.heap.size g c (A.length + k) (A.length + m) wr (.slice yo (A.length + k) yc) (A.map (· ++ List.replicate m 0) ++ ((pcL p).take k).map (List.replicate A.length 0 ++ ·))) := hom
              have HMI : Hid (∀ b, w2.heap.size ≤ b → b < w3.heap.size → wr.heap[b]? = w3.heap[b]?) := hmid
              have HOB : Hid (∀ b, (Value.slice yo (A.length + k) yc).ownBlock = some b → b < w2.heap.size ∨ w3.heap.size ≤ b) := hob
              have HSQ2 : Hid (w3.heap.size ≤ wr.heap.size) := hsz
              have HBQ : Hid (Below w1.heap.size w1 wr) := hbq
              have HTK : Hid (((pcL p).take (k + 1)).map (List.replicate A.length (0 : Int) ++ ·) = ((pcL p).take k).map (List.replicate A.length 0 ++ ·) ++ [List.replicate A.length 0 ++ (pcL p).getD k []]) := by
                have hkl : k < (pcL p).length := by rw [HPL.out]; exact hltk
                show _ = _
                rw [List.take_succ_eq_append_getElem hkl, List.map_append]
                simp [hkl]
              generalize (pcL p).getD k [] = rw0 at *
              clear hom hmid hob hsz hbq hc0
              have HWD : Hid (∀ W, Below wr.heap.size wr.drew W → W.cell? ⟨Gm, k, none⟩ = some (.slice (some ⟨g2 k, 0, none⟩) m (c2 k))) := fun W h => (h.cell (lt_of_cell hcw)).trans hcw
              have HA1 : Hid (Below wr.heap.size wr.drew (wr.drew.alloc (.cells (madeCells #[.int .i64 0] A.length) 3))) := (Below.refl wr.heap.size wr.drew).alloc (Nat.le_refl _) _
              have HOW : Hid ((wr.drew.alloc (.cells (madeCells #[.int .i64 0] A.length) 3)).ownsRow wr.heap.size 3 1 (.slice (some ⟨wr.heap.size, 0, none⟩) A.length A.length) A.length (ints (List.replicate A.length 0))) := made_ownW wr.drew A.length (by unfold maxLen; omega)
              have HNW1 : Hid (∀ j u, (ints rw0)[j]? = some u → (wr.drew.alloc (.cells (madeCells #[.int .i64 0] A.length) 3)).cell? ((⟨g2 k, 0, none⟩ : Addr).add j) = some u) := fun j u hu => by
                have h := HNW.out j u hu
                rw [Addr.add_lit] at h ⊢
                exact (HA1.out.cell (lt_of_cell h)).trans h
              have hil : (ints rw0).length = m * 1 := by rw [ints_length, hxl]; omega
              have hi1 : ∀ u ∈ ints rw0, u.oneCell' = true := fun u hu => by
                obtain ⟨z, _, rfl⟩ := List.mem_map.1 hu
                rfl
              have HIL : Hid ((ints rw0).length = m * 1) := hil
              have HI1 : Hid (∀ u ∈ ints rw0, u.oneCell' = true) := hi1
              have HXR : Hid (rw0.length = m) := hxl
              clear hil hi1 hxl
              go_wp2
              refine wp_region_held_drew (S := fun w' => w'.cell? ⟨Gm, k, none⟩ = some (.slice (some ⟨g2 k, 0, none⟩) m (c2 k))) (by kernel_rfl) hcw (fun hHeld => ?_)
              refine wpAnyH_tk (i := 0) (d := 64) (v := (.slice yo (A.length + k) yc)) rfl rfl (by kernel_rfl) (by kernel_rfl) (by kernel_rfl) (fun _ _ _ h => h) (.inl ⟨by rfl, by (intro wq hSw; (try dsimp only at hSw); go_simp; (try (first | rfl | omega)))⟩) hHeld ?_
              simp only [Act.put, List.setIfInBounds_toArray, List.set_cons_zero, List.set_cons_succ]
              refine wpAnyH_tk (i := 1) (d := 65) (v := (.int .i64 A.length)) rfl rfl (by kernel_rfl) (by kernel_rfl) (by kernel_rfl) (fun _ _ _ h => h) (.inl ⟨by rfl, by (intro wq hSw; (try dsimp only at hSw); go_simp; (try (first | rfl | omega)))⟩) hHeld ?_
              simp only [Act.put, List.setIfInBounds_toArray, List.set_cons_zero, List.set_cons_succ]
              refine wpAnyH_tk (i := 3) (d := 67) (v := (.slice (some ⟨Gm, 0, none⟩) m mc)) rfl rfl (by kernel_rfl) (by kernel_rfl) (by kernel_rfl) (fun _ _ _ h => h) (.inl ⟨by rfl, by (intro wq hSw; (try dsimp only at hSw); go_simp; (try (first | rfl | omega)))⟩) hHeld ?_
              simp only [Act.put, List.setIfInBounds_toArray, List.set_cons_zero, List.set_cons_succ]
              refine wpAnyH_tk (i := 4) (d := 68) (v := (.int .i64 k)) rfl rfl (by kernel_rfl) (by kernel_rfl) (by kernel_rfl) (fun _ _ _ h => h) (.inl ⟨by rfl, by (intro wq hSw; (try dsimp only at hSw); go_simp; (try (first | rfl | omega)))⟩) hHeld ?_
              simp only [Act.put, List.setIfInBounds_toArray, List.set_cons_zero, List.set_cons_succ]
              refine wpAnyH_tk (i := 5) (d := 69) (v := (.pointer (some ⟨Gm, k, none⟩))) rfl rfl (by kernel_rfl) (by kernel_rfl) (by kernel_rfl) (fun _ _ _ h => h) (.inl ⟨by rfl, by (intro wq hSw; (try dsimp only at hSw); go_simp; (try (first | rfl | omega)))⟩) hHeld ?_
              simp only [Act.put, List.setIfInBounds_toArray, List.set_cons_zero, List.set_cons_succ]
              refine wpAnyH_tk (i := 6) (d := 70) (v := (.slice (some ⟨g2 k, 0, none⟩) m (c2 k))) rfl rfl (by kernel_rfl) (by kernel_rfl) (by kernel_rfl) (fun _ _ _ h => h) (.inl ⟨by rfl, by (intro wq hSw; (try dsimp only at hSw); go_simp; (try (first | rfl | omega)))⟩) hHeld ?_
              simp only [Act.put, List.setIfInBounds_toArray, List.set_cons_zero, List.set_cons_succ]
              refine wpAnyH_ready (rs := [2]) (by kernel_rfl) (by simp) ?_
              refine ready_tk (i := 2) rfl (by rfl) (fun K hK => ?_) AllReadyH.nil
              go_simp
              refine hK.out _ _ (HWD.out _ HA1.out) (fun hHeld => ?_)
              clear hK K
              refine wpAnyH_ready (rs := [7]) (by kernel_rfl) (by simp) ?_
              refine ready_tk (i := 7) rfl (by rfl) (fun K hK => ?_) AllReadyH.nil
              refine op_append_ownA (.tmp 66) (.tmp 70) 26 (by rfl) wr.heap.size 3 i3 (.int .i64 0) 1 8 Try.underlying26 hi3 hz30 hz31 hz32 rfl (by decide) _ _ _ (by rfl) HOW.out ⟨g2 k, 0, none⟩ m (c2 k) (ints rw0) (by rfl) HIL.out HNW1.out HI1.out (by unfold maxLen; omega) (by omega) (by simp) ?_
              intro v1 w4 ho4 hg4 _
              have hb4 : Below wr.heap.size wr.drew w4 := HA1.out.grown hg4 (by simp) (fun x hx => by simp only [Value.ownBlock, Option.some.injEq] at hx; omega)
              refine hK.out _ _ (HWD.out _ hb4) (fun hHeld => ?_)
              clear hK K
              simp only [Act.put, List.setIfInBounds_toArray, List.set_cons_zero, List.set_cons_succ]
              obtain ⟨gk, ck, hv1⟩ : ∃ gk ck, v1 = .slice (some ⟨gk, 0, none⟩) (A.length + m) ck := by
                rcases ho4.2 with ⟨_, h⟩ | ⟨g', cap, cur, hv, _⟩
                · omega
                · exact ⟨g', cap, hv⟩
              subst hv1
              have HO4 : Hid (w4.ownsRow wr.heap.size 3 1 (.slice (some ⟨gk, 0, none⟩) (A.length + m) ck) (A.length + m) (ints (List.replicate A.length 0 ++ rw0))) := by
                have e : ints (List.replicate A.length 0 ++ rw0) = ints (List.replicate A.length 0) ++ ints rw0 := by simp [ints]
                rw [e]
                exact ho4
              have HB4 : Hid (Below wr.heap.size wr w4) := ⟨hb4.os, hb4.tape, hb4.output, hb4.size, hb4.block⟩
              have HB4D : Hid (Below wr.heap.size wr.drew w4) := hb4
              have HOO : Hid (w4.ownsRow w1.heap.size 26 1 (.slice yo (A.length + k) yc) (A.length + k) (rowsV g c (A.length + m) (A.length + k))) := owns_below HOM2.out.out HB4.out (Nat.le_refl _)
              have HZ4 : Hid (w1.heap.size ≤ w4.heap.size) := Nat.le_trans HBQ.out.size HB4.out.size
              clear ho4 hg4 hb4
              refine wpAnyH_ready (rs := [8]) (by kernel_rfl) (by simp) ?_
              refine ready_tk (i := 8) rfl (by rfl) (fun K hK => ?_) AllReadyH.nil
              go_simp
              refine hK.out _ _ (HWD.out _ (HB4D.out.alloc (HB4D.out.size) _)) (fun hHeld => ?_)
              clear hK K
              refine wpAnyH_ready (rs := [9]) (by kernel_rfl) (by simp) ?_
              refine ready_tk (i := 9) rfl (by rfl) (fun K hK => ?_) AllReadyH.nil
              refine op_append_ownA (.tmp 64) (.tmp 72) 22 (by rfl) w1.heap.size 26 i0 (.slice none 0 0) 1 24 Try.underlying22 hi0 hz0 hz1 hz2 rfl (by decide) _ _ _ (by rfl) (HOO.out.alloc _) ⟨w4.heap.size, 0, none⟩ 1 1 [.slice (some ⟨gk, 0, none⟩) (A.length + m) ck] (by rfl) rfl (one_new _ _ _) (one_slice _ _ _) (by unfold maxLen; omega) (by omega) (by have := HZ4.out; simp; omega) ?_
              intro v2 w6 ho6 hg6 hat6
              have hb6 : Below w1.heap.size w1 w6 := ((HBQ.out.trans (HB4.out.mono HBQ.out.size)).alloc HZ4.out _).grown hg6 (by have := HZ4.out; simp; omega) (fun x hx => (HOO.out.lt x hx).1)
              have hmid6 : ∀ b, w2.heap.size ≤ b → b < w3.heap.size → w6.heap[b]? = w3.heap[b]? := fun b hb1 hb2 => by
                have hbw : b < wr.heap.size := Nat.lt_of_lt_of_le hb2 HSQ2.out
                refine (hg6.block b (by have := HB4.out.size; simp; omega) (fun e => ?_)).trans ((Below.heap_alloc _ _ _ (by have := HB4.out.size; omega)).trans ((HB4.out.block b hbw).trans (HMI.out b hb1 hb2)))
                rcases HOB.out b e.symm with h | h <;> omega
              have hcg : w6.cell? ⟨Gm, k, none⟩ = some (.slice (some ⟨g2 k, 0, none⟩) m (c2 k)) := (World.cell?_of_block (w := wr) ((hmid6 Gm hGm1 hGm2).trans (HMI.out Gm hGm1 hGm2).symm)).trans hcw
              refine hK.out _ _ hcg (fun hHeld => ?_)
              clear hK K
              simp only [Act.put, List.setIfInBounds_toArray, List.set_cons_zero, List.set_cons_succ]
              have HN6 : Hid (OM w1.heap.size (updN g (A.length + k) gk) (updN c (A.length + k) ck) (A.length + k + 1) (A.length + m) w6 v2 ((A.map (· ++ List.replicate m 0) ++ ((pcL p).take k).map (List.replicate A.length 0 ++ ·)) ++ [List.replicate A.length 0 ++ rw0])) :=
                HOM2.out.push HBQ.out.size (by rw [List.length_append, List.length_replicate, HXR.out]) HO4.out HB4.out ho6 hg6
              have HM6 : Hid _ := hmid6
              have HB6 : Hid (Below w1.heap.size w1 w6) := hb6
              have HZ6 : Hid (w3.heap.size ≤ w6.heap.size) := by
                have h1 := HSQ2.out
                have h2 := HB4.out.size
                have h3 := hg6.size
                simp at h3
                show _ ≤ _
                omega
              have HOB6 : Hid (∀ b, v2.ownBlock = some b → b < w2.heap.size ∨ w3.heap.size ≤ b) := fun b hb => by
                rcases hat6 with h | h
                · exact HOB.out b (by rw [← h]; exact hb)
                · rw [h] at hb
                  simp only [Option.some.injEq] at hb
                  have h1 := HSQ2.out
                  have h2 := HB4.out.size
                  simp at hb
                  omega
              obtain ⟨vo, vc, hv2⟩ := owns_form ho6
              subst hv2
              clear ho6 hg6 hat6 hb6 hmid6
              refine wpAnyH_tk (i := 10) (d := 5) (v := (.slice vo (A.length + k + 1) vc)) rfl rfl (by kernel_rfl) (by kernel_rfl) (by kernel_rfl) (fun _ _ _ h => h) (.inl ⟨by rfl, by (intro wq hSw; (try dsimp only at hSw); go_simp; (try (first | rfl | omega)))⟩) hHeld ?_
              simp only [Act.put, List.setIfInBounds_toArray, List.set_cons_zero, List.set_cons_succ]
              refine wpAnyH_done (by kernel_rfl) ?_ _
              clear hHeld
              go_wp2
              exact ⟨⟨k + 1, _, _, by omega, by go_num, by rw [HTK.out, ← List.append_assoc]; exact HN6.out, HM6.out, HZ6.out, HB6.out, HOB6.out⟩, by simp [intOf]; omega⟩
            · have hke : k = m := by omega
              subst hke
              have HBD : Hid (A.map (· ++ List.replicate k (0 : Int)) ++ ((pcL p).take k).map (List.replicate A.length 0 ++ ·) = mkL (ps.take (i + 1))) := by
                show _ = _
                rw [HMT3.out, List.take_of_length_le (by rw [HPL.out]; exact Nat.le_refl _)]
                unfold bdg
                rw [HPL.out]
              rw [HBD.out] at hom
              have hnl : (mkL (ps.take (i + 1))).length = A.length + k := hom.num
              have HON : Hid (OM w1.heap.size g c (mkL (ps.take (i + 1))).length (mkL (ps.take (i + 1))).length wr u5 (mkL (ps.take (i + 1)))) := by rw [hnl]; exact hom
              have HSN : Hid ((mkL (ps.take (i + 1))).length + ((ps.drop (i + 1)).map rkP).sum ≤ 4) := by
                show _ ≤ _
                rw [hnl]; omega
              have HBN : Hid (Below w1.heap.size w1 wr) := hbq
              obtain ⟨yo, yc, hy⟩ : ∃ yo yc, u5 = .slice yo (A.length + k) yc := owns_form hom.out
              subst hy
              clear hom hnl hmid hob hsz hbq HBD hsm hsd
              go_wp2
              go_roundw
              case rel => exact ⟨i + 1, g, c, by omega, by go_num, HON.out, HSN.out, HBN.out⟩
              case measure => simp [intOf]; omega
    · have hie : i = ps.length := by omega
      have HTE2 : Hid (A = mkL ps) := HTE.out hie
      have HBF : Hid (Below w.heap.size w wr) := HB1.out.trans (HBR.out.mono HS1.out)
      have HOF : Hid (OM w.heap.size g c A.length A.length wr (.slice xo A.length xc) A) := ⟨HOM.out.num, HOM.out.len, own_low HOM.out.out HS1.out, fun q hq => own_low (HOM.out.row q hq) HS1.out, HOM.out.apart⟩
      clear hom hb HOM HBR HMT HTE
      subst hie
      go_wp2
      go_ret2
      exact ⟨_, g, c, rfl, by rw [← HTE2.out]; exact HOF.out, HBF.out⟩

end Go.Proofs.Ytkgljfnbaoncbaa
