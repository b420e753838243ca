/- shell.ordered: the sides by their heights. -/
import Derived.Test.YtaklkiagkdpimaaGreatDoorLnD
import Derived.Test.YtaklkiagkdpimaaGreatDoorRgA
namespace Go.Proofs.YtaklkiagkdpimaaGreatDoor
open Go.RowKit Lin
attribute [local go_sem ↓] Go.wp_at_zero Go.wp_at_succ

theorem rowN_own {B g n cap : Nat} {e : TypeId} {w : World} {F : Nat → Value} {l : List Int} (h : w.rowIs g e cap F) (hB : B ≤ g) (hl : l.length = n) (hF : ∀ i, i < n → F i = .int .i64 (l.getD i 0)) (hnc : n ≤ cap) (hcm : cap ≤ 9223372036854775807) : w.ownsRow B e 1 (.slice (some ⟨g, 0, none⟩) n cap) n (ints l) := by
  obtain ⟨cur, hh, hs, hc⟩ := h
  refine ⟨by simp [ints, hl], Or.inr ⟨g, cap, cur, rfl, hB, hh, hnc, by unfold maxLen; exact hcm, by omega, ?_⟩⟩
  apply List.ext_getElem?
  intro i
  rw [Nat.mul_one]
  by_cases hi : i < n
  · rw [List.getElem?_take_of_lt hi, Array.getElem?_toList, hc i (by omega), hF i hi]
    simp [ints, show i < l.length by omega]
  · rw [List.getElem?_eq_none (by simp; omega), List.getElem?_eq_none (by simp [ints]; omega)]

/-- A row of numbers that is written into. -/
structure MdI (W0 : World) (G n : Nat) (c : Nat → Int) (wr : World) : Prop where
  row : wr.rowIs G 3 n (fun j => .int .i64 (c j))
  bel : Below G W0 wr

theorem MdI.put {W0 : World} {G n : Nat} {c c2 : Nat → Int} {wr : World} (h : MdI W0 G n c wr) (x : Nat) (z : Int) (hc : ∀ j, j < n → c2 j = if j = x then z else c j) : MdI W0 G n c2 (wr.setCell ⟨G, x, none⟩ (.int .i64 z)) := by
  refine ⟨(World.rowIs.set h.row x (.int .i64 z)).congr fun j hj => ?_, h.bel.setCell (by exact Nat.le_refl G) _⟩
  rw [hc j hj]
  by_cases e : j = x
  · simp [e]
  · simp [e]

theorem MdI.cng {W0 : World} {G n : Nat} {c c2 : Nat → Int} {wr : World} (h : MdI W0 G n c wr) (hc : ∀ j, j < n → c2 j = c j) : MdI W0 G n c2 wr :=
  ⟨h.row.congr fun j hj => by rw [hc j hj], h.bel⟩

/-- The first i corners, added, and the first q numbers of the next one. -/
def mdQ (C : List (List Int)) (i q j : Nat) : Int := (sumN i fun t => (C.getD t []).getD j 0) + if j < q then (C.getD i []).getD j 0 else 0

theorem mdQ_zero (C : List (List Int)) (i j : Nat) : mdQ C i 0 j = sumN i fun t => (C.getD t []).getD j 0 := by simp [mdQ]

theorem mdQ_succ (C : List (List Int)) (i q j : Nat) : mdQ C i (q + 1) j = if j = q then mdQ C i q q + (C.getD i []).getD q 0 else mdQ C i q j := by
  unfold mdQ
  by_cases h : j = q
  · subst h; simp
  · rw [if_neg h]
    by_cases h2 : j < q
    · rw [if_pos h2, if_pos (by omega)]
    · rw [if_neg h2, if_neg (by omega)]

theorem mdQ_full (C : List (List Int)) (i : Nat) {d j : Nat} (hj : j < d) : mdQ C (i + 1) 0 j = mdQ C i d j := by
  rw [mdQ_zero]
  unfold mdQ
  rw [if_pos hj]
  rfl

theorem mdQ_bd {d : Nat} {C : List (List Int)} (hC : Box d 6 C) {i q : Nat} (hi : i < C.length) (hl : C.length ≤ 10) {j : Nat} (hj : j < d) : -1000 ≤ mdQ C i q j ∧ mdQ C i q j ≤ 1000 := by
  have h1 : ∀ t, t < C.length → ((C.getD t []).getD j 0).natAbs ≤ 6 := fun t ht => by
    have hm : C.getD t [] ∈ C := by simp [ht]
    have h := hC _ hm
    have := h.2 ((C.getD t []).getD j 0) (getD_mem (by rw [h.1]; exact hj))
    omega
  have h2 := sumN_bdL (f := fun t => (C.getD t []).getD j 0) (M := 6) i fun t ht => h1 t (by omega)
  have h3 := h1 i hi
  unfold mdQ
  split <;> omega

theorem hgt_snoc {d : Nat} {C s : List (List Int)} {wy : List Int} {k : Nat} (hk : k < s.length) : (s.take (k + 1)).map (hgt d C wy) = (s.take k).map (hgt d C wy) ++ [hgt d C wy (s.getD k [])] := by
  have e : s.getD k [] = s[k] := by simp [hk]
  rw [List.take_succ_eq_append_getElem hk, List.map_append, e]
  rfl

theorem owns_formN {B s : Nat} {e : TypeId} {w : World} {v : Value} {n : Nat} {xs : List Value} (h : w.ownsRow B e s v n xs) : ∃ vo vc, v = .slice vo n vc := by
  rcases h.2 with ⟨h1, h2⟩ | ⟨b, cap, cur, h1, _⟩
  · exact ⟨none, 0, by rw [h1, h2]⟩
  · exact ⟨_, _, h1⟩

theorem three_newN (W : World) (x y z : Value) (t : TypeId) : ∀ (j : Nat) (u : Value), [x, y, z][j]? = some u → (W.alloc (.cells #[x, y, z] t)).cell? (Addr.add ⟨W.heap.size, 0, none⟩ j) = some u := by
  intro j u h
  match j, h with
  | 0, h => simp at h; subst h; simp [Addr.add]
  | 1, h => simp at h; subst h; simp [Addr.add]
  | 2, h => simp at h; subst h; simp [Addr.add]
  | j + 3, h => simp at h

theorem three_oneN (a : Nat) (b c : Int) : ∀ u ∈ [Value.int .u64 (a : Int), .int .i64 b, .int .i64 c], u.oneCell' = true := by
  intro u hu
  simp only [List.mem_cons, List.not_mem_nil, or_false] at hu
  rcases hu with rfl | rfl | rfl <;> rfl

set_option maxRecDepth 100000 in
set_option maxHeartbeats 3200000 in
theorem ordered_any (d : Nat) (C s : List (List Int)) (wy : List Int) (co : Option Addr) (cc : Nat) (ro : Option Addr) (rc : Nat) (so : Option Addr) (sc : Nat) (uo : Option Addr) (uc : Nat) (w : World)
    (hC : Mat w.heap.size 22 3 w (.slice co C.length cc) C) (hR : Mat w.heap.size 22 3 w (.slice ro s.length rc) s) (hS : Sl w.heap.size 54 w (.slice so s.length sc) (u64s (s.map (sdN C)))) (hU : Sl w.heap.size 3 w (.slice uo d uc) (ints wy))
    (hd1 : 1 ≤ d) (hd : d ≤ 4) (hbx : Box d 6 C) (hCl : C.length ≤ 10) (hwl : wy.length = d) (hw : ∀ z ∈ wy, z.natAbs ≤ 20) (hrl : ∀ r ∈ s, r.length = d + 1) (ha : ∀ r ∈ s, ∀ z ∈ r.take d, z.natAbs ≤ 10368) (hb : ∀ r ∈ s, (r.getD d 0).natAbs ≤ 248832) (hpos : ∀ r ∈ s, 0 < (hgt d C wy r).2.2) (hsl : s.length ≤ 5000) :
    Calls Tryz.prog 25 #[.agg #[.int .i64 d, .slice co C.length cc, .slice ro s.length rc, .slice so s.length sc], .slice uo d uc] w fun e w' => ∃ (m' : List Sde) (xo : Option Addr) (xc : Nat), e = .returned (.slice xo m'.length xc) ∧ m'.Perm (s.map (hgt d C wy)) ∧ (∀ i j, i < j → j < m'.length → ¬ hlo (m'.getD i (0, 0, 1)) (m'.getD j (0, 0, 1))) ∧ w'.ownsRow w.heap.size 56 3 (.slice xo m'.length xc) m'.length (m'.flatMap encN) ∧ Below w.heap.size w w' := by
  obtain ⟨i3, hi3, hz30, hz31, hz32⟩ := info_parts Tryz.infoN
  have hmk : ∀ w : World, (Instr.makeSlice 22 (.int .i64 (d : Int)) (.int .i64 (d : Int))).run Tryz.prog w = .ok (.slice (some ⟨w.heap.size, 0, none⟩) d d) (w.alloc (.cells (madeCells #[.int .i64 0] d) 3)) := run_make_row' (P := Tryz.prog) 22 3 (.int .i64 0) 8 Tryz.underlying22 (by kernel_rfl) rfl .i64 .i64 d (by omega) (by omega)
  obtain ⟨W, hW⟩ : ∃ W, W = w.alloc (.cells #[.int .i64 d, .slice co C.length cc, .slice ro s.length rc, .slice so s.length sc] 48) := ⟨_, rfl⟩
  have HB : Hid (Below w.heap.size w W) := by rw [hW]; exact alloc_keep _ _
  have hsW : W.heap.size = w.heap.size + 1 := by rw [hW]; exact size_alloc _ _
  have hb0 : W.heap[w.heap.size]? = some (.cells #[.int .i64 d, .slice co C.length cc, .slice ro s.length rc, .slice so s.length sc] 48 (0, 0)) := by rw [hW]; exact alloc_at _ _
  have c0 : W.cell? ⟨w.heap.size, 0, none⟩ = some (.int .i64 d) := by simp [World.cell?, hb0]
  obtain ⟨W1, hW1⟩ : ∃ W1, W1 = W.alloc (.cells (madeCells #[.int .i64 0] d) 3) := ⟨_, rfl⟩
  have HI0 : Hid (MdI W (w.heap.size + 1) d (fun j => mdQ C 0 0 j) W1) := by
    rw [hW1, ← hsW]
    refine ⟨⟨_, alloc_at _ _, by simp [madeCells], fun i hi => ?_⟩, (Below.refl _ _).alloc (Nat.le_refl _) _⟩
    rw [← Array.getElem?_toList, toList_madeCells_one]
    simp [hi, mdQ, sumN]
  have HBX : Hid (∀ X, Below (w.heap.size + 1) W X → X.cell? ⟨w.heap.size, 0, none⟩ = some (.int .i64 d) ∧ X.cell? ⟨w.heap.size, 1, none⟩ = some (.slice co C.length cc) ∧ X.cell? ⟨w.heap.size, 2, none⟩ = some (.slice ro s.length rc) ∧ X.cell? ⟨w.heap.size, 3, none⟩ = some (.slice so s.length sc)) := fun X h => by
    have := (h.block _ (by omega)).trans hb0
    simp [World.cell?, this]
  have HBE : Hid (∀ X, Below (w.heap.size + 1) W X → Below w.heap.size w X) := fun X h => HB.out.trans (h.mono (by omega))
  have HC0 : Hid (Mat w.heap.size 22 3 w (.slice co C.length cc) C) := hC
  have HR0 : Hid (Mat w.heap.size 22 3 w (.slice ro s.length rc) s) := hR
  have HUX : Hid (∀ X, Below (w.heap.size + 1) W X → Sl w.heap.size 3 X (.slice uo d uc) (ints wy)) := fun X h => by
    exact hU.below (HBE.out X h) (Nat.le_refl _)
  have HSX : Hid (∀ X i, Below (w.heap.size + 1) W X → i < s.length → ∃ sb sf, so = some ⟨sb, sf, none⟩ ∧ X.cell? ⟨sb, sf + i, none⟩ = some (.int .u64 ((sdN C (s.getD i []) : Nat) : Int))) := fun X i h hi => by
    obtain ⟨ao, cap, hv, _, _, h5, _⟩ := hS.below (HBE.out X h) (Nat.le_refl _)
    simp only [Value.slice.injEq] at hv
    obtain ⟨sb, soo, hs, hcc, _⟩ := h5 i (by rw [u64s_len, List.length_map]; exact hi)
    refine ⟨sb, soo, hv.1.trans hs, ?_⟩
    rw [hcc]
    simp [u64s, hi]
  have HDC : Hid (Box d 6 C) := hbx
  have HRL : Hid (∀ r ∈ s, r.length = d + 1) := hrl
  have HGB : Hid (∀ r ∈ s, (dotL (r.take d) wy).natAbs ≤ 829440 ∧ (dotL (r.take d) (midL d C C.length)).natAbs ≤ 2488320 ∧ (r.getD d 0 * C.length).natAbs ≤ 2488320) := fun r hr => hgt_bd hd hbx hCl hw (ha r hr) (hb r hr)
  have HS1 : Hid (∀ r ∈ s, Sm (r.take d) wy) := fun r hr => ⟨by simp; omega, by simp; omega, fun z hz => by have := ha r hr z hz; omega, fun z hz => by have := hw z hz; omega⟩
  have HS2 : Hid (∀ r ∈ s, Sm (r.take d) (midL d C C.length)) := fun r hr => ⟨by rw [midL_len]; simp; omega, by simp; omega, fun z hz => by have := ha r hr z hz; omega, fun z hz => by have := midL_bd hbx (Nat.le_refl _) z hz; omega⟩
  have HPS : Hid (Smn (s.map (hgt d C wy))) := fun t ht => by
    obtain ⟨r, hr, rfl⟩ := List.mem_map.1 ht
    have h1 := hpos r hr
    obtain ⟨h2, h3, h4⟩ := HGB.out r hr
    have h5 : (hgt d C wy r).2.1 = dotL (r.take d) wy := rfl
    have h6 : (hgt d C wy r).2.2 = r.getD d 0 * C.length - dotL (r.take d) (midL d C C.length) := rfl
    omega
  have HWL : Hid (wy.length = d) := hwl
  clear hC hR hS hU hbx hrl ha hb hpos hw hb0 hwl
  go_enter Tryz.func25, Tryz.ntmps25
  go_upto_region 1 with fail
  rw [← hW]
  clear hW
  go_upto_region 2 with fail
  rw [← hW1]
  clear hW1 c0 hmk
  obtain ⟨c0, c1, c2, c3⟩ := HBX.out W1 HI0.out.bel
  go_wp2
  clear c0 c1 c2 c3
  go_loopw [7, 22] (fun _ iv wr => ∃ i : Nat, i ≤ C.length ∧ iv = .int .i64 (i : Int) ∧ MdI W (w.heap.size + 1) d (fun j => mdQ C i 0 j) wr) (fun _ iv _ => C.length - (intOf iv).toNat)
  case atStart => exact ⟨0, Nat.zero_le _, rfl, HI0.out⟩
  case round =>
    obtain ⟨i, hi, rfl, hI⟩ := hrel
    have HI : Hid (MdI W (w.heap.size + 1) d (fun j => mdQ C i 0 j) wr) := hI
    clear hI HI0
    by_cases hlt : i < C.length
    · obtain ⟨qb, qo, qcp, q1, hqs, _, hqc0, hq1⟩ := mat_cell HC0.out hlt
      simp only [Value.slice.injEq, true_and] at hqs
      obtain ⟨rfl, rfl⟩ := hqs
      have hkm : C.getD i [] ∈ C := by simp [hlt]
      have hyl := (HDC.out _ hkm).1
      obtain ⟨yo, yc, rfl, hy1, hy2⟩ := sl_open hq1
      have HY : Hid (∀ X q, Below (w.heap.size + 1) W X → q < d → ∃ ub uf, yo = some ⟨ub, uf, none⟩ ∧ X.cell? ⟨ub, uf + q, none⟩ = some (.int .i64 ((C.getD i []).getD q 0))) := fun X q h hq => by
        obtain ⟨ub, uf, ucp, hs, _, hcu⟩ := sl_cell (hq1.below (HBE.out X h) (Nat.le_refl _)) (k := q) (by rw [hyl]; exact hq)
        simp only [Value.slice.injEq, true_and] at hs
        exact ⟨ub, uf, hs.1, hcu⟩
      rw [hyl] at hqc0 hy1
      have hqc := ((HBE.out wr HI.out.bel).cell (lt_of_cell hqc0)).trans hqc0
      have HYB : Hid (∀ q, q < d → -6 ≤ (C.getD i []).getD q 0 ∧ (C.getD i []).getD q 0 ≤ 6) := fun q hq => (HDC.out _ hkm).2 _ (getD_mem (by rw [hyl]; exact hq))
      have HQB : Hid (∀ q, q < d → -1000 ≤ mdQ C i q q ∧ mdQ C i q q ≤ 1000) := fun q hq => mdQ_bd HDC.out hlt hCl hq
      have HFU : Hid (∀ j, j < d → mdQ C (i + 1) 0 j = mdQ C i d j) := fun j hj => mdQ_full C i hj
      have HSU : Hid (∀ q j, mdQ C i (q + 1) j = if j = q then mdQ C i q q + (C.getD i []).getD q 0 else mdQ C i q j) := mdQ_succ C i
      have hiI : (i : Int) < (C.length : Int) := by omega
      clear hq1 hkm hyl hqc0
      generalize C.getD i [] = y at *
      go_wp2
      clear hqc
      go_loopw [8, 9, 28] (fun _ _ qv wq => ∃ q : Nat, q ≤ d ∧ qv = .int .i64 (q : Int) ∧ MdI W (w.heap.size + 1) d (fun j => mdQ C i q j) wq) (fun _ _ qv _ => d - (intOf qv).toNat)
      case atStart => exact ⟨0, Nat.zero_le _, rfl, HI.out⟩
      case round =>
        obtain ⟨q, hq, rfl, hI⟩ := hrel
        have HI2 : Hid (MdI W (w.heap.size + 1) d (fun j => mdQ C i q j) wr) := hI
        clear hI HI
        by_cases hlq : q < d
        · obtain ⟨ub, uf, rfl, hcu⟩ := HY.out wr q HI2.out.bel hlq
          have ca := HI2.out.row.cell (i := q) hlq
          have cf := HI2.out.row.frozen q
          have hqI : (q : Int) < (d : Int) := by omega
          obtain ⟨hb1, hb2⟩ := HQB.out q hlq
          obtain ⟨hb3, hb4⟩ := HYB.out q hlq
          have HNX : Hid (MdI W (w.heap.size + 1) d (fun j => mdQ C i (q + 1) j) (wr.setCell ⟨w.heap.size + 1, q, none⟩ (.int .i64 (mdQ C i q q + y.getD q 0)))) := HI2.out.put q _ fun j _ => HSU.out q j
          have hwr : IntKind.wrap .i64 (mdQ C i q q + y.getD q 0) = mdQ C i q q + y.getD q 0 := by rw [IntKind.wrap_i64]; omega
          generalize mdQ C i q q = cx at *
          generalize y.getD q 0 = yq at *
          clear HI2
          go_wp2
          go_roundw
          case rel => exact ⟨q + 1, by omega, by go_num, HNX.out⟩
          case measure => simp [intOf]; omega
        · have hqe : q = d := by omega
          subst hqe
          have HN : Hid (MdI W (w.heap.size + 1) q (fun j => mdQ C (i + 1) 0 j) wr) := HI2.out.cng HFU.out
          clear HI2
          go_wp2
          exact ⟨⟨i + 1, by omega, by go_num, HN.out⟩, by simp [intOf]; omega⟩
    · have hie : i = C.length := by omega
      subst hie
      clear hlt hi
      obtain ⟨W2, hW2⟩ : ∃ W2, W2 = wr := ⟨wr, rfl⟩
      rw [← hW2] at HI ⊢
      clear hW2 wr
      have hG2 : w.heap.size + 1 < W2.heap.size := by
        obtain ⟨cur, h1, _, _⟩ := HI.out.row
        exact lt_of_block h1
      have HB2 : Hid (∀ X, Below W2.heap.size W2 X → Below (w.heap.size + 1) W X) := fun X h => HI.out.bel.trans (h.mono (by omega))
      have HSM : Hid (∀ X, Below W2.heap.size W2 X → Sl w.heap.size 3 X (.slice (some ⟨w.heap.size + 1, 0, none⟩) d d) (ints (midL d C C.length))) := fun X h => by
        have ho := rowN_own (B := 0) (l := midL d C C.length) HI.out.row (Nat.zero_le _) (midL_len _ _ _) (fun i hi => by
          show Value.int .i64 (mdQ C C.length 0 i) = _
          rw [midL_at C _ hi, mdQ_zero]) (Nat.le_refl _) (by omega)
        exact ((Sl.own ho).below h (Nat.le_refl _)).more (Nat.zero_le _)
      obtain ⟨c0, c1, c2, c3⟩ := HBX.out W2 HI.out.bel
      clear HI
      go_wp2
      clear c0 c1 c2 c3
      go_loopw [10, 45] (fun x kv wr => ∃ k : Nat, k ≤ s.length ∧ kv = .int .i64 (k : Int) ∧ wr.ownsRow W2.heap.size 56 3 x k (((s.take k).map (hgt d C wy)).flatMap encN) ∧ Below W2.heap.size W2 wr) (fun _ kv _ => s.length - (intOf kv).toNat)
      case atStart => exact ⟨0, Nat.zero_le _, rfl, World.ownsRow_nil _ _ _ _, Below.refl _ _⟩
      case round =>
        obtain ⟨k, hk, rfl, ho, hbr⟩ := hrel
        have HO : Hid (wr.ownsRow W2.heap.size 56 3 u10 k (((s.take k).map (hgt d C wy)).flatMap encN)) := ho
        have HBR : Hid (Below W2.heap.size W2 wr) := hbr
        have hszr : W2.heap.size ≤ wr.heap.size := hbr.size
        clear ho hbr
        obtain ⟨xo, xc, hxv⟩ := owns_formN HO.out
        subst hxv
        by_cases hlt : k < s.length
        · obtain ⟨qb, qo, qcp, q1, hqs, _, hqc0, hq1⟩ := mat_cell HR0.out hlt
          simp only [Value.slice.injEq, true_and] at hqs
          obtain ⟨rfl, rfl⟩ := hqs
          have hkm : s.getD k [] ∈ s := by simp [hlt]
          have hrl := HRL.out _ hkm
          obtain ⟨rb, rf, rcc, rfl, hrc1, hrd0⟩ := sl_cell hq1 (k := d) (by rw [hrl]; omega)
          have HTK : Hid (∀ X, Below W2.heap.size W2 X → Sl w.heap.size 3 X (.slice (some ⟨rb, rf, none⟩) d rcc) (ints ((s.getD k []).take d))) := fun X h => by
            have h1 := hq1.below (HBE.out X (HB2.out X h)) (Nat.le_refl _)
            exact Sl.take (n := d) h1 (by rw [hrl]; omega)
          have HCE : Hid (∀ X, Below W2.heap.size W2 X → X.cell? ⟨qb, qo + k, none⟩ = some (.slice (some ⟨rb, rf, none⟩) (d + 1) rcc) ∧ X.cell? ⟨rb, rf + d, none⟩ = some (.int .i64 ((s.getD k []).getD d 0))) := fun X h => by
            have h1 := HBE.out X (HB2.out X h)
            rw [hrl] at hqc0
            exact ⟨(h1.cell (lt_of_cell hqc0)).trans hqc0, (h1.cell (lt_of_cell hrd0)).trans hrd0⟩
          have HP1 : Hid (∀ X, Below W2.heap.size W2 X → Calls Tryz.prog 43 #[.slice (some ⟨rb, rf, none⟩) d rcc, .slice uo d uc] X fun e w' => e = .returned (.int .i64 (dotL ((s.getD k []).take d) wy)) ∧ ∃ n, w' = X.drewN n) := fun X h => product_any w.heap.size _ _ _ _ X (HTK.out X h) (HUX.out X (HB2.out X h)) (HS1.out _ hkm)
          have HP2 : Hid (∀ X, Below W2.heap.size W2 X → Calls Tryz.prog 43 #[.slice (some ⟨rb, rf, none⟩) d rcc, .slice (some ⟨w.heap.size + 1, 0, none⟩) d d] X fun e w' => e = .returned (.int .i64 (dotL ((s.getD k []).take d) (midL d C C.length))) ∧ ∃ n, w' = X.drewN n) := fun X h => product_any w.heap.size _ _ _ _ X (HTK.out X h) (HSM.out X h) (HS2.out _ hkm)
          obtain ⟨hg1, hg2, hg3⟩ := HGB.out _ hkm
          have HSN : Hid (∀ v', v' = (((s.take k).map (hgt d C wy)).flatMap encN) ++ [.int .u64 (sdN C (s.getD k []) : Int), .int .i64 (dotL ((s.getD k []).take d) wy), .int .i64 ((s.getD k []).getD d 0 * C.length - dotL ((s.getD k []).take d) (midL d C C.length))] → v' = ((s.take (k + 1)).map (hgt d C wy)).flatMap encN) := fun v' h => by
            rw [h, hgt_snoc hlt, List.flatMap_append]
            rfl
          obtain ⟨sb, sf, hso, _⟩ := HSX.out W2 k (HB2.out _ (Below.refl _ _)) hlt
          have HSC : Hid (∀ X, Below W2.heap.size W2 X → X.cell? ⟨sb, sf + k, none⟩ = some (.int .u64 ((sdN C (s.getD k []) : Nat) : Int))) := fun X h => by
            obtain ⟨sb', sf', h1, h2⟩ := HSX.out X k (HB2.out X h) hlt
            rw [hso] at h1
            simp only [Option.some.injEq, Addr.mk.injEq, and_true] at h1
            obtain ⟨rfl, rfl⟩ := h1
            exact h2
          have hkI : (k : Int) < (s.length : Int) := by omega
          have hdI : (d : Int) < (d : Int) + 1 := by omega
          have hdI0 : (0 : Int) ≤ (d : Int) := by omega
          rw [hrl] at hrc1
          have hdc : (d : Int) ≤ (rcc : Int) := by omega
          clear hq1 hkm hrl hqc0 hrd0
          generalize dotL ((s.getD k []).take d) wy = ov at *
          generalize dotL ((s.getD k []).take d) (midL d C C.length) = md at *
          generalize (s.getD k []).getD d 0 = lst at *
          generalize sdN C (s.getD k []) = sn at *
          obtain ⟨pr, hpr⟩ : ∃ pr, pr = lst * (C.length : Int) := ⟨_, rfl⟩
          have hw1 : IntKind.wrap .i64 (lst * (C.length : Int)) = pr := by rw [← hpr, IntKind.wrap_i64]; omega
          rw [← hpr] at hg3 HSN
          clear hpr
          have hw2 : IntKind.wrap .i64 (pr - md) = pr - md := by rw [IntKind.wrap_i64]; omega
          subst hso
          obtain ⟨e1, e2⟩ := HCE.out wr HBR.out
          obtain ⟨c0, c1, c2, c3⟩ := HBX.out wr (HB2.out wr HBR.out)
          go_wp2
          go_quiet (fail)
          obtain ⟨WX, hWX⟩ : ∃ WX, WX = wr.drewN nq := ⟨_, rfl⟩
          have HBX2 : Hid (Below W2.heap.size W2 WX) := by rw [hWX]; exact below_drewN HBR.out nq
          have HOX : Hid (WX.ownsRow W2.heap.size 56 3 (.slice xo k xc) k (((s.take k).map (hgt d C wy)).flatMap encN)) := by rw [hWX]; exact HO.out
          rw [← hWX]
          clear hWX e1 e2 c0 c1 c2 c3
          obtain ⟨c0, c1, c2, c3⟩ := HBX.out WX (HB2.out WX HBX2.out)
          have HP2X : Hid (∀ nn, Calls Tryz.prog 43 #[.slice (some ⟨rb, rf, none⟩) d rcc, .slice (some ⟨w.heap.size + 1, 0, none⟩) d d] (WX.drewN nn) fun e w' => e = .returned (.int .i64 md) ∧ ∃ n, w' = (WX.drewN nn).drewN n) := fun nn => HP2.out (WX.drewN nn) (below_drewN HBX2.out nn)
          go_wp2
          go_quiet (first | (go_at_call 43; exact Calls.quiet_of (w := WX) (HP2X.out _)))
          obtain ⟨WY, hWY⟩ : ∃ WY, WY = WX.drewN nq := ⟨_, rfl⟩
          have HBY : Hid (Below W2.heap.size W2 WY) := by rw [hWY]; exact below_drewN HBX2.out nq
          have HOY : Hid (WY.ownsRow W2.heap.size 56 3 (.slice xo k xc) k (((s.take k).map (hgt d C wy)).flatMap encN)) := by rw [hWY]; exact HOX.out
          rw [← hWY]
          clear hWY c0 c1 c2 c3
          go_upto_region 17 with fail
          obtain ⟨WD, hWD⟩ : ∃ WD, WD = WY.drew := ⟨_, rfl⟩
          have HBD : Hid (Below W2.heap.size W2 WD) := by rw [hWD]; exact HBY.out.drew
          have HOD : Hid (WD.ownsRow W2.heap.size 56 3 (.slice xo k xc) k (((s.take k).map (hgt d C wy)).flatMap encN)) := by rw [hWD]; exact HOY.out
          have HSS : Hid (∀ X, Below W2.heap.size W2 X → X.cell? ⟨w.heap.size, 3, none⟩ = some (.slice (some ⟨sb, sf, none⟩) s.length sc) ∧ X.cell? ⟨sb, sf + k, none⟩ = some (.int .u64 (sn : Nat))) := fun X h => ⟨(HBX.out X (HB2.out X h)).2.2.2, HSC.out X h⟩
          have S0 := HSS.out WD HBD.out
          rw [hWD] at S0
          refine wp_region_held_drew (S := fun X => X.cell? ⟨w.heap.size, 3, none⟩ = some (.slice (some ⟨sb, sf, none⟩) s.length sc) ∧ X.cell? ⟨sb, sf + k, none⟩ = some (.int .u64 (sn : Nat))) (by kernel_rfl) S0 (fun hHeld => ?_)
          rw [← hWD] at hHeld ⊢
          clear hWD S0 HBX2 HOX HBY HOY HO
          refine wpAnyH_tk (i := 0) (d := 68) (v := .slice xo k xc) rfl rfl (by kernel_rfl) (by kernel_rfl) (by kernel_rfl) (fun _ _ _ h => h) (.inl ⟨by rfl, by (intro wq hSw; (try dsimp only at hSw); go_simp; (try (first | rfl | omega)))⟩) hHeld ?_
          simp only [Act.put, List.setIfInBounds_toArray, List.set_cons_zero, List.set_cons_succ]
          refine wpAnyH_tk (i := 1) (d := 69) (v := .pointer (some ⟨w.heap.size, 3, none⟩)) rfl rfl (by kernel_rfl) (by kernel_rfl) (by kernel_rfl) (fun _ _ _ h => h) (.inl ⟨by rfl, by (intro wq hSw; (try dsimp only at hSw); go_simp; (try (first | rfl | omega)))⟩) hHeld ?_
          simp only [Act.put, List.setIfInBounds_toArray, List.set_cons_zero, List.set_cons_succ]
          refine wpAnyH_tk (i := 2) (d := 70) (v := .slice (some ⟨sb, sf, none⟩) s.length sc) rfl rfl (by kernel_rfl) (by kernel_rfl) (by kernel_rfl) (fun _ _ _ h => h) (.inl ⟨by rfl, by (intro wq hSw; (try dsimp only at hSw); go_simp; (try (first | rfl | omega)))⟩) hHeld ?_
          simp only [Act.put, List.setIfInBounds_toArray, List.set_cons_zero, List.set_cons_succ]
          refine wpAnyH_tk (i := 3) (d := 71) (v := .int .i64 (k : Int)) rfl rfl (by kernel_rfl) (by kernel_rfl) (by kernel_rfl) (fun _ _ _ h => h) (.inl ⟨by rfl, by (intro wq hSw; (try dsimp only at hSw); go_simp; (try (first | rfl | omega)))⟩) hHeld ?_
          simp only [Act.put, List.setIfInBounds_toArray, List.set_cons_zero, List.set_cons_succ]
          refine wpAnyH_tk (i := 4) (d := 72) (v := .pointer (some ⟨sb, sf + k, none⟩)) rfl rfl (by kernel_rfl) (by kernel_rfl) (by kernel_rfl) (fun _ _ _ h => h) (.inl ⟨by rfl, by (intro wq hSw; (try dsimp only at hSw); go_simp; (try (first | rfl | omega)))⟩) hHeld ?_
          simp only [Act.put, List.setIfInBounds_toArray, List.set_cons_zero, List.set_cons_succ]
          refine wpAnyH_tk (i := 5) (d := 73) (v := .int .u64 (sn : Nat)) rfl rfl (by kernel_rfl) (by kernel_rfl) (by kernel_rfl) (fun _ _ _ h => h) (.inl ⟨by rfl, by (intro wq hSw; (try dsimp only at hSw); go_simp; (try (first | rfl | omega)))⟩) hHeld ?_
          simp only [Act.put, List.setIfInBounds_toArray, List.set_cons_zero, List.set_cons_succ]
          refine wpAnyH_tk (i := 6) (d := 74) (v := .slice (some ⟨rb, rf, none⟩) d rcc) rfl rfl (by kernel_rfl) (by kernel_rfl) (by kernel_rfl) (fun _ _ _ h => h) (.inl ⟨by rfl, by (intro wq hSw; (try dsimp only at hSw); go_simp; (try (first | rfl | omega)))⟩) hHeld ?_
          simp only [Act.put, List.setIfInBounds_toArray, List.set_cons_zero, List.set_cons_succ]
          refine wpAnyH_tk (i := 7) (d := 75) (v := .slice uo d uc) rfl rfl (by kernel_rfl) (by kernel_rfl) (by kernel_rfl) (fun _ _ _ h => h) (.inl ⟨by rfl, by (intro wq hSw; (try dsimp only at hSw); go_simp; (try (first | rfl | omega)))⟩) hHeld ?_
          simp only [Act.put, List.setIfInBounds_toArray, List.set_cons_zero, List.set_cons_succ]
          refine wpAnyH_tk (i := 9) (d := 77) (v := .int .i64 (pr - md)) rfl rfl (by kernel_rfl) (by kernel_rfl) (by kernel_rfl) (fun _ _ _ h => h) (.inl ⟨by rfl, by (intro wq hSw; (try dsimp only at hSw); go_simp; (try (first | rfl | omega)))⟩) hHeld ?_
          simp only [Act.put, List.setIfInBounds_toArray, List.set_cons_zero, List.set_cons_succ]
          refine wpAnyH_ready (rs := [8]) (by kernel_rfl) (by simp) ?_
          refine ready_tk (i := 8) rfl (by rfl) (fun K hK => ?_) AllReadyH.nil
          go_simp
          refine (HP1.out WD HBD.out).mono ?_
          rintro e WE ⟨rfl, n4, hWE⟩
          have HBE2 : Hid (Below W2.heap.size W2 WE) := by rw [hWE]; exact below_drewN HBD.out n4
          have HOE : Hid (WE.ownsRow W2.heap.size 56 3 (.slice xo k xc) k (((s.take k).map (hgt d C wy)).flatMap encN)) := by rw [hWE]; exact HOD.out
          refine hK.out _ _ (HSS.out WE HBE2.out) (fun hHeld => ?_)
          clear hK K hWE HBD HOD
          try simp only [Act.put, List.setIfInBounds_toArray, List.set_cons_zero, List.set_cons_succ]
          refine wpAnyH_tk (i := 10) (d := 78) (v := .agg #[.int .u64 (sn : Nat), .int .i64 ov, .int .i64 (pr - md)]) rfl rfl (by kernel_rfl) (by kernel_rfl) (by kernel_rfl) (fun _ _ _ h => h) (.inl ⟨by rfl, by (intro wq hSw; (try dsimp only at hSw); go_simp; (try (first | rfl | omega)))⟩) hHeld ?_
          simp only [Act.put, List.setIfInBounds_toArray, List.set_cons_zero, List.set_cons_succ]
          have hszE : W2.heap.size ≤ WE.heap.size := HBE2.out.size
          refine wpAnyH_ready (rs := [11]) (by kernel_rfl) (by simp) ?_
          refine ready_tk (i := 11) rfl (by rfl) (fun K hK => ?_) AllReadyH.nil
          go_simp
          refine hK.out _ _ (HSS.out _ (HBE2.out.alloc hszE _)) (fun hHeld => ?_)
          clear hK K
          try simp only [Act.put, List.setIfInBounds_toArray, List.set_cons_zero, List.set_cons_succ]
          refine wpAnyH_ready (rs := [12]) (by kernel_rfl) (by simp) ?_
          refine ready_tk (i := 12) rfl (by rfl) (fun K hK => ?_) AllReadyH.nil
          refine op_append_ownA _ _ 51 rfl W2.heap.size 56 i3 (.agg #[.int .u64 0, .int .i64 0, .int .i64 0]) 3 24 Tryz.underlying51 hi3 hz30 hz31 hz32 rfl (by decide) (.slice xo k xc) k _ rfl (HOE.out.alloc _) ⟨WE.heap.size, 0, none⟩ 1 1 [.int .u64 (sn : Int), .int .i64 ov, .int .i64 (pr - md)] rfl rfl (three_newN _ _ _ _ _) (three_oneN _ _ _) (by unfold maxLen; omega) (by omega) (by simp; omega) ?_
          intro v' w5 ho5 hg5 _
          have e5 := HSN.out _ rfl
          rw [e5] at ho5
          obtain ⟨ao, ac, rfl⟩ := owns_formN ho5
          have HO5 : Hid (w5.ownsRow W2.heap.size 56 3 (.slice ao (k + 1) ac) (k + 1) (((s.take (k + 1)).map (hgt d C wy)).flatMap encN)) := ho5
          have HB5 : Hid (Below W2.heap.size W2 w5) := (HBE2.out.alloc hszE _).grown hg5 (by simp; omega) (fun x hx => (HOE.out.lt x hx).1)
          refine hK.out _ _ (HSS.out w5 HB5.out) (fun hHeld => ?_)
          clear hK K ho5 hg5 e5
          try simp only [Act.put, List.setIfInBounds_toArray, List.set_cons_zero, List.set_cons_succ]
          refine wpAnyH_tk (i := 13) (d := 10) (v := .slice ao (k + 1) ac) rfl rfl (by kernel_rfl) (by kernel_rfl) (by kernel_rfl) (fun _ _ _ h => h) (.inl ⟨by rfl, by (intro wq hSw; (try dsimp only at hSw); go_simp; (try (first | rfl | omega)))⟩) hHeld ?_
          simp only [Act.put, List.setIfInBounds_toArray, List.set_cons_zero, List.set_cons_succ]
          refine wpAnyH_done (by kernel_rfl) ?_ _
          clear hHeld
          go_wp2
          go_roundw
          case rel => exact ⟨k + 1, by omega, by go_num, HO5.out, HB5.out⟩
          case measure => simp [intOf]; omega
        · have hke : k = s.length := by omega
          subst hke
          have hoo := HO.out
          rw [List.take_length] at hoo
          have HST := sortN_any W2.heap.size (s.map (hgt d C wy)) (.slice xo s.length xc) wr (by rw [List.length_map]; exact hoo) HPS.out (by rw [List.length_map]; omega)
          have HBF : Hid (Below w.heap.size w wr) := HBE.out wr (HB2.out wr HBR.out)
          have hszf : w.heap.size ≤ W2.heap.size := by omega
          clear hoo HO HPS HSX HUX HGB HS1 HS2 HR0 HC0
          go_wp2_with fail
          refine HST.mono ?_
          rintro e w6 ⟨rfl, m', hpm, hso, ho6, hb6, _⟩
          have hlen : m'.length = s.length := by rw [hpm.length_eq, List.length_map]
          have HPM : Hid (m'.Perm (s.map (hgt d C wy)) ∧ (∀ i j, i < j → j < m'.length → ¬ hlo (m'.getD i (0, 0, 1)) (m'.getD j (0, 0, 1))) ∧ w6.ownsRow w.heap.size 56 3 (.slice xo s.length xc) m'.length (m'.flatMap encN) ∧ Below w.heap.size w w6) := ⟨hpm, hso, ho6.mono hszf, HBF.out.trans (hb6.mono hszf)⟩
          have HLE : Hid (m'.length = s.length) := hlen
          clear hpm hso ho6 hb6 HST hlen
          go_wp2
          go_ret
          refine ⟨m', xo, xc, ?_, HPM.out.1, HPM.out.2.1, ?_, HPM.out.2.2.2⟩
          · rw [HLE.out]; rfl
          · have h := HPM.out.2.2.1
            rw [HLE.out] at h ⊢
            exact h

end Go.Proofs.YtaklkiagkdpimaaGreatDoor
