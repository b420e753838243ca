/- shell.Line: the sides, as a line comes to them. -/
import Derived.Test.YtaklkiagkdpimaaGreatDoorLn3
import Derived.Test.YtaklkiagkdpimaaGreatDoorLn4
import Derived.Test.YtaklkiagkdpimaaGreatDoorGZ
import Derived.Test.YtaklkiagkdpimaaGreatDoorLtA
namespace Go.Proofs.YtaklkiagkdpimaaGreatDoor
open Go.RowKit Lin
attribute [local go_sem ↓] Go.wp_at_zero Go.wp_at_succ

/-- The three cells of a side. -/
theorem sde_cells {B g c n : Nat} {w : World} {L : List Sde} (h : w.ownsRow B 56 3 (.slice (some ⟨g, 0, none⟩) n c) n (L.flatMap encN)) (hn : n = L.length) {j : Nat} (hj : j < n) :
    w.cell? ⟨g, j * 3, none⟩ = some (.int .u64 ((L.getD j (0, 0, 1)).1 : Nat)) ∧ w.cell? ⟨g, j * 3 + 1, none⟩ = some (.int .i64 (L.getD j (0, 0, 1)).2.1) ∧ w.cell? ⟨g, j * 3 + 2, none⟩ = some (.int .i64 (L.getD j (0, 0, 1)).2.2) := by
  refine ⟨?_, ?_, ?_⟩
  · rw [h.cellAt _ (by omega), flat_getN L _ (by omega), show j * 3 / 3 = j by omega, show j * 3 % 3 = 0 by omega]; rfl
  · rw [h.cellAt _ (by omega), flat_getN L _ (by omega), show (j * 3 + 1) / 3 = j by omega, show (j * 3 + 1) % 3 = 1 by omega]; rfl
  · rw [h.cellAt _ (by omega), flat_getN L _ (by omega), show (j * 3 + 2) / 3 = j by omega, show (j * 3 + 2) % 3 = 2 by omega]; rfl

theorem sde_form {B n c : Nat} {w : World} {xo : Option Addr} {xs : List Value} (h : w.ownsRow B 56 3 (.slice xo n c) n xs) (hn : 0 < n) : ∃ g, xo = some ⟨g, 0, none⟩ ∧ B ≤ g ∧ g < w.heap.size := by
  rcases h.2 with ⟨_, h0⟩ | ⟨g, cap, cur, h1, h2, h3, _⟩
  · omega
  · simp only [Value.slice.injEq, true_and] at h1
    exact ⟨g, h1.1, h2, (Array.getElem?_eq_some_iff.1 h3).1⟩

/-- Step by step down: from any to any later one. -/
theorem chain_fall {m : List Sde} (hp : ∀ a ∈ m, 0 < a.2.2) (h : ∀ j, j + 1 < m.length → hlo (m.getD (j + 1) (0, 0, 1)) (m.getD j (0, 0, 1))) : Fall m := by
  have hg : ∀ j, j < m.length → 0 < (m.getD j (0, 0, 1)).2.2 := fun j hj => hp _ (by simp [hj])
  have key : ∀ k i, i + k + 1 < m.length → hlo (m.getD (i + k + 1) (0, 0, 1)) (m.getD i (0, 0, 1)) := by
    intro k
    induction k with
    | zero => intro i hi; exact h i hi
    | succ k ih =>
      intro i hi
      have h1 := ih i (by omega)
      have h2 := h (i + k + 1) (by omega)
      exact hlo_trans (hg _ (by omega)) (hg _ (by omega)) (hg _ (by omega)) h2 h1
  refine List.pairwise_iff_getElem.2 fun i j hi hj hij => ?_
  have := key (j - i - 1) i (by omega)
  rw [show i + (j - i - 1) + 1 = j by omega] at this
  simpa [hi, hj] using this

theorem cmpI_zero {x y : Int} : cmpI x y = 0 ↔ x = y := by
  unfold cmpI
  split
  · simp; omega
  · split <;> simp <;> omega

theorem grow_below {w : World} {q : Nat} {os : Array Obj} : Below w.heap.size w (Go.Sort.grow (w.drewN q) os) := by
  refine ⟨rfl, rfl, rfl, by simp [Go.Sort.grow, World.drewN], fun b hb => ?_⟩
  show ((w.drewN q).heap ++ os)[b]? = w.heap[b]?
  rw [Array.getElem?_append_left (by exact hb)]
  rfl

set_option maxRecDepth 100000 in
set_option maxHeartbeats 3200000 in
theorem line_any (d : Nat) (P s C : List (List Int)) (wy : List Int) (v u : Value) (w : World) (hv : Mat w.heap.size 22 3 w v P) (hu : Sl w.heap.size 3 w u (ints wy)) (hg : Good d P) (hbx : Box d 6 P) (hn : P.length ≤ 10) (hT : TabB w) (hwl : wy.length = d) (hw : ∀ z ∈ wy, z.natAbs ≤ 20)
    (hs : SAsc s) (hm : ∀ r, r ∈ s ↔ r ∈ rowsD P d) (hc : SAsc C) (hcm : ∀ y, y ∈ C ↔ y ∈ crn d s P) :
    Calls Tryz.prog 12 #[.agg #[.int .i64 d, v], u] w fun e w' => ((∃ (m' : List Sde) (xo : Option Addr) (xc : Nat), Fall m' ∧ m'.Perm (s.map (hgt d C wy)) ∧ e = .returned (.tuple #[.slice xo m'.length xc, .int .i64 0]) ∧ Mat 0 22 3 w' (.slice xo m'.length xc) (m'.map fun t => memL t.1)) ∨ (¬ Apt (s.map (hgt d C wy)) ∧ e = .returned (.tuple #[.slice none 0 0, .int .i64 8]))) ∧ Below w.heap.size w w' := by
  obtain ⟨i0, hi, hz0, hz1, hz2⟩ := info_parts Tryz.info22
  obtain ⟨po, pc, rfl, hlc, hcmx⟩ := mat_open hv
  obtain ⟨uo, uc, rfl, hlu, hcu⟩ := sl_open hu
  rw [hwl] at hu hlu ⊢
  have h1 := hg.d1
  have h4 := hg.d4
  have hnear : ∀ l : List Int, (∀ z ∈ l, z.natAbs ≤ 20) → l.any (farB · 20) = false := fun l h => List.any_eq_false.2 fun z hz => by
    have := h z hz
    simp only [farB, Bool.or_eq_true, decide_eq_true_eq]
    omega
  obtain ⟨W, hW⟩ : ∃ W, W = w.alloc (.cells #[.int .i64 d, .slice po P.length pc] 27) := ⟨_, rfl⟩
  have hbw : Below w.heap.size w W := by rw [hW]; exact alloc_keep _ _
  have HW : Hid (Below w.heap.size w W) := hbw
  have hsW : W.heap.size = w.heap.size + 1 := by rw [hW]; exact size_alloc _ _
  have c0 : W.cell? ⟨w.heap.size, 0, none⟩ = some (.int .i64 d) := by rw [hW]; simp
  have c1 : W.cell? ⟨w.heap.size, 1, none⟩ = some (.slice po P.length pc) := by rw [hW]; simp
  have HC : Hid (∀ X, Below W.heap.size W X → X.cell? ⟨w.heap.size, 0, none⟩ = some (.int .i64 d) ∧ X.cell? ⟨w.heap.size, 1, none⟩ = some (.slice po P.length pc)) := fun X h => ⟨(h.cell (lt_of_cell c0)).trans c0, (h.cell (lt_of_cell c1)).trans c1⟩
  have HM : Hid (∀ X, Below W.heap.size W X → Mat X.heap.size 22 3 X (.slice po P.length pc) P) := fun X h => (((hv.below hbw (Nat.le_refl _)).any (Nat.le_refl _)).below h (Nat.le_refl _)).any (Nat.le_refl _)
  have HU : Hid (∀ X, Below W.heap.size W X → Sl X.heap.size 3 X (.slice uo d uc) (ints wy)) := fun X h => (((hu.below hbw (Nat.le_refl _)).any (Nat.le_refl _)).below h (Nat.le_refl _)).any (Nat.le_refl _)
  have HT : Hid (∀ X, Below W.heap.size W X → TabB X) := fun X h => (hT.below hbw).below h
  have K1 : Hid (Calls Tryz.prog 23 #[.agg #[.int .i64 d, .slice po P.length pc], .slice uo d uc] W fun e w' => e = .returned (.int .i64 0) ∧ Below W.heap.size W w') := by
    refine checkWay_any d P wy _ _ W (HM.out W (Below.refl _ _)) (HU.out W (Below.refl _ _)) hg (fun r hr => hnear r fun z hz => ?_) hwl (hnear wy hw)
    have := (hbx r hr).2 z hz
    omega
  have K2 : Hid (∀ X, Below W.heap.size W X → Calls Tryz.prog 24 #[.agg #[.int .i64 d, .slice po P.length pc]] X fun e w' => ∃ co cc ro rc so sc, e = .returned (.tuple #[.agg #[.int .i64 d, .slice co C.length cc, .slice ro s.length rc, .slice so s.length sc], .int .i64 0]) ∧ (FcC d C s ∧ Mat 0 22 3 w' (.slice co C.length cc) C ∧ Mat 0 22 3 w' (.slice ro s.length rc) s ∧ Sl 0 54 w' (.slice so s.length sc) (u64s (s.map (sdN C))) ∧ C.length ≤ P.length ∧ Below W.heap.size W w')) := fun X h => by
    refine (bodyOf_any d P _ X (HM.out X h) hg (by omega)).mono ?_
    rintro e w' ⟨C2, s2, co, cc, ro, rc, so, sc, rfl, hB⟩
    have e1 := hB.doc s C hm hc hcm
    have e2 := hB.req s hs hm
    subst e1 e2
    exact ⟨co, cc, ro, rc, so, sc, rfl, hB.ok, hB.cns, hB.rows, Sl.own hB.sds, hB.len, h.trans (hB.bel.mono h.size)⟩
  have hCP : ∀ y ∈ C, y ∈ P := fun y hy => (List.mem_filter.1 ((hcm y).1 hy)).1
  have hCB : Box d 6 C := fun y hy => hbx y (hCP y hy)
  have HA : Hid (∀ r ∈ s, ∀ z ∈ r.take d, z.natAbs ≤ 10368) := fun r hr => rowsD_12 hbx h1 h4 ((hm r).1 hr)
  have K3 : Hid (∀ X co cc ro rc so sc, FcC d C s → C.length ≤ P.length → Mat X.heap.size 22 3 X (.slice co C.length cc) C → Mat X.heap.size 22 3 X (.slice ro s.length rc) s → Sl X.heap.size 54 X (.slice so s.length sc) (u64s (s.map (sdN C))) → Below W.heap.size W X →
      Calls Tryz.prog 25 #[.agg #[.int .i64 d, .slice co C.length cc, .slice ro s.length rc, .slice so s.length sc], .slice uo d uc] X fun e w' => ∃ (m' : List Sde) (xo : Option Addr) (xc : Nat), e = .returned (.slice xo m'.length xc) ∧ (m'.Perm (s.map (hgt d C wy)) ∧ (∀ i j, i < j → j < m'.length → ¬ hlo (m'.getD i (0, 0, 1)) (m'.getD j (0, 0, 1))) ∧ w'.ownsRow X.heap.size 56 3 (.slice xo m'.length xc) m'.length (m'.flatMap encN) ∧ Below X.heap.size X w')) := fun X co cc ro rc so sc hF hl q1 q2 q3 hX => by
    have hsl : s.length ≤ 1024 := by
      have h10 : C.length ≤ 10 := by omega
      have hlt10 : ∀ t ∈ s.map (sdN C), t < 1024 := fun t ht => by
        obtain ⟨r, _, rfl⟩ := List.mem_map.1 ht
        exact Nat.lt_of_lt_of_le (sdTo_lt C r C.length) (Nat.le_trans (Nat.pow_le_pow_right (by decide) h10) (by decide))
      have := nodup_len (s.map (sdN C)) (List.range 1024) hF.nod fun x hx => List.mem_range.2 (hlt10 x hx)
      simpa using this
    refine (ordered_any d C s wy co cc ro rc so sc uo uc X q1 q2 q3 (HU.out X hX) h1 h4 hCB (by omega) hwl hw (fun r hr => (hF.len hr).len) HA.out (fun r hr => row_last hF.g hCB ((hF.rows r).1 hr) (HA.out r hr)) (fun r hr => hgt_pos hF wy hr) (by omega)).mono ?_
    rintro e w' ⟨m', xo, xc, rfl, r1, r2, r3, r4⟩
    exact ⟨m', xo, xc, rfl, r1, r2, r3, r4⟩
  have HPB : Hid (∀ m' : List Sde, FcC d C s → C.length ≤ P.length → m'.Perm (s.map (hgt d C wy)) → m'.length ≤ 5000 ∧ ∀ t ∈ m', (1 ≤ t.2.2 ∧ t.2.2 ≤ 5000000) ∧ (-1000000 ≤ t.2.1 ∧ t.2.1 ≤ 1000000) ∧ t.1 < 1024) := fun m' hF hl hp => by
    have h10 : C.length ≤ 10 := by omega
    refine ⟨?_, fun t ht => ?_⟩
    · have hlt10 : ∀ t ∈ s.map (sdN C), t < 1024 := fun t ht => by
        obtain ⟨r, _, rfl⟩ := List.mem_map.1 ht
        exact Nat.lt_of_lt_of_le (sdTo_lt C r C.length) (Nat.le_trans (Nat.pow_le_pow_right (by decide) h10) (by decide))
      have := nodup_len (s.map (sdN C)) (List.range 1024) hF.nod fun x hx => List.mem_range.2 (hlt10 x hx)
      have h2 := hp.length_eq
      simp at this h2
      omega
    · obtain ⟨r, hr, rfl⟩ := List.mem_map.1 (hp.mem_iff.1 ht)
      have p1 := hgt_pos hF wy hr
      obtain ⟨p2, p3, p4⟩ := hgt_bd h4 hCB h10 hw (HA.out r hr) (row_last hF.g hCB ((hF.rows r).1 hr) (HA.out r hr))
      have p5 : (hgt d C wy r).2.1 = dotL (r.take d) wy := rfl
      have p6 : (hgt d C wy r).2.2 = r.getD d 0 * C.length - dotL (r.take d) (midL d C C.length) := rfl
      have p7 : (hgt d C wy r).1 < 1024 := Nat.lt_of_lt_of_le (sdTo_lt C r C.length) (Nat.le_trans (Nat.pow_le_pow_right (by decide) h10) (by decide))
      refine ⟨?_, ?_, p7⟩ <;> omega
  clear hv hu hg hbx hT hbw c0 c1 hw hs hm hc hcm hCP hCB hnear
  go_enter Tryz.func12, Tryz.ntmps12
  obtain ⟨e0, e1⟩ := HC.out W (Below.refl _ _)
  go_wp2_with fail
  rw [← hW]
  clear hW
  refine K1.out.mono ?_
  rintro e w1 ⟨rfl, hb1⟩
  have HB1 : Hid (Below W.heap.size W w1) := hb1
  clear hb1 e0 e1 K1
  obtain ⟨e0, e1⟩ := HC.out w1 HB1.out
  go_wp2_with fail
  refine (K2.out _ HB1.out).mono ?_
  rintro e w2 ⟨co, cc, ro, rc, so, sc, rfl, hF, q1, q2, q3, hCl, hb2⟩
  have HF : Hid (FcC d C s) := hF
  have HCl : Hid (C.length ≤ P.length) := hCl
  obtain ⟨W3, hW3⟩ : ∃ W3, W3 = w2.alloc (.cells #[.int .i64 d, .slice co C.length cc, .slice ro s.length rc, .slice so s.length sc] 48) := ⟨_, rfl⟩
  have hb3 : Below w2.heap.size w2 W3 := by rw [hW3]; exact alloc_keep _ _
  have HOR := K3.out W3 co cc ro rc so sc hF hCl ((q1.below hb3 (Nat.le_refl _)).more (Nat.zero_le _)) ((q2.below hb3 (Nat.le_refl _)).more (Nat.zero_le _)) ((q3.below hb3 (Nat.le_refl _)).more (Nat.zero_le _)) (hb2.trans (hb3.mono hb2.size))
  have HB3 : Hid (Below W.heap.size W W3) := hb2.trans (hb3.mono hb2.size)
  rw [hW3] at HOR
  rw [hW3] at HB3
  clear hF q1 q2 q3 hCl hb2 hb3 e0 e1 K2 K3 hW3 W3
  go_wp2_with fail
  refine HOR.mono ?_
  rintro e w4 ⟨m, xo, xc, rfl, hp, hso, ho, hb4⟩
  have HPM : Hid (m.Perm (s.map (hgt d C wy))) := hp
  have HSO : Hid (∀ i j, i < j → j < m.length → ¬ hlo (m.getD i (0, 0, 1)) (m.getD j (0, 0, 1))) := hso
  have HB4 : Hid (Below w.heap.size w w4) := (HW.out.trans (HB3.out.mono HW.out.size)).trans (hb4.mono (Nat.le_trans HW.out.size HB3.out.size))
  have HT4 : Hid (∀ X, Below w4.heap.size w4 X → TabB X) := fun X h => HT.out X ((HB3.out.trans (hb4.mono HB3.out.size)).trans (h.mono (Nat.le_trans HB3.out.size hb4.size)))
  obtain ⟨hml, hmb⟩ := HPB.out m HF.out HCl.out hp
  have HMB : Hid (∀ t ∈ m, (1 ≤ t.2.2 ∧ t.2.2 ≤ 5000000) ∧ (-1000000 ≤ t.2.1 ∧ t.2.1 ≤ 1000000) ∧ t.1 < 1024) := hmb
  have HCE : Hid (∀ X j, Below w4.heap.size w4 X → j < m.length → ∃ g, xo = some ⟨g, 0, none⟩ ∧ X.cell? ⟨g, j * 3, none⟩ = some (.int .u64 ((m.getD j (0, 0, 1)).1 : Nat)) ∧ X.cell? ⟨g, j * 3 + 1, none⟩ = some (.int .i64 (m.getD j (0, 0, 1)).2.1) ∧ X.cell? ⟨g, j * 3 + 2, none⟩ = some (.int .i64 (m.getD j (0, 0, 1)).2.2)) := fun X j h hj => by
    obtain ⟨g, rfl, _, _⟩ := sde_form ho (by omega)
    obtain ⟨d1, d2, d3⟩ := sde_cells ho rfl hj
    exact ⟨g, rfl, (h.cell (lt_of_cell d1)).trans d1, (h.cell (lt_of_cell d2)).trans d2, (h.cell (lt_of_cell d3)).trans d3⟩
  have HLI : Hid (∀ X j, Below w4.heap.size w4 X → j < m.length → Calls Tryz.prog 27 #[.int .u64 ((m.getD j (0, 0, 1)).1 : Nat)] X fun e w' => ∃ zo zc, e = .returned (.slice zo (memL (m.getD j (0, 0, 1)).1).length zc) ∧ Sl 0 3 w' (.slice zo (memL (m.getD j (0, 0, 1)).1).length zc) (ints (memL (m.getD j (0, 0, 1)).1)) ∧ Below X.heap.size X w') := fun X j h hj => by
    refine (list10_any (m.getD j (0, 0, 1)).1 (HMB.out _ (by simp [hj])).2.2 X (HT4.out X h)).mono ?_
    rintro e w' ⟨u, rfl, h1, h2⟩
    obtain ⟨uo, uc, rfl⟩ := owns_form h1
    exact ⟨uo, uc, rfl, Sl.own h1, h2⟩
  have HHI : Hid (∀ X i, i + 1 < m.length → Calls Tryz.prog 26 #[.agg #[.int .u64 ((m.getD (i + 1) (0, 0, 1)).1 : Nat), .int .i64 (m.getD (i + 1) (0, 0, 1)).2.1, .int .i64 (m.getD (i + 1) (0, 0, 1)).2.2], .agg #[.int .u64 ((m.getD i (0, 0, 1)).1 : Nat), .int .i64 (m.getD i (0, 0, 1)).2.1, .int .i64 (m.getD i (0, 0, 1)).2.2]] X fun e w' => ∃ z, e = .returned (.int .i64 z) ∧ ((z = 0 ↔ heq (m.getD (i + 1) (0, 0, 1)) (m.getD i (0, 0, 1))) ∧ Below X.heap.size X w')) := fun X i hi => by
    have b1 := HMB.out (m.getD (i + 1) (0, 0, 1)) (by simp [hi])
    have b2 := HMB.out (m.getD i (0, 0, 1)) (by simp [show i < m.length by omega])
    refine (higher_any _ _ _ _ _ _ X b1.1 b1.2.1 b2.1 b2.2.1).mono ?_
    rintro e w' ⟨rfl, q, os', rfl⟩
    exact ⟨_, rfl, cmpI_zero, grow_below⟩
  have HNA : Hid (∀ i, i + 1 < m.length → heq (m.getD (i + 1) (0, 0, 1)) (m.getD i (0, 0, 1)) → ¬ Apt (s.map (hgt d C wy))) := fun i hi he hA => not_apt (show i < i + 1 by omega) hi he.symm (hA.perm HPM.out)
  have HLO : Hid (∀ i, i + 1 < m.length → ¬ heq (m.getD (i + 1) (0, 0, 1)) (m.getD i (0, 0, 1)) → hlo (m.getD (i + 1) (0, 0, 1)) (m.getD i (0, 0, 1))) := fun i hi he => by
    rcases hlo_tri (m.getD (i + 1) (0, 0, 1)) (m.getD i (0, 0, 1)) with h | h | h
    · exact h
    · exact absurd h he
    · exact absurd h (HSO.out i (i + 1) (by omega) hi)
  have HFI : Hid ((∀ j, j + 1 < m.length → hlo (m.getD (j + 1) (0, 0, 1)) (m.getD j (0, 0, 1))) → Fall m) := fun h => chain_fall (fun a ha => by have := (HMB.out a ha).1; omega) h
  clear hp hso ho hb4 hmb HB3 HC HM HU HT HOR HPB HSO
  go_wp2
  go_loopw [10, 32] (fun x iv wr => ∃ i : Nat, i ≤ m.length ∧ iv = .int .i64 (i : Int) ∧ Fr w4.heap.size 22 3 wr x ((m.take i).map fun t => memL t.1) ∧ Below w4.heap.size w4 wr ∧ ∀ j, j + 1 < i → hlo (m.getD (j + 1) (0, 0, 1)) (m.getD j (0, 0, 1))) (fun _ iv _ => m.length - (intOf iv).toNat)
  case atStart => exact ⟨0, Nat.zero_le _, rfl, Fr.nil _ _ _ _, Below.refl _ _, fun j h => absurd h (by omega)⟩
  case round =>
    obtain ⟨i, hi', rfl, hfr, hbr, hch⟩ := hrel
    have HBR : Hid (Below w4.heap.size w4 wr) := hbr
    have HCH : Hid (∀ j, j + 1 < i → hlo (m.getD (j + 1) (0, 0, 1)) (m.getD j (0, 0, 1))) := hch
    have HFR : Hid (Fr w4.heap.size 22 3 wr u10 ((m.take i).map fun t => memL t.1)) := hfr
    clear hfr hbr hch
    by_cases hlt : i < m.length
    · obtain ⟨g, hxo, d1, d2, d3⟩ := HCE.out wr i HBR.out hlt
      have HL : Hid (∀ X, Below w4.heap.size w4 X → Calls Tryz.prog 27 #[.int .u64 ((m.getD i (0, 0, 1)).1 : Nat)] X fun e w' => ∃ zo zc, e = .returned (.slice zo (memL (m.getD i (0, 0, 1)).1).length zc) ∧ Sl 0 3 w' (.slice zo (memL (m.getD i (0, 0, 1)).1).length zc) (ints (memL (m.getD i (0, 0, 1)).1)) ∧ Below X.heap.size X w') := fun X h => HLI.out X i h hlt
      have HTL : Hid (((m.take i).map fun t => memL t.1).length = i) := by show _ = _; simp; omega
      have HTS : Hid (((m.take (i + 1)).map fun t => memL t.1) = ((m.take i).map fun t => memL t.1) ++ [memL (m.getD i (0, 0, 1)).1]) := by
        show _ = _
        rw [List.take_succ_eq_append_getElem hlt, List.map_append]
        simp [hlt]
      have HSL : Hid ((memL (m.getD i (0, 0, 1)).1).length ≤ 64) := memTo_len _ 64
      have hiI : (i : Int) < (m.length : Int) := by omega
      obtain ⟨WB, hWB⟩ : ∃ WB, WB = wr.alloc (.cells #[.int .u64 ((m.getD i (0, 0, 1)).1 : Nat), .int .i64 (m.getD i (0, 0, 1)).2.1, .int .i64 (m.getD i (0, 0, 1)).2.2] 56) := ⟨_, rfl⟩
      have hbb : Below wr.heap.size wr WB := by rw [hWB]; exact alloc_keep _ _
      have hBB : WB.heap[wr.heap.size]? = some (.cells #[.int .u64 ((m.getD i (0, 0, 1)).1 : Nat), .int .i64 (m.getD i (0, 0, 1)).2.1, .int .i64 (m.getD i (0, 0, 1)).2.2] 56 (0, 0)) := by rw [hWB]; exact alloc_at _ _
      have hBs : wr.heap.size < WB.heap.size := lt_of_block hBB
      subst hxo
      obtain ⟨u10o, u10c, hu10⟩ : ∃ o c, u10 = .slice o i c := by
        have h := fr_mat0F HFR.out
        obtain ⟨o, c, h, _, _⟩ := mat_open h
        rw [HTL.out] at h
        exact ⟨o, c, h⟩
      subst hu10
      rcases Nat.eq_zero_or_pos i with hz | hz
      · have HBX : Hid (∀ X, Below wr.heap.size wr X ∧ Below WB.heap.size WB X → X.cell? ⟨wr.heap.size, 0, none⟩ = some (.int .u64 ((m.getD i (0, 0, 1)).1 : Nat)) ∧ True) := fun X h => by
          have := (h.2.block _ hBs).trans hBB
          simp [World.cell?, this]
        have RCH : Hid (∀ j, j + 1 < i + 1 → hlo (m.getD (j + 1) (0, 0, 1)) (m.getD j (0, 0, 1))) := fun j h => absurd h (by omega)
        have t1 : decide ((0 : Int) < (i : Int)) = false := by simp [hz]
        have HZ : Hid (i = 0) := hz
        clear hz
        have HBB : Hid (Below wr.heap.size wr WB) := hbb
        generalize (m.getD i (0, 0, 1)).1 = sa at *
        generalize (m.getD i (0, 0, 1)).2.1 = sb at *
        generalize (m.getD i (0, 0, 1)).2.2 = sc' at *
        clear HCE HLI HHI HNA HLO hBB hbb
        go_upto_region 12 with fail
        rw [← hWB]
        refine wp_region_held_drew (S := fun _ => True) (by kernel_rfl) trivial (fun hHeld => ?_)
        clear d1 d2 d3 hWB
        have hz := HZ.out
        refine wpAnyH_tk (i := 0) (d := 37) (v := .int .i64 (i : Int)) rfl rfl (by kernel_rfl) (by kernel_rfl) (by kernel_rfl) (fun _ _ _ h => h) (.inl ⟨by rfl, by (intro wq hSw; (try dsimp only at hSw); go_simp; (try (first | rfl | omega)))⟩) hHeld ?_
        simp only [Act.put, List.setIfInBounds_toArray, List.set_cons_zero, List.set_cons_succ]
        refine wpAnyH_tk (i := 1) (d := 38) (v := .bool false) rfl rfl (by kernel_rfl) (by kernel_rfl) (by kernel_rfl) (fun _ _ _ h => h) (.inl ⟨by rfl, by (intro wq hSw; (try dsimp only at hSw); go_simp; (try (first | rfl | omega)))⟩) hHeld ?_
        simp only [Act.put, List.setIfInBounds_toArray, List.set_cons_zero, List.set_cons_succ]
        refine wpAnyH_tk (i := 2) (d := 39) (v := .bool false) rfl rfl (by kernel_rfl) (by kernel_rfl) (by kernel_rfl) (fun _ _ _ h => h) (.inl ⟨by rfl, by (intro wq hSw; (try dsimp only at hSw); go_simp; (try (first | rfl | omega)))⟩) hHeld ?_
        simp only [Act.put, List.setIfInBounds_toArray, List.set_cons_zero, List.set_cons_succ]
        refine wpAnyH_tk (i := 3) (d := 40) (v := undef) rfl rfl (by kernel_rfl) (by kernel_rfl) (by kernel_rfl) (fun _ _ _ h => h) (.inr ⟨by rfl, rfl⟩) hHeld ?_
        simp only [Act.put, List.setIfInBounds_toArray, List.set_cons_zero, List.set_cons_succ]
        refine wpAnyH_tk (i := 4) (d := 41) (v := undef) rfl rfl (by kernel_rfl) (by kernel_rfl) (by kernel_rfl) (fun _ _ _ h => h) (.inr ⟨by rfl, rfl⟩) hHeld ?_
        simp only [Act.put, List.setIfInBounds_toArray, List.set_cons_zero, List.set_cons_succ]
        refine wpAnyH_tk (i := 5) (d := 42) (v := undef) rfl rfl (by kernel_rfl) (by kernel_rfl) (by kernel_rfl) (fun _ _ _ h => h) (.inr ⟨by rfl, rfl⟩) hHeld ?_
        simp only [Act.put, List.setIfInBounds_toArray, List.set_cons_zero, List.set_cons_succ]
        refine wpAnyH_tk (i := 6) (d := 43) (v := undef) rfl rfl (by kernel_rfl) (by kernel_rfl) (by kernel_rfl) (fun _ _ _ h => h) (.inr ⟨by rfl, rfl⟩) hHeld ?_
        simp only [Act.put, List.setIfInBounds_toArray, List.set_cons_zero, List.set_cons_succ]
        refine wpAnyH_tk (i := 7) (d := 44) (v := undef) rfl rfl (by kernel_rfl) (by kernel_rfl) (by kernel_rfl) (fun _ _ _ h => h) (.inr ⟨by rfl, rfl⟩) hHeld ?_
        simp only [Act.put, List.setIfInBounds_toArray, List.set_cons_zero, List.set_cons_succ]
        refine wpAnyH_tk (i := 8) (d := 45) (v := undef) rfl rfl (by kernel_rfl) (by kernel_rfl) (by kernel_rfl) (fun _ _ _ h => h) (.inr ⟨by rfl, rfl⟩) hHeld ?_
        simp only [Act.put, List.setIfInBounds_toArray, List.set_cons_zero, List.set_cons_succ]
        refine wpAnyH_tk (i := 9) (d := 46) (v := undef) rfl rfl (by kernel_rfl) (by kernel_rfl) (by kernel_rfl) (fun _ _ _ h => h) (.inr ⟨by rfl, rfl⟩) hHeld ?_
        simp only [Act.put, List.setIfInBounds_toArray, List.set_cons_zero, List.set_cons_succ]
        refine wpAnyH_tk (i := 10) (d := 47) (v := undef) rfl rfl (by kernel_rfl) (by kernel_rfl) (by kernel_rfl) (fun _ _ _ h => h) (.inr ⟨by rfl, rfl⟩) hHeld ?_
        simp only [Act.put, List.setIfInBounds_toArray, List.set_cons_zero, List.set_cons_succ]
        refine wpAnyH_tk (i := 11) (d := 48) (v := .bool false) rfl rfl (by kernel_rfl) (by kernel_rfl) (by kernel_rfl) (fun _ _ _ h => h) (.inl ⟨by rfl, by (intro wq hSw; (try dsimp only at hSw); go_simp; (try (first | rfl | omega)))⟩) hHeld ?_
        simp only [Act.put, List.setIfInBounds_toArray, List.set_cons_zero, List.set_cons_succ]
        refine wpAnyH_done (by kernel_rfl) ?_ _
        clear hHeld hz
        obtain ⟨WH, hWH⟩ : ∃ WH, WH = WB.drew := ⟨_, rfl⟩
        rw [← hWH]
        have HBH : Hid (Below wr.heap.size wr WH) := by rw [hWH]; exact HBB.out.drew
        have HBW : Hid (Below WB.heap.size WB WH) := by rw [hWH]; exact (Below.refl _ _).drew
        clear hWH
        obtain ⟨y0, y1⟩ := HBX.out WH ⟨HBH.out, HBW.out⟩
        go_wp2_with fail
        refine (HL.out WH (HBR.out.trans (HBH.out.mono HBR.out.size))).mono ?_
        rintro e w6 ⟨zo, zc, rfl, hz6, hb6⟩
        have HB6 : Hid (Below wr.heap.size wr w6) := HBH.out.trans (hb6.mono HBH.out.size)
        have HZ6 : Hid (Sl 0 3 w6 (.slice zo (memL sa).length zc) (ints (memL sa))) := hz6
        obtain ⟨vs, g1, g2, g3⟩ := HFR.out.below HB6.out (Nat.le_refl _)
        rw [HTL.out] at g1 g2 g3
        have G1 : Hid (vs.length = i) := g1
        have G2 : Hid (w6.ownsRow w4.heap.size 22 1 (.slice u10o i u10c) i vs) := g2
        have G3 : Hid (∀ j, j < i → Sl 0 3 w6 (vs.getD j (.slice none 0 0)) (ints (((m.take i).map fun t => memL t.1).getD j []))) := g3
        have hsz6 : w4.heap.size ≤ w6.heap.size := Nat.le_trans HBR.out.size HB6.out.size
        clear g1 g2 g3 hz6 hb6 y0 y1
        generalize hzl : (memL sa).length = zl at *
        go_wp2_with (first | (at_builtin; refine wpList_append_own _ rfl _ _ 25 rfl w4.heap.size 22 i0 (.slice none 0 0) 1 24 Tryz.underlying25 hi hz0 hz1 hz2 rfl (by decide) _ _ _ rfl (G2.out.alloc _) ⟨w6.heap.size, 0, none⟩ 1 1 [.slice zo zl zc] rfl rfl (one_new _ _ _) (one_slice _ _ _) ?d3 ?d4 ?d5 ?_))
        case d3 => unfold maxLen; omega
        case d4 => omega
        case d5 => first | exact hsz6 | omega | (simp; omega)
        intro v' w7 ho7 hg7 _
        have R1 : Hid (Fr w4.heap.size 22 3 w7 v' ((m.take (i + 1)).map fun t => memL t.1)) := by
          have hp := Fr.push (e2 := 22) (e1 := 3) (m := (m.take i).map fun t => memL t.1) (u := .slice zo zl zc) (zs := memL sa) (by decide) (by rw [HTL.out]; exact G1.out) (by rw [HTL.out]; exact G2.out.alloc _)
            (fun j hj => (G3.out j (by rw [HTL.out] at hj; exact hj)).alloc _) (HZ6.out.alloc _) (by rw [HTL.out]; exact ho7) hg7
          rw [← HTS.out] at hp
          exact hp
        have R2 : Hid (Below w4.heap.size w4 w7) := ((HBR.out.trans (HB6.out.mono HBR.out.size)).alloc hsz6 _).grown hg7 (by simp; omega) (fun x hx => (G2.out.lt x hx).1)
        clear ho7 hg7
        go_wp2
        go_roundw
        case rel => exact ⟨i + 1, by omega, by go_num, R1.out, R2.out, RCH.out⟩
        case measure => simp [intOf]; omega
      · obtain ⟨ip, rfl⟩ : ∃ ip, i = ip + 1 := ⟨i - 1, by omega⟩
        obtain ⟨g', hxo', p1, p2, p3⟩ := HCE.out wr ip HBR.out (by omega)
        simp only [Option.some.injEq, Addr.mk.injEq, and_true] at hxo'
        subst hxo'
        have hcb : ∀ X, Below WB.heap.size WB X → X.cell? ⟨wr.heap.size, 0, none⟩ = some (.int .u64 ((m.getD (ip + 1) (0, 0, 1)).1 : Nat)) ∧ X.cell? ⟨wr.heap.size, 1, none⟩ = some (.int .i64 (m.getD (ip + 1) (0, 0, 1)).2.1) ∧ X.cell? ⟨wr.heap.size, 2, none⟩ = some (.int .i64 (m.getD (ip + 1) (0, 0, 1)).2.2) := fun X h => by
          have := (h.block _ hBs).trans hBB
          simp [World.cell?, this]
        have HBX : Hid (∀ X, Below wr.heap.size wr X ∧ Below WB.heap.size WB X → X.cell? ⟨wr.heap.size, 0, none⟩ = some (.int .u64 ((m.getD (ip + 1) (0, 0, 1)).1 : Nat)) ∧ True) := fun X h => ⟨(hcb X h.2).1, trivial⟩
        have HSS : Hid (∀ X, Below WB.heap.size WB X → X.cell? ⟨wr.heap.size, 0, none⟩ = some (.int .u64 ((m.getD (ip + 1) (0, 0, 1)).1 : Nat)) ∧ X.cell? ⟨wr.heap.size, 1, none⟩ = some (.int .i64 (m.getD (ip + 1) (0, 0, 1)).2.1) ∧ X.cell? ⟨wr.heap.size, 2, none⟩ = some (.int .i64 (m.getD (ip + 1) (0, 0, 1)).2.2) ∧ X.cell? ⟨g, ip * 3, none⟩ = some (.int .u64 ((m.getD ip (0, 0, 1)).1 : Nat)) ∧ X.cell? ⟨g, ip * 3 + 1, none⟩ = some (.int .i64 (m.getD ip (0, 0, 1)).2.1) ∧ X.cell? ⟨g, ip * 3 + 2, none⟩ = some (.int .i64 (m.getD ip (0, 0, 1)).2.2)) := fun X h => by
          obtain ⟨q1, q2, q3⟩ := hcb X h
          have h2 : Below wr.heap.size wr X := hbb.trans (h.mono (Nat.le_of_lt hBs))
          exact ⟨q1, q2, q3, (h2.cell (lt_of_cell p1)).trans p1, (h2.cell (lt_of_cell p2)).trans p2, (h2.cell (lt_of_cell p3)).trans p3⟩
        have HHX : Hid (∀ X, Calls Tryz.prog 26 #[.agg #[.int .u64 ((m.getD (ip + 1) (0, 0, 1)).1 : Nat), .int .i64 (m.getD (ip + 1) (0, 0, 1)).2.1, .int .i64 (m.getD (ip + 1) (0, 0, 1)).2.2], .agg #[.int .u64 ((m.getD ip (0, 0, 1)).1 : Nat), .int .i64 (m.getD ip (0, 0, 1)).2.1, .int .i64 (m.getD ip (0, 0, 1)).2.2]] X fun e w' => ∃ z, e = .returned (.int .i64 z) ∧ ((z = 0 ↔ heq (m.getD (ip + 1) (0, 0, 1)) (m.getD ip (0, 0, 1))) ∧ Below X.heap.size X w')) := fun X => HHI.out X ip hlt
        have HNX : Hid (heq (m.getD (ip + 1) (0, 0, 1)) (m.getD ip (0, 0, 1)) → ¬ Apt (s.map (hgt d C wy))) := HNA.out ip hlt
        have HRC : Hid (¬ heq (m.getD (ip + 1) (0, 0, 1)) (m.getD ip (0, 0, 1)) → ∀ j, j + 1 < ip + 1 + 1 → hlo (m.getD (j + 1) (0, 0, 1)) (m.getD j (0, 0, 1))) := fun he j h => by
          by_cases e : j = ip
          · subst e; exact HLO.out j hlt he
          · exact HCH.out j (by omega)
        have t1 : decide ((0 : Int) < ((ip + 1 : Nat) : Int)) = true := by simp
        have hsb : ((ip + 1 : Nat) : Int) - 1 = (ip : Int) := by omega
        have hwp : IntKind.wrap .i64 (ip : Int) = (ip : Int) := by rw [IntKind.wrap_i64]; omega
        have hipI : (ip : Int) < (m.length : Int) := by omega
        have HBB : Hid (Below wr.heap.size wr WB) := hbb
        obtain ⟨hq, hhq⟩ : ∃ hq : Prop, hq = heq (m.getD (ip + 1) (0, 0, 1)) (m.getD ip (0, 0, 1)) := ⟨_, rfl⟩
        rw [← hhq] at HHX HNX HRC
        have S0 := HSS.out WB.drew (Below.refl _ _).drew
        generalize (m.getD (ip + 1) (0, 0, 1)).1 = sa at *
        generalize (m.getD (ip + 1) (0, 0, 1)).2.1 = sb at *
        generalize (m.getD (ip + 1) (0, 0, 1)).2.2 = sc' at *
        generalize (m.getD ip (0, 0, 1)).1 = pa at *
        generalize (m.getD ip (0, 0, 1)).2.1 = pb at *
        generalize (m.getD ip (0, 0, 1)).2.2 = pc' at *
        clear HCE HLI HHI HNA HLO hBB hbb p1 p2 p3 hcb hhq
        go_upto_region 12 with fail
        rw [← hWB]
        refine wp_region_held_drew (S := fun X => X.cell? ⟨wr.heap.size, 0, none⟩ = some (.int .u64 (sa : Nat)) ∧ X.cell? ⟨wr.heap.size, 1, none⟩ = some (.int .i64 sb) ∧ X.cell? ⟨wr.heap.size, 2, none⟩ = some (.int .i64 sc') ∧ X.cell? ⟨g, ip * 3, none⟩ = some (.int .u64 (pa : Nat)) ∧ X.cell? ⟨g, ip * 3 + 1, none⟩ = some (.int .i64 pb) ∧ X.cell? ⟨g, ip * 3 + 2, none⟩ = some (.int .i64 pc')) (by kernel_rfl) S0 (fun hHeld => ?_)
        clear d1 d2 d3 hWB S0
        refine wpAnyH_tk (i := 0) (d := 37) (v := .int .i64 ((ip + 1 : Nat) : Int)) rfl rfl (by kernel_rfl) (by kernel_rfl) (by kernel_rfl) (fun _ _ _ h => h) (.inl ⟨by rfl, by (intro wq hSw; (try dsimp only at hSw); go_simp; (try (first | rfl | omega)))⟩) hHeld ?_
        simp only [Act.put, List.setIfInBounds_toArray, List.set_cons_zero, List.set_cons_succ]
        refine wpAnyH_tk (i := 1) (d := 38) (v := .bool true) rfl rfl (by kernel_rfl) (by kernel_rfl) (by kernel_rfl) (fun _ _ _ h => h) (.inl ⟨by rfl, by (intro wq hSw; (try dsimp only at hSw); go_simp; (try (first | rfl | omega)))⟩) hHeld ?_
        simp only [Act.put, List.setIfInBounds_toArray, List.set_cons_zero, List.set_cons_succ]
        refine wpAnyH_tk (i := 2) (d := 39) (v := .bool true) rfl rfl (by kernel_rfl) (by kernel_rfl) (by kernel_rfl) (fun _ _ _ h => h) (.inl ⟨by rfl, by (intro wq hSw; (try dsimp only at hSw); go_simp; (try (first | rfl | omega)))⟩) hHeld ?_
        simp only [Act.put, List.setIfInBounds_toArray, List.set_cons_zero, List.set_cons_succ]
        refine wpAnyH_tk (i := 3) (d := 40) (v := .agg #[.int .u64 (sa : Nat), .int .i64 sb, .int .i64 sc']) rfl rfl (by kernel_rfl) (by kernel_rfl) (by kernel_rfl) (fun _ _ _ h => h) (.inl ⟨by rfl, by (intro wq hSw; (try dsimp only at hSw); go_simp; (try (first | rfl | omega)))⟩) hHeld ?_
        simp only [Act.put, List.setIfInBounds_toArray, List.set_cons_zero, List.set_cons_succ]
        refine wpAnyH_tk (i := 4) (d := 41) (v := .slice (some ⟨g, 0, none⟩) m.length xc) rfl rfl (by kernel_rfl) (by kernel_rfl) (by kernel_rfl) (fun _ _ _ h => h) (.inl ⟨by rfl, by (intro wq hSw; (try dsimp only at hSw); go_simp; (try (first | rfl | omega)))⟩) hHeld ?_
        simp only [Act.put, List.setIfInBounds_toArray, List.set_cons_zero, List.set_cons_succ]
        refine wpAnyH_tk (i := 5) (d := 42) (v := .int .i64 ((ip + 1 : Nat) : Int)) rfl rfl (by kernel_rfl) (by kernel_rfl) (by kernel_rfl) (fun _ _ _ h => h) (.inl ⟨by rfl, by (intro wq hSw; (try dsimp only at hSw); go_simp; (try (first | rfl | omega)))⟩) hHeld ?_
        simp only [Act.put, List.setIfInBounds_toArray, List.set_cons_zero, List.set_cons_succ]
        refine wpAnyH_tk (i := 6) (d := 43) (v := .int .i64 (ip : Int)) rfl rfl (by kernel_rfl) (by kernel_rfl) (by kernel_rfl) (fun _ _ _ h => h) (.inl ⟨by rfl, by (intro wq hSw; (try dsimp only at hSw); go_simp; (try (first | rfl | omega)))⟩) hHeld ?_
        simp only [Act.put, List.setIfInBounds_toArray, List.set_cons_zero, List.set_cons_succ]
        refine wpAnyH_tk (i := 7) (d := 44) (v := .pointer (some ⟨g, ip * 3, none⟩)) rfl rfl (by kernel_rfl) (by kernel_rfl) (by kernel_rfl) (fun _ _ _ h => h) (.inl ⟨by rfl, by (intro wq hSw; (try dsimp only at hSw); go_simp; (try (first | rfl | omega)))⟩) hHeld ?_
        simp only [Act.put, List.setIfInBounds_toArray, List.set_cons_zero, List.set_cons_succ]
        refine wpAnyH_tk (i := 8) (d := 45) (v := .agg #[.int .u64 (pa : Nat), .int .i64 pb, .int .i64 pc']) rfl rfl (by kernel_rfl) (by kernel_rfl) (by kernel_rfl) (fun _ _ _ h => h) (.inl ⟨by rfl, by (intro wq hSw; (try dsimp only at hSw); go_simp; (try (first | rfl | omega)))⟩) hHeld ?_
        simp only [Act.put, List.setIfInBounds_toArray, List.set_cons_zero, List.set_cons_succ]
        refine wpAnyH_ready (rs := [9]) (by kernel_rfl) (by simp) ?_
        refine ready_tk (i := 9) rfl (by rfl) (fun K hK => ?_) AllReadyH.nil
        go_simp
        refine (HHX.out WB.drew).mono ?_
        rintro e wh ⟨z, rfl, hzq, hbh⟩
        have HZQ : Hid (z = 0 ↔ hq) := hzq
        have HBH : Hid (Below wr.heap.size wr wh) := HBB.out.drew.trans (hbh.mono (by exact Nat.le_of_lt hBs))
        have HBW : Hid (Below WB.heap.size WB wh) := (Below.refl _ _).drew.trans hbh
        refine hK.out _ _ (HSS.out wh HBW.out) (fun hHeld => ?_)
        clear hK K hzq hbh
        try simp only [Act.put, List.setIfInBounds_toArray, List.set_cons_zero, List.set_cons_succ]
        refine wpAnyH_tk (i := 10) (d := 47) (v := .bool (z == 0)) rfl rfl (by kernel_rfl) (by kernel_rfl) (by kernel_rfl) (fun _ _ _ h => h) (.inl ⟨by rfl, by (intro wq hSw; (try dsimp only at hSw); go_simp; (try (first | rfl | omega)))⟩) hHeld ?_
        simp only [Act.put, List.setIfInBounds_toArray, List.set_cons_zero, List.set_cons_succ]
        refine wpAnyH_tk (i := 11) (d := 48) (v := .bool (z == 0)) rfl rfl (by kernel_rfl) (by kernel_rfl) (by kernel_rfl) (fun _ _ _ h => h) (.inl ⟨by rfl, by (intro wq hSw; (try dsimp only at hSw); go_simp; (try (first | rfl | omega)))⟩) hHeld ?_
        simp only [Act.put, List.setIfInBounds_toArray, List.set_cons_zero, List.set_cons_succ]
        refine wpAnyH_done (by kernel_rfl) ?_ _
        clear hHeld HSS HHX
        by_cases hzz : z = 0
        · have tz : (z == 0) = true := by simp [hzz]
          have HNO : Hid (¬ Apt (s.map (hgt d C wy))) := HNX.out (HZQ.out.1 hzz)
          have HBE : Hid (Below w.heap.size w wh) := HB4.out.trans ((HBR.out.trans (HBH.out.mono HBR.out.size)).mono HB4.out.size)
          go_wp2
          go_ret2
          exact ⟨Or.inr ⟨HNO.out, rfl⟩, HBE.out⟩
        · have tz : (z == 0) = false := by simp [hzz]
          have RCH : Hid (∀ j, j + 1 < ip + 1 + 1 → hlo (m.getD (j + 1) (0, 0, 1)) (m.getD j (0, 0, 1))) := HRC.out fun h => hzz (HZQ.out.2 h)
          obtain ⟨WH, hWH⟩ : ∃ WH, WH = wh := ⟨_, rfl⟩
          rw [← hWH] at HBH HBW ⊢
          clear hWH HZQ
          obtain ⟨y0, y1⟩ := HBX.out WH ⟨HBH.out, HBW.out⟩
          go_wp2_with fail
          refine (HL.out WH (HBR.out.trans (HBH.out.mono HBR.out.size))).mono ?_
          rintro e w6 ⟨zo, zc, rfl, hz6, hb6⟩
          have HB6 : Hid (Below wr.heap.size wr w6) := HBH.out.trans (hb6.mono HBH.out.size)
          have HZ6 : Hid (Sl 0 3 w6 (.slice zo (memL sa).length zc) (ints (memL sa))) := hz6
          obtain ⟨vs, g1, g2, g3⟩ := HFR.out.below HB6.out (Nat.le_refl _)
          rw [HTL.out] at g1 g2 g3
          have G1 : Hid (vs.length = ip + 1) := g1
          have G2 : Hid (w6.ownsRow w4.heap.size 22 1 (.slice u10o (ip + 1) u10c) (ip + 1) vs) := g2
          have G3 : Hid (∀ j, j < ip + 1 → Sl 0 3 w6 (vs.getD j (.slice none 0 0)) (ints (((m.take (ip + 1)).map fun t => memL t.1).getD j []))) := g3
          have hsz6 : w4.heap.size ≤ w6.heap.size := Nat.le_trans HBR.out.size HB6.out.size
          clear g1 g2 g3 hz6 hb6 y0 y1
          generalize hzl : (memL sa).length = zl at *
          go_wp2_with (first | (at_builtin; refine wpList_append_own _ rfl _ _ 25 rfl w4.heap.size 22 i0 (.slice none 0 0) 1 24 Tryz.underlying25 hi hz0 hz1 hz2 rfl (by decide) _ _ _ rfl (G2.out.alloc _) ⟨w6.heap.size, 0, none⟩ 1 1 [.slice zo zl zc] rfl rfl (one_new _ _ _) (one_slice _ _ _) ?e3 ?e4 ?e5 ?_))
          case e3 => unfold maxLen; omega
          case e4 => omega
          case e5 => first | exact hsz6 | omega | (simp; omega)
          intro v' w7 ho7 hg7 _
          have R1 : Hid (Fr w4.heap.size 22 3 w7 v' ((m.take (ip + 1 + 1)).map fun t => memL t.1)) := by
            have hp := Fr.push (e2 := 22) (e1 := 3) (m := (m.take (ip + 1)).map fun t => memL t.1) (u := .slice zo zl zc) (zs := memL sa) (by decide) (by rw [HTL.out]; exact G1.out) (by rw [HTL.out]; exact G2.out.alloc _)
              (fun j hj => (G3.out j (by rw [HTL.out] at hj; exact hj)).alloc _) (HZ6.out.alloc _) (by rw [HTL.out]; exact ho7) hg7
            rw [← HTS.out] at hp
            exact hp
          have R2 : Hid (Below w4.heap.size w4 w7) := ((HBR.out.trans (HB6.out.mono HBR.out.size)).alloc hsz6 _).grown hg7 (by simp; omega) (fun x hx => (G2.out.lt x hx).1)
          clear ho7 hg7
          go_wp2
          go_roundw
          case rel => exact ⟨ip + 1 + 1, by omega, by go_num, R1.out, R2.out, RCH.out⟩
          case measure => simp [intOf]; omega
    · have hie : i = m.length := by omega
      subst hie
      have HFA : Hid (Fall m) := HFI.out HCH.out
      have HMA : Hid (Mat 0 22 3 wr u10 (m.map fun t => memL t.1)) := by
        have h := fr_mat0F HFR.out
        rw [List.take_length] at h
        exact h
      obtain ⟨zo, zc, hzv, _, _⟩ := mat_open HMA.out
      rw [List.length_map] at hzv
      subst hzv
      have HBE : Hid (Below w.heap.size w wr) := HB4.out.trans (HBR.out.mono HB4.out.size)
      clear HFR
      go_wp2
      go_ret2
      exact ⟨Or.inl ⟨m, zo, zc, HFA.out, HPM.out, rfl, HMA.out⟩, HBE.out⟩

end Go.Proofs.YtaklkiagkdpimaaGreatDoor
