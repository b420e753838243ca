import Derived.Test.YtgeajopenkkkaaaGreatSzA
import Derived.Test.YtgeajopenkkkaaaGreatSuA
import Derived.Test.YtgeajopenkkkaaaGreatSu4
import Derived.Test.YtgeajopenkkkaaaGreatOfAll
import Derived.Test.YtgeajopenkkkaaaGreatSdA
import Derived.Test.YtgeajopenkkkaaaGreatRgI
import Derived.Test.YtgeajopenkkkaaaGreatRgA
/- sum.Zone: the corners of the sum of segments. -/
namespace Go.Proofs.YtgeajopenkkkaaaGreat
open Go.RowKit Lin
attribute [local go_sem ↓] Go.wp_at_zero Go.wp_at_succ

theorem sl_two (w : World) (x y : Value) : Sl 0 22 (w.alloc (.cells #[x, y] 22)) (.slice (some ⟨w.heap.size, 0, none⟩) 2 2) [x, y] := by
  refine ⟨some ⟨w.heap.size, 0, none⟩, 2, rfl, by simp, by simp [maxLen], fun i hi => ⟨w.heap.size, 0, rfl, ?_, Or.inr ⟨#[x, y], heap_new _ _⟩⟩, by simp⟩
  have : i = 0 ∨ i = 1 := by simp at hi; omega
  rcases this with rfl | rfl <;> simp

theorem mat_two {B : Nat} {w : World} {x y : Value} {a b : List Int} (hx : Sl B 3 w x (ints a)) (hy : Sl B 3 w y (ints b)) : Mat B 22 3 (w.alloc (.cells #[x, y] 22)) (.slice (some ⟨w.heap.size, 0, none⟩) 2 2) [a, b] := by
  have hb : Below w.heap.size w (w.alloc (.cells #[x, y] 22)) := alloc_keep _ _
  refine ⟨[x, y], rfl, (sl_two w x y).more (Nat.zero_le _), fun i hi => ?_⟩
  have : i = 0 ∨ i = 1 := by simp at hi; omega
  rcases this with rfl | rfl
  · exact hx.below hb (Nat.le_refl _)
  · exact hy.below hb (Nat.le_refl _)

theorem sl_oneS (w : World) (x : Value) : Sl 0 22 (w.alloc (.cells #[x] 22)) (.slice (some ⟨w.heap.size, 0, none⟩) 1 1) [x] := by
  refine ⟨some ⟨w.heap.size, 0, none⟩, 1, rfl, by simp, by simp [maxLen], fun i hi => ⟨w.heap.size, 0, rfl, ?_, Or.inr ⟨#[x], heap_new _ _⟩⟩, by simp⟩
  have : i = 0 := by simp at hi; omega
  subst this
  simp

theorem mat_oneS {w : World} {x : Value} {a : List Int} (hx : Sl 0 3 w x (ints a)) : Mat 0 22 3 (w.alloc (.cells #[x] 22)) (.slice (some ⟨w.heap.size, 0, none⟩) 1 1) [a] := by
  have hb : Below w.heap.size w (w.alloc (.cells #[x] 22)) := alloc_keep _ _
  refine ⟨[x], rfl, sl_oneS w x, fun i hi => ?_⟩
  have : i = 0 := by simp at hi; omega
  subst this
  exact hx.below hb (Nat.le_refl _)

theorem sl_nul (w : World) (d : Nat) (hd : d ≤ 100) : Sl 0 3 (w.alloc (.cells (madeCells #[.int .i64 0] d) 3)) (.slice (some ⟨w.heap.size, 0, none⟩) d d) (ints (nul d)) := by
  have hrow : (w.alloc (.cells (madeCells #[.int .i64 0] d) 3)).rowIs w.heap.size 3 d (fun _ => .int .i64 0) := by
    refine ⟨_, heap_new _ _, ?_, fun i hi => ?_⟩
    · rw [← Array.length_toList, toList_madeCells_one]; simp
    · rw [← Array.getElem?_toList, toList_madeCells_one]; simp [hi]
  exact Sl.row' hrow (by unfold maxLen; omega) (by simp [nul]) (fun i hi => by simp [ints, nul, hi])

set_option maxRecDepth 100000 in
set_option maxHeartbeats 1600000 in
theorem zone_no (d : Nat) (ways : List (List Int)) (v : Value) (w : World) (hv : Mat w.heap.size 22 3 w v ways) (h : Wys d ways) (hE : zE d ways = 5) :
    Calls Tryz.prog 12 #[.int .i64 d, v] w fun e w' => e = .returned (.tuple #[.slice none 0 0, .int .i64 5]) ∧ Below w.heap.size w w' := by
  obtain ⟨vo, vc, rfl, _, _⟩ := mat_open hv
  have K1 : Hid (Calls Tryz.prog 14 #[.int .i64 d, .slice vo ways.length vc] w fun e w' => e = .returned (.int .i64 5) ∧ Below w.heap.size w w') := by
    have := zcheck_any d ways _ w hv h
    rw [hE] at this
    exact this
  clear hv h hE
  go_enter Tryz.func12, Tryz.ntmps12
  go_wp2_with fail
  refine K1.out.mono ?_
  rintro e w1 ⟨rfl, hb1⟩
  have HB1 : Hid (Below w.heap.size w w1) := hb1
  clear K1 hb1
  go_wp2
  go_ret2
  exact ⟨rfl, HB1.out⟩

set_option maxRecDepth 100000 in
set_option maxHeartbeats 3200000 in
theorem zone_any (d : Nat) (ways : List (List Int)) (v : Value) (w : World) (hv : Mat w.heap.size 22 3 w v ways) (h : Wys d ways) (hE : zE d ways = 0) :
    Calls Tryz.prog 12 #[.int .i64 d, v] w fun e w' => ∃ (co : Option Addr) (cc : Nat) (s C : List (List Int)), e = .returned (.tuple #[.slice co C.length cc, .int .i64 0]) ∧ SrC d (zonP (nul d) ways) s C ∧ Mat 0 22 3 w' (.slice co C.length cc) C ∧ Below w.heap.size w w' := by
  obtain ⟨vo, vc, rfl, _, _⟩ := mat_open hv
  have h1 := h.d1
  have h3 := h.d3
  have hn5 := h.n5
  have HM : Hid (∀ X, Below w.heap.size w X → Mat X.heap.size 22 3 X (.slice vo ways.length vc) ways) := fun X hX => (hv.below hX (Nat.le_refl _)).any (Nat.le_refl _)
  have HH : Hid (Wys d ways) := h
  have K1 : Hid (Calls Tryz.prog 14 #[.int .i64 d, .slice vo ways.length vc] w fun e w' => e = .returned (.int .i64 0) ∧ Below w.heap.size w w') := by
    have := zcheck_any d ways _ w hv h
    rw [hE] at this
    exact this
  have K3 : Hid (∀ X u, Mat X.heap.size 22 3 X u (zonP (nul d) ways) → Calls Tryz.prog 27 #[u] X fun e w' => ∃ (co : Option Addr) (cc : Nat) (s C : List (List Int)), e = .returned (.slice co C.length cc) ∧ (SrC d (zonP (nul d) ways) s C ∧ Fr X.heap.size 22 3 w' (.slice co C.length cc) C ∧ Below X.heap.size X w')) := fun X u hu => (wrapC_any d _ u X hu (h.good hE)).mono fun e w' ⟨co, cc, s, C, e1, e2⟩ => ⟨co, cc, s, C, e1, e2⟩
  have K2 : Hid (∀ X k u x, k < ways.length → Mat X.heap.size 22 3 X u (zonP (nul d) (ways.take k)) → Mat X.heap.size 22 3 X x [nul d, ways.getD k []] → Calls Tryz.prog 26 #[u, x] X fun e w' => ∃ (xo : Option Addr) (xc : Nat), e = .returned (.slice xo (zonP (nul d) (ways.take (k + 1))).length xc) ∧ (Mat w'.heap.size 22 3 w' (.slice xo (zonP (nul d) (ways.take (k + 1))).length xc) (zonP (nul d) (ways.take (k + 1))) ∧ Below X.heap.size X w')) := fun X k u x hk hu hx => by
    have hb1 := zonP_box h.box k (by omega)
    have hb2 := two_box h.box (x := ways.getD k []) (by simp [hk])
    have hl := zonP_len (z := nul d) (ways := ways) k (by omega)
    have hp : 2 ^ k ≤ 2 ^ 5 := Nat.pow_le_pow_right (by decide) (by omega)
    refine (sums_any d 100 _ _ u x X hu hx h1 (by omega) (fun r hr => ⟨(hb1 r hr).1, fun z hz => by have := (hb1 r hr).2 z hz; omega⟩) (fun r hr => ⟨(hb2 r hr).1, fun z hz => by have := (hb2 r hr).2 z hz; omega⟩) (by decide) (by rw [hl]; omega) (by simp)).mono ?_
    rintro e w' ⟨y, rfl, hr, hb⟩
    rw [zonP_snoc hk]
    have hM := hr.mat (B' := w'.heap.size) hb.size
    obtain ⟨xo, xc, rfl, _, _⟩ := mat_open hM
    exact ⟨xo, xc, rfl, hM, hb⟩
  have HZ1 : Hid ((zonP (nul d) (ways.take 0)).length = 1) := rfl
  have hmk := run_make_row' (P := Tryz.prog) 22 3 (.int .i64 0) 8 Tryz.underlying22 Tryz.info3 rfl .i64 .i64 d (by omega) (by omega)
  clear hv h hE
  go_enter Tryz.func12, Tryz.ntmps12
  go_wp2_with fail
  refine K1.out.mono ?_
  rintro e w1 ⟨rfl, hb1⟩
  have HB1 : Hid (Below w.heap.size w w1) := hb1
  clear K1 hb1
  obtain ⟨Wa, hWa⟩ : ∃ Wa, Wa = w1.alloc (.cells (madeCells #[.int .i64 0] d) 3) := ⟨_, rfl⟩
  obtain ⟨Wb, hWb⟩ : ∃ Wb, Wb = Wa.alloc (.cells #[.slice (some ⟨w1.heap.size, 0, none⟩) d d] 22) := ⟨_, rfl⟩
  have hsa : Wa.heap.size = w1.heap.size + 1 := by rw [hWa]; exact size_alloc _ _
  have hna : Sl 0 3 Wa (.slice (some ⟨w1.heap.size, 0, none⟩) d d) (ints (nul d)) := by rw [hWa]; exact sl_nul w1 d (by omega)
  have hba : Below w1.heap.size w1 Wa := by rw [hWa]; exact alloc_keep _ _
  have hbb : Below Wa.heap.size Wa Wb := by rw [hWb]; exact alloc_keep _ _
  have hMb : Mat 0 22 3 Wb (.slice (some ⟨Wa.heap.size, 0, none⟩) 1 1) (zonP (nul d) (ways.take 0)) := by rw [hWb]; exact mat_oneS hna
  have HNU : Hid (∀ X, Below Wb.heap.size Wb X → Sl 0 3 X (.slice (some ⟨w1.heap.size, 0, none⟩) d d) (ints (nul d))) := fun X hX => (hna.below hbb (Nat.le_refl _)).below hX (Nat.le_refl _)
  have HBB : Hid (Below w.heap.size w Wb) := HB1.out.trans ((hba.trans (hbb.mono hba.size)).mono HB1.out.size)
  have HMb : Hid (Mat Wb.heap.size 22 3 Wb (.slice (some ⟨Wa.heap.size, 0, none⟩) 1 1) (zonP (nul d) (ways.take 0))) := hMb.more (Nat.zero_le _)
  rw [hsa] at HMb hMb
  rw [hWa] at hWb
  clear hna hba hbb hMb hsa hWa
  go_wp2
  rw [← hWb]
  clear hWb
  go_loopw [8, 23] (fun x i wr => ∃ (k : Nat) (xo : Option Addr) (xc : Nat), k ≤ ways.length ∧ i = .int .i64 (k : Int) ∧ x = .slice xo (zonP (nul d) (ways.take k)).length xc ∧ Mat wr.heap.size 22 3 wr (.slice xo (zonP (nul d) (ways.take k)).length xc) (zonP (nul d) (ways.take k)) ∧ Below Wb.heap.size Wb wr) (fun _ i _ => ways.length - (intOf i).toNat)
  case atStart => exact ⟨0, _, _, Nat.zero_le _, rfl, rfl, HMb.out, Below.refl _ _⟩
  case round =>
    obtain ⟨k, xo, xc, hk, rfl, rfl, hMx, hbr⟩ := hrel
    have HBR : Hid (Below Wb.heap.size Wb wr) := hbr
    have HBW : Hid (Below w.heap.size w wr) := HBB.out.trans (hbr.mono HBB.out.size)
    by_cases hlt : k < ways.length
    · obtain ⟨qb, qf, cp, rv, hs, _, hcc, hrv⟩ := mat_cell (HM.out wr HBW.out) hlt
      simp only [Value.slice.injEq] at hs
      obtain ⟨rfl, hxx, rfl⟩ := hs
      clear hxx
      have hrl : (ways.getD k []).length = d := (HH.out.box _ (by simp [hlt])).1
      obtain ⟨qa, qc, hqe, _, _⟩ := sl_open hrv
      rw [hrl] at hqe
      subst hqe
      obtain ⟨W, hW⟩ : ∃ W, W = wr.alloc (.cells #[.slice (some ⟨w1.heap.size, 0, none⟩) d d, .slice qa d qc] 22) := ⟨_, rfl⟩
      have hbW : Below wr.heap.size wr W := by rw [hW]; exact alloc_keep _ _
      have hM2 : Mat wr.heap.size 22 3 W (.slice (some ⟨wr.heap.size, 0, none⟩) 2 2) [nul d, ways.getD k []] := by
        rw [hW]
        exact mat_two ((HNU.out wr hbr).more (Nat.zero_le _)) hrv
      have HKC := K2.out W k _ _ hlt ((hMx.below hbW (Nat.le_refl _)).any (Nat.le_refl _)) (hM2.any (Nat.le_refl _))
      have HBX : Hid (Below Wb.heap.size Wb W) := HBR.out.trans (hbW.mono HBR.out.size)
      have hkI : (k : Int) < (ways.length : Int) := by omega
      clear hbW hM2 hrv hMx hbr hrl
      generalize (zonP (nul d) (ways.take k)).length = zl at *
      go_wp2_with fail
      rw [← hW]
      clear hW
      refine HKC.mono ?_
      rintro e w3 ⟨yo, yc, rfl, hM3, hb3⟩
      have HM3 : Hid (Mat w3.heap.size 22 3 w3 (.slice yo (zonP (nul d) (ways.take (k + 1))).length yc) (zonP (nul d) (ways.take (k + 1)))) := hM3
      have HB3 : Hid (Below Wb.heap.size Wb w3) := HBX.out.trans (hb3.mono HBX.out.size)
      clear hM3 hb3 HKC
      go_wp2
      exact ⟨⟨k + 1, yo, yc, by omega, by go_num, rfl, HM3.out, HB3.out⟩, by simp [intOf]; omega⟩
    · have hte : ways.take k = ways := List.take_of_length_le (by omega)
      rw [hte] at hMx ⊢
      have HKC := K3.out wr _ hMx
      clear hMx hte hbr K3 K2
      go_wp2_with fail
      refine HKC.mono ?_
      rintro e w3 ⟨co, cc, s, C, rfl, hS, hf, hb3⟩
      have HS : Hid (SrC d (zonP (nul d) ways) s C) := hS
      have HF : Hid (Mat 0 22 3 w3 (.slice co C.length cc) C) := fr_mat0S hf
      have HB3 : Hid (Below w.heap.size w w3) := HBW.out.trans (hb3.mono HBW.out.size)
      clear hS hf hb3 HKC
      go_wp2
      go_ret2
      exact ⟨co, cc, s, C, rfl, HS.out, HF.out, HB3.out⟩

end Go.Proofs.YtgeajopenkkkaaaGreat

/- The document's answer: all sums of some of the segments. -/
namespace Go.Proofs.YtgeajopenkkkaaaGreat
open Go.RowKit Lin
attribute [local go_sem ↓] Go.wp_at_zero Go.wp_at_succ

set_option maxRecDepth 100000 in
set_option maxHeartbeats 3200000 in
theorem zpoints_any (d : Nat) (ways : List (List Int)) (v : Value) (w : World) (hv : Mat w.heap.size 22 3 w v ways) (h : Wys d ways) :
    Calls Tryz.prog 10 #[.int .i64 d, v] w fun e w' => ∃ (xo : Option Addr) (xc : Nat) (L : List (List Int)), e = .returned (.slice xo L.length xc) ∧ (∀ r, r ∈ L ↔ r ∈ zonP (nul d) ways) ∧ L.length ≤ (zonP (nul d) ways).length ∧ Mat w'.heap.size 22 3 w' (.slice xo L.length xc) L ∧ Below w.heap.size w w' := by
  obtain ⟨vo, vc, rfl, _, _⟩ := mat_open hv
  have h1 := h.d1
  have h3 := h.d3
  have hn5 := h.n5
  have HM : Hid (∀ X, Below w.heap.size w X → Mat X.heap.size 22 3 X (.slice vo ways.length vc) ways) := fun X hX => (hv.below hX (Nat.le_refl _)).any (Nat.le_refl _)
  have HH : Hid (Wys d ways) := h
  have K2 : Hid (∀ X k u x (L : List (List Int)), k < ways.length → (∀ r, r ∈ L ↔ r ∈ zonP (nul d) (ways.take k)) → L.length ≤ (zonP (nul d) (ways.take k)).length → Mat X.heap.size 22 3 X u L → Mat X.heap.size 22 3 X x [nul d, ways.getD k []] → Calls Tryz.prog 23 #[u, x] X fun e w' => ∃ (xo : Option Addr) (xc : Nat) (L' : List (List Int)), e = .returned (.slice xo L'.length xc) ∧ ((∀ r, r ∈ L' ↔ r ∈ zonP (nul d) (ways.take (k + 1))) ∧ L'.length ≤ (zonP (nul d) (ways.take (k + 1))).length ∧ Mat w'.heap.size 22 3 w' (.slice xo L'.length xc) L' ∧ Below X.heap.size X w')) := fun X k u x L hk hm hll hu hx => by
    have hb1 := zonP_box h.box k (by omega)
    have hb2 := two_box h.box (x := ways.getD k []) (by simp [hk])
    have hl := zonP_len (z := nul d) (ways := ways) k (by omega)
    have hp : 2 ^ k ≤ 2 ^ 5 := Nat.pow_le_pow_right (by decide) (by omega)
    refine (sumsR_any d 100 L _ u x X hu hx (by omega) (fun r hr => ⟨(hb1 r ((hm r).1 hr)).1, fun z hz => by have := (hb1 r ((hm r).1 hr)).2 z hz; omega⟩) (fun r hr => ⟨(hb2 r hr).1, fun z hz => by have := (hb2 r hr).2 z hz; omega⟩) (by decide) (by omega) (by simp)).mono ?_
    rintro e w' ⟨y, L', rfl, hf, ha, hm', hb⟩
    have hM := fr_mat0S hf
    obtain ⟨xo, xc, rfl, _, _⟩ := mat_open hM
    have hms : ∀ r, r ∈ L' ↔ r ∈ zonP (nul d) (ways.take (k + 1)) := fun r => by
      rw [hm' r, zonP_snoc hk]
      exact mem_sumS hm r
    exact ⟨xo, xc, L', rfl, hms, nodup_lenL L' _ ha.nodup fun r hr => (hms r).1 hr, hM.more (Nat.zero_le _), hb⟩
  have hmk := run_make_row' (P := Tryz.prog) 22 3 (.int .i64 0) 8 Tryz.underlying22 Tryz.info3 rfl .i64 .i64 d (by omega) (by omega)
  clear hv h
  obtain ⟨Wa, hWa⟩ : ∃ Wa, Wa = w.alloc (.cells (madeCells #[.int .i64 0] d) 3) := ⟨_, rfl⟩
  obtain ⟨Wb, hWb⟩ : ∃ Wb, Wb = Wa.alloc (.cells #[.slice (some ⟨w.heap.size, 0, none⟩) d d] 22) := ⟨_, rfl⟩
  have hsa : Wa.heap.size = w.heap.size + 1 := by rw [hWa]; exact size_alloc _ _
  have hna : Sl 0 3 Wa (.slice (some ⟨w.heap.size, 0, none⟩) d d) (ints (nul d)) := by rw [hWa]; exact sl_nul w d (by omega)
  have hba : Below w.heap.size w Wa := by rw [hWa]; exact alloc_keep _ _
  have hbb : Below Wa.heap.size Wa Wb := by rw [hWb]; exact alloc_keep _ _
  have hMb : Mat 0 22 3 Wb (.slice (some ⟨Wa.heap.size, 0, none⟩) 1 1) (zonP (nul d) (ways.take 0)) := by rw [hWb]; exact mat_oneS hna
  have HBB : Hid (Below w.heap.size w Wb) := hba.trans (hbb.mono hba.size)
  have HMb : Hid (Mat Wb.heap.size 22 3 Wb (.slice (some ⟨Wa.heap.size, 0, none⟩) 1 1) (zonP (nul d) (ways.take 0))) := hMb.more (Nat.zero_le _)
  rw [hsa] at HMb hMb
  rw [hWa] at hWb
  clear hna hba hbb hMb hsa hWa
  go_enter Tryz.func10, Tryz.ntmps10
  go_wp2
  rw [← hWb]
  clear hWb
  go_loopw [5, 6] (fun x i wr => ∃ (k : Nat) (xo : Option Addr) (xc : Nat) (L : List (List Int)), k ≤ ways.length ∧ i = .int .i64 (k : Int) ∧ x = .slice xo L.length xc ∧ (∀ r, r ∈ L ↔ r ∈ zonP (nul d) (ways.take k)) ∧ L.length ≤ (zonP (nul d) (ways.take k)).length ∧ Mat wr.heap.size 22 3 wr (.slice xo L.length xc) L ∧ Below Wb.heap.size Wb wr) (fun _ i _ => ways.length - (intOf i).toNat)
  case atStart => exact ⟨0, _, _, zonP (nul d) (ways.take 0), Nat.zero_le _, rfl, rfl, fun r => Iff.rfl, Nat.le_refl _, HMb.out, Below.refl _ _⟩
  case round =>
    obtain ⟨k, xo, xc, L, hk, rfl, rfl, hmL, hlL, hMx, hbr⟩ := hrel
    have HBR : Hid (Below Wb.heap.size Wb wr) := hbr
    have HBW : Hid (Below w.heap.size w wr) := HBB.out.trans (hbr.mono HBB.out.size)
    by_cases hlt : k < ways.length
    · obtain ⟨qb, qf, cp, rv, hs, _, hcc, hrv⟩ := mat_cell (HM.out wr HBW.out) hlt
      simp only [Value.slice.injEq] at hs
      obtain ⟨rfl, hxx, rfl⟩ := hs
      clear hxx
      have hrl : (ways.getD k []).length = d := (HH.out.box _ (by simp [hlt])).1
      obtain ⟨qa, qc, hqe, _, _⟩ := sl_open hrv
      rw [hrl] at hqe
      subst hqe
      have HCS : Hid (∀ X, Below wr.heap.size wr X → X.cell? ⟨qb, qf + k, none⟩ = some (.slice qa d qc)) := fun X hX => (hX.cell (lt_of_cell hcc)).trans hcc
      have HRV : Hid (Sl wr.heap.size 3 wr (.slice qa d qc) (ints (ways.getD k []))) := hrv
      have HMX : Hid (Mat wr.heap.size 22 3 wr (.slice xo L.length xc) L) := hMx
      have HML : Hid ((∀ r, r ∈ L ↔ r ∈ zonP (nul d) (ways.take k)) ∧ L.length ≤ (zonP (nul d) (ways.take k)).length) := ⟨hmL, hlL⟩
      have hkI : (k : Int) < (ways.length : Int) := by omega
      have hkI0 : (0 : Int) ≤ (k : Int) := by omega
      clear hrv hMx hbr hrl hcc hmL hlL
      go_upto_region 5 with fail
      refine wp_region_held_drew (S := fun w' => w'.cell? ⟨qb, qf + k, none⟩ = some (.slice qa d qc)) (by kernel_rfl) (HCS.out _ ((Below.refl _ _).drew)) (fun hHeld => ?_)
      refine wpAnyH_tk (i := 0) (d := 16) (v := .slice xo L.length xc) rfl rfl (by kernel_rfl) (by kernel_rfl) (by kernel_rfl) (fun _ _ _ h => h) (.inl ⟨by rfl, by (intro wq hSw; (try dsimp only at hSw); go_simp; (try (first | rfl | omega)))⟩) hHeld ?_
      simp only [Act.put, List.setIfInBounds_toArray, List.set_cons_zero, List.set_cons_succ]
      refine wpAnyH_tk (i := 1) (d := 17) (v := .int .i64 d) rfl rfl (by kernel_rfl) (by kernel_rfl) (by kernel_rfl) (fun _ _ _ h => h) (.inl ⟨by rfl, by (intro wq hSw; (try dsimp only at hSw); go_simp; (try (first | rfl | omega)))⟩) hHeld ?_
      simp only [Act.put, List.setIfInBounds_toArray, List.set_cons_zero, List.set_cons_succ]
      refine wpAnyH_tk (i := 3) (d := 19) (v := .slice (some ⟨qb, qf, none⟩) ways.length vc) rfl rfl (by kernel_rfl) (by kernel_rfl) (by kernel_rfl) (fun _ _ _ h => h) (.inl ⟨by rfl, by (intro wq hSw; (try dsimp only at hSw); go_simp; (try (first | rfl | omega)))⟩) hHeld ?_
      simp only [Act.put, List.setIfInBounds_toArray, List.set_cons_zero, List.set_cons_succ]
      refine wpAnyH_tk (i := 4) (d := 20) (v := .int .i64 k) rfl rfl (by kernel_rfl) (by kernel_rfl) (by kernel_rfl) (fun _ _ _ h => h) (.inl ⟨by rfl, by (intro wq hSw; (try dsimp only at hSw); go_simp; (try (first | rfl | omega)))⟩) hHeld ?_
      simp only [Act.put, List.setIfInBounds_toArray, List.set_cons_zero, List.set_cons_succ]
      refine wpAnyH_tk (i := 5) (d := 21) (v := .pointer (some ⟨qb, qf + k, none⟩)) rfl rfl (by kernel_rfl) (by kernel_rfl) (by kernel_rfl) (fun _ _ _ h => h) (.inl ⟨by rfl, by (intro wq hSw; (try dsimp only at hSw); go_simp; (try (first | rfl | omega)))⟩) hHeld ?_
      simp only [Act.put, List.setIfInBounds_toArray, List.set_cons_zero, List.set_cons_succ]
      refine wpAnyH_tk (i := 6) (d := 22) (v := .slice qa d qc) rfl rfl (by kernel_rfl) (by kernel_rfl) (by kernel_rfl) (fun _ _ _ h => h) (.inl ⟨by rfl, by (intro wq hSw; (try dsimp only at hSw); go_simp; (try (first | rfl | omega)))⟩) hHeld ?_
      simp only [Act.put, List.setIfInBounds_toArray, List.set_cons_zero, List.set_cons_succ]
      refine wpAnyH_ready (rs := [2]) (by kernel_rfl) (by simp) ?_
      refine ready_tk (i := 2) rfl (by rfl) (fun K hK => ?_) AllReadyH.nil
      go_simp
      obtain ⟨Wx, hWx⟩ : ∃ Wx, Wx = (wr.alloc (.cells (madeCells #[.int .i64 0] d) 3)).drew := ⟨_, rfl⟩
      have hbX : Below wr.heap.size wr Wx := by rw [hWx]; exact (alloc_keep _ _).drew
      have hnX : Sl 0 3 Wx (.slice (some ⟨wr.heap.size, 0, none⟩) d d) (ints (nul d)) := by
        rw [hWx]
        exact (sl_nul wr d (by omega)).below ((Below.refl _ _).drew) (Nat.le_refl _)
      have HBX : Hid (Below wr.heap.size wr Wx) := hbX
      have HNX : Hid (Sl 0 3 Wx (.slice (some ⟨wr.heap.size, 0, none⟩) d d) (ints (nul d))) := hnX
      rw [← hWx]
      clear hWx hbX hnX
      refine hK.out _ _ (HCS.out _ HBX.out) (fun hHeld => ?_)
      clear hK K
      refine wpAnyH_ready (rs := [7]) (by kernel_rfl) (by simp) ?_
      refine ready_tk (i := 7) rfl (by rfl) (fun K hK => ?_) AllReadyH.nil
      go_simp
      obtain ⟨Wy, hWy⟩ : ∃ Wy, Wy = Wx.alloc (.cells #[.slice (some ⟨wr.heap.size, 0, none⟩) d d, .slice qa d qc] 22) := ⟨_, rfl⟩
      have hbY : Below Wx.heap.size Wx Wy := by rw [hWy]; exact alloc_keep _ _
      have hM2 : Mat Wx.heap.size 22 3 Wy (.slice (some ⟨Wx.heap.size, 0, none⟩) 2 2) [nul d, ways.getD k []] := by
        rw [hWy]
        exact mat_two (HNX.out.more (Nat.zero_le _)) ((HRV.out.below HBX.out (Nat.le_refl _)).any (Nat.le_refl _))
      have hbXY : Below wr.heap.size wr Wy := HBX.out.trans (hbY.mono HBX.out.size)
      have HKC := K2.out Wy k (.slice xo L.length xc) _ L hlt HML.out.1 HML.out.2 ((HMX.out.below hbXY (Nat.le_refl _)).any (Nat.le_refl _)) (hM2.any (Nat.le_refl _))
      have HBY : Hid (Below wr.heap.size wr Wy) := hbXY
      rw [← hWy]
      clear hWy hbY hM2 hbXY HNX HRV HMX HML
      refine hK.out _ _ (HCS.out _ HBY.out) (fun hHeld => ?_)
      clear hK K
      refine wpAnyH_ready (rs := [8]) (by kernel_rfl) (by simp) ?_
      refine ready_tk (i := 8) rfl (by rfl) (fun K hK => ?_) AllReadyH.nil
      go_simp
      refine HKC.mono ?_
      rintro e w3 ⟨yo, yc, L', rfl, hm3, hl3, hM3, hb3⟩
      have H3 : Hid ((∀ r, r ∈ L' ↔ r ∈ zonP (nul d) (ways.take (k + 1))) ∧ L'.length ≤ (zonP (nul d) (ways.take (k + 1))).length ∧ Mat w3.heap.size 22 3 w3 (.slice yo L'.length yc) L') := ⟨hm3, hl3, hM3⟩
      have HB3 : Hid (Below wr.heap.size wr w3) := HBY.out.trans (hb3.mono HBY.out.size)
      clear hm3 hl3 hM3 hb3 HKC
      refine hK.out _ _ (HCS.out _ HB3.out) (fun hHeld => ?_)
      clear hK K
      refine wpAnyH_tk (i := 9) (d := 5) (v := .slice yo L'.length yc) rfl rfl (by kernel_rfl) (by kernel_rfl) (by kernel_rfl) (fun _ _ _ h => h) (.inl ⟨by rfl, by (intro wq hSw; (try dsimp only at hSw); go_simp; (try (first | rfl | omega)))⟩) hHeld ?_
      simp only [Act.put, List.setIfInBounds_toArray, List.set_cons_zero, List.set_cons_succ]
      refine wpAnyH_done (by kernel_rfl) ?_ _
      clear hHeld HCS
      go_wp2
      exact ⟨⟨k + 1, yo, yc, L', hlt, by go_num, rfl, H3.out.1, H3.out.2.1, H3.out.2.2, HBR.out.trans (HB3.out.mono HBR.out.size)⟩, by simp [intOf]; omega⟩
    · have hte : ways.take k = ways := List.take_of_length_le (by omega)
      rw [hte] at hmL hlL
      have H3 : Hid ((∀ r, r ∈ L ↔ r ∈ zonP (nul d) ways) ∧ L.length ≤ (zonP (nul d) ways).length ∧ Mat wr.heap.size 22 3 wr (.slice xo L.length xc) L) := ⟨hmL, hlL, hMx⟩
      clear hMx hmL hlL hte hbr
      go_wp2
      go_ret
      exact ⟨xo, xc, L, rfl, H3.out.1, H3.out.2.1, H3.out.2.2, HBW.out⟩

end Go.Proofs.YtgeajopenkkkaaaGreat
