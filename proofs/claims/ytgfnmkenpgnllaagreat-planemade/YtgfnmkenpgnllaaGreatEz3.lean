/- facetref.There: is there a place with these signs? -/
import Derived.Test.YtgfnmkenpgnllaaGreatEz2
import Derived.Test.YtgfnmkenpgnllaaGreatSg6
namespace Go.Proofs.YtgfnmkenpgnllaaGreat
open Go.RowKit Lin
attribute [local go_sem ↓] Go.wp_at_zero Go.wp_at_succ

open Classical in
noncomputable def thB (d : Nat) (P : List (List Int)) (s : List UInt8) : Bool := decide (∃ z, HasS d P s z)

/-- Rows more, behind an append. -/
theorem fr_two {w W w3 : World} {x u y v' : Value} {m : List (List Int)} {vs : List Value} {zs ys : List Int} (hb : Below w.heap.size w W) (g1 : vs.length = m.length) (g2 : W.ownsRow w.heap.size 22 1 x m.length vs) (g3 : ∀ i, i < m.length → Sl 0 3 W (vs.getD i (.slice none 0 0)) (ints (m.getD i []))) (hu : Sl 0 3 W u (ints zs)) (hy : Sl 0 3 W y (ints ys))
    (ho : w3.ownsRow w.heap.size 22 1 v' (m.length + 2) (vs ++ [u, y])) (hg : (W.alloc (.cells #[u, y] 22)).grownBy w3 x.ownBlock) : Fr w.heap.size 22 3 w3 v' (m ++ [zs, ys]) ∧ Below w.heap.size w w3 := by
  have ht : ∀ k, x.ownBlock = some k → 0 ≤ k ∧ ∀ cur, (W.alloc (.cells #[u, y] 22)).heap[k]? ≠ some (.cells cur 3 (0, 0)) := fun k hk => ⟨Nat.zero_le _, (owns_typed (g2.alloc (.cells #[u, y] 22)) (by decide) k hk).2⟩
  refine ⟨⟨vs ++ [u, y], by simp [g1], by simpa using ho, fun i hi => ?_⟩, (hb.alloc hb.size _).grown hg (by have := hb.size; simp; omega) (fun x hx => (g2.lt x hx).1)⟩
  have hi' : i < m.length + 2 := by simpa using hi
  by_cases hlt : i < m.length
  · have e1 : (vs ++ [u, y]).getD i (.slice none 0 0) = vs.getD i (.slice none 0 0) := by
      simp only [List.getD_eq_getElem?_getD]; rw [List.getElem?_append_left (by omega)]
    have e2 : (m ++ [zs, ys]).getD i [] = m.getD i [] := by
      simp only [List.getD_eq_getElem?_getD]; rw [List.getElem?_append_left (by omega)]
    rw [e1, e2]
    exact ((g3 i hlt).alloc _).grown hg ht
  · have e1 : (vs ++ [u, y]).getD i (.slice none 0 0) = [u, y].getD (i - m.length) (.slice none 0 0) := by
      simp only [List.getD_eq_getElem?_getD]; rw [List.getElem?_append_right (by omega), g1]
    have e2 : (m ++ [zs, ys]).getD i [] = [zs, ys].getD (i - m.length) [] := by
      simp only [List.getD_eq_getElem?_getD]; rw [List.getElem?_append_right (by omega)]
    rw [e1, e2]
    have : i - m.length = 0 ∨ i - m.length = 1 := by omega
    rcases this with h | h <;> rw [h]
    · exact (hu.alloc _).grown hg ht
    · exact (hy.alloc _).grown hg ht

theorem one_two (u y : Value) (a b : Option Addr) (n m c e : Nat) (hu : u = .slice a n c) (hy : y = .slice b m e) : ∀ v ∈ [u, y], v.oneCell' = true := fun v hv => by
  rcases List.mem_cons.1 hv with rfl | hv
  · rw [hu]; rfl
  · rw [List.mem_singleton.1 hv, hy]; rfl

theorem two_new (w : World) (u y : Value) (e : TypeId) : ∀ j v, ([u, y] : List Value)[j]? = some v → (w.alloc (.cells #[u, y] e)).cell? ((⟨w.heap.size, 0, none⟩ : Addr).add j) = some v := fun j v h => by
  have hh := heap_alloc_new w (.cells #[u, y] e)
  have : j = 0 ∨ j = 1 ∨ 2 ≤ j := by omega
  rcases this with rfl | rfl | hj
  · have hv : u = v := by simpa using h
    subst hv
    have ha : ((⟨w.heap.size, 0, none⟩ : Addr).add 0) = ⟨w.heap.size, 0, none⟩ := by simp [Addr.add]
    rw [ha]; unfold World.cell?; rw [hh]; rfl
  · have hv : y = v := by simpa using h
    subst hv
    have ha : ((⟨w.heap.size, 0, none⟩ : Addr).add 1) = ⟨w.heap.size, 1, none⟩ := by simp [Addr.add]
    rw [ha]; unfold World.cell?; rw [hh]; rfl
  · rw [List.getElem?_eq_none (by simpa using hj)] at h
    cases h

theorem ng_snoc (p : List Int) : ((p ++ [0]).map fun z => -z) = ngL p ++ [0] := by simp [ngL]

theorem set_snoc (p : List Int) (k : Nat) (h : p.length = k) (a z : Int) : (p ++ [a]).set k z = p ++ [z] := by
  rw [← h, List.set_append_right _ _ (Nat.le_refl _)]
  simp

set_option maxRecDepth 100000 in
set_option maxHeartbeats 4000000 in
theorem there_any (d : Nat) (P : List (List Int)) (s : List UInt8) (v : Value) (SB : ByteArray) (w : World) (hv : Mat 0 22 3 w v P) (hP : ∀ p ∈ P, p.length = d + 1 ∧ ∀ z ∈ p, z.natAbs ≤ 3) (hd1 : 1 ≤ d) (hd3 : d ≤ 3) (hsl : s.length ≤ P.length) (hs : Chs s) (hn : (thT P s s.length).length ≤ 8) (h10 : s.length ≤ 10) (hSB : SB = ⟨s.toArray⟩) :
    Calls Tryz.prog 26 #[.int .i64 d, v, .string SB] w fun e w' => e = .returned (.bool (thB d P s)) ∧ Below w.heap.size w w' := by
  obtain ⟨i0, hi, hz0, hz1, hz2⟩ := info_parts Tryz.info22
  obtain ⟨i3, hi3, hz30, hz31, hz32⟩ := info_parts Tryz.info3
  obtain ⟨ro, rc, hvv, hlc, hcm⟩ := mat_open hv
  subst hvv
  have HV : Hid (Mat 0 22 3 w (.slice ro P.length rc) P) := hv
  have HST : Hid (EaI d d (∃ z, HasS d P s z) (thT P s s.length)) := EaI.start (fun i hi => hP _ (by rw [List.getD_eq_getElem?_getD, List.getElem?_eq_getElem (show i < P.length by omega)]; exact List.getElem_mem _)) hs hn
  have HP : Hid (∀ p ∈ P, p.length = d + 1 ∧ ∀ z ∈ p, z.natAbs ≤ 3) := hP
  have HS : Hid (Chs s) := hs
  have hss : SB.size = s.length := by rw [hSB]; rfl
  have HSB : Hid (SB = ⟨s.toArray⟩) := hSB
  obtain ⟨n, hnn⟩ : ∃ n, n = s.length := ⟨_, rfl⟩
  rw [← hnn] at HST hss hsl h10
  have HN : Hid (n = s.length) := hnn
  obtain ⟨D, hD⟩ : ∃ D : Prop, D = ∃ z, HasS d P s z := ⟨_, rfl⟩
  rw [← hD] at HST
  have HTB : Hid ((D → thB d P s = true) ∧ (¬ D → thB d P s = false)) := by
    rw [hD]
    refine ⟨fun h => ?_, fun h => ?_⟩ <;> simp [thB, h]
  clear hv hP hs hn hSB hnn hD
  generalize thB d P s = tb at *
  go_enter Tryz.func26, Tryz.ntmps26
  go_wp2
  go_loopw [7, 8] (fun x i wr => ∃ k : Nat, k ≤ n ∧ i = .int .i64 k ∧ Fr w.heap.size 22 3 wr x (thT P s k) ∧ Below w.heap.size w wr) (fun _ i _ => n - (intOf i).toNat)
  case atStart => exact ⟨0, Nat.zero_le _, rfl, Fr.nil _ _ _ _, Below.refl _ _⟩
  case round =>
    obtain ⟨k, hk, rfl, hfr, hbel⟩ := hrel
    obtain ⟨wa, rfl⟩ : ∃ wa, wa = wr := ⟨_, rfl⟩
    have HB : Hid (Below w.heap.size w wa) := hbel
    have HF : Hid (Fr w.heap.size 22 3 wa u7 (thT P s k)) := hfr
    have hsza : w.heap.size ≤ wa.heap.size := hbel.size
    by_cases hlt : k < n
    · have HTS : Hid (thT P s (k + 1) = thT P s k ++ thR (P.getD k []) (s.getD k 0)) := thT_succ P s k
      have htl : (thT P s k).length ≤ 20 := by have := thT_len P s k; omega
      obtain ⟨b, o, cp, pv, hs, _, hpc, hpv⟩ := mat_cell HV.out (show k < P.length by omega)
      simp only [Value.slice.injEq] at hs
      obtain ⟨rfl, -, rfl⟩ := hs
      have hpm : P.getD k [] ∈ P := by rw [List.getD_eq_getElem?_getD, List.getElem?_eq_getElem (show k < P.length by omega)]; exact List.getElem_mem _
      have hch : s.getD k 0 = 43 ∨ s.getD k 0 = 45 ∨ s.getD k 0 = 48 := HS.out _ (getC (by rw [← HN.out]; exact hlt))
      have hkS : k < SB.size := by omega
      have hxk : SB[k] = s.getD k 0 := by
        have hx : k < s.length := by rw [← HN.out]; exact hlt
        simp only [HSB.out]
        show s.toArray[k]'(by simpa using hx) = _
        simp [hx]
      obtain ⟨p, hp⟩ : ∃ p, p = P.getD k [] := ⟨_, rfl⟩
      rw [← hp] at hpv hpm HTS
      clear hp
      obtain ⟨hpl, hpb⟩ := HP.out p hpm
      obtain ⟨po, pc, hpe, _, _⟩ := sl_open hpv
      rw [hpl] at hpe
      subst hpe
      have hcell : wa.cell? ⟨b, o + k, none⟩ = some (.slice po (d + 1) pc) := (hbel.cell (lt_of_cell hpc)).trans hpc
      have HCP : Hid (Calls Tryz.prog 27 #[.slice po (d + 1) pc] wa fun e w' => ∃ uo uc, e = .returned (.slice uo (d + 1) uc) ∧ w'.ownsRow wa.heap.size 3 1 (.slice uo (d + 1) uc) (d + 1) (ints p) ∧ Below wa.heap.size wa w') := by
        refine (copy_any 0 p _ wa (hpv.below hbel (Nat.le_refl _)) (by omega)).mono ?_
        rintro e w' ⟨u, rfl, ho, hb⟩
        rw [hpl] at ho
        obtain ⟨uo, uc, rfl⟩ := owns_form ho
        exact ⟨uo, uc, rfl, ho, hb⟩
      have HPP : Hid (p.length = d + 1 ∧ ∀ z ∈ p, z.natAbs ≤ 3) := ⟨hpl, hpb⟩
      have hkI : (k : Int) < (n : Int) := by omega
      have hkI2 : (k : Int) < (P.length : Int) := by omega
      have hkI0 : (0 : Int) ≤ (k : Int) := by omega
      clear hbel hfr hpv hpc hpm hpl hpb
      generalize thT P s k = A at *
      go_wp2_with fail
      refine HCP.out.mono ?_
      rintro e w1 ⟨uo, uc, rfl, ho1, hb1⟩
      have HO1 : Hid (w1.ownsRow wa.heap.size 3 1 (.slice uo (d + 1) uc) (d + 1) (ints p)) := ho1
      have HB1 : Hid (Below wa.heap.size wa w1) := hb1
      have hsz1 : wa.heap.size ≤ w1.heap.size := hb1.size
      clear ho1 hb1 HCP hcell
      go_wp2_with (first | (at_builtin; refine wpList_append_own _ rfl _ _ 22 rfl wa.heap.size 3 i3 (.int .i64 0) 1 8 Tryz.underlying22 hi3 hz30 hz31 hz32 rfl (by decide) _ _ _ rfl (HO1.out.alloc _) ⟨w1.heap.size, 0, none⟩ 1 1 [.int .i64 0] rfl rfl (one_new _ _ _) (one_int _) ?d3 ?d4 ?d5 ?_))
      case d3 => unfold maxLen; omega
      case d4 => omega
      case d5 => first | omega | (simp; omega)
      intro x2 w2 ho2 hg2 _
      obtain ⟨vo, vc, hvv2⟩ := owns_form ho2
      subst hvv2
      have HB2 : Hid (Below wa.heap.size wa w2) := (HB1.out.alloc hsz1 _).grown hg2 (by simp; omega) (fun x hx => (HO1.out.lt x hx).1)
      have HO2 : Hid (w2.ownsRow wa.heap.size 3 1 (.slice vo (d + 1 + 1) vc) (d + 1 + 1) (ints (p ++ [0]))) := by
        show World.ownsRow _ _ _ _ _ _ _
        simpa [ints] using ho2
      have hsz2 : wa.heap.size ≤ w2.heap.size := HB2.out.size
      have HTU : Hid (Calls Tryz.prog 28 #[.slice vo (d + 1 + 1) vc] w2 fun e w' => ∃ mo mc, e = .returned (.slice mo (d + 1 + 1) mc) ∧ w'.ownsRow w2.heap.size 3 1 (.slice mo (d + 1 + 1) mc) (d + 1 + 1) (ints (ngL p ++ [0])) ∧ Below w2.heap.size w2 w') := by
        have hl : (p ++ [0]).length = d + 1 + 1 := by simp [HPP.out.1]
        refine (turned_any 0 (p ++ [0]) _ w2 (Sl.own HO2.out) (by omega) (fun z hz => ?_)).mono ?_
        · rcases List.mem_append.1 hz with h | h
          · have := HPP.out.2 z h; omega
          · rw [List.mem_singleton.1 h]; omega
        rintro e w' ⟨u, rfl, ho, hb⟩
        rw [hl, ng_snoc] at ho
        obtain ⟨mo, mc, rfl⟩ := owns_form ho
        exact ⟨mo, mc, rfl, ho, hb⟩
      clear ho2 hg2 HO1 HB1
      go_wp2_with fail
      refine HTU.out.mono ?_
      rintro e w3 ⟨mo, mc, rfl, ho3, hb3⟩
      have HB3 : Hid (Below wa.heap.size wa w3) := HB2.out.trans (hb3.mono hsz2)
      have HUP : Hid (SlN wa.heap.size w3 (.slice vo (d + 1 + 1) vc) (ints (p ++ [0]))) := (SlN.own HO2.out).below hb3 (Nat.le_refl _)
      have HDN : Hid (SlN wa.heap.size w3 (.slice mo (d + 1 + 1) mc) (ints (ngL p ++ [0]))) := (SlN.own ho3).mono hsz2
      have hsz3 : wa.heap.size ≤ w3.heap.size := HB3.out.size
      have HNL : Hid ((ngL p).length = d + 1) := by show _ = _; rw [ngL_len]; exact HPP.out.1
      clear ho3 hb3 HTU HO2 HB2 hsz2
      have hdI : (d : Int) + 1 < (d : Int) + 1 + 1 := by omega
      have hdI0 : (0 : Int) ≤ (d : Int) + 1 := by omega
      rcases hch with hc | hc | hc
      · rw [hc] at hxk HTS
        have HTR : Hid (thT P s (k + 1) = A ++ [ngL p ++ [1]]) := HTS.out
        obtain ⟨mb, mf, mc', hms, _, _⟩ := sl_cell HDN.out.1 (k := d + 1) (by simp [HNL.out])
        simp only [Value.slice.injEq] at hms
        obtain ⟨rfl, -, rfl⟩ := hms
        obtain ⟨⟨qv, hq1⟩, hq2, hq3, hq4⟩ := HDN.out.put (k := d + 1) (by simp [HNL.out]) 1
        rw [set_snoc _ _ HNL.out] at hq4
        have HB4 : Hid (Below wa.heap.size wa (w3.setCell ⟨mb, mf + (d + 1), none⟩ (.int .i64 1))) := HB3.out.setCell hq3 _
        have HBW : Hid (Below w.heap.size w (w3.setCell ⟨mb, mf + (d + 1), none⟩ (.int .i64 1))) := HB.out.trans (HB4.out.mono hsza)
        obtain ⟨vs, g1, g2, g3⟩ := HF.out.below HB4.out (Nat.le_refl _)
        have G2 : Hid ((w3.setCell ⟨mb, mf + (d + 1), none⟩ (.int .i64 1)).ownsRow w.heap.size 22 1 u7 A.length vs) := g2
        have HMO : Hid (∀ v' w5, w5.ownsRow w.heap.size 22 1 v' (A.length + 1) (vs ++ [.slice (some ⟨mb, mf, none⟩) (d + 1 + 1) mc]) → ((w3.setCell ⟨mb, mf + (d + 1), none⟩ (.int .i64 1)).alloc (.cells #[.slice (some ⟨mb, mf, none⟩) (d + 1 + 1) mc] 22)).grownBy w5 u7.ownBlock → Fr w.heap.size 22 3 w5 v' (A ++ [ngL p ++ [1]]) ∧ Below w.heap.size w w5) := fun v' w5 ho hg => fr_more HBW.out g1 g2 g3 hq4.1 ho hg
        have HSZ4 : Hid (w.heap.size ≤ (w3.setCell ⟨mb, mf + (d + 1), none⟩ (.int .i64 1)).heap.size) := HBW.out.size
        clear g1 g2 g3 hq3 hq4 hc HTS HUP HDN HB4 HBW
        go_wp2_with (first | (at_builtin; refine wpList_append_own _ rfl _ _ 25 rfl w.heap.size 22 i0 (.slice none 0 0) 1 24 Tryz.underlying25 hi hz0 hz1 hz2 rfl (by decide) _ _ _ rfl (G2.out.alloc _) ⟨(w3.setCell ⟨mb, mf + (d + 1), none⟩ (.int .i64 1)).heap.size, 0, none⟩ 1 1 [.slice (some ⟨mb, mf, none⟩) (d + 1 + 1) mc] (by simp; rfl) rfl (one_new _ _ _) (one_slice _ _ _) ?d3 ?d4 ?d5 ?_))
        case d3 => unfold maxLen; omega
        case d4 => omega
        case d5 => have := HSZ4.out; simp at this ⊢; omega
        intro x6 w5 ho hg _
        obtain ⟨q1, q2⟩ := HMO.out x6 w5 ho hg
        have R1 : Hid (Fr w.heap.size 22 3 w5 x6 (thT P s (k + 1))) := by show Fr _ _ _ _ _ _; rw [HTR.out]; exact q1
        have R2 : Hid (Below w.heap.size w w5) := q2
        clear q1 q2 ho hg HMO G2 hq1 hq2
        go_wp2
        exact ⟨⟨k + 1, by omega, by go_num, R1.out, R2.out⟩, by simp [intOf]; omega⟩
      · rw [hc] at hxk HTS
        have HTR : Hid (thT P s (k + 1) = A ++ [p ++ [1]]) := HTS.out
        obtain ⟨mb, mf, mc', hms, _, _⟩ := sl_cell HUP.out.1 (k := d + 1) (by simp [HPP.out.1])
        simp only [Value.slice.injEq] at hms
        obtain ⟨rfl, -, rfl⟩ := hms
        obtain ⟨⟨qv, hq1⟩, hq2, hq3, hq4⟩ := HUP.out.put (k := d + 1) (by simp [HPP.out.1]) 1
        rw [set_snoc _ _ HPP.out.1] at hq4
        have HB4 : Hid (Below wa.heap.size wa (w3.setCell ⟨mb, mf + (d + 1), none⟩ (.int .i64 1))) := HB3.out.setCell hq3 _
        have HBW : Hid (Below w.heap.size w (w3.setCell ⟨mb, mf + (d + 1), none⟩ (.int .i64 1))) := HB.out.trans (HB4.out.mono hsza)
        obtain ⟨vs, g1, g2, g3⟩ := HF.out.below HB4.out (Nat.le_refl _)
        have G2 : Hid ((w3.setCell ⟨mb, mf + (d + 1), none⟩ (.int .i64 1)).ownsRow w.heap.size 22 1 u7 A.length vs) := g2
        have HMO : Hid (∀ v' w5, w5.ownsRow w.heap.size 22 1 v' (A.length + 1) (vs ++ [.slice (some ⟨mb, mf, none⟩) (d + 1 + 1) vc]) → ((w3.setCell ⟨mb, mf + (d + 1), none⟩ (.int .i64 1)).alloc (.cells #[.slice (some ⟨mb, mf, none⟩) (d + 1 + 1) vc] 22)).grownBy w5 u7.ownBlock → Fr w.heap.size 22 3 w5 v' (A ++ [p ++ [1]]) ∧ Below w.heap.size w w5) := fun v' w5 ho hg => fr_more HBW.out g1 g2 g3 hq4.1 ho hg
        have HSZ4 : Hid (w.heap.size ≤ (w3.setCell ⟨mb, mf + (d + 1), none⟩ (.int .i64 1)).heap.size) := HBW.out.size
        clear g1 g2 g3 hq3 hq4 hc HTS HUP HDN HB4 HBW
        go_wp2_with (first | (at_builtin; refine wpList_append_own _ rfl _ _ 25 rfl w.heap.size 22 i0 (.slice none 0 0) 1 24 Tryz.underlying25 hi hz0 hz1 hz2 rfl (by decide) _ _ _ rfl (G2.out.alloc _) ⟨(w3.setCell ⟨mb, mf + (d + 1), none⟩ (.int .i64 1)).heap.size, 0, none⟩ 1 1 [.slice (some ⟨mb, mf, none⟩) (d + 1 + 1) vc] (by simp; rfl) rfl (one_new _ _ _) (one_slice _ _ _) ?d3 ?d4 ?d5 ?_))
        case d3 => unfold maxLen; omega
        case d4 => omega
        case d5 => have := HSZ4.out; simp at this ⊢; omega
        intro x6 w5 ho hg _
        obtain ⟨q1, q2⟩ := HMO.out x6 w5 ho hg
        have R1 : Hid (Fr w.heap.size 22 3 w5 x6 (thT P s (k + 1))) := by show Fr _ _ _ _ _ _; rw [HTR.out]; exact q1
        have R2 : Hid (Below w.heap.size w w5) := q2
        clear q1 q2 ho hg HMO G2 hq1 hq2
        go_wp2
        exact ⟨⟨k + 1, by omega, by go_num, R1.out, R2.out⟩, by simp [intOf]; omega⟩
      · rw [hc] at hxk HTS
        have HTR : Hid (thT P s (k + 1) = A ++ [p ++ [0], ngL p ++ [0]]) := HTS.out
        have HBW : Hid (Below w.heap.size w w3) := HB.out.trans (HB3.out.mono hsza)
        obtain ⟨vs, g1, g2, g3⟩ := HF.out.below HB3.out (Nat.le_refl _)
        have G2 : Hid (w3.ownsRow w.heap.size 22 1 u7 A.length vs) := g2
        have HMO : Hid (∀ v' w5, w5.ownsRow w.heap.size 22 1 v' (A.length + 2) (vs ++ [.slice vo (d + 1 + 1) vc, .slice mo (d + 1 + 1) mc]) → (w3.alloc (.cells #[.slice vo (d + 1 + 1) vc, .slice mo (d + 1 + 1) mc] 22)).grownBy w5 u7.ownBlock → Fr w.heap.size 22 3 w5 v' (A ++ [p ++ [0], ngL p ++ [0]]) ∧ Below w.heap.size w w5) := fun v' w5 ho hg => fr_two HBW.out g1 g2 g3 HUP.out.1 HDN.out.1 ho hg
        have hsz4 : w.heap.size ≤ w3.heap.size := HBW.out.size
        clear g1 g2 g3 hc HTS HUP HDN
        go_wp2_with (first | (at_builtin; refine wpList_append_own _ rfl _ _ 25 rfl w.heap.size 22 i0 (.slice none 0 0) 1 24 Tryz.underlying25 hi hz0 hz1 hz2 rfl (by decide) _ _ _ rfl (G2.out.alloc _) ⟨w3.heap.size, 0, none⟩ 2 2 [.slice vo (d + 1 + 1) vc, .slice mo (d + 1 + 1) mc] rfl rfl (two_new _ _ _ _) (one_two _ _ _ _ _ _ _ _ rfl rfl) ?d3 ?d4 ?d5 ?_))
        case d3 => unfold maxLen; omega
        case d4 => omega
        case d5 => first | omega | (simp; omega)
        intro x6 w5 ho hg _
        obtain ⟨q1, q2⟩ := HMO.out x6 w5 ho hg
        have R1 : Hid (Fr w.heap.size 22 3 w5 x6 (thT P s (k + 1))) := by show Fr _ _ _ _ _ _; rw [HTR.out]; exact q1
        have R2 : Hid (Below w.heap.size w w5) := q2
        clear q1 q2 ho hg HMO G2
        go_wp2
        exact ⟨⟨k + 1, by omega, by go_num, R1.out, R2.out⟩, by simp [intOf]; omega⟩
    · have hke : k = n := by omega
      subst hke
      have HF0 : Hid (Fr w.heap.size 22 3 wa u7 (thT P s s.length)) := by have := HF.out; rw [HN.out] at this; exact this
      clear hbel hfr HF
      obtain ⟨m0, hm0⟩ : ∃ m0, m0 = thT P s s.length := ⟨_, rfl⟩
      rw [← HN.out] at hm0
      rw [← HN.out, ← hm0] at HF0
      rw [← hm0] at HST
      clear hm0
      go_wp2
      go_loopw [7, 11] (fun x i wr => ∃ (q : Nat) (m : List (List Int)), q ≤ d ∧ i = .int .i64 ((q : Int) - 1) ∧ Fr w.heap.size 22 3 wr x m ∧ EaI d q D m ∧ Below w.heap.size w wr) (fun _ i _ => (intOf i + 1).toNat)
      case atStart => exact ⟨d, m0, Nat.le_refl _, rfl, HF0.out, HST.out, HB.out⟩
      case round =>
        clear HF0 HST HB
        obtain ⟨q, m, hq, rfl, hfr, hea, hbel⟩ := hrel
        obtain ⟨wb, rfl⟩ : ∃ wb, wb = wr := ⟨_, rfl⟩
        have HBB : Hid (Below w.heap.size w wb) := hbel
        have HFB : Hid (Fr w.heap.size 22 3 wb u7 m) := hfr
        have HEA : Hid (EaI d q D m) := hea
        have hszb : w.heap.size ≤ wb.heap.size := hbel.size
        clear hfr hea hbel
        by_cases hq0 : 1 ≤ q
        · obtain ⟨q', hq'⟩ : ∃ q', q = q' + 1 := ⟨q - 1, by omega⟩
          subst hq'
          have hqi : (((q' + 1 : Nat) : Int) - 1) = (q' : Int) := by omega
          rw [hqi]
          have HES : Hid (Calls Tryz.prog 46 #[u7, .int .i64 q'] wb fun e w' => ∃ x s, e = .returned x ∧ Fr w.heap.size 22 3 w' x s ∧ EaI d q' D s ∧ Below w.heap.size w w') := by
            have h := HEA.out
            have hj : d - (q' + 1) ≤ 2 := by omega
            have hb3 : bdE (d - (q' + 1)) ≤ 1000 := by
              have : d - (q' + 1) = 0 ∨ d - (q' + 1) = 1 ∨ d - (q' + 1) = 2 := by omega
              rcases this with e | e | e <;> rw [e] <;> decide
            have hl3 : lnE (d - (q' + 1)) ≤ 4096 := by
              have : d - (q' + 1) = 0 ∨ d - (q' + 1) = 1 ∨ d - (q' + 1) = 2 := by omega
              rcases this with e | e | e <;> rw [e] <;> decide
            refine (eased_any (q' + 2) q' m u7 wb (fr_matE HFB.out) (fun r hr => ⟨h.len r hr, fun z hz => Nat.le_trans (h.bd r hr z hz) hb3⟩) rfl (by omega) (Nat.le_trans h.n hl3)).mono ?_
            rintro e w' ⟨x, s, rfl, h1, h2, h3, h4⟩
            exact ⟨x, s, rfl, h1.mono hszb, h.next (by omega) hd3 h2 h3, HBB.out.trans (h4.mono hszb)⟩
          have hqI0 : (0 : Int) ≤ (q' : Int) := by omega
          clear hqi HFB HEA
          go_wp2_with fail
          refine HES.out.mono ?_
          rintro e w2 ⟨x, s2, rfl, h1, h2, h3⟩
          have HH : Hid (Fr w.heap.size 22 3 w2 x s2 ∧ EaI d q' D s2 ∧ Below w.heap.size w w2) := ⟨h1, h2, h3⟩
          clear h1 h2 h3 HES
          go_wp2
          exact ⟨⟨q', s2, by omega, by go_num, HH.out.1, HH.out.2.1, HH.out.2.2⟩, by first | (simp [intOf]; done) | (simp [intOf]; omega)⟩
        · have hq0' : q = 0 := by omega
          subst hq0'
          have HFI : Hid ((m.any edB = false) ↔ D) := HEA.out.fin
          have HLE : Hid (∀ r ∈ m, r.length = 2) := HEA.out.len
          have hmn : m.length ≤ 16777216 := by
            refine Nat.le_trans HEA.out.n ?_
            rw [Nat.sub_zero]
            have : d = 1 ∨ d = 2 ∨ d = 3 := by omega
            rcases this with e | e | e <;> rw [e] <;> decide
          obtain ⟨xo, xc, hxv, hx1, hx2⟩ := fr_open HFB.out
          subst hxv
          clear HEA hq hq0
          go_wp2
          go_loopw [12] (fun i wr => ∃ t : Nat, t ≤ m.length ∧ i = .int .i64 t ∧ (m.take t).any edB = false ∧ wr = wb) (fun i _ => m.length - (intOf i).toNat)
          case atStart => exact ⟨0, Nat.zero_le _, rfl, rfl, rfl⟩
          case round =>
            obtain ⟨t, ht, rfl, hno, hwr⟩ := hrel
            subst hwr
            have HNO : Hid ((m.take t).any edB = false) := hno
            clear hno
            by_cases hlt2 : t < m.length
            · obtain ⟨b2, o2, cp2, rv, hs, _, hrc, hrv⟩ := mat_cell (HFB.out.rws.mat (Nat.le_refl _)) hlt2
              simp only [Value.slice.injEq] at hs
              obtain ⟨rfl, -, rfl⟩ := hs
              have hrm : m.getD t [] ∈ m := by simp [hlt2]
              have HTS : Hid ((m.take (t + 1)).any edB = ((m.take t).any edB || edB (m.getD t []))) := by
                show _ = _
                rw [List.take_succ_eq_append_getElem hlt2, List.any_append]
                simp [hlt2]
              have HAN : Hid (edB (m.getD t []) = true → m.any edB = true) := fun h => List.any_eq_true.2 ⟨_, hrm, h⟩
              obtain ⟨r, hr⟩ : ∃ r, r = m.getD t [] := ⟨_, rfl⟩
              rw [← hr] at hrv hrm HTS HAN
              clear hr
              have hrl := HLE.out r hrm
              obtain ⟨rb, rf, rcc, hre, _, hc0⟩ := sl_cell hrv (k := 0) (by omega)
              rw [Nat.add_zero] at hc0
              obtain ⟨rb', rf', rcc', hre', _, hc1⟩ := sl_cell hrv (k := 1) (by omega)
              rw [hrl] at hre hre'
              subst hre
              simp only [Value.slice.injEq, Option.some.injEq, Addr.mk.injEq, and_true] at hre'
              obtain ⟨⟨rfl, rfl⟩, -, -⟩ := hre'
              have HED : Hid (edB r = (decide (r.getD 0 0 < 0) || (decide (r.getD 0 0 = 0) && decide (0 < r.getD 1 0)))) := rfl
              clear hrv hrm hrl
              generalize r.getD 0 0 = r0 at *
              generalize r.getD 1 0 = r1 at *
              generalize edB r = er at *
              have htI : (t : Int) < (m.length : Int) := by omega
              have htI0 : (0 : Int) ≤ (t : Int) := by omega
              by_cases c1 : r0 < 0
              · have c1b : decide (r0 < 0) = true := decide_eq_true c1
                have HRR : Hid (tb = false) := by
                  refine HTB.out.2 fun hD => ?_
                  have h1 := HAN.out (by rw [HED.out, c1b]; rfl)
                  rw [HFI.out.2 hD] at h1
                  cases h1
                go_wp2
                go_ret
                exact ⟨by rw [HRR.out] <;> rfl, HBB.out⟩
              · have c1b : decide (r0 < 0) = false := decide_eq_false c1
                by_cases c2 : r0 = 0
                · have c2b : (r0 == 0) = true := by simpa using c2
                  by_cases c3 : 0 < r1
                  · have c3b : decide (0 < r1) = true := decide_eq_true c3
                    have HRR : Hid (tb = false) := by
                      refine HTB.out.2 fun hD => ?_
                      have h1 := HAN.out (by rw [HED.out, c1b, c3b, decide_eq_true c2]; rfl)
                      rw [HFI.out.2 hD] at h1
                      cases h1
                    clear c2
                    go_wp2
                    go_ret
                    exact ⟨by rw [HRR.out] <;> rfl, HBB.out⟩
                  · have c3b : decide (0 < r1) = false := decide_eq_false c3
                    have HRR : Hid ((m.take (t + 1)).any edB = false) := by show _ = _; rw [HTS.out, HNO.out, HED.out, c1b, c3b]; simp
                    clear c2
                    go_wp2
                    exact ⟨⟨t + 1, by omega, by go_num, HRR.out, trivial⟩, by simp [intOf]; omega⟩
                · have c2b : (r0 == 0) = false := by simpa using c2
                  have HRR : Hid ((m.take (t + 1)).any edB = false) := by show _ = _; rw [HTS.out, HNO.out, HED.out, c1b, decide_eq_false c2]; simp
                  go_wp2
                  exact ⟨⟨t + 1, by omega, by go_num, HRR.out, trivial⟩, by simp [intOf]; omega⟩
            · have hte : t = m.length := by omega
              subst hte
              have HRR : Hid (tb = true) := by
                refine HTB.out.1 (HFI.out.1 ?_)
                have := HNO.out
                rwa [List.take_length] at this
              go_wp2
              go_ret
              exact ⟨by rw [HRR.out] <;> rfl, HBB.out⟩
end Go.Proofs.YtgfnmkenpgnllaaGreat
