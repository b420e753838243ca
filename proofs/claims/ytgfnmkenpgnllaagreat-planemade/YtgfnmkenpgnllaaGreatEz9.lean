/- facetref.BoundedOf. -/
import Derived.Test.YtgfnmkenpgnllaaGreatEz4
import Derived.Test.YtgfnmkenpgnllaaGreatEz6
import Derived.Test.YtgfnmkenpgnllaaGreatHg3
import Derived.Test.YtgfnmkenpgnllaaGreatSg8
namespace Go.Proofs.YtgfnmkenpgnllaaGreat
open Go.RowKit Lin
attribute [local go_sem ↓] Go.wp_at_zero Go.wp_at_succ

theorem clO_up (p : List Int) : clO p 43 = [ngL p] := by simp [clO]
theorem clO_dn (p : List Int) : clO p 45 = [p] := by simp [clO]

theorem byte_get (z : List UInt8) (j : Nat) (h : j < z.length) (h2 : j < (⟨z.toArray⟩ : ByteArray).size) : (⟨z.toArray⟩ : ByteArray)[j] = z.getD j 0 := by
  show z.toArray[j]'(by simpa using h) = _
  simp [h]

theorem filt_take {α : Type} (f : α → Bool) (l : List α) (e : α) (k : Nat) (h : k < l.length) : (l.take (k + 1)).filter f = (l.take k).filter f ++ if f (l.getD k e) then [l.getD k e] else [] := by
  rw [snoc_take l k h e, List.filter_append]
  generalize l.getD k e = x
  cases hh : f x <;> simp [hh]

set_option maxRecDepth 100000 in
set_option maxHeartbeats 4000000 in
theorem boundedOf_any (d : Nat) (P : List (List Int)) (L : List (List UInt8)) (v u : Value) (w : World) (hv : Mat 0 22 3 w v P) (hu : Sl 0 9 w u (strs L)) (hP : ∀ p ∈ P, p.length = d + 1 ∧ ∀ z ∈ p, z.natAbs ≤ 20) (hd1 : 1 ≤ d) (hd3 : d ≤ 3) (h6 : P.length ≤ 6) (hL : ∀ t ∈ L, t.length = P.length ∧ ∀ c ∈ t, c = 43 ∨ c = 45) (hl : L.length ≤ 100000) :
    Calls Tryz.prog 10 #[.int .i64 d, v, u] w fun e w' => ∃ x, e = .returned x ∧ w'.ownsRow w.heap.size 9 1 x (L.filter fun t => !opB d (clR P t)).length (strs (L.filter fun t => !opB d (clR P t))) ∧ Below w.heap.size w w' := by
  obtain ⟨i0, hi, hz0, hz1, hz2⟩ := info_parts Tryz.info22
  obtain ⟨i3, hi3, hz30, hz31, hz32⟩ := info_parts infoStr
  obtain ⟨ro, rc, hvv, hlc, hcm⟩ := mat_open hv
  subst hvv
  obtain ⟨uo, uc, huu, hul, hum⟩ := sgs_open hu
  subst huu
  have HV : Hid (Mat 0 22 3 w (.slice ro P.length rc) P) := hv
  have HU : Hid (Sl 0 9 w (.slice uo L.length uc) (strs L)) := hu
  have HPP : Hid (∀ p ∈ P, p.length = d + 1 ∧ ∀ z ∈ p, z.natAbs ≤ 20) := hP
  have HLL : Hid (∀ t ∈ L, t.length = P.length ∧ ∀ c ∈ t, c = 43 ∨ c = 45) := hL
  have HCO : Hid (∀ t ∈ L, ∀ x X, Mat 0 22 3 X x (clR P t) → Calls Tryz.prog 29 #[x, .int .i64 d] X fun e w' => e = .returned (.bool (opB d (clR P t))) ∧ Below X.heap.size X w') := fun t ht x X hx => by
    obtain ⟨h1, h2⟩ := hL t ht
    have hrl : ∀ r ∈ clR P t, r.length = d + 1 ∧ ∀ z ∈ r, z.natAbs ≤ 20 := fun r hr => by
      obtain ⟨i, hi, h⟩ := clT_mem hr
      have hm := hP (P.getD i []) (getD_memR (by omega))
      rcases h with rfl | rfl
      · exact hm
      · refine ⟨by rw [ngL_len]; exact hm.1, fun z hz => ?_⟩
        simp only [ngL, List.mem_map] at hz
        obtain ⟨y, hy, rfl⟩ := hz
        have := hm.2 y hy
        omega
    have hn : (clR P t).length ≤ 12 := by
      have := clT_len P t t.length
      show (clT P t t.length).length ≤ 12
      omega
    have := openR_any d (clR P t) x X hx ⟨hd1, hd3, hn, fun r hr => (hrl r hr).1, fun r hr => (hrl r hr).2⟩
    rw [op_doc fun r hr => (hrl r hr).1] at this
    exact this
  have HFT : Hid (∀ k, k < L.length → (L.take (k + 1)).filter (fun t => !opB d (clR P t)) = (L.take k).filter (fun t => !opB d (clR P t)) ++ if !opB d (clR P (L.getD k [])) then [L.getD k []] else []) := fun k hk => filt_take _ L [] k hk
  have HFL : Hid (∀ k, ((L.take k).filter fun t => !opB d (clR P t)).length ≤ 100000) := fun k => by
    refine Nat.le_trans (List.length_filter_le _ _) ?_
    rw [List.length_take]; omega
  have HFE : Hid ((L.take L.length).filter (fun t => !opB d (clR P t)) = L.filter fun t => !opB d (clR P t)) := by show _ = _; rw [List.take_length]
  clear hv hu hP hL
  go_enter Tryz.func10, Tryz.ntmps10
  go_wp2
  go_loopw [7, 8, 9, 10, 11] (fun x i _ _ _ wr => ∃ k : Nat, k ≤ L.length ∧ i = .int .i64 k ∧ wr.ownsRow w.heap.size 9 1 x ((L.take k).filter fun t => !opB d (clR P t)).length (strs ((L.take k).filter fun t => !opB d (clR P t))) ∧ Below w.heap.size w wr) (fun _ i _ _ _ _ => L.length - (intOf i).toNat)
  case atStart => exact ⟨0, Nat.zero_le _, rfl, World.ownsRow_nil _ _ _ _, Below.refl _ _⟩
  case round =>
    obtain ⟨k, hk, rfl, how, hbel⟩ := hrel
    obtain ⟨wa, rfl⟩ : ∃ wa, wa = wr := ⟨_, rfl⟩
    have HO : Hid (wa.ownsRow w.heap.size 9 1 u7 ((L.take k).filter fun t => !opB d (clR P t)).length (strs ((L.take k).filter fun t => !opB d (clR P t)))) := how
    have HB : Hid (Below w.heap.size w wa) := hbel
    have hsza : w.heap.size ≤ wa.heap.size := hbel.size
    clear how hbel
    by_cases hlt : k < L.length
    · obtain ⟨ub, uf, hue, huc⟩ := sgs_cell HU.out hlt
      subst hue
      have htm : L.getD k [] ∈ L := by rw [List.getD_eq_getElem?_getD, List.getElem?_eq_getElem hlt]; exact List.getElem_mem _
      obtain ⟨ht1, ht2⟩ := HLL.out _ htm
      have hco := HCO.out _ htm
      have hft := HFT.out k hlt
      have hfl := HFL.out k
      obtain ⟨SB, hSB⟩ : ∃ SB : ByteArray, SB = ⟨(L.getD k []).toArray⟩ := ⟨_, rfl⟩
      have hut : strT (L.getD k []) = .string SB := by rw [hSB]; rfl
      rw [hut] at huc
      have HUC : Hid (∀ X, Below w.heap.size w X → X.cell? ⟨ub, uf + k, none⟩ = some (.string SB)) := fun X hX => (hX.cell (lt_of_cell huc)).trans huc
      have hss : SB.size = P.length := by rw [hSB, ← ht1]; rfl
      have HCH : Hid (∀ j, (hj : j < P.length) → ∃ hx : j < SB.size, SB[j] = (L.getD k []).getD j 0) := fun j hj => by
        refine ⟨by omega, ?_⟩
        have hx : j < (L.getD k []).length := by omega
        simp only [hSB]
        exact byte_get _ _ hx _
      have HCC : Hid (∀ j, j < P.length → (L.getD k []).getD j 0 = 43 ∨ (L.getD k []).getD j 0 = 45) := fun j hj => ht2 _ (getC (by omega))
      have HST : Hid (strT (L.getD k []) = .string SB) := hut
      have HCR : Hid (clT P (L.getD k []) P.length = clR P (L.getD k [])) := by show _ = _; rw [← ht1]; rfl
      have HOP : Hid (∀ x X, Mat 0 22 3 X x (clR P (L.getD k [])) → Calls Tryz.prog 29 #[x, .int .i64 d] X fun e w' => e = .returned (.bool (opB d (clR P (L.getD k [])))) ∧ Below X.heap.size X w') := hco
      have HF2 : Hid ((L.take (k + 1)).filter (fun t => !opB d (clR P t)) = (L.take k).filter (fun t => !opB d (clR P t)) ++ if !opB d (clR P (L.getD k [])) then [L.getD k []] else []) := hft
      have HSU : Hid (∀ j, clT P (L.getD k []) (j + 1) = clT P (L.getD k []) j ++ clO (P.getD j []) ((L.getD k []).getD j 0)) := fun j => clT_succ P _ j
      have HLN : Hid (∀ j, j ≤ 6 → (clT P (L.getD k []) j).length ≤ 12) := fun j hj => by have := clT_len P (L.getD k []) j; omega
      have HS0 : Hid (clT P (L.getD k []) 0 = []) := rfl
      clear HFT HFL hft hut hSB ht1 ht2 htm hco huc
      generalize (L.take k).filter (fun t => !opB d (clR P t)) = FA at *
      obtain ⟨FB, hFB⟩ : ∃ FB, FB = (L.take (k + 1)).filter (fun t => !opB d (clR P t)) := ⟨_, rfl⟩
      rw [← hFB] at HF2
      have HFB : Hid (FB = (L.take (k + 1)).filter (fun t => !opB d (clR P t))) := hFB
      clear hFB
      generalize L.getD k [] = t at *
      generalize opB d (clR P t) = ob at *
      have hkI : (k : Int) < (L.length : Int) := by omega
      have hkI0 : (0 : Int) ≤ (k : Int) := by omega
      go_wp2
      go_loopw [9, 10, 11] (fun x i _ wq => ∃ j : Nat, j ≤ P.length ∧ i = .int .i64 j ∧ Fr wa.heap.size 22 3 wq x (clT P t j) ∧ Below wa.heap.size wa wq) (fun _ i _ _ => P.length - (intOf i).toNat)
      case atStart => exact ⟨0, Nat.zero_le _, rfl, by rw [HS0.out]; exact Fr.nil _ _ _ _, Below.refl _ _⟩
      case round =>
        obtain ⟨j, hj, rfl, hfr, hbq⟩ := hrel
        obtain ⟨wq, rfl⟩ : ∃ wq, wq = wr := ⟨_, rfl⟩
        have HFQ : Hid (Fr wa.heap.size 22 3 wq u9 (clT P t j)) := hfr
        have HBQ : Hid (Below wa.heap.size wa wq) := hbq
        have HBW : Hid (Below w.heap.size w wq) := HB.out.trans (hbq.mono hsza)
        have hszq : wa.heap.size ≤ wq.heap.size := hbq.size
        clear hfr hbq
        by_cases hlj : j < P.length
        · obtain ⟨b, o, cp, pv, hs, _, hpc, hpv⟩ := mat_cell HV.out hlj
          simp only [Value.slice.injEq] at hs
          obtain ⟨rfl, -, rfl⟩ := hs
          have hpm : P.getD j [] ∈ P := getD_memR hlj
          obtain ⟨hjS, hxj⟩ := HCH.out j hlj
          have hch := HCC.out j hlj
          have HTS : Hid (clT P t (j + 1) = clT P t j ++ clO (P.getD j []) (t.getD j 0)) := HSU.out j
          have htl : (clT P t j).length ≤ 12 := HLN.out j (by omega)
          have hc1 := HUC.out wq HBW.out
          obtain ⟨p, hp⟩ : ∃ p, p = P.getD j [] := ⟨_, rfl⟩
          rw [← hp] at hpv hpm HTS
          clear hp
          obtain ⟨hpl, hpb⟩ := HPP.out p hpm
          obtain ⟨po, pc, hpe, _, _⟩ := sl_open hpv
          rw [hpl] at hpe
          subst hpe
          have hcell : wq.cell? ⟨b, o + j, none⟩ = some (.slice po (d + 1) pc) := (HBW.out.cell (lt_of_cell hpc)).trans hpc
          have HCP : Hid (Calls Tryz.prog 27 #[.slice po (d + 1) pc] wq fun e w' => ∃ uo uc, e = .returned (.slice uo (d + 1) uc) ∧ w'.ownsRow wq.heap.size 3 1 (.slice uo (d + 1) uc) (d + 1) (ints p) ∧ Below wq.heap.size wq w') := by
            refine (copy_any 0 p _ wq (hpv.below HBW.out (Nat.le_refl _)) (by omega)).mono ?_
            rintro e w' ⟨u, rfl, ho, hb⟩
            rw [hpl] at ho
            obtain ⟨uo, uc, rfl⟩ := owns_form ho
            exact ⟨uo, uc, rfl, ho, hb⟩
          have HPQ : Hid (p.length = d + 1 ∧ ∀ z ∈ p, z.natAbs ≤ 20) := ⟨hpl, hpb⟩
          have hjI : (j : Int) < (P.length : Int) := by omega
          have hjI0 : (0 : Int) ≤ (j : Int) := by omega
          clear hpv hpc hpm hpl hpb
          generalize clT P t j = A at *
          go_wp2_with fail
          refine HCP.out.mono ?_
          rintro e w1 ⟨yo, yc, rfl, ho1, hb1⟩
          have HO1 : Hid (w1.ownsRow wq.heap.size 3 1 (.slice yo (d + 1) yc) (d + 1) (ints p)) := ho1
          have HB1 : Hid (Below wq.heap.size wq w1) := hb1
          have hsz1 : wq.heap.size ≤ w1.heap.size := hb1.size
          have hc2 := HUC.out w1 (HBW.out.trans (hb1.mono HBW.out.size))
          clear ho1 hb1 HCP hcell hc1
          rcases hch with hc | hc
          · rw [hc] at hxj HTS
            rw [clO_up] at HTS
            have HTU : Hid (Calls Tryz.prog 28 #[.slice yo (d + 1) yc] w1 fun e w' => ∃ mo mc, e = .returned (.slice mo (d + 1) mc) ∧ w'.ownsRow w1.heap.size 3 1 (.slice mo (d + 1) mc) (d + 1) (ints (ngL p)) ∧ Below w1.heap.size w1 w') := by
              refine (turned_any 0 p _ w1 (by rw [← HPQ.out.1] at HO1; simpa [HPQ.out.1] using Sl.own HO1.out) (by rw [HPQ.out.1]; omega) (fun z hz => by have := HPQ.out.2 z hz; omega)).mono ?_
              rintro e w' ⟨u, rfl, ho, hb⟩
              rw [HPQ.out.1] at ho
              obtain ⟨mo, mc, rfl⟩ := owns_form ho
              exact ⟨mo, mc, rfl, ho, hb⟩
            clear hc HO1
            go_wp2_with fail
            refine HTU.out.mono ?_
            rintro e w2 ⟨mo, mc, rfl, ho2, hb2⟩
            have HB2 : Hid (Below wq.heap.size wq w2) := HB1.out.trans (hb2.mono hsz1)
            have hsz2 : wq.heap.size ≤ w2.heap.size := HB2.out.size
            have HS2 : Hid (Sl 0 3 w2 (.slice mo (d + 1) mc) (ints (ngL p))) := Sl.own ho2
            obtain ⟨vs, g1, g2, g3⟩ := HFQ.out.below HB2.out (Nat.le_refl _)
            have G2 : Hid (w2.ownsRow wa.heap.size 22 1 u9 A.length vs) := g2
            have HMO : Hid (∀ v' w5, w5.ownsRow wa.heap.size 22 1 v' (A.length + 1) (vs ++ [.slice mo (d + 1) mc]) → (w2.alloc (.cells #[.slice mo (d + 1) mc] 22)).grownBy w5 u9.ownBlock → Fr wa.heap.size 22 3 w5 v' (A ++ [ngL p]) ∧ Below wa.heap.size wa w5) := fun v' w5 ho hg => fr_more (HBQ.out.trans (HB2.out.mono hszq)) g1 g2 g3 HS2.out ho hg
            clear g1 g2 g3 ho2 hb2 HTU hc2
            go_wp2_with (first | (at_builtin; refine wpList_append_own _ rfl _ _ 25 rfl wa.heap.size 22 i0 (.slice none 0 0) 1 24 Tryz.underlying25 hi hz0 hz1 hz2 rfl (by decide) _ _ _ rfl (G2.out.alloc _) ⟨w2.heap.size, 0, none⟩ 1 1 [.slice mo (d + 1) mc] rfl rfl (one_new _ _ _) (one_slice _ _ _) ?d3 ?d4 ?d5 ?_))
            case d3 => unfold maxLen; omega
            case d4 => omega
            case d5 => first | omega | (simp; omega)
            intro x6 w5 ho hg _
            obtain ⟨q1, q2⟩ := HMO.out x6 w5 ho hg
            have R1 : Hid (Fr wa.heap.size 22 3 w5 x6 (clT P t (j + 1))) := by show Fr _ _ _ _ _ _; rw [HTS.out]; exact q1
            have R2 : Hid (Below wa.heap.size wa w5) := q2
            clear q1 q2 ho hg HMO G2
            go_wp2
            exact ⟨⟨j + 1, by omega, by go_num, R1.out, R2.out⟩, by simp [intOf]; omega⟩
          · rw [hc] at hxj HTS
            rw [clO_dn] at HTS
            have HS2 : Hid (Sl 0 3 w1 (.slice yo (d + 1) yc) (ints p)) := Sl.own HO1.out
            obtain ⟨vs, g1, g2, g3⟩ := HFQ.out.below HB1.out (Nat.le_refl _)
            have G2 : Hid (w1.ownsRow wa.heap.size 22 1 u9 A.length vs) := g2
            have HMO : Hid (∀ v' w5, w5.ownsRow wa.heap.size 22 1 v' (A.length + 1) (vs ++ [.slice yo (d + 1) yc]) → (w1.alloc (.cells #[.slice yo (d + 1) yc] 22)).grownBy w5 u9.ownBlock → Fr wa.heap.size 22 3 w5 v' (A ++ [p]) ∧ Below wa.heap.size wa w5) := fun v' w5 ho hg => fr_more (HBQ.out.trans (HB1.out.mono hszq)) g1 g2 g3 HS2.out ho hg
            clear g1 g2 g3 HO1 hc
            go_wp2_with (first | (at_builtin; refine wpList_append_own _ rfl _ _ 25 rfl wa.heap.size 22 i0 (.slice none 0 0) 1 24 Tryz.underlying25 hi hz0 hz1 hz2 rfl (by decide) _ _ _ rfl (G2.out.alloc _) ⟨w1.heap.size, 0, none⟩ 1 1 [.slice yo (d + 1) yc] rfl rfl (one_new _ _ _) (one_slice _ _ _) ?d3 ?d4 ?d5 ?_))
            case d3 => unfold maxLen; omega
            case d4 => omega
            case d5 => first | omega | (simp; omega)
            intro x6 w5 ho hg _
            obtain ⟨q1, q2⟩ := HMO.out x6 w5 ho hg
            have R1 : Hid (Fr wa.heap.size 22 3 w5 x6 (clT P t (j + 1))) := by show Fr _ _ _ _ _ _; rw [HTS.out]; exact q1
            have R2 : Hid (Below wa.heap.size wa w5) := q2
            clear q1 q2 ho hg HMO G2 hc2
            go_wp2
            exact ⟨⟨j + 1, by omega, by go_num, R1.out, R2.out⟩, by simp [intOf]; omega⟩
        · have hje : j = P.length := by omega
          have HMT : Hid (Mat 0 22 3 wq u9 (clR P t)) := by
            show Mat _ _ _ _ _ _
            rw [← HCR.out, ← hje]
            exact HFQ.out.mat0
          subst hje
          have HO2 : Hid (wq.ownsRow w.heap.size 9 1 u7 FA.length (strs FA)) := owns_below HO.out HBQ.out (Nat.le_refl _)
          have hopc := HOP.out u9 wq HMT.out
          have HOC : Hid (Calls Tryz.prog 29 #[u9, .int .i64 d] wq fun e w' => e = .returned (.bool ob) ∧ Below wq.heap.size wq w') := hopc
          clear hopc HMT HFQ
          go_wp2_with fail
          refine HOC.out.mono ?_
          rintro e w2 ⟨rfl, hb2⟩
          have HB2 : Hid (Below w.heap.size w w2) := HBW.out.trans (hb2.mono HBW.out.size)
          have HO3 : Hid (w2.ownsRow w.heap.size 9 1 u7 FA.length (strs FA)) := owns_below HO2.out hb2 (Nat.le_refl _)
          have hc1 := HUC.out w2 HB2.out
          have hsz2 : w.heap.size ≤ w2.heap.size := HB2.out.size
          clear hb2 HOC HO2
          cases ob with
          | true =>
            have R1 : Hid (w2.ownsRow w.heap.size 9 1 u7 FB.length (strs FB)) := by
              have e : FB = FA := by rw [HF2.out]; simp
              rw [e]; exact HO3.out
            go_wp2
            exact ⟨⟨k + 1, by omega, by go_num, by rw [← HFB.out]; exact R1.out, HB2.out⟩, by simp [intOf]; omega⟩
          | false =>
            go_wp2_with (first | (at_builtin; refine wpList_append_own _ rfl _ _ 31 rfl w.heap.size 9 i3 (.string ⟨#[]⟩) 1 16 (by kernel_rfl) hi3 hz30 hz31 hz32 rfl (by decide) _ _ _ rfl (HO3.out.alloc _) ⟨w2.heap.size, 0, none⟩ 1 1 [.string SB] rfl rfl (one_new _ _ _) (by intro z hz; rw [List.mem_singleton.1 hz]; rfl) ?d3 ?d4 ?d5 ?_))
            case d3 => unfold maxLen; omega
            case d4 => omega
            case d5 => first | omega | (simp; omega)
            intro x6 w5 ho hg _
            have R1 : Hid (w5.ownsRow w.heap.size 9 1 x6 FB.length (strs FB)) := by
              have e : FB = FA ++ [t] := by rw [HF2.out]; simp
              rw [e, List.length_append, strs_app]
              show World.ownsRow _ _ _ _ _ (FA.length + 1) (strs FA ++ [strT t])
              rw [HST.out]
              exact ho
            have R2 : Hid (Below w.heap.size w w5) := (HB2.out.alloc hsz2 _).grown hg (by simp; omega) (fun x hx => (HO3.out.lt x hx).1)
            clear ho hg HO3
            go_wp2
            exact ⟨⟨k + 1, by omega, by go_num, by rw [← HFB.out]; exact R1.out, R2.out⟩, by simp [intOf]; omega⟩
    · have hke : k = L.length := by omega
      have HO2 : Hid (wa.ownsRow w.heap.size 9 1 u7 (L.filter fun t => !opB d (clR P t)).length (strs (L.filter fun t => !opB d (clR P t)))) := by
        have h := HO.out
        rw [hke, HFE.out] at h
        exact h
      subst hke
      clear HO
      go_wp2
      go_ret
      exact ⟨_, rfl, HO2.out, HB.out⟩
end Go.Proofs.YtgfnmkenpgnllaaGreat
