/- root.above: the walk. -/
import Derived.Test.YtkgljfnbaoncbaaMgAD
namespace Go.Proofs.Ytkgljfnbaoncbaa
open Go.RowKit
attribute [local go_sem ↓] Go.wp_at_zero Go.wp_at_succ

theorem abI_mono (c : List (List Int)) (i : Nat) (L : List (List Int)) : ∀ (j m : Nat), j ≤ m → abI c i j L <+: abI c i m L
  | j, 0, h => by
    have : j = 0 := by omega
    subst this; exact List.prefix_refl _
  | j, m + 1, h => by
    by_cases e : j = m + 1
    · subst e; exact List.prefix_refl _
    · exact (abI_mono c i L j m (by omega)).trans (abS_pre c i m _)

theorem pre_getD {L M : List (List Int)} {i : Nat} (h : L <+: M) (hi : i < L.length) : M.getD i [] = L.getD i [] := by
  obtain ⟨t, rfl⟩ := h
  simp only [List.getD_eq_getElem?_getD]
  rw [List.getElem?_append_left hi]

theorem unit_row {n i : Nat} {w : World} {g : Nat} (h : w.rowIs g 3 n (fun _ => .int .i64 0)) : (w.setCell ⟨g, i, none⟩ (.int .i64 1)).rowIs g 3 n (fun k => .int .i64 ((un n i).getD k 0)) :=
  (h.set i (.int .i64 1)).congr fun k hk => by
    rw [un_at hk]
    by_cases e : k = i <;> simp [e]

set_option maxRecDepth 100000 in
set_option maxHeartbeats 3200000 in
theorem aboveM_any (n : Nat) (c : List (List Int)) (cv : Value) (w : World) (hc : Sqc n c) (hn1 : 1 ≤ n) (hm : Mat w.heap.size 26 3 w cv c) (hB : ∀ b ∈ abL c, b.length = n ∧ ∀ k, -18014398509481984 ≤ b.getD k 0 ∧ b.getD k 0 ≤ 18014398509481984) :
    Calls Try.prog 56 #[cv] w fun e w' => ∃ u, e = .returned u ∧ Fr w.heap.size 26 3 w' u (abL c) ∧ Below w.heap.size w w' := by
  obtain ⟨i0, hi0, hz0, hz1, hz2⟩ := info_parts Try.info26
  obtain ⟨ao, cap, hvv, hlc, hcm⟩ := mat_open hm
  subst hvv
  have hn4 := hc.n4
  have HCL : Hid (c.length = n) := hc.len
  have HB : Hid (∀ b ∈ abL c, b.length = n ∧ ∀ k, -18014398509481984 ≤ b.getD k 0 ∧ b.getD k 0 ≤ 18014398509481984) := hB
  have HTU : Hid (∀ W' bv b j, Below w.heap.size w W' → Sl 0 3 W' bv (ints b) → b ∈ abL c → j < n → Calls Try.prog 64 #[.slice ao c.length cap, bv, .int .i64 (j : Nat)] W' fun e w' => ∃ u, e = .returned u ∧ w'.ownsRow W'.heap.size 3 1 u n (ints (tnL c b j)) ∧ Below W'.heap.size W' w') := fun W' bv b j h1 h2 h3 h4 =>
    turnedM_any n c b j _ bv W' hc hn1 ((hm.below h1 (Nat.le_refl _)).any (Nat.le_refl _)) (h2.more (Nat.zero_le _)) (hB b h3).1 (hB b h3).2 h4
  rw [HCL.out] at HTU
  have HAB : Hid (abL c = abO c 30 0 ((List.range n).map fun r => un n r)) := by
    show _ = _
    unfold abL
    rw [HCL.out]
  have hmk : ∀ w : World, (Instr.makeSlice 26 (.int .i64 (n : Int)) (.int .i64 (n : Int))).run Try.prog w = .ok (.slice (some ⟨w.heap.size, 0, none⟩) n n) (w.alloc (.cells (madeCells #[.int .i64 0] n) 3)) := run_make_row' (P := Try.prog) 26 3 (.int .i64 0) 8 Try.underlying26 (by kernel_rfl) rfl .i64 .i64 n (by omega) (by omega)
  have hnI : (0 : Int) ≤ (n : Int) := by omega
  rw [HCL.out]
  clear hc hm hB hlc
  go_enter Try.func56, Try.ntmps56
  go_wp2
  go_loopw [3, 4, 5, 12] (fun rv _ _ iv wr => ∃ i : Nat, i ≤ n ∧ iv = .int .i64 i ∧ Fr w.heap.size 26 3 wr rv ((List.range i).map fun r => un n r) ∧ Below w.heap.size w wr) (fun _ _ _ iv _ => n - (intOf iv).toNat)
  case atStart => exact ⟨0, Nat.zero_le _, rfl, Fr.nil _ _ _ _, Below.refl _ _⟩
  case round =>
    obtain ⟨i, hi, rfl, hfr, hbr⟩ := hrel
    have HFR : Hid (Fr w.heap.size 26 3 wr u3 ((List.range i).map fun r => un n r)) := hfr
    have HBR : Hid (Below w.heap.size w wr) := hbr
    have hsz : w.heap.size ≤ wr.heap.size := hbr.size
    clear hfr hbr
    by_cases hlt : i < n
    · obtain ⟨W, hW⟩ : ∃ W, W = wr.alloc (.cells (madeCells #[.int .i64 0] n) 3) := ⟨_, rfl⟩
      have hr0 : W.rowIs wr.heap.size 3 n (fun _ => .int .i64 0) := by rw [hW]; exact World.rowIs_made wr (.int .i64 0) n 3
      have x0 := hr0.cell hlt
      have f0 := hr0.frozen i
      obtain ⟨W2, hW2⟩ : ∃ W2, W2 = W.setCell ⟨wr.heap.size, i, none⟩ (.int .i64 1) := ⟨_, rfl⟩
      have HSL : Hid (Sl 0 3 W2 (.slice (some ⟨wr.heap.size, 0, none⟩) n n) (ints (un n i))) := by
        rw [hW2]
        exact row_slT (unit_row hr0) (fun _ _ => rfl) (un_len n i) (Nat.le_refl _) (by omega)
      have hb2 : Below wr.heap.size wr W2 := by
        rw [hW2, hW]
        exact ((Below.refl _ wr).alloc (Nat.le_refl _) _).setCell (by simp) _
      have HB2 : Hid (Below w.heap.size w W2) := HBR.out.trans (hb2.mono hsz)
      have hsz2 : w.heap.size ≤ W2.heap.size := HB2.out.size
      obtain ⟨vs, g1, g2, g3⟩ := HFR.out.below hb2 (Nat.le_refl _)
      have el : ((List.range i).map fun r => un n r).length = i := by simp
      rw [el] at g1 g2 g3
      have G1 : Hid (vs.length = i) := g1
      have G2 : Hid (W2.ownsRow w.heap.size 26 1 u3 i vs) := g2
      have G3 : Hid (∀ k, k < i → Sl 0 3 W2 (vs.getD k (.slice none 0 0)) (ints (((List.range i).map fun r => un n r).getD k []))) := g3
      have HEL : Hid (((List.range i).map fun r => un n r).length = i) := el
      have HSN : Hid (((List.range (i + 1)).map fun r => un n r) = ((List.range i).map fun r => un n r) ++ [un n i]) := by
        show _ = _
        rw [List.range_succ, List.map_append]; rfl
      rw [hW] at x0 f0
      rw [hW] at hW2
      have HW2 : Hid (W2 = wr.alloc (.cells ((madeCells #[.int .i64 0] n).setIfInBounds i (.int .i64 1)) 3)) := by
        rw [hW2]
        show _ = _
        simp [go_sem]
      obtain ⟨xo, xc, hxv⟩ := owns_form g2
      subst hxv
      have iI : (i : Int) < (n : Int) := by omega
      have iI0 : (0 : Int) ≤ (i : Int) := by omega
      have HSW : Hid (W2.heap.size = wr.heap.size + 1) := by
        rw [HW2.out]
        show _ = _
        simp
      have HNW : Hid (∀ j u, [Value.slice (some ⟨wr.heap.size, 0, none⟩) n n][j]? = some u → (W2.alloc (.cells #[.slice (some ⟨wr.heap.size, 0, none⟩) n n] 26)).cell? ((⟨wr.heap.size + 1, 0, none⟩ : Addr).add j) = some u) := by
        rw [← HSW.out]
        exact one_new _ _ _
      clear hr0 hb2 g1 g2 g3 hW hW2 el HFR HBR
      go_wp2_with (first | (at_builtin; rw [← HW2.out]; refine wpList_append_own _ rfl _ _ 22 rfl w.heap.size 26 i0 (.slice none 0 0) 1 24 Try.underlying22 hi0 hz0 hz1 hz2 rfl (by decide) _ _ _ rfl (G2.out.alloc _) ⟨wr.heap.size + 1, 0, none⟩ 1 1 [.slice (some ⟨wr.heap.size, 0, none⟩) n n] rfl rfl HNW.out (one_slice _ _ _) ?d3 ?d4 ?d5 ?_))
      case d3 => unfold maxLen; omega
      case d4 => omega
      case d5 => simp; omega
      intro v2 w4 ho hg _
      have S1 : Hid (Fr w.heap.size 26 3 w4 v2 ((List.range (i + 1)).map fun r => un n r)) := by
        have hp := Fr.push (e2 := 26) (e1 := 3) (m := (List.range i).map fun r => un n r) (u := .slice (some ⟨wr.heap.size, 0, none⟩) n n) (zs := un n i) (by decide) (by rw [HEL.out]; exact G1.out) (by rw [HEL.out]; exact G2.out.alloc _)
          (fun k hk => (G3.out k (by rw [HEL.out] at hk; exact hk)).alloc _) (HSL.out.alloc _) (by rw [HEL.out]; exact ho) hg
        rw [← HSN.out] at hp
        exact hp
      have S2 : Hid (Below w.heap.size w w4) := (HB2.out.alloc (by omega) _).grown hg (by simp; omega) (fun x hx => (G2.out.lt x hx).1)
      obtain ⟨vo, vc, hv2⟩ := owns_form ho
      subst hv2
      clear ho hg
      go_wp2
      go_roundw
      case rel => exact ⟨i + 1, by omega, by go_num, S1.out, S2.out⟩
      case measure => simp [intOf]; omega
    · have hie : i = n := by omega
      subst hie
      obtain ⟨xo, xc, hxv⟩ : ∃ xo xc, u3 = .slice xo i xc := by
        obtain ⟨vs, g1, g2, g3⟩ := HFR.out
        obtain ⟨a, b, h⟩ := owns_form g2
        exact ⟨a, b, by simpa using h⟩
      subst hxv
      clear hlt hi
      go_wp2
      go_loopw [3, 6, 7, 8, 9] (fun rv kv _ _ _ wr => ∃ (k f : Nat) (L : List (List Int)), kv = .int .i64 k ∧ k + f = 30 ∧ abL c = abO c f k L ∧ L.length ≤ 28 ∧ Fr w.heap.size 26 3 wr rv L ∧ Below w.heap.size w wr) (fun _ kv _ _ _ _ => 30 - (intOf kv).toNat)
      case atStart => exact ⟨0, 30, _, rfl, rfl, HAB.out, by simp; omega, HFR.out, HBR.out⟩
      case round =>
        obtain ⟨k, f, L, rfl, hkf, hab, hL, hfr, hbr⟩ := hrel
        have HK : Hid (abL c = abO c f k L) := hab
        obtain ⟨yo, yc, hyv⟩ : ∃ yo yc, u3 = .slice yo L.length yc := by
          obtain ⟨vs, g1, g2, g3⟩ := hfr
          exact owns_form g2
        subst hyv
        have HF2 : Hid (Fr w.heap.size 26 3 wr (.slice yo L.length yc) L) := hfr
        have HBR2 : Hid (Below w.heap.size w wr) := hbr
        clear hfr hbr hab HFR HBR hsz
        have ekk : decide ((k : Int) < (L.length : Int)) = decide (k < L.length) := by simp
        have ell : decide ((L.length : Int) ≤ 24) = decide (L.length ≤ 24) := by simp; omega
        by_cases hq : k < L.length ∧ L.length ≤ 24
        · obtain ⟨h1, h2⟩ := hq
          rw [decide_eq_true h1] at ekk
          rw [decide_eq_true h2] at ell
          obtain ⟨f', rfl⟩ : ∃ f', f = f' + 1 := ⟨f - 1, by omega⟩
          have HK2 : Hid (abL c = abO c f' (k + 1) (abI c k i L)) := by
            show _ = _
            rw [HK.out, abO, if_pos ⟨h1, h2⟩, HCL.out]
          clear HK
          go_wp2
          go_loopw [3, 7, 8, 9, 39] (fun rv _ _ _ jv wq => ∃ j : Nat, j ≤ i ∧ jv = .int .i64 j ∧ Fr w.heap.size 26 3 wq rv (abI c k j L) ∧ Below w.heap.size w wq) (fun _ _ _ _ jv _ => i - (intOf jv).toNat)
          case atStart => exact ⟨0, Nat.zero_le _, rfl, HF2.out, HBR2.out⟩
          case round =>
            obtain ⟨j, hj, rfl, hfr, hbq⟩ := hrel
            obtain ⟨M, hM⟩ : ∃ M, M = abI c k j L := ⟨_, rfl⟩
            have HMM : Hid (abI c k (j + 1) L = abS c k j M) := by rw [hM]; rfl
            rw [← hM] at hfr
            have HBq : Hid (Below w.heap.size w wr) := hbq
            have hszq : w.heap.size ≤ wr.heap.size := hbq.size
            clear hbq HF2 HBR2
            by_cases hlt : j < i
            · have hMl : M.length ≤ 28 := by
                have := abI_len c k j L
                rw [← hM] at this
                omega
              have hpre : L <+: M := by rw [hM]; exact abI_pre c k j L
              have hkM : k < M.length := Nat.lt_of_lt_of_le h1 hpre.length_le
              have HBB : Hid (M.getD k [] ∈ abL c) := by
                have hp2 : M <+: abL c := by
                  rw [HK2.out, hM]
                  exact (abI_mono c k L j i (by omega)).trans (abO_pre c f' _ _)
                show _ ∈ _
                refine hp2.subset ?_
                simp [hkM]
              obtain ⟨vs, g1, g2, g3⟩ := hfr
              have HMT : Hid (Mat 0 26 3 wr u3 M) := ⟨vs, g1, Sl.own g2, g3⟩
              obtain ⟨zo, zc, hzv⟩ := owns_form g2
              subst hzv
              have G1 : Hid (vs.length = M.length) := g1
              have G2 : Hid (wr.ownsRow w.heap.size 26 1 (.slice zo M.length zc) M.length vs) := g2
              have G3 : Hid (∀ q, q < M.length → Sl 0 3 wr (vs.getD q (.slice none 0 0)) (ints (M.getD q []))) := g3
              clear g1 g2 g3 hM hpre
              obtain ⟨b1, o1, cp1, r1, hs1, _, hc1, hr1⟩ := mat_cell HMT.out hkM
              simp only [Value.slice.injEq, true_and] at hs1
              obtain ⟨rfl, rfl⟩ := hs1
              have HTC := HTU.out wr r1 (M.getD k []) j HBq.out hr1 HBB.out hlt
              have HTL : Hid ((tnL c (M.getD k []) j).length = i) := by
                show _ = _
                rw [tnL_len]; exact HCL.out
              have HAS : Hid (abS c k j M = if (0 ≤ (tnL c (M.getD k []) j).getD j 0 ∧ M.any (· == tnL c (M.getD k []) j) = false) then M ++ [tnL c (M.getD k []) j] else M) := rfl
              generalize tnL c (M.getD k []) j = t at *
              have HTC' : Hid (Calls Try.prog 64 #[.slice ao i cap, r1, .int .i64 (j : Nat)] wr fun e w' => ∃ u, e = .returned u ∧ w'.ownsRow wr.heap.size 3 1 u i (ints t) ∧ Below wr.heap.size wr w') := HTC
              clear hr1 HTC HBB
              go_wp2_with fail
              refine HTC'.out.mono ?_
              rintro e w1 ⟨u, rfl, hou, hb1⟩
              obtain ⟨to, tc, hu⟩ := owns_form hou
              subst hu
              have HSL : Hid (Sl 0 3 w1 (.slice to i tc) (ints t)) := Sl.own hou
              have HB1 : Hid (Below wr.heap.size wr w1) := hb1
              have hsz1 : wr.heap.size ≤ w1.heap.size := hb1.size
              clear hou hb1 HTC'
              obtain ⟨W3, hW3⟩ : ∃ W3, W3 = w1.alloc (.cells #[.slice to i tc] 26) := ⟨_, rfl⟩
              have HB3 : Hid (Below wr.heap.size wr W3) := by rw [hW3]; exact HB1.out.alloc hsz1 _
              have HS3 : Hid (Sl 0 3 W3 (.slice to i tc) (ints t)) := by rw [hW3]; exact HSL.out.alloc _
              have HM3 : Hid (Mat 0 26 3 W3 (.slice (some ⟨b1, o1, none⟩) M.length zc) M) := HMT.out.below HB3.out (Nat.le_refl _)
              have c8 : W3.cell? ⟨w1.heap.size, 0, none⟩ = some (.slice to i tc) := by rw [hW3]; simp [go_sem]
              have HCF : Hid (Calls Try.prog 67 #[.slice (some ⟨b1, o1, none⟩) M.length zc, .func (.func 65) #[] #[.pointer (some ⟨w1.heap.size, 0, none⟩)]] W3 fun e w' => e = .returned (.bool (M.any (· == t))) ∧ Below W3.heap.size W3 w') := hasT_any 0 (· == t) M _ _ W3 HM3.out (fun r _ W rv hW hr => by
                have hcW : W.cell? ⟨w1.heap.size, 0, none⟩ = some (.slice to i tc) := (hW.cell (lt_of_cell c8)).trans c8
                refine (there1_any 0 r t rv _ w1.heap.size W hr (HS3.out.below hW (Nat.le_refl _)) hcW).mono ?_
                rintro e w' ⟨h1, h2⟩
                exact ⟨h1, hW.trans (h2.mono hW.size)⟩)
              have C8 : Hid (W3.cell? ⟨w1.heap.size, 0, none⟩ = some (.slice to i tc)) := c8
              obtain ⟨b2, o2, cp2, hs2, _, hc2⟩ := sl_cell HS3.out (k := j) (by rw [HTL.out]; exact hlt)
              rw [HTL.out] at hs2
              simp only [Value.slice.injEq, true_and] at hs2
              obtain ⟨rfl, rfl⟩ := hs2
              have HWS : Hid (w.heap.size ≤ W3.heap.size) := Nat.le_trans hszq HB3.out.size
              have HW3 : Hid (W3 = w1.alloc (.cells #[.slice (some ⟨b2, o2, none⟩) i tc] 26)) := hW3
              rw [hW3] at hc2 c8
              by_cases hge : 0 ≤ t.getD j 0
              · have HGE : Hid (0 ≤ t.getD j 0) := hge
                generalize t.getD j 0 = x at *
                rw [hW3] at HCF
                obtain ⟨fb, hfb⟩ : ∃ fb, fb = M.any (· == t) := ⟨_, rfl⟩
                rw [← hfb] at HCF
                go_wp2_with fail
                refine HCF.out.mono ?_
                rintro e w5 ⟨rfl, hb5⟩
                rw [← hW3] at hb5
                have HB5 : Hid (Below W3.heap.size W3 w5) := hb5
                have HB6 : Hid (Below wr.heap.size wr w5) := HB3.out.trans (hb5.mono HB3.out.size)
                have HB7 : Hid (Below w.heap.size w w5) := HBq.out.trans (HB6.out.mono hszq)
                have HF7 : Hid (Fr w.heap.size 26 3 w5 (.slice (some ⟨b1, o1, none⟩) M.length zc) M) := Fr.below ⟨vs, G1.out, G2.out, G3.out⟩ HB6.out (Nat.le_refl _)
                clear hb5 HCF
                cases hf : fb
                · have HNX : Hid (abI c k (j + 1) L = M ++ [t]) := by
                    show _ = _
                    rw [HMM.out, HAS.out, if_pos ⟨hge, by rw [← hfb]; exact hf⟩]
                  have c9 : w5.cell? ⟨w1.heap.size, 0, none⟩ = some (.slice (some ⟨b2, o2, none⟩) i tc) := (HB5.out.cell (lt_of_cell C8.out)).trans C8.out
                  have HS9 : Hid (Sl 0 3 w5 (.slice (some ⟨b2, o2, none⟩) i tc) (ints t)) := HS3.out.below HB5.out (Nat.le_refl _)
                  obtain ⟨us, k1, k2, k3⟩ := HF7.out
                  have K1 : Hid (us.length = M.length) := k1
                  have K2 : Hid (w5.ownsRow w.heap.size 26 1 (.slice (some ⟨b1, o1, none⟩) M.length zc) M.length us) := k2
                  have K3 : Hid (∀ q, q < M.length → Sl 0 3 w5 (us.getD q (.slice none 0 0)) (ints (M.getD q []))) := k3
                  have hsz5 : w.heap.size ≤ w5.heap.size := HB7.out.size
                  clear k1 k2 k3 hfb hf
                  go_wp2_with (first | (at_builtin; refine wpList_append_own _ rfl _ _ 22 rfl w.heap.size 26 i0 (.slice none 0 0) 1 24 Try.underlying22 hi0 hz0 hz1 hz2 rfl (by decide) _ _ _ rfl (K2.out.alloc _) ⟨w5.heap.size, 0, none⟩ 1 1 [.slice (some ⟨b2, o2, none⟩) i tc] rfl rfl (one_new _ _ _) (one_slice _ _ _) ?d3 ?d4 ?d5 ?_))
                  case d3 => unfold maxLen; omega
                  case d4 => omega
                  case d5 => simp; omega
                  intro v2 w6 ho hg _
                  have S1 : Hid (Fr w.heap.size 26 3 w6 v2 (abI c k (j + 1) L)) := by
                    rw [HNX.out]
                    exact Fr.push (e2 := 26) (e1 := 3) (m := M) (u := .slice (some ⟨b2, o2, none⟩) i tc) (zs := t) (by decide) K1.out (K2.out.alloc _)
                      (fun q hq => (K3.out q hq).alloc _) (HS9.out.alloc _) ho hg
                  have S2 : Hid (Below w.heap.size w w6) := (HB7.out.alloc (by omega) _).grown hg (by simp; omega) (fun x hx => (K2.out.lt x hx).1)
                  obtain ⟨vo, vc, hv2⟩ := owns_form ho
                  subst hv2
                  clear ho hg
                  go_wp2
                  go_roundw
                  case rel => exact ⟨j + 1, by omega, by go_num, S1.out, S2.out⟩
                  case measure => simp [intOf]; omega
                · have HNX : Hid (abI c k (j + 1) L = M) := by
                    show _ = _
                    rw [HMM.out, HAS.out, if_neg (fun h => by rw [← hfb, hf] at h; exact absurd h.2 (by decide))]
                  have HF5 : Hid (Fr w.heap.size 26 3 w5 (.slice (some ⟨b1, o1, none⟩) M.length zc) (abI c k (j + 1) L)) := by
                    rw [HNX.out]; exact HF7.out
                  clear hfb hf
                  go_wp2
                  go_roundw
                  case rel => exact ⟨j + 1, by omega, by go_num, HF5.out, HB7.out⟩
                  case measure => simp [intOf]; omega
              · have HNX : Hid (abI c k (j + 1) L = M) := by
                  show _ = _
                  rw [HMM.out, HAS.out, if_neg (fun h => hge h.1)]
                have HF5 : Hid (Fr w.heap.size 26 3 W3 (.slice (some ⟨b1, o1, none⟩) M.length zc) (abI c k (j + 1) L)) := by
                  rw [HNX.out]
                  exact Fr.below ⟨vs, G1.out, G2.out, G3.out⟩ HB3.out (Nat.le_refl _)
                have HB5 : Hid (Below w.heap.size w W3) := HBq.out.trans (HB3.out.mono hszq)
                rw [hW3] at HF5 HB5
                generalize t.getD j 0 = x at *
                clear HNX
                go_wp2
                go_roundw
                case rel => exact ⟨j + 1, by omega, by go_num, HF5.out, HB5.out⟩
                case measure => simp [intOf]; omega
            · have hje : j = i := by omega
              subst hje
              have HF6 : Hid (Fr w.heap.size 26 3 wr u3 (abI c k j L)) := by rw [← hM]; exact hfr
              clear hfr
              have hl6 : (abI c k j L).length ≤ 28 := by
                have := abI_len c k j L
                omega
              generalize abI c k j L = M2 at *
              go_wp2
              go_roundw
              case rel => exact ⟨k + 1, f', M2, by go_num, by omega, HK2.out, hl6, HF6.out, HBq.out⟩
              case measure => simp [intOf]; omega
        · have HE : Hid (abL c = L) := by
            show _ = _
            rw [HK.out]
            cases f with
            | zero => rfl
            | succ f => rw [abO, if_neg hq]
          by_cases h1 : k < L.length
          · have h2 : ¬ L.length ≤ 24 := fun h => hq ⟨h1, h⟩
            rw [decide_eq_true h1] at ekk
            rw [decide_eq_false h2] at ell
            go_wp2
            go_ret
            exact ⟨_, rfl, by rw [HE.out]; exact HF2.out, HBR2.out⟩
          · rw [decide_eq_false h1] at ekk
            go_wp2
            go_ret
            exact ⟨_, rfl, by rw [HE.out]; exact HF2.out, HBR2.out⟩

theorem above_any (n : Nat) (c : List (List Int)) (cv : Value) (w : World) (hc : Sqc n c) (hn1 : 1 ≤ n) (hm : Mat w.heap.size 26 3 w cv c) (hB : ∀ b ∈ abL c, b.length = n ∧ ∀ k, -1000 ≤ b.getD k 0 ∧ b.getD k 0 ≤ 1000) :
    Calls Try.prog 56 #[cv] w fun e w' => ∃ u, e = .returned u ∧ Fr w.heap.size 26 3 w' u (abL c) ∧ Below w.heap.size w w' :=
  aboveM_any n c cv w hc hn1 hm fun b hb => ⟨(hB b hb).1, fun k => by have := (hB b hb).2 k; omega⟩

end Go.Proofs.Ytkgljfnbaoncbaa
