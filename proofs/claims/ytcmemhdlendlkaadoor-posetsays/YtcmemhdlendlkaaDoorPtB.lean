import Derived.Test.YtcmemhdlendlkaaDoorPtA
import Derived.Test.YtcmemhdlendlkaaDoorWr1
/- poset.ofSets, by one function; facet/poset.Order. -/
namespace Go.Proofs.YtcmemhdlendlkaaDoor
open Go.RowKit
attribute [local go_sem ↓] Go.wp_at_zero Go.wp_at_succ

theorem stFil_bd {f : Nat → Nat} {k : Nat} (hk : k ≤ 64) {x : Int} (hx : x ∈ stTo filQ f k) : ∃ s : Nat, x = (s : Int) ∧ s < 64 := by
  unfold stTo at hx
  obtain ⟨s, hs, rfl⟩ := List.mem_map.1 hx
  have := List.mem_range.1 (List.mem_filter.1 hs).1
  exact ⟨s, rfl, by omega⟩

theorem stFil_lt {f : Nat → Nat} {k : Nat} {x : Int} (hx : x ∈ stTo filQ f k) : ∃ s : Nat, x = (s : Int) ∧ s < k := by
  unfold stTo at hx
  obtain ⟨s, hs, rfl⟩ := List.mem_map.1 hx
  exact ⟨s, rfl, List.mem_range.1 (List.mem_filter.1 hs).1⟩

set_option maxRecDepth 100000 in
set_option maxHeartbeats 3200000 in
theorem ofSetsFil_any (n : Nat) (es : List (Nat × Nat)) (pv : Value) (w : World) (hv : Prs w pv (npL es)) (hG : GdO n es) (hT : TabB w) (hn4 : n ≤ 4) :
    Calls Tryd.prog 36 #[.agg #[.int .i64 (n : Int), pv], .func (.func 14) #[] #[]] w fun e w' => ∃ u, e = .returned (.tuple #[.agg #[.int .i64 (n : Int), u], .int .i64 0]) ∧ Mat 0 27 3 w' u (ptsL n (stTo filQ (upF n es) (2 ^ n))) ∧ Below w.heap.size w w' := by
  obtain ⟨i0, hi0, hz0, hz1, hz2⟩ := info_parts infoSl
  obtain ⟨W1, hW1⟩ : ∃ W1, W1 = (w.alloc (.cells #[.int .i64 (n : Int), pv] 24)).alloc (.cells #[.int .i64 0, .slice none 0 0] 40) := ⟨_, rfl⟩
  obtain ⟨b0, hb0⟩ : ∃ b0, b0 = w.heap.size := ⟨_, rfl⟩
  have HB1 : Below w.heap.size w W1 := by rw [hW1]; exact ((Below.refl _ _).alloc (Nat.le_refl _) _).alloc (by simp) _
  have hs1 : W1.heap.size = w.heap.size + 2 := by rw [hW1]; simp
  have d0 : W1.cell? ⟨b0, 0, none⟩ = some (.int .i64 (n : Int)) := by rw [hW1, hb0]; simp
  have d2 : W1.heap[b0 + 1]? = some (.cells #[.int .i64 0, .slice none 0 0] 40 (0, 0)) := by
    have e : (w.alloc (.cells #[.int .i64 (n : Int), pv] 24)).heap.size = b0 + 1 := by rw [hb0]; simp
    rw [hW1, ← e]
    exact heap_alloc_new _ _
  have HST : Hid (Calls Tryd.prog 14 #[.agg #[.int .i64 (n : Int), pv]] W1 fun e w' => ∃ u, e = .returned (.tuple #[u, .int .i64 0]) ∧ Sl 0 3 w' u (ints (stTo filQ (upF n es) (2 ^ n))) ∧ Below w.heap.size w w' ∧ w'.cell? ⟨b0, 0, none⟩ = some (.int .i64 (n : Int)) ∧ w'.heap[b0 + 1]? = some (.cells #[.int .i64 0, .slice none 0 0] 40 (0, 0))) := (filters_any n es pv W1 (hv.below HB1 (Nat.le_refl _)) hG (hT.below HB1)).mono (by
    rintro e w' ⟨u, h1, h2, h3⟩
    exact ⟨u, h1, Sl.own h2, HB1.trans (h3.mono HB1.size), (h3.cell (lt_of_cell d0)).trans d0, (h3.block _ (by omega)).trans d2⟩)
  have hn1 := hG.n1
  have h64 : 2 ^ n ≤ 64 := (Nat.pow_le_pow_right (by omega) hG.n6 : 2 ^ n ≤ 2 ^ 6)
  have hlen : (stTo filQ (upF n es) (2 ^ n)).length ≤ 64 := Nat.le_trans (stTo_len _ _ _) h64
  have HX : Hid (∀ i, i < (stTo filQ (upF n es) (2 ^ n)).length → ∃ s : Nat, (stTo filQ (upF n es) (2 ^ n)).getD i 0 = (s : Int) ∧ s < 2 ^ n ∧ s < 64) := fun i hi => by
    obtain ⟨s, h1, h2⟩ := stFil_lt (f := upF n es) (k := 2 ^ n) (x := (stTo filQ (upF n es) (2 ^ n)).getD i 0) (by simp [hi])
    exact ⟨s, h1, h2, by omega⟩
  have HTW : Hid (∀ W, Below w.heap.size w W → TabB W) := fun W h => hT.below h
  have HM8 : Hid (∀ s k, s < 2 ^ n → k < (mem8 s).length → ∃ i : Nat, (mem8 s).getD k 0 = (i : Int) ∧ i < n) := fun s k h1 h2 => mem8_at h1 h2
  have hmk : ∀ w : World, (Instr.makeSlice 27 (.int .i64 (n : Int)) (.int .i64 (n : Int))).run Tryd.prog w = .ok (.slice (some ⟨w.heap.size, 0, none⟩) n n) (w.alloc (.cells (madeCells #[.int .i64 0] n) 3)) := run_make_row' (P := Tryd.prog) 27 3 (.int .i64 0) 8 Tryd.underlying27 (by kernel_rfl) rfl .i64 .i64 n (by omega) (by omega)
  have HMK : Hid (∀ w : World, (Instr.makeSlice 27 (.int .i64 (n : Int)) (.int .i64 (n : Int))).run Tryd.prog w = .ok (.slice (some ⟨w.heap.size, 0, none⟩) n n) (w.alloc (.cells (madeCells #[.int .i64 0] n) 3))) := hmk
  have hlo : w.heap.size ≤ b0 + 1 := by omega
  clear hv hG hT HB1 hs1 d0 d2 h64 hmk
  generalize stTo filQ (upF n es) (2 ^ n) = l at *
  generalize 2 ^ n = N2 at *
  have HPS : Hid (∀ i s, i < l.length → l.getD i 0 = ((s : Nat) : Int) → ptsL n (l.take (i + 1)) = ptsL n (l.take i) ++ [(List.range n).map fun k => if s.testBit k then 1 else 0]) := fun i s hi hs => by
    rw [take_snoc_int l i hi, ptsL_snoc, hs, Int.toNat_natCast]
  have HPL : Hid (∀ i, i ≤ l.length → (ptsL n (l.take i)).length = i) := fun i hi => by simp [ptsL]; omega
  have n4 : ¬ 4 < (n : Int) := by omega
  go_enter Tryd.func36, Tryd.ntmps36
  go_wp2_with fail
  try rw [← hW1]
  refine HST.out.mono ?_
  rintro e w2 ⟨u, rfl, hu, hb2, d0, d2⟩
  obtain ⟨uo, uc, huv, _, _⟩ := sl_open hu
  subst huv
  have HU : Hid (Sl 0 3 w2 (.slice uo l.length uc) (ints l)) := hu
  have HI0 : Hid (PtI w (b0 + 1) w2.heap.size n (ptsL n (l.take 0)) (w2.alloc (.cells #[.int .i64 (n : Int), .slice none 0 0] 40))) := PtI.start w w2 (b0 + 1) n hlo d2 hb2
  have HB2 : Hid (Below w2.heap.size w2 (w2.alloc (.cells #[.int .i64 (n : Int), .slice none 0 0] 40))) := (Below.refl _ _).alloc (Nat.le_refl _) _
  have HD0 : Hid (w2.cell? ⟨b0, 0, none⟩ = some (.int .i64 (n : Int)) ∧ b0 < w2.heap.size) := ⟨d0, lt_of_cell d0⟩
  obtain ⟨Q, hQ⟩ : ∃ Q, Q = w2.heap.size := ⟨_, rfl⟩
  rw [← hQ] at HI0 HB2
  try rw [← hb0]
  clear HST hu hb2 d2 hW1 hb0
  go_wp2
  rw [← hQ]
  have HQ : Hid (Q = w2.heap.size) := hQ
  clear hQ d0
  go_loopw [33] (fun iv wr => ∃ i : Nat, i ≤ l.length ∧ iv = .int .i64 (i : Int) ∧ PtI w (b0 + 1) Q n (ptsL n (l.take i)) wr ∧ (∀ b, b < Q → wr.heap[b]? = w2.heap[b]?)) (fun iv _ => l.length - (intOf iv).toNat)
  case atStart => exact ⟨0, Nat.zero_le _, rfl, HI0.out, fun b hb => HB2.out.block b hb⟩
  case round =>
    obtain ⟨i, hi, rfl, hp, hbl⟩ := hrel
    obtain ⟨wa, rfl⟩ : ∃ wa, wa = wr := ⟨_, rfl⟩
    have HP : Hid (PtI w (b0 + 1) Q n (ptsL n (l.take i)) wa) := hp
    have HBL : Hid (∀ b, b < Q → wa.heap[b]? = w2.heap[b]?) := hbl
    clear hp HI0 HB2 hbl
    by_cases hlt : i < l.length
    · obtain ⟨s, hs, hsN, hs64⟩ := HX.out i hlt
      obtain ⟨sb, so, cp, hsl, _, hcc⟩ := sl_cell HU.out hlt
      simp only [Value.slice.injEq, true_and] at hsl
      obtain ⟨rfl, rfl⟩ := hsl
      rw [hs] at hcc
      have c1 : wa.cell? ⟨sb, so + i, none⟩ = some (.int .i64 (s : Int)) := (World.cell?_of_block (w := w2) (a := ⟨sb, so + i, none⟩) (HBL.out sb (by rw [HQ.out]; exact lt_of_cell hcc))).trans hcc
      have c0 : wa.cell? ⟨b0, 0, none⟩ = some (.int .i64 (n : Int)) := (World.cell?_of_block (w := w2) (a := ⟨b0, 0, none⟩) (HBL.out b0 (by rw [HQ.out]; exact HD0.out.2))).trans HD0.out.1
      have HPX := HPS.out i s hlt hs
      have HPLX := HPL.out i hi
      have HPY : Hid (ptsL n (l.take (i + 1)) = ptsL n (l.take i) ++ [(List.range n).map fun k => if s.testBit k then 1 else 0]) := HPX
      have HPZ : Hid ((ptsL n (l.take i)).length = i) := HPLX
      obtain ⟨M, hM⟩ : ∃ M, M = wa.heap.size := ⟨_, rfl⟩
      have HM : Hid (M = wa.heap.size) := hM
      obtain ⟨wb, hwb⟩ : ∃ wb, wb = wa.alloc (.cells (madeCells #[.int .i64 0] n) 3) := ⟨_, rfl⟩
      have HN0 : Hid (NuR wb M n (fun _ => 0)) := by rw [hwb, hM]; exact World.rowIs_made wa (.int .i64 0) n 3
      have HBW : Hid (Below M wa wb) := by rw [hwb, hM]; exact (Below.refl _ _).alloc (Nat.le_refl _) _
      have HLI := list8_any s (by omega) wb (HTW.out wb (HP.out.bel.trans (HBW.out.mono (by have := HP.out.bel.size; omega))))
      have HMX : Hid (∀ j, j < (mem8 s).length → ∃ k : Nat, (mem8 s).getD j 0 = (k : Int) ∧ k < n) := fun j hj => HM8.out s j hsN hj
      have HMB : Hid (∀ k : Nat, k < n → ((k : Int) ∈ mem8 s ↔ s.testBit k = true)) := fun k hk => by
        rw [mem8_iff]
        exact ⟨fun ⟨j, _, h2, h3⟩ => by have : j = k := by omega
                                        subst this; exact h2, fun h => ⟨k, by omega, h, rfl⟩⟩
      have hL8 := mem8_len s
      have hw64 : IntKind.u64.wrap (s : Int) = (s : Int) := by
        rw [IntKind.wrap_u64]
        omega
      generalize mem8 s = L at *
      have iI : (i : Int) < (l.length : Int) := by omega
      have iI0 : (0 : Int) ≤ (i : Int) := by omega
      have hmk := HMK.out
      clear HPX HPLX hs hcc
      go_wp2_with fail
      try rw [← hwb]
      refine HLI.mono ?_
      rintro e w3 ⟨ul, rfl, hul, hb3⟩
      obtain ⟨lo, lc, hlv⟩ := owns_form hul
      subst hlv
      have HN3 : Hid (NuR w3 M n (fun j => if ((j : Nat) : Int) ∈ L.take 0 then 1 else 0)) := World.rowIs.congr (World.rowIs.of_block HN0.out (hb3.block M HN0.out.lt)) fun j _ => by simp
      have hMb : M < wb.heap.size := HN0.out.lt
      have HLC : Hid (∀ j, j < L.length → ∃ lb, lo = some ⟨lb, 0, none⟩ ∧ M < lb ∧ w3.cell? ⟨lb, j, none⟩ = some (.int .i64 (L.getD j 0))) := fun j hj => by
        rcases hul.2 with ⟨_, q0⟩ | ⟨g, cap, cur, f1, f2, f3, f4, f5, f6, f7⟩
        · omega
        · simp only [Value.slice.injEq, true_and] at f1
          refine ⟨g, f1.1, by omega, ?_⟩
          have hm : (ints L)[j]? = some (.int .i64 (L.getD j 0)) := ints_get L j hj
          rw [← f7, List.getElem?_take_of_lt (by omega), Array.getElem?_toList] at hm
          simp [World.cell?, f3, hm]
      have HB3 : Hid (Below M wa w3) := HBW.out.trans (hb3.mono (by omega))
      clear hul hb3 HLI HN0 HBW hwb hmk hw64 c1 c0
      rw [← hM] 
      clear hM
      go_wp2
      go_loopw [44] (fun jv wq => ∃ j : Nat, j ≤ L.length ∧ jv = .int .i64 (j : Int) ∧ NuR wq M n (fun k => if ((k : Nat) : Int) ∈ L.take j then 1 else 0) ∧ Below M wa wq ∧ (∀ b, M < b → b < w3.heap.size → wq.heap[b]? = w3.heap[b]?)) (fun jv _ => L.length - (intOf jv).toNat)
      case atStart => exact ⟨0, Nat.zero_le _, rfl, HN3.out, HB3.out, fun _ _ _ => rfl⟩
      case round =>
        obtain ⟨j, hj, rfl, hnu, hbq, hoth⟩ := hrel
        rename World => wq
        clear HN3 
        by_cases hlj : j < L.length
        · obtain ⟨k, hk, hkn⟩ := HMX.out j hlj
          obtain ⟨lb, rfl, hMl, hlc⟩ := HLC.out j hlj
          rw [hk] at hlc
          have cl : wq.cell? ⟨lb, j, none⟩ = some (.int .i64 (k : Int)) := (World.cell?_of_block (w := w3) (a := ⟨lb, j, none⟩) (hoth lb hMl (lt_of_cell hlc))).trans hlc
          have c2 := hnu.cell hkn
          have c3 := hnu.frozen k
          have HN4 : Hid (NuR (wq.setCell ⟨M, k, none⟩ (.int .i64 1)) M n (fun k => if ((k : Nat) : Int) ∈ L.take (j + 1) then 1 else 0)) := NuR.set hnu (by
              show (if ((k : Nat) : Int) ∈ L.take (j + 1) then 1 else 0) = _
              rw [take_snoc_int L j hlj, hk]
              simp) (fun y _ hy => by
              show (if ((y : Nat) : Int) ∈ L.take (j + 1) then 1 else 0) = if ((y : Nat) : Int) ∈ L.take j then 1 else 0
              rw [take_snoc_int L j hlj, hk]
              have : ¬ (y : Int) = (k : Int) := by omega
              simp [this])
          have HB4 : Hid (Below M wa (wq.setCell ⟨M, k, none⟩ (.int .i64 1))) := below_set hbq (Nat.le_refl _)
          have HO4 : Hid (∀ b, M < b → b < w3.heap.size → (wq.setCell ⟨M, k, none⟩ (.int .i64 1)).heap[b]? = w3.heap[b]?) := fun b h1 h2 => (Below.heap_setCell _ _ _ _ (by show b ≠ M; omega)).trans (hoth b h1 h2)
          have kI : (k : Int) < (n : Int) := by omega
          have kI0 : (0 : Int) ≤ (k : Int) := by omega
          have jI : (j : Int) < (L.length : Int) := by omega
          have jI0 : (0 : Int) ≤ (j : Int) := by omega
          clear hnu hbq hoth hk hlc
          generalize (if ((k : Nat) : Int) ∈ L.take j then (1 : Int) else 0) = ov at *
          go_wp2
          go_roundw
          case rel => exact ⟨j + 1, by omega, by go_num, HN4.out, HB4.out, HO4.out⟩
          case measure => simp [intOf]; omega
        · have hje : j = L.length := by omega
          subst hje
          rw [List.take_length] at hnu
          have hu : Sl 0 3 wq (.slice (some ⟨M, 0, none⟩) n n) (ints ((List.range n).map fun k => if s.testBit k then 1 else 0)) := nuR_sl (hnu.congr fun k hk => by
            have := HMB.out k hk
            show Value.int .i64 (if ((k : Nat) : Int) ∈ L then 1 else 0) = Value.int .i64 (if s.testBit k = true then 1 else 0)
            by_cases hb : s.testBit k = true
            · rw [if_pos hb, if_pos (this.2 hb)]
            · rw [if_neg hb, if_neg (fun e => hb (this.1 e))]) (by omega)
          obtain ⟨bo, bc, vs, q1, q2, q3, q4⟩ := HP.out.push (by rw [HM.out] at hbq; exact hbq) hu
          rw [HPZ.out] at q1 q2 q4
          have HQ2 : Hid (wq.ownsRow (Q + 1) 27 1 (.slice bo i bc) i vs) := q2
          have HQ4 : Hid (∀ v' w5, w5.ownsRow (Q + 1) 27 1 v' (i + 1) (vs ++ [.slice (some ⟨M, 0, none⟩) n n]) → (wq.alloc (.cells #[.slice (some ⟨M, 0, none⟩) n n] 27)).grownBy w5 (Value.slice bo i bc).ownBlock → w5.cell? ⟨Q, 1, none⟩ = some (.slice bo i bc) ∧ w5.frozen? ⟨Q, 1, none⟩ = false ∧ PtI w (b0 + 1) Q n (ptsL n (l.take i) ++ [(List.range n).map fun k => if s.testBit k then 1 else 0]) (w5.setCell ⟨Q, 1, none⟩ v')) := q4
          have q1a : (wq.alloc (.cells #[.slice (some ⟨M, 0, none⟩) n n] 27)).cell? ⟨Q, 1, none⟩ = some (.slice bo i bc) := (((Below.refl wq.heap.size wq).alloc (Nat.le_refl _) _).cell (lt_of_cell q1)).trans q1
          have hszR : Q + 1 ≤ wq.heap.size := q3
          have hQM : Q < M := by have := HP.out.sz; have := HM.out; omega
          have HBQ : Hid (∀ b, b < Q → wq.heap[b]? = w2.heap[b]?) := fun b hb => (hbq.block b (by omega)).trans (HBL.out b hb)
          clear q2 q4 hu hlj hj hnu hbq hoth
          go_wp2_with (first | (at_builtin; refine wpList_append_own _ rfl _ _ 28 rfl (Q + 1) 27 i0 (.slice none 0 0) 1 24 Tryd.underlying28 hi0 hz0 hz1 hz2 rfl (by decide) _ _ _ rfl (HQ2.out.alloc _) ⟨wq.heap.size, 0, none⟩ 1 1 [.slice (some ⟨M, 0, none⟩) n n] rfl rfl (one_new _ _ _) (one_slice _ _ _) ?d3 ?d4 ?d5 ?_))
          case d3 => unfold maxLen; omega
          case d4 => omega
          case d5 => first | exact hszR | omega | (simp; omega)
          intro v' w5 ho hg _
          obtain ⟨vo, vc, hv5⟩ := owns_form ho
          subst hv5
          obtain ⟨g1, g2, g3⟩ := HQ4.out _ w5 ho hg
          have HF : Hid (PtI w (b0 + 1) Q n (ptsL n (l.take (i + 1))) (w5.setCell ⟨Q, 1, none⟩ (.slice vo (i + 1) vc))) := by
            rw [HPY.out]
            exact g3
          have HBF : Hid (∀ b, b < Q → (w5.setCell ⟨Q, 1, none⟩ (.slice vo (i + 1) vc)).heap[b]? = w2.heap[b]?) := fun b hb => by
            refine (Below.heap_setCell _ _ _ _ (by show b ≠ Q; omega)).trans (Eq.trans ?_ (HBQ.out b hb))
            refine (hg.block b (by simp; omega) (fun e => ?_)).trans (Below.heap_alloc wq _ b (by omega))
            have := (HQ2.out.lt b e.symm).1
            omega
          clear g3 ho hg q1 q1a
          go_wp2
          go_roundw
          case rel => exact ⟨i + 1, by omega, by go_num, HF.out, HBF.out⟩
          case measure => simp [intOf]; omega
    · have hie : i = l.length := by omega
      subst hie
      rw [List.take_length] at HP
      obtain ⟨bo, bc, m0, m1, r0, r1, rf0, rf1, hmat, hbel⟩ := HP.out.fin
      have HMT : Hid (Mat 0 27 3 ((wa.setCell ⟨b0 + 1, 0, none⟩ (.int .i64 (n : Int))).setCell ⟨b0 + 1, 1, none⟩ (.slice bo (ptsL n l).length bc)) (.slice bo (ptsL n l).length bc) (ptsL n l)) := hmat
      have HBX : Hid (Below w.heap.size w ((wa.setCell ⟨b0 + 1, 0, none⟩ (.int .i64 (n : Int))).setCell ⟨b0 + 1, 1, none⟩ (.slice bo (ptsL n l).length bc))) := hbel
      clear hmat hbel HP
      go_wp2
      exact bodyPost_ret (v := .tuple #[.agg #[.int .i64 (n : Int), .slice bo (ptsL n l).length bc], .int .i64 0]) (by simp [results, Tryd.results36, go_sem, *]) rfl ⟨_, rfl, HMT.out, HBX.out⟩

set_option maxRecDepth 100000 in
set_option maxHeartbeats 1600000 in
theorem ofSetsFil_big (n : Nat) (es : List (Nat × Nat)) (pv : Value) (w : World) (hv : Prs w pv (npL es)) (hG : GdO n es) (hT : TabB w) (hn4 : 4 < n) :
    Calls Tryd.prog 36 #[.agg #[.int .i64 (n : Int), pv], .func (.func 14) #[] #[]] w fun e w' => e = .returned (.tuple #[.agg #[.int .i64 0, .slice none 0 0], .int .i64 1]) ∧ Below w.heap.size w w' := by
  obtain ⟨W1, hW1⟩ : ∃ W1, W1 = (w.alloc (.cells #[.int .i64 (n : Int), pv] 24)).alloc (.cells #[.int .i64 0, .slice none 0 0] 40) := ⟨_, rfl⟩
  obtain ⟨b0, hb0⟩ : ∃ b0, b0 = w.heap.size := ⟨_, rfl⟩
  have HB1 : Below w.heap.size w W1 := by rw [hW1]; exact ((Below.refl _ _).alloc (Nat.le_refl _) _).alloc (by simp) _
  have hs1 : W1.heap.size = w.heap.size + 2 := by rw [hW1]; simp
  have d0 : W1.cell? ⟨b0, 0, none⟩ = some (.int .i64 (n : Int)) := by rw [hW1, hb0]; simp
  have d2 : W1.heap[b0 + 1]? = some (.cells #[.int .i64 0, .slice none 0 0] 40 (0, 0)) := by
    have e : (w.alloc (.cells #[.int .i64 (n : Int), pv] 24)).heap.size = b0 + 1 := by rw [hb0]; simp
    rw [hW1, ← e]
    exact heap_alloc_new _ _
  have HST : Hid (Calls Tryd.prog 14 #[.agg #[.int .i64 (n : Int), pv]] W1 fun e w' => ∃ uo ul uc, e = .returned (.tuple #[.slice uo ul uc, .int .i64 0]) ∧ Below w.heap.size w w' ∧ w'.cell? ⟨b0, 0, none⟩ = some (.int .i64 (n : Int)) ∧ w'.heap[b0 + 1]? = some (.cells #[.int .i64 0, .slice none 0 0] 40 (0, 0))) := (filters_any n es pv W1 (hv.below HB1 (Nat.le_refl _)) hG (hT.below HB1)).mono (by
    rintro e w' ⟨u, h1, h2, h3⟩
    obtain ⟨uo, uc, rfl⟩ := owns_form h2
    exact ⟨uo, _, uc, h1, HB1.trans (h3.mono HB1.size), (h3.cell (lt_of_cell d0)).trans d0, (h3.block _ (by omega)).trans d2⟩)
  have n4 : 4 < (n : Int) := by omega
  clear hv hG hT HB1 hs1 d0 d2
  go_enter Tryd.func36, Tryd.ntmps36
  go_wp2_with fail
  try rw [← hW1]
  refine HST.out.mono ?_
  rintro e w2 ⟨uo, ul, uc, rfl, hb2, d0, d2⟩
  have r0 : w2.cell? ⟨b0 + 1, 0, none⟩ = some (.int .i64 0) := by simp [World.cell?, d2]
  have r1 : w2.cell? ⟨b0 + 1, 1, none⟩ = some (.slice none 0 0) := by simp [World.cell?, d2]
  have rf0 : w2.frozen? ⟨b0 + 1, 0, none⟩ = false := by simp [World.frozen?, d2]
  have rf1 : w2.frozen? ⟨b0 + 1, 1, none⟩ = false := by simp [World.frozen?, d2]
  have HBX : Hid (Below w.heap.size w ((w2.setCell ⟨b0 + 1, 0, none⟩ (.int .i64 0)).setCell ⟨b0 + 1, 1, none⟩ (.slice none 0 0))) := below_set (below_set hb2 (by show _ ≤ b0 + 1; omega)) (by show _ ≤ b0 + 1; omega)
  try rw [← hb0]
  clear HST hb2 d2 hW1 hb0
  go_wp2
  exact bodyPost_ret (v := .tuple #[.agg #[.int .i64 0, .slice none 0 0], .int .i64 1]) (by simp [results, Tryd.results36, go_sem, *]) rfl ⟨rfl, HBX.out⟩

set_option maxRecDepth 100000 in
set_option maxHeartbeats 1600000 in
theorem outFil_any (D : Nat) (E : Int) (pv : Value) (N : Int) (w : World) (hpv : ∃ po pl pc, pv = .slice po pl pc)
    (Q : Value → World → Prop)
    (hset : ∀ x W R, Q x W → W.heap[R]? = some (.cells #[.int .i64 0, .slice none 0 0] 40 (0, 0)) → Q x ((W.setCell ⟨R, 0, none⟩ (.int .i64 (D : Int))).setCell ⟨R, 1, none⟩ x))
    (hc : ∀ W, Below w.heap.size w W → Calls Tryd.prog 36 #[.agg #[.int .i64 N, pv], .func (.func 14) #[] #[]] W fun e w' => ∃ xo xl xc, e = .returned (.tuple #[.agg #[.int .i64 (D : Int), .slice xo xl xc], .int .i64 E]) ∧ Q (.slice xo xl xc) w' ∧ Below W.heap.size W w') :
    Calls Tryd.prog 18 #[.agg #[.int .i64 N, pv]] w fun e w' => ∃ x, e = .returned (.tuple #[.agg #[.int .i64 (D : Int), x], .int .i64 E]) ∧ Q x w' ∧ Below w.heap.size w w' := by
  obtain ⟨po, pl, pc, rfl⟩ := hpv
  obtain ⟨W1, hW1⟩ : ∃ W1, W1 = (w.alloc (.cells #[.int .i64 N, .slice po pl pc] 24)).alloc (.cells #[.int .i64 0, .slice none 0 0] 40) := ⟨_, rfl⟩
  obtain ⟨b0, hb0⟩ : ∃ b0, b0 = w.heap.size := ⟨_, rfl⟩
  have HB1 : Below w.heap.size w W1 := by rw [hW1]; exact ((Below.refl _ _).alloc (Nat.le_refl _) _).alloc (by simp) _
  have hs1 : W1.heap.size = w.heap.size + 2 := by rw [hW1]; simp
  have d2 : W1.heap[b0 + 1]? = some (.cells #[.int .i64 0, .slice none 0 0] 40 (0, 0)) := by
    have e : (w.alloc (.cells #[.int .i64 N, .slice po pl pc] 24)).heap.size = b0 + 1 := by rw [hb0]; simp
    rw [hW1, ← e]
    exact heap_alloc_new _ _
  have HC : Hid (Calls Tryd.prog 36 #[.agg #[.int .i64 N, .slice po pl pc], .func (.func 14) #[] #[]] W1 fun e w' => ∃ xo xl xc, e = .returned (.tuple #[.agg #[.int .i64 (D : Int), .slice xo xl xc], .int .i64 E]) ∧ Q (.slice xo xl xc) w' ∧ Below w.heap.size w w' ∧ w'.heap[b0 + 1]? = some (.cells #[.int .i64 0, .slice none 0 0] 40 (0, 0))) := (hc W1 HB1).mono (by
    rintro e w' ⟨xo, xl, xc, h1, h2, h3⟩
    exact ⟨xo, xl, xc, h1, h2, HB1.trans (h3.mono HB1.size), (h3.block _ (by omega)).trans d2⟩)
  have HSET : Hid (∀ x W R, Q x W → W.heap[R]? = some (.cells #[.int .i64 0, .slice none 0 0] 40 (0, 0)) → Q x ((W.setCell ⟨R, 0, none⟩ (.int .i64 (D : Int))).setCell ⟨R, 1, none⟩ x)) := hset
  clear hc HB1 hs1 d2 hset
  go_enter Tryd.func18, Tryd.ntmps18
  go_wp2_with fail
  try rw [← hW1]
  refine HC.out.mono ?_
  rintro e w2 ⟨xo, xl, xc, rfl, hq, hb2, d2⟩
  have r0 : w2.cell? ⟨b0 + 1, 0, none⟩ = some (.int .i64 0) := by simp [World.cell?, d2]
  have r1 : w2.cell? ⟨b0 + 1, 1, none⟩ = some (.slice none 0 0) := by simp [World.cell?, d2]
  have rf0 : w2.frozen? ⟨b0 + 1, 0, none⟩ = false := by simp [World.frozen?, d2]
  have rf1 : w2.frozen? ⟨b0 + 1, 1, none⟩ = false := by simp [World.frozen?, d2]
  have HBX : Hid (Below w.heap.size w ((w2.setCell ⟨b0 + 1, 0, none⟩ (.int .i64 (D : Int))).setCell ⟨b0 + 1, 1, none⟩ (.slice xo xl xc))) := below_set (below_set hb2 (by show _ ≤ b0 + 1; omega)) (by show _ ≤ b0 + 1; omega)
  have HQX : Hid (Q (.slice xo xl xc) ((w2.setCell ⟨b0 + 1, 0, none⟩ (.int .i64 (D : Int))).setCell ⟨b0 + 1, 1, none⟩ (.slice xo xl xc))) := HSET.out _ _ _ hq d2
  try rw [← hb0]
  clear HC hb2 d2 hW1 hb0 hq HSET
  go_wp2
  exact bodyPost_ret (v := .tuple #[.agg #[.int .i64 (D : Int), .slice xo xl xc], .int .i64 E]) (by simp [results, Tryd.results18, go_sem, *]) rfl ⟨_, rfl, HQX.out, HBX.out⟩

end Go.Proofs.YtcmemhdlendlkaaDoor

/- poset.ofSets, by one function; facet/poset.Chain. -/
namespace Go.Proofs.YtcmemhdlendlkaaDoor
open Go.RowKit
attribute [local go_sem ↓] Go.wp_at_zero Go.wp_at_succ

theorem stApa_bd {f : Nat → Nat} {k : Nat} (hk : k ≤ 64) {x : Int} (hx : x ∈ stTo apaQ f k) : ∃ s : Nat, x = (s : Int) ∧ s < 64 := by
  unfold stTo at hx
  obtain ⟨s, hs, rfl⟩ := List.mem_map.1 hx
  have := List.mem_range.1 (List.mem_filter.1 hs).1
  exact ⟨s, rfl, by omega⟩

theorem stApa_lt {f : Nat → Nat} {k : Nat} {x : Int} (hx : x ∈ stTo apaQ f k) : ∃ s : Nat, x = (s : Int) ∧ s < k := by
  unfold stTo at hx
  obtain ⟨s, hs, rfl⟩ := List.mem_map.1 hx
  exact ⟨s, rfl, List.mem_range.1 (List.mem_filter.1 hs).1⟩

set_option maxRecDepth 100000 in
set_option maxHeartbeats 3200000 in
theorem ofSetsApa_any (n : Nat) (es : List (Nat × Nat)) (pv : Value) (w : World) (hv : Prs w pv (npL es)) (hG : GdO n es) (hT : TabB w) (hn4 : n ≤ 4) :
    Calls Tryd.prog 36 #[.agg #[.int .i64 (n : Int), pv], .func (.func 15) #[] #[]] w fun e w' => ∃ u, e = .returned (.tuple #[.agg #[.int .i64 (n : Int), u], .int .i64 0]) ∧ Mat 0 27 3 w' u (ptsL n (stTo apaQ (upF n es) (2 ^ n))) ∧ Below w.heap.size w w' := by
  obtain ⟨i0, hi0, hz0, hz1, hz2⟩ := info_parts infoSl
  obtain ⟨W1, hW1⟩ : ∃ W1, W1 = (w.alloc (.cells #[.int .i64 (n : Int), pv] 24)).alloc (.cells #[.int .i64 0, .slice none 0 0] 40) := ⟨_, rfl⟩
  obtain ⟨b0, hb0⟩ : ∃ b0, b0 = w.heap.size := ⟨_, rfl⟩
  have HB1 : Below w.heap.size w W1 := by rw [hW1]; exact ((Below.refl _ _).alloc (Nat.le_refl _) _).alloc (by simp) _
  have hs1 : W1.heap.size = w.heap.size + 2 := by rw [hW1]; simp
  have d0 : W1.cell? ⟨b0, 0, none⟩ = some (.int .i64 (n : Int)) := by rw [hW1, hb0]; simp
  have d2 : W1.heap[b0 + 1]? = some (.cells #[.int .i64 0, .slice none 0 0] 40 (0, 0)) := by
    have e : (w.alloc (.cells #[.int .i64 (n : Int), pv] 24)).heap.size = b0 + 1 := by rw [hb0]; simp
    rw [hW1, ← e]
    exact heap_alloc_new _ _
  have HST : Hid (Calls Tryd.prog 15 #[.agg #[.int .i64 (n : Int), pv]] W1 fun e w' => ∃ u, e = .returned (.tuple #[u, .int .i64 0]) ∧ Sl 0 3 w' u (ints (stTo apaQ (upF n es) (2 ^ n))) ∧ Below w.heap.size w w' ∧ w'.cell? ⟨b0, 0, none⟩ = some (.int .i64 (n : Int)) ∧ w'.heap[b0 + 1]? = some (.cells #[.int .i64 0, .slice none 0 0] 40 (0, 0))) := (apartP_any n es pv W1 (hv.below HB1 (Nat.le_refl _)) hG (hT.below HB1)).mono (by
    rintro e w' ⟨u, h1, h2, h3⟩
    exact ⟨u, h1, Sl.own h2, HB1.trans (h3.mono HB1.size), (h3.cell (lt_of_cell d0)).trans d0, (h3.block _ (by omega)).trans d2⟩)
  have hn1 := hG.n1
  have h64 : 2 ^ n ≤ 64 := (Nat.pow_le_pow_right (by omega) hG.n6 : 2 ^ n ≤ 2 ^ 6)
  have hlen : (stTo apaQ (upF n es) (2 ^ n)).length ≤ 64 := Nat.le_trans (stTo_len _ _ _) h64
  have HX : Hid (∀ i, i < (stTo apaQ (upF n es) (2 ^ n)).length → ∃ s : Nat, (stTo apaQ (upF n es) (2 ^ n)).getD i 0 = (s : Int) ∧ s < 2 ^ n ∧ s < 64) := fun i hi => by
    obtain ⟨s, h1, h2⟩ := stApa_lt (f := upF n es) (k := 2 ^ n) (x := (stTo apaQ (upF n es) (2 ^ n)).getD i 0) (by simp [hi])
    exact ⟨s, h1, h2, by omega⟩
  have HTW : Hid (∀ W, Below w.heap.size w W → TabB W) := fun W h => hT.below h
  have HM8 : Hid (∀ s k, s < 2 ^ n → k < (mem8 s).length → ∃ i : Nat, (mem8 s).getD k 0 = (i : Int) ∧ i < n) := fun s k h1 h2 => mem8_at h1 h2
  have hmk : ∀ w : World, (Instr.makeSlice 27 (.int .i64 (n : Int)) (.int .i64 (n : Int))).run Tryd.prog w = .ok (.slice (some ⟨w.heap.size, 0, none⟩) n n) (w.alloc (.cells (madeCells #[.int .i64 0] n) 3)) := run_make_row' (P := Tryd.prog) 27 3 (.int .i64 0) 8 Tryd.underlying27 (by kernel_rfl) rfl .i64 .i64 n (by omega) (by omega)
  have HMK : Hid (∀ w : World, (Instr.makeSlice 27 (.int .i64 (n : Int)) (.int .i64 (n : Int))).run Tryd.prog w = .ok (.slice (some ⟨w.heap.size, 0, none⟩) n n) (w.alloc (.cells (madeCells #[.int .i64 0] n) 3))) := hmk
  have hlo : w.heap.size ≤ b0 + 1 := by omega
  clear hv hG hT HB1 hs1 d0 d2 h64 hmk
  generalize stTo apaQ (upF n es) (2 ^ n) = l at *
  generalize 2 ^ n = N2 at *
  have HPS : Hid (∀ i s, i < l.length → l.getD i 0 = ((s : Nat) : Int) → ptsL n (l.take (i + 1)) = ptsL n (l.take i) ++ [(List.range n).map fun k => if s.testBit k then 1 else 0]) := fun i s hi hs => by
    rw [take_snoc_int l i hi, ptsL_snoc, hs, Int.toNat_natCast]
  have HPL : Hid (∀ i, i ≤ l.length → (ptsL n (l.take i)).length = i) := fun i hi => by simp [ptsL]; omega
  have n4 : ¬ 4 < (n : Int) := by omega
  go_enter Tryd.func36, Tryd.ntmps36
  go_wp2_with fail
  try rw [← hW1]
  refine HST.out.mono ?_
  rintro e w2 ⟨u, rfl, hu, hb2, d0, d2⟩
  obtain ⟨uo, uc, huv, _, _⟩ := sl_open hu
  subst huv
  have HU : Hid (Sl 0 3 w2 (.slice uo l.length uc) (ints l)) := hu
  have HI0 : Hid (PtI w (b0 + 1) w2.heap.size n (ptsL n (l.take 0)) (w2.alloc (.cells #[.int .i64 (n : Int), .slice none 0 0] 40))) := PtI.start w w2 (b0 + 1) n hlo d2 hb2
  have HB2 : Hid (Below w2.heap.size w2 (w2.alloc (.cells #[.int .i64 (n : Int), .slice none 0 0] 40))) := (Below.refl _ _).alloc (Nat.le_refl _) _
  have HD0 : Hid (w2.cell? ⟨b0, 0, none⟩ = some (.int .i64 (n : Int)) ∧ b0 < w2.heap.size) := ⟨d0, lt_of_cell d0⟩
  obtain ⟨Q, hQ⟩ : ∃ Q, Q = w2.heap.size := ⟨_, rfl⟩
  rw [← hQ] at HI0 HB2
  try rw [← hb0]
  clear HST hu hb2 d2 hW1 hb0
  go_wp2
  rw [← hQ]
  have HQ : Hid (Q = w2.heap.size) := hQ
  clear hQ d0
  go_loopw [33] (fun iv wr => ∃ i : Nat, i ≤ l.length ∧ iv = .int .i64 (i : Int) ∧ PtI w (b0 + 1) Q n (ptsL n (l.take i)) wr ∧ (∀ b, b < Q → wr.heap[b]? = w2.heap[b]?)) (fun iv _ => l.length - (intOf iv).toNat)
  case atStart => exact ⟨0, Nat.zero_le _, rfl, HI0.out, fun b hb => HB2.out.block b hb⟩
  case round =>
    obtain ⟨i, hi, rfl, hp, hbl⟩ := hrel
    obtain ⟨wa, rfl⟩ : ∃ wa, wa = wr := ⟨_, rfl⟩
    have HP : Hid (PtI w (b0 + 1) Q n (ptsL n (l.take i)) wa) := hp
    have HBL : Hid (∀ b, b < Q → wa.heap[b]? = w2.heap[b]?) := hbl
    clear hp HI0 HB2 hbl
    by_cases hlt : i < l.length
    · obtain ⟨s, hs, hsN, hs64⟩ := HX.out i hlt
      obtain ⟨sb, so, cp, hsl, _, hcc⟩ := sl_cell HU.out hlt
      simp only [Value.slice.injEq, true_and] at hsl
      obtain ⟨rfl, rfl⟩ := hsl
      rw [hs] at hcc
      have c1 : wa.cell? ⟨sb, so + i, none⟩ = some (.int .i64 (s : Int)) := (World.cell?_of_block (w := w2) (a := ⟨sb, so + i, none⟩) (HBL.out sb (by rw [HQ.out]; exact lt_of_cell hcc))).trans hcc
      have c0 : wa.cell? ⟨b0, 0, none⟩ = some (.int .i64 (n : Int)) := (World.cell?_of_block (w := w2) (a := ⟨b0, 0, none⟩) (HBL.out b0 (by rw [HQ.out]; exact HD0.out.2))).trans HD0.out.1
      have HPX := HPS.out i s hlt hs
      have HPLX := HPL.out i hi
      have HPY : Hid (ptsL n (l.take (i + 1)) = ptsL n (l.take i) ++ [(List.range n).map fun k => if s.testBit k then 1 else 0]) := HPX
      have HPZ : Hid ((ptsL n (l.take i)).length = i) := HPLX
      obtain ⟨M, hM⟩ : ∃ M, M = wa.heap.size := ⟨_, rfl⟩
      have HM : Hid (M = wa.heap.size) := hM
      obtain ⟨wb, hwb⟩ : ∃ wb, wb = wa.alloc (.cells (madeCells #[.int .i64 0] n) 3) := ⟨_, rfl⟩
      have HN0 : Hid (NuR wb M n (fun _ => 0)) := by rw [hwb, hM]; exact World.rowIs_made wa (.int .i64 0) n 3
      have HBW : Hid (Below M wa wb) := by rw [hwb, hM]; exact (Below.refl _ _).alloc (Nat.le_refl _) _
      have HLI := list8_any s (by omega) wb (HTW.out wb (HP.out.bel.trans (HBW.out.mono (by have := HP.out.bel.size; omega))))
      have HMX : Hid (∀ j, j < (mem8 s).length → ∃ k : Nat, (mem8 s).getD j 0 = (k : Int) ∧ k < n) := fun j hj => HM8.out s j hsN hj
      have HMB : Hid (∀ k : Nat, k < n → ((k : Int) ∈ mem8 s ↔ s.testBit k = true)) := fun k hk => by
        rw [mem8_iff]
        exact ⟨fun ⟨j, _, h2, h3⟩ => by have : j = k := by omega
                                        subst this; exact h2, fun h => ⟨k, by omega, h, rfl⟩⟩
      have hL8 := mem8_len s
      have hw64 : IntKind.u64.wrap (s : Int) = (s : Int) := by
        rw [IntKind.wrap_u64]
        omega
      generalize mem8 s = L at *
      have iI : (i : Int) < (l.length : Int) := by omega
      have iI0 : (0 : Int) ≤ (i : Int) := by omega
      have hmk := HMK.out
      clear HPX HPLX hs hcc
      go_wp2_with fail
      try rw [← hwb]
      refine HLI.mono ?_
      rintro e w3 ⟨ul, rfl, hul, hb3⟩
      obtain ⟨lo, lc, hlv⟩ := owns_form hul
      subst hlv
      have HN3 : Hid (NuR w3 M n (fun j => if ((j : Nat) : Int) ∈ L.take 0 then 1 else 0)) := World.rowIs.congr (World.rowIs.of_block HN0.out (hb3.block M HN0.out.lt)) fun j _ => by simp
      have hMb : M < wb.heap.size := HN0.out.lt
      have HLC : Hid (∀ j, j < L.length → ∃ lb, lo = some ⟨lb, 0, none⟩ ∧ M < lb ∧ w3.cell? ⟨lb, j, none⟩ = some (.int .i64 (L.getD j 0))) := fun j hj => by
        rcases hul.2 with ⟨_, q0⟩ | ⟨g, cap, cur, f1, f2, f3, f4, f5, f6, f7⟩
        · omega
        · simp only [Value.slice.injEq, true_and] at f1
          refine ⟨g, f1.1, by omega, ?_⟩
          have hm : (ints L)[j]? = some (.int .i64 (L.getD j 0)) := ints_get L j hj
          rw [← f7, List.getElem?_take_of_lt (by omega), Array.getElem?_toList] at hm
          simp [World.cell?, f3, hm]
      have HB3 : Hid (Below M wa w3) := HBW.out.trans (hb3.mono (by omega))
      clear hul hb3 HLI HN0 HBW hwb hmk hw64 c1 c0
      rw [← hM] 
      clear hM
      go_wp2
      go_loopw [44] (fun jv wq => ∃ j : Nat, j ≤ L.length ∧ jv = .int .i64 (j : Int) ∧ NuR wq M n (fun k => if ((k : Nat) : Int) ∈ L.take j then 1 else 0) ∧ Below M wa wq ∧ (∀ b, M < b → b < w3.heap.size → wq.heap[b]? = w3.heap[b]?)) (fun jv _ => L.length - (intOf jv).toNat)
      case atStart => exact ⟨0, Nat.zero_le _, rfl, HN3.out, HB3.out, fun _ _ _ => rfl⟩
      case round =>
        obtain ⟨j, hj, rfl, hnu, hbq, hoth⟩ := hrel
        rename World => wq
        clear HN3 
        by_cases hlj : j < L.length
        · obtain ⟨k, hk, hkn⟩ := HMX.out j hlj
          obtain ⟨lb, rfl, hMl, hlc⟩ := HLC.out j hlj
          rw [hk] at hlc
          have cl : wq.cell? ⟨lb, j, none⟩ = some (.int .i64 (k : Int)) := (World.cell?_of_block (w := w3) (a := ⟨lb, j, none⟩) (hoth lb hMl (lt_of_cell hlc))).trans hlc
          have c2 := hnu.cell hkn
          have c3 := hnu.frozen k
          have HN4 : Hid (NuR (wq.setCell ⟨M, k, none⟩ (.int .i64 1)) M n (fun k => if ((k : Nat) : Int) ∈ L.take (j + 1) then 1 else 0)) := NuR.set hnu (by
              show (if ((k : Nat) : Int) ∈ L.take (j + 1) then 1 else 0) = _
              rw [take_snoc_int L j hlj, hk]
              simp) (fun y _ hy => by
              show (if ((y : Nat) : Int) ∈ L.take (j + 1) then 1 else 0) = if ((y : Nat) : Int) ∈ L.take j then 1 else 0
              rw [take_snoc_int L j hlj, hk]
              have : ¬ (y : Int) = (k : Int) := by omega
              simp [this])
          have HB4 : Hid (Below M wa (wq.setCell ⟨M, k, none⟩ (.int .i64 1))) := below_set hbq (Nat.le_refl _)
          have HO4 : Hid (∀ b, M < b → b < w3.heap.size → (wq.setCell ⟨M, k, none⟩ (.int .i64 1)).heap[b]? = w3.heap[b]?) := fun b h1 h2 => (Below.heap_setCell _ _ _ _ (by show b ≠ M; omega)).trans (hoth b h1 h2)
          have kI : (k : Int) < (n : Int) := by omega
          have kI0 : (0 : Int) ≤ (k : Int) := by omega
          have jI : (j : Int) < (L.length : Int) := by omega
          have jI0 : (0 : Int) ≤ (j : Int) := by omega
          clear hnu hbq hoth hk hlc
          generalize (if ((k : Nat) : Int) ∈ L.take j then (1 : Int) else 0) = ov at *
          go_wp2
          go_roundw
          case rel => exact ⟨j + 1, by omega, by go_num, HN4.out, HB4.out, HO4.out⟩
          case measure => simp [intOf]; omega
        · have hje : j = L.length := by omega
          subst hje
          rw [List.take_length] at hnu
          have hu : Sl 0 3 wq (.slice (some ⟨M, 0, none⟩) n n) (ints ((List.range n).map fun k => if s.testBit k then 1 else 0)) := nuR_sl (hnu.congr fun k hk => by
            have := HMB.out k hk
            show Value.int .i64 (if ((k : Nat) : Int) ∈ L then 1 else 0) = Value.int .i64 (if s.testBit k = true then 1 else 0)
            by_cases hb : s.testBit k = true
            · rw [if_pos hb, if_pos (this.2 hb)]
            · rw [if_neg hb, if_neg (fun e => hb (this.1 e))]) (by omega)
          obtain ⟨bo, bc, vs, q1, q2, q3, q4⟩ := HP.out.push (by rw [HM.out] at hbq; exact hbq) hu
          rw [HPZ.out] at q1 q2 q4
          have HQ2 : Hid (wq.ownsRow (Q + 1) 27 1 (.slice bo i bc) i vs) := q2
          have HQ4 : Hid (∀ v' w5, w5.ownsRow (Q + 1) 27 1 v' (i + 1) (vs ++ [.slice (some ⟨M, 0, none⟩) n n]) → (wq.alloc (.cells #[.slice (some ⟨M, 0, none⟩) n n] 27)).grownBy w5 (Value.slice bo i bc).ownBlock → w5.cell? ⟨Q, 1, none⟩ = some (.slice bo i bc) ∧ w5.frozen? ⟨Q, 1, none⟩ = false ∧ PtI w (b0 + 1) Q n (ptsL n (l.take i) ++ [(List.range n).map fun k => if s.testBit k then 1 else 0]) (w5.setCell ⟨Q, 1, none⟩ v')) := q4
          have q1a : (wq.alloc (.cells #[.slice (some ⟨M, 0, none⟩) n n] 27)).cell? ⟨Q, 1, none⟩ = some (.slice bo i bc) := (((Below.refl wq.heap.size wq).alloc (Nat.le_refl _) _).cell (lt_of_cell q1)).trans q1
          have hszR : Q + 1 ≤ wq.heap.size := q3
          have hQM : Q < M := by have := HP.out.sz; have := HM.out; omega
          have HBQ : Hid (∀ b, b < Q → wq.heap[b]? = w2.heap[b]?) := fun b hb => (hbq.block b (by omega)).trans (HBL.out b hb)
          clear q2 q4 hu hlj hj hnu hbq hoth
          go_wp2_with (first | (at_builtin; refine wpList_append_own _ rfl _ _ 28 rfl (Q + 1) 27 i0 (.slice none 0 0) 1 24 Tryd.underlying28 hi0 hz0 hz1 hz2 rfl (by decide) _ _ _ rfl (HQ2.out.alloc _) ⟨wq.heap.size, 0, none⟩ 1 1 [.slice (some ⟨M, 0, none⟩) n n] rfl rfl (one_new _ _ _) (one_slice _ _ _) ?d3 ?d4 ?d5 ?_))
          case d3 => unfold maxLen; omega
          case d4 => omega
          case d5 => first | exact hszR | omega | (simp; omega)
          intro v' w5 ho hg _
          obtain ⟨vo, vc, hv5⟩ := owns_form ho
          subst hv5
          obtain ⟨g1, g2, g3⟩ := HQ4.out _ w5 ho hg
          have HF : Hid (PtI w (b0 + 1) Q n (ptsL n (l.take (i + 1))) (w5.setCell ⟨Q, 1, none⟩ (.slice vo (i + 1) vc))) := by
            rw [HPY.out]
            exact g3
          have HBF : Hid (∀ b, b < Q → (w5.setCell ⟨Q, 1, none⟩ (.slice vo (i + 1) vc)).heap[b]? = w2.heap[b]?) := fun b hb => by
            refine (Below.heap_setCell _ _ _ _ (by show b ≠ Q; omega)).trans (Eq.trans ?_ (HBQ.out b hb))
            refine (hg.block b (by simp; omega) (fun e => ?_)).trans (Below.heap_alloc wq _ b (by omega))
            have := (HQ2.out.lt b e.symm).1
            omega
          clear g3 ho hg q1 q1a
          go_wp2
          go_roundw
          case rel => exact ⟨i + 1, by omega, by go_num, HF.out, HBF.out⟩
          case measure => simp [intOf]; omega
    · have hie : i = l.length := by omega
      subst hie
      rw [List.take_length] at HP
      obtain ⟨bo, bc, m0, m1, r0, r1, rf0, rf1, hmat, hbel⟩ := HP.out.fin
      have HMT : Hid (Mat 0 27 3 ((wa.setCell ⟨b0 + 1, 0, none⟩ (.int .i64 (n : Int))).setCell ⟨b0 + 1, 1, none⟩ (.slice bo (ptsL n l).length bc)) (.slice bo (ptsL n l).length bc) (ptsL n l)) := hmat
      have HBX : Hid (Below w.heap.size w ((wa.setCell ⟨b0 + 1, 0, none⟩ (.int .i64 (n : Int))).setCell ⟨b0 + 1, 1, none⟩ (.slice bo (ptsL n l).length bc))) := hbel
      clear hmat hbel HP
      go_wp2
      exact bodyPost_ret (v := .tuple #[.agg #[.int .i64 (n : Int), .slice bo (ptsL n l).length bc], .int .i64 0]) (by simp [results, Tryd.results36, go_sem, *]) rfl ⟨_, rfl, HMT.out, HBX.out⟩

set_option maxRecDepth 100000 in
set_option maxHeartbeats 1600000 in
theorem ofSetsApa_big (n : Nat) (es : List (Nat × Nat)) (pv : Value) (w : World) (hv : Prs w pv (npL es)) (hG : GdO n es) (hT : TabB w) (hn4 : 4 < n) :
    Calls Tryd.prog 36 #[.agg #[.int .i64 (n : Int), pv], .func (.func 15) #[] #[]] w fun e w' => e = .returned (.tuple #[.agg #[.int .i64 0, .slice none 0 0], .int .i64 1]) ∧ Below w.heap.size w w' := by
  obtain ⟨W1, hW1⟩ : ∃ W1, W1 = (w.alloc (.cells #[.int .i64 (n : Int), pv] 24)).alloc (.cells #[.int .i64 0, .slice none 0 0] 40) := ⟨_, rfl⟩
  obtain ⟨b0, hb0⟩ : ∃ b0, b0 = w.heap.size := ⟨_, rfl⟩
  have HB1 : Below w.heap.size w W1 := by rw [hW1]; exact ((Below.refl _ _).alloc (Nat.le_refl _) _).alloc (by simp) _
  have hs1 : W1.heap.size = w.heap.size + 2 := by rw [hW1]; simp
  have d0 : W1.cell? ⟨b0, 0, none⟩ = some (.int .i64 (n : Int)) := by rw [hW1, hb0]; simp
  have d2 : W1.heap[b0 + 1]? = some (.cells #[.int .i64 0, .slice none 0 0] 40 (0, 0)) := by
    have e : (w.alloc (.cells #[.int .i64 (n : Int), pv] 24)).heap.size = b0 + 1 := by rw [hb0]; simp
    rw [hW1, ← e]
    exact heap_alloc_new _ _
  have HST : Hid (Calls Tryd.prog 15 #[.agg #[.int .i64 (n : Int), pv]] W1 fun e w' => ∃ uo ul uc, e = .returned (.tuple #[.slice uo ul uc, .int .i64 0]) ∧ Below w.heap.size w w' ∧ w'.cell? ⟨b0, 0, none⟩ = some (.int .i64 (n : Int)) ∧ w'.heap[b0 + 1]? = some (.cells #[.int .i64 0, .slice none 0 0] 40 (0, 0))) := (apartP_any n es pv W1 (hv.below HB1 (Nat.le_refl _)) hG (hT.below HB1)).mono (by
    rintro e w' ⟨u, h1, h2, h3⟩
    obtain ⟨uo, uc, rfl⟩ := owns_form h2
    exact ⟨uo, _, uc, h1, HB1.trans (h3.mono HB1.size), (h3.cell (lt_of_cell d0)).trans d0, (h3.block _ (by omega)).trans d2⟩)
  have n4 : 4 < (n : Int) := by omega
  clear hv hG hT HB1 hs1 d0 d2
  go_enter Tryd.func36, Tryd.ntmps36
  go_wp2_with fail
  try rw [← hW1]
  refine HST.out.mono ?_
  rintro e w2 ⟨uo, ul, uc, rfl, hb2, d0, d2⟩
  have r0 : w2.cell? ⟨b0 + 1, 0, none⟩ = some (.int .i64 0) := by simp [World.cell?, d2]
  have r1 : w2.cell? ⟨b0 + 1, 1, none⟩ = some (.slice none 0 0) := by simp [World.cell?, d2]
  have rf0 : w2.frozen? ⟨b0 + 1, 0, none⟩ = false := by simp [World.frozen?, d2]
  have rf1 : w2.frozen? ⟨b0 + 1, 1, none⟩ = false := by simp [World.frozen?, d2]
  have HBX : Hid (Below w.heap.size w ((w2.setCell ⟨b0 + 1, 0, none⟩ (.int .i64 0)).setCell ⟨b0 + 1, 1, none⟩ (.slice none 0 0))) := below_set (below_set hb2 (by show _ ≤ b0 + 1; omega)) (by show _ ≤ b0 + 1; omega)
  try rw [← hb0]
  clear HST hb2 d2 hW1 hb0
  go_wp2
  exact bodyPost_ret (v := .tuple #[.agg #[.int .i64 0, .slice none 0 0], .int .i64 1]) (by simp [results, Tryd.results36, go_sem, *]) rfl ⟨rfl, HBX.out⟩

set_option maxRecDepth 100000 in
set_option maxHeartbeats 1600000 in
theorem outApa_any (D : Nat) (E : Int) (pv : Value) (N : Int) (w : World) (hpv : ∃ po pl pc, pv = .slice po pl pc)
    (Q : Value → World → Prop)
    (hset : ∀ x W R, Q x W → W.heap[R]? = some (.cells #[.int .i64 0, .slice none 0 0] 40 (0, 0)) → Q x ((W.setCell ⟨R, 0, none⟩ (.int .i64 (D : Int))).setCell ⟨R, 1, none⟩ x))
    (hc : ∀ W, Below w.heap.size w W → Calls Tryd.prog 36 #[.agg #[.int .i64 N, pv], .func (.func 15) #[] #[]] W fun e w' => ∃ xo xl xc, e = .returned (.tuple #[.agg #[.int .i64 (D : Int), .slice xo xl xc], .int .i64 E]) ∧ Q (.slice xo xl xc) w' ∧ Below W.heap.size W w') :
    Calls Tryd.prog 19 #[.agg #[.int .i64 N, pv]] w fun e w' => ∃ x, e = .returned (.tuple #[.agg #[.int .i64 (D : Int), x], .int .i64 E]) ∧ Q x w' ∧ Below w.heap.size w w' := by
  obtain ⟨po, pl, pc, rfl⟩ := hpv
  obtain ⟨W1, hW1⟩ : ∃ W1, W1 = (w.alloc (.cells #[.int .i64 N, .slice po pl pc] 24)).alloc (.cells #[.int .i64 0, .slice none 0 0] 40) := ⟨_, rfl⟩
  obtain ⟨b0, hb0⟩ : ∃ b0, b0 = w.heap.size := ⟨_, rfl⟩
  have HB1 : Below w.heap.size w W1 := by rw [hW1]; exact ((Below.refl _ _).alloc (Nat.le_refl _) _).alloc (by simp) _
  have hs1 : W1.heap.size = w.heap.size + 2 := by rw [hW1]; simp
  have d2 : W1.heap[b0 + 1]? = some (.cells #[.int .i64 0, .slice none 0 0] 40 (0, 0)) := by
    have e : (w.alloc (.cells #[.int .i64 N, .slice po pl pc] 24)).heap.size = b0 + 1 := by rw [hb0]; simp
    rw [hW1, ← e]
    exact heap_alloc_new _ _
  have HC : Hid (Calls Tryd.prog 36 #[.agg #[.int .i64 N, .slice po pl pc], .func (.func 15) #[] #[]] W1 fun e w' => ∃ xo xl xc, e = .returned (.tuple #[.agg #[.int .i64 (D : Int), .slice xo xl xc], .int .i64 E]) ∧ Q (.slice xo xl xc) w' ∧ Below w.heap.size w w' ∧ w'.heap[b0 + 1]? = some (.cells #[.int .i64 0, .slice none 0 0] 40 (0, 0))) := (hc W1 HB1).mono (by
    rintro e w' ⟨xo, xl, xc, h1, h2, h3⟩
    exact ⟨xo, xl, xc, h1, h2, HB1.trans (h3.mono HB1.size), (h3.block _ (by omega)).trans d2⟩)
  have HSET : Hid (∀ x W R, Q x W → W.heap[R]? = some (.cells #[.int .i64 0, .slice none 0 0] 40 (0, 0)) → Q x ((W.setCell ⟨R, 0, none⟩ (.int .i64 (D : Int))).setCell ⟨R, 1, none⟩ x)) := hset
  clear hc HB1 hs1 d2 hset
  go_enter Tryd.func19, Tryd.ntmps19
  go_wp2_with fail
  try rw [← hW1]
  refine HC.out.mono ?_
  rintro e w2 ⟨xo, xl, xc, rfl, hq, hb2, d2⟩
  have r0 : w2.cell? ⟨b0 + 1, 0, none⟩ = some (.int .i64 0) := by simp [World.cell?, d2]
  have r1 : w2.cell? ⟨b0 + 1, 1, none⟩ = some (.slice none 0 0) := by simp [World.cell?, d2]
  have rf0 : w2.frozen? ⟨b0 + 1, 0, none⟩ = false := by simp [World.frozen?, d2]
  have rf1 : w2.frozen? ⟨b0 + 1, 1, none⟩ = false := by simp [World.frozen?, d2]
  have HBX : Hid (Below w.heap.size w ((w2.setCell ⟨b0 + 1, 0, none⟩ (.int .i64 (D : Int))).setCell ⟨b0 + 1, 1, none⟩ (.slice xo xl xc))) := below_set (below_set hb2 (by show _ ≤ b0 + 1; omega)) (by show _ ≤ b0 + 1; omega)
  have HQX : Hid (Q (.slice xo xl xc) ((w2.setCell ⟨b0 + 1, 0, none⟩ (.int .i64 (D : Int))).setCell ⟨b0 + 1, 1, none⟩ (.slice xo xl xc))) := HSET.out _ _ _ hq d2
  try rw [← hb0]
  clear HC hb2 d2 hW1 hb0 hq HSET
  go_wp2
  exact bodyPost_ret (v := .tuple #[.agg #[.int .i64 (D : Int), .slice xo xl xc], .int .i64 E]) (by simp [results, Tryd.results19, go_sem, *]) rfl ⟨_, rfl, HQX.out, HBX.out⟩

end Go.Proofs.YtcmemhdlendlkaaDoor
