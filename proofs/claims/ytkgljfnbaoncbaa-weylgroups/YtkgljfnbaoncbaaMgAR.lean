import Derived.Test.YtkgljfnbaoncbaaMgAQ
import Derived.Test.YtkgljfnbaoncbaaGr3
import Derived.Test.YtkgljfnbaoncbaaMgAO
import Derived.Test.YtkgljfnbaoncbaaRq2
/- weyl.Degrees, weyl.Lengths. -/
namespace Go.Proofs.Ytkgljfnbaoncbaa
open Go.RowKit
attribute [local go_sem ↓] Go.wp_at_zero Go.wp_at_succ

theorem fr_mat {B : Nat} {w : World} {v : Value} {m : List (List Int)} (h : Fr B 26 3 w v m) : Mat w.heap.size 26 3 w v m := by
  obtain ⟨vs, h1, h2, h3⟩ := h
  exact ⟨vs, h1, Sl.own h2, fun i hi => (h3 i hi).more (Nat.zero_le _)⟩

/-- All that is to be seen of a square. -/
structure Chv (n : Nat) (c : List (List Int)) (M : List Int) (N : Nat) : Prop where
  ch : ChP c M N
  dg : DgP n M N

theorem dgL_len (n : Nat) (M : List Int) : (dgL n M).length = n := by simp [dgL]

set_option maxRecDepth 100000 in
set_option maxHeartbeats 1600000 in
theorem degrees_any (n : Nat) (c : List (List Int)) (M : List Int) (N : Nat) (cv : Value) (w : World) (hg : Gdc n c) (hx : Chv n c M N) (hm : Mat w.heap.size 26 3 w cv c) :
    Calls Try.prog 9 #[cv] w fun e w' => ∃ u, e = .returned (.tuple #[u, .int .i64 0]) ∧ w'.ownsRow w.heap.size 3 1 u n (ints (dgL n M)) ∧ Below w.heap.size w w' := by
  have hcl := hg.sq.len
  have hn1 := hg.n1
  have hn4 := hg.sq.n4
  obtain ⟨⟨hab, habl, _, hoh⟩, hM1, hM2, hD1, _⟩ := hx
  have HP : Hid (Calls Try.prog 24 #[cv] w fun e w' => ∃ u, e = .returned (.tuple #[u, .int .i64 0]) ∧ ∃ m : List (List Int), m.Perm (abL c) ∧ AscH m ∧ Fr w.heap.size 26 3 w' u m ∧ Below w.heap.size w w') := positive_any n c cv w hg hm
  have HOH : Hid (∀ (m : List (List Int)) u W, m.Perm (abL c) → Mat W.heap.size 26 3 W u m → Calls Try.prog 25 #[u] W fun e w' => ∃ x, e = .returned x ∧ w'.ownsRow W.heap.size 3 1 x M.length (ints M) ∧ Below W.heap.size W w') := fun m u W hp h => by
    have := ofHeights_any W.heap.size m u W h (by rw [hp.length_eq]; have := hg.many; omega) (fun b hb => ⟨gdc_smx hg (hp.mem_iff.1 hb), hab b (hp.mem_iff.1 hb)⟩)
    rw [ohL_perm hp, hoh] at this
    exact this
  have HMB : Hid (∀ k, k < M.length → 0 ≤ M.getD k 0 ∧ M.getD k 0 ≤ n) := fun k hk => hM1 _ (by simp [hk])
  have HDA : Hid (∀ j, j < n → (dgL n M).getD j 0 = dgF n M M.length j) := fun j hj => by unfold dgL; rw [getD_range hj]
  have HDB : Hid (∀ k j, 1 ≤ dgF n M k j ∧ dgF n M k j ≤ k + 1) := dgF_bd n M
  obtain ⟨ao, cap, hvv, _, hcm⟩ := mat_open hm
  subst hvv
  rw [hcl] at *
  have hmk : ∀ w : World, (Instr.makeSlice 26 (.int .i64 (n : Int)) (.int .i64 (n : Int))).run Try.prog w = .ok (.slice (some ⟨w.heap.size, 0, none⟩) n n) (w.alloc (.cells (madeCells #[.int .i64 0] n) 3)) := run_make_row' (P := Try.prog) 26 3 (.int .i64 0) 8 Try.underlying26 (by kernel_rfl) rfl .i64 .i64 n (by omega) (by omega)
  clear hg hm hab habl hoh hM1 hD1
  go_enter Try.func9, Try.ntmps9
  go_wp2_with fail
  refine HP.out.mono ?_
  rintro e w1 ⟨u, rfl, m, hp, hs, hf, hb1⟩
  have HPM : Hid (m.Perm (abL c)) := hp
  have HB1 : Hid (Below w.heap.size w w1) := hb1
  have HMT : Hid (Mat w1.heap.size 26 3 w1 u m) := fr_mat hf
  obtain ⟨uo, uc, huv⟩ : ∃ uo uc, u = .slice uo m.length uc := by
    obtain ⟨vs, g1, g2, g3⟩ := hf
    exact owns_form g2
  subst huv
  obtain ⟨W0, hW0⟩ : ∃ W0, W0 = w1.alloc (.cells (madeCells #[.int .i64 0] n) 3) := ⟨_, rfl⟩
  have HW0 : Hid (W0 = w1.alloc (.cells (madeCells #[.int .i64 0] n) 3)) := hW0
  have HR0 : Hid (W0.rowIs w1.heap.size 3 n (fun j => .int .i64 (if j < 0 then 1 else 0))) := by
    rw [hW0]
    refine (World.rowIs_made w1 _ _ _).congr (fun i hi => ?_)
    simp
  have HB0 : Hid (Below w1.heap.size w1 W0) := by rw [hW0]; exact (Below.refl _ _).alloc (Nat.le_refl _) _
  clear hp hs hf hb1 HP hW0
  generalize m.length = ml at *
  go_wp2
  rw [← HW0.out]
  go_loopw [24] (fun iv wr => ∃ i : Nat, i ≤ n ∧ iv = .int .i64 i ∧ wr.rowIs w1.heap.size 3 n (fun j => .int .i64 (if j < i then 1 else 0)) ∧ Below w1.heap.size w1 wr) (fun iv _ => n - (intOf iv).toNat)
  case atStart => exact ⟨0, Nat.zero_le _, rfl, HR0.out, HB0.out⟩
  case round =>
    obtain ⟨i, hi, rfl, hrow, hbr⟩ := hrel
    by_cases hlt : i < n
    · have x0 := hrow.cell hlt
      have hfz := hrow.frozen i
      have HR1 : Hid ((wr.setCell ⟨w1.heap.size, i, none⟩ (.int .i64 1)).rowIs w1.heap.size 3 n (fun j => .int .i64 (if j < i + 1 then 1 else 0))) := by
        refine (hrow.set i (.int .i64 1)).congr fun j hj => ?_
        by_cases e : j = i
        · subst e
          rw [if_pos rfl, if_pos (by omega)]
        · rw [if_neg e]
          by_cases e2 : j < i
          · rw [if_pos e2, if_pos (by omega)]
          · rw [if_neg e2, if_neg (by omega)]
      have HR2 : Hid (Below w1.heap.size w1 (wr.setCell ⟨w1.heap.size, i, none⟩ (.int .i64 1))) :=
        ⟨hbr.os, hbr.tape, hbr.output, by simp only [World.setCell, Array.size_modify]; exact hbr.size, fun b hb => (Below.heap_setCell _ _ _ _ (by simp only; omega)).trans (hbr.block b hb)⟩
      clear hrow hbr
      go_wp2
      go_roundw
      case rel => exact ⟨i + 1, by omega, by go_num, HR1.out, HR2.out⟩
      case measure => simp [intOf]; omega
    · have hie : i = n := by omega
      subst hie
      have HR1 : Hid (wr.rowIs w1.heap.size 3 i (fun j => .int .i64 (dgF i M 0 j))) := hrow.congr fun j hj => by rw [if_pos hj]; rfl
      have HBR : Hid (Below w1.heap.size w1 wr) := hbr
      have hg1 : w1.heap.size < wr.heap.size := hrow.lt
      have HOC := HOH.out m (.slice uo ml uc) wr HPM.out ((HMT.out.below hbr (Nat.le_refl _)).any (Nat.le_refl _))
      clear hrow hbr HOH HMT HR0 HB0 HW0 hmk
      go_wp2_with fail
      refine HOC.mono ?_
      rintro e w3 ⟨xv, rfl, hox, hb3⟩
      obtain ⟨xo, xc, hxv⟩ := owns_form hox
      subst hxv
      have HR3 : Hid (w3.rowIs w1.heap.size 3 i (fun j => .int .i64 (dgF i M 0 j))) := HR1.out.of_block (hb3.block _ hg1)
      have HB3 : Hid (Below w.heap.size w w3) := HB1.out.trans ((HBR.out.trans (hb3.mono HBR.out.size)).mono HB1.out.size)
      have HGW : Hid (w.heap.size ≤ w1.heap.size) := HB1.out.size
      have HCL : Hid (∀ W k, Only w1.heap.size w3 W → k < M.length → ∃ g, xo = some ⟨g, 0, none⟩ ∧ W.cell? ⟨g, k, none⟩ = some (.int .i64 (M.getD k 0))) := fun W k ho hk => by
        rcases hox.2 with ⟨_, h0⟩ | ⟨g, cap', cur, hv', hbg, _⟩
        · omega
        · simp only [Value.slice.injEq] at hv'
          obtain ⟨rfl, _, rfl⟩ := hv'
          refine ⟨g, rfl, ?_⟩
          rw [World.cell?_of_block (w := w3) (ho.block g (by omega)), hox.cellAt k (by omega), ints_get _ _ hk]
      clear hox hb3 HOC HR1 HBR HPM HB1
      generalize hML : M.length = ML at *
      have HML : Hid (M.length = ML) := hML
      clear hML
      go_wp2
      go_loopw [34] (fun iv wr => ∃ k : Nat, k ≤ ML ∧ iv = .int .i64 k ∧ wr.rowIs w1.heap.size 3 i (fun j => .int .i64 (dgF i M k j)) ∧ Only w1.heap.size w3 wr) (fun iv _ => ML - (intOf iv).toNat)
      case atStart => exact ⟨0, Nat.zero_le _, rfl, HR3.out, Only.refl _ _⟩
      case round =>
        obtain ⟨k, hk, rfl, hrow, hon⟩ := hrel
        have HRW : Hid (wr.rowIs w1.heap.size 3 i (fun j => .int .i64 (dgF i M k j))) := hrow
        have HON : Hid (Only w1.heap.size w3 wr) := hon
        clear hrow hon
        by_cases hlt2 : k < ML
        · obtain ⟨g, rfl, hcc⟩ := HCL.out wr k HON.out hlt2
          obtain ⟨hm0, hm1⟩ := HMB.out k hlt2
          obtain ⟨q, hq⟩ : ∃ q : Nat, M.getD k 0 = (q : Int) := ⟨(M.getD k 0).toNat, by omega⟩
          have HSU : Hid (∀ j, dgF i M (k + 1) j = dgF i M k j + if i - 1 - j < q then 1 else 0) := fun j => by
            show dgF i M k j + (if i - 1 - j < (M.getD k 0).toNat then 1 else 0) = _
            rw [hq]; rfl
          rw [hq] at hcc hm1
          have hqn : q ≤ i := by omega
          clear hq hm0 hm1
          go_wp2
          go_loopw [39] (fun iv wq => ∃ t : Nat, t ≤ q ∧ iv = .int .i64 t ∧ wq.rowIs w1.heap.size 3 i (fun j => .int .i64 (dgF i M k j + if i - 1 - j < t then 1 else 0)) ∧ Only w1.heap.size w3 wq) (fun iv _ => q - (intOf iv).toNat)
          case atStart =>
            refine ⟨0, Nat.zero_le _, rfl, HRW.out.congr fun j _ => ?_, HON.out⟩
            rw [if_neg (by omega), Int.add_zero]
          case round =>
            obtain ⟨t, ht, rfl, hrow, hon⟩ := hrel
            by_cases hlq : t < q
            · have hpl : i - 1 - t < i := by omega
              have x0 := hrow.cell hpl
              have hfz := hrow.frozen (i - 1 - t)
              have hdb := HDB.out k (i - 1 - t)
              rw [if_neg (by omega), Int.add_zero] at x0
              have HR1 : Hid ((wr.setCell ⟨w1.heap.size, i - 1 - t, none⟩ (.int .i64 (dgF i M k (i - 1 - t) + 1))).rowIs w1.heap.size 3 i (fun j => .int .i64 (dgF i M k j + if i - 1 - j < t + 1 then 1 else 0))) := by
                refine (hrow.set (i - 1 - t) (.int .i64 (dgF i M k (i - 1 - t) + 1))).congr fun j hj => ?_
                by_cases e : j = i - 1 - t
                · subst e
                  rw [if_pos rfl, if_pos (by omega)]
                · rw [if_neg e]
                  by_cases e2 : i - 1 - j < t
                  · rw [if_pos e2, if_pos (by omega)]
                  · rw [if_neg e2, if_neg (by omega)]
              have HR2 : Hid (Only w1.heap.size w3 (wr.setCell ⟨w1.heap.size, i - 1 - t, none⟩ (.int .i64 (dgF i M k (i - 1 - t) + 1)))) := hon.set _ _
              clear hrow hon
              generalize dgF i M k (i - 1 - t) = y at *
              obtain ⟨pl, hpe⟩ : ∃ pl, pl = i - 1 - t := ⟨_, rfl⟩
              rw [← hpe] at x0 hfz HR1 HR2 hpl
              have hpI : (i : Int) - 1 - (t : Int) = (pl : Int) := by omega
              have hplI : (pl : Int) < (i : Int) := by omega
              clear hpe
              go_wp2
              go_roundw
              case rel => exact ⟨t + 1, by omega, by go_num, HR1.out, HR2.out⟩
              case measure => simp [intOf]; omega
            · have hte : t = q := by omega
              subst hte
              have HR1 : Hid (wr.rowIs w1.heap.size 3 i (fun j => .int .i64 (dgF i M (k + 1) j))) := hrow.congr fun j _ => by rw [HSU.out j]
              have HR2 : Hid (Only w1.heap.size w3 wr) := hon
              clear hrow hon
              go_wp2
              go_roundw
              case rel => exact ⟨k + 1, by omega, by go_num, HR1.out, HR2.out⟩
              case measure => simp [intOf]; omega
        · have hke : k = ML := by omega
          have HO : Hid (wr.ownsRow w.heap.size 3 1 (.slice (some ⟨w1.heap.size, 0, none⟩) i i) i (ints (dgL i M))) := by
            refine row_own HRW.out HGW.out (by unfold maxLen; omega) (dgL_len i M) (fun j hj => ?_)
            rw [HDA.out j hj, hke]
          have HBF : Hid (Below w.heap.size w wr) := only_below HB3.out HON.out HGW.out
          go_wp2
          go_ret2
          exact ⟨_, rfl, HO.out, HBF.out⟩

set_option maxRecDepth 100000 in
set_option maxHeartbeats 1600000 in
theorem wlens_any (n : Nat) (c : List (List Int)) (M : List Int) (N : Nat) (cv : Value) (w : World) (hg : Gdc n c) (hx : Chv n c M N) (hm : Mat w.heap.size 26 3 w cv c) :
    Calls Try.prog 10 #[cv] w fun e w' => ∃ u, e = .returned (.tuple #[u, .int .i64 0]) ∧ w'.ownsRow w.heap.size 3 1 u (N + 1) (ints (lnL (dgL n M))) ∧ Below w.heap.size w w' := by
  have hcl := hg.sq.len
  have hn4 := hg.sq.n4
  have hn1 := hg.n1
  have HD : Hid (Calls Try.prog 9 #[cv] w fun e w' => ∃ u, e = .returned (.tuple #[u, .int .i64 0]) ∧ w'.ownsRow w.heap.size 3 1 u n (ints (dgL n M)) ∧ Below w.heap.size w w') := degrees_any n c M N cv w hg hx hm
  obtain ⟨_, _, _, hD1, hD2, hD3, _⟩ := hx
  have hdl := dgL_len n M
  have HDL : Hid ((dgL n M).length = n) := hdl
  have HDB : Hid (∀ k, k < n → 1 ≤ (dgL n M).getD k 0 ∧ (dgL n M).getD k 0 ≤ 30) := fun k hk => hD1 _ (by simp [hdl, hk])
  have HLB : Hid (∀ k, k ≤ n → (lnL ((dgL n M).take k)).length ≤ 100 ∧ 1 ≤ (lnL ((dgL n M).take k)).length ∧ ∀ x ∈ lnL ((dgL n M).take k), 0 ≤ x ∧ x ≤ 2000) := fun k hk => by
    obtain ⟨h1, h2, h3, _⟩ := hD2 k (by omega)
    exact ⟨h1, h2, h3⟩
  have HLS : Hid (∀ k, k < n → lnL ((dgL n M).take (k + 1)) = spr (lnL ((dgL n M).take k)) ((dgL n M).getD k 0).toNat) := fun k hk => lnL_snoc _ k (by rw [hdl]; exact hk)
  have HLE : Hid ((lnL (dgL n M)).length = N + 1) := hD3
  obtain ⟨ao, cap, hvv, _, hcm⟩ := mat_open hm
  subst hvv
  rw [hcl] at *
  clear hg hm hD1 hD2 hD3 hdl
  generalize dgL n M = D at *
  go_enter Try.func10, Try.ntmps10
  go_wp2_with fail
  refine HD.out.mono ?_
  rintro e w1 ⟨u, rfl, hod, hb1⟩
  obtain ⟨uo, uc, huv⟩ := owns_form hod
  subst huv
  have HOD : Hid (w1.ownsRow w.heap.size 3 1 (.slice uo n uc) n (ints D)) := hod
  have HB1 : Hid (Below w.heap.size w w1) := hb1
  have HS0 : Hid ((w1.alloc (.cells #[.int .i64 1] 3)).ownsRow w1.heap.size 3 1 (.slice (some ⟨w1.heap.size, 0, none⟩) 1 1) (lnL (D.take 0)).length (ints (lnL (D.take 0)))) := by
    exact World.ownsRow_lit w1 #[.int .i64 1] 1 (Nat.le_refl _) (by decide) rfl
  have HSB : Hid (Below w1.heap.size w1 (w1.alloc (.cells #[.int .i64 1] 3))) := (Below.refl _ _).alloc (Nat.le_refl _) _
  clear hod hb1 HD
  go_wp2
  go_loopw [6, 8, 20] (fun tv _ iv wr => ∃ k : Nat, k ≤ n ∧ iv = .int .i64 k ∧ wr.ownsRow w1.heap.size 3 1 tv (lnL (D.take k)).length (ints (lnL (D.take k))) ∧ Below w1.heap.size w1 wr) (fun _ _ iv _ => n - (intOf iv).toNat)
  case atStart => exact ⟨0, Nat.zero_le _, rfl, HS0.out, HSB.out⟩
  case round =>
    obtain ⟨k, hk, rfl, hot, hbr⟩ := hrel
    have HBR : Hid (Below w1.heap.size w1 wr) := hbr
    have hszr : w1.heap.size ≤ wr.heap.size := hbr.size
    obtain ⟨to, tc, htv⟩ := owns_form hot
    subst htv
    by_cases hlt : k < n
    · have hsd := (Sl.own (B := 0) HOD.out).below hbr (Nat.le_refl _)
      obtain ⟨b1, o1, cp1, hs, _, hcc⟩ := sl_cell hsd (k := k) (by rw [HDL.out]; exact hlt)
      rw [HDL.out] at hs
      simp only [Value.slice.injEq, true_and] at hs
      obtain ⟨rfl, rfl⟩ := hs
      obtain ⟨hd1, hd2⟩ := HDB.out k hlt
      obtain ⟨h1, h2, h3⟩ := HLB.out k hk
      obtain ⟨d, hd⟩ : ∃ d : Nat, D.getD k 0 = (d : Int) := ⟨(D.getD k 0).toNat, by omega⟩
      have hls := HLS.out k hlt
      rw [hd] at hcc hd1 hd2 hls
      have HLN : Hid (lnL (D.take (k + 1)) = spr (lnL (D.take k)) d) := hls
      have HSP := spread_any wr.heap.size (lnL (D.take k)) d _ wr ((Sl.own (B := 0) hot).more (Nat.zero_le _)) h2 (by omega) (by omega) (by omega) h3
      rw [← HLN.out] at HSP
      generalize (lnL (D.take k)).length = ll at *
      clear hsd hot hbr h1 h2 h3 hls hd
      go_wp2_with fail
      refine HSP.mono ?_
      rintro e w2 ⟨u2, rfl, ho2, hb2⟩
      have HO2 : Hid (w2.ownsRow w1.heap.size 3 1 u2 (lnL (D.take (k + 1))).length (ints (lnL (D.take (k + 1))))) := own_low ho2 hszr
      have HB2 : Hid (Below w1.heap.size w1 w2) := HBR.out.trans (hb2.mono hszr)
      obtain ⟨vo, vc, hvv⟩ := owns_form ho2
      subst hvv
      clear ho2 hb2 HSP
      generalize hLL : (lnL (D.take (k + 1))).length = LL at *
      have HLL : Hid ((lnL (D.take (k + 1))).length = LL) := hLL
      clear hLL
      go_wp2
      go_roundw
      case rel => exact ⟨k + 1, by omega, by go_num, by rw [HLL.out]; exact HO2.out, HB2.out⟩
      case measure => simp [intOf]; omega
    · have hke : D.take k = D := List.take_of_length_le (by rw [HDL.out]; omega)
      rw [hke] at hot ⊢
      rw [HLE.out] at hot ⊢
      have HO : Hid (wr.ownsRow w.heap.size 3 1 (.slice to (N + 1) tc) (N + 1) (ints (lnL D))) := own_low hot HB1.out.size
      have HBF : Hid (Below w.heap.size w wr) := HB1.out.trans (hbr.mono HB1.out.size)
      clear hot hbr
      go_wp2
      go_ret2
      exact ⟨_, rfl, HO.out, HBF.out⟩

end Go.Proofs.Ytkgljfnbaoncbaa

/- What the law of groups wants of a square, to be looked at by the kernel: the group is grown with a number that knows what has been. -/
namespace Go.Proofs.Ytkgljfnbaoncbaa

/-- A weight as a number. -/
def cdV (v : List Int) : Nat := v.foldl (fun a z => a * 12 + (z + 6).toNat) 0
def okV (v : List Int) : Bool := v.all fun z => decide (-6 ≤ z ∧ z ≤ 5)

def qsI (c : List (List Int)) (x : Nat × List Int) (n : Nat) : Nat → Nat → List (Nat × List Int) → Nat → (Nat → List (Nat × List Int) → Nat → Option (List (Nat × List Int))) → Option (List (Nat × List Int))
  | 0, len, V, s, k => k len V s
  | r + 1, len, V, s, k =>
    if okV (ovL c x.2 (n - (r + 1))) = true then
      (if Nat.testBit s (cdV (ovL c x.2 (n - (r + 1)))) = true then qsI c x n r len V s k
      else qsI c x n r (len + 1) ((x.1 + 1, ovL c x.2 (n - (r + 1))) :: V) (s ||| 1 <<< cdV (ovL c x.2 (n - (r + 1)))) k)
    else none

def qsO (c : List (List Int)) (n : Nat) : Nat → Nat → Nat → List (Nat × List Int) → Nat → Option (List (Nat × List Int))
  | 0, _, _, V, _ => some V
  | f + 1, i, len, V, s => if i < len then qsI c (V.getD (len - 1 - i) (0, [])) n n len V s fun len V s => qsO c n f (i + 1) len V s else some V

theorem cd_inj {u v : List Int} (hl : u.length = v.length) (hu : okV u = true) (hv : okV v = true) (h : cdV u = cdV v) : u = v := by
  have gen : ∀ (u v : List Int) (a b : Nat), u.length = v.length → okV u = true → okV v = true → u.foldl (fun a z => a * 12 + (z + 6).toNat) a = v.foldl (fun a z => a * 12 + (z + 6).toNat) b → u = v ∧ a = b := by
    intro u
    induction u with
    | nil =>
      intro v a b hl _ _ h
      have : v = [] := by cases v with | nil => rfl | cons _ _ => simp at hl
      subst this
      exact ⟨rfl, h⟩
    | cons z u ih =>
      intro v a b hl hu hv h
      cases v with
      | nil => simp at hl
      | cons y v =>
        unfold okV at hu hv
        rw [List.all_cons, Bool.and_eq_true, decide_eq_true_eq] at hu hv
        obtain ⟨e1, e2⟩ := ih v _ _ (by simpa using hl) hu.2 hv.2 h
        have e2 : a * 12 + (z + 6).toNat = b * 12 + (y + 6).toNat := e2
        have hz := hu.1
        have hy := hv.1
        have e3 : z = y := by omega
        have e4 : a = b := by omega
        exact ⟨by rw [e1, e3], e4⟩
  exact (gen u v 0 0 hl hu hv h).1

/-- What the number knows. -/
structure Qs (n : Nat) (V : List (Nat × List Int)) (len : Nat) (Vr : List (Nat × List Int)) (s : Nat) : Prop where
  rv : Vr.reverse = V
  ln : len = V.length
  ok : ∀ y ∈ V, okV y.2 = true ∧ y.2.length = n
  se : ∀ v : List Int, okV v = true → v.length = n → Nat.testBit s (cdV v) = V.any fun y => y.2 == v

theorem Qs.add {n : Nat} {V : List (Nat × List Int)} {len : Nat} {Vr : List (Nat × List Int)} {s : Nat} (h : Qs n V len Vr s) (k : Nat) {v : List Int} (hv : okV v = true) (hn : v.length = n) :
    Qs n (V ++ [(k, v)]) (len + 1) ((k, v) :: Vr) (s ||| 1 <<< cdV v) := by
  refine ⟨by rw [List.reverse_cons, h.rv], by rw [h.ln]; simp, fun y hy => ?_, fun u hu hl => ?_⟩
  · rcases List.mem_append.1 hy with hy | hy
    · exact h.ok y hy
    · rw [List.mem_singleton] at hy; subst hy; exact ⟨hv, hn⟩
  · rw [List.any_append, Nat.testBit_or, h.se u hu hl]
    congr 1
    simp only [List.any_cons, List.any_nil, Bool.or_false]
    rw [Nat.one_shiftLeft, Nat.testBit_two_pow]
    by_cases e : v = u
    · subst e; simp
    · have : cdV v ≠ cdV u := fun q => e (cd_inj (by rw [hn, hl]) hv hu q)
      simp [this, e]

theorem qs_I {n : Nat} {c : List (List Int)} (hc : c.length = n) {i : Nat} {x : Nat × List Int} {V0 : List (Nat × List Int)} (hi : i < V0.length) (hx : V0.getD i (0, []) = x) (k : Nat → List (Nat × List Int) → Nat → Option (List (Nat × List Int))) (res : List (Nat × List Int)) :
    ∀ (r len : Nat) (Vr : List (Nat × List Int)) (s : Nat), r ≤ n → Qs n (vsI c i (n - r) V0) len Vr s → qsI c x n r len Vr s k = some res → ∃ len' Vr' s', Qs n (vsI c i n V0) len' Vr' s' ∧ k len' Vr' s' = some res
  | 0, len, Vr, s, _, hq, h => ⟨len, Vr, s, hq, h⟩
  | r + 1, len, Vr, s, hr, hq, h => by
    have hpre : ∀ j, V0 <+: vsI c i j V0 := fun j => by
      induction j with
      | zero => exact List.prefix_refl _
      | succ j ih =>
        refine ih.trans ?_
        show _ <+: vsS c i j _
        unfold vsS
        split
        · exact List.prefix_refl _
        · exact List.prefix_append _ _
    have hgx : (vsI c i (n - (r + 1)) V0).getD i (0, []) = x := by
      obtain ⟨t, ht⟩ := hpre (n - (r + 1))
      rw [← ht, ← hx]
      simp only [List.getD_eq_getElem?_getD]
      rw [List.getElem?_append_left hi]
    have hstep : vsI c i (n - r) V0 = vsS c i (n - (r + 1)) (vsI c i (n - (r + 1)) V0) := by
      rw [show n - r = n - (r + 1) + 1 by omega]; rfl
    unfold qsI at h
    split at h
    · rename_i hok
      have hol : (ovL c x.2 (n - (r + 1))).length = n := by rw [ovL_len, hc]
      rw [hq.se _ hok hol] at h
      split at h
      · rename_i hin
        refine qs_I hc hi hx k res r len Vr s (by omega) ?_ h
        rw [hstep]
        unfold vsS
        rw [hgx, if_pos hin]
        exact hq
      · rename_i hin
        refine qs_I hc hi hx k res r _ _ _ (by omega) ?_ h
        rw [hstep]
        unfold vsS
        rw [hgx, if_neg hin]
        exact hq.add _ hok hol
    · cases h

theorem qs_O {n : Nat} {c : List (List Int)} (hc : c.length = n) : ∀ (f i len : Nat) (V Vr : List (Nat × List Int)) (s : Nat) (res : List (Nat × List Int)), Qs n V len Vr s → qsO c n f i len Vr s = some res → res.reverse = vsO c n f i V
  | 0, i, len, V, Vr, s, res, hq, h => by
    unfold qsO at h
    simp only [Option.some.injEq] at h
    subst h
    exact hq.rv
  | f + 1, i, len, V, Vr, s, res, hq, h => by
    unfold qsO at h
    unfold vsO
    have hl := hq.ln
    split at h
    · rename_i hi
      have hiV : i < V.length := by omega
      rw [if_pos hiV]
      have hrl : Vr.length = V.length := by rw [← hq.rv, List.length_reverse]
      have hx : V.getD i (0, []) = Vr.getD (len - 1 - i) (0, []) := by
        rw [← hq.rv]
        simp only [List.getD_eq_getElem?_getD]
        rw [List.getElem?_reverse (by omega), hl, ← hrl]
      obtain ⟨len', Vr', s', h1, h2⟩ := qs_I hc hiV hx _ res n len Vr s (Nat.le_refl _) (by rw [Nat.sub_self]; exact hq) h
      exact qs_O hc f (i + 1) len' _ Vr' s' res h1 h2
    · rename_i hi
      rw [if_neg (by omega)]
      simp only [Option.some.injEq] at h
      subst h
      exact hq.rv

def qsL (c : List (List Int)) (n : Nat) : Option (List (Nat × List Int)) := qsO c n 201 0 1 [(0, ones n)] (1 <<< cdV (ones n))

theorem ones_okV (n : Nat) : okV (ones n) = true := by
  unfold okV ones
  rw [List.all_eq_true]
  intro z hz
  rw [List.mem_replicate] at hz
  rw [hz.2]; decide

theorem qs_L {n : Nat} {c : List (List Int)} (hc : c.length = n) {res : List (Nat × List Int)} (h : qsL c n = some res) : res.reverse = vsL c n := by
  refine qs_O hc 201 0 1 [(0, ones n)] _ _ res ⟨rfl, rfl, fun y hy => ?_, fun v hv hl => ?_⟩ h
  · rw [List.mem_singleton] at hy
    subst hy
    exact ⟨ones_okV n, by simp [ones]⟩
  · simp only [List.any_cons, List.any_nil, Bool.or_false]
    rw [Nat.one_shiftLeft, Nat.testBit_two_pow]
    by_cases e : ones n = v
    · subst e; simp
    · have : cdV (ones n) ≠ cdV v := fun q => e (cd_inj (by rw [hl]; simp [ones]) (ones_okV n) hv q)
      simp [this, e]

def ggW (V : List (Nat × List Int)) (n : Nat) (l : List Int) : Bool :=
  decide (V.length ≤ 200) && (lcL (V.map Prod.fst) == l) && (V.all fun y => decide (y.1 ≤ (V.map Prod.fst).getD (V.length - 1) 0)) && decide ((V.map Prod.fst).getD (V.length - 1) 0 ≤ 500 + 0 * n)

def ggV (c : List (List Int)) (n : Nat) : Bool := ggW (vsL c n) n (lnL (dgL n (ohL (abL c))))

def ggQ (c : List (List Int)) (n : Nat) : Bool := match qsL c n with
  | some V => ggW V.reverse n (lnL (dgL n (ohL (abL c))))
  | none => false

theorem ggQ_V {n : Nat} {c : List (List Int)} (hc : c.length = n) (h : ggQ c n = true) : ggV c n = true := by
  unfold ggQ at h
  cases hq : qsL c n with
  | none => rw [hq] at h; cases h
  | some V =>
    rw [hq] at h
    unfold ggV
    rw [← qs_L hc hq]
    exact h

def ggB (c : List (List Int)) (n : Nat) : Bool :=
  decide (ChP c (ohL (abL c)) (abL c).length) && decide (DgP n (ohL (abL c)) (abL c).length) && ((List.range (paL c).length).all fun t => decide (0 < (prN c n t).length)) &&
  (dgR c n == dgL n (ohL (abL c))) && ((dgL n (ohL (abL c))).all fun x => decide (1 ≤ x ∧ x ≤ 12)) && ((abL c).all fun b => b.all fun x => decide (-100 ≤ x ∧ x ≤ 100)) &&
  (decide (200 < (lnL (dgL n (ohL (abL c)))).sum) || ggQ c n)

end Go.Proofs.Ytkgljfnbaoncbaa

/- Squares of ranks 1 to 3: their groups, looked at by the kernel. -/
namespace Go.Proofs.Ytkgljfnbaoncbaa

def Gk4 (i j k : Nat) : Prop := ∀ s ∈ List.range 6, ∀ t ∈ List.range 6, t3 i s t = true → ∀ u ∈ List.range 6, t3 j s u = true → t3 k t u = true → (abL (sq4 (pq i) (pq j) (pq k) (pq s) (pq t) (pq u))).length ≤ 24 → ggB (sq4 (pq i) (pq j) (pq k) (pq s) (pq t) (pq u)) 4 = true

instance (i j k : Nat) : Decidable (Gk4 i j k) := by unfold Gk4; infer_instance

set_option maxRecDepth 100000 in
set_option maxHeartbeats 0 in
theorem gk1 : ggB [[2]] 1 = true := by decide +kernel

set_option maxRecDepth 100000 in
set_option maxHeartbeats 0 in
theorem gk2 : ∀ i ∈ List.range 6, ggB (sq2 (pq i)) 2 = true := by decide +kernel

set_option maxRecDepth 100000 in
set_option maxHeartbeats 0 in
theorem gk3 : ∀ i ∈ List.range 6, ∀ j ∈ List.range 6, ∀ k ∈ List.range 6, t3 i j k = true → ggB (sq3 (pq i) (pq j) (pq k)) 3 = true := by decide +kernel

end Go.Proofs.Ytkgljfnbaoncbaa
