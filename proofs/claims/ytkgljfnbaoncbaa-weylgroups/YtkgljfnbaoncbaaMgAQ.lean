import Derived.Test.YtkgljfnbaoncbaaMgAP
import Derived.Test.YtkgljfnbaoncbaaMgAG
/- root.Positive, weyl.ofHeights. -/
namespace Go.Proofs.Ytkgljfnbaoncbaa
open Go.RowKit
attribute [local go_sem ↓] Go.wp_at_zero Go.wp_at_succ

theorem ab_some {n : Nat} {c : List (List Int)} (hg : Gdc n c) : 0 < (abL c).length := by
  have h := (abO_pre c 30 0 ((List.range c.length).map fun r => un c.length r)).length_le
  have h2 : ((List.range c.length).map fun r => un c.length r).length = c.length := by simp
  have h3 := hg.sq.len
  have h4 := hg.n1
  show 0 < (abO c 30 0 _).length
  omega

theorem gdc_smx {n : Nat} {c : List (List Int)} (hg : Gdc n c) {b : List Int} (hb : b ∈ abL c) : SmX b := by
  obtain ⟨h1, h2⟩ := hg.bd b hb
  have h3 := hg.sq.n4
  refine ⟨by omega, fun z hz => ?_⟩
  obtain ⟨k, hk, e⟩ := List.mem_iff_getElem.1 hz
  have := h2 k
  have e2 : b.getD k 0 = z := by simp [hk, e]
  omega

/-- By heights, then in order. -/
def AscH (m : List (List Int)) : Prop := ∀ i j, i < j → j < m.length → ¬ hcf (m.getD j []) (m.getD i []) < 0

set_option maxRecDepth 100000 in
set_option maxHeartbeats 1600000 in
theorem positive_any (n : Nat) (c : List (List Int)) (cv : Value) (w : World) (hg : Gdc n c) (hm : Mat w.heap.size 26 3 w cv c) :
    Calls Try.prog 24 #[cv] w fun e w' => ∃ u, e = .returned (.tuple #[u, .int .i64 0]) ∧ ∃ m : List (List Int), m.Perm (abL c) ∧ AscH m ∧ Fr w.heap.size 26 3 w' u m ∧ Below w.heap.size w w' := by
  have HC : Hid (Calls Try.prog 44 #[cv] w fun e w' => ∃ u, e = .returned (.tuple #[u, .int .i64 0]) ∧ Fr w.heap.size 26 3 w' u (abL c) ∧ Below w.heap.size w w') := checkedR_any n c cv w hg hm
  have HS : Hid (∀ u W, Fr w.heap.size 26 3 W u (abL c) → Calls Try.prog 45 #[u, .func (.func 46) #[] #[]] W fun e w' => e = .returned (.tuple #[]) ∧ ∃ m' : List (List Int), m'.Perm (abL c) ∧ AscH m' ∧ Fr w.heap.size 26 3 w' u m' ∧ Below w.heap.size W w') := fun u W h =>
    sortH_any w.heap.size (abL c) u W h (ab_some hg) (by have := hg.many; omega) (fun i hi => gdc_smx hg (by simp [hi]))
  obtain ⟨ao, cap, hvv, _, hcm⟩ := mat_open hm
  subst hvv
  clear hg hm
  go_enter Try.func24, Try.ntmps24
  go_wp2_with fail
  refine HC.out.mono ?_
  rintro e w1 ⟨u, rfl, hf1, hb1⟩
  have HB1 : Hid (Below w.heap.size w w1) := hb1
  have HS1 := HS.out u w1 hf1
  obtain ⟨uo, uc, huv⟩ : ∃ uo uc, u = .slice uo (abL c).length uc := by
    obtain ⟨vs, g1, g2, g3⟩ := hf1
    exact owns_form g2
  subst huv
  clear hf1 hb1 HC HS
  generalize (abL c).length = al at *
  go_wp2_with fail
  refine HS1.mono ?_
  rintro e w2 ⟨rfl, m, hp, hs, hf2, hb2⟩
  have HP : Hid (m.Perm (abL c)) := hp
  have HSO : Hid (AscH m) := hs
  have HF : Hid (Fr w.heap.size 26 3 w2 (.slice uo al uc) m) := hf2
  have HB2 : Hid (Below w.heap.size w w2) := HB1.out.trans hb2
  clear hp hs hf2 hb2 HS1
  go_wp2
  go_ret2
  exact ⟨_, rfl, m, HP.out, HSO.out, HF.out, HB2.out⟩

def slLen : Value → Nat
  | .slice _ n _ => n
  | _ => 0

theorem rep_snoc (M : List Int) (j : Nat) : M ++ List.replicate (j + 1) 0 = (M ++ List.replicate j 0) ++ [0] := by
  rw [List.replicate_succ', List.append_assoc]

set_option maxRecDepth 100000 in
set_option maxHeartbeats 1600000 in
theorem ofHeights_any (B : Nat) (m : List (List Int)) (v : Value) (w : World) (hv : Mat B 26 3 w v m) (hml : m.length ≤ 1000) (hb : ∀ b ∈ m, SmX b ∧ 0 ≤ b.sum ∧ b.sum ≤ 90) :
    Calls Try.prog 25 #[v] w fun e w' => ∃ u, e = .returned u ∧ w'.ownsRow w.heap.size 3 1 u (ohL m).length (ints (ohL m)) ∧ Below w.heap.size w w' := by
  obtain ⟨i3, hi3, hz30, hz31, hz32⟩ := info_parts Try.info3
  obtain ⟨ao, cap, hvv, hlc, hcm⟩ := mat_open hv
  subst hvv
  have HV : Hid (Mat B 26 3 w (.slice ao m.length cap) m) := hv
  have HB : Hid (∀ b ∈ m, SmX b ∧ 0 ≤ b.sum ∧ b.sum ≤ 90) := hb
  have HLB : Hid (∀ k, k ≤ m.length → (ohL (m.take k)).length ≤ 91) := fun k hk => ohL_lb m (H := 90) (fun b hb' => by have := hb b hb'; unfold hgN; omega) k hk
  have HBD : Hid (∀ k, k ≤ m.length → ∀ j, 0 ≤ (ohL (m.take k)).getD j 0 ∧ (ohL (m.take k)).getD j 0 ≤ k) := fun k hk j => ohL_bd m k hk j
  clear hv hb
  go_enter Try.func25, Try.ntmps25
  go_wp2
  go_loopw [3, 5, 6, 9] (fun tv _ _ iv wr => ∃ k : Nat, k ≤ m.length ∧ iv = .int .i64 k ∧ wr.ownsRow w.heap.size 3 1 tv (ohL (m.take k)).length (ints (ohL (m.take k))) ∧ Below w.heap.size w wr) (fun _ _ _ iv _ => m.length - (intOf iv).toNat)
  case atStart => exact ⟨0, Nat.zero_le _, rfl, World.ownsRow_nil _ _ _ _, Below.refl _ _⟩
  case round =>
    obtain ⟨k, hk, rfl, hot, hbr⟩ := hrel
    have HBR : Hid (Below w.heap.size w wr) := hbr
    obtain ⟨to, tc, htv⟩ := owns_form hot
    subst htv
    have HOT : Hid (wr.ownsRow w.heap.size 3 1 (.slice to (ohL (m.take k)).length tc) (ohL (m.take k)).length (ints (ohL (m.take k)))) := hot
    clear hot hbr
    by_cases hlt : k < m.length
    · obtain ⟨b1, o1, cp1, r1, hs, _, hcc, hr1⟩ := mat_cell (HV.out.below HBR.out (Nat.le_refl _)) (k := k) hlt
      simp only [Value.slice.injEq, true_and] at hs
      obtain ⟨rfl, rfl⟩ := hs
      obtain ⟨ro, rc, hrv, _, _⟩ := sl_open hr1
      subst hrv
      have hmem : m.getD k [] ∈ m := by simp [hlt]
      obtain ⟨hsm, hs0, hs9⟩ := HB.out _ hmem
      have HTO := totalX_any B _ _ wr hr1 hsm.1 hsm.2
      have HSN : Hid (ohL (m.take (k + 1)) = bmp (ohL (m.take k)) (hgN (m.getD k []))) := ohL_snoc m k hlt
      have hml1 := HLB.out k hk
      have HBK : Hid (∀ j, 0 ≤ (ohL (m.take k)).getD j 0 ∧ (ohL (m.take k)).getD j 0 ≤ k) := HBD.out k hk
      obtain ⟨h, hh⟩ : ∃ h : Nat, (m.getD k []).sum = (h : Int) := ⟨(m.getD k []).sum.toNat, by omega⟩
      have hgn : hgN (m.getD k []) = h := by unfold hgN; omega
      rw [hgn] at HSN
      rw [hh] at HTO hs9
      have h90 : h ≤ 90 := by omega
      generalize (m.getD k []).length = rl at *
      obtain ⟨M2, hM2⟩ : ∃ M2, M2 = ohL (m.take (k + 1)) := ⟨_, rfl⟩
      rw [← hM2] at HSN
      have HM2 : Hid (M2 = ohL (m.take (k + 1))) := hM2
      clear hM2
      generalize ohL (m.take k) = M at *
      clear hmem hsm hs0 hs9 hh hgn hr1
      go_wp2_with fail
      refine HTO.mono ?_
      rintro e w1 ⟨rfl, rfl⟩
      clear HTO
      go_wp2
      go_loopw [3] (fun tv wq => ∃ j : Nat, j ≤ h + 1 - M.length ∧ wq.ownsRow w.heap.size 3 1 tv (M ++ List.replicate j 0).length (ints (M ++ List.replicate j 0)) ∧ Below w.heap.size w wq) (fun tv _ => h + 1 - slLen tv)
      case atStart => exact ⟨0, Nat.zero_le _, by simpa using HOT.out, HBR.out⟩
      case round =>
        obtain ⟨j, hj, hot2, hbq⟩ := hrel
        have HBQ : Hid (Below w.heap.size w wr) := hbq
        have hszq : w.heap.size ≤ wr.heap.size := hbq.size
        obtain ⟨qo, qc, hqv⟩ := owns_form hot2
        subst hqv
        have HML : Hid ((M ++ List.replicate j 0).length = M.length + j) := by show _ = _; simp
        rw [HML.out] at hot2 ⊢
        have HOQ : Hid (wr.ownsRow w.heap.size 3 1 (.slice qo (M.length + j) qc) (M.length + j) (ints (M ++ List.replicate j 0))) := hot2
        clear hot2 hbq
        by_cases hle : M.length + j ≤ h
        · have HG : Hid (wr.ownsRow w.heap.size 3 1 (.slice qo (M.length + j) qc) (M ++ List.replicate j 0).length (ints (M ++ List.replicate j 0))) := by rw [HML.out]; exact HOQ.out
          have hleI : ((M.length + j : Nat) : Int) ≤ (h : Int) := by omega
          go_wp2_with (first | (at_builtin; refine wpList_append_own _ rfl _ _ 26 rfl w.heap.size 3 i3 (.int .i64 0) 1 8 Try.underlying26 hi3 hz30 hz31 hz32 rfl (by decide) _ _ _ rfl (HOQ.out.alloc _) ⟨wr.heap.size, 0, none⟩ 1 1 [.int .i64 0] rfl rfl (one_new _ _ _) (one_int _) ?c3 ?c4 ?c5 ?_))
          case c3 => unfold maxLen; omega
          case c4 => omega
          case c5 => simp; omega
          intro v2 w6 ho hg _
          have ho' : w6.ownsRow w.heap.size 3 1 v2 ((M ++ List.replicate j 0).length + 1) (ints (M ++ List.replicate j 0) ++ [.int .i64 0]) := by rw [HML.out]; exact ho
          have RR := owns_push (z := 0) (N := (M ++ List.replicate j 0).length + 1) hszq (l := M ++ List.replicate j 0) HG.out HBQ.out ho' hg rfl
          have S1 : Hid (w6.ownsRow w.heap.size 3 1 v2 (M ++ List.replicate (j + 1) 0).length (ints (M ++ List.replicate (j + 1) 0))) := by
            have h1 := RR.1
            rw [HML.out] at h1
            have e : (M ++ List.replicate (j + 1) 0).length = M.length + j + 1 := by simp; omega
            rw [e, rep_snoc]
            exact h1
          have S2 : Hid (Below w.heap.size w w6) := RR.2
          obtain ⟨vo, vc, hv2⟩ := owns_form ho
          subst hv2
          clear ho ho' hg RR
          go_wp2
          go_roundw
          case rel => exact ⟨j + 1, by omega, S1.out, S2.out⟩
          case measure => simp [slLen]; omega
        · have hleI : ¬ ((M.length + j : Nat) : Int) ≤ (h : Int) := by omega
          have hje : M.length + j = max M.length (h + 1) := by omega
          have HLN : Hid (M ++ List.replicate j 0 = lng M h) := by
            show _ = _
            unfold lng
            have : j = h + 1 - M.length := by omega
            rw [this]
          have hpos : h < M.length + j := by omega
          obtain ⟨g, rfl⟩ : ∃ g, qo = some ⟨g, 0, none⟩ := by
            rcases HOQ.out.2 with ⟨_, h0⟩ | ⟨g, cap', cur, hv', _⟩
            · omega
            · simp only [Value.slice.injEq] at hv'
              exact ⟨g, hv'.1⟩
          have hgB : w.heap.size ≤ g := (HOQ.out.lt g rfl).1
          have hcell : wr.cell? ⟨g, h, none⟩ = some (.int .i64 (M.getD h 0)) := by
            rw [HOQ.out.cellAt h (by omega), ints_get _ _ (by rw [HML.out]; exact hpos)]
            have := app_zero M j h
            rw [this]
          have hfz := HOQ.out.frozenAt h
          obtain ⟨st1, st2⟩ := HOQ.out.stored h (.int .i64 (M.getD h 0 + 1))
          have hbk := HBK.out h
          have E1 : Hid ((wr.setCell ⟨g, h, none⟩ (.int .i64 (M.getD h 0 + 1))).ownsRow w.heap.size 3 1 (.slice (some ⟨g, 0, none⟩) (M.length + j) qc) M2.length (ints M2)) := by
            have e1 : M2 = (M ++ List.replicate j 0).set h (M.getD h 0 + 1) := by
              rw [HSN.out]
              unfold bmp
              rw [← HLN.out, app_zero]
            have e2 : M2.length = M.length + j := by rw [e1, List.length_set, HML.out]
            have e3 : ints M2 = (ints (M ++ List.replicate j 0)).set h (.int .i64 (M.getD h 0 + 1)) := by rw [e1]; unfold ints; rw [List.map_set]
            rw [e2, e3]
            exact st1
          have E2 : Hid (Below w.heap.size w (wr.setCell ⟨g, h, none⟩ (.int .i64 (M.getD h 0 + 1)))) := HBQ.out.grown st2 hszq (fun k hk => by simp at hk; omega)
          clear st1 st2 HOQ HML HLN
          generalize M.getD h 0 = z at *
          have hposI : (h : Int) < ((M.length + j : Nat) : Int) := by omega
          generalize M.length + j = LL at *
          go_wp2
          go_roundw
          case rel => exact ⟨k + 1, by omega, by go_num, by rw [← HM2.out]; exact E1.out, E2.out⟩
          case measure => simp [intOf]; omega
    · have hke : m.take k = m := List.take_of_length_le (by omega)
      rw [hke] at HOT ⊢
      generalize hML : (ohL m).length = ML at *
      go_wp2
      go_ret
      exact ⟨_, rfl, by rw [hML]; exact HOT.out, HBR.out⟩

end Go.Proofs.Ytkgljfnbaoncbaa

/- weyl.spread, weyl.Degrees, weyl.Lengths. -/
namespace Go.Proofs.Ytkgljfnbaoncbaa
open Go.RowKit
attribute [local go_sem ↓] Go.wp_at_zero Go.wp_at_succ

theorem spr_len (p : List Int) (d : Nat) : (spr p d).length = p.length + d - 1 := by simp [spr]

theorem only_below {B g : Nat} {w w1 w2 : World} (h : Below B w w1) (k : Only g w1 w2) (hg : B ≤ g) : Below B w w2 :=
  ⟨k.os.trans h.os, k.tape.trans h.tape, k.output.trans h.output, by have := h.size; have := k.size; omega, fun b hb => (k.block b (by omega)).trans (h.block b hb)⟩

set_option maxRecDepth 100000 in
set_option maxHeartbeats 1600000 in
theorem spread_any (B : Nat) (p : List Int) (d : Nat) (v : Value) (w : World) (hv : Sl B 3 w v (ints p)) (hp1 : 1 ≤ p.length) (hpl : p.length ≤ 200) (hd1 : 1 ≤ d) (hdl : d ≤ 100) (hb : ∀ x ∈ p, 0 ≤ x ∧ x ≤ 2000) :
    Calls Try.prog 26 #[v, .int .i64 d] w fun e w' => ∃ u, e = .returned u ∧ w'.ownsRow w.heap.size 3 1 u (spr p d).length (ints (spr p d)) ∧ Below w.heap.size w w' := by
  obtain ⟨ao, cap, hvv, hlc, hcm⟩ := sl_open hv
  subst hvv
  have HV : Hid (Sl B 3 w (.slice ao p.length cap) (ints p)) := hv
  obtain ⟨N, hN⟩ : ∃ N, N = p.length + d - 1 := ⟨_, rfl⟩
  have hNI : (p.length : Int) + (d : Int) - 1 = (N : Int) := by omega
  have hmk : ∀ w : World, (Instr.makeSlice 26 (.int .i64 (N : Int)) (.int .i64 (N : Int))).run Try.prog w = .ok (.slice (some ⟨w.heap.size, 0, none⟩) N N) (w.alloc (.cells (madeCells #[.int .i64 0] N) 3)) := run_make_row' (P := Try.prog) 26 3 (.int .i64 0) 8 Try.underlying26 (by kernel_rfl) rfl .i64 .i64 N (by omega) (by omega)
  obtain ⟨W0, hW0⟩ : ∃ W0, W0 = w.alloc (.cells (madeCells #[.int .i64 0] N) 3) := ⟨_, rfl⟩
  have HW0 : Hid (W0 = w.alloc (.cells (madeCells #[.int .i64 0] N) 3)) := hW0
  have HR0 : Hid (W0.rowIs w.heap.size 3 N (fun j => .int .i64 (spF p d 0 j))) := by
    rw [hW0]
    refine (World.rowIs_made w _ _ _).congr (fun i hi => ?_)
    simp [spF]
  have HB0 : Hid (Below w.heap.size w W0) := by rw [hW0]; exact (Below.refl _ _).alloc (Nat.le_refl _) _
  have HSB : Hid (∀ i j, 0 ≤ spF p d i j ∧ spF p d i j ≤ 2000 * (i : Int)) := fun i j => spF_bd (by decide) hb d i j
  have HXB : Hid (∀ i, i < p.length → 0 ≤ p.getD i 0 ∧ p.getD i 0 ≤ 2000) := fun i hi => hb _ (by simp [hi])
  have HSL : Hid ((spr p d).length = N) := by rw [hN]; exact spr_len p d
  have HSA : Hid (∀ j, j < N → (spr p d).getD j 0 = spF p d p.length j) := fun j hj => by
    unfold spr
    rw [← hN, getD_range hj]
  have HNE : Hid (N = p.length + d - 1) := hN
  have hN2 : N + 1 = p.length + d := by omega
  clear hv hb hW0 hN
  go_enter Try.func26, Try.ntmps26
  go_wp2
  rw [← HW0.out]
  clear hmk hNI
  go_loopw [17] (fun iv wr => ∃ i : Nat, i ≤ p.length ∧ iv = .int .i64 i ∧ wr.rowIs w.heap.size 3 N (fun j => .int .i64 (spF p d i j)) ∧ Below w.heap.size w wr) (fun iv _ => p.length - (intOf iv).toNat)
  case atStart => exact ⟨0, Nat.zero_le _, rfl, HR0.out, HB0.out⟩
  case round =>
    obtain ⟨i, hi, rfl, hrow, hbr⟩ := hrel
    have HRW : Hid (wr.rowIs w.heap.size 3 N (fun j => .int .i64 (spF p d i j))) := hrow
    have HBR : Hid (Below w.heap.size w wr) := hbr
    clear hrow hbr
    by_cases hlt : i < p.length
    · obtain ⟨b1, o1, cp1, hs, _, hcc⟩ := sl_cell (HV.out.below HBR.out (Nat.le_refl _)) (k := i) hlt
      simp only [Value.slice.injEq, true_and] at hs
      obtain ⟨rfl, rfl⟩ := hs
      have hxb := HXB.out i hlt
      have HS1 : Hid (∀ j, spF p d (i + 1) j = spF p d i j + if i ≤ j ∧ j < i + d then p.getD i 0 else 0) := fun j => rfl
      generalize p.getD i 0 = x at *
      go_wp2
      go_loopw [23] (fun iv wq => ∃ k : Nat, k ≤ d ∧ iv = .int .i64 k ∧ wq.rowIs w.heap.size 3 N (fun j => .int .i64 (spF p d i j + if i ≤ j ∧ j < i + k then x else 0)) ∧ Below w.heap.size w wq) (fun iv _ => d - (intOf iv).toNat)
      case atStart =>
        refine ⟨0, Nat.zero_le _, rfl, HRW.out.congr fun j _ => ?_, HBR.out⟩
        rw [if_neg (by omega), Int.add_zero]
      case round =>
        obtain ⟨k, hk, rfl, hrow, hbr⟩ := hrel
        by_cases hlk : k < d
        · have hik : i + k < N := by omega
          have x0 := hrow.cell hik
          have hfz := hrow.frozen (i + k)
          have hsb := HSB.out i (i + k)
          have hsb2 : 2000 * (i : Int) ≤ 400000 := by omega
          have HR1 : Hid ((wr.setCell ⟨w.heap.size, i + k, none⟩ (.int .i64 (spF p d i (i + k) + x))).rowIs w.heap.size 3 N (fun j => .int .i64 (spF p d i j + if i ≤ j ∧ j < i + (k + 1) then x else 0))) := by
            refine (hrow.set (i + k) (.int .i64 (spF p d i (i + k) + x))).congr fun j hj => ?_
            by_cases e : j = i + k
            · subst e
              rw [if_pos rfl, if_pos (by omega)]
            · rw [if_neg e]
              by_cases e2 : i ≤ j ∧ j < i + k
              · rw [if_pos e2, if_pos (by omega)]
              · rw [if_neg e2, if_neg (by omega)]
          have HR2 : Hid (Below w.heap.size w (wr.setCell ⟨w.heap.size, i + k, none⟩ (.int .i64 (spF p d i (i + k) + x)))) :=
            ⟨hbr.os, hbr.tape, hbr.output, by simp only [World.setCell, Array.size_modify]; exact hbr.size, fun b hb => (Below.heap_setCell _ _ _ _ (by simp only; omega)).trans (hbr.block b hb)⟩
          rw [if_neg (by omega), Int.add_zero] at x0
          clear hrow hbr
          generalize spF p d i (i + k) = y at *
          have hikI : (i : Int) + (k : Int) < (N : Int) := by omega
          have e1 : ((i : Int) + (k : Int)).toNat = i + k := by omega
          go_wp2
          go_roundw
          case rel => exact ⟨k + 1, by omega, by go_num, HR1.out, HR2.out⟩
          case measure => simp [intOf]; omega
        · have hke : k = d := by omega
          subst hke
          have HR1 : Hid (wr.rowIs w.heap.size 3 N (fun j => .int .i64 (spF p k (i + 1) j))) := hrow.congr fun j _ => by rw [HS1.out j]
          have HR2 : Hid (Below w.heap.size w wr) := hbr
          clear hrow hbr
          go_wp2
          go_roundw
          case rel => exact ⟨i + 1, by omega, by go_num, HR1.out, HR2.out⟩
          case measure => simp [intOf]; omega
    · have hie : i = p.length := by omega
      have HO : Hid (wr.ownsRow w.heap.size 3 1 (.slice (some ⟨w.heap.size, 0, none⟩) N N) (spr p d).length (ints (spr p d))) := by
        rw [HSL.out]
        refine row_own HRW.out (Nat.le_refl _) (by unfold maxLen; omega) HSL.out (fun j hj => ?_)
        rw [HSA.out j hj, hie]
      go_wp2
      go_ret
      exact ⟨_, rfl, HO.out, HBR.out⟩

end Go.Proofs.Ytkgljfnbaoncbaa
