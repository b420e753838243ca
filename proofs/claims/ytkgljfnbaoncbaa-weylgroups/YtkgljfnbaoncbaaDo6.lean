/- The document's Done: what a word does to each simple root. -/
import Derived.Test.YtkgljfnbaoncbaaDo5
namespace Go.Proofs.Ytkgljfnbaoncbaa
open Go.RowKit
attribute [local go_sem ↓] Go.wp_at_zero Go.wp_at_succ

/-- Of the first simple roots. -/
def dnP (d : List (List Int)) (wd : List Nat) (i : Nat) : List Int := ((List.range i).map fun i => tb d wd.reverse (un d.length i)).flatten

theorem dnP_succ (d : List (List Int)) (wd : List Nat) (i : Nat) : dnP d wd (i + 1) = dnP d wd i ++ tb d wd.reverse (un d.length i) := by
  unfold dnP
  rw [List.range_succ, List.map_append, List.flatten_append]
  simp

theorem dnP_len (d : List (List Int)) (wd : List Nat) : ∀ i, (dnP d wd i).length = i * d.length
  | 0 => by simp [dnP]
  | i + 1 => by
    rw [dnP_succ, List.length_append, dnP_len d wd i, tb_len _ (un_len _ _), Nat.succ_mul]

theorem sl_cellsW {B : Nat} {e : TypeId} {w : World} {a : Addr} {n cap : Nat} {xs : List Value} (h : Sl B e w (.slice (some a) n cap) xs) : ∀ j u, xs[j]? = some u → w.cell? (a.add j) = some u := by
  intro j u hj
  have h1 := sl_cells h (.cells #[] 3) j u hj
  have hb : (w.alloc (.cells #[] 3)).cell? (a.add j) = w.cell? (a.add j) := by
    obtain ⟨ao, cap', hs, _, _, hc, _⟩ := h
    have hlt : j < xs.length := (List.getElem?_eq_some_iff.1 hj).1
    obtain ⟨b, o, ho, hcell, _⟩ := hc j hlt
    simp only [Value.slice.injEq] at hs
    rw [← hs.1] at ho
    simp only [Option.some.injEq] at ho
    have hlt2 : (a.add j).block < w.heap.size := by
      rw [ho]
      rw [hj] at hcell
      have := lt_of_cell hcell
      unfold Addr.add
      split <;> simpa using this
    exact ((Below.refl w.heap.size w).alloc (Nat.le_refl _) _).cell hlt2
  rw [hb] at h1
  exact h1

set_option maxRecDepth 100000 in
set_option maxHeartbeats 3200000 in
theorem done_any (n : Nat) (c R d : List (List Int)) (t : Nat → Int) (wd : List Nat) (cv wv : Value) (w : World) (h : Wg n c R d t) (hw : Lt c wd) (hwl : wd.length ≤ 1000) (hm : Mat w.heap.size 26 3 w cv c) (hwv : Sl w.heap.size 3 w wv (ints (natsI wd))) :
    Calls Try.prog 34 #[cv, wv] w fun e w' => ∃ u, e = .returned u ∧ w'.ownsRow w.heap.size 3 1 u (n * n) (ints (dnW d wd)) ∧ Below w.heap.size w w' := by
  obtain ⟨i3, hi3, hz30, hz31, hz32⟩ := info_parts Try.info3
  have hcl := h.g.g.sq.len
  have hdl : d.length = n := by rw [h.u.len, hcl]
  have hn1 := h.g.g.n1
  have hn4 := h.g.g.sq.n4
  have HOV : Hid (∀ x j bv W, Below w.heap.size w W → Sl 0 3 W bv (ints x) → PM (abL c) x → j < n → Calls Try.prog 30 #[cv, bv, .int .i64 (j : Nat)] W fun e w' => ∃ u, e = .returned u ∧ w'.ownsRow W.heap.size 3 1 u n (ints (ctn d j x)) ∧ Below W.heap.size W w') := fun x j bv W h1 h2 h3 h4 => h.over x j cv bv W ((hm.below h1 (Nat.le_refl _)).any (Nat.le_refl _)) h2 h3 h4
  have HPM : Hid (∀ i, i < n → ∀ m, PM (abL c) (tb d (wd.reverse.take m) (un n i))) := fun i hi m => h.pm hw (by have := h.u.rd.sim i (by omega); rwa [hdl] at this) m
  have HBD : Hid (∀ x, PM (abL c) x → x.length = n) := fun x hx => (h.bd hx).1
  have HLT : Hid (∀ k, k < wd.length → wd.getD k 0 < n) := fun k hk => by rw [← hcl]; exact hw _ (by simp [hk])
  have HDS : Hid (∀ i, dnP d wd (i + 1) = dnP d wd i ++ tb d wd.reverse (un n i)) := fun i => by rw [← hdl]; exact dnP_succ d wd i
  have HDL : Hid (∀ i, (dnP d wd i).length = i * n) := fun i => by rw [dnP_len, hdl]
  have HDE : Hid (dnW d wd = dnP d wd n) := by
    show _ = _
    unfold dnW dnP
    rw [hdl]
  obtain ⟨ao, cap, hvv, _, _⟩ := mat_open hm
  subst hvv
  obtain ⟨wo, wc, hwvv, _, _⟩ := sl_open hwv
  subst hwvv
  have HWV : Hid (Sl w.heap.size 3 w (.slice wo (natsI wd).length wc) (ints (natsI wd))) := hwv
  rw [natsI_len] at HWV ⊢
  have hmk : ∀ w : World, (Instr.makeSlice 26 (.int .i64 (n : Int)) (.int .i64 (n : Int))).run Try.prog w = .ok (.slice (some ⟨w.heap.size, 0, none⟩) n n) (w.alloc (.cells (madeCells #[.int .i64 0] n) 3)) := run_make_row' (P := Try.prog) 26 3 (.int .i64 0) 8 Try.underlying26 (by kernel_rfl) rfl .i64 .i64 n (by omega) (by omega)
  clear h hw hm hwv hdl
  rw [hcl] at HOV ⊢
  go_enter Try.func34, Try.ntmps34
  go_wp2
  go_loopw [5, 6, 7, 8] (fun tv iv _ _ wr => ∃ i : Nat, i ≤ n ∧ iv = .int .i64 i ∧ wr.ownsRow w.heap.size 3 1 tv (i * n) (ints (dnP d wd i)) ∧ Below w.heap.size w wr) (fun _ iv _ _ _ => n - (intOf iv).toNat)
  case atStart => exact ⟨0, Nat.zero_le _, rfl, by rw [Nat.zero_mul]; exact World.ownsRow_nil _ _ _ _, Below.refl _ _⟩
  case round =>
    obtain ⟨i, hi, rfl, hot, hbr⟩ := hrel
    obtain ⟨to, tc, htv⟩ := owns_form hot
    subst htv
    have HOT : Hid (wr.ownsRow w.heap.size 3 1 (.slice to (i * n) tc) (i * n) (ints (dnP d wd i))) := hot
    have HBR : Hid (Below w.heap.size w wr) := hbr
    have hsz : w.heap.size ≤ wr.heap.size := hbr.size
    clear hot hbr
    by_cases hlt : i < n
    · have hin : i * n ≤ 16 := by
        have h1 : i * n ≤ 4 * n := Nat.mul_le_mul_right _ (by omega)
        omega
      obtain ⟨W, hW⟩ : ∃ W, W = wr.alloc (.cells (madeCells #[.int .i64 0] n) 3) := ⟨_, rfl⟩
      have hr0 : W.rowIs wr.heap.size 3 n (fun _ => .int .i64 0) := by rw [hW]; exact World.rowIs_made wr (.int .i64 0) n 3
      have x0 := hr0.cell hlt
      have f0 := hr0.frozen i
      obtain ⟨W2, hW2⟩ : ∃ W2, W2 = W.setCell ⟨wr.heap.size, i, none⟩ (.int .i64 1) := ⟨_, rfl⟩
      have HSL : Hid (Sl 0 3 W2 (.slice (some ⟨wr.heap.size, 0, none⟩) n n) (ints (un n i))) := by
        rw [hW2]
        exact row_slT (unit_row hr0) (fun _ _ => rfl) (un_len n i) (Nat.le_refl _) (by omega)
      have hb2 : Below wr.heap.size wr W2 := by
        rw [hW2, hW]
        exact ((Below.refl _ wr).alloc (Nat.le_refl _) _).setCell (by simp) _
      have HBW2 : Hid (Below wr.heap.size wr W2) := hb2
      rw [hW] at x0 f0
      rw [hW] at hW2
      have HW2 : Hid (W2 = wr.alloc (.cells ((madeCells #[.int .i64 0] n).setIfInBounds i (.int .i64 1)) 3)) := by
        rw [hW2]
        show _ = _
        simp [go_sem]
      have iI : (i : Int) < (n : Int) := by omega
      have iI0 : (0 : Int) ≤ (i : Int) := by omega
      have HPB : Hid (∀ m, PM (abL c) (tb d (wd.reverse.take m) (un n i))) := HPM.out i hlt
      have HSI : Hid (dnP d wd (i + 1) = dnP d wd i ++ tb d wd.reverse (un n i)) := HDS.out i
      have HLI : Hid ((dnP d wd i).length = i * n) := HDL.out i
      clear hr0 hb2 hW hW2
      generalize hD1 : dnP d wd i = D1 at *
      have HD1 : Hid (dnP d wd i = D1) := hD1
      clear hD1
      go_wp2
      rw [← HW2.out]
      go_loopw [7, 8] (fun bv kv wq => ∃ m : Nat, m ≤ wd.length ∧ kv = .int .i64 ((wd.length : Int) - 1 - m) ∧ Sl 0 3 wq bv (ints (tb d (wd.reverse.take m) (un n i))) ∧ Below wr.heap.size wr wq) (fun _ kv _ => ((intOf kv) + 1).toNat)
      case atStart => exact ⟨0, Nat.zero_le _, by simp, HSL.out, HBW2.out⟩
      case round =>
        rename World => wa
        obtain ⟨m, hm, rfl, hsb, hbq⟩ := hrel
        have HBQ : Hid (Below wr.heap.size wr wa) := hbq
        have hszq : wr.heap.size ≤ wa.heap.size := hbq.size
        have HBW : Hid (Below w.heap.size w wa) := HBR.out.trans (hbq.mono hsz)
        have HPX : Hid (PM (abL c) (tb d (wd.reverse.take m) (un n i))) := HPB.out m
        have hxl := HBD.out _ HPX.out
        obtain ⟨bo, bc, hbv, _, _⟩ := sl_open hsb
        subst hbv
        rw [hxl] at hsb ⊢
        have HSB : Hid (Sl 0 3 wa (.slice bo n bc) (ints (tb d (wd.reverse.take m) (un n i)))) := hsb
        clear hsb hbq
        by_cases hlm : m < wd.length
        · obtain ⟨pl, hpl⟩ : ∃ pl, pl = wd.length - 1 - m := ⟨_, rfl⟩
          have hpw : pl < wd.length := by omega
          have hkI : (wd.length : Int) - 1 - (m : Int) = (pl : Int) := by omega
          have HTK : Hid (tb d (wd.reverse.take (m + 1)) (un n i) = ctn d (wd.getD pl 0) (tb d (wd.reverse.take m) (un n i))) := by
            show _ = _
            rw [rev_snoc hlm, tb_snoc, hpl]
          have HKN : Hid ((pl : Int) - 1 = (wd.length : Int) - 1 - ((m + 1 : Nat) : Int)) := by
            show _ = _
            omega
          obtain ⟨b3, o3, cp3, hs3, _, hc3⟩ := sl_cell (HWV.out.below HBW.out (Nat.le_refl _)) (k := pl) (by rw [natsI_len]; exact hpw)
          rw [natsI_len] at hs3
          simp only [Value.slice.injEq, true_and] at hs3
          obtain ⟨rfl, rfl⟩ := hs3
          rw [natsI_at hpw] at hc3
          have hjn := HLT.out pl hpw
          have HOC := HOV.out (tb d (wd.reverse.take m) (un n i)) (wd.getD pl 0) (.slice bo n bc) wa HBW.out HSB.out HPX.out hjn
          rw [hkI]
          clear hpl hkI hxl
          generalize wd.getD pl 0 = j at *
          generalize tb d (wd.reverse.take m) (un n i) = x at *
          go_wp2_with fail
          refine HOC.mono ?_
          rintro e w3 ⟨u3, rfl, ho3, hb3⟩
          have HS3 : Hid (Sl 0 3 w3 u3 (ints (tb d (wd.reverse.take (m + 1)) (un n i)))) := by rw [HTK.out]; exact Sl.own ho3
          have HB3 : Hid (Below wr.heap.size wr w3) := HBQ.out.trans (hb3.mono hszq)
          obtain ⟨vo, vc, hv3⟩ := owns_form ho3
          subst hv3
          clear ho3 hb3 HOC
          go_wp2
          go_roundw
          case rel => exact ⟨m + 1, by omega, by rw [← HKN.out], HS3.out, HB3.out⟩
          case measure => simp [intOf] <;> omega
        · have hkI : (wd.length : Int) - 1 - (m : Int) = -1 := by omega
          have hte : wd.reverse.take m = wd.reverse := List.take_of_length_le (by simp; omega)
          rw [hte] at HSB hxl
          rw [hkI]
          clear hkI hte hlm HPX
          have HXS : Hid (dnP d wd (i + 1) = D1 ++ tb d wd.reverse (un n i)) := HSI.out
          generalize tb d wd.reverse (un n i) = x at *
          have HXL : Hid (x.length = n) := hxl
          obtain ⟨b3, o3, cp3, hs3, _, _⟩ := sl_cell HSB.out (k := 0) (by omega)
          rw [hxl] at hs3
          simp only [Value.slice.injEq, true_and] at hs3
          obtain ⟨rfl, rfl⟩ := hs3
          have HOA : Hid (wa.ownsRow w.heap.size 3 1 (.slice to (i * n) tc) (i * n) (ints D1)) := owns_below HOT.out HBQ.out (Nat.le_refl _)
          have hsza : w.heap.size ≤ wa.heap.size := HBW.out.size
          clear hxl
          go_wp2_with (first | (at_builtin; refine wpList_append_own _ rfl _ _ 26 rfl w.heap.size 3 i3 (.int .i64 0) 1 8 Try.underlying26 hi3 hz30 hz31 hz32 rfl (by decide) _ _ _ rfl HOA.out ⟨b3, o3, none⟩ n bc (ints x) rfl ?e1 (sl_cellsW HSB.out) (ints_oneCell' x) ?c3 ?c4 ?c5 ?_))
          case e1 => rw [ints_length, HXL.out]; omega
          case c3 => unfold maxLen; omega
          case c4 => omega
          case c5 => omega
          intro v2 w6 ho hg _
          have S1 : Hid (w6.ownsRow w.heap.size 3 1 v2 ((i + 1) * n) (ints (dnP d wd (i + 1)))) := by
            rw [HXS.out, Nat.succ_mul]
            have e : ints (D1 ++ x) = ints D1 ++ ints x := by unfold ints; rw [List.map_append]
            rw [e]
            exact ho
          have S2 : Hid (Below w.heap.size w w6) := HBW.out.grown hg hsza (fun k hk => (HOA.out.lt k hk).1)
          obtain ⟨vo, vc, hv2⟩ := owns_form ho
          subst hv2
          clear ho hg
          generalize i * n + n = NN at *
          go_wp2
          go_roundw
          case rel => exact ⟨i + 1, by omega, by go_num, S1.out, S2.out⟩
          case measure => simp [intOf]; omega
    · have hie : i = n := by omega
      have HFE : Hid (wr.ownsRow w.heap.size 3 1 (.slice to (n * n) tc) (n * n) (ints (dnW d wd))) := by
        rw [HDE.out]
        have := HOT.out
        rw [hie] at this
        exact this
      rw [hie]
      generalize hNN : n * n = NN at *
      go_wp2
      go_ret
      exact ⟨_, rfl, by rw [hNN]; exact HFE.out, HBR.out⟩

end Go.Proofs.Ytkgljfnbaoncbaa
