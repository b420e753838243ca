/- weyl.Reduce, Same, Ends. -/
import Derived.Test.YtkpdgpdicafeiaaWz2
import Derived.Test.YtkpdgpdicafeiaaWlA
import Derived.Test.YtkpdgpdicafeiaaWy5
namespace Go.Proofs.Ytkpdgpdicafeiaa
open Go.RowKit
attribute [local go_sem ↓] Go.wp_at_zero Go.wp_at_succ

/-- A good matrix, its roots at hand. -/
structure Gda (n : Nat) (c R : List (List Int)) : Prop where
  g : Gdc n c
  rt : Rt c R
  rl : R.length ≤ 24
  q : qS n R (ones n) ≤ 1000

def BdQ (n : Nat) (R : List (List Int)) (u : List Int) : Prop := u.length = n ∧ qS n R u ≤ 1000

theorem Gda.b0 {n : Nat} {c R : List (List Int)} (h : Gda n c R) : BdQ n R (ones n) := ⟨by simp [ones], h.q⟩

theorem Gda.b1 {n : Nat} {c R : List (List Int)} (h : Gda n c R) (u : List Int) (r : Nat) (hr : r < n) (hu : BdQ n R u) : BdQ n R (ovL c u r) := by
  have hl := h.g.sq.len
  refine ⟨by rw [ovL_len, hl], ?_⟩
  have e := qS_ov h.rt u (r := r) (by omega)
  rw [hl] at e
  rw [e]
  exact hu.2

theorem le_sum_nat {l : List Nat} {x : Nat} (h : x ∈ l) : x ≤ l.sum := by
  induction l with
  | nil => simp at h
  | cons y l ih =>
    rw [List.sum_cons]
    rcases List.mem_cons.1 h with rfl | h
    · omega
    · have := ih h; omega

theorem Gda.b2 {n : Nat} {c R : List (List Int)} (h : Gda n c R) (u : List Int) (hu : BdQ n R u) (k : Nat) : -1000000 ≤ u.getD k 0 ∧ u.getD k 0 ≤ 1000000 := by
  have hl := h.g.sq.len
  by_cases hk : k < n
  · have h1 : (pr n u (un n k)).natAbs ∈ R.map fun b => (pr n u b).natAbs := List.mem_map.2 ⟨un n k, by have := h.rt.sim k (by omega); rwa [hl] at this, rfl⟩
    have h2 := le_sum_nat h1
    have h3 := hu.2
    unfold qS at h3
    rw [pr_un _ hk] at h2
    omega
  · have : u.getD k 0 = 0 := by
      rw [List.getD_eq_getElem?_getD, List.getElem?_eq_none (by have := hu.1; omega)]; rfl
    omega

/-- The first of the shortest words. -/
def rdW (c : List (List Int)) (wd : List Nat) : List Nat := upr c 24 (tak c wd (ones c.length))

theorem rd_all {n : Nat} {c R : List (List Int)} (h : Gda n c R) {wd : List Nat} (hw : Lt c wd) :
    (rdW c wd).length = nB c.length R (tak c wd (ones c.length)) ∧ Lt c (rdW c wd) ∧ tak c (rdW c wd) (ones c.length) = tak c wd (ones c.length) ∧ fneg (upE c 24 (tak c wd (ones c.length))) = none :=
  upr_all h.rt 24 wd hw (Nat.le_trans List.countP_le_length h.rl)

theorem own_low {B B' n : Nat} {e : TypeId} {w : World} {v : Value} {xs : List Value} (h : w.ownsRow B' e 1 v n xs) (hB : B ≤ B') : w.ownsRow B e 1 v n xs := by
  refine ⟨h.1, ?_⟩
  rcases h.2 with h1 | ⟨g, cap, cur, h1, h2, h3⟩
  · exact .inl h1
  · exact .inr ⟨g, cap, cur, h1, Nat.le_trans hB h2, h3⟩

theorem btx_below {B g : Nat} {w w1 w2 : World} (h : Below B w w1) (hB : B ≤ w.heap.size) (k : Btx g w1 w2) (hg : B ≤ g) : Below B w w2 :=
  ⟨k.os.trans h.os, k.tape.trans h.tape, k.output.trans h.output, Nat.le_trans h.size k.size, fun b hb => (k.block b (by have := h.size; omega) (by omega)).trans (h.block b hb)⟩

theorem gdw_of {n : Nat} {c : List (List Int)} {wd : List Nat} (hn : c.length = n) (h : Lt c wd) (hl : wd.length ≤ 40) : Gdw n (natsI wd) :=
  ⟨by rw [natsI_len]; exact hl, fun x hx => by
    obtain ⟨k, hk, rfl⟩ := List.mem_map.1 hx
    have := h k hk
    omega⟩

set_option maxRecDepth 100000 in
set_option maxHeartbeats 1600000 in
theorem reduceW_any (n : Nat) (c R : List (List Int)) (wd : List Nat) (cv wv : Value) (w : World) (hg : Gda n c R) (hw : Lt c wd) (hwl : wd.length ≤ 40) (hm : Mat w.heap.size 23 3 w cv c) (hwv : Sl w.heap.size 3 w wv (ints (natsI wd))) :
    Calls Try.prog 11 #[cv, wv] w fun e w' => ∃ u, e = .returned (.tuple #[u, .int .i64 0]) ∧ w'.ownsRow w.heap.size 3 1 u (rdW c wd).length (ints (natsI (rdW c wd))) ∧ Below w.heap.size w w' := by
  have hcl := hg.g.sq.len
  have HC : Hid (Calls Try.prog 13 #[cv, wv] w fun e w' => e = .returned (.int .i64 0) ∧ Below w.heap.size w w') := checkW_any n c _ cv wv w hg.g (gdw_of hcl hw hwl) hm hwv
  have HT : Hid (∀ W, Below w.heap.size w W → Calls Try.prog 23 #[cv, wv] W fun e w' => ∃ g, e = .returned (.slice (some ⟨g, 0, none⟩) n n) ∧ w'.rowIs g 3 n (fun k => .int .i64 ((tak c wd (ones n)).getD k 0)) ∧ BdQ n R (tak c wd (ones n)) ∧ W.heap.size ≤ g ∧ g < w'.heap.size ∧ Below W.heap.size W w') := fun W h =>
    taken_any n c wd cv wv W hg.g.sq hg.g.n1 ((hm.below h (Nat.le_refl _)).any (Nat.le_refl _)) ((hwv.below h (Nat.le_refl _)).any (Nat.le_refl _)) hw (by omega) (BdQ n R) hg.b0 hg.b1 hg.b2
  have HU : Hid (∀ W W2 g, Below w.heap.size w W → Below W.heap.size W W2 → W.heap.size ≤ g → g < W2.heap.size → W2.rowIs g 3 n (fun k => .int .i64 ((tak c wd (ones n)).getD k 0)) → BdQ n R (tak c wd (ones n)) → Calls Try.prog 22 #[cv, .slice (some ⟨g, 0, none⟩) n n] W2 fun e w' => ∃ u, e = .returned u ∧ w'.ownsRow W2.heap.size 3 1 u (rdW c wd).length (ints (natsI (rdW c wd))) ∧ Btx g W2 w') := fun W W2 g h1 h2 h3 h4 h5 h6 => by
    have hu := uprt_any n c (tak c wd (ones n)) g W.heap.size 24 cv W W2 hg.g.sq ((hm.below h1 (Nat.le_refl _)).any (Nat.le_refl _)) (fun b hb => h2.block b hb) h3 h4 h5 h6.1 (BdQ n R) h6 hg.b1 hg.b2 (by have := (rd_all hg hw).2.2.2; rw [hcl] at this; exact this) (by omega)
    unfold rdW
    rw [hcl]
    exact hu
  obtain ⟨ao, cap, hvv, _, hcm⟩ := mat_open hm
  subst hvv
  obtain ⟨lo, lc, hlvv, _, hlcm⟩ := sl_open hwv
  subst hlvv
  clear hg hm hwv hw hwl hcl
  go_enter Try.func11, Try.ntmps11
  go_wp2_with fail
  refine HC.out.mono ?_
  rintro e w1 ⟨rfl, hb1⟩
  have HB1 : Hid (Below w.heap.size w w1) := hb1
  have HT1 := HT.out w1 hb1
  clear hb1 HC HT
  go_wp2_with fail
  refine HT1.mono ?_
  rintro e w2 ⟨g, rfl, hr, hbd, hg1, hg2, hb2⟩
  have HU1 := HU.out w1 w2 g HB1.out hb2 hg1 hg2 hr hbd
  have HB2 : Hid (Below w.heap.size w w2) := HB1.out.trans (hb2.mono HB1.out.size)
  have HG1 : Hid (w.heap.size ≤ g) := Nat.le_trans HB1.out.size hg1
  clear hr hbd hg1 hg2 hb2 HT1 HU
  go_wp2_with fail
  refine HU1.mono ?_
  rintro e w3 ⟨u, rfl, ho, hbt⟩
  have HO : Hid (w3.ownsRow w.heap.size 3 1 u (rdW c wd).length (ints (natsI (rdW c wd)))) := own_low ho HB2.out.size
  have HB3 : Hid (Below w.heap.size w w3) := btx_below HB2.out (Nat.le_refl _) hbt HG1.out
  clear ho hbt HU1
  go_wp2
  go_ret2
  exact ⟨_, rfl, HO.out, HB3.out⟩

set_option maxRecDepth 100000 in
set_option maxHeartbeats 1600000 in
theorem sameW_any (n : Nat) (c R : List (List Int)) (wa wb : List Nat) (cv av bv : Value) (w : World) (hg : Gda n c R) (hwa : Lt c wa) (hwb : Lt c wb) (hal : wa.length ≤ 40) (hbl : wb.length ≤ 40) (hm : Mat w.heap.size 23 3 w cv c) (hav : Sl w.heap.size 3 w av (ints (natsI wa))) (hbv : Sl w.heap.size 3 w bv (ints (natsI wb))) :
    Calls Try.prog 16 #[cv, av, bv] w fun e w' => e = .returned (.tuple #[.bool (tak c wa (ones n) == tak c wb (ones n)), .int .i64 0]) ∧ Below w.heap.size w w' := by
  have hcl := hg.g.sq.len
  have HC : Hid (Calls Try.prog 28 #[cv, av, bv] w fun e w' => e = .returned (.int .i64 0) ∧ Below w.heap.size w w') := checkBothW_any n c _ _ cv av bv w hg.g (gdw_of hcl hwa hal) (gdw_of hcl hwb hbl) hm hav hbv
  have HT : Hid (∀ W wd wv, Below w.heap.size w W → Lt c wd → wd.length ≤ 40 → Sl w.heap.size 3 w wv (ints (natsI wd)) → Calls Try.prog 23 #[cv, wv] W fun e w' => ∃ g, e = .returned (.slice (some ⟨g, 0, none⟩) n n) ∧ Sl 0 3 w' (.slice (some ⟨g, 0, none⟩) n n) (ints (tak c wd (ones n))) ∧ Below W.heap.size W w') := fun W wd wv h h2 h3 h4 => by
    refine (taken_any n c wd cv wv W hg.g.sq hg.g.n1 ((hm.below h (Nat.le_refl _)).any (Nat.le_refl _)) ((h4.below h (Nat.le_refl _)).any (Nat.le_refl _)) h2 (by omega) (BdQ n R) hg.b0 hg.b1 hg.b2).mono ?_
    rintro e w' ⟨g, he, hr, hbd, _, _, hb⟩
    exact ⟨g, he, row_slT hr (fun _ _ => rfl) hbd.1 (Nat.le_refl _) (by have := hg.g.sq.n4; omega), hb⟩
  have HTA : Hid (∀ W, Below w.heap.size w W → Calls Try.prog 23 #[cv, av] W fun e w' => ∃ g, e = .returned (.slice (some ⟨g, 0, none⟩) n n) ∧ Sl 0 3 w' (.slice (some ⟨g, 0, none⟩) n n) (ints (tak c wa (ones n))) ∧ Below W.heap.size W w') := fun W h => HT.out W wa av h hwa hal hav
  have HTB : Hid (∀ W, Below w.heap.size w W → Calls Try.prog 23 #[cv, bv] W fun e w' => ∃ g, e = .returned (.slice (some ⟨g, 0, none⟩) n n) ∧ Sl 0 3 w' (.slice (some ⟨g, 0, none⟩) n n) (ints (tak c wb (ones n))) ∧ Below W.heap.size W w') := fun W h => HT.out W wb bv h hwb hbl hbv
  obtain ⟨ao, cap, hvv, _, hcm⟩ := mat_open hm
  subst hvv
  obtain ⟨lo, lc, hlvv, _, hlcm⟩ := sl_open hav
  subst hlvv
  obtain ⟨ko, kc, hkvv, _, hkcm⟩ := sl_open hbv
  subst hkvv
  clear hg hm hav hbv hwa hwb hal hbl HT hcl
  obtain ⟨A, hA⟩ : ∃ A, A = tak c wa (ones n) := ⟨_, rfl⟩
  obtain ⟨B, hB⟩ : ∃ B, B = tak c wb (ones n) := ⟨_, rfl⟩
  rw [← hA] at HTA ⊢
  rw [← hB] at HTB ⊢
  clear hA hB
  obtain ⟨fb, hfb⟩ : ∃ fb, fb = (A == B) := ⟨_, rfl⟩
  rw [← hfb]
  have HFB : Hid (fb = (A == B)) := hfb
  clear hfb
  go_enter Try.func16, Try.ntmps16
  go_wp2_with fail
  refine HC.out.mono ?_
  rintro e w1 ⟨rfl, hb1⟩
  have HB1 : Hid (Below w.heap.size w w1) := hb1
  have HT1 := HTA.out w1 hb1
  clear hb1 HC HTA
  go_wp2_with fail
  refine HT1.mono ?_
  rintro e w2 ⟨g, rfl, hs2, hb2⟩
  have HB2 : Hid (Below w.heap.size w w2) := HB1.out.trans (hb2.mono HB1.out.size)
  have HS2 : Hid (Sl 0 3 w2 (.slice (some ⟨g, 0, none⟩) n n) (ints A)) := hs2
  have HT2 := HTB.out w2 HB2.out
  clear hs2 hb2 HT1 HTB
  go_wp2_with fail
  refine HT2.mono ?_
  rintro e w3 ⟨g2, rfl, hs3, hb3⟩
  have HB3 : Hid (Below w.heap.size w w3) := HB2.out.trans (hb3.mono HB2.out.size)
  have HEQ := equal_any 0 A B _ _ w3 (HS2.out.below hb3 (Nat.le_refl _)) hs3
  rw [← HFB.out] at HEQ
  clear hs3 hb3 HT2
  go_wp2_with fail
  refine HEQ.mono ?_
  rintro e w4 ⟨rfl, k, rfl⟩
  have HB4 : Hid (Below w.heap.size w (w3.drewN k)) := HB3.out.trans ⟨rfl, rfl, rfl, Nat.le_refl _, fun _ _ => rfl⟩
  clear HEQ
  go_wp2
  go_ret2
  exact ⟨rfl, HB4.out⟩

/-- The letters below 0. -/
def enL (v : List Int) (n : Nat) : List Nat := (List.range n).filter fun k => decide (v.getD k 0 < 0)

theorem enL_succ (v : List Int) (n : Nat) : enL v (n + 1) = if v.getD n 0 < 0 then enL v n ++ [n] else enL v n := by
  unfold enL
  rw [List.range_succ, List.filter_append]
  by_cases h : v.getD n 0 < 0
  · rw [if_pos h, List.filter_cons_of_pos (by simpa using h)]; rfl
  · rw [if_neg h, List.filter_cons_of_neg (by simpa using h)]; simp

theorem enL_le (v : List Int) (n : Nat) : (enL v n).length ≤ n := by
  have := List.length_filter_le (fun k => decide (v.getD k 0 < 0)) (List.range n)
  rw [List.length_range] at this
  exact this

set_option maxRecDepth 100000 in
set_option maxHeartbeats 1600000 in
theorem endsW_any (n : Nat) (c R : List (List Int)) (wd : List Nat) (cv wv : Value) (w : World) (hg : Gda n c R) (hw : Lt c wd) (hwl : wd.length ≤ 40) (hm : Mat w.heap.size 23 3 w cv c) (hwv : Sl w.heap.size 3 w wv (ints (natsI wd))) :
    Calls Try.prog 12 #[cv, wv] w fun e w' => ∃ u, e = .returned (.tuple #[u, .int .i64 0]) ∧ w'.ownsRow w.heap.size 3 1 u (enL (fwd c wd (ones n)) n).length (ints (natsI (enL (fwd c wd (ones n)) n))) ∧ Below w.heap.size w w' := by
  obtain ⟨i3, hi3, hz30, hz31, hz32⟩ := info_parts Try.info3
  have hcl := hg.g.sq.len
  have hn4 := hg.g.sq.n4
  have HC : Hid (Calls Try.prog 13 #[cv, wv] w fun e w' => e = .returned (.int .i64 0) ∧ Below w.heap.size w w') := checkW_any n c _ cv wv w hg.g (gdw_of hcl hw hwl) hm hwv
  have HT : Hid (∀ W, Below w.heap.size w W → Calls Try.prog 24 #[cv, wv] W fun e w' => ∃ g, e = .returned (.slice (some ⟨g, 0, none⟩) n n) ∧ w'.rowIs g 3 n (fun k => .int .i64 ((fwd c wd (ones n)).getD k 0)) ∧ Below W.heap.size W w') := fun W h => by
    refine (takenB_any n c wd cv wv W hg.g.sq hg.g.n1 ((hm.below h (Nat.le_refl _)).any (Nat.le_refl _)) ((hwv.below h (Nat.le_refl _)).any (Nat.le_refl _)) hw (by omega) (BdQ n R) hg.b0 hg.b1 hg.b2).mono ?_
    rintro e w' ⟨g, he, hr, _, _, _, hb⟩
    exact ⟨g, he, hr, hb⟩
  obtain ⟨ao, cap, hvv, _, hcm⟩ := mat_open hm
  subst hvv
  obtain ⟨lo, lc, hlvv, _, hlcm⟩ := sl_open hwv
  subst hlvv
  clear hg hm hwv hw hwl hcl
  generalize fwd c wd (ones n) = v at *
  go_enter Try.func12, Try.ntmps12
  go_wp2_with fail
  refine HC.out.mono ?_
  rintro e w1 ⟨rfl, hb1⟩
  have HB1 : Hid (Below w.heap.size w w1) := hb1
  have HT1 := HT.out w1 hb1
  clear hb1 HC HT
  go_wp2_with fail
  refine HT1.mono ?_
  rintro e w2 ⟨g, rfl, hr, hb2⟩
  have HR2 : Hid (w2.rowIs g 3 n (fun k => .int .i64 (v.getD k 0))) := hr
  have HB2 : Hid (Below w.heap.size w w2) := HB1.out.trans (hb2.mono HB1.out.size)
  have HB20 : Hid (w.heap.size ≤ w2.heap.size) := HB2.out.size
  clear hr hb2 HT1
  go_wp2
  go_loopw [7, 8, 9, 20] (fun tv _ _ iv wr => ∃ k : Nat, k ≤ n ∧ iv = .int .i64 k ∧ wr.ownsRow w2.heap.size 3 1 tv (enL v k).length (ints (natsI (enL v k))) ∧ Below w2.heap.size w2 wr) (fun _ _ _ iv _ => n - (intOf iv).toNat)
  case atStart => exact ⟨0, Nat.zero_le _, rfl, World.ownsRow_nil _ _ _ _, Below.refl _ _⟩
  case round =>
    obtain ⟨k, hk, rfl, hot, hbr⟩ := hrel
    have HBR : Hid (Below w2.heap.size w2 wr) := hbr
    have hszr : w2.heap.size ≤ wr.heap.size := hbr.size
    obtain ⟨to, tc, htv⟩ := owns_form hot
    subst htv
    have HOT : Hid (wr.ownsRow w2.heap.size 3 1 (.slice to (enL v k).length tc) (enL v k).length (ints (natsI (enL v k)))) := hot
    have hel := enL_le v k
    clear hot hbr
    by_cases hlt : k < n
    · have hck : wr.cell? ⟨g, k, none⟩ = some (.int .i64 (v.getD k 0)) := (HBR.out.cell (lt_of_cell (HR2.out.cell hlt))).trans (HR2.out.cell hlt)
      have HES : Hid (enL v (k + 1) = if v.getD k 0 < 0 then enL v k ++ [k] else enL v k) := enL_succ v k
      generalize hx : v.getD k 0 = x at *
      clear hx
      generalize hE : enL v k = E at *
      generalize hE2 : enL v (k + 1) = E2 at *
      by_cases hneg : x < 0
      · rw [if_pos hneg] at HES
        have G2 : Hid (wr.ownsRow w2.heap.size 3 1 (.slice to E.length tc) (natsI E).length (ints (natsI E))) := by rw [natsI_len]; exact HOT.out
        have hnl : (natsI E).length = E.length := natsI_len E
        have HNL : Hid ((natsI E).length = E.length) := hnl
        clear hnl
        go_wp2_with (first | (at_builtin; refine wpList_append_own _ rfl _ _ 23 rfl w2.heap.size 3 i3 (.int .i64 0) 1 8 Try.underlying23 hi3 hz30 hz31 hz32 rfl (by decide) _ _ _ rfl (G2.out.alloc _) ⟨wr.heap.size, 0, none⟩ 1 1 [.int .i64 (k : Int)] rfl rfl (one_new _ _ _) (one_int _) ?c3 ?c4 ?c5 ?_))
        case c3 => rw [HNL.out]; unfold maxLen; omega
        case c4 => rw [HNL.out]; omega
        case c5 => simp; omega
        intro v2 w4 ho hg _
        have RR := owns_push (z := (k : Int)) (N := (natsI E).length + 1) hszr (l := natsI E) G2.out HBR.out ho hg rfl
        have S1 : Hid (w4.ownsRow w2.heap.size 3 1 v2 E2.length (ints (natsI E2))) := by
          have h1 := RR.1
          rw [HNL.out] at h1
          rw [HES.out]
          show w4.ownsRow _ _ _ _ _ _
          simpa [natsI] using h1
        have S2 : Hid (Below w2.heap.size w2 w4) := RR.2
        obtain ⟨vo, vc, hv2⟩ := owns_form ho
        subst hv2
        clear ho hg RR
        go_wp2
        go_roundw
        case rel => exact ⟨k + 1, by omega, by go_num, by rw [hE2]; exact S1.out, S2.out⟩
        case measure => simp [intOf]; omega
      · rw [if_neg hneg] at HES
        go_wp2
        go_roundw
        case rel => exact ⟨k + 1, by omega, by go_num, by rw [hE2, HES.out]; exact HOT.out, HBR.out⟩
        case measure => simp [intOf]; omega
    · have hke : k = n := by omega
      subst hke
      have HO5 : Hid (wr.ownsRow w.heap.size 3 1 (.slice to (enL v k).length tc) (enL v k).length (ints (natsI (enL v k)))) := own_low HOT.out HB20.out
      have HB5 : Hid (Below w.heap.size w wr) := HB2.out.trans (HBR.out.mono HB20.out)
      clear HOT HBR
      generalize hE : enL v k = E at *
      go_wp2
      go_ret2
      exact ⟨_, rfl, by rw [hE]; exact HO5.out, HB5.out⟩

end Go.Proofs.Ytkpdgpdicafeiaa
