/- weyl.Below, weyl.Longest. -/
import Derived.Test.YtkpdgpdicafeiaaBrA
import Derived.Test.YtkpdgpdicafeiaaWz3
import Derived.Test.YtkpdgpdicafeiaaWp0
namespace Go.Proofs.Ytkpdgpdicafeiaa
open Go.RowKit
attribute [local go_sem ↓] Go.wp_at_zero Go.wp_at_succ

/-- What weyl.Below answers. -/
def blB (c : List (List Int)) (a b : List Nat) : Bool := decide (0 < minL (isp c (rdW c b).reverse (fwd c a (ones c.length))))

set_option maxRecDepth 100000 in
set_option maxHeartbeats 1600000 in
theorem belowW_any (n : Nat) (c R : List (List Int)) (wa wb : List Nat) (cv av bv : Value) (w : World) (hg : Gda n c R) (hwa : Lt c wa) (hwb : Lt c wb) (hal : wa.length ≤ 40) (hbl : wb.length ≤ 40) (hm : Mat w.heap.size 23 3 w cv c) (hav : Sl w.heap.size 3 w av (ints (natsI wa))) (hbv : Sl w.heap.size 3 w bv (ints (natsI wb))) :
    Calls Try.prog 15 #[cv, av, bv] w fun e w' => e = .returned (.tuple #[.bool (blB c wa wb), .int .i64 0]) ∧ Below w.heap.size w w' := by
  have hcl := hg.g.sq.len
  have HC : Hid (Calls Try.prog 28 #[cv, av, bv] w fun e w' => e = .returned (.int .i64 0) ∧ Below w.heap.size w w') := checkBothW_any n c _ _ cv av bv w hg.g (gdw_of hcl hwa hal) (gdw_of hcl hwb hbl) hm hav hbv
  have HT : Hid (∀ W, Below w.heap.size w W → Calls Try.prog 23 #[cv, bv] W fun e w' => ∃ g, e = .returned (.slice (some ⟨g, 0, none⟩) n n) ∧ w'.rowIs g 3 n (fun k => .int .i64 ((tak c wb (ones n)).getD k 0)) ∧ BdQ n R (tak c wb (ones n)) ∧ W.heap.size ≤ g ∧ g < w'.heap.size ∧ Below W.heap.size W w') := fun W h =>
    taken_any n c wb cv bv W hg.g.sq hg.g.n1 ((hm.below h (Nat.le_refl _)).any (Nat.le_refl _)) ((hbv.below h (Nat.le_refl _)).any (Nat.le_refl _)) hwb (by omega) (BdQ n R) hg.b0 hg.b1 hg.b2
  have HU : Hid (∀ W W2 g, Below w.heap.size w W → Below W.heap.size W W2 → W.heap.size ≤ g → g < W2.heap.size → W2.rowIs g 3 n (fun k => .int .i64 ((tak c wb (ones n)).getD k 0)) → BdQ n R (tak c wb (ones n)) → Calls Try.prog 22 #[cv, .slice (some ⟨g, 0, none⟩) n n] W2 fun e w' => ∃ u, e = .returned u ∧ w'.ownsRow W2.heap.size 3 1 u (rdW c wb).length (ints (natsI (rdW c wb))) ∧ Btx g W2 w') := fun W W2 g h1 h2 h3 h4 h5 h6 => by
    have hu := uprt_any n c (tak c wb (ones n)) g W.heap.size 24 cv W W2 hg.g.sq ((hm.below h1 (Nat.le_refl _)).any (Nat.le_refl _)) (fun b hb => h2.block b hb) h3 h4 h5 h6.1 (BdQ n R) h6 hg.b1 hg.b2 (by have := (rd_all hg hwb).2.2.2; rw [hcl] at this; exact this) (by omega)
    unfold rdW
    rw [hcl]
    exact hu
  have hrl : (rdW c wb).length ≤ 40 := Nat.le_trans (rd_len_le hg hwb) hbl
  have HP : Hid (∀ W uv, Below w.heap.size w W → Sl 0 3 W uv (ints (natsI (rdW c wb))) → Calls Try.prog 29 #[cv, av, uv] W fun e w' => e = .returned (.bool (blB c wa wb)) ∧ Below W.heap.size W w') := fun W uv h1 h2 => by
    have := isPart_any n c wa (rdW c wb) cv av uv W hg.g.sq hg.g.n1 ((hm.below h1 (Nat.le_refl _)).any (Nat.le_refl _)) ((hav.below h1 (Nat.le_refl _)).any (Nat.le_refl _)) (h2.more (Nat.zero_le _)) hwa (by omega) (rd_all hg hwb).2.1 (by omega) (BdQ n R) hg.b0 hg.b1 hg.b2 (fun u hu => hu.1)
    unfold blB
    rw [hcl]
    exact this
  obtain ⟨ao, cap, hvv, _, hcm⟩ := mat_open hm
  subst hvv
  obtain ⟨lo, lc, hlvv, _, hlcm⟩ := sl_open hav
  subst hlvv
  obtain ⟨ko, kc, hkvv, _, hkcm⟩ := sl_open hbv
  subst hkvv
  clear hg hm hav hbv hwa hwb hal hbl hcl
  obtain ⟨fb, hfb⟩ : ∃ fb, fb = blB c wa wb := ⟨_, rfl⟩
  rw [← hfb] at HP ⊢
  clear hfb
  go_enter Try.func15, Try.ntmps15
  go_wp2_with fail
  refine HC.out.mono ?_
  rintro e w1 ⟨rfl, hb1⟩
  have HB1 : Hid (Below w.heap.size w w1) := hb1
  have HT1 := HT.out w1 hb1
  clear hb1 HC HT
  go_wp2_with fail
  refine HT1.mono ?_
  rintro e w2 ⟨g, rfl, hr, hbd, hg1, hg2, hb2⟩
  have HU1 := HU.out w1 w2 g HB1.out hb2 hg1 hg2 hr hbd
  have HB2 : Hid (Below w.heap.size w w2) := HB1.out.trans (hb2.mono HB1.out.size)
  have HG1 : Hid (w.heap.size ≤ g) := Nat.le_trans HB1.out.size hg1
  clear hr hbd hg1 hg2 hb2 HT1 HU
  go_wp2_with fail
  refine HU1.mono ?_
  rintro e w3 ⟨u, rfl, ho, hbt⟩
  have HB3 : Hid (Below w.heap.size w w3) := btx_below HB2.out (Nat.le_refl _) hbt HG1.out
  have HP1 := HP.out w3 u HB3.out (Sl.own ho)
  obtain ⟨uo, uc, huv⟩ := owns_form ho
  subst huv
  clear ho hbt HU1 HP
  go_wp2_with fail
  refine HP1.mono ?_
  rintro e w4 ⟨rfl, hb4⟩
  have HB4 : Hid (Below w.heap.size w w4) := HB3.out.trans (hb4.mono HB3.out.size)
  clear hb4 HP1
  go_wp2
  go_ret2
  exact ⟨rfl, HB4.out⟩

theorem isp_len (c : List (List Int)) : ∀ (l : List Nat) (m : List Int), m.length = c.length → (isp c l m).length = c.length
  | [], _, h => h
  | s :: l, m, h => isp_len c l _ (by
    show (if m.getD s 0 < 0 then ovL c m s else m).length = c.length
    by_cases e : m.getD s 0 < 0
    · rw [if_pos e, ovL_len]
    · rw [if_neg e, h])

end Go.Proofs.Ytkpdgpdicafeiaa
