/- weyl.takenBack. -/
import Derived.Test.YtkpdgpdicafeiaaWy3
namespace Go.Proofs.Ytkpdgpdicafeiaa
open Go.RowKit
attribute [local go_sem ↓] Go.wp_at_zero Go.wp_at_succ

/-- Turned over by one letter after the other. -/
def fwd (c : List (List Int)) (l : List Nat) (v : List Int) : List Int := l.foldl (fun v r => ovL c v r) v

theorem fwd_snoc (c : List (List Int)) (l : List Nat) (r : Nat) (v : List Int) : fwd c (l ++ [r]) v = ovL c (fwd c l v) r := by simp [fwd]

theorem fwd_tak (c : List (List Int)) (l : List Nat) (v : List Int) : fwd c l v = tak c l.reverse v := by
  unfold fwd tak
  rw [List.foldr_reverse]

theorem ones_at {n k : Nat} (hk : k < n) : (ones n).getD k 0 = 1 := by simp [ones, hk]

theorem natsI_len (l : List Nat) : (natsI l).length = l.length := by simp [natsI]

theorem natsI_at {l : List Nat} {k : Nat} (hk : k < l.length) : (natsI l).getD k 0 = ((l.getD k 0 : Nat) : Int) := by simp [natsI, hk]

set_option maxRecDepth 100000 in
set_option maxHeartbeats 1600000 in
theorem takenB_any (n : Nat) (c : List (List Int)) (wd : List Nat) (cv wv : Value) (w : World) (hc : Sqc n c) (hn1 : 1 ≤ n) (hm : Mat w.heap.size 23 3 w cv c) (hwv : Sl w.heap.size 3 w wv (ints (natsI wd))) (hlt : Lt c wd) (hwl : wd.length ≤ 1000)
    (Bd : List Int → Prop) (hB0 : Bd (ones n)) (hB1 : ∀ u r, r < n → Bd u → Bd (ovL c u r)) (hB2 : ∀ u, Bd u → ∀ k, -1000000 ≤ u.getD k 0 ∧ u.getD k 0 ≤ 1000000) :
    Calls Try.prog 24 #[cv, wv] w fun e w' => ∃ g, e = .returned (.slice (some ⟨g, 0, none⟩) n n) ∧ w'.rowIs g 3 n (fun k => .int .i64 ((fwd c wd (ones n)).getD k 0)) ∧ Bd (fwd c wd (ones n)) ∧ w.heap.size ≤ g ∧ g < w'.heap.size ∧ Below w.heap.size w w' := by
  obtain ⟨ao, cap, hvv, hlc, hcm⟩ := mat_open hm
  subst hvv
  obtain ⟨wo, wc, hwvv, hwlc, hwcm⟩ := sl_open hwv
  subst hwvv
  have hn4 := hc.n4
  have HCL : Hid (c.length = n) := hc.len
  rw [natsI_len] at hwv hwlc ⊢
  obtain ⟨W, hW⟩ : ∃ W, W = w.alloc (.cells #[.int .i64 1] 3) := ⟨_, rfl⟩
  have HBA : Hid (Below w.heap.size w W) := by rw [hW]; exact (Below.refl _ _).alloc (Nat.le_refl _) _
  have HWS : Hid (W.heap.size = w.heap.size + 1) := by rw [hW]; show _ = _; simp
  have HRP : Hid (Calls Try.prog 35 #[.slice (some ⟨w.heap.size, 0, none⟩) 1 1, .int .i64 n] W fun e w' => e = .returned (.slice (some ⟨W.heap.size, 0, none⟩) n n) ∧ w'.rowIs W.heap.size 3 n (fun _ => .int .i64 1) ∧ Below W.heap.size W w') := repeat_any n 1 w.heap.size W (by omega) (by rw [hW]; simp)
  have HOV : Hid (∀ g W' u r, (∀ b, b < w.heap.size → W'.heap[b]? = w.heap[b]?) → w.heap.size ≤ g → r < n → Bd u → W'.rowIs g 3 n (fun k => .int .i64 (u.getD k 0)) → Calls Try.prog 34 #[.slice ao c.length cap, .slice (some ⟨g, 0, none⟩) n n, .int .i64 (r : Nat)] W' fun e w' => e = .returned (.tuple #[]) ∧ w'.rowIs g 3 n (fun k => .int .i64 ((ovL c u r).getD k 0)) ∧ Only g W' w') := fun g W' u r h1 h2 h3 h4 h5 =>
    over_any n c u r g w.heap.size _ w W' hc hm h1 h2 h3 (hB2 u h4) h5
  have HV : Hid (∀ W', (∀ b, b < w.heap.size → W'.heap[b]? = w.heap[b]?) → Sl w.heap.size 3 W' (.slice wo wd.length wc) (ints (natsI wd))) := fun W' h => hwv.move fun b hb ht => ⟨h b hb, ht⟩
  have HLT : Hid (Lt c wd) := hlt
  have HB0 : Hid (Bd (ones n)) := hB0
  have HB1 : Hid (∀ u r, r < n → Bd u → Bd (ovL c u r)) := hB1
  clear hc hm hwv hlt hB0 hB1 hB2
  go_enter Try.func24, Try.ntmps24
  rw [HCL.out]
  go_wp2_with fail
  rw [← hW]
  clear hW
  refine HRP.out.mono ?_
  rintro e w1 ⟨rfl, hrow, hb1⟩
  rw [HWS.out] at hrow
  have HR1 : Hid (w1.rowIs (w.heap.size + 1) 3 n (fun k => .int .i64 ((ones n).getD k 0))) := hrow.congr fun k hk => by rw [ones_at hk]
  have HB1' : Hid (Below w.heap.size w w1) := HBA.out.trans (hb1.mono HBA.out.size)
  have HG1 : Hid (w.heap.size + 1 < w1.heap.size) := hrow.lt
  rw [HWS.out]
  clear hrow hb1 HRP
  go_wp2
  go_loopw [7, 14] (fun _ i wr => ∃ k : Nat, k ≤ wd.length ∧ i = .int .i64 k ∧ wr.rowIs (w.heap.size + 1) 3 n (fun j => .int .i64 ((fwd c (wd.take k) (ones n)).getD j 0)) ∧ Bd (fwd c (wd.take k) (ones n)) ∧ Only (w.heap.size + 1) w1 wr) (fun _ i _ => wd.length - (intOf i).toNat)
  case atStart => exact ⟨0, Nat.zero_le _, rfl, HR1.out, HB0.out, Only.refl _ _⟩
  case round =>
    obtain ⟨k, hk, rfl, hrw, hbd, hon⟩ := hrel
    have HRW : Hid (wr.rowIs (w.heap.size + 1) 3 n (fun j => .int .i64 ((fwd c (wd.take k) (ones n)).getD j 0))) := hrw
    have HBD : Hid (Bd (fwd c (wd.take k) (ones n))) := hbd
    have HON : Hid (Only (w.heap.size + 1) w1 wr) := hon
    have HLO : Hid (∀ b, b < w.heap.size → wr.heap[b]? = w.heap[b]?) := fun b hb => (HON.out.block b (by omega)).trans (HB1'.out.block b hb)
    clear hrw hbd hon
    by_cases hlt : k < wd.length
    · obtain ⟨lb, lq, lcc, hs, _, hcc⟩ := sl_cell (HV.out wr HLO.out) (k := k) (by rw [natsI_len]; exact hlt)
      rw [natsI_len] at hs
      simp only [Value.slice.injEq] at hs
      obtain ⟨rfl, -, rfl⟩ := hs
      rw [natsI_at hlt] at hcc
      have hr : wd.getD k 0 < n := by rw [← HCL.out]; exact HLT.out _ (by simp [hlt])
      have HFS : Hid (fwd c (wd.take (k + 1)) (ones n) = ovL c (fwd c (wd.take k) (ones n)) (wd.getD k 0)) := by
        show _ = _
        rw [List.take_succ_eq_append_getElem hlt, fwd_snoc, show wd[k] = wd.getD k 0 by simp [hlt]]
      generalize wd.getD k 0 = r at *
      have HOR := HOV.out (w.heap.size + 1) wr _ r HLO.out (by omega) hr HBD.out HRW.out
      rw [HCL.out] at HOR
      have HORH : Hid (Calls Try.prog 34 #[.slice ao n cap, .slice (some ⟨w.heap.size + 1, 0, none⟩) n n, .int .i64 (r : Nat)] wr fun e w' => e = .returned (.tuple #[]) ∧ w'.rowIs (w.heap.size + 1) 3 n (fun j => .int .i64 ((ovL c (fwd c (wd.take k) (ones n)) r).getD j 0)) ∧ Only (w.heap.size + 1) wr w') := HOR
      have HB2 : Hid (Bd (ovL c (fwd c (wd.take k) (ones n)) r)) := HB1.out _ r hr HBD.out
      have kI : (k : Int) < (wd.length : Int) := by omega
      have kI0 : (0 : Int) ≤ (k : Int) := by omega
      clear HOR HBD HRW
      generalize fwd c (wd.take k) (ones n) = U at *
      go_wp2_with fail
      refine HORH.out.mono ?_
      rintro e w3 ⟨rfl, hrow3, hon3⟩
      have HR3 : Hid (w3.rowIs (w.heap.size + 1) 3 n (fun j => .int .i64 ((fwd c (wd.take (k + 1)) (ones n)).getD j 0))) := by rw [HFS.out]; exact hrow3
      have HO3 : Hid (Only (w.heap.size + 1) w1 w3) := HON.out.trans hon3
      have HB3 : Hid (Bd (fwd c (wd.take (k + 1)) (ones n))) := by rw [HFS.out]; exact HB2.out
      clear hrow3 hon3 HORH HON
      go_wp2
      exact ⟨⟨k + 1, by omega, by go_num, HR3.out, HB3.out, HO3.out⟩, by simp [intOf]; omega⟩
    · have hke : k = wd.length := by omega
      subst hke
      have hsz : wr.heap.size = w1.heap.size := HON.out.size
      have HFI : Hid (wr.rowIs (w.heap.size + 1) 3 n (fun j => .int .i64 ((fwd c wd (ones n)).getD j 0)) ∧ Bd (fwd c wd (ones n))) := by
        have h1 := HRW.out
        have h2 := HBD.out
        rw [List.take_length] at h1 h2
        exact ⟨h1, h2⟩
      have HBF : Hid (Below w.heap.size w wr) := ⟨HON.out.os.trans HB1'.out.os, HON.out.tape.trans HB1'.out.tape, HON.out.output.trans HB1'.out.output, by rw [hsz]; exact HB1'.out.size, HLO.out⟩
      have HGF : Hid (w.heap.size + 1 < wr.heap.size) := by rw [hsz]; exact HG1.out
      go_wp2
      go_ret
      exact ⟨_, rfl, HFI.out.1, HFI.out.2, by omega, HGF.out, HBF.out⟩

end Go.Proofs.Ytkpdgpdicafeiaa
