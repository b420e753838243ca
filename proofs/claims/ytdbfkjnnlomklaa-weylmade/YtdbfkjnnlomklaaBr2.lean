/- weyl.isPart. -/
import Derived.Test.YtdbfkjnnlomklaaWy5
import Derived.Test.YtdbfkjnnlomklaaTpA
import Derived.Test.YtdbfkjnnlomklaaWlA
namespace Go.Proofs.Ytdbfkjnnlomklaa
open Go.RowKit Go.Shelf
attribute [local go_sem] Oper.semAt_some

theorem isp_snoc (c : List (List Int)) (l : List Nat) (r : Nat) (m : List Int) : isp c (l ++ [r]) m = if (isp c l m).getD r 0 < 0 then ovL c (isp c l m) r else isp c l m := by
  unfold isp; rw [List.foldl_append]; rfl

set_option maxRecDepth 100000 in
set_option maxHeartbeats 8000000 in
theorem isPart_any (n : Nat) (c : List (List Int)) (wa wd : List Nat) (cv av wv : Value) (w : World) (hc : Sqc n c) (hn1 : 1 ≤ n) (hm : Mat w.heap.size 22 3 w cv c) (hav : Sl w.heap.size 3 w av (ints (natsI wa))) (hwv : Sl w.heap.size 3 w wv (ints (natsI wd))) (hla : Lt c wa) (hal : wa.length ≤ 1000) (hlt : Lt c wd) (hwl : wd.length ≤ 1000)
    (Bd : List Int → Prop) (hB0 : Bd (ones n)) (hB1 : ∀ u r, r < n → Bd u → Bd (ovL c u r)) (hB2 : ∀ u, Bd u → ∀ k, -1000000 ≤ u.getD k 0 ∧ u.getD k 0 ≤ 1000000) (hB3 : ∀ u, Bd u → u.length = n) :
    Calls Try.prog 42 #[cv, av, wv] w fun e w' => e = .returned (.bool (decide (0 < minL (isp c wd.reverse (fwd c wa (ones n)))))) ∧ Below w.heap.size w w' := by
  obtain ⟨ao, cap, hvv, hlc, hcm⟩ := mat_open hm
  subst hvv
  obtain ⟨wo, wc, hwvv, hwlc, hwcm⟩ := sl_open hwv
  subst hwvv
  obtain ⟨xo, xc, hxvv, hxlc, hxcm⟩ := sl_open hav
  subst hxvv
  have hn4 := hc.n4
  have HCL : Hid (c.length = n) := hc.len
  rw [natsI_len] at hwv hwlc hav hxlc ⊢
  rw [natsI_len]
  obtain ⟨W, hW⟩ : ∃ W, W = w.alloc (.cells #[.slice ao c.length cap] 23) := ⟨_, rfl⟩
  have hsW : W.heap.size = w.heap.size + 1 := by rw [hW]; simp
  have HBA : Hid (Below w.heap.size w W) := by rw [hW]; exact (Below.refl _ _).alloc (Nat.le_refl _) _
  have a0 : W.heap[w.heap.size]? = some (.cells #[.slice ao c.length cap] 23 (0, 0)) := by rw [hW]; exact heap_alloc_new w _
  have HWW : Hid (W = w.alloc (.cells #[.slice ao c.length cap] 23)) := hW
  have HSW : Hid (W.heap.size = w.heap.size + 1) := hsW
  have HA0 : Hid (W.heap[w.heap.size]? = some (.cells #[.slice ao c.length cap] 23 (0, 0))) := a0
  have HTB : Hid (Calls Try.prog 37 #[.slice ao c.length cap, .slice xo wa.length xc] W fun e w' => ∃ g, e = .returned (.slice (some ⟨g, 0, none⟩) n n) ∧ w'.rowIs g 3 n (fun k => .int .i64 ((fwd c wa (ones n)).getD k 0)) ∧ Bd (fwd c wa (ones n)) ∧ W.heap.size ≤ g ∧ g < w'.heap.size ∧ Below W.heap.size W w') := takenB_any n c wa _ _ W hc hn1 ((hm.below HBA.out (Nat.le_refl _)).any (Nat.le_refl _)) ((hav.below HBA.out (Nat.le_refl _)).any (Nat.le_refl _)) hla hal Bd hB0 hB1 hB2
  have HOV : Hid (∀ g W' u r, (∀ b, b < w.heap.size → W'.heap[b]? = w.heap[b]?) → w.heap.size ≤ g → r < n → Bd u → W'.rowIs g 3 n (fun k => .int .i64 (u.getD k 0)) → Calls Try.prog 47 #[.slice ao c.length cap, .slice (some ⟨g, 0, none⟩) n n, .int .i64 (r : Nat)] W' fun e w' => e = .returned (.tuple #[]) ∧ w'.rowIs g 3 n (fun k => .int .i64 ((ovL c u r).getD k 0)) ∧ Only g W' w') := fun g W' u r h1 h2 h3 h4 h5 =>
    over_any n c u r g w.heap.size _ w W' hc hm h1 h2 h3 (hB2 u h4) h5
  have HV : Hid (∀ W', (∀ b, b < w.heap.size → W'.heap[b]? = w.heap[b]?) → Sl w.heap.size 3 W' (.slice wo wd.length wc) (ints (natsI wd))) := fun W' h => hwv.move fun b hb ht => ⟨h b hb, ht⟩
  have HLT : Hid (Lt c wd) := hlt
  have HB1 : Hid (∀ u r, r < n → Bd u → Bd (ovL c u r)) := hB1
  have HB3 : Hid (∀ u, Bd u → u.length = n) := hB3
  have g0 : (w.alloc (.cells #[.slice ao c.length cap] 23)).cell? ⟨w.heap.size, 0, none⟩ = some (.slice ao c.length cap) := by rw [← HWW.out]; simp [World.cell?, a0]
  rw [HCL.out] at g0 HWW HA0 HOV HTB
  clear hc hm hwv hav hlt hla hB0 hB1 hB2 hB3 hW hsW a0
  rw [HCL.out]
  generalize fwd c wa (ones n) = m0 at *
  refine callsIn_wide (n := 0).1 ?_
  refine callsIn_of_wp_marks Try.func42 rfl trivial ?_ rfl
  simp only [Try.ntmps42, List.size_toArray, List.length_cons, List.length_nil, Nat.reduceAdd, Nat.reduceSub, Array.replicate_succ, Array.replicate_zero, List.push_toArray, List.append_toArray, List.nil_append, List.cons_append]
  gi_wp2_with fail
  refine ⟨trivial, rfl, ?_⟩
  rw [← HWW.out]
  refine (callsIn_wide.2 HTB.out).mono ?_
  rintro e w1 ⟨g, rfl, hrow, hbd0, hgW, hg1, hb1⟩
  rw [HSW.out] at hgW
  have HR1 : Hid (w1.rowIs g 3 n (fun k => .int .i64 (m0.getD k 0))) := hrow
  have HBW : Hid (Below w.heap.size w w1) := HBA.out.trans (hb1.mono HBA.out.size)
  have HG1 : Hid (g < w1.heap.size) := hg1
  have HG0 : Hid (w.heap.size + 1 ≤ g) := hgW
  have HB0 : Hid (Bd m0) := hbd0
  have HA1 : Hid (w1.heap[w.heap.size]? = some (.cells #[.slice ao n cap] 23 (0, 0))) := (hb1.block _ (by rw [HSW.out]; omega)).trans HA0.out
  clear hrow hb1 HTB g0 HWW HA0 HBA hbd0 hgW hg1
  obtain ⟨wD, hwD⟩ : ∃ wD, wD = w1.alloc (.cells #[.slice (some ⟨g, 0, none⟩) n n] 22) := ⟨_, rfl⟩
  obtain ⟨WN, hWN⟩ : ∃ WN, WN = wD.alloc (.cells #[.slice wo wd.length wc] 22) := ⟨_, rfl⟩
  have sD : wD.heap.size = w1.heap.size + 1 := by rw [hwD]; simp
  have sN : WN.heap.size = w1.heap.size + 2 := by rw [hWN]; simp [sD]
  have bD : Below w1.heap.size w1 wD := by rw [hwD]; exact (Below.refl _ _).alloc (Nat.le_refl _) _
  have bN : Below w1.heap.size w1 WN := by rw [hWN]; exact bD.alloc (by omega) _
  have nM : WN.heap[w1.heap.size]? = some (.cells #[.slice (some ⟨g, 0, none⟩) n n] 22 (0, 0)) := by
    rw [hWN]; refine (Below.heap_alloc _ _ _ (by omega)).trans ?_
    rw [hwD]; exact heap_alloc_new w1 _
  have nP : WN.heap[w1.heap.size + 1]? = some (.cells #[.slice wo wd.length wc] 22 (0, 0)) := by rw [hWN, ← sD]; exact heap_alloc_new wD _
  have HWN : Hid (WN = (w1.alloc (.cells #[.slice (some ⟨g, 0, none⟩) n n] 22)).alloc (.cells #[.slice wo wd.length wc] 22)) := by rw [hWN, hwD]; rfl
  have HSN : Hid (WN.heap.size = w1.heap.size + 2) := sN
  have HBN : Hid (Below w1.heap.size w1 WN) := bN
  have HNM : Hid (WN.heap[w1.heap.size]? = some (.cells #[.slice (some ⟨g, 0, none⟩) n n] 22 (0, 0))) := nM
  have HSQ := back_seq (natsI wd) (.slice wo wd.length wc) (w1.heap.size + 1) w.heap.size WN nP (by rw [natsI_len]; omega) (fun W' h => HV.out W' fun b hb => (h b hb).trans ((bN.block b (by have := HG1.out; have := HG0.out; omega)).trans (HBW.out.block b hb))) (by have := HG1.out; have := HG0.out; omega)
  rw [natsI_len] at HSQ
  clear nM nP bD bN sD sN hwD hWN
  gi_wp2_with (refine ⟨trivial, rfl, ?_⟩; gi_at_call 49; refine (callsIn_wide.2 (backI_any _ _ _ _)).mono ?_; rintro e w' ⟨rfl, rfl⟩)
  rw [← HWN.out]
  obtain ⟨f, hf⟩ : ∃ f : List Nat → List Int, f = fun pre => isp c (pre.map fun x => wd.getD x 0) m0 := ⟨_, rfl⟩
  have HF0 : Hid (f [] = m0) := by rw [hf]; rfl
  have HF1 : Hid (∀ pre x, f (pre ++ [x]) = if (f pre).getD (wd.getD x 0) 0 < 0 then ovL c (f pre) (wd.getD x 0) else f pre) := fun pre x => by rw [hf]; simp only [List.map_append, List.map_cons, List.map_nil, isp_snoc]
  have HF2 : Hid (f (dnL wd.length) = isp c wd.reverse m0) := by
    rw [hf]
    show isp c ((dnL wd.length).map fun x => wd.getD x 0) m0 = _
    have e : ((dnL wd.length).map fun x => wd.getD x 0) = wd.reverse := by
      unfold dnL
      rw [List.map_reverse]
      congr 1
      refine List.ext_getElem (by simp) fun k h1 h2 => ?_
      simp [h2]
    rw [e]
  clear hf
  have HI0 : Hid (TkI w WN w1.heap.size g n Bd f (fun _ => False) [] WN) := by
    have hs1 := HG1.out
    have hsn := HSN.out
    refine ⟨fun b hb => hb.elim, by omega, fun b hb hn => rfl, HBN.out.os.trans HBW.out.os, HBN.out.tape.trans HBW.out.tape, HBN.out.output.trans HBW.out.output, ?_, by rw [HF0.out]; exact HB0.out⟩
    rw [HF0.out]
    exact HR1.out.of_block (HBN.out.block _ hs1)
  refine range_s (R := HandB (natsI wd)) (cs := dnL wd.length) (T := fun b => b < w.heap.size ∨ b = w1.heap.size + 1) (S0 := fun _ => False) (gf := 55) (lb := #[.pointer (some ⟨w1.heap.size + 1, 0, none⟩)]) rfl (enters_of Try.func55 (by kernel_rfl) rfl) HSQ (fun b hb => hb.elim)
    (fun W' S x vs h => by rw [h.1]; rfl) (fun W S x vs W' h _ => h) (fun W S x vs l r o h _ => h)
    (fun S pre W' => TkI w WN w1.heap.size g n Bd f S pre W')
    (fun c S pre W' => False)
    (fun S S' pre W' W'' h hc hs => h.stab HG1.out hc hs) (fun c S S' pre W' W'' h hc hs => h) HI0.out
    (fun vs a' W' => ∃ x : Nat, vs = #[.int .i64 (x : Nat), .int .i64 ((natsI wd).getD x 0)] ∧ a' = { tmps := #[.slice ao n cap, .slice xo wa.length xc, .slice wo wd.length wc, .pointer (some ⟨w.heap.size, 0, none⟩), undef, undef, .bool false, .pointer (some ⟨w1.heap.size, 0, none⟩), undef, .int .i64 ((natsI wd).getD x 0), .slice ao n cap, .slice xo wa.length xc, .slice (some ⟨g, 0, none⟩) n n, .slice wo wd.length wc, .func (.func 55) #[] #[.pointer (some ⟨w1.heap.size + 1, 0, none⟩)], .int .i64 (x : Nat), .int .i64 ((natsI wd).getD x 0), undef, undef, undef, undef, undef, undef, undef, undef, undef, undef, undef, undef], defers := [] })
    (fun vs a' W' l r o h _ => h) ?assign ?body (fun h => by have := HSN.out; have := HG1.out; have := HG0.out; rcases h with h | h <;> omega) ?done ?stop
  case assign =>
    rintro S x vs W' K hR hK
    have hR' : vs = #[.int .i64 (x : Nat), .int .i64 ((natsI wd).getD x 0)] := hR.1
    subst hR'
    gi_wp2
    exact hK _ _ (Below.refl _ _) ⟨x, rfl, rfl⟩
  case stop =>
    rintro c S pre W' hpre h
    exact h.elim
  case body =>
    rintro S pre x vs a' W1 hi hSD hSL hlt1 hdf hlp hpre ⟨S1, hR, hS1⟩ ⟨x', hvs', rfl⟩
    have hxx : x = x' := by
      have h1 := hR.1
      rw [hvs'] at h1
      simp only [List.toArray_eq_iff, List.cons.injEq, Value.int.injEq, true_and, and_true] at h1
      have := h1.1
      omega
    subst hxx
    have hxl : x < wd.length := by
      have : x ∈ dnL wd.length := hpre.subset (by simp)
      simpa [dnL] using this
    rw [natsI_at hxl]
    have hr : wd.getD x 0 < n := by rw [← HCL.out]; exact HLT.out _ (by simp [hxl])
    have hs1 := HG1.out
    have hg0 := HG0.out
    have HLO : Hid (∀ b, b < w.heap.size → W1.heap[b]? = w.heap[b]?) := fun b hb => (hi.kp b (by omega) (by omega)).trans ((HBN.out.block b (by omega)).trans (HBW.out.block b hb))
    have HOR : Hid (Calls Try.prog 47 #[.slice ao n cap, .slice (some ⟨g, 0, none⟩) n n, .int .i64 (wd.getD x 0 : Nat)] W1 fun e w' => e = .returned (.tuple #[]) ∧ w'.rowIs g 3 n (fun k => .int .i64 ((ovL c (f pre) (wd.getD x 0)).getD k 0)) ∧ Only g W1 w') := HOV.out _ W1 _ _ HLO.out (by omega) hr hi.bd hi.row
    have m0 : W1.cell? ⟨w.heap.size, 0, none⟩ = some (.slice ao n cap) := by
      have := (hi.kp w.heap.size (by omega) (by omega)).trans ((HBN.out.block _ (by omega)).trans HA1.out)
      simp [World.cell?, this]
    have m1 : W1.cell? ⟨w1.heap.size, 0, none⟩ = some (.slice (some ⟨g, 0, none⟩) n n) := by
      have := (hi.kp w1.heap.size (by omega) (by omega)).trans HNM.out
      simp [World.cell?, this]
    have m2 : W1.cell? ⟨g, wd.getD x 0, none⟩ = some (.int .i64 ((f pre).getD (wd.getD x 0) 0)) := hi.row.cell hr
    have HEN : Hid ((f pre).getD (wd.getD x 0) 0 < 0 → ∀ W2, W2.rowIs g 3 n (fun k => .int .i64 ((ovL c (f pre) (wd.getD x 0)).getD k 0)) → Only g W1 W2 → Kpt (fun b => S b ∨ (b < w.heap.size ∨ b = w1.heap.size + 1)) W1 W2 ∧ TkI w WN w1.heap.size g n Bd f S (pre ++ [x]) W2) := fun hneg W2 h1 h2 => by
      have hF := HF1.out pre x
      rw [if_pos hneg] at hF
      refine ⟨⟨Nat.le_of_eq h2.size.symm, fun b _ hs => h2.block b (fun e => ?_)⟩, hi.sn, by have := hi.size; have := h2.size; omega, fun b hb hn => (h2.block b hn).trans (hi.kp b hb hn), h2.os.trans hi.os, h2.tape.trans hi.tape, h2.output.trans hi.output, by rw [hF]; exact h1, by rw [hF]; exact HB1.out _ _ hr hi.bd⟩
      subst e
      rcases hs with hs | hs
      · have := hi.sn _ hs; omega
      · omega
    have HEK : Hid (¬ (f pre).getD (wd.getD x 0) 0 < 0 → Kpt (fun b => S b ∨ (b < w.heap.size ∨ b = w1.heap.size + 1)) W1 W1 ∧ TkI w WN w1.heap.size g n Bd f S (pre ++ [x]) W1) := fun hneg => by
      have hF := HF1.out pre x
      rw [if_neg hneg] at hF
      exact ⟨⟨Nat.le_refl _, fun b _ hs => rfl⟩, hi.sn, hi.size, hi.kp, hi.os, hi.tape, hi.output, by rw [hF]; exact hi.row, by rw [hF]; exact hi.bd⟩
    clear hi hpre hR hS1 hvs' hSD hSL hlt1 hdf hlp HSQ HI0 hs1 hg0
    generalize (f pre).getD (wd.getD x 0) 0 = z at *
    generalize wd.getD x 0 = r at *
    by_cases hneg : z < 0
    · have HEN1 := HEN.out hneg
      have HEN2 : Hid _ := HEN1
      clear HEN HEN1 HEK
      gi_wp2_with fail
      refine ⟨trivial, rfl, ?_⟩
      refine (CallsIn.inRound _ (callsIn_wide.2 HOR.out)).mono ?_
      rintro e w5 ⟨rfl, h1, h2⟩
      obtain ⟨p3, p4⟩ := HEN2.out w5 h1 h2
      have P3 : Hid _ := p3
      have P4 : Hid _ := p4
      clear HEN2 HOR h1 h2 p3 p4
      gi_wp2
      exact ⟨P3.out, P4.out⟩
    · obtain ⟨p3, p4⟩ := HEK.out hneg
      have P3 : Hid _ := p3
      have P4 : Hid _ := p4
      clear HEN HEK HOR p3 p4
      gi_wp2
      exact ⟨P3.out, P4.out⟩
  case done =>
    rintro S W' hi hSD hdf
    have hs1 := HG1.out
    have hg0 := HG0.out
    have hsn := HSN.out
    have hsz := hi.size
    have m1 : W'.cell? ⟨w1.heap.size, 0, none⟩ = some (.slice (some ⟨g, 0, none⟩) n n) := by
      have := (hi.kp w1.heap.size (by omega) (by omega)).trans HNM.out
      simp [World.cell?, this]
    have HI : Hid (TkI w WN w1.heap.size g n Bd f S (dnL wd.length) W') := hi
    have HDF : Hid (W'.heap[WN.heap.size]? = some (.deferred (some []))) := hdf
    have hfl : (isp c wd.reverse m0).length = n := by rw [← HF2.out]; exact HB3.out _ hi.bd
    have HMI : Hid (Calls Try.prog 51 #[.slice (some ⟨g, 0, none⟩) n n] W' fun e w' => e = .returned (.int .i64 (minL (isp c wd.reverse m0))) ∧ w' = W') := by
      refine minT_any 0 (isp c wd.reverse m0) _ W' (row_slT hi.row (fun i _ => by rw [HF2.out]) hfl (Nat.le_refl _) (by omega)) (by omega)
    clear hi hSD hdf HSQ HI0 hs1 hsn hsz hfl hg0
    obtain ⟨zm, hzm⟩ : ∃ zm, zm = minL (isp c wd.reverse m0) := ⟨_, rfl⟩
    rw [← hzm] at HMI
    have HZM : Hid (zm = minL (isp c wd.reverse m0)) := hzm
    clear hzm
    gi_wp2_with fail
    refine ⟨trivial, rfl, ?_⟩
    refine (callsIn_wide.2 HMI.out).mono ?_
    rintro e w6 ⟨rfl, rfl⟩
    gi_wp2
    have hs1 := HG1.out
    have hg0 := HG0.out
    have hsn := HSN.out
    have hsz := HI.out.size
    refine leaves_mks [WN.heap.size] _ (by simp) (fun r hr => ?_) (fun w' hc => ⟨.bool (decide (0 < zm)), ?_, ?_⟩)
    · simp only [List.mem_singleton] at hr
      subst hr
      exact HDF.out
    · simp [results, Try.results42, go_sem]
    · refine ⟨by rw [HZM.out], hc.os.trans HI.out.os, hc.tape.trans HI.out.tape, hc.output.trans HI.out.output, by have := hc.size; omega, fun b hb => ?_⟩
      exact (hc.block b (by omega) (by simp; omega)).trans ((HI.out.kp b (by omega) (by omega)).trans ((HBN.out.block b (by omega)).trans (HBW.out.block b hb)))

end Go.Proofs.Ytdbfkjnnlomklaa
