/- weyl.taken. -/
import Derived.Test.YtkpdgpdicafeiaaWy4
import Derived.Test.YtkpdgpdicafeiaaMs7
import Derived.Laws.EntriesVeiled
namespace Go.Proofs.Ytkpdgpdicafeiaa
open Go.RowKit Go.Shelf
attribute [local go_sem] Oper.semAt_some

/-- What holds between two rounds. -/
structure TkI (w WN : World) (a g n : Nat) (Bd : List Int → Prop) (f : List Nat → List Int) (S : Nat → Prop) (pre : List Nat) (W : World) : Prop where
  sn : ∀ b, S b → a + 2 ≤ b
  size : a + 2 ≤ W.heap.size
  kp : ∀ b, b < a + 2 → b ≠ g → W.heap[b]? = WN.heap[b]?
  os : W.os = w.os
  tape : W.tape = w.tape
  output : W.output = w.output
  row : W.rowIs g 3 n (fun k => .int .i64 ((f pre).getD k 0))
  bd : Bd (f pre)

theorem TkI.stab {w WN : World} {a g n : Nat} {Bd : List Int → Prop} {f : List Nat → List Int} {S S' : Nat → Prop} {pre : List Nat} {W W' : World} (h : TkI w WN a g n Bd f S pre W) (hga : g < a) (hc : Chg S W W') (hs : ∀ b, S' b → S b ∨ W.heap.size ≤ b) : TkI w WN a g n Bd f S' pre W' := by
  have hns : ∀ b, b < a + 2 → ¬ S b := fun b hb hS => by have := h.sn b hS; omega
  have hsz := h.size
  refine ⟨fun b hb => ?_, Nat.le_trans hsz hc.size, fun b hb hn => (hc.block b (by omega) (hns b hb)).trans (h.kp b hb hn), hc.os.trans h.os, hc.tape.trans h.tape, hc.output.trans h.output, h.row.of_block (hc.block g (by omega) (hns g (by omega))), h.bd⟩
  rcases hs b hb with k | k
  · exact h.sn b k
  · omega

theorem backI_any (a : Option Addr) (n c : Nat) (w : World) : Calls Try.prog 36 #[.slice a n c] w fun e w' =>
    e = .returned (.func (.func 42) #[] #[.pointer (some ⟨w.heap.size, 0, none⟩)]) ∧ w' = w.alloc (.cells #[.slice a n c] 23) := by
  go_enter Try.func36, Try.ntmps36
  go_wp2
  go_ret
  exact ⟨rfl, rfl⟩

set_option maxRecDepth 100000 in
set_option maxHeartbeats 8000000 in
theorem taken_any (n : Nat) (c : List (List Int)) (wd : List Nat) (cv wv : Value) (w : World) (hc : Sqc n c) (hn1 : 1 ≤ n) (hm : Mat w.heap.size 23 3 w cv c) (hwv : Sl w.heap.size 3 w wv (ints (natsI wd))) (hlt : Lt c wd) (hwl : wd.length ≤ 1000)
    (Bd : List Int → Prop) (hB0 : Bd (ones n)) (hB1 : ∀ u r, r < n → Bd u → Bd (ovL c u r)) (hB2 : ∀ u, Bd u → ∀ k, -1000000 ≤ u.getD k 0 ∧ u.getD k 0 ≤ 1000000) :
    Calls Try.prog 23 #[cv, wv] w fun e w' => ∃ g, e = .returned (.slice (some ⟨g, 0, none⟩) n n) ∧ w'.rowIs g 3 n (fun k => .int .i64 ((tak c wd (ones n)).getD k 0)) ∧ Bd (tak c wd (ones n)) ∧ w.heap.size ≤ g ∧ g < w'.heap.size ∧ Below w.heap.size w w' := by
  obtain ⟨ao, cap, hvv, hlc, hcm⟩ := mat_open hm
  subst hvv
  obtain ⟨wo, wc, hwvv, hwlc, hwcm⟩ := sl_open hwv
  subst hwvv
  have hn4 := hc.n4
  have HCL : Hid (c.length = n) := hc.len
  rw [natsI_len] at hwv hwlc ⊢
  obtain ⟨wa, hwa⟩ : ∃ wa, wa = w.alloc (.cells #[.slice ao c.length cap] 22) := ⟨_, rfl⟩
  obtain ⟨W, hW⟩ : ∃ W, W = wa.alloc (.cells #[.int .i64 1] 3) := ⟨_, rfl⟩
  have hsa : wa.heap.size = w.heap.size + 1 := by rw [hwa]; simp
  have hsW : W.heap.size = w.heap.size + 2 := by rw [hW]; simp [hsa]
  have HBA : Hid (Below w.heap.size w W) := by rw [hW, hwa]; exact ((Below.refl _ _).alloc (Nat.le_refl _) _).alloc (by simp) _
  have a0 : W.heap[w.heap.size]? = some (.cells #[.slice ao c.length cap] 22 (0, 0)) := by
    rw [hW]; exact (Below.heap_alloc _ _ _ (by omega)).trans (by rw [hwa]; exact heap_alloc_new w _)
  have a1 : W.heap[w.heap.size + 1]? = some (.cells #[.int .i64 1] 3 (0, 0)) := by rw [hW, ← hsa]; exact heap_alloc_new wa _
  have HWW : Hid (W = (w.alloc (.cells #[.slice ao c.length cap] 22)).alloc (.cells #[.int .i64 1] 3)) := by rw [hW, hwa]; rfl
  have HSW : Hid (W.heap.size = w.heap.size + 2) := hsW
  have HA0 : Hid (W.heap[w.heap.size]? = some (.cells #[.slice ao c.length cap] 22 (0, 0))) := a0
  have HRP : Hid (Calls Try.prog 35 #[.slice (some ⟨w.heap.size + 1, 0, none⟩) 1 1, .int .i64 n] W fun e w' => e = .returned (.slice (some ⟨W.heap.size, 0, none⟩) n n) ∧ w'.rowIs W.heap.size 3 n (fun _ => .int .i64 1) ∧ Below W.heap.size W w') := repeat_any n 1 (w.heap.size + 1) W (by omega) (by simp [World.cell?, a1])
  have HOV : Hid (∀ g W' u r, (∀ b, b < w.heap.size → W'.heap[b]? = w.heap[b]?) → w.heap.size ≤ g → r < n → Bd u → W'.rowIs g 3 n (fun k => .int .i64 (u.getD k 0)) → Calls Try.prog 34 #[.slice ao c.length cap, .slice (some ⟨g, 0, none⟩) n n, .int .i64 (r : Nat)] W' fun e w' => e = .returned (.tuple #[]) ∧ w'.rowIs g 3 n (fun k => .int .i64 ((ovL c u r).getD k 0)) ∧ Only g W' w') := fun g W' u r h1 h2 h3 h4 h5 =>
    over_any n c u r g w.heap.size _ w W' hc hm h1 h2 h3 (hB2 u h4) h5
  have HV : Hid (∀ W', (∀ b, b < w.heap.size → W'.heap[b]? = w.heap[b]?) → Sl w.heap.size 3 W' (.slice wo wd.length wc) (ints (natsI wd))) := fun W' h => hwv.move fun b hb ht => ⟨h b hb, ht⟩
  have HLT : Hid (Lt c wd) := hlt
  have HB0 : Hid (Bd (ones n)) := hB0
  have HB1 : Hid (∀ u r, r < n → Bd u → Bd (ovL c u r)) := hB1
  have g0 : ((w.alloc (.cells #[.slice ao c.length cap] 22)).alloc (.cells #[.int .i64 1] 3)).cell? ⟨w.heap.size, 0, none⟩ = some (.slice ao c.length cap) := by rw [← HWW.out]; simp [World.cell?, a0]
  rw [HCL.out] at g0 HWW HA0 HOV
  clear hc hm hwv hlt hB0 hB1 hB2 hW hwa hsa hsW a0 a1
  rw [HCL.out]
  refine callsIn_wide (n := 0).1 ?_
  refine callsIn_of_wp_marks Try.func23 rfl trivial ?_ rfl
  simp only [Try.ntmps23, List.size_toArray, List.length_cons, List.length_nil, Nat.reduceAdd, Nat.reduceSub, Array.replicate_succ, Array.replicate_zero, List.push_toArray, List.append_toArray, List.nil_append, List.cons_append]
  gi_wp2_with fail
  refine ⟨trivial, rfl, ?_⟩
  rw [← HWW.out]
  refine (callsIn_wide.2 HRP.out).mono ?_
  rintro e w1 ⟨rfl, hrow, hb1⟩
  rw [HSW.out] at hrow ⊢
  have HR1 : Hid (w1.rowIs (w.heap.size + 2) 3 n (fun k => .int .i64 ((ones n).getD k 0))) := hrow.congr fun k hk => by rw [ones_at hk]
  have HBW : Hid (Below w.heap.size w w1) := HBA.out.trans (hb1.mono HBA.out.size)
  have HG1 : Hid (w.heap.size + 2 < w1.heap.size) := hrow.lt
  have HA1 : Hid (w1.heap[w.heap.size]? = some (.cells #[.slice ao n cap] 22 (0, 0))) := (hb1.block _ (by rw [HSW.out]; omega)).trans HA0.out
  clear hrow hb1 HRP g0 HWW HA0 HBA
  obtain ⟨wD, hwD⟩ : ∃ wD, wD = w1.alloc (.cells #[.slice (some ⟨w.heap.size + 2, 0, none⟩) n n] 23) := ⟨_, rfl⟩
  obtain ⟨WN, hWN⟩ : ∃ WN, WN = wD.alloc (.cells #[.slice wo wd.length wc] 23) := ⟨_, rfl⟩
  have sD : wD.heap.size = w1.heap.size + 1 := by rw [hwD]; simp
  have sN : WN.heap.size = w1.heap.size + 2 := by rw [hWN]; simp [sD]
  have bD : Below w1.heap.size w1 wD := by rw [hwD]; exact (Below.refl _ _).alloc (Nat.le_refl _) _
  have bN : Below w1.heap.size w1 WN := by rw [hWN]; exact bD.alloc (by omega) _
  have nM : WN.heap[w1.heap.size]? = some (.cells #[.slice (some ⟨w.heap.size + 2, 0, none⟩) n n] 23 (0, 0)) := by
    rw [hWN]; refine (Below.heap_alloc _ _ _ (by omega)).trans ?_
    rw [hwD]; exact heap_alloc_new w1 _
  have nP : WN.heap[w1.heap.size + 1]? = some (.cells #[.slice wo wd.length wc] 23 (0, 0)) := by rw [hWN, ← sD]; exact heap_alloc_new wD _
  have HWN : Hid (WN = (w1.alloc (.cells #[.slice (some ⟨w.heap.size + 2, 0, none⟩) n n] 23)).alloc (.cells #[.slice wo wd.length wc] 23)) := by rw [hWN, hwD]; rfl
  have HSN : Hid (WN.heap.size = w1.heap.size + 2) := sN
  have HBN : Hid (Below w1.heap.size w1 WN) := bN
  have HNM : Hid (WN.heap[w1.heap.size]? = some (.cells #[.slice (some ⟨w.heap.size + 2, 0, none⟩) n n] 23 (0, 0))) := nM
  have HSQ := back_seq (natsI wd) (.slice wo wd.length wc) (w1.heap.size + 1) w.heap.size WN nP (by rw [natsI_len]; omega) (fun W' h => HV.out W' fun b hb => (h b hb).trans ((bN.block b (by have := HG1.out; omega)).trans (HBW.out.block b hb))) (by have := HG1.out; omega)
  rw [natsI_len] at HSQ
  clear nM nP bD bN sD sN hwD hWN
  gi_wp2_with (refine ⟨trivial, rfl, ?_⟩; gi_at_call 36; refine (callsIn_wide.2 (backI_any _ _ _ _)).mono ?_; rintro e w' ⟨rfl, rfl⟩)
  rw [← HWN.out]
  obtain ⟨f, hf⟩ : ∃ f : List Nat → List Int, f = fun pre => fwd c (pre.map fun x => wd.getD x 0) (ones n) := ⟨_, rfl⟩
  have HF0 : Hid (f [] = ones n) := by rw [hf]; rfl
  have HF1 : Hid (∀ pre x, f (pre ++ [x]) = ovL c (f pre) (wd.getD x 0)) := fun pre x => by rw [hf]; simp [fwd]
  have HF2 : Hid (f (dnL wd.length) = tak c wd (ones n)) := by
    rw [hf]
    show fwd c ((dnL wd.length).map fun x => wd.getD x 0) (ones n) = tak c wd (ones n)
    have e : ((dnL wd.length).map fun x => wd.getD x 0) = wd.reverse := by
      unfold dnL
      rw [List.map_reverse]
      congr 1
      refine List.ext_getElem (by simp) fun k h1 h2 => ?_
      simp [h2]
    rw [e, fwd_tak, List.reverse_reverse]
  clear hf
  have HI0 : Hid (TkI w WN w1.heap.size (w.heap.size + 2) n Bd f (fun _ => False) [] WN) := by
    have hs1 := HG1.out
    have hsn := HSN.out
    refine ⟨fun b hb => hb.elim, by omega, fun b hb hn => rfl, HBN.out.os.trans HBW.out.os, HBN.out.tape.trans HBW.out.tape, HBN.out.output.trans HBW.out.output, ?_, by rw [HF0.out]; exact HB0.out⟩
    rw [HF0.out]
    exact HR1.out.of_block (HBN.out.block _ hs1)
  refine range_s (R := HandB (natsI wd)) (cs := dnL wd.length) (T := fun b => b < w.heap.size ∨ b = w1.heap.size + 1) (S0 := fun _ => False) (gf := 42) (lb := #[.pointer (some ⟨w1.heap.size + 1, 0, none⟩)]) rfl (enters_of Try.func42 (by kernel_rfl) rfl) HSQ (fun b hb => hb.elim)
    (fun W' S x vs h => by rw [h.1]; rfl) (fun W S x vs W' h _ => h) (fun W S x vs l r o h _ => h)
    (fun S pre W' => TkI w WN w1.heap.size (w.heap.size + 2) n Bd f S pre W')
    (fun c S pre W' => False)
    (fun S S' pre W' W'' h hc hs => h.stab HG1.out hc hs) (fun c S S' pre W' W'' h hc hs => h) HI0.out
    (fun vs a' W' => ∃ x : Nat, vs = #[.int .i64 (x : Nat), .int .i64 ((natsI wd).getD x 0)] ∧ a' = { tmps := #[.slice ao n cap, .slice wo wd.length wc, .pointer (some ⟨w.heap.size, 0, none⟩), undef, .slice none 0 0, .pointer (some ⟨w1.heap.size, 0, none⟩), undef, .int .i64 ((natsI wd).getD x 0), .slice (some ⟨w.heap.size + 1, 0, none⟩) 1 1, .slice ao n cap, .int .i64 n, .slice (some ⟨w.heap.size + 2, 0, none⟩) n n, .slice wo wd.length wc, .func (.func 42) #[] #[.pointer (some ⟨w1.heap.size + 1, 0, none⟩)], .int .i64 (x : Nat), .int .i64 ((natsI wd).getD x 0), undef, undef, undef, undef, undef], defers := [] })
    (fun vs a' W' l r o h _ => h) ?assign ?body (fun h => by have := HSN.out; have := HG1.out; rcases h with h | h <;> omega) ?done ?stop
  case assign =>
    rintro S x vs W' K hR hK
    have hR' : vs = #[.int .i64 (x : Nat), .int .i64 ((natsI wd).getD x 0)] := hR.1
    subst hR'
    gi_wp2
    exact hK _ _ (Below.refl _ _) ⟨x, rfl, rfl⟩
  case stop =>
    rintro c S pre W' hpre h
    exact h.elim
  case body =>
    rintro S pre x vs a' W1 hi hSD hSL hlt1 hdf hlp hpre ⟨S1, hR, hS1⟩ ⟨x', hvs', rfl⟩
    have hxx : x = x' := by
      have h1 := hR.1
      rw [hvs'] at h1
      simp only [List.toArray_eq_iff, List.cons.injEq, Value.int.injEq, true_and, and_true] at h1
      have := h1.1
      omega
    subst hxx
    have hxl : x < wd.length := by
      have : x ∈ dnL wd.length := hpre.subset (by simp)
      simpa [dnL] using this
    rw [natsI_at hxl]
    have hr : wd.getD x 0 < n := by rw [← HCL.out]; exact HLT.out _ (by simp [hxl])
    have hs1 := HG1.out
    have HLO : Hid (∀ b, b < w.heap.size → W1.heap[b]? = w.heap[b]?) := fun b hb => (hi.kp b (by omega) (by omega)).trans ((HBN.out.block b (by omega)).trans (HBW.out.block b hb))
    have HOR : Hid (Calls Try.prog 34 #[.slice ao n cap, .slice (some ⟨w.heap.size + 2, 0, none⟩) n n, .int .i64 (wd.getD x 0 : Nat)] W1 fun e w' => e = .returned (.tuple #[]) ∧ w'.rowIs (w.heap.size + 2) 3 n (fun k => .int .i64 ((ovL c (f pre) (wd.getD x 0)).getD k 0)) ∧ Only (w.heap.size + 2) W1 w') := HOV.out _ W1 _ _ HLO.out (by omega) hr hi.bd hi.row
    have m0 : W1.cell? ⟨w.heap.size, 0, none⟩ = some (.slice ao n cap) := by
      have := (hi.kp w.heap.size (by omega) (by omega)).trans ((HBN.out.block _ (by omega)).trans HA1.out)
      simp [World.cell?, this]
    have m1 : W1.cell? ⟨w1.heap.size, 0, none⟩ = some (.slice (some ⟨w.heap.size + 2, 0, none⟩) n n) := by
      have := (hi.kp w1.heap.size (by omega) (by omega)).trans HNM.out
      simp [World.cell?, this]
    have HEN : Hid (∀ W2, W2.rowIs (w.heap.size + 2) 3 n (fun k => .int .i64 ((ovL c (f pre) (wd.getD x 0)).getD k 0)) → Only (w.heap.size + 2) W1 W2 → Kpt (fun b => S b ∨ (b < w.heap.size ∨ b = w1.heap.size + 1)) W1 W2 ∧ TkI w WN w1.heap.size (w.heap.size + 2) n Bd f S (pre ++ [x]) W2) := fun W2 h1 h2 => by
      refine ⟨⟨Nat.le_of_eq h2.size.symm, fun b _ hs => h2.block b (fun e => ?_)⟩, hi.sn, by have := hi.size; have := h2.size; omega, fun b hb hn => (h2.block b hn).trans (hi.kp b hb hn), h2.os.trans hi.os, h2.tape.trans hi.tape, h2.output.trans hi.output, by rw [HF1.out]; exact h1, by rw [HF1.out]; exact HB1.out _ _ hr hi.bd⟩
      subst e
      rcases hs with hs | hs
      · have := hi.sn _ hs; omega
      · omega
    clear hi hpre hR hS1 hvs' hSD hSL hlt1 hdf hlp HSQ HI0 hs1
    generalize wd.getD x 0 = r at *
    gi_wp2_with fail
    refine ⟨trivial, rfl, ?_⟩
    refine (CallsIn.inRound _ (callsIn_wide.2 HOR.out)).mono ?_
    rintro e w5 ⟨rfl, h1, h2⟩
    obtain ⟨p3, p4⟩ := HEN.out w5 h1 h2
    have P3 : Hid _ := p3
    have P4 : Hid _ := p4
    clear HEN HOR h1 h2 p3 p4
    gi_wp2
    exact ⟨P3.out, P4.out⟩
  case done =>
    rintro S W' hi hSD hdf
    have hs1 := HG1.out
    have hsn := HSN.out
    have hsz := hi.size
    have m1 : W'.cell? ⟨w1.heap.size, 0, none⟩ = some (.slice (some ⟨w.heap.size + 2, 0, none⟩) n n) := by
      have := (hi.kp w1.heap.size (by omega) (by omega)).trans HNM.out
      simp [World.cell?, this]
    have HI : Hid (TkI w WN w1.heap.size (w.heap.size + 2) n Bd f S (dnL wd.length) W') := hi
    have HDF : Hid (W'.heap[WN.heap.size]? = some (.deferred (some []))) := hdf
    clear hi hSD hdf HSQ HI0 hs1 hsn hsz
    gi_wp2
    have hs1 := HG1.out
    have hsn := HSN.out
    have hsz := HI.out.size
    refine leaves_mks [WN.heap.size] W' (by simp) (fun r hr => ?_) (fun w' hc => ⟨.slice (some ⟨w.heap.size + 2, 0, none⟩) n n, ?_, ?_⟩)
    · simp only [List.mem_singleton] at hr
      subst hr
      exact HDF.out
    · simp [results, Try.results23, go_sem]
    · have hrow := HI.out.row
      rw [HF2.out] at hrow
      have hbd := HI.out.bd
      rw [HF2.out] at hbd
      refine ⟨w.heap.size + 2, rfl, hrow.of_block (hc.block _ (by omega) (by simp; omega)), hbd, by omega, by have := hc.size; omega, hc.os.trans HI.out.os, hc.tape.trans HI.out.tape, hc.output.trans HI.out.output, by have := hc.size; omega, fun b hb => ?_⟩
      exact (hc.block b (by omega) (by simp; omega)).trans ((HI.out.kp b (by omega) (by omega)).trans ((HBN.out.block b (by omega)).trans (HBW.out.block b hb)))

end Go.Proofs.Ytkpdgpdicafeiaa
