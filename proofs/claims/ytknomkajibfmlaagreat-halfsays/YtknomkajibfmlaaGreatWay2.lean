/- cone.wayBy, walked. -/
import Derived.Test.YtknomkajibfmlaaGreatMgAK
namespace Go.Proofs.YtknomkajibfmlaaGreat
open Go.RowKit
attribute [local go_sem ↓] Go.wp_at_zero Go.wp_at_succ

def isC (w : World) (b : Nat) : Prop := ∃ cur t, w.heap[b]? = some (.cells cur t (0, 0))

theorem isC.lt {w : World} {b : Nat} (h : isC w b) : b < w.heap.size := by
  obtain ⟨c, t, h⟩ := h
  exact (Array.getElem?_eq_some_iff.1 h).1

theorem isC.keep {w w' : World} {b : Nat} (h : isC w b) (hk : w'.heap[b]? = w.heap[b]?) : isC w' b := by
  obtain ⟨c, t, h⟩ := h
  exact ⟨c, t, hk.trans h⟩

/-- What a way is told as. -/
def WayV (N : Nat) (w : World) (tv u : Value) (c g : List Int) (rs : List (List Int)) : Prop :=
  (wayB g rs = true ∧ ∃ mo mc, tv = .agg #[u, .slice mo c.length mc, .int .i64 ((wayN g rs).getD c.length 0)] ∧ Sl 0 3 w (.slice mo c.length mc) (ints ((wayN g rs).take c.length)) ∧ ∀ a, mo = some a → N ≤ a.block ∧ isC w a.block) ∨
  (wayB g rs = false ∧ tv = .agg #[.slice none 0 0, .slice none 0 0, .int .i64 0])

theorem set3_block {w : World} {R k : Nat} (a b c : Value) (h : k ≠ R) : (((w.setCell ⟨R, 0, none⟩ a).setCell ⟨R, 1, none⟩ b).setCell ⟨R, 2, none⟩ c).drew.heap[k]? = w.heap[k]? := by
  show (((w.setCell ⟨R, 0, none⟩ a).setCell ⟨R, 1, none⟩ b).setCell ⟨R, 2, none⟩ c).heap[k]? = w.heap[k]?
  rw [Below.heap_setCell _ _ _ _ h, Below.heap_setCell _ _ _ _ h, Below.heap_setCell _ _ _ _ h]

set_option maxRecDepth 100000 in
set_option maxHeartbeats 4000000 in
theorem wayBy5_any (B : Nat) (rows : List (List Int)) (c g : List Int) (v u x : Value) (w : World) (hv : Mat B 38 3 w v rows) (hu : Sl B 3 w u (ints c)) (hx : Sl B 3 w x (ints g))
    (hc : ∀ t, t < c.length → 0 ≤ c.getD t 0 ∧ c.getD t 0 < rows.length) (hr : ∀ r ∈ rows, g.length ≤ r.length ∧ ∀ z ∈ r, z.natAbs ≤ 60) (hg : ∀ z ∈ g, z.natAbs ≤ 60) (hg1 : 1 ≤ g.length) (hg5 : g.length ≤ 5) (hc5 : FewS c.length rows g) :
    Calls Tryz.prog 77 #[v, u, x] w fun e w' => ∃ tv, e = .returned (.tuple #[tv, .bool (wayB g (pks rows [] c))]) ∧ WayV w.heap.size w' tv u c g (pks rows [] c) ∧ Below w.heap.size w w' := by
  obtain ⟨ao, cap, hvv, hlc, hcm⟩ := mat_open hv
  obtain ⟨bo, cbp, huu, hlb, hcb⟩ := sl_open hu
  obtain ⟨xo, cxp, hxx, hlx, hcx⟩ := sl_open hx
  subst hvv huu hxx
  have HC : Hid (∀ t, t < c.length → 0 ≤ c.getD t 0 ∧ c.getD t 0 < rows.length) := hc
  have HR : Hid (∀ r ∈ rows, g.length ≤ r.length ∧ ∀ z ∈ r, z.natAbs ≤ 60) := hr
  have HG : Hid (∀ z ∈ g, z.natAbs ≤ 60) := hg
  obtain ⟨W0, hW0⟩ : ∃ W0, W0 = w.alloc (.cells #[.slice none 0 0, .slice none 0 0, .int .i64 0] 55) := ⟨_, rfl⟩
  have hs0 : W0.heap.size = w.heap.size + 1 := by rw [hW0]; simp
  have HB0 : Hid (Below w.heap.size w W0) := by rw [hW0]; exact alloc_keep _ _
  have HK0 : Hid (W0.heap[w.heap.size]? = some (.cells #[.slice none 0 0, .slice none 0 0, .int .i64 0] 55 (0, 0))) := by rw [hW0]; exact alloc_new _ _
  have hpl : (pks rows [] c).length = c.length := by simp [pks]
  have hpm : ∀ r ∈ pks rows [] c, r ∈ rows := fun r hr => by
    simp only [pks, List.mem_map] at hr
    obtain ⟨i, hi, rfl⟩ := hr
    obtain ⟨t, ht, rfl⟩ := List.getElem_of_mem hi
    have h1 := HC.out t ht
    rw [List.getD_eq_getElem?_getD, List.getElem?_eq_getElem ht] at h1
    simp only [Option.getD_some] at h1
    rw [List.getD_eq_getElem?_getD, List.getElem?_eq_getElem (by omega)]
    exact List.getElem_mem _
  have hin : ∀ r ∈ pks rows [] c, g.length ≤ r.length ∧ ∀ z ∈ r, z.natAbs ≤ 60 := fun r hr => HR.out _ (hpm r hr)
  have HFS : Hid (FewS (pks rows [] c).length (pks rows [] c) g) := by
    show FewS _ _ _
    rw [hpl]
    rcases hc5 with h | ⟨h1, h2, h3⟩
    · exact .inl h
    · exact .inr ⟨h1, fun r hr => h2 r (hpm r hr), h3⟩
  have hc5 : c.length ≤ 5 := hc5.le
  have HPK : Hid (Calls Tryz.prog 50 #[.slice ao rows.length cap, .slice bo c.length cbp] W0 fun e w' => ∃ po pc, e = .returned (.slice po c.length pc) ∧ Mat W0.heap.size 38 3 w' (.slice po c.length pc) (pks rows [] c) ∧ Below W0.heap.size W0 w') := by
    refine (pickedK_any B rows c _ _ W0 (hv.below HB0.out (Nat.le_refl _)) (hu.below HB0.out (Nat.le_refl _)) hc (by omega)).mono ?_
    rintro e w' ⟨z, rfl, h1, h2⟩
    have hm := h1.mat (B' := W0.heap.size) (Nat.le_refl _)
    obtain ⟨po, pc, hz, _, _⟩ := mat_open hm
    rw [hpl] at hz
    subst hz
    exact ⟨po, pc, rfl, hm, h2⟩
  have HAC : Hid (∀ w1 po pc, Mat W0.heap.size 38 3 w1 (.slice po c.length pc) (pks rows [] c) → Below W0.heap.size W0 w1 → Calls Tryz.prog 68 #[.slice po c.length pc, .slice xo g.length cxp] w1 fun e w' => ∃ f, e = .returned (.slice (some ⟨w1.heap.size, 0, none⟩) g.length g.length) ∧ Ac w1 w1.heap.size g.length g.length (acrL g (pks rows [] c)) f w') := fun w1 po pc h1 h2 =>
    across_any (max B W0.heap.size) (pks rows [] c) g _ _ w1 (h1.more (Nat.le_max_right _ _)) (((hx.below HB0.out (Nat.le_refl _)).below h2 (Nat.le_refl _)).more (Nat.le_max_left _ _)) hin hg hg5 (by omega)
  have HIN : Hid (∀ r ∈ pks rows [] c, g.length ≤ r.length ∧ ∀ z ∈ r, z.natAbs ≤ 60) := hin
  have HW0 : Hid (W0 = w.alloc (.cells #[.slice none 0 0, .slice none 0 0, .int .i64 0] 55)) := hW0
  have HPL : Hid ((pks rows [] c).length = c.length) := hpl
  clear hW0 hv hu hx hc hr hg hin hpl hpm
  go_enter Tryz.func77, Tryz.ntmps77
  go_wp2_with fail
  rw [← HW0.out]
  refine HPK.out.mono ?_
  rintro e w1 ⟨po, pc, rfl, hm1, hb1⟩
  have HB1 : Hid (Below W0.heap.size W0 w1) := hb1
  have HAX : Hid (Calls Tryz.prog 68 #[.slice po c.length pc, .slice xo g.length cxp] w1 fun e w' => ∃ f, e = .returned (.slice (some ⟨w1.heap.size, 0, none⟩) g.length g.length) ∧ Ac w1 w1.heap.size g.length g.length (acrL g (pks rows [] c)) f w') := HAC.out w1 po pc hm1 hb1
  clear hm1 hb1 HPK HAC
  go_wp2_with fail
  refine HAX.out.mono ?_
  rintro e wa ⟨f, rfl, ha⟩
  have HA : Hid (Ac w1 w1.heap.size g.length g.length (acrL g (pks rows [] c)) f wa) := ha
  have HBA : Hid (Below w.heap.size w wa) := HB0.out.trans ((HB1.out.mono (by omega)).trans (ha.bel.mono (by have := HB1.out.size; omega)))
  have HS1 : Hid (w.heap.size + 1 ≤ w1.heap.size) := by have := HB1.out.size; show _ ≤ _; omega
  clear ha HAX
  have hpl : (pks rows [] c).length = c.length := HPL.out
  have HMX : Hid (KrG (c.length + 1) (acrL g (pks rows [] c))) := by
    rw [← hpl]
    exact acrL_krg (fun r hr z hz => (HIN.out r hr).2 z hz) HG.out hg5 HFS.out
  have HML : Hid ((acrL g (pks rows [] c)).length = g.length) := by show _ = _; simp [acrL]
  have HNC : Hid (Calls Tryz.prog 67 #[.slice (some ⟨w1.heap.size, 0, none⟩) g.length g.length, .int .i64 ((c.length : Int) + 1)] wa fun e w' => ∃ x, e = .returned (.tuple #[x, .bool (normB (c.length + 1) (acrL g (pks rows [] c)))]) ∧ w'.ownsRow wa.heap.size 3 1 x (wayN g (pks rows [] c)).length (ints (wayN g (pks rows [] c))) ∧ Below wa.heap.size wa w') := by
    have h := normalG_own 0 (c.length + 1) (acrL g (pks rows [] c)) _ wa HMX.out (HA.out.mat (B := 0) hg5) (by rw [HML.out]; omega) (by rw [HML.out]; omega)
    unfold wayN
    rw [hpl]
    exact h
  clear hpl
  have hwB : Hid (wayB g (pks rows [] c) = (normB (c.length + 1) (acrL g (pks rows [] c)) && !(wayN g (pks rows [] c)).any lowB)) := by
    show _ = _
    unfold wayB
    rw [HPL.out]
  have HWL : Hid (normB (c.length + 1) (acrL g (pks rows [] c)) = true → (wayN g (pks rows [] c)).length = c.length + 1) := fun h => by
    unfold wayN
    rw [HPL.out]
    unfold normL
    rw [if_pos (by simpa [normB] using h), upr_len, low_len]
    simp [muL]
  have hc1 : (c.length : Int) + 1 ≤ 6 := by omega
  go_wp2_with fail
  refine HNC.out.mono ?_
  rintro e w2 ⟨tx, rfl, hown, hb2⟩
  obtain ⟨to, tc, htv⟩ := owns_form hown
  subst htv
  have HT : Hid (Sl 0 3 w2 (.slice to (wayN g (pks rows [] c)).length tc) (ints (wayN g (pks rows [] c)))) := Sl.own hown
  have HTB : Hid (∀ a, to = some a → w.heap.size + 1 ≤ a.block ∧ isC w2 a.block) := fun a ha => by
    have h0 := HA.out.lt
    rcases hown.2 with ⟨h1, h2⟩ | ⟨g', cap', cur', h1, h2, h3, _⟩
    · simp only [Value.slice.injEq] at h1; rw [h1.1] at ha; cases ha
    · simp only [Value.slice.injEq] at h1; rw [h1.1] at ha; cases ha; exact ⟨by have := HS1.out; show w.heap.size + 1 ≤ g'; omega, _, _, h3⟩
  have HB2 : Hid (Below w.heap.size w w2) := HBA.out.trans (hb2.mono HBA.out.size)
  have HK2 : Hid (w2.heap[w.heap.size]? = some (.cells #[.slice none 0 0, .slice none 0 0, .int .i64 0] 55 (0, 0))) :=
    (hb2.block _ (by have := HA.out.lt; have := HS1.out; omega)).trans ((HA.out.bel.block _ (by have := HS1.out; omega)).trans ((HB1.out.block _ (by omega)).trans HK0.out))
  obtain ⟨nl, hnl⟩ : ∃ nl, nl = wayN g (pks rows [] c) := ⟨_, rfl⟩
  have HNL : Hid (nl = wayN g (pks rows [] c)) := hnl
  rw [← hnl] at HT ⊢
  rw [← hnl] at hwB HWL
  obtain ⟨nb, hnb⟩ : ∃ nb, nb = normB (c.length + 1) (acrL g (pks rows [] c)) := ⟨_, rfl⟩
  rw [← hnb] at hwB HWL ⊢
  clear hown hb2 hnl HNC hnb
  have k0 : w2.cell? ⟨w.heap.size, 0, none⟩ = some (.slice none 0 0) := by simp [World.cell?, HK2.out]
  have k1 : w2.cell? ⟨w.heap.size, 1, none⟩ = some (.slice none 0 0) := by simp [World.cell?, HK2.out]
  have k2 : w2.cell? ⟨w.heap.size, 2, none⟩ = some (.int .i64 0) := by simp [World.cell?, HK2.out]
  have f0 : w2.frozen? ⟨w.heap.size, 0, none⟩ = false := by simp [World.frozen?, HK2.out]
  have f1 : w2.frozen? ⟨w.heap.size, 1, none⟩ = false := by simp [World.frozen?, HK2.out]
  have f2 : w2.frozen? ⟨w.heap.size, 2, none⟩ = false := by simp [World.frozen?, HK2.out]
  have HBF : Hid (∀ a b d : Value, Below w.heap.size w (((w2.setCell ⟨w.heap.size, 0, none⟩ a).setCell ⟨w.heap.size, 1, none⟩ b).setCell ⟨w.heap.size, 2, none⟩ d)) := fun a b d =>
    ((HB2.out.setCell (p := ⟨w.heap.size, 0, none⟩) (Nat.le_refl _) _).setCell (p := ⟨w.heap.size, 1, none⟩) (Nat.le_refl _) _).setCell (p := ⟨w.heap.size, 2, none⟩) (Nat.le_refl _) _
  cases nb with
  | false =>
    have HWF : Hid (wayB g (pks rows [] c) = false) := by show _ = _; rw [hwB.out]; rfl
    go_wp2
    refine bodyPost_ret (v := .tuple #[.agg #[.slice none 0 0, .slice none 0 0, .int .i64 0], .bool false]) (by simp [results, Tryz.results77, go_sem, *]) rfl ?_
    exact ⟨_, by rw [HWF.out], .inr ⟨HWF.out, rfl⟩, HBF.out _ _ _⟩
  | true =>
    have hnl := HWL.out rfl
    obtain ⟨tb, too, tcp, hts, htc, htcell⟩ := sl_cell HT.out (k := c.length) (by omega)
    simp only [Value.slice.injEq] at hts
    obtain ⟨rfl, _, rfl⟩ := hts
    have HCF : Hid (Calls Tryz.prog 69 #[.slice (some ⟨tb, too, none⟩) nl.length tc] w2 fun e w' => ∃ mm : Int, e = .returned (.int .i64 mm) ∧ decide (mm ≤ 0) = nl.any lowB ∧ w' = w2) := minS_any 0 nl _ w2 HT.out (by omega)
    have HCT : Hid (Sl 0 3 w2 (.slice (some ⟨tb, too, none⟩) c.length c.length) (ints (nl.take c.length))) := Sl.cut HT.out (by omega)
    obtain ⟨ab, hab⟩ : ∃ ab, ab = nl.any lowB := ⟨_, rfl⟩
    rw [← hab] at hwB HCF
    obtain ⟨ul, hul⟩ : ∃ ul, ul = nl.getD c.length 0 := ⟨_, rfl⟩
    have HUL : Hid (ul = (wayN g (pks rows [] c)).getD c.length 0) := by rw [← HNL.out]; exact hul
    rw [← hul] at htcell
    have HLT : Hid (nl.take c.length = (wayN g (pks rows [] c)).take c.length) := by show _ = _; rw [← HNL.out]
    have hcI1 : (c.length : Int) ≤ (tc : Int) := by omega
    rw [hnl]
    rw [hnl] at HCF
    clear hab hul HT hnl
    cases ab with
    | true =>
      have HWF : Hid (wayB g (pks rows [] c) = false) := by show _ = _; rw [hwB.out]; rfl
      go_wp2_with (go_at_call 69; refine HCF.out.mono ?_; rintro e w' ⟨mm, rfl, hmm, rfl⟩)
      refine bodyPost_ret (v := .tuple #[.agg #[.slice none 0 0, .slice none 0 0, .int .i64 0], .bool false]) (by simp [results, Tryz.results77, go_sem, *]) rfl ?_
      exact ⟨_, by rw [HWF.out], .inr ⟨HWF.out, rfl⟩, HBF.out _ _ _⟩
    | false =>
      have HWT : Hid (wayB g (pks rows [] c) = true) := by show _ = _; rw [hwB.out]; rfl
      have hcI0 : (0 : Int) ≤ (c.length : Int) := by omega
      have hcI2 : (c.length : Int) < ((c.length + 1 : Nat) : Int) := by omega
      go_wp2_with (go_at_call 69; refine HCF.out.mono ?_; rintro e w' ⟨mm, rfl, hmm, rfl⟩)
      go_region
      have HFN : Hid (Sl 0 3 (((w'.setCell ⟨w.heap.size, 0, none⟩ (.slice bo c.length cbp)).setCell ⟨w.heap.size, 1, none⟩ (.slice (some ⟨tb, too, none⟩) c.length c.length)).setCell ⟨w.heap.size, 2, none⟩ (.int .i64 ul)).drew (.slice (some ⟨tb, too, none⟩) c.length c.length) (ints ((wayN g (pks rows [] c)).take c.length))) := by
        rw [← HLT.out]
        exact sl_set3 HCT.out HK2.out (by decide) _ _ _
      go_wp2
      refine bodyPost_ret (v := .tuple #[.agg #[.slice bo c.length cbp, .slice (some ⟨tb, too, none⟩) c.length c.length, .int .i64 ul], .bool true]) (by simp [results, Tryz.results77, go_sem, *]) rfl ?_
      exact ⟨_, by rw [HWT.out], .inl ⟨HWT.out, _, _, by rw [← HUL.out], HFN.out, fun a ha => ⟨Nat.le_of_succ_le (HTB.out a ha).1, (HTB.out a ha).2.keep (set3_block _ _ _ (by have := (HTB.out a ha).1; omega))⟩⟩, (HBF.out _ _ _).drew⟩

end Go.Proofs.YtknomkajibfmlaaGreat
