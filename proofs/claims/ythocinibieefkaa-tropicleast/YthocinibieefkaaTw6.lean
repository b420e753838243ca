/- tropic.Least. -/
import Derived.Test.YthocinibieefkaaTw5
import Derived.Lib.SliceRun
namespace Go.Proofs.Ythocinibieefkaa
open Go.RowKit Go.Shelf
attribute [local go_sem] Oper.semAt_some

theorem handT_below (N0 : Nat) (W : World) (S : Nat → Prop) (x : List Int) (vs : Array Value) (W' : World) (h : Hand N0 W S x vs) (hb : Below W.heap.size W W') : Hand N0 W' S x vs := by
  obtain ⟨v, B0, h1, h2, h3, h4, h5⟩ := h
  exact ⟨v, B0, h1, owns_below h2 hb (Nat.le_refl _), h3, h4, Nat.le_trans h5 hb.size⟩

theorem ownsT_putObj {B : Nat} {W : World} {e : TypeId} {v : Value} {n : Nat} {xs : List Value} {l : Nat} {r : Loop} (h : W.ownsRow B e 1 v n xs) (o : Obj) (hl : W.heap[l]? = some (.loop r)) : (W.putObj l o).ownsRow B e 1 v n xs := by
  refine ⟨h.1, ?_⟩
  rcases h.2 with h2 | ⟨g, cap, cur, rfl, hb, hh, k⟩
  · exact Or.inl h2
  · refine Or.inr ⟨g, cap, cur, rfl, hb, ?_, k⟩
    have hne : g ≠ l := fun e => by rw [e, hl] at hh; cases hh
    exact (World.putObj_heap_other (k := g) (r := l) hne).trans hh

theorem handT_put (N0 : Nat) (W : World) (S : Nat → Prop) (x : List Int) (vs : Array Value) (l : Nat) (r : Loop) (o : Obj) (h : Hand N0 W S x vs) (hl : W.heap[l]? = some (.loop r)) : Hand N0 (W.putObj l o) S x vs := by
  obtain ⟨v, B0, h1, h2, h3, h4, h5⟩ := h
  exact ⟨v, B0, h1, ownsT_putObj h2 _ hl, h3, h4, by simpa using h5⟩

theorem matT_keep {B : Nat} {w W : World} {v : Value} {m : List (List Int)} (h : Mat B 26 3 w v m) (hk : ∀ b, b < w.heap.size → W.heap[b]? = w.heap[b]?) : Mat B 26 3 W v m := by
  obtain ⟨vs, h1, h2, h3⟩ := h
  exact ⟨vs, h1, h2.move fun b hl ht => ⟨hk b hl, ht⟩, fun i hi => (h3 i hi).move fun b hl ht => ⟨hk b hl, ht⟩⟩

/-- Three blocks, one after another. -/
theorem oThree (w : World) (o1 o2 o3 : Obj) :
    ∃ W, W = ((w.alloc o1).alloc o2).alloc o3 ∧ W.heap[w.heap.size]? = some o1 ∧ W.heap[w.heap.size + 1]? = some o2 ∧ W.heap[w.heap.size + 2]? = some o3 ∧ W.heap.size = w.heap.size + 3 ∧ Below w.heap.size w W := by
  obtain ⟨w1, h1⟩ : ∃ w1, w1 = w.alloc o1 := ⟨_, rfl⟩
  obtain ⟨w2, h2⟩ : ∃ w2, w2 = w1.alloc o2 := ⟨_, rfl⟩
  have s1 : w1.heap.size = w.heap.size + 1 := by rw [h1]; exact oSize_alloc _ _
  have s2 : w2.heap.size = w.heap.size + 2 := by rw [h2, oSize_alloc]; omega
  have n1 : w1.heap[w.heap.size]? = some o1 := by rw [h1]; exact oAlloc_new _ _
  have n2 : w2.heap[w.heap.size + 1]? = some o2 := by rw [h2, ← s1]; exact oAlloc_new _ _
  have b1 : Below w.heap.size w w1 := by rw [h1]; exact oAlloc_keep _ _
  have b2 : Below w1.heap.size w1 w2 := by rw [h2]; exact oAlloc_keep _ _
  have b3 : Below w2.heap.size w2 (w2.alloc o3) := oAlloc_keep _ _
  refine ⟨w2.alloc o3, by rw [h2, h1], ?_, ?_, ?_, ?_, ?_⟩
  · rw [b3.block _ (by omega), b2.block _ (by omega)]; exact n1
  · rw [b3.block _ (by omega)]; exact n2
  · rw [← s2]; exact oAlloc_new _ _
  · rw [oSize_alloc]; omega
  · exact (b1.trans (b2.mono (by omega))).trans (b3.mono (by omega))

set_option maxRecDepth 100000 in
set_option maxHeartbeats 8000000 in
theorem least_any (M : List (List Int)) (v : Value) (w : World) (hv : Mat w.heap.size 26 3 w v M) :
    Calls Try.prog 8 #[v] w fun e w' => ∃ cv, e = .returned (.tuple #[.int .i64 (leastQ M).1, cv, .int .i64 (sqE M)]) ∧ w'.ownsRow w.heap.size 3 1 cv (leastQ M).2.length (ints (leastQ M).2) ∧ Below w.heap.size w w' := by
  obtain ⟨po, pc, hvv, hlc, hcm⟩ := mat_open hv
  subst hvv
  have HV : Hid (Mat w.heap.size 26 3 w (.slice po M.length pc) M) := hv
  obtain ⟨W0, hW0, a1, a2, a3, hs0, hb0⟩ := oThree w (.cells #[.slice po M.length pc] 22) (.cells #[.int .i64 0] 3) (.cells #[.slice none 0 0] 26)
  have HW0 : Hid (W0 = ((w.alloc (.cells #[.slice po M.length pc] 22)).alloc (.cells #[.int .i64 0] 3)).alloc (.cells #[.slice none 0 0] 26)) := hW0
  have HCS : Hid (Calls Try.prog 10 #[.slice po M.length pc] W0 fun e w' => e = .returned (.int .i64 (sqE M)) ∧ Below W0.heap.size W0 w') :=
    checkSquare_any M _ W0 ((hv.below hb0 (Nat.le_refl _)).any (by omega) |>.more (Nat.le_refl _))
  have k0 : W0.cell? ⟨w.heap.size, 0, none⟩ = some (.slice po M.length pc) := oq_cell a1
  clear hv hW0
  refine callsIn_wide (n := 0).1 ?_
  refine callsIn_of_wp_marks Try.func8 rfl trivial ?_ rfl
  simp only [Try.ntmps8, List.size_toArray, List.length_cons, List.length_nil, Nat.reduceAdd, Nat.reduceSub, Array.replicate_succ, Array.replicate_zero, List.push_toArray, List.append_toArray, List.nil_append, List.cons_append]
  gi_wp2_with fail
  refine ⟨trivial, rfl, ?_⟩
  rw [← HW0.out]
  refine (callsIn_wide.2 HCS.out).mono ?_
  rintro e w1 ⟨rfl, hb1⟩
  have hs1 := hb1.size
  have b0 : w1.heap[w.heap.size]? = some (.cells #[.slice po M.length pc] 22 (0, 0)) := (hb1.block _ (by omega)).trans a1
  have b1 : w1.heap[w.heap.size + 1]? = some (.cells #[.int .i64 0] 3 (0, 0)) := (hb1.block _ (by omega)).trans a2
  have b2 : w1.heap[w.heap.size + 1 + 1]? = some (.cells #[.slice none 0 0] 26 (0, 0)) := (hb1.block _ (by omega)).trans a3
  have hbw : Below w.heap.size w w1 := hb0.trans (hb1.mono (by omega))
  have HB0 : Hid (w1.heap[w.heap.size]? = some (.cells #[.slice po M.length pc] 22 (0, 0))) := b0
  have HB1 : Hid (w1.heap[w.heap.size + 1]? = some (.cells #[.int .i64 0] 3 (0, 0))) := b1
  have HB2 : Hid (w1.heap[w.heap.size + 1 + 1]? = some (.cells #[.slice none 0 0] 26 (0, 0))) := b2
  have HBW : Hid (Below w.heap.size w w1) := hbw
  have HS1 : Hid (w.heap.size + 3 ≤ w1.heap.size) := by show _ ≤ _; omega
  have d0 := oq_cell b0
  have d1 := oq_cell b1
  have d2 := oq_cell b2
  have f1 := oq_frozen b1
  have f2 := oq_frozen b2
  clear hb1 hs1 b0 b1 b2 hbw HCS HW0 hb0 hs0 a1 a2 a3 k0 hlc hcm
  by_cases hq : sqE M = 0
  · have hM := sq_ok hq
    have HM : Hid (Sqr M) := hM
    have HLQ : Hid (leastQ M = leastP M M.length (ords M.length M.length [])) := if_pos hq
    have HQ : Hid (sqE M = 0) := hq
    rw [hq]
    clear hq
    have h6 := hM.n6
    have hn1 := hM.n1
    clear hM
    have dd0 : (w1.alloc (.cells #[.func (.func 18) #[] #[.pointer (some ⟨w.heap.size, 0, none⟩)]] 36)).cell? ⟨w.heap.size, 0, none⟩ = some (.slice po M.length pc) := by
      refine (World.cell?_of_block (w := w1) (Below.heap_alloc _ _ _ ?_)).trans d0
      have := HS1.out
      show w.heap.size < _
      omega
    gi_wp2_with (refine ⟨trivial, rfl, ?_⟩; gi_at_call 19; refine (callsIn_wide.2 (ordsIt_any _ _)).mono ?_; rintro e w' ⟨rfl, rfl⟩)
    obtain ⟨WN, hWN⟩ : ∃ WN, WN = (w1.alloc (.cells #[.func (.func 18) #[] #[.pointer (some ⟨w.heap.size, 0, none⟩)]] 36)).alloc (.cells #[.int .i64 M.length] 3) := ⟨_, rfl⟩
    rw [← hWN]
    have hsN : WN.heap.size = w1.heap.size + 2 := by rw [hWN, oSize_alloc, oSize_alloc]
    have hbN : Below w1.heap.size w1 WN := by rw [hWN]; exact (oAlloc_keep _ _).trans ((oAlloc_keep _ _).mono (by simp))
    have n0 : WN.heap[w1.heap.size]? = some (.cells #[.func (.func 18) #[] #[.pointer (some ⟨w.heap.size, 0, none⟩)]] 36 (0, 0)) := by
      rw [hWN]; exact ((oAlloc_keep _ _).block _ (by simp)).trans (oAlloc_new _ _)
    have n1 : WN.heap[w1.heap.size + 1]? = some (.cells #[.int .i64 M.length] 3 (0, 0)) := by
      rw [hWN]; have := oAlloc_new (w1.alloc (.cells #[.func (.func 18) #[] #[.pointer (some ⟨w.heap.size, 0, none⟩)]] 36)) (.cells #[.int .i64 M.length] 3); rwa [oSize_alloc] at this
    clear hWN
    have hs3 := HS1.out
    have HSQ := orders_seq M.length (w1.heap.size + 1) WN h6 (oq_cell n1)
    have HSZ : Hid (WN.heap.size = w1.heap.size + 2) := hsN
    have HI0 : Hid (LsI w WN w1.heap.size M M.length (fun b => b = w1.heap.size + 1) [] WN) :=
      ⟨fun b hb => by omega, Kpt.refl _ _, hbN.os.trans HBW.out.os, hbN.tape.trans HBW.out.tape, hbN.output.trans HBW.out.output, (hbN.block _ (by omega)).trans HB1.out, .slice none 0 0, (hbN.block _ (by omega)).trans HB2.out, World.ownsRow_nil _ _ _ _, fun g hg => by simp [Value.ownBlock] at hg, fun _ => rfl⟩
    have HN0 : Hid (WN.heap[w1.heap.size]? = some (.cells #[.func (.func 18) #[] #[.pointer (some ⟨w.heap.size, 0, none⟩)]] 36 (0, 0))) := n0
    have HBN : Hid (Below w1.heap.size w1 WN) := hbN
    clear n0 n1 hbN hsN
    refine range_s (R := Hand WN.heap.size) (cs := ords M.length M.length []) (T := fun _ => False) (S0 := fun b => b = w1.heap.size + 1) (gf := 26) (lb := #[.pointer (some ⟨w1.heap.size + 1, 0, none⟩)]) rfl (enters_of Try.func26 (by kernel_rfl) rfl) HSQ (fun b hb => by have := HSZ.out; omega)
      (fun W' S x vs ⟨v, B0, h1, _⟩ => by rw [h1]; rfl) (handT_below _) (handT_put _)
      (fun S pre W' => LsI w WN w1.heap.size M M.length S pre W')
      (fun c S pre W' => False)
      (fun S S' pre W' W'' h hc hs => h.stab HS1.out HSZ.out hc hs) (fun c S S' pre W' W'' h hc hs => h) HI0.out
      (fun vs a' W' => ∃ v, vs = #[v] ∧ a' = { tmps := #[.slice po M.length pc, .pointer (some ⟨w.heap.size, 0, none⟩), .pointer (some ⟨w.heap.size + 1, 0, none⟩), .pointer (some ⟨w.heap.size + 1 + 1, 0, none⟩), .int .i64 0, .int .i64 0, .pointer (some ⟨w1.heap.size, 0, none⟩), v, undef, .slice po M.length pc, .int .i64 0, .int .i64 0, .bool false, undef, .func (.func 18) #[] #[.pointer (some ⟨w.heap.size, 0, none⟩)], .slice po M.length pc, .int .i64 M.length, .func (.func 26) #[] #[.pointer (some ⟨w1.heap.size + 1, 0, none⟩)], v, undef, undef, undef, undef, undef, undef, undef, undef, undef, undef, undef, undef, undef, undef], defers := [] })
      (fun vs a' W' l r o h _ => h) ?assign ?body (fun h => h) ?done ?stop
    case assign =>
      rintro S x vs W' K ⟨v, B0, rfl, h2, h3, h4⟩ hK
      gi_wp2
      exact hK _ _ (Below.refl _ _) ⟨v, rfl, rfl⟩
    case stop =>
      rintro c S pre W' hpre h
      exact h.elim
    case body =>
      rintro S pre x vs a' W1 hi hSD hSL hlt1 hdf hlp hpre ⟨S1, ⟨v, B0, hvs, hown, hB0, hN0, hBW⟩, hS1⟩ ⟨v', hvs', rfl⟩
      have hvv : v = v' := by rw [hvs] at hvs'; simpa using hvs'
      subst hvv
      have hcm' : x ∈ ords M.length M.length [] := hpre.subset (by simp)
      obtain ⟨hio, hxl⟩ := ords_is M.length [] x ⟨by simp, by simp⟩ hcm'
      simp only [List.length_nil, Nat.zero_add] at hxl
      have hsz := HSZ.out
      have hws := hi.kp.size
      have e0 : W1.heap[w1.heap.size]? = some (.cells #[.func (.func 18) #[] #[.pointer (some ⟨w.heap.size, 0, none⟩)]] 36 (0, 0)) := (hi.kp.block _ (by omega) (by omega)).trans HN0.out
      have e1 : W1.heap[w.heap.size]? = some (.cells #[.slice po M.length pc] 22 (0, 0)) := (hi.kp.block _ (by omega) (by omega)).trans ((HBN.out.block _ (by omega)).trans HB0.out)
      have hlow : ∀ b, b < w.heap.size → W1.heap[b]? = w.heap[b]? := fun b hb => (hi.kp.block b (by omega) (by omega)).trans ((HBN.out.block b (by omega)).trans (HBW.out.block b hb))
      obtain ⟨vo, vc, hvf⟩ := owns_form hown
      subst hvf
      have HSUM : Hid (Calls Try.prog 18 #[.slice vo x.length vc, .pointer (some ⟨w.heap.size, 0, none⟩)] W1 fun e w' => e = .returned (.int .i64 (cst M M.length x)) ∧ w' = W1) :=
        sumOf_any w.heap.size w.heap.size M x po pc _ W1 HM.out (matT_keep HV.out hlow) (Sl.own hown) hio hxl (oq_cell e1)
      obtain ⟨lr, hlp⟩ := hlp
      obtain ⟨cv, g1, g2, g3, g4⟩ := hi.ch
      have c0 := oq_cell e0
      have c1 := oq_cell hi.sm
      have c2 : W1.cell? ⟨w.heap.size + 1 + 1, 0, none⟩ = some cv := oq_cell g1
      have p1 := oq_frozen hi.sm
      have p2 : W1.frozen? ⟨w.heap.size + 1 + 1, 0, none⟩ = false := oq_frozen g1
      have HSN : Hid (∀ b, S b → w1.heap.size + 1 ≤ b) := hi.sn
      have HST : Hid (leastP M M.length (pre ++ [x]) = lstp M M.length (leastP M M.length pre) x) := leastP_snoc _ _ _ _
      have HNOTS : Hid (∀ g, (Value.slice vo x.length vc).ownBlock = some g → ¬ S g) := fun g hg hx => by
        rcases hown.2 with ⟨h1, _⟩ | ⟨g', cap, cur, h1, h2, h3, _⟩
        · rw [h1] at hg; simp [Value.ownBlock] at hg
        · rw [h1] at hg
          simp only [Value.ownBlock, Option.some.injEq] at hg
          subst hg
          rcases (hS1 _).1 hx with hx | hx | hx
          · have := hB0 _ hx; omega
          · rw [hx, hdf] at h3; cases h3
          · rw [hx, hlp] at h3; cases h3
      have HYES : Hid (lstp M M.length (leastP M M.length pre) x = (cst M M.length x, x) → Kpt (fun b => S b ∨ False) W1 ((W1.setCell ⟨w.heap.size + 1, 0, none⟩ (.int .i64 (cst M M.length x))).setCell ⟨w.heap.size + 1 + 1, 0, none⟩ (.slice vo x.length vc)) ∧
          LsI w WN w1.heap.size M M.length S (pre ++ [x]) ((W1.setCell ⟨w.heap.size + 1, 0, none⟩ (.int .i64 (cst M M.length x))).setCell ⟨w.heap.size + 1 + 1, 0, none⟩ (.slice vo x.length vc))) := fun hl => by
        have hoth : ∀ b, b ≠ w.heap.size + 1 → b ≠ w.heap.size + 1 + 1 → ((W1.setCell ⟨w.heap.size + 1, 0, none⟩ (.int .i64 (cst M M.length x))).setCell ⟨w.heap.size + 1 + 1, 0, none⟩ (.slice vo x.length vc)).heap[b]? = W1.heap[b]? := fun b h1 h2 =>
          (Below.heap_setCell _ _ _ _ h2).trans (Below.heap_setCell _ _ _ _ h1)
        have hsz2 : ((W1.setCell ⟨w.heap.size + 1, 0, none⟩ (.int .i64 (cst M M.length x))).setCell ⟨w.heap.size + 1 + 1, 0, none⟩ (.slice vo x.length vc)).heap.size = W1.heap.size := by simp [World.setCell]
        refine ⟨⟨by omega, fun b _ hb => hoth b (by have := HSN.out b (hb.elim id False.elim); omega) (by have := HSN.out b (hb.elim id False.elim); omega)⟩, hi.sn, hi.kp.trans ⟨by omega, fun b _ hb => hoth b hb.1 hb.2.1⟩, hi.os, hi.tape, hi.output, ?_, .slice vo x.length vc, oq_set ((Below.heap_setCell _ _ _ _ (by show w.heap.size + 2 ≠ w.heap.size + 1; omega)).trans g1), ?_, HNOTS.out, ?_⟩
        · rw [HST.out, hl]
          exact (Below.heap_setCell _ _ _ _ (by show w.heap.size + 1 ≠ w.heap.size + 1 + 1; omega)).trans (oq_set hi.sm)
        · rw [HST.out, hl]
          refine ⟨by simp, ?_⟩
          rcases hown.2 with h2 | ⟨g, cap, cur, h1, h2, h3, r⟩
          · exact Or.inl h2
          · exact Or.inr ⟨g, cap, cur, h1, by omega, (hoth g (by omega) (by omega)).trans h3, r⟩
        · rw [HST.out, hl]
          intro h0
          simp only at h0
          rw [h0] at hxl
          simp at hxl
          omega
      have HNO : Hid (lstp M M.length (leastP M M.length pre) x = leastP M M.length pre → Kpt (fun b => S b ∨ False) W1 W1 ∧ LsI w WN w1.heap.size M M.length S (pre ++ [x]) W1) := fun hl => by
        refine ⟨Kpt.refl _ _, hi.sn, hi.kp, hi.os, hi.tape, hi.output, ?_, cv, g1, ?_, g3, ?_⟩
        · rw [HST.out, hl]; exact hi.sm
        · rw [HST.out, hl]; exact g2
        · rw [HST.out, hl]; exact g4
      have HG2 : Hid (W1.ownsRow (w1.heap.size + 2) 3 1 cv (leastP M M.length pre).2.length (ints (leastP M M.length pre).2)) := g2
      have HG4 : Hid ((leastP M M.length pre).2 = [] → cv = .slice none 0 0) := g4
      have HLST : Hid (lstp M M.length (leastP M M.length pre) x = if (leastP M M.length pre).2 = [] ∨ cst M M.length x < (leastP M M.length pre).1 then (cst M M.length x, x) else leastP M M.length pre) := rfl
      clear hi hpre hown hB0 hN0 hBW hS1 hcm' hdf hlp hvs hvs' hlow g1 g2 g3 g4 e0 e1 HSQ hsz hws hio hSD hSL hlt1 hxl hs3 h6 hn1
      have qL : ∀ (w : World) (a : Option Addr) (n c n' c' : Nat), (binOp .eql 26 (.slice a n c) (.slice none n' c')).run Try.prog w = .ok (.bool a.isNone) w := fun w a n c n' c' => Lib.run_eql_slice_nil w _ _ a n c n' c' Try.underlying26
      by_cases hc0 : (leastP M M.length pre).2 = []
      · have hcv := HG4.out hc0
        subst hcv
        have HF := HYES.out (by rw [HLST.out, if_pos (.inl hc0)])
        have HFF : Hid _ := HF
        clear HF HYES HNO HG4 HG2 HLST hc0
        generalize (leastP M M.length pre).1 = Z at *
        generalize cst M M.length x = C at *
        gi_wp2_with fail
        refine ⟨trivial, rfl, ?_⟩
        refine (CallsIn.inRound _ (callsIn_wide.2 HSUM.out)).mono ?_
        rintro e w' ⟨rfl, hww⟩
        rw [hww]
        clear hww w' HSUM
        gi_wp2
        exact HFF.out
      · obtain ⟨co, cc, hcv⟩ : ∃ co cc, cv = .slice (some co) (leastP M M.length pre).2.length cc := by
          rcases HG2.out.2 with ⟨_, h2⟩ | ⟨g, cap, cur, h1, _⟩
          · exact absurd (List.eq_nil_of_length_eq_zero h2) hc0
          · exact ⟨_, _, h1⟩
        subst hcv
        by_cases hlt : cst M M.length x < (leastP M M.length pre).1
        · have HF := HYES.out (by rw [HLST.out, if_pos (.inr hlt)])
          have HFF : Hid _ := HF
          have hltb : decide (cst M M.length x < (leastP M M.length pre).1) = true := decide_eq_true hlt
          clear HF HYES HNO HG4 HG2 HLST hc0 hlt
          generalize (leastP M M.length pre).1 = Z at *
          generalize cst M M.length x = C at *
          gi_wp2_with fail
          refine ⟨trivial, rfl, ?_⟩
          refine (CallsIn.inRound _ (callsIn_wide.2 HSUM.out)).mono ?_
          rintro e w' ⟨rfl, hww⟩
          rw [hww]
          clear hww w' HSUM
          gi_wp2
          exact HFF.out
        · have HF := HNO.out (by rw [HLST.out, if_neg (fun h => h.elim hc0 hlt)])
          have HFF : Hid _ := HF
          have hltb : decide (cst M M.length x < (leastP M M.length pre).1) = false := decide_eq_false hlt
          clear HF HYES HNO HG4 HG2 HLST hc0 hlt
          generalize (leastP M M.length pre).1 = Z at *
          generalize cst M M.length x = C at *
          gi_wp2_with fail
          refine ⟨trivial, rfl, ?_⟩
          refine (CallsIn.inRound _ (callsIn_wide.2 HSUM.out)).mono ?_
          rintro e w' ⟨rfl, hww⟩
          rw [hww]
          clear hww w' HSUM
          gi_wp2
          exact HFF.out
    case done =>
      rintro S W' hi hSD hdf
      have hsz := HSZ.out
      have hws := hi.kp.size
      obtain ⟨cv, g1, g2, g3, g4⟩ := hi.ch
      have c1 := oq_cell hi.sm
      have c2 : W'.cell? ⟨w.heap.size + 1 + 1, 0, none⟩ = some cv := oq_cell g1
      have p1 := oq_frozen hi.sm
      have p2 : W'.frozen? ⟨w.heap.size + 1 + 1, 0, none⟩ = false := oq_frozen g1
      have HI : Hid (LsI w WN w1.heap.size M M.length S (ords M.length M.length []) W') := hi
      obtain ⟨co, cc, hcv⟩ := owns_form g2
      subst hcv
      have HG1 : Hid (W'.heap[w.heap.size + 1 + 1]? = some (.cells #[.slice co (leastP M M.length (ords M.length M.length [])).2.length cc] 26 (0, 0))) := g1
      have HG2 : Hid (W'.ownsRow (w1.heap.size + 2) 3 1 (.slice co (leastP M M.length (ords M.length M.length [])).2.length cc) (leastP M M.length (ords M.length M.length [])).2.length (ints (leastP M M.length (ords M.length M.length [])).2)) := g2
      have HG3 : Hid (∀ g, (Value.slice co (leastP M M.length (ords M.length M.length [])).2.length cc).ownBlock = some g → ¬ S g) := g3
      have HSD : Hid (S WN.heap.size) := hSD
      clear hSD
      obtain ⟨K, hK⟩ : ∃ K, K = (leastP M M.length (ords M.length M.length [])).2.length := ⟨_, rfl⟩
      rw [← hK] at c2 HG1 HG2 HG3
      have HK : Hid (K = (leastP M M.length (ords M.length M.length [])).2.length) := hK
      clear hK
      have HDF : Hid (W'.heap[WN.heap.size]? = some (.deferred (some []))) := hdf
      clear hi hdf g1 g2 g3 g4 HSQ
      obtain ⟨Z, hZ⟩ : ∃ Z, Z = (leastP M M.length (ords M.length M.length [])).1 := ⟨_, rfl⟩
      rw [← hZ] at c1
      have HZ : Hid (Z = (leastP M M.length (ords M.length M.length [])).1) := hZ
      clear hZ hsz hws hs3 h6 hn1
      gi_wp2
      gi_region
      all_goals
        gi_wp2
        have hsz := HSZ.out
        have hws := HI.out.kp.size
        have hs3 := HS1.out
        have hoth : ∀ x y b, b ≠ w.heap.size + 1 → b ≠ w.heap.size + 1 + 1 → ((W'.setCell ⟨w.heap.size + 1, 0, none⟩ x).setCell ⟨w.heap.size + 1 + 1, 0, none⟩ y).heap[b]? = W'.heap[b]? := fun x y b h1 h2 =>
          (Below.heap_setCell _ _ _ _ h2).trans (Below.heap_setCell _ _ _ _ h1)
        obtain ⟨W9, hW9⟩ : ∃ W9, W9 = ((W'.setCell ⟨w.heap.size + 1, 0, none⟩ (.int .i64 Z)).setCell ⟨w.heap.size + 1 + 1, 0, none⟩ (.slice co K cc)).drew := ⟨_, rfl⟩
        rw [← hW9]
        have q1 : W9.heap[w.heap.size + 1]? = some (.cells #[.int .i64 Z] 3 (0, 0)) := by
          rw [hW9, HZ.out]
          exact (Below.heap_setCell _ _ _ _ (by show w.heap.size + 1 ≠ w.heap.size + 1 + 1; omega)).trans (oq_set HI.out.sm)
        have q2 : W9.heap[w.heap.size + 1 + 1]? = some (.cells #[.slice co K cc] 26 (0, 0)) := by
          rw [hW9]
          exact oq_set ((Below.heap_setCell _ _ _ _ (by show w.heap.size + 1 + 1 ≠ w.heap.size + 1; omega)).trans HG1.out)
        have q3 : ∀ b, b ≠ w.heap.size + 1 → b ≠ w.heap.size + 1 + 1 → W9.heap[b]? = W'.heap[b]? := fun b h1 h2 => by rw [hW9]; exact hoth _ _ b h1 h2
        have q4 : W9.heap.size = W'.heap.size := by rw [hW9]; simp [World.setCell]
        have q5 : W9.os = W'.os ∧ W9.tape = W'.tape ∧ W9.output = W'.output := by rw [hW9]; exact ⟨rfl, rfl, rfl⟩
        clear hW9 hoth
        refine leaves_mks [WN.heap.size] W9 (by simp) (fun r hr => ?_) (fun w' hc => ⟨.tuple #[.int .i64 Z, .slice co K cc, .int .i64 0], ?_, ?_⟩)
        · simp only [List.mem_singleton] at hr
          subst hr
          exact (q3 _ (by omega) (by omega)).trans HDF.out
        · have r1 : w'.cell? ⟨w.heap.size + 1, 0, none⟩ = some (.int .i64 Z) := oq_cell ((hc.block _ (by omega) (by simp; omega)).trans q1)
          have r2 : w'.cell? ⟨w.heap.size + 1 + 1, 0, none⟩ = some (.slice co K cc) := oq_cell ((hc.block _ (by omega) (by simp; omega)).trans q2)
          simp [results, Try.results8, go_sem, r1, r2]
        · refine ⟨.slice co K cc, by rw [HLQ.out, HQ.out, ← HZ.out], ?_, hc.os.trans (q5.1.trans HI.out.os), hc.tape.trans (q5.2.1.trans HI.out.tape), hc.output.trans (q5.2.2.trans HI.out.output), by have := hc.size; omega, fun b hb => ?_⟩
          · rw [HLQ.out, ← HK.out]
            refine ⟨by simpa using HG2.out.1, ?_⟩
            rcases HG2.out.2 with h2 | ⟨g, cap, cur, h1, h2, h3, r⟩
            · exact Or.inl h2
            · refine Or.inr ⟨g, cap, cur, h1, by omega, (hc.block g (by have := (Array.getElem?_eq_some_iff.1 h3).1; omega) (fun e => ?_)).trans ((q3 g (by omega) (by omega)).trans h3), r⟩
              simp only [List.mem_singleton] at e
              subst e
              rw [HDF.out] at h3
              cases h3
          · exact (hc.block b (by omega) (by simp; omega)).trans ((q3 b (by omega) (by omega)).trans ((HI.out.kp.block b (by omega) (by omega)).trans ((HBN.out.block b (by omega)).trans (HBW.out.block b hb))))
  · have HLQ : Hid (leastQ M = (0, [])) := if_neg hq
    have hq' : (sqE M != 0) = true := by simpa using hq
    clear hq
    gi_wp2
    have hs3 := HS1.out
    obtain ⟨W9, hW9⟩ : ∃ W9, W9 = (w1.setCell ⟨w.heap.size + 1, 0, none⟩ (.int .i64 0)).setCell ⟨w.heap.size + 1 + 1, 0, none⟩ (.slice none 0 0) := ⟨_, rfl⟩
    rw [← hW9]
    have q1 : W9.heap[w.heap.size + 1]? = some (.cells #[.int .i64 0] 3 (0, 0)) := by
      rw [hW9]
      exact (Below.heap_setCell _ _ _ _ (by show w.heap.size + 1 ≠ w.heap.size + 1 + 1; omega)).trans (oq_set HB1.out)
    have q2 : W9.heap[w.heap.size + 1 + 1]? = some (.cells #[.slice none 0 0] 26 (0, 0)) := by
      rw [hW9]
      exact oq_set ((Below.heap_setCell _ _ _ _ (by show w.heap.size + 1 + 1 ≠ w.heap.size + 1; omega)).trans HB2.out)
    have q3 : ∀ b, b < w.heap.size → W9.heap[b]? = w1.heap[b]? := fun b hb => by
      rw [hW9]
      exact (Below.heap_setCell _ _ _ _ (by show b ≠ w.heap.size + 1 + 1; omega)).trans (Below.heap_setCell _ _ _ _ (by show b ≠ w.heap.size + 1; omega))
    have q4 : W9.heap.size = w1.heap.size := by rw [hW9]; simp [World.setCell]
    have q5 : W9.os = w1.os ∧ W9.tape = w1.tape ∧ W9.output = w1.output := by rw [hW9]; exact ⟨rfl, rfl, rfl⟩
    clear hW9
    refine leaves_mks [] W9 (by simp) (fun r hr => by simp at hr) (fun w' hc => ⟨.tuple #[.int .i64 0, .slice none 0 0, .int .i64 (sqE M)], ?_, ?_⟩)
    · have r1 : w'.cell? ⟨w.heap.size + 1, 0, none⟩ = some (.int .i64 0) := oq_cell ((hc.block _ (by omega) (by simp)).trans q1)
      have r2 : w'.cell? ⟨w.heap.size + 1 + 1, 0, none⟩ = some (.slice none 0 0) := oq_cell ((hc.block _ (by omega) (by simp)).trans q2)
      simp [results, Try.results8, go_sem, r1, r2]
    · refine ⟨.slice none 0 0, by rw [HLQ.out], ?_, hc.os.trans (q5.1.trans HBW.out.os), hc.tape.trans (q5.2.1.trans HBW.out.tape), hc.output.trans (q5.2.2.trans HBW.out.output), by have := hc.size; omega, fun b hb => ?_⟩
      · rw [HLQ.out]; exact World.ownsRow_nil _ _ _ _
      · exact (hc.block b (by omega) (by simp)).trans ((q3 b hb).trans (HBW.out.block b hb))

end Go.Proofs.Ythocinibieefkaa
