/- tropic.Roots. -/
import Derived.Test.YtmkbijclbogjhaaTsd
import Derived.Test.YtmkbijclbogjhaaOf3
import Derived.Maps.OwnIn
import Derived.Sort.CutIn
import Derived.Test.YtmkbijclbogjhaaRgn
namespace Go.Proofs.Ytmkbijclbogjhaa
open Go.RowKit Go.Shelf
attribute [local go_sem] Oper.semAt_some

theorem handR_below (N0 : Nat) (W : World) (S : Nat → Prop) (x : List Int) (vs : Array Value) (W' : World) (h : Hand N0 W S x vs) (hb : Below W.heap.size W W') : Hand N0 W' S x vs := by
  obtain ⟨v, B0, h1, h2, h3, h4, h5⟩ := h
  exact ⟨v, B0, h1, owns_below h2 hb (Nat.le_refl _), h3, h4, Nat.le_trans h5 hb.size⟩

theorem ownsR_putObj {B : Nat} {W : World} {e : TypeId} {v : Value} {n s : Nat} {xs : List Value} {l : Nat} {r : Loop} (h : W.ownsRow B e s v n xs) (o : Obj) (hl : W.heap[l]? = some (.loop r)) : (W.putObj l o).ownsRow B e s v n xs := by
  refine ⟨h.1, ?_⟩
  rcases h.2 with h2 | ⟨g, cap, cur, rfl, hb, hh, k⟩
  · exact Or.inl h2
  · refine Or.inr ⟨g, cap, cur, rfl, hb, ?_, k⟩
    have hne : g ≠ l := fun e => by rw [e, hl] at hh; cases hh
    exact (World.putObj_heap_other (k := g) (r := l) hne).trans hh

theorem handR_put (N0 : Nat) (W : World) (S : Nat → Prop) (x : List Int) (vs : Array Value) (l : Nat) (r : Loop) (o : Obj) (h : Hand N0 W S x vs) (hl : W.heap[l]? = some (.loop r)) : Hand N0 (W.putObj l o) S x vs := by
  obtain ⟨v, B0, h1, h2, h3, h4, h5⟩ := h
  exact ⟨v, B0, h1, ownsR_putObj h2 _ hl, h3, h4, by simpa using h5⟩

/-- Between the rounds. -/
structure RtI (w WN : World) (s1 : Nat) (l : List Int) (S : Nat → Prop) (pre : List (List Int)) (W : World) : Prop where
  sn : ∀ b, S b → s1 + 1 ≤ b
  kp : Kpt (fun b => b < s1) WN W
  os : W.os = w.os
  tape : W.tape = w.tape
  output : W.output = w.output
  rt : ∃ rv, W.heap[s1]? = some (.cells #[rv] 25 (0, 0)) ∧ W.ownsRow (s1 + 3) 30 3 rv (rsL l pre).length ((rsL l pre).flatMap encT) ∧ (∀ g, rv.ownBlock = some g → ¬ S g)

theorem ownsR_keep {B s n : Nat} {t : TypeId} {W W' : World} {v : Value} {xs : List Value} (h : W.ownsRow B t s v n xs) (hk : ∀ g, v.ownBlock = some g → W'.heap[g]? = W.heap[g]?) : W'.ownsRow B t s v n xs := by
  refine ⟨h.1, ?_⟩
  rcases h.2 with h2 | ⟨g, cap, cur, rfl, hb, hh, r⟩
  · exact Or.inl h2
  · exact Or.inr ⟨g, cap, cur, rfl, hb, (hk g rfl).trans hh, r⟩

theorem RtI.stab {w WN W W' : World} {s1 : Nat} {l : List Int} {pre : List (List Int)} {S S' : Nat → Prop} (h : RtI w WN s1 l S pre W) (hN : WN.heap.size = s1 + 3) (hc : Chg S W W') (hs : ∀ b, S' b → S b ∨ W.heap.size ≤ b) : RtI w WN s1 l S' pre W' := by
  have h0 := h.kp.size
  obtain ⟨rv, k1, k2, k3⟩ := h.rt
  have hlow : ∀ b, b < s1 + 1 → ¬ S b := fun b hb hx => by have := h.sn b hx; omega
  refine ⟨fun b hb => ?_, h.kp.trans (Kpt.of_chg hc fun i _ hi hsi => hlow i (by omega) hsi), hc.os.trans h.os, hc.tape.trans h.tape, hc.output.trans h.output, rv, (hc.block _ (by omega) (hlow _ (by omega))).trans k1, ownsR_keep k2 (fun g hg => hc.block g (k2.lt g hg).2 (k3 g hg)), fun g hg hx => ?_⟩
  · rcases hs b hb with h1 | h1
    · exact h.sn b h1
    · omega
  · rcases hs g hx with h1 | h1
    · exact k3 g hg h1
    · have := (k2.lt g hg).2; omega

/-- Three blocks, one after another. -/
theorem threeT (w : World) (o1 o2 o3 : Obj) :
    ∃ W, W = ((w.alloc o1).alloc o2).alloc o3 ∧ W.heap[w.heap.size]? = some o1 ∧ W.heap[w.heap.size + 1]? = some o2 ∧ W.heap[w.heap.size + 1 + 1]? = some o3 ∧ W.heap.size = w.heap.size + 3 ∧ Below w.heap.size w W := by
  obtain ⟨w1, h1⟩ : ∃ w1, w1 = w.alloc o1 := ⟨_, rfl⟩
  obtain ⟨w2, h2⟩ : ∃ w2, w2 = w1.alloc o2 := ⟨_, rfl⟩
  have s1 : w1.heap.size = w.heap.size + 1 := by rw [h1]; exact size_alloc _ _
  have s2 : w2.heap.size = w.heap.size + 2 := by rw [h2, size_alloc]; omega
  have n1 : w1.heap[w.heap.size]? = some o1 := by rw [h1]; exact alloc_new _ _
  have n2 : w2.heap[w.heap.size + 1]? = some o2 := by rw [h2, ← s1]; exact alloc_new _ _
  have b1 : Below w.heap.size w w1 := by rw [h1]; exact alloc_keep _ _
  have b2 : Below w1.heap.size w1 w2 := by rw [h2]; exact alloc_keep _ _
  have b3 : Below w2.heap.size w2 (w2.alloc o3) := alloc_keep _ _
  refine ⟨w2.alloc o3, by rw [h2, h1], ?_, ?_, ?_, ?_, ?_⟩
  · rw [b3.block _ (by omega), b2.block _ (by omega)]; exact n1
  · rw [b3.block _ (by omega)]; exact n2
  · rw [show w.heap.size + 1 + 1 = w2.heap.size by omega]; exact alloc_new _ _
  · rw [size_alloc]; omega
  · exact (b1.trans (b2.mono (by omega))).trans (b3.mono (by omega))

def RootsPost (l : List Int) (w : World) (e : Ending) (w' : World) : Prop := ∃ rv, ∃ m : List (Int × Int × Int), e = .returned (.tuple #[rv, .int .i64 (listTE l)]) ∧ w'.ownsRow w.heap.size 30 3 rv m.length (m.flatMap encT) ∧
      (listTE l ≠ 0 → m = []) ∧ (listTE l = 0 → m.Perm (rootsU l) ∧ AscT m) ∧ Below w.heap.size w w'

theorem mul2 (i k : Nat) : ((i : Int)).toNat = i ∧ ((k : Int)).toNat = k := ⟨by omega, by omega⟩

theorem three_newT (w : World) (x y z : Value) (t : TypeId) : ∀ j u, [x, y, z][j]? = some u → (w.alloc (.cells #[x, y, z] t)).cell? ((⟨w.heap.size, 0, none⟩ : Addr).add j) = some u := by
  intro j u h
  have h0 : (w.alloc (.cells #[x, y, z] t)).heap[w.heap.size]? = some (.cells #[x, y, z] t (0, 0)) := alloc_new _ _
  rcases j with _ | _ | _ | j
  · show World.cell? _ ⟨w.heap.size, 0, none⟩ = _
    unfold World.cell?
    simp only [h0]
    simpa using h
  · show World.cell? _ ⟨w.heap.size, 1, none⟩ = _
    unfold World.cell?
    simp only [h0]
    simpa using h
  · show World.cell? _ ⟨w.heap.size, 2, none⟩ = _
    unfold World.cell?
    simp only [h0]
    simpa using h
  · simp at h

theorem three_one (a b c : Int) : ∀ u ∈ [Value.int .i64 a, .int .i64 b, .int .i64 c], u.oneCell' = true := by
  intro u hu
  simp only [List.mem_cons, List.not_mem_nil, or_false] at hu
  rcases hu with rfl | rfl | rfl <;> rfl

set_option maxRecDepth 100000 in
set_option maxHeartbeats 8000000 in
theorem roots_any (l : List Int) (v : Value) (w : World) (hv : Sl w.heap.size 3 w v (ints l)) :
    Calls Try.prog 6 #[v] w fun e w' => RootsPost l w e w' := by
  obtain ⟨iT, hiT, hzT0, hzT1, hzT2⟩ := info_parts Try.infoT
  obtain ⟨po, pc, hvv, hlc, hcm⟩ := sl_open hv
  subst hvv
  have HV : Hid (Sl w.heap.size 3 w (.slice po l.length pc) (ints l)) := hv
  obtain ⟨W0, hW0⟩ : ∃ W0, W0 = w.alloc (.cells #[.slice po l.length pc] 22) := ⟨_, rfl⟩
  have HW0 : Hid (W0 = w.alloc (.cells #[.slice po l.length pc] 22)) := hW0
  have hs0 : W0.heap.size = w.heap.size + 1 := by rw [hW0]; exact size_alloc _ _
  have hb0 : Below w.heap.size w W0 := by rw [hW0]; exact alloc_keep _ _
  have a1 : W0.heap[w.heap.size]? = some (.cells #[.slice po l.length pc] 22 (0, 0)) := by rw [hW0]; exact alloc_new _ _
  have HCS : Hid (Calls Try.prog 7 #[.slice po l.length pc] W0 fun e w' => e = .returned (.int .i64 (listTE l)) ∧ Below W0.heap.size W0 w') := checkT_any _ l _ W0 (hv.below hb0 (Nat.le_refl _))
  clear hv hW0
  refine callsIn_wide (n := 0).1 ?_
  refine callsIn_of_wp_marks Try.func6 rfl trivial ?_ rfl
  simp only [Try.ntmps6, List.size_toArray, List.length_cons, List.length_nil, Nat.reduceAdd, Nat.reduceSub, Array.replicate_succ, Array.replicate_zero, List.push_toArray, List.append_toArray, List.nil_append, List.cons_append]
  gi_wp2_with fail
  refine ⟨trivial, rfl, ?_⟩
  rw [← HW0.out]
  refine (callsIn_wide.2 HCS.out).mono ?_
  rintro e w1 ⟨rfl, hb1⟩
  have hs1 := hb1.size
  have b0 : w1.heap[w.heap.size]? = some (.cells #[.slice po l.length pc] 22 (0, 0)) := (hb1.block _ (by omega)).trans a1
  have hbw : Below w.heap.size w w1 := hb0.trans (hb1.mono (by omega))
  have HB0 : Hid (w1.heap[w.heap.size]? = some (.cells #[.slice po l.length pc] 22 (0, 0))) := b0
  have HBW : Hid (Below w.heap.size w w1) := hbw
  have HS1 : Hid (w.heap.size + 1 ≤ w1.heap.size) := by show _ ≤ _; omega
  have d0 : w1.cell? ⟨w.heap.size, 0, none⟩ = some (.slice po l.length pc) := cell_of b0
  clear hb1 hs1 b0 hbw HCS HW0 hb0 hs0 a1 hlc hcm
  by_cases hq : listTE l = 0
  · have hL := list_okT hq
    have HL : Hid (Lst l) := hL
    have HQ : Hid (listTE l = 0) := hq
    have h20 := hL.n20
    rw [hq]
    clear hq hL
    have dd0 : (w1.alloc (.cells #[.slice none 0 0] 25)).cell? ⟨w.heap.size, 0, none⟩ = some (.slice po l.length pc) := by
      refine (World.cell?_of_block (w := w1) (Below.heap_alloc _ _ _ ?_)).trans d0
      have := HS1.out
      show w.heap.size < _
      omega
    gi_wp2_with (refine ⟨trivial, rfl, ?_⟩; gi_at_call 13; refine (callsIn_wide.2 (of_any _ _ _)).mono ?_; rintro e w' ⟨rfl, rfl⟩)
    obtain ⟨WN, hWN, n0, n1, n2, hsN, hbN⟩ := threeT w1 (.cells #[.slice none 0 0] 25) (.cells #[.int .i64 l.length] 3) (.cells #[.int .i64 2] 3)
    rw [← hWN]
    clear hWN
    have HSQ := of_seq l.length 2 (w1.heap.size + 1 + 1) (w1.heap.size + 1) WN (by omega) (by omega) (cell_of n2) (cell_of n1)
    have HSZ : Hid (WN.heap.size = w1.heap.size + 3) := hsN
    have HI0 : Hid (RtI w WN w1.heap.size l (fun b => b = w1.heap.size + 1 + 1 ∨ b = w1.heap.size + 1) [] WN) :=
      ⟨fun b hb => by omega, Kpt.refl _ _, hbN.os.trans HBW.out.os, hbN.tape.trans HBW.out.tape, hbN.output.trans HBW.out.output, .slice none 0 0, n0, World.ownsRow_nil _ _ _ _, fun g hg => by simp [Value.ownBlock] at hg⟩
    have HBN : Hid (Below w1.heap.size w1 WN) := hbN
    clear n0 n1 n2 hbN hsN
    refine range_s (R := Hand WN.heap.size) (cs := ext l.length 2 0) (T := fun _ => False) (S0 := fun b => b = w1.heap.size + 1 + 1 ∨ b = w1.heap.size + 1) (gf := 22) (lb := #[.pointer (some ⟨w1.heap.size + 1 + 1, 0, none⟩), .pointer (some ⟨w1.heap.size + 1, 0, none⟩)]) rfl (enters_of Try.func22 (by kernel_rfl) rfl) HSQ (fun b hb => by have := HSZ.out; omega)
      (fun W' S x vs ⟨v, B0, h1, _⟩ => by rw [h1]; rfl) (handR_below _) (handR_put _)
      (fun S pre W' => RtI w WN w1.heap.size l S pre W')
      (fun c S pre W' => False)
      (fun S S' pre W' W'' h hc hs => h.stab HSZ.out hc hs) (fun c S S' pre W' W'' h hc hs => h) HI0.out
      (fun vs a' W' => ∃ v, vs = #[v] ∧ a' = { tmps := #[.slice po l.length pc, .pointer (some ⟨w.heap.size, 0, none⟩), .slice none 0 0, .int .i64 0, .int .i64 0, .pointer (some ⟨w1.heap.size, 0, none⟩), v, undef, undef, .slice po l.length pc, .int .i64 0, .int .i64 0, .bool false, undef, .slice po l.length pc, .int .i64 l.length, .func (.func 22) #[] #[.pointer (some ⟨w1.heap.size + 1 + 1, 0, none⟩), .pointer (some ⟨w1.heap.size + 1, 0, none⟩)], v, undef, undef, undef, undef, undef, undef, undef, undef, undef, undef, undef, undef, undef, undef, undef, undef, undef, undef, undef], defers := [] })
      (fun vs a' W' l r o h _ => h) ?assign ?body (fun h => h) ?done ?stop
    case assign =>
      rintro S x vs W' K ⟨v, B0, rfl, h2, h3, h4⟩ hK
      gi_wp2
      exact hK _ _ (Below.refl _ _) ⟨v, rfl, rfl⟩
    case stop =>
      rintro c S pre W' hpre h
      exact h.elim
    case body =>
      rintro S pre x vs a' W1 hi hSD hSL hlt1 hdf hlp hpre ⟨S1, ⟨v, B0, hvs, hown, hB0, hN0, hBW⟩, hS1⟩ ⟨v', hvs', rfl⟩
      have hvv : v = v' := by rw [hvs] at hvs'; simpa using hvs'
      subst hvv
      have hcm' : x ∈ ext l.length 2 0 := hpre.subset (by simp)
      obtain ⟨hr1, hr2, hr3⟩ := ext_rise hcm'
      obtain ⟨i, hi0⟩ : ∃ i : Nat, x.getD 0 0 = i := ⟨(x.getD 0 0).toNat, by have := (hr2 0 (by omega)).1; omega⟩
      obtain ⟨k, hk0⟩ : ∃ k : Nat, x.getD 1 0 = k := ⟨(x.getD 1 0).toNat, by have := (hr2 1 (by omega)).1; omega⟩
      have hik : i < k := by have := hr3 0 1 (by omega) (by omega); omega
      have hkl : k < l.length := by have := (hr2 1 (by omega)).2; omega
      have HSN1 : Hid (rsL l (pre ++ [x]) = rsL l pre ++ if rtB l i k then [rtV l i k] else []) := by
        have h := rsL_snoc l pre x
        rw [hi0, hk0] at h
        show _ = _
        simpa using h
      have hsz := HSZ.out
      have hws := hi.kp.size
      have hs1w := HS1.out
      have e1 : W1.heap[w.heap.size]? = some (.cells #[.slice po l.length pc] 22 (0, 0)) := (hi.kp.block _ (by omega) (by omega)).trans ((HBN.out.block _ (by omega)).trans HB0.out)
      have hlow : ∀ b, b < w.heap.size → W1.heap[b]? = w.heap[b]? := fun b hb => (hi.kp.block b (by omega) (by omega)).trans ((HBN.out.block b (by omega)).trans (HBW.out.block b hb))
      obtain ⟨vo, vc, hvf⟩ := owns_form hown
      rw [hr1] at hvf
      subst hvf
      have hsv := Sl.own (B := 0) hown
      rw [show (2 : Nat) = x.length from hr1.symm] at hsv
      obtain ⟨pb, pq, pcp, hs5, _, hp0⟩ := sl_cell hsv (k := 0) (by omega)
      simp only [Value.slice.injEq] at hs5
      obtain ⟨rfl, _, rfl⟩ := hs5
      obtain ⟨pb', pq', pcp', hs6, _, hp1⟩ := sl_cell hsv (k := 1) (by omega)
      simp only [Value.slice.injEq, Option.some.injEq, Addr.mk.injEq] at hs6
      obtain ⟨⟨rfl, rfl, _⟩, _, rfl⟩ := hs6
      rw [hi0, Nat.add_zero] at hp0
      rw [hk0] at hp1
      have c0 : W1.cell? ⟨w.heap.size, 0, none⟩ = some (.slice po l.length pc) := cell_of e1
      have hVW : Sl w.heap.size 3 W1 (.slice po l.length pc) (ints l) := HV.out.move fun b hl ht => ⟨hlow b hl, ht⟩
      have HRO : Hid (∀ w', Below W1.heap.size W1 w' → Calls Try.prog 14 #[.slice po l.length pc, .int .i64 i, .int .i64 k] w' fun e w'' => e = .returned (.tuple #[.agg #[.int .i64 (rtV l i k).1, .int .i64 (rtV l i k).2.1, .int .i64 (rtV l i k).2.2], .bool (rtB l i k)]) ∧ Below w'.heap.size w' w'') := fun w' hb =>
        rootOf_any w.heap.size l i k _ w' HL.out (hVW.below hb (Nat.le_refl _)) (by have := hb.size; omega) hik hkl
      have o2 : Below W1.heap.size W1 (W1.alloc (.cells #[.int .i64 0, .int .i64 0, .int .i64 0] 30)) := (Below.refl _ _).alloc (Nat.le_refl _) _
      have j0 : (W1.alloc (.cells #[.int .i64 0, .int .i64 0, .int .i64 0] 30)).cell? ⟨w.heap.size, 0, none⟩ = some (.slice po l.length pc) := (o2.cell (p := ⟨w.heap.size, 0, none⟩) (lt_of_cell c0)).trans c0
      have j1 : (W1.alloc (.cells #[.int .i64 0, .int .i64 0, .int .i64 0] 30)).cell? ⟨pb, pq, none⟩ = some (.int .i64 i) := (o2.cell (p := ⟨pb, pq, none⟩) (lt_of_cell hp0)).trans hp0
      have j2 : (W1.alloc (.cells #[.int .i64 0, .int .i64 0, .int .i64 0] 30)).cell? ⟨pb, pq + 1, none⟩ = some (.int .i64 k) := (o2.cell (p := ⟨pb, pq + 1, none⟩) (lt_of_cell hp1)).trans hp1
      have HO2 : Hid (Below W1.heap.size W1 (W1.alloc (.cells #[.int .i64 0, .int .i64 0, .int .i64 0] 30))) := o2
      have HZM : Hid (∀ w7, Below ((W1.alloc (.cells #[.int .i64 0, .int .i64 0, .int .i64 0] 30)).drew).heap.size ((W1.alloc (.cells #[.int .i64 0, .int .i64 0, .int .i64 0] 30)).drew) w7 → w7.heap[W1.heap.size]? = some (.cells #[.int .i64 0, .int .i64 0, .int .i64 0] 30 (0, 0))) := fun w7 hb => (hb.block _ (by simp)).trans (alloc_new W1 _)
      have HLEN : Hid ((rsL l pre).length ≤ 1000) := by
        have h1 := rsL_len l pre
        have h2 := hpre.length_le
        have h3 := ext2_len (n := l.length) (by omega)
        simp only [List.length_append, List.length_singleton] at h2
        show _ ≤ _
        omega
      obtain ⟨lr, hlp⟩ := hlp
      have HII : Hid (RtI w WN w1.heap.size l S pre W1) := hi
      have HSB : Hid (∀ b, S b → b < W1.heap.size) := fun b hx => by
        rcases (hS1 _).1 hx with hx | hx | hx
        · have := hB0 _ hx; omega
        · omega
        · omega
      clear hi hpre hown hB0 hN0 hBW hS1 hcm' hdf hlp hvs hvs' hlow e1 HSQ hsz hws hSD hSL hr1 hr2 hr3 hi0 hk0 hsv hVW o2
      generalize hrv : rtV l i k = R3 at *
      obtain ⟨ra, rb, rc⟩ := R3
      simp only at HRO HSN1
      generalize hrb : rtB l i k = RB at *
      gi_upto_region 7 with fail
      dsimp only
      gi_cut [7, 8] from 18 (fun x y wx => ∃ q, x = .pointer (some ⟨q, 0, none⟩) ∧ y = .bool RB ∧ wx.heap[q]? = some (.cells #[.int .i64 ra, .int .i64 rb, .int .i64 rc] 30 (0, 0)) ∧ W1.heap.size ≤ q ∧ Below W1.heap.size W1 wx)
      case first =>
        refine wpIn_region_rnd (fun w' => w'.cell? ⟨w.heap.size, 0, none⟩ = some (.slice po l.length pc) ∧ w'.cell? ⟨pb, pq, none⟩ = some (.int .i64 i) ∧ w'.cell? ⟨pb, pq + 1, none⟩ = some (.int .i64 k)) (by kernel_rfl) (no_defer (by kernel_rfl)) (fun a w h => h) ⟨c0, hp0, hp1⟩ (fun hHeld => ?_)
        refine wpAnyH_take (i := 0) (v := .slice po l.length pc) rfl (by kernel_rfl) (by kernel_rfl) (by kernel_rfl) (fun _ _ _ h => h) (Or.inl ⟨by rfl, ?_⟩) (by assumption) ?_
        · intro w hSw
          obtain ⟨s1, s2, s3⟩ := hSw
          go_simp
        simp only [List.getElem_toArray, List.getElem_cons_zero, Act.put, List.setIfInBounds_toArray, List.set_cons_succ, List.set_cons_zero]
        refine wpAnyH_take (i := 1) (v := .slice (some ⟨pb, pq, none⟩) 2 vc) rfl (by kernel_rfl) (by kernel_rfl) (by kernel_rfl) (fun _ _ _ h => h) (Or.inl ⟨by rfl, ?_⟩) (by assumption) ?_
        · intro w hSw
          obtain ⟨s1, s2, s3⟩ := hSw
          go_simp
        simp only [List.getElem_toArray, List.getElem_cons_succ, List.getElem_cons_zero, Act.put, List.setIfInBounds_toArray, List.set_cons_succ, List.set_cons_zero]
        refine wpAnyH_take (i := 2) (v := .pointer (some ⟨pb, pq, none⟩)) rfl (by kernel_rfl) (by kernel_rfl) (by kernel_rfl) (fun _ _ _ h => h) (Or.inl ⟨by rfl, ?_⟩) (by assumption) ?_
        · intro w hSw
          obtain ⟨s1, s2, s3⟩ := hSw
          go_simp
        simp only [List.getElem_toArray, List.getElem_cons_succ, List.getElem_cons_zero, Act.put, List.setIfInBounds_toArray, List.set_cons_succ, List.set_cons_zero]
        refine wpAnyH_take (i := 3) (v := .int .i64 i) rfl (by kernel_rfl) (by kernel_rfl) (by kernel_rfl) (fun _ _ _ h => h) (Or.inl ⟨by rfl, ?_⟩) (by assumption) ?_
        · intro w hSw
          obtain ⟨s1, s2, s3⟩ := hSw
          go_simp
        simp only [List.getElem_toArray, List.getElem_cons_succ, List.getElem_cons_zero, Act.put, List.setIfInBounds_toArray, List.set_cons_succ, List.set_cons_zero]
        refine wpAnyH_take (i := 4) (v := .slice (some ⟨pb, pq, none⟩) 2 vc) rfl (by kernel_rfl) (by kernel_rfl) (by kernel_rfl) (fun _ _ _ h => h) (Or.inl ⟨by rfl, ?_⟩) (by assumption) ?_
        · intro w hSw
          obtain ⟨s1, s2, s3⟩ := hSw
          go_simp
        simp only [List.getElem_toArray, List.getElem_cons_succ, List.getElem_cons_zero, Act.put, List.setIfInBounds_toArray, List.set_cons_succ, List.set_cons_zero]
        refine wpAnyH_take (i := 5) (v := .pointer (some ⟨pb, pq + 1, none⟩)) rfl (by kernel_rfl) (by kernel_rfl) (by kernel_rfl) (fun _ _ _ h => h) (Or.inl ⟨by rfl, ?_⟩) (by assumption) ?_
        · intro w hSw
          obtain ⟨s1, s2, s3⟩ := hSw
          go_simp
        simp only [List.getElem_toArray, List.getElem_cons_succ, List.getElem_cons_zero, Act.put, List.setIfInBounds_toArray, List.set_cons_succ, List.set_cons_zero]
        refine wpAnyH_take (i := 6) (v := .int .i64 k) rfl (by kernel_rfl) (by kernel_rfl) (by kernel_rfl) (fun _ _ _ h => h) (Or.inl ⟨by rfl, ?_⟩) (by assumption) ?_
        · intro w hSw
          obtain ⟨s1, s2, s3⟩ := hSw
          go_simp
        simp only [List.getElem_toArray, List.getElem_cons_succ, List.getElem_cons_zero, Act.put, List.setIfInBounds_toArray, List.set_cons_succ, List.set_cons_zero]
        refine wpAnyH_ready (rs := [7, 11]) (by kernel_rfl) (by simp) ?_
        refine AllReadyH.cons rfl (fun K hK => ?_) (AllReadyH.cons rfl (fun K hK => ?_) AllReadyH.nil)
        · go_simp
          refine (HRO.out _ ((Below.refl _ _).drew)).mono ?_
          rintro e w7 ⟨rfl, hb7⟩
          have hb7' : Below W1.heap.size W1 w7 := ((Below.refl _ _).drew).trans hb7
          dsimp only
          refine hK.out _ _ ⟨(hb7'.cell (p := ⟨w.heap.size, 0, none⟩) (lt_of_cell c0)).trans c0, (hb7'.cell (p := ⟨pb, pq, none⟩) (lt_of_cell hp0)).trans hp0, (hb7'.cell (p := ⟨pb, pq + 1, none⟩) (lt_of_cell hp1)).trans hp1⟩ (fun hHeld2 => ?_)
          clear hK K hHeld
          refine wpAnyH_take (i := 8) (v := .tuple #[.agg #[.int .i64 ra, .int .i64 rb, .int .i64 rc], .bool RB]) rfl (by kernel_rfl) (by kernel_rfl) (by kernel_rfl) (fun _ _ _ h => h) (Or.inl ⟨by rfl, ?_⟩) (by assumption) ?_
          · intro w hSw
            obtain ⟨s1, s2, s3⟩ := hSw
            go_simp
          simp only [List.getElem_toArray, List.getElem_cons_succ, List.getElem_cons_zero, Act.put, List.setIfInBounds_toArray, List.set_cons_succ, List.set_cons_zero]
          refine wpAnyH_take (i := 9) (v := .agg #[.int .i64 ra, .int .i64 rb, .int .i64 rc]) rfl (by kernel_rfl) (by kernel_rfl) (by kernel_rfl) (fun _ _ _ h => h) (Or.inl ⟨by rfl, ?_⟩) (by assumption) ?_
          · intro w hSw
            obtain ⟨s1, s2, s3⟩ := hSw
            go_simp
          simp only [List.getElem_toArray, List.getElem_cons_succ, List.getElem_cons_zero, Act.put, List.setIfInBounds_toArray, List.set_cons_succ, List.set_cons_zero]
          refine wpAnyH_take (i := 10) (v := .bool RB) rfl (by kernel_rfl) (by kernel_rfl) (by kernel_rfl) (fun _ _ _ h => h) (Or.inl ⟨by rfl, ?_⟩) (by assumption) ?_
          · intro w hSw
            obtain ⟨s1, s2, s3⟩ := hSw
            go_simp
          simp only [List.getElem_toArray, List.getElem_cons_succ, List.getElem_cons_zero, Act.put, List.setIfInBounds_toArray, List.set_cons_succ, List.set_cons_zero]
          refine wpAnyH_ready (rs := [11]) (by kernel_rfl) (by simp) ?_
          refine AllReadyH.cons rfl (fun K hK => ?_) AllReadyH.nil
          go_simp
          have o3 : Below w7.heap.size w7 (w7.alloc (.cells #[.int .i64 0, .int .i64 0, .int .i64 0] 30)) := (Below.refl _ _).alloc (Nat.le_refl _) _
          refine hK.out _ _ ⟨(o3.cell (p := ⟨w.heap.size, 0, none⟩) (lt_of_cell hHeld2.1)).trans hHeld2.1, (o3.cell (p := ⟨pb, pq, none⟩) (lt_of_cell hHeld2.2.1)).trans hHeld2.2.1, (o3.cell (p := ⟨pb, pq + 1, none⟩) (lt_of_cell hHeld2.2.2)).trans hHeld2.2.2⟩ (fun hHeld3 => ?_)
          clear hK K hHeld2
          refine wpAnyH_ready (rs := [12]) (by kernel_rfl) (by simp) ?_
          refine AllReadyH.cons rfl (fun K hK => ?_) AllReadyH.nil
          go_simp
          have hb9 : Below W1.heap.size W1 (w7.alloc (.cells #[.int .i64 ra, .int .i64 rb, .int .i64 rc] 30)) := hb7'.alloc hb7'.size _
          have h9 : (w7.alloc (.cells #[.int .i64 ra, .int .i64 rb, .int .i64 rc] 30)).heap[w7.heap.size]? = some (.cells #[.int .i64 ra, .int .i64 rb, .int .i64 rc] 30 (0, 0)) := alloc_new _ _
          have hle9 : W1.heap.size ≤ w7.heap.size := hb7'.size
          refine hK.out _ _ ⟨(hb9.cell (p := ⟨w.heap.size, 0, none⟩) (lt_of_cell c0)).trans c0, (hb9.cell (p := ⟨pb, pq, none⟩) (lt_of_cell hp0)).trans hp0, (hb9.cell (p := ⟨pb, pq + 1, none⟩) (lt_of_cell hp1)).trans hp1⟩ (fun hHeld4 => ?_)
          clear hK K hHeld3
          refine wpAnyH_take (i := 13) (v := .bool RB) rfl (by kernel_rfl) (by kernel_rfl) (by kernel_rfl) (fun _ _ _ h => h) (Or.inl ⟨by rfl, ?_⟩) (by assumption) ?_
          · intro w hSw
            obtain ⟨s1, s2, s3⟩ := hSw
            go_simp
          simp only [List.getElem_toArray, List.getElem_cons_succ, List.getElem_cons_zero, Act.put, List.setIfInBounds_toArray, List.set_cons_succ, List.set_cons_zero]
          refine wpAnyH_done (by kernel_rfl) ?_ _
          dsimp only [Nrm]
          gi_wp2_with fail
          gi_meet
          exact ⟨_, rfl, rfl, h9, hle9, hb9⟩
        · go_simp
          refine hK.out _ _ ⟨j0, j1, j2⟩ (fun hHeld2 => ?_)
          clear hK K hHeld
          refine wpAnyH_ready (rs := [7]) (by kernel_rfl) (by simp) ?_
          refine AllReadyH.cons rfl (fun K hK => ?_) AllReadyH.nil
          go_simp
          refine (HRO.out _ HO2.out.drew).mono ?_
          rintro e w7 ⟨rfl, hb7⟩
          have hb7' : Below W1.heap.size W1 w7 := HO2.out.drew.trans (hb7.mono HO2.out.size)
          have hz7 := HZM.out w7 hb7
          have z0 : w7.cell? ⟨W1.heap.size, 0, none⟩ = some (.int .i64 0) := by simp [World.cell?, hz7]
          have z1 : w7.cell? ⟨W1.heap.size, 1, none⟩ = some (.int .i64 0) := by simp [World.cell?, hz7]
          have z2 : w7.cell? ⟨W1.heap.size, 2, none⟩ = some (.int .i64 0) := by simp [World.cell?, hz7]
          have f0 : w7.frozen? ⟨W1.heap.size, 0, none⟩ = false := by simp [World.frozen?, hz7]
          have f1 : w7.frozen? ⟨W1.heap.size, 1, none⟩ = false := by simp [World.frozen?, hz7]
          have f2 : w7.frozen? ⟨W1.heap.size, 2, none⟩ = false := by simp [World.frozen?, hz7]
          dsimp only
          refine hK.out _ _ ⟨(hb7'.cell (p := ⟨w.heap.size, 0, none⟩) (lt_of_cell c0)).trans c0, (hb7'.cell (p := ⟨pb, pq, none⟩) (lt_of_cell hp0)).trans hp0, (hb7'.cell (p := ⟨pb, pq + 1, none⟩) (lt_of_cell hp1)).trans hp1⟩ (fun hHeld3 => ?_)
          clear hK K hHeld2
          refine wpAnyH_take (i := 8) (v := .tuple #[.agg #[.int .i64 ra, .int .i64 rb, .int .i64 rc], .bool RB]) rfl (by kernel_rfl) (by kernel_rfl) (by kernel_rfl) (fun _ _ _ h => h) (Or.inl ⟨by rfl, ?_⟩) (by assumption) ?_
          · intro w hSw
            obtain ⟨s1, s2, s3⟩ := hSw
            go_simp
          simp only [List.getElem_toArray, List.getElem_cons_succ, List.getElem_cons_zero, Act.put, List.setIfInBounds_toArray, List.set_cons_succ, List.set_cons_zero]
          refine wpAnyH_take (i := 9) (v := .agg #[.int .i64 ra, .int .i64 rb, .int .i64 rc]) rfl (by kernel_rfl) (by kernel_rfl) (by kernel_rfl) (fun _ _ _ h => h) (Or.inl ⟨by rfl, ?_⟩) (by assumption) ?_
          · intro w hSw
            obtain ⟨s1, s2, s3⟩ := hSw
            go_simp
          simp only [List.getElem_toArray, List.getElem_cons_succ, List.getElem_cons_zero, Act.put, List.setIfInBounds_toArray, List.set_cons_succ, List.set_cons_zero]
          refine wpAnyH_take (i := 10) (v := .bool RB) rfl (by kernel_rfl) (by kernel_rfl) (by kernel_rfl) (fun _ _ _ h => h) (Or.inl ⟨by rfl, ?_⟩) (by assumption) ?_
          · intro w hSw
            obtain ⟨s1, s2, s3⟩ := hSw
            go_simp
          simp only [List.getElem_toArray, List.getElem_cons_succ, List.getElem_cons_zero, Act.put, List.setIfInBounds_toArray, List.set_cons_succ, List.set_cons_zero]
          refine wpAnyH_ready (rs := [12]) (by kernel_rfl) (by simp) ?_
          refine AllReadyH.cons rfl (fun K hK => ?_) AllReadyH.nil
          go_simp
          have hb9 : Below W1.heap.size W1 (((w7.setCell ⟨W1.heap.size, 0, none⟩ (.int .i64 ra)).setCell ⟨W1.heap.size, 1, none⟩ (.int .i64 rb)).setCell ⟨W1.heap.size, 2, none⟩ (.int .i64 rc)) := three_below hb7'
          have h9 : (((w7.setCell ⟨W1.heap.size, 0, none⟩ (.int .i64 ra)).setCell ⟨W1.heap.size, 1, none⟩ (.int .i64 rb)).setCell ⟨W1.heap.size, 2, none⟩ (.int .i64 rc)).heap[W1.heap.size]? = some (.cells #[.int .i64 ra, .int .i64 rb, .int .i64 rc] 30 (0, 0)) := three_set hz7
          have hle9 : W1.heap.size ≤ W1.heap.size := Nat.le_refl _
          refine hK.out _ _ ⟨(hb9.cell (p := ⟨w.heap.size, 0, none⟩) (lt_of_cell c0)).trans c0, (hb9.cell (p := ⟨pb, pq, none⟩) (lt_of_cell hp0)).trans hp0, (hb9.cell (p := ⟨pb, pq + 1, none⟩) (lt_of_cell hp1)).trans hp1⟩ (fun hHeld4 => ?_)
          clear hK K hHeld3
          refine wpAnyH_take (i := 13) (v := .bool RB) rfl (by kernel_rfl) (by kernel_rfl) (by kernel_rfl) (fun _ _ _ h => h) (Or.inl ⟨by rfl, ?_⟩) (by assumption) ?_
          · intro w hSw
            obtain ⟨s1, s2, s3⟩ := hSw
            go_simp
          simp only [List.getElem_toArray, List.getElem_cons_succ, List.getElem_cons_zero, Act.put, List.setIfInBounds_toArray, List.set_cons_succ, List.set_cons_zero]
          refine wpAnyH_done (by kernel_rfl) ?_ _
          dsimp only [Nrm]
          gi_wp2_with fail
          gi_meet
          exact ⟨_, rfl, rfl, h9, hle9, hb9⟩
      case rest =>
        obtain ⟨q, rfl, rfl, hq3, hqs, hbc⟩ := hcut
        have z0 : wc.cell? ⟨q, 0, none⟩ = some (.int .i64 ra) := by simp [World.cell?, hq3]
        have z1 : wc.cell? ⟨q, 1, none⟩ = some (.int .i64 rb) := by simp [World.cell?, hq3]
        have z2 : wc.cell? ⟨q, 2, none⟩ = some (.int .i64 rc) := by simp [World.cell?, hq3]
        have HBC : Hid (Below W1.heap.size W1 wc) := hbc
        have hic := HII.out.stab HSZ.out (Chg.of_below hbc (Nat.le_refl _)) (fun b hb => .inl hb)
        have HIC : Hid (RtI w WN w1.heap.size l S pre wc) := hic
        have HKC : Hid (Kpt (fun b => S b ∨ False) W1 wc) := Kpt.of_below hbc (Nat.le_refl _)
        have HSC : Hid (W1.heap.size ≤ wc.heap.size) := hbc.size
        have HWS : Hid (w1.heap.size + 3 ≤ W1.heap.size) := by
          have h1 := HSZ.out
          have h2 := HII.out.kp.size
          show _ ≤ _
          omega
        have HRL : Hid ((rsL l pre).length ≤ 1000) := HLEN.out
        obtain ⟨rv, g1, g2, g3⟩ := hic.rt
        have cr : wc.cell? ⟨w1.heap.size, 0, none⟩ = some rv := cell_of g1
        have G1 : Hid (wc.heap[w1.heap.size]? = some (.cells #[rv] 25 (0, 0))) := g1
        have G2 : Hid (wc.ownsRow (w1.heap.size + 3) 30 3 rv (rsL l pre).length ((rsL l pre).flatMap encT)) := g2
        have G3 : Hid (∀ g, rv.ownBlock = some g → ¬ S g) := g3
        obtain ⟨ro, rcp, hrf⟩ : ∃ ro rcp, rv = .slice ro (rsL l pre).length rcp := by
          rcases g2.2 with ⟨h, h0⟩ | ⟨g, cap, cur, h, _⟩
          · exact ⟨_, _, by rw [h0]; exact h⟩
          · exact ⟨_, _, h⟩
        subst hrf
        clear hic g1 g2 g3 hbc c0 hp0 hp1 j0 j1 j2 HZM HO2 HRO
        cases RB
        · have HSN2 : Hid (rsL l (pre ++ [x]) = rsL l pre) := by
            have h := HSN1.out
            show _ = _
            simpa using h
          have HFI : Hid (RtI w WN w1.heap.size l S (pre ++ [x]) wc) := by
            obtain ⟨q1, q2, q3, q4, q5, q6⟩ := HIC.out
            refine ⟨q1, q2, q3, q4, q5, ?_⟩
            rw [HSN2.out]
            exact q6
          gi_wp2
          exact ⟨HKC.out, HFI.out⟩
        · have HSN2 : Hid (rsL l (pre ++ [x]) = rsL l pre ++ [(ra, rb, rc)]) := by
            have h := HSN1.out
            show _ = _
            simpa using h
          have HFIN : Hid (∀ v' w8, w8.ownsRow (w1.heap.size + 3) 30 3 v' ((rsL l pre).length + 1) ((rsL l pre).flatMap encT ++ [.int .i64 ra, .int .i64 rb, .int .i64 rc]) → (wc.alloc (.cells #[.int .i64 ra, .int .i64 rb, .int .i64 rc] 30)).grownBy w8 (Value.slice ro (rsL l pre).length rcp).ownBlock → (v'.ownBlock = (Value.slice ro (rsL l pre).length rcp).ownBlock ∨ v'.ownBlock = some (wc.heap.size + 1)) →
              w8.cell? ⟨w1.heap.size, 0, none⟩ = some (.slice ro (rsL l pre).length rcp) ∧ w8.frozen? ⟨w1.heap.size, 0, none⟩ = false ∧ Kpt (fun b => S b ∨ False) W1 (w8.setCell ⟨w1.heap.size, 0, none⟩ v') ∧ RtI w WN w1.heap.size l S (pre ++ [x]) (w8.setCell ⟨w1.heap.size, 0, none⟩ v')) := fun v' w8 ho hg hat => by
            have hsc := HSC.out
            have hws3 := HWS.out
            have hblk : ∀ b, b < wc.heap.size → (∀ g, (Value.slice ro (rsL l pre).length rcp).ownBlock = some g → b ≠ g) → w8.heap[b]? = wc.heap[b]? := fun b hb1 hne =>
              (hg.block b (by simp; omega) (fun e => hne b e.symm rfl)).trans (Below.heap_alloc _ _ _ hb1)
            have hrn : ∀ g, (Value.slice ro (rsL l pre).length rcp).ownBlock = some g → w1.heap.size + 3 ≤ g := fun g hg1 => (G2.out.lt g hg1).1
            have h8 : w8.heap[w1.heap.size]? = some (.cells #[.slice ro (rsL l pre).length rcp] 25 (0, 0)) := (hblk _ (by omega) (fun g hg1 => by have := hrn g hg1; omega)).trans G1.out
            have hg7 := hg.size
            simp only [World.size_alloc] at hg7
            have hnew : ∀ b, W1.heap.size ≤ b → ¬ S b := fun b hb1 hs => by have := HSB.out b hs; omega
            have hSlow : ∀ b, S b → w1.heap.size + 1 ≤ b := HII.out.sn
            refine ⟨cell_of h8, by simp [World.frozen?, h8], ⟨by simp [World.setCell]; omega, fun b hb1 hs => ?_⟩, ?_⟩
            · have hs' : S b := hs.elim id False.elim
              refine (Below.heap_setCell _ _ _ _ (by show b ≠ w1.heap.size; have := hSlow b hs'; omega)).trans ((hblk b (by omega) (fun g hg1 e => ?_)).trans (HBC.out.block b hb1))
              subst e
              exact G3.out _ hg1 hs'
            · obtain ⟨q1, q2, q3, q4, q5, _⟩ := HIC.out
              refine ⟨q1, q2.trans ⟨?_, fun b hb1 hlt => ?_⟩, hg.os.trans q3, hg.tape.trans q4, hg.output.trans q5, v', ?_, ?_, fun g hg1 => ?_⟩
              · simp [World.setCell]; omega
              · have h2 := HSZ.out
                refine (Below.heap_setCell _ _ _ _ (by show b ≠ w1.heap.size; omega)).trans (hblk b (by omega) (fun g hg1 e => ?_))
                have := hrn g hg1
                omega
              · simp [World.setCell, Array.getElem?_modify, h8]
              · rw [HSN2.out, List.flatMap_append, List.length_append, List.length_singleton]
                have e : ([(ra, rb, rc)] : List (Int × Int × Int)).flatMap encT = [.int .i64 ra, .int .i64 rb, .int .i64 rc] := rfl
                rw [e]
                exact ownsR_keep ho (fun g hg1 => Below.heap_setCell _ _ _ _ (by show g ≠ w1.heap.size; have := (ho.lt g hg1).1; omega))
              · rcases hat with h | h
                · rw [h] at hg1; exact G3.out g hg1
                · rw [h] at hg1
                  simp only [Option.some.injEq] at hg1
                  exact hnew g (by omega)
          have hrl := HRL.out
          have HSZC : Hid (w1.heap.size + 3 ≤ wc.heap.size) := Nat.le_trans HWS.out HSC.out
          generalize (rsL l pre).length = K at *
          clear HSN1 HSN2 HIC HKC G1 G3 HBC HII
          gi_wp2_with (first | (gi_at_builtin; refine wpListIn_append_own_at _ rfl _ _ 25 rfl (w1.heap.size + 3) 30 iT (.agg #[.int .i64 0, .int .i64 0, .int .i64 0]) 3 24 Try.underlying25 hiT hzT0 hzT1 hzT2 rfl (by decide) _ _ _ rfl (G2.out.alloc _) ⟨wc.heap.size, 0, none⟩ 1 1 [.int .i64 ra, .int .i64 rb, .int .i64 rc] rfl rfl (three_newT _ _ _ _ _) (three_one _ _ _) ?d3 ?d4 ?d5 ?_))
          case d3 => unfold maxLen; omega
          case d4 => omega
          case d5 => have := HSZC.out; simp; omega
          intro v' w8 ho hg _ hat
          obtain ⟨vo8, vc8, hv8⟩ : ∃ ro rcp, v' = .slice ro (K + 1) rcp := by
            rcases ho.2 with ⟨h, h0⟩ | ⟨g, cap, cur, h, _⟩
            · omega
            · exact ⟨_, _, h⟩
          subst hv8
          obtain ⟨hc8, hf8, hk8, hi8⟩ := HFIN.out _ w8 ho hg hat
          have HK8 : Hid (Kpt (fun b => S b ∨ False) W1 (w8.setCell ⟨w1.heap.size, 0, none⟩ (.slice vo8 (K + 1) vc8))) := hk8
          have HI8 : Hid (RtI w WN w1.heap.size l S (pre ++ [x]) (w8.setCell ⟨w1.heap.size, 0, none⟩ (.slice vo8 (K + 1) vc8))) := hi8
          clear ho hg hat HFIN hk8 hi8
          gi_wp2
          exact ⟨HK8.out, HI8.out⟩
    case done =>
      rintro S W' hi hSD hdf
      have hsz := HSZ.out
      have hws := hi.kp.size
      have hs1w := HS1.out
      obtain ⟨rv, g1, g2, g3⟩ := hi.rt
      have cr : W'.cell? ⟨w1.heap.size, 0, none⟩ = some rv := cell_of g1
      have HI : Hid (RtI w WN w1.heap.size l S (ext l.length 2 0) W') := hi
      have HDF : Hid (W'.heap[WN.heap.size]? = some (.deferred (some []))) := hdf
      have hU : rsL l (ext l.length 2 0) = rootsU l := rfl
      rw [hU] at g2
      have HSO : Hid (Calls Try.prog 15 #[rv, .func (.func 16) #[] #[]] W' fun e w' => e = .returned (.tuple #[]) ∧ ∃ m' : List (Int × Int × Int), m'.Perm (rootsU l) ∧ AscT m' ∧ w'.ownsRow (w1.heap.size + 3) 30 3 rv m'.length (m'.flatMap encT) ∧ Below (w1.heap.size + 3) W' w' ∧ W'.grownBy w' rv.ownBlock) :=
        sortT_any (w1.heap.size + 3) (rootsU l) rv W' g2 (rootsU_sma HL.out) (Nat.le_trans (rsL_len l _) (Nat.le_trans (ext2_len h20) (by decide)))
      obtain ⟨ro, rcp, hrf⟩ : ∃ ro rcp, rv = .slice ro (rootsU l).length rcp := by
        rcases g2.2 with ⟨h, h0⟩ | ⟨g, cap, cur, h, _⟩
        · exact ⟨_, _, by rw [h0]; exact h⟩
        · exact ⟨_, _, h⟩
      subst hrf
      have HGO : Hid (∀ g, (Value.slice ro (rootsU l).length rcp).ownBlock = some g → ∃ cur, W'.heap[g]? = some (.cells cur 30 (0, 0))) := fun g hg => by
        rcases g2.2 with ⟨h, _⟩ | ⟨g', cap, cur, h, _, h3, _⟩
        · rw [h] at hg; simp [Value.ownBlock] at hg
        · rw [h] at hg
          simp only [Value.ownBlock, Option.some.injEq] at hg
          subst hg
          exact ⟨cur, h3⟩
      have HG1 : Hid (W'.heap[w1.heap.size]? = some (.cells #[.slice ro (rootsU l).length rcp] 25 (0, 0))) := g1
      clear hi hdf g1 g2 g3 HSQ hSD hU hsz hws
      generalize (rootsU l).length = K at *
      gi_wp2_with fail
      refine ⟨trivial, rfl, ?_⟩
      refine (callsIn_wide.2 HSO.out).mono ?_
      rintro e w4 ⟨rfl, m', hp4, ha4, ho4, hb4, hg4⟩
      have hc4 : w4.cell? ⟨w1.heap.size, 0, none⟩ = some (.slice ro K rcp) := cell_of ((hb4.block _ (by omega)).trans HG1.out)
      have HP4 : Hid (m'.Perm (rootsU l)) := hp4
      have HA4 : Hid (AscT m') := ha4
      have HO4 : Hid (w4.ownsRow (w1.heap.size + 3) 30 3 (.slice ro K rcp) m'.length (m'.flatMap encT)) := ho4
      have HB4 : Hid (Below (w1.heap.size + 3) W' w4) := hb4
      have HD4 : Hid (w4.heap[WN.heap.size]? = some (.deferred (some []))) := by
        refine (hg4.block _ (Array.getElem?_eq_some_iff.1 HDF.out).1 (fun e => ?_)).trans HDF.out
        have hx := HGO.out _ e.symm
        obtain ⟨cur, hx⟩ := hx
        rw [HDF.out] at hx
        cases hx
      clear hp4 ha4 ho4 hb4 hg4 HSO
      gi_wp2
      have hsz := HSZ.out
      have hws := HI.out.kp.size
      have hlow : ∀ b, b < w.heap.size → W'.heap[b]? = w.heap[b]? := fun b hb => (HI.out.kp.block b (by omega) (by omega)).trans ((HBN.out.block b (by omega)).trans (HBW.out.block b hb))
      have hb4s := HB4.out.size
      have hD4 := HD4.out
      refine leaves_mks [WN.heap.size] w4 (by simp) (fun r hr => ?_) (fun w' hc => ⟨.tuple #[.slice ro K rcp, .int .i64 0], ?_, ?_⟩)
      · simp only [List.mem_singleton] at hr
        subst hr
        exact hD4
      · simp [results, Try.results6, go_sem]
      · refine ⟨.slice ro K rcp, m', by rw [HQ.out], ?_, fun h => absurd HQ.out h, fun _ => ⟨HP4.out, HA4.out⟩, hc.os.trans (HB4.out.os.trans HI.out.os), hc.tape.trans (HB4.out.tape.trans HI.out.tape), hc.output.trans (HB4.out.output.trans HI.out.output), by have := hc.size; omega, fun b hb => ?_⟩
        · have ho := HO4.out
          have hk := ownsR_keep (W' := w') ho (fun g hg => hc.block g (ho.lt g hg).2 (fun e => by
            simp only [List.mem_singleton] at e
            subst e
            rcases ho.2 with ⟨h, _⟩ | ⟨g', cap, cur, h, _, h3, _⟩
            · rw [h] at hg; simp [Value.ownBlock] at hg
            · rw [h] at hg
              simp only [Value.ownBlock, Option.some.injEq] at hg
              rw [hg, hD4] at h3
              cases h3))
          exact ⟨hk.1, hk.2.imp id fun ⟨g, cap, cur, q1, q2, q3⟩ => ⟨g, cap, cur, q1, by omega, q3⟩⟩
        · exact (hc.block b (by omega) (by simp; omega)).trans ((HB4.out.block b (by omega)).trans (hlow b hb))
  · have hq' : (listTE l != 0) = true := by simpa using hq
    have HQ : Hid (listTE l ≠ 0) := hq
    clear hq
    gi_wp2
    refine leaves_mks [] w1 (by simp) (fun r hr => by simp at hr) (fun w' hc => ⟨.tuple #[.slice none 0 0, .int .i64 (listTE l)], ?_, ?_⟩)
    · simp [results, Try.results6, go_sem]
    · exact ⟨.slice none 0 0, [], rfl, World.ownsRow_nil _ _ _ _, fun _ => rfl, fun h => absurd h HQ.out, hc.os.trans HBW.out.os, hc.tape.trans HBW.out.tape, hc.output.trans HBW.out.output, Nat.le_trans HBW.out.size hc.size, fun b hb => (hc.block b (Nat.lt_of_lt_of_le hb HBW.out.size) (by simp)).trans (HBW.out.block b hb)⟩

end Go.Proofs.Ytmkbijclbogjhaa
