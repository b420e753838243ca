/- Roots by the document's way, pure: of each two terms where they meet, once, rising. -/
import Derived.Test.YtmkbijclbogjhaaTq3
namespace Go.Proofs.Ytmkbijclbogjhaa

theorem low_scale {c : Int} (hc : 0 < c) (l : List Int) : Lin.low (l.map (c * ·)) = Lin.low l := by
  unfold Lin.low
  rw [Lin.gc_scale, List.map_map]
  refine List.map_congr_left fun v _ => ?_
  show c * v / ((c.natAbs * Lin.gc l : Nat) : Int) = _
  rw [Int.natCast_mul, show ((c.natAbs : Nat) : Int) = c by omega, Int.mul_ediv_mul_of_pos _ _ hc]

theorem q_same {l : List Int} {i k i' k' : Nat} (h : i < k) (h' : i' < k') (e : (l.getD i 0 - l.getD k 0) * ((k' : Int) - i') = (l.getD i' 0 - l.getD k' 0) * ((k : Int) - i)) : q0T l i k = q0T l i' k' ∧ q1T l i k = q1T l i' k' := by
  have e1 := lowT l i k
  have e2 := lowT l i' k'
  rw [← low_scale (c := (k' : Int) - i') (by omega)] at e1
  rw [← low_scale (c := (k : Int) - i) (by omega)] at e2
  have e3 : [l.getD i 0 - l.getD k 0, (k : Int) - i].map (((k' : Int) - i') * ·) = [l.getD i' 0 - l.getD k' 0, (k' : Int) - i'].map (((k : Int) - i) * ·) := by
    simp only [List.map_cons, List.map_nil]
    rw [Int.mul_comm ((k' : Int) - i') (l.getD i 0 - l.getD k 0), e, Int.mul_comm (l.getD i' 0 - l.getD k' 0), Int.mul_comm ((k' : Int) - i') ((k : Int) - i)]
  rw [e3, e2] at e1
  simp only [List.cons.injEq, and_true] at e1
  exact ⟨e1.1.symm, e1.2.symm⟩

theorem mem_rootsU {l : List Int} {t : Int × Int × Int} : t ∈ rootsU l ↔ ∃ i k : Nat, i < k ∧ k < l.length ∧ rtB l i k = true ∧ t = (q0T l i k, q1T l i k, (k : Int) - i) := by
  simp only [rootsU, rsL, List.mem_flatMap]
  constructor
  · rintro ⟨c, hc, ht⟩
    obtain ⟨i, k, rfl, hik, hk⟩ := ext_form hc
    have e1 : ([(i : Int), (k : Int)].getD 0 0).toNat = i := by simp
    have e2 : ([(i : Int), (k : Int)].getD 1 0).toNat = k := by simp
    rw [e1, e2] at ht
    by_cases hb : rtB l i k = true
    · rw [if_pos hb] at ht
      have : t = rtV l i k := by simpa using ht
      unfold rtV at this
      rw [if_pos hb] at this
      exact ⟨i, k, hik, hk, hb, this⟩
    · rw [if_neg hb] at ht
      simp at ht
  · rintro ⟨i, k, hik, hk, hb, rfl⟩
    refine ⟨[(i : Int), (k : Int)], ext_pair hik hk, ?_⟩
    have e1 : ([(i : Int), (k : Int)].getD 0 0).toNat = i := by simp
    have e2 : ([(i : Int), (k : Int)].getD 1 0).toNat = k := by simp
    rw [e1, e2, if_pos hb]
    unfold rtV
    rw [if_pos hb]
    simp

/-- Is the least met where i and k are alike? -/
def okD (l : List Int) (i k : Nat) : Prop := ∀ j, j < l.length → tj l (q0T l i k) (q1T l i k) i ≤ tj l (q0T l i k) (q1T l i k) j

/-- The first and the last of the least there. -/
structure LoHi (l : List Int) (i k lo hi : Nat) : Prop where
  loi : lo ≤ i
  khi : k ≤ hi
  hin : hi < l.length
  elo : tj l (q0T l i k) (q1T l i k) lo = tj l (q0T l i k) (q1T l i k) i
  ehi : tj l (q0T l i k) (q1T l i k) hi = tj l (q0T l i k) (q1T l i k) i
  fst : ∀ j, j < lo → tj l (q0T l i k) (q1T l i k) j ≠ tj l (q0T l i k) (q1T l i k) i
  lst : ∀ j, hi < j → j < l.length → tj l (q0T l i k) (q1T l i k) j ≠ tj l (q0T l i k) (q1T l i k) i

theorem lohi_mem {l : List Int} {i k lo hi : Nat} (h : i < k) (ho : okD l i k) (hh : LoHi l i k lo hi) : (q0T l i k, q1T l i k, (hi : Int) - lo) ∈ rootsU l := by
  obtain ⟨g, hg, g1, g2, hb1⟩ := q_fact (l := l) h
  have h1 := hh.loi
  have h2 := hh.khi
  have h3 := hh.hin
  have hlh : lo < hi := by omega
  have e0 : tj l (q0T l i k) (q1T l i k) lo = tj l (q0T l i k) (q1T l i k) hi := by rw [hh.elo, hh.ehi]
  have hs := q_same (l := l) hlh h (by
    rw [g1, g2]
    unfold tj at e0
    generalize q0T l i k = a at *
    generalize q1T l i k = b at *
    have : (l.getD lo 0 - l.getD hi 0) * b = a * ((hi : Int) - lo) := by grind
    grind)
  have hacc : Acc l (q0T l i k) (q1T l i k) lo hi := by
    refine ⟨hb1, hlh, h3, fun j hj => by rw [hh.elo]; exact ho j hj, e0, fun j hj => ?_, fun j hj hjl => ?_⟩
    · have := hh.fst j hj
      have := ho j (by omega)
      rw [hh.elo]; omega
    · have := hh.lst j hj hjl
      have := ho j hjl
      rw [hh.elo]; omega
  rw [← hs.1, ← hs.2] at hacc
  have hb := (rtB_acc hlh h3).2 hacc
  exact mem_rootsU.2 ⟨lo, hi, hlh, h3, hb, by rw [hs.1, hs.2]⟩

theorem rtB_ok {l : List Int} {i k : Nat} (h : i < k) (hk : k < l.length) (hb : rtB l i k = true) : okD l i k := fun j hj => ((rtB_acc h hk).1 hb).low j hj

/-- One slope stands once. -/
theorem roots_one {l : List Int} {s t : Int × Int × Int} (hs : s ∈ rootsU l) (ht : t ∈ rootsU l) (e : s.1 * t.2.1 = t.1 * s.2.1) : s = t := by
  obtain ⟨i, k, hik, hk, hb, rfl⟩ := mem_rootsU.1 hs
  obtain ⟨i', k', hik', hk', hb', rfl⟩ := mem_rootsU.1 ht
  have h1 := (rtB_acc hik hk).1 hb
  have h2 := (rtB_acc hik' hk').1 hb'
  obtain ⟨rfl, rfl⟩ := acc_same h1 h2 (by simpa using e.symm)
  rfl

/-- A lesser slope. -/
def LtR (s t : Int × Int × Int) : Prop := s.1 * t.2.1 < t.1 * s.2.1

theorem pw_ext {α : Type} {R : α → α → Prop} (asym : ∀ a b, R a b → ¬ R b a) : ∀ l1 l2 : List α, l1.Pairwise R → l2.Pairwise R → (∀ x, x ∈ l1 ↔ x ∈ l2) → l1 = l2
  | [], [], _, _, _ => rfl
  | [], b :: l2, _, _, h => absurd ((h b).2 (by simp)) (by simp)
  | a :: l1, [], _, _, h => absurd ((h a).1 (by simp)) (by simp)
  | a :: l1, b :: l2, h1, h2, h => by
    have p1 := List.pairwise_cons.1 h1
    have p2 := List.pairwise_cons.1 h2
    have irr : ∀ x, ¬ R x x := fun x hx => asym x x hx hx
    have hab : a = b := by
      have ha := (h a).1 (by simp)
      have hb := (h b).2 (by simp)
      rcases List.mem_cons.1 ha with e | ha
      · exact e
      rcases List.mem_cons.1 hb with e | hb
      · exact e.symm
      exact absurd (p1.1 b hb) (asym _ _ (p2.1 a ha))
    subst hab
    rw [pw_ext asym l1 l2 p1.2 p2.2 fun x => ?_]
    constructor
    · intro hx
      rcases List.mem_cons.1 ((h x).1 (by simp [hx])) with e | hx'
      · subst e; exact absurd (p1.1 x hx) (irr x)
      · exact hx'
    · intro hx
      rcases List.mem_cons.1 ((h x).2 (by simp [hx])) with e | hx'
      · subst e; exact absurd (p2.1 x hx) (irr x)
      · exact hx'

theorem ltR_asym (a b : Int × Int × Int) (h : LtR a b) : ¬ LtR b a := by unfold LtR at *; omega

/-- What the document has so far: rising roots, all of the pairs that are done. -/
structure Met (l : List Int) (D : Nat → Nat → Prop) (O : List (Int × Int × Int)) : Prop where
  rise : O.Pairwise LtR
  isr : ∀ t ∈ O, t ∈ rootsU l
  all : ∀ i k, i < k → k < l.length → D i k → okD l i k → ∃ t ∈ O, t.1 = q0T l i k ∧ t.2.1 = q1T l i k

theorem Met.nil (l : List Int) (D : Nat → Nat → Prop) (h : ∀ i k, ¬ D i k) : Met l D [] := ⟨List.Pairwise.nil, fun t ht => by simp at ht, fun i k _ _ hd => absurd hd (h i k)⟩

theorem Met.mono {l : List Int} {D D' : Nat → Nat → Prop} {O : List (Int × Int × Int)} (h : Met l D O) (hd : ∀ i k, i < k → k < l.length → D' i k → okD l i k → D i k) : Met l D' O := ⟨h.rise, h.isr, fun i k h1 h2 h3 h4 => h.all i k h1 h2 (hd i k h1 h2 h3 h4) h4⟩

/-- At the end it is what the program has. -/
theorem Met.done {l : List Int} {D : Nat → Nat → Prop} {O m : List (Int × Int × Int)} (h : Met l D O) (hd : ∀ i k, i < k → k < l.length → D i k) (hp : m.Perm (rootsU l)) (ha : AscT m) : O = m := by
  refine pw_ext ltR_asym O m h.rise ?_ fun t => ⟨fun ht => hp.mem_iff.2 (h.isr t ht), fun ht => ?_⟩
  · rw [List.pairwise_iff_getElem]
    intro i j hi hj hij
    have := roots_rise hp ha hij hj
    have e1 : m.getD i (0, 1, 0) = m[i] := by simp [hi]
    have e2 : m.getD j (0, 1, 0) = m[j] := by simp [hj]
    rw [e1, e2] at this
    exact this
  · have ht' := hp.mem_iff.1 ht
    obtain ⟨i, k, hik, hk, hb, rfl⟩ := mem_rootsU.1 ht'
    obtain ⟨t, htO, e1, e2⟩ := h.all i k hik hk (hd i k hik hk) (rtB_ok hik hk hb)
    have := roots_one (h.isr t htO) ht' (by simp [e1, e2])
    rw [← this]; exact htO

theorem ltR_trans {a b c : Int × Int × Int} (ha : 1 ≤ a.2.1) (hb : 1 ≤ b.2.1) (hc : 1 ≤ c.2.1) (h1 : LtR a b) (h2 : LtR b c) : LtR a c := by
  unfold LtR at *
  exact quo_lt (by omega) (by omega) (by omega) h1 h2

theorem rootsU_b1 {l : List Int} {t : Int × Int × Int} (h : t ∈ rootsU l) : 1 ≤ t.2.1 := by
  obtain ⟨i, k, hik, _, _, rfl⟩ := mem_rootsU.1 h
  obtain ⟨g, _, _, _, hb1⟩ := q_fact (l := l) hik
  exact hb1

/-- One more, put where it belongs. -/
theorem Met.put {l : List Int} {D D' : Nat → Nat → Prop} {O : List (Int × Int × Int)} {m : Int × Int × Int} {at' : Nat} (h : Met l D O) (hm : m ∈ rootsU l) (hn : ∀ t ∈ O, ¬ (t.1 = m.1 ∧ t.2.1 = m.2.1)) (ha : at' ≤ O.length)
    (hu : ∀ t ∈ O.drop at', LtR m t) (hl : at' = 0 ∨ ¬ LtR m (O.getD (at' - 1) (0, 1, 0))) (hD : ∀ i k, i < k → k < l.length → D' i k → okD l i k → D i k ∨ (q0T l i k = m.1 ∧ q1T l i k = m.2.1)) : Met l D' (O.take at' ++ m :: O.drop at') := by
  have hlow : ∀ t ∈ O.take at', LtR t m := fun t ht => by
    have htO := List.mem_of_mem_take ht
    have hne : t.1 * m.2.1 ≠ m.1 * t.2.1 := fun e => by
      have := roots_one (h.isr t htO) hm e
      exact hn t htO (by rw [this]; exact ⟨rfl, rfl⟩)
    rcases hl with rfl | hl
    · simp at ht
    · have hat : 0 < at' := by
        rcases Nat.eq_zero_or_pos at' with e | e
        · subst e; simp at ht
        · exact e
      have hlast : O.getD (at' - 1) (0, 1, 0) ∈ O := by simp [show at' - 1 < O.length by omega]
      obtain ⟨q, hq, rfl⟩ := List.getElem_of_mem ht
      have hq2 : q < at' ∧ q < O.length := by simp at hq; omega
      have eq' : (O.take at')[q] = O.getD q (0, 1, 0) := by simp [hq2.2]
      rw [eq'] at *
      have hlastm : LtR (O.getD (at' - 1) (0, 1, 0)) m := by
        have hne2 : (O.getD (at' - 1) (0, 1, 0)).1 * m.2.1 ≠ m.1 * (O.getD (at' - 1) (0, 1, 0)).2.1 := fun e => by
          have := roots_one (h.isr _ hlast) hm e
          exact hn _ hlast (by rw [this]; exact ⟨rfl, rfl⟩)
        unfold LtR at *
        omega
      by_cases e : q = at' - 1
      · rw [e]; exact hlastm
      · have hr := List.pairwise_iff_getElem.1 h.rise q (at' - 1) hq2.2 (by omega) (by omega)
        have e1 : O[q] = O.getD q (0, 1, 0) := by simp [hq2.2]
        have e2 : O[at' - 1]'(by omega) = O.getD (at' - 1) (0, 1, 0) := by simp [show at' - 1 < O.length by omega]
        rw [e1, e2] at hr
        exact ltR_trans (rootsU_b1 (h.isr _ (show O.getD q (0, 1, 0) ∈ O by simp [hq2.2]))) (rootsU_b1 (h.isr _ hlast)) (rootsU_b1 hm) hr hlastm
  have hO : O = O.take at' ++ O.drop at' := (List.take_append_drop _ _).symm
  have hr := h.rise
  rw [hO] at hr
  have hr' := List.pairwise_append.1 hr
  refine ⟨?_, fun t ht => ?_, fun i k h1 h2 h3 h4 => ?_⟩
  · rw [List.pairwise_append]
    refine ⟨hr'.1, List.pairwise_cons.2 ⟨hu, hr'.2.1⟩, fun a ha b hb => ?_⟩
    rcases List.mem_cons.1 hb with rfl | hb
    · exact hlow a ha
    · exact hr'.2.2 a ha b hb
  · rcases List.mem_append.1 ht with ht | ht
    · exact h.isr t (List.mem_of_mem_take ht)
    · rcases List.mem_cons.1 ht with rfl | ht
      · exact hm
      · exact h.isr t (List.mem_of_mem_drop ht)
  · rcases hD i k h1 h2 h3 h4 with hd | hd
    · obtain ⟨t, ht, e⟩ := h.all i k h1 h2 hd h4
      refine ⟨t, ?_, e⟩
      rw [hO] at ht
      rcases List.mem_append.1 ht with ht | ht
      · exact List.mem_append.2 (.inl ht)
      · exact List.mem_append.2 (.inr (by simp [ht]))
    · exact ⟨m, by simp, hd.1.symm, hd.2.symm⟩

end Go.Proofs.Ytmkbijclbogjhaa
