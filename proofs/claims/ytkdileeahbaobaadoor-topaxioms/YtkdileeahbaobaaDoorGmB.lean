import Derived.Test.YtkdileeahbaobaaDoorRdA
import Derived.Test.YtkdileeahbaobaaDoorMs0
import Derived.Test.YtkdileeahbaobaaDoorMtB
import Derived.Test.YtkdileeahbaobaaDoorGp3
import Derived.Test.YtkdileeahbaobaaDoorRd2
import Derived.Test.YtkdileeahbaobaaDoorMtD
/- Free sets that grow make a matroid. -/
namespace Go.Proofs.YtkdileeahbaobaaDoor
open Go.RowKit

theorem sz_or {s y : Nat} (hy : y < 8) (h : s.testBit y = false) : szN (s ||| 2 ^ y) = szN s + 1 := by
  have h1 := pc_or (s := s) hy h
  rw [← pc_mem8, ← pc_mem8] at h1
  unfold szN
  omega

theorem sz_out {s x : Nat} (hx : x < 8) (h : s.testBit x = true) : szN (outN s (2 ^ x)) + 1 = szN s := by
  have h1 := sz_or (s := outN s (2 ^ x)) hx (by rw [out1_bit]; simp)
  rw [out1_or h] at h1
  exact h1.symm

theorem lt_256 {n s : Nat} (hn : n ≤ 8) (h : s < 2 ^ n) : s < 256 := Nat.lt_of_lt_of_le h (show 2 ^ n ≤ 2 ^ 8 from Nat.pow_le_pow_right (by omega) hn)

theorem out_ltn {n s x : Nat} (h : s < 2 ^ n) : outN s (2 ^ x) < 2 ^ n := Nat.lt_of_le_of_lt (outN_le _ _) h

theorem or_ltn {n s y : Nat} (h : s < 2 ^ n) (hy : y < n) : s ||| 2 ^ y < 2 ^ n := Nat.or_lt_two_pow h (Nat.pow_lt_pow_right (by omega) hy)

/-- Free sets. -/
structure Grw (n : Nat) (F : Nat → Bool) : Prop where
  zero : F 0 = true
  less : ∀ s x, s < 2 ^ n → F s = true → s.testBit x = true → F (outN s (2 ^ x)) = true
  more : ∀ a b, a < 2 ^ n → b < 2 ^ n → F a = true → F b = true → szN a < szN b → ∃ y, b.testBit y = true ∧ a.testBit y = false ∧ F (a ||| 2 ^ y) = true

theorem mem_setsTo {F : Nat → Bool} {k : Nat} {z : Int} : z ∈ setsTo F k ↔ ∃ i : Nat, i < k ∧ F i = true ∧ z = (i : Int) := by
  unfold setsTo
  simp only [List.mem_map, List.mem_filter, List.mem_range]
  constructor
  · rintro ⟨i, ⟨h1, h2⟩, rfl⟩; exact ⟨i, h1, h2, rfl⟩
  · rintro ⟨i, h1, h2, rfl⟩; exact ⟨i, ⟨h1, h2⟩, rfl⟩

theorem setsTo_ris (F : Nat → Bool) (k : Nat) : Ris (setsTo F k) := by
  unfold setsTo Ris
  rw [List.pairwise_map]
  refine List.Pairwise.imp ?_ ((List.pairwise_lt_range (n := k)).filter F)
  intro a b h
  omega

theorem mxS_some (L : List Int) : ∀ k, 0 < k → ∃ i, i < k ∧ (mem8 (L.getD i 0).toNat).length = mxS L k
  | 0, h => by omega
  | k + 1, _ => by
    simp only [mxS]
    by_cases c : mxS L k ≤ (mem8 (L.getD k 0).toNat).length
    · exact ⟨k, by omega, by omega⟩
    · have hk : 0 < k := by
        rcases Nat.eq_zero_or_pos k with e | e
        · subst e; simp [mxS] at c
        · exact e
      obtain ⟨i, hi, e⟩ := mxS_some L k hk
      exact ⟨i, by omega, by omega⟩

theorem mxS_all (L : List Int) : ∀ k i, i < k → (mem8 (L.getD i 0).toNat).length ≤ mxS L k
  | 0, _, h => by omega
  | k + 1, i, h => by
    by_cases e : i = k
    · subst e; simp only [mxS]; omega
    · have := mxS_all L k i (by omega)
      simp only [mxS]; omega

theorem mem_greL {L : List Int} {z : Int} : z ∈ greL L ↔ z ∈ L ∧ (mem8 z.toNat).length = mxS L L.length := by
  unfold greL grF
  rw [List.take_length, List.mem_filter, beq_iff_eq]

theorem greL_ris {L : List Int} (h : Ris L) : Ris (greL L) := by
  unfold greL grF
  rw [List.take_length]
  exact List.Pairwise.filter _ h

/-- Sets of one size that exchange. -/
theorem one_mat {n q : Nat} {bs : List Int} (hn : n ≤ 8) (hne : 0 < bs.length) (hr : Ris bs) (hs : ∀ z ∈ bs, ∃ B : Nat, z = (B : Int) ∧ B < 2 ^ n ∧ szN B = q) (hy : AllY bs) : matE (n : Int) bs = 0 := by
  have h8 : B8 bs := fun z hz => by
    obtain ⟨B, rfl, h1, _⟩ := hs z hz
    have := lt_256 hn h1
    omega
  have hg : ∀ i, i < bs.length → ∃ B : Nat, bs.getD i 0 = (B : Int) ∧ B < 2 ^ n ∧ szN B = q := fun i hi => hs _ (by simp [hi])
  rw [matE_end hn hne fun i hi => step0.2 ?_, if_pos ((exB_iff h8).2 hy)]
  obtain ⟨B, e1, e2, e3⟩ := hg i hi
  obtain ⟨B0, f1, f2, f3⟩ := hg 0 hne
  refine ⟨by rw [e1]; omega, ?_, fun h0 => ris_get hr (by omega) hi, ?_⟩
  · rw [e1]
    have : ((2 ^ n : Nat) : Int) = (2 : Int) ^ n := by simp
    rw [← this]
    omega
  · unfold szI
    rw [e1, f1, Int.toNat_natCast, Int.toNat_natCast]
    exact e3.trans f3.symm

theorem Grw.mat {n : Nat} {F : Nat → Bool} (h : Grw n F) (hn : n ≤ 8) : matE (n : Int) (greL (setsTo F (2 ^ n))) = 0 := by
  obtain ⟨L, hL⟩ : ∃ L, L = setsTo F (2 ^ n) := ⟨_, rfl⟩
  rw [← hL]
  have hmem : ∀ z, z ∈ L ↔ ∃ i : Nat, i < 2 ^ n ∧ F i = true ∧ z = (i : Int) := fun z => by rw [hL]; exact mem_setsTo
  have h0 : (0 : Int) ∈ L := (hmem 0).2 ⟨0, Nat.two_pow_pos n, h.zero, rfl⟩
  have hl0 : 0 < L.length := List.length_pos_of_mem h0
  have hmax : ∀ s, s < 2 ^ n → F s = true → szN s ≤ mxS L L.length := fun s hs hF => by
    obtain ⟨i, hi, e⟩ := List.getElem_of_mem ((hmem (s : Int)).2 ⟨s, hs, hF, rfl⟩)
    have := mxS_all L L.length i hi
    rw [show L.getD i 0 = L[i] by simp [hi], e, Int.toNat_natCast] at this
    exact this
  have hb : ∀ B : Nat, (B : Int) ∈ greL L ↔ B < 2 ^ n ∧ F B = true ∧ szN B = mxS L L.length := fun B => by
    rw [mem_greL, hmem, Int.toNat_natCast]
    constructor
    · rintro ⟨⟨i, h1, h2, h3⟩, h4⟩
      have : B = i := by omega
      subst this
      exact ⟨h1, h2, h4⟩
    · rintro ⟨h1, h2, h3⟩
      exact ⟨⟨B, h1, h2, rfl⟩, h3⟩
  refine one_mat (q := mxS L L.length) hn ?_ (greL_ris (by rw [hL]; exact setsTo_ris F _)) (fun z hz => ?_) (fun A B x hA hB hx => ?_)
  · obtain ⟨i, hi, e⟩ := mxS_some L L.length hl0
    refine List.length_pos_of_mem (a := L.getD i 0) (mem_greL.2 ⟨by simp [hi], e⟩)
  · obtain ⟨⟨i, h1, h2, rfl⟩, h4⟩ := (by rw [mem_greL, hmem] at hz; exact hz : (∃ i : Nat, i < 2 ^ n ∧ F i = true ∧ z = (i : Int)) ∧ _)
    rw [Int.toNat_natCast] at h4
    exact ⟨i, rfl, h1, h4⟩
  · obtain ⟨a1, a2, a3⟩ := (hb A).1 hA
    obtain ⟨b1, b2, b3⟩ := (hb B).1 hB
    have hx8 : x < 8 := Nat.lt_of_lt_of_le (bit_lt a1 hx) hn
    have s1 := sz_out hx8 hx
    obtain ⟨y, y1, y2, y3⟩ := h.more (outN A (2 ^ x)) B (out_ltn a1) b1 (h.less A x a1 a2 hx) b2 (by omega)
    have hyn := bit_lt b1 y1
    exact ⟨y, y1, y2, (hb _).2 ⟨or_ltn (out_ltn a1) hyn, y3, by rw [sz_or (by omega) y2]; omega⟩⟩

/-- Of two sets the greater has a thing that the other has not. -/
theorem has_more {a b : Nat} (h : szN a < szN b) : ∃ y, b.testBit y = true ∧ a.testBit y = false := by
  refine Classical.byContradiction fun hn => ?_
  have : szN b ≤ szN a := szN_mono fun i hi => by
    cases e : a.testBit i with
    | true => rfl
    | false => exact absurd ⟨i, hi, e⟩ hn
  omega

theorem full_sz : ∀ k, k ≤ 8 → szN (2 ^ k - 1) = k := by decide +kernel

/-- All sets of one size. -/
theorem uni_mat {n k : Nat} (hn : n ≤ 8) (hk : k ≤ n) : matE (n : Int) (setsTo (fun s => szN s == k) (2 ^ n)) = 0 := by
  have hb : ∀ B : Nat, (B : Int) ∈ setsTo (fun s => szN s == k) (2 ^ n) ↔ B < 2 ^ n ∧ szN B = k := fun B => by
    rw [mem_setsTo]
    constructor
    · rintro ⟨i, h1, h2, h3⟩
      have : B = i := by omega
      subst this
      exact ⟨h1, by simpa using h2⟩
    · rintro ⟨h1, h2⟩
      exact ⟨B, h1, by simpa using h2, rfl⟩
  refine one_mat (q := k) hn ?_ (setsTo_ris _ _) (fun z hz => ?_) (fun A B x hA hB hx => ?_)
  · have h1 : 2 ^ k ≤ 2 ^ n := Nat.pow_le_pow_right (by omega) hk
    have h2 := Nat.two_pow_pos k
    exact List.length_pos_of_mem ((hb (2 ^ k - 1)).2 ⟨by omega, full_sz k (by omega)⟩)
  · obtain ⟨i, h1, h2, rfl⟩ := mem_setsTo.1 hz
    exact ⟨i, rfl, h1, by simpa using h2⟩
  · obtain ⟨a1, a2⟩ := (hb A).1 hA
    obtain ⟨b1, b2⟩ := (hb B).1 hB
    have hx8 : x < 8 := Nat.lt_of_lt_of_le (bit_lt a1 hx) hn
    have s1 := sz_out hx8 hx
    obtain ⟨y, y1, y2⟩ := has_more (a := outN A (2 ^ x)) (b := B) (by omega)
    have hyn := bit_lt b1 y1
    exact ⟨y, y1, y2, (hb _).2 ⟨or_ltn (out_ltn a1) hyn, by rw [sz_or (by omega) y2]; omega⟩⟩

end Go.Proofs.YtkdileeahbaobaaDoor

/- What bases exchange gives: free sets grow; greed takes the best. -/
namespace Go.Proofs.YtkdileeahbaobaaDoor
open Go.RowKit

/-- A matroid by its bases. -/
structure Mto (n q : Nat) (bs : List Int) : Prop where
  n8 : n ≤ 8
  sz : ∀ z ∈ bs, ∃ B : Nat, z = (B : Int) ∧ B < 2 ^ n ∧ szN B = q
  ex : AllY bs
  ne : ∃ B : Nat, (B : Int) ∈ bs
  ris : Ris bs

theorem mat_mto {n : Nat} {bs : List Int} (h : matE (n : Int) bs = 0) : ∃ q, Mto n q bs := by
  obtain ⟨hb8, hN0, hN8⟩ := mat_b8 h
  have hn8 : n ≤ 8 := by omega
  have hl : 0 < bs.length := by
    rcases Nat.eq_zero_or_pos bs.length with h0 | h0
    · exfalso
      unfold matE at h
      rw [h0] at h
      simp at h
      omega
    · exact h0
  have hst : ∀ i, i < bs.length → stepE n bs i = 0 := by
    rw [matE_ok hn8 hl] at h
    by_cases hs : scanE (stepE n bs) bs.length ≠ 0
    · rw [if_pos hs] at h
      exact absurd h hs
    · intro i hi
      have hs0 : scanE (stepE n bs) bs.length = 0 := by omega
      rcases Classical.em (∃ k, k < bs.length ∧ stepE n bs k ≠ 0) with ⟨k, hk, hne⟩ | hno
      · exfalso
        have hex : ∃ k, k < bs.length ∧ stepE n bs k ≠ 0 ∧ ∀ i, i < k → stepE n bs i = 0 := by
          induction k using Nat.strongRecOn with
          | ind k ih =>
            rcases Classical.em (∃ j, j < k ∧ stepE n bs j ≠ 0) with ⟨j, hj, hj2⟩ | hn
            · exact ih j hj (by omega) hj2
            · exact ⟨k, hk, hne, fun i hi => Classical.byContradiction fun h => hn ⟨i, hi, h⟩⟩
        obtain ⟨k, hk, hne, hall⟩ := hex
        have := scan_hit (f := stepE n bs) hall hne hk
        rw [hs0] at this
        exact hne this.symm
      · exact Classical.byContradiction fun h => hno ⟨i, hi, h⟩
  have hex : exB bs = true := by
    rw [matE_end hn8 hl hst] at h
    by_cases c : exB bs = true
    · exact c
    · rw [if_neg c] at h; cases h
  have hsz : ∀ z ∈ bs, ∃ B : Nat, z = (B : Int) ∧ B < 2 ^ n ∧ szN B = szI (bs.getD 0 0) := fun z hz => by
    obtain ⟨k, hk, rfl⟩ := List.getElem_of_mem hz
    have h0 := step0.1 (hst k hk)
    have h1 := h0.lo
    have h2 := h0.hi
    have h3 := h0.sz
    rw [show bs.getD k 0 = bs[k] by simp [hk]] at h1 h2 h3
    refine ⟨bs[k].toNat, by omega, ?_, h3⟩
    have : ((2 ^ n : Nat) : Int) = (2 : Int) ^ n := by simp
    rw [← this] at h2
    omega
  refine ⟨szI (bs.getD 0 0), hn8, hsz, (exB_iff hb8).1 hex, ?_, st_ris hst⟩
  obtain ⟨B, e, _⟩ := hsz (bs.getD 0 0) (by simp [hl])
  exact ⟨B, by rw [← e]; simp [hl]⟩

theorem Mto.b8 {n q : Nat} {bs : List Int} (h : Mto n q bs) : B8 bs := fun z hz => by
  obtain ⟨B, rfl, h1, _⟩ := h.sz z hz
  have := lt_256 h.n8 h1
  omega

theorem Mto.bas {n q : Nat} {bs : List Int} (h : Mto n q bs) {B : Nat} (hB : (B : Int) ∈ bs) : B < 2 ^ n ∧ szN B = q := by
  obtain ⟨B', e, h1, h2⟩ := h.sz _ hB
  have : B = B' := by omega
  subst this
  exact ⟨h1, h2⟩

theorem Mto.free {n q : Nat} {bs : List Int} (h : Mto n q bs) {s : Nat} : freeB bs s = true ↔ ∃ B : Nat, (B : Int) ∈ bs ∧ Sub s B := fr_iff h.b8

/-- How many things of a set are outside of another. -/
theorem sz_split {a b : Nat} : szN (a &&& b) + szN (outN a b) = szN a := by
  unfold szN mem8 memTo
  simp only [List.length_map, ← List.countP_eq_length_filter]
  have : ∀ k, (List.range k).countP (fun i => (a &&& b).testBit i) + (List.range k).countP (fun i => (outN a b).testBit i) = (List.range k).countP (fun i => a.testBit i) := fun k => by
    induction k with
    | zero => rfl
    | succ k ih =>
      rw [List.range_succ, List.countP_append, List.countP_append, List.countP_append, List.countP_singleton, List.countP_singleton, List.countP_singleton, Nat.testBit_and, outN_bit]
      generalize (List.range k).countP (fun i => (a &&& b).testBit i) = x at *
      generalize (List.range k).countP (fun i => (outN a b).testBit i) = y at *
      generalize (List.range k).countP (fun i => a.testBit i) = z at *
      cases a.testBit k <;> cases b.testBit k <;> simp <;> omega
  exact this 8

/-- A basis about a, of a and of b alone. -/
theorem Mto.within {n q : Nat} {bs : List Int} (h : Mto n q bs) {a B2 : Nat} (hB2 : (B2 : Int) ∈ bs) : ∀ (m B1 : Nat), (B1 : Int) ∈ bs → Sub a B1 → szN (outN B1 (a ||| B2)) ≤ m → ∃ B : Nat, (B : Int) ∈ bs ∧ Sub a B ∧ Sub B (a ||| B2)
  | m, B1, hB1, ha, hm => by
    by_cases hin : Sub B1 (a ||| B2)
    · exact ⟨B1, hB1, ha, hin⟩
    · obtain ⟨x, hx1, hx2⟩ : ∃ x, B1.testBit x = true ∧ (a ||| B2).testBit x = false := by
        refine Classical.byContradiction fun hn => hin fun i hi => ?_
        cases e : (a ||| B2).testBit i with
        | true => rfl
        | false => exact absurd ⟨i, hi, e⟩ hn
      have hx8 : x < 8 := Nat.lt_of_lt_of_le (bit_lt (h.bas hB1).1 hx1) h.n8
      rw [Nat.testBit_or, Bool.or_eq_false_iff] at hx2
      obtain ⟨y, y1, y2, y3⟩ := h.ex B1 B2 x hB1 hB2 hx1
      have hox : (outN B1 (a ||| B2)).testBit x = true := by
        rw [outN_bit, hx1, Nat.testBit_or, hx2.1, hx2.2]; rfl
      have hs := sz_out hx8 hox
      have hle : szN (outN (outN B1 (2 ^ x) ||| 2 ^ y) (a ||| B2)) ≤ szN (outN (outN B1 (a ||| B2)) (2 ^ x)) := szN_mono fun i hi => by
        rw [outN_bit, or_bit, out1_bit, Nat.testBit_or] at hi
        rw [out1_bit, outN_bit, Nat.testBit_or]
        by_cases e : y = i
        · subst e
          rw [y1] at hi
          simp at hi
        · simp only [e, decide_false, Bool.or_false] at hi
          revert hi
          cases B1.testBit i <;> cases a.testBit i <;> cases B2.testBit i <;> simp
      match m, hm with
      | 0, hm => omega
      | m + 1, hm =>
        refine Mto.within h hB2 m (outN B1 (2 ^ x) ||| 2 ^ y) y3 (fun i hi => ?_) (by omega)
        rw [or_bit, out1_bit, ha i hi]
        by_cases e : x = i
        · subst e
          rw [hx2.1] at hi
          cases hi
        · simp [e]

/-- Free sets grow. -/
theorem Mto.grow {n q : Nat} {bs : List Int} (h : Mto n q bs) {a b : Nat} (ha : freeB bs a = true) (hb : freeB bs b = true) (hlt : szN a < szN b) : ∃ y, b.testBit y = true ∧ a.testBit y = false ∧ freeB bs (a ||| 2 ^ y) = true := by
  obtain ⟨B1, hB1, hs1⟩ := h.free.1 ha
  obtain ⟨B2, hB2, hs2⟩ := h.free.1 hb
  obtain ⟨B, hB, s1, s2⟩ := h.within (a := a) hB2 _ B1 hB1 hs1 (Nat.le_refl _)
  have q1 := (h.bas hB).2
  have q2 := (h.bas hB2).2
  have hy : ∃ y, B.testBit y = true ∧ a.testBit y = false ∧ b.testBit y = true := by
    refine Classical.byContradiction fun hn => ?_
    have h1 := sz_split (a := B) (b := a)
    have h2 := sz_split (a := B2) (b := b)
    have h3 : szN (B &&& a) ≤ szN a := szN_mono fun i hi => by rw [Nat.testBit_and] at hi; simp at hi; exact hi.2
    have h4 : szN b ≤ szN (B2 &&& b) := szN_mono fun i hi => by rw [Nat.testBit_and, hs2 i hi, hi]; rfl
    have h5 : szN (outN B a) ≤ szN (outN B2 b) := szN_mono fun i hi => by
      rw [outN_bit, Bool.and_eq_true, Bool.not_eq_true'] at hi
      have h6 := s2 i hi.1
      rw [Nat.testBit_or, hi.2, Bool.false_or] at h6
      rw [outN_bit, h6]
      cases e : b.testBit i with
      | false => rfl
      | true => exact absurd ⟨i, hi.1, hi.2, e⟩ hn
    omega
  obtain ⟨y, y1, y2, y3⟩ := hy
  refine ⟨y, y3, y2, h.free.2 ⟨B, hB, fun i hi => ?_⟩⟩
  rw [or_bit] at hi
  by_cases e : y = i
  · subst e; exact y1
  · simp only [e, decide_false, Bool.or_false] at hi
    exact s1 i hi

theorem Mto.sub {n q : Nat} {bs : List Int} (h : Mto n q bs) {a b : Nat} (hs : Sub a b) (hb : freeB bs b = true) : freeB bs a = true := by
  obtain ⟨B, hB, hs2⟩ := h.free.1 hb
  exact h.free.2 ⟨B, hB, fun i hi => hs2 i (hs i hi)⟩

theorem Mto.free0 {n q : Nat} {bs : List Int} (h : Mto n q bs) : freeB bs 0 = true := by
  obtain ⟨B, hB⟩ := h.ne
  exact h.free.2 ⟨B, hB, fun i hi => by simp at hi⟩

/-- Weights that fall, and never fewer taken: no less in all. -/
theorem abel {w g b : Nat → Int} (h0 : g 0 = b 0) : ∀ n, (∀ i, i < n → w (i + 1) ≤ w i) → (∀ k, k ≤ n + 1 → b k ≤ g k) → w n * (g (n + 1) - b (n + 1)) ≤ sumN (fun k => w k * (g (k + 1) - g k)) (n + 1) - sumN (fun k => w k * (b (k + 1) - b k)) (n + 1)
  | 0, _, _ => by
    simp only [sumN]
    rw [h0]
    have : w 0 * (g (0 + 1) - b (0 + 1)) = 0 + w 0 * (g (0 + 1) - b 0) - (0 + w 0 * (b (0 + 1) - b 0)) := by grind
    omega
  | n + 1, hw, hd => by
    have ih := abel h0 n (fun i hi => hw i (by omega)) (fun k hk => hd k (by omega))
    have h1 := hw n (by omega)
    have h2 := hd (n + 1) (by omega)
    have h3 : w (n + 1) * (g (n + 1) - b (n + 1)) ≤ w n * (g (n + 1) - b (n + 1)) := Int.mul_le_mul_of_nonneg_right h1 (by omega)
    have e1 : sumN (fun k => w k * (g (k + 1) - g k)) (n + 1 + 1) = sumN (fun k => w k * (g (k + 1) - g k)) (n + 1) + w (n + 1) * (g (n + 1 + 1) - g (n + 1)) := rfl
    have e2 : sumN (fun k => w k * (b (k + 1) - b k)) (n + 1 + 1) = sumN (fun k => w k * (b (k + 1) - b k)) (n + 1) + w (n + 1) * (b (n + 1 + 1) - b (n + 1)) := rfl
    rw [e1, e2]
    have e3 : w (n + 1) * (g (n + 1 + 1) - b (n + 1 + 1)) = w (n + 1) * (g (n + 1 + 1) - g (n + 1)) - w (n + 1) * (b (n + 1 + 1) - b (n + 1)) + w (n + 1) * (g (n + 1) - b (n + 1)) := by grind
    omega

end Go.Proofs.YtkdileeahbaobaaDoor
