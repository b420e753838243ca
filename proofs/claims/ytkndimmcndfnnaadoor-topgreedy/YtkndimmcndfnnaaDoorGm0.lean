/- Free sets that grow make a matroid. -/
import Derived.Test.YtkndimmcndfnnaaDoorRd3
import Derived.Test.YtkndimmcndfnnaaDoorMs0
import Derived.Test.YtkndimmcndfnnaaDoorMtB
import Derived.Test.YtkndimmcndfnnaaDoorGp3
import Derived.Test.YtkndimmcndfnnaaDoorRd2
namespace Go.Proofs.YtkndimmcndfnnaaDoor
open Go.RowKit

theorem sz_or {s y : Nat} (hy : y < 8) (h : s.testBit y = false) : szN (s ||| 2 ^ y) = szN s + 1 := by
  have h1 := pc_or (s := s) hy h
  rw [← pc_mem8, ← pc_mem8] at h1
  unfold szN
  omega

theorem sz_out {s x : Nat} (hx : x < 8) (h : s.testBit x = true) : szN (outN s (2 ^ x)) + 1 = szN s := by
  have h1 := sz_or (s := outN s (2 ^ x)) hx (by rw [out1_bit]; simp)
  rw [out1_or h] at h1
  exact h1.symm

theorem lt_256 {n s : Nat} (hn : n ≤ 8) (h : s < 2 ^ n) : s < 256 := Nat.lt_of_lt_of_le h (show 2 ^ n ≤ 2 ^ 8 from Nat.pow_le_pow_right (by omega) hn)

theorem out_ltn {n s x : Nat} (h : s < 2 ^ n) : outN s (2 ^ x) < 2 ^ n := Nat.lt_of_le_of_lt (outN_le _ _) h

theorem or_ltn {n s y : Nat} (h : s < 2 ^ n) (hy : y < n) : s ||| 2 ^ y < 2 ^ n := Nat.or_lt_two_pow h (Nat.pow_lt_pow_right (by omega) hy)

/-- Free sets. -/
structure Grw (n : Nat) (F : Nat → Bool) : Prop where
  zero : F 0 = true
  less : ∀ s x, s < 2 ^ n → F s = true → s.testBit x = true → F (outN s (2 ^ x)) = true
  more : ∀ a b, a < 2 ^ n → b < 2 ^ n → F a = true → F b = true → szN a < szN b → ∃ y, b.testBit y = true ∧ a.testBit y = false ∧ F (a ||| 2 ^ y) = true

theorem mem_setsTo {F : Nat → Bool} {k : Nat} {z : Int} : z ∈ setsTo F k ↔ ∃ i : Nat, i < k ∧ F i = true ∧ z = (i : Int) := by
  unfold setsTo
  simp only [List.mem_map, List.mem_filter, List.mem_range]
  constructor
  · rintro ⟨i, ⟨h1, h2⟩, rfl⟩; exact ⟨i, h1, h2, rfl⟩
  · rintro ⟨i, h1, h2, rfl⟩; exact ⟨i, ⟨h1, h2⟩, rfl⟩

theorem setsTo_ris (F : Nat → Bool) (k : Nat) : Ris (setsTo F k) := by
  unfold setsTo Ris
  rw [List.pairwise_map]
  refine List.Pairwise.imp ?_ ((List.pairwise_lt_range (n := k)).filter F)
  intro a b h
  omega

theorem mxS_some (L : List Int) : ∀ k, 0 < k → ∃ i, i < k ∧ (mem8 (L.getD i 0).toNat).length = mxS L k
  | 0, h => by omega
  | k + 1, _ => by
    simp only [mxS]
    by_cases c : mxS L k ≤ (mem8 (L.getD k 0).toNat).length
    · exact ⟨k, by omega, by omega⟩
    · have hk : 0 < k := by
        rcases Nat.eq_zero_or_pos k with e | e
        · subst e; simp [mxS] at c
        · exact e
      obtain ⟨i, hi, e⟩ := mxS_some L k hk
      exact ⟨i, by omega, by omega⟩

theorem mxS_all (L : List Int) : ∀ k i, i < k → (mem8 (L.getD i 0).toNat).length ≤ mxS L k
  | 0, _, h => by omega
  | k + 1, i, h => by
    by_cases e : i = k
    · subst e; simp only [mxS]; omega
    · have := mxS_all L k i (by omega)
      simp only [mxS]; omega

theorem mem_greL {L : List Int} {z : Int} : z ∈ greL L ↔ z ∈ L ∧ (mem8 z.toNat).length = mxS L L.length := by
  unfold greL grF
  rw [List.take_length, List.mem_filter, beq_iff_eq]

theorem greL_ris {L : List Int} (h : Ris L) : Ris (greL L) := by
  unfold greL grF
  rw [List.take_length]
  exact List.Pairwise.filter _ h

/-- Sets of one size that exchange. -/
theorem one_mat {n q : Nat} {bs : List Int} (hn : n ≤ 8) (hne : 0 < bs.length) (hr : Ris bs) (hs : ∀ z ∈ bs, ∃ B : Nat, z = (B : Int) ∧ B < 2 ^ n ∧ szN B = q) (hy : AllY bs) : matE (n : Int) bs = 0 := by
  have h8 : B8 bs := fun z hz => by
    obtain ⟨B, rfl, h1, _⟩ := hs z hz
    have := lt_256 hn h1
    omega
  have hg : ∀ i, i < bs.length → ∃ B : Nat, bs.getD i 0 = (B : Int) ∧ B < 2 ^ n ∧ szN B = q := fun i hi => hs _ (by simp [hi])
  rw [matE_end hn hne fun i hi => step0.2 ?_, if_pos ((exB_iff h8).2 hy)]
  obtain ⟨B, e1, e2, e3⟩ := hg i hi
  obtain ⟨B0, f1, f2, f3⟩ := hg 0 hne
  refine ⟨by rw [e1]; omega, ?_, fun h0 => ris_get hr (by omega) hi, ?_⟩
  · rw [e1]
    have : ((2 ^ n : Nat) : Int) = (2 : Int) ^ n := by simp
    rw [← this]
    omega
  · unfold szI
    rw [e1, f1, Int.toNat_natCast, Int.toNat_natCast]
    exact e3.trans f3.symm

theorem Grw.mat {n : Nat} {F : Nat → Bool} (h : Grw n F) (hn : n ≤ 8) : matE (n : Int) (greL (setsTo F (2 ^ n))) = 0 := by
  obtain ⟨L, hL⟩ : ∃ L, L = setsTo F (2 ^ n) := ⟨_, rfl⟩
  rw [← hL]
  have hmem : ∀ z, z ∈ L ↔ ∃ i : Nat, i < 2 ^ n ∧ F i = true ∧ z = (i : Int) := fun z => by rw [hL]; exact mem_setsTo
  have h0 : (0 : Int) ∈ L := (hmem 0).2 ⟨0, Nat.two_pow_pos n, h.zero, rfl⟩
  have hl0 : 0 < L.length := List.length_pos_of_mem h0
  have hmax : ∀ s, s < 2 ^ n → F s = true → szN s ≤ mxS L L.length := fun s hs hF => by
    obtain ⟨i, hi, e⟩ := List.getElem_of_mem ((hmem (s : Int)).2 ⟨s, hs, hF, rfl⟩)
    have := mxS_all L L.length i hi
    rw [show L.getD i 0 = L[i] by simp [hi], e, Int.toNat_natCast] at this
    exact this
  have hb : ∀ B : Nat, (B : Int) ∈ greL L ↔ B < 2 ^ n ∧ F B = true ∧ szN B = mxS L L.length := fun B => by
    rw [mem_greL, hmem, Int.toNat_natCast]
    constructor
    · rintro ⟨⟨i, h1, h2, h3⟩, h4⟩
      have : B = i := by omega
      subst this
      exact ⟨h1, h2, h4⟩
    · rintro ⟨h1, h2, h3⟩
      exact ⟨⟨B, h1, h2, rfl⟩, h3⟩
  refine one_mat (q := mxS L L.length) hn ?_ (greL_ris (by rw [hL]; exact setsTo_ris F _)) (fun z hz => ?_) (fun A B x hA hB hx => ?_)
  · obtain ⟨i, hi, e⟩ := mxS_some L L.length hl0
    refine List.length_pos_of_mem (a := L.getD i 0) (mem_greL.2 ⟨by simp [hi], e⟩)
  · obtain ⟨⟨i, h1, h2, rfl⟩, h4⟩ := (by rw [mem_greL, hmem] at hz; exact hz : (∃ i : Nat, i < 2 ^ n ∧ F i = true ∧ z = (i : Int)) ∧ _)
    rw [Int.toNat_natCast] at h4
    exact ⟨i, rfl, h1, h4⟩
  · obtain ⟨a1, a2, a3⟩ := (hb A).1 hA
    obtain ⟨b1, b2, b3⟩ := (hb B).1 hB
    have hx8 : x < 8 := Nat.lt_of_lt_of_le (bit_lt a1 hx) hn
    have s1 := sz_out hx8 hx
    obtain ⟨y, y1, y2, y3⟩ := h.more (outN A (2 ^ x)) B (out_ltn a1) b1 (h.less A x a1 a2 hx) b2 (by omega)
    have hyn := bit_lt b1 y1
    exact ⟨y, y1, y2, (hb _).2 ⟨or_ltn (out_ltn a1) hyn, y3, by rw [sz_or (by omega) y2]; omega⟩⟩

/-- Of two sets the greater has a thing that the other has not. -/
theorem has_more {a b : Nat} (h : szN a < szN b) : ∃ y, b.testBit y = true ∧ a.testBit y = false := by
  refine Classical.byContradiction fun hn => ?_
  have : szN b ≤ szN a := szN_mono fun i hi => by
    cases e : a.testBit i with
    | true => rfl
    | false => exact absurd ⟨i, hi, e⟩ hn
  omega

theorem full_sz : ∀ k, k ≤ 8 → szN (2 ^ k - 1) = k := by decide +kernel

/-- All sets of one size. -/
theorem uni_mat {n k : Nat} (hn : n ≤ 8) (hk : k ≤ n) : matE (n : Int) (setsTo (fun s => szN s == k) (2 ^ n)) = 0 := by
  have hb : ∀ B : Nat, (B : Int) ∈ setsTo (fun s => szN s == k) (2 ^ n) ↔ B < 2 ^ n ∧ szN B = k := fun B => by
    rw [mem_setsTo]
    constructor
    · rintro ⟨i, h1, h2, h3⟩
      have : B = i := by omega
      subst this
      exact ⟨h1, by simpa using h2⟩
    · rintro ⟨h1, h2⟩
      exact ⟨B, h1, by simpa using h2, rfl⟩
  refine one_mat (q := k) hn ?_ (setsTo_ris _ _) (fun z hz => ?_) (fun A B x hA hB hx => ?_)
  · have h1 : 2 ^ k ≤ 2 ^ n := Nat.pow_le_pow_right (by omega) hk
    have h2 := Nat.two_pow_pos k
    exact List.length_pos_of_mem ((hb (2 ^ k - 1)).2 ⟨by omega, full_sz k (by omega)⟩)
  · obtain ⟨i, h1, h2, rfl⟩ := mem_setsTo.1 hz
    exact ⟨i, rfl, h1, by simpa using h2⟩
  · obtain ⟨a1, a2⟩ := (hb A).1 hA
    obtain ⟨b1, b2⟩ := (hb B).1 hB
    have hx8 : x < 8 := Nat.lt_of_lt_of_le (bit_lt a1 hx) hn
    have s1 := sz_out hx8 hx
    obtain ⟨y, y1, y2⟩ := has_more (a := outN A (2 ^ x)) (b := B) (by omega)
    have hyn := bit_lt b1 y1
    exact ⟨y, y1, y2, (hb _).2 ⟨or_ltn (out_ltn a1) hyn, by rw [sz_or (by omega) y2]; omega⟩⟩

end Go.Proofs.YtkndimmcndfnnaaDoor
