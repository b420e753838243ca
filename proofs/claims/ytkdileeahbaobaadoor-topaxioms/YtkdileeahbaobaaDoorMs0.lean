/- Matroids, pure: rank, circuits, flats, what bases leave, and sets without a thing, as the program and as the document have them. -/
import Derived.Test.YtkdileeahbaobaaDoorMt8
import Derived.Test.YtkdileeahbaobaaDoorMt9a
import Derived.Test.YtkdileeahbaobaaDoorMtD
namespace Go.Proofs.YtkdileeahbaobaaDoor

/-- How many things a set below 256 has. -/
def szN (s : Nat) : Nat := (mem8 s).length

theorem szN_le (s : Nat) : szN s ≤ 8 := mem8_len s

theorem szN_mono {a b : Nat} (h : ∀ i, a.testBit i = true → b.testBit i = true) : szN a ≤ szN b := by
  unfold szN mem8 memTo
  rw [List.length_map, List.length_map, ← List.countP_eq_length_filter, ← List.countP_eq_length_filter]
  exact List.countP_mono_left fun i _ hi => h i hi

/-- The greatest number of things that a basis has of a set, of the first bases. -/
def rkTo (bs : List Int) (s : Nat) : Nat → Nat
  | 0 => 0
  | k + 1 => max (rkTo bs s k) (szN (s &&& (bs.getD k 0).toNat))

def rkN (bs : List Int) (s : Nat) : Nat := rkTo bs s bs.length

theorem rkTo_le8 (bs : List Int) (s : Nat) : ∀ k, rkTo bs s k ≤ 8
  | 0 => by simp [rkTo]
  | k + 1 => by
    have := rkTo_le8 bs s k
    have := szN_le (s &&& (bs.getD k 0).toNat)
    simp only [rkTo]; omega

theorem rkN_le8 (bs : List Int) (s : Nat) : rkN bs s ≤ 8 := rkTo_le8 bs s _

theorem rkTo_ge (bs : List Int) (s : Nat) : ∀ k i, i < k → szN (s &&& (bs.getD i 0).toNat) ≤ rkTo bs s k
  | 0, _, h => absurd h (by omega)
  | k + 1, i, h => by
    by_cases e : i = k
    · subst e; simp only [rkTo]; omega
    · have := rkTo_ge bs s k i (by omega)
      simp only [rkTo]; omega

theorem rkTo_some (bs : List Int) (s : Nat) : ∀ k, rkTo bs s k = 0 ∨ ∃ i, i < k ∧ rkTo bs s k = szN (s &&& (bs.getD i 0).toNat)
  | 0 => .inl rfl
  | k + 1 => by
    simp only [rkTo]
    rcases rkTo_some bs s k with h | ⟨i, hi, h⟩
    · rw [h]
      exact .inr ⟨k, by omega, by omega⟩
    · by_cases hc : rkTo bs s k ≤ szN (s &&& (bs.getD k 0).toNat)
      · exact .inr ⟨k, by omega, by omega⟩
      · exact .inr ⟨i, by omega, by omega⟩

theorem free_iff {bs : List Int} {s : Nat} : freeB bs s = true ↔ ∃ k, k < bs.length ∧ ∀ i, s.testBit i = true → (bs.getD k 0).toNat.testBit i = true := by
  unfold freeB
  rw [List.any_eq_true]
  have key : ∀ b : Int, frB s b = true ↔ ∀ i, s.testBit i = true → b.toNat.testBit i = true := fun b => by
    unfold frB
    rw [beq_iff_eq]
    constructor
    · intro h i hi
      have e := outN_bit s b.toNat i
      rw [h, hi] at e
      simpa using e
    · intro h
      refine Nat.eq_of_testBit_eq fun i => ?_
      rw [outN_bit]
      by_cases hi : s.testBit i = true
      · rw [hi, h i hi]; simp
      · simp [hi]
  constructor
  · rintro ⟨b, hb, h⟩
    obtain ⟨k, hk, rfl⟩ := List.getElem_of_mem hb
    exact ⟨k, hk, by rw [show bs.getD k 0 = bs[k] by simp [hk]]; exact (key _).1 h⟩
  · rintro ⟨k, hk, h⟩
    refine ⟨bs[k], List.getElem_mem _, (key _).2 ?_⟩
    rw [show bs.getD k 0 = bs[k] by simp [hk]] at h
    exact h

/-- The document's rank: of all parts, the first ones, that are free the greatest. -/
def rdTo (bs : List Int) (s : Nat) : Nat → Nat
  | 0 => 0
  | k + 1 => if ((k &&& s) == k) = true ∧ rdTo bs s k < szN k ∧ freeB bs k = true then szN k else rdTo bs s k

theorem rdTo_le8 (bs : List Int) (s : Nat) : ∀ k, rdTo bs s k ≤ 8
  | 0 => by simp [rdTo]
  | k + 1 => by
    simp only [rdTo]
    split
    · exact szN_le k
    · exact rdTo_le8 bs s k

theorem rdTo_le (bs : List Int) (s : Nat) : ∀ k, rdTo bs s k ≤ rkN bs s
  | 0 => by simp [rdTo]
  | k + 1 => by
    simp only [rdTo]
    split
    · rename_i h
      obtain ⟨h1, _, h3⟩ := h
      obtain ⟨j, hj, h4⟩ := free_iff.1 h3
      refine Nat.le_trans (szN_mono fun i hi => ?_) (rkTo_ge bs s bs.length j hj)
      rw [beq_iff_eq] at h1
      rw [Nat.testBit_and, h4 i hi, Bool.and_true]
      rw [← h1, Nat.testBit_and] at hi
      simp only [Bool.and_eq_true] at hi
      exact hi.2
    · exact rdTo_le bs s k

theorem rdTo_mono (bs : List Int) (s : Nat) : ∀ k m, k ≤ m → rdTo bs s k ≤ rdTo bs s m
  | k, 0, h => by
    have : k = 0 := by omega
    subst this; exact Nat.le_refl _
  | k, m + 1, h => by
    by_cases e : k = m + 1
    · subst e; exact Nat.le_refl _
    · have := rdTo_mono bs s k m (by omega)
      simp only [rdTo]
      split
      · omega
      · exact this

theorem rd_rk {bs : List Int} {s : Nat} : rdTo bs s (s + 1) = rkN bs s := by
  refine Nat.le_antisymm (rdTo_le _ _ _) ?_
  rcases rkTo_some bs s bs.length with h | ⟨j, hj, h⟩
  · unfold rkN; rw [h]; exact Nat.zero_le _
  · unfold rkN; rw [h]
    obtain ⟨t, ht⟩ : ∃ t, t = s &&& (bs.getD j 0).toNat := ⟨_, rfl⟩
    rw [← ht]
    have hts : t ≤ s := by rw [ht]; exact Nat.and_le_left
    refine Nat.le_trans ?_ (rdTo_mono bs s (t + 1) (s + 1) (by omega))
    simp only [rdTo]
    have h1 : (t &&& s) = t := by
      rw [ht]
      refine Nat.eq_of_testBit_eq fun i => ?_
      simp only [Nat.testBit_and]
      cases s.testBit i <;> cases (bs.getD j 0).toNat.testBit i <;> rfl
    have h2 : freeB bs t = true := free_iff.2 ⟨j, hj, fun i hi => by
      rw [ht, Nat.testBit_and] at hi
      simp only [Bool.and_eq_true] at hi
      exact hi.2⟩
    by_cases hlt : rdTo bs s t < szN t
    · rw [if_pos ⟨by rw [h1]; simp, hlt, h2⟩]; exact Nat.le_refl _
    · rw [if_neg (by omega)]; omega

/-- The sets of n things of which it is so, the first ones. -/
def setsTo (p : Nat → Bool) (k : Nat) : List Int := ((List.range k).filter p).map fun k : Nat => (k : Int)

theorem setsTo_succ (p : Nat → Bool) (k : Nat) : setsTo p (k + 1) = setsTo p k ++ (if p k = true then [(k : Int)] else []) := by
  unfold setsTo
  rw [List.range_succ, List.filter_append, List.map_append]
  by_cases h : p k = true <;> simp [h]

theorem setsTo_len (p : Nat → Bool) (k : Nat) : (setsTo p k).length ≤ k := by
  unfold setsTo
  rw [List.length_map]
  exact Nat.le_trans (List.length_filter_le _ _) (by simp)

theorem setsTo_congr {p q : Nat → Bool} {k : Nat} (h : ∀ i, i < k → p i = q i) : setsTo p k = setsTo q k := by
  unfold setsTo
  rw [List.filter_congr fun x hx => h x (by simpa using hx)]

/-- Sets that hang, and no lesser ones within them: as the program asks. -/
def circB (bs : List Int) (s : Nat) : Bool := !freeB bs s && !(mem8 s).any fun i => !freeB bs (outN s (2 ^ i.toNat))

/-- Sets to which nothing can be put: as the program asks. -/
def flatB (n : Nat) (bs : List Int) (s : Nat) : Bool := !(mem8 (outN (2 ^ n - 1) s)).any fun i => rkN bs (s ||| 2 ^ i.toNat) == rkN bs s

/-- As the document asks: of the first things. -/
def flatD (bs : List Int) (s : Nat) : Nat → Bool
  | 0 => true
  | i + 1 => if s.testBit i = false ∧ rkN bs (s + 2 ^ i) = rkN bs s then false else flatD bs s i

theorem or_add8 : ∀ s, s < 256 → ∀ i, i < 8 → s.testBit i = false → s + 2 ^ i = s ||| 2 ^ i := by decide +kernel

theorem out_sub8 : ∀ s, s < 256 → ∀ i, i < 8 → s.testBit i = true → s - 2 ^ i = outN s (2 ^ i) ∧ 2 ^ i ≤ s := by decide +kernel

theorem flatD_false (bs : List Int) (s : Nat) : ∀ n, flatD bs s n = false ↔ ∃ i, i < n ∧ s.testBit i = false ∧ rkN bs (s + 2 ^ i) = rkN bs s
  | 0 => by simp [flatD]
  | n + 1 => by
    simp only [flatD]
    split
    · rename_i h
      simp only [true_iff]
      exact ⟨n, by omega, h.1, h.2⟩
    · rename_i h
      rw [flatD_false bs s n]
      constructor
      · rintro ⟨i, h1, h2⟩; exact ⟨i, by omega, h2⟩
      · rintro ⟨i, h1, h2⟩
        by_cases e : i = n
        · subst e; exact absurd h2 h
        · exact ⟨i, by omega, h2⟩

theorem full_bit (n i : Nat) : (2 ^ n - 1).testBit i = decide (i < n) := Nat.testBit_two_pow_sub_one n i

theorem flat_eq {n : Nat} {bs : List Int} {s : Nat} (hn : n ≤ 8) (hs : s < 256) : flatB n bs s = flatD bs s n := by
  have key : flatB n bs s = false ↔ flatD bs s n = false := by
    rw [flatD_false]
    unfold flatB
    rw [Bool.not_eq_false', List.any_eq_true]
    constructor
    · rintro ⟨x, hx, h⟩
      obtain ⟨i, hi8, hib, rfl⟩ := mem8_iff.1 hx
      rw [outN_bit, full_bit] at hib
      simp only [Bool.and_eq_true, decide_eq_true_eq, Bool.not_eq_true'] at hib
      refine ⟨i, hib.1, hib.2, ?_⟩
      rw [or_add8 s hs i hi8 hib.2]
      simpa using h
    · rintro ⟨i, h1, h2, h3⟩
      refine ⟨(i : Int), mem8_iff.2 ⟨i, by omega, ?_, rfl⟩, ?_⟩
      · rw [outN_bit, full_bit, h2]; simp [h1]
      · rw [or_add8 s hs i (by omega) h2] at h3
        simpa using h3
  cases h1 : flatB n bs s <;> cases h2 : flatD bs s n <;> simp_all

/-- A set without a thing, the greater things one less. -/
def lesN (s i : Nat) : Nat := s % 2 ^ i + s / 2 ^ (i + 1) * 2 ^ i

theorem lesN_prog : ∀ s, s < 256 → ∀ i, i < 8 → ((s &&& (2 ^ i - 1)) ||| (outN (s >>> 1) (2 ^ i - 1))) = lesN s i := by decide +kernel

theorem lesN_lt {s i : Nat} (hs : s < 256) (hi : i < 8) : lesN s i < 256 := by
  unfold lesN
  rcases (show i = 0 ∨ i = 1 ∨ i = 2 ∨ i = 3 ∨ i = 4 ∨ i = 5 ∨ i = 6 ∨ i = 7 by omega) with rfl | rfl | rfl | rfl | rfl | rfl | rfl | rfl <;> simp only [Nat.reducePow, Nat.reduceAdd] <;> omega

theorem lesN_rise {a b i : Nat} (hi : i < 8) (hab : a < b) (h : a.testBit i = b.testBit i) : lesN a i < lesN b i := by
  rw [Nat.testBit_eq_decide_div_mod_eq, Nat.testBit_eq_decide_div_mod_eq] at h
  have h' : a / 2 ^ i % 2 = b / 2 ^ i % 2 := by
    have h1 : (a / 2 ^ i % 2 = 1) ↔ (b / 2 ^ i % 2 = 1) := by
      constructor <;> intro x <;> simpa [x] using h
    omega
  unfold lesN
  rcases (show i = 0 ∨ i = 1 ∨ i = 2 ∨ i = 3 ∨ i = 4 ∨ i = 5 ∨ i = 6 ∨ i = 7 by omega) with rfl | rfl | rfl | rfl | rfl | rfl | rfl | rfl <;> simp only [Nat.reducePow, Nat.reduceAdd] at h' ⊢ <;> omega

/-- The document's reckoning: of the first members. -/
def lesTo (i : Nat) : List Int → Nat
  | [] => 0
  | x :: l => (if x.toNat < i then 2 ^ x.toNat else if i < x.toNat then 2 ^ (x.toNat - 1) else 0) + lesTo i l

theorem lesTo_full : ∀ s, s < 256 → ∀ i, i < 8 → lesTo i (mem8 s) = lesN s i := by decide +kernel

theorem lesTo_snoc (i : Nat) : ∀ (l : List Int) (x : Int), lesTo i (l ++ [x]) = lesTo i l + (if x.toNat < i then 2 ^ x.toNat else if i < x.toNat then 2 ^ (x.toNat - 1) else 0)
  | [], x => by simp [lesTo]
  | y :: l, x => by
    have := lesTo_snoc i l x
    simp only [List.cons_append, lesTo, this]
    omega

theorem full_sub8 : ∀ n, n ≤ 8 → ∀ b, b < 2 ^ n → 2 ^ n - 1 - b = outN (2 ^ n - 1) b := by decide +kernel

end Go.Proofs.YtkdileeahbaobaaDoor
