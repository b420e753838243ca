/- Lists of numbers as sets: what they have in common, sides of simplices, bits. -/
import Derived.Test.YtkfdpcgmpbopnaaGreatDoorData
import Derived.Lib.TrailingZeros
import Derived.Laws.Bits64b
namespace Go.Proofs.YtkfdpcgmpbopnaaGreatDoor
open Go.RowKit

/-- What two lists have in common, in the first one's order. -/
def sharedL (a b : List Int) : List Int := a.filter (fun x => b.contains x)

def subB (a b : List Int) : Bool := a.all (fun x => b.contains x)

/-- All of a list but one. -/
def butL (l : List Int) (v : Int) : List Int := l.filter (fun x => x != v)

/-- The program's sides that are met. -/
def metL (l : List Int) (ahead : List (List Int)) : List (List Int) :=
  (l.map (butL l)).filter (fun s => ahead.any (subB s))

def meetB (l : List Int) (ahead met : List (List Int)) : Bool :=
  ahead.all (fun o => met.any (subB (sharedL l o)))

/-- The document's sides. -/
def sidesStep (l : List Int) (acc : List (List Int)) (o : List Int) : List (List Int) :=
  if (sharedL l o).length = l.length - 1 ∧ sharedL l o ∉ acc then acc ++ [sharedL l o] else acc

def sidesL (l : List Int) (ahead : List (List Int)) : List (List Int) := ahead.foldl (sidesStep l) []

def okB (l : List Int) (ahead sides : List (List Int)) : Bool :=
  ahead.all (fun o => sides.any (fun s => decide ((sharedL (sharedL l o) s).length = (sharedL l o).length)))

/-- Rising. -/
def Ris (l : List Int) : Prop := l.Pairwise (· < ·)

theorem Ris.nodup {l : List Int} (h : Ris l) : l.Nodup := h.imp (fun h => by omega)

theorem mem_sharedL {a b : List Int} {x : Int} : x ∈ sharedL a b ↔ x ∈ a ∧ x ∈ b := by
  simp [sharedL]

theorem subB_iff {a b : List Int} : subB a b = true ↔ ∀ x ∈ a, x ∈ b := by
  simp [subB]

theorem mem_butL {l : List Int} {v x : Int} : x ∈ butL l v ↔ x ∈ l ∧ x ≠ v := by
  simp [butL]

theorem filter_split {α : Type} (p : α → Bool) : ∀ l : List α, (l.filter p).length + (l.filter (fun x => !p x)).length = l.length
  | [] => rfl
  | a :: l => by
    have := filter_split p l
    cases h : p a <;> simp [h] <;> omega

theorem shared_len_iff (s t : List Int) : (sharedL s t).length = s.length ↔ subB s t = true := by
  have hs := filter_split (fun x => t.contains x) s
  unfold sharedL
  constructor
  · intro h
    have h0 : s.filter (fun x => !(t.contains x)) = [] := List.eq_nil_of_length_eq_zero (by omega)
    rw [List.filter_eq_nil_iff] at h0
    exact subB_iff.2 fun x hx => by simpa using h0 x hx
  · intro h
    have h0 : s.filter (fun x => !(t.contains x)) = [] := by
      rw [List.filter_eq_nil_iff]
      intro x hx
      simpa using subB_iff.1 h x hx
    rw [h0] at hs
    simpa using hs

theorem nodup_len {α : Type} [BEq α] [LawfulBEq α] : ∀ (l o : List α), l.Nodup → (∀ x ∈ l, x ∈ o) → l.length ≤ o.length
  | [], o, _, _ => Nat.zero_le _
  | a :: l, o, hn, hs => by
    have ha : a ∈ o := hs a (by simp)
    have hn' := List.nodup_cons.1 hn
    have := nodup_len l (o.erase a) hn'.2 (fun x hx => by
      have hxa : x ≠ a := fun e => hn'.1 (e ▸ hx)
      exact (List.mem_erase_of_ne hxa).2 (hs x (by simp [hx])))
    have hl := List.length_erase_of_mem ha
    have hp : 0 < o.length := List.length_pos_of_mem ha
    simp only [List.length_cons]
    omega

theorem sub_back {l o : List Int} (hn : l.Nodup) (hs : ∀ x ∈ l, x ∈ o) (hl : l.length = o.length) : ∀ x ∈ o, x ∈ l := by
  intro y hy
  refine Classical.byContradiction fun hyl => ?_
  have := nodup_len l (o.erase y) hn (fun x hx => (List.mem_erase_of_ne (fun (e : x = y) => hyl (e ▸ hx))).2 (hs x hx))
  have h1 := List.length_erase_of_mem hy
  have h2 : 0 < o.length := List.length_pos_of_mem hy
  omega

theorem ris_eq : ∀ (l o : List Int), Ris l → Ris o → (∀ x, x ∈ l ↔ x ∈ o) → l = o
  | [], [], _, _, _ => rfl
  | [], b :: o, _, _, h => absurd ((h b).2 (by simp)) (by simp)
  | a :: l, [], _, _, h => absurd ((h a).1 (by simp)) (by simp)
  | a :: l, b :: o, h1, h2, h => by
    obtain ⟨p1, p2⟩ := List.pairwise_cons.1 h1
    obtain ⟨q1, q2⟩ := List.pairwise_cons.1 h2
    have hab : a = b := by
      rcases List.mem_cons.1 ((h a).1 (by simp)) with e | e
      · exact e
      · rcases List.mem_cons.1 ((h b).2 (by simp)) with e' | e'
        · exact e'.symm
        · have := p1 _ e'; have := q1 _ e; omega
    subst hab
    rw [ris_eq l o p2 q2 (fun x => ?_)]
    constructor
    · intro hx
      rcases List.mem_cons.1 ((h x).1 (by simp [hx])) with e | e
      · have := p1 _ hx; omega
      · exact e
    · intro hx
      rcases List.mem_cons.1 ((h x).2 (by simp [hx])) with e | e
      · have := q1 _ hx; omega
      · exact e

theorem but_len {l : List Int} {v : Int} (hn : l.Nodup) (hv : v ∈ l) : (butL l v).length = l.length - 1 := by
  unfold butL
  have := List.Nodup.erase_eq_filter hn v
  rw [← this, List.length_erase_of_mem hv]

theorem shared_but {l o : List Int} {v : Int} (hl : Ris l) (ho : Ris o) (hlen : l.length = o.length) (hne : l ≠ o) (hv : v ∈ l) (hs : subB (butL l v) o = true) :
    sharedL l o = butL l v := by
  have hvo : v ∉ o := by
    intro hvo
    have hsub : ∀ x ∈ l, x ∈ o := by
      intro x hx
      by_cases e : x = v
      · subst e; exact hvo
      · exact subB_iff.1 hs x (mem_butL.2 ⟨hx, e⟩)
    have hb := sub_back hl.nodup hsub hlen
    exact hne (ris_eq l o hl ho (fun x => ⟨hsub x, hb x⟩))
  unfold sharedL butL
  apply List.filter_congr
  intro x hx
  by_cases e : x = v
  · subst e; simp [hvo]
  · have := subB_iff.1 hs x (mem_butL.2 ⟨hx, e⟩)
    simp [e, this]

theorem shared_one {l o : List Int} (_hn : l.Nodup) (hp : 0 < l.length) (h : (sharedL l o).length = l.length - 1) :
    ∃ v ∈ l, sharedL l o = butL l v := by
  have hs := filter_split (fun x => o.contains x) l
  have hlen : (l.filter (fun x => !(o.contains x))).length = 1 := by
    unfold sharedL at h
    omega
  obtain ⟨v, hv⟩ := List.length_eq_one_iff.1 hlen
  have hmem : ∀ x, x ∈ l ∧ x ∉ o ↔ x = v := by
    intro x
    have : x ∈ l.filter (fun x => !(o.contains x)) ↔ x ∈ [v] := by rw [hv]
    simpa using this
  refine ⟨v, ((hmem v).2 rfl).1, ?_⟩
  unfold sharedL butL
  apply List.filter_congr
  intro x hx
  by_cases e : x = v
  · have := ((hmem x).2 e).2
    simp [e, e ▸ this]
  · have : x ∈ o := Classical.byContradiction fun hx' => e ((hmem x).1 ⟨hx, hx'⟩)
    simp [e, this]

theorem mem_fold (l : List Int) : ∀ (ahead : List (List Int)) (acc : List (List Int)) (s : List Int),
    s ∈ ahead.foldl (sidesStep l) acc ↔ s ∈ acc ∨ ∃ o ∈ ahead, s = sharedL l o ∧ s.length = l.length - 1
  | [], acc, s => by simp
  | o :: ahead, acc, s => by
    rw [List.foldl_cons, mem_fold l ahead]
    unfold sidesStep
    split
    · rename_i h
      simp only [List.mem_append, List.mem_cons, exists_eq_or_imp, List.not_mem_nil, or_false]
      constructor
      · rintro ((h1 | h1) | h1)
        · exact Or.inl h1
        · exact Or.inr (Or.inl ⟨h1, h1 ▸ h.1⟩)
        · exact Or.inr (Or.inr h1)
      · rintro (h1 | ⟨h1, _⟩ | h1)
        · exact Or.inl (Or.inl h1)
        · exact Or.inl (Or.inr h1)
        · exact Or.inr h1
    · rename_i h
      simp only [List.mem_cons, exists_eq_or_imp]
      constructor
      · rintro (h1 | h1)
        · exact Or.inl h1
        · exact Or.inr (Or.inr h1)
      · rintro (h1 | ⟨h1, h2⟩ | h1)
        · exact Or.inl h1
        · refine Or.inl (Classical.byContradiction fun hx => h ⟨h1 ▸ h2, h1 ▸ hx⟩)
        · exact Or.inr h1

theorem nodup_fold (l : List Int) : ∀ (ahead : List (List Int)) (acc : List (List Int)), acc.Nodup → (ahead.foldl (sidesStep l) acc).Nodup
  | [], acc, h => h
  | o :: ahead, acc, h => by
    rw [List.foldl_cons]
    apply nodup_fold
    unfold sidesStep
    split
    · rename_i h'
      rw [List.nodup_append]
      refine ⟨h, by simp, ?_⟩
      intro a ha b hb e
      simp only [List.mem_singleton] at hb
      subst hb
      subst e
      exact h'.2 ha
    · exact h

theorem but_inj {l : List Int} {v u : Int} (hv : v ∈ l) (h : butL l v = butL l u) : v = u := by
  refine Classical.byContradiction fun hne => ?_
  have : v ∈ butL l u := mem_butL.2 ⟨hv, hne⟩
  rw [← h] at this
  exact (mem_butL.1 this).2 rfl

theorem nodup_buts (l : List Int) : ∀ k : List Int, k.Nodup → (∀ x ∈ k, x ∈ l) → (k.map (butL l)).Nodup
  | [], _, _ => by simp
  | a :: k, hn, hs => by
    obtain ⟨h1, h2⟩ := List.nodup_cons.1 hn
    rw [List.map_cons, List.nodup_cons]
    refine ⟨?_, nodup_buts l k h2 (fun x hx => hs x (by simp [hx]))⟩
    intro hm
    obtain ⟨u, hu, he⟩ := List.mem_map.1 hm
    have := but_inj (hs u (by simp [hu])) he
    subst this
    exact h1 hu

/-- The lists ahead: as long, rising, and others. -/
def Ahd (l : List Int) (ahead : List (List Int)) : Prop := ∀ o ∈ ahead, Ris o ∧ l.length = o.length ∧ l ≠ o

theorem met_sides {l : List Int} {ahead : List (List Int)} (hl : Ris l) (hp : 0 < l.length) (ha : Ahd l ahead) (s : List Int) :
    s ∈ metL l ahead ↔ s ∈ sidesL l ahead := by
  unfold sidesL
  rw [mem_fold]
  unfold metL
  rw [List.mem_filter]
  simp only [List.mem_map, List.any_eq_true, List.not_mem_nil, false_or]
  constructor
  · rintro ⟨⟨v, hv, rfl⟩, o, ho, hs⟩
    obtain ⟨h1, h2, h3⟩ := ha o ho
    have := shared_but hl h1 h2 h3 hv hs
    exact ⟨o, ho, this.symm, but_len hl.nodup hv⟩
  · rintro ⟨o, ho, rfl, hlen⟩
    obtain ⟨v, hv, he⟩ := shared_one hl.nodup hp hlen
    refine ⟨⟨v, hv, he.symm⟩, o, ho, ?_⟩
    exact subB_iff.2 (fun x hx => (mem_sharedL.1 hx).2)

theorem met_len {l : List Int} {ahead : List (List Int)} (hl : Ris l) (hp : 0 < l.length) (ha : Ahd l ahead) :
    (metL l ahead).length = (sidesL l ahead).length := by
  apply Nat.le_antisymm
  · exact nodup_len _ _ ((nodup_buts l l hl.nodup (fun _ h => h)).filter _) (fun x hx => (met_sides hl hp ha x).1 hx)
  · exact nodup_len _ _ (nodup_fold l ahead [] (by simp)) (fun x hx => (met_sides hl hp ha x).2 hx)

theorem met_ok {l : List Int} {ahead : List (List Int)} (hl : Ris l) (hp : 0 < l.length) (ha : Ahd l ahead) :
    meetB l ahead (metL l ahead) = okB l ahead (sidesL l ahead) := by
  unfold meetB okB
  congr 1
  funext o
  rw [Bool.eq_iff_iff, List.any_eq_true, List.any_eq_true]
  constructor
  · rintro ⟨s, hs, h⟩
    exact ⟨s, (met_sides hl hp ha s).1 hs, decide_eq_true ((shared_len_iff _ _).2 h)⟩
  · rintro ⟨s, hs, h⟩
    exact ⟨s, (met_sides hl hp ha s).2 hs, (shared_len_iff _ _).1 (of_decide_eq_true h)⟩

theorem met_le {l : List Int} (ahead : List (List Int)) : (metL l ahead).length ≤ l.length := by
  unfold metL
  exact Nat.le_trans (List.length_filter_le _ _) (by simp)



/-- A list of numbers as bits. -/
def setN : List Int → Nat
  | [] => 0
  | v :: l => 2 ^ v.toNat ||| setN l

/-- Numbers of 0 to 63. -/
def B64 (l : List Int) : Prop := ∀ x ∈ l, 0 ≤ x ∧ x ≤ 63

theorem B64.tail {v : Int} {l : List Int} (h : B64 (v :: l)) : B64 l := fun x hx => h x (by simp [hx])

theorem B64.filter {l : List Int} (h : B64 l) (p : Int → Bool) : B64 (l.filter p) := fun x hx => h x (List.mem_filter.1 hx).1

theorem setN_bit : ∀ (l : List Int) (i : Nat), B64 l → ((setN l).testBit i = true ↔ (i : Int) ∈ l)
  | [], i, _ => by simp [setN]
  | v :: l, i, h => by
    have hv := h v (by simp)
    rw [setN, Nat.testBit_or, Bool.or_eq_true, setN_bit l i h.tail, Nat.testBit_two_pow, decide_eq_true_iff, List.mem_cons]
    constructor
    · rintro (e | e)
      · exact Or.inl (by omega)
      · exact Or.inr e
    · rintro (e | e)
      · exact Or.inl (by omega)
      · exact Or.inr e

theorem setN_lt : ∀ (l : List Int), B64 l → setN l < 2 ^ 64
  | [], _ => by simp [setN]
  | v :: l, h => by
    have hv := h v (by simp)
    exact Nat.or_lt_two_pow (Nat.pow_lt_pow_right (by omega) (by omega)) (setN_lt l h.tail)

theorem setN_append : ∀ (a b : List Int), setN (a ++ b) = setN a ||| setN b
  | [], b => by simp [setN]
  | v :: a, b => by simp only [List.cons_append, setN]; rw [setN_append a b, Nat.or_assoc]

theorem setN_and (a b : List Int) (ha : B64 a) (hb : B64 b) : setN a &&& setN b = setN (sharedL a b) := by
  apply Nat.eq_of_testBit_eq
  intro i
  rw [Nat.testBit_and, Bool.eq_iff_iff, Bool.and_eq_true, setN_bit a i ha, setN_bit b i hb, setN_bit (sharedL a b) i (ha.filter _), mem_sharedL]

/-- What is in the one and not in the other. -/
def outN (a b : Nat) : Nat := a ^^^ (a &&& b)

theorem outN_bit (a b i : Nat) : (outN a b).testBit i = ((a.testBit i) && !(b.testBit i)) := by
  unfold outN
  rw [Nat.testBit_xor, Nat.testBit_and]
  cases a.testBit i <;> cases b.testBit i <;> rfl

theorem outN_lt (a b : Nat) (ha : a < 2 ^ 64) : outN a b < 2 ^ 64 := Nat.xor_lt_two_pow ha (Nat.lt_of_le_of_lt Nat.and_le_left ha)

theorem setN_but (l : List Int) (v : Int) (hl : B64 l) (hv : 0 ≤ v ∧ v ≤ 63) : outN (setN l) (setN [v]) = setN (butL l v) := by
  apply Nat.eq_of_testBit_eq
  intro i
  rw [outN_bit, Bool.eq_iff_iff, Bool.and_eq_true, Bool.not_eq_true', ← Bool.not_eq_true, setN_bit l i hl, setN_bit [v] i (by intro x hx; simp at hx; subst hx; exact hv), setN_bit (butL l v) i (hl.filter _), mem_butL]
  simp

theorem setN_in (a b : List Int) (ha : B64 a) (hb : B64 b) : outN (setN a) (setN b) = 0 ↔ subB a b = true := by
  rw [subB_iff]
  constructor
  · intro h x hx
    have hx' := ha x hx
    have h1 : (outN (setN a) (setN b)).testBit x.toNat = false := by rw [h]; simp
    rw [outN_bit] at h1
    have h2 : (setN a).testBit x.toNat = true := (setN_bit a _ ha).2 (by rw [Int.toNat_of_nonneg hx'.1]; exact hx)
    rw [h2] at h1
    have h3 : (setN b).testBit x.toNat = true := by simpa using h1
    have := (setN_bit b _ hb).1 h3
    rwa [Int.toNat_of_nonneg hx'.1] at this
  · intro h
    apply Nat.eq_of_testBit_eq
    intro i
    rw [outN_bit, Nat.zero_testBit]
    cases h1 : (setN a).testBit i
    · rfl
    · have := h _ ((setN_bit a i ha).1 h1)
      rw [(setN_bit b i hb).2 this]
      rfl

theorem setN_even : ∀ (l : List Int) (k : Nat), (∀ x ∈ l, (k : Int) ≤ x) → ∃ m, setN l = 2 ^ k * m
  | [], k, _ => ⟨0, rfl⟩
  | v :: l, k, h => by
    obtain ⟨m, hm⟩ := setN_even l k (fun x hx => h x (by simp [hx]))
    have hv := h v (by simp)
    refine ⟨2 ^ (v.toNat - k) ||| m, ?_⟩
    rw [setN, hm]
    have e : 2 ^ v.toNat = 2 ^ k * 2 ^ (v.toNat - k) := by rw [← Nat.pow_add]; congr 1; omega
    rw [e]
    apply Nat.eq_of_testBit_eq
    intro i
    rw [Nat.testBit_or, Nat.testBit_two_pow_mul, Nat.testBit_two_pow_mul, Nat.testBit_two_pow_mul, Nat.testBit_or]
    cases decide (i ≥ k) <;> rfl

/-- The least of a rising list, and the rest. -/
theorem setN_low {v : Int} {l : List Int} (h : Ris (v :: l)) (hb : B64 (v :: l)) : ∃ m, setN (v :: l) = 2 ^ v.toNat * (2 * m + 1) ∧ setN l = 2 ^ v.toNat * (2 * m) := by
  obtain ⟨h1, _⟩ := List.pairwise_cons.1 h
  have hv := hb v (by simp)
  obtain ⟨m, hm⟩ := setN_even l (v.toNat + 1) (fun x hx => by have := h1 x hx; omega)
  refine ⟨m, ?_, by rw [hm, Nat.pow_succ, Nat.mul_assoc]⟩
  rw [setN, hm, Nat.pow_succ, Nat.mul_assoc]
  have : 2 ^ v.toNat * (2 * m + 1) = 2 ^ v.toNat + 2 ^ v.toNat * (2 * m) := by rw [Nat.mul_add, Nat.mul_one, Nat.add_comm]
  rw [this]
  have h2 := Nat.two_pow_add_eq_or_of_lt (i := v.toNat) (b := 0) (Nat.two_pow_pos _) (2 * m)
  apply Nat.eq_of_testBit_eq
  intro i
  rw [Nat.testBit_or, Nat.testBit_two_pow, Nat.testBit_two_pow_mul, ← this, Nat.testBit_two_pow_mul]
  by_cases hi : v.toNat ≤ i
  · by_cases hi' : v.toNat = i
    · simp [hi', Nat.testBit_zero]
    · have h3 : (2 * m + 1).testBit (i - v.toNat) = (2 * m).testBit (i - v.toNat) := by
        obtain ⟨j, hj⟩ : ∃ j, i - v.toNat = j + 1 := ⟨i - v.toNat - 1, by omega⟩
        rw [hj, Nat.testBit_succ, Nat.testBit_succ]
        congr 1
        omega
      simp [hi, hi', h3]
  · simp [hi]; omega

theorem ctzFrom_low : ∀ (f k m : Nat), k < f → Lib.ctzFrom f (2 ^ k * (2 * m + 1)) = k
  | 0, k, m, h => by omega
  | f + 1, 0, m, _ => by
    rw [Lib.ctzFrom, if_pos (by omega)]
  | f + 1, k + 1, m, h => by
    have e : 2 ^ (k + 1) * (2 * m + 1) = 2 * (2 ^ k * (2 * m + 1)) := by rw [Nat.pow_succ, Nat.mul_comm (2 ^ k) 2, Nat.mul_assoc]
    rw [Lib.ctzFrom, e, if_neg (by omega), Nat.mul_div_cancel_left _ (by omega), ctzFrom_low f k m (by omega)]
    omega

theorem setN_ctz {v : Int} {l : List Int} (h : Ris (v :: l)) (hb : B64 (v :: l)) : ((Lib.ctz 64 (setN (v :: l)) : Nat) : Int) = v := by
  obtain ⟨m, hm, _⟩ := setN_low h hb
  have hv := hb v (by simp)
  have hp : 0 < 2 ^ v.toNat * (2 * m + 1) := Nat.mul_pos (Nat.two_pow_pos _) (by omega)
  rw [Lib.ctz, if_neg (by rw [hm]; omega), hm, ctzFrom_low _ _ _ (by omega)]
  omega

theorem setN_pos {v : Int} {l : List Int} (h : Ris (v :: l)) (hb : B64 (v :: l)) : 0 < setN (v :: l) := by
  obtain ⟨m, hm, _⟩ := setN_low h hb
  rw [hm]
  exact Nat.mul_pos (Nat.two_pow_pos _) (by omega)

theorem setN_rest {v : Int} {l : List Int} (h : Ris (v :: l)) (hb : B64 (v :: l)) : setN (v :: l) &&& (setN (v :: l) - 1) = setN l := by
  obtain ⟨m, hm, hl⟩ := setN_low h hb
  rw [hm, hl]
  have e : 2 ^ v.toNat * (2 * m + 1) - 1 = 2 ^ v.toNat * (2 * m) + (2 ^ v.toNat - 1) := by
    have := Nat.two_pow_pos v.toNat
    rw [Nat.mul_add, Nat.mul_one]; omega
  apply Nat.eq_of_testBit_eq
  intro i
  rw [Nat.testBit_and, e, Nat.testBit_two_pow_mul_add _ (by have := Nat.two_pow_pos v.toNat; omega), Nat.testBit_two_pow_mul, Nat.testBit_two_pow_mul]
  by_cases hi : v.toNat ≤ i
  · rw [if_neg (by omega)]
    by_cases hi' : i = v.toNat
    · simp [hi', Nat.testBit_zero]
    · have h3 : (2 * m + 1).testBit (i - v.toNat) = (2 * m).testBit (i - v.toNat) := by
        obtain ⟨j, hj⟩ : ∃ j, i - v.toNat = j + 1 := ⟨i - v.toNat - 1, by omega⟩
        rw [hj, Nat.testBit_succ, Nat.testBit_succ]
        congr 1
        omega
      rw [h3]
      simp [hi]
  · simp [hi]

theorem bits_andNot_u64_nat (a b : Nat) (ha : a < 18446744073709551616) (hb : b < 18446744073709551616) :
    bits .andNot .u64 (a : Int) (b : Int) = ((outN a b : Nat) : Int) := by
  have h1 : (BitVec.ofInt 64 (a : Int)).toNat = a := by
    rw [BitVec.ofInt_natCast, BitVec.toNat_ofNat]; exact Nat.mod_eq_of_lt (by omega)
  have h2 : (BitVec.ofInt 64 (b : Int)).toNat = b := by
    rw [BitVec.ofInt_natCast, BitVec.toNat_ofNat]; exact Nat.mod_eq_of_lt (by omega)
  show IntKind.u64.wrap ((BitVec.ofInt 64 (a : Int) &&& ~~~ BitVec.ofInt 64 (b : Int)).toNat : Int) = _
  have h3 : (BitVec.ofInt 64 (a : Int) &&& ~~~ BitVec.ofInt 64 (b : Int)).toNat = outN a b := by
    apply Nat.eq_of_testBit_eq
    intro i
    rw [outN_bit]
    by_cases hi : i < 64
    · rw [BitVec.toNat_and, Nat.testBit_and, h1]
      have : (~~~ BitVec.ofInt 64 (b : Int)).toNat.testBit i = !(b.testBit i) := by
        rw [BitVec.testBit_toNat, BitVec.getLsbD_not, ← BitVec.testBit_toNat, h2]
        simp [hi]
      rw [this]
    · have e1 : a.testBit i = false := Nat.testBit_lt_two_pow (Nat.lt_of_lt_of_le ha (Nat.le_trans (by decide : 18446744073709551616 ≤ 2 ^ 64) (Nat.pow_le_pow_right (by omega) (by omega))))
      rw [BitVec.toNat_and, Nat.testBit_and, h1, e1]
      rfl
  rw [h3, IntKind.wrap_u64]
  have := outN_lt a b (by simpa using ha)
  omega


end Go.Proofs.YtkfdpcgmpbopnaaGreatDoor
