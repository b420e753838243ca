import Derived.Test.YtkdileeahbaobaaDoorMt18
import Derived.Test.YtkdileeahbaobaaDoorMt9a
/- Greed by two sets' weights: when it misses. -/
namespace Go.Proofs.YtkdileeahbaobaaDoor
open Go.RowKit

/-- The sum of the first k. -/
def sumN (f : Nat → Int) : Nat → Int
  | 0 => 0
  | k + 1 => sumN f k + f k

theorem sumN_le {f g : Nat → Int} : ∀ k, (∀ i, i < k → f i ≤ g i) → sumN f k ≤ sumN g k
  | 0, _ => Int.le_refl _
  | k + 1, h => by
    simp only [sumN]
    have := sumN_le k (fun i hi => h i (by omega))
    have := h k (by omega)
    omega

theorem sumN_add (f g : Nat → Int) : ∀ k, sumN (fun i => f i + g i) k = sumN f k + sumN g k
  | 0 => rfl
  | k + 1 => by
    simp only [sumN]
    rw [sumN_add f g k]
    omega

theorem sumN_mul (c : Int) (f : Nat → Int) : ∀ k, sumN (fun i => c * f i) k = c * sumN f k
  | 0 => by simp [sumN]
  | k + 1 => by
    simp only [sumN]
    rw [sumN_mul c f k, Int.mul_add]

theorem sumN_congr {f g : Nat → Int} : ∀ k, (∀ i, i < k → f i = g i) → sumN f k = sumN g k
  | 0, _ => rfl
  | k + 1, h => by
    simp only [sumN]
    rw [sumN_congr k (fun i hi => h i (by omega)), h k (by omega)]

theorem sumN_zero : ∀ k, sumN (fun _ => 0) k = 0
  | 0 => rfl
  | k + 1 => by simp only [sumN]; rw [sumN_zero k]; rfl

/-- One thing alone. -/
theorem sumN_one (y : Nat) : ∀ k, y < k → sumN (fun i => if i = y then 1 else 0) k = 1
  | k + 1, h => by
    simp only [sumN]
    by_cases e : k = y
    · subst e
      rw [if_pos rfl, sumN_congr (g := fun _ => 0) k (fun i hi => by rw [if_neg (by omega)]), sumN_zero]
      rfl
    · rw [sumN_one y k (by omega), if_neg e]
      rfl

theorem sumN_eq {f g : Nat → Int} : ∀ k, (∀ i, i < k → f i ≤ g i) → sumN f k = sumN g k → ∀ i, i < k → f i = g i
  | k + 1, h, he, i, hi => by
    simp only [sumN] at he
    have h1 := sumN_le k (fun i hi => h i (by omega))
    have h2 := h k (by omega)
    by_cases e : i = k
    · subst e; omega
    · exact sumN_eq k (fun i hi => h i (by omega)) (by omega) i (by omega)

def inD (s i : Nat) : Int := if s.testBit i = true then 1 else 0

/-- How many. -/
def pcN (s : Nat) : Int := sumN (inD s) 8

theorem pc_memTo (s : Nat) : ∀ k, ((memTo s k).length : Int) = sumN (inD s) k
  | 0 => rfl
  | k + 1 => by
    simp only [sumN]
    rw [← pc_memTo s k, memTo_succ, List.length_append]
    unfold inD
    cases s.testBit k <;> simp

theorem pc_mem8 (s : Nat) : ((mem8 s).length : Int) = pcN s := pc_memTo s 8

/-- What a set weighs. -/
def wgh (ws : List Int) (s : Nat) : Int := sumN (fun i => if s.testBit i = true then ws.getD i 0 else 0) 8

theorem wgh_memTo (ws : List Int) (s : Nat) : ∀ k, ((memTo s k).map fun x : Int => ws.getD x.toNat 0).sum = sumN (fun i => if s.testBit i = true then ws.getD i 0 else 0) k
  | 0 => rfl
  | k + 1 => by
    simp only [sumN]
    rw [← wgh_memTo ws s k, memTo_succ, List.map_append, List.sum_append]
    cases s.testBit k <;> simp

theorem wgh_mem8 (ws : List Int) (s : Nat) : ((mem8 s).map fun x : Int => ws.getD x.toNat 0).sum = wgh ws s := wgh_memTo ws s 8

/-- One set is part of another. -/
def Sub (u v : Nat) : Prop := ∀ i, u.testBit i = true → v.testBit i = true

theorem sub_pc {u v : Nat} (hu : u < 256) (hv : v < 256) (h : Sub u v) (he : pcN u = pcN v) : u = v := Nat.eq_of_testBit_eq fun i => by
  by_cases hi : i < 8
  · have h1 := sumN_eq 8 (fun j _ => by
      show inD u j ≤ inD v j
      unfold inD
      have := h j
      cases hx : u.testBit j <;> cases hy : v.testBit j <;> simp_all) he i hi
    unfold inD at h1
    cases hx : u.testBit i <;> cases hy : v.testBit i <;> simp_all
  · have k1 : u.testBit i = false := Nat.testBit_lt_two_pow (Nat.lt_of_lt_of_le hu (Nat.pow_le_pow_right (n := 2) (by omega) (show 8 ≤ i by omega)))
    have k2 : v.testBit i = false := Nat.testBit_lt_two_pow (Nat.lt_of_lt_of_le hv (Nat.pow_le_pow_right (n := 2) (by omega) (show 8 ≤ i by omega)))
    rw [k1, k2]

theorem or_bit (s y i : Nat) : (s ||| 2 ^ y).testBit i = (s.testBit i || decide (y = i)) := by
  rw [Nat.testBit_or, Nat.testBit_two_pow]

theorem pc_or {s y : Nat} (hy : y < 8) (h : s.testBit y = false) : pcN (s ||| 2 ^ y) = pcN s + 1 := by
  unfold pcN
  rw [← sumN_one y 8 hy, ← sumN_add]
  refine sumN_congr 8 fun i _ => ?_
  unfold inD
  rw [or_bit]
  by_cases e : y = i
  · subst e; simp [h]
  · have e' : ¬ i = y := fun h => e h.symm
    simp [e, e']

theorem fr_iff {bs : List Int} (h8 : B8 bs) {s : Nat} : freeB bs s = true ↔ ∃ B : Nat, (B : Int) ∈ bs ∧ Sub s B := by
  have key : ∀ y : Nat, frB s (y : Int) = true ↔ Sub s y := fun y => by
    unfold frB
    rw [Int.toNat_natCast, beq_iff_eq]
    constructor
    · intro h i hi
      have h2 := congrArg (fun x => Nat.testBit x i) h
      simp only [outN_bit, Nat.zero_testBit, hi, Bool.true_and, Bool.not_eq_false'] at h2
      exact h2
    · intro h
      refine Nat.eq_of_testBit_eq fun i => ?_
      rw [outN_bit, Nat.zero_testBit]
      cases hx : s.testBit i
      · rfl
      · rw [h i hx]; rfl
  unfold freeB
  rw [List.any_eq_true]
  constructor
  · rintro ⟨x, hx, hf⟩
    obtain ⟨k1, k2⟩ := h8 x hx
    obtain ⟨y, rfl⟩ : ∃ y : Nat, x = (y : Int) := ⟨x.toNat, by omega⟩
    exact ⟨y, hx, (key y).1 hf⟩
  · rintro ⟨B, hB, hs⟩
    exact ⟨_, hB, (key B).2 hs⟩

/-- The weights by two sets. -/
def wg (a b i : Nat) : Int := if a.testBit i = true then (if b.testBit i = true then 1000 else 901) else if b.testBit i = true then 900 else 0

def wgL (n a b : Nat) : List Int := (List.range n).map (wg a b)

theorem wgL_len (n a b : Nat) : (wgL n a b).length = n := by simp [wgL]

theorem wgL_get {n a b : Nat} (ha : a < 2 ^ n) (hb : b < 2 ^ n) (i : Nat) : (wgL n a b).getD i 0 = wg a b i := by
  by_cases hi : i < n
  · simp [wgL, hi]
  · have k1 : a.testBit i = false := Nat.testBit_lt_two_pow (Nat.lt_of_lt_of_le ha (Nat.pow_le_pow_right (n := 2) (by omega) (by omega)))
    have k2 : b.testBit i = false := Nat.testBit_lt_two_pow (Nat.lt_of_lt_of_le hb (Nat.pow_le_pow_right (n := 2) (by omega) (by omega)))
    rw [List.getD_eq_getElem?_getD, List.getElem?_eq_none (by rw [wgL_len]; omega)]
    simp [wg, k1, k2]

theorem grT_up {bs ws l : List Int} {i : Nat} (k : Nat) (h : (grT bs ws l k).1.testBit i = true) : (grT bs ws l (k + 1)).1.testBit i = true := by
  simp only [grT]
  split
  · show Nat.testBit (_ ||| _) i = true
    rw [or_bit, h]; rfl
  · exact h

theorem grT_mono {bs ws l : List Int} {i k : Nat} (h : (grT bs ws l k).1.testBit i = true) : ∀ d, (grT bs ws l (k + d)).1.testBit i = true
  | 0 => h
  | d + 1 => grT_up (k + d) (grT_mono h d)

theorem grT_take {bs ws l : List Int} {k : Nat} (h : freeB bs ((grT bs ws l k).1 ||| 2 ^ (l.getD k 0).toNat) = true) : (grT bs ws l (k + 1)).1.testBit (l.getD k 0).toNat = true := by
  simp only [grT]
  rw [if_pos h]
  show Nat.testBit (_ ||| _) _ = true
  rw [or_bit]; simp

theorem grT_free {bs ws l : List Int} (h0 : freeB bs 0 = true) : ∀ k, freeB bs (grT bs ws l k).1 = true
  | 0 => h0
  | k + 1 => by
    simp only [grT]
    split
    · rename_i h; exact h
    · exact grT_free h0 k

/-- Something of b, but not of a, makes a whole. -/
def HasY (bs : List Int) (a b : Nat) : Prop := ∃ y : Nat, b.testBit y = true ∧ a.testBit y = false ∧ ((a ||| 2 ^ y : Nat) : Int) ∈ bs

structure Rad (bs : List Int) (n r a b : Nat) : Prop where
  n8 : n ≤ 8
  all : ∀ x ∈ bs, ∃ B : Nat, x = (B : Int) ∧ B < 2 ^ n ∧ pcN B = r
  b_in : (b : Int) ∈ bs
  a_sub : ∃ A : Nat, (A : Int) ∈ bs ∧ Sub a A
  a_lt : a < 2 ^ n
  a_pc : pcN a + 1 = r

variable {bs : List Int} {n r a b : Nat}

theorem Rad.b8 (h : Rad bs n r a b) : B8 bs := fun x hx => by
  obtain ⟨B, rfl, h1, _⟩ := h.all x hx
  have : 2 ^ n ≤ 2 ^ 8 := Nat.pow_le_pow_right (by omega) h.n8
  omega

theorem Rad.b_lt (h : Rad bs n r a b) : b < 2 ^ n := by
  obtain ⟨B, h1, h2, _⟩ := h.all _ h.b_in
  have : b = B := by omega
  rw [this]; exact h2

theorem Rad.le256 (h : Rad bs n r a b) {x : Nat} (hx : x < 2 ^ n) : x < 256 :=
  Nat.lt_of_lt_of_le hx (show 2 ^ n ≤ 2 ^ 8 from Nat.pow_le_pow_right (by omega) h.n8)

/-- What greed takes. -/
abbrev grS (bs : List Int) (n a b : Nat) : Nat := (grT bs (wgL n a b) (hvL (wgL n a b)) n).1

theorem Rad.pos (h : Rad bs n r a b) {i : Nat} (hi : i < n) : ∃ p, p < n ∧ (hvL (wgL n a b)).getD p 0 = (i : Int) ∧ ∀ j, (grT bs (wgL n a b) (hvL (wgL n a b)) p).1.testBit j = true → wg a b i ≤ wg a b j := by
  have hl := wgL_len n a b
  obtain ⟨p, hp, he⟩ := (hvL_srt (wgL n a b)).2 i (by rw [hl]; exact hi)
  rw [hl] at hp
  refine ⟨p, hp, he, fun j hj => ?_⟩
  obtain ⟨q, hq, hqe⟩ := (dn_iff (ws := wgL n a b) (k := p) (i := j) (by rw [hl]; omega)).1 (grT_dn p j (by rw [hl]; omega) hj)
  have := (hvL_srt (wgL n a b)).1 q p hq (by rw [hl]; exact hp)
  rw [he, hqe] at this
  unfold Bf at this
  simp only [Int.toNat_natCast, wgL_get h.a_lt h.b_lt] at this
  omega

theorem Rad.free0 (h : Rad bs n r a b) : freeB bs 0 = true := (fr_iff h.b8).2 ⟨b, h.b_in, fun i hi => by simp at hi⟩

theorem wg_a {i : Nat} : a.testBit i = true ↔ 901 ≤ wg a b i := by
  unfold wg
  cases a.testBit i <;> cases b.testBit i <;> simp

theorem wg_ab {i : Nat} : (a.testBit i = true ∨ b.testBit i = true) ↔ 900 ≤ wg a b i := by
  unfold wg
  cases a.testBit i <;> cases b.testBit i <;> simp

theorem Rad.a_in (h : Rad bs n r a b) {i : Nat} (hi : a.testBit i = true) : (grS bs n a b).testBit i = true := by
  have hin := bit_lt h.a_lt hi
  obtain ⟨p, hp, he, hs⟩ := h.pos hin
  obtain ⟨A, hA, hsub⟩ := h.a_sub
  have hf : freeB bs ((grT bs (wgL n a b) (hvL (wgL n a b)) p).1 ||| 2 ^ i) = true := (fr_iff h.b8).2 ⟨A, hA, fun j hj => by
    rw [or_bit, Bool.or_eq_true] at hj
    rcases hj with hj | hj
    · have h1 := hs j hj
      have h2 := wg_a (b := b).1 hi
      exact hsub j (wg_a (b := b).2 (by omega))
    · have : i = j := by simpa using hj
      subst this
      exact hsub i hi⟩
  have := grT_take (bs := bs) (ws := wgL n a b) (l := hvL (wgL n a b)) (k := p) (by rw [he, Int.toNat_natCast]; exact hf)
  rw [he, Int.toNat_natCast] at this
  have h3 := grT_mono this (n - (p + 1))
  rw [show p + 1 + (n - (p + 1)) = n by omega] at h3
  exact h3

theorem Rad.some_in (h : Rad bs n r a b) (hy : HasY bs a b) : ∃ y, b.testBit y = true ∧ a.testBit y = false ∧ (grS bs n a b).testBit y = true := by
  obtain ⟨y, hb, ha, hin⟩ := hy
  apply Classical.byContradiction
  intro hno
  have hyn := bit_lt h.b_lt hb
  obtain ⟨p, hp, he, hs⟩ := h.pos hyn
  have hf : freeB bs ((grT bs (wgL n a b) (hvL (wgL n a b)) p).1 ||| 2 ^ y) = true := (fr_iff h.b8).2 ⟨a ||| 2 ^ y, hin, fun j hj => by
    rw [or_bit, Bool.or_eq_true] at hj
    rw [or_bit, Bool.or_eq_true]
    rcases hj with hj | hj
    · left
      have h1 := hs j hj
      have h2 := wg_ab (a := a) (b := b) (i := y).1 (.inr hb)
      have h3 := grT_mono hj (n - p)
      rw [show p + (n - p) = n by omega] at h3
      rcases wg_ab (a := a) (b := b) (i := j).2 (by omega) with h4 | h4
      · exact h4
      · cases h5 : a.testBit j
        · exact absurd ⟨j, h4, h5, h3⟩ hno
        · rfl
    · exact .inr hj⟩
  have := grT_take (bs := bs) (ws := wgL n a b) (l := hvL (wgL n a b)) (k := p) (by rw [he, Int.toNat_natCast]; exact hf)
  rw [he, Int.toNat_natCast] at this
  have h3 := grT_mono this (n - (p + 1))
  rw [show p + 1 + (n - (p + 1)) = n by omega] at h3
  exact hno ⟨y, hb, ha, h3⟩

theorem Rad.has (h : Rad bs n r a b) {y : Nat} (hb : b.testBit y = true) (ha : a.testBit y = false) (hs : (grS bs n a b).testBit y = true) : HasY bs a b := by
  obtain ⟨B, hB, hsub⟩ := (fr_iff h.b8).1 (grT_free (ws := wgL n a b) (l := hvL (wgL n a b)) h.free0 n)
  refine ⟨y, hb, ha, ?_⟩
  have hyn := bit_lt h.b_lt hb
  have hn8 := h.n8
  obtain ⟨B', e1, e2, e3⟩ := h.all _ hB
  have : B = B' := by omega
  subst this
  have hs2 : Sub (a ||| 2 ^ y) B := fun j hj => by
    rw [or_bit, Bool.or_eq_true] at hj
    rcases hj with hj | hj
    · exact hsub j (h.a_in hj)
    · have : y = j := by simpa using hj
      subst this
      exact hsub y hs
  have hlt : a ||| 2 ^ y < 2 ^ n := Nat.or_lt_two_pow h.a_lt (Nat.pow_lt_pow_right (by omega) hyn)
  have := sub_pc (h.le256 hlt) (h.le256 e2) hs2 (by rw [pc_or (by omega) ha, e3]; exact h.a_pc)
  rw [this]
  exact hB

theorem wgh_eq (h : Rad bs n r a b) (s : Nat) : wgh (wgL n a b) s = sumN (fun i => if s.testBit i = true then wg a b i else 0) 8 :=
  sumN_congr 8 fun i _ => by rw [wgL_get h.a_lt h.b_lt]

def bothD (a b i : Nat) : Int := if a.testBit i = true ∧ b.testBit i = true then 1 else 0

theorem lin_sum (x y z : Int) (f g k : Nat → Int) : sumN (fun i => x * f i + y * g i + z * k i) 8 = x * sumN f 8 + y * sumN g 8 + z * sumN k 8 := by
  rw [sumN_add, sumN_add, sumN_mul, sumN_mul, sumN_mul]

/-- If something makes a whole, no basis weighs more. -/
theorem Rad.good (h : Rad bs n r a b) (hy : HasY bs a b) {B : Nat} (hB : (B : Int) ∈ bs) : wgh (wgL n a b) B ≤ wgh (wgL n a b) (grS bs n a b) := by
  obtain ⟨y, hb, ha, hs⟩ := h.some_in hy
  have hyn := bit_lt h.b_lt hb
  have hn8 := h.n8
  obtain ⟨B', e1, e2, e3⟩ := h.all _ hB
  have : B = B' := by omega
  subst this
  rw [wgh_eq h, wgh_eq h]
  have h1 : sumN (fun i => if B.testBit i = true then wg a b i else 0) 8 ≤ sumN (fun i => 900 * inD B i + 1 * inD a i + 99 * bothD a b i) 8 := sumN_le 8 fun i _ => by
    unfold wg inD bothD
    cases B.testBit i <;> cases a.testBit i <;> cases b.testBit i <;> simp
  have h2 : sumN (fun i => 901 * inD a i + 99 * bothD a b i + 900 * (if i = y then 1 else 0)) 8 ≤ sumN (fun i => if (grS bs n a b).testBit i = true then wg a b i else 0) 8 := sumN_le 8 fun i _ => by
    by_cases e : i = y
    · subst e
      rw [if_pos hs, if_pos rfl]
      unfold wg inD bothD
      simp [ha, hb]
    · rw [if_neg e]
      have h3 := h.a_in (i := i)
      unfold wg inD bothD
      cases hx : (grS bs n a b).testBit i <;> cases hy : a.testBit i <;> cases b.testBit i <;> simp_all
  rw [lin_sum] at h1 h2
  rw [sumN_one y 8 (by omega)] at h2
  have e4 : sumN (inD B) 8 = r := e3
  have e5 : sumN (inD a) 8 + 1 = r := h.a_pc
  omega

/-- If nothing does, b weighs more. -/
theorem Rad.bad (h : Rad bs n r a b) (hr : r ≤ 8) (hy : ¬ HasY bs a b) : wgh (wgL n a b) (grS bs n a b) < wgh (wgL n a b) b := by
  obtain ⟨B', e1, e2, e3⟩ := h.all _ h.b_in
  have : b = B' := by omega
  subst this
  rw [wgh_eq h, wgh_eq h]
  have h1 : sumN (fun i => if (grS bs n a b).testBit i = true then wg a b i else 0) 8 ≤ sumN (fun i => 901 * inD a i + 99 * bothD a b i + 0 * inD a i) 8 := sumN_le 8 fun i _ => by
    have h3 : b.testBit i = true → a.testBit i = false → ¬ (grS bs n a b).testBit i = true := fun k1 k2 k3 => hy (h.has k1 k2 k3)
    unfold wg inD bothD
    cases hx : (grS bs n a b).testBit i <;> cases hy : a.testBit i <;> cases hz : b.testBit i <;> simp_all
  have h2 : sumN (fun i => 900 * inD b i + 100 * bothD a b i + 0 * inD a i) 8 ≤ sumN (fun i => if b.testBit i = true then wg a b i else 0) 8 := sumN_le 8 fun i _ => by
    unfold wg inD bothD
    cases a.testBit i <;> cases b.testBit i <;> simp
  have h0 : (0 : Int) ≤ sumN (bothD a b) 8 := by
    rw [← sumN_zero 8]
    exact sumN_le 8 fun i _ => by unfold bothD; split <;> decide
  rw [lin_sum] at h1 h2
  have e4 : sumN (inD b) 8 = r := e3
  have e5 : sumN (inD a) 8 + 1 = r := h.a_pc
  omega

/-- What misses tells. -/
def missB (bs : List Int) (n a b : Nat) : Bool := bs.any fun B => decide (wgh (wgL n a b) (grS bs n a b) < wgh (wgL n a b) B.toNat)

theorem Rad.miss (h : Rad bs n r a b) (hr : r ≤ 8) : missB bs n a b = true ↔ ¬ HasY bs a b := by
  unfold missB
  rw [List.any_eq_true]
  constructor
  · rintro ⟨x, hx, hd⟩ hy
    obtain ⟨B, rfl, _⟩ := h.all x hx
    have := h.good hy hx
    rw [decide_eq_true_eq, Int.toNat_natCast] at hd
    omega
  · intro hy
    exact ⟨_, h.b_in, decide_eq_true (by rw [Int.toNat_natCast]; exact h.bad hr hy)⟩

end Go.Proofs.YtkdileeahbaobaaDoor

/- TopRado: that bases exchange, by what makes a whole; and what a set weighs. -/
namespace Go.Proofs.YtkdileeahbaobaaDoor
open Go.RowKit
attribute [local go_sem ↓] Go.wp_at_zero Go.wp_at_succ

theorem sub_num : ∀ A, A < 256 → ∀ x, x < 8 → A.testBit x = true → outN A (2 ^ x) + 2 ^ x = A := by decide +kernel

theorem out1_bit (A x i : Nat) : (outN A (2 ^ x)).testBit i = (A.testBit i && !decide (x = i)) := by
  rw [outN_bit, Nat.testBit_two_pow]

/-- For all bases and each thing of the first. -/
def AllY (bs : List Int) : Prop := ∀ A B x : Nat, (A : Int) ∈ bs → (B : Int) ∈ bs → A.testBit x = true → HasY bs (outN A (2 ^ x)) B

theorem out1_or {A x : Nat} (h : A.testBit x = true) : outN A (2 ^ x) ||| 2 ^ x = A := Nat.eq_of_testBit_eq fun i => by
  rw [or_bit, out1_bit]
  by_cases e : x = i
  · subst e; simp [h]
  · simp [e]

theorem exB_iff {bs : List Int} (h8 : B8 bs) : exB bs = true ↔ AllY bs := by
  have hn : ∀ z ∈ bs, ∃ y : Nat, z = (y : Int) ∧ y < 256 := fun z hz => by
    obtain ⟨h1, h2⟩ := h8 z hz
    exact ⟨z.toNat, by omega, by omega⟩
  have b8 : ∀ {A x : Nat}, (A : Int) ∈ bs → A.testBit x = true → x < 8 := fun {A x} hA hx => by
    obtain ⟨_, h2⟩ := h8 _ hA
    exact bit_lt (n := 8) (by omega) hx
  unfold exB
  rw [List.all_eq_true]
  constructor
  · intro h A B x hA hB hx
    by_cases hxB : B.testBit x = true
    · exact ⟨x, hxB, by rw [out1_bit]; simp, by rw [out1_or hx]; exact hA⟩
    · have h1 := List.all_eq_true.1 (h _ hA) _ hB
      unfold gvB at h1
      rw [Int.toNat_natCast, Int.toNat_natCast] at h1
      have h2 := List.all_eq_true.1 h1 (x : Int) (mem8_iff.2 ⟨x, b8 hA hx, by rw [outN_bit, hx]; simpa using hxB, rfl⟩)
      unfold stB at h2
      obtain ⟨z, hz, hc⟩ := List.any_eq_true.1 h2
      obtain ⟨y, hy8, hyb, rfl⟩ := mem8_iff.1 hz
      rw [outN_bit, Bool.and_eq_true, Bool.not_eq_true'] at hyb
      rw [Int.toNat_natCast, Int.toNat_natCast, List.contains_iff_mem] at hc
      exact ⟨y, hyb.1, by rw [out1_bit, hyb.2]; rfl, hc⟩
  · intro h z hz
    obtain ⟨A, rfl, _⟩ := hn z hz
    rw [List.all_eq_true]
    intro z2 hz2
    obtain ⟨B, rfl, _⟩ := hn z2 hz2
    unfold gvB
    rw [Int.toNat_natCast, Int.toNat_natCast, List.all_eq_true]
    intro t ht
    obtain ⟨x, hx8, hxb, rfl⟩ := mem8_iff.1 ht
    rw [outN_bit, Bool.and_eq_true, Bool.not_eq_true'] at hxb
    obtain ⟨y, k1, k2, k3⟩ := h A B x hz hz2 hxb.1
    have hne : ¬ x = y := fun e => by subst e; rw [hxb.2] at k1; cases k1
    have hyA : A.testBit y = false := by
      rw [out1_bit] at k2
      simpa [hne] using k2
    unfold stB
    rw [List.any_eq_true]
    refine ⟨(y : Int), mem8_iff.2 ⟨y, b8 hz2 k1, by rw [outN_bit, k1, hyA]; rfl, rfl⟩, ?_⟩
    rw [Int.toNat_natCast, Int.toNat_natCast, List.contains_iff_mem]
    exact k3

theorem bit_eq1 (s k : Nat) : (((s : Int) / 2 ^ k).tmod 2 == 1) = s.testBit k := by
  have eq0 : (s : Int) / 2 ^ k = ((s / 2 ^ k : Nat) : Int) := by simp
  rw [Nat.testBit_eq_decide_div_mod_eq, eq0]
  generalize s / 2 ^ k = q
  have e : (q : Int).tmod 2 = ((q % 2 : Nat) : Int) := by rw [Int.tmod_eq_emod_of_nonneg (by omega)]; omega
  rw [e, Bool.eq_iff_iff, beq_iff_eq, decide_eq_true_eq]
  omega

theorem bit_eq0 (s k : Nat) : (((s : Int) / 2 ^ k).tmod 2 == 0) = !s.testBit k := by
  have eq0 : (s : Int) / 2 ^ k = ((s / 2 ^ k : Nat) : Int) := by simp
  rw [Nat.testBit_eq_decide_div_mod_eq, eq0]
  generalize s / 2 ^ k = q
  have e : (q : Int).tmod 2 = ((q % 2 : Nat) : Int) := by rw [Int.tmod_eq_emod_of_nonneg (by omega)]; omega
  rw [e, Bool.eq_iff_iff, beq_iff_eq, Bool.not_eq_true', decide_eq_false_iff_not]
  omega

end Go.Proofs.YtkdileeahbaobaaDoor
