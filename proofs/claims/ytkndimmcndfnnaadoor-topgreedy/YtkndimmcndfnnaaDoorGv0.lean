/- Vectors modulo a prime, pure: sums of multiples that come to nothing. -/
import Derived.Test.YtkndimmcndfnnaaDoorChecked
namespace Go.Proofs.YtkndimmcndfnnaaDoor
open Go

/-- A sum of multiples of rows, at a place. -/
def lin : List Int → List (List Int) → Nat → Int
  | c :: cs, r :: m, k => c * r.getD k 0 + lin cs m k
  | [], _, _ => 0
  | _, [], _ => 0

/-- Modulo p nothing but nothing gives nothing, and there are inverses. -/
structure Prm (p : Int) : Prop where
  dom : ∀ a b : Int, p ∣ a * b → p ∣ a ∨ p ∣ b
  inv : ∀ a : Int, ¬ p ∣ a → ∃ b, p ∣ a * b - 1
  one : ¬ p ∣ 1

/-- Does a sum of multiples, not all nothing, come to nothing? -/
def Dpn (p : Int) (d : Nat) (m : List (List Int)) : Prop :=
  ∃ cs : List Int, cs.length = m.length ∧ (∃ c ∈ cs, ¬ p ∣ c) ∧ ∀ k, k < d → p ∣ lin cs m k

/-- One row is a multiple of another, and of r, and nothing at k. -/
def Clp (p : Int) (d k : Nat) (r x x' : List Int) : Prop :=
  (∃ a b, ¬ p ∣ a ∧ ∀ c, c < d → p ∣ x'.getD c 0 - (a * x.getD c 0 + b * r.getD c 0)) ∧ p ∣ x'.getD k 0

inductive Clr (p : Int) (d k : Nat) (r : List Int) : List (List Int) → List (List Int) → Prop
  | nil : Clr p d k r [] []
  | cons {x x' : List Int} {xs xs' : List (List Int)} : Clp p d k r x x' → Clr p d k r xs xs' → Clr p d k r (x :: xs) (x' :: xs')

theorem Clr.len {p : Int} {d k : Nat} {r : List Int} {xs xs' : List (List Int)} (h : Clr p d k r xs xs') : xs.length = xs'.length := by
  induction h with
  | nil => rfl
  | cons _ _ ih => simp [ih]

theorem Clr.snoc {p : Int} {d k : Nat} {r : List Int} {xs xs' : List (List Int)} {x x' : List Int} (h : Clr p d k r xs xs') (hx : Clp p d k r x x') : Clr p d k r (xs ++ [x]) (xs' ++ [x']) := by
  induction h with
  | nil => exact .cons hx .nil
  | cons h1 _ ih => exact .cons h1 ih

theorem clr_get {p : Int} {d k : Nat} {r : List Int} : ∀ (xs xs' : List (List Int)), xs.length = xs'.length → (∀ q, q < xs.length → Clp p d k r (xs.getD q []) (xs'.getD q [])) → Clr p d k r xs xs'
  | [], [], _, _ => .nil
  | [], _ :: _, h, _ => by simp at h
  | _ :: _, [], h, _ => by simp at h
  | x :: xs, x' :: xs', h, hq => .cons (hq 0 (by simp)) (clr_get xs xs' (by simpa using h) fun q hl => hq (q + 1) (by simpa using hl))

theorem Clr.back {p : Int} {d k : Nat} {r : List Int} (hp : Prm p) {xs xs' : List (List Int)} (h : Clr p d k r xs xs') : ∀ cs' : List Int, cs'.length = xs'.length → ∃ (cs : List Int) (S : Int), cs.length = xs.length ∧ (∀ c, c < d → p ∣ lin cs' xs' c - lin cs xs c - S * r.getD c 0) ∧ ((∀ c ∈ cs, p ∣ c) → ∀ c ∈ cs', p ∣ c) := by
  induction h with
  | nil =>
    intro cs' hl
    have : cs' = [] := List.eq_nil_of_length_eq_zero (by simpa using hl)
    subst this
    exact ⟨[], 0, rfl, fun c _ => by simp [lin], fun _ c hc => by simp at hc⟩
  | @cons x x' xs xs' h1 h2 ih =>
    intro cs' hl
    match cs', hl with
    | y :: t, hl =>
      obtain ⟨cs, S, e1, e2, e3⟩ := ih t (by simpa using hl)
      obtain ⟨⟨a, b, ha, hab⟩, _⟩ := h1
      refine ⟨y * a :: cs, S + y * b, by simp [e1], fun c hc => ?_, fun hall z hz => ?_⟩
      · have g1 := hab c hc
        have g2 := e2 c hc
        have e : lin (y :: t) (x' :: xs') c - lin (y * a :: cs) (x :: xs) c - (S + y * b) * r.getD c 0 = y * (x'.getD c 0 - (a * x.getD c 0 + b * r.getD c 0)) + (lin t xs' c - lin cs xs c - S * r.getD c 0) := by
          simp only [lin]; grind
        rw [e]
        exact Int.dvd_add (Int.dvd_mul_of_dvd_right g1) g2
      · rcases List.mem_cons.1 hz with rfl | hz
        · rcases hp.dom _ _ (hall (z * a) (by simp)) with h | h
          · exact h
          · exact absurd h ha
        · exact e3 (fun c hc => hall c (by simp [hc])) z hz

theorem Clr.forth {p : Int} {d k : Nat} {r : List Int} (hp : Prm p) {xs xs' : List (List Int)} (h : Clr p d k r xs xs') : ∀ cs : List Int, cs.length = xs.length → ∃ (cs' : List Int) (S : Int), cs'.length = xs'.length ∧ (∀ c, c < d → p ∣ lin cs' xs' c - lin cs xs c - S * r.getD c 0) ∧ ((∀ c ∈ cs', p ∣ c) → (∀ c ∈ cs, p ∣ c) ∧ p ∣ S) := by
  induction h with
  | nil =>
    intro cs hl
    have : cs = [] := List.eq_nil_of_length_eq_zero (by simpa using hl)
    subst this
    exact ⟨[], 0, rfl, fun c _ => by simp [lin], fun _ => ⟨fun c hc => by simp at hc, Int.dvd_zero _⟩⟩
  | @cons x x' xs xs' h1 h2 ih =>
    intro cs hl
    match cs, hl with
    | y :: t, hl =>
      obtain ⟨cs', S, e1, e2, e3⟩ := ih t (by simpa using hl)
      obtain ⟨⟨a, b, ha, hab⟩, _⟩ := h1
      obtain ⟨i, hi⟩ := hp.inv a ha
      refine ⟨y * i :: cs', S + y * i * b, by simp [e1], fun c hc => ?_, fun hall => ?_⟩
      · have g1 := hab c hc
        have g2 := e2 c hc
        have e : lin (y * i :: cs') (x' :: xs') c - lin (y :: t) (x :: xs) c - (S + y * i * b) * r.getD c 0 = y * i * (x'.getD c 0 - (a * x.getD c 0 + b * r.getD c 0)) + (y * x.getD c 0 * (a * i - 1) + (lin cs' xs' c - lin t xs c - S * r.getD c 0)) := by
          simp only [lin]; grind
        rw [e]
        exact Int.dvd_add (Int.dvd_mul_of_dvd_right g1) (Int.dvd_add (Int.dvd_mul_of_dvd_right hi) g2)
      · obtain ⟨f1, f2⟩ := e3 fun c hc => hall c (by simp [hc])
        have h0 : p ∣ y * i := hall (y * i) (by simp)
        have hy : p ∣ y := by
          have e : y = a * (y * i) - y * (a * i - 1) := by grind
          rw [e]
          exact Int.dvd_sub (Int.dvd_mul_of_dvd_right h0) (Int.dvd_mul_of_dvd_right hi)
        refine ⟨fun c hc => ?_, Int.dvd_add f2 (Int.dvd_mul_of_dvd_left h0)⟩
        rcases List.mem_cons.1 hc with rfl | hc
        · exact hy
        · exact f1 c hc

theorem Clr.col {p : Int} {d k : Nat} {r : List Int} {xs xs' : List (List Int)} (h : Clr p d k r xs xs') : ∀ cs' : List Int, p ∣ lin cs' xs' k := by
  induction h with
  | nil => intro cs'; cases cs' <;> simp [lin]
  | @cons x x' xs xs' h1 h2 ih =>
    intro cs'
    cases cs' with
    | nil => simp [lin]
    | cons y t => simp only [lin]; exact Int.dvd_add (Int.dvd_mul_of_dvd_right h1.2) (ih t)

theorem dpn_step {p : Int} {d k : Nat} {r : List Int} {xs xs' : List (List Int)} (hp : Prm p) (hk : k < d) (hr : ¬ p ∣ r.getD k 0) (h : Clr p d k r xs xs') : Dpn p d (r :: xs) ↔ Dpn p d xs' := by
  constructor
  · rintro ⟨cs, hl, hz, hs⟩
    match cs, hl with
    | c0 :: cs, hl =>
      obtain ⟨cs', S, e1, e2, e3⟩ := h.forth hp cs (by simpa using hl)
      have hS : p ∣ S - c0 := by
        have g1 := h.col cs'
        have g2 := e2 k hk
        have g3 := hs k hk
        simp only [lin] at g3
        have e : (S - c0) * r.getD k 0 = lin cs' xs' k - (lin cs' xs' k - lin cs xs k - S * r.getD k 0) - (c0 * r.getD k 0 + lin cs xs k) := by grind
        have : p ∣ (S - c0) * r.getD k 0 := by rw [e]; exact Int.dvd_sub (Int.dvd_sub g1 g2) g3
        rcases hp.dom _ _ this with h | h
        · exact h
        · exact absurd h hr
      refine ⟨cs', e1, ?_, fun c hc => ?_⟩
      · refine Classical.byContradiction fun hn => ?_
        have hall : ∀ c ∈ cs', p ∣ c := fun c hc => Classical.byContradiction fun h => hn ⟨c, hc, h⟩
        obtain ⟨f1, f2⟩ := e3 hall
        obtain ⟨z, hzm, hz0⟩ := hz
        rcases List.mem_cons.1 hzm with rfl | hzm
        · refine hz0 ?_
          have e : z = S - (S - z) := by omega
          rw [e]
          exact Int.dvd_sub f2 hS
        · exact hz0 (f1 z hzm)
      · have g2 := e2 c hc
        have g3 := hs c hc
        simp only [lin] at g3
        have e : lin cs' xs' c = (lin cs' xs' c - lin cs xs c - S * r.getD c 0) + ((c0 * r.getD c 0 + lin cs xs c) + (S - c0) * r.getD c 0) := by grind
        rw [e]
        exact Int.dvd_add g2 (Int.dvd_add g3 (Int.dvd_mul_of_dvd_left hS))
  · rintro ⟨cs', hl, ⟨z, hzm, hz0⟩, hs⟩
    obtain ⟨cs, S, e1, e2, e3⟩ := h.back hp cs' hl
    refine ⟨S :: cs, by simp [e1], ?_, fun c hc => ?_⟩
    · refine Classical.byContradiction fun hn => ?_
      refine hz0 (e3 (fun c hc => Classical.byContradiction fun h => hn ⟨c, by simp [hc], h⟩) z hzm)
    · have g2 := e2 c hc
      have g3 := hs c hc
      simp only [lin]
      have e : S * r.getD c 0 + lin cs xs c = lin cs' xs' c - (lin cs' xs' c - lin cs xs c - S * r.getD c 0) := by grind
      rw [e]
      exact Int.dvd_sub g3 g2

theorem lin_app : ∀ (c1 c2 : List Int) (l1 l2 : List (List Int)) (k : Nat), c1.length = l1.length → lin (c1 ++ c2) (l1 ++ l2) k = lin c1 l1 k + lin c2 l2 k
  | [], c2, [], l2, k, _ => by simp [lin]
  | [], _, _ :: _, _, _, h => by simp at h
  | _ :: _, _, [], _, _, h => by simp at h
  | c :: c1, c2, r :: l1, l2, k, h => by
    simp only [List.cons_append, lin]
    rw [lin_app c1 c2 l1 l2 k (by simpa using h)]
    omega

theorem cut_at {cs : List Int} {n m : Nat} (h : cs.length = n + (m + 1)) : ∃ c1 c c2, cs = c1 ++ c :: c2 ∧ c1.length = n ∧ c2.length = m := by
  have hd : (cs.drop n).length = m + 1 := by simp; omega
  match hc : cs.drop n, hd with
  | c :: c2, hd =>
    exact ⟨cs.take n, c, c2, by rw [← hc, List.take_append_drop], by simp; omega, by simpa using hd⟩

theorem dpn_first {p : Int} {d : Nat} {r : List Int} {l1 l2 : List (List Int)} : Dpn p d (l1 ++ r :: l2) ↔ Dpn p d (r :: (l1 ++ l2)) := by
  constructor
  · rintro ⟨cs, hl, ⟨z, hzm, hz0⟩, hs⟩
    obtain ⟨c1, c, c2, rfl, h1, h2⟩ := cut_at (n := l1.length) (m := l2.length) (by simpa using hl)
    refine ⟨c :: (c1 ++ c2), by simp [h1, h2], ⟨z, ?_, hz0⟩, fun k hk => ?_⟩
    · simp only [List.mem_append, List.mem_cons] at hzm ⊢
      rcases hzm with h | h | h
      · exact .inr (.inl h)
      · exact .inl h
      · exact .inr (.inr h)
    · have := hs k hk
      rw [lin_app _ _ _ _ _ h1] at this
      simp only [lin] at this ⊢
      rw [lin_app _ _ _ _ _ h1]
      rw [show c * r.getD k 0 + (lin c1 l1 k + lin c2 l2 k) = lin c1 l1 k + (c * r.getD k 0 + lin c2 l2 k) by omega]
      exact this
  · rintro ⟨cs, hl, ⟨z, hzm, hz0⟩, hs⟩
    match cs, hl with
    | c :: t, hl =>
      have ht : t.length = l1.length + l2.length := by simpa using hl
      have e : t = t.take l1.length ++ t.drop l1.length := (List.take_append_drop _ _).symm
      have h1 : (t.take l1.length).length = l1.length := by simp; omega
      have h2 : (t.drop l1.length).length = l2.length := by simp; omega
      generalize t.take l1.length = c1 at *
      generalize t.drop l1.length = c2 at *
      subst e
      refine ⟨c1 ++ c :: c2, by simp [h1, h2], ⟨z, ?_, hz0⟩, fun k hk => ?_⟩
      · simp only [List.mem_append, List.mem_cons] at hzm ⊢
        rcases hzm with h | h | h
        · exact .inr (.inl h)
        · exact .inl h
        · exact .inr (.inr h)
      · have := hs k hk
        simp only [lin] at this
        rw [lin_app _ _ _ _ _ h1] at this ⊢
        simp only [lin]
        rw [show lin c1 l1 k + (c * r.getD k 0 + lin c2 l2 k) = c * r.getD k 0 + (lin c1 l1 k + lin c2 l2 k) by omega]
        exact this

theorem lin_zero : ∀ (n : Nat) (m : List (List Int)) (k : Nat), lin (List.replicate n 0) m k = 0
  | 0, _, _ => by simp [lin]
  | n + 1, [], _ => by simp [List.replicate_succ, lin]
  | n + 1, r :: m, k => by
    rw [List.replicate_succ]
    simp only [lin]
    rw [lin_zero n m k]
    omega

theorem dpn_zero {p : Int} {d : Nat} {r : List Int} {xs : List (List Int)} (hp : Prm p) (h : ∀ k, k < d → p ∣ r.getD k 0) : Dpn p d (r :: xs) := by
  refine ⟨1 :: List.replicate xs.length 0, by simp, ⟨1, by simp, hp.one⟩, fun k hk => ?_⟩
  simp only [lin]
  rw [lin_zero]
  have := h k hk
  simpa using this

theorem dpn_nil {p : Int} {d : Nat} : ¬ Dpn p d [] := by
  rintro ⟨cs, hl, ⟨z, hz, _⟩, _⟩
  have : cs = [] := List.eq_nil_of_length_eq_zero (by simpa using hl)
  subst this
  simp at hz

theorem prm_of {p : Nat} (h1 : 1 < p) (hd : ∀ x, x < p → ∀ y, y < p → (x * y) % p = 0 → x = 0 ∨ y = 0) (hi : ∀ x, x < p → x ≠ 0 → ∃ y, y < p ∧ (x * y) % p = 1) : Prm (p : Int) := by
  have hnz : (p : Int) ≠ 0 := by omega
  have red : ∀ a : Int, ∃ x : Nat, x < p ∧ a % (p : Int) = (x : Int) := fun a => by
    have e1 := Int.emod_nonneg a hnz
    have e2 := Int.emod_lt_of_pos a (show (0 : Int) < p by omega)
    exact ⟨(a % (p : Int)).toNat, by omega, by omega⟩
  refine ⟨fun a b h => ?_, fun a ha => ?_, fun h => ?_⟩
  · obtain ⟨x, hx, ex⟩ := red a
    obtain ⟨y, hy, ey⟩ := red b
    have e := Int.emod_eq_zero_of_dvd h
    rw [Int.mul_emod, ex, ey] at e
    have e' : (x * y) % p = 0 := by exact_mod_cast e
    rcases hd x hx y hy e' with h | h
    · exact .inl (Int.dvd_of_emod_eq_zero (by rw [ex, h]; rfl))
    · exact .inr (Int.dvd_of_emod_eq_zero (by rw [ey, h]; rfl))
  · obtain ⟨x, hx, ex⟩ := red a
    have hx0 : x ≠ 0 := fun e => ha (Int.dvd_of_emod_eq_zero (by rw [ex, e]; rfl))
    obtain ⟨y, hy, exy⟩ := hi x hx hx0
    refine ⟨(y : Int), ?_⟩
    have e : (a * (y : Int)) % (p : Int) = 1 := by
      rw [Int.mul_emod, ex, Int.emod_eq_of_lt (show (0 : Int) ≤ y by omega) (show (y : Int) < p by omega)]
      exact_mod_cast exy
    have h2 := Int.mul_ediv_add_emod (a * (y : Int)) (p : Int)
    exact ⟨a * (y : Int) / (p : Int), by omega⟩
  · obtain ⟨c, hc⟩ := h
    have := Int.emod_eq_zero_of_dvd (show (p : Int) ∣ 1 from ⟨c, hc⟩)
    rw [Int.emod_eq_of_lt (by omega) (by omega)] at this
    omega

theorem prm4 {p : Nat} (h : p = 2 ∨ p = 3 ∨ p = 5 ∨ p = 7) : Prm (p : Int) := by
  rcases h with rfl | rfl | rfl | rfl
  all_goals exact prm_of (by decide) (by decide) (by decide)

/-- All rows but one, up to a place. -/
def oth (M : List (List Int)) (a : Nat) : Nat → List (List Int)
  | 0 => []
  | i + 1 => if i = a then oth M a i else oth M a i ++ [M.getD i []]

theorem oth_low (M : List (List Int)) (a : Nat) : ∀ i, i ≤ a → i ≤ M.length → oth M a i = M.take i
  | 0, _, _ => by simp [oth]
  | i + 1, h, hl => by
    simp only [oth]
    rw [if_neg (by omega), oth_low M a i (by omega) (by omega), List.take_succ_eq_append_getElem (by omega)]
    simp [show i < M.length by omega]

theorem oth_high (M : List (List Int)) (a : Nat) (ha : a < M.length) : ∀ j, a + 1 + j ≤ M.length → oth M a (a + 1 + j) = M.take a ++ (M.drop (a + 1)).take j
  | 0, _ => by
    simp only [oth, if_true, List.take_zero, List.append_nil]
    exact oth_low M a a (Nat.le_refl _) (by omega)
  | j + 1, h => by
    show oth M a ((a + 1 + j) + 1) = _
    simp only [oth]
    rw [if_neg (by omega), oth_high M a ha j (by omega), List.append_assoc]
    congr 1
    have hj : j < (M.drop (a + 1)).length := by simp; omega
    rw [List.take_succ_eq_append_getElem hj]
    simp [show a + 1 + j < M.length by omega]

theorem dpn_oth {p : Int} {d : Nat} {M : List (List Int)} {a : Nat} (ha : a < M.length) : Dpn p d M ↔ Dpn p d (M.getD a [] :: oth M a M.length) := by
  have e1 : M = M.take a ++ M.getD a [] :: M.drop (a + 1) := by
    have : M.getD a [] = M[a] := by simp [ha]
    rw [this, ← List.drop_eq_getElem_cons ha, List.take_append_drop]
  have e2 := oth_high M a ha (M.length - (a + 1)) (by omega)
  rw [show a + 1 + (M.length - (a + 1)) = M.length by omega, List.take_of_length_le (l := M.drop (a + 1)) (by simp)] at e2
  rw [e2]
  refine Iff.trans ?_ dpn_first
  rw [← e1]

/-- The answer. -/
noncomputable def dpB (p : Int) (d : Nat) (m : List (List Int)) : Bool := @decide (Dpn p d m) (Classical.propDecidable _)

theorem dpB_true {p : Int} {d : Nat} {m : List (List Int)} : dpB p d m = true ↔ Dpn p d m := by
  unfold dpB; exact @decide_eq_true_iff _ (Classical.propDecidable _)

theorem dpB_false {p : Int} {d : Nat} {m : List (List Int)} : dpB p d m = false ↔ ¬ Dpn p d m := by
  rw [← dpB_true]; simp

end Go.Proofs.YtkndimmcndfnnaaDoor
