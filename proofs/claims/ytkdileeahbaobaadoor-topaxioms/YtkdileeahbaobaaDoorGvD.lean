import Derived.Test.YtkdileeahbaobaaDoorChecked
import Derived.Test.YtkdileeahbaobaaDoorRefA
import Derived.Test.YtkdileeahbaobaaDoorMt9a
import Derived.Test.YtkdileeahbaobaaDoorTk1
import Derived.Test.YtkdileeahbaobaaDoorAp1
import Derived.Test.YtkdileeahbaobaaDoorStepsAll
import Derived.Test.YtkdileeahbaobaaDoorMade1
import Derived.Deep.OwnRows
/- Vectors modulo a prime, pure: sums of multiples that come to nothing. -/
namespace Go.Proofs.YtkdileeahbaobaaDoor
open Go

/-- A sum of multiples of rows, at a place. -/
def lin : List Int → List (List Int) → Nat → Int
  | c :: cs, r :: m, k => c * r.getD k 0 + lin cs m k
  | [], _, _ => 0
  | _, [], _ => 0

/-- Modulo p nothing but nothing gives nothing, and there are inverses. -/
structure Prm (p : Int) : Prop where
  dom : ∀ a b : Int, p ∣ a * b → p ∣ a ∨ p ∣ b
  inv : ∀ a : Int, ¬ p ∣ a → ∃ b, p ∣ a * b - 1
  one : ¬ p ∣ 1

/-- Does a sum of multiples, not all nothing, come to nothing? -/
def Dpn (p : Int) (d : Nat) (m : List (List Int)) : Prop :=
  ∃ cs : List Int, cs.length = m.length ∧ (∃ c ∈ cs, ¬ p ∣ c) ∧ ∀ k, k < d → p ∣ lin cs m k

/-- One row is a multiple of another, and of r, and nothing at k. -/
def Clp (p : Int) (d k : Nat) (r x x' : List Int) : Prop :=
  (∃ a b, ¬ p ∣ a ∧ ∀ c, c < d → p ∣ x'.getD c 0 - (a * x.getD c 0 + b * r.getD c 0)) ∧ p ∣ x'.getD k 0

inductive Clr (p : Int) (d k : Nat) (r : List Int) : List (List Int) → List (List Int) → Prop
  | nil : Clr p d k r [] []
  | cons {x x' : List Int} {xs xs' : List (List Int)} : Clp p d k r x x' → Clr p d k r xs xs' → Clr p d k r (x :: xs) (x' :: xs')

theorem Clr.len {p : Int} {d k : Nat} {r : List Int} {xs xs' : List (List Int)} (h : Clr p d k r xs xs') : xs.length = xs'.length := by
  induction h with
  | nil => rfl
  | cons _ _ ih => simp [ih]

theorem Clr.snoc {p : Int} {d k : Nat} {r : List Int} {xs xs' : List (List Int)} {x x' : List Int} (h : Clr p d k r xs xs') (hx : Clp p d k r x x') : Clr p d k r (xs ++ [x]) (xs' ++ [x']) := by
  induction h with
  | nil => exact .cons hx .nil
  | cons h1 _ ih => exact .cons h1 ih

theorem clr_get {p : Int} {d k : Nat} {r : List Int} : ∀ (xs xs' : List (List Int)), xs.length = xs'.length → (∀ q, q < xs.length → Clp p d k r (xs.getD q []) (xs'.getD q [])) → Clr p d k r xs xs'
  | [], [], _, _ => .nil
  | [], _ :: _, h, _ => by simp at h
  | _ :: _, [], h, _ => by simp at h
  | x :: xs, x' :: xs', h, hq => .cons (hq 0 (by simp)) (clr_get xs xs' (by simpa using h) fun q hl => hq (q + 1) (by simpa using hl))

theorem Clr.back {p : Int} {d k : Nat} {r : List Int} (hp : Prm p) {xs xs' : List (List Int)} (h : Clr p d k r xs xs') : ∀ cs' : List Int, cs'.length = xs'.length → ∃ (cs : List Int) (S : Int), cs.length = xs.length ∧ (∀ c, c < d → p ∣ lin cs' xs' c - lin cs xs c - S * r.getD c 0) ∧ ((∀ c ∈ cs, p ∣ c) → ∀ c ∈ cs', p ∣ c) := by
  induction h with
  | nil =>
    intro cs' hl
    have : cs' = [] := List.eq_nil_of_length_eq_zero (by simpa using hl)
    subst this
    exact ⟨[], 0, rfl, fun c _ => by simp [lin], fun _ c hc => by simp at hc⟩
  | @cons x x' xs xs' h1 h2 ih =>
    intro cs' hl
    match cs', hl with
    | y :: t, hl =>
      obtain ⟨cs, S, e1, e2, e3⟩ := ih t (by simpa using hl)
      obtain ⟨⟨a, b, ha, hab⟩, _⟩ := h1
      refine ⟨y * a :: cs, S + y * b, by simp [e1], fun c hc => ?_, fun hall z hz => ?_⟩
      · have g1 := hab c hc
        have g2 := e2 c hc
        have e : lin (y :: t) (x' :: xs') c - lin (y * a :: cs) (x :: xs) c - (S + y * b) * r.getD c 0 = y * (x'.getD c 0 - (a * x.getD c 0 + b * r.getD c 0)) + (lin t xs' c - lin cs xs c - S * r.getD c 0) := by
          simp only [lin]; grind
        rw [e]
        exact Int.dvd_add (Int.dvd_mul_of_dvd_right g1) g2
      · rcases List.mem_cons.1 hz with rfl | hz
        · rcases hp.dom _ _ (hall (z * a) (by simp)) with h | h
          · exact h
          · exact absurd h ha
        · exact e3 (fun c hc => hall c (by simp [hc])) z hz

theorem Clr.forth {p : Int} {d k : Nat} {r : List Int} (hp : Prm p) {xs xs' : List (List Int)} (h : Clr p d k r xs xs') : ∀ cs : List Int, cs.length = xs.length → ∃ (cs' : List Int) (S : Int), cs'.length = xs'.length ∧ (∀ c, c < d → p ∣ lin cs' xs' c - lin cs xs c - S * r.getD c 0) ∧ ((∀ c ∈ cs', p ∣ c) → (∀ c ∈ cs, p ∣ c) ∧ p ∣ S) := by
  induction h with
  | nil =>
    intro cs hl
    have : cs = [] := List.eq_nil_of_length_eq_zero (by simpa using hl)
    subst this
    exact ⟨[], 0, rfl, fun c _ => by simp [lin], fun _ => ⟨fun c hc => by simp at hc, Int.dvd_zero _⟩⟩
  | @cons x x' xs xs' h1 h2 ih =>
    intro cs hl
    match cs, hl with
    | y :: t, hl =>
      obtain ⟨cs', S, e1, e2, e3⟩ := ih t (by simpa using hl)
      obtain ⟨⟨a, b, ha, hab⟩, _⟩ := h1
      obtain ⟨i, hi⟩ := hp.inv a ha
      refine ⟨y * i :: cs', S + y * i * b, by simp [e1], fun c hc => ?_, fun hall => ?_⟩
      · have g1 := hab c hc
        have g2 := e2 c hc
        have e : lin (y * i :: cs') (x' :: xs') c - lin (y :: t) (x :: xs) c - (S + y * i * b) * r.getD c 0 = y * i * (x'.getD c 0 - (a * x.getD c 0 + b * r.getD c 0)) + (y * x.getD c 0 * (a * i - 1) + (lin cs' xs' c - lin t xs c - S * r.getD c 0)) := by
          simp only [lin]; grind
        rw [e]
        exact Int.dvd_add (Int.dvd_mul_of_dvd_right g1) (Int.dvd_add (Int.dvd_mul_of_dvd_right hi) g2)
      · obtain ⟨f1, f2⟩ := e3 fun c hc => hall c (by simp [hc])
        have h0 : p ∣ y * i := hall (y * i) (by simp)
        have hy : p ∣ y := by
          have e : y = a * (y * i) - y * (a * i - 1) := by grind
          rw [e]
          exact Int.dvd_sub (Int.dvd_mul_of_dvd_right h0) (Int.dvd_mul_of_dvd_right hi)
        refine ⟨fun c hc => ?_, Int.dvd_add f2 (Int.dvd_mul_of_dvd_left h0)⟩
        rcases List.mem_cons.1 hc with rfl | hc
        · exact hy
        · exact f1 c hc

theorem Clr.col {p : Int} {d k : Nat} {r : List Int} {xs xs' : List (List Int)} (h : Clr p d k r xs xs') : ∀ cs' : List Int, p ∣ lin cs' xs' k := by
  induction h with
  | nil => intro cs'; cases cs' <;> simp [lin]
  | @cons x x' xs xs' h1 h2 ih =>
    intro cs'
    cases cs' with
    | nil => simp [lin]
    | cons y t => simp only [lin]; exact Int.dvd_add (Int.dvd_mul_of_dvd_right h1.2) (ih t)

theorem dpn_step {p : Int} {d k : Nat} {r : List Int} {xs xs' : List (List Int)} (hp : Prm p) (hk : k < d) (hr : ¬ p ∣ r.getD k 0) (h : Clr p d k r xs xs') : Dpn p d (r :: xs) ↔ Dpn p d xs' := by
  constructor
  · rintro ⟨cs, hl, hz, hs⟩
    match cs, hl with
    | c0 :: cs, hl =>
      obtain ⟨cs', S, e1, e2, e3⟩ := h.forth hp cs (by simpa using hl)
      have hS : p ∣ S - c0 := by
        have g1 := h.col cs'
        have g2 := e2 k hk
        have g3 := hs k hk
        simp only [lin] at g3
        have e : (S - c0) * r.getD k 0 = lin cs' xs' k - (lin cs' xs' k - lin cs xs k - S * r.getD k 0) - (c0 * r.getD k 0 + lin cs xs k) := by grind
        have : p ∣ (S - c0) * r.getD k 0 := by rw [e]; exact Int.dvd_sub (Int.dvd_sub g1 g2) g3
        rcases hp.dom _ _ this with h | h
        · exact h
        · exact absurd h hr
      refine ⟨cs', e1, ?_, fun c hc => ?_⟩
      · refine Classical.byContradiction fun hn => ?_
        have hall : ∀ c ∈ cs', p ∣ c := fun c hc => Classical.byContradiction fun h => hn ⟨c, hc, h⟩
        obtain ⟨f1, f2⟩ := e3 hall
        obtain ⟨z, hzm, hz0⟩ := hz
        rcases List.mem_cons.1 hzm with rfl | hzm
        · refine hz0 ?_
          have e : z = S - (S - z) := by omega
          rw [e]
          exact Int.dvd_sub f2 hS
        · exact hz0 (f1 z hzm)
      · have g2 := e2 c hc
        have g3 := hs c hc
        simp only [lin] at g3
        have e : lin cs' xs' c = (lin cs' xs' c - lin cs xs c - S * r.getD c 0) + ((c0 * r.getD c 0 + lin cs xs c) + (S - c0) * r.getD c 0) := by grind
        rw [e]
        exact Int.dvd_add g2 (Int.dvd_add g3 (Int.dvd_mul_of_dvd_left hS))
  · rintro ⟨cs', hl, ⟨z, hzm, hz0⟩, hs⟩
    obtain ⟨cs, S, e1, e2, e3⟩ := h.back hp cs' hl
    refine ⟨S :: cs, by simp [e1], ?_, fun c hc => ?_⟩
    · refine Classical.byContradiction fun hn => ?_
      refine hz0 (e3 (fun c hc => Classical.byContradiction fun h => hn ⟨c, by simp [hc], h⟩) z hzm)
    · have g2 := e2 c hc
      have g3 := hs c hc
      simp only [lin]
      have e : S * r.getD c 0 + lin cs xs c = lin cs' xs' c - (lin cs' xs' c - lin cs xs c - S * r.getD c 0) := by grind
      rw [e]
      exact Int.dvd_sub g3 g2

theorem lin_app : ∀ (c1 c2 : List Int) (l1 l2 : List (List Int)) (k : Nat), c1.length = l1.length → lin (c1 ++ c2) (l1 ++ l2) k = lin c1 l1 k + lin c2 l2 k
  | [], c2, [], l2, k, _ => by simp [lin]
  | [], _, _ :: _, _, _, h => by simp at h
  | _ :: _, _, [], _, _, h => by simp at h
  | c :: c1, c2, r :: l1, l2, k, h => by
    simp only [List.cons_append, lin]
    rw [lin_app c1 c2 l1 l2 k (by simpa using h)]
    omega

theorem cut_at {cs : List Int} {n m : Nat} (h : cs.length = n + (m + 1)) : ∃ c1 c c2, cs = c1 ++ c :: c2 ∧ c1.length = n ∧ c2.length = m := by
  have hd : (cs.drop n).length = m + 1 := by simp; omega
  match hc : cs.drop n, hd with
  | c :: c2, hd =>
    exact ⟨cs.take n, c, c2, by rw [← hc, List.take_append_drop], by simp; omega, by simpa using hd⟩

theorem dpn_first {p : Int} {d : Nat} {r : List Int} {l1 l2 : List (List Int)} : Dpn p d (l1 ++ r :: l2) ↔ Dpn p d (r :: (l1 ++ l2)) := by
  constructor
  · rintro ⟨cs, hl, ⟨z, hzm, hz0⟩, hs⟩
    obtain ⟨c1, c, c2, rfl, h1, h2⟩ := cut_at (n := l1.length) (m := l2.length) (by simpa using hl)
    refine ⟨c :: (c1 ++ c2), by simp [h1, h2], ⟨z, ?_, hz0⟩, fun k hk => ?_⟩
    · simp only [List.mem_append, List.mem_cons] at hzm ⊢
      rcases hzm with h | h | h
      · exact .inr (.inl h)
      · exact .inl h
      · exact .inr (.inr h)
    · have := hs k hk
      rw [lin_app _ _ _ _ _ h1] at this
      simp only [lin] at this ⊢
      rw [lin_app _ _ _ _ _ h1]
      rw [show c * r.getD k 0 + (lin c1 l1 k + lin c2 l2 k) = lin c1 l1 k + (c * r.getD k 0 + lin c2 l2 k) by omega]
      exact this
  · rintro ⟨cs, hl, ⟨z, hzm, hz0⟩, hs⟩
    match cs, hl with
    | c :: t, hl =>
      have ht : t.length = l1.length + l2.length := by simpa using hl
      have e : t = t.take l1.length ++ t.drop l1.length := (List.take_append_drop _ _).symm
      have h1 : (t.take l1.length).length = l1.length := by simp; omega
      have h2 : (t.drop l1.length).length = l2.length := by simp; omega
      generalize t.take l1.length = c1 at *
      generalize t.drop l1.length = c2 at *
      subst e
      refine ⟨c1 ++ c :: c2, by simp [h1, h2], ⟨z, ?_, hz0⟩, fun k hk => ?_⟩
      · simp only [List.mem_append, List.mem_cons] at hzm ⊢
        rcases hzm with h | h | h
        · exact .inr (.inl h)
        · exact .inl h
        · exact .inr (.inr h)
      · have := hs k hk
        simp only [lin] at this
        rw [lin_app _ _ _ _ _ h1] at this ⊢
        simp only [lin]
        rw [show lin c1 l1 k + (c * r.getD k 0 + lin c2 l2 k) = c * r.getD k 0 + (lin c1 l1 k + lin c2 l2 k) by omega]
        exact this

theorem lin_zero : ∀ (n : Nat) (m : List (List Int)) (k : Nat), lin (List.replicate n 0) m k = 0
  | 0, _, _ => by simp [lin]
  | n + 1, [], _ => by simp [List.replicate_succ, lin]
  | n + 1, r :: m, k => by
    rw [List.replicate_succ]
    simp only [lin]
    rw [lin_zero n m k]
    omega

theorem dpn_zero {p : Int} {d : Nat} {r : List Int} {xs : List (List Int)} (hp : Prm p) (h : ∀ k, k < d → p ∣ r.getD k 0) : Dpn p d (r :: xs) := by
  refine ⟨1 :: List.replicate xs.length 0, by simp, ⟨1, by simp, hp.one⟩, fun k hk => ?_⟩
  simp only [lin]
  rw [lin_zero]
  have := h k hk
  simpa using this

theorem dpn_nil {p : Int} {d : Nat} : ¬ Dpn p d [] := by
  rintro ⟨cs, hl, ⟨z, hz, _⟩, _⟩
  have : cs = [] := List.eq_nil_of_length_eq_zero (by simpa using hl)
  subst this
  simp at hz

theorem prm_of {p : Nat} (h1 : 1 < p) (hd : ∀ x, x < p → ∀ y, y < p → (x * y) % p = 0 → x = 0 ∨ y = 0) (hi : ∀ x, x < p → x ≠ 0 → ∃ y, y < p ∧ (x * y) % p = 1) : Prm (p : Int) := by
  have hnz : (p : Int) ≠ 0 := by omega
  have red : ∀ a : Int, ∃ x : Nat, x < p ∧ a % (p : Int) = (x : Int) := fun a => by
    have e1 := Int.emod_nonneg a hnz
    have e2 := Int.emod_lt_of_pos a (show (0 : Int) < p by omega)
    exact ⟨(a % (p : Int)).toNat, by omega, by omega⟩
  refine ⟨fun a b h => ?_, fun a ha => ?_, fun h => ?_⟩
  · obtain ⟨x, hx, ex⟩ := red a
    obtain ⟨y, hy, ey⟩ := red b
    have e := Int.emod_eq_zero_of_dvd h
    rw [Int.mul_emod, ex, ey] at e
    have e' : (x * y) % p = 0 := by exact_mod_cast e
    rcases hd x hx y hy e' with h | h
    · exact .inl (Int.dvd_of_emod_eq_zero (by rw [ex, h]; rfl))
    · exact .inr (Int.dvd_of_emod_eq_zero (by rw [ey, h]; rfl))
  · obtain ⟨x, hx, ex⟩ := red a
    have hx0 : x ≠ 0 := fun e => ha (Int.dvd_of_emod_eq_zero (by rw [ex, e]; rfl))
    obtain ⟨y, hy, exy⟩ := hi x hx hx0
    refine ⟨(y : Int), ?_⟩
    have e : (a * (y : Int)) % (p : Int) = 1 := by
      rw [Int.mul_emod, ex, Int.emod_eq_of_lt (show (0 : Int) ≤ y by omega) (show (y : Int) < p by omega)]
      exact_mod_cast exy
    have h2 := Int.mul_ediv_add_emod (a * (y : Int)) (p : Int)
    exact ⟨a * (y : Int) / (p : Int), by omega⟩
  · obtain ⟨c, hc⟩ := h
    have := Int.emod_eq_zero_of_dvd (show (p : Int) ∣ 1 from ⟨c, hc⟩)
    rw [Int.emod_eq_of_lt (by omega) (by omega)] at this
    omega

theorem prm4 {p : Nat} (h : p = 2 ∨ p = 3 ∨ p = 5 ∨ p = 7) : Prm (p : Int) := by
  rcases h with rfl | rfl | rfl | rfl
  all_goals exact prm_of (by decide) (by decide) (by decide)

/-- All rows but one, up to a place. -/
def oth (M : List (List Int)) (a : Nat) : Nat → List (List Int)
  | 0 => []
  | i + 1 => if i = a then oth M a i else oth M a i ++ [M.getD i []]

theorem oth_low (M : List (List Int)) (a : Nat) : ∀ i, i ≤ a → i ≤ M.length → oth M a i = M.take i
  | 0, _, _ => by simp [oth]
  | i + 1, h, hl => by
    simp only [oth]
    rw [if_neg (by omega), oth_low M a i (by omega) (by omega), List.take_succ_eq_append_getElem (by omega)]
    simp [show i < M.length by omega]

theorem oth_high (M : List (List Int)) (a : Nat) (ha : a < M.length) : ∀ j, a + 1 + j ≤ M.length → oth M a (a + 1 + j) = M.take a ++ (M.drop (a + 1)).take j
  | 0, _ => by
    simp only [oth, if_true, List.take_zero, List.append_nil]
    exact oth_low M a a (Nat.le_refl _) (by omega)
  | j + 1, h => by
    show oth M a ((a + 1 + j) + 1) = _
    simp only [oth]
    rw [if_neg (by omega), oth_high M a ha j (by omega), List.append_assoc]
    congr 1
    have hj : j < (M.drop (a + 1)).length := by simp; omega
    rw [List.take_succ_eq_append_getElem hj]
    simp [show a + 1 + j < M.length by omega]

theorem dpn_oth {p : Int} {d : Nat} {M : List (List Int)} {a : Nat} (ha : a < M.length) : Dpn p d M ↔ Dpn p d (M.getD a [] :: oth M a M.length) := by
  have e1 : M = M.take a ++ M.getD a [] :: M.drop (a + 1) := by
    have : M.getD a [] = M[a] := by simp [ha]
    rw [this, ← List.drop_eq_getElem_cons ha, List.take_append_drop]
  have e2 := oth_high M a ha (M.length - (a + 1)) (by omega)
  rw [show a + 1 + (M.length - (a + 1)) = M.length by omega, List.take_of_length_le (l := M.drop (a + 1)) (by simp)] at e2
  rw [e2]
  refine Iff.trans ?_ dpn_first
  rw [← e1]

/-- The answer. -/
noncomputable def dpB (p : Int) (d : Nat) (m : List (List Int)) : Bool := @decide (Dpn p d m) (Classical.propDecidable _)

theorem dpB_true {p : Int} {d : Nat} {m : List (List Int)} : dpB p d m = true ↔ Dpn p d m := by
  unfold dpB; exact @decide_eq_true_iff _ (Classical.propDecidable _)

theorem dpB_false {p : Int} {d : Nat} {m : List (List Int)} : dpB p d m = false ↔ ¬ Dpn p d m := by
  rw [← dpB_true]; simp

end Go.Proofs.YtkdileeahbaobaaDoor

/- facetref.hangs: what it says. -/
namespace Go.Proofs.YtkdileeahbaobaaDoor
open Go.RowKit
attribute [local go_sem ↓] Go.wp_at_zero Go.wp_at_succ

theorem infoRow : (Tryd.prog.info? 22).map (fun i => (i.zero, i.size, i.bytes)) = some (some (.slice none 0 0), 1, 24) := by kernel_rfl

/-- Rows of d numbers below p. -/
def Rp (d p : Nat) (m : List (List Int)) : Prop := ∀ r ∈ m, r.length = d ∧ ∀ z ∈ r, 0 ≤ z ∧ z < (p : Int)

/-- How often r must be added to z till it is 0 modulo p. -/
def muP (p r z : Nat) : Nat := ((p - z) * r ^ (p - 2)) % p

theorem mu_falls {p r z : Nat} (hp : p = 2 ∨ p = 3 ∨ p = 5 ∨ p = 7) (hr : r < p) (hr0 : r ≠ 0) (hz : z < p) (hz0 : z ≠ 0) : muP p r ((z + r) % p) < muP p r z := by
  rcases hp with rfl | rfl | rfl | rfl
  · have : ∀ r, r < 2 → ∀ z, z < 2 → r ≠ 0 → z ≠ 0 → muP 2 r ((z + r) % 2) < muP 2 r z := by decide +kernel
    exact this r hr z hz hr0 hz0
  · have : ∀ r, r < 3 → ∀ z, z < 3 → r ≠ 0 → z ≠ 0 → muP 3 r ((z + r) % 3) < muP 3 r z := by decide +kernel
    exact this r hr z hz hr0 hz0
  · have : ∀ r, r < 5 → ∀ z, z < 5 → r ≠ 0 → z ≠ 0 → muP 5 r ((z + r) % 5) < muP 5 r z := by decide +kernel
    exact this r hr z hz hr0 hz0
  · have : ∀ r, r < 7 → ∀ z, z < 7 → r ≠ 0 → z ≠ 0 → muP 7 r ((z + r) % 7) < muP 7 r z := by decide +kernel
    exact this r hr z hz hr0 hz0

def muW (p r : Nat) : Option Value → Nat
  | some (.int _ z) => muP p r z.toNat
  | _ => 0

/-- A row to which another has been added some times. -/
def AddP (p : Int) (d : Nat) (X R xs : List Int) : Prop := ∃ t : Int, ∀ c, c < d → p ∣ xs.getD c 0 - (X.getD c 0 + t * R.getD c 0)

theorem addP_refl (p : Int) (d : Nat) (X R : List Int) : AddP p d X R X := ⟨0, fun c _ => by simp⟩

theorem addP_step {p : Int} {d : Nat} {X R xs ys : List Int} (h : AddP p d X R xs) (hy : ∀ c, c < d → ys.getD c 0 = (xs.getD c 0 + R.getD c 0) % p) : AddP p d X R ys := by
  obtain ⟨t, ht⟩ := h
  refine ⟨t + 1, fun c hc => ?_⟩
  have g1 := ht c hc
  have g2 := Int.mul_ediv_add_emod (xs.getD c 0 + R.getD c 0) p
  have e : ys.getD c 0 - (X.getD c 0 + (t + 1) * R.getD c 0) = (xs.getD c 0 - (X.getD c 0 + t * R.getD c 0)) - p * ((xs.getD c 0 + R.getD c 0) / p) := by
    rw [hy c hc]; grind
  rw [e]
  exact Int.dvd_sub g1 ⟨_, rfl⟩

theorem zero_of_dvd {p z : Int} (h : p ∣ z) (h0 : 0 ≤ z) (h1 : z < p) : z = 0 := by
  have e1 := Int.emod_eq_zero_of_dvd h
  rw [Int.emod_eq_of_lt h0 h1] at e1
  exact e1

/-- Rows that are nothing at the first places. -/
def Zc (k : Nat) (m : List (List Int)) : Prop := ∀ r ∈ m, ∀ j, j < k → r.getD j 0 = 0

theorem addP_zero {p : Int} {d k : Nat} {X R xs : List Int} (h : AddP p d X R xs) (hx : ∀ j, j < k → X.getD j 0 = 0) (hr : ∀ j, j < k → R.getD j 0 = 0) (hk : k ≤ d) (hl : xs.length = d) (hz : ∀ z ∈ xs, 0 ≤ z ∧ z < p) (hk0 : xs.getD k 0 = 0) : ∀ j, j < k + 1 → xs.getD j 0 = 0 := fun j hj => by
  by_cases e : j = k
  · rw [e]; exact hk0
  · obtain ⟨t, ht⟩ := h
    have g := ht j (by omega)
    rw [hx j (by omega), hr j (by omega)] at g
    have hb := hz (xs.getD j 0) (by simp [show j < xs.length by omega])
    exact zero_of_dvd (by simpa using g) hb.1 hb.2

theorem addP_clp {p : Int} {d k : Nat} {X R xs : List Int} (hp : Prm p) (h : AddP p d X R xs) (hk0 : xs.getD k 0 = 0) : Clp p d k R X xs := by
  obtain ⟨t, ht⟩ := h
  exact ⟨⟨1, t, hp.one, fun c hc => by rw [Int.one_mul]; exact ht c hc⟩, by rw [hk0]; exact Int.dvd_zero _⟩

set_option maxRecDepth 100000 in
set_option maxHeartbeats 1600000 in
theorem hangs_is (p d B : Nat) (hp : p = 2 ∨ p = 3 ∨ p = 5 ∨ p = 7) (hd1 : 1 ≤ d) (hd : d ≤ 8) (m : List (List Int)) (v : Value) (w : World) (hm : m.length ≤ 8) (hr : Rp d p m) (hf : Rws B 22 3 w v m) (hB : B ≤ w.heap.size) :
    Calls Tryd.prog 29 #[.int .i64 p, v] w fun e w' => e = .returned (.bool (dpB p d m)) ∧ Below w.heap.size w w' := by
  obtain ⟨i0, hi0, hz0, hz1, hz2⟩ := info_parts infoRow
  have HPM : Hid (Prm (p : Int)) := prm4 hp
  have hv := hf.mat hB
  obtain ⟨vs, g1, g2, g3⟩ := hf
  obtain ⟨vo, vc, hvv⟩ := owns_form g2
  subst hvv
  have hp5 : p ≤ 7 := by omega
  by_cases hl0 : m.length = 0
  · have t1 : ((m.length : Int) == 0) = true := by rw [hl0]; rfl
    have HDB : Hid (dpB p d m = false) := by
      show _ = _
      rw [List.eq_nil_of_length_eq_zero hl0]; exact dpB_false.2 dpn_nil
    generalize dpB p d m = db at *
    obtain ⟨q, hq⟩ : ∃ q, q = m.length := ⟨_, rfl⟩
    clear hv hr g1 g2 g3 hl0 hm
    rw [← hq] at t1 ⊢
    clear hq
    go_enter Tryd.func29, Tryd.ntmps29
    go_wp2
    go_ret
    exact ⟨by rw [HDB.out]; rfl, Below.refl _ _⟩
  have t1 : ((m.length : Int) == 0) = false := by rw [beq_eq_false_iff_ne]; omega
  obtain ⟨vb, vq, vc', r1, hvv, hlc, -, -⟩ := mat_cell hv (k := 0) (by omega)
  simp only [Value.slice.injEq] at hvv
  obtain ⟨rfl, -, rfl⟩ := hvv
  have HVS : Hid (Sl 0 22 w (.slice (some ⟨vb, vq, none⟩) m.length vc) vs) := by
    have := g2
    rw [← g1] at this ⊢
    exact Sl.own this
  have HE : Hid ((w.alloc (.cells #[] 22)).ownsRow w.heap.size 22 1 (.slice (some ⟨w.heap.size, 0, none⟩) 0 0) 0 []) :=
    World.ownsRow_made w #[] 0 (Nat.le_refl _) (by simp [maxLen]) (by simp)
  have HG1 : Hid (vs.length = m.length) := g1
  have HG3 : Hid (∀ i, i < m.length → Sl B 3 w (vs.getD i (.slice none 0 0)) (ints (m.getD i []))) := g3
  have HOC : Hid (∀ u ∈ vs, u.oneCell' = true) := fun u hu => by
    obtain ⟨i, hi, he⟩ := List.getElem_of_mem hu
    have h := HG3.out i (by rw [← HG1.out]; exact hi)
    obtain ⟨ao, cap, e1, _⟩ := h
    rw [List.getD_eq_getElem?_getD, List.getElem?_eq_getElem hi, Option.getD_some, he] at e1
    rw [e1]; rfl
  have HRP : Hid (Rp d p m) := hr
  clear hv hr g1 g2 g3
  go_enter Tryd.func29, Tryd.ntmps29
  go_wp2_with (first | (at_builtin; refine wpList_append_own _ rfl _ _ 42 rfl w.heap.size 22 i0 (.slice none 0 0) 1 24 Tryd.underlying42 hi0 hz0 hz1 hz2 rfl (by decide) _ _ _ rfl HE.out ⟨vb, vq, none⟩ m.length vc vs rfl (by rw [HG1.out, Nat.mul_one]) (sl_cells HVS.out _) HOC.out ?c3 ?c4 ?c5 ?_))
  case c3 => unfold maxLen; omega
  case c4 => omega
  case c5 => simp
  intro v' w3 ho hg _
  have HB3 : Hid (Below w.heap.size w w3) := ((Below.refl _ _).alloc (Nat.le_refl _) _).grown hg (by simp) (fun k hk => by simp [Value.ownBlock] at hk; omega)
  have HF3 : Hid (Rws w.heap.size 22 3 w3 v' m) := by
    refine ⟨vs, HG1.out, by simpa using ho, fun i hi => ?_⟩
    exact ((HG3.out i hi).below HB3.out (Nat.le_refl _)).more hB
  obtain ⟨xo, xc, hxv⟩ := owns_form ho
  subst hxv
  clear ho hg
  go_wp2
  go_loopw [1, 5] (fun rv x wr => ∃ (k : Nat) (m' : List (List Int)), k ≤ d ∧ x = .int .i64 k ∧ 0 < m'.length ∧ m'.length ≤ 8 ∧ Rp d p m' ∧ (dpB p d m = dpB p d m' ∧ Zc k m') ∧ Rws w.heap.size 22 3 wr rv m' ∧ Below w.heap.size w wr) (fun _ x _ => d - (intOf x).toNat)
  case atStart => exact ⟨0, m, Nat.zero_le _, rfl, by omega, hm, HRP.out, ⟨rfl, fun r _ j hj => by omega⟩, HF3.out, HB3.out⟩
  case round =>
    obtain ⟨k, M, hk, rfl, hM0, hM8, hrp, ⟨hdp, hzc⟩, hfr, hbr⟩ := hrel
    have HDP : Hid (dpB p d m = dpB p d M) := hdp
    have HZC : Hid (Zc k M) := hzc
    clear hdp hzc
    have hBW : w.heap.size ≤ wr.heap.size := hbr.size
    obtain ⟨yb, yo, yc, u0, hyv, _, hcu, hsu⟩ := mat_cell (hfr.mat hBW) (k := 0) hM0
    subst hyv
    obtain ⟨uo, uc, huu, _, _⟩ := sl_open hsu
    have hlen0 : (M.getD 0 []).length = d := (hrp (M.getD 0 []) (by simp [hM0])).1
    rw [hlen0] at huu
    subst huu
    rw [Nat.add_zero] at hcu
    have HRM : Hid (Rp d p M) := hrp
    have HFR : Hid (Rws w.heap.size 22 3 wr (.slice (some ⟨yb, yo, none⟩) M.length yc) M) := hfr
    have HBR : Hid (Below w.heap.size w wr) := hbr
    clear hrp hfr hbr hsu hlen0
    obtain ⟨wk, rfl⟩ : ∃ wk, wk = wr := ⟨wr, rfl⟩
    have hM0I : (0 : Int) < (M.length : Int) := by omega
    by_cases hkd : k < d
    · have kI : (k : Int) < (d : Int) := by omega
      have kI0 : (0 : Int) ≤ (k : Int) := by omega
      go_wp2
      clear hcu
      go_loopw [6, 7] (fun av x wr => ∃ (i : Nat) (a : Int), i ≤ M.length ∧ x = .int .i64 i ∧ av = .int .i64 a ∧ ((a = -1 ∧ ∀ q, q < i → (M.getD q []).getD k 0 = 0) ∨ ∃ t : Nat, a = (t : Int) ∧ t < M.length ∧ (M.getD t []).getD k 0 ≠ 0) ∧ wr = wk) (fun _ x _ => M.length - (intOf x).toNat)
      case atStart => exact ⟨0, -1, Nat.zero_le _, rfl, rfl, .inl ⟨rfl, fun q hq => by omega⟩, rfl⟩
      case round =>
        obtain ⟨i, a, hi, rfl, rfl, hat, rfl⟩ := hrel
        have HAT : Hid ((a = -1 ∧ ∀ q, q < i → (M.getD q []).getD k 0 = 0) ∨ ∃ t : Nat, a = (t : Int) ∧ t < M.length ∧ (M.getD t []).getD k 0 ≠ 0) := hat
        clear hat
        by_cases hil : i < M.length
        · have iI : (i : Int) < (M.length : Int) := by omega
          have iI0 : (0 : Int) ≤ (i : Int) := by omega
          by_cases ha : a < 0
          · have ha1 : a = -1 := by
              rcases HAT.out with ⟨h, _⟩ | ⟨t, h, _⟩ <;> omega
            have HQ : Hid (∀ q, q < i → (M.getD q []).getD k 0 = 0) := by
              rcases HAT.out with ⟨_, h⟩ | ⟨t, h, _⟩
              · exact h
              · omega
            subst ha1
            obtain ⟨yb', yo', yc', ui, hyv, _, hci, hsi⟩ := mat_cell (HFR.out.mat hBW) hil
            simp only [Value.slice.injEq, Option.some.injEq, Addr.mk.injEq, and_true] at hyv
            obtain ⟨⟨rfl, rfl⟩, -, -⟩ := hyv
            have hli : (M.getD i []).length = d := (HRM.out (M.getD i []) (by simp [hil])).1
            obtain ⟨zb, zo, zc, hzz, _, hcz⟩ := sl_cell hsi (show k < (M.getD i []).length by omega)
            rw [hli] at hzz
            subst hzz
            obtain ⟨z, hz⟩ : ∃ z, z = (M.getD i []).getD k 0 := ⟨_, rfl⟩
            have HZV : Hid (z = (M.getD i []).getD k 0) := hz
            rw [← hz] at hcz
            clear hz hsi ha
            by_cases hz0' : z = 0
            · have t2 : (z != 0) = false := by rw [hz0']; rfl
              have HQ2 : Hid (∀ q, q < i + 1 → (M.getD q []).getD k 0 = 0) := fun q hq => by
                by_cases e : q = i
                · rw [e, ← HZV.out]; exact hz0'
                · exact HQ.out q (by omega)
              clear hz0'
              go_wp2
              exact ⟨⟨i + 1, -1, by omega, by go_num, rfl, .inl ⟨rfl, HQ2.out⟩, trivial⟩, by simp [intOf]; omega⟩
            · have t2 : (z != 0) = true := by rw [bne_iff_ne]; exact hz0'
              have HNW : Hid ((M.getD i []).getD k 0 ≠ 0) := by rw [← HZV.out]; exact hz0'
              clear hz0'
              go_wp2
              exact ⟨⟨i + 1, i, by omega, by go_num, rfl, .inr ⟨i, rfl, hil, HNW.out⟩, trivial⟩, by simp [intOf]; omega⟩
          · have t2 : decide (a < 0) = false := decide_eq_false ha
            have t3 : 0 ≤ a := by omega
            have HAS : Hid (∃ t : Nat, a = (t : Int) ∧ t < M.length ∧ (M.getD t []).getD k 0 ≠ 0) := by
              rcases HAT.out with ⟨h, _⟩ | h
              · omega
              · exact h
            go_wp2
            exact ⟨⟨i + 1, a, by omega, by go_num, rfl, .inr HAS.out, trivial⟩, by simp [intOf]; omega⟩
        · have hie : i = M.length := by omega
          subst hie
          obtain ⟨wk, rfl⟩ : ∃ wk, wk = wr := ⟨wr, rfl⟩
          by_cases ha : a < 0
          · have ha1 : a = -1 := by
              rcases HAT.out with ⟨h, _⟩ | ⟨t, h, _⟩ <;> omega
            have HQ : Hid (∀ q, q < M.length → (M.getD q []).getD k 0 = 0) := by
              rcases HAT.out with ⟨_, h⟩ | ⟨t, h, _⟩
              · exact h
              · omega
            subst ha1
            have HZ2 : Hid (Zc (k + 1) M) := fun r hr j hj => by
              by_cases e : j = k
              · obtain ⟨q, hq, rfl⟩ := List.getElem_of_mem hr
                have := HQ.out q hq
                rw [show M.getD q [] = M[q] by simp [hq]] at this
                rw [e]; exact this
              · exact HZC.out r hr j (by omega)
            clear ha
            go_wp2
            exact ⟨⟨k + 1, M, by omega, by go_num, hM0, hM8, HRM.out, ⟨HDP.out, HZ2.out⟩, HFR.out, HBR.out⟩, by simp [intOf]; omega⟩
          · obtain ⟨ta, hta, htM, htz⟩ : ∃ t : Nat, a = (t : Int) ∧ t < M.length ∧ (M.getD t []).getD k 0 ≠ 0 := by
              rcases HAT.out with ⟨h, _⟩ | h
              · omega
              · exact h
            subst hta
            clear ha HAT
            have HTZ : Hid ((M.getD ta []).getD k 0 ≠ 0) := htz
            clear htz
            have hrl : (M.getD ta []).length = d ∧ ∀ z ∈ M.getD ta [], 0 ≤ z ∧ z < (p : Int) := HRM.out (M.getD ta []) (by simp [htM])
            obtain ⟨R, hR⟩ : ∃ R, R = M.getD ta [] := ⟨_, rfl⟩
            obtain ⟨yb', yo', yc', ut, hyv, _, hct, hst⟩ := mat_cell (HFR.out.mat hBW) htM
            simp only [Value.slice.injEq, Option.some.injEq, Addr.mk.injEq, and_true] at hyv
            obtain ⟨⟨rfl, rfl⟩, -, -⟩ := hyv
            rw [← hR] at hrl hst HTZ
            have HRQ : Hid (R = M.getD ta []) := hR
            have HRZ : Hid (∀ j, j < k → R.getD j 0 = 0) := by rw [hR]; exact HZC.out _ (by simp [htM])
            clear hR
            obtain ⟨rb, ro, rc, huu, _, _⟩ := sl_cell hst (show 0 < R.length by omega)
            rw [hrl.1] at huu
            subst huu
            have HST : Hid (Sl wk.heap.size 3 wk (.slice (some ⟨rb, ro, none⟩) d rc) (ints R)) := hst
            have HRN : Hid (∀ j, j < d → ∃ z : Nat, R.getD j 0 = (z : Int) ∧ z < p) := fun j hj => by
              have h := hrl.2 (R.getD j 0) (by simp [show j < R.length by omega])
              exact ⟨(R.getD j 0).toNat, by omega, by omega⟩
            obtain ⟨zk, hzk, hzkp⟩ := HRN.out k hkd
            have hzk0 : zk ≠ 0 := fun e => HTZ.out (by rw [hzk, e]; rfl)
            have HZK : Hid (R.getD k 0 = (zk : Int)) := hzk
            have HRND : Hid (¬ (p : Int) ∣ R.getD k 0) := fun h => HTZ.out (zero_of_dvd h (by rw [hzk]; omega) (by rw [hzk]; omega))
            have HRL : Hid (R.length = d) := hrl.1
            clear hst hrl
            have taI : (ta : Int) < (M.length : Int) := by omega
            have taI0 : (0 : Int) ≤ (ta : Int) := by omega
            go_wp2
            clear hct
            go_loopw [9, 10] (fun sv x wr => ∃ (i : Nat) (M2 : List (List Int)), i ≤ M.length ∧ x = .int .i64 i ∧ M2.length ≤ i ∧ Rp d p M2 ∧ (Clr p d k R (oth M ta i) M2 ∧ Zc (k + 1) M2) ∧ Fr wk.heap.size 22 3 wr sv M2 ∧ Below wk.heap.size wk wr) (fun _ x _ => M.length - (intOf x).toNat)
            case atStart => exact ⟨0, [], Nat.zero_le _, rfl, Nat.le_refl _, fun r hr => by simp at hr, ⟨.nil, fun r hr => by simp at hr⟩, Fr.nil _ _ _ _, Below.refl _ _⟩
            case round =>
              obtain ⟨i, M2, hi, rfl, hM2, hrp2, ⟨hclr, hzc2⟩, hfr2, hbi⟩ := hrel
              have HCL : Hid (Clr p d k R (oth M ta i) M2) := hclr
              have HZ2 : Hid (Zc (k + 1) M2) := hzc2
              clear hclr hzc2
              have HR2 : Hid (Rp d p M2) := hrp2
              have HF2 : Hid (Fr wk.heap.size 22 3 wr u9 M2) := hfr2
              have HBI : Hid (Below wk.heap.size wk wr) := hbi
              clear hrp2 hfr2 hbi
              obtain ⟨wi, rfl⟩ : ∃ wi, wi = wr := ⟨wr, rfl⟩
              by_cases hil : i < M.length
              · have iI : (i : Int) < (M.length : Int) := by omega
                have iI0 : (0 : Int) ≤ (i : Int) := by omega
                by_cases hit : i = ta
                · have t2 : ((i : Int) == (ta : Int)) = true := by rw [hit]; simp
                  have HOT : Hid (oth M ta (i + 1) = oth M ta i) := if_pos hit
                  clear hit
                  go_wp2
                  exact ⟨⟨i + 1, M2, by omega, by go_num, by omega, HR2.out, ⟨by rw [HOT.out]; exact HCL.out, HZ2.out⟩, HF2.out, HBI.out⟩, by simp [intOf]; omega⟩
                · have t2 : ((i : Int) == (ta : Int)) = false := by rw [beq_eq_false_iff_ne]; omega
                  obtain ⟨yb', yo', yc', ui, hyv, _, hci, hsi⟩ := mat_cell ((HFR.out.mat hBW).below HBI.out (Nat.le_refl _)) hil
                  simp only [Value.slice.injEq, Option.some.injEq, Addr.mk.injEq, and_true] at hyv
                  obtain ⟨⟨rfl, rfl⟩, -, -⟩ := hyv
                  have hli := HRM.out (M.getD i []) (by simp [hil])
                  obtain ⟨X, hX⟩ : ∃ X, X = M.getD i [] := ⟨_, rfl⟩
                  rw [← hX] at hsi hli
                  have HOT : Hid (oth M ta (i + 1) = oth M ta i ++ [X]) := by rw [hX]; exact if_neg hit
                  have HXZ0 : Hid (∀ j, j < k → X.getD j 0 = 0) := by rw [hX]; exact HZC.out _ (by simp [hil])
                  have HCP : Hid (Calls Tryd.prog 38 #[ui] wi fun e w' => ∃ u, e = .returned u ∧ w'.ownsRow wi.heap.size 3 1 u X.length (ints X) ∧ Below wi.heap.size wi w') := copy_any _ X ui wi hsi (by omega)
                  have HX : Hid (X.length = d ∧ ∀ z ∈ X, 0 ≤ z ∧ z < (p : Int)) := hli
                  clear hsi hli hX hit
                  go_wp2_with fail
                  refine HCP.out.mono ?_
                  rintro e w5 ⟨u, rfl, hou, hb5⟩
                  rw [HX.out.1] at hou
                  obtain ⟨g, gc, cur, hug, hgw, _⟩ : ∃ g gc cur, u = .slice (some ⟨g, 0, none⟩) d gc ∧ wi.heap.size ≤ g ∧ w5.heap[g]? = some (.cells cur 3 (0, 0)) := by
                    rcases hou.2 with ⟨_, h0⟩ | ⟨g, cap, cur, h1, h2, h3, _⟩
                    · omega
                    · exact ⟨g, cap, cur, h1, h2, h3⟩
                  subst hug
                  have HO5 : Hid (w5.ownsRow wi.heap.size 3 1 (.slice (some ⟨g, 0, none⟩) d gc) d (ints X)) := hou
                  have HB5 : Hid (Below wi.heap.size wi w5) := hb5
                  clear hou hb5 hci HCP
                  go_wp2
                  go_loopw [12] (fun _ wr => ∃ xs : List Int, xs.length = d ∧ (∀ z ∈ xs, 0 ≤ z ∧ z < (p : Int)) ∧ AddP p d X R xs ∧ wr.ownsRow wi.heap.size 3 1 (.slice (some ⟨g, 0, none⟩) d gc) d (ints xs) ∧ Below wi.heap.size wi wr) (fun _ wr => muW p zk (wr.cell? ⟨g, k, none⟩))
                  case atStart => exact ⟨X, HX.out.1, HX.out.2, addP_refl _ _ _ _, HO5.out, HB5.out⟩
                  case round =>
                    obtain ⟨xs, hxl, hxz, hap, hox, hbx⟩ := hrel
                    have HAP : Hid (AddP p d X R xs) := hap
                    clear hap
                    have HXZ : Hid (∀ z ∈ xs, 0 ≤ z ∧ z < (p : Int)) := hxz
                    have HOX : Hid (wr.ownsRow wi.heap.size 3 1 (.slice (some ⟨g, 0, none⟩) d gc) d (ints xs)) := hox
                    have HBX : Hid (Below wi.heap.size wi wr) := hbx
                    obtain ⟨zv, hzv, hzvp⟩ : ∃ z : Nat, xs.getD k 0 = (z : Int) ∧ z < p := by
                      have h := hxz (xs.getD k 0) (by simp [show k < xs.length by omega])
                      exact ⟨(xs.getD k 0).toNat, by omega, by omega⟩
                    have hcx := hox.cellAt k (by simp; omega)
                    rw [ints_get _ _ (by omega), hzv] at hcx
                    have HXL : Hid (xs.length = d) := hxl
                    have HZV : Hid (xs.getD k 0 = (zv : Int)) := hzv
                    clear hxz hox hbx hxl hzv
                    obtain ⟨wx, rfl⟩ : ∃ wx, wx = wr := ⟨wr, rfl⟩
                    by_cases hz0' : zv = 0
                    · have t3 : ((zv : Int) != 0) = false := by rw [hz0']; rfl
                      have HXK : Hid (xs.getD k 0 = 0) := by rw [HZV.out, hz0']; rfl
                      have HCL7 : Hid (Clr p d k R (oth M ta (i + 1)) (M2 ++ [xs])) := by
                        rw [HOT.out]; exact HCL.out.snoc (addP_clp HPM.out HAP.out HXK.out)
                      have HZ7 : Hid (Zc (k + 1) (M2 ++ [xs])) := fun r hr => by
                        rcases List.mem_append.1 hr with hr | hr
                        · exact HZ2.out r hr
                        · have : r = xs := by simpa using hr
                          rw [this]
                          exact addP_zero HAP.out HXZ0.out HRZ.out (by omega) HXL.out HXZ.out HXK.out
                      have HFX : Hid (Fr wk.heap.size 22 3 wx u9 M2) := HF2.out.below HBX.out (Nat.le_refl _)
                      have HBKX : Hid (Below wk.heap.size wk wx) := HBI.out.trans (HBX.out.mono HBI.out.size)
                      have HSX : Hid (Sl 0 3 wx (.slice (some ⟨g, 0, none⟩) d gc) (ints xs)) := by
                        have := HOX.out
                        rw [← HXL.out] at this ⊢
                        exact Sl.own this
                      obtain ⟨us, f1, f2, f3⟩ := HFX.out
                      have F2 : Hid (wx.ownsRow wk.heap.size 22 1 u9 M2.length us) := f2
                      have F1 : Hid (us.length = M2.length) := f1
                      have F3 : Hid (∀ i, i < M2.length → Sl 0 3 wx (us.getD i (.slice none 0 0)) (ints (M2.getD i []))) := f3
                      have hszr : wk.heap.size ≤ wx.heap.size := HBKX.out.size
                      have hm28 : M2.length ≤ 8 := by omega
                      clear hz0' f1 f2 f3
                      go_wp2_with (first | (at_builtin; refine wpList_append_own _ rfl _ _ 42 rfl wk.heap.size 22 i0 (.slice none 0 0) 1 24 Tryd.underlying42 hi0 hz0 hz1 hz2 rfl (by decide) _ _ _ rfl (F2.out.alloc _) ⟨wx.heap.size, 0, none⟩ 1 1 [.slice (some ⟨g, 0, none⟩) d gc] rfl rfl (one_new _ _ _) (one_slice _ _ _) ?c3 ?c4 ?c5 ?_))
                      case c3 => unfold maxLen; omega
                      case c4 => omega
                      case c5 => first | exact hszr | omega | (simp; omega)
                      intro v' w7 ho7 hg7 _
                      have HF7 : Hid (Fr wk.heap.size 22 3 w7 v' (M2 ++ [xs])) := Fr.push (e2 := 22) (e1 := 3) (m := M2) (u := .slice (some ⟨g, 0, none⟩) d gc) (zs := xs) (by decide) F1.out (F2.out.alloc _) (fun i hi => (F3.out i hi).alloc _) (HSX.out.alloc _) ho7 hg7
                      have HB7 : Hid (Below wk.heap.size wk w7) := (HBKX.out.alloc hszr _).grown hg7 (by simp; omega) (fun x hx => (F2.out.lt x hx).1)
                      have HR7 : Hid (Rp d p (M2 ++ [xs])) := fun r hr => by
                        rcases List.mem_append.1 hr with hr | hr
                        · exact HR2.out r hr
                        · have : r = xs := by simpa using hr
                          subst this
                          exact ⟨HXL.out, HXZ.out⟩
                      clear ho7 hg7
                      go_wp2
                      exact ⟨⟨i + 1, _, by omega, by go_num, by rw [List.length_append, List.length_singleton]; omega, HR7.out, ⟨HCL7.out, HZ7.out⟩, HF7.out, HB7.out⟩, by simp [intOf]; omega⟩
                    · have t3 : ((zv : Int) != 0) = true := by rw [bne_iff_ne]; omega
                      have HMU : Hid (muW p zk (some (.int .i64 (((zv + zk) % p : Nat) : Int))) < muW p zk (wx.cell? ⟨g, k, none⟩)) := by
                        rw [hcx]
                        simp only [muW, Int.toNat_natCast]
                        exact mu_falls hp hzkp hzk0 hzvp hz0'
                      have HSR : Hid (Sl wk.heap.size 3 wx (.slice (some ⟨rb, ro, none⟩) d rc) (ints R)) := HST.out.below (HBI.out.trans (HBX.out.mono HBI.out.size)) (Nat.le_refl _)
                      clear hz0'
                      go_wp2
                      clear hcx
                      go_loopw [12] (fun c wr => ∃ (t : Nat) (ys : List Int), t ≤ d ∧ c = .int .i64 t ∧ ys.length = d ∧ (∀ z ∈ ys, 0 ≤ z ∧ z < (p : Int)) ∧ (∀ c, c < d → ys.getD c 0 = (if c < t then (xs.getD c 0 + R.getD c 0) % (p : Int) else xs.getD c 0)) ∧ wr.ownsRow wi.heap.size 3 1 (.slice (some ⟨g, 0, none⟩) d gc) d (ints ys) ∧ Below wi.heap.size wi wr) (fun c _ => d - (intOf c).toNat)
                      case atStart => exact ⟨0, xs, Nat.zero_le _, rfl, HXL.out, HXZ.out, fun c _ => by rw [if_neg (by omega)], HOX.out, HBX.out⟩
                      case round =>
                        obtain ⟨t, ys, ht, rfl, hyl, hyz, hyk, hoy, hby⟩ := hrel
                        have HYZ : Hid (∀ z ∈ ys, 0 ≤ z ∧ z < (p : Int)) := hyz
                        have HYK : Hid (∀ c, c < d → ys.getD c 0 = (if c < t then (xs.getD c 0 + R.getD c 0) % (p : Int) else xs.getD c 0)) := hyk
                        have HOY : Hid (wr.ownsRow wi.heap.size 3 1 (.slice (some ⟨g, 0, none⟩) d gc) d (ints ys)) := hoy
                        have HBY : Hid (Below wi.heap.size wi wr) := hby
                        have HYL : Hid (ys.length = d) := hyl
                        clear hyz hyk hby
                        obtain ⟨wy, rfl⟩ : ∃ wy, wy = wr := ⟨wr, rfl⟩
                        by_cases htd : t < d
                        · obtain ⟨za, hza, hzap⟩ : ∃ z : Nat, ys.getD t 0 = (z : Int) ∧ z < p := by
                            have h := HYZ.out (ys.getD t 0) (by simp [show t < ys.length by omega])
                            exact ⟨(ys.getD t 0).toNat, by omega, by omega⟩
                          obtain ⟨zr, hzr, hzrp⟩ := HRN.out t htd
                          have hcy := hoy.cellAt t (by simp; omega)
                          rw [ints_get _ _ (by omega), hza] at hcy
                          have hfy : wy.frozen? ⟨g, t, none⟩ = false := by
                            rcases hoy.2 with ⟨e, _⟩ | ⟨g', cap, cur, e, _, hh, _⟩
                            · simp at e
                            · simp only [Value.slice.injEq, Option.some.injEq, Addr.mk.injEq, and_true, true_and] at e
                              obtain ⟨rfl, rfl⟩ := e
                              simp [World.frozen?, hh]
                          obtain ⟨rb', ro', _, hs, _, hcr⟩ := sl_cell (HST.out.below (HBI.out.trans (HBY.out.mono HBI.out.size)) (Nat.le_refl _)) (show t < R.length by rw [HRL.out]; exact htd)
                          simp only [Value.slice.injEq, Option.some.injEq, Addr.mk.injEq, and_true] at hs
                          obtain ⟨⟨rfl, rfl⟩, -, -⟩ := hs
                          rw [hzr] at hcr
                          obtain ⟨zn, hzn⟩ : ∃ zn : Nat, zn = (za + zr) % p := ⟨_, rfl⟩
                          have hznp : zn < p := by rw [hzn]; exact Nat.mod_lt _ (by omega)
                          have s1 : IntKind.i64.wrap ((za : Int) + (zr : Int)) = ((za + zr : Nat) : Int) := by
                            rw [show ((za : Int) + (zr : Int)) = ((za + zr : Nat) : Int) by omega]; exact wrap_small (by omega)
                          have s2 : ((za : Int) + (zr : Int)).tmod (p : Int) = (zn : Int) := by
                            rw [Int.tmod_eq_emod_of_nonneg (by omega), hzn]; simp
                          have s5 : ¬ p = 0 := by omega
                          have s3 : ((p : Int) == 0) = false := by rw [beq_eq_false_iff_ne]; omega
                          have s4 : ¬ (p : Int) = 0 := by omega
                          have HNL : Hid ((ys.set t (zn : Int)).length = d) := by show _ = _; rw [List.length_set]; exact hyl
                          have HNR : Hid (∀ z ∈ ys.set t (zn : Int), 0 ≤ z ∧ z < (p : Int)) := fun z hz => by
                            rcases List.mem_or_eq_of_mem_set hz with h | h
                            · exact HYZ.out z h
                            · omega
                          have HNK : Hid (∀ c, c < d → (ys.set t (zn : Int)).getD c 0 = (if c < t + 1 then (xs.getD c 0 + R.getD c 0) % (p : Int) else xs.getD c 0)) := fun c hc => by
                            by_cases e : c = t
                            · subst e
                              have h1 := HYK.out c hc
                              rw [if_neg (by omega), hza] at h1
                              rw [if_pos (by omega), ← h1, hzr, hzn]
                              simp [show c < ys.length by omega]
                            · have h1 := HYK.out c hc
                              have h2 : (ys.set t (zn : Int)).getD c 0 = ys.getD c 0 := by
                                simp only [List.getD_eq_getElem?_getD]
                                rw [List.getElem?_set_ne (fun h => e h.symm)]
                              rw [h2, h1]
                              by_cases h : c < t
                              · rw [if_pos h, if_pos (by omega)]
                              · rw [if_neg h, if_neg (by omega)]
                          have HNO : Hid ((wy.drew.setCell ⟨g, t, none⟩ (.int .i64 zn)).ownsRow wi.heap.size 3 1 (.slice (some ⟨g, 0, none⟩) d gc) d (ints (ys.set t (zn : Int)))) := by
                            have h0 : wy.drew.ownsRow wi.heap.size 3 1 (.slice (some ⟨g, 0, none⟩) d gc) d (ints ys) := ⟨hoy.1, hoy.2⟩
                            have h1 := (h0.stored t (.int .i64 (zn : Int))).1
                            have e : ints (ys.set t (zn : Int)) = (ints ys).set t (.int .i64 (zn : Int)) := by simp [ints, List.map_set]
                            show World.ownsRow _ _ _ _ _ _ _
                            rw [e]
                            exact h1
                          have HNB : Hid (Below wi.heap.size wi (wy.drew.setCell ⟨g, t, none⟩ (.int .i64 zn))) := ⟨HBY.out.os, HBY.out.tape, HBY.out.output, by simp only [World.setCell, Array.size_modify]; exact HBY.out.size, fun b hb => (Below.heap_setCell _ _ _ _ (by show b ≠ g; omega)).trans (HBY.out.block b hb)⟩
                          have tI : (t : Int) < (d : Int) := by omega
                          have tI0 : (0 : Int) ≤ (t : Int) := by omega
                          have hcyd : wy.drew.cell? ⟨g, t, none⟩ = some (.int .i64 za) := hcy
                          have hcrd : wy.drew.cell? ⟨rb, ro + t, none⟩ = some (.int .i64 zr) := hcr
                          clear hza hzr hzn hoy hyl
                          go_wp2
                          refine wp_region_held_drew (S := fun _ => True) (by kernel_rfl) trivial (fun hHeld => ?_)
                          refine wpAnyH_tk (i := 0) (d := 77) (v := (.slice (some ⟨g, 0, none⟩) d gc)) rfl rfl (by kernel_rfl) (by kernel_rfl) (by kernel_rfl) (fun _ _ _ h => h) (.inl ⟨by rfl, by (intro wq hSw; (try dsimp only at hSw); go_simp; (try (first | rfl | omega)))⟩) hHeld ?_
                          simp only [Act.put, List.setIfInBounds_toArray, List.set_cons_zero, List.set_cons_succ]
                          refine wpAnyH_tk (i := 1) (d := 78) (v := (.int .i64 t)) rfl rfl (by kernel_rfl) (by kernel_rfl) (by kernel_rfl) (fun _ _ _ h => h) (.inl ⟨by rfl, by (intro wq hSw; (try dsimp only at hSw); go_simp; (try (first | rfl | omega)))⟩) hHeld ?_
                          simp only [Act.put, List.setIfInBounds_toArray, List.set_cons_zero, List.set_cons_succ]
                          refine wpAnyH_tk (i := 2) (d := 79) (v := (.slice (some ⟨g, 0, none⟩) d gc)) rfl rfl (by kernel_rfl) (by kernel_rfl) (by kernel_rfl) (fun _ _ _ h => h) (.inl ⟨by rfl, by (intro wq hSw; (try dsimp only at hSw); go_simp; (try (first | rfl | omega)))⟩) hHeld ?_
                          simp only [Act.put, List.setIfInBounds_toArray, List.set_cons_zero, List.set_cons_succ]
                          refine wpAnyH_tk (i := 3) (d := 80) (v := (.int .i64 t)) rfl rfl (by kernel_rfl) (by kernel_rfl) (by kernel_rfl) (fun _ _ _ h => h) (.inl ⟨by rfl, by (intro wq hSw; (try dsimp only at hSw); go_simp; (try (first | rfl | omega)))⟩) hHeld ?_
                          simp only [Act.put, List.setIfInBounds_toArray, List.set_cons_zero, List.set_cons_succ]
                          refine wpAnyH_tk (i := 4) (d := 81) (v := (.pointer (some ⟨g, t, none⟩))) rfl rfl (by kernel_rfl) (by kernel_rfl) (by kernel_rfl) (fun _ _ _ h => h) (.inl ⟨by rfl, by (intro wq hSw; (try dsimp only at hSw); go_simp; (try (first | rfl | omega)))⟩) hHeld ?_
                          simp only [Act.put, List.setIfInBounds_toArray, List.set_cons_zero, List.set_cons_succ]
                          refine wpAnyH_tk (i := 6) (d := 83) (v := (.slice (some ⟨rb, ro, none⟩) d rc)) rfl rfl (by kernel_rfl) (by kernel_rfl) (by kernel_rfl) (fun _ _ _ h => h) (.inl ⟨by rfl, by (intro wq hSw; (try dsimp only at hSw); go_simp; (try (first | rfl | omega)))⟩) hHeld ?_
                          simp only [Act.put, List.setIfInBounds_toArray, List.set_cons_zero, List.set_cons_succ]
                          refine wpAnyH_tk (i := 7) (d := 84) (v := (.int .i64 t)) rfl rfl (by kernel_rfl) (by kernel_rfl) (by kernel_rfl) (fun _ _ _ h => h) (.inl ⟨by rfl, by (intro wq hSw; (try dsimp only at hSw); go_simp; (try (first | rfl | omega)))⟩) hHeld ?_
                          simp only [Act.put, List.setIfInBounds_toArray, List.set_cons_zero, List.set_cons_succ]
                          refine wpAnyH_tk (i := 8) (d := 85) (v := (.pointer (some ⟨rb, ro + t, none⟩))) rfl rfl (by kernel_rfl) (by kernel_rfl) (by kernel_rfl) (fun _ _ _ h => h) (.inl ⟨by rfl, by (intro wq hSw; (try dsimp only at hSw); go_simp; (try (first | rfl | omega)))⟩) hHeld ?_
                          simp only [Act.put, List.setIfInBounds_toArray, List.set_cons_zero, List.set_cons_succ]
                          refine wpAnyH_tk (i := 11) (d := 88) (v := (.int .i64 p)) rfl rfl (by kernel_rfl) (by kernel_rfl) (by kernel_rfl) (fun _ _ _ h => h) (.inl ⟨by rfl, by (intro wq hSw; (try dsimp only at hSw); go_simp; (try (first | rfl | omega)))⟩) hHeld ?_
                          simp only [Act.put, List.setIfInBounds_toArray, List.set_cons_zero, List.set_cons_succ]
                          refine wpAnyH_ready (rs := [5, 9]) (by kernel_rfl) (by simp) ?_
                          refine ready_tk (i := 5) rfl (by rfl) (fun K hK => ?_) (ready_tk (i := 9) rfl (by rfl) (fun K hK => ?_) AllReadyH.nil)
                          · go_simp
                            refine hK.out _ _ trivial (fun hHeld => ?_)
                            clear hK K
                            refine wpAnyH_ready (rs := [9]) (by kernel_rfl) (by simp) ?_
                            refine ready_tk (i := 9) rfl (by rfl) (fun K hK => ?_) AllReadyH.nil
                            go_simp
                            refine hK.out _ _ trivial (fun hHeld => ?_)
                            clear hK K
                            refine wpAnyH_tk (i := 10) (d := 87) (v := (.int .i64 (za + zr : Nat))) rfl rfl (by kernel_rfl) (by kernel_rfl) (by kernel_rfl) (fun _ _ _ h => h) (.inl ⟨by rfl, by (intro wq hSw; (try dsimp only at hSw); go_simp; (try (first | rfl | omega)))⟩) hHeld ?_
                            simp only [Act.put, List.setIfInBounds_toArray, List.set_cons_zero, List.set_cons_succ]
                            refine wpAnyH_tk (i := 12) (d := 89) (v := (.int .i64 zn)) rfl rfl (by kernel_rfl) (by kernel_rfl) (by kernel_rfl) (fun _ _ _ h => h) (.inl ⟨by rfl, by (intro wq hSw; (try dsimp only at hSw); go_simp; (try (first | rfl | omega)))⟩) hHeld ?_
                            simp only [Act.put, List.setIfInBounds_toArray, List.set_cons_zero, List.set_cons_succ]
                            refine wpAnyH_tk (i := 13) (d := 90) (v := (.pointer (some ⟨g, t, none⟩))) rfl rfl (by kernel_rfl) (by kernel_rfl) (by kernel_rfl) (fun _ _ _ h => h) (.inl ⟨by rfl, by (intro wq hSw; (try dsimp only at hSw); go_simp; (try (first | rfl | omega)))⟩) hHeld ?_
                            simp only [Act.put, List.setIfInBounds_toArray, List.set_cons_zero, List.set_cons_succ]
                            refine wpAnyH_ready (rs := [14]) (by kernel_rfl) (by simp) ?_
                            refine ready_tk (i := 14) rfl (by rfl) (fun K hK => ?_) AllReadyH.nil
                            go_simp
                            refine hK.out _ _ trivial (fun hHeld => ?_)
                            clear hK K
                            refine wpAnyH_done (by kernel_rfl) ?_ _
                            clear hHeld
                            go_wp2
                            exact ⟨⟨t + 1, _, by omega, by go_num, HNL.out, HNR.out, HNK.out, HNO.out, HNB.out⟩, by simp [intOf]; omega⟩
                          · go_simp
                            refine hK.out _ _ trivial (fun hHeld => ?_)
                            clear hK K
                            refine wpAnyH_ready (rs := [5]) (by kernel_rfl) (by simp) ?_
                            refine ready_tk (i := 5) rfl (by rfl) (fun K hK => ?_) AllReadyH.nil
                            go_simp
                            refine hK.out _ _ trivial (fun hHeld => ?_)
                            clear hK K
                            refine wpAnyH_tk (i := 10) (d := 87) (v := (.int .i64 (za + zr : Nat))) rfl rfl (by kernel_rfl) (by kernel_rfl) (by kernel_rfl) (fun _ _ _ h => h) (.inl ⟨by rfl, by (intro wq hSw; (try dsimp only at hSw); go_simp; (try (first | rfl | omega)))⟩) hHeld ?_
                            simp only [Act.put, List.setIfInBounds_toArray, List.set_cons_zero, List.set_cons_succ]
                            refine wpAnyH_tk (i := 12) (d := 89) (v := (.int .i64 zn)) rfl rfl (by kernel_rfl) (by kernel_rfl) (by kernel_rfl) (fun _ _ _ h => h) (.inl ⟨by rfl, by (intro wq hSw; (try dsimp only at hSw); go_simp; (try (first | rfl | omega)))⟩) hHeld ?_
                            simp only [Act.put, List.setIfInBounds_toArray, List.set_cons_zero, List.set_cons_succ]
                            refine wpAnyH_tk (i := 13) (d := 90) (v := (.pointer (some ⟨g, t, none⟩))) rfl rfl (by kernel_rfl) (by kernel_rfl) (by kernel_rfl) (fun _ _ _ h => h) (.inl ⟨by rfl, by (intro wq hSw; (try dsimp only at hSw); go_simp; (try (first | rfl | omega)))⟩) hHeld ?_
                            simp only [Act.put, List.setIfInBounds_toArray, List.set_cons_zero, List.set_cons_succ]
                            refine wpAnyH_ready (rs := [14]) (by kernel_rfl) (by simp) ?_
                            refine ready_tk (i := 14) rfl (by rfl) (fun K hK => ?_) AllReadyH.nil
                            go_simp
                            refine hK.out _ _ trivial (fun hHeld => ?_)
                            clear hK K
                            refine wpAnyH_done (by kernel_rfl) ?_ _
                            clear hHeld
                            go_wp2
                            exact ⟨⟨t + 1, _, by omega, by go_num, HNL.out, HNR.out, HNK.out, HNO.out, HNB.out⟩, by simp [intOf]; omega⟩
                        · have hte : t = d := by omega
                          subst hte
                          have HK : Hid (wy.cell? ⟨g, k, none⟩ = some (.int .i64 (((zv + zk) % p : Nat) : Int))) := by
                            have h1 := hoy.cellAt k (by simp; omega)
                            have h2 := HYK.out k hkd
                            rw [if_pos hkd, HZV.out, HZK.out] at h2
                            rw [ints_get _ _ (by omega), h2] at h1
                            show _ = _
                            rw [h1]; simp
                          have HAY : Hid (AddP p t X R ys) := addP_step HAP.out fun c hc => by rw [HYK.out c hc, if_pos hc]
                          clear hoy
                          go_wp2
                          exact ⟨⟨ys, HYL.out, HYZ.out, HAY.out, HOY.out, HBY.out⟩, by rw [HK.out]; exact HMU.out⟩
              · have hie : i = M.length := by omega
                subst hie
                obtain ⟨so, sc, hsv⟩ : ∃ so sc, u9 = .slice so M2.length sc := by
                  obtain ⟨us, _, h2, _⟩ := HF2.out
                  exact owns_form h2
                subst hsv
                have HBZ : Hid (Below w.heap.size w wi) := HBR.out.trans (HBI.out.mono HBR.out.size)
                have HFZ : Hid (Rws w.heap.size 22 3 wi (.slice so M2.length sc) M2) := by
                  obtain ⟨us, h1, h2, h3⟩ := HF2.out
                  refine ⟨us, h1, ?_, fun i hi => (h3 i hi).more (Nat.zero_le _)⟩
                  refine ⟨h2.1, ?_⟩
                  rcases h2.2 with h | ⟨g, cap, cur, e1, e2, e3⟩
                  · exact .inl h
                  · exact .inr ⟨g, cap, cur, e1, Nat.le_trans HBR.out.size e2, e3⟩
                have HDN : Hid (dpB p d m = dpB p d M2) := by
                  have h1 := dpn_step HPM.out hkd HRND.out HCL.out
                  have h2 := dpn_oth (p := p) (d := d) htM
                  rw [← HRQ.out] at h2
                  have h3 : Dpn p d M ↔ Dpn p d M2 := h2.trans h1
                  show _ = _
                  rw [HDP.out]
                  by_cases c : Dpn p d M2
                  · rw [dpB_true.2 c, dpB_true.2 (h3.2 c)]
                  · rw [dpB_false.2 c, dpB_false.2 (fun h => c (h3.1 h))]
                by_cases hm0 : M2.length = 0
                · have t2 : ((M2.length : Int) == 0) = true := by rw [hm0]; rfl
                  have HDF : Hid (dpB p d m = false) := by
                    show _ = _
                    rw [HDN.out, List.eq_nil_of_length_eq_zero hm0]; exact dpB_false.2 dpn_nil
                  obtain ⟨q2, hq2⟩ : ∃ q2, q2 = M2.length := ⟨_, rfl⟩
                  clear HFZ HF2 HR2 HCL HZ2 HDN
                  rw [← hq2] at t2 ⊢
                  clear hq2 hm0
                  go_wp2
                  go_ret
                  exact ⟨by rw [HDF.out]; rfl, HBZ.out⟩
                · have t2 : ((M2.length : Int) == 0) = false := by rw [beq_eq_false_iff_ne]; omega
                  go_wp2
                  exact ⟨⟨k + 1, M2, by omega, by go_num, by omega, by omega, HR2.out, ⟨HDN.out, HZ2.out⟩, HFZ.out, HBZ.out⟩, by simp [intOf]; omega⟩
    · have hke : k = d := by omega
      have HDT : Hid (dpB p d m = true) := by
        show _ = _
        rw [HDP.out]
        refine dpB_true.2 ?_
        match M, hM0, HZC.out with
        | r :: M', _, hz => exact dpn_zero HPM.out fun j hj => by rw [hz r (by simp) j (by omega)]; exact Int.dvd_zero _
      subst hke
      go_wp2
      go_ret
      exact ⟨by rw [HDT.out]; rfl, HBR.out⟩

end Go.Proofs.YtkdileeahbaobaaDoor
