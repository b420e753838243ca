/- Plain facts on sums, and on the determinant as a sum over all choices of columns. -/

namespace Go.Proofs.Ytkgljfnbaoncbaa.Lin

/-- The sum of f over 0 .. n - 1. -/
def sumN : Nat → (Nat → Int) → Int
  | 0, _ => 0
  | n + 1, f => sumN n f + f n

theorem sumN_congr {n : Nat} {f g : Nat → Int} (h : ∀ i, i < n → f i = g i) : sumN n f = sumN n g := by
  induction n with
  | zero => rfl
  | succ n ih => simp only [sumN]; rw [ih (fun i hi => h i (by omega)), h n (by omega)]

theorem sumN_zero {n : Nat} {f : Nat → Int} (h : ∀ i, i < n → f i = 0) : sumN n f = 0 := by
  induction n with
  | zero => rfl
  | succ n ih => simp only [sumN]; rw [ih (fun i hi => h i (by omega)), h n (by omega)]; rfl

theorem sumN_add (n : Nat) (f g : Nat → Int) : sumN n (fun i => f i + g i) = sumN n f + sumN n g := by
  induction n with
  | zero => rfl
  | succ n ih => simp only [sumN]; rw [ih]; omega

theorem sumN_mul (n : Nat) (c : Int) (f : Nat → Int) : sumN n (fun i => c * f i) = c * sumN n f := by
  induction n with
  | zero => simp [sumN]
  | succ n ih => simp only [sumN]; rw [ih, Int.mul_add]

theorem sumN_neg (n : Nat) (f : Nat → Int) : sumN n (fun i => - f i) = - sumN n f := by
  induction n with
  | zero => rfl
  | succ n ih => simp only [sumN]; rw [ih]; omega

/-- Is a number beyond k used an odd number of times? The sign of a choice. -/
def sg : Nat → (Nat → Bool) → Nat → Int
  | 0, _, _ => 1
  | n + 1, U, k => if k < n ∧ U n = true then - sg n U k else sg n U k

def ins (U : Nat → Bool) (k : Nat) : Nat → Bool := fun j => if j = k then true else U j

/-- The determinant of rows, by all choices of columns 0 .. n - 1 that are not used. -/
def od (n : Nat) : List (Nat → Int) → (Nat → Bool) → Int
  | [], _ => 1
  | r :: rs, U => sumN n fun k => if U k then 0 else sg n U k * r k * od n rs (ins U k)

def lc (a : Int) (u : Nat → Int) (b : Int) (v : Nat → Int) : Nat → Int := fun k => a * u k + b * v k

end Go.Proofs.Ytkgljfnbaoncbaa.Lin

/- Plain facts on determinants: rows that hang on others, elimination, how many vectors can be free. -/
namespace Go.Proofs.Ytkgljfnbaoncbaa.Lin

def row (L : List (Nat → Int)) (i : Nat) : Nat → Int := L.getD i fun _ => 0

theorem set_at {A B : List (Nat → Int)} {x y : Nat → Int} {p : Nat} (h : A.length = p) : (A ++ x :: B).set p y = A ++ y :: B := by
  subst h; simp

/-- Rising columns below c. -/
def Rising (m c : Nat) (C : Nat → Nat) : Prop := (∀ i j, i < j → j < m → C i < C j) ∧ ∀ i, i < m → C i < c

def cols (L : List (Nat → Int)) (C : Nat → Nat) : List (Nat → Int) := L.map fun r => fun k => r (C k)

end Go.Proofs.Ytkgljfnbaoncbaa.Lin

/- Plain facts: elimination; as many free vectors as there are at most. -/
namespace Go.Proofs.Ytkgljfnbaoncbaa.Lin

def unsk (p j : Nat) : Nat := if j < p then j else j - 1

end Go.Proofs.Ytkgljfnbaoncbaa.Lin

/- Plain facts: elimination without fractions: what its numbers are. -/
namespace Go.Proofs.Ytkgljfnbaoncbaa.Lin

/-- The places of k chosen columns and one more. -/
def posn (C : Nat → Nat) (k j : Nat) : Nat → Nat := fun b => if b < k then C b else j

def srows (M : Nat → Nat → Int) (k : Nat) : List (Nat → Int) := (List.range k).map M

/-- The first k rows and u, at the first k columns and j. -/
def rho (M : Nat → Nat → Int) (C : Nat → Nat) (k : Nat) (u : Nat → Int) (j : Nat) : Int := od (k + 1) (cols (srows M k ++ [u]) (posn C k j)) fun _ => false

def dk (M : Nat → Nat → Int) (C : Nat → Nat) (k : Nat) : Int := od k (cols (srows M k) C) fun _ => false

def cf (k a : Nat) : Nat → Int := fun i => if i = k then 1 else if i = a then -1 else 0

def unit (q : Nat) : Nat → Int := fun j => if j = q then 1 else 0

/-- The numbers of elimination: of a row that was chosen, and of another one. -/
def rr (M : Nat → Nat → Int) (C : Nat → Nat) (k i j : Nat) : Int :=
  if i < k then dk M C k * unit (C i) j - rho M C k (unit (C i)) j else rho M C k (M i) j

end Go.Proofs.Ytkgljfnbaoncbaa.Lin

/- Plain facts: bounds of determinants; what elimination tells: the rank, the one direction. -/
namespace Go.Proofs.Ytkgljfnbaoncbaa.Lin

/-- m! times B^m. -/
def fb (B : Nat) : Nat → Nat
  | 0 => 1
  | m + 1 => (m + 1) * B * fb B m

/-- What elimination has come to. -/
structure Done (M : Nat → Nat → Int) (n c k : Nat) (C : Nat → Nat) : Prop where
  kn : k ≤ n
  rise : Rising k c C
  nz : dk M C k ≠ 0
  zero : ∀ i, k ≤ i → i < n → ∀ j, j < c → rr M C k i j = 0

end Go.Proofs.Ytkgljfnbaoncbaa.Lin

/- Plain facts: greedy choice of free rows; the direction that minors tell. -/
namespace Go.Proofs.Ytkgljfnbaoncbaa.Lin

/-! Columns but one. -/

def up (k : Nat) (U : Nat → Bool) : Nat → Bool := fun j => if j = k then true else U (unsk k j)

end Go.Proofs.Ytkgljfnbaoncbaa.Lin

/- Plain facts: lists divided by what they have in common, turned upright. -/
namespace Go.Proofs.Ytkgljfnbaoncbaa.Lin

def gcf (g : Nat) (l : List Int) : Nat := l.foldl (fun g v => Nat.gcd g v.natAbs) g
def gc (l : List Int) : Nat := gcf 0 l

def low (l : List Int) : List Int := l.map (· / (gc l : Int))

/-- The first number that is not 0 is above 0, or all signs are turned. -/
def upr (l : List Int) : List Int := if (l.find? (fun v => v != 0)).getD 0 < 0 then l.map (fun v => -v) else l

end Go.Proofs.Ytkgljfnbaoncbaa.Lin

/- Plain facts: directions that are 0 with some rows; corners of a cone of directions. -/
namespace Go.Proofs.Ytkgljfnbaoncbaa.Lin

def dot (d : Nat) (a x : Nat → Int) : Int := sumN d fun i => a i * x i

theorem dot_lc (d : Nat) (s r : Int) (a b x : Nat → Int) : dot d (fun k => s * a k + r * b k) x = s * dot d a x + r * dot d b x := by
  unfold dot
  rw [← sumN_mul, ← sumN_mul, ← sumN_add]
  exact sumN_congr fun i _ => by grind

theorem dot_zero {d : Nat} {a x : Nat → Int} (h : ∀ i, i < d → a i = 0) : dot d a x = 0 := sumN_zero fun i hi => by rw [h i hi, Int.zero_mul]

/-- Two directions are one. -/
def Par (d : Nat) (u a : Nat → Int) : Prop := ∀ i j, i < d → j < d → u i * a j = u j * a i

end Go.Proofs.Ytkgljfnbaoncbaa.Lin

/- Plain facts: the directions in which a point is greatest hang on its rows. -/
namespace Go.Proofs.Ytkgljfnbaoncbaa.Lin

/-- How many differences a direction is not 0 with. -/
def loose (d : Nat) (Z : List (Nat → Int)) (c : Nat → Int) : Nat := Z.countP fun z => decide (dot d c z ≠ 0)

theorem loose_lt {d : Nat} {Z : List (Nat → Int)} {c e : Nat → Int} (h : ∀ z ∈ Z, dot d c z = 0 → dot d e z = 0) {z1 : Nat → Int} (hz : z1 ∈ Z) (hc : dot d c z1 ≠ 0) (he : dot d e z1 = 0) : loose d Z e < loose d Z c := by
  unfold loose
  obtain ⟨A, B, rfl⟩ := List.append_of_mem hz
  have mono : ∀ X : List (Nat → Int), (∀ z ∈ X, dot d c z = 0 → dot d e z = 0) → X.countP (fun z => decide (dot d e z ≠ 0)) ≤ X.countP (fun z => decide (dot d c z ≠ 0)) := by
    intro X hX
    refine List.countP_mono_left fun z hz hp => ?_
    simp only [decide_eq_true_eq] at hp ⊢
    exact fun h0 => hp (hX z hz h0)
  have h1 := mono A fun z hz => h z (by simp [hz])
  have h2 := mono B fun z hz => h z (by simp [hz])
  rw [List.countP_append, List.countP_append, List.countP_cons_of_neg (by simp [he]), List.countP_cons_of_pos (by simp [hc])]
  omega

/-- Of things each of which has a quotient, one with the least. -/
theorem least_ratio {α : Type} {f g : α → Int} : ∀ {X : List α}, X ≠ [] → (∀ z ∈ X, 0 < g z) → ∃ z1, z1 ∈ X ∧ ∀ z ∈ X, f z1 * g z ≤ f z * g z1
  | [x], _, _ => ⟨x, by simp, fun z hz => by simp at hz; subst hz; exact Int.le_refl _⟩
  | x :: y :: X, _, hg => by
    obtain ⟨z1, h1, h2⟩ := least_ratio (f := f) (g := g) (X := y :: X) (by simp) (fun z hz => hg z (List.mem_cons_of_mem _ hz))
    have g1 := hg z1 (List.mem_cons_of_mem _ h1)
    have gx := hg x (by simp)
    by_cases hc : f x * g z1 ≤ f z1 * g x
    · refine ⟨x, by simp, fun z hz => ?_⟩
      rcases List.mem_cons.1 hz with rfl | hz
      · exact Int.le_refl _
      · have h3 := h2 z hz
        have gz := hg z (List.mem_cons_of_mem _ hz)
        have a1 : f x * g z1 * g z ≤ f z1 * g x * g z := Int.mul_le_mul_of_nonneg_right hc (Int.le_of_lt gz)
        have a2 : f z1 * g z * g x ≤ f z * g z1 * g x := Int.mul_le_mul_of_nonneg_right h3 (Int.le_of_lt gx)
        have a3 : g z1 * (f x * g z) ≤ g z1 * (f z * g x) := by
          have e1 : g z1 * (f x * g z) = f x * g z1 * g z := by grind
          have e2 : g z1 * (f z * g x) = f z * g z1 * g x := by grind
          have e3 : f z1 * g x * g z = f z1 * g z * g x := by grind
          omega
        exact Int.le_of_mul_le_mul_left a3 g1
    · refine ⟨z1, List.mem_cons_of_mem _ h1, fun z hz => ?_⟩
      rcases List.mem_cons.1 hz with rfl | hz
      · omega
      · exact h2 z hz

/-- From a direction on, along another one, to the first difference that stops it. -/
theorem ray {d : Nat} {Z : List (Nat → Int)} {c w : Nat → Int} (hc : ∀ z ∈ Z, dot d c z ≤ 0) (hw : ∀ z ∈ Z, dot d c z = 0 → dot d w z = 0) (hp : ∃ z, z ∈ Z ∧ 0 < dot d w z) :
    ∃ s r : Int, 0 < s ∧ 0 < r ∧ (∀ z ∈ Z, dot d (fun k => s * c k + r * w k) z ≤ 0) ∧ loose d Z (fun k => s * c k + r * w k) < loose d Z c := by
  obtain ⟨z0, hz0, hp0⟩ := hp
  obtain ⟨z1, h1, h2⟩ := least_ratio (f := fun z => - dot d c z) (g := fun z => dot d w z) (X := Z.filter fun z => decide (0 < dot d w z)) (by
      intro he
      have : z0 ∈ Z.filter fun z => decide (0 < dot d w z) := by simp [hz0, hp0]
      rw [he] at this; simp at this) (fun z hz => by simpa using (List.mem_filter.1 hz).2)
  have hz1 := (List.mem_filter.1 h1).1
  have hw1 : 0 < dot d w z1 := by simpa using (List.mem_filter.1 h1).2
  have hc1 : dot d c z1 < 0 := by
    have h3 := hc z1 hz1
    rcases Int.lt_or_eq_of_le h3 with h | h
    · exact h
    · have := hw z1 hz1 h; omega
  refine ⟨dot d w z1, - dot d c z1, hw1, by omega, fun z hz => ?_, loose_lt (z1 := z1) (fun z hz h0 => ?_) hz1 (by omega) ?_⟩
  · rw [dot_lc]
    have hcz := hc z hz
    by_cases hwz : 0 < dot d w z
    · have h3 : - dot d c z1 * dot d w z ≤ - dot d c z * dot d w z1 := h2 z (by simp [hz, hwz])
      have e1 : - dot d c z1 * dot d w z = -(dot d c z1 * dot d w z) := by grind
      have e2 : - dot d c z * dot d w z1 = -(dot d w z1 * dot d c z) := by grind
      omega
    · have a1 : dot d w z1 * dot d c z ≤ 0 := Int.mul_nonpos_of_nonneg_of_nonpos (Int.le_of_lt hw1) hcz
      have a2 : - dot d c z1 * dot d w z ≤ 0 := Int.mul_nonpos_of_nonneg_of_nonpos (by omega) (by omega)
      omega
  · rw [dot_lc, h0, hw z hz h0]; omega
  · rw [dot_lc]; grind

theorem dot_neg (d : Nat) (a x : Nat → Int) : dot d (fun k => - a k) x = - dot d a x := by
  unfold dot
  rw [← sumN_neg]
  exact sumN_congr fun i _ => by grind

/-- What is not above 0 with the sides' directions is so with every direction in which the point is greatest. -/
theorem cone {d : Nat} {Z : List (Nat → Int)} {v : Nat → Int} (hspan : ∀ c : Nat → Int, (∀ z ∈ Z, dot d c z = 0) → ∀ i, i < d → c i = 0)
    (hside : ∀ c : Nat → Int, (∃ i, i < d ∧ c i ≠ 0) → (∀ z ∈ Z, dot d c z ≤ 0) → (∀ u : Nat → Int, (∀ z ∈ Z, dot d c z = 0 → dot d u z = 0) → Par d u c) → dot d c v ≤ 0) :
    ∀ (n : Nat) (c : Nat → Int), loose d Z c ≤ n → (∀ z ∈ Z, dot d c z ≤ 0) → dot d c v ≤ 0 := by
  intro n
  induction n with
  | zero =>
    intro c hn hc
    have h0 : loose d Z c = 0 := by omega
    unfold loose at h0
    rw [List.countP_eq_zero] at h0
    exact Int.le_of_eq (dot_zero (hspan c fun z hz => by have := h0 z hz; simpa using this))
  | succ n ih =>
    intro c hn hc
    by_cases hall : ∀ z ∈ Z, dot d c z = 0
    · exact Int.le_of_eq (dot_zero (hspan c hall))
    · have : ∃ z0, z0 ∈ Z ∧ dot d c z0 ≠ 0 := Classical.byContradiction fun h => hall fun z hz => Classical.byContradiction fun hne => h ⟨z, hz, hne⟩
      obtain ⟨z0, hz0, hcz0⟩ := this
      have hcne : ∃ i, i < d ∧ c i ≠ 0 := Classical.byContradiction fun h => hcz0 (dot_zero fun i hi => Classical.byContradiction fun hne => h ⟨i, hi, hne⟩)
      by_cases hp : ∀ u : Nat → Int, (∀ z ∈ Z, dot d c z = 0 → dot d u z = 0) → Par d u c
      · exact hside c hcne hc hp
      · have : ∃ u : Nat → Int, (∀ z ∈ Z, dot d c z = 0 → dot d u z = 0) ∧ ¬ Par d u c := Classical.byContradiction fun h => hp fun u hu => Classical.byContradiction fun hne => h ⟨u, hu, hne⟩
        obtain ⟨u, hu, hnp⟩ := this
        have : ∃ i j, i < d ∧ j < d ∧ u i * c j ≠ u j * c i := Classical.byContradiction fun h => hnp fun i j hi hj => Classical.byContradiction fun hne => h ⟨i, j, hi, hj, hne⟩
        obtain ⟨i, j, hi, hj, hne⟩ := this
        -- a direction that is 0 with all that c is, and with one more
        obtain ⟨w, hwdef⟩ : ∃ w : Nat → Int, w = fun k => dot d c z0 * u k + (- dot d u z0) * c k := ⟨_, rfl⟩
        have hwz : ∀ z, dot d w z = dot d c z0 * dot d u z + (- dot d u z0) * dot d c z := fun z => by rw [hwdef, dot_lc]
        have hw0 : dot d w z0 = 0 := by rw [hwz]; grind
        have hwt : ∀ z ∈ Z, dot d c z = 0 → dot d w z = 0 := fun z hz h0 => by rw [hwz, hu z hz h0, h0]; omega
        have hwn : ∃ z, z ∈ Z ∧ dot d w z ≠ 0 := by
          refine Classical.byContradiction fun h => ?_
          have hz := hspan w fun z hz => Classical.byContradiction fun hne => h ⟨z, hz, hne⟩
          have e1 := hz i hi
          have e2 := hz j hj
          rw [hwdef] at e1 e2
          simp only at e1 e2
          have e3 : dot d c z0 * (u i * c j - u j * c i) = 0 := by
            have : (dot d c z0 * u i + - dot d u z0 * c i) * c j - (dot d c z0 * u j + - dot d u z0 * c j) * c i = 0 := by rw [e1, e2]; omega
            grind
          rcases Int.mul_eq_zero.1 e3 with h | h
          · exact hcz0 h
          · omega
        have more : ∀ e : Nat → Int, (∀ z ∈ Z, dot d c z = 0 → dot d e z = 0) → (∀ z ∈ Z, dot d e z ≤ 0) → dot d e z0 = 0 → dot d e v ≤ 0 := fun e h1 h2 h3 =>
          ih e (by have := loose_lt h1 hz0 hcz0 h3; omega) h2
        have up : (∃ z, z ∈ Z ∧ 0 < dot d w z) → ∃ s r : Int, 0 < s ∧ 0 < r ∧ s * dot d c v + r * dot d w v ≤ 0 := by
          intro h
          obtain ⟨s, r, hs, hr, h1, h2⟩ := ray hc hwt h
          exact ⟨s, r, hs, hr, by rw [← dot_lc]; exact ih _ (by omega) h1⟩
        have dn : (∃ z, z ∈ Z ∧ dot d w z < 0) → ∃ s r : Int, 0 < s ∧ 0 < r ∧ s * dot d c v - r * dot d w v ≤ 0 := by
          rintro ⟨z, hz, hlt⟩
          obtain ⟨s, r, hs, hr, h1, h2⟩ := ray (w := fun k => - w k) hc (fun z hz h0 => by rw [dot_neg, hwt z hz h0]; rfl) ⟨z, hz, by rw [dot_neg]; omega⟩
          have h3 := ih _ (by omega) h1
          rw [dot_lc, dot_neg] at h3
          exact ⟨s, r, hs, hr, by rw [Int.mul_neg] at h3; omega⟩
        have fin : ∀ {s x : Int}, 0 < s → s * x ≤ 0 → x ≤ 0 := fun {s x} hs h => by
          rcases Int.lt_or_le 0 x with h1 | h1
          · have := Int.mul_pos hs h1; omega
          · exact h1
        by_cases hup : ∃ z, z ∈ Z ∧ 0 < dot d w z
        · obtain ⟨s, r, hs, hr, h1⟩ := up hup
          by_cases hdn : ∃ z, z ∈ Z ∧ dot d w z < 0
          · obtain ⟨s', r', hs', hr', h2⟩ := dn hdn
            have h3 : (s * r' + s' * r) * dot d c v ≤ 0 := by
              have e1 : r' * (s * dot d c v + r * dot d w v) ≤ 0 := Int.mul_nonpos_of_nonneg_of_nonpos (Int.le_of_lt hr') h1
              have e2 : r * (s' * dot d c v - r' * dot d w v) ≤ 0 := Int.mul_nonpos_of_nonneg_of_nonpos (Int.le_of_lt hr) h2
              have e3 : (s * r' + s' * r) * dot d c v = r' * (s * dot d c v + r * dot d w v) + r * (s' * dot d c v - r' * dot d w v) := by grind
              omega
            exact fin (by have := Int.mul_pos hs hr'; have := Int.mul_pos hs' hr; omega) h3
          · have h2 : dot d (fun k => - w k) v ≤ 0 := more _ (fun z hz h0 => by rw [dot_neg, hwt z hz h0]; rfl) (fun z hz => by
              rw [dot_neg]
              rcases Int.lt_or_le (dot d w z) 0 with h | h
              · exact absurd ⟨z, hz, h⟩ hdn
              · omega) (by rw [dot_neg, hw0]; rfl)
            rw [dot_neg] at h2
            have h4 : 0 ≤ r * dot d w v := Int.mul_nonneg (Int.le_of_lt hr) (by omega)
            exact fin hs (by omega)
        · have h2 : dot d w v ≤ 0 := more w hwt (fun z hz => by
            rcases Int.lt_or_le 0 (dot d w z) with h | h
            · exact absurd ⟨z, hz, h⟩ hup
            · exact h) hw0
          obtain ⟨z, hz, hzn⟩ := hwn
          obtain ⟨s', r', hs', hr', h3⟩ := dn ⟨z, hz, by
            rcases Int.lt_or_le 0 (dot d w z) with h | h
            · exact absurd ⟨z, hz, h⟩ hup
            · omega⟩
          have h4 : r' * dot d w v ≤ 0 := Int.mul_nonpos_of_nonneg_of_nonpos (Int.le_of_lt hr') h2
          exact fin hs' (by omega)

end Go.Proofs.Ytkgljfnbaoncbaa.Lin
