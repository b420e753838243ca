/- Roots of the least of sums, pure: their numbers add up to the degree. -/
import Derived.Test.YtmkbijclbogjhaaTq1
import Derived.Test.YtmkbijclbogjhaaTp1
namespace Go.Proofs.Ytmkbijclbogjhaa

theorem tj_scale {l : List Int} {a b a' b' : Int} (hd : a' * b = a * b') (j : Nat) : tj l a b j * b' = tj l a' b' j * b := by
  have := tj_two l a b a' b' j
  rw [← hd, Int.sub_self, Int.mul_zero] at this
  omega

theorem acc_scale {l : List Int} {a b a' b' : Int} {i k : Nat} (h : Acc l a b i k) (hb' : 1 ≤ b') (hd : a' * b = a * b') : Acc l a' b' i k := by
  have e := tj_scale (l := l) hd
  have hb := h.b1
  have le1 : ∀ x y, tj l a b x ≤ tj l a b y → tj l a' b' x ≤ tj l a' b' y := fun x y hxy => by
    have m := Int.mul_le_mul_of_nonneg_right hxy (show (0 : Int) ≤ b' by omega)
    rw [e x, e y] at m
    exact Int.le_of_mul_le_mul_right m (by omega)
  have le2 : ∀ x y, tj l a' b' x ≤ tj l a' b' y → tj l a b x ≤ tj l a b y := fun x y hxy => by
    have m := Int.mul_le_mul_of_nonneg_right hxy (show (0 : Int) ≤ b by omega)
    rw [← e x, ← e y] at m
    exact Int.le_of_mul_le_mul_right m (by omega)
  have lt1 : ∀ x y, tj l a b x < tj l a b y → tj l a' b' x < tj l a' b' y := fun x y hxy =>
    Int.not_le.1 (fun hle => by have := le2 y x hle; omega)
  refine ⟨hb', h.ik, h.kn, fun j hj => le1 _ _ (h.low j hj), ?_, fun j hj => lt1 _ _ (h.fst j hj), fun j hj hl => lt1 _ _ (h.lst j hj hl)⟩
  have s := h.same
  exact Int.le_antisymm (le1 _ _ (by omega)) (le1 _ _ (by omega))

theorem first_of (P : Nat → Prop) : ∀ m, P m → ∃ i, i ≤ m ∧ P i ∧ ∀ j, j < i → ¬ P j := by
  intro m
  induction m using Nat.strongRecOn with
  | _ m ih =>
    intro hm
    by_cases h : ∃ j, j < m ∧ P j
    · obtain ⟨j, h1, h2⟩ := h
      obtain ⟨i, h3, h4, h5⟩ := ih j h1 h2
      exact ⟨i, by omega, h4, h5⟩
    · exact ⟨m, Nat.le_refl _, hm, fun j hj hp => h ⟨j, hj, hp⟩⟩

theorem last_of (P : Nat → Prop) (n : Nat) : ∀ d m, n = m + 1 + d → P m → ∃ k, m ≤ k ∧ k < n ∧ P k ∧ ∀ j, k < j → j < n → ¬ P j
  | 0, m, hn, hm => ⟨m, Nat.le_refl _, by omega, hm, fun j h1 h2 => by omega⟩
  | d + 1, m, hn, hm => by
    by_cases h : ∃ j, m < j ∧ j < n ∧ P j
    · obtain ⟨j, h1, h2, h3⟩ := h
      obtain ⟨e, he⟩ : ∃ e, n = j + 1 + e := ⟨n - j - 1, by omega⟩
      have hle : e ≤ d := by omega
      obtain ⟨k, k1, k2, k3, k4⟩ := last_aux P n (n - j) j (by omega) h2 h3
      exact ⟨k, by omega, k2, k3, k4⟩
    · exact ⟨m, Nat.le_refl _, by omega, hm, fun j h1 h2 h3 => h ⟨j, h1, h2, h3⟩⟩
where
  last_aux (P : Nat → Prop) (n : Nat) : ∀ f m, n - m ≤ f → m < n → P m → ∃ k, m ≤ k ∧ k < n ∧ P k ∧ ∀ j, k < j → j < n → ¬ P j
    | 0, m, h, hm, _ => by omega
    | f + 1, m, h, hm, hp => by
      by_cases hx : ∃ j, m < j ∧ j < n ∧ P j
      · obtain ⟨j, h1, h2, h3⟩ := hx
        obtain ⟨k, k1, k2, k3, k4⟩ := last_aux P n f j (by omega) h2 h3
        exact ⟨k, by omega, k2, k3, k4⟩
      · exact ⟨m, Nat.le_refl _, hm, hp, fun j h1 h2 h3 => hx ⟨j, h1, h2, h3⟩⟩

/-- Every place between two neighbours is passed. -/
theorem acc_some {l : List Int} {t : Nat} (ht : t + 1 < l.length) : ∃ i k, i ≤ t ∧ t < k ∧ k < l.length ∧ rtB l i k = true := by
  -- of each a the greatest b
  have hb : ∀ a, ∃ b, a ≤ t → (t < b ∧ b < l.length ∧ ∀ y, t < y → y < l.length → (l.getD a 0 - l.getD y 0) * ((b : Int) - a) ≤ (l.getD a 0 - l.getD b 0) * ((y : Int) - a)) := by
    intro a
    by_cases ha : a ≤ t
    · obtain ⟨b, h1, h2, h3⟩ := best_of (R := fun y x => (l.getD a 0 - l.getD (max y (t + 1)) 0) * (((max x (t + 1) : Nat) : Int) - a) ≤ (l.getD a 0 - l.getD (max x (t + 1)) 0) * (((max y (t + 1) : Nat) : Int) - a))
        (fun x => Int.le_refl _) (fun x y => by omega) (fun x y z h1 h2 => quo_le (b := ((max x (t + 1) : Nat) : Int) - a) (d := ((max y (t + 1) : Nat) : Int) - a) (f := ((max z (t + 1) : Nat) : Int) - a) (by omega) (by omega) (by omega) h1 h2) (t + 1) (l.length - 1 - (t + 1))
      refine ⟨b, fun _ => ⟨by omega, by omega, fun y hy1 hy2 => ?_⟩⟩
      have := h3 y (by omega) (by omega)
      rw [show max y (t + 1) = y by omega, show max b (t + 1) = b by omega] at this
      exact this
    · exact ⟨0, fun h => absurd h ha⟩
  obtain ⟨bf, hbf⟩ := Classical.axiomOfChoice hb
  have hbf' : ∀ a, a ≤ t → (a : Int) < (bf a : Int) := fun a ha => by have := (hbf a ha).1; omega
  obtain ⟨a, _, ha2, ha3⟩ := best_of (R := fun y x => (l.getD (min x t) 0 - l.getD (bf (min x t)) 0) * ((bf (min y t) : Int) - (min y t : Nat)) ≤ (l.getD (min y t) 0 - l.getD (bf (min y t)) 0) * ((bf (min x t) : Int) - (min x t : Nat)))
    (fun x => Int.le_refl _) (fun x y => by omega) (fun x y z h1 h2 => quo_le (b := (bf (min z t) : Int) - (min z t : Nat)) (d := (bf (min y t) : Int) - (min y t : Nat)) (f := (bf (min x t) : Int) - (min x t : Nat)) (by have := hbf' (min z t) (by omega); omega) (by have := hbf' (min y t) (by omega); omega) (by have := hbf' (min x t) (by omega); omega) h2 h1) 0 t
  have hat : a ≤ t := by omega
  obtain ⟨hb1, hb2, hb3⟩ := hbf a hat
  have hab : a < bf a := by omega
  obtain ⟨g, g1, g2, g3, g4⟩ := q_fact (l := l) hab
  have hsame := alike (l := l) hab
  have hhigh : ∀ j, t < j → j < l.length → tj l (q0T l a (bf a)) (q1T l a (bf a)) a ≤ tj l (q0T l a (bf a)) (q1T l a (bf a)) j := fun j hj1 hj2 => by
    have h := hb3 j hj1 hj2
    rw [g2, g3] at h
    have e1 : (l.getD a 0 - l.getD j 0) * (g * q1T l a (bf a)) = (l.getD a 0 - l.getD j 0) * q1T l a (bf a) * g := by rw [Int.mul_comm g, ← Int.mul_assoc]
    have e2 : g * q0T l a (bf a) * ((j : Int) - a) = ((j : Int) - a) * q0T l a (bf a) * g := by rw [Int.mul_assoc, Int.mul_comm g, Int.mul_comm (q0T l a (bf a))]
    rw [e1, e2] at h
    have h' := Int.le_of_mul_le_mul_right h (by omega)
    rw [Int.sub_mul, Int.sub_mul] at h'
    unfold tj
    omega
  have hlow : ∀ j, j < l.length → tj l (q0T l a (bf a)) (q1T l a (bf a)) a ≤ tj l (q0T l a (bf a)) (q1T l a (bf a)) j := fun j hj => by
    by_cases hjt : t < j
    · exact hhigh j hjt hj
    · have h := ha3 j (Nat.zero_le _) (by omega)
      rw [show min a t = a by omega, show min j t = j by omega] at h
      obtain ⟨c1, c2, _⟩ := hbf j (by omega)
      have h2 := hhigh (bf j) c1 c2
      rw [g2, g3] at h
      have e1 : g * q0T l a (bf a) * ((bf j : Int) - j) = ((bf j : Int) - j) * q0T l a (bf a) * g := by rw [Int.mul_assoc, Int.mul_comm g, Int.mul_comm (q0T l a (bf a))]
      have e2 : (l.getD j 0 - l.getD (bf j) 0) * (g * q1T l a (bf a)) = (l.getD j 0 - l.getD (bf j) 0) * q1T l a (bf a) * g := by rw [Int.mul_comm g, ← Int.mul_assoc]
      rw [e1, e2] at h
      have h' := Int.le_of_mul_le_mul_right h (by omega)
      rw [Int.sub_mul, Int.sub_mul] at h'
      unfold tj at h2 ⊢
      omega
  obtain ⟨i, i1, i2, i3⟩ := first_of (fun j => tj l (q0T l a (bf a)) (q1T l a (bf a)) j = tj l (q0T l a (bf a)) (q1T l a (bf a)) a) a rfl
  obtain ⟨k, k1, k2, k3, k4⟩ := last_of (fun j => tj l (q0T l a (bf a)) (q1T l a (bf a)) j = tj l (q0T l a (bf a)) (q1T l a (bf a)) a) l.length (l.length - bf a - 1) (bf a) (by omega) hsame.symm
  have hik : i < k := by omega
  have hacc : Acc l (q0T l a (bf a)) (q1T l a (bf a)) i k := by
    refine ⟨g4, hik, k2, fun j hj => by rw [i2]; exact hlow j hj, by rw [i2]; exact k3.symm, fun j hj => ?_, fun j hj1 hj2 => ?_⟩
    · have h1 := hlow j (by omega)
      have h2 := i3 j hj
      rw [i2]
      omega
    · have h1 := hlow j hj2
      have h2 := k4 j hj1 hj2
      rw [i2]
      omega
  refine ⟨i, k, by omega, by omega, k2, (rtB_acc hik k2).2 ?_⟩
  obtain ⟨g', g1', g2', g3', g4'⟩ := q_fact (l := l) hik
  refine acc_scale hacc g4' ?_
  have hs := hacc.same
  generalize q0T l a (bf a) = A at *
  generalize q1T l a (bf a) = C at *
  generalize q0T l i k = A' at *
  generalize q1T l i k = C' at *
  unfold tj at hs
  have e : (l.getD i 0 - l.getD k 0) * C = ((k : Int) - i) * A := by rw [Int.sub_mul, Int.sub_mul]; omega
  rw [g2', g3', Int.mul_assoc, Int.mul_assoc] at e
  have := Int.eq_of_mul_eq_mul_left (by omega) e
  rw [this, Int.mul_comm]

end Go.Proofs.Ytmkbijclbogjhaa
