/- Heights, degrees and lengths, pure. -/
import Derived.Test.YtjpmhgidckmdoaaWkC
namespace Go.Proofs.Ytjpmhgidckmdoaa

def hgN (b : List Int) : Nat := b.sum.toNat

/-- A list, made longer by 0s till it has a place. -/
def lng (M : List Int) (h : Nat) : List Int := M ++ List.replicate (h + 1 - M.length) 0

/-- One more at a place. -/
def bmp (M : List Int) (h : Nat) : List Int := (lng M h).set h ((lng M h).getD h 0 + 1)

/-- How many there are of each height. -/
def ohL (R : List (List Int)) : List Int := R.foldl (fun M b => bmp M (hgN b)) []

theorem lng_len (M : List Int) (h : Nat) : (lng M h).length = max M.length (h + 1) := by
  simp [lng]; omega

theorem app_zero (M : List Int) (k j : Nat) : (M ++ List.replicate k 0).getD j 0 = M.getD j 0 := by
  by_cases h1 : j < M.length
  · simp [List.getElem?_append_left h1]
  · rw [List.getD_eq_getElem?_getD, List.getD_eq_getElem?_getD, List.getElem?_append_right (by omega), List.getElem?_eq_none (l := M) (by omega)]
    by_cases h2 : j - M.length < k
    · rw [List.getElem?_replicate_of_lt h2]; rfl
    · rw [List.getElem?_eq_none (by simp; omega)]

theorem lng_at (M : List Int) (h j : Nat) : (lng M h).getD j 0 = M.getD j 0 := app_zero M _ j

theorem bmp_len (M : List Int) (h : Nat) : (bmp M h).length = max M.length (h + 1) := by
  unfold bmp; rw [List.length_set, lng_len]

theorem set_at (l : List Int) (h j : Nat) (x : Int) (hh : h < l.length) : (l.set h x).getD j 0 = if j = h then x else l.getD j 0 := by
  by_cases e : j = h
  · subst e; rw [if_pos rfl]; simp [hh]
  · rw [if_neg e, List.getD_eq_getElem?_getD, List.getElem?_set_ne (fun e2 => e e2.symm), ← List.getD_eq_getElem?_getD]

theorem bmp_at (M : List Int) (h j : Nat) : (bmp M h).getD j 0 = M.getD j 0 + if j = h then 1 else 0 := by
  unfold bmp
  rw [set_at _ _ _ _ (by rw [lng_len]; omega), lng_at, lng_at]
  by_cases e : j = h
  · subst e; rw [if_pos rfl, if_pos rfl]
  · rw [if_neg e, if_neg e]; omega

theorem bmp_comm (M : List Int) (h k : Nat) : bmp (bmp M h) k = bmp (bmp M k) h := by
  refine list_ext (n := (bmp (bmp M h) k).length) rfl (by simp only [bmp_len]; omega) fun j _ => ?_
  rw [bmp_at, bmp_at, bmp_at, bmp_at]; omega

theorem ohL_perm {m m' : List (List Int)} (h : m'.Perm m) : ohL m' = ohL m :=
  List.Perm.foldl_eq' h (fun x _ y _ z => bmp_comm z (hgN x) (hgN y)) []

theorem ohL_snoc (m : List (List Int)) (k : Nat) (hk : k < m.length) : ohL (m.take (k + 1)) = bmp (ohL (m.take k)) (hgN (m.getD k [])) := by
  have e : m.getD k [] = m[k] := by simp [hk]
  unfold ohL
  rw [List.take_succ_eq_append_getElem hk, List.foldl_append, e]; rfl

theorem ohL_bd (m : List (List Int)) : ∀ k, k ≤ m.length → ∀ j, 0 ≤ (ohL (m.take k)).getD j 0 ∧ (ohL (m.take k)).getD j 0 ≤ k
  | 0, _, j => by simp [ohL]
  | k + 1, hk, j => by
    have := ohL_bd m k (by omega) j
    rw [ohL_snoc m k (by omega), bmp_at]
    split <;> omega

theorem ohL_lb (m : List (List Int)) {H : Nat} (hH : ∀ b ∈ m, hgN b ≤ H) : ∀ k, k ≤ m.length → (ohL (m.take k)).length ≤ H + 1
  | 0, _ => by simp [ohL]
  | k + 1, hk => by
    have h1 := ohL_lb m hH k (by omega)
    have e : m.getD k [] = m[k] := by simp [show k < m.length by omega]
    have h2 := hH (m.getD k []) (by rw [e]; exact List.getElem_mem _)
    rw [ohL_snoc m k (by omega), bmp_len]
    omega

/-- Degrees, by counts of heights. -/
def dgF (n : Nat) (M : List Int) : Nat → Nat → Int
  | 0, _ => 1
  | k + 1, j => dgF n M k j + if n - 1 - j < (M.getD k 0).toNat then 1 else 0

def dgL (n : Nat) (M : List Int) : List Int := (List.range n).map (dgF n M M.length)

theorem dgF_bd (n : Nat) (M : List Int) : ∀ k j, 1 ≤ dgF n M k j ∧ dgF n M k j ≤ k + 1
  | 0, _ => by simp [dgF]
  | k + 1, j => by
    have := dgF_bd n M k j
    show 1 ≤ dgF n M k j + (if n - 1 - j < (M.getD k 0).toNat then 1 else 0) ∧ dgF n M k j + (if n - 1 - j < (M.getD k 0).toNat then 1 else 0) ≤ ((k + 1 : Nat) : Int) + 1
    split <;> omega

/-- A product with 1 + t + .. -/
def spF (p : List Int) (d : Nat) : Nat → Nat → Int
  | 0, _ => 0
  | i + 1, j => spF p d i j + if i ≤ j ∧ j < i + d then p.getD i 0 else 0

def spr (p : List Int) (d : Nat) : List Int := (List.range (p.length + d - 1)).map (spF p d p.length)

theorem spF_bd {p : List Int} {B : Int} (hB : 0 ≤ B) (hp : ∀ x ∈ p, 0 ≤ x ∧ x ≤ B) (d : Nat) : ∀ i j, 0 ≤ spF p d i j ∧ spF p d i j ≤ B * i
  | 0, _ => by simp [spF]
  | i + 1, j => by
    have h1 := spF_bd hB hp d i j
    have h2 : 0 ≤ p.getD i 0 ∧ p.getD i 0 ≤ B := by
      by_cases hi : i < p.length
      · have e : p.getD i 0 = p[i] := by simp [hi]
        rw [e]; exact hp _ (List.getElem_mem _)
      · rw [List.getD_eq_getElem?_getD, List.getElem?_eq_none (by omega)]
        exact ⟨Int.le_refl _, hB⟩
    show 0 ≤ spF p d i j + (if i ≤ j ∧ j < i + d then p.getD i 0 else 0) ∧ spF p d i j + (if i ≤ j ∧ j < i + d then p.getD i 0 else 0) ≤ B * ((i + 1 : Nat) : Int)
    have e : B * ((i + 1 : Nat) : Int) = B * i + B := by rw [Int.natCast_add, Int.mul_add]; simp
    rw [e]
    split <;> omega

def lnL (d : List Int) : List Int := d.foldl (fun p x => spr p x.toNat) [1]

def pdL (d : List Int) : Int := d.foldl (· * ·) 1

theorem lnL_snoc (d : List Int) (k : Nat) (hk : k < d.length) : lnL (d.take (k + 1)) = spr (lnL (d.take k)) (d.getD k 0).toNat := by
  have e : d.getD k 0 = d[k] := by simp [hk]
  unfold lnL
  rw [List.take_succ_eq_append_getElem hk, List.foldl_append, e]; rfl

theorem pdL_snoc (d : List Int) (k : Nat) (hk : k < d.length) : pdL (d.take (k + 1)) = pdL (d.take k) * d.getD k 0 := by
  have e : d.getD k 0 = d[k] := by simp [hk]
  unfold pdL
  rw [List.take_succ_eq_append_getElem hk, List.foldl_append, e]; rfl

/-- What is to be seen of the counts of heights. -/
def DgP (n : Nat) (M : List Int) (N : Nat) : Prop :=
  (∀ m ∈ M, 0 ≤ m ∧ m ≤ n) ∧ M.length ≤ 100 ∧ (∀ x ∈ dgL n M, 1 ≤ x ∧ x ≤ 30) ∧
  (∀ k, k < n + 1 → (lnL ((dgL n M).take k)).length ≤ 100 ∧ 1 ≤ (lnL ((dgL n M).take k)).length ∧ (∀ x ∈ lnL ((dgL n M).take k), 0 ≤ x ∧ x ≤ 2000) ∧ 0 ≤ pdL ((dgL n M).take k) ∧ pdL ((dgL n M).take k) ≤ 2000) ∧
  (lnL (dgL n M)).length = N + 1 ∧ (∀ i, i < (lnL (dgL n M)).length → (lnL (dgL n M)).getD i 0 = (lnL (dgL n M)).getD ((lnL (dgL n M)).length - 1 - i) 0 ∧ 1 ≤ (lnL (dgL n M)).getD i 0) ∧
  (lnL (dgL n M)).sum = pdL (dgL n M)

instance (n : Nat) (M : List Int) (N : Nat) : Decidable (DgP n M N) := by unfold DgP; infer_instance

/-- What is to be seen of a square, beside M, its counts, and N. -/
def ChP (c : List (List Int)) (M : List Int) (N : Nat) : Prop :=
  (∀ b ∈ abL c, 0 ≤ b.sum ∧ b.sum ≤ 90) ∧ (abL c).length = N ∧ (posR c).length = N ∧ ohL (abL c) = M

instance (c : List (List Int)) (M : List Int) (N : Nat) : Decidable (ChP c M N) := by unfold ChP; infer_instance

set_option maxRecDepth 100000 in
set_option maxHeartbeats 0 in
theorem dg_all : ∀ ps ∈ nmL, DgP (mkL ps).length (ohL (abL (mkL ps))) (abL (mkL ps)).length := by decide +kernel

end Go.Proofs.Ytjpmhgidckmdoaa
