/- All squares of names, in every order: good. -/
import Derived.Test.YtekifompoefhbaaWk6
namespace Go.Proofs.Ytekifompoefhbaa

def trM (c : List (List Int)) : List (List Int) := (List.range c.length).map fun i => (List.range c.length).map fun j => cE c j i

/-- The roots by rows. -/
def posR (c : List (List Int)) : List (List Int) := abL (trM c)

def RtP (c R : List (List Int)) : Prop :=
  R.Nodup ∧ (∀ b ∈ R, b.length = c.length) ∧ (∀ b ∈ R, ∀ k, k < c.length → 0 ≤ b.getD k 0) ∧ (∀ b ∈ R, 0 < sm c.length fun k => b.getD k 0) ∧ (∀ r, r < c.length → un c.length r ∈ R) ∧
  (∀ r, r < c.length → ((R.erase (un c.length r)).map (ctn c r)).Perm (R.erase (un c.length r))) ∧ (∀ r, r < c.length → cE c r r = 2)

instance (c R : List (List Int)) : Decidable (RtP c R) := by unfold RtP; infer_instance

def GdP (n : Nat) (c : List (List Int)) : Prop :=
  (c.length = n ∧ 1 ≤ n ∧ n ≤ 4 ∧ (∀ r ∈ c, r.length = n)) ∧ (∀ i, i < n → ∀ j, j < n → -3 ≤ cE c i j ∧ cE c i j ≤ 3) ∧
  (∀ i, i < n → cE c i i = 2) ∧ (∀ i, i < n → ∀ j, j < n → i ≠ j → (-3 ≤ cE c i j ∧ cE c i j ≤ 0) ∧ (cE c i j = 0 ↔ cE c j i = 0)) ∧
  (abL c).length ≤ 24 ∧ (∀ b ∈ abL c, b.length = n ∧ ∀ x ∈ b, -1000 ≤ x ∧ x ≤ 1000) ∧ RtP c (posR c) ∧ (posR c).length ≤ 24 ∧ qS n (posR c) (ones n) ≤ 1000

instance (n : Nat) (c : List (List Int)) : Decidable (GdP n c) := by unfold GdP; infer_instance

theorem getD_bd {b : List Int} {M : Int} (hM : 0 ≤ M) (h : ∀ x ∈ b, -M ≤ x ∧ x ≤ M) (k : Nat) : -M ≤ b.getD k 0 ∧ b.getD k 0 ≤ M := by
  by_cases hk : k < b.length
  · have := h (b.getD k 0) (by simp [hk])
    exact this
  · have : b.getD k 0 = 0 := by rw [List.getD_eq_getElem?_getD, List.getElem?_eq_none (by omega)]; rfl
    omega

theorem gda_of {n : Nat} {c : List (List Int)} (h : GdP n c) : Gda n c (posR c) := by
  obtain ⟨⟨h1, h2, h3, h4⟩, h5, h6, h7, h8, h9, ⟨r1, r2, r3, r4, r5, r6, r7⟩, h11, h12⟩ := h
  refine ⟨⟨⟨h1, h3, h4, fun i j => ?_⟩, h2, h6, fun i j hi hj => h7 i hi j hj, h8, fun b hb => ⟨(h9 b hb).1, fun k => getD_bd (by omega) (h9 b hb).2 k⟩⟩, ⟨r1, r2, r3, r4, r5, r6, r7⟩, h11, h12⟩
  by_cases hi : i < n
  · by_cases hj : j < n
    · exact h5 i hi j hj
    · have hl : (c.getD i []).length = n := h4 _ (by simp [h1, hi])
      have : cE c i j = 0 := by unfold cE; rw [List.getD_eq_getElem?_getD, List.getElem?_eq_none (by omega)]; rfl
      omega
  · have : cE c i j = 0 := by
      unfold cE
      rw [List.getD_eq_getElem?_getD (l := c), List.getElem?_eq_none (by omega)]
      simp
    omega

/-- Two squares, one behind the other. -/
def bdg (A B : List (List Int)) : List (List Int) := A.map (· ++ List.replicate B.length 0) ++ B.map (List.replicate A.length 0 ++ ·)

def mkL (ps : List (UInt8 × UInt8)) : List (List Int) := ps.foldl (fun A p => bdg A (pcL p)) []

def pmM (o : List Int) (c : List (List Int)) : List (List Int) := (List.range c.length).map fun i => (List.range c.length).map fun k => cE c (o.getD i 0).toNat (o.getD k 0).toNat

/-- The names of rank 4 at the most. -/
def nmL : List (List (UInt8 × UInt8)) :=
  kdL.map (fun p => [p]) ++ (kdL.flatMap fun p => (kdL.filter fun q => decide (rkP p + rkP q ≤ 4)).map fun q => [p, q]) ++
  (kdL.flatMap fun p => kdL.flatMap fun q => (kdL.filter fun r => decide (rkP p + rkP q + rkP r ≤ 4)).map fun r => [p, q, r])

theorem mem_nm {ps : List (UInt8 × UInt8)} (h0 : ps ≠ []) (h3 : ps.length ≤ 3) (hk : ∀ p ∈ ps, p ∈ kdL) (hs : (ps.map rkP).sum ≤ 4) : ps ∈ nmL := by
  unfold nmL
  match ps, h0, h3, hk, hs with
  | [p], _, _, hk, _ => simp only [List.mem_append, List.mem_map]; exact Or.inl (Or.inl ⟨p, hk p (by simp), rfl⟩)
  | [p, q], _, _, hk, hs =>
    simp only [List.mem_append, List.mem_flatMap, List.mem_map, List.mem_filter, decide_eq_true_eq]
    exact Or.inl (Or.inr ⟨p, hk p (by simp), q, ⟨hk q (by simp), by simpa using hs⟩, rfl⟩)
  | [p, q, r], _, _, hk, hs =>
    simp only [List.mem_append, List.mem_flatMap, List.mem_map, List.mem_filter, decide_eq_true_eq]
    exact Or.inr ⟨p, hk p (by simp), q, hk q (by simp), r, ⟨hk r (by simp), by simpa [Nat.add_assoc] using hs⟩, rfl⟩

end Go.Proofs.Ytekifompoefhbaa
