import Derived.Test.YtkgljfnbaoncbaaMgAI
import Derived.Test.YtkgljfnbaoncbaaWd1
import Derived.Test.YtkgljfnbaoncbaaWy9
/- The square the other way around is one of a name, too; and roots have lengths. -/
namespace Go.Proofs.Ytkgljfnbaoncbaa

/-- Lists of 1, 2, 3. -/
def tcs : Nat → List (List Int)
  | 0 => [[]]
  | n + 1 => (tcs n).flatMap fun l => [1 :: l, 2 :: l, 3 :: l]

def DuP (n : Nat) (c : List (List Int)) (ps' : List (UInt8 × UInt8)) : Prop :=
  trM (trM c) = c ∧ (∃ o ∈ ords n n [], trM c = pmM o (mkL ps')) ∧ (∃ tl ∈ tcs n, ∀ r, r < n → ∀ k, k < n → tl.getD r 1 * cE c k r = tl.getD k 1 * cE c r k)

instance (n : Nat) (c : List (List Int)) (ps' : List (UInt8 × UInt8)) : Decidable (DuP n c ps') := by unfold DuP; infer_instance

theorem tcs_pos : ∀ n, ∀ l ∈ tcs n, ∀ k, 0 < l.getD k 1
  | 0, l, h, k => by
    simp [tcs] at h
    subst h
    simp
  | n + 1, l, h, k => by
    simp only [tcs, List.mem_flatMap] at h
    obtain ⟨l', h1, h2⟩ := h
    have ih := tcs_pos n l' h1
    simp at h2
    rcases h2 with rfl | rfl | rfl <;> cases k with
    | zero => simp
    | succ k => simpa using ih k

theorem trM_len (c : List (List Int)) : (trM c).length = c.length := by simp [trM]

theorem trM_at {c : List (List Int)} {r k : Nat} (hr : r < c.length) (hk : k < c.length) : cE (trM c) r k = cE c k r := by
  unfold cE trM
  simp [hr, hk, cE]

end Go.Proofs.Ytkgljfnbaoncbaa

/- Squares that may be of roots: what grows of them stays small, is never 0 and never twice; what is closed is told by its length. -/
namespace Go.Proofs.Ytkgljfnbaoncbaa

/-- A square of the form that is asked: whether there is an end is not said. -/
structure Shp (n : Nat) (c : List (List Int)) : Prop where
  sq : Sqc n c
  n1 : 1 ≤ n
  dia : ∀ i, i < n → cE c i i = 2
  off : ∀ i j, i < n → j < n → i ≠ j → (-3 ≤ cE c i j ∧ cE c i j ≤ 0) ∧ (cE c i j = 0 ↔ cE c j i = 0)

theorem tnL_at {c : List (List Int)} {b : List Int} {j k : Nat} (hk : k < c.length) : (tnL c b j).getD k 0 = if k = j then b.getD j 0 - sm c.length (fun i => b.getD i 0 * cE c i j) else b.getD k 0 := by
  unfold tnL
  rw [getD_range hk]
  rfl

theorem sm_nn {f : Nat → Int} : ∀ n, (∀ k, k < n → 0 ≤ f k) → 0 ≤ sm n f
  | 0, _ => Int.le_refl _
  | n + 1, h => by
    show 0 ≤ sm n f + f n
    have h1 := sm_nn n fun k hk => h k (by omega)
    have h2 := h n (by omega)
    omega

theorem sm_ge {f : Nat → Int} {k : Nat} : ∀ n, (∀ k, k < n → 0 ≤ f k) → k < n → f k ≤ sm n f
  | 0, _, hk => absurd hk (by omega)
  | n + 1, h, hk => by
    show f k ≤ sm n f + f n
    have h0 := sm_nn n fun k hk => h k (by omega)
    have h2 := h n (by omega)
    by_cases e : k = n
    · subst e; omega
    · have h1 := sm_ge n (fun k hk => h k (by omega)) (show k < n by omega)
      omega

/-- What is told of a sum of roots that stands at a place. -/
structure SrG (n p : Nat) (b : List Int) : Prop where
  len : b.length = n
  nn : ∀ k, 0 ≤ b.getD k 0
  s1 : 1 ≤ sm n fun k => b.getD k 0
  sb : (sm n fun k => b.getD k 0) ≤ 4 ^ p

theorem SrG.up {n p q : Nat} {b : List Int} (h : SrG n p b) (hpq : p ≤ q) : SrG n q b :=
  ⟨h.len, h.nn, h.s1, Int.le_trans h.sb (by
    have := Nat.pow_le_pow_right (show 1 ≤ 4 by omega) hpq
    exact_mod_cast this)⟩

theorem un_srg {n r p : Nat} (hr : r < n) : SrG n p (un n r) := by
  have e : (sm n fun k => (un n r).getD k 0) = 1 := by
    rw [sm_congr (g := fun k => if k = r then (fun _ => 1) k else 0) n fun k hk => by
      unfold un; rw [getD_range hk]]
    exact sm_one n hr
  refine ⟨by simp [un], fun k => ?_, by omega, ?_⟩
  · by_cases hk : k < n
    · unfold un
      rw [getD_range hk]
      split <;> omega
    · rw [List.getD_eq_getElem?_getD, List.getElem?_eq_none (by simp [un]; omega)]; simp
  · rw [e]
    have := Nat.pow_le_pow_right (show 1 ≤ 4 by omega) (Nat.zero_le p)
    exact_mod_cast this

theorem tn_srg {n p : Nat} {c : List (List Int)} {b : List Int} {j : Nat} (hc : Shp n c) (hj : j < n) (hb : SrG n p b) (h0 : 0 ≤ (tnL c b j).getD j 0) : SrG n (p + 1) (tnL c b j) := by
  have hl := hc.sq.len
  have hnn : ∀ k, 0 ≤ (tnL c b j).getD k 0 := fun k => by
    by_cases hk : k < n
    · by_cases e : k = j
      · subst e; exact h0
      · rw [tnL_at (by omega), if_neg e]; exact hb.nn k
    · rw [List.getD_eq_getElem?_getD, List.getElem?_eq_none (by rw [tnL_len]; omega)]; simp
  have hat : (tnL c b j).getD j 0 = b.getD j 0 - sm n (fun i => b.getD i 0 * cE c i j) := by
    rw [tnL_at (by omega), if_pos rfl, hl]
  have hle : -(3 * sm n fun k => b.getD k 0) ≤ sm n (fun i => b.getD i 0 * cE c i j) := by
    have e5 : sm n (fun k => (-3) * b.getD k 0) = (-3) * sm n fun k => b.getD k 0 := sm_mul (-3) n
    rw [show -(3 * sm n fun k => b.getD k 0) = sm n (fun k => (-3) * b.getD k 0) by rw [e5]; omega]
    refine sm_le n fun k hk => ?_
    have h1 := hb.nn k
    have h2 := (hc.sq.ent k j).1
    have h3 := Int.mul_le_mul_of_nonneg_left h2 h1
    omega
  have hsum : (sm n fun k => (tnL c b j).getD k 0) = (sm n fun k => b.getD k 0) + ((tnL c b j).getD j 0 - b.getD j 0) := by
    rw [sm_congr (g := fun k => b.getD k 0 + (if k = j then (fun k => (tnL c b j).getD k 0 - b.getD k 0) k else 0)) n fun k hk => by
      by_cases e : k = j
      · subst e; simp only [if_true]; omega
      · rw [tnL_at (by omega), if_neg e, if_neg e]; omega, sm_add, sm_one n hj]
  refine ⟨by rw [tnL_len]; exact hl, hnn, ?_, ?_⟩
  · have hz := sm_nn n fun k _ => hnn k
    by_cases he : (sm n fun k => (tnL c b j).getD k 0) = 0
    · exfalso
      have hk0 : ∀ k, k < n → (tnL c b j).getD k 0 = 0 := fun k hk => by
        have h1 := sm_ge n (fun k _ => hnn k) hk
        have h2 := hnn k
        omega
      have hb0 : ∀ k, k < n → k ≠ j → b.getD k 0 = 0 := fun k hk e => by
        have h1 := hk0 k hk
        rw [tnL_at (by omega), if_neg e] at h1
        exact h1
      have e2 : sm n (fun i => b.getD i 0 * cE c i j) = b.getD j 0 * 2 := by
        rw [sm_congr (g := fun k => if k = j then (fun k => b.getD k 0 * cE c k j) k else 0) n fun k hk => by
          by_cases e : k = j
          · rw [if_pos e]
          · rw [if_neg e, hb0 k hk e]; omega, sm_one n hj, hc.dia j hj]
      have h1 := hk0 j hj
      rw [hat, e2] at h1
      have e3 : (sm n fun k => b.getD k 0) = b.getD j 0 := by
        rw [sm_congr (g := fun k => if k = j then (fun k => b.getD k 0) k else 0) n fun k hk => by
          by_cases e : k = j
          · rw [if_pos e]
          · rw [if_neg e, hb0 k hk e], sm_one n hj]
      have := hb.s1
      omega
    · omega
  · have h1 := hb.sb
    have e4 : (4 : Int) ^ (p + 1) = 4 * 4 ^ p := by rw [Int.pow_succ]; omega
    rw [hsum, hat, e4]
    generalize (4 : Int) ^ p = Q at *
    omega

/-- What is told of all that has grown. -/
structure AbG (n : Nat) (L : List (List Int)) : Prop where
  g : ∀ p, p < L.length → SrG n p (L.getD p [])
  nod : L.Nodup

theorem getD_app0 {L : List (List Int)} {t : List Int} {p : Nat} (hp : p < L.length) : (L ++ [t]).getD p [] = L.getD p [] := by
  simp only [List.getD_eq_getElem?_getD]
  rw [List.getElem?_append_left hp]

theorem getD_app1 {L : List (List Int)} {t : List Int} : (L ++ [t]).getD L.length [] = t := by
  simp [List.getD_eq_getElem?_getD]

theorem abS_g {n : Nat} {c L : List (List Int)} {i j : Nat} (hc : Shp n c) (hj : j < n) (hi : i < L.length) (h : AbG n L) : AbG n (abS c i j L) := by
  unfold abS
  split
  · rename_i hq
    obtain ⟨h0, h1⟩ := hq
    refine ⟨fun p hp => ?_, ?_⟩
    · by_cases e : p < L.length
      · rw [getD_app0 e]; exact h.g p e
      · have : p = L.length := by simp at hp; omega
        subst this
        rw [getD_app1]
        exact (tn_srg hc hj (h.g i hi) h0).up (by omega)
    · rw [List.nodup_append]
      refine ⟨h.nod, by simp, fun a ha b hb e => ?_⟩
      rw [List.mem_singleton] at hb
      subst hb
      subst e
      have : L.any (· == tnL c (L.getD i []) j) = true := List.any_eq_true.2 ⟨_, ha, by simp⟩
      rw [this] at h1
      cases h1
  · exact h

theorem abI_g {n : Nat} {c : List (List Int)} {i : Nat} (hc : Shp n c) : ∀ (j : Nat) {L : List (List Int)}, j ≤ n → i < L.length → AbG n L → AbG n (abI c i j L)
  | 0, _, _, _, h => h
  | j + 1, L, hj, hi, h => abS_g hc (by omega) (Nat.lt_of_lt_of_le hi (abI_pre c i j L).length_le) (abI_g hc j (by omega) hi h)

theorem abO_g {n : Nat} {c : List (List Int)} (hc : Shp n c) : ∀ (f i : Nat) {L : List (List Int)}, L.length ≤ 28 → AbG n L → AbG n (abO c f i L) ∧ (abO c f i L).length ≤ 28
  | 0, _, _, hl, h => ⟨h, hl⟩
  | f + 1, i, L, hl, h => by
    unfold abO
    split
    · rename_i hq
      have h4 := hc.sq.n4
      have hcl := hc.sq.len
      have := abI_len c i c.length L
      exact abO_g hc f (i + 1) (by omega) (abI_g hc c.length (by omega) hq.1 h)
    · exact ⟨h, hl⟩

theorem un_inj {n r s : Nat} (hr : r < n) (h : un n r = un n s) : r = s := by
  have h1 : (un n r).getD r 0 = 1 := by unfold un; rw [getD_range hr]; simp
  rw [h] at h1
  unfold un at h1
  rw [getD_range hr] at h1
  by_cases e : r = s
  · exact e
  · rw [if_neg e] at h1; omega

theorem uns_g {n : Nat} : AbG n ((List.range n).map fun r => un n r) := by
  refine ⟨fun p hp => ?_, ?_⟩
  · have hp' : p < n := by simpa using hp
    have e : ((List.range n).map fun r => un n r).getD p [] = un n p := by simp [hp']
    rw [e]
    exact un_srg hp'
  · rw [List.nodup_iff_pairwise_ne, List.pairwise_map]
    refine (List.nodup_iff_pairwise_ne.1 List.nodup_range).imp_of_mem fun {a b} ha _ h e => h (un_inj (List.mem_range.1 ha) e)

theorem shp_g {n : Nat} {c : List (List Int)} (hc : Shp n c) : AbG n (abL c) ∧ (abL c).length ≤ 28 := by
  unfold abL
  have h4 := hc.sq.n4
  rw [hc.sq.len]
  exact abO_g hc 30 0 (by simp; omega) uns_g

/-- All that has grown: its numbers are small. -/
theorem shp_bd {n : Nat} {c : List (List Int)} (hc : Shp n c) : ∀ b ∈ abL c, b.length = n ∧ ∀ k, -18014398509481984 ≤ b.getD k 0 ∧ b.getD k 0 ≤ 18014398509481984 := fun b hb => by
  obtain ⟨hg, hl⟩ := shp_g hc
  obtain ⟨p, hp, rfl⟩ := List.mem_iff_getElem.1 hb
  have h := (hg.g p hp).up (show p ≤ 27 by omega)
  have e : (abL c).getD p [] = (abL c)[p] := by simp [hp]
  rw [e] at h
  refine ⟨h.len, fun k => ?_⟩
  have h0 := h.nn k
  by_cases hk : k < n
  · have h1 := sm_ge n (fun k _ => h.nn k) hk
    have h2 := h.sb
    have e4 : (4 : Int) ^ 27 = 18014398509481984 := by decide
    omega
  · have e3 : (abL c)[p].getD k 0 = 0 := by
      rw [List.getD_eq_getElem?_getD, List.getElem?_eq_none (by rw [h.len]; omega)]; rfl
    rw [e3]; omega

end Go.Proofs.Ytkgljfnbaoncbaa

/- What has grown whole is closed, and with a root left out no more grows. -/
namespace Go.Proofs.Ytkgljfnbaoncbaa

theorem abS_in {c L : List (List Int)} {i j : Nat} (h : 0 ≤ (tnL c (L.getD i []) j).getD j 0) : tnL c (L.getD i []) j ∈ abS c i j L := by
  unfold abS
  by_cases e : L.any (· == tnL c (L.getD i []) j) = false
  · rw [if_pos ⟨h, e⟩]; simp
  · rw [if_neg (fun k => e k.2)]
    simp only [Bool.not_eq_false, List.any_eq_true, beq_iff_eq] at e
    obtain ⟨x, hx, rfl⟩ := e
    exact hx

theorem abI_in {c : List (List Int)} {i : Nat} {L : List (List Int)} (hi : i < L.length) : ∀ (m j : Nat), j < m → 0 ≤ (tnL c (L.getD i []) j).getD j 0 → tnL c (L.getD i []) j ∈ abI c i m L
  | 0, _, h, _ => absurd h (by omega)
  | m + 1, j, h, h0 => by
    by_cases e : j = m
    · subst e
      have hp := pre_getD (abI_pre c i j L) hi
      rw [← hp] at h0 ⊢
      exact abS_in h0
    · exact (abS_pre c i m _).subset (abI_in hi m j (by omega) h0)

theorem abO_in {c : List (List Int)} : ∀ (f i : Nat) {L : List (List Int)}, 30 ≤ i + f → (abO c f i L).length ≤ 24 → (∀ p, p < i → p < L.length → ∀ j, j < c.length → 0 ≤ (tnL c (L.getD p []) j).getD j 0 → tnL c (L.getD p []) j ∈ L) →
    ∀ b ∈ abO c f i L, ∀ j, j < c.length → 0 ≤ (tnL c b j).getD j 0 → tnL c b j ∈ abO c f i L
  | 0, i, L, hf, hl, h, b, hb, j, hj, h0 => by
    have hl' : L.length ≤ 24 := hl
    obtain ⟨p, hp, rfl⟩ := List.mem_iff_getElem.1 (show b ∈ L from hb)
    have e : L.getD p [] = L[p] := by simp [hp]
    rw [← e] at h0 ⊢
    exact h p (by omega) hp j hj h0
  | f + 1, i, L, hf, hl, h, b, hb, j, hj, h0 => by
    unfold abO at hl hb ⊢
    by_cases hq : i < L.length ∧ L.length ≤ 24
    · rw [if_pos hq] at hl hb ⊢
      have hpre := abI_pre c i c.length L
      refine abO_in f (i + 1) (by omega) hl (fun p hp hpl j hj h0 => ?_) b hb j hj h0
      have hpL : p < L.length := by omega
      rw [pre_getD hpre hpL] at h0 ⊢
      by_cases e : p = i
      · subst e; exact abI_in hpL _ j hj h0
      · exact hpre.subset (h p (by omega) hpL j hj h0)
    · rw [if_neg hq] at hl hb ⊢
      obtain ⟨p, hp, rfl⟩ := List.mem_iff_getElem.1 hb
      have e : L.getD p [] = L[p] := by simp [hp]
      rw [← e] at h0 ⊢
      exact h p (by omega) hp j hj h0

theorem ab_closed {c : List (List Int)} (hl : (abL c).length ≤ 24) : ∀ b ∈ abL c, ∀ j, j < c.length → 0 ≤ (tnL c b j).getD j 0 → tnL c b j ∈ abL c := by
  unfold abL at hl ⊢
  exact abO_in 30 0 (by omega) hl (fun p hp => absurd hp (by omega))

theorem ab_un {c : List (List Int)} {r : Nat} (hr : r < c.length) : un c.length r ∈ abL c := by
  unfold abL
  exact (abO_pre c 30 0 _).subset (List.mem_map.2 ⟨r, List.mem_range.2 hr, rfl⟩)

theorem abS_ind {c : List (List Int)} {P : List Int → Prop} (hs : ∀ b, P b → ∀ j, j < c.length → 0 ≤ (tnL c b j).getD j 0 → P (tnL c b j)) {i j : Nat} (hj : j < c.length) {L : List (List Int)} (hi : i < L.length) (h : ∀ b ∈ L, P b) : ∀ b ∈ abS c i j L, P b := by
  unfold abS
  split
  · rename_i hq
    intro b hb
    rcases List.mem_append.1 hb with hb | hb
    · exact h b hb
    · rw [List.mem_singleton] at hb
      subst hb
      exact hs _ (h _ (by simp [hi])) j hj hq.1
  · exact h

theorem abI_ind {c : List (List Int)} {P : List Int → Prop} (hs : ∀ b, P b → ∀ j, j < c.length → 0 ≤ (tnL c b j).getD j 0 → P (tnL c b j)) {i : Nat} : ∀ (j : Nat) {L : List (List Int)}, j ≤ c.length → i < L.length → (∀ b ∈ L, P b) → ∀ b ∈ abI c i j L, P b
  | 0, _, _, _, h => h
  | j + 1, L, hj, hi, h => abS_ind hs (by omega) (Nat.lt_of_lt_of_le hi (abI_pre c i j L).length_le) (abI_ind hs j (by omega) hi h)

theorem abO_ind {c : List (List Int)} {P : List Int → Prop} (hs : ∀ b, P b → ∀ j, j < c.length → 0 ≤ (tnL c b j).getD j 0 → P (tnL c b j)) : ∀ (f i : Nat) {L : List (List Int)}, (∀ b ∈ L, P b) → ∀ b ∈ abO c f i L, P b
  | 0, _, _, h => h
  | f + 1, i, L, h => by
    unfold abO
    split
    · rename_i hq
      exact abO_ind hs f (i + 1) (abI_ind hs c.length (Nat.le_refl _) hq.1 h)
    · exact h

theorem abL_ind {c : List (List Int)} {P : List Int → Prop} (h0 : ∀ r, r < c.length → P (un c.length r)) (hs : ∀ b, P b → ∀ j, j < c.length → 0 ≤ (tnL c b j).getD j 0 → P (tnL c b j)) : ∀ b ∈ abL c, P b := by
  unfold abL
  refine abO_ind hs 30 0 fun b hb => ?_
  obtain ⟨r, hr, rfl⟩ := List.mem_map.1 hb
  exact h0 r (List.mem_range.1 hr)

/-- One place is passed by. -/
def sk (r a : Nat) : Nat := if a < r then a else a + 1

theorem sk_lt {r a n : Nat} (h : a < n) : sk r a < n + 1 := by unfold sk; split <;> omega
theorem sk_ne {r a : Nat} : sk r a ≠ r := by unfold sk; split <;> omega
theorem sk_inj {r a b : Nat} (h : sk r a = sk r b) : a = b := by
  unfold sk at h
  split at h <;> split at h <;> omega
theorem sk_sur {r k n : Nat} (hk : k < n + 1) (h : k ≠ r) (hr : r < n + 1) : ∃ a, a < n ∧ k = sk r a := by
  by_cases e : k < r
  · exact ⟨k, by omega, by unfold sk; rw [if_pos e]⟩
  · exact ⟨k - 1, by omega, by unfold sk; rw [if_neg (by omega)]; omega⟩

/-- A square with one root left out. -/
def dr (n r : Nat) (c : List (List Int)) : List (List Int) := (List.range n).map fun a => (List.range n).map fun b => cE c (sk r a) (sk r b)

theorem dr_at {n r a b : Nat} {c : List (List Int)} (ha : a < n) (hb : b < n) : cE (dr n r c) a b = cE c (sk r a) (sk r b) := by
  unfold dr
  rw [cE]
  rw [List.getD_eq_getElem?_getD (l := List.map _ _), List.getElem?_map, List.getElem?_range ha]
  show ((List.range n).map fun b => cE c (sk r a) (sk r b)).getD b 0 = _
  rw [getD_range hb]

theorem dr_len (n r : Nat) (c : List (List Int)) : (dr n r c).length = n := by simp [dr]

/-- The root that was left out stands there with 0. -/
def ins0 (n r : Nat) (b : List Int) : List Int := (List.range (n + 1)).map fun k => if k < r then b.getD k 0 else if k = r then 0 else b.getD (k - 1) 0

theorem ins0_sk {n r a : Nat} {b : List Int} (ha : a < n) : (ins0 n r b).getD (sk r a) 0 = b.getD a 0 := by
  unfold ins0
  rw [getD_range (sk_lt ha)]
  unfold sk
  by_cases e : a < r
  · rw [if_pos e, if_pos e]
  · rw [if_neg e, if_neg (by omega), if_neg (by omega)]; simp

theorem ins0_r {n r : Nat} {b : List Int} (hr : r < n + 1) : (ins0 n r b).getD r 0 = 0 := by
  unfold ins0
  rw [getD_range hr, if_neg (by omega), if_pos rfl]

theorem ins0_len (n r : Nat) (b : List Int) : (ins0 n r b).length = n + 1 := by simp [ins0]

theorem ext_getD {a b : List Int} {n : Nat} (ha : a.length = n) (hb : b.length = n) (h : ∀ k, k < n → a.getD k 0 = b.getD k 0) : a = b := by
  apply List.ext_getElem (by omega)
  intro k h1 h2
  have := h k (by omega)
  simpa [h1, h2] using this

theorem ins0_inj {n r : Nat} {a b : List Int} (ha : a.length = n) (hb : b.length = n) (h : ins0 n r a = ins0 n r b) : a = b :=
  ext_getD ha hb fun k hk => by
    have h1 := ins0_sk (r := r) (b := a) hk
    rw [h, ins0_sk hk] at h1
    exact h1.symm

theorem sm_skip {f : Nat → Int} {r : Nat} (h0 : f r = 0) : ∀ n, r < n + 1 → sm (n + 1) f = sm n fun a => f (sk r a)
  | 0, hr => by
    have : r = 0 := by omega
    subst this
    show sm 0 f + f 0 = _
    rw [h0]; rfl
  | n + 1, hr => by
    show sm (n + 1) f + f (n + 1) = sm n (fun a => f (sk r a)) + f (sk r n)
    by_cases e : r = n + 1
    · subst e
      rw [h0]
      show sm n f + f n + 0 = _
      rw [sm_congr (g := fun a => f (sk (n + 1) a)) n fun k hk => by unfold sk; rw [if_pos (by omega)]]
      have : sk (n + 1) n = n := by unfold sk; rw [if_pos (by omega)]
      rw [this]; omega
    · rw [sm_skip h0 n (by omega)]
      have : sk r n = n + 1 := by unfold sk; rw [if_neg (by omega)]
      rw [this]

theorem un_at' {n r k : Nat} (hk : k < n) : (un n r).getD k 0 = if k = r then 1 else 0 := by unfold un; rw [getD_range hk]

theorem ins0_un {n r j : Nat} (hj : j < n) (hr : r < n + 1) : ins0 n r (un n j) = un (n + 1) (sk r j) :=
  ext_getD (n := n + 1) (ins0_len _ _ _) (by simp [un]) fun k hk => by
    rw [un_at' hk]
    by_cases e : k = r
    · subst e
      rw [ins0_r hk, if_neg (fun h => sk_ne h.symm)]
    · obtain ⟨a, ha, rfl⟩ := sk_sur hk e hr
      rw [ins0_sk ha, un_at' ha]
      by_cases e2 : a = j
      · subst e2; rw [if_pos rfl, if_pos rfl]
      · rw [if_neg e2, if_neg (fun h => e2 (sk_inj h))]

theorem ins0_tn {n r j : Nat} {c : List (List Int)} {b : List Int} (hl : c.length = n + 1) (hj : j < n) (hr : r < n + 1) : tnL c (ins0 n r b) (sk r j) = ins0 n r (tnL (dr n r c) b j) :=
  ext_getD (n := n + 1) (by rw [tnL_len, hl]) (ins0_len _ _ _) fun k hk => by
    rw [tnL_at (by omega)]
    by_cases e : k = r
    · subst e
      rw [ins0_r hk, if_neg (fun h => sk_ne h.symm), ins0_r hk]
    · obtain ⟨a, ha, rfl⟩ := sk_sur hk e hr
      rw [ins0_sk ha, ins0_sk ha, tnL_at (by rw [dr_len]; exact ha), ins0_sk hj, dr_len, hl]
      by_cases e2 : a = j
      · subst e2
        rw [if_pos rfl, if_pos rfl, sm_skip (r := r) (by rw [ins0_r hr]; omega) n hr]
        rw [sm_congr n fun k hk => by rw [ins0_sk hk, ← dr_at hk ha]]
      · rw [if_neg e2, if_neg (fun h => e2 (sk_inj h))]

theorem dr_shp {n r : Nat} {c : List (List Int)} (h : Shp (n + 1) c) (h1 : 1 ≤ n) : Shp n (dr n r c) := by
  have h4 := h.sq.n4
  refine ⟨⟨dr_len _ _ _, by omega, fun x hx => ?_, fun i j => ?_⟩, h1, fun i hi => ?_, fun i j hi hj hij => ?_⟩
  · unfold dr at hx
    obtain ⟨a, _, rfl⟩ := List.mem_map.1 hx
    simp
  · by_cases hi : i < n
    · by_cases hj : j < n
      · rw [dr_at hi hj]; exact h.sq.ent _ _
      · have e : cE (dr n r c) i j = 0 := by
          unfold cE
          rw [List.getD_eq_getElem?_getD, List.getElem?_eq_none]
          · rfl
          · simp [dr, hi]; omega
        rw [e]; omega
    · have e : cE (dr n r c) i j = 0 := by
        unfold cE
        have : (dr n r c).getD i [] = [] := by rw [List.getD_eq_getElem?_getD, List.getElem?_eq_none (by rw [dr_len]; omega)]; rfl
        rw [this]; rfl
      rw [e]; omega
  · rw [dr_at hi hi]; exact h.dia _ (sk_lt hi)
  · rw [dr_at hi hj, dr_at hj hi]
    exact h.off _ _ (sk_lt hi) (sk_lt hj) fun e => hij (sk_inj e)

theorem nodup_lenQ : ∀ (L M : List (List Int)), L.Nodup → (∀ x ∈ L, x ∈ M) → L.length ≤ M.length
  | [], _, _, _ => Nat.zero_le _
  | a :: L, M, hn, h => by
    rw [List.nodup_cons] at hn
    have ha := h a (by simp)
    have h1 := nodup_lenQ L (M.erase a) hn.2 fun x hx => by
      have hxa : x ≠ a := fun e => hn.1 (e ▸ hx)
      exact (List.mem_erase_of_ne hxa).2 (h x (by simp [hx]))
    have h2 := List.length_erase_of_mem ha
    have h3 := List.length_pos_of_mem ha
    simp only [List.length_cons]
    omega

/-- With a root left out no more grows. -/
theorem dr_few {n r : Nat} {c : List (List Int)} (h : Shp (n + 1) c) (h1 : 1 ≤ n) (hr : r < n + 1) (hl : (abL c).length ≤ 24) : (abL (dr n r c)).length ≤ 24 := by
  have hcl := h.sq.len
  have hd := dr_shp (r := r) h h1
  have hin : ∀ b ∈ abL (dr n r c), b.length = n ∧ ins0 n r b ∈ abL c := abL_ind (c := dr n r c) (fun j hj => by
      rw [dr_len] at hj ⊢
      refine ⟨by simp [un], ?_⟩
      rw [ins0_un hj hr, ← hcl]
      exact ab_un (by rw [hcl]; exact sk_lt hj)) (fun b hb j hj h0 => by
      rw [dr_len] at hj
      refine ⟨by rw [tnL_len, dr_len], ?_⟩
      rw [← ins0_tn hcl hj hr]
      refine ab_closed hl _ hb.2 _ (by rw [hcl]; exact sk_lt hj) ?_
      rw [ins0_tn hcl hj hr, ins0_sk hj]
      exact h0)
  have hn := (shp_g hd).1.nod
  have h2 := nodup_lenQ ((abL (dr n r c)).map (ins0 n r)) (abL c) (by
    rw [List.nodup_iff_pairwise_ne, List.pairwise_map]
    refine (List.nodup_iff_pairwise_ne.1 hn).imp_of_mem fun {a b} ha hb hab e => hab ?_
    exact ins0_inj (hin a ha).1 (hin b hb).1 e) (fun x hx => by
    obtain ⟨b, hb, rfl⟩ := List.mem_map.1 hx
    exact (hin b hb).2)
  rw [List.length_map] at h2
  omega

end Go.Proofs.Ytkgljfnbaoncbaa
