/- What sides have in common, again and again: the list that holds all of it. -/
import Derived.Test.YtkfdpcgmpbopnaaGreatDoorLt4
import Derived.Test.YtkfdpcgmpbopnaaGreatDoorHm21
import Derived.Test.YtkfdpcgmpbopnaaGreatDoorSh3
namespace Go.Proofs.YtkfdpcgmpbopnaaGreatDoor
open Go.RowKit

theorem Tryz.info25 : (Tryz.prog.info? 25).map (fun i => (i.zero, i.size, i.bytes)) = some (some (.slice none 0 0), 1, 24) := by kernel_rfl

def natI (A : List Nat) : List Int := A.map fun a : Nat => (a : Int)

@[simp] theorem natI_len (A : List Nat) : (natI A).length = A.length := by simp [natI]

theorem natI_get (A : List Nat) (j : Nat) (h : j < A.length) : (natI A).getD j 0 = (A.getD j 0 : Int) := by simp [natI, h]

theorem natI_has (A : List Nat) (x : Nat) : (natI A).contains (x : Int) = A.contains x := by
  rw [Bool.eq_iff_iff]
  simp only [List.contains_iff_mem, natI, List.mem_map]
  constructor
  · rintro ⟨a, ha, h⟩
    rwa [Int.ofNat.inj h] at ha
  · intro h; exact ⟨x, h, rfl⟩

/-- What comes of all by taking what it has in common with sides. -/
inductive Itr (n : Nat) (S : List Nat) : Nat → Prop
  | full : Itr n S (2 ^ n - 1)
  | cut {a t : Nat} : Itr n S a → t ∈ S → Itr n S (a &&& t)

/-- What the walk holds: the first i have been looked at. -/
structure Clo (n : Nat) (S A : List Nat) (i : Nat) : Prop where
  nd : A.Nodup
  lt : ∀ a ∈ A, a < 2 ^ n
  hd : 0 < A.length ∧ A.getD 0 0 = 2 ^ n - 1
  cl : ∀ j, j < i → ∀ t ∈ S, A.getD j 0 &&& t ∈ A
  gen : ∀ a ∈ A, Itr n S a
  le : i ≤ A.length

theorem Clo.len {n : Nat} {S A : List Nat} {i : Nat} (h : Clo n S A i) : A.length ≤ 2 ^ n := by
  have := nodup_len A (List.range (2 ^ n)) h.nd fun x hx => List.mem_range.2 (h.lt x hx)
  simpa using this

theorem Clo.start (n : Nat) (S : List Nat) : Clo n S [2 ^ n - 1] 0 :=
  ⟨by simp, fun a ha => by simp at ha; subst ha; have : 0 < 2 ^ n := Nat.pow_pos (by decide); omega, ⟨by simp, rfl⟩, fun j hj => absurd hj (by omega), fun a ha => by simp at ha; subst ha; exact .full, by simp⟩

/-- And with the i-th the first k sides. -/
structure CloK (n : Nat) (S A : List Nat) (i k : Nat) : Prop where
  base : Clo n S A i
  il : i < A.length
  kk : ∀ t ∈ S.take k, A.getD i 0 &&& t ∈ A

theorem CloK.start {n : Nat} {S A : List Nat} {i : Nat} (h : Clo n S A i) (hi : i < A.length) : CloK n S A i 0 := ⟨h, hi, fun t ht => by simp at ht⟩

theorem mem_take_succ {S : List Nat} {k t : Nat} (hk : k < S.length) (h : t ∈ S.take (k + 1)) : t ∈ S.take k ∨ t = S.getD k 0 := by
  rw [List.take_succ_eq_append_getElem hk] at h
  rcases List.mem_append.1 h with h | h
  · exact Or.inl h
  · simp at h; right; simp [hk, h]

theorem CloK.skip {n : Nat} {S A : List Nat} {i k : Nat} (h : CloK n S A i k) (hk : k < S.length) (hx : A.getD i 0 &&& S.getD k 0 ∈ A) : CloK n S A i (k + 1) :=
  ⟨h.base, h.il, fun t ht => by
    rcases mem_take_succ hk ht with h1 | rfl
    · exact h.kk t h1
    · exact hx⟩

theorem getD_app {A : List Nat} {x j : Nat} (hj : j < A.length) : (A ++ [x]).getD j 0 = A.getD j 0 := by
  simp only [List.getD_eq_getElem?_getD]; rw [List.getElem?_append_left hj]

theorem CloK.push {n : Nat} {S A : List Nat} {i k : Nat} (h : CloK n S A i k) (hk : k < S.length) (hx : A.getD i 0 &&& S.getD k 0 ∉ A) : CloK n S (A ++ [A.getD i 0 &&& S.getD k 0]) i (k + 1) := by
  have hb := h.base
  have hi := h.il
  have hm : A.getD i 0 ∈ A := by simp [hi]
  have ht : S.getD k 0 ∈ S := by simp [hk]
  refine ⟨⟨?_, ?_, ?_, ?_, ?_, ?_⟩, ?_, ?_⟩
  · rw [List.nodup_append]
    refine ⟨hb.nd, by simp, fun a ha b hbb => ?_⟩
    simp at hbb
    rintro rfl
    rw [hbb] at ha
    apply hx
    simpa using ha
  · intro a ha
    rcases List.mem_append.1 ha with ha | ha
    · exact hb.lt a ha
    · simp only [List.mem_singleton] at ha
      rw [ha]
      exact Nat.lt_of_le_of_lt Nat.and_le_left (hb.lt _ hm)
  · exact ⟨by simp, by rw [getD_app hb.hd.1]; exact hb.hd.2⟩
  · intro j hj t htt
    rw [getD_app (by omega)]
    exact List.mem_append_left _ (hb.cl j hj t htt)
  · intro a ha
    rcases List.mem_append.1 ha with ha | ha
    · exact hb.gen a ha
    · simp only [List.mem_singleton] at ha
      rw [ha]
      exact .cut (hb.gen _ hm) ht
  · have := hb.le
    simp
    omega
  · simp
    omega
  · intro t htt
    rw [getD_app hi]
    rcases mem_take_succ hk htt with h1 | rfl
    · exact List.mem_append_left _ (h.kk t h1)
    · simp

theorem CloK.fin {n : Nat} {S A : List Nat} {i : Nat} (h : CloK n S A i S.length) : Clo n S A (i + 1) := by
  have hb := h.base
  have hk := h.kk
  rw [List.take_length] at hk
  refine ⟨hb.nd, hb.lt, hb.hd, fun j hj t ht => ?_, hb.gen, h.il⟩
  rcases Nat.lt_or_ge j i with h1 | h1
  · exact hb.cl j h1 t ht
  · obtain rfl : j = i := by omega
    exact hk t ht

/-- Levels: rows of rows, each in a block of its own. -/
structure Lvs (B : Nat) (w : World) (x : Value) (j : Nat) (ok : Nat → List (List Int) → Prop) : Prop where
  rows : ∃ vs : List Value, vs.length = j ∧ w.ownsRow B 25 1 x j vs ∧ ∀ t, t < j → ∃ lev, Fr B 22 3 w (vs.getD t (.slice none 0 0)) lev ∧ ok t lev

theorem Lvs.nil (B : Nat) (w : World) (ok : Nat → List (List Int) → Prop) : Lvs B w (.slice none 0 0) 0 ok :=
  ⟨[], rfl, World.ownsRow_nil _ _ _ _, fun t ht => absurd ht (by omega)⟩

theorem Lvs.below {B N : Nat} {w w' : World} {x : Value} {j : Nat} {ok : Nat → List (List Int) → Prop} (h : Lvs B w x j ok) (hb : Below N w w') (hN : w.heap.size ≤ N) : Lvs B w' x j ok := by
  obtain ⟨vs, h1, h2, h3⟩ := h.rows
  exact ⟨vs, h1, owns_below h2 hb hN, fun t ht => by
    obtain ⟨lev, g1, g2⟩ := h3 t ht
    exact ⟨lev, g1.below hb hN, g2⟩⟩

/-- Behind writes into a row of another element type. -/
theorem Fr.grownM {B : Nat} {w w' : World} {x v : Value} {n : Nat} {xs : List Value} {m : List (List Int)} (h : Fr B 22 3 w v m) (hx : w.ownsRow B 25 1 x n xs) (hg : w.grownBy w' x.ownBlock) : Fr B 22 3 w' v m := by
  obtain ⟨vs, h1, h2, h3⟩ := h
  refine ⟨vs, h1, h2.kept hg ?_, fun i hi => (h3 i hi).grown hg fun k hk => ⟨Nat.zero_le _, (owns_typed hx (by decide) k hk).2⟩⟩
  cases hv : v.ownBlock with
  | none => simp
  | some g =>
    right
    intro he
    rcases h2.2 with ⟨rfl, _⟩ | ⟨g2, cap, cur, rfl, _, hh, _⟩
    · simp [Value.ownBlock] at hv
    · simp [Value.ownBlock] at hv
      subst hv
      exact (owns_typed hx (e1 := 22) (by decide) g2 (by first | exact he | exact he.symm)).2 cur hh

theorem Lvs.push {B : Nat} {w w' : World} {x x' v : Value} {j : Nat} {ok : Nat → List (List Int) → Prop} {vs : List Value} {lev : List (List Int)} (h1 : vs.length = j) (h2 : w.ownsRow B 25 1 x j vs) (h3 : ∀ t, t < j → ∃ lev, Fr B 22 3 w (vs.getD t (.slice none 0 0)) lev ∧ ok t lev)
    (hv : Fr B 22 3 w v lev) (hok : ok j lev) (ho : w'.ownsRow B 25 1 x' (j + 1) (vs ++ [v])) (hg : w.grownBy w' x.ownBlock) : Lvs B w' x' (j + 1) ok := by
  refine ⟨vs ++ [v], by simp [h1], ho, fun t ht => ?_⟩
  by_cases htj : t < j
  · obtain ⟨l, g1, g2⟩ := h3 t htj
    refine ⟨l, ?_, g2⟩
    have e : (vs ++ [v]).getD t (.slice none 0 0) = vs.getD t (.slice none 0 0) := by
      simp only [List.getD_eq_getElem?_getD]; rw [List.getElem?_append_left (by omega)]
    rw [e]
    exact g1.grownM h2 hg
  · obtain rfl : t = j := by omega
    refine ⟨lev, ?_, hok⟩
    have e : (vs ++ [v]).getD t (.slice none 0 0) = v := by rw [← h1]; simp
    rw [e]
    exact hv.grownM h2 hg

/-- What a level is: of all in the list those of one dimension, told as lists, in order. -/
def LevOk (d : Nat) (C : List (List Int)) (A : List Nat) (t : Nat) (lev : List (List Int)) : Prop := SAsc lev ∧ ∀ r, r ∈ lev ↔ ∃ a ∈ A, dimL d C a = (t : Int) - 1 ∧ r = memL a

def levL (d : Nat) (C : List (List Int)) (A : List Nat) (t : Int) : List (List Int) := (A.filter fun a => decide (dimL d C a = t)).map memL

theorem levL_snoc {d : Nat} {C : List (List Int)} {A : List Nat} {t : Int} {k : Nat} (hk : k < A.length) : levL d C (A.take (k + 1)) t = levL d C (A.take k) t ++ (if dimL d C (A.getD k 0) = t then [memL (A.getD k 0)] else []) := by
  have e : A.getD k 0 = A[k] := by simp [hk]
  unfold levL
  rw [List.take_succ_eq_append_getElem hk, List.filter_append, List.map_append, e]
  by_cases h : dimL d C A[k] = t <;> simp [h]

theorem levL_len (d : Nat) (C : List (List Int)) (A : List Nat) (t : Int) : (levL d C A t).length ≤ A.length := by
  unfold levL
  rw [List.length_map]
  exact List.length_filter_le _ _

theorem mem_levL {d : Nat} {C : List (List Int)} {A : List Nat} {t : Int} {r : List Int} : r ∈ levL d C A t ↔ ∃ a ∈ A, dimL d C a = t ∧ r = memL a := by
  unfold levL
  simp only [List.mem_map, List.mem_filter, decide_eq_true_eq]
  constructor
  · rintro ⟨a, ⟨h1, h2⟩, rfl⟩; exact ⟨a, h1, h2, rfl⟩
  · rintro ⟨a, h1, h2, rfl⟩; exact ⟨a, ⟨h1, h2⟩, rfl⟩

end Go.Proofs.YtkfdpcgmpbopnaaGreatDoor
