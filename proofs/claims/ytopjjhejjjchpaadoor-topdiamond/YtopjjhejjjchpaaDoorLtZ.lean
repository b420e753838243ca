import Derived.Test.YtopjjhejjjchpaaDoorShY
import Derived.Test.YtopjjhejjjchpaaDoorHmY
import Derived.Test.YtopjjhejjjchpaaDoorRefA
import Derived.Test.YtopjjhejjjchpaaDoorMade1
import Derived.Test.YtopjjhejjjchpaaDoorBet3
/- What sides have in common, again and again: the list that holds all of it. -/
namespace Go.Proofs.YtopjjhejjjchpaaDoor
open Go.RowKit

theorem Tryd.info28 : (Tryd.prog.info? 28).map (fun i => (i.zero, i.size, i.bytes)) = some (some (.slice none 0 0), 1, 24) := by kernel_rfl

def natI (A : List Nat) : List Int := A.map fun a : Nat => (a : Int)

@[simp] theorem natI_len (A : List Nat) : (natI A).length = A.length := by simp [natI]

/-- What comes of all by taking what it has in common with sides. -/
inductive Itr (n : Nat) (S : List Nat) : Nat → Prop
  | full : Itr n S (2 ^ n - 1)
  | cut {a t : Nat} : Itr n S a → t ∈ S → Itr n S (a &&& t)

/-- What the walk holds: the first i have been looked at. -/
structure Clo (n : Nat) (S A : List Nat) (i : Nat) : Prop where
  nd : A.Nodup
  lt : ∀ a ∈ A, a < 2 ^ n
  hd : 0 < A.length ∧ A.getD 0 0 = 2 ^ n - 1
  cl : ∀ j, j < i → ∀ t ∈ S, A.getD j 0 &&& t ∈ A
  gen : ∀ a ∈ A, Itr n S a
  le : i ≤ A.length

theorem Clo.len {n : Nat} {S A : List Nat} {i : Nat} (h : Clo n S A i) : A.length ≤ 2 ^ n := by
  have := nodup_len A (List.range (2 ^ n)) h.nd fun x hx => List.mem_range.2 (h.lt x hx)
  simpa using this

theorem Clo.start (n : Nat) (S : List Nat) : Clo n S [2 ^ n - 1] 0 :=
  ⟨by simp, fun a ha => by simp at ha; subst ha; have : 0 < 2 ^ n := Nat.pow_pos (by decide); omega, ⟨by simp, rfl⟩, fun j hj => absurd hj (by omega), fun a ha => by simp at ha; subst ha; exact .full, by simp⟩

/-- Levels: rows of rows, each in a block of its own. -/
structure Lvs (B : Nat) (w : World) (x : Value) (j : Nat) (ok : Nat → List (List Int) → Prop) : Prop where
  rows : ∃ vs : List Value, vs.length = j ∧ w.ownsRow B 28 1 x j vs ∧ ∀ t, t < j → ∃ lev, Fr B 22 3 w (vs.getD t (.slice none 0 0)) lev ∧ ok t lev

theorem Lvs.nil (B : Nat) (w : World) (ok : Nat → List (List Int) → Prop) : Lvs B w (.slice none 0 0) 0 ok :=
  ⟨[], rfl, World.ownsRow_nil _ _ _ _, fun t ht => absurd ht (by omega)⟩

theorem Lvs.below {B N : Nat} {w w' : World} {x : Value} {j : Nat} {ok : Nat → List (List Int) → Prop} (h : Lvs B w x j ok) (hb : Below N w w') (hN : w.heap.size ≤ N) : Lvs B w' x j ok := by
  obtain ⟨vs, h1, h2, h3⟩ := h.rows
  exact ⟨vs, h1, owns_below h2 hb hN, fun t ht => by
    obtain ⟨lev, g1, g2⟩ := h3 t ht
    exact ⟨lev, g1.below hb hN, g2⟩⟩

/-- Behind writes into a row of another element type. -/
theorem Fr.grownM {B : Nat} {w w' : World} {x v : Value} {n : Nat} {xs : List Value} {m : List (List Int)} (h : Fr B 22 3 w v m) (hx : w.ownsRow B 28 1 x n xs) (hg : w.grownBy w' x.ownBlock) : Fr B 22 3 w' v m := by
  obtain ⟨vs, h1, h2, h3⟩ := h
  refine ⟨vs, h1, h2.kept hg ?_, fun i hi => (h3 i hi).grown hg fun k hk => ⟨Nat.zero_le _, (owns_typed hx (by decide) k hk).2⟩⟩
  cases hv : v.ownBlock with
  | none => simp
  | some g =>
    right
    intro he
    rcases h2.2 with ⟨rfl, _⟩ | ⟨g2, cap, cur, rfl, _, hh, _⟩
    · simp [Value.ownBlock] at hv
    · simp [Value.ownBlock] at hv
      subst hv
      exact (owns_typed hx (e1 := 22) (by decide) g2 (by first | exact he | exact he.symm)).2 cur hh

theorem Lvs.push {B : Nat} {w w' : World} {x x' v : Value} {j : Nat} {ok : Nat → List (List Int) → Prop} {vs : List Value} {lev : List (List Int)} (h1 : vs.length = j) (h2 : w.ownsRow B 28 1 x j vs) (h3 : ∀ t, t < j → ∃ lev, Fr B 22 3 w (vs.getD t (.slice none 0 0)) lev ∧ ok t lev)
    (hv : Fr B 22 3 w v lev) (hok : ok j lev) (ho : w'.ownsRow B 28 1 x' (j + 1) (vs ++ [v])) (hg : w.grownBy w' x.ownBlock) : Lvs B w' x' (j + 1) ok := by
  refine ⟨vs ++ [v], by simp [h1], ho, fun t ht => ?_⟩
  by_cases htj : t < j
  · obtain ⟨l, g1, g2⟩ := h3 t htj
    refine ⟨l, ?_, g2⟩
    have e : (vs ++ [v]).getD t (.slice none 0 0) = vs.getD t (.slice none 0 0) := by
      simp only [List.getD_eq_getElem?_getD]; rw [List.getElem?_append_left (by omega)]
    rw [e]
    exact g1.grownM h2 hg
  · obtain rfl : t = j := by omega
    refine ⟨lev, ?_, hok⟩
    have e : (vs ++ [v]).getD t (.slice none 0 0) = v := by rw [← h1]; simp
    rw [e]
    exact hv.grownM h2 hg

/-- What a level is: of all in the list those of one dimension, told as lists, in order. -/
def LevOk (d : Nat) (C : List (List Int)) (A : List Nat) (t : Nat) (lev : List (List Int)) : Prop := SAsc lev ∧ ∀ r, r ∈ lev ↔ ∃ a ∈ A, dimL d C a = (t : Int) - 1 ∧ r = memL a

end Go.Proofs.YtopjjhejjjchpaaDoor

/- The document's answer: all faces: the walk. -/
namespace Go.Proofs.YtopjjhejjjchpaaDoor
open Go.RowKit
attribute [local go_sem ↓] Go.wp_at_zero Go.wp_at_succ

theorem Lvs.mono {B B' : Nat} {w : World} {x : Value} {j : Nat} {ok : Nat → List (List Int) → Prop} (h : Lvs B w x j ok) (hB : B' ≤ B) : Lvs B' w x j ok := by
  obtain ⟨vs, h1, h2, h3⟩ := h.rows
  exact ⟨vs, h1, h2.mono hB, fun t ht => by
    obtain ⟨lev, g1, g2⟩ := h3 t ht
    exact ⟨lev, g1.mono hB, g2⟩⟩

theorem pow16 {n : Nat} (h : n ≤ 16) : 2 ^ n ≤ 65536 := Nat.le_trans (Nat.pow_le_pow_right (by decide) h) (by decide)

end Go.Proofs.YtopjjhejjjchpaaDoor

/- The sides of a simplex that are met: the program. -/
namespace Go.Proofs.YtopjjhejjjchpaaDoor
open Go.RowKit
attribute [local go_sem ↓] Go.wp_at_zero Go.wp_at_succ

/-- Sets, as values. -/
def nats (ns : List Nat) : List Value := ns.map fun (n : Nat) => Value.int .u64 (n : Int)

@[simp] theorem nats_length (ns : List Nat) : (nats ns).length = ns.length := by simp [nats]

end Go.Proofs.YtopjjhejjjchpaaDoor

/- The sides of a simplex that are met: the program, its two functions. -/
namespace Go.Proofs.YtopjjhejjjchpaaDoor
open Go.RowKit
attribute [local go_sem ↓] Go.wp_at_zero Go.wp_at_succ

theorem one_u64 (z : Int) : ∀ u ∈ [Value.int .u64 z], u.oneCell' = true := by
  intro u hu; simp at hu; subst hu; rfl

end Go.Proofs.YtopjjhejjjchpaaDoor

/- Which of n things a raw number speaks of. -/
namespace Go.Proofs.YtopjjhejjjchpaaDoor
open Go.RowKit

def pickF (c n : Int) : Int := if c < 0 then (-(c + 1)) % n else c % n

theorem pickF_bd {c n : Int} (h : 1 ≤ n) : 0 ≤ pickF c n ∧ pickF c n < n := by
  unfold pickF
  split
  · exact ⟨Int.emod_nonneg _ (by omega), Int.emod_lt_of_pos _ (by omega)⟩
  · exact ⟨Int.emod_nonneg _ (by omega), Int.emod_lt_of_pos _ (by omega)⟩

set_option maxRecDepth 100000 in
set_option maxHeartbeats 400000 in
theorem pick_val (c n : Int) (w : World) (h1 : 1 ≤ n) (h2 : n ≤ 4611686018427387904) (hc : In64 c) :
    Calls Tryd.prog 4 #[.int .i64 c, .int .i64 n] w fun e w' => e = .returned (.int .i64 (pickF c n)) ∧ w' = w := by
  have c0 : -9223372036854775808 ≤ c := hc.1
  have c1 : c ≤ 9223372036854775807 := hc.2
  clear hc
  have hn0 : ¬ n = 0 := by omega
  by_cases hcn : c < 0
  · have HE : Hid (pickF c n = (-(c + 1)) % n) := if_pos hcn
    have e0 : (-(c + 1)).tmod n = (-(c + 1)) % n := Int.tmod_eq_emod_of_nonneg (by omega)
    have e1 := Int.emod_nonneg (-(c + 1)) hn0
    have e2 := Int.emod_lt_of_pos (-(c + 1)) (show 0 < n by omega)
    go_enter Tryd.func4, Tryd.ntmps4
    go_wp2
    go_ret
    exact ⟨by rw [HE.out]; rfl, rfl⟩
  · have HE : Hid (pickF c n = c % n) := if_neg hcn
    have e0 : c.tmod n = c % n := Int.tmod_eq_emod_of_nonneg (by omega)
    have e1 := Int.emod_nonneg c hn0
    have e2 := Int.emod_lt_of_pos c (show 0 < n by omega)
    go_enter Tryd.func4, Tryd.ntmps4
    go_wp2
    go_ret
    exact ⟨by rw [HE.out]; rfl, rfl⟩

end Go.Proofs.YtopjjhejjjchpaaDoor

/- A polytope has a side; the law ShellMade: the walk. -/
namespace Go.Proofs.YtopjjhejjjchpaaDoor
open Lin

/-- A row meets one of the points that it comes of. -/
theorem row_meets {d : Nat} {C : List (List Int)} (hg : Good d C) {r : List Int} (hr : r ∈ rowsC C [] d C) : ∃ y ∈ C, r.getD d 0 = dot d (V r) (V y) := by
  obtain ⟨t, hts, htl, hrt⟩ := mem_rowsC.1 hr
  obtain ⟨σ, hσ, hnb, hre⟩ := rowT_form htl hrt
  have hal := norm_len hnb
  have hd1 := hg.d1
  have hVr : ∀ i, i < d → V r i = σ * V (normL d (diffL t)) i := fun i hi => by
    rw [hre]
    have h := V_map (normL d (diffL t) ++ [dotL (normL d (diffL t)) (t.getD 0 [])]) σ i
    rw [h, (row_app hal).2.2.2 i hi]
  have hlast : r.getD d 0 = σ * dotL (normL d (diffL t)) (t.getD 0 []) := by
    rw [hre]
    have h := V_map (normL d (diffL t) ++ [dotL (normL d (diffL t)) (t.getD 0 [])]) σ d
    simp only [V] at h
    rw [h, (row_app hal).2.2.1]
  refine ⟨t.getD 0 [], hts.subset (by simp [show 0 < t.length by omega]), ?_⟩
  rw [hlast, dotL_eq hal]
  unfold dot
  rw [← sumN_mul]
  exact (sumN_congr fun i hi => by rw [hVr i hi, Int.mul_assoc]).symm

theorem mem_side {C : List (List Int)} {r : List Int} (hC : C.length ≤ 16) {y : List Int} : y ∈ pks C [] (memL (sdN C r)) ↔ y ∈ C ∧ overL r y = 0 := by
  have hlt : sdN C r < 2 ^ 64 := Nat.lt_of_lt_of_le (sdTo_lt C r C.length) (Nat.pow_le_pow_right (by decide) (by omega))
  unfold pks
  simp only [List.mem_map]
  constructor
  · rintro ⟨x, hx, rfl⟩
    obtain ⟨k, rfl, hk⟩ := (mem_memL hlt).1 hx
    unfold sdN at hk
    rw [sdTo_bit] at hk
    simp only [Bool.and_eq_true, decide_eq_true_eq] at hk
    rw [show ((k : Int)).toNat = k by omega]
    exact ⟨by simp [hk.1], hk.2⟩
  · rintro ⟨hy, ho⟩
    obtain ⟨k, hk, rfl⟩ := List.mem_iff_getElem.1 hy
    have e : C.getD k [] = C[k] := by simp [hk]
    refine ⟨(k : Int), (mem_memL hlt).2 ⟨k, rfl, ?_⟩, by rw [show ((k : Int)).toNat = k by omega]; exact e⟩
    unfold sdN
    rw [sdTo_bit, e]
    simp [hk, ho]

open Go.RowKit
attribute [local go_sem ↓] Go.wp_at_zero Go.wp_at_succ

end Go.Proofs.YtopjjhejjjchpaaDoor
