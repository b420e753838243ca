/- All orders: the program's lists and the document's are one. -/
import Derived.Test.YtcmemhdlendlkaaDoorPs1
namespace Go.Proofs.YtcmemhdlendlkaaDoor
open Go.RowKit

/-- May a thing stand next, in the document? -/
def odB (f : Nat → Nat) (h : List Int) (v : Nat) : Bool := !h.contains (v : Int) && h.all fun x => !(f v).testBit x.toNat

def odF (n : Nat) (f : Nat → Nat) : Nat → List Int → List (List Int)
  | 0, h => [h]
  | t + 1, h => (List.range n).flatMap fun v => if odB f h v then odF n f t (h ++ [(v : Int)]) else []

/-- What is above a thing of a set. -/
def abvF (f : Nat → Nat) (s : Nat) : Nat := (mem8 s).foldl (fun a x => a ||| f x.toNat) 0

/-- The least things of a set. -/
def minS (f : Nat → Nat) (s : Nat) : Nat := outN s (abvF f s)

def grF (f : Nat → Nat) : Nat → Nat → List Int → List (List Int)
  | 0, _, h => [h]
  | t + 1, s, h => (mem8 (minS f s)).flatMap fun v => grF f t (outN s (2 ^ v.toNat)) (h ++ [v])

theorem abv_bit {f : Nat → Nat} {s k : Nat} : (abvF f s).testBit k = true ↔ ∃ u : Nat, u < 8 ∧ s.testBit u = true ∧ (f u).testBit k = true := by
  have key : ∀ (l : List Int) (a : Nat), (l.foldl (fun a x => a ||| f x.toNat) a).testBit k = true ↔ a.testBit k = true ∨ ∃ x ∈ l, (f x.toNat).testBit k = true := by
    intro l
    induction l with
    | nil => intro a; simp
    | cons y l ih =>
      intro a
      rw [List.foldl_cons, ih, Nat.testBit_or, Bool.or_eq_true]
      simp only [List.mem_cons]
      constructor
      · rintro ((h | h) | ⟨x, h1, h2⟩)
        · exact .inl h
        · exact .inr ⟨y, .inl rfl, h⟩
        · exact .inr ⟨x, .inr h1, h2⟩
      · rintro (h | ⟨x, rfl | h1, h2⟩)
        · exact .inl (.inl h)
        · exact .inl (.inr h2)
        · exact .inr ⟨x, h1, h2⟩
  unfold abvF
  rw [key]
  simp only [Nat.zero_testBit, Bool.false_eq_true, false_or]
  constructor
  · rintro ⟨x, h1, h2⟩
    obtain ⟨u, h3, h4, rfl⟩ := mem8_iff.1 h1
    exact ⟨u, h3, h4, h2⟩
  · rintro ⟨u, h1, h2, h3⟩
    exact ⟨(u : Int), mem8_iff.2 ⟨u, h1, h2, rfl⟩, h3⟩

/-- What is left, and what stands already. -/
structure LfH (n : Nat) (s : Nat) (h : List Int) : Prop where
  bit : ∀ u, s.testBit u = true ↔ u < n ∧ (u : Int) ∉ h
  nd : h.Nodup
  bd : ∀ x ∈ h, ∃ u : Nat, x = (u : Int) ∧ u < n

theorem LfH.snoc {n s : Nat} {h : List Int} (H : LfH n s h) {v : Nat} (hv : s.testBit v = true) : LfH n (outN s (2 ^ v)) (h ++ [(v : Int)]) := by
  obtain ⟨h1, h2⟩ := (H.bit v).1 hv
  refine ⟨fun u => ?_, ?_, fun x hx => ?_⟩
  · rw [outN_bit, Nat.testBit_two_pow, Bool.and_eq_true, H.bit u, List.mem_append, List.mem_singleton]
    simp only [Bool.not_eq_true', decide_eq_false_iff_not]
    constructor
    · rintro ⟨⟨a, b⟩, c⟩
      exact ⟨a, fun e => e.elim b (fun e => c (by omega))⟩
    · rintro ⟨a, b⟩
      exact ⟨⟨a, fun e => b (.inl e)⟩, fun e => b (.inr (by omega))⟩
  · rw [List.nodup_append]
    refine ⟨H.nd, by simp, fun a ha b hb => ?_⟩
    rw [List.mem_singleton] at hb
    subst hb
    exact fun e => h2 (e ▸ ha)
  · rcases List.mem_append.1 hx with hx | hx
    · exact H.bd x hx
    · rw [List.mem_singleton] at hx
      exact ⟨v, hx, h1⟩

theorem LfH.full {n s : Nat} {h : List Int} (H : LfH n s h) (hl : n ≤ h.length) {u : Nat} (hu : u < n) : (u : Int) ∈ h := by
  refine Classical.byContradiction fun hn => ?_
  have h1 := nodup_len ((u : Int) :: h) ((List.range n).map fun k : Nat => (k : Int)) (List.nodup_cons.2 ⟨hn, H.nd⟩) (fun x hx => by
    rw [List.mem_map]
    rcases List.mem_cons.1 hx with rfl | hx
    · exact ⟨u, List.mem_range.2 hu, rfl⟩
    · obtain ⟨k, rfl, hk⟩ := H.bd x hx
      exact ⟨k, List.mem_range.2 hk, rfl⟩)
  simp at h1
  omega

/-- One left is below one that stands already: no list. -/
theorem od_dead {n : Nat} {f : Nat → Nat} {v u : Nat} (hu : u < n) (hb : (f u).testBit v = true) : ∀ (t s : Nat) (h : List Int), LfH n s h → h.length + t = n → (v : Int) ∈ h → (u : Int) ∉ h → odF n f t h = []
  | 0, s, h, H, hl, _, hn => absurd (H.full (by omega) hu) hn
  | t + 1, s, h, H, hl, hv, hn => by
    simp only [odF]
    rw [List.flatMap_eq_nil_iff]
    intro x hx
    by_cases ho : odB f h x = true
    · rw [if_pos ho]
      unfold odB at ho
      rw [Bool.and_eq_true, Bool.not_eq_true', List.all_eq_true] at ho
      obtain ⟨o1, o2⟩ := ho
      have hxs : s.testBit x = true := (H.bit x).2 ⟨List.mem_range.1 hx, fun e => by
        rw [List.contains_iff_mem.2 e] at o1
        cases o1⟩
      refine od_dead hu hb t _ _ (H.snoc hxs) (by rw [List.length_append, List.length_singleton]; omega) (by simp [hv]) ?_
      rw [List.mem_append, List.mem_singleton]
      rintro (e | e)
      · exact hn e
      · have : x = u := by omega
        subst this
        have := o2 _ hv
        rw [Int.toNat_natCast, hb] at this
        cases this
    · rw [if_neg ho]

theorem flat_filter {α β : Type} (p : α → Bool) (g : α → List β) : ∀ l : List α, l.flatMap (fun v => if p v then g v else []) = (l.filter p).flatMap g
  | [] => rfl
  | a :: l => by
    rw [List.flatMap_cons, flat_filter p g l]
    cases h : p a <;> simp [h]

theorem flat_congr {α β : Type} {g1 g2 : α → List β} : ∀ {l : List α}, (∀ x ∈ l, g1 x = g2 x) → l.flatMap g1 = l.flatMap g2
  | [], _ => rfl
  | a :: l, h => by
    rw [List.flatMap_cons, List.flatMap_cons, h a (by simp), flat_congr fun x hx => h x (by simp [hx])]

theorem od_gr {n : Nat} {f : Nat → Nat} (hP : PoO n f) (hn : n ≤ 6) : ∀ (t s : Nat) (h : List Int), LfH n s h → h.length + t = n → (∀ x ∈ h, ∀ u, s.testBit u = true → (f u).testBit x.toNat = false) → odF n f t h = grF f t s h
  | 0, s, h, _, _, _ => rfl
  | t + 1, s, h, H, hl, hg => by
    simp only [odF, grF]
    have hmin : ∀ v, (minS f s).testBit v = true ↔ s.testBit v = true ∧ ∀ u, s.testBit u = true → (f u).testBit v = false := fun v => by
      unfold minS
      rw [outN_bit, Bool.and_eq_true, Bool.not_eq_true']
      constructor
      · rintro ⟨h1, h2⟩
        refine ⟨h1, fun u hu => ?_⟩
        cases hb : (f u).testBit v
        · rfl
        · have : (abvF f s).testBit v = true := abv_bit.2 ⟨u, by have := ((H.bit u).1 hu).1; omega, hu, hb⟩
          rw [this] at h2
          cases h2
      · rintro ⟨h1, h2⟩
        refine ⟨h1, ?_⟩
        cases hb : (abvF f s).testBit v
        · rfl
        · obtain ⟨u, _, h3, h4⟩ := abv_bit.1 hb
          rw [h2 u h3] at h4
          cases h4
    have e1 : (List.range n).flatMap (fun v => if odB f h v then odF n f t (h ++ [(v : Int)]) else []) = (List.range n).flatMap (fun v => if (minS f s).testBit v then grF f t (outN s (2 ^ v)) (h ++ [(v : Int)]) else []) := flat_congr fun v hv => by
      have hvn := List.mem_range.1 hv
      by_cases hs : s.testBit v = true
      · have ho : odB f h v = true := by
          unfold odB
          rw [Bool.and_eq_true, Bool.not_eq_true', List.all_eq_true]
          refine ⟨?_, fun x hx => ?_⟩
          · cases hc : h.contains (v : Int)
            · rfl
            · exact absurd (List.contains_iff_mem.1 hc) ((H.bit v).1 hs).2
          · rw [hg x hx v hs]
            rfl
        rw [if_pos ho]
        by_cases hm : (minS f s).testBit v = true
        · rw [if_pos hm]
          refine od_gr hP hn t _ _ (H.snoc hs) (by rw [List.length_append, List.length_singleton]; omega) ?_
          intro x hx u hu
          have hu2 : s.testBit u = true := by
            rw [outN_bit, Bool.and_eq_true] at hu
            exact hu.1
          rcases List.mem_append.1 hx with hx | hx
          · exact hg x hx u hu2
          · rw [List.mem_singleton] at hx
            subst hx
            rw [Int.toNat_natCast]
            exact ((hmin v).1 hm).2 u hu2
        · rw [if_neg hm]
          have : ∃ u, s.testBit u = true ∧ (f u).testBit v = true := Classical.byContradiction fun hc => hm ((hmin v).2 ⟨hs, fun u hu => by
            cases hb : (f u).testBit v
            · rfl
            · exact absurd ⟨u, hu, hb⟩ hc⟩)
          obtain ⟨u, hu, hb⟩ := this
          obtain ⟨hun, hnh⟩ := (H.bit u).1 hu
          refine od_dead hun hb t _ _ (H.snoc hs) (by rw [List.length_append, List.length_singleton]; omega) (by simp) ?_
          rw [List.mem_append, List.mem_singleton]
          rintro (e | e)
          · exact hnh e
          · have : u = v := by omega
            subst this
            rw [hP.irr u hun] at hb
            cases hb
      · have ho : odB f h v = false := by
          unfold odB
          have : (v : Int) ∈ h := Classical.byContradiction fun hc => hs ((H.bit v).2 ⟨hvn, hc⟩)
          rw [List.contains_iff_mem.2 this]
          rfl
        have hm : ¬ (minS f s).testBit v = true := fun hm => hs ((hmin v).1 hm).1
        rw [ho, if_neg hm]
        rfl
    rw [e1, flat_filter]
    have e2 : mem8 (minS f s) = ((List.range n).filter fun k => (minS f s).testBit k).map fun k : Nat => (k : Int) := by
      have h8 : minS f s < 2 ^ n := by
        refine Nat.lt_pow_two_of_testBit _ fun k hk => ?_
        cases hb : (minS f s).testBit k
        · rfl
        · have := ((H.bit k).1 ((hmin k).1 hb).1).1
          omega
      have := memTo_top h8 (8 - n)
      rw [show n + (8 - n) = 8 by omega] at this
      exact this
    rw [e2, List.flatMap_map]
    refine flat_congr fun v _ => ?_
    rw [Int.toNat_natCast]

theorem lf_all (n : Nat) : LfH n (2 ^ n - 1) [] := ⟨fun u => by simp [Nat.testBit_two_pow_sub_one], by simp, fun x hx => by simp at hx⟩

theorem gr_len (f : Nat → Nat) : ∀ (t s : Nat) (h : List Int), (grF f t s h).length ≤ 8 ^ t
  | 0, _, _ => by simp [grF]
  | t + 1, s, h => by
    simp only [grF]
    have key : ∀ l : List Int, (l.flatMap fun v => grF f t (outN s (2 ^ v.toNat)) (h ++ [v])).length ≤ l.length * 8 ^ t := by
      intro l
      induction l with
      | nil => simp
      | cons a l ih =>
        rw [List.flatMap_cons, List.length_append, List.length_cons, Nat.add_mul, Nat.one_mul]
        have := gr_len f t (outN s (2 ^ a.toNat)) (h ++ [a])
        omega
    have h1 := key (mem8 (minS f s))
    have h2 : (mem8 (minS f s)).length * 8 ^ t ≤ 8 * 8 ^ t := Nat.mul_le_mul_right _ (mem8_len _)
    have e : 8 ^ (t + 1) = 8 * 8 ^ t := by rw [Nat.pow_succ, Nat.mul_comm]
    omega

end Go.Proofs.YtcmemhdlendlkaaDoor
