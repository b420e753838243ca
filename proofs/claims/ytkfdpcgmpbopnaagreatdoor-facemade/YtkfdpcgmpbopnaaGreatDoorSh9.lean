/- Simplices that may be: what is known of them; sets for lists. -/
import Derived.Test.YtkfdpcgmpbopnaaGreatDoorSh8
namespace Go.Proofs.YtkfdpcgmpbopnaaGreatDoor
open Go.RowKit

/-- Simplices that may be. -/
structure Sim (m : List (List Int)) : Prop where
  n1 : 1 ≤ m.length
  n40 : m.length ≤ 40
  c1 : 1 ≤ (m.getD 0 []).length
  c5 : (m.getD 0 []).length ≤ 5
  len : ∀ i, i < m.length → (m.getD i []).length = (m.getD 0 []).length
  b64 : ∀ i, i < m.length → B64 (m.getD i [])
  ris : ∀ i, i < m.length → Ris (m.getD i [])
  new : ∀ i, i < m.length → m.getD i [] ∉ m.take i

theorem num_ok {x : List Int} (h : firstE (numE x) x.length = 0) : B64 x ∧ Ris x := by
  have h1 : ∀ k, k < x.length → (0 ≤ x.getD k 0 ∧ x.getD k 0 ≤ 63) ∧ (0 < k → x.getD (k - 1) 0 < x.getD k 0) := by
    intro k hk
    have := firstE_zero _ h k hk
    unfold numE at this
    split at this
    · omega
    · split at this
      · omega
      · rename_i q1 q2
        exact ⟨by omega, fun h0 => by
          refine Classical.byContradiction fun h3 => q2 ⟨h0, by omega⟩⟩
  constructor
  · intro z hz
    obtain ⟨k, hk, rfl⟩ := List.mem_iff_getElem.1 hz
    have := (h1 k hk).1
    simpa [hk] using this
  · have h2 : ∀ j k, j < k → k < x.length → x.getD j 0 < x.getD k 0 := by
      intro j k
      induction k with
      | zero => intro h; omega
      | succ k ih =>
        intro hj hk
        have h3 := (h1 (k + 1) hk).2 (by omega)
        simp only [Nat.add_sub_cancel] at h3
        by_cases e : j = k
        · subst e; exact h3
        · have := ih (by omega) (by omega)
          omega
    show x.Pairwise (· < ·)
    rw [List.pairwise_iff_getElem]
    intro i j hi hj hij
    have := h2 i j hij hj
    simpa [hi, hj] using this

theorem facets_ok {m : List (List Int)} (h : facetsE m = 0) : Sim m := by
  unfold facetsE at h
  split at h
  · omega
  · rename_i hl
    have h1 : ∀ i, i < m.length → listE (m.getD 0 []).length (m.getD i []) = 0 ∧ (m.take i).contains (m.getD i []) = false := by
      intro i hi
      have := firstE_zero _ h i hi
      unfold simE at this
      split at this
      · rename_i h0
        refine ⟨h0, ?_⟩
        cases hc : (m.take i).contains (m.getD i [])
        · rfl
        · rw [hc] at this
          simp at this
      · rename_i h0
        exact absurd this h0
    have h2 : ∀ i, i < m.length → ((m.getD i []).length = (m.getD 0 []).length ∧ 1 ≤ (m.getD 0 []).length ∧ (m.getD 0 []).length ≤ 5) ∧ firstE (numE (m.getD i [])) (m.getD i []).length = 0 := by
      intro i hi
      have := (h1 i hi).1
      unfold listE at this
      split at this
      · omega
      · exact ⟨by omega, this⟩
    exact
      { n1 := by omega
        n40 := by omega
        c1 := (h2 0 (by omega)).1.2.1
        c5 := (h2 0 (by omega)).1.2.2
        len := fun i hi => (h2 i hi).1.1
        b64 := fun i hi => (num_ok (h2 i hi).2).1
        ris := fun i hi => (num_ok (h2 i hi).2).2
        new := fun i hi hm => by
          have := (h1 i hi).2
          rw [List.contains_iff_mem.2 hm] at this
          cases this }

theorem sim_take {m : List (List Int)} (i : Nat) : ∀ o ∈ m.take i, ∃ j, j < m.length ∧ j < i ∧ o = m.getD j [] := by
  intro o ho
  obtain ⟨j, hj, rfl⟩ := List.mem_take_iff_getElem.1 ho
  exact ⟨j, by omega, by omega, by simp [show j < m.length by omega]⟩

theorem Sim.ahd {m : List (List Int)} (h : Sim m) {i : Nat} (hi : i < m.length) : Ahd (m.getD i []) (m.take i) := by
  intro o ho
  obtain ⟨j, hj, hji, rfl⟩ := sim_take i o ho
  refine ⟨h.ris j hj, by rw [h.len i hi, h.len j hj], fun e => h.new i hi ?_⟩
  rw [e]
  exact ho

theorem Sim.ab {m : List (List Int)} (h : Sim m) (i : Nat) : ∀ o ∈ m.take i, B64 o := by
  intro o ho
  obtain ⟨j, hj, _, rfl⟩ := sim_take i o ho
  exact h.b64 j hj

theorem any_sub {s : List Int} {ahead : List (List Int)} (hs : B64 s) (ha : ∀ o ∈ ahead, B64 o) :
    ((ahead.map setN).any fun a => outN (setN s) a == 0) = ahead.any (subB s) := by
  rw [List.any_map]
  rw [Bool.eq_iff_iff, List.any_eq_true, List.any_eq_true]
  constructor
  · rintro ⟨o, ho, h⟩
    exact ⟨o, ho, (setN_in s o hs (ha o ho)).1 (by simpa using h)⟩
  · rintro ⟨o, ho, h⟩
    exact ⟨o, ho, by simpa using (setN_in s o hs (ha o ho)).2 h⟩

theorem met_map {x : List Int} {ahead : List (List Int)} (hx : B64 x) (ha : ∀ o ∈ ahead, B64 o) :
    ((x.map fun v => setN (butL x v)).filter fun s => (ahead.map setN).any fun a => outN s a == 0) = (metL x ahead).map setN := by
  have e1 : (x.map fun v => setN (butL x v)) = (x.map (butL x)).map setN := by rw [List.map_map]; rfl
  rw [e1, List.filter_map]
  unfold metL
  congr 1
  apply List.filter_congr
  intro s hs
  obtain ⟨v, _, rfl⟩ := List.mem_map.1 hs
  exact any_sub (hx.filter _) ha

theorem met_b64 {x : List Int} {ahead : List (List Int)} (hx : B64 x) : ∀ s ∈ metL x ahead, B64 s := by
  intro s hs
  obtain ⟨h1, _⟩ := List.mem_filter.1 hs
  obtain ⟨v, _, rfl⟩ := List.mem_map.1 h1
  exact hx.filter _

theorem l64_map {l : List (List Int)} (h : ∀ o ∈ l, B64 o) : L64 (l.map setN) := by
  intro n hn
  obtain ⟨o, ho, rfl⟩ := List.mem_map.1 hn
  exact setN_lt' (h o ho)

theorem meet_map {x : List Int} {ahead met : List (List Int)} (hx : B64 x) (ha : ∀ o ∈ ahead, B64 o) (hm : ∀ o ∈ met, B64 o) :
    (!((ahead.map setN).any fun o => !((met.map setN).any fun a => outN (setN x &&& o) a == 0))) = meetB x ahead met := by
  have e : ∀ o ∈ ahead, ((met.map setN).any fun a => outN (setN x &&& setN o) a == 0) = met.any (subB (sharedL x o)) := by
    intro o ho
    rw [setN_and x o hx (ha o ho)]
    exact any_sub (hx.filter _) hm
  unfold meetB
  have e2 : ((ahead.map setN).any fun o => !((met.map setN).any fun a => outN (setN x &&& o) a == 0)) = ahead.any fun o => !(met.any (subB (sharedL x o))) := by
    rw [List.any_map]
    rw [Bool.eq_iff_iff, List.any_eq_true, List.any_eq_true]
    constructor
    · rintro ⟨o, ho, h⟩
      exact ⟨o, ho, by rw [← e o ho]; exact h⟩
    · rintro ⟨o, ho, h⟩
      exact ⟨o, ho, by rw [← e o ho] at h; exact h⟩
  rw [e2, ← List.all_eq_not_any_not]

/-- How many have how many. -/
def cntL (c : Nat) (f : Nat → Nat) : Nat → List Int
  | 0 => List.replicate (c + 1) 0
  | k + 1 => (cntL c f k).set (f k) ((cntL c f k).getD (f k) 0 + 1)

theorem cntL_len (c : Nat) (f : Nat → Nat) : ∀ k, (cntL c f k).length = c + 1
  | 0 => by simp [cntL]
  | k + 1 => by simp [cntL, cntL_len c f k]

theorem cntL_le (c : Nat) (f : Nat → Nat) : ∀ k j, 0 ≤ (cntL c f k).getD j 0 ∧ (cntL c f k).getD j 0 ≤ k
  | 0, j => by
    have : (cntL c f 0).getD j 0 = 0 := by
      simp only [cntL, List.getD_eq_getElem?_getD, List.getElem?_replicate]
      split <;> rfl
    omega
  | k + 1, j => by
    have h1 := cntL_le c f k j
    have h2 := cntL_le c f k (f k)
    have e : (cntL c f (k + 1)).getD j 0 = (cntL c f k).getD (f k) 0 + 1 ∨ (cntL c f (k + 1)).getD j 0 = (cntL c f k).getD j 0 := by
      rw [show cntL c f (k + 1) = (cntL c f k).set (f k) ((cntL c f k).getD (f k) 0 + 1) from rfl]
      generalize cntL c f k = L at *
      simp only [List.getD_eq_getElem?_getD, List.getElem?_set]
      by_cases e1 : f k = j
      · subst e1
        by_cases e2 : f k < L.length
        · left; simp [e2]
        · right; simp [e2]
      · right; simp [e1]
    omega

theorem cntL_congr (c : Nat) (f g : Nat → Nat) : ∀ k, (∀ i, i < k → f i = g i) → cntL c f k = cntL c g k
  | 0, _ => rfl
  | k + 1, h => by
    unfold cntL
    rw [cntL_congr c f g k (fun i hi => h i (by omega)), h k (by omega)]

/-- A row of integers that lies in block N. -/
def Blk (N : Nat) (w : World) (l : List Int) : Prop := w.heap[N]? = some (.cells (ints l).toArray 3 (0, 0))

theorem Blk.cell {N : Nat} {w : World} {l : List Int} (h : Blk N w l) {j : Nat} (hj : j < l.length) : w.cell? ⟨N, j, none⟩ = some (.int .i64 (l.getD j 0)) := by
  unfold Blk at h
  simp [World.cell?, h, ints, hj]

theorem Blk.frozen {N : Nat} {w : World} {l : List Int} (h : Blk N w l) (j : Nat) : w.frozen? ⟨N, j, none⟩ = false := by
  unfold Blk at h
  simp [World.frozen?, h]

theorem Blk.set {N : Nat} {w : World} {l : List Int} (h : Blk N w l) (j : Nat) (z : Int) : Blk N (w.setCell ⟨N, j, none⟩ (.int .i64 z)) (l.set j z) := by
  unfold Blk at h ⊢
  simp only [World.setCell, Array.getElem?_modify, h]
  simp [ints, List.map_set]

theorem Blk.keep {N M : Nat} {w w' : World} {l : List Int} (h : Blk N w l) (hb : Below M w w') (hN : N < M) : Blk N w' l := by
  unfold Blk at h ⊢
  rw [hb.block N hN]
  exact h

theorem made_eq (n : Nat) : madeCells #[.int .i64 0] n = (ints (List.replicate n 0)).toArray := by
  apply Array.ext
  · simp [madeCells, ints]
  · intro i h1 h2
    simp [madeCells, ints, Nat.mod_one]

theorem Blk.made (w : World) (n : Nat) : Blk w.heap.size (w.alloc (.cells (madeCells #[.int .i64 0] n) 3)) (List.replicate n 0) := by
  unfold Blk
  rw [heap_alloc_new, made_eq]

theorem Blk.sl {N B : Nat} {w : World} {l : List Int} (h : Blk N w l) (hl : l.length ≤ 1000) : Sl B 3 w (.slice (some ⟨N, 0, none⟩) l.length l.length) (ints l) := by
  refine ⟨some ⟨N, 0, none⟩, l.length, by simp, by simp, by unfold maxLen; omega, fun i hi => ?_, fun h => by cases h⟩
  have hi' : i < l.length := by simpa using hi
  refine ⟨N, 0, rfl, ?_, Or.inr ⟨_, h⟩⟩
  rw [Nat.zero_add, h.cell hi', ints_get _ _ hi']
end Go.Proofs.YtkfdpcgmpbopnaaGreatDoor
