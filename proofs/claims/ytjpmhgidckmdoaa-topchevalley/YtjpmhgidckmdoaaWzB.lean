import Derived.Test.YtjpmhgidckmdoaaWzA
import Derived.Test.YtjpmhgidckmdoaaWlA
import Derived.Test.YtjpmhgidckmdoaaWy5
/- weyl.Reduce, Same, Ends. -/
namespace Go.Proofs.Ytjpmhgidckmdoaa
open Go.RowKit
attribute [local go_sem ↓] Go.wp_at_zero Go.wp_at_succ

/-- A good matrix, its roots at hand. -/
structure Gda (n : Nat) (c R : List (List Int)) : Prop where
  g : Gdc n c
  rt : Rt c R
  rl : R.length ≤ 24
  q : qS n R (ones n) ≤ 1000

def BdQ (n : Nat) (R : List (List Int)) (u : List Int) : Prop := u.length = n ∧ qS n R u ≤ 1000

theorem Gda.b0 {n : Nat} {c R : List (List Int)} (h : Gda n c R) : BdQ n R (ones n) := ⟨by simp [ones], h.q⟩

theorem Gda.b1 {n : Nat} {c R : List (List Int)} (h : Gda n c R) (u : List Int) (r : Nat) (hr : r < n) (hu : BdQ n R u) : BdQ n R (ovL c u r) := by
  have hl := h.g.sq.len
  refine ⟨by rw [ovL_len, hl], ?_⟩
  have e := qS_ov h.rt u (r := r) (by omega)
  rw [hl] at e
  rw [e]
  exact hu.2

theorem le_sum_nat {l : List Nat} {x : Nat} (h : x ∈ l) : x ≤ l.sum := by
  induction l with
  | nil => simp at h
  | cons y l ih =>
    rw [List.sum_cons]
    rcases List.mem_cons.1 h with rfl | h
    · omega
    · have := ih h; omega

theorem Gda.b2 {n : Nat} {c R : List (List Int)} (h : Gda n c R) (u : List Int) (hu : BdQ n R u) (k : Nat) : -1000000 ≤ u.getD k 0 ∧ u.getD k 0 ≤ 1000000 := by
  have hl := h.g.sq.len
  by_cases hk : k < n
  · have h1 : (pr n u (un n k)).natAbs ∈ R.map fun b => (pr n u b).natAbs := List.mem_map.2 ⟨un n k, by have := h.rt.sim k (by omega); rwa [hl] at this, rfl⟩
    have h2 := le_sum_nat h1
    have h3 := hu.2
    unfold qS at h3
    rw [pr_un _ hk] at h2
    omega
  · have : u.getD k 0 = 0 := by
      rw [List.getD_eq_getElem?_getD, List.getElem?_eq_none (by have := hu.1; omega)]; rfl
    omega

/-- The first of the shortest words. -/
def rdW (c : List (List Int)) (wd : List Nat) : List Nat := upr c 24 (tak c wd (ones c.length))

theorem rd_all {n : Nat} {c R : List (List Int)} (h : Gda n c R) {wd : List Nat} (hw : Lt c wd) :
    (rdW c wd).length = nB c.length R (tak c wd (ones c.length)) ∧ Lt c (rdW c wd) ∧ tak c (rdW c wd) (ones c.length) = tak c wd (ones c.length) ∧ fneg (upE c 24 (tak c wd (ones c.length))) = none :=
  upr_all h.rt 24 wd hw (Nat.le_trans List.countP_le_length h.rl)

theorem own_low {B B' n : Nat} {e : TypeId} {w : World} {v : Value} {xs : List Value} (h : w.ownsRow B' e 1 v n xs) (hB : B ≤ B') : w.ownsRow B e 1 v n xs := by
  refine ⟨h.1, ?_⟩
  rcases h.2 with h1 | ⟨g, cap, cur, h1, h2, h3⟩
  · exact .inl h1
  · exact .inr ⟨g, cap, cur, h1, Nat.le_trans hB h2, h3⟩

theorem btx_below {B g : Nat} {w w1 w2 : World} (h : Below B w w1) (hB : B ≤ w.heap.size) (k : Btx g w1 w2) (hg : B ≤ g) : Below B w w2 :=
  ⟨k.os.trans h.os, k.tape.trans h.tape, k.output.trans h.output, Nat.le_trans h.size k.size, fun b hb => (k.block b (by have := h.size; omega) (by omega)).trans (h.block b hb)⟩

theorem gdw_of {n : Nat} {c : List (List Int)} {wd : List Nat} (hn : c.length = n) (h : Lt c wd) (hl : wd.length ≤ 40) : Gdw n (natsI wd) :=
  ⟨by rw [natsI_len]; exact hl, fun x hx => by
    obtain ⟨k, hk, rfl⟩ := List.mem_map.1 hx
    have := h k hk
    omega⟩

/-- The letters below 0. -/
def enL (v : List Int) (n : Nat) : List Nat := (List.range n).filter fun k => decide (v.getD k 0 < 0)

theorem enL_succ (v : List Int) (n : Nat) : enL v (n + 1) = if v.getD n 0 < 0 then enL v n ++ [n] else enL v n := by
  unfold enL
  rw [List.range_succ, List.filter_append]
  by_cases h : v.getD n 0 < 0
  · rw [if_pos h, List.filter_cons_of_pos (by simpa using h)]; rfl
  · rw [if_neg h, List.filter_cons_of_neg (by simpa using h)]; simp

theorem enL_le (v : List Int) (n : Nat) : (enL v n).length ≤ n := by
  have := List.length_filter_le (fun k => decide (v.getD k 0 < 0)) (List.range n)
  rw [List.length_range] at this
  exact this

end Go.Proofs.Ytjpmhgidckmdoaa

/- TopWords, pure. -/
namespace Go.Proofs.Ytjpmhgidckmdoaa

theorem lt_app {c : List (List Int)} {wd : List Nat} (h : Lt c wd) {l : List Nat} (hl : ∀ r ∈ l, r < c.length) : Lt c (wd ++ l) := fun x hx => by
  rcases List.mem_append.1 hx with h1 | h1
  · exact h x h1
  · exact hl x h1

theorem rd_twice {n : Nat} {c R : List (List Int)} (h : Gda n c R) (wd : List Nat) {s : Nat} (hs : s < c.length) : rdW c (wd ++ [s, s]) = rdW c wd := by
  unfold rdW
  rw [tak_twice h.rt wd hs]

theorem rd_len_le {n : Nat} {c R : List (List Int)} (h : Gda n c R) {wd : List Nat} (hw : Lt c wd) : (rdW c wd).length ≤ wd.length := by
  rw [(rd_all h hw).1]
  exact tak_le h.rt wd hw

theorem rd_ends {n : Nat} {c R : List (List Int)} (h : Gda n c R) {wd : List Nat} (hw : Lt c wd) {s : Nat} (hs : s < n) :
    (s ∈ enL (fwd c wd (ones n)) n → (rdW c (wd ++ [s])).length + 1 = (rdW c wd).length) ∧ (s ∉ enL (fwd c wd (ones n)) n → (rdW c (wd ++ [s])).length = (rdW c wd).length + 1) := by
  have hl := h.g.sq.len
  have hs' : s < c.length := by omega
  have he := ends_ok h.rt hw hs'
  have hws : Lt c (wd ++ [s]) := lt_app hw (fun r hr => by rw [List.mem_singleton] at hr; omega)
  rw [(rd_all h hws).1, (rd_all h hw).1]
  have hf : fwd c wd (ones n) = tak c wd.reverse (ones c.length) := by rw [fwd_tak, hl]
  have hwr : Lt c wd.reverse := fun x hx => hw x (by simpa using hx)
  have hm : s ∈ enL (fwd c wd (ones n)) n ↔ (tak c wd.reverse (ones c.length)).getD s 0 < 0 := by
    rw [hf]
    unfold enL
    rw [List.mem_filter, List.mem_range]
    exact ⟨fun h => by simpa using h.2, fun h => ⟨hs, by simpa using h⟩⟩
  have hz : (tak c wd.reverse (ones c.length)).getD s 0 ≠ 0 := by
    have := tak_rg h.rt (ones_rg h.rt) wd.reverse hwr (un c.length s) (h.rt.sim s hs')
    rw [pr_un _ hs'] at this
    exact this
  refine ⟨fun h1 => he.2 (hm.1 h1), fun h1 => he.1 ?_⟩
  have h3 : ¬ (tak c wd.reverse (ones c.length)).getD s 0 < 0 := fun h2 => h1 (hm.2 h2)
  omega

theorem natsI_mem {l : List Nat} {s : Nat} : (natsI l).contains (s : Int) = decide (s ∈ l) := by
  by_cases h : s ∈ l
  · rw [decide_eq_true h, List.contains_iff_mem]
    exact List.mem_map.2 ⟨s, h, rfl⟩
  · rw [decide_eq_false h, ← Bool.not_eq_true, List.contains_iff_mem]
    intro h2
    obtain ⟨k, hk, e⟩ := List.mem_map.1 h2
    have : k = s := by omega
    exact h (this ▸ hk)

end Go.Proofs.Ytjpmhgidckmdoaa
