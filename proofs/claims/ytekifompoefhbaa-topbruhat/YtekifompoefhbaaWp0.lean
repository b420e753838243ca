/- TopWords, pure. -/
import Derived.Test.YtekifompoefhbaaWz3
namespace Go.Proofs.Ytekifompoefhbaa

theorem lt_app {c : List (List Int)} {wd : List Nat} (h : Lt c wd) {l : List Nat} (hl : ∀ r ∈ l, r < c.length) : Lt c (wd ++ l) := fun x hx => by
  rcases List.mem_append.1 hx with h1 | h1
  · exact h x h1
  · exact hl x h1

theorem rd_twice {n : Nat} {c R : List (List Int)} (h : Gda n c R) (wd : List Nat) {s : Nat} (hs : s < c.length) : rdW c (wd ++ [s, s]) = rdW c wd := by
  unfold rdW
  rw [tak_twice h.rt wd hs]

theorem rd_len_le {n : Nat} {c R : List (List Int)} (h : Gda n c R) {wd : List Nat} (hw : Lt c wd) : (rdW c wd).length ≤ wd.length := by
  rw [(rd_all h hw).1]
  exact tak_le h.rt wd hw

theorem rd_ends {n : Nat} {c R : List (List Int)} (h : Gda n c R) {wd : List Nat} (hw : Lt c wd) {s : Nat} (hs : s < n) :
    (s ∈ enL (fwd c wd (ones n)) n → (rdW c (wd ++ [s])).length + 1 = (rdW c wd).length) ∧ (s ∉ enL (fwd c wd (ones n)) n → (rdW c (wd ++ [s])).length = (rdW c wd).length + 1) := by
  have hl := h.g.sq.len
  have hs' : s < c.length := by omega
  have he := ends_ok h.rt hw hs'
  have hws : Lt c (wd ++ [s]) := lt_app hw (fun r hr => by rw [List.mem_singleton] at hr; omega)
  rw [(rd_all h hws).1, (rd_all h hw).1]
  have hf : fwd c wd (ones n) = tak c wd.reverse (ones c.length) := by rw [fwd_tak, hl]
  have hwr : Lt c wd.reverse := fun x hx => hw x (by simpa using hx)
  have hm : s ∈ enL (fwd c wd (ones n)) n ↔ (tak c wd.reverse (ones c.length)).getD s 0 < 0 := by
    rw [hf]
    unfold enL
    rw [List.mem_filter, List.mem_range]
    exact ⟨fun h => by simpa using h.2, fun h => ⟨hs, by simpa using h⟩⟩
  have hz : (tak c wd.reverse (ones c.length)).getD s 0 ≠ 0 := by
    have := tak_rg h.rt (ones_rg h.rt) wd.reverse hwr (un c.length s) (h.rt.sim s hs')
    rw [pr_un _ hs'] at this
    exact this
  refine ⟨fun h1 => he.2 (hm.1 h1), fun h1 => he.1 ?_⟩
  have h3 : ¬ (tak c wd.reverse (ones c.length)).getD s 0 < 0 := fun h2 => h1 (hm.2 h2)
  omega

theorem natsI_mem {l : List Nat} {s : Nat} : (natsI l).contains (s : Int) = decide (s ∈ l) := by
  by_cases h : s ∈ l
  · rw [decide_eq_true h, List.contains_iff_mem]
    exact List.mem_map.2 ⟨s, h, rfl⟩
  · rw [decide_eq_false h, ← Bool.not_eq_true, List.contains_iff_mem]
    intro h2
    obtain ⟨k, hk, e⟩ := List.mem_map.1 h2
    have : k = s := by omega
    exact h (this ▸ hk)

end Go.Proofs.Ytekifompoefhbaa
