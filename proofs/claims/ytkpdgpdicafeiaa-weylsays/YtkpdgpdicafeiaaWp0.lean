/- TopWords, pure. -/
import Derived.Test.YtkpdgpdicafeiaaWz3
namespace Go.Proofs.Ytkpdgpdicafeiaa

theorem lt_app {c : List (List Int)} {wd : List Nat} (h : Lt c wd) {l : List Nat} (hl : ∀ r ∈ l, r < c.length) : Lt c (wd ++ l) := fun x hx => by
  rcases List.mem_append.1 hx with h1 | h1
  · exact h x h1
  · exact hl x h1

theorem rd_len_le {n : Nat} {c R : List (List Int)} (h : Gda n c R) {wd : List Nat} (hw : Lt c wd) : (rdW c wd).length ≤ wd.length := by
  rw [(rd_all h hw).1]
  exact tak_le h.rt wd hw

end Go.Proofs.Ytkpdgpdicafeiaa
