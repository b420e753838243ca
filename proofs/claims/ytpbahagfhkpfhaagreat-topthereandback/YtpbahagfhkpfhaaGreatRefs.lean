/- The document's answer: copies, signs, divisors. -/
import Derived.Test.YtpbahagfhkpfhaaGreatCycAll
import Derived.Laws.AppendOwnNone
import Derived.Test.YtpbahagfhkpfhaaGreatLinAll
namespace Go.Proofs.YtpbahagfhkpfhaaGreat
open Go.RowKit

theorem ints_oneCell' (l : List Int) : ∀ u ∈ ints l, u.oneCell' = true := by
  intro u hu; simp only [ints, List.mem_map] at hu; obtain ⟨z, _, rfl⟩ := hu; rfl

theorem sl_cells {B : Nat} {e : TypeId} {w : World} {a : Addr} {n cap : Nat} {xs : List Value} (h : Sl B e w (.slice (some a) n cap) xs) (o : Obj) : ∀ j u, xs[j]? = some u → (w.alloc o).cell? (a.add j) = some u := by
  intro j u hj
  have hlt : j < xs.length := by
    rcases Nat.lt_or_ge j xs.length with h' | h'
    · exact h'
    · rw [List.getElem?_eq_none h'] at hj; cases hj
  obtain ⟨ao, c, hv, h1, h2, h3, h4⟩ := h.alloc o
  simp only [Value.slice.injEq] at hv
  obtain ⟨rfl, _, rfl⟩ := hv
  obtain ⟨b, of, hb, hc, _⟩ := h3 j hlt
  simp only [Option.some.injEq] at hb
  subst hb
  rw [← hj, ← hc]
  by_cases hj0 : j = 0
  · subst hj0; simp [Addr.add]
  · simp [Addr.add, hj0]

theorem gc_snoc (l : List Int) (k : Nat) (h : k < l.length) : Lin.gc (l.take (k + 1)) = Nat.gcd (Lin.gc (l.take k)) (l[k]).natAbs := by
  rw [List.take_succ_eq_append_getElem h]; unfold Lin.gc Lin.gcf; rw [List.foldl_append]; rfl

theorem gc_le {l : List Int} {b : Nat} (h : ∀ z ∈ l, z.natAbs ≤ b) : Lin.gc l ≤ b := by
  by_cases h0 : ∃ z ∈ l, z ≠ 0
  · obtain ⟨z, hz, hne⟩ := h0
    have h1 := Lin.gc_dvd hz
    have h2 : Lin.gc l ∣ z.natAbs := Int.ofNat_dvd_left.1 h1
    have := Nat.le_of_dvd (by omega) h2
    have := h z hz
    omega
  · have : ∀ g, g = 0 → Lin.gcf g l = 0 := by
      intro g hg
      subst hg
      have hz : ∀ z ∈ l, z = 0 := by
        intro z hz
        apply Classical.byContradiction
        intro hne
        exact h0 ⟨z, hz, hne⟩
      clear h h0
      induction l with
      | nil => rfl
      | cons v l ih =>
        have : v = 0 := hz v (by simp)
        subst this
        have := ih fun z hz' => hz z (by simp [hz'])
        simpa [Lin.gcf] using this
    have := this 0 rfl
    unfold Lin.gc; omega

theorem low_small {l : List Int} {z : Int} (h : z ∈ l) (hg : Lin.gc l ≤ 1) : z / (Lin.gc l : Int) = z := by
  by_cases h1 : Lin.gc l = 1
  · rw [h1]; simp
  · have h0 : Lin.gc l = 0 := by omega
    obtain ⟨q, hq⟩ := Lin.gc_dvd h
    rw [h0] at hq ⊢
    simp at hq ⊢
    omega

end Go.Proofs.YtpbahagfhkpfhaaGreat
