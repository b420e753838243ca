/- Edges that lead nowhere around grow: a graph's sets make a matroid. -/
import Derived.Test.YtkndimmcndfnnaaDoorGm0
import Derived.Test.YtkndimmcndfnnaaDoorGp4
namespace Go.Proofs.YtkndimmcndfnnaaDoor
open Go.RowKit

/-- The partition that joins edges is the finest. -/
theorem ker_min {es : List (Nat × Nat)} {r : Nat → Nat} (h : ∀ e ∈ es, r e.1 = r e.2) {u v : Nat} (e : jns es (fun v => v) u = jns es (fun v => v) v) : r u = r v := by
  have := (jns_closed (S := fun w => r w = r u) es (p := fun v => v) (fun a b hab => by rw [show a = b from hab]) (fun x hx => by rw [h x hx]) u v e).1 rfl
  exact this.symm

theorem pt_mono {n : Nat} {p q : Nat → Nat} (h : ∀ u v, p u = p v → q u = q v) : ptN n q ≤ ptN n p := by
  unfold ptN
  refine List.countP_mono_left fun v _ hv => ?_
  rw [lsB_iff] at hv ⊢
  exact fun u hu e => hv u hu (h u v e)

theorem mem_pkE {es : List (Nat × Nat)} {s : Nat} (hs : s < 256) {e : Nat × Nat} : e ∈ pkE es s ↔ ∃ i, s.testBit i = true ∧ e = es.getD i (0, 0) := by
  unfold pkE
  simp only [List.mem_map]
  constructor
  · rintro ⟨z, hz, rfl⟩
    obtain ⟨i, _, h2, rfl⟩ := mem8_iff.1 hz
    exact ⟨i, h2, by simp⟩
  · rintro ⟨i, h2, rfl⟩
    exact ⟨(i : Int), mem8_iff.2 ⟨i, bit_lt (n := 8) hs h2, h2, rfl⟩, by simp⟩

/-- How many parts a set of edges leaves. -/
def ptS (n : Nat) (es : List (Nat × Nat)) (s : Nat) : Nat := ptN n (jns (pkE es s) fun v => v)

theorem frE_pt {n : Nat} {es : List (Nat × Nat)} (hes : ∀ e ∈ es, e.1 < n ∧ e.2 < n) {s : Nat} (hs : s < 2 ^ es.length) : n ≤ ptS n es s + szN s ∧ (frE es s = true ↔ ptS n es s + szN s = n) := by
  have h := fs_count (n := n) (pkE es s) (fun v => v) (pkE_lt hs hes)
  rw [pt_id, pkE_len] at h
  exact h

/-- An edge more joins two parts at most. -/
theorem pt_or_ge {n : Nat} {es : List (Nat × Nat)} (hes : ∀ e ∈ es, e.1 < n ∧ e.2 < n) (h8 : es.length ≤ 8) {s y : Nat} (hs : s < 2 ^ es.length) (hy : y < es.length) : ptS n es s ≤ ptS n es (s ||| 2 ^ y) + 1 := by
  have hs8 := lt_256 h8 hs
  have hso := lt_256 h8 (or_ltn hs hy)
  obtain ⟨p, hp⟩ : ∃ p, p = jns (pkE es s) (fun v => v) := ⟨_, rfl⟩
  obtain ⟨e, he⟩ : ∃ e, e = es.getD y (0, 0) := ⟨_, rfl⟩
  have hen := hes e (by rw [he]; simp [hy])
  have h1 : ptN n (jn p e.1 e.2) ≤ ptS n es (s ||| 2 ^ y) := by
    refine pt_mono fun u v h => ker_min (fun x hx => ?_) h
    obtain ⟨i, hi, rfl⟩ := (mem_pkE hso).1 hx
    rw [or_bit, Bool.or_eq_true] at hi
    rcases hi with hi | hi
    · refine jn_eq.2 (.inl ?_)
      rw [hp]
      exact jns_join _ _ _ ((mem_pkE hs8).2 ⟨i, hi, rfl⟩)
    · have : y = i := by simpa using hi
      rw [← this, ← he]
      exact jn_eq.2 (.inr (.inl ⟨rfl, rfl⟩))
  have h2 : ptN n p ≤ ptN n (jn p e.1 e.2) + 1 := by
    by_cases c : p e.1 = p e.2
    · rw [jn_same c]; omega
    · have := pt_less c hen.1 hen.2
      omega
  have h3 : ptS n es s = ptN n p := by rw [hp]; rfl
  omega

theorem graph_grw {n : Nat} {es : List (Nat × Nat)} (hes : ∀ e ∈ es, e.1 < n ∧ e.2 < n) (h8 : es.length ≤ 8) : Grw es.length (frE es) where
  zero := by
    unfold frE
    have : pkE es 0 = [] := by
      unfold pkE
      have : mem8 0 = [] := by decide +kernel
      rw [this]; rfl
    rw [this]; rfl
  less := fun s x hs hF hx => by
    have hxn := bit_lt hs hx
    have ho := out_ltn (x := x) hs
    have h1 := frE_pt hes hs
    have h2 := frE_pt hes ho
    have h3 := sz_out (s := s) (x := x) (by omega) hx
    have h4 := pt_or_ge hes h8 ho hxn
    rw [out1_or hx] at h4
    have h5 := h1.2.1 hF
    exact h2.2.2 (by omega)
  more := fun a b ha hb hFa hFb hlt => by
    have ha8 := lt_256 h8 ha
    have hb8 := lt_256 h8 hb
    have h1 := (frE_pt hes ha).2.1 hFa
    have h2 := (frE_pt hes hb).2.1 hFb
    obtain ⟨p, hp⟩ : ∃ p, p = jns (pkE es a) (fun v => v) := ⟨_, rfl⟩
    have hpt : ptS n es a = ptN n p := by rw [hp]; rfl
    have hy : ∃ y, b.testBit y = true ∧ p (es.getD y (0, 0)).1 ≠ p (es.getD y (0, 0)).2 := by
      refine Classical.byContradiction fun hn => ?_
      have : ptN n p ≤ ptS n es b := pt_mono fun u v h => ker_min (fun x hx => by
        obtain ⟨i, hi, rfl⟩ := (mem_pkE hb8).1 hx
        exact Classical.byContradiction fun hne => hn ⟨i, hi, hne⟩) h
      omega
    obtain ⟨y, y1, y2⟩ := hy
    have hyn := bit_lt hb y1
    have hya : a.testBit y = false := by
      cases e : a.testBit y with
      | false => rfl
      | true =>
        exfalso
        refine y2 ?_
        rw [hp]
        exact jns_join _ _ _ ((mem_pkE ha8).2 ⟨y, e, rfl⟩)
    have ho := or_ltn ha hyn
    have ho8 := lt_256 h8 ho
    have h3 := frE_pt hes ho
    have hen := hes (es.getD y (0, 0)) (by simp [hyn])
    have h4 := pt_less y2 hen.1 hen.2
    have h5 : ptS n es (a ||| 2 ^ y) ≤ ptN n (jn p (es.getD y (0, 0)).1 (es.getD y (0, 0)).2) := by
      have hk : ∀ u v, p u = p v → jns (pkE es (a ||| 2 ^ y)) (fun v => v) u = jns (pkE es (a ||| 2 ^ y)) (fun v => v) v := fun u v h => by
        rw [hp] at h
        refine ker_min (r := jns (pkE es (a ||| 2 ^ y)) (fun v => v)) (fun x hx => ?_) h
        obtain ⟨i, hi, rfl⟩ := (mem_pkE ha8).1 hx
        exact jns_join _ _ _ ((mem_pkE ho8).2 ⟨i, by rw [or_bit, hi]; rfl, rfl⟩)
      have he : jns (pkE es (a ||| 2 ^ y)) (fun v => v) (es.getD y (0, 0)).1 = jns (pkE es (a ||| 2 ^ y)) (fun v => v) (es.getD y (0, 0)).2 :=
        jns_join _ _ _ ((mem_pkE ho8).2 ⟨y, by rw [or_bit]; simp, rfl⟩)
      refine pt_mono fun u v h => ?_
      rcases jn_eq.1 h with h | ⟨h, h'⟩ | ⟨h, h'⟩
      · exact hk u v h
      · exact (hk _ _ h).trans (he.trans (hk _ _ h').symm)
      · exact (hk _ _ h).trans (he.symm.trans (hk _ _ h').symm)
    have h6 := sz_or (s := a) (y := y) (by omega) hya
    exact ⟨y, y1, hya, h3.2.2 (by have := h3.1; omega)⟩

end Go.Proofs.YtkndimmcndfnnaaDoor
