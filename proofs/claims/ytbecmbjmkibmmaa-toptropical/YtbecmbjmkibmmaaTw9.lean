/- The document's orders. -/
import Derived.Test.YtbecmbjmkibmmaaTw1
import Derived.Test.YtbecmbjmkibmmaaRefs3
namespace Go.Proofs.Ytbecmbjmkibmmaa
open Go.RowKit
attribute [local go_sem ↓] Go.wp_at_zero Go.wp_at_succ

theorem nodup_lenT {α : Type} [BEq α] [LawfulBEq α] : ∀ (l o : List α), l.Nodup → (∀ x ∈ l, x ∈ o) → l.length ≤ o.length
  | [], o, _, _ => Nat.zero_le _
  | a :: l, o, hn, hs => by
    have ha : a ∈ o := hs a (by simp)
    have hn' := List.nodup_cons.1 hn
    have := nodup_lenT l (o.erase a) hn'.2 (fun x hx => by
      have hxa : x ≠ a := fun e => hn'.1 (e ▸ hx)
      exact (List.mem_erase_of_ne hxa).2 (hs x (by simp [hx])))
    have hl := List.length_erase_of_mem ha
    have hp : 0 < o.length := List.length_pos_of_mem ha
    simp only [List.length_cons]
    omega

theorem isOrd_snoc {n : Nat} {h : List Int} {v : Nat} (hh : IsOrd n h) (hv : v < n) (hn : (v : Int) ∉ h) : IsOrd n (h ++ [(v : Int)]) := by
  refine ⟨fun z hz => ?_, ?_⟩
  · rcases List.mem_append.1 hz with hz | hz
    · exact hh.1 z hz
    · simp only [List.mem_singleton] at hz
      omega
  · rw [List.nodup_append]
    refine ⟨hh.2, by simp, fun a ha b hb e => ?_⟩
    simp only [List.mem_singleton] at hb
    subst hb
    subst e
    exact hn ha

theorem ords_ne {n : Nat} : ∀ (k : Nat) (ix : List Int), IsOrd n ix → ix.length + k = n → ords n k ix ≠ []
  | 0, ix, _, _ => by simp [ords]
  | k + 1, ix, ho, hk => by
    intro he
    have hall : ∀ v, v < n → (v : Int) ∈ ix := fun v hv => by
      refine Classical.byContradiction fun hno => ?_
      have h1 := ords_ne k (ix ++ [(v : Int)]) (isOrd_snoc ho hv hno) (by simp; omega)
      obtain ⟨o, ho2⟩ := List.exists_mem_of_ne_nil _ h1
      have : o ∈ ords n (k + 1) ix := by
        simp only [ords, List.mem_flatMap, List.mem_range]
        refine ⟨v, hv, ?_⟩
        have hc : ix.contains (v : Int) = false := by simpa using hno
        rw [hc]
        exact ho2
      rw [he] at this
      cases this
    have := nodup_lenT ((List.range n).map fun (v : Nat) => (v : Int)) ix (by
      rw [List.Nodup, List.pairwise_map]
      exact List.Pairwise.imp (fun h e => h (by omega)) (List.nodup_range (n := n))) (fun x hx => by
      simp only [List.mem_map, List.mem_range] at hx
      obtain ⟨v, hv, rfl⟩ := hx
      exact hall v hv)
    simp at this
    omega

/-- The orders whose next number is below q. -/
def ordsT (n k : Nat) (ix : List Int) (q : Nat) : List (List Int) := (List.range q).flatMap fun (v : Nat) => if ix.contains (v : Int) then [] else ords n k (ix ++ [(v : Int)])

theorem ordsT_all (n k : Nat) (ix : List Int) : ordsT n k ix n = ords n (k + 1) ix := rfl
theorem ordsT_succ (n k : Nat) (ix : List Int) (q : Nat) : ordsT n k ix (q + 1) = ordsT n k ix q ++ (if ix.contains (q : Int) then [] else ords n k (ix ++ [(q : Int)])) := by simp [ordsT, List.range_succ]

theorem ords_len {n : Nat} (hn : n ≤ 6) : ∀ (k : Nat) (ix : List Int), (ords n k ix).length ≤ 6 ^ k
  | 0, ix => by simp [ords]
  | k + 1, ix => by
    have h : ∀ q, (ordsT n k ix q).length ≤ q * 6 ^ k := by
      intro q
      induction q with
      | zero => simp [ordsT]
      | succ q ih =>
        rw [ordsT_succ, List.length_append, Nat.succ_mul]
        have : (if ix.contains (q : Int) then [] else ords n k (ix ++ [(q : Int)])).length ≤ 6 ^ k := by
          split
          · simp
          · exact ords_len hn k _
        omega
    have h1 := h n
    rw [ordsT_all] at h1
    refine Nat.le_trans h1 ?_
    rw [Nat.pow_succ, Nat.mul_comm]
    exact Nat.mul_le_mul_left _ hn

theorem ordsT_len {n : Nat} (hn : n ≤ 6) (k : Nat) (ix : List Int) (q : Nat) (hq : q ≤ n) (hk : k ≤ 5) : (ordsT n k ix q).length ≤ 46656 := by
  have h : ∀ q, (ordsT n k ix q).length ≤ q * 6 ^ k := by
    intro q
    induction q with
    | zero => simp [ordsT]
    | succ q ih =>
      rw [ordsT_succ, List.length_append, Nat.succ_mul]
      have : (if ix.contains (q : Int) then [] else ords n k (ix ++ [(q : Int)])).length ≤ 6 ^ k := by
        split
        · simp
        · exact ords_len hn k _
      omega
  refine Nat.le_trans (h q) ?_
  have h1 : 6 ^ k ≤ 6 ^ 5 := Nat.pow_le_pow_right (by decide) hk
  exact Nat.le_trans (Nat.mul_le_mul (show q ≤ 6 by omega) h1) (by decide)

theorem one_fr {B : Nat} {w : World} {u : Value} {zs : List Int} (hu : Sl 0 3 w u (ints zs)) (hB : B ≤ w.heap.size) : Fr B 22 3 (w.alloc (.cells #[u] 22)) (.slice (some ⟨w.heap.size, 0, none⟩) 1 1) [zs] := by
  refine ⟨[u], rfl, ?_, fun i hi => ?_⟩
  · have h := World.ownsRow_lit (base := B) (e := 22) (size := 1) w #[u] 1 hB (by simp [maxLen]) (by simp)
    simpa using h
  · have : i = 0 := by simp at hi; omega
    subst this
    exact hu.alloc _

/-- Many rows more. -/
theorem Fr.pushAll {B : Nat} {w w' : World} {v v' : Value} {m m2 : List (List Int)} {vs us : List Value}
    (h1 : vs.length = m.length) (h2 : w.ownsRow B 22 1 v m.length vs) (h3 : ∀ i, i < m.length → Sl 0 3 w (vs.getD i (.slice none 0 0)) (ints (m.getD i [])))
    (k1 : us.length = m2.length) (k3 : ∀ i, i < m2.length → Sl 0 3 w (us.getD i (.slice none 0 0)) (ints (m2.getD i [])))
    (ho : w'.ownsRow B 22 1 v' (m.length + m2.length) (vs ++ us)) (hg : w.grownBy w' v.ownBlock) : Fr B 22 3 w' v' (m ++ m2) := by
  have ht : ∀ k, v.ownBlock = some k → 0 ≤ k ∧ ∀ cur, w.heap[k]? ≠ some (.cells cur 3 (0, 0)) := fun k hk => ⟨Nat.zero_le _, (owns_typed h2 (by decide) k hk).2⟩
  refine ⟨vs ++ us, by simp [h1, k1], by simpa using ho, fun i hi => ?_⟩
  by_cases hlt : i < m.length
  · have e1' : (vs ++ us).getD i (.slice none 0 0) = vs.getD i (.slice none 0 0) := by
      simp only [List.getD_eq_getElem?_getD]; rw [List.getElem?_append_left (by omega)]
    have e2' : (m ++ m2).getD i [] = m.getD i [] := by
      simp only [List.getD_eq_getElem?_getD]; rw [List.getElem?_append_left (by omega)]
    rw [e1', e2']
    exact (h3 i hlt).grown hg ht
  · have e1' : (vs ++ us).getD i (.slice none 0 0) = us.getD (i - m.length) (.slice none 0 0) := by
      simp only [List.getD_eq_getElem?_getD]; rw [List.getElem?_append_right (by omega), h1]
    have e2' : (m ++ m2).getD i [] = m2.getD (i - m.length) [] := by
      simp only [List.getD_eq_getElem?_getD]; rw [List.getElem?_append_right (by omega)]
    rw [e1', e2']
    exact (k3 _ (by simp at hi; omega)).grown hg ht

/-- Rows of slices, cell by cell. -/
theorem own_cells {B n : Nat} {w : World} {g cap : Nat} {us : List Value} (h : w.ownsRow B 22 1 (.slice (some ⟨g, 0, none⟩) n cap) n us) : ∀ j u, us[j]? = some u → w.cell? ((⟨g, 0, none⟩ : Addr).add j) = some u := by
  intro j u hj
  rcases h.2 with ⟨h1, _⟩ | ⟨g', cap', cur, h1, _, h3, h4, _, h5, h6⟩
  · cases h1
  · simp only [Value.slice.injEq, Option.some.injEq, Addr.mk.injEq] at h1
    obtain ⟨⟨rfl, _⟩, _, rfl⟩ := h1
    have hlt : j < n := by
      have := (List.getElem?_eq_some_iff.1 hj).1
      have := h.1
      omega
    rw [← h6, List.getElem?_take_of_lt (by omega), Array.getElem?_toList] at hj
    have e : (⟨g, 0, none⟩ : Addr).add j = ⟨g, j, none⟩ := by simp [Addr.add]; intro h; exact h.symm
    rw [e]
    simp [World.cell?, h3, hj]

theorem rows_one {w : World} {m : List (List Int)} {us : List Value} (k1 : us.length = m.length) (k3 : ∀ i, i < m.length → Sl 0 3 w (us.getD i (.slice none 0 0)) (ints (m.getD i []))) : ∀ u ∈ us, u.oneCell' = true := by
  intro u hu
  obtain ⟨i, hi, rfl⟩ := List.getElem_of_mem hu
  have h := k3 i (by omega)
  have e : us.getD i (.slice none 0 0) = us[i] := by simp [hi]
  rw [e] at h
  obtain ⟨ao, cap, hv, _⟩ := sl_open h
  rw [hv]
  rfl

end Go.Proofs.Ytbecmbjmkibmmaa
