/- The document's answer: the rows that make the rank more. -/
import Derived.Test.YtmedmmanbdofnaaRefB
namespace Go.Proofs.Ytmedmmanbdofnaa
open Go.RowKit
attribute [local go_sem ↓] Go.wp_at_zero Go.wp_at_succ

/-- The greedy choice. -/
def pickL (c : Nat) (m : List (List Int)) : List (List Int) := m.foldl (fun h r => if freeL c (h ++ [r]) then h ++ [r] else h) []

theorem pickL_snoc (c : Nat) (m : List (List Int)) (k : Nat) (hk : k < m.length) :
    pickL c (m.take (k + 1)) = if freeL c (pickL c (m.take k) ++ [m.getD k []]) then pickL c (m.take k) ++ [m.getD k []] else pickL c (m.take k) := by
  rw [List.take_succ_eq_append_getElem hk]; unfold pickL; rw [List.foldl_append]; simp [hk]

theorem pickL_mem {c : Nat} {m : List (List Int)} {r : List Int} (h : r ∈ pickL c m) : r ∈ m := by
  have : ∀ (m h : List (List Int)) (r : List Int), r ∈ m.foldl (fun h r => if freeL c (h ++ [r]) then h ++ [r] else h) h → r ∈ h ∨ r ∈ m := by
    intro m
    induction m with
    | nil => intro h r hr; exact Or.inl hr
    | cons x m ih =>
      intro h r hr
      rcases ih _ _ hr with h1 | h1
      · have h1 : r ∈ (if freeL c (h ++ [x]) = true then h ++ [x] else h) := h1
        by_cases hf : freeL c (h ++ [x]) = true
        · rw [if_pos hf] at h1
          rcases List.mem_append.1 h1 with h2 | h2
          · exact Or.inl h2
          · simp at h2; exact Or.inr (by simp [h2])
        · rw [if_neg hf] at h1; exact Or.inl h1
      · exact Or.inr (by simp [h1])
  rcases this m [] r h with h | h
  · simp at h
  · exact h

theorem pickL_len (c : Nat) (m : List (List Int)) : (pickL c m).length ≤ m.length := by
  have : ∀ (m h : List (List Int)), (m.foldl (fun h r => if freeL c (h ++ [r]) then h ++ [r] else h) h).length ≤ h.length + m.length := by
    intro m
    induction m with
    | nil => intro h; simp
    | cons x m ih =>
      intro h
      have := ih (if freeL c (h ++ [x]) then h ++ [x] else h)
      simp only [List.foldl_cons, List.length_cons]
      by_cases hf : freeL c (h ++ [x]) = true
      · rw [if_pos hf] at this ⊢; simp at this; omega
      · rw [if_neg hf] at this ⊢; omega
  have := this m []
  simpa [pickL] using this

theorem fm_append (a b : List (List Int)) : fm (a ++ b) = fm a ++ fm b := by simp [fm]

/-- It is a greedy choice in the plain sense. -/
theorem pick_greedy (c : Nat) (m : List (List Int)) : Lin.Greedy c (fm m) (fm (pickL c m)) := by
  have : ∀ (m h l : List (List Int)), Lin.Greedy c (fm l) (fm h) → Lin.Greedy c (fm (l ++ m)) (fm (m.foldl (fun h r => if freeL c (h ++ [r]) then h ++ [r] else h) h)) := by
    intro m
    induction m with
    | nil => intro h l hg; simpa using hg
    | cons x m ih =>
      intro h l hg
      have e : l ++ x :: m = (l ++ [x]) ++ m := by simp
      rw [e, List.foldl_cons]
      apply ih
      by_cases hf : freeL c (h ++ [x]) = true
      · rw [if_pos hf, fm_append, fm_append]
        exact hg.more (by have := freeL_iff.1 hf; rwa [fm_append] at this)
      · rw [if_neg hf, fm_append]
        refine hg.less fun hp => hf (freeL_iff.2 ?_)
        rw [fm_append]; exact hp
  exact this m [] [] (Lin.Greedy.nil c)

theorem Mx.sub {c Bd : Nat} {m l : List (List Int)} (h : Mx c Bd m) (hs : ∀ r ∈ l, r ∈ m) : Mx c Bd l :=
  ⟨fun r hr => h.row r (hs r hr), fun r hr => h.bd r (hs r hr), h.c5, h.c1, h.pos, h.small⟩

theorem emp_own (w : World) (M : Nat) (hM : M ≤ w.heap.size) : (w.alloc (.cells #[] 22)).ownsRow M 22 1 (.slice (some ⟨w.heap.size, 0, none⟩) 0 0) 0 [] :=
  World.ownsRow_made w #[] 0 hM (by simp [maxLen]) (by simp)

theorem cells1 {B : Nat} {e : TypeId} {w : World} {a : Addr} {n cap : Nat} {xs : List Value} (h : Sl B e w (.slice (some a) n cap) xs) (o : Obj) : ∀ j u, xs[j]? = some u → (w.alloc o).cell? (a.add j) = some u := sl_cells h o
theorem cells2 {B : Nat} {e : TypeId} {w : World} {a : Addr} {n cap : Nat} {xs : List Value} (h : Sl B e w (.slice (some a) n cap) xs) (o o2 : Obj) : ∀ j u, xs[j]? = some u → ((w.alloc o).alloc o2).cell? (a.add j) = some u := sl_cells (h.alloc o) o2
theorem cells_one {B n : Nat} {w : World} {h : List (List Int)} {vs : List Value} (h1 : vs.length = n) (h3 : ∀ i, i < n → Sl B 3 w (vs.getD i (.slice none 0 0)) (ints (h.getD i []))) : ∀ u ∈ vs, u.oneCell' = true := by
  intro u hu
  obtain ⟨i, hi, rfl⟩ := List.mem_iff_getElem.1 hu
  obtain ⟨ao, cap, hv, _⟩ := h3 i (by omega)
  have : vs.getD i (.slice none 0 0) = vs[i] := by simp [hi]
  rw [← this, hv]; rfl

theorem newsA {W w2 : World} {v x : Value} {g : Nat} {t : TypeId} (hg : W.grownBy w2 v.ownBlock) (hW : W.heap[g]? = some (.cells #[x] t (0, 0))) (hne : v.ownBlock ≠ some g) : ∀ j u, [x][j]? = some u → w2.cell? ((⟨g, 0, none⟩ : Addr).add j) = some u := by
  intro j u hj
  match j, hj with
  | 0, hj =>
    simp at hj; subst hj
    have h1 : w2.heap[g]? = some (.cells #[x] t (0, 0)) := (hg.block g (lt_of_block hW) (fun e => hne e.symm)).trans hW
    simp [Addr.add, World.cell?, h1]

theorem newsC {W : World} {x : Value} {g : Nat} {t : TypeId} (hW : W.heap[g]? = some (.cells #[x] t (0, 0))) : ∀ j u, [x][j]? = some u → W.cell? ((⟨g, 0, none⟩ : Addr).add j) = some u := by
  intro j u hj
  match j, hj with
  | 0, hj => simp at hj; subst hj; simp [Addr.add, World.cell?, hW]

theorem grown_below {M n : Nat} {wr W w2 : World} {v : Value} {xs : List Value} (hB : Below M wr W) (hM : M ≤ wr.heap.size) (ho : W.ownsRow M 22 1 v n xs) (hg : W.grownBy w2 v.ownBlock) : Below M wr w2 :=
  hB.grown hg (Nat.le_trans hM hB.size) (fun k hk => (ho.lt k hk).1)

theorem freeL_cap {c : Nat} {m : List (List Int)} (h : freeL c m = true) : m.length ≤ c := by
  by_cases hle : c < m.length
  · have hb0 : (m.length == 0) = false := by simp; intro h0; rw [h0] at hle; simp at hle
    have hf : freeL c m = false := by rw [freeL, hb0, decide_eq_false (by omega)]; rfl
    rw [hf] at h
    exact absurd h (by decide)
  · omega

theorem pickL_cap (c : Nat) (m : List (List Int)) : (pickL c m).length ≤ c := by
  have gen : ∀ (m h : List (List Int)), h.length ≤ c → (m.foldl (fun h r => if freeL c (h ++ [r]) then h ++ [r] else h) h).length ≤ c := by
    intro m
    induction m with
    | nil => intro h hh; exact hh
    | cons r m ih =>
      intro h hh
      rw [List.foldl_cons]
      refine ih _ ?_
      split
      · rename_i hf; exact freeL_cap hf
      · exact hh
  exact gen m [] (by simp)

end Go.Proofs.Ytmedmmanbdofnaa
