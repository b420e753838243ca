import Derived.Test.YtfedlhanmamifaaEmp1
import Derived.Test.YtfedlhanmamifaaHvP
/- The fact that below -1 and above 0 there is nothing; lists of cuts. -/
namespace Go.Proofs.Ytfedlhanmamifaa
open Go.RowKit

theorem empT : empB 1 [[1, -1], [-1, 0]] = true := by decide +kernel
theorem empF : empB 1 [[1, 1], [-1, 0]] = false := by decide +kernel

theorem sl_two {w : World} {b : Nat} {t : TypeId} {x y : Value} (h : w.heap[b]? = some (.cells #[x, y] t (0, 0))) : Sl 0 t w (.slice (some ⟨b, 0, none⟩) 2 2) [x, y] := by
  refine ⟨some ⟨b, 0, none⟩, 2, rfl, by simp, by simp [maxLen], fun i hi => ⟨b, 0, rfl, ?_, .inr ⟨_, h⟩⟩, fun h => by cases h⟩
  have : i = 0 ∨ i = 1 := by simp at hi; omega
  rcases this with rfl | rfl <;> simp [World.cell?, h]

theorem mat_two {w : World} {g b c : Nat} {x0 x1 y0 y1 : Int} (hg : w.heap[g]? = some (.cells #[.slice (some ⟨b, 0, none⟩) 2 2, .slice (some ⟨c, 0, none⟩) 2 2] 22 (0, 0)))
    (hb : w.heap[b]? = some (.cells #[.int .i64 x0, .int .i64 x1] 3 (0, 0))) (hc : w.heap[c]? = some (.cells #[.int .i64 y0, .int .i64 y1] 3 (0, 0))) : Mat 0 22 3 w (.slice (some ⟨g, 0, none⟩) 2 2) [[x0, x1], [y0, y1]] := by
  refine ⟨[.slice (some ⟨b, 0, none⟩) 2 2, .slice (some ⟨c, 0, none⟩) 2 2], rfl, sl_two hg, fun i hi => ?_⟩
  have : i = 0 ∨ i = 1 := by simp at hi; omega
  rcases this with rfl | rfl
  · exact sl_two hb
  · exact sl_two hc

theorem threeB (w : World) (o1 o2 o3 : Obj) :
    ∃ W, W = ((w.alloc o1).alloc o2).alloc o3 ∧ W.heap[w.heap.size]? = some o1 ∧ W.heap[w.heap.size + 1]? = some o2 ∧ W.heap[w.heap.size + 1 + 1]? = some o3 ∧ W.heap.size = w.heap.size + 3 ∧ Below w.heap.size w W := by
  obtain ⟨w1, h1⟩ : ∃ w1, w1 = w.alloc o1 := ⟨_, rfl⟩
  obtain ⟨w2, h2⟩ : ∃ w2, w2 = w1.alloc o2 := ⟨_, rfl⟩
  have s1 : w1.heap.size = w.heap.size + 1 := by rw [h1]; exact size_alloc _ _
  have s2 : w2.heap.size = w.heap.size + 2 := by rw [h2, size_alloc]; omega
  have n1 : w1.heap[w.heap.size]? = some o1 := by rw [h1]; exact alloc_new _ _
  have n2 : w2.heap[w.heap.size + 1]? = some o2 := by rw [h2, ← s1]; exact alloc_new _ _
  have b1 : Below w.heap.size w w1 := by rw [h1]; exact alloc_keep _ _
  have b2 : Below w1.heap.size w1 w2 := by rw [h2]; exact alloc_keep _ _
  have b3 : Below w2.heap.size w2 (w2.alloc o3) := alloc_keep _ _
  refine ⟨w2.alloc o3, by rw [h2, h1], ?_, ?_, ?_, ?_, ?_⟩
  · rw [b3.block _ (by omega), b2.block _ (by omega)]; exact n1
  · rw [b3.block _ (by omega)]; exact n2
  · rw [show w.heap.size + 1 + 1 = w2.heap.size by omega]; exact alloc_new _ _
  · rw [size_alloc]; omega
  · exact (b1.trans (b2.mono (by omega))).trans (b3.mono (by omega))

theorem cut_two {x0 x1 y0 y1 : Int} (h0 : x0.natAbs ≤ 20) (h1 : x1.natAbs ≤ 20) (h2 : y0.natAbs ≤ 20) (h3 : y1.natAbs ≤ 20) : CutOk 1 [[x0, x1], [y0, y1]] := by
  refine ⟨by omega, by omega, by simp, fun r hr => ?_, fun r hr z hz => ?_⟩
  · simp at hr; rcases hr with rfl | rfl <;> rfl
  · simp at hr; rcases hr with rfl | rfl <;> simp at hz <;> rcases hz with rfl | rfl <;> assumption

theorem emptyTwo (w : World) (x0 x1 y0 y1 : Int) (h0 : x0.natAbs ≤ 20) (h1 : x1.natAbs ≤ 20) (h2 : y0.natAbs ≤ 20) (h3 : y1.natAbs ≤ 20) :
    Calls Try.prog 47 #[.agg #[.int .i64 1, .slice (some ⟨w.heap.size + 1 + 1, 0, none⟩) 2 2]] (((w.alloc (.cells #[.int .i64 x0, .int .i64 x1] 3)).alloc (.cells #[.int .i64 y0, .int .i64 y1] 3)).alloc (.cells #[.slice (some ⟨w.heap.size, 0, none⟩) 2 2, .slice (some ⟨w.heap.size + 1, 0, none⟩) 2 2] 22)) fun e w' =>
      e = .returned (.tuple #[.bool (empB 1 [[x0, x1], [y0, y1]]), .int .i64 0]) ∧ Below w.heap.size w w' := by
  obtain ⟨W, hW, e1, e2, e3, hs, hb⟩ := threeB w (.cells #[.int .i64 x0, .int .i64 x1] 3) (.cells #[.int .i64 y0, .int .i64 y1] 3) (.cells #[.slice (some ⟨w.heap.size, 0, none⟩) 2 2, .slice (some ⟨w.heap.size + 1, 0, none⟩) 2 2] 22)
  rw [← hW]
  have h := empty_ok 1 [[x0, x1], [y0, y1]] (.slice (some ⟨w.heap.size + 1 + 1, 0, none⟩) 2 2) W ((mat_two e3 e1 e2).more (Nat.zero_le _)) (cut_two h0 h1 h2 h3)
  exact h.mono fun e w' ⟨h1, h2⟩ => ⟨h1, hb.trans (h2.mono hb.size)⟩

end Go.Proofs.Ytfedlhanmamifaa

/- Lists of cuts, and rows put together, in memory. -/
namespace Go.Proofs.Ytfedlhanmamifaa
open Go.RowKit

theorem Try.info27 : (Try.prog.info? 27).map (fun i => (i.zero, i.size, i.bytes)) = some (some (.agg #[.int .i64 0, .slice none 0 0]), 2, 32) := by kernel_rfl

def cutVs (vs : List Value) : List Value := vs.flatMap fun x => [.int .i64 2, x]

theorem cutVs_snoc (vs : List Value) (x : Value) : cutVs (vs ++ [x]) = cutVs vs ++ [.int .i64 2, x] := by simp [cutVs]

theorem cutVs_at : ∀ (vs : List Value) (j : Nat) (x : Value), vs[j]? = some x → (cutVs vs)[j * 2 + 1]? = some x
  | [], j, x, h => by simp at h
  | v :: vs, 0, x, h => by simpa [cutVs] using h
  | v :: vs, j + 1, x, h => by
    have := cutVs_at vs j x (by simpa using h)
    rw [show (j + 1) * 2 + 1 = (j * 2 + 1) + 2 by omega]
    simpa [cutVs] using this

/-- A list of cuts of the call's own. -/
structure Cts (w : World) (base : Nat) (v : Value) (vs : List Value) (L : List (List (List Int))) : Prop where
  own : w.ownsRow base 27 2 v vs.length (cutVs vs)
  len : L.length = vs.length
  mat : ∀ i, i < vs.length → Mat 0 22 3 w (vs.getD i (.slice none 0 0)) (L.getD i [])
  box : ∀ i, i < vs.length → (L.getD i []).length = 2 ∧ Box 3 4 (L.getD i [])

theorem mat_typed {w w' : World} {v : Value} {m : List (List Int)} (h : Mat 0 22 3 w v m) (hk : ∀ (b : Nat) (cur : Array Value) (t : TypeId), (t = 22 ∨ t = 3) → w.heap[b]? = some (Obj.cells cur t (0, 0)) → w'.heap[b]? = w.heap[b]?) : Mat 0 22 3 w' v m := by
  obtain ⟨vs, h1, h2, h3⟩ := h
  refine ⟨vs, h1, h2.move fun b hl ht => ⟨?_, ht⟩, fun i hi => (h3 i hi).move fun b hl ht => ⟨?_, ht⟩⟩
  · rcases ht with ht | ⟨c, ht⟩
    · omega
    · exact hk b c _ (.inl rfl) ht
  · rcases ht with ht | ⟨c, ht⟩
    · omega
    · exact hk b c _ (.inr rfl) ht

theorem owns_typed2 {B z : Nat} {e : TypeId} {w : World} {v : Value} {n : Nat} {xs : List Value} (h : w.ownsRow B e z v n xs) :
    ∀ k, v.ownBlock = some k → B ≤ k ∧ ∃ cur, w.heap[k]? = some (.cells cur e (0, 0)) := by
  intro k hk
  obtain ⟨_, h2⟩ := h
  rcases h2 with ⟨rfl, rfl⟩ | ⟨g, cap, cur, rfl, hg, hh, _⟩
  · simp [Value.ownBlock] at hk
  · simp [Value.ownBlock] at hk
    subst hk
    exact ⟨hg, cur, hh⟩

theorem Cts.below {w w' : World} {base N : Nat} {v : Value} {vs : List Value} {L : List (List (List Int))} (h : Cts w base v vs L) (hb : Below N w w') (hN : w.heap.size ≤ N) : Cts w' base v vs L :=
  ⟨h.own.kept (row := none) ⟨hb.os, hb.tape, hb.output, hb.size, fun k hk _ => hb.block k (by omega)⟩ (by cases hv : v.ownBlock <;> simp), h.len, fun i hi => (h.mat i hi).below hb hN, h.box⟩

theorem Cts.nil (w : World) (base : Nat) : Cts w base (.slice none 0 0) [] [] :=
  ⟨World.ownsRow_nil _ _ _ _, rfl, fun i hi => absurd hi (by simp), fun i hi => absurd hi (by simp)⟩

theorem fr_mat {B : Nat} {w : World} {v : Value} {m : List (List Int)} (h : Fr B 22 3 w v m) : Mat 0 22 3 w v m := by
  obtain ⟨vs, h1, h2, h3⟩ := h
  exact ⟨vs, h1, Sl.own h2, h3⟩

theorem getD_left {α : Type} {a b : List α} {i : Nat} {d : α} (h : i < a.length) : (a ++ b).getD i d = a.getD i d := by
  simp only [List.getD_eq_getElem?_getD]; rw [List.getElem?_append_left h]

theorem getD_right {α : Type} {a b : List α} {i : Nat} {d : α} (h : a.length ≤ i) : (a ++ b).getD i d = b.getD (i - a.length) d := by
  simp only [List.getD_eq_getElem?_getD]; rw [List.getElem?_append_right h]

/-- One cut more. -/
theorem Cts.push {w w3 : World} {base : Nat} {v v' x : Value} {vs : List Value} {L : List (List (List Int))} {m : List (List Int)} (h : Cts w base v vs L) (hx : Mat 0 22 3 w x m) (hm : m.length = 2) (hbx : Box 3 4 m)
    (ho : w3.ownsRow base 27 2 v' (vs.length + 1) (cutVs vs ++ [.int .i64 2, x])) (hg : (w.alloc (.cells #[.int .i64 2, x] 27)).grownBy w3 v.ownBlock) : Cts w3 base v' (vs ++ [x]) (L ++ [m]) := by
  have hmv : ∀ {y : Value} {q : List (List Int)}, Mat 0 22 3 w y q → Mat 0 22 3 w3 y q := fun hq => mat_typed hq fun b cur t ht hb => by
    have hl := (Array.getElem?_eq_some_iff.1 hb).1
    refine (hg.block b (by simp; omega) (fun e => ?_)).trans (Below.heap_alloc _ _ _ hl)
    obtain ⟨_, c2, h2⟩ := owns_typed2 h.own b e.symm
    rw [h2] at hb
    cases hb
    rcases ht with ht | ht <;> exact absurd ht (by decide)
  have hl := h.len
  refine ⟨by rw [cutVs_snoc]; simpa using ho, by simp [hl], fun i hi => ?_, fun i hi => ?_⟩
  · by_cases e : i < vs.length
    · rw [getD_left e, getD_left (by omega)]; exact hmv (h.mat i e)
    · have : i = vs.length := by simp at hi; omega
      subst this
      rw [getD_right (Nat.le_refl _), getD_right (by omega), hl]
      simpa using hmv hx
  · by_cases e : i < vs.length
    · rw [getD_left (by omega)]; exact h.box i e
    · have : i = vs.length := by simp at hi; omega
      subst this
      rw [getD_right (by omega), hl]
      simpa using ⟨hm, hbx⟩

/-- Where the rows of a cut lie. -/
theorem Cts.cell {w : World} {base : Nat} {v : Value} {vs : List Value} {L : List (List (List Int))} (h : Cts w base v vs L) {j : Nat} (hj : j < vs.length) :
    ∃ g cap, v = .slice (some ⟨g, 0, none⟩) vs.length cap ∧ vs.length ≤ cap ∧ w.cell? ⟨g, j * 2 + 1, none⟩ = some (vs.getD j (.slice none 0 0)) := by
  obtain ⟨h1, h2⟩ := h.own
  rcases h2 with ⟨rfl, h0⟩ | ⟨g, cap, cur, rfl, hg, hh, hn, hc, hs, ht⟩
  · omega
  · refine ⟨g, cap, rfl, hn, ?_⟩
    have hx : vs[j]? = some (vs.getD j (.slice none 0 0)) := by simp [hj]
    have := cutVs_at vs j _ hx
    rw [← ht, List.getElem?_take] at this
    split at this
    · simp [World.cell?, hh]
      simpa using this
    · cases this

/-- Rows put together in the cut at block X. -/
structure XS (N X : Nat) (w wr : World) (v : Value) (m : List (List Int)) : Prop where
  cut : wr.heap[X]? = some (.cells #[.int .i64 2, v] 27 (0, 0))
  rows : Fr N 22 3 wr v m
  bel : Below N w wr
  nX : N ≤ X

theorem two_set {w : World} {b : Nat} {x y u : Value} {t : TypeId} (h : w.heap[b]? = some (.cells #[x, y] t (0, 0))) : (w.setCell ⟨b, 1, none⟩ u).heap[b]? = some (.cells #[x, u] t (0, 0)) := by
  simp [World.setCell, Array.getElem?_modify, h]

theorem XS.push {N X : Nat} {w wr w1 : World} {v v' : Value} {m ms : List (List Int)} {vs us : List Value} (h : XS N X w wr v m) (hN : N ≤ wr.heap.size)
    (h1 : vs.length = m.length) (h2 : wr.ownsRow N 22 1 v m.length vs) (h3 : ∀ i, i < m.length → Sl 0 3 wr (vs.getD i (.slice none 0 0)) (ints (m.getD i [])))
    (hu : us.length = ms.length) (hus : ∀ i, i < ms.length → Sl 0 3 wr (us.getD i (.slice none 0 0)) (ints (ms.getD i [])))
    (ho : w1.ownsRow N 22 1 v' (m.length + ms.length) (vs ++ us)) (hg : wr.grownBy w1 v.ownBlock) :
    (w1.heap[X]? = some (.cells #[.int .i64 2, v] 27 (0, 0))) ∧ XS N X w (w1.setCell ⟨X, 1, none⟩ v') v' (m ++ ms) := by
  have n2 := (Array.getElem?_eq_some_iff.1 h.cut).1
  have ht := owns_typed h2 (e1 := 3) (by decide)
  have hc := owns_typed h2 (e1 := 27) (by decide)
  have g2 : w1.heap[X]? = some (.cells #[.int .i64 2, v] 27 (0, 0)) := by
    rw [hg.block X n2 (fun e => (hc X e.symm).2 _ h.cut)]; exact h.cut
  have mv : ∀ {y : Value} {xs : List Value}, Sl 0 3 wr y xs → Sl 0 3 w1 y xs := fun hs => hs.grown hg (fun k hk => ⟨Nat.zero_le _, (ht k hk).2⟩)
  have hr : Fr N 22 3 w1 v' (m ++ ms) := by
    refine ⟨vs ++ us, by simp [h1, hu], by simpa using ho, fun i hi => ?_⟩
    by_cases e : i < m.length
    · rw [getD_left (by omega), getD_left e]; exact mv (h3 i e)
    · have hi' : i - m.length < ms.length := by simp at hi; omega
      rw [getD_right (by omega), getD_right (by omega), h1]; exact mv (hus _ hi')
  refine ⟨g2, ⟨two_set g2, ?_, ?_, h.nX⟩⟩
  · obtain ⟨us', u1, u2, u3⟩ := hr
    refine ⟨us', u1, ownsRow_setCell_other u2 (fun e => ?_) _, fun i hi => (u3 i hi).setCell _ ⟨Nat.zero_le _, fun cur => by simp only; rw [g2]; simp⟩⟩
    exact (owns_typed u2 (e1 := 27) (by decide) _ e).2 _ g2
  · exact (h.bel.grown hg hN (fun k hk => (ht k hk).1)).setCell h.nX _

end Go.Proofs.Ytfedlhanmamifaa
