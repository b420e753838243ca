import Derived.Test.YtknomkajibfmlaaGreatMgAH
import Derived.Laws.EntriesVeiled
import Derived.Test.YtknomkajibfmlaaGreatMgAB
import Derived.Test.YtknomkajibfmlaaGreatOwn2
/- choose.Of: what it hands back goes through all choices. -/
namespace Go.Proofs.YtknomkajibfmlaaGreat
open Go.RowKit Go.Shelf
attribute [local go_sem] Oper.semAt_some

theorem alloc_new (w : World) (o : Obj) : (w.alloc o).heap[w.heap.size]? = some o := World.alloc_heap_new w o
theorem alloc_keep (w : World) (o : Obj) : Below w.heap.size w (w.alloc o) := (Below.refl _ _).alloc (Nat.le_refl _) _
theorem size_alloc (w : World) (o : Obj) : (w.alloc o).heap.size = w.heap.size + 1 := by simp
theorem cell_of {w : World} {b : Nat} {x : Value} {t : TypeId} (h : w.heap[b]? = some (.cells #[x] t (0, 0))) : w.cell? ⟨b, 0, none⟩ = some x := by simp [World.cell?, h]

/-- Four blocks, one after another. -/
theorem fourB (w : World) (o1 o2 o3 o4 : Obj) :
    ∃ W, W = (((w.alloc o1).alloc o2).alloc o3).alloc o4 ∧ W.heap[w.heap.size]? = some o1 ∧ W.heap[w.heap.size + 1]? = some o2 ∧ W.heap[w.heap.size + 1 + 1]? = some o3 ∧ W.heap[w.heap.size + 1 + 1 + 1]? = some o4 ∧ W.heap.size = w.heap.size + 4 ∧ Below w.heap.size w W := by
  obtain ⟨w1, h1⟩ : ∃ w1, w1 = w.alloc o1 := ⟨_, rfl⟩
  obtain ⟨w2, h2⟩ : ∃ w2, w2 = w1.alloc o2 := ⟨_, rfl⟩
  obtain ⟨w3, h3⟩ : ∃ w3, w3 = w2.alloc o3 := ⟨_, rfl⟩
  have s1 : w1.heap.size = w.heap.size + 1 := by rw [h1]; exact size_alloc _ _
  have s2 : w2.heap.size = w.heap.size + 2 := by rw [h2, size_alloc]; omega
  have s3 : w3.heap.size = w.heap.size + 3 := by rw [h3, size_alloc]; omega
  have n1 : w1.heap[w.heap.size]? = some o1 := by rw [h1]; exact alloc_new _ _
  have n2 : w2.heap[w.heap.size + 1]? = some o2 := by rw [h2, ← s1]; exact alloc_new _ _
  have n3 : w3.heap[w.heap.size + 1 + 1]? = some o3 := by rw [h3, show w.heap.size + 1 + 1 = w2.heap.size by omega]; exact alloc_new _ _
  have b1 : Below w.heap.size w w1 := by rw [h1]; exact alloc_keep _ _
  have b2 : Below w1.heap.size w1 w2 := by rw [h2]; exact alloc_keep _ _
  have b3 : Below w2.heap.size w2 w3 := by rw [h3]; exact alloc_keep _ _
  have b4 : Below w3.heap.size w3 (w3.alloc o4) := alloc_keep _ _
  refine ⟨w3.alloc o4, by rw [h3, h2, h1], ?_, ?_, ?_, ?_, ?_, ?_⟩
  · rw [b4.block _ (by omega), b3.block _ (by omega), b2.block _ (by omega)]; exact n1
  · rw [b4.block _ (by omega), b3.block _ (by omega)]; exact n2
  · rw [b4.block _ (by omega)]; exact n3
  · rw [show w.heap.size + 1 + 1 + 1 = w3.heap.size by omega]; exact alloc_new _ _
  · rw [size_alloc]; omega
  · exact ((b1.trans (b2.mono (by omega))).trans (b3.mono (by omega))).trans (b4.mono (by omega))

set_option maxRecDepth 100000 in
set_option maxHeartbeats 4000000 in
theorem of_seq (n many bm bn : Nat) (w0 : World) (hm5 : many ≤ 8) (hn : n ≤ 1000) (hcm : w0.cell? ⟨bm, 0, none⟩ = some (.int .i64 many)) (hcn : w0.cell? ⟨bn, 0, none⟩ = some (.int .i64 n)) :
    SeqS Tryz.prog 71 #[.pointer (some ⟨bm, 0, none⟩), .pointer (some ⟨bn, 0, none⟩)] (Hand w0.heap.size) (ext n many 0) (fun _ => False) (fun b => b = bm ∨ b = bn) w0 := by
  intro l J Jx W hW hst hstx hY hJ
  have hbm := lt_cell0 hcm
  have hbn := lt_cell0 hcn
  have c1 : W.cell? ⟨bm, 0, none⟩ = some (.int .i64 many) := (hW.cell (p := ⟨bm, 0, none⟩) hbm).trans hcm
  have c2 : W.cell? ⟨bn, 0, none⟩ = some (.int .i64 n) := (hW.cell (p := ⟨bn, 0, none⟩) hbn).trans hcn
  have hmk := run_make_row' (P := Tryz.prog) 38 3 (.int .i64 0) 8 Tryz.underlying38 Tryz.info3 rfl .i64 .i64 many (by omega) (by omega)
  obtain ⟨W4, hW4, e1, e2, e3, e4, hsz, hbw⟩ := fourB W (.cells #[.func (.yield l) #[] #[]] 62) (.cells (madeCells #[.int .i64 0] many) 3) (.cells #[.slice (some ⟨W.heap.size + 1, 0, none⟩) many many] 38)
    (.cells #[.func (.func 72) #[] #[.pointer (some ⟨bm, 0, none⟩), .pointer (some ⟨W.heap.size, 0, none⟩), .pointer (some ⟨W.heap.size + 1 + 1, 0, none⟩), .pointer (some ⟨bn, 0, none⟩), .pointer (some ⟨W.heap.size + 1 + 1 + 1, 0, none⟩)]] 51)
  have hwm := lt_cell0 c1
  have hwn := lt_cell0 c2
  obtain ⟨S, hS⟩ : ∃ S : Nat → Prop, S = fun b => b = bm ∨ b = bn ∨ (W.heap.size ≤ b ∧ b < W.heap.size + 4) := ⟨_, rfl⟩
  have ho : Ox W4 l n many bm W.heap.size (W.heap.size + 1 + 1) bn (W.heap.size + 1 + 1 + 1) (W.heap.size + 1) :=
    ⟨(hbw.cell (p := ⟨bm, 0, none⟩) hwm).trans c1, cell_of e1, cell_of e3, (hbw.cell (p := ⟨bn, 0, none⟩) hwn).trans c2, cell_of e4⟩
  have hrow : W4.rowIs (W.heap.size + 1) 3 many (fun _ => .int .i64 0) := by
    refine ⟨_, e2, ?_, fun i hi => ?_⟩
    · rw [← Array.length_toList, toList_madeCells_one]; simp
    · rw [← Array.getElem?_toList, toList_madeCells_one]; simp [hi]
  have hbx : Bxo S bm W.heap.size (W.heap.size + 1 + 1) bn (W.heap.size + 1 + 1 + 1) (W.heap.size + 1) := by
    rw [hS]
    exact ⟨.inl rfl, .inr (.inr (by omega)), .inr (.inr (by omega)), .inr (.inl rfl), .inr (.inr (by omega)), .inr (.inr (by omega)), fun b hb => by omega⟩
  have hJ4 : J S [] W4 := hst _ S [] W W4 hJ (Chg.of_below hbw (Nat.le_refl _)) (fun b hb => by
    rw [hS] at hb
    rcases hb with h | h | h
    · exact .inl (.inl h)
    · exact .inl (.inr h)
    · exact .inr h.1)
  have HC : Hid (CallsIn Fence.wide 0 Tryz.prog 72 #[.int .i64 0, .int .i64 0, .pointer (some ⟨bm, 0, none⟩), .pointer (some ⟨W.heap.size, 0, none⟩), .pointer (some ⟨W.heap.size + 1 + 1, 0, none⟩), .pointer (some ⟨bn, 0, none⟩), .pointer (some ⟨W.heap.size + 1 + 1 + 1, 0, none⟩)] W4 fun e W' =>
      (e = .returned (.bool true) ∧ J S ([] ++ (ext n many 0).map ([] ++ ·)) W' ∧ Ox W' l n many bm W.heap.size (W.heap.size + 1 + 1) bn (W.heap.size + 1 + 1 + 1) (W.heap.size + 1) ∧ W4.heap.size ≤ W'.heap.size ∧ ∃ f', W'.rowIs (W.heap.size + 1) 3 many f' ∧ ∀ j, j < 0 → f' j = .int .i64 0) ∨
      (e = .returned (.bool false) ∧ ∃ q, q <+: ext n many 0 ∧ Jx S q W')) := fill_any many w0.heap.size l n many bm W.heap.size (W.heap.size + 1 + 1) bn (W.heap.size + 1 + 1 + 1) (W.heap.size + 1) S (fun _ => False) J Jx (ext n many 0) hst hbx hm5 hn (by have := hW.size; omega) hY [] 0 [] _ W4 (by simp) (Nat.zero_le _) ho hrow (fun j hj => absurd hj (by simp)) (fun b hb => by
    rw [hS] at hb
    rcases hb with h | h | h <;> omega) hJ4 (by simp)
  have HW4 : Hid (W4 = (((W.alloc (.cells #[.func (.yield l) #[] #[]] 62)).alloc (.cells (madeCells #[.int .i64 0] many) 3)).alloc (.cells #[.slice (some ⟨W.heap.size + 1, 0, none⟩) many many] 38)).alloc
    (.cells #[.func (.func 72) #[] #[.pointer (some ⟨bm, 0, none⟩), .pointer (some ⟨W.heap.size, 0, none⟩), .pointer (some ⟨W.heap.size + 1 + 1, 0, none⟩), .pointer (some ⟨bn, 0, none⟩), .pointer (some ⟨W.heap.size + 1 + 1 + 1, 0, none⟩)]] 51)) := hW4
  clear hst hstx hY hJ ho hrow hbx hJ4 e1 e2 e3 e4 hsz hbw hW hcm hcn hW4
  refine callsIn_of_wp Tryz.func71 rfl trivial ?_ rfl
  simp only [Tryz.ntmps71, List.size_toArray, List.length_cons, List.length_nil, Nat.reduceAdd, Nat.reduceSub, Array.replicate_succ, Array.replicate_zero, List.push_toArray, List.append_toArray, List.nil_append, List.cons_append]
  gi_wp2_with fail
  refine ⟨trivial, rfl, ?_⟩
  rw [← HW4.out]
  refine (HC.out).mono ?_
  rintro e W' (⟨rfl, a1, _⟩ | ⟨rfl, a1⟩)
  · have A : Hid (J S (ext n many 0) W') := by
      have e : [] ++ (ext n many 0).map ([] ++ ·) = ext n many 0 := by simp
      rw [e] at a1
      exact a1
    clear a1
    gi_wp2
    go_end0
    exact ⟨⟨_, rfl⟩, .inl ⟨S, A.out⟩⟩
  · have A : Hid (∃ q, q <+: ext n many 0 ∧ Jx S q W') := a1
    clear a1
    gi_wp2
    go_end0
    exact ⟨⟨_, rfl⟩, .inr ⟨S, A.out⟩⟩

set_option maxHeartbeats 1000000 in
theorem of_any (n many : Int) (w : World) : Calls Tryz.prog 48 #[.int .i64 n, .int .i64 many] w fun e w' =>
    e = .returned (.func (.func 71) #[] #[.pointer (some ⟨w.heap.size + 1, 0, none⟩), .pointer (some ⟨w.heap.size, 0, none⟩)]) ∧ w' = (w.alloc (.cells #[.int .i64 n] 3)).alloc (.cells #[.int .i64 many] 3) := by
  go_enter Tryz.func48, Tryz.ntmps48
  go_wp2
  go_ret
  exact ⟨rfl, rfl⟩

end Go.Proofs.YtknomkajibfmlaaGreat

/- cone.wayBy: rows laid across; the one way by just these rows. -/
namespace Go.Proofs.YtknomkajibfmlaaGreat
open Go.RowKit
attribute [local go_sem ↓] Go.wp_at_zero Go.wp_at_succ

def acrR (rs : List (List Int)) (g : List Int) (i : Nat) : List Int := rs.map (fun r => r.getD i 0) ++ [-(g.getD i 0)]
def acrL (g : List Int) (rs : List (List Int)) : List (List Int) := (List.range g.length).map (acrR rs g)
def wayN (g : List Int) (rs : List (List Int)) : List Int := normL (rs.length + 1) (acrL g rs)
/-- Is there just one way, above 0 of each? -/
def wayB (g : List Int) (rs : List (List Int)) : Bool := normB (rs.length + 1) (acrL g rs) && !(wayN g rs).any lowB

theorem acrL_mx {g : List Int} {rs : List (List Int)} (hr : ∀ r ∈ rs, ∀ z ∈ r, z.natAbs ≤ 60) (hg : ∀ z ∈ g, z.natAbs ≤ 60) (h4 : rs.length ≤ 4) : Mx (rs.length + 1) 60 (acrL g rs) := by
  refine ⟨fun r hr => ?_, fun r h z hz => ?_, by omega, by omega, by decide, Nat.le_trans (fb_mono (by decide) (show _ ≤ 5 by omega)) (by decide)⟩
  · simp only [acrL, List.mem_map] at hr
    obtain ⟨i, _, rfl⟩ := hr
    simp [acrR]
  · simp only [acrL, List.mem_map] at h
    obtain ⟨i, _, rfl⟩ := h
    simp only [acrR, List.mem_append, List.mem_map, List.mem_singleton] at hz
    rcases hz with ⟨r, h1, rfl⟩ | rfl
    · by_cases e : i < r.length
      · exact hr r h1 _ (by simp [e])
      · simp [List.getElem?_eq_none (Nat.le_of_not_lt e)]
    · by_cases e : i < g.length
      · have := hg (g.getD i 0) (by simp [e])
        omega
      · simp [List.getElem?_eq_none (Nat.le_of_not_lt e)]

/-- Few rows; or small numbers and one row more. -/
def FewS (n : Nat) (rows : List (List Int)) (g : List Int) : Prop := n ≤ 4 ∨ (n ≤ 5 ∧ (∀ r ∈ rows, ∀ z ∈ r, z.natAbs ≤ 20) ∧ ∀ z ∈ g, z.natAbs ≤ 20)

theorem FewS.le {n : Nat} {rows : List (List Int)} {g : List Int} (h : FewS n rows g) : n ≤ 5 := by
  rcases h with h | h
  · omega
  · exact h.1

theorem FewS.mono {n k : Nat} {rows : List (List Int)} {g : List Int} (h : FewS n rows g) (hk : k ≤ n) : FewS k rows g := by
  rcases h with h | h
  · exact .inl (by omega)
  · exact .inr ⟨by omega, h.2⟩

theorem acrL_krg {g : List Int} {rs : List (List Int)} (hr : ∀ r ∈ rs, ∀ z ∈ r, z.natAbs ≤ 60) (hg : ∀ z ∈ g, z.natAbs ≤ 60) (hg5 : g.length ≤ 5) (h : FewS rs.length rs g) : KrG (rs.length + 1) (acrL g rs) := by
  rcases h with h4 | ⟨h5, hr2, hg2⟩
  · exact KrG.of (acrL_mx hr hg h4)
  · refine MxS.krg ⟨fun r hr => ?_, fun r h z hz => ?_, by omega, by omega, by simpa [acrL] using hg5⟩
    · simp only [acrL, List.mem_map] at hr
      obtain ⟨i, _, rfl⟩ := hr
      simp [acrR]
    · simp only [acrL, List.mem_map] at h
      obtain ⟨i, _, rfl⟩ := h
      simp only [acrR, List.mem_append, List.mem_map, List.mem_singleton] at hz
      rcases hz with ⟨r, h1, rfl⟩ | rfl
      · by_cases e : i < r.length
        · exact hr2 r h1 _ (by simp [e])
        · simp [List.getElem?_eq_none (Nat.le_of_not_lt e)]
      · by_cases e : i < g.length
        · have := hg2 (g.getD i 0) (by simp [e])
          omega
        · simp [List.getElem?_eq_none (Nat.le_of_not_lt e)]

/-- Rows being laid, in the cells of block G. -/
structure Ac (w0 : World) (G n k : Nat) (m : List (List Int)) (f : Nat → Value) (w : World) : Prop where
  bel : Below w0.heap.size w0 w
  hG : w0.heap.size ≤ G
  row : w.rowIs G 38 n f
  done : ∀ j, j < k → Sl 0 3 w (f j) (ints (m.getD j []))
  free : ∀ j, k ≤ j → j < n → f j = .slice none 0 0

theorem Ac.lt {w0 w : World} {G n k : Nat} {m : List (List Int)} {f : Nat → Value} (h : Ac w0 G n k m f w) : G < w.heap.size := by
  obtain ⟨c, h1, _⟩ := h.row
  exact (Array.getElem?_eq_some_iff.1 h1).1

theorem sl_chg {w w' : World} {v : Value} {xs : List Value} {cur : Array Value} {G : Nat} (h : Sl 0 3 w v xs) (hc : Chg (fun b => b = G) w w') (hG : w.heap[G]? = some (.cells cur 38 (0, 0))) : Sl 0 3 w' v xs :=
  h.move fun b hl ht => ⟨hc.block b hl (fun e => by
    subst e
    rcases ht with ht | ⟨c, ht⟩
    · omega
    · rw [hG] at ht; simp at ht), ht⟩

/-- Within one row: t numbers are there. -/
structure Ai (wa : World) (G n k t : Nat) (f : Nat → Value) (l : List Int) (cur : Value) (w : World) : Prop where
  chg : Chg (fun b => b = G) wa w
  row : w.rowIs G 38 n (fun j => if j = k then cur else f j)
  own : w.ownsRow wa.heap.size 3 1 cur t (ints l)
  len : l.length = t

theorem Ai.push {wa w w3 : World} {G n k t : Nat} {f : Nat → Value} {l : List Int} {cur v' : Value} {z : Int} (h : Ai wa G n k t f l cur w) (hG : G < wa.heap.size) (hk : k < n)
    (ho : w3.ownsRow wa.heap.size 3 1 v' (t + 1) (ints l ++ [.int .i64 z])) (hg : (w.alloc (.cells #[.int .i64 z] 3)).grownBy w3 cur.ownBlock) :
    w3.cell? ⟨G, k, none⟩ = some cur ∧ w3.frozen? ⟨G, k, none⟩ = false ∧ Ai wa G n k (t + 1) f (l ++ [z]) v' (w3.setCell ⟨G, k, none⟩ v') := by
  have hs := h.chg.size
  have hbl : ∀ b, b < wa.heap.size → w3.heap[b]? = w.heap[b]? := fun b hb => by
    rw [hg.block b (by simp; omega) (fun e => by have := (h.own.lt b e.symm).1; omega)]
    exact Below.heap_alloc _ _ _ (by omega)
  have hr3 : w3.rowIs G 38 n (fun j => if j = k then cur else f j) := by
    obtain ⟨c, h1, h2, h3⟩ := h.row
    exact ⟨c, (hbl G hG).trans h1, h2, h3⟩
  refine ⟨?_, hr3.frozen k, ?_, ?_, ?_, ?_⟩
  · have := hr3.cell (i := k) hk
    simpa using this
  · have g0 := hg.size
    simp at g0
    refine Chg.setCell ⟨(hg.os).trans h.chg.os, (hg.tape).trans h.chg.tape, (hg.output).trans h.chg.output, by omega, fun b hb hn => (hbl b hb).trans (h.chg.block b hb hn)⟩ rfl _
  · have := hr3.set k v'
    refine cast ?_ this
    congr 1
    funext j
    by_cases e : j = k <;> simp [e]
  · rw [← ints_snoc]
    refine ownsRow_setCell_other ho (fun e => ?_) _
    have := (ho.lt _ e).1
    simp at this
    omega
  · simp [h.len]

theorem Ac.next {W0 wa w : World} {G n k T : Nat} {m : List (List Int)} {f : Nat → Value} {l : List Int} {cur : Value} (h : Ac W0 G n k m f wa) (hi : Ai wa G n k T f l cur w) (hm : m.getD k [] = l) :
    Ac W0 G n (k + 1) m (fun j => if j = k then cur else f j) w := by
  have hb := h.bel
  have hG := h.hG
  obtain ⟨cur0, h1, _⟩ := h.row
  refine ⟨⟨hi.chg.os.trans hb.os, hi.chg.tape.trans hb.tape, hi.chg.output.trans hb.output, Nat.le_trans hb.size hi.chg.size, fun b hlt => (hi.chg.block b (by have := hb.size; omega) (by omega)).trans (hb.block b hlt)⟩, hG, hi.row, fun j hj => ?_, fun j h1 h2 => ?_⟩
  · by_cases e : j = k
    · subst e
      simp only [if_true]
      rw [hm]
      exact Sl.own hi.own
    · simp only [e, if_false]
      exact sl_chg (h.done j (by omega)) hi.chg h1
  · simp only [show j ≠ k by omega, if_false]
    exact h.free j (by omega) h2

theorem Sl.cut {B n c : Nat} {w : World} {a : Addr} {zs : List Int} (h : Sl B 3 w (.slice (some a) zs.length c) (ints zs)) (hn : n ≤ zs.length) : Sl B 3 w (.slice (some a) n n) (ints (zs.take n)) := by
  obtain ⟨bo, cap, hv, h1, h2, h3, h4⟩ := h
  simp only [Value.slice.injEq] at hv
  obtain ⟨rfl, _, rfl⟩ := hv
  simp at h1
  refine ⟨some a, n, by simp; omega, by simp; omega, by omega, fun i hi => ?_, fun h => by cases h⟩
  have hi' : i < n := by simp at hi; omega
  obtain ⟨b, o, ha, hc, ht⟩ := h3 i (by simp; omega)
  refine ⟨b, o, ha, ?_, ht⟩
  rw [hc, ints_get _ _ (by omega), ints_get _ _ (by simp; omega)]
  simp [hi']

/-- Three cells of a block of another type are set. -/
theorem sl_set3 {w : World} {R : Nat} {t : TypeId} {cur : Array Value} {v : Value} {xs : List Value} (h : Sl 0 3 w v xs) (hR : w.heap[R]? = some (.cells cur t (0, 0))) (ht : t ≠ 3) (a b c : Value) :
    Sl 0 3 (((w.setCell ⟨R, 0, none⟩ a).setCell ⟨R, 1, none⟩ b).setCell ⟨R, 2, none⟩ c) v xs :=
  h.move fun k hl hk => ⟨by
    have hne : k ≠ R := fun e => by
      subst e
      rcases hk with hk | ⟨c, hk⟩
      · omega
      · rw [hR] at hk; simp at hk; exact ht hk.2
    rw [Below.heap_setCell _ _ _ _ hne, Below.heap_setCell _ _ _ _ hne, Below.heap_setCell _ _ _ _ hne], hk⟩

theorem Ac.mat {W0 w : World} {G : Nat} {g : List Int} {rs : List (List Int)} {f : Nat → Value} {B : Nat} (h : Ac W0 G g.length g.length (acrL g rs) f w) (h5 : g.length ≤ 5) : Mat B 38 3 w (.slice (some ⟨G, 0, none⟩) g.length g.length) (acrL g rs) := by
  have hl : (acrL g rs).length = g.length := by simp [acrL]
  refine ⟨(List.range g.length).map f, by simp [hl], Sl.row h.row (by simp) (by unfold maxLen; omega) (fun i hi => by simp [hi]), fun i hi => ?_⟩
  rw [hl] at hi
  have e : ((List.range g.length).map f).getD i (.slice none 0 0) = f i := by simp [hi]
  rw [e]
  exact (h.done i hi).more (Nat.zero_le _)

end Go.Proofs.YtknomkajibfmlaaGreat
