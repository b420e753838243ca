/- choose.Of: what it hands back goes through all choices. -/
import Derived.Test.YtgfnmkenpgnllaaGreatOf2
import Derived.Laws.EntriesVeiled
namespace Go.Proofs.YtgfnmkenpgnllaaGreat
open Go.RowKit Go.Shelf
attribute [local go_sem] Oper.semAt_some

theorem alloc_new (w : World) (o : Obj) : (w.alloc o).heap[w.heap.size]? = some o := World.alloc_heap_new w o
theorem alloc_keep (w : World) (o : Obj) : Below w.heap.size w (w.alloc o) := (Below.refl _ _).alloc (Nat.le_refl _) _
theorem size_alloc (w : World) (o : Obj) : (w.alloc o).heap.size = w.heap.size + 1 := by simp
theorem cell_of {w : World} {b : Nat} {x : Value} {t : TypeId} (h : w.heap[b]? = some (.cells #[x] t (0, 0))) : w.cell? ⟨b, 0, none⟩ = some x := by simp [World.cell?, h]

/-- Four blocks, one after another. -/
theorem fourB (w : World) (o1 o2 o3 o4 : Obj) :
    ∃ W, W = (((w.alloc o1).alloc o2).alloc o3).alloc o4 ∧ W.heap[w.heap.size]? = some o1 ∧ W.heap[w.heap.size + 1]? = some o2 ∧ W.heap[w.heap.size + 1 + 1]? = some o3 ∧ W.heap[w.heap.size + 1 + 1 + 1]? = some o4 ∧ W.heap.size = w.heap.size + 4 ∧ Below w.heap.size w W := by
  obtain ⟨w1, h1⟩ : ∃ w1, w1 = w.alloc o1 := ⟨_, rfl⟩
  obtain ⟨w2, h2⟩ : ∃ w2, w2 = w1.alloc o2 := ⟨_, rfl⟩
  obtain ⟨w3, h3⟩ : ∃ w3, w3 = w2.alloc o3 := ⟨_, rfl⟩
  have s1 : w1.heap.size = w.heap.size + 1 := by rw [h1]; exact size_alloc _ _
  have s2 : w2.heap.size = w.heap.size + 2 := by rw [h2, size_alloc]; omega
  have s3 : w3.heap.size = w.heap.size + 3 := by rw [h3, size_alloc]; omega
  have n1 : w1.heap[w.heap.size]? = some o1 := by rw [h1]; exact alloc_new _ _
  have n2 : w2.heap[w.heap.size + 1]? = some o2 := by rw [h2, ← s1]; exact alloc_new _ _
  have n3 : w3.heap[w.heap.size + 1 + 1]? = some o3 := by rw [h3, show w.heap.size + 1 + 1 = w2.heap.size by omega]; exact alloc_new _ _
  have b1 : Below w.heap.size w w1 := by rw [h1]; exact alloc_keep _ _
  have b2 : Below w1.heap.size w1 w2 := by rw [h2]; exact alloc_keep _ _
  have b3 : Below w2.heap.size w2 w3 := by rw [h3]; exact alloc_keep _ _
  have b4 : Below w3.heap.size w3 (w3.alloc o4) := alloc_keep _ _
  refine ⟨w3.alloc o4, by rw [h3, h2, h1], ?_, ?_, ?_, ?_, ?_, ?_⟩
  · rw [b4.block _ (by omega), b3.block _ (by omega), b2.block _ (by omega)]; exact n1
  · rw [b4.block _ (by omega), b3.block _ (by omega)]; exact n2
  · rw [b4.block _ (by omega)]; exact n3
  · rw [show w.heap.size + 1 + 1 + 1 = w3.heap.size by omega]; exact alloc_new _ _
  · rw [size_alloc]; omega
  · exact ((b1.trans (b2.mono (by omega))).trans (b3.mono (by omega))).trans (b4.mono (by omega))

set_option maxRecDepth 100000 in
set_option maxHeartbeats 4000000 in
theorem of_seq (n many bm bn : Nat) (w0 : World) (hm5 : many ≤ 5) (hn : n ≤ 1000) (hcm : w0.cell? ⟨bm, 0, none⟩ = some (.int .i64 many)) (hcn : w0.cell? ⟨bn, 0, none⟩ = some (.int .i64 n)) :
    SeqS Tryz.prog 86 #[.pointer (some ⟨bm, 0, none⟩), .pointer (some ⟨bn, 0, none⟩)] (Hand w0.heap.size) (ext n many 0) (fun _ => False) (fun b => b = bm ∨ b = bn) w0 := by
  intro l J Jx W hW hst hstx hY hJ
  have hbm := lt_cell0 hcm
  have hbn := lt_cell0 hcn
  have c1 : W.cell? ⟨bm, 0, none⟩ = some (.int .i64 many) := (hW.cell (p := ⟨bm, 0, none⟩) hbm).trans hcm
  have c2 : W.cell? ⟨bn, 0, none⟩ = some (.int .i64 n) := (hW.cell (p := ⟨bn, 0, none⟩) hbn).trans hcn
  have hmk := run_make_row' (P := Tryz.prog) 22 3 (.int .i64 0) 8 Tryz.underlying22 Tryz.info3 rfl .i64 .i64 many (by omega) (by omega)
  obtain ⟨W4, hW4, e1, e2, e3, e4, hsz, hbw⟩ := fourB W (.cells #[.func (.yield l) #[] #[]] 97) (.cells (madeCells #[.int .i64 0] many) 3) (.cells #[.slice (some ⟨W.heap.size + 1, 0, none⟩) many many] 22)
    (.cells #[.func (.func 87) #[] #[.pointer (some ⟨bm, 0, none⟩), .pointer (some ⟨W.heap.size, 0, none⟩), .pointer (some ⟨W.heap.size + 1 + 1, 0, none⟩), .pointer (some ⟨bn, 0, none⟩), .pointer (some ⟨W.heap.size + 1 + 1 + 1, 0, none⟩)]] 73)
  have hwm := lt_cell0 c1
  have hwn := lt_cell0 c2
  obtain ⟨S, hS⟩ : ∃ S : Nat → Prop, S = fun b => b = bm ∨ b = bn ∨ (W.heap.size ≤ b ∧ b < W.heap.size + 4) := ⟨_, rfl⟩
  have ho : Ox W4 l n many bm W.heap.size (W.heap.size + 1 + 1) bn (W.heap.size + 1 + 1 + 1) (W.heap.size + 1) :=
    ⟨(hbw.cell (p := ⟨bm, 0, none⟩) hwm).trans c1, cell_of e1, cell_of e3, (hbw.cell (p := ⟨bn, 0, none⟩) hwn).trans c2, cell_of e4⟩
  have hrow : W4.rowIs (W.heap.size + 1) 3 many (fun _ => .int .i64 0) := by
    refine ⟨_, e2, ?_, fun i hi => ?_⟩
    · rw [← Array.length_toList, toList_madeCells_one]; simp
    · rw [← Array.getElem?_toList, toList_madeCells_one]; simp [hi]
  have hbx : Bxo S bm W.heap.size (W.heap.size + 1 + 1) bn (W.heap.size + 1 + 1 + 1) (W.heap.size + 1) := by
    rw [hS]
    exact ⟨.inl rfl, .inr (.inr (by omega)), .inr (.inr (by omega)), .inr (.inl rfl), .inr (.inr (by omega)), .inr (.inr (by omega)), fun b hb => by omega⟩
  have hJ4 : J S [] W4 := hst _ S [] W W4 hJ (Chg.of_below hbw (Nat.le_refl _)) (fun b hb => by
    rw [hS] at hb
    rcases hb with h | h | h
    · exact .inl (.inl h)
    · exact .inl (.inr h)
    · exact .inr h.1)
  have HC : Hid (CallsIn Fence.wide 0 Tryz.prog 87 #[.int .i64 0, .int .i64 0, .pointer (some ⟨bm, 0, none⟩), .pointer (some ⟨W.heap.size, 0, none⟩), .pointer (some ⟨W.heap.size + 1 + 1, 0, none⟩), .pointer (some ⟨bn, 0, none⟩), .pointer (some ⟨W.heap.size + 1 + 1 + 1, 0, none⟩)] W4 fun e W' =>
      (e = .returned (.bool true) ∧ J S ([] ++ (ext n many 0).map ([] ++ ·)) W' ∧ Ox W' l n many bm W.heap.size (W.heap.size + 1 + 1) bn (W.heap.size + 1 + 1 + 1) (W.heap.size + 1) ∧ W4.heap.size ≤ W'.heap.size ∧ ∃ f', W'.rowIs (W.heap.size + 1) 3 many f' ∧ ∀ j, j < 0 → f' j = .int .i64 0) ∨
      (e = .returned (.bool false) ∧ ∃ q, q <+: ext n many 0 ∧ Jx S q W')) := fill_any many w0.heap.size l n many bm W.heap.size (W.heap.size + 1 + 1) bn (W.heap.size + 1 + 1 + 1) (W.heap.size + 1) S (fun _ => False) J Jx (ext n many 0) hst hbx hm5 hn (by have := hW.size; omega) hY [] 0 [] _ W4 (by simp) (Nat.zero_le _) ho hrow (fun j hj => absurd hj (by simp)) (fun b hb => by
    rw [hS] at hb
    rcases hb with h | h | h <;> omega) hJ4 (by simp)
  have HW4 : Hid (W4 = (((W.alloc (.cells #[.func (.yield l) #[] #[]] 97)).alloc (.cells (madeCells #[.int .i64 0] many) 3)).alloc (.cells #[.slice (some ⟨W.heap.size + 1, 0, none⟩) many many] 22)).alloc
    (.cells #[.func (.func 87) #[] #[.pointer (some ⟨bm, 0, none⟩), .pointer (some ⟨W.heap.size, 0, none⟩), .pointer (some ⟨W.heap.size + 1 + 1, 0, none⟩), .pointer (some ⟨bn, 0, none⟩), .pointer (some ⟨W.heap.size + 1 + 1 + 1, 0, none⟩)]] 73)) := hW4
  clear hst hstx hY hJ ho hrow hbx hJ4 e1 e2 e3 e4 hsz hbw hW hcm hcn hW4
  refine callsIn_of_wp Tryz.func86 rfl trivial ?_ rfl
  simp only [Tryz.ntmps86, List.size_toArray, List.length_cons, List.length_nil, Nat.reduceAdd, Nat.reduceSub, Array.replicate_succ, Array.replicate_zero, List.push_toArray, List.append_toArray, List.nil_append, List.cons_append]
  gi_wp2_with fail
  refine ⟨trivial, rfl, ?_⟩
  rw [← HW4.out]
  refine (HC.out).mono ?_
  rintro e W' (⟨rfl, a1, _⟩ | ⟨rfl, a1⟩)
  · have A : Hid (J S (ext n many 0) W') := by
      have e : [] ++ (ext n many 0).map ([] ++ ·) = ext n many 0 := by simp
      rw [e] at a1
      exact a1
    clear a1
    gi_wp2
    go_end0
    exact ⟨⟨_, rfl⟩, .inl ⟨S, A.out⟩⟩
  · have A : Hid (∃ q, q <+: ext n many 0 ∧ Jx S q W') := a1
    clear a1
    gi_wp2
    go_end0
    exact ⟨⟨_, rfl⟩, .inr ⟨S, A.out⟩⟩

set_option maxHeartbeats 1000000 in
theorem of_any (n many : Int) (w : World) : Calls Tryz.prog 56 #[.int .i64 n, .int .i64 many] w fun e w' =>
    e = .returned (.func (.func 86) #[] #[.pointer (some ⟨w.heap.size + 1, 0, none⟩), .pointer (some ⟨w.heap.size, 0, none⟩)]) ∧ w' = (w.alloc (.cells #[.int .i64 n] 3)).alloc (.cells #[.int .i64 many] 3) := by
  go_enter Tryz.func56, Tryz.ntmps56
  go_wp2
  go_ret
  exact ⟨rfl, rfl⟩

end Go.Proofs.YtgfnmkenpgnllaaGreat
