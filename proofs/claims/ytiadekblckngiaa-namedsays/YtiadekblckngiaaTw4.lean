/- choose.Orders: what it hands back goes through all orders. -/
import Derived.Test.YtiadekblckngiaaTw3
import Derived.Laws.EntriesVeiled
import Derived.Laws.MakeOwn
namespace Go.Proofs.Ytiadekblckngiaa
open Go.RowKit Go.Shelf
attribute [local go_sem] Oper.semAt_some

theorem oAlloc_new (w : World) (o : Obj) : (w.alloc o).heap[w.heap.size]? = some o := World.alloc_heap_new w o
theorem oAlloc_keep (w : World) (o : Obj) : Below w.heap.size w (w.alloc o) := (Below.refl _ _).alloc (Nat.le_refl _) _
theorem oSize_alloc (w : World) (o : Obj) : (w.alloc o).heap.size = w.heap.size + 1 := by simp

/-- Four blocks, one after another. -/
theorem oFour (w : World) (o1 o2 o3 o4 : Obj) :
    ∃ W, W = (((w.alloc o1).alloc o2).alloc o3).alloc o4 ∧ W.heap[w.heap.size]? = some o1 ∧ W.heap[w.heap.size + 1]? = some o2 ∧ W.heap[w.heap.size + 1 + 1]? = some o3 ∧ W.heap[w.heap.size + 1 + 1 + 1]? = some o4 ∧ W.heap.size = w.heap.size + 4 ∧ Below w.heap.size w W := by
  obtain ⟨w1, h1⟩ : ∃ w1, w1 = w.alloc o1 := ⟨_, rfl⟩
  obtain ⟨w2, h2⟩ : ∃ w2, w2 = w1.alloc o2 := ⟨_, rfl⟩
  obtain ⟨w3, h3⟩ : ∃ w3, w3 = w2.alloc o3 := ⟨_, rfl⟩
  have s1 : w1.heap.size = w.heap.size + 1 := by rw [h1]; exact oSize_alloc _ _
  have s2 : w2.heap.size = w.heap.size + 2 := by rw [h2, oSize_alloc]; omega
  have s3 : w3.heap.size = w.heap.size + 3 := by rw [h3, oSize_alloc]; omega
  have n1 : w1.heap[w.heap.size]? = some o1 := by rw [h1]; exact oAlloc_new _ _
  have n2 : w2.heap[w.heap.size + 1]? = some o2 := by rw [h2, ← s1]; exact oAlloc_new _ _
  have n3 : w3.heap[w.heap.size + 1 + 1]? = some o3 := by rw [h3, show w.heap.size + 1 + 1 = w2.heap.size by omega]; exact oAlloc_new _ _
  have b1 : Below w.heap.size w w1 := by rw [h1]; exact oAlloc_keep _ _
  have b2 : Below w1.heap.size w1 w2 := by rw [h2]; exact oAlloc_keep _ _
  have b3 : Below w2.heap.size w2 w3 := by rw [h3]; exact oAlloc_keep _ _
  have b4 : Below w3.heap.size w3 (w3.alloc o4) := oAlloc_keep _ _
  refine ⟨w3.alloc o4, by rw [h3, h2, h1], ?_, ?_, ?_, ?_, ?_, ?_⟩
  · rw [b4.block _ (by omega), b3.block _ (by omega), b2.block _ (by omega)]; exact n1
  · rw [b4.block _ (by omega), b3.block _ (by omega)]; exact n2
  · rw [b4.block _ (by omega)]; exact n3
  · rw [show w.heap.size + 1 + 1 + 1 = w3.heap.size by omega]; exact oAlloc_new _ _
  · rw [oSize_alloc]; omega
  · exact ((b1.trans (b2.mono (by omega))).trans (b3.mono (by omega))).trans (b4.mono (by omega))

theorem make0_run (n : Nat) (hn : n ≤ 6) (w : World) : (Instr.makeSlice 35 (.int .i64 0) (.int .i64 (n : Int))).run Try.prog w = .ok (.slice (some ⟨w.heap.size, 0, none⟩) 0 n) (w.alloc (.cells (madeCells #[.int .i64 0] n) 3)) := by
  obtain ⟨i3, hi3, hz30, hz31, hz32⟩ := info_parts Try.info3
  have h := run_make (P := Try.prog) w 35 3 i3 (.int .i64 0) Try.underlying35 hi3 hz30 .i64 .i64 0 n (Int.le_refl _) (by omega) (by rw [hz32]; omega) (by omega)
  simp only [Int.toNat_zero, Int.toNat_natCast, hz31, Nat.mul_one] at h
  exact h

set_option maxRecDepth 100000 in
set_option maxHeartbeats 4000000 in
theorem orders_seq (n bn : Nat) (w0 : World) (hn : n ≤ 6) (hcn : w0.cell? ⟨bn, 0, none⟩ = some (.int .i64 n)) :
    SeqS Try.prog 31 #[.pointer (some ⟨bn, 0, none⟩)] (Hand w0.heap.size) (ords n n []) (fun _ => False) (fun b => b = bn) w0 := by
  intro l J Jx W hW hst hstx hY hJ
  have hbn := lt_cell0 hcn
  have c2 : W.cell? ⟨bn, 0, none⟩ = some (.int .i64 n) := (hW.cell (p := ⟨bn, 0, none⟩) hbn).trans hcn
  have hmk := make0_run n hn
  obtain ⟨W4, hW4, e1, e2, e3, e4, hsz, hbw⟩ := oFour W (.cells #[.func (.yield l) #[] #[]] 48) (.cells (madeCells #[.int .i64 0] n) 3) (.cells #[.slice (some ⟨W.heap.size + 1, 0, none⟩) 0 n] 35)
    (.cells #[.func (.func 32) #[] #[.pointer (some ⟨W.heap.size + 1 + 1, 0, none⟩), .pointer (some ⟨bn, 0, none⟩), .pointer (some ⟨W.heap.size, 0, none⟩), .pointer (some ⟨W.heap.size + 1 + 1 + 1, 0, none⟩)]] 49)
  have hwn := lt_cell0 c2
  obtain ⟨S, hS⟩ : ∃ S : Nat → Prop, S = fun b => b = bn ∨ (W.heap.size ≤ b ∧ b < W.heap.size + 4) := ⟨_, rfl⟩
  have ho : Oq W4 l n (W.heap.size + 1 + 1) bn W.heap.size (W.heap.size + 1 + 1 + 1) (W.heap.size + 1) [] := by
    refine ⟨e3, (hbw.cell (p := ⟨bn, 0, none⟩) hwn).trans c2, oq_cell e1, oq_cell e4, by simp [ints], .inr ⟨W.heap.size + 1, n, _, rfl, Nat.zero_le _, e2, by simp, by unfold maxLen; omega, ?_, by simp [ints]⟩⟩
    rw [← Array.length_toList, toList_madeCells_one]; simp
  have hbx : Bxq S (W.heap.size + 1 + 1) bn W.heap.size (W.heap.size + 1 + 1 + 1) (W.heap.size + 1) := by
    rw [hS]
    exact ⟨.inr (by omega), .inl rfl, .inr (by omega), .inr (by omega), .inr (by omega), fun b hb => by omega, fun b hb => by omega⟩
  have hJ4 : J S [] W4 := hst _ S [] W W4 hJ (Chg.of_below hbw (Nat.le_refl _)) (fun b hb => by
    rw [hS] at hb
    rcases hb with h | h
    · exact .inl h
    · exact .inr h.1)
  have HC : Hid (CallsIn Fence.wide 0 Try.prog 32 #[.pointer (some ⟨W.heap.size + 1 + 1, 0, none⟩), .pointer (some ⟨bn, 0, none⟩), .pointer (some ⟨W.heap.size, 0, none⟩), .pointer (some ⟨W.heap.size + 1 + 1 + 1, 0, none⟩)] W4 fun e W' =>
      ∃ b : Bool, e = .returned (.bool b) ∧ ((∃ S, J S (ords n n []) W') ∨ (∃ S pre, pre <+: ords n n [] ∧ Jx S pre W'))) := by
    refine (fillO_any n w0.heap.size l n (W.heap.size + 1 + 1) bn W.heap.size (W.heap.size + 1 + 1 + 1) (W.heap.size + 1) S (fun _ => False) J Jx (ords n n []) hst hstx hbx hn (by have := hW.size; omega) hY [] [] W4 (by simp) ho (fun b hb => by
      rw [hS] at hb
      rcases hb with h | h <;> omega) hJ4 (by simp)).mono ?_
    rintro e W' ⟨b, rfl, _, _, (⟨_, h⟩ | ⟨_, q, h1, h2⟩)⟩
    · exact ⟨b, rfl, .inl ⟨S, by simpa using h⟩⟩
    · exact ⟨b, rfl, .inr ⟨S, q, h1, h2⟩⟩
  have HW4 : Hid (W4 = (((W.alloc (.cells #[.func (.yield l) #[] #[]] 48)).alloc (.cells (madeCells #[.int .i64 0] n) 3)).alloc (.cells #[.slice (some ⟨W.heap.size + 1, 0, none⟩) 0 n] 35)).alloc
    (.cells #[.func (.func 32) #[] #[.pointer (some ⟨W.heap.size + 1 + 1, 0, none⟩), .pointer (some ⟨bn, 0, none⟩), .pointer (some ⟨W.heap.size, 0, none⟩), .pointer (some ⟨W.heap.size + 1 + 1 + 1, 0, none⟩)]] 49)) := hW4
  clear hst hstx hY hJ ho hbx hJ4 e1 e2 e3 e4 hsz hbw hW hcn hW4
  refine callsIn_of_wp Try.func31 rfl trivial ?_ rfl
  simp only [Try.ntmps31, List.size_toArray, List.length_cons, List.length_nil, Nat.reduceAdd, Nat.reduceSub, Array.replicate_succ, Array.replicate_zero, List.push_toArray, List.append_toArray, List.nil_append, List.cons_append]
  gi_wp2_with fail
  refine ⟨trivial, rfl, ?_⟩
  rw [← HW4.out]
  refine (HC.out).mono ?_
  rintro e W' ⟨b, rfl, a1⟩
  have A : Hid ((∃ S, J S (ords n n []) W') ∨ (∃ S pre, pre <+: ords n n [] ∧ Jx S pre W')) := a1
  clear a1
  gi_wp2
  go_end0
  exact ⟨⟨_, rfl⟩, A.out⟩

set_option maxHeartbeats 1000000 in
theorem ordsIt_any (n : Int) (w : World) : Calls Try.prog 26 #[.int .i64 n] w fun e w' =>
    e = .returned (.func (.func 31) #[] #[.pointer (some ⟨w.heap.size, 0, none⟩)]) ∧ w' = w.alloc (.cells #[.int .i64 n] 3) := by
  go_enter Try.func26, Try.ntmps26
  go_wp2
  go_ret
  exact ⟨rfl, rfl⟩

end Go.Proofs.Ytiadekblckngiaa
