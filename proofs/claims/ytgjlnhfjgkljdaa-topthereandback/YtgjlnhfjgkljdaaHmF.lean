import Derived.Test.YtgjlnhfjgkljdaaHm7
import Derived.Test.YtgjlnhfjgkljdaaHmB
import Derived.Test.YtgjlnhfjgkljdaaRefC
import Derived.Test.YtgjlnhfjgkljdaaRowA
import Derived.Test.YtgjlnhfjgkljdaaHulAll
import Derived.Test.YtgjlnhfjgkljdaaHm10
/- The document's answer: the rows of points: the walk. -/
namespace Go.Proofs.Ytgjlnhfjgkljdaa
open Go.RowKit
attribute [local go_sem ↓] Go.wp_at_zero Go.wp_at_succ

/-- What the first i choices give. -/
def rowsTo (P : List (List Int)) (C : List (List Int)) (i : Nat) : List (List Int) := (C.take i).flatMap fun c => (rowT (pks P [] c) P).toList

theorem rowsTo_succ (P C : List (List Int)) (i : Nat) (h : i < C.length) : rowsTo P C (i + 1) = rowsTo P C i ++ (rowT (pks P [] (C.getD i [])) P).toList := by
  unfold rowsTo
  have e : C.getD i [] = C[i] := by simp [h]
  rw [List.take_succ_eq_append_getElem h, List.flatMap_append, e]
  simp

theorem rowsTo_len (P C : List (List Int)) : ∀ i, (rowsTo P C i).length ≤ i := by
  intro i
  induction i with
  | zero => simp [rowsTo]
  | succ i ih =>
    by_cases h : i < C.length
    · rw [rowsTo_succ P C i h, List.length_append]
      have : (rowT (pks P [] (C.getD i [])) P).toList.length ≤ 1 := by cases rowT (pks P [] (C.getD i [])) P <;> simp
      omega
    · have : rowsTo P C (i + 1) = rowsTo P C i := by unfold rowsTo; rw [List.take_of_length_le (by omega), List.take_of_length_le (by omega)]
      rw [this]; omega

theorem pks_in {P : List (List Int)} {c : List Int} (h : ∀ q ∈ c, 0 ≤ q ∧ q < (P.length : Int)) : ∀ x ∈ pks P [] c, x ∈ P := by
  intro x hx
  obtain ⟨q, hq, rfl⟩ := List.mem_map.1 hx
  obtain ⟨h1, h2⟩ := h q hq
  simp [show q.toNat < P.length by omega]

theorem rowsD_facts {d : Nat} {P : List (List Int)} (hP : Box d 30 P) (h1 : 1 ≤ d) (h5 : d ≤ 5) (r : List Int) (hr : r ∈ rowsD P d) : RowOf d P r := by
  unfold rowsD at hr
  obtain ⟨c, hc, hr⟩ := List.mem_flatMap.1 hr
  have hl := chosen_row d P.length c hc
  refine rowT_facts hP h1 h5 (by rw [← hl]; simp [pks]) (pks_in fun q hq => ?_) (Option.mem_toList.1 hr)
  obtain ⟨i, hi, rfl⟩ := List.mem_iff_getElem.1 hq
  have := (chosen_mem d P.length c hc).1 i (by omega)
  simpa [hi] using this

/-- The row's last number goes behind the others. -/
theorem row_end {W5 : World} {l : List Int} {z : Int} {d : Nat} (hl : l.length = d) (hd : d ≤ 10) (w6 : World) (cv : Value) (nn : Nat) (hc : w6.ownsRow W5.heap.size 3 1 cv d (ints l)) (hb : Below W5.heap.size W5 w6)
    (ops : Array Oper) (o : Oper) (a : Act) (K : Act → World → Prop) (Q : Exit → Act → World → Prop) (E : Prop) (hgd : o.guard = none) (ho : o.op = .call { callee := .builtin .append, args := #[.tmp 60, .tmp 66], argTypes := #[22, 22] })
    (h1 : a.eval (.tmp 60) = cv) (h2 : a.eval (.tmp 66) = .slice (some ⟨(w6.drewN nn).heap.size, 0, none⟩) 1 1)
    (h : ∀ v' w3, w3.ownsRow W5.heap.size 3 1 v' (d + 1) (ints (l ++ [z])) ∧ Below W5.heap.size W5 w3 → K (a.put o.dst v') w3) :
    if Region.wanted o (yielded ops a.tmps) = true then Oper.wp Try.prog o a ((w6.drewN nn).alloc (.cells #[.int .i64 z] 3)) K Q else E := by
  obtain ⟨i3, hi3, hz30, hz31, hz32⟩ := info_parts Try.info3
  have hsz : W5.heap.size ≤ (w6.drewN nn).heap.size := hb.size
  have hc' : (w6.drewN nn).ownsRow W5.heap.size 3 1 cv d (ints l) := hc
  refine step_append_own hgd (.tmp 60) (.tmp 66) 22 ho W5.heap.size 3 i3 (.int .i64 0) 1 8 Try.underlying22 hi3 hz30 hz31 hz32 rfl (by decide) cv d (ints l) h1 (hc'.alloc _) ⟨(w6.drewN nn).heap.size, 0, none⟩ 1 1 [.int .i64 z] h2 rfl (one_new _ _ _) (one_int _) (by unfold maxLen; omega) (by omega) (by have := hb.size; simp; omega) ?_
  intro v' w3 ho3 hg3
  subst hl
  exact h v' w3 (owns_push (z := z) (N := l.length + 1) hsz (l := l) hc' (hb.trans ⟨rfl, rfl, rfl, Nat.le_refl _, fun _ _ => rfl⟩) ho3 hg3 rfl)

end Go.Proofs.Ytgjlnhfjgkljdaa

/- The document's answer: where a point is: the walk. -/
namespace Go.Proofs.Ytgjlnhfjgkljdaa
open Go.RowKit
attribute [local go_sem ↓] Go.wp_at_zero Go.wp_at_succ

/-- Where a point is, by rows. -/
def whL (s : List (List Int)) (x : List Int) : Int := if (s.any fun r => decide (0 < overL r x)) = true then 1 else if (s.any fun r => decide (overL r x = 0)) = true then 0 else -1

theorem whL_same {s t : List (List Int)} (h : ∀ r, r ∈ s ↔ r ∈ t) (x : List Int) : whL s x = whL t x := by
  have e : ∀ f : List Int → Bool, s.any f = t.any f := fun f => by
    rw [Bool.eq_iff_iff]
    simp only [List.any_eq_true]
    exact ⟨fun ⟨r, h1, h2⟩ => ⟨r, (h r).1 h1, h2⟩, fun ⟨r, h1, h2⟩ => ⟨r, (h r).2 h1, h2⟩⟩
  unfold whL
  rw [e, e]

end Go.Proofs.Ytgjlnhfjgkljdaa

/- What the law calls: lists that are the same. -/
namespace Go.Proofs.Ytgjlnhfjgkljdaa
open Go.RowKit
attribute [local go_sem ↓] Go.wp_at_zero Go.wp_at_succ

/-- The program's rows are the document's, one for one. -/
theorem rows_equal {d : Nat} {P P' s rows : List (List Int)} (hg : Good d P) (hP : Inor P' P) (hr : Inor rows (rowsC P' [] d P')) (hs : SAsc s) (hm : ∀ r, r ∈ s ↔ r ∈ rowsD P d) : rows = s := by
  refine sasc_ext rows s hr.asc hs fun r => ?_
  rw [hr.mem r, hm r, mem_rowsD]
  exact rows_same hg hP.mem r

/-- A row's last number is small. -/
theorem rowsD_last {d : Nat} {P : List (List Int)} (hP : Box d 30 P) (h1 : 1 ≤ d) (h5 : d ≤ 5) {r : List Int} (hr : r ∈ rowsD P d) : (r.getD d 0).natAbs ≤ 1000000000000000000 := by
  have hr0 := hr
  unfold rowsD at hr
  obtain ⟨c, hc, hr⟩ := List.mem_flatMap.1 hr
  have hl := chosen_row d P.length c hc
  have htl : (pks P [] c).length = d := by rw [← hl]; simp [pks]
  have htm : ∀ x ∈ pks P [] c, x ∈ P := pks_in fun q hq => by
    obtain ⟨i, hi, rfl⟩ := List.mem_iff_getElem.1 hq
    have := (chosen_mem d P.length c hc).1 i (by omega)
    simpa [hi] using this
  obtain ⟨σ, hσ, hnb, hre⟩ := rowT_form htl (Option.mem_toList.1 hr)
  have hal := norm_len hnb
  have hbd := norm_bd (diff_mx (fun x hx => hP x (htm x hx)) h1 h5)
  have h0 : (pks P [] c).getD 0 [] ∈ P := htm _ (by simp [show 0 < (pks P [] c).length by omega])
  have hsm : Sm (normL d (diffL (pks P [] c))) ((pks P [] c).getD 0 []) := ⟨by rw [hal, (hP _ h0).1]; exact Nat.le_refl _, by rw [hal]; omega, hbd, fun z hz => by have := (hP _ h0).2 z hz; omega⟩
  have hd := dot_small0 hsm
  have e : r.getD d 0 = σ * dotL (normL d (diffL (pks P [] c))) ((pks P [] c).getD 0 []) := by
    rw [hre]
    have := V_map (normL d (diffL (pks P [] c)) ++ [dotL (normL d (diffL (pks P [] c))) ((pks P [] c).getD 0 [])]) σ d
    simp only [V] at this
    rw [this, (row_app hal).2.2.1]
  rw [e, Int.natAbs_mul]
  generalize dotL (normL d (diffL (pks P [] c))) ((pks P [] c).getD 0 []) = q at *
  rcases hσ with rfl | rfl <;> simp <;> omega

theorem agn_over (r x : List Int) : agn r x = if 0 < overL r x then 1 else if overL r x = 0 then 0 else -1 := by
  unfold agn cmpI overL
  generalize dotL (r.take x.length) x = a
  generalize r.getD x.length 0 = b
  repeat' split
  all_goals omega

theorem whL_cons (r : List Int) (s : List (List Int)) (x : List Int) : whL (r :: s) x = max (agn r x) (whL s x) := by
  rw [agn_over]
  unfold whL
  simp only [List.any_cons, Bool.or_eq_true, decide_eq_true_eq]
  generalize overL r x = a
  by_cases h1 : (s.any fun r => decide (0 < overL r x)) = true
  · simp only [h1, or_true, if_true]
    repeat' split
    all_goals omega
  · by_cases h2 : (s.any fun r => decide (overL r x = 0)) = true
    · simp only [h1, h2, or_false, or_true, if_true, if_false, Bool.false_eq_true]
      repeat' split
      all_goals omega
    · simp only [h1, h2, or_false, if_false, Bool.false_eq_true]
      repeat' split
      all_goals omega

theorem whr_whL (s : List (List Int)) (x : List Int) : whr s x = whL s x := by
  have key : ∀ (s : List (List Int)) (p : Int), -1 ≤ p → p ≤ 1 → s.foldl (fun p r => max p (agn r x)) p = max p (whL s x) := by
    intro s
    induction s with
    | nil => intro p h1 h2; simp [whL]; omega
    | cons r s ih =>
      intro p h1 h2
      have hb := agn_bd r x
      rw [List.foldl_cons, ih _ (by omega) (by omega), whL_cons]
      omega
  have h : -1 ≤ whL s x := by
    unfold whL
    repeat' split
    all_goals omega
  unfold whr
  rw [key s (-1) (by omega) (by omega)]
  omega

end Go.Proofs.Ytgjlnhfjgkljdaa
