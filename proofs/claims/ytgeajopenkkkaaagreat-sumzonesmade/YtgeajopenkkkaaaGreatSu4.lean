/- sum.twiceArea. -/
import Derived.Test.YtgeajopenkkkaaaGreatSu0
import Derived.Test.YtgeajopenkkkaaaGreatHmz
import Derived.Test.YtgeajopenkkkaaaGreatRunB
import Derived.Test.YtgeajopenkkkaaaGreatRgI
import Derived.Test.YtgeajopenkkkaaaGreatRgA
namespace Go.Proofs.YtgeajopenkkkaaaGreat
open Go.RowKit Lin
attribute [local go_sem ↓] Go.wp_at_zero Go.wp_at_succ

theorem fr_mat0S {B : Nat} {w : World} {v : Value} {m : List (List Int)} (h : Fr B 22 3 w v m) : Mat 0 22 3 w v m := by
  obtain ⟨vs, h1, h2, h3⟩ := h
  exact ⟨vs, h1, Sl.own h2, h3⟩

theorem srC_of {d : Nat} {P P' rows : List (List Int)} (hg : Good d P) (hP : Inor P' P) (hr : Inw rows (rowsC P' [] d P')) : SrC d P rows (P'.filter fun x => !twin rows P' x) := by
  have hm : ∀ r, r ∈ rows ↔ r ∈ rowsD P d := fun r => by
    rw [hr.mem r, mem_rowsD]
    exact rows_same hg hP.mem r
  refine ⟨hg, hr.asc, hm, List.Pairwise.filter _ hP.asc, fun y => ?_⟩
  unfold crn
  rw [List.mem_filter, List.mem_filter, hP.mem y]
  refine and_congr_right fun hy => ?_
  have hrl : ∀ r ∈ rows, r.length = d + 1 := fun r hr' => (rowsC_fit hg.box hg.d1 (by have := hg.d4; omega) hP.mem ((hr.mem r).1 hr')).len
  have h1 := twin_iff (d := d) (m := rows) (P := P') (x := y) hrl (fun z hz => (hg.box z ((hP.mem z).1 hz)).1) (hg.box y hy).1
  have h2 := corner_iff hg hP.mem hy
  have h3 := corner_rank hg hP.mem hm hy
  simp only [Bool.not_eq_true', decide_eq_true_eq]
  rw [h1, h3, ← h2]
  constructor
  · intro h z hz hne
    obtain ⟨r, hr1, hr2⟩ := h z ((hP.mem z).2 hz) hne
    exact ⟨r, (hr.mem r).1 hr1, hr2⟩
  · intro h z hz hne
    obtain ⟨r, hr1, hr2⟩ := h z ((hP.mem z).1 hz) hne
    exact ⟨r, (hr.mem r).2 hr1, hr2⟩

theorem wrapC_any (d : Nat) (P : List (List Int)) (v : Value) (w : World) (hv : Mat w.heap.size 22 3 w v P) (hg : Good d P) :
    Calls Tryz.prog 27 #[v] w fun e w' => ∃ (co : Option Addr) (cc : Nat) (s C : List (List Int)), e = .returned (.slice co C.length cc) ∧ SrC d P s C ∧ Fr w.heap.size 22 3 w' (.slice co C.length cc) C ∧ Below w.heap.size w w' := by
  refine (wrapCorners_any d P v w hv hg).mono ?_
  rintro e w' ⟨u, P', rows, rfl, hf, h1, h2, hb⟩
  obtain ⟨co, cc, rfl, _, _⟩ := mat_open (fr_mat0S hf)
  exact ⟨co, cc, rows, _, rfl, srC_of hg h1 h2, hf, hb⟩

theorem heap_new (w : World) (o : Obj) : (w.alloc o).heap[w.heap.size]? = some o := by
  show (w.heap.push o)[w.heap.size]? = some o
  simp

/-- The triangle over a row. -/
def m3 (C : List (List Int)) (r : List Int) : List (List Int) := [C.getD 0 [], (endL C r).getD 0 [], (endL C r).getD 1 []]

end Go.Proofs.YtgeajopenkkkaaaGreat
