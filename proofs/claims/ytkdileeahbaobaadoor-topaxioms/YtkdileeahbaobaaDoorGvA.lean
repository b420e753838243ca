import Derived.Test.YtkdileeahbaobaaDoorGvD
import Derived.Test.YtkdileeahbaobaaDoorWi1
import Derived.BigQuiet
import Derived.BigRegion
import Derived.Deep.QuietTactic
import Derived.Test.YtkdileeahbaobaaDoorOm0
import Derived.Test.YtkdileeahbaobaaDoorRun1
/- matroid.clearPlace; slices.IndexFunc by standAlone's closure. -/
namespace Go.Proofs.YtkdileeahbaobaaDoor
open Go.RowKit
attribute [local go_sem ↓] Go.wp_at_zero Go.wp_at_succ

def nzF (x : Int) : Bool := x != 0

/-- A row cleared at a place. -/
def clrE (p : Int) (pl : Nat) (r x : List Int) (c : Nat) : Int := (r.getD pl 0 * x.getD c 0 + (p - x.getD pl 0) * r.getD c 0) % p

def clrR (p : Int) (pl : Nat) (r x : List Int) : List Int := (List.range x.length).map (clrE p pl r x)

theorem clrR_len (p : Int) (pl : Nat) (r x : List Int) : (clrR p pl r x).length = x.length := by simp [clrR]

theorem clrR_get {p : Int} {pl : Nat} {r x : List Int} {c : Nat} (h : c < x.length) : (clrR p pl r x).getD c 0 = clrE p pl r x c := by simp [clrR, h]

/-- Nothing has turned but one block. -/
structure Onl (g : Nat) (w w' : World) : Prop where
  os : w'.os = w.os
  tape : w'.tape = w.tape
  output : w'.output = w.output
  size : w'.heap.size = w.heap.size
  block : ∀ b, b ≠ g → w'.heap[b]? = w.heap[b]?

theorem Onl.refl (g : Nat) (w : World) : Onl g w w := ⟨rfl, rfl, rfl, rfl, fun _ _ => rfl⟩

theorem Onl.drewN {g : Nat} {w w' : World} (h : Onl g w w') (n : Nat) : Onl g w (w'.drewN n) := ⟨h.os, h.tape, h.output, h.size, h.block⟩

theorem Onl.set {g : Nat} {w w' : World} (h : Onl g w w') (t : Nat) (u : Value) : Onl g w (w'.setCell ⟨g, t, none⟩ u) :=
  ⟨h.os, h.tape, h.output, by simp only [World.setCell, Array.size_modify]; exact h.size, fun b hb => (Below.heap_setCell _ _ _ _ hb).trans (h.block b hb)⟩

theorem Onl.cell {g : Nat} {w w' : World} (h : Onl g w w') {b o : Nat} (hb : b ≠ g) : w'.cell? ⟨b, o, none⟩ = w.cell? ⟨b, o, none⟩ := World.cell?_of_block (w := w) (h.block b hb)

end Go.Proofs.YtkdileeahbaobaaDoor

/- matroid.standAlone. -/
namespace Go.Proofs.YtkdileeahbaobaaDoor
open Go.RowKit
attribute [local go_sem ↓] Go.wp_at_zero Go.wp_at_succ

theorem clr_clp {p : Int} {d pl : Nat} {R x : List Int} (hx : x.length = d) (hpl : pl < d) (hR : ¬ p ∣ R.getD pl 0) : Clp p d pl R x (clrR p pl R x) := by
  refine ⟨⟨R.getD pl 0, p - x.getD pl 0, hR, fun c hc => ?_⟩, ?_⟩
  · rw [clrR_get (by omega)]
    unfold clrE
    have h := Int.mul_ediv_add_emod (R.getD pl 0 * x.getD c 0 + (p - x.getD pl 0) * R.getD c 0) p
    exact ⟨-((R.getD pl 0 * x.getD c 0 + (p - x.getD pl 0) * R.getD c 0) / p), by grind⟩
  · rw [clrR_get (by omega)]
    unfold clrE
    rw [show R.getD pl 0 * x.getD pl 0 + (p - x.getD pl 0) * R.getD pl 0 = p * R.getD pl 0 by grind, Int.mul_emod_right]
    exact Int.dvd_zero _

/-- What the inner loop has done. -/
def ClS (p : Int) (pl i j : Nat) (M M2 : List (List Int)) : Prop := ∀ q, q < M.length → M2.getD q [] = if i < q ∧ q < i + 1 + j then clrR p pl (M.getD i []) (M.getD q []) else M.getD q []

theorem clS_dpn {p d pl i : Nat} {M M2 : List (List Int)} (hp : Prm (p : Int)) (hi : i < M.length) (hl : M2.length = M.length) (hM : ∀ q, q < M.length → (M.getD q []).length = d) (hpl : pl < d) (hR : ¬ (p : Int) ∣ (M.getD i []).getD pl 0) (h : ClS p pl i (M.length - (i + 1)) M M2) : dpB p d (M.drop i) = dpB p d (M2.drop (i + 1)) := by
  have e1 : M.drop i = M.getD i [] :: M.drop (i + 1) := by
    rw [List.drop_eq_getElem_cons hi]
    simp [hi]
  have hc : Clr (p : Int) d pl (M.getD i []) (M.drop (i + 1)) (M2.drop (i + 1)) := by
    refine clr_get _ _ (by simp [hl]) fun q hq => ?_
    have hq' : i + 1 + q < M.length := by simp at hq; omega
    have e2 : (M.drop (i + 1)).getD q [] = M.getD (i + 1 + q) [] := by simp
    have e3 : (M2.drop (i + 1)).getD q [] = M2.getD (i + 1 + q) [] := by simp
    rw [e2, e3, h _ hq', if_pos ⟨by omega, by omega⟩]
    exact clr_clp (hM _ hq') hpl hR
  have h1 := dpn_step hp hpl hR hc
  rw [e1]
  by_cases c : Dpn p d (M2.drop (i + 1))
  · rw [dpB_true.2 c, dpB_true.2 (h1.2 c)]
  · rw [dpB_false.2 c, dpB_false.2 (fun h => c (h1.1 h))]

theorem clS_rp {p d pl i j : Nat} {M M2 : List (List Int)} (hp : 1 ≤ p) (hl : M2.length = M.length) (hM : Rp d p M) (h : ClS p pl i j M M2) : Rp d p M2 := fun r hr => by
  obtain ⟨q, hq, rfl⟩ := List.getElem_of_mem hr
  have e := h q (by omega)
  rw [show M2.getD q [] = M2[q] by simp [hq]] at e
  rw [e]
  have hx := hM (M.getD q []) (by simp [show q < M.length by omega])
  by_cases c : i < q ∧ q < i + 1 + j
  · rw [if_pos c]
    refine ⟨by rw [clrR_len]; exact hx.1, fun z hz => ?_⟩
    unfold clrR at hz
    obtain ⟨t, _, rfl⟩ := List.mem_map.1 hz
    unfold clrE
    exact ⟨Int.emod_nonneg _ (by omega), Int.emod_lt_of_pos _ (by omega)⟩
  · rw [if_neg c]
    exact hx

theorem clS_next {p : Int} {pl i j : Nat} {M M2 : List (List Int)} (hl : M2.length = M.length) (hq : i + 1 + j < M.length) (h : ClS p pl i j M M2) : ClS p pl i (j + 1) M (M2.set (i + 1 + j) (clrR p pl (M.getD i []) (M.getD (i + 1 + j) []))) := fun q hqm => by
  by_cases e : q = i + 1 + j
  · subst e
    rw [if_pos ⟨by omega, by omega⟩]
    simp [show i + 1 + j < M2.length by omega]
  · rw [show (M2.set (i + 1 + j) (clrR p pl (M.getD i []) (M.getD (i + 1 + j) []))).getD q [] = M2.getD q [] by simp [List.getD_eq_getElem?_getD, List.getElem?_set_ne (Ne.symm e)]]
    rw [h q hqm]
    by_cases c : i < q ∧ q < i + 1 + j
    · rw [if_pos c, if_pos ⟨c.1, by omega⟩]
    · rw [if_neg c, if_neg (by omega)]

theorem getD_mem {l : List Int} {j : Nat} (h : j < l.length) : l.getD j 0 ∈ l := by simp [h]

theorem nz_none {p : Int} {d : Nat} {r : List Int} (hl : r.length = d) (h : r.any nzF = false) : ∀ k, k < d → p ∣ r.getD k 0 := fun k hk => by
  have := List.any_eq_false.1 h (r.getD k 0) (by simp [show k < r.length by omega])
  unfold nzF at this
  have e : r.getD k 0 = 0 := by simpa using this
  rw [e]; exact Int.dvd_zero _

theorem nz_some {d : Nat} {r : List Int} (hl : r.length = d) (h : r.any nzF = true) : ∃ pl : Nat, findI nzF r = (pl : Int) ∧ pl < d ∧ r.getD pl 0 ≠ 0 := by
  have h1 : r.findIdx nzF < r.length := by
    rw [List.findIdx_lt_length]
    obtain ⟨x, hx, hx2⟩ := List.any_eq_true.1 h
    exact ⟨x, hx, hx2⟩
  refine ⟨r.findIdx nzF, by unfold findI; rw [if_pos h], by omega, ?_⟩
  have h2 := List.findIdx_getElem (w := h1)
  generalize r.findIdx nzF = q at *
  unfold nzF at h2
  have : r[q] ≠ 0 := by simpa using h2
  simpa [h1] using this

theorem run_tailM {G n xc i : Nat} (h1 : i < n) (h2 : n ≤ xc) : ∃ so, (i + 1 < n → so = i + 1) ∧ ∀ w : World, (Instr.slice 42 (.slice (some ⟨G, 0, none⟩) n xc) (some (.int .i64 ((i : Int) + 1))) none none).run Tryd.prog w = .ok (.slice (some ⟨G, so, none⟩) (n - (i + 1)) (xc - (i + 1))) w := by
  have e1 : (0 : Int) ≤ (i : Int) + 1 ∧ (i : Int) + 1 ≤ (n : Int) := by omega
  have e2 : ((i : Int) + 1).toNat = i + 1 := by omega
  have hz : ∀ w, (Go.sizeOf 22).run Tryd.prog w = .ok 1 w := fun w => by kernel_rfl
  by_cases e3 : xc = i + 1
  · refine ⟨0, by omega, fun w => ?_⟩
    simp [Instr.slice, Instr.sliceBounds, Instr.sliceBound, run_underlying Tryd.underlying42, asIntOf, e1, e2, e3, go_sem]
  · refine ⟨i + 1, fun _ => rfl, fun w => ?_⟩
    simp [Instr.slice, Instr.sliceBounds, Instr.sliceBound, run_underlying Tryd.underlying42, asIntOf, e1, e2, e3, hz, Addr.add, go_sem]

end Go.Proofs.YtkdileeahbaobaaDoor
