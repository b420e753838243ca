/- crystal.lettersOf; keys of eight letters. -/
import Derived.Test.YtnooabbcfhmjaaaCr11
import Derived.Deep.WholeRow
import Derived.WideKeyPair
import Derived.Maps.OwnSet
namespace Go.Proofs.Ytnooabbcfhmjaaa
open Go.RowKit
open Go.WideMaps
attribute [local go_sem ↓] Go.wp_at_zero Go.wp_at_succ

theorem keyOf_oct {P : Program} {k e : TypeId} {q : IntKind} (A : ArrKey P k e 8) (he : P.underlying e = some (.int q)) (hsz : ∃ m, P.types.size = m + 1) {a0 a1 a2 a3 a4 a5 a6 a7 : Int} (w0 : (Lit.int q a0).wf = true) (w1 : (Lit.int q a1).wf = true) (w2 : (Lit.int q a2).wf = true) (w3 : (Lit.int q a3).wf = true) (w4 : (Lit.int q a4).wf = true) (w5 : (Lit.int q a5).wf = true) (w6 : (Lit.int q a6).wf = true) (w7 : (Lit.int q a7).wf = true) :
    keyOf P k (.agg #[.int q a0, .int q a1, .int q a2, .int q a3, .int q a4, .int q a5, .int q a6, .int q a7]) = some (.string (keyBytes [.int q a0, .int q a1, .int q a2, .int q a3, .int q a4, .int q a5, .int q a6, .int q a7])) := by
  have hkt := A.keyType hsz
  obtain ⟨m, hm⟩ := hsz
  unfold keyOf
  simp only [A.hu]
  rw [if_pos (by simp [hkt, Value.formed, A.hu, A.size]), hm]
  unfold Program.keyLits
  simp only [A.hu, Value.cells]
  rw [if_pos (by rw [A.size]; rfl), show List.range 8 = [0, 1, 2, 3, 4, 5, 6, 7] from rfl, List.mapM_cons, List.mapM_cons, List.mapM_cons, List.mapM_cons, List.mapM_cons, List.mapM_cons, List.mapM_cons, List.mapM_cons, List.mapM_nil]
  simp [A.one, Program.keyLits, he, w0, w1, w2, w3, w4, w5, w6, w7]

theorem arr8 : ArrKey Try.prog 53 3 8 := ⟨by kernel_rfl, by kernel_rfl, by kernel_rfl, by kernel_rfl⟩

def octI (x : List Int) : Array Value := #[.int .i64 (x.getD 0 0), .int .i64 (x.getD 1 0), .int .i64 (x.getD 2 0), .int .i64 (x.getD 3 0), .int .i64 (x.getD 4 0), .int .i64 (x.getD 5 0), .int .i64 (x.getD 6 0), .int .i64 (x.getD 7 0)]

/-- A word's letters, nought behind. -/
def octV (x : List Nat) : Value := .agg (octI (natsI x))

def octL (x : List Nat) : Lit := .string (keyBytes [.int .i64 ((natsI x).getD 0 0), .int .i64 ((natsI x).getD 1 0), .int .i64 ((natsI x).getD 2 0), .int .i64 ((natsI x).getD 3 0), .int .i64 ((natsI x).getD 4 0), .int .i64 ((natsI x).getD 5 0), .int .i64 ((natsI x).getD 6 0), .int .i64 ((natsI x).getD 7 0)])

theorem oct_wf {n : Nat} {x : List Nat} (hx : Lw n x) (hn : n ≤ 3) (j : Nat) : (Lit.int .i64 ((natsI x).getD j 0)).wf = true := by
  have h : 0 ≤ (natsI x).getD j 0 ∧ (natsI x).getD j 0 ≤ 3 := by
    by_cases hj : j < x.length
    · rw [natsI_at hj]
      have := hx (x.getD j 0) (by simp [hj])
      omega
    · have : (natsI x).getD j 0 = 0 := by
        have h2 : (natsI x).length ≤ j := by rw [natsI_len]; omega
        simp [h2]
      rw [this]; omega
  generalize (natsI x).getD j 0 = z at *
  obtain ⟨h1, h2⟩ := h
  have : z = 0 ∨ z = 1 ∨ z = 2 ∨ z = 3 := by omega
  rcases this with rfl | rfl | rfl | rfl <;> decide

theorem oct_key {n : Nat} {x : List Nat} (hx : Lw n x) (hn : n ≤ 3) : keyOf Try.prog 53 (octV x) = some (octL x) :=
  keyOf_oct arr8 Try.underlying3 ⟨Try.prog.types.size - 1, by kernel_rfl⟩ (oct_wf hx hn 0) (oct_wf hx hn 1) (oct_wf hx hn 2) (oct_wf hx hn 3) (oct_wf hx hn 4) (oct_wf hx hn 5) (oct_wf hx hn 6) (oct_wf hx hn 7)

theorem keyed8 : Maps.Keyed Try.prog 53 := Maps.Keyed.of_law arr8.law

theorem oct_inj {n : Nat} {x y : List Nat} (hx : Lw n x) (hy : Lw n y) (hn : n ≤ 3) (hl : x.length = y.length) (h8 : x.length ≤ 8) (h : octL x = octL y) : x = y := by
  have h1 := keyed8.inj (oct_key hx hn) (h ▸ oct_key hy hn)
  unfold octV octI at h1
  simp only [Value.agg.injEq, Array.mk.injEq, List.cons.injEq, Value.int.injEq, true_and, and_true] at h1
  obtain ⟨e0, e1, e2, e3, e4, e5, e6, e7⟩ := h1
  apply natsI_inj
  refine List.ext_getElem (by rw [natsI_len, natsI_len]; exact hl) fun j h1 h2 => ?_
  have g : (natsI x).getD j 0 = (natsI y).getD j 0 := by
    rw [natsI_len] at h1
    have : j = 0 ∨ j = 1 ∨ j = 2 ∨ j = 3 ∨ j = 4 ∨ j = 5 ∨ j = 6 ∨ j = 7 := by omega
    rcases this with rfl | rfl | rfl | rfl | rfl | rfl | rfl | rfl <;> assumption
  simpa [h1, h2] using g

theorem results_cell {fn : Func} {t : Tmp} {ty : TypeId} {tmps : Array Value} {P : Program} {w : World} {ad : Addr} {v : Value} (h : fn.results = #[.cell t ty]) (hp : tmps.getD t undef = .pointer (some ad)) (hl : (loadVar ty ad).run P w = .ok v w) :
    (results fn tmps).run P w = .ok v w := by
  rw [Array.getD_eq_getD_getElem?] at hp
  simp [results, h, asAddr, hp, hl]

/-- Cells written one behind the other. -/
def wrC (cur : Array Value) : Nat → List Value → Array Value
  | _, [] => cur
  | o, v :: vs => wrC (cur.setIfInBounds o v) (o + 1) vs

theorem setCells_new (w : World) (t : TypeId) : ∀ (vs : List Value) (o : Nat) (cur : Array Value), (w.alloc (.cells cur t)).setCells w.heap.size o vs = w.alloc (.cells (wrC cur o vs) t)
  | [], _, _ => rfl
  | v :: vs, o, cur => by
    have e : (w.alloc (.cells cur t)).setCell ⟨w.heap.size, o, none⟩ v = w.alloc (.cells (cur.setIfInBounds o v) t) := by simp [go_sem]
    show ((w.alloc (.cells cur t)).setCell ⟨w.heap.size, o, none⟩ v).setCells w.heap.size (o + 1) vs = _
    rw [e]
    exact setCells_new w t vs (o + 1) _

def zero8 : Array Value := #[.int .i64 0, .int .i64 0, .int .i64 0, .int .i64 0, .int .i64 0, .int .i64 0, .int .i64 0, .int .i64 0]

theorem wrC_oct : ∀ (x : List Int), x.length ≤ 8 → wrC zero8 0 (ints x) = octI x
  | [], _ => by simp [wrC, ints, octI, zero8]
  | [_], _ => by simp [wrC, ints, octI, zero8]
  | [_, _], _ => by simp [wrC, ints, octI, zero8]
  | [_, _, _], _ => by simp [wrC, ints, octI, zero8]
  | [_, _, _, _], _ => by simp [wrC, ints, octI, zero8]
  | [_, _, _, _, _], _ => by simp [wrC, ints, octI, zero8]
  | [_, _, _, _, _, _], _ => by simp [wrC, ints, octI, zero8]
  | [_, _, _, _, _, _, _], _ => by simp [wrC, ints, octI, zero8]
  | [_, _, _, _, _, _, _, _], _ => by simp [wrC, ints, octI, zero8]
  | _ :: _ :: _ :: _ :: _ :: _ :: _ :: _ :: _ :: _, h => by simp at h

theorem copy_oct {B : Nat} {x : List Int} {ao : Option Addr} {cap : Nat} {w : World} (hv : Sl B 3 w (.slice ao x.length cap) (ints x)) (hl : x.length ≤ 8) :
    (Builtin.copy_ #[22, 22] 3 #[.slice (some ⟨w.heap.size + 1, 0, none⟩) 8 8, .slice ao x.length cap]).run Try.prog ((w.alloc (.cells zero8 53)).alloc (.cells zero8 53)) = .ok (goInt x.length) ((w.alloc (.cells zero8 53)).alloc (.cells (octI x) 53)) := by
  obtain ⟨W1, hW1⟩ : ∃ W1, W1 = w.alloc (.cells zero8 53) := ⟨_, rfl⟩
  have hs1 : w.heap.size + 1 = W1.heap.size := by rw [hW1]; simp
  rw [← hW1, hs1]
  by_cases h0 : x.length = 0
  · have hx : x = [] := List.eq_nil_of_length_eq_zero h0
    subst hx
    exact run_copy_none _ 22 22 3 3 _ _ 8 8 0 cap Try.underlying22 (by kernel_rfl) rfl
  · obtain ⟨b, o, c2, hvv, -⟩ := Sl.at hv (by simp [ints]; omega)
    simp only [Value.slice.injEq] at hvv
    obtain ⟨rfl, -, rfl⟩ := hvv
    have h1 := run_copy_cells (P := Try.prog) (W1.alloc (.cells zero8 53)) 22 22 3 3 W1.heap.size 0 8 8 ⟨b, o, none⟩ x.length cap (ints x) Try.underlying22 (by kernel_rfl) (by rw [ints_length]; exact (Nat.min_eq_left hl).symm) (by
      have hv2 : Sl B 3 W1 (.slice (some ⟨b, o, none⟩) x.length cap) (ints x) := by
        rw [hW1]; exact hv.alloc _
      exact sl_cells hv2 _) (fun j hj => by
      rw [ints_length] at hj
      have : j = 0 ∨ j = 1 ∨ j = 2 ∨ j = 3 ∨ j = 4 ∨ j = 5 ∨ j = 6 ∨ j = 7 := by omega
      rcases this with rfl | rfl | rfl | rfl | rfl | rfl | rfl | rfl <;> simp [go_sem, zero8]) (fun j hj => by simp [go_sem]) (ints_oneCell' x)
    rw [h1, setCells_new, wrC_oct x hl, ints_length]

set_option maxRecDepth 100000 in
set_option maxHeartbeats 800000 in
theorem letters_any (B : Nat) (x : List Nat) (v : Value) (w : World) (hv : Sl B 3 w v (ints (natsI x))) (hl : x.length ≤ 8) :
    Calls Try.prog 30 #[v] w fun e w' => e = .returned (octV x) ∧ Below w.heap.size w w' := by
  obtain ⟨ao, cap, hvv, hlc, hcm⟩ := sl_open hv
  subst hvv
  have hcp := copy_oct hv (by rw [natsI_len]; exact hl)
  clear hv
  unfold octV
  unfold zero8 octI at hcp
  unfold octI
  rw [natsI_len] at hcp ⊢
  have HB : Hid (∀ a b, Below w.heap.size w ((w.alloc a).alloc b)) := fun a b => ((Below.refl _ _).alloc (Nat.le_refl _) a).alloc (by simp) b
  generalize (natsI x).getD 0 0 = a0 at *
  generalize (natsI x).getD 1 0 = a1 at *
  generalize (natsI x).getD 2 0 = a2 at *
  generalize (natsI x).getD 3 0 = a3 at *
  generalize (natsI x).getD 4 0 = a4 at *
  generalize (natsI x).getD 5 0 = a5 at *
  generalize (natsI x).getD 6 0 = a6 at *
  generalize (natsI x).getD 7 0 = a7 at *
  go_enter Try.func30, Try.ntmps30
  go_wp2
  refine bodyPost_ret (results_cell rfl rfl ?_) rfl ⟨rfl, HB.out _ _⟩
  exact run_loadVar_row (P := Try.prog) _ w.heap.size 53 53 _ (0, 0) (.array 8 3) ((Below.heap_alloc _ _ _ (by simp)).trans (heap_alloc_new w _)) arr8.hu rfl (by kernel_rfl)

end Go.Proofs.Ytnooabbcfhmjaaa
