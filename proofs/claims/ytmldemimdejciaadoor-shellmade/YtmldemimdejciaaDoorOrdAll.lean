import Derived.Test.YtmldemimdejciaaDoorOrdB
import Derived.Test.YtmldemimdejciaaDoorOwnA
import Derived.Lib.SliceRun
import Derived.Lib.LazyBuf
/- Lists that follow each other and are one: each once. -/
namespace Go.Proofs.YtmldemimdejciaaDoor
open Go.RowKit
attribute [local go_sem ↓] Go.wp_at_zero Go.wp_at_succ

/-- The places below k that are kept: the first, and each that is not what lies ahead of it. -/
def keptI (m : List (List Int)) : Nat → List Nat
  | 0 => []
  | k + 1 => if k = 0 ∨ m.getD k [] ≠ m.getD (k - 1) [] then keptI m k ++ [k] else keptI m k

def compL (m : List (List Int)) : List (List Int) := (keptI m m.length).map fun i => m.getD i []

theorem keptI_lt {m : List (List Int)} : ∀ {k i : Nat}, i ∈ keptI m k → i < k
  | 0, i, h => by simp [keptI] at h
  | k + 1, i, h => by
    simp only [keptI] at h
    split at h
    · rcases List.mem_append.1 h with h | h
      · have := keptI_lt h; omega
      · simp at h; omega
    · have := keptI_lt h; omega

theorem keptI_len (m : List (List Int)) : ∀ k, (keptI m k).length ≤ k
  | 0 => by simp [keptI]
  | k + 1 => by
    have := keptI_len m k
    simp only [keptI]
    split
    · simp; omega
    · omega

theorem keptI_all {m : List (List Int)} : ∀ k, (∀ i, 1 ≤ i → i < k → m.getD i [] ≠ m.getD (i - 1) []) → keptI m k = List.range k
  | 0, _ => by simp [keptI]
  | k + 1, h => by
    simp only [keptI]
    rw [keptI_all k (fun i h1 h2 => h i h1 (by omega)), List.range_succ, if_pos]
    rcases Nat.eq_zero_or_pos k with h0 | h0
    · exact Or.inl h0
    · exact Or.inr (h k h0 (by omega))

theorem compL_short {m : List (List Int)} (h : m.length < 2) : compL m = m := by
  match m, h with
  | [], _ => rfl
  | [x], _ => rfl
  | _ :: _ :: _, h => simp at h; omega

theorem mem_compL {m : List (List Int)} {r : List Int} : r ∈ compL m ↔ r ∈ m := by
  constructor
  · intro h
    simp only [compL, List.mem_map] at h
    obtain ⟨i, hi, rfl⟩ := h
    have := keptI_lt hi
    simp [this]
  · intro h
    obtain ⟨i, hi, rfl⟩ := List.mem_iff_getElem.1 h
    -- the first place of a run is kept
    have key : ∀ i, i < m.length → ∃ j ∈ keptI m (i + 1), m.getD j [] = m.getD i [] := by
      intro i
      induction i with
      | zero => intro _; exact ⟨0, by simp [keptI], rfl⟩
      | succ i ih =>
        intro hi
        by_cases hne : m.getD (i + 1) [] ≠ m.getD i []
        · exact ⟨i + 1, by rw [keptI, if_pos (Or.inr (by simpa using hne))]; simp, rfl⟩
        · have he : m.getD (i + 1) [] = m.getD i [] := Classical.not_not.1 hne
          obtain ⟨j, hj, hje⟩ := ih (by omega)
          refine ⟨j, ?_, by rw [hje, he]⟩
          rw [keptI]
          split
          · exact List.mem_append_left _ hj
          · exact hj
    have grow : ∀ a b, a ≤ b → ∀ j, j ∈ keptI m a → j ∈ keptI m b := by
      intro a b hab
      induction b with
      | zero => intro j hj; have : a = 0 := by omega
                subst this; exact hj
      | succ b ih =>
        intro j hj
        by_cases e : a = b + 1
        · subst e; exact hj
        · have := ih (by omega) j hj
          rw [keptI]
          split
          · exact List.mem_append_left _ this
          · exact this
    obtain ⟨j, hj, hje⟩ := key i hi
    simp only [compL, List.mem_map]
    refine ⟨j, grow (i + 1) m.length (by omega) j hj, ?_⟩
    rw [hje]; simp [hi]

/-- A call of two words through a function value. -/
theorem step_call2v {P : Program} {ops : Array Oper} {o : Oper} {a : Act} {w : World} {K : Act → World → Prop} {Q : Exit → Act → World → Prop} {E : Prop}
    (hg : o.guard = none) (f : FuncId) (z x y : Operand) (t s : TypeId) (hop : o.op = Op.call { callee := Callee.value z, args := #[x, y], argTypes := #[t, s] }) (v u : Value) (hz : a.eval z = Value.func (Fn.func f) #[] #[]) (hv : a.eval x = v) (hu : a.eval y = u) (hf : ∃ fn, P.funcs[f]? = some fn ∧ (fn.name == "runtime.NumGoroutine") = false ∧ fn.body.isNone = false)
    (hc : Calls P f #[v, u] w fun e w' => ∃ u, e = .returned u ∧ K (a.put o.dst u) w') :
    if Region.wanted o (yielded ops a.tmps) = true then Oper.wp P o a w K Q else E := by
  have hw : Region.wanted o (yielded ops a.tmps) = true := by simp [Region.wanted, hg]
  rw [if_pos hw]
  unfold Oper.wp
  obtain ⟨fn, f1, f2, f3⟩ := hf
  have e : (execOp a.eval o).run P w = .ok (.enter f #[v, u]) w := by
    have hcf : (callFunc f #[v, u]).run P w = .ok (.enter f #[v, u]) w := by
      unfold callFunc
      have g2 : ¬ fn.name = "runtime.NumGoroutine" := by simpa using f2
      have g3 : ¬ fn.body = none := by intro e; rw [e] at f3; simp at f3
      simp [f1, g2, g3]
    unfold execOp
    rw [hop]
    simp [resolve, invoke, hv, hu, hz, Deferred.ofValue, hcf]
  rw [e, Oper.upon_enter]
  refine hc.mono ?_
  rintro e w' ⟨u, rfl, h⟩
  exact h

/-- A row of rows in a block of its own, all its cells told. -/
structure RowM (w : World) (g cap : Nat) (f : Nat → Value) (m : List (List Int)) : Prop where
  row : w.rowIs g 26 cap f
  cap1 : m.length ≤ cap
  cap2 : cap ≤ 9223372036854775807
  inn : ∀ i, i < m.length → Sl 0 3 w (f i) (ints (m.getD i []))

theorem Fr.rowM {B : Nat} {w : World} {v : Value} {m : List (List Int)} (h : Fr B 26 3 w v m) (hm : 0 < m.length) : ∃ g cap f, v = .slice (some ⟨g, 0, none⟩) m.length cap ∧ B ≤ g ∧ g < w.heap.size ∧ RowM w g cap f m := by
  obtain ⟨vs, h1, h2, h3⟩ := h
  rcases h2.2 with ⟨_, h0⟩ | ⟨g, cap, cur, hv, hb, hh, hn, hc, hs, ht⟩
  · omega
  · refine ⟨g, cap, fun i => cur.toList.getD i (.slice none 0 0), hv, hb, lt_of_block hh, ⟨cur, hh, by omega, fun i hi => ?_⟩, hn, by unfold maxLen at hc; exact hc, fun i hi => ?_⟩
    · show cur[i]? = some (cur.toList.getD i (.slice none 0 0))
      rw [← Array.getElem?_toList, List.getD_eq_getElem?_getD, List.getElem?_eq_getElem (by simp; omega)]; rfl
    · have e : cur.toList.getD i (.slice none 0 0) = vs.getD i (.slice none 0 0) := by
        rw [← ht]
        simp only [List.getD_eq_getElem?_getD]
        rw [List.getElem?_take_of_lt (by omega)]
      rw [e]; exact h3 i hi

theorem RowM.fr {B : Nat} {w : World} {g cap : Nat} {f : Nat → Value} {m : List (List Int)} (h : RowM w g cap f m) (hB : B ≤ g) : Fr B 26 3 w (.slice (some ⟨g, 0, none⟩) m.length cap) m := by
  obtain ⟨⟨c, h1, h2, h3⟩, h4, h5, h6⟩ := h
  refine ⟨(List.range m.length).map f, by simp, ⟨by simp, Or.inr ⟨g, cap, c, rfl, hB, h1, h4, by unfold maxLen; exact h5, by omega, ?_⟩⟩, fun i hi => ?_⟩
  · apply List.ext_getElem?
    intro i
    by_cases hi : i < m.length
    · rw [List.getElem?_take_of_lt (by omega), Array.getElem?_toList, h3 i (by omega)]; simp [hi]
    · rw [List.getElem?_eq_none (by simp; omega), List.getElem?_eq_none (by simp; omega)]
  · have e : ((List.range m.length).map f).getD i (.slice none 0 0) = f i := by simp [hi]
    rw [e]; exact h6 i hi

theorem Tryd.zero26 : ∀ w, (zeroValue 26).run Tryd.prog w = .ok (.slice none 0 0) w := fun w => by kernel_rfl

end Go.Proofs.YtmldemimdejciaaDoor

/- The program's lists, each once. -/
namespace Go.Proofs.YtmldemimdejciaaDoor
open Go.RowKit
attribute [local go_sem ↓] Go.wp_at_zero Go.wp_at_succ

theorem RowM.drewN {w : World} {g cap : Nat} {f : Nat → Value} {m : List (List Int)} (h : RowM w g cap f m) (n : Nat) : RowM (w.drewN n) g cap f m := ⟨h.row, h.cap1, h.cap2, fun i hi => h.inn i hi⟩

theorem RowM.cell {w : World} {g cap i : Nat} {f : Nat → Value} {m : List (List Int)} (h : RowM w g cap f m) (hi : i < cap) : w.cell? ⟨g, i, none⟩ = some (f i) := h.row.cell hi

theorem Touch.setCells {g : Nat} {w : World} : ∀ (vs : List Value) (o : Nat) {w' : World}, Touch g w w' → Touch g w (w'.setCells g o vs)
  | [], _, _, h => h
  | v :: r, o, _, h => Touch.setCells r (o + 1) (h.setCell o v)

theorem Touch.sl {g : Nat} {w w' : World} {cur : Array Value} {v : Value} {xs : List Value} (h : Touch g w w') (hg : w.heap[g]? = some (.cells cur 26 (0, 0))) (hs : Sl 0 3 w v xs) : Sl 0 3 w' v xs :=
  hs.move fun b _ ht => by
    rcases ht with ht | ⟨c, ht⟩
    · omega
    · have hne : b ≠ g := by
        rintro rfl
        rw [hg] at ht
        simp at ht
      exact ⟨h.block b hne, Or.inr ⟨c, ht⟩⟩

/-- What the inner walk holds. -/
structure Cm (w : World) (g cap : Nat) (f : Nat → Value) (m : List (List Int)) (k j c : Nat) (f' : Nat → Value) (wr : World) : Prop where
  row : wr.rowIs g 26 cap f'
  len : c = (keptI m (k + j)).length
  done : ∀ i, i < c → f' i = f ((keptI m (k + j)).getD i 0)
  rest : ∀ i, k + j - 1 ≤ i → i < cap → f' i = f i
  le : c ≤ k + j - 1
  touch : Touch g w wr

theorem Cm.same {w wr : World} {g cap k j c : Nat} {f f' : Nat → Value} {m : List (List Int)} (h : Cm w g cap f m k j c f' wr) (hk : 1 ≤ k) (he : m.getD (k + j) [] = m.getD (k + j - 1) []) (n : Nat) : Cm w g cap f m k (j + 1) c f' (wr.drewN n) := by
  have e : keptI m (k + (j + 1)) = keptI m (k + j) := by
    show keptI m (k + j + 1) = _
    rw [keptI, if_neg]
    rintro (h0 | h0)
    · omega
    · exact h0 he
  refine ⟨h.row, by rw [e]; exact h.len, by rw [e]; exact h.done, fun i h1 h2 => h.rest i (by omega) h2, by have := h.le; omega, h.touch.drewN n⟩

theorem Cm.next {w wr : World} {g cap k j c : Nat} {f f' : Nat → Value} {m : List (List Int)} (h : Cm w g cap f m k j c f' wr) (he : m.getD (k + j) [] ≠ m.getD (k + j - 1) []) (hj1 : 1 ≤ j) (n : Nat) :
    Cm w g cap f m k (j + 1) (c + 1) (fun i => if i = c then f (k + j) else f' i) ((wr.drewN n).setCell ⟨g, c, none⟩ (f (k + j))) := by
  have e : keptI m (k + (j + 1)) = keptI m (k + j) ++ [k + j] := by
    show keptI m (k + j + 1) = _
    rw [keptI, if_pos (Or.inr he)]
  refine ⟨h.row.set c _, by rw [e]; simp [h.len], fun i hi => ?_, fun i h1 h2 => ?_, by have := h.le; omega, (h.touch.drewN n).setCell c _⟩
  · rw [e]
    by_cases hic : i = c
    · have h2 := h.len
      subst hic
      simp [h2]
    · have h2 := h.len
      simp only [hic, if_false]
      rw [h.done i (by omega)]
      simp only [List.getD_eq_getElem?_getD]; rw [List.getElem?_append_left (by omega)]
  · have h3 := h.le
    simp only [show i ≠ c by omega, if_false]
    exact h.rest i (by omega) h2

theorem Cm.fin {w wr : World} {g cap k j c B : Nat} {f f' : Nat → Value} {m : List (List Int)} (h : Cm w g cap f m k j c f' wr) (hr : RowM w g cap f m) (hj : k + j = m.length) (hB : B ≤ g) :
    Fr B 26 3 (wr.setCells g c (List.replicate (m.length - c) (.slice none 0 0))) (.slice (some ⟨g, 0, none⟩) c cap) (compL m) := by
  have hl : (compL m).length = c := by
    unfold compL
    rw [List.length_map, h.len, hj]
  have hle := h.le
  obtain ⟨cur, hcur, _⟩ := hr.row
  have hrow := rowIs_setCells (List.replicate (m.length - c) (Value.slice none 0 0)) c wr f' h.row
  have hrm : RowM (wr.setCells g c (List.replicate (m.length - c) (.slice none 0 0))) g cap (fun i => if c ≤ i ∧ i < c + (List.replicate (m.length - c) (Value.slice none 0 0)).length then (List.replicate (m.length - c) (Value.slice none 0 0))[i - c]?.getD default else f' i) (compL m) := by
    refine ⟨hrow, by have := hr.cap1; omega, hr.cap2, fun i hi => ?_⟩
    rw [hl] at hi
    simp only [show ¬ c ≤ i by omega, false_and, if_false]
    rw [h.done i hi]
    have hlen := h.len
    have hmem : (keptI m (k + j)).getD i 0 ∈ keptI m (k + j) := by simp [show i < (keptI m (k + j)).length by omega]
    have hlt := keptI_lt hmem
    have e : (compL m).getD i [] = m.getD ((keptI m (k + j)).getD i 0) [] := by
      rw [hj] at hlen ⊢
      unfold compL
      simp [show i < (keptI m m.length).length by omega]
    rw [e]
    exact (h.touch.setCells _ _).sl hcur (hr.inn _ (by omega))
  have := hrm.fr hB
  rw [hl] at this
  exact this

end Go.Proofs.YtmldemimdejciaaDoor

/- The program's lists, sorted. -/
namespace Go.Proofs.YtmldemimdejciaaDoor
open Go.Shelf Go.RowKit Go.Lib Go.Sort

theorem cmpL_self : ∀ x, cmpL x x = 0
  | [] => rfl
  | a :: x => by simp [cmpL, cmpL_self x]

theorem cmpL_trans : ∀ x y z, cmpL x y < 0 → cmpL y z < 0 → cmpL x z < 0
  | [], [], _, h, _ => by simp [cmpL] at h
  | [], b :: y, [], _, h => by simp [cmpL] at h
  | [], b :: y, c :: z, _, _ => by simp [cmpL]
  | a :: x, [], _, h, _ => by simp [cmpL] at h
  | a :: x, b :: y, [], _, h => by simp [cmpL] at h
  | a :: x, b :: y, c :: z, h1, h2 => by
    have ih := cmpL_trans x y z
    simp only [cmpL] at *
    split at h1 <;> split at h2 <;> split <;> (try split at h1) <;> (try split at h2) <;> (try split) <;> first | omega | (exact ih h1 h2)

theorem cmpL_ntrans : ∀ x y z, ¬ cmpL x y < 0 → ¬ cmpL y z < 0 → ¬ cmpL x z < 0
  | [], [], z, _, h => h
  | [], b :: y, _, h, _ => by simp [cmpL] at h
  | a :: x, [], [], _, _ => by simp [cmpL]
  | a :: x, [], c :: z, _, h => by simp [cmpL] at h
  | a :: x, b :: y, [], _, _ => by simp [cmpL]
  | a :: x, b :: y, c :: z, h1, h2 => by
    have ih := cmpL_ntrans x y z
    simp only [cmpL] at *
    split at h1 <;> split at h2 <;> split <;> (try split at h1) <;> (try split at h2) <;> (try split) <;> first | omega | (exact ih h1 h2)

/-- A list and the slice that reads so in w. -/
def RA (w : World) : Type := { p : Value × List Int // Sl 0 3 w p.1 (ints p.2) }

instance (w : World) : Inhabited (RA w) := ⟨⟨(.slice none 0 0, []), Sl.nil _ _ _⟩⟩

def RA.enc {w : World} (x : RA w) : Value := x.1.1
def RA.cf {w : World} (x y : RA w) : Int := cmpL x.1.2 y.1.2

theorem RA.swo (w : World) : SWO (ltOf (RA.cf (w := w))) where
  irrefl x := by simp [ltOf, RA.cf, cmpL_self]
  trans x y z h1 h2 := by
    exact decide_eq_true (cmpL_trans _ _ _ (of_decide_eq_true h1) (of_decide_eq_true h2))
  ntrans x y z h1 h2 := by
    exact decide_eq_false (cmpL_ntrans _ _ _ (of_decide_eq_false h1) (of_decide_eq_false h2))

theorem RA.one (w : World) : OneCell (RA.enc (w := w)) := fun x => by
  obtain ⟨ao, cap, h, _⟩ := x.2
  show x.1.1.oneCell' = true
  rw [h]; rfl

theorem sortWorld_block {α : Type} [Inhabited α] (enc : α → Value) (w : World) (g off q : Nat) (d : Array α) (os : Array Obj) (b : Nat) (hb : b < w.heap.size) (hne : b ≠ g) : (sortWorld enc w g off q d os).heap[b]? = w.heap[b]? := by
  show ((w.heap.modify g _) ++ os)[b]? = _
  rw [Array.getElem?_append_left (by simpa using hb), Array.getElem?_modify, if_neg (fun e => hne e.symm)]

theorem sortWorld_size {α : Type} [Inhabited α] (enc : α → Value) (w : World) (g off q : Nat) (d : Array α) (os : Array Obj) : w.heap.size ≤ (sortWorld enc w g off q d os).heap.size := by
  show w.heap.size ≤ ((w.heap.modify g _) ++ os).size
  simp

theorem sortWorld_sl {α : Type} [Inhabited α] {enc : α → Value} {w : World} {g off q : Nat} {d : Array α} {os : Array Obj} {cur : Array Value} {v : Value} {xs : List Value} (hg : w.heap[g]? = some (.cells cur 26 (0, 0))) (h : Sl 0 3 w v xs) : Sl 0 3 (sortWorld enc w g off q d os) v xs :=
  h.move fun b hl ht => by
    rcases ht with ht | ⟨c, ht⟩
    · omega
    · have hne : b ≠ g := by
        rintro rfl
        rw [hg] at ht
        simp at ht
      exact ⟨sortWorld_block _ _ _ _ _ _ _ b hl hne, Or.inr ⟨c, ht⟩⟩

theorem sortWorld_row {α : Type} [Inhabited α] (enc : α → Value) (w : World) (g q cap : Nat) (d : Array α) (os : Array Obj) (f : Nat → Value) (h : w.rowIs g 26 cap f) : (sortWorld enc w g 0 q d os).rowIs g 26 cap (fun k => if k < d.size then enc d[k]! else f k) := by
  obtain ⟨c, h1, h2, h3⟩ := h
  have hl := lt_of_block h1
  refine ⟨putCells enc 0 d c, ?_, by simp [putCells, h2], fun i hi => ?_⟩
  · show ((w.heap.modify g _) ++ os)[g]? = _
    rw [Array.getElem?_append_left (by simpa using hl), Array.getElem?_modify, if_pos rfl, h1]
    rfl
  · unfold putCells
    rw [Array.getElem?_mapIdx, h3 i hi]
    simp

theorem ra_at {w : World} (d : Array (RA w)) {i : Nat} (h : i < d.size) : (d.toList.map (fun x : RA w => x.1.2)).getD i [] = (d[i]!).1.2 := by
  rw [getElem!_pos d i h, List.getD_eq_getElem?_getD, List.getElem?_map, List.getElem?_eq_getElem (by simpa using h)]
  rfl

end Go.Proofs.YtmldemimdejciaaDoor

/- In order, each once; the rows around points. -/
namespace Go.Proofs.YtmldemimdejciaaDoor
open Go.RowKit
attribute [local go_sem ↓] Go.wp_at_zero Go.wp_at_succ

theorem compL_len (m : List (List Int)) : (compL m).length ≤ m.length := by
  unfold compL
  rw [List.length_map]; exact keptI_len _ _

/-- No later one is ahead of an earlier one. -/
def Asc (m : List (List Int)) : Prop := ∀ i j, i < j → j < m.length → ¬ cmpL (m.getD j []) (m.getD i []) < 0

/-- In order, each once: the same lists. -/
structure Inor (m' m : List (List Int)) : Prop where
  mem : ∀ r, r ∈ m' ↔ r ∈ m
  len : m'.length ≤ m.length
  srt : ∃ m0 : List (List Int), m0.Perm m ∧ Asc m0 ∧ m' = compL m0

theorem fr_open {B : Nat} {w : World} {v : Value} {m : List (List Int)} (h : Fr B 26 3 w v m) : ∃ ao cap, v = .slice ao m.length cap ∧ m.length ≤ cap ∧ cap ≤ 9223372036854775807 := mat_open (h.rws.mat (Nat.le_refl _))

end Go.Proofs.YtmldemimdejciaaDoor
