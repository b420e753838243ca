import Derived.Test.YtmldemimdejciaaDoorLinB
import Derived.Deep.Onto
import Derived.Test.YtmldemimdejciaaDoorData
import Derived.Maps.AppendAt
import Derived.Test.YtmldemimdejciaaDoorRow1
/- Lists that the program makes: rows of the call's own. -/
namespace Go.Proofs.YtmldemimdejciaaDoor
open Go.RowKit

theorem owns_row {B b n : Nat} {e : TypeId} {w : World} {f : Nat → Value} {xs : List Value} (h : w.rowIs b e n f) (hB : B ≤ b) (hn : xs.length = n) (hm : n ≤ maxLen) (hx : ∀ i, i < n → xs[i]? = some (f i)) :
    w.ownsRow B e 1 (.slice (some ⟨b, 0, none⟩) n n) n xs := by
  obtain ⟨c, h1, h2, h3⟩ := h
  refine ⟨by omega, Or.inr ⟨b, n, c, rfl, hB, h1, Nat.le_refl _, hm, by omega, ?_⟩⟩
  apply List.ext_getElem?
  intro i
  by_cases hi : i < n
  · rw [List.getElem?_take_of_lt (by omega), hx i hi, Array.getElem?_toList]; exact h3 i hi
  · rw [List.getElem?_eq_none (by simp; omega), List.getElem?_eq_none (by omega)]

end Go.Proofs.YtmldemimdejciaaDoor

/- The program's normal where no difference is left: in one dimension. -/
namespace Go.Proofs.YtmldemimdejciaaDoor
open Go.RowKit Lin
attribute [local go_sem ↓] Go.wp_at_zero Go.wp_at_succ

def nil4 : Array Value := #[.slice none 0 0, .slice none 0 0, .int .i64 1, .int .i64 1]

end Go.Proofs.YtmldemimdejciaaDoor

/- The program's normal: a row of the call's own. -/
namespace Go.Proofs.YtmldemimdejciaaDoor
open Go.RowKit Lin
attribute [local go_sem ↓] Go.wp_at_zero Go.wp_at_succ

theorem low_len (l : List Int) : (low l).length = l.length := by simp [low]
theorem upr_len (l : List Int) : (upr l).length = l.length := by unfold upr; split <;> simp

end Go.Proofs.YtmldemimdejciaaDoor

/- Appending to a row of the call's own: what the old slice reads stays. -/
namespace Go.Proofs.YtmldemimdejciaaDoor
open Go.RowKit

theorem run_append_keep {P : Program} (w : World) (base : Nat) (t ty e : TypeId) (i : TypeInfo) (z : Value) (bytes : Nat) (ht : P.underlying t = some (.slice e)) (hi : P.info? e = some i) (hz : i.zero = some z)
    (hsize : i.size = 1) (hby : i.bytes = bytes) (hzs : z.cells.size = 1)
    (v : Value) (n : Nat) (xs : List Value) (hown : w.ownsRow base e 1 v n xs) (hn : 0 < n)
    (a : Addr) (c : Nat) (x : Value) (hnews : ∀ j u, [x][j]? = some u → w.cell? (a.add j) = some u) (h1 : ∀ u ∈ [x], u.oneCell' = true)
    (h63 : n + 1 ≤ maxLen) (hbytes : (n + 1) * bytes ≤ 140737488355328) (hbase : base ≤ w.heap.size) :
    ∃ v' w', (Builtin.append_ #[t, t] ty #[v, .slice (some a) 1 c]).run P w = .ok v' w' ∧ w'.ownsRow base e 1 v' (n + 1) (xs ++ [x]) ∧ w.grownBy w' v.ownBlock ∧ w'.ownsRow base e 1 v n xs := by
  have hl0 : xs.length = n := by simpa using hown.1
  have hsmall : n + 1 ≤ 9223372036854775807 := by unfold maxLen at h63; omega
  rcases hown.2 with ⟨_, h0⟩ | ⟨g, cap, cur, rfl, hbg, hg, hnc, hcm, hcs, htake⟩
  · omega
  · by_cases hroom : n + 1 ≤ cap
    · have hfit : n * i.size + [x].length ≤ cur.size := by rw [hsize]; simp; omega
      have hr := run_append_room (P := P) w t ty e i ht hi g n cap cur hg a 1 c [x] (by rw [hsize]; rfl) hnews h1 hroom hfit
      refine ⟨_, _, hr, ⟨by simp [hl0], .inr ⟨g, cap, _, rfl, hbg, setRow_heap w g cur _ e _ hg, hroom, hcm, ?_, ?_⟩⟩, ⟨rfl, rfl, rfl, by simp, fun k _ hk => setRow_other w g k _ (fun e => hk (by simp [Value.ownBlock, e]))⟩,
        ⟨by simp [hl0], .inr ⟨g, cap, _, rfl, hbg, setRow_heap w g cur _ e _ hg, hnc, hcm, ?_, ?_⟩⟩⟩
      · rw [hsize]; simp only [List.size_toArray, List.length_append, List.length_take, List.length_drop, Array.length_toList]
        simp; omega
      · rw [hsize, htake]
        have e1 : (n + 1) * 1 = (xs ++ [x]).length := by simp [hl0]
        rw [e1]
        exact List.take_left
      · rw [hsize]; simp only [List.size_toArray, List.length_append, List.length_take, List.length_drop, Array.length_toList]
        simp; omega
      · rw [hsize, htake, List.append_assoc]
        have e1 : n * 1 = xs.length := by simp [hl0]
        rw [e1]
        exact List.take_left
    · have holds : ∀ j u, xs[j]? = some u → w.cell? ((⟨g, 0, none⟩ : Addr).add j) = some u := hown.cells (g := g) rfl
      have hr := run_append_grow (P := P) w t ty e i z ht hi hz ⟨g, 0, none⟩ n cap xs (by rw [hsize]; omega) holds a 1 c [x] (by rw [hsize]; rfl) hnews (by omega) (by omega) (growslice_fits (by omega) (by rw [hby]; exact hbytes))
      have hge := grownCap_ge w (n + 1) cap e
      have hcm2 : grownCap w (n + 1) cap e ≤ maxLen := grownCap_le_maxLen w (n + 1) cap e h63
      have hgl : g < w.heap.size := by
        rcases Nat.lt_or_ge g w.heap.size with h | h
        · exact h
        · rw [Array.getElem?_eq_none h] at hg; cases hg
      refine ⟨_, _, hr, ⟨by simp [hl0], .inr ⟨w.heap.size, _, _, rfl, hbase, heap_alloc_new w.drew _, hge, hcm2, ?_, ?_⟩⟩, ⟨rfl, rfl, rfl, by simp, fun k hk _ => heap_alloc_old w.drew _ hk⟩,
        ⟨by simp [hl0], .inr ⟨g, cap, cur, rfl, hbg, (heap_alloc_old w.drew _ hgl).trans hg, hnc, hcm, hcs, htake⟩⟩⟩
      · simp only [Array.size_append, List.size_toArray, size_zeroCells, hzs, hl0]
        simp
        omega
      · simp only [Array.toList_append, List.append_assoc]
        rw [← List.append_assoc]
        have e1 : (n + 1) * 1 = (xs ++ [x]).length := by simp [hl0]
        rw [e1]
        exact List.take_left

theorem wpList_append_keep {P : Program} (w : World) {ops : Array Oper} {rest : List Oper} {o : Oper} {a : Act} {Q : Exit → Act → World → Prop} (hgd : o.guard = none) (s x : Operand) (t : TypeId)
    (ho : o.op = .call { callee := .builtin .append, args := #[s, x], argTypes := #[t, t] })
    (base : Nat) (e : TypeId) (i : TypeInfo) (z : Value) (bytes : Nat) (ht : P.underlying t = some (.slice e)) (hi : P.info? e = some i) (hz : i.zero = some z)
    (hsize : i.size = 1) (hby : i.bytes = bytes) (hzs : z.cells.size = 1)
    (v : Value) (n : Nat) (xs : List Value) (hs : a.eval s = v) (hown : w.ownsRow base e 1 v n xs) (hn : 0 < n)
    (ad : Addr) (c : Nat) (y : Value) (hx : a.eval x = .slice (some ad) 1 c) (hnews : ∀ j u, [y][j]? = some u → w.cell? (ad.add j) = some u) (h1 : ∀ u ∈ [y], u.oneCell' = true)
    (h63 : n + 1 ≤ maxLen) (hbytes : (n + 1) * bytes ≤ 140737488355328) (hbase : base ≤ w.heap.size)
    (h : ∀ v' w', w'.ownsRow base e 1 v' (n + 1) (xs ++ [y]) → w.grownBy w' v.ownBlock → w'.ownsRow base e 1 v n xs → wpList P ops Q rest (a.put o.dst v') w') :
    wpList P ops Q (o :: rest) a w := by
  refine wpList_plain hgd fun K hK => ?_
  obtain ⟨v', w', hr, h2, h3, h4⟩ := run_append_keep (P := P) w base t o.type e i z bytes ht hi hz hsize hby hzs v n xs hown hn ad c y hnews h1 h63 hbytes hbase
  unfold Oper.wp execOp
  simp only [ho, resolve, invoke, builtin, Sem.run_bind, Sem.run_pure, Result.andThen_ok, List.map_toArray, List.map_cons, List.map_nil, hs, hx, hr]
  exact hK _ _ (h v' w' h2 h3 h4)

end Go.Proofs.YtmldemimdejciaaDoor

/- The row through chosen points. -/
namespace Go.Proofs.YtmldemimdejciaaDoor
open Go.RowKit
attribute [local go_sem ↓] Go.wp_at_zero Go.wp_at_succ

/-- The row that chosen points meet, if there is one alone and no point lies beyond it. -/
def rowT (t P : List (List Int)) : Option (List Int) :=
  if normB t.length (diffL t) = true then
    if (P.any fun x => decide (dotL (normL t.length (diffL t)) (t.getD 0 []) < dotL (normL t.length (diffL t)) x)) = false then some (normL t.length (diffL t) ++ [dotL (normL t.length (diffL t)) (t.getD 0 [])])
    else if (P.any fun x => decide (dotL (normL t.length (diffL t)) x < dotL (normL t.length (diffL t)) (t.getD 0 []))) = false then some ((normL t.length (diffL t) ++ [dotL (normL t.length (diffL t)) (t.getD 0 [])]).map fun z => -z)
    else none
  else none

theorem getD_mem {l : List Int} {i : Nat} (h : i < l.length) : l.getD i 0 ∈ l := by simp [h]

theorem diff_mx {d : Nat} {t : List (List Int)} (h : Box d 30 t) (h1 : 1 ≤ d) (h5 : d ≤ 5) : Mx d 60 (diffL t) := by
  refine ⟨fun r hr => ?_, fun r hr z hz => ?_, h5, h1, by decide, Nat.le_trans (fb_mono (by decide) h5) (by decide)⟩
  · simp only [diffL, List.mem_map] at hr
    obtain ⟨x, hx, rfl⟩ := hr
    rw [subL_length]; exact (h x (List.mem_of_mem_drop hx)).1
  · simp only [diffL, List.mem_map] at hr
    obtain ⟨x, hx, rfl⟩ := hr
    simp only [subL, List.mem_map, List.mem_range] at hz
    obtain ⟨i, hi, rfl⟩ := hz
    have h1 := (h x (List.mem_of_mem_drop hx)).2 (x.getD i 0) (by simp [hi])
    have h2 : -(30 : Int) ≤ (t.getD 0 []).getD i 0 ∧ (t.getD 0 []).getD i 0 ≤ 30 := by
      by_cases ht : 0 < t.length
      · have h3 := h (t.getD 0 []) (by simp [ht])
        by_cases hi2 : i < (t.getD 0 []).length
        · exact h3.2 _ (getD_mem hi2)
        · rw [show (t.getD 0 []).getD i 0 = 0 by simp only [List.getD_eq_getElem?_getD]; rw [List.getElem?_eq_none (by simpa using hi2)]; rfl]; omega
      · have : t = [] := List.eq_nil_of_length_eq_zero (by omega)
        subst this; simp
    omega

theorem muL_len (c : Nat) (rows : List (List Int)) : (muL c rows).length = c := by simp [muL]

theorem norm_len {c : Nat} {m : List (List Int)} (h : normB c m = true) : (normL c m).length = c := by
  unfold normB at h
  unfold normL
  rw [if_pos (of_decide_eq_true h), upr_len, low_len, muL_len]

theorem upr_bd {l : List Int} {b : Nat} (h : ∀ z ∈ l, z.natAbs ≤ b) : ∀ z ∈ Lin.upr l, z.natAbs ≤ b := by
  intro z hz
  unfold Lin.upr at hz
  split at hz
  · simp only [List.mem_map] at hz
    obtain ⟨y, hy, rfl⟩ := hz
    rw [Int.natAbs_neg]; exact h y hy
  · exact h z hz

theorem mu_small {c : Nat} {m : List (List Int)} (hx : Mx c 60 m) (hl : (pickL c m).length + 1 = c) : ∀ z ∈ muL c (pickL c m), z.natAbs ≤ 1000000000000 := by
  intro z hz
  simp only [muL, List.mem_map, List.mem_range] at hz
  obtain ⟨k, hk, rfl⟩ := hz
  unfold Lin.mu
  rw [Int.natAbs_mul]
  have h2 : (Lin.ngo k).natAbs = 1 := by rw [ngo_mod]; by_cases e : k % 2 = 1 <;> simp [e]
  rw [h2, Nat.one_mul, fm_length]
  have h5 : Lin.fb 60 5 = 93312000000 := by decide
  have m2 : Lin.fb 60 (pickL c m).length ≤ Lin.fb 60 5 := fb_mono (by decide) (by have := hx.c5; omega)
  have hb := Lin.od_bd (n := (pickL c m).length) (B := 60) (Lin.cols (fm (pickL c m)) (Lin.skp k)) (fun _ => false) (fun r hr j hj => by
    simp only [Lin.cols, fm, List.mem_map] at hr
    obtain ⟨_, ⟨l, hl', rfl⟩, rfl⟩ := hr
    by_cases hi : Lin.skp k j < l.length
    · exact hx.bd l (pickL_mem hl') _ (by simp [hi])
    · simp only [List.getD_eq_getElem?_getD]; rw [List.getElem?_eq_none (by omega)]; simp) (by rw [Lin.cu_none]; simp [Lin.cols, fm])
  have hl2 : (Lin.cols (fm (pickL c m)) (Lin.skp k)).length = (pickL c m).length := by simp [Lin.cols, fm]
  rw [hl2] at hb
  omega

theorem norm_bd {c : Nat} {m : List (List Int)} (hx : Mx c 60 m) : ∀ z ∈ normL c m, z.natAbs ≤ 1000000000000 := by
  intro z hz
  unfold normL at hz
  split at hz
  · rename_i hl
    exact upr_bd (low_bd (mu_small hx hl)) z hz
  · simp at hz

theorem box_small {d : Nat} {P : List (List Int)} (h : Box d 30 P) {x : List Int} (hx : x ∈ P) : ∀ z ∈ x, z.natAbs ≤ 1000 := fun z hz => by
  have := (h x hx).2 z hz; omega

/-- A world with one number more, in a block of its own. -/
def Bx (W3 W4 : World) (bv : Int) : Prop := W4.cell? ⟨W3.heap.size, 0, none⟩ = some (.int .i64 bv) ∧ Below W3.heap.size W3 W4 ∧ W4.heap.size = W3.heap.size + 1

theorem bx1 (W3 : World) (k : Nat) (bv : Int) : Bx W3 (((W3.drewN k).alloc (.cells #[.int .i64 0] 3)).setCell ⟨W3.heap.size, 0, none⟩ (.int .i64 bv)) bv := by
  have gen : ∀ W : World, ((W.alloc (.cells #[.int .i64 0] 3)).setCell ⟨W.heap.size, 0, none⟩ (.int .i64 bv)).cell? ⟨W.heap.size, 0, none⟩ = some (.int .i64 bv) := fun W => by simp [go_sem]
  have h0 : Below W3.heap.size W3 (W3.drewN k) := ⟨rfl, rfl, rfl, Nat.le_refl _, fun _ _ => rfl⟩
  refine ⟨gen (W3.drewN k), ?_, ?_⟩
  · exact (h0.alloc (Nat.le_refl _) _).setCell (Nat.le_refl _) _
  · have : ∀ W : World, ((W.alloc (.cells #[.int .i64 0] 3)).setCell ⟨W.heap.size, 0, none⟩ (.int .i64 bv)).heap.size = W.heap.size + 1 := fun W => by simp [World.setCell]
    exact this (W3.drewN k)

theorem bx2 (W3 : World) (k : Nat) (bv : Int) : Bx W3 (((W3.alloc (.cells #[.int .i64 0] 3)).drewN k).setCell ⟨W3.heap.size, 0, none⟩ (.int .i64 bv)) bv := bx1 W3 k bv

theorem dot_small {a x : List Int} (h : Sm a x) : (dotL a x).natAbs ≤ 8000000000000000 := by
  have h1 := sum_sm h a.length (Nat.le_refl _)
  have h2 := h.2.1
  unfold dotL
  omega

end Go.Proofs.YtmldemimdejciaaDoor

/- What is done with each choice: its row, if there is one, is kept. -/
namespace Go.Proofs.YtmldemimdejciaaDoor
open Go.RowKit
attribute [local go_sem ↓] Go.wp_at_zero Go.wp_at_succ

/-- All below M is as it was, but block R. -/
structure But (M R : Nat) (w w' : World) : Prop where
  os : w'.os = w.os
  tape : w'.tape = w.tape
  output : w'.output = w.output
  size : w.heap.size ≤ w'.heap.size
  block : ∀ b, b < M → b ≠ R → w'.heap[b]? = w.heap[b]?

theorem But.of_below {M R : Nat} {w w' : World} (h : Below M w w') : But M R w w' := ⟨h.os, h.tape, h.output, h.size, fun b hb _ => h.block b hb⟩

theorem But.setCell {M R j : Nat} {w w' : World} (h : But M R w w') (u : Value) : But M R w (w'.setCell ⟨R, j, none⟩ u) :=
  ⟨h.os, h.tape, h.output, by simp [World.setCell, h.size], fun b hb hne => (Below.heap_setCell _ _ _ _ hne).trans (h.block b hb hne)⟩

theorem set_one {w : World} {b : Nat} {x u : Value} {t : TypeId} (h : w.heap[b]? = some (.cells #[x] t (0, 0))) : (w.setCell ⟨b, 0, none⟩ u).heap[b]? = some (.cells #[u] t (0, 0)) := by
  simp [World.setCell, Array.getElem?_modify, h]

theorem owns_set {B R n j : Nat} {e : TypeId} {w : World} {v u : Value} {xs : List Value} (h : w.ownsRow B e 1 v n xs) (hR : R < B) : (w.setCell ⟨R, j, none⟩ u).ownsRow B e 1 v n xs := by
  refine ⟨h.1, ?_⟩
  rcases h.2 with h2 | ⟨k, cap, cur, rfl, hb, hh, r⟩
  · exact Or.inl h2
  · exact Or.inr ⟨k, cap, cur, rfl, hb, (Below.heap_setCell w _ u k (by show k ≠ R; omega)).trans hh, r⟩

/-- Behind a store into a block of another element type. -/
theorem Fr.set {B b j : Nat} {t : TypeId} {w : World} {v u : Value} {m : List (List Int)} {cur : Array Value} (h : Fr B 26 3 w v m) (hb : b < B) (hR : w.heap[b]? = some (.cells cur t (0, 0))) (ht : t ≠ 3) : Fr B 26 3 (w.setCell ⟨b, j, none⟩ u) v m := by
  obtain ⟨vs, h1, h2, h3⟩ := h
  refine ⟨vs, h1, owns_set h2 hb, fun i hi => (h3 i hi).setCell u ⟨Nat.zero_le _, fun cur' e => ?_⟩⟩
  have e' : w.heap[b]? = some (.cells cur' 3 (0, 0)) := e
  rw [hR] at e'
  simp at e'
  exact ht e'.2

end Go.Proofs.YtmldemimdejciaaDoor

/- Rows of the call's own, from a lesser block on. -/
namespace Go.Proofs.YtmldemimdejciaaDoor
open Go.RowKit

theorem Fr.mono {B B' : Nat} {w : World} {v : Value} {m : List (List Int)} (h : Fr B 26 3 w v m) (hB : B' ≤ B) : Fr B' 26 3 w v m := by
  obtain ⟨vs, h1, h2, h3⟩ := h
  exact ⟨vs, h1, h2.mono hB, h3⟩

end Go.Proofs.YtmldemimdejciaaDoor
