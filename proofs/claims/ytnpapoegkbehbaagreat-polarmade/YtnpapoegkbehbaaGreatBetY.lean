import Derived.Test.YtnpapoegkbehbaaGreatCycAll
import Derived.Test.YtnpapoegkbehbaaGreatMade1
import Derived.Test.YtnpapoegkbehbaaGreatRunD
import Derived.Test.YtnpapoegkbehbaaGreatRefA
import Derived.Test.YtnpapoegkbehbaaGreatHulAll
/- Cyclic's own loop. -/
namespace Go.Proofs.YtnpapoegkbehbaaGreat
open Go.RowKit

/-- Is one of the first k points too far? -/
def cfar (n d k : Nat) : Bool := (cpts n d k).any fun x => x.any (farB · 100)

theorem cfar_succ (n d k : Nat) (h : cfar n d k = false) : cfar n d (k + 1) = (pw ((k : Int) - (n : Int) / 2) d).any (farB · 100) := by
  unfold cfar at h ⊢; simp only [cpts, List.any_append, h, List.any_cons, List.any_nil, Bool.or_false, Bool.false_or]

theorem cfar_mono (n d : Nat) {k j : Nat} (hkj : k ≤ j) (h : cfar n d k = true) : cfar n d j = true := by
  induction j with
  | zero => have : k = 0 := by omega
            subst this; exact h
  | succ j ih =>
    by_cases e : k ≤ j
    · have := ih e
      unfold cfar at this ⊢; simp only [cpts, List.any_append, this, Bool.true_or]
    · have : k = j + 1 := by omega
      subst this; exact h

/-- The answer's error, dimension and points. -/
def cE (n d : Nat) : Int := if cfar n d n then 11 else 0
def cD (n d : Nat) : Int := if cfar n d n then 0 else d
def cP (n d : Nat) : List (List Int) := if cfar n d n then [] else cpts n d n

theorem cyc_far {n d : Nat} (h : cfar n d n = true) : cE n d = 11 ∧ cD n d = 0 ∧ cP n d = [] := by simp [cE, cD, cP, h]
theorem cyc_near {n d : Nat} (h : cfar n d n = false) : cE n d = 0 ∧ cD n d = d ∧ cP n d = cpts n d n := by simp [cE, cD, cP, h]

/-- What a loop that builds a polytope's points keeps: the result's cell, the polytope's cells, the rows. -/
structure Poly (N : Nat) (d : Int) (w wr : World) (v : Value) (m : List (List Int)) : Prop where
  res : wr.heap[N]? = some (.cells #[.int .i64 0, .slice none 0 0] 26 (0, 0))
  pol : wr.heap[N + 1]? = some (.cells #[.int .i64 d, v] 26 (0, 0))
  rows : Rws N 22 3 wr v m
  bel : Below N w wr

theorem Poly.step {N : Nat} {d : Int} {w wr w1 : World} {v : Value} {m : List (List Int)} (h : Poly N d w wr v m) (hb : Below wr.heap.size wr w1) : Poly N d w w1 v m := by
  have h1 := lt_of_block h.res
  have h2 := lt_of_block h.pol
  exact ⟨(hb.block _ h1).trans h.res, (hb.block _ h2).trans h.pol, h.rows.below hb (Nat.le_refl _), h.bel.trans (hb.mono (by omega))⟩

theorem two_setCell {w : World} {b : Nat} {x y u : Value} {t : TypeId} (h : w.heap[b]? = some (.cells #[x, y] t (0, 0))) : (w.setCell ⟨b, 1, none⟩ u).heap[b]? = some (.cells #[x, u] t (0, 0)) := by
  simp [World.setCell, Array.getElem?_modify, h]

theorem two_set {w : World} {b : Nat} {x y u v : Value} {t : TypeId} (h : w.heap[b]? = some (.cells #[x, y] t (0, 0))) :
    (w.setCell ⟨b, 0, none⟩ u).cell? ⟨b, 0, none⟩ = some u ∧ ((w.setCell ⟨b, 0, none⟩ u).setCell ⟨b, 1, none⟩ v).cell? ⟨b, 1, none⟩ = some v := by
  constructor
  · simp [World.cell?, World.setCell, Array.getElem?_modify, h]
  · simp [World.cell?, World.setCell, Array.getElem?_modify, h]

/-- Behind the append and the store of its answer. -/
theorem Poly.push {N : Nat} {d : Int} {w wr w1 : World} {v v' x : Value} {m : List (List Int)} {zs : List Int} {vs : List Value} (h : Poly N d w wr v m)
    (hx : Sl N 3 wr x (ints zs)) (h1 : vs.length = m.length) (h2 : wr.ownsRow N 22 1 v m.length vs) (h3 : ∀ i, i < m.length → Sl N 3 wr (vs.getD i (.slice none 0 0)) (ints (m.getD i [])))
    (ho : w1.ownsRow N 22 1 v' (m.length + 1) (vs ++ [x])) (hg : (wr.alloc (.cells #[x] 22)).grownBy w1 v.ownBlock) :
    (w1.heap[N + 1]? = some (.cells #[.int .i64 d, v] 26 (0, 0))) ∧ Poly N d w (w1.setCell ⟨N + 1, 1, none⟩ v') v' (m ++ [zs]) := by
  have n1 := lt_of_block h.res
  have n2 := lt_of_block h.pol
  have ht := owns_typed h2 (e1 := 26) (by decide)
  have hsz : (wr.alloc (.cells #[x] 22)).heap.size = wr.heap.size + 1 := by simp
  have g1 : w1.heap[N]? = some (.cells #[.int .i64 0, .slice none 0 0] 26 (0, 0)) := by
    rw [hg.block N (by omega) (fun e => (ht N e.symm).2 _ h.res), Below.heap_alloc _ _ _ n1]; exact h.res
  have g2 : w1.heap[N + 1]? = some (.cells #[.int .i64 d, v] 26 (0, 0)) := by
    rw [hg.block (N + 1) (by omega) (fun e => (ht (N + 1) e.symm).2 _ h.pol), Below.heap_alloc _ _ _ n2]; exact h.pol
  have hr : Rws N 22 3 w1 v' (m ++ [zs]) := Rws.push (by decide) h1 (h2.alloc _) (fun i hi => (h3 i hi).alloc _) (hx.alloc _) ho hg
  refine ⟨g2, ⟨?_, two_setCell g2, ?_, ?_⟩⟩
  · rw [Below.heap_setCell _ _ _ _ (by simp)]; exact g1
  · obtain ⟨us, u1, u2, u3⟩ := hr
    refine ⟨us, u1, ownsRow_setCell_other u2 (fun e => ?_) _, fun i hi => (u3 i hi).setCell _ ⟨by simp, fun cur => by simp only; rw [g2]; simp⟩⟩
    exact (owns_typed u2 (e1 := 26) (by decide) _ e).2 _ g2
  · refine ((h.bel.alloc (by omega) _).grown hg (by omega) (fun k hk => (ht k hk).1)).setCell (by simp) _

theorem Poly.done {N : Nat} {d : Int} {w wr : World} {v : Value} {m : List (List Int)} (h : Poly N d w wr v m) (a b : Value) :
    Mat N 22 3 ((wr.setCell ⟨N, 0, none⟩ a).setCell ⟨N, 1, none⟩ b) v m := by
  obtain ⟨vs, h1, h2, h3⟩ := h.rows.mat (Nat.le_refl _)
  have g0 := h.res
  have g1 : (wr.setCell ⟨N, 0, none⟩ a).heap[N]? = some (.cells #[a, .slice none 0 0] 26 (0, 0)) := by simp [World.setCell, Array.getElem?_modify, g0]
  have k0 : ∀ e, e ≠ 26 → ∀ cur, wr.heap[N]? ≠ some (.cells cur e (0, 0)) := by
    intro e he cur; rw [g0]; simp; intro _ h; exact absurd h.symm he
  have k1 : ∀ e, e ≠ 26 → ∀ cur, (wr.setCell ⟨N, 0, none⟩ a).heap[N]? ≠ some (.cells cur e (0, 0)) := by
    intro e he cur; rw [g1]; simp; intro _ h; exact absurd h.symm he
  exact ⟨vs, h1, (h2.setCell _ ⟨Nat.le_refl _, k0 22 (by decide)⟩).setCell _ ⟨Nat.le_refl _, k1 22 (by decide)⟩,
    fun i hi => ((h3 i hi).setCell _ ⟨Nat.le_refl _, k0 3 (by decide)⟩).setCell _ ⟨Nat.le_refl _, k1 3 (by decide)⟩⟩

end Go.Proofs.YtnpapoegkbehbaaGreat

/- The polytope of raw numbers: what its walk keeps. -/
namespace Go.Proofs.YtnpapoegkbehbaaGreat
open Go.RowKit
attribute [local go_sem ↓] Go.wp_at_zero Go.wp_at_succ

/-- A polytope's cells at block R, and its rows. -/
structure PS (N R : Nat) (d : Int) (w wr : World) (v : Value) (m : List (List Int)) : Prop where
  pol : wr.heap[R]? = some (.cells #[.int .i64 d, v] 26 (0, 0))
  rows : Fr N 22 3 wr v m
  bel : Below N w wr
  nR : N ≤ R

theorem PS.step {N R : Nat} {d : Int} {w wr w1 : World} {v : Value} {m : List (List Int)} (h : PS N R d w wr v m) (hb : Below wr.heap.size wr w1) : PS N R d w w1 v m := by
  have h2 := lt_of_block h.pol
  have h3 := h.nR
  exact ⟨(hb.block _ h2).trans h.pol, h.rows.below hb (Nat.le_refl _), h.bel.trans (hb.mono (by omega)), h.nR⟩

theorem PS.push {N R : Nat} {d : Int} {w wr w1 : World} {v v' x : Value} {m : List (List Int)} {zs : List Int} {vs : List Value} (h : PS N R d w wr v m)
    (hx : Sl 0 3 wr x (ints zs)) (h1 : vs.length = m.length) (h2 : wr.ownsRow N 22 1 v m.length vs) (h3 : ∀ i, i < m.length → Sl 0 3 wr (vs.getD i (.slice none 0 0)) (ints (m.getD i [])))
    (ho : w1.ownsRow N 22 1 v' (m.length + 1) (vs ++ [x])) (hg : (wr.alloc (.cells #[x] 22)).grownBy w1 v.ownBlock) :
    (w1.heap[R]? = some (.cells #[.int .i64 d, v] 26 (0, 0))) ∧ PS N R d w (w1.setCell ⟨R, 1, none⟩ v') v' (m ++ [zs]) := by
  have n2 := lt_of_block h.pol
  have hnR := h.nR
  have ht := owns_typed h2 (e1 := 26) (by decide)
  have hsz : (wr.alloc (.cells #[x] 22)).heap.size = wr.heap.size + 1 := by simp
  have g2 : w1.heap[R]? = some (.cells #[.int .i64 d, v] 26 (0, 0)) := by
    rw [hg.block R (by omega) (fun e => (ht R e.symm).2 _ h.pol), Below.heap_alloc _ _ _ n2]; exact h.pol
  have hr : Fr N 22 3 w1 v' (m ++ [zs]) := Fr.push (by decide) h1 (h2.alloc _) (fun i hi => (h3 i hi).alloc _) (hx.alloc _) ho hg
  refine ⟨g2, ⟨two_setCell g2, ?_, ?_, hnR⟩⟩
  · obtain ⟨us, u1, u2, u3⟩ := hr
    refine ⟨us, u1, ownsRow_setCell_other u2 (fun e => ?_) _, fun i hi => (u3 i hi).setCell _ ⟨Nat.zero_le _, fun cur => by simp only; rw [g2]; simp⟩⟩
    exact (owns_typed u2 (e1 := 26) (by decide) _ e).2 _ g2
  · refine ((h.bel.alloc (by omega) _).grown hg (by omega) (fun k hk => (ht k hk).1)).setCell hnR _

/-- The corners of a small simplex. -/
def spk (n k : Nat) : List Int := (List.range n).map fun j => if j = k then 1 + ((k % 2 : Nat) : Int) else 0
def zerosL (n : Nat) : List Int := (List.range n).map fun _ => 0

def polyL (n : Nat) (m : List (List Int)) : List (List Int) := m ++ [zerosL n] ++ (List.range n).map (spk n)

end Go.Proofs.YtnpapoegkbehbaaGreat

/- Two lists, added. -/
namespace Go.Proofs.YtnpapoegkbehbaaGreat
open Go.RowKit
attribute [local go_sem ↓] Go.wp_at_zero Go.wp_at_succ

def addL (a b : List Int) : List Int := (List.range a.length).map fun i => a.getD i 0 + b.getD i 0

theorem addL_length (a b : List Int) : (addL a b).length = a.length := by simp [addL]

theorem addL_snoc (a b : List Int) (k : Nat) (h : k < a.length) : (addL a b).take (k + 1) = (addL a b).take k ++ [a.getD k 0 + b.getD k 0] := by
  rw [List.take_succ_eq_append_getElem (by rw [addL_length]; exact h)]
  congr 1
  simp [addL]

end Go.Proofs.YtnpapoegkbehbaaGreat

/- What is between two points; what lies far out. -/
namespace Go.Proofs.YtnpapoegkbehbaaGreat
open Lin

theorem full_of_span {d : Nat} {P : List (List Int)} (hP : ∀ y ∈ P, y.length = d) (h : ∀ c : Nat → Int, (∀ y ∈ P, ∀ z ∈ P, dot d c (V y) = dot d c (V z)) → ∀ i, i < d → c i = 0) : (pickL d (diffL P)).length = d := by
  have hgr := pick_greedy d (diffL P)
  have := (greedy_full hgr).2 (fun v hv => h v fun y hy z hz => by
    have key : ∀ y ∈ P, dot d v (V y) = dot d v (V (P.getD 0 [])) := fun y hy => by
      cases hPe : P with
      | nil => rw [hPe] at hy; simp at hy
      | cons p0 P' =>
        rw [hPe] at hy
        rcases List.mem_cons.1 hy with rfl | hy
        · rfl
        · have h1 := hv (V (subL y p0)) (mem_fm.2 ⟨_, by rw [hPe]; simp only [diffL, List.drop_succ_cons, List.drop_zero]; exact List.mem_map.2 ⟨y, hy, rfl⟩, rfl⟩)
          rw [dot_comm, dot_subL v (hP y (by rw [hPe]; simp [hy]))] at h1
          show dot d v (V y) = dot d v (V p0)
          omega
    rw [key y hy, key z hz])
  rw [fm_length] at this
  exact this

theorem V_addL {x y : List Int} {d i : Nat} (hx : x.length = d) (hi : i < d) : V (addL x y) i = V x i + V y i := by
  simp [V, addL, hx, hi]

theorem dot_addL {d : Nat} (c : Nat → Int) {x y : List Int} (hx : x.length = d) : dot d c (V (addL x y)) = dot d c (V x) + dot d c (V y) := by
  unfold dot
  rw [← sumN_add]
  exact sumN_congr fun i hi => by rw [V_addL hx hi, Int.mul_add]

def dblL (P : List (List Int)) : List (List Int) := P.map fun x => addL x x

theorem dot_spk {n k : Nat} (hk : k < n) (v : Nat → Int) : dot n v (V (spk n k)) = v k * (1 + ((k % 2 : Nat) : Int)) := by
  unfold dot
  rw [sumN_one hk (fun i hi hne => by simp [V, spk, hi, hne])]
  simp [V, spk, hk]

theorem dot_zeros (n : Nat) (v : Nat → Int) : dot n v (V (zerosL n)) = 0 := by
  unfold dot
  exact sumN_zero fun i hi => by simp [V, zerosL, hi]

theorem poly_len (n : Nat) (m : List (List Int)) : (polyL n m).length = m.length + 1 + n := by simp [polyL]; omega

theorem poly_box {n wd : Nat} {m : List (List Int)} (hm : Box n wd m) (hw : wd ≤ 15) : Box n 15 (polyL n m) := by
  intro r hr
  simp only [polyL, List.mem_append, List.mem_singleton, List.mem_map, List.mem_range] at hr
  rcases hr with (hr | rfl) | ⟨k, hk, rfl⟩
  · refine ⟨(hm r hr).1, fun z hz => ?_⟩
    have := (hm r hr).2 z hz
    omega
  · refine ⟨by simp [zerosL], fun z hz => ?_⟩
    simp only [zerosL, List.mem_map] at hz
    obtain ⟨_, _, rfl⟩ := hz
    omega
  · refine ⟨by simp [spk], fun z hz => ?_⟩
    simp only [spk, List.mem_map] at hz
    obtain ⟨j, _, rfl⟩ := hz
    have := Nat.mod_lt k (show 0 < 2 by decide)
    split <;> omega

theorem poly_span {n : Nat} {m : List (List Int)} (c : Nat → Int) (h : ∀ y ∈ polyL n m, ∀ z ∈ polyL n m, dot n c (V y) = dot n c (V z)) : ∀ i, i < n → c i = 0 := by
  intro i hi
  have h1 := h (spk n i) (by simp [polyL]; right; right; exact ⟨i, hi, rfl⟩) (zerosL n) (by simp [polyL])
  rw [dot_spk hi, dot_zeros] at h1
  rcases Int.mul_eq_zero.1 h1 with h2 | h2
  · exact h2
  · omega

theorem poly_good {n wd : Nat} {m : List (List Int)} (h1 : 1 ≤ n) (h4 : n ≤ 4) (hm : Box n wd m) (hw : wd ≤ 15) (hl : m.length ≤ 10) : Good n (polyL n m) := by
  have hb := poly_box hm hw
  refine ⟨h1, h4, by rw [poly_len]; omega, by rw [poly_len]; omega, fun r hr => ⟨(hb r hr).1, fun z hz => by have := (hb r hr).2 z hz; omega⟩, full_of_span (fun y hy => (hb y hy).1) (fun c hc => poly_span c hc)⟩

theorem dbl_good {n : Nat} {P : List (List Int)} (h1 : 1 ≤ n) (h4 : n ≤ 4) (hb : Box n 15 P) (h2 : 2 ≤ P.length) (h24 : P.length ≤ 24) (hs : ∀ c : Nat → Int, (∀ y ∈ P, ∀ z ∈ P, dot n c (V y) = dot n c (V z)) → ∀ i, i < n → c i = 0) : Good n (dblL P) := by
  have hl : ∀ y ∈ dblL P, y.length = n := fun y hy => by
    simp only [dblL, List.mem_map] at hy
    obtain ⟨x, hx, rfl⟩ := hy
    rw [addL_length]; exact (hb x hx).1
  refine ⟨h1, h4, by simp [dblL, h2], by simp [dblL, h24], fun r hr => ⟨hl r hr, fun z hz => ?_⟩, full_of_span hl (fun c hc => hs c fun y hy z hz => ?_)⟩
  · simp only [dblL, List.mem_map] at hr
    obtain ⟨x, hx, rfl⟩ := hr
    simp only [addL, List.mem_map, List.mem_range] at hz
    obtain ⟨i, hi, rfl⟩ := hz
    have := (hb x hx).2 _ (getD_mem hi)
    omega
  · have := hc (addL y y) (List.mem_map.2 ⟨y, hy, rfl⟩) (addL z z) (List.mem_map.2 ⟨z, hz, rfl⟩)
    rw [dot_addL c (hb y hy).1, dot_addL c (hb z hz).1] at this
    omega

theorem agn_dot {d : Nat} {r x : List Int} (hr : r.length = d + 1) (hx : x.length = d) : agn r x = cmpI (dot d (V r) (V x)) (r.getD d 0) := by
  unfold agn
  rw [hx, dotL_eq (d := d) (by rw [List.length_take]; omega), dot_congr (fun i hi => V_take hi) (fun _ _ => rfl)]

theorem whr_le {rows : List (List Int)} {x : List Int} (h : ∀ r ∈ rows, agn r x ≤ 0) : whr rows x ≤ 0 := by
  have : ∀ k, k ≤ rows.length → whr (rows.take k) x ≤ 0 := by
    intro k
    induction k with
    | zero => intro _; simp [whr]
    | succ k ih =>
      intro hk
      rw [whr_snoc _ _ _ (by omega)]
      have h1 := ih (by omega)
      have h2 := h (rows.getD k []) (by simp [show k < rows.length by omega])
      omega
  have h1 := this rows.length (Nat.le_refl _)
  rwa [List.take_length] at h1

theorem whr_one {rows : List (List Int)} {x r : List Int} (hr : r ∈ rows) (h : agn r x = 1) : whr rows x = 1 := by
  obtain ⟨i, hi, he⟩ := List.mem_iff_getElem.1 hr
  have hup : ∀ k, k ≤ rows.length → i < k → 1 ≤ whr (rows.take k) x := by
    intro k
    induction k with
    | zero => intro _ h; omega
    | succ k ih =>
      intro hk hik
      rw [whr_snoc _ _ _ (by omega)]
      by_cases hik2 : i < k
      · have := ih (by omega) hik2; omega
      · have : i = k := by omega
        subst this
        have h2 : rows.getD i [] = r := by rw [← he]; simp [hi]
        rw [h2, h]; omega
  have h1 := hup rows.length (Nat.le_refl _) hi
  have h2 := whr_bd rows x rows.length (Nat.le_refl _)
  rw [List.take_length] at h1 h2
  omega

theorem cmpI_le {a b : Int} (h : a ≤ b) : cmpI a b ≤ 0 := by
  unfold cmpI
  split
  · omega
  · split <;> omega

theorem cmpI_one {a b : Int} (h : b < a) : cmpI a b = 1 := by
  unfold cmpI
  rw [if_neg (by omega), if_pos h]

/-- A point of the polytope is not outside. -/
theorem where_in {d : Nat} {P P' rows : List (List Int)} (hg : Good d P) (hm : ∀ r, r ∈ P' ↔ r ∈ P) (hr : ∀ r, r ∈ rows ↔ r ∈ rowsC P' [] d P') {x : List Int} (hx : x ∈ P) : whr rows x ≤ 0 :=
  whr_le fun r h => by
    have ho := rowsC_fit hg.box hg.d1 (by have := hg.d4; omega) hm ((hr r).1 h)
    rw [agn_dot ho.len (hg.box x hx).1]
    exact cmpI_le (ho.all x hx)

/-- What is between two is not outside of the polytope of twice all. -/
theorem where_mid {d : Nat} {P P' rows : List (List Int)} (hg : Good d (dblL P)) (hb : ∀ y ∈ P, y.length = d) (hm : ∀ r, r ∈ P' ↔ r ∈ dblL P) (hr : ∀ r, r ∈ rows ↔ r ∈ rowsC P' [] d P') {x y : List Int} (hx : x ∈ P) (hy : y ∈ P) : whr rows (addL x y) ≤ 0 :=
  whr_le fun r h => by
    have ho := rowsC_fit hg.box hg.d1 (by have := hg.d4; omega) hm ((hr r).1 h)
    rw [agn_dot ho.len (by rw [addL_length]; exact hb x hx)]
    have h1 := ho.all (addL x x) (List.mem_map.2 ⟨x, hx, rfl⟩)
    have h2 := ho.all (addL y y) (List.mem_map.2 ⟨y, hy, rfl⟩)
    rw [dot_addL _ (hb x hx)] at h1
    rw [dot_addL _ (hb y hy)] at h2
    refine cmpI_le ?_
    rw [dot_addL _ (hb x hx)]
    omega

def farL (d : Nat) : List Int := (List.range d).map fun j => if j = 0 then 99 else 0

theorem exists_max (f : List Int → Int) : ∀ P : List (List Int), P ≠ [] → ∃ x ∈ P, ∀ y ∈ P, f y ≤ f x
  | [x], _ => ⟨x, by simp, fun y hy => by simp at hy; subst hy; exact Int.le_refl _⟩
  | x :: z :: P, _ => by
    obtain ⟨y, hy, h⟩ := exists_max f (z :: P) (by simp)
    by_cases hc : f x ≤ f y
    · exact ⟨y, List.mem_cons_of_mem _ hy, fun q hq => by
        rcases List.mem_cons.1 hq with rfl | hq
        · exact hc
        · exact h q hq⟩
    · exact ⟨x, by simp, fun q hq => by
        rcases List.mem_cons.1 hq with rfl | hq
        · exact Int.le_refl _
        · have := h q hq; omega⟩

/-- Far out is outside. -/
theorem where_far {d : Nat} {P P' rows : List (List Int)} (hg : Good d P) (hm : ∀ r, r ∈ P' ↔ r ∈ P) (hr : ∀ r, r ∈ rows ↔ r ∈ rowsC P' [] d P') : whr rows (farL d) = 1 := by
  have hd := hg.d1
  have hfl : (farL d).length = d := by simp [farL]
  have : ∃ r ∈ rowsC P' [] d P', r.getD d 0 < dot d (V r) (V (farL d)) := by
    refine Classical.byContradiction fun hn => ?_
    obtain ⟨x, hx, hmax⟩ := exists_max (fun y => dot d (unit 0) (V y)) P (by intro h; have := hg.n2; rw [h] at this; simp at this)
    have h1 := rows_tell hg hm (q := farL d) (fun r hr' => by
      rcases Int.lt_or_le (r.getD d 0) (dot d (V r) (V (farL d))) with h | h
      · exact absurd ⟨r, hr', h⟩ hn
      · exact h) hx hmax
    rw [dot_unit (by omega), dot_unit (by omega)] at h1
    have h2 : V (farL d) 0 = 99 := by simp [V, farL, show 0 < d by omega]
    have h3 := (hg.box x hx).2 (V x 0) (getD_mem (by rw [(hg.box x hx).1]; omega))
    omega
  obtain ⟨r, hr', hlt⟩ := this
  have ho := rowsC_fit hg.box hg.d1 (by have := hg.d4; omega) hm hr'
  refine whr_one ((hr r).2 hr') ?_
  rw [agn_dot ho.len hfl]
  exact cmpI_one hlt

theorem rows_fit {d : Nat} {P : List (List Int)} (hg : Good d P) : ∀ P' : List (List Int), (∀ r, r ∈ P' ↔ r ∈ P) → RowsFit d (rowsC P' [] d P') := fun _ hm r hr => by
  have ho := rowsC_fit hg.box hg.d1 (by have := hg.d4; omega) hm hr
  exact ⟨ho.len, ho.bd⟩

end Go.Proofs.YtnpapoegkbehbaaGreat
