import Derived.Test.YtnalejokjapofaaEmB
import Derived.Test.YtnalejokjapofaaEmp1
import Derived.Laws.AppendOwnNone
/- The document's CutMay (of cuts that may be) and GoalMay. -/
namespace Go.Proofs.Ytnalejokjapofaa
open Go.RowKit Lin
attribute [local go_sem ↓] Go.wp_at_zero Go.wp_at_succ

/-- A cut in a box of its own. -/
theorem cut_box (w : World) (d : Nat) (v : Value) : ∃ W0, W0 = w.alloc (.cells #[.int .i64 d, v] 41) ∧ Below w.heap.size w W0 ∧ W0.heap.size = w.heap.size + 1 ∧ ∀ W', Below W0.heap.size W0 W' → W'.cell? ⟨w.heap.size, 0, none⟩ = some (.int .i64 d) ∧ W'.cell? ⟨w.heap.size, 1, none⟩ = some v := by
  refine ⟨_, rfl, alloc_keep _ _, size_alloc _ _, fun W' hB => ?_⟩
  have h0 := (hB.block w.heap.size (by rw [size_alloc]; omega)).trans (alloc_new w (.cells #[.int .i64 d, v] 41))
  exact ⟨by simp [World.cell?, h0], by simp [World.cell?, h0]⟩

theorem far20 {r : List Int} (h : ∀ z ∈ r, z.natAbs ≤ 20) : r.any (farB · 20) = false := far_no (n := 20) h

/-- A row with nothing behind. -/
def zlR (d : Nat) (r : List Int) : List Int := r.take d ++ [0]
theorem zlR_len {d : Nat} {r : List Int} (h : r.length = d + 1) : (zlR d r).length = d + 1 := by simp [zlR, h]
theorem zlR_get {d i : Nat} {r : List Int} (h : r.length = d + 1) (hi : i < d + 1) : (zlR d r).getD i 0 = if i = d then 0 else r.getD i 0 := by
  unfold zlR
  by_cases e : i = d
  · subst e
    rw [if_pos rfl]
    simp [List.getD_eq_getElem?_getD, h]
  · rw [if_neg e]
    have hi2 : i < (r.take d).length := by simp [h]; omega
    rw [List.getD_eq_getElem?_getD, List.getElem?_append_left hi2, List.getElem?_take_of_lt (by omega), ← List.getD_eq_getElem?_getD]

/-- The goal is to grow. -/
def moR (g : List Int) : List Int := (g.map fun z => -z) ++ [-1]
def growL (d : Nat) (rows : List (List Int)) (g : List Int) : List (List Int) := rows.map (zlR d) ++ [moR g]

theorem moR_V {g : List Int} {i : Nat} (h : i < g.length) : V (moR g) i = - V g i := by
  unfold V moR
  rw [List.getD_eq_getElem?_getD, List.getElem?_append_left (by simpa using h)]
  simp [h]
theorem moR_last {g : List Int} : V (moR g) g.length = -1 := by
  unfold V moR
  rw [List.getD_eq_getElem?_getD, List.getElem?_append_right (by simp)]; simp

/-- There is a direction on which no row bars the goal's growing just if there is no way to it. -/
theorem grow_iff {d : Nat} {rows : List (List Int)} {g : List Int} (hg : g.length = d) (hl : ∀ r ∈ rows, r.length = d + 1) : empB d (growL d rows g) = false ↔ waysL rows g = [] := by
  rw [emp_fea, ways_none, hg]
  have hz : ∀ r ∈ rows, ∀ x, dot d (V (zlR d r)) x = dot d (V r) x := fun r hr x => dot_congr (fun i hi => by unfold V; rw [zlR_get (hl r hr) (by omega), if_neg (by omega)]) fun _ _ => rfl
  have hzd : ∀ r ∈ rows, V (zlR d r) d = 0 := fun r hr => by unfold V; rw [zlR_get (hl r hr) (by omega), if_pos rfl]
  have hm : ∀ x, dot d (V (moR g)) x = - dot d (V g) x := fun x => by
    rw [← dot_neg]
    exact dot_congr (fun i hi => moR_V (by omega)) fun _ _ => rfl
  have hmd : V (moR g) d = -1 := by rw [← hg]; exact moR_last
  constructor
  · rintro ⟨x, w, hw, h⟩
    refine ⟨x, fun r hr => ?_, ?_⟩
    · have := h (zlR d r) (List.mem_append_left _ (List.mem_map.2 ⟨r, hr, rfl⟩))
      rw [hz r hr, hzd r hr] at this
      rw [dot_comm]; omega
    · have := h (moR g) (List.mem_append_right _ (by simp))
      rw [hm, hmd] at this
      rw [dot_comm]; omega
  · rintro ⟨c, h1, h2⟩
    refine ⟨c, dot d c (V g), h2, fun r hr => ?_⟩
    rcases List.mem_append.1 hr with hr | hr
    · obtain ⟨q, hq, rfl⟩ := List.mem_map.1 hr
      have := h1 q hq
      rw [dot_comm] at this
      rw [hz q hq, hzd q hq]; omega
    · simp only [List.mem_singleton] at hr
      subst hr
      rw [hm, hmd, dot_comm d (V g)]; omega

/-- What is wrong with a goal. -/
def gmE (d : Nat) (rows : List (List Int)) (g : List Int) : Int := if empB d rows = true then 6 else if waysL rows g = [] then 7 else 0

theorem grow_rw {d : Nat} {rows : List (List Int)} {g : List Int} (hg : g.length = d) (hgb : ∀ z ∈ g, z.natAbs ≤ 20) (h : RwE d rows) : RwE d (growL d rows g) := fun r hr => by
  rcases List.mem_append.1 hr with hr | hr
  · obtain ⟨q, hq, rfl⟩ := List.mem_map.1 hr
    refine ⟨zlR_len (h q hq).1, fun z hz => ?_⟩
    unfold zlR at hz
    rcases List.mem_append.1 hz with h1 | h1
    · exact (h q hq).2 z (List.mem_of_mem_take h1)
    · simp at h1; subst h1; decide
  · simp only [List.mem_singleton] at hr
    subst hr
    refine ⟨by simp [moR, hg], fun z hz => ?_⟩
    unfold moR at hz
    rcases List.mem_append.1 hz with h1 | h1
    · obtain ⟨y, hy, rfl⟩ := List.mem_map.1 h1
      have := hgb y hy; omega
    · simp at h1; subst h1; decide

theorem CutOk.rw {d : Nat} {rows : List (List Int)} (h : CutOk d rows) : RwE d rows := fun r hr => ⟨h.len r hr, h.bd r hr⟩

end Go.Proofs.Ytnalejokjapofaa

/- What Greatest leans on. -/
namespace Go.Proofs.Ytnalejokjapofaa
open Go.RowKit Lin

/-- A slice, nil or not, behind a row of the call's own. -/
theorem wpList_app_sl {P : Program} {w : World} {ops : Array Oper} {rest : List Oper} {o : Oper} {a : Act} {Q : Exit → Act → World → Prop} (hgd : o.guard = none) (s x : Operand) (t : TypeId)
    (ho : o.op = .call { callee := .builtin .append, args := #[s, x], argTypes := #[t, t] })
    (base : Nat) (e : TypeId) (i : TypeInfo) (z : Value) (bytes : Nat) (ht : P.underlying t = some (.slice e)) (hi : P.info? e = some i) (hz : i.zero = some z)
    (hsize : i.size = 1) (hby : i.bytes = bytes) (hzs : z.cells.size = 1)
    (v : Value) (n : Nat) (xs : List Value) (hs : a.eval s = v) (hown : w.ownsRow base e 1 v n xs)
    (ro : Option Addr) (m c : Nat) (news : List Value) (hx : a.eval x = .slice ro m c) (hsl : Sl 0 e w (.slice ro m c) news) (h1 : ∀ u ∈ news, u.oneCell' = true)
    (h63 : n + m ≤ maxLen) (hbytes : (n + m) * bytes ≤ 140737488355328) (hbase : base ≤ w.heap.size)
    (h : ∀ v' w', w'.ownsRow base e 1 v' (n + m) (xs ++ news) → w.grownBy w' v.ownBlock → wpList P ops Q rest (a.put o.dst v') w') : wpList P ops Q (o :: rest) a w := by
  cases ro with
  | none =>
    obtain ⟨ao, cp, he, h2, _, h3, h4⟩ := hsl
    simp only [Value.slice.injEq] at he
    have hl0 : news.length = 0 := by
      apply Classical.byContradiction
      intro hne
      obtain ⟨b, o, ha, _⟩ := h3 0 (by omega)
      rw [← he.1] at ha; cases ha
    have hm0 : m = 0 := by omega
    have hc0 : c = 0 := by rw [he.2.2]; exact h4 he.1.symm
    have hn0 : news = [] := List.eq_nil_of_length_eq_zero hl0
    subst hm0 hc0 hn0
    refine wpList_append_own_none hgd s x t ho base e i 1 ht hi v n xs hs hown hx (h v w (by simpa using hown) (World.grownBy.refl _ _))
  | some ad =>
    have hl : news.length = m * 1 := by
      obtain ⟨ao, cp, he, _⟩ := hsl
      simp only [Value.slice.injEq] at he
      omega
    exact wpList_append_own w hgd s x t ho base e i z 1 bytes ht hi hz hsize hby hzs (by decide) v n xs hs hown ad m c news hx hl (slice_cells hsl) h1 h63 hbytes hbase fun v' w' h2 h3 _ => h v' w' h2 h3

theorem mu_small4 {c : Nat} {m : List (List Int)} (hx : Mx c 60 m) (h4 : c ≤ 4) (hl : (pickL c m).length + 1 = c) : ∀ z ∈ muL c (pickL c m), z.natAbs ≤ 1296000 := by
  intro z hz
  simp only [muL, List.mem_map, List.mem_range] at hz
  obtain ⟨k, hk, rfl⟩ := hz
  unfold Lin.mu
  rw [Int.natAbs_mul]
  have h2 : (Lin.ngo k).natAbs = 1 := by rw [ngo_mod]; by_cases e : k % 2 = 1 <;> simp [e]
  rw [h2, Nat.one_mul, fm_length]
  have h5 : Lin.fb 60 3 = 1296000 := by decide
  have m2 : Lin.fb 60 (pickL c m).length ≤ Lin.fb 60 3 := fb_mono (by decide) (by omega)
  have hb := Lin.od_bd (n := (pickL c m).length) (B := 60) (Lin.cols (fm (pickL c m)) (Lin.skp k)) (fun _ => false) (fun r hr j hj => by
    simp only [Lin.cols, fm, List.mem_map] at hr
    obtain ⟨_, ⟨l, hl', rfl⟩, rfl⟩ := hr
    by_cases hi : Lin.skp k j < l.length
    · exact hx.bd l (pickL_mem hl') _ (by simp [hi])
    · simp only [List.getD_eq_getElem?_getD]; rw [List.getElem?_eq_none (by omega)]; simp) (by rw [Lin.cu_none]; simp [Lin.cols, fm])
  have hl2 : (Lin.cols (fm (pickL c m)) (Lin.skp k)).length = (pickL c m).length := by simp [Lin.cols, fm]
  rw [hl2] at hb
  omega

theorem norm_bd4 {c : Nat} {m : List (List Int)} (hx : Mx c 60 m) (h4 : c ≤ 4) : ∀ z ∈ normL c m, z.natAbs ≤ 1296000 := by
  intro z hz
  unfold normL at hz
  split at hz
  · rename_i hl
    exact upr_bd (low_bd (mu_small4 hx h4 hl)) z hz
  · simp at hz

theorem ptY_bd4 {d : Nat} {t : List (List Int)} (hx : Mx (d + 1) 60 (t.map (ngR d))) (h3 : d ≤ 3) : ∀ z ∈ ptY d t, z.natAbs ≤ 1296000 := by
  intro z hz
  unfold ptY at hz
  split at hz
  · obtain ⟨y, hy, rfl⟩ := List.mem_map.1 hz
    have := norm_bd4 hx (by omega) y hy; omega
  · exact norm_bd4 hx (by omega) z hz

/-- What Greatest holds once it has looked at k choices. -/
def gtS (d : Nat) (g : List Int) (s : Int × Int) : Option (List Int) → Int × Int
  | none => s
  | some y => if s.2 = 0 ∨ s.1 * y.getD d 0 < dotL g y * s.2 then (dotL g y, y.getD d 0) else s
def gtTo (d : Nat) (R A : List (List Int)) (g : List Int) (C : List (List Int)) (k : Nat) : Int × Int := (C.take k).foldl (fun s c => gtS d g s (ptT R d (pks A [] c))) (0, 0)

structure GtI (d : Nat) (R A : List (List Int)) (g : List Int) (C : List (List Int)) (k : Nat) (o u : Int) : Prop where
  is : gtTo d R A g C k = (o, u)
  bo : o.natAbs ≤ 77760000
  bu : u.natAbs ≤ 1296000

theorem GtI.zero (d : Nat) (R A : List (List Int)) (g : List Int) (C : List (List Int)) : GtI d R A g C 0 0 0 := ⟨rfl, by decide, by decide⟩
theorem gtTo_succ {d : Nat} {R A : List (List Int)} {g : List Int} {C : List (List Int)} {k : Nat} (h : k < C.length) : gtTo d R A g C (k + 1) = gtS d g (gtTo d R A g C k) (ptT R d (pks A [] (C.getD k []))) := by
  unfold gtTo
  rw [List.take_succ_eq_append_getElem h, List.foldl_append]
  simp [h]
theorem GtI.none {d : Nat} {R A : List (List Int)} {g : List Int} {C : List (List Int)} {k : Nat} {o u : Int} (h : GtI d R A g C k o u) (hk : k < C.length) (hp : ptT R d (pks A [] (C.getD k [])) = none) : GtI d R A g C (k + 1) o u :=
  ⟨by rw [gtTo_succ hk, hp, h.is]; rfl, h.bo, h.bu⟩
theorem GtI.up {d : Nat} {R A : List (List Int)} {g : List Int} {C : List (List Int)} {k : Nat} {o u : Int} (h : GtI d R A g C k o u) (hk : k < C.length) {y : List Int} (hp : ptT R d (pks A [] (C.getD k [])) = some y)
    (hv : (dotL g y).natAbs ≤ 77760000) (hy : (y.getD d 0).natAbs ≤ 1296000) (hc : u = 0 ∨ o * y.getD d 0 < dotL g y * u) : GtI d R A g C (k + 1) (dotL g y) (y.getD d 0) :=
  ⟨by rw [gtTo_succ hk, hp, h.is]; simp only [gtS]; rw [if_pos hc], hv, hy⟩
theorem GtI.stay {d : Nat} {R A : List (List Int)} {g : List Int} {C : List (List Int)} {k : Nat} {o u : Int} (h : GtI d R A g C k o u) (hk : k < C.length) {y : List Int} (hp : ptT R d (pks A [] (C.getD k [])) = some y)
    (hc : ¬ (u = 0 ∨ o * y.getD d 0 < dotL g y * u)) : GtI d R A g C (k + 1) o u :=
  ⟨by rw [gtTo_succ hk, hp, h.is]; simp only [gtS]; rw [if_neg hc], h.bo, h.bu⟩

theorem dot_bd4 {g y : List Int} (h3 : g.length ≤ 3) (hl : g.length ≤ y.length) (hg : ∀ z ∈ g, z.natAbs ≤ 20) (hy : ∀ z ∈ y, z.natAbs ≤ 1296000) : (dotL g y).natAbs ≤ 77760000 := by
  have key : ∀ k, k ≤ g.length → (Lin.sumN k fun i => g.getD i 0 * y.getD i 0).natAbs ≤ k * 25920000 := by
    intro k
    induction k with
    | zero => intro _; simp [Lin.sumN]
    | succ k ih =>
      intro hk
      have h1 := ih (by omega)
      have h2 : (g.getD k 0 * y.getD k 0).natAbs ≤ 25920000 := by
        rw [Int.natAbs_mul]
        exact Nat.le_trans (Nat.mul_le_mul (hg _ (getD_mem (by omega))) (hy _ (getD_mem (by omega)))) (by decide)
      rw [Lin.sumN]
      have := Int.natAbs_add_le (Lin.sumN k fun i => g.getD i 0 * y.getD i 0) (g.getD k 0 * y.getD k 0)
      omega
  have := key g.length (Nat.le_refl _)
  unfold dotL
  omega

theorem twoE {w : World} {a b : Int} : Sl 0 3 (w.alloc (.cells #[.int .i64 a, .int .i64 b] 3)) (.slice (some ⟨w.heap.size, 0, none⟩) 2 2) (ints [a, b]) := by
  refine ⟨some ⟨w.heap.size, 0, none⟩, 2, rfl, by simp [ints], by simp [maxLen], fun i hi => ⟨w.heap.size, 0, rfl, ?_, .inr ⟨_, heap_alloc_new w _⟩⟩, fun e => by cases e⟩
  rw [Nat.zero_add]
  simp only [World.cell?, heap_alloc_new]
  match i, hi with
  | 0, _ => rfl
  | 1, _ => rfl

theorem two_cellsE {B : Nat} {w : World} {u : Value} {a b : Int} (h : w.ownsRow B 3 1 u 2 (ints [a, b])) : ∃ g gc, u = .slice (some ⟨g, 0, none⟩) 2 gc ∧ B ≤ g ∧ w.cell? ⟨g, 0, none⟩ = some (.int .i64 a) ∧ w.cell? ⟨g, 1, none⟩ = some (.int .i64 b) := by
  rcases h.2 with ⟨_, h0⟩ | ⟨g, cap, cur, h1, h2, h3, _⟩
  · omega
  · subst h1
    exact ⟨g, cap, rfl, h2, h.cellAt 0 (by omega), h.cellAt 1 (by omega)⟩

end Go.Proofs.Ytnalejokjapofaa
