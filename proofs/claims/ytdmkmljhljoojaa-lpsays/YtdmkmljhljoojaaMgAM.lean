import Derived.Test.YtdmkmljhljoojaaEm3
import Derived.Laws.AppendOwnNone
import Derived.Deep.RegionHeld3
/- What Greatest leans on. -/
namespace Go.Proofs.Ytdmkmljhljoojaa
open Go.RowKit Lin

/-- A slice, nil or not, behind a row of the call's own. -/
theorem wpList_app_sl {P : Program} {w : World} {ops : Array Oper} {rest : List Oper} {o : Oper} {a : Act} {Q : Exit → Act → World → Prop} (hgd : o.guard = none) (s x : Operand) (t : TypeId)
    (ho : o.op = .call { callee := .builtin .append, args := #[s, x], argTypes := #[t, t] })
    (base : Nat) (e : TypeId) (i : TypeInfo) (z : Value) (bytes : Nat) (ht : P.underlying t = some (.slice e)) (hi : P.info? e = some i) (hz : i.zero = some z)
    (hsize : i.size = 1) (hby : i.bytes = bytes) (hzs : z.cells.size = 1)
    (v : Value) (n : Nat) (xs : List Value) (hs : a.eval s = v) (hown : w.ownsRow base e 1 v n xs)
    (ro : Option Addr) (m c : Nat) (news : List Value) (hx : a.eval x = .slice ro m c) {Bn : Nat} (hsl : Sl Bn e w (.slice ro m c) news) (h1 : ∀ u ∈ news, u.oneCell' = true)
    (h63 : n + m ≤ maxLen) (hbytes : (n + m) * bytes ≤ 140737488355328) (hbase : base ≤ w.heap.size)
    (h : ∀ v' w', w'.ownsRow base e 1 v' (n + m) (xs ++ news) → w.grownBy w' v.ownBlock → wpList P ops Q rest (a.put o.dst v') w') : wpList P ops Q (o :: rest) a w := by
  cases ro with
  | none =>
    obtain ⟨ao, cp, he, h2, _, h3, h4⟩ := hsl
    simp only [Value.slice.injEq] at he
    have hl0 : news.length = 0 := by
      apply Classical.byContradiction
      intro hne
      obtain ⟨b, o, ha, _⟩ := h3 0 (by omega)
      rw [← he.1] at ha; cases ha
    have hm0 : m = 0 := by omega
    have hc0 : c = 0 := by rw [he.2.2]; exact h4 he.1.symm
    have hn0 : news = [] := List.eq_nil_of_length_eq_zero hl0
    subst hm0 hc0 hn0
    refine wpList_append_own_none hgd s x t ho base e i 1 ht hi v n xs hs hown hx (h v w (by simpa using hown) (World.grownBy.refl _ _))
  | some ad =>
    have hl : news.length = m * 1 := by
      obtain ⟨ao, cp, he, _⟩ := hsl
      simp only [Value.slice.injEq] at he
      omega
    exact wpList_append_own w hgd s x t ho base e i z 1 bytes ht hi hz hsize hby hzs (by decide) v n xs hs hown ad m c news hx hl (slice_cells hsl) h1 h63 hbytes hbase fun v' w' h2 h3 _ => h v' w' h2 h3

theorem mu_small4 {c : Nat} {m : List (List Int)} (hx : Mx c 60 m) (h4 : c ≤ 5) (hl : (pickL c m).length + 1 = c) : ∀ z ∈ muL c (pickL c m), z.natAbs ≤ 311040000 := by
  intro z hz
  simp only [muL, List.mem_map, List.mem_range] at hz
  obtain ⟨k, hk, rfl⟩ := hz
  unfold Lin.mu
  rw [Int.natAbs_mul]
  have h2 : (Lin.ngo k).natAbs = 1 := by rw [ngo_mod]; by_cases e : k % 2 = 1 <;> simp [e]
  rw [h2, Nat.one_mul, fm_length]
  have h5 : Lin.fb 60 4 = 311040000 := by decide
  have m2 : Lin.fb 60 (pickL c m).length ≤ Lin.fb 60 4 := fb_mono (by decide) (by omega)
  have hb := Lin.od_bd (n := (pickL c m).length) (B := 60) (Lin.cols (fm (pickL c m)) (Lin.skp k)) (fun _ => false) (fun r hr j hj => by
    simp only [Lin.cols, fm, List.mem_map] at hr
    obtain ⟨_, ⟨l, hl', rfl⟩, rfl⟩ := hr
    by_cases hi : Lin.skp k j < l.length
    · exact hx.bd l (pickL_mem hl') _ (by simp [hi])
    · simp only [List.getD_eq_getElem?_getD]; rw [List.getElem?_eq_none (by omega)]; simp) (by rw [Lin.cu_none]; simp [Lin.cols, fm])
  have hl2 : (Lin.cols (fm (pickL c m)) (Lin.skp k)).length = (pickL c m).length := by simp [Lin.cols, fm]
  rw [hl2] at hb
  omega

theorem norm_bd4 {c : Nat} {m : List (List Int)} (hx : Mx c 60 m) (h4 : c ≤ 5) : ∀ z ∈ normL c m, z.natAbs ≤ 311040000 := by
  intro z hz
  unfold normL at hz
  split at hz
  · rename_i hl
    exact upr_bd (low_bd (mu_small4 hx h4 hl)) z hz
  · simp at hz

theorem ptY_bd4 {d : Nat} {t : List (List Int)} (hx : Mx (d + 1) 60 (t.map (ngR d))) (h3 : d ≤ 4) : ∀ z ∈ ptY d t, z.natAbs ≤ 311040000 := by
  intro z hz
  unfold ptY at hz
  split at hz
  · obtain ⟨y, hy, rfl⟩ := List.mem_map.1 hz
    have := norm_bd4 hx (by omega) y hy; omega
  · exact norm_bd4 hx (by omega) z hz

/-- What Greatest holds once it has looked at k choices. -/
def gtS (d : Nat) (g : List Int) (s : Int × Int) : Option (List Int) → Int × Int
  | none => s
  | some y => if s.2 = 0 ∨ s.1 * y.getD d 0 < dotL g y * s.2 then (dotL g y, y.getD d 0) else s
def gtTo (d : Nat) (R A : List (List Int)) (g : List Int) (C : List (List Int)) (k : Nat) : Int × Int := (C.take k).foldl (fun s c => gtS d g s (ptT R d (pks A [] c))) (0, 0)

structure GtI (d : Nat) (R A : List (List Int)) (g : List Int) (C : List (List Int)) (k : Nat) (o u : Int) : Prop where
  is : gtTo d R A g C k = (o, u)
  bo : o.natAbs ≤ 24883200000
  bu : u.natAbs ≤ 311040000

theorem GtI.zero (d : Nat) (R A : List (List Int)) (g : List Int) (C : List (List Int)) : GtI d R A g C 0 0 0 := ⟨rfl, by decide, by decide⟩
theorem gtTo_succ {d : Nat} {R A : List (List Int)} {g : List Int} {C : List (List Int)} {k : Nat} (h : k < C.length) : gtTo d R A g C (k + 1) = gtS d g (gtTo d R A g C k) (ptT R d (pks A [] (C.getD k []))) := by
  unfold gtTo
  rw [List.take_succ_eq_append_getElem h, List.foldl_append]
  simp [h]
theorem GtI.none {d : Nat} {R A : List (List Int)} {g : List Int} {C : List (List Int)} {k : Nat} {o u : Int} (h : GtI d R A g C k o u) (hk : k < C.length) (hp : ptT R d (pks A [] (C.getD k [])) = none) : GtI d R A g C (k + 1) o u :=
  ⟨by rw [gtTo_succ hk, hp, h.is]; rfl, h.bo, h.bu⟩
theorem GtI.up {d : Nat} {R A : List (List Int)} {g : List Int} {C : List (List Int)} {k : Nat} {o u : Int} (h : GtI d R A g C k o u) (hk : k < C.length) {y : List Int} (hp : ptT R d (pks A [] (C.getD k [])) = some y)
    (hv : (dotL g y).natAbs ≤ 24883200000) (hy : (y.getD d 0).natAbs ≤ 311040000) (hc : u = 0 ∨ o * y.getD d 0 < dotL g y * u) : GtI d R A g C (k + 1) (dotL g y) (y.getD d 0) :=
  ⟨by rw [gtTo_succ hk, hp, h.is]; simp only [gtS]; rw [if_pos hc], hv, hy⟩
theorem GtI.stay {d : Nat} {R A : List (List Int)} {g : List Int} {C : List (List Int)} {k : Nat} {o u : Int} (h : GtI d R A g C k o u) (hk : k < C.length) {y : List Int} (hp : ptT R d (pks A [] (C.getD k [])) = some y)
    (hc : ¬ (u = 0 ∨ o * y.getD d 0 < dotL g y * u)) : GtI d R A g C (k + 1) o u :=
  ⟨by rw [gtTo_succ hk, hp, h.is]; simp only [gtS]; rw [if_neg hc], h.bo, h.bu⟩

theorem dot_bd4 {g y : List Int} (h3 : g.length ≤ 4) (hl : g.length ≤ y.length) (hg : ∀ z ∈ g, z.natAbs ≤ 20) (hy : ∀ z ∈ y, z.natAbs ≤ 311040000) : (dotL g y).natAbs ≤ 24883200000 := by
  have key : ∀ k, k ≤ g.length → (Lin.sumN k fun i => g.getD i 0 * y.getD i 0).natAbs ≤ k * 6220800000 := by
    intro k
    induction k with
    | zero => intro _; simp [Lin.sumN]
    | succ k ih =>
      intro hk
      have h1 := ih (by omega)
      have h2 : (g.getD k 0 * y.getD k 0).natAbs ≤ 6220800000 := by
        rw [Int.natAbs_mul]
        exact Nat.le_trans (Nat.mul_le_mul (hg _ (getD_mem (by omega))) (hy _ (getD_mem (by omega)))) (by decide)
      rw [Lin.sumN]
      have := Int.natAbs_add_le (Lin.sumN k fun i => g.getD i 0 * y.getD i 0) (g.getD k 0 * y.getD k 0)
      omega
  have := key g.length (Nat.le_refl _)
  unfold dotL
  omega

theorem twoE {w : World} {a b : Int} : Sl 0 3 (w.alloc (.cells #[.int .i64 a, .int .i64 b] 3)) (.slice (some ⟨w.heap.size, 0, none⟩) 2 2) (ints [a, b]) := by
  refine ⟨some ⟨w.heap.size, 0, none⟩, 2, rfl, by simp [ints], by simp [maxLen], fun i hi => ⟨w.heap.size, 0, rfl, ?_, .inr ⟨_, heap_alloc_new w _⟩⟩, fun e => by cases e⟩
  rw [Nat.zero_add]
  simp only [World.cell?, heap_alloc_new]
  match i, hi with
  | 0, _ => rfl
  | 1, _ => rfl

theorem two_cellsE {B : Nat} {w : World} {u : Value} {a b : Int} (h : w.ownsRow B 3 1 u 2 (ints [a, b])) : ∃ g gc, u = .slice (some ⟨g, 0, none⟩) 2 gc ∧ B ≤ g ∧ w.cell? ⟨g, 0, none⟩ = some (.int .i64 a) ∧ w.cell? ⟨g, 1, none⟩ = some (.int .i64 b) := by
  rcases h.2 with ⟨_, h0⟩ | ⟨g, cap, cur, h1, h2, h3, _⟩
  · omega
  · subst h1
    exact ⟨g, cap, rfl, h2, h.cellAt 0 (by omega), h.cellAt 1 (by omega)⟩

end Go.Proofs.Ytdmkmljhljoojaa

/- An operation of a drawn region is taken first, its slot told. -/
namespace Go.Proofs.Ytdmkmljhljoojaa
open Go

theorem wpAnyH_tk {P : Program} {md : Region.Mode} {ops : Array Oper} {Q : Exit → Act → World → Prop} {S : World → Prop} {i d : Nat} {oi : Oper} {v : Value} {fuel : Nat} {listed : Array Bool} {a : Act} {w : World} (hi : ops.toList[i]? = some oi) (hd : oi.dst = some d)
    (hs : Region.noSelect ops = true) (hf : Region.free md ops listed i = true) (hr : (Region.ready md ops listed).contains i = true)
    (hQ : ∀ c a w, Q (.panic c) (a.put (some d) v) w → Q (.panic c) a w) (hy : YieldsIf P ops S oi v a) (hS : S w)
    (h : wpAnyH P md ops Q S fuel (listed.setIfInBounds i true) (a.put (some d) v) w) : wpAnyH P md ops Q S (fuel + 1) listed a w := by
  rw [Array.getElem?_toList] at hi
  rw [← hd] at hQ h
  exact wpAnyH_take hi hs hf hr hQ hy hS h

theorem ready_tk {P : Program} {md : Region.Mode} {ops : Array Oper} {Q : Exit → Act → World → Prop} {S : World → Prop} {fuel : Nat} {listed : Array Bool} {a : Act} {w : World} {i : Nat} {o : Oper} {rs : List Nat} (ho : ops.toList[i]? = some o) (hw : Region.wanted o (yielded ops a.tmps) = true)
    (h : ∀ K' : Act → World → Prop, Shut (∀ a w, S w → (S w → wpAnyH P md ops Q S fuel (listed.setIfInBounds i true) a w) → K' a w) → Oper.wp P o a w K' Q)
    (hs : AllReadyH P md ops Q S fuel listed a w rs) : AllReadyH P md ops Q S fuel listed a w (i :: rs) := by
  rw [Array.getElem?_toList] at ho
  refine AllReadyH.cons ho (fun K' hK => ?_) hs
  rw [if_pos hw]
  exact h K' hK

end Go.Proofs.Ytdmkmljhljoojaa
