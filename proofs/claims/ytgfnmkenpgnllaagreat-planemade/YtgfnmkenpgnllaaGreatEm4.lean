/- What Greatest leans on. -/
import Derived.Test.YtgfnmkenpgnllaaGreatEm3
import Derived.Laws.AppendOwnNone
namespace Go.Proofs.YtgfnmkenpgnllaaGreat
open Go.RowKit Lin

/-- A slice, nil or not, behind a row of the call's own. -/
theorem wpList_app_sl {P : Program} {w : World} {ops : Array Oper} {rest : List Oper} {o : Oper} {a : Act} {Q : Exit → Act → World → Prop} (hgd : o.guard = none) (s x : Operand) (t : TypeId)
    (ho : o.op = .call { callee := .builtin .append, args := #[s, x], argTypes := #[t, t] })
    (base : Nat) (e : TypeId) (i : TypeInfo) (z : Value) (bytes : Nat) (ht : P.underlying t = some (.slice e)) (hi : P.info? e = some i) (hz : i.zero = some z)
    (hsize : i.size = 1) (hby : i.bytes = bytes) (hzs : z.cells.size = 1)
    (v : Value) (n : Nat) (xs : List Value) (hs : a.eval s = v) (hown : w.ownsRow base e 1 v n xs)
    (ro : Option Addr) (m c : Nat) (news : List Value) (hx : a.eval x = .slice ro m c) (hsl : Sl 0 e w (.slice ro m c) news) (h1 : ∀ u ∈ news, u.oneCell' = true)
    (h63 : n + m ≤ maxLen) (hbytes : (n + m) * bytes ≤ 140737488355328) (hbase : base ≤ w.heap.size)
    (h : ∀ v' w', w'.ownsRow base e 1 v' (n + m) (xs ++ news) → w.grownBy w' v.ownBlock → wpList P ops Q rest (a.put o.dst v') w') : wpList P ops Q (o :: rest) a w := by
  cases ro with
  | none =>
    obtain ⟨ao, cp, he, h2, _, h3, h4⟩ := hsl
    simp only [Value.slice.injEq] at he
    have hl0 : news.length = 0 := by
      apply Classical.byContradiction
      intro hne
      obtain ⟨b, o, ha, _⟩ := h3 0 (by omega)
      rw [← he.1] at ha; cases ha
    have hm0 : m = 0 := by omega
    have hc0 : c = 0 := by rw [he.2.2]; exact h4 he.1.symm
    have hn0 : news = [] := List.eq_nil_of_length_eq_zero hl0
    subst hm0 hc0 hn0
    refine wpList_append_own_none hgd s x t ho base e i 1 ht hi v n xs hs hown hx (h v w (by simpa using hown) (World.grownBy.refl _ _))
  | some ad =>
    have hl : news.length = m * 1 := by
      obtain ⟨ao, cp, he, _⟩ := hsl
      simp only [Value.slice.injEq] at he
      omega
    exact wpList_append_own w hgd s x t ho base e i z 1 bytes ht hi hz hsize hby hzs (by decide) v n xs hs hown ad m c news hx hl (slice_cells hsl) h1 h63 hbytes hbase fun v' w' h2 h3 _ => h v' w' h2 h3

theorem mu_small4 {c : Nat} {m : List (List Int)} (hx : Mx c 60 m) (h4 : c ≤ 4) (hl : (pickL c m).length + 1 = c) : ∀ z ∈ muL c (pickL c m), z.natAbs ≤ 1296000 := by
  intro z hz
  simp only [muL, List.mem_map, List.mem_range] at hz
  obtain ⟨k, hk, rfl⟩ := hz
  unfold Lin.mu
  rw [Int.natAbs_mul]
  have h2 : (Lin.ngo k).natAbs = 1 := by rw [ngo_mod]; by_cases e : k % 2 = 1 <;> simp [e]
  rw [h2, Nat.one_mul, fm_length]
  have h5 : Lin.fb 60 3 = 1296000 := by decide
  have m2 : Lin.fb 60 (pickL c m).length ≤ Lin.fb 60 3 := fb_mono (by decide) (by omega)
  have hb := Lin.od_bd (n := (pickL c m).length) (B := 60) (Lin.cols (fm (pickL c m)) (Lin.skp k)) (fun _ => false) (fun r hr j hj => by
    simp only [Lin.cols, fm, List.mem_map] at hr
    obtain ⟨_, ⟨l, hl', rfl⟩, rfl⟩ := hr
    by_cases hi : Lin.skp k j < l.length
    · exact hx.bd l (pickL_mem hl') _ (by simp [hi])
    · simp only [List.getD_eq_getElem?_getD]; rw [List.getElem?_eq_none (by omega)]; simp) (by rw [Lin.cu_none]; simp [Lin.cols, fm])
  have hl2 : (Lin.cols (fm (pickL c m)) (Lin.skp k)).length = (pickL c m).length := by simp [Lin.cols, fm]
  rw [hl2] at hb
  omega

theorem norm_bd4 {c : Nat} {m : List (List Int)} (hx : Mx c 60 m) (h4 : c ≤ 4) : ∀ z ∈ normL c m, z.natAbs ≤ 1296000 := by
  intro z hz
  unfold normL at hz
  split at hz
  · rename_i hl
    exact upr_bd (low_bd (mu_small4 hx h4 hl)) z hz
  · simp at hz

theorem twoE {w : World} {a b : Int} : Sl 0 3 (w.alloc (.cells #[.int .i64 a, .int .i64 b] 3)) (.slice (some ⟨w.heap.size, 0, none⟩) 2 2) (ints [a, b]) := by
  refine ⟨some ⟨w.heap.size, 0, none⟩, 2, rfl, by simp [ints], by simp [maxLen], fun i hi => ⟨w.heap.size, 0, rfl, ?_, .inr ⟨_, heap_alloc_new w _⟩⟩, fun e => by cases e⟩
  rw [Nat.zero_add]
  simp only [World.cell?, heap_alloc_new]
  match i, hi with
  | 0, _ => rfl
  | 1, _ => rfl

theorem two_cellsE {B : Nat} {w : World} {u : Value} {a b : Int} (h : w.ownsRow B 3 1 u 2 (ints [a, b])) : ∃ g gc, u = .slice (some ⟨g, 0, none⟩) 2 gc ∧ B ≤ g ∧ w.cell? ⟨g, 0, none⟩ = some (.int .i64 a) ∧ w.cell? ⟨g, 1, none⟩ = some (.int .i64 b) := by
  rcases h.2 with ⟨_, h0⟩ | ⟨g, cap, cur, h1, h2, h3, _⟩
  · omega
  · subst h1
    exact ⟨g, cap, rfl, h2, h.cellAt 0 (by omega), h.cellAt 1 (by omega)⟩

end Go.Proofs.YtgfnmkenpgnllaaGreat
