/- Flats, sorted by ranks, then as lists. -/
import Derived.Test.YtgfnmkenpgnllaaGreatFl2z
import Derived.Test.YtgfnmkenpgnllaaGreatOrl
import Derived.Test.YtgfnmkenpgnllaaGreatFl1
namespace Go.Proofs.YtgfnmkenpgnllaaGreat
open Go.Shelf Go.RowKit Go.Lib Go.Sort

theorem cmpL_selfH : ∀ x, cmpL x x = 0
  | [] => rfl
  | a :: x => by simp [cmpL, cmpL_selfH x]

theorem cmpL_transH : ∀ x y z, cmpL x y < 0 → cmpL y z < 0 → cmpL x z < 0
  | [], [], _, h, _ => by simp [cmpL] at h
  | [], b :: y, [], _, h => by simp [cmpL] at h
  | [], b :: y, c :: z, _, _ => by simp [cmpL]
  | a :: x, [], _, h, _ => by simp [cmpL] at h
  | a :: x, b :: y, [], _, h => by simp [cmpL] at h
  | a :: x, b :: y, c :: z, h1, h2 => by
    have ih := cmpL_transH x y z
    simp only [cmpL] at *
    split at h1 <;> split at h2 <;> split <;> (try split at h1) <;> (try split at h2) <;> (try split) <;> first | omega | (exact ih h1 h2)

theorem cmpL_ntransH : ∀ x y z, ¬ cmpL x y < 0 → ¬ cmpL y z < 0 → ¬ cmpL x z < 0
  | [], [], z, _, h => h
  | [], b :: y, _, h, _ => by simp [cmpL] at h
  | a :: x, [], [], _, _ => by simp [cmpL]
  | a :: x, [], c :: z, _, h => by simp [cmpL] at h
  | a :: x, b :: y, [], _, _ => by simp [cmpL]
  | a :: x, b :: y, c :: z, h1, h2 => by
    have ih := cmpL_ntransH x y z
    simp only [cmpL] at *
    split at h1 <;> split at h2 <;> split <;> (try split at h1) <;> (try split at h2) <;> (try split) <;> first | omega | (exact ih h1 h2)

/-- A flat: its slice, what it reads, its rank. -/
abbrev FlT := Value × List Int × Nat

def encF (t : FlT) : List Value := [t.1, .int .i64 (t.2.2 : Nat)]

def RF (w : World) : Type := { p : FlT // Sl 0 3 w p.1 (ints p.2.1) }

instance (w : World) : Inhabited (RF w) := ⟨⟨(.slice none 0 0, [], 0), Sl.nil _ _ _⟩⟩

def RF.enc {w : World} (x : RF w) : List Value := encF x.1

/-- By ranks, then in order. -/
def fcf (x y : List Int × Nat) : Int := orL [cmpI (x.2 : Nat) (y.2 : Nat), cmpL x.1 y.1]
def RF.cf {w : World} (x y : RF w) : Int := fcf x.1.2 y.1.2

theorem fcf_lt (x y : List Int × Nat) : fcf x y < 0 ↔ x.2 < y.2 ∨ (x.2 = y.2 ∧ cmpL x.1 y.1 < 0) := by
  unfold fcf
  by_cases h : cmpI (x.2 : Nat) (y.2 : Nat) = 0
  · have e := cmpI_zero.1 h
    have : orL [cmpI (x.2 : Nat) (y.2 : Nat), cmpL x.1 y.1] = cmpL x.1 y.1 := by
      rw [h]
      simp [orL]
      omega
    rw [this]
    constructor
    · intro h2; exact .inr ⟨by omega, h2⟩
    · rintro (h2 | h2)
      · omega
      · exact h2.2
  · have : orL [cmpI (x.2 : Nat) (y.2 : Nat), cmpL x.1 y.1] = cmpI (x.2 : Nat) (y.2 : Nat) := orL_at (l := [cmpI (x.2 : Nat) (y.2 : Nat), cmpL x.1 y.1]) (k := 0) (by simp) (by simp) h
    rw [this, cmpI_lt]
    have hne : ¬ x.2 = y.2 := fun e => h (cmpI_zero.2 (by omega))
    constructor
    · intro h2; exact .inl (by omega)
    · rintro (h2 | h2)
      · omega
      · exact absurd h2.1 hne

theorem RF.swo (w : World) : SWO (ltOf (RF.cf (w := w))) where
  irrefl x := by
    refine decide_eq_false fun h => ?_
    rcases (fcf_lt _ _).1 h with h | ⟨_, h⟩
    · omega
    · rw [cmpL_selfH] at h; exact absurd h (by decide)
  trans x y z h1 h2 := by
    refine decide_eq_true ((fcf_lt _ _).2 ?_)
    rcases (fcf_lt _ _).1 (of_decide_eq_true h1) with a1 | ⟨a1, b1⟩ <;> rcases (fcf_lt _ _).1 (of_decide_eq_true h2) with a2 | ⟨a2, b2⟩
    · exact Or.inl (by omega)
    · exact Or.inl (by omega)
    · exact Or.inl (by omega)
    · exact Or.inr ⟨by omega, cmpL_transH _ _ _ b1 b2⟩
  ntrans x y z h1 h2 := by
    refine decide_eq_false fun h => ?_
    have g1 := fun k => of_decide_eq_false h1 ((fcf_lt _ _).2 k)
    have g2 := fun k => of_decide_eq_false h2 ((fcf_lt _ _).2 k)
    have p1 : ¬ x.1.2.2 < y.1.2.2 := fun k => g1 (Or.inl k)
    have p2 : ¬ y.1.2.2 < z.1.2.2 := fun k => g2 (Or.inl k)
    rcases (fcf_lt _ _).1 h with a | ⟨a, b⟩
    · omega
    · have e1 : x.1.2.2 = y.1.2.2 := by omega
      have e2 : y.1.2.2 = z.1.2.2 := by omega
      exact cmpL_ntransH _ _ _ (fun k => g1 (Or.inr ⟨e1, k⟩)) (fun k => g2 (Or.inr ⟨e2, k⟩)) b

theorem RF.one (w : World) (x : RF w) : ∀ v ∈ RF.enc x, v.oneCell' = true := by
  intro v hv
  obtain ⟨ao, cap, h, _⟩ := x.2
  simp only [RF.enc, encF, List.mem_cons, List.not_mem_nil, or_false] at hv
  rcases hv with rfl | rfl
  · rw [h]; rfl
  · rfl

set_option maxRecDepth 100000 in
set_option maxHeartbeats 1600000 in
theorem flCmp_any (x y : List Int) (a b : Nat) (u v : Value) (w : World) (hu : Sl 0 3 w u (ints x)) (hv : Sl 0 3 w v (ints y)) :
    Calls Tryz.prog 61 #[.agg #[u, .int .i64 a], .agg #[v, .int .i64 b]] w fun e w' => e = .returned (.int .i64 (fcf (x, a) (y, b))) ∧ ∃ q os', w' = Go.Sort.grow (w.drewN q) os' := by
  obtain ⟨W1, hW1⟩ : ∃ W1, W1 = w.alloc (.cells #[u, .int .i64 a] 68) := ⟨_, rfl⟩
  obtain ⟨W, hW⟩ : ∃ W, W = W1.alloc (.cells #[v, .int .i64 b] 68) := ⟨_, rfl⟩
  have hb1 : Below w.heap.size w W1 := by rw [hW1]; exact alloc_keep _ _
  have hb2 : Below W1.heap.size W1 W := by rw [hW]; exact alloc_keep _ _
  have hs1 : W1.heap.size = w.heap.size + 1 := by rw [hW1]; exact size_alloc _ _
  have hs2 : W.heap.size = w.heap.size + 2 := by rw [hW, size_alloc, hs1]
  have hk1 : W1.heap[w.heap.size]? = some (.cells #[u, .int .i64 a] 68 (0, 0)) := by rw [hW1]; exact alloc_new _ _
  have hk2 : W.heap[w.heap.size + 1]? = some (.cells #[v, .int .i64 b] 68 (0, 0)) := by rw [hW, ← hs1]; exact alloc_new _ _
  have hbW : Below w.heap.size w W := hb1.trans (hb2.mono hb1.size)
  have hk3 := (hb2.block w.heap.size (by omega)).trans hk1
  have hu2 := hu.below (hbW.trans (((Below.refl _ _).drew (w := W)).mono hbW.size)) (Nat.le_refl _)
  have hv2 := hv.below (hbW.trans (((Below.refl _ _).drew (w := W)).mono hbW.size)) (Nat.le_refl _)
  have H4 := compare_any 0 x y u v W.drew hu2 hv2
  have H3 := cmpI_any (a : Nat) (b : Nat) W.drew
  have H5 := orI_any 0 [cmpI (a : Nat) (b : Nat), cmpL x y] _ _ (two_sl (w := W.drew))
  have HWW : Hid (W = (w.alloc (.cells #[u, .int .i64 a] 68)).alloc (.cells #[v, .int .i64 b] 68)) := by show _ = _; rw [hW, hW1]
  have HFC : Hid (fcf (x, a) (y, b) = orL [cmpI (a : Nat) (b : Nat), cmpL x y]) := rfl
  have HC : Hid (∀ X : World, (∀ k, k < W.heap.size → X.heap[k]? = W.heap[k]?) → X.cell? ⟨w.heap.size, 0, none⟩ = some u ∧ X.cell? ⟨w.heap.size, 1, none⟩ = some (.int .i64 a) ∧ X.cell? ⟨w.heap.size + 1, 0, none⟩ = some v ∧ X.cell? ⟨w.heap.size + 1, 1, none⟩ = some (.int .i64 b)) := fun X hX => by
    have q1 := (hX w.heap.size (by omega)).trans hk3
    have q2 := (hX (w.heap.size + 1) (by omega)).trans hk2
    exact ⟨by simp [World.cell?, q1], by simp [World.cell?, q1], by simp [World.cell?, q2], by simp [World.cell?, q2]⟩
  obtain ⟨uo, uc, rfl, _, _⟩ := sl_open hu
  obtain ⟨vo, vc, rfl, _, _⟩ := sl_open hv
  clear hu hv hu2 hv2 hb1 hb2 hk1 hk2 hk3 hbW hW hW1 hs1 hs2
  generalize cmpL x y = cl at *
  generalize cmpI (a : Nat) (b : Nat) = ci at *
  generalize fcf (x, a) (y, b) = fc at *
  generalize orL [ci, cl] = oc at *
  go_enter Tryz.func61, Tryz.ntmps61
  go_upto_region 1 with fail
  rw [← HWW.out]
  refine wp_region_held_drew (S := fun X => X.cell? ⟨w.heap.size, 0, none⟩ = some (.slice uo x.length uc) ∧ X.cell? ⟨w.heap.size, 1, none⟩ = some (.int .i64 a) ∧ X.cell? ⟨w.heap.size + 1, 0, none⟩ = some (.slice vo y.length vc) ∧ X.cell? ⟨w.heap.size + 1, 1, none⟩ = some (.int .i64 b)) (by kernel_rfl) (HC.out _ (fun _ _ => rfl)) (fun hHeld => ?_)
  refine wpAnyH_tk (i := 0) (d := 5) (v := (.pointer (some ⟨w.heap.size, 1, none⟩))) rfl rfl (by kernel_rfl) (by kernel_rfl) (by kernel_rfl) (fun _ _ _ h => h) (.inl ⟨by rfl, by (intro wq hSw; (try dsimp only at hSw); go_simp; (try (first | rfl | omega)))⟩) hHeld ?_
  simp only [Act.put, List.setIfInBounds_toArray, List.set_cons_zero, List.set_cons_succ]
  refine wpAnyH_tk (i := 1) (d := 6) (v := (.int .i64 (a : Nat))) rfl rfl (by kernel_rfl) (by kernel_rfl) (by kernel_rfl) (fun _ _ _ h => h) (.inl ⟨by rfl, by (intro wq hSw; (try dsimp only at hSw); go_simp; (try (first | rfl | omega)))⟩) hHeld ?_
  simp only [Act.put, List.setIfInBounds_toArray, List.set_cons_zero, List.set_cons_succ]
  refine wpAnyH_tk (i := 2) (d := 7) (v := (.pointer (some ⟨w.heap.size + 1, 1, none⟩))) rfl rfl (by kernel_rfl) (by kernel_rfl) (by kernel_rfl) (fun _ _ _ h => h) (.inl ⟨by rfl, by (intro wq hSw; (try dsimp only at hSw); go_simp; (try (first | rfl | omega)))⟩) hHeld ?_
  simp only [Act.put, List.setIfInBounds_toArray, List.set_cons_zero, List.set_cons_succ]
  refine wpAnyH_tk (i := 3) (d := 8) (v := (.int .i64 (b : Nat))) rfl rfl (by kernel_rfl) (by kernel_rfl) (by kernel_rfl) (fun _ _ _ h => h) (.inl ⟨by rfl, by (intro wq hSw; (try dsimp only at hSw); go_simp; (try (first | rfl | omega)))⟩) hHeld ?_
  simp only [Act.put, List.setIfInBounds_toArray, List.set_cons_zero, List.set_cons_succ]
  refine wpAnyH_tk (i := 5) (d := 10) (v := (.pointer (some ⟨w.heap.size, 0, none⟩))) rfl rfl (by kernel_rfl) (by kernel_rfl) (by kernel_rfl) (fun _ _ _ h => h) (.inl ⟨by rfl, by (intro wq hSw; (try dsimp only at hSw); go_simp; (try (first | rfl | omega)))⟩) hHeld ?_
  simp only [Act.put, List.setIfInBounds_toArray, List.set_cons_zero, List.set_cons_succ]
  refine wpAnyH_tk (i := 6) (d := 11) (v := (.slice uo x.length uc)) rfl rfl (by kernel_rfl) (by kernel_rfl) (by kernel_rfl) (fun _ _ _ h => h) (.inl ⟨by rfl, by (intro wq hSw; (try dsimp only at hSw); go_simp; (try (first | rfl | omega)))⟩) hHeld ?_
  simp only [Act.put, List.setIfInBounds_toArray, List.set_cons_zero, List.set_cons_succ]
  refine wpAnyH_tk (i := 7) (d := 12) (v := (.pointer (some ⟨w.heap.size + 1, 0, none⟩))) rfl rfl (by kernel_rfl) (by kernel_rfl) (by kernel_rfl) (fun _ _ _ h => h) (.inl ⟨by rfl, by (intro wq hSw; (try dsimp only at hSw); go_simp; (try (first | rfl | omega)))⟩) hHeld ?_
  simp only [Act.put, List.setIfInBounds_toArray, List.set_cons_zero, List.set_cons_succ]
  refine wpAnyH_tk (i := 8) (d := 13) (v := (.slice vo y.length vc)) rfl rfl (by kernel_rfl) (by kernel_rfl) (by kernel_rfl) (fun _ _ _ h => h) (.inl ⟨by rfl, by (intro wq hSw; (try dsimp only at hSw); go_simp; (try (first | rfl | omega)))⟩) hHeld ?_
  simp only [Act.put, List.setIfInBounds_toArray, List.set_cons_zero, List.set_cons_succ]
  refine wpAnyH_ready (rs := [4]) (by kernel_rfl) (by simp) ?_
  refine ready_tk (i := 4) rfl (by rfl) (fun K hK => ?_) AllReadyH.nil
  go_simp
  refine H3.mono ?_
  rintro e w5 ⟨rfl, rfl⟩
  refine hK.out _ _ (HC.out _ (fun _ _ => rfl)) (fun hHeld => ?_)
  clear hK K
  refine wpAnyH_ready (rs := [9]) (by kernel_rfl) (by simp) ?_
  refine ready_tk (i := 9) rfl (by rfl) (fun K hK => ?_) AllReadyH.nil
  go_simp
  refine H4.mono ?_
  rintro e w6 ⟨rfl, rfl⟩
  refine hK.out _ _ (HC.out _ (fun _ _ => rfl)) (fun hHeld => ?_)
  clear hK K
  refine wpAnyH_ready (rs := [10]) (by kernel_rfl) (by simp) ?_
  refine ready_tk (i := 10) rfl (by rfl) (fun K hK => ?_) AllReadyH.nil
  go_simp
  refine hK.out _ _ (HC.out _ (fun k hk => Below.heap_alloc _ _ _ hk)) (fun hHeld => ?_)
  clear hK K
  refine wpAnyH_ready (rs := [11]) (by kernel_rfl) (by simp) ?_
  refine ready_tk (i := 11) rfl (by rfl) (fun K hK => ?_) AllReadyH.nil
  go_simp
  refine H5.mono ?_
  rintro e w7 ⟨rfl, rfl⟩
  refine hK.out _ _ (HC.out _ (fun k hk => Below.heap_alloc _ _ _ hk)) (fun hHeld => ?_)
  clear hK K
  refine wpAnyH_tk (i := 12) (d := 4) (v := (.int .i64 oc)) rfl rfl (by kernel_rfl) (by kernel_rfl) (by kernel_rfl) (fun _ _ _ h => h) (.inl ⟨by rfl, by (intro wq hSw; (try dsimp only at hSw); go_simp; (try (first | rfl | omega)))⟩) hHeld ?_
  simp only [Act.put, List.setIfInBounds_toArray, List.set_cons_zero, List.set_cons_succ]
  refine wpAnyH_done (by kernel_rfl) ?_ _
  clear hHeld
  go_wp2
  go_ret
  refine ⟨by rw [HFC.out]; rfl, 1, #[.cells #[.slice uo x.length uc, .int .i64 a] 68, .cells #[.slice vo y.length vc, .int .i64 b] 68, .cells #[.int .i64 ci, .int .i64 cl] 3], ?_⟩
  rw [HWW.out]
  rfl

theorem flatF_get : ∀ (T : List FlT) (t : Nat), t < T.length * 2 → (T.flatMap encF)[t]? = (encF (T.getD (t / 2) (.slice none 0 0, [], 0)))[t % 2]?
  | [], t, h => by simp at h
  | x :: T, t, h => by
    rw [List.flatMap_cons]
    by_cases ht : t < 2
    · rw [List.getElem?_append_left (by simp [encF]; exact ht), Nat.div_eq_of_lt ht, Nat.mod_eq_of_lt ht]
      simp
    · rw [List.getElem?_append_right (by simp [encF]; omega)]
      have ih := flatF_get T (t - 2) (by simp at h; omega)
      have e1 : (encF x).length = 2 := rfl
      rw [e1, ih]
      have e2 : t / 2 = (t - 2) / 2 + 1 := by omega
      have e3 : t % 2 = (t - 2) % 2 := by omega
      rw [e2, e3]
      simp

theorem flatF_len (T : List FlT) : (T.flatMap encF).length = T.length * 2 := by
  induction T with
  | nil => rfl
  | cons x T ih => rw [List.flatMap_cons, List.length_append, ih]; simp [encF]; omega

theorem Tryz.isAggF : ∀ w, (isAgg 68).run Tryz.prog w = .ok true w := fun w => by kernel_rfl
theorem Tryz.infoF : (Tryz.prog.info? 68).map (fun i => (i.zero, i.size, i.bytes)) = some (some (.agg #[.slice none 0 0, .int .i64 0]), 2, 32) := by kernel_rfl
theorem Tryz.sizeOfF : ∀ w, (Go.sizeOf 68).run Tryz.prog w = .ok 2 w := fun w => by kernel_rfl

/-- A row of flats: the structs owned, each list read. -/
structure FlR (B : Nat) (w : World) (v : Value) (T : List FlT) : Prop where
  own : w.ownsRow B 68 2 v T.length (T.flatMap encF)
  inn : ∀ t ∈ T, Sl 0 3 w t.1 (ints t.2.1)

theorem sortWorldF_block {α : Type} [Inhabited α] (enc : α → List Value) (w : World) (g off q : Nat) (d : Array α) (os : Array Obj) (b : Nat) (hb : b < w.heap.size) (hne : b ≠ g) : (sortWorldK enc 2 w g off q d os).heap[b]? = w.heap[b]? := by
  show ((w.heap.modify g _) ++ os)[b]? = _
  rw [Array.getElem?_append_left (by simpa using hb), Array.getElem?_modify, if_neg (fun e => hne e.symm)]

theorem sortWorldF_sl {α : Type} [Inhabited α] {enc : α → List Value} {w : World} {g off q : Nat} {d : Array α} {os : Array Obj} {cur : Array Value} {v : Value} {xs : List Value} (hg : w.heap[g]? = some (.cells cur 68 (0, 0))) (h : Sl 0 3 w v xs) : Sl 0 3 (sortWorldK enc 2 w g off q d os) v xs :=
  h.move fun b hl ht => by
    rcases ht with ht | ⟨c, ht⟩
    · omega
    · have hne : b ≠ g := by
        rintro rfl
        rw [hg] at ht
        simp at ht
      exact ⟨sortWorldF_block _ _ _ _ _ _ _ b hl hne, Or.inr ⟨c, ht⟩⟩

theorem mem_getF (T : List FlT) (i : Nat) (h : i < T.length) : T.getD i (.slice none 0 0, [], 0) ∈ T := by
  have e : T.getD i (.slice none 0 0, [], 0) = T[i] := by simp [h]
  rw [e]
  exact List.getElem_mem _

set_option maxRecDepth 100000 in
set_option maxHeartbeats 1600000 in
theorem sortF_any (B : Nat) (T : List FlT) (v : Value) (w : World) (hv : FlR B w v T) (h0 : 0 < T.length) (hm : T.length ≤ 1000000) :
    Calls Tryz.prog 60 #[v, .func (.func 61) #[] #[]] w fun e w' => e = .returned (.tuple #[]) ∧ ∃ T' : List FlT, T'.Perm T ∧ (∀ i j, i < j → j < T'.length → ¬ fcf (T'.getD j (.slice none 0 0, [], 0)).2 (T'.getD i (.slice none 0 0, [], 0)).2 < 0) ∧ FlR B w' v T' ∧ w.grownBy w' v.ownBlock := by
  obtain ⟨g, cap, cur, hvv, hBg, hg, hc1, hc2, hc3, hc4⟩ : ∃ g cap cur, v = .slice (some ⟨g, 0, none⟩) T.length cap ∧ B ≤ g ∧ w.heap[g]? = some (.cells cur 68 (0, 0)) ∧ T.length ≤ cap ∧ cap ≤ maxLen ∧ cur.size = cap * 2 ∧ cur.toList.take (T.length * 2) = T.flatMap encF := by
    rcases hv.own.2 with ⟨_, h⟩ | h
    · omega
    · exact h
  subst hvv
  have hgw := (Array.getElem?_eq_some_iff.1 hg).1
  obtain ⟨d, hd⟩ : ∃ d : Array (RF w), d = Array.ofFn (fun i : Fin T.length => (⟨T.getD i (.slice none 0 0, [], 0), hv.inn _ (mem_getF T i.1 i.2)⟩ : RF w)) := ⟨_, rfl⟩
  have hds : d.size = T.length := by rw [hd]; exact Array.size_ofFn
  have hdi : ∀ j, j < T.length → (d[j]!).1 = T.getD j (.slice none 0 0, [], 0) := fun j hj => by
    rw [getElem!_pos d j (by omega)]
    subst hd
    exact congrArg Subtype.val (Array.getElem_ofFn _)
  have hcur : ∀ t, t < T.length * 2 → cur[t]? = (encF (T.getD (t / 2) (.slice none 0 0, [], 0)))[t % 2]? := fun t ht => by
    rw [← flatF_get T t ht, ← hc4, List.getElem?_take_of_lt ht, Array.getElem?_toList]
  have hH : HoldsK (RF.enc (w := w)) 2 w g 0 d := fun j hj => by
    have hj' : j < T.length * 2 := by simpa [hds] using hj
    rw [get_flatK _ _ _ j (by rw [hds]; exact hj')]
    have e : RF.enc (d[j / 2]!) = encF (T.getD (j / 2) (.slice none 0 0, [], 0)) := by unfold RF.enc; rw [hdi _ (by omega)]
    have h3 : j % 2 < 2 := Nat.mod_lt _ (by decide)
    refine ⟨?_, by simp [World.frozen?, hg]⟩
    rw [e]
    have h := hcur j hj'
    rw [List.getElem?_eq_getElem (by simp [encF]; exact h3)] at h
    simp only [Nat.zero_add, World.cell?, hg, id]
    rw [getElem!_pos (encF (T.getD (j / 2) (.slice none 0 0, [], 0))) (j % 2) (by simp [encF]; exact h3)]
    simpa using h
  have eg : ∀ args w, (callFunc 61 args).run Tryz.prog w = .ok (.enter 61 args) w := enters_of Tryz.func61 (by kernel_rfl) rfl
  have hcmp : CmpLays Tryz.prog 61 #[] (RF.enc (w := w)) 2 RF.cf g 0 d.size w := fun _ _ _ _ x y => flCmp_any x.1.2.1 y.1.2.1 x.1.2.2 y.1.2.2 x.1.1 y.1.1 _ (sortWorldF_sl hg x.2) (sortWorldF_sl hg y.2)
  have hcon := AnyQ.slices_SortFunc Tryz.sortF 2 Tryz.isAggF Tryz.sizeOfF (RF.enc (w := w)) (fun _ => rfl) (RF.one w) RF.cf (RF.swo w) 61 #[] g 0 cap d w eg hcmp hH hgw (by omega)
  change Calls Tryz.prog 60 _ _ _ at hcon
  rw [hds] at hcon
  refine hcon.mono ?_
  rintro e w' ⟨rfl, d', q, os, ⟨hp1, hp2, hp3⟩, hso, rfl⟩
  have hd's : d'.size = T.length := by omega
  have hat : ∀ i, i < T.length → (d'.toList.map (fun x : RF w => x.1)).getD i (.slice none 0 0, [], 0) = (d'[i]!).1 := fun i h => by
    rw [getElem!_pos d' i (by omega), List.getD_eq_getElem?_getD, List.getElem?_map, List.getElem?_eq_getElem (by simpa using (show i < d'.size by omega))]
    rfl
  have hlen : (d'.toList.map (fun x : RF w => x.1)).length = T.length := by simp [hd's]
  refine ⟨rfl, d'.toList.map (fun x : RF w => x.1), ?_, ?_, ⟨?_, ?_⟩, ?_⟩
  · have e1 : (d'.extract 0 T.length).toList = d'.toList := by rw [Array.toList_extract]; simp; exact List.take_of_length_le (by simp; omega)
    have e2 : (d.extract 0 T.length).toList = d.toList := by rw [Array.toList_extract]; simp; exact List.take_of_length_le (by simp; omega)
    rw [e1, e2] at hp3
    have hm' : d.toList.map (fun x : RF w => x.1) = T := by
      apply List.ext_getElem (by simp [hds])
      intro i h1 h2
      have h3 := hdi i h2
      rw [getElem!_pos d i (by omega)] at h3
      simp only [List.getElem_map, Array.getElem_toList]
      rw [h3]
      simp [h2]
    rw [← hm']
    exact hp3.map _
  · intro i j hij hj
    rw [hlen] at hj
    have h := of_decide_eq_false (hso i j (Nat.zero_le _) hij hj)
    rw [hat i (by omega), hat j hj]
    exact h
  · rw [hlen]
    refine ⟨by rw [flatF_len, hlen], .inr ⟨g, cap, putCells id 0 (flatK (RF.enc (w := w)) 2 d') cur, rfl, hBg, ?_, hc1, hc2, by simp [putCells, hc3], ?_⟩⟩
    · show ((w.heap.modify g _) ++ os)[g]? = _
      rw [Array.getElem?_append_left (by simpa using hgw), Array.getElem?_modify, if_pos rfl, hg]
      rfl
    · refine List.ext_getElem? fun t => ?_
      by_cases ht : t < T.length * 2
      · rw [List.getElem?_take_of_lt ht, Array.getElem?_toList, flatF_get _ t (by rw [hlen]; exact ht)]
        unfold putCells
        have hct : cur[t]? = some (cur[t]'(by rw [hc3]; have := Nat.mul_le_mul_right 2 hc1; omega)) := Array.getElem?_eq_getElem _
        have hfs : t < (flatK (RF.enc (w := w)) 2 d').size := by simpa [hd's] using ht
        rw [Array.getElem?_mapIdx, hct]
        have hcnd : (0 ≤ t ∧ t < 0 + (flatK (RF.enc (w := w)) 2 d').size) := ⟨Nat.zero_le _, by omega⟩
        simp only [Option.map_some, if_pos hcnd, Nat.sub_zero, id]
        rw [get_flatK _ _ _ t (by rw [hd's]; exact ht)]
        have e : RF.enc (d'[t / 2]!) = encF ((d'.toList.map (fun x : RF w => x.1)).getD (t / 2) (.slice none 0 0, [], 0)) := by unfold RF.enc; rw [hat _ (by omega)]
        rw [e]
        have h3 : t % 2 < 2 := Nat.mod_lt _ (by decide)
        rw [List.getElem?_eq_getElem (by simp [encF]; exact h3), getElem!_pos _ (t % 2) (by simp [encF]; exact h3)]
      · rw [List.getElem?_eq_none (by simp; omega), List.getElem?_eq_none (by rw [flatF_len, hlen]; omega)]
  · intro t ht
    obtain ⟨x, _, rfl⟩ := List.mem_map.1 ht
    exact sortWorldF_sl hg x.2
  · refine ⟨rfl, rfl, rfl, ?_, fun b hb hne => sortWorldF_block _ _ _ _ _ _ _ b hb (fun e => hne (by rw [e]; rfl))⟩
    show w.heap.size ≤ ((w.heap.modify g _) ++ os).size
    simp

end Go.Proofs.YtgfnmkenpgnllaaGreat
