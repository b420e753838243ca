import Derived.Test.YtmljnfgfjcjmmaaFlA
import Derived.Test.YtmljnfgfjcjmmaaOfAll
/- Flats, sorted by ranks, then as lists. -/
namespace Go.Proofs.Ytmljnfgfjcjmmaa
open Go.Shelf Go.RowKit Go.Lib Go.Sort

theorem cmpL_selfH : ∀ x, cmpL x x = 0
  | [] => rfl
  | a :: x => by simp [cmpL, cmpL_selfH x]

theorem cmpL_transH : ∀ x y z, cmpL x y < 0 → cmpL y z < 0 → cmpL x z < 0
  | [], [], _, h, _ => by simp [cmpL] at h
  | [], b :: y, [], _, h => by simp [cmpL] at h
  | [], b :: y, c :: z, _, _ => by simp [cmpL]
  | a :: x, [], _, h, _ => by simp [cmpL] at h
  | a :: x, b :: y, [], _, h => by simp [cmpL] at h
  | a :: x, b :: y, c :: z, h1, h2 => by
    have ih := cmpL_transH x y z
    simp only [cmpL] at *
    split at h1 <;> split at h2 <;> split <;> (try split at h1) <;> (try split at h2) <;> (try split) <;> first | omega | (exact ih h1 h2)

theorem cmpL_ntransH : ∀ x y z, ¬ cmpL x y < 0 → ¬ cmpL y z < 0 → ¬ cmpL x z < 0
  | [], [], z, _, h => h
  | [], b :: y, _, h, _ => by simp [cmpL] at h
  | a :: x, [], [], _, _ => by simp [cmpL]
  | a :: x, [], c :: z, _, h => by simp [cmpL] at h
  | a :: x, b :: y, [], _, _ => by simp [cmpL]
  | a :: x, b :: y, c :: z, h1, h2 => by
    have ih := cmpL_ntransH x y z
    simp only [cmpL] at *
    split at h1 <;> split at h2 <;> split <;> (try split at h1) <;> (try split at h2) <;> (try split) <;> first | omega | (exact ih h1 h2)

/-- A flat: its slice, what it reads, its rank. -/
abbrev FlT := Value × List Int × Nat

def encF (t : FlT) : List Value := [t.1, .int .i64 (t.2.2 : Nat)]

def RF (w : World) : Type := { p : FlT // Sl 0 3 w p.1 (ints p.2.1) }

instance (w : World) : Inhabited (RF w) := ⟨⟨(.slice none 0 0, [], 0), Sl.nil _ _ _⟩⟩

def RF.enc {w : World} (x : RF w) : List Value := encF x.1

/-- By ranks, then in order. -/
def fcf (x y : List Int × Nat) : Int := orL [cmpI (x.2 : Nat) (y.2 : Nat), cmpL x.1 y.1]
def RF.cf {w : World} (x y : RF w) : Int := fcf x.1.2 y.1.2

theorem fcf_lt (x y : List Int × Nat) : fcf x y < 0 ↔ x.2 < y.2 ∨ (x.2 = y.2 ∧ cmpL x.1 y.1 < 0) := by
  unfold fcf
  by_cases h : cmpI (x.2 : Nat) (y.2 : Nat) = 0
  · have e := cmpI_zero.1 h
    have : orL [cmpI (x.2 : Nat) (y.2 : Nat), cmpL x.1 y.1] = cmpL x.1 y.1 := by
      rw [h]
      simp [orL]
      omega
    rw [this]
    constructor
    · intro h2; exact .inr ⟨by omega, h2⟩
    · rintro (h2 | h2)
      · omega
      · exact h2.2
  · have : orL [cmpI (x.2 : Nat) (y.2 : Nat), cmpL x.1 y.1] = cmpI (x.2 : Nat) (y.2 : Nat) := orL_at (l := [cmpI (x.2 : Nat) (y.2 : Nat), cmpL x.1 y.1]) (k := 0) (by simp) (by simp) h
    rw [this, cmpI_lt]
    have hne : ¬ x.2 = y.2 := fun e => h (cmpI_zero.2 (by omega))
    constructor
    · intro h2; exact .inl (by omega)
    · rintro (h2 | h2)
      · omega
      · exact absurd h2.1 hne

theorem RF.swo (w : World) : SWO (ltOf (RF.cf (w := w))) where
  irrefl x := by
    refine decide_eq_false fun h => ?_
    rcases (fcf_lt _ _).1 h with h | ⟨_, h⟩
    · omega
    · rw [cmpL_selfH] at h; exact absurd h (by decide)
  trans x y z h1 h2 := by
    refine decide_eq_true ((fcf_lt _ _).2 ?_)
    rcases (fcf_lt _ _).1 (of_decide_eq_true h1) with a1 | ⟨a1, b1⟩ <;> rcases (fcf_lt _ _).1 (of_decide_eq_true h2) with a2 | ⟨a2, b2⟩
    · exact Or.inl (by omega)
    · exact Or.inl (by omega)
    · exact Or.inl (by omega)
    · exact Or.inr ⟨by omega, cmpL_transH _ _ _ b1 b2⟩
  ntrans x y z h1 h2 := by
    refine decide_eq_false fun h => ?_
    have g1 := fun k => of_decide_eq_false h1 ((fcf_lt _ _).2 k)
    have g2 := fun k => of_decide_eq_false h2 ((fcf_lt _ _).2 k)
    have p1 : ¬ x.1.2.2 < y.1.2.2 := fun k => g1 (Or.inl k)
    have p2 : ¬ y.1.2.2 < z.1.2.2 := fun k => g2 (Or.inl k)
    rcases (fcf_lt _ _).1 h with a | ⟨a, b⟩
    · omega
    · have e1 : x.1.2.2 = y.1.2.2 := by omega
      have e2 : y.1.2.2 = z.1.2.2 := by omega
      exact cmpL_ntransH _ _ _ (fun k => g1 (Or.inr ⟨e1, k⟩)) (fun k => g2 (Or.inr ⟨e2, k⟩)) b

theorem RF.one (w : World) (x : RF w) : ∀ v ∈ RF.enc x, v.oneCell' = true := by
  intro v hv
  obtain ⟨ao, cap, h, _⟩ := x.2
  simp only [RF.enc, encF, List.mem_cons, List.not_mem_nil, or_false] at hv
  rcases hv with rfl | rfl
  · rw [h]; rfl
  · rfl

set_option maxRecDepth 100000 in
set_option maxHeartbeats 1600000 in
theorem flCmp_any (x y : List Int) (a b : Nat) (u v : Value) (w : World) (hu : Sl 0 3 w u (ints x)) (hv : Sl 0 3 w v (ints y)) :
    Calls Try.prog 28 #[.agg #[u, .int .i64 a], .agg #[v, .int .i64 b]] w fun e w' => e = .returned (.int .i64 (fcf (x, a) (y, b))) ∧ ∃ q os', w' = Go.Sort.grow (w.drewN q) os' := by
  obtain ⟨W1, hW1⟩ : ∃ W1, W1 = w.alloc (.cells #[u, .int .i64 a] 51) := ⟨_, rfl⟩
  obtain ⟨W, hW⟩ : ∃ W, W = W1.alloc (.cells #[v, .int .i64 b] 51) := ⟨_, rfl⟩
  have hb1 : Below w.heap.size w W1 := by rw [hW1]; exact alloc_keep _ _
  have hb2 : Below W1.heap.size W1 W := by rw [hW]; exact alloc_keep _ _
  have hs1 : W1.heap.size = w.heap.size + 1 := by rw [hW1]; exact size_alloc _ _
  have hs2 : W.heap.size = w.heap.size + 2 := by rw [hW, size_alloc, hs1]
  have hk1 : W1.heap[w.heap.size]? = some (.cells #[u, .int .i64 a] 51 (0, 0)) := by rw [hW1]; exact alloc_new _ _
  have hk2 : W.heap[w.heap.size + 1]? = some (.cells #[v, .int .i64 b] 51 (0, 0)) := by rw [hW, ← hs1]; exact alloc_new _ _
  have hbW : Below w.heap.size w W := hb1.trans (hb2.mono hb1.size)
  have hk3 := (hb2.block w.heap.size (by omega)).trans hk1
  have hu2 := hu.below (hbW.trans (((Below.refl _ _).drew (w := W)).mono hbW.size)) (Nat.le_refl _)
  have hv2 := hv.below (hbW.trans (((Below.refl _ _).drew (w := W)).mono hbW.size)) (Nat.le_refl _)
  have H4 := compare_any 0 x y u v W.drew hu2 hv2
  have H3 := cmpI_any (a : Nat) (b : Nat) W.drew
  have H5 := orI_any 0 [cmpI (a : Nat) (b : Nat), cmpL x y] _ _ (two_sl (w := W.drew))
  have HWW : Hid (W = (w.alloc (.cells #[u, .int .i64 a] 51)).alloc (.cells #[v, .int .i64 b] 51)) := by show _ = _; rw [hW, hW1]
  have HFC : Hid (fcf (x, a) (y, b) = orL [cmpI (a : Nat) (b : Nat), cmpL x y]) := rfl
  have HC : Hid (∀ X : World, (∀ k, k < W.heap.size → X.heap[k]? = W.heap[k]?) → X.cell? ⟨w.heap.size, 0, none⟩ = some u ∧ X.cell? ⟨w.heap.size, 1, none⟩ = some (.int .i64 a) ∧ X.cell? ⟨w.heap.size + 1, 0, none⟩ = some v ∧ X.cell? ⟨w.heap.size + 1, 1, none⟩ = some (.int .i64 b)) := fun X hX => by
    have q1 := (hX w.heap.size (by omega)).trans hk3
    have q2 := (hX (w.heap.size + 1) (by omega)).trans hk2
    exact ⟨by simp [World.cell?, q1], by simp [World.cell?, q1], by simp [World.cell?, q2], by simp [World.cell?, q2]⟩
  obtain ⟨uo, uc, rfl, _, _⟩ := sl_open hu
  obtain ⟨vo, vc, rfl, _, _⟩ := sl_open hv
  clear hu hv hu2 hv2 hb1 hb2 hk1 hk2 hk3 hbW hW hW1 hs1 hs2
  generalize cmpL x y = cl at *
  generalize cmpI (a : Nat) (b : Nat) = ci at *
  generalize fcf (x, a) (y, b) = fc at *
  generalize orL [ci, cl] = oc at *
  go_enter Try.func28, Try.ntmps28
  go_upto_region 1 with fail
  rw [← HWW.out]
  refine wp_region_held_drew (S := fun X => X.cell? ⟨w.heap.size, 0, none⟩ = some (.slice uo x.length uc) ∧ X.cell? ⟨w.heap.size, 1, none⟩ = some (.int .i64 a) ∧ X.cell? ⟨w.heap.size + 1, 0, none⟩ = some (.slice vo y.length vc) ∧ X.cell? ⟨w.heap.size + 1, 1, none⟩ = some (.int .i64 b)) (by kernel_rfl) (HC.out _ (fun _ _ => rfl)) (fun hHeld => ?_)
  refine wpAnyH_tk (i := 0) (d := 5) (v := (.pointer (some ⟨w.heap.size, 1, none⟩))) rfl rfl (by kernel_rfl) (by kernel_rfl) (by kernel_rfl) (fun _ _ _ h => h) (.inl ⟨by rfl, by (intro wq hSw; (try dsimp only at hSw); go_simp; (try (first | rfl | omega)))⟩) hHeld ?_
  simp only [Act.put, List.setIfInBounds_toArray, List.set_cons_zero, List.set_cons_succ]
  refine wpAnyH_tk (i := 1) (d := 6) (v := (.int .i64 (a : Nat))) rfl rfl (by kernel_rfl) (by kernel_rfl) (by kernel_rfl) (fun _ _ _ h => h) (.inl ⟨by rfl, by (intro wq hSw; (try dsimp only at hSw); go_simp; (try (first | rfl | omega)))⟩) hHeld ?_
  simp only [Act.put, List.setIfInBounds_toArray, List.set_cons_zero, List.set_cons_succ]
  refine wpAnyH_tk (i := 2) (d := 7) (v := (.pointer (some ⟨w.heap.size + 1, 1, none⟩))) rfl rfl (by kernel_rfl) (by kernel_rfl) (by kernel_rfl) (fun _ _ _ h => h) (.inl ⟨by rfl, by (intro wq hSw; (try dsimp only at hSw); go_simp; (try (first | rfl | omega)))⟩) hHeld ?_
  simp only [Act.put, List.setIfInBounds_toArray, List.set_cons_zero, List.set_cons_succ]
  refine wpAnyH_tk (i := 3) (d := 8) (v := (.int .i64 (b : Nat))) rfl rfl (by kernel_rfl) (by kernel_rfl) (by kernel_rfl) (fun _ _ _ h => h) (.inl ⟨by rfl, by (intro wq hSw; (try dsimp only at hSw); go_simp; (try (first | rfl | omega)))⟩) hHeld ?_
  simp only [Act.put, List.setIfInBounds_toArray, List.set_cons_zero, List.set_cons_succ]
  refine wpAnyH_tk (i := 5) (d := 10) (v := (.pointer (some ⟨w.heap.size, 0, none⟩))) rfl rfl (by kernel_rfl) (by kernel_rfl) (by kernel_rfl) (fun _ _ _ h => h) (.inl ⟨by rfl, by (intro wq hSw; (try dsimp only at hSw); go_simp; (try (first | rfl | omega)))⟩) hHeld ?_
  simp only [Act.put, List.setIfInBounds_toArray, List.set_cons_zero, List.set_cons_succ]
  refine wpAnyH_tk (i := 6) (d := 11) (v := (.slice uo x.length uc)) rfl rfl (by kernel_rfl) (by kernel_rfl) (by kernel_rfl) (fun _ _ _ h => h) (.inl ⟨by rfl, by (intro wq hSw; (try dsimp only at hSw); go_simp; (try (first | rfl | omega)))⟩) hHeld ?_
  simp only [Act.put, List.setIfInBounds_toArray, List.set_cons_zero, List.set_cons_succ]
  refine wpAnyH_tk (i := 7) (d := 12) (v := (.pointer (some ⟨w.heap.size + 1, 0, none⟩))) rfl rfl (by kernel_rfl) (by kernel_rfl) (by kernel_rfl) (fun _ _ _ h => h) (.inl ⟨by rfl, by (intro wq hSw; (try dsimp only at hSw); go_simp; (try (first | rfl | omega)))⟩) hHeld ?_
  simp only [Act.put, List.setIfInBounds_toArray, List.set_cons_zero, List.set_cons_succ]
  refine wpAnyH_tk (i := 8) (d := 13) (v := (.slice vo y.length vc)) rfl rfl (by kernel_rfl) (by kernel_rfl) (by kernel_rfl) (fun _ _ _ h => h) (.inl ⟨by rfl, by (intro wq hSw; (try dsimp only at hSw); go_simp; (try (first | rfl | omega)))⟩) hHeld ?_
  simp only [Act.put, List.setIfInBounds_toArray, List.set_cons_zero, List.set_cons_succ]
  refine wpAnyH_ready (rs := [4]) (by kernel_rfl) (by simp) ?_
  refine ready_tk (i := 4) rfl (by rfl) (fun K hK => ?_) AllReadyH.nil
  go_simp
  refine H3.mono ?_
  rintro e w5 ⟨rfl, rfl⟩
  refine hK.out _ _ (HC.out _ (fun _ _ => rfl)) (fun hHeld => ?_)
  clear hK K
  refine wpAnyH_ready (rs := [9]) (by kernel_rfl) (by simp) ?_
  refine ready_tk (i := 9) rfl (by rfl) (fun K hK => ?_) AllReadyH.nil
  go_simp
  refine H4.mono ?_
  rintro e w6 ⟨rfl, rfl⟩
  refine hK.out _ _ (HC.out _ (fun _ _ => rfl)) (fun hHeld => ?_)
  clear hK K
  refine wpAnyH_ready (rs := [10]) (by kernel_rfl) (by simp) ?_
  refine ready_tk (i := 10) rfl (by rfl) (fun K hK => ?_) AllReadyH.nil
  go_simp
  refine hK.out _ _ (HC.out _ (fun k hk => Below.heap_alloc _ _ _ hk)) (fun hHeld => ?_)
  clear hK K
  refine wpAnyH_ready (rs := [11]) (by kernel_rfl) (by simp) ?_
  refine ready_tk (i := 11) rfl (by rfl) (fun K hK => ?_) AllReadyH.nil
  go_simp
  refine H5.mono ?_
  rintro e w7 ⟨rfl, rfl⟩
  refine hK.out _ _ (HC.out _ (fun k hk => Below.heap_alloc _ _ _ hk)) (fun hHeld => ?_)
  clear hK K
  refine wpAnyH_tk (i := 12) (d := 4) (v := (.int .i64 oc)) rfl rfl (by kernel_rfl) (by kernel_rfl) (by kernel_rfl) (fun _ _ _ h => h) (.inl ⟨by rfl, by (intro wq hSw; (try dsimp only at hSw); go_simp; (try (first | rfl | omega)))⟩) hHeld ?_
  simp only [Act.put, List.setIfInBounds_toArray, List.set_cons_zero, List.set_cons_succ]
  refine wpAnyH_done (by kernel_rfl) ?_ _
  clear hHeld
  go_wp2
  go_ret
  refine ⟨by rw [HFC.out]; rfl, 1, #[.cells #[.slice uo x.length uc, .int .i64 a] 51, .cells #[.slice vo y.length vc, .int .i64 b] 51, .cells #[.int .i64 ci, .int .i64 cl] 3], ?_⟩
  rw [HWW.out]
  rfl

theorem flatF_get : ∀ (T : List FlT) (t : Nat), t < T.length * 2 → (T.flatMap encF)[t]? = (encF (T.getD (t / 2) (.slice none 0 0, [], 0)))[t % 2]?
  | [], t, h => by simp at h
  | x :: T, t, h => by
    rw [List.flatMap_cons]
    by_cases ht : t < 2
    · rw [List.getElem?_append_left (by simp [encF]; exact ht), Nat.div_eq_of_lt ht, Nat.mod_eq_of_lt ht]
      simp
    · rw [List.getElem?_append_right (by simp [encF]; omega)]
      have ih := flatF_get T (t - 2) (by simp at h; omega)
      have e1 : (encF x).length = 2 := rfl
      rw [e1, ih]
      have e2 : t / 2 = (t - 2) / 2 + 1 := by omega
      have e3 : t % 2 = (t - 2) % 2 := by omega
      rw [e2, e3]
      simp

theorem flatF_len (T : List FlT) : (T.flatMap encF).length = T.length * 2 := by
  induction T with
  | nil => rfl
  | cons x T ih => rw [List.flatMap_cons, List.length_append, ih]; simp [encF]; omega

theorem Try.isAggF : ∀ w, (isAgg 51).run Try.prog w = .ok true w := fun w => by kernel_rfl
theorem Try.infoF : (Try.prog.info? 51).map (fun i => (i.zero, i.size, i.bytes)) = some (some (.agg #[.slice none 0 0, .int .i64 0]), 2, 32) := by kernel_rfl
theorem Try.sizeOfF : ∀ w, (Go.sizeOf 51).run Try.prog w = .ok 2 w := fun w => by kernel_rfl

/-- A row of flats: the structs owned, each list read. -/
structure FlR (B : Nat) (w : World) (v : Value) (T : List FlT) : Prop where
  own : w.ownsRow B 51 2 v T.length (T.flatMap encF)
  inn : ∀ t ∈ T, Sl 0 3 w t.1 (ints t.2.1)

theorem sortWorldF_block {α : Type} [Inhabited α] (enc : α → List Value) (w : World) (g off q : Nat) (d : Array α) (os : Array Obj) (b : Nat) (hb : b < w.heap.size) (hne : b ≠ g) : (sortWorldK enc 2 w g off q d os).heap[b]? = w.heap[b]? := by
  show ((w.heap.modify g _) ++ os)[b]? = _
  rw [Array.getElem?_append_left (by simpa using hb), Array.getElem?_modify, if_neg (fun e => hne e.symm)]

theorem sortWorldF_sl {α : Type} [Inhabited α] {enc : α → List Value} {w : World} {g off q : Nat} {d : Array α} {os : Array Obj} {cur : Array Value} {v : Value} {xs : List Value} (hg : w.heap[g]? = some (.cells cur 51 (0, 0))) (h : Sl 0 3 w v xs) : Sl 0 3 (sortWorldK enc 2 w g off q d os) v xs :=
  h.move fun b hl ht => by
    rcases ht with ht | ⟨c, ht⟩
    · omega
    · have hne : b ≠ g := by
        rintro rfl
        rw [hg] at ht
        simp at ht
      exact ⟨sortWorldF_block _ _ _ _ _ _ _ b hl hne, Or.inr ⟨c, ht⟩⟩

theorem mem_getF (T : List FlT) (i : Nat) (h : i < T.length) : T.getD i (.slice none 0 0, [], 0) ∈ T := by
  have e : T.getD i (.slice none 0 0, [], 0) = T[i] := by simp [h]
  rw [e]
  exact List.getElem_mem _

set_option maxRecDepth 100000 in
set_option maxHeartbeats 1600000 in
theorem sortF_any (B : Nat) (T : List FlT) (v : Value) (w : World) (hv : FlR B w v T) (h0 : 0 < T.length) (hm : T.length ≤ 1000000) :
    Calls Try.prog 27 #[v, .func (.func 28) #[] #[]] w fun e w' => e = .returned (.tuple #[]) ∧ ∃ T' : List FlT, T'.Perm T ∧ (∀ i j, i < j → j < T'.length → ¬ fcf (T'.getD j (.slice none 0 0, [], 0)).2 (T'.getD i (.slice none 0 0, [], 0)).2 < 0) ∧ FlR B w' v T' ∧ w.grownBy w' v.ownBlock := by
  obtain ⟨g, cap, cur, hvv, hBg, hg, hc1, hc2, hc3, hc4⟩ : ∃ g cap cur, v = .slice (some ⟨g, 0, none⟩) T.length cap ∧ B ≤ g ∧ w.heap[g]? = some (.cells cur 51 (0, 0)) ∧ T.length ≤ cap ∧ cap ≤ maxLen ∧ cur.size = cap * 2 ∧ cur.toList.take (T.length * 2) = T.flatMap encF := by
    rcases hv.own.2 with ⟨_, h⟩ | h
    · omega
    · exact h
  subst hvv
  have hgw := (Array.getElem?_eq_some_iff.1 hg).1
  obtain ⟨d, hd⟩ : ∃ d : Array (RF w), d = Array.ofFn (fun i : Fin T.length => (⟨T.getD i (.slice none 0 0, [], 0), hv.inn _ (mem_getF T i.1 i.2)⟩ : RF w)) := ⟨_, rfl⟩
  have hds : d.size = T.length := by rw [hd]; exact Array.size_ofFn
  have hdi : ∀ j, j < T.length → (d[j]!).1 = T.getD j (.slice none 0 0, [], 0) := fun j hj => by
    rw [getElem!_pos d j (by omega)]
    subst hd
    exact congrArg Subtype.val (Array.getElem_ofFn _)
  have hcur : ∀ t, t < T.length * 2 → cur[t]? = (encF (T.getD (t / 2) (.slice none 0 0, [], 0)))[t % 2]? := fun t ht => by
    rw [← flatF_get T t ht, ← hc4, List.getElem?_take_of_lt ht, Array.getElem?_toList]
  have hH : HoldsK (RF.enc (w := w)) 2 w g 0 d := fun j hj => by
    have hj' : j < T.length * 2 := by simpa [hds] using hj
    rw [get_flatK _ _ _ j (by rw [hds]; exact hj')]
    have e : RF.enc (d[j / 2]!) = encF (T.getD (j / 2) (.slice none 0 0, [], 0)) := by unfold RF.enc; rw [hdi _ (by omega)]
    have h3 : j % 2 < 2 := Nat.mod_lt _ (by decide)
    refine ⟨?_, by simp [World.frozen?, hg]⟩
    rw [e]
    have h := hcur j hj'
    rw [List.getElem?_eq_getElem (by simp [encF]; exact h3)] at h
    simp only [Nat.zero_add, World.cell?, hg, id]
    rw [getElem!_pos (encF (T.getD (j / 2) (.slice none 0 0, [], 0))) (j % 2) (by simp [encF]; exact h3)]
    simpa using h
  have eg : ∀ args w, (callFunc 28 args).run Try.prog w = .ok (.enter 28 args) w := enters_of Try.func28 (by kernel_rfl) rfl
  have hcmp : CmpLays Try.prog 28 #[] (RF.enc (w := w)) 2 RF.cf g 0 d.size w := fun _ _ _ _ x y => flCmp_any x.1.2.1 y.1.2.1 x.1.2.2 y.1.2.2 x.1.1 y.1.1 _ (sortWorldF_sl hg x.2) (sortWorldF_sl hg y.2)
  have hcon := AnyQ.slices_SortFunc Try.sortF 2 Try.isAggF Try.sizeOfF (RF.enc (w := w)) (fun _ => rfl) (RF.one w) RF.cf (RF.swo w) 28 #[] g 0 cap d w eg hcmp hH hgw (by omega)
  change Calls Try.prog 27 _ _ _ at hcon
  rw [hds] at hcon
  refine hcon.mono ?_
  rintro e w' ⟨rfl, d', q, os, ⟨hp1, hp2, hp3⟩, hso, rfl⟩
  have hd's : d'.size = T.length := by omega
  have hat : ∀ i, i < T.length → (d'.toList.map (fun x : RF w => x.1)).getD i (.slice none 0 0, [], 0) = (d'[i]!).1 := fun i h => by
    rw [getElem!_pos d' i (by omega), List.getD_eq_getElem?_getD, List.getElem?_map, List.getElem?_eq_getElem (by simpa using (show i < d'.size by omega))]
    rfl
  have hlen : (d'.toList.map (fun x : RF w => x.1)).length = T.length := by simp [hd's]
  refine ⟨rfl, d'.toList.map (fun x : RF w => x.1), ?_, ?_, ⟨?_, ?_⟩, ?_⟩
  · have e1 : (d'.extract 0 T.length).toList = d'.toList := by rw [Array.toList_extract]; simp; exact List.take_of_length_le (by simp; omega)
    have e2 : (d.extract 0 T.length).toList = d.toList := by rw [Array.toList_extract]; simp; exact List.take_of_length_le (by simp; omega)
    rw [e1, e2] at hp3
    have hm' : d.toList.map (fun x : RF w => x.1) = T := by
      apply List.ext_getElem (by simp [hds])
      intro i h1 h2
      have h3 := hdi i h2
      rw [getElem!_pos d i (by omega)] at h3
      simp only [List.getElem_map, Array.getElem_toList]
      rw [h3]
      simp [h2]
    rw [← hm']
    exact hp3.map _
  · intro i j hij hj
    rw [hlen] at hj
    have h := of_decide_eq_false (hso i j (Nat.zero_le _) hij hj)
    rw [hat i (by omega), hat j hj]
    exact h
  · rw [hlen]
    refine ⟨by rw [flatF_len, hlen], .inr ⟨g, cap, putCells id 0 (flatK (RF.enc (w := w)) 2 d') cur, rfl, hBg, ?_, hc1, hc2, by simp [putCells, hc3], ?_⟩⟩
    · show ((w.heap.modify g _) ++ os)[g]? = _
      rw [Array.getElem?_append_left (by simpa using hgw), Array.getElem?_modify, if_pos rfl, hg]
      rfl
    · refine List.ext_getElem? fun t => ?_
      by_cases ht : t < T.length * 2
      · rw [List.getElem?_take_of_lt ht, Array.getElem?_toList, flatF_get _ t (by rw [hlen]; exact ht)]
        unfold putCells
        have hct : cur[t]? = some (cur[t]'(by rw [hc3]; have := Nat.mul_le_mul_right 2 hc1; omega)) := Array.getElem?_eq_getElem _
        have hfs : t < (flatK (RF.enc (w := w)) 2 d').size := by simpa [hd's] using ht
        rw [Array.getElem?_mapIdx, hct]
        have hcnd : (0 ≤ t ∧ t < 0 + (flatK (RF.enc (w := w)) 2 d').size) := ⟨Nat.zero_le _, by omega⟩
        simp only [Option.map_some, if_pos hcnd, Nat.sub_zero, id]
        rw [get_flatK _ _ _ t (by rw [hd's]; exact ht)]
        have e : RF.enc (d'[t / 2]!) = encF ((d'.toList.map (fun x : RF w => x.1)).getD (t / 2) (.slice none 0 0, [], 0)) := by unfold RF.enc; rw [hat _ (by omega)]
        rw [e]
        have h3 : t % 2 < 2 := Nat.mod_lt _ (by decide)
        rw [List.getElem?_eq_getElem (by simp [encF]; exact h3), getElem!_pos _ (t % 2) (by simp [encF]; exact h3)]
      · rw [List.getElem?_eq_none (by simp; omega), List.getElem?_eq_none (by rw [flatF_len, hlen]; omega)]
  · intro t ht
    obtain ⟨x, _, rfl⟩ := List.mem_map.1 ht
    exact sortWorldF_sl hg x.2
  · refine ⟨rfl, rfl, rfl, ?_, fun b hb hne => sortWorldF_block _ _ _ _ _ _ _ b hb (fun e => hne (by rw [e]; rfl))⟩
    show w.heap.size ≤ ((w.heap.modify g _) ++ os).size
    simp

end Go.Proofs.Ytmljnfgfjcjmmaa

/- A range over an iterator that hands over what is new: the caller knows the world ahead of it. -/
namespace Go.Proofs.Ytmljnfgfjcjmmaa
open Go Go.RowKit

/-- The iterator's contract, with the world ahead of what is handed over: it hands over all of cs, in order, or a part of it, the last of which had the round say 'no more'. R W0 W S x vs: what is known of the values handed over. T: blocks that a round must keep besides. -/
def SeqF {α : Type} (P : Program) (g : Nat) (lb : Array Value) (R : World → World → (Nat → Prop) → α → Array Value → Prop) (cs : List α) (T S0 : Nat → Prop) (w0 : World) : Prop :=
  ∀ (l : Nat) (J Jx : (Nat → Prop) → List α → World → Prop) (W : World), Below w0.heap.size w0 W → Stab J → Stab Jx →
    (∀ m S pre x vs W0 W1, J S pre W0 → J S pre W1 → (pre ++ [x]) <+: cs → R W0 W1 S x vs → YieldAt Fence.wide m P l vs W1 fun e W' => Kpt (fun b => S b ∨ T b) W1 W' ∧
      ((e = .returned (.bool true) ∧ J S (pre ++ [x]) W') ∨ (e = .returned (.bool false) ∧ Jx S (pre ++ [x]) W'))) →
    J S0 [] W →
    CallsIn Fence.wide 0 P g (#[.func (.yield l) #[] #[]] ++ lb) W fun e W' => (∃ v, e = .returned v) ∧ ((∃ S, J S cs W') ∨ (∃ S pre, pre <+: cs ∧ Jx S pre W'))

set_option maxHeartbeats 1000000 in
/-- The law: an outermost loop. D: the block for deferred calls; l = D + 1: the record. In the body's sight both are among S. -/
theorem range_f {α : Type} {P : Program} {n : Nat} {g : Operand} {ps : Array Tmp} {assign body : Code} {Q : Exit → Act → World → Prop} {a : Act} {w : World}
    {gf : Nat} {lb : Array Value} (hg : a.eval g = .func (.func gf) #[] lb) (eg : ∀ args w, (callFunc gf args).run P w = .ok (.enter gf args) w)
    {R : World → World → (Nat → Prop) → α → Array Value → Prop} {cs : List α} {T S0 : Nat → Prop} (hseq : SeqF P gf lb R cs T S0 w) (hS0 : ∀ b, S0 b → b < w.heap.size)
    (hps : ∀ W0 W S x vs, R W0 W S x vs → vs.size = ps.size)
    (hR1 : ∀ W0 W S x vs W', R W0 W S x vs → Below W.heap.size W W' → R W0 W' S x vs)
    (hR2 : ∀ W0 W S x vs l r o, R W0 W S x vs → W.heap[l]? = some (.loop r) → R W0 (W.putObj l o) S x vs)
    (I : (Nat → Prop) → List α → World → Prop) (Ix : Code → (Nat → Prop) → List α → World → Prop) (hI : Stab I) (hIx : ∀ c, Stab (Ix c)) (h0 : I S0 [] w)
    (Ax : Array Value → Act → World → Prop) (hAx : ∀ vs a' W l r o, Ax vs a' W → W.heap[l]? = some (.loop r) → Ax vs a' (W.putObj l o))
    (hassign : ∀ (S : Nat → Prop) (x : α) (vs : Array Value) (W0 W : World) (K : Act → World → Prop), R W0 W S x vs → (∀ a' W', Below W.heap.size W W' → Ax vs a' W' → K a' W') →
      assign.wpIn (Fence.wide.inRound (w.heap.size + 1)) (n - 1 - 1) P (Exit.then K (fun _ _ _ => False)) { tmps := (ps.zip vs).foldl (fun t (p, v) => t.setIfInBounds p v) a.tmps, defers := [] } W)
    (hbody : ∀ (S : Nat → Prop) (pre : List α) (x : α) (vs : Array Value) (a' : Act) (W : World), I S pre W → S w.heap.size → S (w.heap.size + 1) → w.heap.size + 1 < W.heap.size → W.heap[w.heap.size]? = some (.deferred (some [])) → (∃ r, W.heap[w.heap.size + 1]? = some (.loop r)) → (pre ++ [x]) <+: cs → (∃ S1 W0, I S pre W0 ∧ R W0 W S1 x vs ∧ ∀ b, S b ↔ (S1 b ∨ b = w.heap.size ∨ b = w.heap.size + 1)) → Ax vs a' W →
      body.wpIn (Fence.wide.inRound (w.heap.size + 1)) (n - 1 - 1) P (postS (Kpt fun b => S b ∨ T b) (I S) (fun c => Ix c S) (pre ++ [x]) W) a' W)
    (hTl : ¬ T (w.heap.size + 1))
    (hdone : ∀ (S : Nat → Prop) (W : World), I S cs W → S w.heap.size → W.heap[w.heap.size]? = some (.deferred (some [])) → Q .normal { a with defers := { target := .collected w.heap.size, args := #[] } :: a.defers } W)
    (hstop : ∀ (c : Code) (S : Nat → Prop) (pre : List α) (W : World), pre <+: cs → Ix c S pre W → S w.heap.size → W.heap[w.heap.size]? = some (.deferred (some [])) → c.wpIn Fence.wide n P Q { a with defers := { target := .collected w.heap.size, args := #[] } :: a.defers } W) :
    (Code.rangeFunc g ps assign body).wpIn Fence.wide n P Q a w := by
  refine wpIn_rangeFunc ?_
  intro fn hfn
  obtain ⟨D, hD⟩ : ∃ D, D = w.heap.size := ⟨_, rfl⟩
  obtain ⟨rec, hrec⟩ : ∃ rec : LoopState → Option Code → Loop, rec = fun st pe => { state := st, pending := pe, fn, tmps := a.tmps, params := ps, assign, body, defers := D } := ⟨_, rfl⟩
  obtain ⟨W1, hW1⟩ : ∃ W1, (w.alloc (.deferred (some []))).alloc (.loop (rec .ready none)) = W1 := ⟨_, rfl⟩
  have hL1 : W1.heap[D + 1]? = some (.loop (rec .ready none)) := by
    rw [← hW1, hD]; have := World.alloc_heap_new (w.alloc (.deferred (some []))) (.loop (rec .ready none)); rwa [World.size_alloc] at this
  have hK1 : W1.heap[D]? = some (.deferred (some [])) := by
    rw [← hW1, hD]; exact (Below.heap_alloc _ _ _ (by simp)).trans (World.alloc_heap_new w _)
  have hb1 : Below w.heap.size w W1 := by
    rw [← hW1]; exact ((Below.refl _ w).alloc (Nat.le_refl _) _).alloc (by simp) _
  have hI1 : I (fun b => S0 b ∨ b = D ∨ b = D + 1) [] W1 := hI S0 _ [] w W1 h0 (Chg.of_below hb1 (Nat.le_refl _)) (fun b hb => by
    rcases hb with hb | hb | hb
    · exact .inl hb
    · exact .inr (by omega)
    · exact .inr (by omega))
  have hnS : ¬ S0 D ∧ ¬ S0 (D + 1) := ⟨fun h => by have := hS0 _ h; omega, fun h => by have := hS0 _ h; omega⟩
  refine ⟨D + 1, [{ target := .collected D, args := #[] }], W1, { target := .fn (.func gf) lb, args := #[.func (.yield (D + 1)) #[] #[]] }, W1, gf,
    #[.func (.yield (D + 1)) #[] #[]] ++ lb, W1, ?_, ?_, ?_, ?_, fun h => (by cases h), ?_⟩
  · rw [← hW1, hrec, hD]; exact run_enterLoop_outer _ _ _ _ _
  · simp only [resolve, hg]
    simp [go_sem]
  · intro f' hf'; trivial
  · simp [invoke, go_sem, eg]
  · have stx : ∀ (X : (Nat → Prop) → List α → World → Prop), Stab X → ∀ (p : Obj → Prop), Stab (fun S pre (W : World) => X (fun b => S b ∨ b = D ∨ b = D + 1) pre W ∧ ¬ S D ∧ ¬ S (D + 1) ∧ (∃ o, W.heap[D + 1]? = some o ∧ p o) ∧ W.heap[D]? = some (Obj.deferred (some []))) := by
      rintro X hX p S S' pre W W' ⟨hi, hsd, hsl, ⟨o, hl, ho⟩, hk⟩ hc hs
      have hlt := (Array.getElem?_eq_some_iff.1 hl).1
      refine ⟨hX _ _ pre W W' hi (hc.mono (fun i _ h => .inl h)) (fun b hb => ?_), fun h => ?_, fun h => ?_, ⟨o, (hc.block _ hlt hsl).trans hl, ho⟩, (hc.block _ (by omega) hsd).trans hk⟩
      · rcases hb with hb | hb
        · rcases hs b hb with h | h
          · exact .inl (.inl h)
          · exact .inr h
        · exact .inl (.inr hb)
      · rcases hs _ h with h | h
        · exact hsd h
        · omega
      · rcases hs _ h with h | h
        · exact hsl h
        · omega
    refine (callsIn_any (m' := n - 1) (hseq (D + 1)
      (fun S pre (W : World) => I (fun b => S b ∨ b = D ∨ b = D + 1) pre W ∧ ¬ S D ∧ ¬ S (D + 1) ∧ (∃ o, W.heap[D + 1]? = some o ∧ o = Obj.loop (rec .ready none)) ∧ W.heap[D]? = some (Obj.deferred (some [])))
      (fun S pre (W : World) => ∃ c, Ix c (fun b => S b ∨ b = D ∨ b = D + 1) pre W ∧ ¬ S D ∧ ¬ S (D + 1) ∧ (∃ o, W.heap[D + 1]? = some o ∧ o = Obj.loop (rec .done (some c))) ∧ W.heap[D]? = some (Obj.deferred (some [])))
      W1 hb1 (stx I hI _) (fun S S' pre W W' ⟨c, h⟩ hc hs => ⟨c, stx (Ix c) (hIx c) _ S S' pre W W' h hc hs⟩) ?_ ⟨hI1, hnS.1, hnS.2, ⟨_, hL1, rfl⟩, hK1⟩)).mono ?_
    · -- one round
      rintro m S pre x vs W0 W ⟨hi0, -⟩ ⟨hi, hsd, hsl, ⟨_, hl, rfl⟩, hk⟩ hpre hR
      have hlt : D + 1 < W.heap.size := (Array.getElem?_eq_some_iff.1 hl).1
      have hy := run_yield (P := P) (args := vs) hl (by rw [hrec]; exact hps _ _ _ _ _ hR)
      rw [hrec] at hy
      refine ⟨fn, _, assign, body, hy, roundIn_any (m := n - 1 - 1) (roundIn_of_wpIn hfn ?_)⟩
      have has := hassign S x vs W0 W (fun a₁' w₁ => ∃ w₂, (Instr.beginRound (w.heap.size + 1)).run P w₁ = .ok () w₂ ∧ body.wpIn (Fence.wide.inRound (w.heap.size + 1)) (n - 1 - 1) P (roundPost P (w.heap.size + 1) fun e W' => Kpt (fun b => S b ∨ T b) W W' ∧
        ((e = .returned (.bool true) ∧ (I (fun b => S b ∨ b = D ∨ b = D + 1) (pre ++ [x]) W' ∧ ¬ S D ∧ ¬ S (D + 1) ∧ (∃ o, W'.heap[D + 1]? = some o ∧ o = Obj.loop (rec .ready none)) ∧ W'.heap[D]? = some (.deferred (some [])))) ∨
        (e = .returned (.bool false) ∧ ∃ c, Ix c (fun b => S b ∨ b = D ∨ b = D + 1) (pre ++ [x]) W' ∧ ¬ S D ∧ ¬ S (D + 1) ∧ (∃ o, W'.heap[D + 1]? = some o ∧ o = Obj.loop (rec .done (some c))) ∧ W'.heap[D]? = some (.deferred (some []))))) a₁' w₂) hR
      rw [← hD] at has
      refine has ?_
      clear has hy
      intro a' Wq hbq hax
      have hiq := hI _ (fun b => S b ∨ b = D ∨ b = D + 1) pre W Wq hi (Chg.of_below hbq (Nat.le_refl _)) (fun b hb => .inl hb)
      have hlq := (hbq.block _ hlt).trans hl
      have hkq := (hbq.block D (by omega)).trans hk
      have hRq := hR1 _ _ _ _ _ _ hR hbq
      have hltq : D + 1 < Wq.heap.size := Nat.lt_of_lt_of_le hlt hbq.size
      refine ⟨_, run_beginRound hlq (by rw [hrec]), ?_⟩
      obtain ⟨Wb, hWb⟩ : ∃ Wb, Wq.putObj (D + 1) (.loop { rec .ready none with state := .busy }) = Wb := ⟨_, rfl⟩
      rw [hWb]
      have hl2 : Wb.heap[D + 1]? = some (.loop { rec .ready none with state := .busy }) := by rw [← hWb]; exact World.putObj_heap_same hltq
      have hk2 : Wb.heap[D]? = some (.deferred (some [])) := by rw [← hWb]; exact (World.putObj_heap_other (by omega)).trans hkq
      have hc2 : Chg (fun b => S b ∨ b = D ∨ b = D + 1) Wq Wb := by rw [← hWb]; exact (Chg.refl _ _).putObj (.inr (.inr rfl)) _
      have hq2 : Kpt (fun b => S b ∨ T b) W Wb := by
        refine (Kpt.of_below hbq (Nat.le_refl _)).trans ?_
        rw [← hWb]
        exact ⟨by simp, fun b hb hs => World.putObj_heap_other (fun e => by subst e; rcases hs with h | h; exact hsl h; exact hTl (hD ▸ h))⟩
      have hi2 := hI _ (fun b => S b ∨ b = D ∨ b = D + 1) pre Wq Wb hiq hc2 (fun b hb => .inl hb)
      have hbd := hbody (fun b => S b ∨ b = D ∨ b = D + 1) pre x vs a' Wb hi2 (.inr (.inl hD.symm)) (.inr (.inr (by rw [hD]))) (by have := hc2.size; omega) (hD ▸ hk2) (hD ▸ ⟨_, hl2⟩) hpre ⟨S, W0, hi0, by rw [← hWb]; exact hR2 _ _ _ _ _ _ _ _ hRq hlq, fun b => by rw [hD]⟩ (by rw [← hWb]; exact hAx _ _ _ _ _ _ hax hlq)
      rw [← hD] at hbd
      refine wpIn_mono hbd ?_
      have fin : ∀ (jump : Option Code) (W3 : World), Kpt (fun b => (S b ∨ b = D ∨ b = D + 1) ∨ T b) Wb W3 →
          (Instr.endRound (D + 1) jump).run P W3 = .ok (.bool jump.isNone) (W3.putObj (D + 1) (.loop (rec (if jump.isNone then .ready else .done) jump))) ∧
          (W3.putObj (D + 1) (.loop (rec (if jump.isNone then .ready else .done) jump))).heap[D + 1]? = some (.loop (rec (if jump.isNone then .ready else .done) jump)) ∧
          (W3.putObj (D + 1) (.loop (rec (if jump.isNone then .ready else .done) jump))).heap[D]? = some (.deferred (some [])) ∧
          Kpt (fun b => S b ∨ T b) W (W3.putObj (D + 1) (.loop (rec (if jump.isNone then .ready else .done) jump))) := fun jump W3 hk3 => by
        have hlb : D + 1 < Wb.heap.size := by have := hc2.size; omega
        have hl3 := (hk3.block (D + 1) hlb (.inl (.inr (.inr rfl)))).trans hl2
        have := run_endRound (P := P) jump hl3
        have h4 : Kpt (fun b => S b ∨ T b) Wb W3 := hk3.mono (fun i _ h => h.elim (fun h => .inl (.inl h)) .inr)
        have h5 : Kpt (fun b => S b ∨ T b) W3 (W3.putObj (D + 1) (.loop (rec (if jump.isNone then .ready else .done) jump))) :=
          ⟨by simp, fun b hb hs => World.putObj_heap_other (fun e => by subst e; rcases hs with h | h; exact hsl h; exact hTl (hD ▸ h))⟩
        refine ⟨?_, World.putObj_heap_same (Array.getElem?_eq_some_iff.1 hl3).1, (World.putObj_heap_other (by omega)).trans ((hk3.block D (by omega) (.inl (.inr (.inl rfl)))).trans hk2), (hq2.trans h4).trans h5⟩
        rw [hrec] at this ⊢
        exact this
      have pc : ∀ (W3 : World) (o : Obj), Chg (fun b => S b ∨ b = D ∨ b = D + 1) W3 (W3.putObj (D + 1) o) := fun W3 o => (Chg.refl _ _).putObj (.inr (.inr rfl)) _
      rintro e a3 W3 hp
      cases e with
      | normal =>
        obtain ⟨hk3, hi3⟩ := hp
        obtain ⟨hr, hl4, hk4, hkk⟩ := fin none W3 hk3
        exact ⟨_, _, hr, hkk, .inl ⟨rfl, hI _ _ _ _ _ hi3 (pc W3 _) (fun b hb => .inl hb), hsd, hsl, ⟨_, hl4, rfl⟩, hk4⟩⟩
      | ret =>
        obtain ⟨hk3, hi3⟩ := hp
        obtain ⟨hr, hl4, hk4, hkk⟩ := fin (some .ret) W3 hk3
        exact ⟨_, _, hr, hkk, .inr ⟨rfl, .ret, hIx _ _ _ _ _ _ hi3 (pc W3 _) (fun b hb => .inl hb), hsd, hsl, ⟨_, hl4, rfl⟩, hk4⟩⟩
      | exit id =>
        obtain ⟨hk3, hi3⟩ := hp
        obtain ⟨hr, hl4, hk4, hkk⟩ := fin (some (.exit id)) W3 hk3
        exact ⟨_, _, hr, hkk, .inr ⟨rfl, .exit id, hIx _ _ _ _ _ _ hi3 (pc W3 _) (fun b hb => .inl hb), hsd, hsl, ⟨_, hl4, rfl⟩, hk4⟩⟩
      | goto t =>
        obtain ⟨hk3, hi3⟩ := hp
        obtain ⟨hr, hl4, hk4, hkk⟩ := fin (some (.goto t)) W3 hk3
        exact ⟨_, _, hr, hkk, .inr ⟨rfl, .goto t, hIx _ _ _ _ _ _ hi3 (pc W3 _) (fun b hb => .inl hb), hsd, hsl, ⟨_, hl4, rfl⟩, hk4⟩⟩
      | panic ch => exact hp.elim
      | outgrown => exact hp.elim
    · -- behind the iterator
      rintro e W2 ⟨⟨v, rfl⟩, (⟨S, hi, hsd, hsl, ⟨_, hl, rfl⟩, hk⟩ | ⟨S, pre, hpre, c, hi, hsd, hsl, ⟨_, hl, rfl⟩, hk⟩)⟩
      · refine ⟨none, _, by have := run_endLoop (P := P) hl (by rw [hrec]; simp); rw [hrec] at this; exact this, ?_⟩
        have := hdone _ (W2.putObj (D + 1) (.loop { rec .ready none with state := .exhausted })) (hI _ (fun b => S b ∨ b = D ∨ b = D + 1) _ _ _ hi ((Chg.refl _ _).putObj (.inr (.inr rfl)) _) (fun b hb => .inl hb)) (.inr (.inl hD.symm)) (by rw [← hD]; exact (World.putObj_heap_other (by omega)).trans hk)
        rw [hrec, ← hD] at this
        exact this
      · refine ⟨some c, _, by have := run_endLoop (P := P) hl (by rw [hrec]; simp); rw [hrec] at this; exact this, ?_⟩
        have := hstop c _ pre (W2.putObj (D + 1) (.loop { rec .done (some c) with state := .exhausted })) hpre (hIx c _ (fun b => S b ∨ b = D ∨ b = D + 1) _ _ _ hi ((Chg.refl _ _).putObj (.inr (.inr rfl)) _) (fun b hb => .inl hb)) (.inr (.inl hD.symm)) (by rw [← hD]; exact (World.putObj_heap_other (by omega)).trans hk)
        rw [hrec, ← hD] at this
        exact this

end Go.Proofs.Ytmljnfgfjcjmmaa

/- choose.Of, each choice newer than the world ahead of it. -/
namespace Go.Proofs.Ytmljnfgfjcjmmaa
open Go.RowKit Go.Shelf
attribute [local go_sem] Oper.semAt_some

/-- Handed over: a row of its own, newer than the world ahead, which has lost nothing. -/
def HandC (N0 : Nat) (W0 W : World) (S : Nat → Prop) (x : List Int) (vs : Array Value) : Prop :=
  ∃ v, vs = #[v] ∧ W.ownsRow W0.heap.size 3 1 v x.length (ints x) ∧ (∀ b, S b → b < W0.heap.size) ∧ N0 ≤ W0.heap.size ∧ W0.heap.size ≤ W.heap.size ∧ ∀ (b : Nat) (cur : Array Value) (t : TypeId) (f : Nat × Nat), W0.heap[b]? = some (.cells cur t f) → W.heap[b]? = some (.cells cur t f)

theorem handC_below (N0 : Nat) (W0 W : World) (S : Nat → Prop) (x : List Int) (vs : Array Value) (W' : World) (h : HandC N0 W0 W S x vs) (hb : Below W.heap.size W W') : HandC N0 W0 W' S x vs := by
  obtain ⟨v, h1, h2, h3, h4, h5, h6⟩ := h
  exact ⟨v, h1, owns_below h2 hb (Nat.le_refl _), h3, h4, Nat.le_trans h5 hb.size, fun b cur t f hx => (hb.block b (Array.getElem?_eq_some_iff.1 (h6 b cur t f hx)).1).trans (h6 b cur t f hx)⟩

theorem handC_put (N0 : Nat) (W0 W : World) (S : Nat → Prop) (x : List Int) (vs : Array Value) (l : Nat) (r : Loop) (o : Obj) (h : HandC N0 W0 W S x vs) (hl : W.heap[l]? = some (.loop r)) : HandC N0 W0 (W.putObj l o) S x vs := by
  obtain ⟨v, h1, h2, h3, h4, h5, h6⟩ := h
  refine ⟨v, h1, ownsRow_putObj h2 _ hl rfl, h3, h4, by simpa using h5, fun b cur t f hx => ?_⟩
  have := h6 b cur t f hx
  exact (World.putObj_heap_other (fun e => by subst e; rw [hl] at this; cases this)).trans this

def FillC (k : Nat) : Prop := ∀ (N0 l n many bm by' bc bn bf ba : Nat) (S T : Nat → Prop) (J Jx : (Nat → Prop) → List (List Int) → World → Prop) (cs : List (List Int)), Stab J → Bxo S bm by' bc bn bf ba → many ≤ 8 → n ≤ 1000 → N0 ≤ ba →
  (∀ m S pre x vs W0 W1, J S pre W0 → J S pre W1 → (pre ++ [x]) <+: cs → HandC N0 W0 W1 S x vs → YieldAt Fence.wide m Try.prog l vs W1 fun e W' => Kpt (fun b => S b ∨ T b) W1 W' ∧
      ((e = .returned (.bool true) ∧ J S (pre ++ [x]) W') ∨ (e = .returned (.bool false) ∧ Jx S (pre ++ [x]) W'))) →
  ∀ (ix : List Int) (fr : Nat) (pre : List (List Int)) (f : Nat → Value) (W : World), ix.length + k = many → fr ≤ n → Ox W l n many bm by' bc bn bf ba → W.rowIs ba 3 many f → (∀ j, j < ix.length → f j = .int .i64 (ix.getD j 0)) →
    (∀ b, S b → b < W.heap.size) → J S pre W → (pre ++ (ext n k fr).map (ix ++ ·)) <+: cs →
    CallsIn Fence.wide 0 Try.prog 40 #[.int .i64 ix.length, .int .i64 fr, .pointer (some ⟨bm, 0, none⟩), .pointer (some ⟨by', 0, none⟩), .pointer (some ⟨bc, 0, none⟩), .pointer (some ⟨bn, 0, none⟩), .pointer (some ⟨bf, 0, none⟩)] W fun e W' =>
      (e = .returned (.bool true) ∧ J S (pre ++ (ext n k fr).map (ix ++ ·)) W' ∧ Ox W' l n many bm by' bc bn bf ba ∧ W.heap.size ≤ W'.heap.size ∧ ∃ f', W'.rowIs ba 3 many f' ∧ ∀ j, j < ix.length → f' j = f j) ∨
      (e = .returned (.bool false) ∧ ∃ q, q <+: cs ∧ Jx S q W')

set_option maxRecDepth 100000 in
set_option maxHeartbeats 2000000 in
theorem fillC_zero : FillC 0 := by
  intro N0 l n many bm by' bc bn bf ba S T J Jx cs hst hbx hm5 hn hN0 hY ix fr pre f W hk hfr ho hrow hf hsz hJ hpre
  have hk' : ix.length = many := by omega
  subst hk'
  have hext : (ext n 0 fr).map (ix ++ ·) = [ix] := by simp [ext]
  rw [hext] at hpre ⊢
  have c1 := ho.cm
  have c2 := ho.cy
  have c3 := ho.cc
  have HV : Hid (Sl 0 3 W.drew (.slice (some ⟨ba, 0, none⟩) ix.length ix.length) (ints ix)) := Sl.row' hrow (by unfold maxLen; omega) (by simp) (fun i hi => by rw [hf i hi, ints_get ix i hi])
  have HCL : Hid (Calls Try.prog 41 #[.slice (some ⟨ba, 0, none⟩) ix.length ix.length] W.drew fun e w' => ∃ u, e = .returned u ∧ w'.ownsRow W.heap.size 3 1 u ix.length (ints ix) ∧ Below W.heap.size W.drew w') := clone_any 0 ix _ W.drew HV.out (by omega)
  have HYY : Hid (∀ u w1, w1.ownsRow W.heap.size 3 1 u ix.length (ints ix) → Below W.heap.size W.drew w1 → YieldAt Fence.wide 0 Try.prog l #[u] w1 fun e W' =>
      ∃ b, e = .returned (.bool b) ∧ ((b = true ∧ J S (pre ++ [ix]) W' ∧ Kpt (fun b => S b ∨ T b) w1 W' ∧ Below W.heap.size W.drew w1) ∨ (b = false ∧ Jx S (pre ++ [ix]) W'))) := fun u w1 h1 h2 =>
    YieldAt.mono (hY 0 S pre ix #[u] W w1 hJ (hst S S pre W w1 hJ (Chg.of_below (a := W) (N := W.heap.size) ⟨h2.os, h2.tape, h2.output, h2.size, h2.block⟩ (Nat.le_refl _)) (fun b hb => .inl hb)) hpre ⟨u, rfl, h1, hsz, by have := hsz ba hbx.a; omega, h2.size, fun b cur t f hb => (h2.block b (Array.getElem?_eq_some_iff.1 hb).1).trans hb⟩) fun e W' h => h.2.elim (fun ⟨a, b⟩ => ⟨true, a, .inl ⟨rfl, b, h.1, h2⟩⟩) (fun ⟨a, b⟩ => ⟨false, a, .inr ⟨rfl, b⟩⟩)
  have HO : Hid (Ox W l n ix.length bm by' bc bn bf ba) := ho
  have HR : Hid (W.rowIs ba 3 ix.length f) := hrow
  have HSZ : Hid (∀ b, S b → b < W.heap.size) := hsz
  have HBX : Hid (Bxo S bm by' bc bn bf ba) := hbx
  have HPRE : Hid ((pre ++ [ix]) <+: cs) := hpre
  have HLT : Hid (by' < W.heap.size) := lt_cell0 c2
  clear hst hY ho hrow hf hsz hJ hpre hbx hext
  refine callsIn_of_wp Try.func40 rfl trivial ?_ rfl
  simp only [Try.ntmps40, List.size_toArray, List.length_cons, List.length_nil, Nat.reduceAdd, Nat.reduceSub, Array.replicate_succ, Array.replicate_zero, List.push_toArray, List.append_toArray, List.nil_append, List.cons_append]
  gi_wp2_with fail
  gi_region_with (first | (refine ⟨trivial, rfl, ?_⟩; gi_at_call 41; refine (callsIn_wide.2 HCL.out).mono ?_; rintro e w1 ⟨u, rfl, h1, h2⟩; have c2' := (h2.cell (p := ⟨by', 0, none⟩) HLT.out).trans c2; obtain ⟨fn, tmps, assign, body, hy, hR⟩ := HYY.out u w1 h1 h2; clear h1 h2) | (refine ⟨rfl, ?_⟩; refine hR.mono ?_; clear hR hy; rintro e W' ⟨b, rfl, hP⟩; have HP : Hid ((b = true ∧ J S (pre ++ [ix]) W' ∧ Kpt (fun b => S b ∨ T b) w1 W' ∧ Below W.heap.size W.drew w1) ∨ (b = false ∧ Jx S (pre ++ [ix]) W')) := hP; clear hP))
  all_goals
    gi_wp2
    go_ret
    rcases HP.out with ⟨rfl, hJ', hkp, hb⟩ | ⟨rfl, hJx⟩
    · have hkw : ∀ b, S b → b < W.heap.size → W'.heap[b]? = W.heap[b]? := fun b hb1 hb2 => (hkp.block b (Nat.lt_of_lt_of_le hb2 hb.size) (.inl hb1)).trans (hb.block b hb2)
      refine .inl ⟨rfl, hJ', HO.out.move (fun b hb1 hb2 => hkw b (HBX.out.of hb1) hb2), Nat.le_trans hb.size hkp.size, f, ?_, fun _ _ => rfl⟩
      obtain ⟨c, q1, q2, q3⟩ := HR.out
      exact ⟨c, (hkw ba HBX.out.a (HSZ.out ba HBX.out.a)).trans q1, q2, q3⟩
    · exact .inr ⟨rfl, _, HPRE.out, hJx⟩

set_option maxRecDepth 100000 in
set_option maxHeartbeats 4000000 in
theorem fillC_succ (k : Nat) (ih : FillC k) : FillC (k + 1) := by
  intro N0 l n many bm by' bc bn bf ba S T J Jx cs hst hbx hm5 hn hN0 hY ix fr pre f W hk hfr ho hrow hf hsz hJ hpre
  have HIH : Hid (∀ (ix : List Int) (fr : Nat) (pre : List (List Int)) (f : Nat → Value) (W : World), ix.length + k = many → fr ≤ n → Ox W l n many bm by' bc bn bf ba → W.rowIs ba 3 many f → (∀ j, j < ix.length → f j = .int .i64 (ix.getD j 0)) →
    (∀ b, S b → b < W.heap.size) → J S pre W → (pre ++ (ext n k fr).map (ix ++ ·)) <+: cs →
    CallsIn Fence.wide 0 Try.prog 40 #[.int .i64 ix.length, .int .i64 fr, .pointer (some ⟨bm, 0, none⟩), .pointer (some ⟨by', 0, none⟩), .pointer (some ⟨bc, 0, none⟩), .pointer (some ⟨bn, 0, none⟩), .pointer (some ⟨bf, 0, none⟩)] W fun e W' =>
      (e = .returned (.bool true) ∧ J S (pre ++ (ext n k fr).map (ix ++ ·)) W' ∧ Ox W' l n many bm by' bc bn bf ba ∧ W.heap.size ≤ W'.heap.size ∧ ∃ f', W'.rowIs ba 3 many f' ∧ ∀ j, j < ix.length → f' j = f j) ∨
      (e = .returned (.bool false) ∧ ∃ q, q <+: cs ∧ Jx S q W')) := ih N0 l n many bm by' bc bn bf ba S T J Jx cs hst hbx hm5 hn hN0 hY
  have HST : Hid (Stab J) := hst
  have HBX : Hid (Bxo S bm by' bc bn bf ba) := hbx
  have HO : Hid (Ox W l n many bm by' bc bn bf ba) := ho
  have HRW : Hid (W.rowIs ba 3 many f) := hrow
  have HF : Hid (∀ j, j < ix.length → f j = .int .i64 (ix.getD j 0)) := hf
  have HSZ : Hid (∀ b, S b → b < W.heap.size) := hsz
  have HJ : Hid (J S pre W) := hJ
  have HPRE : Hid ((pre ++ (ext n (k + 1) fr).map (ix ++ ·)) <+: cs) := hpre
  have c1 := ho.cm
  have c2 := ho.cn
  have hne : ((ix.length : Int) == (many : Int)) = false := by rw [beq_eq_false_iff_ne]; omega
  clear hst hbx hY ho hrow hf hsz hJ hpre ih
  refine callsIn_of_wp Try.func40 rfl trivial ?_ rfl
  simp only [Try.ntmps40, List.size_toArray, List.length_cons, List.length_nil, Nat.reduceAdd, Nat.reduceSub, Array.replicate_succ, Array.replicate_zero, List.push_toArray, List.append_toArray, List.nil_append, List.cons_append]
  gi_wp2
  gi_loopw [21, 10] (fun i _ wr => ∃ (q : Nat) (g : Nat → Value) (pr : List (List Int)), fr + q ≤ n ∧ i = .int .i64 q ∧ Ox wr l n many bm by' bc bn bf ba ∧ wr.rowIs ba 3 many g ∧ (∀ j, j < ix.length → g j = f j) ∧ W.heap.size ≤ wr.heap.size ∧ J S pr wr ∧
      pr ++ (ext n (k + 1) (fr + q)).map (ix ++ ·) = pre ++ (ext n (k + 1) fr).map (ix ++ ·)) (fun i _ _ => n - (intOf i).toNat)
  case atStart => exact ⟨0, f, pre, hfr, rfl, HO.out, HRW.out, fun _ _ => rfl, Nat.le_refl _, HJ.out, rfl⟩
  case round =>
    obtain ⟨q, g, pr, hq, rfl, ho, hrow, hg, hsz, hJ, hpr⟩ := hrel
    have HO2 : Hid (Ox wr l n many bm by' bc bn bf ba) := ho
    have HRW2 : Hid (wr.rowIs ba 3 many g) := hrow
    have HG : Hid (∀ j, j < ix.length → g j = f j) := hg
    have HJ2 : Hid (J S pr wr) := hJ
    have HPR : Hid (pr ++ (ext n (k + 1) (fr + q)).map (ix ++ ·) = pre ++ (ext n (k + 1) fr).map (ix ++ ·)) := hpr
    have HWS : Hid (W.heap.size ≤ wr.heap.size) := hsz
    by_cases hlt : fr + q < n
    · have d1 := ho.cc
      have d4 := hrow.cell (i := ix.length) (by omega)
      have d5 := hrow.frozen ix.length
      obtain ⟨W5, hW5⟩ : ∃ W5, W5 = wr.setCell ⟨ba, ix.length, none⟩ (.int .i64 ((fr : Int) + (q : Int))) := ⟨_, rfl⟩
      have HO5 : Hid (Ox W5 l n many bm by' bc bn bf ba) := by
        rw [hW5]
        exact ho.move (fun b hb _ => Below.heap_setCell _ _ _ _ (HBX.out.ne b hb))
      have HRW5 : Hid (W5.rowIs ba 3 many (fun i => if i = ix.length then .int .i64 ((fr : Int) + (q : Int)) else g i)) := by rw [hW5]; exact hrow.set _ _
      have HJ5 : Hid (J S pr W5) := HST.out S S pr wr W5 hJ (by rw [hW5]; exact (Chg.refl _ _).setCell HBX.out.a _) (fun b hb => .inl hb)
      have hs5 : W5.heap.size = wr.heap.size := by rw [hW5]; simp [World.setCell]
      have d6 : (wr.setCell ⟨ba, ix.length, none⟩ (.int .i64 ((fr : Int) + (q : Int)))).cell? ⟨bf, 0, none⟩ = some (.func (.func 40) #[] #[.pointer (some ⟨bm, 0, none⟩), .pointer (some ⟨by', 0, none⟩), .pointer (some ⟨bc, 0, none⟩), .pointer (some ⟨bn, 0, none⟩), .pointer (some ⟨bf, 0, none⟩)]) := by rw [← hW5]; exact HO5.out.cf
      have HW5 : Hid (W5 = wr.setCell ⟨ba, ix.length, none⟩ (.int .i64 ((fr : Int) + (q : Int)))) := hW5
      have HCONS : Hid ((ext n (k + 1) (fr + q)).map (ix ++ ·) = (ext n k (fr + q + 1)).map ((ix ++ [((fr + q : Nat) : Int)]) ++ ·) ++ (ext n (k + 1) (fr + q + 1)).map (ix ++ ·)) := ext_cons_map hlt ix
      have HCALL : Hid (CallsIn Fence.wide 0 Try.prog 40 #[.int .i64 ((ix.length : Int) + 1), .int .i64 ((fr : Int) + (q : Int) + 1), .pointer (some ⟨bm, 0, none⟩), .pointer (some ⟨by', 0, none⟩), .pointer (some ⟨bc, 0, none⟩), .pointer (some ⟨bn, 0, none⟩), .pointer (some ⟨bf, 0, none⟩)] W5 fun e W' =>
          (e = .returned (.bool true) ∧ J S (pr ++ (ext n k (fr + q + 1)).map ((ix ++ [((fr + q : Nat) : Int)]) ++ ·)) W' ∧ Ox W' l n many bm by' bc bn bf ba ∧ W5.heap.size ≤ W'.heap.size ∧ ∃ f', W'.rowIs ba 3 many f' ∧ ∀ j, j < ix.length → f' j = f j) ∨
          (e = .returned (.bool false) ∧ ∃ q, q <+: cs ∧ Jx S q W')) := by
        have h := HIH.out (ix ++ [((fr + q : Nat) : Int)]) (fr + q + 1) pr _ W5 (by simp; omega) (by omega) HO5.out HRW5.out (fun j hj => by
            simp only [List.length_append, List.length_singleton] at hj
            by_cases e : j = ix.length
            · subst e; simp
            · have hj' : j < ix.length := by omega
              simp only [e, if_false]
              rw [HG.out j hj', HF.out j hj']
              simp only [List.getD_eq_getElem?_getD]; rw [List.getElem?_append_left hj']) (fun b hb => by have := HSZ.out b hb; omega) HJ5.out (by
            refine List.IsPrefix.trans ?_ HPRE.out
            rw [← HPR.out, HCONS.out, ← List.append_assoc]
            exact List.prefix_append _ _)
        have e1 : ((ix ++ [((fr + q : Nat) : Int)]).length : Int) = (ix.length : Int) + 1 := by simp
        have e2 : ((fr + q + 1 : Nat) : Int) = (fr : Int) + (q : Int) + 1 := by omega
        rw [e1, e2] at h
        refine h.mono ?_
        rintro e W' (⟨rfl, a1, a2, a3, f', a4, a5⟩ | h)
        · refine .inl ⟨rfl, a1, a2, a3, f', a4, fun j hj => ?_⟩
          rw [a5 j (by simp; omega)]
          simp only [show j ≠ ix.length by omega, if_false]
          exact HG.out j hj
        · exact .inr h
      clear ho hrow hg hsz hJ hpr hW5
      have hqI : (0 : Int) ≤ (q : Int) := by omega
      have hfI : (0 : Int) ≤ (fr : Int) := by omega
      have hI0 : (0 : Int) ≤ (ix.length : Int) := by omega
      have hI1 : (ix.length : Int) < (many : Int) := by omega
      have hqJ : (q : Int) < (n : Int) - (fr : Int) := by omega
      have hfq : (fr : Int) + (q : Int) < (n : Int) := by omega
      have hfq0 : (0 : Int) ≤ (fr : Int) + (q : Int) := by omega
      gi_wp2_with fail
      refine ⟨trivial, rfl, ?_⟩
      rw [← HW5.out]
      refine HCALL.out.mono ?_
      rintro e w6 (⟨rfl, a1, a2, a3, f6, a4, a5⟩ | ⟨rfl, a1⟩)
      · have S1 : Hid (J S (pr ++ (ext n k (fr + q + 1)).map ((ix ++ [((fr + q : Nat) : Int)]) ++ ·)) w6) := a1
        have S2 : Hid (Ox w6 l n many bm by' bc bn bf ba) := a2
        have S3 : Hid (W.heap.size ≤ w6.heap.size) := by show _ ≤ _; have := HWS.out; omega
        have S4 : Hid (w6.rowIs ba 3 many f6) := a4
        have S5 : Hid (∀ j, j < ix.length → f6 j = f j) := a5
        clear a1 a2 a3 a4 a5
        gi_wp2
        go_roundw
        case rel =>
          refine ⟨q + 1, f6, _, by omega, by go_num, S2.out, S4.out, S5.out, S3.out, S1.out, ?_⟩
          rw [← HPR.out, HCONS.out, List.append_assoc]
          rfl
        case measure => simp [intOf]; omega
      · have S1 : Hid (∃ q, q <+: cs ∧ Jx S q w6) := a1
        clear a1
        gi_wp2
        go_ret
        exact .inr ⟨rfl, S1.out⟩
    · have hqe : fr + q = n := by omega
      have HCE : Hid (pr = pre ++ (ext n (k + 1) fr).map (ix ++ ·)) := by
        show _ = _
        rw [← hpr, hqe, ext_end (Nat.le_refl _)]
        simp
      clear ho hrow hg hsz hJ hpr
      have hqK : decide ((q : Int) < (n : Int) - (fr : Int)) = false := by simp; omega
      gi_wp2
      go_ret
      exact .inl ⟨rfl, by rw [← HCE.out]; exact HJ2.out, HO2.out, HWS.out, g, HRW2.out, HG.out⟩

theorem fillC_any : ∀ k, FillC k
  | 0 => fillC_zero
  | k + 1 => fillC_succ k (fillC_any k)

set_option maxRecDepth 100000 in
set_option maxHeartbeats 4000000 in
theorem of_seqC (n many bm bn : Nat) (w0 : World) (hm5 : many ≤ 8) (hn : n ≤ 1000) (hcm : w0.cell? ⟨bm, 0, none⟩ = some (.int .i64 many)) (hcn : w0.cell? ⟨bn, 0, none⟩ = some (.int .i64 n)) :
    SeqF Try.prog 39 #[.pointer (some ⟨bm, 0, none⟩), .pointer (some ⟨bn, 0, none⟩)] (HandC w0.heap.size) (ext n many 0) (fun _ => False) (fun b => b = bm ∨ b = bn) w0 := by
  intro l J Jx W hW hst hstx hY hJ
  have hbm := lt_cell0 hcm
  have hbn := lt_cell0 hcn
  have c1 : W.cell? ⟨bm, 0, none⟩ = some (.int .i64 many) := (hW.cell (p := ⟨bm, 0, none⟩) hbm).trans hcm
  have c2 : W.cell? ⟨bn, 0, none⟩ = some (.int .i64 n) := (hW.cell (p := ⟨bn, 0, none⟩) hbn).trans hcn
  have hmk := run_make_row' (P := Try.prog) 22 3 (.int .i64 0) 8 Try.underlying22 Try.info3 rfl .i64 .i64 many (by omega) (by omega)
  obtain ⟨W4, hW4, e1, e2, e3, e4, hsz, hbw⟩ := fourB W (.cells #[.func (.yield l) #[] #[]] 72) (.cells (madeCells #[.int .i64 0] many) 3) (.cells #[.slice (some ⟨W.heap.size + 1, 0, none⟩) many many] 22)
    (.cells #[.func (.func 40) #[] #[.pointer (some ⟨bm, 0, none⟩), .pointer (some ⟨W.heap.size, 0, none⟩), .pointer (some ⟨W.heap.size + 1 + 1, 0, none⟩), .pointer (some ⟨bn, 0, none⟩), .pointer (some ⟨W.heap.size + 1 + 1 + 1, 0, none⟩)]] 76)
  have hwm := lt_cell0 c1
  have hwn := lt_cell0 c2
  obtain ⟨S, hS⟩ : ∃ S : Nat → Prop, S = fun b => b = bm ∨ b = bn ∨ (W.heap.size ≤ b ∧ b < W.heap.size + 4) := ⟨_, rfl⟩
  have ho : Ox W4 l n many bm W.heap.size (W.heap.size + 1 + 1) bn (W.heap.size + 1 + 1 + 1) (W.heap.size + 1) :=
    ⟨(hbw.cell (p := ⟨bm, 0, none⟩) hwm).trans c1, cell_of e1, cell_of e3, (hbw.cell (p := ⟨bn, 0, none⟩) hwn).trans c2, cell_of e4⟩
  have hrow : W4.rowIs (W.heap.size + 1) 3 many (fun _ => .int .i64 0) := by
    refine ⟨_, e2, ?_, fun i hi => ?_⟩
    · rw [← Array.length_toList, toList_madeCells_one]; simp
    · rw [← Array.getElem?_toList, toList_madeCells_one]; simp [hi]
  have hbx : Bxo S bm W.heap.size (W.heap.size + 1 + 1) bn (W.heap.size + 1 + 1 + 1) (W.heap.size + 1) := by
    rw [hS]
    exact ⟨.inl rfl, .inr (.inr (by omega)), .inr (.inr (by omega)), .inr (.inl rfl), .inr (.inr (by omega)), .inr (.inr (by omega)), fun b hb => by omega⟩
  have hJ4 : J S [] W4 := hst _ S [] W W4 hJ (Chg.of_below hbw (Nat.le_refl _)) (fun b hb => by
    rw [hS] at hb
    rcases hb with h | h | h
    · exact .inl (.inl h)
    · exact .inl (.inr h)
    · exact .inr h.1)
  have HC : Hid (CallsIn Fence.wide 0 Try.prog 40 #[.int .i64 0, .int .i64 0, .pointer (some ⟨bm, 0, none⟩), .pointer (some ⟨W.heap.size, 0, none⟩), .pointer (some ⟨W.heap.size + 1 + 1, 0, none⟩), .pointer (some ⟨bn, 0, none⟩), .pointer (some ⟨W.heap.size + 1 + 1 + 1, 0, none⟩)] W4 fun e W' =>
      (e = .returned (.bool true) ∧ J S ([] ++ (ext n many 0).map ([] ++ ·)) W' ∧ Ox W' l n many bm W.heap.size (W.heap.size + 1 + 1) bn (W.heap.size + 1 + 1 + 1) (W.heap.size + 1) ∧ W4.heap.size ≤ W'.heap.size ∧ ∃ f', W'.rowIs (W.heap.size + 1) 3 many f' ∧ ∀ j, j < 0 → f' j = .int .i64 0) ∨
      (e = .returned (.bool false) ∧ ∃ q, q <+: ext n many 0 ∧ Jx S q W')) := fillC_any many w0.heap.size l n many bm W.heap.size (W.heap.size + 1 + 1) bn (W.heap.size + 1 + 1 + 1) (W.heap.size + 1) S (fun _ => False) J Jx (ext n many 0) hst hbx hm5 hn (by have := hW.size; omega) hY [] 0 [] _ W4 (by simp) (Nat.zero_le _) ho hrow (fun j hj => absurd hj (by simp)) (fun b hb => by
    rw [hS] at hb
    rcases hb with h | h | h <;> omega) hJ4 (by simp)
  have HW4 : Hid (W4 = (((W.alloc (.cells #[.func (.yield l) #[] #[]] 72)).alloc (.cells (madeCells #[.int .i64 0] many) 3)).alloc (.cells #[.slice (some ⟨W.heap.size + 1, 0, none⟩) many many] 22)).alloc
    (.cells #[.func (.func 40) #[] #[.pointer (some ⟨bm, 0, none⟩), .pointer (some ⟨W.heap.size, 0, none⟩), .pointer (some ⟨W.heap.size + 1 + 1, 0, none⟩), .pointer (some ⟨bn, 0, none⟩), .pointer (some ⟨W.heap.size + 1 + 1 + 1, 0, none⟩)]] 76)) := hW4
  clear hst hstx hY hJ ho hrow hbx hJ4 e1 e2 e3 e4 hsz hbw hW hcm hcn hW4
  refine callsIn_of_wp Try.func39 rfl trivial ?_ rfl
  simp only [Try.ntmps39, List.size_toArray, List.length_cons, List.length_nil, Nat.reduceAdd, Nat.reduceSub, Array.replicate_succ, Array.replicate_zero, List.push_toArray, List.append_toArray, List.nil_append, List.cons_append]
  gi_wp2_with fail
  refine ⟨trivial, rfl, ?_⟩
  rw [← HW4.out]
  refine (HC.out).mono ?_
  rintro e W' (⟨rfl, a1, _⟩ | ⟨rfl, a1⟩)
  · have A : Hid (J S (ext n many 0) W') := by
      have e : [] ++ (ext n many 0).map ([] ++ ·) = ext n many 0 := by simp
      rw [e] at a1
      exact a1
    clear a1
    gi_wp2
    go_end0
    exact ⟨⟨_, rfl⟩, .inl ⟨S, A.out⟩⟩
  · have A : Hid (∃ q, q <+: ext n many 0 ∧ Jx S q W') := a1
    clear a1
    gi_wp2
    go_end0
    exact ⟨⟨_, rfl⟩, .inr ⟨S, A.out⟩⟩

end Go.Proofs.Ytmljnfgfjcjmmaa
