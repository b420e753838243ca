/- The least way says what Greatest finds; what is shown is shown. -/
import Derived.Test.YtdmkmljhljoojaaLp7
namespace Go.Proofs.Ytdmkmljhljoojaa
open Go.RowKit Lin

theorem pks_len (rows : List (List Int)) (y : List Int) : (pks rows [] y).length = y.length := by simp [pks]
theorem pks_at {rows : List (List Int)} {y : List Int} {i : Nat} (h : i < y.length) : (pks rows [] y).getD i [] = rows.getD (y.getD i 0).toNat [] := by
  simp [pks, List.getD_eq_getElem?_getD, h]

theorem take_at {l : List Int} {n i : Nat} (h : i < n) : (l.take n).getD i 0 = l.getD i 0 := by
  simp [List.getD_eq_getElem?_getD, h]

theorem sv_pks {rows : List (List Int)} {y : List Int} {a : Nat → Int} {j : Nat} : sv (pks rows [] y) a j = sumN y.length fun q => a q * (rows.getD (y.getD q 0).toNat []).getD j 0 := by
  rw [sv_eq, pks_len]
  refine sumN_congr fun q hq => ?_
  rw [pks_at hq]
  rfl

theorem sm_sv {rows : List (List Int)} {d : Nat} {y a : List Int} {i : Nat} (h : i < d + 1) : (smL rows d y a).getD i 0 = sv (pks rows [] y) (V a) i := by
  unfold smL
  rw [smT_get h, sv_pks]
  rfl

theorem sv_mW {rows : List (List Int)} {g y : List Int} {j : Nat} : sv (pks rows [] y) (V (mW rows g y)) j = sv (pks rows [] y) (V (wayN g (pks rows [] y))) j := by
  rw [sv_pks, sv_pks]
  refine sumN_congr fun q hq => ?_
  show (mW rows g y).getD q 0 * _ = (wayN g (pks rows [] y)).getD q 0 * _
  unfold mW
  rw [take_at hq]

theorem sd_wS {d : Nat} {rows : List (List Int)} {g y : List Int} (hg : g.length = d) : sdL rows d y (mW rows g y) = wS g (pks rows [] y) := by
  unfold wS
  rw [hg, ← sv_mW, sv_pks]
  rfl

theorem uW_wU {rows : List (List Int)} {g y : List Int} : uW rows g y = wU g (pks rows [] y) := by
  unfold wU uW
  rw [pks_len]
  rfl

theorem sm_goal {d : Nat} {rows : List (List Int)} {g y : List Int} (hg : g.length = d) (h : y ∈ waysL rows g) {i : Nat} (hi : i < d) : (smL rows d y (mW rows g y)).getD i 0 = g.getD i 0 * uW rows g y := by
  rw [sm_sv (by omega), sv_mW, (way_nums (way_mem h).1).2.2 i (by omega), uW_wU, Int.mul_comm]
  rfl

theorem sm_last {d : Nat} {rows : List (List Int)} {g y : List Int} : (smL rows d y (mW rows g y)).getD d 0 = sdL rows d y (mW rows g y) := by
  rw [sm_sv (by omega), sv_pks]
  rfl

theorem ways_sub {rows : List (List Int)} {g t : List (List Int)} {g' : List Int} (hs : t.Sublist rows) (hw : wayB g' t = true) (_ : g = g) : ∃ c ∈ waysL rows g', pks rows [] c = t := by
  have hx := chz_ext rows [] t.length 0
  rw [List.drop_zero] at hx
  have hm : t ∈ chz t.length rows := chz_mem.2 ⟨hs, rfl⟩
  rw [← hx] at hm
  obtain ⟨c, hc, he⟩ := List.mem_map.1 hm
  refine ⟨c, ?_, he⟩
  simp only [waysL, waysTo, List.mem_flatMap, List.mem_range, List.mem_filter]
  refine ⟨t.length, ?_, hc, by rw [he]; exact hw⟩
  have := hs.length_le
  have := way_short hw
  omega

theorem sub_way {rows : List (List Int)} {g y : List Int} (h : y ∈ waysL rows g) : (pks rows [] y).Sublist rows := by
  simp only [waysL, waysTo, List.mem_flatMap, List.mem_range, List.mem_filter] at h
  obtain ⟨m, hm1, hm2, hm3⟩ := h
  have hx := chz_ext rows [] m 0
  rw [List.drop_zero] at hx
  have : pks rows [] y ∈ chz m rows := by rw [← hx]; exact List.mem_map.2 ⟨y, hm2, rfl⟩
  exact (chz_mem.1 this).1

/-- What Greatest holds is the greatest of what it has seen. -/
theorem gt_max {d : Nat} {R A : List (List Int)} {g : List Int} (hpos : ∀ t y, ptT R d t = some y → 0 < y.getD d 0) : ∀ (C : List (List Int)),
    ((C.foldl (fun s c => gtS d g s (ptT R d (pks A [] c))) ((0, 0) : Int × Int)) = (0, 0) ∧ ∀ c ∈ C, ptT R d (pks A [] c) = none) ∨
    ∃ o u, (C.foldl (fun s c => gtS d g s (ptT R d (pks A [] c))) ((0, 0) : Int × Int)) = (o, u) ∧ 0 < u ∧ (∃ t y, ptT R d t = some y ∧ o = dotL g y ∧ u = y.getD d 0) ∧ ∀ c ∈ C, ∀ y, ptT R d (pks A [] c) = some y → dotL g y * u ≤ o * y.getD d 0 := by
  intro C
  induction C using snocInd with
  | nil => exact .inl ⟨rfl, fun c h => by cases h⟩
  | append_singleton C x ih =>
    rw [List.foldl_append]
    simp only [List.foldl_cons, List.foldl_nil]
    cases hp : ptT R d (pks A [] x) with
    | none =>
      simp only [gtS]
      rcases ih with ⟨h1, h2⟩ | ⟨o, u, h1, h2, h3, h4⟩
      · refine .inl ⟨h1, fun c hc => ?_⟩
        rcases List.mem_append.1 hc with hc | hc
        · exact h2 c hc
        · simp only [List.mem_singleton] at hc; rw [hc]; exact hp
      · refine .inr ⟨o, u, h1, h2, h3, fun c hc y hy => ?_⟩
        rcases List.mem_append.1 hc with hc | hc
        · exact h4 c hc y hy
        · simp only [List.mem_singleton] at hc; rw [hc, hp] at hy; cases hy
    | some y =>
      have hyp := hpos _ _ hp
      rcases ih with ⟨h1, h2⟩ | ⟨o, u, h1, h2, h3, h4⟩
      · rw [h1]
        simp only [gtS]
        refine .inr ⟨dotL g y, y.getD d 0, if_pos (.inl trivial), hyp, ⟨_, y, hp, rfl, rfl⟩, fun c hc y' hy' => ?_⟩
        rcases List.mem_append.1 hc with hc | hc
        · rw [h2 c hc] at hy'; cases hy'
        · simp only [List.mem_singleton] at hc; rw [hc, hp] at hy'; simp only [Option.some.injEq] at hy'; rw [← hy']; exact Int.le_refl _
      · rw [h1]
        simp only [gtS]
        by_cases hc : u = 0 ∨ o * y.getD d 0 < dotL g y * u
        · rw [if_pos hc]
          have hc' : o * y.getD d 0 < dotL g y * u := hc.resolve_left (by omega)
          refine .inr ⟨dotL g y, y.getD d 0, rfl, hyp, ⟨_, y, hp, rfl, rfl⟩, fun c hcm y' hy' => ?_⟩
          rcases List.mem_append.1 hcm with hcm | hcm
          · have h5 := h4 c hcm y' hy'
            have hy'p := hpos _ _ hy'
            generalize dotL g y' = a at *
            generalize y'.getD d 0 = ua at *
            generalize dotL g y = b at *
            generalize y.getD d 0 = ub at *
            -- a / ua ≤ o / u < b / ub
            have e1 : a * u * ub ≤ o * ua * ub := Int.mul_le_mul_of_nonneg_right h5 (Int.le_of_lt hyp)
            have e2 : o * ub * ua ≤ b * u * ua := Int.mul_le_mul_of_nonneg_right (Int.le_of_lt hc') (Int.le_of_lt hy'p)
            have e3 : a * ub * u ≤ b * ua * u := by
              rw [Int.mul_right_comm a ub u, Int.mul_right_comm b ua u]
              refine Int.le_trans e1 ?_
              rw [Int.mul_right_comm o ua ub]
              exact e2
            exact Int.le_of_mul_le_mul_right e3 h2
          · simp only [List.mem_singleton] at hcm; rw [hcm, hp] at hy'; simp only [Option.some.injEq] at hy'; rw [← hy']; exact Int.le_refl _
        · rw [if_neg hc]
          refine .inr ⟨o, u, rfl, h2, h3, fun c hcm y' hy' => ?_⟩
          rcases List.mem_append.1 hcm with hcm | hcm
          · exact h4 c hcm y' hy'
          · simp only [List.mem_singleton] at hcm; rw [hcm, hp] at hy'; simp only [Option.some.injEq] at hy'; rw [← hy']; omega

theorem dotL_V {d : Nat} {g y : List Int} (hg : g.length = d) : dotL g y = dot d (V g) (V y) := by
  unfold dotL
  rw [hg]
  rfl

/-- Quotients that are the same are lowered alike. -/
theorem low_same {o u S U : Int} (hu : 0 < u) (hU : 0 < U) (h : o * U = S * u) : low [o, u] = low [S, U] := by
  have g1 : gc [o, u] ≠ 0 := gc_pos (z := u) (by simp) (by omega)
  have g2 : gc [S, U] ≠ 0 := gc_pos (z := U) (by simp) (by omega)
  have m1 := low_mul [o, u]
  have m2 := low_mul [S, U]
  obtain ⟨a, b, hab⟩ := low_two o u
  obtain ⟨c, e, hce⟩ := low_two S U
  have k1 := gc_low g1
  have k2 := gc_low g2
  rw [hab] at m1 k1 ⊢
  rw [hce] at m2 k2 ⊢
  simp only [List.map_cons, List.map_nil, List.cons.injEq, and_true] at m1 m2
  generalize (gc [o, u] : Nat) = G at *
  generalize (gc [S, U] : Nat) = H at *
  obtain ⟨m1a, m1b⟩ := m1
  obtain ⟨m2a, m2b⟩ := m2
  have hG : (0 : Int) < (G : Int) := by omega
  have hH : (0 : Int) < (H : Int) := by omega
  have hb : 0 < b := by
    apply Classical.byContradiction
    intro hn
    have : (G : Int) * b ≤ 0 := Int.mul_nonpos_of_nonneg_of_nonpos (by omega) (by omega)
    omega
  have he : 0 < e := by
    apply Classical.byContradiction
    intro hn
    have : (H : Int) * e ≤ 0 := Int.mul_nonpos_of_nonneg_of_nonpos (by omega) (by omega)
    omega
  have hc : a * e = c * b := by
    have h1 : ((G : Int) * (H : Int)) * (a * e) = ((G : Int) * (H : Int)) * (c * b) := by
      have l : ((G : Int) * (H : Int)) * (a * e) = o * U := by rw [← m1a, ← m2b]; simp only [Int.mul_assoc, Int.mul_left_comm]
      have r : ((G : Int) * (H : Int)) * (c * b) = S * u := by rw [← m2a, ← m1b]; simp only [Int.mul_assoc, Int.mul_left_comm]
      rw [l, r, h]
    exact Int.eq_of_mul_eq_mul_left (Int.ne_of_gt (Int.mul_pos hG hH)) h1
  have := prim_eq (a := e) (b := b) k1 k2 (by omega) (by omega) (by
    simp only [List.map_cons, List.map_nil, List.cons.injEq, and_true]
    exact ⟨by rw [Int.mul_comm e a, hc, Int.mul_comm], Int.mul_comm _ _⟩)
  rcases this with h1 | h1
  · exact h1
  · simp only [List.map_cons, List.map_nil, List.cons.injEq, and_true] at h1
    omega

/-- What the program says and what Greatest finds. -/
theorem best_same {d : Nat} {rows : List (List Int)} {g y : List Int} (hg : g.length = d) (hl : ∀ r ∈ rows, r.length = d + 1) (he : empB d rows = false) (hy : lwO d rows g (waysL rows g) = some y) :
    low [(gtTo d rows (allR d rows) g (chosenL d (rows.length + d)) (chosenL d (rows.length + d)).length).1, (gtTo d rows (allR d rows) g (chosenL d (rows.length + d)) (chosenL d (rows.length + d)).length).2] = low [sdL rows d y (mW rows g y), uW rows g y] := by
  obtain ⟨x0, w0, hf⟩ := emp_fea.1 he
  have hym := lwO_mem hy
  have hw := (way_mem hym).1
  have hU : 0 < uW rows g y := uW_pos hym
  have hmin : ∀ t, t.Sublist rows → wayB g t = true → wS g (pks rows [] y) * wU g t ≤ wS g t * wU g (pks rows [] y) := fun t hs hwt => by
    obtain ⟨c, hc, rfl⟩ := ways_sub (g := rows) hs hwt rfl
    have := lwO_least (fun x hx => uW_pos hx) hy c hc
    rw [sd_wS hg, sd_wS hg, uW_wU, uW_wU] at this
    exact this
  obtain ⟨t0, y0, hs0, hl0, hp0, hy0, heq⟩ := strong hg hl hf (sub_way hym) hw hmin
  obtain ⟨c0, hc0, hct⟩ := chosen_sub hs0 hl0
  rw [all_len] at hc0
  have hpos : ∀ t y, ptT rows d t = some y → 0 < y.getD d 0 := fun t y h => (pt_fea hl h).1
  have hgt : gtTo d rows (allR d rows) g (chosenL d (rows.length + d)) (chosenL d (rows.length + d)).length = (chosenL d (rows.length + d)).foldl (fun s c => gtS d g s (ptT rows d (pks (allR d rows) [] c))) (0, 0) := by
    unfold gtTo
    rw [List.take_length]
  rw [hgt]
  rcases gt_max (g := g) (A := allR d rows) hpos (chosenL d (rows.length + d)) with ⟨_, h2⟩ | ⟨o, u, h1, hu, ⟨t, yy, hyy, ho, huu⟩, h4⟩
  · have := h2 c0 hc0
    rw [hct, hp0] at this
    cases this
  · rw [h1]
    refine low_same hu hU ?_
    show o * uW rows g y = sdL rows d y (mW rows g y) * u
    have hwk := weak hg (pt_fea hl hyy) (fun r hr => (sub_way hym).subset hr) hw
    have h5 := h4 c0 hc0 y0 (by rw [hct]; exact hp0)
    rw [← uW_wU] at hwk heq
    rw [← sd_wS hg] at hwk heq
    rw [← dotL_V hg] at hwk heq
    change dotL g yy * _ ≤ _ * yy.getD d 0 at hwk
    change dotL g y0 * _ = _ * y0.getD d 0 at heq
    have hy0' : 0 < y0.getD d 0 := hy0
    rw [← ho, ← huu] at hwk
    generalize sdL rows d y (mW rows g y) = S at *
    generalize uW rows g y = U at *
    generalize dotL g y0 = a at *
    generalize y0.getD d 0 = b at *
    have h6 : S * u * b ≤ o * U * b := by
      have e1 : a * u * U ≤ o * b * U := Int.mul_le_mul_of_nonneg_right h5 (Int.le_of_lt hU)
      have e2 : S * u * b = a * u * U := by rw [Int.mul_right_comm S u b, ← heq, Int.mul_right_comm]
      rw [e2, Int.mul_right_comm o U b]
      exact e1
    have h7 := Int.le_of_mul_le_mul_right h6 hy0'
    omega

/-- The least way is shown. -/
theorem wyg_least {d : Nat} {rows : List (List Int)} {g y : List Int} (hc : CutF d rows) (hg : g.length = d) (hgb : ∀ z ∈ g, z.natAbs ≤ 20) (h : y ∈ waysL rows g) : WyG rows y (mW rows g y) := by
  have ho := way_ok hc hg hgb h
  obtain ⟨hw, _, _, hr⟩ := way_mem h
  refine ⟨ho.len, by have := ho.l3; omega, ho.mem, hr, fun z hz => ?_⟩
  have hb := ho.bd z hz
  have hz2 := List.mem_of_mem_take hz
  obtain ⟨i, hi, rfl⟩ := List.mem_iff_getElem.1 hz2
  have hn := way_nums hw
  have := hn.2.1 i (by rw [hn.1] at hi; exact hi)
  unfold V at this
  rw [List.getD_eq_getElem?_getD, List.getElem?_eq_getElem hi] at this
  simp only [Option.getD_some] at this
  omega

theorem low_at (l : List Int) (i : Nat) : (gc l : Int) * (low l).getD i 0 = l.getD i 0 := by
  have h := low_mul l
  have h2 := congrArg (fun m : List Int => m.getD i 0) h
  simp only [List.getD_eq_getElem?_getD, List.getElem?_map] at h2
  simp only [List.getD_eq_getElem?_getD]
  cases hz : (low l)[i]? with
  | none => rw [hz] at h2; simpa using h2
  | some z => rw [hz] at h2; simpa using h2

theorem sum_scale (n : Nat) (G : Int) (f h : Nat → Int) (he : ∀ i, i < n → G * f i = h i) (r : Nat → Int) : G * (sumN n fun i => f i * r i) = sumN n fun i => h i * r i := by
  induction n with
  | zero => simp [sumN]
  | succ n ih =>
    rw [sumN, sumN, Int.mul_add, ih (fun i hi => he i (by omega)), ← Int.mul_assoc, he n (by omega)]

theorem refG_at {d i : Nat} (h : i < d + 1) : V (refG d) i = if i = d then -1 else 0 := by
  unfold V refG
  simp [h]

/-- What Farkas tells refutes. -/
theorem ref_ok {d : Nat} {rows : List (List Int)} {c : List Int} (hc : CutF d rows) (h : c ∈ waysL rows (refG d)) :
    WyG rows c (low ((wayN (refG d) (pks rows [] c)).take c.length)) ∧ (∀ i, i < d → (smL rows d c (low ((wayN (refG d) (pks rows [] c)).take c.length))).getD i 0 = 0) ∧ (smL rows d c (low ((wayN (refG d) (pks rows [] c)).take c.length))).getD d 0 < 0 := by
  obtain ⟨hw, hl, hm, hr⟩ := way_mem h
  rw [refG_len] at hl
  have h3 := hc.d4
  obtain ⟨n1, n2, n3⟩ := way_nums hw
  rw [pks_len] at n1 n2 n3
  have hmx : ∀ r ∈ acrL (refG d) (pks rows [] c), ∀ z ∈ r, z.natAbs ≤ 20 := acr20 (fun i hi => by
    have := hm i hi
    exact hc.bd _ (getD_memR (by omega))) fun z hz => by
      simp only [refG, List.mem_map] at hz
      obtain ⟨j, _, rfl⟩ := hz
      split <;> decide
  have hbd : ∀ z ∈ wayN (refG d) (pks rows [] c), z.natAbs ≤ 384000000 := fun z hz => by
    unfold wayN at hz
    rw [pks_len] at hz
    have h1 := norm_bdG hmx z hz
    have h2 : Lin.fb 20 (c.length + 1 - 1) ≤ Lin.fb 20 5 := fb_mono (by decide) (by omega)
    have h3 : Lin.fb 20 5 = 384000000 := by decide
    omega
  generalize wayN (refG d) (pks rows [] c) = N at *
  have htl : (N.take c.length).length = c.length := by rw [List.length_take, n1]; omega
  have hsc : ∀ i, i < c.length → (gc (N.take c.length) : Int) * (low (N.take c.length)).getD i 0 = N.getD i 0 := fun i hi => by
    rw [low_at, take_at hi]
  have hsum : ∀ j, j < d + 1 → (gc (N.take c.length) : Int) * (smL rows d c (low (N.take c.length))).getD j 0 = V N c.length * V (refG d) j := fun j hj => by
    rw [sm_sv hj, sv_pks, sum_scale c.length _ (V (low (N.take c.length))) (V N) hsc, ← n3 j (by rw [refG_len]; exact hj), sv_pks]
  have hlast := hsum d (by omega)
  have hNp := n2 c.length (by omega)
  rw [refG_at (by omega), if_pos rfl] at hlast
  have hG : (gc (N.take c.length) : Int) ≠ 0 := fun e => by
    rw [e, Int.zero_mul] at hlast
    omega
  have hGp : (0 : Int) < (gc (N.take c.length) : Int) := by omega
  have hpos : ∀ i, i < c.length → 0 < (low (N.take c.length)).getD i 0 := fun i hi => by
    have h1 := hsc i hi
    have h2 := n2 i (by omega)
    apply Classical.byContradiction
    intro hn
    have : (gc (N.take c.length) : Int) * (low (N.take c.length)).getD i 0 ≤ 0 := Int.mul_nonpos_of_nonneg_of_nonpos (by omega) (by omega)
    unfold V at h2
    omega
  refine ⟨⟨by rw [low_len, htl], by omega, hm, hr, fun z hz => ?_⟩, fun i hi => ?_, ?_⟩
  · have h1 := low_bd (fun z hz => hbd z (List.mem_of_mem_take hz)) z hz
    obtain ⟨i, hi, rfl⟩ := List.mem_iff_getElem.1 hz
    have h2 := hpos i (by rw [low_len, htl] at hi; exact hi)
    rw [List.getD_eq_getElem?_getD, List.getElem?_eq_getElem hi] at h2
    simp only [Option.getD_some] at h2
    omega
  · have h1 := hsum i (by omega)
    rw [refG_at (by omega), if_neg (by omega), Int.mul_zero] at h1
    exact (Int.mul_eq_zero.1 h1).resolve_left hG
  · apply Classical.byContradiction
    intro hn
    have : 0 ≤ (gc (N.take c.length) : Int) * (smL rows d c (low (N.take c.length))).getD d 0 := Int.mul_nonneg (by omega) (by omega)
    omega

/-- What is told of the least way, lowered. -/
theorem low_cross {S U a b : Int} (h : low [S, U] = [a, b]) : S * b = a * U ∧ a.natAbs ≤ S.natAbs + U.natAbs ∧ b.natAbs ≤ S.natAbs + U.natAbs := by
  have m := low_mul [S, U]
  have hb := low_bd (l := [S, U]) (b := S.natAbs + U.natAbs) (fun z hz => by
    simp only [List.mem_cons, List.not_mem_nil, or_false] at hz
    rcases hz with rfl | rfl <;> omega)
  rw [h] at m hb
  simp only [List.map_cons, List.map_nil, List.cons.injEq, and_true] at m
  have hb1 := hb a (by simp)
  have hb2 := hb b (by simp)
  clear hb h
  generalize ((gc [S, U] : Nat) : Int) = G at m
  obtain ⟨m1, m2⟩ := m
  refine ⟨?_, hb1, hb2⟩
  rw [← m1, ← m2, Int.mul_assoc, Int.mul_left_comm]

end Go.Proofs.Ytdmkmljhljoojaa
