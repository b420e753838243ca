import Derived.Test.YtfedlhanmamifaaLp7
import Derived.Test.YtfedlhanmamifaaEm2
import Derived.Test.YtfedlhanmamifaaHvP
import Derived.Test.YtfedlhanmamifaaCutB
import Derived.Test.YtfedlhanmamifaaMade1
/- The least way says what Greatest finds; what is shown is shown. -/
namespace Go.Proofs.Ytfedlhanmamifaa
open Go.RowKit Lin

theorem pks_len (rows : List (List Int)) (y : List Int) : (pks rows [] y).length = y.length := by simp [pks]
theorem pks_at {rows : List (List Int)} {y : List Int} {i : Nat} (h : i < y.length) : (pks rows [] y).getD i [] = rows.getD (y.getD i 0).toNat [] := by
  simp [pks, List.getD_eq_getElem?_getD, h]

theorem take_at {l : List Int} {n i : Nat} (h : i < n) : (l.take n).getD i 0 = l.getD i 0 := by
  simp [List.getD_eq_getElem?_getD, h]

theorem sv_pks {rows : List (List Int)} {y : List Int} {a : Nat → Int} {j : Nat} : sv (pks rows [] y) a j = sumN y.length fun q => a q * (rows.getD (y.getD q 0).toNat []).getD j 0 := by
  rw [sv_eq, pks_len]
  refine sumN_congr fun q hq => ?_
  rw [pks_at hq]
  rfl

theorem sm_sv {rows : List (List Int)} {d : Nat} {y a : List Int} {i : Nat} (h : i < d + 1) : (smL rows d y a).getD i 0 = sv (pks rows [] y) (V a) i := by
  unfold smL
  rw [smT_get h, sv_pks]
  rfl

theorem sv_mW {rows : List (List Int)} {g y : List Int} {j : Nat} : sv (pks rows [] y) (V (mW rows g y)) j = sv (pks rows [] y) (V (wayN g (pks rows [] y))) j := by
  rw [sv_pks, sv_pks]
  refine sumN_congr fun q hq => ?_
  show (mW rows g y).getD q 0 * _ = (wayN g (pks rows [] y)).getD q 0 * _
  unfold mW
  rw [take_at hq]

theorem sd_wS {d : Nat} {rows : List (List Int)} {g y : List Int} (hg : g.length = d) : sdL rows d y (mW rows g y) = wS g (pks rows [] y) := by
  unfold wS
  rw [hg, ← sv_mW, sv_pks]
  rfl

theorem uW_wU {rows : List (List Int)} {g y : List Int} : uW rows g y = wU g (pks rows [] y) := by
  unfold wU uW
  rw [pks_len]
  rfl

theorem sm_goal {d : Nat} {rows : List (List Int)} {g y : List Int} (hg : g.length = d) (h : y ∈ waysL rows g) {i : Nat} (hi : i < d) : (smL rows d y (mW rows g y)).getD i 0 = g.getD i 0 * uW rows g y := by
  rw [sm_sv (by omega), sv_mW, (way_nums (way_mem h).1).2.2 i (by omega), uW_wU, Int.mul_comm]
  rfl

theorem sm_last {d : Nat} {rows : List (List Int)} {g y : List Int} : (smL rows d y (mW rows g y)).getD d 0 = sdL rows d y (mW rows g y) := by
  rw [sm_sv (by omega), sv_pks]
  rfl

theorem ways_sub {rows : List (List Int)} {g t : List (List Int)} {g' : List Int} (hs : t.Sublist rows) (hw : wayB g' t = true) (_ : g = g) : ∃ c ∈ waysL rows g', pks rows [] c = t := by
  have hx := chz_ext rows [] t.length 0
  rw [List.drop_zero] at hx
  have hm : t ∈ chz t.length rows := chz_mem.2 ⟨hs, rfl⟩
  rw [← hx] at hm
  obtain ⟨c, hc, he⟩ := List.mem_map.1 hm
  refine ⟨c, ?_, he⟩
  simp only [waysL, waysTo, List.mem_flatMap, List.mem_range, List.mem_filter]
  refine ⟨t.length, ?_, hc, by rw [he]; exact hw⟩
  have := hs.length_le
  have := way_short hw
  omega

theorem sub_way {rows : List (List Int)} {g y : List Int} (h : y ∈ waysL rows g) : (pks rows [] y).Sublist rows := by
  simp only [waysL, waysTo, List.mem_flatMap, List.mem_range, List.mem_filter] at h
  obtain ⟨m, hm1, hm2, hm3⟩ := h
  have hx := chz_ext rows [] m 0
  rw [List.drop_zero] at hx
  have : pks rows [] y ∈ chz m rows := by rw [← hx]; exact List.mem_map.2 ⟨y, hm2, rfl⟩
  exact (chz_mem.1 this).1

/-- What Greatest holds is the greatest of what it has seen. -/
theorem gt_max {d : Nat} {R A : List (List Int)} {g : List Int} (hpos : ∀ t y, ptT R d t = some y → 0 < y.getD d 0) : ∀ (C : List (List Int)),
    ((C.foldl (fun s c => gtS d g s (ptT R d (pks A [] c))) ((0, 0) : Int × Int)) = (0, 0) ∧ ∀ c ∈ C, ptT R d (pks A [] c) = none) ∨
    ∃ o u, (C.foldl (fun s c => gtS d g s (ptT R d (pks A [] c))) ((0, 0) : Int × Int)) = (o, u) ∧ 0 < u ∧ (∃ t y, ptT R d t = some y ∧ o = dotL g y ∧ u = y.getD d 0) ∧ ∀ c ∈ C, ∀ y, ptT R d (pks A [] c) = some y → dotL g y * u ≤ o * y.getD d 0 := by
  intro C
  induction C using snocInd with
  | nil => exact .inl ⟨rfl, fun c h => by cases h⟩
  | append_singleton C x ih =>
    rw [List.foldl_append]
    simp only [List.foldl_cons, List.foldl_nil]
    cases hp : ptT R d (pks A [] x) with
    | none =>
      simp only [gtS]
      rcases ih with ⟨h1, h2⟩ | ⟨o, u, h1, h2, h3, h4⟩
      · refine .inl ⟨h1, fun c hc => ?_⟩
        rcases List.mem_append.1 hc with hc | hc
        · exact h2 c hc
        · simp only [List.mem_singleton] at hc; rw [hc]; exact hp
      · refine .inr ⟨o, u, h1, h2, h3, fun c hc y hy => ?_⟩
        rcases List.mem_append.1 hc with hc | hc
        · exact h4 c hc y hy
        · simp only [List.mem_singleton] at hc; rw [hc, hp] at hy; cases hy
    | some y =>
      have hyp := hpos _ _ hp
      rcases ih with ⟨h1, h2⟩ | ⟨o, u, h1, h2, h3, h4⟩
      · rw [h1]
        simp only [gtS]
        refine .inr ⟨dotL g y, y.getD d 0, if_pos (.inl trivial), hyp, ⟨_, y, hp, rfl, rfl⟩, fun c hc y' hy' => ?_⟩
        rcases List.mem_append.1 hc with hc | hc
        · rw [h2 c hc] at hy'; cases hy'
        · simp only [List.mem_singleton] at hc; rw [hc, hp] at hy'; simp only [Option.some.injEq] at hy'; rw [← hy']; exact Int.le_refl _
      · rw [h1]
        simp only [gtS]
        by_cases hc : u = 0 ∨ o * y.getD d 0 < dotL g y * u
        · rw [if_pos hc]
          have hc' : o * y.getD d 0 < dotL g y * u := hc.resolve_left (by omega)
          refine .inr ⟨dotL g y, y.getD d 0, rfl, hyp, ⟨_, y, hp, rfl, rfl⟩, fun c hcm y' hy' => ?_⟩
          rcases List.mem_append.1 hcm with hcm | hcm
          · have h5 := h4 c hcm y' hy'
            have hy'p := hpos _ _ hy'
            generalize dotL g y' = a at *
            generalize y'.getD d 0 = ua at *
            generalize dotL g y = b at *
            generalize y.getD d 0 = ub at *
            -- a / ua ≤ o / u < b / ub
            have e1 : a * u * ub ≤ o * ua * ub := Int.mul_le_mul_of_nonneg_right h5 (Int.le_of_lt hyp)
            have e2 : o * ub * ua ≤ b * u * ua := Int.mul_le_mul_of_nonneg_right (Int.le_of_lt hc') (Int.le_of_lt hy'p)
            have e3 : a * ub * u ≤ b * ua * u := by
              rw [Int.mul_right_comm a ub u, Int.mul_right_comm b ua u]
              refine Int.le_trans e1 ?_
              rw [Int.mul_right_comm o ua ub]
              exact e2
            exact Int.le_of_mul_le_mul_right e3 h2
          · simp only [List.mem_singleton] at hcm; rw [hcm, hp] at hy'; simp only [Option.some.injEq] at hy'; rw [← hy']; exact Int.le_refl _
        · rw [if_neg hc]
          refine .inr ⟨o, u, rfl, h2, h3, fun c hcm y' hy' => ?_⟩
          rcases List.mem_append.1 hcm with hcm | hcm
          · exact h4 c hcm y' hy'
          · simp only [List.mem_singleton] at hcm; rw [hcm, hp] at hy'; simp only [Option.some.injEq] at hy'; rw [← hy']; omega

theorem dotL_V {d : Nat} {g y : List Int} (hg : g.length = d) : dotL g y = dot d (V g) (V y) := by
  unfold dotL
  rw [hg]
  rfl

/-- Quotients that are the same are lowered alike. -/
theorem low_same {o u S U : Int} (hu : 0 < u) (hU : 0 < U) (h : o * U = S * u) : low [o, u] = low [S, U] := by
  have g1 : gc [o, u] ≠ 0 := gc_pos (z := u) (by simp) (by omega)
  have g2 : gc [S, U] ≠ 0 := gc_pos (z := U) (by simp) (by omega)
  have m1 := low_mul [o, u]
  have m2 := low_mul [S, U]
  obtain ⟨a, b, hab⟩ := low_two o u
  obtain ⟨c, e, hce⟩ := low_two S U
  have k1 := gc_low g1
  have k2 := gc_low g2
  rw [hab] at m1 k1 ⊢
  rw [hce] at m2 k2 ⊢
  simp only [List.map_cons, List.map_nil, List.cons.injEq, and_true] at m1 m2
  generalize (gc [o, u] : Nat) = G at *
  generalize (gc [S, U] : Nat) = H at *
  obtain ⟨m1a, m1b⟩ := m1
  obtain ⟨m2a, m2b⟩ := m2
  have hG : (0 : Int) < (G : Int) := by omega
  have hH : (0 : Int) < (H : Int) := by omega
  have hb : 0 < b := by
    apply Classical.byContradiction
    intro hn
    have : (G : Int) * b ≤ 0 := Int.mul_nonpos_of_nonneg_of_nonpos (by omega) (by omega)
    omega
  have he : 0 < e := by
    apply Classical.byContradiction
    intro hn
    have : (H : Int) * e ≤ 0 := Int.mul_nonpos_of_nonneg_of_nonpos (by omega) (by omega)
    omega
  have hc : a * e = c * b := by
    have h1 : ((G : Int) * (H : Int)) * (a * e) = ((G : Int) * (H : Int)) * (c * b) := by
      have l : ((G : Int) * (H : Int)) * (a * e) = o * U := by rw [← m1a, ← m2b]; simp only [Int.mul_assoc, Int.mul_left_comm]
      have r : ((G : Int) * (H : Int)) * (c * b) = S * u := by rw [← m2a, ← m1b]; simp only [Int.mul_assoc, Int.mul_left_comm]
      rw [l, r, h]
    exact Int.eq_of_mul_eq_mul_left (Int.ne_of_gt (Int.mul_pos hG hH)) h1
  have := prim_eq (a := e) (b := b) k1 k2 (by omega) (by omega) (by
    simp only [List.map_cons, List.map_nil, List.cons.injEq, and_true]
    exact ⟨by rw [Int.mul_comm e a, hc, Int.mul_comm], Int.mul_comm _ _⟩)
  rcases this with h1 | h1
  · exact h1
  · simp only [List.map_cons, List.map_nil, List.cons.injEq, and_true] at h1
    omega

/-- What the program says and what Greatest finds. -/
theorem best_same {d : Nat} {rows : List (List Int)} {g y : List Int} (hg : g.length = d) (hl : ∀ r ∈ rows, r.length = d + 1) (he : empB d rows = false) (hy : lwO d rows g (waysL rows g) = some y) :
    low [(gtTo d rows (allR d rows) g (chosenL d (rows.length + d)) (chosenL d (rows.length + d)).length).1, (gtTo d rows (allR d rows) g (chosenL d (rows.length + d)) (chosenL d (rows.length + d)).length).2] = low [sdL rows d y (mW rows g y), uW rows g y] := by
  obtain ⟨x0, w0, hf⟩ := emp_fea.1 he
  have hym := lwO_mem hy
  have hw := (way_mem hym).1
  have hU : 0 < uW rows g y := uW_pos hym
  have hmin : ∀ t, t.Sublist rows → wayB g t = true → wS g (pks rows [] y) * wU g t ≤ wS g t * wU g (pks rows [] y) := fun t hs hwt => by
    obtain ⟨c, hc, rfl⟩ := ways_sub (g := rows) hs hwt rfl
    have := lwO_least (fun x hx => uW_pos hx) hy c hc
    rw [sd_wS hg, sd_wS hg, uW_wU, uW_wU] at this
    exact this
  obtain ⟨t0, y0, hs0, hl0, hp0, hy0, heq⟩ := strong hg hl hf (sub_way hym) hw hmin
  obtain ⟨c0, hc0, hct⟩ := chosen_sub hs0 hl0
  rw [all_len] at hc0
  have hpos : ∀ t y, ptT rows d t = some y → 0 < y.getD d 0 := fun t y h => (pt_fea hl h).1
  have hgt : gtTo d rows (allR d rows) g (chosenL d (rows.length + d)) (chosenL d (rows.length + d)).length = (chosenL d (rows.length + d)).foldl (fun s c => gtS d g s (ptT rows d (pks (allR d rows) [] c))) (0, 0) := by
    unfold gtTo
    rw [List.take_length]
  rw [hgt]
  rcases gt_max (g := g) (A := allR d rows) hpos (chosenL d (rows.length + d)) with ⟨_, h2⟩ | ⟨o, u, h1, hu, ⟨t, yy, hyy, ho, huu⟩, h4⟩
  · have := h2 c0 hc0
    rw [hct, hp0] at this
    cases this
  · rw [h1]
    refine low_same hu hU ?_
    show o * uW rows g y = sdL rows d y (mW rows g y) * u
    have hwk := weak hg (pt_fea hl hyy) (fun r hr => (sub_way hym).subset hr) hw
    have h5 := h4 c0 hc0 y0 (by rw [hct]; exact hp0)
    rw [← uW_wU] at hwk heq
    rw [← sd_wS hg] at hwk heq
    rw [← dotL_V hg] at hwk heq
    change dotL g yy * _ ≤ _ * yy.getD d 0 at hwk
    change dotL g y0 * _ = _ * y0.getD d 0 at heq
    have hy0' : 0 < y0.getD d 0 := hy0
    rw [← ho, ← huu] at hwk
    generalize sdL rows d y (mW rows g y) = S at *
    generalize uW rows g y = U at *
    generalize dotL g y0 = a at *
    generalize y0.getD d 0 = b at *
    have h6 : S * u * b ≤ o * U * b := by
      have e1 : a * u * U ≤ o * b * U := Int.mul_le_mul_of_nonneg_right h5 (Int.le_of_lt hU)
      have e2 : S * u * b = a * u * U := by rw [Int.mul_right_comm S u b, ← heq, Int.mul_right_comm]
      rw [e2, Int.mul_right_comm o U b]
      exact e1
    have h7 := Int.le_of_mul_le_mul_right h6 hy0'
    omega

/-- The least way is shown. -/
theorem wyg_least {d : Nat} {rows : List (List Int)} {g y : List Int} (hc : CutOk d rows) (hg : g.length = d) (hgb : ∀ z ∈ g, z.natAbs ≤ 20) (h : y ∈ waysL rows g) : WyG rows y (mW rows g y) := by
  have ho := way_ok hc hg hgb h
  obtain ⟨hw, _, _, hr⟩ := way_mem h
  refine ⟨ho.len, by have := ho.l3; omega, ho.mem, hr, fun z hz => ?_⟩
  have hb := ho.bd z hz
  have hz2 := List.mem_of_mem_take hz
  obtain ⟨i, hi, rfl⟩ := List.mem_iff_getElem.1 hz2
  have hn := way_nums hw
  have := hn.2.1 i (by rw [hn.1] at hi; exact hi)
  unfold V at this
  rw [List.getD_eq_getElem?_getD, List.getElem?_eq_getElem hi] at this
  simp only [Option.getD_some] at this
  omega

theorem mu_small5 {c : Nat} {m : List (List Int)} (hx : Mx c 60 m) (hl : (pickL c m).length + 1 = c) : ∀ z ∈ muL c (pickL c m), z.natAbs ≤ 311040000 := by
  intro z hz
  simp only [muL, List.mem_map, List.mem_range] at hz
  obtain ⟨k, hk, rfl⟩ := hz
  unfold Lin.mu
  rw [Int.natAbs_mul]
  have h2 : (Lin.ngo k).natAbs = 1 := by rw [ngo_mod]; by_cases e : k % 2 = 1 <;> simp [e]
  rw [h2, Nat.one_mul, fm_length]
  have h5 : Lin.fb 60 4 = 311040000 := by decide
  have m2 : Lin.fb 60 (pickL c m).length ≤ Lin.fb 60 4 := fb_mono (by decide) (by have := hx.c5; omega)
  have hb := Lin.od_bd (n := (pickL c m).length) (B := 60) (Lin.cols (fm (pickL c m)) (Lin.skp k)) (fun _ => false) (fun r hr j hj => by
    simp only [Lin.cols, fm, List.mem_map] at hr
    obtain ⟨_, ⟨l, hl', rfl⟩, rfl⟩ := hr
    by_cases hi : Lin.skp k j < l.length
    · exact hx.bd l (pickL_mem hl') _ (by simp [hi])
    · simp only [List.getD_eq_getElem?_getD]; rw [List.getElem?_eq_none (by omega)]; simp) (by rw [Lin.cu_none]; simp [Lin.cols, fm])
  have hl2 : (Lin.cols (fm (pickL c m)) (Lin.skp k)).length = (pickL c m).length := by simp [Lin.cols, fm]
  rw [hl2] at hb
  omega

theorem norm_bd5 {c : Nat} {m : List (List Int)} (hx : Mx c 60 m) : ∀ z ∈ normL c m, z.natAbs ≤ 311040000 := by
  intro z hz
  unfold normL at hz
  split at hz
  · rename_i hl
    exact upr_bd (low_bd (mu_small5 hx hl)) z hz
  · simp at hz

theorem low_at (l : List Int) (i : Nat) : (gc l : Int) * (low l).getD i 0 = l.getD i 0 := by
  have h := low_mul l
  have h2 := congrArg (fun m : List Int => m.getD i 0) h
  simp only [List.getD_eq_getElem?_getD, List.getElem?_map] at h2
  simp only [List.getD_eq_getElem?_getD]
  cases hz : (low l)[i]? with
  | none => rw [hz] at h2; simpa using h2
  | some z => rw [hz] at h2; simpa using h2

theorem sum_scale (n : Nat) (G : Int) (f h : Nat → Int) (he : ∀ i, i < n → G * f i = h i) (r : Nat → Int) : G * (sumN n fun i => f i * r i) = sumN n fun i => h i * r i := by
  induction n with
  | zero => simp [sumN]
  | succ n ih =>
    rw [sumN, sumN, Int.mul_add, ih (fun i hi => he i (by omega)), ← Int.mul_assoc, he n (by omega)]

theorem refG_at {d i : Nat} (h : i < d + 1) : V (refG d) i = if i = d then -1 else 0 := by
  unfold V refG
  simp [h]

/-- What Farkas tells refutes. -/
theorem ref_ok {d : Nat} {rows : List (List Int)} {c : List Int} (hc : CutOk d rows) (h : c ∈ waysL rows (refG d)) :
    WyG rows c (low ((wayN (refG d) (pks rows [] c)).take c.length)) ∧ (∀ i, i < d → (smL rows d c (low ((wayN (refG d) (pks rows [] c)).take c.length))).getD i 0 = 0) ∧ (smL rows d c (low ((wayN (refG d) (pks rows [] c)).take c.length))).getD d 0 < 0 := by
  obtain ⟨hw, hl, hm, hr⟩ := way_mem h
  rw [refG_len] at hl
  have h3 := hc.d3
  obtain ⟨n1, n2, n3⟩ := way_nums hw
  rw [pks_len] at n1 n2 n3
  have hmx : Mx (c.length + 1) 60 (acrL (refG d) (pks rows [] c)) := by
    rw [← pks_len rows c]
    refine acrL_mx (fun r hr z hz => ?_) (fun z hz => ?_) (by rw [pks_len]; omega)
    · have hr' : r ∈ rows := by
        simp only [pks, List.mem_map] at hr
        obtain ⟨i, hi, rfl⟩ := hr
        have := hm i hi
        exact getD_memR (by omega)
      have := hc.bd r hr' z hz
      omega
    · simp only [refG, List.mem_map] at hz
      obtain ⟨j, _, rfl⟩ := hz
      split <;> decide
  have hbd : ∀ z ∈ wayN (refG d) (pks rows [] c), z.natAbs ≤ 311040000 := fun z hz => by
    unfold wayN at hz
    rw [pks_len] at hz
    exact norm_bd5 hmx z hz
  generalize wayN (refG d) (pks rows [] c) = N at *
  have htl : (N.take c.length).length = c.length := by rw [List.length_take, n1]; omega
  have hsc : ∀ i, i < c.length → (gc (N.take c.length) : Int) * (low (N.take c.length)).getD i 0 = N.getD i 0 := fun i hi => by
    rw [low_at, take_at hi]
  have hsum : ∀ j, j < d + 1 → (gc (N.take c.length) : Int) * (smL rows d c (low (N.take c.length))).getD j 0 = V N c.length * V (refG d) j := fun j hj => by
    rw [sm_sv hj, sv_pks, sum_scale c.length _ (V (low (N.take c.length))) (V N) hsc, ← n3 j (by rw [refG_len]; exact hj), sv_pks]
  have hlast := hsum d (by omega)
  have hNp := n2 c.length (by omega)
  rw [refG_at (by omega), if_pos rfl] at hlast
  have hG : (gc (N.take c.length) : Int) ≠ 0 := fun e => by
    rw [e, Int.zero_mul] at hlast
    omega
  have hGp : (0 : Int) < (gc (N.take c.length) : Int) := by omega
  have hpos : ∀ i, i < c.length → 0 < (low (N.take c.length)).getD i 0 := fun i hi => by
    have h1 := hsc i hi
    have h2 := n2 i (by omega)
    apply Classical.byContradiction
    intro hn
    have : (gc (N.take c.length) : Int) * (low (N.take c.length)).getD i 0 ≤ 0 := Int.mul_nonpos_of_nonneg_of_nonpos (by omega) (by omega)
    unfold V at h2
    omega
  refine ⟨⟨by rw [low_len, htl], by omega, hm, hr, fun z hz => ?_⟩, fun i hi => ?_, ?_⟩
  · have h1 := low_bd (fun z hz => hbd z (List.mem_of_mem_take hz)) z hz
    obtain ⟨i, hi, rfl⟩ := List.mem_iff_getElem.1 hz
    have h2 := hpos i (by rw [low_len, htl] at hi; exact hi)
    rw [List.getD_eq_getElem?_getD, List.getElem?_eq_getElem hi] at h2
    simp only [Option.getD_some] at h2
    omega
  · have h1 := hsum i (by omega)
    rw [refG_at (by omega), if_neg (by omega), Int.mul_zero] at h1
    exact (Int.mul_eq_zero.1 h1).resolve_left hG
  · apply Classical.byContradiction
    intro hn
    have : 0 ≤ (gc (N.take c.length) : Int) * (smL rows d c (low (N.take c.length))).getD d 0 := Int.mul_nonneg (by omega) (by omega)
    omega

/-- What is told of the least way, lowered. -/
theorem low_cross {S U a b : Int} (h : low [S, U] = [a, b]) : S * b = a * U ∧ a.natAbs ≤ S.natAbs + U.natAbs ∧ b.natAbs ≤ S.natAbs + U.natAbs := by
  have m := low_mul [S, U]
  have hb := low_bd (l := [S, U]) (b := S.natAbs + U.natAbs) (fun z hz => by
    simp only [List.mem_cons, List.not_mem_nil, or_false] at hz
    rcases hz with rfl | rfl <;> omega)
  rw [h] at m hb
  simp only [List.map_cons, List.map_nil, List.cons.injEq, and_true] at m
  have hb1 := hb a (by simp)
  have hb2 := hb b (by simp)
  clear hb h
  generalize ((gc [S, U] : Nat) : Int) = G at m
  obtain ⟨m1, m2⟩ := m
  refine ⟨?_, hb1, hb2⟩
  rw [← m1, ← m2, Int.mul_assoc, Int.mul_left_comm]

end Go.Proofs.Ytfedlhanmamifaa

/- The law LpSays, of cuts and goals that may be. -/
namespace Go.Proofs.Ytfedlhanmamifaa
open Go.RowKit Lin
attribute [local go_sem ↓] Go.wp_at_zero Go.wp_at_succ

theorem low_b {S U a b : Int} (h : low [S, U] = [a, b]) (hU : 0 < U) : b.natAbs ≤ U.natAbs := by
  have m := low_at [S, U] 1
  rw [h] at m
  have m2 : ((Lin.gc [S, U] : Nat) : Int) * b = U := m
  have hG : Lin.gc [S, U] ≠ 0 := fun e => by rw [e] at m2; simp at m2; omega
  rw [← m2, Int.natAbs_mul, Int.natAbs_natCast]
  exact Nat.le_mul_of_pos_left _ (by omega)

theorem gm_cases (d : Nat) (rows : List (List Int)) (g : List Int) : (gmE d rows g = 0 ∧ empB d rows = false ∧ ∃ y, lwO d rows g (waysL rows g) = some y) ∨ (gmE d rows g ≠ 0 ∧ empB d rows = false) ∨ (gmE d rows g ≠ 0 ∧ empB d rows = true) := by
  unfold gmE
  cases he : empB d rows
  · by_cases hw : waysL rows g = []
    · refine .inr (.inl ⟨?_, rfl⟩)
      simp [hw]
    · refine .inl ⟨by simp [hw], rfl, ?_⟩
      cases hl : lwO d rows g (waysL rows g) with
      | none => exact absurd (lwO_none.1 hl) hw
      | some y => exact ⟨y, rfl⟩
  · exact .inr (.inr ⟨by simp, rfl⟩)

theorem emp_ways (d : Nat) (rows : List (List Int)) : (empB d rows = false → waysL rows (refG d) = []) ∧ (empB d rows = true → waysL rows (refG d) ≠ []) := by
  unfold empB
  cases waysL rows (refG d) <;> simp

theorem FkV.no {d : Nat} {rows : List (List Int)} {w : World} {tv : Value} {e : Int} (h : FkV d rows w tv e) (he : empB d rows = false) : tv = nilW ∧ e = 3 := by
  rcases h with ⟨_, h⟩ | ⟨c, l, co, cc, po, pc, h, _⟩
  · exact h
  · rw [(emp_ways d rows).1 he] at h; cases h

set_option maxRecDepth 100000 in
set_option maxHeartbeats 4000000 in
theorem lpSays_ok (d : Nat) (rows : List (List Int)) (g : List Int) (v gv : Value) (w : World) (hv : Mat 0 22 3 w v rows) (hg : Sl 0 3 w gv (ints g)) (hc : CutOk d rows) (hgl : g.length = d) (hgb : ∀ z ∈ g, z.natAbs ≤ 20) :
    Calls Try.prog 5 #[.agg #[.int .i64 d, v], gv] w fun e w' => e = .returned (.bool true) ∧ Below w.heap.size w w' := by
  obtain ⟨ro, rc, hvv, hlc, hcm⟩ := mat_open hv
  obtain ⟨go, gc, hgg, _, _⟩ := sl_open hg
  rw [hgl] at hgg
  subst hvv hgg
  obtain ⟨W, hW, hbW, hsW, hcW⟩ := cut_box w d (.slice ro rows.length rc)
  have HWW : Hid (W = w.alloc (.cells #[.int .i64 d, .slice ro rows.length rc] 27)) := hW
  have HSW : Hid (W.heap.size = w.heap.size + 1) := hsW
  have HBW : Hid (∀ X, Below W.heap.size W X → Below w.heap.size w X) := fun X hX => hbW.trans (hX.mono hbW.size)
  have HCC : Hid (∀ X, Below W.heap.size W X → X.cell? ⟨w.heap.size, 0, none⟩ = some (.int .i64 d) ∧ X.cell? ⟨w.heap.size, 1, none⟩ = some (.slice ro rows.length rc)) := hcW
  have HVW : Hid (∀ X, Below W.heap.size W X → Mat 0 22 3 X (.slice ro rows.length rc) rows) := fun X hX => hv.below (HBW.out X hX) (Nat.le_refl _)
  have HGW : Hid (∀ X, Below W.heap.size W X → Sl 0 3 X (.slice go d gc) (ints g)) := fun X hX => hg.below (HBW.out X hX) (Nat.le_refl _)
  have HC : Hid (CutOk d rows) := hc
  have HGL : Hid (g.length = d) := hgl
  have HGB : Hid (∀ z ∈ g, z.natAbs ≤ 20) := hgb
  have HHV : Hid (Calls Try.prog 8 #[.slice ro rows.length rc] W fun e w' => ∃ b, e = .returned (.bool b) ∧ w' = W) := by
    refine (heavy_any 0 rows _ W (hv.below hbW (Nat.le_refl _))).mono ?_
    rintro e w' ⟨b, rfl, _, rfl⟩
    exact ⟨b, rfl, rfl⟩
  have HGM : Hid (Calls Try.prog 9 #[.agg #[.int .i64 d, .slice ro rows.length rc], .slice go d gc] W fun e w' => e = .returned (.int .i64 (gmE d rows g)) ∧ Below W.heap.size W w') := goalMay_any d rows g _ _ W (HVW.out W (Below.refl _ _)) (HGW.out W (Below.refl _ _)) hc hgl hgb
  have HBE : Hid (∀ X, Below W.heap.size W X → Calls Try.prog 11 #[.agg #[.int .i64 d, .slice ro rows.length rc], .slice go d gc] X fun e w' => ∃ a b, e = .returned (.tuple #[.int .i64 a, .int .i64 b, .int .i64 (gmE d rows g)]) ∧ BestV d rows g a b ∧ Below X.heap.size X w') := fun X hX => best_any d rows g _ _ X (HVW.out X hX) (HGW.out X hX) hc hgl hgb
  have HSH : Hid (∀ X, Below W.heap.size W X → Calls Try.prog 12 #[.agg #[.int .i64 d, .slice ro rows.length rc], .slice go d gc] X fun e w' => ∃ tv, e = .returned (.tuple #[tv, .int .i64 (gmE d rows g)]) ∧ LwV d rows g w' tv ∧ Below X.heap.size X w') := fun X hX => shows_any d rows g _ _ X (HVW.out X hX) (HGW.out X hX) hc hgl hgb
  have HCM : Hid (∀ X, Below W.heap.size W X → Calls Try.prog 14 #[.agg #[.int .i64 d, .slice ro rows.length rc]] X fun e w' => e = .returned (.int .i64 0) ∧ Below X.heap.size X w') := fun X hX => cutMay_ok d rows _ X (HVW.out X hX) hc
  have HEM : Hid (∀ X, Below W.heap.size W X → Calls Try.prog 15 #[.slice ro rows.length rc, .int .i64 d] X fun e w' => e = .returned (.bool (empB d rows)) ∧ Below X.heap.size X w') := fun X hX => by
    have h := empty_any d rows _ X (HVW.out X hX) hc.d1 hc.d3 (by have := hc.n12; omega) hc.rw
    rw [doc_emp hc.len] at h
    exact h
  have HFA : Hid (∀ X, Below W.heap.size W X → Calls Try.prog 16 #[.agg #[.int .i64 d, .slice ro rows.length rc]] X fun e w' => ∃ tv E, e = .returned (.tuple #[tv, .int .i64 E]) ∧ FkV d rows w' tv E ∧ Below X.heap.size X w') := fun X hX => farkasL_any d rows _ X (HVW.out X hX) hc
  have hd3 : (d : Int) ≤ 3 := by have := hc.d3; omega
  have hd300 : decide ((300 : Int) < (d : Int)) = false := decide_eq_false (by omega)
  obtain ⟨c0, c1⟩ := hcW W (Below.refl _ _)
  clear hv hg hc hgl hgb hW hbW hsW hcW
  go_enter Try.func5, Try.ntmps5
  go_upto_region 1 with fail
  rw [← HWW.out]
  go_wp2_with fail
  refine HHV.out.mono ?_
  rintro e w' ⟨b, rfl, hww⟩
  rw [hww]
  clear hww w'
  cases b
  case true =>
    go_wp2
    go_ret
    exact ⟨rfl, HBW.out _ (Below.refl _ _)⟩
  case false =>
    go_wp2_with fail
    refine HGM.out.mono ?_
    rintro e w1 ⟨rfl, hb1⟩
    have HB1 : Hid (Below W.heap.size W w1) := hb1
    clear hb1 c0 c1 HGM HHV
    obtain ⟨c0, c1⟩ := HCC.out w1 HB1.out
    rcases gm_cases d rows g with ⟨hE, he, y, hy⟩ | ⟨hE, he⟩ | ⟨hE, he⟩
    · rw [hE]
      obtain ⟨a, b, hab⟩ := low_two (sdL rows d y (mW rows g y)) (uW rows g y)
      have hym := lwO_mem hy
      have hbs := best_same HGL.out HC.out.len he hy
      rw [hab] at hbs
      have HGR : Hid (Calls Try.prog 10 #[.agg #[.int .i64 d, .slice ro rows.length rc], .slice go d gc] w1 fun e w' => e = .returned (.tuple #[.int .i64 a, .int .i64 b]) ∧ Below w1.heap.size w1 w') := greatest_any d rows g _ _ w1 (HVW.out w1 HB1.out) (HGW.out w1 HB1.out) HGL.out HGB.out HC.out.d1 HC.out.d3 HC.out.n12 HC.out.rw a b hbs
      have HBE2 : Hid (∀ X, Below W.heap.size W X → Calls Try.prog 11 #[.agg #[.int .i64 d, .slice ro rows.length rc], .slice go d gc] X fun e w' => e = .returned (.tuple #[.int .i64 a, .int .i64 b, .int .i64 0]) ∧ Below X.heap.size X w') := fun X hX => by
        refine (HBE.out X hX).mono ?_
        rintro e w' ⟨a', b', rfl, hv, hb⟩
        rw [hE]
        rcases hv with ⟨hn, _⟩ | ⟨y', _, hy', hl'⟩
        · exact absurd hE hn
        · rw [hy] at hy'
          simp only [Option.some.injEq] at hy'
          subst hy'
          rw [hab] at hl'
          simp only [List.cons.injEq, and_true] at hl'
          rw [hl'.1, hl'.2]
          exact ⟨rfl, hb⟩
      have HSH2 : Hid (∀ X, Below W.heap.size W X → Calls Try.prog 12 #[.agg #[.int .i64 d, .slice ro rows.length rc], .slice go d gc] X fun e w' => ∃ co cc po pc, e = .returned (.tuple #[.agg #[.slice co y.length cc, .slice po y.length pc, .int .i64 (uW rows g y)], .int .i64 0]) ∧ Sl 0 3 w' (.slice co y.length cc) (ints y) ∧ Sl 0 3 w' (.slice po y.length pc) (ints (mW rows g y)) ∧ Below X.heap.size X w') := fun X hX => by
        refine (HSH.out X hX).mono ?_
        rintro e w' ⟨tv, rfl, hv, hb⟩
        rw [hE]
        rcases hv with ⟨hn, _⟩ | ⟨y', co, cc, po, pc, _, hy', rfl, h1, h2⟩
        · exact absurd hE hn
        · rw [hy] at hy'
          simp only [Option.some.injEq] at hy'
          subst hy'
          exact ⟨co, cc, po, pc, rfl, h1, h2, hb⟩
      have HSN : Hid (∀ X, Below W.heap.size W X → ∀ co cc po pc, Sl 0 3 X (.slice co y.length cc) (ints y) → Sl 0 3 X (.slice po y.length pc) (ints (mW rows g y)) → Calls Try.prog 13 #[.agg #[.int .i64 d, .slice ro rows.length rc], .slice go d gc, .agg #[.slice co y.length cc, .slice po y.length pc, .int .i64 (uW rows g y)], .int .i64 a, .int .i64 b] X fun e w' => e = .returned (.bool true) ∧ Below X.heap.size X w') := fun X hX co cc po pc h1 h2 => by
        have hok := way_ok HC.out HGL.out HGB.out hym
        have hub := hok.ub
        have hup := uW_pos hym
        have hsb := sdL_bd hok HC.out.rw
        obtain ⟨x1, x2, _⟩ := low_cross hab
        have x3 := low_b hab hup
        exact shown_ok d rows y (mW rows g y) _ co po cc pc y.length g _ (uW rows g y) a b X (HVW.out X hX) h1 h2 HC.out.rw HC.out.d1 HC.out.d3 (wyg_least HC.out HGL.out HGB.out hym) rfl (HGW.out X hX) HGL.out HGB.out (by omega) (by omega) (by omega) (by omega) (fun i hi => sm_goal HGL.out hym hi) (by rw [sm_last]; exact x1)
      have HE : Hid (empB d rows = false) := he
      clear hE he hy hab hym hbs HBE HSH
      generalize uW rows g y = uy at *
      go_wp2_with fail
      refine HGR.out.mono ?_
      rintro e w2 ⟨rfl, hb2⟩
      have HB2 : Hid (Below W.heap.size W w2) := HB1.out.trans (hb2.mono HB1.out.size)
      clear hb2 c0 c1 HGR
      obtain ⟨c0, c1⟩ := HCC.out w2 HB2.out
      go_wp2_with fail
      refine (HBE2.out w2 HB2.out).mono ?_
      rintro e w3 ⟨rfl, hb3⟩
      have HB3 : Hid (Below W.heap.size W w3) := HB2.out.trans (hb3.mono HB2.out.size)
      clear hb3 c0 c1 HBE2
      obtain ⟨c0, c1⟩ := HCC.out w3 HB3.out
      go_wp2_with fail
      refine (HSH2.out w3 HB3.out).mono ?_
      rintro e w4 ⟨co, cc, po, pc, rfl, hs1, hs2, hb4⟩
      have HB4 : Hid (Below W.heap.size W w4) := HB3.out.trans (hb4.mono HB3.out.size)
      clear hb4 c0 c1 HSH2
      obtain ⟨w5, hw5⟩ : ∃ w5, w5 = w4.alloc (.cells #[.slice co y.length cc, .slice po y.length pc, .int .i64 uy] 39) := ⟨_, rfl⟩
      have hb45 : Below w4.heap.size w4 w5 := by rw [hw5]; exact alloc_keep _ _
      have hk5 : w5.heap[w4.heap.size]? = some (.cells #[.slice co y.length cc, .slice po y.length pc, .int .i64 uy] 39 (0, 0)) := by rw [hw5]; exact alloc_new _ _
      have HB5 : Hid (Below W.heap.size W w5) := HB4.out.trans (hb45.mono HB4.out.size)
      have HSN5 : Hid (Calls Try.prog 13 #[.agg #[.int .i64 d, .slice ro rows.length rc], .slice go d gc, .agg #[.slice co y.length cc, .slice po y.length pc, .int .i64 uy], .int .i64 a, .int .i64 b] w5 fun e w' => e = .returned (.bool true) ∧ Below w5.heap.size w5 w') := HSN.out w5 HB5.out co cc po pc (hs1.below hb45 (Nat.le_refl _)) (hs2.below hb45 (Nat.le_refl _))
      have HW5 : Hid (w5 = w4.alloc (.cells #[.slice co y.length cc, .slice po y.length pc, .int .i64 uy] 39)) := hw5
      have HWB : Hid (∀ X, Below w5.heap.size w5 X → Wb w4.heap.size X) := fun X hX => ⟨_, _, _, (hX.block _ (Array.getElem?_eq_some_iff.1 hk5).1).trans hk5⟩
      have HTB : Hid (w.heap.size + 1 ≤ w4.heap.size) := by show _ ≤ _; rw [← HSW.out]; exact HB4.out.size
      have s0 : w5.cell? ⟨w4.heap.size, 0, none⟩ = some (.slice co y.length cc) := by simp [World.cell?, hk5]
      have s1 : w5.cell? ⟨w4.heap.size, 1, none⟩ = some (.slice po y.length pc) := by simp [World.cell?, hk5]
      have s2 : w5.cell? ⟨w4.heap.size, 2, none⟩ = some (.int .i64 uy) := by simp [World.cell?, hk5]
      obtain ⟨c0, c1⟩ := HCC.out w5 HB5.out
      obtain ⟨tb, htb⟩ : ∃ tb, tb = w4.heap.size := ⟨_, rfl⟩
      clear hs1 hs2 hw5 hb45 hk5 HSN
      go_upto_region 10 with fail
      rw [← HW5.out]
      rw [← htb] at HWB HTB s0 s1 s2 ⊢
      clear htb HW5
      go_wp2_with fail
      refine HSN5.out.mono ?_
      rintro e w6 ⟨rfl, hb6⟩
      have HB6 : Hid (Below W.heap.size W w6) := HB5.out.trans (hb6.mono HB5.out.size)
      have HWB6 : Hid (∀ X, Below w6.heap.size w6 X → Wb tb X) := fun X hX => HWB.out X (hb6.trans (hX.mono hb6.size))
      clear hb6 s0 s1 s2 c0 c1 HSN5
      obtain ⟨c0, c1⟩ := HCC.out w6 HB6.out
      go_wp2_with fail
      refine (HCM.out w6 HB6.out).mono ?_
      rintro e w7 ⟨rfl, hb7⟩
      have HB67 : Hid (Below w6.heap.size w6 w7) := hb7
      have HB7 : Hid (Below W.heap.size W w7) := HB6.out.trans (hb7.mono HB6.out.size)
      clear hb7 c0 c1
      obtain ⟨c0, c1⟩ := HCC.out w7 HB7.out
      have HEM7 : Hid (Calls Try.prog 15 #[.slice ro rows.length rc, .int .i64 d] w7 fun e w' => e = .returned (.bool false) ∧ Below w7.heap.size w7 w') := by
        have h := HEM.out w7 HB7.out
        rw [HE.out] at h
        exact h
      go_wp2_with fail
      refine HEM7.out.mono ?_
      rintro e w8 ⟨rfl, hb8⟩
      have HB68 : Hid (Below w6.heap.size w6 w8) := HB67.out.trans (hb8.mono HB67.out.size)
      have HB8 : Hid (Below W.heap.size W w8) := HB7.out.trans (hb8.mono HB7.out.size)
      clear hb8 c0 c1 HEM7
      obtain ⟨c0, c1⟩ := HCC.out w8 HB8.out
      go_wp2_with fail
      refine (HFA.out w8 HB8.out).mono ?_
      rintro e w9 ⟨tv, E9, rfl, hfv, hb9⟩
      have HB69 : Hid (Below w6.heap.size w6 w9) := HB68.out.trans (hb9.mono HB68.out.size)
      have HB9 : Hid (Below W.heap.size W w9) := HB8.out.trans (hb9.mono HB8.out.size)
      have HW9 : Hid (Wb tb w9) := HWB6.out w9 HB69.out
      obtain ⟨f0, f1, f2⟩ := HW9.out.frozen
      obtain ⟨x0, x1, x2, r0, r1, r2⟩ := HW9.out.cells
      clear hb9 c0 c1
      obtain ⟨rfl, rfl⟩ := hfv.no HE.out
      obtain ⟨Ws, hWs, g1, g2, g3, g4, g5, g6⟩ := three_sets (.slice none 0 0) (.slice none 0 0) (.int .i64 0) HW9.out
      have HWs : Hid (Ws = ((w9.setCell ⟨tb, 0, none⟩ (.slice none 0 0)).setCell ⟨tb, 1, none⟩ (.slice none 0 0)).setCell ⟨tb, 2, none⟩ (.int .i64 0)) := hWs
      have HBZ : Hid (Below w.heap.size w Ws) := by
        have hb := HBW.out w9 HB9.out
        have ht := HTB.out
        exact ⟨g4.trans hb.os, g5.trans hb.tape, g6.trans hb.output, by rw [g3]; exact hb.size, fun k hk => (g2 k (by omega)).trans (hb.block k hk)⟩
      have s0 : Ws.cell? ⟨tb, 0, none⟩ = some (.slice none 0 0) := by simp [World.cell?, g1]
      have s1 : Ws.cell? ⟨tb, 1, none⟩ = some (.slice none 0 0) := by simp [World.cell?, g1]
      have s2 : Ws.cell? ⟨tb, 2, none⟩ = some (.int .i64 0) := by simp [World.cell?, g1]
      clear hWs g1 g2 g3 g4 g5 g6 hfv
      unfold nilW
      go_upto_region 21 with fail
      rw [← HWs.out]
      go_wp2
      go_ret
      exact ⟨rfl, HBZ.out⟩
    · have HNE : Hid (gmE d rows g ≠ 0) := hE
      have hEb : (gmE d rows g == 0) = false := by simpa using hE
      have hEb2 : (gmE d rows g != 0) = true := by simpa using hE
      have HBE2 : Hid (∀ X, Below W.heap.size W X → Calls Try.prog 11 #[.agg #[.int .i64 d, .slice ro rows.length rc], .slice go d gc] X fun e w' => e = .returned (.tuple #[.int .i64 0, .int .i64 0, .int .i64 (gmE d rows g)]) ∧ Below X.heap.size X w') := fun X hX => by
        refine (HBE.out X hX).mono ?_
        rintro e w' ⟨a', b', rfl, hv, hb⟩
        rcases hv with ⟨_, rfl, rfl⟩ | ⟨y', hn, _⟩
        · exact ⟨rfl, hb⟩
        · exact absurd hn HNE.out
      have HSH2 : Hid (∀ X, Below W.heap.size W X → Calls Try.prog 12 #[.agg #[.int .i64 d, .slice ro rows.length rc], .slice go d gc] X fun e w' => e = .returned (.tuple #[.agg #[.slice none 0 0, .slice none 0 0, .int .i64 0], .int .i64 (gmE d rows g)]) ∧ Below X.heap.size X w') := fun X hX => by
        refine (HSH.out X hX).mono ?_
        rintro e w' ⟨tv, rfl, hv, hb⟩
        rcases hv with ⟨_, rfl⟩ | ⟨y', co, cc, po, pc, hn, _⟩
        · exact ⟨rfl, hb⟩
        · exact absurd hn HNE.out
      have HE : Hid (empB d rows = false) := he
      clear hE he HBE HSH
      generalize gmE d rows g = E at *
      go_wp2_with fail
      refine (HBE2.out w1 HB1.out).mono ?_
      rintro e w3 ⟨rfl, hb3⟩
      have HB3 : Hid (Below W.heap.size W w3) := HB1.out.trans (hb3.mono HB1.out.size)
      clear hb3 c0 c1 HBE2
      obtain ⟨c0, c1⟩ := HCC.out w3 HB3.out
      go_wp2_with fail
      refine (HSH2.out w3 HB3.out).mono ?_
      rintro e w4 ⟨rfl, hb4⟩
      have HB4 : Hid (Below W.heap.size W w4) := HB3.out.trans (hb4.mono HB3.out.size)
      clear hb4 c0 c1 HSH2
      obtain ⟨w6, hw5⟩ : ∃ w6, w6 = w4.alloc (.cells #[.slice none 0 0, .slice none 0 0, .int .i64 0] 39) := ⟨_, rfl⟩
      have hb45 : Below w4.heap.size w4 w6 := by rw [hw5]; exact alloc_keep _ _
      have hk5 : w6.heap[w4.heap.size]? = some (.cells #[.slice none 0 0, .slice none 0 0, .int .i64 0] 39 (0, 0)) := by rw [hw5]; exact alloc_new _ _
      have HB6 : Hid (Below W.heap.size W w6) := HB4.out.trans (hb45.mono HB4.out.size)
      have HW5 : Hid (w6 = w4.alloc (.cells #[.slice none 0 0, .slice none 0 0, .int .i64 0] 39)) := hw5
      have HWB6 : Hid (∀ X, Below w6.heap.size w6 X → Wb w4.heap.size X) := fun X hX => ⟨_, _, _, (hX.block _ (Array.getElem?_eq_some_iff.1 hk5).1).trans hk5⟩
      have HTB : Hid (w.heap.size + 1 ≤ w4.heap.size) := by show _ ≤ _; rw [← HSW.out]; exact HB4.out.size
      have s0 : w6.cell? ⟨w4.heap.size, 0, none⟩ = some (.slice none 0 0) := by simp [World.cell?, hk5]
      have s1 : w6.cell? ⟨w4.heap.size, 1, none⟩ = some (.slice none 0 0) := by simp [World.cell?, hk5]
      have s2 : w6.cell? ⟨w4.heap.size, 2, none⟩ = some (.int .i64 0) := by simp [World.cell?, hk5]
      obtain ⟨tb, htb⟩ : ∃ tb, tb = w4.heap.size := ⟨_, rfl⟩
      clear hw5 hb45 hk5
      go_upto_region 10 with fail
      rw [← HW5.out]
      rw [← htb] at HWB6 HTB s0 s1 s2 ⊢
      clear htb HW5
      go_upto_region 17 with fail
      clear s0 s1 s2
      obtain ⟨c0, c1⟩ := HCC.out w6 HB6.out
      go_wp2_with fail
      refine (HCM.out w6 HB6.out).mono ?_
      rintro e w7 ⟨rfl, hb7⟩
      have HB67 : Hid (Below w6.heap.size w6 w7) := hb7
      have HB7 : Hid (Below W.heap.size W w7) := HB6.out.trans (hb7.mono HB6.out.size)
      clear hb7 c0 c1
      obtain ⟨c0, c1⟩ := HCC.out w7 HB7.out
      have HEM7 : Hid (Calls Try.prog 15 #[.slice ro rows.length rc, .int .i64 d] w7 fun e w' => e = .returned (.bool false) ∧ Below w7.heap.size w7 w') := by
        have h := HEM.out w7 HB7.out
        rw [HE.out] at h
        exact h
      go_wp2_with fail
      refine HEM7.out.mono ?_
      rintro e w8 ⟨rfl, hb8⟩
      have HB68 : Hid (Below w6.heap.size w6 w8) := HB67.out.trans (hb8.mono HB67.out.size)
      have HB8 : Hid (Below W.heap.size W w8) := HB7.out.trans (hb8.mono HB7.out.size)
      clear hb8 c0 c1 HEM7
      obtain ⟨c0, c1⟩ := HCC.out w8 HB8.out
      go_wp2_with fail
      refine (HFA.out w8 HB8.out).mono ?_
      rintro e w9 ⟨tv, E9, rfl, hfv, hb9⟩
      have HB69 : Hid (Below w6.heap.size w6 w9) := HB68.out.trans (hb9.mono HB68.out.size)
      have HB9 : Hid (Below W.heap.size W w9) := HB8.out.trans (hb9.mono HB8.out.size)
      have HW9 : Hid (Wb tb w9) := HWB6.out w9 HB69.out
      obtain ⟨f0, f1, f2⟩ := HW9.out.frozen
      obtain ⟨x0, x1, x2, r0, r1, r2⟩ := HW9.out.cells
      clear hb9 c0 c1
      obtain ⟨rfl, rfl⟩ := hfv.no HE.out
      obtain ⟨Ws, hWs, g1, g2, g3, g4, g5, g6⟩ := three_sets (.slice none 0 0) (.slice none 0 0) (.int .i64 0) HW9.out
      have HWs : Hid (Ws = ((w9.setCell ⟨tb, 0, none⟩ (.slice none 0 0)).setCell ⟨tb, 1, none⟩ (.slice none 0 0)).setCell ⟨tb, 2, none⟩ (.int .i64 0)) := hWs
      have HBZ : Hid (Below w.heap.size w Ws) := by
        have hb := HBW.out w9 HB9.out
        have ht := HTB.out
        exact ⟨g4.trans hb.os, g5.trans hb.tape, g6.trans hb.output, by rw [g3]; exact hb.size, fun k hk => (g2 k (by omega)).trans (hb.block k hk)⟩
      have s0 : Ws.cell? ⟨tb, 0, none⟩ = some (.slice none 0 0) := by simp [World.cell?, g1]
      have s1 : Ws.cell? ⟨tb, 1, none⟩ = some (.slice none 0 0) := by simp [World.cell?, g1]
      have s2 : Ws.cell? ⟨tb, 2, none⟩ = some (.int .i64 0) := by simp [World.cell?, g1]
      clear hWs g1 g2 g3 g4 g5 g6 hfv
      unfold nilW
      go_upto_region 21 with fail
      rw [← HWs.out]
      go_wp2
      go_ret
      exact ⟨rfl, HBZ.out⟩
    · have HNE : Hid (gmE d rows g ≠ 0) := hE
      have hEb : (gmE d rows g == 0) = false := by simpa using hE
      have hEb2 : (gmE d rows g != 0) = true := by simpa using hE
      have HBE2 : Hid (∀ X, Below W.heap.size W X → Calls Try.prog 11 #[.agg #[.int .i64 d, .slice ro rows.length rc], .slice go d gc] X fun e w' => e = .returned (.tuple #[.int .i64 0, .int .i64 0, .int .i64 (gmE d rows g)]) ∧ Below X.heap.size X w') := fun X hX => by
        refine (HBE.out X hX).mono ?_
        rintro e w' ⟨a', b', rfl, hv, hb⟩
        rcases hv with ⟨_, rfl, rfl⟩ | ⟨y', hn, _⟩
        · exact ⟨rfl, hb⟩
        · exact absurd hn HNE.out
      have HSH2 : Hid (∀ X, Below W.heap.size W X → Calls Try.prog 12 #[.agg #[.int .i64 d, .slice ro rows.length rc], .slice go d gc] X fun e w' => e = .returned (.tuple #[.agg #[.slice none 0 0, .slice none 0 0, .int .i64 0], .int .i64 (gmE d rows g)]) ∧ Below X.heap.size X w') := fun X hX => by
        refine (HSH.out X hX).mono ?_
        rintro e w' ⟨tv, rfl, hv, hb⟩
        rcases hv with ⟨_, rfl⟩ | ⟨y', co, cc, po, pc, hn, _⟩
        · exact ⟨rfl, hb⟩
        · exact absurd hn HNE.out
      have HE : Hid (empB d rows = true) := he
      clear hE he HBE HSH
      generalize gmE d rows g = E at *
      go_wp2_with fail
      refine (HBE2.out w1 HB1.out).mono ?_
      rintro e w3 ⟨rfl, hb3⟩
      have HB3 : Hid (Below W.heap.size W w3) := HB1.out.trans (hb3.mono HB1.out.size)
      clear hb3 c0 c1 HBE2
      obtain ⟨c0, c1⟩ := HCC.out w3 HB3.out
      go_wp2_with fail
      refine (HSH2.out w3 HB3.out).mono ?_
      rintro e w4 ⟨rfl, hb4⟩
      have HB4 : Hid (Below W.heap.size W w4) := HB3.out.trans (hb4.mono HB3.out.size)
      clear hb4 c0 c1 HSH2
      obtain ⟨w6, hw5⟩ : ∃ w6, w6 = w4.alloc (.cells #[.slice none 0 0, .slice none 0 0, .int .i64 0] 39) := ⟨_, rfl⟩
      have hb45 : Below w4.heap.size w4 w6 := by rw [hw5]; exact alloc_keep _ _
      have hk5 : w6.heap[w4.heap.size]? = some (.cells #[.slice none 0 0, .slice none 0 0, .int .i64 0] 39 (0, 0)) := by rw [hw5]; exact alloc_new _ _
      have HB6 : Hid (Below W.heap.size W w6) := HB4.out.trans (hb45.mono HB4.out.size)
      have HW5 : Hid (w6 = w4.alloc (.cells #[.slice none 0 0, .slice none 0 0, .int .i64 0] 39)) := hw5
      have HWB6 : Hid (∀ X, Below w6.heap.size w6 X → Wb w4.heap.size X) := fun X hX => ⟨_, _, _, (hX.block _ (Array.getElem?_eq_some_iff.1 hk5).1).trans hk5⟩
      have HTB : Hid (w.heap.size + 1 ≤ w4.heap.size) := by show _ ≤ _; rw [← HSW.out]; exact HB4.out.size
      have s0 : w6.cell? ⟨w4.heap.size, 0, none⟩ = some (.slice none 0 0) := by simp [World.cell?, hk5]
      have s1 : w6.cell? ⟨w4.heap.size, 1, none⟩ = some (.slice none 0 0) := by simp [World.cell?, hk5]
      have s2 : w6.cell? ⟨w4.heap.size, 2, none⟩ = some (.int .i64 0) := by simp [World.cell?, hk5]
      obtain ⟨tb, htb⟩ : ∃ tb, tb = w4.heap.size := ⟨_, rfl⟩
      clear hw5 hb45 hk5
      go_upto_region 10 with fail
      rw [← HW5.out]
      rw [← htb] at HWB6 HTB s0 s1 s2 ⊢
      clear htb HW5
      go_upto_region 17 with fail
      clear s0 s1 s2
      obtain ⟨c0, c1⟩ := HCC.out w6 HB6.out
      go_wp2_with fail
      refine (HCM.out w6 HB6.out).mono ?_
      rintro e w7 ⟨rfl, hb7⟩
      have HB67 : Hid (Below w6.heap.size w6 w7) := hb7
      have HB7 : Hid (Below W.heap.size W w7) := HB6.out.trans (hb7.mono HB6.out.size)
      clear hb7 c0 c1
      obtain ⟨c0, c1⟩ := HCC.out w7 HB7.out
      have HEM7 : Hid (Calls Try.prog 15 #[.slice ro rows.length rc, .int .i64 d] w7 fun e w' => e = .returned (.bool true) ∧ Below w7.heap.size w7 w') := by
        have h := HEM.out w7 HB7.out
        rw [HE.out] at h
        exact h
      go_wp2_with fail
      refine HEM7.out.mono ?_
      rintro e w8 ⟨rfl, hb8⟩
      have HB68 : Hid (Below w6.heap.size w6 w8) := HB67.out.trans (hb8.mono HB67.out.size)
      have HB8 : Hid (Below W.heap.size W w8) := HB7.out.trans (hb8.mono HB7.out.size)
      clear hb8 c0 c1 HEM7
      obtain ⟨c0, c1⟩ := HCC.out w8 HB8.out
      go_wp2_with fail
      refine (HFA.out w8 HB8.out).mono ?_
      rintro e w9 ⟨tv, E9, rfl, hfv, hb9⟩
      have HB69 : Hid (Below w6.heap.size w6 w9) := HB68.out.trans (hb9.mono HB68.out.size)
      have HB9 : Hid (Below W.heap.size W w9) := HB8.out.trans (hb9.mono HB8.out.size)
      have HW9 : Hid (Wb tb w9) := HWB6.out w9 HB69.out
      obtain ⟨f0, f1, f2⟩ := HW9.out.frozen
      obtain ⟨x0, x1, x2, r0, r1, r2⟩ := HW9.out.cells
      clear hb9 c0 c1
      rcases hfv with ⟨hn, _⟩ | ⟨c, l, co, cc, po, pc, hw, rfl, rfl, hs1, hs2⟩
      · exact absurd hn ((emp_ways d rows).2 HE.out)
      have hcm2 : c ∈ waysL rows (refG d) := by rw [hw]; simp
      obtain ⟨Ws, hWs, g1, g2, g3, g4, g5, g6⟩ := three_sets (.slice co c.length cc) (.slice po c.length pc) (.int .i64 1) HW9.out
      have HWs : Hid (Ws = ((w9.setCell ⟨tb, 0, none⟩ (.slice co c.length cc)).setCell ⟨tb, 1, none⟩ (.slice po c.length pc)).setCell ⟨tb, 2, none⟩ (.int .i64 1)) := hWs
      have hBZ : Below w.heap.size w Ws := by
        have hb := HBW.out w9 HB9.out
        have ht := HTB.out
        exact ⟨g4.trans hb.os, g5.trans hb.tape, g6.trans hb.output, by rw [g3]; exact hb.size, fun k hk => (g2 k (by omega)).trans (hb.block k hk)⟩
      have HBZ : Hid (Below w.heap.size w Ws) := hBZ
      have s0 : Ws.cell? ⟨tb, 0, none⟩ = some (.slice co c.length cc) := by simp [World.cell?, g1]
      have s1 : Ws.cell? ⟨tb, 1, none⟩ = some (.slice po c.length pc) := by simp [World.cell?, g1]
      have s2 : Ws.cell? ⟨tb, 2, none⟩ = some (.int .i64 1) := by simp [World.cell?, g1]
      have hkk : ∀ b, b < w9.heap.size → b ≠ tb → Ws.heap[b]? = w9.heap[b]? := fun b _ hne => g2 b hne
      obtain ⟨d0, d1⟩ := HCC.out w9 HB9.out
      have hcell : Ws.heap[w.heap.size]? = w9.heap[w.heap.size]? := g2 _ (by have := HTB.out; omega)
      have c0 : Ws.cell? ⟨w.heap.size, 0, none⟩ = some (.int .i64 d) := (World.cell?_of_block (w := w9) (a := ⟨w.heap.size, 0, none⟩) hcell).trans d0
      have c1 : Ws.cell? ⟨w.heap.size, 1, none⟩ = some (.slice ro rows.length rc) := (World.cell?_of_block (w := w9) (a := ⟨w.heap.size, 1, none⟩) hcell).trans d1
      have HRT : Hid (Calls Try.prog 17 #[.agg #[.int .i64 d, .slice ro rows.length rc], .agg #[.slice co c.length cc, .slice po c.length pc, .int .i64 1]] Ws fun e w' => e = .returned (.bool true) ∧ Below Ws.heap.size Ws w') := by
        obtain ⟨x1, x2, x3⟩ := ref_ok HC.out hcm2
        exact refuted_ok d rows c (low ((wayN (refG d) (pks rows [] c)).take c.length)) _ co po cc pc c.length Ws (mat_keepL (HVW.out w9 HB9.out) HW9.out hkk) (sl_keepL (.inr rfl) hs1 HW9.out hkk) (sl_keepL (.inr rfl) hs2 HW9.out hkk) HC.out.rw HC.out.d1 HC.out.d3 x1 rfl x2 x3
      clear hWs g1 g2 g3 g4 g5 g6 hs1 hs2 hw hcm2 hBZ hkk d0 d1 hcell
      go_upto_region 21 with fail
      rw [← HWs.out]
      go_wp2_with fail
      refine HRT.out.mono ?_
      rintro e wz ⟨rfl, hbz⟩
      have HBE3 : Hid (Below w.heap.size w wz) := HBZ.out.trans (hbz.mono HBZ.out.size)
      clear hbz
      go_wp2
      go_ret
      exact ⟨rfl, HBE3.out⟩

end Go.Proofs.Ytfedlhanmamifaa

/- LpMade: cuts and goals of raw numbers. -/
namespace Go.Proofs.Ytfedlhanmamifaa
open Go.RowKit
attribute [local go_sem ↓] Go.wp_at_zero Go.wp_at_succ

set_option maxRecDepth 100000 in
set_option maxHeartbeats 1600000 in
theorem lpMade_any (l : List Int) (dm my bx : Int) (v : Value) (w : World) (hv : Sl w.heap.size 3 w v (ints l)) (hr : ∀ z ∈ l, In64 z) (h1 : In64 dm) (h2 : In64 my) (h3 : In64 bx) :
    Calls Try.prog 3 #[v, .int .i64 dm, .int .i64 my, .int .i64 bx] w fun e w' => e = .returned (.bool true) ∧ Below w.heap.size w w' := by
  obtain ⟨ao, cap, hvv, hlc, hcm⟩ := sl_open hv
  subst hvv
  have HV : Hid (∀ W', Below w.heap.size w W' → Sl w.heap.size 3 W' (.slice ao l.length cap) (ints l)) := fun W' hB => hv.below hB (Nat.le_refl _)
  have HR : Hid (∀ z ∈ l, In64 z) := hr
  by_cases h256 : 256 < l.length
  · have b1 : (256 : Int) < (l.length : Int) := by omega
    clear hv hr
    go_enter Try.func3, Try.ntmps3
    go_wp2
    go_ret
    exact ⟨rfl, Below.refl _ _⟩
  have b1 : ¬ (256 : Int) < (l.length : Int) := by omega
  have HPK : Hid (∀ (c n : Int) (W' : World), In64 c → 1 ≤ n → n ≤ 100 → Calls Try.prog 4 #[.int .i64 c, .int .i64 n] W' fun e w' => ∃ k : Nat, e = .returned (.int .i64 k) ∧ (k : Int) < n ∧ w' = W') := fun c n W' hc hn hn2 => by
    refine (pick_val c n W' hn (by omega) hc).mono ?_
    rintro e w' ⟨rfl, rfl⟩
    have := pickF_bd (c := c) hn
    exact ⟨(pickF c n).toNat, by rw [Int.toNat_of_nonneg this.1], by rw [Int.toNat_of_nonneg this.1]; exact this.2, rfl⟩
  have HCT : Hid (∀ (d p q : Nat) (W' : World), Below w.heap.size w W' → 1 ≤ d → d ≤ 3 → p ≤ 4 → q ≤ 7 → Calls Try.prog 6 #[.slice ao l.length cap, .int .i64 d, .int .i64 p, .int .i64 q] W' fun e w' => ∃ xo xc rows, e = .returned (.agg #[.int .i64 d, .slice xo rows.length xc]) ∧ Mat 0 22 3 w' (.slice xo rows.length xc) rows ∧ CutOk d rows ∧ Below W'.heap.size W' w') := fun d p q W' hB a b c e => by
    refine (cutOf_any _ l _ d p q W' (HV.out W' hB) HR.out (by omega) a b c e).mono ?_
    rintro e w' ⟨x, rows, rfl, hm, hc, hb⟩
    obtain ⟨xo, xc, rfl, _, _⟩ := mat_open hm
    exact ⟨xo, xc, rows, rfl, hm, hc, hb⟩
  have HPO : Hid (∀ (d : Nat) (W' : World), Below w.heap.size w W' → d ≤ 3 → Calls Try.prog 7 #[.slice ao l.length cap, .int .i64 33, .int .i64 d, .int .i64 1, .int .i64 4] W' fun e w' => ∃ xb xf xc uo uc g, e = .returned (.slice (some ⟨xb, xf, none⟩) 1 xc) ∧ g.length = d ∧ (∀ z ∈ g, z.natAbs ≤ 20) ∧ w'.cell? ⟨xb, xf, none⟩ = some (.slice uo d uc) ∧ Sl 0 3 w' (.slice uo d uc) (ints g) ∧ Below W'.heap.size W' w') := fun d W' hB hd => by
    refine (pointsOf_new _ l _ 33 d 1 4 W' (HV.out W' hB) HR.out (by omega) (by omega) (by omega) (by omega) (by omega)).mono ?_
    rintro e w' ⟨x, m, rfl, hml, hbx, hf, hb⟩
    obtain ⟨b0, o0, cp0, r0, hs0, _, hcc0, hr0⟩ := mat_cell (fr_matE hf.fr) (k := 0) (by omega)
    rw [hml] at hs0
    subst hs0
    simp only [Nat.add_zero] at hcc0
    have hmem : m.getD 0 [] ∈ m := getD_memR (by omega)
    obtain ⟨uo, uc, huv, _, _⟩ := sl_open hr0
    have hgl := (hbx _ hmem).1
    rw [hgl] at huv
    subst huv
    exact ⟨b0, o0, cp0, uo, uc, m.getD 0 [], rfl, hgl, fun z hz => by have := (hbx _ hmem).2 z hz; omega, hcc0, hr0, hb⟩
  clear hv hr
  have H1 : Hid (In64 dm) := h1
  have H2 : Hid (In64 my) := h2
  have H3 : Hid (In64 bx) := h3
  clear h1 h2 h3
  go_enter Try.func3, Try.ntmps3
  go_wp2_with fail
  refine (HPK.out dm 3 w H1.out (by decide) (by decide)).mono ?_
  rintro e w' ⟨d, rfl, hd, hw⟩
  obtain rfl := hw.symm
  clear hw
  have hd2 : d ≤ 2 := by omega
  have hdI : IntKind.i64.wrap (1 + (d : Int)) = ((d + 1 : Nat) : Int) := by rw [IntKind.wrap_i64]; omega
  clear hd
  go_wp2_with fail
  refine (HPK.out my 5 w H2.out (by decide) (by decide)).mono ?_
  rintro e w' ⟨p, rfl, hp, hw⟩
  obtain rfl := hw.symm
  clear hw
  go_wp2_with fail
  refine (HPK.out bx 8 w H3.out (by decide) (by decide)).mono ?_
  rintro e w' ⟨q, rfl, hq, hw⟩
  obtain rfl := hw.symm
  clear hw
  go_wp2_with fail
  refine (HCT.out (d + 1) p q w (Below.refl _ _) (by omega) (by omega) (by omega) (by omega)).mono ?_
  rintro e w1 ⟨xo, xc, rows, rfl, hm, hc, hb1⟩
  have HM1 : Hid (Mat 0 22 3 w1 (.slice xo rows.length xc) rows) := hm
  have HC : Hid (CutOk (d + 1) rows) := hc
  have HB1 : Hid (Below w.heap.size w w1) := hb1
  clear hm hc hb1
  go_wp2_with fail
  refine (HPO.out (d + 1) w1 HB1.out (by omega)).mono ?_
  rintro e w2 ⟨xb, xf, xc2, uo, uc, g, rfl, hgl, hgb, hcell, hgs, hb2⟩
  have HLS : Hid (Calls Try.prog 5 #[.agg #[.int .i64 ((d + 1 : Nat) : Int), .slice xo rows.length xc], .slice uo (d + 1) uc] w2 fun e w' => e = .returned (.bool true) ∧ Below w2.heap.size w2 w') := lpSays_ok (d + 1) rows g _ _ w2 (HM1.out.below hb2 (Nat.le_refl _)) hgs HC.out hgl hgb
  have HB2 : Hid (Below w.heap.size w w2) := HB1.out.trans (hb2.mono HB1.out.size)
  clear hgs hb2 hgl hgb
  go_wp2_with fail
  refine HLS.out.mono ?_
  rintro e w3 ⟨rfl, hb3⟩
  have HB3 : Hid (Below w.heap.size w w3) := HB2.out.trans (hb3.mono HB2.out.size)
  clear hb3
  go_wp2
  go_ret
  exact ⟨rfl, HB3.out⟩

end Go.Proofs.Ytfedlhanmamifaa
