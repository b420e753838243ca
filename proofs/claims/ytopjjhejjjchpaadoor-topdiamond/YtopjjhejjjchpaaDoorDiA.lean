import Derived.Test.YtopjjhejjjchpaaDoorHulY
import Derived.Test.YtopjjhejjjchpaaDoorGA
import Derived.Test.YtopjjhejjjchpaaDoorFkY
/- Ranks, told by what is 0 with all (pure). -/
namespace Go.Proofs.YtopjjhejjjchpaaDoor
open Lin

theorem sumN_eq0 {n : Nat} {f : Nat → Int} (h : ∀ i, i < n → 0 ≤ f i) (hz : sumN n f = 0) : ∀ i, i < n → f i = 0 := by
  induction n with
  | zero => intro i hi; omega
  | succ n ih =>
    rw [sumN] at hz
    have h1 : 0 ≤ sumN n f := by
      have : ∀ m, m ≤ n → 0 ≤ sumN m f := by
        intro m
        induction m with
        | zero => intro _; exact Int.le_refl 0
        | succ m ihm =>
          intro hm
          rw [sumN]
          have := ihm (by omega)
          have := h m (by omega)
          omega
      exact this n (Nat.le_refl _)
    have h2 := h n (by omega)
    intro i hi
    by_cases e : i = n
    · subst e; omega
    · exact ih (fun j hj => h j (by omega)) (by omega) i (by omega)

/-- How many of these do not hang on those ahead. -/
def rk (c : Nat) (m : List (List Int)) : Nat := (pickL c m).length

theorem pickL_app (c : Nat) (m w : List (List Int)) : ∃ t, t.Sublist w ∧ pickL c (m ++ w) = pickL c m ++ t := by
  have key : ∀ (w h : List (List Int)), ∃ t, t.Sublist w ∧ w.foldl (fun h r => if freeL c (h ++ [r]) then h ++ [r] else h) h = h ++ t := by
    intro w
    induction w with
    | nil => intro h; exact ⟨[], List.Sublist.refl _, by simp⟩
    | cons a w ih =>
      intro h
      rw [List.foldl_cons]
      by_cases hf : freeL c (h ++ [a])
      · rw [if_pos hf]
        obtain ⟨t, h1, h2⟩ := ih (h ++ [a])
        exact ⟨a :: t, h1.cons_cons a, by rw [h2]; simp⟩
      · rw [if_neg hf]
        obtain ⟨t, h1, h2⟩ := ih h
        exact ⟨t, h1.cons a, h2⟩
  unfold pickL
  rw [List.foldl_append]
  exact key w _

theorem rk_full {c : Nat} {m : List (List Int)} : rk c m = c ↔ ∀ v : Nat → Int, (∀ r ∈ m, dot c (V r) v = 0) → ∀ i, i < c → v i = 0 := by
  have h := greedy_full (pick_greedy c m)
  rw [fm_length] at h
  unfold rk
  rw [h]
  constructor
  · intro h v hv
    exact h v fun r hr => by
      obtain ⟨l, hl, rfl⟩ := mem_fm.1 hr
      exact hv l hl
  · intro h v hv
    exact h v fun r hr => hv _ (mem_fm.2 ⟨r, hr, rfl⟩)

/-- What is 0 with the chosen ones is 0 with all. -/
theorem pick_zero {c : Nat} {m : List (List Int)} {v : Nat → Int} (hv : ∀ r ∈ pickL c m, dot c (V r) v = 0) {r : List Int} (hr : r ∈ m) : dot c (V r) v = 0 := by
  have hg := pick_greedy c m
  refine dot_dep (hg.dep (V r) (mem_fm.2 ⟨r, hr, rfl⟩)) fun i hi => ?_
  obtain ⟨l, hl, he⟩ := mem_fm.1 (row_mem hi)
  rw [he]
  exact hv l hl

def unitsL (c : Nat) : List (List Int) := (List.range c).map fun i => (List.range c).map fun j => if j = i then 1 else 0

theorem units_zero {c : Nat} {v : Nat → Int} (hv : ∀ r ∈ unitsL c, dot c (V r) v = 0) : ∀ i, i < c → v i = 0 := by
  intro i hi
  have h := hv ((List.range c).map fun j => if j = i then 1 else 0) (List.mem_map.2 ⟨i, List.mem_range.2 hi, rfl⟩)
  unfold dot at h
  rw [sumN_one (k := i) hi (fun a ha hne => by simp [V, ha, hne])] at h
  simpa [V, hi] using h

/-- So many more make all. -/
theorem rk_ext (c : Nat) (m : List (List Int)) : ∃ w : List (List Int), w.length + rk c m = c ∧ ∀ v : Nat → Int, (∀ r ∈ m, dot c (V r) v = 0) → (∀ r ∈ w, dot c (V r) v = 0) → ∀ i, i < c → v i = 0 := by
  obtain ⟨t, ht, he⟩ := pickL_app c m (unitsL c)
  have hf : rk c (m ++ unitsL c) = c := rk_full.2 fun v hv => units_zero fun r hr => hv r (List.mem_append_right _ hr)
  unfold rk at hf
  have hf2 := hf
  rw [he, List.length_append] at hf2
  refine ⟨t, by unfold rk; omega, fun v h1 h2 => ?_⟩
  refine rk_full.1 hf v fun r hr => pick_zero (fun q hq => ?_) hr
  rw [he] at hq
  rcases List.mem_append.1 hq with hq | hq
  · exact h1 q (pickL_mem hq)
  · exact h2 q hq

theorem rk_add (c : Nat) (m w : List (List Int)) : rk c (m ++ w) ≤ rk c m + w.length := by
  obtain ⟨t, ht, he⟩ := pickL_app c m w
  unfold rk
  rw [he, List.length_append]
  have := ht.length_le
  omega

/-- What is 0 with the second is 0 with the first: the first has no greater rank. -/
theorem rk_le {c : Nat} {L L' : List (List Int)} (h : ∀ v : Nat → Int, (∀ r ∈ L', dot c (V r) v = 0) → ∀ r ∈ L, dot c (V r) v = 0) : rk c L ≤ rk c L' := by
  obtain ⟨w, hw, ht⟩ := rk_ext c L
  refine Classical.byContradiction fun hn => ?_
  have hr := rk_add c L' w
  have hne : ¬ rk c (L' ++ w) = c := by omega
  refine hne (rk_full.2 fun v hv => ht v (h v fun r hr => hv r (List.mem_append_left _ hr)) fun r hr => hv r (List.mem_append_right _ hr))

theorem rk_lt {c : Nat} {A B : List (List Int)} (hs : ∀ x ∈ A, x ∈ B) {v : Nat → Int} (hv : ∀ x ∈ A, dot c (V x) v = 0) {b : List Int} (hb : b ∈ B) (hbv : dot c (V b) v ≠ 0) : rk c A < rk c B := by
  obtain ⟨t, ht, he⟩ := pickL_app c A [b]
  have h1 : rk c (A ++ [b]) ≤ rk c B := rk_le fun u hu r hr => by
    rcases List.mem_append.1 hr with hr | hr
    · exact hu r (hs r hr)
    · rw [List.mem_singleton.1 hr]; exact hu b hb
  cases t with
  | nil =>
    exact absurd (pick_zero (c := c) (m := A ++ [b]) (v := v) (fun q hq => by
      rw [he, List.append_nil] at hq
      exact hv q (pickL_mem hq)) (r := b) (by simp)) hbv
  | cons a t =>
    unfold rk at h1 ⊢
    rw [he, List.length_append, List.length_cons] at h1
    omega

theorem rk_fun {c : Nat} {A B : List (List Int)} (h : rk c A < rk c B) : ∃ v : Nat → Int, (∀ x ∈ A, dot c (V x) v = 0) ∧ ∃ b ∈ B, dot c (V b) v ≠ 0 := by
  refine Classical.byContradiction fun hn => ?_
  have : rk c B ≤ rk c A := rk_le fun v hv r hr => Classical.byContradiction fun hne => hn ⟨v, hv, r, hr, hne⟩
  omega

/-- A point, with 1 behind. -/
def homD (x : List Int) : List Int := x ++ [1]

/-- What a functional says of a point. -/
def fv (d : Nat) (c : Nat → Int) (x : List Int) : Int := dot d (V x) c + c d

theorem dot_homD {d : Nat} {x : List Int} (hx : x.length = d) (c : Nat → Int) : dot (d + 1) (V (homD x)) c = fv d c x := by
  unfold dot fv
  rw [sumN]
  have h1 : V (homD x) d = 1 := by simp [V, homD, ← hx]
  rw [h1, Int.one_mul]
  congr 1
  exact sumN_congr fun i hi => by
    have : V (homD x) i = V x i := by
      simp only [V, homD, List.getD_eq_getElem?_getD]
      rw [List.getElem?_append_left (by omega)]
    rw [this]

theorem fv_lc (d : Nat) (s t : Int) (a b : Nat → Int) (x : List Int) : fv d (fun j => s * a j + t * b j) x = s * fv d a x + t * fv d b x := by
  unfold fv
  rw [dot_comm, dot_lc, dot_comm d a, dot_comm d b]
  grind

/-- The rank of points with 1 behind is one more than the dimension. -/
theorem rk_aff {d : Nat} {A : List (List Int)} (hA : A ≠ []) (hl : ∀ x ∈ A, x.length = d) : rk (d + 1) (A.map homD) = (pickL d (diffL A)).length + 1 := by
  obtain ⟨a0, A', rfl⟩ : ∃ a0 A', A = a0 :: A' := by
    cases A with
    | nil => exact absurd rfl hA
    | cons a A' => exact ⟨a, A', rfl⟩
  have hl0 : a0.length = d := hl a0 (by simp)
  have hdm : ∀ q, q ∈ diffL (a0 :: A') ↔ ∃ x ∈ A', subL x a0 = q := fun q => by
    simp [diffL]
  have hdd : ∀ x ∈ A', ∀ c : Nat → Int, dot d (V (subL x a0)) c = dot d (V x) c - dot d (V a0) c := fun x hx c => by
    rw [dot_comm, dot_subL c (hl x (by simp [hx])), dot_comm d c, dot_comm d c]
  have h1 : rk (d + 1) ((a0 :: A').map homD) ≤ rk d (diffL (a0 :: A')) + 1 := by
    obtain ⟨w, hw, ht⟩ := rk_ext (d + 1) ((a0 :: A').map homD)
    have hf : rk d (diffL (a0 :: A') ++ w.map fun u => (List.range d).map fun j => V u j - V u d * V a0 j) = d := rk_full.2 fun c hc i hi => by
      have h := ht (fun j => if j < d then c j else - dot d (V a0) c) (fun r hr => ?_) (fun r hr => ?_) i (by omega)
      · simpa [hi] using h
      · obtain ⟨x, hx, rfl⟩ := List.mem_map.1 hr
        rw [dot_homD (hl x hx)]
        unfold fv
        dsimp only
        rw [if_neg (by omega), dot_congr (b := V x) (y := c) (fun _ _ => rfl) (fun i hi => by rw [if_pos hi])]
        rcases List.mem_cons.1 hx with rfl | hx
        · omega
        · have := hc (subL x a0) (List.mem_append_left _ ((hdm _).2 ⟨x, hx, rfl⟩))
          rw [hdd x hx] at this
          omega
      · have h2 := hc _ (List.mem_append_right _ (List.mem_map.2 ⟨r, hr, rfl⟩))
        have e1 : dot d (V ((List.range d).map fun j => V r j - V r d * V a0 j)) c = dot d (V r) c - V r d * dot d (V a0) c := by
          have : dot d (V ((List.range d).map fun j => V r j - V r d * V a0 j)) c = dot d (fun k => 1 * V r k + (- V r d) * V a0 k) c := dot_congr (fun i hi => by simp [V, hi]; grind) (fun _ _ => rfl)
          rw [this, dot_lc]
          grind
        rw [e1] at h2
        generalize dot d (V a0) c = K at *
        have e2 : sumN d (fun i => V r i * (if i < d then c i else -K)) = dot d (V r) c := sumN_congr fun i hi => by rw [if_pos hi]
        show sumN (d + 1) (fun i => V r i * (if i < d then c i else -K)) = 0
        rw [sumN, if_neg (by omega)]
        rw [e2]
        grind
    have := rk_add d (diffL (a0 :: A')) (w.map fun u => (List.range d).map fun j => V u j - V u d * V a0 j)
    rw [List.length_map] at this
    omega
  have h2 : rk d (diffL (a0 :: A')) + 1 ≤ rk (d + 1) ((a0 :: A').map homD) := by
    obtain ⟨w, hw, ht⟩ := rk_ext d (diffL (a0 :: A'))
    have hf : rk (d + 1) ((a0 :: A').map homD ++ w.map fun u => ((List.range d).map fun j => V u j) ++ [0]) = d + 1 := rk_full.2 fun c hc => by
      have hx : ∀ x ∈ a0 :: A', dot d (V x) c + c d = 0 := fun x hx => by
        have := hc (homD x) (List.mem_append_left _ (List.mem_map.2 ⟨x, hx, rfl⟩))
        rwa [dot_homD (hl x hx)] at this
      have hz := ht c (fun r hr => by
        obtain ⟨x, hx', rfl⟩ := (hdm r).1 hr
        rw [hdd x hx']
        have h1 := hx x (by simp [hx'])
        have h2 := hx a0 (by simp)
        omega) (fun r hr => by
        have h3 := hc _ (List.mem_append_right _ (List.mem_map.2 ⟨r, hr, rfl⟩))
        unfold dot at h3
        rw [sumN] at h3
        have e1 : V (((List.range d).map fun j => V r j) ++ [0]) d = 0 := by simp [V]
        rw [e1, Int.zero_mul, Int.add_zero] at h3
        rw [← h3]
        exact sumN_congr fun i hi => by
          have : V (((List.range d).map fun j => V r j) ++ [0]) i = V r i := by
            unfold V
            rw [List.getD_eq_getElem?_getD, List.getElem?_append_left (by simpa using hi)]
            simp [hi]
          rw [this])
      intro i hi
      by_cases e : i < d
      · exact hz i e
      · have e2 : i = d := by omega
        subst e2
        have h1 := hx a0 (by simp)
        have h4 : dot i (V a0) c = 0 := sumN_zero fun j hj => by rw [hz j hj, Int.mul_zero]
        omega
    have := rk_add (d + 1) ((a0 :: A').map homD) (w.map fun u => ((List.range d).map fun j => V u j) ++ [0])
    rw [List.length_map] at this
    omega
  unfold rk at h1 h2 ⊢
  omega

end Go.Proofs.YtopjjhejjjchpaaDoor

/- Faces and functionals (pure). -/
namespace Go.Proofs.YtopjjhejjjchpaaDoor
open Lin

/-- What lies beyond no row is not greater than all points, in any direction: a place q by w. -/
theorem rows_tellD {d : Nat} {P : List (List Int)} (hg : Good d P) {q : Nat → Int} {w : Int} (hq : ∀ r ∈ rowsC P [] d P, dot d (V r) q ≤ r.getD d 0 * w) {x : List Int} (hx : x ∈ P) {c : Nat → Int} (hmax : ∀ y ∈ P, dot d c (V y) ≤ dot d c (V x)) :
    dot d c q ≤ dot d c (V x) * w := by
  have hspan := good_span hg
  have hsub : ∀ (c : Nat → Int) (y : List Int), dot d c (fun j => V y j - V x j) = dot d c (V y) - dot d c (V x) := fun c y => dot_sub d c (V y) (V x)
  have hsw : ∀ c : Nat → Int, dot d c (fun j => q j - V x j * w) = dot d c q - dot d c (V x) * w := fun c => by
    rw [dot_sub]
    congr 1
    unfold dot
    rw [← sumN_mul_right]
    exact sumN_congr fun i _ => by rw [Int.mul_assoc]
  have h := cone (d := d) (Z := P.map fun y j => V y j - V x j) (v := fun j => q j - V x j * w) (fun c hc i hi => by
      refine hspan c (fun y hy z hz => ?_) i hi
      have h1 := hc _ (List.mem_map.2 ⟨y, hy, rfl⟩)
      have h2 := hc _ (List.mem_map.2 ⟨z, hz, rfl⟩)
      rw [hsub] at h1 h2
      omega) (fun c hcn hle hone => by
      obtain ⟨r, hr, hrx, s, t, hs, ht, hst⟩ := side_some (P := P) (x := x) hg.box hspan hx hcn (fun y hy => by
          have := hle _ (List.mem_map.2 ⟨y, hy, rfl⟩)
          rw [hsub] at this
          omega) (fun u hu => hone u fun z hz h0 => by
          obtain ⟨y, hy, rfl⟩ := List.mem_map.1 hz
          rw [hsub] at h0 ⊢
          have := hu y hy (by omega)
          omega)
      have h1 := hq r hr
      rw [hrx] at h1
      have h2 : s * dot d c (fun j => q j - V x j * w) = t * dot d (V r) (fun j => q j - V x j * w) := by
        unfold dot
        rw [← sumN_mul, ← sumN_mul]
        exact sumN_congr fun i hi => by rw [← Int.mul_assoc, hst i hi, Int.mul_assoc]
      have h3 : t * dot d (V r) (fun j => q j - V x j * w) ≤ 0 := Int.mul_nonpos_of_nonneg_of_nonpos (Int.le_of_lt ht) (by rw [hsw]; omega)
      rcases Int.lt_or_le 0 (dot d c (fun j => q j - V x j * w)) with h4 | h4
      · have := Int.mul_pos hs h4; omega
      · exact h4) _ c (Nat.le_refl _) (fun z hz => by
      obtain ⟨y, hy, rfl⟩ := List.mem_map.1 hz
      rw [hsub]
      have := hmax y hy
      omega)
  rw [hsw] at h
  omega

theorem fcc_ne {d : Nat} {C s : List (List Int)} (h : FcC d C s) : C ≠ [] := by
  intro e
  have := h.g.n2
  rw [e] at this
  simp at this

/-- A row as a functional: above 0 on the polytope. -/
def rowF (d : Nat) (r : List Int) : Nat → Int := fun j => if j < d then - V r j else r.getD d 0

theorem rowF_val {d : Nat} {r x : List Int} : fv d (rowF d r) x = r.getD d 0 - dot d (V r) (V x) := by
  unfold fv rowF
  rw [if_neg (by omega), dot_congr (b := V x) (y := fun j => - V r j) (fun _ _ => rfl) (fun i hi => by rw [if_pos hi])]
  have : dot d (V x) (fun j => - V r j) = - dot d (V r) (V x) := by
    rw [dot_comm]
    exact dot_neg d (V r) (V x)
  omega

theorem rowF_pos {d : Nat} {C s : List (List Int)} (h : FcC d C s) {r x : List Int} (hr : r ∈ s) (hx : x ∈ C) : 0 ≤ fv d (rowF d r) x ∧ (fv d (rowF d r) x = 0 ↔ overL r x = 0) := by
  rw [rowF_val]
  have h1 := (h.len hr).all x hx
  have h2 := h.over hr hx
  rw [h2]
  constructor <;> omega

/-- Rows, added: 0 just where all are met. -/
theorem rows_sum {d : Nat} {C s : List (List Int)} (h : FcC d C s) : ∀ R : List (List Int), (∀ r ∈ R, r ∈ s) → ∃ c : Nat → Int, ∀ x ∈ C, 0 ≤ fv d c x ∧ (fv d c x = 0 ↔ ∀ r ∈ R, overL r x = 0)
  | [], _ => ⟨fun _ => 0, fun x _ => by
      have : fv d (fun _ => 0) x = 0 := by
        unfold fv
        rw [show dot d (V x) (fun _ => 0) = 0 from sumN_zero fun i _ => by simp]
        rfl
      rw [this]
      simp⟩
  | r :: R, hR => by
    obtain ⟨c, hc⟩ := rows_sum h R fun q hq => hR q (by simp [hq])
    refine ⟨fun j => 1 * rowF d r j + 1 * c j, fun x hx => ?_⟩
    rw [fv_lc]
    obtain ⟨h1, h2⟩ := hc x hx
    obtain ⟨h3, h4⟩ := rowF_pos h (hR r (by simp)) hx
    refine ⟨by omega, ?_⟩
    constructor
    · intro h5 q hq
      rcases List.mem_cons.1 hq with rfl | hq
      · exact h4.1 (by omega)
      · exact h2.1 (by omega) q hq
    · intro h5
      have e1 := h4.2 (h5 r (by simp))
      have e2 := h2.2 fun q hq => h5 q (by simp [hq])
      omega

/-- A face is where a functional is 0 that is nowhere below. -/
theorem face_fun {d : Nat} {C s : List (List Int)} (h : FcC d C s) {a : Nat} (ha : Itr C.length (s.map (sdN C)) a) : ∃ c : Nat → Int, ∀ k, k < C.length → 0 ≤ fv d c (C.getD k []) ∧ (fv d c (C.getD k []) = 0 ↔ a.testBit k = true) := by
  obtain ⟨R, hR, hb⟩ := itr_rows ha
  obtain ⟨c, hc⟩ := rows_sum h R hR
  refine ⟨c, fun k hk => ?_⟩
  obtain ⟨h1, h2⟩ := hc (C.getD k []) (by simp [hk])
  refine ⟨h1, h2.trans ?_⟩
  rw [hb k]
  simp [hk]

/-- And where such a functional is 0 there is a face. -/
theorem fun_face {d : Nat} {C s : List (List Int)} (h : FcC d C s) {c : Nat → Int} (hc : ∀ x ∈ C, 0 ≤ fv d c x) : ∃ a, Itr C.length (s.map (sdN C)) a ∧ ∀ k, a.testBit k = (decide (k < C.length) && decide (fv d c (C.getD k []) = 0)) := by
  have hne := fcc_ne h
  rcases farkas (d + 1) _ (s.map (rowF d)) rfl c with ⟨m, a, hm, ha, he⟩ | ⟨u, hu, hp⟩
  · -- a sum of rows
    have hval : ∀ x : List Int, x.length = d → m * fv d c x = sumN (s.map (rowF d)).length fun i => a i * fv d ((s.map (rowF d)).getD i fun _ => 0) x := fun x hx => by
      have e1 : m * fv d c x = dot (d + 1) (V (homD x)) (fun j => m * c j) := by
        rw [← dot_homD hx]
        unfold dot
        rw [← sumN_mul]
        exact sumN_congr fun i _ => by grind
      rw [e1, dot_congr (b := V (homD x)) (y := sm (s.map (rowF d)) a) (fun _ _ => rfl) he, dot_sm]
      exact sumN_congr fun i _ => by rw [dot_homD hx]
    obtain ⟨b, hb1, hb2⟩ := rows_itr (C := C) (s := s) ((List.range s.length).filter (fun i => decide (0 < a i)) |>.map fun i => s.getD i []) (fun r hr => by
      obtain ⟨i, hi, rfl⟩ := List.mem_map.1 hr
      have := List.mem_range.1 (List.mem_filter.1 hi).1
      simp [this])
    refine ⟨b, hb1, fun k => ?_⟩
    rw [hb2 k]
    by_cases hk : k < C.length
    · have hx : C.getD k [] ∈ C := by simp [hk]
      have hv := hval _ (h.g.box _ hx).1
      rw [List.length_map] at hv ha
      have hget : ∀ i, i < s.length → ((s.map (rowF d)).getD i fun _ => 0) = rowF d (s.getD i []) := fun i hi => by simp [hi]
      simp only [hk, decide_true, Bool.true_and]
      rw [Bool.eq_iff_iff]
      simp only [List.all_eq_true, decide_eq_true_eq, List.mem_map, List.mem_filter, List.mem_range]
      constructor
      · intro hall
        have hz : sumN s.length (fun i => a i * fv d ((s.map (rowF d)).getD i fun _ => 0) (C.getD k [])) = 0 := sumN_zero fun i hi => by
          rw [hget i hi]
          rcases Int.lt_or_eq_of_le (ha i hi) with h1 | h1
          · have := (rowF_pos h (r := s.getD i []) (by simp [hi]) hx).2.2 (hall _ ⟨i, ⟨hi, h1⟩, rfl⟩)
            rw [this, Int.mul_zero]
          · rw [← h1, Int.zero_mul]
        rw [hz] at hv
        rcases Int.mul_eq_zero.1 hv with h1 | h1
        · omega
        · exact h1
      · rintro h0 r ⟨i, ⟨hi, hai⟩, rfl⟩
        rw [h0, Int.mul_zero] at hv
        have hnn : ∀ i, i < s.length → 0 ≤ a i * fv d ((s.map (rowF d)).getD i fun _ => 0) (C.getD k []) := fun i hi => by
          rw [hget i hi]
          exact Int.mul_nonneg (ha i hi) (rowF_pos h (r := s.getD i []) (by simp [hi]) hx).1
        have hz := sumN_eq0 hnn hv.symm i hi
        rw [hget i hi] at hz
        rcases Int.mul_eq_zero.1 hz with h1 | h1
        · omega
        · exact (rowF_pos h (r := s.getD i []) (by simp [hi]) hx).2.1 h1
    · simp [hk]
  · -- no place tells otherwise
    exfalso
    have hq : ∀ r ∈ rowsC C [] d C, dot d (V r) (fun j => - u j) ≤ r.getD d 0 * (- u d) := fun r hr => by
      have h1 := hu (rowF d r) (List.mem_map.2 ⟨r, (h.rows r).2 hr, rfl⟩)
      unfold dot at h1
      rw [sumN] at h1
      have e1 : rowF d r d = r.getD d 0 := by unfold rowF; rw [if_neg (by omega)]
      have e2 : sumN d (fun i => u i * rowF d r i) = dot d (V r) (fun j => - u j) := sumN_congr fun i hi => by
        unfold rowF; rw [if_pos hi]; grind
      rw [e1, e2] at h1
      have e3 : r.getD d 0 * (- u d) = - (u d * r.getD d 0) := by grind
      rw [e3]
      omega
    have hboth : ∀ e : Nat → Int, ∃ x ∈ C, ∃ y ∈ C, (∀ z ∈ C, dot d e (V z) ≤ dot d e (V x)) ∧ (∀ z ∈ C, dot d e (V y) ≤ dot d e (V z)) ∧ dot d e (V y) * (- u d) ≤ dot d e (fun j => - u j) ∧ dot d e (fun j => - u j) ≤ dot d e (V x) * (- u d) := fun e => by
      obtain ⟨x, hx, hmx⟩ := argmax (fun y : List Int => dot d e (V y)) C hne
      obtain ⟨y, hy, hmy⟩ := argmax (fun y : List Int => dot d (fun k => - e k) (V y)) C hne
      have h1 := rows_tellD h.g hq hx hmx
      have h2 := rows_tellD h.g hq hy hmy
      rw [dot_neg, dot_neg, Int.neg_mul] at h2
      refine ⟨x, hx, y, hy, hmx, fun z hz => ?_, by omega, h1⟩
      have := hmy z hz
      rw [dot_neg, dot_neg] at this
      omega
    have hw : 0 ≤ - u d := by
      refine Classical.byContradiction fun hneg => ?_
      have hflat : ∀ e : Nat → Int, ∀ y ∈ C, ∀ z ∈ C, dot d e (V y) = dot d e (V z) := fun e y hy z hz => by
        obtain ⟨x, hx, x', hx', m1, m2, h1, h2⟩ := hboth e
        have h3 : dot d e (V x') * (- u d) ≤ dot d e (V x) * (- u d) := Int.le_trans h1 h2
        have h4 : dot d e (V x) ≤ dot d e (V x') := by
          refine Classical.byContradiction fun hn => ?_
          have : dot d e (V x) * (- u d) < dot d e (V x') * (- u d) := Int.mul_lt_mul_of_neg_right (by omega) (by omega)
          omega
        have a1 := m1 y hy
        have a2 := m2 y hy
        have a3 := m1 z hz
        have a4 := m2 z hz
        omega
      have h1 := good_span h.g (unit 0) (fun y hy z hz => hflat (unit 0) y hy z hz) 0 (by have := h.g.d1; omega)
      simp [unit] at h1
    obtain ⟨x, hx, _, _, _, m2, h1, _⟩ := hboth c
    obtain ⟨_, _, y, hy, _, m3, h2, _⟩ := hboth c
    have h3 := hc y hy
    unfold fv at h3
    rw [dot_comm] at h3
    have h4 : - c d * (- u d) ≤ dot d c (V y) * (- u d) := Int.mul_le_mul_of_nonneg_right (by omega) hw
    have e1 : dot (d + 1) u c = - dot d c (fun j => - u j) + c d * u d := by
      unfold dot
      rw [sumN]
      have : sumN d (fun i => u i * c i) = - sumN d (fun i => c i * - u i) := by
        rw [← sumN_neg]
        exact sumN_congr fun i _ => by grind
      rw [this]
      grind
    rw [e1] at hp
    have e2 : - c d * (- u d) = c d * u d := by grind
    omega

end Go.Proofs.YtopjjhejjjchpaaDoor

/- Between two faces, one in the other, of two dimensions more, there are just two (pure). -/
namespace Go.Proofs.YtopjjhejjjchpaaDoor
open Lin

/-- The rank of a set of corners, with 1 behind. -/
def rkF (d : Nat) (C : List (List Int)) (a : Nat) : Nat := rk (d + 1) ((pks C [] (memL a)).map homD)

theorem pks_nil (C : List (List Int)) {l : List Int} : pks C [] l = [] ↔ l = [] := by
  unfold pks
  simp

theorem rkF_dim {d : Nat} {C s : List (List Int)} (h : FcC d C s) {a : Nat} (ha : a < 2 ^ C.length) : (rkF d C a : Int) = dimL d C a + 1 := by
  unfold rkF dimL
  by_cases e : memL a = []
  · rw [if_pos e, e]
    simp [rk, pickL, pks]
  · rw [if_neg e, rk_aff (fun hn => e ((pks_nil C).1 hn)) (fun x hx => by
      obtain ⟨k, hk, _, rfl⟩ := (mem_pts ha h.n16).1 hx
      exact (h.g.box _ (by simp [hk])).1)]
    omega

/-- What a functional says of a corner. -/
def fk (d : Nat) (C : List (List Int)) (c : Nat → Int) (k : Nat) : Int := fv d c (C.getD k [])

theorem fk_lc (d : Nat) (C : List (List Int)) (s t : Int) (a b : Nat → Int) (k : Nat) : fk d C (fun j => s * a j + t * b j) k = s * fk d C a k + t * fk d C b k := fv_lc d s t a b _

theorem homD_zero {d : Nat} {C s : List (List Int)} (h : FcC d C s) {a : Nat} (ha : a < 2 ^ C.length) {c : Nat → Int} : (∀ x ∈ (pks C [] (memL a)).map homD, dot (d + 1) (V x) c = 0) ↔ ∀ k, k < C.length → a.testBit k = true → fk d C c k = 0 := by
  constructor
  · intro hz k hk hb
    have := hz (homD (C.getD k [])) (List.mem_map.2 ⟨_, (mem_pts ha h.n16).2 ⟨k, hk, hb, rfl⟩, rfl⟩)
    rwa [dot_homD (h.g.box _ (by simp [hk])).1] at this
  · intro hz x hx
    obtain ⟨y, hy, rfl⟩ := List.mem_map.1 hx
    obtain ⟨k, hk, hb, rfl⟩ := (mem_pts ha h.n16).1 hy
    rw [dot_homD (h.g.box _ (by simp [hk])).1]
    exact hz k hk hb

theorem rkF_lt {d : Nat} {C s : List (List Int)} (h : FcC d C s) {a b : Nat} (ha : a < 2 ^ C.length) (hb : b < 2 ^ C.length) (hs : ∀ k, a.testBit k = true → b.testBit k = true) {c : Nat → Int} (hc : ∀ k, k < C.length → a.testBit k = true → fk d C c k = 0) {k : Nat} (hk : k < C.length) (hkb : b.testBit k = true) (hne : fk d C c k ≠ 0) : rkF d C a < rkF d C b := by
  refine rk_lt (v := c) (fun x hx => ?_) ((homD_zero h ha).2 hc) (b := homD (C.getD k [])) (List.mem_map.2 ⟨_, (mem_pts hb h.n16).2 ⟨k, hk, hkb, rfl⟩, rfl⟩) ?_
  · obtain ⟨y, hy, rfl⟩ := List.mem_map.1 hx
    obtain ⟨j, hj, hjb, rfl⟩ := (mem_pts ha h.n16).1 hy
    exact List.mem_map.2 ⟨_, (mem_pts hb h.n16).2 ⟨j, hj, hs j hjb, rfl⟩, rfl⟩
  · rw [dot_homD (h.g.box _ (by simp [hk])).1]
    exact hne

theorem rkF_fun {d : Nat} {C s : List (List Int)} (h : FcC d C s) {a b : Nat} (ha : a < 2 ^ C.length) (hb : b < 2 ^ C.length) (hr : rkF d C a < rkF d C b) : ∃ c : Nat → Int, (∀ k, k < C.length → a.testBit k = true → fk d C c k = 0) ∧ ∃ k, k < C.length ∧ b.testBit k = true ∧ fk d C c k ≠ 0 := by
  obtain ⟨c, h1, x, hx, h2⟩ := rk_fun hr
  obtain ⟨y, hy, rfl⟩ := List.mem_map.1 hx
  obtain ⟨k, hk, hkb, rfl⟩ := (mem_pts hb h.n16).1 hy
  rw [dot_homD (h.g.box _ (by simp [hk])).1] at h2
  exact ⟨c, (homD_zero h ha).1 h1, k, hk, hkb, h2⟩

theorem rkF_le {d : Nat} {C s : List (List Int)} (h : FcC d C s) {a b : Nat} (ha : a < 2 ^ C.length) (hb : b < 2 ^ C.length) (hs : ∀ k, a.testBit k = true → b.testBit k = true) : rkF d C a ≤ rkF d C b :=
  rk_le fun _v hv => (homD_zero h ha).2 fun k hk hkb => (homD_zero h hb).1 hv k hk (hs k hkb)

theorem or_bit {a k j : Nat} : (a ||| 2 ^ k).testBit j = true ↔ a.testBit j = true ∨ j = k := by
  rw [Nat.testBit_or, Nat.testBit_two_pow]
  simp only [Bool.or_eq_true, decide_eq_true_eq]
  constructor
  · rintro (h | h)
    · exact .inl h
    · exact .inr h.symm
  · rintro (h | h)
    · exact .inl h
    · exact .inr h.symm

theorem or_lt {a k n : Nat} (ha : a < 2 ^ n) (hk : k < n) : a ||| 2 ^ k < 2 ^ n := Nat.or_lt_two_pow ha (Nat.pow_lt_pow_right (by decide) hk)

theorem rkF_more {d : Nat} {C s : List (List Int)} (h : FcC d C s) {a k : Nat} (ha : a < 2 ^ C.length) (hk : k < C.length) : rkF d C (a ||| 2 ^ k) ≤ rkF d C a + 1 := by
  have h1 : rkF d C (a ||| 2 ^ k) ≤ rk (d + 1) ((pks C [] (memL a)).map homD ++ [homD (C.getD k [])]) := rk_le fun v hv => (homD_zero h (or_lt ha hk)).2 fun j hj hjb => by
    rcases or_bit.1 hjb with hb | rfl
    · exact (homD_zero h ha).1 (fun x hx => hv x (List.mem_append_left _ hx)) j hj hb
    · have := hv (homD (C.getD j [])) (by simp)
      rwa [dot_homD (h.g.box _ (by simp [hj])).1] at this
  have h2 := rk_add (d + 1) ((pks C [] (memL a)).map homD) [homD (C.getD k [])]
  unfold rkF at h1 ⊢
  simp only [List.length_singleton] at h2
  omega

theorem abs_sum {n : Nat} (f : Nat → Int) : ∃ N : Int, 0 ≤ N ∧ ∀ k, k < n → - N ≤ f k := by
  induction n with
  | zero => exact ⟨0, Int.le_refl _, fun k hk => by omega⟩
  | succ n ih =>
    obtain ⟨N, h0, h1⟩ := ih
    refine ⟨N + (f n).natAbs, by omega, fun k hk => ?_⟩
    by_cases e : k = n
    · subst e; omega
    · have := h1 k (by omega)
      omega

/-- Of a face, what a functional that is not below 0 on it leaves, is a face. -/
theorem sub_face {d : Nat} {C s : List (List Int)} (h : FcC d C s) {y : Nat} (hy : Itr C.length (s.map (sdN C)) y) {g : Nat → Int} (hg : ∀ k, k < C.length → y.testBit k = true → 0 ≤ fk d C g k) : ∃ z, Itr C.length (s.map (sdN C)) z ∧ ∀ k, z.testBit k = true ↔ y.testBit k = true ∧ k < C.length ∧ fk d C g k = 0 := by
  obtain ⟨τ, hτ⟩ := face_fun h hy
  obtain ⟨N, hN0, hN⟩ := abs_sum (n := C.length) (fk d C g)
  have hall : ∀ k, k < C.length → 0 ≤ fk d C (fun j => 1 * g j + (N + 1) * τ j) k ∧ (fk d C (fun j => 1 * g j + (N + 1) * τ j) k = 0 ↔ y.testBit k = true ∧ fk d C g k = 0) := fun k hk => by
    rw [fk_lc]
    obtain ⟨t1, t2⟩ := hτ k hk
    have t1' : 0 ≤ fk d C τ k := t1
    by_cases hb : y.testBit k = true
    · have t3 : fk d C τ k = 0 := t2.2 hb
      have := hg k hk hb
      rw [t3, Int.mul_zero]
      refine ⟨by omega, ?_⟩
      constructor
      · intro e; exact ⟨hb, by omega⟩
      · rintro ⟨_, e⟩; omega
    · have t3 : fk d C τ k ≠ 0 := fun e => hb (t2.1 e)
      have h1 : 1 ≤ fk d C τ k := by omega
      have h2 : (N + 1) * 1 ≤ (N + 1) * fk d C τ k := Int.mul_le_mul_of_nonneg_left h1 (by omega)
      have h3 := hN k hk
      refine ⟨by omega, ?_⟩
      constructor
      · intro e; omega
      · rintro ⟨e, _⟩; exact absurd e hb
  obtain ⟨z, hz, hzb⟩ := fun_face h (c := fun j => 1 * g j + (N + 1) * τ j) fun x hx => by
    obtain ⟨k, hk, rfl⟩ := List.mem_iff_getElem.1 hx
    have := (hall k hk).1
    have e : C.getD k [] = C[k] := by simp [hk]
    unfold fk at this
    rwa [e] at this
  refine ⟨z, hz, fun k => ?_⟩
  rw [hzb k]
  simp only [Bool.and_eq_true, decide_eq_true_eq]
  constructor
  · rintro ⟨hk, he⟩
    have := (hall k hk).2.1 he
    exact ⟨this.1, hk, this.2⟩
  · rintro ⟨h1, hk, h2⟩
    exact ⟨hk, (hall k hk).2.2 ⟨h1, h2⟩⟩

/-- Of fractions one is the greatest. -/
theorem frac_max {β σ : Nat → Int} : ∀ (K : List Nat), K ≠ [] → (∀ k ∈ K, 0 < σ k) → ∃ m ∈ K, ∀ k ∈ K, β k * σ m ≤ β m * σ k
  | [], h, _ => absurd rfl h
  | [a], _, _ => ⟨a, by simp, fun k hk => by rw [List.mem_singleton.1 hk]; exact Int.le_refl _⟩
  | a :: b :: K, _, hp => by
    obtain ⟨m, hm, h1⟩ := frac_max (b :: K) (by simp) fun k hk => hp k (List.mem_cons_of_mem _ hk)
    have pa := hp a (by simp)
    have pm := hp m (List.mem_cons_of_mem _ hm)
    by_cases e : β m * σ a ≤ β a * σ m
    · refine ⟨a, by simp, fun k hk => ?_⟩
      rcases List.mem_cons.1 hk with rfl | hk
      · exact Int.le_refl _
      · have pk := hp k (List.mem_cons_of_mem _ hk)
        have h2 := h1 k hk
        have h3 : β k * σ m * σ a ≤ β m * σ k * σ a := Int.mul_le_mul_of_nonneg_right h2 (by omega)
        have h4 : β m * σ a * σ k ≤ β a * σ m * σ k := Int.mul_le_mul_of_nonneg_right e (by omega)
        have h5 : σ m * (β k * σ a) ≤ σ m * (β a * σ k) := by
          have e1 : σ m * (β k * σ a) = β k * σ m * σ a := by grind
          have e2 : σ m * (β a * σ k) = β a * σ m * σ k := by grind
          have e3 : β m * σ k * σ a = β m * σ a * σ k := by grind
          omega
        exact Int.le_of_mul_le_mul_left h5 pm
    · refine ⟨m, List.mem_cons_of_mem _ hm, fun k hk => ?_⟩
      rcases List.mem_cons.1 hk with rfl | hk
      · omega
      · exact h1 k hk

/-- Between. -/
def Btw (x z y : Nat) : Prop := (∀ k, x.testBit k = true → z.testBit k = true) ∧ ∀ k, z.testBit k = true → y.testBit k = true

theorem bit_lt {a n k : Nat} (ha : a < 2 ^ n) (hb : a.testBit k = true) : k < n := by
  refine Classical.byContradiction fun hn => ?_
  have : a < 2 ^ k := Nat.lt_of_lt_of_le ha (Nat.pow_le_pow_right (by decide) (by omega))
  rw [Nat.testBit_lt_two_pow this] at hb
  cases hb

/-- Between two faces of two dimensions more, or still more, there is one. -/
theorem mid_face {d : Nat} {C s : List (List Int)} (h : FcC d C s) {x y : Nat} (hx : Itr C.length (s.map (sdN C)) x) (hy : Itr C.length (s.map (sdN C)) y) (hxy : ∀ k, x.testBit k = true → y.testBit k = true) (hr : rkF d C x + 2 ≤ rkF d C y) :
    ∃ z, Itr C.length (s.map (sdN C)) z ∧ Btw x z y ∧ rkF d C x < rkF d C z ∧ rkF d C z < rkF d C y := by
  have lx := itr_lt hx
  have ly := itr_lt hy
  obtain ⟨σ, hσ'⟩ := face_fun h hx
  have hσ : ∀ k, k < C.length → 0 ≤ fk d C σ k ∧ (fk d C σ k = 0 ↔ x.testBit k = true) := hσ'
  -- one that is in the greater alone
  obtain ⟨c0, hc0, k0, hk0, hb0, hn0⟩ := rkF_fun h lx ly (by omega)
  have hx0 : ¬ x.testBit k0 = true := fun e => hn0 (hc0 k0 hk0 e)
  -- a second functional
  have hm0 := rkF_more h lx hk0
  obtain ⟨β, hβ', k1, hk1, hb1, hn1⟩ := rkF_fun h (or_lt lx hk0) ly (by omega)
  have hβ : ∀ k, k < C.length → x.testBit k = true → fk d C β k = 0 := fun k hk e => hβ' k hk (or_bit.2 (.inl e))
  have hβ0 : fk d C β k0 = 0 := hβ' k0 hk0 (or_bit.2 (.inr rfl))
  have hx1 : ¬ x.testBit k1 = true := fun e => hn1 (hβ k1 hk1 e)
  have hσp : ∀ k, k < C.length → ¬ x.testBit k = true → 0 < fk d C σ k := fun k hk e => by
    have := hσ k hk
    have h2 : fk d C σ k ≠ 0 := fun e2 => e (this.2.1 e2)
    omega
  obtain ⟨K, hK⟩ : ∃ K, K = (List.range C.length).filter fun k => y.testBit k && !x.testBit k := ⟨_, rfl⟩
  have hKm : ∀ k, k ∈ K ↔ k < C.length ∧ y.testBit k = true ∧ ¬ x.testBit k = true := fun k => by
    rw [hK, List.mem_filter, List.mem_range]
    simp
  have hKne : K ≠ [] := fun e => by
    have := (hKm k0).2 ⟨hk0, hb0, hx0⟩
    rw [e] at this
    simp at this
  obtain ⟨M, hM, hMx⟩ := frac_max (β := fk d C β) (σ := fk d C σ) K hKne fun k hk => hσp k ((hKm k).1 hk).1 ((hKm k).1 hk).2.2
  obtain ⟨m, hm, hmx⟩ := frac_max (β := fun k => - fk d C β k) (σ := fk d C σ) K hKne fun k hk => hσp k ((hKm k).1 hk).1 ((hKm k).1 hk).2.2
  obtain ⟨hMn, hMy, hMx'⟩ := (hKm M).1 hM
  obtain ⟨hmn, hmy, hmx'⟩ := (hKm m).1 hm
  have pM := hσp M hMn hMx'
  have pm := hσp m hmn hmx'
  have hmin : ∀ k ∈ K, fk d C β m * fk d C σ k ≤ fk d C β k * fk d C σ m := fun k hk => by
    have := hmx k hk
    rw [Int.neg_mul, Int.neg_mul] at this
    omega
  obtain ⟨D, hD⟩ : ∃ D, D = fk d C β M * fk d C σ m - fk d C β m * fk d C σ M := ⟨_, rfl⟩
  have hDp : 0 < D := by
    have a1 := hMx k0 ((hKm k0).2 ⟨hk0, hb0, hx0⟩)
    have a2 := hmin k0 ((hKm k0).2 ⟨hk0, hb0, hx0⟩)
    have a3 := hMx k1 ((hKm k1).2 ⟨hk1, hb1, hx1⟩)
    have a4 := hmin k1 ((hKm k1).2 ⟨hk1, hb1, hx1⟩)
    have p0 := hσp k0 hk0 hx0
    have p1 := hσp k1 hk1 hx1
    rw [hβ0, Int.zero_mul] at a1 a2
    have b1 : 0 ≤ fk d C β M := by
      refine Classical.byContradiction fun hn => ?_
      have := Int.mul_neg_of_neg_of_pos (show fk d C β M < 0 by omega) p0
      omega
    have b2 : fk d C β m ≤ 0 := by
      refine Classical.byContradiction fun hn => ?_
      have := Int.mul_pos (show 0 < fk d C β m by omega) p0
      omega
    have c1 : 0 ≤ fk d C β M * fk d C σ m := Int.mul_nonneg b1 (by omega)
    have c2 : fk d C β m * fk d C σ M ≤ 0 := Int.mul_nonpos_of_nonpos_of_nonneg b2 (by omega)
    refine Classical.byContradiction fun hn => ?_
    have e1 : fk d C β M * fk d C σ m = 0 := by omega
    have e2 : fk d C β m * fk d C σ M = 0 := by omega
    have f1 : fk d C β M = 0 := by
      rcases Int.mul_eq_zero.1 e1 with e | e
      · exact e
      · omega
    have f2 : fk d C β m = 0 := by
      rcases Int.mul_eq_zero.1 e2 with e | e
      · exact e
      · omega
    rw [f1, Int.zero_mul] at a3
    rw [f2, Int.zero_mul] at a4
    have g1 : fk d C β k1 ≤ 0 := by
      refine Classical.byContradiction fun hn => ?_
      have := Int.mul_pos (show 0 < fk d C β k1 by omega) pM
      omega
    have g2 : 0 ≤ fk d C β k1 := by
      refine Classical.byContradiction fun hn => ?_
      have := Int.mul_neg_of_neg_of_pos (show fk d C β k1 < 0 by omega) pm
      omega
    exact hn1 (by omega)
  -- two functionals that are not below 0 on the greater face
  obtain ⟨gM, hgM⟩ : ∃ gM : Nat → Int, gM = fun j => fk d C β M * σ j + (- fk d C σ M) * β j := ⟨_, rfl⟩
  obtain ⟨gm, hgm⟩ : ∃ gm : Nat → Int, gm = fun j => fk d C σ m * β j + (- fk d C β m) * σ j := ⟨_, rfl⟩
  have vM : ∀ k, fk d C gM k = fk d C β M * fk d C σ k - fk d C β k * fk d C σ M := fun k => by
    rw [hgM, fk_lc]
    grind
  have vm : ∀ k, fk d C gm k = fk d C β k * fk d C σ m - fk d C β m * fk d C σ k := fun k => by
    rw [hgm, fk_lc]
    grind
  have zx : ∀ k, k < C.length → x.testBit k = true → fk d C gM k = 0 ∧ fk d C gm k = 0 := fun k hk e => by
    have e1 := (hσ k hk).2.2 e
    have e2 := hβ k hk e
    rw [vM, vm, e1, e2]
    simp
  have nM : ∀ k, k < C.length → y.testBit k = true → 0 ≤ fk d C gM k := fun k hk e => by
    by_cases ex : x.testBit k = true
    · rw [(zx k hk ex).1]; exact Int.le_refl _
    · have := hMx k ((hKm k).2 ⟨hk, e, ex⟩)
      rw [vM]; omega
  have vMM : fk d C gM M = 0 := by rw [vM]; omega
  have vMm : fk d C gM m = D := by rw [vM, hD]
  obtain ⟨zM, hzM, bM⟩ := sub_face h hy nM
  have lM := itr_lt hzM
  have tM : Btw x zM y := ⟨fun k e => (bM k).2 ⟨hxy k e, bit_lt lx e, (zx k (bit_lt lx e) e).1⟩, fun k e => ((bM k).1 e).1⟩
  exact ⟨zM, hzM, tM, rkF_lt h lx lM tM.1 (c := σ) (fun k hk e => (hσ k hk).2.2 e) hMn ((bM M).2 ⟨hMy, hMn, vMM⟩) (by omega), rkF_lt h lM ly tM.2 (c := gM) (fun k hk e => ((bM k).1 e).2.2) hmn hmy (by rw [vMm]; omega)⟩

/-- Faces of all dimensions between. -/
theorem some_face {d : Nat} {C s : List (List Int)} (h : FcC d C s) : ∀ (n x y : Nat), Itr C.length (s.map (sdN C)) x → Itr C.length (s.map (sdN C)) y → (∀ k, x.testBit k = true → y.testBit k = true) → rkF d C y ≤ rkF d C x + n → ∀ r, rkF d C x ≤ r → r ≤ rkF d C y → ∃ z, Itr C.length (s.map (sdN C)) z ∧ rkF d C z = r := by
  intro n
  induction n with
  | zero => intro x y hx hy hxy hn r h1 h2; exact ⟨x, hx, by omega⟩
  | succ n ih =>
    intro x y hx hy hxy hn r h1 h2
    by_cases e1 : r = rkF d C x
    · exact ⟨x, hx, e1.symm⟩
    · by_cases e2 : r = rkF d C y
      · exact ⟨y, hy, e2.symm⟩
      · obtain ⟨z, hz, tz, q1, q2⟩ := mid_face h hx hy hxy (by omega)
        by_cases e3 : r ≤ rkF d C z
        · exact ih x z hx hz tz.1 (by omega) r h1 e3
        · exact ih z y hz hy tz.2 (by omega) r (by omega) h2

theorem diamond {d : Nat} {C s : List (List Int)} (h : FcC d C s) {x y : Nat} (hx : Itr C.length (s.map (sdN C)) x) (hy : Itr C.length (s.map (sdN C)) y) (hxy : ∀ k, x.testBit k = true → y.testBit k = true) (hr : rkF d C y = rkF d C x + 2) :
    ∃ z1 z2, Itr C.length (s.map (sdN C)) z1 ∧ Itr C.length (s.map (sdN C)) z2 ∧ z1 ≠ z2 ∧ Btw x z1 y ∧ Btw x z2 y ∧ rkF d C z1 = rkF d C x + 1 ∧ rkF d C z2 = rkF d C x + 1 ∧ ∀ z, Itr C.length (s.map (sdN C)) z → Btw x z y → rkF d C z = rkF d C x + 1 → z = z1 ∨ z = z2 := by
  have lx := itr_lt hx
  have ly := itr_lt hy
  obtain ⟨σ, hσ'⟩ := face_fun h hx
  have hσ : ∀ k, k < C.length → 0 ≤ fk d C σ k ∧ (fk d C σ k = 0 ↔ x.testBit k = true) := hσ'
  -- one that is in the greater alone
  obtain ⟨c0, hc0, k0, hk0, hb0, hn0⟩ := rkF_fun h lx ly (by omega)
  have hx0 : ¬ x.testBit k0 = true := fun e => hn0 (hc0 k0 hk0 e)
  -- a second functional
  have hm0 := rkF_more h lx hk0
  obtain ⟨β, hβ', k1, hk1, hb1, hn1⟩ := rkF_fun h (or_lt lx hk0) ly (by omega)
  have hβ : ∀ k, k < C.length → x.testBit k = true → fk d C β k = 0 := fun k hk e => hβ' k hk (or_bit.2 (.inl e))
  have hβ0 : fk d C β k0 = 0 := hβ' k0 hk0 (or_bit.2 (.inr rfl))
  have hx1 : ¬ x.testBit k1 = true := fun e => hn1 (hβ k1 hk1 e)
  have hσp : ∀ k, k < C.length → ¬ x.testBit k = true → 0 < fk d C σ k := fun k hk e => by
    have := hσ k hk
    have h2 : fk d C σ k ≠ 0 := fun e2 => e (this.2.1 e2)
    omega
  obtain ⟨K, hK⟩ : ∃ K, K = (List.range C.length).filter fun k => y.testBit k && !x.testBit k := ⟨_, rfl⟩
  have hKm : ∀ k, k ∈ K ↔ k < C.length ∧ y.testBit k = true ∧ ¬ x.testBit k = true := fun k => by
    rw [hK, List.mem_filter, List.mem_range]
    simp
  have hKne : K ≠ [] := fun e => by
    have := (hKm k0).2 ⟨hk0, hb0, hx0⟩
    rw [e] at this
    simp at this
  obtain ⟨M, hM, hMx⟩ := frac_max (β := fk d C β) (σ := fk d C σ) K hKne fun k hk => hσp k ((hKm k).1 hk).1 ((hKm k).1 hk).2.2
  obtain ⟨m, hm, hmx⟩ := frac_max (β := fun k => - fk d C β k) (σ := fk d C σ) K hKne fun k hk => hσp k ((hKm k).1 hk).1 ((hKm k).1 hk).2.2
  obtain ⟨hMn, hMy, hMx'⟩ := (hKm M).1 hM
  obtain ⟨hmn, hmy, hmx'⟩ := (hKm m).1 hm
  have pM := hσp M hMn hMx'
  have pm := hσp m hmn hmx'
  have hmin : ∀ k ∈ K, fk d C β m * fk d C σ k ≤ fk d C β k * fk d C σ m := fun k hk => by
    have := hmx k hk
    rw [Int.neg_mul, Int.neg_mul] at this
    omega
  obtain ⟨D, hD⟩ : ∃ D, D = fk d C β M * fk d C σ m - fk d C β m * fk d C σ M := ⟨_, rfl⟩
  have hDp : 0 < D := by
    have a1 := hMx k0 ((hKm k0).2 ⟨hk0, hb0, hx0⟩)
    have a2 := hmin k0 ((hKm k0).2 ⟨hk0, hb0, hx0⟩)
    have a3 := hMx k1 ((hKm k1).2 ⟨hk1, hb1, hx1⟩)
    have a4 := hmin k1 ((hKm k1).2 ⟨hk1, hb1, hx1⟩)
    have p0 := hσp k0 hk0 hx0
    have p1 := hσp k1 hk1 hx1
    rw [hβ0, Int.zero_mul] at a1 a2
    have b1 : 0 ≤ fk d C β M := by
      refine Classical.byContradiction fun hn => ?_
      have := Int.mul_neg_of_neg_of_pos (show fk d C β M < 0 by omega) p0
      omega
    have b2 : fk d C β m ≤ 0 := by
      refine Classical.byContradiction fun hn => ?_
      have := Int.mul_pos (show 0 < fk d C β m by omega) p0
      omega
    have c1 : 0 ≤ fk d C β M * fk d C σ m := Int.mul_nonneg b1 (by omega)
    have c2 : fk d C β m * fk d C σ M ≤ 0 := Int.mul_nonpos_of_nonpos_of_nonneg b2 (by omega)
    refine Classical.byContradiction fun hn => ?_
    have e1 : fk d C β M * fk d C σ m = 0 := by omega
    have e2 : fk d C β m * fk d C σ M = 0 := by omega
    have f1 : fk d C β M = 0 := by
      rcases Int.mul_eq_zero.1 e1 with e | e
      · exact e
      · omega
    have f2 : fk d C β m = 0 := by
      rcases Int.mul_eq_zero.1 e2 with e | e
      · exact e
      · omega
    rw [f1, Int.zero_mul] at a3
    rw [f2, Int.zero_mul] at a4
    have g1 : fk d C β k1 ≤ 0 := by
      refine Classical.byContradiction fun hn => ?_
      have := Int.mul_pos (show 0 < fk d C β k1 by omega) pM
      omega
    have g2 : 0 ≤ fk d C β k1 := by
      refine Classical.byContradiction fun hn => ?_
      have := Int.mul_neg_of_neg_of_pos (show fk d C β k1 < 0 by omega) pm
      omega
    exact hn1 (by omega)
  -- two functionals that are not below 0 on the greater face
  obtain ⟨gM, hgM⟩ : ∃ gM : Nat → Int, gM = fun j => fk d C β M * σ j + (- fk d C σ M) * β j := ⟨_, rfl⟩
  obtain ⟨gm, hgm⟩ : ∃ gm : Nat → Int, gm = fun j => fk d C σ m * β j + (- fk d C β m) * σ j := ⟨_, rfl⟩
  have vM : ∀ k, fk d C gM k = fk d C β M * fk d C σ k - fk d C β k * fk d C σ M := fun k => by
    rw [hgM, fk_lc]
    grind
  have vm : ∀ k, fk d C gm k = fk d C β k * fk d C σ m - fk d C β m * fk d C σ k := fun k => by
    rw [hgm, fk_lc]
    grind
  have zx : ∀ k, k < C.length → x.testBit k = true → fk d C gM k = 0 ∧ fk d C gm k = 0 := fun k hk e => by
    have e1 := (hσ k hk).2.2 e
    have e2 := hβ k hk e
    rw [vM, vm, e1, e2]
    simp
  have nM : ∀ k, k < C.length → y.testBit k = true → 0 ≤ fk d C gM k := fun k hk e => by
    by_cases ex : x.testBit k = true
    · rw [(zx k hk ex).1]; exact Int.le_refl _
    · have := hMx k ((hKm k).2 ⟨hk, e, ex⟩)
      rw [vM]; omega
  have nm : ∀ k, k < C.length → y.testBit k = true → 0 ≤ fk d C gm k := fun k hk e => by
    by_cases ex : x.testBit k = true
    · rw [(zx k hk ex).2]; exact Int.le_refl _
    · have := hmin k ((hKm k).2 ⟨hk, e, ex⟩)
      rw [vm]; omega
  have vMM : fk d C gM M = 0 := by rw [vM]; omega
  have vMm : fk d C gM m = D := by rw [vM, hD]
  have vmM : fk d C gm M = D := by rw [vm, hD]
  have vmm : fk d C gm m = 0 := by rw [vm]; omega
  obtain ⟨zM, hzM, bM⟩ := sub_face h hy nM
  obtain ⟨zm, hzm, bm⟩ := sub_face h hy nm
  have lM := itr_lt hzM
  have lm := itr_lt hzm
  have tM : Btw x zM y := ⟨fun k e => (bM k).2 ⟨hxy k e, bit_lt lx e, (zx k (bit_lt lx e) e).1⟩, fun k e => ((bM k).1 e).1⟩
  have tm : Btw x zm y := ⟨fun k e => (bm k).2 ⟨hxy k e, bit_lt lx e, (zx k (bit_lt lx e) e).2⟩, fun k e => ((bm k).1 e).1⟩
  have rM : rkF d C zM = rkF d C x + 1 := by
    have h1 := rkF_lt h lM ly tM.2 (c := gM) (fun k hk e => ((bM k).1 e).2.2) hmn hmy (by rw [vMm]; omega)
    have h2 := rkF_lt h lx lM tM.1 (c := σ) (fun k hk e => (hσ k hk).2.2 e) hMn ((bM M).2 ⟨hMy, hMn, vMM⟩) (by omega)
    omega
  have rm : rkF d C zm = rkF d C x + 1 := by
    have h1 := rkF_lt h lm ly tm.2 (c := gm) (fun k hk e => ((bm k).1 e).2.2) hMn hMy (by rw [vmM]; omega)
    have h2 := rkF_lt h lx lm tm.1 (c := σ) (fun k hk e => (hσ k hk).2.2 e) hmn ((bm m).2 ⟨hmy, hmn, vmm⟩) (by omega)
    omega
  refine ⟨zM, zm, hzM, hzm, fun e => ?_, tM, tm, rM, rm, fun z hz tz rz => ?_⟩
  · have h1 : zM.testBit M = true := (bM M).2 ⟨hMy, hMn, vMM⟩
    rw [e] at h1
    have := ((bm M).1 h1).2.2
    omega
  · have lz := itr_lt hz
    obtain ⟨ζ, hζ'⟩ := face_fun h hz
    have hζ : ∀ k, k < C.length → 0 ≤ fk d C ζ k ∧ (fk d C ζ k = 0 ↔ z.testBit k = true) := hζ'
    -- on the greater face the functional of z is a sum of both
    have hsum : ∀ k, k < C.length → y.testBit k = true → D * fk d C ζ k = fk d C ζ M * fk d C gm k + fk d C ζ m * fk d C gM k := fun k hk e => by
      have hf : ∀ k, fk d C (fun j => 1 * (fun j => D * ζ j + (- fk d C ζ M) * gm j) j + (- fk d C ζ m) * gM j) k = D * fk d C ζ k - fk d C ζ M * fk d C gm k - fk d C ζ m * fk d C gM k := fun k => by
        rw [fk_lc, fk_lc]
        grind
      refine Classical.byContradiction fun hne => ?_
      have lw1 := or_lt lx hMn
      have lw := or_lt lw1 hmn
      have h1 := rkF_lt h lx lw1 (fun k e => or_bit.2 (.inl e)) (c := σ) (fun k hk e => (hσ k hk).2.2 e) hMn (or_bit.2 (.inr rfl)) (by omega)
      have h2 := rkF_lt h lw1 lw (fun k e => or_bit.2 (.inl e)) (c := gM) (fun k hk e => by
        rcases or_bit.1 e with e | rfl
        · exact (zx k hk e).1
        · exact vMM) hmn (or_bit.2 (.inr rfl)) (by rw [vMm]; omega)
      have h3 := rkF_lt h lw ly (fun k e => by
        rcases or_bit.1 e with e | rfl
        · rcases or_bit.1 e with e | rfl
          · exact hxy k e
          · exact hMy
        · exact hmy) (c := fun j => 1 * (fun j => D * ζ j + (- fk d C ζ M) * gm j) j + (- fk d C ζ m) * gM j) (fun k hk e => by
        rw [hf]
        rcases or_bit.1 e with e | rfl
        · rcases or_bit.1 e with e | rfl
          · have e1 := (hζ k hk).2.2 (tz.1 k e)
            have e2 := zx k hk e
            rw [e1, e2.1, e2.2]
            simp
          · rw [vmM, vMM]
            grind
        · rw [vmm, vMm]
          grind) hk e (by rw [hf]; omega)
      omega
    have zM0 := (hζ M hMn).1
    have zm0 := (hζ m hmn).1
    by_cases eM : fk d C ζ M = 0
    · left
      have em : 0 < fk d C ζ m := by
        refine Classical.byContradiction fun hn => ?_
        have em0 : fk d C ζ m = 0 := by omega
        have hyz : ∀ k, y.testBit k = true → z.testBit k = true := fun k e => by
          have hk := bit_lt ly e
          have := hsum k hk e
          rw [eM, em0, Int.zero_mul, Int.zero_mul] at this
          refine (hζ k hk).2.1 ?_
          rcases Int.mul_eq_zero.1 (show D * fk d C ζ k = 0 by omega) with h1 | h1
          · omega
          · exact h1
        have := rkF_le h ly lz hyz
        omega
      apply Nat.eq_of_testBit_eq
      intro k
      rw [Bool.eq_iff_iff, bM k]
      constructor
      · intro e
        have hk := bit_lt lz e
        have ey := tz.2 k e
        have := hsum k hk ey
        rw [(hζ k hk).2.2 e, eM, Int.mul_zero, Int.zero_mul] at this
        refine ⟨ey, hk, ?_⟩
        rcases Int.mul_eq_zero.1 (show fk d C ζ m * fk d C gM k = 0 by omega) with h1 | h1
        · omega
        · exact h1
      · rintro ⟨ey, hk, e0⟩
        have := hsum k hk ey
        rw [e0, eM, Int.mul_zero, Int.zero_mul] at this
        refine (hζ k hk).2.1 ?_
        rcases Int.mul_eq_zero.1 (show D * fk d C ζ k = 0 by omega) with h1 | h1
        · omega
        · exact h1
    · by_cases em : fk d C ζ m = 0
      · right
        apply Nat.eq_of_testBit_eq
        intro k
        rw [Bool.eq_iff_iff, bm k]
        constructor
        · intro e
          have hk := bit_lt lz e
          have ey := tz.2 k e
          have := hsum k hk ey
          rw [(hζ k hk).2.2 e, em, Int.mul_zero, Int.zero_mul] at this
          refine ⟨ey, hk, ?_⟩
          rcases Int.mul_eq_zero.1 (show fk d C ζ M * fk d C gm k = 0 by omega) with h1 | h1
          · omega
          · exact h1
        · rintro ⟨ey, hk, e0⟩
          have := hsum k hk ey
          rw [e0, em, Int.mul_zero, Int.zero_mul] at this
          refine (hζ k hk).2.1 ?_
          rcases Int.mul_eq_zero.1 (show D * fk d C ζ k = 0 by omega) with h1 | h1
          · omega
          · exact h1
      · exfalso
        obtain ⟨c1, hc1, k, hk, hkz, hkn⟩ := rkF_fun h lx lz (by omega)
        have hkx : ¬ x.testBit k = true := fun e => hkn (hc1 k hk e)
        have ey := tz.2 k hkz
        have hs := hsum k hk ey
        rw [(hζ k hk).2.2 hkz, Int.mul_zero] at hs
        have q1 := nM k hk ey
        have q2 := nm k hk ey
        have r1 : 0 ≤ fk d C ζ M * fk d C gm k := Int.mul_nonneg zM0 q2
        have r2 : 0 ≤ fk d C ζ m * fk d C gM k := Int.mul_nonneg zm0 q1
        have s1 : fk d C gm k = 0 := by
          rcases Int.mul_eq_zero.1 (show fk d C ζ M * fk d C gm k = 0 by omega) with h1 | h1
          · exact absurd h1 eM
          · exact h1
        have s2 : fk d C gM k = 0 := by
          rcases Int.mul_eq_zero.1 (show fk d C ζ m * fk d C gM k = 0 by omega) with h1 | h1
          · exact absurd h1 em
          · exact h1
        rw [vm] at s1
        rw [vM] at s2
        have pk := hσp k hk hkx
        have hz0 : D * fk d C σ k = 0 := by
          rw [hD]
          have e1 : fk d C β M * fk d C σ k = fk d C β k * fk d C σ M := by omega
          have e2 : fk d C β k * fk d C σ m = fk d C β m * fk d C σ k := by omega
          grind
        rcases Int.mul_eq_zero.1 hz0 with h1 | h1 <;> omega

end Go.Proofs.YtopjjhejjjchpaaDoor
