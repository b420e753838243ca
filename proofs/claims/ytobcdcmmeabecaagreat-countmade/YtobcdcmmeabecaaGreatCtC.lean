import Derived.Test.YtobcdcmmeabecaaGreatCtB
import Derived.Test.YtobcdcmmeabecaaGreatLtA
import Derived.Test.YtobcdcmmeabecaaGreatHmW
/- The program's count is the document's. -/
namespace Go.Proofs.YtobcdcmmeabecaaGreat

/-- Number by number, by what rows still have room for. -/
def cn (k : Nat) (lo hi : List Int) (rows : List (List Int)) : Nat → Nat → List Int → Int
  | 0, _, rooms => b01 (rooms.all fun R => decide (0 ≤ R))
  | m + 1, dir, rooms => isum (irange (lok k lo dir) (lok k hi dir)) fun v => cn k lo hi rows m (dir + 1) (lef rows rooms dir v)

theorem thr_cn (k : Nat) (lo hi : List Int) (rows : List (List Int)) : ∀ (rem dir : Nat) (rooms : List Int), thr k lo hi rows rem dir rooms = cn k lo hi rows (rem + 1) dir rooms
  | 0, dir, rooms => by
    show (endsOf ⟨lok k lo dir, lok k hi dir, true⟩ (prs rows rooms dir)).cnt = isum (irange (lok k lo dir) (lok k hi dir)) fun v => b01 ((lef rows rooms dir v).all fun R => decide (0 ≤ R))
    rw [along_eq]
    refine isum_congr fun v _ => ?_
    have e : ((lef rows rooms dir v).all fun R => decide (0 ≤ R)) = decide (∀ p ∈ prs rows rooms dir, p.1 * v ≤ p.2) := by
      rw [Bool.eq_iff_iff, decide_eq_true_iff, List.all_eq_true]
      constructor
      · intro h p hp
        unfold prs at hp
        obtain ⟨j, hj, rfl⟩ := List.mem_map.1 hp
        have := of_decide_eq_true (h (rooms.getD j 0 - (rows.getD j []).getD dir 0 * v) (by unfold lef; exact List.mem_map.2 ⟨j, hj, rfl⟩))
        show (rows.getD j []).getD dir 0 * v ≤ rooms.getD j 0
        omega
      · intro h R hR
        unfold lef at hR
        obtain ⟨j, hj, rfl⟩ := List.mem_map.1 hR
        have := h ((rows.getD j []).getD dir 0, rooms.getD j 0) (by unfold prs; exact List.mem_map.2 ⟨j, hj, rfl⟩)
        have h2 : (rows.getD j []).getD dir 0 * v ≤ rooms.getD j 0 := this
        exact decide_eq_true (by omega)
    rw [e]
    unfold b01
    simp only [decide_eq_true_eq]
  | rem + 1, dir, rooms => by
    show isum (irange (lok k lo dir) (lok k hi dir)) (fun v => thr k lo hi rows rem (dir + 1) (lef rows rooms dir v)) = isum (irange (lok k lo dir) (lok k hi dir)) fun v => cn k lo hi rows (rem + 1) (dir + 1) (lef rows rooms dir v)
    exact isum_congr fun v _ => thr_cn k lo hi rows rem (dir + 1) _

/-- What rows have room for behind the first numbers of a place. -/
def rmx (k : Nat) (sp : Int) (d : Nat) (rows : List (List Int)) (x : List Int) : List Int := rows.map fun r => (k : Int) * r.getD d 0 - sp - dotL (r.take x.length) x

theorem rmx_nil (k : Nat) (sp : Int) (d : Nat) (rows : List (List Int)) : rmx k sp d rows [] = rms k sp d rows := by
  unfold rmx rms
  refine List.map_congr_left fun r _ => ?_
  simp [dotL, Lin.sumN]

theorem dotL_snoc {r x : List Int} {v : Int} (h : x.length < r.length) : dotL (r.take (x.length + 1)) (x ++ [v]) = dotL (r.take x.length) x + r.getD x.length 0 * v := by
  unfold dotL
  have e1 : (r.take (x.length + 1)).length = x.length + 1 := by rw [List.length_take]; omega
  have e2 : (r.take x.length).length = x.length := by rw [List.length_take]; omega
  rw [e1, e2]
  show Lin.sumN x.length (fun i => (r.take (x.length + 1)).getD i 0 * (x ++ [v]).getD i 0) + (r.take (x.length + 1)).getD x.length 0 * (x ++ [v]).getD x.length 0 = _
  have a1 : (r.take (x.length + 1)).getD x.length 0 = r.getD x.length 0 := by
    simp only [List.getD_eq_getElem?_getD]; rw [List.getElem?_take_of_lt (by omega)]
  have a2 : (x ++ [v]).getD x.length 0 = v := by simp
  rw [a1, a2]
  congr 1
  refine Lin.sumN_congr fun i hi => ?_
  have b1 : (r.take (x.length + 1)).getD i 0 = (r.take x.length).getD i 0 := by
    simp only [List.getD_eq_getElem?_getD]; rw [List.getElem?_take_of_lt (by omega), List.getElem?_take_of_lt hi]
  have b2 : (x ++ [v]).getD i 0 = x.getD i 0 := by
    simp only [List.getD_eq_getElem?_getD]; rw [List.getElem?_append_left hi]
  rw [b1, b2]

theorem lef_rmx {k d : Nat} {sp : Int} {rows : List (List Int)} {x : List Int} {v : Int} (hr : ∀ r ∈ rows, r.length = d + 1) (hx : x.length < d) : lef rows (rmx k sp d rows x) x.length v = rmx k sp d rows (x ++ [v]) := by
  have hl : (rmx k sp d rows x).length = rows.length := by simp [rmx]
  apply List.ext_getElem
  · simp [lef, rmx]
  · intro j h1 h2
    have hj : j < rows.length := by simpa [lef] using h1
    have hrj := hr rows[j] (List.getElem_mem hj)
    have e := dotL_snoc (r := rows[j]) (x := x) (v := v) (by omega)
    simp only [lef, rmx, List.getElem_map, List.getElem_range, List.length_append, List.length_cons, List.length_nil, Nat.zero_add]
    rw [e]
    have e1 : (rows.map fun r => (k : Int) * r.getD d 0 - sp - dotL (r.take x.length) x).getD j 0 = (k : Int) * rows[j].getD d 0 - sp - dotL (rows[j].take x.length) x := by simp [hj]
    have e2 : rows.getD j [] = rows[j] := by simp [hj]
    rw [e1, e2]
    omega

theorem pl_cn {k d : Nat} {P rows : List (List Int)} (hr : ∀ r ∈ rows, r.length = d + 1) : ∀ (m : Nat) (x : List Int), x.length + m = d →
    plA k d P rows m x = cn k (loL P d) (hiL P d) rows m x.length (rmx k 0 d rows x) ∧ plI k d P rows m x = cn k (loL P d) (hiL P d) rows m x.length (rmx k 1 d rows x)
  | 0, x, hx => by
    have hxd : x.length = d := by omega
    have ha : allB k d rows x = (rmx k 0 d rows x).all fun R => decide (0 ≤ R) := by
      unfold allB rmx
      rw [List.all_map]
      congr 1
      funext r
      refine decide_eq_decide.2 ?_
      have e : ovr k d r x = dotL (r.take x.length) x - (k : Int) * r.getD d 0 := by unfold ovr; rw [hxd, Int.mul_comm]
      rw [e]
      dsimp only
      omega
    have hi : innB k d rows x = (rmx k 1 d rows x).all fun R => decide (0 ≤ R) := by
      unfold innB rmx
      rw [List.all_map]
      congr 1
      funext r
      refine decide_eq_decide.2 ?_
      have e : ovr k d r x = dotL (r.take x.length) x - (k : Int) * r.getD d 0 := by unfold ovr; rw [hxd, Int.mul_comm]
      rw [e]
      dsimp only
      omega
    exact ⟨by simp only [plA, cn, ha], by simp only [plI, cn, hi]⟩
  | m + 1, x, hx => by
    have hxd : x.length < d := by omega
    have el : loT P x.length P.length * (k : Int) = lok k (loL P d) x.length := by unfold lok; rw [loL_get hxd, Int.mul_comm]
    have eh : hiT P x.length P.length * (k : Int) = lok k (hiL P d) x.length := by unfold lok; rw [hiL_get hxd, Int.mul_comm]
    have ih := fun v => pl_cn (P := P) (k := k) hr m (x ++ [v]) (by simp; omega)
    simp only [plA, plI, cn, el, eh]
    constructor
    · refine isum_congr fun v _ => ?_
      rw [(ih v).1, lef_rmx hr hxd]
      simp
    · refine isum_congr fun v _ => ?_
      rw [(ih v).2, lef_rmx hr hxd]
      simp

/-- One and the same count. -/
theorem count_eq {k d : Nat} {P rows : List (List Int)} (hd : 1 ≤ d) (hr : ∀ r ∈ rows, r.length = d + 1) :
    plA k d P rows d [] = thr k (loL P d) (hiL P d) rows (d - 1) 0 (rms k 0 d rows) ∧ plI k d P rows d [] = thr k (loL P d) (hiL P d) rows (d - 1) 0 (rms k 1 d rows) := by
  have h := pl_cn (P := P) (k := k) hr d [] (by simp)
  rw [h.1, h.2, rmx_nil, rmx_nil, thr_cn, thr_cn, show d - 1 + 1 = d by omega]
  exact ⟨rfl, rfl⟩

end Go.Proofs.YtobcdcmmeabecaaGreat

/- The document's answer: places of a polytope, what may be counted. -/
namespace Go.Proofs.YtobcdcmmeabecaaGreat
open Go.RowKit
attribute [local go_sem ↓] Go.wp_at_zero Go.wp_at_succ

theorem dotL_bdC {a x : List Int} {A X : Nat} (ha : ∀ z ∈ a, z.natAbs ≤ A) (hx : ∀ z ∈ x, z.natAbs ≤ X) : (dotL a x).natAbs ≤ a.length * (A * X) := by
  have key : ∀ n, n ≤ a.length → (Lin.sumN n fun i => a.getD i 0 * x.getD i 0).natAbs ≤ n * (A * X) := by
    intro n
    induction n with
    | zero => intro _; simp [Lin.sumN]
    | succ n ih =>
      intro hn
      have h1 := ih (by omega)
      have h2 : (a.getD n 0 * x.getD n 0).natAbs ≤ A * X := by
        rw [Int.natAbs_mul]
        refine Nat.mul_le_mul (ha _ (getD_mem (by omega))) ?_
        by_cases hxn : n < x.length
        · exact hx _ (getD_mem hxn)
        · rw [show x.getD n 0 = 0 by simp only [List.getD_eq_getElem?_getD]; rw [List.getElem?_eq_none (by omega)]; rfl]; simp
      show (Lin.sumN n (fun i => a.getD i 0 * x.getD i 0) + a.getD n 0 * x.getD n 0).natAbs ≤ (n + 1) * (A * X)
      have e : (n + 1) * (A * X) = n * (A * X) + A * X := by rw [Nat.succ_mul]
      rw [e]
      generalize n * (A * X) = p at *
      generalize A * X = q at *
      omega
  exact key a.length (Nat.le_refl _)

/-- The last number of a row of small points. -/
theorem rowsD_end {d : Nat} {P : List (List Int)} (hP : Box d 6 P) (h1 : 1 ≤ d) (h4 : d ≤ 4) {r : List Int} (hr : r ∈ rowsD P d) : (r.getD d 0).natAbs ≤ 1000000 := by
  unfold rowsD at hr
  obtain ⟨c, hc, hr⟩ := List.mem_flatMap.1 hr
  have hl := chosen_row d P.length c hc
  have htl : (pks P [] c).length = d := by rw [← hl]; simp [pks]
  have htm : ∀ x ∈ pks P [] c, x ∈ P := pks_in fun q hq => by
    obtain ⟨i, hi, rfl⟩ := List.mem_iff_getElem.1 hq
    have := (chosen_mem d P.length c hc).1 i (by omega)
    simpa [hi] using this
  obtain ⟨σ, hσ, hnb, hre⟩ := rowT_form htl (Option.mem_toList.1 hr)
  have hal := norm_len hnb
  have hbd := norm_12 (diff_mx12 (fun x hx => hP x (htm x hx)) h1 (by omega)) h4
  have h0 : (pks P [] c).getD 0 [] ∈ P := htm _ (by simp [show 0 < (pks P [] c).length by omega])
  have hd := dotL_bdC (X := 6) hbd (x := (pks P [] c).getD 0 []) (fun z hz => by have := (hP _ h0).2 z hz; omega)
  have e : r.getD d 0 = σ * dotL (normL d (diffL (pks P [] c))) ((pks P [] c).getD 0 []) := by
    rw [hre]
    have := V_map (normL d (diffL (pks P [] c)) ++ [dotL (normL d (diffL (pks P [] c))) ((pks P [] c).getD 0 [])]) σ d
    simp only [V] at this
    rw [this, (row_app hal).2.2.1]
  rw [hal] at hd
  rw [e, Int.natAbs_mul]
  have h5 : d * (10368 * 6) ≤ 4 * (10368 * 6) := Nat.mul_le_mul_right _ h4
  generalize dotL (normL d (diffL (pks P [] c))) ((pks P [] c).getD 0 []) = q at *
  rcases hσ with rfl | rfl <;> simp <;> omega

theorem rowsD_bd {d : Nat} {P : List (List Int)} (hP : Box d 6 P) (h1 : 1 ≤ d) (h4 : d ≤ 4) {r : List Int} (hr : r ∈ rowsD P d) {i : Nat} (hi : i < d) : (r.getD i 0).natAbs ≤ 10368 := by
  have h := rowsD_12 hP h1 h4 hr
  have hl := (rowsD_facts (box_up hP) h1 (by omega) r hr).len
  refine h _ ?_
  have e : r.getD i 0 = (r.take d).getD i 0 := by simp only [List.getD_eq_getElem?_getD]; rw [List.getElem?_take_of_lt hi]
  rw [e]
  exact getD_mem (by rw [List.length_take]; omega)

/-- What is held, of a polytope of small numbers. -/
theorem pfd_of {d k : Nat} {P s : List (List Int)} (hg : Good d P) (hP : Box d 6 P) (h16 : P.length ≤ 16) (hk : k ≤ 10) (hs : SAsc s) (hm : ∀ r, r ∈ s ↔ r ∈ rowsD P d) : Pfd d k P s := by
  have h1 := hg.d1
  have h4 := hg.d4
  have hn := hg.n2
  have hT := fun i (hi : i < d) => T_bd hP (by omega) hi P.length (Nat.le_refl _)
  refine ⟨h1, h4, by omega, by omega, fun x hx => (hP x hx).1, fun r hr => (rowsD_facts (box_up hP) h1 (by omega) r ((hm r).1 hr)).len, fun r hr => (rowsD_facts (box_up hP) h1 (by omega) r ((hm r).1 hr)).bd, fun r hr => Nat.le_trans (rowsD_end hP h1 h4 ((hm r).1 hr)) (by decide), fun i hi => ?_, fun i hi => ?_, hk, Nat.le_trans (rowsD_len h4 h16 hs hm) (by decide)⟩
  · have := hT i hi
    rw [Int.natAbs_mul]
    exact Nat.le_trans (Nat.mul_le_mul (show (loT P i P.length).natAbs ≤ 6 by omega) (show (k : Int).natAbs ≤ 10 by omega)) (by decide)
  · have := hT i hi
    rw [Int.natAbs_mul]
    exact Nat.le_trans (Nat.mul_le_mul (show (hiT P i P.length).natAbs ≤ 6 by omega) (show (k : Int).natAbs ≤ 10 by omega)) (by decide)

theorem fld_of {d k : Nat} {P s : List (List Int)} (hg : Good d P) (hP : Box d 6 P) (h16 : P.length ≤ 16) (hk : k ≤ 10) (hs : SAsc s) (hm : ∀ r, r ∈ s ↔ r ∈ rowsD P d) : Fld d s (loL P d) (hiL P d) k := by
  have h1 := hg.d1
  have h4 := hg.d4
  have hn := hg.n2
  have hT := fun i (hi : i < d) => T_bd hP (by omega) hi P.length (Nat.le_refl _)
  refine ⟨fun r hr => (rowsD_facts (box_up hP) h1 (by omega) r ((hm r).1 hr)).len, fun r hr i hi => Nat.le_trans (rowsD_bd hP h1 h4 ((hm r).1 hr) hi) (by decide), by simp [loL], by simp [hiL], fun i hi => ?_, fun i hi => ?_, hk, Nat.le_trans (rowsD_len h4 h16 hs hm) (by decide)⟩
  · have := hT i hi
    rw [loL_get hi]
    omega
  · have := hT i hi
    rw [hiL_get hi]
    omega

/-- Boxes of small polytopes are small. -/
theorem bx_le {d k : Nat} {P : List (List Int)} (hP : Box d 3 P) (h1 : 1 ≤ P.length) (hk : k ≤ 4) : ∀ i, i ≤ d → 1 ≤ bx k (loL P d) (hiL P d) i ∧ bx k (loL P d) (hiL P d) i ≤ 25 ^ i
  | 0, _ => by simp [bx]
  | i + 1, hi => by
    have ih := bx_le hP h1 hk i (by omega)
    have hT := T_bd hP h1 (c := i) (by omega) P.length (Nat.le_refl _)
    have e : bx k (loL P d) (hiL P d) (i + 1) = bx k (loL P d) (hiL P d) i * ((k : Int) * (hiT P i P.length - loT P i P.length) + 1) := by
      show bx k (loL P d) (hiL P d) i * ((k : Int) * ((hiL P d).getD i 0 - (loL P d).getD i 0) + 1) = _
      rw [loL_get (by omega), hiL_get (by omega)]
    rw [e, Int.pow_succ]
    have hf0 : 0 ≤ (k : Int) * (hiT P i P.length - loT P i P.length) := Int.mul_nonneg (by omega) (by omega)
    have hf1 : (k : Int) * (hiT P i P.length - loT P i P.length) ≤ 4 * 6 := Int.mul_le_mul (by omega) (by omega) (by omega) (by omega)
    generalize (k : Int) * (hiT P i P.length - loT P i P.length) = f at *
    generalize bx k (loL P d) (hiL P d) i = q at *
    constructor
    · have := Int.mul_le_mul ih.1 (show (1 : Int) ≤ f + 1 by omega) (by omega) (by omega)
      omega
    · exact Int.mul_le_mul ih.2 (by omega) (by omega) (Int.pow_nonneg (by decide))

theorem bx_le3 {d k : Nat} {P : List (List Int)} (hP : Box d 3 P) (h1 : 1 ≤ P.length) (hk : k ≤ 4) (hd : d ≤ 3) (i : Nat) (hi : i ≤ d) : 1 ≤ bx k (loL P d) (hiL P d) i ∧ bx k (loL P d) (hiL P d) i ≤ 15625 := by
  have h := bx_le hP h1 hk i hi
  refine ⟨h.1, Int.le_trans h.2 ?_⟩
  have : i = 0 ∨ i = 1 ∨ i = 2 ∨ i = 3 := by omega
  rcases this with rfl | rfl | rfl | rfl <;> decide

set_option maxRecDepth 100000 in
theorem placesAll_any (d k : Nat) (P s : List (List Int)) (v : Value) (w : World) (hv : Mat w.heap.size 22 3 w v P) (hg : Good d P) (hP : Box d 6 P) (h16 : P.length ≤ 16) (hk : k ≤ 10) (hs : SAsc s) (hm : ∀ r, r ∈ s ↔ r ∈ rowsD P d) :
    Calls Tryz.prog 10 #[v, .int .i64 k] w fun e w' => e = .returned (.tuple #[.int .i64 (plA k d P s d []), .int .i64 (plI k d P s d [])]) ∧ Below w.heap.size w w' := by
  have HRO : Hid (Calls Tryz.prog 24 #[v] w fun e w' => ∃ x, e = .returned x ∧ (Mat w'.heap.size 22 3 w' x s ∧ Below w.heap.size w w')) := by
    refine (rowsOf_any w.heap.size d P v w hv hg.d1 hg.d4 (by have := hg.n2; omega) h16 (box_up hP)).mono ?_
    rintro e w' ⟨x, s', rfl, h1, h2, h3, h4⟩
    have e1 : s' = s := sasc_ext s' s h2 hs fun r => by rw [h3 r, hm r]
    subst e1
    exact ⟨x, rfl, h1.rws.mat h4.size, h4⟩
  have HPL : Hid (∀ x W, Below w.heap.size w W → Mat W.heap.size 22 3 W x s → Calls Tryz.prog 23 #[x, v, .int .i64 k, .slice none 0 0] W fun e w' => e = .returned (.tuple #[.int .i64 (plA k d P s d []), .int .i64 (plI k d P s d [])]) ∧ Below W.heap.size W w') := fun x W hW hx =>
    placesD_any d k P s v x (pfd_of hg hP h16 hk hs hm) d [] (by simp) (.slice none 0 0) W hx ((hv.below hW (Nat.le_refl _)).any (Nat.le_refl _)) (Sl.nil _ _ _) (fun z hz => by simp at hz)
  generalize plA k d P s d [] = pa at *
  generalize plI k d P s d [] = pi at *
  clear hv
  go_enter Tryz.func10, Tryz.ntmps10
  go_wp2_with fail
  refine HRO.out.mono ?_
  rintro e w1 ⟨x, rfl, hx⟩
  have HX : Hid (Mat w1.heap.size 22 3 w1 x s ∧ Below w.heap.size w w1) := hx
  clear hx HRO
  go_wp2_with fail
  refine (HPL.out x w1 HX.out.2 HX.out.1).mono ?_
  rintro e w2 ⟨rfl, hb⟩
  have HB : Hid (Below w.heap.size w w2) := HX.out.2.trans (hb.mono HX.out.2.size)
  clear hb
  go_wp2
  go_ret2
  exact ⟨rfl, HB.out⟩

end Go.Proofs.YtobcdcmmeabecaaGreat

/- The document's answer: what may be counted; the law's own look; the first counts. -/
namespace Go.Proofs.YtobcdcmmeabecaaGreat
open Go.RowKit
attribute [local go_sem ↓] Go.wp_at_zero Go.wp_at_succ

/-- What is held of a polytope of small numbers, at a place of memory. -/
structure Sml (d : Nat) (P : List (List Int)) : Prop where
  good : Good d P
  box : Box d 3 P
  d3 : d ≤ 3
  n16 : P.length ≤ 16

theorem Sml.box6 {d : Nat} {P : List (List Int)} (h : Sml d P) : Box d 6 P := fun r hr => ⟨(h.box r hr).1, fun z hz => by have := (h.box r hr).2 z hz; omega⟩

theorem boxS_any {d k : Nat} {P : List (List Int)} (h : Sml d P) (hk : k ≤ 4) (B : Nat) (v : Value) (w : World) (hv : Mat B 22 3 w v P) :
    Calls Tryz.prog 22 #[v, .int .i64 k] w fun e w' => e = .returned (.int .i64 (bx k (loL P d) (hiL P d) d)) ∧ w' = w := by
  have hn := h.good.n2
  refine boxD_any B d k P v w hv (by omega) (by have := h.n16; omega) (fun x hx => (h.box x hx).1) (by have := h.d3; omega) (by omega) (fun i hi => ?_) (fun i hi => ?_)
  · have := T_bd h.box (by omega) hi P.length (Nat.le_refl _)
    omega
  · have := bx_le3 h.box (by omega) hk h.d3 i hi
    omega

set_option maxRecDepth 100000 in
set_option maxHeartbeats 800000 in
theorem countMay_any (d k least : Nat) (P : List (List Int)) (v : Value) (w : World) (hv : Mat w.heap.size 22 3 w v P) (h : Sml d P) (hk : k ≤ 4) :
    Calls Tryz.prog 9 #[.agg #[.int .i64 d, v], .int .i64 k, .int .i64 least] w fun e w' => e = .returned (.int .i64 (if k < least then 9 else 0)) ∧ Below w.heap.size w w' := by
  have hn := h.good.n2
  obtain ⟨b, o, cap, r1, hvv, hlc, _, _⟩ := mat_cell hv (k := 0) (by omega)
  obtain ⟨vl, hvl⟩ : ∃ vl, vl = P.length := ⟨_, rfl⟩
  rw [← hvl] at hvv
  clear hvl
  subst hvv
  obtain ⟨W, hW⟩ : ∃ W, W = w.alloc (.cells #[.int .i64 d, .slice (some ⟨b, o, none⟩) vl cap] 27) := ⟨_, rfl⟩
  have hbw : Below w.heap.size w W := by rw [hW]; exact (Below.refl _ _).alloc (Nat.le_refl _) _
  have HW : Hid (Below w.heap.size w W) := hbw
  have hsW : W.heap.size = w.heap.size + 1 := by rw [hW]; simp
  have HSW : Hid (w.heap.size ≤ W.heap.size) := by show _ ≤ _; omega
  have c1 : W.cell? ⟨w.heap.size, 1, none⟩ = some (.slice (some ⟨b, o, none⟩) vl cap) := by rw [hW]; simp
  have HMA : Hid (Calls Tryz.prog 14 #[.agg #[.int .i64 d, .slice (some ⟨b, o, none⟩) vl cap]] W fun e w' => e = .returned (.int .i64 0) ∧ (Below w.heap.size w w' ∧ w'.cell? ⟨w.heap.size, 1, none⟩ = some (.slice (some ⟨b, o, none⟩) vl cap))) :=
    (hullMay_ok d P _ W ((hv.below hbw (Nat.le_refl _)).any (Nat.le_refl _)) h.good).mono fun e w' ⟨e1, e2⟩ => ⟨e1, hbw.trans (e2.mono (by omega)), (e2.cell (lt_of_cell c1)).trans c1⟩
  have HBX : Hid (∀ W', Below w.heap.size w W' → Calls Tryz.prog 22 #[.slice (some ⟨b, o, none⟩) vl cap, .int .i64 k] W' fun e w' => e = .returned (.int .i64 (bx k (loL P d) (hiL P d) d)) ∧ w' = W') := fun W' hW' => boxS_any h hk w.heap.size _ W' (hv.below hW' (Nat.le_refl _))
  have hbb := bx_le3 h.box (by omega) hk h.d3 d (Nat.le_refl _)
  generalize bx k (loL P d) (hiL P d) d = bb at *
  have hb1 : ¬ (200000 : Int) < bb := by omega
  have hk6 : ¬ (6 : Int) < (k : Int) := by omega
  clear hv hbw hsW c1 hbb
  by_cases hkl : k < least
  · have t1 : (k : Int) < (least : Int) := by omega
    rw [if_pos hkl]
    go_enter Tryz.func9, Tryz.ntmps9
    go_wp2_with fail
    rw [← hW]
    clear hW
    refine HMA.out.mono ?_
    rintro e w1 ⟨rfl, hb1'⟩
    have HB1 : Hid (Below w.heap.size w w1) := hb1'.1
    clear hb1'
    go_wp2
    go_ret
    exact ⟨rfl, HB1.out⟩
  · have t1 : ¬ (k : Int) < (least : Int) := by omega
    rw [if_neg hkl]
    go_enter Tryz.func9, Tryz.ntmps9
    go_wp2_with fail
    rw [← hW]
    clear hW
    refine HMA.out.mono ?_
    rintro e w1 ⟨rfl, hb1'⟩
    have HB1 : Hid (Below w.heap.size w w1) := hb1'.1
    have c2 := hb1'.2
    clear hb1'
    go_wp2_with fail
    refine (HBX.out w1 HB1.out).mono ?_
    rintro e w2 ⟨rfl, rfl⟩
    go_wp2
    go_ret
    exact ⟨rfl, HB1.out⟩

set_option maxRecDepth 100000 in
set_option maxHeartbeats 800000 in
theorem few_any (d k : Nat) (P : List (List Int)) (v : Value) (w : World) (hv : Mat w.heap.size 22 3 w v P) (h : Sml d P) (hk : k ≤ 4) :
    Calls Tryz.prog 8 #[.agg #[.int .i64 d, v], .int .i64 k] w fun e w' => ∃ q, e = .returned (.bool q) ∧ Below w.heap.size w w' := by
  have hn := h.good.n2
  obtain ⟨b, o, cap, r1, hvv, hlc, _, _⟩ := mat_cell hv (k := 0) (by omega)
  obtain ⟨vl, hvl⟩ : ∃ vl, vl = P.length := ⟨_, rfl⟩
  rw [← hvl] at hvv
  clear hvl
  subst hvv
  obtain ⟨W, hW⟩ : ∃ W, W = w.alloc (.cells #[.int .i64 d, .slice (some ⟨b, o, none⟩) vl cap] 27) := ⟨_, rfl⟩
  have hbw : Below w.heap.size w W := by rw [hW]; exact (Below.refl _ _).alloc (Nat.le_refl _) _
  have HW : Hid (Below w.heap.size w W) := hbw
  have hsW : W.heap.size = w.heap.size + 1 := by rw [hW]; simp
  have c1 : W.cell? ⟨w.heap.size, 1, none⟩ = some (.slice (some ⟨b, o, none⟩) vl cap) := by rw [hW]; simp
  have HMA : Hid (Calls Tryz.prog 14 #[.agg #[.int .i64 d, .slice (some ⟨b, o, none⟩) vl cap]] W fun e w' => e = .returned (.int .i64 0) ∧ (Below w.heap.size w w' ∧ w'.cell? ⟨w.heap.size, 1, none⟩ = some (.slice (some ⟨b, o, none⟩) vl cap))) :=
    (hullMay_ok d P _ W ((hv.below hbw (Nat.le_refl _)).any (Nat.le_refl _)) h.good).mono fun e w' ⟨e1, e2⟩ => ⟨e1, hbw.trans (e2.mono (by omega)), (e2.cell (lt_of_cell c1)).trans c1⟩
  have HBX : Hid (∀ W', Below w.heap.size w W' → Calls Tryz.prog 22 #[.slice (some ⟨b, o, none⟩) vl cap, .int .i64 k] W' fun e w' => e = .returned (.int .i64 (bx k (loL P d) (hiL P d) d)) ∧ w' = W') := fun W' hW' => boxS_any h hk w.heap.size _ W' (hv.below hW' (Nat.le_refl _))
  generalize bx k (loL P d) (hiL P d) d = bb at *
  have hk6 : ¬ (6 : Int) < (k : Int) := by omega
  clear hv hbw hsW c1
  by_cases hk0 : (k : Int) ≤ 0
  · go_enter Tryz.func8, Tryz.ntmps8
    go_wp2
    rw [← hW]
    clear hW
    go_ret
    refine ⟨?_, HW.out⟩
    first | exact Or.inr rfl | exact Or.inl rfl | exact ⟨_, rfl⟩
  · by_cases hb3 : bb ≤ 3000
    · go_enter Tryz.func8, Tryz.ntmps8
      go_wp2_with fail
      rw [← hW]
      clear hW
      refine HMA.out.mono ?_
      rintro e w1 ⟨rfl, hb1'⟩
      have HB1 : Hid (Below w.heap.size w w1) := hb1'.1
      have c2 := hb1'.2
      clear hb1'
      go_wp2_with fail
      refine (HBX.out w1 HB1.out).mono ?_
      rintro e w2 ⟨rfl, rfl⟩
      go_wp2
      go_ret
      exact ⟨_, rfl, HB1.out⟩
    · go_enter Tryz.func8, Tryz.ntmps8
      go_wp2_with fail
      rw [← hW]
      clear hW
      refine HMA.out.mono ?_
      rintro e w1 ⟨rfl, hb1'⟩
      have HB1 : Hid (Below w.heap.size w w1) := hb1'.1
      have c2 := hb1'.2
      clear hb1'
      go_wp2_with fail
      refine (HBX.out w1 HB1.out).mono ?_
      rintro e w2 ⟨rfl, rfl⟩
      go_wp2_with fail
      refine (HBX.out w2 HB1.out).mono ?_
      rintro e w3 ⟨rfl, rfl⟩
      go_wp2
      go_ret
      exact ⟨_, rfl, HB1.out⟩

end Go.Proofs.YtobcdcmmeabecaaGreat
