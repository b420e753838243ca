import Derived.Test.YtobcdcmmeabecaaGreatCtA
import Derived.Test.YtobcdcmmeabecaaGreatBetY
import Derived.Test.YtobcdcmmeabecaaGreatRowB
import Derived.Test.YtobcdcmmeabecaaGreatHmA
import Derived.Test.YtobcdcmmeabecaaGreatHmB
/- The program: all directions' numbers, one behind the other. -/
namespace Go.Proofs.YtobcdcmmeabecaaGreat
open Go.RowKit
attribute [local go_sem ↓] Go.wp_at_zero Go.wp_at_succ

/-- What each row has left behind a number of one direction. -/
def lef (rows : List (List Int)) (rooms : List Int) (dir : Nat) (v : Int) : List Int := (List.range rows.length).map fun j => rooms.getD j 0 - (rows.getD j []).getD dir 0 * v

theorem lef_len (rows : List (List Int)) (rooms : List Int) (dir : Nat) (v : Int) : (lef rows rooms dir v).length = rows.length := by simp [lef]

theorem lef_get (rows : List (List Int)) (rooms : List Int) (dir : Nat) (v : Int) (j : Nat) (hj : j < rows.length) : (lef rows rooms dir v).getD j 0 = rooms.getD j 0 - (rows.getD j []).getD dir 0 * v := by simp [lef, hj]

/-- The program's count. -/
def thr (k : Nat) (lo hi : List Int) (rows : List (List Int)) : Nat → Nat → List Int → Int
  | 0, dir, rooms => (endsOf ⟨lok k lo dir, lok k hi dir, true⟩ (prs rows rooms dir)).cnt
  | rem + 1, dir, rooms => isum (irange (lok k lo dir) (lok k hi dir)) fun v => thr k lo hi rows rem (dir + 1) (lef rows rooms dir v)

theorem irange_len (a b : Int) : (irange a b).length = (b - a + 1).toNat := by simp [irange]

theorem irange_get (a b : Int) (i : Nat) (h : i < (b - a + 1).toNat) : (irange a b).getD i 0 = a + i := by simp [irange, h]

theorem isum_bd {f : Int → Int} {B : Int} : ∀ l : List Int, (∀ v ∈ l, 0 ≤ f v ∧ f v ≤ B) → 0 ≤ isum l f ∧ isum l f ≤ l.length * B
  | [], _ => by simp [isum]
  | a :: l, h => by
    have ih := isum_bd l fun v hv => h v (List.mem_cons_of_mem _ hv)
    have ha := h a (by simp)
    have e : isum (a :: l) f = f a + isum l f := by simp [isum]
    rw [e]
    have e2 : ((a :: l).length : Int) * B = B + l.length * B := by simp; grind
    rw [e2]
    omega

theorem cnt_bd (e : Ends) {n : Int} (h0 : 0 ≤ n) (h : e.to - e.fr + 1 ≤ n) : 0 ≤ e.cnt ∧ e.cnt ≤ n := by
  unfold Ends.cnt
  split <;> omega

theorem thr_bd {d k : Nat} {lo hi : List Int} {rows : List (List Int)} (hf : Fld d rows lo hi k) : ∀ (rem dir : Nat) (rooms : List Int), dir + rem + 1 = d → 0 ≤ thr k lo hi rows rem dir rooms ∧ thr k lo hi rows rem dir rooms ≤ 20001 ^ (rem + 1)
  | 0, dir, rooms, hd => by
    have h1 := lok_bd hf.kb (hf.lob dir (by omega))
    have h2 := lok_bd hf.kb (hf.hib dir (by omega))
    have h3 := endsOf_in (prs rows rooms dir) ⟨lok k lo dir, lok k hi dir, true⟩
    have h4 : lok k lo dir ≤ (endsOf ⟨lok k lo dir, lok k hi dir, true⟩ (prs rows rooms dir)).fr := h3.1
    have h5 : (endsOf ⟨lok k lo dir, lok k hi dir, true⟩ (prs rows rooms dir)).to ≤ lok k hi dir := h3.2.1
    have := cnt_bd (endsOf ⟨lok k lo dir, lok k hi dir, true⟩ (prs rows rooms dir)) (n := 20001) (by decide) (by omega)
    simpa [thr] using this
  | rem + 1, dir, rooms, hd => by
    have h1 := lok_bd hf.kb (hf.lob dir (by omega))
    have h2 := lok_bd hf.kb (hf.hib dir (by omega))
    have h := isum_bd (f := fun v => thr k lo hi rows rem (dir + 1) (lef rows rooms dir v)) (B := 20001 ^ (rem + 1)) (irange (lok k lo dir) (lok k hi dir)) (fun v _ => thr_bd hf rem (dir + 1) _ (by omega))
    have e : thr k lo hi rows (rem + 1) dir rooms = isum (irange (lok k lo dir) (lok k hi dir)) fun v => thr k lo hi rows rem (dir + 1) (lef rows rooms dir v) := rfl
    rw [e]
    refine ⟨h.1, Int.le_trans h.2 ?_⟩
    have hl : ((irange (lok k lo dir) (lok k hi dir)).length : Int) ≤ 20001 := by rw [irange_len]; omega
    have hp : (0 : Int) ≤ 20001 ^ (rem + 1) := Int.pow_nonneg (by decide)
    have := Int.mul_le_mul_of_nonneg_right hl hp
    rw [Int.pow_succ 20001 (rem + 1), Int.mul_comm (20001 ^ (rem + 1))]
    exact this

theorem thr_small {d k : Nat} {lo hi : List Int} {rows : List (List Int)} (hf : Fld d rows lo hi k) (hd4 : d ≤ 4) (rem dir : Nat) (rooms : List Int) (hd : dir + rem + 1 = d) : 0 ≤ thr k lo hi rows rem dir rooms ∧ thr k lo hi rows rem dir rooms ≤ 200000000000000000 := by
  have h := thr_bd hf rem dir rooms hd
  refine ⟨h.1, Int.le_trans h.2 ?_⟩
  have : rem = 0 ∨ rem = 1 ∨ rem = 2 ∨ rem = 3 := by omega
  rcases this with rfl | rfl | rfl | rfl <;> decide

theorem isum_take_le {l : List Int} {f : Int → Int} (h : ∀ v, 0 ≤ f v) (q : Nat) : 0 ≤ isum (l.take q) f ∧ isum (l.take q) f ≤ isum l f := by
  have nn : ∀ l : List Int, 0 ≤ isum l f := by
    intro l
    induction l with
    | nil => simp [isum]
    | cons a l ih =>
      have e : isum (a :: l) f = f a + isum l f := by simp [isum]
      rw [e]
      have := h a
      omega
  refine ⟨nn _, ?_⟩
  have e : isum l f = isum (l.take q) f + isum (l.drop q) f := by
    unfold isum
    rw [← List.sum_append, ← List.map_append, List.take_append_drop]
  rw [e]
  have := nn (l.drop q)
  omega

theorem isum_take_succ (l : List Int) (f : Int → Int) (i : Nat) (h : i < l.length) : isum (l.take (i + 1)) f = isum (l.take i) f + f (l.getD i 0) := by
  unfold isum
  rw [List.take_succ_eq_append_getElem h, List.map_append, List.sum_append]
  simp [h]

set_option maxRecDepth 100000 in
set_option maxHeartbeats 1600000 in
theorem through_any (d k : Nat) (rows : List (List Int)) (lo hi : List Int) (rv lv mv : Value) (hf : Fld d rows lo hi k) (hd4 : d ≤ 4) : ∀ (rem dir : Nat), dir + rem + 1 = d → ∀ (rooms : List Int) (ov : Value) (w : World),
    Mat w.heap.size 22 3 w rv rows → Sl w.heap.size 3 w lv (ints lo) → Sl w.heap.size 3 w mv (ints hi) → Sl w.heap.size 3 w ov (ints rooms) → rooms.length = rows.length → (∀ z ∈ rooms, z.natAbs ≤ 100000000000 + dir * 10000000000) →
    Calls Tryz.prog 50 #[.agg #[rv, lv, mv], .int .i64 k, .int .i64 dir, ov] w fun e w' => e = .returned (.int .i64 (thr k lo hi rows rem dir rooms)) ∧ Below w.heap.size w w' := by
  intro rem
  induction rem with
  | zero =>
    intro dir hd rooms ov w hr hl hm ho hrl hrb
    have HAL : Hid (∀ W, Below w.heap.size w W → Calls Tryz.prog 61 #[.agg #[rv, lv, mv], .int .i64 k, .int .i64 dir, ov] W fun e w' => e = .returned (.int .i64 (thr k lo hi rows 0 dir rooms)) ∧ Below w.heap.size w w') := fun W hW =>
      (along_any w.heap.size d dir k rows lo hi rooms rv lv mv ov W (hr.below hW (Nat.le_refl _)) (hl.below hW (Nat.le_refl _)) (hm.below hW (Nat.le_refl _)) (ho.below hW (Nat.le_refl _)) hf (by omega) hrl (fun z hz => by have := hrb z hz; omega)).mono fun e w' ⟨e1, e2⟩ => ⟨e1, hW.trans (e2.mono hW.size)⟩
    obtain ⟨ro, rc, hrv, hrc1, hrc2⟩ := mat_open hr
    obtain ⟨lo', lc, hlv, _, _⟩ := sl_open hl
    obtain ⟨mo, mc, hmv, _, _⟩ := sl_open hm
    obtain ⟨oo, oc, hov, _, _⟩ := sl_open ho
    rw [hf.lol] at hlv
    rw [hf.hil] at hmv
    rw [hrl] at hov
    subst hrv hlv hmv hov
    obtain ⟨W, hW⟩ : ∃ W, W = w.alloc (.cells #[.slice ro rows.length rc, .slice lo' d lc, .slice mo d mc] 51) := ⟨_, rfl⟩
    have hbw : Below w.heap.size w W := by rw [hW]; exact (Below.refl _ _).alloc (Nat.le_refl _) _
    have HW : Hid (Below w.heap.size w W) := hbw
    have hde : ((dir : Int) == (d : Int) - 1) = true := by simp; omega
    generalize thr k lo hi rows 0 dir rooms = R at *
    clear hr hl hm ho hrl hrb hd hbw
    go_enter Tryz.func50, Tryz.ntmps50
    go_wp2_with fail
    rw [← hW]
    clear hW
    refine (HAL.out W HW.out).mono ?_
    rintro e w2 ⟨rfl, hb2⟩
    have HB2 : Hid (Below w.heap.size w w2) := hb2
    clear hb2
    go_wp2
    go_ret
    exact ⟨rfl, HB2.out⟩
  | succ rem ih =>
    intro dir hd rooms ov w hr hl hm ho hrl hrb
    have hdir : dir < d := by omega
    have HIH : Hid (∀ (rooms' : List Int) (ov' : Value) (W : World), Mat W.heap.size 22 3 W rv rows → Sl W.heap.size 3 W lv (ints lo) → Sl W.heap.size 3 W mv (ints hi) → Sl W.heap.size 3 W ov' (ints rooms') → rooms'.length = rows.length → (∀ z ∈ rooms', z.natAbs ≤ 100000000000 + (dir + 1) * 10000000000) → Calls Tryz.prog 50 #[.agg #[rv, lv, mv], .int .i64 k, .int .i64 ((dir + 1 : Nat) : Int), ov'] W fun e w' => e = .returned (.int .i64 (thr k lo hi rows rem (dir + 1) rooms')) ∧ Below W.heap.size W w') := fun rooms' ov' W => ih (dir + 1) (by omega) rooms' ov' W
    have HTS : Hid (∀ rooms', 0 ≤ thr k lo hi rows rem (dir + 1) rooms' ∧ thr k lo hi rows rem (dir + 1) rooms' ≤ 200000000000000000) := fun rooms' => thr_small hf hd4 rem (dir + 1) rooms' (by omega)
    have HTE : Hid (thr k lo hi rows (rem + 1) dir rooms = isum (irange (lok k lo dir) (lok k hi dir)) fun v => thr k lo hi rows rem (dir + 1) (lef rows rooms dir v)) := rfl
    have HTB : Hid (0 ≤ thr k lo hi rows (rem + 1) dir rooms ∧ thr k lo hi rows (rem + 1) dir rooms ≤ 200000000000000000) := thr_small hf hd4 (rem + 1) dir rooms hd
    have HF : Hid (Fld d rows lo hi k) := hf
    have HRL : Hid (rooms.length = rows.length) := hrl
    have HRB : Hid (∀ z ∈ rooms, z.natAbs ≤ 100000000000 + dir * 10000000000) := hrb
    clear ih
    obtain ⟨ro, rc, hrv, hrc1, hrc2⟩ := mat_open hr
    obtain ⟨lo', lc, hlv, _, _⟩ := sl_open hl
    obtain ⟨mo, mc, hmv, _, _⟩ := sl_open hm
    obtain ⟨oo, oc, hov, _, _⟩ := sl_open ho
    rw [hf.lol] at hlv
    rw [hf.hil] at hmv
    rw [hrl] at hov
    subst hrv hlv hmv hov
    obtain ⟨W, hW⟩ : ∃ W, W = w.alloc (.cells #[.slice ro rows.length rc, .slice lo' d lc, .slice mo d mc] 51) := ⟨_, rfl⟩
    have hbw : Below w.heap.size w W := by rw [hW]; exact (Below.refl _ _).alloc (Nat.le_refl _) _
    have HW : Hid (Below w.heap.size w W) := hbw
    have c0 : W.cell? ⟨w.heap.size, 0, none⟩ = some (.slice ro rows.length rc) := by rw [hW]; simp
    have c1 : W.cell? ⟨w.heap.size, 1, none⟩ = some (.slice lo' d lc) := by rw [hW]; simp
    have c2 : W.cell? ⟨w.heap.size, 2, none⟩ = some (.slice mo d mc) := by rw [hW]; simp
    have HR : Hid (Mat W.heap.size 22 3 W (.slice ro rows.length rc) rows) := (hr.below hbw (Nat.le_refl _)).any (Nat.le_refl _)
    have HL : Hid (Sl W.heap.size 3 W (.slice lo' d lc) (ints lo)) := (hl.below hbw (Nat.le_refl _)).any (Nat.le_refl _)
    have HM : Hid (Sl W.heap.size 3 W (.slice mo d mc) (ints hi)) := (hm.below hbw (Nat.le_refl _)).any (Nat.le_refl _)
    have HO : Hid (Sl W.heap.size 3 W (.slice oo rows.length oc) (ints rooms)) := (ho.below hbw (Nat.le_refl _)).any (Nat.le_refl _)
    obtain ⟨lb, lx, lc2, hs1, _, l1⟩ := sl_cell HL.out (k := dir) (by rw [hf.lol]; exact hdir)
    simp only [Value.slice.injEq] at hs1
    obtain ⟨rfl, hxx, rfl⟩ := hs1
    clear hxx
    obtain ⟨mb, mx, mc2, hs2, _, m1⟩ := sl_cell HM.out (k := dir) (by rw [hf.hil]; exact hdir)
    simp only [Value.slice.injEq] at hs2
    obtain ⟨rfl, hxx, rfl⟩ := hs2
    clear hxx
    have hlb := lok_bd hf.kb (hf.lob dir hdir)
    have hmb := lok_bd hf.kb (hf.hib dir hdir)
    have hlw : wrap64 ((k : Int) * lo.getD dir 0) = lok k lo dir := by unfold lok at hlb ⊢; exact IntWalk.wrap64_in _ ⟨by omega, by omega⟩
    have hmw : wrap64 ((k : Int) * hi.getD dir 0) = lok k hi dir := by unfold lok at hmb ⊢; exact IntWalk.wrap64_in _ ⟨by omega, by omega⟩
    generalize lok k lo dir = L at *
    generalize lok k hi dir = M at *
    generalize lo.getD dir 0 = lo0 at *
    generalize hi.getD dir 0 = hi0 at *
    generalize thr k lo hi rows (rem + 1) dir rooms = TT at *
    have hdI : (dir : Int) < (d : Int) := by omega
    have hdI0 : (0 : Int) ≤ (dir : Int) := by omega
    have hde : ((dir : Int) == (d : Int) - 1) = false := by simp; omega
    obtain ⟨m, hme⟩ : ∃ m, m = rows.length := ⟨_, rfl⟩
    have HME : Hid (m = rows.length) := hme
    have hm2 : m ≤ 20000000 := by rw [hme]; exact hf.nr
    have HKC : Hid (∀ W', Below W.heap.size W W' → W'.cell? ⟨w.heap.size, 0, none⟩ = some (.slice ro m rc) ∧ W'.cell? ⟨w.heap.size, 1, none⟩ = some (.slice (some ⟨lb, lx, none⟩) d lc) ∧ W'.cell? ⟨w.heap.size, 2, none⟩ = some (.slice (some ⟨mb, mx, none⟩) d mc)) := fun W' h => by
      rw [hme]
      exact ⟨(h.cell (lt_of_cell c0)).trans c0, (h.cell (lt_of_cell c1)).trans c1, (h.cell (lt_of_cell c2)).trans c2⟩
    have hmk := run_make_row' (P := Tryz.prog) 22 3 (.int .i64 0) 8 Tryz.underlying22 Tryz.info3 rfl .i64 .i64 m (by omega) (by omega)
    rw [← hme] at hW c0 HR HO hrc1 ⊢
    obtain ⟨N, hN⟩ : ∃ N, N = w.heap.size + 1 := ⟨_, rfl⟩
    have hNW : W.heap.size = N := by rw [hN, hW]; simp
    have HNW : Hid (W.heap.size = N) := hNW
    have HNw : Hid (N = w.heap.size + 1) := hN
    obtain ⟨Wm, hWm⟩ : ∃ Wm, Wm = W.alloc (.cells (madeCells #[.int .i64 0] m) 3) := ⟨_, rfl⟩
    have HRM : Hid (Wm.rowIs N 3 m (fun _ => .int .i64 0) ∧ Below N W Wm) := by
      rw [hWm, ← hNW]
      exact ⟨World.rowIs_made W (.int .i64 0) m 3, (Below.refl _ _).alloc (Nat.le_refl _) _⟩
    have l1w : (w.alloc (.cells #[.slice ro m rc, .slice (some ⟨lb, lx, none⟩) d lc, .slice (some ⟨mb, mx, none⟩) d mc] 51)).cell? ⟨lb, lx + dir, none⟩ = some (.int .i64 lo0) := by rw [← hW]; exact l1
    have c2w : ((w.alloc (.cells #[.slice ro m rc, .slice (some ⟨lb, lx, none⟩) d lc, .slice (some ⟨mb, mx, none⟩) d mc] 51)).alloc (.cells (madeCells #[.int .i64 0] m) 3)).cell? ⟨w.heap.size, 2, none⟩ = some (.slice (some ⟨mb, mx, none⟩) d mc) := by rw [← hW, ← hWm]; rw [← hNW] at HRM; exact (HRM.out.2.cell (lt_of_cell c2)).trans c2
    have m1w : ((w.alloc (.cells #[.slice ro m rc, .slice (some ⟨lb, lx, none⟩) d lc, .slice (some ⟨mb, mx, none⟩) d mc] 51)).alloc (.cells (madeCells #[.int .i64 0] m) 3)).cell? ⟨mb, mx + dir, none⟩ = some (.int .i64 hi0) := by rw [← hW, ← hWm]; rw [← hNW] at HRM; exact (HRM.out.2.cell (lt_of_cell m1)).trans m1
    have HLW : Hid (wrap64 ((k : Int) * lo0) = L) := hlw
    have HMW : Hid (wrap64 ((k : Int) * hi0) = M) := hmw
    clear hr hl hm ho hbw hrl hrb hme hd hNW
    go_enter Tryz.func50, Tryz.ntmps50
    go_wp2
    rw [← hW, ← hWm, ← hN]
    simp only [HLW.out, HMW.out]
    clear hW hWm hN l1w c2w m1w c0 c1 c2 l1 m1 hlw hmw hmk
    obtain ⟨n, hn⟩ : ∃ n : Nat, n = (M - L + 1).toNat := ⟨_, rfl⟩
    have hn2 : n ≤ 20001 := by omega
    have HNN : Hid (n = (M - L + 1).toNat) := hn
    obtain ⟨f, hfe⟩ : ∃ f : Int → Int, f = fun v => thr k lo hi rows rem (dir + 1) (lef rows rooms dir v) := ⟨_, rfl⟩
    have HFE : Hid (∀ v, f v = thr k lo hi rows rem (dir + 1) (lef rows rooms dir v)) := fun v => by rw [hfe]
    have HTT : Hid (TT = isum (irange L M) f) := by rw [hfe]; exact HTE.out
    have HFB : Hid (∀ q, 0 ≤ isum ((irange L M).take q) f ∧ isum ((irange L M).take q) f ≤ 200000000000000000) := fun q => by
      have h := isum_take_le (l := irange L M) (f := f) (fun v => by rw [HFE.out v]; exact (HTS.out _).1) q
      rw [← HTT.out] at h
      exact ⟨h.1, Int.le_trans h.2 HTB.out.2⟩
    clear hfe hn
    go_loopw [10, 46] (fun s i wr => ∃ (q : Nat) (F : Nat → Value), q ≤ n ∧ i = .int .i64 q ∧ s = .int .i64 (isum ((irange L M).take q) f) ∧ wr.rowIs N 3 m F ∧ Below N W wr) (fun _ i _ => n - (intOf i).toNat)
    case atStart => exact ⟨0, _, Nat.zero_le _, rfl, rfl, HRM.out.1, HRM.out.2⟩
    case round =>
      obtain ⟨q, F, hq, rfl, rfl, hrow, hbel⟩ := hrel
      rename World => wa
      have HRW : Hid (wa.rowIs N 3 m F) := hrow
      have HB : Hid (Below N W wa) := hbel
      clear hrow hbel
      by_cases hql : q < n
      · have hqI : (q : Int) < M - L + 1 := by have := HNN.out; omega
        have HSN : Hid (isum ((irange L M).take (q + 1)) f = isum ((irange L M).take q) f + f (L + q)) := by
          have h1 := HNN.out
          have h := isum_take_succ (irange L M) f q (by rw [irange_len]; omega)
          rw [irange_get L M q (by omega)] at h
          exact h
        have hsb := HFB.out q
        have hsb2 := HFB.out (q + 1)
        rw [HSN.out] at hsb2
        have HKa := HKC.out wa (by rw [HNW.out]; exact HB.out)
        have k0 := HKa.1
        clear HKa
        generalize isum ((irange L M).take q) f = Sq at *
        go_wp2
        go_loopw [52] (fun i wq => ∃ (j : Nat) (F : Nat → Value), j ≤ m ∧ i = .int .i64 j ∧ wq.rowIs N 3 m F ∧ (∀ t, t < j → F t = .int .i64 ((lef rows rooms dir (L + q)).getD t 0)) ∧ Below N W wq) (fun i _ => m - (intOf i).toNat)
        case atStart => exact ⟨0, F, Nat.zero_le _, rfl, HRW.out, fun t ht => absurd ht (by omega), HB.out⟩
        case round =>
          obtain ⟨j, F2, hj, rfl, hrow, hdone, hbel⟩ := hrel
          have HRW2 : Hid (wr.rowIs N 3 m F2) := hrow
          have HDN : Hid (∀ t, t < j → F2 t = .int .i64 ((lef rows rooms dir (L + q)).getD t 0)) := hdone
          have HB2 : Hid (Below N W wr) := hbel
          have HB2W : Hid (Below W.heap.size W wr) := by rw [HNW.out]; exact hbel
          clear hrow hdone hbel
          by_cases hjl : j < m
          · have hjr : j < rows.length := by rw [← HME.out]; exact hjl
            obtain ⟨b2, o2, cp2, rvv, hs2, _, hcc2, hr2⟩ := mat_cell (HR.out.below HB2W.out (Nat.le_refl _)) hjr
            simp only [Value.slice.injEq] at hs2
            obtain ⟨rfl, hxx, rfl⟩ := hs2
            clear hxx
            have hmem : rows.getD j [] ∈ rows := by simp [hjr]
            have hlen := HF.out.len _ hmem
            obtain ⟨b3, o3, cp3, hs3, hc3, hcc3⟩ := sl_cell hr2 (k := dir) (by rw [hlen]; omega)
            rw [hlen] at hs3
            subst hs3
            have hab := HF.out.bd _ hmem dir hdir
            have hjo : j < rooms.length := by rw [HRL.out]; exact hjr
            obtain ⟨b4, o4, cp4, hs4, _, hcc4⟩ := sl_cell (HO.out.below HB2W.out (Nat.le_refl _)) (k := j) hjo
            simp only [Value.slice.injEq] at hs4
            obtain ⟨rfl, hxx, rfl⟩ := hs4
            clear hxx
            have hRb := HRB.out (rooms.getD j 0) (by simp [hjo])
            have HLG : Hid ((lef rows rooms dir (L + q)).getD j 0 = rooms.getD j 0 - (rows.getD j []).getD dir 0 * (L + q)) := lef_get rows rooms dir (L + q) j hjr
            clear hmem hr2 hlen hjo hjr
            generalize (rows.getD j []).getD dir 0 = a at *
            generalize rooms.getD j 0 = R at *
            have hvb : (L + (q : Int)).natAbs ≤ 40000 := by omega
            have hpb : (a * (L + (q : Int))).natAbs ≤ 40000000000 := by rw [Int.natAbs_mul]; exact Nat.le_trans (Nat.mul_le_mul hab hvb) (by decide)
            have hpw : wrap64 (a * (L + (q : Int))) = a * (L + (q : Int)) := IntWalk.wrap64_in _ ⟨by omega, by omega⟩
            have hsw : wrap64 (R - a * (L + (q : Int))) = R - a * (L + (q : Int)) := IntWalk.wrap64_in _ ⟨by omega, by omega⟩
            have d3 := HRW2.out.cell (i := j) (by omega)
            have d4 := HRW2.out.frozen j
            generalize F2 j = fj at d3
            have hjI : (j : Int) < (m : Int) := by omega
            have hjI0 : (0 : Int) ≤ (j : Int) := by omega
            have hdI1 : (dir : Int) < (d : Int) + 1 := by omega
            have hdN1 : dir < d + 1 := by omega
            have hj2 : j < 20000000 := by omega
            go_wp2
            have R1 : Hid ((wr.setCell ⟨N, j, none⟩ (.int .i64 (R - a * (L + (q : Int))))).drew.rowIs N 3 m (fun t => if t = j then .int .i64 (R - a * (L + (q : Int))) else F2 t)) := (HRW2.out.set j _).drew
            have R2 : Hid (∀ t, t < j + 1 → (if t = j then Value.int .i64 (R - a * (L + (q : Int))) else F2 t) = .int .i64 ((lef rows rooms dir (L + q)).getD t 0)) := fun t ht => by
              by_cases htj : t = j
              · rw [if_pos htj, htj, HLG.out]
              · rw [if_neg htj]
                exact HDN.out t (by omega)
            have R3 : Hid (Below N W (wr.setCell ⟨N, j, none⟩ (.int .i64 (R - a * (L + (q : Int))))).drew) := Below.drew (((Touch.refl _ _).setCell j _).below HB2.out (Nat.le_refl _))
            go_region
            go_wp2
            exact ⟨⟨j + 1, _, hjl, by go_num, R1.out, R2.out, R3.out⟩, by simp [intOf]; omega⟩
          · have HLS : Hid (Sl wr.heap.size 3 wr (.slice (some ⟨N, 0, none⟩) m m) (ints (lef rows rooms dir (L + q)))) := by
              have hjm : j = m := by omega
              refine Sl.row HRW2.out (by rw [ints_length, lef_len, ← HME.out]) (by unfold maxLen; omega) (fun i hi => ?_)
              rw [ints_get _ _ (by rw [lef_len, ← HME.out]; exact hi), HDN.out i (by omega)]
            have HLB : Hid (∀ z ∈ lef rows rooms dir (L + q), z.natAbs ≤ 100000000000 + (dir + 1) * 10000000000) := fun z hz => by
              unfold lef at hz
              obtain ⟨t, ht, rfl⟩ := List.mem_map.1 hz
              have ht2 := List.mem_range.1 ht
              have h1 := HRB.out (rooms.getD t 0) (by simp [show t < rooms.length by rw [HRL.out]; exact ht2])
              have h2 := HF.out.bd _ (show rows.getD t [] ∈ rows by simp [ht2]) dir hdir
              have h3 : ((rows.getD t []).getD dir 0 * (L + (q : Int))).natAbs ≤ 10000000000 := by
                rw [Int.natAbs_mul]
                exact Nat.le_trans (Nat.mul_le_mul h2 (show (L + (q : Int)).natAbs ≤ 10000 by omega)) (by decide)
              generalize (rows.getD t []).getD dir 0 * (L + (q : Int)) = p at *
              generalize rooms.getD t 0 = R at *
              omega
            have HCA : Hid (Calls Tryz.prog 50 #[.agg #[.slice ro m rc, .slice (some ⟨lb, lx, none⟩) d lc, .slice (some ⟨mb, mx, none⟩) d mc], .int .i64 k, .int .i64 ((dir : Int) + 1), .slice (some ⟨N, 0, none⟩) m m] wr fun e w' => e = .returned (.int .i64 (f (L + q))) ∧ Below wr.heap.size wr w') := by
              rw [HFE.out]
              have h := HIH.out (lef rows rooms dir (L + q)) (.slice (some ⟨N, 0, none⟩) m m) wr
              rw [← HME.out] at h
              exact h ((HR.out.below HB2W.out (Nat.le_refl _)).any (Nat.le_refl _)) ((HL.out.below HB2W.out (Nat.le_refl _)).any (Nat.le_refl _)) ((HM.out.below HB2W.out (Nat.le_refl _)).any (Nat.le_refl _)) HLS.out (by rw [lef_len]; exact HME.out.symm) HLB.out
            have hfv : 0 ≤ f (L + q) ∧ f (L + q) ≤ 200000000000000000 := by rw [HFE.out]; exact HTS.out _
            have HKr := HKC.out wr HB2W.out
            have k0r := HKr.1
            have k1r := HKr.2.1
            have k2r := HKr.2.2
            have hfv1 := hfv.1
            have hfv2 := hfv.2
            have hsb1 := hsb2.1
            have hsb3 := hsb2.2
            have hsb4 := hsb.1
            generalize f (L + q) = fv at *
            clear HKr hfv k0 hsb2 hsb
            go_wp2_with fail
            refine HCA.out.mono ?_
            rintro e w5 ⟨rfl, hb5⟩
            have R1 : Hid (w5.rowIs N 3 m F2) := HRW2.out.of_block (hb5.block N HRW2.out.lt)
            have R2 : Hid (Below N W w5) := HB2.out.trans (hb5.mono (by have := HRW2.out.lt; omega))
            clear hb5 k0r k1r k2r HCA
            have hq2 : q < 20001 := by omega
            go_wp2
            exact ⟨⟨q + 1, F2, hql, by go_num, by rw [HSN.out], R1.out, R2.out⟩, by simp [intOf]; omega⟩
      · have HFI : Hid (isum ((irange L M).take q) f = TT) := by
          show _ = _
          rw [HTT.out, List.take_of_length_le]
          rw [irange_len]
          have := HNN.out
          omega
        have hqI : ¬ ((q : Int) < M - L + 1) := by have := HNN.out; omega
        have HBF : Hid (Below w.heap.size w wa) := HW.out.trans (HB.out.mono (by have := HNw.out; omega))
        rw [HFI.out]
        clear hq hql
        go_wp2
        go_ret
        exact ⟨rfl, HBF.out⟩

end Go.Proofs.YtobcdcmmeabecaaGreat

/- The program: how many places a box has, and how many of them keep all rows. -/
namespace Go.Proofs.YtobcdcmmeabecaaGreat
open Go.RowKit
attribute [local go_sem ↓] Go.wp_at_zero Go.wp_at_succ

/-- How many places the first i directions have. -/
def bx (k : Nat) (lo hi : List Int) : Nat → Int
  | 0 => 1
  | i + 1 => bx k lo hi i * ((k : Int) * (hi.getD i 0 - lo.getD i 0) + 1)

theorem bxf_bd {d k : Nat} {lo hi : List Int} {rows : List (List Int)} (hf : Fld d rows lo hi k) {i : Nat} (hi' : i < d) : ((k : Int) * (hi.getD i 0 - lo.getD i 0) + 1).natAbs ≤ 20001 ∧ ((k : Int) * (hi.getD i 0 - lo.getD i 0)).natAbs ≤ 20000 := by
  have h1 := hf.lob i hi'
  have h2 := hf.hib i hi'
  have h3 : ((k : Int) * (hi.getD i 0 - lo.getD i 0)).natAbs ≤ 20000 := by
    rw [Int.natAbs_mul]
    exact Nat.le_trans (Nat.mul_le_mul (show (k : Int).natAbs ≤ 10 by have := hf.kb; omega) (show (hi.getD i 0 - lo.getD i 0).natAbs ≤ 2000 by omega)) (by decide)
  omega

theorem bx_bd {d k : Nat} {lo hi : List Int} {rows : List (List Int)} (hf : Fld d rows lo hi k) : ∀ i, i ≤ d → (bx k lo hi i).natAbs ≤ 20001 ^ i
  | 0, _ => by simp [bx]
  | i + 1, h => by
    unfold bx
    rw [Int.natAbs_mul, Nat.pow_succ]
    exact Nat.mul_le_mul (bx_bd hf i (by omega)) (bxf_bd hf (by omega)).1

theorem bx_small {d k : Nat} {lo hi : List Int} {rows : List (List Int)} (hf : Fld d rows lo hi k) (hd4 : d ≤ 4) (i : Nat) (h : i ≤ d) : (bx k lo hi i).natAbs ≤ 200000000000000000 :=
  Nat.le_trans (bx_bd hf i h) (Nat.le_trans (Nat.pow_le_pow_right (by decide) (show i ≤ 4 by omega)) (by decide))

set_option maxRecDepth 100000 in
set_option maxHeartbeats 800000 in
theorem box_any (d k : Nat) (rows : List (List Int)) (lo hi : List Int) (rv lv mv : Value) (w : World) (hf : Fld d rows lo hi k) (hd4 : d ≤ 4) (hr : Mat w.heap.size 22 3 w rv rows) (hl : Sl w.heap.size 3 w lv (ints lo)) (hm : Sl w.heap.size 3 w mv (ints hi)) :
    Calls Tryz.prog 49 #[.agg #[rv, lv, mv], .int .i64 k] w fun e w' => e = .returned (.int .i64 (bx k lo hi d)) ∧ Below w.heap.size w w' := by
  obtain ⟨ro, rc, hrv, hrc1, hrc2⟩ := mat_open hr
  obtain ⟨lo', lc, hlv, _, _⟩ := sl_open hl
  obtain ⟨mo, mc, hmv, _, _⟩ := sl_open hm
  rw [hf.lol] at hlv
  rw [hf.hil] at hmv
  subst hrv hlv hmv
  have HF : Hid (Fld d rows lo hi k) := hf
  obtain ⟨W, hW⟩ : ∃ W, W = w.alloc (.cells #[.slice ro rows.length rc, .slice lo' d lc, .slice mo d mc] 51) := ⟨_, rfl⟩
  have hbw : Below w.heap.size w W := by rw [hW]; exact (Below.refl _ _).alloc (Nat.le_refl _) _
  have HW : Hid (Below w.heap.size w W) := hbw
  have c2 : W.cell? ⟨w.heap.size, 2, none⟩ = some (.slice mo d mc) := by rw [hW]; simp
  have HL : Hid (Sl w.heap.size 3 W (.slice lo' d lc) (ints lo)) := hl.below hbw (Nat.le_refl _)
  have HM : Hid (Sl w.heap.size 3 W (.slice mo d mc) (ints hi)) := hm.below hbw (Nat.le_refl _)
  clear hr hl hm hbw
  go_enter Tryz.func49, Tryz.ntmps49
  go_wp2
  rw [← hW]
  clear hW
  go_loopw [5, 11] (fun s i wr => ∃ j : Nat, j ≤ d ∧ i = .int .i64 j ∧ s = .int .i64 (bx k lo hi j) ∧ wr = W) (fun _ i _ => d - (intOf i).toNat)
  case atStart => exact ⟨0, Nat.zero_le _, rfl, rfl, rfl⟩
  case round =>
    obtain ⟨j, hj, rfl, rfl, rfl⟩ := hrel
    by_cases hjd : j < d
    · obtain ⟨lb, lx, lc2, hs1, _, l1⟩ := sl_cell HL.out (k := j) (by rw [HF.out.lol]; exact hjd)
      simp only [Value.slice.injEq] at hs1
      obtain ⟨rfl, hxx, rfl⟩ := hs1
      clear hxx
      obtain ⟨mb, mx, mc2, hs2, _, m1⟩ := sl_cell HM.out (k := j) (by rw [HF.out.hil]; exact hjd)
      simp only [Value.slice.injEq] at hs2
      obtain ⟨rfl, hxx, rfl⟩ := hs2
      clear hxx
      have hb1 := HF.out.lob j hjd
      have hb2 := HF.out.hib j hjd
      have hb3 := bxf_bd HF.out hjd
      have hb4 := bx_small HF.out hd4 (j + 1) (by omega)
      have HBE : Hid (bx k lo hi (j + 1) = bx k lo hi j * ((k : Int) * (hi.getD j 0 - lo.getD j 0) + 1)) := rfl
      rw [HBE.out] at hb4
      generalize bx k lo hi j = b0 at *
      generalize lo.getD j 0 = l0 at *
      generalize hi.getD j 0 = h0 at *
      have hw1 : wrap64 ((k : Int) * (h0 - l0)) = (k : Int) * (h0 - l0) := IntWalk.wrap64_in _ ⟨by omega, by omega⟩
      have hw2 : wrap64 ((k : Int) * (h0 - l0) + 1) = (k : Int) * (h0 - l0) + 1 := IntWalk.wrap64_in _ ⟨by omega, by omega⟩
      have hw3 : wrap64 (b0 * ((k : Int) * (h0 - l0) + 1)) = b0 * ((k : Int) * (h0 - l0) + 1) := IntWalk.wrap64_in _ ⟨by omega, by omega⟩
      have HW3 : Hid (wrap64 (b0 * ((k : Int) * (h0 - l0) + 1)) = b0 * ((k : Int) * (h0 - l0) + 1)) := hw3
      have hjI : (j : Int) < (d : Int) := by omega
      have hjI0 : (0 : Int) ≤ (j : Int) := by omega
      clear hb3 hb4
      go_wp2
      exact ⟨⟨j + 1, hjd, by go_num, by rw [HW3.out, HBE.out], trivial⟩, by simp [intOf]; omega⟩
    · obtain rfl : d = j := by omega
      clear hj hjd
      go_wp2
      go_ret
      exact ⟨rfl, HW.out⟩

/-- What each row has room for in k times the polytope. -/
def rms (k : Nat) (sp : Int) (d : Nat) (rows : List (List Int)) : List Int := rows.map fun r => (k : Int) * r.getD d 0 - sp

theorem rms_snoc (k : Nat) (sp : Int) (d : Nat) (rows : List (List Int)) (j : Nat) (h : j < rows.length) : rms k sp d (rows.take (j + 1)) = rms k sp d (rows.take j) ++ [(k : Int) * (rows.getD j []).getD d 0 - sp] := by
  unfold rms
  have e : rows.getD j [] = rows[j] := by simp [h]
  rw [List.take_succ_eq_append_getElem h, List.map_append, e]
  rfl

theorem rms_bd {k d : Nat} {sp : Int} {rows : List (List Int)} (hk : k ≤ 10) (hsp : sp = 0 ∨ sp = 1) (hlast : ∀ r ∈ rows, (r.getD d 0).natAbs ≤ 1000000000) : ∀ z ∈ rms k sp d rows, z.natAbs ≤ 100000000000 := by
  intro z hz
  obtain ⟨r, hr', rfl⟩ := List.mem_map.1 hz
  have h1 := hlast r hr'
  have h2 : ((k : Int) * r.getD d 0).natAbs ≤ 10000000000 := by
    rw [Int.natAbs_mul]
    exact Nat.le_trans (Nat.mul_le_mul (show (k : Int).natAbs ≤ 10 by omega) h1) (by decide)
  generalize (k : Int) * r.getD d 0 = p at *
  rcases hsp with rfl | rfl <;> omega

set_option maxRecDepth 100000 in
set_option maxHeartbeats 800000 in
theorem fplaces_any (d k : Nat) (sp : Int) (rows : List (List Int)) (lo hi : List Int) (rv lv mv : Value) (w : World) (hf : Fld d rows lo hi k) (hd1 : 1 ≤ d) (hd4 : d ≤ 4) (hsp : sp = 0 ∨ sp = 1) (hlast : ∀ r ∈ rows, (r.getD d 0).natAbs ≤ 1000000000) (hbox : bx k lo hi d ≤ 200000)
    (hr : Mat w.heap.size 22 3 w rv rows) (hl : Sl w.heap.size 3 w lv (ints lo)) (hm : Sl w.heap.size 3 w mv (ints hi)) :
    Calls Tryz.prog 32 #[.agg #[rv, lv, mv], .int .i64 k, .int .i64 sp] w fun e w' => e = .returned (.tuple #[.int .i64 (thr k lo hi rows (d - 1) 0 (rms k sp d rows)), .int .i64 0]) ∧ Below w.heap.size w w' := by
  obtain ⟨i3, hi3, hz30, hz31, hz32⟩ := info_parts Tryz.info3
  have HBX : Hid (∀ W, Below w.heap.size w W → Calls Tryz.prog 49 #[.agg #[rv, lv, mv], .int .i64 k] W fun e w' => e = .returned (.int .i64 (bx k lo hi d)) ∧ Below w.heap.size w w') := fun W hW =>
    (box_any d k rows lo hi rv lv mv W hf hd4 ((hr.below hW (Nat.le_refl _)).any (Nat.le_refl _)) ((hl.below hW (Nat.le_refl _)).any (Nat.le_refl _)) ((hm.below hW (Nat.le_refl _)).any (Nat.le_refl _))).mono fun e w' ⟨e1, e2⟩ => ⟨e1, hW.trans (e2.mono hW.size)⟩
  have HTH : Hid (∀ W ov, Below w.heap.size w W → Sl W.heap.size 3 W ov (ints (rms k sp d rows)) → Calls Tryz.prog 50 #[.agg #[rv, lv, mv], .int .i64 k, .int .i64 0, ov] W fun e w' => e = .returned (.int .i64 (thr k lo hi rows (d - 1) 0 (rms k sp d rows))) ∧ Below w.heap.size w w') := fun W ov hW ho =>
    (through_any d k rows lo hi rv lv mv hf hd4 (d - 1) 0 (by omega) (rms k sp d rows) ov W ((hr.below hW (Nat.le_refl _)).any (Nat.le_refl _)) ((hl.below hW (Nat.le_refl _)).any (Nat.le_refl _)) ((hm.below hW (Nat.le_refl _)).any (Nat.le_refl _)) ho (by simp [rms]) (fun z hz => by
      exact Nat.le_trans (rms_bd hf.kb hsp hlast z hz) (Nat.le_add_right _ _))).mono fun e w' ⟨e1, e2⟩ => ⟨e1, hW.trans (e2.mono hW.size)⟩
  obtain ⟨ro, rc, hrv, hrc1, hrc2⟩ := mat_open hr
  obtain ⟨lo', lc, hlv, _, _⟩ := sl_open hl
  obtain ⟨mo, mc, hmv, _, _⟩ := sl_open hm
  rw [hf.lol] at hlv
  rw [hf.hil] at hmv
  subst hrv hlv hmv
  have HF : Hid (Fld d rows lo hi k) := hf
  have HLA : Hid (∀ r ∈ rows, (r.getD d 0).natAbs ≤ 1000000000) := hlast
  have HSP : Hid (sp = 0 ∨ sp = 1) := hsp
  obtain ⟨W, hW⟩ : ∃ W, W = w.alloc (.cells #[.slice ro rows.length rc, .slice lo' d lc, .slice mo d mc] 51) := ⟨_, rfl⟩
  have hbw : Below w.heap.size w W := by rw [hW]; exact (Below.refl _ _).alloc (Nat.le_refl _) _
  have HW : Hid (Below w.heap.size w W) := hbw
  have hsW : W.heap.size = w.heap.size + 1 := by rw [hW]; simp
  have HSW : Hid (W.heap.size = w.heap.size + 1) := hsW
  have c0 : W.cell? ⟨w.heap.size, 0, none⟩ = some (.slice ro rows.length rc) := by rw [hW]; simp
  have c1 : W.cell? ⟨w.heap.size, 1, none⟩ = some (.slice lo' d lc) := by rw [hW]; simp
  have c2 : W.cell? ⟨w.heap.size, 2, none⟩ = some (.slice mo d mc) := by rw [hW]; simp
  have HR : Hid (Mat w.heap.size 22 3 W (.slice ro rows.length rc) rows) := hr.below hbw (Nat.le_refl _)
  have HBW : Hid (Calls Tryz.prog 49 #[.agg #[.slice ro rows.length rc, .slice lo' d lc, .slice mo d mc], .int .i64 k] W fun e w' => e = .returned (.int .i64 (bx k lo hi d)) ∧ Below W.heap.size W w') :=
    box_any d k rows lo hi _ _ _ W hf hd4 ((hr.below hbw (Nat.le_refl _)).any (Nat.le_refl _)) ((hl.below hbw (Nat.le_refl _)).any (Nat.le_refl _)) ((hm.below hbw (Nat.le_refl _)).any (Nat.le_refl _))
  have HKC : Hid (∀ W', Below W.heap.size W W' → W'.cell? ⟨w.heap.size, 0, none⟩ = some (.slice ro rows.length rc) ∧ W'.cell? ⟨w.heap.size, 1, none⟩ = some (.slice lo' d lc) ∧ W'.cell? ⟨w.heap.size, 2, none⟩ = some (.slice mo d mc)) := fun W' h => ⟨(h.cell (lt_of_cell c0)).trans c0, (h.cell (lt_of_cell c1)).trans c1, (h.cell (lt_of_cell c2)).trans c2⟩
  generalize thr k lo hi rows (d - 1) 0 (rms k sp d rows) = TT at *
  generalize bx k lo hi d = bb at *
  have hbb : ¬ (200000 : Int) < bb := by omega
  have hm2 : rows.length ≤ 20000000 := hf.nr
  clear hr hl hm hbw hlast hsp hsW HBX hbox
  go_enter Tryz.func32, Tryz.ntmps32
  go_wp2_with fail
  rw [← hW]
  clear hW
  refine HBW.out.mono ?_
  rintro e w1 ⟨rfl, hb1⟩
  have HB1 : Hid (Below W.heap.size W w1) := hb1
  have HR1 : Hid (Mat W.heap.size 22 3 w1 (.slice ro rows.length rc) rows) := (HR.out.below hb1 (Nat.le_refl _)).more HW.out.size
  have k0 := (HKC.out w1 hb1).1
  have k1 := (HKC.out w1 hb1).2.1
  clear hb1 c0 c1 c2 HR HBW
  go_wp2
  go_loopw [9, 22] (fun x i wr => ∃ j : Nat, j ≤ rows.length ∧ i = .int .i64 j ∧ wr.ownsRow w1.heap.size 3 1 x j (ints (rms k sp d (rows.take j))) ∧ Below w1.heap.size w1 wr) (fun _ i _ => rows.length - (intOf i).toNat)
  case atStart => exact ⟨0, Nat.zero_le _, rfl, World.ownsRow_nil _ _ _ _, Below.refl _ _⟩
  case round =>
    obtain ⟨j, hj, rfl, ho, hb⟩ := hrel
    have HO : Hid (wr.ownsRow w1.heap.size 3 1 u9 j (ints (rms k sp d (rows.take j)))) := ho
    have HB : Hid (Below w1.heap.size w1 wr) := hb
    have hszr : w1.heap.size ≤ wr.heap.size := hb.size
    clear ho hb
    by_cases hjl : j < rows.length
    · obtain ⟨b2, o2, cp2, rvv, hs2, _, hcc2, hr2⟩ := mat_cell (HR1.out.below HB.out (Nat.le_refl _)) hjl
      simp only [Value.slice.injEq, true_and] at hs2
      obtain ⟨rfl, rfl⟩ := hs2
      have hmem : rows.getD j [] ∈ rows := by simp [hjl]
      have hlen := HF.out.len _ hmem
      obtain ⟨b3, o3, cp3, hs3, hc3, hcc3⟩ := sl_cell hr2 (k := d) (by rw [hlen]; omega)
      rw [hlen] at hs3
      subst hs3
      have hab := HLA.out _ hmem
      have HSN : Hid (ints (rms k sp d (rows.take (j + 1))) = ints (rms k sp d (rows.take j)) ++ [.int .i64 ((k : Int) * (rows.getD j []).getD d 0 - sp)]) := by
        show _ = _
        rw [rms_snoc k sp d rows j hjl]
        simp [ints]
      clear hmem hr2 hlen
      generalize (rows.getD j []).getD d 0 = z at *
      have hpb : ((k : Int) * z).natAbs ≤ 10000000000 := by
        rw [Int.natAbs_mul]
        exact Nat.le_trans (Nat.mul_le_mul (show (k : Int).natAbs ≤ 10 by have := HF.out.kb; omega) hab) (by decide)
      have hsb : sp.natAbs ≤ 1 := by rcases HSP.out with h | h <;> omega
      have hw1 : wrap64 ((k : Int) * z) = (k : Int) * z := IntWalk.wrap64_in _ ⟨by omega, by omega⟩
      have hw2 : wrap64 ((k : Int) * z - sp) = (k : Int) * z - sp := IntWalk.wrap64_in _ ⟨by omega, by omega⟩
      have hjI : (j : Int) < (rows.length : Int) := by omega
      have hjI0 : (0 : Int) ≤ (j : Int) := by omega
      have hdI : (d : Int) < (d : Int) + 1 := by omega
      have hdN : d < d + 1 := by omega
      have hj2 : j < 20000000 := by omega
      clear hpb hsb
      go_wp2_with (first | (at_builtin; refine wpList_append_own _ rfl _ _ 22 rfl w1.heap.size 3 i3 (.int .i64 0) 1 8 Tryz.underlying22 hi3 hz30 hz31 hz32 rfl (by decide) _ _ _ rfl (HO.out.alloc _) ⟨wr.heap.size, 0, none⟩ 1 1 [.int .i64 ((k : Int) * z - sp)] rfl rfl (one_new _ _ _) (one_int _) ?c3 ?c4 ?c5 ?_))
      case c3 => unfold maxLen; omega
      case c4 => omega
      case c5 => first | exact hszr | omega | (simp; omega)
      intro v' w3 ho3 hg3 _
      have R1 : Hid (w3.ownsRow w1.heap.size 3 1 v' (j + 1) (ints (rms k sp d (rows.take (j + 1))))) := by
        show World.ownsRow _ _ _ _ _ _ _
        rw [HSN.out]
        exact ho3
      have R2 : Hid (Below w1.heap.size w1 w3) := (HB.out.alloc hszr _).grown hg3 (by simp; omega) (fun x hx => (HO.out.lt x hx).1)
      clear ho3 hg3
      go_wp2
      exact ⟨⟨j + 1, hjl, by go_num, R1.out, R2.out⟩, by simp [intOf]; omega⟩
    · have HOV : Hid (Sl wr.heap.size 3 wr u9 (ints (rms k sp d rows))) := by
        have h := HO.out
        rw [List.take_of_length_le (by omega)] at h
        exact (Sl.own (B := 0) h).any (Nat.le_refl _)
      have HBWr : Hid (Below W.heap.size W wr) := HB1.out.trans (HB.out.mono HB1.out.size)
      have HBwr : Hid (Below w.heap.size w wr) := HW.out.trans (HBWr.out.mono (by have := HSW.out; omega))
      have kk := HKC.out wr HBWr.out
      have k0r := kk.1
      have k1r := kk.2.1
      have k2r := kk.2.2
      have HCA : Hid (Calls Tryz.prog 50 #[.agg #[.slice ro rows.length rc, .slice lo' d lc, .slice mo d mc], .int .i64 k, .int .i64 0, u9] wr fun e w' => e = .returned (.int .i64 TT) ∧ Below w.heap.size w w') := HTH.out wr u9 HBwr.out HOV.out
      clear kk HOV HTH k0 k1
      go_wp2_with fail
      refine HCA.out.mono ?_
      rintro e w5 ⟨rfl, hb5⟩
      have HB5 : Hid (Below w.heap.size w w5) := hb5
      clear hb5 HCA
      go_wp2
      go_ret2
      exact ⟨rfl, HB5.out⟩

end Go.Proofs.YtobcdcmmeabecaaGreat

/- The document's answer: of points the least and the greatest number in a direction; how many places a box has. -/
namespace Go.Proofs.YtobcdcmmeabecaaGreat
open Go.RowKit
attribute [local go_sem ↓] Go.wp_at_zero Go.wp_at_succ

theorem T_bd {d wd : Nat} {P : List (List Int)} (hP : Box d wd P) (h1 : 1 ≤ P.length) {c : Nat} (hc : c < d) : ∀ j, j ≤ P.length → (-(wd : Int) ≤ loT P c j ∧ loT P c j ≤ hiT P c j ∧ hiT P c j ≤ wd)
  | 0, _ => by
    have h0 : P.getD 0 [] ∈ P := by simp [show 0 < P.length by omega]
    have := (hP _ h0).2 _ (getD_mem (l := P.getD 0 []) (i := c) (by rw [(hP _ h0).1]; exact hc))
    simp only [loT, hiT, List.take_zero, List.foldl_nil]
    omega
  | j + 1, hj => by
    have ih := T_bd hP h1 hc j (by omega)
    have hm : P.getD j [] ∈ P := by simp [show j < P.length by omega]
    have := (hP _ hm).2 _ (getD_mem (l := P.getD j []) (i := c) (by rw [(hP _ hm).1]; exact hc))
    rw [loT_succ P c j (by omega), hiT_succ P c j (by omega)]
    omega

set_option maxRecDepth 100000 in
set_option maxHeartbeats 800000 in
theorem range_any (B d c : Nat) (P : List (List Int)) (v : Value) (w : World) (hv : Mat B 22 3 w v P) (h1 : 1 ≤ P.length) (hn : P.length ≤ 1000000) (hd : ∀ x ∈ P, x.length = d) (hc : c < d) :
    Calls Tryz.prog 37 #[v, .int .i64 c] w fun e w' => e = .returned (.tuple #[.int .i64 (loT P c P.length), .int .i64 (hiT P c P.length)]) ∧ w' = w := by
  obtain ⟨b, o, cap, r0, hvv, hlc, hcc, hr0⟩ := mat_cell hv (k := 0) (by omega)
  subst hvv
  have HV : Hid (Mat B 22 3 w (.slice (some ⟨b, o, none⟩) P.length cap) P) := hv
  have HD : Hid (∀ x ∈ P, x.length = d) := hd
  have hm0 : P.getD 0 [] ∈ P := by simp [show 0 < P.length by omega]
  obtain ⟨b1, o1, c1, hs1, _, hcc1⟩ := sl_cell hr0 (k := c) (by rw [hd _ hm0]; exact hc)
  rw [hd _ hm0] at hs1
  subst hs1
  have hcc0 : w.cell? ⟨b, o, none⟩ = some (.slice (some ⟨b1, o1, none⟩) d c1) := hcc
  have HL0 : Hid (loT P c 0 = (P.getD 0 []).getD c 0 ∧ hiT P c 0 = (P.getD 0 []).getD c 0) := ⟨rfl, rfl⟩
  clear hv hd hm0 hr0 hcc
  generalize (P.getD 0 []).getD c 0 = z0 at *
  have h0I : (0 : Int) < (P.length : Int) := by omega
  have h0N : 0 < P.length := by omega
  have hcI : (c : Int) < (d : Int) := by omega
  have hcI0 : (0 : Int) ≤ (c : Int) := by omega
  go_enter Tryz.func37, Tryz.ntmps37
  go_wp2
  go_loopw [6, 7, 8] (fun x y i wr => ∃ j : Nat, j ≤ P.length ∧ i = .int .i64 j ∧ x = .int .i64 (loT P c j) ∧ y = .int .i64 (hiT P c j) ∧ wr = w) (fun _ _ i _ => P.length - (intOf i).toNat)
  case atStart => exact ⟨0, Nat.zero_le _, rfl, by rw [HL0.out.1], by rw [HL0.out.2], rfl⟩
  case round =>
    obtain ⟨j, hj, rfl, rfl, rfl, rfl⟩ := hrel
    by_cases hjl : j < P.length
    · obtain ⟨b2, o2, cp2, r2, hs2, _, hcc2, hr2⟩ := mat_cell HV.out hjl
      simp only [Value.slice.injEq, Option.some.injEq, Addr.mk.injEq, and_true, true_and] at hs2
      obtain ⟨⟨rfl, rfl⟩, rfl⟩ := hs2
      have hm : P.getD j [] ∈ P := by simp [hjl]
      obtain ⟨b3, o3, c3, hs3, _, hcc3⟩ := sl_cell hr2 (k := c) (by rw [HD.out _ hm]; exact hc)
      rw [HD.out _ hm] at hs3
      subst hs3
      have HLS : Hid (loT P c (j + 1) = min (loT P c j) ((P.getD j []).getD c 0)) := loT_succ P c j hjl
      have HHS : Hid (hiT P c (j + 1) = max (hiT P c j) ((P.getD j []).getD c 0)) := hiT_succ P c j hjl
      clear hr2 hm
      generalize (P.getD j []).getD c 0 = z at *
      generalize loT P c j = L at *
      generalize hiT P c j = M at *
      have hjI : (j : Int) < (P.length : Int) := by omega
      have hjI0 : (0 : Int) ≤ (j : Int) := by omega
      have hj2 : j < 1000000 := by omega
      by_cases hl : z < L
      · by_cases hh : M < z
        · go_wp2
          exact ⟨⟨j + 1, hjl, by go_num, by rw [HLS.out, Int.min_eq_right (by omega)], by rw [HHS.out, Int.max_eq_right (by omega)], trivial⟩, by simp [intOf]; omega⟩
        · go_wp2
          exact ⟨⟨j + 1, hjl, by go_num, by rw [HLS.out, Int.min_eq_right (by omega)], by rw [HHS.out, Int.max_eq_left (by omega)], trivial⟩, by simp [intOf]; omega⟩
      · by_cases hh : M < z
        · go_wp2
          exact ⟨⟨j + 1, hjl, by go_num, by rw [HLS.out, Int.min_eq_left (by omega)], by rw [HHS.out, Int.max_eq_right (by omega)], trivial⟩, by simp [intOf]; omega⟩
        · go_wp2
          exact ⟨⟨j + 1, hjl, by go_num, by rw [HLS.out, Int.min_eq_left (by omega)], by rw [HHS.out, Int.max_eq_left (by omega)], trivial⟩, by simp [intOf]; omega⟩
    · obtain rfl : P.length = j := by omega
      clear hj hjl
      go_wp2
      go_ret2
      exact ⟨rfl, rfl⟩

theorem loL_get {P : List (List Int)} {d i : Nat} (h : i < d) : (loL P d).getD i 0 = loT P i P.length := by simp [loL, h]
theorem hiL_get {P : List (List Int)} {d i : Nat} (h : i < d) : (hiL P d).getD i 0 = hiT P i P.length := by simp [hiL, h]

set_option maxRecDepth 100000 in
set_option maxHeartbeats 800000 in
theorem boxD_any (B d k : Nat) (P : List (List Int)) (v : Value) (w : World) (hv : Mat B 22 3 w v P) (h1 : 1 ≤ P.length) (hn : P.length ≤ 1000000) (hd : ∀ x ∈ P, x.length = d) (hd4 : d ≤ 4) (hk : k ≤ 10)
    (hb : ∀ i, i < d → (loT P i P.length).natAbs ≤ 1000 ∧ (hiT P i P.length).natAbs ≤ 1000) (hsm : ∀ i, i ≤ d → (bx k (loL P d) (hiL P d) i).natAbs ≤ 200000) :
    Calls Tryz.prog 22 #[v, .int .i64 k] w fun e w' => e = .returned (.int .i64 (bx k (loL P d) (hiL P d) d)) ∧ w' = w := by
  have HRG : Hid (∀ c, c < d → Calls Tryz.prog 37 #[v, .int .i64 c] w fun e w' => e = .returned (.tuple #[.int .i64 (loT P c P.length), .int .i64 (hiT P c P.length)]) ∧ w' = w) := fun c hc => range_any B d c P v w hv h1 hn hd hc
  obtain ⟨b, o, cap, r0, hvv, hlc, hcc, hr0⟩ := mat_cell hv (k := 0) (by omega)
  subst hvv
  have hm0 : P.getD 0 [] ∈ P := by simp [show 0 < P.length by omega]
  obtain ⟨ro, rc, hrv, _, _⟩ := sl_open hr0
  rw [hd _ hm0] at hrv
  subst hrv
  have hcc0 : w.cell? ⟨b, o, none⟩ = some (.slice ro d rc) := hcc
  have HB : Hid (∀ i, i < d → (loT P i P.length).natAbs ≤ 1000 ∧ (hiT P i P.length).natAbs ≤ 1000) := hb
  have HSM : Hid (∀ i, i ≤ d → (bx k (loL P d) (hiL P d) i).natAbs ≤ 200000) := hsm
  have HST : Hid (∀ j, j < d → bx k (loL P d) (hiL P d) (j + 1) = bx k (loL P d) (hiL P d) j * ((hiT P j P.length - loT P j P.length) * (k : Int) + 1)) := fun j hj => by
    show bx k (loL P d) (hiL P d) j * ((k : Int) * ((hiL P d).getD j 0 - (loL P d).getD j 0) + 1) = _
    rw [loL_get hj, hiL_get hj, Int.mul_comm (k : Int)]
  obtain ⟨bxx, hbx⟩ : ∃ bxx : Nat → Int, bxx = bx k (loL P d) (hiL P d) := ⟨_, rfl⟩
  have HB0 : Hid (bxx 0 = 1) := by rw [hbx]; rfl
  rw [← hbx] at HSM HST ⊢
  clear hv hd hm0 hr0 hcc hb hsm hbx
  have h0I : (0 : Int) < (P.length : Int) := by omega
  have h0N : 0 < P.length := by omega
  generalize P.length = n at *
  go_enter Tryz.func22, Tryz.ntmps22
  go_wp2
  go_loopw [4, 5, 6] (fun _ s i wr => ∃ j : Nat, j ≤ d ∧ i = .int .i64 j ∧ s = .int .i64 (bxx j) ∧ wr = w) (fun _ _ i _ => d - (intOf i).toNat)
  case atStart => exact ⟨0, Nat.zero_le _, rfl, by rw [HB0.out], rfl⟩
  case round =>
    obtain ⟨j, hj, rfl, rfl, rfl⟩ := hrel
    by_cases hjd : j < d
    · have HS := HST.out j hjd
      have HSE : Hid (bxx (j + 1) = bxx j * ((hiT P j n - loT P j n) * (k : Int) + 1)) := HS
      have hs1 := HSM.out (j + 1) (by omega)
      rw [HS] at hs1
      have hlh := HB.out j hjd
      have HRJ : Hid (Calls Tryz.prog 37 #[.slice (some ⟨b, o, none⟩) n cap, .int .i64 j] wr fun e w' => e = .returned (.tuple #[.int .i64 (loT P j n), .int .i64 (hiT P j n)]) ∧ w' = wr) := HRG.out j hjd
      generalize loT P j n = L at *
      generalize hiT P j n = M at *
      generalize bxx j = b0 at *
      have hf1 : ((M - L) * (k : Int)).natAbs ≤ 20000 := by
        rw [Int.natAbs_mul]
        exact Nat.le_trans (Nat.mul_le_mul (show (M - L).natAbs ≤ 2000 by omega) (show (k : Int).natAbs ≤ 10 by omega)) (by decide)
      have hw1 : wrap64 ((M - L) * (k : Int)) = (M - L) * (k : Int) := IntWalk.wrap64_in _ ⟨by omega, by omega⟩
      have hw2 : wrap64 ((M - L) * (k : Int) + 1) = (M - L) * (k : Int) + 1 := IntWalk.wrap64_in _ ⟨by omega, by omega⟩
      have hw3 : wrap64 (b0 * ((M - L) * (k : Int) + 1)) = b0 * ((M - L) * (k : Int) + 1) := IntWalk.wrap64_in _ ⟨by omega, by omega⟩
      have hgt : ¬ (200000 : Int) < b0 * ((M - L) * (k : Int) + 1) := by omega
      have hgt2 : decide ((200000 : Int) < wrap64 (b0 * ((M - L) * (k : Int) + 1))) = false := by rw [hw3]; exact decide_eq_false hgt
      have HW3 : Hid (wrap64 (b0 * ((M - L) * (k : Int) + 1)) = b0 * ((M - L) * (k : Int) + 1)) := hw3
      have hjI : (j : Int) < (d : Int) := by omega
      have hjI0 : (0 : Int) ≤ (j : Int) := by omega
      clear HS hs1 hf1
      go_wp2_with fail
      refine HRJ.out.mono ?_
      rintro e w3 ⟨rfl, rfl⟩
      go_wp2
      exact ⟨⟨j + 1, hjd, by go_num, by rw [HW3.out, HSE.out], trivial⟩, by simp [intOf]; omega⟩
    · obtain rfl : d = j := by omega
      clear hj hjd
      go_wp2
      go_ret
      exact ⟨rfl, rfl⟩

end Go.Proofs.YtobcdcmmeabecaaGreat

/- The document's answer: places, number by number: the walk. -/
namespace Go.Proofs.YtobcdcmmeabecaaGreat
open Go.RowKit
attribute [local go_sem ↓] Go.wp_at_zero Go.wp_at_succ

/-- What a row says of a place of k times the polytope. -/
def ovr (k d : Nat) (r x : List Int) : Int := dotL (r.take d) x - r.getD d 0 * (k : Int)

def allB (k d : Nat) (rows : List (List Int)) (x : List Int) : Bool := rows.all fun r => decide (ovr k d r x ≤ 0)
def innB (k d : Nat) (rows : List (List Int)) (x : List Int) : Bool := rows.all fun r => decide (ovr k d r x < 0)

def b01 (b : Bool) : Int := if b = true then 1 else 0

/-- The document's counts. -/
def plA (k d : Nat) (P rows : List (List Int)) : Nat → List Int → Int
  | 0, x => b01 (allB k d rows x)
  | m + 1, x => isum (irange (loT P x.length P.length * (k : Int)) (hiT P x.length P.length * (k : Int))) fun v => plA k d P rows m (x ++ [v])

def plI (k d : Nat) (P rows : List (List Int)) : Nat → List Int → Int
  | 0, x => b01 (innB k d rows x)
  | m + 1, x => isum (irange (loT P x.length P.length * (k : Int)) (hiT P x.length P.length * (k : Int))) fun v => plI k d P rows m (x ++ [v])

theorem b01_bd (b : Bool) : 0 ≤ b01 b ∧ b01 b ≤ 1 := by unfold b01; split <;> omega

/-- What is held of the points and the rows. -/
structure Pfd (d k : Nat) (P rows : List (List Int)) : Prop where
  d1 : 1 ≤ d
  d4 : d ≤ 4
  n1 : 1 ≤ P.length
  nn : P.length ≤ 1000000
  len : ∀ x ∈ P, x.length = d
  rl : ∀ r ∈ rows, r.length = d + 1
  rb : ∀ r ∈ rows, ∀ z ∈ r.take d, z.natAbs ≤ 1000000000000
  rz : ∀ r ∈ rows, (r.getD d 0).natAbs ≤ 1000000000000
  lo : ∀ i, i < d → (loT P i P.length * (k : Int)).natAbs ≤ 1000
  hi : ∀ i, i < d → (hiT P i P.length * (k : Int)).natAbs ≤ 1000
  kb : k ≤ 10
  nr : rows.length ≤ 20000000

theorem pl_bd {d k : Nat} {P rows : List (List Int)} (h : Pfd d k P rows) : ∀ (m : Nat) (x : List Int), x.length + m = d → (0 ≤ plA k d P rows m x ∧ plA k d P rows m x ≤ 2001 ^ m) ∧ (0 ≤ plI k d P rows m x ∧ plI k d P rows m x ≤ 2001 ^ m)
  | 0, x, _ => by
    have h1 := b01_bd (allB k d rows x)
    have h2 := b01_bd (innB k d rows x)
    simp only [plA, plI]
    exact ⟨⟨h1.1, by simpa using h1.2⟩, ⟨h2.1, by simpa using h2.2⟩⟩
  | m + 1, x, hx => by
    have h1 := h.lo x.length (by omega)
    have h2 := h.hi x.length (by omega)
    have hl : ((irange (loT P x.length P.length * (k : Int)) (hiT P x.length P.length * (k : Int))).length : Int) ≤ 2001 := by rw [irange_len]; omega
    have hp : (0 : Int) ≤ 2001 ^ m := Int.pow_nonneg (by decide)
    have hm := Int.mul_le_mul_of_nonneg_right hl hp
    have e : (2001 : Int) ^ (m + 1) = 2001 * 2001 ^ m := by rw [Int.pow_succ, Int.mul_comm]
    rw [e]
    have ih := fun v => pl_bd h m (x ++ [v]) (by simp; omega)
    have a1 := isum_bd (f := fun v => plA k d P rows m (x ++ [v])) (B := 2001 ^ m) (irange (loT P x.length P.length * (k : Int)) (hiT P x.length P.length * (k : Int))) (fun v _ => (ih v).1)
    have a2 := isum_bd (f := fun v => plI k d P rows m (x ++ [v])) (B := 2001 ^ m) (irange (loT P x.length P.length * (k : Int)) (hiT P x.length P.length * (k : Int))) (fun v _ => (ih v).2)
    exact ⟨⟨a1.1, Int.le_trans a1.2 hm⟩, ⟨a2.1, Int.le_trans a2.2 hm⟩⟩

theorem pl_small {d k : Nat} {P rows : List (List Int)} (h : Pfd d k P rows) (m : Nat) (x : List Int) (hx : x.length + m = d) : (0 ≤ plA k d P rows m x ∧ plA k d P rows m x ≤ 20000000000000) ∧ (0 ≤ plI k d P rows m x ∧ plI k d P rows m x ≤ 20000000000000) := by
  have hb := pl_bd h m x hx
  have : m = 0 ∨ m = 1 ∨ m = 2 ∨ m = 3 ∨ m = 4 := by have := h.d4; omega
  have hp : (2001 : Int) ^ m ≤ 20000000000000 := by rcases this with rfl | rfl | rfl | rfl | rfl <;> decide
  exact ⟨⟨hb.1.1, Int.le_trans hb.1.2 hp⟩, ⟨hb.2.1, Int.le_trans hb.2.2 hp⟩⟩

theorem allB_snoc (k d : Nat) (rows : List (List Int)) (x : List Int) (j : Nat) (h : j < rows.length) : allB k d (rows.take (j + 1)) x = (allB k d (rows.take j) x && decide (ovr k d (rows.getD j []) x ≤ 0)) := by
  have e : rows.getD j [] = rows[j] := by simp [h]
  unfold allB
  rw [List.take_succ_eq_append_getElem h, List.all_append, e]
  simp

theorem innB_snoc (k d : Nat) (rows : List (List Int)) (x : List Int) (j : Nat) (h : j < rows.length) : innB k d (rows.take (j + 1)) x = (innB k d (rows.take j) x && decide (ovr k d (rows.getD j []) x < 0)) := by
  have e : rows.getD j [] = rows[j] := by simp [h]
  unfold innB
  rw [List.take_succ_eq_append_getElem h, List.all_append, e]
  simp

set_option maxRecDepth 100000 in
set_option maxHeartbeats 1600000 in
theorem placesD_any (d k : Nat) (P rows : List (List Int)) (pv rv : Value) (hf : Pfd d k P rows) : ∀ (m : Nat) (x : List Int), x.length + m = d → ∀ (xv : Value) (w : World), Mat w.heap.size 22 3 w rv rows → Mat w.heap.size 22 3 w pv P → Sl w.heap.size 3 w xv (ints x) → (∀ z ∈ x, z.natAbs ≤ 1000) →
    Calls Tryz.prog 23 #[rv, pv, .int .i64 k, xv] w fun e w' => e = .returned (.tuple #[.int .i64 (plA k d P rows m x), .int .i64 (plI k d P rows m x)]) ∧ Below w.heap.size w w' := by
  intro m
  induction m with
  | zero =>
    intro x hx xv w hr hp hxs hxb
    have hxd : x.length = d := by omega
    obtain ⟨ro, rc, hrv, hrc1, hrc2⟩ := mat_open hr
    obtain ⟨b, o, cap, r0, hpv, _, hcc, hr0⟩ := mat_cell hp (k := 0) (by have := hf.n1; omega)
    obtain ⟨xo, xc, hxv, _, _⟩ := sl_open hxs
    rw [hxd] at hxv
    subst hrv hpv hxv
    have hm0 : P.getD 0 [] ∈ P := by simp [show 0 < P.length by have := hf.n1; omega]
    obtain ⟨qo, qc, hqv, _, _⟩ := sl_open hr0
    rw [hf.len _ hm0] at hqv
    subst hqv
    have hcc0 : w.cell? ⟨b, o, none⟩ = some (.slice qo d qc) := hcc
    have HF : Hid (Pfd d k P rows) := hf
    have HR : Hid (Mat w.heap.size 22 3 w (.slice ro rows.length rc) rows) := hr
    have HXS : Hid (Sl w.heap.size 3 w (.slice xo d xc) (ints x)) := hxs
    have HXB : Hid (∀ z ∈ x, z.natAbs ≤ 1000) := hxb
    have HXD : Hid (x.length = d) := hxd
    have h0I : (0 : Int) < (P.length : Int) := by have := hf.n1; omega
    have h0N : 0 < P.length := by have := hf.n1; omega
    have hnr : rows.length ≤ 20000000 := hf.nr
    have HPA : Hid (plA k d P rows 0 x = b01 (allB k d rows x) ∧ plI k d P rows 0 x = b01 (innB k d rows x)) := ⟨rfl, rfl⟩
    generalize plA k d P rows 0 x = pa at *
    generalize plI k d P rows 0 x = pi at *
    clear hr hp hxs hxb hxd hr0 hm0 hcc hx
    generalize P.length = pl at *
    go_enter Tryz.func23, Tryz.ntmps23
    go_wp2
    go_loopw [10, 11, 12, 13] (fun s t i _ wr => ∃ j : Nat, j ≤ rows.length ∧ i = .int .i64 j ∧ s = .int .i64 (b01 (allB k d (rows.take j) x)) ∧ t = .int .i64 (b01 (innB k d (rows.take j) x)) ∧ Qw w wr) (fun _ _ i _ _ => rows.length - (intOf i).toNat)
    case atStart => exact ⟨0, Nat.zero_le _, rfl, rfl, rfl, Qw.refl _⟩
    case round =>
      obtain ⟨j, hj, rfl, rfl, rfl, hqw⟩ := hrel
      have HQ : Hid (Qw w wr) := hqw
      have HRr : Hid (Mat w.heap.size 22 3 wr (.slice ro rows.length rc) rows) := HR.out.below hqw.below (Nat.le_refl _)
      have HXr : Hid (Sl w.heap.size 3 wr (.slice xo d xc) (ints x)) := HXS.out.below hqw.below (Nat.le_refl _)
      clear hqw
      by_cases hjl : j < rows.length
      · obtain ⟨b2, o2, cp2, rvv, hs2, _, hcc2, hr2⟩ := mat_cell HRr.out hjl
        simp only [Value.slice.injEq, true_and] at hs2
        obtain ⟨rfl, rfl⟩ := hs2
        have hmem : rows.getD j [] ∈ rows := by simp [hjl]
        have hlen := HF.out.rl _ hmem
        obtain ⟨b3, o3, cp3, hs3, hc3, hcc3⟩ := sl_cell hr2 (k := d) (by rw [hlen]; omega)
        subst hs3
        have HTK : Hid (Sl w.heap.size 3 wr (.slice (some ⟨b3, o3, none⟩) d cp3) (ints ((rows.getD j []).take d))) := Sl.take hr2 (by omega)
        rw [hlen] at hcc2 hc3
        have hzb := HF.out.rz _ hmem
        have hsm : Sm ((rows.getD j []).take d) x := ⟨by rw [List.length_take, HXD.out]; omega, by rw [List.length_take]; have := HF.out.d4; omega, HF.out.rb _ hmem, HXB.out⟩
        have HDT : Hid (∀ nn, Calls Tryz.prog 38 #[.slice (some ⟨b3, o3, none⟩) d cp3, .slice xo d xc] (wr.drewN nn) fun e w' => e = .returned (.int .i64 (dotL ((rows.getD j []).take d) x)) ∧ ∃ n, w' = (wr.drewN nn).drewN n) := fun nn => dotR_any w.heap.size _ x _ _ (wr.drewN nn) (HTK.out.drewN nn) (HXr.out.drewN nn) hsm
        have hdb := dot_small0 hsm
        have HA1 : Hid (allB k d (rows.take (j + 1)) x = (allB k d (rows.take j) x && decide (ovr k d (rows.getD j []) x ≤ 0))) := allB_snoc k d rows x j hjl
        have HI1 : Hid (innB k d (rows.take (j + 1)) x = (innB k d (rows.take j) x && decide (ovr k d (rows.getD j []) x < 0))) := innB_snoc k d rows x j hjl
        have HOE : Hid (ovr k d (rows.getD j []) x = dotL ((rows.getD j []).take d) x - (rows.getD j []).getD d 0 * (k : Int)) := rfl
        rw [HOE.out] at HA1 HI1
        clear hmem hr2 hlen hsm HTK
        generalize dotL ((rows.getD j []).take d) x = D at *
        generalize (rows.getD j []).getD d 0 = z at *
        have hkb := HF.out.kb
        have hpb : (z * (k : Int)).natAbs ≤ 10000000000000 := by
          rw [Int.natAbs_mul]
          exact Nat.le_trans (Nat.mul_le_mul hzb (show (k : Int).natAbs ≤ 10 by omega)) (by decide)
        have hw1 : wrap64 (z * (k : Int)) = z * (k : Int) := IntWalk.wrap64_in _ ⟨by omega, by omega⟩
        have hw2 : wrap64 (D - z * (k : Int)) = D - z * (k : Int) := IntWalk.wrap64_in _ ⟨by omega, by omega⟩
        have HW2 : Hid (wrap64 (D - z * (k : Int)) = D - z * (k : Int)) := hw2
        have hjI : (j : Int) < (rows.length : Int) := by omega
        have hjI0 : (0 : Int) ≤ (j : Int) := by omega
        have hdI : (d : Int) < (d : Int) + 1 := by omega
        have hdI0 : (0 : Int) ≤ (d : Int) := by omega
        have hdN : d < d + 1 := by omega
        have hdc : d ≤ cp3 := by omega
        have hdcI : (d : Int) ≤ (cp3 : Int) := by omega
        have hj2 : j < 20000000 := by omega
        clear hpb hdb hzb
        go_wp2
        go_quiet ((go_at_call 38; exact Calls.quiet_of (w := wr) (HDT.out _)))
        simp only [HW2.out]
        obtain ⟨Wq, hWq⟩ : ∃ Wq, Wq = wr.drewN nq := ⟨_, rfl⟩
        rw [← hWq]
        have HQq : Hid (Qw w Wq) := by rw [hWq]; exact HQ.out.drewN nq
        clear hWq hcc2 hcc3 HDT hw1 hw2 HW2 HOE
        generalize D - z * (k : Int) = V at *
        generalize allB k d (rows.take j) x = A at *
        generalize innB k d (rows.take j) x = I at *
        by_cases h1 : 0 < V
        · have HA2 : Hid (allB k d (rows.take (j + 1)) x = false) := by
            show _ = _
            rw [HA1.out, decide_eq_false (by omega), Bool.and_false]
          have HI2 : Hid (innB k d (rows.take (j + 1)) x = false) := by
            show _ = _
            rw [HI1.out, decide_eq_false (by omega), Bool.and_false]
          have h2 : 0 ≤ V := by omega
          go_wp2
          exact ⟨⟨j + 1, hjl, by go_num, by rw [HA2.out]; rfl, by rw [HI2.out]; rfl, HQq.out⟩, by simp [intOf]; omega⟩
        · by_cases h2 : 0 ≤ V
          · have HA2 : Hid (allB k d (rows.take (j + 1)) x = A) := by
              show _ = _
              rw [HA1.out, decide_eq_true (by omega), Bool.and_true]
            have HI2 : Hid (innB k d (rows.take (j + 1)) x = false) := by
              show _ = _
              rw [HI1.out, decide_eq_false (by omega), Bool.and_false]
            go_wp2
            exact ⟨⟨j + 1, hjl, by go_num, by rw [HA2.out], by rw [HI2.out]; rfl, HQq.out⟩, by simp [intOf]; omega⟩
          · have HA2 : Hid (allB k d (rows.take (j + 1)) x = A) := by
              show _ = _
              rw [HA1.out, decide_eq_true (by omega), Bool.and_true]
            have HI2 : Hid (innB k d (rows.take (j + 1)) x = I) := by
              show _ = _
              rw [HI1.out, decide_eq_true (by omega), Bool.and_true]
            go_wp2
            exact ⟨⟨j + 1, hjl, by go_num, by rw [HA2.out], by rw [HI2.out], HQq.out⟩, by simp [intOf]; omega⟩
      · have HE1 : Hid (b01 (allB k d (rows.take j) x) = pa ∧ b01 (innB k d (rows.take j) x) = pi) := by
          rw [List.take_of_length_le (show rows.length ≤ j by omega)]
          exact ⟨HPA.out.1.symm, HPA.out.2.symm⟩
        rw [HE1.out.1, HE1.out.2]
        have HBF : Hid (Below w.heap.size w wr) := HQ.out.below
        go_wp2
        go_ret2
        exact ⟨rfl, HBF.out⟩
  | succ m ih =>
    intro x hx xv w hr hp hxs hxb
    obtain ⟨i3, hi3, hz30, hz31, hz32⟩ := info_parts Tryz.info3
    have hxd : x.length < d := by omega
    have HIH : Hid (∀ (y : Int) (xv' : Value) (W : World), Below w.heap.size w W → y.natAbs ≤ 1000 → Sl W.heap.size 3 W xv' (ints (x ++ [y])) → Calls Tryz.prog 23 #[rv, pv, .int .i64 k, xv'] W fun e w' => e = .returned (.tuple #[.int .i64 (plA k d P rows m (x ++ [y])), .int .i64 (plI k d P rows m (x ++ [y]))]) ∧ Below W.heap.size W w') := fun y xv' W hW hy hs =>
      ih (x ++ [y]) (by simp; omega) xv' W ((hr.below hW (Nat.le_refl _)).any (Nat.le_refl _)) ((hp.below hW (Nat.le_refl _)).any (Nat.le_refl _)) hs (fun z hz => by
        rcases List.mem_append.1 hz with h | h
        · exact hxb z h
        · simp at h; rw [h]; exact hy)
    have HRG : Hid (Calls Tryz.prog 37 #[pv, .int .i64 (x.length : Int)] w fun e w' => e = .returned (.tuple #[.int .i64 (loT P x.length P.length), .int .i64 (hiT P x.length P.length)]) ∧ w' = w) := range_any w.heap.size d x.length P pv w hp hf.n1 hf.nn hf.len hxd
    have HCP : Hid (∀ W, Below w.heap.size w W → Calls Tryz.prog 30 #[xv] W fun e w' => ∃ u, e = .returned u ∧ w'.ownsRow W.heap.size 3 1 u x.length (ints x) ∧ Below W.heap.size W w') := fun W hW => copy_any w.heap.size x xv W (hxs.below hW (Nat.le_refl _)) (by have := hf.d4; omega)
    have HLB := hf.lo x.length hxd
    have HHB := hf.hi x.length hxd
    have HPS : Hid (∀ y, (0 ≤ plA k d P rows m (x ++ [y]) ∧ plA k d P rows m (x ++ [y]) ≤ 20000000000000) ∧ (0 ≤ plI k d P rows m (x ++ [y]) ∧ plI k d P rows m (x ++ [y]) ≤ 20000000000000)) := fun y => pl_small hf m (x ++ [y]) (by simp; omega)
    have HPT : Hid ((0 ≤ plA k d P rows (m + 1) x ∧ plA k d P rows (m + 1) x ≤ 20000000000000) ∧ (0 ≤ plI k d P rows (m + 1) x ∧ plI k d P rows (m + 1) x ≤ 20000000000000)) := pl_small hf (m + 1) x hx
    obtain ⟨fA, hfA⟩ : ∃ fA : Int → Int, fA = fun v => plA k d P rows m (x ++ [v]) := ⟨_, rfl⟩
    obtain ⟨fI, hfI⟩ : ∃ fI : Int → Int, fI = fun v => plI k d P rows m (x ++ [v]) := ⟨_, rfl⟩
    have HFA : Hid (∀ v, fA v = plA k d P rows m (x ++ [v])) := fun v => by rw [hfA]
    have HFI : Hid (∀ v, fI v = plI k d P rows m (x ++ [v])) := fun v => by rw [hfI]
    have HEA : Hid (plA k d P rows (m + 1) x = isum (irange (loT P x.length P.length * (k : Int)) (hiT P x.length P.length * (k : Int))) fA) := by rw [hfA]; rfl
    have HEI : Hid (plI k d P rows (m + 1) x = isum (irange (loT P x.length P.length * (k : Int)) (hiT P x.length P.length * (k : Int))) fI) := by rw [hfI]; rfl
    obtain ⟨ro, rc, hrv, _, _⟩ := mat_open hr
    obtain ⟨b, o, cap, r0, hpv, _, hcc, hr0⟩ := mat_cell hp (k := 0) (by have := hf.n1; omega)
    obtain ⟨xo, xc, hxv, _, _⟩ := sl_open hxs
    subst hrv hpv hxv
    have hm0 : P.getD 0 [] ∈ P := by simp [show 0 < P.length by have := hf.n1; omega]
    obtain ⟨qo, qc, hqv, _, _⟩ := sl_open hr0
    rw [hf.len _ hm0] at hqv
    subst hqv
    have hcc0 : w.cell? ⟨b, o, none⟩ = some (.slice qo d qc) := hcc
    have h0I : (0 : Int) < (P.length : Int) := by have := hf.n1; omega
    have h0N : 0 < P.length := by have := hf.n1; omega
    have hd4 := hf.d4
    generalize hxl : x.length = xl at *
    have HXL : Hid (x.length = xl) := hxl
    have hne : ((xl : Int) == (d : Int)) = false := by simp; omega
    generalize plA k d P rows (m + 1) x = pa at *
    generalize plI k d P rows (m + 1) x = pi at *
    generalize loT P xl P.length = l0 at *
    generalize hiT P xl P.length = h0 at *
    obtain ⟨L, hL⟩ : ∃ L, L = l0 * (k : Int) := ⟨_, rfl⟩
    obtain ⟨M, hM⟩ : ∃ M, M = h0 * (k : Int) := ⟨_, rfl⟩
    rw [← hL] at HLB HEA HEI
    rw [← hM] at HHB HEA HEI
    have HWL : Hid (wrap64 (l0 * (k : Int)) = L) := by rw [← hL]; exact IntWalk.wrap64_in _ ⟨by omega, by omega⟩
    have HWM : Hid (wrap64 (h0 * (k : Int)) = M) := by rw [← hM]; exact IntWalk.wrap64_in _ ⟨by omega, by omega⟩
    clear ih hr hp hxs hxb hr0 hm0 hcc hx hxl hfA hfI hL hM
    generalize P.length = pl at *
    go_enter Tryz.func23, Tryz.ntmps23
    go_wp2_with fail
    refine HRG.out.mono ?_
    rintro e w1 ⟨rfl, rfl⟩
    go_wp2
    simp only [HWL.out]
    clear hcc0
    obtain ⟨n, hn⟩ : ∃ n : Nat, n = (M - L + 1).toNat := ⟨_, rfl⟩
    have hn2 : n ≤ 2001 := by omega
    have HNN : Hid (n = (M - L + 1).toNat) := hn
    clear hn
    have HBA : Hid (∀ q, 0 ≤ isum ((irange L M).take q) fA ∧ isum ((irange L M).take q) fA ≤ 20000000000000) := fun q => by
      have h := isum_take_le (l := irange L M) (f := fA) (fun v => by rw [HFA.out v]; exact (HPS.out v).1.1) q
      rw [← HEA.out] at h
      exact ⟨h.1, Int.le_trans h.2 HPT.out.1.2⟩
    have HBI : Hid (∀ q, 0 ≤ isum ((irange L M).take q) fI ∧ isum ((irange L M).take q) fI ≤ 20000000000000) := fun q => by
      have h := isum_take_le (l := irange L M) (f := fI) (fun v => by rw [HFI.out v]; exact (HPS.out v).2.1) q
      rw [← HEI.out] at h
      exact ⟨h.1, Int.le_trans h.2 HPT.out.2.2⟩
    go_loopw [16, 17, 18] (fun s t i wr => ∃ q : Nat, q ≤ n ∧ i = .int .i64 (L + (q : Int)) ∧ s = .int .i64 (isum ((irange L M).take q) fA) ∧ t = .int .i64 (isum ((irange L M).take q) fI) ∧ Below w1.heap.size w1 wr) (fun _ _ i _ => (M + 1 - intOf i).toNat)
    case atStart => exact ⟨0, Nat.zero_le _, by simp, rfl, rfl, Below.refl _ _⟩
    case round =>
      obtain ⟨q, hq, rfl, rfl, rfl, hbel⟩ := hrel
      have HB : Hid (Below w1.heap.size w1 wr) := hbel
      clear hbel
      by_cases hql : q < n
      · have hqI : L + (q : Int) ≤ M := by have := HNN.out; omega
        have HSA : Hid (isum ((irange L M).take (q + 1)) fA = isum ((irange L M).take q) fA + fA (L + q)) := by
          have h1 := HNN.out
          have h := isum_take_succ (irange L M) fA q (by rw [irange_len]; omega)
          rw [irange_get L M q (by omega)] at h
          exact h
        have HSI : Hid (isum ((irange L M).take (q + 1)) fI = isum ((irange L M).take q) fI + fI (L + q)) := by
          have h1 := HNN.out
          have h := isum_take_succ (irange L M) fI q (by rw [irange_len]; omega)
          rw [irange_get L M q (by omega)] at h
          exact h
        have ha1 := HBA.out q
        have hi1 := HBI.out q
        have ha2 := HBA.out (q + 1)
        have hi2 := HBI.out (q + 1)
        rw [HSA.out] at ha2
        rw [HSI.out] at hi2
        have HCA : Hid (∀ (xv' : Value) (W : World), Below w1.heap.size w1 W → Sl W.heap.size 3 W xv' (ints (x ++ [L + (q : Int)])) → Calls Tryz.prog 23 #[.slice ro rows.length rc, .slice (some ⟨b, o, none⟩) pl cap, .int .i64 k, xv'] W fun e w' => e = .returned (.tuple #[.int .i64 (fA (L + q)), .int .i64 (fI (L + q))]) ∧ Below W.heap.size W w') := fun xv' W hW hs => by
          rw [HFA.out, HFI.out]
          exact HIH.out (L + q) xv' W hW (by omega) hs
        generalize isum ((irange L M).take q) fA = sA at *
        generalize isum ((irange L M).take q) fI = sI at *
        generalize fA (L + q) = vA at *
        generalize fI (L + q) = vI at *
        have q1 := ha1.1
        have q2 := ha2.2
        have q3 := hi1.1
        have q4 := hi2.2
        have q5 := ha2.1
        have q6 := hi2.1
        have q7 := ha1.2
        have q8 := hi1.2
        have hmw : wrap64 (h0 * (k : Int)) = M := HWM.out
        clear ha1 ha2 hi1 hi2
        go_wp2_with fail
        refine (HCP.out wr HB.out).mono ?_
        rintro e w2 ⟨u, rfl, huo, hb2⟩
        have HUO : Hid (w2.ownsRow wr.heap.size 3 1 u xl (ints x)) := huo
        have HB2 : Hid (Below wr.heap.size wr w2) := hb2
        have hsz2 : wr.heap.size ≤ w2.heap.size := hb2.size
        clear huo hb2
        go_wp2_with (first | (at_builtin; refine wpList_append_own _ rfl _ _ 22 rfl wr.heap.size 3 i3 (.int .i64 0) 1 8 Tryz.underlying22 hi3 hz30 hz31 hz32 rfl (by decide) _ _ _ rfl (HUO.out.alloc _) ⟨w2.heap.size, 0, none⟩ 1 1 [.int .i64 (L + (q : Int))] rfl rfl (one_new _ _ _) (one_int _) ?c3 ?c4 ?c5 ?_))
        case c3 => unfold maxLen; omega
        case c4 => omega
        case c5 => first | exact hsz2 | omega | (simp; omega)
        intro v' w3 ho3 hg3 _
        have HB3 : Hid (Below wr.heap.size wr w3) := (HB2.out.alloc hsz2 _).grown hg3 (by simp; omega) (fun x hx => (HUO.out.lt x hx).1)
        have HSL : Hid (Sl w3.heap.size 3 w3 v' (ints (x ++ [L + (q : Int)]))) := by
          have e : ints (x ++ [L + (q : Int)]) = ints x ++ [.int .i64 (L + (q : Int))] := by simp [ints]
          rw [e]
          exact (Sl.own (B := 0) ho3).any (Nat.le_refl _)
        have HBw3 : Hid (Below w1.heap.size w1 w3) := HB.out.trans (HB3.out.mono HB.out.size)
        clear ho3 hg3 HUO
        go_wp2_with fail
        refine (HCA.out v' w3 HBw3.out HSL.out).mono ?_
        rintro e w4 ⟨rfl, hb4⟩
        have HB4 : Hid (Below w1.heap.size w1 w4) := HBw3.out.trans (hb4.mono HBw3.out.size)
        clear hb4 HCA HSL
        go_wp2
        exact ⟨⟨q + 1, hql, by go_num, by rw [HSA.out], by rw [HSI.out], HB4.out⟩, by simp [intOf]; omega⟩
      · have HE : Hid (isum ((irange L M).take q) fA = pa ∧ isum ((irange L M).take q) fI = pi) := by
          rw [List.take_of_length_le (by rw [irange_len]; have := HNN.out; omega)]
          exact ⟨HEA.out.symm, HEI.out.symm⟩
        have hqI : ¬ (L + (q : Int) ≤ M) := by have := HNN.out; omega
        rw [HE.out.1, HE.out.2]
        have hmw : wrap64 (h0 * (k : Int)) = M := HWM.out
        clear hq hql
        go_wp2
        go_ret2
        exact ⟨rfl, HB.out⟩

end Go.Proofs.YtobcdcmmeabecaaGreat
