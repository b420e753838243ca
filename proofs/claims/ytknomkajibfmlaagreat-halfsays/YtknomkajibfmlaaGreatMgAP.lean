import Derived.Test.YtknomkajibfmlaaGreatMgAO
import Derived.Test.YtknomkajibfmlaaGreatMgAG
import Derived.Test.YtknomkajibfmlaaGreatMgAI
/- The errors of a cut, and of a goal: the document's CutMay and GoalMay. -/
namespace Go.Proofs.YtknomkajibfmlaaGreat
open Go.RowKit Lin
attribute [local go_sem ↓] Go.wp_at_zero Go.wp_at_succ

theorem rwE_cases (n : Nat) (r : List Int) : (r.length ≠ n ∧ rwE n r = 3) ∨ (r.length = n ∧ r.any (farB · 20) = true ∧ rwE n r = 4) ∨ (r.length = n ∧ r.any (farB · 20) = false ∧ rwE n r = 0) := by
  unfold rwE
  by_cases h : r.length = n
  · refine .inr ?_
    rw [if_neg (fun hn => hn h)]
    cases hf : r.any (farB · 20) with
    | true => exact .inl ⟨h, rfl, rfl⟩
    | false => exact .inr ⟨h, rfl, by simp⟩
  · exact .inl ⟨h, if_pos h⟩

set_option maxRecDepth 100000 in
set_option maxHeartbeats 1600000 in
theorem cutMay_out (dm : Int) (rows : List (List Int)) (v : Value) (w : World) {B0 : Nat} (hv : Mat B0 38 3 w v rows) (h : dm < 1 ∨ 4 < dm) :
    Calls Tryz.prog 5 #[.agg #[.int .i64 dm, v]] w fun e w' => e = .returned (.int .i64 1) ∧ Below w.heap.size w w' := by
  obtain ⟨ao, cap, hvv, hlc, hcm⟩ := mat_open hv
  subst hvv
  have HB : Hid (Below w.heap.size w (w.alloc (.cells #[.int .i64 dm, .slice ao rows.length cap] 24))) := alloc_keep _ _
  clear hv
  by_cases h1 : dm < 1
  · have h1' : decide (dm < 1) = true := decide_eq_true h1
    go_enter Tryz.func5, Tryz.ntmps5
    go_wp2
    go_ret
    exact ⟨rfl, HB.out⟩
  · have h4 : 4 < dm := by omega
    have h1' : decide (dm < 1) = false := decide_eq_false h1
    have h4' : decide (4 < dm) = true := decide_eq_true h4
    go_enter Tryz.func5, Tryz.ntmps5
    go_wp2
    go_ret
    exact ⟨rfl, HB.out⟩

set_option maxRecDepth 100000 in
set_option maxHeartbeats 1600000 in
theorem cutMay_many (d : Nat) (rows : List (List Int)) (v : Value) (w : World) {B0 : Nat} (hv : Mat B0 38 3 w v rows) (h1 : 1 ≤ d) (h4 : d ≤ 4) (h12 : 12 < rows.length) :
    Calls Tryz.prog 5 #[.agg #[.int .i64 d, v]] w fun e w' => e = .returned (.int .i64 2) ∧ Below w.heap.size w w' := by
  obtain ⟨ao, cap, hvv, hlc, hcm⟩ := mat_open hv
  subst hvv
  have HB : Hid (Below w.heap.size w (w.alloc (.cells #[.int .i64 d, .slice ao rows.length cap] 24))) := alloc_keep _ _
  clear hv
  have e1 : ¬ (d : Int) < 1 := by omega
  have e1' : decide ((d : Int) < 1) = false := decide_eq_false e1
  have e4 : ¬ (4 : Int) < (d : Int) := by omega
  have e4' : decide ((4 : Int) < (d : Int)) = false := decide_eq_false e4
  have e12 : decide ((12 : Int) < (rows.length : Int)) = true := decide_eq_true (by omega)
  go_enter Tryz.func5, Tryz.ntmps5
  go_wp2
  go_ret
  exact ⟨rfl, HB.out⟩

set_option maxRecDepth 100000 in
set_option maxHeartbeats 1600000 in
theorem cutMay_rows (d : Nat) (rows : List (List Int)) (v : Value) (w : World) {B0 : Nat} (hv : Mat B0 38 3 w v rows) (hd1 : 1 ≤ d) (hd4 : d ≤ 4) (h12 : rows.length ≤ 12) :
    Calls Tryz.prog 5 #[.agg #[.int .i64 d, v]] w fun e w' => e = .returned (.int .i64 (rwsE (d + 1) rows)) ∧ Below w.heap.size w w' := by
  obtain ⟨ao, cap, hvv, hlc, hcm⟩ := mat_open hv
  subst hvv
  obtain ⟨W0, hW0, hb0, hs0, hc0⟩ := cut_box w d (.slice ao rows.length cap)
  have HV : Hid (∀ W', Below W0.heap.size W0 W' → Mat B0 38 3 W' (.slice ao rows.length cap) rows) := fun W' hB => (hv.below hb0 (Nat.le_refl _)).below hB (Nat.le_refl _)
  have HW0 : Hid (W0 = w.alloc (.cells #[.int .i64 d, .slice ao rows.length cap] 24)) := hW0
  have HB0 : Hid (Below w.heap.size w W0) := hb0
  have HC0 : Hid (∀ W', Below W0.heap.size W0 W' → W'.cell? ⟨w.heap.size, 0, none⟩ = some (.int .i64 d) ∧ W'.cell? ⟨w.heap.size, 1, none⟩ = some (.slice ao rows.length cap)) := hc0
  have h1 : decide ((d : Int) < 1) = false := decide_eq_false (by omega)
  have h4 : (d : Int) ≤ 4 := by omega
  have h4' : decide ((4 : Int) < (d : Int)) = false := decide_eq_false (by omega)
  obtain ⟨R, hR⟩ : ∃ R, R = rwsE (d + 1) rows := ⟨_, rfl⟩
  rw [← hR]
  have HRR : Hid (R = rwsE (d + 1) rows) := hR
  clear hv hW0 hb0 hs0 hc0 hR
  go_enter Tryz.func5, Tryz.ntmps5
  go_wp2
  rw [← HW0.out]
  go_loopw [3] (fun i wr => ∃ k : Nat, k ≤ rows.length ∧ i = .int .i64 k ∧ Below W0.heap.size W0 wr ∧ ∀ j, j < k → rwE (d + 1) (rows.getD j []) = 0) (fun i _ => rows.length - (intOf i).toNat)
  case atStart => exact ⟨0, Nat.zero_le _, rfl, Below.refl _ _, fun j hj => by omega⟩
  case round =>
    obtain ⟨k, hk, rfl, hb, hz⟩ := hrel
    have HB : Hid (Below W0.heap.size W0 wr) := hb
    have HZ : Hid (∀ j, j < k → rwE (d + 1) (rows.getD j []) = 0) := hz
    obtain ⟨c0, c1⟩ := HC0.out wr hb
    clear hb hz
    by_cases hlt : k < rows.length
    · obtain ⟨vb, voo, vcp, rv, hvs, _, hvcell, hrv⟩ := mat_cell (HV.out wr HB.out) hlt
      simp only [Value.slice.injEq] at hvs
      obtain ⟨rfl, _, rfl⟩ := hvs
      obtain ⟨uo, uc, huv, _, _⟩ := sl_open hrv
      have HFA : Hid (Calls Tryz.prog 14 #[rv, .int .i64 20] wr.drew fun e w' => e = .returned (.bool ((rows.getD k []).any (farB · 20))) ∧ w' = wr.drew) := farAny_any _ (rows.getD k []) rv 20 wr.drew hrv.drew (by decide) (by decide)
      have HEQ : Hid (rwE (d + 1) (rows.getD k []) ≠ 0 → R = rwE (d + 1) (rows.getD k [])) := fun h => HRR.out.trans (rwsE_at hlt HZ.out h)
      have HNX : Hid (rwE (d + 1) (rows.getD k []) = 0 → ∀ j, j < k + 1 → rwE (d + 1) (rows.getD j []) = 0) := fun h j hj => by
        rcases Nat.lt_or_eq_of_le (Nat.le_of_lt_succ hj) with h1 | rfl
        · exact HZ.out j h1
        · exact h
      obtain ⟨rl, hrl⟩ : ∃ rl, rl = (rows.getD k []).length := ⟨_, rfl⟩
      have HRE : Hid ((rl ≠ d + 1 ∧ rwE (d + 1) (rows.getD k []) = 3) ∨ (rl = d + 1 ∧ (rows.getD k []).any (farB · 20) = true ∧ rwE (d + 1) (rows.getD k []) = 4) ∨ (rl = d + 1 ∧ (rows.getD k []).any (farB · 20) = false ∧ rwE (d + 1) (rows.getD k []) = 0)) := by
        rw [hrl]; exact rwE_cases _ _
      rw [← hrl] at huv
      subst huv
      clear hrv hrl
      generalize (rows.getD k []).any (farB · 20) = fb at *
      have hkI : (0 : Int) ≤ (k : Int) := by omega
      have hkJ : (k : Int) < (rows.length : Int) := by omega
      rcases HRE.out with ⟨hl, hE⟩ | ⟨rfl, rfl, hE⟩ | ⟨rfl, rfl, hE⟩
      · have hdd : ((rl : Int) != (d : Int) + 1) = true := by rw [bne_iff_ne]; omega
        obtain rfl : R = 3 := (HEQ.out (by rw [hE]; decide)).trans hE
        clear HNX HEQ HRE hE
        go_wp2
        go_region
        go_wp2
        go_ret
        exact ⟨rfl, HB0.out.trans (HB.out.drew.mono HB0.out.size)⟩
      · have hdd : (((d + 1 : Nat) : Int) != (d : Int) + 1) = false := by rw [bne_eq_false_iff_eq]; omega
        obtain rfl : R = 4 := (HEQ.out (by rw [hE]; decide)).trans hE
        clear HNX HEQ HRE hE
        go_wp2
        go_region
        go_wp2_with fail
        refine HFA.out.mono ?_
        rintro e w1 ⟨rfl, hw1⟩
        rw [hw1]
        clear hw1
        go_wp2
        go_ret
        exact ⟨rfl, HB0.out.trans (HB.out.drew.mono HB0.out.size)⟩
      · have hdd : (((d + 1 : Nat) : Int) != (d : Int) + 1) = false := by rw [bne_eq_false_iff_eq]; omega
        have HN2 : Hid (∀ j, j < k + 1 → rwE (d + 1) (rows.getD j []) = 0) := HNX.out hE
        clear HNX HEQ HRE hE
        go_wp2
        go_region
        go_wp2_with fail
        refine HFA.out.mono ?_
        rintro e w1 ⟨rfl, hw1⟩
        rw [hw1]
        clear hw1
        go_wp2
        go_roundw
        case rel => exact ⟨k + 1, by omega, by go_num, HB.out.drew, HN2.out⟩
        case measure => simp [intOf]; omega
    · obtain rfl : R = 0 := HRR.out.trans (rwsE_end fun j hj => HZ.out j (by omega))
      go_wp2
      go_ret
      exact ⟨rfl, HB0.out.trans (HB.out.mono HB0.out.size)⟩

theorem cutMay_all (dm : Int) (rows : List (List Int)) (v : Value) (w : World) {B0 : Nat} (hv : Mat B0 38 3 w v rows) :
    Calls Tryz.prog 5 #[.agg #[.int .i64 dm, v]] w fun e w' => e = .returned (.int .i64 (cmE dm rows)) ∧ Below w.heap.size w w' := by
  unfold cmE
  by_cases h : dm < 1 ∨ 4 < dm
  · rw [if_pos h]; exact cutMay_out dm rows v w hv h
  · rw [if_neg h]
    obtain ⟨d, rfl⟩ : ∃ d : Nat, dm = d := ⟨dm.toNat, by omega⟩
    by_cases h2 : 12 < rows.length
    · rw [if_pos h2]; exact cutMay_many d rows v w hv (by omega) (by omega) h2
    · rw [if_neg h2]
      have := cutMay_rows d rows v w hv (by omega) (by omega) (by omega)
      rwa [show ((d : Int)).toNat = d by omega]

end Go.Proofs.YtknomkajibfmlaaGreat

/- half.added, half.saysNothing. -/
namespace Go.Proofs.YtknomkajibfmlaaGreat
open Go.RowKit

/-- v times the first and u times the second. -/
def combL (v : Int) (f : List Int) (u : Int) (s : List Int) : List Int := (List.range f.length).map fun i => v * f.getD i 0 + u * s.getD i 0

theorem combL_len (v : Int) (f : List Int) (u : Int) (s : List Int) : (combL v f u s).length = f.length := by simp [combL]

theorem combL_at {v u : Int} {f s : List Int} {k : Nat} (h : k < f.length) : (combL v f u s).getD k 0 = v * f.getD k 0 + u * s.getD k 0 := by simp [combL, h]

theorem mul20 {a b : Int} (ha : a.natAbs ≤ 20) (hb : b.natAbs ≤ 20) : -400 ≤ a * b ∧ a * b ≤ 400 := by
  have h : (a * b).natAbs ≤ 400 := by
    rw [Int.natAbs_mul]
    exact Nat.le_trans (Nat.mul_le_mul ha hb) (by decide)
  omega

set_option maxRecDepth 100000 in
set_option maxHeartbeats 1600000 in
theorem added_own (B : Nat) (f s : List Int) (v u : Int) (x y : Value) (w : World) (hx : Sl B 3 w x (ints f)) (hy : Sl B 3 w y (ints s)) (hl : f.length = s.length) (hn : f.length ≤ 100)
    (hv : v.natAbs ≤ 20) (hu : u.natAbs ≤ 20) (hf : ∀ z ∈ f, z.natAbs ≤ 20) (hs : ∀ z ∈ s, z.natAbs ≤ 20) :
    Calls Tryz.prog 44 #[.int .i64 v, x, .int .i64 u, y] w fun e w' => ∃ r, e = .returned r ∧ w'.ownsRow w.heap.size 3 1 r f.length (ints (combL v f u s)) ∧ Below w.heap.size w w' := by
  obtain ⟨ao, cap, hvv, hlc, hcm⟩ := sl_open hx
  obtain ⟨bo, cbp, huu, hlb, hcb⟩ := sl_open hy
  subst hvv huu
  have HX : Hid (Sl B 3 w (.slice ao f.length cap) (ints f)) := hx
  have HY : Hid (Sl B 3 w (.slice bo s.length cbp) (ints s)) := hy
  have HF : Hid (∀ z ∈ f, z.natAbs ≤ 20) := hf
  have HS : Hid (∀ z ∈ s, z.natAbs ≤ 20) := hs
  have HL : Hid (f.length = s.length) := hl
  have hmk := run_make_row' (P := Tryz.prog) 38 3 (.int .i64 0) 8 Tryz.underlying38 Tryz.info3 rfl .i64 .i64 f.length (by omega) (by omega)
  clear hx hy hf hs hl
  go_enter Tryz.func44, Tryz.ntmps44
  go_wp2
  go_loopw [16] (fun i wr => ∃ k : Nat, k ≤ f.length ∧ i = .int .i64 k ∧ wr.rowIs w.heap.size 3 f.length (fun j => .int .i64 (if j < k then (combL v f u s).getD j 0 else 0)) ∧ Below w.heap.size w wr) (fun i _ => f.length - (intOf i).toNat)
  case atStart =>
    refine ⟨0, Nat.zero_le _, rfl, ?_, (Below.refl _ _).alloc (Nat.le_refl _) _⟩
    exact (World.rowIs_made w (.int .i64 0) f.length 3).congr fun i hi => by simp
  case round =>
    obtain ⟨k, hk, rfl, hrow, hbel⟩ := hrel
    have HR : Hid (wr.rowIs w.heap.size 3 f.length (fun j => .int .i64 (if j < k then (combL v f u s).getD j 0 else 0))) := hrow
    have HB : Hid (Below w.heap.size w wr) := hbel
    by_cases hlt : k < f.length
    · have hlt2 : k < s.length := by have := HL.out; omega
      obtain ⟨b, o, cp, hs1, hc1, hcc⟩ := sl_cell (HX.out.below hbel (Nat.le_refl _)) hlt
      simp only [Value.slice.injEq] at hs1
      obtain ⟨rfl, -, rfl⟩ := hs1
      obtain ⟨b2, o2, cp2, hs2, hc2, hcc2⟩ := sl_cell (HY.out.below hbel (Nat.le_refl _)) hlt2
      simp only [Value.slice.injEq] at hs2
      obtain ⟨rfl, -, rfl⟩ := hs2
      have hfz := hrow.frozen k
      have hcl := hrow.cell (i := k) hlt
      simp only [Nat.lt_irrefl, if_false] at hcl
      have m1 := mul20 hv (HF.out (f.getD k 0) (by simp [hlt]))
      have m2 := mul20 hu (HS.out (s.getD k 0) (by simp [hlt2]))
      have HC : Hid ((combL v f u s).getD k 0 = v * f.getD k 0 + u * s.getD k 0) := combL_at hlt
      generalize f.getD k 0 = fk at *
      generalize s.getD k 0 = sk at *
      have q1 := m1.1
      have q2 := m1.2
      have q3 := m2.1
      have q4 := m2.2
      have hkI0 : (0 : Int) ≤ (k : Int) := by omega
      have hkI : (k : Int) < (f.length : Int) := by omega
      have hkI2 : (k : Int) < (s.length : Int) := by omega
      clear hrow hbel m1 m2
      go_wp2
      go_region
      all_goals
        go_wp2
        go_roundw
        case rel =>
          refine ⟨k + 1, by omega, by go_num, ?_, (HB.out.drew).setCell (Nat.le_refl _) _⟩
          refine (HR.out.set k _).congr fun j hj => ?_
          by_cases e1 : j = k
          · subst e1; rw [if_pos rfl, if_pos (by omega), HC.out]
          · by_cases e2 : j < k
            · rw [if_neg e1, if_pos e2, if_pos (by omega)]
            · rw [if_neg e1, if_neg e2, if_neg (by omega)]
        case measure => simp [intOf]; omega
    · clear hrow hbel
      go_wp2
      go_ret
      refine ⟨_, rfl, ?_, HB.out⟩
      refine owns_row HR.out (Nat.le_refl _) (by simp [combL]) (by unfold maxLen; omega) fun i hi => ?_
      rw [ints_get _ _ (by rw [combL_len]; exact hi), if_pos (by omega)]

set_option maxHeartbeats 400000 in
theorem ne1_any (x : Int) (w : World) :
    Calls Tryz.prog 62 #[.int .i64 x] w fun e w' => e = .returned (.bool (x != 0)) ∧ w' = w := by
  go_enter Tryz.func62, Tryz.ntmps62
  go_wp2
  go_ret
  exact ⟨rfl, rfl⟩

set_option maxHeartbeats 400000 in
theorem indexNe_any (B : Nat) (zs : List Int) (v : Value) (w : World) (hv : Sl B 3 w v (ints zs)) :
    Calls Tryz.prog 78 #[v, .func (.func 62) #[] #[]] w fun e w' => e = .returned (.int .i64 (findI (· != 0) zs)) ∧ w' = w := by
  obtain ⟨ao, cap, hvv, hlc, hcm⟩ := sl_open hv
  subst hvv
  have HV : Hid (Sl B 3 w (.slice ao zs.length cap) (ints zs)) := hv
  clear hv
  go_enter Tryz.func78, Tryz.ntmps78
  go_wp2
  go_loop [8] (fun i => ∃ k : Nat, k ≤ zs.length ∧ i = .int .i64 k ∧ (zs.take k).any (· != 0) = false) (fun i => zs.length - (intOf i).toNat)
  case atStart => exact ⟨0, Nat.zero_le _, rfl, by simp⟩
  case round =>
    obtain ⟨k, hk, rfl, hno⟩ := hrel
    have HN : Hid ((zs.take k).any (· != 0) = false) := hno
    clear hno
    by_cases hlt : k < zs.length
    · obtain ⟨b, o, cp, hs, hc1, hcc⟩ := sl_cell HV.out hlt
      simp only [Value.slice.injEq] at hs
      obtain ⟨rfl, _, rfl⟩ := hs
      have HS1 : Hid ((zs.take (k + 1)).any (· != 0) = (zs[k] != 0)) := any_snoc (p := (· != 0)) hlt HN.out
      have HH : Hid ((zs[k] != 0) = true → findI (· != 0) zs = k) := fun h => findI_hit (p := (· != 0)) hlt HN.out h
      rw [show zs.getD k 0 = zs[k] by simp [hlt]] at hcc
      generalize zs[k] = x at *
      by_cases hx : x = 0
      · have hxb : (x != 0) = false := by simp [hx]
        clear hx
        go_wp2_with (go_at_call 62; refine (ne1_any _ _).mono ?_; rintro e w' ⟨rfl, rfl⟩)
        go_round
        case rel => exact ⟨k + 1, by omega, by go_num, by rw [HS1.out, hxb]⟩
        case measure => simp [intOf]; omega
      · have hxb : (x != 0) = true := by simp [hx]
        clear hx
        go_wp2_with (go_at_call 62; refine (ne1_any _ _).mono ?_; rintro e w' ⟨rfl, rfl⟩)
        go_ret
        exact ⟨ret_int (HH.out hxb).symm, rfl⟩
    · go_wp2
      go_ret
      have e : zs.take k = zs := List.take_of_length_le (by omega)
      exact ⟨ret_int (findI_none (by rw [← HN.out, e])).symm, rfl⟩

set_option maxHeartbeats 400000 in
theorem containsNe_any (B : Nat) (zs : List Int) (v : Value) (w : World) (hv : Sl B 3 w v (ints zs)) :
    Calls Tryz.prog 55 #[v, .func (.func 62) #[] #[]] w fun e w' => e = .returned (.bool (zs.any (· != 0))) ∧ w' = w := by
  go_enter Tryz.func55, Tryz.ntmps55
  go_wp2_with fail
  refine (indexNe_any B zs v w hv).mono ?_
  rintro e w' ⟨rfl, rfl⟩
  go_wp2
  go_ret
  exact ⟨ret_bool findI_ge, rfl⟩

/-- A row that holds for all x, its a being 0. -/
def sayB (r : List Int) : Bool := decide (0 ≤ r.getD (r.length - 1) 0) && !(r.take (r.length - 1)).any (· != 0)

theorem Sl.takeN {B n c : Nat} {w : World} {ao : Option Addr} {zs : List Int} (h : Sl B 3 w (.slice ao zs.length c) (ints zs)) (hn : n ≤ zs.length) : Sl B 3 w (.slice ao n c) (ints (zs.take n)) := by
  obtain ⟨bo, cap, hv, h1, h2, h3, h4⟩ := h
  simp only [Value.slice.injEq] at hv
  obtain ⟨rfl, _, rfl⟩ := hv
  refine ⟨ao, c, by simp; omega, by simp at h1 ⊢; omega, h2, fun i hi => ?_, h4⟩
  have hi' : i < n := by simp at hi; omega
  obtain ⟨b, o, ha, hc, ht⟩ := h3 i (by simp; omega)
  refine ⟨b, o, ha, ?_, ht⟩
  rw [hc, ints_get _ _ (by omega), ints_get _ _ (by simp; omega)]
  simp [hi']

set_option maxRecDepth 100000 in
set_option maxHeartbeats 800000 in
theorem saysNothing_any (B : Nat) (r : List Int) (v : Value) (w : World) (hv : Sl B 3 w v (ints r)) (h1 : 1 ≤ r.length) :
    Calls Tryz.prog 43 #[v] w fun e w' => e = .returned (.bool (sayB r)) ∧ w' = w := by
  obtain ⟨ao, cap, hvv, hlc, hcm⟩ := sl_open hv
  subst hvv
  obtain ⟨b, o, cp, hs, hc1, hcc⟩ := sl_cell hv (k := r.length - 1) (by omega)
  simp only [Value.slice.injEq] at hs
  obtain ⟨rfl, -, rfl⟩ := hs
  obtain ⟨n, hn⟩ : ∃ n, r.length = n + 1 := ⟨r.length - 1, by omega⟩
  have HCF : Hid (Calls Tryz.prog 55 #[.slice (some ⟨b, o, none⟩) n cap, .func (.func 62) #[] #[]] w fun e w' => e = .returned (.bool ((r.take n).any (· != 0))) ∧ w' = w) := containsNe_any B (r.take n) _ w (Sl.takeN hv (by omega))
  have HSB : Hid (sayB r = (decide (0 ≤ r.getD n 0) && !(r.take n).any (· != 0))) := by
    show _ = _
    unfold sayB
    rw [hn, Nat.add_sub_cancel]
  rw [show r.length - 1 = n by omega] at hcc
  generalize (r.take n).any (· != 0) = an at *
  generalize r.getD n 0 = ln at *
  clear hv
  rw [hn]
  have hnI : ((n : Int) + 1 - 1) = (n : Int) := by omega
  have hI0 : (0 : Int) ≤ (n : Int) := by omega
  have hI1 : (n : Int) < (n : Int) + 1 := by omega
  have hI2 : (n : Int) ≤ (cap : Int) := by omega
  by_cases hl : 0 ≤ ln
  · have hlb : decide (0 ≤ ln) = true := by simpa using hl
    go_enter Tryz.func43, Tryz.ntmps43
    go_wp2_with (go_at_call 55; refine HCF.out.mono ?_; rintro e w' ⟨rfl, rfl⟩)
    go_ret
    exact ⟨ret_bool (by rw [HSB.out, hlb]; rfl), rfl⟩
  · have hlb : decide (0 ≤ ln) = false := by simpa using hl
    go_enter Tryz.func43, Tryz.ntmps43
    go_wp2_with (go_at_call 55; refine HCF.out.mono ?_; rintro e w' ⟨rfl, rfl⟩)
    go_ret
    exact ⟨ret_bool (by rw [HSB.out, hlb]; rfl), rfl⟩

end Go.Proofs.YtknomkajibfmlaaGreat
