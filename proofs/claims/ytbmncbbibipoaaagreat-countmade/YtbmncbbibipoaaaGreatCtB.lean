import Derived.Test.YtbmncbbibipoaaaGreatCtH
import Derived.Test.YtbmncbbibipoaaaGreatCt0
import Derived.Test.YtbmncbbibipoaaaGreatHmA
import Derived.Test.YtbmncbbibipoaaaGreatHm7
import Derived.Test.YtbmncbbibipoaaaGreatHmB
/- The document's answer: of points the least and the greatest number in a direction; how many places a box has. -/
namespace Go.Proofs.YtbmncbbibipoaaaGreat
open Go.RowKit
attribute [local go_sem ↓] Go.wp_at_zero Go.wp_at_succ

theorem T_bd {d wd : Nat} {P : List (List Int)} (hP : Box d wd P) (h1 : 1 ≤ P.length) {c : Nat} (hc : c < d) : ∀ j, j ≤ P.length → (-(wd : Int) ≤ loT P c j ∧ loT P c j ≤ hiT P c j ∧ hiT P c j ≤ wd)
  | 0, _ => by
    have h0 : P.getD 0 [] ∈ P := by simp [show 0 < P.length by omega]
    have := (hP _ h0).2 _ (getD_mem (l := P.getD 0 []) (i := c) (by rw [(hP _ h0).1]; exact hc))
    simp only [loT, hiT, List.take_zero, List.foldl_nil]
    omega
  | j + 1, hj => by
    have ih := T_bd hP h1 hc j (by omega)
    have hm : P.getD j [] ∈ P := by simp [show j < P.length by omega]
    have := (hP _ hm).2 _ (getD_mem (l := P.getD j []) (i := c) (by rw [(hP _ hm).1]; exact hc))
    rw [loT_succ P c j (by omega), hiT_succ P c j (by omega)]
    omega

set_option maxRecDepth 100000 in
set_option maxHeartbeats 800000 in
theorem range_any (B d c : Nat) (P : List (List Int)) (v : Value) (w : World) (hv : Mat B 22 3 w v P) (h1 : 1 ≤ P.length) (hn : P.length ≤ 1000000) (hd : ∀ x ∈ P, x.length = d) (hc : c < d) :
    Calls Tryz.prog 37 #[v, .int .i64 c] w fun e w' => e = .returned (.tuple #[.int .i64 (loT P c P.length), .int .i64 (hiT P c P.length)]) ∧ w' = w := by
  obtain ⟨b, o, cap, r0, hvv, hlc, hcc, hr0⟩ := mat_cell hv (k := 0) (by omega)
  subst hvv
  have HV : Hid (Mat B 22 3 w (.slice (some ⟨b, o, none⟩) P.length cap) P) := hv
  have HD : Hid (∀ x ∈ P, x.length = d) := hd
  have hm0 : P.getD 0 [] ∈ P := by simp [show 0 < P.length by omega]
  obtain ⟨b1, o1, c1, hs1, _, hcc1⟩ := sl_cell hr0 (k := c) (by rw [hd _ hm0]; exact hc)
  rw [hd _ hm0] at hs1
  subst hs1
  have hcc0 : w.cell? ⟨b, o, none⟩ = some (.slice (some ⟨b1, o1, none⟩) d c1) := hcc
  have HL0 : Hid (loT P c 0 = (P.getD 0 []).getD c 0 ∧ hiT P c 0 = (P.getD 0 []).getD c 0) := ⟨rfl, rfl⟩
  clear hv hd hm0 hr0 hcc
  generalize (P.getD 0 []).getD c 0 = z0 at *
  have h0I : (0 : Int) < (P.length : Int) := by omega
  have h0N : 0 < P.length := by omega
  have hcI : (c : Int) < (d : Int) := by omega
  have hcI0 : (0 : Int) ≤ (c : Int) := by omega
  go_enter Tryz.func37, Tryz.ntmps37
  go_wp2
  go_loopw [6, 7, 8] (fun x y i wr => ∃ j : Nat, j ≤ P.length ∧ i = .int .i64 j ∧ x = .int .i64 (loT P c j) ∧ y = .int .i64 (hiT P c j) ∧ wr = w) (fun _ _ i _ => P.length - (intOf i).toNat)
  case atStart => exact ⟨0, Nat.zero_le _, rfl, by rw [HL0.out.1], by rw [HL0.out.2], rfl⟩
  case round =>
    obtain ⟨j, hj, rfl, rfl, rfl, rfl⟩ := hrel
    by_cases hjl : j < P.length
    · obtain ⟨b2, o2, cp2, r2, hs2, _, hcc2, hr2⟩ := mat_cell HV.out hjl
      simp only [Value.slice.injEq, Option.some.injEq, Addr.mk.injEq, and_true, true_and] at hs2
      obtain ⟨⟨rfl, rfl⟩, rfl⟩ := hs2
      have hm : P.getD j [] ∈ P := by simp [hjl]
      obtain ⟨b3, o3, c3, hs3, _, hcc3⟩ := sl_cell hr2 (k := c) (by rw [HD.out _ hm]; exact hc)
      rw [HD.out _ hm] at hs3
      subst hs3
      have HLS : Hid (loT P c (j + 1) = min (loT P c j) ((P.getD j []).getD c 0)) := loT_succ P c j hjl
      have HHS : Hid (hiT P c (j + 1) = max (hiT P c j) ((P.getD j []).getD c 0)) := hiT_succ P c j hjl
      clear hr2 hm
      generalize (P.getD j []).getD c 0 = z at *
      generalize loT P c j = L at *
      generalize hiT P c j = M at *
      have hjI : (j : Int) < (P.length : Int) := by omega
      have hjI0 : (0 : Int) ≤ (j : Int) := by omega
      have hj2 : j < 1000000 := by omega
      by_cases hl : z < L
      · by_cases hh : M < z
        · go_wp2
          exact ⟨⟨j + 1, hjl, by go_num, by rw [HLS.out, Int.min_eq_right (by omega)], by rw [HHS.out, Int.max_eq_right (by omega)], trivial⟩, by simp [intOf]; omega⟩
        · go_wp2
          exact ⟨⟨j + 1, hjl, by go_num, by rw [HLS.out, Int.min_eq_right (by omega)], by rw [HHS.out, Int.max_eq_left (by omega)], trivial⟩, by simp [intOf]; omega⟩
      · by_cases hh : M < z
        · go_wp2
          exact ⟨⟨j + 1, hjl, by go_num, by rw [HLS.out, Int.min_eq_left (by omega)], by rw [HHS.out, Int.max_eq_right (by omega)], trivial⟩, by simp [intOf]; omega⟩
        · go_wp2
          exact ⟨⟨j + 1, hjl, by go_num, by rw [HLS.out, Int.min_eq_left (by omega)], by rw [HHS.out, Int.max_eq_left (by omega)], trivial⟩, by simp [intOf]; omega⟩
    · obtain rfl : P.length = j := by omega
      clear hj hjl
      go_wp2
      go_ret2
      exact ⟨rfl, rfl⟩

theorem loL_get {P : List (List Int)} {d i : Nat} (h : i < d) : (loL P d).getD i 0 = loT P i P.length := by simp [loL, h]
theorem hiL_get {P : List (List Int)} {d i : Nat} (h : i < d) : (hiL P d).getD i 0 = hiT P i P.length := by simp [hiL, h]

set_option maxRecDepth 100000 in
set_option maxHeartbeats 800000 in
theorem boxD_any (B d k : Nat) (P : List (List Int)) (v : Value) (w : World) (hv : Mat B 22 3 w v P) (h1 : 1 ≤ P.length) (hn : P.length ≤ 1000000) (hd : ∀ x ∈ P, x.length = d) (hd4 : d ≤ 4) (hk : k ≤ 10)
    (hb : ∀ i, i < d → (loT P i P.length).natAbs ≤ 1000 ∧ (hiT P i P.length).natAbs ≤ 1000) (hsm : ∀ i, i ≤ d → (bx k (loL P d) (hiL P d) i).natAbs ≤ 200000) :
    Calls Tryz.prog 22 #[v, .int .i64 k] w fun e w' => e = .returned (.int .i64 (bx k (loL P d) (hiL P d) d)) ∧ w' = w := by
  have HRG : Hid (∀ c, c < d → Calls Tryz.prog 37 #[v, .int .i64 c] w fun e w' => e = .returned (.tuple #[.int .i64 (loT P c P.length), .int .i64 (hiT P c P.length)]) ∧ w' = w) := fun c hc => range_any B d c P v w hv h1 hn hd hc
  obtain ⟨b, o, cap, r0, hvv, hlc, hcc, hr0⟩ := mat_cell hv (k := 0) (by omega)
  subst hvv
  have hm0 : P.getD 0 [] ∈ P := by simp [show 0 < P.length by omega]
  obtain ⟨ro, rc, hrv, _, _⟩ := sl_open hr0
  rw [hd _ hm0] at hrv
  subst hrv
  have hcc0 : w.cell? ⟨b, o, none⟩ = some (.slice ro d rc) := hcc
  have HB : Hid (∀ i, i < d → (loT P i P.length).natAbs ≤ 1000 ∧ (hiT P i P.length).natAbs ≤ 1000) := hb
  have HSM : Hid (∀ i, i ≤ d → (bx k (loL P d) (hiL P d) i).natAbs ≤ 200000) := hsm
  have HST : Hid (∀ j, j < d → bx k (loL P d) (hiL P d) (j + 1) = bx k (loL P d) (hiL P d) j * ((hiT P j P.length - loT P j P.length) * (k : Int) + 1)) := fun j hj => by
    show bx k (loL P d) (hiL P d) j * ((k : Int) * ((hiL P d).getD j 0 - (loL P d).getD j 0) + 1) = _
    rw [loL_get hj, hiL_get hj, Int.mul_comm (k : Int)]
  obtain ⟨bxx, hbx⟩ : ∃ bxx : Nat → Int, bxx = bx k (loL P d) (hiL P d) := ⟨_, rfl⟩
  have HB0 : Hid (bxx 0 = 1) := by rw [hbx]; rfl
  rw [← hbx] at HSM HST ⊢
  clear hv hd hm0 hr0 hcc hb hsm hbx
  have h0I : (0 : Int) < (P.length : Int) := by omega
  have h0N : 0 < P.length := by omega
  generalize P.length = n at *
  go_enter Tryz.func22, Tryz.ntmps22
  go_wp2
  go_loopw [4, 5, 6] (fun _ s i wr => ∃ j : Nat, j ≤ d ∧ i = .int .i64 j ∧ s = .int .i64 (bxx j) ∧ wr = w) (fun _ _ i _ => d - (intOf i).toNat)
  case atStart => exact ⟨0, Nat.zero_le _, rfl, by rw [HB0.out], rfl⟩
  case round =>
    obtain ⟨j, hj, rfl, rfl, rfl⟩ := hrel
    by_cases hjd : j < d
    · have HS := HST.out j hjd
      have HSE : Hid (bxx (j + 1) = bxx j * ((hiT P j n - loT P j n) * (k : Int) + 1)) := HS
      have hs1 := HSM.out (j + 1) (by omega)
      rw [HS] at hs1
      have hlh := HB.out j hjd
      have HRJ : Hid (Calls Tryz.prog 37 #[.slice (some ⟨b, o, none⟩) n cap, .int .i64 j] wr fun e w' => e = .returned (.tuple #[.int .i64 (loT P j n), .int .i64 (hiT P j n)]) ∧ w' = wr) := HRG.out j hjd
      generalize loT P j n = L at *
      generalize hiT P j n = M at *
      generalize bxx j = b0 at *
      have hf1 : ((M - L) * (k : Int)).natAbs ≤ 20000 := by
        rw [Int.natAbs_mul]
        exact Nat.le_trans (Nat.mul_le_mul (show (M - L).natAbs ≤ 2000 by omega) (show (k : Int).natAbs ≤ 10 by omega)) (by decide)
      have hw1 : wrap64 ((M - L) * (k : Int)) = (M - L) * (k : Int) := IntWalk.wrap64_in _ ⟨by omega, by omega⟩
      have hw2 : wrap64 ((M - L) * (k : Int) + 1) = (M - L) * (k : Int) + 1 := IntWalk.wrap64_in _ ⟨by omega, by omega⟩
      have hw3 : wrap64 (b0 * ((M - L) * (k : Int) + 1)) = b0 * ((M - L) * (k : Int) + 1) := IntWalk.wrap64_in _ ⟨by omega, by omega⟩
      have hgt : ¬ (200000 : Int) < b0 * ((M - L) * (k : Int) + 1) := by omega
      have hgt2 : decide ((200000 : Int) < wrap64 (b0 * ((M - L) * (k : Int) + 1))) = false := by rw [hw3]; exact decide_eq_false hgt
      have HW3 : Hid (wrap64 (b0 * ((M - L) * (k : Int) + 1)) = b0 * ((M - L) * (k : Int) + 1)) := hw3
      have hjI : (j : Int) < (d : Int) := by omega
      have hjI0 : (0 : Int) ≤ (j : Int) := by omega
      clear HS hs1 hf1
      go_wp2_with fail
      refine HRJ.out.mono ?_
      rintro e w3 ⟨rfl, rfl⟩
      go_wp2
      exact ⟨⟨j + 1, hjd, by go_num, by rw [HW3.out, HSE.out], trivial⟩, by simp [intOf]; omega⟩
    · obtain rfl : d = j := by omega
      clear hj hjd
      go_wp2
      go_ret
      exact ⟨rfl, rfl⟩

end Go.Proofs.YtbmncbbibipoaaaGreat

/- The document's answer: places, number by number: the walk. -/
namespace Go.Proofs.YtbmncbbibipoaaaGreat
open Go.RowKit
attribute [local go_sem ↓] Go.wp_at_zero Go.wp_at_succ

/-- What a row says of a place of k times the polytope. -/
def ovr (k d : Nat) (r x : List Int) : Int := dotL (r.take d) x - r.getD d 0 * (k : Int)

def allB (k d : Nat) (rows : List (List Int)) (x : List Int) : Bool := rows.all fun r => decide (ovr k d r x ≤ 0)
def innB (k d : Nat) (rows : List (List Int)) (x : List Int) : Bool := rows.all fun r => decide (ovr k d r x < 0)

def b01 (b : Bool) : Int := if b = true then 1 else 0

/-- The document's counts. -/
def plA (k d : Nat) (P rows : List (List Int)) : Nat → List Int → Int
  | 0, x => b01 (allB k d rows x)
  | m + 1, x => isum (irange (loT P x.length P.length * (k : Int)) (hiT P x.length P.length * (k : Int))) fun v => plA k d P rows m (x ++ [v])

def plI (k d : Nat) (P rows : List (List Int)) : Nat → List Int → Int
  | 0, x => b01 (innB k d rows x)
  | m + 1, x => isum (irange (loT P x.length P.length * (k : Int)) (hiT P x.length P.length * (k : Int))) fun v => plI k d P rows m (x ++ [v])

theorem b01_bd (b : Bool) : 0 ≤ b01 b ∧ b01 b ≤ 1 := by unfold b01; split <;> omega

/-- What is held of the points and the rows. -/
structure Pfd (d k : Nat) (P rows : List (List Int)) : Prop where
  d1 : 1 ≤ d
  d4 : d ≤ 4
  n1 : 1 ≤ P.length
  nn : P.length ≤ 1000000
  len : ∀ x ∈ P, x.length = d
  rl : ∀ r ∈ rows, r.length = d + 1
  rb : ∀ r ∈ rows, ∀ z ∈ r.take d, z.natAbs ≤ 1000000000000
  rz : ∀ r ∈ rows, (r.getD d 0).natAbs ≤ 1000000000000
  lo : ∀ i, i < d → (loT P i P.length * (k : Int)).natAbs ≤ 1000
  hi : ∀ i, i < d → (hiT P i P.length * (k : Int)).natAbs ≤ 1000
  kb : k ≤ 10
  nr : rows.length ≤ 20000000

theorem pl_bd {d k : Nat} {P rows : List (List Int)} (h : Pfd d k P rows) : ∀ (m : Nat) (x : List Int), x.length + m = d → (0 ≤ plA k d P rows m x ∧ plA k d P rows m x ≤ 2001 ^ m) ∧ (0 ≤ plI k d P rows m x ∧ plI k d P rows m x ≤ 2001 ^ m)
  | 0, x, _ => by
    have h1 := b01_bd (allB k d rows x)
    have h2 := b01_bd (innB k d rows x)
    simp only [plA, plI]
    exact ⟨⟨h1.1, by simpa using h1.2⟩, ⟨h2.1, by simpa using h2.2⟩⟩
  | m + 1, x, hx => by
    have h1 := h.lo x.length (by omega)
    have h2 := h.hi x.length (by omega)
    have hl : ((irange (loT P x.length P.length * (k : Int)) (hiT P x.length P.length * (k : Int))).length : Int) ≤ 2001 := by rw [irange_len]; omega
    have hp : (0 : Int) ≤ 2001 ^ m := Int.pow_nonneg (by decide)
    have hm := Int.mul_le_mul_of_nonneg_right hl hp
    have e : (2001 : Int) ^ (m + 1) = 2001 * 2001 ^ m := by rw [Int.pow_succ, Int.mul_comm]
    rw [e]
    have ih := fun v => pl_bd h m (x ++ [v]) (by simp; omega)
    have a1 := isum_bd (f := fun v => plA k d P rows m (x ++ [v])) (B := 2001 ^ m) (irange (loT P x.length P.length * (k : Int)) (hiT P x.length P.length * (k : Int))) (fun v _ => (ih v).1)
    have a2 := isum_bd (f := fun v => plI k d P rows m (x ++ [v])) (B := 2001 ^ m) (irange (loT P x.length P.length * (k : Int)) (hiT P x.length P.length * (k : Int))) (fun v _ => (ih v).2)
    exact ⟨⟨a1.1, Int.le_trans a1.2 hm⟩, ⟨a2.1, Int.le_trans a2.2 hm⟩⟩

theorem pl_small {d k : Nat} {P rows : List (List Int)} (h : Pfd d k P rows) (m : Nat) (x : List Int) (hx : x.length + m = d) : (0 ≤ plA k d P rows m x ∧ plA k d P rows m x ≤ 20000000000000) ∧ (0 ≤ plI k d P rows m x ∧ plI k d P rows m x ≤ 20000000000000) := by
  have hb := pl_bd h m x hx
  have : m = 0 ∨ m = 1 ∨ m = 2 ∨ m = 3 ∨ m = 4 := by have := h.d4; omega
  have hp : (2001 : Int) ^ m ≤ 20000000000000 := by rcases this with rfl | rfl | rfl | rfl | rfl <;> decide
  exact ⟨⟨hb.1.1, Int.le_trans hb.1.2 hp⟩, ⟨hb.2.1, Int.le_trans hb.2.2 hp⟩⟩

theorem allB_snoc (k d : Nat) (rows : List (List Int)) (x : List Int) (j : Nat) (h : j < rows.length) : allB k d (rows.take (j + 1)) x = (allB k d (rows.take j) x && decide (ovr k d (rows.getD j []) x ≤ 0)) := by
  have e : rows.getD j [] = rows[j] := by simp [h]
  unfold allB
  rw [List.take_succ_eq_append_getElem h, List.all_append, e]
  simp

theorem innB_snoc (k d : Nat) (rows : List (List Int)) (x : List Int) (j : Nat) (h : j < rows.length) : innB k d (rows.take (j + 1)) x = (innB k d (rows.take j) x && decide (ovr k d (rows.getD j []) x < 0)) := by
  have e : rows.getD j [] = rows[j] := by simp [h]
  unfold innB
  rw [List.take_succ_eq_append_getElem h, List.all_append, e]
  simp

set_option maxRecDepth 100000 in
set_option maxHeartbeats 1600000 in
theorem placesD_any (d k : Nat) (P rows : List (List Int)) (pv rv : Value) (hf : Pfd d k P rows) : ∀ (m : Nat) (x : List Int), x.length + m = d → ∀ (xv : Value) (w : World), Mat w.heap.size 22 3 w rv rows → Mat w.heap.size 22 3 w pv P → Sl w.heap.size 3 w xv (ints x) → (∀ z ∈ x, z.natAbs ≤ 1000) →
    Calls Tryz.prog 23 #[rv, pv, .int .i64 k, xv] w fun e w' => e = .returned (.tuple #[.int .i64 (plA k d P rows m x), .int .i64 (plI k d P rows m x)]) ∧ Below w.heap.size w w' := by
  intro m
  induction m with
  | zero =>
    intro x hx xv w hr hp hxs hxb
    have hxd : x.length = d := by omega
    obtain ⟨ro, rc, hrv, hrc1, hrc2⟩ := mat_open hr
    obtain ⟨b, o, cap, r0, hpv, _, hcc, hr0⟩ := mat_cell hp (k := 0) (by have := hf.n1; omega)
    obtain ⟨xo, xc, hxv, _, _⟩ := sl_open hxs
    rw [hxd] at hxv
    subst hrv hpv hxv
    have hm0 : P.getD 0 [] ∈ P := by simp [show 0 < P.length by have := hf.n1; omega]
    obtain ⟨qo, qc, hqv, _, _⟩ := sl_open hr0
    rw [hf.len _ hm0] at hqv
    subst hqv
    have hcc0 : w.cell? ⟨b, o, none⟩ = some (.slice qo d qc) := hcc
    have HF : Hid (Pfd d k P rows) := hf
    have HR : Hid (Mat w.heap.size 22 3 w (.slice ro rows.length rc) rows) := hr
    have HXS : Hid (Sl w.heap.size 3 w (.slice xo d xc) (ints x)) := hxs
    have HXB : Hid (∀ z ∈ x, z.natAbs ≤ 1000) := hxb
    have HXD : Hid (x.length = d) := hxd
    have h0I : (0 : Int) < (P.length : Int) := by have := hf.n1; omega
    have h0N : 0 < P.length := by have := hf.n1; omega
    have hnr : rows.length ≤ 20000000 := hf.nr
    have HPA : Hid (plA k d P rows 0 x = b01 (allB k d rows x) ∧ plI k d P rows 0 x = b01 (innB k d rows x)) := ⟨rfl, rfl⟩
    generalize plA k d P rows 0 x = pa at *
    generalize plI k d P rows 0 x = pi at *
    clear hr hp hxs hxb hxd hr0 hm0 hcc hx
    generalize P.length = pl at *
    go_enter Tryz.func23, Tryz.ntmps23
    go_wp2
    go_loopw [10, 11, 12, 13] (fun s t i _ wr => ∃ j : Nat, j ≤ rows.length ∧ i = .int .i64 j ∧ s = .int .i64 (b01 (allB k d (rows.take j) x)) ∧ t = .int .i64 (b01 (innB k d (rows.take j) x)) ∧ Qw w wr) (fun _ _ i _ _ => rows.length - (intOf i).toNat)
    case atStart => exact ⟨0, Nat.zero_le _, rfl, rfl, rfl, Qw.refl _⟩
    case round =>
      obtain ⟨j, hj, rfl, rfl, rfl, hqw⟩ := hrel
      have HQ : Hid (Qw w wr) := hqw
      have HRr : Hid (Mat w.heap.size 22 3 wr (.slice ro rows.length rc) rows) := HR.out.below hqw.below (Nat.le_refl _)
      have HXr : Hid (Sl w.heap.size 3 wr (.slice xo d xc) (ints x)) := HXS.out.below hqw.below (Nat.le_refl _)
      clear hqw
      by_cases hjl : j < rows.length
      · obtain ⟨b2, o2, cp2, rvv, hs2, _, hcc2, hr2⟩ := mat_cell HRr.out hjl
        simp only [Value.slice.injEq, true_and] at hs2
        obtain ⟨rfl, rfl⟩ := hs2
        have hmem : rows.getD j [] ∈ rows := by simp [hjl]
        have hlen := HF.out.rl _ hmem
        obtain ⟨b3, o3, cp3, hs3, hc3, hcc3⟩ := sl_cell hr2 (k := d) (by rw [hlen]; omega)
        subst hs3
        have HTK : Hid (Sl w.heap.size 3 wr (.slice (some ⟨b3, o3, none⟩) d cp3) (ints ((rows.getD j []).take d))) := Sl.take hr2 (by omega)
        rw [hlen] at hcc2 hc3
        have hzb := HF.out.rz _ hmem
        have hsm : Sm ((rows.getD j []).take d) x := ⟨by rw [List.length_take, HXD.out]; omega, by rw [List.length_take]; have := HF.out.d4; omega, HF.out.rb _ hmem, HXB.out⟩
        have HDT : Hid (∀ nn, Calls Tryz.prog 38 #[.slice (some ⟨b3, o3, none⟩) d cp3, .slice xo d xc] (wr.drewN nn) fun e w' => e = .returned (.int .i64 (dotL ((rows.getD j []).take d) x)) ∧ ∃ n, w' = (wr.drewN nn).drewN n) := fun nn => dotR_any w.heap.size _ x _ _ (wr.drewN nn) (HTK.out.drewN nn) (HXr.out.drewN nn) hsm
        have hdb := dot_small0 hsm
        have HA1 : Hid (allB k d (rows.take (j + 1)) x = (allB k d (rows.take j) x && decide (ovr k d (rows.getD j []) x ≤ 0))) := allB_snoc k d rows x j hjl
        have HI1 : Hid (innB k d (rows.take (j + 1)) x = (innB k d (rows.take j) x && decide (ovr k d (rows.getD j []) x < 0))) := innB_snoc k d rows x j hjl
        have HOE : Hid (ovr k d (rows.getD j []) x = dotL ((rows.getD j []).take d) x - (rows.getD j []).getD d 0 * (k : Int)) := rfl
        rw [HOE.out] at HA1 HI1
        clear hmem hr2 hlen hsm HTK
        generalize dotL ((rows.getD j []).take d) x = D at *
        generalize (rows.getD j []).getD d 0 = z at *
        have hkb := HF.out.kb
        have hpb : (z * (k : Int)).natAbs ≤ 10000000000000 := by
          rw [Int.natAbs_mul]
          exact Nat.le_trans (Nat.mul_le_mul hzb (show (k : Int).natAbs ≤ 10 by omega)) (by decide)
        have hw1 : wrap64 (z * (k : Int)) = z * (k : Int) := IntWalk.wrap64_in _ ⟨by omega, by omega⟩
        have hw2 : wrap64 (D - z * (k : Int)) = D - z * (k : Int) := IntWalk.wrap64_in _ ⟨by omega, by omega⟩
        have HW2 : Hid (wrap64 (D - z * (k : Int)) = D - z * (k : Int)) := hw2
        have hjI : (j : Int) < (rows.length : Int) := by omega
        have hjI0 : (0 : Int) ≤ (j : Int) := by omega
        have hdI : (d : Int) < (d : Int) + 1 := by omega
        have hdI0 : (0 : Int) ≤ (d : Int) := by omega
        have hdN : d < d + 1 := by omega
        have hdc : d ≤ cp3 := by omega
        have hdcI : (d : Int) ≤ (cp3 : Int) := by omega
        have hj2 : j < 20000000 := by omega
        clear hpb hdb hzb
        go_wp2
        go_quiet ((go_at_call 38; exact Calls.quiet_of (w := wr) (HDT.out _)))
        simp only [HW2.out]
        obtain ⟨Wq, hWq⟩ : ∃ Wq, Wq = wr.drewN nq := ⟨_, rfl⟩
        rw [← hWq]
        have HQq : Hid (Qw w Wq) := by rw [hWq]; exact HQ.out.drewN nq
        clear hWq hcc2 hcc3 HDT hw1 hw2 HW2 HOE
        generalize D - z * (k : Int) = V at *
        generalize allB k d (rows.take j) x = A at *
        generalize innB k d (rows.take j) x = I at *
        by_cases h1 : 0 < V
        · have HA2 : Hid (allB k d (rows.take (j + 1)) x = false) := by
            show _ = _
            rw [HA1.out, decide_eq_false (by omega), Bool.and_false]
          have HI2 : Hid (innB k d (rows.take (j + 1)) x = false) := by
            show _ = _
            rw [HI1.out, decide_eq_false (by omega), Bool.and_false]
          have h2 : 0 ≤ V := by omega
          go_wp2
          exact ⟨⟨j + 1, hjl, by go_num, by rw [HA2.out]; rfl, by rw [HI2.out]; rfl, HQq.out⟩, by simp [intOf]; omega⟩
        · by_cases h2 : 0 ≤ V
          · have HA2 : Hid (allB k d (rows.take (j + 1)) x = A) := by
              show _ = _
              rw [HA1.out, decide_eq_true (by omega), Bool.and_true]
            have HI2 : Hid (innB k d (rows.take (j + 1)) x = false) := by
              show _ = _
              rw [HI1.out, decide_eq_false (by omega), Bool.and_false]
            go_wp2
            exact ⟨⟨j + 1, hjl, by go_num, by rw [HA2.out], by rw [HI2.out]; rfl, HQq.out⟩, by simp [intOf]; omega⟩
          · have HA2 : Hid (allB k d (rows.take (j + 1)) x = A) := by
              show _ = _
              rw [HA1.out, decide_eq_true (by omega), Bool.and_true]
            have HI2 : Hid (innB k d (rows.take (j + 1)) x = I) := by
              show _ = _
              rw [HI1.out, decide_eq_true (by omega), Bool.and_true]
            go_wp2
            exact ⟨⟨j + 1, hjl, by go_num, by rw [HA2.out], by rw [HI2.out], HQq.out⟩, by simp [intOf]; omega⟩
      · have HE1 : Hid (b01 (allB k d (rows.take j) x) = pa ∧ b01 (innB k d (rows.take j) x) = pi) := by
          rw [List.take_of_length_le (show rows.length ≤ j by omega)]
          exact ⟨HPA.out.1.symm, HPA.out.2.symm⟩
        rw [HE1.out.1, HE1.out.2]
        have HBF : Hid (Below w.heap.size w wr) := HQ.out.below
        go_wp2
        go_ret2
        exact ⟨rfl, HBF.out⟩
  | succ m ih =>
    intro x hx xv w hr hp hxs hxb
    obtain ⟨i3, hi3, hz30, hz31, hz32⟩ := info_parts Tryz.info3
    have hxd : x.length < d := by omega
    have HIH : Hid (∀ (y : Int) (xv' : Value) (W : World), Below w.heap.size w W → y.natAbs ≤ 1000 → Sl W.heap.size 3 W xv' (ints (x ++ [y])) → Calls Tryz.prog 23 #[rv, pv, .int .i64 k, xv'] W fun e w' => e = .returned (.tuple #[.int .i64 (plA k d P rows m (x ++ [y])), .int .i64 (plI k d P rows m (x ++ [y]))]) ∧ Below W.heap.size W w') := fun y xv' W hW hy hs =>
      ih (x ++ [y]) (by simp; omega) xv' W ((hr.below hW (Nat.le_refl _)).any (Nat.le_refl _)) ((hp.below hW (Nat.le_refl _)).any (Nat.le_refl _)) hs (fun z hz => by
        rcases List.mem_append.1 hz with h | h
        · exact hxb z h
        · simp at h; rw [h]; exact hy)
    have HRG : Hid (Calls Tryz.prog 37 #[pv, .int .i64 (x.length : Int)] w fun e w' => e = .returned (.tuple #[.int .i64 (loT P x.length P.length), .int .i64 (hiT P x.length P.length)]) ∧ w' = w) := range_any w.heap.size d x.length P pv w hp hf.n1 hf.nn hf.len hxd
    have HCP : Hid (∀ W, Below w.heap.size w W → Calls Tryz.prog 30 #[xv] W fun e w' => ∃ u, e = .returned u ∧ w'.ownsRow W.heap.size 3 1 u x.length (ints x) ∧ Below W.heap.size W w') := fun W hW => copy_any w.heap.size x xv W (hxs.below hW (Nat.le_refl _)) (by have := hf.d4; omega)
    have HLB := hf.lo x.length hxd
    have HHB := hf.hi x.length hxd
    have HPS : Hid (∀ y, (0 ≤ plA k d P rows m (x ++ [y]) ∧ plA k d P rows m (x ++ [y]) ≤ 20000000000000) ∧ (0 ≤ plI k d P rows m (x ++ [y]) ∧ plI k d P rows m (x ++ [y]) ≤ 20000000000000)) := fun y => pl_small hf m (x ++ [y]) (by simp; omega)
    have HPT : Hid ((0 ≤ plA k d P rows (m + 1) x ∧ plA k d P rows (m + 1) x ≤ 20000000000000) ∧ (0 ≤ plI k d P rows (m + 1) x ∧ plI k d P rows (m + 1) x ≤ 20000000000000)) := pl_small hf (m + 1) x hx
    obtain ⟨fA, hfA⟩ : ∃ fA : Int → Int, fA = fun v => plA k d P rows m (x ++ [v]) := ⟨_, rfl⟩
    obtain ⟨fI, hfI⟩ : ∃ fI : Int → Int, fI = fun v => plI k d P rows m (x ++ [v]) := ⟨_, rfl⟩
    have HFA : Hid (∀ v, fA v = plA k d P rows m (x ++ [v])) := fun v => by rw [hfA]
    have HFI : Hid (∀ v, fI v = plI k d P rows m (x ++ [v])) := fun v => by rw [hfI]
    have HEA : Hid (plA k d P rows (m + 1) x = isum (irange (loT P x.length P.length * (k : Int)) (hiT P x.length P.length * (k : Int))) fA) := by rw [hfA]; rfl
    have HEI : Hid (plI k d P rows (m + 1) x = isum (irange (loT P x.length P.length * (k : Int)) (hiT P x.length P.length * (k : Int))) fI) := by rw [hfI]; rfl
    obtain ⟨ro, rc, hrv, _, _⟩ := mat_open hr
    obtain ⟨b, o, cap, r0, hpv, _, hcc, hr0⟩ := mat_cell hp (k := 0) (by have := hf.n1; omega)
    obtain ⟨xo, xc, hxv, _, _⟩ := sl_open hxs
    subst hrv hpv hxv
    have hm0 : P.getD 0 [] ∈ P := by simp [show 0 < P.length by have := hf.n1; omega]
    obtain ⟨qo, qc, hqv, _, _⟩ := sl_open hr0
    rw [hf.len _ hm0] at hqv
    subst hqv
    have hcc0 : w.cell? ⟨b, o, none⟩ = some (.slice qo d qc) := hcc
    have h0I : (0 : Int) < (P.length : Int) := by have := hf.n1; omega
    have h0N : 0 < P.length := by have := hf.n1; omega
    have hd4 := hf.d4
    generalize hxl : x.length = xl at *
    have HXL : Hid (x.length = xl) := hxl
    have hne : ((xl : Int) == (d : Int)) = false := by simp; omega
    generalize plA k d P rows (m + 1) x = pa at *
    generalize plI k d P rows (m + 1) x = pi at *
    generalize loT P xl P.length = l0 at *
    generalize hiT P xl P.length = h0 at *
    obtain ⟨L, hL⟩ : ∃ L, L = l0 * (k : Int) := ⟨_, rfl⟩
    obtain ⟨M, hM⟩ : ∃ M, M = h0 * (k : Int) := ⟨_, rfl⟩
    rw [← hL] at HLB HEA HEI
    rw [← hM] at HHB HEA HEI
    have HWL : Hid (wrap64 (l0 * (k : Int)) = L) := by rw [← hL]; exact IntWalk.wrap64_in _ ⟨by omega, by omega⟩
    have HWM : Hid (wrap64 (h0 * (k : Int)) = M) := by rw [← hM]; exact IntWalk.wrap64_in _ ⟨by omega, by omega⟩
    clear ih hr hp hxs hxb hr0 hm0 hcc hx hxl hfA hfI hL hM
    generalize P.length = pl at *
    go_enter Tryz.func23, Tryz.ntmps23
    go_wp2_with fail
    refine HRG.out.mono ?_
    rintro e w1 ⟨rfl, rfl⟩
    go_wp2
    simp only [HWL.out]
    clear hcc0
    obtain ⟨n, hn⟩ : ∃ n : Nat, n = (M - L + 1).toNat := ⟨_, rfl⟩
    have hn2 : n ≤ 2001 := by omega
    have HNN : Hid (n = (M - L + 1).toNat) := hn
    clear hn
    have HBA : Hid (∀ q, 0 ≤ isum ((irange L M).take q) fA ∧ isum ((irange L M).take q) fA ≤ 20000000000000) := fun q => by
      have h := isum_take_le (l := irange L M) (f := fA) (fun v => by rw [HFA.out v]; exact (HPS.out v).1.1) q
      rw [← HEA.out] at h
      exact ⟨h.1, Int.le_trans h.2 HPT.out.1.2⟩
    have HBI : Hid (∀ q, 0 ≤ isum ((irange L M).take q) fI ∧ isum ((irange L M).take q) fI ≤ 20000000000000) := fun q => by
      have h := isum_take_le (l := irange L M) (f := fI) (fun v => by rw [HFI.out v]; exact (HPS.out v).2.1) q
      rw [← HEI.out] at h
      exact ⟨h.1, Int.le_trans h.2 HPT.out.2.2⟩
    go_loopw [16, 17, 18] (fun s t i wr => ∃ q : Nat, q ≤ n ∧ i = .int .i64 (L + (q : Int)) ∧ s = .int .i64 (isum ((irange L M).take q) fA) ∧ t = .int .i64 (isum ((irange L M).take q) fI) ∧ Below w1.heap.size w1 wr) (fun _ _ i _ => (M + 1 - intOf i).toNat)
    case atStart => exact ⟨0, Nat.zero_le _, by simp, rfl, rfl, Below.refl _ _⟩
    case round =>
      obtain ⟨q, hq, rfl, rfl, rfl, hbel⟩ := hrel
      have HB : Hid (Below w1.heap.size w1 wr) := hbel
      clear hbel
      by_cases hql : q < n
      · have hqI : L + (q : Int) ≤ M := by have := HNN.out; omega
        have HSA : Hid (isum ((irange L M).take (q + 1)) fA = isum ((irange L M).take q) fA + fA (L + q)) := by
          have h1 := HNN.out
          have h := isum_take_succ (irange L M) fA q (by rw [irange_len]; omega)
          rw [irange_get L M q (by omega)] at h
          exact h
        have HSI : Hid (isum ((irange L M).take (q + 1)) fI = isum ((irange L M).take q) fI + fI (L + q)) := by
          have h1 := HNN.out
          have h := isum_take_succ (irange L M) fI q (by rw [irange_len]; omega)
          rw [irange_get L M q (by omega)] at h
          exact h
        have ha1 := HBA.out q
        have hi1 := HBI.out q
        have ha2 := HBA.out (q + 1)
        have hi2 := HBI.out (q + 1)
        rw [HSA.out] at ha2
        rw [HSI.out] at hi2
        have HCA : Hid (∀ (xv' : Value) (W : World), Below w1.heap.size w1 W → Sl W.heap.size 3 W xv' (ints (x ++ [L + (q : Int)])) → Calls Tryz.prog 23 #[.slice ro rows.length rc, .slice (some ⟨b, o, none⟩) pl cap, .int .i64 k, xv'] W fun e w' => e = .returned (.tuple #[.int .i64 (fA (L + q)), .int .i64 (fI (L + q))]) ∧ Below W.heap.size W w') := fun xv' W hW hs => by
          rw [HFA.out, HFI.out]
          exact HIH.out (L + q) xv' W hW (by omega) hs
        generalize isum ((irange L M).take q) fA = sA at *
        generalize isum ((irange L M).take q) fI = sI at *
        generalize fA (L + q) = vA at *
        generalize fI (L + q) = vI at *
        have q1 := ha1.1
        have q2 := ha2.2
        have q3 := hi1.1
        have q4 := hi2.2
        have q5 := ha2.1
        have q6 := hi2.1
        have q7 := ha1.2
        have q8 := hi1.2
        have hmw : wrap64 (h0 * (k : Int)) = M := HWM.out
        clear ha1 ha2 hi1 hi2
        go_wp2_with fail
        refine (HCP.out wr HB.out).mono ?_
        rintro e w2 ⟨u, rfl, huo, hb2⟩
        have HUO : Hid (w2.ownsRow wr.heap.size 3 1 u xl (ints x)) := huo
        have HB2 : Hid (Below wr.heap.size wr w2) := hb2
        have hsz2 : wr.heap.size ≤ w2.heap.size := hb2.size
        clear huo hb2
        go_wp2_with (first | (at_builtin; refine wpList_append_own _ rfl _ _ 22 rfl wr.heap.size 3 i3 (.int .i64 0) 1 8 Tryz.underlying22 hi3 hz30 hz31 hz32 rfl (by decide) _ _ _ rfl (HUO.out.alloc _) ⟨w2.heap.size, 0, none⟩ 1 1 [.int .i64 (L + (q : Int))] rfl rfl (one_new _ _ _) (one_int _) ?c3 ?c4 ?c5 ?_))
        case c3 => unfold maxLen; omega
        case c4 => omega
        case c5 => first | exact hsz2 | omega | (simp; omega)
        intro v' w3 ho3 hg3 _
        have HB3 : Hid (Below wr.heap.size wr w3) := (HB2.out.alloc hsz2 _).grown hg3 (by simp; omega) (fun x hx => (HUO.out.lt x hx).1)
        have HSL : Hid (Sl w3.heap.size 3 w3 v' (ints (x ++ [L + (q : Int)]))) := by
          have e : ints (x ++ [L + (q : Int)]) = ints x ++ [.int .i64 (L + (q : Int))] := by simp [ints]
          rw [e]
          exact (Sl.own (B := 0) ho3).any (Nat.le_refl _)
        have HBw3 : Hid (Below w1.heap.size w1 w3) := HB.out.trans (HB3.out.mono HB.out.size)
        clear ho3 hg3 HUO
        go_wp2_with fail
        refine (HCA.out v' w3 HBw3.out HSL.out).mono ?_
        rintro e w4 ⟨rfl, hb4⟩
        have HB4 : Hid (Below w1.heap.size w1 w4) := HBw3.out.trans (hb4.mono HBw3.out.size)
        clear hb4 HCA HSL
        go_wp2
        exact ⟨⟨q + 1, hql, by go_num, by rw [HSA.out], by rw [HSI.out], HB4.out⟩, by simp [intOf]; omega⟩
      · have HE : Hid (isum ((irange L M).take q) fA = pa ∧ isum ((irange L M).take q) fI = pi) := by
          rw [List.take_of_length_le (by rw [irange_len]; have := HNN.out; omega)]
          exact ⟨HEA.out.symm, HEI.out.symm⟩
        have hqI : ¬ (L + (q : Int) ≤ M) := by have := HNN.out; omega
        rw [HE.out.1, HE.out.2]
        have hmw : wrap64 (h0 * (k : Int)) = M := HWM.out
        clear hq hql
        go_wp2
        go_ret2
        exact ⟨rfl, HB.out⟩

end Go.Proofs.YtbmncbbibipoaaaGreat

/- The program's count is the document's. -/
namespace Go.Proofs.YtbmncbbibipoaaaGreat

/-- Number by number, by what rows still have room for. -/
def cn (k : Nat) (lo hi : List Int) (rows : List (List Int)) : Nat → Nat → List Int → Int
  | 0, _, rooms => b01 (rooms.all fun R => decide (0 ≤ R))
  | m + 1, dir, rooms => isum (irange (lok k lo dir) (lok k hi dir)) fun v => cn k lo hi rows m (dir + 1) (lef rows rooms dir v)

theorem thr_cn (k : Nat) (lo hi : List Int) (rows : List (List Int)) : ∀ (rem dir : Nat) (rooms : List Int), thr k lo hi rows rem dir rooms = cn k lo hi rows (rem + 1) dir rooms
  | 0, dir, rooms => by
    show (endsOf ⟨lok k lo dir, lok k hi dir, true⟩ (prs rows rooms dir)).cnt = isum (irange (lok k lo dir) (lok k hi dir)) fun v => b01 ((lef rows rooms dir v).all fun R => decide (0 ≤ R))
    rw [along_eq]
    refine isum_congr fun v _ => ?_
    have e : ((lef rows rooms dir v).all fun R => decide (0 ≤ R)) = decide (∀ p ∈ prs rows rooms dir, p.1 * v ≤ p.2) := by
      rw [Bool.eq_iff_iff, decide_eq_true_iff, List.all_eq_true]
      constructor
      · intro h p hp
        unfold prs at hp
        obtain ⟨j, hj, rfl⟩ := List.mem_map.1 hp
        have := of_decide_eq_true (h (rooms.getD j 0 - (rows.getD j []).getD dir 0 * v) (by unfold lef; exact List.mem_map.2 ⟨j, hj, rfl⟩))
        show (rows.getD j []).getD dir 0 * v ≤ rooms.getD j 0
        omega
      · intro h R hR
        unfold lef at hR
        obtain ⟨j, hj, rfl⟩ := List.mem_map.1 hR
        have := h ((rows.getD j []).getD dir 0, rooms.getD j 0) (by unfold prs; exact List.mem_map.2 ⟨j, hj, rfl⟩)
        have h2 : (rows.getD j []).getD dir 0 * v ≤ rooms.getD j 0 := this
        exact decide_eq_true (by omega)
    rw [e]
    unfold b01
    simp only [decide_eq_true_eq]
  | rem + 1, dir, rooms => by
    show isum (irange (lok k lo dir) (lok k hi dir)) (fun v => thr k lo hi rows rem (dir + 1) (lef rows rooms dir v)) = isum (irange (lok k lo dir) (lok k hi dir)) fun v => cn k lo hi rows (rem + 1) (dir + 1) (lef rows rooms dir v)
    exact isum_congr fun v _ => thr_cn k lo hi rows rem (dir + 1) _

/-- What rows have room for behind the first numbers of a place. -/
def rmx (k : Nat) (sp : Int) (d : Nat) (rows : List (List Int)) (x : List Int) : List Int := rows.map fun r => (k : Int) * r.getD d 0 - sp - dotL (r.take x.length) x

theorem rmx_nil (k : Nat) (sp : Int) (d : Nat) (rows : List (List Int)) : rmx k sp d rows [] = rms k sp d rows := by
  unfold rmx rms
  refine List.map_congr_left fun r _ => ?_
  simp [dotL, Lin.sumN]

theorem dotL_snoc {r x : List Int} {v : Int} (h : x.length < r.length) : dotL (r.take (x.length + 1)) (x ++ [v]) = dotL (r.take x.length) x + r.getD x.length 0 * v := by
  unfold dotL
  have e1 : (r.take (x.length + 1)).length = x.length + 1 := by rw [List.length_take]; omega
  have e2 : (r.take x.length).length = x.length := by rw [List.length_take]; omega
  rw [e1, e2]
  show Lin.sumN x.length (fun i => (r.take (x.length + 1)).getD i 0 * (x ++ [v]).getD i 0) + (r.take (x.length + 1)).getD x.length 0 * (x ++ [v]).getD x.length 0 = _
  have a1 : (r.take (x.length + 1)).getD x.length 0 = r.getD x.length 0 := by
    simp only [List.getD_eq_getElem?_getD]; rw [List.getElem?_take_of_lt (by omega)]
  have a2 : (x ++ [v]).getD x.length 0 = v := by simp
  rw [a1, a2]
  congr 1
  refine Lin.sumN_congr fun i hi => ?_
  have b1 : (r.take (x.length + 1)).getD i 0 = (r.take x.length).getD i 0 := by
    simp only [List.getD_eq_getElem?_getD]; rw [List.getElem?_take_of_lt (by omega), List.getElem?_take_of_lt hi]
  have b2 : (x ++ [v]).getD i 0 = x.getD i 0 := by
    simp only [List.getD_eq_getElem?_getD]; rw [List.getElem?_append_left hi]
  rw [b1, b2]

theorem lef_rmx {k d : Nat} {sp : Int} {rows : List (List Int)} {x : List Int} {v : Int} (hr : ∀ r ∈ rows, r.length = d + 1) (hx : x.length < d) : lef rows (rmx k sp d rows x) x.length v = rmx k sp d rows (x ++ [v]) := by
  have hl : (rmx k sp d rows x).length = rows.length := by simp [rmx]
  apply List.ext_getElem
  · simp [lef, rmx]
  · intro j h1 h2
    have hj : j < rows.length := by simpa [lef] using h1
    have hrj := hr rows[j] (List.getElem_mem hj)
    have e := dotL_snoc (r := rows[j]) (x := x) (v := v) (by omega)
    simp only [lef, rmx, List.getElem_map, List.getElem_range, List.length_append, List.length_cons, List.length_nil, Nat.zero_add]
    rw [e]
    have e1 : (rows.map fun r => (k : Int) * r.getD d 0 - sp - dotL (r.take x.length) x).getD j 0 = (k : Int) * rows[j].getD d 0 - sp - dotL (rows[j].take x.length) x := by simp [hj]
    have e2 : rows.getD j [] = rows[j] := by simp [hj]
    rw [e1, e2]
    omega

theorem pl_cn {k d : Nat} {P rows : List (List Int)} (hr : ∀ r ∈ rows, r.length = d + 1) : ∀ (m : Nat) (x : List Int), x.length + m = d →
    plA k d P rows m x = cn k (loL P d) (hiL P d) rows m x.length (rmx k 0 d rows x) ∧ plI k d P rows m x = cn k (loL P d) (hiL P d) rows m x.length (rmx k 1 d rows x)
  | 0, x, hx => by
    have hxd : x.length = d := by omega
    have ha : allB k d rows x = (rmx k 0 d rows x).all fun R => decide (0 ≤ R) := by
      unfold allB rmx
      rw [List.all_map]
      congr 1
      funext r
      refine decide_eq_decide.2 ?_
      have e : ovr k d r x = dotL (r.take x.length) x - (k : Int) * r.getD d 0 := by unfold ovr; rw [hxd, Int.mul_comm]
      rw [e]
      dsimp only
      omega
    have hi : innB k d rows x = (rmx k 1 d rows x).all fun R => decide (0 ≤ R) := by
      unfold innB rmx
      rw [List.all_map]
      congr 1
      funext r
      refine decide_eq_decide.2 ?_
      have e : ovr k d r x = dotL (r.take x.length) x - (k : Int) * r.getD d 0 := by unfold ovr; rw [hxd, Int.mul_comm]
      rw [e]
      dsimp only
      omega
    exact ⟨by simp only [plA, cn, ha], by simp only [plI, cn, hi]⟩
  | m + 1, x, hx => by
    have hxd : x.length < d := by omega
    have el : loT P x.length P.length * (k : Int) = lok k (loL P d) x.length := by unfold lok; rw [loL_get hxd, Int.mul_comm]
    have eh : hiT P x.length P.length * (k : Int) = lok k (hiL P d) x.length := by unfold lok; rw [hiL_get hxd, Int.mul_comm]
    have ih := fun v => pl_cn (P := P) (k := k) hr m (x ++ [v]) (by simp; omega)
    simp only [plA, plI, cn, el, eh]
    constructor
    · refine isum_congr fun v _ => ?_
      rw [(ih v).1, lef_rmx hr hxd]
      simp
    · refine isum_congr fun v _ => ?_
      rw [(ih v).2, lef_rmx hr hxd]
      simp

/-- One and the same count. -/
theorem count_eq {k d : Nat} {P rows : List (List Int)} (hd : 1 ≤ d) (hr : ∀ r ∈ rows, r.length = d + 1) :
    plA k d P rows d [] = thr k (loL P d) (hiL P d) rows (d - 1) 0 (rms k 0 d rows) ∧ plI k d P rows d [] = thr k (loL P d) (hiL P d) rows (d - 1) 0 (rms k 1 d rows) := by
  have h := pl_cn (P := P) (k := k) hr d [] (by simp)
  rw [h.1, h.2, rmx_nil, rmx_nil, thr_cn, thr_cn, show d - 1 + 1 = d by omega]
  exact ⟨rfl, rfl⟩

end Go.Proofs.YtbmncbbibipoaaaGreat
