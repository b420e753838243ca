import Derived.Test.YtkdileeahbaobaaDoorMt1
import Derived.Deep.QuietTactic
import Derived.BigQuiet
/- slices.BinarySearch at numbers that rise. -/
namespace Go.Proofs.YtkdileeahbaobaaDoor
open Go.RowKit
attribute [local go_sem ↓] Go.wp_at_zero Go.wp_at_succ

set_option maxRecDepth 100000 in
theorem isNaNS_any (x : Int) (w : World) :
    Calls Tryd.prog 44 #[.int .i64 x] w fun e w' => e = .returned (.bool false) ∧ w' = w := by
  go_enter Tryd.func44, Tryd.ntmps44
  have h : (x != x) = false := by simp
  go_wp2
  go_ret
  exact ⟨rfl, rfl⟩

set_option maxRecDepth 100000 in
theorem isNaNC_any (x : Int) (w : World) :
    Calls Tryd.prog 45 #[.int .i64 x] w fun e w' => e = .returned (.bool false) ∧ w' = w := by
  go_enter Tryd.func45, Tryd.ntmps45
  have h : (x != x) = false := by simp
  go_wp2
  go_ret
  exact ⟨rfl, rfl⟩

set_option maxRecDepth 100000 in
theorem lessI_any (x y : Int) (w : World) :
    Calls Tryd.prog 43 #[.int .i64 x, .int .i64 y] w fun e w' => e = .returned (.bool (decide (x < y))) ∧ w' = w := by
  go_enter Tryd.func43, Tryd.ntmps43
  go_wp2_with fail
  refine (isNaNC_any x w).mono ?_
  rintro e w' ⟨rfl, rfl⟩
  go_wp2
  go_ret
  exact ⟨rfl, rfl⟩

/-- How far a search has come. -/
structure Srch (xs : List Int) (t : Int) (i j : Nat) : Prop where
  ij : i ≤ j
  jn : j ≤ xs.length
  lo : ∀ k, k < i → xs.getD k 0 < t
  hi : ∀ k, j ≤ k → k < xs.length → t ≤ xs.getD k 0

theorem ris_le {xs : List Int} (h : Ris xs) {i j : Nat} (hij : i ≤ j) (hj : j < xs.length) : xs.getD i 0 ≤ xs.getD j 0 := by
  rcases Nat.lt_or_ge i j with h1 | h1
  · have := List.pairwise_iff_getElem.1 h i j (by omega) hj h1
    simp only [List.getD_eq_getElem?_getD]
    rw [List.getElem?_eq_getElem (by omega), List.getElem?_eq_getElem hj]
    simp only [Option.getD_some]
    omega
  · have : i = j := by omega
    subst this
    exact Int.le_refl _

theorem Srch.up {xs : List Int} {t : Int} {i j h : Nat} (hs : Srch xs t i j) (hr : Ris xs) (h2 : h < j) (hl : xs.getD h 0 < t) : Srch xs t (h + 1) j :=
  ⟨by omega, hs.jn, fun k hk => by
    have := ris_le hr (i := k) (j := h) (by omega) (by have := hs.jn; omega)
    omega, hs.hi⟩

theorem Srch.down {xs : List Int} {t : Int} {i j h : Nat} (hs : Srch xs t i j) (hr : Ris xs) (h1 : i ≤ h) (h2 : h < j) (hl : ¬ xs.getD h 0 < t) : Srch xs t i h :=
  ⟨h1, by have := hs.jn; omega, hs.lo, fun k hk hk2 => by
    have := ris_le hr (i := h) (j := k) hk hk2
    omega⟩

theorem Srch.fin {xs : List Int} {t : Int} {i : Nat} (hs : Srch xs t i i) (hr : Ris xs) : xs.contains t = (decide (i < xs.length) && (xs.getD i 0 == t)) := by
  rw [Bool.eq_iff_iff]
  simp only [List.contains_iff_mem, Bool.and_eq_true, decide_eq_true_eq, beq_iff_eq]
  constructor
  · intro hm
    obtain ⟨k, hk, e⟩ := List.getElem_of_mem hm
    have e' : xs.getD k 0 = t := by simp [hk, e]
    have h1 : ¬ k < i := fun h => by have := hs.lo k h; omega
    have h2 := ris_le hr (i := i) (j := k) (by omega) hk
    have h3 := hs.hi i (Nat.le_refl _) (by omega)
    exact ⟨by omega, by omega⟩
  · rintro ⟨h1, h2⟩
    rw [← h2]; simp [h1]

/-- How many are less. -/
def bsI (xs : List Int) (t : Int) : Nat := (xs.filter (fun z => decide (z < t))).length

theorem Srch.idx {xs : List Int} {t : Int} {i : Nat} (hs : Srch xs t i i) : i = bsI xs t := by
  have h1 : (xs.take i).filter (fun z => decide (z < t)) = xs.take i := List.filter_eq_self.2 (fun a ha => by
    obtain ⟨k, hk, rfl⟩ := List.mem_take_iff_getElem.1 ha
    have := hs.lo k (by omega)
    rw [List.getD_eq_getElem?_getD, List.getElem?_eq_getElem (by omega), Option.getD_some] at this
    exact decide_eq_true this)
  have h2 : (xs.drop i).filter (fun z => decide (z < t)) = [] := List.filter_eq_nil_iff.2 (fun a ha => by
    obtain ⟨k, hk, rfl⟩ := List.mem_drop_iff_getElem.1 ha
    have := hs.hi (i + k) (by omega) (by omega)
    rw [List.getD_eq_getElem?_getD, List.getElem?_eq_getElem (by omega), Option.getD_some] at this
    simp
    omega)
  have h3 : bsI xs t = ((xs.take i ++ xs.drop i).filter (fun z => decide (z < t))).length := by rw [List.take_append_drop]; rfl
  rw [h3, List.filter_append, h1, h2, List.append_nil, List.length_take]
  have := hs.jn
  omega

set_option maxRecDepth 100000 in
set_option maxHeartbeats 800000 in
theorem binS_any (B : Nat) (xs : List Int) (t : Int) (v : Value) (w : World) (hv : Sl B 3 w v (ints xs)) (hr : Ris xs) (hl : xs.length ≤ 1000000) :
    Calls Tryd.prog 42 #[v, .int .i64 t] w fun e w' => e = .returned (.tuple #[.int .i64 (bsI xs t), .bool (xs.contains t)]) ∧ w' = w := by
  obtain ⟨ao, cap, hvv, hlc, hcm⟩ := sl_open hv
  subst hvv
  have HV : Hid (Sl B 3 w (.slice ao xs.length cap) (ints xs)) := hv
  have HR : Hid (Ris xs) := hr
  clear hv hr
  go_enter Tryd.func42, Tryd.ntmps42
  go_wp2
  go_loopw [7, 8, 9] (fun a b _ wr => ∃ i j : Nat, a = .int .i64 i ∧ b = .int .i64 j ∧ Srch xs t i j ∧ wr = w) (fun a b _ _ => (intOf b).toNat - (intOf a).toNat)
  case atStart => exact ⟨0, xs.length, rfl, rfl, ⟨Nat.zero_le _, Nat.le_refl _, fun k hk => by omega, fun k h1 h2 => by omega⟩, rfl⟩
  case round =>
    obtain ⟨i, j, rfl, rfl, hs, rfl⟩ := hrel
    have HS : Hid (Srch xs t i j) := hs
    have hij := hs.ij
    have hjn := hs.jn
    clear hs
    by_cases hlt : i < j
    · have h1 : i ≤ (i + j) / 2 := by omega
      have h2 : (i + j) / 2 < j := by omega
      obtain ⟨cb, co, cc, hsl, _, hcc⟩ := sl_cell HV.out (k := (i + j) / 2) (by omega)
      simp only [Value.slice.injEq] at hsl
      obtain ⟨rfl, -, rfl⟩ := hsl
      have HUP : Hid (xs.getD ((i + j) / 2) 0 < t → Srch xs t ((i + j) / 2 + 1) j) := fun hx => HS.out.up HR.out h2 hx
      have HDN : Hid (¬ xs.getD ((i + j) / 2) 0 < t → Srch xs t i ((i + j) / 2)) := fun hx => HS.out.down HR.out h1 h2 hx
      have hI : ((i : Int) + (j : Int)) / 2 < (xs.length : Int) := by omega
      have hI0 : (0 : Int) ≤ ((i : Int) + (j : Int)) / 2 := by omega
      have hij2 : (i : Int) < (j : Int) := by omega
      have hsum : (i : Int) + (j : Int) ≤ 2000000 := by omega
      generalize xs.getD ((i + j) / 2) 0 = z at *
      go_wp2_with fail
      refine (lessI_any z t wr).mono ?_
      rintro e w' ⟨rfl, rfl⟩
      by_cases hz : z < t
      · have hd : decide (z < t) = true := decide_eq_true hz
        go_wp2
        go_roundw
        case rel => exact ⟨(i + j) / 2 + 1, j, by go_num, rfl, HUP.out hz, trivial⟩
        case measure => simp [intOf]; omega
      · have hd : decide (z < t) = false := decide_eq_false hz
        go_wp2
        go_roundw
        case rel => exact ⟨i, (i + j) / 2, rfl, by go_num, HDN.out hz, trivial⟩
        case measure => simp [intOf]; omega
    · have hie : i = j := by omega
      subst hie
      have hij3 : decide ((i : Int) < (i : Int)) = false := decide_eq_false (by omega)
      have HF0 := HS.out.fin HR.out
      have HIX : Hid (i = bsI xs t) := HS.out.idx
      by_cases hin : i < xs.length
      · obtain ⟨cb, co, cc, hsl, _, hcc⟩ := sl_cell HV.out (k := i) hin
        simp only [Value.slice.injEq] at hsl
        obtain ⟨rfl, -, rfl⟩ := hsl
        have hI : (i : Int) < (xs.length : Int) := by omega
        have hI0 : (0 : Int) ≤ (i : Int) := by omega
        have hIn : decide ((i : Int) < (xs.length : Int)) = true := decide_eq_true hI
        rw [decide_eq_true hin, Bool.true_and] at HF0
        generalize xs.getD i 0 = z at *
        cases hz : (z == t) with
        | true =>
          have HF : Hid (xs.contains t = _) := HF0.trans hz
          clear HF0
          go_wp2
          go_ret2
          exact ⟨by rw [HF.out, ← HIX.out]; rfl, rfl⟩
        | false =>
          have HF : Hid (xs.contains t = _) := HF0.trans hz
          clear HF0
          go_wp2_with fail
          refine (isNaNS_any z wr).mono ?_
          rintro e w' ⟨rfl, rfl⟩
          go_wp2
          go_ret2
          exact ⟨by rw [HF.out, ← HIX.out]; rfl, rfl⟩
      · have hIn : decide ((i : Int) < (xs.length : Int)) = false := decide_eq_false (by omega)
        rw [decide_eq_false hin, Bool.false_and] at HF0
        have HF : Hid (xs.contains t = false) := HF0
        clear HF0
        go_wp2
        go_ret2
        exact ⟨by rw [HF.out, ← HIX.out]; rfl, rfl⟩

end Go.Proofs.YtkdileeahbaobaaDoor

/- matroid.givesAll: each thing of a set that another has not can be given for one of it. -/
namespace Go.Proofs.YtkdileeahbaobaaDoor
open Go.RowKit
attribute [local go_sem ↓] Go.wp_at_zero Go.wp_at_succ

/-- A set with one thing given for another. -/
def swp (a x y : Nat) : Nat := outN a (2 ^ x) ||| 2 ^ y

theorem outN_le (a b : Nat) : outN a b ≤ a := by
  unfold outN
  refine Nat.le_of_testBit fun i => ?_
  rw [Nat.testBit_xor, Nat.testBit_and]
  cases a.testBit i <;> simp

theorem swp_lt {a x y : Nat} (ha : a < 256) (hy : y < 8) : swp a x y < 256 := by
  unfold swp
  exact Nat.or_lt_two_pow (n := 8) (Nat.lt_of_le_of_lt (outN_le _ _) ha) (Nat.pow_lt_pow_right (by omega) hy)

set_option maxRecDepth 100000 in
set_option maxHeartbeats 800000 in
theorem stand_any (B : Nat) (bs : List Int) (a x y : Nat) (v : Value) (p1 p2 p3 : Addr) (w : World) (hv : Sl B 3 w v (ints bs)) (hr : Ris bs) (hl : bs.length ≤ 1000000) (ha : a < 256) (hx : x < 8) (hy : y < 8)
    (h1 : w.cell? p1 = some v) (h2 : w.cell? p2 = some (.int .u64 a)) (h3 : w.cell? p3 = some (.int .i64 x)) :
    Calls Tryd.prog 41 #[.int .i64 y, .pointer (some p1), .pointer (some p2), .pointer (some p3)] w fun e w' => e = .returned (.bool (bs.contains (swp a x y : Int))) ∧ ∃ n, w' = w.drewN n := by
  obtain ⟨ao, cap, hvv, hlc, hcm⟩ := sl_open hv
  subst hvv
  have hpx : 2 ^ x < 256 := Nat.pow_lt_pow_right (n := 8) (by omega) hx
  have hpy : 2 ^ y < 256 := Nat.pow_lt_pow_right (n := 8) (by omega) hy
  have HBS : Hid (∀ q, Calls Tryd.prog 42 #[.slice ao bs.length cap, .int .i64 (swp a x y)] (w.drewN q) fun e w' => e = .returned (.tuple #[.int .i64 (bsI bs (swp a x y)), .bool (bs.contains (swp a x y : Int))]) ∧ w' = w.drewN q) := fun q => binS_any B bs _ _ _ (hv.drewN q) hr hl
  have HO1 : Hid (∀ q, Calls Tryd.prog 23 #[.int .i64 x] (w.drewN q) fun e w' => e = .returned (.int .u64 ((2 ^ x : Nat) : Int)) ∧ w' = w.drewN q) := fun q => by
    have := one_any (x : Int) (w.drewN q) (by omega) (by omega)
    rw [Int.toNat_natCast] at this
    exact this
  have HO2 : Hid (∀ q, Calls Tryd.prog 23 #[.int .i64 y] (w.drewN q) fun e w' => e = .returned (.int .u64 ((2 ^ y : Nat) : Int)) ∧ w' = w.drewN q) := fun q => by
    have := one_any (y : Int) (w.drewN q) (by omega) (by omega)
    rw [Int.toNat_natCast] at this
    exact this
  have e1 : bits .andNot .u64 (a : Int) ((2 ^ x : Nat) : Int) = ((outN a (2 ^ x) : Nat) : Int) := bits_andNot_u64_nat a _ (by omega) (by omega)
  have e2 : bits .or .u64 ((outN a (2 ^ x) : Nat) : Int) ((2 ^ y : Nat) : Int) = ((swp a x y : Nat) : Int) := bits_or_u64_nat _ _ (by have := outN_le a (2 ^ x); omega) (by omega)
  have e3 := swp_lt (x := x) ha hy
  clear hv hr
  generalize hsw : swp a x y = S at *
  generalize outN a (2 ^ x) = T at *
  generalize 2 ^ x = X at *
  generalize 2 ^ y = Y at *
  clear hsw
  generalize bs.contains (S : Int) = C at *
  go_enter Tryd.func41, Tryd.ntmps41
  go_wp2_with fail
  go_big_quiet (first | (go_at_call 42; exact Calls.quiet_of_same (w := w) (HBS.out _)) | (go_at_call 23; first | exact Calls.quiet_of_same (w := w) (HO1.out _) | exact Calls.quiet_of_same (w := w) (HO2.out _)))
  go_wp2
  go_ret
  exact ⟨rfl, nq, rfl⟩

set_option maxRecDepth 100000 in
set_option maxHeartbeats 400000 in
theorem indexG_any (B : Nat) (p : Int → Bool) (zs : List Int) (v : Value) (p1 p2 p3 : Addr) (w : World) (hv : Sl B 3 w v (ints zs))
    (hc : ∀ x ∈ zs, ∀ q, Calls Tryd.prog 41 #[.int .i64 x, .pointer (some p1), .pointer (some p2), .pointer (some p3)] (w.drewN q) fun e w' => e = .returned (.bool (p x)) ∧ ∃ n, w' = w.drewN n) :
    Calls Tryd.prog 36 #[v, .func (.func 41) #[] #[.pointer (some p1), .pointer (some p2), .pointer (some p3)]] w fun e w' => e = .returned (.int .i64 (findI p zs)) ∧ ∃ n, w' = w.drewN n := by
  obtain ⟨ao, cap, hvv, hlc, hcm⟩ := sl_open hv
  subst hvv
  have HV : Hid (Sl B 3 w (.slice ao zs.length cap) (ints zs)) := hv
  have HIL : Hid (∀ x ∈ zs, ∀ q, Calls Tryd.prog 41 #[.int .i64 x, .pointer (some p1), .pointer (some p2), .pointer (some p3)] (w.drewN q) fun e w' => e = .returned (.bool (p x)) ∧ ∃ n, w' = w.drewN n) := hc
  clear hv hc
  go_enter Tryd.func36, Tryd.ntmps36
  go_wp2
  go_loopw [5, 8] (fun _ i wr => ∃ k : Nat, k ≤ zs.length ∧ i = .int .i64 k ∧ (zs.take k).any p = false ∧ ∃ n, wr = w.drewN n) (fun _ i _ => zs.length - (intOf i).toNat)
  case atStart => exact ⟨0, Nat.zero_le _, rfl, by simp, 0, rfl⟩
  case round =>
    obtain ⟨k, hk, rfl, hno, d, rfl⟩ := hrel
    have HN : Hid ((zs.take k).any p = false) := hno
    clear hno
    by_cases hlt : k < zs.length
    · obtain ⟨b', o, cp, hs, hc1, hcc⟩ := sl_cell HV.out hlt
      simp only [Value.slice.injEq] at hs
      obtain ⟨rfl, _, rfl⟩ := hs
      have HS1 : Hid ((zs.take (k + 1)).any p = p zs[k]) := any_snoc (p := p) hlt HN.out
      have HH : Hid (p zs[k] = true → findI p zs = k) := fun h => findI_hit (p := p) hlt HN.out h
      rw [show zs.getD k 0 = zs[k] by simp [hlt]] at hcc
      have HIX : Hid (Calls Tryd.prog 41 #[.int .i64 zs[k], .pointer (some p1), .pointer (some p2), .pointer (some p3)] (w.drewN d) fun e w' => e = .returned (.bool (p zs[k])) ∧ ∃ n, w' = w.drewN n) := HIL.out _ (List.getElem_mem _) d
      generalize zs[k] = x at *
      generalize p x = fb at *
      have hcc2 : (w.drewN d).cell? ⟨b', o + k, none⟩ = some (.int .i64 x) := hcc
      cases fb
      · go_wp2_with (go_at_call 41; refine HIX.out.mono ?_; rintro e w' ⟨rfl, n, rfl⟩)
        go_roundw
        case rel => exact ⟨k + 1, by omega, by go_num, HS1.out, _, rfl⟩
        case measure => simp [intOf]; omega
      · have HH2 : Hid (findI p zs = k) := HH.out rfl
        clear HH
        go_wp2_with (go_at_call 41; refine HIX.out.mono ?_; rintro e w' ⟨rfl, n, rfl⟩)
        go_ret
        exact ⟨ret_int HH2.out.symm, _, rfl⟩
    · have e : zs.take k = zs := List.take_of_length_le (by omega)
      rw [e] at HN
      have HF : Hid (findI p zs = -1) := findI_none HN.out
      go_wp2
      go_ret
      exact ⟨ret_int HF.out.symm, _, rfl⟩

set_option maxRecDepth 100000 in
theorem containsG_any (B : Nat) (p : Int → Bool) (zs : List Int) (v : Value) (p1 p2 p3 : Addr) (w : World) (hv : Sl B 3 w v (ints zs))
    (hc : ∀ x ∈ zs, ∀ q, Calls Tryd.prog 41 #[.int .i64 x, .pointer (some p1), .pointer (some p2), .pointer (some p3)] (w.drewN q) fun e w' => e = .returned (.bool (p x)) ∧ ∃ n, w' = w.drewN n) :
    Calls Tryd.prog 24 #[v, .func (.func 41) #[] #[.pointer (some p1), .pointer (some p2), .pointer (some p3)]] w fun e w' => e = .returned (.bool (zs.any p)) ∧ ∃ n, w' = w.drewN n := by
  have HII := indexG_any B p zs v p1 p2 p3 w hv hc
  go_enter Tryd.func24, Tryd.ntmps24
  go_wp2_with fail
  refine HII.mono ?_
  rintro e w' ⟨rfl, n, rfl⟩
  go_wp2
  go_ret
  exact ⟨ret_bool findI_ge, n, rfl⟩

end Go.Proofs.YtkdileeahbaobaaDoor

/- matroid.givesAll, exchanges. -/
namespace Go.Proofs.YtkdileeahbaobaaDoor
open Go.RowKit
attribute [local go_sem ↓] Go.wp_at_zero Go.wp_at_succ

/-- Something stands in for a thing that is given. -/
def stB (bs : List Int) (a b : Nat) (x : Int) : Bool := (mem8 (outN b a)).any fun y => bs.contains (swp a x.toNat y.toNat : Int)

def gvB (bs : List Int) (a b : Nat) : Bool := (mem8 (outN a b)).all (stB bs a b)

theorem outN_lt8 {a b : Nat} (ha : a < 256) : outN a b < 256 := Nat.lt_of_le_of_lt (outN_le a b) ha

theorem mem8_rng {s : Nat} {x : Int} (h : x ∈ mem8 s) : ∃ i : Nat, i < 8 ∧ x = (i : Int) := by
  obtain ⟨i, h1, _, h3⟩ := mem8_iff.1 h
  exact ⟨i, h1, h3.symm⟩

theorem TabB.low {w w' : World} (h : TabB w) {N : Nat} (hb : Below N w w') (hN : w.heap.size ≤ N) : TabB w' := h.below (hb.mono hN)

theorem all_snoc {p : Int → Bool} {l : List Int} {k : Nat} (h : k < l.length) (h0 : (l.take k).all p = true) : (l.take (k + 1)).all p = p (l.getD k 0) := by
  rw [List.take_succ_eq_append_getElem h, List.all_append, h0]; simp [h]

theorem all_stop {p : Int → Bool} {l : List Int} {k : Nat} (h : k < l.length) (h0 : p (l.getD k 0) = false) : l.all p = false := by
  rw [List.all_eq_false]
  exact ⟨l.getD k 0, by simp [h], by rw [h0]; simp⟩

set_option maxRecDepth 100000 in
set_option maxHeartbeats 1600000 in
theorem gives_any (bs : List Int) (a b : Nat) (v : Value) (w : World) (hv : Sl w.heap.size 3 w v (ints bs)) (hr : Ris bs) (hl : bs.length ≤ 1000000) (ha : a < 256) (hb : b < 256) (hT : TabB w) :
    Calls Tryd.prog 40 #[v, .int .u64 a, .int .u64 b] w fun e w' => e = .returned (.bool (gvB bs a b)) ∧ Below w.heap.size w w' := by
  obtain ⟨ao, cap, hvv, hlc, hcm⟩ := sl_open hv
  subst hvv
  have e1 : bits .andNot .u64 (b : Int) (a : Int) = ((outN b a : Nat) : Int) := bits_andNot_u64_nat b a (by omega) (by omega)
  have e2 : bits .andNot .u64 (a : Int) (b : Int) = ((outN a b : Nat) : Int) := bits_andNot_u64_nat a b (by omega) (by omega)
  obtain ⟨W0, hW0⟩ : ∃ W0, W0 = (w.alloc (.cells #[.slice ao bs.length cap] 22)).alloc (.cells #[.int .u64 a] 48) := ⟨_, rfl⟩
  have hb0 : Below w.heap.size w W0 := by rw [hW0]; exact ((Below.refl _ _).alloc (Nat.le_refl _) _).alloc (by simp) _
  have hs0 : W0.heap.size = w.heap.size + 2 := by rw [hW0]; simp
  have c1 : W0.cell? ⟨w.heap.size, 0, none⟩ = some (.slice ao bs.length cap) := by rw [hW0]; simp
  have c2 : W0.cell? ⟨w.heap.size + 1, 0, none⟩ = some (.int .u64 a) := by rw [hW0]; simp
  have HB0 : Hid (Below w.heap.size w W0) := hb0
  have HC : Hid (∀ W', Below W0.heap.size W0 W' → W'.cell? ⟨w.heap.size, 0, none⟩ = some (.slice ao bs.length cap) ∧ W'.cell? ⟨w.heap.size + 1, 0, none⟩ = some (.int .u64 a) ∧ Sl w.heap.size 3 W' (.slice ao bs.length cap) (ints bs) ∧ TabB W') := fun W' h =>
    ⟨(h.cell (lt_of_cell c1)).trans c1, (h.cell (lt_of_cell c2)).trans c2, (hv.below hb0 (Nat.le_refl _)).below h (Nat.le_refl _), (hT.below hb0).below h⟩
  have HR : Hid (Ris bs) := hr
  clear hv hr hT hb0
  have HL1 : Hid (Calls Tryd.prog 25 #[.int .u64 ((outN b a : Nat) : Int)] W0 fun e w' => ∃ uo uc, e = .returned (.slice uo (mem8 (outN b a)).length uc) ∧ Sl 0 3 w' (.slice uo (mem8 (outN b a)).length uc) (ints (mem8 (outN b a))) ∧ Below W0.heap.size W0 w') :=
    (list8_any _ (outN_lt8 hb) W0 (HC.out W0 (Below.refl _ _)).2.2.2).mono (by
      rintro e w' ⟨u, rfl, h1, h2⟩
      obtain ⟨uo, uc, rfl⟩ := owns_form h1
      exact ⟨uo, uc, rfl, Sl.own h1, h2⟩)
  have HL2 : Hid (∀ W', Below W0.heap.size W0 W' → Calls Tryd.prog 25 #[.int .u64 ((outN a b : Nat) : Int)] W' fun e w' => ∃ uo uc, e = .returned (.slice uo (mem8 (outN a b)).length uc) ∧ Sl 0 3 w' (.slice uo (mem8 (outN a b)).length uc) (ints (mem8 (outN a b))) ∧ Below W'.heap.size W' w') := fun W' hbb =>
    (list8_any _ (outN_lt8 ha) W' (HC.out W' hbb).2.2.2).mono (by
      rintro e w' ⟨u, rfl, h1, h2⟩
      obtain ⟨uo, uc, rfl⟩ := owns_form h1
      exact ⟨uo, uc, rfl, Sl.own h1, h2⟩)
  have HMO : Hid (∀ y ∈ mem8 (outN b a), ∃ i : Nat, i < 8 ∧ y = (i : Int)) := fun y hy => mem8_rng hy
  have HMG : Hid (∀ y ∈ mem8 (outN a b), ∃ i : Nat, i < 8 ∧ y = (i : Int)) := fun y hy => mem8_rng hy
  have HGV : Hid (gvB bs a b = (mem8 (outN a b)).all (stB bs a b)) := rfl
  have HST : Hid (∀ x, stB bs a b x = (mem8 (outN b a)).any fun y => bs.contains (swp a x.toNat y.toNat : Int)) := fun x => rfl
  have hgl := mem8_len (outN a b)
  generalize stB bs a b = p at *
  generalize hO : mem8 (outN b a) = O at *
  generalize hG : mem8 (outN a b) = G at *
  clear hO hG
  generalize gvB bs a b = ans at *
  go_enter Tryd.func40, Tryd.ntmps40
  go_wp2_with (simp only [e1])
  rw [← hW0]
  refine HL1.out.mono ?_
  rintro e w2 ⟨uo, uc, rfl, hs2, hb2⟩
  have HS2 : Hid (Sl 0 3 w2 (.slice uo O.length uc) (ints O)) := hs2
  have HB2 : Hid (Below W0.heap.size W0 w2) := hb2
  have d2 := (HC.out w2 hb2).2.1
  clear hs2 hb2 HL1 hW0 c1 c2
  go_wp2_with fail
  refine (HL2.out w2 HB2.out).mono ?_
  rintro e w3 ⟨go, gc, rfl, hs3, hb3⟩
  have HS3 : Hid (Sl 0 3 w3 (.slice go G.length gc) (ints G)) := hs3
  have HO3 : Hid (Sl 0 3 w3 (.slice uo O.length uc) (ints O)) := HS2.out.below hb3 (Nat.le_refl _)
  have HB3 : Hid (Below W0.heap.size W0 w3) := HB2.out.trans (hb3.mono HB2.out.size)
  clear hs3 hb3 HL2 HS2 d2 HB2
  go_wp2
  go_loopw [9, 10, 20] (fun _ _ i wr => ∃ k : Nat, k ≤ G.length ∧ i = .int .i64 k ∧ (G.take k).all p = true ∧ Below w3.heap.size w3 wr) (fun _ _ i _ => G.length - (intOf i).toNat)
  case atStart => exact ⟨0, Nat.zero_le _, rfl, by simp, Below.refl _ _⟩
  case round =>
    obtain ⟨k, hk, rfl, hall, hbr⟩ := hrel
    have HA : Hid ((G.take k).all p = true) := hall
    have HBR : Hid (Below w3.heap.size w3 wr) := hbr
    clear hall hbr
    by_cases hlt : k < G.length
    · obtain ⟨gb, gq, gcc, hs, _, hcc⟩ := sl_cell (HS3.out.below HBR.out (Nat.le_refl _)) hlt
      simp only [Value.slice.injEq] at hs
      obtain ⟨rfl, -, rfl⟩ := hs
      obtain ⟨x, hx8, hx⟩ := HMG.out (G.getD k 0) (by simp [hlt])
      have HS1 : Hid ((G.take (k + 1)).all p = p x) := by rw [← hx]; exact all_snoc hlt HA.out
      have HST1 : Hid (p x = false → ans = false) := fun h => by rw [HGV.out]; exact all_stop hlt (by rw [hx]; exact h)
      rw [hx] at hcc
      obtain ⟨wa, rfl⟩ : ∃ wa, wa = wr := ⟨wr, rfl⟩
      obtain ⟨Wn, hWn⟩ : ∃ Wn, Wn = wa.alloc (.cells #[.int .i64 x] 3) := ⟨_, rfl⟩
      have hbn : Below wa.heap.size wa Wn := by rw [hWn]; exact (Below.refl _ _).alloc (Nat.le_refl _) _
      have cn : Wn.cell? ⟨wa.heap.size, 0, none⟩ = some (.int .i64 x) := by rw [hWn]; simp
      have hb3n : Below W0.heap.size W0 Wn := (HB3.out.trans (HBR.out.mono HB3.out.size)).trans (hbn.mono (Nat.le_trans HB3.out.size HBR.out.size))
      have HBN : Hid (Below w3.heap.size w3 Wn) := HBR.out.trans (hbn.mono HBR.out.size)
      have HCG : Hid (Calls Tryd.prog 24 #[.slice uo O.length uc, .func (.func 41) #[] #[.pointer (some ⟨w.heap.size, 0, none⟩), .pointer (some ⟨w.heap.size + 1, 0, none⟩), .pointer (some ⟨wa.heap.size, 0, none⟩)]] Wn fun e w' => e = .returned (.bool (p x)) ∧ ∃ n, w' = Wn.drewN n) := by
        obtain ⟨g1, g2, g3, g4⟩ := HC.out Wn hb3n
        have := containsG_any 0 (fun y => bs.contains (swp a x y.toNat : Int)) O (.slice uo O.length uc) ⟨w.heap.size, 0, none⟩ ⟨w.heap.size + 1, 0, none⟩ ⟨wa.heap.size, 0, none⟩ Wn ((HO3.out.below HBR.out (Nat.le_refl _)).below hbn (Nat.le_refl _)) (fun y hy q => by
          obtain ⟨i, hi8, rfl⟩ := HMO.out y hy
          refine (stand_any w.heap.size bs a x i (.slice ao bs.length cap) _ _ _ (Wn.drewN q) (g3.drewN q) HR.out hl ha hx8 hi8 g1 g2 cn).mono ?_
          rintro e w' ⟨rfl, n, rfl⟩
          exact ⟨by rw [Int.toNat_natCast], _, World.drewN_drewN _ _ _⟩)
        have hst := HST.out (x : Int)
        simp only [Int.toNat_natCast] at hst
        rw [← hst] at this
        exact this
      have kI : (k : Int) < (G.length : Int) := by omega
      have kI0 : (0 : Int) ≤ (k : Int) := by omega
      clear hbn cn hb3n hx
      generalize p (x : Int) = fb at *
      go_wp2_with fail
      rw [← hWn]
      refine HCG.out.mono ?_
      rintro e w' ⟨rfl, n, rfl⟩
      clear HCG hWn
      have HBE : Hid (Below w3.heap.size w3 (Wn.drewN n)) := HBN.out.trans ⟨rfl, rfl, rfl, Nat.le_refl _, fun _ _ => rfl⟩
      cases fb
      · have HAN : Hid (ans = false) := HST1.out rfl
        have HBF : Hid (Below w.heap.size w (Wn.drewN n)) := (HB0.out.trans (HB3.out.mono HB0.out.size)).trans (HBE.out.mono (Nat.le_trans HB0.out.size HB3.out.size))
        clear HST1
        go_wp2
        go_ret
        exact ⟨by rw [HAN.out]; rfl, HBF.out⟩
      · clear HST1
        go_wp2
        go_roundw
        case rel => exact ⟨k + 1, by omega, by go_num, HS1.out, HBE.out⟩
        case measure => simp [intOf]; omega
    · have hke : G.take k = G := List.take_of_length_le (by omega)
      have HAN : Hid (ans = true) := by rw [HGV.out, ← hke]; exact HA.out
      have HBF : Hid (Below w.heap.size w wr) := (HB0.out.trans (HB3.out.mono HB0.out.size)).trans (HBR.out.mono (Nat.le_trans HB0.out.size HB3.out.size))
      clear hke
      go_wp2
      go_ret
      exact ⟨by rw [HAN.out]; rfl, HBF.out⟩

end Go.Proofs.YtkdileeahbaobaaDoor

/- matroid.exchanges, isSet. -/
namespace Go.Proofs.YtkdileeahbaobaaDoor
open Go.RowKit
attribute [local go_sem ↓] Go.wp_at_zero Go.wp_at_succ

def exB (bs : List Int) : Bool := bs.all fun a => bs.all fun b => gvB bs a.toNat b.toNat

/-- All are sets of at most eight things. -/
def B8 (bs : List Int) : Prop := ∀ b ∈ bs, 0 ≤ b ∧ b < 256

set_option maxRecDepth 100000 in
set_option maxHeartbeats 800000 in
theorem exch_any (bs : List Int) (v : Value) (w : World) (hv : Sl w.heap.size 3 w v (ints bs)) (hr : Ris bs) (h8 : B8 bs) (hl : bs.length ≤ 1000000) (hT : TabB w) :
    Calls Tryd.prog 31 #[v] w fun e w' => e = .returned (.bool (exB bs)) ∧ Below w.heap.size w w' := by
  obtain ⟨ao, cap, hvv, hlc, hcm⟩ := sl_open hv
  subst hvv
  have HV : Hid (∀ W', Below w.heap.size w W' → Sl w.heap.size 3 W' (.slice ao bs.length cap) (ints bs) ∧ TabB W') := fun W' h => ⟨hv.below h (Nat.le_refl _), hT.below h⟩
  have HR : Hid (Ris bs) := hr
  have H8 : Hid (B8 bs) := h8
  have HG : Hid (∀ W' (a b : Nat), a < 256 → b < 256 → Below w.heap.size w W' → Calls Tryd.prog 40 #[.slice ao bs.length cap, .int .u64 a, .int .u64 b] W' fun e w' => e = .returned (.bool (gvB bs a b)) ∧ Below w.heap.size w w') := fun W' a b ha hb hbw =>
    (gives_any bs a b _ W' (((hv.below hbw (Nat.le_refl _)).more hbw.size)) hr hl ha hb (hT.below hbw)).mono (by
      rintro e w' ⟨h1, h2⟩
      exact ⟨h1, hbw.trans (h2.mono hbw.size)⟩)
  clear hv hr h8 hT
  go_enter Tryd.func31, Tryd.ntmps31
  go_wp2
  go_loopw [9] (fun i wr => ∃ k : Nat, k ≤ bs.length ∧ i = .int .i64 k ∧ (bs.take k).all (fun a => bs.all fun b => gvB bs a.toNat b.toNat) = true ∧ Below w.heap.size w wr) (fun i _ => bs.length - (intOf i).toNat)
  case atStart => exact ⟨0, Nat.zero_le _, rfl, by simp, Below.refl _ _⟩
  case round =>
    obtain ⟨k, hk, rfl, hall, hbr⟩ := hrel
    have HA : Hid ((bs.take k).all (fun a => bs.all fun b => gvB bs a.toNat b.toNat) = true) := hall
    have HBR : Hid (Below w.heap.size w wr) := hbr
    clear hall hbr
    by_cases hlt : k < bs.length
    · obtain ⟨gb, gq, gcc, hs, _, hcc⟩ := sl_cell (HV.out wr HBR.out).1 hlt
      simp only [Value.slice.injEq] at hs
      obtain ⟨rfl, -, rfl⟩ := hs
      obtain ⟨hx0, hx8⟩ := H8.out (bs.getD k 0) (by simp [hlt])
      obtain ⟨x, hx⟩ : ∃ x : Nat, bs.getD k 0 = (x : Int) := ⟨(bs.getD k 0).toNat, by omega⟩
      have HS1 : Hid ((bs.take (k + 1)).all (fun a => bs.all fun b => gvB bs a.toNat b.toNat) = bs.all fun b => gvB bs x b.toNat) := by
        have := all_snoc (p := fun a => bs.all fun b => gvB bs a.toNat b.toNat) hlt HA.out
        rw [hx] at this
        simp only [Int.toNat_natCast] at this
        exact this
      have HF1 : Hid ((bs.all fun b => gvB bs x b.toNat) = false → exB bs = false) := fun h => all_stop (p := fun a => bs.all fun b => gvB bs a.toNat b.toNat) hlt (by rw [hx]; simpa using h)
      have hx9 : x < 256 := by omega
      rw [hx] at hcc
      clear hx hx0 hx8
      have kI : (k : Int) < (bs.length : Int) := by omega
      have kI0 : (0 : Int) ≤ (k : Int) := by omega
      obtain ⟨wa, rfl⟩ : ∃ wa, wa = wr := ⟨wr, rfl⟩
      go_wp2
      clear hcc
      go_loopw [15] (fun i wr => ∃ j : Nat, j ≤ bs.length ∧ i = .int .i64 j ∧ (bs.take j).all (fun b => gvB bs x b.toNat) = true ∧ Below w.heap.size w wr) (fun i _ => bs.length - (intOf i).toNat)
      case atStart => exact ⟨0, Nat.zero_le _, rfl, by simp, HBR.out⟩
      case round =>
        obtain ⟨j, hj, rfl, hall, hbr⟩ := hrel
        have HA2 : Hid ((bs.take j).all (fun b => gvB bs x b.toNat) = true) := hall
        have HBR2 : Hid (Below w.heap.size w wr) := hbr
        clear hall hbr HBR
        by_cases hjl : j < bs.length
        · obtain ⟨gb, gq, gcc, hs, _, hcc⟩ := sl_cell (HV.out wr HBR2.out).1 hjl
          simp only [Value.slice.injEq, Option.some.injEq, Addr.mk.injEq, and_true, true_and] at hs
          obtain ⟨⟨rfl, rfl⟩, rfl⟩ := hs
          obtain ⟨hy0, hy8⟩ := H8.out (bs.getD j 0) (by simp [hjl])
          obtain ⟨y, hy⟩ : ∃ y : Nat, bs.getD j 0 = (y : Int) := ⟨(bs.getD j 0).toNat, by omega⟩
          have HS2 : Hid ((bs.take (j + 1)).all (fun b => gvB bs x b.toNat) = gvB bs x y) := by
            have := all_snoc (p := fun b => gvB bs x b.toNat) hjl HA2.out
            rw [hy] at this
            simp only [Int.toNat_natCast] at this
            exact this
          have HF2 : Hid (gvB bs x y = false → exB bs = false) := fun h => HF1.out (all_stop (p := fun b => gvB bs x b.toNat) hjl (by rw [hy]; simpa using h))
          have hy9 : y < 256 := by omega
          rw [hy] at hcc
          have HGX := HG.out wr x y hx9 hy9 HBR2.out
          have HGY : Hid (Calls Tryd.prog 40 #[.slice (some ⟨gb, gq, none⟩) bs.length cap, .int .u64 x, .int .u64 y] wr fun e w' => e = .returned (.bool (gvB bs x y)) ∧ Below w.heap.size w w') := HGX
          clear hy hy0 hy8 HGX
          generalize gvB bs x y = fb at *
          have jI : (j : Int) < (bs.length : Int) := by omega
          have jI0 : (0 : Int) ≤ (j : Int) := by omega
          go_wp2_with fail
          refine HGY.out.mono ?_
          rintro e w' ⟨rfl, hb'⟩
          have HB' : Hid (Below w.heap.size w w') := hb'
          clear hb' HGY hcc
          cases fb
          · have HE : Hid (exB bs = false) := HF2.out rfl
            clear HF2
            go_wp2
            go_ret
            exact ⟨by rw [HE.out]; rfl, HB'.out⟩
          · clear HF2
            go_wp2
            go_roundw
            case rel => exact ⟨j + 1, by omega, by go_num, HS2.out, HB'.out⟩
            case measure => simp [intOf]; omega
        · have hje : bs.take j = bs := List.take_of_length_le (by omega)
          have HN : Hid ((bs.take (k + 1)).all (fun a => bs.all fun b => gvB bs a.toNat b.toNat) = true) := by
            have h := HA2.out
            rw [hje] at h
            rw [HS1.out]; exact h
          clear hje
          go_wp2
          go_roundw
          case rel => exact ⟨k + 1, by omega, by go_num, HN.out, HBR2.out⟩
          case measure => simp [intOf]; omega
    · have hke : bs.take k = bs := List.take_of_length_le (by omega)
      have HE : Hid (exB bs = true) := by
        have h := HA.out
        rw [hke] at h
        exact h
      clear hke
      go_wp2
      go_ret
      exact ⟨by rw [HE.out]; rfl, HBR.out⟩

end Go.Proofs.YtkdileeahbaobaaDoor
