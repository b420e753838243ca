/- poset.read. -/
import Derived.Test.YtmmdhmoaddkbpaaPo2
import Derived.Laws.EntriesVeiled
namespace Go.Proofs.Ytmmdhmoaddkbpaa
open Go.RowKit
attribute [local go_sem ↓] Go.wp_at_zero Go.wp_at_succ

/-- No thing. -/
def noB (N z : Int) : Bool := decide (z < 0) || decide (N ≤ z)

def noP (N : Int) (e : Int × Int) : Bool := noB N e.1 || noB N e.2

set_option maxRecDepth 100000 in
theorem read1_any (N z : Int) (pb : Nat) (w : World) (hc : w.cell? ⟨pb, 0, none⟩ = some (.int .i64 N)) :
    Calls Try.prog 11 #[.int .i64 z, .pointer (some ⟨pb, 0, none⟩)] w fun e w' => e = .returned (.bool (noB N z)) ∧ w' = w := by
  by_cases hb : z < 0
  · go_enter Try.func11, Try.ntmps11
    go_wp2
    go_ret
    exact ⟨ret_bool (by simp [noB, hb]), rfl⟩
  · go_enter Try.func11, Try.ntmps11
    go_wp2
    go_ret
    exact ⟨ret_bool (by rw [noB, decide_eq_false (by omega : ¬ z < 0)]; rfl), rfl⟩

/-- The function that tells of a thing whether it is none. -/
def noneV (pb : Nat) : Value := .func (.func 11) #[] #[.pointer (some ⟨pb, 0, none⟩)]

set_option maxRecDepth 100000 in
set_option maxHeartbeats 800000 in
theorem read2_any (N x y : Int) (pb fb : Nat) (w : World) (hc : w.cell? ⟨pb, 0, none⟩ = some (.int .i64 N)) (hf : w.cell? ⟨fb, 0, none⟩ = some (noneV pb)) :
    Calls Try.prog 13 #[.agg #[.int .i64 x, .int .i64 y], .pointer (some ⟨fb, 0, none⟩)] w fun e w' => e = .returned (.bool (noP N (x, y))) ∧ Below w.heap.size w w' := by
  have HB : Hid (Below w.heap.size w (w.alloc (.cells #[.int .i64 x, .int .i64 y] 36))) := (Below.refl _ _).alloc (Nat.le_refl _) _
  have hc1 : (w.alloc (.cells #[.int .i64 x, .int .i64 y] 36)).cell? ⟨pb, 0, none⟩ = some (.int .i64 N) := (HB.out.cell (lt_of_cell hc)).trans hc
  have hf1 : (w.alloc (.cells #[.int .i64 x, .int .i64 y] 36)).cell? ⟨fb, 0, none⟩ = some (.func (.func 11) #[] #[.pointer (some ⟨pb, 0, none⟩)]) := (HB.out.cell (lt_of_cell hf)).trans hf
  have HX : Hid (Calls Try.prog 11 #[.int .i64 x, .pointer (some ⟨pb, 0, none⟩)] (w.alloc (.cells #[.int .i64 x, .int .i64 y] 36)) fun e w' => e = .returned (.bool (noB N x)) ∧ w' = (w.alloc (.cells #[.int .i64 x, .int .i64 y] 36))) := read1_any N x pb _ hc1
  have HY : Hid (Calls Try.prog 11 #[.int .i64 y, .pointer (some ⟨pb, 0, none⟩)] (w.alloc (.cells #[.int .i64 x, .int .i64 y] 36)) fun e w' => e = .returned (.bool (noB N y)) ∧ w' = (w.alloc (.cells #[.int .i64 x, .int .i64 y] 36))) := read1_any N y pb _ hc1
  have HE : Hid (noP N (x, y) = (noB N x || noB N y)) := rfl
  rw [HE.out]
  clear hc hf hc1 HE
  generalize noB N x = p at *
  generalize noB N y = q at *
  cases p
  · go_enter Try.func13, Try.ntmps13
    go_wp2_with fail
    refine HX.out.mono ?_
    rintro e w1 ⟨rfl, hw⟩
    subst hw
    go_wp2_with fail
    refine HY.out.mono ?_
    rintro e w1 ⟨rfl, hw⟩
    subst hw
    go_wp2
    go_ret
    exact ⟨rfl, HB.out⟩
  · go_enter Try.func13, Try.ntmps13
    go_wp2_with fail
    refine HX.out.mono ?_
    rintro e w1 ⟨rfl, hw⟩
    subst hw
    go_wp2
    go_ret
    exact ⟨rfl, HB.out⟩

/-- The first pair that names no thing. -/
def findP (p : Int × Int → Bool) (zs : List (Int × Int)) : Int := if zs.any p then (zs.findIdx p : Int) else -1

theorem findP_ge (p : Int × Int → Bool) (zs : List (Int × Int)) : decide (0 ≤ findP p zs) = zs.any p := by
  unfold findP
  cases h : zs.any p
  · rfl
  · simp

theorem findP_hit {p : Int × Int → Bool} {zs : List (Int × Int)} {k : Nat} (hk : k < zs.length) (h0 : ∀ i, i < k → p (zs.getD i (0, 0)) = false) (h1 : p (zs.getD k (0, 0)) = true) : findP p zs = k := by
  have e : zs.getD k (0, 0) = zs[k] := by simp [hk]
  rw [e] at h1
  unfold findP
  rw [if_pos (List.any_eq_true.2 ⟨zs[k], List.getElem_mem hk, h1⟩)]
  have := (List.findIdx_eq (p := p) hk).2 ⟨h1, fun j hj => by
    have := h0 j hj
    have e2 : zs.getD j (0, 0) = zs[j] := by simp [Nat.lt_trans hj hk]
    rw [e2] at this
    simp [this]⟩
  rw [this]

theorem findP_none {p : Int × Int → Bool} {zs : List (Int × Int)} (h0 : ∀ i, i < zs.length → p (zs.getD i (0, 0)) = false) : findP p zs = -1 := by
  unfold findP
  rw [if_neg]
  rw [Bool.not_eq_true, List.any_eq_false]
  intro x hx
  obtain ⟨i, hi, rfl⟩ := List.getElem_of_mem hx
  have := h0 i hi
  have e2 : zs.getD i (0, 0) = zs[i] := by simp [hi]
  rw [e2] at this
  simp [this]

set_option maxRecDepth 100000 in
set_option maxHeartbeats 800000 in
theorem indexP_any (N : Int) (zs : List (Int × Int)) (v : Value) (pb fb : Nat) (w : World) (hv : Prs w v zs) (hl : zs.length ≤ 36) (hc : w.cell? ⟨pb, 0, none⟩ = some (.int .i64 N)) (hf : w.cell? ⟨fb, 0, none⟩ = some (noneV pb)) :
    Calls Try.prog 16 #[v, .func (.func 13) #[] #[.pointer (some ⟨fb, 0, none⟩)]] w fun e w' => e = .returned (.int .i64 (findP (noP N) zs)) ∧ Below w.heap.size w w' := by
  have HV : Hid (Prs w v zs) := hv
  obtain ⟨po, pc, hpv, -⟩ := hv
  subst hpv
  have HF : Hid (∀ W x y, Below w.heap.size w W → Calls Try.prog 13 #[.agg #[.int .i64 x, .int .i64 y], .pointer (some ⟨fb, 0, none⟩)] W fun e w' => e = .returned (.bool (noP N (x, y))) ∧ Below W.heap.size W w') := fun W x y hb => read2_any N x y pb fb W ((hb.cell (lt_of_cell hc)).trans hc) ((hb.cell (lt_of_cell hf)).trans hf)
  clear hc hf
  go_enter Try.func16, Try.ntmps16
  go_wp2
  go_loopw [8] (fun iv wr => ∃ k : Nat, k ≤ zs.length ∧ iv = .int .i64 (k : Int) ∧ (∀ i, i < k → noP N (zs.getD i (0, 0)) = false) ∧ Below w.heap.size w wr) (fun iv _ => zs.length - (intOf iv).toNat)
  case atStart => exact ⟨0, Nat.zero_le _, rfl, fun i hi => by omega, Below.refl _ _⟩
  case round =>
    obtain ⟨k, hk, rfl, hno, hb⟩ := hrel
    have HN : Hid (∀ i, i < k → noP N (zs.getD i (0, 0)) = false) := hno
    have HB : Hid (Below w.heap.size w wr) := hb
    clear hno hb
    by_cases hlt : k < zs.length
    · obtain ⟨po2, pc2, hpe, hcs⟩ := HV.out.below HB.out (Nat.le_refl _)
      obtain ⟨b, o, e, c1, c2⟩ := hcs k hlt
      simp only [Value.slice.injEq, true_and] at hpe
      obtain ⟨rfl, rfl⟩ := hpe
      subst e
      have HH : Hid (noP N (zs.getD k (0, 0)) = true → findP (noP N) zs = k) := fun h => findP_hit hlt HN.out h
      have HC : Hid (noP N (zs.getD k (0, 0)) = false → ∀ i, i < k + 1 → noP N (zs.getD i (0, 0)) = false) := fun h i hi => by
        by_cases e : i = k
        · subst e; exact h
        · exact HN.out i (by omega)
      have HFX := HF.out wr (zs.getD k (0, 0)).1 (zs.getD k (0, 0)).2 HB.out
      have eP : noP N (zs.getD k (0, 0)) = noP N ((zs.getD k (0, 0)).1, (zs.getD k (0, 0)).2) := rfl
      rw [eP] at HH HC
      generalize (zs.getD k (0, 0)).1 = x at *
      generalize (zs.getD k (0, 0)).2 = y at *
      clear eP
      generalize noP N (x, y) = fb2 at *
      have kI : (k : Int) < (zs.length : Int) := by omega
      have kI0 : (0 : Int) ≤ (k : Int) := by omega
      cases fb2
      · have HC2 : Hid (∀ i, i < k + 1 → noP N (zs.getD i (0, 0)) = false) := HC.out rfl
        clear HC HH
        go_wp2_with fail
        refine HFX.mono ?_
        rintro e w1 ⟨rfl, hb1⟩
        have HB1 : Hid (Below w.heap.size w w1) := HB.out.trans (hb1.mono HB.out.size)
        clear hb1 HFX c1 c2
        go_wp2
        go_roundw
        case rel => exact ⟨k + 1, by omega, by go_num, HC2.out, HB1.out⟩
        case measure => simp [intOf]; omega
      · have HH2 : Hid (findP (noP N) zs = k) := HH.out rfl
        clear HC HH
        go_wp2_with fail
        refine HFX.mono ?_
        rintro e w1 ⟨rfl, hb1⟩
        have HB1 : Hid (Below w.heap.size w w1) := HB.out.trans (hb1.mono HB.out.size)
        clear hb1 HFX c1 c2
        go_wp2
        go_ret
        exact ⟨ret_int HH2.out.symm, HB1.out⟩
    · have hke : k = zs.length := by omega
      subst hke
      have HX : Hid (findP (noP N) zs = -1) := findP_none HN.out
      go_wp2
      go_ret
      exact ⟨ret_int HX.out.symm, HB.out⟩

set_option maxRecDepth 100000 in
theorem containsP_any (N : Int) (zs : List (Int × Int)) (v : Value) (pb fb : Nat) (w : World) (hv : Prs w v zs) (hl : zs.length ≤ 36) (hc : w.cell? ⟨pb, 0, none⟩ = some (.int .i64 N)) (hf : w.cell? ⟨fb, 0, none⟩ = some (noneV pb)) :
    Calls Try.prog 12 #[v, .func (.func 13) #[] #[.pointer (some ⟨fb, 0, none⟩)]] w fun e w' => e = .returned (.bool (zs.any (noP N))) ∧ Below w.heap.size w w' := by
  have HII := indexP_any N zs v pb fb w hv hl hc hf
  have HE : Hid (decide (0 ≤ findP (noP N) zs) = zs.any (noP N)) := findP_ge _ _
  clear hc hf hv
  generalize findP (noP N) zs = r at *
  go_enter Try.func12, Try.ntmps12
  go_wp2_with fail
  refine HII.mono ?_
  rintro e w' ⟨rfl, hb⟩
  have HB : Hid (Below w.heap.size w w') := hb
  clear hb
  go_wp2
  go_ret
  exact ⟨ret_bool HE.out, HB.out⟩

end Go.Proofs.Ytmmdhmoaddkbpaa
