import Derived.Test.YtcmemhdlendlkaaDoorPo2
import Derived.Laws.EntriesVeiled
/- poset.read. -/
namespace Go.Proofs.YtcmemhdlendlkaaDoor
open Go.RowKit
attribute [local go_sem ↓] Go.wp_at_zero Go.wp_at_succ

/-- No thing. -/
def noB (N z : Int) : Bool := decide (z < 0) || decide (N ≤ z)

def noP (N : Int) (e : Int × Int) : Bool := noB N e.1 || noB N e.2

set_option maxRecDepth 100000 in
theorem read1_any (N z : Int) (pb : Nat) (w : World) (hc : w.cell? ⟨pb, 0, none⟩ = some (.int .i64 N)) :
    Calls Tryd.prog 40 #[.int .i64 z, .pointer (some ⟨pb, 0, none⟩)] w fun e w' => e = .returned (.bool (noB N z)) ∧ w' = w := by
  by_cases hb : z < 0
  · go_enter Tryd.func40, Tryd.ntmps40
    go_wp2
    go_ret
    exact ⟨ret_bool (by simp [noB, hb]), rfl⟩
  · go_enter Tryd.func40, Tryd.ntmps40
    go_wp2
    go_ret
    exact ⟨ret_bool (by rw [noB, decide_eq_false (by omega : ¬ z < 0)]; rfl), rfl⟩

/-- The function that tells of a thing whether it is none. -/
def noneV (pb : Nat) : Value := .func (.func 40) #[] #[.pointer (some ⟨pb, 0, none⟩)]

set_option maxRecDepth 100000 in
set_option maxHeartbeats 800000 in
theorem read2_any (N x y : Int) (pb fb : Nat) (w : World) (hc : w.cell? ⟨pb, 0, none⟩ = some (.int .i64 N)) (hf : w.cell? ⟨fb, 0, none⟩ = some (noneV pb)) :
    Calls Tryd.prog 42 #[.agg #[.int .i64 x, .int .i64 y], .pointer (some ⟨fb, 0, none⟩)] w fun e w' => e = .returned (.bool (noP N (x, y))) ∧ Below w.heap.size w w' := by
  have HB : Hid (Below w.heap.size w (w.alloc (.cells #[.int .i64 x, .int .i64 y] 50))) := (Below.refl _ _).alloc (Nat.le_refl _) _
  have hc1 : (w.alloc (.cells #[.int .i64 x, .int .i64 y] 50)).cell? ⟨pb, 0, none⟩ = some (.int .i64 N) := (HB.out.cell (lt_of_cell hc)).trans hc
  have hf1 : (w.alloc (.cells #[.int .i64 x, .int .i64 y] 50)).cell? ⟨fb, 0, none⟩ = some (.func (.func 40) #[] #[.pointer (some ⟨pb, 0, none⟩)]) := (HB.out.cell (lt_of_cell hf)).trans hf
  have HX : Hid (Calls Tryd.prog 40 #[.int .i64 x, .pointer (some ⟨pb, 0, none⟩)] (w.alloc (.cells #[.int .i64 x, .int .i64 y] 50)) fun e w' => e = .returned (.bool (noB N x)) ∧ w' = (w.alloc (.cells #[.int .i64 x, .int .i64 y] 50))) := read1_any N x pb _ hc1
  have HY : Hid (Calls Tryd.prog 40 #[.int .i64 y, .pointer (some ⟨pb, 0, none⟩)] (w.alloc (.cells #[.int .i64 x, .int .i64 y] 50)) fun e w' => e = .returned (.bool (noB N y)) ∧ w' = (w.alloc (.cells #[.int .i64 x, .int .i64 y] 50))) := read1_any N y pb _ hc1
  have HE : Hid (noP N (x, y) = (noB N x || noB N y)) := rfl
  rw [HE.out]
  clear hc hf hc1 HE
  generalize noB N x = p at *
  generalize noB N y = q at *
  cases p
  · go_enter Tryd.func42, Tryd.ntmps42
    go_wp2_with fail
    refine HX.out.mono ?_
    rintro e w1 ⟨rfl, hw⟩
    subst hw
    go_wp2_with fail
    refine HY.out.mono ?_
    rintro e w1 ⟨rfl, hw⟩
    subst hw
    go_wp2
    go_ret
    exact ⟨rfl, HB.out⟩
  · go_enter Tryd.func42, Tryd.ntmps42
    go_wp2_with fail
    refine HX.out.mono ?_
    rintro e w1 ⟨rfl, hw⟩
    subst hw
    go_wp2
    go_ret
    exact ⟨rfl, HB.out⟩

/-- The first pair that names no thing. -/
def findP (p : Int × Int → Bool) (zs : List (Int × Int)) : Int := if zs.any p then (zs.findIdx p : Int) else -1

theorem findP_ge (p : Int × Int → Bool) (zs : List (Int × Int)) : decide (0 ≤ findP p zs) = zs.any p := by
  unfold findP
  cases h : zs.any p
  · rfl
  · simp

theorem findP_hit {p : Int × Int → Bool} {zs : List (Int × Int)} {k : Nat} (hk : k < zs.length) (h0 : ∀ i, i < k → p (zs.getD i (0, 0)) = false) (h1 : p (zs.getD k (0, 0)) = true) : findP p zs = k := by
  have e : zs.getD k (0, 0) = zs[k] := by simp [hk]
  rw [e] at h1
  unfold findP
  rw [if_pos (List.any_eq_true.2 ⟨zs[k], List.getElem_mem hk, h1⟩)]
  have := (List.findIdx_eq (p := p) hk).2 ⟨h1, fun j hj => by
    have := h0 j hj
    have e2 : zs.getD j (0, 0) = zs[j] := by simp [Nat.lt_trans hj hk]
    rw [e2] at this
    simp [this]⟩
  rw [this]

theorem findP_none {p : Int × Int → Bool} {zs : List (Int × Int)} (h0 : ∀ i, i < zs.length → p (zs.getD i (0, 0)) = false) : findP p zs = -1 := by
  unfold findP
  rw [if_neg]
  rw [Bool.not_eq_true, List.any_eq_false]
  intro x hx
  obtain ⟨i, hi, rfl⟩ := List.getElem_of_mem hx
  have := h0 i hi
  have e2 : zs.getD i (0, 0) = zs[i] := by simp [hi]
  rw [e2] at this
  simp [this]

set_option maxRecDepth 100000 in
set_option maxHeartbeats 800000 in
theorem indexP_any (N : Int) (zs : List (Int × Int)) (v : Value) (pb fb : Nat) (w : World) (hv : Prs w v zs) (hl : zs.length ≤ 36) (hc : w.cell? ⟨pb, 0, none⟩ = some (.int .i64 N)) (hf : w.cell? ⟨fb, 0, none⟩ = some (noneV pb)) :
    Calls Tryd.prog 51 #[v, .func (.func 42) #[] #[.pointer (some ⟨fb, 0, none⟩)]] w fun e w' => e = .returned (.int .i64 (findP (noP N) zs)) ∧ Below w.heap.size w w' := by
  have HV : Hid (Prs w v zs) := hv
  obtain ⟨po, pc, hpv, -⟩ := hv
  subst hpv
  have HF : Hid (∀ W x y, Below w.heap.size w W → Calls Tryd.prog 42 #[.agg #[.int .i64 x, .int .i64 y], .pointer (some ⟨fb, 0, none⟩)] W fun e w' => e = .returned (.bool (noP N (x, y))) ∧ Below W.heap.size W w') := fun W x y hb => read2_any N x y pb fb W ((hb.cell (lt_of_cell hc)).trans hc) ((hb.cell (lt_of_cell hf)).trans hf)
  clear hc hf
  go_enter Tryd.func51, Tryd.ntmps51
  go_wp2
  go_loopw [8] (fun iv wr => ∃ k : Nat, k ≤ zs.length ∧ iv = .int .i64 (k : Int) ∧ (∀ i, i < k → noP N (zs.getD i (0, 0)) = false) ∧ Below w.heap.size w wr) (fun iv _ => zs.length - (intOf iv).toNat)
  case atStart => exact ⟨0, Nat.zero_le _, rfl, fun i hi => by omega, Below.refl _ _⟩
  case round =>
    obtain ⟨k, hk, rfl, hno, hb⟩ := hrel
    have HN : Hid (∀ i, i < k → noP N (zs.getD i (0, 0)) = false) := hno
    have HB : Hid (Below w.heap.size w wr) := hb
    clear hno hb
    by_cases hlt : k < zs.length
    · obtain ⟨po2, pc2, hpe, hcs⟩ := HV.out.below HB.out (Nat.le_refl _)
      obtain ⟨b, o, e, c1, c2⟩ := hcs k hlt
      simp only [Value.slice.injEq, true_and] at hpe
      obtain ⟨rfl, rfl⟩ := hpe
      subst e
      have HH : Hid (noP N (zs.getD k (0, 0)) = true → findP (noP N) zs = k) := fun h => findP_hit hlt HN.out h
      have HC : Hid (noP N (zs.getD k (0, 0)) = false → ∀ i, i < k + 1 → noP N (zs.getD i (0, 0)) = false) := fun h i hi => by
        by_cases e : i = k
        · subst e; exact h
        · exact HN.out i (by omega)
      have HFX := HF.out wr (zs.getD k (0, 0)).1 (zs.getD k (0, 0)).2 HB.out
      have eP : noP N (zs.getD k (0, 0)) = noP N ((zs.getD k (0, 0)).1, (zs.getD k (0, 0)).2) := rfl
      rw [eP] at HH HC
      generalize (zs.getD k (0, 0)).1 = x at *
      generalize (zs.getD k (0, 0)).2 = y at *
      clear eP
      generalize noP N (x, y) = fb2 at *
      have kI : (k : Int) < (zs.length : Int) := by omega
      have kI0 : (0 : Int) ≤ (k : Int) := by omega
      cases fb2
      · have HC2 : Hid (∀ i, i < k + 1 → noP N (zs.getD i (0, 0)) = false) := HC.out rfl
        clear HC HH
        go_wp2_with fail
        refine HFX.mono ?_
        rintro e w1 ⟨rfl, hb1⟩
        have HB1 : Hid (Below w.heap.size w w1) := HB.out.trans (hb1.mono HB.out.size)
        clear hb1 HFX c1 c2
        go_wp2
        go_roundw
        case rel => exact ⟨k + 1, by omega, by go_num, HC2.out, HB1.out⟩
        case measure => simp [intOf]; omega
      · have HH2 : Hid (findP (noP N) zs = k) := HH.out rfl
        clear HC HH
        go_wp2_with fail
        refine HFX.mono ?_
        rintro e w1 ⟨rfl, hb1⟩
        have HB1 : Hid (Below w.heap.size w w1) := HB.out.trans (hb1.mono HB.out.size)
        clear hb1 HFX c1 c2
        go_wp2
        go_ret
        exact ⟨ret_int HH2.out.symm, HB1.out⟩
    · have hke : k = zs.length := by omega
      subst hke
      have HX : Hid (findP (noP N) zs = -1) := findP_none HN.out
      go_wp2
      go_ret
      exact ⟨ret_int HX.out.symm, HB.out⟩

set_option maxRecDepth 100000 in
theorem containsP_any (N : Int) (zs : List (Int × Int)) (v : Value) (pb fb : Nat) (w : World) (hv : Prs w v zs) (hl : zs.length ≤ 36) (hc : w.cell? ⟨pb, 0, none⟩ = some (.int .i64 N)) (hf : w.cell? ⟨fb, 0, none⟩ = some (noneV pb)) :
    Calls Tryd.prog 41 #[v, .func (.func 42) #[] #[.pointer (some ⟨fb, 0, none⟩)]] w fun e w' => e = .returned (.bool (zs.any (noP N))) ∧ Below w.heap.size w w' := by
  have HII := indexP_any N zs v pb fb w hv hl hc hf
  have HE : Hid (decide (0 ≤ findP (noP N) zs) = zs.any (noP N)) := findP_ge _ _
  clear hc hf hv
  generalize findP (noP N) zs = r at *
  go_enter Tryd.func41, Tryd.ntmps41
  go_wp2_with fail
  refine HII.mono ?_
  rintro e w' ⟨rfl, hb⟩
  have HB : Hid (Below w.heap.size w w') := hb
  clear hb
  go_wp2
  go_ret
  exact ⟨ret_bool HE.out, HB.out⟩

end Go.Proofs.YtcmemhdlendlkaaDoor

/- poset.read of an order that may be. -/
namespace Go.Proofs.YtcmemhdlendlkaaDoor
open Go.RowKit
attribute [local go_sem ↓] Go.wp_at_zero Go.wp_at_succ

theorem noP_none {n : Nat} {es : List (Nat × Nat)} (h : ∀ e ∈ es, e.1 < n ∧ e.2 < n) : (npL es).any (noP (n : Int)) = false := by
  rw [List.any_eq_false]
  intro x hx
  obtain ⟨e, he, rfl⟩ := List.mem_map.1 hx
  have := h e he
  simp [noP, noB]
  omega

set_option maxRecDepth 100000 in
set_option maxHeartbeats 1600000 in
theorem read_ok (n : Nat) (es : List (Nat × Nat)) (pv : Value) (w : World) (hv : Prs w pv (npL es)) (hes : ∀ e ∈ es, e.1 < n ∧ e.2 < n) (hn1 : 1 ≤ n) (hn : n ≤ 6) (hl : es.length ≤ 36) (hi : ∀ i, i < n → (upF n es i).testBit i = false) :
    Calls Tryd.prog 27 #[.agg #[.int .i64 (n : Int), pv]] w fun e w' => ∃ g, e = .returned (.tuple #[.slice (some ⟨g, 0, none⟩) n n, .int .i64 0]) ∧ AbR w' g n (upF n es) ∧ Below w.heap.size w w' ∧ w.heap.size ≤ g := by
  obtain ⟨W1, hW1⟩ : ∃ W1, W1 = w.alloc (.cells #[.int .i64 (n : Int), pv] 24) := ⟨_, rfl⟩
  obtain ⟨W2, hW2⟩ : ∃ W2, W2 = W1.alloc (.cells #[noneV w.heap.size] 68) := ⟨_, rfl⟩
  have HB1 : Below w.heap.size w W1 := by rw [hW1]; exact (Below.refl _ _).alloc (Nat.le_refl _) _
  have hs1 : W1.heap.size = w.heap.size + 1 := by rw [hW1]; simp
  have HB2 : Below w.heap.size w W2 := by rw [hW2]; exact HB1.alloc (by omega) _
  have hs2 : W2.heap.size = w.heap.size + 1 + 1 := by rw [hW2]; simp [hs1]
  have d0 : W2.cell? ⟨w.heap.size, 0, none⟩ = some (.int .i64 (n : Int)) := by rw [hW2, hW1]; simp
  have d1 : W2.cell? ⟨w.heap.size, 1, none⟩ = some pv := by rw [hW2, hW1]; simp
  have d2 : W2.cell? ⟨w.heap.size + 1, 0, none⟩ = some (noneV w.heap.size) := by rw [hW2, ← hs1]; simp
  have hv2 : Prs W2 pv (npL es) := hv.below HB2 (Nat.le_refl _)
  have HCN := containsP_any n (npL es) pv w.heap.size (w.heap.size + 1) W2 hv2 (by rw [npL_len]; exact hl) d0 d2
  rw [noP_none hes] at HCN
  have HCL : Hid (∀ W3, Below W2.heap.size W2 W3 → (Calls Tryd.prog 43 #[.agg #[.int .i64 (n : Int), pv]] W3 fun e w' => ∃ g, e = .returned (.slice (some ⟨g, 0, none⟩) n n) ∧ AbR w' g n (upF n es) ∧ Below w.heap.size w w' ∧ w.heap.size ≤ g) ∧ W3.cell? ⟨w.heap.size, 0, none⟩ = some (.int .i64 (n : Int)) ∧ W3.cell? ⟨w.heap.size, 1, none⟩ = some pv) := fun W3 h => by
    refine ⟨(closed_any n es pv W3 (hv2.below h (Nat.le_refl _)) hes hn1 hn hl).mono ?_, (h.cell (lt_of_cell d0)).trans d0, (h.cell (lt_of_cell d1)).trans d1⟩
    rintro e w' ⟨g, h1, h2, h3, h4⟩
    have h5 := HB2.trans (h.mono (by omega))
    exact ⟨g, h1, h2, h5.trans (h3.mono h5.size), Nat.le_trans h5.size h4⟩
  have HI : Hid (∀ i, i < n → ∀ W, Calls Tryd.prog 44 #[.int .i64 (i : Int), .int .u64 ((upF n es i : Nat) : Int)] W fun e w' => e = .returned (.bool false) ∧ w' = W) := fun i h W => by
    have h0 := isIn_any i (upF n es i) W (by omega) (Nat.lt_of_lt_of_le (war_lt (prF_lt (n := n) (fun e he => (hes e he).2)) n i) (Nat.pow_le_pow_right (by omega) hn : 2 ^ n ≤ 2 ^ 6))
    rw [hi i h] at h0
    exact h0
  obtain ⟨po, pc, hpv, -⟩ := hv
  rw [npL_len] at hpv
  subst hpv
  clear hv2 hes hi HB1 HB2 hs2 d0 d1 d2
  have e2 : noneV w.heap.size = .func (.func 40) #[] #[.pointer (some ⟨w.heap.size, 0, none⟩)] := rfl
  rw [e2, hW1] at hW2
  clear hW1 e2 hs1
  have nI1 : ¬ (n : Int) < 1 := by omega
  have nI6 : ¬ 6 < (n : Int) := by omega
  have lI : ¬ 36 < (es.length : Int) := by omega
  go_enter Tryd.func27, Tryd.ntmps27
  go_wp2_with fail
  try rw [← hW2]
  refine HCN.mono ?_
  rintro e w3 ⟨rfl, hb3⟩
  obtain ⟨HC, c0, c1⟩ := HCL.out w3 hb3
  clear HCN HCL hb3 hW2
  go_wp2_with fail
  refine HC.mono ?_
  rintro e w4 ⟨g, rfl, ha, hb4, hg⟩
  have HA : Hid (AbR w4 g n (upF n es)) := ha
  have HB : Hid (Below w.heap.size w w4) := hb4
  clear ha hb4 HC c0 c1
  go_wp2
  go_loop [28] (fun iv => ∃ i : Nat, i ≤ n ∧ iv = .int .i64 (i : Int)) (fun iv => n - (intOf iv).toNat)
  case atStart => exact ⟨0, Nat.zero_le _, rfl⟩
  case round =>
    obtain ⟨i, hi, rfl⟩ := hrel
    by_cases hlt : i < n
    · have c := HA.out.cell hlt
      have HIX := HI.out i hlt
      generalize upF n es i = x at *
      have kI : (i : Int) < (n : Int) := by omega
      have kI0 : (0 : Int) ≤ (i : Int) := by omega
      go_wp2_with fail
      refine (HIX _).mono ?_
      rintro e w5 ⟨rfl, hw⟩
      subst hw
      go_wp2
      go_round
      case rel => exact ⟨i + 1, by omega, by go_num⟩
      case measure => simp [intOf]; omega
    · have hie : i = n := by omega
      subst hie
      go_wp2
      go_ret2
      exact ⟨g, rfl, HA.out, HB.out, hg⟩

end Go.Proofs.YtcmemhdlendlkaaDoor
