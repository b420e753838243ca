import Derived.Test.YtcmemhdlendlkaaDoorPoA
import Derived.Test.YtcmemhdlendlkaaDoorTkA
/- poset.Above, poset.Moebius. -/
namespace Go.Proofs.YtcmemhdlendlkaaDoor
open Go.RowKit
attribute [local go_sem ↓] Go.wp_at_zero Go.wp_at_succ

/-- Pairs of an order that may be. -/
structure GdO (n : Nat) (es : List (Nat × Nat)) : Prop where
  n1 : 1 ≤ n
  n6 : n ≤ 6
  len : es.length ≤ 36
  bd : ∀ e ∈ es, e.1 < n ∧ e.2 < n
  irr : ∀ i, i < n → (upF n es i).testBit i = false

theorem GdO.ord {n : Nat} {es : List (Nat × Nat)} (h : GdO n es) : PoO n (upF n es) := upF_ord (fun e he => (h.bd e he).2) h.irr

theorem GdO.b64 {n : Nat} {es : List (Nat × Nat)} (h : GdO n es) {i : Nat} (hi : i < n) : upF n es i < 64 := Nat.lt_of_lt_of_le (h.ord.lt i hi) (Nat.pow_le_pow_right (by omega) h.n6 : 2 ^ n ≤ 2 ^ 6)

/-- A row of numbers. -/
abbrev NuR (w : World) (g n : Nat) (f : Nat → Int) : Prop := w.rowIs g 3 n (fun i => .int .i64 (f i))

theorem NuR.set {w : World} {g n i : Nat} {f f2 : Nat → Int} {z : Int} (h : NuR w g n f) (hz : f2 i = z) (hg : ∀ j, j < n → j ≠ i → f2 j = f j) : NuR (w.setCell ⟨g, i, none⟩ (.int .i64 z)) g n f2 := by
  refine (World.rowIs.set h i (.int .i64 z)).congr fun j hj => ?_
  by_cases e : j = i
  · subst e
    simp [hz]
  · simp [e, hg j hj e]

set_option maxRecDepth 100000 in
set_option maxHeartbeats 1600000 in
theorem above_any (n : Nat) (es : List (Nat × Nat)) (pv : Value) (w : World) (hv : Prs w pv (npL es)) (hG : GdO n es) :
    Calls Tryd.prog 12 #[.agg #[.int .i64 (n : Int), pv]] w fun e w' => ∃ g, e = .returned (.tuple #[.slice (some ⟨g, 0, none⟩) n n, .int .i64 0]) ∧ NuR w' g n (fun i => (upF n es i : Int)) ∧ Below w.heap.size w w' ∧ w.heap.size ≤ g := by
  obtain ⟨W1, hW1⟩ : ∃ W1, W1 = w.alloc (.cells #[.int .i64 (n : Int), pv] 24) := ⟨_, rfl⟩
  have HB1 : Below w.heap.size w W1 := by rw [hW1]; exact (Below.refl _ _).alloc (Nat.le_refl _) _
  have hs1 : W1.heap.size = w.heap.size + 1 := by rw [hW1]; simp
  have d0 : W1.cell? ⟨w.heap.size, 0, none⟩ = some (.int .i64 (n : Int)) := by rw [hW1]; simp
  have HRD : Hid (Calls Tryd.prog 27 #[.agg #[.int .i64 (n : Int), pv]] W1 fun e w' => ∃ g, e = .returned (.tuple #[.slice (some ⟨g, 0, none⟩) n n, .int .i64 0]) ∧ AbR w' g n (upF n es) ∧ Below w.heap.size w w' ∧ w'.cell? ⟨w.heap.size, 0, none⟩ = some (.int .i64 (n : Int))) := (read_ok n es pv W1 (hv.below HB1 (Nat.le_refl _)) hG.bd hG.n1 hG.n6 hG.len hG.irr).mono (by
    rintro e w' ⟨g, h1, h2, h3, h4⟩
    exact ⟨g, h1, h2, HB1.trans (h3.mono HB1.size), (h3.cell (lt_of_cell d0)).trans d0⟩)
  have HX : Hid (∀ i, i < n → upF n es i < 64) := fun i hi => hG.b64 hi
  have hn1 := hG.n1
  have hn := hG.n6
  have hmk : ∀ w : World, (Instr.makeSlice 27 (.int .i64 (n : Int)) (.int .i64 (n : Int))).run Tryd.prog w = .ok (.slice (some ⟨w.heap.size, 0, none⟩) n n) (w.alloc (.cells (madeCells #[.int .i64 0] n) 3)) := run_make_row' (P := Tryd.prog) 27 3 (.int .i64 0) 8 Tryd.underlying27 (by kernel_rfl) rfl .i64 .i64 n (by omega) (by omega)
  clear hG hv HB1 hs1 d0
  go_enter Tryd.func12, Tryd.ntmps12
  go_wp2_with fail
  try rw [← hW1]
  refine HRD.out.mono ?_
  rintro e w2 ⟨a, rfl, ha, hb2, d0⟩
  clear HRD hW1
  obtain ⟨g, hg⟩ : ∃ g, g = w2.heap.size := ⟨_, rfl⟩
  have hag : a ≠ g := by have := ha.lt; omega
  have hgw : w.heap.size ≤ g := by have := hb2.size; omega
  have HA0 : Hid (AbR (w2.alloc (.cells (madeCells #[.int .i64 0] n) 3)) a n (upF n es)) := World.rowIs.alloc ha _
  have HN0 : Hid (NuR (w2.alloc (.cells (madeCells #[.int .i64 0] n) 3)) g n (fun i => if i < 0 then (upF n es i : Int) else 0)) := by rw [hg]; exact World.rowIs_made w2 (.int .i64 0) n 3
  have HB0 : Hid (Below w.heap.size w (w2.alloc (.cells (madeCells #[.int .i64 0] n) 3))) := hb2.alloc hb2.size _
  clear ha hb2
  go_wp2
  rw [← hg]
  clear hg hmk d0
  go_loopw [22] (fun iv wr => ∃ i : Nat, i ≤ n ∧ iv = .int .i64 (i : Int) ∧ NuR wr g n (fun j => if j < i then (upF n es j : Int) else 0) ∧ AbR wr a n (upF n es) ∧ Below w.heap.size w wr) (fun iv _ => n - (intOf iv).toNat)
  case atStart => exact ⟨0, Nat.zero_le _, rfl, HN0.out, HA0.out, HB0.out⟩
  case round =>
    obtain ⟨i, hi, rfl, hn2, ha2, hb2⟩ := hrel
    clear HA0 HN0 HB0
    by_cases hlt : i < n
    · have c1 := ha2.cell hlt
      have c2 := hn2.cell hlt
      have c3 := hn2.frozen i
      have hx := HX.out i hlt
      have HN : Hid (NuR (wr.setCell ⟨g, i, none⟩ (.int .i64 (upF n es i : Int))) g n (fun j => if j < i + 1 then (upF n es j : Int) else 0)) := NuR.set hn2 (by show (if i < i + 1 then _ else _) = _; rw [if_pos (by omega)]) (fun j _ hj => by
        show (if j < i + 1 then _ else _) = if j < i then _ else _
        by_cases h : j < i
        · rw [if_pos h, if_pos (by omega)]
        · rw [if_neg h, if_neg (by omega)])
      have HA : Hid (AbR (wr.setCell ⟨g, i, none⟩ (.int .i64 (upF n es i : Int))) a n (upF n es)) := World.rowIs.setOther ha2 (by exact hag) _
      have HB : Hid (Below w.heap.size w (wr.setCell ⟨g, i, none⟩ (.int .i64 (upF n es i : Int)))) := below_set hb2 hgw
      clear hn2 ha2 hb2
      generalize upF n es i = x at *
      have kI : (i : Int) < (n : Int) := by omega
      have kI0 : (0 : Int) ≤ (i : Int) := by omega
      have hxw : IntKind.i64.wrap (x : Int) = (x : Int) := by rw [IntWalk.i64_left]; exact IntWalk.wrap64_in _ ⟨by omega, by omega⟩
      go_wp2
      go_roundw
      case rel => exact ⟨i + 1, by omega, by go_num, HN.out, HA.out, HB.out⟩
      case measure => simp [intOf]; omega
    · have hie : i = n := by omega
      subst hie
      have HN : Hid (NuR wr g i (fun j => (upF i es j : Int))) := hn2.congr fun j hj => by
        show Value.int _ (if j < i then _ else _) = _
        rw [if_pos hj]
      have HB : Hid (Below w.heap.size w wr) := hb2
      clear hn2 ha2 hb2
      go_wp2
      go_ret2
      exact ⟨g, rfl, HN.out, HB.out, hgw⟩

end Go.Proofs.YtcmemhdlendlkaaDoor

/- poset.Moebius. -/
namespace Go.Proofs.YtcmemhdlendlkaaDoor
open Go.RowKit
attribute [local go_sem ↓] Go.wp_at_zero Go.wp_at_succ

/-- The rows of Moebius's numbers, as they grow: those ahead of i whole, k numbers in row i. -/
structure MoI (w : World) (pb a g T n : Nat) (f : Nat → Nat) (M : Nat → Nat → Int) (i k : Nat) (wr : World) : Prop where
  bel : Below w.heap.size w wr
  ab : AbR wr a n f
  box : wr.cell? ⟨pb, 0, none⟩ = some (.int .i64 (n : Int))
  lo : w.heap.size ≤ g
  gT : g < T
  aT : a < T ∧ a ≠ g
  pT : pb < T ∧ pb ≠ g
  sz : T ≤ wr.heap.size
  row : ∃ vs : Nat → Value, wr.rowIs g 27 n vs ∧ (∀ j, j < i → ∃ b c, b < T ∧ b ≠ g ∧ vs j = .slice (some ⟨b, 0, none⟩) n c ∧ (∀ l, l < n → wr.cell? ⟨b, l, none⟩ = some (.int .i64 (M j l))) ∧ n ≤ c ∧ c ≤ maxLen) ∧ (i < n → wr.ownsRow T 3 1 (vs i) k (ints ((List.range k).map (M i)))) ∧ (∀ j, i < j → j < n → vs j = .slice none 0 0)

/-- Rows of n numbers each. -/
def MoR (w : World) (g n : Nat) (M : Nat → Nat → Int) : Prop :=
  ∀ i, i < n → ∃ b c, w.cell? ⟨g, i, none⟩ = some (.slice (some ⟨b, 0, none⟩) n c) ∧ (∀ l, l < n → w.cell? ⟨b, l, none⟩ = some (.int .i64 (M i l))) ∧ n ≤ c ∧ c ≤ maxLen

theorem MoR.below {N : Nat} {w w' : World} {g n : Nat} {M : Nat → Nat → Int} (h : MoR w g n M) (hb : Below N w w') (hN : w.heap.size ≤ N) : MoR w' g n M := fun i hi => by
  obtain ⟨b, c, h1, h2, h5⟩ := h i hi
  refine ⟨b, c, (hb.cell (by have := lt_of_cell h1; show g < N; omega)).trans h1, fun l hl => ?_, h5⟩
  have h3 := h2 l hl
  exact (hb.cell (by have := lt_of_cell h3; show b < N; omega)).trans h3

theorem MoI.next {w : World} {pb a g T n : Nat} {f : Nat → Nat} {M : Nat → Nat → Int} {i : Nat} {wr : World} (h : MoI w pb a g T n f M i n wr) (hi : i < n) : MoI w pb a g wr.heap.size n f M (i + 1) 0 wr := by
  obtain ⟨vs, h1, h2, h3, h4⟩ := h.row
  have hsz := h.sz
  have hgT := h.gT
  refine ⟨h.bel, h.ab, h.box, h.lo, by omega, ⟨by have := h.aT.1; omega, h.aT.2⟩, ⟨by have := h.pT.1; omega, h.pT.2⟩, Nat.le_refl _, vs, h1, fun j hj => ?_, fun hi1 => ?_, fun j hj hj2 => h4 j (by omega) hj2⟩
  · by_cases e : j = i
    · subst e
      have ho := h3 hi
      rcases ho.2 with ⟨_, h0⟩ | ⟨b, c, cur, e1, hb, hh, hk⟩
      · omega
      · have hlt := (Array.getElem?_eq_some_iff.1 hh).1
        obtain ⟨k1, k2, k3, k4⟩ := hk
        refine ⟨b, c, hlt, by omega, e1, fun l hl => ?_, k1, k2⟩
        have hm : (ints ((List.range n).map (M j)))[l]? = some (.int .i64 (M j l)) := by simp [ints, hl]
        rw [← k4, List.getElem?_take_of_lt (by omega), Array.getElem?_toList] at hm
        simp [World.cell?, hh, hm]
    · obtain ⟨b, c, k1, k2, k3, k4⟩ := h2 j (by omega)
      exact ⟨b, c, by omega, k2, k3, k4⟩
  · rw [h4 (i + 1) (by omega) hi1]
    exact World.ownsRow_nil _ _ _ _

theorem MoI.done {w : World} {pb a g T n : Nat} {f : Nat → Nat} {M : Nat → Nat → Int} {k : Nat} {wr : World} (h : MoI w pb a g T n f M n k wr) : MoR wr g n M := fun i hi => by
  obtain ⟨vs, h1, h2, _, _⟩ := h.row
  obtain ⟨b, c, _, _, k3, k4, k5⟩ := h2 i hi
  exact ⟨b, c, by rw [h1.cell hi, k3], k4, k5⟩

/-- One number more. -/
theorem MoI.push {w : World} {pb a g T n : Nat} {f : Nat → Nat} {M : Nat → Nat → Int} {i k : Nat} {wr : World} (h : MoI w pb a g T n f M i k wr) (hi : i < n) (m : Int) (hm : M i k = m) :
    ∃ sv, wr.cell? ⟨g, i, none⟩ = some sv ∧ (∃ so sc, sv = .slice so k sc) ∧ wr.ownsRow T 3 1 sv k (ints ((List.range k).map (M i))) ∧ ∀ v' w5, w5.ownsRow T 3 1 v' (k + 1) (ints ((List.range k).map (M i)) ++ [.int .i64 m]) → (wr.drew.alloc (.cells #[.int .i64 m] 3)).grownBy w5 sv.ownBlock → w5.cell? ⟨g, i, none⟩ = some sv ∧ w5.frozen? ⟨g, i, none⟩ = false ∧ MoI w pb a g T n f M i (k + 1) (w5.setCell ⟨g, i, none⟩ v') := by
  obtain ⟨vs, h1, h2, h3, h4⟩ := h.row
  have hown := h3 hi
  have hsz := h.sz
  have hgT := h.gT
  obtain ⟨ha1, ha2⟩ := h.aT
  obtain ⟨hp1, hp2⟩ := h.pT
  have hlo := h.lo
  refine ⟨vs i, h1.cell hi, ?_, hown, fun v' w5 ho hg => ?_⟩
  · obtain ⟨so, sc, e⟩ := owns_form hown
    exact ⟨so, sc, e⟩
  have hne : ∀ b, b < T → w5.heap[b]? = wr.heap[b]? := fun b hb => by
    refine (hg.block b (by simp; omega) (fun e => ?_)).trans (Below.heap_alloc wr.drew _ b (by show b < wr.heap.size; omega))
    have := (hown.lt b e.symm).1
    omega
  have hno : ∀ b, b < T → b ≠ g → (w5.setCell ⟨g, i, none⟩ v').heap[b]? = wr.heap[b]? := fun b hb hbg => (Below.heap_setCell _ _ _ _ hbg).trans (hne b hb)
  have hr5 : w5.rowIs g 27 n vs := h1.of_block (hne g hgT)
  have hss : wr.heap.size ≤ w5.heap.size := Nat.le_trans (by simp) hg.size
  have hb5 : Below w.heap.size w w5 := ⟨hg.os.trans h.bel.os, hg.tape.trans h.bel.tape, hg.output.trans h.bel.output, Nat.le_trans h.bel.size hss, fun b hb => (hne b (by omega)).trans (h.bel.block b hb)⟩
  refine ⟨hr5.cell hi, hr5.frozen i, below_set hb5 hlo, h.ab.of_block (hno a ha1 ha2), (World.cell?_of_block (w := wr) (a := ⟨pb, 0, none⟩) (hno pb hp1 hp2)).trans h.box, hlo, hgT, ⟨ha1, ha2⟩, ⟨hp1, hp2⟩, by simp only [World.setCell, Array.size_modify]; omega, fun j => if j = i then v' else vs j, hr5.set i v', fun j hj => ?_, fun _ => ?_, fun j hj hj2 => ?_⟩
  · obtain ⟨b, c, k1, k2, k3, k4⟩ := h2 j hj
    refine ⟨b, c, k1, k2, by show (if j = i then _ else _) = _; rw [if_neg (by omega)]; exact k3, fun l hl => ?_, k4.2⟩
    exact (World.cell?_of_block (w := wr) (a := ⟨b, l, none⟩) (hno b k1 k2)).trans (k4.1 l hl)
  · show World.ownsRow _ _ _ _ (if i = i then _ else _) _ _
    rw [if_pos rfl]
    have e1 : ints ((List.range (k + 1)).map (M i)) = ints ((List.range k).map (M i)) ++ [.int .i64 m] := by simp [ints, List.range_succ, hm]
    rw [e1]
    refine ⟨ho.1, ?_⟩
    rcases ho.2 with q1 | ⟨b, cap, cur, f1, f2, f3, f4⟩
    · exact .inl q1
    · exact .inr ⟨b, cap, cur, f1, f2, (Below.heap_setCell _ _ _ _ (by show b ≠ g; omega)).trans f3, f4⟩
  · show (if j = i then _ else _) = _
    rw [if_neg (by omega)]
    exact h4 j hj hj2

theorem infoSl : (Tryd.prog.info? 27).map (fun i => (i.zero, i.size, i.bytes)) = some (some (.slice none 0 0), 1, 24) := by kernel_rfl

set_option maxRecDepth 100000 in
set_option maxHeartbeats 3200000 in
theorem moebiusAll_any (n : Nat) (es : List (Nat × Nat)) (pv : Value) (w : World) (hv : Prs w pv (npL es)) (hG : GdO n es) :
    Calls Tryd.prog 9 #[.agg #[.int .i64 (n : Int), pv]] w fun e w' => ∃ g, e = .returned (.tuple #[.slice (some ⟨g, 0, none⟩) n n, .int .i64 0]) ∧ MoR w' g n (moF n (upF n es)) ∧ Below w.heap.size w w' := by
  obtain ⟨i3, hi3, hz30, hz31, hz32⟩ := info_parts Tryd.info3
  obtain ⟨W1, hW1⟩ : ∃ W1, W1 = w.alloc (.cells #[.int .i64 (n : Int), pv] 24) := ⟨_, rfl⟩
  have HB1 : Below w.heap.size w W1 := by rw [hW1]; exact (Below.refl _ _).alloc (Nat.le_refl _) _
  have hs1 : W1.heap.size = w.heap.size + 1 := by rw [hW1]; simp
  have d0 : W1.cell? ⟨w.heap.size, 0, none⟩ = some (.int .i64 (n : Int)) := by rw [hW1]; simp
  have HRD : Hid (Calls Tryd.prog 27 #[.agg #[.int .i64 (n : Int), pv]] W1 fun e w' => ∃ g, e = .returned (.tuple #[.slice (some ⟨g, 0, none⟩) n n, .int .i64 0]) ∧ AbR w' g n (upF n es) ∧ Below w.heap.size w w' ∧ w'.cell? ⟨w.heap.size, 0, none⟩ = some (.int .i64 (n : Int)) ∧ w.heap.size < w'.heap.size) := (read_ok n es pv W1 (hv.below HB1 (Nat.le_refl _)) hG.bd hG.n1 hG.n6 hG.len hG.irr).mono (by
    rintro e w' ⟨g, h1, h2, h3, h4⟩
    exact ⟨g, h1, h2, HB1.trans (h3.mono HB1.size), (h3.cell (lt_of_cell d0)).trans d0, by have := h3.size; omega⟩)
  have hn1 := hG.n1
  have hn := hG.n6
  have HP := hG.ord
  have HMO : Hid (∀ a i k W, i < n → k < n → AbR W a n (upF n es) → Calls Tryd.prog 28 #[.slice (some ⟨a, 0, none⟩) n n, .int .i64 (i : Int), .int .i64 (k : Int)] W fun e w' => e = .returned (.int .i64 (moF n (upF n es) i k)) ∧ w' = W) := fun a i k W hi hk hA => by
    have := moebius_any n a (upF n es) HP hn i hi 6 k (Nat.le_refl _) hk (by omega) W hA
    rw [mu_mo HP hk (by omega)] at this
    exact this
  have hmk : ∀ w : World, (Instr.makeSlice 28 (.int .i64 (n : Int)) (.int .i64 (n : Int))).run Tryd.prog w = .ok (.slice (some ⟨w.heap.size, 0, none⟩) n n) (w.alloc (.cells (madeCells #[.slice none 0 0] n) 27)) := run_make_row' (P := Tryd.prog) 28 27 (.slice none 0 0) 24 Tryd.underlying28 infoSl rfl .i64 .i64 n (by omega) (by omega)
  have HU : Hid (∀ W g, MoR W g n (moF n (upF n es)) → MoR W g n (moF n (upF n es))) := fun _ _ h => h
  clear hG hv HB1 hs1 d0 HP
  go_enter Tryd.func9, Tryd.ntmps9
  go_wp2_with fail
  try rw [← hW1]
  refine HRD.out.mono ?_
  rintro e w2 ⟨a, rfl, ha, hb2, d0, hsz⟩
  clear HRD hW1
  obtain ⟨f, hf⟩ : ∃ f, f = upF n es := ⟨_, rfl⟩
  obtain ⟨M, hM⟩ : ∃ M, M = moF n (upF n es) := ⟨_, rfl⟩
  rw [← hM] at HMO
  have HU : Hid (∀ W g, MoR W g n M → MoR W g n (moF n (upF n es))) := fun W g h => by rw [← hM]; exact h
  rw [← hf] at HMO ha
  clear hM hf
  obtain ⟨g, hg⟩ : ∃ g, g = w2.heap.size := ⟨_, rfl⟩
  have HI0 : Hid (MoI w w.heap.size a g (g + 1) n f M 0 0 (w2.alloc (.cells (madeCells #[.slice none 0 0] n) 27))) := by
    have hal := ha.lt
    have hr := World.rowIs_made w2 (.slice none 0 0) n 27
    rw [← hg] at hr
    refine ⟨hb2.alloc hb2.size _, World.rowIs.alloc ha _, (((Below.refl w2.heap.size w2).alloc (Nat.le_refl _) _).cell (lt_of_cell d0)).trans d0, by omega, by omega, by omega, by omega, by simp; omega, _, hr, fun j hj => by omega, fun _ => World.ownsRow_nil _ _ _ _, fun _ _ _ => rfl⟩
  clear ha hb2 hsz
  go_wp2
  rw [← hg]
  clear hg hmk d0
  obtain ⟨pb, hpb⟩ : ∃ pb, pb = w.heap.size := ⟨_, rfl⟩
  rw [← hpb]
  rw [← hpb] at HI0
  clear hpb
  go_loopw [22] (fun iv wr => ∃ (i T : Nat), i ≤ n ∧ iv = .int .i64 (i : Int) ∧ MoI w pb a g T n f M i 0 wr) (fun iv _ => n - (intOf iv).toNat)
  case atStart => exact ⟨0, g + 1, Nat.zero_le _, rfl, HI0.out⟩
  case round =>
    obtain ⟨i, T, hi, rfl, hm⟩ := hrel
    clear HI0
    by_cases hlt : i < n
    · have c0 := hm.box
      have HM0 : Hid (MoI w pb a g T n f M i 0 wr) := hm
      have iI : (i : Int) < (n : Int) := by omega
      have iI0 : (0 : Int) ≤ (i : Int) := by omega
      clear hm
      go_wp2
      clear c0
      go_loopw [27] (fun kv wq => ∃ k : Nat, k ≤ n ∧ kv = .int .i64 (k : Int) ∧ MoI w pb a g T n f M i k wq) (fun kv _ => n - (intOf kv).toNat)
      case atStart => exact ⟨0, Nat.zero_le _, rfl, HM0.out⟩
      case round =>
        obtain ⟨k, hk, rfl, hm⟩ := hrel
        clear HM0
        rename World => wr
        by_cases hlt2 : k < n
        · have HMX := HMO.out a i k
          obtain ⟨m, hmm⟩ : ∃ m, M i k = m := ⟨_, rfl⟩
          rw [hmm] at HMX
          have HMO1 : Hid (∀ W, AbR W a n f → Calls Tryd.prog 28 #[.slice (some ⟨a, 0, none⟩) n n, .int .i64 (i : Int), .int .i64 (k : Int)] W fun e w' => e = .returned (.int .i64 m) ∧ w' = W) := fun W h => HMX W hlt hlt2 h
          clear HMX
          obtain ⟨sv, hcs, ⟨so, sc, hsv⟩, hown, hfin⟩ := hm.push hlt m hmm
          subst hsv
          have HFIN : Hid (∀ v' w5, w5.ownsRow T 3 1 v' (k + 1) (ints ((List.range k).map (M i)) ++ [.int .i64 m]) → (wr.drew.alloc (.cells #[.int .i64 m] 3)).grownBy w5 (Value.slice so k sc).ownBlock → w5.cell? ⟨g, i, none⟩ = some (.slice so k sc) ∧ w5.frozen? ⟨g, i, none⟩ = false ∧ MoI w pb a g T n f M i (k + 1) (w5.setCell ⟨g, i, none⟩ v')) := hfin
          have HOA : Hid ((wr.drew.alloc (.cells #[.int .i64 m] 3)).ownsRow T 3 1 (.slice so k sc) k (ints ((List.range k).map (M i)))) := World.ownsRow.alloc (w := wr.drew) ⟨hown.1, hown.2⟩ _
          have HAD : Hid (AbR wr.drew a n f) := hm.ab
          have hs3 := hm.sz
          have HSZ1 : Hid (T ≤ (wr.drew.alloc (.cells #[.int .i64 m] 3)).heap.size) := by show _ ≤ _; simp; omega
          have hcd : wr.drew.cell? ⟨g, i, none⟩ = some (.slice so k sc) := hcs
          have hca : (wr.drew.alloc (.cells #[.int .i64 m] 3)).cell? ⟨g, i, none⟩ = some (.slice so k sc) := (((Below.refl wr.drew.heap.size wr.drew).alloc (Nat.le_refl _) _).cell (lt_of_cell hcd)).trans hcd
          have hcb : (wr.alloc (.cells #[.int .i64 m] 3)).cell? ⟨g, i, none⟩ = some (.slice so k sc) := hca
          have kI : (k : Int) < (n : Int) := by omega
          have kI0 : (0 : Int) ≤ (k : Int) := by omega
          clear hm hfin hown hmm HMO
          have HMO := HMO1
          clear HMO1
          go_wp2
          refine wp_region_held_drew (S := fun _ => True) (by kernel_rfl) trivial (fun hHeld => ?_)
          refine wpAnyH_tk (i := 0) (d := 30) (v := (.slice (some ⟨g, 0, none⟩) n n)) rfl rfl (by kernel_rfl) (by kernel_rfl) (by kernel_rfl) (fun _ _ _ h => h) (.inl ⟨by rfl, by (intro wq hSw; (try dsimp only at hSw); go_simp; (try (first | rfl | omega)))⟩) hHeld ?_
          simp only [Act.put, List.setIfInBounds_toArray, List.set_cons_zero, List.set_cons_succ]
          refine wpAnyH_tk (i := 1) (d := 31) (v := (.int .i64 (i : Int))) rfl rfl (by kernel_rfl) (by kernel_rfl) (by kernel_rfl) (fun _ _ _ h => h) (.inl ⟨by rfl, by (intro wq hSw; (try dsimp only at hSw); go_simp; (try (first | rfl | omega)))⟩) hHeld ?_
          simp only [Act.put, List.setIfInBounds_toArray, List.set_cons_zero, List.set_cons_succ]
          refine wpAnyH_tk (i := 2) (d := 32) (v := (.slice (some ⟨g, 0, none⟩) n n)) rfl rfl (by kernel_rfl) (by kernel_rfl) (by kernel_rfl) (fun _ _ _ h => h) (.inl ⟨by rfl, by (intro wq hSw; (try dsimp only at hSw); go_simp; (try (first | rfl | omega)))⟩) hHeld ?_
          simp only [Act.put, List.setIfInBounds_toArray, List.set_cons_zero, List.set_cons_succ]
          refine wpAnyH_tk (i := 3) (d := 33) (v := (.int .i64 (i : Int))) rfl rfl (by kernel_rfl) (by kernel_rfl) (by kernel_rfl) (fun _ _ _ h => h) (.inl ⟨by rfl, by (intro wq hSw; (try dsimp only at hSw); go_simp; (try (first | rfl | omega)))⟩) hHeld ?_
          simp only [Act.put, List.setIfInBounds_toArray, List.set_cons_zero, List.set_cons_succ]
          refine wpAnyH_tk (i := 4) (d := 34) (v := (.pointer (some ⟨g, i, none⟩))) rfl rfl (by kernel_rfl) (by kernel_rfl) (by kernel_rfl) (fun _ _ _ h => h) (.inl ⟨by rfl, by (intro wq hSw; (try dsimp only at hSw); go_simp; (try (first | rfl | omega)))⟩) hHeld ?_
          simp only [Act.put, List.setIfInBounds_toArray, List.set_cons_zero, List.set_cons_succ]
          refine wpAnyH_tk (i := 6) (d := 36) (v := (.slice (some ⟨a, 0, none⟩) n n)) rfl rfl (by kernel_rfl) (by kernel_rfl) (by kernel_rfl) (fun _ _ _ h => h) (.inl ⟨by rfl, by (intro wq hSw; (try dsimp only at hSw); go_simp; (try (first | rfl | omega)))⟩) hHeld ?_
          simp only [Act.put, List.setIfInBounds_toArray, List.set_cons_zero, List.set_cons_succ]
          refine wpAnyH_tk (i := 7) (d := 37) (v := (.int .i64 (i : Int))) rfl rfl (by kernel_rfl) (by kernel_rfl) (by kernel_rfl) (fun _ _ _ h => h) (.inl ⟨by rfl, by (intro wq hSw; (try dsimp only at hSw); go_simp; (try (first | rfl | omega)))⟩) hHeld ?_
          simp only [Act.put, List.setIfInBounds_toArray, List.set_cons_zero, List.set_cons_succ]
          refine wpAnyH_tk (i := 8) (d := 38) (v := (.int .i64 (k : Int))) rfl rfl (by kernel_rfl) (by kernel_rfl) (by kernel_rfl) (fun _ _ _ h => h) (.inl ⟨by rfl, by (intro wq hSw; (try dsimp only at hSw); go_simp; (try (first | rfl | omega)))⟩) hHeld ?_
          simp only [Act.put, List.setIfInBounds_toArray, List.set_cons_zero, List.set_cons_succ]
          refine wpAnyH_ready (rs := [5, 9]) (by kernel_rfl) (by simp) ?_
          refine ready_tk (i := 5) rfl (by rfl) (fun K hK => ?_) (ready_tk (i := 9) rfl (by rfl) (fun K hK => ?_) AllReadyH.nil)
          · go_simp
            refine hK.out _ _ trivial (fun hHeld => ?_)
            clear hK K
            refine wpAnyH_ready (rs := [9]) (by kernel_rfl) (by simp) ?_
            refine ready_tk (i := 9) rfl (by rfl) (fun K hK => ?_) AllReadyH.nil
            go_simp
            refine (HMO.out _ HAD.out).mono ?_
            rintro e w2 ⟨rfl, hw2⟩
            subst hw2
            refine hK.out _ _ trivial (fun hHeld => ?_)
            clear hK K
            refine wpAnyH_ready (rs := [10]) (by kernel_rfl) (by simp) ?_
            refine ready_tk (i := 10) rfl (by rfl) (fun K hK => ?_) AllReadyH.nil
            go_simp
            refine hK.out _ _ trivial (fun hHeld => ?_)
            clear hK K
            refine wpAnyH_ready (rs := [11]) (by kernel_rfl) (by simp) ?_
            refine ready_tk (i := 11) rfl (by rfl) (fun K hK => ?_) AllReadyH.nil
            refine op_append_ownA (.tmp 35) (.tmp 40) 27 (by rfl) T 3 i3 (.int .i64 0) 1 8 Tryd.underlying27 hi3 hz30 hz31 hz32 rfl (by decide) _ _ _ (by rfl) HOA.out ⟨wr.heap.size, 0, none⟩ 1 1 [.int .i64 m] (by rfl) rfl (one_new _ _ _) (one_int _) (by unfold maxLen; omega) (by omega) HSZ1.out ?_
            intro v' w5 ho5 hg5 _
            refine hK.out _ _ trivial (fun hHeld => ?_)
            clear hK K
            simp only [Act.put, List.setIfInBounds_toArray, List.set_cons_zero, List.set_cons_succ]
            obtain ⟨vo, vc, hvv5⟩ := owns_form ho5
            subst hvv5
            obtain ⟨g1, g2, g3⟩ := HFIN.out _ w5 ho5 hg5
            have G3 : Hid (MoI w pb a g T n f M i (k + 1) (w5.setCell ⟨g, i, none⟩ (.slice vo (k + 1) vc))) := g3
            clear g3 ho5 hg5
            refine wpAnyH_tk (i := 12) (d := 42) (v := (.pointer (some ⟨g, i, none⟩))) rfl rfl (by kernel_rfl) (by kernel_rfl) (by kernel_rfl) (fun _ _ _ h => h) (.inl ⟨by rfl, by (intro wq hSw; (try dsimp only at hSw); go_simp; (try (first | rfl | omega)))⟩) hHeld ?_
            simp only [Act.put, List.setIfInBounds_toArray, List.set_cons_zero, List.set_cons_succ]
            refine wpAnyH_ready (rs := [13]) (by kernel_rfl) (by simp) ?_
            refine ready_tk (i := 13) rfl (by rfl) (fun K hK => ?_) AllReadyH.nil
            go_simp
            refine hK.out _ _ trivial (fun hHeld => ?_)
            clear hK K
            refine wpAnyH_done (by kernel_rfl) ?_ _
            clear hHeld g1 g2
            go_wp2
            exact ⟨⟨k + 1, by omega, by go_num, G3.out⟩, by simp [intOf]; omega⟩
          · go_simp
            refine (HMO.out _ HAD.out).mono ?_
            rintro e w2 ⟨rfl, hw2⟩
            subst hw2
            refine hK.out _ _ trivial (fun hHeld => ?_)
            clear hK K
            refine wpAnyH_ready (rs := [5, 10]) (by kernel_rfl) (by simp) ?_
            refine ready_tk (i := 5) rfl (by rfl) (fun K hK => ?_) (ready_tk (i := 10) rfl (by rfl) (fun K hK => ?_) AllReadyH.nil)
            · go_simp
              refine hK.out _ _ trivial (fun hHeld => ?_)
              clear hK K
              refine wpAnyH_ready (rs := [10]) (by kernel_rfl) (by simp) ?_
              refine ready_tk (i := 10) rfl (by rfl) (fun K hK => ?_) AllReadyH.nil
              go_simp
              refine hK.out _ _ trivial (fun hHeld => ?_)
              clear hK K
              refine wpAnyH_ready (rs := [11]) (by kernel_rfl) (by simp) ?_
              refine ready_tk (i := 11) rfl (by rfl) (fun K hK => ?_) AllReadyH.nil
              refine op_append_ownA (.tmp 35) (.tmp 40) 27 (by rfl) T 3 i3 (.int .i64 0) 1 8 Tryd.underlying27 hi3 hz30 hz31 hz32 rfl (by decide) _ _ _ (by rfl) HOA.out ⟨wr.heap.size, 0, none⟩ 1 1 [.int .i64 m] (by rfl) rfl (one_new _ _ _) (one_int _) (by unfold maxLen; omega) (by omega) HSZ1.out ?_
              intro v' w5 ho5 hg5 _
              refine hK.out _ _ trivial (fun hHeld => ?_)
              clear hK K
              simp only [Act.put, List.setIfInBounds_toArray, List.set_cons_zero, List.set_cons_succ]
              obtain ⟨vo, vc, hvv5⟩ := owns_form ho5
              subst hvv5
              obtain ⟨g1, g2, g3⟩ := HFIN.out _ w5 ho5 hg5
              have G3 : Hid (MoI w pb a g T n f M i (k + 1) (w5.setCell ⟨g, i, none⟩ (.slice vo (k + 1) vc))) := g3
              clear g3 ho5 hg5
              refine wpAnyH_tk (i := 12) (d := 42) (v := (.pointer (some ⟨g, i, none⟩))) rfl rfl (by kernel_rfl) (by kernel_rfl) (by kernel_rfl) (fun _ _ _ h => h) (.inl ⟨by rfl, by (intro wq hSw; (try dsimp only at hSw); go_simp; (try (first | rfl | omega)))⟩) hHeld ?_
              simp only [Act.put, List.setIfInBounds_toArray, List.set_cons_zero, List.set_cons_succ]
              refine wpAnyH_ready (rs := [13]) (by kernel_rfl) (by simp) ?_
              refine ready_tk (i := 13) rfl (by rfl) (fun K hK => ?_) AllReadyH.nil
              go_simp
              refine hK.out _ _ trivial (fun hHeld => ?_)
              clear hK K
              refine wpAnyH_done (by kernel_rfl) ?_ _
              clear hHeld g1 g2
              go_wp2
              exact ⟨⟨k + 1, by omega, by go_num, G3.out⟩, by simp [intOf]; omega⟩
            · go_simp
              refine hK.out _ _ trivial (fun hHeld => ?_)
              clear hK K
              refine wpAnyH_ready (rs := [5]) (by kernel_rfl) (by simp) ?_
              refine ready_tk (i := 5) rfl (by rfl) (fun K hK => ?_) AllReadyH.nil
              go_simp
              refine hK.out _ _ trivial (fun hHeld => ?_)
              clear hK K
              refine wpAnyH_ready (rs := [11]) (by kernel_rfl) (by simp) ?_
              refine ready_tk (i := 11) rfl (by rfl) (fun K hK => ?_) AllReadyH.nil
              refine op_append_ownA (.tmp 35) (.tmp 40) 27 (by rfl) T 3 i3 (.int .i64 0) 1 8 Tryd.underlying27 hi3 hz30 hz31 hz32 rfl (by decide) _ _ _ (by rfl) HOA.out ⟨wr.heap.size, 0, none⟩ 1 1 [.int .i64 m] (by rfl) rfl (one_new _ _ _) (one_int _) (by unfold maxLen; omega) (by omega) HSZ1.out ?_
              intro v' w5 ho5 hg5 _
              refine hK.out _ _ trivial (fun hHeld => ?_)
              clear hK K
              simp only [Act.put, List.setIfInBounds_toArray, List.set_cons_zero, List.set_cons_succ]
              obtain ⟨vo, vc, hvv5⟩ := owns_form ho5
              subst hvv5
              obtain ⟨g1, g2, g3⟩ := HFIN.out _ w5 ho5 hg5
              have G3 : Hid (MoI w pb a g T n f M i (k + 1) (w5.setCell ⟨g, i, none⟩ (.slice vo (k + 1) vc))) := g3
              clear g3 ho5 hg5
              refine wpAnyH_tk (i := 12) (d := 42) (v := (.pointer (some ⟨g, i, none⟩))) rfl rfl (by kernel_rfl) (by kernel_rfl) (by kernel_rfl) (fun _ _ _ h => h) (.inl ⟨by rfl, by (intro wq hSw; (try dsimp only at hSw); go_simp; (try (first | rfl | omega)))⟩) hHeld ?_
              simp only [Act.put, List.setIfInBounds_toArray, List.set_cons_zero, List.set_cons_succ]
              refine wpAnyH_ready (rs := [13]) (by kernel_rfl) (by simp) ?_
              refine ready_tk (i := 13) rfl (by rfl) (fun K hK => ?_) AllReadyH.nil
              go_simp
              refine hK.out _ _ trivial (fun hHeld => ?_)
              clear hK K
              refine wpAnyH_done (by kernel_rfl) ?_ _
              clear hHeld g1 g2
              go_wp2
              exact ⟨⟨k + 1, by omega, by go_num, G3.out⟩, by simp [intOf]; omega⟩

        · have hke : k = n := by omega
          subst hke
          have HX : Hid (MoI w pb a g wr.heap.size k f M (i + 1) 0 wr) := hm.next hlt
          clear hm
          go_wp2
          go_roundw
          case rel => exact ⟨i + 1, _, by omega, by go_num, HX.out⟩
          case measure => simp [intOf]; omega
    · have hie : i = n := by omega
      subst hie
      have HX : Hid (MoR wr g i M) := hm.done
      have HB : Hid (Below w.heap.size w wr) := hm.bel
      clear hm
      go_wp2
      go_ret2
      exact ⟨g, rfl, HU.out _ _ HX.out, HB.out⟩

end Go.Proofs.YtcmemhdlendlkaaDoor
