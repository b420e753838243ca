/- poset.closed: what is above each thing. -/
import Derived.Test.YtcmemhdlendlkaaDoorPo1
import Derived.Test.YtcmemhdlendlkaaDoorTkA
namespace Go.Proofs.YtcmemhdlendlkaaDoor
open Go.RowKit
attribute [local go_sem ↓] Go.wp_at_zero Go.wp_at_succ

/-- A list of pairs. -/
def Prs (w : World) (v : Value) (zs : List (Int × Int)) : Prop :=
  ∃ po pc, v = .slice po zs.length pc ∧ ∀ i, i < zs.length → ∃ b o, po = some ⟨b, o, none⟩ ∧ w.cell? ⟨b, o + i * 2, none⟩ = some (.int .i64 (zs.getD i (0, 0)).1) ∧ w.cell? ⟨b, o + i * 2 + 1, none⟩ = some (.int .i64 (zs.getD i (0, 0)).2)

theorem Prs.below {N : Nat} {w w' : World} {v : Value} {zs : List (Int × Int)} (h : Prs w v zs) (hb : Below N w w') (hN : w.heap.size ≤ N) : Prs w' v zs := by
  obtain ⟨po, pc, h1, h2⟩ := h
  refine ⟨po, pc, h1, fun i hi => ?_⟩
  obtain ⟨b, o, e, c1, c2⟩ := h2 i hi
  exact ⟨b, o, e, (hb.cell (by have := lt_of_cell c1; show b < N; omega)).trans c1, (hb.cell (by have := lt_of_cell c2; show b < N; omega)).trans c2⟩

/-- Pairs of things. -/
def npL (es : List (Nat × Nat)) : List (Int × Int) := es.map fun e => ((e.1 : Int), (e.2 : Int))

theorem npL_len (es : List (Nat × Nat)) : (npL es).length = es.length := by simp [npL]

theorem npL_at {es : List (Nat × Nat)} {i : Nat} (hi : i < es.length) : (npL es).getD i (0, 0) = (((es.getD i (0, 0)).1 : Int), ((es.getD i (0, 0)).2 : Int)) := by simp [npL, hi]

theorem prF_take {es : List (Nat × Nat)} {k : Nat} (hk : k < es.length) (i : Nat) : prF (es.take (k + 1)) i = if i = (es.getD k (0, 0)).1 then prF (es.take k) (es.getD k (0, 0)).1 ||| 2 ^ (es.getD k (0, 0)).2 else prF (es.take k) i := by
  have e : es.getD k (0, 0) = es[k] := by simp [hk]
  rw [List.take_succ_eq_append_getElem hk, prF_snoc, e]
  by_cases h : i = es[k].1
  · subst h
    simp
  · rw [if_neg (fun e => h e.symm), if_neg h]

theorem or64 {a b : Nat} (ha : a < 64) (hb : b < 64) : bits BinOp.or IntKind.u64 (a : Int) (b : Int) = ((a ||| b : Nat) : Int) := bits_or_u64_nat a b (by omega) (by omega)

theorem AbR.set {w : World} {g n i : Nat} {f f2 : Nat → Nat} {z : Nat} (h : AbR w g n f) (hz : f2 i = z) (hg : ∀ j, j < n → j ≠ i → f2 j = f j) : AbR (w.setCell ⟨g, i, none⟩ (.int .u64 (z : Int))) g n f2 := by
  refine (World.rowIs.set h i (.int .u64 (z : Int))).congr fun j hj => ?_
  by_cases e : j = i
  · subst e
    simp [hz]
  · simp [e, hg j hj e]

theorem below_set {B : Nat} {w w' : World} {a : Addr} {u : Value} (h : Below B w w') (ha : B ≤ a.block) : Below B w (w'.setCell a u) :=
  ⟨h.os, h.tape, h.output, by simp only [World.setCell, Array.size_modify]; exact h.size, fun b hb => (Below.heap_setCell _ _ _ _ (by omega)).trans (h.block b hb)⟩

set_option maxRecDepth 100000 in
set_option maxHeartbeats 3200000 in
theorem closed_any (n : Nat) (es : List (Nat × Nat)) (pv : Value) (w : World) (hv : Prs w pv (npL es)) (hes : ∀ e ∈ es, e.1 < n ∧ e.2 < n) (hn1 : 1 ≤ n) (hn : n ≤ 6) (hl : es.length ≤ 36) :
    Calls Tryd.prog 43 #[.agg #[.int .i64 (n : Int), pv]] w fun e w' => ∃ g, e = .returned (.slice (some ⟨g, 0, none⟩) n n) ∧ AbR w' g n (upF n es) ∧ Below w.heap.size w w' ∧ w.heap.size ≤ g := by
  have HV : Hid (Prs w pv (npL es)) := hv
  obtain ⟨po, pc, hpv, -⟩ := hv
  rw [npL_len] at hpv
  subst hpv
  have hp6 : ∀ m, m ≤ 6 → 2 ^ m ≤ 64 := fun m hm => (Nat.pow_le_pow_right (by omega) hm : 2 ^ m ≤ 2 ^ 6)
  have HF0 : Hid (∀ k i, prF (es.take k) i < 64) := fun k i => Nat.lt_of_lt_of_le (prF_lt (n := n) (fun e he => (hes e (List.mem_of_mem_take he)).2) i) (hp6 n hn)
  have HFW : Hid (∀ m i, war m (prF es) i < 64) := fun m i => Nat.lt_of_lt_of_le (war_lt (prF_lt (n := n) (fun e he => (hes e he).2)) m i) (hp6 n hn)
  have HES : Hid (∀ k, k < es.length → (es.getD k (0, 0)).1 < n ∧ (es.getD k (0, 0)).2 < n) := fun k hk => hes _ (by simp [hk])
  have hmk : ∀ w : World, (Instr.makeSlice 53 (.int .i64 (n : Int)) (.int .i64 (n : Int))).run Tryd.prog w = .ok (.slice (some ⟨w.heap.size, 0, none⟩) n n) (w.alloc (.cells (madeCells #[.int .u64 0] n) 59)) := run_make_row' (P := Tryd.prog) 53 59 (.int .u64 0) 8 Tryd.underlying53 (by kernel_rfl) rfl .i64 .i64 n (by omega) (by omega)
  clear hes hp6
  obtain ⟨g, hg⟩ : ∃ g, g = w.heap.size + 1 := ⟨_, rfl⟩
  have hgw : w.heap.size ≤ g := by omega
  have HA0 : Hid (AbR ((w.alloc (.cells #[.int .i64 (n : Int), .slice po es.length pc] 24)).alloc (.cells (madeCells #[.int .u64 0] n) 59)) g n (prF (es.take 0))) := by
    have h := World.rowIs_made (w.alloc (.cells #[.int .i64 (n : Int), .slice po es.length pc] 24)) (.int .u64 0) n 59
    have e : (w.alloc (.cells #[.int .i64 (n : Int), .slice po es.length pc] 24)).heap.size = g := by rw [hg]; simp
    rw [e] at h
    exact h.congr fun i _ => by simp [prF_nil]
  have HB0 : Hid (Below w.heap.size w ((w.alloc (.cells #[.int .i64 (n : Int), .slice po es.length pc] 24)).alloc (.cells (madeCells #[.int .u64 0] n) 59))) := ((Below.refl _ _).alloc (Nat.le_refl _) _).alloc (by simp) _
  go_enter Tryd.func43, Tryd.ntmps43
  go_wp2
  rw [← hg]
  clear hmk hg
  go_loopw [14] (fun iv wr => ∃ k : Nat, k ≤ es.length ∧ iv = .int .i64 (k : Int) ∧ AbR wr g n (prF (es.take k)) ∧ Below w.heap.size w wr) (fun iv _ => es.length - (intOf iv).toNat)
  case atStart => exact ⟨0, Nat.zero_le _, rfl, HA0.out, HB0.out⟩
  case round =>
    obtain ⟨k, hk, rfl, ha, hb⟩ := hrel
    clear HA0 HB0
    have HA : Hid (AbR wr g n (prF (es.take k))) := ha
    have HB : Hid (Below w.heap.size w wr) := hb
    have hgr : g < wr.heap.size := ha.lt
    clear ha hb
    by_cases hlt : k < es.length
    · obtain ⟨po2, pc2, hpe, hcs⟩ := HV.out.below HB.out (Nat.le_refl _)
      obtain ⟨b, o, e, c1, c2⟩ := hcs k (by rw [npL_len]; exact hlt)
      rw [npL_len] at hpe
      simp only [Value.slice.injEq, true_and] at hpe
      obtain ⟨rfl, rfl⟩ := hpe
      subst e
      rw [npL_at hlt] at c1 c2
      obtain ⟨ha6, hb6⟩ := HES.out k hlt
      have HPT : Hid (∀ i, prF (es.take (k + 1)) i = if i = (es.getD k (0, 0)).1 then prF (es.take k) (es.getD k (0, 0)).1 ||| 2 ^ (es.getD k (0, 0)).2 else prF (es.take k) i) := prF_take hlt
      generalize (es.getD k (0, 0)).1 = x at *
      generalize (es.getD k (0, 0)).2 = y at *
      have hF := HF0.out k x
      have hy2 : 2 ^ y < 64 := Nat.lt_of_lt_of_le (Nat.pow_lt_pow_right (by omega) (show y < 6 by omega)) (Nat.le_refl _)
      have e1 := or64 hF hy2
      have HON : Hid (∀ W, Calls Tryd.prog 49 #[.int .i64 (y : Int)] W fun e w' => e = .returned (.int .u64 ((2 ^ y : Nat) : Int)) ∧ w' = W) := fun W => oneP_any y W (by omega)
      obtain ⟨W, hW⟩ : ∃ W, W = wr.alloc (.cells #[.int .i64 (x : Int), .int .i64 (y : Int)] 50) := ⟨_, rfl⟩
      obtain ⟨P, hP⟩ : ∃ P, P = wr.heap.size := ⟨_, rfl⟩
      have d1 : W.cell? ⟨P, 0, none⟩ = some (.int .i64 (x : Int)) := by rw [hW, hP]; simp
      have d2 : W.cell? ⟨P, 1, none⟩ = some (.int .i64 (y : Int)) := by rw [hW, hP]; simp
      have HAW : Hid (AbR W g n (prF (es.take k))) := by rw [hW]; exact World.rowIs.alloc HA.out _
      have d3 : W.cell? ⟨g, x, none⟩ = some (.int .u64 ((prF (es.take k) x : Nat) : Int)) := HAW.out.cell ha6
      have d4 : W.frozen? ⟨g, x, none⟩ = false := HAW.out.frozen x
      have HBW : Hid (Below w.heap.size w W) := by rw [hW]; exact HB.out.alloc HB.out.size _
      have HNX : Hid (AbR (W.setCell ⟨g, x, none⟩ (.int .u64 ((prF (es.take k) x ||| 2 ^ y : Nat) : Int))) g n (prF (es.take (k + 1)))) := AbR.set HAW.out (by rw [HPT.out, if_pos rfl]) (fun j _ hj => by rw [HPT.out, if_neg hj])
      have HNB : Hid (Below w.heap.size w (W.setCell ⟨g, x, none⟩ (.int .u64 ((prF (es.take k) x ||| 2 ^ y : Nat) : Int)))) := below_set HBW.out hgw
      have hgP : g ≠ P := by omega
      have HNS : Hid ((W.setCell ⟨g, x, none⟩ (.int .u64 ((prF (es.take k) x ||| 2 ^ y : Nat) : Int))).cell? ⟨P, 0, none⟩ = some (.int .i64 (x : Int)) ∧ (W.setCell ⟨g, x, none⟩ (.int .u64 ((prF (es.take k) x ||| 2 ^ y : Nat) : Int))).cell? ⟨P, 1, none⟩ = some (.int .i64 (y : Int))) := ⟨(World.cell?_of_block (w := W) (a := ⟨P, 0, none⟩) (Below.heap_setCell _ _ _ _ (fun h => hgP h.symm))).trans d1, (World.cell?_of_block (w := W) (a := ⟨P, 1, none⟩) (Below.heap_setCell _ _ _ _ (fun h => hgP h.symm))).trans d2⟩
      generalize prF (es.take k) x ||| 2 ^ y = z at *
      generalize 2 ^ y = q at *
      generalize prF (es.take k) x = fx at *
      have kI : (k : Int) < (es.length : Int) := by omega
      have kI0 : (0 : Int) ≤ (k : Int) := by omega
      have xI : (x : Int) < (n : Int) := by omega
      have xI0 : (0 : Int) ≤ (x : Int) := by omega
      have yI0 : (0 : Int) ≤ (y : Int) := by omega
      clear HPT HF0 HA HB HAW HBW
      go_wp2
      rw [← hW, ← hP]
      clear hW hP
      refine wp_region_held_drew (S := fun w' => w'.cell? ⟨P, 0, none⟩ = some (.int .i64 (x : Int)) ∧ w'.cell? ⟨P, 1, none⟩ = some (.int .i64 (y : Int))) (by kernel_rfl) ⟨d1, d2⟩ (fun hHeld => ?_)
      refine wpAnyH_tk (i := 0) (d := 18) (v := (.slice (some ⟨g, 0, none⟩) n n)) rfl rfl (by kernel_rfl) (by kernel_rfl) (by kernel_rfl) (fun _ _ _ h => h) (.inl ⟨by rfl, by (intro wq hSw; (try dsimp only at hSw); go_simp; (try (first | rfl | omega)))⟩) hHeld ?_
      simp only [Act.put, List.setIfInBounds_toArray, List.set_cons_zero, List.set_cons_succ]
      refine wpAnyH_tk (i := 1) (d := 19) (v := (.pointer (some ⟨P, 0, none⟩))) rfl rfl (by kernel_rfl) (by kernel_rfl) (by kernel_rfl) (fun _ _ _ h => h) (.inl ⟨by rfl, by (intro wq hSw; (try dsimp only at hSw); go_simp; (try (first | rfl | omega)))⟩) hHeld ?_
      simp only [Act.put, List.setIfInBounds_toArray, List.set_cons_zero, List.set_cons_succ]
      refine wpAnyH_tk (i := 2) (d := 20) (v := (.int .i64 (x : Int))) rfl rfl (by kernel_rfl) (by kernel_rfl) (by kernel_rfl) (fun _ _ _ h => h) (.inl ⟨by rfl, by (intro wq hSw; (try dsimp only at hSw); go_simp; (try (first | rfl | omega)))⟩) hHeld ?_
      simp only [Act.put, List.setIfInBounds_toArray, List.set_cons_zero, List.set_cons_succ]
      refine wpAnyH_tk (i := 3) (d := 21) (v := (.pointer (some ⟨g, x, none⟩))) rfl rfl (by kernel_rfl) (by kernel_rfl) (by kernel_rfl) (fun _ _ _ h => h) (.inl ⟨by rfl, by (intro wq hSw; (try dsimp only at hSw); go_simp; (try (first | rfl | omega)))⟩) hHeld ?_
      simp only [Act.put, List.setIfInBounds_toArray, List.set_cons_zero, List.set_cons_succ]
      refine wpAnyH_tk (i := 5) (d := 23) (v := (.pointer (some ⟨P, 1, none⟩))) rfl rfl (by kernel_rfl) (by kernel_rfl) (by kernel_rfl) (fun _ _ _ h => h) (.inl ⟨by rfl, by (intro wq hSw; (try dsimp only at hSw); go_simp; (try (first | rfl | omega)))⟩) hHeld ?_
      simp only [Act.put, List.setIfInBounds_toArray, List.set_cons_zero, List.set_cons_succ]
      refine wpAnyH_tk (i := 6) (d := 24) (v := (.int .i64 (y : Int))) rfl rfl (by kernel_rfl) (by kernel_rfl) (by kernel_rfl) (fun _ _ _ h => h) (.inl ⟨by rfl, by (intro wq hSw; (try dsimp only at hSw); go_simp; (try (first | rfl | omega)))⟩) hHeld ?_
      simp only [Act.put, List.setIfInBounds_toArray, List.set_cons_zero, List.set_cons_succ]
      refine wpAnyH_ready (rs := [4, 7]) (by kernel_rfl) (by simp) ?_
      refine ready_tk (i := 4) rfl (by rfl) (fun K hK => ?_) (ready_tk (i := 7) rfl (by rfl) (fun K hK => ?_) AllReadyH.nil)
      · go_simp
        refine hK.out _ _ ⟨d1, d2⟩ (fun hHeld => ?_)
        clear hK K
        refine wpAnyH_ready (rs := [7]) (by kernel_rfl) (by simp) ?_
        refine ready_tk (i := 7) rfl (by rfl) (fun K hK => ?_) AllReadyH.nil
        go_simp
        refine (HON.out _).mono ?_
        rintro e w2 ⟨rfl, hw2⟩
        subst hw2
        refine hK.out _ _ ⟨d1, d2⟩ (fun hHeld => ?_)
        clear hK K
        refine wpAnyH_tk (i := 8) (d := 26) (v := (.int .u64 (z : Int))) rfl rfl (by kernel_rfl) (by kernel_rfl) (by kernel_rfl) (fun _ _ _ h => h) (.inl ⟨by rfl, by (intro wq hSw; (try dsimp only at hSw); go_simp; (try (first | rfl | omega)))⟩) hHeld ?_
        simp only [Act.put, List.setIfInBounds_toArray, List.set_cons_zero, List.set_cons_succ]
        refine wpAnyH_tk (i := 9) (d := 27) (v := (.pointer (some ⟨g, x, none⟩))) rfl rfl (by kernel_rfl) (by kernel_rfl) (by kernel_rfl) (fun _ _ _ h => h) (.inl ⟨by rfl, by (intro wq hSw; (try dsimp only at hSw); go_simp; (try (first | rfl | omega)))⟩) hHeld ?_
        simp only [Act.put, List.setIfInBounds_toArray, List.set_cons_zero, List.set_cons_succ]
        refine wpAnyH_ready (rs := [10]) (by kernel_rfl) (by simp) ?_
        refine ready_tk (i := 10) rfl (by rfl) (fun K hK => ?_) AllReadyH.nil
        go_simp
        refine hK.out _ _ HNS.out (fun hHeld => ?_)
        clear hK K
        refine wpAnyH_done (by kernel_rfl) ?_ _
        clear hHeld e1 d1 d2 d3 d4
        go_wp2
        go_roundw
        case rel => exact ⟨k + 1, by omega, by go_num, HNX.out, HNB.out.trans ⟨rfl, rfl, rfl, Nat.le_refl _, fun _ _ => rfl⟩⟩
        case measure => simp [intOf]; omega
      · go_simp
        refine (HON.out _).mono ?_
        rintro e w2 ⟨rfl, hw2⟩
        subst hw2
        refine hK.out _ _ ⟨d1, d2⟩ (fun hHeld => ?_)
        clear hK K
        refine wpAnyH_ready (rs := [4]) (by kernel_rfl) (by simp) ?_
        refine ready_tk (i := 4) rfl (by rfl) (fun K hK => ?_) AllReadyH.nil
        go_simp
        refine hK.out _ _ ⟨d1, d2⟩ (fun hHeld => ?_)
        clear hK K
        refine wpAnyH_tk (i := 8) (d := 26) (v := (.int .u64 (z : Int))) rfl rfl (by kernel_rfl) (by kernel_rfl) (by kernel_rfl) (fun _ _ _ h => h) (.inl ⟨by rfl, by (intro wq hSw; (try dsimp only at hSw); go_simp; (try (first | rfl | omega)))⟩) hHeld ?_
        simp only [Act.put, List.setIfInBounds_toArray, List.set_cons_zero, List.set_cons_succ]
        refine wpAnyH_tk (i := 9) (d := 27) (v := (.pointer (some ⟨g, x, none⟩))) rfl rfl (by kernel_rfl) (by kernel_rfl) (by kernel_rfl) (fun _ _ _ h => h) (.inl ⟨by rfl, by (intro wq hSw; (try dsimp only at hSw); go_simp; (try (first | rfl | omega)))⟩) hHeld ?_
        simp only [Act.put, List.setIfInBounds_toArray, List.set_cons_zero, List.set_cons_succ]
        refine wpAnyH_ready (rs := [10]) (by kernel_rfl) (by simp) ?_
        refine ready_tk (i := 10) rfl (by rfl) (fun K hK => ?_) AllReadyH.nil
        go_simp
        refine hK.out _ _ HNS.out (fun hHeld => ?_)
        clear hK K
        refine wpAnyH_done (by kernel_rfl) ?_ _
        clear hHeld e1 d1 d2 d3 d4
        go_wp2
        go_roundw
        case rel => exact ⟨k + 1, by omega, by go_num, HNX.out, HNB.out.trans ⟨rfl, rfl, rfl, Nat.le_refl _, fun _ _ => rfl⟩⟩
        case measure => simp [intOf]; omega
    · have hke : k = es.length := by omega
      subst hke
      have HA1 : Hid (AbR wr g n (war 0 (prF es))) := by
        have h := HA.out
        rw [List.take_of_length_le (Nat.le_refl _)] at h
        exact h
      clear HF0 HA HES HV hk hlt
      obtain ⟨F0, hF0⟩ : ∃ F0, F0 = prF es := ⟨_, rfl⟩
      have HUP : Hid (∀ m W, AbR W g m (war m F0) → AbR W g m (upF m es)) := fun m W h => by
        rw [hF0] at h
        exact h
      rw [← hF0] at HA1 HFW
      clear hF0
      go_wp2
      go_loopw [31] (fun iv wq => ∃ m : Nat, m ≤ n ∧ iv = .int .i64 (m : Int) ∧ AbR wq g n (war m F0) ∧ Below w.heap.size w wq) (fun iv _ => n - (intOf iv).toNat)
      case atStart => exact ⟨0, Nat.zero_le _, rfl, HA1.out, HB.out⟩
      case round =>
        obtain ⟨m, hm, rfl, ha2, hb2⟩ := hrel
        rename World => wq
        clear HA1 HB
        by_cases hlt2 : m < n
        · have HA2 : Hid (AbR wq g n (wsP m 0 (war m F0))) := by rw [wsP_zero]; exact ha2
          have HB2 : Hid (Below w.heap.size w wq) := hb2
          have HF2 : Hid (∀ i, war m F0 i < 64) := HFW.out m
          have HEN : Hid (∀ W, AbR W g n (wsP m n (war m F0)) → AbR W g n (war (m + 1) F0)) := fun W h => h.congr fun i hi => by
            show _ = Value.int _ ((wst m (war m F0) i : Nat) : Int)
            simp [wsP, hi]
          clear ha2 hb2
          generalize war m F0 = F at *
          go_wp2
          go_loopw [36] (fun iv wp => ∃ t : Nat, t ≤ n ∧ iv = .int .i64 (t : Int) ∧ AbR wp g n (wsP m t F) ∧ Below w.heap.size w wp) (fun iv _ => n - (intOf iv).toNat)
          case atStart => exact ⟨0, Nat.zero_le _, rfl, HA2.out, HB2.out⟩
          case round =>
            obtain ⟨t, ht, rfl, ha3, hb3⟩ := hrel
            rename World => wp
            clear HA2 HB2
            by_cases hlt3 : t < n
            · have ct := ha3.cell hlt3
              have cm := ha3.cell hlt2
              have ctf := ha3.frozen t
              rw [wsP_at] at ct
              rw [wsP_self] at cm
              have ht6 := HF2.out t
              have hm6 := HF2.out m
              have HII : Hid (∀ W, Calls Tryd.prog 44 #[.int .i64 (m : Int), .int .u64 ((F t : Nat) : Int)] W fun e w' => e = .returned (.bool ((F t).testBit m)) ∧ w' = W) := fun W => isIn_any m (F t) W (by omega) (by omega)
              have mI : (m : Int) < (n : Int) := by omega
              have mI0 : (0 : Int) ≤ (m : Int) := by omega
              have tI : (t : Int) < (n : Int) := by omega
              have tI0 : (0 : Int) ≤ (t : Int) := by omega
              cases hbt : (F t).testBit m
              · rw [hbt] at HII
                have HN3 : Hid (AbR wp g n (wsP m (t + 1) F)) := ha3.congr fun i hi => by
                  rw [wsP_succ]
                  by_cases e : i = t
                  · subst e
                    rw [if_pos rfl, wsP_at, wst, hbt]
                    rfl
                  · rw [if_neg e]
                have HB3 : Hid (Below w.heap.size w wp) := hb3
                clear ha3 hb3 hbt
                generalize F t = ft at *
                generalize F m = fm at *
                go_wp2_with fail
                refine (HII.out _).mono ?_
                rintro e w2 ⟨rfl, hw2⟩
                subst hw2
                go_wp2
                go_roundw
                case rel => exact ⟨t + 1, by omega, by go_num, HN3.out, HB3.out⟩
                case measure => simp [intOf]; omega
              · rw [hbt] at HII
                have e1 := or64 ht6 hm6
                have HN3 : Hid (AbR (wp.setCell ⟨g, t, none⟩ (.int .u64 ((F t ||| F m : Nat) : Int))) g n (wsP m (t + 1) F)) := AbR.set ha3 (by rw [wsP_succ, if_pos rfl, wst, if_pos hbt]) (fun j _ hj => by rw [wsP_succ, if_neg hj])
                have HB3 : Hid (Below w.heap.size w (wp.setCell ⟨g, t, none⟩ (.int .u64 ((F t ||| F m : Nat) : Int)))) := below_set hb3 hgw
                have HSM : Hid ((wp.setCell ⟨g, t, none⟩ (.int .u64 ((F t ||| F m : Nat) : Int))).cell? ⟨g, m, none⟩ = some (.int .u64 ((F m : Nat) : Int))) := by
                  have h := HN3.out.cell hlt2
                  rw [wsP_self] at h
                  exact h
                clear ha3 hb3 hbt
                generalize F t ||| F m = z at *
                generalize F t = ft at *
                generalize F m = fm at *
                go_wp2_with fail
                refine (HII.out _).mono ?_
                rintro e w2 ⟨rfl, hw2⟩
                subst hw2
                go_wp2
                refine wp_region_held_drew (S := fun w' => w'.cell? ⟨g, m, none⟩ = some (.int .u64 (fm : Int))) (by kernel_rfl) cm (fun hHeld => ?_)
                refine wpAnyH_tk (i := 0) (d := 45) (v := (.slice (some ⟨g, 0, none⟩) n n)) rfl rfl (by kernel_rfl) (by kernel_rfl) (by kernel_rfl) (fun _ _ _ h => h) (.inl ⟨by rfl, by (intro wq hSw; (try dsimp only at hSw); go_simp; (try (first | rfl | omega)))⟩) hHeld ?_
                simp only [Act.put, List.setIfInBounds_toArray, List.set_cons_zero, List.set_cons_succ]
                refine wpAnyH_tk (i := 1) (d := 46) (v := (.int .i64 (t : Int))) rfl rfl (by kernel_rfl) (by kernel_rfl) (by kernel_rfl) (fun _ _ _ h => h) (.inl ⟨by rfl, by (intro wq hSw; (try dsimp only at hSw); go_simp; (try (first | rfl | omega)))⟩) hHeld ?_
                simp only [Act.put, List.setIfInBounds_toArray, List.set_cons_zero, List.set_cons_succ]
                refine wpAnyH_tk (i := 2) (d := 47) (v := (.pointer (some ⟨g, t, none⟩))) rfl rfl (by kernel_rfl) (by kernel_rfl) (by kernel_rfl) (fun _ _ _ h => h) (.inl ⟨by rfl, by (intro wq hSw; (try dsimp only at hSw); go_simp; (try (first | rfl | omega)))⟩) hHeld ?_
                simp only [Act.put, List.setIfInBounds_toArray, List.set_cons_zero, List.set_cons_succ]
                refine wpAnyH_tk (i := 4) (d := 49) (v := (.slice (some ⟨g, 0, none⟩) n n)) rfl rfl (by kernel_rfl) (by kernel_rfl) (by kernel_rfl) (fun _ _ _ h => h) (.inl ⟨by rfl, by (intro wq hSw; (try dsimp only at hSw); go_simp; (try (first | rfl | omega)))⟩) hHeld ?_
                simp only [Act.put, List.setIfInBounds_toArray, List.set_cons_zero, List.set_cons_succ]
                refine wpAnyH_tk (i := 5) (d := 50) (v := (.int .i64 (m : Int))) rfl rfl (by kernel_rfl) (by kernel_rfl) (by kernel_rfl) (fun _ _ _ h => h) (.inl ⟨by rfl, by (intro wq hSw; (try dsimp only at hSw); go_simp; (try (first | rfl | omega)))⟩) hHeld ?_
                simp only [Act.put, List.setIfInBounds_toArray, List.set_cons_zero, List.set_cons_succ]
                refine wpAnyH_tk (i := 6) (d := 51) (v := (.pointer (some ⟨g, m, none⟩))) rfl rfl (by kernel_rfl) (by kernel_rfl) (by kernel_rfl) (fun _ _ _ h => h) (.inl ⟨by rfl, by (intro wq hSw; (try dsimp only at hSw); go_simp; (try (first | rfl | omega)))⟩) hHeld ?_
                simp only [Act.put, List.setIfInBounds_toArray, List.set_cons_zero, List.set_cons_succ]
                refine wpAnyH_tk (i := 7) (d := 52) (v := (.int .u64 (fm : Int))) rfl rfl (by kernel_rfl) (by kernel_rfl) (by kernel_rfl) (fun _ _ _ h => h) (.inl ⟨by rfl, by (intro wq hSw; (try dsimp only at hSw); go_simp; (try (first | rfl | omega)))⟩) hHeld ?_
                simp only [Act.put, List.setIfInBounds_toArray, List.set_cons_zero, List.set_cons_succ]
                refine wpAnyH_ready (rs := [3]) (by kernel_rfl) (by simp) ?_
                refine ready_tk (i := 3) rfl (by rfl) (fun K hK => ?_) AllReadyH.nil
                go_simp
                refine hK.out _ _ cm (fun hHeld => ?_)
                clear hK K
                refine wpAnyH_tk (i := 8) (d := 53) (v := (.int .u64 (z : Int))) rfl rfl (by kernel_rfl) (by kernel_rfl) (by kernel_rfl) (fun _ _ _ h => h) (.inl ⟨by rfl, by (intro wq hSw; (try dsimp only at hSw); go_simp; (try (first | rfl | omega)))⟩) hHeld ?_
                simp only [Act.put, List.setIfInBounds_toArray, List.set_cons_zero, List.set_cons_succ]
                refine wpAnyH_tk (i := 9) (d := 54) (v := (.pointer (some ⟨g, t, none⟩))) rfl rfl (by kernel_rfl) (by kernel_rfl) (by kernel_rfl) (fun _ _ _ h => h) (.inl ⟨by rfl, by (intro wq hSw; (try dsimp only at hSw); go_simp; (try (first | rfl | omega)))⟩) hHeld ?_
                simp only [Act.put, List.setIfInBounds_toArray, List.set_cons_zero, List.set_cons_succ]
                refine wpAnyH_ready (rs := [10]) (by kernel_rfl) (by simp) ?_
                refine ready_tk (i := 10) rfl (by rfl) (fun K hK => ?_) AllReadyH.nil
                go_simp
                refine hK.out _ _ HSM.out (fun hHeld => ?_)
                clear hK K
                refine wpAnyH_done (by kernel_rfl) ?_ _
                clear hHeld e1 ct cm ctf
                go_wp2
                go_roundw
                case rel => exact ⟨t + 1, by omega, by go_num, HN3.out, HB3.out.trans ⟨rfl, rfl, rfl, Nat.le_refl _, fun _ _ => rfl⟩⟩
                case measure => simp [intOf]; omega
            · have hte : t = n := by omega
              subst hte
              have HX := HEN.out wp ha3
              have HB3 : Hid (Below w.heap.size w wp) := hb3
              clear ha3 hb3
              go_wp2
              go_roundw
              case rel => exact ⟨m + 1, by omega, by go_num, HX, HB3.out⟩
              case measure => simp [intOf]; omega
        · have hme : m = n := by omega
          subst hme
          have HX : Hid (AbR wq g m (war m F0)) := ha2
          have HB3 : Hid (Below w.heap.size w wq) := hb2
          clear ha2 hb2
          go_wp2
          go_ret
          exact ⟨g, rfl, HUP.out _ _ HX.out, HB3.out, hgw⟩

end Go.Proofs.YtcmemhdlendlkaaDoor
