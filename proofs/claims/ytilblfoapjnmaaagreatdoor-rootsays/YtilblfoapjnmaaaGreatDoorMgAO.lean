import Derived.Test.YtilblfoapjnmaaaGreatDoorRp8
import Derived.Handy
import Derived.BigRegion
/- root.ranks, root.isKind, root.made, root.among: the walks. -/
namespace Go.Proofs.YtilblfoapjnmaaaGreatDoor
open Go.RowKit
attribute [local go_sem ↓] Go.wp_at_zero Go.wp_at_succ

theorem results_cellR {fn : Func} {t : Tmp} {ty : TypeId} {tmps : Array Value} {P : Program} {w : World} {ad : Addr} {v : Value} (h : fn.results = #[.cell t ty]) (hp : tmps.getD t undef = .pointer (some ad)) (hl : (loadVar ty ad).run P w = .ok v w) :
    (results fn tmps).run P w = .ok v w := by
  rw [Array.getD_eq_getD_getElem?] at hp
  simp [results, h, asAddr, hp, hl]

/-- A letter's least rank and its most. -/
def rkL (l : Nat) : Nat × Nat := if l = 65 then (1, 4) else if l = 66 then (2, 4) else if l = 67 then (3, 4) else if l = 71 then (2, 2) else (4, 4)
def isK (l r : Nat) : Bool := decide ((rkL l).1 ≤ r) && decide (r ≤ (rkL l).2)

set_option maxRecDepth 100000 in
theorem ranks_any (l : Nat) (w : World) : Calls Tryz.prog 90 #[.int .i32 (l : Int)] w fun e w' => e = .returned (.tuple #[.int .i64 ((rkL l).1 : Nat), .int .i64 ((rkL l).2 : Nat)]) ∧ w' = w := by
  by_cases h1 : l = 65
  · subst h1
    go_enter Tryz.func90, Tryz.ntmps90
    go_wp2
    go_ret2
    exact ⟨rfl, rfl⟩
  · by_cases h2 : l = 66
    · subst h2
      go_enter Tryz.func90, Tryz.ntmps90
      go_wp2
      go_ret2
      exact ⟨rfl, rfl⟩
    · by_cases h3 : l = 67
      · subst h3
        go_enter Tryz.func90, Tryz.ntmps90
        go_wp2
        go_ret2
        exact ⟨rfl, rfl⟩
      · by_cases h4 : l = 71
        · subst h4
          go_enter Tryz.func90, Tryz.ntmps90
          go_wp2
          go_ret2
          exact ⟨rfl, rfl⟩
        · have e : rkL l = (4, 4) := by unfold rkL; rw [if_neg h1, if_neg h2, if_neg h3, if_neg h4]
          rw [e]
          have b1 : ((l : Int) == 65) = false := by rw [beq_eq_false_iff_ne]; omega
          have b2 : ((l : Int) == 66) = false := by rw [beq_eq_false_iff_ne]; omega
          have b3 : ((l : Int) == 67) = false := by rw [beq_eq_false_iff_ne]; omega
          have b4 : ((l : Int) == 71) = false := by rw [beq_eq_false_iff_ne]; omega
          clear h1 h2 h3 h4 e
          go_enter Tryz.func90, Tryz.ntmps90
          go_wp2
          go_ret2
          exact ⟨rfl, rfl⟩

set_option maxRecDepth 100000 in
theorem isKind_any (l r : Nat) (w : World) : Calls Tryz.prog 62 #[.agg #[.int .i32 (l : Int), .int .i64 (r : Int)]] w fun e w' => e = .returned (.bool (isK l r)) ∧ Below w.heap.size w w' := by
  have HR : Hid (∀ X, Calls Tryz.prog 90 #[.int .i32 (l : Int)] X fun e w' => e = .returned (.tuple #[.int .i64 ((rkL l).1 : Nat), .int .i64 ((rkL l).2 : Nat)]) ∧ w' = X) := ranks_any l
  have HK : Hid (isK l r = (decide ((rkL l).1 ≤ r) && decide (r ≤ (rkL l).2))) := rfl
  generalize (rkL l).1 = a at *
  generalize (rkL l).2 = b at *
  go_enter Tryz.func62, Tryz.ntmps62
  go_wp2_with fail
  refine (HR.out _).mono ?_
  rintro e w2 ⟨rfl, hw2⟩
  have HB : Hid (Below w.heap.size w w2) := by rw [hw2]; exact (Below.refl _ _).alloc (Nat.le_refl _) _
  have cl : w2.cell? ⟨w.heap.size, 1, none⟩ = some (.int .i64 (r : Int)) := by rw [hw2]; simp
  clear hw2 HR
  by_cases h1 : a ≤ r
  · by_cases h2 : r ≤ b
    · have HK2 : Hid (isK l r = true) := by show _ = _; rw [HK.out, decide_eq_true h1, decide_eq_true h2]; rfl
      have h1I : (a : Int) ≤ (r : Int) := by omega
      have h2I : (r : Int) ≤ (b : Int) := by omega
      go_wp2
      go_ret
      exact ⟨by rw [HK2.out] <;> rfl, HB.out⟩
    · have HK2 : Hid (isK l r = false) := by show _ = _; rw [HK.out, decide_eq_false h2, Bool.and_false]
      have h1I : (a : Int) ≤ (r : Int) := by omega
      have h2I : ¬ (r : Int) ≤ (b : Int) := by omega
      go_wp2
      go_ret
      exact ⟨by rw [HK2.out] <;> rfl, HB.out⟩
  · have HK2 : Hid (isK l r = false) := by show _ = _; rw [HK.out, decide_eq_false h1, Bool.false_and]
    have h1I : ¬ (a : Int) ≤ (r : Int) := by omega
    go_wp2
    go_ret
    exact ⟨by rw [HK2.out] <;> rfl, HB.out⟩

/-- The cells of a square, 0 behind its rows. -/
def sqC (m : List (List Int)) (k : Nat) : Int := if k / 4 < m.length ∧ k % 4 < m.length then cE m (k / 4) (k % 4) else 0
def sqA (m : List (List Int)) : Array Value := ((List.range 16).map fun k => Value.int .i64 (sqC m k)).toArray

end Go.Proofs.YtilblfoapjnmaaaGreatDoor

/- root.among, root.kind.name: the walks. -/
namespace Go.Proofs.YtilblfoapjnmaaaGreatDoor
open Go.RowKit
attribute [local go_sem ↓] Go.wp_at_zero Go.wp_at_succ

/-- The square of some roots, 0 behind them. -/
def amC (c : List (List Int)) (r : List Nat) (k : Nat) : Int := if k / 4 < r.length ∧ k % 4 < r.length then cE c (r.getD (k / 4) 0) (r.getD (k % 4) 0) else 0
/-- What is laid when the first rows and places are done. -/
def amI (c : List (List Int)) (r : List Nat) (i j k : Nat) : Int := if (k / 4 < i ∧ k % 4 < r.length) ∨ (k / 4 = i ∧ k % 4 < j) then cE c (r.getD (k / 4) 0) (r.getD (k % 4) 0) else 0

theorem amI_next {c : List (List Int)} {r : List Nat} {i j k : Nat} (hj : j < r.length) (h4 : r.length ≤ 4) : amI c r i (j + 1) k = if k = i * 4 + j then cE c (r.getD i 0) (r.getD j 0) else amI c r i j k := by
  by_cases e : k = i * 4 + j
  · have e1 : k / 4 = i := by omega
    have e2 : k % 4 = j := by omega
    rw [if_pos e]
    unfold amI
    rw [if_pos (.inr ⟨e1, by omega⟩), e1, e2]
  · rw [if_neg e]
    unfold amI
    by_cases h : (k / 4 < i ∧ k % 4 < r.length) ∨ (k / 4 = i ∧ k % 4 < j)
    · rw [if_pos h, if_pos (by rcases h with h | h; exact .inl h; exact .inr ⟨h.1, by omega⟩)]
    · rw [if_neg h, if_neg (fun h2 => by
        rcases h2 with h2 | h2
        · exact h (.inl h2)
        · exact h (.inr ⟨h2.1, by omega⟩))]

theorem amI_row {c : List (List Int)} {r : List Nat} {i k : Nat} : amI c r i r.length k = amI c r (i + 1) 0 k := by
  unfold amI
  by_cases h : (k / 4 < i ∧ k % 4 < r.length) ∨ (k / 4 = i ∧ k % 4 < r.length)
  · rw [if_pos h, if_pos (.inl (by omega))]
  · rw [if_neg h, if_neg (fun h2 => h (by omega))]

theorem amI_all {c : List (List Int)} {r : List Nat} {k : Nat} : amI c r r.length 0 k = amC c r k := by
  unfold amI amC
  by_cases h : k / 4 < r.length ∧ k % 4 < r.length
  · rw [if_pos (.inl h), if_pos h]
  · rw [if_neg h, if_neg (fun h2 => h (by omega))]

set_option maxRecDepth 100000 in
set_option maxHeartbeats 1600000 in
theorem among_any (n : Nat) (c : List (List Int)) (r : List Nat) (cv rv : Value) (w : World) (hc : Sqc n c) (hr : ∀ t, t < r.length → r.getD t 0 < n) (hr0 : 0 < r.length) (hr4 : r.length ≤ 4) (hm : Mat w.heap.size 26 3 w cv c) (hrv : Sl 0 3 w rv (ints (natsI r))) :
    Calls Tryz.prog 60 #[cv, rv] w fun e w' => e = .returned (.agg ((List.range 16).map fun k => Value.int .i64 (amC c r k)).toArray) ∧ Below w.heap.size w w' := by
  obtain ⟨ao, cap, hvv, hlc, hcm⟩ := mat_open hm
  subst hvv
  obtain ⟨pb, pof, pc, hpe, _, _⟩ := sl_cell hrv (k := 0) (by rw [natsI_lenR]; exact hr0)
  subst hpe
  rw [natsI_lenR] at hrv
  have HCL : Hid (c.length = n) := hc.len
  have hn1 : 0 < n := Nat.lt_of_le_of_lt (Nat.zero_le _) (hr 0 hr0)
  have HEN : Hid (∃ b o, ao = some ⟨b, o, none⟩ ∧ ∀ x, x < n → ∃ b3 o3 cp3, ∀ X, Below w.heap.size w X → X.cell? ⟨b, o + x, none⟩ = some (.slice (some ⟨b3, o3, none⟩) n cp3) ∧ ∀ j, j < n → X.cell? ⟨b3, o3 + j, none⟩ = some (.int .i64 (cE c x j))) := by
    rw [HCL.out] at hm
    obtain ⟨b, o, b3, o3, cp3, h1, h2⟩ := ent_all hc hm (i := 0) hn1
    refine ⟨b, o, h1, fun x hx => ?_⟩
    obtain ⟨b', o', b3', o3', cp3', h1', h2'⟩ := ent_all hc hm hx
    rw [h1] at h1'
    simp only [Option.some.injEq, Addr.mk.injEq, and_true] at h1'
    obtain ⟨rfl, rfl⟩ := h1'
    exact ⟨b3', o3', cp3', h2'⟩
  obtain ⟨b, o, hao, hen⟩ := HEN.out
  subst hao
  have HXC : Hid (∀ x, x < n → ∃ b3 o3 cp3, ∀ X, Below w.heap.size w X → X.cell? ⟨b, o + x, none⟩ = some (.slice (some ⟨b3, o3, none⟩) n cp3) ∧ ∀ j, j < n → X.cell? ⟨b3, o3 + j, none⟩ = some (.int .i64 (cE c x j))) := hen
  have HRC : Hid (∀ t, t < r.length → ∀ X, Below w.heap.size w X → X.cell? ⟨pb, pof + t, none⟩ = some (.int .i64 (r.getD t 0 : Nat))) := fun t ht X hX => by
    have h := sl_all hrv (j := t) (by rw [natsI_lenR]; exact ht) X hX
    rw [natsI_atR ht] at h
    exact h
  have HRT : Hid (∀ t, t < r.length → r.getD t 0 < n) := hr
  rw [HCL.out]
  rw [natsI_lenR]
  clear hm hlc hc hrv hen HEN hr
  obtain ⟨Z, hZ⟩ : ∃ Z : Array Value, Z = #[.int .i64 0, .int .i64 0, .int .i64 0, .int .i64 0, .int .i64 0, .int .i64 0, .int .i64 0, .int .i64 0, .int .i64 0, .int .i64 0, .int .i64 0, .int .i64 0, .int .i64 0, .int .i64 0, .int .i64 0, .int .i64 0] := ⟨_, rfl⟩
  obtain ⟨W2, hW2⟩ : ∃ W2, W2 = (w.alloc (.cells Z 79)).alloc (.cells Z 79) := ⟨_, rfl⟩
  obtain ⟨R, hR⟩ : ∃ R, R = w.heap.size := ⟨_, rfl⟩
  have HRR : Hid (R = w.heap.size) := hR
  have hs1 : (w.alloc (.cells Z 79)).heap.size = R + 1 := by rw [hR]; simp
  have HRW : Hid (W2.rowIs (R + 1) 79 16 (fun k => .int .i64 (amI c r 0 0 k))) := by
    refine ⟨Z, by rw [hW2, ← hs1]; exact heap_alloc_new _ _, by rw [hZ]; rfl, fun k hk => ?_⟩
    have e : amI c r 0 0 k = 0 := by unfold amI; rw [if_neg (by omega)]
    show Z[k]? = some (Value.int .i64 (amI c r 0 0 k))
    rw [e, hZ]
    rcases (show k = 0 ∨ k = 1 ∨ k = 2 ∨ k = 3 ∨ k = 4 ∨ k = 5 ∨ k = 6 ∨ k = 7 ∨ k = 8 ∨ k = 9 ∨ k = 10 ∨ k = 11 ∨ k = 12 ∨ k = 13 ∨ k = 14 ∨ k = 15 by omega) with rfl | rfl | rfl | rfl | rfl | rfl | rfl | rfl | rfl | rfl | rfl | rfl | rfl | rfl | rfl | rfl <;> rfl
  have HRES : Hid (W2.heap[R]? = some (.cells Z 79 (0, 0))) := by
    show _ = _
    rw [hW2, hR]
    exact (Below.heap_alloc _ _ _ (by simp)).trans (heap_alloc_new w _)
  have HB2 : Hid (Below w.heap.size w W2) := by
    rw [hW2]
    exact ((Below.refl _ _).alloc (Nat.le_refl _) _).alloc (by rw [hs1, hR]; omega) _
  have HZ : Hid (Z = #[.int .i64 0, .int .i64 0, .int .i64 0, .int .i64 0, .int .i64 0, .int .i64 0, .int .i64 0, .int .i64 0, .int .i64 0, .int .i64 0, .int .i64 0, .int .i64 0, .int .i64 0, .int .i64 0, .int .i64 0, .int .i64 0]) := hZ
  rw [hZ] at hW2
  clear hZ hs1
  go_enter Tryz.func60, Tryz.ntmps60
  go_wp2
  rw [← hW2, ← hR]
  clear hW2 hR
  go_loopw [6, 7, 8, 9, 12] (fun _ _ _ _ iv wq => ∃ i : Nat, i ≤ r.length ∧ iv = .int .i64 i ∧ wq.rowIs (R + 1) 79 16 (fun k => .int .i64 (amI c r i 0 k)) ∧ Only (R + 1) W2 wq) (fun _ _ _ _ iv _ => r.length - (intOf iv).toNat)
  case atStart => exact ⟨0, Nat.zero_le _, rfl, HRW.out, Only.refl _ _⟩
  case round =>
    obtain ⟨i, hi, rfl, hrw, hon⟩ := hrel
    have HRI : Hid (wr.rowIs (R + 1) 79 16 (fun k => .int .i64 (amI c r i 0 k))) := hrw
    have HOI : Hid (Only (R + 1) W2 wr) := hon
    have HBI : Hid (Below w.heap.size w wr) := HB2.out.trans (hon.low (by have := HRR.out; omega))
    clear hrw hon HRW
    have iI0 : (0 : Int) ≤ (i : Int) := by omega
    by_cases hlt : i < r.length
    · have iI : (i : Int) < (r.length : Int) := by omega
      have iI4 : (i : Int) < 4 := by omega
      obtain ⟨ri, hri⟩ : ∃ ri, ri = r.getD i 0 := ⟨_, rfl⟩
      have HRi : Hid (ri = r.getD i 0) := hri
      have ci := HRC.out i hlt wr HBI.out
      rw [← hri] at ci
      clear hri
      go_wp2
      clear ci
      go_loopw [8, 9, 19] (fun _ _ jv wq => ∃ j : Nat, j ≤ r.length ∧ jv = .int .i64 j ∧ wq.rowIs (R + 1) 79 16 (fun k => .int .i64 (amI c r i j k)) ∧ Only (R + 1) W2 wq) (fun _ _ jv _ => r.length - (intOf jv).toNat)
      case atStart => exact ⟨0, Nat.zero_le _, rfl, HRI.out, HOI.out⟩
      case round =>
        obtain ⟨j, hj, rfl, hrw, hon⟩ := hrel
        have HRJ : Hid (wr.rowIs (R + 1) 79 16 (fun k => .int .i64 (amI c r i j k))) := hrw
        have HOJ : Hid (Only (R + 1) W2 wr) := hon
        have HBJ : Hid (Below w.heap.size w wr) := HB2.out.trans (hon.low (by have := HRR.out; omega))
        clear hrw hon HRI HOI HBI
        have jI0 : (0 : Int) ≤ (j : Int) := by omega
        by_cases hlj : j < r.length
        · have jI : (j : Int) < (r.length : Int) := by omega
          have jI4 : (j : Int) < 4 := by omega
          obtain ⟨rj, hrj⟩ : ∃ rj, rj = r.getD j 0 := ⟨_, rfl⟩
          have cj := HRC.out j hlj wr HBJ.out
          have lri := HRT.out i hlt
          have lrj := HRT.out j hlj
          rw [← HRi.out] at lri
          rw [← hrj] at cj lrj
          obtain ⟨b3, o3, cp3, hx⟩ := HXC.out ri lri
          obtain ⟨x0, x1'⟩ := hx wr HBJ.out
          have x1 := x1' rj lrj
          have cg : wr.cell? ⟨R + 1, i * 4 + j, none⟩ = some (.int .i64 (amI c r i j (i * 4 + j))) := HRJ.out.cell (show i * 4 + j < 16 by omega)
          have fg := HRJ.out.frozen (i * 4 + j)
          have HNX : Hid ((wr.setCell ⟨R + 1, i * 4 + j, none⟩ (.int .i64 (cE c ri rj))).rowIs (R + 1) 79 16 (fun k => .int .i64 (amI c r i (j + 1) k))) := (HRJ.out.set (i * 4 + j) _).congr fun k hk => by
            rw [amI_next hlj hr4, ← HRi.out, ← hrj]
            by_cases e : k = i * 4 + j
            · rw [if_pos e, if_pos e]
            · rw [if_neg e, if_neg e]
          have HON : Hid (Only (R + 1) W2 (wr.setCell ⟨R + 1, i * 4 + j, none⟩ (.int .i64 (cE c ri rj)))) := HOJ.out.set _ _
          generalize amI c r i j (i * 4 + j) = ag at *
          clear hrj
          generalize cE c ri rj = E at *
          have riI : (ri : Int) < (n : Int) := by omega
          have rjI : (rj : Int) < (n : Int) := by omega
          have riI0 : (0 : Int) ≤ (ri : Int) := by omega
          have rjI0 : (0 : Int) ≤ (rj : Int) := by omega
          clear hx x1' lri lrj
          go_wp2
          go_big_region
          all_goals
            go_wp2
            exact ⟨⟨j + 1, by omega, by go_num, HNX.out.of_block rfl, HON.out.drew⟩, by simp [intOf]; omega⟩
        · have hje : j = r.length := by omega
          subst hje
          have hlj2 : ¬ (r.length : Int) < (r.length : Int) := by omega
          have HRN : Hid (wr.rowIs (R + 1) 79 16 (fun k => .int .i64 (amI c r (i + 1) 0 k))) := HRJ.out.congr fun k hk => by rw [amI_row]
          clear hlj hj
          go_wp2
          exact ⟨⟨i + 1, by omega, by go_num, HRN.out, HOJ.out⟩, by simp [intOf]; omega⟩
    · have hie : i = r.length := by omega
      subst hie
      have hlt2 : ¬ (r.length : Int) < (r.length : Int) := by omega
      clear hlt hi
      have HRA : Hid (wr.rowIs (R + 1) 79 16 (fun k => .int .i64 (amC c r k))) := HRI.out.congr fun k hk => by rw [amI_all]
      have HRR2 : Hid (wr.heap[R]? = some (.cells Z 79 (0, 0))) := (HOI.out.block R (by omega)).trans HRES.out
      obtain ⟨V, hV, hVs, hVf⟩ := HRA.out
      have hVe : V = ((List.range 16).map fun k => Value.int .i64 (amC c r k)).toArray := by
        apply Array.ext (by simp [hVs])
        intro k h1 h2
        have := hVf k (by omega)
        rw [Array.getElem?_eq_getElem h1] at this
        simp only [Option.some.injEq] at this
        rw [this]
        simp
      have HVE : Hid (V = ((List.range 16).map fun k => Value.int .i64 (amC c r k)).toArray) := hVe
      have HV : Hid (wr.heap[R + 1]? = some (.cells V 79 (0, 0))) := hV
      have HVI : Hid ((Tryz.prog.info? 79).map (·.size) = some V.size) := by
        show _ = _
        rw [hVs]; kernel_rfl
      have HVO : Hid (V.all (·.oneCell') = true) := by
        show _ = _
        rw [hVe]; simp [Value.oneCell']
      have HZV : Hid (Z.size = V.size) := by
        show _ = _
        rw [hVs, HZ.out]; rfl
      clear hVe hV hVf hVs
      go_wp2_with (first | (refine wpList_load_row rfl 79 _ rfl (R + 1) rfl 79 V (0, 0) (.array 4 77) HV.out (by kernel_rfl) rfl HVI.out ?_) | (refine wpList_store_row rfl 79 _ _ rfl R V rfl rfl 79 Z HRR2.out HVI.out HZV.out HVO.out ?_))
      refine bodyPost_ret (results_cell_row rfl _ _ R 79 V (0, 0) (.array 4 77) rfl (setRow_heap _ _ _ _ _ _ HRR2.out) (by kernel_rfl) rfl HVI.out) rfl ⟨by rw [HVE.out]; rfl, below_setRow HBI.out (Nat.le_of_eq HRR.out.symm) V⟩

end Go.Proofs.YtilblfoapjnmaaaGreatDoor
