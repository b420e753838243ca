/- facetref.MoebiusOf. -/
import Derived.Test.YtcmemhdlendlkaaDoorDc1
namespace Go.Proofs.YtcmemhdlendlkaaDoor
open Go.RowKit
attribute [local go_sem ↓] Go.wp_at_zero Go.wp_at_succ

theorem nuR_sl {w : World} {g n : Nat} {f : Nat → Int} (h : NuR w g n f) (hn : n ≤ 1000) : Sl 0 3 w (.slice (some ⟨g, 0, none⟩) n n) (ints ((List.range n).map f)) := by
  have hl : (ints ((List.range n).map f)).length = n := by simp [ints]
  refine ⟨some ⟨g, 0, none⟩, n, by rw [hl], by omega, by unfold maxLen; omega, fun i hi => ⟨g, 0, rfl, ?_, ?_⟩, fun h => by cases h⟩
  · rw [hl] at hi
    rw [Nat.zero_add, h.cell hi]
    simp [ints, hi]
  · obtain ⟨c, h1, _, _⟩ := h
    exact .inr ⟨c, h1⟩

/-- The rows of Moebius's numbers. -/
def moL (n : Nat) (f : Nat → Nat) : List (List Int) := (List.range n).map fun i => (List.range n).map (moF n f i)

set_option maxRecDepth 100000 in
set_option maxHeartbeats 3200000 in
theorem moebiusOf_any (n : Nat) (f : Nat → Nat) (hP : PoO n f) (hn1 : 1 ≤ n) (hn : n ≤ 6) (v : Value) (w : World) (hv : Sl w.heap.size 3 w v (ints (upL n f))) :
    Calls Tryd.prog 10 #[v] w fun e w' => ∃ x, e = .returned x ∧ Fr w.heap.size 27 3 w' x (moL n f) ∧ Below w.heap.size w w' := by
  obtain ⟨i0, hi0, hz0, hz1, hz2⟩ := info_parts infoSl
  have HCH : Hid (∀ i k W, i < n → k < n → Below w.heap.size w W → Calls Tryd.prog 29 #[v, .int .i64 (i : Int), .int .i64 (k : Int)] W fun e w' => e = .returned (.int .i64 (moF n f i k)) ∧ w' = W) := fun i k W hi hk hb => chains_any n f hP hn k hk v W ((hv.below hb (Nat.le_refl _)).any (Nat.le_refl _)) (n + 1) i hi (by have := hP.rk_lt hi; omega)
  have hmk : ∀ w : World, (Instr.makeSlice 27 (.int .i64 (n : Int)) (.int .i64 (n : Int))).run Tryd.prog w = .ok (.slice (some ⟨w.heap.size, 0, none⟩) n n) (w.alloc (.cells (madeCells #[.int .i64 0] n) 3)) := run_make_row' (P := Tryd.prog) 27 3 (.int .i64 0) 8 Tryd.underlying27 (by kernel_rfl) rfl .i64 .i64 n (by omega) (by omega)
  obtain ⟨ao, cap, hvv, hlc, hcm⟩ := sl_open hv
  rw [upL_len] at hvv hlc
  subst hvv
  obtain ⟨M, hM⟩ : ∃ M, M = moF n f := ⟨_, rfl⟩
  rw [← hM] at HCH
  have HEN : Hid (∀ W x, Fr w.heap.size 27 3 W x ((List.range n).map fun i => (List.range n).map (M i)) → Fr w.heap.size 27 3 W x (moL n f)) := fun W x h => by rw [hM] at h; exact h
  clear hv hM hP
  go_enter Tryd.func10, Tryd.ntmps10
  go_wp2
  go_loopw [3, 4] (fun x iv wr => ∃ i : Nat, i ≤ n ∧ iv = .int .i64 (i : Int) ∧ Fr w.heap.size 27 3 wr x ((List.range i).map fun i => (List.range n).map (M i)) ∧ Below w.heap.size w wr) (fun _ iv _ => n - (intOf iv).toNat)
  case atStart => exact ⟨0, Nat.zero_le _, rfl, Fr.nil _ _ _ _, Below.refl _ _⟩
  case round =>
    obtain ⟨i, hi, rfl, hfr, hb⟩ := hrel
    obtain ⟨wa, rfl⟩ : ∃ wa, wa = wr := ⟨_, rfl⟩
    have HFR : Hid (Fr w.heap.size 27 3 wa u3 ((List.range i).map fun i => (List.range n).map (M i))) := hfr
    have HB : Hid (Below w.heap.size w wa) := hb
    have hsza : w.heap.size ≤ wa.heap.size := hb.size
    clear hfr hb
    by_cases hlt : i < n
    · obtain ⟨R, hR⟩ : ∃ R, R = wa.heap.size := ⟨_, rfl⟩
      have HN0 : Hid (NuR (wa.alloc (.cells (madeCells #[.int .i64 0] n) 3)) R n (fun j => if j < 0 then M i j else 0)) := by rw [hR]; exact World.rowIs_made wa (.int .i64 0) n 3
      have HB0 : Hid (Below R wa (wa.alloc (.cells (madeCells #[.int .i64 0] n) 3))) := by rw [hR]; exact (Below.refl _ _).alloc (Nat.le_refl _) _
      have HRS : Hid (wa.heap.size ≤ R ∧ w.heap.size ≤ R) := ⟨by omega, by omega⟩
      have iI : (i : Int) < (n : Int) := by omega
      go_wp2
      rw [← hR]
      clear hR
      go_loopw [6] (fun kv wq => ∃ k : Nat, k ≤ n ∧ kv = .int .i64 (k : Int) ∧ NuR wq R n (fun j => if j < k then M i j else 0) ∧ Below R wa wq) (fun kv _ => n - (intOf kv).toNat)
      case atStart => exact ⟨0, Nat.zero_le _, rfl, HN0.out, HB0.out⟩
      case round =>
        obtain ⟨k, hk, rfl, hnu, hbq⟩ := hrel
        rename World => wq
        clear HN0 HB0
        by_cases hlk : k < n
        · have c2 := hnu.cell hlk
          have c3 := hnu.frozen k
          have HN : Hid (NuR (wq.setCell ⟨R, k, none⟩ (.int .i64 (M i k))) R n (fun j => if j < k + 1 then M i j else 0)) := NuR.set hnu (by show (if k < k + 1 then _ else _) = _; rw [if_pos (by omega)]) (fun j _ hj => by
            show (if j < k + 1 then _ else _) = if j < k then _ else _
            by_cases h : j < k
            · rw [if_pos h, if_pos (by omega)]
            · rw [if_neg h, if_neg (by omega)])
          have HBQ : Hid (Below R wa (wq.setCell ⟨R, k, none⟩ (.int .i64 (M i k)))) := below_set hbq (Nat.le_refl _)
          have HCX := HCH.out i k wq hlt hlk (HB.out.trans (hbq.mono HRS.out.2))
          generalize M i k = z at *
          have kI : (k : Int) < (n : Int) := by omega
          have kI0 : (0 : Int) ≤ (k : Int) := by omega
          clear hnu hbq
          go_wp2_with fail
          refine HCX.mono ?_
          rintro e w4 ⟨rfl, hw⟩
          have hw2 := hw.symm
          clear hw HCX
          subst hw2
          go_wp2
          go_roundw
          case rel => exact ⟨k + 1, by omega, by go_num, HN.out, HBQ.out⟩
          case measure => simp [intOf]; omega
        · have hke : n = k := by omega
          subst hke
          have hnu2 : NuR wq R n (M i) := hnu.congr fun j hj => by
            show Value.int _ (if j < n then _ else _) = _
            rw [if_pos hj]
          have HX : Hid (Sl 0 3 wq (.slice (some ⟨R, 0, none⟩) n n) (ints ((List.range n).map (M i)))) := nuR_sl hnu2 (by omega)
          have HRq : Hid (Fr w.heap.size 27 3 wq u3 ((List.range i).map fun i => (List.range n).map (M i))) := HFR.out.below hbq HRS.out.1
          have HBw : Hid (Below w.heap.size w wq) := HB.out.trans (hbq.mono HRS.out.2)
          have hszw : w.heap.size ≤ wq.heap.size := HBw.out.size
          obtain ⟨vs, g1, g2, g3⟩ := HRq.out
          have hml : ((List.range i).map fun i => (List.range n).map (M i)).length = i := by simp
          rw [hml] at g1 g2 g3
          have HML : Hid (((List.range i).map fun i => (List.range n).map (M i)).length = i) := hml
          have G1 : Hid (vs.length = i) := g1
          have G2 : Hid (wq.ownsRow w.heap.size 27 1 u3 i vs) := g2
          have G3 : Hid (∀ j, j < i → Sl 0 3 wq (vs.getD j (.slice none 0 0)) (ints (((List.range i).map fun i => (List.range n).map (M i)).getD j []))) := g3
          clear g1 g2 g3 hml hnu hnu2 hbq hlk hk
          go_wp2_with (first | (at_builtin; refine wpList_append_own _ rfl _ _ 28 rfl w.heap.size 27 i0 (.slice none 0 0) 1 24 Tryd.underlying28 hi0 hz0 hz1 hz2 rfl (by decide) _ _ _ rfl (G2.out.alloc _) ⟨wq.heap.size, 0, none⟩ 1 1 [.slice (some ⟨R, 0, none⟩) n n] rfl rfl (one_new _ _ _) (one_slice _ _ _) ?d3 ?d4 ?d5 ?_))
          case d3 => unfold maxLen; omega
          case d4 => omega
          case d5 => first | exact hszw | (simp; omega)
          intro v' w3 ho hg _
          have R1 : Hid (Fr w.heap.size 27 3 w3 v' ((List.range (i + 1)).map fun i => (List.range n).map (M i))) := by
            have h := Fr.push (e2 := 27) (e1 := 3) (m := (List.range i).map fun i => (List.range n).map (M i)) (u := .slice (some ⟨R, 0, none⟩) n n) (zs := (List.range n).map (M i)) (by decide) (by rw [HML.out]; exact G1.out) (by rw [HML.out]; exact G2.out.alloc _)
              (fun j hj => (G3.out j (by rw [HML.out] at hj; exact hj)).alloc _) (HX.out.alloc _) (by rw [HML.out]; exact ho) hg
            rw [List.range_succ, List.map_append]
            exact h
          have R2 : Hid (Below w.heap.size w w3) := (HBw.out.alloc hszw _).grown hg (by simp; omega) (fun x hx => (G2.out.lt x hx).1)
          clear ho hg
          go_wp2
          go_roundw
          case rel => exact ⟨i + 1, by omega, by go_num, R1.out, R2.out⟩
          case measure => simp [intOf]; omega
    · have hie : n = i := by omega
      subst hie
      clear hlt hi
      go_wp2
      go_ret
      exact ⟨_, rfl, HEN.out _ _ HFR.out, HB.out⟩

end Go.Proofs.YtcmemhdlendlkaaDoor
