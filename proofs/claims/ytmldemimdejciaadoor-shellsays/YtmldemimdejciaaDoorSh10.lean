/- Simplices one behind the other: the program. -/
import Derived.Test.YtmldemimdejciaaDoorSh9
namespace Go.Proofs.YtmldemimdejciaaDoor
open Go.RowKit
attribute [local go_sem ↓] Go.wp_at_zero Go.wp_at_succ

/-- Is what the i-th has in common with those ahead in its sides that are met? -/
def shOk (m : List (List Int)) (i : Nat) : Bool := meetB (m.getD i []) (m.take i) (metL (m.getD i []) (m.take i))
def shN (m : List (List Int)) (i : Nat) : Nat := (metL (m.getD i []) (m.take i)).length

/-- All so far are met in whole sides. -/
def allOk (m : List (List Int)) : Nat → Bool
  | 0 => true
  | k + 1 => allOk m k && shOk m k

theorem allOk_step {m : List (List Int)} {k : Nat} (h : allOk m k = true) (h2 : shOk m k = true) : allOk m (k + 1) = true := by
  rw [allOk, h, h2]; rfl

theorem allOk_bad {m : List (List Int)} {k : Nat} (h2 : shOk m k = false) : ∀ n, k < n → allOk m n = false := by
  intro n
  induction n with
  | zero => intro h; omega
  | succ n ih =>
    intro h
    by_cases e : k = n
    · subst e; rw [allOk, h2]; simp
    · rw [allOk, ih (by omega)]; rfl

theorem owns_setCell {B : Nat} {e : TypeId} {w : World} {v : Value} {n : Nat} {xs : List Value} {a : Addr} (h : w.ownsRow B e 1 v n xs) (ha : a.block < B) (u : Value) : (w.setCell a u).ownsRow B e 1 v n xs := by
  obtain ⟨h1, h2⟩ := h
  refine ⟨h1, ?_⟩
  rcases h2 with h2 | ⟨g, cap, cur, q1, q2, q3, q4⟩
  · exact Or.inl h2
  · exact Or.inr ⟨g, cap, cur, q1, q2, (Below.heap_setCell w a u g (by omega)).trans q3, q4⟩

theorem Blk.grow {N : Nat} {w w' : World} {l : List Int} {o : Obj} {row : Option Nat} (h : Blk N w l) (hg : (w.alloc o).grownBy w' row) (hN : N < w.heap.size) (hne : some N ≠ row) : Blk N w' l := by
  unfold Blk at h ⊢
  rw [hg.block N (by simp; omega) hne]
  exact (Below.heap_alloc _ _ _ hN).trans h

/-- What is told. -/
def shellA (m : List (List Int)) : List Int := if allOk m m.length then cntL (m.getD 0 []).length (shN m) m.length else []

set_option maxRecDepth 100000 in
theorem shells_bad (B : Nat) (m : List (List Int)) (v : Value) (w : World) (hv : Mat B 26 3 w v m) (hx : facetsE m ≠ 0) :
    Calls Tryd.prog 8 #[v] w fun e w' => e = .returned (.tuple #[.bool false, .slice none 0 0, .int .i64 (facetsE m)]) ∧ Below w.heap.size w w' := by
  have HC : Hid (Calls Tryd.prog 9 #[v] w fun e w' => e = .returned (.int .i64 (facetsE m)) ∧ Below w.heap.size w w') := checkS_any B m v w hv
  generalize facetsE m = E at *
  have hb : (E != 0) = true := by simp [hx]
  clear hv
  go_enter Tryd.func8, Tryd.ntmps8
  go_wp2_with fail
  refine HC.out.mono ?_
  rintro e w' ⟨rfl, hb1⟩
  have HB : Hid (Below w.heap.size w w') := hb1
  clear hb1
  go_wp2
  exact bodyPost_ret (v := .tuple #[.bool false, .slice none 0 0, .int .i64 E]) (by simp [results, Tryd.results8, go_sem]) rfl ⟨rfl, HB.out⟩

set_option maxRecDepth 100000 in
set_option maxHeartbeats 2000000 in
theorem shells_good (B : Nat) (m : List (List Int)) (v : Value) (w : World) (hv : Mat B 26 3 w v m) (hx : facetsE m = 0) (hT : TabB w) :
    Calls Tryd.prog 8 #[v] w fun e w' => ∃ u, e = .returned (.tuple #[.bool (allOk m m.length), u, .int .i64 0]) ∧ Sl w'.heap.size 3 w' u (ints (shellA m)) ∧ Below w.heap.size w w' := by
  obtain ⟨i3, hi3, hz30, hz31, hz32⟩ := info_parts Tryd.info43'
  have HS : Hid (Sim m) := facets_ok hx
  have HC : Hid (Calls Tryd.prog 9 #[v] w fun e w' => e = .returned (.int .i64 (facetsE m)) ∧ Below w.heap.size w w') := checkS_any B m v w hv
  rw [hx] at HC
  obtain ⟨ao, cap, hvv, hlc, hcm⟩ := mat_open hv
  subst hvv
  have HV : Hid (Mat B 26 3 w (.slice ao m.length cap) m) := hv
  have HT : Hid (TabB w) := hT
  clear hv hT hx
  have hm1 := HS.out.n1
  have hm40 := HS.out.n40
  have hc1 := HS.out.c1
  have hc5 := HS.out.c5
  go_enter Tryd.func8, Tryd.ntmps8
  go_wp2_with fail
  refine HC.out.mono ?_
  rintro e w1 ⟨rfl, hb1⟩
  have HB1 : Hid (Below w.heap.size w w1) := hb1
  have hsz1 : w.heap.size ≤ w1.heap.size := hb1.size
  obtain ⟨b0, o0, cp0, u0, hs0, _, hcc0, hu0⟩ := mat_cell (HV.out.below hb1 (Nat.le_refl _)) (k := 0) (by omega)
  simp only [Value.slice.injEq, true_and] at hs0
  obtain ⟨rfl, rfl⟩ := hs0
  obtain ⟨uo0, uc0, hue0, hul0, hum0⟩ := sl_open hu0
  subst hue0
  simp only [Nat.add_zero] at hcc0
  clear hb1 hu0
  have hm0 : 0 < m.length := by omega
  have HSA : Hid (shellA m = if allOk m m.length then cntL (m.getD 0 []).length (shN m) m.length else []) := rfl
  have HLEN : Hid (∀ i, i < m.length → (m.getD i []).length = (m.getD 0 []).length) := HS.out.len
  have HCL : Hid (∀ k, (cntL (m.getD 0 []).length (shN m) k).length = (m.getD 0 []).length + 1) := cntL_len _ _
  obtain ⟨c, hc⟩ : ∃ c, c = (m.getD 0 []).length := ⟨_, rfl⟩
  rw [← hc] at HSA HLEN HCL hul0 hcc0 hc1 hc5
  clear hc
  have hmk : (Instr.makeSlice 26 (.int .i64 ((c : Int) + 1)) (.int .i64 ((c : Int) + 1))).run Tryd.prog w1 = .ok (.slice (some ⟨w1.heap.size, 0, none⟩) (c + 1) (c + 1)) (w1.alloc (.cells (madeCells #[.int .i64 0] (c + 1)) 3)) := by
    rw [show (c : Int) + 1 = ((c + 1 : Nat) : Int) by omega]
    exact run_make_row' (P := Tryd.prog) 26 3 (.int .i64 0) 8 Tryd.underlying26 Tryd.info3 rfl .i64 .i64 (c + 1) (by omega) (by omega) w1
  have HBK0 : Hid (Blk w1.heap.size (w1.alloc (.cells (madeCells #[.int .i64 0] (c + 1)) 3)) (cntL c (shN m) 0)) := Blk.made w1 (c + 1)
  have HBA : Hid (Below w.heap.size w (w1.alloc (.cells (madeCells #[.int .i64 0] (c + 1)) 3))) := HB1.out.alloc hsz1 _
  have hszA : (w1.alloc (.cells (madeCells #[.int .i64 0] (c + 1)) 3)).heap.size = w1.heap.size + 1 := by simp
  generalize hNN : w1.heap.size = N at *
  clear hNN
  go_wp2
  generalize w1.alloc (.cells (madeCells #[.int .i64 0] (c + 1)) 3) = wA at *
  have hNM : N < wA.heap.size := by rw [hszA]; omega
  have HOA : Hid (wA.heap.size ≤ wA.heap.size) := Nat.le_refl _
  clear hszA
  generalize hM : wA.heap.size = M at *
  have HM : Hid (wA.heap.size = M) := hM
  clear hM
  go_loopw [3, 6, 24] (fun y s i wr => ∃ k : Nat, k ≤ m.length ∧ i = .int .i64 k ∧ y = .slice (some ⟨N, 0, none⟩) (c + 1) (c + 1) ∧ allOk m k = true ∧ Blk N wr (cntL c (shN m) k) ∧ wr.ownsRow M 43 1 s k (nats ((m.take k).map setN)) ∧ Below w.heap.size w wr ∧ M ≤ wr.heap.size) (fun _ _ i _ => m.length - (intOf i).toNat)
  case atStart => exact ⟨0, Nat.zero_le _, rfl, rfl, rfl, HBK0.out, World.ownsRow_nil _ _ _ _, HBA.out, by rw [HM.out]; exact Nat.le_refl _⟩
  case round =>
    obtain ⟨k, hk, rfl, rfl, hall, hbk, ho, hb, hsz⟩ := hrel
    have HALL : Hid (allOk m k = true) := hall
    have HBK : Hid (Blk N wr (cntL c (shN m) k)) := hbk
    have HO : Hid (wr.ownsRow M 43 1 u6 k (nats ((m.take k).map setN))) := ho
    have HB : Hid (Below w.heap.size w wr) := hb
    clear hall hbk ho hb
    by_cases hlt : k < m.length
    · obtain ⟨b, o, cp, u, hs, _, hcc, hu⟩ := mat_cell (HV.out.below HB.out (Nat.le_refl _)) hlt
      simp only [Value.slice.injEq, true_and, Option.some.injEq, Addr.mk.injEq, and_true] at hs
      obtain ⟨⟨rfl, rfl⟩, rfl⟩ := hs
      obtain ⟨uo, uc, hue, hul, hum⟩ := sl_open hu
      subst hue
      have HU : Hid (Sl B 3 wr (.slice uo (m.getD k []).length uc) (ints (m.getD k []))) := hu
      have hxc := HLEN.out k hlt
      have HXB : Hid (B64 (m.getD k [])) := HS.out.b64 k hlt
      have HXR : Hid (Ris (m.getD k [])) := HS.out.ris k hlt
      have HAB : Hid (∀ o ∈ m.take k, B64 o) := HS.out.ab k
      have HOK : Hid (shOk m k = meetB (m.getD k []) (m.take k) (metL (m.getD k []) (m.take k))) := rfl
      have HSN : Hid (shN m k = (metL (m.getD k []) (m.take k)).length) := rfl
      have HML : Hid ((metL (m.getD k []) (m.take k)).length ≤ (m.getD k []).length) := met_le _
      have HTK : Hid ((m.take (k + 1)).map setN = (m.take k).map setN ++ [setN (m.getD k [])]) := by
        show _ = _
        rw [List.take_succ_eq_append_getElem hlt, List.map_append]
        simp [hlt]
      have HTL : Hid ((m.take k).length = k) := by show _ = _; rw [List.length_take]; omega
      clear hu
      generalize m.getD k [] = x at *
      rw [hxc] at hcc HU hul
      go_wp2_with fail
      refine (setOf_any B x _ wr HU.out HXB.out).mono ?_
      rintro e w2 ⟨rfl, n2, rfl⟩
      have HBK2 : Hid (Blk N (wr.drewN n2) (cntL c (shN m) k)) := HBK.out
      have HO2 : Hid ((wr.drewN n2).ownsRow M 43 1 u6 k (nats ((m.take k).map setN))) := HO.out
      have HB2 : Hid (Below w.heap.size w (wr.drewN n2)) := bel_drewN HB.out n2
      have hsz2 : M ≤ (wr.drewN n2).heap.size := hsz
      clear HBK HO HB hsz hcc HU
      generalize wr.drewN n2 = w2 at *
      have HSL2 : Hid (Sl 0 43 w2 u6 (nats ((m.take k).map setN))) := Sl.own HO2.out
      go_wp2_with fail
      refine (sidesMet_any 0 x ((m.take k).map setN) u6 w2 HSL2.out (l64_map HAB.out) HXB.out HXR.out (HT.out.below HB2.out) (by omega)).mono ?_
      rintro e w3 ⟨z, rfl, hz, hb3⟩
      rw [met_map HXB.out HAB.out, List.length_map, ← HSN.out] at hz
      have HMZ : Hid (Sl 0 43 w3 z (nats ((metL x (m.take k)).map setN))) := Sl.own hz
      obtain ⟨zo, zc, hzv⟩ := owns_form hz
      subst hzv
      have HBK3 : Hid (Blk N w3 (cntL c (shN m) k)) := HBK2.out.keep hb3 (by omega)
      have HO3 : Hid (w3.ownsRow M 43 1 u6 k (nats ((m.take k).map setN))) := owns_below HO2.out hb3 (Nat.le_refl _)
      have HB3 : Hid (Below w.heap.size w w3) := HB2.out.trans (hb3.mono HB2.out.size)
      have hsz3 : M ≤ w3.heap.size := Nat.le_trans hsz2 hb3.size
      have HSL3 : Hid (Sl 0 43 w3 u6 (nats ((m.take k).map setN))) := Sl.own HO3.out
      clear hz hb3 HBK2 HO2 HB2 HSL2 hsz2
      go_wp2_with fail
      refine (meets_any 0 ((m.take k).map setN) ((metL x (m.take k)).map setN) (setN x) _ _ w3 HSL3.out (l64_map HAB.out) HMZ.out (l64_map (met_b64 HXB.out)) (setN_lt' HXB.out)).mono ?_
      rintro e w4 ⟨rfl, hb4⟩
      rw [meet_map HXB.out HAB.out (met_b64 HXB.out), ← HOK.out]
      have HBK4 : Hid (Blk N w4 (cntL c (shN m) k)) := HBK3.out.keep hb4 (by omega)
      have HO4 : Hid (w4.ownsRow M 43 1 u6 k (nats ((m.take k).map setN))) := owns_below HO3.out hb4 (Nat.le_refl _)
      have HB4 : Hid (Below w.heap.size w w4) := HB3.out.trans (hb4.mono HB3.out.size)
      have hsz4 : M ≤ w4.heap.size := Nat.le_trans hsz3 hb4.size
      clear hb4 HBK3 HO3 HB3 HSL3 hsz3 HMZ
      cases hok : shOk m k
      · have HF : Hid (allOk m m.length = false) := allOk_bad hok _ hlt
        have HF2 : Hid (shellA m = []) := by show _ = _; rw [HSA.out, HF.out]; rfl
        go_wp2
        exact bodyPost_ret (v := .tuple #[.bool false, .slice none 0 0, .int .i64 0]) (by simp [results, Tryd.results8, go_sem]) rfl ⟨_, by rw [HF.out], by rw [HF2.out]; exact Sl.nil _ _ _, HB4.out⟩
      · have HOKK : Hid (shOk m k = true) := hok
        clear hok
        have hle : shN m k < c + 1 := by have := HML.out; have := HSN.out; omega
        have hcl := HBK4.out.cell (j := shN m k) (by rw [HCL.out]; exact hle)
        have hfz := HBK4.out.frozen (shN m k)
        have hbd := cntL_le c (shN m) k (shN m k)
        have HST : Hid (∀ z, z = (cntL c (shN m) k).getD (shN m k) 0 + 1 → Blk N (w4.setCell ⟨N, shN m k, none⟩ (.int .i64 z)) (cntL c (shN m) (k + 1))) := fun z hz => by
          subst hz
          exact HBK4.out.set _ _
        have HBS : Hid (∀ u, Below w.heap.size w (w4.setCell ⟨N, shN m k, none⟩ u)) := fun u => HB4.out.setCell (by simpa using hsz1) _
        generalize (cntL c (shN m) k).getD (shN m k) 0 = q at *
        generalize shN m k = j at *
        have hq1 : wrap64 (q + 1) = q + 1 := IntWalk.wrap64_in _ ⟨by omega, by omega⟩
        have HO5 : Hid (∀ u, (w4.setCell ⟨N, j, none⟩ u).ownsRow M 43 1 u6 k (nats ((m.take k).map setN))) := fun u => owns_setCell HO4.out (by show N < _; omega) u
        have hsz5 : ∀ u, M ≤ (w4.setCell ⟨N, j, none⟩ u).heap.size := fun u => by simpa using hsz4
        have hjc : j < c + 1 := hle
        have hji : (j : Int) < (c : Int) + 1 := by omega
        go_wp2_with (first | (at_builtin; refine wpList_append_own _ rfl _ _ 41 rfl M 43 i3 (.int .u64 0) 1 8 Tryd.underlying41 hi3 hz30 hz31 hz32 rfl (by decide) _ _ _ rfl ((HO5.out _).alloc _) ⟨w4.heap.size, 0, none⟩ 1 1 [.int .u64 (setN x : Nat)] rfl rfl ?c2 (one_u64 _) ?c3 ?c4 ?c5 ?_))
        case c2 => simpa using one_new (w4.setCell ⟨N, j, none⟩ (Value.int IntKind.i64 (q + 1))) (Value.int .u64 (setN x : Nat)) 43
        case c3 => unfold maxLen; omega
        case c4 => omega
        case c5 => simp; omega
        intro v' w6 ho hg _
        have HOO : Hid (w6.ownsRow M 43 1 v' (k + 1) (nats ((m.take (k + 1)).map setN))) := by
          show World.ownsRow _ _ _ _ _ _ _
          rw [HTK.out]
          simpa [nats] using ho
        have HBB : Hid (Below w.heap.size w w6) := ((HBS.out _).alloc (by simp; omega) _).grown hg (by simp; omega) (fun g hg' => by have := ((HO5.out (Value.int .i64 (q + 1))).lt g hg').1; omega)
        have HKK : Hid (Blk N w6 (cntL c (shN m) (k + 1))) := (HST.out (q + 1) rfl).grow hg (by simp; omega) (fun e => by have := ((HO5.out (Value.int .i64 (q + 1))).lt N e.symm).1; omega)
        have hsz6 : M ≤ w6.heap.size := by have := hg.size; simp at this; omega
        clear ho hg
        go_wp2
        go_roundw
        case rel => exact ⟨k + 1, by omega, by go_num, rfl, allOk_step HALL.out HOKK.out, HKK.out, HOO.out, HBB.out, hsz6⟩
        case measure => simp [intOf]; omega
    · have hke : k = m.length := by omega
      subst hke
      have HF2 : Hid (shellA m = cntL c (shN m) m.length) := by show _ = _; rw [HSA.out, HALL.out]; rfl
      go_wp2
      exact bodyPost_ret (v := .tuple #[.bool true, .slice (some ⟨N, 0, none⟩) (c + 1) (c + 1), .int .i64 0]) (by simp [results, Tryd.results8, go_sem]) rfl ⟨_, by rw [HALL.out], by rw [HF2.out]; have := HBK.out.sl (B := wr.heap.size) (by rw [HCL.out]; omega); rw [HCL.out] at this; exact this, HB.out⟩
end Go.Proofs.YtmldemimdejciaaDoor
