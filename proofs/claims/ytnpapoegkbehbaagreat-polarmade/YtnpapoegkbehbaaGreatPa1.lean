/- The polytope around 0 of raw numbers: the walk. -/
import Derived.Test.YtnpapoegkbehbaaGreatBetY
import Derived.Test.YtnpapoegkbehbaaGreatRowB
import Derived.Test.YtnpapoegkbehbaaGreatFkY
import Derived.Test.YtnpapoegkbehbaaGreatPaB
import Derived.Deep.DeepCutAuto
namespace Go.Proofs.YtnpapoegkbehbaaGreat
open Go.RowKit
attribute [local go_sem ↓] Go.wp_at_zero Go.wp_at_succ

set_option maxRecDepth 100000 in
set_option maxHeartbeats 400000 in
theorem ones_any (n : Nat) (w : World) (hn : n ≤ 100) :
    Calls Tryz.prog 18 #[.int .i64 n] w fun e w' => ∃ u, e = .returned u ∧ w'.ownsRow w.heap.size 3 1 u n (ints (onesL n)) ∧ Below w.heap.size w w' := by
  obtain ⟨i3, hi3, hz30, hz31, hz32⟩ := info_parts Tryz.info3
  go_enter Tryz.func18, Tryz.ntmps18
  go_wp2
  go_loopw [3, 4] (fun x i wr => ∃ k : Nat, k ≤ n ∧ i = .int .i64 k ∧ wr.ownsRow w.heap.size 3 1 x k (ints (onesL k)) ∧ Below w.heap.size w wr) (fun _ i _ => n - (intOf i).toNat)
  case atStart => exact ⟨0, Nat.zero_le _, rfl, World.ownsRow_nil _ _ _ _, Below.refl _ _⟩
  case round =>
    obtain ⟨k, hk, rfl, ho, hb⟩ := hrel
    have HO : Hid (wr.ownsRow w.heap.size 3 1 u3 k (ints (onesL k))) := ho
    have HB : Hid (Below w.heap.size w wr) := hb
    have hsz : w.heap.size ≤ wr.heap.size := hb.size
    clear ho hb
    by_cases hlt : k < n
    · have hkI : (k : Int) < (n : Int) := by omega
      go_wp2_with (first | (at_builtin; refine wpList_append_own _ rfl _ _ 22 rfl w.heap.size 3 i3 (.int .i64 0) 1 8 Tryz.underlying22 hi3 hz30 hz31 hz32 rfl (by decide) _ _ _ rfl (HO.out.alloc _) ⟨wr.heap.size, 0, none⟩ 1 1 [.int .i64 1] rfl rfl (one_new _ _ _) (one_int _) ?d3 ?d4 ?d5 ?_))
      case d3 => unfold maxLen; omega
      case d4 => omega
      case d5 => simp; omega
      intro v3 w3 ho3 hg3 _
      have hp3 := owns_push (z := 1) (N := k + 1) hsz (l := onesL k) (by rw [onesL_len]; exact HO.out) HB.out (by rw [onesL_len]; exact ho3) hg3 (by rw [onesL_len])
      rw [← onesL_succ] at hp3
      have HP3 : Hid _ := hp3
      clear hp3 ho3 hg3
      go_wp2
      go_roundw
      case rel => exact ⟨k + 1, by omega, by go_num, HP3.out.1, HP3.out.2⟩
      case measure => simp [intOf]; omega
    · obtain rfl : n = k := by omega
      go_wp2
      go_ret
      exact ⟨_, rfl, HO.out, HB.out⟩

theorem below_setA {B : Nat} {w w' : World} {a : Addr} {u : Value} (h : Below B w w') (ha : B ≤ a.block) : Below B w (w'.setCell a u) := h.setCell ha u

/-- A box of another type is written into. -/
theorem mat_boxP {w : World} {R : Nat} {v x y : Value} {cur : Array Value} {m : List (List Int)} (hR : w.heap[R]? = some (.cells cur 26 (0, 0))) (h : Mat 0 22 3 w v m) : Mat 0 22 3 ((w.setCell ⟨R, 0, none⟩ x).setCell ⟨R, 1, none⟩ y) v m := by
  have h2 : (w.setCell ⟨R, 0, none⟩ x).heap[R]? = some (.cells (cur.setIfInBounds 0 x) 26 (0, 0)) := by simp [World.setCell, Array.getElem?_modify, hR]
  have key : ∀ (e : TypeId) (he : e ≠ 26) (u : Value) (xs : List Value), Sl 0 e w u xs → Sl 0 e ((w.setCell ⟨R, 0, none⟩ x).setCell ⟨R, 1, none⟩ y) u xs := fun e he u xs hs => by
    refine Sl.setCell (Sl.setCell hs _ ⟨Nat.zero_le _, fun c2 e2 => ?_⟩) _ ⟨Nat.zero_le _, fun c2 e2 => ?_⟩
    · have e2' : w.heap[R]? = some (.cells c2 e (0, 0)) := e2
      rw [hR] at e2'
      simp only [Option.some.injEq, Obj.cells.injEq] at e2'
      exact he e2'.2.1.symm
    · have e2' : (w.setCell ⟨R, 0, none⟩ x).heap[R]? = some (.cells c2 e (0, 0)) := e2
      rw [h2] at e2'
      simp only [Option.some.injEq, Obj.cells.injEq] at e2'
      exact he e2'.2.1.symm
  obtain ⟨vs, k1, k2, k3⟩ := h
  exact ⟨vs, k1, key _ (by decide) _ _ k2, fun i hi => key _ (by decide) _ _ (k3 i hi)⟩

theorem cast60 (k : Nat) : ((k + 60 : Nat) : Int) = (k : Int) + 60 := by omega
theorem wrap60 {n : Nat} (k : Nat) (hn : n ≤ 4) (hk : k < n) : wrap64 ((k : Int) + 60) = (k : Int) + 60 := IntWalk.wrap64_in _ ⟨by omega, by omega⟩
theorem wrap1y {y : Int} (h0 : 0 ≤ y) (h1 : y < 2) : wrap64 (1 + y) = 1 + y := IntWalk.wrap64_in _ ⟨by omega, by omega⟩

set_option maxRecDepth 100000 in
set_option maxHeartbeats 1600000 in
theorem aroundOf_any (B : Nat) (l : List Int) (v : Value) (n many wd : Nat) (w : World) (hv : Sl B 3 w v (ints l)) (hr : ∀ z ∈ l, In64 z) (hl : l.length ≤ 1000000) (hn1 : 1 ≤ n) (hn : n ≤ 4) (hmy : many ≤ 10) (hwd : wd ≤ 100) :
    Calls Tryz.prog 5 #[v, .int .i64 n, .int .i64 many, .int .i64 wd] w fun e w' => ∃ x m α, e = .returned (.agg #[.int .i64 n, x]) ∧ m.length = many ∧ Box n wd m ∧ (∀ j, 1 ≤ α j ∧ α j ≤ 2) ∧ Mat w'.heap.size 22 3 w' x (aroL n m α n ++ [(onesL n).map fun z => -z]) ∧ Below w.heap.size w w' := by
  obtain ⟨i0, hi, hz0, hz1, hz2⟩ := info_parts Tryz.info22
  obtain ⟨ao, cap, hvv, hlc, hcm⟩ := sl_open hv
  subst hvv
  have HV : Hid (Sl B 3 w (.slice ao l.length cap) (ints l)) := hv
  have HR : Hid (∀ z ∈ l, In64 z) := hr
  have HL : Hid (l.length ≤ 1000000) := hl
  clear hv hr hl
  have hmk := run_make_row' (P := Tryz.prog) 22 3 (.int .i64 0) 8 Tryz.underlying22 Tryz.info3 rfl .i64 .i64 n (by omega) (by omega)
  go_enter Tryz.func5, Tryz.ntmps5
  go_wp2_with fail
  obtain ⟨w1, hw1⟩ : ∃ w1, w1 = w.alloc (.cells #[.int .i64 0, .slice none 0 0] 26) := ⟨_, rfl⟩
  rw [← hw1]
  have hs1 : w1.heap.size = w.heap.size + 1 := by rw [hw1]; simp
  have HS1 : Hid (w1.heap.size = w.heap.size + 1) := hs1
  have HB1 : Hid (Below w.heap.size w w1) := by rw [hw1]; exact (Below.refl _ _).alloc (Nat.le_refl _) _
  have HK1 : Hid (w1.heap[w.heap.size]? = some (.cells #[.int .i64 0, .slice none 0 0] 26 (0, 0))) := by rw [hw1]; exact alloc_at _ _
  have HV1 : Hid (Sl B 3 w1 (.slice ao l.length cap) (ints l)) := HV.out.below HB1.out (Nat.le_refl _)
  clear hw1 hs1
  refine (pointsOf_any B l _ 0 n many wd w1 HV1.out HR.out HL.out (by omega) (by omega) (by omega) (by omega)).mono ?_
  rintro e w2 ⟨x, m, rfl, hml, hbx, hrw, hb2⟩
  have HML : Hid (m.length = many) := hml
  have HBX : Hid (Box n wd m) := hbx
  obtain ⟨xo, xc, hxv, _, _⟩ := mat_open (hrw.rws.mat (Nat.le_refl _))
  subst hxv
  obtain ⟨N, hN⟩ : ∃ N, N = w1.heap.size := ⟨_, rfl⟩
  obtain ⟨R, hRe⟩ : ∃ R, R = w2.heap.size := ⟨_, rfl⟩
  have HNE : Hid (N = w1.heap.size) := hN
  have hps : PS N R n w1 (w2.alloc (.cells #[.int .i64 n, .slice xo m.length xc] 26)) (.slice xo m.length xc) m := by
    rw [hN, hRe]
    exact ⟨alloc_at _ _, hrw.alloc _, hb2.alloc hb2.size _, hb2.size⟩
  obtain ⟨w3, hw3⟩ : ∃ w3, w3 = w2.alloc (.cells #[.int .i64 n, .slice xo m.length xc] 26) := ⟨_, rfl⟩
  rw [← hw3] at hps
  have HP0 : Hid (PS N R n w1 w3 (.slice xo many xc) (aroL n m (fun _ => 1) 0)) := by
    show PS N R n w1 w3 (.slice xo many xc) (aroL n m (fun _ => 1) 0)
    rw [← hml]
    simpa [aroL] using hps
  rw [hml] at hw3 ⊢
  clear hml hbx hrw hb2 hps hN
  go_wp2
  rw [← hw3, ← hRe]
  clear hw3 hRe
  go_loopw [10, 11] (fun i _ wr => ∃ (k : Nat) (α : Nat → Int) (x : Value), k ≤ n ∧ i = .int .i64 k ∧ (∀ j, 1 ≤ α j ∧ α j ≤ 2) ∧ PS N R n w1 wr x (aroL n m α k)) (fun i _ _ => n - (intOf i).toNat)
  case atStart => exact ⟨0, fun _ => 1, _, Nat.zero_le _, rfl, fun _ => ⟨Int.le_refl 1, show (1 : Int) ≤ 2 by decide⟩, HP0.out⟩
  case round =>
    obtain ⟨k, α, x, hk, rfl, hα, hp⟩ := hrel
    have HA : Hid (∀ j, 1 ≤ α j ∧ α j ≤ 2) := hα
    have HP : Hid (PS N R n w1 wr x (aroL n m α k)) := hp
    have HLN : Hid ((aroL n m α k).length = many + k) := by
      show _ = _
      rw [aroL_len, HML.out]
    obtain ⟨yo, yc, hyv, _, _⟩ := mat_open (hp.rows.rws.mat (Nat.le_refl _))
    rw [HLN.out] at hyv
    subst hyv
    clear hp hα
    by_cases hkn : k < n
    · obtain ⟨Wm, hWm⟩ : ∃ Wm, Wm = wr.alloc (.cells (madeCells #[.int .i64 0] n) 3) := ⟨_, rfl⟩
      have hbm : Below wr.heap.size wr Wm := by rw [hWm]; exact (Below.refl _ _).alloc (Nat.le_refl _) _
      have HRM : Hid (Wm.rowIs wr.heap.size 3 n (fun _ => .int .i64 0)) := by rw [hWm]; exact World.rowIs_made wr (.int .i64 0) n 3
      have HBM : Hid (Below wr.heap.size wr Wm) := hbm
      have HVM : Hid (Sl Wm.heap.size 3 Wm (.slice ao l.length cap) (ints l)) := ((HV1.out.any (Nat.le_refl _)).below (HP.out.bel.trans (hbm.mono (by rw [HNE.out]; exact HP.out.bel.size))) (by rw [HNE.out]; exact Nat.le_refl _)).any (Nat.le_refl _)
      have hkI : (k : Int) < (n : Int) := by omega
      have hkI0 : (0 : Int) ≤ (k : Int) := by omega
      have HRAW : Hid (Calls Tryz.prog 16 #[.slice ao l.length cap, .int .i64 ((k : Int) + 60)] Wm fun e w' => ∃ z, e = .returned (.int .i64 z) ∧ (0 ≤ z ∧ z ≤ 4611686018427387904) ∧ Below Wm.heap.size Wm w') := by
        have h := raw_any Wm.heap.size l _ (k + 60) Wm HVM.out HR.out HL.out (by omega)
        rw [cast60 k] at h
        exact h
      have hk60 : wrap64 ((k : Int) + 60) = (k : Int) + 60 := wrap60 k hn hkn
      clear hbm
      go_wp2_with fail
      rw [← hWm]
      clear hWm
      refine HRAW.out.mono ?_
      rintro e w5 ⟨z, rfl, hz, hb5⟩
      have HZ : Hid (In64 z) := ⟨by omega, by omega⟩
      have HB5 : Hid (Below wr.heap.size wr w5) := HBM.out.trans (hb5.mono HBM.out.size)
      have HR5 : Hid (w5.rowIs wr.heap.size 3 n (fun _ => .int .i64 0)) := HRM.out.of_block (hb5.block _ HRM.out.lt)
      clear hz hb5 hk60 HRAW
      go_wp2_with fail
      refine (pick_any z 2 w5 (by omega) (by omega) HZ.out).mono ?_
      rintro e w5' ⟨y, rfl, hy, rfl⟩
      have hy0 := hy.1
      have hy1 := hy.2
      have ca := HR5.out.cell (i := k) hkn
      have cf := HR5.out.frozen k
      have hw1 : wrap64 (1 + y) = 1 + y := wrap1y hy0 hy1
      have HROW : Hid ((w5'.setCell ⟨wr.heap.size, k, none⟩ (.int .i64 (1 + y))).rowIs wr.heap.size 3 n (fun i => if i = k then .int .i64 (1 + y) else .int .i64 0)) := HR5.out.set k _
      have HB6 : Hid (Below wr.heap.size wr (w5'.setCell ⟨wr.heap.size, k, none⟩ (.int .i64 (1 + y)))) := ((Touch.refl _ _).setCell k _).below HB5.out (Nat.le_refl _)
      clear hy
      go_upto_region 7 with fail
      obtain ⟨W6, hW6⟩ : ∃ W6, W6 = w5'.setCell ⟨wr.heap.size, k, none⟩ (.int .i64 (1 + y)) := ⟨_, rfl⟩
      rw [← hW6] at HROW HB6 ⊢
      clear hW6 ca cf hw1
      have HXK : Hid (Sl 0 3 W6 (.slice (some ⟨wr.heap.size, 0, none⟩) n n) (ints (axL n k (1 + y)))) := row_slT HROW.out (fun i hi => by
        show (if i = k then Value.int .i64 (1 + y) else .int .i64 0) = _
        by_cases e : i = k
        · rw [if_pos e]; simp [axL, e, hkn]
        · rw [if_neg e]; simp [axL, e, hi]) (axL_len _ _ _) (Nat.le_refl _) (by omega)
      have HPQ : Hid (PS N R n w1 W6 (.slice yo (many + k) yc) (aroL n m α k)) := HP.out.step HB6.out
      have d2 : W6.cell? ⟨R, 1, none⟩ = some (.slice yo (many + k) yc) := by simp [World.cell?, HPQ.out.pol]
      obtain ⟨vs2, g1, g2, g3⟩ := HPQ.out.rows
      have hln := HLN.out
      have G2 : Hid (W6.ownsRow N 22 1 (.slice yo (many + k) yc) (many + k) vs2) := by rw [← hln]; rw [← hln] at g2; exact g2
      have HPU2 : Hid (∀ v' w6, w6.ownsRow N 22 1 v' (many + k + 1) (vs2 ++ [.slice (some ⟨wr.heap.size, 0, none⟩) n n]) → (W6.alloc (.cells #[.slice (some ⟨wr.heap.size, 0, none⟩) n n] 22)).grownBy w6 (Value.slice yo (many + k) yc).ownBlock →
          w6.cell? ⟨R, 1, none⟩ = some (.slice yo (many + k) yc) ∧ w6.frozen? ⟨R, 1, none⟩ = false ∧ PS N R n w1 (w6.setCell ⟨R, 1, none⟩ v') v' (aroL n m (fun j => if j = k then 1 + y else α j) (k + 1))) := fun v' w6 ho hg => by
        have hp := HPQ.out.push HXK.out g1 g2 g3 (by rw [hln]; exact ho) hg
        rw [aroL_put]
        exact ⟨by simp [World.cell?, hp.1], by simp [World.frozen?, hp.1], hp.2⟩
      have HNS2 : Hid (N ≤ (W6.alloc (.cells #[.slice (some ⟨wr.heap.size, 0, none⟩) n n] 22)).heap.size) := by
        show _ ≤ _
        have h1 := HPQ.out.bel.size
        have h2 := HNE.out
        simp; omega
      have HA2 : Hid (∀ j, 1 ≤ (if j = k then 1 + y else α j) ∧ (if j = k then 1 + y else α j) ≤ 2) := fun j => by
        by_cases e : j = k
        · rw [if_pos e]; omega
        · rw [if_neg e]; exact HA.out j
      have d3 : (W6.alloc (.cells #[.slice (some ⟨wr.heap.size, 0, none⟩) n n] 22)).cell? ⟨R, 1, none⟩ = some (.slice yo (many + k) yc) := (((Below.refl W6.heap.size W6).alloc (Nat.le_refl _) _).cell (lt_of_cell d2)).trans d2
      clear g1 g2 g3 hln HXK HROW
      go_wp2_with (first | (at_builtin; refine wpList_append_own _ rfl _ _ 24 rfl N 22 i0 (.slice none 0 0) 1 24 Tryz.underlying24 hi hz0 hz1 hz2 rfl (by decide) _ _ _ rfl (G2.out.alloc _) ⟨W6.heap.size, 0, none⟩ 1 1 [.slice (some ⟨wr.heap.size, 0, none⟩) n n] rfl rfl (one_new _ _ _) (one_slice _ _ _) ?d3 ?d4 ?d5 ?_))
      case d3 => unfold maxLen; omega
      case d4 => omega
      case d5 => exact HNS2.out
      intro v' w6 ho hg _
      obtain ⟨vo2, vc2, hv2⟩ := owns_form ho
      subst hv2
      have FF := HPU2.out _ w6 ho hg
      have LS1 := FF.1
      have LS2 := FF.2.1
      have HNX : Hid (PS N R n w1 (w6.setCell ⟨R, 1, none⟩ (.slice vo2 (many + k + 1) vc2)) (.slice vo2 (many + k + 1) vc2) (aroL n m (fun j => if j = k then 1 + y else α j) (k + 1))) := FF.2.2
      clear ho hg FF d2 d3
      go_wp2
      first
        | exact ⟨⟨k + 1, _, _, hkn, by go_num, HA2.out, HNX.out⟩, by simp [intOf]; omega⟩
        | (go_roundw
           case rel => exact ⟨k + 1, _, _, hkn, by go_num, HA2.out, HNX.out⟩
           case measure => simp [intOf]; omega)
    · obtain rfl : n = k := by omega
      have hnI : ¬ ((n : Int) < (n : Int)) := by omega
      have d1 : wr.cell? ⟨R, 1, none⟩ = some (.slice yo (many + n) yc) := by simp [World.cell?, HP.out.pol]
      have HKR : Hid (∀ W', Below wr.heap.size wr W' → W'.cell? ⟨R, 1, none⟩ = some (.slice yo (many + n) yc)) := fun W' hB => (hB.cell (lt_of_cell d1)).trans d1
      have HON : Hid (Calls Tryz.prog 18 #[.int .i64 n] wr.drew fun e w' => ∃ u, e = .returned u ∧ (Sl 0 3 w' u (ints (onesL n)) ∧ Below wr.heap.size wr w')) := (ones_any n wr.drew (by omega)).mono fun _ _ ⟨u, e1, e2, e3⟩ => ⟨u, e1, Sl.own e2, (Below.drew (Below.refl _ _)).trans e3⟩
      have HTU : Hid (∀ W' u, Sl 0 3 W' u (ints (onesL n)) → Below wr.heap.size wr W' → Calls Tryz.prog 17 #[u] W' fun e w' => ∃ xo xc, e = .returned (.slice xo n xc) ∧ (Sl 0 3 w' (.slice xo n xc) (ints ((onesL n).map fun z => -z)) ∧ Below wr.heap.size wr w')) := fun W' u hu hB => (turned_any 0 (onesL n) u W' hu (by rw [onesL_len]; omega) (fun z hz => by
          simp only [onesL, List.mem_map] at hz
          obtain ⟨_, _, rfl⟩ := hz
          omega)).mono fun _ _ ⟨x, e1, e2, e3⟩ => by
        rw [onesL_len] at e2
        obtain ⟨xo, xc, hx⟩ := owns_form e2
        subst hx
        exact ⟨xo, xc, e1, Sl.own e2, hB.trans (e3.mono hB.size)⟩
      have HAP : Hid (∀ W' xo xc, Sl 0 3 W' (.slice xo n xc) (ints ((onesL n).map fun z => -z)) → Below wr.heap.size wr W' → ∃ vs, W'.ownsRow N 22 1 (.slice yo (many + n) yc) (many + n) vs ∧ (∀ o, N ≤ (W'.alloc o).heap.size) ∧ ∀ v' w7, w7.ownsRow N 22 1 v' (many + n + 1) (vs ++ [.slice xo n xc]) → (W'.alloc (.cells #[.slice xo n xc] 22)).grownBy w7 (Value.slice yo (many + n) yc).ownBlock → w7.cell? ⟨R, 1, none⟩ = some (.slice yo (many + n) yc) ∧ w7.heap[w.heap.size]? = some (.cells #[.int .i64 0, .slice none 0 0] 26 (0, 0)) ∧ Fr N 22 3 w7 v' (aroL n m α n ++ [(onesL n).map fun z => -z]) ∧ Below w.heap.size w w7) := fun W' xo xc hx hB => by
        have hPW := HP.out.step hB
        obtain ⟨vs, g1, g2, g3⟩ := hPW.rows
        have hln := HLN.out
        have hN1 := HNE.out
        have hsz : N ≤ W'.heap.size := by have := hPW.bel.size; omega
        refine ⟨vs, by rw [← hln]; rw [← hln] at g2; exact g2, fun o => by simp; omega, fun v' w7 ho hg => ?_⟩
        have g2' : W'.ownsRow N 22 1 (.slice yo (many + n) yc) (aroL n m α n).length vs := g2
        have hpush := hPW.push hx g1 g2' g3 (by rw [hln]; exact ho) hg
        have hfr : Fr N 22 3 w7 v' (aroL n m α n ++ [(onesL n).map fun z => -z]) := Fr.push (by decide) g1 (g2'.alloc _) (fun i hi => (g3 i hi).alloc _) (hx.alloc _) (by rw [hln]; exact ho) hg
        have hb7 : Below N w1 w7 := (hPW.bel.alloc hsz _).grown hg (by simp; omega) (fun x hx => (g2'.lt x hx).1)
        have hlt : w.heap.size < N := by have := HS1.out; omega
        refine ⟨by simp [World.cell?, hpush.1], (hb7.block _ hlt).trans HK1.out, hfr, HB1.out.trans (hb7.mono (by omega))⟩
      have HRN : Hid (R ≠ w.heap.size) := by
        have h1 := HP.out.nR
        have h2 := HNE.out
        have h3 := HS1.out
        show R ≠ _
        omega
      have hbm1 : many + n + 1 ≤ maxLen := by unfold maxLen; omega
      have hbm2 : (many + n + 1) * 24 ≤ 140737488355328 := by omega
      clear hk hkn
      go_wp2
      go_region_held3 (fun w' => w'.cell? ⟨R, 1, none⟩ = some (.slice yo (many + n) yc)) (first | exact KS.out | exact KT.out | go_keep)
        (first
          | (go_at_call 18; refine HON.out.mono ?_; rintro e w4 ⟨u4, rfl, hu4, hb4⟩; have HU4 : Hid (Sl 0 3 w4 u4 (ints (onesL n)) ∧ Below wr.heap.size wr w4) := ⟨hu4, hb4⟩; clear hu4 hb4; have KS : Hid _ := HKR.out w4 HU4.out.2)
          | (go_at_call 17; refine (HTU.out w4 u4 HU4.out.1 HU4.out.2).mono ?_; rintro e w5 ⟨xo5, xc5, rfl, hu5, hb5⟩; obtain ⟨vs5, g5, s5, p5⟩ := HAP.out w5 xo5 xc5 hu5 hb5; have G5 : Hid (w5.ownsRow N 22 1 (.slice yo (many + n) yc) (many + n) vs5) := g5; have S5 : Hid _ := s5; have P5 : Hid _ := p5; have HB5 : Hid (Below wr.heap.size wr w5) := hb5; clear hu5 hb5 g5 s5 p5 KS; have KS : Hid _ := HKR.out w5 HB5.out)
          | (refine step_append_own (by rfl) (.tmp 43) (.tmp 47) 24 (by rfl) N 22 i0 (.slice none 0 0) 1 24 Tryz.underlying24 hi hz0 hz1 hz2 rfl (by decide) (.slice yo (many + n) yc) (many + n) vs5 (by simp [Act.eval]) (G5.out.alloc _) ⟨w5.heap.size, 0, none⟩ 1 1 [.slice xo5 n xc5] (by simp [Act.eval]) rfl (one_new _ _ _) (one_slice _ _ _) hbm1 hbm2 (S5.out _) ?_; intro v7 w7 ho7 hg7; obtain ⟨vo7, vc7, hv7⟩ := owns_form ho7; subst hv7; have hE7 := P5.out _ w7 ho7 hg7; have z0 : w7.cell? ⟨w.heap.size, 0, none⟩ = some (.int .i64 0) := (by simp [World.cell?, hE7.2.1]); have z1 : w7.cell? ⟨w.heap.size, 1, none⟩ = some (.slice none 0 0) := (by simp [World.cell?, hE7.2.1]); have y0 : w7.frozen? ⟨w.heap.size, 0, none⟩ = false := (by simp [World.frozen?, hE7.2.1]); have y1 : w7.frozen? ⟨w.heap.size, 1, none⟩ = false := (by simp [World.frozen?, hE7.2.1]); have HE7 : Hid (w7.cell? ⟨R, 1, none⟩ = some (.slice yo (many + n) yc) ∧ w7.heap[w.heap.size]? = some (.cells #[.int .i64 0, .slice none 0 0] 26 (0, 0)) ∧ Fr N 22 3 w7 (.slice vo7 (many + n + 1) vc7) (aroL n m α n ++ [(onesL n).map fun z => -z]) ∧ Below w.heap.size w w7) := hE7; have KT : Hid (((w7.setCell ⟨w.heap.size, 0, none⟩ (.int .i64 (n : Int))).setCell ⟨w.heap.size, 1, none⟩ (.slice vo7 (many + n + 1) vc7)).cell? ⟨R, 1, none⟩ = some (.slice yo (many + n) yc)) := (((World.cell?_of_block (w := w7.setCell ⟨w.heap.size, 0, none⟩ (.int .i64 (n : Int))) (a := ⟨R, 1, none⟩) (Below.heap_setCell _ _ _ _ HRN.out)).trans (World.cell?_of_block (w := w7) (a := ⟨R, 1, none⟩) (Below.heap_setCell _ _ _ _ HRN.out))).trans hE7.1); clear ho7 hg7 KS hE7; have KS : Hid _ := HE7.out.1))
      all_goals
        obtain ⟨_, hk7, hf7, hb7⟩ := HE7.out
        have hM7 : Mat 0 22 3 w7 (.slice vo7 (many + n + 1) vc7) (aroL n m α n ++ [(onesL n).map fun z => -z]) := by
          obtain ⟨us, u1, u2, u3⟩ := hf7
          exact ⟨us, u1, Sl.own u2, u3⟩
        have HMF : Hid (Mat 0 22 3 ((w7.setCell ⟨w.heap.size, 0, none⟩ (.int .i64 (n : Int))).setCell ⟨w.heap.size, 1, none⟩ (.slice vo7 (many + n + 1) vc7)) (.slice vo7 (many + n + 1) vc7) (aroL n m α n ++ [(onesL n).map fun z => -z])) := mat_boxP hk7 hM7
        have HBF : Hid (Below w.heap.size w ((w7.setCell ⟨w.heap.size, 0, none⟩ (.int .i64 (n : Int))).setCell ⟨w.heap.size, 1, none⟩ (.slice vo7 (many + n + 1) vc7))) := below_setA (below_setA hb7 (Nat.le_refl _)) (Nat.le_refl _)
        clear hk7 hf7 hb7 hM7 HE7
        go_wp2
        exact bodyPost_ret (v := .agg #[.int .i64 (n : Int), .slice vo7 (many + n + 1) vc7]) (by simp [results, Tryz.results5, go_sem, *]) rfl ⟨_, m, α, rfl, HML.out, HBX.out, HA.out, HMF.out.any (Nat.le_refl _), HBF.out⟩

end Go.Proofs.YtnpapoegkbehbaaGreat
