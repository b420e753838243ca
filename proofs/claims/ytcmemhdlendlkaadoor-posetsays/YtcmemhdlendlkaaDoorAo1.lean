/- facetref.AboveOf. -/
import Derived.Test.YtcmemhdlendlkaaDoorAo0
import Derived.Test.YtcmemhdlendlkaaDoorDc1
import Derived.Test.YtcmemhdlendlkaaDoorTkA
namespace Go.Proofs.YtcmemhdlendlkaaDoor
open Go.RowKit
attribute [local go_sem ↓] Go.wp_at_zero Go.wp_at_succ

theorem or_i64 : ∀ s : Nat, s < 64 → ∀ b : Nat, b < 6 → bits .or .i64 (s : Int) ((2 ^ b : Nat) : Int) = ((s ||| 2 ^ b : Nat) : Int) ∧ IntKind.i64.wrap ((2 : Int) ^ b) = ((2 ^ b : Nat) : Int) := by decide +kernel

theorem upL_snoc (n : Nat) (f : Nat → Nat) : upL (n + 1) f = upL n f ++ [(f n : Int)] := by simp [upL, List.range_succ]

theorem pair_mem {es : List (Nat × Nat)} {j : Nat} (hj : j < es.length) : ((es.getD j (0, 0)).1, (es.getD j (0, 0)).2) ∈ es := by
  have e : es.getD j (0, 0) = es[j] := by simp [hj]
  rw [e]
  exact List.getElem_mem hj

set_option maxRecDepth 100000 in
set_option maxHeartbeats 6400000 in
theorem aboveOf_any (n : Nat) (es : List (Nat × Nat)) (pv : Value) (w : World) (hv : Prs w pv (npL es)) (hes : ∀ e ∈ es, e.1 < n ∧ e.2 < n) (hn : n ≤ 6) (hl : es.length ≤ 36) :
    Calls Tryd.prog 5 #[.agg #[.int .i64 (n : Int), pv]] w fun e w' => ∃ x, e = .returned x ∧ w'.ownsRow w.heap.size 3 1 x n (ints (upL n (upF n es))) ∧ Below w.heap.size w w' := by
  obtain ⟨i3, hi3, hz30, hz31, hz32⟩ := info_parts Tryd.info3
  have HV : Hid (Prs w pv (npL es)) := hv
  obtain ⟨po, pc, hpv, -⟩ := hv
  rw [npL_len] at hpv
  subst hpv
  obtain ⟨W1, hW1⟩ : ∃ W1, W1 = w.alloc (.cells #[.int .i64 (n : Int), .slice po es.length pc] 24) := ⟨_, rfl⟩
  have HB1 : Hid (Below w.heap.size w W1) := by rw [hW1]; exact (Below.refl _ _).alloc (Nat.le_refl _) _
  have d0 : W1.cell? ⟨w.heap.size, 0, none⟩ = some (.int .i64 (n : Int)) := by rw [hW1]; simp
  have d1 : W1.cell? ⟨w.heap.size, 1, none⟩ = some (.slice po es.length pc) := by rw [hW1]; simp
  have hs1 : W1.heap.size = w.heap.size + 1 := by rw [hW1]; simp
  obtain ⟨pb, hpb⟩ : ∃ pb, pb = w.heap.size := ⟨_, rfl⟩
  rw [← hpb] at d0 d1
  have HD : Hid (∀ W, Below W1.heap.size W1 W → W.cell? ⟨pb, 0, none⟩ = some (.int .i64 (n : Int)) ∧ W.cell? ⟨pb, 1, none⟩ = some (.slice po es.length pc) ∧ Below w.heap.size w W) := fun W h => ⟨(h.cell (lt_of_cell d0)).trans d0, (h.cell (lt_of_cell d1)).trans d1, HB1.out.trans (h.mono HB1.out.size)⟩
  have HES : Hid (∀ e ∈ es, e.1 < n ∧ e.2 < n) := hes
  have HU0 : Hid (upL 0 (upF n es) = []) := rfl
  have HU1 : Hid (∀ i, upL (i + 1) (upF n es) = upL i (upF n es) ++ [((upF n es i : Nat) : Int)]) := fun i => upL_snoc i _
  have HUL : Hid (∀ i, (upL i (upF n es)).length = i) := fun i => upL_len i _
  have hw1s : w.heap.size ≤ W1.heap.size := by omega
  have HFIN : Hid (∀ (W : World) x, W.ownsRow W1.heap.size 3 1 x n (ints (upL n (upF n es))) → W.ownsRow w.heap.size 3 1 x n (ints (upL n (upF n es)))) := fun W x h => own_low h hw1s
  clear hes d0 d1 hs1
  go_enter Tryd.func5, Tryd.ntmps5
  go_wp2
  rw [← hpb, ← hW1]
  clear hW1 hpb
  have e0 := HU0.out
  go_loopw [3, 4] (fun ov iv wr => ∃ i : Nat, i ≤ n ∧ iv = .int .i64 (i : Int) ∧ wr.ownsRow W1.heap.size 3 1 ov i (ints (upL i (upF n es))) ∧ Below W1.heap.size W1 wr) (fun _ iv _ => n - (intOf iv).toNat)
  case atStart => exact ⟨0, Nat.zero_le _, rfl, by rw [e0]; exact World.ownsRow_nil _ _ _ _, Below.refl _ _⟩
  case round =>
    obtain ⟨i, hi, rfl, ho, hb⟩ := hrel
    obtain ⟨wa, rfl⟩ : ∃ wa, wa = wr := ⟨_, rfl⟩
    clear e0 HU0
    obtain ⟨c0, c1, hbw⟩ := HD.out wa hb
    have HO : Hid (wa.ownsRow W1.heap.size 3 1 u3 i (ints (upL i (upF n es)))) := ho
    have HB : Hid (Below W1.heap.size W1 wa) := hb
    have hsza : W1.heap.size ≤ wa.heap.size := hb.size
    clear ho hb hbw
    by_cases hlt : i < n
    · have iI : (i : Int) < (n : Int) := by omega
      obtain ⟨M, hM⟩ : ∃ M, M = wa.heap.size := ⟨_, rfl⟩
      have HL0 : Hid ((wa.alloc (.cells #[.int .i64 (i : Int)] 3)).ownsRow M 3 1 (.slice (some ⟨wa.heap.size, 0, none⟩) 1 1) 1 (ints (natsI (i :: [])))) := by
        rw [hM]
        exact ⟨rfl, .inr ⟨wa.heap.size, 1, #[.int .i64 (i : Int)], rfl, Nat.le_refl _, heap_alloc_new wa _, Nat.le_refl _, by decide, rfl, rfl⟩⟩
      have HB0 : Hid (Below M wa (wa.alloc (.cells #[.int .i64 (i : Int)] 3))) := by rw [hM]; exact (Below.refl _ _).alloc (Nat.le_refl _) _
      have HMS : Hid (M = wa.heap.size) := hM
      have hMW : W1.heap.size ≤ M := by omega
      clear hM
      go_wp2
      clear c0 c1
      go_loopw [5, 6, 7] (fun lv sv kv wq => ∃ (k s : Nat) (tl : List Nat), k ≤ tl.length + 1 ∧ kv = .int .i64 (k : Int) ∧ sv = .int .i64 (s : Int) ∧ AoI n es i tl s ∧ (∀ m, m < k → ∀ b, ((i :: tl).getD m 0, b) ∈ es → s.testBit b = true) ∧ wq.ownsRow M 3 1 lv (tl.length + 1) (ints (natsI (i :: tl))) ∧ Below M wa wq) (fun _ _ kv _ => n + 2 - (intOf kv).toNat)
      case atStart => exact ⟨0, 0, [], by simp, rfl, rfl, AoI.start n es i, fun m hm => by omega, HL0.out, HB0.out⟩
      case round =>
        obtain ⟨k, s, tl, hk, rfl, rfl, hA, hcl, hol, hbl⟩ := hrel
        rename World => wq
        clear HL0 HB0
        obtain ⟨lo, lc, hlv⟩ := owns_form hol
        subst hlv
        have htl := hA.len
        have hs64 : s < 64 := Nat.lt_of_lt_of_le hA.lt (Nat.pow_le_pow_right (by omega) hn : 2 ^ n ≤ 2 ^ 6)
        have HA : Hid (AoI n es i tl s) := hA
        have HCL : Hid (∀ m, m < k → ∀ b, ((i :: tl).getD m 0, b) ∈ es → s.testBit b = true) := hcl
        have HOL : Hid (wq.ownsRow M 3 1 (.slice lo (tl.length + 1) lc) (tl.length + 1) (ints (natsI (i :: tl)))) := hol
        have HBL : Hid (Below M wa wq) := hbl
        clear hA hcl hol hbl
        have hbW : Below W1.heap.size W1 wq := HB.out.trans (HBL.out.mono hMW)
        by_cases hlk : k < tl.length + 1
        · have kI : (k : Int) < ((tl.length + 1 : Nat) : Int) := by omega
          have kI2 : (k : Int) < (tl.length : Int) + 1 := by omega
          obtain ⟨c0, c1, -⟩ := HD.out wq hbW
          clear hbW
          go_wp2
          clear c0 c1
          obtain ⟨y, hy⟩ : ∃ y, y = (i :: tl).getD k 0 := ⟨_, rfl⟩
          have HY : Hid (y = (i :: tl).getD k 0) := hy
          have HYM : Hid (y ∈ i :: tl) := by rw [hy]; simp only [List.getD_eq_getElem?_getD]; rw [List.getElem?_eq_getElem (by simpa using hlk)]; exact List.getElem_mem _
          clear hy
          go_loopw [5, 6, 8] (fun lv sv jv wp => ∃ (j s : Nat) (tl2 : List Nat), j ≤ es.length ∧ jv = .int .i64 (j : Int) ∧ sv = .int .i64 (s : Int) ∧ AoI n es i (tl ++ tl2) s ∧ (∀ m, m < k → ∀ b, ((i :: tl).getD m 0, b) ∈ es → s.testBit b = true) ∧ (∀ j', j' < j → (es.getD j' (0, 0)).1 = y → s.testBit (es.getD j' (0, 0)).2 = true) ∧ wp.ownsRow M 3 1 lv ((tl ++ tl2).length + 1) (ints (natsI (i :: (tl ++ tl2)))) ∧ Below M wa wp) (fun _ _ jv _ => es.length - (intOf jv).toNat)
          case atStart => exact ⟨0, s, [], Nat.zero_le _, rfl, rfl, by simpa using HA.out, HCL.out, fun j' hj' => by omega, by simpa using HOL.out, HBL.out⟩
          case round =>
            obtain ⟨j, s2, tl2, hj, rfl, rfl, hA2, hcl2, hjj, hol2, hbl2⟩ := hrel
            rename World => wp
            clear HA HCL HOL HBL hs64
            obtain ⟨lo2, lc2, hlv2⟩ := owns_form hol2
            subst hlv2
            have htl2 := hA2.len
            have hs2 : s2 < 64 := Nat.lt_of_lt_of_le hA2.lt (Nat.pow_le_pow_right (by omega) hn : 2 ^ n ≤ 2 ^ 6)
            have HA2 : Hid (AoI n es i (tl ++ tl2) s2) := hA2
            have HCL2 : Hid (∀ m, m < k → ∀ b, ((i :: tl).getD m 0, b) ∈ es → s2.testBit b = true) := hcl2
            have HJJ : Hid (∀ j', j' < j → (es.getD j' (0, 0)).1 = y → s2.testBit (es.getD j' (0, 0)).2 = true) := hjj
            have HOL2 : Hid (wp.ownsRow M 3 1 (.slice lo2 ((tl ++ tl2).length + 1) lc2) ((tl ++ tl2).length + 1) (ints (natsI (i :: (tl ++ tl2))))) := hol2
            have HBL2 : Hid (Below M wa wp) := hbl2
            clear hA2 hcl2 hjj hol2 hbl2
            have hbW2 : Below W1.heap.size W1 wp := HB.out.trans (HBL2.out.mono hMW)
            obtain ⟨c0, c1, hbw2⟩ := HD.out wp hbW2
            by_cases hlj : j < es.length
            · obtain ⟨po2, pc2, hpe, hcs⟩ := HV.out.below hbw2 (Nat.le_refl _)
              obtain ⟨qb, qo, e, p1, p2⟩ := hcs j (by rw [npL_len]; exact hlj)
              rw [npL_len] at hpe
              simp only [Value.slice.injEq, true_and] at hpe
              obtain ⟨rfl, rfl⟩ := hpe
              subst e
              rw [npL_at hlj] at p1 p2
              have hpm := pair_mem hlj
              obtain ⟨hx1, hx2⟩ := HES.out _ hpm
              have HJ1 : Hid (∀ s3 : Nat, (∀ b, s2.testBit b = true → s3.testBit b = true) → ((es.getD j (0, 0)).1 = y → s3.testBit (es.getD j (0, 0)).2 = true) → ∀ j', j' < j + 1 → (es.getD j' (0, 0)).1 = y → s3.testBit (es.getD j' (0, 0)).2 = true) := fun s3 hm he j' hj' hy => by
                by_cases e : j' = j
                · subst e; exact he hy
                · exact hm _ (HJJ.out j' (by omega) hy)
              have hkk : k < (natsI (i :: (tl ++ tl2))).length := by rw [natsI_len]; simp; omega
              obtain ⟨gb, go, gc, hgs, -, hgc⟩ := sl_cell (Sl.own (B := 0) HOL2.out) hkk
              rw [natsI_len] at hgs
              simp only [List.length_cons, Value.slice.injEq, true_and] at hgs
              obtain ⟨rfl, rfl⟩ := hgs
              rw [natsI_at (by rw [← natsI_len]; exact hkk)] at hgc
              have hyk : (i :: (tl ++ tl2)).getD k 0 = y := by
                rw [HY.out, ← List.cons_append]
                simp only [List.getD_eq_getElem?_getD]
                rw [List.getElem?_append_left (by simpa using hlk)]
              rw [hyk] at hgc
              have HYL : Hid (y ∈ i :: (tl ++ tl2)) := by
                show y ∈ i :: (tl ++ tl2)
                rcases List.mem_cons.1 HYM.out with h | h
                · rw [h]; simp
                · exact List.mem_cons_of_mem _ (List.mem_append_left _ h)
              have HPM : Hid (((es.getD j (0, 0)).1, (es.getD j (0, 0)).2) ∈ es) := hpm
              generalize (es.getD j (0, 0)).1 = x at *
              generalize (es.getD j (0, 0)).2 = b at *
              have eb := bitq_tab s2 hs2 b (by omega)
              obtain ⟨eo, ew⟩ := or_i64 s2 hs2 b (by omega)
              have jI : (j : Int) < (es.length : Int) := by omega
              have jI0 : (0 : Int) ≤ (j : Int) := by omega
              have kI4 : (k : Int) < (((tl ++ tl2).length : Nat) : Int) + 1 := by rw [List.length_append]; omega
              have kI3 : (k : Int) < (((tl ++ tl2).length + 1 : Nat) : Int) := by omega
              have kI0 : (0 : Int) ≤ (k : Int) := by omega
              have bI0 : (0 : Int) ≤ (b : Int) := by omega
              clear hkk hyk hpm hbW2 hbw2 c0
              by_cases hxy : x = y
              · have t1 : ((x : Int) == (y : Int)) = true := by rw [beq_iff_eq]; omega
                obtain ⟨zq, hzq⟩ : ∃ zq, (s2 : Int) / 2 ^ b = zq := ⟨_, rfl⟩
                rw [hzq] at eb
                have eb2 : (zq.tmod 2 == 0) = !s2.testBit b := by
                  rw [eb]
                  cases s2.testBit b <;> rfl
                obtain ⟨zr, hzr⟩ : ∃ zr, zq.tmod 2 = zr := ⟨_, rfl⟩
                rw [hzr] at eb2
                cases hbt : s2.testBit b
                · rw [hbt] at eb2
                  have HA3 : Hid (AoI n es i (tl ++ (tl2 ++ [b])) (s2 ||| 2 ^ b)) := by
                    rw [← List.append_assoc]
                    exact HA2.out.snoc HYL.out (by rw [← hxy]; exact HPM.out) hx2 hbt
                  have hmon : ∀ c, s2.testBit c = true → (s2 ||| 2 ^ b).testBit c = true := fun c hc => by rw [Nat.testBit_or, hc]; rfl
                  have hnew : (s2 ||| 2 ^ b).testBit b = true := by rw [Nat.testBit_or, Nat.testBit_two_pow]; simp
                  have HC3 : Hid (∀ m, m < k → ∀ c, ((i :: tl).getD m 0, c) ∈ es → (s2 ||| 2 ^ b).testBit c = true) := fun m hm c hc => hmon c (HCL2.out m hm c hc)
                  have HJ3 := HJ1.out (s2 ||| 2 ^ b) hmon (fun _ => hnew)
                  have HJ4 : Hid (∀ j', j' < j + 1 → (es.getD j' (0, 0)).1 = y → (s2 ||| 2 ^ b).testBit (es.getD j' (0, 0)).2 = true) := HJ3
                  have hszp : M ≤ wp.heap.size := by have := HBL2.out.size; have := HMS.out; omega
                  obtain ⟨sl, hsl⟩ : ∃ sl, sl = (tl ++ tl2).length + 1 := ⟨_, rfl⟩
                  have HSLN : Hid (sl = (tl ++ tl2).length + 1) := hsl
                  rw [← hsl] at HOL2
                  rw [← hsl]
                  have hsl8 : sl ≤ 8 := by omega
                  have kI5 : (k : Int) < (sl : Int) := by omega
                  clear hmon hnew HJ3 hbt HJ1 hsl kI4 kI3 HJJ HCL2
                  generalize s2 ||| 2 ^ b = s3 at *
                  generalize (2 ^ b : Nat) = pb2 at *
                  go_wp2
                  refine wp_region_held_drew (S := fun w' => w'.cell? ⟨pb, 1, none⟩ = some (.slice (some ⟨qb, qo, none⟩) es.length pc) ∧ w'.cell? ⟨qb, qo + j * 2, none⟩ = some (.int .i64 (x : Int)) ∧ w'.cell? ⟨gb, go + k, none⟩ = some (.int .i64 (y : Int))) (by kernel_rfl) ⟨c1, p1, hgc⟩ (fun hHeld => ?_)
                  refine wpAnyH_tk (i := 0) (d := 37) (v := (.pointer (some ⟨pb, 1, none⟩))) rfl rfl (by kernel_rfl) (by kernel_rfl) (by kernel_rfl) (fun _ _ _ h => h) (.inl ⟨by rfl, by (intro wq hSw; (try dsimp only at hSw); go_simp; (try (first | rfl | omega)))⟩) hHeld ?_
                  simp only [Act.put, List.setIfInBounds_toArray, List.set_cons_zero, List.set_cons_succ]
                  refine wpAnyH_tk (i := 1) (d := 38) (v := (.slice (some ⟨qb, qo, none⟩) es.length pc)) rfl rfl (by kernel_rfl) (by kernel_rfl) (by kernel_rfl) (fun _ _ _ h => h) (.inl ⟨by rfl, by (intro wq hSw; (try dsimp only at hSw); go_simp; (try (first | rfl | omega)))⟩) hHeld ?_
                  simp only [Act.put, List.setIfInBounds_toArray, List.set_cons_zero, List.set_cons_succ]
                  refine wpAnyH_tk (i := 2) (d := 39) (v := (.int .i64 (j : Int))) rfl rfl (by kernel_rfl) (by kernel_rfl) (by kernel_rfl) (fun _ _ _ h => h) (.inl ⟨by rfl, by (intro wq hSw; (try dsimp only at hSw); go_simp; (try (first | rfl | omega)))⟩) hHeld ?_
                  simp only [Act.put, List.setIfInBounds_toArray, List.set_cons_zero, List.set_cons_succ]
                  refine wpAnyH_tk (i := 3) (d := 40) (v := (.pointer (some ⟨qb, qo + j * 2, none⟩))) rfl rfl (by kernel_rfl) (by kernel_rfl) (by kernel_rfl) (fun _ _ _ h => h) (.inl ⟨by rfl, by (intro wq hSw; (try dsimp only at hSw); go_simp; (try (first | rfl | omega)))⟩) hHeld ?_
                  simp only [Act.put, List.setIfInBounds_toArray, List.set_cons_zero, List.set_cons_succ]
                  refine wpAnyH_tk (i := 4) (d := 41) (v := (.pointer (some ⟨qb, qo + j * 2, none⟩))) rfl rfl (by kernel_rfl) (by kernel_rfl) (by kernel_rfl) (fun _ _ _ h => h) (.inl ⟨by rfl, by (intro wq hSw; (try dsimp only at hSw); go_simp; (try (first | rfl | omega)))⟩) hHeld ?_
                  simp only [Act.put, List.setIfInBounds_toArray, List.set_cons_zero, List.set_cons_succ]
                  refine wpAnyH_tk (i := 5) (d := 42) (v := (.int .i64 (x : Int))) rfl rfl (by kernel_rfl) (by kernel_rfl) (by kernel_rfl) (fun _ _ _ h => h) (.inl ⟨by rfl, by (intro wq hSw; (try dsimp only at hSw); go_simp; (try (first | rfl | omega)))⟩) hHeld ?_
                  simp only [Act.put, List.setIfInBounds_toArray, List.set_cons_zero, List.set_cons_succ]
                  refine wpAnyH_tk (i := 6) (d := 43) (v := (.slice (some ⟨gb, go, none⟩) sl lc2)) rfl rfl (by kernel_rfl) (by kernel_rfl) (by kernel_rfl) (fun _ _ _ h => h) (.inl ⟨by rfl, by (intro wq hSw; (try dsimp only at hSw); go_simp; (try (first | rfl | omega)))⟩) hHeld ?_
                  simp only [Act.put, List.setIfInBounds_toArray, List.set_cons_zero, List.set_cons_succ]
                  refine wpAnyH_tk (i := 7) (d := 44) (v := (.int .i64 (k : Int))) rfl rfl (by kernel_rfl) (by kernel_rfl) (by kernel_rfl) (fun _ _ _ h => h) (.inl ⟨by rfl, by (intro wq hSw; (try dsimp only at hSw); go_simp; (try (first | rfl | omega)))⟩) hHeld ?_
                  simp only [Act.put, List.setIfInBounds_toArray, List.set_cons_zero, List.set_cons_succ]
                  refine wpAnyH_tk (i := 8) (d := 45) (v := (.pointer (some ⟨gb, go + k, none⟩))) rfl rfl (by kernel_rfl) (by kernel_rfl) (by kernel_rfl) (fun _ _ _ h => h) (.inl ⟨by rfl, by (intro wq hSw; (try dsimp only at hSw); go_simp; (try (first | rfl | omega)))⟩) hHeld ?_
                  simp only [Act.put, List.setIfInBounds_toArray, List.set_cons_zero, List.set_cons_succ]
                  refine wpAnyH_tk (i := 9) (d := 46) (v := (.int .i64 (y : Int))) rfl rfl (by kernel_rfl) (by kernel_rfl) (by kernel_rfl) (fun _ _ _ h => h) (.inl ⟨by rfl, by (intro wq hSw; (try dsimp only at hSw); go_simp; (try (first | rfl | omega)))⟩) hHeld ?_
                  simp only [Act.put, List.setIfInBounds_toArray, List.set_cons_zero, List.set_cons_succ]
                  refine wpAnyH_tk (i := 10) (d := 47) (v := (.bool true)) rfl rfl (by kernel_rfl) (by kernel_rfl) (by kernel_rfl) (fun _ _ _ h => h) (.inl ⟨by rfl, by (intro wq hSw; (try dsimp only at hSw); go_simp; (try (first | rfl | omega)))⟩) hHeld ?_
                  simp only [Act.put, List.setIfInBounds_toArray, List.set_cons_zero, List.set_cons_succ]
                  refine wpAnyH_tk (i := 11) (d := 48) (v := (.bool true)) rfl rfl (by kernel_rfl) (by kernel_rfl) (by kernel_rfl) (fun _ _ _ h => h) (.inl ⟨by rfl, by (intro wq hSw; (try dsimp only at hSw); go_simp; (try (first | rfl | omega)))⟩) hHeld ?_
                  simp only [Act.put, List.setIfInBounds_toArray, List.set_cons_zero, List.set_cons_succ]
                  refine wpAnyH_tk (i := 12) (d := 49) (v := (.int .i64 (s2 : Int))) rfl rfl (by kernel_rfl) (by kernel_rfl) (by kernel_rfl) (fun _ _ _ h => h) (.inl ⟨by rfl, by (intro wq hSw; (try dsimp only at hSw); go_simp; (try (first | rfl | omega)))⟩) hHeld ?_
                  simp only [Act.put, List.setIfInBounds_toArray, List.set_cons_zero, List.set_cons_succ]
                  refine wpAnyH_tk (i := 13) (d := 50) (v := (.int .i64 (b : Int))) rfl rfl (by kernel_rfl) (by kernel_rfl) (by kernel_rfl) (fun _ _ _ h => h) (.inl ⟨by rfl, by (intro wq hSw; (try dsimp only at hSw); go_simp; (try (first | rfl | omega)))⟩) hHeld ?_
                  simp only [Act.put, List.setIfInBounds_toArray, List.set_cons_zero, List.set_cons_succ]
                  refine wpAnyH_tk (i := 14) (d := 51) (v := (.int .i64 zq)) rfl rfl (by kernel_rfl) (by kernel_rfl) (by kernel_rfl) (fun _ _ _ h => h) (.inl ⟨by rfl, by (intro wq hSw; (try dsimp only at hSw); go_simp; (try (first | rfl | omega)))⟩) hHeld ?_
                  simp only [Act.put, List.setIfInBounds_toArray, List.set_cons_zero, List.set_cons_succ]
                  refine wpAnyH_tk (i := 15) (d := 52) (v := (.int .i64 zr)) rfl rfl (by kernel_rfl) (by kernel_rfl) (by kernel_rfl) (fun _ _ _ h => h) (.inl ⟨by rfl, by (intro wq hSw; (try dsimp only at hSw); go_simp; (try (first | rfl | omega)))⟩) hHeld ?_
                  simp only [Act.put, List.setIfInBounds_toArray, List.set_cons_zero, List.set_cons_succ]
                  refine wpAnyH_tk (i := 16) (d := 53) (v := (.bool true)) rfl rfl (by kernel_rfl) (by kernel_rfl) (by kernel_rfl) (fun _ _ _ h => h) (.inl ⟨by rfl, by (intro wq hSw; (try dsimp only at hSw); go_simp; (try (first | rfl | omega)))⟩) hHeld ?_
                  simp only [Act.put, List.setIfInBounds_toArray, List.set_cons_zero, List.set_cons_succ]
                  refine wpAnyH_tk (i := 17) (d := 54) (v := (.bool true)) rfl rfl (by kernel_rfl) (by kernel_rfl) (by kernel_rfl) (fun _ _ _ h => h) (.inl ⟨by rfl, by (intro wq hSw; (try dsimp only at hSw); go_simp; (try (first | rfl | omega)))⟩) hHeld ?_
                  simp only [Act.put, List.setIfInBounds_toArray, List.set_cons_zero, List.set_cons_succ]
                  refine wpAnyH_done (by kernel_rfl) ?_ _
                  clear hHeld hzq hzr eb2 eb
                  go_wp2_with (first | (at_builtin; refine wpList_append_own _ rfl _ _ 27 rfl M 3 i3 (.int .i64 0) 1 8 Tryd.underlying27 hi3 hz30 hz31 hz32 rfl (by decide) _ _ _ rfl (World.ownsRow.alloc (w := wp.drew) ⟨HOL2.out.1, HOL2.out.2⟩ _) ⟨wp.heap.size, 0, none⟩ 1 1 [.int .i64 (b : Int)] rfl rfl (one_new wp.drew _ _) (one_int _) ?c3 ?c4 ?c5 ?_))
                  case c3 => unfold maxLen; omega
                  case c4 => omega
                  case c5 => simp; omega
                  intro v2 w4 ho hg _
                  have R1 : Hid (w4.ownsRow M 3 1 v2 ((tl ++ (tl2 ++ [b])).length + 1) (ints (natsI (i :: (tl ++ (tl2 ++ [b])))))) := by
                    have e1 : (tl ++ (tl2 ++ [b])).length + 1 = sl + 1 := by rw [HSLN.out]; simp; omega
                    have e2 : i :: (tl ++ (tl2 ++ [b])) = (i :: (tl ++ tl2)) ++ [b] := by simp
                    show World.ownsRow _ _ _ _ _ _ _
                    rw [e1, e2, natsI_app]
                    exact ho
                  have R2 : Hid (Below M wa w4) := (Below.drew (HBL2.out.alloc hszp _)).grown hg (by simp; omega) (fun z hz => (HOL2.out.lt z hz).1)
                  clear ho hg
                  go_wp2
                  go_roundw
                  case rel => exact ⟨j + 1, s3, tl2 ++ [b], by omega, by go_num, rfl, HA3.out, HC3.out, HJ4.out, R1.out, R2.out⟩
                  case measure => simp [intOf]; omega
                · rw [hbt] at eb2
                  have HJ4 : Hid (∀ j', j' < j + 1 → (es.getD j' (0, 0)).1 = y → s2.testBit (es.getD j' (0, 0)).2 = true) := HJ1.out s2 (fun _ h => h) (fun _ => hbt)
                  obtain ⟨sl, hsl⟩ : ∃ sl, sl = (tl ++ tl2).length + 1 := ⟨_, rfl⟩
                  have HSLN : Hid (sl = (tl ++ tl2).length + 1) := hsl
                  rw [← hsl]
                  have kI5 : (k : Int) < (sl : Int) := by omega
                  clear hbt HJ1 hsl kI4 kI3 HJJ eo ew
                  go_wp2
                  refine wp_region_held_drew (S := fun w' => w'.cell? ⟨pb, 1, none⟩ = some (.slice (some ⟨qb, qo, none⟩) es.length pc) ∧ w'.cell? ⟨qb, qo + j * 2, none⟩ = some (.int .i64 (x : Int)) ∧ w'.cell? ⟨gb, go + k, none⟩ = some (.int .i64 (y : Int))) (by kernel_rfl) ⟨c1, p1, hgc⟩ (fun hHeld => ?_)
                  refine wpAnyH_tk (i := 0) (d := 37) (v := (.pointer (some ⟨pb, 1, none⟩))) rfl rfl (by kernel_rfl) (by kernel_rfl) (by kernel_rfl) (fun _ _ _ h => h) (.inl ⟨by rfl, by (intro wq hSw; (try dsimp only at hSw); go_simp; (try (first | rfl | omega)))⟩) hHeld ?_
                  simp only [Act.put, List.setIfInBounds_toArray, List.set_cons_zero, List.set_cons_succ]
                  refine wpAnyH_tk (i := 1) (d := 38) (v := (.slice (some ⟨qb, qo, none⟩) es.length pc)) rfl rfl (by kernel_rfl) (by kernel_rfl) (by kernel_rfl) (fun _ _ _ h => h) (.inl ⟨by rfl, by (intro wq hSw; (try dsimp only at hSw); go_simp; (try (first | rfl | omega)))⟩) hHeld ?_
                  simp only [Act.put, List.setIfInBounds_toArray, List.set_cons_zero, List.set_cons_succ]
                  refine wpAnyH_tk (i := 2) (d := 39) (v := (.int .i64 (j : Int))) rfl rfl (by kernel_rfl) (by kernel_rfl) (by kernel_rfl) (fun _ _ _ h => h) (.inl ⟨by rfl, by (intro wq hSw; (try dsimp only at hSw); go_simp; (try (first | rfl | omega)))⟩) hHeld ?_
                  simp only [Act.put, List.setIfInBounds_toArray, List.set_cons_zero, List.set_cons_succ]
                  refine wpAnyH_tk (i := 3) (d := 40) (v := (.pointer (some ⟨qb, qo + j * 2, none⟩))) rfl rfl (by kernel_rfl) (by kernel_rfl) (by kernel_rfl) (fun _ _ _ h => h) (.inl ⟨by rfl, by (intro wq hSw; (try dsimp only at hSw); go_simp; (try (first | rfl | omega)))⟩) hHeld ?_
                  simp only [Act.put, List.setIfInBounds_toArray, List.set_cons_zero, List.set_cons_succ]
                  refine wpAnyH_tk (i := 4) (d := 41) (v := (.pointer (some ⟨qb, qo + j * 2, none⟩))) rfl rfl (by kernel_rfl) (by kernel_rfl) (by kernel_rfl) (fun _ _ _ h => h) (.inl ⟨by rfl, by (intro wq hSw; (try dsimp only at hSw); go_simp; (try (first | rfl | omega)))⟩) hHeld ?_
                  simp only [Act.put, List.setIfInBounds_toArray, List.set_cons_zero, List.set_cons_succ]
                  refine wpAnyH_tk (i := 5) (d := 42) (v := (.int .i64 (x : Int))) rfl rfl (by kernel_rfl) (by kernel_rfl) (by kernel_rfl) (fun _ _ _ h => h) (.inl ⟨by rfl, by (intro wq hSw; (try dsimp only at hSw); go_simp; (try (first | rfl | omega)))⟩) hHeld ?_
                  simp only [Act.put, List.setIfInBounds_toArray, List.set_cons_zero, List.set_cons_succ]
                  refine wpAnyH_tk (i := 6) (d := 43) (v := (.slice (some ⟨gb, go, none⟩) sl lc2)) rfl rfl (by kernel_rfl) (by kernel_rfl) (by kernel_rfl) (fun _ _ _ h => h) (.inl ⟨by rfl, by (intro wq hSw; (try dsimp only at hSw); go_simp; (try (first | rfl | omega)))⟩) hHeld ?_
                  simp only [Act.put, List.setIfInBounds_toArray, List.set_cons_zero, List.set_cons_succ]
                  refine wpAnyH_tk (i := 7) (d := 44) (v := (.int .i64 (k : Int))) rfl rfl (by kernel_rfl) (by kernel_rfl) (by kernel_rfl) (fun _ _ _ h => h) (.inl ⟨by rfl, by (intro wq hSw; (try dsimp only at hSw); go_simp; (try (first | rfl | omega)))⟩) hHeld ?_
                  simp only [Act.put, List.setIfInBounds_toArray, List.set_cons_zero, List.set_cons_succ]
                  refine wpAnyH_tk (i := 8) (d := 45) (v := (.pointer (some ⟨gb, go + k, none⟩))) rfl rfl (by kernel_rfl) (by kernel_rfl) (by kernel_rfl) (fun _ _ _ h => h) (.inl ⟨by rfl, by (intro wq hSw; (try dsimp only at hSw); go_simp; (try (first | rfl | omega)))⟩) hHeld ?_
                  simp only [Act.put, List.setIfInBounds_toArray, List.set_cons_zero, List.set_cons_succ]
                  refine wpAnyH_tk (i := 9) (d := 46) (v := (.int .i64 (y : Int))) rfl rfl (by kernel_rfl) (by kernel_rfl) (by kernel_rfl) (fun _ _ _ h => h) (.inl ⟨by rfl, by (intro wq hSw; (try dsimp only at hSw); go_simp; (try (first | rfl | omega)))⟩) hHeld ?_
                  simp only [Act.put, List.setIfInBounds_toArray, List.set_cons_zero, List.set_cons_succ]
                  refine wpAnyH_tk (i := 10) (d := 47) (v := (.bool true)) rfl rfl (by kernel_rfl) (by kernel_rfl) (by kernel_rfl) (fun _ _ _ h => h) (.inl ⟨by rfl, by (intro wq hSw; (try dsimp only at hSw); go_simp; (try (first | rfl | omega)))⟩) hHeld ?_
                  simp only [Act.put, List.setIfInBounds_toArray, List.set_cons_zero, List.set_cons_succ]
                  refine wpAnyH_tk (i := 11) (d := 48) (v := (.bool true)) rfl rfl (by kernel_rfl) (by kernel_rfl) (by kernel_rfl) (fun _ _ _ h => h) (.inl ⟨by rfl, by (intro wq hSw; (try dsimp only at hSw); go_simp; (try (first | rfl | omega)))⟩) hHeld ?_
                  simp only [Act.put, List.setIfInBounds_toArray, List.set_cons_zero, List.set_cons_succ]
                  refine wpAnyH_tk (i := 12) (d := 49) (v := (.int .i64 (s2 : Int))) rfl rfl (by kernel_rfl) (by kernel_rfl) (by kernel_rfl) (fun _ _ _ h => h) (.inl ⟨by rfl, by (intro wq hSw; (try dsimp only at hSw); go_simp; (try (first | rfl | omega)))⟩) hHeld ?_
                  simp only [Act.put, List.setIfInBounds_toArray, List.set_cons_zero, List.set_cons_succ]
                  refine wpAnyH_tk (i := 13) (d := 50) (v := (.int .i64 (b : Int))) rfl rfl (by kernel_rfl) (by kernel_rfl) (by kernel_rfl) (fun _ _ _ h => h) (.inl ⟨by rfl, by (intro wq hSw; (try dsimp only at hSw); go_simp; (try (first | rfl | omega)))⟩) hHeld ?_
                  simp only [Act.put, List.setIfInBounds_toArray, List.set_cons_zero, List.set_cons_succ]
                  refine wpAnyH_tk (i := 14) (d := 51) (v := (.int .i64 zq)) rfl rfl (by kernel_rfl) (by kernel_rfl) (by kernel_rfl) (fun _ _ _ h => h) (.inl ⟨by rfl, by (intro wq hSw; (try dsimp only at hSw); go_simp; (try (first | rfl | omega)))⟩) hHeld ?_
                  simp only [Act.put, List.setIfInBounds_toArray, List.set_cons_zero, List.set_cons_succ]
                  refine wpAnyH_tk (i := 15) (d := 52) (v := (.int .i64 zr)) rfl rfl (by kernel_rfl) (by kernel_rfl) (by kernel_rfl) (fun _ _ _ h => h) (.inl ⟨by rfl, by (intro wq hSw; (try dsimp only at hSw); go_simp; (try (first | rfl | omega)))⟩) hHeld ?_
                  simp only [Act.put, List.setIfInBounds_toArray, List.set_cons_zero, List.set_cons_succ]
                  refine wpAnyH_tk (i := 16) (d := 53) (v := (.bool false)) rfl rfl (by kernel_rfl) (by kernel_rfl) (by kernel_rfl) (fun _ _ _ h => h) (.inl ⟨by rfl, by (intro wq hSw; (try dsimp only at hSw); go_simp; (try (first | rfl | omega)))⟩) hHeld ?_
                  simp only [Act.put, List.setIfInBounds_toArray, List.set_cons_zero, List.set_cons_succ]
                  refine wpAnyH_tk (i := 17) (d := 54) (v := (.bool false)) rfl rfl (by kernel_rfl) (by kernel_rfl) (by kernel_rfl) (fun _ _ _ h => h) (.inl ⟨by rfl, by (intro wq hSw; (try dsimp only at hSw); go_simp; (try (first | rfl | omega)))⟩) hHeld ?_
                  simp only [Act.put, List.setIfInBounds_toArray, List.set_cons_zero, List.set_cons_succ]
                  refine wpAnyH_done (by kernel_rfl) ?_ _
                  clear hHeld hzq hzr eb2 eb
                  go_wp2
                  go_roundw
                  case rel => exact ⟨j + 1, s2, tl2, by omega, by go_num, rfl, HA2.out, HCL2.out, HJ4.out, by rw [← HSLN.out]; rw [← HSLN.out] at HOL2; exact HOL2.out, HBL2.out.trans ⟨rfl, rfl, rfl, Nat.le_refl _, fun _ _ => rfl⟩⟩
                  case measure => simp [intOf]; omega
              · have t1 : ((x : Int) == (y : Int)) = false := by rw [beq_eq_false_iff_ne]; omega
                have HJ4 : Hid (∀ j', j' < j + 1 → (es.getD j' (0, 0)).1 = y → s2.testBit (es.getD j' (0, 0)).2 = true) := HJ1.out s2 (fun _ h => h) (fun e => absurd e hxy)
                obtain ⟨sl, hsl⟩ : ∃ sl, sl = (tl ++ tl2).length + 1 := ⟨_, rfl⟩
                have HSLN : Hid (sl = (tl ++ tl2).length + 1) := hsl
                rw [← hsl]
                have kI5 : (k : Int) < (sl : Int) := by omega
                clear HJ1 hsl kI4 kI3 HJJ eo ew eb
                go_wp2
                refine wp_region_held_drew (S := fun w' => w'.cell? ⟨pb, 1, none⟩ = some (.slice (some ⟨qb, qo, none⟩) es.length pc) ∧ w'.cell? ⟨qb, qo + j * 2, none⟩ = some (.int .i64 (x : Int)) ∧ w'.cell? ⟨gb, go + k, none⟩ = some (.int .i64 (y : Int))) (by kernel_rfl) ⟨c1, p1, hgc⟩ (fun hHeld => ?_)
                refine wpAnyH_tk (i := 0) (d := 37) (v := (.pointer (some ⟨pb, 1, none⟩))) rfl rfl (by kernel_rfl) (by kernel_rfl) (by kernel_rfl) (fun _ _ _ h => h) (.inl ⟨by rfl, by (intro wq hSw; (try dsimp only at hSw); go_simp; (try (first | rfl | omega)))⟩) hHeld ?_
                simp only [Act.put, List.setIfInBounds_toArray, List.set_cons_zero, List.set_cons_succ]
                refine wpAnyH_tk (i := 1) (d := 38) (v := (.slice (some ⟨qb, qo, none⟩) es.length pc)) rfl rfl (by kernel_rfl) (by kernel_rfl) (by kernel_rfl) (fun _ _ _ h => h) (.inl ⟨by rfl, by (intro wq hSw; (try dsimp only at hSw); go_simp; (try (first | rfl | omega)))⟩) hHeld ?_
                simp only [Act.put, List.setIfInBounds_toArray, List.set_cons_zero, List.set_cons_succ]
                refine wpAnyH_tk (i := 2) (d := 39) (v := (.int .i64 (j : Int))) rfl rfl (by kernel_rfl) (by kernel_rfl) (by kernel_rfl) (fun _ _ _ h => h) (.inl ⟨by rfl, by (intro wq hSw; (try dsimp only at hSw); go_simp; (try (first | rfl | omega)))⟩) hHeld ?_
                simp only [Act.put, List.setIfInBounds_toArray, List.set_cons_zero, List.set_cons_succ]
                refine wpAnyH_tk (i := 3) (d := 40) (v := (.pointer (some ⟨qb, qo + j * 2, none⟩))) rfl rfl (by kernel_rfl) (by kernel_rfl) (by kernel_rfl) (fun _ _ _ h => h) (.inl ⟨by rfl, by (intro wq hSw; (try dsimp only at hSw); go_simp; (try (first | rfl | omega)))⟩) hHeld ?_
                simp only [Act.put, List.setIfInBounds_toArray, List.set_cons_zero, List.set_cons_succ]
                refine wpAnyH_tk (i := 4) (d := 41) (v := (.pointer (some ⟨qb, qo + j * 2, none⟩))) rfl rfl (by kernel_rfl) (by kernel_rfl) (by kernel_rfl) (fun _ _ _ h => h) (.inl ⟨by rfl, by (intro wq hSw; (try dsimp only at hSw); go_simp; (try (first | rfl | omega)))⟩) hHeld ?_
                simp only [Act.put, List.setIfInBounds_toArray, List.set_cons_zero, List.set_cons_succ]
                refine wpAnyH_tk (i := 5) (d := 42) (v := (.int .i64 (x : Int))) rfl rfl (by kernel_rfl) (by kernel_rfl) (by kernel_rfl) (fun _ _ _ h => h) (.inl ⟨by rfl, by (intro wq hSw; (try dsimp only at hSw); go_simp; (try (first | rfl | omega)))⟩) hHeld ?_
                simp only [Act.put, List.setIfInBounds_toArray, List.set_cons_zero, List.set_cons_succ]
                refine wpAnyH_tk (i := 6) (d := 43) (v := (.slice (some ⟨gb, go, none⟩) sl lc2)) rfl rfl (by kernel_rfl) (by kernel_rfl) (by kernel_rfl) (fun _ _ _ h => h) (.inl ⟨by rfl, by (intro wq hSw; (try dsimp only at hSw); go_simp; (try (first | rfl | omega)))⟩) hHeld ?_
                simp only [Act.put, List.setIfInBounds_toArray, List.set_cons_zero, List.set_cons_succ]
                refine wpAnyH_tk (i := 7) (d := 44) (v := (.int .i64 (k : Int))) rfl rfl (by kernel_rfl) (by kernel_rfl) (by kernel_rfl) (fun _ _ _ h => h) (.inl ⟨by rfl, by (intro wq hSw; (try dsimp only at hSw); go_simp; (try (first | rfl | omega)))⟩) hHeld ?_
                simp only [Act.put, List.setIfInBounds_toArray, List.set_cons_zero, List.set_cons_succ]
                refine wpAnyH_tk (i := 8) (d := 45) (v := (.pointer (some ⟨gb, go + k, none⟩))) rfl rfl (by kernel_rfl) (by kernel_rfl) (by kernel_rfl) (fun _ _ _ h => h) (.inl ⟨by rfl, by (intro wq hSw; (try dsimp only at hSw); go_simp; (try (first | rfl | omega)))⟩) hHeld ?_
                simp only [Act.put, List.setIfInBounds_toArray, List.set_cons_zero, List.set_cons_succ]
                refine wpAnyH_tk (i := 9) (d := 46) (v := (.int .i64 (y : Int))) rfl rfl (by kernel_rfl) (by kernel_rfl) (by kernel_rfl) (fun _ _ _ h => h) (.inl ⟨by rfl, by (intro wq hSw; (try dsimp only at hSw); go_simp; (try (first | rfl | omega)))⟩) hHeld ?_
                simp only [Act.put, List.setIfInBounds_toArray, List.set_cons_zero, List.set_cons_succ]
                refine wpAnyH_tk (i := 10) (d := 47) (v := (.bool false)) rfl rfl (by kernel_rfl) (by kernel_rfl) (by kernel_rfl) (fun _ _ _ h => h) (.inl ⟨by rfl, by (intro wq hSw; (try dsimp only at hSw); go_simp; (try (first | rfl | omega)))⟩) hHeld ?_
                simp only [Act.put, List.setIfInBounds_toArray, List.set_cons_zero, List.set_cons_succ]
                refine wpAnyH_tk (i := 11) (d := 48) (v := (.bool false)) rfl rfl (by kernel_rfl) (by kernel_rfl) (by kernel_rfl) (fun _ _ _ h => h) (.inl ⟨by rfl, by (intro wq hSw; (try dsimp only at hSw); go_simp; (try (first | rfl | omega)))⟩) hHeld ?_
                simp only [Act.put, List.setIfInBounds_toArray, List.set_cons_zero, List.set_cons_succ]
                refine wpAnyH_tk (i := 12) (d := 49) (v := undef) rfl rfl (by kernel_rfl) (by kernel_rfl) (by kernel_rfl) (fun _ _ _ h => h) (.inr ⟨by rfl, rfl⟩) hHeld ?_
                simp only [Act.put, List.setIfInBounds_toArray, List.set_cons_zero, List.set_cons_succ]
                refine wpAnyH_tk (i := 13) (d := 50) (v := undef) rfl rfl (by kernel_rfl) (by kernel_rfl) (by kernel_rfl) (fun _ _ _ h => h) (.inr ⟨by rfl, rfl⟩) hHeld ?_
                simp only [Act.put, List.setIfInBounds_toArray, List.set_cons_zero, List.set_cons_succ]
                refine wpAnyH_tk (i := 14) (d := 51) (v := undef) rfl rfl (by kernel_rfl) (by kernel_rfl) (by kernel_rfl) (fun _ _ _ h => h) (.inr ⟨by rfl, rfl⟩) hHeld ?_
                simp only [Act.put, List.setIfInBounds_toArray, List.set_cons_zero, List.set_cons_succ]
                refine wpAnyH_tk (i := 15) (d := 52) (v := undef) rfl rfl (by kernel_rfl) (by kernel_rfl) (by kernel_rfl) (fun _ _ _ h => h) (.inr ⟨by rfl, rfl⟩) hHeld ?_
                simp only [Act.put, List.setIfInBounds_toArray, List.set_cons_zero, List.set_cons_succ]
                refine wpAnyH_tk (i := 16) (d := 53) (v := undef) rfl rfl (by kernel_rfl) (by kernel_rfl) (by kernel_rfl) (fun _ _ _ h => h) (.inr ⟨by rfl, rfl⟩) hHeld ?_
                simp only [Act.put, List.setIfInBounds_toArray, List.set_cons_zero, List.set_cons_succ]
                refine wpAnyH_tk (i := 17) (d := 54) (v := (.bool false)) rfl rfl (by kernel_rfl) (by kernel_rfl) (by kernel_rfl) (fun _ _ _ h => h) (.inl ⟨by rfl, by (intro wq hSw; (try dsimp only at hSw); go_simp; (try (first | rfl | omega)))⟩) hHeld ?_
                simp only [Act.put, List.setIfInBounds_toArray, List.set_cons_zero, List.set_cons_succ]
                refine wpAnyH_done (by kernel_rfl) ?_ _
                clear hHeld
                go_wp2
                go_roundw
                case rel => exact ⟨j + 1, s2, tl2, by omega, by go_num, rfl, HA2.out, HCL2.out, HJ4.out, by rw [← HSLN.out]; rw [← HSLN.out] at HOL2; exact HOL2.out, HBL2.out.trans ⟨rfl, rfl, rfl, Nat.le_refl _, fun _ _ => rfl⟩⟩
                case measure => simp [intOf]; omega
            · have hje : j = es.length := by omega
              subst hje
              have HC4 : Hid (∀ m, m < k + 1 → ∀ b, ((i :: (tl ++ tl2)).getD m 0, b) ∈ es → s2.testBit b = true) := fun m hm b hb => by
                have e1 : (i :: (tl ++ tl2)).getD m 0 = (i :: tl).getD m 0 := by
                  rw [← List.cons_append]
                  simp only [List.getD_eq_getElem?_getD]
                  rw [List.getElem?_append_left (by simp; omega)]
                rw [e1] at hb
                by_cases hmk : m < k
                · exact HCL2.out m hmk b hb
                · have hme : m = k := by omega
                  subst hme
                  rw [← HY.out] at hb
                  obtain ⟨j', hj', he⟩ := List.getElem_of_mem hb
                  have e2 : es.getD j' (0, 0) = (y, b) := by simp [hj', he]
                  have := HJJ.out j' hj' (by rw [e2])
                  rw [e2] at this
                  exact this
              have hkt : k + 1 ≤ (tl ++ tl2).length + 1 := by rw [List.length_append]; omega
              have htn : tl.length ≤ n := htl
              clear hbW2 hbw2 hlj hj c0
              go_wp2
              go_roundw
              case rel => exact ⟨k + 1, s2, tl ++ tl2, hkt, by go_num, rfl, HA2.out, HC4.out, HOL2.out, HBL2.out⟩
              case measure => simp [intOf]; omega
        · have hke : k = tl.length + 1 := by omega
          have hse : s = upF n es i := HA.out.done HES.out fun x hx b hb => by
            obtain ⟨m, hm, he⟩ := List.getElem_of_mem hx
            have e2 : (i :: tl).getD m 0 = x := by simp only [List.getD_eq_getElem?_getD]; rw [List.getElem?_eq_getElem hm]; simp [he]
            exact HCL.out m (by rw [hke]; simpa using hm) b (by rw [e2]; exact hb)
          have HUX : Hid (upL (i + 1) (upF n es) = upL i (upF n es) ++ [((s : Nat) : Int)]) := by
            rw [hse]
            exact HU1.out i
          have hkI : ¬ (k : Int) < (tl.length : Int) + 1 := by omega
          have hkN : ¬ k < tl.length + 1 := by omega
          have HOQ : Hid (wq.ownsRow W1.heap.size 3 1 u3 i (ints (upL i (upF n es)))) := owns_below HO.out HBL.out (by have := HMS.out; omega)
          have HBQ : Hid (Below W1.heap.size W1 wq) := hbW
          have hszq : W1.heap.size ≤ wq.heap.size := hbW.size
          obtain ⟨o3, oc3, hu3⟩ := owns_form HOQ.out
          subst hu3
          clear hse hke hbW HA HCL HOL HBL
          go_wp2_with (first | (at_builtin; refine wpList_append_own _ rfl _ _ 27 rfl W1.heap.size 3 i3 (.int .i64 0) 1 8 Tryd.underlying27 hi3 hz30 hz31 hz32 rfl (by decide) _ _ _ rfl (HOQ.out.alloc _) ⟨wq.heap.size, 0, none⟩ 1 1 [.int .i64 (s : Int)] rfl rfl (one_new _ _ _) (one_int _) ?c3 ?c4 ?c5 ?_))
          case c3 => unfold maxLen; omega
          case c4 => omega
          case c5 => first | exact hszq | omega | (simp; omega)
          intro v2 w4 ho hg _
          have R1 : Hid (w4.ownsRow W1.heap.size 3 1 v2 (i + 1) (ints (upL (i + 1) (upF n es)))) := by
            show World.ownsRow _ _ _ _ _ _ _
            rw [HUX.out, ← ints_snoc]
            exact ho
          have R2 : Hid (Below W1.heap.size W1 w4) := (HBQ.out.alloc hszq _).grown hg (by simp; omega) (fun z hz => (HOQ.out.lt z hz).1)
          clear ho hg
          go_wp2
          go_roundw
          case rel => exact ⟨i + 1, by omega, by go_num, R1.out, R2.out⟩
          case measure => simp [intOf]; omega
    · have hie : n = i := by omega
      subst hie
      obtain ⟨-, -, hbw⟩ := HD.out wa HB.out
      have HOF : Hid (wa.ownsRow w.heap.size 3 1 u3 n (ints (upL n (upF n es)))) := HFIN.out _ _ HO.out
      have HBF : Hid (Below w.heap.size w wa) := hbw
      clear hbw hlt hi
      go_wp2
      go_ret
      exact ⟨_, rfl, HOF.out, HBF.out⟩

end Go.Proofs.YtcmemhdlendlkaaDoor
