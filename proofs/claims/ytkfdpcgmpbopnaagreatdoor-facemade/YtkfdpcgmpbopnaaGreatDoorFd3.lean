/- facetref.ShortOf: the sum, term by term. -/
import Derived.Test.YtkfdpcgmpbopnaaGreatDoorFd2
import Derived.Test.YtkfdpcgmpbopnaaGreatDoorFc11
namespace Go.Proofs.YtkfdpcgmpbopnaaGreatDoor
open Go.RowKit Lin
attribute [local go_sem ↓] Go.wp_at_zero Go.wp_at_succ

/-- Taken (1 - x) times. -/
def dlt (f : Nat → Int) (j : Nat) : Int := f j - if j = 0 then 0 else f (j - 1)

def dltN : Nat → (Nat → Int) → Nat → Int
  | 0, f => f
  | k + 1, f => dlt (dltN k f)

def one1 (c : Nat → Int) (i j : Nat) : Int := if j = i then c i else 0

/-- The sum so far. -/
def smD (c : Nat → Int) (d : Nat) : Nat → Nat → Int
  | 0, _ => 0
  | i + 1, j => smD c d i j + dltN (d - i) (one1 c i) j

theorem dltN_bd {f : Nat → Int} {B : Nat} (h : ∀ j, (f j).natAbs ≤ B) : ∀ k j, (dltN k f j).natAbs ≤ 2 ^ k * B
  | 0, j => by simpa [dltN] using h j
  | k + 1, j => by
    have h1 := dltN_bd h k j
    have h2 := dltN_bd h k (j - 1)
    have e : 2 ^ (k + 1) * B = 2 * (2 ^ k * B) := by rw [Nat.pow_succ, Nat.mul_comm (2 ^ k) 2, Nat.mul_assoc]
    rw [e]
    generalize 2 ^ k * B = q at *
    simp only [dltN, dlt]
    split <;> omega

theorem dtm_bd {c : Nat → Int} {d i : Nat} (hd : d ≤ 4) (hc : (c i).natAbs ≤ 5000) (k : Nat) (hk : k ≤ d) (j : Nat) : (dltN k (one1 c i) j).natAbs ≤ 80000 := by
  have h := dltN_bd (f := one1 c i) (B := 5000) (fun j => by unfold one1; split <;> simp [hc]) k j
  have h2 : 2 ^ k ≤ 2 ^ 4 := Nat.pow_le_pow_right (by decide) (by omega)
  have h3 : 2 ^ k * 5000 ≤ 2 ^ 4 * 5000 := Nat.mul_le_mul_right _ h2
  have h4 : (2 : Nat) ^ 4 * 5000 = 80000 := by decide
  omega

theorem smD_bd {c : Nat → Int} {d : Nat} (hd : d ≤ 4) (hc : ∀ i, i ≤ d → (c i).natAbs ≤ 5000) : ∀ i, i ≤ d + 1 → ∀ j, (smD c d i j).natAbs ≤ i * 80000
  | 0, _, j => by simp [smD]
  | i + 1, hi, j => by
    have h1 := smD_bd hd hc i (by omega) j
    have h2 := dtm_bd (c := c) (d := d) (i := i) hd (hc i (by omega)) (d - i) (by omega) j
    simp only [smD]
    omega

set_option maxRecDepth 100000 in
set_option maxHeartbeats 3200000 in
theorem shortOfR_any (B0 d : Nat) (cs : List Int) (v : Value) (w : World) (hv : Sl B0 3 w v (ints cs)) (hl : cs.length = d + 2) (hd : d ≤ 4) (hc : ∀ z ∈ cs, z.natAbs ≤ 5000) :
    Calls Tryz.prog 12 #[v] w fun e w' => e = .returned (.slice (some ⟨w.heap.size, 0, none⟩) (d + 1) (d + 1)) ∧ SmI w w.heap.size (d + 1) (fun j => smD (fun k => cs.getD k 0) d (d + 1) j) w' := by
  have hmk : ∀ w : World, (Instr.makeSlice 22 (.int .i64 ((d : Int) + 1)) (.int .i64 ((d : Int) + 1))).run Tryz.prog w = .ok (.slice (some ⟨w.heap.size, 0, none⟩) (d + 1) (d + 1)) (w.alloc (.cells (madeCells #[.int .i64 0] (d + 1)) 3)) := fun w => by
    have h := run_make_row' (P := Tryz.prog) 22 3 (.int .i64 0) 8 Tryz.underlying22 (by kernel_rfl) rfl .i64 .i64 (d + 1) (by omega) (by omega) w
    rw [show ((d + 1 : Nat) : Int) = (d : Int) + 1 by omega] at h
    exact h
  have HMK : Hid (∀ w : World, (Instr.makeSlice 22 (.int .i64 ((d : Int) + 1)) (.int .i64 ((d : Int) + 1))).run Tryz.prog w = .ok (.slice (some ⟨w.heap.size, 0, none⟩) (d + 1) (d + 1)) (w.alloc (.cells (madeCells #[.int .i64 0] (d + 1)) 3))) := hmk
  have HNEW : Hid (∀ X : World, SmI X X.heap.size (d + 1) (fun _ => 0) (X.alloc (.cells (madeCells #[.int .i64 0] (d + 1)) 3))) := fun X => by
    refine ⟨⟨_, alloc_at _ _, by simp [madeCells], fun i hi => ?_⟩, (Below.refl _ _).alloc (Nat.le_refl _) _⟩
    rw [← Array.getElem?_toList, toList_madeCells_one]
    simp [hi]
  obtain ⟨ao, cap0, hvv, hlc, hcm0⟩ := sl_open hv
  rw [hl] at hvv hlc
  subst hvv
  have HV : Hid (∀ X k, Below w.heap.size w X → k ≤ d → ∃ b o, ao = some ⟨b, o, none⟩ ∧ X.cell? ⟨b, o + k, none⟩ = some (.int .i64 (cs.getD k 0))) := fun X k hb hk => by
    obtain ⟨b, o, cp, hs, _, hcc⟩ := sl_cell ((hv.any (Nat.le_refl w.heap.size)).below hb (Nat.le_refl _)) (k := k) (by omega)
    simp only [Value.slice.injEq] at hs
    exact ⟨b, o, hs.1, hcc⟩
  obtain ⟨c, hcd⟩ : ∃ c : Nat → Int, c = fun k => cs.getD k 0 := ⟨_, rfl⟩
  have HCV : Hid (∀ k, cs.getD k 0 = c k) := fun k => by rw [hcd]
  have hcb : ∀ i, i ≤ d → (c i).natAbs ≤ 5000 := fun i hi => by rw [hcd]; exact hc _ (getD_mem (by omega))
  have HTB : Hid (∀ i k j, i ≤ d → k ≤ d → (dltN k (one1 c i) j).natAbs ≤ 80000) := fun i k j hi hk => dtm_bd hd (hcb i hi) k hk j
  have HSB : Hid (∀ i j, i ≤ d + 1 → (smD c d i j).natAbs ≤ 400000) := fun i j hi => by
    have := smD_bd hd hcb i hi j
    omega
  rw [← hcd]
  obtain ⟨G, hG⟩ : ∃ G, G = w.heap.size := ⟨_, rfl⟩
  have HG : Hid (G = w.heap.size) := hG
  have HI0 : Hid (SmI w G (d + 1) (fun j => smD c d 0 j) (w.alloc (.cells (madeCells #[.int .i64 0] (d + 1)) 3))) := by rw [hG]; exact HNEW.out w
  have hcb2 : Hid (∀ i, i ≤ d → (c i).natAbs ≤ 5000) := hcb
  clear hv hc hcd hl hcb
  go_enter Tryz.func12, Tryz.ntmps12
  go_wp2
  rw [← hG]
  clear hG hmk
  go_loopw [5, 6, 7, 8, 9] (fun iv _ _ _ _ wr => ∃ i : Nat, i ≤ d + 1 ∧ iv = .int .i64 (i : Int) ∧ SmI w G (d + 1) (fun j => smD c d i j) wr) (fun iv _ _ _ _ _ => d + 1 - (intOf iv).toNat)
  case atStart => exact ⟨0, Nat.zero_le _, rfl, HI0.out⟩
  case round =>
    obtain ⟨i, hi, rfl, hI⟩ := hrel
    have HI : Hid (SmI w G (d + 1) (fun j => smD c d i j) wr) := hI
    clear hI HI0
    by_cases hlt : i ≤ d
    · have hb0 : Below w.heap.size w wr := by rw [← HG.out]; exact HI.out.bel
      obtain ⟨wa, rfl⟩ : ∃ wa, wa = wr := ⟨wr, rfl⟩
      obtain ⟨W1, hW1⟩ : ∃ W1, W1 = wa.alloc (.cells (madeCells #[.int .i64 0] (d + 1)) 3) := ⟨_, rfl⟩
      obtain ⟨H, hH⟩ : ∃ H, H = wa.heap.size := ⟨_, rfl⟩
      have HP0 : Hid (SmI wa H (d + 1) (fun _ => 0) W1) := by rw [hW1, hH]; exact HNEW.out wa
      have HGH : Hid (G < H) := by rw [hH]; exact HI.out.row.lt
      have HHE : Hid (H = wa.heap.size) := hH
      have hbw1 : Below w.heap.size w W1 := hb0.trans (by have h := HP0.out.bel; rw [HHE.out] at h; exact h.mono hb0.size)
      obtain ⟨b, o, hao, hcc⟩ := HV.out W1 i hbw1 hlt
      rw [HCV.out i] at hcc
      have hliI : (i : Int) ≤ (d : Int) := by omega
      have hi1 : (i : Int) < (d : Int) + 1 := by omega
      have cf := HP0.out.row.frozen i
      have HP1 : Hid (SmI wa H (d + 1) (dltN 0 (one1 c i)) (W1.setCell ⟨H, i, none⟩ (.int .i64 (c i)))) := HP0.out.put i (c i) (fun j => by
        show one1 c i j = _
        unfold one1
        rfl)
      have HTI : Hid (∀ k j, k ≤ d → (dltN k (one1 c i) j).natAbs ≤ 80000) := fun k j hk => HTB.out i k j hlt hk
      have HS1 : Hid (∀ j, smD c d (i + 1) j = smD c d i j + dltN (d - i) (one1 c i) j) := fun j => rfl
      have hcp := HP0.out.row.cell (i := i) (by omega)
      have HSI : Hid (∀ j, (smD c d i j).natAbs ≤ 400000) := fun j => HSB.out i j hi
      have hmk := HMK.out
      clear HV HTB HSB HP0 hb0 hbw1
      go_upto_region 7 with fail
      rw [← hW1, ← hH]
      clear hW1 hH hmk
      subst hao
      go_wp2
      clear hcc cf hcp
      go_loopw [7, 8] (fun kv _ wq => ∃ k : Nat, k ≤ d - i ∧ kv = .int .i64 (k : Int) ∧ SmI wa H (d + 1) (dltN k (one1 c i)) wq) (fun kv _ _ => d - i - (intOf kv).toNat)
      case atStart => exact ⟨0, Nat.zero_le _, rfl, HP1.out⟩
      case round =>
        obtain ⟨k, hk, rfl, hP⟩ := hrel
        have HP : Hid (SmI wa H (d + 1) (dltN k (one1 c i)) wr) := hP
        clear hP HP1
        by_cases hkd : k < d - i
        · have hkI : (k : Int) < (d : Int) - (i : Int) := by omega
          have HBK : Hid (∀ j, (dltN k (one1 c i) j).natAbs ≤ 80000) := fun j => HTI.out k j (by omega)
          have HNX : Hid (∀ X, SmI wa H (d + 1) (fun j => if 0 < j then dlt (dltN k (one1 c i)) j else dltN k (one1 c i) j) X → SmI wa H (d + 1) (dltN (k + 1) (one1 c i)) X) := fun X hX => ⟨hX.row.congr fun j hj => by
            simp only [dltN]
            by_cases e : j = 0
            · subst e; simp [dlt]
            · rw [if_pos (by omega)], hX.bel⟩
          have HP2 : Hid (SmI wa H (d + 1) (fun j => if d < j then dlt (dltN k (one1 c i)) j else dltN k (one1 c i) j) wr) := ⟨HP.out.row.congr fun j hj => by rw [if_neg (by omega)], HP.out.bel⟩
          clear HP HTI
          obtain ⟨g, hg⟩ : ∃ g, g = dltN k (one1 c i) := ⟨_, rfl⟩
          rw [← hg] at HBK HNX HP2
          clear hg
          go_wp2
          go_loopw [8] (fun jv wq => ∃ p : Nat, p ≤ d ∧ jv = .int .i64 (p : Int) ∧ SmI wa H (d + 1) (fun j => if p < j then dlt g j else g j) wq) (fun jv _ => (intOf jv).toNat)
          case atStart => exact ⟨d, Nat.le_refl _, rfl, HP2.out⟩
          case round =>
            obtain ⟨p, hp, rfl, hQ⟩ := hrel
            have HQ : Hid (SmI wa H (d + 1) (fun j => if p < j then dlt g j else g j) wr) := hQ
            clear hQ HP2
            rcases p with _ | p
            · have HN := HNX.out wr HQ.out
              clear HQ HNX HBK
              go_wp2
              exact ⟨⟨k + 1, by omega, by go_num, HN⟩, by simp [intOf]; omega⟩
            · have ca := HQ.out.row.cell (i := p + 1) (by omega)
              have cb := HQ.out.row.cell (i := p) (by omega)
              have cf := HQ.out.row.frozen (p + 1)
              rw [if_neg (by omega)] at ca
              rw [if_neg (by omega)] at cb
              have b1 := HBK.out (p + 1)
              have b0 := HBK.out p
              obtain ⟨x1, hx1⟩ : ∃ x, x = g (p + 1) := ⟨_, rfl⟩
              obtain ⟨x0, hx0⟩ : ∃ x, x = g p := ⟨_, rfl⟩
              have HZ : Hid (SmI wa H (d + 1) (fun j => if p < j then dlt g j else g j) (wr.setCell ⟨H, p + 1, none⟩ (.int .i64 (x1 - x0))).drew) := by
                have h := HQ.out.put (c2 := fun j => if p < j then dlt g j else g j) (p + 1) (x1 - x0) (fun j => by
                  by_cases e : j = p + 1
                  · rw [if_pos (by omega), if_pos e, e, hx1, hx0]
                    simp [dlt]
                  · rw [if_neg e]
                    by_cases e2 : p < j
                    · rw [if_pos e2, if_pos (by omega)]
                    · rw [if_neg e2, if_neg (by omega)])
                exact ⟨h.row.drew, h.bel.drew⟩
              rw [← hx1] at ca b1
              rw [← hx0] at cb b0
              have cad : wr.drew.cell? ⟨H, p + 1, none⟩ = some (.int .i64 x1) := ca
              have cbd : wr.drew.cell? ⟨H, p, none⟩ = some (.int .i64 x0) := cb
              have cfd : wr.drew.frozen? ⟨H, p + 1, none⟩ = false := cf
              have hw : IntKind.wrap .i64 (x1 - x0) = x1 - x0 := by rw [IntKind.wrap_i64]; omega
              have hwp : IntKind.wrap .i64 (p : Int) = (p : Int) := by rw [IntKind.wrap_i64]; omega
              have hpI : ((p + 1 : Nat) : Int) < (d : Int) + 1 := by omega
              clear hx1 hx0 HQ HNX HBK
              go_upto_region 14 with fail
              refine wp_region_held_drew (S := fun _ => True) (by kernel_rfl) trivial (fun hHeld => ?_)
              refine wpAnyH_tk (i := 0) (d := 43) (v := (.slice (some ⟨H, 0, none⟩) (d + 1) (d + 1))) rfl rfl (by kernel_rfl) (by kernel_rfl) (by kernel_rfl) (fun _ _ _ h => h) (.inl ⟨by rfl, by (intro wq hSw; (try dsimp only at hSw); go_simp; (try (first | rfl | omega)))⟩) hHeld ?_
              simp only [Act.put, List.setIfInBounds_toArray, List.set_cons_zero, List.set_cons_succ]
              refine wpAnyH_tk (i := 1) (d := 44) (v := (.int .i64 ((p + 1 : Nat) : Int))) rfl rfl (by kernel_rfl) (by kernel_rfl) (by kernel_rfl) (fun _ _ _ h => h) (.inl ⟨by rfl, by (intro wq hSw; (try dsimp only at hSw); go_simp; (try (first | rfl | omega)))⟩) hHeld ?_
              simp only [Act.put, List.setIfInBounds_toArray, List.set_cons_zero, List.set_cons_succ]
              refine wpAnyH_tk (i := 2) (d := 45) (v := (.slice (some ⟨H, 0, none⟩) (d + 1) (d + 1))) rfl rfl (by kernel_rfl) (by kernel_rfl) (by kernel_rfl) (fun _ _ _ h => h) (.inl ⟨by rfl, by (intro wq hSw; (try dsimp only at hSw); go_simp; (try (first | rfl | omega)))⟩) hHeld ?_
              simp only [Act.put, List.setIfInBounds_toArray, List.set_cons_zero, List.set_cons_succ]
              refine wpAnyH_tk (i := 3) (d := 46) (v := (.int .i64 ((p + 1 : Nat) : Int))) rfl rfl (by kernel_rfl) (by kernel_rfl) (by kernel_rfl) (fun _ _ _ h => h) (.inl ⟨by rfl, by (intro wq hSw; (try dsimp only at hSw); go_simp; (try (first | rfl | omega)))⟩) hHeld ?_
              simp only [Act.put, List.setIfInBounds_toArray, List.set_cons_zero, List.set_cons_succ]
              refine wpAnyH_tk (i := 4) (d := 47) (v := (.pointer (some ⟨H, p + 1, none⟩))) rfl rfl (by kernel_rfl) (by kernel_rfl) (by kernel_rfl) (fun _ _ _ h => h) (.inl ⟨by rfl, by (intro wq hSw; (try dsimp only at hSw); go_simp; (try (first | rfl | omega)))⟩) hHeld ?_
              simp only [Act.put, List.setIfInBounds_toArray, List.set_cons_zero, List.set_cons_succ]
              refine wpAnyH_tk (i := 6) (d := 49) (v := (.slice (some ⟨H, 0, none⟩) (d + 1) (d + 1))) rfl rfl (by kernel_rfl) (by kernel_rfl) (by kernel_rfl) (fun _ _ _ h => h) (.inl ⟨by rfl, by (intro wq hSw; (try dsimp only at hSw); go_simp; (try (first | rfl | omega)))⟩) hHeld ?_
              simp only [Act.put, List.setIfInBounds_toArray, List.set_cons_zero, List.set_cons_succ]
              refine wpAnyH_tk (i := 7) (d := 50) (v := (.int .i64 ((p + 1 : Nat) : Int))) rfl rfl (by kernel_rfl) (by kernel_rfl) (by kernel_rfl) (fun _ _ _ h => h) (.inl ⟨by rfl, by (intro wq hSw; (try dsimp only at hSw); go_simp; (try (first | rfl | omega)))⟩) hHeld ?_
              simp only [Act.put, List.setIfInBounds_toArray, List.set_cons_zero, List.set_cons_succ]
              refine wpAnyH_tk (i := 8) (d := 51) (v := (.int .i64 (p : Int))) rfl rfl (by kernel_rfl) (by kernel_rfl) (by kernel_rfl) (fun _ _ _ h => h) (.inl ⟨by rfl, by (intro wq hSw; (try dsimp only at hSw); go_simp; (try (first | rfl | omega)))⟩) hHeld ?_
              simp only [Act.put, List.setIfInBounds_toArray, List.set_cons_zero, List.set_cons_succ]
              refine wpAnyH_tk (i := 9) (d := 52) (v := (.pointer (some ⟨H, p, none⟩))) rfl rfl (by kernel_rfl) (by kernel_rfl) (by kernel_rfl) (fun _ _ _ h => h) (.inl ⟨by rfl, by (intro wq hSw; (try dsimp only at hSw); go_simp; (try (first | rfl | omega)))⟩) hHeld ?_
              simp only [Act.put, List.setIfInBounds_toArray, List.set_cons_zero, List.set_cons_succ]
              refine wpAnyH_ready (rs := [5, 10]) (by kernel_rfl) (by simp) ?_
              refine ready_tk (i := 5) rfl (by rfl) (fun K hK => ?_) (ready_tk (i := 10) rfl (by rfl) (fun K hK => ?_) AllReadyH.nil)
              · go_simp
                refine hK.out _ _ trivial (fun hHeld => ?_)
                clear hK K
                try simp only [Act.put, List.setIfInBounds_toArray, List.set_cons_zero, List.set_cons_succ]
                refine wpAnyH_ready (rs := [10]) (by kernel_rfl) (by simp) ?_
                refine ready_tk (i := 10) rfl (by rfl) (fun K hK => ?_) AllReadyH.nil
                go_simp
                refine hK.out _ _ trivial (fun hHeld => ?_)
                clear hK K
                try simp only [Act.put, List.setIfInBounds_toArray, List.set_cons_zero, List.set_cons_succ]
                refine wpAnyH_tk (i := 11) (d := 54) (v := (.int .i64 (x1 - x0))) rfl rfl (by kernel_rfl) (by kernel_rfl) (by kernel_rfl) (fun _ _ _ h => h) (.inl ⟨by rfl, by (intro wq hSw; (try dsimp only at hSw); go_simp; (try (first | rfl | omega)))⟩) hHeld ?_
                simp only [Act.put, List.setIfInBounds_toArray, List.set_cons_zero, List.set_cons_succ]
                refine wpAnyH_tk (i := 12) (d := 55) (v := (.pointer (some ⟨H, p + 1, none⟩))) rfl rfl (by kernel_rfl) (by kernel_rfl) (by kernel_rfl) (fun _ _ _ h => h) (.inl ⟨by rfl, by (intro wq hSw; (try dsimp only at hSw); go_simp; (try (first | rfl | omega)))⟩) hHeld ?_
                simp only [Act.put, List.setIfInBounds_toArray, List.set_cons_zero, List.set_cons_succ]
                refine wpAnyH_ready (rs := [13]) (by kernel_rfl) (by simp) ?_
                refine ready_tk (i := 13) rfl (by rfl) (fun K hK => ?_) AllReadyH.nil
                go_simp
                refine hK.out _ _ trivial (fun hHeld => ?_)
                clear hK K
                refine wpAnyH_done (by kernel_rfl) ?_ _
                clear hHeld
                go_wp2
                go_roundw
                case rel => exact ⟨p, by omega, by go_num, HZ.out⟩
                case measure => simp [intOf]
              · go_simp
                refine hK.out _ _ trivial (fun hHeld => ?_)
                clear hK K
                try simp only [Act.put, List.setIfInBounds_toArray, List.set_cons_zero, List.set_cons_succ]
                refine wpAnyH_ready (rs := [5]) (by kernel_rfl) (by simp) ?_
                refine ready_tk (i := 5) rfl (by rfl) (fun K hK => ?_) AllReadyH.nil
                go_simp
                refine hK.out _ _ trivial (fun hHeld => ?_)
                clear hK K
                try simp only [Act.put, List.setIfInBounds_toArray, List.set_cons_zero, List.set_cons_succ]
                refine wpAnyH_tk (i := 11) (d := 54) (v := (.int .i64 (x1 - x0))) rfl rfl (by kernel_rfl) (by kernel_rfl) (by kernel_rfl) (fun _ _ _ h => h) (.inl ⟨by rfl, by (intro wq hSw; (try dsimp only at hSw); go_simp; (try (first | rfl | omega)))⟩) hHeld ?_
                simp only [Act.put, List.setIfInBounds_toArray, List.set_cons_zero, List.set_cons_succ]
                refine wpAnyH_tk (i := 12) (d := 55) (v := (.pointer (some ⟨H, p + 1, none⟩))) rfl rfl (by kernel_rfl) (by kernel_rfl) (by kernel_rfl) (fun _ _ _ h => h) (.inl ⟨by rfl, by (intro wq hSw; (try dsimp only at hSw); go_simp; (try (first | rfl | omega)))⟩) hHeld ?_
                simp only [Act.put, List.setIfInBounds_toArray, List.set_cons_zero, List.set_cons_succ]
                refine wpAnyH_ready (rs := [13]) (by kernel_rfl) (by simp) ?_
                refine ready_tk (i := 13) rfl (by rfl) (fun K hK => ?_) AllReadyH.nil
                go_simp
                refine hK.out _ _ trivial (fun hHeld => ?_)
                clear hK K
                refine wpAnyH_done (by kernel_rfl) ?_ _
                clear hHeld
                go_wp2
                go_roundw
                case rel => exact ⟨p, by omega, by go_num, HZ.out⟩
                case measure => simp [intOf]
        · have hke : k = d - i := by omega
          subst hke
          have HQ0 : Hid (SmI w G (d + 1) (fun j => if j < 0 then smD c d (i + 1) j else smD c d i j) wr ∧ wr.rowIs H 3 (d + 1) (fun j => .int .i64 (dltN (d - i) (one1 c i) j))) := by
            refine ⟨⟨?_, ?_⟩, HP.out.row⟩
            · have h := HI.out.row.of_block (HP.out.bel.block G HGH.out)
              exact h.congr fun j hj => by rw [if_neg (by omega)]
            · exact HI.out.bel.trans (HP.out.bel.mono (by have := HGH.out; omega))
          have HTD : Hid (∀ j, (dltN (d - i) (one1 c i) j).natAbs ≤ 80000) := fun j => HTI.out (d - i) j (by omega)
          obtain ⟨g, hg⟩ : ∃ g, g = dltN (d - i) (one1 c i) := ⟨_, rfl⟩
          rw [← hg] at HQ0 HTD HS1
          clear hg HP HTI
          go_wp2
          go_loopw [9] (fun qv wq => ∃ q : Nat, q ≤ d + 1 ∧ qv = .int .i64 (q : Int) ∧ SmI w G (d + 1) (fun j => if j < q then smD c d (i + 1) j else smD c d i j) wq ∧ wq.rowIs H 3 (d + 1) (fun j => .int .i64 (g j))) (fun qv _ => d + 1 - (intOf qv).toNat)
          case atStart => exact ⟨0, Nat.zero_le _, rfl, HQ0.out.1, HQ0.out.2⟩
          case round =>
            obtain ⟨q, hq, rfl, hQ, hR⟩ := hrel
            have HQ : Hid (SmI w G (d + 1) (fun j => if j < q then smD c d (i + 1) j else smD c d i j) wr) := hQ
            have HR : Hid (wr.rowIs H 3 (d + 1) (fun j => .int .i64 (g j))) := hR
            clear hQ hR HQ0
            by_cases hqd : q ≤ d
            · have ca := HQ.out.row.cell (i := q) (by omega)
              have cb := HR.out.cell (i := q) (by omega)
              have cf := HQ.out.row.frozen q
              rw [if_neg (by omega)] at ca
              have b1 := HSI.out q
              have b0 := HTD.out q
              obtain ⟨y1, hy1⟩ : ∃ x, x = smD c d i q := ⟨_, rfl⟩
              obtain ⟨y0, hy0⟩ : ∃ x, x = g q := ⟨_, rfl⟩
              have HZ : Hid (SmI w G (d + 1) (fun j => if j < q + 1 then smD c d (i + 1) j else smD c d i j) (wr.setCell ⟨G, q, none⟩ (.int .i64 (y1 + y0))).drew ∧ (wr.setCell ⟨G, q, none⟩ (.int .i64 (y1 + y0))).drew.rowIs H 3 (d + 1) (fun j => .int .i64 (g j))) := by
                have h := HQ.out.put (c2 := fun j => if j < q + 1 then smD c d (i + 1) j else smD c d i j) q (y1 + y0) (fun j => by
                  by_cases e : j = q
                  · rw [if_pos (by omega), if_pos e, e, HS1.out, hy1, hy0]
                  · rw [if_neg e]
                    by_cases e2 : j < q
                    · rw [if_pos e2, if_pos (by omega)]
                    · rw [if_neg e2, if_neg (by omega)])
                exact ⟨⟨h.row.drew, h.bel.drew⟩, (HR.out.setOther (a := ⟨G, q, none⟩) (by have := HGH.out; show H ≠ G; omega) _).drew⟩
              rw [← hy1] at ca b1
              rw [← hy0] at cb b0
              have cad : wr.drew.cell? ⟨G, q, none⟩ = some (.int .i64 y1) := ca
              have cbd : wr.drew.cell? ⟨H, q, none⟩ = some (.int .i64 y0) := cb
              have cfd : wr.drew.frozen? ⟨G, q, none⟩ = false := cf
              have hw : IntKind.wrap .i64 (y1 + y0) = y1 + y0 := by rw [IntKind.wrap_i64]; omega
              have hqI : (q : Int) ≤ (d : Int) := by omega
              have hqI2 : (q : Int) < (d : Int) + 1 := by omega
              clear hy1 hy0 HQ HR HTD HSI HS1
              go_upto_region 18 with fail
              refine wp_region_held_drew (S := fun _ => True) (by kernel_rfl) trivial (fun hHeld => ?_)
              refine wpAnyH_tk (i := 0) (d := 61) (v := (.slice (some ⟨G, 0, none⟩) (d + 1) (d + 1))) rfl rfl (by kernel_rfl) (by kernel_rfl) (by kernel_rfl) (fun _ _ _ h => h) (.inl ⟨by rfl, by (intro wq hSw; (try dsimp only at hSw); go_simp; (try (first | rfl | omega)))⟩) hHeld ?_
              simp only [Act.put, List.setIfInBounds_toArray, List.set_cons_zero, List.set_cons_succ]
              refine wpAnyH_tk (i := 1) (d := 62) (v := (.int .i64 (q : Int))) rfl rfl (by kernel_rfl) (by kernel_rfl) (by kernel_rfl) (fun _ _ _ h => h) (.inl ⟨by rfl, by (intro wq hSw; (try dsimp only at hSw); go_simp; (try (first | rfl | omega)))⟩) hHeld ?_
              simp only [Act.put, List.setIfInBounds_toArray, List.set_cons_zero, List.set_cons_succ]
              refine wpAnyH_tk (i := 2) (d := 63) (v := (.slice (some ⟨G, 0, none⟩) (d + 1) (d + 1))) rfl rfl (by kernel_rfl) (by kernel_rfl) (by kernel_rfl) (fun _ _ _ h => h) (.inl ⟨by rfl, by (intro wq hSw; (try dsimp only at hSw); go_simp; (try (first | rfl | omega)))⟩) hHeld ?_
              simp only [Act.put, List.setIfInBounds_toArray, List.set_cons_zero, List.set_cons_succ]
              refine wpAnyH_tk (i := 3) (d := 64) (v := (.int .i64 (q : Int))) rfl rfl (by kernel_rfl) (by kernel_rfl) (by kernel_rfl) (fun _ _ _ h => h) (.inl ⟨by rfl, by (intro wq hSw; (try dsimp only at hSw); go_simp; (try (first | rfl | omega)))⟩) hHeld ?_
              simp only [Act.put, List.setIfInBounds_toArray, List.set_cons_zero, List.set_cons_succ]
              refine wpAnyH_tk (i := 4) (d := 65) (v := (.pointer (some ⟨G, q, none⟩))) rfl rfl (by kernel_rfl) (by kernel_rfl) (by kernel_rfl) (fun _ _ _ h => h) (.inl ⟨by rfl, by (intro wq hSw; (try dsimp only at hSw); go_simp; (try (first | rfl | omega)))⟩) hHeld ?_
              simp only [Act.put, List.setIfInBounds_toArray, List.set_cons_zero, List.set_cons_succ]
              refine wpAnyH_tk (i := 6) (d := 67) (v := (.slice (some ⟨H, 0, none⟩) (d + 1) (d + 1))) rfl rfl (by kernel_rfl) (by kernel_rfl) (by kernel_rfl) (fun _ _ _ h => h) (.inl ⟨by rfl, by (intro wq hSw; (try dsimp only at hSw); go_simp; (try (first | rfl | omega)))⟩) hHeld ?_
              simp only [Act.put, List.setIfInBounds_toArray, List.set_cons_zero, List.set_cons_succ]
              refine wpAnyH_tk (i := 7) (d := 68) (v := (.int .i64 (q : Int))) rfl rfl (by kernel_rfl) (by kernel_rfl) (by kernel_rfl) (fun _ _ _ h => h) (.inl ⟨by rfl, by (intro wq hSw; (try dsimp only at hSw); go_simp; (try (first | rfl | omega)))⟩) hHeld ?_
              simp only [Act.put, List.setIfInBounds_toArray, List.set_cons_zero, List.set_cons_succ]
              refine wpAnyH_tk (i := 8) (d := 69) (v := (.pointer (some ⟨H, q, none⟩))) rfl rfl (by kernel_rfl) (by kernel_rfl) (by kernel_rfl) (fun _ _ _ h => h) (.inl ⟨by rfl, by (intro wq hSw; (try dsimp only at hSw); go_simp; (try (first | rfl | omega)))⟩) hHeld ?_
              simp only [Act.put, List.setIfInBounds_toArray, List.set_cons_zero, List.set_cons_succ]
              refine wpAnyH_ready (rs := [5, 9]) (by kernel_rfl) (by simp) ?_
              refine ready_tk (i := 5) rfl (by rfl) (fun K hK => ?_) (ready_tk (i := 9) rfl (by rfl) (fun K hK => ?_) AllReadyH.nil)
              · go_simp
                refine hK.out _ _ trivial (fun hHeld => ?_)
                clear hK K
                try simp only [Act.put, List.setIfInBounds_toArray, List.set_cons_zero, List.set_cons_succ]
                refine wpAnyH_ready (rs := [9]) (by kernel_rfl) (by simp) ?_
                refine ready_tk (i := 9) rfl (by rfl) (fun K hK => ?_) AllReadyH.nil
                go_simp
                refine hK.out _ _ trivial (fun hHeld => ?_)
                clear hK K
                try simp only [Act.put, List.setIfInBounds_toArray, List.set_cons_zero, List.set_cons_succ]
                refine wpAnyH_tk (i := 10) (d := 71) (v := (.int .i64 (y1 + y0))) rfl rfl (by kernel_rfl) (by kernel_rfl) (by kernel_rfl) (fun _ _ _ h => h) (.inl ⟨by rfl, by (intro wq hSw; (try dsimp only at hSw); go_simp; (try (first | rfl | omega)))⟩) hHeld ?_
                simp only [Act.put, List.setIfInBounds_toArray, List.set_cons_zero, List.set_cons_succ]
                refine wpAnyH_tk (i := 11) (d := 72) (v := (.pointer (some ⟨G, q, none⟩))) rfl rfl (by kernel_rfl) (by kernel_rfl) (by kernel_rfl) (fun _ _ _ h => h) (.inl ⟨by rfl, by (intro wq hSw; (try dsimp only at hSw); go_simp; (try (first | rfl | omega)))⟩) hHeld ?_
                simp only [Act.put, List.setIfInBounds_toArray, List.set_cons_zero, List.set_cons_succ]
                refine wpAnyH_ready (rs := [12]) (by kernel_rfl) (by simp) ?_
                refine ready_tk (i := 12) rfl (by rfl) (fun K hK => ?_) AllReadyH.nil
                go_simp
                refine hK.out _ _ trivial (fun hHeld => ?_)
                clear hK K
                refine wpAnyH_done (by kernel_rfl) ?_ _
                clear hHeld
                go_wp2
                go_roundw
                case rel => exact ⟨q + 1, by omega, by go_num, HZ.out.1, HZ.out.2⟩
                case measure => simp [intOf]; omega
              · go_simp
                refine hK.out _ _ trivial (fun hHeld => ?_)
                clear hK K
                try simp only [Act.put, List.setIfInBounds_toArray, List.set_cons_zero, List.set_cons_succ]
                refine wpAnyH_ready (rs := [5]) (by kernel_rfl) (by simp) ?_
                refine ready_tk (i := 5) rfl (by rfl) (fun K hK => ?_) AllReadyH.nil
                go_simp
                refine hK.out _ _ trivial (fun hHeld => ?_)
                clear hK K
                try simp only [Act.put, List.setIfInBounds_toArray, List.set_cons_zero, List.set_cons_succ]
                refine wpAnyH_tk (i := 10) (d := 71) (v := (.int .i64 (y1 + y0))) rfl rfl (by kernel_rfl) (by kernel_rfl) (by kernel_rfl) (fun _ _ _ h => h) (.inl ⟨by rfl, by (intro wq hSw; (try dsimp only at hSw); go_simp; (try (first | rfl | omega)))⟩) hHeld ?_
                simp only [Act.put, List.setIfInBounds_toArray, List.set_cons_zero, List.set_cons_succ]
                refine wpAnyH_tk (i := 11) (d := 72) (v := (.pointer (some ⟨G, q, none⟩))) rfl rfl (by kernel_rfl) (by kernel_rfl) (by kernel_rfl) (fun _ _ _ h => h) (.inl ⟨by rfl, by (intro wq hSw; (try dsimp only at hSw); go_simp; (try (first | rfl | omega)))⟩) hHeld ?_
                simp only [Act.put, List.setIfInBounds_toArray, List.set_cons_zero, List.set_cons_succ]
                refine wpAnyH_ready (rs := [12]) (by kernel_rfl) (by simp) ?_
                refine ready_tk (i := 12) rfl (by rfl) (fun K hK => ?_) AllReadyH.nil
                go_simp
                refine hK.out _ _ trivial (fun hHeld => ?_)
                clear hK K
                refine wpAnyH_done (by kernel_rfl) ?_ _
                clear hHeld
                go_wp2
                go_roundw
                case rel => exact ⟨q + 1, by omega, by go_num, HZ.out.1, HZ.out.2⟩
                case measure => simp [intOf]; omega
            · have hqe : q = d + 1 := by omega
              subst hqe
              have HN : Hid (SmI w G (d + 1) (fun j => smD c d (i + 1) j) wr) := ⟨HQ.out.row.congr fun j hj => by rw [if_pos hj], HQ.out.bel⟩
              clear HQ HR HTD HSI HS1
              go_wp2
              exact ⟨⟨i + 1, by omega, by go_num, HN.out⟩, by simp [intOf]; omega⟩
    · have hie : i = d + 1 := by omega
      subst hie
      clear HV HTB HSB
      go_wp2
      go_ret
      exact ⟨by rw [HG.out]; rfl, by rw [← HG.out]; exact HI.out⟩

end Go.Proofs.YtkfdpcgmpbopnaaGreatDoor
