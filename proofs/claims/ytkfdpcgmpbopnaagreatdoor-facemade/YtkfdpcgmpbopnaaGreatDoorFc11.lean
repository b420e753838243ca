/- face.short: Stanley's h of counts. -/
import Derived.Test.YtkfdpcgmpbopnaaGreatDoorFc10
namespace Go.Proofs.YtkfdpcgmpbopnaaGreatDoor
open Go.RowKit Lin
attribute [local go_sem ↓] Go.wp_at_zero Go.wp_at_succ

/-- What there is so far, taken (1 - x) times, and a count more. -/
def hvN (c : Nat → Int) : Nat → Nat → Int
  | 0, _ => 0
  | i + 1, j => hvN c i j - (if j = 0 then 0 else hvN c i (j - 1)) + (if j = i then c i else 0)

theorem hvN_zero (c : Nat → Int) : ∀ i j, i ≤ j → hvN c i j = 0
  | 0, _, _ => rfl
  | i + 1, j, h => by
    simp only [hvN]
    rw [hvN_zero c i j (by omega), if_neg (by omega), hvN_zero c i (j - 1) (by omega), if_neg (by omega)]
    rfl

theorem hvN_bd {c : Nat → Int} {B : Nat} : ∀ i, (∀ k, k < i → (c k).natAbs ≤ B) → ∀ j, (hvN c i j).natAbs ≤ 3 ^ i * B
  | 0, _, j => by simp [hvN]
  | i + 1, h, j => by
    have h1 := hvN_bd i (fun k hk => h k (by omega)) j
    have h2 := hvN_bd i (fun k hk => h k (by omega)) (j - 1)
    have h3 := h i (by omega)
    have h4 : B ≤ 3 ^ i * B := Nat.le_mul_of_pos_left _ (Nat.pow_pos (by decide))
    have e : 3 ^ (i + 1) * B = 3 * (3 ^ i * B) := by rw [Nat.pow_succ, Nat.mul_comm (3 ^ i) 3, Nat.mul_assoc]
    rw [e]
    generalize 3 ^ i * B = q at *
    simp only [hvN]
    split <;> split <;> omega

def hvF (c : Nat → Int) (n : Nat) : List Int := (List.range n).map fun j => hvN c n j

theorem hvF_len (c : Nat → Int) (n : Nat) : (hvF c n).length = n := by simp [hvF]

theorem hvF_get {c : Nat → Int} {n j : Nat} (h : j < n) : (hvF c n).getD j 0 = hvN c n j := by simp [hvF, h]

theorem ownF_row {B n : Nat} {e : TypeId} {w : World} {v : Value} {l : List Int} (h : w.ownsRow B e 1 v n (ints l)) (hn : 0 < n) : ∃ g cap F, v = .slice (some ⟨g, 0, none⟩) n cap ∧ B ≤ g ∧ w.rowIs g e cap F ∧ (∀ i, i < n → F i = .int .i64 (l.getD i 0)) ∧ n ≤ cap ∧ cap ≤ 9223372036854775807 := by
  obtain ⟨h1, h2⟩ := h
  rcases h2 with ⟨_, h0⟩ | ⟨g, cap, cur, hu, hg, hh, hnc, hcm, hs, htk⟩
  · omega
  · have hll : l.length = n := by simpa [ints] using h1
    refine ⟨g, cap, fun i => cur.toList.getD i (.int .i64 0), hu, hg, ⟨cur, hh, by omega, fun i hi => ?_⟩, fun i hi => ?_, hnc, by unfold maxLen at hcm; exact hcm⟩
    · show cur[i]? = some (cur.toList.getD i (.int .i64 0))
      rw [← Array.getElem?_toList, List.getD_eq_getElem?_getD, List.getElem?_eq_getElem (by simp; omega)]; rfl
    · have e1 : cur.toList.getD i (.int .i64 0) = (ints l).getD i (.int .i64 0) := by
        rw [← htk]
        simp only [List.getD_eq_getElem?_getD]
        rw [List.getElem?_take_of_lt (by omega)]
      show cur.toList.getD i (.int .i64 0) = _
      rw [e1]
      simp [ints, show i < l.length by omega]

set_option maxRecDepth 100000 in
set_option maxHeartbeats 1600000 in
theorem short_any (B0 : Nat) (cs : List Int) (v : Value) (w : World) (hv : Sl B0 3 w v (ints cs)) (hn : cs.length ≤ 6) (hc : ∀ z ∈ cs, z.natAbs ≤ 5000) :
    Calls Tryz.prog 37 #[v] w fun e w' => ∃ u, e = .returned u ∧ w'.ownsRow w.heap.size 3 1 u cs.length (ints (hvF (fun k => cs.getD k 0) cs.length)) ∧ Below w.heap.size w w' := by
  obtain ⟨i3, hi3, hz30, hz31, hz32⟩ := info_parts Tryz.info3
  obtain ⟨ao, cap0, hvv, hlc, hcm0⟩ := sl_open hv
  subst hvv
  have HV : Hid (∀ W k, Below w.heap.size w W → k < cs.length → ∃ b o, ao = some ⟨b, o, none⟩ ∧ W.cell? ⟨b, o + k, none⟩ = some (.int .i64 (cs.getD k 0))) := fun W k hb hk => by
    obtain ⟨b, o, cp, hs, _, hcc⟩ := sl_cell ((hv.any (Nat.le_refl w.heap.size)).below hb (Nat.le_refl _)) hk
    simp only [Value.slice.injEq] at hs
    exact ⟨b, o, hs.1, hcc⟩
  have HBD : Hid (∀ i j, i ≤ cs.length → (hvN (fun k => cs.getD k 0) i j).natAbs ≤ 3645000) := fun i j hi => by
    have h := hvN_bd (c := fun k => cs.getD k 0) (B := 5000) i (fun k hk => hc _ (getD_mem (by omega))) j
    have h2 : 3 ^ i ≤ 3 ^ 6 := Nat.pow_le_pow_right (by decide) (by omega)
    have h3 : 3 ^ i * 5000 ≤ 3 ^ 6 * 5000 := Nat.mul_le_mul_right _ h2
    have h4 : (3 : Nat) ^ 6 * 5000 = 3645000 := by decide
    omega
  have HCB : Hid (∀ k, k < cs.length → (cs.getD k 0).natAbs ≤ 5000) := fun k hk => hc _ (getD_mem hk)
  obtain ⟨c, hcd⟩ : ∃ c : Nat → Int, c = fun k => cs.getD k 0 := ⟨_, rfl⟩
  have HCV : Hid (∀ k, cs.getD k 0 = c k) := fun k => by rw [hcd]
  rw [← hcd] at HBD ⊢
  obtain ⟨n, hnl⟩ : ∃ n, n = cs.length := ⟨_, rfl⟩
  rw [← hnl] at HV HBD HCB hn hlc ⊢
  clear hv hc hcd hnl
  go_enter Tryz.func37, Tryz.ntmps37
  go_wp2
  go_loopw [3, 4, 5, 6, 9] (fun x _ _ _ iv wr => ∃ k : Nat, k ≤ n ∧ iv = .int .i64 (k : Int) ∧ wr.ownsRow w.heap.size 3 1 x k (ints (hvF c k)) ∧ Below w.heap.size w wr) (fun _ _ _ _ iv _ => n - (intOf iv).toNat)
  case atStart => exact ⟨0, Nat.zero_le _, rfl, World.ownsRow_nil _ _ _ _, Below.refl _ _⟩
  case round =>
    obtain ⟨k, hk, rfl, ho, hb⟩ := hrel
    obtain ⟨xo, xc, hx⟩ := owns_form ho
    subst hx
    have HO : Hid (wr.ownsRow w.heap.size 3 1 (.slice xo k xc) k (ints (hvF c k))) := ho
    have HB : Hid (Below w.heap.size w wr) := hb
    have hsz : w.heap.size ≤ wr.heap.size := hb.size
    clear ho hb
    by_cases hlt : k < n
    · obtain ⟨b, o, hao, hcc⟩ := HV.out wr k HB.out hlt
      rw [HCV.out k] at hcc
      have hkI : (k : Int) < (n : Int) := by omega
      have hcb := HCB.out k hlt
      rw [HCV.out k] at hcb
      subst hao
      obtain ⟨wa, rfl⟩ : ∃ wa, wa = wr := ⟨wr, rfl⟩
      have HBK : Hid (∀ j, (hvN c k j).natAbs ≤ 3645000) := fun j => HBD.out k j (by omega)
      clear HV
      go_wp2_with (first | (at_builtin; refine wpList_append_own _ rfl _ _ 22 rfl w.heap.size 3 i3 (.int .i64 0) 1 8 Tryz.underlying22 hi3 hz30 hz31 hz32 rfl (by decide) _ _ _ rfl (HO.out.alloc _) ⟨wa.heap.size, 0, none⟩ 1 1 [.int .i64 0] rfl rfl (one_new _ _ _) (one_int _) ?c3 ?c4 ?c5 ?_))
      case c3 => unfold maxLen; omega
      case c4 => omega
      case c5 => first | exact hsz | omega | (simp; omega)
      intro v' w3 ho3 hg3 _
      have HB3 : Hid (Below w.heap.size w w3) := (HB.out.alloc hsz _).grown hg3 (by simp; omega) (fun x hx => (HO.out.lt x hx).1)
      have ho4 : w3.ownsRow w.heap.size 3 1 v' (k + 1) (ints (hvF c k ++ [0])) := by
        have e : ints (hvF c k ++ [0]) = ints (hvF c k) ++ [.int .i64 0] := by simp [ints]
        rw [e]
        exact ho3
      obtain ⟨g, cap, F0, hv', hg, hrow, hF, hnc, hcm⟩ := ownF_row ho4 (by omega)
      subst hv'
      have HR0 : Hid (w3.rowIs g 3 cap F0 ∧ ∀ j, j < k + 1 → F0 j = .int .i64 (hvN c k j)) := ⟨hrow, fun j hj => by
        rw [hF j hj]
        congr 1
        by_cases e : j < k
        · rw [List.getD_eq_getElem?_getD, List.getElem?_append_left (by rw [hvF_len]; exact e), ← List.getD_eq_getElem?_getD, hvF_get e]
        · have e2 : j = k := by omega
          subst e2
          rw [hvN_zero c j j (Nat.le_refl _)]
          rw [List.getD_eq_getElem?_getD, List.getElem?_append_right (by rw [hvF_len]; omega)]
          simp [hvF_len]⟩
      have HG : Hid (w.heap.size ≤ g) := hg
      clear ho3 hg3 ho4 hrow hF hg hcc HO HB
      go_wp2
      go_loopw [6] (fun jv wq => ∃ (p : Nat) (F : Nat → Value), p ≤ k ∧ jv = .int .i64 (p : Int) ∧ wq.rowIs g 3 cap F ∧ (∀ j, j < k + 1 → F j = .int .i64 (if p < j then hvN c k j - hvN c k (j - 1) else hvN c k j)) ∧ Below w.heap.size w wq) (fun jv _ => (intOf jv).toNat)
      case atStart => exact ⟨k, F0, Nat.le_refl _, rfl, HR0.out.1, fun j hj => by rw [if_neg (by omega)]; exact HR0.out.2 j hj, HB3.out⟩
      case round =>
        obtain ⟨p, F, hp, rfl, hrow, hF, hbel⟩ := hrel
        have HR : Hid (wr.rowIs g 3 cap F) := hrow
        have HF : Hid (∀ j, j < k + 1 → F j = .int .i64 (if p < j then hvN c k j - hvN c k (j - 1) else hvN c k j)) := hF
        have HB2 : Hid (Below w.heap.size w wr) := hbel
        clear hrow hF hbel HR0 HB3
        rcases p with _ | p
        · have ca := HR.out.cell (i := k) (by omega)
          have cf := HR.out.frozen k
          rw [HF.out k (by omega)] at ca
          obtain ⟨y, hy⟩ : ∃ y : Int, y = (if 0 < k then hvN c k k - hvN c k (k - 1) else hvN c k k) := ⟨_, rfl⟩
          have hyb : y.natAbs ≤ 7290000 := by
            have := HBK.out k
            have := HBK.out (k - 1)
            rw [hy]
            split <;> omega
          rw [← hy] at ca
          have HRZ : Hid ((wr.setCell ⟨g, k, none⟩ (.int .i64 (y + c k))).rowIs g 3 cap (fun i => if i = k then .int .i64 (y + c k) else F i)) := HR.out.set k _
          have HBZ : Hid (Below w.heap.size w (wr.setCell ⟨g, k, none⟩ (.int .i64 (y + c k)))) := HB2.out.setCell (by exact HG.out) _
          have HOZ : Hid ((wr.setCell ⟨g, k, none⟩ (.int .i64 (y + c k))).ownsRow w.heap.size 3 1 (.slice (some ⟨g, 0, none⟩) (k + 1) cap) (k + 1) (ints (hvF c (k + 1)))) := by
            refine rowF_own HRZ.out HG.out (hvF_len _ _) (fun j hj => ?_) hnc hcm
            rw [hvF_get hj]
            simp only [hvN]
            by_cases e : j = k
            · rw [if_pos e]
              congr 1
              rw [hy, e, if_pos rfl]
              by_cases e0 : k = 0
              · rw [if_neg (by omega), if_pos e0]; omega
              · rw [if_pos (by omega), if_neg e0]
            · rw [if_neg e, HF.out j hj, if_neg e]
              congr 1
              by_cases e0 : j = 0
              · rw [if_neg (by omega), if_pos e0]; omega
              · rw [if_pos (by omega), if_neg e0]; omega
          have hw : IntKind.wrap .i64 (y + c k) = y + c k := by rw [IntKind.wrap_i64]; omega
          have hk1 : (k : Int) < (k : Int) + 1 := by omega
          clear hy HF HR HRZ
          go_wp2
          exact ⟨⟨k + 1, by omega, by go_num, HOZ.out, HBZ.out⟩, by simp [intOf]; omega⟩
        · have ca := HR.out.cell (i := p + 1) (by omega)
          have cb := HR.out.cell (i := p) (by omega)
          have cf := HR.out.frozen (p + 1)
          rw [HF.out (p + 1) (by omega), if_neg (by omega)] at ca
          rw [HF.out p (by omega), if_neg (by omega)] at cb
          have b1 := HBK.out (p + 1)
          have b0 := HBK.out p
          obtain ⟨x1, hx1⟩ : ∃ x, x = hvN c k (p + 1) := ⟨_, rfl⟩
          obtain ⟨x0, hx0⟩ : ∃ x, x = hvN c k p := ⟨_, rfl⟩
          rw [← hx1] at ca b1
          rw [← hx0] at cb b0
          have HZ : Hid ((wr.setCell ⟨g, p + 1, none⟩ (.int .i64 (x1 - x0))).drew.rowIs g 3 cap (fun i => if i = p + 1 then .int .i64 (x1 - x0) else F i) ∧ Below w.heap.size w (wr.setCell ⟨g, p + 1, none⟩ (.int .i64 (x1 - x0))).drew) := ⟨(HR.out.set (p + 1) _).drew, (HB2.out.setCell (by exact HG.out) _).drew⟩
          have HZ2 : Hid (∀ j, j < k + 1 → (if j = p + 1 then Value.int .i64 (x1 - x0) else F j) = .int .i64 (if p < j then hvN c k j - hvN c k (j - 1) else hvN c k j)) := fun j hj => by
            by_cases e : j = p + 1
            · rw [if_pos e, e, if_pos (by omega), hx1, hx0]; rfl
            · rw [if_neg e, HF.out j hj]
              by_cases e2 : p < j
              · rw [if_pos (by omega), if_pos e2]
              · rw [if_neg (by omega), if_neg e2]
          have cad : wr.drew.cell? ⟨g, p + 1, none⟩ = some (.int .i64 x1) := ca
          have cbd : wr.drew.cell? ⟨g, p, none⟩ = some (.int .i64 x0) := cb
          have cfd : wr.drew.frozen? ⟨g, p + 1, none⟩ = false := cf
          have hw : IntKind.wrap .i64 (x1 - x0) = x1 - x0 := by rw [IntKind.wrap_i64]; omega
          have hwp : IntKind.wrap .i64 (p : Int) = (p : Int) := by rw [IntKind.wrap_i64]; omega
          have hpI : ((p + 1 : Nat) : Int) < (k : Int) + 1 := by omega
          clear hx1 hx0 HF HR HB2
          go_upto_region 9 with fail
          refine wp_region_held_drew (S := fun _ => True) (by kernel_rfl) trivial (fun hHeld => ?_)
          refine wpAnyH_tk (i := 0) (d := 22) (v := (.slice (some ⟨g, 0, none⟩) (k + 1) cap)) rfl rfl (by kernel_rfl) (by kernel_rfl) (by kernel_rfl) (fun _ _ _ h => h) (.inl ⟨by rfl, by (intro wq hSw; (try dsimp only at hSw); go_simp; (try (first | rfl | omega)))⟩) hHeld ?_
          simp only [Act.put, List.setIfInBounds_toArray, List.set_cons_zero, List.set_cons_succ]
          refine wpAnyH_tk (i := 1) (d := 23) (v := (.int .i64 ((p + 1 : Nat) : Int))) rfl rfl (by kernel_rfl) (by kernel_rfl) (by kernel_rfl) (fun _ _ _ h => h) (.inl ⟨by rfl, by (intro wq hSw; (try dsimp only at hSw); go_simp; (try (first | rfl | omega)))⟩) hHeld ?_
          simp only [Act.put, List.setIfInBounds_toArray, List.set_cons_zero, List.set_cons_succ]
          refine wpAnyH_tk (i := 2) (d := 24) (v := (.pointer (some ⟨g, p + 1, none⟩))) rfl rfl (by kernel_rfl) (by kernel_rfl) (by kernel_rfl) (fun _ _ _ h => h) (.inl ⟨by rfl, by (intro wq hSw; (try dsimp only at hSw); go_simp; (try (first | rfl | omega)))⟩) hHeld ?_
          simp only [Act.put, List.setIfInBounds_toArray, List.set_cons_zero, List.set_cons_succ]
          refine wpAnyH_tk (i := 4) (d := 26) (v := (.slice (some ⟨g, 0, none⟩) (k + 1) cap)) rfl rfl (by kernel_rfl) (by kernel_rfl) (by kernel_rfl) (fun _ _ _ h => h) (.inl ⟨by rfl, by (intro wq hSw; (try dsimp only at hSw); go_simp; (try (first | rfl | omega)))⟩) hHeld ?_
          simp only [Act.put, List.setIfInBounds_toArray, List.set_cons_zero, List.set_cons_succ]
          refine wpAnyH_tk (i := 5) (d := 27) (v := (.int .i64 ((p + 1 : Nat) : Int))) rfl rfl (by kernel_rfl) (by kernel_rfl) (by kernel_rfl) (fun _ _ _ h => h) (.inl ⟨by rfl, by (intro wq hSw; (try dsimp only at hSw); go_simp; (try (first | rfl | omega)))⟩) hHeld ?_
          simp only [Act.put, List.setIfInBounds_toArray, List.set_cons_zero, List.set_cons_succ]
          refine wpAnyH_tk (i := 6) (d := 28) (v := (.int .i64 (p : Int))) rfl rfl (by kernel_rfl) (by kernel_rfl) (by kernel_rfl) (fun _ _ _ h => h) (.inl ⟨by rfl, by (intro wq hSw; (try dsimp only at hSw); go_simp; (try (first | rfl | omega)))⟩) hHeld ?_
          simp only [Act.put, List.setIfInBounds_toArray, List.set_cons_zero, List.set_cons_succ]
          refine wpAnyH_tk (i := 7) (d := 29) (v := (.pointer (some ⟨g, p, none⟩))) rfl rfl (by kernel_rfl) (by kernel_rfl) (by kernel_rfl) (fun _ _ _ h => h) (.inl ⟨by rfl, by (intro wq hSw; (try dsimp only at hSw); go_simp; (try (first | rfl | omega)))⟩) hHeld ?_
          simp only [Act.put, List.setIfInBounds_toArray, List.set_cons_zero, List.set_cons_succ]
          refine wpAnyH_ready (rs := [3, 8]) (by kernel_rfl) (by simp) ?_
          refine ready_tk (i := 3) rfl (by rfl) (fun K hK => ?_) (ready_tk (i := 8) rfl (by rfl) (fun K hK => ?_) AllReadyH.nil)
          · go_simp
            refine hK.out _ _ trivial (fun hHeld => ?_)
            clear hK K
            try simp only [Act.put, List.setIfInBounds_toArray, List.set_cons_zero, List.set_cons_succ]
            refine wpAnyH_ready (rs := [8]) (by kernel_rfl) (by simp) ?_
            refine ready_tk (i := 8) rfl (by rfl) (fun K hK => ?_) AllReadyH.nil
            go_simp
            refine hK.out _ _ trivial (fun hHeld => ?_)
            clear hK K
            try simp only [Act.put, List.setIfInBounds_toArray, List.set_cons_zero, List.set_cons_succ]
            refine wpAnyH_tk (i := 9) (d := 31) (v := (.int .i64 (x1 - x0))) rfl rfl (by kernel_rfl) (by kernel_rfl) (by kernel_rfl) (fun _ _ _ h => h) (.inl ⟨by rfl, by (intro wq hSw; (try dsimp only at hSw); go_simp; (try (first | rfl | omega)))⟩) hHeld ?_
            simp only [Act.put, List.setIfInBounds_toArray, List.set_cons_zero, List.set_cons_succ]
            refine wpAnyH_tk (i := 10) (d := 32) (v := (.pointer (some ⟨g, p + 1, none⟩))) rfl rfl (by kernel_rfl) (by kernel_rfl) (by kernel_rfl) (fun _ _ _ h => h) (.inl ⟨by rfl, by (intro wq hSw; (try dsimp only at hSw); go_simp; (try (first | rfl | omega)))⟩) hHeld ?_
            simp only [Act.put, List.setIfInBounds_toArray, List.set_cons_zero, List.set_cons_succ]
            refine wpAnyH_ready (rs := [11]) (by kernel_rfl) (by simp) ?_
            refine ready_tk (i := 11) rfl (by rfl) (fun K hK => ?_) AllReadyH.nil
            go_simp
            refine hK.out _ _ trivial (fun hHeld => ?_)
            clear hK K
            refine wpAnyH_done (by kernel_rfl) ?_ _
            clear hHeld
            go_wp2
            go_roundw
            case rel => exact ⟨p, _, by omega, by go_num, HZ.out.1, HZ2.out, HZ.out.2⟩
            case measure => simp [intOf]
          · go_simp
            refine hK.out _ _ trivial (fun hHeld => ?_)
            clear hK K
            try simp only [Act.put, List.setIfInBounds_toArray, List.set_cons_zero, List.set_cons_succ]
            refine wpAnyH_ready (rs := [3]) (by kernel_rfl) (by simp) ?_
            refine ready_tk (i := 3) rfl (by rfl) (fun K hK => ?_) AllReadyH.nil
            go_simp
            refine hK.out _ _ trivial (fun hHeld => ?_)
            clear hK K
            try simp only [Act.put, List.setIfInBounds_toArray, List.set_cons_zero, List.set_cons_succ]
            refine wpAnyH_tk (i := 9) (d := 31) (v := (.int .i64 (x1 - x0))) rfl rfl (by kernel_rfl) (by kernel_rfl) (by kernel_rfl) (fun _ _ _ h => h) (.inl ⟨by rfl, by (intro wq hSw; (try dsimp only at hSw); go_simp; (try (first | rfl | omega)))⟩) hHeld ?_
            simp only [Act.put, List.setIfInBounds_toArray, List.set_cons_zero, List.set_cons_succ]
            refine wpAnyH_tk (i := 10) (d := 32) (v := (.pointer (some ⟨g, p + 1, none⟩))) rfl rfl (by kernel_rfl) (by kernel_rfl) (by kernel_rfl) (fun _ _ _ h => h) (.inl ⟨by rfl, by (intro wq hSw; (try dsimp only at hSw); go_simp; (try (first | rfl | omega)))⟩) hHeld ?_
            simp only [Act.put, List.setIfInBounds_toArray, List.set_cons_zero, List.set_cons_succ]
            refine wpAnyH_ready (rs := [11]) (by kernel_rfl) (by simp) ?_
            refine ready_tk (i := 11) rfl (by rfl) (fun K hK => ?_) AllReadyH.nil
            go_simp
            refine hK.out _ _ trivial (fun hHeld => ?_)
            clear hK K
            refine wpAnyH_done (by kernel_rfl) ?_ _
            clear hHeld
            go_wp2
            go_roundw
            case rel => exact ⟨p, _, by omega, by go_num, HZ.out.1, HZ2.out, HZ.out.2⟩
            case measure => simp [intOf]
    · have hke : k = n := by omega
      subst hke
      clear HV HBD HCB
      go_wp2
      go_ret
      exact ⟨_, rfl, HO.out, HB.out⟩

end Go.Proofs.YtkfdpcgmpbopnaaGreatDoor
