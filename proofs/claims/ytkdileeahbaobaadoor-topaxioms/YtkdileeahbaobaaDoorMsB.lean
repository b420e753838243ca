import Derived.Test.YtkdileeahbaobaaDoorMsA
import Derived.Test.YtkdileeahbaobaaDoorTk1
import Derived.Test.YtkdileeahbaobaaDoorMtD
import Derived.Laws.EntriesVeiled
/- matroid.Circuits' closures. -/
namespace Go.Proofs.YtkdileeahbaobaaDoor
open Go.RowKit
attribute [local go_sem ↓] Go.wp_at_zero Go.wp_at_succ

/-- The closure that asks whether a set is free, and the box that it holds. -/
abbrev frV (b : Nat) : Value := .func (.func 33) #[] #[.pointer (some ⟨b, 0, none⟩)]

set_option maxRecDepth 100000 in
set_option maxHeartbeats 800000 in
theorem hangsW_any (B : Nat) (bs : List Int) (s i b : Nat) (v : Value) (b1 b2 : Nat) (w : World) (hv : Sl B 3 w v (ints bs)) (h8 : B8 bs) (hs : s < 256) (hi : i < 8) (hc : w.cell? ⟨b, 1, none⟩ = some v)
    (h1 : w.cell? ⟨b1, 0, none⟩ = some (frV b)) (h2 : w.cell? ⟨b2, 0, none⟩ = some (.int .u64 s)) :
    Calls Tryd.prog 22 #[.int .i64 i, .pointer (some ⟨b1, 0, none⟩), .pointer (some ⟨b2, 0, none⟩)] w fun e w' => e = .returned (.bool (!freeB bs (outN s (2 ^ i)))) ∧ Below w.heap.size w w' := by
  obtain ⟨z, hz⟩ : ∃ z : Nat, z = outN s (2 ^ i) := ⟨_, rfl⟩
  have hz8 : z < 256 := by rw [hz]; exact outN_lt8 hs
  have hp8 : 2 ^ i < 256 := show 2 ^ i < 2 ^ 8 from Nat.pow_lt_pow_right (by omega) hi
  have e1 : bits .andNot .u64 (s : Int) ((2 ^ i : Nat) : Int) = (z : Int) := by rw [hz]; exact bits_andNot_u64_nat s _ (by omega) (by omega)
  have HON : Hid (∀ W', Calls Tryd.prog 23 #[.int .i64 i] W' fun e w' => e = .returned (.int .u64 ((2 ^ i : Nat) : Int)) ∧ w' = W') := fun W' => by
    have := one_any (i : Int) W' (by omega) (by omega)
    simpa using this
  have HFI : Hid (∀ W', Below w.heap.size w W' → Calls Tryd.prog 33 #[.int .u64 z, .pointer (some ⟨b, 0, none⟩)] W' fun e w' => e = .returned (.bool (freeB bs z)) ∧ Below W'.heap.size W' w') := fun W' h =>
    free1_any B z b bs v W' (hv.below h (Nat.le_refl _)) h8 hz8 ((h.cell (lt_of_cell hc)).trans hc)
  have HCC : Hid (∀ W', Below w.heap.size w W' → W'.cell? ⟨b1, 0, none⟩ = some (frV b) ∧ W'.cell? ⟨b2, 0, none⟩ = some (.int .u64 s)) := fun W' h => ⟨(h.cell (lt_of_cell h1)).trans h1, (h.cell (lt_of_cell h2)).trans h2⟩
  rw [← hz]
  clear hv h8 hc hz
  generalize 2 ^ i = pw at *
  generalize freeB bs z = fb at *
  go_enter Tryd.func22, Tryd.ntmps22
  go_wp2
  refine wp_region_held_drew (S := fun w' => w'.cell? ⟨b1, 0, none⟩ = some (frV b) ∧ w'.cell? ⟨b2, 0, none⟩ = some (.int .u64 s)) (by kernel_rfl) ⟨h1, h2⟩ (fun hHeld => ?_)
  refine wpAnyH_tk (i := 0) (d := 5) (v := (frV b)) rfl rfl (by kernel_rfl) (by kernel_rfl) (by kernel_rfl) (fun _ _ _ h => h) (.inl ⟨by rfl, by (intro wq hSw; (try dsimp only at hSw); go_simp)⟩) hHeld ?_
  simp only [Act.put, List.setIfInBounds_toArray, List.set_cons_zero, List.set_cons_succ]
  refine wpAnyH_tk (i := 1) (d := 6) (v := (.int .u64 s)) rfl rfl (by kernel_rfl) (by kernel_rfl) (by kernel_rfl) (fun _ _ _ h => h) (.inl ⟨by rfl, by (intro wq hSw; (try dsimp only at hSw); go_simp)⟩) hHeld ?_
  simp only [Act.put, List.setIfInBounds_toArray, List.set_cons_zero, List.set_cons_succ]
  refine wpAnyH_tk (i := 2) (d := 7) (v := (.int .i64 i)) rfl rfl (by kernel_rfl) (by kernel_rfl) (by kernel_rfl) (fun _ _ _ h => h) (.inl ⟨by rfl, by (intro wq hSw; (try dsimp only at hSw); go_simp)⟩) hHeld ?_
  simp only [Act.put, List.setIfInBounds_toArray, List.set_cons_zero, List.set_cons_succ]
  refine wpAnyH_ready (rs := [3]) (by kernel_rfl) (by simp) ?_
  refine ready_tk (i := 3) rfl (by rfl) (fun K hK => ?_) AllReadyH.nil
  go_simp
  refine (HON.out _).mono ?_
  rintro e w3 ⟨rfl, hw3⟩
  have HB3 : Hid (Below w.heap.size w w3) := by rw [hw3]; exact Below.drew (Below.refl _ _)
  clear hw3
  refine hK.out _ _ (HCC.out w3 HB3.out) (fun hHeld => ?_)
  clear hK K
  refine wpAnyH_tk (i := 4) (d := 9) (v := (.int .u64 z)) rfl rfl (by kernel_rfl) (by kernel_rfl) (by kernel_rfl) (fun _ _ _ h => h) (.inl ⟨by rfl, by (intro wq hSw; (try dsimp only at hSw); go_simp)⟩) hHeld ?_
  simp only [Act.put, List.setIfInBounds_toArray, List.set_cons_zero, List.set_cons_succ]
  refine wpAnyH_ready (rs := [5]) (by kernel_rfl) (by simp) ?_
  refine ready_tk (i := 5) rfl (by rfl) (fun K hK => ?_) AllReadyH.nil
  go_simp
  refine (HFI.out _ HB3.out).mono ?_
  rintro e w4 ⟨rfl, hb4⟩
  have HB4 : Hid (Below w.heap.size w w4) := HB3.out.trans (hb4.mono HB3.out.size)
  clear hb4
  refine hK.out _ _ (HCC.out w4 HB4.out) (fun hHeld => ?_)
  clear hK K
  refine wpAnyH_tk (i := 6) (d := 11) (v := (.bool (!fb))) rfl rfl (by kernel_rfl) (by kernel_rfl) (by kernel_rfl) (fun _ _ _ h => h) (.inl ⟨by rfl, by (intro wq hSw; (try dsimp only at hSw); go_simp)⟩) hHeld ?_
  simp only [Act.put, List.setIfInBounds_toArray, List.set_cons_zero, List.set_cons_succ]
  refine wpAnyH_tk (i := 7) (d := 4) (v := (.bool (!fb))) rfl rfl (by kernel_rfl) (by kernel_rfl) (by kernel_rfl) (fun _ _ _ h => h) (.inl ⟨by rfl, by (intro wq hSw; (try dsimp only at hSw); go_simp)⟩) hHeld ?_
  simp only [Act.put, List.setIfInBounds_toArray, List.set_cons_zero, List.set_cons_succ]
  refine wpAnyH_done (by kernel_rfl) ?_ _
  clear hHeld
  go_wp2
  go_ret
  exact ⟨rfl, HB4.out⟩


set_option maxRecDepth 100000 in
set_option maxHeartbeats 400000 in
theorem idxC2_any (B : Nat) (p : Int → Bool) (zs : List Int) (v : Value) (b1 b2 : Nat) (w : World) (hv : Sl B 3 w v (ints zs))
    (hc : ∀ x ∈ zs, ∀ W', Below w.heap.size w W' → Calls Tryd.prog 22 #[.int .i64 x, .pointer (some ⟨b1, 0, none⟩), .pointer (some ⟨b2, 0, none⟩)] W' fun e w' => e = .returned (.bool (p x)) ∧ Below W'.heap.size W' w') :
    Calls Tryd.prog 36 #[v, .func (.func 22) #[] #[.pointer (some ⟨b1, 0, none⟩), .pointer (some ⟨b2, 0, none⟩)]] w fun e w' => e = .returned (.int .i64 (findI p zs)) ∧ Below w.heap.size w w' := by
  obtain ⟨ao, cap, hvv, hlc, hcm⟩ := sl_open hv
  subst hvv
  have HV : Hid (Sl B 3 w (.slice ao zs.length cap) (ints zs)) := hv
  have HIL : Hid (∀ x ∈ zs, ∀ W', Below w.heap.size w W' → Calls Tryd.prog 22 #[.int .i64 x, .pointer (some ⟨b1, 0, none⟩), .pointer (some ⟨b2, 0, none⟩)] W' fun e w' => e = .returned (.bool (p x)) ∧ Below W'.heap.size W' w') := hc
  clear hv hc
  go_enter Tryd.func36, Tryd.ntmps36
  go_wp2
  go_loopw [5, 8] (fun _ i wr => ∃ k : Nat, k ≤ zs.length ∧ i = .int .i64 k ∧ (zs.take k).any p = false ∧ Below w.heap.size w wr) (fun _ i _ => zs.length - (intOf i).toNat)
  case atStart => exact ⟨0, Nat.zero_le _, rfl, by simp, Below.refl _ _⟩
  case round =>
    obtain ⟨k, hk, rfl, hno, hbr⟩ := hrel
    have HN : Hid ((zs.take k).any p = false) := hno
    have HBR : Hid (Below w.heap.size w wr) := hbr
    clear hno hbr
    by_cases hlt : k < zs.length
    · obtain ⟨b', o, cp, hs, hc1, hcc⟩ := sl_cell (HV.out.below HBR.out (Nat.le_refl _)) hlt
      simp only [Value.slice.injEq] at hs
      obtain ⟨rfl, _, rfl⟩ := hs
      have HS1 : Hid ((zs.take (k + 1)).any p = p zs[k]) := any_snoc (p := p) hlt HN.out
      have HH : Hid (p zs[k] = true → findI p zs = k) := fun h => findI_hit (p := p) hlt HN.out h
      rw [show zs.getD k 0 = zs[k] by simp [hlt]] at hcc
      have HIX : Hid (Calls Tryd.prog 22 #[.int .i64 zs[k], .pointer (some ⟨b1, 0, none⟩), .pointer (some ⟨b2, 0, none⟩)] wr fun e w' => e = .returned (.bool (p zs[k])) ∧ Below wr.heap.size wr w') := HIL.out _ (List.getElem_mem _) wr HBR.out
      generalize zs[k] = x at *
      generalize p x = fb at *
      cases fb
      · go_wp2_with fail
        refine HIX.out.mono ?_
        rintro e w2 ⟨rfl, hb2⟩
        have HB2 : Hid (Below w.heap.size w w2) := HBR.out.trans (hb2.mono HBR.out.size)
        clear hb2
        go_wp2
        go_roundw
        case rel => exact ⟨k + 1, by omega, by go_num, HS1.out, HB2.out⟩
        case measure => simp [intOf]; omega
      · have HH2 : Hid (findI p zs = k) := HH.out rfl
        clear HH
        go_wp2_with fail
        refine HIX.out.mono ?_
        rintro e w2 ⟨rfl, hb2⟩
        have HB2 : Hid (Below w.heap.size w w2) := HBR.out.trans (hb2.mono HBR.out.size)
        clear hb2
        go_wp2
        go_ret
        exact ⟨ret_int HH2.out.symm, HB2.out⟩
    · have e : zs.take k = zs := List.take_of_length_le (by omega)
      rw [e] at HN
      have HF : Hid (findI p zs = -1) := findI_none HN.out
      go_wp2
      go_ret
      exact ⟨ret_int HF.out.symm, HBR.out⟩

set_option maxRecDepth 100000 in
theorem hasC2_any (B : Nat) (p : Int → Bool) (zs : List Int) (v : Value) (b1 b2 : Nat) (w : World) (hv : Sl B 3 w v (ints zs))
    (hc : ∀ x ∈ zs, ∀ W', Below w.heap.size w W' → Calls Tryd.prog 22 #[.int .i64 x, .pointer (some ⟨b1, 0, none⟩), .pointer (some ⟨b2, 0, none⟩)] W' fun e w' => e = .returned (.bool (p x)) ∧ Below W'.heap.size W' w') :
    Calls Tryd.prog 24 #[v, .func (.func 22) #[] #[.pointer (some ⟨b1, 0, none⟩), .pointer (some ⟨b2, 0, none⟩)]] w fun e w' => e = .returned (.bool (zs.any p)) ∧ Below w.heap.size w w' := by
  have HII := idxC2_any B p zs v b1 b2 w hv hc
  go_enter Tryd.func24, Tryd.ntmps24
  go_wp2_with fail
  refine HII.mono ?_
  rintro e w' ⟨rfl, hb⟩
  have HB : Hid (Below w.heap.size w w') := hb
  clear hb HII
  go_wp2
  go_ret
  exact ⟨ret_bool findI_ge, HB.out⟩

set_option maxRecDepth 100000 in
set_option maxHeartbeats 800000 in
theorem circ1_any (B : Nat) (bs : List Int) (s b b1 : Nat) (v : Value) (w : World) (hv : Sl B 3 w v (ints bs)) (h8 : B8 bs) (hs : s < 256) (hT : TabB w) (hc : w.cell? ⟨b, 1, none⟩ = some v)
    (h1 : w.cell? ⟨b1, 0, none⟩ = some (frV b)) :
    Calls Tryd.prog 21 #[.int .u64 s, .pointer (some ⟨b1, 0, none⟩)] w fun e w' => e = .returned (.bool (circB bs s)) ∧ Below w.heap.size w w' := by
  obtain ⟨W, hW⟩ : ∃ W, W = w.alloc (.cells #[.int .u64 s] 48) := ⟨_, rfl⟩
  have HBA : Hid (Below w.heap.size w W) := by rw [hW]; exact (Below.refl _ _).alloc (Nat.le_refl _) _
  have c2 : W.cell? ⟨w.heap.size, 0, none⟩ = some (.int .u64 s) := by rw [hW]; simp
  have c1 : W.cell? ⟨b1, 0, none⟩ = some (frV b) := (HBA.out.cell (lt_of_cell h1)).trans h1
  have HC : Hid (∀ W', Below W.heap.size W W' → W'.cell? ⟨w.heap.size, 0, none⟩ = some (.int .u64 s) ∧ W'.cell? ⟨b1, 0, none⟩ = some (frV b) ∧ W'.cell? ⟨b, 1, none⟩ = some v ∧ Sl B 3 W' v (ints bs) ∧ TabB W' ∧ Below w.heap.size w W') := fun W' h =>
    have hb : Below w.heap.size w W' := HBA.out.trans (h.mono HBA.out.size)
    ⟨(h.cell (lt_of_cell c2)).trans c2, (h.cell (lt_of_cell c1)).trans c1, (hb.cell (lt_of_cell hc)).trans hc, hv.below hb (Nat.le_refl _), hT.below hb, hb⟩
  have HFI : Hid (∀ W', Below W.heap.size W W' → Calls Tryd.prog 33 #[.int .u64 s, .pointer (some ⟨b, 0, none⟩)] W' fun e w' => e = .returned (.bool (freeB bs s)) ∧ Below W'.heap.size W' w') := fun W' h => by
    obtain ⟨-, -, q3, q4, -, -⟩ := HC.out W' h
    exact free1_any B s b bs v W' q4 h8 hs q3
  have HLI : Hid (∀ W', Below W.heap.size W W' → Calls Tryd.prog 25 #[.int .u64 s] W' fun e w' => ∃ u, e = .returned u ∧ w'.ownsRow W'.heap.size 3 1 u (mem8 s).length (ints (mem8 s)) ∧ Below W'.heap.size W' w') := fun W' h => list8_any s hs W' (HC.out W' h).2.2.2.2.1
  have HHA : Hid (∀ W' u, Below W.heap.size W W' → Sl 0 3 W' u (ints (mem8 s)) → Calls Tryd.prog 24 #[u, .func (.func 22) #[] #[.pointer (some ⟨b1, 0, none⟩), .pointer (some ⟨w.heap.size, 0, none⟩)]] W' fun e w' => e = .returned (.bool ((mem8 s).any fun i => !freeB bs (outN s (2 ^ i.toNat)))) ∧ Below W'.heap.size W' w') := fun W' u h hu =>
    hasC2_any 0 (fun i => !freeB bs (outN s (2 ^ i.toNat))) (mem8 s) u b1 w.heap.size W' hu (fun x hx W2 h2 => by
      obtain ⟨q1, q2, q3, q4, -, -⟩ := HC.out W2 (h.trans (h2.mono h.size))
      obtain ⟨i, hi, rfl⟩ := mem8_rng hx
      exact hangsW_any B bs s i b v b1 w.heap.size W2 q4 h8 hs hi q3 q2 q1)
  have HD : Hid (circB bs s = (!freeB bs s && !(mem8 s).any fun i => !freeB bs (outN s (2 ^ i.toNat)))) := rfl
  rw [HD.out]
  clear hv h8 hT hc HD
  generalize ((mem8 s).any fun i => !freeB bs (outN s (2 ^ i.toNat))) = hb at *
  generalize freeB bs s = fb at *
  have cA : (w.alloc (.cells #[.int .u64 s] 48)).cell? ⟨b1, 0, none⟩ = some (.func (.func 33) #[] #[.pointer (some ⟨b, 0, none⟩)]) := by rw [← hW]; exact c1
  go_enter Tryd.func21, Tryd.ntmps21
  go_wp2_with fail
  rw [← hW]
  clear hW cA
  cases fb
  · refine (HFI.out W (Below.refl _ _)).mono ?_
    rintro e w1 ⟨rfl, hb1⟩
    obtain ⟨d1, d2, -, -, -, hbw⟩ := HC.out w1 hb1
    have HB1 : Hid (Below W.heap.size W w1) := hb1
    clear hb1 hbw c1 c2
    go_wp2_with fail
    refine (HLI.out w1 HB1.out).mono ?_
    rintro e w2 ⟨u, rfl, ho, hb2⟩
    have HB2 : Hid (Below W.heap.size W w2) := HB1.out.trans (hb2.mono HB1.out.size)
    obtain ⟨d1, d2, -, -, -, hbw⟩ := HC.out w2 HB2.out
    have HHB : Hid (Calls Tryd.prog 24 #[u, .func (.func 22) #[] #[.pointer (some ⟨b1, 0, none⟩), .pointer (some ⟨w.heap.size, 0, none⟩)]] w2 fun e w' => e = .returned (.bool hb) ∧ Below w2.heap.size w2 w') := HHA.out w2 u HB2.out (Sl.own ho)
    clear ho hb2 hbw
    go_wp2_with fail
    refine HHB.out.mono ?_
    rintro e w3 ⟨rfl, hb3⟩
    have HB3 : Hid (Below w.heap.size w w3) := HBA.out.trans ((HB2.out.trans (hb3.mono HB2.out.size)).mono HBA.out.size)
    clear hb3
    go_wp2
    go_ret
    exact ⟨rfl, HB3.out⟩
  · refine (HFI.out W (Below.refl _ _)).mono ?_
    rintro e w1 ⟨rfl, hb1⟩
    have HB3 : Hid (Below w.heap.size w w1) := HBA.out.trans (hb1.mono HBA.out.size)
    clear hb1 c1 c2
    go_wp2
    go_ret
    exact ⟨rfl, HB3.out⟩

end Go.Proofs.YtkdileeahbaobaaDoor

/- matroid.Circuits: its sets, gone through by setsThat. -/
namespace Go.Proofs.YtkdileeahbaobaaDoor
open Go.RowKit
attribute [local go_sem ↓] Go.wp_at_zero Go.wp_at_succ

set_option maxRecDepth 100000 in
set_option maxHeartbeats 800000 in
theorem setsC1_any (n : Nat) (p : Nat → Bool) (b1 : Nat) (w : World) (hn : n ≤ 8)
    (hc : ∀ s : Nat, s < 256 → ∀ W', Below w.heap.size w W' → Calls Tryd.prog 21 #[.int .u64 s, .pointer (some ⟨b1, 0, none⟩)] W' fun e w' => e = .returned (.bool (p s)) ∧ Below W'.heap.size W' w') :
    Calls Tryd.prog 26 #[.int .i64 n, .func (.func 21) #[] #[.pointer (some ⟨b1, 0, none⟩)]] w fun e w' => ∃ u, e = .returned u ∧ w'.ownsRow w.heap.size 3 1 u (setsTo p (2 ^ n)).length (ints (setsTo p (2 ^ n))) ∧ Below w.heap.size w w' := by
  obtain ⟨i3, hi3, hz30, hz31, hz32⟩ := info_parts Tryd.info3
  obtain ⟨tn, htn⟩ : ∃ tn : Nat, tn = 2 ^ n := ⟨_, rfl⟩
  have hti : (2 : Int) ^ n = (tn : Int) := by rw [htn]; simp
  have htl : tn ≤ 256 := by rw [htn]; exact show 2 ^ n ≤ 2 ^ 8 from Nat.pow_le_pow_right (by omega) hn
  have hwt : IntKind.i64.wrap (tn : Int) = (tn : Int) := wrap_small (by omega)
  rw [← htn]
  have HIL : Hid (∀ s : Nat, s < 256 → ∀ W', Below w.heap.size w W' → Calls Tryd.prog 21 #[.int .u64 s, .pointer (some ⟨b1, 0, none⟩)] W' fun e w' => e = .returned (.bool (p s)) ∧ Below W'.heap.size W' w') := hc
  clear hc htn
  go_enter Tryd.func26, Tryd.ntmps26
  go_wp2
  go_loopw [5, 6, 9] (fun gv _ x wr => ∃ k : Nat, k ≤ tn ∧ x = .int .i64 k ∧ wr.ownsRow w.heap.size 3 1 gv (setsTo p k).length (ints (setsTo p k)) ∧ Below w.heap.size w wr) (fun _ _ x _ => tn - (intOf x).toNat)
  case atStart => exact ⟨0, Nat.zero_le _, rfl, World.ownsRow_nil _ _ _ _, Below.refl _ _⟩
  case round =>
    obtain ⟨k, hk, rfl, ho, hbr⟩ := hrel
    have HO : Hid (wr.ownsRow w.heap.size 3 1 u5 (setsTo p k).length (ints (setsTo p k))) := ho
    have HBR : Hid (Below w.heap.size w wr) := hbr
    have hsz : w.heap.size ≤ wr.heap.size := hbr.size
    have hkl := setsTo_len p k
    clear ho hbr
    by_cases hlt : k < tn
    · have kI : (k : Int) < (tn : Int) := by omega
      have qk : IntKind.u64.wrap (k : Int) = (k : Int) := by rw [IntKind.wrap_u64]; omega
      have HIX : Hid (Calls Tryd.prog 21 #[.int .u64 k, .pointer (some ⟨b1, 0, none⟩)] wr fun e w' => e = .returned (.bool (p k)) ∧ Below wr.heap.size wr w') := HIL.out k (by omega) wr HBR.out
      have HSS : Hid (setsTo p (k + 1) = setsTo p k ++ (if p k = true then [(k : Int)] else [])) := setsTo_succ p k
      generalize p k = fb at *
      generalize setsTo p k = L at *
      obtain ⟨xo, xc, hxv⟩ := owns_form HO.out
      subst hxv
      go_wp2_with fail
      refine HIX.out.mono ?_
      rintro e w2 ⟨rfl, hb2⟩
      have HO2 : Hid (w2.ownsRow w.heap.size 3 1 (.slice xo L.length xc) L.length (ints L)) := owns_below HO.out hb2 (Nat.le_refl _)
      have HB2 : Hid (Below w.heap.size w w2) := HBR.out.trans (hb2.mono hsz)
      have hsz2 : w.heap.size ≤ w2.heap.size := HB2.out.size
      clear hb2 HO HBR
      cases fb
      · have HS2 : Hid (setsTo p (k + 1) = L) := by show _ = _; rw [HSS.out]; simp
        clear HSS
        go_wp2
        go_roundw
        case rel => exact ⟨k + 1, by omega, by go_num, by rw [HS2.out]; exact HO2.out, HB2.out⟩
        case measure => simp [intOf]; omega
      · have HS2 : Hid (setsTo p (k + 1) = L ++ [(k : Int)]) := by show _ = _; rw [HSS.out]; simp
        clear HSS
        go_wp2_with (first | (at_builtin; refine wpList_append_own _ rfl _ _ 22 rfl w.heap.size 3 i3 (.int .i64 0) 1 8 Tryd.underlying22 hi3 hz30 hz31 hz32 rfl (by decide) _ _ _ rfl (HO2.out.alloc _) ⟨w2.heap.size, 0, none⟩ 1 1 [.int .i64 k] rfl rfl (one_new _ _ _) (one_int _) ?c3 ?c4 ?c5 ?_))
        case c3 => unfold maxLen; omega
        case c4 => omega
        case c5 => first | exact hsz2 | (simp; omega)
        intro v' w7 ho hg _
        have R := owns_push (z := (k : Int)) (N := L.length + 1) hsz2 (l := L) HO2.out HB2.out ho hg rfl
        have R1 : Hid (w7.ownsRow w.heap.size 3 1 v' (setsTo p (k + 1)).length (ints (setsTo p (k + 1)))) := by
          have h := R.1
          show World.ownsRow _ _ _ _ _ _ _
          rw [HS2.out, List.length_append, List.length_singleton]
          exact h
        have R2 : Hid (Below w.heap.size w w7) := R.2
        clear R ho hg
        go_wp2
        go_roundw
        case rel => exact ⟨k + 1, by omega, by go_num, R1.out, R2.out⟩
        case measure => simp [intOf]; omega
    · have hke : tn = k := by omega
      subst hke
      go_wp2
      go_ret
      exact ⟨_, rfl, HO.out, HBR.out⟩

/-- What Circuits answers. -/
def circL (N : Int) (bs : List Int) : List Int := if matE N bs = 0 then setsTo (circB bs) (2 ^ N.toNat) else []

set_option maxRecDepth 100000 in
set_option maxHeartbeats 800000 in
theorem circuits_any (N : Int) (bs : List Int) (v : Value) (w : World) (hv : Sl w.heap.size 3 w v (ints bs)) (hl : bs.length ≤ 1000000) (hT : TabB w) :
    Calls Tryd.prog 10 #[.agg #[.int .i64 N, v]] w fun e w' => ∃ u, e = .returned (.tuple #[u, .int .i64 (matE N bs)]) ∧ Sl 0 3 w' u (ints (circL N bs)) ∧ Below w.heap.size w w' := by
  obtain ⟨ao, cap, hvv, hlc, hcm⟩ := sl_open hv
  subst hvv
  obtain ⟨W, hW⟩ : ∃ W, W = w.alloc (.cells #[.int .i64 N, .slice ao bs.length cap] 25) := ⟨_, rfl⟩
  have HBA : Hid (Below w.heap.size w W) := by rw [hW]; exact (Below.refl _ _).alloc (Nat.le_refl _) _
  have c0 : W.cell? ⟨w.heap.size, 0, none⟩ = some (.int .i64 N) := by rw [hW]; simp
  have c1 : W.cell? ⟨w.heap.size, 1, none⟩ = some (.slice ao bs.length cap) := by rw [hW]; simp
  have HC : Hid (∀ W', Below W.heap.size W W' → W'.cell? ⟨w.heap.size, 0, none⟩ = some (.int .i64 N) ∧ W'.cell? ⟨w.heap.size, 1, none⟩ = some (.slice ao bs.length cap) ∧ Sl w.heap.size 3 W' (.slice ao bs.length cap) (ints bs) ∧ TabB W' ∧ Below w.heap.size w W') := fun W' h =>
    ⟨(h.cell (lt_of_cell c0)).trans c0, (h.cell (lt_of_cell c1)).trans c1, (hv.below HBA.out (Nat.le_refl _)).below h (Nat.le_refl _), (hT.below HBA.out).below h, HBA.out.trans (h.mono HBA.out.size)⟩
  have HCK : Hid (Calls Tryd.prog 16 #[.agg #[.int .i64 N, .slice ao bs.length cap]] W fun e w' => e = .returned (.int .i64 (matE N bs)) ∧ Below W.heap.size W w') :=
    checkM_any N bs _ W ((hv.below HBA.out (Nat.le_refl _)).more HBA.out.size) hl (hT.below HBA.out)
  clear hv hT
  go_enter Tryd.func10, Tryd.ntmps10
  go_wp2_with fail
  rw [← hW]
  clear hW c0 c1
  refine HCK.out.mono ?_
  rintro e w1 ⟨rfl, hb1⟩
  have HB1 : Hid (Below W.heap.size W w1) := hb1
  obtain ⟨d0, d1, -, -, hbw⟩ := HC.out w1 hb1
  have HBF : Hid (Below w.heap.size w w1) := hbw
  clear hb1 HCK hbw
  by_cases hm : matE N bs ≠ 0
  · have HE : Hid (circL N bs = []) := if_neg hm
    have q1 : (matE N bs != 0) = true := by simpa using hm
    clear hm
    generalize hE : matE N bs = E at *
    have HEE : Hid (matE N bs = E) := hE
    clear hE
    go_wp2
    exact bodyPost_ret (v := .tuple #[.slice none 0 0, .int .i64 E]) (by simp [results, Tryd.results10, go_sem]) rfl ⟨_, by rw [HEE.out], by rw [HE.out]; exact Sl.nil _ _ _, HBF.out⟩
  · have hm0 : matE N bs = 0 := by omega
    obtain ⟨hb8, hN0, hN8⟩ := mat_b8 hm0
    have HB8 : Hid (B8 bs) := hb8
    obtain ⟨n, rfl⟩ : ∃ n : Nat, N = (n : Int) := ⟨N.toNat, by omega⟩
    have hn8 : n ≤ 8 := by omega
    have HE : Hid (circL (n : Int) bs = setsTo (circB bs) (2 ^ n)) := if_pos hm0
    have HM0 : Hid (matE (n : Int) bs = 0) := hm0
    rw [hm0]
    clear hm hm0 hb8 hN0 hN8
    have HFR : Hid (Calls Tryd.prog 20 #[.agg #[.int .i64 n, .slice ao bs.length cap]] w1 fun e w' => e = .returned (.func (.func 33) #[] #[.pointer (some ⟨w1.heap.size, 0, none⟩)]) ∧ w' = w1.alloc (.cells #[.int .i64 n, .slice ao bs.length cap] 25)) := freeIn_any n _ w1
    go_wp2_with fail
    refine HFR.out.mono ?_
    rintro e w2 ⟨rfl, hw2⟩
    have HB2 : Hid (Below w1.heap.size w1 w2) := by rw [hw2]; exact (Below.refl _ _).alloc (Nat.le_refl _) _
    have g1 : w2.cell? ⟨w1.heap.size, 1, none⟩ = some (.slice ao bs.length cap) := by rw [hw2]; simp
    clear hw2 HFR
    obtain ⟨wz, hwz⟩ : ∃ wz, wz = (w2.alloc (.cells #[.func (.func 33) #[] #[.pointer (some ⟨w1.heap.size, 0, none⟩)]] 52)) := ⟨_, rfl⟩
    have HB3 : Hid (Below w2.heap.size w2 wz) := by rw [hwz]; exact (Below.refl _ _).alloc (Nat.le_refl _) _
    have HZ1 : Hid (Below W.heap.size W wz) := HB1.out.trans ((HB2.out.trans (HB3.out.mono HB2.out.size)).mono HB1.out.size)
    obtain ⟨z0, z1, -, -, hbz⟩ := HC.out wz HZ1.out
    have HBZ : Hid (Below w.heap.size w wz) := hbz
    have g2 : wz.cell? ⟨w1.heap.size, 1, none⟩ = some (.slice ao bs.length cap) := (HB3.out.cell (lt_of_cell g1)).trans g1
    have g3 : wz.cell? ⟨w2.heap.size, 0, none⟩ = some (frV w1.heap.size) := by rw [hwz]; simp
    have HST : Hid (Calls Tryd.prog 26 #[.int .i64 n, .func (.func 21) #[] #[.pointer (some ⟨w2.heap.size, 0, none⟩)]] wz fun e w' => ∃ u, e = .returned u ∧ w'.ownsRow wz.heap.size 3 1 u (setsTo (circB bs) (2 ^ n)).length (ints (setsTo (circB bs) (2 ^ n))) ∧ Below wz.heap.size wz w') :=
      setsC1_any n (circB bs) w2.heap.size wz hn8 fun s hs W' h => by
        obtain ⟨-, -, q3, q4, -⟩ := HC.out W' (HZ1.out.trans (h.mono HZ1.out.size))
        exact circ1_any w.heap.size bs s w1.heap.size w2.heap.size _ W' q3 HB8.out hs q4 ((h.cell (lt_of_cell g2)).trans g2) ((h.cell (lt_of_cell g3)).trans g3)
    rw [hwz] at z0 z1
    clear g1 g2 g3 hbz HB2 HB3
    go_wp2_with fail
    rw [← hwz]
    clear hwz z0 z1
    refine (HST.out).mono ?_
    rintro e w5 ⟨u, rfl, ho, hb5⟩
    have HS5 : Hid (Sl 0 3 w5 u (ints (circL (n : Int) bs))) := by rw [HE.out]; exact Sl.own ho
    have HB5 : Hid (Below w.heap.size w w5) := HBZ.out.trans (hb5.mono HBZ.out.size)
    clear ho hb5
    go_wp2
    exact bodyPost_ret (v := .tuple #[u, .int .i64 0]) (by simp [results, Tryd.results10, go_sem]) rfl ⟨_, by rw [HM0.out], HS5.out, HB5.out⟩

end Go.Proofs.YtkdileeahbaobaaDoor

/- matroid.Flats' closures. -/
namespace Go.Proofs.YtkdileeahbaobaaDoor
open Go.RowKit
attribute [local go_sem ↓] Go.wp_at_zero Go.wp_at_succ

end Go.Proofs.YtkdileeahbaobaaDoor

/- matroid.Flats: its sets, gone through by setsThat. -/
namespace Go.Proofs.YtkdileeahbaobaaDoor
open Go.RowKit
attribute [local go_sem ↓] Go.wp_at_zero Go.wp_at_succ

/-- What Flats answers. -/
def flatL (N : Int) (bs : List Int) : List Int := if matE N bs = 0 then setsTo (flatB N.toNat bs) (2 ^ N.toNat) else []

end Go.Proofs.YtkdileeahbaobaaDoor
