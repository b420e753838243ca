/- matroid.Greedy: the walk. -/
import Derived.Test.YtkndimmcndfnnaaDoorMt14
namespace Go.Proofs.YtkndimmcndfnnaaDoor
open Go.RowKit
attribute [local go_sem ↓] Go.wp_at_zero Go.wp_at_succ

def grA (N : Int) (bs ws : List Int) : Nat × Int := if grE N bs ws = 0 then grT bs ws (hvL ws) ws.length else (0, 0)

set_option maxRecDepth 100000 in
theorem freeIn_any (N : Int) (v : Value) (w : World) :
    Calls Tryd.prog 16 #[.agg #[.int .i64 N, v]] w fun e w' => e = .returned (.func (.func 28) #[] #[.pointer (some ⟨w.heap.size, 0, none⟩)]) ∧ w' = w.alloc (.cells #[.int .i64 N, v] 25) := by
  go_enter Tryd.func16, Tryd.ntmps16
  go_wp2
  go_ret
  exact ⟨rfl, rfl⟩

set_option maxRecDepth 100000 in
set_option maxHeartbeats 1600000 in
theorem greedy_any (N : Int) (bs ws : List Int) (v wv : Value) (w : World) (hv : Sl w.heap.size 3 w v (ints bs)) (hwv : Sl w.heap.size 3 w wv (ints ws)) (hl : bs.length ≤ 1000000) (hT : TabB w) :
    Calls Tryd.prog 7 #[.agg #[.int .i64 N, v], wv] w fun e w' => e = .returned (.tuple #[.int .i64 ((grA N bs ws).1 : Int), .int .i64 (grA N bs ws).2, .int .i64 (grE N bs ws)]) ∧ Below w.heap.size w w' := by
  obtain ⟨ao, cap, hvv, hlc, hcm⟩ := sl_open hv
  subst hvv
  obtain ⟨wo, wc, hwvv, hwlc, hwcm⟩ := sl_open hwv
  subst hwvv
  obtain ⟨W, hW⟩ : ∃ W, W = w.alloc (.cells #[.int .i64 N, .slice ao bs.length cap] 25) := ⟨_, rfl⟩
  have HBA : Hid (Below w.heap.size w W) := by rw [hW]; exact (Below.refl _ _).alloc (Nat.le_refl _) _
  have c0 : W.cell? ⟨w.heap.size, 0, none⟩ = some (.int .i64 N) := by rw [hW]; simp
  have c1 : W.cell? ⟨w.heap.size, 1, none⟩ = some (.slice ao bs.length cap) := by rw [hW]; simp
  have HC : Hid (∀ W', Below W.heap.size W W' → W'.cell? ⟨w.heap.size, 0, none⟩ = some (.int .i64 N) ∧ W'.cell? ⟨w.heap.size, 1, none⟩ = some (.slice ao bs.length cap) ∧ Sl w.heap.size 3 W' (.slice ao bs.length cap) (ints bs) ∧ Sl w.heap.size 3 W' (.slice wo ws.length wc) (ints ws) ∧ TabB W' ∧ Below w.heap.size w W') := fun W' h =>
    ⟨(h.cell (lt_of_cell c0)).trans c0, (h.cell (lt_of_cell c1)).trans c1, (hv.below HBA.out (Nat.le_refl _)).below h (Nat.le_refl _), (hwv.below HBA.out (Nat.le_refl _)).below h (Nat.le_refl _), (hT.below HBA.out).below h, HBA.out.trans (h.mono HBA.out.size)⟩
  have HCK : Hid (Calls Tryd.prog 14 #[.agg #[.int .i64 N, .slice ao bs.length cap]] W fun e w' => e = .returned (.int .i64 (matE N bs)) ∧ Below W.heap.size W w') :=
    checkM_any N bs _ W ((hv.below HBA.out (Nat.le_refl _)).more HBA.out.size) hl (hT.below HBA.out)
  clear hv hwv hT
  go_enter Tryd.func7, Tryd.ntmps7
  go_wp2_with fail
  rw [← hW]
  clear hW c0 c1
  refine HCK.out.mono ?_
  rintro e w1 ⟨rfl, hb1⟩
  have HB1 : Hid (Below W.heap.size W w1) := hb1
  obtain ⟨d0, d1, -, hws, -, hbw⟩ := HC.out w1 hb1
  have HBF : Hid (Below w.heap.size w w1) := hbw
  clear hb1 HCK hbw
  by_cases hm : matE N bs ≠ 0
  · have HE : Hid (grE N bs ws = matE N bs) := if_pos hm
    have HA : Hid (grA N bs ws = (0, 0)) := if_neg (by rw [HE.out]; exact hm)
    have q1 : (matE N bs != 0) = true := by simpa using hm
    clear hm hws
    generalize matE N bs = E at *
    go_wp2
    exact bodyPost_ret (v := .tuple #[.int .i64 0, .int .i64 0, .int .i64 E]) (by simp [results, Tryd.results7, go_sem]) rfl ⟨by rw [HA.out, HE.out]; rfl, HBF.out⟩
  · have hm0 : matE N bs = 0 := by omega
    obtain ⟨hb8, hN0, hN8⟩ := mat_b8 hm0
    have HB8 : Hid (B8 bs) := hb8
    obtain ⟨n, rfl⟩ : ∃ n : Nat, N = (n : Int) := ⟨N.toNat, by omega⟩
    have hn8 : n ≤ 8 := by omega
    have HG1 : Hid (grE (n : Int) bs ws = if (ws.length : Int) ≠ (n : Int) then 2 else if ws.any (farB · 1000) = true then 4 else 0) := if_neg hm
    rw [hm0]
    clear hm hm0 hb8 hN0 hN8
    by_cases hwl : ws.length = n
    · have q2 : ((ws.length : Int) != (n : Int)) = false := by rw [bne_eq_false_iff_eq]; omega
      have HG2 : Hid (grE (n : Int) bs ws = if ws.any (farB · 1000) = true then 4 else 0) := by
        show _ = _
        rw [HG1.out, if_neg (by omega)]
      have HWL : Hid (ws.length = n) := hwl
      have HAB : Hid (Calls Tryd.prog 15 #[.slice wo ws.length wc, .int .i64 1000] w1 fun e w' => e = .returned (.bool (ws.any (farB · 1000))) ∧ Below W.heap.size W w') :=
        (anyBeyond_any w.heap.size ws _ 1000 w1 hws (by omega) (by omega)).mono (by
          rintro e w' ⟨h1, h2⟩
          exact ⟨h1, HB1.out.trans (h2.mono HB1.out.size)⟩)
      have HFAR : Hid (ws.any (farB · 1000) = false → ∀ i : Nat, -1000 ≤ ws.getD i 0 ∧ ws.getD i 0 ≤ 1000) := fun h i => by
        by_cases hi : i < ws.length
        · have := List.any_eq_false.1 h (ws.getD i 0) (by simp [hi])
          simp [farB] at this
          simp [hi] at this ⊢
          omega
        · have e : ws.getD i 0 = 0 := by rw [List.getD_eq_getElem?_getD, List.getElem?_eq_none (by omega)]; rfl
          rw [e]; omega
      clear hwl hws HG1
      generalize ws.any (farB · 1000) = fb at *
      go_wp2_with fail
      refine HAB.out.mono ?_
      rintro e w2 ⟨rfl, hb2⟩
      have HB2 : Hid (Below W.heap.size W w2) := hb2
      obtain ⟨e0, e1, -, hws, -, hbw⟩ := HC.out w2 hb2
      have HBF2 : Hid (Below w.heap.size w w2) := hbw
      clear hb2 HAB hbw d0 d1
      cases fb
      · have HE : Hid (grE (n : Int) bs ws = 0) := HG2.out
        have HA : Hid (grA (n : Int) bs ws = grT bs ws (hvL ws) ws.length) := if_pos HE.out
        have HBD : Hid (∀ k, k ≤ n → (grT bs ws (hvL ws) k).1 < 256 ∧ -1000 * (k : Int) ≤ (grT bs ws (hvL ws) k).2 ∧ (grT bs ws (hvL ws) k).2 ≤ 1000 * (k : Int)) := grT_bd hn8 (by rw [(hvL_keep ws).1, HWL.out]) (by have := (hvL_keep ws).2; rw [HWL.out] at this; exact this) (HFAR.out rfl)
        have HFR := HFAR.out rfl
        have HFX : Hid (∀ i : Nat, -1000 ≤ ws.getD i 0 ∧ ws.getD i 0 ≤ 1000) := HFR
        clear hws HG2 HFAR HFR
        go_wp2_with fail
        refine (freeIn_any (n : Int) _ w2).mono ?_
        rintro e w3 ⟨rfl, hw3⟩
        have hb3 : Below w2.heap.size w2 w3 := by rw [hw3]; exact (Below.refl _ _).alloc (Nat.le_refl _) _
        have c3 : w3.cell? ⟨w2.heap.size, 1, none⟩ = some (.slice ao bs.length cap) := by rw [hw3]; simp
        have HB3 : Hid (Below W.heap.size W w3) := HB2.out.trans (hb3.mono HB2.out.size)
        obtain ⟨-, -, -, hws, -, -⟩ := HC.out w3 HB3.out
        have HHV : Hid (Calls Tryd.prog 17 #[.slice wo ws.length wc] w3 fun e w' => ∃ lo lc, e = .returned (.slice lo ws.length lc) ∧ Sl 0 3 w' (.slice lo ws.length lc) (ints (hvL ws)) ∧ Below w3.heap.size w3 w') :=
          (heaviest_any ws _ w3 (hws.more (by have h1 := HB3.out.size; have h2 := HBA.out.size; omega)) (by rw [HWL.out]; exact hn8)).mono (by
            rintro e w' ⟨u, rfl, h1, h2⟩
            obtain ⟨lo, lc, rfl⟩ := owns_form h1
            exact ⟨lo, lc, rfl, Sl.own h1, h2⟩)
        have HC3 : Hid (w3.cell? ⟨w2.heap.size, 1, none⟩ = some (.slice ao bs.length cap)) := c3
        clear hw3 hb3 c3 hws e0 e1
        go_wp2_with fail
        refine HHV.out.mono ?_
        rintro e w4 ⟨lo, lc, rfl, hs4, hb4⟩
        have HS4 : Hid (Sl 0 3 w4 (.slice lo ws.length lc) (ints (hvL ws))) := hs4
        have HB4 : Hid (Below w3.heap.size w3 w4) := hb4
        have HLK : Hid ((hvL ws).length = ws.length ∧ Pl ws.length (hvL ws)) := hvL_keep ws
        clear hs4 hb4 HHV
        have HGS : Hid (∀ k, grT bs ws (hvL ws) (k + 1) = if freeB bs ((grT bs ws (hvL ws) k).1 ||| 2 ^ ((hvL ws).getD k 0).toNat) = true then ((grT bs ws (hvL ws) k).1 ||| 2 ^ ((hvL ws).getD k 0).toNat, (grT bs ws (hvL ws) k).2 + ws.getD ((hvL ws).getD k 0).toNat 0) else grT bs ws (hvL ws) k) := fun k => rfl
        have HG0 : Hid (grT bs ws (hvL ws) 0 = (0, 0)) := rfl
        generalize hvL ws = l at *
        go_wp2
        go_loopw [5, 9, 11, 12, 30] (fun s t _ _ i wr => ∃ k : Nat, k ≤ ws.length ∧ i = .int .i64 k ∧ t = .int .u64 ((grT bs ws l k).1 : Int) ∧ s = .int .i64 (grT bs ws l k).2 ∧ Below w4.heap.size w4 wr) (fun _ _ _ _ i _ => ws.length - (intOf i).toNat)
        case atStart => exact ⟨0, Nat.zero_le _, rfl, by rw [HG0.out]; rfl, by rw [HG0.out], Below.refl _ _⟩
        case round =>
          obtain ⟨k, hk, rfl, rfl, rfl, hbr⟩ := hrel
          have HBR : Hid (Below w4.heap.size w4 wr) := hbr
          clear hbr
          have HBX : Hid (Below W.heap.size W wr) := (HB3.out.trans (HB4.out.mono HB3.out.size)).trans (HBR.out.mono (Nat.le_trans HB3.out.size HB4.out.size))
          by_cases hlt : k < ws.length
          · obtain ⟨b1, b2, b3⟩ := HBD.out k (by have := HWL.out; omega)
            obtain ⟨p1, p2⟩ := HLK.out.2 k (by rw [HLK.out.1]; exact hlt)
            obtain ⟨x, hx⟩ : ∃ x : Nat, l.getD k 0 = (x : Int) := ⟨(l.getD k 0).toNat, by omega⟩
            have hxl : x < ws.length := by omega
            have hx8 : x < 8 := by have := HWL.out; omega
            obtain ⟨lb, lq, lcc, hs, _, hcc⟩ := sl_cell (HS4.out.below HBR.out (Nat.le_refl _)) (k := k) (by rw [HLK.out.1]; exact hlt)
            rw [HLK.out.1] at hs
            simp only [Value.slice.injEq] at hs
            obtain ⟨rfl, -, rfl⟩ := hs
            rw [hx] at hcc
            have hpx : 2 ^ x < 256 := Nat.pow_lt_pow_right (n := 8) (by omega) hx8
            have HM : Hid ((grT bs ws l k).1 ||| 2 ^ x < 256) := Nat.or_lt_two_pow (n := 8) b1 hpx
            have e2 : bits .or .u64 ((grT bs ws l k).1 : Int) ((2 ^ x : Nat) : Int) = (((grT bs ws l k).1 ||| 2 ^ x : Nat) : Int) := bits_or_u64_nat _ _ (by omega) (by omega)
            have HON : Hid (Calls Tryd.prog 18 #[.int .i64 x] wr fun e w' => e = .returned (.int .u64 ((2 ^ x : Nat) : Int)) ∧ w' = wr) := by
              have := one_any (x : Int) wr (by omega) (by omega)
              rw [Int.toNat_natCast] at this
              exact this
            have HS1 : Hid (grT bs ws l (k + 1) = if freeB bs ((grT bs ws l k).1 ||| 2 ^ x) = true then ((grT bs ws l k).1 ||| 2 ^ x, (grT bs ws l k).2 + ws.getD x 0) else grT bs ws l k) := by
              have := HGS.out k
              rw [hx, Int.toNat_natCast] at this
              exact this
            have HSF : Hid (freeB bs ((grT bs ws l k).1 ||| 2 ^ x) = false → (grT bs ws l (k + 1)).1 = (grT bs ws l k).1 ∧ (grT bs ws l (k + 1)).2 = (grT bs ws l k).2) := fun h => by
              rw [HS1.out, h, if_neg (by decide)]; exact ⟨rfl, rfl⟩
            have HSG : Hid (freeB bs ((grT bs ws l k).1 ||| 2 ^ x) = true → (grT bs ws l (k + 1)).1 = (grT bs ws l k).1 ||| 2 ^ x ∧ (grT bs ws l (k + 1)).2 = (grT bs ws l k).2 + ws.getD x 0) := fun h => by
              rw [HS1.out, h, if_pos rfl]; exact ⟨rfl, rfl⟩
            clear HS1
            have HFI : Hid (Calls Tryd.prog 28 #[.int .u64 (((grT bs ws l k).1 ||| 2 ^ x : Nat) : Int), .pointer (some ⟨w2.heap.size, 0, none⟩)] wr fun e w' => e = .returned (.bool (freeB bs ((grT bs ws l k).1 ||| 2 ^ x))) ∧ Below w4.heap.size w4 w') := by
              have hb34 : Below w3.heap.size w3 wr := HB4.out.trans (HBR.out.mono HB4.out.size)
              refine (free1_any w.heap.size _ w2.heap.size bs _ wr (HC.out wr HBX.out).2.2.1 HB8.out HM.out ((hb34.cell (lt_of_cell HC3.out)).trans HC3.out)).mono ?_
              rintro e w' ⟨h1, h2⟩
              exact ⟨h1, HBR.out.trans (h2.mono HBR.out.size)⟩
            have HWX : Hid (∀ w', Below w4.heap.size w4 w' → ∃ xb xq, wo = some ⟨xb, xq, none⟩ ∧ w'.cell? ⟨xb, xq + x, none⟩ = some (.int .i64 (ws.getD x 0))) := fun w' h => by
              obtain ⟨-, -, -, hws, -, -⟩ := HC.out w' ((HB3.out.trans (HB4.out.mono HB3.out.size)).trans (h.mono (Nat.le_trans HB3.out.size HB4.out.size)))
              obtain ⟨xb, xq, xcc, hs, _, hc⟩ := sl_cell hws hxl
              simp only [Value.slice.injEq] at hs
              exact ⟨xb, xq, hs.1, hc⟩
            obtain ⟨z1, z2⟩ := HFX.out x
            have kI : (k : Int) < (ws.length : Int) := by omega
            have kI0 : (0 : Int) ≤ (k : Int) := by omega
            have xI : (x : Int) < (ws.length : Int) := by omega
            have xI0 : (0 : Int) ≤ (x : Int) := by omega
            have k8 : (k : Int) ≤ 8 := by have := HWL.out; omega
            clear hx p1 p2 b1 hpx HM
            generalize freeB bs ((grT bs ws l k).1 ||| 2 ^ x) = fb at *
            generalize hM : (grT bs ws l k).1 ||| 2 ^ x = M at *
            generalize 2 ^ x = X at *
            generalize (grT bs ws l k).1 = T1 at *
            generalize (grT bs ws l k).2 = T2 at *
            generalize ws.getD x 0 = z at *
            clear hM
            go_wp2_with fail
            refine HON.out.mono ?_
            rintro e w5 ⟨rfl, hw5⟩
            rw [hw5]
            clear hw5 w5 HON
            go_wp2_with fail
            refine HFI.out.mono ?_
            rintro e w5 ⟨rfl, hb5⟩
            have HB5 : Hid (Below w4.heap.size w4 w5) := hb5
            obtain ⟨xb, xq, rfl, hcx⟩ := HWX.out w5 hb5
            clear hb5 HWX HFI hcc
            cases fb
            · obtain ⟨r1, r2⟩ := HSF.out rfl
              have R1 : Hid ((grT bs ws l (k + 1)).1 = T1) := r1
              have R2 : Hid ((grT bs ws l (k + 1)).2 = T2) := r2
              clear r1 r2 HSF HSG
              go_wp2
              go_roundw
              case rel => exact ⟨k + 1, by omega, by go_num, by rw [R1.out], by rw [R2.out], HB5.out⟩
              case measure => simp [intOf]; omega
            · obtain ⟨r1, r2⟩ := HSG.out rfl
              have R1 : Hid ((grT bs ws l (k + 1)).1 = M) := r1
              have R2 : Hid ((grT bs ws l (k + 1)).2 = T2 + z) := r2
              clear r1 r2 HSF HSG
              go_wp2
              go_roundw
              case rel => exact ⟨k + 1, by omega, by go_num, by rw [R1.out], by rw [R2.out], HB5.out⟩
              case measure => simp [intOf]; omega
          · have hke : k = ws.length := by omega
            have kD : decide ((k : Int) < (ws.length : Int)) = false := decide_eq_false (by omega)
            have HAX : Hid (grA (n : Int) bs ws = grT bs ws l k) := by
              show _ = _
              rw [HA.out, hke]
            have HBE : Hid (Below w.heap.size w wr) := (HC.out wr HBX.out).2.2.2.2.2
            obtain ⟨b1, b2, b3⟩ := HBD.out k (by have := HWL.out; omega)
            clear hke
            generalize hG : grT bs ws l k = gg at *
            obtain ⟨T1, T2⟩ := gg
            go_wp2
            exact bodyPost_ret (v := .tuple #[.int .i64 (T1 : Int), .int .i64 T2, .int .i64 0]) (by simp [results, Tryd.results7, go_sem]) rfl ⟨by rw [HAX.out, HE.out], HBE.out⟩
      · have HE : Hid (grE (n : Int) bs ws = 4) := HG2.out
        have HA : Hid (grA (n : Int) bs ws = (0, 0)) := if_neg (by rw [HE.out]; decide)
        clear hws HG2 HFAR
        go_wp2
        exact bodyPost_ret (v := .tuple #[.int .i64 0, .int .i64 0, .int .i64 4]) (by simp [results, Tryd.results7, go_sem]) rfl ⟨by rw [HA.out, HE.out]; rfl, HBF2.out⟩
    · have q2 : ((ws.length : Int) != (n : Int)) = true := by rw [bne_iff_ne]; omega
      have HE : Hid (grE (n : Int) bs ws = 2) := by
        show _ = _
        rw [HG1.out, if_pos (by omega)]
      have HA : Hid (grA (n : Int) bs ws = (0, 0)) := if_neg (by rw [HE.out]; decide)
      clear hwl hws HG1
      go_wp2
      exact bodyPost_ret (v := .tuple #[.int .i64 0, .int .i64 0, .int .i64 2]) (by simp [results, Tryd.results7, go_sem]) rfl ⟨by rw [HA.out, HE.out]; rfl, HBF.out⟩

end Go.Proofs.YtkndimmcndfnnaaDoor
