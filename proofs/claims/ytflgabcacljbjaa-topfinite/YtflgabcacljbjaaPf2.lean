/- TopFinite: the law's walk. -/
import Derived.Test.YtflgabcacljbjaaPfA
import Derived.Test.YtflgabcacljbjaaFlC
import Derived.Test.YtflgabcacljbjaaVlA
import Derived.Test.YtflgabcacljbjaaTk1
namespace Go.Proofs.Ytflgabcacljbjaa
open Go.RowKit Lin
attribute [local go_sem ↓] Go.wp_at_zero Go.wp_at_succ

/-- None of the first planes goes through a place. -/
def fre (d : Nat) (P : List (List Int)) (x y k : Nat) : Bool := (List.range k).all fun i => !decide ((127 : Int) ∣ hx d (P.getD i []) x y)

theorem fre_succ (d : Nat) (P : List (List Int)) (x y k : Nat) : fre d P x y (k + 1) = (fre d P x y k && !decide ((127 : Int) ∣ hx d (P.getD k []) x y)) := by
  simp [fre, List.range_succ]

theorem fre_end (d : Nat) (P : List (List Int)) (x y : Nat) : fre d P x y P.length = decide (onT d P x y = 0) := by
  rw [Bool.eq_iff_iff, decide_eq_true_iff]
  unfold fre onT
  rw [List.all_eq_true]
  constructor
  · intro h
    apply Nat.eq_of_testBit_eq
    intro i
    rw [mkS_bit, Nat.zero_testBit]
    by_cases hi : i < P.length
    · have := h i (List.mem_range.2 hi)
      rw [Bool.not_eq_true'] at this
      rw [this, Bool.and_false]
    · simp [hi]
  · intro h i hi
    have h2 := mkS_bit (fun i => decide ((127 : Int) ∣ hx d (P.getD i []) x y)) P.length i
    rw [h, Nat.zero_testBit] at h2
    simp only [List.mem_range.1 hi, decide_true, Bool.true_and] at h2
    rw [← h2]; rfl

theorem fre_le {d : Nat} {P : List (List Int)} {x y k n : Nat} (hk : k ≤ n) (h : fre d P x y k = false) : fre d P x y n = false := by
  unfold fre at h ⊢
  rw [List.all_eq_false] at h ⊢
  obtain ⟨i, hi, h⟩ := h
  exact ⟨i, List.mem_range.2 (by have := List.mem_range.1 hi; omega), h⟩

/-- How many, of the first rows. -/
def cnR (d : Nat) (P : List (List Int)) (x k : Nat) : Int := sumN k fun y => if onT d P x y = 0 then 1 else 0
def cnX (d : Nat) (P : List (List Int)) (k : Nat) : Int := sumN k fun x => cnR d P x (yb d)

theorem cnR_bd (d : Nat) (P : List (List Int)) (x : Nat) : ∀ k, 0 ≤ cnR d P x k ∧ cnR d P x k ≤ k
  | 0 => by simp [cnR, sumN]
  | k + 1 => by
    have := cnR_bd d P x k
    unfold cnR at this ⊢
    rw [sumN]
    split <;> omega

theorem cnX_bd (d : Nat) (P : List (List Int)) : ∀ k, 0 ≤ cnX d P k ∧ cnX d P k ≤ 127 * k
  | 0 => by simp [cnX, sumN]
  | k + 1 => by
    have h1 := cnX_bd d P k
    have h2 := cnR_bd d P k (yb d)
    have h3 : yb d ≤ 127 := by unfold yb; split <;> decide
    unfold cnX at h1 ⊢
    rw [sumN]
    omega

theorem cnX_fr (d : Nat) (P : List (List Int)) : cnX d P 127 = frN d P := rfl

theorem hx_dot {d : Nat} {p : List Int} (hd : d = 1 ∨ d = 2) (x y : Nat) : dotL ([(x : Int), (y : Int)].take d) p - p.getD d 0 = hx d p x y := by
  rcases hd with rfl | rfl
  · simp [dotL, sumN, hx, V]
    grind
  · simp [dotL, sumN, hx, V]
    grind

theorem tmod127 (v : Int) : (v.tmod 127 != 0) = !decide ((127 : Int) ∣ v) := by
  rw [Bool.eq_iff_iff]
  simp [Int.dvd_iff_tmod_eq_zero]

set_option maxRecDepth 100000 in
set_option maxHeartbeats 6400000 in
theorem topFinite_any (l : List Int) (dm my : Int) (v : Value) (w : World) (hv : Sl w.heap.size 3 w v (ints l)) (hr : ∀ z ∈ l, In64 z) (h1 : In64 dm) (h2 : In64 my) :
    Calls Try.prog 3 #[v, .int .i64 dm, .int .i64 my] w fun e w' => e = .returned (.bool true) ∧ Below w.heap.size w w' := by
  obtain ⟨vo, vc, rfl, hvc, hvm⟩ := sl_open hv
  have HV : Hid (Sl w.heap.size 3 w (.slice vo l.length vc) (ints l)) := hv
  have HR : Hid (∀ z ∈ l, In64 z) := hr
  have HPK : Hid (∀ (c : Int) (n : Nat) (X : World), In64 c → 1 ≤ n → n ≤ 100000 → Calls Try.prog 4 #[.int .i64 c, .int .i64 (n : Int)] X fun e w' => ∃ z : Nat, e = .returned (.int .i64 (z : Int)) ∧ z < n ∧ w' = X) := fun c n X hc h1 h2 => by
    refine (pick_any c n X (by omega) (by omega) hc).mono ?_
    rintro e w' ⟨z, rfl, hz, hw⟩
    exact ⟨z.toNat, by rw [show ((z.toNat : Nat) : Int) = z by omega], by omega, hw⟩
  have H1 : Hid (In64 dm) := h1
  have H2 : Hid (In64 my) := h2
  clear hv hr h1 h2
  by_cases hbig : 256 < l.length
  · have t1 : (256 : Int) < (l.length : Int) := by omega
    go_enter Try.func3, Try.ntmps3
    go_wp2
    go_ret
    exact ⟨rfl, Below.refl _ _⟩
  have t1 : ¬ (256 : Int) < (l.length : Int) := by omega
  have HPL : Hid (∀ (d m : Nat) X, 1 ≤ d → d ≤ 3 → m ≤ 3 → Below w.heap.size w X → Calls Try.prog 5 #[.slice vo l.length vc, .int .i64 (d : Int), .int .i64 (m : Int)] X fun e w' => ∃ uo uc P, e = .returned (.slice uo P.length uc) ∧ Mat 0 22 3 w' (.slice uo P.length uc) P ∧ P.length ≤ m ∧ (PlG d P ∧ P3 P) ∧ Below X.heap.size X w') := fun d m X a1 a2 a3 hX => planesOf3_any w.heap.size l d m _ X (HV.out.below hX (Nat.le_refl _)) HR.out (by omega) a1 a2 (by omega)
  go_enter Try.func3, Try.ntmps3
  go_wp2_with fail
  refine (HPK.out dm 2 w H1.out (by decide) (by decide)).mono ?_
  rintro e w' ⟨z1, rfl, hz1, hw⟩
  obtain rfl := hw.symm
  clear hw
  obtain ⟨d, hd⟩ : ∃ d, d = z1 + 1 := ⟨_, rfl⟩
  have hdI : IntKind.i64.wrap (1 + (z1 : Int)) = (d : Int) := by rw [IntKind.wrap_i64]; omega
  have hdI2 : (1 : Int) + (z1 : Int) = (d : Int) := by omega
  have hd12 : d = 1 ∨ d = 2 := by omega
  have HD : Hid (d = 1 ∨ d = 2) := hd12
  clear hd hd12
  have hd1 : 1 ≤ d := by have := HD.out; omega
  have hd2 : d ≤ 2 := by have := HD.out; omega
  go_wp2_with fail
  refine (HPK.out my 4 w H2.out (by decide) (by decide)).mono ?_
  rintro e w' ⟨m, rfl, hm, hw⟩
  obtain rfl := hw.symm
  clear hw
  go_wp2_with fail
  refine (HPL.out d m w hd1 (by omega) (by omega) (Below.refl _ _)).mono ?_
  rintro e w1 ⟨uo, uc, P, rfl, hM, hPl, ⟨hG, hP3⟩, hb1⟩
  have hpo := poly_any d P _ w1 hd1 (by omega) hG (by omega) hM
  have HPO : Hid (Calls Try.prog 6 #[.int .i64 (d : Int), .slice uo P.length uc] w1 fun e w' => ∃ co cc, e = .returned (.tuple #[.slice co (d + 1) cc, .int .i64 0]) ∧ Sl 0 3 w' (.slice co (d + 1) cc) (ints ((List.range (d + 1)).map (whC d P))) ∧ Below w1.heap.size w1 w') := hpo
  have HFN : Hid (frN d P = sumN (d + 1) fun j => whC d P j * (127 : Int) ^ j) := finite HD.out hG hP3 (by omega)
  have HPM : Hid (Mat 0 22 3 w1 (.slice uo P.length uc) P) := hM
  have HRW : Hid (∀ p ∈ P, p.length = d + 1 ∧ ∀ z ∈ p, z.natAbs ≤ 3) := fun p hp => ⟨(hG.row p hp).1, hP3 p hp⟩
  have HB1 : Hid (Below w.heap.size w w1) := hb1
  clear hM hG hP3 hb1 hpo HPL HR HV HPK
  have hP3 : P.length ≤ 3 := by omega
  go_wp2_with fail
  refine HPO.out.mono ?_
  rintro e w2 ⟨co, cc, rfl, hs2, hb2⟩
  have HS2 : Hid (Sl 0 3 w2 (.slice co (d + 1) cc) (ints ((List.range (d + 1)).map (whC d P)))) := hs2
  have HB2 : Hid (Below w.heap.size w w2) := HB1.out.trans (hb2.mono HB1.out.size)
  have HM2 : Hid (Mat 0 22 3 w2 (.slice uo P.length uc) P) := HPM.out.below hb2 (Nat.le_refl _)
  clear hs2 hb2 HPO HPM HB1
  have hdm1 : d ≤ 3 := by omega
  go_wp2
  go_loopw [11, 12, 13, 14, 15, 16] (fun n x _ _ _ _ wr => ∃ X : Nat, X ≤ 127 ∧ x = .int .i64 (X : Int) ∧ n = .int .i64 (cnX d P X) ∧ Below w2.heap.size w2 wr) (fun _ x _ _ _ _ _ => 127 - (intOf x).toNat)
  case atStart => exact ⟨0, Nat.zero_le _, rfl, rfl, Below.refl _ _⟩
  case round =>
    obtain ⟨X, hX, rfl, rfl, hbX⟩ := hrel
    have HBX : Hid (Below w2.heap.size w2 wr) := hbX
    have hcb := cnX_bd d P X
    clear hbX
    by_cases hlt : X < 127
    · have HCS : Hid (cnX d P (X + 1) = cnX d P X + cnR d P X (yb d)) := rfl
      obtain ⟨cx, hcx⟩ : ∃ cx, cx = cnX d P X := ⟨_, rfl⟩
      rw [← hcx] at hcb HCS ⊢
      clear hcx
      have hXI : (X : Int) < 127 := by omega
      have hcx1 : 0 ≤ cx := hcb.1
      have hcx2 : cx ≤ 20000 := by omega
      clear hcb
      go_wp2
      go_loopw [11, 13, 14, 15, 16] (fun n y _ _ _ wr' => ∃ Y : Nat, Y ≤ yb d ∧ y = .int .i64 (Y : Int) ∧ n = .int .i64 (cx + cnR d P X Y) ∧ Below w2.heap.size w2 wr') (fun _ y _ _ _ _ => 127 - (intOf y).toNat)
      case atStart => exact ⟨0, Nat.zero_le _, rfl, by simp [cnR, sumN], HBX.out⟩
      case round =>
        obtain ⟨Y, hY, rfl, rfl, hbY⟩ := hrel
        have HBY : Hid (Below w2.heap.size w2 wr) := hbY
        have hcR := cnR_bd d P X Y
        obtain ⟨hcR1, hcR2⟩ := hcR
        have hYb : yb d ≤ 127 := by unfold yb; split <;> decide
        clear hbY
        by_cases hYl : Y < yb d
        · have hYI : (Y : Int) < 127 := by omega
          have hcR3 : cnR d P X Y ≤ 200 := by omega
          have hbr : ((d : Int) == 1) = true → decide ((0 : Int) < (Y : Int)) = false := fun h => by
            have h2 : d = 1 := by simp at h; omega
            rw [h2] at hYl
            simp [yb] at hYl
            simp; omega
          have HROW : Hid (∀ k, k < P.length → ∃ pb po rb ro rc c DT, uo = some ⟨pb, po, none⟩ ∧ (∀ Z, Below w2.heap.size w2 Z → Z.cell? ⟨pb, po + k, none⟩ = some (.slice (some ⟨rb, ro, none⟩) (d + 1) rc)) ∧ (∀ Z, Below w2.heap.size w2 Z → Z.cell? ⟨rb, ro + d, none⟩ = some (.int .i64 c)) ∧
              (∀ Z, Below w2.heap.size w2 Z → Calls Try.prog 7 #[.slice (some ⟨rb, ro, none⟩) (d + 1) rc, .slice (some ⟨Z.heap.size, 0, none⟩) d 2] (Z.alloc (.cells #[.int .i64 (X : Int), .int .i64 (Y : Int)] 3)) fun e w' => e = .returned (.int .i64 DT) ∧ ∃ n, w' = (Z.alloc (.cells #[.int .i64 (X : Int), .int .i64 (Y : Int)] 3)).drewN n) ∧
              DT - c = hx d (P.getD k []) X Y ∧ fre d P X Y (k + 1) = (fre d P X Y k && !decide ((127 : Int) ∣ hx d (P.getD k []) X Y)) ∧ (d + 1 ≤ rc ∧ rc ≤ 9223372036854775807 ∧ DT.natAbs ≤ 100000 ∧ c.natAbs ≤ 3 ∧ (hx d (P.getD k []) X Y).natAbs ≤ 200000)) := fun k hk => by
            obtain ⟨pb, po, cap, rv, e1, _, hc1, hs1⟩ := mat_cell HM2.out hk
            simp only [Value.slice.injEq] at e1
            obtain ⟨hpl, hp3⟩ := HRW.out _ (getD_memR hk)
            obtain ⟨ro', rc, hrv, hrc1, hrc2⟩ := sl_open hs1
            rw [hpl] at hrv hrc1
            have hdl : d < (P.getD k []).length := by omega
            obtain ⟨rb, ro, cp2, hs2, hc2, hcc2⟩ := sl_cell hs1 hdl
            rw [hrv] at hs2
            simp only [Value.slice.injEq] at hs2
            obtain ⟨hro, _, _⟩ := hs2
            subst hro
            have hh := hx_dot (p := P.getD k []) HD.out X Y
            have hin : ∀ z ∈ [(X : Int), (Y : Int)].take d, z.natAbs ≤ 127 := fun z hz => by
              have := List.mem_of_mem_take hz
              simp at this
              omega
            have hdv : (dotL ([(X : Int), (Y : Int)].take d) (P.getD k [])).natAbs ≤ 100000 := by
              have hc3 := V_small (P := P) (fun p hp => (HRW.out p hp).2) hk
              rcases HD.out with h | h
              · subst h
                have : dotL ([(X : Int), (Y : Int)].take 1) (P.getD k []) = (X : Int) * V (P.getD k []) 0 := by simp [dotL, sumN, V]
                rw [this, Int.natAbs_mul]
                exact Nat.le_trans (Nat.mul_le_mul (show (X : Int).natAbs ≤ 127 by omega) (hc3 0)) (by decide)
              · subst h
                have : dotL ([(X : Int), (Y : Int)].take 2) (P.getD k []) = (X : Int) * V (P.getD k []) 0 + (Y : Int) * V (P.getD k []) 1 := by simp [dotL, sumN, V]
                rw [this]
                have g1 : ((X : Int) * V (P.getD k []) 0).natAbs ≤ 127 * 3 := by rw [Int.natAbs_mul]; exact Nat.mul_le_mul (by omega) (hc3 0)
                have g2 : ((Y : Int) * V (P.getD k []) 1).natAbs ≤ 127 * 3 := by rw [Int.natAbs_mul]; exact Nat.mul_le_mul (by omega) (hc3 1)
                omega
            have hcb : ((P.getD k []).getD d 0).natAbs ≤ 3 := V_small (P := P) (fun p hp => (HRW.out p hp).2) hk d
            refine ⟨pb, po, rb, ro, rc, (P.getD k []).getD d 0, dotL ([(X : Int), (Y : Int)].take d) (P.getD k []), e1.1, fun Z hZ => (hZ.cell (lt_of_cell hc1)).trans (by rw [hc1, hrv]), fun Z hZ => (hZ.cell (lt_of_cell hcc2)).trans hcc2, fun Z hZ => ?_, hh, fre_succ d P X Y k, hrc1, hrc2, hdv, hcb, ?_⟩
            · have hZa := hZ.alloc hZ.size (.cells #[.int .i64 (X : Int), .int .i64 (Y : Int)] 3)
              have hsr := hs1.below hZa (Nat.le_refl _)
              rw [hrv] at hsr
              have hnew := heap_alloc_new Z (.cells #[.int .i64 (X : Int), .int .i64 (Y : Int)] 3)
              have hlt2 : ([(X : Int), (Y : Int)].take d).length = d := by simp; omega
              have hsx : Sl 0 3 (Z.alloc (.cells #[.int .i64 (X : Int), .int .i64 (Y : Int)] 3)) (.slice (some ⟨Z.heap.size, 0, none⟩) d 2) (ints ([(X : Int), (Y : Int)].take d)) := by
                refine ⟨some ⟨Z.heap.size, 0, none⟩, 2, by rw [ints_length, hlt2], by rw [ints_length, hlt2]; omega, by unfold maxLen; omega, fun i hi => ⟨Z.heap.size, 0, rfl, ?_, .inr ⟨_, hnew⟩⟩, fun e => by cases e⟩
                rw [ints_length, hlt2] at hi
                rw [ints_get _ _ (by rw [hlt2]; exact hi)]
                unfold World.cell?
                rw [hnew]
                rcases (show i = 0 ∨ i = 1 by omega) with rfl | rfl
                · have : ([(X : Int), (Y : Int)].take d).getD 0 0 = X := by rcases HD.out with h | h <;> subst h <;> rfl
                  rw [this]; rfl
                · have : ([(X : Int), (Y : Int)].take d).getD 1 0 = Y := by rcases HD.out with h | h <;> subst h <;> first | omega | rfl
                  rw [this]; rfl
              exact dotG_any 0 (P.getD k []) ([(X : Int), (Y : Int)].take d) _ _ _ hsr hsx (fun z hz => Nat.le_trans (hp3 z hz) (by decide)) (fun z hz => Nat.le_trans (hin z hz) (by decide)) (by omega) (by omega)
            · rw [← hh]; omega
          have HCUT : Hid (∀ (b : Nat) (Z : World), (Instr.slice 22 (.slice (some ⟨b, 0, none⟩) 2 2) none (some (.int .i64 (d : Int))) none).run Try.prog Z = .ok (.slice (some ⟨b, 0, none⟩) d 2) Z) := fun b Z => by
            have e1 : (0 : Int) ≤ (d : Int) ∧ (d : Int) ≤ 2 := by omega
            have e2 : d ≤ 2 := hd2
            have hz : ∀ w, (Go.sizeOf 3).run Try.prog w = .ok 1 w := fun w => by kernel_rfl
            simp [Instr.slice, Instr.sliceBounds, Instr.sliceBound, run_underlying Try.underlying22, asIntOf, e1, e2, hz, Addr.add, go_sem]
          have HYN : Hid (Y + 1 ≤ yb d ∧ Y < 127) := ⟨hYl, by omega⟩
          have hY1 : Y + 1 ≤ yb d := hYl
          clear hYl hY
          cases hb1 : ((d : Int) == 1)
          · clear hbr
            go_wp2
            go_loopw [14, 15, 16] (fun f i _ wq => ∃ k : Nat, k ≤ P.length ∧ i = .int .i64 (k : Int) ∧ f = .bool (fre d P X Y k) ∧ Below w2.heap.size w2 wq) (fun _ i _ _ => P.length - (intOf i).toNat)
            case atStart => exact ⟨0, Nat.zero_le _, rfl, rfl, HBY.out⟩
            case round =>
              obtain ⟨k, hk, rfl, rfl, hbk⟩ := hrel
              have HBK : Hid (Below w2.heap.size w2 wr) := hbk
              clear hbk
              by_cases hgo : k < P.length ∧ fre d P X Y k = true
              · obtain ⟨hkl, hfk⟩ := hgo
                obtain ⟨pb, po, rb, ro, rc, c, DT, hvo, hcell, hcd, hdot, hHH, hsucc, hHb⟩ := HROW.out k hkl
                subst hvo
                have q1 := hcell wr HBK.out
                have q2 := hcd wr HBK.out
                have hkI : (k : Int) < (P.length : Int) := by omega
                have HDT : Hid (∀ Z, Below w2.heap.size w2 Z → Calls Try.prog 7 #[.slice (some ⟨rb, ro, none⟩) (d + 1) rc, .slice (some ⟨Z.heap.size, 0, none⟩) d 2] (Z.alloc (.cells #[.int .i64 (X : Int), .int .i64 (Y : Int)] 3)) fun e w' => e = .returned (.int .i64 DT) ∧ ∃ n, w' = (Z.alloc (.cells #[.int .i64 (X : Int), .int .i64 (Y : Int)] 3)).drewN n) := hdot
                have HHH : Hid (DT - c = hx d (P.getD k []) X Y) := hHH
                have HSU : Hid (fre d P X Y (k + 1) = !decide ((127 : Int) ∣ hx d (P.getD k []) X Y)) := by
                  show _ = _
                  rw [hsucc, hfk, Bool.true_and]
                have HTM : Hid (((hx d (P.getD k []) X Y).tmod 127 != 0) = !decide ((127 : Int) ∣ hx d (P.getD k []) X Y)) := tmod127 _
                generalize hx d (P.getD k []) X Y = H at *
                obtain ⟨hb1, hb2, hb3, hb4, hb5⟩ := hHb
                have hwr : wrap64 (DT - c) = H := by rw [IntWalk.wrap64_in _ ⟨by omega, by omega⟩]; exact HHH.out
                have hwr2 : IntKind.i64.wrap (DT - c) = H := by rw [IntWalk.i64_left]; exact hwr
                have HCE : Hid (∀ Z, Below w2.heap.size w2 Z → Z.cell? ⟨pb, po + k, none⟩ = some (.slice (some ⟨rb, ro, none⟩) (d + 1) rc) ∧ Z.cell? ⟨rb, ro + d, none⟩ = some (.int .i64 c)) := fun Z hZ => ⟨hcell Z hZ, hcd Z hZ⟩
                have hcut := fun (b : Nat) => HCUT.out b
                clear hcell hcd hdot hHH hsucc q1 q2
                have hfk2 : (fre d P X Y k) = true := hfk
                generalize fre d P X Y k = fk at *
                subst hfk2
                go_upto_region 21 with fail
                have HBD : Hid (Below w2.heap.size w2 wr.drew) := HBK.out.drew
                refine wp_region_held_drew (S := fun Z => Z.cell? ⟨pb, po + k, none⟩ = some (.slice (some ⟨rb, ro, none⟩) (d + 1) rc) ∧ Z.cell? ⟨rb, ro + d, none⟩ = some (.int .i64 c)) (by kernel_rfl) (HCE.out _ HBD.out) (fun hHeld => ?_)
                refine wpAnyH_tk (i := 0) (d := 61) (v := (.slice (some ⟨pb, po, none⟩) P.length uc)) rfl rfl (by kernel_rfl) (by kernel_rfl) (by kernel_rfl) (fun _ _ _ h => h) (.inl ⟨by rfl, by (intro wq hSw; (try dsimp only at hSw); go_simp; (try (first | rfl | omega)))⟩) hHeld ?_
                simp only [Act.put, List.setIfInBounds_toArray, List.set_cons_zero, List.set_cons_succ]
                refine wpAnyH_tk (i := 1) (d := 62) (v := (.int .i64 (k : Int))) rfl rfl (by kernel_rfl) (by kernel_rfl) (by kernel_rfl) (fun _ _ _ h => h) (.inl ⟨by rfl, by (intro wq hSw; (try dsimp only at hSw); go_simp; (try (first | rfl | omega)))⟩) hHeld ?_
                simp only [Act.put, List.setIfInBounds_toArray, List.set_cons_zero, List.set_cons_succ]
                refine wpAnyH_tk (i := 2) (d := 63) (v := (.pointer (some ⟨pb, po + k, none⟩))) rfl rfl (by kernel_rfl) (by kernel_rfl) (by kernel_rfl) (fun _ _ _ h => h) (.inl ⟨by rfl, by (intro wq hSw; (try dsimp only at hSw); go_simp; (try (first | rfl | omega)))⟩) hHeld ?_
                simp only [Act.put, List.setIfInBounds_toArray, List.set_cons_zero, List.set_cons_succ]
                refine wpAnyH_tk (i := 3) (d := 64) (v := (.slice (some ⟨rb, ro, none⟩) (d + 1) rc)) rfl rfl (by kernel_rfl) (by kernel_rfl) (by kernel_rfl) (fun _ _ _ h => h) (.inl ⟨by rfl, by (intro wq hSw; (try dsimp only at hSw); go_simp; (try (first | rfl | omega)))⟩) hHeld ?_
                simp only [Act.put, List.setIfInBounds_toArray, List.set_cons_zero, List.set_cons_succ]
                refine wpAnyH_tk (i := 4) (d := 65) (v := (.int .i64 (X : Int))) rfl rfl (by kernel_rfl) (by kernel_rfl) (by kernel_rfl) (fun _ _ _ h => h) (.inl ⟨by rfl, by (intro wq hSw; (try dsimp only at hSw); go_simp; (try (first | rfl | omega)))⟩) hHeld ?_
                simp only [Act.put, List.setIfInBounds_toArray, List.set_cons_zero, List.set_cons_succ]
                refine wpAnyH_tk (i := 5) (d := 66) (v := (.int .i64 (Y : Int))) rfl rfl (by kernel_rfl) (by kernel_rfl) (by kernel_rfl) (fun _ _ _ h => h) (.inl ⟨by rfl, by (intro wq hSw; (try dsimp only at hSw); go_simp; (try (first | rfl | omega)))⟩) hHeld ?_
                simp only [Act.put, List.setIfInBounds_toArray, List.set_cons_zero, List.set_cons_succ]
                refine wpAnyH_tk (i := 7) (d := 68) (v := (.int .i64 (d : Int))) rfl rfl (by kernel_rfl) (by kernel_rfl) (by kernel_rfl) (fun _ _ _ h => h) (.inl ⟨by rfl, by (intro wq hSw; (try dsimp only at hSw); go_simp; (try (first | rfl | omega)))⟩) hHeld ?_
                simp only [Act.put, List.setIfInBounds_toArray, List.set_cons_zero, List.set_cons_succ]
                refine wpAnyH_tk (i := 10) (d := 71) (v := (.slice (some ⟨pb, po, none⟩) P.length uc)) rfl rfl (by kernel_rfl) (by kernel_rfl) (by kernel_rfl) (fun _ _ _ h => h) (.inl ⟨by rfl, by (intro wq hSw; (try dsimp only at hSw); go_simp; (try (first | rfl | omega)))⟩) hHeld ?_
                simp only [Act.put, List.setIfInBounds_toArray, List.set_cons_zero, List.set_cons_succ]
                refine wpAnyH_tk (i := 11) (d := 72) (v := (.int .i64 (k : Int))) rfl rfl (by kernel_rfl) (by kernel_rfl) (by kernel_rfl) (fun _ _ _ h => h) (.inl ⟨by rfl, by (intro wq hSw; (try dsimp only at hSw); go_simp; (try (first | rfl | omega)))⟩) hHeld ?_
                simp only [Act.put, List.setIfInBounds_toArray, List.set_cons_zero, List.set_cons_succ]
                refine wpAnyH_tk (i := 12) (d := 73) (v := (.pointer (some ⟨pb, po + k, none⟩))) rfl rfl (by kernel_rfl) (by kernel_rfl) (by kernel_rfl) (fun _ _ _ h => h) (.inl ⟨by rfl, by (intro wq hSw; (try dsimp only at hSw); go_simp; (try (first | rfl | omega)))⟩) hHeld ?_
                simp only [Act.put, List.setIfInBounds_toArray, List.set_cons_zero, List.set_cons_succ]
                refine wpAnyH_tk (i := 13) (d := 74) (v := (.slice (some ⟨rb, ro, none⟩) (d + 1) rc)) rfl rfl (by kernel_rfl) (by kernel_rfl) (by kernel_rfl) (fun _ _ _ h => h) (.inl ⟨by rfl, by (intro wq hSw; (try dsimp only at hSw); go_simp; (try (first | rfl | omega)))⟩) hHeld ?_
                simp only [Act.put, List.setIfInBounds_toArray, List.set_cons_zero, List.set_cons_succ]
                refine wpAnyH_tk (i := 14) (d := 75) (v := (.int .i64 (d : Int))) rfl rfl (by kernel_rfl) (by kernel_rfl) (by kernel_rfl) (fun _ _ _ h => h) (.inl ⟨by rfl, by (intro wq hSw; (try dsimp only at hSw); go_simp; (try (first | rfl | omega)))⟩) hHeld ?_
                simp only [Act.put, List.setIfInBounds_toArray, List.set_cons_zero, List.set_cons_succ]
                refine wpAnyH_tk (i := 15) (d := 76) (v := (.pointer (some ⟨rb, ro + d, none⟩))) rfl rfl (by kernel_rfl) (by kernel_rfl) (by kernel_rfl) (fun _ _ _ h => h) (.inl ⟨by rfl, by (intro wq hSw; (try dsimp only at hSw); go_simp; (try (first | rfl | omega)))⟩) hHeld ?_
                simp only [Act.put, List.setIfInBounds_toArray, List.set_cons_zero, List.set_cons_succ]
                refine wpAnyH_tk (i := 16) (d := 77) (v := (.int .i64 c)) rfl rfl (by kernel_rfl) (by kernel_rfl) (by kernel_rfl) (fun _ _ _ h => h) (.inl ⟨by rfl, by (intro wq hSw; (try dsimp only at hSw); go_simp; (try (first | rfl | omega)))⟩) hHeld ?_
                simp only [Act.put, List.setIfInBounds_toArray, List.set_cons_zero, List.set_cons_succ]
                refine wpAnyH_ready (rs := [6]) (by kernel_rfl) (by simp) ?_
                refine ready_tk (i := 6) rfl (by rfl) (fun K hK => ?_) AllReadyH.nil
                go_simp
                refine hK.out _ _ (HCE.out _ (HBD.out.alloc HBD.out.size _)) (fun hHeld => ?_)
                clear hK K
                try simp only [Act.put, List.setIfInBounds_toArray, List.set_cons_zero, List.set_cons_succ]
                have hct := hcut wr.heap.size
                refine wpAnyH_tk (i := 8) (d := 69) (v := (.slice (some ⟨wr.heap.size, 0, none⟩) d 2)) rfl rfl (by kernel_rfl) (by kernel_rfl) (by kernel_rfl) (fun _ _ _ h => h) (.inl ⟨by rfl, by (intro wq hSw; (try dsimp only at hSw); go_simp; (try (first | rfl | omega)))⟩) hHeld ?_
                simp only [Act.put, List.setIfInBounds_toArray, List.set_cons_zero, List.set_cons_succ]
                refine wpAnyH_ready (rs := [9]) (by kernel_rfl) (by simp) ?_
                refine ready_tk (i := 9) rfl (by rfl) (fun K hK => ?_) AllReadyH.nil
                go_simp
                refine (HDT.out wr.drew HBD.out).mono ?_
                rintro e w7 ⟨rfl, nq, hw7⟩
                have hb7 : Below w2.heap.size w2 w7 := by
                  rw [hw7]
                  obtain ⟨g1, g2, g3, g4, g5⟩ := HBD.out.alloc HBD.out.size (.cells #[.int .i64 (X : Int), .int .i64 (Y : Int)] 3)
                  exact ⟨g1, g2, g3, g4, g5⟩
                have HB7 : Hid (Below w2.heap.size w2 w7) := hb7
                refine hK.out _ _ (HCE.out _ hb7) (fun hHeld => ?_)
                clear hK K hw7 hb7
                try simp only [Act.put, List.setIfInBounds_toArray, List.set_cons_zero, List.set_cons_succ]
                refine wpAnyH_tk (i := 17) (d := 78) (v := (.int .i64 H)) rfl rfl (by kernel_rfl) (by kernel_rfl) (by kernel_rfl) (fun _ _ _ h => h) (.inl ⟨by rfl, by (intro wq hSw; (try dsimp only at hSw); go_simp; (try (first | rfl | omega)))⟩) hHeld ?_
                simp only [Act.put, List.setIfInBounds_toArray, List.set_cons_zero, List.set_cons_succ]
                refine wpAnyH_tk (i := 18) (d := 16) (v := (.int .i64 H)) rfl rfl (by kernel_rfl) (by kernel_rfl) (by kernel_rfl) (fun _ _ _ h => h) (.inl ⟨by rfl, by (intro wq hSw; (try dsimp only at hSw); go_simp; (try (first | rfl | omega)))⟩) hHeld ?_
                simp only [Act.put, List.setIfInBounds_toArray, List.set_cons_zero, List.set_cons_succ]
                refine wpAnyH_done (by kernel_rfl) ?_ _
                clear hHeld hct hcut hwr hwr2
                have HFE : Hid (fre d P X Y (k + 1) = (H.tmod 127 != 0)) := by
                  show _ = _
                  rw [HSU.out, HTM.out]
                clear HSU HTM HHH
                go_wp2
                go_roundw
                case rel => exact ⟨k + 1, by omega, by go_num, by rw [HFE.out], HB7.out⟩
                case measure => simp [intOf]; omega
              · have HFF : Hid (fre d P X Y k = decide (onT d P X Y = 0)) := by
                  show _ = _
                  rw [← fre_end]
                  by_cases hkl : k < P.length
                  · have hff : fre d P X Y k = false := Bool.eq_false_iff.2 fun h => hgo ⟨hkl, h⟩
                    rw [hff]; exact (fre_le (by omega) hff).symm
                  · have : k = P.length := by omega
                    subst this; rfl
                have hkk : decide ((k : Int) < (P.length : Int)) = true → fre d P X Y k = false := fun h => by
                  have h2 : k < P.length := by have := of_decide_eq_true h; omega
                  exact Bool.eq_false_iff.2 fun h3 => hgo ⟨h2, h3⟩
                have HRC : Hid (cnR d P X (Y + 1) = cnR d P X Y + if onT d P X Y = 0 then 1 else 0) := rfl
                clear hgo
                have HFI : Hid (∀ b : Bool, b = fre d P X Y k → (if b then (cx + cnR d P X Y + 1) else cx + cnR d P X Y) = cx + cnR d P X (Y + 1)) := fun b hb => by
                  rw [hb, HFF.out, HRC.out]
                  by_cases h : onT d P X Y = 0
                  · simp [h]; omega
                  · simp [h]
                clear HFF HRC
                generalize cnR d P X Y = cy at *
                cases hkd : decide ((k : Int) < (P.length : Int))
                · have hkI : ¬ (k : Int) < (P.length : Int) := of_decide_eq_false hkd
                  have hkN : ¬ k < P.length := by omega
                  have hkN2 : decide (k < P.length) = false := decide_eq_false hkN
                  clear hkd hkk hkN
                  cases hfv : fre d P X Y k
                  · have HE := HFI.out false hfv.symm
                    have HE2 : Hid (cx + cy = cx + cnR d P X (Y + 1)) := HE
                    clear hfv HE HFI
                    go_wp2
                    exact ⟨⟨Y + 1, by omega, by go_num, by rw [HE2.out], HBK.out⟩, by simp [intOf]; omega⟩
                  · have HE := HFI.out true hfv.symm
                    have HE2 : Hid (cx + cy + 1 = cx + cnR d P X (Y + 1)) := HE
                    clear hfv HE HFI
                    go_wp2
                    exact ⟨⟨Y + 1, by omega, by go_num, by rw [HE2.out], HBK.out⟩, by simp [intOf]; omega⟩
                · have hkI : (k : Int) < (P.length : Int) := of_decide_eq_true hkd
                  have hfv := hkk hkd
                  have HE := HFI.out false hfv.symm
                  have HE2 : Hid (cx + cy = cx + cnR d P X (Y + 1)) := HE
                  clear hkd hkk HE HFI
                  rw [hfv]
                  clear hfv
                  go_wp2
                  exact ⟨⟨Y + 1, by omega, by go_num, by rw [HE2.out], HBK.out⟩, by simp [intOf]; omega⟩
          · have hbr2 := hbr hb1
            have hg1 : ¬ (0 : Int) < (Y : Int) := of_decide_eq_false hbr2
            have hg2 : ¬ 0 < Y := by omega
            have hg3 : decide (0 < Y) = false := decide_eq_false hg2
            clear hbr hg2 hbr2
            go_wp2
            go_loopw [14, 15, 16] (fun f i _ wq => ∃ k : Nat, k ≤ P.length ∧ i = .int .i64 (k : Int) ∧ f = .bool (fre d P X Y k) ∧ Below w2.heap.size w2 wq) (fun _ i _ _ => P.length - (intOf i).toNat)
            case atStart => exact ⟨0, Nat.zero_le _, rfl, rfl, HBY.out⟩
            case round =>
              obtain ⟨k, hk, rfl, rfl, hbk⟩ := hrel
              have HBK : Hid (Below w2.heap.size w2 wr) := hbk
              clear hbk
              by_cases hgo : k < P.length ∧ fre d P X Y k = true
              · obtain ⟨hkl, hfk⟩ := hgo
                obtain ⟨pb, po, rb, ro, rc, c, DT, hvo, hcell, hcd, hdot, hHH, hsucc, hHb⟩ := HROW.out k hkl
                subst hvo
                have q1 := hcell wr HBK.out
                have q2 := hcd wr HBK.out
                have hkI : (k : Int) < (P.length : Int) := by omega
                have HDT : Hid (∀ Z, Below w2.heap.size w2 Z → Calls Try.prog 7 #[.slice (some ⟨rb, ro, none⟩) (d + 1) rc, .slice (some ⟨Z.heap.size, 0, none⟩) d 2] (Z.alloc (.cells #[.int .i64 (X : Int), .int .i64 (Y : Int)] 3)) fun e w' => e = .returned (.int .i64 DT) ∧ ∃ n, w' = (Z.alloc (.cells #[.int .i64 (X : Int), .int .i64 (Y : Int)] 3)).drewN n) := hdot
                have HHH : Hid (DT - c = hx d (P.getD k []) X Y) := hHH
                have HSU : Hid (fre d P X Y (k + 1) = !decide ((127 : Int) ∣ hx d (P.getD k []) X Y)) := by
                  show _ = _
                  rw [hsucc, hfk, Bool.true_and]
                have HTM : Hid (((hx d (P.getD k []) X Y).tmod 127 != 0) = !decide ((127 : Int) ∣ hx d (P.getD k []) X Y)) := tmod127 _
                generalize hx d (P.getD k []) X Y = H at *
                obtain ⟨hb1, hb2, hb3, hb4, hb5⟩ := hHb
                have hwr : wrap64 (DT - c) = H := by rw [IntWalk.wrap64_in _ ⟨by omega, by omega⟩]; exact HHH.out
                have hwr2 : IntKind.i64.wrap (DT - c) = H := by rw [IntWalk.i64_left]; exact hwr
                have HCE : Hid (∀ Z, Below w2.heap.size w2 Z → Z.cell? ⟨pb, po + k, none⟩ = some (.slice (some ⟨rb, ro, none⟩) (d + 1) rc) ∧ Z.cell? ⟨rb, ro + d, none⟩ = some (.int .i64 c)) := fun Z hZ => ⟨hcell Z hZ, hcd Z hZ⟩
                have hcut := fun (b : Nat) => HCUT.out b
                clear hcell hcd hdot hHH hsucc q1 q2
                have hfk2 : (fre d P X Y k) = true := hfk
                generalize fre d P X Y k = fk at *
                subst hfk2
                go_upto_region 21 with fail
                have HBD : Hid (Below w2.heap.size w2 wr.drew) := HBK.out.drew
                refine wp_region_held_drew (S := fun Z => Z.cell? ⟨pb, po + k, none⟩ = some (.slice (some ⟨rb, ro, none⟩) (d + 1) rc) ∧ Z.cell? ⟨rb, ro + d, none⟩ = some (.int .i64 c)) (by kernel_rfl) (HCE.out _ HBD.out) (fun hHeld => ?_)
                refine wpAnyH_tk (i := 0) (d := 61) (v := (.slice (some ⟨pb, po, none⟩) P.length uc)) rfl rfl (by kernel_rfl) (by kernel_rfl) (by kernel_rfl) (fun _ _ _ h => h) (.inl ⟨by rfl, by (intro wq hSw; (try dsimp only at hSw); go_simp; (try (first | rfl | omega)))⟩) hHeld ?_
                simp only [Act.put, List.setIfInBounds_toArray, List.set_cons_zero, List.set_cons_succ]
                refine wpAnyH_tk (i := 1) (d := 62) (v := (.int .i64 (k : Int))) rfl rfl (by kernel_rfl) (by kernel_rfl) (by kernel_rfl) (fun _ _ _ h => h) (.inl ⟨by rfl, by (intro wq hSw; (try dsimp only at hSw); go_simp; (try (first | rfl | omega)))⟩) hHeld ?_
                simp only [Act.put, List.setIfInBounds_toArray, List.set_cons_zero, List.set_cons_succ]
                refine wpAnyH_tk (i := 2) (d := 63) (v := (.pointer (some ⟨pb, po + k, none⟩))) rfl rfl (by kernel_rfl) (by kernel_rfl) (by kernel_rfl) (fun _ _ _ h => h) (.inl ⟨by rfl, by (intro wq hSw; (try dsimp only at hSw); go_simp; (try (first | rfl | omega)))⟩) hHeld ?_
                simp only [Act.put, List.setIfInBounds_toArray, List.set_cons_zero, List.set_cons_succ]
                refine wpAnyH_tk (i := 3) (d := 64) (v := (.slice (some ⟨rb, ro, none⟩) (d + 1) rc)) rfl rfl (by kernel_rfl) (by kernel_rfl) (by kernel_rfl) (fun _ _ _ h => h) (.inl ⟨by rfl, by (intro wq hSw; (try dsimp only at hSw); go_simp; (try (first | rfl | omega)))⟩) hHeld ?_
                simp only [Act.put, List.setIfInBounds_toArray, List.set_cons_zero, List.set_cons_succ]
                refine wpAnyH_tk (i := 4) (d := 65) (v := (.int .i64 (X : Int))) rfl rfl (by kernel_rfl) (by kernel_rfl) (by kernel_rfl) (fun _ _ _ h => h) (.inl ⟨by rfl, by (intro wq hSw; (try dsimp only at hSw); go_simp; (try (first | rfl | omega)))⟩) hHeld ?_
                simp only [Act.put, List.setIfInBounds_toArray, List.set_cons_zero, List.set_cons_succ]
                refine wpAnyH_tk (i := 5) (d := 66) (v := (.int .i64 (Y : Int))) rfl rfl (by kernel_rfl) (by kernel_rfl) (by kernel_rfl) (fun _ _ _ h => h) (.inl ⟨by rfl, by (intro wq hSw; (try dsimp only at hSw); go_simp; (try (first | rfl | omega)))⟩) hHeld ?_
                simp only [Act.put, List.setIfInBounds_toArray, List.set_cons_zero, List.set_cons_succ]
                refine wpAnyH_tk (i := 7) (d := 68) (v := (.int .i64 (d : Int))) rfl rfl (by kernel_rfl) (by kernel_rfl) (by kernel_rfl) (fun _ _ _ h => h) (.inl ⟨by rfl, by (intro wq hSw; (try dsimp only at hSw); go_simp; (try (first | rfl | omega)))⟩) hHeld ?_
                simp only [Act.put, List.setIfInBounds_toArray, List.set_cons_zero, List.set_cons_succ]
                refine wpAnyH_tk (i := 10) (d := 71) (v := (.slice (some ⟨pb, po, none⟩) P.length uc)) rfl rfl (by kernel_rfl) (by kernel_rfl) (by kernel_rfl) (fun _ _ _ h => h) (.inl ⟨by rfl, by (intro wq hSw; (try dsimp only at hSw); go_simp; (try (first | rfl | omega)))⟩) hHeld ?_
                simp only [Act.put, List.setIfInBounds_toArray, List.set_cons_zero, List.set_cons_succ]
                refine wpAnyH_tk (i := 11) (d := 72) (v := (.int .i64 (k : Int))) rfl rfl (by kernel_rfl) (by kernel_rfl) (by kernel_rfl) (fun _ _ _ h => h) (.inl ⟨by rfl, by (intro wq hSw; (try dsimp only at hSw); go_simp; (try (first | rfl | omega)))⟩) hHeld ?_
                simp only [Act.put, List.setIfInBounds_toArray, List.set_cons_zero, List.set_cons_succ]
                refine wpAnyH_tk (i := 12) (d := 73) (v := (.pointer (some ⟨pb, po + k, none⟩))) rfl rfl (by kernel_rfl) (by kernel_rfl) (by kernel_rfl) (fun _ _ _ h => h) (.inl ⟨by rfl, by (intro wq hSw; (try dsimp only at hSw); go_simp; (try (first | rfl | omega)))⟩) hHeld ?_
                simp only [Act.put, List.setIfInBounds_toArray, List.set_cons_zero, List.set_cons_succ]
                refine wpAnyH_tk (i := 13) (d := 74) (v := (.slice (some ⟨rb, ro, none⟩) (d + 1) rc)) rfl rfl (by kernel_rfl) (by kernel_rfl) (by kernel_rfl) (fun _ _ _ h => h) (.inl ⟨by rfl, by (intro wq hSw; (try dsimp only at hSw); go_simp; (try (first | rfl | omega)))⟩) hHeld ?_
                simp only [Act.put, List.setIfInBounds_toArray, List.set_cons_zero, List.set_cons_succ]
                refine wpAnyH_tk (i := 14) (d := 75) (v := (.int .i64 (d : Int))) rfl rfl (by kernel_rfl) (by kernel_rfl) (by kernel_rfl) (fun _ _ _ h => h) (.inl ⟨by rfl, by (intro wq hSw; (try dsimp only at hSw); go_simp; (try (first | rfl | omega)))⟩) hHeld ?_
                simp only [Act.put, List.setIfInBounds_toArray, List.set_cons_zero, List.set_cons_succ]
                refine wpAnyH_tk (i := 15) (d := 76) (v := (.pointer (some ⟨rb, ro + d, none⟩))) rfl rfl (by kernel_rfl) (by kernel_rfl) (by kernel_rfl) (fun _ _ _ h => h) (.inl ⟨by rfl, by (intro wq hSw; (try dsimp only at hSw); go_simp; (try (first | rfl | omega)))⟩) hHeld ?_
                simp only [Act.put, List.setIfInBounds_toArray, List.set_cons_zero, List.set_cons_succ]
                refine wpAnyH_tk (i := 16) (d := 77) (v := (.int .i64 c)) rfl rfl (by kernel_rfl) (by kernel_rfl) (by kernel_rfl) (fun _ _ _ h => h) (.inl ⟨by rfl, by (intro wq hSw; (try dsimp only at hSw); go_simp; (try (first | rfl | omega)))⟩) hHeld ?_
                simp only [Act.put, List.setIfInBounds_toArray, List.set_cons_zero, List.set_cons_succ]
                refine wpAnyH_ready (rs := [6]) (by kernel_rfl) (by simp) ?_
                refine ready_tk (i := 6) rfl (by rfl) (fun K hK => ?_) AllReadyH.nil
                go_simp
                refine hK.out _ _ (HCE.out _ (HBD.out.alloc HBD.out.size _)) (fun hHeld => ?_)
                clear hK K
                try simp only [Act.put, List.setIfInBounds_toArray, List.set_cons_zero, List.set_cons_succ]
                have hct := hcut wr.heap.size
                refine wpAnyH_tk (i := 8) (d := 69) (v := (.slice (some ⟨wr.heap.size, 0, none⟩) d 2)) rfl rfl (by kernel_rfl) (by kernel_rfl) (by kernel_rfl) (fun _ _ _ h => h) (.inl ⟨by rfl, by (intro wq hSw; (try dsimp only at hSw); go_simp; (try (first | rfl | omega)))⟩) hHeld ?_
                simp only [Act.put, List.setIfInBounds_toArray, List.set_cons_zero, List.set_cons_succ]
                refine wpAnyH_ready (rs := [9]) (by kernel_rfl) (by simp) ?_
                refine ready_tk (i := 9) rfl (by rfl) (fun K hK => ?_) AllReadyH.nil
                go_simp
                refine (HDT.out wr.drew HBD.out).mono ?_
                rintro e w7 ⟨rfl, nq, hw7⟩
                have hb7 : Below w2.heap.size w2 w7 := by
                  rw [hw7]
                  obtain ⟨g1, g2, g3, g4, g5⟩ := HBD.out.alloc HBD.out.size (.cells #[.int .i64 (X : Int), .int .i64 (Y : Int)] 3)
                  exact ⟨g1, g2, g3, g4, g5⟩
                have HB7 : Hid (Below w2.heap.size w2 w7) := hb7
                refine hK.out _ _ (HCE.out _ hb7) (fun hHeld => ?_)
                clear hK K hw7 hb7
                try simp only [Act.put, List.setIfInBounds_toArray, List.set_cons_zero, List.set_cons_succ]
                refine wpAnyH_tk (i := 17) (d := 78) (v := (.int .i64 H)) rfl rfl (by kernel_rfl) (by kernel_rfl) (by kernel_rfl) (fun _ _ _ h => h) (.inl ⟨by rfl, by (intro wq hSw; (try dsimp only at hSw); go_simp; (try (first | rfl | omega)))⟩) hHeld ?_
                simp only [Act.put, List.setIfInBounds_toArray, List.set_cons_zero, List.set_cons_succ]
                refine wpAnyH_tk (i := 18) (d := 16) (v := (.int .i64 H)) rfl rfl (by kernel_rfl) (by kernel_rfl) (by kernel_rfl) (fun _ _ _ h => h) (.inl ⟨by rfl, by (intro wq hSw; (try dsimp only at hSw); go_simp; (try (first | rfl | omega)))⟩) hHeld ?_
                simp only [Act.put, List.setIfInBounds_toArray, List.set_cons_zero, List.set_cons_succ]
                refine wpAnyH_done (by kernel_rfl) ?_ _
                clear hHeld hct hcut hwr hwr2
                have HFE : Hid (fre d P X Y (k + 1) = (H.tmod 127 != 0)) := by
                  show _ = _
                  rw [HSU.out, HTM.out]
                clear HSU HTM HHH
                go_wp2
                go_roundw
                case rel => exact ⟨k + 1, by omega, by go_num, by rw [HFE.out], HB7.out⟩
                case measure => simp [intOf]; omega
              · have HFF : Hid (fre d P X Y k = decide (onT d P X Y = 0)) := by
                  show _ = _
                  rw [← fre_end]
                  by_cases hkl : k < P.length
                  · have hff : fre d P X Y k = false := Bool.eq_false_iff.2 fun h => hgo ⟨hkl, h⟩
                    rw [hff]; exact (fre_le (by omega) hff).symm
                  · have : k = P.length := by omega
                    subst this; rfl
                have hkk : decide ((k : Int) < (P.length : Int)) = true → fre d P X Y k = false := fun h => by
                  have h2 : k < P.length := by have := of_decide_eq_true h; omega
                  exact Bool.eq_false_iff.2 fun h3 => hgo ⟨h2, h3⟩
                have HRC : Hid (cnR d P X (Y + 1) = cnR d P X Y + if onT d P X Y = 0 then 1 else 0) := rfl
                clear hgo
                have HFI : Hid (∀ b : Bool, b = fre d P X Y k → (if b then (cx + cnR d P X Y + 1) else cx + cnR d P X Y) = cx + cnR d P X (Y + 1)) := fun b hb => by
                  rw [hb, HFF.out, HRC.out]
                  by_cases h : onT d P X Y = 0
                  · simp [h]; omega
                  · simp [h]
                clear HFF HRC
                generalize cnR d P X Y = cy at *
                cases hkd : decide ((k : Int) < (P.length : Int))
                · have hkI : ¬ (k : Int) < (P.length : Int) := of_decide_eq_false hkd
                  have hkN : ¬ k < P.length := by omega
                  have hkN2 : decide (k < P.length) = false := decide_eq_false hkN
                  clear hkd hkk hkN
                  cases hfv : fre d P X Y k
                  · have HE := HFI.out false hfv.symm
                    have HE2 : Hid (cx + cy = cx + cnR d P X (Y + 1)) := HE
                    clear hfv HE HFI
                    go_wp2
                    exact ⟨⟨Y + 1, by omega, by go_num, by rw [HE2.out], HBK.out⟩, by simp [intOf]; omega⟩
                  · have HE := HFI.out true hfv.symm
                    have HE2 : Hid (cx + cy + 1 = cx + cnR d P X (Y + 1)) := HE
                    clear hfv HE HFI
                    go_wp2
                    exact ⟨⟨Y + 1, by omega, by go_num, by rw [HE2.out], HBK.out⟩, by simp [intOf]; omega⟩
                · have hkI : (k : Int) < (P.length : Int) := of_decide_eq_true hkd
                  have hfv := hkk hkd
                  have HE := HFI.out false hfv.symm
                  have HE2 : Hid (cx + cy = cx + cnR d P X (Y + 1)) := HE
                  clear hkd hkk HE HFI
                  rw [hfv]
                  clear hfv
                  go_wp2
                  exact ⟨⟨Y + 1, by omega, by go_num, by rw [HE2.out], HBK.out⟩, by simp [intOf]; omega⟩
        · have hYe : Y = yb d := by omega
          have HCF : Hid (cnX d P (X + 1) = cx + cnR d P X Y) := by
            show _ = _
            rw [HCS.out, hYe]
          generalize cnR d P X Y = cy at *
          have HXN : Hid (X + 1 ≤ 127) := hlt
          rcases HD.out with h | h
          · have hb1 : ((d : Int) == 1) = true := by rw [h]; rfl
            have hY1 : (Y : Int) < 127 := by rw [hYe, h]; decide
            have hY0 : (0 : Int) < (Y : Int) := by rw [hYe, h]; decide
            have hY2 : decide (0 < Y) = true := by rw [hYe, h]; decide
            clear hYe hYl hY h
            go_wp2
            exact ⟨⟨X + 1, HXN.out, by go_num, by rw [HCF.out], HBY.out⟩, by simp [intOf]; omega⟩
          · have hY1 : ¬ (Y : Int) < 127 := by rw [hYe, h]; decide
            have hY2 : decide (Y < 127) = false := by rw [hYe, h]; decide
            clear hYe hYl hY h
            go_wp2
            exact ⟨⟨X + 1, HXN.out, by go_num, by rw [HCF.out], HBY.out⟩, by simp [intOf]; omega⟩
    · have hXe : X = 127 := by omega
      subst hXe
      have HVA : Hid (Calls Try.prog 8 #[.slice co (d + 1) cc, .int .i64 127] wr fun e w' => e = .returned (.int .i64 (cnX d P 127)) ∧ w' = wr) := by
        have h1 := value_any 0 ((List.range (d + 1)).map (whC d P)) 127 (.slice co (d + 1) cc) wr (HS2.out.below HBX.out (Nat.le_refl _)) (by simp; omega) (fun z hz => ?_) (by decide)
        · have h2 : hor 127 ((List.range (d + 1)).map (whC d P)) = cnX d P 127 := by
            rw [cnX_fr, HFN.out, hor_sum]
            have e : ((List.range (d + 1)).map (whC d P)).length = d + 1 := by simp
            rw [e]
            refine sumN_congr fun j hj => ?_
            simp [hj]
          rw [h2] at h1
          exact h1
        · obtain ⟨j, _, rfl⟩ := List.mem_map.1 hz
          unfold whC
          refine Nat.le_trans (sumN_abs fun s _ => ?_) (Nat.le_trans (Nat.pow_le_pow_right (by decide) hP3) (by decide))
          split
          · rw [Int.natAbs_mul, sg_abs]
            split <;> decide
          · decide
      have HBB : Hid (Below w.heap.size w wr) := HB2.out.trans (HBX.out.mono HB2.out.size)
      generalize cnX d P 127 = cn at *
      clear HFN HS2 HM2 HRW HD
      go_wp2_with fail
      refine HVA.out.mono ?_
      rintro e w5 ⟨rfl, hw5⟩
      subst hw5
      go_wp2
      go_ret
      exact ⟨ret_bool (by simp), HBB.out⟩

end Go.Proofs.Ytflgabcacljbjaa
