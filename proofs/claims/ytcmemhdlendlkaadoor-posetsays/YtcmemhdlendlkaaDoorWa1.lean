/- poset.ways, by one closure. -/
import Derived.Test.YtcmemhdlendlkaaDoorWa0
import Derived.WalkMore
namespace Go.Proofs.YtcmemhdlendlkaaDoor
open Go.RowKit
attribute [local go_sem ↓] Go.wp_at_zero Go.wp_at_succ

def leF (x y : Int) : Bool := decide (x ≤ y)

set_option maxRecDepth 100000 in
theorem Le1_any (x y : Int) (w : World) : Calls Tryd.prog 38 #[.int .i64 x, .int .i64 y] w fun e w' => e = .returned (.bool (leF x y)) ∧ w' = w := by
  go_enter Tryd.func38, Tryd.ntmps38
  go_wp2
  go_ret
  exact ⟨rfl, rfl⟩

theorem okLe_no {f : Nat → Nat} {g : List Int} {v : Int} {o : Nat} (ho : o < g.length) (h : (((f g.length).testBit o && !leF v (g.getD o 0)) || ((f o).testBit g.length && !leF (g.getD o 0) v)) = true) : okW f leF g v = false := by
  unfold okW
  rw [List.all_eq_false]
  exact ⟨o, List.mem_range.2 ho, by rw [h]; decide⟩

theorem okLe_yes {f : Nat → Nat} {g : List Int} {v : Int} (h : ∀ o, o < g.length → (((f g.length).testBit o && !leF v (g.getD o 0)) || ((f o).testBit g.length && !leF (g.getD o 0) v)) = false) : okW f leF g v = true := by
  unfold okW
  rw [List.all_eq_true]
  intro o ho
  rw [h o (List.mem_range.1 ho)]
  rfl

set_option maxRecDepth 100000 in
set_option maxHeartbeats 3200000 in
theorem waysLe1_any (w : World) (b a n k : Nat) (f : Nat → Nat) (hn : n ≤ 6) (hk : k ≤ 6) (hf : ∀ i, i < n → f i < 64) : ∀ (t : Nat) (g : List Int) (m : Int) (wr : World), g.length + t = n → 0 ≤ m → m + ((6 ^ t : Nat) : Int) ≤ 1000000 → WyI w b a n k f (.func (.func 38) #[] #[]) g m wr →
    Calls Tryd.prog 50 #[.pointer (some ⟨b + 4, 0, none⟩), .pointer (some ⟨b, 0, none⟩), .pointer (some ⟨b + 3, 0, none⟩), .pointer (some ⟨b + 1, 0, none⟩), .pointer (some ⟨b + 2, 0, none⟩), .pointer (some ⟨b + 5, 0, none⟩)] wr fun e w' => e = .returned (.tuple #[]) ∧ WyI w b a n k f (.func (.func 38) #[] #[]) g (m + wyF f k leF t g) w'
  | 0, g, m, wr, hg, hm0, hm1, hI => by
    obtain ⟨so, sc, c1, -, -⟩ := hI.push 0
    have hab := hI.ab
    have c2 : wr.cell? ⟨b, 0, none⟩ = some (.slice (some ⟨a, 0, none⟩) n n) := by simp [World.cell?, hab]
    obtain ⟨c3, c4, h5⟩ := hI.count
    have HC : Hid (WyI w b a n k f (.func (.func 38) #[] #[]) g (m + 1) (wr.setCell ⟨b + 3, 0, none⟩ (.int .i64 (m + 1)))) := h5
    have e1 : ((g.length : Int) == (n : Int)) = true := by rw [beq_iff_eq]; omega
    have hm2 : m ≤ 1000000 := by
      have : 0 ≤ ((6 ^ 0 : Nat) : Int) := Int.natCast_nonneg _
      omega
    have HE : Hid (m + wyF f k leF 0 g = m + 1) := rfl
    rw [HE.out]
    clear hI hab h5 hg hm1
    go_enter Tryd.func50, Tryd.ntmps50
    go_wp2
    go_step3
    go_wp2
    try rw [Exit.noGoto_ret]
    exact bodyPost_ret (v := .tuple #[]) (by simp [results, Tryd.results50, go_sem]) rfl ⟨rfl, HC.out⟩
  | t + 1, g, m, wr, hg, hm0, hm1, hI => by
    obtain ⟨i3, hi3, hz30, hz31, hz32⟩ := info_parts Tryd.info3
    obtain ⟨so, sc, c1, hown0, -⟩ := hI.push 0
    have hab := hI.ab
    have hkb := hI.kb
    have c2 : wr.cell? ⟨b, 0, none⟩ = some (.slice (some ⟨a, 0, none⟩) n n) := by simp [World.cell?, hab]
    have c3 : wr.cell? ⟨b + 1, 0, none⟩ = some (.int .i64 (k : Int)) := by simp [World.cell?, hkb]
    have e1 : ((g.length : Int) == (n : Int)) = false := by rw [beq_eq_false_iff_ne]; omega
    have hgl : g.length < n := by omega
    have HREC : Hid (∀ (v : Nat) (m2 : Int) (W : World), 0 ≤ m2 → m2 + ((6 ^ t : Nat) : Int) ≤ 1000000 → WyI w b a n k f (.func (.func 38) #[] #[]) (g ++ [(v : Int)]) m2 W →
      Calls Tryd.prog 50 #[.pointer (some ⟨b + 4, 0, none⟩), .pointer (some ⟨b, 0, none⟩), .pointer (some ⟨b + 3, 0, none⟩), .pointer (some ⟨b + 1, 0, none⟩), .pointer (some ⟨b + 2, 0, none⟩), .pointer (some ⟨b + 5, 0, none⟩)] W fun e w' => e = .returned (.tuple #[]) ∧ WyI w b a n k f (.func (.func 38) #[] #[]) (g ++ [(v : Int)]) (m2 + wyF f k leF t (g ++ [(v : Int)])) w') := fun v m2 W h0 h1 h2 => waysLe1_any w b a n k f hn hk hf t (g ++ [(v : Int)]) m2 W (by rw [List.length_append, List.length_singleton]; omega) h0 h1 h2
    obtain ⟨S, hS⟩ : ∃ S : Nat → Int, S = fun J => sN J fun v => if okW f leF g (v : Int) then wyF f k leF t (g ++ [(v : Int)]) else 0 := ⟨_, rfl⟩
    have HS0 : Hid (S 0 = 0) := by rw [hS]; show sN 0 _ = 0; rfl
    have HS1 : Hid (∀ J, S (J + 1) = S J + if okW f leF g (J : Int) then wyF f k leF t (g ++ [(J : Int)]) else 0) := by rw [hS]; exact fun J => rfl
    have HSE : Hid (wyF f k leF (t + 1) g = S k) := by rw [hS]; rfl
    have hq : (6 ^ (t + 1) : Nat) = 6 * 6 ^ t := by rw [Nat.pow_succ, Nat.mul_comm]
    rw [hq] at hm1
    have HSB : Hid (∀ J, J ≤ k → 0 ≤ S J ∧ S J ≤ (J : Int) * ((6 ^ t : Nat) : Int)) := fun J hJ => by
      rw [hS]
      refine sN_le J _ fun v _ => ?_
      have h1 := wyF_bd (f := f) (fit := leF) hk t (g ++ [(v : Int)])
      have : 0 ≤ ((6 ^ t : Nat) : Int) := Int.natCast_nonneg _
      by_cases hb : okW f leF g (v : Int) = true
      · simp only [hb, if_true]
        exact h1
      · simp only [hb]
        exact ⟨by simp, by simpa using this⟩
    have HWB : Hid (∀ v : Nat, 0 ≤ wyF f k leF t (g ++ [(v : Int)]) ∧ wyF f k leF t (g ++ [(v : Int)]) ≤ ((6 ^ t : Nat) : Int)) := fun v => wyF_bd hk t _
    have HMB : Hid (∀ J, J < k → 0 ≤ m + S J ∧ (m + S J) + ((6 ^ t : Nat) : Int) ≤ 1000000) := fun J hJ => by
      have h1 := HSB.out J (by omega)
      have h2 : ((J + 1 : Nat) : Int) * ((6 ^ t : Nat) : Int) ≤ 6 * ((6 ^ t : Nat) : Int) := Int.mul_le_mul_of_nonneg_right (by omega) (Int.natCast_nonneg _)
      have h3 : ((J + 1 : Nat) : Int) * ((6 ^ t : Nat) : Int) = (J : Int) * ((6 ^ t : Nat) : Int) + ((6 ^ t : Nat) : Int) := by rw [Int.natCast_add, Int.add_mul]; simp
      generalize 6 ^ t = qq at *
      omega
    rw [HSE.out]
    have HI0 : Hid (WyI w b a n k f (.func (.func 38) #[] #[]) g (m + S 0) wr) := by
      rw [HS0.out, show m + (0 : Int) = m by omega]
      exact hI
    have HFX : Hid (∀ i, i < n → f i < 64) := hf
    clear hI hab hkb hown0 hm1 hq hS HSB HWB hg
    obtain ⟨w0, rfl⟩ : ∃ w0, w0 = wr := ⟨_, rfl⟩
    go_enter Tryd.func50, Tryd.ntmps50
    go_wp2
    go_step3
    go_wp2
    go_step3
    clear c1
    go_wp2
    clear c2 c3 e1
    go_loopw [19] (fun iv wq => ∃ J : Nat, J ≤ k ∧ iv = .int .i64 (J : Int) ∧ WyI w b a n k f (.func (.func 38) #[] #[]) g (m + S J) wq) (fun iv _ => k - (intOf iv).toNat)
    case atStart => exact ⟨0, Nat.zero_le _, rfl, HI0.out⟩
    case round =>
      obtain ⟨J, hJ, rfl, hI⟩ := hrel
      rename World => wq
      clear HI0
      by_cases hlt : J < k
      · obtain ⟨so2, sc2, c1, hown, hpush⟩ := hI.push (J : Int)
        have hab := hI.ab
        have hfb := hI.fb
        have hfn := hI.fn
        have c2 : wq.cell? ⟨b, 0, none⟩ = some (.slice (some ⟨a, 0, none⟩) n n) := by simp [World.cell?, hab]
        have c3 : wq.cell? ⟨b + 2, 0, none⟩ = some (.func (.func 38) #[] #[]) := by simp [World.cell?, hfb]
        have HIQ : Hid (WyI w b a n k f (.func (.func 38) #[] #[]) g (m + S J) wq) := hI
        have HOW : Hid (Sl 0 3 wq (.slice so2 g.length sc2) (ints g)) := Sl.own hown
        have HAR : Hid (AbR wq a n f) := hI.ar
        have HPUSH : Hid (∀ v' w5, w5.ownsRow (b + 6) 3 1 v' (g.length + 1) (ints g ++ [.int .i64 (J : Int)]) → (wq.alloc (.cells #[.int .i64 (J : Int)] 3)).grownBy w5 (Value.slice so2 g.length sc2).ownBlock → w5.cell? ⟨b + 4, 0, none⟩ = some (.slice so2 g.length sc2) ∧ w5.frozen? ⟨b + 4, 0, none⟩ = false ∧ WyI w b a n k f (.func (.func 38) #[] #[]) (g ++ [(J : Int)]) (m + S J) (w5.setCell ⟨b + 4, 0, none⟩ v')) := hpush
        have HOWN : Hid (wq.ownsRow (b + 6) 3 1 (.slice so2 g.length sc2) g.length (ints g)) := hown
        have hszq : b + 6 ≤ wq.heap.size := hI.sz
        have JI : (J : Int) < (k : Int) := by omega
        clear hI hab hfb hfn hown hpush
        go_wp2
        go_loop [24] (fun ov => ∃ o : Nat, o ≤ g.length ∧ ov = .int .i64 (o : Int) ∧ ∀ o', o' < o → (((f g.length).testBit o' && !leF (J : Int) (g.getD o' 0)) || ((f o').testBit g.length && !leF (g.getD o' 0) (J : Int))) = false) (fun ov => g.length - (intOf ov).toNat)
        case atStart => exact ⟨0, Nat.zero_le _, rfl, fun o' h => by omega⟩
        case round =>
          obtain ⟨o, ho, rfl, hall⟩ := hrel
          have HALL : Hid (∀ o', o' < o → (((f g.length).testBit o' && !leF (J : Int) (g.getD o' 0)) || ((f o').testBit g.length && !leF (g.getD o' 0) (J : Int))) = false) := hall
          clear hall
          by_cases hlo : o < g.length
          · obtain ⟨bb, oo, cp, hs, _, hcc⟩ := sl_cell HOW.out hlo
            simp only [Value.slice.injEq, true_and] at hs
            obtain ⟨rfl, rfl⟩ := hs
            have ca1 : wq.cell? ⟨a, g.length, none⟩ = some (.int .u64 ((f g.length : Nat) : Int)) := HAR.out.cell hgl
            have ca2 : wq.cell? ⟨a, o, none⟩ = some (.int .u64 ((f o : Nat) : Int)) := HAR.out.cell (by omega)
            have HI1 : Hid (∀ W, Calls Tryd.prog 44 #[.int .i64 (o : Int), .int .u64 ((f g.length : Nat) : Int)] W fun e w' => e = .returned (.bool ((f g.length).testBit o)) ∧ w' = W) := fun W => isIn_any o (f g.length) W (by omega) (HFX.out _ hgl)
            have HI2 : Hid (∀ W, Calls Tryd.prog 44 #[.int .i64 (g.length : Int), .int .u64 ((f o : Nat) : Int)] W fun e w' => e = .returned (.bool ((f o).testBit g.length)) ∧ w' = W) := fun W => isIn_any g.length (f o) W (by omega) (HFX.out _ (by omega))
            have HF1 : Hid (∀ W, Calls Tryd.prog 38 #[.int .i64 (J : Int), .int .i64 (g.getD o 0)] W fun e w' => e = .returned (.bool (leF (J : Int) (g.getD o 0))) ∧ w' = W) := fun W => Le1_any _ _ W
            have HF2 : Hid (∀ W, Calls Tryd.prog 38 #[.int .i64 (g.getD o 0), .int .i64 (J : Int)] W fun e w' => e = .returned (.bool (leF (g.getD o 0) (J : Int))) ∧ w' = W) := fun W => Le1_any _ _ W
            have HNO : Hid ((((f g.length).testBit o && !leF (J : Int) (g.getD o 0)) || ((f o).testBit g.length && !leF (g.getD o 0) (J : Int))) = true → okW f leF g (J : Int) = false) := fun h => okLe_no hlo h
            have HYES : Hid ((((f g.length).testBit o && !leF (J : Int) (g.getD o 0)) || ((f o).testBit g.length && !leF (g.getD o 0) (J : Int))) = false → ∀ o', o' < o + 1 → (((f g.length).testBit o' && !leF (J : Int) (g.getD o' 0)) || ((f o').testBit g.length && !leF (g.getD o' 0) (J : Int))) = false) := fun h o' ho' => by
              by_cases e : o' = o
              · subst e; exact h
              · exact HALL.out o' (by omega)
            have oI : (o : Int) < (g.length : Int) := by omega
            have oI0 : (0 : Int) ≤ (o : Int) := by omega
            have oIn : (o : Int) < (n : Int) := by omega
            have gI : (g.length : Int) < (n : Int) := by omega
            have gI0 : (0 : Int) ≤ (g.length : Int) := by omega
            generalize (f g.length).testBit o = p1 at HI1 HNO HYES
            generalize (f o).testBit g.length = p2 at HI2 HNO HYES
            generalize leF (J : Int) (g.getD o 0) = q1 at HF1 HNO HYES
            generalize leF (g.getD o 0) (J : Int) = q2 at HF2 HNO HYES
            generalize g.getD o 0 = its at hcc HF1 HF2
            go_wp2_with fail
            refine (HI1.out _).mono ?_
            rintro e w4 ⟨rfl, hw⟩
            have hw2 := hw.symm
            clear hw
            subst hw2
            cases p1
            · go_wp2_with fail
              refine (HI2.out _).mono ?_
              rintro e w4 ⟨rfl, hw⟩
              have hw2 := hw.symm
              clear hw
              subst hw2
              cases p2
              · have HY2 : Hid (∀ o', o' < o + 1 → (((f g.length).testBit o' && !leF (J : Int) (g.getD o' 0)) || ((f o').testBit g.length && !leF (g.getD o' 0) (J : Int))) = false) := HYES.out (by simp)
                clear HNO HYES
                go_wp2
                go_round
                case rel => exact ⟨o + 1, by omega, by go_num, HY2.out⟩
                case measure => simp [intOf]; omega
              · go_wp2_with fail
                refine (HF2.out _).mono ?_
                rintro e w4 ⟨rfl, hw⟩
                have hw2 := hw.symm
                clear hw
                subst hw2
                cases q2
                · have HNX := HNO.out (by simp)
                  have HIX : Hid (WyI w b a n k f (.func (.func 38) #[] #[]) g (m + S (J + 1)) wq) := by
                    show WyI _ _ _ _ _ _ _ _ _ _
                    rw [HS1.out J, HNX]
                    simpa using HIQ.out
                  clear HNX HNO HYES
                  go_wp2
                  go_roundw
                  case rel => exact ⟨J + 1, by omega, by go_num, HIX.out⟩
                  case measure => simp [intOf]; omega
                · have HY2 : Hid (∀ o', o' < o + 1 → (((f g.length).testBit o' && !leF (J : Int) (g.getD o' 0)) || ((f o').testBit g.length && !leF (g.getD o' 0) (J : Int))) = false) := HYES.out (by simp)
                  clear HNO HYES
                  go_wp2
                  go_round
                  case rel => exact ⟨o + 1, by omega, by go_num, HY2.out⟩
                  case measure => simp [intOf]; omega
            · go_wp2_with fail
              refine (HF1.out _).mono ?_
              rintro e w4 ⟨rfl, hw⟩
              have hw2 := hw.symm
              clear hw
              subst hw2
              cases q1
              · have HNX := HNO.out (by simp)
                have HIX : Hid (WyI w b a n k f (.func (.func 38) #[] #[]) g (m + S (J + 1)) wq) := by
                  show WyI _ _ _ _ _ _ _ _ _ _
                  rw [HS1.out J, HNX]
                  simpa using HIQ.out
                clear HNX HNO HYES
                go_wp2
                go_roundw
                case rel => exact ⟨J + 1, by omega, by go_num, HIX.out⟩
                case measure => simp [intOf]; omega
              · go_wp2_with fail
                refine (HI2.out _).mono ?_
                rintro e w4 ⟨rfl, hw⟩
                have hw2 := hw.symm
                clear hw
                subst hw2
                cases p2
                · have HY2 : Hid (∀ o', o' < o + 1 → (((f g.length).testBit o' && !leF (J : Int) (g.getD o' 0)) || ((f o').testBit g.length && !leF (g.getD o' 0) (J : Int))) = false) := HYES.out (by simp)
                  clear HNO HYES
                  go_wp2
                  go_round
                  case rel => exact ⟨o + 1, by omega, by go_num, HY2.out⟩
                  case measure => simp [intOf]; omega
                · go_wp2_with fail
                  refine (HF2.out _).mono ?_
                  rintro e w4 ⟨rfl, hw⟩
                  have hw2 := hw.symm
                  clear hw
                  subst hw2
                  cases q2
                  · have HNX := HNO.out (by simp)
                    have HIX : Hid (WyI w b a n k f (.func (.func 38) #[] #[]) g (m + S (J + 1)) wq) := by
                      show WyI _ _ _ _ _ _ _ _ _ _
                      rw [HS1.out J, HNX]
                      simpa using HIQ.out
                    clear HNX HNO HYES
                    go_wp2
                    go_roundw
                    case rel => exact ⟨J + 1, by omega, by go_num, HIX.out⟩
                    case measure => simp [intOf]; omega
                  · have HY2 : Hid (∀ o', o' < o + 1 → (((f g.length).testBit o' && !leF (J : Int) (g.getD o' 0)) || ((f o').testBit g.length && !leF (g.getD o' 0) (J : Int))) = false) := HYES.out (by simp)
                    clear HNO HYES
                    go_wp2
                    go_round
                    case rel => exact ⟨o + 1, by omega, by go_num, HY2.out⟩
                    case measure => simp [intOf]; omega
          · have hoe : o = g.length := by omega
            subst hoe
            have HOK := okLe_yes (f := f) (g := g) (v := (J : Int)) HALL.out
            have HS2 : Hid (S (J + 1) = S J + wyF f k leF t (g ++ [(J : Int)])) := by
              show _ = _
              rw [HS1.out J, HOK]
              simp
            obtain ⟨hb0, hb1⟩ := HMB.out J hlt
            have HRX : Hid (∀ W, WyI w b a n k f (.func (.func 38) #[] #[]) (g ++ [(J : Int)]) (m + S J) W → Calls Tryd.prog 50 #[.pointer (some ⟨b + 4, 0, none⟩), .pointer (some ⟨b, 0, none⟩), .pointer (some ⟨b + 3, 0, none⟩), .pointer (some ⟨b + 1, 0, none⟩), .pointer (some ⟨b + 2, 0, none⟩), .pointer (some ⟨b + 5, 0, none⟩)] W fun e w' => e = .returned (.tuple #[]) ∧ WyI w b a n k f (.func (.func 38) #[] #[]) (g ++ [(J : Int)]) (m + S (J + 1)) w') := fun W h => (HREC.out J (m + S J) W hb0 hb1 h).mono (by
              rintro e w' ⟨h1, h2⟩
              refine ⟨h1, ?_⟩
              rw [HS2.out]
              rw [show m + (S J + wyF f k leF t (g ++ [(J : Int)])) = m + S J + wyF f k leF t (g ++ [(J : Int)]) by omega]
              exact h2)
            clear hb0 hb1 HOK HS2 HALL
            go_wp2_with (first | (at_builtin; refine wpList_append_own _ rfl _ _ 27 rfl (b + 6) 3 i3 (.int .i64 0) 1 8 Tryd.underlying27 hi3 hz30 hz31 hz32 rfl (by decide) _ _ _ rfl (HOWN.out.alloc _) ⟨wq.heap.size, 0, none⟩ 1 1 [.int .i64 (J : Int)] rfl rfl (one_new _ _ _) (one_int _) ?c3 ?c4 ?c5 ?_))
            case c3 => unfold maxLen; omega
            case c4 => omega
            case c5 => first | exact hszq | omega | (simp; omega)
            intro v2 w4 ho4 hg4 _
            obtain ⟨vo, vc, hv2⟩ := owns_form ho4
            subst hv2
            obtain ⟨d1, d2, d3⟩ := HPUSH.out _ w4 ho4 hg4
            have HI4 : Hid (WyI w b a n k f (.func (.func 38) #[] #[]) (g ++ [(J : Int)]) (m + S J) (w4.setCell ⟨b + 4, 0, none⟩ (.slice vo (g.length + 1) vc))) := d3
            have hfn4 := d3.fn
            have c5 : (w4.setCell ⟨b + 4, 0, none⟩ (.slice vo (g.length + 1) vc)).cell? ⟨b + 5, 0, none⟩ = some (.func (.func 50) #[] #[.pointer (some ⟨b + 4, 0, none⟩), .pointer (some ⟨b, 0, none⟩), .pointer (some ⟨b + 3, 0, none⟩), .pointer (some ⟨b + 1, 0, none⟩), .pointer (some ⟨b + 2, 0, none⟩), .pointer (some ⟨b + 5, 0, none⟩)]) := by
              simp [World.cell?, hfn4, gvA]
            clear d3 hfn4 ho4 hg4 c1 c2 c3
            go_wp2_with fail
            refine (HRX.out _ HI4.out).mono ?_
            rintro e w5 ⟨rfl, hI5⟩
            obtain ⟨po, pc, f1, f2, f3, f4, f5⟩ := hI5.pop
            have HI6 : Hid (WyI w b a n k f (.func (.func 38) #[] #[]) g (m + S (J + 1)) (w5.setCell ⟨b + 4, 0, none⟩ (.slice po g.length pc))) := f5
            unfold maxLen at f3
            have gp : g.length ≤ pc := by omega
            clear hI5 f5 HI4 d1 d2 c5
            go_wp2
            go_roundw
            case rel => exact ⟨J + 1, by omega, by go_num, HI6.out⟩
            case measure => simp [intOf]; omega
      · have hke : k = J := by omega
        subst hke
        have HI6 : Hid (WyI w b a n k f (.func (.func 38) #[] #[]) g (m + S k) wq) := hI
        clear hI hlt hJ
        go_wp2
        rw [Exit.noGoto_normal]
        go_end0
        exact ⟨rfl, HI6.out⟩

end Go.Proofs.YtcmemhdlendlkaaDoor
