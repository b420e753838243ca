import Derived.Test.YtkdileeahbaobaaDoorMtA
/- matroid.isSet, Check. -/
namespace Go.Proofs.YtkdileeahbaobaaDoor
open Go.RowKit
attribute [local go_sem ↓] Go.wp_at_zero Go.wp_at_succ

theorem wrap_pow8 : ∀ N : Nat, N ≤ 8 → wrap64 ((2 : Int) ^ N) = 2 ^ N := by decide +kernel

set_option maxRecDepth 100000 in
theorem isSet_any (N : Nat) (s : Int) (v : Value) (w : World) (hN : N ≤ 8) :
    Calls Tryd.prog 17 #[.agg #[.int .i64 N, v], .int .i64 s] w fun e w' => e = .returned (.bool (decide (0 ≤ s) && decide (s < 2 ^ N))) ∧ Below w.heap.size w w' := by
  have hw := wrap_pow8 N hN
  have HA : Hid (Below w.heap.size w (w.alloc (.cells #[.int .i64 N, v] 25))) := (Below.refl _ _).alloc (Nat.le_refl _) _
  by_cases h0 : 0 ≤ s
  · have b0 : decide ((0 : Int) ≤ s) = true := decide_eq_true h0
    rw [b0, Bool.true_and]
    go_enter Tryd.func17, Tryd.ntmps17
    go_wp2
    go_ret
    exact ⟨ret_bool (by first | rfl | rw [hw]), HA.out⟩
  · have b0 : decide ((0 : Int) ≤ s) = false := decide_eq_false h0
    rw [b0, Bool.false_and]
    go_enter Tryd.func17, Tryd.ntmps17
    go_wp2
    go_ret
    exact ⟨rfl, HA.out⟩

/-- The first that is not 0. -/
def scanE (f : Nat → Int) : Nat → Int
  | 0 => 0
  | k + 1 => if scanE f k ≠ 0 then scanE f k else f k

theorem scan_zero {f : Nat → Int} : ∀ {n : Nat}, (∀ i, i < n → f i = 0) → scanE f n = 0
  | 0, _ => rfl
  | n + 1, h => by
    simp only [scanE]
    rw [scan_zero (n := n) (fun i hi => h i (by omega)), if_neg (by simp), h n (by omega)]

theorem scan_hit {f : Nat → Int} {k : Nat} (h0 : ∀ i, i < k → f i = 0) (h1 : f k ≠ 0) : ∀ {n : Nat}, k < n → scanE f n = f k
  | n + 1, h => by
    simp only [scanE]
    by_cases hk : k = n
    · subst hk
      rw [scan_zero h0, if_neg (by simp)]
    · rw [scan_hit h0 h1 (n := n) (by omega), if_pos h1]

def szI (b : Int) : Nat := (mem8 b.toNat).length

/-- What is wrong with a basis. -/
def stepE (N : Nat) (bs : List Int) (i : Nat) : Int :=
  if (decide (0 ≤ bs.getD i 0) && decide (bs.getD i 0 < 2 ^ N)) = false then 4
  else if (decide (0 < i) && decide (bs.getD i 0 ≤ bs.getD (i - 1) 0)) = true ∨ szI (bs.getD i 0) ≠ szI (bs.getD 0 0) then 3 else 0

def matE (N : Int) (bs : List Int) : Int :=
  if N < 0 ∨ 8 < N then 11 else if bs.length = 0 then 6 else if scanE (stepE N.toNat bs) bs.length ≠ 0 then scanE (stepE N.toNat bs) bs.length else if exB bs = true then 0 else 3

structure St0 (N : Nat) (bs : List Int) (i : Nat) : Prop where
  lo : 0 ≤ bs.getD i 0
  hi : bs.getD i 0 < 2 ^ N
  up : 0 < i → bs.getD (i - 1) 0 < bs.getD i 0
  sz : szI (bs.getD i 0) = szI (bs.getD 0 0)

theorem step0 {N : Nat} {bs : List Int} {i : Nat} : stepE N bs i = 0 ↔ St0 N bs i := by
  unfold stepE
  constructor
  · intro h
    split at h
    · omega
    · split at h
      · omega
      · rename_i h1 h2
        simp only [Bool.and_eq_false_iff, decide_eq_false_iff_not, Bool.and_eq_true, decide_eq_true_eq, not_or, Decidable.not_not] at h1 h2
        exact ⟨h1.1, h1.2, fun hi => by have := h2.1; omega, by omega⟩
  · intro h
    have h1 := h.lo
    have h2 := h.hi
    have h4 := h.sz
    rw [if_neg (by rw [decide_eq_true h1, decide_eq_true h2]; decide), if_neg]
    rintro (h3 | h3)
    · simp only [Bool.and_eq_true, decide_eq_true_eq] at h3
      have := h.up h3.1
      omega
    · exact h3 h4

theorem st_b8 {N : Nat} {bs : List Int} (hN : N ≤ 8) (h : ∀ i, i < bs.length → stepE N bs i = 0) : B8 bs := fun b hb => by
  obtain ⟨i, hi, rfl⟩ := List.getElem_of_mem hb
  have := step0.1 (h i hi)
  have h1 := this.lo
  have h2 := this.hi
  rw [List.getD_eq_getElem?_getD, List.getElem?_eq_getElem hi, Option.getD_some] at h1 h2
  have h3 : (2 : Int) ^ N ≤ 256 := by
    have : ∀ N : Nat, N ≤ 8 → (2 : Int) ^ N ≤ 256 := by decide
    exact this N hN
  omega

theorem st_ris {N : Nat} {bs : List Int} (h : ∀ i, i < bs.length → stepE N bs i = 0) : Ris bs := by
  have key : ∀ j, j < bs.length → ∀ i, i < j → bs.getD i 0 < bs.getD j 0 := by
    intro j
    induction j with
    | zero => intro _ i hi; omega
    | succ j ih =>
      intro hj i hi
      have h1 := (step0.1 (h (j + 1) hj)).up (by omega)
      rw [Nat.add_sub_cancel] at h1
      by_cases e : i = j
      · subst e; exact h1
      · have := ih (by omega) i (by omega)
        omega
  unfold Ris
  rw [List.pairwise_iff_getElem]
  intro i j hi hj hij
  have := key j hj i hij
  rw [List.getD_eq_getElem?_getD, List.getD_eq_getElem?_getD, List.getElem?_eq_getElem hi, List.getElem?_eq_getElem hj, Option.getD_some, Option.getD_some] at this
  exact this

end Go.Proofs.YtkdileeahbaobaaDoor

/- matroid.Check. -/
namespace Go.Proofs.YtkdileeahbaobaaDoor
open Go.RowKit
attribute [local go_sem ↓] Go.wp_at_zero Go.wp_at_succ

theorem pow8_le : ∀ N : Nat, N ≤ 8 → (2 : Int) ^ N ≤ 256 := by decide +kernel

theorem matE_ok {N : Nat} {bs : List Int} (hN : N ≤ 8) (hl : 0 < bs.length) : matE (N : Int) bs = if scanE (stepE N bs) bs.length ≠ 0 then scanE (stepE N bs) bs.length else if exB bs = true then 0 else 3 := by
  unfold matE
  rw [if_neg (by omega), if_neg (by omega), Int.toNat_natCast]

theorem matE_hit {N : Nat} {bs : List Int} {k : Nat} (hN : N ≤ 8) (hk : k < bs.length) (h0 : ∀ i, i < k → stepE N bs i = 0) (h1 : stepE N bs k ≠ 0) : matE (N : Int) bs = stepE N bs k := by
  rw [matE_ok hN (by omega), scan_hit h0 h1 hk, if_pos h1]

theorem matE_end {N : Nat} {bs : List Int} (hN : N ≤ 8) (hl : 0 < bs.length) (h0 : ∀ i, i < bs.length → stepE N bs i = 0) : matE (N : Int) bs = if exB bs = true then 0 else 3 := by
  rw [matE_ok hN hl, scan_zero h0, if_neg (by simp)]

theorem step4 {N : Nat} {bs : List Int} {k : Nat} (h : (decide (0 ≤ bs.getD k 0) && decide (bs.getD k 0 < 2 ^ N)) = false) : stepE N bs k = 4 := by
  unfold stepE; rw [if_pos h]

theorem step3 {N : Nat} {bs : List Int} {k : Nat} (h : (decide (0 ≤ bs.getD k 0) && decide (bs.getD k 0 < 2 ^ N)) = true) (h2 : (0 < k ∧ bs.getD k 0 ≤ bs.getD (k - 1) 0) ∨ szI (bs.getD k 0) ≠ szI (bs.getD 0 0)) : stepE N bs k = 3 := by
  unfold stepE
  rw [h, if_neg (by decide), if_pos]
  rcases h2 with h2 | h2
  · left; simp only [Bool.and_eq_true, decide_eq_true_eq]; exact h2
  · right; exact h2

set_option maxRecDepth 100000 in
set_option maxHeartbeats 1600000 in
theorem checkM_any (N : Int) (bs : List Int) (v : Value) (w : World) (hv : Sl w.heap.size 3 w v (ints bs)) (hl : bs.length ≤ 1000000) (hT : TabB w) :
    Calls Tryd.prog 16 #[.agg #[.int .i64 N, v]] w fun e w' => e = .returned (.int .i64 (matE N bs)) ∧ Below w.heap.size w w' := by
  obtain ⟨ao, cap, hvv, hlc, hcm⟩ := sl_open hv
  subst hvv
  have HBA : Hid (Below w.heap.size w (w.alloc (.cells #[.int .i64 N, .slice ao bs.length cap] 25))) := (Below.refl _ _).alloc (Nat.le_refl _) _
  by_cases hN0 : N < 0
  · have b0 : decide (N < 0) = true := decide_eq_true hN0
    have HE : Hid (matE N bs = 11) := by unfold matE; exact if_pos (.inl hN0)
    clear hv hT
    go_enter Tryd.func16, Tryd.ntmps16
    go_wp2
    go_ret
    exact ⟨by rw [HE.out]; rfl, HBA.out⟩
  have b0 : decide (N < 0) = false := decide_eq_false hN0
  by_cases hN8 : 8 < N
  · have b1 : decide (8 < N) = true := decide_eq_true hN8
    have HE : Hid (matE N bs = 11) := by unfold matE; exact if_pos (.inr hN8)
    clear hv hT
    go_enter Tryd.func16, Tryd.ntmps16
    go_wp2
    go_ret
    exact ⟨by rw [HE.out]; rfl, HBA.out⟩
  have b1 : decide (8 < N) = false := decide_eq_false hN8
  by_cases hl0 : bs.length = 0
  · have HE : Hid (matE N bs = 6) := by
      show _ = _
      unfold matE; rw [if_neg (by omega), if_pos hl0]
    have b2 : ((bs.length : Int) == 0) = true := by rw [hl0]; rfl
    clear hv hT hl0
    obtain ⟨q, hq⟩ : ∃ q, q = bs.length := ⟨_, rfl⟩
    rw [← hq] at b2 HBA hlc hl ⊢
    clear hq
    go_enter Tryd.func16, Tryd.ntmps16
    go_wp2
    go_ret
    exact ⟨by rw [HE.out]; rfl, HBA.out⟩
  have b2 : ((bs.length : Int) == 0) = false := by rw [beq_eq_false_iff_ne]; omega
  obtain ⟨n, rfl⟩ : ∃ n : Nat, N = (n : Int) := ⟨N.toNat, by omega⟩
  have hn8 : n ≤ 8 := by omega
  obtain ⟨W, hW⟩ : ∃ W, W = w.alloc (.cells #[.int .i64 n, .slice ao bs.length cap] 25) := ⟨_, rfl⟩
  rw [← hW] at HBA
  have c0 : W.cell? ⟨w.heap.size, 0, none⟩ = some (.int .i64 n) := by rw [hW]; simp
  have c1 : W.cell? ⟨w.heap.size, 1, none⟩ = some (.slice ao bs.length cap) := by rw [hW]; simp
  have HC : Hid (∀ W', Below W.heap.size W W' → W'.cell? ⟨w.heap.size, 0, none⟩ = some (.int .i64 n) ∧ W'.cell? ⟨w.heap.size, 1, none⟩ = some (.slice ao bs.length cap) ∧ Sl w.heap.size 3 W' (.slice ao bs.length cap) (ints bs) ∧ TabB W' ∧ Below w.heap.size w W') := fun W' h =>
    ⟨(h.cell (lt_of_cell c0)).trans c0, (h.cell (lt_of_cell c1)).trans c1, (hv.below HBA.out (Nat.le_refl _)).below h (Nat.le_refl _), (hT.below HBA.out).below h, HBA.out.trans (h.mono HBA.out.size)⟩
  clear hv hT hN0 hN8
  go_enter Tryd.func16, Tryd.ntmps16
  go_wp2
  rw [← hW]
  clear hW c0 c1
  go_loopw [20] (fun i wr => ∃ k : Nat, k ≤ bs.length ∧ i = .int .i64 k ∧ (∀ i, i < k → stepE n bs i = 0) ∧ Below W.heap.size W wr) (fun i _ => bs.length - (intOf i).toNat)
  case atStart => exact ⟨0, Nat.zero_le _, rfl, fun i hi => by omega, Below.refl _ _⟩
  case round =>
    obtain ⟨k, hk, rfl, hst, hbr⟩ := hrel
    have HST : Hid (∀ i, i < k → stepE n bs i = 0) := hst
    have HBR : Hid (Below W.heap.size W wr) := hbr
    obtain ⟨wa, rfl⟩ : ∃ wa, wa = wr := ⟨wr, rfl⟩
    obtain ⟨d0, d1, hsl, -, -⟩ := HC.out wa hbr
    clear hst hbr
    by_cases hlt : k < bs.length
    · obtain ⟨gb, gq, gcc, hs, _, hcc⟩ := sl_cell hsl hlt
      simp only [Value.slice.injEq] at hs
      obtain ⟨rfl, -, rfl⟩ := hs
      have kI : (k : Int) < (bs.length : Int) := by omega
      have kI0 : (0 : Int) ≤ (k : Int) := by omega
      have HIS : Hid (Calls Tryd.prog 17 #[.agg #[.int .i64 n, .slice (some ⟨gb, gq, none⟩) bs.length cap], .int .i64 (bs.getD k 0)] wa fun e w' => e = .returned (.bool (decide (0 ≤ bs.getD k 0) && decide (bs.getD k 0 < 2 ^ n))) ∧ Below W.heap.size W w') :=
        (isSet_any n _ _ wa hn8).mono (by
          rintro e w' ⟨h1, h2⟩
          exact ⟨h1, HBR.out.trans (h2.mono HBR.out.size)⟩)
      obtain ⟨b, hb⟩ : ∃ b, b = bs.getD k 0 := ⟨_, rfl⟩
      have HBB : Hid (b = bs.getD k 0) := hb
      rw [← hb] at hcc HIS
      obtain ⟨fb, hfb⟩ : ∃ fb, fb = (decide (0 ≤ b) && decide (b < 2 ^ n)) := ⟨_, rfl⟩
      have HFB : Hid (fb = (decide (0 ≤ b) && decide (b < 2 ^ n))) := hfb
      rw [← hfb] at HIS
      clear hb hfb hsl
      go_wp2_with fail
      refine HIS.out.mono ?_
      rintro e w2 ⟨rfl, hb2⟩
      have HB2 : Hid (Below W.heap.size W w2) := hb2
      clear hb2 HIS hcc d0 d1
      cases fb
      · have HE : Hid (matE (n : Int) bs = 4) := by
          have h4 := step4 (N := n) (bs := bs) (k := k) (by rw [← HBB.out]; exact HFB.out.symm)
          show _ = _
          rw [matE_hit hn8 hlt HST.out (by rw [h4]; decide), h4]
        have HBF : Hid (Below w.heap.size w w2) := (HC.out w2 HB2.out).2.2.2.2
        go_wp2
        go_ret
        exact ⟨by rw [HE.out]; rfl, HBF.out⟩
      · obtain ⟨hlo, hhi⟩ : 0 ≤ b ∧ b < 2 ^ n := by
          have := HFB.out
          simp only [Bool.true_eq, Bool.and_eq_true, decide_eq_true_eq] at this
          exact this
        have hp8 := pow8_le n hn8
        obtain ⟨y, rfl⟩ : ∃ y : Nat, b = (y : Int) := ⟨b.toNat, by omega⟩
        have hy : y < 256 := by omega
        clear hlo hhi hp8
        obtain ⟨d0, d1, hsl, -, hbw⟩ := HC.out w2 HB2.out
        have HBF : Hid (∀ q, Below w.heap.size w (w2.drewN q)) := fun q => hbw.trans ⟨rfl, rfl, rfl, Nat.le_refl _, fun _ _ => rfl⟩
        have HBG : Hid (∀ q, Below W.heap.size W (w2.drewN q)) := fun q => HB2.out.trans ⟨rfl, rfl, rfl, Nat.le_refl _, fun _ _ => rfl⟩
        have HLY : Hid (∀ q, Calls Tryd.prog 30 #[.int .u64 y] (w2.drewN q) fun e w' => e = .returned (.int .i64 (mem8 y).length) ∧ w' = w2.drewN q) := fun q => len8_any y hy _
        have HYS : Hid (szI (bs.getD k 0) = (mem8 y).length) := by
          show _ = _
          rw [← HBB.out]; rfl
        have HFT : Hid ((decide (0 ≤ bs.getD k 0) && decide (bs.getD k 0 < 2 ^ n)) = true) := by rw [← HBB.out]; exact HFB.out.symm
        clear hbw
        cases k with
        | zero =>
          obtain ⟨gb', gq', gcc', hs', _, hc0⟩ := sl_cell hsl hlt
          simp only [Value.slice.injEq, Option.some.injEq, Addr.mk.injEq, and_true, true_and] at hs'
          obtain ⟨⟨rfl, rfl⟩, rfl⟩ := hs'
          rw [← HBB.out] at hc0
          have hc1 : w2.cell? ⟨gb, gq, none⟩ = some (.int .i64 y) := hc0
          have q3 : decide ((0 : Int) < ((0 : Nat) : Int)) = false := rfl
          have HN0 : Hid (∀ i, i < 0 + 1 → stepE n bs i = 0) := fun i hi => by
            have : i = 0 := by omega
            subst this
            unfold stepE
            rw [HFT.out]
            simp
          generalize (mem8 y).length = L at *
          have q4 : ((L : Int) != (L : Int)) = false := by simp
          clear hsl
          go_wp2_with fail
          go_big_quiet ((go_at_call 30; exact Calls.quiet_of_same (w := w2) (HLY.out _)))
          go_wp2
          go_roundw
          case rel => exact ⟨0 + 1, by omega, by go_num, HN0.out, HBG.out _⟩
          case measure => simp [intOf]; omega
        | succ j =>
          obtain ⟨gb', gq', gcc', hs', _, hc0⟩ := sl_cell hsl (k := 0) (by omega)
          simp only [Value.slice.injEq, Option.some.injEq, Addr.mk.injEq, and_true, true_and] at hs'
          obtain ⟨⟨rfl, rfl⟩, rfl⟩ := hs'
          obtain ⟨gb', gq', gcc', hs', _, hcj⟩ := sl_cell hsl (k := j) (by omega)
          simp only [Value.slice.injEq, Option.some.injEq, Addr.mk.injEq, and_true, true_and] at hs'
          obtain ⟨⟨rfl, rfl⟩, rfl⟩ := hs'
          have hs0 := step0.1 (HST.out 0 (by omega))
          have hp8 := pow8_le n hn8
          have hz1 := hs0.lo
          have hz2 := hs0.hi
          obtain ⟨z, hz⟩ : ∃ z : Nat, bs.getD 0 0 = (z : Int) := ⟨(bs.getD 0 0).toNat, by omega⟩
          have hz8 : z < 256 := by omega
          have HZS : Hid (szI (bs.getD 0 0) = (mem8 z).length) := by
            show _ = _
            rw [hz]; rfl
          rw [hz] at hc0
          have hc1 : w2.cell? ⟨gb, gq, none⟩ = some (.int .i64 z) := hc0
          have HLZ : Hid (∀ q, Calls Tryd.prog 30 #[.int .u64 z] (w2.drewN q) fun e w' => e = .returned (.int .i64 (mem8 z).length) ∧ w' = w2.drewN q) := fun q => len8_any z hz8 _
          clear hs0 hp8 hz1 hz2 hz hsl hc0
          obtain ⟨pv, hpv⟩ : ∃ pv, pv = bs.getD j 0 := ⟨_, rfl⟩
          have HPV : Hid (pv = bs.getD j 0) := hpv
          rw [← hpv] at hcj
          clear hpv
          have q3 : decide ((0 : Int) < ((j + 1 : Nat) : Int)) = true := decide_eq_true (by omega)
          have q3' : decide ((0 : Int) < (j : Int) + 1) = true := decide_eq_true (by omega)
          have jI : (j : Int) < (bs.length : Int) := by omega
          have jI0 : (0 : Int) ≤ (j : Int) := by omega
          by_cases hle : (y : Int) ≤ pv
          · have q4 : decide ((y : Int) ≤ pv) = true := decide_eq_true hle
            have HE : Hid (matE (n : Int) bs = 3) := by
              have h3 := step3 (N := n) (bs := bs) (k := j + 1) HFT.out (.inl ⟨by omega, by rw [← HBB.out, Nat.add_sub_cancel, ← HPV.out]; exact hle⟩)
              show _ = _
              rw [matE_hit hn8 hlt HST.out (by rw [h3]; decide), h3]
            clear hle
            go_wp2_with fail
            go_big_quiet (fail)
            go_wp2
            go_ret
            exact ⟨by rw [HE.out]; rfl, HBF.out _⟩
          · have q4 : decide ((y : Int) ≤ pv) = false := decide_eq_false hle
            by_cases hsz : (mem8 y).length = (mem8 z).length
            · have HN0 : Hid (∀ i, i < j + 1 + 1 → stepE n bs i = 0) := fun i hi => by
                by_cases e : i = j + 1
                · subst e
                  refine step0.2 ⟨?_, ?_, fun _ => ?_, ?_⟩
                  · have := HFT.out
                    simp only [Bool.and_eq_true, decide_eq_true_eq] at this
                    exact this.1
                  · have := HFT.out
                    simp only [Bool.and_eq_true, decide_eq_true_eq] at this
                    exact this.2
                  · rw [← HBB.out, Nat.add_sub_cancel, ← HPV.out]; omega
                  · rw [HYS.out, HZS.out]; exact hsz
                · exact HST.out i (by omega)
              have q5 : (((mem8 y).length : Int) != ((mem8 z).length : Int)) = false := by rw [hsz]; simp
              clear hsz hle
              generalize (mem8 y).length = L at *
              generalize (mem8 z).length = L2 at *
              go_wp2_with fail
              go_big_quiet ((go_at_call 30; first | exact Calls.quiet_of_same (w := w2) (HLY.out _) | exact Calls.quiet_of_same (w := w2) (HLZ.out _)))
              go_wp2
              go_roundw
              case rel => exact ⟨j + 1 + 1, by omega, by go_num, HN0.out, HBG.out _⟩
              case measure => simp [intOf]; omega
            · have HE : Hid (matE (n : Int) bs = 3) := by
                have h3 := step3 (N := n) (bs := bs) (k := j + 1) HFT.out (.inr (by rw [HYS.out, HZS.out]; exact hsz))
                show _ = _
                rw [matE_hit hn8 hlt HST.out (by rw [h3]; decide), h3]
              have q5 : (((mem8 y).length : Int) != ((mem8 z).length : Int)) = true := by rw [bne_iff_ne]; omega
              clear hsz hle
              generalize (mem8 y).length = L at *
              generalize (mem8 z).length = L2 at *
              go_wp2_with fail
              go_big_quiet ((go_at_call 30; first | exact Calls.quiet_of_same (w := w2) (HLY.out _) | exact Calls.quiet_of_same (w := w2) (HLZ.out _)))
              go_wp2
              go_ret
              exact ⟨by rw [HE.out]; rfl, HBF.out _⟩
    · have hke : k = bs.length := by omega
      obtain ⟨-, -, hsl2, hT2, hbw⟩ := HC.out wa HBR.out
      have hst : ∀ i, i < bs.length → stepE n bs i = 0 := by rw [← hke]; exact HST.out
      have HX : Hid (Calls Tryd.prog 31 #[.slice ao bs.length cap] wa fun e w' => e = .returned (.bool (exB bs)) ∧ Below w.heap.size w w') :=
        (exch_any bs _ wa (hsl2.more hbw.size) (st_ris hst) (st_b8 hn8 hst) hl hT2).mono (by
          rintro e w' ⟨h1, h2⟩
          exact ⟨h1, hbw.trans (h2.mono hbw.size)⟩)
      have HE : Hid (matE (n : Int) bs = if exB bs = true then 0 else 3) := matE_end hn8 (by omega) hst
      have kD : decide ((k : Int) < (bs.length : Int)) = false := decide_eq_false (by omega)
      clear hsl2 hT2 hbw hst hke hsl
      generalize exB bs = fb at *
      go_wp2_with fail
      refine HX.out.mono ?_
      rintro e w2 ⟨rfl, hb2⟩
      have HB2 : Hid (Below w.heap.size w w2) := hb2
      clear hb2 HX
      cases fb
      · go_wp2
        go_ret
        exact ⟨by rw [HE.out]; rfl, HB2.out⟩
      · go_wp2
        go_ret
        exact ⟨by rw [HE.out]; rfl, HB2.out⟩

end Go.Proofs.YtkdileeahbaobaaDoor
