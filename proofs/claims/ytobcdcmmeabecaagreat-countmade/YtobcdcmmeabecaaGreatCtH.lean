import Derived.Test.YtobcdcmmeabecaaGreatCtG
import Derived.Test.YtobcdcmmeabecaaGreatCtE
/- The program: falling. -/
namespace Go.Proofs.YtobcdcmmeabecaaGreat
open Go.RowKit
attribute [local go_sem ↓] Go.wp_at_zero Go.wp_at_succ

/-- The coefficients of (k + top) (k + top - 1) .., i of them. -/
def flN (top : Int) : Nat → Nat → Int
  | 0, p => if p = 0 then 1 else 0
  | i + 1, 0 => flN top i 0 * (top - i)
  | i + 1, p + 1 => flN top i (p + 1) * (top - i) + flN top i p

theorem flN_none (top : Int) : ∀ i p, i < p → flN top i p = 0
  | 0, p, h => by unfold flN; rw [if_neg (by omega)]
  | i + 1, 0, h => by omega
  | i + 1, p + 1, h => by
    unfold flN
    rw [flN_none top i (p + 1) (by omega), flN_none top i p (by omega)]
    simp

theorem flN_bd {top : Int} (h0 : 0 ≤ top) (h3 : top ≤ 3) : ∀ i p, i ≤ 3 → (flN top i p).natAbs ≤ 4 ^ i
  | 0, p, _ => by unfold flN; by_cases h : p = 0 <;> simp [h]
  | i + 1, p, hi => by
    have hm : ∀ q, (flN top i q * (top - i)).natAbs ≤ 4 ^ i * 3 := fun q => by
      rw [Int.natAbs_mul]
      exact Nat.mul_le_mul (flN_bd h0 h3 i q (by omega)) (by omega)
    rw [Nat.pow_succ]
    cases p with
    | zero =>
      show (flN top i 0 * (top - i)).natAbs ≤ _
      have := hm 0
      omega
    | succ p =>
      show (flN top i (p + 1) * (top - i) + flN top i p).natAbs ≤ _
      have h1 := hm (p + 1)
      have h2 := flN_bd h0 h3 i p (by omega)
      generalize flN top i (p + 1) * (top - i) = x at *
      omega

def flL (top : Int) (i n : Nat) : List Int := (List.range n).map (flN top i)

theorem flL_len (top : Int) (i n : Nat) : (flL top i n).length = n := by simp [flL]

theorem flL_get {top : Int} {i n k : Nat} (hk : k < n) : (flL top i n).getD k 0 = flN top i k := by
  unfold flL
  rw [List.getD_eq_getElem?_getD, List.getElem?_map, List.getElem?_range hk]
  rfl

theorem flL_more (top : Int) (i : Nat) : ints (flL top i (i + 1)) ++ [.int .i64 0] = ints (flL top i (i + 1 + 1)) := by
  unfold flL
  rw [List.range_succ (n := i + 1), List.map_append]
  simp [ints, flN_none top i (i + 1) (by omega)]

theorem own_row {B n : Nat} {e : TypeId} {w : World} {v : Value} {l : List Int} (h : w.ownsRow B e 1 v n (ints l)) (hn : 0 < n) : ∃ g cap F, v = .slice (some ⟨g, 0, none⟩) n cap ∧ B ≤ g ∧ w.rowIs g e cap F ∧ (∀ i, i < n → F i = .int .i64 (l.getD i 0)) ∧ n ≤ cap ∧ cap ≤ 9223372036854775807 := by
  obtain ⟨h1, h2⟩ := h
  rcases h2 with ⟨_, h0⟩ | ⟨g, cap, cur, hu, hg, hh, hnc, hcm, hs, htk⟩
  · omega
  · have hll : l.length = n := by simpa [ints] using h1
    refine ⟨g, cap, fun i => cur.toList.getD i (.int .i64 0), hu, hg, ⟨cur, hh, by omega, fun i hi => ?_⟩, fun i hi => ?_, hnc, by unfold maxLen at hcm; exact hcm⟩
    · show cur[i]? = some (cur.toList.getD i (.int .i64 0))
      rw [← Array.getElem?_toList, List.getD_eq_getElem?_getD, List.getElem?_eq_getElem (by simp; omega)]; rfl
    · have e1 : cur.toList.getD i (.int .i64 0) = (ints l).getD i (.int .i64 0) := by
        rw [← htk]
        simp only [List.getD_eq_getElem?_getD]
        rw [List.getElem?_take_of_lt (by omega)]
      show cur.toList.getD i (.int .i64 0) = _
      rw [e1]
      simp [ints, show i < l.length by omega]

theorem row_own {B g n cap : Nat} {e : TypeId} {w : World} {F : Nat → Value} {l : List Int} (h : w.rowIs g e cap F) (hB : B ≤ g) (hl : l.length = n) (hF : ∀ i, i < n → F i = .int .i64 (l.getD i 0)) (hnc : n ≤ cap) (hcm : cap ≤ 9223372036854775807) : w.ownsRow B e 1 (.slice (some ⟨g, 0, none⟩) n cap) n (ints l) := by
  obtain ⟨cur, hh, hs, hc⟩ := h
  refine ⟨by simp [ints, hl], Or.inr ⟨g, cap, cur, rfl, hB, hh, hnc, by unfold maxLen; exact hcm, by omega, ?_⟩⟩
  apply List.ext_getElem?
  intro i
  rw [Nat.mul_one]
  by_cases hi : i < n
  · rw [List.getElem?_take_of_lt hi, Array.getElem?_toList, hc i (by omega), hF i hi]
    simp [ints, show i < l.length by omega]
  · rw [List.getElem?_eq_none (by simp; omega), List.getElem?_eq_none (by simp [ints]; omega)]

end Go.Proofs.YtobcdcmmeabecaaGreat

/- The program: the walk of falling. -/
namespace Go.Proofs.YtobcdcmmeabecaaGreat
open Go.RowKit
attribute [local go_sem ↓] Go.wp_at_zero Go.wp_at_succ

set_option maxRecDepth 100000 in
set_option maxHeartbeats 1600000 in
theorem falling_any (m : Nat) (top : Int) (w : World) (hm : m ≤ 3) (h0 : 0 ≤ top) (h3 : top ≤ 3) :
    Calls Tryz.prog 51 #[.int .i64 top, .int .i64 m] w fun e w' => ∃ u, e = .returned u ∧ w'.ownsRow w.heap.size 3 1 u (m + 1) (ints (flL top m (m + 1))) ∧ Below w.heap.size w w' := by
  obtain ⟨i3, hi3, hz30, hz31, hz32⟩ := info_parts Tryz.info3
  have HBD : Hid (∀ i p, i ≤ 3 → (flN top i p).natAbs ≤ 64) := fun i p hi => Nat.le_trans (flN_bd h0 h3 i p hi) (Nat.le_trans (Nat.pow_le_pow_right (by decide) hi) (by decide))
  obtain ⟨W, hW⟩ : ∃ W, W = w.alloc (.cells #[.int .i64 1] 3) := ⟨_, rfl⟩
  have HIN : Hid (W.ownsRow w.heap.size 3 1 (.slice (some ⟨w.heap.size, 0, none⟩) 1 1) 1 (ints (flL top 0 1)) ∧ Below w.heap.size w W) := by
    rw [hW]
    refine ⟨?_, (Below.refl _ _).alloc (Nat.le_refl _) _⟩
    have := World.ownsRow_lit (base := w.heap.size) (e := 3) (size := 1) w #[.int .i64 1] 1 (Nat.le_refl _) (by decide) rfl
    exact this
  go_enter Tryz.func51, Tryz.ntmps51
  go_wp2
  rw [← hW]
  clear hW
  go_loopw [5, 6, 7, 10] (fun x _ _ i wr => ∃ q : Nat, q ≤ m ∧ i = .int .i64 q ∧ wr.ownsRow w.heap.size 3 1 x (q + 1) (ints (flL top q (q + 1))) ∧ Below w.heap.size w wr) (fun _ _ _ i _ => m - (intOf i).toNat)
  case atStart => exact ⟨0, Nat.zero_le _, rfl, HIN.out.1, HIN.out.2⟩
  case round =>
    obtain ⟨q, hq, rfl, ho, hbel⟩ := hrel
    rename World => wa
    have HO : Hid (wa.ownsRow w.heap.size 3 1 u5 (q + 1) (ints (flL top q (q + 1)))) := ho
    have HB : Hid (Below w.heap.size w wa) := hbel
    have hsz : w.heap.size ≤ wa.heap.size := hbel.size
    clear ho hbel
    by_cases hqm : q < m
    · have hqI : (q : Int) < (m : Int) := by omega
      go_wp2_with (first | (at_builtin; refine wpList_append_own _ rfl _ _ 22 rfl w.heap.size 3 i3 (.int .i64 0) 1 8 Tryz.underlying22 hi3 hz30 hz31 hz32 rfl (by decide) _ _ _ rfl (HO.out.alloc _) ⟨wa.heap.size, 0, none⟩ 1 1 [.int .i64 0] rfl rfl (one_new _ _ _) (one_int _) ?c3 ?c4 ?c5 ?_))
      case c3 => unfold maxLen; omega
      case c4 => omega
      case c5 => first | exact hsz | omega | (simp; omega)
      intro v' w3 ho3 hg3 _
      have hb3 : Below w.heap.size w w3 := (HB.out.alloc hsz _).grown hg3 (by simp; omega) (fun x hx => (HO.out.lt x hx).1)
      have ho4 : w3.ownsRow w.heap.size 3 1 v' (q + 1 + 1) (ints (flL top q (q + 1 + 1))) := by
        rw [← flL_more]
        exact ho3
      obtain ⟨n, hn⟩ : ∃ n, n = q + 1 + 1 := ⟨_, rfl⟩
      rw [← hn] at ho4
      obtain ⟨g, cap, F0, hv', hg, hrow, hF, hnc, hcm⟩ := own_row ho4 (by omega)
      subst hv'
      have HR0 : Hid (w3.rowIs g 3 cap F0 ∧ (∀ p, p < n → F0 p = .int .i64 (flN top q p)) ∧ Below w.heap.size w w3) := ⟨hrow, fun p hp => by rw [hF p hp, flL_get hp], hb3⟩
      have HG : Hid (w.heap.size ≤ g) := hg
      have HN : Hid (n = q + 1 + 1) := hn
      have hnI : (n : Int) = (q : Int) + 2 := by omega
      have hn0 : (0 : Int) ≤ (n : Int) := by omega
      have HNI : Hid ((n : Int) = (q : Int) + 2) := hnI
      have hn6 : n ≤ 6 := by omega
      clear ho3 hg3 ho4 hrow hF hb3 hg hn hnI
      go_wp2
      go_loopw [7] (fun i wr => ∃ (p : Nat) (c : Int) (F : Nat → Value), p ≤ n ∧ c = (p : Int) - 1 ∧ i = .int .i64 c ∧ wr.rowIs g 3 cap F ∧ (∀ j, j < n → F j = .int .i64 (if p ≤ j then flN top (q + 1) j else flN top q j)) ∧ Below w.heap.size w wr) (fun i _ => (intOf i + 1).toNat)
      case atStart => exact ⟨n, _, F0, Nat.le_refl _, rfl, rfl, HR0.out.1, fun j hj => by rw [if_neg (by omega)]; exact HR0.out.2.1 j hj, HR0.out.2.2⟩
      case round =>
        obtain ⟨p, c, F, hp, hc, rfl, hrow, hF, hbel⟩ := hrel
        have HR : Hid (wr.rowIs g 3 cap F) := hrow
        have HF : Hid (∀ j, j < n → F j = .int .i64 (if p ≤ j then flN top (q + 1) j else flN top q j)) := hF
        have HB2 : Hid (Below w.heap.size w wr) := hbel
        clear hrow hF hbel
        rcases p with _ | p
        · obtain rfl : c = -1 := by omega
          have R1 : Hid (wr.ownsRow w.heap.size 3 1 (.slice (some ⟨g, 0, none⟩) n cap) (q + 1 + 1) (ints (flL top (q + 1) (q + 1 + 1)))) := by
            have h := row_own (l := flL top (q + 1) n) HR.out HG.out (flL_len _ _ _) (fun i hi => by rw [flL_get hi, HF.out i hi, if_pos (Nat.zero_le _)]) hnc hcm
            rw [HN.out] at h ⊢
            exact h
          clear hp hc
          go_wp2
          exact ⟨⟨q + 1, hqm, by go_num, R1.out, HB2.out⟩, by simp [intOf]; omega⟩
        · have ca := HR.out.cell (i := p) (by omega)
          have cf := HR.out.frozen p
          rw [HF.out p (by omega), if_neg (by omega)] at ca
          have hb1 := HBD.out q p (by omega)
          have hmul : (flN top q p * (top - (q : Int))).natAbs ≤ 64 * 3 := by
            rw [Int.natAbs_mul]
            exact Nat.mul_le_mul hb1 (by omega)
          have hw1 : wrap64 (flN top q p * (top - (q : Int))) = flN top q p * (top - (q : Int)) := IntWalk.wrap64_in _ ⟨by omega, by omega⟩
          have hw0 : wrap64 (top - (q : Int)) = top - (q : Int) := IntWalk.wrap64_in _ ⟨by omega, by omega⟩
          obtain ⟨x, hx⟩ : ∃ x, x = flN top q p * (top - (q : Int)) := ⟨_, rfl⟩
          obtain ⟨Z, hZ⟩ : ∃ Z, Z = wr.setCell ⟨g, p, none⟩ (.int .i64 x) := ⟨_, rfl⟩
          have HRZ : Hid (Z.rowIs g 3 cap (fun i => if i = p then .int .i64 x else F i)) := by rw [hZ]; exact HR.out.set p _
          have HBZ : Hid (Below w.heap.size w Z) := by rw [hZ]; exact ((Touch.refl _ _).setCell p _).below HB2.out HG.out
          rw [← hx] at hw1 hmul
          rcases p with _ | p
          · obtain rfl : c = 0 := by omega
            have R2 : Hid (∀ j, j < n → (if j = 0 then Value.int .i64 x else F j) = .int .i64 (if 0 ≤ j then flN top (q + 1) j else flN top q j)) := fun j hj => by
              rw [if_pos (Nat.zero_le _)]
              by_cases h1 : j = 0
              · rw [if_pos h1, h1, hx]; rfl
              · rw [if_neg h1, HF.out j hj, if_pos (by omega)]
            have hn1 : (0 : Int) < (n : Int) := by omega
            have hn2 : 0 < n := by omega
            have HXX : Hid (x = flN top q 0 * (top - (q : Int))) := hx
            generalize flN top q 0 = za at *
            rw [hx] at hw1 hZ
            clear hp hc hb1 hmul
            go_wp2
            rw [← hZ]
            exact ⟨⟨0, -1, _, Nat.zero_le _, rfl, by first | rfl | go_num, HRZ.out, R2.out, HBZ.out⟩, by simp [intOf]⟩
          · obtain rfl : c = (p : Int) + 1 := by omega
            have cb := HR.out.cell (i := p) (by omega)
            rw [HF.out p (by omega), if_neg (by omega)] at cb
            have hb2 := HBD.out q p (by omega)
            have za1 : Z.cell? ⟨g, p + 1, none⟩ = some (.int .i64 x) := by rw [HRZ.out.cell (i := p + 1) (by omega), if_pos rfl]
            have zb1 : Z.cell? ⟨g, p, none⟩ = some (.int .i64 (flN top q p)) := by rw [HRZ.out.cell (i := p) (by omega), if_neg (by omega), HF.out p (by omega), if_neg (by omega)]
            have zf1 := HRZ.out.frozen (p + 1)
            have R1 : Hid ((Z.setCell ⟨g, p + 1, none⟩ (.int .i64 (x + flN top q p))).drew.rowIs g 3 cap (fun i => if i = p + 1 then .int .i64 (x + flN top q p) else if i = p + 1 then .int .i64 x else F i)) := (HRZ.out.set (p + 1) _).drew
            have R3 : Hid (Below w.heap.size w (Z.setCell ⟨g, p + 1, none⟩ (.int .i64 (x + flN top q p))).drew) := Below.drew (((Touch.refl _ _).setCell (p + 1) _).below HBZ.out HG.out)
            have R2 : Hid (∀ j, j < n → (if j = p + 1 then Value.int .i64 (x + flN top q p) else if j = p + 1 then .int .i64 x else F j) = .int .i64 (if p + 1 ≤ j then flN top (q + 1) j else flN top q j)) := fun j hj => by
              by_cases h1 : j = p + 1
              · rw [if_pos h1, if_pos (by omega), h1, hx]; rfl
              · rw [if_neg h1, if_neg h1, HF.out j hj]
                by_cases h2 : p + 1 ≤ j
                · rw [if_pos (by omega), if_pos h2]
                · rw [if_neg (by omega), if_neg h2]
            have hw2 : wrap64 (x + flN top q p) = x + flN top q p := IntWalk.wrap64_in _ ⟨by omega, by omega⟩
            generalize flN top q (p + 1) = za at *
            generalize flN top q p = zb at *
            have h1I : (p : Int) + 1 < (n : Int) := by omega
            have h1I0 : (0 : Int) ≤ (p : Int) + 1 := by omega
            have h1N : p + 1 < n := by omega
            have h2N : p < n := by omega
            have h2I : (p : Int) < (n : Int) := by omega
            have h2I0 : (0 : Int) ≤ (p : Int) := by omega
            have h3I : (0 : Int) < (p : Int) + 1 := by omega
            have HX : Hid (za * (top - (q : Int)) = x) := hx.symm
            have hw3 : wrap64 (za * (top - (q : Int))) = x := by rw [HX.out]; exact hw1
            have hZ2 : wr.setCell ⟨g, p + 1, none⟩ (.int .i64 x) = Z := hZ.symm
            clear hp hc hb1 hb2 hmul hx hZ hw1
            go_wp2
            try rw [hZ2]
            clear hZ2 ca cf cb
            go_region
            go_wp2
            exact ⟨⟨p + 1, (p : Int), _, by omega, by omega, by go_num, R1.out, R2.out, R3.out⟩, by simp [intOf]; omega⟩
    · obtain rfl : q = m := by omega
      clear hq hqm
      go_wp2
      go_ret
      exact ⟨_, rfl, HO.out, HB.out⟩

theorem fallOk {d : Nat} (hd : d ≤ 3) : FallOk d (fun i => flN ((d : Int) - (i : Int)) d) := fun i W hi =>
  falling_any d _ W hd (by omega) (by omega)

end Go.Proofs.YtobcdcmmeabecaaGreat

/- Stanley's numbers: the program's and the document's are one. -/
namespace Go.Proofs.YtobcdcmmeabecaaGreat
open Go.RowKit

theorem delta_eq {d : Nat} (h1 : 1 ≤ d) (h3 : d ≤ 3) (G : Nat → Int) : (List.range (d + 1)).map (lsN (d + 1) G) = dlL d G (d + 1) := by
  unfold dlL
  apply List.map_congr_left
  intro i hi
  have hi' : i ≤ d := by have := List.mem_range.1 hi; omega
  obtain rfl | rfl | rfl : d = 1 ∨ d = 2 ∨ d = 3 := by omega
  · obtain rfl | rfl : i = 0 ∨ i = 1 := by omega
    · simp [lsN, lsF, dlT, sg, wy, upN, upF, unt]
    · simp [lsN, lsF, dlT, sg, wy, upN, upF, unt]; omega
  · obtain rfl | rfl | rfl : i = 0 ∨ i = 1 ∨ i = 2 := by omega
    · simp [lsN, lsF, dlT, sg, wy, upN, upF, unt]
    · simp [lsN, lsF, dlT, sg, wy, upN, upF, unt]; omega
    · simp [lsN, lsF, dlT, sg, wy, upN, upF, unt]; omega
  · obtain rfl | rfl | rfl | rfl : i = 0 ∨ i = 1 ∨ i = 2 ∨ i = 3 := by omega
    · simp [lsN, lsF, dlT, sg, wy, upN, upF, unt]
    · simp [lsN, lsF, dlT, sg, wy, upN, upF, unt]; omega
    · simp [lsN, lsF, dlT, sg, wy, upN, upF, unt]; omega
    · simp [lsN, lsF, dlT, sg, wy, upN, upF, unt]; omega

theorem dpL_eq {d : Nat} (h1 : 1 ≤ d) (h3 : d ≤ 3) (P s : List (List Int)) : dpL d P s = dlL d (fun i => (fsL d P s (d + 1)).getD i 0) (d + 1) := delta_eq h1 h3 _

end Go.Proofs.YtobcdcmmeabecaaGreat

/- Ehrhart's polynomial: the document's way by differences, and that both are one. -/
namespace Go.Proofs.YtobcdcmmeabecaaGreat
open Go.RowKit

/-- The j-th differences. -/
def dfN (G : Nat → Int) : Nat → Nat → Int
  | 0, i => G i
  | j + 1, i => dfN G j (i + 1) - dfN G j i

/-- (j + 1) (j + 2) .., t of them. -/
def fcN (j : Nat) : Nat → Int
  | 0 => 1
  | t + 1 => fcN j t * ((j : Int) + t + 1)

/-- The coefficients of the first j terms. -/
def eoS (d : Nat) (G : Nat → Int) : Nat → Nat → Int
  | 0, _ => 0
  | j + 1, p => eoS d G j p + dfN G j 0 * fcN j (d - j) * flN 0 j p

def eoL (d : Nat) (G : Nat → Int) : List Int := (List.range (d + 1)).map (eoS d G (d + 1))

theorem dlL_get {d n i : Nat} {G : Nat → Int} (hi : i < n) : (dlL d G n).getD i 0 = dlT d G i (i + 1) := by
  unfold dlL
  rw [List.getD_eq_getElem?_getD, List.getElem?_map, List.getElem?_range hi]
  rfl

theorem pyS_congr {G H : Nat → Int} {FA : Nat → Nat → Int} {p : Nat} : ∀ n, (∀ i, i < n → G i = H i) → pyS G FA n p = pyS H FA n p
  | 0, _ => rfl
  | n + 1, h => by
    show pyS G FA n p + G n * FA n p = pyS H FA n p + H n * FA n p
    rw [pyS_congr n (fun i hi => h i (by omega)), h n (by omega)]

set_option maxHeartbeats 1600000 in
theorem ehr_eq {d : Nat} (h1 : 1 ≤ d) (h3 : d ≤ 3) (G : Nat → Int) : pyL d (fun i => (dlL d G (d + 1)).getD i 0) (fun i => flN ((d : Int) - (i : Int)) d) = eoL d G := by
  unfold pyL eoL
  apply List.map_congr_left
  intro p hp
  have hp' : p ≤ d := by have := List.mem_range.1 hp; omega
  rw [pyS_congr (H := fun i => dlT d G i (i + 1)) (d + 1) (fun i hi => dlL_get hi)]
  clear hp
  obtain rfl | rfl | rfl : d = 1 ∨ d = 2 ∨ d = 3 := by omega
  · obtain rfl | rfl : p = 0 ∨ p = 1 := by omega
    all_goals
      simp [pyS, eoS, dfN, fcN, flN, dlT, sg, wy, upN, upF, unt]
      try omega
  · obtain rfl | rfl | rfl : p = 0 ∨ p = 1 ∨ p = 2 := by omega
    all_goals
      simp [pyS, eoS, dfN, fcN, flN, dlT, sg, wy, upN, upF, unt]
      try omega
  · obtain rfl | rfl | rfl | rfl : p = 0 ∨ p = 1 ∨ p = 2 ∨ p = 3 := by omega
    all_goals
      simp [pyS, eoS, dfN, fcN, flN, dlT, sg, wy, upN, upF, unt]
      try omega

end Go.Proofs.YtobcdcmmeabecaaGreat
