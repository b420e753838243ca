/- matroid.givesAll, exchanges. -/
import Derived.Test.YtkimhomkeneddaaDoorMt3
namespace Go.Proofs.YtkimhomkeneddaaDoor
open Go.RowKit
attribute [local go_sem ↓] Go.wp_at_zero Go.wp_at_succ

/-- Something stands in for a thing that is given. -/
def stB (bs : List Int) (a b : Nat) (x : Int) : Bool := (mem8 (outN b a)).any fun y => bs.contains (swp a x.toNat y.toNat : Int)

def gvB (bs : List Int) (a b : Nat) : Bool := (mem8 (outN a b)).all (stB bs a b)

theorem outN_lt8 {a b : Nat} (ha : a < 256) : outN a b < 256 := Nat.lt_of_le_of_lt (outN_le a b) ha

theorem mem8_rng {s : Nat} {x : Int} (h : x ∈ mem8 s) : ∃ i : Nat, i < 8 ∧ x = (i : Int) := by
  obtain ⟨i, h1, _, h3⟩ := mem8_iff.1 h
  exact ⟨i, h1, h3.symm⟩

theorem TabB.low {w w' : World} (h : TabB w) {N : Nat} (hb : Below N w w') (hN : w.heap.size ≤ N) : TabB w' := h.below (hb.mono hN)

theorem all_snoc {p : Int → Bool} {l : List Int} {k : Nat} (h : k < l.length) (h0 : (l.take k).all p = true) : (l.take (k + 1)).all p = p (l.getD k 0) := by
  rw [List.take_succ_eq_append_getElem h, List.all_append, h0]; simp [h]

theorem all_stop {p : Int → Bool} {l : List Int} {k : Nat} (h : k < l.length) (h0 : p (l.getD k 0) = false) : l.all p = false := by
  rw [List.all_eq_false]
  exact ⟨l.getD k 0, by simp [h], by rw [h0]; simp⟩

set_option maxRecDepth 100000 in
set_option maxHeartbeats 1600000 in
theorem gives_any (bs : List Int) (a b : Nat) (v : Value) (w : World) (hv : Sl w.heap.size 3 w v (ints bs)) (hr : Ris bs) (hl : bs.length ≤ 1000000) (ha : a < 256) (hb : b < 256) (hT : TabB w) :
    Calls Tryd.prog 40 #[v, .int .u64 a, .int .u64 b] w fun e w' => e = .returned (.bool (gvB bs a b)) ∧ Below w.heap.size w w' := by
  obtain ⟨ao, cap, hvv, hlc, hcm⟩ := sl_open hv
  subst hvv
  have e1 : bits .andNot .u64 (b : Int) (a : Int) = ((outN b a : Nat) : Int) := bits_andNot_u64_nat b a (by omega) (by omega)
  have e2 : bits .andNot .u64 (a : Int) (b : Int) = ((outN a b : Nat) : Int) := bits_andNot_u64_nat a b (by omega) (by omega)
  obtain ⟨W0, hW0⟩ : ∃ W0, W0 = (w.alloc (.cells #[.slice ao bs.length cap] 22)).alloc (.cells #[.int .u64 a] 43) := ⟨_, rfl⟩
  have hb0 : Below w.heap.size w W0 := by rw [hW0]; exact ((Below.refl _ _).alloc (Nat.le_refl _) _).alloc (by simp) _
  have hs0 : W0.heap.size = w.heap.size + 2 := by rw [hW0]; simp
  have c1 : W0.cell? ⟨w.heap.size, 0, none⟩ = some (.slice ao bs.length cap) := by rw [hW0]; simp
  have c2 : W0.cell? ⟨w.heap.size + 1, 0, none⟩ = some (.int .u64 a) := by rw [hW0]; simp
  have HB0 : Hid (Below w.heap.size w W0) := hb0
  have HC : Hid (∀ W', Below W0.heap.size W0 W' → W'.cell? ⟨w.heap.size, 0, none⟩ = some (.slice ao bs.length cap) ∧ W'.cell? ⟨w.heap.size + 1, 0, none⟩ = some (.int .u64 a) ∧ Sl w.heap.size 3 W' (.slice ao bs.length cap) (ints bs) ∧ TabB W') := fun W' h =>
    ⟨(h.cell (lt_of_cell c1)).trans c1, (h.cell (lt_of_cell c2)).trans c2, (hv.below hb0 (Nat.le_refl _)).below h (Nat.le_refl _), (hT.below hb0).below h⟩
  have HR : Hid (Ris bs) := hr
  clear hv hr hT hb0
  have HL1 : Hid (Calls Tryd.prog 45 #[.int .u64 ((outN b a : Nat) : Int)] W0 fun e w' => ∃ uo uc, e = .returned (.slice uo (mem8 (outN b a)).length uc) ∧ Sl 0 3 w' (.slice uo (mem8 (outN b a)).length uc) (ints (mem8 (outN b a))) ∧ Below W0.heap.size W0 w') :=
    (list8_any _ (outN_lt8 hb) W0 (HC.out W0 (Below.refl _ _)).2.2.2).mono (by
      rintro e w' ⟨u, rfl, h1, h2⟩
      obtain ⟨uo, uc, rfl⟩ := owns_form h1
      exact ⟨uo, uc, rfl, Sl.own h1, h2⟩)
  have HL2 : Hid (∀ W', Below W0.heap.size W0 W' → Calls Tryd.prog 45 #[.int .u64 ((outN a b : Nat) : Int)] W' fun e w' => ∃ uo uc, e = .returned (.slice uo (mem8 (outN a b)).length uc) ∧ Sl 0 3 w' (.slice uo (mem8 (outN a b)).length uc) (ints (mem8 (outN a b))) ∧ Below W'.heap.size W' w') := fun W' hbb =>
    (list8_any _ (outN_lt8 ha) W' (HC.out W' hbb).2.2.2).mono (by
      rintro e w' ⟨u, rfl, h1, h2⟩
      obtain ⟨uo, uc, rfl⟩ := owns_form h1
      exact ⟨uo, uc, rfl, Sl.own h1, h2⟩)
  have HMO : Hid (∀ y ∈ mem8 (outN b a), ∃ i : Nat, i < 8 ∧ y = (i : Int)) := fun y hy => mem8_rng hy
  have HMG : Hid (∀ y ∈ mem8 (outN a b), ∃ i : Nat, i < 8 ∧ y = (i : Int)) := fun y hy => mem8_rng hy
  have HGV : Hid (gvB bs a b = (mem8 (outN a b)).all (stB bs a b)) := rfl
  have HST : Hid (∀ x, stB bs a b x = (mem8 (outN b a)).any fun y => bs.contains (swp a x.toNat y.toNat : Int)) := fun x => rfl
  have hgl := mem8_len (outN a b)
  generalize stB bs a b = p at *
  generalize hO : mem8 (outN b a) = O at *
  generalize hG : mem8 (outN a b) = G at *
  clear hO hG
  generalize gvB bs a b = ans at *
  go_enter Tryd.func40, Tryd.ntmps40
  go_wp2_with (simp only [e1])
  rw [← hW0]
  refine HL1.out.mono ?_
  rintro e w2 ⟨uo, uc, rfl, hs2, hb2⟩
  have HS2 : Hid (Sl 0 3 w2 (.slice uo O.length uc) (ints O)) := hs2
  have HB2 : Hid (Below W0.heap.size W0 w2) := hb2
  have d2 := (HC.out w2 hb2).2.1
  clear hs2 hb2 HL1 hW0 c1 c2
  go_wp2_with fail
  refine (HL2.out w2 HB2.out).mono ?_
  rintro e w3 ⟨go, gc, rfl, hs3, hb3⟩
  have HS3 : Hid (Sl 0 3 w3 (.slice go G.length gc) (ints G)) := hs3
  have HO3 : Hid (Sl 0 3 w3 (.slice uo O.length uc) (ints O)) := HS2.out.below hb3 (Nat.le_refl _)
  have HB3 : Hid (Below W0.heap.size W0 w3) := HB2.out.trans (hb3.mono HB2.out.size)
  clear hs3 hb3 HL2 HS2 d2 HB2
  go_wp2
  go_loopw [9, 10, 20] (fun _ _ i wr => ∃ k : Nat, k ≤ G.length ∧ i = .int .i64 k ∧ (G.take k).all p = true ∧ Below w3.heap.size w3 wr) (fun _ _ i _ => G.length - (intOf i).toNat)
  case atStart => exact ⟨0, Nat.zero_le _, rfl, by simp, Below.refl _ _⟩
  case round =>
    obtain ⟨k, hk, rfl, hall, hbr⟩ := hrel
    have HA : Hid ((G.take k).all p = true) := hall
    have HBR : Hid (Below w3.heap.size w3 wr) := hbr
    clear hall hbr
    by_cases hlt : k < G.length
    · obtain ⟨gb, gq, gcc, hs, _, hcc⟩ := sl_cell (HS3.out.below HBR.out (Nat.le_refl _)) hlt
      simp only [Value.slice.injEq] at hs
      obtain ⟨rfl, -, rfl⟩ := hs
      obtain ⟨x, hx8, hx⟩ := HMG.out (G.getD k 0) (by simp [hlt])
      have HS1 : Hid ((G.take (k + 1)).all p = p x) := by rw [← hx]; exact all_snoc hlt HA.out
      have HST1 : Hid (p x = false → ans = false) := fun h => by rw [HGV.out]; exact all_stop hlt (by rw [hx]; exact h)
      rw [hx] at hcc
      obtain ⟨wa, rfl⟩ : ∃ wa, wa = wr := ⟨wr, rfl⟩
      obtain ⟨Wn, hWn⟩ : ∃ Wn, Wn = wa.alloc (.cells #[.int .i64 x] 3) := ⟨_, rfl⟩
      have hbn : Below wa.heap.size wa Wn := by rw [hWn]; exact (Below.refl _ _).alloc (Nat.le_refl _) _
      have cn : Wn.cell? ⟨wa.heap.size, 0, none⟩ = some (.int .i64 x) := by rw [hWn]; simp
      have hb3n : Below W0.heap.size W0 Wn := (HB3.out.trans (HBR.out.mono HB3.out.size)).trans (hbn.mono (Nat.le_trans HB3.out.size HBR.out.size))
      have HBN : Hid (Below w3.heap.size w3 Wn) := HBR.out.trans (hbn.mono HBR.out.size)
      have HCG : Hid (Calls Tryd.prog 28 #[.slice uo O.length uc, .func (.func 46) #[] #[.pointer (some ⟨w.heap.size, 0, none⟩), .pointer (some ⟨w.heap.size + 1, 0, none⟩), .pointer (some ⟨wa.heap.size, 0, none⟩)]] Wn fun e w' => e = .returned (.bool (p x)) ∧ ∃ n, w' = Wn.drewN n) := by
        obtain ⟨g1, g2, g3, g4⟩ := HC.out Wn hb3n
        have := containsG_any 0 (fun y => bs.contains (swp a x y.toNat : Int)) O (.slice uo O.length uc) ⟨w.heap.size, 0, none⟩ ⟨w.heap.size + 1, 0, none⟩ ⟨wa.heap.size, 0, none⟩ Wn ((HO3.out.below HBR.out (Nat.le_refl _)).below hbn (Nat.le_refl _)) (fun y hy q => by
          obtain ⟨i, hi8, rfl⟩ := HMO.out y hy
          refine (stand_any w.heap.size bs a x i (.slice ao bs.length cap) _ _ _ (Wn.drewN q) (g3.drewN q) HR.out hl ha hx8 hi8 g1 g2 cn).mono ?_
          rintro e w' ⟨rfl, n, rfl⟩
          exact ⟨by rw [Int.toNat_natCast], _, World.drewN_drewN _ _ _⟩)
        have hst := HST.out (x : Int)
        simp only [Int.toNat_natCast] at hst
        rw [← hst] at this
        exact this
      have kI : (k : Int) < (G.length : Int) := by omega
      have kI0 : (0 : Int) ≤ (k : Int) := by omega
      clear hbn cn hb3n hx
      generalize p (x : Int) = fb at *
      go_wp2_with fail
      rw [← hWn]
      refine HCG.out.mono ?_
      rintro e w' ⟨rfl, n, rfl⟩
      clear HCG hWn
      have HBE : Hid (Below w3.heap.size w3 (Wn.drewN n)) := HBN.out.trans ⟨rfl, rfl, rfl, Nat.le_refl _, fun _ _ => rfl⟩
      cases fb
      · have HAN : Hid (ans = false) := HST1.out rfl
        have HBF : Hid (Below w.heap.size w (Wn.drewN n)) := (HB0.out.trans (HB3.out.mono HB0.out.size)).trans (HBE.out.mono (Nat.le_trans HB0.out.size HB3.out.size))
        clear HST1
        go_wp2
        go_ret
        exact ⟨by rw [HAN.out]; rfl, HBF.out⟩
      · clear HST1
        go_wp2
        go_roundw
        case rel => exact ⟨k + 1, by omega, by go_num, HS1.out, HBE.out⟩
        case measure => simp [intOf]; omega
    · have hke : G.take k = G := List.take_of_length_le (by omega)
      have HAN : Hid (ans = true) := by rw [HGV.out, ← hke]; exact HA.out
      have HBF : Hid (Below w.heap.size w wr) := (HB0.out.trans (HB3.out.mono HB0.out.size)).trans (HBR.out.mono (Nat.le_trans HB0.out.size HB3.out.size))
      clear hke
      go_wp2
      go_ret
      exact ⟨by rw [HAN.out]; rfl, HBF.out⟩

end Go.Proofs.YtkimhomkeneddaaDoor
