/- matroid.exchanges, isSet. -/
import Derived.Test.YtkimhomkeneddaaDoorMt4
namespace Go.Proofs.YtkimhomkeneddaaDoor
open Go.RowKit
attribute [local go_sem ↓] Go.wp_at_zero Go.wp_at_succ

def exB (bs : List Int) : Bool := bs.all fun a => bs.all fun b => gvB bs a.toNat b.toNat

/-- All are sets of at most eight things. -/
def B8 (bs : List Int) : Prop := ∀ b ∈ bs, 0 ≤ b ∧ b < 256

set_option maxRecDepth 100000 in
set_option maxHeartbeats 800000 in
theorem exch_any (bs : List Int) (v : Value) (w : World) (hv : Sl w.heap.size 3 w v (ints bs)) (hr : Ris bs) (h8 : B8 bs) (hl : bs.length ≤ 1000000) (hT : TabB w) :
    Calls Tryd.prog 27 #[v] w fun e w' => e = .returned (.bool (exB bs)) ∧ Below w.heap.size w w' := by
  obtain ⟨ao, cap, hvv, hlc, hcm⟩ := sl_open hv
  subst hvv
  have HV : Hid (∀ W', Below w.heap.size w W' → Sl w.heap.size 3 W' (.slice ao bs.length cap) (ints bs) ∧ TabB W') := fun W' h => ⟨hv.below h (Nat.le_refl _), hT.below h⟩
  have HR : Hid (Ris bs) := hr
  have H8 : Hid (B8 bs) := h8
  have HG : Hid (∀ W' (a b : Nat), a < 256 → b < 256 → Below w.heap.size w W' → Calls Tryd.prog 40 #[.slice ao bs.length cap, .int .u64 a, .int .u64 b] W' fun e w' => e = .returned (.bool (gvB bs a b)) ∧ Below w.heap.size w w') := fun W' a b ha hb hbw =>
    (gives_any bs a b _ W' (((hv.below hbw (Nat.le_refl _)).more hbw.size)) hr hl ha hb (hT.below hbw)).mono (by
      rintro e w' ⟨h1, h2⟩
      exact ⟨h1, hbw.trans (h2.mono hbw.size)⟩)
  clear hv hr h8 hT
  go_enter Tryd.func27, Tryd.ntmps27
  go_wp2
  go_loopw [9] (fun i wr => ∃ k : Nat, k ≤ bs.length ∧ i = .int .i64 k ∧ (bs.take k).all (fun a => bs.all fun b => gvB bs a.toNat b.toNat) = true ∧ Below w.heap.size w wr) (fun i _ => bs.length - (intOf i).toNat)
  case atStart => exact ⟨0, Nat.zero_le _, rfl, by simp, Below.refl _ _⟩
  case round =>
    obtain ⟨k, hk, rfl, hall, hbr⟩ := hrel
    have HA : Hid ((bs.take k).all (fun a => bs.all fun b => gvB bs a.toNat b.toNat) = true) := hall
    have HBR : Hid (Below w.heap.size w wr) := hbr
    clear hall hbr
    by_cases hlt : k < bs.length
    · obtain ⟨gb, gq, gcc, hs, _, hcc⟩ := sl_cell (HV.out wr HBR.out).1 hlt
      simp only [Value.slice.injEq] at hs
      obtain ⟨rfl, -, rfl⟩ := hs
      obtain ⟨hx0, hx8⟩ := H8.out (bs.getD k 0) (by simp [hlt])
      obtain ⟨x, hx⟩ : ∃ x : Nat, bs.getD k 0 = (x : Int) := ⟨(bs.getD k 0).toNat, by omega⟩
      have HS1 : Hid ((bs.take (k + 1)).all (fun a => bs.all fun b => gvB bs a.toNat b.toNat) = bs.all fun b => gvB bs x b.toNat) := by
        have := all_snoc (p := fun a => bs.all fun b => gvB bs a.toNat b.toNat) hlt HA.out
        rw [hx] at this
        simp only [Int.toNat_natCast] at this
        exact this
      have HF1 : Hid ((bs.all fun b => gvB bs x b.toNat) = false → exB bs = false) := fun h => all_stop (p := fun a => bs.all fun b => gvB bs a.toNat b.toNat) hlt (by rw [hx]; simpa using h)
      have hx9 : x < 256 := by omega
      rw [hx] at hcc
      clear hx hx0 hx8
      have kI : (k : Int) < (bs.length : Int) := by omega
      have kI0 : (0 : Int) ≤ (k : Int) := by omega
      obtain ⟨wa, rfl⟩ : ∃ wa, wa = wr := ⟨wr, rfl⟩
      go_wp2
      clear hcc
      go_loopw [15] (fun i wr => ∃ j : Nat, j ≤ bs.length ∧ i = .int .i64 j ∧ (bs.take j).all (fun b => gvB bs x b.toNat) = true ∧ Below w.heap.size w wr) (fun i _ => bs.length - (intOf i).toNat)
      case atStart => exact ⟨0, Nat.zero_le _, rfl, by simp, HBR.out⟩
      case round =>
        obtain ⟨j, hj, rfl, hall, hbr⟩ := hrel
        have HA2 : Hid ((bs.take j).all (fun b => gvB bs x b.toNat) = true) := hall
        have HBR2 : Hid (Below w.heap.size w wr) := hbr
        clear hall hbr HBR
        by_cases hjl : j < bs.length
        · obtain ⟨gb, gq, gcc, hs, _, hcc⟩ := sl_cell (HV.out wr HBR2.out).1 hjl
          simp only [Value.slice.injEq, Option.some.injEq, Addr.mk.injEq, and_true, true_and] at hs
          obtain ⟨⟨rfl, rfl⟩, rfl⟩ := hs
          obtain ⟨hy0, hy8⟩ := H8.out (bs.getD j 0) (by simp [hjl])
          obtain ⟨y, hy⟩ : ∃ y : Nat, bs.getD j 0 = (y : Int) := ⟨(bs.getD j 0).toNat, by omega⟩
          have HS2 : Hid ((bs.take (j + 1)).all (fun b => gvB bs x b.toNat) = gvB bs x y) := by
            have := all_snoc (p := fun b => gvB bs x b.toNat) hjl HA2.out
            rw [hy] at this
            simp only [Int.toNat_natCast] at this
            exact this
          have HF2 : Hid (gvB bs x y = false → exB bs = false) := fun h => HF1.out (all_stop (p := fun b => gvB bs x b.toNat) hjl (by rw [hy]; simpa using h))
          have hy9 : y < 256 := by omega
          rw [hy] at hcc
          have HGX := HG.out wr x y hx9 hy9 HBR2.out
          have HGY : Hid (Calls Tryd.prog 40 #[.slice (some ⟨gb, gq, none⟩) bs.length cap, .int .u64 x, .int .u64 y] wr fun e w' => e = .returned (.bool (gvB bs x y)) ∧ Below w.heap.size w w') := HGX
          clear hy hy0 hy8 HGX
          generalize gvB bs x y = fb at *
          have jI : (j : Int) < (bs.length : Int) := by omega
          have jI0 : (0 : Int) ≤ (j : Int) := by omega
          go_wp2_with fail
          refine HGY.out.mono ?_
          rintro e w' ⟨rfl, hb'⟩
          have HB' : Hid (Below w.heap.size w w') := hb'
          clear hb' HGY hcc
          cases fb
          · have HE : Hid (exB bs = false) := HF2.out rfl
            clear HF2
            go_wp2
            go_ret
            exact ⟨by rw [HE.out]; rfl, HB'.out⟩
          · clear HF2
            go_wp2
            go_roundw
            case rel => exact ⟨j + 1, by omega, by go_num, HS2.out, HB'.out⟩
            case measure => simp [intOf]; omega
        · have hje : bs.take j = bs := List.take_of_length_le (by omega)
          have HN : Hid ((bs.take (k + 1)).all (fun a => bs.all fun b => gvB bs a.toNat b.toNat) = true) := by
            have h := HA2.out
            rw [hje] at h
            rw [HS1.out]; exact h
          clear hje
          go_wp2
          go_roundw
          case rel => exact ⟨k + 1, by omega, by go_num, HN.out, HBR2.out⟩
          case measure => simp [intOf]; omega
    · have hke : bs.take k = bs := List.take_of_length_le (by omega)
      have HE : Hid (exB bs = true) := by
        have h := HA.out
        rw [hke] at h
        exact h
      clear hke
      go_wp2
      go_ret
      exact ⟨by rw [HE.out]; rfl, HBR.out⟩

end Go.Proofs.YtkimhomkeneddaaDoor
