import Derived.Test.YtmljnfgfjcjmmaaOrdB
import Derived.Shelf.SlSortCmp.NoneTotal
import Derived.Shelf.SlGeneric
import Derived.Ground.SlsfProg
import Derived.Test.YtmljnfgfjcjmmaaWiA
import Derived.Test.YtmljnfgfjcjmmaaDatA
import Derived.Test.YtmljnfgfjcjmmaaRefA
import Derived.Shelf.Spec.SlicesGrow
import Derived.Laws.AppendOwnNone
import Derived.Test.YtmljnfgfjcjmmaaPnA
import Derived.Test.YtmljnfgfjcjmmaaSgE
import Derived.Test.YtmljnfgfjcjmmaaAcA
import Derived.Test.YtmljnfgfjcjmmaaRunB
/- The library's sort of flats, as this program calls it. -/
namespace Go.Proofs
open Go.Shelf Go.RowKit Go.Lib Go.Sort
shelf_lay_g SlLaysF0.n6 Slsf 6 at Try 27 as Try.sortF
end Go.Proofs

/- cmp.Or of numbers. -/
namespace Go.Proofs.Ytmljnfgfjcjmmaa
open Go.RowKit

/-- The first that is not 0. -/
def orL : List Int → Int
  | [] => 0
  | z :: l => if z = 0 then orL l else z

theorem orL_zero : ∀ {l : List Int}, (∀ z ∈ l, z = 0) → orL l = 0
  | [], _ => rfl
  | z :: l, h => by
    unfold orL
    rw [if_pos (h z (by simp))]
    exact orL_zero fun x hx => h x (by simp [hx])

theorem orL_at : ∀ {l : List Int} {k : Nat}, k < l.length → (∀ z ∈ l.take k, z = 0) → l.getD k 0 ≠ 0 → orL l = l.getD k 0
  | z :: l, 0, _, _, h => by
    unfold orL
    rw [if_neg (by simpa using h)]
    rfl
  | z :: l, k + 1, hk, h0, h => by
    unfold orL
    rw [if_pos (h0 z (by simp))]
    exact orL_at (k := k) (by simpa using hk) (fun x hx => h0 x (by simp [hx])) (by simpa using h)

set_option maxRecDepth 100000 in
set_option maxHeartbeats 400000 in
theorem orI_any (B : Nat) (zs : List Int) (v : Value) (w : World) (hv : Sl B 3 w v (ints zs)) :
    Calls Try.prog 29 #[v] w fun e w' => e = .returned (.int .i64 (orL zs)) ∧ w' = w := by
  obtain ⟨ao, cap, hvv, hlc, hcm⟩ := sl_open hv
  subst hvv
  have HV : Hid (Sl B 3 w (.slice ao zs.length cap) (ints zs)) := hv
  clear hv
  go_enter Try.func29, Try.ntmps29
  go_wp2
  go_loopw [5, 8] (fun _ i wr => ∃ k : Nat, k ≤ zs.length ∧ i = .int .i64 k ∧ (∀ z ∈ zs.take k, z = 0) ∧ wr = w) (fun _ i _ => zs.length - (intOf i).toNat)
  case atStart => exact ⟨0, Nat.zero_le _, rfl, by simp, rfl⟩
  case round =>
    obtain ⟨k, hk, rfl, hno, rfl⟩ := hrel
    have HN : Hid (∀ z ∈ zs.take k, z = 0) := hno
    clear hno
    by_cases hlt : k < zs.length
    · obtain ⟨b, o, cp, hs, hc1, hcc⟩ := sl_cell HV.out hlt
      simp only [Value.slice.injEq] at hs
      obtain ⟨rfl, _, rfl⟩ := hs
      have HS1 : Hid (zs.getD k 0 = 0 → ∀ z ∈ zs.take (k + 1), z = 0) := fun h z hz => by
        have e : zs.getD k 0 = zs[k] := by simp [hlt]
        rw [List.take_succ_eq_append_getElem hlt, List.mem_append, List.mem_singleton] at hz
        rcases hz with hz | hz
        · exact HN.out z hz
        · rw [hz, ← e, h]
      have HG : Hid (zs.getD k 0 ≠ 0 → orL zs = zs.getD k 0) := fun h => orL_at hlt HN.out h
      generalize zs.getD k 0 = z at *
      cases hf : (z == 0)
      · have hne : z ≠ 0 := by simpa using hf
        have HF : Hid (z ≠ 0) := hne
        clear hne
        go_wp2
        go_ret
        exact ⟨by rw [HG.out HF.out]; rfl, rfl⟩
      · have hf2 : z = 0 := by simpa using hf
        clear hf
        subst hf2
        go_wp2
        go_roundw
        case rel => exact ⟨k + 1, by omega, by go_num, HS1.out rfl, trivial⟩
        case measure => simp [intOf]; omega
    · have hke : zs.take k = zs := List.take_of_length_le (by omega)
      have HE : Hid (orL zs = 0) := orL_zero (by rw [← hke]; exact HN.out)
      go_wp2
      go_ret
      exact ⟨by rw [HE.out]; rfl, rfl⟩

theorem two_sl {B : Nat} {w : World} {a b : Int} : Sl B 3 (w.alloc (.cells #[.int .i64 a, .int .i64 b] 3)) (.slice (some ⟨w.heap.size, 0, none⟩) 2 2) (ints [a, b]) := by
  have hr : (w.alloc (.cells #[.int .i64 a, .int .i64 b] 3)).rowIs w.heap.size 3 2 (fun i => .int .i64 ([a, b].getD i 0)) := by
    refine ⟨#[.int .i64 a, .int .i64 b], heap_alloc_new w _, rfl, fun i hi => ?_⟩
    match i, hi with
    | 0, _ => rfl
    | 1, _ => rfl
  exact row_slT (n := 2) hr (fun i _ => rfl) rfl (Nat.le_refl _) (by decide)

theorem cmpI_lt {a b : Int} : cmpI a b < 0 ↔ a < b := by
  unfold cmpI
  by_cases h1 : a < b
  · rw [if_pos h1]; exact ⟨fun _ => h1, fun _ => by decide⟩
  · rw [if_neg h1]
    by_cases h2 : b < a
    · rw [if_pos h2]; exact ⟨fun h => absurd h (by decide), fun h => absurd h h1⟩
    · rw [if_neg h2]; exact ⟨fun h => absurd h (by decide), fun h => absurd h h1⟩

theorem cmpI_zero {a b : Int} : cmpI a b = 0 ↔ a = b := by
  unfold cmpI
  by_cases h1 : a < b
  · rw [if_pos h1]; exact ⟨fun h => absurd h (by decide), fun h => by omega⟩
  · rw [if_neg h1]
    by_cases h2 : b < a
    · rw [if_pos h2]; exact ⟨fun h => absurd h (by decide), fun h => by omega⟩
    · rw [if_neg h2]; exact ⟨fun _ => by omega, fun _ => rfl⟩

end Go.Proofs.Ytmljnfgfjcjmmaa

/- slices.Grow and slices.Concat of lists of rows. -/
namespace Go.Proofs
open Go.Shelf Go.RowKit Go.Lib
shelf_lay_g Lays8.n4 Nm8 4 at Try 54 as Try.growM
end Go.Proofs

namespace Go.Proofs.Ytmljnfgfjcjmmaa
open Go.RowKit
attribute [local go_sem ↓] Go.wp_at_zero Go.wp_at_succ

theorem growM_any (n : Nat) (w : World) (h1 : 1 ≤ n) (h2 : n ≤ 1000000) :
    Calls Try.prog 54 #[.slice none 0 0, .int .i64 n] w fun e w' => ∃ cap, e = .returned (.slice (some ⟨w.heap.size, 0, none⟩) 0 cap) ∧ w'.ownsRow w.heap.size 22 1 (.slice (some ⟨w.heap.size, 0, none⟩) 0 cap) 0 [] ∧ Below w.heap.size w w' := by
  obtain ⟨i3, hi3, hz30, hz31, hz32⟩ := info_parts Try.info22
  have h := Any8.slices_Grow_grow Try.growM i3 (.slice none 0 0) hi3 hz30 (by rw [hz31]; decide) none 0 0 n [] w (Nat.le_refl _) (by omega) (by rw [hz32]; omega) (by omega) (by simp) (fun _ => rfl) (fun a h => by cases h)
  refine Calls.mono h ?_
  rintro e w' ⟨rfl, rfl⟩
  refine ⟨_, rfl, ?_, ((Below.refl _ _).drew).alloc (Nat.le_refl _) _⟩
  refine World.ownsRow_made w.drew _ _ (Nat.le_refl _) (grownCap_le_maxLen _ _ _ _ (by unfold maxLen; omega)) ?_
  have hg : ∀ t, 0 + n ≤ grownCap w (0 + n) 0 t := fun t => grownCap_ge w (0 + n) 0 t
  have key : ∀ G, 0 + n ≤ G → (([] : List Value).toArray ++ Builtin.zeroCells (Value.slice none 0 0).cells (0 + n - 0) ++ Builtin.zeroCells (Value.slice none 0 0).cells (G - (0 + n))).size = G * 1 := fun G hG => by
    simp only [Array.size_append, List.size_toArray, size_zeroCells, List.length_nil, show (Value.slice none 0 0).cells.size = 1 from rfl]
    omega
  exact key _ (hg _)

theorem sl_cellsM {B : Nat} {e : TypeId} {w : World} {a : Addr} {n cap : Nat} {xs : List Value} (h : Sl B e w (.slice (some a) n cap) xs) : ∀ j u, xs[j]? = some u → w.cell? (a.add j) = some u := by
  intro j u hj
  have hlt := (List.getElem?_eq_some_iff.1 hj).1
  obtain ⟨ao, c, hv, h1, h2, h3, h4⟩ := h
  simp only [Value.slice.injEq] at hv
  obtain ⟨rfl, _, rfl⟩ := hv
  obtain ⟨b, o, ha, hc, _⟩ := h3 j hlt
  cases ha
  rw [hj] at hc
  by_cases ej : j = 0
  · subst ej; simpa [Addr.add] using hc
  · simpa [Addr.add, ej] using hc

def totV (m : List (List Value)) : Nat := m.flatten.length

theorem totV_succ {m : List (List Value)} {k : Nat} (h : k < m.length) : totV (m.take (k + 1)) = totV (m.take k) + (m.getD k []).length := by
  unfold totV
  rw [List.take_succ_eq_append_getElem h, List.flatten_append, List.length_append]
  simp [h]

theorem totV_le {m : List (List Value)} (k : Nat) : totV (m.take k) ≤ totV m := by
  unfold totV
  have : m.flatten = (m.take k).flatten ++ (m.drop k).flatten := by rw [← List.flatten_append, List.take_append_drop]
  rw [this, List.length_append]
  omega

theorem flatV_succ {m : List (List Value)} {k : Nat} (h : k < m.length) : (m.take (k + 1)).flatten = (m.take k).flatten ++ m.getD k [] := by
  rw [List.take_succ_eq_append_getElem h, List.flatten_append]
  simp only [List.flatten_cons, List.flatten_nil, List.append_nil]
  rw [show m.getD k [] = m[k] by simp [h]]


set_option maxRecDepth 100000 in
set_option maxHeartbeats 1600000 in
theorem concatM_any (B : Nat) (m : List (List Value)) (vs : List Value) (v : Value) (w : World) (hvl : vs.length = m.length) (hv2 : Sl B 26 w v vs) (hv3 : ∀ i, i < m.length → Sl B 22 w (vs.getD i (.slice none 0 0)) (m.getD i [])) (hone : ∀ i, i < m.length → ∀ u ∈ m.getD i [], u.oneCell' = true) (hm : m.length ≤ 1000) (h1 : 1 ≤ totV m) (h2 : totV m ≤ 1000) :
    Calls Try.prog 43 #[v] w fun e w' => ∃ u, e = .returned u ∧ w'.ownsRow w.heap.size 22 1 u (totV m) m.flatten ∧ Below w.heap.size w w' := by
  obtain ⟨i3, hi3, hz30, hz31, hz32⟩ := info_parts Try.info22
  obtain ⟨ao, cap, hvv, hlc, hcm⟩ : ∃ ao cap, v = .slice ao m.length cap ∧ m.length ≤ cap ∧ cap ≤ 9223372036854775807 := by
    obtain ⟨ao, cap, h1, h2, h3, _⟩ := hv2
    exact ⟨ao, cap, by rw [h1, hvl], by omega, by unfold maxLen at h3; omega⟩
  subst hvv
  have HONE : Hid (∀ i, i < m.length → ∀ u ∈ m.getD i [], u.oneCell' = true) := hone
  have HV4 : Hid (∀ k, k < m.length → ∃ b o a n c, ao = some ⟨b, o, none⟩ ∧ w.cell? ⟨b, o + k, none⟩ = some (.slice a n c) ∧ Sl B 22 w (.slice a n c) (m.getD k [])) := fun k hk => by
    obtain ⟨b, o, cp, he, _, _, h4⟩ := hv2.at (by omega)
    obtain ⟨a, c, h5, _, _⟩ := hv3 k hk
    simp only [Value.slice.injEq] at he
    have h6 := hv3 k hk
    rw [h5] at h6
    refine ⟨b, o, a, _, c, he.1, ?_, h6⟩
    rw [h4 k (by omega), ← h5]
    simp [show k < vs.length by omega]
  clear hv2 hv3 hvl hone
  go_enter Try.func43, Try.ntmps43
  go_wp2
  go_loop [3, 11] (fun s i => ∃ k : Nat, k ≤ m.length ∧ i = .int .i64 k ∧ s = .int .i64 (totV (m.take k) : Nat)) (fun _ i => m.length - (intOf i).toNat)
  case atStart => exact ⟨0, Nat.zero_le _, rfl, rfl⟩
  case round =>
    obtain ⟨k, hk, rfl, rfl⟩ := hrel
    by_cases hlt : k < m.length
    · obtain ⟨b, o, ra, rn, rc, rfl, hcc, hr1⟩ := HV4.out k hlt
      have hrn : rn = (m.getD k []).length := by
        obtain ⟨_, _, h, _⟩ := hr1
        simp only [Value.slice.injEq] at h
        exact h.2.1
      subst hrn
      have ht := totV_succ hlt
      have ht2 := totV_le (m := m) (k + 1)
      have HT : Hid (totV (m.take (k + 1)) = totV (m.take k) + (m.getD k []).length) := ht
      obtain ⟨a1, ha1⟩ : ∃ a1, a1 = totV (m.take k) := ⟨_, rfl⟩
      obtain ⟨a2, ha2⟩ : ∃ a2, a2 = (m.getD k []).length := ⟨_, rfl⟩
      rw [← ha1, ← ha2] at ht HT
      rw [← ha2] at hcc
      rw [← ha1]
      have hb1 : a1 + a2 ≤ 1000 := by omega
      have hkI0 : (0 : Int) ≤ (k : Int) := by omega
      have hkI : (k : Int) < (m.length : Int) := by omega
      have hnn : ¬ ((a1 : Int) + (a2 : Int) < 0) := by omega
      clear ht ht2 hr1 ha1 ha2
      go_wp2
      go_round
      case rel => exact ⟨k + 1, by omega, by go_num, by rw [HT.out]; go_num⟩
      case measure => simp [intOf]; omega
    · have hke : k = m.length := by omega
      subst hke
      have HTK : Hid (m.take m.length = m) := List.take_length
      rw [HTK.out]
      clear hlt hk
      obtain ⟨tt, htt⟩ : ∃ tt, tt = totV m := ⟨_, rfl⟩
      rw [← htt] at h1 h2 ⊢
      have HTT : Hid (tt = totV m) := htt
      clear htt
      go_wp2_with fail
      refine (growM_any tt w h1 (by omega)).mono ?_
      rintro e w1 ⟨gc, rfl, hown, hb1⟩
      have HO1 : Hid (w1.ownsRow w.heap.size 22 1 (.slice (some ⟨w.heap.size, 0, none⟩) 0 gc) 0 []) := hown
      have HB1 : Hid (Below w.heap.size w w1) := hb1
      clear hown hb1
      go_wp2
      go_loopw [6, 27] (fun x i wr => ∃ k : Nat, k ≤ m.length ∧ i = .int .i64 k ∧ wr.ownsRow w.heap.size 22 1 x (totV (m.take k)) (m.take k).flatten ∧ Below w.heap.size w wr) (fun _ i _ => m.length - (intOf i).toNat)
      case atStart => exact ⟨0, Nat.zero_le _, rfl, HO1.out, HB1.out⟩
      case round =>
        obtain ⟨k, hk, rfl, hown, hbel⟩ := hrel
        obtain ⟨wb, rfl⟩ : ∃ wb, wb = wr := ⟨wr, rfl⟩
        have HO : Hid (wb.ownsRow w.heap.size 22 1 u6 (totV (m.take k)) (m.take k).flatten) := hown
        have HB : Hid (Below w.heap.size w wb) := hbel
        obtain ⟨xo, xc, hxv⟩ := owns_form hown
        subst hxv
        have hsz := hbel.size
        clear hown hbel
        by_cases hlt : k < m.length
        · obtain ⟨b, o, ra, rn, rc, rfl, hcc0, hr0⟩ := HV4.out k hlt
          have hcc := (HB.out.cell (p := ⟨b, o + k, none⟩) (lt_of_cell hcc0)).trans hcc0
          have hr1 := hr0.below HB.out (Nat.le_refl _)
          have ht := totV_succ hlt
          have ht2 := totV_le (m := m) (k + 1)
          have HT : Hid (totV (m.take (k + 1)) = totV (m.take k) + (m.getD k []).length) := ht
          have HFL : Hid ((m.take (k + 1)).flatten = (m.take k).flatten ++ m.getD k []) := flatV_succ hlt
          obtain ⟨a1, ha1⟩ : ∃ a1, a1 = totV (m.take k) := ⟨_, rfl⟩
          obtain ⟨q, hq⟩ : ∃ q, q = m.getD k [] := ⟨_, rfl⟩
          have HQ1 : Hid (∀ u ∈ q, u.oneCell' = true) := by rw [hq]; exact HONE.out k hlt
          rw [← hq] at hr1 HT HFL
          rw [← ha1] at HT HO ⊢
          have hb1 : a1 + q.length ≤ 1000 := by have := HT.out; have := HTT.out; omega
          have hrn : rn = q.length := by
            obtain ⟨_, _, h, _⟩ := hr1
            simp only [Value.slice.injEq] at h
            exact h.2.1
          subst hrn
          have hkI0 : (0 : Int) ≤ (k : Int) := by omega
          have hkI : (k : Int) < (m.length : Int) := by omega
          rcases ra with _ | ra
          · have hnl : q = [] ∧ rc = 0 := by
              obtain ⟨a0, c0, he, _, _, h3, h4⟩ := hr1
              simp only [Value.slice.injEq] at he
              obtain ⟨rfl, _, rfl⟩ := he
              refine ⟨?_, h4 rfl⟩
              rcases q with _ | ⟨z, q⟩
              · rfl
              · obtain ⟨b', o', hb', _⟩ := h3 0 (by simp)
                cases hb'
            obtain ⟨rfl, rfl⟩ := hnl
            have R1 : Hid (wb.ownsRow w.heap.size 22 1 (.slice xo a1 xc) (totV (m.take (k + 1))) (m.take (k + 1)).flatten) := by
              show World.ownsRow _ _ _ _ _ _ _
              rw [HT.out, HFL.out]
              simpa using HO.out
            clear ht ht2 ha1 hq hcc0 hr0 hr1
            go_wp2_with (first | (at_builtin; refine wpList_append_own_none rfl _ _ 26 rfl w.heap.size 22 i3 1 Try.underlying26 hi3 _ _ _ rfl HO.out rfl ?_))
            go_wp2
            go_roundw
            case rel => exact ⟨k + 1, by omega, by go_num, R1.out, HB.out⟩
            case measure => simp [intOf]; omega
          have HR1 : Hid (Sl B 22 wb (.slice (some ra) q.length rc) q) := hr1
          have HNEW : Hid (∀ j u, q[j]? = some u → wb.cell? (ra.add j) = some u) := sl_cellsM hr1
          clear ht ht2 ha1 hq hcc0 hr0 hr1
          go_wp2_with (first | (at_builtin; refine wpList_append_own _ rfl _ _ 26 rfl w.heap.size 22 i3 (.slice none 0 0) 1 24 Try.underlying26 hi3 hz30 hz31 hz32 rfl (by decide) _ _ _ rfl HO.out ra q.length rc q rfl (by simp) HNEW.out HQ1.out ?c3 ?c4 ?c5 ?_))
          case c3 => unfold maxLen; omega
          case c4 => omega
          case c5 => omega
          intro v' w3 ho hg _
          have R1 : Hid (w3.ownsRow w.heap.size 22 1 v' (totV (m.take (k + 1))) (m.take (k + 1)).flatten) := by rw [HT.out, HFL.out]; exact ho
          have R2 : Hid (Below w.heap.size w w3) := HB.out.grown hg hsz (fun x hx => (HO.out.lt x hx).1)
          clear ho hg
          go_wp2
          go_roundw
          case rel => exact ⟨k + 1, by omega, by go_num, R1.out, R2.out⟩
          case measure => simp [intOf]; omega
        · have hke : k = m.length := by omega
          subst hke
          have HO2 : Hid (wb.ownsRow w.heap.size 22 1 (.slice xo (totV m) xc) (totV m) m.flatten) := by have := HO.out; rw [HTK.out] at this; exact this
          rw [HTK.out]
          clear HO
          go_wp2
          go_ret
          exact ⟨_, rfl, by rw [HTT.out]; exact HO2.out, HB.out⟩

end Go.Proofs.Ytmljnfgfjcjmmaa

/- plane.isFlat. -/
namespace Go.Proofs.Ytmljnfgfjcjmmaa
open Go.RowKit Lin
attribute [local go_sem ↓] Go.wp_at_zero Go.wp_at_succ

theorem concat2_any (B : Nat) (m : List (List Int)) (p : List Int) (zv ov : Value) (w : World) (hz : Mat B 22 3 w zv m) (ho : Sl B 3 w ov (ints p)) (hm : m.length ≤ 100) :
    Calls Try.prog 43 #[.slice (some ⟨w.heap.size + 1, 0, none⟩) 2 2] ((w.alloc (.cells #[ov] 22)).alloc (.cells #[zv, .slice (some ⟨w.heap.size, 0, none⟩) 1 1] 26)) fun e w' => ∃ uo uc, e = .returned (.slice uo (m.length + 1) uc) ∧ Mat B 22 3 w' (.slice uo (m.length + 1) uc) (m ++ [p]) ∧ Below w.heap.size w w' := by
  obtain ⟨W, hW⟩ : ∃ W, W = (w.alloc (.cells #[ov] 22)).alloc (.cells #[zv, .slice (some ⟨w.heap.size, 0, none⟩) 1 1] 26) := ⟨_, rfl⟩
  have hb : Below w.heap.size w W := by rw [hW]; exact ((Below.refl _ _).alloc (Nat.le_refl _) _).alloc (by simp) _
  have k0 : W.heap[w.heap.size]? = some (.cells #[ov] 22 (0, 0)) := by
    rw [hW]
    exact (Below.heap_alloc _ _ _ (by simp)).trans (heap_alloc_new w _)
  have k1 : W.heap[w.heap.size + 1]? = some (.cells #[zv, .slice (some ⟨w.heap.size, 0, none⟩) 1 1] 26 (0, 0)) := by
    rw [hW]
    have := heap_alloc_new (w.alloc (.cells #[ov] 22)) (.cells #[zv, .slice (some ⟨w.heap.size, 0, none⟩) 1 1] 26)
    simpa using this
  rw [← hW]
  obtain ⟨vs, h1, h2, h3⟩ := hz
  have hone : ∀ u ∈ vs ++ [ov], u.oneCell' = true := by
    intro u hu
    rcases List.mem_append.1 hu with hu | hu
    · obtain ⟨i, hi, he⟩ := List.getElem_of_mem hu
      obtain ⟨a, c, h4, _⟩ := h3 i (by omega)
      rw [show vs.getD i (.slice none 0 0) = u by rw [← he]; simp [hi]] at h4
      rw [h4]; rfl
    · obtain ⟨a, c, h4, _⟩ := ho
      rw [List.mem_singleton.1 hu, h4]; rfl
  have hso : Sl B 22 W (.slice (some ⟨w.heap.size, 0, none⟩) 1 1) [ov] := by
    refine ⟨some ⟨w.heap.size, 0, none⟩, 1, rfl, by simp, by unfold maxLen; omega, fun i hi => ⟨w.heap.size, 0, rfl, ?_, .inr ⟨_, k0⟩⟩, fun e => by cases e⟩
    have : i = 0 := by simpa using hi
    subst this
    simp [World.cell?, k0]
  refine (concatM_any B [vs, [ov]] [zv, .slice (some ⟨w.heap.size, 0, none⟩) 1 1] _ W rfl ?_ (fun i hi => ?_) (fun i hi => ?_) (by simp) (by simp [totV]) (by simp [totV]; omega)).mono ?_
  · refine ⟨some ⟨w.heap.size + 1, 0, none⟩, 2, rfl, by simp, by unfold maxLen; omega, fun i hi => ⟨w.heap.size + 1, 0, rfl, ?_, .inr ⟨_, k1⟩⟩, fun e => by cases e⟩
    rcases (show i = 0 ∨ i = 1 by simp at hi; omega) with rfl | rfl <;> simp [World.cell?, k1]
  · rcases (show i = 0 ∨ i = 1 by simp at hi; omega) with rfl | rfl
    · exact h2.below hb (Nat.le_refl _)
    · exact hso
  · rcases (show i = 0 ∨ i = 1 by simp at hi; omega) with rfl | rfl
    · exact fun u hu => hone u (List.mem_append_left _ hu)
    · exact fun u hu => hone u (List.mem_append_right _ hu)
  · rintro e w' ⟨u, rfl, hown, hb2⟩
    have e1 : totV [vs, [ov]] = m.length + 1 := by simp [totV, h1]
    have e2 : ([vs, [ov]] : List (List Value)).flatten = vs ++ [ov] := by simp
    rw [e1, e2] at hown
    obtain ⟨uo, uc, rfl⟩ := owns_form hown
    have hbb : Below w.heap.size w w' := hb.trans (hb2.mono hb.size)
    refine ⟨uo, uc, rfl, ⟨vs ++ [ov], by simp [h1], Sl.own hown, fun i hi => ?_⟩, hbb⟩
    rw [List.length_append, List.length_singleton] at hi
    by_cases q : i < m.length
    · have := (h3 i q).below hbb (Nat.le_refl _)
      rw [List.getD_eq_getElem?_getD, List.getElem?_append_left (by omega), ← List.getD_eq_getElem?_getD, List.getD_eq_getElem?_getD (l := m ++ [p]), List.getElem?_append_left q, ← List.getD_eq_getElem?_getD]
      exact this
    · have hie : i = m.length := by omega
      subst hie
      have e3 : (vs ++ [ov]).getD m.length (.slice none 0 0) = ov := by rw [← h1]; simp
      have e4 : (m ++ [p]).getD m.length [] = p := by simp
      rw [e3, e4]
      exact ho.below hbb (Nat.le_refl _)

/-- What isFlat has looked at. -/
def flT (d : Nat) (P : List (List Int)) (s k : Nat) : Bool := (List.range k).all fun i => s.testBit i || !thr d P s i

theorem flT_succ (d : Nat) (P : List (List Int)) (s k : Nat) : flT d P s (k + 1) = (flT d P s k && (s.testBit k || !thr d P s k)) := by
  simp [flT, List.range_succ]

theorem flT_le {d : Nat} {P : List (List Int)} {s k n : Nat} (hk : k ≤ n) (h : flT d P s k = false) : flT d P s n = false := by
  unfold flT at h ⊢
  rw [List.all_eq_false] at h ⊢
  obtain ⟨i, hi, h⟩ := h
  exact ⟨i, List.mem_range.2 (by have := List.mem_range.1 hi; omega), h⟩


set_option maxRecDepth 100000 in
set_option maxHeartbeats 1600000 in
theorem isFlat_any (d : Nat) (P : List (List Int)) (c : List Int) (v u : Value) (w : World) (hd1 : 1 ≤ d) (hd3 : d ≤ 3) (hG : ∀ p ∈ P, p.length = d + 1 ∧ ∀ z ∈ p, z.natAbs ≤ 20) (h6 : P.length ≤ 6) (hc : c ∈ extA P.length) (hv : Mat 0 22 3 w v P) (hu : Sl 0 3 w u (ints c)) :
    Calls Try.prog 24 #[.int .i64 d, v, u] w fun e w' => e = .returned (.bool (flB d P (setN c))) ∧ Below w.heap.size w w' := by
  obtain ⟨vo, vc, rfl, _, _⟩ := mat_open hv
  obtain ⟨uo, uc, rfl, _, _⟩ := sl_open hu
  obtain ⟨hs, hce, hcb⟩ := (xt_all h6).1 c hc
  obtain ⟨s, hsd⟩ : ∃ s, s = setN c := ⟨_, rfl⟩
  have hT : pks P [] c = plS P s := by rw [hsd]; exact pks_plS h6 hc
  have hbit : ∀ i, i < P.length → c.contains (i : Int) = s.testBit i := fun i hi => by rw [hsd]; exact mem_bit h6 hc hi
  have hcl : c.length ≤ 6 := by
    rw [hce]
    unfold memL
    rw [List.length_map]
    exact Nat.le_trans (List.length_filter_le _ _) (by simpa using h6)
  have hpl : (plS P s).length = c.length := by rw [← hT]; simp [pks]
  have hrow : ∀ p ∈ plS P s, p.length = d + 1 ∧ ∀ z ∈ p, z.natAbs ≤ 20 := fun p hp => by
    obtain ⟨i, h1, _, rfl⟩ := mem_plS.1 hp
    exact hG _ (getD_memR h1)
  have HPK : Hid (Calls Try.prog 26 #[.slice vo P.length vc, .slice uo c.length uc] w fun e w' => ∃ zo zc, e = .returned (.slice zo c.length zc) ∧ Mat w.heap.size 22 3 w' (.slice zo c.length zc) (plS P s) ∧ Below w.heap.size w w') := by
    refine (pickedK_any 0 P c _ _ w hv hu (fun i hi => hcb _ (by simp [hi])) (by omega)).mono ?_
    rintro e w' ⟨z, rfl, hz, hb⟩
    have hz2 : Mat w.heap.size 22 3 w' z (pks P [] c) := hz.mat (Nat.le_refl _)
    rw [hT] at hz2
    obtain ⟨zo, zc, rfl, _, _⟩ := mat_open hz2
    rw [hpl] at hz2 ⊢
    exact ⟨zo, zc, rfl, hz2, hb⟩
  have HRK : Hid (∀ (wd : Nat) (z : Value) X, 1 ≤ wd → wd ≤ d + 1 → Mat w.heap.size 22 3 X z (plS P s) → Calls Try.prog 25 #[z, .int .i64 wd] X fun e w' => e = .returned (.int .i64 (rk wd (plS P s) : Nat)) ∧ Below X.heap.size X w') := fun wd z X h1 h2 hz =>
    rankW_any w.heap.size (d + 1) wd (plS P s) z X h2 h1 (mx_few hd1 hd3 hrow) hz (by omega)
  have HRN : Hid (∀ (i : Nat) (z : Value) X, i < P.length → Mat w.heap.size 22 3 X z (plS P s ++ [P.getD i []]) → Calls Try.prog 25 #[z, .int .i64 ((d : Int) + 1)] X fun e w' => e = .returned (.int .i64 (rk (d + 1) (plS P s ++ [P.getD i []]) : Nat)) ∧ Below X.heap.size X w') := fun i z X hi hz => by
    have := rankW_any w.heap.size (d + 1) (d + 1) (plS P s ++ [P.getD i []]) z X (Nat.le_refl _) (by omega) (mx_few hd1 hd3 fun p hp => by
      rcases List.mem_append.1 hp with hp | hp
      · exact hrow p hp
      · rw [List.mem_singleton.1 hp]; exact hG _ (getD_memR hi)) hz (by simp; omega)
    exact this
  have HCN : Hid (∀ (i : Nat) X, i < P.length → Below w.heap.size w X → Calls Try.prog 42 #[.slice uo c.length uc, .int .i64 (i : Int)] X fun e w' => e = .returned (.bool (s.testBit i)) ∧ w' = X) := fun i X hi hX => by
    rw [← hbit i hi]
    exact containsK_any 0 i c _ X (hu.below hX (Nat.le_refl _))
  have HCC : Hid (∀ (i : Nat) (z ov : Value) X, i < P.length → Mat w.heap.size 22 3 X z (plS P s) → Sl w.heap.size 3 X ov (ints (P.getD i [])) → Calls Try.prog 43 #[.slice (some ⟨X.heap.size + 1, 0, none⟩) 2 2] ((X.alloc (.cells #[ov] 22)).alloc (.cells #[z, .slice (some ⟨X.heap.size, 0, none⟩) 1 1] 26)) fun e w' => ∃ yo yc, e = .returned (.slice yo (c.length + 1) yc) ∧ Mat w.heap.size 22 3 w' (.slice yo (c.length + 1) yc) (plS P s ++ [P.getD i []]) ∧ Below X.heap.size X w') := fun i z ov X hi hz ho => by
    have := concat2_any w.heap.size (plS P s) (P.getD i []) z ov X hz ho (by omega)
    rw [hpl] at this
    exact this
  have HRO : Hid (∀ i, i < P.length → ∃ b o ov, vo = some ⟨b, o, none⟩ ∧ (∃ oo oc, ov = .slice oo (d + 1) oc) ∧ ∀ X, Below w.heap.size w X → X.cell? ⟨b, o + i, none⟩ = some ov ∧ Sl w.heap.size 3 X ov (ints (P.getD i []))) := fun i hi => by
    obtain ⟨b, o, cp, ov, e1, _, h1, h2⟩ := mat_cell hv hi
    simp only [Value.slice.injEq] at e1
    obtain ⟨oo, oc, he, _, _⟩ := sl_open h2
    rw [(hG _ (getD_memR hi)).1] at he
    exact ⟨b, o, ov, e1.1, ⟨oo, oc, he⟩, fun X hX => ⟨(hX.cell (lt_of_cell h1)).trans h1, (h2.below hX (Nat.le_refl _)).more (Nat.zero_le _)⟩⟩
  have HTH : Hid (∀ i, thr d P s i = (rk (d + 1) (plS P s ++ [P.getD i []]) == rk (d + 1) (plS P s))) := fun i => rfl
  have HFL : Hid (flB d P s = (cen d P s && flT d P s P.length)) := rfl
  have HCE : Hid (cen d P s = !decide (rk d (plS P s) < rk (d + 1) (plS P s))) := by
    show (rk d (plS P s) == rk (d + 1) (plS P s)) = _
    have := rk_wide d (plS P s)
    rw [Bool.eq_iff_iff]
    simp
    omega
  rw [← hsd]
  have hr4 := rk_cap (d + 1) (plS P s)
  have hr5 := rk_cap d (plS P s)
  have HR6 : Hid (∀ i, rk (d + 1) (plS P s ++ [P.getD i []]) ≤ d + 1) := fun i => rk_cap _ _
  have HPK2 := HPK
  clear hv hu hs hce hcb hsd hT hbit hpl hrow hc HPK
  generalize hRD : rk d (plS P s) = rd at *
  generalize hRE : rk (d + 1) (plS P s) = re at *
  go_enter Try.func24, Try.ntmps24
  go_wp2_with fail
  refine HPK2.out.mono ?_
  rintro e w1 ⟨zo, zc, rfl, hz1, hb1⟩
  have K1 := HRK.out (d + 1) _ w1 (by omega) (by omega) hz1
  rw [hRE] at K1
  have HK1 : Hid (Calls Try.prog 25 #[.slice zo c.length zc, .int .i64 ((d : Int) + 1)] w1 fun e w' => e = .returned (.int .i64 (re : Nat)) ∧ Below w1.heap.size w1 w') := K1
  have HK2 : Hid (∀ X, Below w1.heap.size w1 X → Calls Try.prog 25 #[.slice zo c.length zc, .int .i64 (d : Int)] X fun e w' => e = .returned (.int .i64 (rd : Nat)) ∧ Below X.heap.size X w') := fun X hX => by
    have := HRK.out d _ X hd1 (by omega) (hz1.below hX (Nat.le_refl _))
    rw [hRD] at this
    exact this
  have HZ : Hid (Mat w.heap.size 22 3 w1 (.slice zo c.length zc) (plS P s)) := hz1
  have HB1 : Hid (Below w.heap.size w w1) := hb1
  clear K1 hz1 hb1 HPK2 HRK
  go_wp2_with fail
  refine HK1.out.mono ?_
  rintro e w2 ⟨rfl, hb2⟩
  have HB2 : Hid (Below w1.heap.size w1 w2) := hb2
  clear hb2 HK1
  go_wp2_with fail
  refine (HK2.out w2 HB2.out).mono ?_
  rintro e w3 ⟨rfl, hb3⟩
  have HB3 : Hid (Below w1.heap.size w1 w3) := HB2.out.trans (hb3.mono HB2.out.size)
  clear hb3 HK2 HB2
  by_cases hlt : rd < re
  · have hltI : (rd : Int) < (re : Int) := by omega
    have HF : Hid (flB d P s = false) := by
      show _ = _
      rw [HFL.out, HCE.out]; simp [hlt]
    have HBB : Hid (Below w.heap.size w w3) := HB1.out.trans (HB3.out.mono HB1.out.size)
    clear HFL HCE hlt HRN HCN HCC HRO HTH HR6
    go_wp2
    go_ret
    exact ⟨ret_bool HF.out.symm, HBB.out⟩
  have hltI : ¬ (rd : Int) < (re : Int) := by omega
  have hltD : decide (rd < re) = false := decide_eq_false hlt
  have HF : Hid (flB d P s = flT d P s P.length) := by
    show _ = _
    rw [HFL.out, HCE.out]; simp [hlt]
  clear HFL HCE hlt
  go_wp2
  go_loopw [25, 9, 10] (fun i _ _ wr => ∃ k : Nat, k ≤ P.length ∧ i = .int .i64 (k : Int) ∧ flT d P s k = true ∧ Below w1.heap.size w1 wr) (fun i _ _ _ => P.length - (intOf i).toNat)
  case atStart => exact ⟨0, Nat.zero_le _, rfl, rfl, HB3.out⟩
  case round =>
    obtain ⟨k, hk, rfl, hfk, hb⟩ := hrel
    have HFK : Hid (flT d P s k = true) := hfk
    have HB : Hid (Below w1.heap.size w1 wr) := hb
    have HBW : Hid (Below w.heap.size w wr) := HB1.out.trans (hb.mono HB1.out.size)
    clear hfk hb
    by_cases hlt : k < P.length
    · obtain ⟨b, o, ov, hvo, ⟨oo, oc, hov⟩, hx⟩ := HRO.out k hlt
      subst hvo hov
      obtain ⟨c1, hs1⟩ := hx wr HBW.out
      have HCK := HCN.out k wr hlt HBW.out
      have hkI : (k : Int) < (P.length : Int) := by omega
      have HSC := flT_succ d P s k
      have HC2 := HCC.out k _ _ wr hlt (HZ.out.below HB.out (Nat.le_refl _)) hs1
      have HTK := HTH.out k
      rw [HFK.out, Bool.true_and] at HSC
      clear hs1 hx
      cases hbt : s.testBit k
      · rw [hbt] at HCK HSC
        rw [Bool.false_or, HTK] at HSC
        have HS2 : Hid (flT d P s (k + 1) = !(rk (d + 1) (plS P s ++ [P.getD k []]) == re)) := HSC
        clear HSC HTK
        have hr7 := HR6.out k
        have HRN2 : Hid (∀ (z : Value) X, Mat w.heap.size 22 3 X z (plS P s ++ [P.getD k []]) → Calls Try.prog 25 #[z, .int .i64 ((d : Int) + 1)] X fun e w' => e = .returned (.int .i64 (rk (d + 1) (plS P s ++ [P.getD k []]) : Nat)) ∧ Below X.heap.size X w') := fun z X hz => HRN.out k z X hlt hz
        generalize rk (d + 1) (plS P s ++ [P.getD k []]) = rn at *
        go_wp2_with fail
        refine HCK.mono ?_
        rintro e w5 ⟨rfl, hw5⟩
        subst hw5
        clear HCK
        go_wp2_with fail
        refine HC2.mono ?_
        rintro e w6 ⟨yo, yc, rfl, hm6, hb6⟩
        have HR8 := HRN2.out _ w6 hm6
        have HB6 : Hid (Below w1.heap.size w1 w6) := HB.out.trans (hb6.mono HB.out.size)
        clear hm6 hb6 HC2
        go_wp2_with fail
        refine HR8.mono ?_
        rintro e w7 ⟨rfl, hb7⟩
        have HB7 : Hid (Below w1.heap.size w1 w7) := HB6.out.trans (hb7.mono HB6.out.size)
        clear HR8 hb7 HB6
        by_cases hq : rn = re
        · have hqI : ((rn : Int) == (re : Int)) = true := by simp [hq]
          have HF2 : Hid (flB d P s = false) := by
            show _ = _
            rw [HF.out]
            refine flT_le (k := k + 1) (by omega) ?_
            rw [HS2.out]; simp [hq]
          have HBB : Hid (Below w.heap.size w w7) := HB1.out.trans (HB7.out.mono HB1.out.size)
          clear hq
          go_wp2
          go_ret
          exact ⟨ret_bool HF2.out.symm, HBB.out⟩
        · have hqI : ((rn : Int) == (re : Int)) = false := by simp; omega
          have HS3 : Hid (flT d P s (k + 1) = true) := by
            show _ = _
            rw [HS2.out]; simp [hq]
          clear hq
          go_wp2
          go_roundw
          case rel => exact ⟨k + 1, by omega, by go_num, HS3.out, HB7.out⟩
          case measure => simp [intOf]; omega
      · rw [hbt] at HCK HSC
        have HS2 : Hid (flT d P s (k + 1) = true) := by rw [HSC]; rfl
        clear HSC HTK HC2
        go_wp2_with fail
        refine HCK.mono ?_
        rintro e w5 ⟨rfl, hw5⟩
        subst hw5
        clear HCK
        go_wp2
        go_roundw
        case rel => exact ⟨k + 1, by omega, by go_num, HS2.out, HB.out⟩
        case measure => simp [intOf]; omega
    · have hke : k = P.length := by omega
      subst hke
      go_wp2
      go_ret
      exact ⟨ret_bool (by rw [HF.out, HFK.out]), HBW.out⟩

end Go.Proofs.Ytmljnfgfjcjmmaa
