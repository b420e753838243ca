/- slices.Grow and slices.Concat of lists of rows. -/
import Derived.Test.YtgfnmkenpgnllaaGreatReads
import Derived.Test.YtgfnmkenpgnllaaGreatRefs3
import Derived.Shelf.Spec.SlicesGrow
import Derived.Laws.AppendOwnNone
namespace Go.Proofs
open Go.Shelf Go.RowKit Go.Lib
shelf_lay_g Lays8.n4 Nm8 4 at Tryz 114 as Tryz.growM
end Go.Proofs

namespace Go.Proofs.YtgfnmkenpgnllaaGreat
open Go.RowKit
attribute [local go_sem ↓] Go.wp_at_zero Go.wp_at_succ

theorem growM_any (n : Nat) (w : World) (h1 : 1 ≤ n) (h2 : n ≤ 1000000) :
    Calls Tryz.prog 114 #[.slice none 0 0, .int .i64 n] w fun e w' => ∃ cap, e = .returned (.slice (some ⟨w.heap.size, 0, none⟩) 0 cap) ∧ w'.ownsRow w.heap.size 22 1 (.slice (some ⟨w.heap.size, 0, none⟩) 0 cap) 0 [] ∧ Below w.heap.size w w' := by
  obtain ⟨i3, hi3, hz30, hz31, hz32⟩ := info_parts Tryz.info22
  have h := Any8.slices_Grow_grow Tryz.growM i3 (.slice none 0 0) hi3 hz30 (by rw [hz31]; decide) none 0 0 n [] w (Nat.le_refl _) (by omega) (by rw [hz32]; omega) (by omega) (by simp) (fun _ => rfl) (fun a h => by cases h)
  refine Calls.mono h ?_
  rintro e w' ⟨rfl, rfl⟩
  refine ⟨_, rfl, ?_, ((Below.refl _ _).drew).alloc (Nat.le_refl _) _⟩
  refine World.ownsRow_made w.drew _ _ (Nat.le_refl _) (grownCap_le_maxLen _ _ _ _ (by unfold maxLen; omega)) ?_
  have hg : ∀ t, 0 + n ≤ grownCap w (0 + n) 0 t := fun t => grownCap_ge w (0 + n) 0 t
  have key : ∀ G, 0 + n ≤ G → (([] : List Value).toArray ++ Builtin.zeroCells (Value.slice none 0 0).cells (0 + n - 0) ++ Builtin.zeroCells (Value.slice none 0 0).cells (G - (0 + n))).size = G * 1 := fun G hG => by
    simp only [Array.size_append, List.size_toArray, size_zeroCells, List.length_nil, show (Value.slice none 0 0).cells.size = 1 from rfl]
    omega
  exact key _ (hg _)

theorem sl_cellsM {B : Nat} {e : TypeId} {w : World} {a : Addr} {n cap : Nat} {xs : List Value} (h : Sl B e w (.slice (some a) n cap) xs) : ∀ j u, xs[j]? = some u → w.cell? (a.add j) = some u := by
  intro j u hj
  have hlt := (List.getElem?_eq_some_iff.1 hj).1
  obtain ⟨ao, c, hv, h1, h2, h3, h4⟩ := h
  simp only [Value.slice.injEq] at hv
  obtain ⟨rfl, _, rfl⟩ := hv
  obtain ⟨b, o, ha, hc, _⟩ := h3 j hlt
  cases ha
  rw [hj] at hc
  by_cases ej : j = 0
  · subst ej; simpa [Addr.add] using hc
  · simpa [Addr.add, ej] using hc

def totV (m : List (List Value)) : Nat := m.flatten.length

theorem totV_succ {m : List (List Value)} {k : Nat} (h : k < m.length) : totV (m.take (k + 1)) = totV (m.take k) + (m.getD k []).length := by
  unfold totV
  rw [List.take_succ_eq_append_getElem h, List.flatten_append, List.length_append]
  simp [h]

theorem totV_le {m : List (List Value)} (k : Nat) : totV (m.take k) ≤ totV m := by
  unfold totV
  have : m.flatten = (m.take k).flatten ++ (m.drop k).flatten := by rw [← List.flatten_append, List.take_append_drop]
  rw [this, List.length_append]
  omega

theorem flatV_succ {m : List (List Value)} {k : Nat} (h : k < m.length) : (m.take (k + 1)).flatten = (m.take k).flatten ++ m.getD k [] := by
  rw [List.take_succ_eq_append_getElem h, List.flatten_append]
  simp only [List.flatten_cons, List.flatten_nil, List.append_nil]
  rw [show m.getD k [] = m[k] by simp [h]]


set_option maxRecDepth 100000 in
set_option maxHeartbeats 1600000 in
theorem concatM_any (B : Nat) (m : List (List Value)) (vs : List Value) (v : Value) (w : World) (hvl : vs.length = m.length) (hv2 : Sl B 25 w v vs) (hv3 : ∀ i, i < m.length → Sl B 22 w (vs.getD i (.slice none 0 0)) (m.getD i [])) (hone : ∀ i, i < m.length → ∀ u ∈ m.getD i [], u.oneCell' = true) (hm : m.length ≤ 1000) (h1 : 1 ≤ totV m) (h2 : totV m ≤ 1000) :
    Calls Tryz.prog 90 #[v] w fun e w' => ∃ u, e = .returned u ∧ w'.ownsRow w.heap.size 22 1 u (totV m) m.flatten ∧ Below w.heap.size w w' := by
  obtain ⟨i3, hi3, hz30, hz31, hz32⟩ := info_parts Tryz.info22
  obtain ⟨ao, cap, hvv, hlc, hcm⟩ : ∃ ao cap, v = .slice ao m.length cap ∧ m.length ≤ cap ∧ cap ≤ 9223372036854775807 := by
    obtain ⟨ao, cap, h1, h2, h3, _⟩ := hv2
    exact ⟨ao, cap, by rw [h1, hvl], by omega, by unfold maxLen at h3; omega⟩
  subst hvv
  have HONE : Hid (∀ i, i < m.length → ∀ u ∈ m.getD i [], u.oneCell' = true) := hone
  have HV4 : Hid (∀ k, k < m.length → ∃ b o a n c, ao = some ⟨b, o, none⟩ ∧ w.cell? ⟨b, o + k, none⟩ = some (.slice a n c) ∧ Sl B 22 w (.slice a n c) (m.getD k [])) := fun k hk => by
    obtain ⟨b, o, cp, he, _, _, h4⟩ := hv2.at (by omega)
    obtain ⟨a, c, h5, _, _⟩ := hv3 k hk
    simp only [Value.slice.injEq] at he
    have h6 := hv3 k hk
    rw [h5] at h6
    refine ⟨b, o, a, _, c, he.1, ?_, h6⟩
    rw [h4 k (by omega), ← h5]
    simp [show k < vs.length by omega]
  clear hv2 hv3 hvl hone
  go_enter Tryz.func90, Tryz.ntmps90
  go_wp2
  go_loop [3, 11] (fun s i => ∃ k : Nat, k ≤ m.length ∧ i = .int .i64 k ∧ s = .int .i64 (totV (m.take k) : Nat)) (fun _ i => m.length - (intOf i).toNat)
  case atStart => exact ⟨0, Nat.zero_le _, rfl, rfl⟩
  case round =>
    obtain ⟨k, hk, rfl, rfl⟩ := hrel
    by_cases hlt : k < m.length
    · obtain ⟨b, o, ra, rn, rc, rfl, hcc, hr1⟩ := HV4.out k hlt
      have hrn : rn = (m.getD k []).length := by
        obtain ⟨_, _, h, _⟩ := hr1
        simp only [Value.slice.injEq] at h
        exact h.2.1
      subst hrn
      have ht := totV_succ hlt
      have ht2 := totV_le (m := m) (k + 1)
      have HT : Hid (totV (m.take (k + 1)) = totV (m.take k) + (m.getD k []).length) := ht
      obtain ⟨a1, ha1⟩ : ∃ a1, a1 = totV (m.take k) := ⟨_, rfl⟩
      obtain ⟨a2, ha2⟩ : ∃ a2, a2 = (m.getD k []).length := ⟨_, rfl⟩
      rw [← ha1, ← ha2] at ht HT
      rw [← ha2] at hcc
      rw [← ha1]
      have hb1 : a1 + a2 ≤ 1000 := by omega
      have hkI0 : (0 : Int) ≤ (k : Int) := by omega
      have hkI : (k : Int) < (m.length : Int) := by omega
      have hnn : ¬ ((a1 : Int) + (a2 : Int) < 0) := by omega
      clear ht ht2 hr1 ha1 ha2
      go_wp2
      go_round
      case rel => exact ⟨k + 1, by omega, by go_num, by rw [HT.out]; go_num⟩
      case measure => simp [intOf]; omega
    · have hke : k = m.length := by omega
      subst hke
      have HTK : Hid (m.take m.length = m) := List.take_length
      rw [HTK.out]
      clear hlt hk
      obtain ⟨tt, htt⟩ : ∃ tt, tt = totV m := ⟨_, rfl⟩
      rw [← htt] at h1 h2 ⊢
      have HTT : Hid (tt = totV m) := htt
      clear htt
      go_wp2_with fail
      refine (growM_any tt w h1 (by omega)).mono ?_
      rintro e w1 ⟨gc, rfl, hown, hb1⟩
      have HO1 : Hid (w1.ownsRow w.heap.size 22 1 (.slice (some ⟨w.heap.size, 0, none⟩) 0 gc) 0 []) := hown
      have HB1 : Hid (Below w.heap.size w w1) := hb1
      clear hown hb1
      go_wp2
      go_loopw [6, 27] (fun x i wr => ∃ k : Nat, k ≤ m.length ∧ i = .int .i64 k ∧ wr.ownsRow w.heap.size 22 1 x (totV (m.take k)) (m.take k).flatten ∧ Below w.heap.size w wr) (fun _ i _ => m.length - (intOf i).toNat)
      case atStart => exact ⟨0, Nat.zero_le _, rfl, HO1.out, HB1.out⟩
      case round =>
        obtain ⟨k, hk, rfl, hown, hbel⟩ := hrel
        obtain ⟨wb, rfl⟩ : ∃ wb, wb = wr := ⟨wr, rfl⟩
        have HO : Hid (wb.ownsRow w.heap.size 22 1 u6 (totV (m.take k)) (m.take k).flatten) := hown
        have HB : Hid (Below w.heap.size w wb) := hbel
        obtain ⟨xo, xc, hxv⟩ := owns_form hown
        subst hxv
        have hsz := hbel.size
        clear hown hbel
        by_cases hlt : k < m.length
        · obtain ⟨b, o, ra, rn, rc, rfl, hcc0, hr0⟩ := HV4.out k hlt
          have hcc := (HB.out.cell (p := ⟨b, o + k, none⟩) (lt_of_cell hcc0)).trans hcc0
          have hr1 := hr0.below HB.out (Nat.le_refl _)
          have ht := totV_succ hlt
          have ht2 := totV_le (m := m) (k + 1)
          have HT : Hid (totV (m.take (k + 1)) = totV (m.take k) + (m.getD k []).length) := ht
          have HFL : Hid ((m.take (k + 1)).flatten = (m.take k).flatten ++ m.getD k []) := flatV_succ hlt
          obtain ⟨a1, ha1⟩ : ∃ a1, a1 = totV (m.take k) := ⟨_, rfl⟩
          obtain ⟨q, hq⟩ : ∃ q, q = m.getD k [] := ⟨_, rfl⟩
          have HQ1 : Hid (∀ u ∈ q, u.oneCell' = true) := by rw [hq]; exact HONE.out k hlt
          rw [← hq] at hr1 HT HFL
          rw [← ha1] at HT HO ⊢
          have hb1 : a1 + q.length ≤ 1000 := by have := HT.out; have := HTT.out; omega
          have hrn : rn = q.length := by
            obtain ⟨_, _, h, _⟩ := hr1
            simp only [Value.slice.injEq] at h
            exact h.2.1
          subst hrn
          have hkI0 : (0 : Int) ≤ (k : Int) := by omega
          have hkI : (k : Int) < (m.length : Int) := by omega
          rcases ra with _ | ra
          · have hnl : q = [] ∧ rc = 0 := by
              obtain ⟨a0, c0, he, _, _, h3, h4⟩ := hr1
              simp only [Value.slice.injEq] at he
              obtain ⟨rfl, _, rfl⟩ := he
              refine ⟨?_, h4 rfl⟩
              rcases q with _ | ⟨z, q⟩
              · rfl
              · obtain ⟨b', o', hb', _⟩ := h3 0 (by simp)
                cases hb'
            obtain ⟨rfl, rfl⟩ := hnl
            have R1 : Hid (wb.ownsRow w.heap.size 22 1 (.slice xo a1 xc) (totV (m.take (k + 1))) (m.take (k + 1)).flatten) := by
              show World.ownsRow _ _ _ _ _ _ _
              rw [HT.out, HFL.out]
              simpa using HO.out
            clear ht ht2 ha1 hq hcc0 hr0 hr1
            go_wp2_with (first | (at_builtin; refine wpList_append_own_none rfl _ _ 25 rfl w.heap.size 22 i3 1 Tryz.underlying25 hi3 _ _ _ rfl HO.out rfl ?_))
            go_wp2
            go_roundw
            case rel => exact ⟨k + 1, by omega, by go_num, R1.out, HB.out⟩
            case measure => simp [intOf]; omega
          have HR1 : Hid (Sl B 22 wb (.slice (some ra) q.length rc) q) := hr1
          have HNEW : Hid (∀ j u, q[j]? = some u → wb.cell? (ra.add j) = some u) := sl_cellsM hr1
          clear ht ht2 ha1 hq hcc0 hr0 hr1
          go_wp2_with (first | (at_builtin; refine wpList_append_own _ rfl _ _ 25 rfl w.heap.size 22 i3 (.slice none 0 0) 1 24 Tryz.underlying25 hi3 hz30 hz31 hz32 rfl (by decide) _ _ _ rfl HO.out ra q.length rc q rfl (by simp) HNEW.out HQ1.out ?c3 ?c4 ?c5 ?_))
          case c3 => unfold maxLen; omega
          case c4 => omega
          case c5 => omega
          intro v' w3 ho hg _
          have R1 : Hid (w3.ownsRow w.heap.size 22 1 v' (totV (m.take (k + 1))) (m.take (k + 1)).flatten) := by rw [HT.out, HFL.out]; exact ho
          have R2 : Hid (Below w.heap.size w w3) := HB.out.grown hg hsz (fun x hx => (HO.out.lt x hx).1)
          clear ho hg
          go_wp2
          go_roundw
          case rel => exact ⟨k + 1, by omega, by go_num, R1.out, R2.out⟩
          case measure => simp [intOf]; omega
        · have hke : k = m.length := by omega
          subst hke
          have HO2 : Hid (wb.ownsRow w.heap.size 22 1 (.slice xo (totV m) xc) (totV m) m.flatten) := by have := HO.out; rw [HTK.out] at this; exact this
          rw [HTK.out]
          clear HO
          go_wp2
          go_ret
          exact ⟨_, rfl, by rw [HTT.out]; exact HO2.out, HB.out⟩

end Go.Proofs.YtgfnmkenpgnllaaGreat
