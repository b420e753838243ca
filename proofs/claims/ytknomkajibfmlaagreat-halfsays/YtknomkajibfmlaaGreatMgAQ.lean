import Derived.Test.YtknomkajibfmlaaGreatMgAG
import Derived.Test.YtknomkajibfmlaaGreatMgAI
import Derived.Shelf.Spec.SlicesGrow
import Derived.Test.YtknomkajibfmlaaGreatMgAP
import Derived.Test.YtknomkajibfmlaaGreatMgAM
/- The library's Grow and Concat, as this program calls them. -/
namespace Go.Proofs
open Go.Shelf Go.RowKit Go.Lib
shelf_lay_g Lays8.n4 Nm8 4 at Tryz 61 as Tryz.growI
end Go.Proofs

namespace Go.Proofs.YtknomkajibfmlaaGreat
open Go.RowKit

theorem grow_any (n : Nat) (w : World) (h1 : 1 ≤ n) (h2 : n ≤ 1000000) :
    Calls Tryz.prog 61 #[.slice none 0 0, .int .i64 n] w fun e w' => ∃ cap, e = .returned (.slice (some ⟨w.heap.size, 0, none⟩) 0 cap) ∧ w'.ownsRow w.heap.size 3 1 (.slice (some ⟨w.heap.size, 0, none⟩) 0 cap) 0 [] ∧ Below w.heap.size w w' := by
  obtain ⟨i3, hi3, hz30, hz31, hz32⟩ := info_parts Tryz.info3
  have h := Any8.slices_Grow_grow Tryz.growI i3 (.int .i64 0) hi3 hz30 (by rw [hz31]; decide) none 0 0 n [] w (Nat.le_refl _) (by omega) (by rw [hz32]; omega) (by omega) (by simp) (fun _ => rfl) (fun a h => by cases h)
  refine Calls.mono h ?_
  rintro e w' ⟨rfl, rfl⟩
  refine ⟨_, rfl, ?_, ((Below.refl _ _).drew).alloc (Nat.le_refl _) _⟩
  refine World.ownsRow_made w.drew _ _ (Nat.le_refl _) (grownCap_le_maxLen _ _ _ _ (by unfold maxLen; omega)) ?_
  have hg : ∀ t, 0 + n ≤ grownCap w (0 + n) 0 t := fun t => grownCap_ge w (0 + n) 0 t
  have key : ∀ G, 0 + n ≤ G → (([] : List Value).toArray ++ Builtin.zeroCells (Value.int .i64 0).cells (0 + n - 0) ++ Builtin.zeroCells (Value.int .i64 0).cells (G - (0 + n))).size = G * 1 := fun G hG => by
    simp only [Array.size_append, List.size_toArray, size_zeroCells, List.length_nil, show (Value.int .i64 0).cells.size = 1 from rfl]
    omega
  exact key _ (hg _)

theorem sl_cells0 {B : Nat} {e : TypeId} {w : World} {a : Addr} {n cap : Nat} {xs : List Value} (h : Sl B e w (.slice (some a) n cap) xs) : ∀ j u, xs[j]? = some u → w.cell? (a.add j) = some u := by
  intro j u hj
  have hlt := (List.getElem?_eq_some_iff.1 hj).1
  obtain ⟨ao, c, hv, h1, h2, h3, h4⟩ := h
  simp only [Value.slice.injEq] at hv
  obtain ⟨rfl, _, rfl⟩ := hv
  obtain ⟨b, o, ha, hc, _⟩ := h3 j hlt
  cases ha
  rw [hj] at hc
  by_cases ej : j = 0
  · subst ej; simpa [Addr.add] using hc
  · simpa [Addr.add, ej] using hc

def tot (m : List (List Int)) : Nat := m.flatten.length

theorem tot_succ {m : List (List Int)} {k : Nat} (h : k < m.length) : tot (m.take (k + 1)) = tot (m.take k) + (m.getD k []).length := by
  unfold tot
  rw [List.take_succ_eq_append_getElem h, List.flatten_append, List.length_append]
  simp [h]

theorem tot_le {m : List (List Int)} (k : Nat) : tot (m.take k) ≤ tot m := by
  unfold tot
  have : m.flatten = (m.take k).flatten ++ (m.drop k).flatten := by rw [← List.flatten_append, List.take_append_drop]
  rw [this, List.length_append]
  omega

theorem flatL_succ {m : List (List Int)} {k : Nat} (h : k < m.length) : (m.take (k + 1)).flatten = (m.take k).flatten ++ m.getD k [] := by
  rw [List.take_succ_eq_append_getElem h, List.flatten_append]
  simp only [List.flatten_cons, List.flatten_nil, List.append_nil]
  rw [show m.getD k [] = m[k] by simp [h]]

theorem ints_app (a b : List Int) : ints (a ++ b) = ints a ++ ints b := by simp [ints]

set_option maxRecDepth 100000 in
set_option maxHeartbeats 1600000 in
theorem concat_any (B : Nat) (m : List (List Int)) (vs : List Value) (v : Value) (w : World) (hvl : vs.length = m.length) (hv2 : Sl B 38 w v vs) (hv3 : ∀ i, i < m.length → Sl B 3 w (vs.getD i (.slice none 0 0)) (ints (m.getD i []))) (hsm : ∀ i, i < m.length → ∃ a n c, vs.getD i (.slice none 0 0) = .slice (some a) n c) (hm : m.length ≤ 1000) (h1 : 1 ≤ tot m) (h2 : tot m ≤ 1000) :
    Calls Tryz.prog 42 #[v] w fun e w' => ∃ u, e = .returned u ∧ w'.ownsRow w.heap.size 3 1 u (tot m) (ints m.flatten) ∧ Below w.heap.size w w' := by
  obtain ⟨i3, hi3, hz30, hz31, hz32⟩ := info_parts Tryz.info3
  have hv : Mat B 38 3 w v m := ⟨vs, hvl, hv2, hv3⟩
  obtain ⟨ao, cap, hvv, hlc, hcm⟩ := mat_open hv
  subst hvv
  have HV : Hid (Mat B 38 3 w (.slice ao m.length cap) m) := hv
  have HV4 : Hid (∀ k, k < m.length → ∃ b o a n c, ao = some ⟨b, o, none⟩ ∧ w.cell? ⟨b, o + k, none⟩ = some (.slice (some a) n c) ∧ Sl B 3 w (.slice (some a) n c) (ints (m.getD k []))) := fun k hk => by
    obtain ⟨b, o, cp, he, _, _, h4⟩ := hv2.at (by omega)
    obtain ⟨a, n, c, h5⟩ := hsm k hk
    simp only [Value.slice.injEq] at he
    have h6 := hv3 k hk
    rw [h5] at h6
    refine ⟨b, o, a, n, c, he.1, ?_, h6⟩
    rw [h4 k (by omega), ← h5]
    simp [show k < vs.length by omega]
  clear hv hv2 hv3 hsm hvl
  go_enter Tryz.func42, Tryz.ntmps42
  go_wp2
  go_loop [3, 11] (fun s i => ∃ k : Nat, k ≤ m.length ∧ i = .int .i64 k ∧ s = .int .i64 (tot (m.take k) : Nat)) (fun _ i => m.length - (intOf i).toNat)
  case atStart => exact ⟨0, Nat.zero_le _, rfl, rfl⟩
  case round =>
    obtain ⟨k, hk, rfl, rfl⟩ := hrel
    by_cases hlt : k < m.length
    · obtain ⟨b, o, cp, r1, hs, hc1, hcc, hr1⟩ := mat_cell HV.out hlt
      simp only [Value.slice.injEq] at hs
      obtain ⟨rfl, -, rfl⟩ := hs
      obtain ⟨ro, rc, hrv, _, _⟩ := sl_open hr1
      subst hrv
      have ht := tot_succ hlt
      have ht2 := tot_le (m := m) (k + 1)
      have HT : Hid (tot (m.take (k + 1)) = tot (m.take k) + (m.getD k []).length) := ht
      obtain ⟨a1, ha1⟩ : ∃ a1, a1 = tot (m.take k) := ⟨_, rfl⟩
      obtain ⟨a2, ha2⟩ : ∃ a2, a2 = (m.getD k []).length := ⟨_, rfl⟩
      rw [← ha1, ← ha2] at ht HT
      rw [← ha2] at hcc
      rw [← ha1]
      have hb1 : a1 + a2 ≤ 1000 := by omega
      have hkI0 : (0 : Int) ≤ (k : Int) := by omega
      have hkI : (k : Int) < (m.length : Int) := by omega
      have hnn : ¬ ((a1 : Int) + (a2 : Int) < 0) := by omega
      clear ht ht2 hr1 ha1 ha2
      go_wp2
      go_round
      case rel => exact ⟨k + 1, by omega, by go_num, by rw [HT.out]; go_num⟩
      case measure => simp [intOf]; omega
    · have hke : k = m.length := by omega
      subst hke
      have HTK : Hid (m.take m.length = m) := List.take_length
      rw [HTK.out]
      clear hlt hk
      obtain ⟨tt, htt⟩ : ∃ tt, tt = tot m := ⟨_, rfl⟩
      rw [← htt] at h1 h2 ⊢
      have HTT : Hid (tt = tot m) := htt
      clear htt
      go_wp2_with fail
      refine (grow_any tt w h1 (by omega)).mono ?_
      rintro e w1 ⟨gc, rfl, hown, hb1⟩
      have HO1 : Hid (w1.ownsRow w.heap.size 3 1 (.slice (some ⟨w.heap.size, 0, none⟩) 0 gc) 0 []) := hown
      have HB1 : Hid (Below w.heap.size w w1) := hb1
      clear hown hb1
      go_wp2
      go_loopw [6, 27] (fun x i wr => ∃ k : Nat, k ≤ m.length ∧ i = .int .i64 k ∧ wr.ownsRow w.heap.size 3 1 x (tot (m.take k)) (ints (m.take k).flatten) ∧ Below w.heap.size w wr) (fun _ i _ => m.length - (intOf i).toNat)
      case atStart => exact ⟨0, Nat.zero_le _, rfl, HO1.out, HB1.out⟩
      case round =>
        obtain ⟨k, hk, rfl, hown, hbel⟩ := hrel
        obtain ⟨wb, rfl⟩ : ∃ wb, wb = wr := ⟨wr, rfl⟩
        have HO : Hid (wb.ownsRow w.heap.size 3 1 u6 (tot (m.take k)) (ints (m.take k).flatten)) := hown
        have HB : Hid (Below w.heap.size w wb) := hbel
        obtain ⟨xo, xc, hxv⟩ := owns_form hown
        subst hxv
        have hsz := hbel.size
        clear hown hbel
        by_cases hlt : k < m.length
        · obtain ⟨b, o, ra, rn, rc, rfl, hcc0, hr0⟩ := HV4.out k hlt
          have hcc := (HB.out.cell (p := ⟨b, o + k, none⟩) (lt_of_cell hcc0)).trans hcc0
          have hr1 := hr0.below HB.out (Nat.le_refl _)
          have ht := tot_succ hlt
          have ht2 := tot_le (m := m) (k + 1)
          have HT : Hid (tot (m.take (k + 1)) = tot (m.take k) + (m.getD k []).length) := ht
          have HFL : Hid ((m.take (k + 1)).flatten = (m.take k).flatten ++ m.getD k []) := flatL_succ hlt
          obtain ⟨a1, ha1⟩ : ∃ a1, a1 = tot (m.take k) := ⟨_, rfl⟩
          obtain ⟨q, hq⟩ : ∃ q, q = m.getD k [] := ⟨_, rfl⟩
          rw [← hq] at hr1 HT HFL
          rw [← ha1] at HT HO ⊢
          have hb1 : a1 + q.length ≤ 1000 := by have := HT.out; have := HTT.out; omega
          have hrn : rn = q.length := by
            obtain ⟨_, _, h, _⟩ := hr1
            simp only [Value.slice.injEq, ints_length] at h
            exact h.2.1
          subst hrn
          have HR1 : Hid (Sl B 3 wb (.slice (some ra) q.length rc) (ints q)) := hr1
          have HNEW : Hid (∀ j u, (ints q)[j]? = some u → wb.cell? (ra.add j) = some u) := sl_cells0 hr1
          have hkI0 : (0 : Int) ≤ (k : Int) := by omega
          have hkI : (k : Int) < (m.length : Int) := by omega
          clear ht ht2 ha1 hq hcc0 hr0 hr1
          go_wp2_with (first | (at_builtin; refine wpList_append_own _ rfl _ _ 38 rfl w.heap.size 3 i3 (.int .i64 0) 1 8 Tryz.underlying38 hi3 hz30 hz31 hz32 rfl (by decide) _ _ _ rfl HO.out ra q.length rc (ints q) rfl (by simp) HNEW.out (ints_oneCell' q) ?c3 ?c4 ?c5 ?_))
          case c3 => unfold maxLen; omega
          case c4 => omega
          case c5 => omega
          intro v' w3 ho hg _
          have R1 : Hid (w3.ownsRow w.heap.size 3 1 v' (tot (m.take (k + 1))) (ints (m.take (k + 1)).flatten)) := by rw [HT.out, HFL.out, ints_app]; exact ho
          have R2 : Hid (Below w.heap.size w w3) := HB.out.grown hg hsz (fun x hx => (HO.out.lt x hx).1)
          clear ho hg
          go_wp2
          go_roundw
          case rel => exact ⟨k + 1, by omega, by go_num, R1.out, R2.out⟩
          case measure => simp [intOf]; omega
        · have hke : k = m.length := by omega
          subst hke
          have HO2 : Hid (wb.ownsRow w.heap.size 3 1 (.slice xo (tot m) xc) (tot m) (ints m.flatten)) := by have := HO.out; rw [HTK.out] at this; exact this
          rw [HTK.out]
          clear HO
          go_wp2
          go_ret
          exact ⟨_, rfl, by rw [HTT.out]; exact HO2.out, HB.out⟩

end Go.Proofs.YtknomkajibfmlaaGreat

/- half.without: a row is kept, without its k-th number. -/
namespace Go.Proofs.YtknomkajibfmlaaGreat
open Go.RowKit
attribute [local go_sem ↓] Go.wp_at_zero Go.wp_at_succ

def dropK (r : List Int) (k : Nat) : List Int := r.take k ++ r.drop (k + 1)
/-- What is kept of a row. -/
def keepL (k : Nat) (r : List Int) : List (List Int) := if sayB (Lin.low (dropK r k)) then [] else [Lin.low (dropK r k)]

theorem Sl.tailN {B : Nat} {w : World} {b o n c j : Nat} {zs : List Int} (h : Sl B 3 w (.slice (some ⟨b, o, none⟩) n c) (ints zs)) (hj : j ≤ n) : Sl B 3 w (.slice (some ⟨b, o + j, none⟩) (n - j) (c - j)) (ints (zs.drop j)) := by
  obtain ⟨ao, cap, hv, h1, h2, h3, h4⟩ := h
  simp only [Value.slice.injEq, ints_length] at hv h1
  obtain ⟨rfl, hn, rfl⟩ := hv
  refine ⟨some ⟨b, o + j, none⟩, c - j, by simp [hn], by simp; omega, by omega, fun i hi => ?_, fun h => by cases h⟩
  have hi' : i < zs.length - j := by simpa using hi
  obtain ⟨b', o', ha, hc, ht⟩ := h3 (j + i) (by simp; omega)
  simp only [Option.some.injEq, Addr.mk.injEq] at ha
  obtain ⟨rfl, rfl, _⟩ := ha
  refine ⟨b, o + j, rfl, ?_, ht⟩
  rw [show o + j + i = o + (j + i) by omega, hc, ints_get _ _ (by omega), ints_get _ _ (by simp; omega)]
  simp [show j + i < zs.length by omega]

theorem sl_pair {w : World} {b : Nat} {t : TypeId} {x y : Value} (h : w.heap[b]? = some (.cells #[x, y] t (0, 0))) : Sl 0 t w (.slice (some ⟨b, 0, none⟩) 2 2) [x, y] := by
  refine ⟨some ⟨b, 0, none⟩, 2, rfl, by simp, by simp [maxLen], fun i hi => ⟨b, 0, rfl, ?_, .inr ⟨_, h⟩⟩, fun h => by cases h⟩
  have : i = 0 ∨ i = 1 := by simp at hi; omega
  rcases this with rfl | rfl <;> simp [World.cell?, h]

theorem run_tail {b o n c k : Nat} (h1 : k + 1 < n) (h2 : n ≤ c) (w : World) : (Instr.slice 38 (.slice (some ⟨b, o, none⟩) n c) (some (.int .i64 ((k : Int) + 1))) none none).run Tryz.prog w = .ok (.slice (some ⟨b, o + (k + 1), none⟩) (n - (k + 1)) (c - (k + 1))) w := by
  have e1 : (0 : Int) ≤ (k : Int) + 1 ∧ (k : Int) + 1 ≤ (n : Int) := by omega
  have e2 : ((k : Int) + 1).toNat = k + 1 := by omega
  have e3 : ¬ c = k + 1 := by omega
  have hz : ∀ w, (Go.sizeOf 3).run Tryz.prog w = .ok 1 w := fun w => by kernel_rfl
  simp [Instr.slice, Instr.sliceBounds, Instr.sliceBound, run_underlying Tryz.underlying38, asIntOf, e1, e2, e3, hz, Addr.add, go_sem]

set_option maxRecDepth 100000 in
set_option maxHeartbeats 1600000 in
theorem keep_any (B M R k : Nat) (r : List Int) (rs : List (List Int)) (v ov : Value) (bk : Nat) (w : World) (hv : Sl B 3 w v (ints r)) (hk : k + 1 < r.length) (hn : r.length ≤ 10) (hb : ∀ z ∈ r, z.natAbs ≤ 1000000)
    (hkc : w.cell? ⟨bk, 0, none⟩ = some (.int .i64 k)) (hR : w.heap[R]? = some (.cells #[ov] 22 (0, 0))) (hRM : R < M) (hM : M ≤ w.heap.size) (hrs : Fr M 38 3 w ov rs) (hl : rs.length ≤ 1000000) :
    Calls Tryz.prog 40 #[v, .pointer (some ⟨bk, 0, none⟩), .pointer (some ⟨R, 0, none⟩)] w fun e w' => e = .returned (.tuple #[]) ∧ ∃ ov', w'.heap[R]? = some (.cells #[ov'] 22 (0, 0)) ∧ Fr M 38 3 w' ov' (rs ++ keepL k r) ∧ But M R w w' := by
  obtain ⟨i0, hi, hz0, hz1, hz2⟩ := info_parts Tryz.info38
  obtain ⟨b, o, cp, hs, hc1, hcc⟩ := sl_cell hv (k := 0) (by omega)
  subst hs
  have HV : Hid (Sl B 3 w (.slice (some ⟨b, o, none⟩) r.length cp) (ints r)) := hv
  have HR : Hid (w.heap[R]? = some (.cells #[ov] 22 (0, 0))) := hR
  have HRS : Hid (Fr M 38 3 w ov rs) := hrs
  have HB : Hid (∀ z ∈ r, z.natAbs ≤ 1000000) := hb
  have hkI0 : (0 : Int) ≤ (k : Int) := by omega
  have hkI1 : (k : Int) ≤ (cp : Int) := by omega
  have hkI2 : (k : Int) + 1 ≤ (r.length : Int) := by omega
  have hkI3 : (r.length : Int) ≤ (cp : Int) := by omega
  have hkI4 : (k : Int) + 1 < (r.length : Int) := by omega
  have hkI5 : (k : Int) + 1 < (cp : Int) := by omega
  have hsl := fun w => run_tail (b := b) (o := o) (n := r.length) (c := cp) (k := k) hk hc1 w
  have hwr : IntKind.i64.wrap ((k : Int) + 1) = (k : Int) + 1 := by rw [IntKind.wrap_i64]; omega
  obtain ⟨D, hD⟩ : ∃ D, D = dropK r k := ⟨_, rfl⟩
  have hDl : D.length + 1 = r.length := by rw [hD]; simp [dropK]; omega
  have hDb : ∀ z ∈ D, z.natAbs ≤ 1000000 := fun z hz => by
    rw [hD] at hz
    rcases List.mem_append.1 hz with h | h
    · exact hb z (List.mem_of_mem_take h)
    · exact hb z (List.mem_of_mem_drop h)
  obtain ⟨nn, hnn⟩ : ∃ nn, nn = D.length := ⟨_, rfl⟩
  have HKP : Hid (keepL k r = if sayB (Lin.low D) then [] else [Lin.low D]) := by show _ = _; rw [hD]; rfl
  have HLL : Hid ((Lin.low D).length = nn) := by show _ = _; rw [low_len, hnn]
  have hn1 : 1 ≤ nn := by omega
  have HCC : Hid (Calls Tryz.prog 42 #[.slice (some ⟨w.heap.size, 0, none⟩) 2 2] (w.alloc (.cells #[.slice (some ⟨b, o, none⟩) k cp, .slice (some ⟨b, o + (k + 1), none⟩) (r.length - (k + 1)) (cp - (k + 1))] 38)).drew fun e w' => ∃ uo uc, e = .returned (.slice uo nn uc) ∧
      (∃ l, w'.ownsRow l 3 1 (.slice uo nn uc) nn (ints D)) ∧ Below w.heap.size w w') := by
    have hWn := alloc_new w (.cells #[.slice (some ⟨b, o, none⟩) k cp, .slice (some ⟨b, o + (k + 1), none⟩) (r.length - (k + 1)) (cp - (k + 1))] 38)
    have hbn := alloc_keep w (.cells #[.slice (some ⟨b, o, none⟩) k cp, .slice (some ⟨b, o + (k + 1), none⟩) (r.length - (k + 1)) (cp - (k + 1))] 38)
    have htot : tot [r.take k, r.drop (k + 1)] = nn := by rw [hnn, hD]; simp [tot, dropK]
    have hfl : [r.take k, r.drop (k + 1)].flatten = D := by rw [hD]; simp [dropK]
    obtain ⟨W, hW⟩ : ∃ W, W = w.alloc (.cells #[.slice (some ⟨b, o, none⟩) k cp, .slice (some ⟨b, o + (k + 1), none⟩) (r.length - (k + 1)) (cp - (k + 1))] 38) := ⟨_, rfl⟩
    rw [← hW] at hWn hbn ⊢
    have hvW : Sl B 3 W (.slice (some ⟨b, o, none⟩) r.length cp) (ints r) := hv.below hbn (Nat.le_refl _)
    have h := concat_any B [r.take k, r.drop (k + 1)] [.slice (some ⟨b, o, none⟩) k cp, .slice (some ⟨b, o + (k + 1), none⟩) (r.length - (k + 1)) (cp - (k + 1))] (.slice (some ⟨w.heap.size, 0, none⟩) 2 2) W.drew rfl ((sl_pair hWn).more (Nat.zero_le _)) (fun i hi => by
        have : i = 0 ∨ i = 1 := by simp at hi; omega
        rcases this with rfl | rfl
        · exact Sl.takeN hvW (by omega)
        · exact Sl.tailN hvW (by omega)) (fun i hi => by
        have : i = 0 ∨ i = 1 := by simp at hi; omega
        rcases this with rfl | rfl
        · exact ⟨_, _, _, rfl⟩
        · exact ⟨_, _, _, rfl⟩) (by simp) (by omega) (by omega)
    rw [htot, hfl] at h
    refine h.mono ?_
    rintro e w' ⟨u, rfl, h1, h2⟩
    obtain ⟨uo, uc, rfl⟩ := owns_form h1
    exact ⟨uo, uc, rfl, ⟨_, h1⟩, hbn.trans (Below.mono (w := W) (w' := w') (B := W.heap.size) ⟨h2.os, h2.tape, h2.output, h2.size, h2.block⟩ hbn.size)⟩
  have HPR : Hid (∀ uo uc w1, (∃ l, w1.ownsRow l 3 1 (.slice uo nn uc) nn (ints D)) → Below w.heap.size w w1 → Calls Tryz.prog 41 #[.slice uo nn uc] w1 fun e w' => ∃ po pc, e = .returned (.slice po nn pc) ∧ Sl 0 3 w' (.slice po nn pc) (ints (Lin.low D)) ∧ Below w.heap.size w w') := fun uo uc w1 ⟨l, h1⟩ h2 => by
    refine (primitive_own 0 D _ w1 (Sl.own h1) (by omega) (fun z hz => by have := hDb z hz; omega)).mono ?_
    rintro e w' ⟨u, rfl, h3, h4⟩
    rw [← hnn] at h3
    obtain ⟨po, pc, rfl⟩ := owns_form h3
    exact ⟨po, pc, rfl, Sl.own h3, h2.trans (h4.mono h2.size)⟩
  clear hv hR hrs hb hcc hD hDl hDb hnn
  go_enter Tryz.func40, Tryz.ntmps40
  go_wp2_with fail
  go_region_with (first | (go_at_call 42; refine HCC.out.mono ?_; rintro e w1 ⟨uo, uc, rfl, h1, h2⟩; have HH : Hid ((∃ l, w1.ownsRow l 3 1 (.slice uo nn uc) nn (ints D)) ∧ Below w.heap.size w w1) := ⟨h1, h2⟩; clear h1 h2) | (go_at_call 41; refine (HPR.out uo uc w1 HH.out.1 HH.out.2).mono ?_; rintro e w2 ⟨po, pc, rfl, h3, h4⟩; have HA : Hid (Sl 0 3 w2 (.slice po nn pc) (ints (Lin.low D)) ∧ Below w.heap.size w w2) := ⟨h3, h4⟩; clear h3 h4 HH))
  all_goals
    have HR2 : Hid (w2.heap[R]? = some (.cells #[ov] 22 (0, 0))) := (HA.out.2.block R (by omega)).trans HR.out
    have HRS2 : Hid (Fr M 38 3 w2 ov rs) := HRS.out.below HA.out.2 (Nat.le_refl _)
    have HBT : Hid (But M R w w2) := But.of_below (HA.out.2.mono hM)
    have hsz2 : M ≤ w2.heap.size := Nat.le_trans hM HA.out.2.size
    have hc2 : w2.cell? ⟨R, 0, none⟩ = some ov := by simp [World.cell?, HR2.out]
    have HSN : Hid (Calls Tryz.prog 43 #[.slice po nn pc] w2 fun e w' => e = .returned (.bool (sayB (Lin.low D))) ∧ w' = w2) := saysNothing_any 0 (Lin.low D) _ w2 HA.out.1 (by rw [HLL.out]; exact hn1)
    cases hsb : sayB (Lin.low D) with
    | true =>
      have HKE : Hid (rs ++ keepL k r = rs) := by show _ = _; rw [HKP.out, hsb]; simp
      rw [hsb] at HSN
      clear hsb hc2
      go_wp2_with (go_at_call 43; refine HSN.out.mono ?_; rintro e w' ⟨rfl, rfl⟩)
      go_end0
      exact ⟨rfl, ov, HR2.out, by rw [HKE.out]; exact HRS2.out, HBT.out⟩
    | false =>
      have HKE : Hid (rs ++ keepL k r = rs ++ [Lin.low D]) := by show _ = _; rw [HKP.out, hsb]; simp
      rw [hsb] at HSN
      obtain ⟨vs, g1, g2, g3⟩ := HRS2.out
      have G1 : Hid (vs.length = rs.length) := g1
      have G2 : Hid (w2.ownsRow M 38 1 ov rs.length vs) := g2
      have G3 : Hid (∀ i, i < rs.length → Sl 0 3 w2 (vs.getD i (.slice none 0 0)) (ints (rs.getD i []))) := g3
      obtain ⟨rvo, rvc, hrv⟩ := owns_form g2
      subst hrv
      clear g1 g2 g3 hsb
      go_wp2_with (first | (go_at_call 43; refine HSN.out.mono ?_; rintro e w' ⟨rfl, rfl⟩) | (at_builtin; refine wpList_append_own _ rfl _ _ 22 rfl M 38 i0 (.slice none 0 0) 1 24 Tryz.underlying22 hi hz0 hz1 hz2 rfl (by decide) _ _ _ rfl (G2.out.alloc _) ⟨_, 0, none⟩ 1 1 [.slice po nn pc] rfl rfl (one_new _ _ _) (one_slice _ _ _) ?d3 ?d4 ?d5 ?_))
      case d3 => unfold maxLen; omega
      case d4 => omega
      case d5 => simp; omega
      intro v' w3 ho hg _
      have R1 := Fr.push (e2 := 38) (e1 := 3) (m := rs) (u := .slice po nn pc) (zs := Lin.low D) (by decide) G1.out (G2.out.alloc _) (fun i hi => (G3.out i hi).alloc _) (HA.out.1.alloc _) ho hg
      have HB3 := ((Below.refl M _).alloc hsz2 _).grown hg (by simp; omega) (fun x hx => (G2.out.lt x hx).1)
      have HR3 : Hid (w3.heap[R]? = some (.cells #[.slice rvo rs.length rvc] 22 (0, 0))) := (HB3.block R hRM).trans HR2.out
      have hq1 : w3.cell? ⟨R, 0, none⟩ = some (.slice rvo rs.length rvc) := by simp [World.cell?, HR3.out]
      have hq2 : w3.frozen? ⟨R, 0, none⟩ = false := by simp [World.frozen?, HR3.out]
      obtain ⟨vo, vc, hv'⟩ := owns_form ho
      subst hv'
      have HRF : Hid (Fr M 38 3 (w3.setCell ⟨R, 0, none⟩ (.slice vo (rs.length + 1) vc)) (.slice vo (rs.length + 1) vc) (rs ++ [Lin.low D])) := R1.set hRM HR3.out (by decide)
      have HBF : Hid (But M R w (w3.setCell ⟨R, 0, none⟩ (.slice vo (rs.length + 1) vc))) := by
        have h := HBT.out
        refine But.setCell ⟨HB3.os.trans h.os, HB3.tape.trans h.tape, HB3.output.trans h.output, Nat.le_trans h.size HB3.size, fun b hb hne => (HB3.block b hb).trans (h.block b hb hne)⟩ _
      clear ho hg R1 HB3
      go_wp2
      go_end0
      exact ⟨rfl, _, set_one HR3.out, by rw [HKE.out]; exact HRF.out, HBF.out⟩

end Go.Proofs.YtknomkajibfmlaaGreat
