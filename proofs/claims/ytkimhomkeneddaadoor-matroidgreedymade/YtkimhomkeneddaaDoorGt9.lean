/- facetref.MatroidFrom, branch 2. -/
import Derived.Test.YtkimhomkeneddaaDoorGt7
namespace Go.Proofs.YtkimhomkeneddaaDoor
open Go.RowKit
attribute [local go_sem ↓] Go.wp_at_zero Go.wp_at_succ

set_option maxRecDepth 100000 in
set_option maxHeartbeats 1600000 in
theorem from_2 (n : Nat) (kind : Int) (raw : List Int) (v : Value) (w : World) (hv : Sl w.heap.size 3 w v (ints raw)) (hr : ∀ z ∈ raw, In64 z) (hl : raw.length ≤ 256) (hn1 : 1 ≤ n) (hn : n ≤ 7) (HP0 : Hid (∀ W', Calls Tryd.prog 8 #[.int .i64 kind, .int .i64 3] W' fun e w' => e = .returned (.int .i64 2) ∧ w' = W')) :
    Calls Tryd.prog 10 #[v, .int .i64 0, .int .i64 kind, .int .i64 n] w fun e w' => ∃ N u xs, e = .returned (.agg #[.int .i64 N, u]) ∧ Sl 0 3 w' u (ints xs) ∧ Below w.heap.size w w' := by
  obtain ⟨i3, hi3, hz30, hz31, hz32⟩ := info_parts Tryd.info3
  obtain ⟨i0, hi0, hz0, hz1, hz2⟩ := info_parts infoRow
  obtain ⟨lo, lc, hvv, hlc, hcm⟩ := sl_open hv
  subst hvv
  have HV : Hid (∀ W', Below w.heap.size w W' → Sl w.heap.size 3 W' (.slice lo raw.length lc) (ints raw)) := fun W' h => hv.below h (Nat.le_refl _)
  have HRA : Hid (∀ z ∈ raw, In64 z) := hr
  have HRW : Hid (∀ W' (i : Nat), Below w.heap.size w W' → i ≤ 1000 → Calls Tryd.prog 9 #[.slice lo raw.length lc, .int .i64 i] W' fun e w' => ∃ z, e = .returned (.int .i64 z) ∧ (0 ≤ z ∧ z ≤ 4611686018427387904) ∧ Below W'.heap.size W' w') := fun W' i h hi =>
    raw_any w.heap.size raw _ i W' (HV.out W' h) hr (by omega) (by omega)
  have HPK : Hid (∀ W' z (q : Nat), 0 ≤ z ∧ z ≤ 4611686018427387904 → 1 ≤ q → q ≤ 100 → ∃ a : Nat, a < q ∧ Calls Tryd.prog 8 #[.int .i64 z, .int .i64 q] W' fun e w' => e = .returned (.int .i64 a) ∧ w' = W') := fun W' z q hz hq hq2 => by
    obtain ⟨k1, k2⟩ := pickF_bd (c := z) (n := (q : Int)) (by omega)
    refine ⟨(pickF z q).toNat, by omega, ?_⟩
    rw [Int.toNat_of_nonneg k1]
    exact pick_val z q W' (by omega) (by omega) ⟨by omega, by omega⟩
  obtain ⟨W, hW⟩ : ∃ W, W = w.alloc (.cells #[.int .i64 0, .slice none 0 0] 24) := ⟨_, rfl⟩
  have HBA : Hid (Below w.heap.size w W) := by rw [hW]; exact (Below.refl _ _).alloc (Nat.le_refl _) _
  have HR0 : Hid (W.heap[w.heap.size]? = some (.cells #[.int .i64 0, .slice none 0 0] 24 (0, 0))) := by rw [hW]; exact heap_alloc_new w _
  have HWS : Hid (W.heap.size = w.heap.size + 1) := by rw [hW]; show _ = _; simp
  have HRES : Hid (∀ W', Below W.heap.size W W' → W'.heap[w.heap.size]? = some (.cells #[.int .i64 0, .slice none 0 0] 24 (0, 0)) ∧ Below w.heap.size w W') := fun W' h => ⟨(h.block _ (by rw [HWS.out]; omega)).trans HR0.out, HBA.out.trans (h.mono HBA.out.size)⟩
  clear hv hr
  go_enter Tryd.func10, Tryd.ntmps10
  go_wp2_with fail
  rw [← hW]
  clear hW
  refine (HP0.out W).mono ?_
  rintro e w1 ⟨rfl, hw1⟩
  subst hw1
  obtain ⟨tn, htn⟩ : ∃ tn : Nat, tn = 2 ^ n := ⟨_, rfl⟩
  have hti : (2 : Int) ^ n = (tn : Int) := by rw [htn]; simp
  have htl : tn ≤ 256 := by rw [htn]; exact show 2 ^ n ≤ 2 ^ 8 from Nat.pow_le_pow_right (by omega) (by omega)
  have hwt : IntKind.i64.wrap (tn : Int) = (tn : Int) := wrap_small (by omega)
  have q1 : IntKind.i64.wrap ((n : Int) + 1) = ((n + 1 : Nat) : Int) := wrap_small (a := n + 1) (by omega)
  clear htn
  go_wp2_with fail
  refine (HRW.out w1 0 HBA.out (by omega)).mono ?_
  rintro e wr0 ⟨z, rfl, hz, hb0⟩
  obtain ⟨kk, hkk, hck⟩ := HPK.out wr0 z (n + 1) hz (by omega) (by omega)
  have HCK : Hid (Calls Tryd.prog 8 #[.int .i64 z, .int .i64 ((n + 1 : Nat) : Int)] wr0 fun e w' => e = .returned (.int .i64 kk) ∧ w' = wr0) := hck
  have HB0 : Hid (Below w1.heap.size w1 wr0) := hb0
  clear hck hb0
  rw [Int.natCast_add, Int.natCast_one] at q1 HCK
  go_wp2_with fail
  refine HCK.out.mono ?_
  rintro e wa ⟨rfl, hwa⟩
  subst hwa
  obtain ⟨hresA, hbwA⟩ := HRES.out wa HB0.out
  have hwz : w.heap.size < wa.heap.size := by have := HB0.out.size; rw [HWS.out] at this; omega
  have HI0 : Hid (GtI w wa n 0 (wa.alloc (.cells #[.int .i64 n, .slice none 0 0] 24))) := ⟨(Below.heap_alloc _ _ _ hwz).trans hresA, ⟨_, [], heap_alloc_new wa _, World.ownsRow_nil _ _ _ _, Nat.le_refl _⟩, hbwA.alloc (by omega) _, by simp⟩
  clear hresA hbwA
  go_wp2
  go_loopw [17] (fun x wr => ∃ k : Nat, k ≤ tn ∧ x = .int .i64 k ∧ GtI w wa n k wr) (fun x _ => tn - (intOf x).toNat)
  case atStart => exact ⟨0, Nat.zero_le _, rfl, HI0.out⟩
  case round =>
    obtain ⟨k, hk, rfl, hgi⟩ := hrel
    have HGI : Hid (GtI w wa n k wr) := hgi
    clear hgi
    by_cases hlt : k < tn
    · have kI : (k : Int) < (tn : Int) := by omega
      have HSZ : Hid (Calls Tryd.prog 22 #[.int .i64 k] wr fun e w' => e = .returned (.int .i64 (mem8 k).length) ∧ Below wr.heap.size wr w') := size8_any k wr (by omega)
      generalize (mem8 k).length = sx at *
      go_wp2_with fail
      refine HSZ.out.mono ?_
      rintro e w3 ⟨rfl, hb3⟩
      obtain ⟨sv, xs, hbox, hown, hxl⟩ := HGI.out.box
      have hsz0 := HGI.out.sz
      have hbox3 : w3.heap[wa.heap.size]? = some (.cells #[.int .i64 n, sv] 24 (0, 0)) := (hb3.block _ (by omega)).trans hbox
      have hown3 : w3.ownsRow (wa.heap.size + 1) 3 1 sv xs.length (ints xs) := by
        refine ⟨hown.1, ?_⟩
        rcases hown.2 with h1 | ⟨g, cap, cur, e1, h2, h3, h4⟩
        · exact .inl h1
        · exact .inr ⟨g, cap, cur, e1, h2, (hb3.block g (Array.getElem?_eq_some_iff.1 h3).1).trans h3, h4⟩
      have HG3 : Hid (GtI w wa n k w3) := ⟨(hb3.block _ (by omega)).trans HGI.out.res, ⟨sv, xs, hbox3, hown3, hxl⟩, HGI.out.bel.trans (hb3.mono HGI.out.bel.size), Nat.le_trans hsz0 hb3.size⟩
      clear hb3 HGI hbox hown
      by_cases heq : (sx : Int) = (kk : Int)
      · have t1 : ((sx : Int) == (kk : Int)) = true := by rw [heq]; simp
        have hm1 : w3.cell? ⟨wa.heap.size, 1, none⟩ = some sv := by simp [World.cell?, hbox3]
        have HOW : Hid (w3.ownsRow (wa.heap.size + 1) 3 1 sv xs.length (ints xs)) := hown3
        have HBO : Hid (w3.heap[wa.heap.size]? = some (.cells #[.int .i64 n, sv] 24 (0, 0))) := hbox3
        have hszr : wa.heap.size + 1 ≤ w3.heap.size := HG3.out.sz
        clear hbox3 hown3 heq
        go_wp2_with (first | (at_builtin; refine wpList_append_own _ rfl _ _ 22 rfl (wa.heap.size + 1) 3 i3 (.int .i64 0) 1 8 Tryd.underlying22 hi3 hz30 hz31 hz32 rfl (by decide) _ _ _ rfl (HOW.out.alloc _) ⟨w3.heap.size, 0, none⟩ 1 1 [.int .i64 k] rfl rfl (one_new _ _ _) (one_int _) ?c3 ?c4 ?c5 ?_))
        case c3 => unfold maxLen; omega
        case c4 => omega
        case c5 => first | exact hszr | omega | (simp; omega)
        intro v' w5 ho5 hg5 _
        obtain ⟨g1, g2, g3⟩ := HG3.out.push HBO.out HOW.out hxl hwz ho5 hg5
        obtain ⟨vo, vc, hvv5⟩ := owns_form ho5
        subst hvv5
        have G3 : Hid (GtI w wa n (k + 1) (w5.setCell ⟨wa.heap.size, 1, none⟩ (.slice vo (xs.length + 1) vc))) := g3
        clear g3 ho5 hg5
        go_wp2
        exact ⟨⟨k + 1, by omega, by go_num, G3.out⟩, by simp [intOf]; omega⟩
      · have t1 : ((sx : Int) == (kk : Int)) = false := by rw [beq_eq_false_iff_ne]; exact heq
        have HG4 : Hid (GtI w wa n (k + 1) w3) := ⟨HG3.out.res, ⟨sv, xs, hbox3, hown3, by omega⟩, HG3.out.bel, HG3.out.sz⟩
        clear heq hbox3 hown3
        go_wp2
        exact ⟨⟨k + 1, by omega, by go_num, HG4.out⟩, by simp [intOf]; omega⟩
    · have hke : tn = k := by omega
      subst hke
      obtain ⟨sv, xs, hbox, hown, hxl⟩ := HGI.out.box
      have m0 : wr.cell? ⟨wa.heap.size, 0, none⟩ = some (.int .i64 n) := by simp [World.cell?, hbox]
      have m1 : wr.cell? ⟨wa.heap.size, 1, none⟩ = some sv := by simp [World.cell?, hbox]
      have hres := HGI.out.res
      have r0 : wr.cell? ⟨w.heap.size, 0, none⟩ = some (.int .i64 0) := by simp [World.cell?, hres]
      have r1 : wr.cell? ⟨w.heap.size, 1, none⟩ = some (.slice none 0 0) := by simp [World.cell?, hres]
      have rf0 : wr.frozen? ⟨w.heap.size, 0, none⟩ = false := by simp [World.frozen?, hres]
      have rf1 : wr.frozen? ⟨w.heap.size, 1, none⟩ = false := by simp [World.frozen?, hres]
      obtain ⟨so, sc, rfl⟩ := owns_form hown
      obtain ⟨e1, e2⟩ := box_fin (N := n) hres (Sl.own hown) HGI.out.bel
      have HBX : Hid _ := e1
      have HSX : Hid _ := e2
      clear hbox hown hres e1 e2
      go_wp2
      exact bodyPost_ret (v := .agg #[.int .i64 n, .slice so xs.length sc]) (by simp [results, Tryd.results10, go_sem, *]) rfl ⟨_, _, xs, rfl, HSX.out, HBX.out⟩

end Go.Proofs.YtkimhomkeneddaaDoor
