import Derived.Test.YtkdileeahbaobaaDoorGe0
/- facetref.MatroidFrom, of all sets of one size. -/
namespace Go.Proofs.YtkdileeahbaobaaDoor
open Go.RowKit
attribute [local go_sem ↓] Go.wp_at_zero Go.wp_at_succ

set_option maxRecDepth 100000 in
set_option maxHeartbeats 1600000 in
theorem from2_is (n : Nat) (kind : Int) (raw : List Int) (v : Value) (w : World) (hv : Sl w.heap.size 3 w v (ints raw)) (hr : ∀ z ∈ raw, In64 z) (hl : raw.length ≤ 256) (hn1 : 1 ≤ n) (hn : n ≤ 7) (HP0 : Hid (∀ W', Calls Tryd.prog 4 #[.int .i64 kind, .int .i64 3] W' fun e w' => e = .returned (.int .i64 2) ∧ w' = W')) :
    Calls Tryd.prog 5 #[v, .int .i64 0, .int .i64 kind, .int .i64 n] w fun e w' => ∃ u bs, e = .returned (.agg #[.int .i64 n, u]) ∧ Sl 0 3 w' u (ints bs) ∧ matE (n : Int) bs = 0 ∧ Below w.heap.size w w' := by
  obtain ⟨i3, hi3, hz30, hz31, hz32⟩ := info_parts Tryd.info3
  obtain ⟨i0, hi0, hz0, hz1, hz2⟩ := info_parts infoRow
  obtain ⟨lo, lc, hvv, hlc, hcm⟩ := sl_open hv
  subst hvv
  have HV : Hid (∀ W', Below w.heap.size w W' → Sl w.heap.size 3 W' (.slice lo raw.length lc) (ints raw)) := fun W' h => hv.below h (Nat.le_refl _)
  have HRA : Hid (∀ z ∈ raw, In64 z) := hr
  have HRW : Hid (∀ W' (i : Nat), Below w.heap.size w W' → i ≤ 1000 → Calls Tryd.prog 14 #[.slice lo raw.length lc, .int .i64 i] W' fun e w' => ∃ z, e = .returned (.int .i64 z) ∧ (0 ≤ z ∧ z ≤ 4611686018427387904) ∧ Below W'.heap.size W' w') := fun W' i h hi =>
    raw_any w.heap.size raw _ i W' (HV.out W' h) hr (by omega) (by omega)
  have HPK : Hid (∀ W' z (q : Nat), 0 ≤ z ∧ z ≤ 4611686018427387904 → 1 ≤ q → q ≤ 100 → ∃ a : Nat, a < q ∧ Calls Tryd.prog 4 #[.int .i64 z, .int .i64 q] W' fun e w' => e = .returned (.int .i64 a) ∧ w' = W') := fun W' z q hz hq hq2 => by
    obtain ⟨k1, k2⟩ := pickF_bd (c := z) (n := (q : Int)) (by omega)
    refine ⟨(pickF z q).toNat, by omega, ?_⟩
    rw [Int.toNat_of_nonneg k1]
    exact pick_val z q W' (by omega) (by omega) ⟨by omega, by omega⟩
  obtain ⟨W, hW⟩ : ∃ W, W = w.alloc (.cells #[.int .i64 0, .slice none 0 0] 25) := ⟨_, rfl⟩
  have HBA : Hid (Below w.heap.size w W) := by rw [hW]; exact (Below.refl _ _).alloc (Nat.le_refl _) _
  have HR0 : Hid (W.heap[w.heap.size]? = some (.cells #[.int .i64 0, .slice none 0 0] 25 (0, 0))) := by rw [hW]; exact heap_alloc_new w _
  have HWS : Hid (W.heap.size = w.heap.size + 1) := by rw [hW]; show _ = _; simp
  have HRES : Hid (∀ W', Below W.heap.size W W' → W'.heap[w.heap.size]? = some (.cells #[.int .i64 0, .slice none 0 0] 25 (0, 0)) ∧ Below w.heap.size w W') := fun W' h => ⟨(h.block _ (by rw [HWS.out]; omega)).trans HR0.out, HBA.out.trans (h.mono HBA.out.size)⟩
  clear hv hr
  go_enter Tryd.func5, Tryd.ntmps5
  go_wp2_with fail
  rw [← hW]
  clear hW
  refine (HP0.out W).mono ?_
  rintro e w1 ⟨rfl, hw1⟩
  subst hw1
  obtain ⟨tn, htn⟩ : ∃ tn : Nat, tn = 2 ^ n := ⟨_, rfl⟩
  have hti : (2 : Int) ^ n = (tn : Int) := by rw [htn]; simp
  have htl : tn ≤ 256 := by rw [htn]; exact show 2 ^ n ≤ 2 ^ 8 from Nat.pow_le_pow_right (by omega) (by omega)
  have hwt : IntKind.i64.wrap (tn : Int) = (tn : Int) := wrap_small (by omega)
  have q1 : IntKind.i64.wrap ((n : Int) + 1) = ((n + 1 : Nat) : Int) := wrap_small (a := n + 1) (by omega)
  have HTN : Hid (tn = 2 ^ n) := htn
  clear htn
  go_wp2_with fail
  refine (HRW.out w1 0 HBA.out (by omega)).mono ?_
  rintro e wr0 ⟨z, rfl, hz, hb0⟩
  obtain ⟨kk, hkk, hck⟩ := HPK.out wr0 z (n + 1) hz (by omega) (by omega)
  have HCK : Hid (Calls Tryd.prog 4 #[.int .i64 z, .int .i64 ((n + 1 : Nat) : Int)] wr0 fun e w' => e = .returned (.int .i64 kk) ∧ w' = wr0) := hck
  have HB0 : Hid (Below w1.heap.size w1 wr0) := hb0
  clear hck hb0
  rw [Int.natCast_add, Int.natCast_one] at q1 HCK
  go_wp2_with fail
  refine HCK.out.mono ?_
  rintro e wa ⟨rfl, hwa⟩
  subst hwa
  obtain ⟨hresA, hbwA⟩ := HRES.out wa HB0.out
  have hwz : w.heap.size < wa.heap.size := by have := HB0.out.size; rw [HWS.out] at this; omega
  have HI0 : Hid (GuI w wa n 0 (setsTo (fun s => szN s == kk) 0) (wa.alloc (.cells #[.int .i64 n, .slice none 0 0] 25))) := ⟨(Below.heap_alloc _ _ _ hwz).trans hresA, ⟨_, heap_alloc_new wa _, World.ownsRow_nil _ _ _ _, Nat.le_refl _⟩, hbwA.alloc (by omega) _, by simp⟩
  clear hresA hbwA
  go_wp2
  go_loopw [17] (fun x wr => ∃ k : Nat, k ≤ tn ∧ x = .int .i64 k ∧ GuI w wa n k (setsTo (fun s => szN s == kk) k) wr) (fun x _ => tn - (intOf x).toNat)
  case atStart => exact ⟨0, Nat.zero_le _, rfl, HI0.out⟩
  case round =>
    obtain ⟨k, hk, rfl, hgi⟩ := hrel
    have HGI : Hid (GuI w wa n k (setsTo (fun s => szN s == kk) k) wr) := hgi
    have HSC : Hid (setsTo (fun s => szN s == kk) (k + 1) = setsTo (fun s => szN s == kk) k ++ (if (szN k == kk) = true then [(k : Int)] else [])) := setsTo_succ _ k
    clear hgi
    by_cases hlt : k < tn
    · have kI : (k : Int) < (tn : Int) := by omega
      have HSZ : Hid (Calls Tryd.prog 7 #[.int .i64 k] wr fun e w' => e = .returned (.int .i64 (mem8 k).length) ∧ Below wr.heap.size wr w') := size8_any k wr (by omega)
      have HSX0 : Hid (szN k = (mem8 k).length) := rfl
      generalize (mem8 k).length = sx at *
      generalize setsTo (fun s => szN s == kk) k = xs at *
      go_wp2_with fail
      refine HSZ.out.mono ?_
      rintro e w3 ⟨rfl, hb3⟩
      obtain ⟨sv, hbox, hown, hxl⟩ := HGI.out.box
      have hsz0 := HGI.out.sz
      have hbox3 : w3.heap[wa.heap.size]? = some (.cells #[.int .i64 n, sv] 25 (0, 0)) := (hb3.block _ (by omega)).trans hbox
      have hown3 : w3.ownsRow (wa.heap.size + 1) 3 1 sv xs.length (ints xs) := by
        refine ⟨hown.1, ?_⟩
        rcases hown.2 with h1 | ⟨g, cap, cur, e1, h2, h3, h4⟩
        · exact .inl h1
        · exact .inr ⟨g, cap, cur, e1, h2, (hb3.block g (Array.getElem?_eq_some_iff.1 h3).1).trans h3, h4⟩
      have HG3 : Hid (GuI w wa n k xs w3) := ⟨(hb3.block _ (by omega)).trans HGI.out.res, ⟨sv, hbox3, hown3, hxl⟩, HGI.out.bel.trans (hb3.mono HGI.out.bel.size), Nat.le_trans hsz0 hb3.size⟩
      clear hb3 HGI hbox hown
      by_cases heq : (sx : Int) = (kk : Int)
      · have t1 : ((sx : Int) == (kk : Int)) = true := by rw [heq]; simp
        have hm1 : w3.cell? ⟨wa.heap.size, 1, none⟩ = some sv := by simp [World.cell?, hbox3]
        have HOW : Hid (w3.ownsRow (wa.heap.size + 1) 3 1 sv xs.length (ints xs)) := hown3
        have HBO : Hid (w3.heap[wa.heap.size]? = some (.cells #[.int .i64 n, sv] 25 (0, 0))) := hbox3
        have hszr : wa.heap.size + 1 ≤ w3.heap.size := HG3.out.sz
        have HS2 : Hid (setsTo (fun s => szN s == kk) (k + 1) = xs ++ [(k : Int)]) := by show _ = _; rw [HSC.out, HSX0.out, if_pos (by simp; omega)]
        clear hbox3 hown3 heq
        go_wp2_with (first | (at_builtin; refine wpList_append_own _ rfl _ _ 22 rfl (wa.heap.size + 1) 3 i3 (.int .i64 0) 1 8 Tryd.underlying22 hi3 hz30 hz31 hz32 rfl (by decide) _ _ _ rfl (HOW.out.alloc _) ⟨w3.heap.size, 0, none⟩ 1 1 [.int .i64 k] rfl rfl (one_new _ _ _) (one_int _) ?c3 ?c4 ?c5 ?_))
        case c3 => unfold maxLen; omega
        case c4 => omega
        case c5 => first | exact hszr | omega | (simp; omega)
        intro v' w5 ho5 hg5 _
        obtain ⟨g1, g2, g3⟩ := HG3.out.push HBO.out HOW.out hxl hwz ho5 hg5
        obtain ⟨vo, vc, hvv5⟩ := owns_form ho5
        subst hvv5
        have G3 : Hid (GuI w wa n (k + 1) (setsTo (fun s => szN s == kk) (k + 1)) (w5.setCell ⟨wa.heap.size, 1, none⟩ (.slice vo (xs.length + 1) vc))) := by rw [HS2.out]; exact g3
        clear g3 ho5 hg5
        go_wp2
        exact ⟨⟨k + 1, by omega, by go_num, G3.out⟩, by simp [intOf]; omega⟩
      · have t1 : ((sx : Int) == (kk : Int)) = false := by rw [beq_eq_false_iff_ne]; exact heq
        have HS2 : Hid (setsTo (fun s => szN s == kk) (k + 1) = xs) := by show _ = _; rw [HSC.out, HSX0.out, if_neg (by simp; omega), List.append_nil]
        have HG4 : Hid (GuI w wa n (k + 1) (setsTo (fun s => szN s == kk) (k + 1)) w3) := by rw [HS2.out]; exact ⟨HG3.out.res, ⟨sv, hbox3, hown3, by omega⟩, HG3.out.bel, HG3.out.sz⟩
        clear heq hbox3 hown3
        go_wp2
        exact ⟨⟨k + 1, by omega, by go_num, HG4.out⟩, by simp [intOf]; omega⟩
    · have hke : tn = k := by omega
      subst hke
      have HMT : Hid (matE (n : Int) (setsTo (fun s => szN s == kk) tn) = 0) := by rw [HTN.out]; exact uni_mat (by omega) (by omega)
      generalize setsTo (fun s => szN s == kk) tn = xs at *
      obtain ⟨sv, hbox, hown, hxl⟩ := HGI.out.box
      have m0 : wr.cell? ⟨wa.heap.size, 0, none⟩ = some (.int .i64 n) := by simp [World.cell?, hbox]
      have m1 : wr.cell? ⟨wa.heap.size, 1, none⟩ = some sv := by simp [World.cell?, hbox]
      have hres := HGI.out.res
      have r0 : wr.cell? ⟨w.heap.size, 0, none⟩ = some (.int .i64 0) := by simp [World.cell?, hres]
      have r1 : wr.cell? ⟨w.heap.size, 1, none⟩ = some (.slice none 0 0) := by simp [World.cell?, hres]
      have rf0 : wr.frozen? ⟨w.heap.size, 0, none⟩ = false := by simp [World.frozen?, hres]
      have rf1 : wr.frozen? ⟨w.heap.size, 1, none⟩ = false := by simp [World.frozen?, hres]
      obtain ⟨so, sc, rfl⟩ := owns_form hown
      obtain ⟨e1, e2⟩ := box_fin (N := n) hres (Sl.own hown) HGI.out.bel
      have HBX : Hid _ := e1
      have HSX : Hid _ := e2
      clear hbox hown hres e1 e2
      go_wp2
      exact bodyPost_ret (v := .agg #[.int .i64 n, .slice so xs.length sc]) (by simp [results, Tryd.results5, go_sem, *]) rfl ⟨_, xs, rfl, HSX.out, HMT.out, HBX.out⟩

end Go.Proofs.YtkdileeahbaobaaDoor

/- facetref.MatroidFrom, of columns. -/
namespace Go.Proofs.YtkdileeahbaobaaDoor
open Go.RowKit
attribute [local go_sem ↓] Go.wp_at_zero Go.wp_at_succ

theorem Rp.snoc {d p : Nat} {m : List (List Int)} {r : List Int} (h : Rp d p m) (h1 : r.length = d) (h2 : ∀ z ∈ r, 0 ≤ z ∧ z < (p : Int)) : Rp d p (m ++ [r]) := by
  intro x hx
  simp only [List.mem_append, List.mem_singleton] at hx
  rcases hx with hx | rfl
  · exact h x hx
  · exact ⟨h1, h2⟩

theorem low_snoc {p : Nat} {r : List Int} {z : Nat} (h : ∀ z ∈ r, 0 ≤ z ∧ z < (p : Int)) (h0 : z < p) : ∀ x ∈ r ++ [(z : Int)], 0 ≤ x ∧ x < (p : Int) := by
  intro x hx
  simp only [List.mem_append, List.mem_singleton] at hx
  rcases hx with hx | rfl
  · exact h x hx
  · exact ⟨by omega, by omega⟩

set_option maxRecDepth 100000 in
set_option maxHeartbeats 1600000 in
theorem from1_is (n : Nat) (kind : Int) (raw : List Int) (v : Value) (w : World) (hv : Sl w.heap.size 3 w v (ints raw)) (hr : ∀ z ∈ raw, In64 z) (hl : raw.length ≤ 256) (hn1 : 1 ≤ n) (hn : n ≤ 7) (HP0 : Hid (∀ W', Calls Tryd.prog 4 #[.int .i64 kind, .int .i64 3] W' fun e w' => e = .returned (.int .i64 1) ∧ w' = W')) :
    Calls Tryd.prog 5 #[v, .int .i64 0, .int .i64 kind, .int .i64 n] w fun e w' => ∃ u bs, e = .returned (.agg #[.int .i64 n, u]) ∧ Sl 0 3 w' u (ints bs) ∧ matE (n : Int) bs = 0 ∧ Below w.heap.size w w' := by
  obtain ⟨i3, hi3, hz30, hz31, hz32⟩ := info_parts Tryd.info3
  obtain ⟨i0, hi0, hz0, hz1, hz2⟩ := info_parts infoRow
  obtain ⟨lo, lc, hvv, hlc, hcm⟩ := sl_open hv
  subst hvv
  have HV : Hid (∀ W', Below w.heap.size w W' → Sl w.heap.size 3 W' (.slice lo raw.length lc) (ints raw)) := fun W' h => hv.below h (Nat.le_refl _)
  have HRA : Hid (∀ z ∈ raw, In64 z) := hr
  have HRW : Hid (∀ W' (i : Nat), Below w.heap.size w W' → i ≤ 1000 → Calls Tryd.prog 14 #[.slice lo raw.length lc, .int .i64 i] W' fun e w' => ∃ z, e = .returned (.int .i64 z) ∧ (0 ≤ z ∧ z ≤ 4611686018427387904) ∧ Below W'.heap.size W' w') := fun W' i h hi =>
    raw_any w.heap.size raw _ i W' (HV.out W' h) hr (by omega) (by omega)
  have HPK : Hid (∀ W' z (q : Nat), 0 ≤ z ∧ z ≤ 4611686018427387904 → 1 ≤ q → q ≤ 100 → ∃ a : Nat, a < q ∧ Calls Tryd.prog 4 #[.int .i64 z, .int .i64 q] W' fun e w' => e = .returned (.int .i64 a) ∧ w' = W') := fun W' z q hz hq hq2 => by
    obtain ⟨k1, k2⟩ := pickF_bd (c := z) (n := (q : Int)) (by omega)
    refine ⟨(pickF z q).toNat, by omega, ?_⟩
    rw [Int.toNat_of_nonneg k1]
    exact pick_val z q W' (by omega) (by omega) ⟨by omega, by omega⟩
  obtain ⟨W, hW⟩ : ∃ W, W = w.alloc (.cells #[.int .i64 0, .slice none 0 0] 25) := ⟨_, rfl⟩
  have HBA : Hid (Below w.heap.size w W) := by rw [hW]; exact (Below.refl _ _).alloc (Nat.le_refl _) _
  have HR0 : Hid (W.heap[w.heap.size]? = some (.cells #[.int .i64 0, .slice none 0 0] 25 (0, 0))) := by rw [hW]; exact heap_alloc_new w _
  have HWS : Hid (W.heap.size = w.heap.size + 1) := by rw [hW]; show _ = _; simp
  have HRES : Hid (∀ W', Below W.heap.size W W' → W'.heap[w.heap.size]? = some (.cells #[.int .i64 0, .slice none 0 0] 25 (0, 0)) ∧ Below w.heap.size w W') := fun W' h => ⟨(h.block _ (by rw [HWS.out]; omega)).trans HR0.out, HBA.out.trans (h.mono HBA.out.size)⟩
  clear hv hr
  go_enter Tryd.func5, Tryd.ntmps5
  go_wp2_with fail
  rw [← hW]
  clear hW
  refine (HP0.out W).mono ?_
  rintro e w1 ⟨rfl, hw1⟩
  subst hw1
  have HB1 : Hid (Below w1.heap.size w1 (w1.alloc (.cells #[.int .i64 2, .int .i64 3, .int .i64 5] 3))) := (Below.refl _ _).alloc (Nat.le_refl _) _
  have HA1 : Hid ((w1.alloc (.cells #[.int .i64 2, .int .i64 3, .int .i64 5] 3)).heap[w1.heap.size]? = some (.cells #[.int .i64 2, .int .i64 3, .int .i64 5] 3 (0, 0))) := heap_alloc_new w1 _
  go_wp2_with fail
  refine (HRW.out _ 0 (HBA.out.trans (HB1.out.mono HBA.out.size)) (by omega)).mono ?_
  rintro e w2 ⟨z, rfl, hz, hb2⟩
  obtain ⟨a, ha3, hca⟩ := HPK.out w2 z 3 hz (by omega) (by omega)
  have HCA : Hid (Calls Tryd.prog 4 #[.int .i64 z, .int .i64 3] w2 fun e w' => e = .returned (.int .i64 a) ∧ w' = w2) := hca
  have HB2 : Hid (Below w1.heap.size w1 w2) := HB1.out.trans (hb2.mono HB1.out.size)
  have HA2 : Hid (w2.heap[w1.heap.size]? = some (.cells #[.int .i64 2, .int .i64 3, .int .i64 5] 3 (0, 0))) := (hb2.block _ (by simp)).trans HA1.out
  clear hca hb2 HB1 HA1 hz
  go_wp2_with fail
  refine HCA.out.mono ?_
  rintro e w3 ⟨rfl, hw3⟩
  subst hw3
  obtain ⟨p, hp, hcp⟩ : ∃ p : Nat, (p = 2 ∨ p = 3 ∨ p = 5) ∧ w3.cell? ⟨w1.heap.size, a, none⟩ = some (.int .i64 p) := by
    have h := HA2.out
    have h3 : a = 0 ∨ a = 1 ∨ a = 2 := by omega
    rcases h3 with rfl | rfl | rfl
    · exact ⟨2, by omega, by simp [World.cell?, h]⟩
    · exact ⟨3, by omega, by simp [World.cell?, h]⟩
    · exact ⟨5, by omega, by simp [World.cell?, h]⟩
  have HPP : Hid (p = 2 ∨ p = 3 ∨ p = 5) := hp
  have hp2 : 2 ≤ p := by omega
  have hp5 : p ≤ 5 := by omega
  have ha3I : (a : Int) < 3 := by omega
  clear hp HCA HA2
  go_wp2_with fail
  refine (HRW.out w3 1 (HBA.out.trans (HB2.out.mono HBA.out.size)) (by omega)).mono ?_
  rintro e w4 ⟨z4, rfl, hz4, hb4⟩
  obtain ⟨d0, hd4, hcd⟩ := HPK.out w4 z4 4 hz4 (by omega) (by omega)
  have HCD : Hid (Calls Tryd.prog 4 #[.int .i64 z4, .int .i64 4] w4 fun e w' => e = .returned (.int .i64 d0) ∧ w' = w4) := hcd
  have HB4 : Hid (Below w1.heap.size w1 w4) := HB2.out.trans (hb4.mono HB2.out.size)
  clear hcd hb4 HB2 hz4
  go_wp2_with fail
  refine HCD.out.mono ?_
  rintro e wz ⟨rfl, hwz⟩
  subst hwz
  obtain ⟨d, hd⟩ : ∃ d : Nat, d = d0 + 1 := ⟨_, rfl⟩
  have qd : IntKind.i64.wrap (1 + (d0 : Int)) = (d : Int) := by
    rw [show (1 + (d0 : Int)) = (d : Int) by omega]; exact wrap_small (by omega)
  have hd1 : 1 ≤ d := by omega
  have hd4' : d ≤ 4 := by omega
  clear hd HCD
  go_wp2
  go_loopw [11, 12] (fun x i wr => ∃ (k : Nat) (m : List (List Int)), k ≤ n ∧ i = .int .i64 k ∧ m.length = k ∧ Rp d p m ∧ Fr wz.heap.size 22 3 wr x m ∧ Below wz.heap.size wz wr) (fun _ i _ => n - (intOf i).toNat)
  case atStart => exact ⟨0, [], Nat.zero_le _, rfl, rfl, (fun r hr => absurd hr (by simp)), Fr.nil _ _ _ _, Below.refl _ _⟩
  case round =>
    obtain ⟨k, m, hk, rfl, hml, hbx, hrw, hbel⟩ := hrel
    obtain ⟨wa, rfl⟩ : ∃ wa, wa = wr := ⟨wr, rfl⟩
    have HML : Hid (m.length = k) := hml
    have HBX : Hid (Rp d p m) := hbx
    have HROW : Hid (Fr wz.heap.size 22 3 wa u11 m) := hrw
    have HB : Hid (Below wz.heap.size wz wa) := hbel
    have hsz : wz.heap.size ≤ wa.heap.size := hbel.size
    clear hrw hbel hml hbx
    by_cases hlt : k < n
    · have hkI' : (k : Int) < (n : Int) := by omega
      obtain ⟨kn, hkne⟩ : ∃ kn, kn = k * d := ⟨_, rfl⟩
      have hkn : kn ≤ 28 := by rw [hkne]; exact Nat.le_trans (Nat.mul_le_mul (show k ≤ 7 by omega) hd4') (by decide)
      have hkI : (k : Int) * (d : Int) = (kn : Int) := by rw [hkne]; simp
      clear hkne
      obtain ⟨M, hM⟩ : ∃ M, M = wa.heap.size := ⟨_, rfl⟩
      have HM : Hid (M = wa.heap.size) := hM
      have hMs : wz.heap.size ≤ M := by omega
      clear hM
      go_wp2
      go_loopw [13, 14] (fun x i wq => ∃ (j : Nat) (r : List Int), j ≤ d ∧ i = .int .i64 j ∧ r.length = j ∧ (∀ z ∈ r, 0 ≤ z ∧ z < (p : Int)) ∧ wq.ownsRow M 3 1 x j (ints r) ∧ Below M wa wq) (fun _ i _ => d - (intOf i).toNat)
      case atStart => exact ⟨0, [], Nat.zero_le _, rfl, rfl, (fun r hr => absurd hr (by simp)), World.ownsRow_nil _ _ _ _, Below.refl _ _⟩
      case round =>
        obtain ⟨j, r, hj, rfl, hrl, hrb, hown, hbel⟩ := hrel
        obtain ⟨wb, rfl⟩ : ∃ wb, wb = wr := ⟨wr, rfl⟩
        have HO : Hid (wb.ownsRow M 3 1 u13 j (ints r)) := hown
        have HBq : Hid (Below M wa wb) := hbel
        have HRL : Hid (r.length = j) := hrl
        have HRB : Hid (∀ z ∈ r, 0 ≤ z ∧ z < (p : Int)) := hrb
        have hszq : M ≤ wb.heap.size := by have := hbel.size; rw [HM.out]; exact this
        clear hown hbel hrl hrb
        obtain ⟨xo, xc, hxv⟩ := owns_form HO.out
        subst hxv
        by_cases hjl : j < d
        · have hjI : (j : Int) < (d : Int) := by omega
          have HWB : Hid (Below w.heap.size w wb) := HBA.out.trans (((HB4.out.trans ((HB.out.trans (HBq.out.mono hMs)).mono HB4.out.size))).mono HBA.out.size)
          have HIX : Hid ((2 : Int) + kn + j = ((2 + kn + j : Nat) : Int)) := by
            show _ = _
            omega
          go_wp2_with fail
          rw [HIX.out]
          refine (HRW.out wb (2 + kn + j) HWB.out (by omega)).mono ?_
          rintro e w5 ⟨z5, rfl, hz5, hb5⟩
          obtain ⟨x5, hx5, hc5⟩ := HPK.out w5 z5 p hz5 (by omega) (by omega)
          have HC5 : Hid (Calls Tryd.prog 4 #[.int .i64 z5, .int .i64 p] w5 fun e w' => e = .returned (.int .i64 x5) ∧ w' = w5) := hc5
          have HB5 : Hid (Below wb.heap.size wb w5) := hb5
          clear hz5 hc5 hb5 HWB HIX
          go_wp2_with fail
          refine HC5.out.mono ?_
          rintro e w6 ⟨rfl, hw6⟩
          subst hw6
          have HO1 : Hid (w6.ownsRow M 3 1 (.slice xo j xc) j (ints r)) := owns_below HO.out HB5.out (Nat.le_refl _)
          have HBq1 : Hid (Below M wa w6) := HBq.out.trans (HB5.out.mono hszq)
          have hsz2 : M ≤ w6.heap.size := Nat.le_trans hszq HB5.out.size
          clear HO HBq HB5 HC5
          go_wp2_with (first | (at_builtin; refine wpList_append_own _ rfl _ _ 22 rfl M 3 i3 (.int .i64 0) 1 8 Tryd.underlying22 hi3 hz30 hz31 hz32 rfl (by decide) _ _ _ rfl (HO1.out.alloc _) ⟨w6.heap.size, 0, none⟩ 1 1 [.int .i64 x5] rfl rfl (one_new _ _ _) (one_int _) ?c3 ?c4 ?c5 ?_))
          case c3 => unfold maxLen; omega
          case c4 => omega
          case c5 => simp; omega
          intro v' w7 ho hg _
          have R := owns_push (z := (x5 : Int)) (N := j + 1) hsz2 (l := r) (by rw [HRL.out]; exact HO1.out) HBq1.out (by rw [HRL.out]; exact ho) hg (by rw [HRL.out])
          have R1 : Hid (w7.ownsRow M 3 1 v' (j + 1) (ints (r ++ [(x5 : Int)]))) := R.1
          have R2 : Hid (Below M wa w7) := R.2
          clear R ho hg
          go_wp2
          go_roundw
          case rel => exact ⟨j + 1, r ++ [(x5 : Int)], by omega, by go_num, by simp [HRL.out], low_snoc HRB.out hx5, R1.out, R2.out⟩
          case measure => simp [intOf]; omega
        · have hjn : d = j := by omega
          subst hjn
          have HX : Hid (Sl 0 3 wb (.slice xo d xc) (ints r)) := Sl.own HO.out
          have HRq : Hid (Fr wz.heap.size 22 3 wb u11 m) := HROW.out.below HBq.out (by rw [HM.out]; exact Nat.le_refl _)
          have HBw : Hid (Below wz.heap.size wz wb) := HB.out.trans (HBq.out.mono hMs)
          obtain ⟨vs, g1, g2, g3⟩ := HRq.out
          have hml := HML.out
          rw [hml] at g1 g2 g3
          have G1 : Hid (vs.length = k) := g1
          have G2 : Hid (wb.ownsRow wz.heap.size 22 1 u11 k vs) := g2
          have G3 : Hid (∀ i, i < k → Sl 0 3 wb (vs.getD i (.slice none 0 0)) (ints (m.getD i []))) := g3
          clear g1 g2 g3 hml HO hjl
          go_wp2_with (first | (at_builtin; refine wpList_append_own _ rfl _ _ 42 rfl wz.heap.size 22 i0 (.slice none 0 0) 1 24 Tryd.underlying42 hi0 hz0 hz1 hz2 rfl (by decide) _ _ _ rfl (G2.out.alloc _) ⟨wb.heap.size, 0, none⟩ 1 1 [.slice xo d xc] rfl rfl (one_new _ _ _) (one_slice _ _ _) ?d3 ?d4 ?d5 ?_))
          case d3 => unfold maxLen; omega
          case d4 => omega
          case d5 => simp; omega
          intro v' w7 ho hg _
          have R1 : Hid (Fr wz.heap.size 22 3 w7 v' (m ++ [r])) :=
            Fr.push (e2 := 22) (e1 := 3) (m := m) (u := .slice xo d xc) (zs := r) (by decide) (by rw [HML.out]; exact G1.out) (by rw [HML.out]; exact G2.out.alloc _)
              (fun i hi => (G3.out i (by rw [HML.out] at hi; exact hi)).alloc _) (HX.out.alloc _) (by rw [HML.out]; exact ho) hg
          have R2 : Hid (Below wz.heap.size wz w7) := (HBw.out.alloc (by omega) _).grown hg (by simp; omega) (fun x hx => (G2.out.lt x hx).1)
          clear ho hg
          go_wp2
          go_roundw
          case rel => exact ⟨k + 1, m ++ [r], by omega, by go_num, by simp [HML.out], HBX.out.snoc HRL.out HRB.out, R1.out, R2.out⟩
          case measure => simp [intOf]; omega
    · have hkm : n = k := by omega
      subst hkm
      clear hlt
      have HVO : Hid (Calls Tryd.prog 15 #[.int .i64 p, u11] wa fun e w' => ∃ u, e = .returned (.agg #[.int .i64 n, u]) ∧ Sl 0 3 w' u (ints (greL (setsTo (fvE p d m) (2 ^ m.length)))) ∧ Below wa.heap.size wa w') := by
        have h := vectorsOf_is p d wz.heap.size (by have := HPP.out; omega) hd1 (by omega) m u11 wa (by rw [HML.out]; omega) HBX.out (HROW.out.rws.mat (Nat.le_refl _)) hsz
        rw [HML.out] at h ⊢
        exact h
      have HMT : Hid (matE (n : Int) (greL (setsTo (fvE p d m) (2 ^ m.length))) = 0) := by
        have h := (vec_grw (q := p) (d := d) (m := m) (by have := HPP.out; omega) (by rw [HML.out]; omega)).mat (by rw [HML.out]; omega)
        rw [HML.out] at h ⊢
        exact h
      generalize greL (setsTo (fvE p d m) (2 ^ m.length)) = ys at *
      clear HROW HBX HML
      go_wp2_with fail
      refine HVO.out.mono ?_
      rintro e w5 ⟨u2, rfl, hs5, hb5⟩
      obtain ⟨hres, hbw⟩ := HRES.out w5 (HB4.out.trans ((HB.out.trans (hb5.mono hsz)).mono HB4.out.size))
      obtain ⟨yo, yc, hyv, _, _⟩ := sl_open hs5
      subst hyv
      obtain ⟨e1, e2⟩ := box_fin (N := n) hres hs5 hbw
      have HBX : Hid _ := e1
      have HSX : Hid _ := e2
      have r0 : w5.cell? ⟨w.heap.size, 0, none⟩ = some (.int .i64 0) := by simp [World.cell?, hres]
      have r1 : w5.cell? ⟨w.heap.size, 1, none⟩ = some (.slice none 0 0) := by simp [World.cell?, hres]
      have rf0 : w5.frozen? ⟨w.heap.size, 0, none⟩ = false := by simp [World.frozen?, hres]
      have rf1 : w5.frozen? ⟨w.heap.size, 1, none⟩ = false := by simp [World.frozen?, hres]
      clear hs5 hb5 hres hbw e1 e2
      go_wp2
      exact bodyPost_ret (v := .agg #[.int .i64 n, .slice yo ys.length yc]) (by simp [results, Tryd.results5, go_sem, *]) rfl ⟨_, ys, rfl, HSX.out, HMT.out, HBX.out⟩

end Go.Proofs.YtkdileeahbaobaaDoor
