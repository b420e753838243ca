/- facetref.PlanesOf: its planes may be. -/
import Derived.Test.YtgfnmkenpgnllaaGreatSg5
import Derived.Test.YtgfnmkenpgnllaaGreatCut1
namespace Go.Proofs.YtgfnmkenpgnllaaGreat
open Go.RowKit Lin
attribute [local go_sem ↓] Go.wp_at_zero Go.wp_at_succ

theorem pick_ne {d j : Nat} {p : List Int} (hj : j < d) (h : p.getD j 0 ≠ 0) : (pickL d [p]).length ≠ 0 := by
  intro h0
  have hg := pick_greedy d [p]
  have hn : pickL d [p] = [] := List.length_eq_zero_iff.1 h0
  rw [hn] at hg
  obtain ⟨e, l, he, hd⟩ := hg.dep (fun i => p.getD i 0) (by simp [fm])
  have := hd j hj
  have hz : comb (fm ([] : List (List Int))).length l (row (fm [])) j = 0 := by simp [fm, comb, sumN]
  rw [hz] at this
  rcases Int.mul_eq_zero.1 this with q | q
  · exact he q
  · exact h q

theorem SlN.put {B : Nat} {w : World} {b o n c : Nat} {p : List Int} (h : SlN B w (.slice (some ⟨b, o, none⟩) n c) (ints p)) {k : Nat} (hk : k < p.length) (z : Int) :
    (∃ q, w.cell? ⟨b, o + k, none⟩ = some q) ∧ w.frozen? ⟨b, o + k, none⟩ = false ∧ B ≤ b ∧ SlN B (w.setCell ⟨b, o + k, none⟩ (.int .i64 z)) (.slice (some ⟨b, o, none⟩) n c) (ints (p.set k z)) := by
  obtain ⟨⟨ao, cap, e, h1, h2, h3, h4⟩, h5⟩ := h
  have hB := h5 b o n c rfl
  simp only [Value.slice.injEq] at e
  obtain ⟨rfl, rfl, rfl⟩ := e
  obtain ⟨b', o', e', hc, ht⟩ := h3 k (by simpa using hk)
  simp only [Option.some.injEq, Addr.mk.injEq] at e'
  obtain ⟨rfl, rfl, _⟩ := e'
  obtain ⟨cur, hcur⟩ : ∃ cur, w.heap[b]? = some (.cells cur 3 (0, 0)) := by
    rcases ht with ht | ht
    · omega
    · exact ht
  have hcell : ∀ i, i < p.length → cur[o + i]? = some (.int .i64 (p.getD i 0)) := fun i hi => by
    obtain ⟨b2, o2, e2, hc2, _⟩ := h3 i (by simpa using hi)
    simp only [Option.some.injEq, Addr.mk.injEq] at e2
    obtain ⟨rfl, rfl, _⟩ := e2
    rw [ints_get _ _ hi] at hc2
    simpa [World.cell?, hcur] using hc2
  have hlt : o + k < cur.size := (Array.getElem?_eq_some_iff.1 (hcell k hk)).1
  have hset : (w.setCell ⟨b, o + k, none⟩ (.int .i64 z)).heap[b]? = some (.cells (cur.setIfInBounds (o + k) (.int .i64 z)) 3 (0, 0)) := by simp [World.setCell, Array.getElem?_modify, hcur]
  refine ⟨⟨_, by simpa [World.cell?, hcur] using hcell k hk⟩, by simp [World.frozen?, hcur], hB, ⟨some ⟨b, o, none⟩, c, by simp, by simpa using h1, h2, fun i hi => ⟨b, o, rfl, ?_, .inr ⟨_, hset⟩⟩, fun e => by cases e⟩, h5⟩
  have hi' : i < p.length := by simpa using hi
  rw [ints_get _ _ (by simpa using hi')]
  have : (w.setCell ⟨b, o + k, none⟩ (.int .i64 z)).cell? ⟨b, o + i, none⟩ = (cur.setIfInBounds (o + k) (.int .i64 z))[o + i]? := by simp [World.cell?, hset]
  rw [this]
  by_cases e : i = k
  · subst e
    simp [hlt, hi']
  · rw [Array.getElem?_setIfInBounds_ne (by omega), hcell i hi']
    simp [List.getD_eq_getElem?_getD, List.getElem?_set_ne (Ne.symm e)]

/-- As many of the first planes are others. -/
def othB (d : Nat) (p : List Int) (P : List (List Int)) (k : Nat) : Bool := (List.range k).all fun i => (pickL (d + 1) [p, P.getD i []]).length == 2

theorem othB_succ (d : Nat) (p : List Int) (P : List (List Int)) (k : Nat) : othB d p P (k + 1) = (othB d p P k && ((pickL (d + 1) [p, P.getD k []]).length == 2)) := by
  simp [othB, List.range_succ]

theorem PlG.nil (d : Nat) : PlG d [] := ⟨fun p hp => absurd hp (by simp), fun p hp => absurd hp (by simp), fun i k _ hk => absurd hk (by simp)⟩

theorem PlG.push {d : Nat} {P : List (List Int)} {p : List Int} (h : PlG d P) (hp : p.length = d + 1 ∧ ∀ z ∈ p, z.natAbs ≤ 20) (h1 : (pickL d [p]).length ≠ 0) (h2 : othB d p P P.length = true) : PlG d (P ++ [p]) := by
  refine ⟨fun q hq => ?_, fun q hq => ?_, fun i k hik hk => ?_⟩
  · rcases List.mem_append.1 hq with hq | hq
    · exact h.row q hq
    · simp only [List.mem_singleton] at hq; subst hq; exact hp
  · rcases List.mem_append.1 hq with hq | hq
    · exact h.one q hq
    · simp only [List.mem_singleton] at hq; subst hq; exact h1
  · simp only [List.length_append, List.length_cons, List.length_nil] at hk
    rw [getD_snoc, getD_snoc, if_pos (by omega : i < P.length)]
    by_cases hkl : k < P.length
    · rw [if_pos hkl]
      exact h.two i k hik hkl
    · rw [if_neg hkl, if_pos (by omega)]
      have := List.all_eq_true.1 h2 i (List.mem_range.2 (by omega))
      have e2 : (pickL (d + 1) [p, P.getD i []]).length = 2 := eq_of_beq this
      rw [e2]; decide

/-- Planes of small numbers. -/
def P3 (P : List (List Int)) : Prop := ∀ p ∈ P, ∀ z ∈ p, z.natAbs ≤ 3

set_option maxRecDepth 100000 in
set_option maxHeartbeats 3200000 in
theorem planesOf3_any (B : Nat) (l : List Int) (d many : Nat) (v : Value) (w : World) (hv : Sl B 3 w v (ints l)) (hr : ∀ z ∈ l, In64 z) (hl : l.length ≤ 1000000) (hd1 : 1 ≤ d) (hd3 : d ≤ 3) (hm : many ≤ 6) :
    Calls Tryz.prog 6 #[v, .int .i64 d, .int .i64 many] w fun e w' => ∃ uo uc P, e = .returned (.slice uo P.length uc) ∧ Mat 0 22 3 w' (.slice uo P.length uc) P ∧ P.length ≤ many ∧ (PlG d P ∧ P3 P) ∧ Below w.heap.size w w' := by
  obtain ⟨i0, hi0, hz0, hz1, hz2⟩ := info_parts infoSlC
  obtain ⟨vo, vc, rfl, hvc, hvm⟩ := sl_open hv
  have HP : Hid (∀ (k : Nat) (X : World), k ≤ 6 → Below w.heap.size w X → Calls Tryz.prog 22 #[.slice vo l.length vc, .int .i64 ((k : Int) * ((d : Int) + 1)), .int .i64 ((d : Int) + 1), .int .i64 1, .int .i64 3] X fun e w' => ∃ g gc b o c p, e = .returned (.slice (some ⟨g, 0, none⟩) 1 gc) ∧ w'.cell? ⟨g, 0, none⟩ = some (.slice (some ⟨b, o, none⟩) (d + 1) c) ∧ SlN X.heap.size w' (.slice (some ⟨b, o, none⟩) (d + 1) c) (ints p) ∧ p.length = d + 1 ∧ (∀ z ∈ p, z.natAbs ≤ 3) ∧ Below X.heap.size X w') := fun k X hk hX => by
    have e1 : (k : Int) * ((d : Int) + 1) = ((k * (d + 1) : Nat) : Int) := by simp
    have e2 : ((d : Int) + 1) = ((d + 1 : Nat) : Int) := by simp
    rw [e1, e2]
    refine (pointsOf_new B l _ (k * (d + 1)) (d + 1) 1 3 X (hv.below hX (Nat.le_refl _)) hr (by omega) ?_ (by omega) (by decide) (by decide)).mono ?_
    · have := Nat.mul_le_mul hk (show d + 1 ≤ 4 by omega)
      omega
    · rintro e w' ⟨x, m, rfl, h1, h2, ⟨vs, h3, h4, h5⟩, h6⟩
      rw [h1] at h3 h4 h5
      obtain ⟨g, gc, rfl⟩ := own_some h4 (by decide)
      match m, h1 with
      | [p], _ =>
        obtain ⟨hpl, hpb⟩ := h2 p (by simp)
        have hs := h5 0 (by decide)
        match vs, h3 with
        | [u], _ =>
          have hs : SlN X.heap.size w' u (ints p) := hs
          obtain ⟨uo, uc, hu, _, _⟩ := sl_open hs.1
          rw [hpl] at hu
          subst hu
          obtain ⟨b, o, rfl⟩ : ∃ b o, uo = some ⟨b, o, none⟩ := by
            obtain ⟨ao, cap, e1, _, _, h3, _⟩ := hs.1
            obtain ⟨b, o, e, _⟩ := h3 0 (by simp; omega)
            simp only [Value.slice.injEq] at e1
            exact ⟨b, o, e1.1.trans e⟩
          refine ⟨g, gc, b, o, uc, p, rfl, ?_, hs, hpl, fun z hz => by have := hpb z hz; omega, h6⟩
          obtain ⟨ao, cap, e1, _, _, h8, _⟩ := Sl.own (B := 0) h4
          obtain ⟨b2, o2, e2, h9, _⟩ := h8 0 (by simp)
          simp only [Value.slice.injEq] at e1
          have e3 := e1.1.trans e2
          simp only [Option.some.injEq, Addr.mk.injEq] at e3
          obtain ⟨rfl, rfl, _⟩ := e3
          simpa using h9
  have HRW : Hid (∀ (k : Nat) X, k ≤ 100 → Below w.heap.size w X → Calls Tryz.prog 23 #[.slice vo l.length vc, .int .i64 (k : Int)] X fun e w' => ∃ z, e = .returned (.int .i64 z) ∧ (0 ≤ z ∧ z ≤ 4611686018427387904) ∧ Below X.heap.size X w') := fun k X hk hX => raw_any B l _ k X (hv.below hX (Nat.le_refl _)) hr hl (by omega)
  have HPK : Hid (∀ (c : Int) (n : Nat) X, 1 ≤ n → n ≤ 3 → 0 ≤ c → c ≤ 4611686018427387904 → Calls Tryz.prog 4 #[.int .i64 c, .int .i64 (n : Int)] X fun e w' => ∃ z : Nat, e = .returned (.int .i64 (z : Int)) ∧ z < n ∧ w' = X) := fun c n X h1 h2 h3 h4 => by
    refine (pick_any c n X (by omega) (by omega) ⟨by omega, by omega⟩).mono ?_
    rintro e w' ⟨z, rfl, hz, hw⟩
    exact ⟨z.toNat, by rw [show ((z.toNat : Nat) : Int) = z by omega], by omega, hw⟩
  clear hv hr
  go_enter Tryz.func6, Tryz.ntmps6
  go_wp2
  go_loopw [7, 8] (fun x i wr => ∃ (k : Nat) (P : List (List Int)) (xo : Option Addr) (xc : Nat), k ≤ many ∧ i = .int .i64 (k : Int) ∧ P.length ≤ k ∧ (PlG d P ∧ P3 P) ∧ x = .slice xo P.length xc ∧ Fr w.heap.size 22 3 wr (.slice xo P.length xc) P ∧ Below w.heap.size w wr) (fun _ i _ => many - (intOf i).toNat)
  case atStart => exact ⟨0, [], none, 0, Nat.zero_le _, rfl, Nat.le_refl _, ⟨PlG.nil d, fun p hp => absurd hp (by simp)⟩, rfl, Fr.nil _ _ _ _, Below.refl _ _⟩
  case round =>
    obtain ⟨k, P, xo, xc, hk, rfl, hPk, hG, rfl, hfr, hb⟩ := hrel
    have HG : Hid (PlG d P) := hG.1
    have HG3 : Hid (P3 P) := hG.2
    have HB : Hid (Below w.heap.size w wr) := hb
    have HF : Hid (Fr w.heap.size 22 3 wr (.slice xo P.length xc) P) := hfr
    clear hG hb hfr
    by_cases hlt : k < many
    · obtain ⟨w0, rfl⟩ : ∃ w0, w0 = wr := ⟨wr, rfl⟩
      have hw1 : wrap64 ((k : Int) * ((d : Int) + 1)) = (k : Int) * ((d : Int) + 1) := by
        have h1 : k * (d + 1) ≤ 6 * 4 := Nat.mul_le_mul (by omega) (by omega)
        have h2 : ((k * (d + 1) : Nat) : Int) = (k : Int) * ((d : Int) + 1) := by simp
        exact IntWalk.wrap64_in _ ⟨by rw [← h2]; omega, by rw [← h2]; omega⟩
      have HW1 : Hid (wrap64 ((k : Int) * ((d : Int) + 1)) = (k : Int) * ((d : Int) + 1)) := hw1
      have hkI : (k : Int) < (many : Int) := by omega
      have HPY := HP.out k w0 (by omega) HB.out
      have HPZ : Hid (Calls Tryz.prog 22 #[.slice vo l.length vc, .int .i64 (wrap64 ((k : Int) * ((d : Int) + 1))), .int .i64 ((d : Int) + 1), .int .i64 1, .int .i64 3] w0 fun e w' => ∃ g gc b o c p, e = .returned (.slice (some ⟨g, 0, none⟩) 1 gc) ∧ w'.cell? ⟨g, 0, none⟩ = some (.slice (some ⟨b, o, none⟩) (d + 1) c) ∧ SlN w0.heap.size w' (.slice (some ⟨b, o, none⟩) (d + 1) c) (ints p) ∧ p.length = d + 1 ∧ (∀ z ∈ p, z.natAbs ≤ 3) ∧ Below w0.heap.size w0 w') := by rw [hw1]; exact HPY
      clear HPY hw1
      go_wp2_with fail
      refine HPZ.out.mono ?_
      rintro e w1 ⟨g, gc, b, o, c, p, rfl, hcg, hsl, hpl, hpb, hb1⟩
      have HSL : Hid (SlN w0.heap.size w1 (.slice (some ⟨b, o, none⟩) (d + 1) c) (ints p)) := hsl
      have HPP : Hid (p.length = d + 1 ∧ ∀ z ∈ p, z.natAbs ≤ 3) := ⟨hpl, hpb⟩
      have HB1 : Hid (Below w0.heap.size w0 w1) := hb1
      have HBW : Hid (∀ X, Below w0.heap.size w0 X → Below w.heap.size w X) := fun X hX => HB.out.trans (hX.mono HB.out.size)
      have hk100 : k ≤ 100 := by omega
      have hk107 : k + 7 ≤ 100 := by omega
      clear hsl hpl hpb hb1 HPZ HP
      go_wp2_with fail
      refine (HRW.out k w1 hk100 (HBW.out _ HB1.out)).mono ?_
      rintro e w2 ⟨z1, rfl, ⟨hz1a, hz1b⟩, hb2⟩
      have HB2 : Hid (Below w0.heap.size w0 w2) := HB1.out.trans (hb2.mono HB1.out.size)
      have HSL2 : Hid (SlN w0.heap.size w2 (.slice (some ⟨b, o, none⟩) (d + 1) c) (ints p)) := HSL.out.below hb2 (Nat.le_refl _)
      clear hb2 HSL hcg
      go_wp2_with fail
      refine (HPK.out z1 d w2 hd1 hd3 hz1a hz1b).mono ?_
      rintro e w3 ⟨j, rfl, hj, rfl⟩
      have HRY := HRW.out (k + 7) w3 hk107 (HBW.out _ HB2.out)
      have HRZ : Hid (Calls Tryz.prog 23 #[.slice vo l.length vc, .int .i64 ((k : Int) + 7)] w3 fun e w' => ∃ z, e = .returned (.int .i64 z) ∧ (0 ≤ z ∧ z ≤ 4611686018427387904) ∧ Below w3.heap.size w3 w') := HRY
      clear HRY hz1a hz1b
      go_wp2_with fail
      refine HRZ.out.mono ?_
      rintro e w4 ⟨z2, rfl, ⟨hz2a, hz2b⟩, hb4⟩
      have HB4 : Hid (Below w0.heap.size w0 w4) := HB2.out.trans (hb4.mono HB2.out.size)
      have HSL4 : Hid (SlN w0.heap.size w4 (.slice (some ⟨b, o, none⟩) (d + 1) c) (ints p)) := HSL2.out.below hb4 (Nat.le_refl _)
      clear hb4 HSL2 HRZ
      go_wp2_with fail
      refine (HPK.out z2 2 w4 (by decide) (by decide) hz2a hz2b).mono ?_
      rintro e w5 ⟨y, rfl, hy, rfl⟩
      have hjl : j < p.length := by rw [HPP.out.1]; omega
      obtain ⟨⟨qv, hq1⟩, hq2, hq3, hq4⟩ := HSL4.out.put hjl (1 + (y : Int))
      obtain ⟨P1, hP1⟩ : ∃ P1, P1 = p.set j (1 + (y : Int)) := ⟨_, rfl⟩
      rw [← hP1] at hq4
      have HPL : Hid (P1.length = d + 1 ∧ (∀ z ∈ P1, z.natAbs ≤ 3) ∧ (pickL d [P1]).length ≠ 0) := by
        refine ⟨by rw [hP1]; simp [HPP.out.1], fun z hz => ?_, pick_ne hj ?_⟩
        · rw [hP1] at hz
          rcases List.mem_or_eq_of_mem_set hz with h | h
          · have := HPP.out.2 z h; omega
          · omega
        · rw [hP1]
          simp [hjl]
          omega
      obtain ⟨w6, hw6⟩ : ∃ w6, w6 = w5.setCell ⟨b, o + j, none⟩ (.int .i64 (1 + (y : Int))) := ⟨_, rfl⟩
      rw [← hw6] at hq4
      have HW6 : Hid (w6 = w5.setCell ⟨b, o + j, none⟩ (.int .i64 (1 + (y : Int)))) := hw6
      have HS6 : Hid (SlN w0.heap.size w6 (.slice (some ⟨b, o, none⟩) (d + 1) c) (ints P1)) := hq4
      have HB6 : Hid (Below w0.heap.size w0 w6) := by
        show Below _ _ _
        rw [hw6]; exact HB4.out.setCell hq3 _
      have hyb : (y : Int) ≤ 1 := by omega
      have hjI : (j : Int) < ((d : Int) + 1) := by omega
      clear hq3 hq4 hw6 hP1 HSL4 HPP hjl hz2a hz2b
      go_wp2
      rw [← HW6.out]
      clear hq1 hq2
      go_loopw [10, 11] (fun x i wq => ∃ n : Nat, n ≤ P.length ∧ i = .int .i64 (n : Int) ∧ x = .bool (othB d P1 P n) ∧ Below w0.heap.size w0 wq ∧ SlN w0.heap.size wq (.slice (some ⟨b, o, none⟩) (d + 1) c) (ints P1)) (fun _ i _ => P.length - (intOf i).toNat)
      case atStart => exact ⟨0, Nat.zero_le _, rfl, rfl, HB6.out, HS6.out⟩
      case round =>
        obtain ⟨n, hn, rfl, rfl, hbq, hsq⟩ := hrel
        have HBQ : Hid (Below w0.heap.size w0 wr) := hbq
        have HSQ : Hid (SlN w0.heap.size wr (.slice (some ⟨b, o, none⟩) (d + 1) c) (ints P1)) := hsq
        clear hbq hsq HB6 HS6 HW6
        by_cases hnl : n < P.length
        · have HSU : Hid (othB d P1 P (n + 1) = (othB d P1 P n && ((pickL (d + 1) [P1, P.getD n []]).length == 2))) := othB_succ d P1 P n
          have hnI : (n : Int) < (P.length : Int) := by omega
          have hnI0 : (0 : Int) ≤ (n : Int) := by omega
          generalize othB d P1 P n = ob at *
          cases ob with
          | false =>
            have HSV : Hid (othB d P1 P (n + 1) = false) := by
              show _ = _
              rw [HSU.out]; rfl
            clear HSU
            go_wp2
            go_roundw
            case rel => exact ⟨n + 1, by omega, by go_num, by rw [HSV.out], HBQ.out, HSQ.out⟩
            case measure => simp [intOf]; omega
          | true =>
            obtain ⟨vs, f1, f2, f3⟩ := HF.out
            have hmat : Mat 0 22 3 w0 (.slice xo P.length xc) P := ⟨vs, f1, Sl.own f2, f3⟩
            obtain ⟨xb, xf, cap, rv, e1, _, hc1, hs1⟩ := mat_cell (hmat.below HBQ.out (Nat.le_refl _)) hnl
            simp only [Value.slice.injEq] at e1
            obtain ⟨rfl, -, -⟩ := e1
            have hrow := HG.out.row (P.getD n []) (getD_memR hnl)
            obtain ⟨ra, rca, hrv, _, _⟩ := sl_open hs1
            rw [hrow.1] at hrv
            subst hrv
            have HRK : Hid (Calls Tryz.prog 24 #[.slice (some ⟨wr.heap.size, 0, none⟩) 2 2] (wr.alloc (.cells #[.slice (some ⟨b, o, none⟩) (d + 1) c, .slice ra (d + 1) rca] 22)) fun e w' => e = .returned (.int .i64 ((pickL (d + 1) [P1, P.getD n []]).length : Nat)) ∧ Below wr.heap.size wr w') := by
              refine (rankR_any (d + 1) 60 0 [P1, P.getD n []] _ _ (mx_few hd1 hd3 (fun r hr => ?_)) (mat_two HSQ.out.1 hs1) (by simp)).mono ?_
              · simp only [List.mem_cons, List.not_mem_nil, or_false] at hr
                rcases hr with rfl | rfl
                · exact ⟨HPL.out.1, fun z hz => Nat.le_trans (HPL.out.2.1 z hz) (by decide)⟩
                · exact hrow
              · rintro e w' ⟨rfl, hb⟩
                exact ⟨rfl, ((Below.refl _ _).alloc (Nat.le_refl _) _).trans (hb.mono (by simp))⟩
            generalize hrk : (pickL (d + 1) [P1, P.getD n []]).length = rk at *
            have HSV : Hid (othB d P1 P (n + 1) = (rk == 2)) := by
              show _ = _
              rw [HSU.out]; rfl
            clear hrk HSU hs1 hrow f1 f2 f3 hmat
            go_wp2_with fail
            refine HRK.out.mono ?_
            rintro e w8 ⟨rfl, hb8⟩
            have HB8 : Hid (Below w0.heap.size w0 w8) := HBQ.out.trans (hb8.mono HBQ.out.size)
            have HS8 : Hid (SlN w0.heap.size w8 (.slice (some ⟨b, o, none⟩) (d + 1) c) (ints P1)) := HSQ.out.below hb8 (Nat.le_refl _)
            have HRB : Hid (((rk : Int) == 2) = (rk == 2)) := by
              show _ = _
              rw [Bool.eq_iff_iff]; simp; omega
            clear hb8 HRK hc1
            cases h2 : ((rk : Int) == 2) with
            | true =>
              have HSW : Hid (othB d P1 P (n + 1) = true) := by
                show _ = _
                rw [HSV.out, ← HRB.out, h2]
              clear HSV HRB
              go_wp2
              go_roundw
              case rel => exact ⟨n + 1, by omega, by go_num, by rw [HSW.out], HB8.out, HS8.out⟩
              case measure => simp [intOf]; omega
            | false =>
              have HSW : Hid (othB d P1 P (n + 1) = false) := by
                show _ = _
                rw [HSV.out, ← HRB.out, h2]
              clear HSV HRB
              go_wp2
              go_roundw
              case rel => exact ⟨n + 1, by omega, by go_num, by rw [HSW.out], HB8.out, HS8.out⟩
              case measure => simp [intOf]; omega
        · have hne : n = P.length := by omega
          subst hne
          obtain ⟨vs, f1, f2, f3⟩ := HF.out
          have F1 : Hid (vs.length = P.length) := f1
          have F2 : Hid (wr.ownsRow w.heap.size 22 1 (.slice xo P.length xc) P.length vs) := owns_below f2 HBQ.out (Nat.le_refl _)
          have F3 : Hid (∀ i, i < P.length → Sl 0 3 wr (vs.getD i (.slice none 0 0)) (ints (P.getD i []))) := fun i hi => (f3 i hi).below HBQ.out (Nat.le_refl _)
          have HBZ : Hid (Below w.heap.size w wr) := HBW.out _ HBQ.out
          have hszr : w.heap.size ≤ wr.heap.size := HBZ.out.size
          clear f1 f2 f3
          cases hob : othB d P1 P P.length with
          | false =>
            have HFZ : Hid (Fr w.heap.size 22 3 wr (.slice xo P.length xc) P) := ⟨vs, F1.out, F2.out, F3.out⟩
            clear hob
            go_wp2
            go_roundw
            case rel => exact ⟨k + 1, P, xo, xc, by omega, by go_num, by omega, ⟨HG.out, HG3.out⟩, rfl, HFZ.out, HBZ.out⟩
            case measure => simp [intOf]; omega
          | true =>
            have HGN : Hid (PlG d (P ++ [P1])) := HG.out.push ⟨HPL.out.1, fun z hz => Nat.le_trans (HPL.out.2.1 z hz) (by decide)⟩ HPL.out.2.2 hob
            have HG4 : Hid (P3 (P ++ [P1])) := fun p hp => by
              rcases List.mem_append.1 hp with hp | hp
              · exact HG3.out p hp
              · rw [List.mem_singleton.1 hp]; exact HPL.out.2.1
            have hpl6 : P.length ≤ 6 := by omega
            clear hob
            go_wp2_with (first | (at_builtin; refine wpList_append_own _ rfl _ _ 25 rfl w.heap.size 22 i0 (.slice none 0 0) 1 24 Tryz.underlying25 hi0 hz0 hz1 hz2 rfl (by decide) _ _ _ rfl (F2.out.alloc _) ⟨wr.heap.size, 0, none⟩ 1 1 [.slice (some ⟨b, o, none⟩) (d + 1) c] rfl rfl (one_new _ _ _) (one_slice _ _ _) ?d3 ?d4 ?d5 ?_))
            case d3 => unfold maxLen; omega
            case d4 => omega
            case d5 => first | exact hszr | omega | (simp; omega)
            intro v' w9 ho hg _
            have R1 : Hid (Fr w.heap.size 22 3 w9 v' (P ++ [P1])) := Fr.push (e2 := 22) (e1 := 3) (by decide) F1.out (F2.out.alloc _) (fun i hi => (F3.out i hi).alloc _) (HSQ.out.1.alloc _) ho hg
            have R2 : Hid (Below w.heap.size w w9) := (HBZ.out.alloc hszr _).grown hg (by simp; omega) (fun x hx => (F2.out.lt x hx).1)
            obtain ⟨yo, yc, hyv⟩ := owns_form ho
            subst hyv
            have hln : (P ++ [P1]).length = P.length + 1 := by simp
            have HLN : Hid ((P ++ [P1]).length = P.length + 1) := hln
            clear ho hg hln
            go_wp2
            go_roundw
            case rel => exact ⟨k + 1, P ++ [P1], yo, yc, by omega, by go_num, by rw [HLN.out]; omega, ⟨HGN.out, HG4.out⟩, by rw [HLN.out], by rw [HLN.out]; exact R1.out, R2.out⟩
            case measure => simp [intOf]; omega
    · obtain ⟨vs, f1, f2, f3⟩ := HF.out
      have HM : Hid (Mat 0 22 3 wr (.slice xo P.length xc) P) := ⟨vs, f1, Sl.own f2, f3⟩
      clear f1 f2 f3
      go_wp2
      go_ret
      exact ⟨xo, xc, P, rfl, HM.out, by omega, ⟨HG.out, HG3.out⟩, HB.out⟩

end Go.Proofs.YtgfnmkenpgnllaaGreat
