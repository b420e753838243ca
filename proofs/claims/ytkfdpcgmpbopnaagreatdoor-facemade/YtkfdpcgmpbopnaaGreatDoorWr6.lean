/- Is one beyond: the closure of wrap.rowsThrough, and slices.ContainsFunc by it. -/
import Derived.Test.YtkfdpcgmpbopnaaGreatDoorWr5
namespace Go.Proofs.YtkfdpcgmpbopnaaGreatDoor
open Go.RowKit
open Lin
attribute [local go_sem ↓] Go.wp_at_zero Go.wp_at_succ

/-- A pair that is not great. -/
def PrB (s : Int × Int) : Prop := s.1.natAbs ≤ 100000000 ∧ s.2.natAbs ≤ 100000000

theorem turnP_any (s e : Int × Int) (hs : PrB s) (he : PrB e) (w : World) :
    Calls Tryz.prog 123 #[arr2 s.1 s.2, arr2 e.1 e.2] w fun r w' => r = .returned (.int .i64 (trn s e)) ∧ Below w.heap.size w w' :=
  turn_any s.1 s.2 e.1 e.2 w (by have := mul_bd8 he.1 hs.2; omega) (by have := mul_bd8 he.2 hs.1; omega)

theorem trn_bd {s e : Int × Int} (hs : PrB s) (he : PrB e) : -20000000000000000 ≤ trn s e ∧ trn s e ≤ 20000000000000000 := by
  have h1 := mul_bd8 he.1 hs.2
  have h2 := mul_bd8 he.2 hs.1
  unfold trn
  omega

set_option maxRecDepth 100000 in
theorem beyondS_any (s e : Int × Int) (q : Nat) (w : World) (hs : PrB s) (he : PrB e) (c0 : w.cell? ⟨q, 0, none⟩ = some (.int .i64 e.1)) (c1 : w.cell? ⟨q, 1, none⟩ = some (.int .i64 e.2)) :
    Calls Tryz.prog 125 #[arr2 s.1 s.2, .pointer (some ⟨q, 0, none⟩)] w fun r w' => r = .returned (.bool (decide (0 < trn s e))) ∧ Below w.heap.size w w' := by
  have HT : Hid (∀ W', Calls Tryz.prog 123 #[.agg #[.int .i64 s.1, .int .i64 s.2], .agg #[.int .i64 e.1, .int .i64 e.2]] W' fun r w' => r = .returned (.int .i64 (trn s e)) ∧ Below W'.heap.size W' w') := fun W' => turnP_any s e hs he W'
  have hbW : Below w.heap.size w (w.alloc (.cells #[.int .i64 s.1, .int .i64 s.2] 132)) := (Below.refl _ _).alloc (Nat.le_refl _) _
  have HBW : Hid (Below w.heap.size w (w.alloc (.cells #[.int .i64 s.1, .int .i64 s.2] 132))) := hbW
  have hq : q < w.heap.size := lt_of_cell c0
  clear hbW
  unfold arr2
  generalize trn s e = T at *
  obtain ⟨s1, s2⟩ := s
  obtain ⟨e1, e2⟩ := e
  dsimp only at *
  go_enter Tryz.func125, Tryz.ntmps125
  go_wp2_with fail
  refine (HT.out _).mono ?_
  rintro r w2 ⟨rfl, hb2⟩
  have HB2 : Hid (Below w.heap.size w w2) := HBW.out.trans (hb2.mono HBW.out.size)
  clear hb2 c0 c1
  go_wp2
  go_ret
  exact ⟨rfl, HB2.out⟩

theorem any_snocS {p : Int × Int → Bool} {m : List (Int × Int)} {k : Nat} (hk : k < m.length) (h : (m.take k).any p = false) : (m.take (k + 1)).any p = p (m.getD k (0, 0)) := by
  rw [List.take_succ_eq_append_getElem hk, List.any_append, h]
  simp [hk]

set_option maxRecDepth 100000 in
set_option maxHeartbeats 800000 in
theorem idxS_any (m : List (Int × Int)) (e : Int × Int) (v : Value) (q : Nat) (w : World) (hv : Sns w.heap.size w v m) (hm : ∀ s ∈ m, PrB s) (hml : m.length ≤ 1000) (he : PrB e) (hc0 : w.cell? ⟨q, 0, none⟩ = some (.int .i64 e.1)) (hc1 : w.cell? ⟨q, 1, none⟩ = some (.int .i64 e.2)) :
    Calls Tryz.prog 140 #[v, .func (.func 125) #[] #[.pointer (some ⟨q, 0, none⟩)]] w fun r w' => (∃ z, r = .returned (.int .i64 z) ∧ -1 ≤ z ∧ z < m.length ∧ decide (0 ≤ z) = m.any fun s => decide (0 < trn s e)) ∧ Below w.heap.size w w' := by
  obtain ⟨po, pc, rfl, hcell⟩ := hv
  have HCE : Hid (∀ W', Below w.heap.size w W' → ∀ i, i < m.length → ∃ b o, po = some ⟨b, o, none⟩ ∧ W'.cell? ⟨b, o + i * 2, none⟩ = some (.int .i64 (m.getD i (0, 0)).1) ∧ W'.cell? ⟨b, o + i * 2 + 1, none⟩ = some (.int .i64 (m.getD i (0, 0)).2)) := fun W' h i hi => by
    obtain ⟨b, o, e1, e2, e3, e4⟩ := hcell i hi
    exact ⟨b, o, e1, (h.cell e2).trans e3, (h.cell e2).trans e4⟩
  have HC : Hid (∀ s ∈ m, ∀ W : World, Below w.heap.size w W → Calls Tryz.prog 125 #[.agg #[.int .i64 s.1, .int .i64 s.2], .pointer (some ⟨q, 0, none⟩)] W fun r w' => r = .returned (.bool (decide (0 < trn s e))) ∧ Below w.heap.size w w') := fun s hs W hb =>
    (beyondS_any s e q W (hm s hs) he ((hb.cell (lt_of_cell hc0)).trans hc0) ((hb.cell (lt_of_cell hc1)).trans hc1)).mono fun r w' ⟨h1, h2⟩ => ⟨h1, hb.trans (h2.mono hb.size)⟩
  clear hcell hc0 hc1 hm he
  obtain ⟨f, hf⟩ : ∃ f : Int × Int → Bool, f = fun s => decide (0 < trn s e) := ⟨_, rfl⟩
  have HC' : Hid (∀ s ∈ m, ∀ W : World, Below w.heap.size w W → Calls Tryz.prog 125 #[.agg #[.int .i64 s.1, .int .i64 s.2], .pointer (some ⟨q, 0, none⟩)] W fun r w' => r = .returned (.bool (f s)) ∧ Below w.heap.size w w') := by
    rw [hf]; exact HC.out
  rw [← hf]
  clear hf HC
  go_enter Tryz.func140, Tryz.ntmps140
  go_wp2
  go_loopw [8] (fun i wr => ∃ k : Nat, k ≤ m.length ∧ i = .int .i64 k ∧ (m.take k).any f = false ∧ Below w.heap.size w wr) (fun i _ => m.length - (intOf i).toNat)
  case atStart => exact ⟨0, Nat.zero_le _, rfl, by simp, Below.refl _ _⟩
  case round =>
    obtain ⟨k, hk, rfl, hno, hb⟩ := hrel
    have HN : Hid ((m.take k).any f = false) := hno
    have HB : Hid (Below w.heap.size w wr) := hb
    clear hno hb
    by_cases hlt : k < m.length
    · obtain ⟨b1, o1, hs, hcc0, hcc1⟩ := HCE.out wr HB.out k hlt
      subst hs
      have HS1 : Hid ((m.take (k + 1)).any f = f (m.getD k (0, 0))) := any_snocS (p := f) hlt HN.out
      have HME : Hid (m.getD k (0, 0) ∈ m) := by
        show _ ∈ _
        simp [hlt]
      have HCA : Hid (Calls Tryz.prog 125 #[.agg #[.int .i64 (m.getD k (0, 0)).1, .int .i64 (m.getD k (0, 0)).2], .pointer (some ⟨q, 0, none⟩)] wr fun r w' => r = .returned (.bool (f (m.getD k (0, 0)))) ∧ Below w.heap.size w w') := HC'.out _ HME.out wr HB.out
      generalize m.getD k (0, 0) = x at *
      obtain ⟨fb, hfb⟩ : ∃ fb, fb = f x := ⟨_, rfl⟩
      have HFB : Hid (fb = f x) := hfb
      rw [← hfb] at HCA
      clear hfb
      have kI : (k : Int) < (m.length : Int) := by omega
      have kI0 : (0 : Int) ≤ (k : Int) := by omega
      go_wp2_with fail
      refine HCA.out.mono ?_
      rintro e w2 ⟨rfl, hb2⟩
      have HB2 : Hid (Below w.heap.size w w2) := hb2
      clear hb2 HCA hcc0 hcc1
      cases hf : fb
      · have HF : Hid (f x = false) := by rw [← hf]; exact HFB.out.symm
        clear hf
        go_wp2
        go_roundw
        case rel => exact ⟨k + 1, by omega, by go_num, by rw [HS1.out]; exact HF.out, HB2.out⟩
        case measure => simp [intOf]; omega
      · have HF : Hid (f x = true) := by rw [← hf]; exact HFB.out.symm
        clear hf
        go_wp2
        go_ret
        refine ⟨⟨_, rfl, by omega, by omega, ?_⟩, HB2.out⟩
        rw [decide_eq_true (by omega)]
        exact (List.any_eq_true.2 ⟨x, HME.out, HF.out⟩).symm
    · have HTK : Hid (m.take k = m) := List.take_of_length_le (by omega)
      go_wp2
      go_ret
      exact ⟨⟨-1, rfl, by omega, by omega, by rw [← HTK.out, HN.out]; rfl⟩, HB.out⟩

set_option maxRecDepth 100000 in
theorem hasS_any (m : List (Int × Int)) (e : Int × Int) (v : Value) (q : Nat) (w : World) (hv : Sns w.heap.size w v m) (hm : ∀ s ∈ m, PrB s) (hml : m.length ≤ 1000) (he : PrB e) (hc0 : w.cell? ⟨q, 0, none⟩ = some (.int .i64 e.1)) (hc1 : w.cell? ⟨q, 1, none⟩ = some (.int .i64 e.2)) :
    Calls Tryz.prog 126 #[v, .func (.func 125) #[] #[.pointer (some ⟨q, 0, none⟩)]] w fun r w' => r = .returned (.bool (m.any fun s => decide (0 < trn s e))) ∧ Below w.heap.size w w' := by
  have HI : Hid (Calls Tryz.prog 140 #[v, .func (.func 125) #[] #[.pointer (some ⟨q, 0, none⟩)]] w fun r w' => (∃ z, r = .returned (.int .i64 z) ∧ -1 ≤ z ∧ z < m.length ∧ decide (0 ≤ z) = m.any fun s => decide (0 < trn s e)) ∧ Below w.heap.size w w') := idxS_any m e v q w hv hm hml he hc0 hc1
  obtain ⟨po, pc, rfl, -⟩ := hv
  clear hm he hc0 hc1
  generalize (m.any fun s => decide (0 < trn s e)) = R at *
  go_enter Tryz.func126, Tryz.ntmps126
  go_wp2_with fail
  refine HI.out.mono ?_
  rintro e w' ⟨⟨z, rfl, hz1, hz2, hz3⟩, hb⟩
  have HZ : Hid (decide (0 ≤ z) = R) := hz3
  have HB : Hid (Below w.heap.size w w') := hb
  clear hz3 hb
  go_wp2
  go_ret
  exact ⟨by rw [← HZ.out]; rfl, HB.out⟩

end Go.Proofs.YtkfdpcgmpbopnaaGreatDoor
