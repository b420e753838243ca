/- body.metBy: which corners meet a row. -/
import Derived.Test.YtkfdpcgmpbopnaaGreatDoorLt3
import Derived.Test.YtkfdpcgmpbopnaaGreatDoorSh2
namespace Go.Proofs.YtkfdpcgmpbopnaaGreatDoor
open Go.RowKit
attribute [local go_sem ↓] Go.wp_at_zero Go.wp_at_succ

/-- The numbers of those of the first k corners that meet a row. -/
def mtTo (C : List (List Int)) (r : List Int) (k : Nat) : List Int := ((List.range k).filter fun i => decide (overL r (C.getD i []) = 0)).map fun i : Nat => (i : Int)

theorem mtTo_succ (C : List (List Int)) (r : List Int) (k : Nat) : mtTo C r (k + 1) = mtTo C r k ++ (if overL r (C.getD k []) = 0 then [(k : Int)] else []) := by
  unfold mtTo
  rw [List.range_succ, List.filter_append, List.map_append]
  by_cases h : overL r (C.getD k []) = 0
  · rw [if_pos h, List.filter_cons_of_pos (by exact decide_eq_true h)]; rfl
  · rw [if_neg h, List.filter_cons_of_neg (by rw [decide_eq_false h]; decide)]; rfl

theorem setN_app : ∀ (l : List Int) (x : Int), setN (l ++ [x]) = setN l ||| 2 ^ x.toNat
  | [], x => by simp [setN]
  | v :: l, x => by
    rw [List.cons_append]
    unfold setN
    rw [setN_app l x, Nat.or_assoc]

theorem setN_mt (C : List (List Int)) (r : List Int) : ∀ k, setN (mtTo C r k) = sdTo C r k
  | 0 => rfl
  | k + 1 => by
    rw [mtTo_succ]
    unfold sdTo
    by_cases h : overL r (C.getD k []) = 0
    · rw [if_pos h, if_pos h, setN_app, setN_mt C r k]; simp
    · rw [if_neg h, if_neg h, List.append_nil, setN_mt C r k, Nat.or_zero]

theorem mtTo_mem {C : List (List Int)} {r : List Int} {k : Nat} {x : Int} (h : x ∈ mtTo C r k) : 0 ≤ x ∧ x < (k : Int) := by
  unfold mtTo at h
  simp only [List.mem_map, List.mem_filter, List.mem_range] at h
  obtain ⟨i, ⟨hi, _⟩, rfl⟩ := h
  omega

theorem mtTo_len (C : List (List Int)) (r : List Int) (k : Nat) : (mtTo C r k).length ≤ k := by
  unfold mtTo
  rw [List.length_map]
  exact Nat.le_trans (List.length_filter_le _ _) (by simp)

set_option maxRecDepth 100000 in
set_option maxHeartbeats 1600000 in
theorem metBy_any (d : Nat) (C : List (List Int)) (r : List Int) (rv cv : Value) (w : World) (hr : Sl w.heap.size 3 w rv (ints r)) (hc : Mat w.heap.size 22 3 w cv C) (hrl : r.length = d + 1) (hlen : ∀ y ∈ C, y.length = d) (hsm : ∀ y ∈ C, Sm (r.take d) y) (hn : C.length ≤ 16) :
    Calls Tryz.prog 49 #[rv, cv] w fun e w' => e = .returned (.int .u64 (sdN C r)) ∧ Below w.heap.size w w' := by
  obtain ⟨i3, hi3, hz30, hz31, hz32⟩ := info_parts Tryz.info3
  obtain ⟨co, cc, rfl, hlc, hcm⟩ := mat_open hc
  obtain ⟨rb, ro, rcp, rfl, hc1, hcc⟩ := sl_cell hr (k := d) (by omega)
  have hTK := Sl.take (n := d) hr (by omega)
  have HTK : Hid (∀ W', Below w.heap.size w W' → Sl w.heap.size 3 W' (.slice (some ⟨rb, ro, none⟩) d rcp) (ints (r.take d))) := fun W' h => by
    exact hTK.below h (Nat.le_refl _)
  have HRC : Hid (∀ W', Below w.heap.size w W' → W'.cell? ⟨rb, ro + d, none⟩ = some (.int .i64 (r.getD d 0))) := fun W' h => (h.cell (lt_of_cell hcc)).trans hcc
  have HC : Hid (∀ W', Below w.heap.size w W' → Mat w.heap.size 22 3 W' (.slice co C.length cc) C) := fun W' h => hc.below h (Nat.le_refl _)
  have HLN : Hid (∀ y ∈ C, y.length = d) := hlen
  have HSM : Hid (∀ y ∈ C, Sm (r.take d) y) := hsm
  rw [hrl] at hc1
  rw [hrl]
  clear hr hc hrl hlen hsm hTK hcc
  go_enter Tryz.func49, Tryz.ntmps49
  go_wp2
  go_loopw [5, 6, 7, 10] (fun x _ _ i wr => ∃ k : Nat, k ≤ C.length ∧ i = .int .i64 k ∧ wr.ownsRow w.heap.size 3 1 x (mtTo C r k).length (ints (mtTo C r k)) ∧ Below w.heap.size w wr) (fun _ _ _ i _ => C.length - (intOf i).toNat)
  case atStart => exact ⟨0, Nat.zero_le _, rfl, by rw [show mtTo C r 0 = [] from rfl]; exact World.ownsRow_nil _ _ _ _, Below.refl _ _⟩
  case round =>
    obtain ⟨k, hk, rfl, ho, hb⟩ := hrel
    have HO : Hid (wr.ownsRow w.heap.size 3 1 u5 (mtTo C r k).length (ints (mtTo C r k))) := ho
    have HB : Hid (Below w.heap.size w wr) := hb
    have hszr : w.heap.size ≤ wr.heap.size := hb.size
    have HML : Hid ((mtTo C r k).length ≤ 16) := Nat.le_trans (mtTo_len C r k) (by omega)
    clear ho hb
    by_cases hlt : k < C.length
    · obtain ⟨qb, qo, qcp, q1, hqs, _, hqc, hq1⟩ := mat_cell (HC.out wr HB.out) hlt
      simp only [Value.slice.injEq, true_and] at hqs
      obtain ⟨rfl, rfl⟩ := hqs
      have hkm : C.getD k [] ∈ C := by simp [hlt]
      have hyl := HLN.out _ hkm
      obtain ⟨yo, yc, rfl, _, _⟩ := sl_open hq1
      have hrc := HRC.out wr HB.out
      have HPR : Hid (∀ n, Calls Tryz.prog 69 #[.slice (some ⟨rb, ro, none⟩) d rcp, .slice yo d yc] (wr.drewN n) fun e w' => e = .returned (.int .i64 (dotL (r.take d) (C.getD k []))) ∧ ∃ k, w' = (wr.drewN n).drewN k) := fun n => by
        have h := product_any w.heap.size (r.take d) (C.getD k []) (.slice (some ⟨rb, ro, none⟩) d rcp) (.slice yo (C.getD k []).length yc) (wr.drewN n) ((HTK.out wr HB.out).drewN n) (hq1.drewN n) (HSM.out _ hkm)
        rw [hyl] at h
        exact h
      have HOV : Hid (overL r (C.getD k []) = dotL (r.take d) (C.getD k []) - r.getD d 0) := by
        show _ = _
        unfold overL
        rw [hyl]
      have HSU : Hid (mtTo C r (k + 1) = mtTo C r k ++ (if overL r (C.getD k []) = 0 then [(k : Int)] else [])) := mtTo_succ C r k
      rw [hyl] at hqc
      rw [HOV.out] at HSU
      clear hq1 hkm hyl HOV
      generalize dotL (r.take d) (C.getD k []) = D at *
      generalize r.getD d 0 = q at *
      have hd0 : (0 : Int) ≤ (d : Int) := by omega
      have hd1 : (d : Int) < (d : Int) + 1 := by omega
      have hdc : d ≤ rcp := by omega
      have hdc2 : (d : Int) ≤ (rcp : Int) := by omega
      by_cases hD : D = q
      · have hDq : (D == q) = true := by simp [hD]
        have HS2 : Hid (mtTo C r (k + 1) = mtTo C r k ++ [(k : Int)]) := by
          have h := HSU.out
          rw [if_pos (by omega)] at h
          exact h
        clear HSU hD
        obtain ⟨ol, hol⟩ : ∃ ol, ol = (mtTo C r k).length := ⟨_, rfl⟩
        have HOL : Hid (ol = (mtTo C r k).length) := hol
        rw [← hol] at HO HML
        have hol2 : ol ≤ 16 := HML.out
        clear hol
        go_wp2
        go_quiet (first | (go_at_call 69; exact Calls.quiet_of (w := wr) (HPR.out _)))
        obtain ⟨WX, hWX⟩ : ∃ WX, WX = wr.drewN nq := ⟨_, rfl⟩
        rw [← hWX]
        have HOX : Hid (WX.ownsRow w.heap.size 3 1 u5 ol (ints (mtTo C r k))) := by rw [hWX]; exact HO.out
        have HBX : Hid (Below w.heap.size w WX) := by rw [hWX]; exact ⟨HB.out.os, HB.out.tape, HB.out.output, HB.out.size, HB.out.block⟩
        have hszx : w.heap.size ≤ WX.heap.size := HBX.out.size
        clear hWX hrc hqc HPR HO
        go_wp2_with (first | (at_builtin; refine wpList_append_own _ rfl _ _ 22 rfl w.heap.size 3 i3 (.int .i64 0) 1 8 Tryz.underlying22 hi3 hz30 hz31 hz32 rfl (by decide) _ _ _ rfl (HOX.out.alloc _) ⟨WX.heap.size, 0, none⟩ 1 1 [.int .i64 k] rfl rfl (one_new _ _ _) (one_int _) ?c3 ?c4 ?c5 ?_))
        case c3 => unfold maxLen; omega
        case c4 => omega
        case c5 => first | exact hszx | omega | (simp; omega)
        intro v' w3 ho3 hg3 _
        have R1 : Hid (w3.ownsRow w.heap.size 3 1 v' (mtTo C r (k + 1)).length (ints (mtTo C r (k + 1)))) := by
          have e1 : (mtTo C r (k + 1)).length = ol + 1 := by rw [HS2.out, List.length_append, ← HOL.out]; rfl
          have e2 : ints (mtTo C r (k + 1)) = ints (mtTo C r k) ++ [.int .i64 (k : Int)] := by rw [HS2.out]; simp [ints]
          show World.ownsRow _ _ _ _ _ _ _
          rw [e1, e2]
          exact ho3
        have R2 : Hid (Below w.heap.size w w3) := (HBX.out.alloc hszx _).grown hg3 (by simp; omega) (fun x hx => (HOX.out.lt x hx).1)
        clear ho3 hg3
        go_wp2
        go_roundw
        case rel => exact ⟨k + 1, by omega, by go_num, R1.out, R2.out⟩
        case measure => simp [intOf]; omega
      · have hDq : (D == q) = false := by simp [hD]
        have HS2 : Hid (mtTo C r (k + 1) = mtTo C r k) := by
          have h := HSU.out
          rw [if_neg (by omega), List.append_nil] at h
          exact h
        clear HSU hD
        go_wp2
        go_quiet (first | (go_at_call 69; exact Calls.quiet_of (w := wr) (HPR.out _)))
        obtain ⟨WX, hWX⟩ : ∃ WX, WX = wr.drewN nq := ⟨_, rfl⟩
        rw [← hWX]
        have HOX : Hid (WX.ownsRow w.heap.size 3 1 u5 (mtTo C r (k + 1)).length (ints (mtTo C r (k + 1)))) := by rw [hWX, HS2.out]; exact HO.out
        have HBX : Hid (Below w.heap.size w WX) := by rw [hWX]; exact ⟨HB.out.os, HB.out.tape, HB.out.output, HB.out.size, HB.out.block⟩
        clear hWX hrc hqc HPR HO
        go_wp2
        go_roundw
        case rel => exact ⟨k + 1, by omega, by go_num, HOX.out, HBX.out⟩
        case measure => simp [intOf]; omega
    · have hke : k = C.length := by omega
      have HSO : Hid (Calls Tryz.prog 70 #[u5] wr fun e w' => e = .returned (.int .u64 (sdN C r)) ∧ ∃ n, w' = wr.drewN n) := by
        have h := setOf_any w.heap.size (mtTo C r k) u5 wr (Sl.own HO.out) (fun x hx => by have := mtTo_mem hx; omega)
        rw [setN_mt, hke] at h
        exact h
      subst hke
      clear hlt
      obtain ⟨uo, uc, huv⟩ := owns_form HO.out
      subst huv
      go_wp2_with fail
      refine HSO.out.mono ?_
      rintro e w2 ⟨rfl, n, rfl⟩
      have HBX : Hid (Below w.heap.size w (wr.drewN n)) := ⟨HB.out.os, HB.out.tape, HB.out.output, HB.out.size, HB.out.block⟩
      go_wp2
      go_ret
      exact ⟨rfl, HBX.out⟩

end Go.Proofs.YtkfdpcgmpbopnaaGreatDoor
