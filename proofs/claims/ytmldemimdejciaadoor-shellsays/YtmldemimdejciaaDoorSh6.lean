/- Which simplices may be: the program's answer. -/
import Derived.Test.YtmldemimdejciaaDoorSh5
namespace Go.Proofs.YtmldemimdejciaaDoor
open Go.RowKit
attribute [local go_sem ↓] Go.wp_at_zero Go.wp_at_succ

set_option maxRecDepth 100000 in
set_option maxHeartbeats 400000 in
theorem eqlS_any (B : Nat) (x y : List Int) (u v : Value) (w : World) (hu : Sl B 3 w u (ints x)) (hv : Sl B 3 w v (ints y)) :
    Calls Tryd.prog 22 #[u, v] w fun e w' => e = .returned (.bool (x == y)) ∧ ∃ n, w' = w.drewN n := by
  have hu' := hu
  have hv' := hv
  obtain ⟨ao, cap, hvv, hlc, hcm, -⟩ := hu'
  obtain ⟨bo, cbp, huu, hlb, hcb, -⟩ := hv'
  simp only [ints_length] at hlc hvv hlb huu
  subst hvv huu
  have HU : Hid (Sl B 3 w (.slice ao x.length cap) (ints x)) := hu
  have HV : Hid (Sl B 3 w (.slice bo y.length cbp) (ints y)) := hv
  clear hu hv
  unfold maxLen at hcm hcb
  by_cases hl : x.length = y.length
  · have hbe : ((x.length : Int) != (y.length : Int)) = false := by simp [hl]
    have HL : Hid (x.length = y.length) := hl
    have hle : y.length ≤ x.length := by omega
    have hge : x.length ≤ y.length := by omega
    clear hl
    go_enter Tryd.func22, Tryd.ntmps22
    go_wp2
    go_loopw [13] (fun i wr => ∃ k : Nat, k ≤ x.length ∧ i = .int .i64 k ∧ (∀ j, j < k → x.getD j 0 = y.getD j 0) ∧ ∃ n, wr = w.drewN n) (fun i _ => x.length - (intOf i).toNat)
    case atStart => exact ⟨0, Nat.zero_le _, rfl, fun j hj => absurd hj (by omega), 0, rfl⟩
    case round =>
      obtain ⟨k, hk, rfl, hno, n, rfl⟩ := hrel
      have HN : Hid (∀ j, j < k → x.getD j 0 = y.getD j 0) := hno
      clear hno
      by_cases hlt : k < x.length
      · have hlt2 : k < y.length := by omega
        obtain ⟨b, o, cp, hs, hc1, hcc⟩ := sl_cell HU.out hlt
        simp only [Value.slice.injEq] at hs
        obtain ⟨rfl, _, rfl⟩ := hs
        obtain ⟨b2, o2, cp2, hs2, hc2, hcc2⟩ := sl_cell HV.out hlt2
        simp only [Value.slice.injEq] at hs2
        obtain ⟨rfl, _, rfl⟩ := hs2
        go_wp2
        go_quiet (fail)
        go_wp2
        · have hf : (x[k] != y[k]) = true := by assumption
          go_ret
          refine ⟨ret_bool (Eq.symm ?_), n + nq, by rw [World.drewN_drewN]⟩
          rw [beq_eq_false_iff_ne]
          rintro rfl
          simp at hf
        · have hf : (x[k] != y[k]) = false := by assumption
          go_roundw
          case rel =>
            refine ⟨k + 1, by omega, by go_num, fun j hj => ?_, _, rfl⟩
            by_cases hjk : j < k
            · exact HN.out j hjk
            · have : j = k := by omega
              subst this
              simpa [hlt, hlt2] using hf
          case measure => simp [intOf]; omega
      · go_wp2
        go_ret
        refine ⟨ret_bool (Eq.symm ?_), _, rfl⟩
        rw [beq_iff_eq]
        exact eq_of_all HL.out fun i hi => HN.out i (by omega)
  · have hbe : ((x.length : Int) != (y.length : Int)) = true := by simp; omega
    go_enter Tryd.func22, Tryd.ntmps22
    go_wp2
    go_ret
    refine ⟨ret_bool (Eq.symm ?_), 0, rfl⟩
    rw [beq_eq_false_iff_ne]
    rintro rfl
    exact hl rfl

set_option maxRecDepth 100000 in
set_option maxHeartbeats 400000 in
theorem ahd_any (B : Nat) (x y : List Int) (u v : Value) (p : Addr) (w : World) (hu : Sl B 3 w u (ints x)) (hv : Sl B 3 w v (ints y)) (hp : w.cell? p = some v) :
    Calls Tryd.prog 21 #[u, .pointer (some p)] w fun e w' => e = .returned (.bool (x == y)) ∧ ∃ n, w' = w.drewN n := by
  have HP : Hid (∀ n, Calls Tryd.prog 22 #[u, v] (w.drewN n) fun e w' => e = .returned (.bool (x == y)) ∧ ∃ k, w' = (w.drewN n).drewN k) := fun n => eqlS_any B x y _ _ _ (hu.drewN n) (hv.drewN n)
  generalize (x == y) = R at *
  clear hu hv
  go_enter Tryd.func21, Tryd.ntmps21
  go_wp2_with fail
  refine (HP.out 0).mono ?_
  rintro e w' ⟨rfl, n, rfl⟩
  go_wp2
  go_ret
  exact ⟨rfl, n, rfl⟩

set_option maxRecDepth 100000 in
set_option maxHeartbeats 800000 in
theorem idxA_any (B : Nat) (m : List (List Int)) (y : List Int) (u v : Value) (p : Addr) (w : World) (hu : Mat B 26 3 w u m) (hv : Sl B 3 w v (ints y)) (hp : w.cell? p = some v) :
    Calls Tryd.prog 35 #[u, .func (.func 21) #[] #[.pointer (some p)]] w fun e w' => (∃ z, e = .returned (.int .i64 z) ∧ -1 ≤ z ∧ z < m.length ∧ decide (0 ≤ z) = m.any fun x => x == y) ∧ ∃ n, w' = w.drewN n := by
  obtain ⟨ao, cap, hvv, hlc, hcm⟩ := mat_open hu
  subst hvv
  have HU : Hid (Mat B 26 3 w (.slice ao m.length cap) m) := hu
  have HV : Hid (Sl B 3 w v (ints y)) := hv
  have H1 : Hid (w.cell? p = some v) := hp
  clear hu hv hp
  go_enter Tryd.func35, Tryd.ntmps35
  go_wp2
  go_loopw [8] (fun i wr => ∃ k : Nat, k ≤ m.length ∧ i = .int .i64 k ∧ (m.take k).any (fun x => x == y) = false ∧ ∃ n, wr = w.drewN n) (fun i _ => m.length - (intOf i).toNat)
  case atStart => exact ⟨0, Nat.zero_le _, rfl, by simp, 0, rfl⟩
  case round =>
    obtain ⟨k, hk, rfl, hno, n, rfl⟩ := hrel
    have HN : Hid ((m.take k).any (fun x => x == y) = false) := hno
    clear hno
    by_cases hlt : k < m.length
    · obtain ⟨b1, o, cp, r1, hs, hc1, hcc, hr1⟩ := mat_cell (HU.out.drewN n) hlt
      simp only [Value.slice.injEq] at hs
      obtain ⟨rfl, _, rfl⟩ := hs
      have HS1 : Hid ((m.take (k + 1)).any (fun x => x == y) = (m.getD k [] == y)) := any_take_snoc (p := fun x => x == y) hlt HN.out
      have HG : Hid ((m.getD k [] == y) = true → m.any (fun x => x == y) = true) := fun h => any_get (p := fun x => x == y) hlt h
      have HR1 : Hid (Sl B 3 (w.drewN n) r1 (ints (m.getD k []))) := hr1
      clear hr1
      generalize m.getD k [] = x at *
      go_wp2_with fail
      refine (ahd_any B x y r1 v p (w.drewN n) HR1.out (HV.out.drewN n) H1.out).mono ?_
      rintro e w' ⟨rfl, n2, rfl⟩
      cases hf : (x == y)
      · have HF : Hid ((x == y) = false) := hf
        clear hf
        go_wp2
        go_roundw
        case rel => exact ⟨k + 1, by omega, by go_num, by rw [HS1.out]; exact HF.out, _, rfl⟩
        case measure => simp [intOf]; omega
      · have HF : Hid ((x == y) = true) := hf
        clear hf
        go_wp2
        go_ret
        refine ⟨⟨_, rfl, by omega, by omega, ?_⟩, _, rfl⟩
        rw [decide_eq_true (by omega)]
        exact (HG.out HF.out).symm
    · have HTK : Hid (m.take k = m) := List.take_of_length_le (by omega)
      go_wp2
      go_ret
      exact ⟨⟨-1, rfl, by omega, by omega, by rw [← HTK.out, HN.out]; rfl⟩, n, rfl⟩

set_option maxRecDepth 100000 in
theorem hasA_any (B : Nat) (m : List (List Int)) (y : List Int) (u v : Value) (p : Addr) (w : World) (hu : Mat B 26 3 w u m) (hv : Sl B 3 w v (ints y)) (hp : w.cell? p = some v) :
    Calls Tryd.prog 20 #[u, .func (.func 21) #[] #[.pointer (some p)]] w fun e w' => e = .returned (.bool (m.contains y)) ∧ ∃ n, w' = w.drewN n := by
  have HI : Hid (Calls Tryd.prog 35 #[u, .func (.func 21) #[] #[.pointer (some p)]] w fun e w' => (∃ z, e = .returned (.int .i64 z) ∧ -1 ≤ z ∧ z < m.length ∧ decide (0 ≤ z) = m.any fun x => x == y) ∧ ∃ n, w' = w.drewN n) := idxA_any B m y u v p w hu hv hp
  obtain ⟨ao, cap, hvv, hlc, hcm⟩ := mat_open hu
  subst hvv
  clear hu hv hp
  rw [any_eq_containsR] at HI
  generalize m.contains y = R at *
  go_enter Tryd.func20, Tryd.ntmps20
  go_wp2_with fail
  refine HI.out.mono ?_
  rintro e w' ⟨⟨z, rfl, hz1, hz2, hz3⟩, n, rfl⟩
  have HZ : Hid (decide (0 ≤ z) = R) := hz3
  clear hz3
  go_wp2
  go_ret
  exact ⟨ret_bool HZ.out, n, rfl⟩

set_option maxRecDepth 100000 in
set_option maxHeartbeats 2000000 in
theorem checkS_any (B : Nat) (m : List (List Int)) (v : Value) (w : World) (hv : Mat B 26 3 w v m) :
    Calls Tryd.prog 9 #[v] w fun e w' => e = .returned (.int .i64 (facetsE m)) ∧ Below w.heap.size w w' := by
  obtain ⟨ao, cap, hvv, hlc, hcm⟩ := mat_open hv
  subst hvv
  have HV : Hid (Mat B 26 3 w (.slice ao m.length cap) m) := hv
  clear hv
  by_cases h1 : m.length < 1
  · have b1 : decide ((m.length : Int) < 1) = true := decide_eq_true (by omega)
    have HE : Hid (facetsE m = 2) := if_pos (by omega)
    go_enter Tryd.func9, Tryd.ntmps9
    go_wp2
    go_ret
    exact ⟨by rw [HE.out]; rfl, Below.refl _ _⟩
  · have b1 : decide ((m.length : Int) < 1) = false := decide_eq_false (by omega)
    by_cases h2 : 40 < m.length
    · have b2 : decide ((40 : Int) < (m.length : Int)) = true := decide_eq_true (by omega)
      have HE : Hid (facetsE m = 2) := if_pos (by omega)
      go_enter Tryd.func9, Tryd.ntmps9
      go_wp2
      go_ret
      exact ⟨by rw [HE.out]; rfl, Below.refl _ _⟩
    · have b2 : decide ((40 : Int) < (m.length : Int)) = false := decide_eq_false (by omega)
      have HE : Hid (facetsE m = firstE (simE m) m.length) := if_neg (by omega)
      go_enter Tryd.func9, Tryd.ntmps9
      go_wp2
      go_loopw [16] (fun i wr => ∃ t : Nat, t ≤ m.length ∧ i = .int .i64 t ∧ firstE (simE m) t = 0 ∧ Below w.heap.size w wr) (fun i _ => m.length - (intOf i).toNat)
      case atStart => exact ⟨0, Nat.zero_le _, rfl, rfl, Below.refl _ _⟩
      case round =>
        obtain ⟨t, ht, rfl, hall, hb⟩ := hrel
        have HB : Hid (Below w.heap.size w wr) := hb
        have hsz : w.heap.size ≤ wr.heap.size := hb.size
        have HALL : Hid (firstE (simE m) t = 0) := hall
        by_cases htn : t < m.length
        · obtain ⟨b, o, cp, u, hs, _, hcc, hu⟩ := mat_cell (HV.out.below hb (Nat.le_refl _)) htn
          simp only [Value.slice.injEq, true_and] at hs
          obtain ⟨rfl, rfl⟩ := hs
          obtain ⟨b0, o0, cp0, u0, hs0, _, hcc0, hu0⟩ := mat_cell (HV.out.below hb (Nat.le_refl _)) (k := 0) (by omega)
          simp only [Value.slice.injEq, true_and, Option.some.injEq, Addr.mk.injEq, and_true] at hs0
          obtain ⟨⟨rfl, rfl⟩, rfl⟩ := hs0
          obtain ⟨uo, uc, hue, hul, hum⟩ := sl_open hu
          obtain ⟨uo0, uc0, hue0, hul0, hum0⟩ := sl_open hu0
          subst hue hue0
          have HU : Hid (Sl B 3 wr (.slice uo (m.getD t []).length uc) (ints (m.getD t []))) := hu
          have HTK : Hid (Mat B 26 3 wr (.slice (some ⟨b, o, none⟩) t cap) (m.take t)) := (HV.out.below hb (Nat.le_refl _)).takeM (by omega)
          have HIT : Hid (simE m t ≠ 0 → facetsE m = simE m t) := fun h => by rw [HE.out]; exact firstE_hit HALL.out h _ htn
          have HSI : Hid (simE m t = if listE (m.getD 0 []).length (m.getD t []) = 0 then (if (m.take t).contains (m.getD t []) then 8 else 0) else listE (m.getD 0 []).length (m.getD t [])) := rfl
          simp only [Nat.add_zero] at hcc0
          have hm0I : (0 : Int) < (m.length : Int) := by omega
          have htc : t ≤ cap := by omega
          have hm0 : 0 < m.length := by omega
          clear hu hu0 hb hall
          generalize (m.getD 0 []).length = c at *
          generalize m.getD t [] = x at *
          go_wp2_with fail
          have HNB : Hid (Below w.heap.size w (wr.alloc (Obj.cells #[Value.slice uo x.length uc] 26))) := HB.out.alloc (by omega) _
          have hp : (wr.alloc (Obj.cells #[Value.slice uo x.length uc] 26)).cell? ⟨wr.heap.size, 0, none⟩ = some (.slice uo x.length uc) := by simp
          have hcc1 : (wr.alloc (Obj.cells #[Value.slice uo x.length uc] 26)).cell? ⟨b, o, none⟩ = some (.slice uo0 c uc0) := by
            rw [World.cell?_of_block (w := wr) (a := ⟨b, o, none⟩) (Below.heap_alloc wr _ b (lt_of_cell hcc0))]; exact hcc0
          have HU1 : Hid (Sl B 3 (wr.alloc (Obj.cells #[Value.slice uo x.length uc] 26)) (.slice uo x.length uc) (ints x)) := HU.out.alloc _
          have HTK1 : Hid (Mat B 26 3 (wr.alloc (Obj.cells #[Value.slice uo x.length uc] 26)) (.slice (some ⟨b, o, none⟩) t cap) (m.take t)) := HTK.out.below ((Below.refl _ _).alloc (Nat.le_refl _) _) (Nat.le_refl _)
          clear hcc hcc0
          generalize wr.heap.size = P at *
          generalize wr.alloc (Obj.cells #[Value.slice uo x.length uc] 26) = wA at *
          have HHO : Hid (∀ q, Calls Tryd.prog 19 #[.slice uo x.length uc, .int .i64 c] (wA.drewN q) fun e w' => e = .returned (.int .i64 (listE c x)) ∧ w' = wA.drewN q) := fun q => checkList_any B x c _ (wA.drewN q) (HU1.out.drewN q)
          have HAS : Hid (∀ q, Calls Tryd.prog 20 #[.slice (some ⟨b, o, none⟩) t cap, .func (.func 21) #[] #[.pointer (some ⟨P, 0, none⟩)]] (wA.drewN q) fun e w' => e = .returned (.bool ((m.take t).contains x)) ∧ ∃ n, w' = (wA.drewN q).drewN n) := fun q => hasA_any B (m.take t) x _ _ ⟨P, 0, none⟩ (wA.drewN q) (HTK1.out.drewN q) (HU1.out.drewN q) hp
          generalize (m.take t).contains x = R at *
          generalize listE c x = E at *
          go_region_law (refine step_c2 (o := { dst := some 26, op := _, type := _, pos := _, after := _, guard := _ }) (by rfl) 19 _ _ 26 3 (by rfl) _ _ (by rfl) (by rfl) ⟨_, Tryd.func19, by rfl, by rfl⟩ ?_; refine (HHO.out 1).mono ?_; rintro e w2 ⟨rfl, rfl⟩; refine ⟨_, rfl, ?_⟩)
          all_goals
            by_cases hE : E = 0
            · subst hE
              have HSI0 : Hid (simE m t = if R = true then 8 else 0) := HSI.out
              clear HSI
              go_wp2_with fail
              refine (HAS.out 1).mono ?_
              rintro e w2 ⟨rfl, k2, rfl⟩
              cases R
              · go_wp2
                go_roundw
                case rel => exact ⟨t + 1, by omega, by go_num, firstE_step HALL.out HSI0.out, bel_drewN HNB.out _⟩
                case measure => simp [intOf]; omega
              · have HG : Hid (facetsE m = 8) := by
                  have e2 : simE m t = 8 := HSI0.out
                  have := HIT.out (by rw [e2]; decide)
                  rw [e2] at this; exact this
                go_wp2
                go_ret
                exact ⟨by rw [HG.out]; rfl, bel_drewN HNB.out _⟩
            · have hEb : (E != 0) = true := by simp [hE]
              have HG : Hid (facetsE m = E) := by
                have e2 : simE m t = E := by rw [HSI.out]; exact if_neg hE
                have := HIT.out (by rw [e2]; exact hE)
                rw [e2] at this; exact this
              go_wp2
              go_ret
              exact ⟨by rw [HG.out]; rfl, bel_drewN HNB.out _⟩
        · have hte : t = m.length := by omega
          have HZ : Hid (facetsE m = 0) := by show _ = _; rw [HE.out, ← hte]; exact HALL.out
          clear hb hall
          go_wp2
          go_ret
          exact ⟨by rw [HZ.out]; rfl, HB.out⟩
end Go.Proofs.YtmldemimdejciaaDoor
