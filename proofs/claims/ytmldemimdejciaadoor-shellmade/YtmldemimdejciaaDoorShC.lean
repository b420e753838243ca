import Derived.Test.YtmldemimdejciaaDoorSh5
/- Which simplices may be: the program's answer. -/
namespace Go.Proofs.YtmldemimdejciaaDoor
open Go.RowKit
attribute [local go_sem ↓] Go.wp_at_zero Go.wp_at_succ

set_option maxRecDepth 100000 in
set_option maxHeartbeats 400000 in
theorem eqlS_any (B : Nat) (x y : List Int) (u v : Value) (w : World) (hu : Sl B 3 w u (ints x)) (hv : Sl B 3 w v (ints y)) :
    Calls Tryd.prog 22 #[u, v] w fun e w' => e = .returned (.bool (x == y)) ∧ ∃ n, w' = w.drewN n := by
  have hu' := hu
  have hv' := hv
  obtain ⟨ao, cap, hvv, hlc, hcm, -⟩ := hu'
  obtain ⟨bo, cbp, huu, hlb, hcb, -⟩ := hv'
  simp only [ints_length] at hlc hvv hlb huu
  subst hvv huu
  have HU : Hid (Sl B 3 w (.slice ao x.length cap) (ints x)) := hu
  have HV : Hid (Sl B 3 w (.slice bo y.length cbp) (ints y)) := hv
  clear hu hv
  unfold maxLen at hcm hcb
  by_cases hl : x.length = y.length
  · have hbe : ((x.length : Int) != (y.length : Int)) = false := by simp [hl]
    have HL : Hid (x.length = y.length) := hl
    have hle : y.length ≤ x.length := by omega
    have hge : x.length ≤ y.length := by omega
    clear hl
    go_enter Tryd.func22, Tryd.ntmps22
    go_wp2
    go_loopw [13] (fun i wr => ∃ k : Nat, k ≤ x.length ∧ i = .int .i64 k ∧ (∀ j, j < k → x.getD j 0 = y.getD j 0) ∧ ∃ n, wr = w.drewN n) (fun i _ => x.length - (intOf i).toNat)
    case atStart => exact ⟨0, Nat.zero_le _, rfl, fun j hj => absurd hj (by omega), 0, rfl⟩
    case round =>
      obtain ⟨k, hk, rfl, hno, n, rfl⟩ := hrel
      have HN : Hid (∀ j, j < k → x.getD j 0 = y.getD j 0) := hno
      clear hno
      by_cases hlt : k < x.length
      · have hlt2 : k < y.length := by omega
        obtain ⟨b, o, cp, hs, hc1, hcc⟩ := sl_cell HU.out hlt
        simp only [Value.slice.injEq] at hs
        obtain ⟨rfl, _, rfl⟩ := hs
        obtain ⟨b2, o2, cp2, hs2, hc2, hcc2⟩ := sl_cell HV.out hlt2
        simp only [Value.slice.injEq] at hs2
        obtain ⟨rfl, _, rfl⟩ := hs2
        go_wp2
        go_quiet (fail)
        go_wp2
        · have hf : (x[k] != y[k]) = true := by assumption
          go_ret
          refine ⟨ret_bool (Eq.symm ?_), n + nq, by rw [World.drewN_drewN]⟩
          rw [beq_eq_false_iff_ne]
          rintro rfl
          simp at hf
        · have hf : (x[k] != y[k]) = false := by assumption
          go_roundw
          case rel =>
            refine ⟨k + 1, by omega, by go_num, fun j hj => ?_, _, rfl⟩
            by_cases hjk : j < k
            · exact HN.out j hjk
            · have : j = k := by omega
              subst this
              simpa [hlt, hlt2] using hf
          case measure => simp [intOf]; omega
      · go_wp2
        go_ret
        refine ⟨ret_bool (Eq.symm ?_), _, rfl⟩
        rw [beq_iff_eq]
        exact eq_of_all HL.out fun i hi => HN.out i (by omega)
  · have hbe : ((x.length : Int) != (y.length : Int)) = true := by simp; omega
    go_enter Tryd.func22, Tryd.ntmps22
    go_wp2
    go_ret
    refine ⟨ret_bool (Eq.symm ?_), 0, rfl⟩
    rw [beq_eq_false_iff_ne]
    rintro rfl
    exact hl rfl

set_option maxRecDepth 100000 in
set_option maxHeartbeats 400000 in
theorem ahd_any (B : Nat) (x y : List Int) (u v : Value) (p : Addr) (w : World) (hu : Sl B 3 w u (ints x)) (hv : Sl B 3 w v (ints y)) (hp : w.cell? p = some v) :
    Calls Tryd.prog 21 #[u, .pointer (some p)] w fun e w' => e = .returned (.bool (x == y)) ∧ ∃ n, w' = w.drewN n := by
  have HP : Hid (∀ n, Calls Tryd.prog 22 #[u, v] (w.drewN n) fun e w' => e = .returned (.bool (x == y)) ∧ ∃ k, w' = (w.drewN n).drewN k) := fun n => eqlS_any B x y _ _ _ (hu.drewN n) (hv.drewN n)
  generalize (x == y) = R at *
  clear hu hv
  go_enter Tryd.func21, Tryd.ntmps21
  go_wp2_with fail
  refine (HP.out 0).mono ?_
  rintro e w' ⟨rfl, n, rfl⟩
  go_wp2
  go_ret
  exact ⟨rfl, n, rfl⟩

set_option maxRecDepth 100000 in
set_option maxHeartbeats 800000 in
theorem idxA_any (B : Nat) (m : List (List Int)) (y : List Int) (u v : Value) (p : Addr) (w : World) (hu : Mat B 26 3 w u m) (hv : Sl B 3 w v (ints y)) (hp : w.cell? p = some v) :
    Calls Tryd.prog 35 #[u, .func (.func 21) #[] #[.pointer (some p)]] w fun e w' => (∃ z, e = .returned (.int .i64 z) ∧ -1 ≤ z ∧ z < m.length ∧ decide (0 ≤ z) = m.any fun x => x == y) ∧ ∃ n, w' = w.drewN n := by
  obtain ⟨ao, cap, hvv, hlc, hcm⟩ := mat_open hu
  subst hvv
  have HU : Hid (Mat B 26 3 w (.slice ao m.length cap) m) := hu
  have HV : Hid (Sl B 3 w v (ints y)) := hv
  have H1 : Hid (w.cell? p = some v) := hp
  clear hu hv hp
  go_enter Tryd.func35, Tryd.ntmps35
  go_wp2
  go_loopw [8] (fun i wr => ∃ k : Nat, k ≤ m.length ∧ i = .int .i64 k ∧ (m.take k).any (fun x => x == y) = false ∧ ∃ n, wr = w.drewN n) (fun i _ => m.length - (intOf i).toNat)
  case atStart => exact ⟨0, Nat.zero_le _, rfl, by simp, 0, rfl⟩
  case round =>
    obtain ⟨k, hk, rfl, hno, n, rfl⟩ := hrel
    have HN : Hid ((m.take k).any (fun x => x == y) = false) := hno
    clear hno
    by_cases hlt : k < m.length
    · obtain ⟨b1, o, cp, r1, hs, hc1, hcc, hr1⟩ := mat_cell (HU.out.drewN n) hlt
      simp only [Value.slice.injEq] at hs
      obtain ⟨rfl, _, rfl⟩ := hs
      have HS1 : Hid ((m.take (k + 1)).any (fun x => x == y) = (m.getD k [] == y)) := any_take_snoc (p := fun x => x == y) hlt HN.out
      have HG : Hid ((m.getD k [] == y) = true → m.any (fun x => x == y) = true) := fun h => any_get (p := fun x => x == y) hlt h
      have HR1 : Hid (Sl B 3 (w.drewN n) r1 (ints (m.getD k []))) := hr1
      clear hr1
      generalize m.getD k [] = x at *
      go_wp2_with fail
      refine (ahd_any B x y r1 v p (w.drewN n) HR1.out (HV.out.drewN n) H1.out).mono ?_
      rintro e w' ⟨rfl, n2, rfl⟩
      cases hf : (x == y)
      · have HF : Hid ((x == y) = false) := hf
        clear hf
        go_wp2
        go_roundw
        case rel => exact ⟨k + 1, by omega, by go_num, by rw [HS1.out]; exact HF.out, _, rfl⟩
        case measure => simp [intOf]; omega
      · have HF : Hid ((x == y) = true) := hf
        clear hf
        go_wp2
        go_ret
        refine ⟨⟨_, rfl, by omega, by omega, ?_⟩, _, rfl⟩
        rw [decide_eq_true (by omega)]
        exact (HG.out HF.out).symm
    · have HTK : Hid (m.take k = m) := List.take_of_length_le (by omega)
      go_wp2
      go_ret
      exact ⟨⟨-1, rfl, by omega, by omega, by rw [← HTK.out, HN.out]; rfl⟩, n, rfl⟩

set_option maxRecDepth 100000 in
theorem hasA_any (B : Nat) (m : List (List Int)) (y : List Int) (u v : Value) (p : Addr) (w : World) (hu : Mat B 26 3 w u m) (hv : Sl B 3 w v (ints y)) (hp : w.cell? p = some v) :
    Calls Tryd.prog 20 #[u, .func (.func 21) #[] #[.pointer (some p)]] w fun e w' => e = .returned (.bool (m.contains y)) ∧ ∃ n, w' = w.drewN n := by
  have HI : Hid (Calls Tryd.prog 35 #[u, .func (.func 21) #[] #[.pointer (some p)]] w fun e w' => (∃ z, e = .returned (.int .i64 z) ∧ -1 ≤ z ∧ z < m.length ∧ decide (0 ≤ z) = m.any fun x => x == y) ∧ ∃ n, w' = w.drewN n) := idxA_any B m y u v p w hu hv hp
  obtain ⟨ao, cap, hvv, hlc, hcm⟩ := mat_open hu
  subst hvv
  clear hu hv hp
  rw [any_eq_containsR] at HI
  generalize m.contains y = R at *
  go_enter Tryd.func20, Tryd.ntmps20
  go_wp2_with fail
  refine HI.out.mono ?_
  rintro e w' ⟨⟨z, rfl, hz1, hz2, hz3⟩, n, rfl⟩
  have HZ : Hid (decide (0 ≤ z) = R) := hz3
  clear hz3
  go_wp2
  go_ret
  exact ⟨ret_bool HZ.out, n, rfl⟩

set_option maxRecDepth 100000 in
set_option maxHeartbeats 2000000 in
theorem checkS_any (B : Nat) (m : List (List Int)) (v : Value) (w : World) (hv : Mat B 26 3 w v m) :
    Calls Tryd.prog 9 #[v] w fun e w' => e = .returned (.int .i64 (facetsE m)) ∧ Below w.heap.size w w' := by
  obtain ⟨ao, cap, hvv, hlc, hcm⟩ := mat_open hv
  subst hvv
  have HV : Hid (Mat B 26 3 w (.slice ao m.length cap) m) := hv
  clear hv
  by_cases h1 : m.length < 1
  · have b1 : decide ((m.length : Int) < 1) = true := decide_eq_true (by omega)
    have HE : Hid (facetsE m = 2) := if_pos (by omega)
    go_enter Tryd.func9, Tryd.ntmps9
    go_wp2
    go_ret
    exact ⟨by rw [HE.out]; rfl, Below.refl _ _⟩
  · have b1 : decide ((m.length : Int) < 1) = false := decide_eq_false (by omega)
    by_cases h2 : 40 < m.length
    · have b2 : decide ((40 : Int) < (m.length : Int)) = true := decide_eq_true (by omega)
      have HE : Hid (facetsE m = 2) := if_pos (by omega)
      go_enter Tryd.func9, Tryd.ntmps9
      go_wp2
      go_ret
      exact ⟨by rw [HE.out]; rfl, Below.refl _ _⟩
    · have b2 : decide ((40 : Int) < (m.length : Int)) = false := decide_eq_false (by omega)
      have HE : Hid (facetsE m = firstE (simE m) m.length) := if_neg (by omega)
      go_enter Tryd.func9, Tryd.ntmps9
      go_wp2
      go_loopw [16] (fun i wr => ∃ t : Nat, t ≤ m.length ∧ i = .int .i64 t ∧ firstE (simE m) t = 0 ∧ Below w.heap.size w wr) (fun i _ => m.length - (intOf i).toNat)
      case atStart => exact ⟨0, Nat.zero_le _, rfl, rfl, Below.refl _ _⟩
      case round =>
        obtain ⟨t, ht, rfl, hall, hb⟩ := hrel
        have HB : Hid (Below w.heap.size w wr) := hb
        have hsz : w.heap.size ≤ wr.heap.size := hb.size
        have HALL : Hid (firstE (simE m) t = 0) := hall
        by_cases htn : t < m.length
        · obtain ⟨b, o, cp, u, hs, _, hcc, hu⟩ := mat_cell (HV.out.below hb (Nat.le_refl _)) htn
          simp only [Value.slice.injEq, true_and] at hs
          obtain ⟨rfl, rfl⟩ := hs
          obtain ⟨b0, o0, cp0, u0, hs0, _, hcc0, hu0⟩ := mat_cell (HV.out.below hb (Nat.le_refl _)) (k := 0) (by omega)
          simp only [Value.slice.injEq, true_and, Option.some.injEq, Addr.mk.injEq, and_true] at hs0
          obtain ⟨⟨rfl, rfl⟩, rfl⟩ := hs0
          obtain ⟨uo, uc, hue, hul, hum⟩ := sl_open hu
          obtain ⟨uo0, uc0, hue0, hul0, hum0⟩ := sl_open hu0
          subst hue hue0
          have HU : Hid (Sl B 3 wr (.slice uo (m.getD t []).length uc) (ints (m.getD t []))) := hu
          have HTK : Hid (Mat B 26 3 wr (.slice (some ⟨b, o, none⟩) t cap) (m.take t)) := (HV.out.below hb (Nat.le_refl _)).takeM (by omega)
          have HIT : Hid (simE m t ≠ 0 → facetsE m = simE m t) := fun h => by rw [HE.out]; exact firstE_hit HALL.out h _ htn
          have HSI : Hid (simE m t = if listE (m.getD 0 []).length (m.getD t []) = 0 then (if (m.take t).contains (m.getD t []) then 8 else 0) else listE (m.getD 0 []).length (m.getD t [])) := rfl
          simp only [Nat.add_zero] at hcc0
          have hm0I : (0 : Int) < (m.length : Int) := by omega
          have htc : t ≤ cap := by omega
          have hm0 : 0 < m.length := by omega
          clear hu hu0 hb hall
          generalize (m.getD 0 []).length = c at *
          generalize m.getD t [] = x at *
          go_wp2_with fail
          have HNB : Hid (Below w.heap.size w (wr.alloc (Obj.cells #[Value.slice uo x.length uc] 26))) := HB.out.alloc (by omega) _
          have hp : (wr.alloc (Obj.cells #[Value.slice uo x.length uc] 26)).cell? ⟨wr.heap.size, 0, none⟩ = some (.slice uo x.length uc) := by simp
          have hcc1 : (wr.alloc (Obj.cells #[Value.slice uo x.length uc] 26)).cell? ⟨b, o, none⟩ = some (.slice uo0 c uc0) := by
            rw [World.cell?_of_block (w := wr) (a := ⟨b, o, none⟩) (Below.heap_alloc wr _ b (lt_of_cell hcc0))]; exact hcc0
          have HU1 : Hid (Sl B 3 (wr.alloc (Obj.cells #[Value.slice uo x.length uc] 26)) (.slice uo x.length uc) (ints x)) := HU.out.alloc _
          have HTK1 : Hid (Mat B 26 3 (wr.alloc (Obj.cells #[Value.slice uo x.length uc] 26)) (.slice (some ⟨b, o, none⟩) t cap) (m.take t)) := HTK.out.below ((Below.refl _ _).alloc (Nat.le_refl _) _) (Nat.le_refl _)
          clear hcc hcc0
          generalize wr.heap.size = P at *
          generalize wr.alloc (Obj.cells #[Value.slice uo x.length uc] 26) = wA at *
          have HHO : Hid (∀ q, Calls Tryd.prog 19 #[.slice uo x.length uc, .int .i64 c] (wA.drewN q) fun e w' => e = .returned (.int .i64 (listE c x)) ∧ w' = wA.drewN q) := fun q => checkList_any B x c _ (wA.drewN q) (HU1.out.drewN q)
          have HAS : Hid (∀ q, Calls Tryd.prog 20 #[.slice (some ⟨b, o, none⟩) t cap, .func (.func 21) #[] #[.pointer (some ⟨P, 0, none⟩)]] (wA.drewN q) fun e w' => e = .returned (.bool ((m.take t).contains x)) ∧ ∃ n, w' = (wA.drewN q).drewN n) := fun q => hasA_any B (m.take t) x _ _ ⟨P, 0, none⟩ (wA.drewN q) (HTK1.out.drewN q) (HU1.out.drewN q) hp
          generalize (m.take t).contains x = R at *
          generalize listE c x = E at *
          go_region_law (refine step_c2 (o := { dst := some 26, op := _, type := _, pos := _, after := _, guard := _ }) (by rfl) 19 _ _ 26 3 (by rfl) _ _ (by rfl) (by rfl) ⟨_, Tryd.func19, by rfl, by rfl⟩ ?_; refine (HHO.out 1).mono ?_; rintro e w2 ⟨rfl, rfl⟩; refine ⟨_, rfl, ?_⟩)
          all_goals
            by_cases hE : E = 0
            · subst hE
              have HSI0 : Hid (simE m t = if R = true then 8 else 0) := HSI.out
              clear HSI
              go_wp2_with fail
              refine (HAS.out 1).mono ?_
              rintro e w2 ⟨rfl, k2, rfl⟩
              cases R
              · go_wp2
                go_roundw
                case rel => exact ⟨t + 1, by omega, by go_num, firstE_step HALL.out HSI0.out, bel_drewN HNB.out _⟩
                case measure => simp [intOf]; omega
              · have HG : Hid (facetsE m = 8) := by
                  have e2 : simE m t = 8 := HSI0.out
                  have := HIT.out (by rw [e2]; decide)
                  rw [e2] at this; exact this
                go_wp2
                go_ret
                exact ⟨by rw [HG.out]; rfl, bel_drewN HNB.out _⟩
            · have hEb : (E != 0) = true := by simp [hE]
              have HG : Hid (facetsE m = E) := by
                have e2 : simE m t = E := by rw [HSI.out]; exact if_neg hE
                have := HIT.out (by rw [e2]; exact hE)
                rw [e2] at this; exact this
              go_wp2
              go_ret
              exact ⟨by rw [HG.out]; rfl, bel_drewN HNB.out _⟩
        · have hte : t = m.length := by omega
          have HZ : Hid (facetsE m = 0) := by show _ = _; rw [HE.out, ← hte]; exact HALL.out
          clear hb hall
          go_wp2
          go_ret
          exact ⟨by rw [HZ.out]; rfl, HB.out⟩
end Go.Proofs.YtmldemimdejciaaDoor

/- The sides of a simplex that are met: the program. -/
namespace Go.Proofs.YtmldemimdejciaaDoor
open Go.RowKit
attribute [local go_sem ↓] Go.wp_at_zero Go.wp_at_succ

/-- Sets, as values. -/
def nats (ns : List Nat) : List Value := ns.map fun (n : Nat) => Value.int .u64 (n : Int)

@[simp] theorem nats_length (ns : List Nat) : (nats ns).length = ns.length := by simp [nats]

theorem nats_get (ns : List Nat) (i : Nat) (h : i < ns.length) : (nats ns)[i]? = some (.int .u64 (ns.getD i 0 : Nat)) := by
  simp [nats, h]

theorem sl_cellS {B : Nat} {w : World} {v : Value} {ns : List Nat} (h : Sl B 43 w v (nats ns)) {k : Nat} (hk : k < ns.length) :
    ∃ b o cap, v = .slice (some ⟨b, o, none⟩) ns.length cap ∧ ns.length ≤ cap ∧ w.cell? ⟨b, o + k, none⟩ = some (.int .u64 (ns.getD k 0 : Nat)) := by
  obtain ⟨b, o, cap, hv, h1, _, h3⟩ := h.at (by simp; omega)
  simp only [nats_length] at hv h1 h3
  exact ⟨b, o, cap, hv, h1, by rw [h3 k hk, nats_get ns k hk]⟩

theorem sl_openS {B : Nat} {e : TypeId} {w : World} {v : Value} {x : List Nat} (h : Sl B e w v (nats x)) : ∃ ao cap, v = .slice ao x.length cap ∧ x.length ≤ cap ∧ cap ≤ 9223372036854775807 := by
  obtain ⟨ao, cap, rfl, h2, h3, _⟩ := h
  refine ⟨ao, cap, by simp, by simpa using h2, ?_⟩
  unfold maxLen at h3; omega

/-- All below 2^64. -/
def L64 (ns : List Nat) : Prop := ∀ n ∈ ns, n < 18446744073709551616

set_option maxRecDepth 100000 in
set_option maxHeartbeats 800000 in
theorem idxB_any (B : Nat) (ns : List Nat) (s : Nat) (u : Value) (w : World) (hu : Sl B 43 w u (nats ns)) (hn : L64 ns) (hs : s < 18446744073709551616) :
    Calls Tryd.prog 45 #[u, .func (.func 33) #[.int .u64 (s : Int)] #[]] w fun e w' => (∃ z, e = .returned (.int .i64 z) ∧ -1 ≤ z ∧ z < ns.length ∧ decide (0 ≤ z) = ns.any fun a => outN s a == 0) ∧ w' = w := by
  obtain ⟨ao, cap, hvv, hlc, hcm⟩ := sl_openS hu
  subst hvv
  have HU : Hid (Sl B 43 w (.slice ao ns.length cap) (nats ns)) := hu
  have HL : Hid (L64 ns) := hn
  clear hu hn
  go_enter Tryd.func45, Tryd.ntmps45
  go_wp2
  go_loopw [8] (fun i wr => ∃ k : Nat, k ≤ ns.length ∧ i = .int .i64 k ∧ (ns.take k).any (fun a => outN s a == 0) = false ∧ wr = w) (fun i _ => ns.length - (intOf i).toNat)
  case atStart => exact ⟨0, Nat.zero_le _, rfl, by simp, rfl⟩
  case round =>
    obtain ⟨k, hk, rfl, hno, rfl⟩ := hrel
    have HN : Hid ((ns.take k).any (fun a => outN s a == 0) = false) := hno
    clear hno
    by_cases hlt : k < ns.length
    · obtain ⟨b1, o, cp, hss, hc1, hcc⟩ := sl_cellS HU.out hlt
      simp only [Value.slice.injEq] at hss
      obtain ⟨rfl, _, rfl⟩ := hss
      have HS1 : Hid ((ns.take (k + 1)).any (fun a => outN s a == 0) = (outN s (ns.getD k 0) == 0)) := any_take_snoc (p := fun a => outN s a == 0) hlt HN.out
      have HG : Hid ((outN s (ns.getD k 0) == 0) = true → ns.any (fun a => outN s a == 0) = true) := fun h => any_get (p := fun a => outN s a == 0) hlt h
      have HX : Hid (ns.getD k 0 < 18446744073709551616) := HL.out _ (by simp [hlt])
      generalize ns.getD k 0 = x at *
      go_wp2_with fail
      refine (in_any s x wr hs HX.out).mono ?_
      rintro e w' ⟨rfl, hw'⟩
      subst hw'
      cases hf : (outN s x == 0)
      · have HF : Hid ((outN s x == 0) = false) := hf
        clear hf
        go_wp2
        go_roundw
        case rel => exact ⟨k + 1, by omega, by go_num, by rw [HS1.out]; exact HF.out, trivial⟩
        case measure => simp [intOf]; omega
      · have HF : Hid ((outN s x == 0) = true) := hf
        clear hf
        go_wp2
        go_ret
        refine ⟨⟨_, rfl, by omega, by omega, ?_⟩, rfl⟩
        rw [decide_eq_true (by omega)]
        exact (HG.out HF.out).symm
    · have HTK : Hid (ns.take k = ns) := List.take_of_length_le (by omega)
      go_wp2
      go_ret
      exact ⟨⟨-1, rfl, by omega, by omega, by rw [← HTK.out, HN.out]; rfl⟩, rfl⟩

set_option maxRecDepth 100000 in
theorem hasB_any (B : Nat) (ns : List Nat) (s : Nat) (u : Value) (w : World) (hu : Sl B 43 w u (nats ns)) (hn : L64 ns) (hs : s < 18446744073709551616) :
    Calls Tryd.prog 32 #[u, .func (.func 33) #[.int .u64 (s : Int)] #[]] w fun e w' => e = .returned (.bool (ns.any fun a => outN s a == 0)) ∧ w' = w := by
  have HI : Hid (Calls Tryd.prog 45 #[u, .func (.func 33) #[.int .u64 (s : Int)] #[]] w fun e w' => (∃ z, e = .returned (.int .i64 z) ∧ -1 ≤ z ∧ z < ns.length ∧ decide (0 ≤ z) = ns.any fun a => outN s a == 0) ∧ w' = w) := idxB_any B ns s u w hu hn hs
  obtain ⟨ao, cap, hvv, hlc, hcm⟩ := sl_openS hu
  subst hvv
  clear hu hn
  generalize (ns.any fun a => outN s a == 0) = R at *
  go_enter Tryd.func32, Tryd.ntmps32
  go_wp2_with fail
  refine HI.out.mono ?_
  rintro e w' ⟨⟨z, rfl, hz1, hz2, hz3⟩, rfl⟩
  have HZ : Hid (decide (0 ≤ z) = R) := hz3
  clear hz3
  go_wp2
  go_ret
  exact ⟨ret_bool HZ.out, rfl⟩

set_option maxRecDepth 100000 in
theorem meet1_any (B : Nat) (ns : List Nat) (x o : Nat) (u : Value) (p q : Addr) (w : World) (hu : Sl B 43 w u (nats ns)) (hn : L64 ns) (hx : x < 18446744073709551616) (ho : o < 18446744073709551616)
    (hp : w.cell? p = some u) (hq : w.cell? q = some (.int .u64 (x : Int))) :
    Calls Tryd.prog 34 #[.int .u64 (o : Int), .pointer (some p), .pointer (some q)] w fun e w' => e = .returned (.bool (!(ns.any fun a => outN (x &&& o) a == 0))) ∧ w' = w := by
  have hand := bits_and_u64_nat x o hx ho
  have hlt : x &&& o < 18446744073709551616 := Nat.lt_of_le_of_lt Nat.and_le_left hx
  have HH : Hid (Calls Tryd.prog 32 #[u, .func (.func 33) #[.int .u64 ((x &&& o : Nat) : Int)] #[]] w fun e w' => e = .returned (.bool (ns.any fun a => outN (x &&& o) a == 0)) ∧ w' = w) := hasB_any B ns (x &&& o) u w hu hn hlt
  generalize (ns.any fun a => outN (x &&& o) a == 0) = R at *
  generalize x &&& o = xo at *
  clear hu hn hlt
  go_enter Tryd.func34, Tryd.ntmps34
  go_wp2_with (first | fail | simp only [hand])
  refine HH.out.mono ?_
  rintro e w' ⟨rfl, rfl⟩
  go_wp2
  go_ret
  exact ⟨rfl, rfl⟩

set_option maxRecDepth 100000 in
set_option maxHeartbeats 800000 in
theorem idxC_any (B : Nat) (ms ns : List Nat) (x : Nat) (u v : Value) (p q : Addr) (w : World) (hv : Sl B 43 w v (nats ms)) (hm : L64 ms) (hu : Sl B 43 w u (nats ns)) (hn : L64 ns) (hx : x < 18446744073709551616)
    (hp : w.cell? p = some u) (hq : w.cell? q = some (.int .u64 (x : Int))) :
    Calls Tryd.prog 45 #[v, .func (.func 34) #[] #[.pointer (some p), .pointer (some q)]] w fun e w' => (∃ z, e = .returned (.int .i64 z) ∧ -1 ≤ z ∧ z < ms.length ∧ decide (0 ≤ z) = ms.any fun o => !(ns.any fun a => outN (x &&& o) a == 0)) ∧ w' = w := by
  obtain ⟨ao, cap, hvv, hlc, hcm⟩ := sl_openS hv
  subst hvv
  have HV : Hid (Sl B 43 w (.slice ao ms.length cap) (nats ms)) := hv
  have HL : Hid (L64 ms) := hm
  have HC : Hid (∀ o : Nat, o < 18446744073709551616 → Calls Tryd.prog 34 #[.int .u64 (o : Int), .pointer (some p), .pointer (some q)] w fun e w' => e = .returned (.bool ((fun o => !(ns.any fun a => outN (x &&& o) a == 0)) o)) ∧ w' = w) := fun o ho => meet1_any B ns x o u p q w hu hn hx ho hp hq
  clear hu hn hv hm hp hq
  generalize (fun o => !(ns.any fun a => outN (x &&& o) a == 0)) = P at *
  go_enter Tryd.func45, Tryd.ntmps45
  go_wp2
  go_loopw [8] (fun i wr => ∃ k : Nat, k ≤ ms.length ∧ i = .int .i64 k ∧ (ms.take k).any P = false ∧ wr = w) (fun i _ => ms.length - (intOf i).toNat)
  case atStart => exact ⟨0, Nat.zero_le _, rfl, by simp, rfl⟩
  case round =>
    obtain ⟨k, hk, rfl, hno, rfl⟩ := hrel
    have HN : Hid ((ms.take k).any P = false) := hno
    clear hno
    by_cases hlt : k < ms.length
    · obtain ⟨b1, o, cp, hss, hc1, hcc⟩ := sl_cellS HV.out hlt
      simp only [Value.slice.injEq] at hss
      obtain ⟨rfl, _, rfl⟩ := hss
      have HS1 : Hid ((ms.take (k + 1)).any P = P (ms.getD k 0)) := any_take_snoc (p := P) hlt HN.out
      have HG : Hid (P (ms.getD k 0) = true → ms.any P = true) := fun h => any_get (p := P) hlt h
      have HX : Hid (ms.getD k 0 < 18446744073709551616) := HL.out _ (by simp [hlt])
      generalize ms.getD k 0 = y at *
      go_wp2_with fail
      refine (HC.out y HX.out).mono ?_
      rintro e w' ⟨rfl, hw'⟩
      subst hw'
      cases hf : P y
      · have HF : Hid (P y = false) := hf
        clear hf
        go_wp2
        go_roundw
        case rel => exact ⟨k + 1, by omega, by go_num, by rw [HS1.out]; exact HF.out, trivial⟩
        case measure => simp [intOf]; omega
      · have HF : Hid (P y = true) := hf
        clear hf
        go_wp2
        go_ret
        refine ⟨⟨_, rfl, by omega, by omega, ?_⟩, rfl⟩
        rw [decide_eq_true (by omega)]
        exact (HG.out HF.out).symm
    · have HTK : Hid (ms.take k = ms) := List.take_of_length_le (by omega)
      go_wp2
      go_ret
      exact ⟨⟨-1, rfl, by omega, by omega, by rw [← HTK.out, HN.out]; rfl⟩, rfl⟩

set_option maxRecDepth 100000 in
theorem hasC_any (B : Nat) (ms ns : List Nat) (x : Nat) (u v : Value) (p q : Addr) (w : World) (hv : Sl B 43 w v (nats ms)) (hm : L64 ms) (hu : Sl B 43 w u (nats ns)) (hn : L64 ns) (hx : x < 18446744073709551616)
    (hp : w.cell? p = some u) (hq : w.cell? q = some (.int .u64 (x : Int))) :
    Calls Tryd.prog 32 #[v, .func (.func 34) #[] #[.pointer (some p), .pointer (some q)]] w fun e w' => e = .returned (.bool (ms.any fun o => !(ns.any fun a => outN (x &&& o) a == 0))) ∧ w' = w := by
  have HI : Hid (Calls Tryd.prog 45 #[v, .func (.func 34) #[] #[.pointer (some p), .pointer (some q)]] w fun e w' => (∃ z, e = .returned (.int .i64 z) ∧ -1 ≤ z ∧ z < ms.length ∧ decide (0 ≤ z) = ms.any fun o => !(ns.any fun a => outN (x &&& o) a == 0)) ∧ w' = w) := idxC_any B ms ns x u v p q w hv hm hu hn hx hp hq
  obtain ⟨ao, cap, hvv, hlc, hcm⟩ := sl_openS hv
  subst hvv
  clear hu hn hv hm hp hq
  generalize (ms.any fun o => !(ns.any fun a => outN (x &&& o) a == 0)) = R at *
  go_enter Tryd.func32, Tryd.ntmps32
  go_wp2_with fail
  refine HI.out.mono ?_
  rintro e w' ⟨⟨z, rfl, hz1, hz2, hz3⟩, rfl⟩
  have HZ : Hid (decide (0 ≤ z) = R) := hz3
  clear hz3
  go_wp2
  go_ret
  exact ⟨ret_bool HZ.out, rfl⟩

end Go.Proofs.YtmldemimdejciaaDoor

/- The sides of a simplex that are met: the program, its two functions. -/
namespace Go.Proofs.YtmldemimdejciaaDoor
open Go.RowKit
attribute [local go_sem ↓] Go.wp_at_zero Go.wp_at_succ

theorem Tryd.info43' : (Tryd.prog.info? 43).map (fun i => (i.zero, i.size, i.bytes)) = some (some (.int .u64 0), 1, 8) := by kernel_rfl

theorem owns_lower {B B' : Nat} {e : TypeId} {w : World} {v : Value} {n : Nat} {xs : List Value} (h : w.ownsRow B e 1 v n xs) (hB : B' ≤ B) : w.ownsRow B' e 1 v n xs := by
  obtain ⟨h1, h2⟩ := h
  refine ⟨h1, ?_⟩
  rcases h2 with h2 | ⟨g, cap, cur, q1, q2, q3⟩
  · exact Or.inl h2
  · exact Or.inr ⟨g, cap, cur, q1, by omega, q3⟩

theorem one_u64 (z : Int) : ∀ u ∈ [Value.int .u64 z], u.oneCell' = true := by
  intro u hu; simp at hu; subst hu; rfl

theorem owns_pushS {M N : Nat} {e : TypeId} {w0 w w1 : World} {v v' : Value} {l : List Nat} {z : Nat} {o : Obj} (hN : M ≤ w.heap.size) (h : w.ownsRow M e 1 v l.length (nats l)) (hb : Below M w0 w)
    (ho : w1.ownsRow M e 1 v' N (nats l ++ [.int .u64 (z : Int)])) (hg : (w.alloc o).grownBy w1 v.ownBlock) (hn : N = l.length + 1) :
    w1.ownsRow M e 1 v' (l ++ [z]).length (nats (l ++ [z])) ∧ Below M w0 w1 := by
  subst hn
  refine ⟨by simpa [nats] using ho, ?_⟩
  refine (hb.alloc hN o).grown hg (by simp; omega) ?_
  intro k hk
  exact (h.lt k hk).1

set_option maxRecDepth 100000 in
set_option maxHeartbeats 400000 in
theorem meets_any (B : Nat) (ms ns : List Nat) (x : Nat) (u v : Value) (w : World) (hv : Sl B 43 w v (nats ms)) (hm : L64 ms) (hu : Sl B 43 w u (nats ns)) (hn : L64 ns) (hx : x < 18446744073709551616) :
    Calls Tryd.prog 18 #[.int .u64 (x : Int), v, u] w fun e w' => e = .returned (.bool (!(ms.any fun o => !(ns.any fun a => outN (x &&& o) a == 0)))) ∧ Below w.heap.size w w' := by
  obtain ⟨ao, cap, hvv, hlc, hcm⟩ := sl_openS hv
  obtain ⟨bo, cbp, huu, hlb, hcb⟩ := sl_openS hu
  subst hvv huu
  have HV : Hid (Sl B 43 w (.slice ao ms.length cap) (nats ms)) := hv
  have HU : Hid (Sl B 43 w (.slice bo ns.length cbp) (nats ns)) := hu
  have HM : Hid (L64 ms) := hm
  have HN : Hid (L64 ns) := hn
  clear hu hn hv hm
  go_enter Tryd.func18, Tryd.ntmps18
  go_wp2_with fail
  have HB2 : Hid (Below w.heap.size w ((w.alloc (Obj.cells #[Value.int IntKind.u64 (x : Int)] 43)).alloc (Obj.cells #[Value.slice bo ns.length cbp] 41))) := ((Below.refl _ _).alloc (Nat.le_refl _) _).alloc (by simp) _
  have hp : ((w.alloc (Obj.cells #[Value.int IntKind.u64 (x : Int)] 43)).alloc (Obj.cells #[Value.slice bo ns.length cbp] 41)).cell? ⟨w.heap.size + 1, 0, none⟩ = some (.slice bo ns.length cbp) := by
    have := one_new (w.alloc (Obj.cells #[Value.int IntKind.u64 (x : Int)] 43)) (Value.slice bo ns.length cbp) 41 0 _ rfl
    have e : (w.alloc (Obj.cells #[Value.int IntKind.u64 (x : Int)] 43)).heap.size = w.heap.size + 1 := by simp
    rw [e] at this
    simpa only [Addr.add, if_true] using this
  have hq : ((w.alloc (Obj.cells #[Value.int IntKind.u64 (x : Int)] 43)).alloc (Obj.cells #[Value.slice bo ns.length cbp] 41)).cell? ⟨w.heap.size, 0, none⟩ = some (.int .u64 (x : Int)) := by
    rw [World.cell?_of_block (w := w.alloc (Obj.cells #[Value.int IntKind.u64 (x : Int)] 43)) (a := ⟨w.heap.size, 0, none⟩) (Below.heap_alloc _ _ _ (by simp))]
    simp
  refine (hasC_any B ms ns x _ _ ⟨w.heap.size + 1, 0, none⟩ ⟨w.heap.size, 0, none⟩ _ ((HV.out.alloc _).alloc _) HM.out ((HU.out.alloc _).alloc _) HN.out hx hp hq).mono ?_
  rintro e w' ⟨rfl, hw'⟩
  rw [hw']
  go_wp2
  go_ret
  exact ⟨rfl, HB2.out⟩

set_option maxRecDepth 100000 in
set_option maxHeartbeats 800000 in
theorem sidesMet_any (B : Nat) (zs : List Int) (ns : List Nat) (u : Value) (w : World) (hu : Sl B 43 w u (nats ns)) (hn : L64 ns) (hb : B64 zs) (hr : Ris zs) (hT : TabB w) (hl : zs.length ≤ 1000) :
    Calls Tryd.prog 17 #[.int .u64 (setN zs), u] w fun e w' => ∃ z, e = .returned z ∧ w'.ownsRow w.heap.size 43 1 z (((zs.map fun v => setN (butL zs v)).filter fun s => ns.any fun a => outN s a == 0)).length (nats ((zs.map fun v => setN (butL zs v)).filter fun s => ns.any fun a => outN s a == 0)) ∧ Below w.heap.size w w' := by
  obtain ⟨i3, hi3, hz30, hz31, hz32⟩ := info_parts Tryd.info43'
  obtain ⟨bo, cbp, huu, hlb, hcb⟩ := sl_openS hu
  subst huu
  have HU : Hid (Sl B 43 w (.slice bo ns.length cbp) (nats ns)) := hu
  have HN : Hid (L64 ns) := hn
  have HB : Hid (B64 zs) := hb
  have HR : Hid (Ris zs) := hr
  have HT : Hid (TabB w) := hT
  clear hu hn hb hr hT
  obtain ⟨F, hF⟩ : ∃ F : Nat → List Nat, ∀ k, F k = ((zs.take k).map fun v => setN (butL zs v)).filter fun s => ns.any fun a => outN s a == 0 := ⟨_, fun _ => rfl⟩
  have HF0 : Hid (F 0 = []) := by show _ = _; rw [hF]; rfl
  have HFE : Hid (F zs.length = (zs.map fun v => setN (butL zs v)).filter fun s => ns.any fun a => outN s a == 0) := by show _ = _; rw [hF, List.take_length]
  have HFS : Hid (∀ k, k < zs.length → F (k + 1) = if (ns.any fun a => outN (setN (butL zs (zs.getD k 0))) a == 0) then F k ++ [setN (butL zs (zs.getD k 0))] else F k) := by
    intro k hk
    rw [hF, hF, take_snoc_int zs k hk, List.map_append, List.filter_append]
    cases h : (ns.any fun a => outN (setN (butL zs (zs.getD k 0))) a == 0)
    · simp only [List.map_cons, List.map_nil, List.filter_cons, h, List.filter_nil]; simp
    · simp only [List.map_cons, List.map_nil, List.filter_cons, h, List.filter_nil]; simp
  have HFL : Hid (∀ k, k ≤ zs.length → (F k).length ≤ k) := by
    intro k hk
    rw [hF]
    exact Nat.le_trans (List.length_filter_le _ _) (by simp; omega)
  rw [← HFE.out]
  clear hF
  go_enter Tryd.func17, Tryd.ntmps17
  go_wp2_with fail
  refine (list_any zs w HB.out HR.out HT.out hl).mono ?_
  rintro e w1 ⟨lv, rfl, hlo, hb1⟩
  have HLO : Hid (Sl w1.heap.size 3 w1 lv (ints zs)) := Sl.own hlo
  have HB1 : Hid (Below w.heap.size w w1) := hb1
  have hsz1 : w.heap.size ≤ w1.heap.size := hb1.size
  have HU1 : Hid (Sl B 43 w1 (.slice bo ns.length cbp) (nats ns)) := HU.out.below hb1 (Nat.le_refl _)
  obtain ⟨lo, lc, hlv⟩ := owns_form hlo
  subst hlv
  clear hlo hb1 HU
  go_wp2
  go_loopw [5, 12] (fun s i wr => ∃ k : Nat, k ≤ zs.length ∧ i = .int .i64 k ∧ wr.ownsRow w1.heap.size 43 1 s (F k).length (nats (F k)) ∧ Below w1.heap.size w1 wr ∧ Below w.heap.size w wr) (fun _ i _ => zs.length - (intOf i).toNat)
  case atStart => exact ⟨0, Nat.zero_le _, rfl, by rw [HF0.out]; exact World.ownsRow_nil _ _ _ _, Below.refl _ _, HB1.out⟩
  case round =>
    obtain ⟨k, hk, rfl, ho, hb, hb0⟩ := hrel
    have HO : Hid (wr.ownsRow w1.heap.size 43 1 u5 (F k).length (nats (F k))) := ho
    have HW1 : Hid (Below w1.heap.size w1 wr) := hb
    have HW0 : Hid (Below w.heap.size w wr) := hb0
    have hszr : w1.heap.size ≤ wr.heap.size := hb.size
    have hszs : w.heap.size ≤ wr.heap.size := hb0.size
    have hlk := HFL.out k hk
    clear ho hb hb0
    by_cases hlt : k < zs.length
    · obtain ⟨b, o, cp, hs, hc1, hcc⟩ := sl_cell (HLO.out.below HW1.out (Nat.le_refl _)) hlt
      simp only [Value.slice.injEq] at hs
      obtain ⟨rfl, _, rfl⟩ := hs
      have HK := HFS.out k hlt
      have hzk := HB.out.get hlt
      have HB1z : Hid (B64 [zs.getD k 0]) := by intro x hx; simp only [List.mem_singleton] at hx; subst hx; exact hzk
      have hand : bits .andNot .u64 ((setN zs : Nat) : Int) ((setN [zs.getD k 0] : Nat) : Int) = ((setN (butL zs (zs.getD k 0)) : Nat) : Int) := by
        rw [bits_andNot_u64_nat _ _ (setN_lt' HB.out) (setN_lt' HB1z.out), setN_but zs _ HB.out hzk]
      have HSL : Hid (setN (butL zs (zs.getD k 0)) < 18446744073709551616) := setN_lt' (HB.out.filter _)
      have HKK : Hid (F (k + 1) = if (ns.any fun a => outN (setN (butL zs (zs.getD k 0))) a == 0) then F k ++ [setN (butL zs (zs.getD k 0))] else F k) := HK
      clear HK
      generalize hS : setN (butL zs (zs.getD k 0)) = S at *
      clear hS
      generalize zs.getD k 0 = z at *
      have HO1 : Hid (Calls Tryd.prog 30 #[.int .i64 z] wr fun e w' => e = .returned (.int .u64 ((setN [z] : Nat) : Int)) ∧ w' = wr) := by rw [setN_one]; exact one_any z wr hzk.1 hzk.2
      generalize setN [z] = q2 at *
      go_wp2_with fail
      refine HO1.out.mono ?_
      rintro e wq ⟨rfl, hwq⟩
      subst hwq
      have HO2 : Hid (wq.ownsRow w1.heap.size 43 1 u5 (F k).length (nats (F k))) := HO.out
      have HX1 : Hid (Below w1.heap.size w1 wq) := HW1.out
      have HX0 : Hid (Below w.heap.size w wq) := HW0.out
      have HU2 : Hid (Sl B 43 wq (.slice bo ns.length cbp) (nats ns)) := HU1.out.below HX1.out (Nat.le_refl _)
      have hszq : w1.heap.size ≤ wq.heap.size := HX1.out.size
      clear HO HW1 HW0 hszr hcc HO1
      go_wp2_with fail
      refine (hasB_any B ns S _ wq HU2.out HN.out HSL.out).mono ?_
      rintro e w2 ⟨rfl, hw2⟩
      subst hw2
      cases hf : (ns.any fun a => outN S a == 0)
      · rw [hf] at HKK
        go_wp2
        go_roundw
        case rel => exact ⟨k + 1, by omega, by go_num, by rw [HKK.out]; exact HO2.out, HX1.out, HX0.out⟩
        case measure => simp [intOf]; omega
      · rw [hf] at HKK
        go_wp2_with (first | (at_builtin; refine wpList_append_own _ rfl _ _ 41 rfl w1.heap.size 43 i3 (.int .u64 0) 1 8 Tryd.underlying41 hi3 hz30 hz31 hz32 rfl (by decide) _ _ _ rfl (HO2.out.alloc _) ⟨w2.heap.size, 0, none⟩ 1 1 [.int .u64 (S : Int)] rfl rfl (one_new _ _ _) (one_u64 _) ?c3 ?c4 ?c5 ?_))
        case c3 => unfold maxLen; omega
        case c4 => omega
        case c5 => simp; omega
        intro v' w3 ho hg _
        have R := owns_pushS (z := S) (N := (F k).length + 1) hszq (l := F k) HO2.out HX1.out ho hg rfl
        have R1 : Hid (w3.ownsRow w1.heap.size 43 1 v' (F (k + 1)).length (nats (F (k + 1)))) := by
          show World.ownsRow _ _ _ _ _ _ _
          rw [HKK.out, if_pos trivial]
          exact R.1
        have R3 : Hid (Below w1.heap.size w1 w3) := R.2
        have R2 : Hid (Below w.heap.size w w3) := HB1.out.trans (R.2.mono hsz1)
        clear R ho hg HO2 HX0 HX1
        go_wp2
        go_roundw
        case rel => exact ⟨k + 1, by omega, by go_num, R1.out, R3.out, R2.out⟩
        case measure => simp [intOf]; omega
    · have hke : k = zs.length := by omega
      rw [hke] at HO
      go_wp2
      go_ret
      exact ⟨_, rfl, owns_lower HO.out hsz1, HW0.out⟩
end Go.Proofs.YtmldemimdejciaaDoor

/- Simplices that may be: what is known of them; sets for lists. -/
namespace Go.Proofs.YtmldemimdejciaaDoor
open Go.RowKit

/-- Simplices that may be. -/
structure Sim (m : List (List Int)) : Prop where
  n1 : 1 ≤ m.length
  n40 : m.length ≤ 40
  c1 : 1 ≤ (m.getD 0 []).length
  c5 : (m.getD 0 []).length ≤ 5
  len : ∀ i, i < m.length → (m.getD i []).length = (m.getD 0 []).length
  b64 : ∀ i, i < m.length → B64 (m.getD i [])
  ris : ∀ i, i < m.length → Ris (m.getD i [])
  new : ∀ i, i < m.length → m.getD i [] ∉ m.take i

theorem num_ok {x : List Int} (h : firstE (numE x) x.length = 0) : B64 x ∧ Ris x := by
  have h1 : ∀ k, k < x.length → (0 ≤ x.getD k 0 ∧ x.getD k 0 ≤ 63) ∧ (0 < k → x.getD (k - 1) 0 < x.getD k 0) := by
    intro k hk
    have := firstE_zero _ h k hk
    unfold numE at this
    split at this
    · omega
    · split at this
      · omega
      · rename_i q1 q2
        exact ⟨by omega, fun h0 => by
          refine Classical.byContradiction fun h3 => q2 ⟨h0, by omega⟩⟩
  constructor
  · intro z hz
    obtain ⟨k, hk, rfl⟩ := List.mem_iff_getElem.1 hz
    have := (h1 k hk).1
    simpa [hk] using this
  · have h2 : ∀ j k, j < k → k < x.length → x.getD j 0 < x.getD k 0 := by
      intro j k
      induction k with
      | zero => intro h; omega
      | succ k ih =>
        intro hj hk
        have h3 := (h1 (k + 1) hk).2 (by omega)
        simp only [Nat.add_sub_cancel] at h3
        by_cases e : j = k
        · subst e; exact h3
        · have := ih (by omega) (by omega)
          omega
    show x.Pairwise (· < ·)
    rw [List.pairwise_iff_getElem]
    intro i j hi hj hij
    have := h2 i j hij hj
    simpa [hi, hj] using this

theorem facets_ok {m : List (List Int)} (h : facetsE m = 0) : Sim m := by
  unfold facetsE at h
  split at h
  · omega
  · rename_i hl
    have h1 : ∀ i, i < m.length → listE (m.getD 0 []).length (m.getD i []) = 0 ∧ (m.take i).contains (m.getD i []) = false := by
      intro i hi
      have := firstE_zero _ h i hi
      unfold simE at this
      split at this
      · rename_i h0
        refine ⟨h0, ?_⟩
        cases hc : (m.take i).contains (m.getD i [])
        · rfl
        · rw [hc] at this
          simp at this
      · rename_i h0
        exact absurd this h0
    have h2 : ∀ i, i < m.length → ((m.getD i []).length = (m.getD 0 []).length ∧ 1 ≤ (m.getD 0 []).length ∧ (m.getD 0 []).length ≤ 5) ∧ firstE (numE (m.getD i [])) (m.getD i []).length = 0 := by
      intro i hi
      have := (h1 i hi).1
      unfold listE at this
      split at this
      · omega
      · exact ⟨by omega, this⟩
    exact
      { n1 := by omega
        n40 := by omega
        c1 := (h2 0 (by omega)).1.2.1
        c5 := (h2 0 (by omega)).1.2.2
        len := fun i hi => (h2 i hi).1.1
        b64 := fun i hi => (num_ok (h2 i hi).2).1
        ris := fun i hi => (num_ok (h2 i hi).2).2
        new := fun i hi hm => by
          have := (h1 i hi).2
          rw [List.contains_iff_mem.2 hm] at this
          cases this }

theorem sim_take {m : List (List Int)} (i : Nat) : ∀ o ∈ m.take i, ∃ j, j < m.length ∧ j < i ∧ o = m.getD j [] := by
  intro o ho
  obtain ⟨j, hj, rfl⟩ := List.mem_take_iff_getElem.1 ho
  exact ⟨j, by omega, by omega, by simp [show j < m.length by omega]⟩

theorem Sim.ahd {m : List (List Int)} (h : Sim m) {i : Nat} (hi : i < m.length) : Ahd (m.getD i []) (m.take i) := by
  intro o ho
  obtain ⟨j, hj, hji, rfl⟩ := sim_take i o ho
  refine ⟨h.ris j hj, by rw [h.len i hi, h.len j hj], fun e => h.new i hi ?_⟩
  rw [e]
  exact ho

theorem Sim.ab {m : List (List Int)} (h : Sim m) (i : Nat) : ∀ o ∈ m.take i, B64 o := by
  intro o ho
  obtain ⟨j, hj, _, rfl⟩ := sim_take i o ho
  exact h.b64 j hj

theorem any_sub {s : List Int} {ahead : List (List Int)} (hs : B64 s) (ha : ∀ o ∈ ahead, B64 o) :
    ((ahead.map setN).any fun a => outN (setN s) a == 0) = ahead.any (subB s) := by
  rw [List.any_map]
  rw [Bool.eq_iff_iff, List.any_eq_true, List.any_eq_true]
  constructor
  · rintro ⟨o, ho, h⟩
    exact ⟨o, ho, (setN_in s o hs (ha o ho)).1 (by simpa using h)⟩
  · rintro ⟨o, ho, h⟩
    exact ⟨o, ho, by simpa using (setN_in s o hs (ha o ho)).2 h⟩

theorem met_map {x : List Int} {ahead : List (List Int)} (hx : B64 x) (ha : ∀ o ∈ ahead, B64 o) :
    ((x.map fun v => setN (butL x v)).filter fun s => (ahead.map setN).any fun a => outN s a == 0) = (metL x ahead).map setN := by
  have e1 : (x.map fun v => setN (butL x v)) = (x.map (butL x)).map setN := by rw [List.map_map]; rfl
  rw [e1, List.filter_map]
  unfold metL
  congr 1
  apply List.filter_congr
  intro s hs
  obtain ⟨v, _, rfl⟩ := List.mem_map.1 hs
  exact any_sub (hx.filter _) ha

theorem met_b64 {x : List Int} {ahead : List (List Int)} (hx : B64 x) : ∀ s ∈ metL x ahead, B64 s := by
  intro s hs
  obtain ⟨h1, _⟩ := List.mem_filter.1 hs
  obtain ⟨v, _, rfl⟩ := List.mem_map.1 h1
  exact hx.filter _

theorem l64_map {l : List (List Int)} (h : ∀ o ∈ l, B64 o) : L64 (l.map setN) := by
  intro n hn
  obtain ⟨o, ho, rfl⟩ := List.mem_map.1 hn
  exact setN_lt' (h o ho)

theorem meet_map {x : List Int} {ahead met : List (List Int)} (hx : B64 x) (ha : ∀ o ∈ ahead, B64 o) (hm : ∀ o ∈ met, B64 o) :
    (!((ahead.map setN).any fun o => !((met.map setN).any fun a => outN (setN x &&& o) a == 0))) = meetB x ahead met := by
  have e : ∀ o ∈ ahead, ((met.map setN).any fun a => outN (setN x &&& setN o) a == 0) = met.any (subB (sharedL x o)) := by
    intro o ho
    rw [setN_and x o hx (ha o ho)]
    exact any_sub (hx.filter _) hm
  unfold meetB
  have e2 : ((ahead.map setN).any fun o => !((met.map setN).any fun a => outN (setN x &&& o) a == 0)) = ahead.any fun o => !(met.any (subB (sharedL x o))) := by
    rw [List.any_map]
    rw [Bool.eq_iff_iff, List.any_eq_true, List.any_eq_true]
    constructor
    · rintro ⟨o, ho, h⟩
      exact ⟨o, ho, by rw [← e o ho]; exact h⟩
    · rintro ⟨o, ho, h⟩
      exact ⟨o, ho, by rw [← e o ho] at h; exact h⟩
  rw [e2, ← List.all_eq_not_any_not]

/-- How many have how many. -/
def cntL (c : Nat) (f : Nat → Nat) : Nat → List Int
  | 0 => List.replicate (c + 1) 0
  | k + 1 => (cntL c f k).set (f k) ((cntL c f k).getD (f k) 0 + 1)

theorem cntL_len (c : Nat) (f : Nat → Nat) : ∀ k, (cntL c f k).length = c + 1
  | 0 => by simp [cntL]
  | k + 1 => by simp [cntL, cntL_len c f k]

theorem cntL_le (c : Nat) (f : Nat → Nat) : ∀ k j, 0 ≤ (cntL c f k).getD j 0 ∧ (cntL c f k).getD j 0 ≤ k
  | 0, j => by
    have : (cntL c f 0).getD j 0 = 0 := by
      simp only [cntL, List.getD_eq_getElem?_getD, List.getElem?_replicate]
      split <;> rfl
    omega
  | k + 1, j => by
    have h1 := cntL_le c f k j
    have h2 := cntL_le c f k (f k)
    have e : (cntL c f (k + 1)).getD j 0 = (cntL c f k).getD (f k) 0 + 1 ∨ (cntL c f (k + 1)).getD j 0 = (cntL c f k).getD j 0 := by
      rw [show cntL c f (k + 1) = (cntL c f k).set (f k) ((cntL c f k).getD (f k) 0 + 1) from rfl]
      generalize cntL c f k = L at *
      simp only [List.getD_eq_getElem?_getD, List.getElem?_set]
      by_cases e1 : f k = j
      · subst e1
        by_cases e2 : f k < L.length
        · left; simp [e2]
        · right; simp [e2]
      · right; simp [e1]
    omega

theorem cntL_congr (c : Nat) (f g : Nat → Nat) : ∀ k, (∀ i, i < k → f i = g i) → cntL c f k = cntL c g k
  | 0, _ => rfl
  | k + 1, h => by
    unfold cntL
    rw [cntL_congr c f g k (fun i hi => h i (by omega)), h k (by omega)]

/-- A row of integers that lies in block N. -/
def Blk (N : Nat) (w : World) (l : List Int) : Prop := w.heap[N]? = some (.cells (ints l).toArray 3 (0, 0))

theorem Blk.cell {N : Nat} {w : World} {l : List Int} (h : Blk N w l) {j : Nat} (hj : j < l.length) : w.cell? ⟨N, j, none⟩ = some (.int .i64 (l.getD j 0)) := by
  unfold Blk at h
  simp [World.cell?, h, ints, hj]

theorem Blk.frozen {N : Nat} {w : World} {l : List Int} (h : Blk N w l) (j : Nat) : w.frozen? ⟨N, j, none⟩ = false := by
  unfold Blk at h
  simp [World.frozen?, h]

theorem Blk.set {N : Nat} {w : World} {l : List Int} (h : Blk N w l) (j : Nat) (z : Int) : Blk N (w.setCell ⟨N, j, none⟩ (.int .i64 z)) (l.set j z) := by
  unfold Blk at h ⊢
  simp only [World.setCell, Array.getElem?_modify, h]
  simp [ints, List.map_set]

theorem Blk.keep {N M : Nat} {w w' : World} {l : List Int} (h : Blk N w l) (hb : Below M w w') (hN : N < M) : Blk N w' l := by
  unfold Blk at h ⊢
  rw [hb.block N hN]
  exact h

theorem made_eq (n : Nat) : madeCells #[.int .i64 0] n = (ints (List.replicate n 0)).toArray := by
  apply Array.ext
  · simp [madeCells, ints]
  · intro i h1 h2
    simp [madeCells, ints, Nat.mod_one]

theorem Blk.made (w : World) (n : Nat) : Blk w.heap.size (w.alloc (.cells (madeCells #[.int .i64 0] n) 3)) (List.replicate n 0) := by
  unfold Blk
  rw [heap_alloc_new, made_eq]

theorem Blk.sl {N B : Nat} {w : World} {l : List Int} (h : Blk N w l) (hl : l.length ≤ 1000) : Sl B 3 w (.slice (some ⟨N, 0, none⟩) l.length l.length) (ints l) := by
  refine ⟨some ⟨N, 0, none⟩, l.length, by simp, by simp, by unfold maxLen; omega, fun i hi => ?_, fun h => by cases h⟩
  have hi' : i < l.length := by simpa using hi
  refine ⟨N, 0, rfl, ?_, Or.inr ⟨_, h⟩⟩
  rw [Nat.zero_add, h.cell hi', ints_get _ _ hi']
end Go.Proofs.YtmldemimdejciaaDoor

/- Simplices one behind the other: the program. -/
namespace Go.Proofs.YtmldemimdejciaaDoor
open Go.RowKit
attribute [local go_sem ↓] Go.wp_at_zero Go.wp_at_succ

/-- Is what the i-th has in common with those ahead in its sides that are met? -/
def shOk (m : List (List Int)) (i : Nat) : Bool := meetB (m.getD i []) (m.take i) (metL (m.getD i []) (m.take i))
def shN (m : List (List Int)) (i : Nat) : Nat := (metL (m.getD i []) (m.take i)).length

/-- All so far are met in whole sides. -/
def allOk (m : List (List Int)) : Nat → Bool
  | 0 => true
  | k + 1 => allOk m k && shOk m k

theorem allOk_step {m : List (List Int)} {k : Nat} (h : allOk m k = true) (h2 : shOk m k = true) : allOk m (k + 1) = true := by
  rw [allOk, h, h2]; rfl

theorem allOk_bad {m : List (List Int)} {k : Nat} (h2 : shOk m k = false) : ∀ n, k < n → allOk m n = false := by
  intro n
  induction n with
  | zero => intro h; omega
  | succ n ih =>
    intro h
    by_cases e : k = n
    · subst e; rw [allOk, h2]; simp
    · rw [allOk, ih (by omega)]; rfl

theorem owns_setCell {B : Nat} {e : TypeId} {w : World} {v : Value} {n : Nat} {xs : List Value} {a : Addr} (h : w.ownsRow B e 1 v n xs) (ha : a.block < B) (u : Value) : (w.setCell a u).ownsRow B e 1 v n xs := by
  obtain ⟨h1, h2⟩ := h
  refine ⟨h1, ?_⟩
  rcases h2 with h2 | ⟨g, cap, cur, q1, q2, q3, q4⟩
  · exact Or.inl h2
  · exact Or.inr ⟨g, cap, cur, q1, q2, (Below.heap_setCell w a u g (by omega)).trans q3, q4⟩

theorem Blk.grow {N : Nat} {w w' : World} {l : List Int} {o : Obj} {row : Option Nat} (h : Blk N w l) (hg : (w.alloc o).grownBy w' row) (hN : N < w.heap.size) (hne : some N ≠ row) : Blk N w' l := by
  unfold Blk at h ⊢
  rw [hg.block N (by simp; omega) hne]
  exact (Below.heap_alloc _ _ _ hN).trans h

/-- What is told. -/
def shellA (m : List (List Int)) : List Int := if allOk m m.length then cntL (m.getD 0 []).length (shN m) m.length else []

set_option maxRecDepth 100000 in
theorem shells_bad (B : Nat) (m : List (List Int)) (v : Value) (w : World) (hv : Mat B 26 3 w v m) (hx : facetsE m ≠ 0) :
    Calls Tryd.prog 8 #[v] w fun e w' => e = .returned (.tuple #[.bool false, .slice none 0 0, .int .i64 (facetsE m)]) ∧ Below w.heap.size w w' := by
  have HC : Hid (Calls Tryd.prog 9 #[v] w fun e w' => e = .returned (.int .i64 (facetsE m)) ∧ Below w.heap.size w w') := checkS_any B m v w hv
  generalize facetsE m = E at *
  have hb : (E != 0) = true := by simp [hx]
  clear hv
  go_enter Tryd.func8, Tryd.ntmps8
  go_wp2_with fail
  refine HC.out.mono ?_
  rintro e w' ⟨rfl, hb1⟩
  have HB : Hid (Below w.heap.size w w') := hb1
  clear hb1
  go_wp2
  exact bodyPost_ret (v := .tuple #[.bool false, .slice none 0 0, .int .i64 E]) (by simp [results, Tryd.results8, go_sem]) rfl ⟨rfl, HB.out⟩

set_option maxRecDepth 100000 in
set_option maxHeartbeats 2000000 in
theorem shells_good (B : Nat) (m : List (List Int)) (v : Value) (w : World) (hv : Mat B 26 3 w v m) (hx : facetsE m = 0) (hT : TabB w) :
    Calls Tryd.prog 8 #[v] w fun e w' => ∃ u, e = .returned (.tuple #[.bool (allOk m m.length), u, .int .i64 0]) ∧ Sl w'.heap.size 3 w' u (ints (shellA m)) ∧ Below w.heap.size w w' := by
  obtain ⟨i3, hi3, hz30, hz31, hz32⟩ := info_parts Tryd.info43'
  have HS : Hid (Sim m) := facets_ok hx
  have HC : Hid (Calls Tryd.prog 9 #[v] w fun e w' => e = .returned (.int .i64 (facetsE m)) ∧ Below w.heap.size w w') := checkS_any B m v w hv
  rw [hx] at HC
  obtain ⟨ao, cap, hvv, hlc, hcm⟩ := mat_open hv
  subst hvv
  have HV : Hid (Mat B 26 3 w (.slice ao m.length cap) m) := hv
  have HT : Hid (TabB w) := hT
  clear hv hT hx
  have hm1 := HS.out.n1
  have hm40 := HS.out.n40
  have hc1 := HS.out.c1
  have hc5 := HS.out.c5
  go_enter Tryd.func8, Tryd.ntmps8
  go_wp2_with fail
  refine HC.out.mono ?_
  rintro e w1 ⟨rfl, hb1⟩
  have HB1 : Hid (Below w.heap.size w w1) := hb1
  have hsz1 : w.heap.size ≤ w1.heap.size := hb1.size
  obtain ⟨b0, o0, cp0, u0, hs0, _, hcc0, hu0⟩ := mat_cell (HV.out.below hb1 (Nat.le_refl _)) (k := 0) (by omega)
  simp only [Value.slice.injEq, true_and] at hs0
  obtain ⟨rfl, rfl⟩ := hs0
  obtain ⟨uo0, uc0, hue0, hul0, hum0⟩ := sl_open hu0
  subst hue0
  simp only [Nat.add_zero] at hcc0
  clear hb1 hu0
  have hm0 : 0 < m.length := by omega
  have HSA : Hid (shellA m = if allOk m m.length then cntL (m.getD 0 []).length (shN m) m.length else []) := rfl
  have HLEN : Hid (∀ i, i < m.length → (m.getD i []).length = (m.getD 0 []).length) := HS.out.len
  have HCL : Hid (∀ k, (cntL (m.getD 0 []).length (shN m) k).length = (m.getD 0 []).length + 1) := cntL_len _ _
  obtain ⟨c, hc⟩ : ∃ c, c = (m.getD 0 []).length := ⟨_, rfl⟩
  rw [← hc] at HSA HLEN HCL hul0 hcc0 hc1 hc5
  clear hc
  have hmk : (Instr.makeSlice 26 (.int .i64 ((c : Int) + 1)) (.int .i64 ((c : Int) + 1))).run Tryd.prog w1 = .ok (.slice (some ⟨w1.heap.size, 0, none⟩) (c + 1) (c + 1)) (w1.alloc (.cells (madeCells #[.int .i64 0] (c + 1)) 3)) := by
    rw [show (c : Int) + 1 = ((c + 1 : Nat) : Int) by omega]
    exact run_make_row' (P := Tryd.prog) 26 3 (.int .i64 0) 8 Tryd.underlying26 Tryd.info3 rfl .i64 .i64 (c + 1) (by omega) (by omega) w1
  have HBK0 : Hid (Blk w1.heap.size (w1.alloc (.cells (madeCells #[.int .i64 0] (c + 1)) 3)) (cntL c (shN m) 0)) := Blk.made w1 (c + 1)
  have HBA : Hid (Below w.heap.size w (w1.alloc (.cells (madeCells #[.int .i64 0] (c + 1)) 3))) := HB1.out.alloc hsz1 _
  have hszA : (w1.alloc (.cells (madeCells #[.int .i64 0] (c + 1)) 3)).heap.size = w1.heap.size + 1 := by simp
  generalize hNN : w1.heap.size = N at *
  clear hNN
  go_wp2
  generalize w1.alloc (.cells (madeCells #[.int .i64 0] (c + 1)) 3) = wA at *
  have hNM : N < wA.heap.size := by rw [hszA]; omega
  have HOA : Hid (wA.heap.size ≤ wA.heap.size) := Nat.le_refl _
  clear hszA
  generalize hM : wA.heap.size = M at *
  have HM : Hid (wA.heap.size = M) := hM
  clear hM
  go_loopw [3, 6, 24] (fun y s i wr => ∃ k : Nat, k ≤ m.length ∧ i = .int .i64 k ∧ y = .slice (some ⟨N, 0, none⟩) (c + 1) (c + 1) ∧ allOk m k = true ∧ Blk N wr (cntL c (shN m) k) ∧ wr.ownsRow M 43 1 s k (nats ((m.take k).map setN)) ∧ Below w.heap.size w wr ∧ M ≤ wr.heap.size) (fun _ _ i _ => m.length - (intOf i).toNat)
  case atStart => exact ⟨0, Nat.zero_le _, rfl, rfl, rfl, HBK0.out, World.ownsRow_nil _ _ _ _, HBA.out, by rw [HM.out]; exact Nat.le_refl _⟩
  case round =>
    obtain ⟨k, hk, rfl, rfl, hall, hbk, ho, hb, hsz⟩ := hrel
    have HALL : Hid (allOk m k = true) := hall
    have HBK : Hid (Blk N wr (cntL c (shN m) k)) := hbk
    have HO : Hid (wr.ownsRow M 43 1 u6 k (nats ((m.take k).map setN))) := ho
    have HB : Hid (Below w.heap.size w wr) := hb
    clear hall hbk ho hb
    by_cases hlt : k < m.length
    · obtain ⟨b, o, cp, u, hs, _, hcc, hu⟩ := mat_cell (HV.out.below HB.out (Nat.le_refl _)) hlt
      simp only [Value.slice.injEq, true_and, Option.some.injEq, Addr.mk.injEq, and_true] at hs
      obtain ⟨⟨rfl, rfl⟩, rfl⟩ := hs
      obtain ⟨uo, uc, hue, hul, hum⟩ := sl_open hu
      subst hue
      have HU : Hid (Sl B 3 wr (.slice uo (m.getD k []).length uc) (ints (m.getD k []))) := hu
      have hxc := HLEN.out k hlt
      have HXB : Hid (B64 (m.getD k [])) := HS.out.b64 k hlt
      have HXR : Hid (Ris (m.getD k [])) := HS.out.ris k hlt
      have HAB : Hid (∀ o ∈ m.take k, B64 o) := HS.out.ab k
      have HOK : Hid (shOk m k = meetB (m.getD k []) (m.take k) (metL (m.getD k []) (m.take k))) := rfl
      have HSN : Hid (shN m k = (metL (m.getD k []) (m.take k)).length) := rfl
      have HML : Hid ((metL (m.getD k []) (m.take k)).length ≤ (m.getD k []).length) := met_le _
      have HTK : Hid ((m.take (k + 1)).map setN = (m.take k).map setN ++ [setN (m.getD k [])]) := by
        show _ = _
        rw [List.take_succ_eq_append_getElem hlt, List.map_append]
        simp [hlt]
      have HTL : Hid ((m.take k).length = k) := by show _ = _; rw [List.length_take]; omega
      clear hu
      generalize m.getD k [] = x at *
      rw [hxc] at hcc HU hul
      go_wp2_with fail
      refine (setOf_any B x _ wr HU.out HXB.out).mono ?_
      rintro e w2 ⟨rfl, n2, rfl⟩
      have HBK2 : Hid (Blk N (wr.drewN n2) (cntL c (shN m) k)) := HBK.out
      have HO2 : Hid ((wr.drewN n2).ownsRow M 43 1 u6 k (nats ((m.take k).map setN))) := HO.out
      have HB2 : Hid (Below w.heap.size w (wr.drewN n2)) := bel_drewN HB.out n2
      have hsz2 : M ≤ (wr.drewN n2).heap.size := hsz
      clear HBK HO HB hsz hcc HU
      generalize wr.drewN n2 = w2 at *
      have HSL2 : Hid (Sl 0 43 w2 u6 (nats ((m.take k).map setN))) := Sl.own HO2.out
      go_wp2_with fail
      refine (sidesMet_any 0 x ((m.take k).map setN) u6 w2 HSL2.out (l64_map HAB.out) HXB.out HXR.out (HT.out.below HB2.out) (by omega)).mono ?_
      rintro e w3 ⟨z, rfl, hz, hb3⟩
      rw [met_map HXB.out HAB.out, List.length_map, ← HSN.out] at hz
      have HMZ : Hid (Sl 0 43 w3 z (nats ((metL x (m.take k)).map setN))) := Sl.own hz
      obtain ⟨zo, zc, hzv⟩ := owns_form hz
      subst hzv
      have HBK3 : Hid (Blk N w3 (cntL c (shN m) k)) := HBK2.out.keep hb3 (by omega)
      have HO3 : Hid (w3.ownsRow M 43 1 u6 k (nats ((m.take k).map setN))) := owns_below HO2.out hb3 (Nat.le_refl _)
      have HB3 : Hid (Below w.heap.size w w3) := HB2.out.trans (hb3.mono HB2.out.size)
      have hsz3 : M ≤ w3.heap.size := Nat.le_trans hsz2 hb3.size
      have HSL3 : Hid (Sl 0 43 w3 u6 (nats ((m.take k).map setN))) := Sl.own HO3.out
      clear hz hb3 HBK2 HO2 HB2 HSL2 hsz2
      go_wp2_with fail
      refine (meets_any 0 ((m.take k).map setN) ((metL x (m.take k)).map setN) (setN x) _ _ w3 HSL3.out (l64_map HAB.out) HMZ.out (l64_map (met_b64 HXB.out)) (setN_lt' HXB.out)).mono ?_
      rintro e w4 ⟨rfl, hb4⟩
      rw [meet_map HXB.out HAB.out (met_b64 HXB.out), ← HOK.out]
      have HBK4 : Hid (Blk N w4 (cntL c (shN m) k)) := HBK3.out.keep hb4 (by omega)
      have HO4 : Hid (w4.ownsRow M 43 1 u6 k (nats ((m.take k).map setN))) := owns_below HO3.out hb4 (Nat.le_refl _)
      have HB4 : Hid (Below w.heap.size w w4) := HB3.out.trans (hb4.mono HB3.out.size)
      have hsz4 : M ≤ w4.heap.size := Nat.le_trans hsz3 hb4.size
      clear hb4 HBK3 HO3 HB3 HSL3 hsz3 HMZ
      cases hok : shOk m k
      · have HF : Hid (allOk m m.length = false) := allOk_bad hok _ hlt
        have HF2 : Hid (shellA m = []) := by show _ = _; rw [HSA.out, HF.out]; rfl
        go_wp2
        exact bodyPost_ret (v := .tuple #[.bool false, .slice none 0 0, .int .i64 0]) (by simp [results, Tryd.results8, go_sem]) rfl ⟨_, by rw [HF.out], by rw [HF2.out]; exact Sl.nil _ _ _, HB4.out⟩
      · have HOKK : Hid (shOk m k = true) := hok
        clear hok
        have hle : shN m k < c + 1 := by have := HML.out; have := HSN.out; omega
        have hcl := HBK4.out.cell (j := shN m k) (by rw [HCL.out]; exact hle)
        have hfz := HBK4.out.frozen (shN m k)
        have hbd := cntL_le c (shN m) k (shN m k)
        have HST : Hid (∀ z, z = (cntL c (shN m) k).getD (shN m k) 0 + 1 → Blk N (w4.setCell ⟨N, shN m k, none⟩ (.int .i64 z)) (cntL c (shN m) (k + 1))) := fun z hz => by
          subst hz
          exact HBK4.out.set _ _
        have HBS : Hid (∀ u, Below w.heap.size w (w4.setCell ⟨N, shN m k, none⟩ u)) := fun u => HB4.out.setCell (by simpa using hsz1) _
        generalize (cntL c (shN m) k).getD (shN m k) 0 = q at *
        generalize shN m k = j at *
        have hq1 : wrap64 (q + 1) = q + 1 := IntWalk.wrap64_in _ ⟨by omega, by omega⟩
        have HO5 : Hid (∀ u, (w4.setCell ⟨N, j, none⟩ u).ownsRow M 43 1 u6 k (nats ((m.take k).map setN))) := fun u => owns_setCell HO4.out (by show N < _; omega) u
        have hsz5 : ∀ u, M ≤ (w4.setCell ⟨N, j, none⟩ u).heap.size := fun u => by simpa using hsz4
        have hjc : j < c + 1 := hle
        have hji : (j : Int) < (c : Int) + 1 := by omega
        go_wp2_with (first | (at_builtin; refine wpList_append_own _ rfl _ _ 41 rfl M 43 i3 (.int .u64 0) 1 8 Tryd.underlying41 hi3 hz30 hz31 hz32 rfl (by decide) _ _ _ rfl ((HO5.out _).alloc _) ⟨w4.heap.size, 0, none⟩ 1 1 [.int .u64 (setN x : Nat)] rfl rfl ?c2 (one_u64 _) ?c3 ?c4 ?c5 ?_))
        case c2 => simpa using one_new (w4.setCell ⟨N, j, none⟩ (Value.int IntKind.i64 (q + 1))) (Value.int .u64 (setN x : Nat)) 43
        case c3 => unfold maxLen; omega
        case c4 => omega
        case c5 => simp; omega
        intro v' w6 ho hg _
        have HOO : Hid (w6.ownsRow M 43 1 v' (k + 1) (nats ((m.take (k + 1)).map setN))) := by
          show World.ownsRow _ _ _ _ _ _ _
          rw [HTK.out]
          simpa [nats] using ho
        have HBB : Hid (Below w.heap.size w w6) := ((HBS.out _).alloc (by simp; omega) _).grown hg (by simp; omega) (fun g hg' => by have := ((HO5.out (Value.int .i64 (q + 1))).lt g hg').1; omega)
        have HKK : Hid (Blk N w6 (cntL c (shN m) (k + 1))) := (HST.out (q + 1) rfl).grow hg (by simp; omega) (fun e => by have := ((HO5.out (Value.int .i64 (q + 1))).lt N e.symm).1; omega)
        have hsz6 : M ≤ w6.heap.size := by have := hg.size; simp at this; omega
        clear ho hg
        go_wp2
        go_roundw
        case rel => exact ⟨k + 1, by omega, by go_num, rfl, allOk_step HALL.out HOKK.out, HKK.out, HOO.out, HBB.out, hsz6⟩
        case measure => simp [intOf]; omega
    · have hke : k = m.length := by omega
      subst hke
      have HF2 : Hid (shellA m = cntL c (shN m) m.length) := by show _ = _; rw [HSA.out, HALL.out]; rfl
      go_wp2
      exact bodyPost_ret (v := .tuple #[.bool true, .slice (some ⟨N, 0, none⟩) (c + 1) (c + 1), .int .i64 0]) (by simp [results, Tryd.results8, go_sem]) rfl ⟨_, by rw [HALL.out], by rw [HF2.out]; have := HBK.out.sl (B := wr.heap.size) (by rw [HCL.out]; omega); rw [HCL.out] at this; exact this, HB.out⟩
end Go.Proofs.YtmldemimdejciaaDoor
