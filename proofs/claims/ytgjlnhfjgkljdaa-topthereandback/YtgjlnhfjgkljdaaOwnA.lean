import Derived.Test.YtgjlnhfjgkljdaaRunB
import Derived.Deep.Onto
import Derived.Test.YtgjlnhfjgkljdaaDatA
import Derived.Maps.AppendAt
/- Lists that the program makes: rows of the call's own. -/
namespace Go.Proofs.Ytgjlnhfjgkljdaa
open Go.RowKit

theorem owns_row {B b n : Nat} {e : TypeId} {w : World} {f : Nat → Value} {xs : List Value} (h : w.rowIs b e n f) (hB : B ≤ b) (hn : xs.length = n) (hm : n ≤ maxLen) (hx : ∀ i, i < n → xs[i]? = some (f i)) :
    w.ownsRow B e 1 (.slice (some ⟨b, 0, none⟩) n n) n xs := by
  obtain ⟨c, h1, h2, h3⟩ := h
  refine ⟨by omega, Or.inr ⟨b, n, c, rfl, hB, h1, Nat.le_refl _, hm, by omega, ?_⟩⟩
  apply List.ext_getElem?
  intro i
  by_cases hi : i < n
  · rw [List.getElem?_take_of_lt (by omega), hx i hi, Array.getElem?_toList]; exact h3 i hi
  · rw [List.getElem?_eq_none (by simp; omega), List.getElem?_eq_none (by omega)]

set_option maxRecDepth 100000 in
set_option maxHeartbeats 800000 in
theorem mappedP_own (B : Nat) (l : List Int) (v : Value) (w : World) (hv : Sl B 3 w v (ints l)) (hl : l.length ≤ 1000000) (g : Nat) (d : Int) (hg : g < w.heap.size) (hd : 1 ≤ d) (hb : ∀ z ∈ l, z.natAbs ≤ 4611686018427387904) (hc : w.cell? ⟨g, 0, none⟩ = some (.int .i64 d)) :
    Calls Try.prog 62 #[v, .func (.func 76) #[] #[.pointer (some ⟨g, 0, none⟩)]] w fun e w' => ∃ u, e = .returned u ∧ w'.ownsRow w.heap.size 3 1 u l.length (ints (l.map (fun z => z.tdiv d))) ∧ Below w.heap.size w w' := by
  obtain ⟨ao, cap, hvv, hlc, hcm⟩ := sl_open hv
  subst hvv
  have HV : Hid (Sl B 3 w (.slice ao l.length cap) (ints l)) := hv
  have HBD : Hid (∀ z ∈ l, z.natAbs ≤ 4611686018427387904) := hb
  have HC : Hid (w.cell? ⟨g, 0, none⟩ = some (.int .i64 d)) := hc
  clear hb hc
  clear hv
  have hmk := run_make_row' (P := Try.prog) 22 3 (.int .i64 0) 8 Try.underlying22 Try.info3 rfl .i64 .i64 l.length (by omega) (by omega)
  go_enter Try.func62, Try.ntmps62
  go_wp2
  go_loopw [13] (fun i wr => ∃ k : Nat, k ≤ l.length ∧ i = .int .i64 k ∧ wr.rowIs w.heap.size 3 l.length (fun j => .int .i64 (if j < k then (l.map (fun z => z.tdiv d)).getD j 0 else 0)) ∧ Below w.heap.size w wr) (fun i _ => l.length - (intOf i).toNat)
  case atStart =>
    refine ⟨0, Nat.zero_le _, rfl, ?_, (Below.refl _ _).alloc (Nat.le_refl _) _⟩
    exact (World.rowIs_made w (.int .i64 0) l.length 3).congr fun i hi => by simp
  case round =>
    obtain ⟨k, hk, rfl, hrow, hbel⟩ := hrel
    have HR : Hid (wr.rowIs w.heap.size 3 l.length (fun j => .int .i64 (if j < k then (l.map (fun z => z.tdiv d)).getD j 0 else 0))) := hrow
    have HB : Hid (Below w.heap.size w wr) := hbel
    by_cases hlt : k < l.length
    · obtain ⟨b, o, cp, hs, hc1, hcc⟩ := sl_cell (HV.out.below hbel (Nat.le_refl _)) hlt
      simp only [Value.slice.injEq] at hs
      obtain ⟨rfl, _, rfl⟩ := hs
      have hfz := hrow.frozen k
      have hcl := hrow.cell (i := k) hlt
      have HF : Hid ((l.map (fun z => z.tdiv d)).getD k 0 = (fun z => z.tdiv d) (l.getD k 0)) := by show _ = _; simp [hlt]
      have hmem : l.getD k 0 ∈ l := by simp [hlt]
      have HMEM : Hid (l.getD k 0 ∈ l) := hmem
      generalize hxk : l.getD k 0 = x at *
      clear hrow hbel hmem hxk
      go_wp2_with fail
      refine (prim1_any x d wr ⟨g, 0, none⟩ hd (HBD.out x HMEM.out) ((HB.out.cell hg).trans HC.out)).mono ?_
      rintro e w' ⟨rfl, rfl⟩
      go_wp2
      go_roundw
      case rel =>
        refine ⟨k + 1, by omega, by go_num, ?_, HB.out.setCell (Nat.le_refl _) _⟩
        refine (HR.out.set k _).congr fun j hj => ?_
        by_cases e1 : j = k
        · subst e1; rw [if_pos rfl, if_pos (by omega), HF.out]
        · by_cases e2 : j < k
          · rw [if_neg e1, if_pos e2, if_pos (by omega)]
          · rw [if_neg e1, if_neg e2, if_neg (by omega)]
      case measure => simp [intOf]; omega
    · clear hrow hbel
      go_wp2
      go_ret
      refine ⟨_, rfl, ?_, HB.out⟩
      refine owns_row HR.out (Nat.le_refl _) (by simp) (by unfold maxLen; omega) fun i hi => ?_
      rw [ints_get _ _ (by simpa using hi), if_pos (by omega)]


set_option maxRecDepth 100000 in
set_option maxHeartbeats 800000 in
theorem mappedN_own (B : Nat) (l : List Int) (v : Value) (w : World) (hv : Sl B 3 w v (ints l)) (hl : l.length ≤ 1000000) (hb : ∀ z ∈ l, z.natAbs ≤ 4611686018427387904) :
    Calls Try.prog 62 #[v, .func (.func 63) #[] #[]] w fun e w' => ∃ u, e = .returned u ∧ w'.ownsRow w.heap.size 3 1 u l.length (ints (l.map (fun z => -z))) ∧ Below w.heap.size w w' := by
  obtain ⟨ao, cap, hvv, hlc, hcm⟩ := sl_open hv
  subst hvv
  have HV : Hid (Sl B 3 w (.slice ao l.length cap) (ints l)) := hv
  have HBD : Hid (∀ z ∈ l, z.natAbs ≤ 4611686018427387904) := hb
  clear hb
  clear hv
  have hmk := run_make_row' (P := Try.prog) 22 3 (.int .i64 0) 8 Try.underlying22 Try.info3 rfl .i64 .i64 l.length (by omega) (by omega)
  go_enter Try.func62, Try.ntmps62
  go_wp2
  go_loopw [13] (fun i wr => ∃ k : Nat, k ≤ l.length ∧ i = .int .i64 k ∧ wr.rowIs w.heap.size 3 l.length (fun j => .int .i64 (if j < k then (l.map (fun z => -z)).getD j 0 else 0)) ∧ Below w.heap.size w wr) (fun i _ => l.length - (intOf i).toNat)
  case atStart =>
    refine ⟨0, Nat.zero_le _, rfl, ?_, (Below.refl _ _).alloc (Nat.le_refl _) _⟩
    exact (World.rowIs_made w (.int .i64 0) l.length 3).congr fun i hi => by simp
  case round =>
    obtain ⟨k, hk, rfl, hrow, hbel⟩ := hrel
    have HR : Hid (wr.rowIs w.heap.size 3 l.length (fun j => .int .i64 (if j < k then (l.map (fun z => -z)).getD j 0 else 0))) := hrow
    have HB : Hid (Below w.heap.size w wr) := hbel
    by_cases hlt : k < l.length
    · obtain ⟨b, o, cp, hs, hc1, hcc⟩ := sl_cell (HV.out.below hbel (Nat.le_refl _)) hlt
      simp only [Value.slice.injEq] at hs
      obtain ⟨rfl, _, rfl⟩ := hs
      have hfz := hrow.frozen k
      have hcl := hrow.cell (i := k) hlt
      have HF : Hid ((l.map (fun z => -z)).getD k 0 = (fun z => -z) (l.getD k 0)) := by show _ = _; simp [hlt]
      have hmem : l.getD k 0 ∈ l := by simp [hlt]
      have HMEM : Hid (l.getD k 0 ∈ l) := hmem
      generalize hxk : l.getD k 0 = x at *
      clear hrow hbel hmem hxk
      go_wp2_with fail
      refine (neg1_any x wr (HBD.out x HMEM.out)).mono ?_
      rintro e w' ⟨rfl, rfl⟩
      go_wp2
      go_roundw
      case rel =>
        refine ⟨k + 1, by omega, by go_num, ?_, HB.out.setCell (Nat.le_refl _) _⟩
        refine (HR.out.set k _).congr fun j hj => ?_
        by_cases e1 : j = k
        · subst e1; rw [if_pos rfl, if_pos (by omega), HF.out]
        · by_cases e2 : j < k
          · rw [if_neg e1, if_pos e2, if_pos (by omega)]
          · rw [if_neg e1, if_neg e2, if_neg (by omega)]
      case measure => simp [intOf]; omega
    · clear hrow hbel
      go_wp2
      go_ret
      refine ⟨_, rfl, ?_, HB.out⟩
      refine owns_row HR.out (Nat.le_refl _) (by simp) (by unfold maxLen; omega) fun i hi => ?_
      rw [ints_get _ _ (by simpa using hi), if_pos (by omega)]


set_option maxRecDepth 100000 in
set_option maxHeartbeats 400000 in
theorem primitive_own (B : Nat) (l : List Int) (v : Value) (w : World) (hv : Sl B 3 w v (ints l)) (hl : l.length ≤ 1000000) (hb : ∀ z ∈ l, z.natAbs ≤ 4611686018427387904) :
    Calls Try.prog 61 #[v] w fun e w' => ∃ u, e = .returned u ∧ w'.ownsRow w.heap.size 3 1 u l.length (ints (Lin.low l)) ∧ Below w.heap.size w w' := by
  obtain ⟨ao, cap, hvv, hlc, hcm⟩ := sl_open hv
  subst hvv
  have HV : Hid (Sl B 3 w (.slice ao l.length cap) (ints l)) := hv
  have HBD : Hid (∀ z ∈ l, z.natAbs ≤ 4611686018427387904) := hb
  clear hv hb
  go_enter Try.func61, Try.ntmps61
  go_wp2_with fail
  refine (divisor_any B l _ w HV.out HBD.out).mono ?_
  rintro e w1 ⟨rfl, n1, hw1⟩
  have HV1 : Hid (Sl B 3 w1 (.slice ao l.length cap) (ints l)) := by rw [hw1]; exact HV.out.drewN n1
  have HB1 : Hid (Below w.heap.size w w1) := by rw [hw1]; exact ⟨rfl, rfl, rfl, Nat.le_refl _, fun _ _ => rfl⟩
  have hs1 : w.heap.size = w1.heap.size := by rw [hw1]; rfl
  have HS1 : Hid (w.heap.size = w1.heap.size) := hs1
  clear hw1 hs1
  obtain ⟨g, hg⟩ : ∃ g, g = Lin.gc l := ⟨_, rfl⟩
  have HG : Hid (g = Lin.gc l) := hg
  rw [← hg]
  have hgb : g ≤ 4611686018427387904 := by rw [hg]; exact gc_le HBD.out
  clear hg
  have HBA : Hid (Below w.heap.size w (w1.alloc (.cells #[.int .i64 g] 3))) := HB1.out.alloc (by rw [HS1.out]; exact Nat.le_refl _) _
  by_cases h0 : g = 0
  · have hgb0 : ((g : Int) == 0) = true := by simp [h0]
    have HLZ : Hid (Lin.low l = l) := low_zero (by rw [← HG.out]; exact h0)
    clear h0
    go_wp2_with fail
    refine (clone_any B l _ _ (HV1.out.alloc _) hl).mono ?_
    rintro e w2 ⟨u, rfl, ho, hb2⟩
    have HO : Hid (w2.ownsRow w.heap.size 3 1 u l.length (ints (Lin.low l))) := by rw [HLZ.out]; exact ho.mono HBA.out.size
    have HB2 : Hid (Below w.heap.size w w2) := HBA.out.trans (hb2.mono HBA.out.size)
    clear ho hb2
    go_wp2
    go_ret
    exact ⟨_, rfl, HO.out, HB2.out⟩
  · have hgb0 : ((g : Int) == 0) = false := by rw [beq_eq_false_iff_ne]; omega
    have HLP : Hid ((l.map fun z => z.tdiv (g : Int)) = Lin.low l) := by show _ = _; rw [HG.out]; exact low_prog (by rw [← HG.out]; omega)
    have hg1 : (1 : Int) ≤ (g : Int) := by omega
    clear h0
    go_wp2_with fail
    refine (mappedP_own B l _ _ (HV1.out.alloc _) hl w1.heap.size g (by simp) hg1 HBD.out (by simp)).mono ?_
    rintro e w2 ⟨u, rfl, ho, hb2⟩
    have HO : Hid (w2.ownsRow w.heap.size 3 1 u l.length (ints (Lin.low l))) := by rw [← HLP.out]; exact ho.mono HBA.out.size
    have HB2 : Hid (Below w.heap.size w w2) := HBA.out.trans (hb2.mono HBA.out.size)
    clear ho hb2
    go_wp2
    go_ret
    exact ⟨_, rfl, HO.out, HB2.out⟩


set_option maxRecDepth 100000 in
set_option maxHeartbeats 400000 in
theorem negated_own (B : Nat) (l : List Int) (v : Value) (w : World) (hv : Sl B 3 w v (ints l)) (hl : l.length ≤ 1000000) (hb : ∀ z ∈ l, z.natAbs ≤ 4611686018427387904) :
    Calls Try.prog 43 #[v] w fun e w' => ∃ u, e = .returned u ∧ w'.ownsRow w.heap.size 3 1 u l.length (ints (l.map fun z => -z)) ∧ Below w.heap.size w w' := by
  go_enter Try.func43, Try.ntmps43
  go_wp2_with fail
  refine (mappedN_own B l v w hv hl hb).mono ?_
  rintro e w2 ⟨u, rfl, ho, hb2⟩
  have HO : Hid (w2.ownsRow w.heap.size 3 1 u l.length (ints (l.map fun z => -z))) := ho
  have HB2 : Hid (Below w.heap.size w w2) := hb2
  clear ho hb2
  go_wp2
  go_ret
  exact ⟨_, rfl, HO.out, HB2.out⟩


set_option maxRecDepth 100000 in
set_option maxHeartbeats 400000 in
theorem upright_own (B : Nat) (l : List Int) (v : Value) (w : World) (ho0 : w.ownsRow B 3 1 v l.length (ints l)) (hB0 : B ≤ w.heap.size) (hl : l.length ≤ 1000000) (hb : ∀ z ∈ l, z.natAbs ≤ 4611686018427387904) :
    Calls Try.prog 69 #[v] w fun e w' => ∃ u, e = .returned u ∧ w'.ownsRow B 3 1 u l.length (ints (Lin.upr l)) ∧ Below w.heap.size w w' := by
  have hv : Sl B 3 w v (ints l) := Sl.own ho0
  obtain ⟨ao, cap, hvv, hlc, hcm⟩ := sl_open hv
  subst hvv
  have HO0 : Hid (w.ownsRow B 3 1 (.slice ao l.length cap) l.length (ints l)) := ho0
  have HV : Hid (Sl B 3 w (.slice ao l.length cap) (ints l)) := hv
  have HBD : Hid (∀ z ∈ l, z.natAbs ≤ 4611686018427387904) := hb
  clear hv hb ho0
  cases han : l.any (· != 0)
  · have HU : Hid (Lin.upr l = l) := upr_none han
    have HF : Hid (findI (· != 0) l = -1) := findI_none han
    clear han
    go_enter Try.func69, Try.ntmps69
    go_wp2_with fail
    refine (index92_any B l _ w HV.out).mono ?_
    rintro e w' ⟨rfl, rfl⟩
    rw [HF.out]
    go_wp2
    go_ret
    exact ⟨_, rfl, by rw [HU.out]; exact HO0.out, Below.refl _ _⟩
  · obtain ⟨k, hk, hf, hu⟩ := upr_find han
    have HF : Hid (findI (· != 0) l = k) := hf
    have HU : Hid (Lin.upr l = if l.getD k 0 < 0 then l.map (fun v => -v) else l) := hu
    clear han hf hu
    obtain ⟨b, o, cp, hs, hc1, hcc⟩ := sl_cell HV.out hk
    simp only [Value.slice.injEq] at hs
    obtain ⟨rfl, _, rfl⟩ := hs
    generalize l.getD k 0 = x at *
    by_cases hneg : x < 0
    · have HU2 : Hid (Lin.upr l = l.map (fun v => -v)) := by show _ = _; rw [HU.out, if_pos hneg]
      go_enter Try.func69, Try.ntmps69
      go_wp2_with fail
      refine (index92_any B l _ w HV.out).mono ?_
      rintro e w' ⟨rfl, rfl⟩
      rw [HF.out]
      go_wp2_with fail
      refine (negated_own B l _ w' HV.out hl HBD.out).mono ?_
      rintro e w2 ⟨u, rfl, ho, hb2⟩
      have HO : Hid (w2.ownsRow B 3 1 u l.length (ints (Lin.upr l))) := by rw [HU2.out]; exact ho.mono hB0
      have HB2 : Hid (Below w'.heap.size w' w2) := hb2
      clear ho hb2
      go_wp2
      go_ret
      exact ⟨_, rfl, HO.out, HB2.out⟩
    · have HU2 : Hid (Lin.upr l = l) := by show _ = _; rw [HU.out, if_neg hneg]
      go_enter Try.func69, Try.ntmps69
      go_wp2_with fail
      refine (index92_any B l _ w HV.out).mono ?_
      rintro e w' ⟨rfl, rfl⟩
      rw [HF.out]
      go_wp2
      go_ret
      exact ⟨_, rfl, by rw [HU2.out]; exact HO0.out, Below.refl _ _⟩


end Go.Proofs.Ytgjlnhfjgkljdaa

/- The program's normal where no difference is left: in one dimension. -/
namespace Go.Proofs.Ytgjlnhfjgkljdaa
open Go.RowKit Lin
attribute [local go_sem ↓] Go.wp_at_zero Go.wp_at_succ

def nil4 : Array Value := #[.slice none 0 0, .slice none 0 0, .int .i64 1, .int .i64 1]

set_option maxRecDepth 100000 in
set_option maxHeartbeats 400000 in
theorem pivot_nil (R q : Nat) (w : World) (h : w.heap[R]? = some (.cells nil4 70 (0, 0))) :
    Calls Try.prog 67 #[.pointer (some ⟨R, 0, none⟩), .int .i64 q] w fun e w' => e = .returned (.tuple #[]) ∧ w'.heap[R]? = some (.cells nil4 70 (0, 0)) ∧ Below w.heap.size w w' := by
  have hRlt := lt_of_block h
  have h0 : w.cell? ⟨R, 0, none⟩ = some (.slice none 0 0) := by simp [World.cell?, h, nil4]
  have h1 : w.cell? ⟨R, 1, none⟩ = some (.slice none 0 0) := by simp [World.cell?, h, nil4]
  have HAL : Hid (Below w.heap.size w (w.alloc (.cells #[.int .i64 q] 3))) := (Below.refl _ _).alloc (Nat.le_refl _) _
  have HE : Hid (findR [] q = -1) := rfl
  have HH : Hid (w.heap[R]? = some (.cells nil4 70 (0, 0))) := h
  clear h
  go_enter Try.func67, Try.ntmps67
  go_wp2_with fail
  refine (index103_any 0 q [] _ ⟨w.heap.size, 0, none⟩ _ ⟨[], rfl, Sl.nil _ _ _, fun i hi => absurd hi (by simp)⟩ (fun r hr => absurd hr (by simp)) (by simp)).mono ?_
  rintro e w' ⟨rfl, rfl⟩
  rw [HE.out]
  go_wp2
  exact bodyPost_ret (v := .tuple #[]) (by simp [results, Try.results67, go_sem]) rfl ⟨rfl, by rw [HAL.out.block R hRlt]; exact HH.out, HAL.out⟩

set_option maxRecDepth 100000 in
set_option maxHeartbeats 400000 in
theorem reduce_nil (ao : Option Addr) (cap : Nat) (w : World) :
    Calls Try.prog 47 #[.slice ao 0 cap, .int .i64 1] w fun e w' => e = .returned (.agg nil4) ∧ Below w.heap.size w w' := by
  go_enter Try.func47, Try.ntmps47
  go_wp2
  obtain ⟨W0, hW0⟩ : ∃ W0, W0 = (w.alloc (.cells #[.slice none 0 0, .slice none 0 0, .int .i64 0, .int .i64 0] 70)).alloc (.cells #[.slice none 0 0, .slice none 0 0, .int .i64 1, .int .i64 1] 70) := ⟨_, rfl⟩
  obtain ⟨R, hR⟩ : ∃ R, R = w.heap.size + 1 := ⟨_, rfl⟩
  rw [← hW0, ← hR]
  have HR : Hid (R = w.heap.size + 1) := hR
  have HG0 : Hid (W0.heap[R]? = some (.cells nil4 70 (0, 0))) := by
    rw [hW0, hR]
    have e : (w.alloc (.cells #[.slice none 0 0, .slice none 0 0, .int .i64 0, .int .i64 0] 70)).heap.size = w.heap.size + 1 := by simp
    rw [← e]; exact alloc_at _ _
  have HB0 : Hid (Below w.heap.size w W0) := by rw [hW0]; exact ((Below.refl _ _).alloc (Nat.le_refl _) _).alloc (by simp) _
  have HK0 : Hid (W0.heap[w.heap.size]? = some (.cells #[.slice none 0 0, .slice none 0 0, .int .i64 0, .int .i64 0] 70 (0, 0))) := by
    show _ = _
    rw [hW0, Below.heap_alloc _ _ _ (by simp)]; exact alloc_at _ _
  clear hW0 hR
  go_loopw [12, 7] (fun i _ wr => i = .int .i64 0 ∧ wr = W0) (fun _ _ _ => 0)
  case atStart => exact ⟨rfl, rfl⟩
  case round =>
    obtain ⟨rfl, rfl⟩ := hrel
    obtain ⟨wz, rfl⟩ : ∃ wz, wz = wr := ⟨wr, rfl⟩
    go_wp2
    go_loopw [25, 8] (fun i _ wx => ∃ q : Nat, q ≤ 1 ∧ i = .int .i64 q ∧ wx.heap[R]? = some (.cells nil4 70 (0, 0)) ∧ Below wz.heap.size wz wx) (fun i _ _ => 1 - (intOf i).toNat)
    case atStart => exact ⟨0, Nat.zero_le _, rfl, HG0.out, Below.refl _ _⟩
    case round =>
      obtain ⟨q, hq, rfl, hg, hb⟩ := hrel
      have HB : Hid (Below wz.heap.size wz wr) := hb
      have HG : Hid (wr.heap[R]? = some (.cells nil4 70 (0, 0))) := hg
      clear hg hb
      by_cases hq1 : q < 1
      · go_wp2_with fail
        refine (pivot_nil R q wr HG.out).mono ?_
        rintro e w2 ⟨rfl, hg2, hb2⟩
        have S1 : Hid (w2.heap[R]? = some (.cells nil4 70 (0, 0))) := hg2
        have S2 : Hid (Below wz.heap.size wz w2) := HB.out.trans (hb2.mono HB.out.size)
        clear hg2 hb2
        go_wp2
        go_roundw
        case rel => exact ⟨q + 1, by omega, by go_num, S1.out, S2.out⟩
        case measure => simp [intOf]; omega
      · have hr := HG.out
        have c0 : wr.cell? ⟨R, 0, none⟩ = some (.slice none 0 0) := by simp [World.cell?, hr, nil4]
        have c1 : wr.cell? ⟨R, 1, none⟩ = some (.slice none 0 0) := by simp [World.cell?, hr, nil4]
        have c2 : wr.cell? ⟨R, 2, none⟩ = some (.int .i64 1) := by simp [World.cell?, hr, nil4]
        have c3 : wr.cell? ⟨R, 3, none⟩ = some (.int .i64 1) := by simp [World.cell?, hr, nil4]
        have hk : wr.heap[w.heap.size]? = some (.cells #[.slice none 0 0, .slice none 0 0, .int .i64 0, .int .i64 0] 70 (0, 0)) := (HB.out.block _ (lt_of_block HK0.out)).trans HK0.out
        have k0 : wr.cell? ⟨w.heap.size, 0, none⟩ = some (.slice none 0 0) := by simp [World.cell?, hk]
        have k1 : wr.cell? ⟨w.heap.size, 1, none⟩ = some (.slice none 0 0) := by simp [World.cell?, hk]
        have k2 : wr.cell? ⟨w.heap.size, 2, none⟩ = some (.int .i64 0) := by simp [World.cell?, hk]
        have k3 : wr.cell? ⟨w.heap.size, 3, none⟩ = some (.int .i64 0) := by simp [World.cell?, hk]
        have kf : ∀ i, wr.frozen? ⟨w.heap.size, i, none⟩ = false := fun i => by simp [World.frozen?, hk]
        have f0 := kf 0
        have f1 := kf 1
        have f2 := kf 2
        have f3 := kf 3
        have HFN : Hid (∀ x0 x1 x2 x3, Below w.heap.size w ((((wr.setCell ⟨w.heap.size, 0, none⟩ x0).setCell ⟨w.heap.size, 1, none⟩ x1).setCell ⟨w.heap.size, 2, none⟩ x2).setCell ⟨w.heap.size, 3, none⟩ x3)) := by
          intro x0 x1 x2 x3
          exact ((((HB0.out.trans (HB.out.mono HB0.out.size)).setCell (by exact Nat.le_refl _) _).setCell (by exact Nat.le_refl _) _).setCell (by exact Nat.le_refl _) _).setCell (by exact Nat.le_refl _) _
        have hq' : q = 1 := by omega
        subst hq'
        clear hr hk kf hq1 hq
        go_wp2
        refine bodyPost_ret (v := .agg nil4) (by simp [results, Try.results47, go_sem, nil4, *]) rfl ?_
        exact ⟨rfl, HFN.out _ _ _ _⟩

set_option maxRecDepth 100000 in
set_option maxHeartbeats 400000 in
theorem normal_nil (ao : Option Addr) (cap : Nat) (w : World) :
    Calls Try.prog 50 #[.slice ao 0 cap, .int .i64 1] w fun e w' => ∃ x, e = .returned (.tuple #[x, .bool true]) ∧ Sl w.heap.size 3 w' x (ints [1]) ∧ Below w.heap.size w w' := by
  go_enter Try.func50, Try.ntmps50
  go_wp2_with fail
  refine (reduce_nil ao cap w).mono ?_
  rintro e w2 ⟨rfl, hb⟩
  obtain ⟨w3, hw3⟩ : ∃ w3, w3 = w2.alloc (.cells #[.slice none 0 0, .slice none 0 0, .int .i64 1, .int .i64 1] 70) := ⟨_, rfl⟩
  have HB3 : Hid (Below w.heap.size w w3) := by rw [hw3]; exact hb.alloc hb.size _
  have HC3 : Hid (w3.heap[w2.heap.size]? = some (.cells #[.slice none 0 0, .slice none 0 0, .int .i64 1, .int .i64 1] 70 (0, 0))) := by rw [hw3]; exact alloc_at _ _
  have HW3 : Hid (w3 = w2.alloc (.cells #[.slice none 0 0, .slice none 0 0, .int .i64 1, .int .i64 1] 70)) := hw3
  have HS3 : Hid (w2.heap.size < w3.heap.size) := by rw [hw3]; show _ < _; simp
  clear hb hw3
  unfold nil4
  go_wp2_with fail
  rw [← HW3.out]
  refine (free_col w2.heap.size 0 0 none _ _ _ (fun _ => 0) w.heap.size w3 (by omega) (fun b hb => by omega) HC3.out (Sl.nil _ _ _)).mono ?_
  rintro e w4 ⟨f, rfl, hfk, _, _, hw4⟩
  subst hw4
  have hf0 : f = 0 := by omega
  subst hf0
  clear HW3 hfk
  have c1 : w4.cell? ⟨w2.heap.size, 1, none⟩ = some (.slice none 0 0) := by simp [World.cell?, HC3.out]
  have c2 : w4.cell? ⟨w2.heap.size, 2, none⟩ = some (.int .i64 1) := by simp [World.cell?, HC3.out]
  have hs3 := HS3.out
  have hmk : ∀ w : World, (Instr.makeSlice 22 (.int .i64 1) (.int .i64 1)).run Try.prog w = .ok (.slice (some ⟨w.heap.size, 0, none⟩) 1 1) (w.alloc (.cells (madeCells #[.int .i64 0] 1) 3)) := run_make_row' (P := Try.prog) 22 3 (.int .i64 0) 8 Try.underlying22 Try.info3 rfl .i64 .i64 1 (by omega) (by omega)
  have hmc : (madeCells #[.int .i64 0] 1)[0]? = some (.int .i64 0) := by
    rw [← Array.getElem?_toList, toList_madeCells_one]; simp
  have hne : w2.heap.size ≠ w4.heap.size := by omega
  have hne' : w4.heap.size ≠ w2.heap.size := by omega
  have HG0 : Hid ((w4.alloc (.cells ((madeCells #[.int .i64 0] 1).setIfInBounds 0 (.int .i64 1)) 3)).rowIs w4.heap.size 3 1 (fun _ => .int .i64 1) ∧ Below w4.heap.size w4 (w4.alloc (.cells ((madeCells #[.int .i64 0] 1).setIfInBounds 0 (.int .i64 1)) 3))) := by
    have e : (w4.alloc (.cells (madeCells #[.int .i64 0] 1) 3)).setCell ⟨w4.heap.size, 0, none⟩ (.int .i64 1) = w4.alloc (.cells ((madeCells #[.int .i64 0] 1).setIfInBounds 0 (.int .i64 1)) 3) := by simp [go_sem]
    refine ⟨?_, (Below.refl _ _).alloc (Nat.le_refl _) _⟩
    rw [← e]
    exact ((World.rowIs_made w4 (.int .i64 0) 1 3).set 0 (.int .i64 1)).congr fun j hj => by simp [show j = 0 by omega]
  go_wp2
  obtain ⟨w5, hw5⟩ : ∃ w5, w5 = w4.alloc (.cells ((madeCells #[.int .i64 0] 1).setIfInBounds 0 (.int .i64 1)) 3) := ⟨_, rfl⟩
  rw [← hw5] at HG0 ⊢
  clear hw5
  go_loopw [31, 9, 10] (fun i _ _ wr => i = .int .i64 0 ∧ wr = w5) (fun _ _ _ _ => 0)
  case atStart => exact ⟨rfl, rfl⟩
  case round =>
    obtain ⟨rfl, rfl⟩ := hrel
    have HSL : Hid (∀ B, Sl B 3 wr (.slice (some ⟨w4.heap.size, 0, none⟩) 1 1) (ints [1])) := by
      intro B
      exact Sl.row HG0.out.1 (by simp) (by unfold maxLen; omega) fun i hi => by simp [ints, show i = 0 by omega]
    have HLO : Hid (Lin.low [1] = [1] ∧ Lin.upr [1] = [1]) := by
      show _ ∧ _
      decide
    go_wp2_with fail
    refine (primitive_any w.heap.size [1] _ wr (HSL.out _) (by simp) (fun z hz => by simp at hz; subst hz; decide)).mono ?_
    rintro e w6 ⟨u, rfl, hs6, hb6⟩
    rw [HLO.out.1] at hs6
    obtain ⟨uo, uc, hu, _, _⟩ := sl_open (hs6 0)
    subst hu
    go_wp2_with fail
    refine (upright_any w.heap.size [1] _ w6 (hs6 _) (by simp) (fun z hz => by simp at hz; subst hz; decide)).mono ?_
    rintro e w7 ⟨y, rfl, hs7, hb7⟩
    rw [HLO.out.2] at hs7
    obtain ⟨yo, yc, hy, _, _⟩ := sl_open hs7
    subst hy
    have HS7 : Hid (Sl w.heap.size 3 w7 (.slice yo [(1 : Int)].length yc) (ints [1])) := hs7
    have HB7 : Hid (Below w.heap.size w w7) := by
      have h3 := HB3.out
      have h4 : Below w.heap.size w4 wr := HG0.out.2.mono h3.size
      have h5 : Below w.heap.size wr w6 := hb6.mono (Nat.le_trans h3.size HG0.out.2.size)
      have h6 : Below w.heap.size w6 w7 := hb7.mono (Nat.le_trans (Nat.le_trans h3.size HG0.out.2.size) hb6.size)
      exact ((h3.trans h4).trans h5).trans h6
    clear hs6 hs7 hb6 hb7
    go_wp2
    go_ret2
    exact ⟨_, rfl, HS7.out, HB7.out⟩

end Go.Proofs.Ytgjlnhfjgkljdaa

/- The program's normal: a row of the call's own. -/
namespace Go.Proofs.Ytgjlnhfjgkljdaa
open Go.RowKit Lin
attribute [local go_sem ↓] Go.wp_at_zero Go.wp_at_succ

theorem low_len (l : List Int) : (low l).length = l.length := by simp [low]
theorem upr_len (l : List Int) : (upr l).length = l.length := by unfold upr; split <;> simp

set_option maxRecDepth 100000 in
set_option maxHeartbeats 2000000 in
theorem normalP_own (B c : Nat) (m : List (List Int)) (v : Value) (w : World) (hx : Mx c 60 m) (hv : Mat B 22 3 w v m) (hm : m.length ≤ 500) (hm0 : 1 ≤ m.length) :
    Calls Try.prog 50 #[v, .int .i64 c] w fun e w' => ∃ x, e = .returned (.tuple #[x, .bool (normB c m)]) ∧ w'.ownsRow w.heap.size 3 1 x (normL c m).length (ints (normL c m)) ∧ Below w.heap.size w w' := by
  obtain ⟨ao, cap, hvv, hlc, hcm⟩ := mat_open hv
  subst hvv
  have hc5 := hx.c5
  have hc1 := hx.c1
  have HR : Hid (Calls Try.prog 47 #[.slice ao m.length cap, .int .i64 c] w fun e w' => ∃ M' C k sgn, Red (mOf m) m.length c M' C k sgn ∧ ∃ ro rc po pc, e = .returned (.agg #[.slice ro m.length rc, .slice po k pc, .int .i64 (dk M' C k), .int .i64 sgn]) ∧
      Mat w.heap.size 22 3 w' (.slice ro m.length rc) (rowsOf m.length c (rr M' C k)) ∧ Sl w.heap.size 3 w' (.slice po k pc) (ints ((List.range k).map fun b => (C b : Int))) ∧ Below w.heap.size w w') := by
    refine (reduce_any B c m _ w hv hm hm0 hc1 (by omega) hx.row (bd60 hx)).mono ?_
    rintro e w' ⟨M', C, k, sgn, hr, rv, pv, rfl, h1, h2, h3⟩
    obtain ⟨ro, rc, e1, _, _⟩ := mat_open h1
    obtain ⟨po, pc, e2, _, _⟩ := sl_open h2
    simp only [List.length_map, List.length_range, rowsOf] at e1 e2
    subst e1 e2
    exact ⟨M', C, k, sgn, hr, ro, rc, po, pc, rfl, h1, h2, h3⟩
  have HX : Hid (Mx c 60 m) := hx
  clear hv hx
  go_enter Try.func50, Try.ntmps50
  go_wp2_with fail
  refine (HR.out).mono ?_
  rintro e w2 ⟨M', C, k, sgn, hred, ro, rc, po, pc, rfl, hmat, hpiv, hb⟩
  obtain ⟨_, _, hq1, hq2, hq3⟩ := mat_open hmat
  simp only [Value.slice.injEq, rowsOf, List.length_map, List.length_range] at hq1 hq2
  obtain ⟨rfl, _, rfl⟩ := hq1
  have HRD : Hid (Red (mOf m) m.length c M' C k sgn) := hred
  have hkn := hred.done.kn
  have hkc := rising_le hred.done.rise
  have hrk := red_rank hred
  have HRK : Hid (k = (pickL c m).length) := hrk
  have HVB : Hid (k ≤ 4 → (dk M' C k).natAbs ≤ 1000000000000 ∧ ∀ i, i < m.length → ∀ j, j < c → (rr M' C k i j).natAbs ≤ 1000000000000) := by
    intro hk4
    have h5 : fb 60 5 = 93312000000 := by decide
    have h4 : fb 60 4 = 311040000 := by decide
    have m1 : fb 60 k ≤ fb 60 4 := fb_mono (by decide) hk4
    have m2 : fb 60 (k + 1) ≤ fb 60 5 := fb_mono (by decide) (by omega)
    have hb := dk_bd (B := 60) (k := k) (M := M') (C := C) (fun i hi b hb => red_entry HX.out hred i (by omega) _ (hred.done.rise.2 b hb))
    refine ⟨by omega, fun i hi j hj => ?_⟩
    have := rr_bd (B := 60) (n := m.length) (c := c) (k := k) (i := i) (j := j) (M := M') (C := C) (by decide) (red_entry HX.out hred) hkn hred.done.rise.2 hi hj
    omega
  obtain ⟨w3, hw3⟩ : ∃ w3, w3 = w2.alloc (.cells #[.slice ro m.length rc, .slice po k pc, .int .i64 (dk M' C k), .int .i64 sgn] 70) := ⟨_, rfl⟩
  have HB3 : Hid (Below w.heap.size w w3) := by rw [hw3]; exact hb.alloc hb.size _
  have HM3 : Hid (Mat w.heap.size 22 3 w3 (.slice ro m.length rc) (rowsOf m.length c (rr M' C k))) := by rw [hw3]; exact hmat.below ((Below.refl _ _).alloc (Nat.le_refl _) _) (Nat.le_refl _)
  have HP3 : Hid (Sl w.heap.size 3 w3 (.slice po k pc) (ints ((List.range k).map fun b => (C b : Int)))) := by rw [hw3]; exact hpiv.alloc _
  have HC3 : Hid (w3.heap[w2.heap.size]? = some (.cells #[.slice ro m.length rc, .slice po k pc, .int .i64 (dk M' C k), .int .i64 sgn] 70 (0, 0))) := by rw [hw3]; exact alloc_at _ _
  have HW3 : Hid (w3 = w2.alloc (.cells #[.slice ro m.length rc, .slice po k pc, .int .i64 (dk M' C k), .int .i64 sgn] 70)) := hw3
  have HS3 : Hid (w2.heap.size < w3.heap.size) := by rw [hw3]; show _ < _; simp
  clear hred hmat hpiv hb hrk hw3
  by_cases hkc1 : k + 1 = c
  · have htest : ((k : Int) != (c : Int) - 1) = false := by rw [bne_eq_false_iff_eq]; omega
    go_wp2_with fail
    rw [← HW3.out]
    refine (free_col w2.heap.size k pc po _ _ _ C w.heap.size w3 (by omega) (fun b hb => by have := HRD.out.done.rise.2 b hb; omega) HC3.out HP3.out).mono ?_
    rintro e w4 ⟨f, rfl, hfk, hf1, hf2, hw4⟩
    subst hw4
    have HF1 : Hid (∀ b, b < f → C b = b) := hf1
    have HF2 : Hid (f < k → C f ≠ f) := hf2
    clear hf1 hf2 HW3
    have c0 : w4.cell? ⟨w2.heap.size, 0, none⟩ = some (.slice ro m.length rc) := by simp [World.cell?, HC3.out]
    have c1 : w4.cell? ⟨w2.heap.size, 1, none⟩ = some (.slice po k pc) := by simp [World.cell?, HC3.out]
    have c2 : w4.cell? ⟨w2.heap.size, 2, none⟩ = some (.int .i64 (dk M' C k)) := by simp [World.cell?, HC3.out]
    have hs3 := HS3.out
    obtain ⟨R, hR⟩ : ∃ R, R = w2.heap.size := ⟨_, rfl⟩
    rw [← hR] at c0 c1 c2 hs3 ⊢
    obtain ⟨val, hval⟩ : ∃ val, val = dk M' C k := ⟨_, rfl⟩
    have HVAL : Hid (val = dk M' C k) := hval
    rw [← hval] at c2
    have HSR : Hid (w4.heap[R]? = some (.cells #[.slice ro m.length rc, .slice po k pc, .int .i64 val, .int .i64 sgn] 70 (0, 0))) := by rw [hR, hval]; exact HC3.out
    clear hval hR HC3 HS3
    have hfc : f < c := by omega
    have hmk := run_make_row' (P := Try.prog) 22 3 (.int .i64 0) 8 Try.underlying22 Try.info3 rfl .i64 .i64 c (by omega) (by omega)
    have hmc : (madeCells #[.int .i64 0] c)[f]? = some (.int .i64 0) := by
      rw [← Array.getElem?_toList, toList_madeCells_one]; simp [hfc]
    have hne : R ≠ w4.heap.size := by omega
    have hne' : w4.heap.size ≠ R := by omega
    have HG0 : Hid (w4.heap.size ≤ (w4.alloc (.cells ((madeCells #[.int .i64 0] c).setIfInBounds f (.int .i64 val)) 3)).heap.size ∧ (w4.alloc (.cells ((madeCells #[.int .i64 0] c).setIfInBounds f (.int .i64 val)) 3)).rowIs w4.heap.size 3 c (fun j => .int .i64 (nv val f (fun a => rr M' C k a f) C 0 j)) ∧ Below w4.heap.size w4 (w4.alloc (.cells ((madeCells #[.int .i64 0] c).setIfInBounds f (.int .i64 val)) 3))) := by
      have e : (w4.alloc (.cells (madeCells #[.int .i64 0] c) 3)).setCell ⟨w4.heap.size, f, none⟩ (.int .i64 val) = w4.alloc (.cells ((madeCells #[.int .i64 0] c).setIfInBounds f (.int .i64 val)) 3) := by simp [go_sem]
      refine ⟨by simp, ?_, (Below.refl _ _).alloc (Nat.le_refl _) _⟩
      rw [← e]
      exact ((World.rowIs_made w4 (.int .i64 0) c 3).set f (.int .i64 val)).congr fun j hj => by unfold nv; by_cases e : j = f <;> simp [e]
    go_wp2
    go_loopw [31, 9, 10] (fun i _ _ wr => ∃ t : Nat, t ≤ k ∧ i = .int .i64 t ∧ Below w4.heap.size w4 wr ∧ wr.rowIs w4.heap.size 3 c (fun j => .int .i64 (nv val f (fun a => rr M' C k a f) C t j))) (fun i _ _ _ => k - (intOf i).toNat)
    case atStart => exact ⟨0, Nat.zero_le _, rfl, HG0.out.2.2, HG0.out.2.1⟩
    case round =>
      obtain ⟨t, ht, rfl, hbel, hrow⟩ := hrel
      have HB : Hid (Below w4.heap.size w4 wr) := hbel
      have HRW : Hid (wr.rowIs w4.heap.size 3 c (fun j => .int .i64 (nv val f (fun a => rr M' C k a f) C t j))) := hrow
      have d0 : wr.cell? ⟨R, 0, none⟩ = some (.slice ro m.length rc) := (hbel.cell hs3).trans c0
      by_cases htk : t < k
      · obtain ⟨pb, po2, pcp, hs, hp1, hpc⟩ := sl_cell (HP3.out.below hbel (Nat.le_refl _)) (k := t) (by simpa using htk)
        simp only [Value.slice.injEq, List.length_map, List.length_range] at hs
        obtain ⟨rfl, _, rfl⟩ := hs
        have hg : ((List.range k).map fun b => (C b : Int)).getD t 0 = (C t : Int) := by simp [htk]
        rw [hg] at hpc
        have hCt : C t < c := HRD.out.done.rise.2 t htk
        obtain ⟨rb, ro2, rcp, u, hs2, _, hrc, hru⟩ := mat_cell (HM3.out.below hbel (Nat.le_refl _)) (k := t) (by simp [rowsOf]; omega)
        simp only [Value.slice.injEq, rowsOf, List.length_map, List.length_range, true_and] at hs2
        obtain ⟨rfl, rfl⟩ := hs2
        rw [rows_at (by omega)] at hru
        obtain ⟨xb, xo, xcp, hs3', hxl, hxc⟩ := sl_cell hru (k := f) (by simpa using hfc)
        have hg2 : ((List.range c).map (rr M' C k t)).getD f 0 = rr M' C k t f := by simp [hfc]
        rw [hg2] at hxc
        simp only [List.length_map, List.length_range] at hs3' hxl
        subst hs3'
        have hcl := hrow.cell (i := C t) hCt
        have hfz := hrow.frozen (C t)
        have HBX := (HVB.out (by omega)).2 t (by omega) f hfc
        obtain ⟨ct, hct⟩ : ∃ ct, ct = C t := ⟨_, rfl⟩
        obtain ⟨x, hxx⟩ : ∃ x, x = rr M' C k t f := ⟨_, rfl⟩
        have HCT : Hid (ct = C t) := hct
        have HXX : Hid (x = rr M' C k t f) := hxx
        rw [← hct] at hpc hCt hcl hfz
        rw [← hxx] at hxc HBX
        generalize nv val f (fun a => rr M' C k a f) C t ct = old at hcl
        clear hg hg2 hct hxx hrow hbel hru
        go_wp2
        go_roundw
        case rel =>
          refine ⟨t + 1, by omega, by go_num, HB.out.setCell (by exact Nat.le_refl _) _, ?_⟩
          refine (HRW.out.set ct _).congr fun j _ => ?_
          show _ = Value.int .i64 (if j = C t then - rr M' C k t f else nv val f (fun a => rr M' C k a f) C t j)
          rw [← HCT.out, ← HXX.out]
          by_cases e : j = ct <;> simp [e]
        case measure => simp [intOf]; omega
      · have htk' : t = k := by omega
        subst htk'
        have HL : Hid (upr (low ((List.range c).map (nv val f (fun a => rr M' C t a f) C t))) = normL c m) := by
          rw [HVAL.out]; exact red_norm HRD.out hkc1 (nu_of HRD.out.done.rise hkc1 hfk HF1.out HF2.out)
        have HNB : Hid (normB c m = true) := by
          have := HRK.out
          exact decide_eq_true (by omega)
        have HB1 : Hid (∀ z ∈ (List.range c).map (nv val f (fun a => rr M' C t a f) C t), z.natAbs ≤ 1000000000000) := by
          intro z hz
          rw [List.mem_map] at hz
          obtain ⟨j, _, rfl⟩ := hz
          have hv := HVB.out (by omega)
          exact nv_bd (by rw [HVAL.out]; exact hv.1) fun a ha => hv.2 a (by omega) f hfc
        obtain ⟨L, hLL⟩ : ∃ L, L = (List.range c).map (nv val f (fun a => rr M' C t a f) C t) := ⟨_, rfl⟩
        have HLN : Hid (L.length = c) := by show _ = _; rw [hLL]; simp
        have HSL : Hid (∀ B, Sl B 3 wr (.slice (some ⟨w4.heap.size, 0, none⟩) c c) (ints L)) := by
          intro B
          refine Sl.row HRW.out (by simp [HLN.out]) (by unfold maxLen; omega) fun i hi => ?_
          rw [ints_get _ _ (by rw [HLN.out]; exact hi), hLL]; simp [hi]
        rw [← hLL] at HL HB1
        clear hrow hbel hLL HRW
        go_wp2_with fail
        refine (primitive_own w.heap.size L _ wr (HSL.out _) (by rw [HLN.out]; omega) (fun z hz => Nat.le_trans (HB1.out z hz) (by decide))).mono ?_
        rintro e w5 ⟨u, rfl, hs5, hb5⟩
        have hs5' : w5.ownsRow wr.heap.size 3 1 u (low L).length (ints (low L)) := by rw [low_len]; exact hs5
        obtain ⟨uo, uc, hu⟩ := owns_form hs5'
        subst hu
        have HS5 : Hid (w5.ownsRow wr.heap.size 3 1 (.slice uo (low L).length uc) (low L).length (ints (low L))) := hs5'
        clear hs5 hs5'
        go_wp2_with fail
        refine (upright_own wr.heap.size (low L) _ w5 HS5.out hb5.size (by simp [low, HLN.out]; omega) (fun z hz => Nat.le_trans (low_bd HB1.out z hz) (by decide))).mono ?_
        rintro e w6 ⟨y, rfl, hs6, hb6⟩
        have hs6' : w6.ownsRow w.heap.size 3 1 y (upr (low L)).length (ints (upr (low L))) := by
          rw [upr_len]
          exact hs6.mono (Nat.le_trans HB3.out.size HB.out.size)
        obtain ⟨yo, yc, hy⟩ := owns_form hs6'
        subst hy
        have HS6 : Hid (w6.ownsRow w.heap.size 3 1 (.slice yo (upr (low L)).length yc) (upr (low L)).length (ints (upr (low L)))) := hs6'
        have HB6 : Hid (Below w.heap.size w w6) := by
          have h3 := HB3.out
          have h4 : Below w.heap.size w4 wr := HB.out.mono h3.size
          have h5 : Below w.heap.size wr w5 := hb5.mono (Nat.le_trans h3.size HB.out.size)
          have h6 : Below w.heap.size w5 w6 := hb6.mono (Nat.le_trans (Nat.le_trans h3.size HB.out.size) hb5.size)
          exact ((h3.trans h4).trans h5).trans h6
        have HGL : Hid ((normL c m).length = (upr (low L)).length) := by
          show _ = _
          rw [HL.out]
        clear hs6 hs6' hb5 hb6
        generalize hgl : (upr (low L)).length = yl at *
        clear hgl
        go_wp2
        go_ret2
        exact ⟨_, by rw [HNB.out]; rfl, by rw [HGL.out, ← HL.out]; exact HS6.out, HB6.out⟩
  · have htest : ((k : Int) != (c : Int) - 1) = true := by rw [bne_iff_ne]; omega
    have HNB : Hid (normB c m = false ∧ normL c m = []) := by
      have := HRK.out
      exact ⟨decide_eq_false (by omega), if_neg (by omega)⟩
    have HBQ : Hid (Below w.heap.size w (w2.alloc (.cells #[.slice ro m.length rc, .slice po k pc, .int .i64 (dk M' C k), .int .i64 sgn] 70))) := by rw [← HW3.out]; exact HB3.out
    go_wp2
    go_ret2
    exact ⟨_, by rw [HNB.out.1]; rfl, by rw [HNB.out.2]; exact World.ownsRow_nil _ _ _ _, HBQ.out⟩


set_option maxRecDepth 100000 in
set_option maxHeartbeats 400000 in
theorem normal_nil_own (ao : Option Addr) (cap : Nat) (w : World) :
    Calls Try.prog 50 #[.slice ao 0 cap, .int .i64 1] w fun e w' => ∃ x, e = .returned (.tuple #[x, .bool true]) ∧ w'.ownsRow w.heap.size 3 1 x 1 (ints [1]) ∧ Below w.heap.size w w' := by
  go_enter Try.func50, Try.ntmps50
  go_wp2_with fail
  refine (reduce_nil ao cap w).mono ?_
  rintro e w2 ⟨rfl, hb⟩
  obtain ⟨w3, hw3⟩ : ∃ w3, w3 = w2.alloc (.cells #[.slice none 0 0, .slice none 0 0, .int .i64 1, .int .i64 1] 70) := ⟨_, rfl⟩
  have HB3 : Hid (Below w.heap.size w w3) := by rw [hw3]; exact hb.alloc hb.size _
  have HC3 : Hid (w3.heap[w2.heap.size]? = some (.cells #[.slice none 0 0, .slice none 0 0, .int .i64 1, .int .i64 1] 70 (0, 0))) := by rw [hw3]; exact alloc_at _ _
  have HW3 : Hid (w3 = w2.alloc (.cells #[.slice none 0 0, .slice none 0 0, .int .i64 1, .int .i64 1] 70)) := hw3
  have HS3 : Hid (w2.heap.size < w3.heap.size) := by rw [hw3]; show _ < _; simp
  clear hb hw3
  unfold nil4
  go_wp2_with fail
  rw [← HW3.out]
  refine (free_col w2.heap.size 0 0 none _ _ _ (fun _ => 0) w.heap.size w3 (by omega) (fun b hb => by omega) HC3.out (Sl.nil _ _ _)).mono ?_
  rintro e w4 ⟨f, rfl, hfk, _, _, hw4⟩
  subst hw4
  have hf0 : f = 0 := by omega
  subst hf0
  clear HW3 hfk
  have c1 : w4.cell? ⟨w2.heap.size, 1, none⟩ = some (.slice none 0 0) := by simp [World.cell?, HC3.out]
  have c2 : w4.cell? ⟨w2.heap.size, 2, none⟩ = some (.int .i64 1) := by simp [World.cell?, HC3.out]
  have hs3 := HS3.out
  have hmk : ∀ w : World, (Instr.makeSlice 22 (.int .i64 1) (.int .i64 1)).run Try.prog w = .ok (.slice (some ⟨w.heap.size, 0, none⟩) 1 1) (w.alloc (.cells (madeCells #[.int .i64 0] 1) 3)) := run_make_row' (P := Try.prog) 22 3 (.int .i64 0) 8 Try.underlying22 Try.info3 rfl .i64 .i64 1 (by omega) (by omega)
  have hmc : (madeCells #[.int .i64 0] 1)[0]? = some (.int .i64 0) := by
    rw [← Array.getElem?_toList, toList_madeCells_one]; simp
  have hne : w2.heap.size ≠ w4.heap.size := by omega
  have hne' : w4.heap.size ≠ w2.heap.size := by omega
  have HG0 : Hid ((w4.alloc (.cells ((madeCells #[.int .i64 0] 1).setIfInBounds 0 (.int .i64 1)) 3)).rowIs w4.heap.size 3 1 (fun _ => .int .i64 1) ∧ Below w4.heap.size w4 (w4.alloc (.cells ((madeCells #[.int .i64 0] 1).setIfInBounds 0 (.int .i64 1)) 3))) := by
    have e : (w4.alloc (.cells (madeCells #[.int .i64 0] 1) 3)).setCell ⟨w4.heap.size, 0, none⟩ (.int .i64 1) = w4.alloc (.cells ((madeCells #[.int .i64 0] 1).setIfInBounds 0 (.int .i64 1)) 3) := by simp [go_sem]
    refine ⟨?_, (Below.refl _ _).alloc (Nat.le_refl _) _⟩
    rw [← e]
    exact ((World.rowIs_made w4 (.int .i64 0) 1 3).set 0 (.int .i64 1)).congr fun j hj => by simp [show j = 0 by omega]
  go_wp2
  obtain ⟨w5, hw5⟩ : ∃ w5, w5 = w4.alloc (.cells ((madeCells #[.int .i64 0] 1).setIfInBounds 0 (.int .i64 1)) 3) := ⟨_, rfl⟩
  rw [← hw5] at HG0 ⊢
  clear hw5
  go_loopw [31, 9, 10] (fun i _ _ wr => i = .int .i64 0 ∧ wr = w5) (fun _ _ _ _ => 0)
  case atStart => exact ⟨rfl, rfl⟩
  case round =>
    obtain ⟨rfl, rfl⟩ := hrel
    have HSL : Hid (∀ B, Sl B 3 wr (.slice (some ⟨w4.heap.size, 0, none⟩) 1 1) (ints [1])) := by
      intro B
      exact Sl.row HG0.out.1 (by simp) (by unfold maxLen; omega) fun i hi => by simp [ints, show i = 0 by omega]
    have HLO : Hid (Lin.low [1] = [1] ∧ Lin.upr [1] = [1]) := by
      show _ ∧ _
      decide
    go_wp2_with fail
    refine (primitive_own w.heap.size [1] _ wr (HSL.out _) (by simp) (fun z hz => by simp at hz; subst hz; decide)).mono ?_
    rintro e w6 ⟨u, rfl, hs6, hb6⟩
    rw [HLO.out.1] at hs6
    obtain ⟨uo, uc, hu⟩ := owns_form hs6
    subst hu
    have HS6 : Hid (w6.ownsRow wr.heap.size 3 1 (.slice uo [(1 : Int)].length uc) [(1 : Int)].length (ints [1])) := hs6
    clear hs6
    go_wp2_with fail
    refine (upright_own wr.heap.size [1] _ w6 HS6.out hb6.size (by simp) (fun z hz => by simp at hz; subst hz; decide)).mono ?_
    rintro e w7 ⟨y, rfl, hs7, hb7⟩
    rw [HLO.out.2] at hs7
    obtain ⟨yo, yc, hy⟩ := owns_form hs7
    subst hy
    have HS7 : Hid (w7.ownsRow w.heap.size 3 1 (.slice yo [(1 : Int)].length yc) 1 (ints [1])) := hs7.mono (Nat.le_trans HB3.out.size HG0.out.2.size)
    have HB7 : Hid (Below w.heap.size w w7) := by
      have h3 := HB3.out
      have h4 : Below w.heap.size w4 wr := HG0.out.2.mono h3.size
      have h5 : Below w.heap.size wr w6 := hb6.mono (Nat.le_trans h3.size HG0.out.2.size)
      have h6 : Below w.heap.size w6 w7 := hb7.mono (Nat.le_trans (Nat.le_trans h3.size HG0.out.2.size) hb6.size)
      exact ((h3.trans h4).trans h5).trans h6
    clear hs7 hb6 hb7
    go_wp2
    go_ret2
    exact ⟨_, rfl, HS7.out, HB7.out⟩


end Go.Proofs.Ytgjlnhfjgkljdaa

/- Appending to a row of the call's own: what the old slice reads stays. -/
namespace Go.Proofs.Ytgjlnhfjgkljdaa
open Go.RowKit

theorem run_append_keep {P : Program} (w : World) (base : Nat) (t ty e : TypeId) (i : TypeInfo) (z : Value) (bytes : Nat) (ht : P.underlying t = some (.slice e)) (hi : P.info? e = some i) (hz : i.zero = some z)
    (hsize : i.size = 1) (hby : i.bytes = bytes) (hzs : z.cells.size = 1)
    (v : Value) (n : Nat) (xs : List Value) (hown : w.ownsRow base e 1 v n xs) (hn : 0 < n)
    (a : Addr) (c : Nat) (x : Value) (hnews : ∀ j u, [x][j]? = some u → w.cell? (a.add j) = some u) (h1 : ∀ u ∈ [x], u.oneCell' = true)
    (h63 : n + 1 ≤ maxLen) (hbytes : (n + 1) * bytes ≤ 140737488355328) (hbase : base ≤ w.heap.size) :
    ∃ v' w', (Builtin.append_ #[t, t] ty #[v, .slice (some a) 1 c]).run P w = .ok v' w' ∧ w'.ownsRow base e 1 v' (n + 1) (xs ++ [x]) ∧ w.grownBy w' v.ownBlock ∧ w'.ownsRow base e 1 v n xs := by
  have hl0 : xs.length = n := by simpa using hown.1
  have hsmall : n + 1 ≤ 9223372036854775807 := by unfold maxLen at h63; omega
  rcases hown.2 with ⟨_, h0⟩ | ⟨g, cap, cur, rfl, hbg, hg, hnc, hcm, hcs, htake⟩
  · omega
  · by_cases hroom : n + 1 ≤ cap
    · have hfit : n * i.size + [x].length ≤ cur.size := by rw [hsize]; simp; omega
      have hr := run_append_room (P := P) w t ty e i ht hi g n cap cur hg a 1 c [x] (by rw [hsize]; rfl) hnews h1 hroom hfit
      refine ⟨_, _, hr, ⟨by simp [hl0], .inr ⟨g, cap, _, rfl, hbg, setRow_heap w g cur _ e _ hg, hroom, hcm, ?_, ?_⟩⟩, ⟨rfl, rfl, rfl, by simp, fun k _ hk => setRow_other w g k _ (fun e => hk (by simp [Value.ownBlock, e]))⟩,
        ⟨by simp [hl0], .inr ⟨g, cap, _, rfl, hbg, setRow_heap w g cur _ e _ hg, hnc, hcm, ?_, ?_⟩⟩⟩
      · rw [hsize]; simp only [List.size_toArray, List.length_append, List.length_take, List.length_drop, Array.length_toList]
        simp; omega
      · rw [hsize, htake]
        have e1 : (n + 1) * 1 = (xs ++ [x]).length := by simp [hl0]
        rw [e1]
        exact List.take_left
      · rw [hsize]; simp only [List.size_toArray, List.length_append, List.length_take, List.length_drop, Array.length_toList]
        simp; omega
      · rw [hsize, htake, List.append_assoc]
        have e1 : n * 1 = xs.length := by simp [hl0]
        rw [e1]
        exact List.take_left
    · have holds : ∀ j u, xs[j]? = some u → w.cell? ((⟨g, 0, none⟩ : Addr).add j) = some u := hown.cells (g := g) rfl
      have hr := run_append_grow (P := P) w t ty e i z ht hi hz ⟨g, 0, none⟩ n cap xs (by rw [hsize]; omega) holds a 1 c [x] (by rw [hsize]; rfl) hnews (by omega) (by omega) (growslice_fits (by omega) (by rw [hby]; exact hbytes))
      have hge := grownCap_ge w (n + 1) cap e
      have hcm2 : grownCap w (n + 1) cap e ≤ maxLen := grownCap_le_maxLen w (n + 1) cap e h63
      have hgl : g < w.heap.size := by
        rcases Nat.lt_or_ge g w.heap.size with h | h
        · exact h
        · rw [Array.getElem?_eq_none h] at hg; cases hg
      refine ⟨_, _, hr, ⟨by simp [hl0], .inr ⟨w.heap.size, _, _, rfl, hbase, heap_alloc_new w.drew _, hge, hcm2, ?_, ?_⟩⟩, ⟨rfl, rfl, rfl, by simp, fun k hk _ => heap_alloc_old w.drew _ hk⟩,
        ⟨by simp [hl0], .inr ⟨g, cap, cur, rfl, hbg, (heap_alloc_old w.drew _ hgl).trans hg, hnc, hcm, hcs, htake⟩⟩⟩
      · simp only [Array.size_append, List.size_toArray, size_zeroCells, hzs, hl0]
        simp
        omega
      · simp only [Array.toList_append, List.append_assoc]
        rw [← List.append_assoc]
        have e1 : (n + 1) * 1 = (xs ++ [x]).length := by simp [hl0]
        rw [e1]
        exact List.take_left

theorem wpList_append_keep {P : Program} (w : World) {ops : Array Oper} {rest : List Oper} {o : Oper} {a : Act} {Q : Exit → Act → World → Prop} (hgd : o.guard = none) (s x : Operand) (t : TypeId)
    (ho : o.op = .call { callee := .builtin .append, args := #[s, x], argTypes := #[t, t] })
    (base : Nat) (e : TypeId) (i : TypeInfo) (z : Value) (bytes : Nat) (ht : P.underlying t = some (.slice e)) (hi : P.info? e = some i) (hz : i.zero = some z)
    (hsize : i.size = 1) (hby : i.bytes = bytes) (hzs : z.cells.size = 1)
    (v : Value) (n : Nat) (xs : List Value) (hs : a.eval s = v) (hown : w.ownsRow base e 1 v n xs) (hn : 0 < n)
    (ad : Addr) (c : Nat) (y : Value) (hx : a.eval x = .slice (some ad) 1 c) (hnews : ∀ j u, [y][j]? = some u → w.cell? (ad.add j) = some u) (h1 : ∀ u ∈ [y], u.oneCell' = true)
    (h63 : n + 1 ≤ maxLen) (hbytes : (n + 1) * bytes ≤ 140737488355328) (hbase : base ≤ w.heap.size)
    (h : ∀ v' w', w'.ownsRow base e 1 v' (n + 1) (xs ++ [y]) → w.grownBy w' v.ownBlock → w'.ownsRow base e 1 v n xs → wpList P ops Q rest (a.put o.dst v') w') :
    wpList P ops Q (o :: rest) a w := by
  refine wpList_plain hgd fun K hK => ?_
  obtain ⟨v', w', hr, h2, h3, h4⟩ := run_append_keep (P := P) w base t o.type e i z bytes ht hi hz hsize hby hzs v n xs hown hn ad c y hnews h1 h63 hbytes hbase
  unfold Oper.wp execOp
  simp only [ho, resolve, invoke, builtin, Sem.run_bind, Sem.run_pure, Result.andThen_ok, List.map_toArray, List.map_cons, List.map_nil, hs, hx, hr]
  exact hK _ _ (h v' w' h2 h3 h4)

end Go.Proofs.Ytgjlnhfjgkljdaa
