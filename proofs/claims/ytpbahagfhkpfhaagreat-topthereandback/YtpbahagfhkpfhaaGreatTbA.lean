import Derived.Test.YtpbahagfhkpfhaaGreatEmY
import Derived.Laws.AppendOwnNone
/- facetref.Dot of a row by a point that is shorter, facettop.holds. -/
namespace Go.Proofs.YtpbahagfhkpfhaaGreat
open Go.RowKit
attribute [local go_sem ↓] Go.wp_at_zero Go.wp_at_succ

/-- Do the first rows hold at a point? -/
def hoB (rows : List (List Int)) (x : List Int) : Bool := rows.all fun r => decide (dotL x r ≤ r.getD x.length 0)

theorem hoB_iff {rows : List (List Int)} {x : List Int} : hoB rows x = true ↔ ∀ r ∈ rows, dotL x r ≤ r.getD x.length 0 := by simp [hoB]

theorem hoB_take {rows : List (List Int)} {x : List Int} {k : Nat} (hk : k < rows.length) : hoB (rows.take (k + 1)) x = (hoB (rows.take k) x && decide (dotL x (rows.getD k []) ≤ (rows.getD k []).getD x.length 0)) := by
  unfold hoB
  rw [List.take_succ_eq_append_getElem hk, List.all_append]
  simp [hk]

theorem hoB_no {rows : List (List Int)} {x : List Int} {k : Nat} (hk : k < rows.length) (h : ¬ dotL x (rows.getD k []) ≤ (rows.getD k []).getD x.length 0) : hoB rows x = false := by
  unfold hoB
  rw [List.all_eq_false]
  exact ⟨rows.getD k [], by simp [hk], by simpa using h⟩

end Go.Proofs.YtpbahagfhkpfhaaGreat

/- facettop.holds, of rows of any polytope. -/
namespace Go.Proofs.YtpbahagfhkpfhaaGreat
open Go.RowKit
attribute [local go_sem ↓] Go.wp_at_zero Go.wp_at_succ

theorem sum_swt {a x : List Int} (ha : ∀ i, i < x.length → (a.getD i 0).natAbs ≤ 1000000000000) (hx : ∀ z ∈ x, z.natAbs ≤ 1000) (_hl : x.length ≤ a.length) : ∀ k, k ≤ x.length → (Lin.sumN k fun i => a.getD i 0 * x.getD i 0).natAbs ≤ k * 1000000000000000 := by
  intro k
  induction k with
  | zero => intro _; simp [Lin.sumN]
  | succ k ih =>
    intro hk
    have h1 := ih (by omega)
    have h3 : (a.getD k 0 * x.getD k 0).natAbs ≤ 1000000000000000 := (by rw [Int.mul_comm]; exact mul_bwe (hx _ (by simp [show k < x.length by omega])) (ha k (by omega)))
    have e : (Lin.sumN (k + 1) fun i => a.getD i 0 * x.getD i 0) = (Lin.sumN k fun i => a.getD i 0 * x.getD i 0) + a.getD k 0 * x.getD k 0 := rfl
    rw [e]
    omega

set_option maxRecDepth 100000 in
set_option maxHeartbeats 400000 in
theorem dotT_any (B : Nat) (a x : List Int) (u v : Value) (w : World) (hu : Sl B 3 w u (ints a)) (hv : Sl B 3 w v (ints x)) (ha : ∀ i, i < x.length → (a.getD i 0).natAbs ≤ 1000000000000) (hx : ∀ z ∈ x, z.natAbs ≤ 1000) (hl : x.length < a.length) (hl8 : x.length ≤ 8) :
    Calls Tryz.prog 18 #[u, v] w fun e w' => e = .returned (.int .i64 (dotL x a)) ∧ ∃ n, w' = w.drewN n := by
  obtain ⟨ao, cap, hvv, hlc, hcm⟩ := sl_open hu
  obtain ⟨bo, cbp, huu, hlb, hcb⟩ := sl_open hv
  subst hvv huu
  have HU : Hid (Sl B 3 w (.slice ao a.length cap) (ints a)) := hu
  have HV : Hid (Sl B 3 w (.slice bo x.length cbp) (ints x)) := hv
  have HA : Hid (∀ i, i < x.length → (a.getD i 0).natAbs ≤ 1000000000000) := ha
  have HX : Hid (∀ z ∈ x, z.natAbs ≤ 1000) := hx
  have HEND : Hid ((Lin.sumN x.length fun i => a.getD i 0 * x.getD i 0) = dotL x a) := by
    show _ = _
    unfold dotL
    exact Lin.sumN_congr fun i _ => Int.mul_comm _ _
  clear hu hv ha hx
  go_enter Tryz.func18, Tryz.ntmps18
  go_wp2
  go_loopw [5, 6] (fun s i wr => ∃ k : Nat, k ≤ x.length ∧ i = .int .i64 k ∧ s = .int .i64 (Lin.sumN k fun i => a.getD i 0 * x.getD i 0) ∧ ∃ n, wr = w.drewN n) (fun _ i _ => x.length - (intOf i).toNat)
  case atStart => exact ⟨0, Nat.zero_le _, rfl, rfl, 0, rfl⟩
  case round =>
    obtain ⟨k, hk, rfl, rfl, n, rfl⟩ := hrel
    by_cases hlt : k < x.length
    · have hlt2 : k < a.length := by omega
      obtain ⟨b, o, cp, hs, hc1, hcc⟩ := sl_cell HU.out hlt2
      simp only [Value.slice.injEq] at hs
      obtain ⟨rfl, _, rfl⟩ := hs
      obtain ⟨b2, o2, cp2, hs2, hc2, hcc2⟩ := sl_cell HV.out hlt
      simp only [Value.slice.injEq] at hs2
      obtain ⟨rfl, _, rfl⟩ := hs2
      have h1 := sum_swt HA.out HX.out (by omega) k hk
      have h2 := sum_swt HA.out HX.out (by omega) (k + 1) (by omega)
      have h3 : (a.getD k 0 * x.getD k 0).natAbs ≤ 1000000000000000 := (by rw [Int.mul_comm]; exact mul_bwe (HX.out _ (by simp [hlt])) (HA.out k hlt))
      have HSU : Hid ((Lin.sumN (k + 1) fun i => a.getD i 0 * x.getD i 0) = (Lin.sumN k fun i => a.getD i 0 * x.getD i 0) + a.getD k 0 * x.getD k 0) := rfl
      rw [HSU.out] at h2
      clear HEND
      generalize (Lin.sumN k fun i => a.getD i 0 * x.getD i 0) = S at *
      generalize a.getD k 0 = p at *
      generalize x.getD k 0 = q at *
      have e2 : wrap64 (S + wrap64 (p * q)) = S + p * q := by
        rw [IntWalk.wrap64_in (p * q) ⟨by omega, by omega⟩, IntWalk.wrap64_in _ ⟨by omega, by omega⟩]
      have hkI : (k : Int) < (a.length : Int) := by omega
      have hkI2 : (k : Int) < (x.length : Int) := by omega
      have hkI0 : (0 : Int) ≤ (k : Int) := by omega
      clear h1 h2 h3
      go_wp2
      go_quiet (fail)
      go_wp2
      go_roundw
      case rel => exact ⟨k + 1, by omega, by go_num, by rw [HSU.out, e2], _, rfl⟩
      case measure => simp [intOf]; omega
    · have hke : k = x.length := by omega
      subst hke
      have hkI : (x.length : Int) < (a.length : Int) := by omega
      rw [HEND.out]
      clear HEND
      go_wp2
      go_ret
      exact ⟨rfl, n, rfl⟩

set_option maxRecDepth 100000 in
set_option maxHeartbeats 1600000 in
theorem holdsT_any (B : Nat) (rows : List (List Int)) (x : List Int) (v u : Value) (w : World) (hv : Mat 0 22 3 w v rows) (hu : Sl B 3 w u (ints x)) (hc : ∀ r ∈ rows, r.length = x.length + 1 ∧ ∀ i, i < x.length → (r.getD i 0).natAbs ≤ 1000000000000) (hd3 : x.length ≤ 4) (hx : ∀ z ∈ x, z.natAbs ≤ 1000) :
    Calls Tryz.prog 9 #[v, u] w fun e w' => e = .returned (.bool (hoB rows x)) ∧ Below w.heap.size w w' := by
  obtain ⟨ro, rc, hvv, hlc, hcm⟩ := mat_open hv
  obtain ⟨xo, xc, huu, hlb, hcb⟩ := sl_open hu
  subst hvv huu
  have HV : Hid (Mat 0 22 3 w (.slice ro rows.length rc) rows) := hv
  have HU : Hid (Sl B 3 w (.slice xo x.length xc) (ints x)) := hu
  have HC : Hid (∀ r ∈ rows, r.length = x.length + 1 ∧ ∀ i, i < x.length → (r.getD i 0).natAbs ≤ 1000000000000) := hc
  have HX : Hid (∀ z ∈ x, z.natAbs ≤ 1000) := hx
  clear hv hu hc hx
  go_enter Tryz.func9, Tryz.ntmps9
  go_wp2
  go_loopw [5] (fun i wr => ∃ k : Nat, k ≤ rows.length ∧ i = .int .i64 k ∧ hoB (rows.take k) x = true ∧ Below w.heap.size w wr) (fun i _ => rows.length - (intOf i).toNat)
  case atStart => exact ⟨0, Nat.zero_le _, rfl, by simp [hoB], Below.refl _ _⟩
  case round =>
    obtain ⟨k, hk, rfl, hho, hbb⟩ := hrel
    obtain ⟨wb, rfl⟩ : ∃ wb, wb = wr := ⟨_, rfl⟩
    have HHO : Hid (hoB (rows.take k) x = true) := hho
    have HBB : Hid (Below w.heap.size w wb) := hbb
    clear hbb hho
    by_cases hlt : k < rows.length
    · obtain ⟨r, hr⟩ : ∃ r, r = rows.getD k [] := ⟨_, rfl⟩
      have hrm : r ∈ rows := by rw [hr, List.getD_eq_getElem?_getD, List.getElem?_eq_getElem hlt]; exact List.getElem_mem _
      obtain ⟨hrl, hrb⟩ := HC.out r hrm
      obtain ⟨b', o', c', rv, hs', _, hrcell, hrv⟩ := mat_cell (HV.out.below HBB.out (Nat.le_refl _)) hlt
      simp only [Value.slice.injEq] at hs'
      obtain ⟨rfl, -, rfl⟩ := hs'
      rw [← hr] at hrv
      obtain ⟨rb, ro2, rc2, hrs, hrc, hrd⟩ := sl_cell hrv (k := x.length) (by rw [hrl]; omega)
      have HDT : Hid (∀ n, Calls Tryz.prog 18 #[.slice (some ⟨rb, ro2, none⟩) (x.length + 1) rc2, .slice xo x.length xc] (wb.drewN n) fun e w' => e = .returned (.int .i64 (dotL x r)) ∧ ∃ k, w' = (wb.drewN n).drewN k) := fun n => by
        rw [hrs, hrl] at hrv
        exact dotT_any B r x _ _ _ ((hrv.more (Nat.zero_le _)).drewN n) ((HU.out.below HBB.out (Nat.le_refl _)).drewN n) hrb HX.out (by rw [hrl]; omega) (by omega)
      rw [hrl] at hrs hrc
      subst hrs
      have HTK : Hid (dotL x r ≤ r.getD x.length 0 → hoB (rows.take (k + 1)) x = true) := fun h => by
        rw [hoB_take hlt, HHO.out, ← hr]; simpa using h
      have HNO : Hid (¬ dotL x r ≤ r.getD x.length 0 → hoB rows x = false) := fun h => hoB_no hlt (by rw [← hr]; exact h)
      clear hr hrm hrl hrb hrv
      generalize r.getD x.length 0 = q at *
      generalize dotL x r = T at *
      generalize x.length = D at *
      have hkI : (k : Int) < (rows.length : Int) := by omega
      have hkI0 : (0 : Int) ≤ (k : Int) := by omega
      have hDI : (D : Int) < (D : Int) + 1 := by omega
      have hD0 : (0 : Int) ≤ (D : Int) := by omega
      have hne : (((D : Int) + 1) != ((D : Int) + 1)) = false := by simp
      by_cases hle : T ≤ q
      · have hTq : decide (q < T) = false := decide_eq_false (by omega)
        have HTK2 : Hid (hoB (rows.take (k + 1)) x = true) := HTK.out hle
        clear HTK HNO hle
        go_wp2_with fail
        go_big_quiet ((go_at_call 18; exact Calls.quiet_of (w := wb) (HDT.out _)))
        go_wp2
        go_roundw
        case rel => exact ⟨k + 1, by omega, by go_num, HTK2.out, (by first | exact HBB.out.trans (Qe.below ⟨_, rfl⟩) | exact HBB.out.drew | exact (HBB.out.trans (Qe.below ⟨_, rfl⟩)).drew)⟩
        case measure => simp [intOf]; omega
      · have hTq : decide (q < T) = true := decide_eq_true (by omega)
        have HNO2 : Hid (hoB rows x = false) := HNO.out hle
        clear HTK HNO hle
        go_wp2_with fail
        go_big_quiet ((go_at_call 18; exact Calls.quiet_of (w := wb) (HDT.out _)))
        go_wp2
        go_ret
        exact ⟨by rw [HNO2.out]; rfl, (by first | exact HBB.out.trans (Qe.below ⟨_, rfl⟩) | exact HBB.out.drew | exact (HBB.out.trans (Qe.below ⟨_, rfl⟩)).drew)⟩
    · have hke : k = rows.length := by omega
      subst hke
      have HE : Hid (hoB rows x = true) := by
        have := HHO.out
        rw [List.take_length] at this
        exact this
      go_wp2
      go_ret
      exact ⟨by rw [HE.out]; rfl, HBB.out⟩
theorem anyU_snoc {α : Type} {p : α → Bool} {l : List α} {d : α} {k : Nat} (h : k < l.length) (h0 : (l.take k).any p = false) : (l.take (k + 1)).any p = p (l.getD k d) := by
  rw [List.take_succ_eq_append_getElem h, List.any_append, h0]; simp [h]

theorem anyU_get {α : Type} {p : α → Bool} {l : List α} {d : α} {k : Nat} (h : k < l.length) (h0 : p (l.getD k d) = true) : l.any p = true :=
  List.any_eq_true.2 ⟨l.getD k d, by simp [h], h0⟩

set_option maxRecDepth 100000 in
set_option maxHeartbeats 800000 in
theorem holdsU_any (B : Nat) (x : List Int) (m : List (List Int)) (u v : Value) (w : World) (hu : Sl B 3 w u (ints x)) (hv : Mat B 22 3 w v m) :
    Calls Tryz.prog 12 #[v, u] w fun e w' => e = .returned (.bool (m.any (· == x))) ∧ ∃ n, w' = w.drewN n := by
  obtain ⟨ao, cap, hvv, hlc, hcm⟩ := mat_open hv
  subst hvv
  have HU : Hid (Sl B 3 w u (ints x)) := hu
  have HV : Hid (Mat B 22 3 w (.slice ao m.length cap) m) := hv
  clear hu hv
  go_enter Tryz.func12, Tryz.ntmps12
  go_wp2
  go_loopw [5] (fun i wr => ∃ k : Nat, k ≤ m.length ∧ i = .int .i64 k ∧ (m.take k).any (fun z => z == x) = false ∧ ∃ n, wr = w.drewN n) (fun i _ => m.length - (intOf i).toNat)
  case atStart => exact ⟨0, Nat.zero_le _, rfl, by simp, 0, rfl⟩
  case round =>
    obtain ⟨k, hk, rfl, hno, n, rfl⟩ := hrel
    have HN : Hid ((m.take k).any (fun z => z == x) = false) := hno
    clear hno
    by_cases hlt : k < m.length
    · obtain ⟨b, o, cp, r1, hs, hc1, hcc, hr1⟩ := mat_cell (HV.out.drewN n) hlt
      simp only [Value.slice.injEq] at hs
      obtain ⟨rfl, _, rfl⟩ := hs
      have HR1 : Hid (Sl B 3 (w.drewN n) r1 (ints (m.getD k []))) := hr1
      have HS1 : Hid ((m.take (k + 1)).any (fun z => z == x) = (m.getD k [] == x)) := anyU_snoc (p := fun z => z == x) hlt HN.out
      have HG : Hid ((m.getD k [] == x) = true → m.any (fun z => z == x) = true) := fun h => anyU_get (p := fun z => z == x) hlt h
      clear hr1
      generalize m.getD k [] = z at *
      go_wp2_with fail
      refine (same_any B z x r1 u (w.drewN n) HR1.out (HU.out.drewN n)).mono ?_
      rintro e w' ⟨rfl, n2, rfl⟩
      cases hf : (z == x)
      · have HF : Hid ((z == x) = false) := hf
        clear hf
        go_wp2
        go_roundw
        case rel => exact ⟨k + 1, by omega, by go_num, by rw [HS1.out]; exact HF.out, _, rfl⟩
        case measure => simp [intOf]; omega
      · have HF : Hid ((z == x) = true) := hf
        clear hf
        go_wp2
        go_ret
        exact ⟨ret_bool (HG.out HF.out).symm, _, rfl⟩
    · have hke : m.take k = m := List.take_of_length_le (by omega)
      have HE : Hid (m.any (fun z => z == x) = false) := by rw [← hke]; exact HN.out
      go_wp2
      go_ret
      exact ⟨ret_bool HE.out.symm, n, rfl⟩

end Go.Proofs.YtpbahagfhkpfhaaGreat
