import Derived.Test.YtilblfoapjnmaaaGreatDoorMgAA
import Derived.Test.YtilblfoapjnmaaaGreatDoorMgAB
import Derived.Deep.RegionHeld3
import Derived.Deep.RegionLaw
import Derived.Deep.DrawnRows
import Derived.Test.YtilblfoapjnmaaaGreatDoorMgAC
import Derived.Deep.QuietTactic
import Derived.BigQuiet
/- Least choices of a square, pure: orders, what a cycle of rows costs, prices by going down from column to column. -/
namespace Go.Proofs.YtilblfoapjnmaaaGreatDoor

/-- The number in row i and column j. -/
def ent (M : List (List Int)) (i j : Nat) : Int := (M.getD i []).getD j 0

/-- All orders of n numbers that open with what is there, k more to come. -/
def ords (n : Nat) : Nat → List Int → List (List Int)
  | 0, h => [h]
  | k + 1, h => (List.range n).flatMap fun (v : Nat) => if h.contains (v : Int) then [] else ords n k (h ++ [(v : Int)])

/-- Numbers below n, no two alike. -/
def IsOrd (n : Nat) (o : List Int) : Prop := (∀ z ∈ o, 0 ≤ z ∧ z < (n : Int)) ∧ o.Nodup

theorem ords_is {n : Nat} : ∀ (k : Nat) (h o : List Int), IsOrd n h → o ∈ ords n k h → IsOrd n o ∧ o.length = h.length + k
  | 0, h, o, hh, ho => by
    simp only [ords, List.mem_singleton] at ho
    subst ho
    exact ⟨hh, rfl⟩
  | k + 1, h, o, hh, ho => by
    simp only [ords, List.mem_flatMap, List.mem_range] at ho
    obtain ⟨v, hv, ho⟩ := ho
    split at ho
    · simp at ho
    · rename_i hc
      have hn : (v : Int) ∉ h := by simpa using hc
      have h' : IsOrd n (h ++ [(v : Int)]) := by
        refine ⟨fun z hz => ?_, ?_⟩
        · rcases List.mem_append.1 hz with hz | hz
          · exact hh.1 z hz
          · simp only [List.mem_singleton] at hz
            omega
        · rw [List.nodup_append]
          refine ⟨hh.2, by simp, fun a ha b hb e => ?_⟩
          simp only [List.mem_singleton] at hb
          subst hb
          subst e
          exact hn ha
      obtain ⟨h1, h2⟩ := ords_is k _ o h' ho
      refine ⟨h1, ?_⟩
      rw [h2]
      simp
      omega

section
variable (M : List (List Int)) (σ : Nat → Nat)

end

def la : Nat → List Nat → Nat
  | r, [] => r
  | _, s :: t => la s t

end Go.Proofs.YtilblfoapjnmaaaGreatDoor

/- Squares that may be, by the program and by the document; what a list holds, and its sum. -/
namespace Go.Proofs.YtilblfoapjnmaaaGreatDoor
open Go.RowKit
attribute [local go_sem ↓] Go.wp_at_zero Go.wp_at_succ

theorem anyT_contains (zs : List Int) (x : Int) : zs.any (fun z => z == x) = zs.contains x := by
  rw [Bool.eq_iff_iff]; simp

theorem anyT_snoc {α : Type} {p : α → Bool} {l : List α} {d : α} {k : Nat} (h : k < l.length) (h0 : (l.take k).any p = false) : (l.take (k + 1)).any p = p (l.getD k d) := by
  rw [List.take_succ_eq_append_getElem h, List.any_append, h0]; simp [h]

theorem anyT_get {α : Type} {p : α → Bool} {l : List α} {d : α} {k : Nat} (h : k < l.length) (h0 : p (l.getD k d) = true) : l.any p = true :=
  List.any_eq_true.2 ⟨l.getD k d, by simp [h], h0⟩

set_option maxRecDepth 100000 in
set_option maxHeartbeats 400000 in
theorem inT_any (B : Nat) (x : Int) (zs : List Int) (v : Value) (w : World) (hv : Sl B 3 w v (ints zs)) :
    Calls Tryz.prog 25 #[.int .i64 x, v] w fun e w' => e = .returned (.bool (zs.contains x)) ∧ w' = w := by
  obtain ⟨ao, cap, hvv, hlc, hcm⟩ := sl_open hv
  subst hvv
  have HV : Hid (Sl B 3 w (.slice ao zs.length cap) (ints zs)) := hv
  clear hv
  rw [← anyT_contains]
  go_enter Tryz.func25, Tryz.ntmps25
  go_wp2
  go_loopw [5] (fun i wr => ∃ k : Nat, k ≤ zs.length ∧ i = .int .i64 k ∧ (zs.take k).any (fun z => z == x) = false ∧ wr = w) (fun i _ => zs.length - (intOf i).toNat)
  case atStart => exact ⟨0, Nat.zero_le _, rfl, by simp, rfl⟩
  case round =>
    obtain ⟨k, hk, rfl, hno, rfl⟩ := hrel
    have HN : Hid ((zs.take k).any (fun z => z == x) = false) := hno
    clear hno
    by_cases hlt : k < zs.length
    · obtain ⟨b, o, cp, hs, hc1, hcc⟩ := sl_cell HV.out hlt
      simp only [Value.slice.injEq] at hs
      obtain ⟨rfl, _, rfl⟩ := hs
      have HS1 : Hid ((zs.take (k + 1)).any (fun z => z == x) = (zs.getD k 0 == x)) := anyT_snoc (p := fun z => z == x) hlt HN.out
      have HG : Hid ((zs.getD k 0 == x) = true → zs.any (fun z => z == x) = true) := fun h => anyT_get (p := fun z => z == x) hlt h
      generalize zs.getD k 0 = z at *
      cases hf : (z == x)
      · have HF : Hid ((z == x) = false) := hf
        go_wp2
        go_roundw
        case rel => exact ⟨k + 1, by omega, by go_num, by rw [HS1.out]; exact HF.out, trivial⟩
        case measure => simp [intOf]; omega
      · have HF : Hid ((z == x) = true) := hf
        go_wp2
        go_ret
        exact ⟨ret_bool (HG.out HF.out).symm, rfl⟩
    · have hke : zs.take k = zs := List.take_of_length_le (by omega)
      have HE : Hid (zs.any (fun z => z == x) = false) := by rw [← hke]; exact HN.out
      go_wp2
      go_ret
      exact ⟨ret_bool HE.out.symm, rfl⟩


theorem sumL_snoc (l : List Int) (k : Nat) (h : k < l.length) : (l.take (k + 1)).sum = (l.take k).sum + l.getD k 0 := by
  have e : l.getD k 0 = l[k] := by simp [h]
  rw [List.take_succ_eq_append_getElem h, List.sum_append, e]; simp

theorem sumL_bd {l : List Int} {b : Nat} : ∀ k, k ≤ l.length → (∀ z ∈ l, z.natAbs ≤ b) → (l.take k).sum.natAbs ≤ b * k
  | 0, _, _ => by simp
  | k + 1, hk, hb => by
    have h1 := sumL_bd (l := l) k (by omega) hb
    rw [sumL_snoc l k (by omega)]
    have h2 : (l.getD k 0).natAbs ≤ b := by
      have e : l.getD k 0 = l[k] := by simp [show k < l.length by omega]
      rw [e]; exact hb _ (List.getElem_mem _)
    rw [Nat.mul_add, Nat.mul_one]
    omega

set_option maxRecDepth 100000 in
set_option maxHeartbeats 400000 in
theorem sumT_any (B : Nat) (zs : List Int) (v : Value) (w : World) (hv : Sl B 3 w v (ints zs)) (hl : zs.length ≤ 1000) (hb : ∀ z ∈ zs, z.natAbs ≤ 1000000000) :
    Calls Tryz.prog 22 #[v] w fun e w' => e = .returned (.int .i64 zs.sum) ∧ ∃ n, w' = w.drewN n := by
  obtain ⟨ao, cap, hvv, hlc, hcm⟩ := sl_open hv
  subst hvv
  have HV : Hid (Sl B 3 w (.slice ao zs.length cap) (ints zs)) := hv
  have HB : Hid (∀ k, k ≤ zs.length → -1000000000000 ≤ (zs.take k).sum ∧ (zs.take k).sum ≤ 1000000000000) := fun k hk => by
    have := sumL_bd k hk hb
    have : 1000000000 * k ≤ 1000000000 * 1000 := Nat.mul_le_mul_left _ (by omega)
    omega
  clear hv hb
  go_enter Tryz.func22, Tryz.ntmps22
  go_wp2
  go_loopw [3, 4] (fun s i wr => ∃ k : Nat, k ≤ zs.length ∧ i = .int .i64 k ∧ s = .int .i64 (zs.take k).sum ∧ ∃ n, wr = w.drewN n) (fun _ i _ => zs.length - (intOf i).toNat)
  case atStart => exact ⟨0, Nat.zero_le _, rfl, by simp, 0, rfl⟩
  case round =>
    obtain ⟨k, hk, rfl, rfl, n, rfl⟩ := hrel
    by_cases hlt : k < zs.length
    · obtain ⟨b, o, cp, hs, hc1, hcc⟩ := sl_cell HV.out hlt
      simp only [Value.slice.injEq] at hs
      obtain ⟨rfl, _, rfl⟩ := hs
      have HS : Hid ((zs.take (k + 1)).sum = (zs.take k).sum + zs.getD k 0) := sumL_snoc zs k hlt
      have b1 := HB.out k hk
      have b2 := HB.out (k + 1) hlt
      rw [HS.out] at b2
      generalize zs.getD k 0 = z at *
      generalize (zs.take k).sum = S at *
      go_wp2
      go_roundw
      case rel => exact ⟨k + 1, by omega, by go_num, by rw [HS.out], _, rfl⟩
      case measure => simp [intOf]; omega
    · have hke : zs.take k = zs := List.take_of_length_le (by omega)
      rw [hke]
      go_wp2
      go_ret
      exact ⟨rfl, n, rfl⟩

set_option maxRecDepth 100000 in
set_option maxHeartbeats 400000 in
theorem indexT_any (B : Nat) (x : Int) (zs : List Int) (v : Value) (w : World) (hv : Sl B 3 w v (ints zs)) :
    Calls Tryz.prog 85 #[v, .int .i64 x] w fun e w' => ∃ k : Int, e = .returned (.int .i64 k) ∧ decide (0 ≤ k) = zs.contains x ∧ w' = w := by
  obtain ⟨ao, cap, hvv, hlc, hcm⟩ := sl_open hv
  subst hvv
  have HV : Hid (Sl B 3 w (.slice ao zs.length cap) (ints zs)) := hv
  clear hv
  rw [← anyT_contains]
  go_enter Tryz.func85, Tryz.ntmps85
  go_wp2
  go_loopw [8, 5] (fun i _ wr => ∃ k : Nat, k ≤ zs.length ∧ i = .int .i64 k ∧ (zs.take k).any (fun z => z == x) = false ∧ wr = w) (fun i _ _ => zs.length - (intOf i).toNat)
  case atStart => exact ⟨0, Nat.zero_le _, rfl, by simp, rfl⟩
  case round =>
    obtain ⟨k, hk, rfl, hno, rfl⟩ := hrel
    have HN : Hid ((zs.take k).any (fun z => z == x) = false) := hno
    clear hno
    by_cases hlt : k < zs.length
    · obtain ⟨b, o, cp, hs, hc1, hcc⟩ := sl_cell HV.out hlt
      simp only [Value.slice.injEq] at hs
      obtain ⟨rfl, _, rfl⟩ := hs
      have HS1 : Hid ((zs.take (k + 1)).any (fun z => z == x) = (zs.getD k 0 == x)) := anyT_snoc (p := fun z => z == x) hlt HN.out
      have HG : Hid ((zs.getD k 0 == x) = true → zs.any (fun z => z == x) = true) := fun h => anyT_get (p := fun z => z == x) hlt h
      generalize zs.getD k 0 = z at *
      cases hf : (x == z)
      · have HF : Hid ((z == x) = false) := by rw [beq_eq_false_iff_ne] at hf ⊢; exact fun e => hf e.symm
        go_wp2
        go_roundw
        case rel => exact ⟨k + 1, by omega, by go_num, by rw [HS1.out]; exact HF.out, trivial⟩
        case measure => simp [intOf]; omega
      · have HF : Hid ((z == x) = true) := by rw [beq_iff_eq] at hf ⊢; exact hf.symm
        have HK : Hid (decide ((0 : Int) ≤ (k : Int)) = true) := decide_eq_true (by omega)
        go_wp2
        go_ret
        exact ⟨k, rfl, by rw [HK.out, HG.out HF.out], rfl⟩
    · have hke : zs.take k = zs := List.take_of_length_le (by omega)
      have HE : Hid (zs.any (fun z => z == x) = false) := by rw [← hke]; exact HN.out
      go_wp2
      go_ret
      exact ⟨-1, rfl, by rw [HE.out]; rfl, rfl⟩

set_option maxRecDepth 100000 in
theorem containsT_any (B : Nat) (x : Int) (zs : List Int) (v : Value) (w : World) (hv : Sl B 3 w v (ints zs)) :
    Calls Tryz.prog 56 #[v, .int .i64 x] w fun e w' => e = .returned (.bool (zs.contains x)) ∧ w' = w := by
  obtain ⟨ao, cap, hvv, hlc, hcm⟩ := sl_open hv
  subst hvv
  have HI : Hid (Calls Tryz.prog 85 #[.slice ao zs.length cap, .int .i64 x] w fun e w' => ∃ k : Int, e = .returned (.int .i64 k) ∧ decide (0 ≤ k) = zs.contains x ∧ w' = w) := indexT_any B x zs _ w hv
  clear hv
  generalize zs.contains x = c at *
  go_enter Tryz.func56, Tryz.ntmps56
  go_wp2_with fail
  refine HI.out.mono ?_
  rintro e w' ⟨k, rfl, hk, rfl⟩
  have HK : Hid (decide (0 ≤ k) = c) := hk
  clear hk
  go_wp2
  go_ret
  exact ⟨ret_bool HK.out, rfl⟩

end Go.Proofs.YtilblfoapjnmaaaGreatDoor

/- The document's Holds. -/
namespace Go.Proofs.YtilblfoapjnmaaaGreatDoor
open Go.RowKit
attribute [local go_sem ↓] Go.wp_at_zero Go.wp_at_succ

set_option maxRecDepth 100000 in
set_option maxHeartbeats 800000 in
theorem holdsD_any (B : Nat) (x : List Int) (m : List (List Int)) (u v : Value) (w : World) (hu : Sl B 3 w u (ints x)) (hv : Mat B 26 3 w v m) :
    Calls Tryz.prog 20 #[v, u] w fun e w' => e = .returned (.bool (m.any (· == x))) ∧ ∃ n, w' = w.drewN n := by
  obtain ⟨ao, cap, hvv, hlc, hcm⟩ := mat_open hv
  subst hvv
  have HU : Hid (Sl B 3 w u (ints x)) := hu
  have HV : Hid (Mat B 26 3 w (.slice ao m.length cap) m) := hv
  clear hu hv
  go_enter Tryz.func20, Tryz.ntmps20
  go_wp2
  go_loopw [5] (fun i wr => ∃ k : Nat, k ≤ m.length ∧ i = .int .i64 k ∧ (m.take k).any (fun z => z == x) = false ∧ ∃ n, wr = w.drewN n) (fun i _ => m.length - (intOf i).toNat)
  case atStart => exact ⟨0, Nat.zero_le _, rfl, by simp, 0, rfl⟩
  case round =>
    obtain ⟨k, hk, rfl, hno, n, rfl⟩ := hrel
    have HN : Hid ((m.take k).any (fun z => z == x) = false) := hno
    clear hno
    by_cases hlt : k < m.length
    · obtain ⟨b, o, cp, r1, hs, hc1, hcc, hr1⟩ := mat_cell (HV.out.drewN n) hlt
      simp only [Value.slice.injEq] at hs
      obtain ⟨rfl, _, rfl⟩ := hs
      have HR1 : Hid (Sl B 3 (w.drewN n) r1 (ints (m.getD k []))) := hr1
      have HS1 : Hid ((m.take (k + 1)).any (fun z => z == x) = (m.getD k [] == x)) := anyT_snoc (p := fun z => z == x) hlt HN.out
      have HG : Hid ((m.getD k [] == x) = true → m.any (fun z => z == x) = true) := fun h => anyT_get (p := fun z => z == x) hlt h
      clear hr1
      generalize m.getD k [] = z at *
      go_wp2_with fail
      refine (same_any B z x r1 u (w.drewN n) HR1.out (HU.out.drewN n)).mono ?_
      rintro e w' ⟨rfl, n2, rfl⟩
      cases hf : (z == x)
      · have HF : Hid ((z == x) = false) := hf
        clear hf
        go_wp2
        go_roundw
        case rel => exact ⟨k + 1, by omega, by go_num, by rw [HS1.out]; exact HF.out, _, rfl⟩
        case measure => simp [intOf]; omega
      · have HF : Hid ((z == x) = true) := hf
        clear hf
        go_wp2
        go_ret
        exact ⟨ret_bool (HG.out HF.out).symm, _, rfl⟩
    · have hke : m.take k = m := List.take_of_length_le (by omega)
      have HE : Hid (m.any (fun z => z == x) = false) := by rw [← hke]; exact HN.out
      go_wp2
      go_ret
      exact ⟨ret_bool HE.out.symm, n, rfl⟩

end Go.Proofs.YtilblfoapjnmaaaGreatDoor

/- The document's answer: is a list ahead of another one? -/
namespace Go.Proofs.YtilblfoapjnmaaaGreatDoor
open Go.RowKit

set_option maxRecDepth 100000 in
set_option maxHeartbeats 800000 in
theorem below_any (B : Nat) (x y : List Int) (u v : Value) (w : World) (hu : Sl B 3 w u (ints x)) (hv : Sl B 3 w v (ints y)) :
    Calls Tryz.prog 44 #[u, v] w fun e w' => e = .returned (.bool (decide (cmpL x y < 0))) ∧ ∃ n, w' = w.drewN n := by
  obtain ⟨ao, cap, hvv, hlc, hcm⟩ := sl_open hu
  obtain ⟨bo, cbp, huu, hlb, hcb⟩ := sl_open hv
  subst hvv huu
  have HU : Hid (Sl B 3 w (.slice ao x.length cap) (ints x)) := hu
  have HV : Hid (Sl B 3 w (.slice bo y.length cbp) (ints y)) := hv
  clear hu hv
  go_enter Tryz.func44, Tryz.ntmps44
  go_wp2
  go_loopw [5] (fun i wr => ∃ k : Nat, k ≤ x.length ∧ k ≤ y.length ∧ i = .int .i64 k ∧ cmpL x y = cmpL (x.drop k) (y.drop k) ∧ ∃ n, wr = w.drewN n) (fun i _ => x.length - (intOf i).toNat)
  case atStart => exact ⟨0, Nat.zero_le _, Nat.zero_le _, rfl, rfl, 0, rfl⟩
  case round =>
    obtain ⟨k, hk, hk2, rfl, hcm2, n, rfl⟩ := hrel
    have HC : Hid (cmpL x y = cmpL (x.drop k) (y.drop k)) := hcm2
    clear hcm2
    by_cases hlt : k < x.length
    · have hltI : (k : Int) < (x.length : Int) := by omega
      obtain ⟨b, o, cp, hs, hc1, hcc⟩ := sl_cell HU.out hlt
      simp only [Value.slice.injEq] at hs
      obtain ⟨rfl, _, rfl⟩ := hs
      by_cases hlt2 : k < y.length
      · have hltJ : (k : Int) < (y.length : Int) := by omega
        obtain ⟨b2, o2, cp2, hs2, hc2, hcc2⟩ := sl_cell HV.out hlt2
        simp only [Value.slice.injEq] at hs2
        obtain ⟨rfl, _, rfl⟩ := hs2
        have HA : Hid (cmpL (x.drop k) (y.drop k) = if cmpI (x.getD k 0) (y.getD k 0) = 0 then cmpL (x.drop (k + 1)) (y.drop (k + 1)) else cmpI (x.getD k 0) (y.getD k 0)) := cmpL_at hlt hlt2
        have hk0 : (0 : Int) ≤ (k : Int) := by omega
        generalize x.getD k 0 = a at *
        generalize y.getD k 0 = c at *
        by_cases hac : a = c
        · have HR : Hid (cmpL x y = cmpL (x.drop (k + 1)) (y.drop (k + 1))) := by
            show _ = _
            rw [HC.out, HA.out, if_pos (by rw [hac]; simp [cmpI])]
          have hacb : (a != c) = false := by simp [hac]
          clear hac
          go_wp2
          go_quiet (fail)
          go_wp2
          go_roundw
          case rel => exact ⟨k + 1, by omega, by omega, by go_num, HR.out, _, rfl⟩
          case measure => simp [intOf]; omega
        · have HR : Hid (cmpL x y = cmpI a c) := by
            show _ = _
            rw [HC.out, HA.out, if_neg (by unfold cmpI; split <;> (try split) <;> omega)]
          have HS : Hid (decide (cmpI a c < 0) = decide (a < c)) := by
            show _ = _
            unfold cmpI
            by_cases h : a < c
            · simp [h]
            · by_cases h' : c < a <;> simp [h, h']
          have hacb : (a != c) = true := by simp [hac]
          clear hac
          go_wp2
          go_quiet (fail)
          go_wp2
          go_quiet (fail)
          go_wp2
          go_ret
          exact ⟨ret_bool (by rw [HR.out, HS.out]), _, by rw [World.drewN_drewN, World.drewN_drewN]⟩
      · have hltJ : decide ((k : Int) < (y.length : Int)) = false := by simp; omega
        have hke : k = y.length := by omega
        have HR : Hid (cmpL x y = 1) := by
          show _ = _
          rw [HC.out, hke, List.drop_length, List.drop_eq_getElem_cons (by omega)]; rfl
        have hxy : decide ((x.length : Int) < (y.length : Int)) = false := by simp; omega
        clear hke
        go_wp2
        go_ret
        exact ⟨ret_bool (by rw [HR.out]; first | rfl | simpa using hxy), _, rfl⟩
    · have hltI : decide ((k : Int) < (x.length : Int)) = false := by simp; omega
      have hke : k = x.length := by omega
      have HR : Hid (decide (cmpL x y < 0) = decide (x.length < y.length)) := by
        show _ = _
        rw [HC.out, hke, List.drop_length]
        by_cases hxy : x.length < y.length
        · rw [List.drop_eq_getElem_cons hxy]
          simp [cmpL, hxy]
        · rw [List.drop_eq_nil_of_le (by omega)]
          simp [cmpL]; omega
      clear hke
      go_wp2
      go_ret
      exact ⟨ret_bool HR.out.symm, _, rfl⟩

end Go.Proofs.YtilblfoapjnmaaaGreatDoor
