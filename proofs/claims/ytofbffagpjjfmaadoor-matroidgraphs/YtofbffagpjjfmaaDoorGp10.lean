/- facetref.GraphMay. -/
import Derived.Test.YtofbffagpjjfmaaDoorGp1
import Derived.Test.YtofbffagpjjfmaaDoorMade1
namespace Go.Proofs.YtofbffagpjjfmaaDoor
open Go.RowKit
attribute [local go_sem ↓] Go.wp_at_zero Go.wp_at_succ

/-- A list of pairs of any numbers. -/
def Pri (w : World) (v : Value) (zs : List (Int × Int)) : Prop :=
  ∃ po pc, v = .slice po zs.length pc ∧ ∀ i, i < zs.length → ∃ b o, po = some ⟨b, o, none⟩ ∧ w.cell? ⟨b, o + i * 2, none⟩ = some (.int .i64 (zs.getD i (0, 0)).1) ∧ w.cell? ⟨b, o + i * 2 + 1, none⟩ = some (.int .i64 (zs.getD i (0, 0)).2)

/-- Is an edge between nodes that there are? -/
def edB (n : Int) (e : Int × Int) : Bool := decide (0 ≤ e.1 ∧ 0 ≤ e.2 ∧ e.1 < n ∧ e.2 < n)

/-- What GraphMay says. -/
def gmE (n : Int) (zs : List (Int × Int)) : Int := if n < 1 ∨ 7 < n ∨ 8 < zs.length then 11 else if zs.all (edB n) then 0 else 9

theorem all_snocE {p : Int × Int → Bool} {l : List (Int × Int)} {k : Nat} (h : k < l.length) (h0 : (l.take k).all p = true) : (l.take (k + 1)).all p = p (l.getD k (0, 0)) := by
  have e : l.getD k (0, 0) = l[k] := by simp [h]
  rw [List.take_succ_eq_append_getElem h, List.all_append, h0, e]
  simp

set_option maxRecDepth 100000 in
set_option maxHeartbeats 800000 in
theorem graphMay_any (n : Int) (zs : List (Int × Int)) (v : Value) (w : World) (hv : Pri w v zs) (hl : zs.length ≤ 1000000) :
    Calls Tryd.prog 4 #[.int .i64 n, v] w fun e w' => e = .returned (.int .i64 (gmE n zs)) ∧ w' = w := by
  obtain ⟨po, pc, rfl, hc⟩ := hv
  have HC : Hid (∀ i, i < zs.length → ∃ b o, po = some ⟨b, o, none⟩ ∧ w.cell? ⟨b, o + i * 2, none⟩ = some (.int .i64 (zs.getD i (0, 0)).1) ∧ w.cell? ⟨b, o + i * 2 + 1, none⟩ = some (.int .i64 (zs.getD i (0, 0)).2)) := hc
  clear hc
  by_cases h1 : n < 1
  · have HE : Hid (gmE n zs = 11) := if_pos (Or.inl h1)
    go_enter Tryd.func4, Tryd.ntmps4
    go_wp2
    go_ret
    exact ⟨by rw [HE.out]; rfl, rfl⟩
  by_cases h2 : 7 < n
  · have HE : Hid (gmE n zs = 11) := if_pos (Or.inr (Or.inl h2))
    go_enter Tryd.func4, Tryd.ntmps4
    go_wp2
    go_ret
    exact ⟨by rw [HE.out]; rfl, rfl⟩
  by_cases h3 : 8 < zs.length
  · have HE : Hid (gmE n zs = 11) := if_pos (Or.inr (Or.inr h3))
    have h3' : (8 : Int) < (zs.length : Int) := by omega
    go_enter Tryd.func4, Tryd.ntmps4
    go_wp2
    go_ret
    exact ⟨by rw [HE.out]; rfl, rfl⟩
  have HE : Hid (gmE n zs = if zs.all (edB n) then 0 else 9) := if_neg (by omega)
  have h3' : ¬ (8 : Int) < (zs.length : Int) := by omega
  go_enter Tryd.func4, Tryd.ntmps4
  go_wp2
  go_loopw [5] (fun x wr => ∃ k : Nat, k ≤ zs.length ∧ x = .int .i64 k ∧ (zs.take k).all (edB n) = true ∧ wr = w) (fun x _ => zs.length - (intOf x).toNat)
  case atStart => exact ⟨0, Nat.zero_le _, rfl, by simp, rfl⟩
  case round =>
    obtain ⟨k, hk, rfl, hall, rfl⟩ := hrel
    have HA : Hid ((zs.take k).all (edB n) = true) := hall
    clear hall
    by_cases hlt : k < zs.length
    · obtain ⟨b, o, hpo, ca, cb⟩ := HC.out k hlt
      subst hpo
      have HS : Hid ((zs.take (k + 1)).all (edB n) = edB n (zs.getD k (0, 0))) := all_snocE hlt HA.out
      have HNA : Hid (edB n (zs.getD k (0, 0)) = false → zs.all (edB n) = false) := fun h => by
        rw [List.all_eq_false]
        exact ⟨zs.getD k (0, 0), by simp [hlt], by rw [h]; simp⟩
      generalize zs.getD k (0, 0) = ab at *
      obtain ⟨a, b'⟩ := ab
      dsimp only at ca cb
      have kI : (k : Int) < (zs.length : Int) := by omega
      have kI0 : (0 : Int) ≤ (k : Int) := by omega
      have HED : Hid (edB n (a, b') = decide (0 ≤ a ∧ 0 ≤ b' ∧ a < n ∧ b' < n)) := rfl
      have bad : (a < 0 ∨ b' < 0 ∨ n ≤ a ∨ n ≤ b') → gmE n zs = 9 := fun h => by
        rw [HE.out, HNA.out (by rw [HED.out]; simp; omega)]; rfl
      have HBAD : Hid ((a < 0 ∨ b' < 0 ∨ n ≤ a ∨ n ≤ b') → gmE n zs = 9) := bad
      clear bad
      by_cases g1 : a < 0
      · have HF : Hid (gmE n zs = 9) := HBAD.out (by omega)
        go_wp2
        go_ret
        exact ⟨by rw [HF.out]; rfl, rfl⟩
      by_cases g2 : b' < 0
      · have HF : Hid (gmE n zs = 9) := HBAD.out (by omega)
        go_wp2
        go_ret
        exact ⟨by rw [HF.out]; rfl, rfl⟩
      by_cases g3 : n ≤ a
      · have HF : Hid (gmE n zs = 9) := HBAD.out (by omega)
        go_wp2
        go_ret
        exact ⟨by rw [HF.out]; rfl, rfl⟩
      by_cases g4 : n ≤ b'
      · have HF : Hid (gmE n zs = 9) := HBAD.out (by omega)
        go_wp2
        go_ret
        exact ⟨by rw [HF.out]; rfl, rfl⟩
      have HT : Hid ((zs.take (k + 1)).all (edB n) = true) := by
        show _ = _
        rw [HS.out, HED.out]
        simp; omega
      go_wp2
      exact ⟨⟨k + 1, by omega, by go_num, HT.out, trivial⟩, by simp [intOf]; omega⟩
    · have e : zs.take k = zs := List.take_of_length_le (by omega)
      have HF : Hid (gmE n zs = 0) := by
        show _ = _
        rw [HE.out, ← e, HA.out]; rfl
      go_wp2
      go_ret
      exact ⟨by rw [HF.out]; rfl, rfl⟩

end Go.Proofs.YtofbffagpjjfmaaDoor
