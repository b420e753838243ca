import Derived.Test.YtkdileeahbaobaaDoorMs0
import Derived.Test.YtkdileeahbaobaaDoorRd2
import Derived.Test.YtkdileeahbaobaaDoorAp1
import Derived.Test.YtkdileeahbaobaaDoorTk1
import Derived.Test.YtkdileeahbaobaaDoorMsA
/- facetref.DualOf. -/
namespace Go.Proofs.YtkdileeahbaobaaDoor
open Go.RowKit
attribute [local go_sem ↓] Go.wp_at_zero Go.wp_at_succ

/-- What a basis leaves. -/
def leaI (tn : Nat) (b : Int) : Int := ((tn - 1 - b.toNat : Nat) : Int)
def duL (tn : Nat) (bs : List Int) (k : Nat) : List Int := (bs.take k).map (leaI tn)

theorem duL_succ {tn : Nat} {bs : List Int} {k : Nat} (h : k < bs.length) : duL tn bs (k + 1) = duL tn bs k ++ [leaI tn (bs.getD k 0)] := by
  unfold duL
  rw [List.take_succ_eq_append_getElem h, List.map_append]
  have e : bs.getD k 0 = bs[k] := by simp [h]
  rw [e]
  rfl

theorem duL_len (tn : Nat) (bs : List Int) (k : Nat) : (duL tn bs k).length ≤ bs.length := by
  unfold duL
  rw [List.length_map, List.length_take]; omega

/-- Bases below a bound. -/
def Bn (tn : Nat) (bs : List Int) : Prop := ∀ b ∈ bs, 0 ≤ b ∧ b < (tn : Int)

end Go.Proofs.YtkdileeahbaobaaDoor

/- facetref.Lesser, facetref.MinorOf. -/
namespace Go.Proofs.YtkdileeahbaobaaDoor
open Go.RowKit
attribute [local go_sem ↓] Go.wp_at_zero Go.wp_at_succ

theorem lesTo_bd : ∀ s, s < 256 → ∀ i, i < 8 → ∀ k, k ≤ 8 → lesTo i ((mem8 s).take k) < 256 := by decide +kernel

end Go.Proofs.YtkdileeahbaobaaDoor

/- facetref.MinorOf. -/
namespace Go.Proofs.YtkdileeahbaobaaDoor
open Go.RowKit
attribute [local go_sem ↓] Go.wp_at_zero Go.wp_at_succ

def wiP (wi : Bool) (i : Nat) (b : Int) : Bool := b.toNat.testBit i == wi

theorem bitD1 (s k : Nat) : (((s : Int) / 2 ^ k).tmod 2 == 1) = s.testBit k := by
  have eq0 : (s : Int) / 2 ^ k = ((s / 2 ^ k : Nat) : Int) := by simp
  rw [eq0, Nat.testBit_eq_decide_div_mod_eq]
  generalize s / 2 ^ k = q
  have h2 : ((q : Int)).tmod 2 = ((q % 2 : Nat) : Int) := by rw [Int.tmod_eq_emod_of_nonneg (by omega)]; omega
  rw [h2]
  rcases Nat.mod_two_eq_zero_or_one q with h | h <;> rw [h] <;> rfl

theorem mnL_len (bs : List Int) (i : Nat) (p : Int → Bool) : (mnL bs i p).length ≤ bs.length := by
  unfold mnL
  split
  · exact alL_len _ _ _
  · exact kpL_len _ _ _ _

end Go.Proofs.YtkdileeahbaobaaDoor
