/- What exact.Differences and exact.Kernel give, as rowsThrough wants it. -/
import Derived.Test.YtkfdpcgmpbopnaaGreatDoorWr8
import Derived.Test.YtkfdpcgmpbopnaaGreatDoorWq5
namespace Go.Proofs.YtkfdpcgmpbopnaaGreatDoor
open Go.RowKit
open Lin

theorem diff_gives (d : Nat) (t : List (List Int)) (vt : Value) (w : World) (ht : Mat w.heap.size 22 3 w vt t) (h1 : 1 ≤ t.length) (h2 : t.length ≤ 1000) (hd : 1 ≤ d) (hd5 : d ≤ 5) (hb : Box d 30 t) :
    ∀ W, Below w.heap.size w W → Calls Tryz.prog 72 #[vt] W fun e w' => ∃ z, e = .returned z ∧ Mat w'.heap.size 22 3 w' z (diffL t) ∧ Below W.heap.size W w' := fun W hB => by
  refine (differences_any W.heap.size d t vt W ((ht.below hB (Nat.le_refl _)).any (Nat.le_refl _)) h1 h2 hd (by omega) (fun r hr => (hb r hr).1) (fun r hr z hz => by have := (hb r hr).2 z hz; omega)).mono ?_
  rintro e w' ⟨x, rfl, ⟨vs, g1, g2, g3⟩, h4⟩
  exact ⟨x, rfl, ⟨vs, g1, Sl.own g2, fun i hi => (g3 i hi).any (Nat.le_refl _)⟩, h4⟩

theorem ker_gives (d : Nat) (D : List (List Int)) (w : World) (hx : Mx d 60 D) (h1 : D.length ≤ 500) (hd : d ≤ 1000) :
    ∀ W z, Below w.heap.size w W → Mat W.heap.size 22 3 W z D → Calls Tryz.prog 120 #[z, .int .i64 d] W fun e w' => ∃ K y, e = .returned y ∧ KerP d D K ∧ K.length ≤ 1000 ∧ Mat w'.heap.size 22 3 w' y K ∧ Below W.heap.size W w' := fun W z _ hz => by
  refine (kernelP_any0 W.heap.size d D z W hx hz h1).mono ?_
  rintro e w' ⟨M', C, k, sgn, hr, u, rfl, ⟨vs, g1, g2, g3⟩, _, h3⟩
  refine ⟨_, u, rfl, ⟨M', C, k, sgn, hr, rfl⟩, ?_, ⟨vs, g1, Sl.own g2, fun i hi => (g3 i hi).any (Nat.le_refl _)⟩, h3⟩
  rw [List.length_map]
  unfold freesT
  refine Nat.le_trans (List.length_filter_le _ _) ?_
  simp
  omega

end Go.Proofs.YtkfdpcgmpbopnaaGreatDoor
