/- Lists of numbers from 0 on. -/
import Derived.Test.YtcmemhdlendlkaaDoorReads
namespace Go.Proofs.YtcmemhdlendlkaaDoor
open Go.RowKit

def natsI (l : List Nat) : List Int := l.map fun k : Nat => (k : Int)

theorem natsI_len (l : List Nat) : (natsI l).length = l.length := by simp [natsI]

theorem natsI_at {l : List Nat} {k : Nat} (hk : k < l.length) : (natsI l).getD k 0 = ((l.getD k 0 : Nat) : Int) := by simp [natsI, hk]

theorem natsI_app (l : List Nat) (i : Nat) : ints (natsI (l ++ [i])) = ints (natsI l) ++ [.int .i64 (i : Int)] := by simp [ints, natsI]

theorem natsI_inj {l m : List Nat} (h : natsI l = natsI m) : l = m := by
  unfold natsI at h
  exact (List.map_inj_right (fun a b e => Int.ofNat.inj e)).1 h

theorem own_low {B B' n : Nat} {e : TypeId} {w : World} {v : Value} {xs : List Value} (h : w.ownsRow B' e 1 v n xs) (hB : B ≤ B') : w.ownsRow B e 1 v n xs := by
  refine ⟨h.1, ?_⟩
  rcases h.2 with h1 | ⟨g, cap, cur, h1, h2, h3⟩
  · exact .inl h1
  · exact .inr ⟨g, cap, cur, h1, Nat.le_trans hB h2, h3⟩

end Go.Proofs.YtcmemhdlendlkaaDoor
