/- The sides of a simplex that are met: the program. -/
import Derived.Test.YtkfdpcgmpbopnaaGreatDoorSh6
namespace Go.Proofs.YtkfdpcgmpbopnaaGreatDoor
open Go.RowKit
attribute [local go_sem ↓] Go.wp_at_zero Go.wp_at_succ

/-- Sets, as values. -/
def nats (ns : List Nat) : List Value := ns.map fun (n : Nat) => Value.int .u64 (n : Int)

@[simp] theorem nats_length (ns : List Nat) : (nats ns).length = ns.length := by simp [nats]

theorem nats_get (ns : List Nat) (i : Nat) (h : i < ns.length) : (nats ns)[i]? = some (.int .u64 (ns.getD i 0 : Nat)) := by
  simp [nats, h]

theorem sl_cellS {B : Nat} {w : World} {v : Value} {ns : List Nat} (h : Sl B 74 w v (nats ns)) {k : Nat} (hk : k < ns.length) :
    ∃ b o cap, v = .slice (some ⟨b, o, none⟩) ns.length cap ∧ ns.length ≤ cap ∧ w.cell? ⟨b, o + k, none⟩ = some (.int .u64 (ns.getD k 0 : Nat)) := by
  obtain ⟨b, o, cap, hv, h1, _, h3⟩ := h.at (by simp; omega)
  simp only [nats_length] at hv h1 h3
  exact ⟨b, o, cap, hv, h1, by rw [h3 k hk, nats_get ns k hk]⟩

theorem sl_openS {B : Nat} {e : TypeId} {w : World} {v : Value} {x : List Nat} (h : Sl B e w v (nats x)) : ∃ ao cap, v = .slice ao x.length cap ∧ x.length ≤ cap ∧ cap ≤ 9223372036854775807 := by
  obtain ⟨ao, cap, rfl, h2, h3, _⟩ := h
  refine ⟨ao, cap, by simp, by simpa using h2, ?_⟩
  unfold maxLen at h3; omega

/-- All below 2^64. -/
def L64 (ns : List Nat) : Prop := ∀ n ∈ ns, n < 18446744073709551616

end Go.Proofs.YtkfdpcgmpbopnaaGreatDoor
