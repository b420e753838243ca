/- matroid.heaviestFirst. -/
import Derived.Test.YtkimhomkeneddaaDoorMt11
namespace Go.Proofs.YtkimhomkeneddaaDoor
open Go.RowKit
attribute [local go_sem ↓] Go.wp_at_zero Go.wp_at_succ

theorem Sl.keepM {B : Nat} {w wq : World} {u : Value} {l : List Int} (h : Sl B 3 w u (ints l)) (hm : ∀ b, b < w.heap.size → wq.heap[b]? = w.heap[b]?) : Sl B 3 wq u (ints l) := by
  obtain ⟨ao, cap, rfl, h1, h2, h3, h4⟩ := h
  refine ⟨ao, cap, rfl, h1, h2, fun i hi => ?_, h4⟩
  obtain ⟨b, o, ha, hc, ht⟩ := h3 i hi
  have hlt : b < w.heap.size := lt_of_cell (hc.trans (List.getElem?_eq_getElem hi))
  have keep := hm b hlt
  refine ⟨b, o, ha, (World.cell?_of_block (w := w) (a := ⟨b, o + i, none⟩) keep).trans hc, ?_⟩
  rcases ht with ht | ⟨cur, ht⟩
  · exact Or.inl ht
  · exact Or.inr ⟨cur, keep.trans ht⟩

set_option maxRecDepth 100000 in
theorem insS0_any (v f : Value) (w : World) :
    Calls Tryd.prog 48 #[v, .int .i64 0, .int .i64 0, f] w fun e w' => e = .returned (.tuple #[]) ∧ w' = w := by
  go_enter Tryd.func48, Tryd.ntmps48
  go_wp2
  go_loopw [8, 9] (fun i _ wr => i = .int .i64 1 ∧ wr = w) (fun _ _ _ => 0)
  case atStart => exact ⟨rfl, rfl⟩
  case round =>
    obtain ⟨rfl, rfl⟩ := hrel
    go_wp2
    go_end0
    exact ⟨rfl, rfl⟩

set_option maxRecDepth 100000 in
set_option maxHeartbeats 800000 in
theorem stable_any (n : Nat) (v f : Value) (w : World) (Q : World → Prop) (hn : n ≤ 8)
    (hi : Calls Tryd.prog 48 #[v, .int .i64 0, .int .i64 n, f] w fun e w' => e = .returned (.tuple #[]) ∧ Q w') :
    Calls Tryd.prog 42 #[v, .int .i64 n, f] w fun e w' => e = .returned (.tuple #[]) ∧ Q w' := by
  have HI : Hid (Calls Tryd.prog 48 #[v, .int .i64 0, .int .i64 n, f] w fun e w' => e = .returned (.tuple #[]) ∧ Q w') := hi
  have q1 : decide ((20 : Int) ≤ (n : Int)) = false := decide_eq_false (by omega)
  have q2 : decide ((20 : Int) < (n : Int)) = false := decide_eq_false (by omega)
  clear hi
  go_enter Tryd.func42, Tryd.ntmps42
  go_wp2
  go_loopw [7, 8] (fun a b wr => a = .int .i64 0 ∧ b = .int .i64 20 ∧ wr = w) (fun _ _ _ => 0)
  case atStart => exact ⟨rfl, rfl, rfl⟩
  case round =>
    obtain ⟨rfl, rfl, rfl⟩ := hrel
    go_wp2_with fail
    refine HI.out.mono ?_
    rintro e w' ⟨rfl, hq⟩
    have HQ : Hid (Q w') := hq
    clear hq HI
    go_wp2
    go_loopw [6, 7, 8, 9] (fun a _ _ _ wr => a = .int .i64 20 ∧ wr = w') (fun _ _ _ _ _ => 0)
    case atStart => exact ⟨rfl, rfl⟩
    case round =>
      obtain ⟨rfl, rfl⟩ := hrel
      go_wp2
      go_end0
      exact ⟨rfl, HQ.out⟩

set_option maxRecDepth 100000 in
theorem sortS_any (n c : Nat) (ao : Option Addr) (f : Value) (w : World) (Q : World → Prop) (hn : n ≤ 8)
    (hi : Calls Tryd.prog 48 #[.slice ao n c, .int .i64 0, .int .i64 n, f] w fun e w' => e = .returned (.tuple #[]) ∧ Q w') :
    Calls Tryd.prog 33 #[.slice ao n c, f] w fun e w' => e = .returned (.tuple #[]) ∧ Q w' := by
  have HI : Hid (Calls Tryd.prog 42 #[.slice ao n c, .int .i64 n, f] w fun e w' => e = .returned (.tuple #[]) ∧ Q w') := stable_any n _ f w Q hn hi
  clear hi
  go_enter Tryd.func33, Tryd.ntmps33
  go_wp2_with fail
  refine HI.out.mono ?_
  rintro e w' ⟨rfl, hq⟩
  have HQ : Hid (Q w') := hq
  clear hq HI
  go_wp2
  go_end0
  exact ⟨rfl, HQ.out⟩

def rngI (n : Nat) : List Int := (List.range n).map fun i : Nat => (i : Int)

/-- Things by falling weights. -/
def hvL (ws : List Int) : List Int := insO ws (ws.length - 1) 1 (rngI ws.length)

theorem rngI_succ (n : Nat) : rngI (n + 1) = rngI n ++ [(n : Int)] := by simp [rngI, List.range_succ]
theorem rngI_len (n : Nat) : (rngI n).length = n := by simp [rngI]
theorem rngI_pl (n : Nat) : Pl n (rngI n) := fun k hk => by
  rw [rngI_len] at hk
  simp [rngI, hk]

end Go.Proofs.YtkimhomkeneddaaDoor
