/- A drawn region by one saying that every operation keeps, in whatever order they come. -/
import Derived.Test.YtgeajopenkkkaaaGreatRgA
import Derived.Test.YtgeajopenkkkaaaGreatStepsAll
import Derived.Maps.AppendAt
namespace Go.Proofs.YtgeajopenkkkaaaGreat
open Go Go.RowKit

theorem rowsIn_wd {P : Program} {n : Nat} {row : String} {args : Array Value} {w : World} {R : Value → World → Prop} (h : Rows P row args w R) : RowsIn Fence.wide n P row args w R := by
  intro c cs _
  obtain ⟨v, w', h1, h2⟩ := h c cs
  exact ⟨v, w', h1, stepsIn_wide.2 h2⟩

theorem wpOp_wd {P : Program} {n : Nat} {ops : Array Oper} {K0 : Act → World → Prop} {Q : Exit → Act → World → Prop} {K K' : Act → World → Prop} {i : Nat} {a : Act} {w : World} (hd : ∀ o, ops[i]? = some o → ∀ c, o.op ≠ .defer c)
    (hK : ∀ a w, K a w → K' a w) (h : wpOp P ops (Nrm K0) i K a w) : wpOpIn Fence.wide n P ops Q i K' a w := by
  unfold wpOp at h
  unfold wpOpIn
  cases ho : ops[i]? with
  | none =>
    rw [ho] at h
    exact hK _ _ h
  | some o =>
    rw [ho] at h
    simp only at h ⊢
    by_cases hw : Region.wanted o (yielded ops a.tmps) = true
    · rw [if_pos hw] at h ⊢
      rcases h with h | ⟨_, h⟩
      · refine ⟨fun f _ => trivial, ?_⟩
        have hsem : o.semAt Fence.wide.round a.eval = execOp a.eval o := Oper.semAt_plain Fence.wide _ _ (hd o ho)
        rw [hsem]
        unfold Oper.wp at h
        generalize (execOp a.eval o).run P w = r at *
        cases r with
        | ok nx w' =>
          cases nx with
          | value v => exact hK _ _ h
          | skip => exact hK _ _ h
          | defer d => exact hK _ _ h
          | enter f args =>
            refine ⟨fun hx => (by cases hx), ?_⟩
            refine callsIn_wide.2 (Calls.mono h ?_)
            intro e w'' he
            cases e with
            | returned v => exact hK _ _ he
            | panicked c => exact he.elim
            | outgrown => exact (nrm_lets he).elim
          | row row args =>
            refine ⟨fun hx => (by cases hx), rowsIn_wd (Rows.mono h fun v w'' he => hK _ _ he)⟩
          | _ => exact h.elim
        | halt x w' =>
          cases x <;> exact h.elim
      · exact (nrm_lets h).elim
    · rw [if_neg hw] at h ⊢
      exact ⟨fun f _ => trivial, hK _ _ h⟩

theorem wpAnyIn_wd {P : Program} {n : Nat} {md : Region.Mode} {ops : Array Oper} {S : World → Prop} {K : Act → World → Prop} {Q : Exit → Act → World → Prop} (hd : ∀ (i : Nat) (o : Oper), ops[i]? = some o → ∀ c, o.op ≠ .defer c) (hQ : ∀ a w, K a w → Q .normal a w) :
    ∀ (fuel : Nat) (listed : Array Bool) (a : Act) (w : World), wpAnyH P md ops (Nrm K) S fuel listed a w → wpAnyIn Fence.wide n P md ops Q fuel listed a w
  | 0, _, _, _, h => ⟨h.1, hQ _ _ h.2⟩
  | fuel + 1, _, _, _, h => ⟨fun hr => hQ _ _ (h.1 hr), fun i hi => wpOp_wd (hd i) (fun a' w' h' => wpAnyIn_wd hd hQ fuel _ a' w' h'.2) (h.2 i hi)⟩

theorem wpIn_region_wd {P : Program} {n id : Nat} {ops : Array Oper} (S : World → Prop) {K : Act → World → Prop} {Q : Exit → Act → World → Prop} {a : Act} {w : World} (hm : P.follows .mixedOrders = true) (hd : ∀ (i : Nat) (o : Oper), ops[i]? = some o → ∀ c, o.op ≠ .defer c) (hQ : ∀ a w, K a w → Q .normal a w)
    (h : wpAnyH P .any ops (Nrm K) S ops.size (Array.replicate ops.size false) a w.drew) : (Code.region id ops true).wpIn Fence.wide n P Q a w :=
  wpIn_region_any hm (wpAnyIn_wd hd hQ _ _ _ _ h)

end Go.Proofs.YtgeajopenkkkaaaGreat
