import Derived.Test.YtknomkajibfmlaaGreatMgAS
import Derived.Test.YtknomkajibfmlaaGreatMgAI
import Derived.Test.YtknomkajibfmlaaGreatMgAM
import Derived.Test.YtknomkajibfmlaaGreatMgAJ
import Derived.Test.YtknomkajibfmlaaGreatMgAK
import Derived.Maps.OwnIn
import Derived.OrdersIn
import Derived.OwnWalkIn
import Derived.OrdersHeld
import Derived.RangeFuncCalls
import Derived.RangeFuncNested
import Derived.Deep.RegionHeld3
/- The rows around points: all choices, by the iterator. -/
namespace Go.Proofs.YtknomkajibfmlaaGreat
open Go.RowKit Go.Shelf
attribute [local go_sem] Oper.semAt_some
attribute [local go_sem ↓] Go.wp_at_zero Go.wp_at_succ

theorem pks_snocP (P : List (List Int)) (x : List Int) (k : Nat) (h : k < x.length) : pks P [] (x.take (k + 1)) = pks P [] (x.take k) ++ [P.getD (x.getD k 0).toNat []] := by
  rw [take_snoc_int x k h]
  simp [pks]

theorem pickedP_any (B : Nat) (P : List (List Int)) (x : List Int) (v u : Value) (w : World) (hv : Mat B 38 3 w v P) (hu : Sl B 3 w u (ints x)) (hx : ∀ i, i < x.length → 0 ≤ x.getD i 0 ∧ x.getD i 0 < P.length) (hl : x.length ≤ 1000) :
    Calls Tryz.prog 50 #[v, u] w fun e w' => ∃ z, e = .returned z ∧ Rws w.heap.size 38 3 w' z (pks P [] x) ∧ Below w.heap.size w w' :=
  pickedK_any B P x v u w hv hu hx hl

end Go.Proofs.YtknomkajibfmlaaGreat

/- The rows around points: all choices, by the iterator: the walk. -/
namespace Go.Proofs.YtknomkajibfmlaaGreat
open Go.RowKit Go.Shelf
attribute [local go_sem] Oper.semAt_some

theorem handA_below (N0 : Nat) (W : World) (S : Nat → Prop) (x : List Int) (vs : Array Value) (W' : World) (h : Hand N0 W S x vs) (hb : Below W.heap.size W W') : Hand N0 W' S x vs := by
  obtain ⟨v, B0, h1, h2, h3, h4, h5⟩ := h
  exact ⟨v, B0, h1, owns_below h2 hb (Nat.le_refl _), h3, h4, Nat.le_trans h5 hb.size⟩

theorem handA_put (N0 : Nat) (W : World) (S : Nat → Prop) (x : List Int) (vs : Array Value) (l : Nat) (r : Loop) (o : Obj) (h : Hand N0 W S x vs) (hl : W.heap[l]? = some (.loop r)) : Hand N0 (W.putObj l o) S x vs := by
  obtain ⟨v, B0, h1, h2, h3, h4, h5⟩ := h
  exact ⟨v, B0, h1, ownsRow_putObj h2 _ hl rfl, h3, h4, by simpa using h5⟩

/-- Rows that lie off the blocks of S. -/
structure FrO (S : Nat → Prop) (B : Nat) (W : World) (v : Value) (m : List (List Int)) (vs : List Value) : Prop where
  len : vs.length = m.length
  own : W.ownsRow B 38 1 v m.length vs
  off : ∀ g, v.ownBlock = some g → ¬ S g
  sl : ∀ i, i < m.length → Sl 0 3 W (vs.getD i (.slice none 0 0)) (ints (m.getD i []))
  so : ∀ i, i < m.length → 0 < (m.getD i []).length → ∃ a n c, vs.getD i (.slice none 0 0) = .slice (some a) n c ∧ ¬ S a.block

theorem FrO.fr {S : Nat → Prop} {B : Nat} {W : World} {v : Value} {m : List (List Int)} {vs : List Value} (h : FrO S B W v m vs) : Fr B 38 3 W v m := ⟨vs, h.len, h.own, h.sl⟩

theorem sl_pos_keep {w W : World} {v : Value} {xs : List Int} (h : Sl 0 3 w v (ints xs)) (hk : 0 < xs.length → ∀ a n c, v = .slice (some a) n c → W.heap[a.block]? = w.heap[a.block]?) : Sl 0 3 W v (ints xs) := by
  obtain ⟨ao, cap, rfl, h1, h2, h3, h4⟩ := h
  refine ⟨ao, cap, rfl, h1, h2, fun i hi => ?_, h4⟩
  obtain ⟨b, o, rfl, hc, ht⟩ := h3 i hi
  have k1 := hk (by simpa using (Nat.lt_of_le_of_lt (Nat.zero_le _) hi)) _ _ _ rfl
  refine ⟨b, o, rfl, (World.cell?_of_block (w := w) (a := ⟨b, o + i, none⟩) k1).trans hc, ?_⟩
  rcases ht with ht | ⟨cur, ht⟩
  · omega
  · exact .inr ⟨cur, k1.trans ht⟩

theorem sl_block {w : World} {a : Addr} {n c : Nat} {xs : List Int} (h : Sl 0 3 w (.slice (some a) n c) (ints xs)) (hp : 0 < xs.length) : a.block < w.heap.size := by
  obtain ⟨ao, cap, hv, _, _, h3, _⟩ := h
  simp only [Value.slice.injEq] at hv
  obtain ⟨rfl, _, _⟩ := hv
  obtain ⟨b, o, ha, hc, _⟩ := h3 0 (by simpa using hp)
  cases ha
  have hx : (ints xs)[0]? = some (.int .i64 (xs.getD 0 0)) := ints_get _ _ hp
  exact lt_of_cell (hc.trans hx)

theorem FrO.keep {S S' : Nat → Prop} {B : Nat} {W W' : World} {v : Value} {m : List (List Int)} {vs : List Value} (h : FrO S B W v m vs) (hc : ∀ b, b < W.heap.size → ¬ S b → W'.heap[b]? = W.heap[b]?) (hs : ∀ b, S' b → S b ∨ W.heap.size ≤ b) : FrO S' B W' v m vs := by
  refine ⟨h.len, ⟨h.own.1, ?_⟩, fun g hg hx => ?_, fun i hi => sl_pos_keep (h.sl i hi) (fun hp a n c e => ?_), fun i hi hp => ?_⟩
  · rcases h.own.2 with h2 | ⟨g, cap, cur, rfl, hb, hh, r⟩
    · exact Or.inl h2
    · exact Or.inr ⟨g, cap, cur, rfl, hb, (hc g (lt_of_block hh) (h.off g rfl)).trans hh, r⟩
  · rcases hs g hx with h1 | h1
    · exact h.off g hg h1
    · have := (h.own.lt g hg).2; omega
  · obtain ⟨a', n', c', e', hn⟩ := h.so i hi hp
    rw [e] at e'
    cases e'
    have hsl := h.sl i hi
    rw [e] at hsl
    exact hc _ (sl_block hsl hp) hn
  · obtain ⟨a, n, c, e, hn⟩ := h.so i hi hp
    refine ⟨a, n, c, e, fun hx => ?_⟩
    have hsl := h.sl i hi
    rw [e] at hsl
    rcases hs _ hx with h1 | h1
    · exact hn h1
    · have := sl_block hsl hp; omega

/-- One row more. -/
theorem FrO.push {S : Nat → Prop} {B : Nat} {W W' : World} {v v' u : Value} {m : List (List Int)} {vs : List Value} {zs : List Int} (h : FrO S B W v m vs) (hu : Sl 0 3 W u (ints zs)) (hun : 0 < zs.length → ∃ a n c, u = .slice (some a) n c ∧ ¬ S a.block)
    (ho : W'.ownsRow B 38 1 v' (m.length + 1) (vs ++ [u])) (hg : W.grownBy W' v.ownBlock) (hn : ∀ g, v'.ownBlock = some g → ¬ S g) : FrO S B W' v' (m ++ [zs]) (vs ++ [u]) := by
  have hp := Fr.push (e2 := 38) (e1 := 3) (m := m) (u := u) (zs := zs) (by decide) h.len h.own h.sl hu ho hg
  have ht : ∀ k, v.ownBlock = some k → 0 ≤ k ∧ ∀ cur, W.heap[k]? ≠ some (.cells cur 3 (0, 0)) := fun k hk => ⟨Nat.zero_le _, (owns_typed h.own (by decide) k hk).2⟩
  refine ⟨by simp [h.len], by simpa using ho, hn, fun i hi => ?_, fun i hi hpos => ?_⟩
  · by_cases hlt : i < m.length
    · have e1' : (vs ++ [u]).getD i (.slice none 0 0) = vs.getD i (.slice none 0 0) := by
        simp only [List.getD_eq_getElem?_getD]; rw [List.getElem?_append_left (by have := h.len; omega)]
      have e2' : (m ++ [zs]).getD i [] = m.getD i [] := by
        simp only [List.getD_eq_getElem?_getD]; rw [List.getElem?_append_left (by omega)]
      rw [e1', e2']
      exact (h.sl i hlt).grown hg ht
    · have hi' : i = m.length := by simp at hi; omega
      subst hi'
      have e1' : (vs ++ [u]).getD m.length (.slice none 0 0) = u := by
        rw [← h.len]; simp
      have e2' : (m ++ [zs]).getD m.length [] = zs := by simp
      rw [e1', e2']
      exact hu.grown hg ht
  · by_cases hlt : i < m.length
    · have e1' : (vs ++ [u]).getD i (.slice none 0 0) = vs.getD i (.slice none 0 0) := by
        simp only [List.getD_eq_getElem?_getD]; rw [List.getElem?_append_left (by have := h.len; omega)]
      have e2' : (m ++ [zs]).getD i [] = m.getD i [] := by
        simp only [List.getD_eq_getElem?_getD]; rw [List.getElem?_append_left (by omega)]
      rw [e2'] at hpos
      rw [e1']
      exact h.so i hlt hpos
    · have hi' : i = m.length := by simp at hi; omega
      subst hi'
      have e1' : (vs ++ [u]).getD m.length (.slice none 0 0) = u := by
        rw [← h.len]; simp
      have e2' : (m ++ [zs]).getD m.length [] = zs := by simp
      rw [e2'] at hpos
      rw [e1']
      exact hun hpos
end Go.Proofs.YtknomkajibfmlaaGreat

/- A drawn region in a round, by the plain walk that holds cells. -/
namespace Go.Proofs.YtknomkajibfmlaaGreat
open Go

def notDef (o : Oper) : Bool := match o.op with
  | .defer _ => false
  | _ => true

theorem no_defer {ops : Array Oper} (h : ops.all notDef = true) : ∀ (i : Nat) (o : Oper), ops[i]? = some o → ∀ c, o.op ≠ .defer c := by
  intro i o ho c hc
  obtain ⟨hi, rfl⟩ := Array.getElem?_eq_some_iff.1 ho
  have := Array.all_eq_true.1 h i hi
  unfold notDef at this
  rw [hc] at this
  cases this

/-- It comes to its end, and nothing else. -/
def Nrm (K : Act → World → Prop) : Exit → Act → World → Prop
  | .normal, a, w => K a w
  | _, _, _ => False

theorem nrm_lets {K : Act → World → Prop} (h : LetsOut (Nrm K)) : False := by
  obtain ⟨a, w, h⟩ := h
  exact h

theorem rowsIn_rnd {P : Program} {L n : Nat} {row : String} {args : Array Value} {w : World} {R : Value → World → Prop} (h : Rows P row args w R) : RowsIn (Fence.wide.inRound L) n P row args w R := by
  intro c cs _
  obtain ⟨v, w', h1, h2⟩ := h c cs
  exact ⟨v, w', h1, stepsIn_wide.2 h2⟩

theorem wpOp_rnd {P : Program} {L n : Nat} {ops : Array Oper} {K0 : Act → World → Prop} {Q : Exit → Act → World → Prop} {K K' : Act → World → Prop} {i : Nat} {a : Act} {w : World} (hd : ∀ o, ops[i]? = some o → ∀ c, o.op ≠ .defer c)
    (hK : ∀ a w, K a w → K' a w) (h : wpOp P ops (Nrm K0) i K a w) : wpOpIn (Fence.wide.inRound L) n P ops Q i K' a w := by
  unfold wpOp at h
  unfold wpOpIn
  cases ho : ops[i]? with
  | none =>
    rw [ho] at h
    exact hK _ _ h
  | some o =>
    rw [ho] at h
    simp only at h ⊢
    by_cases hw : Region.wanted o (yielded ops a.tmps) = true
    · rw [if_pos hw] at h ⊢
      rcases h with h | ⟨_, h⟩
      · refine ⟨fun f _ => trivial, ?_⟩
        have hsem : o.semAt (Fence.wide.inRound L).round a.eval = execOp a.eval o := Oper.semAt_plain (Fence.wide.inRound L) _ _ (hd o ho)
        rw [hsem]
        unfold Oper.wp at h
        generalize (execOp a.eval o).run P w = r at *
        cases r with
        | ok nx w' =>
          cases nx with
          | value v => exact hK _ _ h
          | skip => exact hK _ _ h
          | defer d => exact hK _ _ h
          | enter f args =>
            refine ⟨fun hx => (by cases hx), ?_⟩
            refine CallsIn.inRound L (callsIn_wide.2 (Calls.mono h ?_))
            intro e w'' he
            cases e with
            | returned v => exact hK _ _ he
            | panicked c => exact he.elim
            | outgrown => exact (nrm_lets he).elim
          | row row args =>
            refine ⟨fun hx => (by cases hx), rowsIn_rnd (Rows.mono h fun v w'' he => hK _ _ he)⟩
          | _ => exact h.elim
        | halt x w' =>
          cases x <;> exact h.elim
      · exact (nrm_lets h).elim
    · rw [if_neg hw] at h ⊢
      exact ⟨fun f _ => trivial, hK _ _ h⟩

theorem wpAnyIn_rnd {P : Program} {L n : Nat} {md : Region.Mode} {ops : Array Oper} {S : World → Prop} {K : Act → World → Prop} {Q : Exit → Act → World → Prop} (hd : ∀ (i : Nat) (o : Oper), ops[i]? = some o → ∀ c, o.op ≠ .defer c) (hQ : ∀ a w, K a w → Q .normal a w) :
    ∀ (fuel : Nat) (listed : Array Bool) (a : Act) (w : World), wpAnyH P md ops (Nrm K) S fuel listed a w → wpAnyIn (Fence.wide.inRound L) n P md ops Q fuel listed a w
  | 0, _, _, _, h => ⟨h.1, hQ _ _ h.2⟩
  | fuel + 1, _, _, _, h => ⟨fun hr => hQ _ _ (h.1 hr), fun i hi => wpOp_rnd (hd i) (fun a' w' h' => wpAnyIn_rnd hd hQ fuel _ a' w' h'.2) (h.2 i hi)⟩

theorem wpIn_region_rnd {P : Program} {L n id : Nat} {ops : Array Oper} (S : World → Prop) {K : Act → World → Prop} {Q : Exit → Act → World → Prop} {a : Act} {w : World} (hm : P.follows .mixedOrders = true) (hd : ∀ (i : Nat) (o : Oper), ops[i]? = some o → ∀ c, o.op ≠ .defer c) (hQ : ∀ a w, K a w → Q .normal a w)
    (hS : S w.drew) (h : S w.drew → wpAnyH P .any ops (Nrm K) S ops.size (Array.replicate ops.size false) a w.drew) : (Code.region id ops true).wpIn (Fence.wide.inRound L) n P Q a w :=
  wpIn_region_any hm (wpAnyIn_rnd hd hQ _ _ _ _ (h hS))

end Go.Proofs.YtknomkajibfmlaaGreat
