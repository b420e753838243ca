/- plane.flats, between the choices: a row of flats that grows. -/
import Derived.Test.YtgfnmkenpgnllaaGreatFl2
import Derived.Test.YtgfnmkenpgnllaaGreatOfF
import Derived.Test.YtgfnmkenpgnllaaGreatRow4
import Derived.Maps.AppendAt
namespace Go.Proofs.YtgfnmkenpgnllaaGreat
open Go.RowKit Go.Shelf Lin

theorem own_keepF {B n sz : Nat} {e : TypeId} {w w' : World} {v : Value} {xs : List Value} (h : w.ownsRow B e sz v n xs) (hk : ∀ b, v.ownBlock = some b → w'.heap[b]? = w.heap[b]?) : w'.ownsRow B e sz v n xs := by
  refine ⟨h.1, ?_⟩
  rcases h.2 with h2 | ⟨g, cap, cur, rfl, hb, hh, r⟩
  · exact Or.inl h2
  · exact Or.inr ⟨g, cap, cur, rfl, hb, (hk g rfl).trans hh, r⟩

theorem own_typF {B n sz : Nat} {e : TypeId} {w : World} {v : Value} {xs : List Value} (h : w.ownsRow B e sz v n xs) : ∀ b, v.ownBlock = some b → B ≤ b ∧ b < w.heap.size ∧ ∃ cur, w.heap[b]? = some (.cells cur e (0, 0)) := by
  intro b hb
  rcases h.2 with ⟨h1, _⟩ | ⟨g, cap, cur, rfl, hB, hh, _⟩
  · rw [h1] at hb; simp [Value.ownBlock] at hb
  · simp only [Value.ownBlock, Option.some.injEq] at hb
    subst hb
    exact ⟨hB, (Array.getElem?_eq_some_iff.1 hh).1, cur, hh⟩

theorem sl_pos_keepF {w W : World} {v : Value} {xs : List Int} (h : Sl 0 3 w v (ints xs)) (hk : 0 < xs.length → ∀ a n c, v = .slice (some a) n c → W.heap[a.block]? = w.heap[a.block]?) : Sl 0 3 W v (ints xs) := by
  obtain ⟨ao, cap, rfl, h1, h2, h3, h4⟩ := h
  refine ⟨ao, cap, rfl, h1, h2, fun i hi => ?_, h4⟩
  obtain ⟨b, o, rfl, hc, ht⟩ := h3 i hi
  have he := hk (by simp at hi; omega) _ _ _ rfl
  refine ⟨b, o, rfl, ?_, ?_⟩
  · rw [← hc]
    simp only [World.cell?]
    rw [he]
  · rcases ht with ht | ⟨cur, ht⟩
    · omega
    · exact Or.inr ⟨cur, he.trans ht⟩

theorem sl_blockF {w : World} {a : Addr} {n c : Nat} {xs : List Int} (h : Sl 0 3 w (.slice (some a) n c) (ints xs)) (hp : 0 < xs.length) : a.block < w.heap.size := by
  obtain ⟨ao, cap, he, _, _, h3, _⟩ := h
  obtain ⟨b, o, hb, hc, _⟩ := h3 0 (by simpa using hp)
  simp only [Value.slice.injEq] at he
  rw [← he.1] at hb
  cases hb
  have h5 : w.cell? ⟨b, o + 0, none⟩ = some ((ints xs)[0]'(by simpa using hp)) := by rw [hc]; simp
  exact lt_of_cell h5

/-- A row of flats that lies off the blocks of S. -/
structure FlO (S : Nat → Prop) (B : Nat) (W : World) (v : Value) (T : List FlT) : Prop where
  own : W.ownsRow B 68 2 v T.length (T.flatMap encF)
  off : ∀ g, v.ownBlock = some g → ¬ S g
  sl : ∀ t ∈ T, Sl 0 3 W t.1 (ints t.2.1)
  so : ∀ t ∈ T, 0 < t.2.1.length → ∃ a n c, t.1 = .slice (some a) n c ∧ ¬ S a.block

theorem FlO.keep {S S' : Nat → Prop} {B : Nat} {W W' : World} {v : Value} {T : List FlT} (h : FlO S B W v T) (hc : ∀ b, b < W.heap.size → ¬ S b → W'.heap[b]? = W.heap[b]?) (hs : ∀ b, S' b → S b ∨ W.heap.size ≤ b) : FlO S' B W' v T := by
  refine ⟨own_keepF h.own fun b hb => hc b (own_typF h.own b hb).2.1 (h.off b hb), fun g hg hx => ?_, fun t ht => sl_pos_keepF (h.sl t ht) (fun hp a n c e => ?_), fun t ht hp => ?_⟩
  · rcases hs g hx with h1 | h1
    · exact h.off g hg h1
    · have := (own_typF h.own g hg).2.1; omega
  · obtain ⟨a', n', c', e', hn⟩ := h.so t ht hp
    rw [e] at e'
    cases e'
    have hsl := h.sl t ht
    rw [e] at hsl
    exact hc _ (sl_blockF hsl hp) hn
  · obtain ⟨a, n, c, e, hn⟩ := h.so t ht hp
    refine ⟨a, n, c, e, fun hx => ?_⟩
    have hsl := h.sl t ht
    rw [e] at hsl
    rcases hs _ hx with h1 | h1
    · exact hn h1
    · have := sl_blockF hsl hp; omega

/-- One flat more. -/
theorem FlO.push {S : Nat → Prop} {B : Nat} {W W' : World} {v v' : Value} {T : List FlT} {t : FlT} (h : FlO S B W v T) (hu : Sl 0 3 W t.1 (ints t.2.1)) (hun : 0 < t.2.1.length → ∃ a n c, t.1 = .slice (some a) n c ∧ ¬ S a.block)
    (ho : W'.ownsRow B 68 2 v' (T.length + 1) (T.flatMap encF ++ encF t)) (hg : W.grownBy W' v.ownBlock) (hn : ∀ g, v'.ownBlock = some g → ¬ S g) : FlO S B W' v' (T ++ [t]) := by
  have ht : ∀ k, v.ownBlock = some k → 0 ≤ k ∧ ∀ cur, W.heap[k]? ≠ some (.cells cur 3 (0, 0)) := fun k hk => ⟨Nat.zero_le _, fun cur hx => by
    obtain ⟨_, _, c2, h2⟩ := own_typF h.own k hk
    rw [h2] at hx
    simp at hx⟩
  refine ⟨by simpa using ho, hn, fun x hx => ?_, fun x hx hp => ?_⟩
  · rcases List.mem_append.1 hx with hx | hx
    · exact (h.sl x hx).grown hg ht
    · rw [List.mem_singleton.1 hx]; exact hu.grown hg ht
  · rcases List.mem_append.1 hx with hx | hx
    · exact h.so x hx hp
    · rw [List.mem_singleton.1 hx] at hp ⊢; exact hun hp

theorem FlO.set {S : Nat → Prop} {B b j : Nat} {t : TypeId} {w : World} {v u : Value} {T : List FlT} {cur : Array Value} (h : FlO S B w v T) (hb : b < B) (hR : w.heap[b]? = some (.cells cur t (0, 0))) (ht : t ≠ 3) : FlO S B (w.setCell ⟨b, j, none⟩ u) v T := by
  have hset : ∀ k, k ≠ b → (w.setCell ⟨b, j, none⟩ u).heap[k]? = w.heap[k]? := fun k hk => Below.heap_setCell _ _ _ _ hk
  refine ⟨own_keepF h.own fun k hk => hset k (by have := (own_typF h.own k hk).1; omega), h.off, fun x hx => ?_, h.so⟩
  refine (h.sl x hx).move fun k hl hk => ?_
  rcases hk with hk | ⟨c, hk⟩
  · omega
  · have hne : k ≠ b := by
      rintro rfl
      rw [hR] at hk
      simp at hk
      exact ht hk.2
    exact ⟨hset k hne, Or.inr ⟨c, hk⟩⟩

/-- Between the choices. -/
structure FsI (w WN : World) (N d : Nat) (P done : List (List Int)) (rs : List Nat) (S : Nat → Prop) (pre : List (List Int)) (W : World) : Prop where
  sn : ∀ b, S b → N ≤ b
  kp : Kpt (fun b => b < w.heap.size + 2 ∨ b ∈ rs) WN W
  os : W.os = w.os
  tape : W.tape = w.tape
  output : W.output = w.output
  rv : ∃ v T, W.heap[w.heap.size + 2]? = some (.cells #[v] 65 (0, 0)) ∧ FlO (fun b => S b ∨ b ∈ rs) (w.heap.size + 3) W v T ∧ T.map (fun t => t.2) = flU d P (done ++ pre)

theorem FsI.stab {w WN W W' : World} {N d : Nat} {P done pre : List (List Int)} {rs : List Nat} {S S' : Nat → Prop} (h : FsI w WN N d P done rs S pre W) (h1 : w.heap.size + 3 ≤ N) (h2 : N ≤ WN.heap.size) (h3 : ∀ r ∈ rs, r < N) (hc : Chg S W W') (hs : ∀ b, S' b → S b ∨ W.heap.size ≤ b) : FsI w WN N d P done rs S' pre W' := by
  have h0 := h.kp.size
  obtain ⟨v, T, hb, hf, he⟩ := h.rv
  refine ⟨fun b hb => ?_, h.kp.trans (Kpt.of_chg hc fun i _ hi hsi => ?_), hc.os.trans h.os, hc.tape.trans h.tape, hc.output.trans h.output, v, T, (hc.block _ (by omega) (fun hx => by have := h.sn _ hx; omega)).trans hb, hf.keep (fun b hb hn => hc.block b hb fun hx => hn (.inl hx)) (fun b hb => ?_), he⟩
  · rcases hs b hb with hx | hx
    · exact h.sn b hx
    · omega
  · have := h.sn i hsi
    rcases hi with hi | hi
    · omega
    · have := h3 i hi; omega
  · rcases hb with hb | hb
    · rcases hs b hb with hx | hx
      · exact .inl (.inl hx)
      · exact .inr hx
    · exact .inl (.inr hb)

theorem cells_runF {W : World} {u : Value} {r b : Nat} (hh : W.heap[b]? = some (.cells #[u, .int .i64 (r : Nat)] 68 (0, 0))) : ∀ j x, (encF (u, [], r))[j]? = some x → W.cell? ((⟨b, 0, none⟩ : Addr).add j) = some x := by
  intro j x hj
  have hlt := (List.getElem?_eq_some_iff.1 hj).1
  rcases (show j = 0 ∨ j = 1 by simp [encF] at hlt; omega) with rfl | rfl
  · have e : x = u := by simpa [encF] using hj.symm
    subst e
    show W.cell? ⟨b, 0, none⟩ = _
    unfold World.cell?
    rw [hh]
    rfl
  · have e : x = .int .i64 (r : Nat) := by simpa [encF] using hj.symm
    subst e
    show W.cell? ⟨b, 1, none⟩ = _
    unfold World.cell?
    rw [hh]
    rfl

/-- An append of one flat, as one operation of a drawn region. -/
theorem op_append_F {o : Oper} {a : Act} {w : World} {K : Act → World → Prop} {Q : Exit → Act → World → Prop}
    (s x : Operand) (hop : o.op = Op.call { callee := Callee.builtin Builtin.append, args := #[s, x], argTypes := #[65, 65] })
    (base : Nat) (v : Value) (n : Nat) (xs : List Value) (hs : a.eval s = v) (hown : w.ownsRow base 68 2 v n xs)
    (ad : Addr) (news : List Value) (hx : a.eval x = .slice (some ad) 1 1) (hl : news.length = 2) (hcl : ∀ j u, news[j]? = some u → w.cell? (ad.add j) = some u) (h1c : ∀ u ∈ news, u.oneCell' = true)
    (b1 : n ≤ 1000000) (hb : base ≤ w.heap.size)
    (hK : ∀ v' w', w'.ownsRow base 68 2 v' (n + 1) (xs ++ news) → w.grownBy w' v.ownBlock → (v'.ownBlock = v.ownBlock ∨ v'.ownBlock = some w.heap.size) → K (a.put o.dst v') w') : Oper.wp Tryz.prog o a w K Q := by
  obtain ⟨i, hi, hz0, hz1, hz2⟩ := info_parts Tryz.infoF
  obtain ⟨v', w', hrun, r1, r2, _, r3⟩ := run_append_own_at (P := Tryz.prog) w base 65 o.type 68 i (.agg #[.slice none 0 0, .int .i64 0]) 2 32 (by kernel_rfl) hi hz0 hz1 hz2 rfl (by decide) v n xs hown ad 1 1 news (by omega) hcl h1c (by unfold maxLen; omega) (by omega) hb
  unfold Oper.wp
  simp [execOp, hop, resolve, invoke, builtin, hs, hx, hrun, Result.andThen]
  exact hK v' w' r1 r2 r3

end Go.Proofs.YtgfnmkenpgnllaaGreat
