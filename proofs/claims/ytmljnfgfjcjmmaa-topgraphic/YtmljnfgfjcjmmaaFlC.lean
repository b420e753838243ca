import Derived.Test.YtmljnfgfjcjmmaaFlB
import Derived.Test.YtmljnfgfjcjmmaaWiA
import Derived.Maps.AppendAt
import Derived.Test.YtmljnfgfjcjmmaaSgA
import Derived.Sort.CutIn
/- plane.flats, between the choices: a row of flats that grows. -/
namespace Go.Proofs.Ytmljnfgfjcjmmaa
open Go.RowKit Go.Shelf Lin

theorem own_keepF {B n sz : Nat} {e : TypeId} {w w' : World} {v : Value} {xs : List Value} (h : w.ownsRow B e sz v n xs) (hk : ∀ b, v.ownBlock = some b → w'.heap[b]? = w.heap[b]?) : w'.ownsRow B e sz v n xs := by
  refine ⟨h.1, ?_⟩
  rcases h.2 with h2 | ⟨g, cap, cur, rfl, hb, hh, r⟩
  · exact Or.inl h2
  · exact Or.inr ⟨g, cap, cur, rfl, hb, (hk g rfl).trans hh, r⟩

theorem own_typF {B n sz : Nat} {e : TypeId} {w : World} {v : Value} {xs : List Value} (h : w.ownsRow B e sz v n xs) : ∀ b, v.ownBlock = some b → B ≤ b ∧ b < w.heap.size ∧ ∃ cur, w.heap[b]? = some (.cells cur e (0, 0)) := by
  intro b hb
  rcases h.2 with ⟨h1, _⟩ | ⟨g, cap, cur, rfl, hB, hh, _⟩
  · rw [h1] at hb; simp [Value.ownBlock] at hb
  · simp only [Value.ownBlock, Option.some.injEq] at hb
    subst hb
    exact ⟨hB, (Array.getElem?_eq_some_iff.1 hh).1, cur, hh⟩

theorem sl_pos_keepF {w W : World} {v : Value} {xs : List Int} (h : Sl 0 3 w v (ints xs)) (hk : 0 < xs.length → ∀ a n c, v = .slice (some a) n c → W.heap[a.block]? = w.heap[a.block]?) : Sl 0 3 W v (ints xs) := by
  obtain ⟨ao, cap, rfl, h1, h2, h3, h4⟩ := h
  refine ⟨ao, cap, rfl, h1, h2, fun i hi => ?_, h4⟩
  obtain ⟨b, o, rfl, hc, ht⟩ := h3 i hi
  have he := hk (by simp at hi; omega) _ _ _ rfl
  refine ⟨b, o, rfl, ?_, ?_⟩
  · rw [← hc]
    simp only [World.cell?]
    rw [he]
  · rcases ht with ht | ⟨cur, ht⟩
    · omega
    · exact Or.inr ⟨cur, he.trans ht⟩

theorem sl_blockF {w : World} {a : Addr} {n c : Nat} {xs : List Int} (h : Sl 0 3 w (.slice (some a) n c) (ints xs)) (hp : 0 < xs.length) : a.block < w.heap.size := by
  obtain ⟨ao, cap, he, _, _, h3, _⟩ := h
  obtain ⟨b, o, hb, hc, _⟩ := h3 0 (by simpa using hp)
  simp only [Value.slice.injEq] at he
  rw [← he.1] at hb
  cases hb
  have h5 : w.cell? ⟨b, o + 0, none⟩ = some ((ints xs)[0]'(by simpa using hp)) := by rw [hc]; simp
  exact lt_of_cell h5

/-- A row of flats that lies off the blocks of S. -/
structure FlO (S : Nat → Prop) (B : Nat) (W : World) (v : Value) (T : List FlT) : Prop where
  own : W.ownsRow B 51 2 v T.length (T.flatMap encF)
  off : ∀ g, v.ownBlock = some g → ¬ S g
  sl : ∀ t ∈ T, Sl 0 3 W t.1 (ints t.2.1)
  so : ∀ t ∈ T, 0 < t.2.1.length → ∃ a n c, t.1 = .slice (some a) n c ∧ ¬ S a.block

theorem FlO.keep {S S' : Nat → Prop} {B : Nat} {W W' : World} {v : Value} {T : List FlT} (h : FlO S B W v T) (hc : ∀ b, b < W.heap.size → ¬ S b → W'.heap[b]? = W.heap[b]?) (hs : ∀ b, S' b → S b ∨ W.heap.size ≤ b) : FlO S' B W' v T := by
  refine ⟨own_keepF h.own fun b hb => hc b (own_typF h.own b hb).2.1 (h.off b hb), fun g hg hx => ?_, fun t ht => sl_pos_keepF (h.sl t ht) (fun hp a n c e => ?_), fun t ht hp => ?_⟩
  · rcases hs g hx with h1 | h1
    · exact h.off g hg h1
    · have := (own_typF h.own g hg).2.1; omega
  · obtain ⟨a', n', c', e', hn⟩ := h.so t ht hp
    rw [e] at e'
    cases e'
    have hsl := h.sl t ht
    rw [e] at hsl
    exact hc _ (sl_blockF hsl hp) hn
  · obtain ⟨a, n, c, e, hn⟩ := h.so t ht hp
    refine ⟨a, n, c, e, fun hx => ?_⟩
    have hsl := h.sl t ht
    rw [e] at hsl
    rcases hs _ hx with h1 | h1
    · exact hn h1
    · have := sl_blockF hsl hp; omega

/-- One flat more. -/
theorem FlO.push {S : Nat → Prop} {B : Nat} {W W' : World} {v v' : Value} {T : List FlT} {t : FlT} (h : FlO S B W v T) (hu : Sl 0 3 W t.1 (ints t.2.1)) (hun : 0 < t.2.1.length → ∃ a n c, t.1 = .slice (some a) n c ∧ ¬ S a.block)
    (ho : W'.ownsRow B 51 2 v' (T.length + 1) (T.flatMap encF ++ encF t)) (hg : W.grownBy W' v.ownBlock) (hn : ∀ g, v'.ownBlock = some g → ¬ S g) : FlO S B W' v' (T ++ [t]) := by
  have ht : ∀ k, v.ownBlock = some k → 0 ≤ k ∧ ∀ cur, W.heap[k]? ≠ some (.cells cur 3 (0, 0)) := fun k hk => ⟨Nat.zero_le _, fun cur hx => by
    obtain ⟨_, _, c2, h2⟩ := own_typF h.own k hk
    rw [h2] at hx
    simp at hx⟩
  refine ⟨by simpa using ho, hn, fun x hx => ?_, fun x hx hp => ?_⟩
  · rcases List.mem_append.1 hx with hx | hx
    · exact (h.sl x hx).grown hg ht
    · rw [List.mem_singleton.1 hx]; exact hu.grown hg ht
  · rcases List.mem_append.1 hx with hx | hx
    · exact h.so x hx hp
    · rw [List.mem_singleton.1 hx] at hp ⊢; exact hun hp

theorem FlO.set {S : Nat → Prop} {B b j : Nat} {t : TypeId} {w : World} {v u : Value} {T : List FlT} {cur : Array Value} (h : FlO S B w v T) (hb : b < B) (hR : w.heap[b]? = some (.cells cur t (0, 0))) (ht : t ≠ 3) : FlO S B (w.setCell ⟨b, j, none⟩ u) v T := by
  have hset : ∀ k, k ≠ b → (w.setCell ⟨b, j, none⟩ u).heap[k]? = w.heap[k]? := fun k hk => Below.heap_setCell _ _ _ _ hk
  refine ⟨own_keepF h.own fun k hk => hset k (by have := (own_typF h.own k hk).1; omega), h.off, fun x hx => ?_, h.so⟩
  refine (h.sl x hx).move fun k hl hk => ?_
  rcases hk with hk | ⟨c, hk⟩
  · omega
  · have hne : k ≠ b := by
      rintro rfl
      rw [hR] at hk
      simp at hk
      exact ht hk.2
    exact ⟨hset k hne, Or.inr ⟨c, hk⟩⟩

/-- Between the choices. -/
structure FsI (w WN : World) (N d : Nat) (P done : List (List Int)) (rs : List Nat) (S : Nat → Prop) (pre : List (List Int)) (W : World) : Prop where
  sn : ∀ b, S b → N ≤ b
  kp : Kpt (fun b => b < w.heap.size + 2 ∨ b ∈ rs) WN W
  os : W.os = w.os
  tape : W.tape = w.tape
  output : W.output = w.output
  rv : ∃ v T, W.heap[w.heap.size + 2]? = some (.cells #[v] 44 (0, 0)) ∧ FlO (fun b => S b ∨ b ∈ rs) (w.heap.size + 3) W v T ∧ T.map (fun t => t.2) = flU d P (done ++ pre)

theorem FsI.stab {w WN W W' : World} {N d : Nat} {P done pre : List (List Int)} {rs : List Nat} {S S' : Nat → Prop} (h : FsI w WN N d P done rs S pre W) (h1 : w.heap.size + 3 ≤ N) (h2 : N ≤ WN.heap.size) (h3 : ∀ r ∈ rs, r < N) (hc : Chg S W W') (hs : ∀ b, S' b → S b ∨ W.heap.size ≤ b) : FsI w WN N d P done rs S' pre W' := by
  have h0 := h.kp.size
  obtain ⟨v, T, hb, hf, he⟩ := h.rv
  refine ⟨fun b hb => ?_, h.kp.trans (Kpt.of_chg hc fun i _ hi hsi => ?_), hc.os.trans h.os, hc.tape.trans h.tape, hc.output.trans h.output, v, T, (hc.block _ (by omega) (fun hx => by have := h.sn _ hx; omega)).trans hb, hf.keep (fun b hb hn => hc.block b hb fun hx => hn (.inl hx)) (fun b hb => ?_), he⟩
  · rcases hs b hb with hx | hx
    · exact h.sn b hx
    · omega
  · have := h.sn i hsi
    rcases hi with hi | hi
    · omega
    · have := h3 i hi; omega
  · rcases hb with hb | hb
    · rcases hs b hb with hx | hx
      · exact .inl (.inl hx)
      · exact .inr hx
    · exact .inl (.inr hb)

theorem cells_runF {W : World} {u : Value} {r b : Nat} (hh : W.heap[b]? = some (.cells #[u, .int .i64 (r : Nat)] 51 (0, 0))) : ∀ j x, (encF (u, [], r))[j]? = some x → W.cell? ((⟨b, 0, none⟩ : Addr).add j) = some x := by
  intro j x hj
  have hlt := (List.getElem?_eq_some_iff.1 hj).1
  rcases (show j = 0 ∨ j = 1 by simp [encF] at hlt; omega) with rfl | rfl
  · have e : x = u := by simpa [encF] using hj.symm
    subst e
    show W.cell? ⟨b, 0, none⟩ = _
    unfold World.cell?
    rw [hh]
    rfl
  · have e : x = .int .i64 (r : Nat) := by simpa [encF] using hj.symm
    subst e
    show W.cell? ⟨b, 1, none⟩ = _
    unfold World.cell?
    rw [hh]
    rfl

/-- An append of one flat, as one operation of a drawn region. -/
theorem op_append_F {o : Oper} {a : Act} {w : World} {K : Act → World → Prop} {Q : Exit → Act → World → Prop}
    (s x : Operand) (hop : o.op = Op.call { callee := Callee.builtin Builtin.append, args := #[s, x], argTypes := #[44, 44] })
    (base : Nat) (v : Value) (n : Nat) (xs : List Value) (hs : a.eval s = v) (hown : w.ownsRow base 51 2 v n xs)
    (ad : Addr) (news : List Value) (hx : a.eval x = .slice (some ad) 1 1) (hl : news.length = 2) (hcl : ∀ j u, news[j]? = some u → w.cell? (ad.add j) = some u) (h1c : ∀ u ∈ news, u.oneCell' = true)
    (b1 : n ≤ 1000000) (hb : base ≤ w.heap.size)
    (hK : ∀ v' w', w'.ownsRow base 51 2 v' (n + 1) (xs ++ news) → w.grownBy w' v.ownBlock → (v'.ownBlock = v.ownBlock ∨ v'.ownBlock = some w.heap.size) → K (a.put o.dst v') w') : Oper.wp Try.prog o a w K Q := by
  obtain ⟨i, hi, hz0, hz1, hz2⟩ := info_parts Try.infoF
  obtain ⟨v', w', hrun, r1, r2, _, r3⟩ := run_append_own_at (P := Try.prog) w base 44 o.type 51 i (.agg #[.slice none 0 0, .int .i64 0]) 2 32 (by kernel_rfl) hi hz0 hz1 hz2 rfl (by decide) v n xs hown ad 1 1 news (by omega) hcl h1c (by unfold maxLen; omega) (by omega) hb
  unfold Oper.wp
  simp [execOp, hop, resolve, invoke, builtin, hs, hx, hrun, Result.andThen]
  exact hK v' w' r1 r2 r3

end Go.Proofs.Ytmljnfgfjcjmmaa

/- plane.flats. -/
namespace Go.Proofs.Ytmljnfgfjcjmmaa
open Go.RowKit Go.Shelf Lin
attribute [local go_sem] Oper.semAt_some

def extT (n k : Nat) : List (List Int) := (List.range k).flatMap fun q => ext n q 0

theorem extT_succ (n k : Nat) : extT n (k + 1) = extT n k ++ ext n k 0 := by simp [extT, List.range_succ]

/-- Between the rounds. -/
structure FoI (w : World) (d : Nat) (P : List (List Int)) (v : Value) (k : Nat) (rs : List Nat) (W : World) : Prop where
  low : ∀ b, b < w.heap.size → W.heap[b]? = w.heap[b]?
  b0 : W.heap[w.heap.size]? = some (.cells #[.int .i64 d] 3 (0, 0))
  b1 : W.heap[w.heap.size + 1]? = some (.cells #[v] 26 (0, 0))
  os : W.os = w.os
  tape : W.tape = w.tape
  output : W.output = w.output
  size : w.heap.size + 3 ≤ W.heap.size
  nd : rs.Nodup
  mark : ∀ r ∈ rs, W.heap[r]? = some (.deferred (some []))
  rlo : ∀ r ∈ rs, w.heap.size + 3 ≤ r
  rv : ∃ u T, W.heap[w.heap.size + 2]? = some (.cells #[u] 44 (0, 0)) ∧ FlO (fun b => b ∈ rs) (w.heap.size + 3) W u T ∧ T.map (fun t => t.2) = flU d P (extT P.length k)

theorem slice_formF {B n sz : Nat} {e : TypeId} {w : World} {v : Value} {xs : List Value} (h : w.ownsRow B e sz v n xs) : ∃ vo vn vc, v = .slice vo vn vc := by
  rcases h.2 with ⟨h1, _⟩ | ⟨g, cap, cur, h1, _⟩
  · exact ⟨_, _, _, h1⟩
  · exact ⟨_, _, _, h1⟩

theorem mat_keepF {B : Nat} {w W : World} {v : Value} {m : List (List Int)} (h : Mat B 22 3 w v m) (hk : ∀ b, b < w.heap.size → W.heap[b]? = w.heap[b]?) : Mat B 22 3 W v m := by
  obtain ⟨vs, h1, h2, h3⟩ := h
  exact ⟨vs, h1, h2.move fun b hb ht => ⟨hk b hb, ht⟩, fun i hi => (h3 i hi).move fun b hb ht => ⟨hk b hb, ht⟩⟩

/-- No later flat is ahead of one. -/
def FlA (m : List (List Int × Nat)) : Prop := ∀ i j, i < j → j < m.length → ¬ fcf (m.getD j ([], 0)) (m.getD i ([], 0)) < 0

set_option maxRecDepth 100000 in
set_option maxHeartbeats 8000000 in
theorem flatsO_any (d : Nat) (P : List (List Int)) (v : Value) (w : World) (hd1 : 1 ≤ d) (hd3 : d ≤ 3) (hG : ∀ p ∈ P, p.length = d + 1 ∧ ∀ z ∈ p, z.natAbs ≤ 20) (hne : flB d P 0 = true) (h5 : P.length ≤ 6) (hv : Mat 0 22 3 w v P) :
    Calls Try.prog 16 #[.int .i64 d, v] w fun e w' => ∃ uo uc T, e = .returned (.slice uo T.length uc) ∧ FlR (w.heap.size + 3) w' (.slice uo T.length uc) T ∧ (FlS d P (T.map fun t => t.2) ∧ FlA (T.map fun t => t.2)) ∧ Below w.heap.size w w' := by
  obtain ⟨vo, vc, rfl, _, _⟩ := mat_open hv
  have HV : Hid (Mat 0 22 3 w (.slice vo P.length vc) P) := hv
  have HGG : Hid (∀ p ∈ P, p.length = d + 1 ∧ ∀ z ∈ p, z.natAbs ≤ 20) := hG
  obtain ⟨W3, hW3⟩ : ∃ W3, W3 = ((w.alloc (.cells #[.int .i64 d] 3)).alloc (.cells #[.slice vo P.length vc] 26)).alloc (.cells #[.slice none 0 0] 44) := ⟨_, rfl⟩
  have hb3 : Below w.heap.size w W3 := by rw [hW3]; exact (((Below.refl _ _).alloc (Nat.le_refl _) _).alloc (by simp) _).alloc (by simp; omega) _
  have hs3 : W3.heap.size = w.heap.size + 3 := by rw [hW3]; simp
  have n1 : W3.heap[w.heap.size]? = some (.cells #[.int .i64 d] 3 (0, 0)) := by
    rw [hW3]
    exact (Below.heap_alloc _ _ _ (by simp; omega)).trans ((Below.heap_alloc _ _ _ (by simp)).trans (heap_alloc_new _ _))
  have n2 : W3.heap[w.heap.size + 1]? = some (.cells #[.slice vo P.length vc] 26 (0, 0)) := by
    rw [hW3]
    refine (Below.heap_alloc _ _ _ (by simp)).trans ?_
    have := heap_alloc_new (w.alloc (.cells #[.int .i64 d] 3)) (.cells #[.slice vo P.length vc] 26)
    simpa using this
  have n3 : W3.heap[w.heap.size + 2]? = some (.cells #[.slice none 0 0] 44 (0, 0)) := by
    rw [hW3]
    have := heap_alloc_new ((w.alloc (.cells #[.int .i64 d] 3)).alloc (.cells #[.slice vo P.length vc] 26)) (.cells #[.slice none 0 0] 44)
    simpa using this
  have HI0 : Hid (FoI w d P (.slice vo P.length vc) 0 [] W3) := ⟨fun b hb => hb3.block b hb, n1, n2, hb3.os, hb3.tape, hb3.output, by omega, List.nodup_nil, fun r hr => absurd hr (by simp), fun r hr => absurd hr (by simp), .slice none 0 0, [], n3, ⟨World.ownsRow_nil _ _ _ _, fun g hg => by simp [Value.ownBlock] at hg, fun t ht => absurd ht (by simp), fun t ht => absurd ht (by simp)⟩, by simp [extT, flU]⟩
  have c1 : W3.cell? ⟨w.heap.size + 1, 0, none⟩ = some (.slice vo P.length vc) := cell_of n2
  have HW3 : Hid (W3 = ((w.alloc (.cells #[.int .i64 d] 3)).alloc (.cells #[.slice vo P.length vc] 26)).alloc (.cells #[.slice none 0 0] 44)) := hW3
  have HNE : Hid (flB d P 0 = true) := hne
  clear hv hG hb3 n1 n2 n3 hs3 hne hW3
  refine callsIn_wide (n := 0).1 ?_
  refine callsIn_of_wp_marks Try.func16 rfl trivial ?_ rfl
  simp only [Try.ntmps16, List.size_toArray, List.length_cons, List.length_nil, Nat.reduceAdd, Nat.reduceSub, Array.replicate_succ, Array.replicate_zero, List.push_toArray, List.append_toArray, List.nil_append, List.cons_append]
  gi_upto_region 2 with fail
  rw [← HW3.out]
  gi_wp2
  clear c1 HW3
  refine wpIn_loop (fun a' wr => ∃ (k : Nat) (rs : List Nat) (u6 u7 u12 u13 u14 u15 u16 u17 u33 : Value), k ≤ P.length + 1 ∧ FoI w d P (.slice vo P.length vc) k rs wr ∧
    a' = { tmps := #[.int .i64 d, .slice vo P.length vc, .pointer (some ⟨w.heap.size, 0, none⟩), .pointer (some ⟨w.heap.size + 1, 0, none⟩), .slice none 0 0, .pointer (some ⟨w.heap.size + 1 + 1, 0, none⟩), u6, u7, .slice vo P.length vc, .int .i64 P.length, .int .i64 ((P.length : Int) + 1), .int .i64 k, u12, u13, u14, u15, u16, u17, undef, undef, undef, undef, undef, undef, undef, undef, undef, undef, undef, undef, undef, undef, undef, u33, undef, undef, undef], defers := mks rs }) (fun a' _ => P.length + 1 - (intOf (a'.tmps.getD 11 undef)).toNat) ?_ ?_
  · exact ⟨0, [], _, _, _, _, _, _, _, _, _, Nat.zero_le _, HI0.out, rfl⟩
  · rintro _ wr ⟨k, rs, u6, u7, u12, u13, u14, u15, u16, u17, u33, hk, hI, rfl⟩
    have HI : Hid (FoI w d P (.slice vo P.length vc) k rs wr) := hI
    have c1 : wr.cell? ⟨w.heap.size + 1, 0, none⟩ = some (.slice vo P.length vc) := cell_of hI.b1
    have hsz := hI.size
    clear hI
    by_cases hlt : k < P.length + 1
    · have hkI : (k : Int) < (P.length : Int) + 1 := by omega
      gi_wp2_with (refine ⟨trivial, rfl, ?_⟩; gi_at_call 23; refine (callsIn_wide.2 (of_any _ _ _)).mono ?_; rintro e w' ⟨rfl, rfl⟩)
      obtain ⟨WN, hWN⟩ : ∃ WN, WN = (wr.alloc (.cells #[.int .i64 P.length] 3)).alloc (.cells #[.int .i64 k] 3) := ⟨_, rfl⟩
      rw [← hWN]
      have hsN : WN.heap.size = wr.heap.size + 2 := by rw [hWN]; simp
      have hbN : Below wr.heap.size wr WN := by rw [hWN]; exact ((Below.refl _ _).alloc (Nat.le_refl _) _).alloc (by simp) _
      have m1 : WN.heap[wr.heap.size]? = some (.cells #[.int .i64 P.length] 3 (0, 0)) := by
        rw [hWN]
        exact (Below.heap_alloc _ _ _ (by simp)).trans (heap_alloc_new _ _)
      have m2 : WN.heap[wr.heap.size + 1]? = some (.cells #[.int .i64 k] 3 (0, 0)) := by
        rw [hWN]
        have := heap_alloc_new (wr.alloc (.cells #[.int .i64 P.length] 3)) (.cells #[.int .i64 k] 3)
        simpa using this
      clear hWN
      have HSQ := of_seqC P.length k (wr.heap.size + 1) wr.heap.size WN (by omega) (by omega) (cell_of m2) (cell_of m1)
      have hIr := HI.out
      have hIsz := hIr.size
      have HN0 : Hid (WN.heap[w.heap.size]? = some (.cells #[.int .i64 d] 3 (0, 0))) := (hbN.block _ (by omega)).trans hIr.b0
      have HN1 : Hid (WN.heap[w.heap.size + 1]? = some (.cells #[.slice vo P.length vc] 26 (0, 0))) := (hbN.block _ (by omega)).trans hIr.b1
      have HLO : Hid (∀ b, b < w.heap.size → WN.heap[b]? = w.heap[b]?) := fun b hb => (hbN.block b (by omega)).trans (hIr.low b hb)
      have HI1 : Hid (FsI w WN wr.heap.size d P (extT P.length k) rs (fun b => b = wr.heap.size + 1 ∨ b = wr.heap.size) [] WN) := by
        obtain ⟨u, T, r1, r2, r3⟩ := hIr.rv
        exact ⟨fun b hb => by omega, Kpt.refl _ _, hbN.os.trans hIr.os, hbN.tape.trans hIr.tape, hbN.output.trans hIr.output, u, T, (hbN.block _ (by omega)).trans r1, r2.keep (fun b hb _ => hbN.block b hb) (fun b hb => hb.elim (fun h => .inr (by omega)) .inl), by rw [List.append_nil]; exact r3⟩
      have HSZ : Hid (WN.heap.size = wr.heap.size + 2) := hsN
      have HRL : Hid (∀ r ∈ rs, r < wr.heap.size) := fun r hr => (Array.getElem?_eq_some_iff.1 (hIr.mark r hr)).1
      have HBN : Hid (∀ b, b < wr.heap.size → WN.heap[b]? = wr.heap[b]?) := fun b hb => hbN.block b hb
      have HOS : Hid (WN.os = w.os ∧ WN.tape = w.tape ∧ WN.output = w.output) := ⟨hbN.os.trans hIr.os, hbN.tape.trans hIr.tape, hbN.output.trans hIr.output⟩
      have HLE : Hid ((extT P.length k).length + (ext P.length k 0).length ≤ 100000) := by
        show _ ≤ _
        have h1 : extT P.length (k + 1) <+: extA P.length := by
          unfold extA extT
          have h2 : List.range (k + 1) <+: List.range (P.length + 1) := by
            refine ⟨(List.range (P.length + 1)).drop (k + 1), ?_⟩
            have : List.range (k + 1) = (List.range (P.length + 1)).take (k + 1) := by
              rw [List.take_range]
              congr 1
              omega
            rw [this, List.take_append_drop]
          obtain ⟨r, hr⟩ := h2
          exact ⟨r.flatMap fun q => ext P.length q 0, by rw [← List.flatMap_append, hr]⟩
        have h3 := h1.length_le
        have h4 : (extA P.length).length ≤ 64 := by
          have : ∀ n, n ≤ 6 → (extA n).length ≤ 64 := by decide
          exact this _ h5
        rw [extT_succ, List.length_append] at h3
        omega
      have hle1 : wr.heap.size + 2 ≤ WN.heap.size := by omega
      have hk5 : k ≤ P.length := by omega
      clear m1 m2 hbN c1 hsN hIr
      refine range_f (R := HandC WN.heap.size) (cs := ext P.length k 0) (T := fun _ => False) (S0 := fun b => b = wr.heap.size + 1 ∨ b = wr.heap.size) (gf := 39) (lb := #[.pointer (some ⟨wr.heap.size + 1, 0, none⟩), .pointer (some ⟨wr.heap.size, 0, none⟩)]) rfl (enters_of Try.func39 (by kernel_rfl) rfl) HSQ (fun b hb => by omega)
        (fun W0 W' S x vs ⟨v, h1, _⟩ => by rw [h1]; rfl) (handC_below _) (handC_put _)
        (fun S pre W' => FsI w WN wr.heap.size d P (extT P.length k) rs S pre W')
        (fun c S pre W' => False)
        (fun S S' pre W' W'' h hc hs => h.stab hIsz (by have := HSZ.out; omega) HRL.out hc hs) (fun c S S' pre W' W'' h hc hs => h) HI1.out
        (fun vs a' W' => ∃ v, vs = #[v] ∧ a' = { tmps := #[.int .i64 d, .slice vo P.length vc, .pointer (some ⟨w.heap.size, 0, none⟩), .pointer (some ⟨w.heap.size + 1, 0, none⟩), .slice none 0 0, .pointer (some ⟨w.heap.size + 1 + 1, 0, none⟩), .int .i64 k, v, .slice vo P.length vc, .int .i64 P.length, .int .i64 ((P.length : Int) + 1), .int .i64 k, .bool true, .int .i64 k, .slice vo P.length vc, .int .i64 P.length, .int .i64 k, .func (.func 39) #[] #[.pointer (some ⟨wr.heap.size + 1, 0, none⟩), .pointer (some ⟨wr.heap.size, 0, none⟩)], v, undef, undef, undef, undef, undef, undef, undef, undef, undef, undef, undef, undef, undef, undef, u33, undef, undef, undef], defers := [] })
        (fun vs a' W' l r o h _ => h) ?assign ?body (fun h => h) ?done ?stop
      case assign =>
        rintro S x vs W0 W' K ⟨v, rfl, h2⟩ hK
        gi_wp2
        exact hK _ _ (Below.refl _ _) ⟨v, rfl, rfl⟩
      case stop =>
        rintro c S pre W' hpre h
        exact h.elim
      case body =>
        rintro S pre c vs a' W1 hi hSD hSL hlt1 hdf hlp hpre ⟨S1, W0, hi0, ⟨cv, hvs, hown, hS0, hN0, hWW, hkc⟩, hS1⟩ ⟨v', hvs', rfl⟩
        have hvv : cv = v' := by rw [hvs] at hvs'; simpa using hvs'
        subst hvv
        have hcm' : c ∈ ext P.length k 0 := hpre.subset (by simp)
        have HCA : Hid (c ∈ extA P.length) := ext_extA hk5 hcm'
        have hsz := HSZ.out
        have hws := hi.kp.size
        have e0 : W1.heap[w.heap.size]? = some (.cells #[.int .i64 d] 3 (0, 0)) := (hi.kp.block _ (by omega) (.inl (by omega))).trans HN0.out
        have e1 : W1.heap[w.heap.size + 1]? = some (.cells #[.slice vo P.length vc] 26 (0, 0)) := (hi.kp.block _ (by omega) (.inl (by omega))).trans HN1.out
        have hlow : ∀ b, b < w.heap.size → W1.heap[b]? = w.heap[b]? := fun b hb => (hi.kp.block b (by omega) (.inl (by omega))).trans (HLO.out b hb)
        obtain ⟨rv, T, hrv, hfo, hTe⟩ := hi.rv
        have HSB : Hid (∀ b, S b → b < W1.heap.size) := fun b hx => by
          rcases (hS1 _).1 hx with hx | hx | hx
          · have := hS0 _ hx; omega
          · omega
          · omega
        have hcvb : ∀ g, cv.ownBlock = some g → ¬ (S g ∨ g ∈ rs) := fun g hg hx => by
          obtain ⟨q1, q2, cur, q3⟩ := own_typF hown g hg
          rcases hx with hx | hx
          rotate_left
          · have := HRL.out g hx; omega
          rcases (hS1 _).1 hx with hx | hx | hx
          · have := hS0 _ hx; omega
          · rw [hx, hdf] at q3; cases q3
          · obtain ⟨rr, hlp'⟩ := hlp
            rw [hx, hlp'] at q3; cases q3
        have HCV : Hid (Sl 0 3 W1 cv (ints c)) := Sl.own hown
        have HCB : Hid (0 < c.length → ∃ a n k, cv = .slice (some a) n k ∧ ¬ (S a.block ∨ a.block ∈ rs)) := fun hp => by
          rcases hown.2 with ⟨_, h2⟩ | ⟨g, cap, cur, h1, _⟩
          · omega
          · exact ⟨⟨g, 0, none⟩, _, _, h1, hcvb g (by rw [h1]; rfl)⟩
        obtain ⟨co, cc, hcf⟩ := owns_form hown
        subst hcf
        have HMP : Hid (Mat 0 22 3 W1 (.slice vo P.length vc) P) := mat_keepF HV.out hlow
        have HIF : Hid (Calls Try.prog 24 #[.int .i64 d, .slice vo P.length vc, .slice co c.length cc] W1 fun e w' => e = .returned (.bool (flB d P (setN c))) ∧ Below W1.heap.size W1 w') := isFlat_any d P c _ _ W1 hd1 hd3 HGG.out (by omega) HCA.out HMP.out HCV.out
        have HIS : Hid (∀ w7, Below W1.heap.size W1 w7 → FsI w WN wr.heap.size d P (extT P.length k) rs S pre w7) := fun w7 hb => hi.stab hIsz (by omega) HRL.out (Chg.of_below hb (Nat.le_refl _)) (fun b hb => .inl hb)
        have HFU : Hid (flU d P (extT P.length k ++ (pre ++ [c])) = flU d P (extT P.length k ++ pre) ++ if flB d P (setN c) then [(c, rk d (pks P [] c))] else []) := by
          show _ = _
          rw [← List.append_assoc, flU_app, flU_one]
        have hcw0 : W1.cell? ⟨w.heap.size, 0, none⟩ = some (.int .i64 d) := cell_of e0
        have hcw1 : W1.cell? ⟨w.heap.size + 1, 0, none⟩ = some (.slice vo P.length vc) := cell_of e1
        have HTL : Hid (T.length ≤ 1000000) := by
          show _ ≤ _
          have h1 : T.length = (flU d P (extT P.length k ++ pre)).length := by rw [← hTe, List.length_map]
          have h2 := flU_len d P (extT P.length k ++ pre)
          have h3 := hpre.length_le
          have h4 := HLE.out
          simp only [List.length_append, List.length_cons, List.length_nil] at h2 h3
          omega
        have hrl : ∀ i, i < c.length → 0 ≤ c.getD i 0 ∧ c.getD i 0 < P.length := fun i hi => ((xt_all (by omega)).1 c HCA.out).2.2 _ (by simp [hi])
        have hc6 : c.length ≤ 6 := by
          have h1 := ((xt_all (n := P.length) (by omega)).1 c HCA.out).2.1
          rw [h1]
          unfold memL
          rw [List.length_map]
          exact Nat.le_trans (List.length_filter_le _ _) (by simp; omega)
        have HPK : Hid (∀ X, Below W1.heap.size W1 X → Calls Try.prog 26 #[.slice vo P.length vc, .slice co c.length cc] X fun e' w' => ∃ zo zc, e' = .returned (.slice zo c.length zc) ∧ Mat w'.heap.size 22 3 w' (.slice zo c.length zc) (pks P [] c) ∧ Below W1.heap.size W1 w') := fun X hX => by
          refine (pickedK_any 0 P c _ _ X (HMP.out.below hX (Nat.le_refl _)) (HCV.out.below hX (Nat.le_refl _)) hrl (by omega)).mono ?_
          rintro e' w' ⟨z, rfl, hz, hb⟩
          have hM := hz.mat (B' := w'.heap.size) hb.size
          obtain ⟨zo, zc, rfl, _, _⟩ := mat_open hM
          rw [show (pks P [] c).length = c.length by simp [pks]] at hM ⊢
          exact ⟨zo, zc, rfl, hM, hX.trans (hb.mono hX.size)⟩
        have HRK : Hid (∀ zo zc X, Below W1.heap.size W1 X → Mat X.heap.size 22 3 X (.slice zo c.length zc) (pks P [] c) → Calls Try.prog 25 #[.slice zo c.length zc, .int .i64 (d : Int)] X fun e w' => e = .returned (.int .i64 (rk d (pks P [] c) : Nat)) ∧ Below W1.heap.size W1 w') := fun zo zc X hX hm => by
          refine (rankW_any X.heap.size (d + 1) d (pks P [] c) _ X (by omega) hd1 (mx_few hd1 hd3 (fun p hp => ?_)) hm (by simp [pks]; omega)).mono ?_
          · obtain ⟨z, hz, rfl⟩ := List.mem_map.1 hp
            have hz2 := ((xt_all (n := P.length) (by omega)).1 c HCA.out).2.2 z hz
            exact HGG.out _ (getD_memR (by omega))
          · rintro e' w' ⟨rfl, hb⟩
            exact ⟨rfl, hX.trans (hb.mono hX.size)⟩
        have HCL : Hid (∀ X, Below W1.heap.size W1 X → X.cell? ⟨w.heap.size, 0, none⟩ = some (.int .i64 d) ∧ X.cell? ⟨w.heap.size + 1, 0, none⟩ = some (.slice vo P.length vc)) := fun X hX => ⟨cell_of ((hX.block _ (by omega)).trans e0), cell_of ((hX.block _ (by omega)).trans e1)⟩
        have HCR : Hid (∀ X, Below W1.heap.size W1 X → X.cell? ⟨w.heap.size + 1 + 1, 0, none⟩ = some rv) := fun X hX => cell_of ((hX.block (w.heap.size + 2) (by omega)).trans hrv)
        have HFR : Hid (FlO (fun b => S b ∨ b ∈ rs) (w.heap.size + 3) W1 rv T) := hfo
        have HRV : Hid (W1.heap[w.heap.size + 2]? = some (.cells #[rv] 44 (0, 0))) := hrv
        have HTE : Hid (T.map (fun t => t.2) = flU d P (extT P.length k ++ pre)) := hTe
        have HOC : Hid (∀ u ∈ encF (.slice co c.length cc, [], rk d (pks P [] c)), u.oneCell' = true) := by
          intro u hu
          simp only [encF, List.mem_cons, List.not_mem_nil, or_false] at hu
          rcases hu with rfl | rfl <;> rfl
        have HSN : Hid (∀ b, S b → wr.heap.size ≤ b) := hi.sn
        have HW3 : Hid (w.heap.size + 3 ≤ W1.heap.size) := by show _ ≤ _; omega
        have HLL : Hid (wr.heap.size ≤ W1.heap.size) := by show _ ≤ _; omega
        have HBA : Hid (∀ X, Below W1.heap.size W1 X → Below W1.heap.size W1 (X.alloc (.cells #[.slice co c.length cc, .int .i64 (rk d (pks P [] c) : Nat)] 51))) := fun X hX => hX.alloc hX.size _
        gi_wp2_with fail
        refine ⟨trivial, rfl, ?_⟩
        gi_at_call 24
        refine (CallsIn.inRound _ (callsIn_wide.2 HIF.out)).mono ?_
        rintro e' w6 ⟨rfl, hb6⟩
        have HB6 : Hid (Below W1.heap.size W1 w6) := hb6
        have HI6 : Hid (FsI w WN wr.heap.size d P (extT P.length k) rs S pre w6) := HIS.out w6 hb6
        clear hi hi0 hpre hown hS0 hN0 hWW hkc hS1 hcm' hdf hlp hvs hvs' hlow hsz hws e0 e1 HSQ hrv hfo hTe hcvb HIF hcw0 hcw1 hb6 hrl hSD hSL
        cases hfl : flB d P (setN c)
        · have HF : Hid (Kpt (fun b => S b ∨ False) W1 w6 ∧ FsI w WN wr.heap.size d P (extT P.length k) rs S (pre ++ [c]) w6) := by
            refine ⟨Kpt.of_below HB6.out (Nat.le_refl _), ?_⟩
            have h := HI6.out
            refine ⟨h.sn, h.kp, h.os, h.tape, h.output, ?_⟩
            rw [HFU.out, hfl]
            simpa using h.rv
          clear HFU HIS HCV HCB HI6 HPK HRK HCL HCR HFR HRV HTE HOC HBA
          gi_wp2
          exact HF.out
        · have HFU2 : Hid (flU d P (extT P.length k ++ (pre ++ [c])) = flU d P (extT P.length k ++ pre) ++ [(c, rk d (pks P [] c))]) := by
            show _ = _
            rw [HFU.out, hfl]; rfl
          have HFF : Hid (∀ w8, Below W1.heap.size W1 w8 → (w8.alloc (.cells #[.slice co c.length cc, .int .i64 (rk d (pks P [] c) : Nat)] 51)).ownsRow (w.heap.size + 3) 51 2 rv T.length (T.flatMap encF) ∧
              (∀ j u, (encF (.slice co c.length cc, [], rk d (pks P [] c)))[j]? = some u → (w8.alloc (.cells #[.slice co c.length cc, .int .i64 (rk d (pks P [] c) : Nat)] 51)).cell? ((⟨w8.heap.size, 0, none⟩ : Addr).add j) = some u) ∧
              w.heap.size + 3 ≤ (w8.alloc (.cells #[.slice co c.length cc, .int .i64 (rk d (pks P [] c) : Nat)] 51)).heap.size ∧
              ∀ v' w10, w10.ownsRow (w.heap.size + 3) 51 2 v' (T.length + 1) (T.flatMap encF ++ encF (.slice co c.length cc, [], rk d (pks P [] c))) → (w8.alloc (.cells #[.slice co c.length cc, .int .i64 (rk d (pks P [] c) : Nat)] 51)).grownBy w10 rv.ownBlock → (v'.ownBlock = rv.ownBlock ∨ v'.ownBlock = some (w8.alloc (.cells #[.slice co c.length cc, .int .i64 (rk d (pks P [] c) : Nat)] 51)).heap.size) →
                w10.cell? ⟨w.heap.size + 1 + 1, 0, none⟩ = some rv ∧ w10.frozen? ⟨w.heap.size + 1 + 1, 0, none⟩ = false ∧ (w10.cell? ⟨w.heap.size, 0, none⟩ = some (.int .i64 d) ∧ w10.cell? ⟨w.heap.size + 1, 0, none⟩ = some (.slice vo P.length vc)) ∧ ((w10.setCell ⟨w.heap.size + 1 + 1, 0, none⟩ v').cell? ⟨w.heap.size, 0, none⟩ = some (.int .i64 d) ∧ (w10.setCell ⟨w.heap.size + 1 + 1, 0, none⟩ v').cell? ⟨w.heap.size + 1, 0, none⟩ = some (.slice vo P.length vc)) ∧
                Kpt (fun b => S b ∨ False) W1 (w10.setCell ⟨w.heap.size + 2, 0, none⟩ v') ∧ FsI w WN wr.heap.size d P (extT P.length k) rs S (pre ++ [c]) (w10.setCell ⟨w.heap.size + 2, 0, none⟩ v')) := fun w8 hb8 => by
            obtain ⟨X, hX⟩ : ∃ X, X = w8.alloc (.cells #[.slice co c.length cc, .int .i64 (rk d (pks P [] c) : Nat)] 51) := ⟨_, rfl⟩
            have hbX : Below W1.heap.size W1 X := by rw [hX]; exact HBA.out w8 hb8
            have hhX : X.heap[w8.heap.size]? = some (.cells #[.slice co c.length cc, .int .i64 (rk d (pks P [] c) : Nat)] 51 (0, 0)) := by rw [hX]; exact heap_alloc_new _ _
            rw [← hX]
            have hfX : FlO (fun b => S b ∨ b ∈ rs) (w.heap.size + 3) X rv T := HFR.out.keep (fun b hb _ => hbX.block b hb) (fun b hb => .inl hb)
            have hszX := hbX.size
            have hw3 := HW3.out
            refine ⟨hfX.own, cells_runF hhX, by omega, fun v' w10 ho hg hat => ?_⟩
            have hrB : ∀ g, rv.ownBlock = some g → w.heap.size + 3 ≤ g := fun g hg1 => (own_typF HFR.out.own g hg1).1
            have hblk : ∀ b, b < W1.heap.size → (∀ g, rv.ownBlock = some g → b ≠ g) → w10.heap[b]? = W1.heap[b]? := fun b hb1 hne =>
              (hg.block b (by omega) (fun e => hne b e.symm rfl)).trans (hbX.block b hb1)
            have h8 : w10.heap[w.heap.size + 2]? = some (.cells #[rv] 44 (0, 0)) := (hblk _ (by omega) (fun g hg1 => by have := hrB g hg1; omega)).trans HRV.out
            have hce := HCL.out W1 (Below.refl _ _)
            have h80 : ∀ b, b < w.heap.size + 2 → w10.heap[b]? = W1.heap[b]? := fun b hb => hblk b (by omega) (fun g hg1 => by have := hrB g hg1; omega)
            have h81 : ∀ b, b < w.heap.size + 2 → (w10.setCell ⟨w.heap.size + 2, 0, none⟩ v').heap[b]? = W1.heap[b]? := fun b hb => (Below.heap_setCell _ _ _ _ (by show b ≠ w.heap.size + 2; omega)).trans (h80 b hb)
            have hg10 := hg.size
            have hnew : ∀ b, W1.heap.size ≤ b → ¬ (S b ∨ b ∈ rs) := fun b hb1 hs => by
              rcases hs with hs | hs
              · have := HSB.out b hs; omega
              · have := HRL.out b hs
                have := HLL.out
                omega
            have hpush := hfX.push (t := (.slice co c.length cc, c, rk d (pks P [] c))) (HCV.out.below hbX (Nat.le_refl _)) HCB.out ho hg (fun g hg1 => by
              rcases hat with h | h
              · rw [h] at hg1; exact HFR.out.off g hg1
              · rw [h] at hg1
                simp only [Option.some.injEq] at hg1
                exact hnew g (by omega))
            have hset := hpush.set (b := w.heap.size + 2) (j := 0) (u := v') (by omega) h8 (by decide)
            have hcs : ∀ Y : World, (∀ b, b < w.heap.size + 2 → Y.heap[b]? = W1.heap[b]?) → Y.cell? ⟨w.heap.size, 0, none⟩ = some (.int .i64 d) ∧ Y.cell? ⟨w.heap.size + 1, 0, none⟩ = some (.slice vo P.length vc) := fun Y hY => ⟨(World.cell?_of_block (w := W1) (hY _ (by show w.heap.size < _; omega))).trans hce.1, (World.cell?_of_block (w := W1) (hY _ (by show w.heap.size + 1 < _; omega))).trans hce.2⟩
            refine ⟨cell_of h8, by show w10.frozen? ⟨w.heap.size + 2, 0, none⟩ = false; simp [World.frozen?, h8], hcs _ h80, hcs _ h81, ⟨by simp [World.setCell]; omega, fun b hb1 hs => ?_⟩, ?_⟩
            · have hs' : S b := hs.elim id False.elim
              refine (Below.heap_setCell _ _ _ _ (by show b ≠ w.heap.size + 2; have := HSN.out b hs'; omega)).trans (hblk b hb1 (fun g hg1 e => ?_))
              subst e
              exact HFR.out.off _ hg1 (.inl hs')
            · obtain ⟨q1, q2, q3, q4, q5, _⟩ := HIS.out X hbX
              refine ⟨q1, q2.trans ⟨?_, fun b hb1 hlt => ?_⟩, hg.os.trans q3, hg.tape.trans q4, hg.output.trans q5, v', T ++ [(.slice co c.length cc, c, rk d (pks P [] c))], set_one h8, hset, ?_⟩
              · simp [World.setCell]; omega
              · have hbW : b < W1.heap.size := by
                  rcases hlt with h | h
                  · omega
                  · have := HRL.out b h
                    have := HLL.out
                    omega
                have hb2 : b ≠ w.heap.size + 2 := by
                  rcases hlt with h | h
                  · omega
                  · have := HI.out.rlo b h; omega
                refine (Below.heap_setCell _ _ _ _ (by show b ≠ w.heap.size + 2; exact hb2)).trans ((hblk b hbW (fun g hg1 e => ?_)).trans (hbX.block b hbW).symm)
                subst e
                rcases hlt with h | h
                · have := hrB _ hg1; omega
                · exact HFR.out.off _ hg1 (.inr h)
              · rw [List.map_append, HTE.out, HFU2.out]; rfl
          clear HFU HFU2 HIS HI6 HCB HFR HRV HTE hfl
          obtain ⟨W6, hW6⟩ : ∃ W6, W6 = w6 := ⟨_, rfl⟩
          have HBD : Hid (Below W1.heap.size W1 w6.drew) := HB6.out.drew
          have hcp := HCL.out w6.drew HBD.out
          have h21 : w.heap.size + 1 + 1 = w.heap.size + 2 := rfl
          clear h21 hW6
          gi_upto_region 8 with fail
          refine wpIn_region_rnd (fun w' => w'.cell? ⟨w.heap.size, 0, none⟩ = some (.int .i64 d) ∧ w'.cell? ⟨w.heap.size + 1, 0, none⟩ = some (.slice vo P.length vc)) (by kernel_rfl) (no_defer (by kernel_rfl)) (fun a w h => h) hcp (fun hHeld => ?_)
          refine wpAnyH_tk (i := 1) (d := 24) (v := (.slice co c.length cc)) rfl rfl (by kernel_rfl) (by kernel_rfl) (by kernel_rfl) (fun _ _ _ h => h) (.inl ⟨by rfl, by (intro wq hSw; (try dsimp only at hSw); go_simp; (try (first | rfl | omega)))⟩) hHeld ?_
          simp only [Act.put, List.setIfInBounds_toArray, List.set_cons_zero, List.set_cons_succ]
          refine wpAnyH_tk (i := 2) (d := 25) (v := (.slice vo P.length vc)) rfl rfl (by kernel_rfl) (by kernel_rfl) (by kernel_rfl) (fun _ _ _ h => h) (.inl ⟨by rfl, by (intro wq hSw; (try dsimp only at hSw); go_simp; (try (first | rfl | omega)))⟩) hHeld ?_
          simp only [Act.put, List.setIfInBounds_toArray, List.set_cons_zero, List.set_cons_succ]
          refine wpAnyH_tk (i := 3) (d := 26) (v := (.slice co c.length cc)) rfl rfl (by kernel_rfl) (by kernel_rfl) (by kernel_rfl) (fun _ _ _ h => h) (.inl ⟨by rfl, by (intro wq hSw; (try dsimp only at hSw); go_simp; (try (first | rfl | omega)))⟩) hHeld ?_
          simp only [Act.put, List.setIfInBounds_toArray, List.set_cons_zero, List.set_cons_succ]
          refine wpAnyH_tk (i := 5) (d := 28) (v := (.int .i64 (d : Int))) rfl rfl (by kernel_rfl) (by kernel_rfl) (by kernel_rfl) (fun _ _ _ h => h) (.inl ⟨by rfl, by (intro wq hSw; (try dsimp only at hSw); go_simp; (try (first | rfl | omega)))⟩) hHeld ?_
          simp only [Act.put, List.setIfInBounds_toArray, List.set_cons_zero, List.set_cons_succ]
          refine wpAnyH_ready (rs := [0, 4]) (by kernel_rfl) (by simp) ?_
          refine ready_tk (i := 0) rfl (by rfl) (fun K hK => ?_) (ready_tk (i := 4) rfl (by rfl) (fun K hK => ?_) AllReadyH.nil)
          · have hcr := HCR.out _ HBD.out
            go_simp
            refine hK.out _ _ (HCL.out _ HBD.out) (fun hHeld => ?_)
            clear hK K hcr
            try simp only [Act.put, List.setIfInBounds_toArray, List.set_cons_zero, List.set_cons_succ]
            refine wpAnyH_ready (rs := [4]) (by kernel_rfl) (by simp) ?_
            refine ready_tk (i := 4) rfl (by rfl) (fun K hK => ?_) AllReadyH.nil
            go_simp
            refine (HPK.out _ HBD.out).mono ?_
            rintro e' w7 ⟨zo, zc, rfl, hm7, hb7⟩
            refine hK.out _ _ (HCL.out w7 hb7) (fun hHeld => ?_)
            clear hK K
            try simp only [Act.put, List.setIfInBounds_toArray, List.set_cons_zero, List.set_cons_succ]
            refine wpAnyH_ready (rs := [6]) (by kernel_rfl) (by simp) ?_
            refine ready_tk (i := 6) rfl (by rfl) (fun K hK => ?_) AllReadyH.nil
            go_simp
            refine (HRK.out _ _ w7 hb7 hm7).mono ?_
            rintro e' w8 ⟨rfl, hb8⟩
            refine hK.out _ _ (HCL.out w8 hb8) (fun hHeld => ?_)
            clear hK K
            try simp only [Act.put, List.setIfInBounds_toArray, List.set_cons_zero, List.set_cons_succ]
            refine wpAnyH_tk (i := 7) (d := 30) (v := (.agg #[.slice co c.length cc, .int .i64 (rk d (pks P [] c) : Nat)])) rfl rfl (by kernel_rfl) (by kernel_rfl) (by kernel_rfl) (fun _ _ _ h => h) (.inl ⟨by rfl, by (intro wq hSw; (try dsimp only at hSw); go_simp; (try (first | rfl | omega)))⟩) hHeld ?_
            simp only [Act.put, List.setIfInBounds_toArray, List.set_cons_zero, List.set_cons_succ]
            refine wpAnyH_ready (rs := [8]) (by kernel_rfl) (by simp) ?_
            refine ready_tk (i := 8) rfl (by rfl) (fun K hK => ?_) AllReadyH.nil
            go_simp
            refine hK.out _ _ (HCL.out _ (HBA.out w8 hb8)) (fun hHeld => ?_)
            clear hK K
            try simp only [Act.put, List.setIfInBounds_toArray, List.set_cons_zero, List.set_cons_succ]
            obtain ⟨hown9, hcl9, hsz9, hfin⟩ := HFF.out w8 hb8
            refine wpAnyH_ready (rs := [9]) (by kernel_rfl) (by simp) ?_
            refine ready_tk (i := 9) rfl (by rfl) (fun K hK => ?_) AllReadyH.nil
            refine op_append_F _ _ rfl (w.heap.size + 3) rv T.length (T.flatMap encF) rfl hown9 ⟨w8.heap.size, 0, none⟩ (encF (.slice co c.length cc, [], rk d (pks P [] c))) rfl rfl hcl9 HOC.out HTL.out hsz9 ?_
            intro v' w10 ho hg hat
            obtain ⟨k1, k2, k3, k4, k5⟩ := hfin v' w10 ho hg hat
            obtain ⟨vo9, vn9, vc9, hv9⟩ := slice_formF ho
            subst hv9
            have HK5 : Hid (Kpt (fun b => S b ∨ False) W1 (w10.setCell ⟨w.heap.size + 2, 0, none⟩ (.slice vo9 vn9 vc9)) ∧ FsI w WN wr.heap.size d P (extT P.length k) rs S (pre ++ [c]) (w10.setCell ⟨w.heap.size + 2, 0, none⟩ (.slice vo9 vn9 vc9))) := k5
            clear k5 ho hg hat hfin hown9 hcl9
            refine hK.out _ _ k3 (fun hHeld => ?_)
            clear hK K
            try simp only [Act.put, List.setIfInBounds_toArray, List.set_cons_zero, List.set_cons_succ]
            refine wpAnyH_ready (rs := [10]) (by kernel_rfl) (by simp) ?_
            refine ready_tk (i := 10) rfl (by rfl) (fun K hK => ?_) AllReadyH.nil
            go_simp
            refine hK.out _ _ k4 (fun hHeld => ?_)
            clear hK K
            refine wpAnyH_done (by kernel_rfl) ?_ _
            dsimp only [Nrm]
            gi_wp2
            exact HK5.out
          · go_simp
            refine (HPK.out _ HBD.out).mono ?_
            rintro e' w7 ⟨zo, zc, rfl, hm7, hb7⟩
            refine hK.out _ _ (HCL.out w7 hb7) (fun hHeld => ?_)
            clear hK K
            try simp only [Act.put, List.setIfInBounds_toArray, List.set_cons_zero, List.set_cons_succ]
            refine wpAnyH_ready (rs := [0, 6]) (by kernel_rfl) (by simp) ?_
            refine ready_tk (i := 0) rfl (by rfl) (fun K hK => ?_) (ready_tk (i := 6) rfl (by rfl) (fun K hK => ?_) AllReadyH.nil)
            · have hcr := HCR.out w7 hb7
              go_simp
              refine hK.out _ _ (HCL.out w7 hb7) (fun hHeld => ?_)
              clear hK K hcr
              try simp only [Act.put, List.setIfInBounds_toArray, List.set_cons_zero, List.set_cons_succ]
              refine wpAnyH_ready (rs := [6]) (by kernel_rfl) (by simp) ?_
              refine ready_tk (i := 6) rfl (by rfl) (fun K hK => ?_) AllReadyH.nil
              go_simp
              refine (HRK.out _ _ w7 hb7 hm7).mono ?_
              rintro e' w8 ⟨rfl, hb8⟩
              refine hK.out _ _ (HCL.out w8 hb8) (fun hHeld => ?_)
              clear hK K
              try simp only [Act.put, List.setIfInBounds_toArray, List.set_cons_zero, List.set_cons_succ]
              refine wpAnyH_tk (i := 7) (d := 30) (v := (.agg #[.slice co c.length cc, .int .i64 (rk d (pks P [] c) : Nat)])) rfl rfl (by kernel_rfl) (by kernel_rfl) (by kernel_rfl) (fun _ _ _ h => h) (.inl ⟨by rfl, by (intro wq hSw; (try dsimp only at hSw); go_simp; (try (first | rfl | omega)))⟩) hHeld ?_
              simp only [Act.put, List.setIfInBounds_toArray, List.set_cons_zero, List.set_cons_succ]
              refine wpAnyH_ready (rs := [8]) (by kernel_rfl) (by simp) ?_
              refine ready_tk (i := 8) rfl (by rfl) (fun K hK => ?_) AllReadyH.nil
              go_simp
              refine hK.out _ _ (HCL.out _ (HBA.out w8 hb8)) (fun hHeld => ?_)
              clear hK K
              try simp only [Act.put, List.setIfInBounds_toArray, List.set_cons_zero, List.set_cons_succ]
              obtain ⟨hown9, hcl9, hsz9, hfin⟩ := HFF.out w8 hb8
              refine wpAnyH_ready (rs := [9]) (by kernel_rfl) (by simp) ?_
              refine ready_tk (i := 9) rfl (by rfl) (fun K hK => ?_) AllReadyH.nil
              refine op_append_F _ _ rfl (w.heap.size + 3) rv T.length (T.flatMap encF) rfl hown9 ⟨w8.heap.size, 0, none⟩ (encF (.slice co c.length cc, [], rk d (pks P [] c))) rfl rfl hcl9 HOC.out HTL.out hsz9 ?_
              intro v' w10 ho hg hat
              obtain ⟨k1, k2, k3, k4, k5⟩ := hfin v' w10 ho hg hat
              obtain ⟨vo9, vn9, vc9, hv9⟩ := slice_formF ho
              subst hv9
              have HK5 : Hid (Kpt (fun b => S b ∨ False) W1 (w10.setCell ⟨w.heap.size + 2, 0, none⟩ (.slice vo9 vn9 vc9)) ∧ FsI w WN wr.heap.size d P (extT P.length k) rs S (pre ++ [c]) (w10.setCell ⟨w.heap.size + 2, 0, none⟩ (.slice vo9 vn9 vc9))) := k5
              clear k5 ho hg hat hfin hown9 hcl9
              refine hK.out _ _ k3 (fun hHeld => ?_)
              clear hK K
              try simp only [Act.put, List.setIfInBounds_toArray, List.set_cons_zero, List.set_cons_succ]
              refine wpAnyH_ready (rs := [10]) (by kernel_rfl) (by simp) ?_
              refine ready_tk (i := 10) rfl (by rfl) (fun K hK => ?_) AllReadyH.nil
              go_simp
              refine hK.out _ _ k4 (fun hHeld => ?_)
              clear hK K
              refine wpAnyH_done (by kernel_rfl) ?_ _
              dsimp only [Nrm]
              gi_wp2
              exact HK5.out
            · go_simp
              refine (HRK.out _ _ w7 hb7 hm7).mono ?_
              rintro e' w8 ⟨rfl, hb8⟩
              refine hK.out _ _ (HCL.out w8 hb8) (fun hHeld => ?_)
              clear hK K
              try simp only [Act.put, List.setIfInBounds_toArray, List.set_cons_zero, List.set_cons_succ]
              refine wpAnyH_tk (i := 7) (d := 30) (v := (.agg #[.slice co c.length cc, .int .i64 (rk d (pks P [] c) : Nat)])) rfl rfl (by kernel_rfl) (by kernel_rfl) (by kernel_rfl) (fun _ _ _ h => h) (.inl ⟨by rfl, by (intro wq hSw; (try dsimp only at hSw); go_simp; (try (first | rfl | omega)))⟩) hHeld ?_
              simp only [Act.put, List.setIfInBounds_toArray, List.set_cons_zero, List.set_cons_succ]
              refine wpAnyH_ready (rs := [0, 8]) (by kernel_rfl) (by simp) ?_
              refine ready_tk (i := 0) rfl (by rfl) (fun K hK => ?_) (ready_tk (i := 8) rfl (by rfl) (fun K hK => ?_) AllReadyH.nil)
              · have hcr := HCR.out w8 hb8
                go_simp
                refine hK.out _ _ (HCL.out w8 hb8) (fun hHeld => ?_)
                clear hK K hcr
                try simp only [Act.put, List.setIfInBounds_toArray, List.set_cons_zero, List.set_cons_succ]
                refine wpAnyH_ready (rs := [8]) (by kernel_rfl) (by simp) ?_
                refine ready_tk (i := 8) rfl (by rfl) (fun K hK => ?_) AllReadyH.nil
                go_simp
                refine hK.out _ _ (HCL.out _ (HBA.out w8 hb8)) (fun hHeld => ?_)
                clear hK K
                try simp only [Act.put, List.setIfInBounds_toArray, List.set_cons_zero, List.set_cons_succ]
                obtain ⟨hown9, hcl9, hsz9, hfin⟩ := HFF.out w8 hb8
                refine wpAnyH_ready (rs := [9]) (by kernel_rfl) (by simp) ?_
                refine ready_tk (i := 9) rfl (by rfl) (fun K hK => ?_) AllReadyH.nil
                refine op_append_F _ _ rfl (w.heap.size + 3) rv T.length (T.flatMap encF) rfl hown9 ⟨w8.heap.size, 0, none⟩ (encF (.slice co c.length cc, [], rk d (pks P [] c))) rfl rfl hcl9 HOC.out HTL.out hsz9 ?_
                intro v' w10 ho hg hat
                obtain ⟨k1, k2, k3, k4, k5⟩ := hfin v' w10 ho hg hat
                obtain ⟨vo9, vn9, vc9, hv9⟩ := slice_formF ho
                subst hv9
                have HK5 : Hid (Kpt (fun b => S b ∨ False) W1 (w10.setCell ⟨w.heap.size + 2, 0, none⟩ (.slice vo9 vn9 vc9)) ∧ FsI w WN wr.heap.size d P (extT P.length k) rs S (pre ++ [c]) (w10.setCell ⟨w.heap.size + 2, 0, none⟩ (.slice vo9 vn9 vc9))) := k5
                clear k5 ho hg hat hfin hown9 hcl9
                refine hK.out _ _ k3 (fun hHeld => ?_)
                clear hK K
                try simp only [Act.put, List.setIfInBounds_toArray, List.set_cons_zero, List.set_cons_succ]
                refine wpAnyH_ready (rs := [10]) (by kernel_rfl) (by simp) ?_
                refine ready_tk (i := 10) rfl (by rfl) (fun K hK => ?_) AllReadyH.nil
                go_simp
                refine hK.out _ _ k4 (fun hHeld => ?_)
                clear hK K
                refine wpAnyH_done (by kernel_rfl) ?_ _
                dsimp only [Nrm]
                gi_wp2
                exact HK5.out
              · go_simp
                refine hK.out _ _ (HCL.out _ (HBA.out w8 hb8)) (fun hHeld => ?_)
                clear hK K
                try simp only [Act.put, List.setIfInBounds_toArray, List.set_cons_zero, List.set_cons_succ]
                refine wpAnyH_ready (rs := [0]) (by kernel_rfl) (by simp) ?_
                refine ready_tk (i := 0) rfl (by rfl) (fun K hK => ?_) AllReadyH.nil
                have hcr := HCR.out (w8.alloc (.cells #[.slice co c.length cc, .int .i64 (rk d (pks P [] c) : Nat)] 51)) (HBA.out w8 hb8)
                go_simp
                refine hK.out _ _ (HCL.out (w8.alloc (.cells #[.slice co c.length cc, .int .i64 (rk d (pks P [] c) : Nat)] 51)) (HBA.out w8 hb8)) (fun hHeld => ?_)
                clear hK K hcr
                try simp only [Act.put, List.setIfInBounds_toArray, List.set_cons_zero, List.set_cons_succ]
                obtain ⟨hown9, hcl9, hsz9, hfin⟩ := HFF.out w8 hb8
                refine wpAnyH_ready (rs := [9]) (by kernel_rfl) (by simp) ?_
                refine ready_tk (i := 9) rfl (by rfl) (fun K hK => ?_) AllReadyH.nil
                refine op_append_F _ _ rfl (w.heap.size + 3) rv T.length (T.flatMap encF) rfl hown9 ⟨w8.heap.size, 0, none⟩ (encF (.slice co c.length cc, [], rk d (pks P [] c))) rfl rfl hcl9 HOC.out HTL.out hsz9 ?_
                intro v' w10 ho hg hat
                obtain ⟨k1, k2, k3, k4, k5⟩ := hfin v' w10 ho hg hat
                obtain ⟨vo9, vn9, vc9, hv9⟩ := slice_formF ho
                subst hv9
                have HK5 : Hid (Kpt (fun b => S b ∨ False) W1 (w10.setCell ⟨w.heap.size + 2, 0, none⟩ (.slice vo9 vn9 vc9)) ∧ FsI w WN wr.heap.size d P (extT P.length k) rs S (pre ++ [c]) (w10.setCell ⟨w.heap.size + 2, 0, none⟩ (.slice vo9 vn9 vc9))) := k5
                clear k5 ho hg hat hfin hown9 hcl9
                refine hK.out _ _ k3 (fun hHeld => ?_)
                clear hK K
                try simp only [Act.put, List.setIfInBounds_toArray, List.set_cons_zero, List.set_cons_succ]
                refine wpAnyH_ready (rs := [10]) (by kernel_rfl) (by simp) ?_
                refine ready_tk (i := 10) rfl (by rfl) (fun K hK => ?_) AllReadyH.nil
                go_simp
                refine hK.out _ _ k4 (fun hHeld => ?_)
                clear hK K
                refine wpAnyH_done (by kernel_rfl) ?_ _
                dsimp only [Nrm]
                gi_wp2
                exact HK5.out
      case done =>
        rintro S W' hi hSD hdf
        have HD : Hid (FsI w WN wr.heap.size d P (extT P.length k) rs S (ext P.length k 0) W') := hi
        have hws := hi.kp.size
        have hsz2 := HSZ.out
        have HNX : Hid (FoI w d P (.slice vo P.length vc) (k + 1) (WN.heap.size :: rs) W') := by
          have hIr := HI.out
          obtain ⟨u, T, r1, r2, r3⟩ := hi.rv
          refine ⟨fun b hb => (hi.kp.block b (by omega) (.inl (by omega))).trans (HLO.out b hb), (hi.kp.block _ (by omega) (.inl (by omega))).trans HN0.out, (hi.kp.block _ (by omega) (.inl (by omega))).trans HN1.out, hi.os, hi.tape, hi.output, by omega, List.nodup_cons.2 ⟨fun h => by have := HRL.out _ h; omega, hIr.nd⟩, fun r hr => ?_, fun r hr => ?_, u, T, r1, r2.keep (fun _ _ _ => rfl) (fun b hb => ?_), by rw [extT_succ]; exact r3⟩
          · rcases List.mem_cons.1 hr with rfl | hr
            · exact hdf
            · have h1 := HRL.out r hr
              exact (hi.kp.block r (by omega) (.inr hr)).trans ((HBN.out r h1).trans (hIr.mark r hr))
          · rcases List.mem_cons.1 hr with rfl | hr
            · omega
            · exact hIr.rlo r hr
          · rcases List.mem_cons.1 hb with rfl | hb
            · exact .inl (.inl hSD)
            · exact .inl (.inr hb)
        gi_wp2
        refine ⟨⟨k + 1, WN.heap.size :: rs, .int .i64 k, u7, .bool true, .int .i64 k, .slice vo P.length vc, .int .i64 P.length, .int .i64 k, .func (.func 39) #[] #[.pointer (some ⟨wr.heap.size + 1, 0, none⟩), .pointer (some ⟨wr.heap.size, 0, none⟩)], .int .i64 ((k : Int) + 1), by omega, HNX.out, ?_⟩, ?_⟩
        · rw [show ((k + 1 : Nat) : Int) = (k : Int) + 1 by omega]
          rfl
        · simp [intOf]; omega
    · have hke : k = P.length + 1 := by omega
      subst hke
      have hkI : decide (((P.length + 1 : Nat) : Int) < (P.length : Int) + 1) = false := by simp
      have hIr := HI.out
      obtain ⟨u, T, r1, r2, r3⟩ := hIr.rv
      have hEA : extT P.length (P.length + 1) = extA P.length := rfl
      rw [hEA] at r3
      have hT0 : 0 < T.length := by
        have hm : (([] : List Int), rk d (pks P [] [])) ∈ flU d P (extA P.length) := by
          obtain ⟨h1, h2⟩ := (xt_all (n := P.length) (by omega)).2.1 0 (Nat.pow_pos (by decide))
          have e : memL P.length 0 = [] := by simp [memL]
          rw [e] at h1 h2
          exact List.mem_map.2 ⟨[], List.mem_filter.2 ⟨h1, by rw [h2]; exact HNE.out⟩, rfl⟩
        rw [← r3] at hm
        have := List.length_pos_of_mem hm
        simpa using this
      have hTL : T.length ≤ 1000000 := by
        have h1 : T.length = (flU d P (extA P.length)).length := by rw [← r3, List.length_map]
        have h2 := flU_len d P (extA P.length)
        have h3 : (extA P.length).length ≤ 64 := by
          have : ∀ n, n ≤ 6 → (extA n).length ≤ 64 := by decide
          exact this _ h5
        omega
      obtain ⟨uo, uc, hu⟩ : ∃ uo uc, u = .slice uo T.length uc := by
        rcases r2.own.2 with ⟨h1, h2⟩ | ⟨g, cap, cur, h1, _⟩
        · omega
        · exact ⟨_, _, h1⟩
      subst hu
      have HR2 : Hid (FlO (fun b => b ∈ rs) (w.heap.size + 3) wr (.slice uo T.length uc) T) := r2
      have HR3 : Hid (T.map (fun t => t.2) = flU d P (extA P.length)) := r3
      have HSO : Hid (Calls Try.prog 27 #[.slice uo T.length uc, .func (.func 28) #[] #[]] wr fun e w' => e = .returned (.tuple #[]) ∧ ∃ T' : List FlT, T'.Perm T ∧ (∀ i j, i < j → j < T'.length → ¬ fcf (T'.getD j (.slice none 0 0, [], 0)).2 (T'.getD i (.slice none 0 0, [], 0)).2 < 0) ∧ FlR (w.heap.size + 3) w' (.slice uo T.length uc) T' ∧ wr.grownBy w' (Value.slice uo T.length uc).ownBlock) := sortF_any (w.heap.size + 3) T _ wr ⟨r2.own, r2.sl⟩ hT0 hTL
      have c2 : wr.cell? ⟨w.heap.size + 1 + 1, 0, none⟩ = some (.slice uo T.length uc) := cell_of r1
      have HC2 : Hid (wr.heap[w.heap.size + 2]? = some (.cells #[.slice uo T.length uc] 44 (0, 0))) := r1
      clear hIr r1 r2 r3 hEA hT0 hTL c1
      gi_wp2_with fail
      refine ⟨trivial, rfl, ?_⟩
      gi_at_call 27
      refine (callsIn_wide.2 HSO.out).mono ?_
      rintro e w2 ⟨rfl, T', hperm, hord, hfr, hg⟩
      have hlow2 : ∀ b, b < wr.heap.size → (∀ g, (Value.slice uo T.length uc).ownBlock = some g → b ≠ g) → w2.heap[b]? = wr.heap[b]? := fun b hb hne => hg.block b hb (fun e => hne b e.symm rfl)
      have hoB : ∀ g, (Value.slice uo T.length uc).ownBlock = some g → w.heap.size + 3 ≤ g := fun g hg1 => (own_typF HR2.out.own g hg1).1
      have c3 : w2.cell? ⟨w.heap.size + 1 + 1, 0, none⟩ = some (.slice uo T.length uc) := cell_of ((hlow2 (w.heap.size + 2) (by omega) (fun g hg1 => by have := hoB g hg1; omega)).trans HC2.out)
      have HTL : Hid (T'.length = T.length) := hperm.length_eq
      have HFI : Hid (∀ w', Chg (fun b => b ∈ rs) w2 w' → FlR (w.heap.size + 3) w' (.slice uo T'.length uc) T' ∧ (FlS d P (T'.map fun t => t.2) ∧ FlA (T'.map fun t => t.2)) ∧ Below w.heap.size w w') := fun w' hc => by
        have hfo : FlO (fun b => b ∈ rs) (w.heap.size + 3) w2 (.slice uo T.length uc) T' := ⟨hfr.own, HR2.out.off, hfr.inn, fun t ht => HR2.out.so t (hperm.mem_iff.1 ht)⟩
        have hf2 := hfo.keep (S' := fun b => b ∈ rs) (fun b hb hn => hc.block b hb hn) (fun b hb => .inl hb)
        rw [HTL.out]
        refine ⟨⟨hf2.own, hf2.sl⟩, ⟨⟨?_, fun i j hij hj => ?_⟩, fun i j hij hj => ?_⟩, ?_⟩
        · rw [← HR3.out]
          exact hperm.map _
        · rw [List.length_map] at hj
          have h1 := hord i j hij hj
          have h2 : ∀ q, q < T'.length → (T'.map fun t => t.2).getD q ([], 0) = (T'.getD q (.slice none 0 0, [], 0)).2 := fun q hq => by simp [hq]
          rw [h2 i (by omega), h2 j hj]
          refine Classical.byContradiction fun hlt => ?_
          have h3 := (fcf_lt (T'.getD j (.slice none 0 0, [], 0)).2 (T'.getD i (.slice none 0 0, [], 0)).2).2 (.inl (by omega))
          omega
        · rw [List.length_map] at hj
          have h1 := hord i j hij hj
          have h2 : ∀ q, q < T'.length → (T'.map fun t => t.2).getD q ([], 0) = (T'.getD q (.slice none 0 0, [], 0)).2 := fun q hq => by simp [hq]
          rw [h2 i (by omega), h2 j hj]
          first | exact h1 | omega
        · have hIr := HI.out
          refine ⟨hc.os.trans (hg.os.trans hIr.os), hc.tape.trans (hg.tape.trans hIr.tape), hc.output.trans (hg.output.trans hIr.output), by have := hc.size; have := hg.size; omega, fun b hb => ?_⟩
          have h1 := hlow2 b (by omega) (fun g hg1 => by have := hoB g hg1; omega)
          exact (hc.block b (by have := hg.size; omega) (fun hx => by have := hIr.rlo b hx; omega)).trans (h1.trans (hIr.low b hb))
      have HMK : Hid (∀ r ∈ rs, w2.heap[r]? = some (.deferred (some []))) := fun r hr => by
        have h1 := HI.out.mark r hr
        have h2 := (Array.getElem?_eq_some_iff.1 h1).1
        exact (hlow2 r h2 (fun g hg1 e => HR2.out.off g hg1 (by rw [← e]; exact hr))).trans h1
      have HND : Hid (rs.Nodup) := HI.out.nd
      clear hperm hord hfr hg hlow2 hoB c2 HSO HR2 HR3 HC2 HI
      gi_wp2
      refine leaves_mks rs w2 HND.out HMK.out (fun w' hc => ⟨.slice uo T.length uc, by simp [results, Try.results16, go_sem], uo, uc, T', ?_, ?_⟩)
      · rw [HTL.out]
      · exact HFI.out w' hc

theorem flats_any (d : Nat) (P : List (List Int)) (v : Value) (w : World) (hd1 : 1 ≤ d) (hd3 : d ≤ 3) (hG : ∀ p ∈ P, p.length = d + 1 ∧ ∀ z ∈ p, z.natAbs ≤ 20) (hne : flB d P 0 = true) (h5 : P.length ≤ 6) (hv : Mat 0 22 3 w v P) :
    Calls Try.prog 16 #[.int .i64 d, v] w fun e w' => ∃ uo uc T, e = .returned (.slice uo T.length uc) ∧ FlR (w.heap.size + 3) w' (.slice uo T.length uc) T ∧ FlS d P (T.map fun t => t.2) ∧ Below w.heap.size w w' :=
  (flatsO_any d P v w hd1 hd3 hG hne h5 hv).mono (by
    rintro e w' ⟨uo, uc, T, h1, h2, h3, h4⟩
    exact ⟨uo, uc, T, h1, h2, h3.1, h4⟩)

end Go.Proofs.Ytmljnfgfjcjmmaa
