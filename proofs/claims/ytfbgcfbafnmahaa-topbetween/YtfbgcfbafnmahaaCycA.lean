/- Cyclic's own loop. -/
import Derived.Test.YtfbgcfbafnmahaaCycAll

namespace Go.Proofs.Ytfbgcfbafnmahaa
open Go.RowKit

/-- Is one of the first k points too far? -/
def cfar (n d k : Nat) : Bool := (cpts n d k).any fun x => x.any (farB · 100)

theorem cfar_succ (n d k : Nat) (h : cfar n d k = false) : cfar n d (k + 1) = (pw ((k : Int) - (n : Int) / 2) d).any (farB · 100) := by
  unfold cfar at h ⊢; simp only [cpts, List.any_append, h, List.any_cons, List.any_nil, Bool.or_false, Bool.false_or]

theorem cfar_mono (n d : Nat) {k j : Nat} (hkj : k ≤ j) (h : cfar n d k = true) : cfar n d j = true := by
  induction j with
  | zero => have : k = 0 := by omega
            subst this; exact h
  | succ j ih =>
    by_cases e : k ≤ j
    · have := ih e
      unfold cfar at this ⊢; simp only [cpts, List.any_append, this, Bool.true_or]
    · have : k = j + 1 := by omega
      subst this; exact h

/-- The answer's error, dimension and points. -/
def cE (n d : Nat) : Int := if cfar n d n then 11 else 0
def cD (n d : Nat) : Int := if cfar n d n then 0 else d
def cP (n d : Nat) : List (List Int) := if cfar n d n then [] else cpts n d n

theorem cyc_far {n d : Nat} (h : cfar n d n = true) : cE n d = 11 ∧ cD n d = 0 ∧ cP n d = [] := by simp [cE, cD, cP, h]
theorem cyc_near {n d : Nat} (h : cfar n d n = false) : cE n d = 0 ∧ cD n d = d ∧ cP n d = cpts n d n := by simp [cE, cD, cP, h]

/-- What a loop that builds a polytope's points keeps: the result's cell, the polytope's cells, the rows. -/
structure Poly (N : Nat) (d : Int) (w wr : World) (v : Value) (m : List (List Int)) : Prop where
  res : wr.heap[N]? = some (.cells #[.int .i64 0, .slice none 0 0] 42 (0, 0))
  pol : wr.heap[N + 1]? = some (.cells #[.int .i64 d, v] 42 (0, 0))
  rows : Rws N 28 3 wr v m
  bel : Below N w wr

theorem Poly.step {N : Nat} {d : Int} {w wr w1 : World} {v : Value} {m : List (List Int)} (h : Poly N d w wr v m) (hb : Below wr.heap.size wr w1) : Poly N d w w1 v m := by
  have h1 := lt_of_block h.res
  have h2 := lt_of_block h.pol
  exact ⟨(hb.block _ h1).trans h.res, (hb.block _ h2).trans h.pol, h.rows.below hb (Nat.le_refl _), h.bel.trans (hb.mono (by omega))⟩

theorem two_setCell {w : World} {b : Nat} {x y u : Value} {t : TypeId} (h : w.heap[b]? = some (.cells #[x, y] t (0, 0))) : (w.setCell ⟨b, 1, none⟩ u).heap[b]? = some (.cells #[x, u] t (0, 0)) := by
  simp [World.setCell, Array.getElem?_modify, h]

theorem two_set {w : World} {b : Nat} {x y u v : Value} {t : TypeId} (h : w.heap[b]? = some (.cells #[x, y] t (0, 0))) :
    (w.setCell ⟨b, 0, none⟩ u).cell? ⟨b, 0, none⟩ = some u ∧ ((w.setCell ⟨b, 0, none⟩ u).setCell ⟨b, 1, none⟩ v).cell? ⟨b, 1, none⟩ = some v := by
  constructor
  · simp [World.cell?, World.setCell, Array.getElem?_modify, h]
  · simp [World.cell?, World.setCell, Array.getElem?_modify, h]

/-- Behind the append and the store of its answer. -/
theorem Poly.push {N : Nat} {d : Int} {w wr w1 : World} {v v' x : Value} {m : List (List Int)} {zs : List Int} {vs : List Value} (h : Poly N d w wr v m)
    (hx : Sl N 3 wr x (ints zs)) (h1 : vs.length = m.length) (h2 : wr.ownsRow N 28 1 v m.length vs) (h3 : ∀ i, i < m.length → Sl N 3 wr (vs.getD i (.slice none 0 0)) (ints (m.getD i [])))
    (ho : w1.ownsRow N 28 1 v' (m.length + 1) (vs ++ [x])) (hg : (wr.alloc (.cells #[x] 28)).grownBy w1 v.ownBlock) :
    (w1.heap[N + 1]? = some (.cells #[.int .i64 d, v] 42 (0, 0))) ∧ Poly N d w (w1.setCell ⟨N + 1, 1, none⟩ v') v' (m ++ [zs]) := by
  have n1 := lt_of_block h.res
  have n2 := lt_of_block h.pol
  have ht := owns_typed h2 (e1 := 42) (by decide)
  have hsz : (wr.alloc (.cells #[x] 28)).heap.size = wr.heap.size + 1 := by simp
  have g1 : w1.heap[N]? = some (.cells #[.int .i64 0, .slice none 0 0] 42 (0, 0)) := by
    rw [hg.block N (by omega) (fun e => (ht N e.symm).2 _ h.res), Below.heap_alloc _ _ _ n1]; exact h.res
  have g2 : w1.heap[N + 1]? = some (.cells #[.int .i64 d, v] 42 (0, 0)) := by
    rw [hg.block (N + 1) (by omega) (fun e => (ht (N + 1) e.symm).2 _ h.pol), Below.heap_alloc _ _ _ n2]; exact h.pol
  have hr : Rws N 28 3 w1 v' (m ++ [zs]) := Rws.push (by decide) h1 (h2.alloc _) (fun i hi => (h3 i hi).alloc _) (hx.alloc _) ho hg
  refine ⟨g2, ⟨?_, two_setCell g2, ?_, ?_⟩⟩
  · rw [Below.heap_setCell _ _ _ _ (by simp)]; exact g1
  · obtain ⟨us, u1, u2, u3⟩ := hr
    refine ⟨us, u1, ownsRow_setCell_other u2 (fun e => ?_) _, fun i hi => (u3 i hi).setCell _ ⟨by simp, fun cur => by simp only; rw [g2]; simp⟩⟩
    exact (owns_typed u2 (e1 := 42) (by decide) _ e).2 _ g2
  · refine ((h.bel.alloc (by omega) _).grown hg (by omega) (fun k hk => (ht k hk).1)).setCell (by simp) _

theorem Poly.done {N : Nat} {d : Int} {w wr : World} {v : Value} {m : List (List Int)} (h : Poly N d w wr v m) (a b : Value) :
    Mat N 28 3 ((wr.setCell ⟨N, 0, none⟩ a).setCell ⟨N, 1, none⟩ b) v m := by
  obtain ⟨vs, h1, h2, h3⟩ := h.rows.mat (Nat.le_refl _)
  have g0 := h.res
  have g1 : (wr.setCell ⟨N, 0, none⟩ a).heap[N]? = some (.cells #[a, .slice none 0 0] 42 (0, 0)) := by simp [World.setCell, Array.getElem?_modify, g0]
  have k0 : ∀ e, e ≠ 42 → ∀ cur, wr.heap[N]? ≠ some (.cells cur e (0, 0)) := by
    intro e he cur; rw [g0]; simp; intro _ h; exact absurd h.symm he
  have k1 : ∀ e, e ≠ 42 → ∀ cur, (wr.setCell ⟨N, 0, none⟩ a).heap[N]? ≠ some (.cells cur e (0, 0)) := by
    intro e he cur; rw [g1]; simp; intro _ h; exact absurd h.symm he
  exact ⟨vs, h1, (h2.setCell _ ⟨Nat.le_refl _, k0 28 (by decide)⟩).setCell _ ⟨Nat.le_refl _, k1 28 (by decide)⟩,
    fun i hi => ((h3 i hi).setCell _ ⟨Nat.le_refl _, k0 3 (by decide)⟩).setCell _ ⟨Nat.le_refl _, k1 3 (by decide)⟩⟩

set_option maxRecDepth 100000 in
set_option maxHeartbeats 1000000 in
theorem cyclic_main (d n : Nat) (w : World) (h1 : 1 ≤ d) (h4 : d ≤ 4) (hn : d < n) (hn2 : n ≤ 24) :
    Calls Try.prog 33 #[.int .i64 d, .int .i64 n] w fun e w' =>
      (∃ v, e = .returned (.tuple #[.agg #[.int .i64 (cD n d), v], .int .i64 (cE n d)]) ∧ Mat w.heap.size 28 3 w' v (cP n d)) ∧ Below w.heap.size w w' := by
  obtain ⟨i0, hi, hz0, hz1, hz2⟩ := info_parts Try.info28
  have t1 : decide ((d : Int) < 1) = false := by simp; omega
  have t2 : decide ((4 : Int) < d) = false := by simp; omega
  have t3 : decide (n ≤ d) = false := by simp; omega
  have t4 : decide ((24 : Int) < n) = false := by simp; omega
  go_enter Try.func33, Try.ntmps33
  go_wp2
  go_loopw [27] (fun i wr => ∃ k : Nat, k ≤ n ∧ i = .int .i64 k ∧ cfar n d k = false ∧ ∃ v, Poly w.heap.size d w wr v (cpts n d k)) (fun i _ => n - (intOf i).toNat)
  case atStart =>
    refine ⟨0, Nat.zero_le _, rfl, rfl, .slice none 0 0, ?_, ?_, Rws.nil _ _ _ _, ?_⟩
    · rw [Below.heap_alloc _ _ _ (by simp), heap_alloc_new]
    · have := heap_alloc_new (w.alloc (.cells #[.int .i64 0, .slice none 0 0] 42)) (.cells #[.int .i64 d, .slice none 0 0] 42)
      simpa using this
    · exact ((Below.refl _ _).alloc (Nat.le_refl _) _).alloc (by simp) _
  case round =>
    obtain ⟨k, hk, rfl, hno, v, hp⟩ := hrel
    have HN : Hid (cfar n d k = false) := hno
    have HP : Hid (Poly w.heap.size d w wr v (cpts n d k)) := hp
    clear hno hp
    by_cases hlt : k < n
    · go_wp2_with fail
      refine (powers_any _ d wr (by omega) (by omega) h4).mono ?_
      rintro e w1 ⟨x, rfl, hx, hb1⟩
      have HX : Hid (∀ B, Sl B 3 w1 x (ints (pw ((k : Int) - (n : Int) / 2) d))) := hx
      have HP1 : Hid (Poly w.heap.size d w w1 v (cpts n d k)) := HP.out.step hb1
      clear hx hb1 HP
      go_wp2_with fail
      refine (anyBeyond_any 0 _ x 100 w1 (HX.out 0) (by omega) (by omega)).mono ?_
      rintro e w2 ⟨rfl, hb2⟩
      have HX2 : Hid (Sl w.heap.size 3 w2 x (ints (pw ((k : Int) - (n : Int) / 2) d))) := (HX.out _).below hb2 (Nat.le_refl _)
      have HP2 : Hid (Poly w.heap.size d w w2 v (cpts n d k)) := HP1.out.step hb2
      clear hb2 HX HP1
      cases hf : (pw ((k : Int) - (n : Int) / 2) d).any (farB · 100)
      · have HF : Hid ((pw ((k : Int) - (n : Int) / 2) d).any (farB · 100) = false) := hf
        clear hf
        have hp0 : w2.heap[w.heap.size + 1]? = some (.cells #[.int .i64 d, v] 42 (0, 0)) := HP2.out.pol
        have hc1 : w2.cell? ⟨w.heap.size + 1, 1, none⟩ = some v := by simp [World.cell?, hp0]
        clear hp0
        obtain ⟨vs, g1, g2, g3⟩ := HP2.out.rows
        have G1 : Hid (vs.length = (cpts n d k).length) := g1
        have G2 : Hid (w2.ownsRow w.heap.size 28 1 v (cpts n d k).length vs) := g2
        have G3 : Hid (∀ i, i < (cpts n d k).length → Sl w.heap.size 3 w2 (vs.getD i (.slice none 0 0)) (ints ((cpts n d k).getD i []))) := g3
        clear g1 g2 g3
        obtain ⟨xo, xc, hxv, -, -⟩ := sl_open HX2.out
        rw [pw_length] at hxv
        subst hxv
        have hsz : w.heap.size + 1 < w2.heap.size := lt_of_block HP2.out.pol
        go_wp2_with (first | (at_builtin; refine wpList_append_own _ rfl _ _ 22 rfl w.heap.size 28 i0 (.slice none 0 0) 1 24 Try.underlying22 hi hz0 hz1 hz2 rfl (by decide) _ _ _ rfl (G2.out.alloc _) ⟨w2.heap.size, 0, none⟩ 1 1 [.slice xo d xc] rfl rfl ?c1 ?c2 ?c3 ?c4 ?c5 ?_))
        case c1 =>
          intro j u hj
          match j, hj with
          | 0, hj => simp at hj; subst hj; simp [Addr.add]
        case c2 => intro u hu; simp at hu; subst hu; rfl
        case c3 => rw [cpts_length]; unfold maxLen; omega
        case c4 => rw [cpts_length]; omega
        case c5 => simp; omega
        intro v' w3 ho hg _
        have R := Poly.push HP2.out HX2.out G1.out G2.out G3.out (by rw [cpts_length]; exact ho) hg
        have RP : Hid (Poly w.heap.size d w (w3.setCell ⟨w.heap.size + 1, 1, none⟩ v') v' (cpts n d (k + 1))) := R.2
        have hq := R.1
        have hq1 : w3.cell? ⟨w.heap.size + 1, 1, none⟩ = some v := by simp [World.cell?, hq]
        have hq2 : w3.frozen? ⟨w.heap.size + 1, 1, none⟩ = false := by simp [World.frozen?, hq]
        obtain ⟨vo, vc, hv'⟩ := owns_form ho
        subst hv'
        clear ho hg R hq
        go_wp2
        go_roundw
        case rel => exact ⟨k + 1, by omega, by go_num, (cfar_succ n d k HN.out).trans HF.out, _, RP.out⟩
        case measure => simp [intOf]; omega
      · have HF : Hid ((pw ((k : Int) - (n : Int) / 2) d).any (farB · 100) = true) := hf
        clear hf
        have hp0 := HP2.out.res
        have hc0 : w2.cell? ⟨w.heap.size, 0, none⟩ = some (.int .i64 0) := by simp [World.cell?, hp0]
        have hc1 : w2.cell? ⟨w.heap.size, 1, none⟩ = some (.slice none 0 0) := by simp [World.cell?, hp0]
        have hf0 : w2.frozen? ⟨w.heap.size, 0, none⟩ = false := by simp [World.frozen?, hp0]
        have hf1 : w2.frozen? ⟨w.heap.size, 1, none⟩ = false := by simp [World.frozen?, hp0]
        clear hp0
        go_wp2
        obtain ⟨e1, e2, e3⟩ := cyc_far (cfar_mono n d (k := k + 1) (by omega) ((cfar_succ n d k HN.out).trans HF.out))
        rw [e1, e2, e3]
        exact bodyPost_ret (v := .tuple #[.agg #[.int .i64 0, .slice none 0 0], .int .i64 11]) (by simp [results, Try.results33, go_sem, hc0, hc1]) rfl ⟨⟨_, rfl, [], rfl, Sl.nil _ _ _, fun i hi => absurd hi (by simp)⟩, (HP2.out.bel.setCell (by simp) _).setCell (by simp) _⟩
    · have hkn : k = n := by omega
      subst hkn
      have hp0 := HP.out.res
      have hp1 : wr.heap[w.heap.size + 1]? = some (.cells #[.int .i64 d, v] 42 (0, 0)) := HP.out.pol
      have hc0 : wr.cell? ⟨w.heap.size, 0, none⟩ = some (.int .i64 0) := by simp [World.cell?, hp0]
      have hc1 : wr.cell? ⟨w.heap.size, 1, none⟩ = some (.slice none 0 0) := by simp [World.cell?, hp0]
      have hf0 : wr.frozen? ⟨w.heap.size, 0, none⟩ = false := by simp [World.frozen?, hp0]
      have hf1 : wr.frozen? ⟨w.heap.size, 1, none⟩ = false := by simp [World.frozen?, hp0]
      have hd0 : wr.cell? ⟨w.heap.size + 1, 0, none⟩ = some (.int .i64 d) := by simp [World.cell?, hp1]
      have hd1 : wr.cell? ⟨w.heap.size + 1, 1, none⟩ = some v := by simp [World.cell?, hp1]
      obtain ⟨vs, g1, g2, g3⟩ := HP.out.rows
      obtain ⟨vo, vc, hv'⟩ := owns_form g2
      rw [cpts_length] at hv'
      subst hv'
      have HM : Hid (Rws w.heap.size 28 3 wr (.slice vo k vc) (cpts k d k)) := HP.out.rows
      have HQ : Hid ((wr.setCell ⟨w.heap.size, 0, none⟩ (.int .i64 d)).cell? ⟨w.heap.size, 0, none⟩ = some (.int .i64 d) ∧ ((wr.setCell ⟨w.heap.size, 0, none⟩ (.int .i64 d)).setCell ⟨w.heap.size, 1, none⟩ (.slice vo k vc)).cell? ⟨w.heap.size, 1, none⟩ = some (.slice vo k vc)) := two_set hp0
      clear g1 g2 g3 hp0 hp1
      go_wp2
      obtain ⟨e1, e2, e3⟩ := cyc_near HN.out
      rw [e1, e2, e3]
      have hq0 := HQ.out.1
      have hq1 := HQ.out.2
      refine bodyPost_ret (v := .tuple #[.agg #[.int .i64 d, .slice vo k vc], .int .i64 0]) (by simp [results, Try.results33, go_sem, hq0, hq1]) rfl ⟨⟨_, rfl, ?_⟩, (HP.out.bel.setCell (by simp) _).setCell (by simp) _⟩
      exact HP.out.done _ _

end Go.Proofs.Ytfbgcfbafnmahaa
