/- The program's elimination: what a pivot's steps leave in memory. -/
import Derived.Test.YtdmkmljhljoojaaMgAD
import Derived.Maps.AppendAt
namespace Go.Proofs.Ytdmkmljhljoojaa
open Go.RowKit

theorem step_append_at {P : Program} {ops : Array Oper} {o : Oper} {a : Act} {w : World} {K : Act → World → Prop} {Q : Exit → Act → World → Prop} {E : Prop}
    (hg : o.guard = none) (s x : Operand) (t : TypeId) (hop : o.op = Op.call { callee := Callee.builtin Builtin.append, args := #[s, x], argTypes := #[t, t] })
    (base : Nat) (e : TypeId) (i : TypeInfo) (z : Value) (size bytes : Nat) (h1 : P.underlying t = some (.slice e)) (h2 : P.info? e = some i) (h3 : i.zero = some z) (h4 : i.size = size) (h5 : i.bytes = bytes) (h6 : z.cells.size = size) (h7 : 0 < size)
    (v : Value) (n : Nat) (xs : List Value) (hs : a.eval s = v) (hown : w.ownsRow base e size v n xs)
    (ad : Addr) (m c : Nat) (news : List Value) (hx : a.eval x = .slice (some ad) m c) (hn : news.length = m * size) (hc : ∀ j u, news[j]? = some u → w.cell? (ad.add j) = some u) (h1c : ∀ u ∈ news, u.oneCell' = true)
    (b1 : n + m ≤ maxLen) (b2 : (n + m) * bytes ≤ 140737488355328) (hb : base ≤ w.heap.size)
    (hK : ∀ v' w', w'.ownsRow base e size v' (n + m) (xs ++ news) → w.grownBy w' v.ownBlock → (v'.ownBlock = v.ownBlock ∨ v'.ownBlock = some w.heap.size) → K (a.put o.dst v') w') :
    if Region.wanted o (yielded ops a.tmps) = true then Oper.wp P o a w K Q else E := by
  have hw : Region.wanted o (yielded ops a.tmps) = true := by simp [Region.wanted, hg]
  rw [if_pos hw]
  obtain ⟨v', w', hrun, r1, r2, _, r4⟩ := run_append_own_at (P := P) w base t o.type e i z size bytes h1 h2 h3 h4 h5 h6 h7 v n xs hown ad m c news hn hc h1c b1 b2 hb
  unfold Oper.wp
  simp [execOp, hop, resolve, invoke, builtin, hs, hx, hrun, Result.andThen]
  exact hK v' w' r1 r2 r4

theorem RS.congr {B R n c : Nat} {mat mat' : Nat → Nat → Int} {piv : List Int} {val sgn : Int} {go capo : Nat} {pv : Value} {bs caps : Nat → Nat} {w : World} (h : RS B R n c mat piv val sgn go capo pv bs caps w) (he : ∀ i, i < n → ∀ j, j < c → mat i j = mat' i j) :
    RS B R n c mat' piv val sgn go capo pv bs caps w := by
  refine ⟨h.st, h.out, fun i hi => ?_, h.inj, h.piv, h.off⟩
  have e : (List.range c).map (mat' i) = (List.range c).map (mat i) := List.map_congr_left fun j hj => (he i hi j (by simpa using hj)).symm
  rw [e]; exact h.row i hi

/-- The typed blocks are apart. -/
theorem RS.typed {B R n c : Nat} {mat : Nat → Nat → Int} {piv : List Int} {val sgn : Int} {go capo : Nat} {pv : Value} {bs caps : Nat → Nat} {w : World} (h : RS B R n c mat piv val sgn go capo pv bs caps w) :
    go ≠ R ∧ (∀ i, i < n → bs i ≠ go ∧ bs i ≠ R ∧ bs i < w.heap.size ∧ B ≤ bs i) ∧ B ≤ go ∧ (∀ g, pv.ownBlock = some g → g ≠ R ∧ g ≠ go ∧ B ≤ g ∧ g < w.heap.size) := by
  have hgo : ∃ cur, w.heap[go]? = some (.cells cur 25 (0, 0)) ∧ B ≤ go := by
    obtain ⟨_, q2⟩ := h.out
    rcases q2 with ⟨q2, _⟩ | ⟨g, cap, cur, q2, hb, hh, _⟩
    · simp at q2
    · simp only [Value.slice.injEq, Option.some.injEq, Addr.mk.injEq, and_true, true_and] at q2
      obtain ⟨rfl, _⟩ := q2
      exact ⟨cur, hh, hb⟩
  obtain ⟨cur, hgo1, hgo2⟩ := hgo
  have hst := h.st
  have off : ∀ b cur', w.heap[b]? = some (.cells cur' 3 (0, 0)) → b ≠ go ∧ b ≠ R := by
    intro b cur' hb
    constructor
    · rintro rfl; rw [hb] at hgo1; simp at hgo1
    · rintro rfl; rw [hb] at hst; simp at hst
  refine ⟨by rintro rfl; rw [hst] at hgo1; simp at hgo1, fun i hi => ?_, hgo2, fun g hg => ?_⟩
  · obtain ⟨_, q2⟩ := h.row i hi
    rcases q2 with ⟨q2, _⟩ | ⟨g, cap, cur', q2, hb, hh, _⟩
    · simp at q2
    · simp only [Value.slice.injEq, Option.some.injEq, Addr.mk.injEq, and_true, true_and] at q2
      obtain ⟨e1, _⟩ := q2
      rw [← e1] at hh hb
      exact ⟨(off _ _ hh).1, (off _ _ hh).2, lt_of_block hh, hb⟩
  · obtain ⟨_, q2⟩ := h.piv
    rcases q2 with ⟨q2, _⟩ | ⟨g', cap, cur', q2, hb, hh, _⟩
    · rw [q2] at hg; simp [Value.ownBlock] at hg
    · rw [q2] at hg
      simp [Value.ownBlock] at hg
      subst hg
      exact ⟨(off _ _ hh).2, (off _ _ hh).1, hb, lt_of_block hh⟩

theorem RS.clear {B R n c i : Nat} {mat : Nat → Nat → Int} {piv : List Int} {val sgn : Int} {go capo : Nat} {pv : Value} {bs caps : Nat → Nat} {w w' : World} {r' : Nat → Int} (h : RS B R n c mat piv val sgn go capo pv bs caps w) (hi : i < n) (ht : Touch (bs i) w w')
    (ho : w'.ownsRow B 3 1 (.slice (some ⟨bs i, 0, none⟩) c (caps i)) c (ints ((List.range c).map r'))) : RS B R n c (fun a j => if a = i then r' j else mat a j) piv val sgn go capo pv bs caps w' := by
  obtain ⟨t1, t2, t3, t4⟩ := h.typed
  refine ⟨(ht.block R (t2 i hi).2.1.symm).trans h.st, ht.owns h.out (by simp [Value.ownBlock]; exact (t2 i hi).1.symm), fun a ha => ?_, h.inj, ht.owns h.piv (fun e => h.off _ e i hi rfl), h.off⟩
  by_cases e : a = i
  · subst e
    have : (List.range c).map (fun j => if a = a then r' j else mat a j) = (List.range c).map r' := by simp
    show w'.ownsRow B 3 1 (.slice (some ⟨bs a, 0, none⟩) c (caps a)) c (ints ((List.range c).map (fun j => if a = a then r' j else mat a j)))
    rw [this]; exact ho
  · have : (List.range c).map (fun j => if a = i then r' j else mat a j) = (List.range c).map (mat a) := by simp [e]
    show w'.ownsRow B 3 1 (.slice (some ⟨bs a, 0, none⟩) c (caps a)) c (ints ((List.range c).map (fun j => if a = i then r' j else mat a j)))
    rw [this]
    exact ht.owns (h.row a ha) (by simp [Value.ownBlock]; exact h.inj a i ha hi e)

/-- Behind the last steps: the value, one pivot more. -/
theorem RS.last {B R n c q : Nat} {mat : Nat → Nat → Int} {piv : List Int} {val sgn v' : Int} {go capo : Nat} {pv pv' : Value} {bs caps : Nat → Nat} {w w3 : World} {o : Obj} (h : RS B R n c mat piv val sgn go capo pv bs caps w)
    (ho : w3.ownsRow B 3 1 pv' (piv.length + 1) (ints piv ++ [.int .i64 q])) (hg : ((w.setCell ⟨R, 2, none⟩ (.int .i64 v')).alloc o).grownBy w3 pv.ownBlock) (hat : pv'.ownBlock = pv.ownBlock ∨ pv'.ownBlock = some (w.heap.size + 1) ∨ pv'.ownBlock = some ((w.setCell ⟨R, 2, none⟩ (.int .i64 v')).alloc o).heap.size) :
    RS B R n c mat (piv ++ [(q : Int)]) v' sgn go capo pv' bs caps (w3.setCell ⟨R, 1, none⟩ pv') ∧ w3.cell? ⟨R, 1, none⟩ = some pv ∧ w3.frozen? ⟨R, 1, none⟩ = false := by
  obtain ⟨t1, t2, t3, t4⟩ := h.typed
  have hRlt := lt_of_block h.st
  have hs1 : ((w.setCell ⟨R, 2, none⟩ (.int .i64 v')).alloc o).heap.size = w.heap.size + 1 := by simp [World.setCell]
  have hb : ∀ b, b < w.heap.size → b ≠ R → pv.ownBlock ≠ some b → w3.heap[b]? = w.heap[b]? := by
    intro b hb1 hb2 hb3
    rw [hg.block b (by omega) (fun e => hb3 e.symm), Below.heap_alloc _ _ _ (by simp [World.setCell]; exact hb1), Below.heap_setCell _ _ _ _ hb2]
  have hR3 : w3.heap[R]? = some (.cells #[.slice (some ⟨go, 0, none⟩) n capo, pv, .int .i64 v', .int .i64 sgn] 83 (0, 0)) := by
    rw [hg.block R (by omega) (fun e => (t4 R e.symm).1 rfl), Below.heap_alloc _ _ _ (by simp [World.setCell]; exact hRlt)]
    simp [World.setCell, Array.getElem?_modify, h.st]
  have hgolt : go < w.heap.size := by
    have := (h.out.lt go (by simp [Value.ownBlock])).2; exact this
  have hpvR : pv'.ownBlock ≠ some R := by
    rcases hat with e | e | e
    · rw [e]; intro e2; exact (t4 R e2).1 rfl
    · rw [e]; simp; omega
    · rw [e, hs1]; simp; omega
  have keep : ∀ {e : TypeId} {g m cp : Nat} {xs : List Value}, w.ownsRow B e 1 (.slice (some ⟨g, 0, none⟩) m cp) m xs → g < w.heap.size → g ≠ R → pv.ownBlock ≠ some g → (w3.setCell ⟨R, 1, none⟩ pv').ownsRow B e 1 (.slice (some ⟨g, 0, none⟩) m cp) m xs := by
    intro e g m cp xs hv l1 l2 l3
    obtain ⟨q1, q2⟩ := hv
    refine ⟨q1, ?_⟩
    rcases q2 with ⟨q2, _⟩ | ⟨g', cap, cur, q2, r1, r2, r3⟩
    · simp at q2
    · simp only [Value.slice.injEq, Option.some.injEq, Addr.mk.injEq, and_true, true_and] at q2
      obtain ⟨rfl, rfl⟩ := q2
      exact Or.inr ⟨g, cp, cur, rfl, r1, by rw [Below.heap_setCell _ _ _ _ l2, hb g l1 l2 l3]; exact r2, r3⟩
  refine ⟨⟨?_, keep h.out hgolt t1 (fun e => (t4 go e).2.1 rfl), fun i hi => keep (h.row i hi) (t2 i hi).2.2.1 (t2 i hi).2.1 (fun e => h.off _ e i hi rfl), h.inj, ?_, fun g hg2 i hi => ?_⟩, by simp [World.cell?, hR3], by simp [World.frozen?, hR3]⟩
  · simp [World.setCell, Array.getElem?_modify, hR3]
  · have h1 := ownsRow_setCell_other ho (a := ⟨R, 1, none⟩) hpvR pv'
    rw [ints_snoc] at h1
    have e : (piv ++ [(q : Int)]).length = piv.length + 1 := by simp
    rw [e]; exact h1
  · rcases hat with e | e | e
    · rw [e] at hg2; exact h.off g hg2 i hi
    · rw [e] at hg2; simp at hg2; have := (t2 i hi).2.2.1; omega
    · rw [e, hs1] at hg2; simp at hg2; have := (t2 i hi).2.2.1; omega

end Go.Proofs.Ytdmkmljhljoojaa
