/- Parts of an even square: nothing is left, pure. -/
import Derived.Test.YtmffbaclgbmnbaaBk1
import Derived.Test.YtmffbaclgbmnbaaNp5
namespace Go.Proofs.Ytmffbaclgbmnbaa

theorem takeTo_len (R : List (List Int)) (o : List Int) (z : Int) : ∀ k, (takeTo R o z k).length = R.length ∧ ∀ a, ((takeTo R o z k).getD a []).length = (R.getD a []).length
  | 0 => ⟨rfl, fun _ => rfl⟩
  | k + 1 => by
    obtain ⟨h1, h2⟩ := takeTo_len R o z k
    simp only [takeTo]
    exact ⟨by rw [setM_len]; exact h1, fun a => by rw [setM_row]; exact h2 a⟩

theorem takeTo_ent {n : Nat} {R : List (List Int)} {o : List Int} (z : Int) (hl : R.length = n) (hr : ∀ i, i < n → (R.getD i []).length = n) (ho : ∀ i, i < n → (o.getD i 0).toNat < n) : ∀ k, k ≤ n → ∀ i j, ent (takeTo R o z k) i j = ent R i j - if i < k ∧ (o.getD i 0).toNat = j then z else 0
  | 0, _, i, j => by simp [takeTo]
  | k + 1, hk, i, j => by
    have ih := takeTo_ent z hl hr ho k (by omega)
    obtain ⟨q1, q2⟩ := takeTo_len R o z k
    simp only [takeTo]
    rw [setM_ent (by rw [q1]; omega) (by rw [q2, hr k (by omega)]; exact ho k (by omega))]
    by_cases e : i = k ∧ j = (o.getD k 0).toNat
    · obtain ⟨rfl, rfl⟩ := e
      rw [if_pos ⟨rfl, rfl⟩, if_pos ⟨by omega, rfl⟩, ih, if_neg (by omega)]
      omega
    · rw [if_neg e, ih]
      by_cases e2 : i < k ∧ (o.getD i 0).toNat = j
      · rw [if_pos e2, if_pos ⟨by omega, e2.2⟩]
      · rw [if_neg e2, if_neg (fun h => by
          by_cases e3 : i = k
          · subst e3; exact e ⟨rfl, h.2.symm⟩
          · exact e2 ⟨by omega, h.2⟩)]

/-- An order as a function. -/
def oF (o : List Int) : Nat → Nat := fun i => (o.getD i 0).toNat

theorem sumN_if {n k : Nat} (hk : k < n) (z : Int) : Lin.sumN n (fun j => if k = j then z else 0) = z := by
  rw [Lin.sumN_one hk (fun i _ hne => by rw [if_neg (Ne.symm hne)]), if_pos rfl]

theorem take_even {n : Nat} {R : List (List Int)} {o : List Int} {T : Int} (z : Int) (hl : R.length = n) (hr : ∀ i, i < n → (R.getD i []).length = n) (ho : Ins n (oF o)) (h : EvT n R T) : EvT n (takeTo R o z n) (T - z) := by
  have te := takeTo_ent z hl hr (o := o) ho.lt n (Nat.le_refl _)
  refine ⟨fun i hi => ?_, fun j hj => ?_⟩
  · have e : Lin.sumN n (fun j => ent (takeTo R o z n) i j) = Lin.sumN n (fun j => ent R i j + - (if oF o i = j then z else 0)) := Lin.sumN_congr fun j _ => by
      rw [te i j]
      by_cases e : oF o i = j
      · rw [if_pos ⟨hi, e⟩, if_pos e]; omega
      · rw [if_neg (fun h => e h.2), if_neg e]; omega
    rw [e, Lin.sumN_add, Lin.sumN_neg, h.row i hi, sumN_if (ho.lt i hi)]
    omega
  · obtain ⟨k, hk, hkj⟩ := ins_onto ho hj
    have e : Lin.sumN n (fun i => ent (takeTo R o z n) i j) = Lin.sumN n (fun i => ent R i j + - (if k = i then z else 0)) := Lin.sumN_congr fun i hi => by
      rw [te i j]
      by_cases e : k = i
      · subst e
        rw [if_pos ⟨hi, hkj⟩, if_pos rfl]; omega
      · rw [if_neg (fun h => e (ho.inj k i hk hi (hkj.trans h.2.symm))), if_neg e]; omega
    rw [e, Lin.sumN_add, Lin.sumN_neg, h.col j hj, sumN_if hk]
    omega

theorem roomTo_succ (R : List (List Int)) (o : List Int) (n : Nat) : roomTo R o (n + 1) = if ent R n (oF o n) < roomTo R o n then ent R n (oF o n) else roomTo R o n := rfl

theorem roomTo_mem {R : List (List Int)} {o : List Int} : ∀ {n : Nat}, 1 ≤ n → ∃ k, k < n ∧ ent R k (oF o k) = roomTo R o n
  | 1, _ => by
    refine ⟨0, by omega, ?_⟩
    have e : roomTo R o 0 = ent R 0 (oF o 0) := rfl
    rw [roomTo_succ, e]
    simp
  | n + 2, _ => by
    obtain ⟨k, hk, e⟩ := roomTo_mem (R := R) (o := o) (n := n + 1) (by omega)
    rw [roomTo_succ R o (n + 1)]
    generalize roomTo R o (n + 1) = r at *
    by_cases h : ent R (n + 1) (oF o (n + 1)) < r
    · exact ⟨n + 1, by omega, by rw [if_pos h]⟩
    · exact ⟨k, by omega, by rw [if_neg h]; exact e⟩

/-- What holds as orders are gone through. -/
structure PF (n : Nat) (done : List (List Int)) (s : PSt) : Prop where
  sq : SqN n s.rest
  ev : ∃ T, EvT n s.rest T
  no : ∀ o ∈ done, ∃ k, k < n ∧ ent s.rest k (oF o k) = 0
  len : s.ords.length = s.many.length
  pos : ∀ i, i < s.many.length → 1 ≤ s.many.getD i 0 ∧ s.many.getD i 0 ≤ 10000
  ins : ∀ o ∈ s.ords, o.length = n ∧ IsOrd n o
  tri : ∃ κ : Nat → Nat, (∀ l, l < s.ords.length → κ l < n ∧ ent s.rest (κ l) (oF (s.ords.getD l []) (κ l)) = 0) ∧ ∀ l l', l < l' → l' < s.ords.length → oF (s.ords.getD l' []) (κ l) ≠ oF (s.ords.getD l []) (κ l)

theorem PF.step {n : Nat} {done : List (List Int)} {s : PSt} {o : List Int} (h : PF n done s) (hn : 1 ≤ n) (ho : IsOrd n o) (hol : o.length = n) : PF n (done ++ [o]) (pStep n s o) := by
  have hin : Ins n (oF o) := ord_ins ho hol
  obtain ⟨km, hkm, hke⟩ := roomTo_mem (R := s.rest) (o := o) hn
  have hrb := roomTo_bd (o := o) h.sq.bd n
  unfold pStep
  by_cases hp : 0 < roomTo s.rest o n
  · rw [if_pos hp]
    generalize hz : roomTo s.rest o n = z at *
    have hle : ∀ i, i < n → z ≤ ent s.rest i (o.getD i 0).toNat := fun i hi => by rw [← hz]; exact roomTo_le hi
    have te := takeTo_ent z h.sq.num h.sq.len (o := o) hin.lt n (Nat.le_refl _)
    have tsq := (takeTo_fact h.sq hin.lt (by omega) hle n (Nat.le_refl _)).1
    have hdown : ∀ i j, ent s.rest i j = 0 → ent (takeTo s.rest o z n) i j = 0 := fun i j e => by
      have a := (tsq.bd i j).1
      rw [te i j, e] at a ⊢
      split at a <;> omega
    have hnew : ent (takeTo s.rest o z n) km (oF o km) = 0 := by
      rw [te, if_pos ⟨hkm, rfl⟩, hke]; omega
    obtain ⟨T, hT⟩ := h.ev
    refine ⟨tsq, ⟨T - z, take_even z h.sq.num h.sq.len hin hT⟩, fun x hx => ?_, by simp [h.len], fun i hi => ?_, fun x hx => ?_, ?_⟩
    · simp only [List.mem_append, List.mem_singleton] at hx
      rcases hx with hx | rfl
      · obtain ⟨k, hk, e⟩ := h.no x hx
        exact ⟨k, hk, hdown _ _ e⟩
      · exact ⟨km, hkm, hnew⟩
    · simp only [List.length_append, List.length_singleton] at hi
      by_cases e : i < s.many.length
      · have e1 : (s.many ++ [z]).getD i 0 = s.many.getD i 0 := by
          simp only [List.getD_eq_getElem?_getD]; rw [List.getElem?_append_left e]
        simp only
        rw [e1]; exact h.pos i e
      · have e0 : i = s.many.length := by omega
        subst e0
        have e1 : (s.many ++ [z]).getD s.many.length 0 = z := by simp
        simp only
        rw [e1]; omega
    · simp only [List.mem_append, List.mem_singleton] at hx
      rcases hx with hx | rfl
      · exact h.ins x hx
      · exact ⟨hol, ho⟩
    · obtain ⟨κ, k1, k2⟩ := h.tri
      have gl : ∀ l, l < s.ords.length → (s.ords ++ [o]).getD l [] = s.ords.getD l [] := fun l hl => by
        simp only [List.getD_eq_getElem?_getD]; rw [List.getElem?_append_left hl]
      have gr : (s.ords ++ [o]).getD s.ords.length [] = o := by simp
      refine ⟨fun l => if l = s.ords.length then km else κ l, fun l hl => ?_, fun l l' hll hl' => ?_⟩
      · simp only [List.length_append, List.length_singleton] at hl
        by_cases e : l = s.ords.length
        · subst e
          simp only [if_true]
          rw [gr]
          exact ⟨hkm, hnew⟩
        · simp only [e, if_false]
          rw [gl l (by omega)]
          obtain ⟨a, b⟩ := k1 l (by omega)
          exact ⟨a, hdown _ _ b⟩
      · simp only [List.length_append, List.length_singleton] at hl'
        have e : l ≠ s.ords.length := by omega
        simp only [e, if_false]
        rw [gl l (by omega)]
        obtain ⟨a, b⟩ := k1 l (by omega)
        by_cases e2 : l' = s.ords.length
        · subst e2
          rw [gr]
          intro ee
          have c := hle (κ l) a
          have c' : ent s.rest (κ l) (oF o (κ l)) = 0 := by rw [ee]; exact b
          have c'' : ent s.rest (κ l) (o.getD (κ l) 0).toNat = 0 := c'
          omega
        · rw [gl l' (by omega)]
          exact k2 l l' hll (by omega)
  · rw [if_neg hp]
    refine ⟨h.sq, h.ev, fun x hx => ?_, h.len, h.pos, h.ins, h.tri⟩
    simp only [List.mem_append, List.mem_singleton] at hx
    rcases hx with hx | rfl
    · exact h.no x hx
    · exact ⟨km, hkm, by rw [hke]; omega⟩

theorem pFold_PF {n : Nat} {m : List (List Int)} {T : Int} (hn : 1 ≤ n) (hm : SqN n m) (hT : EvT n m T) : ∀ (l : List (List Int)), (∀ o ∈ l, o.length = n ∧ IsOrd n o) → PF n l (pFold n m l) := by
  intro l
  suffices H : ∀ (l done : List (List Int)) (s : PSt), PF n done s → (∀ o ∈ l, o.length = n ∧ IsOrd n o) → PF n (done ++ l) (l.foldl (pStep n) s) by
    intro hl
    have := H l [] ⟨m, [], []⟩ ⟨hm, ⟨T, hT⟩, fun o ho => by simp at ho, rfl, fun i hi => by simp at hi, fun o ho => by simp at ho, ⟨fun _ => 0, fun l hl => by simp at hl, fun l l' _ hl => by simp at hl⟩⟩ hl
    simpa [pFold] using this
  intro l
  induction l with
  | nil => intro done s h _; simpa using h
  | cons o l ih =>
    intro done s h hl
    rw [List.foldl_cons]
    have h1 := h.step hn (hl o (by simp)).2 (hl o (by simp)).1
    have := ih (done ++ [o]) _ h1 (fun x hx => hl x (by simp [hx]))
    simpa using this

/-- When all orders are through, nothing is left. -/
theorem rest_zero {n : Nat} {s : PSt} (h : PF n (ords n n []) s) : ∀ i j, i < n → j < n → ent s.rest i j = 0 := by
  obtain ⟨T, hT⟩ := h.ev
  have hn0 : ∀ i j, 0 ≤ ent s.rest i j := fun i j => (h.sq.bd i j).1
  have hT0 : T ≤ 0 := by
    refine Int.not_lt.1 fun hlt => ?_
    obtain ⟨σ, hσ, hp⟩ := birk hn0 hT hlt
    have hm : (List.range n).map (fun i => (σ i : Int)) ∈ ords n n [] := by
      have := ords_all (n := n) n [] ((List.range n).map (fun i => (σ i : Int))) (by simp) (by simpa using ins_ord hσ)
      simpa using this
    obtain ⟨k, hk, e⟩ := h.no _ hm
    have e1 : oF ((List.range n).map (fun i => (σ i : Int))) k = σ k := by simp [oF, hk]
    rw [e1] at e
    have := hp k hk
    omega
  intro i j hi hj
  have h1 := hT.row i hi
  exact sumN_nn_zero (f := fun j => ent s.rest i j) (fun j _ => hn0 i j) (by rw [h1]; exact hT0) j hj

/-- Taken away one after another. -/
def subTo (n : Nat) (m os : List (List Int)) (ks : List Int) : Nat → List (List Int)
  | 0 => m
  | q + 1 => takeTo (subTo n m os ks q) (os.getD q []) (ks.getD q 0) n

theorem subTo_ext {n : Nat} {m os os' : List (List Int)} {ks ks' : List Int} : ∀ {q : Nat}, (∀ i, i < q → os.getD i [] = os'.getD i [] ∧ ks.getD i 0 = ks'.getD i 0) → subTo n m os ks q = subTo n m os' ks' q
  | 0, _ => rfl
  | q + 1, h => by
    simp only [subTo]
    rw [subTo_ext (fun i hi => h i (by omega)), (h q (by omega)).1, (h q (by omega)).2]

theorem pFold_sub {n : Nat} {m : List (List Int)} : ∀ (l : List (List Int)), subTo n m (pFold n m l).ords (pFold n m l).many (pFold n m l).many.length = (pFold n m l).rest := by
  intro l
  suffices H : ∀ (l : List (List Int)) (s : PSt), s.ords.length = s.many.length → subTo n m s.ords s.many s.many.length = s.rest → subTo n m (l.foldl (pStep n) s).ords (l.foldl (pStep n) s).many (l.foldl (pStep n) s).many.length = (l.foldl (pStep n) s).rest from H l ⟨m, [], []⟩ rfl rfl
  intro l
  induction l with
  | nil => intro s _ h; exact h
  | cons o l ih =>
    intro s hs h
    rw [List.foldl_cons]
    refine ih _ ?_ ?_
    · unfold pStep; split
      · simp [hs]
      · exact hs
    · unfold pStep
      split
      · simp only [List.length_append, List.length_singleton, subTo]
        have e : subTo n m (s.ords ++ [o]) (s.many ++ [roomTo s.rest o n]) s.many.length = s.rest := by
          rw [← h]
          refine subTo_ext fun i hi => ⟨?_, ?_⟩
          · simp only [List.getD_eq_getElem?_getD]; rw [List.getElem?_append_left (by omega)]
          · simp only [List.getD_eq_getElem?_getD]; rw [List.getElem?_append_left hi]
        rw [e]
        have e1 : (s.ords ++ [o]).getD s.many.length [] = o := by rw [← hs]; simp
        have e2 : (s.many ++ [roomTo s.rest o n]).getD s.many.length 0 = roomTo s.rest o n := by simp
        rw [e1, e2]
      · exact h

end Go.Proofs.Ytmffbaclgbmnbaa
