import Derived.Test.YtkdileeahbaobaaDoorData
import Derived.Test.YtkdileeahbaobaaDoorMt8
import Derived.Test.YtkdileeahbaobaaDoorMt9a
import Derived.Deep.OwnRows
/- Graphs, pure: edges lead nowhere around, as the program says it (each joins two parts) and as the document does (nodes less parts are as many as edges; parts by names that grow less, round by round). -/
namespace Go.Proofs.YtkdileeahbaobaaDoor

/-- Two parts become one: b's name for what had a's. -/
def jn (p : Nat → Nat) (a b : Nat) : Nat → Nat := fun v => if p v = p a then p b else p v

def jns : List (Nat × Nat) → (Nat → Nat) → (Nat → Nat)
  | [], p => p
  | e :: es, p => jns es (jn p e.1 e.2)

/-- Does each edge join two parts? -/
def fsB : List (Nat × Nat) → (Nat → Nat) → Bool
  | [], _ => true
  | e :: es, p => if p e.1 = p e.2 then false else fsB es (jn p e.1 e.2)

/-- Is v the least of its part? -/
def lsB (p : Nat → Nat) (v : Nat) : Bool := (List.range v).all (fun u => !(p u == p v))

/-- How many parts there are. -/
def ptN (n : Nat) (p : Nat → Nat) : Nat := (List.range n).countP (lsB p)

theorem lsB_iff {p : Nat → Nat} {v : Nat} : lsB p v = true ↔ ∀ u, u < v → p u ≠ p v := by
  unfold lsB
  rw [List.all_eq_true]
  constructor
  · intro h u hu e
    have := h u (List.mem_range.2 hu)
    simp [e] at this
  · intro h u hu
    have := h u (List.mem_range.1 hu)
    simp [this]

theorem jn_eq {p : Nat → Nat} {a b u v : Nat} :
    jn p a b u = jn p a b v ↔ p u = p v ∨ (p u = p a ∧ p v = p b) ∨ (p u = p b ∧ p v = p a) := by
  unfold jn
  by_cases h1 : p u = p a <;> by_cases h2 : p v = p a
  · simp [h1, h2]
  · simp only [h1, h2, if_true, if_false]
    constructor
    · intro e; exact Or.inr (Or.inl ⟨trivial, e.symm⟩)
    · rintro (e | ⟨_, e⟩ | ⟨_, e⟩)
      · exact absurd e.symm h2
      · exact e.symm
      · exact absurd e (by simp)
  · simp only [h1, h2, if_true, if_false]
    constructor
    · intro e; exact Or.inr (Or.inr ⟨e, trivial⟩)
    · rintro (e | ⟨e, _⟩ | ⟨e, _⟩)
      · exact absurd e (by simp)
      · exact absurd e (by simp)
      · exact e
  · simp [h1, h2]

theorem jn_same {p : Nat → Nat} {a b : Nat} (h : p a = p b) : jn p a b = p := by
  funext v
  unfold jn
  by_cases e : p v = p a
  · rw [if_pos e, e, h]
  · rw [if_neg e]

/-- A part has a least node. -/
theorem ls_ex (p : Nat → Nat) : ∀ v, ∃ m, m ≤ v ∧ p m = p v ∧ lsB p m = true := by
  intro v
  induction v using Nat.strongRecOn with
  | _ v ih =>
    by_cases h : lsB p v = true
    · exact ⟨v, Nat.le_refl _, rfl, h⟩
    · have hx : ∃ u, u < v ∧ p u = p v := by
        refine Classical.byContradiction fun hn => h (lsB_iff.2 fun u hu e => hn ⟨u, hu, e⟩)
      obtain ⟨u, hu, e⟩ := hx
      obtain ⟨m, hm, em, lm⟩ := ih u hu
      exact ⟨m, by omega, em.trans e, lm⟩

theorem ls_le {p : Nat → Nat} {m v : Nat} (h : lsB p m = true) (e : p m = p v) : m ≤ v := by
  have := lsB_iff.1 h v
  by_cases c : v < m
  · exact absurd e.symm (this c)
  · omega

theorem ls_one {p : Nat → Nat} {m v : Nat} (h : lsB p m = true) (h2 : lsB p v = true) (e : p m = p v) : m = v :=
  Nat.le_antisymm (ls_le h e) (ls_le h2 e.symm)

theorem countP_ne {f g : Nat → Bool} {m : Nat} : ∀ n, m < n → f m = true → (∀ v, g v = (f v && !(v == m))) →
    (List.range n).countP g + 1 = (List.range n).countP f
  | 0, h, _, _ => by omega
  | n + 1, h, hm, hg => by
    rw [List.range_succ, List.countP_append, List.countP_append]
    by_cases e : n = m
    · subst e
      have hs : (List.range n).countP g = (List.range n).countP f := by
        refine List.countP_congr fun v hv => ?_
        have := List.mem_range.1 hv
        have : (v == n) = false := by simp; omega
        rw [hg v, this]; simp
      rw [hs]
      have : g n = false := by rw [hg n]; simp
      simp [this, hm]
    · have := countP_ne n (by omega) hm hg
      have e2 : g n = f n := by
        have : (n == m) = false := by simp [e]
        rw [hg n, this]; simp
      have e3 : List.countP g [n] = List.countP f [n] := by simp [e2]
      omega

theorem pt_less {p : Nat → Nat} {a b n : Nat} (h : p a ≠ p b) (ha : a < n) (hb : b < n) : ptN n (jn p a b) + 1 = ptN n p := by
  obtain ⟨x, hx, ex, lx⟩ := ls_ex p a
  obtain ⟨y, hy, ey, ly⟩ := ls_ex p b
  have hxy : x ≠ y := fun e => h (by rw [← ex, ← ey, e])
  have key : ∀ m, m = max x y → ∀ v, lsB (jn p a b) v = (lsB p v && !(v == m)) := by
    intro m em v
    rw [Bool.eq_iff_iff, Bool.and_eq_true, lsB_iff]
    constructor
    · intro hv
      have h1 : lsB p v = true := lsB_iff.2 fun u hu e => hv u hu (jn_eq.2 (Or.inl e))
      refine ⟨h1, ?_⟩
      by_cases c : v = m
      · exfalso
        by_cases d : x < y
        · have e1 : v = y := by omega
          exact hv x (by omega) (jn_eq.2 (Or.inr (Or.inl ⟨ex, by rw [e1, ey]⟩)))
        · have e1 : v = x := by omega
          exact hv y (by omega) (jn_eq.2 (Or.inr (Or.inr ⟨ey, by rw [e1, ex]⟩)))
      · simp [c]
    · rintro ⟨h1, h2⟩ u hu e
      have h2' : v ≠ m := by simpa using h2
      rcases jn_eq.1 e with e | ⟨e1, e2⟩ | ⟨e1, e2⟩
      · exact lsB_iff.1 h1 u hu e
      · have : v = y := ls_one h1 ly (e2.trans ey.symm)
        have := ls_le lx (ex.trans e1.symm)
        omega
      · have : v = x := ls_one h1 lx (e2.trans ex.symm)
        have := ls_le ly (ey.trans e1.symm)
        omega
  refine countP_ne n (m := max x y) (by omega) ?_ (key _ rfl)
  by_cases d : x < y
  · rw [Nat.max_eq_right (by omega)]; exact ly
  · rw [Nat.max_eq_left (by omega)]; exact lx

theorem fs_count {n : Nat} : ∀ (es : List (Nat × Nat)) (p : Nat → Nat), (∀ e ∈ es, e.1 < n ∧ e.2 < n) →
    ptN n p ≤ ptN n (jns es p) + es.length ∧ (fsB es p = true ↔ ptN n (jns es p) + es.length = ptN n p)
  | [], p, _ => by simp [jns, fsB]
  | e :: es, p, h => by
    have he := h e (List.mem_cons_self ..)
    have ih := fs_count es (jn p e.1 e.2) fun x hx => h x (List.mem_cons_of_mem _ hx)
    simp only [jns, fsB, List.length_cons]
    by_cases c : p e.1 = p e.2
    · rw [if_pos c]
      have e1 := jn_same c
      rw [e1] at ih ⊢
      refine ⟨by omega, ?_⟩
      constructor
      · intro x; exact absurd x (by simp)
      · intro x; omega
    · rw [if_neg c]
      have := pt_less c he.1 he.2
      refine ⟨by omega, ?_⟩
      rw [ih.2]
      omega

theorem pt_id (n : Nat) : ptN n (fun v => v) = n := by
  unfold ptN
  have : (List.range n).countP (lsB fun v => v) = (List.range n).length := by
    rw [List.countP_eq_length]
    intro v _
    exact lsB_iff.2 fun u hu => Nat.ne_of_lt hu
  rw [this, List.length_range]

theorem jns_keep : ∀ (es : List (Nat × Nat)) {p : Nat → Nat} {u v : Nat}, p u = p v → jns es p u = jns es p v
  | [], _, _, _, h => h
  | _ :: es, _, _, _, h => jns_keep es (jn_eq.2 (Or.inl h))

theorem jns_join : ∀ (es : List (Nat × Nat)) (p : Nat → Nat) (e : Nat × Nat), e ∈ es → jns es p e.1 = jns es p e.2
  | [], _, _, h => absurd h (by simp)
  | x :: es, p, e, h => by
    rcases List.mem_cons.1 h with h | h
    · subst h
      exact jns_keep es (jn_eq.2 (Or.inr (Or.inl ⟨rfl, rfl⟩)))
    · exact jns_join es _ e h

theorem jns_closed {S : Nat → Prop} : ∀ (es : List (Nat × Nat)) {p : Nat → Nat}, (∀ u v, p u = p v → (S u ↔ S v)) →
    (∀ e ∈ es, (S e.1 ↔ S e.2)) → ∀ u v, jns es p u = jns es p v → (S u ↔ S v)
  | [], _, h, _ => h
  | e :: es, p, h, he => by
    refine jns_closed es (fun u v x => ?_) fun y hy => he y (List.mem_cons_of_mem _ hy)
    have hx := he e (List.mem_cons_self ..)
    rcases jn_eq.1 x with x | ⟨x, y⟩ | ⟨x, y⟩
    · exact h u v x
    · exact (h u _ x).trans (hx.trans (h _ v y.symm))
    · exact (h u _ x).trans (hx.symm.trans (h _ v y.symm))

/-- The document's step: the lesser of two names for both. -/
def lw (q : Nat → Nat) (a b : Nat) : Nat → Nat :=
  fun v => if q a < q b then (if v = b then q a else q v) else (if v = a then q b else q v)

def lws : List (Nat × Nat) → (Nat → Nat) → (Nat → Nat)
  | [], q => q
  | e :: es, q => lws es (lw q e.1 e.2)

def rnd (es : List (Nat × Nat)) : Nat → (Nat → Nat) → (Nat → Nat)
  | 0, q => q
  | k + 1, q => lws es (rnd es k q)

/-- Each name is of its own part, and no greater than the node. -/
def NmO (p q : Nat → Nat) : Prop := ∀ v, q v ≤ v ∧ p (q v) = p v

theorem lw_ok {p q : Nat → Nat} {a b : Nat} (h : NmO p q) (e : p a = p b) : NmO p (lw q a b) ∧ ∀ v, lw q a b v ≤ q v := by
  constructor
  · intro v
    unfold lw
    have ha := h a
    have hb := h b
    have hv := h v
    by_cases c : q a < q b
    · rw [if_pos c]
      by_cases d : v = b
      · rw [if_pos d, d]; exact ⟨by omega, ha.2.trans e⟩
      · rw [if_neg d]; exact hv
    · rw [if_neg c]
      by_cases d : v = a
      · rw [if_pos d, d]; exact ⟨by omega, hb.2.trans e.symm⟩
      · rw [if_neg d]; exact hv
  · intro v
    unfold lw
    by_cases c : q a < q b
    · rw [if_pos c]
      by_cases d : v = b
      · rw [if_pos d, d]; omega
      · rw [if_neg d]; omega
    · rw [if_neg c]
      by_cases d : v = a
      · rw [if_pos d, d]; omega
      · rw [if_neg d]; omega

theorem nm_stay {p q r : Nat → Nat} {v : Nat} (h : NmO p q) (hr : NmO p r) (l : r v ≤ q v) (s : lsB p (q v) = true) : r v = q v :=
  Nat.le_antisymm l (ls_le s ((h v).2.trans (hr v).2.symm))

theorem lws_ok {p : Nat → Nat} : ∀ (es : List (Nat × Nat)) {q : Nat → Nat}, NmO p q → (∀ e ∈ es, p e.1 = p e.2) →
    NmO p (lws es q) ∧ ∀ v, lws es q v ≤ q v
  | [], _, h, _ => ⟨h, fun _ => Nat.le_refl _⟩
  | e :: es, q, h, he => by
    have h1 := lw_ok h (he e (List.mem_cons_self ..))
    have h2 := lws_ok es h1.1 fun x hx => he x (List.mem_cons_of_mem _ hx)
    exact ⟨h2.1, fun v => Nat.le_trans (h2.2 v) (h1.2 v)⟩

/-- An edge hands a least name on, both ways. -/
theorem lw_hand {p q : Nat → Nat} {a b : Nat} (h : NmO p q) (e : p a = p b) :
    (lsB p (q a) = true → lsB p (lw q a b b) = true) ∧ (lsB p (q b) = true → lsB p (lw q a b a) = true) := by
  have ha := h a
  have hb := h b
  have e2 : p (q a) = p (q b) := ha.2.trans (e.trans hb.2.symm)
  constructor
  · intro s
    have hl := ls_le s e2
    unfold lw
    by_cases c : q a < q b
    · rw [if_pos c, if_pos rfl]; exact s
    · rw [if_neg c]
      have e3 : q a = q b := by omega
      by_cases d : b = a
      · rw [if_pos d, ← e3]; exact s
      · rw [if_neg d, ← e3]; exact s
  · intro s
    have hl := ls_le s e2.symm
    unfold lw
    have c : ¬ q a < q b := by omega
    rw [if_neg c, if_pos rfl]; exact s

theorem lws_hand {p : Nat → Nat} : ∀ (es : List (Nat × Nat)) {q : Nat → Nat}, NmO p q → (∀ e ∈ es, p e.1 = p e.2) → ∀ e ∈ es,
    (lsB p (q e.1) = true → lsB p (lws es q e.2) = true) ∧ (lsB p (q e.2) = true → lsB p (lws es q e.1) = true)
  | [], _, _, _, e, he => absurd he (by simp)
  | x :: es, q, h, hp, e, he => by
    have hx := hp x (List.mem_cons_self ..)
    have hp' : ∀ y ∈ es, p y.1 = p y.2 := fun y hy => hp y (List.mem_cons_of_mem _ hy)
    have h1 := lw_ok h hx
    have h2 := lws_ok es h1.1 hp'
    simp only [lws]
    rcases List.mem_cons.1 he with g | g
    · subst g
      have hh := lw_hand h hx
      constructor
      · intro s
        have s' := hh.1 s
        rw [nm_stay h1.1 h2.1 (h2.2 _) s']; exact s'
      · intro s
        have s' := hh.2 s
        rw [nm_stay h1.1 h2.1 (h2.2 _) s']; exact s'
    · have hh := lws_hand es h1.1 hp' e g
      constructor
      · intro s
        refine hh.1 ?_
        rw [nm_stay h h1.1 (h1.2 _) s]; exact s
      · intro s
        refine hh.2 ?_
        rw [nm_stay h h1.1 (h1.2 _) s]; exact s

theorem countP_back {f g : Nat → Bool} : ∀ n, (∀ v, v < n → f v = true → g v = true) →
    (List.range n).countP f ≤ (List.range n).countP g ∧
      ((List.range n).countP f = (List.range n).countP g → ∀ v, v < n → g v = true → f v = true)
  | 0, _ => ⟨by simp, fun _ v hv => by omega⟩
  | n + 1, h => by
    have ih := countP_back n fun v hv => h v (by omega)
    have hn := h n (by omega)
    rw [List.range_succ, List.countP_append, List.countP_append]
    have hf : List.countP f [n] = if f n = true then 1 else 0 := by
      by_cases c : f n = true <;> simp [c]
    have hg : List.countP g [n] = if g n = true then 1 else 0 := by
      by_cases c : g n = true <;> simp [c]
    rw [hf, hg]
    by_cases c : f n = true
    · rw [if_pos c, if_pos (hn c)]
      refine ⟨by omega, fun e v hv s => ?_⟩
      by_cases d : v = n
      · rw [d]; exact c
      · exact ih.2 (by omega) v (by omega) s
    · rw [if_neg c]
      by_cases c2 : g n = true
      · rw [if_pos c2]
        exact ⟨by omega, fun e => by omega⟩
      · rw [if_neg c2]
        refine ⟨by omega, fun e v hv s => ?_⟩
        by_cases d : v = n
        · rw [d] at s; exact absurd s c2
        · exact ih.2 (by omega) v (by omega) s

theorem rnd_ok {p : Nat → Nat} {es : List (Nat × Nat)} {q : Nat → Nat} (h : NmO p q) (he : ∀ e ∈ es, p e.1 = p e.2) :
    ∀ k, NmO p (rnd es k q)
  | 0 => h
  | k + 1 => (lws_ok es (rnd_ok h he k) he).1

/-- After as many rounds as there are nodes each name is the least. -/
theorem rnd_all {n : Nat} {es : List (Nat × Nat)} (hn : ∀ e ∈ es, e.1 < n ∧ e.2 < n) : ∀ k,
    min k n ≤ (List.range n).countP (fun v => lsB (jns es fun v => v) (rnd es k (fun v => v) v))
  | 0 => by omega
  | k + 1 => by
    have he : ∀ e ∈ es, jns es (fun v => v) e.1 = jns es (fun v => v) e.2 := fun e h => jns_join es _ e h
    have h0 : NmO (jns es fun v => v) (fun v => v) := fun v => ⟨Nat.le_refl _, rfl⟩
    have hk := rnd_ok h0 he k
    have h1 := lws_ok es hk he
    have ih := rnd_all hn k
    have hs : ∀ v, v < n → lsB (jns es fun v => v) (rnd es k (fun v => v) v) = true →
        lsB (jns es fun v => v) (rnd es (k + 1) (fun v => v) v) = true := by
      intro v _ s
      simp only [rnd]
      rw [nm_stay hk h1.1 (h1.2 v) s]; exact s
    have hb := countP_back n hs
    by_cases c : (List.range n).countP (fun v => lsB (jns es fun v => v) (rnd es k (fun v => v) v)) =
        (List.range n).countP (fun v => lsB (jns es fun v => v) (rnd es (k + 1) (fun v => v) v))
    · have hq := hb.2 c
      have hc : ∀ e ∈ es, (lsB (jns es fun v => v) (rnd es k (fun v => v) e.1) = true ↔
          lsB (jns es fun v => v) (rnd es k (fun v => v) e.2) = true) := by
        intro e hm
        have hh := lws_hand es hk he e hm
        exact ⟨fun s => hq _ (hn e hm).2 (hh.1 s), fun s => hq _ (hn e hm).1 (hh.2 s)⟩
      have hcl := jns_closed (S := fun v => lsB (jns es fun v => v) (rnd es k (fun v => v) v) = true) es
        (p := fun v => v) (fun u v e => by have e2 : u = v := e; rw [e2]) hc
      have hall : ∀ v, lsB (jns es fun v => v) (rnd es k (fun v => v) v) = true := by
        intro v
        obtain ⟨m, _, em, lm⟩ := ls_ex (jns es fun v => v) v
        refine (hcl m v em).1 ?_
        have e1 : rnd es k (fun v => v) m = m :=
          Nat.le_antisymm (hk m).1 (ls_le lm (hk m).2.symm)
        simp only [e1]; exact lm
      have : (List.range n).countP (fun v => lsB (jns es fun v => v) (rnd es k (fun v => v) v)) = (List.range n).length := by
        rw [List.countP_eq_length]
        intro v _
        exact hall v
      rw [List.length_range] at this
      omega
    · have := hb.1
      omega

/-- How many names are the node's own, after n rounds. -/
def arN (n : Nat) (es : List (Nat × Nat)) : Nat := (List.range n).countP (fun v => rnd es n (fun v => v) v == v)

theorem ar_pt {n : Nat} {es : List (Nat × Nat)} (hn : ∀ e ∈ es, e.1 < n ∧ e.2 < n) : arN n es = ptN n (jns es fun v => v) := by
  have he : ∀ e ∈ es, jns es (fun v => v) e.1 = jns es (fun v => v) e.2 := fun e h => jns_join es _ e h
  have h0 : NmO (jns es fun v => v) (fun v => v) := fun v => ⟨Nat.le_refl _, rfl⟩
  have hk := rnd_ok h0 he n
  have ha := rnd_all hn n
  have hl : (List.range n).countP (fun v => lsB (jns es fun v => v) (rnd es n (fun v => v) v)) = (List.range n).length := by
    have := List.countP_le_length (l := List.range n) (p := fun v => lsB (jns es fun v => v) (rnd es n (fun v => v) v))
    rw [List.length_range] at this ⊢
    omega
  rw [List.countP_eq_length] at hl
  unfold arN ptN
  refine List.countP_congr fun v hv => ?_
  have s := hl v hv
  simp only [beq_iff_eq]
  constructor
  · intro e
    rw [e] at s; exact s
  · intro s2
    exact ls_one s s2 (hk v).2

/-- Edges lead nowhere around, by the program's reckoning and by the document's. -/
theorem fs_ar {n : Nat} {es : List (Nat × Nat)} (hn : ∀ e ∈ es, e.1 < n ∧ e.2 < n) :
    arN n es ≤ n ∧ (fsB es (fun v => v) = true ↔ n - arN n es = es.length) := by
  have h1 := fs_count es (fun v => v) hn
  rw [pt_id, ← ar_pt hn] at h1
  have h2 : arN n es ≤ n := by
    have := List.countP_le_length (l := List.range n) (p := fun v => rnd es n (fun v => v) v == v)
    rw [List.length_range] at this
    exact this
  refine ⟨h2, ?_⟩
  rw [h1.2]
  omega

end Go.Proofs.YtkdileeahbaobaaDoor

/- Graphs: a list of edges in the heap; the edges of a set. -/
namespace Go.Proofs.YtkdileeahbaobaaDoor
open Go.RowKit

/-- A list of edges. -/
def Eds (B : Nat) (w : World) (v : Value) (es : List (Nat × Nat)) : Prop :=
  ∃ po pc, v = .slice po es.length pc ∧ ∀ i, i < es.length → ∃ b o, po = some ⟨b, o, none⟩ ∧ b < B ∧ w.cell? ⟨b, o + i * 2, none⟩ = some (.int .i64 (es.getD i (0, 0)).1) ∧ w.cell? ⟨b, o + i * 2 + 1, none⟩ = some (.int .i64 (es.getD i (0, 0)).2)

theorem Eds.below {B N : Nat} {w w' : World} {v : Value} {es : List (Nat × Nat)} (h : Eds B w v es) (hb : Below N w w') (hN : B ≤ N) : Eds B w' v es := by
  obtain ⟨po, pc, h1, h2⟩ := h
  refine ⟨po, pc, h1, fun i hi => ?_⟩
  obtain ⟨b, o, e, l, c1, c2⟩ := h2 i hi
  exact ⟨b, o, e, l, (hb.cell (by show b < N; omega)).trans c1, (hb.cell (by show b < N; omega)).trans c2⟩

theorem Eds.more {B B' : Nat} {w : World} {v : Value} {es : List (Nat × Nat)} (h : Eds B w v es) (hB : B ≤ B') : Eds B' w v es := by
  obtain ⟨po, pc, h1, h2⟩ := h
  refine ⟨po, pc, h1, fun i hi => ?_⟩
  obtain ⟨b, o, e, l, c⟩ := h2 i hi
  exact ⟨b, o, e, by omega, c⟩

/-- The edges of a set. -/
def pkE (es : List (Nat × Nat)) (s : Nat) : List (Nat × Nat) := (mem8 s).map fun z => es.getD z.toNat (0, 0)

theorem pkE_len (es : List (Nat × Nat)) (s : Nat) : (pkE es s).length = (mem8 s).length := by simp [pkE]

theorem pkE_getD (es : List (Nat × Nat)) (s t : Nat) (h : t < (mem8 s).length) : (pkE es s).getD t (0, 0) = es.getD ((mem8 s).getD t 0).toNat (0, 0) := by
  simp [pkE, h]

theorem pkE_lt {es : List (Nat × Nat)} {s n : Nat} (hs : s < 2 ^ es.length) (h : ∀ e ∈ es, e.1 < n ∧ e.2 < n) : ∀ e ∈ pkE es s, e.1 < n ∧ e.2 < n := by
  intro e he
  obtain ⟨z, hz, rfl⟩ := List.mem_map.1 he
  obtain ⟨i, _, h2, rfl⟩ := mem8_iff.1 hz
  have hi : i < es.length := bit_lt hs h2
  refine h _ ?_
  simp [hi]

theorem lws_append : ∀ (a b : List (Nat × Nat)) (q : Nat → Nat), lws (a ++ b) q = lws b (lws a q)
  | [], _, _ => rfl
  | e :: a, b, q => by
    simp only [List.cons_append, lws]
    exact lws_append a b _

theorem jns_append : ∀ (a b : List (Nat × Nat)) (q : Nat → Nat), jns (a ++ b) q = jns b (jns a q)
  | [], _, _ => rfl
  | e :: a, b, q => by
    simp only [List.cons_append, jns]
    exact jns_append a b _

theorem take_one {l : List (Nat × Nat)} {t : Nat} (h : t < l.length) : l.take (t + 1) = l.take t ++ [l.getD t (0, 0)] := by
  rw [List.take_add_one]
  simp [h]

theorem lws_take {l : List (Nat × Nat)} {t : Nat} (q : Nat → Nat) (h : t < l.length) : lws (l.take (t + 1)) q = lw (lws (l.take t) q) (l.getD t (0, 0)).1 (l.getD t (0, 0)).2 := by
  rw [take_one h, lws_append]
  rfl

theorem jns_take {l : List (Nat × Nat)} {t : Nat} (q : Nat → Nat) (h : t < l.length) : jns (l.take (t + 1)) q = jn (jns (l.take t) q) (l.getD t (0, 0)).1 (l.getD t (0, 0)).2 := by
  rw [take_one h, jns_append]
  rfl

/-- The first edge that joins nothing, or none. -/
theorem fsB_at : ∀ (l : List (Nat × Nat)) (q : Nat → Nat), fsB l q = true ↔ ∀ t, t < l.length → jns (l.take t) q (l.getD t (0, 0)).1 ≠ jns (l.take t) q (l.getD t (0, 0)).2
  | [], _ => by simp [fsB]
  | e :: l, q => by
    simp only [fsB]
    by_cases c : q e.1 = q e.2
    · rw [if_pos c]
      constructor
      · intro x; exact absurd x (by simp)
      · intro x; exact absurd c (x 0 (by simp))
    · rw [if_neg c, fsB_at l]
      constructor
      · intro h t ht
        cases t with
        | zero => exact c
        | succ t => exact h t (by simpa using ht)
      · intro h t ht
        exact h (t + 1) (by simpa using ht)

/-- How many names are the node's own, of the first nodes. -/
def owN (g : Nat → Nat) (t : Nat) : Nat := (List.range t).countP fun v => g v == v

theorem owN_succ (g : Nat → Nat) (t : Nat) : owN g (t + 1) = owN g t + if g t = t then 1 else 0 := by
  unfold owN
  rw [List.range_succ, List.countP_append]
  by_cases c : g t = t <;> simp [c]

theorem owN_le (g : Nat → Nat) (t : Nat) : owN g t ≤ t := by
  have := List.countP_le_length (l := List.range t) (p := fun v => g v == v)
  rw [List.length_range] at this
  exact this

end Go.Proofs.YtkdileeahbaobaaDoor
