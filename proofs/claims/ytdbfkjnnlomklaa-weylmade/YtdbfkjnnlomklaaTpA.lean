import Derived.Test.YtdbfkjnnlomklaaDaA
import Derived.Test.YtdbfkjnnlomklaaCycAll
import Derived.Test.YtdbfkjnnlomklaaRefA
import Derived.Test.YtdbfkjnnlomklaaRuA
import Derived.Deep.OwnRows
/- Least choices of a square, pure: orders, what a cycle of rows costs, prices by going down from column to column. -/
namespace Go.Proofs.Ytdbfkjnnlomklaa

/-- The number in row i and column j. -/
def ent (M : List (List Int)) (i j : Nat) : Int := (M.getD i []).getD j 0

/-- The sum of the numbers that a function chooses, in the first k rows. -/
def costF (M : List (List Int)) (f : Nat → Nat) : Nat → Int
  | 0 => 0
  | k + 1 => costF M f k + ent M k (f k)

/-- All orders of n numbers that open with what is there, k more to come. -/
def ords (n : Nat) : Nat → List Int → List (List Int)
  | 0, h => [h]
  | k + 1, h => (List.range n).flatMap fun (v : Nat) => if h.contains (v : Int) then [] else ords n k (h ++ [(v : Int)])

/-- Numbers below n, no two alike. -/
def IsOrd (n : Nat) (o : List Int) : Prop := (∀ z ∈ o, 0 ≤ z ∧ z < (n : Int)) ∧ o.Nodup

theorem ords_is {n : Nat} : ∀ (k : Nat) (h o : List Int), IsOrd n h → o ∈ ords n k h → IsOrd n o ∧ o.length = h.length + k
  | 0, h, o, hh, ho => by
    simp only [ords, List.mem_singleton] at ho
    subst ho
    exact ⟨hh, rfl⟩
  | k + 1, h, o, hh, ho => by
    simp only [ords, List.mem_flatMap, List.mem_range] at ho
    obtain ⟨v, hv, ho⟩ := ho
    split at ho
    · simp at ho
    · rename_i hc
      have hn : (v : Int) ∉ h := by simpa using hc
      have h' : IsOrd n (h ++ [(v : Int)]) := by
        refine ⟨fun z hz => ?_, ?_⟩
        · rcases List.mem_append.1 hz with hz | hz
          · exact hh.1 z hz
          · simp only [List.mem_singleton] at hz
            omega
        · rw [List.nodup_append]
          refine ⟨hh.2, by simp, fun a ha b hb e => ?_⟩
          simp only [List.mem_singleton] at hb
          subst hb
          subst e
          exact hn ha
      obtain ⟨h1, h2⟩ := ords_is k _ o h' ho
      refine ⟨h1, ?_⟩
      rw [h2]
      simp
      omega

theorem ords_all {n : Nat} : ∀ (k : Nat) (h t : List Int), t.length = k → IsOrd n (h ++ t) → h ++ t ∈ ords n k h
  | 0, h, t, hk, _ => by
    have : t = [] := List.eq_nil_of_length_eq_zero hk
    subst this
    simp [ords]
  | k + 1, h, [], hk, _ => by simp at hk
  | k + 1, h, z :: t, hk, ho => by
    have hz := ho.1 z (by simp)
    have hn : z ∉ h := fun hz => by
      have := (List.nodup_append.1 ho.2).2.2 z hz z (by simp)
      exact this rfl
    have h1 := ords_all k (h ++ [z]) t (by simpa using hk) (by rw [List.append_assoc]; exact ho)
    rw [List.append_assoc] at h1
    simp only [ords, List.mem_flatMap, List.mem_range]
    refine ⟨z.toNat, by omega, ?_⟩
    have e : ((z.toNat : Nat) : Int) = z := by omega
    rw [e]
    have hc : h.contains z = false := by simpa using hn
    rw [hc]
    exact h1

/-- What a choice costs. -/
def cst (M : List (List Int)) (n : Nat) (o : List Int) : Int := costF M (fun i => (o.getD i 0).toNat) n

/-- One choice held against the best so far (an empty list: none yet). -/
def lstp (M : List (List Int)) (n : Nat) (s : Int × List Int) (o : List Int) : Int × List Int :=
  if s.2 = [] ∨ cst M n o < s.1 then (cst M n o, o) else s

/-- The least sum, and the first choice that has it. -/
def leastP (M : List (List Int)) (n : Nat) (l : List (List Int)) : Int × List Int := l.foldl (lstp M n) (0, [])

theorem leastP_snoc (M : List (List Int)) (n : Nat) (l : List (List Int)) (o : List Int) : leastP M n (l ++ [o]) = lstp M n (leastP M n l) o := by simp [leastP]

theorem least_fold (M : List (List Int)) (n : Nat) : ∀ (l : List (List Int)) (s : Int × List Int), (∀ o ∈ l, o ≠ []) → s.2 ≠ [] → s.1 = cst M n s.2 →
    (l.foldl (lstp M n) s).1 = cst M n (l.foldl (lstp M n) s).2 ∧ (l.foldl (lstp M n) s).1 ≤ s.1 ∧ ((l.foldl (lstp M n) s).2 = s.2 ∨ (l.foldl (lstp M n) s).2 ∈ l) ∧ (∀ o ∈ l, (l.foldl (lstp M n) s).1 ≤ cst M n o)
  | [], s, _, _, hs => ⟨hs, Int.le_refl _, .inl rfl, fun o ho => by cases ho⟩
  | o :: l, s, hne, h0, hs => by
    rw [List.foldl_cons]
    by_cases hc : cst M n o < s.1
    · have e : lstp M n s o = (cst M n o, o) := by simp [lstp, hc]
      rw [e]
      obtain ⟨h1, h2, h3, h4⟩ := least_fold M n l (cst M n o, o) (fun x hx => hne x (by simp [hx])) (hne o (by simp)) rfl
      refine ⟨h1, by simp only at h2; omega, ?_, fun x hx => ?_⟩
      · rcases h3 with h3 | h3
        · right; rw [h3]; simp
        · right; simp [h3]
      · rcases List.mem_cons.1 hx with rfl | hx
        · exact h2
        · exact h4 x hx
    · have e : lstp M n s o = s := by simp [lstp, hc, h0]
      rw [e]
      obtain ⟨h1, h2, h3, h4⟩ := least_fold M n l s (fun x hx => hne x (by simp [hx])) h0 hs
      refine ⟨h1, h2, ?_, fun x hx => ?_⟩
      · rcases h3 with h3 | h3
        · exact .inl h3
        · right; simp [h3]
      · rcases List.mem_cons.1 hx with rfl | hx
        · omega
        · exact h4 x hx

theorem least_fact (M : List (List Int)) (n : Nat) (o : List Int) (l : List (List Int)) (hne : ∀ x ∈ o :: l, x ≠ []) :
    (leastP M n (o :: l)).1 = cst M n (leastP M n (o :: l)).2 ∧ (leastP M n (o :: l)).2 ∈ o :: l ∧ ∀ x ∈ o :: l, (leastP M n (o :: l)).1 ≤ cst M n x := by
  have e : leastP M n (o :: l) = l.foldl (lstp M n) (cst M n o, o) := by simp [leastP, lstp]
  rw [e]
  obtain ⟨h1, h2, h3, h4⟩ := least_fold M n l (cst M n o, o) (fun x hx => hne x (by simp [hx])) (hne o (by simp)) rfl
  refine ⟨h1, ?_, fun x hx => ?_⟩
  · rcases h3 with h3 | h3
    · rw [h3]; simp
    · simp [h3]
  · rcases List.mem_cons.1 hx with rfl | hx
    · exact h2
    · exact h4 x hx

/-- Numbers below n, each once: a function. -/
structure Ins (n : Nat) (f : Nat → Nat) : Prop where
  lt : ∀ i, i < n → f i < n
  inj : ∀ i j, i < n → j < n → f i = f j → i = j

theorem costF_congr {M : List (List Int)} {f g : Nat → Nat} : ∀ {k : Nat}, (∀ i, i < k → f i = g i) → costF M f k = costF M g k
  | 0, _ => rfl
  | k + 1, h => by
    simp only [costF]
    rw [costF_congr (fun i hi => h i (by omega)), h k (by omega)]

theorem ins_ord {n : Nat} {f : Nat → Nat} (h : Ins n f) : IsOrd n ((List.range n).map fun i => (f i : Int)) := by
  refine ⟨fun z hz => ?_, ?_⟩
  · simp only [List.mem_map, List.mem_range] at hz
    obtain ⟨i, hi, rfl⟩ := hz
    have := h.lt i hi
    omega
  · rw [List.Nodup, List.pairwise_map]
    refine List.Pairwise.imp_of_mem ?_ (List.nodup_range (n := n))
    intro a b ha hb hab e
    have := h.inj a b (List.mem_range.1 ha) (List.mem_range.1 hb) (by omega)
    exact hab this

theorem ord_ins {n : Nat} {o : List Int} (h : IsOrd n o) (hl : o.length = n) : Ins n (fun i => (o.getD i 0).toNat) := by
  have hg : ∀ i (hi : i < n), o.getD i 0 = o[i]'(by omega) := fun i hi => by simp [show i < o.length by omega]
  refine ⟨fun i hi => ?_, fun i j hi hj e => ?_⟩
  · have := h.1 _ (List.getElem_mem (show i < o.length by omega))
    simp only [hg i hi]
    omega
  · have h1 := h.1 _ (List.getElem_mem (show i < o.length by omega))
    have h2 := h.1 _ (List.getElem_mem (show j < o.length by omega))
    simp only [hg i hi, hg j hj] at e
    have e' : o[i]'(by omega) = o[j]'(by omega) := by omega
    refine Classical.byContradiction fun hne => ?_
    rcases Nat.lt_or_gt_of_ne hne with hlt | hlt
    · exact (List.pairwise_iff_getElem.1 h.2 i j (by omega) (by omega) hlt) e'
    · exact (List.pairwise_iff_getElem.1 h.2 j i (by omega) (by omega) hlt) e'.symm

/-- One value set anew. -/
def updF (f : Nat → Nat) (r x : Nat) : Nat → Nat := fun i => if i = r then x else f i

theorem costF_upd (M : List (List Int)) (f : Nat → Nat) (r x : Nat) : ∀ k, costF M (updF f r x) k = costF M f k + (if r < k then ent M r x - ent M r (f r) else 0)
  | 0 => by simp [costF]
  | k + 1 => by
    simp only [costF, costF_upd M f r x k]
    by_cases h : k = r
    · subst h
      simp [updF]
      omega
    · have e : updF f r x k = f k := by simp [updF, h]
      rw [e]
      by_cases hl : r < k
      · simp [hl, show r < k + 1 by omega]; omega
      · simp [hl, show ¬ r < k + 1 by omega]

/-- Two rows give each other what they have. -/
def swF (f : Nat → Nat) (r s : Nat) : Nat → Nat := updF (updF f r (f s)) s (f r)

theorem swF_at (f : Nat → Nat) (r s i : Nat) : swF f r s i = if i = s then f r else if i = r then f s else f i := by
  simp only [swF, updF]

theorem costF_sw {M : List (List Int)} {f : Nat → Nat} {r s n : Nat} (hr : r < n) (hs : s < n) (hne : r ≠ s) :
    costF M (swF f r s) n = costF M f n + (ent M r (f s) - ent M r (f r)) + (ent M s (f r) - ent M s (f s)) := by
  unfold swF
  rw [costF_upd, costF_upd]
  have e : updF f r (f s) s = f s := by simp [updF, Ne.symm hne]
  simp [hr, hs, e]

theorem sw_ins {n : Nat} {f : Nat → Nat} {r s : Nat} (h : Ins n f) (hr : r < n) (hs : s < n) : Ins n (swF f r s) := by
  refine ⟨fun i hi => ?_, fun i j hi hj e => ?_⟩
  · rw [swF_at]
    split
    · exact h.lt _ hr
    · split
      · exact h.lt _ hs
      · exact h.lt _ hi
  · rw [swF_at, swF_at] at e
    split at e <;> try split at e
    · omega
    · split at e
      · have := h.inj _ _ hr hs e; omega
      · have := h.inj _ _ hr hj e; omega
    · split at e
      · have := h.inj _ _ hs hr e; omega
      · split at e
        · omega
        · have := h.inj _ _ hs hj e; omega
    · split at e
      · have := h.inj _ _ hi hr e; omega
      · split at e
        · have := h.inj _ _ hi hs e; omega
        · exact h.inj _ _ hi hj e

section
variable (M : List (List Int)) (σ : Nat → Nat)

/-- What it costs more, if row r has what row s had. -/
def wgtT (r s : Nat) : Int := ent M r (σ s) - ent M r (σ r)

def pwT : Nat → List Nat → Int
  | _, [] => 0
  | r, s :: t => wgtT M σ r s + pwT s t
end

def la : Nat → List Nat → Nat
  | r, [] => r
  | _, s :: t => la s t

theorem pwT_snoc (M : List (List Int)) (σ : Nat → Nat) : ∀ (t : List Nat) (r s : Nat), pwT M σ r (t ++ [s]) = pwT M σ r t + wgtT M σ (la r t) s
  | [], r, s => by simp [pwT, la]
  | x :: t, r, s => by
    simp only [List.cons_append, pwT, la, pwT_snoc M σ t x s]
    omega

theorem la_snoc : ∀ (t : List Nat) (r s : Nat), la r (t ++ [s]) = s
  | [], r, s => rfl
  | x :: t, r, s => by simp only [List.cons_append, la, la_snoc t x s]

theorem la_mem : ∀ (t : List Nat) (r : Nat), la r t ∈ r :: t
  | [], r => by simp [la]
  | x :: t, r => by
    have := la_mem t x
    simp only [la]
    exact List.mem_cons_of_mem _ this

/-- What row r has goes on to the last row, and each row takes what the next one had. -/
theorem rot {M : List (List Int)} {σ : Nat → Nat} {n : Nat} : ∀ (t : List Nat) (r : Nat) (f : Nat → Nat), Ins n f → (∀ s ∈ t, f s = σ s) → (r :: t).Nodup → (∀ s ∈ r :: t, s < n) →
    ∃ g, Ins n g ∧ costF M g n = costF M f n + pwT M σ r t + (ent M (la r t) (f r) - ent M (la r t) (σ (la r t))) - (ent M r (f r) - ent M r (σ r))
  | [], r, f, hf, _, _, _ => ⟨f, hf, by simp [pwT, la]⟩
  | s :: t, r, f, hf, hfs, hn, hlt => by
    have hr := hlt r (by simp)
    have hs := hlt s (by simp)
    have hn1 := List.nodup_cons.1 hn
    have hn2 := List.nodup_cons.1 hn1.2
    have hne : r ≠ s := fun e => hn1.1 (by simp [e])
    have e1 : f s = σ s := hfs s (by simp)
    obtain ⟨g, hg, hc⟩ := rot (M := M) (σ := σ) (n := n) t s (swF f r s) (sw_ins hf hr hs) (fun x hx => by
      have hxs : x ≠ s := fun e => hn2.1 (e ▸ hx)
      have hxr : x ≠ r := fun e => hn1.1 (by rw [← e]; simp [hx])
      rw [swF_at, if_neg hxs, if_neg hxr]
      exact hfs x (by simp [hx])) hn1.2 (fun x hx => hlt x (by simp [List.mem_cons.1 hx]))
    refine ⟨g, hg, ?_⟩
    have e2 : swF f r s s = f r := by rw [swF_at, if_pos rfl]
    rw [hc, costF_sw hr hs hne, e2, e1]
    simp only [pwT, la, wgtT]
    omega

/-- No cycle costs less than nothing. -/
theorem cyc_pos {M : List (List Int)} {σ : Nat → Nat} {n : Nat} (hσ : Ins n σ) (hmin : ∀ g, Ins n g → costF M σ n ≤ costF M g n) {r : Nat} {t : List Nat} (hn : (r :: t).Nodup) (hlt : ∀ s ∈ r :: t, s < n) :
    0 ≤ pwT M σ r t + wgtT M σ (la r t) r := by
  obtain ⟨g, hg, hc⟩ := rot (M := M) (σ := σ) t r σ hσ (fun _ _ => rfl) hn hlt
  have := hmin g hg
  simp only [wgtT]
  omega

/-- The least of numbers that are bounded below. -/
theorem least_of (P : Int → Prop) (lo : Int) : ∀ (k : Nat) (z : Int), P z → z ≤ lo + k → (∀ y, P y → lo ≤ y) → ∃ x, P x ∧ ∀ y, P y → x ≤ y
  | 0, z, hz, hk, hb => ⟨z, hz, fun y hy => by have := hb y hy; omega⟩
  | k + 1, z, hz, hk, hb => by
    by_cases h : ∃ y, P y ∧ y < z
    · obtain ⟨y, hy, hyz⟩ := h
      exact least_of P lo k y hy (by omega) hb
    · exact ⟨z, hz, fun y hy => Int.not_lt.1 (fun hlt => h ⟨y, hy, hlt⟩)⟩

/-- A way to s. -/
def Way (M : List (List Int)) (σ : Nat → Nat) (n s : Nat) (z : Int) : Prop := ∃ r t, (r :: t).Nodup ∧ (∀ x ∈ r :: t, x < n) ∧ la r t = s ∧ pwT M σ r t = z

theorem pwT_low {M : List (List Int)} {σ : Nat → Nat} {n B : Nat} (hw : ∀ r s, r < n → s < n → -(B : Int) ≤ wgtT M σ r s) : ∀ (t : List Nat) (r : Nat), (∀ x ∈ r :: t, x < n) → -((B * t.length : Nat) : Int) ≤ pwT M σ r t
  | [], r, _ => by simp [pwT]
  | s :: t, r, h => by
    have h1 := pwT_low hw t s (fun x hx => h x (by simp [List.mem_cons.1 hx]))
    have h2 := hw r s (h r (by simp)) (h s (by simp))
    simp only [pwT, List.length_cons, Nat.mul_add, Nat.mul_one]
    omega

theorem nodup_lt {n : Nat} : ∀ {l : List Nat}, l.Nodup → (∀ x ∈ l, x < n) → l.length ≤ n := by
  have key : ∀ (l o : List Nat), l.Nodup → (∀ x ∈ l, x ∈ o) → l.length ≤ o.length := by
    intro l
    induction l with
    | nil => intro o _ _; exact Nat.zero_le _
    | cons a l ih =>
      intro o hn hs
      have ha : a ∈ o := hs a (by simp)
      have hn' := List.nodup_cons.1 hn
      have := ih (o.erase a) hn'.2 (fun x hx => by
        have hxa : x ≠ a := fun e => hn'.1 (e ▸ hx)
        exact (List.mem_erase_of_ne hxa).2 (hs x (by simp [hx])))
      have hl := List.length_erase_of_mem ha
      have hp : 0 < o.length := List.length_pos_of_mem ha
      simp only [List.length_cons]
      omega
  intro l hn hl
  have := key l (List.range n) hn (fun x hx => List.mem_range.2 (hl x hx))
  simpa using this

/-- A way that has come by s parts there. -/
theorem way_part {M : List (List Int)} {σ : Nat → Nat} {s : Nat} : ∀ (t : List Nat) (r : Nat), s ∈ r :: t → ∃ t1 b, t1.Sublist t ∧ (s :: b).Sublist (r :: t) ∧ la r t1 = s ∧ la s b = la r t ∧ pwT M σ r t = pwT M σ r t1 + pwT M σ s b
  | [], r, h => by
    simp only [List.mem_singleton] at h
    subst h
    exact ⟨[], [], List.Sublist.refl _, List.Sublist.refl _, rfl, rfl, by simp [pwT]⟩
  | x :: t, r, h => by
    by_cases e : s = r
    · subst e
      exact ⟨[], x :: t, List.nil_sublist _, List.Sublist.refl _, rfl, rfl, by simp [pwT]⟩
    · have hm : s ∈ x :: t := by
        rcases List.mem_cons.1 h with h | h
        · exact absurd h e
        · exact h
      obtain ⟨t1, b, h1, h2, h3, h4, h5⟩ := way_part t x hm
      refine ⟨x :: t1, b, h1.cons_cons x, h2.cons r, h3, h4, ?_⟩
      show wgtT M σ r x + pwT M σ x t = wgtT M σ r x + pwT M σ x t1 + pwT M σ s b
      rw [h5]
      omega

/-- How little it costs to come to a row: what all rows abide. -/
theorem low_way {M : List (List Int)} {σ : Nat → Nat} {n B : Nat} (hσ : Ins n σ) (hmin : ∀ g, Ins n g → costF M σ n ≤ costF M g n) (hw : ∀ r s, r < n → s < n → -(B : Int) ≤ wgtT M σ r s) :
    ∃ L : Nat → Int, (∀ s, s < n → Way M σ n s (L s)) ∧ (∀ s, s < n → L s ≤ 0 ∧ -((B * n : Nat) : Int) ≤ L s) ∧ ∀ r s, r < n → s < n → L s ≤ L r + wgtT M σ r s := by
  have hb : ∀ s z, Way M σ n s z → -((B * n : Nat) : Int) ≤ z := by
    rintro s z ⟨r, t, h1, h2, _, rfl⟩
    have := pwT_low hw t r h2
    have hl := nodup_lt h1 h2
    have : B * t.length ≤ B * n := Nat.mul_le_mul_left _ (by simp at hl; omega)
    omega
  have hex : ∀ s, ∃ z, s < n → (Way M σ n s z ∧ ∀ y, Way M σ n s y → z ≤ y) := by
    intro s
    by_cases hs : s < n
    · obtain ⟨x, h1, h2⟩ := least_of (Way M σ n s) (-((B * n : Nat) : Int)) (B * n) 0 ⟨s, [], by simp, by simpa using hs, rfl, rfl⟩ (by omega) (hb s)
      exact ⟨x, fun _ => ⟨h1, h2⟩⟩
    · exact ⟨0, fun h => absurd h hs⟩
  obtain ⟨L, hL⟩ := Classical.axiomOfChoice hex
  refine ⟨L, fun s hs => (hL s hs).1, fun s hs => ⟨(hL s hs).2 0 ⟨s, [], by simp, by simpa using hs, rfl, rfl⟩, hb s _ (hL s hs).1⟩, fun r s hr hs => ?_⟩
  obtain ⟨q, t, h1, h2, h3, h4⟩ := (hL r hr).1
  by_cases hm : s ∈ q :: t
  · obtain ⟨t1, b, p1, p2, p3, p4, p5⟩ := way_part (M := M) (σ := σ) t q hm
    have hc := cyc_pos (M := M) hσ hmin (r := s) (t := b) (h1.sublist p2) (fun x hx => h2 x (p2.subset hx))
    have hd := (hL s hs).2 (pwT M σ q t1) ⟨q, t1, h1.sublist (p1.cons_cons q), fun x hx => h2 x ((p1.cons_cons q).subset hx), p3, rfl⟩
    rw [p4, h3] at hc
    omega
  · have hd := (hL s hs).2 (pwT M σ q (t ++ [s])) ⟨q, t ++ [s], by
      rw [← List.cons_append, List.nodup_append]
      exact ⟨h1, by simp, fun a ha b hb e => by simp only [List.mem_singleton] at hb; subst hb; subst e; exact hm ha⟩, fun x hx => by
      rw [← List.cons_append] at hx
      rcases List.mem_append.1 hx with hx | hx
      · exact h2 x hx
      · simp only [List.mem_singleton] at hx; omega, la_snoc _ _ _, rfl⟩
    rw [pwT_snoc, h3] at hd
    omega

/-- All values are met. -/
theorem ins_onto {n : Nat} {f : Nat → Nat} (h : Ins n f) {j : Nat} (hj : j < n) : ∃ i, i < n ∧ f i = j := by
  refine Classical.byContradiction fun hno => ?_
  have hnd : (j :: (List.range n).map f).Nodup := by
    rw [List.nodup_cons]
    refine ⟨fun hm => ?_, ?_⟩
    · simp only [List.mem_map, List.mem_range] at hm
      obtain ⟨i, hi, e⟩ := hm
      exact hno ⟨i, hi, e⟩
    · rw [List.Nodup, List.pairwise_map]
      refine List.Pairwise.imp_of_mem ?_ (List.nodup_range (n := n))
      intro a b ha hb hab e
      exact hab (h.inj a b (List.mem_range.1 ha) (List.mem_range.1 hb) e)
  have := nodup_lt (n := n) hnd (fun x hx => by
    rcases List.mem_cons.1 hx with rfl | hx
    · exact hj
    · simp only [List.mem_map, List.mem_range] at hx
      obtain ⟨i, hi, rfl⟩ := hx
      exact h.lt i hi)
  simp at this
  omega

def sumF (g : Nat → Int) : Nat → Int
  | 0 => 0
  | k + 1 => sumF g k + g k

theorem perm_sum {l o : List Nat} (h : l.Perm o) (g : Nat → Int) : (l.map g).sum = (o.map g).sum := by
  induction h with
  | nil => rfl
  | cons x _ ih => simp [ih]
  | swap x y l => simp; omega
  | trans _ _ ih1 ih2 => rw [ih1, ih2]

theorem sumF_list (g : Nat → Int) : ∀ n, sumF g n = ((List.range n).map g).sum
  | 0 => by simp [sumF]
  | n + 1 => by rw [List.range_succ]; simp [sumF, sumF_list g n]

theorem ins_sum {n : Nat} {f : Nat → Nat} (h : Ins n f) (g : Nat → Int) : sumF (fun i => g (f i)) n = sumF g n := by
  have hnd : ((List.range n).map f).Nodup := by
    rw [List.Nodup, List.pairwise_map]
    refine List.Pairwise.imp_of_mem ?_ (List.nodup_range (n := n))
    intro a b ha hb hab e
    exact hab (h.inj a b (List.mem_range.1 ha) (List.mem_range.1 hb) e)
  have hp : ((List.range n).map f).Perm (List.range n) := by
    rw [List.perm_iff_count]
    intro a
    have hm : a ∈ (List.range n).map f ↔ a ∈ List.range n := by
      simp only [List.mem_map, List.mem_range]
      constructor
      · rintro ⟨i, hi, rfl⟩; exact h.lt i hi
      · intro ha; exact ins_onto h ha
    by_cases ha : a ∈ List.range n
    · rw [hnd.count, (List.nodup_range (n := n)).count]
      simp only [hm, ha]
    · rw [List.count_eq_zero.2 ha, List.count_eq_zero.2 (fun k => ha (hm.1 k))]
  have := perm_sum hp g
  rw [List.map_map] at this
  rw [sumF_list, sumF_list]
  exact this

end Go.Proofs.Ytdbfkjnnlomklaa

/- check.Within: a list of so many numbers, none of them below the least or above the most. -/
namespace Go.Proofs.Ytdbfkjnnlomklaa
open Go.RowKit
attribute [local go_sem ↓] Go.wp_at_zero Go.wp_at_succ

def outB (lo hi x : Int) : Bool := decide (x < lo) || decide (hi < x)

def withE (c : Nat) (lo hi : Int) (r : List Int) : Int := if r.length ≠ c then 3 else if r.any (outB lo hi) then 4 else 0

theorem outB_far (most : Int) : outB (-most) most = (farB · most) := by
  funext x
  rw [Bool.eq_iff_iff]
  simp [outB, farB, Bool.or_comm]

end Go.Proofs.Ytdbfkjnnlomklaa

/- tropic: what may be, terms, the least of a list, where it is. -/
namespace Go.Proofs.Ytdbfkjnnlomklaa
open Go.RowKit
attribute [local go_sem ↓] Go.wp_at_zero Go.wp_at_succ

def listTE (l : List Int) : Int := if l.length < 1 ∨ 20 < l.length then 2 else if l.any (farB · 10000) then 4 else 0

/-- A list that may be. -/
structure Lst (l : List Int) : Prop where
  n1 : 1 ≤ l.length
  n20 : l.length ≤ 20
  bd : ∀ z ∈ l, -10000 ≤ z ∧ z ≤ 10000

theorem list_okT {l : List Int} (h : listTE l = 0) : Lst l := by
  unfold listTE at h
  by_cases h0 : l.length < 1 ∨ 20 < l.length
  · rw [if_pos h0] at h; simp at h
  · rw [if_neg h0] at h
    cases h2 : l.any (farB · 10000)
    · refine ⟨by omega, by omega, fun z hz => ?_⟩
      have := List.any_eq_false.1 h2 z hz
      simp only [farB, Bool.or_eq_true, decide_eq_true_eq, not_or] at this
      omega
    · rw [h2] at h; simp at h

theorem Lst.at {l : List Int} (h : Lst l) (j : Nat) : -10000 ≤ l.getD j 0 ∧ l.getD j 0 ≤ 10000 := by
  by_cases hj : j < l.length
  · have e : l.getD j 0 = l[j] := by simp [hj]
    rw [e]
    exact h.bd _ (List.getElem_mem _)
  · simp [hj]

/-- All terms at a by b. -/
def tmL (l : List Int) (a b : Int) : List Int := (List.range l.length).map fun j => l.getD j 0 * b + (j : Int) * a

theorem tmL_len (l : List Int) (a b : Int) : (tmL l a b).length = l.length := by simp [tmL]
theorem tmL_at {l : List Int} {a b : Int} {j : Nat} (h : j < l.length) : (tmL l a b).getD j 0 = l.getD j 0 * b + (j : Int) * a := by
  rw [List.getD_eq_getElem?_getD]
  simp [tmL, h]

theorem tm_bd {x b a : Int} {j : Nat} (hx : -10000 ≤ x ∧ x ≤ 10000) (hb : -20 ≤ b ∧ b ≤ 20) (ha : -20000 ≤ a ∧ a ≤ 20000) (hj : j ≤ 20) : (-200000 ≤ x * b ∧ x * b ≤ 200000) ∧ (-400000 ≤ (j : Int) * a ∧ (j : Int) * a ≤ 400000) := by
  have h1 : (x * b).natAbs ≤ 10000 * 20 := by rw [Int.natAbs_mul]; exact Nat.mul_le_mul (by omega) (by omega)
  have h2 : ((j : Int) * a).natAbs ≤ 20 * 20000 := by rw [Int.natAbs_mul]; exact Nat.mul_le_mul (by omega) (by omega)
  omega

/-- The least of the first k + 1. -/
def minTo (zs : List Int) : Nat → Int
  | 0 => zs.getD 0 0
  | k + 1 => if zs.getD (k + 1) 0 < minTo zs k then zs.getD (k + 1) 0 else minTo zs k

def minL (zs : List Int) : Int := minTo zs (zs.length - 1)

theorem minTo_le (zs : List Int) : ∀ k j, j ≤ k → minTo zs k ≤ zs.getD j 0
  | 0, j, h => by rw [show j = 0 by omega]; exact Int.le_refl _
  | k + 1, j, h => by
    simp only [minTo]
    by_cases e : j = k + 1
    · subst e; split <;> omega
    · have := minTo_le zs k j (by omega)
      split <;> omega

theorem minTo_mem (zs : List Int) : ∀ k, ∃ j, j ≤ k ∧ zs.getD j 0 = minTo zs k
  | 0 => ⟨0, Nat.le_refl _, rfl⟩
  | k + 1 => by
    simp only [minTo]
    split
    · exact ⟨k + 1, Nat.le_refl _, rfl⟩
    · obtain ⟨j, h1, h2⟩ := minTo_mem zs k
      exact ⟨j, by omega, h2⟩

theorem minL_le {zs : List Int} {j : Nat} (h : j < zs.length) : minL zs ≤ zs.getD j 0 := minTo_le zs _ j (by omega)
theorem minL_mem {zs : List Int} (h : 0 < zs.length) : ∃ j, j < zs.length ∧ zs.getD j 0 = minL zs := by
  obtain ⟨j, h1, h2⟩ := minTo_mem zs (zs.length - 1)
  exact ⟨j, by omega, h2⟩

set_option maxRecDepth 100000 in
set_option maxHeartbeats 400000 in
theorem minT_any (B : Nat) (zs : List Int) (v : Value) (w : World) (hv : Sl B 3 w v (ints zs)) (hp : 0 < zs.length) :
    Calls Try.prog 51 #[v] w fun e w' => e = .returned (.int .i64 (minL zs)) ∧ w' = w := by
  obtain ⟨ao, cap, hvv, hlc, hcm⟩ := sl_open hv
  subst hvv
  have HV : Hid (Sl B 3 w (.slice ao zs.length cap) (ints zs)) := hv
  obtain ⟨b0, o0, c0, hs0, _, hcc0⟩ := sl_cell hv hp
  simp only [Value.slice.injEq] at hs0
  obtain ⟨rfl, _, rfl⟩ := hs0
  have HM0 : Hid (zs.getD 0 0 = minTo zs 0) := rfl
  rw [HM0.out, Nat.add_zero] at hcc0
  have hp0 : (0 : Int) < (zs.length : Int) := by omega
  have b1 : decide ((zs.length : Int) < 1) = false := decide_eq_false (by omega)
  clear hv
  go_enter Try.func51, Try.ntmps51
  go_wp2
  go_loopw [3, 4] (fun m i wr => ∃ k : Nat, k + 1 ≤ zs.length ∧ i = .int .i64 ((k : Int) + 1) ∧ m = .int .i64 (minTo zs k) ∧ wr = w) (fun _ i _ => zs.length - (intOf i).toNat)
  case atStart => exact ⟨0, hp, rfl, rfl, rfl⟩
  case round =>
    obtain ⟨k, hk, rfl, rfl, rfl⟩ := hrel
    by_cases hlt : k + 1 < zs.length
    · obtain ⟨b1, o1, c1, hs1, _, hcc1⟩ := sl_cell HV.out (k := k + 1) hlt
      simp only [Value.slice.injEq, Option.some.injEq, Addr.mk.injEq] at hs1
      obtain ⟨⟨rfl, rfl, _⟩, _, rfl⟩ := hs1
      have HS : Hid (minTo zs (k + 1) = if zs.getD (k + 1) 0 < minTo zs k then zs.getD (k + 1) 0 else minTo zs k) := rfl
      generalize zs.getD (k + 1) 0 = x at *
      generalize minTo zs k = m at *
      go_wp2
      go_roundw
      case rel => exact ⟨k + 1, by omega, by go_num, by rw [HS.out], trivial⟩
      case measure => simp [intOf]; omega
    · have HE : Hid (minTo zs k = minL zs) := by
        show _ = _
        unfold minL
        rw [show zs.length - 1 = k by omega]
      rw [HE.out]
      have hkf : decide ((k : Int) + 1 < (zs.length : Int)) = false := by simp; omega
      go_wp2
      go_ret
      exact ⟨rfl, rfl⟩

end Go.Proofs.Ytdbfkjnnlomklaa

/- Even squares and their parts, pure. -/
namespace Go.Proofs.Ytdbfkjnnlomklaa

def rowN (c : Nat) (r : List Int) : Int := withE c 0 10000 r

def rowsN (c : Nat) : List (List Int) → Int
  | [] => 0
  | r :: rs => if rowN c r = 0 then rowsN c rs else rowN c r

theorem rowsN_hit {c : Nat} : ∀ {m : List (List Int)} {k : Nat}, k < m.length → (∀ i, i < k → rowN c (m.getD i []) = 0) → rowN c (m.getD k []) ≠ 0 → rowsN c m = rowN c (m.getD k [])
  | r :: rs, 0, _, _, h => by
    simp only [List.getD_cons_zero] at h
    simp [rowsN, h]
  | r :: rs, k + 1, hk, h0, h => by
    have h1 := h0 0 (by omega)
    simp only [List.getD_cons_zero] at h1
    simp only [List.getD_cons_succ] at h
    simp only [rowsN, h1, if_true, List.getD_cons_succ]
    exact rowsN_hit (by simpa using hk) (fun i hi => by have := h0 (i + 1) (by omega); simpa using this) h

theorem rowsN_all {c : Nat} : ∀ {m : List (List Int)}, (∀ i, i < m.length → rowN c (m.getD i []) = 0) → rowsN c m = 0
  | [], _ => rfl
  | r :: rs, h => by
    have h1 := h 0 (by simp)
    simp only [List.getD_cons_zero] at h1
    simp only [rowsN, h1, if_true]
    exact rowsN_all fun i hi => by have := h (i + 1) (by simpa using hi); simpa using this

theorem rowsN_zero {c : Nat} : ∀ {m : List (List Int)}, rowsN c m = 0 → ∀ r ∈ m, rowN c r = 0
  | [], _, _, hr => by simp at hr
  | r :: rs, h, x, hx => by
    simp only [rowsN] at h
    by_cases h1 : rowN c r = 0
    · rw [if_pos h1] at h
      rcases List.mem_cons.1 hx with rfl | hx
      · exact h1
      · exact rowsN_zero h x hx
    · rw [if_neg h1] at h; exact absurd h h1

/-- A square of numbers from 0 to 10,000. -/
structure Sq0 (m : List (List Int)) : Prop where
  n1 : 1 ≤ m.length
  n6 : m.length ≤ 6
  len : ∀ i, i < m.length → (m.getD i []).length = m.length
  bd : ∀ i j, 0 ≤ ent m i j ∧ ent m i j ≤ 10000

theorem ent_bd {m : List (List Int)} {lo hi : Int} (h0 : lo ≤ 0 ∧ 0 ≤ hi) (h : ∀ r ∈ m, ∀ z ∈ r, lo ≤ z ∧ z ≤ hi) (i j : Nat) : lo ≤ ent m i j ∧ ent m i j ≤ hi := by
  unfold ent
  by_cases hi : i < m.length
  · have e : m.getD i [] = m[i] := by simp [hi]
    rw [e]
    by_cases hj : j < m[i].length
    · have e2 : m[i].getD j 0 = m[i][j] := by simp [hj]
      rw [e2]
      exact h _ (List.getElem_mem _) _ (List.getElem_mem _)
    · simp [hj, h0]
  · simp [hi, h0]

def cntE (m : List (List Int)) : Int := if m.length < 1 ∨ 6 < m.length then 2 else rowsN m.length m

theorem sq0_ok {m : List (List Int)} (h : cntE m = 0) : Sq0 m := by
  unfold cntE at h
  by_cases h0 : m.length < 1 ∨ 6 < m.length
  · rw [if_pos h0] at h; simp at h
  · rw [if_neg h0] at h
    have hz := rowsN_zero h
    have hf : ∀ r ∈ m, r.length = m.length ∧ r.any (outB 0 10000) = false := by
      intro r hr
      have := hz r hr
      unfold rowN withE at this
      by_cases h1 : r.length ≠ m.length
      · rw [if_pos h1] at this; simp at this
      · rw [if_neg h1] at this
        refine ⟨by omega, ?_⟩
        cases h2 : r.any (outB 0 10000)
        · rfl
        · rw [h2] at this; simp at this
    refine ⟨by omega, by omega, fun i hi => ?_, ent_bd (by omega) fun r hr z hz => ?_⟩
    · have e : m.getD i [] = m[i] := by simp [hi]
      rw [e]
      exact (hf _ (List.getElem_mem _)).1
    · have := List.any_eq_false.1 (hf r hr).2 z hz
      simp only [outB, Bool.or_eq_true, decide_eq_true_eq, not_or] at this
      omega

/-- Sums of rows and of columns. -/
def rsm (m : List (List Int)) (i : Nat) : Int := sumF (fun j => ent m i j) m.length
def csm (m : List (List Int)) (j : Nat) : Int := sumF (fun i => ent m i j) m.length

def evenB (m : List (List Int)) : Bool := (List.range m.length).all fun i => decide (csm m i = rsm m 0) && decide (rsm m i = rsm m 0)

def evE (m : List (List Int)) : Int := if cntE m ≠ 0 then cntE m else if evenB m then 0 else 3

theorem sumF_bd {f : Nat → Int} {lo hi : Int} (h : ∀ i, lo ≤ f i ∧ f i ≤ hi) : ∀ k : Nat, lo * (k : Int) ≤ sumF f k ∧ sumF f k ≤ hi * (k : Int)
  | 0 => by simp [sumF]
  | k + 1 => by
    have ih := sumF_bd h k
    have h1 := h k
    simp only [sumF]
    have e1 : lo * ((k + 1 : Nat) : Int) = lo * (k : Int) + lo := by rw [Int.natCast_add, Int.mul_add]; simp
    have e2 : hi * ((k + 1 : Nat) : Int) = hi * (k : Int) + hi := by rw [Int.natCast_add, Int.mul_add]; simp
    omega

theorem row_sum (V : List Int) : V.sum = sumF (fun j => V.getD j 0) V.length := by
  rw [sumF_list]
  congr 1
  refine List.ext_getElem (by simp) fun i h1 h2 => ?_
  simp [h1]

def maxTo (zs : List Int) : Nat → Int
  | 0 => zs.getD 0 0
  | k + 1 => if maxTo zs k < zs.getD (k + 1) 0 then zs.getD (k + 1) 0 else maxTo zs k

def maxL (zs : List Int) : Int := maxTo zs (zs.length - 1)

theorem maxTo_ge (zs : List Int) : ∀ k j, j ≤ k → zs.getD j 0 ≤ maxTo zs k
  | 0, j, h => by rw [show j = 0 by omega]; exact Int.le_refl _
  | k + 1, j, h => by
    simp only [maxTo]
    by_cases e : j = k + 1
    · subst e; split <;> omega
    · have := maxTo_ge zs k j (by omega)
      split <;> omega

theorem maxTo_mem (zs : List Int) : ∀ k, ∃ j, j ≤ k ∧ zs.getD j 0 = maxTo zs k
  | 0 => ⟨0, Nat.le_refl _, rfl⟩
  | k + 1 => by
    simp only [maxTo]
    split
    · exact ⟨k + 1, Nat.le_refl _, rfl⟩
    · obtain ⟨j, h1, h2⟩ := maxTo_mem zs k
      exact ⟨j, by omega, h2⟩

theorem maxL_ge {zs : List Int} {j : Nat} (h : j < zs.length) : zs.getD j 0 ≤ maxL zs := maxTo_ge zs _ j (by omega)
theorem maxL_mem {zs : List Int} (h : 0 < zs.length) : ∃ j, j < zs.length ∧ zs.getD j 0 = maxL zs := by
  obtain ⟨j, h1, h2⟩ := maxTo_mem zs (zs.length - 1)
  exact ⟨j, by omega, h2⟩

/-- All sums: of rows, then of columns. -/
def evS (m : List (List Int)) : List Int := (List.range (2 * m.length)).map fun q => if q < m.length then rsm m q else csm m (q - m.length)

theorem evS_len (m : List (List Int)) : (evS m).length = 2 * m.length := by simp [evS]
theorem evS_at {m : List (List Int)} {q : Nat} (h : q < 2 * m.length) : (evS m).getD q 0 = if q < m.length then rsm m q else csm m (q - m.length) := by
  rw [List.getD_eq_getElem?_getD]
  simp [evS, h]

theorem even_iff {m : List (List Int)} (h1 : 1 ≤ m.length) : (minL (evS m) == maxL (evS m)) = evenB m := by
  rw [Bool.eq_iff_iff, beq_iff_eq]
  have hl := evS_len m
  constructor
  · intro h
    have all : ∀ q, q < 2 * m.length → (evS m).getD q 0 = maxL (evS m) := fun q hq => by
      have a := minL_le (zs := evS m) (j := q) (by omega)
      have b := maxL_ge (zs := evS m) (j := q) (by omega)
      omega
    unfold evenB
    rw [List.all_eq_true]
    intro i hi
    have hi := List.mem_range.1 hi
    have a := all i (by omega)
    have b := all (m.length + i) (by omega)
    have c := all 0 (by omega)
    rw [evS_at (by omega), if_pos hi] at a
    rw [evS_at (by omega), if_neg (by omega), show m.length + i - m.length = i by omega] at b
    rw [evS_at (by omega), if_pos (by omega)] at c
    simp only [Bool.and_eq_true, decide_eq_true_eq]
    omega
  · intro h
    unfold evenB at h
    rw [List.all_eq_true] at h
    have all : ∀ q, q < 2 * m.length → (evS m).getD q 0 = rsm m 0 := fun q hq => by
      rw [evS_at hq]
      by_cases e : q < m.length
      · have := h q (List.mem_range.2 e)
        simp only [Bool.and_eq_true, decide_eq_true_eq] at this
        rw [if_pos e]; exact this.2
      · have := h (q - m.length) (List.mem_range.2 (by omega))
        simp only [Bool.and_eq_true, decide_eq_true_eq] at this
        rw [if_neg e]; exact this.1
    obtain ⟨j, a1, a2⟩ := minL_mem (zs := evS m) (by omega)
    obtain ⟨k, b1, b2⟩ := maxL_mem (zs := evS m) (by omega)
    rw [← a2, ← b2, all j (by omega), all k (by omega)]

/-- Sums so far: rows ahead of i are whole, row i as far as column k. -/
def evF (m : List (List Int)) (i k q : Nat) : Int :=
  if q < m.length then (if q < i then rsm m q else if q = i then sumF (fun j => ent m i j) k else 0)
  else sumF (fun a => ent m a (q - m.length)) i + if q - m.length < k then ent m i (q - m.length) else 0

theorem evF_next {m : List (List Int)} {i : Nat} (hi : i < m.length) (q : Nat) (hq : q < 2 * m.length) : evF m i m.length q = evF m (i + 1) 0 q := by
  unfold evF
  by_cases e : q < m.length
  · simp only [e, if_true]
    by_cases e2 : q = i
    · subst e2; simp [rsm]
    · by_cases e3 : q < i
      · simp [e3, show q < i + 1 by omega]
      · simp [e3, e2, show ¬ q < i + 1 by omega, sumF]
  · simp only [e, if_false]
    rw [if_pos (by omega), if_neg (by omega)]
    simp [sumF]

theorem evF_step {m : List (List Int)} {i k : Nat} (hi : i < m.length) (q : Nat) : evF m i (k + 1) q = if q = m.length + k then evF m i k q + ent m i k else if q = i then evF m i k q + ent m i k else evF m i k q := by
  unfold evF
  by_cases e : q < m.length
  · rw [if_neg (show ¬ q = m.length + k by omega)]
    simp only [e, if_true]
    by_cases e2 : q = i
    · subst e2
      simp [sumF]
    · simp [e2]
  · simp only [e, if_false]
    by_cases e2 : q = m.length + k
    · rw [if_pos e2]
      rw [if_pos (by omega), if_neg (by omega), show q - m.length = k by omega]
      omega
    · rw [if_neg e2, if_neg (show ¬ q = i by omega)]
      by_cases e3 : q - m.length < k
      · rw [if_pos (by omega), if_pos e3]
      · rw [if_neg (by omega), if_neg e3]

theorem evF_end {m : List (List Int)} {q : Nat} (hq : q < 2 * m.length) : evF m m.length 0 q = (evS m).getD q 0 := by
  rw [evS_at hq]
  unfold evF
  by_cases e : q < m.length
  · simp [e]
  · simp [e, csm]

theorem evF_zero (m : List (List Int)) (q : Nat) : evF m 0 0 q = 0 := by
  unfold evF
  by_cases e : q < m.length
  · simp only [e, if_true]
    by_cases e2 : q = 0 <;> simp [e2, sumF]
  · simp [e, sumF]

theorem evF_bd {m : List (List Int)} (h : Sq0 m) {i k : Nat} (hi : i ≤ m.length) (hk : k ≤ m.length) (q : Nat) : 0 ≤ evF m i k q ∧ evF m i k q ≤ 100000 := by
  have n6 := h.n6
  have b := h.bd
  unfold evF rsm
  by_cases e : q < m.length
  · simp only [e, if_true]
    by_cases e2 : q < i
    · have := sumF_bd (f := fun j => ent m q j) (lo := 0) (hi := 10000) (fun j => b q j) m.length
      simp only [e2, if_true]
      omega
    · simp only [e2, if_false]
      by_cases e3 : q = i
      · have := sumF_bd (f := fun j => ent m i j) (lo := 0) (hi := 10000) (fun j => b i j) k
        simp only [e3, if_true]
        omega
      · simp [e3]
  · simp only [e, if_false]
    have := sumF_bd (f := fun a => ent m a (q - m.length)) (lo := 0) (hi := 10000) (fun a => b a _) i
    have b2 := b i (q - m.length)
    split <;> omega

/-! Parts -/

/-- The least of a choice's numbers, as far as row k. -/
def roomTo (R : List (List Int)) (o : List Int) : Nat → Int
  | 0 => ent R 0 (o.getD 0 0).toNat
  | k + 1 => if ent R k (o.getD k 0).toNat < roomTo R o k then ent R k (o.getD k 0).toNat else roomTo R o k

def setM (R : List (List Int)) (i j : Nat) (z : Int) : List (List Int) := R.set i ((R.getD i []).set j z)

/-- So often taken, as far as row k. -/
def takeTo (R : List (List Int)) (o : List Int) (z : Int) : Nat → List (List Int)
  | 0 => R
  | k + 1 => setM (takeTo R o z k) k (o.getD k 0).toNat (ent (takeTo R o z k) k (o.getD k 0).toNat - z)

structure PSt where
  rest : List (List Int)
  ords : List (List Int)
  many : List Int

def pStep (n : Nat) (s : PSt) (o : List Int) : PSt :=
  if 0 < roomTo s.rest o n then ⟨takeTo s.rest o (roomTo s.rest o n) n, s.ords ++ [o], s.many ++ [roomTo s.rest o n]⟩ else s

def pFold (n : Nat) (m : List (List Int)) (l : List (List Int)) : PSt := l.foldl (pStep n) ⟨m, [], []⟩

theorem pFold_snoc (n : Nat) (m : List (List Int)) (l : List (List Int)) (o : List Int) : pFold n m (l ++ [o]) = pStep n (pFold n m l) o := by simp [pFold]

theorem setM_len (R : List (List Int)) (i j : Nat) (z : Int) : (setM R i j z).length = R.length := by simp [setM]

theorem setM_row {R : List (List Int)} {i j a : Nat} {z : Int} : ((setM R i j z).getD a []).length = (R.getD a []).length := by
  unfold setM
  by_cases e : a = i
  · subst e
    by_cases h : a < R.length
    · simp [List.getD_eq_getElem?_getD, h]
    · simp [List.getD_eq_getElem?_getD, h]
  · simp [List.getD_eq_getElem?_getD, List.getElem?_set_ne (Ne.symm e)]

theorem setM_ent {R : List (List Int)} {i j a b : Nat} {z : Int} (hi : i < R.length) (hj : j < (R.getD i []).length) : ent (setM R i j z) a b = if a = i ∧ b = j then z else ent R a b := by
  unfold setM ent
  by_cases e : a = i
  · subst e
    have e1 : (R.set a ((R.getD a []).set j z)).getD a [] = (R.getD a []).set j z := by simp [List.getD_eq_getElem?_getD, hi]
    rw [e1]
    by_cases e2 : b = j
    · subst e2; simp [List.getD_eq_getElem?_getD] at hj ⊢; simp [hj]
    · rw [if_neg (by omega)]
      rw [List.getD_eq_getElem?_getD, List.getElem?_set_ne (Ne.symm e2), ← List.getD_eq_getElem?_getD]
  · rw [if_neg (by omega)]
    have e1 : (R.set i ((R.getD i []).set j z)).getD a [] = R.getD a [] := by simp [List.getD_eq_getElem?_getD, List.getElem?_set_ne (Ne.symm e)]
    rw [e1]

theorem roomTo_le {R : List (List Int)} {o : List Int} : ∀ {n k : Nat}, k < n → roomTo R o n ≤ ent R k (o.getD k 0).toNat
  | n + 1, k, h => by
    simp only [roomTo]
    by_cases e : k = n
    · subst e; split <;> omega
    · have := roomTo_le (R := R) (o := o) (n := n) (k := k) (by omega)
      split <;> omega

theorem roomTo_bd {R : List (List Int)} {o : List Int} {lo hi : Int} (h : ∀ i j, lo ≤ ent R i j ∧ ent R i j ≤ hi) : ∀ n, lo ≤ roomTo R o n ∧ roomTo R o n ≤ hi
  | 0 => h _ _
  | n + 1 => by
    have ih := roomTo_bd (o := o) h n
    have := h n (o.getD n 0).toNat
    simp only [roomTo]
    split <;> omega

/-- A square of n rows and columns, its numbers from 0 to 10,000. -/
structure SqN (n : Nat) (R : List (List Int)) : Prop where
  num : R.length = n
  len : ∀ i, i < n → (R.getD i []).length = n
  bd : ∀ i j, 0 ≤ ent R i j ∧ ent R i j ≤ 10000

theorem takeTo_fact {n : Nat} {R : List (List Int)} {o : List Int} (h : SqN n R) (ho : ∀ i, i < n → (o.getD i 0).toNat < n) {z : Int} (hz : 0 ≤ z) (hle : ∀ i, i < n → z ≤ ent R i (o.getD i 0).toNat) : ∀ k, k ≤ n → SqN n (takeTo R o z k) ∧ ∀ i j, k ≤ i → ent (takeTo R o z k) i j = ent R i j
  | 0, _ => ⟨h, fun _ _ _ => rfl⟩
  | k + 1, hk => by
    obtain ⟨h1, h2⟩ := takeTo_fact h ho hz hle k (by omega)
    have hok := ho k (by omega)
    have hrow := h1.len k (by omega)
    simp only [takeTo]
    refine ⟨⟨by rw [setM_len]; exact h1.num, fun i hi => by rw [setM_row]; exact h1.len i hi, fun i j => ?_⟩, fun i j hij => ?_⟩
    · rw [setM_ent (by rw [h1.num]; omega) (by omega)]
      split
      · have a := hle k (by omega)
        have b := h.bd k (o.getD k 0).toNat
        have c := h2 k (o.getD k 0).toNat (Nat.le_refl _)
        omega
      · exact h1.bd i j
    · rw [setM_ent (by rw [h1.num]; omega) (by omega), if_neg (by omega)]
      exact h2 i j (by omega)

theorem pStep_sq {n : Nat} {s : PSt} {o : List Int} (h : SqN n s.rest) (ho : ∀ i, i < n → (o.getD i 0).toNat < n) : SqN n (pStep n s o).rest := by
  unfold pStep
  split
  · rename_i hp
    exact (takeTo_fact h ho (by omega) (fun i hi => roomTo_le hi) n (Nat.le_refl _)).1
  · exact h

end Go.Proofs.Ytdbfkjnnlomklaa
