import Derived.Test.YtjbcpojngdligaaDatA
import Derived.Test.YtjbcpojngdligaaCycAll
import Derived.Test.YtjbcpojngdligaaRefA
import Derived.Test.YtjbcpojngdligaaWiA
import Derived.Test.YtjbcpojngdligaaMade1
/- Least choices of a square, pure: orders, what a cycle of rows costs, prices by going down from column to column. -/
namespace Go.Proofs.Ytjbcpojngdligaa

/-- The number in row i and column j. -/
def ent (M : List (List Int)) (i j : Nat) : Int := (M.getD i []).getD j 0

/-- The sum of the numbers that a function chooses, in the first k rows. -/
def costF (M : List (List Int)) (f : Nat → Nat) : Nat → Int
  | 0 => 0
  | k + 1 => costF M f k + ent M k (f k)

/-- All orders of n numbers that open with what is there, k more to come. -/
def ords (n : Nat) : Nat → List Int → List (List Int)
  | 0, h => [h]
  | k + 1, h => (List.range n).flatMap fun (v : Nat) => if h.contains (v : Int) then [] else ords n k (h ++ [(v : Int)])

/-- Numbers below n, no two alike. -/
def IsOrd (n : Nat) (o : List Int) : Prop := (∀ z ∈ o, 0 ≤ z ∧ z < (n : Int)) ∧ o.Nodup

theorem ords_is {n : Nat} : ∀ (k : Nat) (h o : List Int), IsOrd n h → o ∈ ords n k h → IsOrd n o ∧ o.length = h.length + k
  | 0, h, o, hh, ho => by
    simp only [ords, List.mem_singleton] at ho
    subst ho
    exact ⟨hh, rfl⟩
  | k + 1, h, o, hh, ho => by
    simp only [ords, List.mem_flatMap, List.mem_range] at ho
    obtain ⟨v, hv, ho⟩ := ho
    split at ho
    · simp at ho
    · rename_i hc
      have hn : (v : Int) ∉ h := by simpa using hc
      have h' : IsOrd n (h ++ [(v : Int)]) := by
        refine ⟨fun z hz => ?_, ?_⟩
        · rcases List.mem_append.1 hz with hz | hz
          · exact hh.1 z hz
          · simp only [List.mem_singleton] at hz
            omega
        · rw [List.nodup_append]
          refine ⟨hh.2, by simp, fun a ha b hb e => ?_⟩
          simp only [List.mem_singleton] at hb
          subst hb
          subst e
          exact hn ha
      obtain ⟨h1, h2⟩ := ords_is k _ o h' ho
      refine ⟨h1, ?_⟩
      rw [h2]
      simp
      omega

theorem ords_all {n : Nat} : ∀ (k : Nat) (h t : List Int), t.length = k → IsOrd n (h ++ t) → h ++ t ∈ ords n k h
  | 0, h, t, hk, _ => by
    have : t = [] := List.eq_nil_of_length_eq_zero hk
    subst this
    simp [ords]
  | k + 1, h, [], hk, _ => by simp at hk
  | k + 1, h, z :: t, hk, ho => by
    have hz := ho.1 z (by simp)
    have hn : z ∉ h := fun hz => by
      have := (List.nodup_append.1 ho.2).2.2 z hz z (by simp)
      exact this rfl
    have h1 := ords_all k (h ++ [z]) t (by simpa using hk) (by rw [List.append_assoc]; exact ho)
    rw [List.append_assoc] at h1
    simp only [ords, List.mem_flatMap, List.mem_range]
    refine ⟨z.toNat, by omega, ?_⟩
    have e : ((z.toNat : Nat) : Int) = z := by omega
    rw [e]
    have hc : h.contains z = false := by simpa using hn
    rw [hc]
    exact h1

/-- What a choice costs. -/
def cst (M : List (List Int)) (n : Nat) (o : List Int) : Int := costF M (fun i => (o.getD i 0).toNat) n

/-- One choice held against the best so far (an empty list: none yet). -/
def lstp (M : List (List Int)) (n : Nat) (s : Int × List Int) (o : List Int) : Int × List Int :=
  if s.2 = [] ∨ cst M n o < s.1 then (cst M n o, o) else s

/-- The least sum, and the first choice that has it. -/
def leastP (M : List (List Int)) (n : Nat) (l : List (List Int)) : Int × List Int := l.foldl (lstp M n) (0, [])

theorem leastP_snoc (M : List (List Int)) (n : Nat) (l : List (List Int)) (o : List Int) : leastP M n (l ++ [o]) = lstp M n (leastP M n l) o := by simp [leastP]

theorem least_fold (M : List (List Int)) (n : Nat) : ∀ (l : List (List Int)) (s : Int × List Int), (∀ o ∈ l, o ≠ []) → s.2 ≠ [] → s.1 = cst M n s.2 →
    (l.foldl (lstp M n) s).1 = cst M n (l.foldl (lstp M n) s).2 ∧ (l.foldl (lstp M n) s).1 ≤ s.1 ∧ ((l.foldl (lstp M n) s).2 = s.2 ∨ (l.foldl (lstp M n) s).2 ∈ l) ∧ (∀ o ∈ l, (l.foldl (lstp M n) s).1 ≤ cst M n o)
  | [], s, _, _, hs => ⟨hs, Int.le_refl _, .inl rfl, fun o ho => by cases ho⟩
  | o :: l, s, hne, h0, hs => by
    rw [List.foldl_cons]
    by_cases hc : cst M n o < s.1
    · have e : lstp M n s o = (cst M n o, o) := by simp [lstp, hc]
      rw [e]
      obtain ⟨h1, h2, h3, h4⟩ := least_fold M n l (cst M n o, o) (fun x hx => hne x (by simp [hx])) (hne o (by simp)) rfl
      refine ⟨h1, by simp only at h2; omega, ?_, fun x hx => ?_⟩
      · rcases h3 with h3 | h3
        · right; rw [h3]; simp
        · right; simp [h3]
      · rcases List.mem_cons.1 hx with rfl | hx
        · exact h2
        · exact h4 x hx
    · have e : lstp M n s o = s := by simp [lstp, hc, h0]
      rw [e]
      obtain ⟨h1, h2, h3, h4⟩ := least_fold M n l s (fun x hx => hne x (by simp [hx])) h0 hs
      refine ⟨h1, h2, ?_, fun x hx => ?_⟩
      · rcases h3 with h3 | h3
        · exact .inl h3
        · right; simp [h3]
      · rcases List.mem_cons.1 hx with rfl | hx
        · omega
        · exact h4 x hx

theorem least_fact (M : List (List Int)) (n : Nat) (o : List Int) (l : List (List Int)) (hne : ∀ x ∈ o :: l, x ≠ []) :
    (leastP M n (o :: l)).1 = cst M n (leastP M n (o :: l)).2 ∧ (leastP M n (o :: l)).2 ∈ o :: l ∧ ∀ x ∈ o :: l, (leastP M n (o :: l)).1 ≤ cst M n x := by
  have e : leastP M n (o :: l) = l.foldl (lstp M n) (cst M n o, o) := by simp [leastP, lstp]
  rw [e]
  obtain ⟨h1, h2, h3, h4⟩ := least_fold M n l (cst M n o, o) (fun x hx => hne x (by simp [hx])) (hne o (by simp)) rfl
  refine ⟨h1, ?_, fun x hx => ?_⟩
  · rcases h3 with h3 | h3
    · rw [h3]; simp
    · simp [h3]
  · rcases List.mem_cons.1 hx with rfl | hx
    · exact h2
    · exact h4 x hx

/-- Numbers below n, each once: a function. -/
structure Ins (n : Nat) (f : Nat → Nat) : Prop where
  lt : ∀ i, i < n → f i < n
  inj : ∀ i j, i < n → j < n → f i = f j → i = j

theorem costF_congr {M : List (List Int)} {f g : Nat → Nat} : ∀ {k : Nat}, (∀ i, i < k → f i = g i) → costF M f k = costF M g k
  | 0, _ => rfl
  | k + 1, h => by
    simp only [costF]
    rw [costF_congr (fun i hi => h i (by omega)), h k (by omega)]

theorem ins_ord {n : Nat} {f : Nat → Nat} (h : Ins n f) : IsOrd n ((List.range n).map fun i => (f i : Int)) := by
  refine ⟨fun z hz => ?_, ?_⟩
  · simp only [List.mem_map, List.mem_range] at hz
    obtain ⟨i, hi, rfl⟩ := hz
    have := h.lt i hi
    omega
  · rw [List.Nodup, List.pairwise_map]
    refine List.Pairwise.imp_of_mem ?_ (List.nodup_range (n := n))
    intro a b ha hb hab e
    have := h.inj a b (List.mem_range.1 ha) (List.mem_range.1 hb) (by omega)
    exact hab this

theorem ord_ins {n : Nat} {o : List Int} (h : IsOrd n o) (hl : o.length = n) : Ins n (fun i => (o.getD i 0).toNat) := by
  have hg : ∀ i (hi : i < n), o.getD i 0 = o[i]'(by omega) := fun i hi => by simp [show i < o.length by omega]
  refine ⟨fun i hi => ?_, fun i j hi hj e => ?_⟩
  · have := h.1 _ (List.getElem_mem (show i < o.length by omega))
    simp only [hg i hi]
    omega
  · have h1 := h.1 _ (List.getElem_mem (show i < o.length by omega))
    have h2 := h.1 _ (List.getElem_mem (show j < o.length by omega))
    simp only [hg i hi, hg j hj] at e
    have e' : o[i]'(by omega) = o[j]'(by omega) := by omega
    refine Classical.byContradiction fun hne => ?_
    rcases Nat.lt_or_gt_of_ne hne with hlt | hlt
    · exact (List.pairwise_iff_getElem.1 h.2 i j (by omega) (by omega) hlt) e'
    · exact (List.pairwise_iff_getElem.1 h.2 j i (by omega) (by omega) hlt) e'.symm

/-- One value set anew. -/
def updF (f : Nat → Nat) (r x : Nat) : Nat → Nat := fun i => if i = r then x else f i

theorem costF_upd (M : List (List Int)) (f : Nat → Nat) (r x : Nat) : ∀ k, costF M (updF f r x) k = costF M f k + (if r < k then ent M r x - ent M r (f r) else 0)
  | 0 => by simp [costF]
  | k + 1 => by
    simp only [costF, costF_upd M f r x k]
    by_cases h : k = r
    · subst h
      simp [updF]
      omega
    · have e : updF f r x k = f k := by simp [updF, h]
      rw [e]
      by_cases hl : r < k
      · simp [hl, show r < k + 1 by omega]; omega
      · simp [hl, show ¬ r < k + 1 by omega]

/-- Two rows give each other what they have. -/
def swF (f : Nat → Nat) (r s : Nat) : Nat → Nat := updF (updF f r (f s)) s (f r)

theorem swF_at (f : Nat → Nat) (r s i : Nat) : swF f r s i = if i = s then f r else if i = r then f s else f i := by
  simp only [swF, updF]

theorem costF_sw {M : List (List Int)} {f : Nat → Nat} {r s n : Nat} (hr : r < n) (hs : s < n) (hne : r ≠ s) :
    costF M (swF f r s) n = costF M f n + (ent M r (f s) - ent M r (f r)) + (ent M s (f r) - ent M s (f s)) := by
  unfold swF
  rw [costF_upd, costF_upd]
  have e : updF f r (f s) s = f s := by simp [updF, Ne.symm hne]
  simp [hr, hs, e]

theorem sw_ins {n : Nat} {f : Nat → Nat} {r s : Nat} (h : Ins n f) (hr : r < n) (hs : s < n) : Ins n (swF f r s) := by
  refine ⟨fun i hi => ?_, fun i j hi hj e => ?_⟩
  · rw [swF_at]
    split
    · exact h.lt _ hr
    · split
      · exact h.lt _ hs
      · exact h.lt _ hi
  · rw [swF_at, swF_at] at e
    split at e <;> try split at e
    · omega
    · split at e
      · have := h.inj _ _ hr hs e; omega
      · have := h.inj _ _ hr hj e; omega
    · split at e
      · have := h.inj _ _ hs hr e; omega
      · split at e
        · omega
        · have := h.inj _ _ hs hj e; omega
    · split at e
      · have := h.inj _ _ hi hr e; omega
      · split at e
        · have := h.inj _ _ hi hs e; omega
        · exact h.inj _ _ hi hj e

section
variable (M : List (List Int)) (σ : Nat → Nat)

/-- What it costs more, if row r has what row s had. -/
def wgtT (r s : Nat) : Int := ent M r (σ s) - ent M r (σ r)

def pwT : Nat → List Nat → Int
  | _, [] => 0
  | r, s :: t => wgtT M σ r s + pwT s t
end

def la : Nat → List Nat → Nat
  | r, [] => r
  | _, s :: t => la s t

theorem pwT_snoc (M : List (List Int)) (σ : Nat → Nat) : ∀ (t : List Nat) (r s : Nat), pwT M σ r (t ++ [s]) = pwT M σ r t + wgtT M σ (la r t) s
  | [], r, s => by simp [pwT, la]
  | x :: t, r, s => by
    simp only [List.cons_append, pwT, la, pwT_snoc M σ t x s]
    omega

theorem la_snoc : ∀ (t : List Nat) (r s : Nat), la r (t ++ [s]) = s
  | [], r, s => rfl
  | x :: t, r, s => by simp only [List.cons_append, la, la_snoc t x s]

theorem la_mem : ∀ (t : List Nat) (r : Nat), la r t ∈ r :: t
  | [], r => by simp [la]
  | x :: t, r => by
    have := la_mem t x
    simp only [la]
    exact List.mem_cons_of_mem _ this

/-- What row r has goes on to the last row, and each row takes what the next one had. -/
theorem rot {M : List (List Int)} {σ : Nat → Nat} {n : Nat} : ∀ (t : List Nat) (r : Nat) (f : Nat → Nat), Ins n f → (∀ s ∈ t, f s = σ s) → (r :: t).Nodup → (∀ s ∈ r :: t, s < n) →
    ∃ g, Ins n g ∧ costF M g n = costF M f n + pwT M σ r t + (ent M (la r t) (f r) - ent M (la r t) (σ (la r t))) - (ent M r (f r) - ent M r (σ r))
  | [], r, f, hf, _, _, _ => ⟨f, hf, by simp [pwT, la]⟩
  | s :: t, r, f, hf, hfs, hn, hlt => by
    have hr := hlt r (by simp)
    have hs := hlt s (by simp)
    have hn1 := List.nodup_cons.1 hn
    have hn2 := List.nodup_cons.1 hn1.2
    have hne : r ≠ s := fun e => hn1.1 (by simp [e])
    have e1 : f s = σ s := hfs s (by simp)
    obtain ⟨g, hg, hc⟩ := rot (M := M) (σ := σ) (n := n) t s (swF f r s) (sw_ins hf hr hs) (fun x hx => by
      have hxs : x ≠ s := fun e => hn2.1 (e ▸ hx)
      have hxr : x ≠ r := fun e => hn1.1 (by rw [← e]; simp [hx])
      rw [swF_at, if_neg hxs, if_neg hxr]
      exact hfs x (by simp [hx])) hn1.2 (fun x hx => hlt x (by simp [List.mem_cons.1 hx]))
    refine ⟨g, hg, ?_⟩
    have e2 : swF f r s s = f r := by rw [swF_at, if_pos rfl]
    rw [hc, costF_sw hr hs hne, e2, e1]
    simp only [pwT, la, wgtT]
    omega

/-- No cycle costs less than nothing. -/
theorem cyc_pos {M : List (List Int)} {σ : Nat → Nat} {n : Nat} (hσ : Ins n σ) (hmin : ∀ g, Ins n g → costF M σ n ≤ costF M g n) {r : Nat} {t : List Nat} (hn : (r :: t).Nodup) (hlt : ∀ s ∈ r :: t, s < n) :
    0 ≤ pwT M σ r t + wgtT M σ (la r t) r := by
  obtain ⟨g, hg, hc⟩ := rot (M := M) (σ := σ) t r σ hσ (fun _ _ => rfl) hn hlt
  have := hmin g hg
  simp only [wgtT]
  omega

/-- The least of numbers that are bounded below. -/
theorem least_of (P : Int → Prop) (lo : Int) : ∀ (k : Nat) (z : Int), P z → z ≤ lo + k → (∀ y, P y → lo ≤ y) → ∃ x, P x ∧ ∀ y, P y → x ≤ y
  | 0, z, hz, hk, hb => ⟨z, hz, fun y hy => by have := hb y hy; omega⟩
  | k + 1, z, hz, hk, hb => by
    by_cases h : ∃ y, P y ∧ y < z
    · obtain ⟨y, hy, hyz⟩ := h
      exact least_of P lo k y hy (by omega) hb
    · exact ⟨z, hz, fun y hy => Int.not_lt.1 (fun hlt => h ⟨y, hy, hlt⟩)⟩

/-- A way to s. -/
def Way (M : List (List Int)) (σ : Nat → Nat) (n s : Nat) (z : Int) : Prop := ∃ r t, (r :: t).Nodup ∧ (∀ x ∈ r :: t, x < n) ∧ la r t = s ∧ pwT M σ r t = z

theorem pwT_low {M : List (List Int)} {σ : Nat → Nat} {n B : Nat} (hw : ∀ r s, r < n → s < n → -(B : Int) ≤ wgtT M σ r s) : ∀ (t : List Nat) (r : Nat), (∀ x ∈ r :: t, x < n) → -((B * t.length : Nat) : Int) ≤ pwT M σ r t
  | [], r, _ => by simp [pwT]
  | s :: t, r, h => by
    have h1 := pwT_low hw t s (fun x hx => h x (by simp [List.mem_cons.1 hx]))
    have h2 := hw r s (h r (by simp)) (h s (by simp))
    simp only [pwT, List.length_cons, Nat.mul_add, Nat.mul_one]
    omega

theorem nodup_lt {n : Nat} : ∀ {l : List Nat}, l.Nodup → (∀ x ∈ l, x < n) → l.length ≤ n := by
  have key : ∀ (l o : List Nat), l.Nodup → (∀ x ∈ l, x ∈ o) → l.length ≤ o.length := by
    intro l
    induction l with
    | nil => intro o _ _; exact Nat.zero_le _
    | cons a l ih =>
      intro o hn hs
      have ha : a ∈ o := hs a (by simp)
      have hn' := List.nodup_cons.1 hn
      have := ih (o.erase a) hn'.2 (fun x hx => by
        have hxa : x ≠ a := fun e => hn'.1 (e ▸ hx)
        exact (List.mem_erase_of_ne hxa).2 (hs x (by simp [hx])))
      have hl := List.length_erase_of_mem ha
      have hp : 0 < o.length := List.length_pos_of_mem ha
      simp only [List.length_cons]
      omega
  intro l hn hl
  have := key l (List.range n) hn (fun x hx => List.mem_range.2 (hl x hx))
  simpa using this

/-- A way that has come by s parts there. -/
theorem way_part {M : List (List Int)} {σ : Nat → Nat} {s : Nat} : ∀ (t : List Nat) (r : Nat), s ∈ r :: t → ∃ t1 b, t1.Sublist t ∧ (s :: b).Sublist (r :: t) ∧ la r t1 = s ∧ la s b = la r t ∧ pwT M σ r t = pwT M σ r t1 + pwT M σ s b
  | [], r, h => by
    simp only [List.mem_singleton] at h
    subst h
    exact ⟨[], [], List.Sublist.refl _, List.Sublist.refl _, rfl, rfl, by simp [pwT]⟩
  | x :: t, r, h => by
    by_cases e : s = r
    · subst e
      exact ⟨[], x :: t, List.nil_sublist _, List.Sublist.refl _, rfl, rfl, by simp [pwT]⟩
    · have hm : s ∈ x :: t := by
        rcases List.mem_cons.1 h with h | h
        · exact absurd h e
        · exact h
      obtain ⟨t1, b, h1, h2, h3, h4, h5⟩ := way_part t x hm
      refine ⟨x :: t1, b, h1.cons_cons x, h2.cons r, h3, h4, ?_⟩
      show wgtT M σ r x + pwT M σ x t = wgtT M σ r x + pwT M σ x t1 + pwT M σ s b
      rw [h5]
      omega

/-- How little it costs to come to a row: what all rows abide. -/
theorem low_way {M : List (List Int)} {σ : Nat → Nat} {n B : Nat} (hσ : Ins n σ) (hmin : ∀ g, Ins n g → costF M σ n ≤ costF M g n) (hw : ∀ r s, r < n → s < n → -(B : Int) ≤ wgtT M σ r s) :
    ∃ L : Nat → Int, (∀ s, s < n → Way M σ n s (L s)) ∧ (∀ s, s < n → L s ≤ 0 ∧ -((B * n : Nat) : Int) ≤ L s) ∧ ∀ r s, r < n → s < n → L s ≤ L r + wgtT M σ r s := by
  have hb : ∀ s z, Way M σ n s z → -((B * n : Nat) : Int) ≤ z := by
    rintro s z ⟨r, t, h1, h2, _, rfl⟩
    have := pwT_low hw t r h2
    have hl := nodup_lt h1 h2
    have : B * t.length ≤ B * n := Nat.mul_le_mul_left _ (by simp at hl; omega)
    omega
  have hex : ∀ s, ∃ z, s < n → (Way M σ n s z ∧ ∀ y, Way M σ n s y → z ≤ y) := by
    intro s
    by_cases hs : s < n
    · obtain ⟨x, h1, h2⟩ := least_of (Way M σ n s) (-((B * n : Nat) : Int)) (B * n) 0 ⟨s, [], by simp, by simpa using hs, rfl, rfl⟩ (by omega) (hb s)
      exact ⟨x, fun _ => ⟨h1, h2⟩⟩
    · exact ⟨0, fun h => absurd h hs⟩
  obtain ⟨L, hL⟩ := Classical.axiomOfChoice hex
  refine ⟨L, fun s hs => (hL s hs).1, fun s hs => ⟨(hL s hs).2 0 ⟨s, [], by simp, by simpa using hs, rfl, rfl⟩, hb s _ (hL s hs).1⟩, fun r s hr hs => ?_⟩
  obtain ⟨q, t, h1, h2, h3, h4⟩ := (hL r hr).1
  by_cases hm : s ∈ q :: t
  · obtain ⟨t1, b, p1, p2, p3, p4, p5⟩ := way_part (M := M) (σ := σ) t q hm
    have hc := cyc_pos (M := M) hσ hmin (r := s) (t := b) (h1.sublist p2) (fun x hx => h2 x (p2.subset hx))
    have hd := (hL s hs).2 (pwT M σ q t1) ⟨q, t1, h1.sublist (p1.cons_cons q), fun x hx => h2 x ((p1.cons_cons q).subset hx), p3, rfl⟩
    rw [p4, h3] at hc
    omega
  · have hd := (hL s hs).2 (pwT M σ q (t ++ [s])) ⟨q, t ++ [s], by
      rw [← List.cons_append, List.nodup_append]
      exact ⟨h1, by simp, fun a ha b hb e => by simp only [List.mem_singleton] at hb; subst hb; subst e; exact hm ha⟩, fun x hx => by
      rw [← List.cons_append] at hx
      rcases List.mem_append.1 hx with hx | hx
      · exact h2 x hx
      · simp only [List.mem_singleton] at hx; omega, la_snoc _ _ _, rfl⟩
    rw [pwT_snoc, h3] at hd
    omega

/-- All values are met. -/
theorem ins_onto {n : Nat} {f : Nat → Nat} (h : Ins n f) {j : Nat} (hj : j < n) : ∃ i, i < n ∧ f i = j := by
  refine Classical.byContradiction fun hno => ?_
  have hnd : (j :: (List.range n).map f).Nodup := by
    rw [List.nodup_cons]
    refine ⟨fun hm => ?_, ?_⟩
    · simp only [List.mem_map, List.mem_range] at hm
      obtain ⟨i, hi, e⟩ := hm
      exact hno ⟨i, hi, e⟩
    · rw [List.Nodup, List.pairwise_map]
      refine List.Pairwise.imp_of_mem ?_ (List.nodup_range (n := n))
      intro a b ha hb hab e
      exact hab (h.inj a b (List.mem_range.1 ha) (List.mem_range.1 hb) e)
  have := nodup_lt (n := n) hnd (fun x hx => by
    rcases List.mem_cons.1 hx with rfl | hx
    · exact hj
    · simp only [List.mem_map, List.mem_range] at hx
      obtain ⟨i, hi, rfl⟩ := hx
      exact h.lt i hi)
  simp at this
  omega

def sumF (g : Nat → Int) : Nat → Int
  | 0 => 0
  | k + 1 => sumF g k + g k

theorem perm_sum {l o : List Nat} (h : l.Perm o) (g : Nat → Int) : (l.map g).sum = (o.map g).sum := by
  induction h with
  | nil => rfl
  | cons x _ ih => simp [ih]
  | swap x y l => simp; omega
  | trans _ _ ih1 ih2 => rw [ih1, ih2]

theorem sumF_list (g : Nat → Int) : ∀ n, sumF g n = ((List.range n).map g).sum
  | 0 => by simp [sumF]
  | n + 1 => by rw [List.range_succ]; simp [sumF, sumF_list g n]

theorem ins_sum {n : Nat} {f : Nat → Nat} (h : Ins n f) (g : Nat → Int) : sumF (fun i => g (f i)) n = sumF g n := by
  have hnd : ((List.range n).map f).Nodup := by
    rw [List.Nodup, List.pairwise_map]
    refine List.Pairwise.imp_of_mem ?_ (List.nodup_range (n := n))
    intro a b ha hb hab e
    exact hab (h.inj a b (List.mem_range.1 ha) (List.mem_range.1 hb) e)
  have hp : ((List.range n).map f).Perm (List.range n) := by
    rw [List.perm_iff_count]
    intro a
    have hm : a ∈ (List.range n).map f ↔ a ∈ List.range n := by
      simp only [List.mem_map, List.mem_range]
      constructor
      · rintro ⟨i, hi, rfl⟩; exact h.lt i hi
      · intro ha; exact ins_onto h ha
    by_cases ha : a ∈ List.range n
    · rw [hnd.count, (List.nodup_range (n := n)).count]
      simp only [hm, ha]
    · rw [List.count_eq_zero.2 ha, List.count_eq_zero.2 (fun k => ha (hm.1 k))]
  have := perm_sum hp g
  rw [List.map_map] at this
  rw [sumF_list, sumF_list]
  exact this

end Go.Proofs.Ytjbcpojngdligaa

/- Squares that may be, by the program and by the document; what a list holds, and its sum. -/
namespace Go.Proofs.Ytjbcpojngdligaa
open Go.RowKit
attribute [local go_sem ↓] Go.wp_at_zero Go.wp_at_succ

theorem anyT_contains (zs : List Int) (x : Int) : zs.any (fun z => z == x) = zs.contains x := by
  rw [Bool.eq_iff_iff]; simp

theorem anyT_snoc {α : Type} {p : α → Bool} {l : List α} {d : α} {k : Nat} (h : k < l.length) (h0 : (l.take k).any p = false) : (l.take (k + 1)).any p = p (l.getD k d) := by
  rw [List.take_succ_eq_append_getElem h, List.any_append, h0]; simp [h]

theorem anyT_get {α : Type} {p : α → Bool} {l : List α} {d : α} {k : Nat} (h : k < l.length) (h0 : p (l.getD k d) = true) : l.any p = true :=
  List.any_eq_true.2 ⟨l.getD k d, by simp [h], h0⟩

def rowQ (c : Nat) (r : List Int) : Int := if r.length ≠ c then 3 else if r.any (farB · 10000) then 4 else 0

def rowsSq (c : Nat) : List (List Int) → Int
  | [] => 0
  | r :: rs => if rowQ c r = 0 then rowsSq c rs else rowQ c r

def sqE (m : List (List Int)) : Int := if m.length < 1 ∨ 6 < m.length then 2 else rowsSq m.length m

theorem rowsSq_hit {c : Nat} : ∀ {m : List (List Int)} {k : Nat}, k < m.length → (∀ i, i < k → rowQ c (m.getD i []) = 0) → rowQ c (m.getD k []) ≠ 0 → rowsSq c m = rowQ c (m.getD k [])
  | r :: rs, 0, _, _, h => by
    simp only [List.getD_cons_zero] at h
    simp [rowsSq, h]
  | r :: rs, k + 1, hk, h0, h => by
    have h1 := h0 0 (by omega)
    simp only [List.getD_cons_zero] at h1
    simp only [List.getD_cons_succ] at h
    simp only [rowsSq, h1, if_true, List.getD_cons_succ]
    exact rowsSq_hit (by simpa using hk) (fun i hi => by have := h0 (i + 1) (by omega); simpa using this) h

theorem rowsSq_all {c : Nat} : ∀ {m : List (List Int)}, (∀ i, i < m.length → rowQ c (m.getD i []) = 0) → rowsSq c m = 0
  | [], _ => rfl
  | r :: rs, h => by
    have h1 := h 0 (by simp)
    simp only [List.getD_cons_zero] at h1
    simp only [rowsSq, h1, if_true]
    exact rowsSq_all fun i hi => by have := h (i + 1) (by simpa using hi); simpa using this

theorem rowsSq_zero {c : Nat} : ∀ {m : List (List Int)}, rowsSq c m = 0 → ∀ r ∈ m, rowQ c r = 0
  | [], _, _, hr => by simp at hr
  | r :: rs, h, x, hx => by
    simp only [rowsSq] at h
    by_cases h1 : rowQ c r = 0
    · rw [if_pos h1] at h
      rcases List.mem_cons.1 hx with rfl | hx
      · exact h1
      · exact rowsSq_zero h x hx
    · rw [if_neg h1] at h; exact absurd h h1

/-- A square that may be. -/
structure Sqr (m : List (List Int)) : Prop where
  n1 : 1 ≤ m.length
  n6 : m.length ≤ 6
  len : ∀ r ∈ m, r.length = m.length
  bd : ∀ r ∈ m, ∀ z ∈ r, -10000 ≤ z ∧ z ≤ 10000

theorem sq_ok {m : List (List Int)} (h : sqE m = 0) : Sqr m := by
  unfold sqE at h
  by_cases h0 : m.length < 1 ∨ 6 < m.length
  · rw [if_pos h0] at h; simp at h
  · rw [if_neg h0] at h
    have hz := rowsSq_zero h
    have hf : ∀ r ∈ m, r.length = m.length ∧ r.any (farB · 10000) = false := by
      intro r hr
      have := hz r hr
      unfold rowQ at this
      by_cases h1 : r.length ≠ m.length
      · rw [if_pos h1] at this; simp at this
      · rw [if_neg h1] at this
        refine ⟨by omega, ?_⟩
        cases h2 : r.any (farB · 10000)
        · rfl
        · rw [h2] at this; simp at this
    refine ⟨by omega, by omega, fun r hr => (hf r hr).1, fun r hr z hz => ?_⟩
    have := List.any_eq_false.1 (hf r hr).2 z hz
    simp only [farB, Bool.or_eq_true, decide_eq_true_eq, not_or] at this
    omega

theorem Sqr.ent {m : List (List Int)} (h : Sqr m) {i j : Nat} : -10000 ≤ ent m i j ∧ ent m i j ≤ 10000 := by
  unfold Go.Proofs.Ytjbcpojngdligaa.ent
  by_cases hi : i < m.length
  · have e : m.getD i [] = m[i] := by simp [hi]
    rw [e]
    by_cases hj : j < m[i].length
    · have e2 : m[i].getD j 0 = m[i][j] := by simp [hj]
      rw [e2]
      exact h.bd _ (List.getElem_mem _) _ (List.getElem_mem _)
    · simp [hj]
  · simp [hi]

theorem sumL_snoc (l : List Int) (k : Nat) (h : k < l.length) : (l.take (k + 1)).sum = (l.take k).sum + l.getD k 0 := by
  have e : l.getD k 0 = l[k] := by simp [h]
  rw [List.take_succ_eq_append_getElem h, List.sum_append, e]; simp

theorem sumL_bd {l : List Int} {b : Nat} : ∀ k, k ≤ l.length → (∀ z ∈ l, z.natAbs ≤ b) → (l.take k).sum.natAbs ≤ b * k
  | 0, _, _ => by simp
  | k + 1, hk, hb => by
    have h1 := sumL_bd (l := l) k (by omega) hb
    rw [sumL_snoc l k (by omega)]
    have h2 : (l.getD k 0).natAbs ≤ b := by
      have e : l.getD k 0 = l[k] := by simp [show k < l.length by omega]
      rw [e]; exact hb _ (List.getElem_mem _)
    rw [Nat.mul_add, Nat.mul_one]
    omega

set_option maxRecDepth 100000 in
set_option maxHeartbeats 400000 in
theorem sumT_any (B : Nat) (zs : List Int) (v : Value) (w : World) (hv : Sl B 3 w v (ints zs)) (hl : zs.length ≤ 1000) (hb : ∀ z ∈ zs, z.natAbs ≤ 1000000000) :
    Calls Try.prog 7 #[v] w fun e w' => e = .returned (.int .i64 zs.sum) ∧ ∃ n, w' = w.drewN n := by
  obtain ⟨ao, cap, hvv, hlc, hcm⟩ := sl_open hv
  subst hvv
  have HV : Hid (Sl B 3 w (.slice ao zs.length cap) (ints zs)) := hv
  have HB : Hid (∀ k, k ≤ zs.length → -1000000000000 ≤ (zs.take k).sum ∧ (zs.take k).sum ≤ 1000000000000) := fun k hk => by
    have := sumL_bd k hk hb
    have : 1000000000 * k ≤ 1000000000 * 1000 := Nat.mul_le_mul_left _ (by omega)
    omega
  clear hv hb
  go_enter Try.func7, Try.ntmps7
  go_wp2
  go_loopw [3, 4] (fun s i wr => ∃ k : Nat, k ≤ zs.length ∧ i = .int .i64 k ∧ s = .int .i64 (zs.take k).sum ∧ ∃ n, wr = w.drewN n) (fun _ i _ => zs.length - (intOf i).toNat)
  case atStart => exact ⟨0, Nat.zero_le _, rfl, by simp, 0, rfl⟩
  case round =>
    obtain ⟨k, hk, rfl, rfl, n, rfl⟩ := hrel
    by_cases hlt : k < zs.length
    · obtain ⟨b, o, cp, hs, hc1, hcc⟩ := sl_cell HV.out hlt
      simp only [Value.slice.injEq] at hs
      obtain ⟨rfl, _, rfl⟩ := hs
      have HS : Hid ((zs.take (k + 1)).sum = (zs.take k).sum + zs.getD k 0) := sumL_snoc zs k hlt
      have b1 := HB.out k hk
      have b2 := HB.out (k + 1) hlt
      rw [HS.out] at b2
      generalize zs.getD k 0 = z at *
      generalize (zs.take k).sum = S at *
      go_wp2
      go_roundw
      case rel => exact ⟨k + 1, by omega, by go_num, by rw [HS.out], _, rfl⟩
      case measure => simp [intOf]; omega
    · have hke : zs.take k = zs := List.take_of_length_le (by omega)
      rw [hke]
      go_wp2
      go_ret
      exact ⟨rfl, n, rfl⟩

set_option maxRecDepth 100000 in
set_option maxHeartbeats 400000 in
theorem indexT_any (B : Nat) (x : Int) (zs : List Int) (v : Value) (w : World) (hv : Sl B 3 w v (ints zs)) :
    Calls Try.prog 53 #[v, .int .i64 x] w fun e w' => ∃ k : Int, e = .returned (.int .i64 k) ∧ decide (0 ≤ k) = zs.contains x ∧ w' = w := by
  obtain ⟨ao, cap, hvv, hlc, hcm⟩ := sl_open hv
  subst hvv
  have HV : Hid (Sl B 3 w (.slice ao zs.length cap) (ints zs)) := hv
  clear hv
  rw [← anyT_contains]
  go_enter Try.func53, Try.ntmps53
  go_wp2
  go_loopw [8, 5] (fun i _ wr => ∃ k : Nat, k ≤ zs.length ∧ i = .int .i64 k ∧ (zs.take k).any (fun z => z == x) = false ∧ wr = w) (fun i _ _ => zs.length - (intOf i).toNat)
  case atStart => exact ⟨0, Nat.zero_le _, rfl, by simp, rfl⟩
  case round =>
    obtain ⟨k, hk, rfl, hno, rfl⟩ := hrel
    have HN : Hid ((zs.take k).any (fun z => z == x) = false) := hno
    clear hno
    by_cases hlt : k < zs.length
    · obtain ⟨b, o, cp, hs, hc1, hcc⟩ := sl_cell HV.out hlt
      simp only [Value.slice.injEq] at hs
      obtain ⟨rfl, _, rfl⟩ := hs
      have HS1 : Hid ((zs.take (k + 1)).any (fun z => z == x) = (zs.getD k 0 == x)) := anyT_snoc (p := fun z => z == x) hlt HN.out
      have HG : Hid ((zs.getD k 0 == x) = true → zs.any (fun z => z == x) = true) := fun h => anyT_get (p := fun z => z == x) hlt h
      generalize zs.getD k 0 = z at *
      cases hf : (x == z)
      · have HF : Hid ((z == x) = false) := by rw [beq_eq_false_iff_ne] at hf ⊢; exact fun e => hf e.symm
        go_wp2
        go_roundw
        case rel => exact ⟨k + 1, by omega, by go_num, by rw [HS1.out]; exact HF.out, trivial⟩
        case measure => simp [intOf]; omega
      · have HF : Hid ((z == x) = true) := by rw [beq_iff_eq] at hf ⊢; exact hf.symm
        have HK : Hid (decide ((0 : Int) ≤ (k : Int)) = true) := decide_eq_true (by omega)
        go_wp2
        go_ret
        exact ⟨k, rfl, by rw [HK.out, HG.out HF.out], rfl⟩
    · have hke : zs.take k = zs := List.take_of_length_le (by omega)
      have HE : Hid (zs.any (fun z => z == x) = false) := by rw [← hke]; exact HN.out
      go_wp2
      go_ret
      exact ⟨-1, rfl, by rw [HE.out]; rfl, rfl⟩

set_option maxRecDepth 100000 in
theorem containsT_any (B : Nat) (x : Int) (zs : List Int) (v : Value) (w : World) (hv : Sl B 3 w v (ints zs)) :
    Calls Try.prog 37 #[v, .int .i64 x] w fun e w' => e = .returned (.bool (zs.contains x)) ∧ w' = w := by
  obtain ⟨ao, cap, hvv, hlc, hcm⟩ := sl_open hv
  subst hvv
  have HI : Hid (Calls Try.prog 53 #[.slice ao zs.length cap, .int .i64 x] w fun e w' => ∃ k : Int, e = .returned (.int .i64 k) ∧ decide (0 ≤ k) = zs.contains x ∧ w' = w) := indexT_any B x zs _ w hv
  clear hv
  generalize zs.contains x = c at *
  go_enter Try.func37, Try.ntmps37
  go_wp2_with fail
  refine HI.out.mono ?_
  rintro e w' ⟨k, rfl, hk, rfl⟩
  have HK : Hid (decide (0 ≤ k) = c) := hk
  clear hk
  go_wp2
  go_ret
  exact ⟨ret_bool HK.out, rfl⟩

end Go.Proofs.Ytjbcpojngdligaa

/- Which of n things a raw number speaks of. -/
namespace Go.Proofs.Ytjbcpojngdligaa
open Go.RowKit

def pickF (c n : Int) : Int := if c < 0 then (-(c + 1)) % n else c % n

theorem pickF_bd {c n : Int} (h : 1 ≤ n) : 0 ≤ pickF c n ∧ pickF c n < n := by
  unfold pickF
  split
  · exact ⟨Int.emod_nonneg _ (by omega), Int.emod_lt_of_pos _ (by omega)⟩
  · exact ⟨Int.emod_nonneg _ (by omega), Int.emod_lt_of_pos _ (by omega)⟩

set_option maxRecDepth 100000 in
set_option maxHeartbeats 400000 in
theorem pick_val (c n : Int) (w : World) (h1 : 1 ≤ n) (h2 : n ≤ 4611686018427387904) (hc : In64 c) :
    Calls Try.prog 4 #[.int .i64 c, .int .i64 n] w fun e w' => e = .returned (.int .i64 (pickF c n)) ∧ w' = w := by
  have c0 : -9223372036854775808 ≤ c := hc.1
  have c1 : c ≤ 9223372036854775807 := hc.2
  clear hc
  have hn0 : ¬ n = 0 := by omega
  by_cases hcn : c < 0
  · have HE : Hid (pickF c n = (-(c + 1)) % n) := if_pos hcn
    have e0 : (-(c + 1)).tmod n = (-(c + 1)) % n := Int.tmod_eq_emod_of_nonneg (by omega)
    have e1 := Int.emod_nonneg (-(c + 1)) hn0
    have e2 := Int.emod_lt_of_pos (-(c + 1)) (show 0 < n by omega)
    go_enter Try.func4, Try.ntmps4
    go_wp2
    go_ret
    exact ⟨by rw [HE.out]; rfl, rfl⟩
  · have HE : Hid (pickF c n = c % n) := if_neg hcn
    have e0 : c.tmod n = c % n := Int.tmod_eq_emod_of_nonneg (by omega)
    have e1 := Int.emod_nonneg c hn0
    have e2 := Int.emod_lt_of_pos c (show 0 < n by omega)
    go_enter Try.func4, Try.ntmps4
    go_wp2
    go_ret
    exact ⟨by rw [HE.out]; rfl, rfl⟩

end Go.Proofs.Ytjbcpojngdligaa
