/- Words, pure: what a letter put behind a word does to its length. -/
import Derived.Test.YtkgljfnbaoncbaaMgAA
namespace Go.Proofs.Ytkgljfnbaoncbaa

def ngL (x : List Int) : List Int := x.map fun z => -z

theorem ngL_ng (x : List Int) : ngL (ngL x) = x := by
  unfold ngL
  rw [List.map_map]
  have : ((fun z : Int => -z) ∘ fun z => -z) = id := by funext z; simp
  rw [this, List.map_id]

theorem ngL_get (x : List Int) (k : Nat) : (ngL x).getD k 0 = -(x.getD k 0) := by
  unfold ngL
  by_cases h : k < x.length
  · simp [h]
  · simp [Nat.not_lt.1 h]

theorem ctn_len (c : List (List Int)) (r : Nat) (b : List Int) : (ctn c r b).length = c.length := by simp [ctn]

theorem list_ext {x y : List Int} {n : Nat} (hx : x.length = n) (hy : y.length = n) (h : ∀ k, k < n → x.getD k 0 = y.getD k 0) : x = y := by
  refine List.ext_getElem (by omega) fun k h1 h2 => ?_
  have := h k (by omega)
  simpa [h1, h2] using this

theorem sm_ng {f : Nat → Int} (n : Nat) : sm n (fun k => -(f k)) = -(sm n f) := by
  have := sm_mul (f := f) (-1) n
  rw [sm_congr (g := fun k => -1 * f k) n fun k _ => by omega, this]; omega

theorem ctn_at {c : List (List Int)} {r k : Nat} (b : List Int) (hk : k < c.length) : (ctn c r b).getD k 0 = if k = r then b.getD r 0 - sm c.length (fun k => cE c r k * b.getD k 0) else b.getD k 0 := by
  unfold ctn
  rw [getD_range hk]

theorem ctn_ng (c : List (List Int)) (r : Nat) (b : List Int) : ctn c r (ngL b) = ngL (ctn c r b) := by
  refine list_ext (ctn_len _ _ _) (by simp [ngL, ctn_len]) fun k hk => ?_
  rw [ctn_at _ hk, ngL_get, ngL_get, ngL_get, ctn_at _ hk]
  by_cases e : k = r
  · rw [if_pos e, if_pos e, sm_congr (g := fun k => -(cE c r k * b.getD k 0)) _ fun j _ => by rw [ngL_get, Int.mul_neg], sm_ng]
    omega
  · rw [if_neg e, if_neg e]

theorem un_at {n r k : Nat} (hk : k < n) : (un n r).getD k 0 = if k = r then 1 else 0 := by
  unfold un
  rw [getD_range hk]

theorem un_len (n r : Nat) : (un n r).length = n := by simp [un]

theorem ctn_un {c R : List (List Int)} (h : Rt c R) {r : Nat} (hr : r < c.length) : ctn c r (un c.length r) = ngL (un c.length r) := by
  refine list_ext (ctn_len _ _ _) (by simp [ngL, un_len]) fun k hk => ?_
  rw [ctn_at _ hk, ngL_get, un_at hk, un_at hr, if_pos rfl]
  have e1 : sm c.length (fun k => cE c r k * (un c.length r).getD k 0) = 2 := by
    rw [sm_congr (g := fun k => if k = r then cE c r k else 0) _ fun j hj => by
      rw [un_at hj]
      by_cases e : j = r <;> simp [e], sm_one _ hr, h.dg r hr]
  rw [e1]
  by_cases e : k = r <;> simp [e]

theorem ctn_ctn {c R : List (List Int)} (h : Rt c R) {r : Nat} (hr : r < c.length) {b : List Int} (hb : b.length = c.length) : ctn c r (ctn c r b) = b := by
  refine list_ext (ctn_len _ _ _) hb fun k hk => ?_
  rw [ctn_at _ hk]
  have e1 : sm c.length (fun k => cE c r k * (ctn c r b).getD k 0) = sm c.length (fun k => cE c r k * b.getD k 0) - 2 * sm c.length (fun k => cE c r k * b.getD k 0) := by
    rw [sm_congr (g := fun k => cE c r k * b.getD k 0 + (if k = r then -(cE c r k * sm c.length (fun k => cE c r k * b.getD k 0)) else 0)) _ fun j hj => by
      rw [ctn_at _ hj]
      by_cases e : j = r
      · subst e
        rw [if_pos rfl, if_pos rfl, Int.mul_sub]; omega
      · rw [if_neg e, if_neg e]; omega, sm_add, sm_one _ hr, h.dg r hr]
    omega
  rw [e1, ctn_at _ hr, if_pos rfl]
  by_cases e : k = r
  · subst e
    rw [if_pos rfl]; omega
  · rw [if_neg e, ctn_at _ hk, if_neg e]

/-- What a word's turns, the first letter first, do to a sum of roots of the other kind. -/
def tb (c : List (List Int)) (w : List Nat) (b : List Int) : List Int := w.foldl (fun b a => ctn c a b) b

theorem tb_len {c : List (List Int)} : ∀ (w : List Nat) {b : List Int}, b.length = c.length → (tb c w b).length = c.length
  | [], _, h => h
  | a :: w, b, _ => tb_len w (b := ctn c a b) (ctn_len _ _ _)

theorem pr_tak {c : List (List Int)} (v : List Int) : ∀ (w : List Nat) (b : List Int), Lt c w → pr c.length (tak c w v) b = pr c.length v (tb c w b)
  | [], _, _ => rfl
  | a :: w, b, hw => by
    show pr c.length (ovL c (tak c w v) a) b = pr c.length v (tb c w (ctn c a b))
    rw [pr_ov _ _ _ (hw a (by simp)), pr_tak v w _ fun x hx => hw x (by simp [hx])]

theorem tb_ng {c : List (List Int)} : ∀ (w : List Nat) (b : List Int), tb c w (ngL b) = ngL (tb c w b)
  | [], _ => rfl
  | a :: w, b => by
    show tb c w (ctn c a (ngL b)) = ngL (tb c w (ctn c a b))
    rw [ctn_ng, tb_ng w]

theorem tb_back {c R : List (List Int)} (h : Rt c R) : ∀ (w : List Nat) {b : List Int}, Lt c w → b.length = c.length → tb c w (tb c w.reverse b) = b
  | [], _, _, _ => rfl
  | a :: w, b, hw, hb => by
    have e : tb c (a :: w).reverse b = ctn c a (tb c w.reverse b) := by
      rw [List.reverse_cons]
      unfold tb
      rw [List.foldl_append]
      rfl
    show tb c w (ctn c a (tb c (a :: w).reverse b)) = b
    rw [e, ctn_ctn h (hw a (by simp)) (tb_len _ hb)]
    exact tb_back h w (fun x hx => hw x (by simp [hx])) hb

theorem tb_forth {c R : List (List Int)} (h : Rt c R) {w : List Nat} {b : List Int} (hw : Lt c w) (hb : b.length = c.length) : tb c w.reverse (tb c w b) = b := by
  have := tb_back h w.reverse (b := b) (fun x hx => hw x (by simpa using hx)) hb
  rw [List.reverse_reverse] at this
  exact this

/-- A root, above or below 0. -/
def PM (R : List (List Int)) (x : List Int) : Prop := x ∈ R ∨ ngL x ∈ R

theorem pm_ctn {c R : List (List Int)} (h : Rt c R) {r : Nat} (hr : r < c.length) {x : List Int} (hx : PM R x) : PM R (ctn c r x) := by
  have key : ∀ y, y ∈ R → PM R (ctn c r y) := fun y hy => by
    by_cases e : y = un c.length r
    · subst e
      rw [ctn_un h hr]
      exact .inr (by rw [ngL_ng]; exact hy)
    · have hm : y ∈ R.erase (un c.length r) := (List.mem_erase_of_ne e).2 hy
      exact .inl (List.mem_of_mem_erase ((h.prm r hr).mem_iff.1 (List.mem_map_of_mem hm)))
  rcases hx with hx | hx
  · exact key x hx
  · have := key _ hx
    rw [ctn_ng] at this
    rcases this with k | k
    · exact .inr k
    · exact .inl (by rw [ngL_ng] at k; exact k)

theorem pm_tb {c R : List (List Int)} (h : Rt c R) : ∀ (w : List Nat) {x : List Int}, Lt c w → PM R x → PM R (tb c w x)
  | [], _, _, hx => hx
  | a :: w, x, hw, hx => pm_tb h w (x := ctn c a x) (fun y hy => hw y (by simp [hy])) (pm_ctn h (hw a (by simp)) hx)

def ht (n : Nat) (x : List Int) : Int := sm n fun k => x.getD k 0

theorem ht_ng (n : Nat) (x : List Int) : ht n (ngL x) = -(ht n x) := by
  unfold ht
  rw [sm_congr (g := fun k => -(x.getD k 0)) _ fun k _ => ngL_get x k, sm_ng]

/-- Turned by a letter, a root stays above or below 0, unless it is that letter's. -/
theorem ht_ctn {c R : List (List Int)} (h : Rt c R) {s : Nat} (hs : s < c.length) {x : List Int} (hx : PM R x) (h1 : x ≠ un c.length s) (h2 : ngL x ≠ un c.length s) : (ht c.length (ctn c s x) < 0 ↔ ht c.length x < 0) := by
  have key : ∀ y, y ∈ R → y ≠ un c.length s → 0 < ht c.length (ctn c s y) ∧ 0 < ht c.length y := fun y hy hne => by
    have hm : y ∈ R.erase (un c.length s) := (List.mem_erase_of_ne hne).2 hy
    exact ⟨h.pos _ (List.mem_of_mem_erase ((h.prm s hs).mem_iff.1 (List.mem_map_of_mem hm))), h.pos y hy⟩
  rcases hx with hx | hx
  · obtain ⟨k1, k2⟩ := key x hx h1
    constructor <;> intro <;> omega
  · obtain ⟨k1, k2⟩ := key _ hx h2
    rw [ctn_ng, ht_ng] at k1
    rw [ht_ng] at k2
    constructor <;> intro <;> omega

theorem cnt_but {R : List (List Int)} (hn : R.Nodup) {b0 : List Int} (hb : b0 ∈ R) {p q : List Int → Bool} (h : ∀ b ∈ R, b ≠ b0 → p b = q b) :
    R.countP q + (if p b0 = true then 1 else 0) = R.countP p + (if q b0 = true then 1 else 0) := by
  have hp := List.perm_cons_erase hb
  rw [hp.countP_eq, hp.countP_eq (p := p), List.countP_cons, List.countP_cons]
  have e : (R.erase b0).countP q = (R.erase b0).countP p := List.countP_congr fun b hm => by
    have hne : b ≠ b0 := fun e => by
      subst e
      exact (List.Nodup.not_mem_erase hn) hm
    rw [h b (List.mem_of_mem_erase hm) hne]
  rw [e]
  omega

/-- One letter more, behind a word. -/
theorem ends_ok {c R : List (List Int)} (h : Rt c R) {w : List Nat} (hw : Lt c w) {s : Nat} (hs : s < c.length) :
    (0 < (tak c w.reverse (ones c.length)).getD s 0 → nB c.length R (tak c (w ++ [s]) (ones c.length)) = nB c.length R (tak c w (ones c.length)) + 1) ∧
    ((tak c w.reverse (ones c.length)).getD s 0 < 0 → nB c.length R (tak c (w ++ [s]) (ones c.length)) + 1 = nB c.length R (tak c w (ones c.length))) := by
  have hwr : Lt c w.reverse := fun x hx => hw x (by simpa using hx)
  have hws : Lt c (w ++ [s]) := fun x hx => by
    rcases List.mem_append.1 hx with hx | hx
    · exact hw x hx
    · rw [List.mem_singleton] at hx; subst hx; exact hs
  have eb : (tak c w.reverse (ones c.length)).getD s 0 = ht c.length (tb c w.reverse (un c.length s)) := by
    rw [← pr_un _ hs, pr_tak _ _ _ hwr, pr_ones]; rfl
  have n1 : nB c.length R (tak c w (ones c.length)) = R.countP fun b => decide (ht c.length (tb c w b) < 0) := List.countP_congr fun b _ => by
    rw [pr_tak _ _ _ hw, pr_ones]; rfl
  have n2 : nB c.length R (tak c (w ++ [s]) (ones c.length)) = R.countP fun b => decide (ht c.length (ctn c s (tb c w b)) < 0) := List.countP_congr fun b _ => by
    rw [pr_tak _ _ _ hws, pr_ones]
    have : tb c (w ++ [s]) b = ctn c s (tb c w b) := by unfold tb; rw [List.foldl_append]; rfl
    rw [this]; rfl
  rw [n1, n2, eb]
  have hu := un_len c.length s
  have hus : ht c.length (un c.length s) = 1 := by
    unfold ht
    rw [sm_congr (g := fun k => if k = s then 1 else 0) _ fun k hk => un_at hk, sm_one (f := fun _ => 1) _ hs]
  obtain ⟨y, hy⟩ : ∃ y, y = tb c w.reverse (un c.length s) := ⟨_, rfl⟩
  have hyl : y.length = c.length := by rw [hy]; exact tb_len _ hu
  have hyb : tb c w y = un c.length s := by rw [hy]; exact tb_back h w hw hu
  have hpm : PM R y := by rw [hy]; exact pm_tb h _ hwr (.inl (h.sim s hs))
  have huniq : ∀ b ∈ R, tb c w b = un c.length s → b = y := fun b hb e => by
    have := tb_forth h hw (h.len b hb)
    rw [e] at this
    rw [hy, this]
  rw [← hy]
  constructor
  · intro hpos
    have hyR : y ∈ R := by
      rcases hpm with k | k
      · exact k
      · have := h.pos _ k
        have e : sm c.length (fun k => (ngL y).getD k 0) = ht c.length (ngL y) := rfl
        rw [e, ht_ng] at this
        omega
    have := cnt_but h.nod hyR (p := fun b => decide (ht c.length (tb c w b) < 0)) (q := fun b => decide (ht c.length (ctn c s (tb c w b)) < 0)) fun b hb hne => by
      have h1 : tb c w b ≠ un c.length s := fun e => hne (huniq b hb e)
      have h2 : ngL (tb c w b) ≠ un c.length s := fun e => by
        rw [← tb_ng] at e
        have e2 := tb_forth h hw (b := ngL b) (by simp [ngL, h.len b hb])
        rw [e, ← hy] at e2
        have p1 := h.pos _ hyR
        have p2 := h.pos _ hb
        have q1 : ht c.length y = -(ht c.length b) := by rw [e2, ht_ng]
        unfold ht at q1
        omega
      have := ht_ctn h hs (pm_tb h w hw (.inl hb)) h1 h2
      rw [decide_eq_decide]
      exact this.symm
    simp only [hyb, ctn_un h hs, ht_ng, hus] at this
    simpa using this
  · intro hneg
    have hyR : ngL y ∈ R := by
      rcases hpm with k | k
      · have := h.pos _ k
        have e : sm c.length (fun k => y.getD k 0) = ht c.length y := rfl
        omega
      · exact k
    have hnb : tb c w (ngL y) = ngL (un c.length s) := by rw [tb_ng, hyb]
    have := cnt_but h.nod hyR (p := fun b => decide (ht c.length (tb c w b) < 0)) (q := fun b => decide (ht c.length (ctn c s (tb c w b)) < 0)) fun b hb hne => by
      have h1 : tb c w b ≠ un c.length s := fun e => by
        have e2 := huniq b hb e
        have p2 := h.pos _ hb
        have e3 : sm c.length (fun k => b.getD k 0) = ht c.length b := rfl
        rw [e2] at e3 p2
        omega
      have h2 : ngL (tb c w b) ≠ un c.length s := fun e => by
        rw [← tb_ng] at e
        have e2 := tb_forth h hw (b := ngL b) (by simp [ngL, h.len b hb])
        rw [e, ← hy] at e2
        exact hne (by rw [e2, ngL_ng])
      have := ht_ctn h hs (pm_tb h w hw (.inl hb)) h1 h2
      rw [decide_eq_decide]
      exact this.symm
    simp only [hnb, ctn_ng, ctn_un h hs, ngL_ng, ht_ng, hus] at this
    simpa using this

end Go.Proofs.Ytkgljfnbaoncbaa
