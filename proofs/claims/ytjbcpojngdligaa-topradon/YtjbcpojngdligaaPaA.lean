import Derived.Test.YtjbcpojngdligaaDatA
import Derived.Test.YtjbcpojngdligaaWiA
import Derived.Test.YtjbcpojngdligaaRefA
/- The points around 0 that are made of raw numbers. -/
namespace Go.Proofs.Ytjbcpojngdligaa

def onesL (n : Nat) : List Int := (List.range n).map fun _ => 1
theorem onesL_len (n : Nat) : (onesL n).length = n := by simp [onesL]
theorem onesL_succ (n : Nat) : onesL (n + 1) = onesL n ++ [1] := by simp [onesL, List.range_succ]

/-- A point on an axis. -/
def axL (n k : Nat) (a : Int) : List Int := (List.range n).map fun j => if j = k then a else 0
theorem axL_len (n k : Nat) (a : Int) : (axL n k a).length = n := by simp [axL]

/-- The points around 0. -/
def aroL (n : Nat) (m : List (List Int)) (α : Nat → Int) (k : Nat) : List (List Int) := m ++ (List.range k).map fun j => axL n j (α j)
theorem aroL_len (n : Nat) (m : List (List Int)) (α : Nat → Int) (k : Nat) : (aroL n m α k).length = m.length + k := by simp [aroL]

theorem aroL_put (n : Nat) (m : List (List Int)) (α : Nat → Int) (k : Nat) (a : Int) : aroL n m (fun j => if j = k then a else α j) (k + 1) = aroL n m α k ++ [axL n k a] := by
  unfold aroL
  rw [List.range_succ, List.map_append, ← List.append_assoc]
  congr 1
  · congr 1
    exact List.map_congr_left fun j hj => by
      show axL n j (if j = k then a else α j) = _
      rw [if_neg (by have := List.mem_range.1 hj; omega)]
  · simp

end Go.Proofs.Ytjbcpojngdligaa

/- Which points may be, by the program and by the document; a point with a 1 behind it. -/
namespace Go.Proofs.Ytjbcpojngdligaa
open Go.RowKit
attribute [local go_sem ↓] Go.wp_at_zero Go.wp_at_succ

/-- The first that is not nothing. -/
def firstE {α : Type} (f : α → Int) : List α → Int
  | [] => 0
  | r :: rs => if f r = 0 then firstE f rs else f r

theorem firstE_hit {α : Type} {f : α → Int} {d : α} : ∀ {m : List α} {k : Nat}, k < m.length → (∀ i, i < k → f (m.getD i d) = 0) → f (m.getD k d) ≠ 0 → firstE f m = f (m.getD k d)
  | r :: rs, 0, _, _, h => by
    simp only [List.getD_cons_zero] at h
    simp [firstE, h]
  | r :: rs, k + 1, hk, h0, h => by
    have h1 := h0 0 (by omega)
    simp only [List.getD_cons_zero] at h1
    simp only [List.getD_cons_succ] at h
    simp only [firstE, h1, if_true, List.getD_cons_succ]
    exact firstE_hit (by simpa using hk) (fun i hi => by have := h0 (i + 1) (by omega); simpa using this) h

theorem firstE_all {α : Type} {f : α → Int} {d : α} : ∀ {m : List α}, (∀ i, i < m.length → f (m.getD i d) = 0) → firstE f m = 0
  | [], _ => rfl
  | r :: rs, h => by
    have h1 := h 0 (by simp)
    simp only [List.getD_cons_zero] at h1
    simp only [firstE, h1, if_true]
    exact firstE_all (d := d) fun i hi => by have := h (i + 1) (by simpa using hi); simpa using this

theorem firstE_zero {α : Type} {f : α → Int} : ∀ {m : List α}, firstE f m = 0 → ∀ r ∈ m, f r = 0
  | [], _, _, hr => by simp at hr
  | r :: rs, h, x, hx => by
    simp only [firstE] at h
    by_cases h1 : f r = 0
    · rw [if_pos h1] at h
      rcases List.mem_cons.1 hx with rfl | hx
      · exact h1
      · exact firstE_zero h x hx
    · rw [if_neg h1] at h; exact absurd h h1

/-- What is wrong with one point, of so many numbers. -/
def rowD (d : Nat) (r : List Int) : Int := if r.length < 1 ∨ 3 < r.length ∨ r.length ≠ d then 3 else if r.any (farB · 20) then 4 else 0
def pmE (p : List (List Int)) : Int := if p.length < 1 ∨ 12 < p.length then 2 else firstE (rowD (p.getD 0 []).length) p

/-- Points that may be. -/
structure PmOk (d : Nat) (p : List (List Int)) : Prop where
  n1 : 1 ≤ p.length
  n12 : p.length ≤ 12
  d1 : 1 ≤ d
  d3 : d ≤ 3
  len : ∀ r ∈ p, r.length = d
  bd : ∀ r ∈ p, ∀ z ∈ r, z.natAbs ≤ 20

theorem far_iff {r : List Int} : r.any (farB · 20) = false ↔ ∀ z ∈ r, z.natAbs ≤ 20 := by
  rw [List.any_eq_false]
  constructor
  · intro h z hz
    have := h z hz
    simp [farB] at this
    omega
  · intro h z hz
    have := h z hz
    simp [farB]
    omega

theorem pm_ok {p : List (List Int)} (h : pmE p = 0) : PmOk (p.getD 0 []).length p := by
  unfold pmE at h
  by_cases h0 : p.length < 1 ∨ 12 < p.length
  · rw [if_pos h0] at h; simp at h
  · rw [if_neg h0] at h
    have hz := firstE_zero h
    have hf : ∀ r ∈ p, (1 ≤ r.length ∧ r.length ≤ 3 ∧ r.length = (p.getD 0 []).length) ∧ r.any (farB · 20) = false := by
      intro r hr
      have := hz r hr
      unfold rowD at this
      by_cases h1 : r.length < 1 ∨ 3 < r.length ∨ r.length ≠ (p.getD 0 []).length
      · rw [if_pos h1] at this; simp at this
      · rw [if_neg h1] at this
        refine ⟨by omega, ?_⟩
        cases h2 : r.any (farB · 20)
        · rfl
        · rw [h2] at this; simp at this
    have hm : p.getD 0 [] ∈ p := by simp [show 0 < p.length by omega]
    have h1 := (hf _ hm).1
    exact ⟨by omega, by omega, by omega, by omega, fun r hr => (hf r hr).1.2.2, fun r hr => far_iff.1 (hf r hr).2⟩

theorem pm_of {d : Nat} {p : List (List Int)} (h : PmOk d p) : pmE p = 0 ∧ (p.getD 0 []).length = d := by
  have hm : p.getD 0 [] ∈ p := by simp [show 0 < p.length by have := h.n1; omega]
  have hd := h.len _ hm
  refine ⟨?_, hd⟩
  unfold pmE
  rw [if_neg (by have := h.n1; have := h.n12; omega), hd]
  refine firstE_all (d := []) fun i hi => ?_
  have hi' : p.getD i [] ∈ p := by simp [hi]
  unfold rowD
  rw [if_neg (by have := h.len _ hi'; have := h.d1; have := h.d3; omega), far_iff.2 (h.bd _ hi')]
  rfl

/-- Where the first point is of no size that may be. -/
theorem pm_size {p : List (List Int)} (h : ¬ (p.length < 1 ∨ 12 < p.length)) (hd : (p.getD 0 []).length < 1 ∨ 3 < (p.getD 0 []).length) : pmE p = 3 := by
  unfold pmE
  rw [if_neg h]
  have h0 : rowD (p.getD 0 []).length (p.getD 0 []) = 3 := if_pos (by omega)
  rw [firstE_hit (d := []) (k := 0) (by omega) (fun i hi => by omega) (by rw [h0]; decide), h0]

theorem rowD_of {d : Nat} (h : ¬ (d < 1 ∨ 3 < d)) (r : List Int) : rowD d r = if r.length ≠ d then 3 else if r.any (farB · 20) then 4 else 0 := by
  unfold rowD
  by_cases e : r.length = d
  · have e2 : ¬ (r.length ≠ d) := fun h => h e
    rw [if_neg e2, if_neg (by omega)]
  · rw [if_pos (by omega), if_pos e]

set_option maxRecDepth 100000 in
set_option maxHeartbeats 800000 in
theorem checkC_any (m : List (List Int)) (v : Value) (w : World) (hv : Mat w.heap.size 22 3 w v m) :
    Calls Try.prog 13 #[v] w fun e w' => e = .returned (.int .i64 (pmE m)) ∧ Below w.heap.size w w' := by
  have hv0 := hv
  obtain ⟨ao, cap, hvv, hlc, hcm⟩ := mat_open hv
  subst hvv
  have HV : Hid (Mat w.heap.size 22 3 w (.slice ao m.length cap) m) := hv
  clear hv
  by_cases h1 : m.length < 1
  · have b1 : decide ((m.length : Int) < 1) = true := decide_eq_true (by omega)
    have HE : Hid (pmE m = 2) := if_pos (by omega)
    go_enter Try.func13, Try.ntmps13
    go_wp2
    go_ret
    exact ⟨by rw [HE.out]; rfl, Below.refl _ _⟩
  · have b1 : decide ((m.length : Int) < 1) = false := decide_eq_false (by omega)
    by_cases h2 : 12 < m.length
    · have b2 : decide ((12 : Int) < (m.length : Int)) = true := decide_eq_true (by omega)
      have HE : Hid (pmE m = 2) := if_pos (by omega)
      go_enter Try.func13, Try.ntmps13
      go_wp2
      go_ret
      exact ⟨by rw [HE.out]; rfl, Below.refl _ _⟩
    · have b2 : decide ((12 : Int) < (m.length : Int)) = false := decide_eq_false (by omega)
      have h12 : ¬ (m.length < 1 ∨ 12 < m.length) := by omega
      obtain ⟨vb, voo, vcp, rv0, hvs, _, hvc0, hrv0⟩ := mat_cell hv0 (k := 0) (by omega)
      simp only [Value.slice.injEq] at hvs
      obtain ⟨rfl, _, rfl⟩ := hvs
      simp only [Nat.add_zero] at hvc0
      obtain ⟨uo0, uc0, hue0, _, _⟩ := sl_open hrv0
      subst hue0
      clear hrv0 hv0
      have HE : Hid (pmE m = firstE (rowD (m.getD 0 []).length) m) := if_neg h12
      have HS : Hid ((m.getD 0 []).length < 1 ∨ 3 < (m.getD 0 []).length → pmE m = 3) := pm_size h12
      generalize hdim : (m.getD 0 []).length = dim at *
      by_cases h3 : dim < 1
      · have b3 : decide ((dim : Int) < 1) = true := decide_eq_true (by omega)
        have HE3 : Hid (pmE m = 3) := HS.out (by omega)
        clear hdim
        go_enter Try.func13, Try.ntmps13
        go_wp2
        go_ret
        exact ⟨by rw [HE3.out]; rfl, Below.refl _ _⟩
      · have b3 : decide ((dim : Int) < 1) = false := decide_eq_false (by omega)
        by_cases h4 : 3 < dim
        · have b4 : decide ((3 : Int) < (dim : Int)) = true := decide_eq_true (by omega)
          have HE3 : Hid (pmE m = 3) := HS.out (by omega)
          clear hdim
          go_enter Try.func13, Try.ntmps13
          go_wp2
          go_ret
          exact ⟨by rw [HE3.out]; rfl, Below.refl _ _⟩
        · have b4 : decide ((3 : Int) < (dim : Int)) = false := decide_eq_false (by omega)
          have HD : Hid (∀ r, rowD dim r = if r.length ≠ dim then 3 else if r.any (farB · 20) then 4 else 0) := rowD_of (by omega)
          clear hdim HS h12
          go_enter Try.func13, Try.ntmps13
          go_wp2
          go_loopw [27] (fun i wr => ∃ k : Nat, k ≤ m.length ∧ i = .int .i64 k ∧ Below w.heap.size w wr ∧ ∀ i, i < k → rowD dim (m.getD i []) = 0) (fun i _ => m.length - (intOf i).toNat)
          case atStart => exact ⟨0, Nat.zero_le _, rfl, Below.refl _ _, fun i hi => by omega⟩
          case round =>
            obtain ⟨k, hk, rfl, hb, hz⟩ := hrel
            have HB : Hid (Below w.heap.size w wr) := hb
            have HZ : Hid (∀ i, i < k → rowD dim (m.getD i []) = 0) := hz
            clear hz
            by_cases hlt : k < m.length
            · obtain ⟨vb, voo, vcp, rv, hvs, _, hvcell, hrv⟩ := mat_cell (HV.out.below hb (Nat.le_refl _)) hlt
              simp only [Value.slice.injEq] at hvs
              obtain ⟨hvs1, _, rfl⟩ := hvs
              simp only [Option.some.injEq, Addr.mk.injEq] at hvs1
              obtain ⟨rfl, rfl, _⟩ := hvs1
              have HLC : Hid (Calls Try.prog 18 #[rv, .int .i64 dim, .int .i64 20] wr fun e w' => e = .returned (.int .i64 (rowD dim (m.getD k []))) ∧ Below wr.heap.size wr w') := by
                rw [HD.out]
                exact chkL_any _ dim 20 (m.getD k []) rv wr hrv (by decide) (by decide)
              obtain ⟨uo, uc, hue, _, _⟩ := sl_open hrv
              subst hue
              have HH : Hid (rowD dim (m.getD k []) ≠ 0 → firstE (rowD dim) m = rowD dim (m.getD k [])) := fun h => firstE_hit hlt HZ.out h
              have HN : Hid (rowD dim (m.getD k []) = 0 → ∀ i, i < k + 1 → rowD dim (m.getD i []) = 0) := fun h i hi => by
                by_cases e : i = k
                · rw [e]; exact h
                · exact HZ.out i (by omega)
              clear hrv hb HD
              generalize rowD dim (m.getD k []) = q at *
              generalize (m.getD k []).length = lr at *
              by_cases hq : q = 0
              · subst hq
                have HN2 : Hid (∀ i, i < k + 1 → rowD dim (m.getD i []) = 0) := HN.out rfl
                clear HN HH
                go_wp2_with fail
                refine HLC.out.mono ?_
                rintro e w' ⟨rfl, hb⟩
                have HB2 : Hid (Below w.heap.size w w') := HB.out.trans (hb.mono HB.out.size)
                clear hb
                go_wp2
                go_roundw
                case rel => exact ⟨k + 1, by omega, by go_num, HB2.out, HN2.out⟩
                case measure => simp [intOf]; omega
              · have hq' : (q != 0) = true := by simpa using hq
                have HQ : Hid (q ≠ 0) := hq
                clear hq
                go_wp2_with fail
                refine HLC.out.mono ?_
                rintro e w' ⟨rfl, hb⟩
                have HB2 : Hid (Below w.heap.size w w') := HB.out.trans (hb.mono HB.out.size)
                clear hb
                go_wp2
                go_ret
                exact ⟨by rw [HE.out, HH.out HQ.out]; rfl, HB2.out⟩
            · have HA : Hid (firstE (rowD dim) m = 0) := firstE_all (d := []) fun i hi => HZ.out i (by omega)
              clear hb
              go_wp2
              go_ret
              exact ⟨by rw [HE.out, HA.out]; rfl, HB.out⟩

set_option maxRecDepth 100000 in
set_option maxHeartbeats 400000 in
theorem withOne_any (B : Nat) (l : List Int) (v : Value) (w : World) (hv : Sl B 3 w v (ints l)) (hl : l.length ≤ 1000) :
    Calls Try.prog 15 #[v] w fun e w' => ∃ u, e = .returned u ∧ w'.ownsRow w.heap.size 3 1 u (l.length + 1) (ints (l ++ [1])) ∧ Below w.heap.size w w' := by
  obtain ⟨i3, hi3, hz30, hz31, hz32⟩ := info_parts Try.info3
  have HC : Hid (Calls Try.prog 23 #[v] w fun e w' => ∃ u, e = .returned u ∧ w'.ownsRow w.heap.size 3 1 u l.length (ints l) ∧ Below w.heap.size w w') := clone_any B l v w hv (by omega)
  obtain ⟨ao, cap, hvv, hlc, hcm⟩ := sl_open hv
  subst hvv
  clear hv
  generalize hn : l.length = n at *
  have HLN : Hid (l.length = n) := hn
  clear hn
  go_enter Try.func15, Try.ntmps15
  go_wp2_with fail
  refine HC.out.mono ?_
  rintro e w1 ⟨u, rfl, ho, hb⟩
  have HO : Hid (w1.ownsRow w.heap.size 3 1 u n (ints l)) := ho
  have HB : Hid (Below w.heap.size w w1) := hb
  have hsz : w.heap.size ≤ w1.heap.size := hb.size
  clear ho hb
  go_wp2_with (first | (at_builtin; refine wpList_append_own _ rfl _ _ 22 rfl w.heap.size 3 i3 (.int .i64 0) 1 8 Try.underlying22 hi3 hz30 hz31 hz32 rfl (by decide) _ _ _ rfl (HO.out.alloc _) ⟨w1.heap.size, 0, none⟩ 1 1 [.int .i64 1] rfl rfl (one_new _ _ _) (one_int _) ?d3 ?d4 ?d5 ?_))
  case d3 => unfold maxLen; omega
  case d4 => omega
  case d5 => simp; omega
  intro v3 w3 ho3 hg3 _
  have hp3 := owns_push (z := 1) (N := n + 1) hsz (l := l) (by rw [HLN.out]; exact HO.out) HB.out (by rw [HLN.out]; exact ho3) hg3 (by rw [HLN.out])
  have HP3 : Hid _ := hp3
  clear hp3 ho3 hg3
  go_wp2
  go_ret
  exact ⟨_, rfl, HP3.out.1, HP3.out.2⟩

end Go.Proofs.Ytjbcpojngdligaa
