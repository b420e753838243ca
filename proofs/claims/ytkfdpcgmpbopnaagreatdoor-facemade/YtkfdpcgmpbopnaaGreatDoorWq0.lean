/- Places in the plane, seen from 0: the leftmost and the rightmost (pure). -/
import Derived.Test.YtkfdpcgmpbopnaaGreatDoorLt8
namespace Go.Proofs.YtkfdpcgmpbopnaaGreatDoor
open Lin

/-- Above 0: s lies to the left of the line from 0 to t. -/
def trn (s t : Int × Int) : Int := t.1 * s.2 - t.2 * s.1
def dt2 (s t : Int × Int) : Int := t.1 * s.1 + t.2 * s.2
def mxF (m : Int × Int) (l : List (Int × Int)) : Int × Int := l.foldl (fun m s => if 0 < trn s m then s else m) m
def mnF (m : Int × Int) (l : List (Int × Int)) : Int × Int := l.foldl (fun m s => if trn s m < 0 then s else m) m

theorem trn_self (s : Int × Int) : trn s s = 0 := by unfold trn; grind
theorem trn_neg (s t : Int × Int) : trn t s = - trn s t := by unfold trn; grind
theorem trn_op (s t : Int × Int) : trn s (-t.1, -t.2) = - trn s t := by unfold trn; grind

/-- By their parts along e and across it. -/
theorem trn_parts (s t e : Int × Int) : dt2 e e * trn s t = dt2 s e * (- trn t e) - dt2 t e * (- trn s e) := by unfold trn dt2; grind

/-- What lies to the right of e, or on its own ray. -/
def RtE (e s : Int × Int) : Prop := trn s e ≤ 0 ∧ (trn s e = 0 → 0 < dt2 s e)

theorem dt2_pos {e : Int × Int} (h : e ≠ (0, 0)) : 0 < dt2 e e := by
  unfold dt2
  obtain ⟨a, b⟩ := e
  have h1 : a ≠ 0 ∨ b ≠ 0 := by
    rcases Int.decEq a 0 with ha | ha
    · exact .inl ha
    · right
      intro hb
      exact h (by rw [ha, hb])
  have sq : ∀ z : Int, 0 ≤ z * z ∧ (z ≠ 0 → 0 < z * z) := fun z => by
    constructor
    · rcases Int.lt_or_le z 0 with h | h
      · have := Int.mul_pos_of_neg_of_neg h h; omega
      · exact Int.mul_nonneg h h
    · intro hz
      rcases Int.lt_or_gt_of_ne hz with h | h
      · exact Int.mul_pos_of_neg_of_neg h h
      · exact Int.mul_pos h h
  show 0 < a * a + b * b
  have ha := sq a
  have hb := sq b
  rcases h1 with h1 | h1
  · have := ha.2 h1; omega
  · have := hb.2 h1; omega

/-- Among what lies to the right of e: no more to the left goes on. -/
theorem rt_trans {e a b c : Int × Int} (he : 0 < dt2 e e) (ha : RtE e a) (hb : RtE e b) (hc : RtE e c) (h1 : trn a b ≤ 0) (h2 : 0 < trn c b) : trn a c ≤ 0 := by
  have p1 := trn_parts a b e
  have p2 := trn_parts c b e
  have p3 := trn_parts a c e
  obtain ⟨a1, a2⟩ := ha
  obtain ⟨b1, b2⟩ := hb
  obtain ⟨c1, c2⟩ := hc
  have q1 : dt2 e e * trn a b ≤ 0 := Int.mul_nonpos_of_nonneg_of_nonpos (by omega) h1
  have q2 : 0 < dt2 e e * trn c b := Int.mul_pos he h2
  obtain ⟨pa, hpa⟩ : ∃ pa, pa = - trn a e := ⟨_, rfl⟩
  obtain ⟨pb, hpb⟩ : ∃ pb, pb = - trn b e := ⟨_, rfl⟩
  obtain ⟨pc, hpc⟩ : ∃ pc, pc = - trn c e := ⟨_, rfl⟩
  rw [← hpa, ← hpb] at p1
  rw [← hpc, ← hpb] at p2
  rw [← hpa, ← hpc] at p3
  generalize dt2 a e = qa at *
  generalize dt2 b e = qb at *
  generalize dt2 c e = qc at *
  rw [p1] at q1
  rw [p2] at q2
  have hpa0 : 0 ≤ pa := by omega
  have hpb0 : 0 ≤ pb := by omega
  have hpc0 : 0 ≤ pc := by omega
  have hpbp : 0 < pb := by
    rcases Int.lt_or_le 0 pb with h | h
    · exact h
    · exfalso
      have hb0 : pb = 0 := by omega
      have := b2 (by omega)
      rw [hb0, Int.mul_zero] at q2
      have := Int.mul_nonneg (Int.le_of_lt this) hpc0
      omega
  have k1 : qa * pb * pc ≤ qb * pa * pc := Int.mul_le_mul_of_nonneg_right (by omega) hpc0
  have k2 : qb * pc * pa ≤ qc * pb * pa := Int.mul_le_mul_of_nonneg_right (by omega) hpa0
  have k3 : pb * (qa * pc) ≤ pb * (qc * pa) := by
    have e1 : pb * (qa * pc) = qa * pb * pc := by grind
    have e2 : pb * (qc * pa) = qc * pb * pa := by grind
    have e3 : qb * pa * pc = qb * pc * pa := by grind
    omega
  have k4 := Int.le_of_mul_le_mul_left k3 hpbp
  have k5 : dt2 e e * trn a c ≤ 0 := by rw [p3]; omega
  rcases Int.lt_or_le 0 (trn a c) with h | h
  · have := Int.mul_pos he h; omega
  · exact h

theorem rt_zero {e a b c : Int × Int} (he : 0 < dt2 e e) (ha : RtE e a) (hb : RtE e b) (hc : RtE e c) (h1 : trn a b = 0) (h2 : trn c b = 0) : trn a c = 0 := by
  have p1 := trn_parts a b e
  have p2 := trn_parts c b e
  have p3 := trn_parts a c e
  obtain ⟨a1, a2⟩ := ha
  obtain ⟨b1, b2⟩ := hb
  obtain ⟨c1, c2⟩ := hc
  rw [h1, Int.mul_zero] at p1
  rw [h2, Int.mul_zero] at p2
  obtain ⟨pa, hpa⟩ : ∃ pa, pa = - trn a e := ⟨_, rfl⟩
  obtain ⟨pb, hpb⟩ : ∃ pb, pb = - trn b e := ⟨_, rfl⟩
  obtain ⟨pc, hpc⟩ : ∃ pc, pc = - trn c e := ⟨_, rfl⟩
  rw [← hpa, ← hpb] at p1
  rw [← hpc, ← hpb] at p2
  rw [← hpa, ← hpc] at p3
  generalize dt2 a e = qa at *
  generalize dt2 b e = qb at *
  generalize dt2 c e = qc at *
  have k : qa * pc - qc * pa = 0 := by
    rcases Int.lt_or_le 0 pb with h | h
    · have : pb * (qa * pc - qc * pa) = 0 := by
        have e1 : pb * (qa * pc - qc * pa) = (qa * pb) * pc - (qc * pb) * pa := by grind
        have e2 : qa * pb = qb * pa := by omega
        have e3 : qc * pb = qb * pc := by omega
        rw [e1, e2, e3]; grind
      rcases Int.mul_eq_zero.1 this with h0 | h0
      · omega
      · exact h0
    · have hb0 : pb = 0 := by omega
      have hq := b2 (by omega)
      rw [hb0, Int.mul_zero] at p1 p2
      have e1 : qb * pa = 0 := by omega
      have e2 : qb * pc = 0 := by omega
      have f1 : pa = 0 := by rcases Int.mul_eq_zero.1 e1 with h | h <;> omega
      have f2 : pc = 0 := by rcases Int.mul_eq_zero.1 e2 with h | h <;> omega
      rw [f1, f2]; simp
  rw [k] at p3
  rcases Int.mul_eq_zero.1 p3 with h | h <;> omega

theorem mxF_mem : ∀ (l : List (Int × Int)) (m : Int × Int), mxF m l = m ∨ mxF m l ∈ l
  | [], m => .inl rfl
  | s :: l, m => by
    show mxF (if 0 < trn s m then s else m) l = m ∨ mxF (if 0 < trn s m then s else m) l ∈ s :: l
    rcases mxF_mem l (if 0 < trn s m then s else m) with h | h
    · rw [h]
      split
      · exact .inr (by simp)
      · exact .inl rfl
    · exact .inr (by simp [h])

/-- The leftmost, if all lie to the right of e. -/
theorem mxF_max {e : Int × Int} (he : 0 < dt2 e e) : ∀ (l : List (Int × Int)) (m : Int × Int), RtE e m → (∀ s ∈ l, RtE e s) → trn m (mxF m l) ≤ 0 ∧ ∀ s ∈ l, trn s (mxF m l) ≤ 0
  | [], m, _, _ => ⟨by show trn m m ≤ 0; rw [trn_self]; omega, fun s hs => by cases hs⟩
  | s :: l, m, hm, hl => by
    have hs := hl s (by simp)
    have hl' : ∀ x ∈ l, RtE e x := fun x hx => hl x (by simp [hx])
    have e1 : mxF m (s :: l) = mxF (if 0 < trn s m then s else m) l := rfl
    rw [e1]
    by_cases h : 0 < trn s m
    · rw [if_pos h]
      obtain ⟨k1, k2⟩ := mxF_max he l s hs hl'
      have hR : RtE e (mxF s l) := by
        rcases mxF_mem l s with h1 | h1
        · rw [h1]; exact hs
        · exact hl' _ h1
      refine ⟨?_, fun x hx => ?_⟩
      · rcases Int.lt_or_le 0 (trn (mxF s l) s) with h3 | h3
        · exact rt_trans he hm hs hR (by have := trn_neg s m; omega) h3
        · have e2 := trn_neg s (mxF s l)
          have h4 : trn (mxF s l) s = 0 := by omega
          -- both on one ray
          refine Classical.byContradiction fun hn => ?_
          have h5 : 0 < trn m (mxF s l) := by omega
          have h6 := rt_trans he hs hR hm (by omega) h5
          have := trn_neg s m
          omega
      · rcases List.mem_cons.1 hx with rfl | hx
        · exact k1
        · exact k2 x hx
    · rw [if_neg h]
      obtain ⟨k1, k2⟩ := mxF_max he l m hm hl'
      have hR : RtE e (mxF m l) := by
        rcases mxF_mem l m with h1 | h1
        · rw [h1]; exact hm
        · exact hl' _ h1
      refine ⟨k1, fun x hx => ?_⟩
      rcases List.mem_cons.1 hx with rfl | hx
      · rcases Int.lt_or_le 0 (trn (mxF m l) m) with h3 | h3
        · exact rt_trans he hs hm hR (by omega) h3
        · have e2 := trn_neg m (mxF m l)
          have h4 : trn (mxF m l) m = 0 := by omega
          refine Classical.byContradiction fun hn => ?_
          have h5 : 0 < trn x (mxF m l) := by omega
          have h6 := rt_trans he hm hR hs (by omega) h5
          have h7 := trn_neg x m
          have h8 := rt_zero he hs hm hR (by omega) h4
          omega
      · exact k2 x hx

/-- Turned over in the first number, left is right. -/
def flp (s : Int × Int) : Int × Int := (-s.1, s.2)
theorem trn_flp (s t : Int × Int) : trn (flp s) (flp t) = - trn s t := by unfold trn flp; grind
theorem flp_flp (s : Int × Int) : flp (flp s) = s := by unfold flp; simp

theorem mn_mx : ∀ (l : List (Int × Int)) (m : Int × Int), flp (mnF m l) = mxF (flp m) (l.map flp)
  | [], m => rfl
  | s :: l, m => by
    show flp (mnF (if trn s m < 0 then s else m) l) = mxF (if 0 < trn (flp s) (flp m) then flp s else flp m) (l.map flp)
    rw [mn_mx l]
    congr 1
    rw [trn_flp]
    by_cases h : trn s m < 0
    · rw [if_pos h, if_pos (by omega)]
    · rw [if_neg h, if_neg (by omega)]

theorem mnF_mem (l : List (Int × Int)) (m : Int × Int) : mnF m l = m ∨ mnF m l ∈ l := by
  have h := mn_mx l m
  rcases mxF_mem (l.map flp) (flp m) with h1 | h1
  · left
    rw [h1] at h
    have := congrArg flp h
    rw [flp_flp, flp_flp] at this
    exact this
  · right
    rw [← h] at h1
    obtain ⟨s, hs, he⟩ := List.mem_map.1 h1
    have := congrArg flp he
    rw [flp_flp, flp_flp] at this
    rw [← this]; exact hs

end Go.Proofs.YtkfdpcgmpbopnaaGreatDoor
