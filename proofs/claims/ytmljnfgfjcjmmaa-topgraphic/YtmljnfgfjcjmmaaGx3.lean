/- facetref.Coloured. -/
import Derived.Test.YtmljnfgfjcjmmaaGy0
namespace Go.Proofs.Ytmljnfgfjcjmmaa
open Go.RowKit
attribute [local go_sem ↓] Go.wp_at_zero Go.wp_at_succ

def stE (l : List Nat) (k c : Nat) (e : Nat × Nat) : Bool := !((e.1 == k && e.2 == k) || (e.1 == k && decide (e.2 < k) && l.getD e.2 0 == c) || (e.2 == k && decide (e.1 < k) && l.getD e.1 0 == c))
def stT (es : List (Nat × Nat)) (l : List Nat) (k c i : Nat) : Bool := (es.take i).all (stE l k c)

theorem stT_succ {es : List (Nat × Nat)} {l : List Nat} {k c i : Nat} (hi : i < es.length) : stT es l k c (i + 1) = (stT es l k c i && stE l k c (es.getD i (0, 0))) := by
  unfold stT
  rw [List.take_succ_eq_append_getElem hi, List.all_append]
  simp [hi]

theorem stT_all (es : List (Nat × Nat)) (l : List Nat) (k c : Nat) : stT es l k c es.length = stp es l k c := by
  unfold stT stp
  rw [List.take_length]
  rfl

/-- The count, as far as colour c. -/
def colP (q : Nat) (es : List (Nat × Nat)) (r : Nat) (h : List Nat) (c : Nat) : Nat := ((List.range c).map fun c => if stp es h h.length c then colN q es r (h ++ [c]) else 0).sum

theorem colP_succ (q : Nat) (es : List (Nat × Nat)) (r : Nat) (h : List Nat) (c : Nat) : colP q es r h (c + 1) = colP q es r h c + if stp es h h.length c then colN q es r (h ++ [c]) else 0 := by
  unfold colP
  rw [List.range_succ, List.map_append, List.sum_append]
  simp

theorem colN_le {q : Nat} (es : List (Nat × Nat)) : ∀ (r : Nat) (h : List Nat), colN q es r h ≤ q ^ r ∧ ∀ c, colP q es r h c ≤ c * q ^ r
  | r, h => by
    have h1 : ∀ (r : Nat), (∀ h, colN q es r h ≤ q ^ r) → ∀ h c, colP q es r h c ≤ c * q ^ r := fun r hr h c => by
      induction c with
      | zero => simp [colP]
      | succ c ih =>
        rw [colP_succ, Nat.succ_mul]
        have := hr (h ++ [c])
        split <;> omega
    have h2 : ∀ (r : Nat) (h : List Nat), colN q es r h ≤ q ^ r := fun r => by
      induction r with
      | zero => intro h; simp [colN]
      | succ r ih =>
        intro h
        have := h1 r ih h q
        rw [Nat.pow_succ, Nat.mul_comm]
        exact this
    exact ⟨h2 r h, h1 r (h2 r) h⟩

def nI (h : List Nat) : List Int := h.map fun (c : Nat) => (c : Int)

theorem nI_get {h : List Nat} {i : Nat} (hi : i < h.length) : (nI h).getD i 0 = ((h.getD i 0 : Nat) : Int) := by simp [nI, hi]

set_option maxRecDepth 100000 in
set_option maxHeartbeats 8000000 in
theorem coloured_any (n q B : Nat) (es : List (Nat × Nat)) (ev : Value) (hn : n ≤ 4) (hq : q ≤ 4) (hE : es.length ≤ 6) (hne : ∀ e ∈ es, e.1 ≠ e.2) :
    ∀ (r : Nat) (h : List Nat) (v : Value) (w : World), h.length + r = n → B ≤ w.heap.size → Eds B w ev es → Sl 0 3 w v (ints (nI h)) →
    Calls Try.prog 12 #[.int .i64 n, ev, .int .i64 q, v] w fun e w' => e = .returned (.int .i64 (colN q es r h : Nat)) ∧ Below w.heap.size w w' := by
  intro r
  induction r with
  | zero =>
    intro h v w hr hB hev hv
    obtain ⟨po, pc, rfl, _⟩ := hev
    obtain ⟨vo, vc, hvv, _, _⟩ := sl_open hv
    have hl : (nI h).length = n := by simp [nI]; omega
    rw [hl] at hvv
    subst hvv
    have hnn : ((n : Int) == (n : Int)) = true := by simp
    have HC : Hid (colN q es 0 h = 1) := rfl
    generalize colN q es 0 h = cn at *
    clear hv hl hr
    go_enter Try.func12, Try.ntmps12
    go_wp2
    go_ret
    exact ⟨by rw [HC.out]; rfl, Below.refl _ _⟩
  | succ r ih =>
    intro h v w hr hB hev hv
    obtain ⟨i3, hi3, hz30, hz31, hz32⟩ := info_parts Try.info3
    obtain ⟨po, pc, hee, hec⟩ := hev
    subst hee
    obtain ⟨vo, vc, hvv, hvc, hvm⟩ := sl_open hv
    have hl : (nI h).length = h.length := by simp [nI]
    rw [hl] at hvv
    subst hvv
    have HE : Hid (Eds B w (.slice po es.length pc) es) := ⟨po, pc, rfl, hec⟩
    have HCE : Hid (∀ i, i < es.length → ∃ b o, po = some ⟨b, o, none⟩ ∧ ∀ X, Below w.heap.size w X → X.cell? ⟨b, o + i * 2, none⟩ = some (.int .i64 (es.getD i (0, 0)).1) ∧ X.cell? ⟨b, o + i * 2 + 1, none⟩ = some (.int .i64 (es.getD i (0, 0)).2)) := fun i hi => by
      obtain ⟨b, o, e, l, c1, c2⟩ := hec i hi
      exact ⟨b, o, e, fun X hX => ⟨(hX.cell (lt_of_cell c1)).trans c1, (hX.cell (lt_of_cell c2)).trans c2⟩⟩
    have HNE : Hid (∀ i, i < es.length → (es.getD i (0, 0)).1 ≠ (es.getD i (0, 0)).2) := fun i hi => hne _ (by rw [List.getD_eq_getElem?_getD, List.getElem?_eq_getElem hi]; exact List.getElem_mem _)
    have HVC : Hid (∀ i, i < h.length → ∃ b o, vo = some ⟨b, o, none⟩ ∧ ∀ X, Below w.heap.size w X → X.cell? ⟨b, o + i, none⟩ = some (.int .i64 (h.getD i 0 : Nat))) := fun i hi => by
      obtain ⟨b, o, c, e, _, hc⟩ := sl_cell (by rw [← hl] at hv; exact hv) (k := i) (by rw [hl]; exact hi)
      simp only [Value.slice.injEq] at e
      rw [nI_get hi] at hc
      exact ⟨b, o, e.1, fun X hX => (hX.cell (lt_of_cell hc)).trans hc⟩
    have HCP : Hid (∀ X, Below w.heap.size w X → Calls Try.prog 19 #[.slice vo h.length vc] X fun e w' => ∃ uo uc, e = .returned (.slice uo h.length uc) ∧ w'.ownsRow X.heap.size 3 1 (.slice uo h.length uc) h.length (ints (nI h)) ∧ Below X.heap.size X w') := fun X hX => by
      refine (copy_any 0 (nI h) _ X (hv.below hX (Nat.le_refl _)) (by rw [hl]; omega)).mono ?_
      rintro e w' ⟨u, rfl, ho, hb⟩
      rw [hl] at ho
      obtain ⟨uo, uc, rfl⟩ := owns_form ho
      exact ⟨uo, uc, rfl, ho, hb⟩
    have HRC : Hid (∀ (c : Nat) uo uc X, Below w.heap.size w X → Sl 0 3 X (.slice uo (h.length + 1) uc) (ints (nI h) ++ [.int .i64 (c : Int)]) → Calls Try.prog 12 #[.int .i64 n, .slice po es.length pc, .int .i64 q, .slice uo (h.length + 1) uc] X fun e w' => e = .returned (.int .i64 (colN q es r (h ++ [c]) : Nat)) ∧ Below X.heap.size X w') := fun c uo uc X hX hs => by
      refine ih (h ++ [c]) _ X (by simp; omega) (Nat.le_trans hB hX.size) (HE.out.below hX hB) ?_
      have e : ints (nI (h ++ [c])) = ints (nI h) ++ [.int .i64 (c : Int)] := by simp [ints, nI]
      rw [e]
      exact hs
    have HPS : Hid (∀ c, colP q es r h (c + 1) = colP q es r h c + if stp es h h.length c then colN q es r (h ++ [c]) else 0) := colP_succ q es r h
    have HBD : Hid (∀ c, c ≤ q → colP q es r h c ≤ 1024 ∧ colN q es r (h ++ [c]) ≤ 256) := fun c hc => by
      have h1 := (colN_le (q := q) es r h).2 c
      have h2 := (colN_le (q := q) es r (h ++ [c])).1
      have h3 : q ^ r ≤ 4 ^ r := Nat.pow_le_pow_left hq r
      have h4 : 4 ^ r ≤ 4 ^ 4 := Nat.pow_le_pow_right (by decide) (by omega)
      have h5 : c * q ^ r ≤ 4 * 256 := Nat.mul_le_mul (by omega) (by omega)
      exact ⟨by omega, by omega⟩
    have HTS : Hid (∀ c i, i < es.length → stT es h h.length c (i + 1) = (stT es h h.length c i && stE h h.length c (es.getD i (0, 0)))) := fun c i hi => stT_succ hi
    have HTA : Hid (∀ c, stT es h h.length c es.length = stp es h h.length c) := fun c => stT_all es h h.length c
    have HT0 : Hid (∀ c, stT es h h.length c 0 = true) := fun c => rfl
    have HP0 : Hid (colP q es r h 0 = 0) := rfl
    have HPN : Hid (colN q es (r + 1) h = colP q es r h q) := rfl
    have hkn : h.length < n := by omega
    have hnk : ((h.length : Int) == (n : Int)) = false := by rw [beq_eq_false_iff_ne]; omega
    generalize colN q es (r + 1) h = CN at *
    obtain ⟨k, hk⟩ : ∃ k, k = h.length := ⟨_, rfl⟩
    rw [← hk] at HVC HCP HRC HPS HTS HTA HT0 hkn hnk ⊢
    have HK : Hid (k = h.length) := hk
    clear hv hec hl hr hk ih hne hvc hvm
    go_enter Try.func12, Try.ntmps12
    go_wp2
    go_loopw [10, 11, 12, 13, 14, 15] (fun s c _ _ _ _ wr => ∃ j : Nat, j ≤ q ∧ c = .int .i64 j ∧ s = .int .i64 (colP q es r h j : Nat) ∧ Below w.heap.size w wr) (fun _ c _ _ _ _ _ => q - (intOf c).toNat)
    case atStart => exact ⟨0, Nat.zero_le _, rfl, by rw [HP0.out]; rfl, Below.refl _ _⟩
    case round =>
      obtain ⟨j, hj, rfl, rfl, hbel⟩ := hrel
      obtain ⟨wa, rfl⟩ : ∃ wa, wa = wr := ⟨_, rfl⟩
      have HB2 : Hid (Below w.heap.size w wa) := hbel
      have hsza : w.heap.size ≤ wa.heap.size := hbel.size
      clear hbel
      have hps := HPS.out j
      obtain ⟨hb1, hb2⟩ := HBD.out j hj
      by_cases hlt : j < q
      · have hjI : (j : Int) < (q : Int) := by omega
        have HP1 : Hid (colP q es r h (j + 1) = colP q es r h j + if stp es h k j then colN q es r (h ++ [j]) else 0) := hps
        have HTA1 : Hid (stT es h k j es.length = stp es h k j) := HTA.out j
        have HTS1 : Hid (∀ i, i < es.length → stT es h k j (i + 1) = (stT es h k j i && stE h k j (es.getD i (0, 0)))) := HTS.out j
        have HRC1 := HRC.out j
        clear hps
        generalize colP q es r h j = S at *
        generalize colN q es r (h ++ [j]) = N at *
        go_wp2
        go_loopw [12, 13, 14, 15] (fun ok i _ _ wq => ∃ i' : Nat, i' ≤ es.length ∧ i = .int .i64 i' ∧ ok = .bool (stT es h k j i') ∧ wq = wa) (fun _ i _ _ _ => es.length - (intOf i).toNat)
        case atStart => exact ⟨0, Nat.zero_le _, rfl, by rw [HT0.out], rfl⟩
        case round =>
          obtain ⟨i, hi, rfl, rfl, hwq⟩ := hrel
          obtain rfl := hwq.symm
          by_cases hil : i < es.length
          · obtain ⟨b, o, hpo, hcc⟩ := HCE.out i hil
            subst hpo
            obtain ⟨c1, c2⟩ := hcc _ HB2.out
            have hab := HNE.out i hil
            have hst : stT es h k j (i + 1) = (stT es h k j i && stE h k j (es.getD i (0, 0))) := HTS1.out i hil
            have HSE : Hid (stE h k j (es.getD i (0, 0)) = !(((es.getD i (0, 0)).1 == k && (es.getD i (0, 0)).2 == k) || ((es.getD i (0, 0)).1 == k && decide ((es.getD i (0, 0)).2 < k) && h.getD (es.getD i (0, 0)).2 0 == j) || ((es.getD i (0, 0)).2 == k && decide ((es.getD i (0, 0)).1 < k) && h.getD (es.getD i (0, 0)).1 0 == j))) := rfl
            have HST : Hid (stT es h k j (i + 1) = (stT es h k j i && stE h k j (es.getD i (0, 0)))) := hst
            clear hst hcc
            generalize stE h k j (es.getD i (0, 0)) = se at *
            generalize (es.getD i (0, 0)).1 = a at *
            generalize (es.getD i (0, 0)).2 = e at *
            generalize stT es h k j i = st at *
            have hiI : (i : Int) < (es.length : Int) := by omega
            have hiI0 : (0 : Int) ≤ (i : Int) := by omega
            rcases Nat.lt_trichotomy a k with ha | ha | ha
            · rcases Nat.lt_trichotomy e k with he | he | he
              · have fa : ((a : Int) == (k : Int)) = false := by rw [beq_eq_false_iff_ne]; omega
                have fe : ((e : Int) == (k : Int)) = false := by rw [beq_eq_false_iff_ne]; omega
                have na : (a == k) = false := by rw [beq_eq_false_iff_ne]; omega
                have nn : (e == k) = false := by rw [beq_eq_false_iff_ne]; omega
                have HS2 : Hid (stT es h k j (i + 1) = st) := by
                  show _ = _
                  rw [HST.out, HSE.out, na, nn]
                  simp
                clear HST HSE na nn ha he hab
                go_wp2
                exact ⟨⟨i + 1, by omega, by go_num, by rw [HS2.out], trivial⟩, by simp [intOf]; omega⟩
              · have fa : ((a : Int) == (k : Int)) = false := by rw [beq_eq_false_iff_ne]; omega
                have fe : ((e : Int) == (k : Int)) = true := by rw [he]; simp
                have na : (a == k) = false := by rw [beq_eq_false_iff_ne]; omega
                have nn : (e == k) = true := by rw [he]; simp
                have le : (a : Int) < (k : Int) := by omega
                have le0 : (0 : Int) ≤ (a : Int) := by omega
                have ln : decide (a < k) = true := decide_eq_true (by omega)
                obtain ⟨vb, vf, hvo, hvx⟩ := HVC.out a ha
                subst hvo
                have c3 := hvx _ HB2.out
                by_cases hxj : h.getD a 0 = j
                · have fx : (((h.getD a 0 : Nat) : Int) == (j : Int)) = true := by rw [hxj]; simp
                  have nx : (h.getD a 0 == j) = true := by rw [hxj]; simp
                  have HS2 : Hid (stT es h k j (i + 1) = false) := by
                    show _ = _
                    rw [HST.out, HSE.out, na, nn, ln, nx]
                    simp
                  clear HST HSE na nn ha he hab ln nx hxj hvx
                  generalize h.getD a 0 = x at *
                  go_wp2
                  exact ⟨⟨i + 1, by omega, by go_num, by rw [HS2.out], trivial⟩, by simp [intOf]; omega⟩
                · have fx : (((h.getD a 0 : Nat) : Int) == (j : Int)) = false := by rw [beq_eq_false_iff_ne]; omega
                  have nx : (h.getD a 0 == j) = false := by rw [beq_eq_false_iff_ne]; exact hxj
                  have HS2 : Hid (stT es h k j (i + 1) = st) := by
                    show _ = _
                    rw [HST.out, HSE.out, na, nn, ln, nx]
                    simp
                  clear HST HSE na nn ha he hab ln nx hxj hvx
                  generalize h.getD a 0 = x at *
                  go_wp2
                  exact ⟨⟨i + 1, by omega, by go_num, by rw [HS2.out], trivial⟩, by simp [intOf]; omega⟩
              · have fa : ((a : Int) == (k : Int)) = false := by rw [beq_eq_false_iff_ne]; omega
                have fe : ((e : Int) == (k : Int)) = false := by rw [beq_eq_false_iff_ne]; omega
                have na : (a == k) = false := by rw [beq_eq_false_iff_ne]; omega
                have nn : (e == k) = false := by rw [beq_eq_false_iff_ne]; omega
                have HS2 : Hid (stT es h k j (i + 1) = st) := by
                  show _ = _
                  rw [HST.out, HSE.out, na, nn]
                  simp
                clear HST HSE na nn ha he hab
                go_wp2
                exact ⟨⟨i + 1, by omega, by go_num, by rw [HS2.out], trivial⟩, by simp [intOf]; omega⟩
            · rcases Nat.lt_trichotomy e k with he | he | he
              · have fa : ((a : Int) == (k : Int)) = true := by rw [ha]; simp
                have fe : ((e : Int) == (k : Int)) = false := by rw [beq_eq_false_iff_ne]; omega
                have na : (a == k) = true := by rw [ha]; simp
                have nn : (e == k) = false := by rw [beq_eq_false_iff_ne]; omega
                have le : (e : Int) < (k : Int) := by omega
                have le0 : (0 : Int) ≤ (e : Int) := by omega
                have ln : decide (e < k) = true := decide_eq_true (by omega)
                obtain ⟨vb, vf, hvo, hvx⟩ := HVC.out e he
                subst hvo
                have c3 := hvx _ HB2.out
                by_cases hxj : h.getD e 0 = j
                · have fx : (((h.getD e 0 : Nat) : Int) == (j : Int)) = true := by rw [hxj]; simp
                  have nx : (h.getD e 0 == j) = true := by rw [hxj]; simp
                  have HS2 : Hid (stT es h k j (i + 1) = false) := by
                    show _ = _
                    rw [HST.out, HSE.out, na, nn, ln, nx]
                    simp
                  clear HST HSE na nn ha he hab ln nx hxj hvx
                  generalize h.getD e 0 = x at *
                  go_wp2
                  exact ⟨⟨i + 1, by omega, by go_num, by rw [HS2.out], trivial⟩, by simp [intOf]; omega⟩
                · have fx : (((h.getD e 0 : Nat) : Int) == (j : Int)) = false := by rw [beq_eq_false_iff_ne]; omega
                  have nx : (h.getD e 0 == j) = false := by rw [beq_eq_false_iff_ne]; exact hxj
                  have HS2 : Hid (stT es h k j (i + 1) = st) := by
                    show _ = _
                    rw [HST.out, HSE.out, na, nn, ln, nx]
                    simp
                  clear HST HSE na nn ha he hab ln nx hxj hvx
                  generalize h.getD e 0 = x at *
                  go_wp2
                  exact ⟨⟨i + 1, by omega, by go_num, by rw [HS2.out], trivial⟩, by simp [intOf]; omega⟩
              · exact absurd (ha.trans he.symm) hab
              · have fa : ((a : Int) == (k : Int)) = true := by rw [ha]; simp
                have fe : ((e : Int) == (k : Int)) = false := by rw [beq_eq_false_iff_ne]; omega
                have na : (a == k) = true := by rw [ha]; simp
                have nn : (e == k) = false := by rw [beq_eq_false_iff_ne]; omega
                have le : decide ((e : Int) < (k : Int)) = false := decide_eq_false (by omega)
                have ln : decide (e < k) = false := decide_eq_false (by omega)
                have HS2 : Hid (stT es h k j (i + 1) = st) := by
                  show _ = _
                  rw [HST.out, HSE.out, na, nn]
                  simp [ln]
                clear HST HSE na nn ha he hab
                go_wp2
                exact ⟨⟨i + 1, by omega, by go_num, by rw [HS2.out], trivial⟩, by simp [intOf]; omega⟩
            · rcases Nat.lt_trichotomy e k with he | he | he
              · have fa : ((a : Int) == (k : Int)) = false := by rw [beq_eq_false_iff_ne]; omega
                have fe : ((e : Int) == (k : Int)) = false := by rw [beq_eq_false_iff_ne]; omega
                have na : (a == k) = false := by rw [beq_eq_false_iff_ne]; omega
                have nn : (e == k) = false := by rw [beq_eq_false_iff_ne]; omega
                have HS2 : Hid (stT es h k j (i + 1) = st) := by
                  show _ = _
                  rw [HST.out, HSE.out, na, nn]
                  simp
                clear HST HSE na nn ha he hab
                go_wp2
                exact ⟨⟨i + 1, by omega, by go_num, by rw [HS2.out], trivial⟩, by simp [intOf]; omega⟩
              · have fa : ((a : Int) == (k : Int)) = false := by rw [beq_eq_false_iff_ne]; omega
                have fe : ((e : Int) == (k : Int)) = true := by rw [he]; simp
                have na : (a == k) = false := by rw [beq_eq_false_iff_ne]; omega
                have nn : (e == k) = true := by rw [he]; simp
                have le : decide ((a : Int) < (k : Int)) = false := decide_eq_false (by omega)
                have ln : decide (a < k) = false := decide_eq_false (by omega)
                have HS2 : Hid (stT es h k j (i + 1) = st) := by
                  show _ = _
                  rw [HST.out, HSE.out, na, nn]
                  simp [ln]
                clear HST HSE na nn ha he hab
                go_wp2
                exact ⟨⟨i + 1, by omega, by go_num, by rw [HS2.out], trivial⟩, by simp [intOf]; omega⟩
              · have fa : ((a : Int) == (k : Int)) = false := by rw [beq_eq_false_iff_ne]; omega
                have fe : ((e : Int) == (k : Int)) = false := by rw [beq_eq_false_iff_ne]; omega
                have na : (a == k) = false := by rw [beq_eq_false_iff_ne]; omega
                have nn : (e == k) = false := by rw [beq_eq_false_iff_ne]; omega
                have HS2 : Hid (stT es h k j (i + 1) = st) := by
                  show _ = _
                  rw [HST.out, HSE.out, na, nn]
                  simp
                clear HST HSE na nn ha he hab
                go_wp2
                exact ⟨⟨i + 1, by omega, by go_num, by rw [HS2.out], trivial⟩, by simp [intOf]; omega⟩
          · have hie : i = es.length := by omega
            subst hie
            rw [HTA1.out]
            cases hs : stp es h k j with
            | false =>
              have HP2 : Hid (colP q es r h (j + 1) = S) := by show _ = _; rw [HP1.out, hs]; rfl
              clear HP1 HTA1 HTS1
              go_wp2
              exact ⟨⟨j + 1, by omega, by go_num, by rw [HP2.out], HB2.out⟩, by simp [intOf]; omega⟩
            | true =>
              have HP2 : Hid (colP q es r h (j + 1) = S + N) := by show _ = _; rw [HP1.out, hs]; rfl
              have HCC := HCP.out wa HB2.out
              clear HP1 HTA1 HTS1
              go_wp2_with fail
              refine HCC.mono ?_
              rintro e w1 ⟨uo, uc, rfl, ho1, hb1⟩
              have HO1 : Hid (w1.ownsRow wa.heap.size 3 1 (.slice uo k uc) k (ints (nI h))) := ho1
              have HB1 : Hid (Below w.heap.size w w1) := HB2.out.trans (hb1.mono hsza)
              have hsz1 : wa.heap.size ≤ w1.heap.size := hb1.size
              have hbb1 : Below wa.heap.size wa w1 := hb1
              have HBB : Hid (Below wa.heap.size wa w1) := hbb1
              clear ho1 hb1 hbb1 HCC
              go_wp2_with (first | (at_builtin; refine wpList_append_own _ rfl _ _ 22 rfl wa.heap.size 3 i3 (.int .i64 0) 1 8 Try.underlying22 hi3 hz30 hz31 hz32 rfl (by decide) _ _ _ rfl (HO1.out.alloc _) ⟨w1.heap.size, 0, none⟩ 1 1 [.int .i64 j] rfl rfl (one_new _ _ _) (one_int _) ?d3 ?d4 ?d5 ?_))
              case d3 => unfold maxLen; omega
              case d4 => omega
              case d5 => first | omega | (simp; omega)
              intro x2 w2 ho2 hg2 _
              obtain ⟨xo, xc, hxx⟩ := owns_form ho2
              subst hxx
              have hb2 : Below wa.heap.size wa w2 := (HBB.out.alloc hsz1 _).grown hg2 (by simp; omega) (fun x hx => (HO1.out.lt x hx).1)
              have HBW2 : Hid (Below w.heap.size w w2) := HB2.out.trans (hb2.mono hsza)
              have HRR := HRC1 xo xc w2 HBW2.out (Sl.own ho2)
              clear ho2 hg2 hb2 HO1 HBB HB1
              go_wp2_with fail
              refine HRR.mono ?_
              rintro e w3 ⟨rfl, hb3⟩
              have HB3 : Hid (Below w.heap.size w w3) := HBW2.out.trans (hb3.mono HBW2.out.size)
              clear hb3 HRR
              go_wp2
              exact ⟨⟨j + 1, by omega, by go_num, by rw [HP2.out]; push_cast; rfl, HB3.out⟩, by simp [intOf]; omega⟩
      · have hje : j = q := by omega
        have HPE : Hid (CN = colP q es r h j) := by show _ = _; rw [HPN.out, hje]
        clear hje hps HPS HBD HPN
        go_wp2
        go_ret
        exact ⟨by rw [HPE.out] <;> rfl, HB2.out⟩
end Go.Proofs.Ytmljnfgfjcjmmaa
