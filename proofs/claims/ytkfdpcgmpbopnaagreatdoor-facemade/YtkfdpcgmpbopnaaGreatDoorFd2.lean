/- facetref.KindOf: is each side a simplex, does each corner lie on as few sides as may be? -/
import Derived.Test.YtkfdpcgmpbopnaaGreatDoorFd1
namespace Go.Proofs.YtkfdpcgmpbopnaaGreatDoor
open Go.RowKit Lin
attribute [local go_sem ↓] Go.wp_at_zero Go.wp_at_succ

def kdA (d : Nat) (m : List (List Int)) : Bool := m.all fun r => decide (r.length = d)

/-- How many have a number. -/
def kdN (m : List (List Int)) (v : Nat) : Nat := (m.filter fun r => r.contains (v : Int)).length

def kdB (d : Nat) (m : List (List Int)) (n : Nat) : Bool := (List.range n).all fun v => decide (kdN m v = d)

theorem kdA_take {d : Nat} {m : List (List Int)} {k : Nat} (hk : k < m.length) : kdA d (m.take (k + 1)) = (kdA d (m.take k) && decide ((m.getD k []).length = d)) := by
  unfold kdA
  rw [List.take_succ_eq_append_getElem hk, List.all_append]
  simp [hk]

theorem kdN_take {m : List (List Int)} {k : Nat} (hk : k < m.length) (v : Nat) : kdN (m.take (k + 1)) v = kdN (m.take k) v + if (m.getD k []).contains (v : Int) then 1 else 0 := by
  unfold kdN
  have e : m.getD k [] = m[k] := by simp [hk]
  rw [List.take_succ_eq_append_getElem hk, List.filter_append, List.length_append, e]
  simp only [List.filter_cons, List.filter_nil]
  by_cases h : m[k].contains (v : Int) = true
  · rw [if_pos h, if_pos h]; rfl
  · rw [if_neg h, if_neg h]; rfl

theorem kdN_le (m : List (List Int)) (k v : Nat) : kdN (m.take k) v ≤ m.length := by
  unfold kdN
  exact Nat.le_trans (List.length_filter_le _ _) (by rw [List.length_take]; omega)

theorem kdB_succ (d : Nat) (m : List (List Int)) (n : Nat) : kdB d m (n + 1) = (kdB d m n && decide (kdN m n = d)) := by
  unfold kdB
  rw [List.range_succ, List.all_append]
  simp

set_option maxRecDepth 100000 in
set_option maxHeartbeats 1600000 in
theorem kindOfR_any (d : Nat) (x : Value) (LV : Nat → List (List Int)) (w : World) (h : LvV w x (d + 2) LV) (hd1 : 1 ≤ d) (hd : d ≤ 100) (hl : (LV d).length ≤ 5000) (hn : (LV 1).length ≤ 5000) (hb : ∀ r ∈ LV d, r.length ≤ 5000) :
    Calls Tryz.prog 11 #[x] w fun e w' => e = .returned (.tuple #[.bool (kdA d (LV d)), .bool (kdB d (LV d) (LV 1).length)]) ∧ Below w.heap.size w w' := by
  obtain ⟨ao, cap, rfl, h1⟩ := h.rows
  obtain ⟨b, o, ro, rc, rfl, hcd, hmd⟩ := h1 w d (Below.refl _ _) (by omega)
  have HC1 : Hid (∀ X, Below w.heap.size w X → ∃ r1 c1, X.cell? ⟨b, o + 1, none⟩ = some (.slice r1 (LV 1).length c1)) := fun X hX => by
    obtain ⟨b2, o2, r1, c1, e1, e2, _⟩ := h1 X 1 hX (by omega)
    simp only [Option.some.injEq, Addr.mk.injEq, and_true] at e1
    obtain ⟨rfl, rfl⟩ := e1
    exact ⟨r1, c1, e2⟩
  obtain ⟨m, hm⟩ : ∃ m, m = LV d := ⟨_, rfl⟩
  obtain ⟨n, hnn⟩ : ∃ n, n = (LV 1).length := ⟨_, rfl⟩
  rw [← hm] at hmd hcd hl hb ⊢
  rw [← hnn] at HC1 hn ⊢
  have HMT : Hid (∀ X k, Below w.heap.size w X → k < m.length → ∃ mb mo yo yc, ro = some ⟨mb, mo, none⟩ ∧ X.cell? ⟨mb, mo + k, none⟩ = some (.slice yo (m.getD k []).length yc) ∧ Sl X.heap.size 3 X (.slice yo (m.getD k []).length yc) (ints (m.getD k []))) := fun X k hX hk => by
    obtain ⟨mb, mo, mc, y, hs, _, hc, hy⟩ := mat_cell ((hmd.below hX (Nat.le_refl _)).any (Nat.le_refl _)) hk
    simp only [Value.slice.injEq] at hs
    obtain ⟨yo, yc, rfl, _, _⟩ := sl_open hy
    exact ⟨mb, mo, yo, yc, hs.1, hc, hy⟩
  have HIN : Hid (∀ X k yo yc (v : Nat), k < m.length → Sl X.heap.size 3 X (.slice yo (m.getD k []).length yc) (ints (m.getD k [])) → Calls Tryz.prog 27 #[.int .i64 (v : Int), .slice yo (m.getD k []).length yc] X fun e w' => e = .returned (.bool ((m.getD k []).contains (v : Int))) ∧ Below X.heap.size X w') := fun X k yo yc v hk hs => by
    refine (inR_any X.heap.size (v : Int) (m.getD k []) _ X hs).mono ?_
    rintro e w' ⟨rfl, q, rfl⟩
    exact ⟨rfl, below_drewN (Below.refl _ _) q⟩
  have HA1 : Hid (∀ k, k < m.length → kdA d (m.take (k + 1)) = (kdA d (m.take k) && decide ((m.getD k []).length = d))) := fun k hk => kdA_take hk
  have HN1 : Hid (∀ k (v : Nat), k < m.length → kdN (m.take (k + 1)) v = kdN (m.take k) v + if (m.getD k []).contains (v : Int) then 1 else 0) := fun k v hk => kdN_take hk v
  have HNL : Hid (∀ k v, kdN (m.take k) v ≤ m.length) := fun k v => kdN_le m k v
  have HAF : Hid (kdA d (m.take m.length) = kdA d m) := by show _ = _; rw [List.take_length]
  have HNF : Hid (∀ v, kdN (m.take m.length) v = kdN m v) := fun v => by rw [List.take_length]
  have HBS : Hid (∀ v, kdB d m (v + 1) = (kdB d m v && decide (kdN m v = d))) := fun v => kdB_succ d m v
  have hbd : ∀ k, k < m.length → (m.getD k []).length ≤ 5000 := fun k hk => hb _ (by simp [hk])
  have HBD : Hid (∀ k, k < m.length → (m.getD k []).length ≤ 5000) := hbd
  clear h h1 hmd hb hm hnn hbd
  go_enter Tryz.func11, Tryz.ntmps11
  go_wp2
  go_loopw [6, 8] (fun a i wr => ∃ k : Nat, k ≤ m.length ∧ i = .int .i64 (k : Int) ∧ a = .bool (kdA d (m.take k)) ∧ wr = w) (fun _ i _ => m.length - (intOf i).toNat)
  case atStart => exact ⟨0, Nat.zero_le _, rfl, rfl, rfl⟩
  case round =>
    obtain ⟨k, hk, rfl, rfl, rfl⟩ := hrel
    by_cases hlt : k < m.length
    · obtain ⟨mb, mo, yo, yc, hro, hc, -⟩ := HMT.out wr k (Below.refl _ _) hlt
      have hkI : (k : Int) < (m.length : Int) := by omega
      have HA := HA1.out k hlt
      have hyb := HBD.out k hlt
      clear HMT HIN HC1
      subst hro
      generalize (m.getD k []).length = yl at *
      have HAH : Hid (kdA d (m.take (k + 1)) = (kdA d (m.take k) && decide (yl = d))) := HA
      clear HA
      generalize kdA d (m.take k) = q at *
      cases q
      · go_wp2
        go_roundw
        case rel => exact ⟨k + 1, by omega, by go_num, by rw [HAH.out]; simp, trivial⟩
        case measure => simp [intOf]; omega
      · go_wp2
        go_roundw
        case rel => exact ⟨k + 1, by omega, by go_num, by rw [HAH.out, Bool.true_and]; congr 1; rw [Bool.eq_iff_iff]; simp; omega, trivial⟩
        case measure => simp [intOf]; omega
    · have hke : k = m.length := by omega
      subst hke
      rw [HAF.out]
      clear HA1 HAF
      obtain ⟨qa, hqa⟩ : ∃ q, q = kdA d m := ⟨_, rfl⟩
      rw [← hqa]
      have HQA : Hid (qa = kdA d m) := hqa
      clear hqa
      go_wp2
      go_loopw [7, 9, 10, 11] (fun bv vv _ _ wq => ∃ v : Nat, v ≤ n ∧ vv = .int .i64 (v : Int) ∧ bv = .bool (kdB d m v) ∧ Below wr.heap.size wr wq) (fun _ vv _ _ _ => n - (intOf vv).toNat)
      case atStart => exact ⟨0, Nat.zero_le _, rfl, rfl, Below.refl _ _⟩
      case round =>
        obtain ⟨v, hv, rfl, rfl, hbel⟩ := hrel
        rename World => wq
        have HB : Hid (Below wr.heap.size wr wq) := hbel
        clear hbel
        obtain ⟨r1, c1, hc1⟩ := HC1.out wq HB.out
        by_cases hvn : v < n
        · have hvI : (v : Int) < (n : Int) := by omega
          have HBV := HBS.out v
          go_wp2
          clear hc1
          go_loopw [10, 11] (fun nv iv w3 => ∃ k : Nat, k ≤ m.length ∧ iv = .int .i64 (k : Int) ∧ nv = .int .i64 (kdN (m.take k) v : Nat) ∧ Below wr.heap.size wr w3) (fun _ iv _ => m.length - (intOf iv).toNat)
          case atStart => exact ⟨0, Nat.zero_le _, rfl, rfl, HB.out⟩
          case round =>
            obtain ⟨k, hk, rfl, rfl, hbel⟩ := hrel
            rename World => w3
            have HB3 : Hid (Below wr.heap.size wr w3) := hbel
            clear hbel
            by_cases hlt : k < m.length
            · obtain ⟨mb, mo, yo, yc, hro, hc, hy⟩ := HMT.out w3 k HB3.out hlt
              have HI := HIN.out w3 k yo yc v hlt hy
              have HN := HN1.out k v hlt
              have hnl := HNL.out k v
              have hkI : (k : Int) < (m.length : Int) := by omega
              have HNH : Hid (kdN (m.take (k + 1)) v = kdN (m.take k) v + if (m.getD k []).contains (v : Int) then 1 else 0) := HN
              clear HN hy HMT HIN HN1 HC1 HBV HBS
              subst hro
              generalize (m.getD k []).length = yl at *
              generalize (m.getD k []).contains (v : Int) = q at *
              generalize kdN (m.take k) v = kn at *
              cases q
              · go_wp2_with fail
                refine HI.mono ?_
                rintro e w4 ⟨rfl, hb4⟩
                have HB4 : Hid (Below wr.heap.size wr w4) := HB3.out.trans (hb4.mono HB3.out.size)
                clear hb4 HI hc
                go_wp2
                go_roundw
                case rel => exact ⟨k + 1, by omega, by go_num, by rw [HNH.out]; simp, HB4.out⟩
                case measure => simp [intOf]; omega
              · go_wp2_with fail
                refine HI.mono ?_
                rintro e w4 ⟨rfl, hb4⟩
                have HB4 : Hid (Below wr.heap.size wr w4) := HB3.out.trans (hb4.mono HB3.out.size)
                clear hb4 HI hc
                go_wp2
                go_roundw
                case rel => exact ⟨k + 1, by omega, by go_num, by rw [HNH.out]; simp, HB4.out⟩
                case measure => simp [intOf]; omega
            · have hke : k = m.length := by omega
              subst hke
              have HVH : Hid (kdB d m (v + 1) = (kdB d m v && decide (kdN (m.take m.length) v = d))) := by rw [HNF.out]; exact HBV
              have hnl := HNL.out m.length v
              clear HBV HMT HIN HN1 HC1 HBS HNF HNL
              generalize kdN (m.take m.length) v = kn at *
              generalize kdB d m v = qb at *
              cases qb
              · go_wp2
                exact ⟨⟨v + 1, by omega, by go_num, by rw [HVH.out]; simp, HB3.out⟩, by simp [intOf]; omega⟩
              · go_wp2
                exact ⟨⟨v + 1, by omega, by go_num, by rw [HVH.out, Bool.true_and]; congr 1; rw [Bool.eq_iff_iff]; simp; omega, HB3.out⟩, by simp [intOf]; omega⟩
        · have hve : v = n := by omega
          subst hve
          clear HBS HMT HIN HN1 HC1 HNF HNL
          obtain ⟨qb, hqb⟩ : ∃ q, q = kdB d m v := ⟨_, rfl⟩
          rw [← hqb]
          have HQB : Hid (qb = kdB d m v) := hqb
          clear hqb
          go_wp2
          refine bodyPost_ret (v := .tuple #[.bool qa, .bool qb]) (by simp [results, Tryz.results11, go_sem]) rfl ?_
          exact ⟨by rw [HQA.out, HQB.out], HB.out⟩

end Go.Proofs.YtkfdpcgmpbopnaaGreatDoor
