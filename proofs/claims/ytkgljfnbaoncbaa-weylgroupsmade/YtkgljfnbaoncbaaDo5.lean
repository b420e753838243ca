/- The document's Short: how many roots a word takes below 0. -/
import Derived.Test.YtkgljfnbaoncbaaDo4
import Derived.Test.YtkgljfnbaoncbaaWd1
namespace Go.Proofs.Ytkgljfnbaoncbaa
open Go.RowKit
attribute [local go_sem ↓] Go.wp_at_zero Go.wp_at_succ

/-- A good square, its roots by rows and by columns. -/
structure Wg (n : Nat) (c R d : List (List Int)) (t : Nat → Int) : Prop where
  g : Gda n c R
  u : Du c R d (abL c) t

theorem sum_sm (b : List Int) : ∀ k, k ≤ b.length → (b.take k).sum = sm k fun j => b.getD j 0
  | 0, _ => by simp [sm]
  | k + 1, hk => by
    rw [sumL_snoc b k (by omega), sum_sm b k (by omega)]; rfl

theorem getD_out {b : List Int} {k : Nat} (h : b.length ≤ k) : b.getD k 0 = 0 := by
  rw [List.getD_eq_getElem?_getD, List.getElem?_eq_none h]; rfl

theorem Wg.pos {n : Nat} {c R d : List (List Int)} {t : Nat → Int} (h : Wg n c R d t) : ∀ b ∈ abL c, (∀ k, 0 ≤ b.getD k 0) ∧ 1 ≤ b.sum := fun b hb => by
  have hl := h.u.rd.len b hb
  refine ⟨fun k => ?_, ?_⟩
  · by_cases hk : k < d.length
    · exact h.u.rd.nn b hb k hk
    · rw [getD_out (by omega)]; exact Int.le_refl _
  · have h1 := h.u.rd.pos b hb
    rw [← hl, ← sum_sm b b.length (Nat.le_refl _), List.take_length] at h1
    omega

theorem Wg.tn {n : Nat} {c R d : List (List Int)} {t : Nat → Int} (h : Wg n c R d t) (b : List Int) {j : Nat} (hj : j < n) : tnL c b j = ctn d j b := by
  have hcl := h.g.g.sq.len
  have hdl := h.u.len
  refine list_ext (n := c.length) (tnL_len _ _ _) (by rw [ctn_len, hdl]) fun k hk => ?_
  unfold tnL
  rw [getD_range hk, ctn_at _ (by omega)]
  unfold tnF
  by_cases e : k = j
  · subst e
    rw [if_pos rfl, if_pos rfl, hdl]
    congr 1
    refine sm_congr _ fun i hi => ?_
    rw [h.u.sym k i hk hi, Int.mul_comm]
  · rw [if_neg e, if_neg e]

theorem Wg.bd {n : Nat} {c R d : List (List Int)} {t : Nat → Int} (h : Wg n c R d t) {x : List Int} (hx : PM (abL c) x) : x.length = n ∧ ∀ k, -1000 ≤ x.getD k 0 ∧ x.getD k 0 ≤ 1000 := by
  rcases hx with hx | hx
  · exact h.g.g.bd x hx
  · obtain ⟨h1, h2⟩ := h.g.g.bd _ hx
    refine ⟨by simpa [ngL] using h1, fun k => ?_⟩
    have := h2 k
    rw [ngL_get] at this
    omega

theorem tb_snoc (d : List (List Int)) (l : List Nat) (r : Nat) (b : List Int) : tb d (l ++ [r]) b = ctn d r (tb d l b) := by rw [tb_app]; rfl

theorem rev_snoc {wd : List Nat} {m : Nat} (hm : m < wd.length) : wd.reverse.take (m + 1) = wd.reverse.take m ++ [wd.getD (wd.length - 1 - m) 0] := by
  rw [List.take_succ_eq_append_getElem (by simpa using hm)]
  congr 2
  rw [List.getElem_reverse]
  simp [show wd.length - 1 - m < wd.length by omega]

theorem Wg.pm {n : Nat} {c R d : List (List Int)} {t : Nat → Int} (h : Wg n c R d t) {wd : List Nat} (hw : Lt c wd) {b : List Int} (hb : b ∈ abL c) (m : Nat) : PM (abL c) (tb d (wd.reverse.take m) b) :=
  pm_tb h.u.rd _ (fun z hz => by rw [h.u.len]; exact hw z (by have := List.mem_of_mem_take hz; simpa using this)) (.inl hb)

theorem Wg.over {n : Nat} {c R d : List (List Int)} {t : Nat → Int} (h : Wg n c R d t) (x : List Int) (j : Nat) (cv bv : Value) (w : World) (hm : Mat w.heap.size 26 3 w cv c) (hbv : Sl 0 3 w bv (ints x)) (hx : PM (abL c) x) (hj : j < n) :
    Calls Try.prog 30 #[cv, bv, .int .i64 j] w fun e w' => ∃ u, e = .returned u ∧ w'.ownsRow w.heap.size 3 1 u n (ints (ctn d j x)) ∧ Below w.heap.size w w' := by
  have := overD_any n c x j cv bv w h.g.g.sq h.g.g.n1 hm (hbv.more (Nat.zero_le _)) (h.bd hx).1 (h.bd hx).2 hj
  rw [h.tn x hj] at this
  exact this

/-- Has it a number below 0? -/
def ngB (x : List Int) : Bool := x.any fun z => decide (z < 0)

theorem anyN_snoc {x : List Int} {k : Nat} (h : k < x.length) (h0 : ngB (x.take k) = false) : ngB (x.take (k + 1)) = decide (x.getD k 0 < 0) := by
  have e : x.getD k 0 = x[k] := by simp [h]
  unfold ngB at *
  rw [List.take_succ_eq_append_getElem h, List.any_append, h0, e]; simp

theorem anyN_get {x : List Int} {k : Nat} (h : k < x.length) (hz : x.getD k 0 < 0) : ngB x = true := by
  unfold ngB
  rw [List.any_eq_true]
  exact ⟨x.getD k 0, by simp [h], by simpa using hz⟩

set_option maxRecDepth 100000 in
set_option maxHeartbeats 3200000 in
theorem short_any (n : Nat) (c R d : List (List Int)) (t : Nat → Int) (wd : List Nat) (cv wv : Value) (w : World) (h : Wg n c R d t) (hw : Lt c wd) (hwl : wd.length ≤ 1000) (hm : Mat w.heap.size 26 3 w cv c) (hwv : Sl w.heap.size 3 w wv (ints (natsI wd))) :
    Calls Try.prog 15 #[cv, wv] w fun e w' => e = .returned (.int .i64 (nB c.length R (tak c wd (ones c.length)) : Nat)) ∧ Below w.heap.size w w' := by
  have hcl := h.g.g.sq.len
  have hn4 := h.g.g.sq.n4
  have HR := rootsOf_any n c cv w h.g.g h.pos h.u.rd.nod hm
  have HOV : Hid (∀ x j bv W, Below w.heap.size w W → Sl 0 3 W bv (ints x) → PM (abL c) x → j < n → Calls Try.prog 30 #[cv, bv, .int .i64 (j : Nat)] W fun e w' => ∃ u, e = .returned u ∧ w'.ownsRow W.heap.size 3 1 u n (ints (ctn d j x)) ∧ Below W.heap.size W w') := fun x j bv W h1 h2 h3 h4 => h.over x j cv bv W ((hm.below h1 (Nat.le_refl _)).any (Nat.le_refl _)) h2 h3 h4
  have HSH : Hid (∀ L : List (List Int), L.Perm (abL c) → L.countP (fun b => ngB (tb d wd.reverse b)) = nB c.length R (tak c wd (ones c.length))) := fun L hL => sh_nB h.u hL hw
  have HPM : Hid (∀ b ∈ abL c, ∀ m, PM (abL c) (tb d (wd.reverse.take m) b)) := fun b hb m => h.pm hw hb m
  have HBD : Hid (∀ x, PM (abL c) x → x.length = n) := fun x hx => (h.bd hx).1
  have HMN : Hid ((abL c).length ≤ 24) := h.g.g.many
  have HLT : Hid (∀ k, k < wd.length → wd.getD k 0 < n) := fun k hk => by rw [← hcl]; exact hw _ (by simp [hk])
  obtain ⟨ao, cap, hvv, _, _⟩ := mat_open hm
  subst hvv
  obtain ⟨wo, wc, hwvv, _, _⟩ := sl_open hwv
  subst hwvv
  have HWV : Hid (Sl w.heap.size 3 w (.slice wo (natsI wd).length wc) (ints (natsI wd))) := hwv
  rw [natsI_len] at HWV ⊢
  clear h hw hm hwv
  rw [hcl] at HR HOV ⊢
  rw [hcl] at HSH
  generalize nB n R (tak c wd (ones n)) = N at *
  go_enter Try.func15, Try.ntmps15
  go_wp2_with fail
  refine HR.mono ?_
  rintro e w1 ⟨u, rfl, L, hf, hpm, hb1⟩
  obtain ⟨uo, uc, huv⟩ : ∃ uo uc, u = .slice uo L.length uc := by
    obtain ⟨vs, g1, g2, g3⟩ := hf
    exact owns_form g2
  subst huv
  have HML : Hid (Mat 0 26 3 w1 (.slice uo L.length uc) L) := by
    obtain ⟨vs, g1, g2, g3⟩ := hf
    exact ⟨vs, g1, Sl.own g2, g3⟩
  have hll : L.length ≤ 24 := by rw [hpm.length_eq]; exact HMN.out
  have HLM : Hid (∀ q, q < L.length → L.getD q [] ∈ abL c) := fun q hq => hpm.mem_iff.1 (by simp [hq])
  have HSE : Hid (L.countP (fun b => ngB (tb d wd.reverse b)) = N) := HSH.out L hpm
  have HB1 : Hid (Below w.heap.size w w1) := hb1
  clear hf hpm hb1 HR HSH
  go_wp2
  go_loopw [6, 7, 8, 9, 10] (fun nv iv _ _ _ wr => ∃ i : Nat, i ≤ L.length ∧ iv = .int .i64 i ∧ nv = .int .i64 ((L.take i).countP (fun b => ngB (tb d wd.reverse b)) : Nat) ∧ Below w1.heap.size w1 wr) (fun _ iv _ _ _ _ => L.length - (intOf iv).toNat)
  case atStart => exact ⟨0, Nat.zero_le _, rfl, rfl, Below.refl _ _⟩
  case round =>
    obtain ⟨i, hi, rfl, rfl, hbr⟩ := hrel
    have HBR : Hid (Below w1.heap.size w1 wr) := hbr
    clear hbr
    by_cases hlt : i < L.length
    · obtain ⟨b1, o1, cp1, r1, hs1, _, hc1, hr1⟩ := mat_cell (HML.out.below HBR.out (Nat.le_refl _)) hlt
      simp only [Value.slice.injEq, true_and] at hs1
      obtain ⟨rfl, rfl⟩ := hs1
      have HR1 : Hid (Sl 0 3 wr r1 (ints (L.getD i []))) := hr1
      have HPB : Hid (∀ m, PM (abL c) (tb d (wd.reverse.take m) (L.getD i []))) := HPM.out _ (HLM.out i hlt)
      have HCS : Hid ((L.take (i + 1)).countP (fun b => ngB (tb d wd.reverse b)) = (L.take i).countP (fun b => ngB (tb d wd.reverse b)) + if ngB (tb d wd.reverse (L.getD i [])) = true then 1 else 0) := by
        show _ = _
        have e : L.getD i [] = L[i] := by simp [hlt]
        rw [List.take_succ_eq_append_getElem hlt, List.countP_append, e]
        simp [List.countP_cons]
      have hcb : (L.take i).countP (fun b => ngB (tb d wd.reverse b)) ≤ i := by
        have := List.countP_le_length (p := fun b => ngB (tb d wd.reverse b)) (l := L.take i)
        rw [List.length_take] at this
        omega
      generalize (L.take i).countP (fun b => ngB (tb d wd.reverse b)) = C1 at *
      generalize L.getD i [] = b0 at *
      clear hr1
      obtain ⟨ro, rc, hrv, _, _⟩ := sl_open HR1.out
      subst hrv
      go_wp2
      go_loopw [8, 9] (fun bv kv wq => ∃ m : Nat, m ≤ wd.length ∧ kv = .int .i64 ((wd.length : Int) - 1 - m) ∧ Sl 0 3 wq bv (ints (tb d (wd.reverse.take m) b0)) ∧ Below w1.heap.size w1 wq) (fun _ kv _ => ((intOf kv) + 1).toNat)
      case atStart => exact ⟨0, Nat.zero_le _, by simp, HR1.out, HBR.out⟩
      case round =>
        obtain ⟨m, hm, rfl, hsb, hbq⟩ := hrel
        have HBQ : Hid (Below w1.heap.size w1 wr) := hbq
        have hszq : w1.heap.size ≤ wr.heap.size := hbq.size
        have HBW : Hid (Below w.heap.size w wr) := HB1.out.trans (hbq.mono HB1.out.size)
        have HPX : Hid (PM (abL c) (tb d (wd.reverse.take m) b0)) := HPB.out m
        have hxl := HBD.out _ HPX.out
        obtain ⟨bo, bc, hbv, _, _⟩ := sl_open hsb
        subst hbv
        rw [hxl] at hsb ⊢
        have HSB : Hid (Sl 0 3 wr (.slice bo n bc) (ints (tb d (wd.reverse.take m) b0))) := hsb
        clear hsb hbq
        by_cases hlm : m < wd.length
        · obtain ⟨pl, hpl⟩ : ∃ pl, pl = wd.length - 1 - m := ⟨_, rfl⟩
          have hpw : pl < wd.length := by omega
          have hkI : (wd.length : Int) - 1 - (m : Int) = (pl : Int) := by omega
          have HTK : Hid (tb d (wd.reverse.take (m + 1)) b0 = ctn d (wd.getD pl 0) (tb d (wd.reverse.take m) b0)) := by
            show _ = _
            rw [rev_snoc hlm, tb_snoc, hpl]
          have HKN : Hid ((pl : Int) - 1 = (wd.length : Int) - 1 - ((m + 1 : Nat) : Int)) := by
            show _ = _
            omega
          obtain ⟨b3, o3, cp3, hs3, _, hc3⟩ := sl_cell (HWV.out.below HBW.out (Nat.le_refl _)) (k := pl) (by rw [natsI_len]; exact hpw)
          rw [natsI_len] at hs3
          simp only [Value.slice.injEq, true_and] at hs3
          obtain ⟨rfl, rfl⟩ := hs3
          rw [natsI_at hpw] at hc3
          have hjn := HLT.out pl hpw
          have HOC := HOV.out (tb d (wd.reverse.take m) b0) (wd.getD pl 0) (.slice bo n bc) wr HBW.out HSB.out HPX.out hjn
          rw [hkI]
          clear hpl hkI hxl
          generalize wd.getD pl 0 = j at *
          generalize tb d (wd.reverse.take m) b0 = x at *
          go_wp2_with fail
          refine HOC.mono ?_
          rintro e w3 ⟨u3, rfl, ho3, hb3⟩
          have HS3 : Hid (Sl 0 3 w3 u3 (ints (tb d (wd.reverse.take (m + 1)) b0))) := by rw [HTK.out]; exact Sl.own ho3
          have HB3 : Hid (Below w1.heap.size w1 w3) := HBQ.out.trans (hb3.mono hszq)
          obtain ⟨vo, vc, hv3⟩ := owns_form ho3
          subst hv3
          clear ho3 hb3 HOC
          go_wp2
          go_roundw
          case rel => exact ⟨m + 1, by omega, by rw [← HKN.out], HS3.out, HB3.out⟩
          case measure => simp [intOf] <;> omega
        · have hme : m = wd.length := by omega
          have hkI : (wd.length : Int) - 1 - (m : Int) = -1 := by omega
          have hte : wd.reverse.take m = wd.reverse := List.take_of_length_le (by simp; omega)
          rw [hte] at HSB hxl
          rw [hkI]
          clear hkI hte hme hlm HPX
          generalize tb d wd.reverse b0 = x at *
          have HXL : Hid (x.length = n) := hxl
          clear hxl
          go_wp2
          go_loopw [6, 10] (fun nv kv wq => ∃ k : Nat, k ≤ n ∧ kv = .int .i64 k ∧ nv = .int .i64 (C1 : Nat) ∧ ngB (x.take k) = false ∧ Below w1.heap.size w1 wq ∧ Sl 0 3 wq (.slice bo n bc) (ints x)) (fun _ kv _ => n - (intOf kv).toNat)
          case atStart => exact ⟨0, Nat.zero_le _, rfl, rfl, rfl, HBQ.out, HSB.out⟩
          case round =>
            obtain ⟨k, hk, rfl, rfl, hng, hb4, hs4⟩ := hrel
            have HNG : Hid (ngB (x.take k) = false) := hng
            have HB4 : Hid (Below w1.heap.size w1 wr) := hb4
            have HS4 : Hid (Sl 0 3 wr (.slice bo n bc) (ints x)) := hs4
            clear hng hb4 hs4
            by_cases hlk : k < n
            · obtain ⟨b3, o3, cp3, hs3, _, hc3⟩ := sl_cell HS4.out (k := k) (by rw [HXL.out]; exact hlk)
              rw [HXL.out] at hs3
              simp only [Value.slice.injEq, true_and] at hs3
              obtain ⟨rfl, rfl⟩ := hs3
              have HN1 : Hid (ngB (x.take (k + 1)) = decide (x.getD k 0 < 0)) := anyN_snoc (by rw [HXL.out]; exact hlk) HNG.out
              have HN2 : Hid (x.getD k 0 < 0 → ngB x = true) := fun hz => anyN_get (by rw [HXL.out]; exact hlk) hz
              generalize x.getD k 0 = z at *
              by_cases hz : z < 0
              · have HC2 : Hid ((L.take (i + 1)).countP (fun b => ngB (tb d wd.reverse b)) = C1 + 1) := by
                  show _ = _
                  rw [HCS.out, if_pos (HN2.out hz)]
                go_wp2
                go_roundw
                case rel => exact ⟨i + 1, by omega, by go_num, by rw [HC2.out]; go_num, HB4.out⟩
                case measure => simp [intOf]; omega
              · have HZ : Hid (decide (z < 0) = false) := decide_eq_false hz
                go_wp2
                go_roundw
                case rel => exact ⟨k + 1, by omega, by go_num, rfl, by rw [HN1.out, HZ.out], HB4.out, HS4.out⟩
                case measure => simp [intOf]; omega
            · have hxe : x.take k = x := List.take_of_length_le (by rw [HXL.out]; omega)
              have HC2 : Hid ((L.take (i + 1)).countP (fun b => ngB (tb d wd.reverse b)) = C1) := by
                show _ = _
                rw [hxe] at HNG
                rw [HCS.out, HNG.out]
                simp
              clear hxe
              go_wp2
              go_roundw
              case rel => exact ⟨i + 1, by omega, by go_num, by rw [HC2.out], HB4.out⟩
              case measure => simp [intOf]; omega
    · have hke : L.take i = L := List.take_of_length_le (by omega)
      rw [hke, HSE.out]
      have HBE : Hid (Below w.heap.size w wr) := HB1.out.trans (HBR.out.mono HB1.out.size)
      go_wp2
      go_ret
      exact ⟨rfl, HBE.out⟩

end Go.Proofs.Ytkgljfnbaoncbaa
