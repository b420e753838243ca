import Derived.Test.YtdbfkjnnlomklaaDo4
import Derived.Test.YtdbfkjnnlomklaaWdA
/- The document's Short: how many roots a word takes below 0. -/
namespace Go.Proofs.Ytdbfkjnnlomklaa
open Go.RowKit
attribute [local go_sem ↓] Go.wp_at_zero Go.wp_at_succ

/-- A good square, its roots by rows and by columns. -/
structure Wg (n : Nat) (c R d : List (List Int)) (t : Nat → Int) : Prop where
  g : Gda n c R
  u : Du c R d (abL c) t

theorem sum_sm (b : List Int) : ∀ k, k ≤ b.length → (b.take k).sum = sm k fun j => b.getD j 0
  | 0, _ => by simp [sm]
  | k + 1, hk => by
    rw [sumL_snoc b k (by omega), sum_sm b k (by omega)]; rfl

theorem getD_out {b : List Int} {k : Nat} (h : b.length ≤ k) : b.getD k 0 = 0 := by
  rw [List.getD_eq_getElem?_getD, List.getElem?_eq_none h]; rfl

theorem Wg.pos {n : Nat} {c R d : List (List Int)} {t : Nat → Int} (h : Wg n c R d t) : ∀ b ∈ abL c, (∀ k, 0 ≤ b.getD k 0) ∧ 1 ≤ b.sum := fun b hb => by
  have hl := h.u.rd.len b hb
  refine ⟨fun k => ?_, ?_⟩
  · by_cases hk : k < d.length
    · exact h.u.rd.nn b hb k hk
    · rw [getD_out (by omega)]; exact Int.le_refl _
  · have h1 := h.u.rd.pos b hb
    rw [← hl, ← sum_sm b b.length (Nat.le_refl _), List.take_length] at h1
    omega

theorem Wg.tn {n : Nat} {c R d : List (List Int)} {t : Nat → Int} (h : Wg n c R d t) (b : List Int) {j : Nat} (hj : j < n) : tnL c b j = ctn d j b := by
  have hcl := h.g.g.sq.len
  have hdl := h.u.len
  refine list_ext (n := c.length) (tnL_len _ _ _) (by rw [ctn_len, hdl]) fun k hk => ?_
  unfold tnL
  rw [getD_range hk, ctn_at _ (by omega)]
  unfold tnF
  by_cases e : k = j
  · subst e
    rw [if_pos rfl, if_pos rfl, hdl]
    congr 1
    refine sm_congr _ fun i hi => ?_
    rw [h.u.sym k i hk hi, Int.mul_comm]
  · rw [if_neg e, if_neg e]

theorem Wg.bd {n : Nat} {c R d : List (List Int)} {t : Nat → Int} (h : Wg n c R d t) {x : List Int} (hx : PM (abL c) x) : x.length = n ∧ ∀ k, -1000 ≤ x.getD k 0 ∧ x.getD k 0 ≤ 1000 := by
  rcases hx with hx | hx
  · exact h.g.g.bd x hx
  · obtain ⟨h1, h2⟩ := h.g.g.bd _ hx
    refine ⟨by simpa [ngL] using h1, fun k => ?_⟩
    have := h2 k
    rw [ngL_get] at this
    omega

theorem tb_snoc (d : List (List Int)) (l : List Nat) (r : Nat) (b : List Int) : tb d (l ++ [r]) b = ctn d r (tb d l b) := by rw [tb_app]; rfl

theorem rev_snoc {wd : List Nat} {m : Nat} (hm : m < wd.length) : wd.reverse.take (m + 1) = wd.reverse.take m ++ [wd.getD (wd.length - 1 - m) 0] := by
  rw [List.take_succ_eq_append_getElem (by simpa using hm)]
  congr 2
  rw [List.getElem_reverse]
  simp [show wd.length - 1 - m < wd.length by omega]

theorem Wg.pm {n : Nat} {c R d : List (List Int)} {t : Nat → Int} (h : Wg n c R d t) {wd : List Nat} (hw : Lt c wd) {b : List Int} (hb : b ∈ abL c) (m : Nat) : PM (abL c) (tb d (wd.reverse.take m) b) :=
  pm_tb h.u.rd _ (fun z hz => by rw [h.u.len]; exact hw z (by have := List.mem_of_mem_take hz; simpa using this)) (.inl hb)

theorem Wg.over {n : Nat} {c R d : List (List Int)} {t : Nat → Int} (h : Wg n c R d t) (x : List Int) (j : Nat) (cv bv : Value) (w : World) (hm : Mat w.heap.size 22 3 w cv c) (hbv : Sl 0 3 w bv (ints x)) (hx : PM (abL c) x) (hj : j < n) :
    Calls Try.prog 33 #[cv, bv, .int .i64 j] w fun e w' => ∃ u, e = .returned u ∧ w'.ownsRow w.heap.size 3 1 u n (ints (ctn d j x)) ∧ Below w.heap.size w w' := by
  have := overD_any n c x j cv bv w h.g.g.sq h.g.g.n1 hm (hbv.more (Nat.zero_le _)) (h.bd hx).1 (h.bd hx).2 hj
  rw [h.tn x hj] at this
  exact this

/-- Has it a number below 0? -/
def ngB (x : List Int) : Bool := x.any fun z => decide (z < 0)

theorem anyN_snoc {x : List Int} {k : Nat} (h : k < x.length) (h0 : ngB (x.take k) = false) : ngB (x.take (k + 1)) = decide (x.getD k 0 < 0) := by
  have e : x.getD k 0 = x[k] := by simp [h]
  unfold ngB at *
  rw [List.take_succ_eq_append_getElem h, List.any_append, h0, e]; simp

theorem anyN_get {x : List Int} {k : Nat} (h : k < x.length) (hz : x.getD k 0 < 0) : ngB x = true := by
  unfold ngB
  rw [List.any_eq_true]
  exact ⟨x.getD k 0, by simp [h], by simpa using hz⟩

set_option maxRecDepth 100000 in
set_option maxHeartbeats 3200000 in
theorem short_any (n : Nat) (c R d : List (List Int)) (t : Nat → Int) (wd : List Nat) (cv wv : Value) (w : World) (h : Wg n c R d t) (hw : Lt c wd) (hwl : wd.length ≤ 1000) (hm : Mat w.heap.size 22 3 w cv c) (hwv : Sl w.heap.size 3 w wv (ints (natsI wd))) :
    Calls Try.prog 32 #[cv, wv] w fun e w' => e = .returned (.int .i64 (nB c.length R (tak c wd (ones c.length)) : Nat)) ∧ Below w.heap.size w w' := by
  have hcl := h.g.g.sq.len
  have hn4 := h.g.g.sq.n4
  have HR := rootsOf_any n c cv w h.g.g h.pos h.u.rd.nod hm
  have HOV : Hid (∀ x j bv W, Below w.heap.size w W → Sl 0 3 W bv (ints x) → PM (abL c) x → j < n → Calls Try.prog 33 #[cv, bv, .int .i64 (j : Nat)] W fun e w' => ∃ u, e = .returned u ∧ w'.ownsRow W.heap.size 3 1 u n (ints (ctn d j x)) ∧ Below W.heap.size W w') := fun x j bv W h1 h2 h3 h4 => h.over x j cv bv W ((hm.below h1 (Nat.le_refl _)).any (Nat.le_refl _)) h2 h3 h4
  have HSH : Hid (∀ L : List (List Int), L.Perm (abL c) → L.countP (fun b => ngB (tb d wd.reverse b)) = nB c.length R (tak c wd (ones c.length))) := fun L hL => sh_nB h.u hL hw
  have HPM : Hid (∀ b ∈ abL c, ∀ m, PM (abL c) (tb d (wd.reverse.take m) b)) := fun b hb m => h.pm hw hb m
  have HBD : Hid (∀ x, PM (abL c) x → x.length = n) := fun x hx => (h.bd hx).1
  have HMN : Hid ((abL c).length ≤ 24) := h.g.g.many
  have HLT : Hid (∀ k, k < wd.length → wd.getD k 0 < n) := fun k hk => by rw [← hcl]; exact hw _ (by simp [hk])
  obtain ⟨ao, cap, hvv, _, _⟩ := mat_open hm
  subst hvv
  obtain ⟨wo, wc, hwvv, _, _⟩ := sl_open hwv
  subst hwvv
  have HWV : Hid (Sl w.heap.size 3 w (.slice wo (natsI wd).length wc) (ints (natsI wd))) := hwv
  rw [natsI_len] at HWV ⊢
  clear h hw hm hwv
  rw [hcl] at HR HOV ⊢
  rw [hcl] at HSH
  generalize nB n R (tak c wd (ones n)) = N at *
  go_enter Try.func32, Try.ntmps32
  go_wp2_with fail
  refine HR.mono ?_
  rintro e w1 ⟨u, rfl, L, hf, hpm, hb1⟩
  obtain ⟨uo, uc, huv⟩ : ∃ uo uc, u = .slice uo L.length uc := by
    obtain ⟨vs, g1, g2, g3⟩ := hf
    exact owns_form g2
  subst huv
  have HML : Hid (Mat 0 22 3 w1 (.slice uo L.length uc) L) := by
    obtain ⟨vs, g1, g2, g3⟩ := hf
    exact ⟨vs, g1, Sl.own g2, g3⟩
  have hll : L.length ≤ 24 := by rw [hpm.length_eq]; exact HMN.out
  have HLM : Hid (∀ q, q < L.length → L.getD q [] ∈ abL c) := fun q hq => hpm.mem_iff.1 (by simp [hq])
  have HSE : Hid (L.countP (fun b => ngB (tb d wd.reverse b)) = N) := HSH.out L hpm
  have HB1 : Hid (Below w.heap.size w w1) := hb1
  clear hf hpm hb1 HR HSH
  go_wp2
  go_loopw [6, 7, 8, 9, 10] (fun nv iv _ _ _ wr => ∃ i : Nat, i ≤ L.length ∧ iv = .int .i64 i ∧ nv = .int .i64 ((L.take i).countP (fun b => ngB (tb d wd.reverse b)) : Nat) ∧ Below w1.heap.size w1 wr) (fun _ iv _ _ _ _ => L.length - (intOf iv).toNat)
  case atStart => exact ⟨0, Nat.zero_le _, rfl, rfl, Below.refl _ _⟩
  case round =>
    obtain ⟨i, hi, rfl, rfl, hbr⟩ := hrel
    have HBR : Hid (Below w1.heap.size w1 wr) := hbr
    clear hbr
    by_cases hlt : i < L.length
    · obtain ⟨b1, o1, cp1, r1, hs1, _, hc1, hr1⟩ := mat_cell (HML.out.below HBR.out (Nat.le_refl _)) hlt
      simp only [Value.slice.injEq, true_and] at hs1
      obtain ⟨rfl, rfl⟩ := hs1
      have HR1 : Hid (Sl 0 3 wr r1 (ints (L.getD i []))) := hr1
      have HPB : Hid (∀ m, PM (abL c) (tb d (wd.reverse.take m) (L.getD i []))) := HPM.out _ (HLM.out i hlt)
      have HCS : Hid ((L.take (i + 1)).countP (fun b => ngB (tb d wd.reverse b)) = (L.take i).countP (fun b => ngB (tb d wd.reverse b)) + if ngB (tb d wd.reverse (L.getD i [])) = true then 1 else 0) := by
        show _ = _
        have e : L.getD i [] = L[i] := by simp [hlt]
        rw [List.take_succ_eq_append_getElem hlt, List.countP_append, e]
        simp [List.countP_cons]
      have hcb : (L.take i).countP (fun b => ngB (tb d wd.reverse b)) ≤ i := by
        have := List.countP_le_length (p := fun b => ngB (tb d wd.reverse b)) (l := L.take i)
        rw [List.length_take] at this
        omega
      generalize (L.take i).countP (fun b => ngB (tb d wd.reverse b)) = C1 at *
      generalize L.getD i [] = b0 at *
      clear hr1
      obtain ⟨ro, rc, hrv, _, _⟩ := sl_open HR1.out
      subst hrv
      go_wp2
      go_loopw [8, 9] (fun bv kv wq => ∃ m : Nat, m ≤ wd.length ∧ kv = .int .i64 ((wd.length : Int) - 1 - m) ∧ Sl 0 3 wq bv (ints (tb d (wd.reverse.take m) b0)) ∧ Below w1.heap.size w1 wq) (fun _ kv _ => ((intOf kv) + 1).toNat)
      case atStart => exact ⟨0, Nat.zero_le _, by simp, HR1.out, HBR.out⟩
      case round =>
        obtain ⟨m, hm, rfl, hsb, hbq⟩ := hrel
        have HBQ : Hid (Below w1.heap.size w1 wr) := hbq
        have hszq : w1.heap.size ≤ wr.heap.size := hbq.size
        have HBW : Hid (Below w.heap.size w wr) := HB1.out.trans (hbq.mono HB1.out.size)
        have HPX : Hid (PM (abL c) (tb d (wd.reverse.take m) b0)) := HPB.out m
        have hxl := HBD.out _ HPX.out
        obtain ⟨bo, bc, hbv, _, _⟩ := sl_open hsb
        subst hbv
        rw [hxl] at hsb ⊢
        have HSB : Hid (Sl 0 3 wr (.slice bo n bc) (ints (tb d (wd.reverse.take m) b0))) := hsb
        clear hsb hbq
        by_cases hlm : m < wd.length
        · obtain ⟨pl, hpl⟩ : ∃ pl, pl = wd.length - 1 - m := ⟨_, rfl⟩
          have hpw : pl < wd.length := by omega
          have hkI : (wd.length : Int) - 1 - (m : Int) = (pl : Int) := by omega
          have HTK : Hid (tb d (wd.reverse.take (m + 1)) b0 = ctn d (wd.getD pl 0) (tb d (wd.reverse.take m) b0)) := by
            show _ = _
            rw [rev_snoc hlm, tb_snoc, hpl]
          have HKN : Hid ((pl : Int) - 1 = (wd.length : Int) - 1 - ((m + 1 : Nat) : Int)) := by
            show _ = _
            omega
          obtain ⟨b3, o3, cp3, hs3, _, hc3⟩ := sl_cell (HWV.out.below HBW.out (Nat.le_refl _)) (k := pl) (by rw [natsI_len]; exact hpw)
          rw [natsI_len] at hs3
          simp only [Value.slice.injEq, true_and] at hs3
          obtain ⟨rfl, rfl⟩ := hs3
          rw [natsI_at hpw] at hc3
          have hjn := HLT.out pl hpw
          have HOC := HOV.out (tb d (wd.reverse.take m) b0) (wd.getD pl 0) (.slice bo n bc) wr HBW.out HSB.out HPX.out hjn
          rw [hkI]
          clear hpl hkI hxl
          generalize wd.getD pl 0 = j at *
          generalize tb d (wd.reverse.take m) b0 = x at *
          go_wp2_with fail
          refine HOC.mono ?_
          rintro e w3 ⟨u3, rfl, ho3, hb3⟩
          have HS3 : Hid (Sl 0 3 w3 u3 (ints (tb d (wd.reverse.take (m + 1)) b0))) := by rw [HTK.out]; exact Sl.own ho3
          have HB3 : Hid (Below w1.heap.size w1 w3) := HBQ.out.trans (hb3.mono hszq)
          obtain ⟨vo, vc, hv3⟩ := owns_form ho3
          subst hv3
          clear ho3 hb3 HOC
          go_wp2
          go_roundw
          case rel => exact ⟨m + 1, by omega, by rw [← HKN.out], HS3.out, HB3.out⟩
          case measure => simp [intOf] <;> omega
        · have hme : m = wd.length := by omega
          have hkI : (wd.length : Int) - 1 - (m : Int) = -1 := by omega
          have hte : wd.reverse.take m = wd.reverse := List.take_of_length_le (by simp; omega)
          rw [hte] at HSB hxl
          rw [hkI]
          clear hkI hte hme hlm HPX
          generalize tb d wd.reverse b0 = x at *
          have HXL : Hid (x.length = n) := hxl
          clear hxl
          go_wp2
          go_loopw [6, 10] (fun nv kv wq => ∃ k : Nat, k ≤ n ∧ kv = .int .i64 k ∧ nv = .int .i64 (C1 : Nat) ∧ ngB (x.take k) = false ∧ Below w1.heap.size w1 wq ∧ Sl 0 3 wq (.slice bo n bc) (ints x)) (fun _ kv _ => n - (intOf kv).toNat)
          case atStart => exact ⟨0, Nat.zero_le _, rfl, rfl, rfl, HBQ.out, HSB.out⟩
          case round =>
            obtain ⟨k, hk, rfl, rfl, hng, hb4, hs4⟩ := hrel
            have HNG : Hid (ngB (x.take k) = false) := hng
            have HB4 : Hid (Below w1.heap.size w1 wr) := hb4
            have HS4 : Hid (Sl 0 3 wr (.slice bo n bc) (ints x)) := hs4
            clear hng hb4 hs4
            by_cases hlk : k < n
            · obtain ⟨b3, o3, cp3, hs3, _, hc3⟩ := sl_cell HS4.out (k := k) (by rw [HXL.out]; exact hlk)
              rw [HXL.out] at hs3
              simp only [Value.slice.injEq, true_and] at hs3
              obtain ⟨rfl, rfl⟩ := hs3
              have HN1 : Hid (ngB (x.take (k + 1)) = decide (x.getD k 0 < 0)) := anyN_snoc (by rw [HXL.out]; exact hlk) HNG.out
              have HN2 : Hid (x.getD k 0 < 0 → ngB x = true) := fun hz => anyN_get (by rw [HXL.out]; exact hlk) hz
              generalize x.getD k 0 = z at *
              by_cases hz : z < 0
              · have HC2 : Hid ((L.take (i + 1)).countP (fun b => ngB (tb d wd.reverse b)) = C1 + 1) := by
                  show _ = _
                  rw [HCS.out, if_pos (HN2.out hz)]
                go_wp2
                go_roundw
                case rel => exact ⟨i + 1, by omega, by go_num, by rw [HC2.out]; go_num, HB4.out⟩
                case measure => simp [intOf]; omega
              · have HZ : Hid (decide (z < 0) = false) := decide_eq_false hz
                go_wp2
                go_roundw
                case rel => exact ⟨k + 1, by omega, by go_num, rfl, by rw [HN1.out, HZ.out], HB4.out, HS4.out⟩
                case measure => simp [intOf]; omega
            · have hxe : x.take k = x := List.take_of_length_le (by rw [HXL.out]; omega)
              have HC2 : Hid ((L.take (i + 1)).countP (fun b => ngB (tb d wd.reverse b)) = C1) := by
                show _ = _
                rw [hxe] at HNG
                rw [HCS.out, HNG.out]
                simp
              clear hxe
              go_wp2
              go_roundw
              case rel => exact ⟨i + 1, by omega, by go_num, by rw [HC2.out], HB4.out⟩
              case measure => simp [intOf]; omega
    · have hke : L.take i = L := List.take_of_length_le (by omega)
      rw [hke, HSE.out]
      have HBE : Hid (Below w.heap.size w wr) := HB1.out.trans (HBR.out.mono HB1.out.size)
      go_wp2
      go_ret
      exact ⟨rfl, HBE.out⟩

end Go.Proofs.Ytdbfkjnnlomklaa

/- The document's Done: what a word does to each simple root. -/
namespace Go.Proofs.Ytdbfkjnnlomklaa
open Go.RowKit
attribute [local go_sem ↓] Go.wp_at_zero Go.wp_at_succ

/-- Of the first simple roots. -/
def dnP (d : List (List Int)) (wd : List Nat) (i : Nat) : List Int := ((List.range i).map fun i => tb d wd.reverse (un d.length i)).flatten

theorem dnP_succ (d : List (List Int)) (wd : List Nat) (i : Nat) : dnP d wd (i + 1) = dnP d wd i ++ tb d wd.reverse (un d.length i) := by
  unfold dnP
  rw [List.range_succ, List.map_append, List.flatten_append]
  simp

theorem dnP_len (d : List (List Int)) (wd : List Nat) : ∀ i, (dnP d wd i).length = i * d.length
  | 0 => by simp [dnP]
  | i + 1 => by
    rw [dnP_succ, List.length_append, dnP_len d wd i, tb_len _ (un_len _ _), Nat.succ_mul]

theorem sl_cellsW {B : Nat} {e : TypeId} {w : World} {a : Addr} {n cap : Nat} {xs : List Value} (h : Sl B e w (.slice (some a) n cap) xs) : ∀ j u, xs[j]? = some u → w.cell? (a.add j) = some u := by
  intro j u hj
  have h1 := sl_cells h (.cells #[] 3) j u hj
  have hb : (w.alloc (.cells #[] 3)).cell? (a.add j) = w.cell? (a.add j) := by
    obtain ⟨ao, cap', hs, _, _, hc, _⟩ := h
    have hlt : j < xs.length := (List.getElem?_eq_some_iff.1 hj).1
    obtain ⟨b, o, ho, hcell, _⟩ := hc j hlt
    simp only [Value.slice.injEq] at hs
    rw [← hs.1] at ho
    simp only [Option.some.injEq] at ho
    have hlt2 : (a.add j).block < w.heap.size := by
      rw [ho]
      rw [hj] at hcell
      have := lt_of_cell hcell
      unfold Addr.add
      split <;> simpa using this
    exact ((Below.refl w.heap.size w).alloc (Nat.le_refl _) _).cell hlt2
  rw [hb] at h1
  exact h1

set_option maxRecDepth 100000 in
set_option maxHeartbeats 3200000 in
theorem done_any (n : Nat) (c R d : List (List Int)) (t : Nat → Int) (wd : List Nat) (cv wv : Value) (w : World) (h : Wg n c R d t) (hw : Lt c wd) (hwl : wd.length ≤ 1000) (hm : Mat w.heap.size 22 3 w cv c) (hwv : Sl w.heap.size 3 w wv (ints (natsI wd))) :
    Calls Try.prog 16 #[cv, wv] w fun e w' => ∃ u, e = .returned u ∧ w'.ownsRow w.heap.size 3 1 u (n * n) (ints (dnW d wd)) ∧ Below w.heap.size w w' := by
  obtain ⟨i3, hi3, hz30, hz31, hz32⟩ := info_parts Try.info3
  have hcl := h.g.g.sq.len
  have hdl : d.length = n := by rw [h.u.len, hcl]
  have hn1 := h.g.g.n1
  have hn4 := h.g.g.sq.n4
  have HOV : Hid (∀ x j bv W, Below w.heap.size w W → Sl 0 3 W bv (ints x) → PM (abL c) x → j < n → Calls Try.prog 33 #[cv, bv, .int .i64 (j : Nat)] W fun e w' => ∃ u, e = .returned u ∧ w'.ownsRow W.heap.size 3 1 u n (ints (ctn d j x)) ∧ Below W.heap.size W w') := fun x j bv W h1 h2 h3 h4 => h.over x j cv bv W ((hm.below h1 (Nat.le_refl _)).any (Nat.le_refl _)) h2 h3 h4
  have HPM : Hid (∀ i, i < n → ∀ m, PM (abL c) (tb d (wd.reverse.take m) (un n i))) := fun i hi m => h.pm hw (by have := h.u.rd.sim i (by omega); rwa [hdl] at this) m
  have HBD : Hid (∀ x, PM (abL c) x → x.length = n) := fun x hx => (h.bd hx).1
  have HLT : Hid (∀ k, k < wd.length → wd.getD k 0 < n) := fun k hk => by rw [← hcl]; exact hw _ (by simp [hk])
  have HDS : Hid (∀ i, dnP d wd (i + 1) = dnP d wd i ++ tb d wd.reverse (un n i)) := fun i => by rw [← hdl]; exact dnP_succ d wd i
  have HDL : Hid (∀ i, (dnP d wd i).length = i * n) := fun i => by rw [dnP_len, hdl]
  have HDE : Hid (dnW d wd = dnP d wd n) := by
    show _ = _
    unfold dnW dnP
    rw [hdl]
  obtain ⟨ao, cap, hvv, _, _⟩ := mat_open hm
  subst hvv
  obtain ⟨wo, wc, hwvv, _, _⟩ := sl_open hwv
  subst hwvv
  have HWV : Hid (Sl w.heap.size 3 w (.slice wo (natsI wd).length wc) (ints (natsI wd))) := hwv
  rw [natsI_len] at HWV ⊢
  have hmk : ∀ w : World, (Instr.makeSlice 22 (.int .i64 (n : Int)) (.int .i64 (n : Int))).run Try.prog w = .ok (.slice (some ⟨w.heap.size, 0, none⟩) n n) (w.alloc (.cells (madeCells #[.int .i64 0] n) 3)) := run_make_row' (P := Try.prog) 22 3 (.int .i64 0) 8 Try.underlying22 (by kernel_rfl) rfl .i64 .i64 n (by omega) (by omega)
  clear h hw hm hwv hdl
  rw [hcl] at HOV ⊢
  go_enter Try.func16, Try.ntmps16
  go_wp2
  go_loopw [5, 6, 7, 8] (fun tv iv _ _ wr => ∃ i : Nat, i ≤ n ∧ iv = .int .i64 i ∧ wr.ownsRow w.heap.size 3 1 tv (i * n) (ints (dnP d wd i)) ∧ Below w.heap.size w wr) (fun _ iv _ _ _ => n - (intOf iv).toNat)
  case atStart => exact ⟨0, Nat.zero_le _, rfl, by rw [Nat.zero_mul]; exact World.ownsRow_nil _ _ _ _, Below.refl _ _⟩
  case round =>
    obtain ⟨i, hi, rfl, hot, hbr⟩ := hrel
    obtain ⟨to, tc, htv⟩ := owns_form hot
    subst htv
    have HOT : Hid (wr.ownsRow w.heap.size 3 1 (.slice to (i * n) tc) (i * n) (ints (dnP d wd i))) := hot
    have HBR : Hid (Below w.heap.size w wr) := hbr
    have hsz : w.heap.size ≤ wr.heap.size := hbr.size
    clear hot hbr
    by_cases hlt : i < n
    · have hin : i * n ≤ 16 := by
        have h1 : i * n ≤ 4 * n := Nat.mul_le_mul_right _ (by omega)
        omega
      obtain ⟨W, hW⟩ : ∃ W, W = wr.alloc (.cells (madeCells #[.int .i64 0] n) 3) := ⟨_, rfl⟩
      have hr0 : W.rowIs wr.heap.size 3 n (fun _ => .int .i64 0) := by rw [hW]; exact World.rowIs_made wr (.int .i64 0) n 3
      have x0 := hr0.cell hlt
      have f0 := hr0.frozen i
      obtain ⟨W2, hW2⟩ : ∃ W2, W2 = W.setCell ⟨wr.heap.size, i, none⟩ (.int .i64 1) := ⟨_, rfl⟩
      have HSL : Hid (Sl 0 3 W2 (.slice (some ⟨wr.heap.size, 0, none⟩) n n) (ints (un n i))) := by
        rw [hW2]
        exact row_slT (unit_row hr0) (fun _ _ => rfl) (un_len n i) (Nat.le_refl _) (by omega)
      have hb2 : Below wr.heap.size wr W2 := by
        rw [hW2, hW]
        exact ((Below.refl _ wr).alloc (Nat.le_refl _) _).setCell (by simp) _
      have HBW2 : Hid (Below wr.heap.size wr W2) := hb2
      rw [hW] at x0 f0
      rw [hW] at hW2
      have HW2 : Hid (W2 = wr.alloc (.cells ((madeCells #[.int .i64 0] n).setIfInBounds i (.int .i64 1)) 3)) := by
        rw [hW2]
        show _ = _
        simp [go_sem]
      have iI : (i : Int) < (n : Int) := by omega
      have iI0 : (0 : Int) ≤ (i : Int) := by omega
      have HPB : Hid (∀ m, PM (abL c) (tb d (wd.reverse.take m) (un n i))) := HPM.out i hlt
      have HSI : Hid (dnP d wd (i + 1) = dnP d wd i ++ tb d wd.reverse (un n i)) := HDS.out i
      have HLI : Hid ((dnP d wd i).length = i * n) := HDL.out i
      clear hr0 hb2 hW hW2
      generalize hD1 : dnP d wd i = D1 at *
      have HD1 : Hid (dnP d wd i = D1) := hD1
      clear hD1
      go_wp2
      rw [← HW2.out]
      go_loopw [7, 8] (fun bv kv wq => ∃ m : Nat, m ≤ wd.length ∧ kv = .int .i64 ((wd.length : Int) - 1 - m) ∧ Sl 0 3 wq bv (ints (tb d (wd.reverse.take m) (un n i))) ∧ Below wr.heap.size wr wq) (fun _ kv _ => ((intOf kv) + 1).toNat)
      case atStart => exact ⟨0, Nat.zero_le _, by simp, HSL.out, HBW2.out⟩
      case round =>
        rename World => wa
        obtain ⟨m, hm, rfl, hsb, hbq⟩ := hrel
        have HBQ : Hid (Below wr.heap.size wr wa) := hbq
        have hszq : wr.heap.size ≤ wa.heap.size := hbq.size
        have HBW : Hid (Below w.heap.size w wa) := HBR.out.trans (hbq.mono hsz)
        have HPX : Hid (PM (abL c) (tb d (wd.reverse.take m) (un n i))) := HPB.out m
        have hxl := HBD.out _ HPX.out
        obtain ⟨bo, bc, hbv, _, _⟩ := sl_open hsb
        subst hbv
        rw [hxl] at hsb ⊢
        have HSB : Hid (Sl 0 3 wa (.slice bo n bc) (ints (tb d (wd.reverse.take m) (un n i)))) := hsb
        clear hsb hbq
        by_cases hlm : m < wd.length
        · obtain ⟨pl, hpl⟩ : ∃ pl, pl = wd.length - 1 - m := ⟨_, rfl⟩
          have hpw : pl < wd.length := by omega
          have hkI : (wd.length : Int) - 1 - (m : Int) = (pl : Int) := by omega
          have HTK : Hid (tb d (wd.reverse.take (m + 1)) (un n i) = ctn d (wd.getD pl 0) (tb d (wd.reverse.take m) (un n i))) := by
            show _ = _
            rw [rev_snoc hlm, tb_snoc, hpl]
          have HKN : Hid ((pl : Int) - 1 = (wd.length : Int) - 1 - ((m + 1 : Nat) : Int)) := by
            show _ = _
            omega
          obtain ⟨b3, o3, cp3, hs3, _, hc3⟩ := sl_cell (HWV.out.below HBW.out (Nat.le_refl _)) (k := pl) (by rw [natsI_len]; exact hpw)
          rw [natsI_len] at hs3
          simp only [Value.slice.injEq, true_and] at hs3
          obtain ⟨rfl, rfl⟩ := hs3
          rw [natsI_at hpw] at hc3
          have hjn := HLT.out pl hpw
          have HOC := HOV.out (tb d (wd.reverse.take m) (un n i)) (wd.getD pl 0) (.slice bo n bc) wa HBW.out HSB.out HPX.out hjn
          rw [hkI]
          clear hpl hkI hxl
          generalize wd.getD pl 0 = j at *
          generalize tb d (wd.reverse.take m) (un n i) = x at *
          go_wp2_with fail
          refine HOC.mono ?_
          rintro e w3 ⟨u3, rfl, ho3, hb3⟩
          have HS3 : Hid (Sl 0 3 w3 u3 (ints (tb d (wd.reverse.take (m + 1)) (un n i)))) := by rw [HTK.out]; exact Sl.own ho3
          have HB3 : Hid (Below wr.heap.size wr w3) := HBQ.out.trans (hb3.mono hszq)
          obtain ⟨vo, vc, hv3⟩ := owns_form ho3
          subst hv3
          clear ho3 hb3 HOC
          go_wp2
          go_roundw
          case rel => exact ⟨m + 1, by omega, by rw [← HKN.out], HS3.out, HB3.out⟩
          case measure => simp [intOf] <;> omega
        · have hkI : (wd.length : Int) - 1 - (m : Int) = -1 := by omega
          have hte : wd.reverse.take m = wd.reverse := List.take_of_length_le (by simp; omega)
          rw [hte] at HSB hxl
          rw [hkI]
          clear hkI hte hlm HPX
          have HXS : Hid (dnP d wd (i + 1) = D1 ++ tb d wd.reverse (un n i)) := HSI.out
          generalize tb d wd.reverse (un n i) = x at *
          have HXL : Hid (x.length = n) := hxl
          obtain ⟨b3, o3, cp3, hs3, _, _⟩ := sl_cell HSB.out (k := 0) (by omega)
          rw [hxl] at hs3
          simp only [Value.slice.injEq, true_and] at hs3
          obtain ⟨rfl, rfl⟩ := hs3
          have HOA : Hid (wa.ownsRow w.heap.size 3 1 (.slice to (i * n) tc) (i * n) (ints D1)) := owns_below HOT.out HBQ.out (Nat.le_refl _)
          have hsza : w.heap.size ≤ wa.heap.size := HBW.out.size
          clear hxl
          go_wp2_with (first | (at_builtin; refine wpList_append_own _ rfl _ _ 22 rfl w.heap.size 3 i3 (.int .i64 0) 1 8 Try.underlying22 hi3 hz30 hz31 hz32 rfl (by decide) _ _ _ rfl HOA.out ⟨b3, o3, none⟩ n bc (ints x) rfl ?e1 (sl_cellsW HSB.out) (ints_oneCell' x) ?c3 ?c4 ?c5 ?_))
          case e1 => rw [ints_length, HXL.out]; omega
          case c3 => unfold maxLen; omega
          case c4 => omega
          case c5 => omega
          intro v2 w6 ho hg _
          have S1 : Hid (w6.ownsRow w.heap.size 3 1 v2 ((i + 1) * n) (ints (dnP d wd (i + 1)))) := by
            rw [HXS.out, Nat.succ_mul]
            have e : ints (D1 ++ x) = ints D1 ++ ints x := by unfold ints; rw [List.map_append]
            rw [e]
            exact ho
          have S2 : Hid (Below w.heap.size w w6) := HBW.out.grown hg hsza (fun k hk => (HOA.out.lt k hk).1)
          obtain ⟨vo, vc, hv2⟩ := owns_form ho
          subst hv2
          clear ho hg
          generalize i * n + n = NN at *
          go_wp2
          go_roundw
          case rel => exact ⟨i + 1, by omega, by go_num, S1.out, S2.out⟩
          case measure => simp [intOf]; omega
    · have hie : i = n := by omega
      have HFE : Hid (wr.ownsRow w.heap.size 3 1 (.slice to (n * n) tc) (n * n) (ints (dnW d wd))) := by
        rw [HDE.out]
        have := HOT.out
        rw [hie] at this
        exact this
      rw [hie]
      generalize hNN : n * n = NN at *
      go_wp2
      go_ret
      exact ⟨_, rfl, by rw [hNN]; exact HFE.out, HBR.out⟩

end Go.Proofs.Ytdbfkjnnlomklaa

/- The document's Reduced and EndsOf. -/
namespace Go.Proofs.Ytdbfkjnnlomklaa
open Go.RowKit
attribute [local go_sem ↓] Go.wp_at_zero Go.wp_at_succ

theorem fneg_first {v : List Int} {i : Nat} (hi : i < v.length) (hn : v.getD i 0 < 0) (h : ∀ j, j < i → 0 ≤ v.getD j 0) : fneg v = some i := by
  unfold fneg
  rw [List.findIdx?_eq_some_iff_getElem]
  refine ⟨hi, by simpa [hi] using hn, fun j hj => ?_⟩
  have := h j hj
  have hjl : j < v.length := by omega
  simp only [List.getD_eq_getElem?_getD, List.getElem?_eq_getElem hjl, Option.getD_some] at this
  simp; omega

theorem nB_cons {c R : List (List Int)} (h : Rt c R) {w : List Nat} {i : Nat} (hi : i < c.length) (hw : Lt c w) : nB c.length R (tak c (i :: w) (ones c.length)) < nB c.length R (tak c w (ones c.length)) ↔ (tak c w (ones c.length)).getD i 0 < 0 := by
  have h1 := nB_ov h (tak c w (ones c.length)) hi
  have h2 := tak_no0 h hi hw
  have e : tak c (i :: w) (ones c.length) = ovL c (tak c w (ones c.length)) i := rfl
  rw [e]
  constructor
  · intro hl
    refine Classical.byContradiction fun hn => ?_
    have := h1.1 (by omega)
    omega
  · intro hl
    have := h1.2 hl
    omega

theorem nB_snoc {c R : List (List Int)} (h : Rt c R) {w : List Nat} {i : Nat} (hi : i < c.length) (hw : Lt c w) : nB c.length R (tak c (w ++ [i]) (ones c.length)) < nB c.length R (tak c w (ones c.length)) ↔ (fwd c w (ones c.length)).getD i 0 < 0 := by
  have h1 := ends_ok h hw hi
  rw [fwd_tak]
  have h2 := tak_no0 h hi (lt_rev hw)
  constructor
  · intro hl
    refine Classical.byContradiction fun hn => ?_
    have := h1.1 (by omega)
    omega
  · intro hl
    have := h1.2 hl
    omega

theorem some_neg {c R : List (List Int)} (h : Rt c R) {v : List Int} (h0 : 0 < nB c.length R v) : ∃ k, k < c.length ∧ v.getD k 0 < 0 := by
  refine Classical.byContradiction fun hno => ?_
  have := dom_nB h (v := v) fun k hk => by
    have h1 : ¬ v.getD k 0 < 0 := fun h2 => hno ⟨k, hk, h2⟩
    omega
  omega

theorem natsI_cons (i : Nat) (l : List Nat) : ints (natsI (i :: l)) = [.int .i64 (i : Int)] ++ ints (natsI l) := rfl

theorem natsI_app (l : List Nat) (i : Nat) : ints (natsI (l ++ [i])) = ints (natsI l) ++ [.int .i64 (i : Int)] := by simp [ints, natsI]

set_option maxRecDepth 100000 in
set_option maxHeartbeats 3200000 in
theorem reducedD_any (n : Nat) (c R d : List (List Int)) (t : Nat → Int) (wd : List Nat) (cv wv : Value) (w : World) (h : Wg n c R d t) (hw : Lt c wd) (hwl : wd.length ≤ 900) (hm : Mat w.heap.size 22 3 w cv c) (hwv : Sl w.heap.size 3 w wv (ints (natsI wd))) :
    Calls Try.prog 13 #[cv, wv] w fun e w' => ∃ u, e = .returned u ∧ w'.ownsRow w.heap.size 3 1 u (rdW c wd).length (ints (natsI (rdW c wd))) ∧ Below w.heap.size w w' := by
  obtain ⟨i3, hi3, hz30, hz31, hz32⟩ := info_parts Try.info3
  have hcl := h.g.g.sq.len
  have hn1 := h.g.g.n1
  have hn4 := h.g.g.sq.n4
  have HSH : Hid (∀ x xv W, Below w.heap.size w W → Lt c x → x.length ≤ 1000 → Sl W.heap.size 3 W xv (ints (natsI x)) → Calls Try.prog 32 #[cv, xv] W fun e w' => e = .returned (.int .i64 (nB c.length R (tak c x (ones c.length)) : Nat)) ∧ Below W.heap.size W w') := fun x xv W h1 h2 h3 h4 => short_any n c R d t x cv xv W h h2 h3 ((hm.below h1 (Nat.le_refl _)).any (Nat.le_refl _)) h4
  have H0 : Hid (Calls Try.prog 32 #[cv, wv] w fun e w' => e = .returned (.int .i64 (nB c.length R (tak c wd (ones c.length)) : Nat)) ∧ Below w.heap.size w w') := short_any n c R d t wd cv wv w h hw (by omega) hm hwv
  have HG : Hid (Gda n c R) := h.g
  have HLW : Hid (Lt c wd) := hw
  have HCL : Hid (c.length = n) := hcl
  obtain ⟨ao, cap, hvv, _, _⟩ := mat_open hm
  subst hvv
  obtain ⟨wo, wc, hwvv, _, _⟩ := sl_open hwv
  subst hwvv
  have HWV : Hid (Sl w.heap.size 3 w (.slice wo (natsI wd).length wc) (ints (natsI wd))) := hwv
  rw [natsI_len] at HWV H0 ⊢
  clear h hw hm hwv
  obtain ⟨ln, hln⟩ : ∃ ln : List Nat → Nat, ln = fun x => nB c.length R (tak c x (ones c.length)) := ⟨_, rfl⟩
  have HLE : Hid (∀ x, nB c.length R (tak c x (ones c.length)) = ln x) := fun x => by rw [hln]
  have HLB : Hid (∀ x, ln x ≤ 24) := fun x => by rw [hln]; exact Nat.le_trans List.countP_le_length HG.out.rl
  have HSH2 : Hid (∀ x xv W, Below w.heap.size w W → Lt c x → x.length ≤ 1000 → Sl W.heap.size 3 W xv (ints (natsI x)) → Calls Try.prog 32 #[.slice ao n cap, xv] W fun e w' => e = .returned (.int .i64 (ln x : Nat)) ∧ Below W.heap.size W w') := fun x xv W h1 h2 h3 h4 => by
    have := HSH.out x xv W h1 h2 h3 h4
    rw [HLE.out, HCL.out] at this
    exact this
  rw [HLE.out] at H0
  rw [HCL.out] at H0 ⊢
  have HNC : Hid (∀ x i, Lt c x → i < n → (ln (i :: x) < ln x ↔ (tak c x (ones c.length)).getD i 0 < 0)) := fun x i h1 h2 => by
    rw [← HLE.out, ← HLE.out]
    exact nB_cons HG.out.rt (by rw [HCL.out]; exact h2) h1
  have HSN : Hid (∀ x, 0 < ln x → ∃ k, k < n ∧ (tak c x (ones c.length)).getD k 0 < 0) := fun x h0 => by
    rw [← HLE.out] at h0
    obtain ⟨k, h1, h2⟩ := some_neg HG.out.rt h0
    exact ⟨k, by rw [← HCL.out]; exact h1, h2⟩
  have HTL : Hid (∀ x, (tak c x (ones c.length)).length = n) := fun x => by rw [← HCL.out]; exact tak_len (by simp [ones]) x
  have HNI : Hid (ln [] = 0) := by
    rw [← HLE.out]; exact ones_nB HG.out.rt
  have HRN : Hid (∀ x, Lt c x → ln x = 0 → rdW c x = []) := fun x h1 h2 => rd_nil HG.out h1 (by rw [HLE.out]; exact h2)
  have HLN : Hid (∀ x, nB c.length R (tak c x (ones c.length)) = ln x) := HLE.out
  clear hln HSH HLE
  go_enter Try.func13, Try.ntmps13
  go_wp2_with fail
  refine H0.out.mono ?_
  rintro e w1 ⟨rfl, hb1⟩
  have HB1 : Hid (Below w.heap.size w w1) := hb1
  have HW1 : Hid (Sl w1.heap.size 3 w1 (.slice wo wd.length wc) (ints (natsI wd))) := (HWV.out.below hb1 (Nat.le_refl _)).any (Nat.le_refl _)
  clear hb1 H0
  go_wp2
  go_loopw [1, 5, 6, 7, 8, 9] (fun xv ov nv _ _ _ wr => ∃ cur out : List Nat, Lt c cur ∧ cur.length = wd.length + out.length ∧ out.length + ln cur = ln wd ∧ out ++ rdW c cur = rdW c wd ∧ nv = .int .i64 (ln cur : Nat) ∧ Sl wr.heap.size 3 wr xv (ints (natsI cur)) ∧ wr.ownsRow w.heap.size 3 1 ov out.length (ints (natsI out)) ∧ Below w.heap.size w wr) (fun _ _ nv _ _ _ _ => (intOf nv).toNat)
  case atStart => exact ⟨wd, [], HLW.out, by simp, by simp, by simp, rfl, HW1.out, World.ownsRow_nil _ _ _ _, HB1.out⟩
  case round =>
    obtain ⟨cur, out, hlc, hle, hlo, hrd, rfl, hxs, hos, hbr⟩ := hrel
    have HLC : Hid (Lt c cur) := hlc
    have HRD : Hid (out ++ rdW c cur = rdW c wd) := hrd
    have hlb := HLB.out wd
    have hcb : cur.length ≤ 930 := by omega
    have HLL : Hid (cur.length = wd.length + out.length) := hle
    have HLO : Hid (out.length + ln cur = ln wd) := hlo
    have hob : out.length ≤ 24 := by omega
    clear hle hlo
    obtain ⟨xo, xc, hxv, _, _⟩ := sl_open hxs
    subst hxv
    rw [natsI_len] at hxs ⊢
    have HXS : Hid (Sl wr.heap.size 3 wr (.slice xo cur.length xc) (ints (natsI cur))) := hxs
    obtain ⟨oo, oc, hov⟩ := owns_form hos
    subst hov
    have HOS : Hid (wr.ownsRow w.heap.size 3 1 (.slice oo out.length oc) out.length (ints (natsI out))) := hos
    have HBR : Hid (Below w.heap.size w wr) := hbr
    have hsz : w.heap.size ≤ wr.heap.size := hbr.size
    clear hlc hrd hxs hos hbr
    by_cases h0 : 0 < ln cur
    · have hcu : 0 < cur.length := by
        rcases Nat.eq_zero_or_pos cur.length with e | e
        · have : cur = [] := List.eq_nil_of_length_eq_zero e
          rw [this, HNI.out] at h0
          omega
        · exact e
      obtain ⟨b3, o3, cp3, hs3, _, _⟩ := sl_cell HXS.out (k := 0) (by rw [natsI_len]; exact hcu)
      rw [natsI_len] at hs3
      simp only [Value.slice.injEq, true_and] at hs3
      obtain ⟨rfl, rfl⟩ := hs3
      obtain ⟨kn, hkn1, hkn2⟩ := HSN.out cur h0
      have HKN : Hid ((tak c cur (ones c.length)).getD kn 0 < 0) := hkn2
      clear hkn2
      generalize hC : ln cur = C at *
      have HC : Hid (ln cur = C) := hC
      clear hC
      have h0I : (0 : Int) < (C : Int) := by omega
      go_wp2
      go_loopw [1, 5, 6, 7, 8, 9] (fun xv ov nv iv _ _ wq => ∃ i : Nat, i ≤ n ∧ iv = .int .i64 i ∧ xv = .slice (some ⟨b3, o3, none⟩) cur.length xc ∧ ov = .slice oo out.length oc ∧ nv = .int .i64 (C : Nat) ∧ (∀ j, j < i → 0 ≤ (tak c cur (ones c.length)).getD j 0) ∧ Below wr.heap.size wr wq) (fun _ _ _ iv _ _ _ => n - (intOf iv).toNat)
      case atStart => exact ⟨0, Nat.zero_le _, rfl, rfl, rfl, rfl, fun j hj => absurd hj (by omega), Below.refl _ _⟩
      case round =>
        rename World => wa
        obtain ⟨i, hi, rfl, rfl, rfl, rfl, hno, hba⟩ := hrel
        have HNO : Hid (∀ j, j < i → 0 ≤ (tak c cur (ones c.length)).getD j 0) := hno
        have HBA : Hid (Below wr.heap.size wr wa) := hba
        have hsza : wr.heap.size ≤ wa.heap.size := hba.size
        have HBWA : Hid (Below w.heap.size w wa) := HBR.out.trans (hba.mono hsz)
        clear hno hba
        by_cases hlt : i < n
        · have HXA : Hid (Sl wa.heap.size 3 wa (.slice (some ⟨b3, o3, none⟩) cur.length xc) (ints (natsI cur))) := (HXS.out.below HBA.out (Nat.le_refl _)).any (Nat.le_refl _)
          have HLI : Hid (Lt c (i :: cur)) := lt_cons (by rw [HCL.out]; exact hlt) HLC.out
          have HIF : Hid (ln (i :: cur) < C ↔ (tak c cur (ones c.length)).getD i 0 < 0) := by
            have := HNC.out cur i HLC.out hlt
            rw [HC.out] at this
            exact this
          have HG0 : Hid ((wa.alloc (.cells #[.int .i64 (i : Int)] 3)).ownsRow wa.heap.size 3 1 (.slice (some ⟨wa.heap.size, 0, none⟩) 1 1) 1 [.int .i64 (i : Int)]) := World.ownsRow_lit wa #[.int .i64 (i : Int)] 1 (Nat.le_refl _) (by decide) rfl
          have HCC : Hid (∀ j u, (ints (natsI cur))[j]? = some u → (wa.alloc (.cells #[.int .i64 (i : Int)] 3)).cell? ((⟨b3, o3, none⟩ : Addr).add j) = some u) := sl_cells HXA.out _
          have HNL : Hid ((ints (natsI cur)).length = cur.length) := by
            show _ = _
            rw [ints_length, natsI_len]
          go_wp2_with (first | (at_builtin; refine wpList_append_own _ rfl _ _ 22 rfl wa.heap.size 3 i3 (.int .i64 0) 1 8 Try.underlying22 hi3 hz30 hz31 hz32 rfl (by decide) _ _ _ rfl HG0.out ⟨b3, o3, none⟩ cur.length xc (ints (natsI cur)) rfl ?e1 HCC.out (ints_oneCell' _) ?c3 ?c4 ?c5 ?_))
          case e1 => first | exact natsI_len cur | (rw [HNL.out]; omega)
          case c3 => unfold maxLen; omega
          case c4 => omega
          case c5 => first | (simp; done) | (simp; omega)
          intro v2 w4 ho hg _
          have HS4 : Hid (Sl w4.heap.size 3 w4 v2 (ints (natsI (i :: cur)))) := by
            rw [natsI_cons]
            exact Sl.own ho
          have HB4 : Hid (Below wa.heap.size wa w4) := ((Below.refl wa.heap.size wa).alloc (Nat.le_refl _) _).grown hg (by first | (simp; done) | (simp; omega)) (fun k hk => by simp [Value.ownBlock] at hk; try omega)
          have HOX : Hid (w4.ownsRow wa.heap.size 3 1 v2 (1 + cur.length) (ints (natsI (i :: cur)))) := by rw [natsI_cons]; exact ho
          obtain ⟨vo, vc, hv2⟩ := owns_form ho
          subst hv2
          have HB4W : Hid (Below w.heap.size w w4) := HBWA.out.trans (HB4.out.mono (Nat.le_trans hsz hsza))
          have HSC := HSH2.out (i :: cur) (.slice vo (1 + cur.length) vc) w4 HB4W.out HLI.out (by simp; omega) HS4.out
          clear ho hg HG0 HCC
          obtain ⟨K, hK⟩ : ∃ K, K = ln (i :: cur) := ⟨_, rfl⟩
          rw [← hK] at HSC HIF
          have HK : Hid (K = ln (i :: cur)) := hK
          clear hK
          go_wp2_with fail
          refine HSC.mono ?_
          rintro e w5 ⟨rfl, hb5⟩
          have HB5W : Hid (Below w.heap.size w w5) := HB4W.out.trans (hb5.mono HB4W.out.size)
          have HB5A : Hid (Below wa.heap.size wa w5) := HB4.out.trans (hb5.mono HB4.out.size)
          have HS5 : Hid (Sl w5.heap.size 3 w5 (.slice vo (1 + cur.length) vc) (ints (natsI (i :: cur)))) := (HS4.out.below hb5 (Nat.le_refl _)).any (Nat.le_refl _)
          have HOX5 : Hid (w5.ownsRow wa.heap.size 3 1 (.slice vo (1 + cur.length) vc) (1 + cur.length) (ints (natsI (i :: cur)))) := owns_below HOX.out hb5 (Nat.le_refl _)
          have HO5 : Hid (w5.ownsRow w.heap.size 3 1 (.slice oo out.length oc) out.length (ints (natsI out))) := owns_below (owns_below HOS.out HBA.out (Nat.le_refl _)) HB5A.out (Nat.le_refl _)
          have hsz5 : w.heap.size ≤ w5.heap.size := HB5W.out.size
          clear hb5 HSC HS4 HB4 HB4W
          by_cases hkc : K < C
          · have HNG : Hid ((tak c cur (ones c.length)).getD i 0 < 0) := HIF.out.1 hkc
            have HFN : Hid (fneg (tak c cur (ones c.length)) = some i) := fneg_first (by rw [HTL.out]; exact hlt) HNG.out HNO.out
            have HRC : Hid ((out ++ [i]) ++ rdW c (i :: cur) = rdW c wd) := by
              show _ = _
              rw [← HRD.out, rd_cons HG.out HLC.out HFN.out]; simp
            have hk1 : K + 1 = C := by
              have h1 := (nB_ov HG.out.rt (tak c cur (ones c.length)) (r := i) (by rw [HCL.out]; exact hlt)).2 HNG.out
              have h2 := HLN.out (i :: cur)
              have h3 := HLN.out cur
              rw [HK.out, ← HC.out, ← h2, ← h3]
              exact h1
            have hkcI : (K : Int) < (C : Int) := by omega
            have G2 : Hid (w5.ownsRow w.heap.size 3 1 (.slice oo out.length oc) (natsI out).length (ints (natsI out))) := by rw [natsI_len]; exact HO5.out
            have HOL : Hid ((natsI out).length = out.length) := natsI_len out
            go_wp2_with (first | (at_builtin; refine wpList_append_own _ rfl _ _ 22 rfl w.heap.size 3 i3 (.int .i64 0) 1 8 Try.underlying22 hi3 hz30 hz31 hz32 rfl (by decide) _ _ _ rfl (G2.out.alloc _) ⟨w5.heap.size, 0, none⟩ 1 1 [.int .i64 (i : Int)] rfl rfl (one_new _ _ _) (one_int _) ?c3 ?c4 ?c5 ?_))
            case c3 => rw [HOL.out]; unfold maxLen; omega
            case c4 => rw [HOL.out]; omega
            case c5 => simp; omega
            intro v7 w7 ho hg _
            have RR := owns_push (z := (i : Int)) (N := (natsI out).length + 1) hsz5 (l := natsI out) G2.out HB5W.out ho hg rfl
            have S1 : Hid (w7.ownsRow w.heap.size 3 1 v7 (out ++ [i]).length (ints (natsI (out ++ [i])))) := by
              have h1 := RR.1
              rw [HOL.out] at h1
              show w7.ownsRow _ _ _ _ _ _
              simpa [natsI] using h1
            have S2 : Hid (Below w.heap.size w w7) := RR.2
            have S3 : Hid (Sl w7.heap.size 3 w7 (.slice vo (1 + cur.length) vc) (ints (natsI (i :: cur)))) := by
              have hk := (HOX5.out.alloc _).kept hg (by
                cases hx : (Value.slice vo (1 + cur.length) vc).ownBlock with
                | none => exact Or.inl rfl
                | some k =>
                  refine Or.inr fun e => ?_
                  have h1 := (HOX5.out.lt k hx).1
                  have h2 := (HOS.out.lt k e.symm).2
                  omega)
              exact Sl.own hk
            obtain ⟨vo7, vc7, hv7⟩ := owns_form ho
            subst hv7
            clear ho hg RR
            go_wp2
            go_roundw
            case rel => exact ⟨i :: cur, out ++ [i], HLI.out, by have := HLL.out; simp; omega, by have := HLO.out; rw [← HK.out]; simp; omega, HRC.out, by rw [HK.out], S3.out, S1.out, S2.out⟩
            case measure => simp [intOf]; omega
          · have HNG : Hid (0 ≤ (tak c cur (ones c.length)).getD i 0) := by
              show _ ≤ _
              have : ¬ (tak c cur (ones c.length)).getD i 0 < 0 := fun h => hkc (HIF.out.2 h)
              omega
            have hkcI : ¬ (K : Int) < (C : Int) := by omega
            have HB6 : Hid (Below wr.heap.size wr w5) := HBA.out.trans (HB5A.out.mono hsza)
            go_wp2
            go_roundw
            case rel => exact ⟨i + 1, by omega, by go_num, rfl, rfl, rfl, fun j hj => by
              by_cases e : j = i
              · subst e; exact HNG.out
              · exact HNO.out j (by omega), HB6.out⟩
            case measure => simp [intOf]; omega
        · exact absurd HKN.out (by have := HNO.out kn (by omega); omega)
    · have HRE : Hid (rdW c wd = out) := by
        show _ = _
        rw [← HRD.out, HRN.out cur HLC.out (by omega)]; simp
      have HOE : Hid (wr.ownsRow w.heap.size 3 1 (.slice oo out.length oc) (rdW c wd).length (ints (natsI (rdW c wd)))) := by rw [HRE.out]; exact HOS.out
      have h0I : ¬ (0 : Int) < (ln cur : Int) := by omega
      generalize ln cur = C at *
      go_wp2
      go_ret
      exact ⟨_, rfl, HOE.out, HBR.out⟩

set_option maxRecDepth 100000 in
set_option maxHeartbeats 1600000 in
theorem endsD_any (n : Nat) (c R d : List (List Int)) (t : Nat → Int) (wd : List Nat) (cv wv : Value) (w : World) (h : Wg n c R d t) (hw : Lt c wd) (hwl : wd.length ≤ 900) (hm : Mat w.heap.size 22 3 w cv c) (hwv : Sl w.heap.size 3 w wv (ints (natsI wd))) :
    Calls Try.prog 14 #[cv, wv] w fun e w' => ∃ u, e = .returned u ∧ w'.ownsRow w.heap.size 3 1 u (enL (fwd c wd (ones n)) n).length (ints (natsI (enL (fwd c wd (ones n)) n))) ∧ Below w.heap.size w w' := by
  obtain ⟨i3, hi3, hz30, hz31, hz32⟩ := info_parts Try.info3
  have hcl := h.g.g.sq.len
  have hn1 := h.g.g.n1
  have hn4 := h.g.g.sq.n4
  have HSH : Hid (∀ x xv W, Below w.heap.size w W → Lt c x → x.length ≤ 1000 → Sl W.heap.size 3 W xv (ints (natsI x)) → Calls Try.prog 32 #[cv, xv] W fun e w' => e = .returned (.int .i64 (nB c.length R (tak c x (ones c.length)) : Nat)) ∧ Below W.heap.size W w') := fun x xv W h1 h2 h3 h4 => short_any n c R d t x cv xv W h h2 h3 ((hm.below h1 (Nat.le_refl _)).any (Nat.le_refl _)) h4
  have H0 : Hid (Calls Try.prog 32 #[cv, wv] w fun e w' => e = .returned (.int .i64 (nB c.length R (tak c wd (ones c.length)) : Nat)) ∧ Below w.heap.size w w') := short_any n c R d t wd cv wv w h hw (by omega) hm hwv
  have HIF : Hid (∀ i, i < n → (nB c.length R (tak c (wd ++ [i]) (ones c.length)) < nB c.length R (tak c wd (ones c.length)) ↔ (fwd c wd (ones n)).getD i 0 < 0)) := fun i hi => by
    have := nB_snoc h.g.rt (w := wd) (i := i) (by omega) hw
    rw [hcl] at this ⊢
    exact this
  have HLS : Hid (∀ i, i < n → Lt c (wd ++ [i])) := fun i hi => lt_app hw (fun r hr => by rw [List.mem_singleton] at hr; omega)
  obtain ⟨ao, cap, hvv, _, _⟩ := mat_open hm
  subst hvv
  obtain ⟨wo, wc, hwvv, _, _⟩ := sl_open hwv
  subst hwvv
  have HWV : Hid (Sl w.heap.size 3 w (.slice wo (natsI wd).length wc) (ints (natsI wd))) := hwv
  have HCP : Hid (∀ W, Below w.heap.size w W → Calls Try.prog 29 #[.slice wo (natsI wd).length wc] W fun e w' => ∃ u, e = .returned u ∧ w'.ownsRow W.heap.size 3 1 u (natsI wd).length (ints (natsI wd)) ∧ Below W.heap.size W w') := fun W h => copy_any W.heap.size (natsI wd) _ W ((hwv.below h (Nat.le_refl _)).any (Nat.le_refl _)) (by rw [natsI_len]; omega)
  rw [natsI_len] at HWV H0 HCP ⊢
  clear h hw hm hwv
  rw [hcl] at HSH H0 ⊢
  rw [hcl] at HIF
  generalize fwd c wd (ones n) = v at *
  generalize nB n R (tak c wd (ones n)) = C at *
  go_enter Try.func14, Try.ntmps14
  go_wp2_with fail
  refine H0.out.mono ?_
  rintro e w1 ⟨rfl, hb1⟩
  have HB1 : Hid (Below w.heap.size w w1) := hb1
  clear hb1 H0
  go_wp2
  go_loopw [5, 7] (fun tv iv wr => ∃ k : Nat, k ≤ n ∧ iv = .int .i64 k ∧ wr.ownsRow w.heap.size 3 1 tv (enL v k).length (ints (natsI (enL v k))) ∧ Below w.heap.size w wr) (fun _ iv _ => n - (intOf iv).toNat)
  case atStart => exact ⟨0, Nat.zero_le _, rfl, World.ownsRow_nil _ _ _ _, HB1.out⟩
  case round =>
    obtain ⟨k, hk, rfl, hot, hbr⟩ := hrel
    have HBR : Hid (Below w.heap.size w wr) := hbr
    have hszr : w.heap.size ≤ wr.heap.size := hbr.size
    obtain ⟨to, tc, htv⟩ := owns_form hot
    subst htv
    have HOT : Hid (wr.ownsRow w.heap.size 3 1 (.slice to (enL v k).length tc) (enL v k).length (ints (natsI (enL v k)))) := hot
    have hel := enL_le v k
    clear hot hbr
    by_cases hlt : k < n
    · have HES : Hid (enL v (k + 1) = if v.getD k 0 < 0 then enL v k ++ [k] else enL v k) := enL_succ v k
      have HIK := HIF.out k hlt
      have HIK2 : Hid (nB n R (tak c (wd ++ [k]) (ones n)) < C ↔ v.getD k 0 < 0) := HIK
      have HC1 := HCP.out wr HBR.out
      have HLK := HLS.out k hlt
      have HLK2 : Hid (Lt c (wd ++ [k])) := HLK
      clear HIK HLK
      generalize hE : enL v k = E at *
      have HEE : Hid (enL v k = E) := hE
      clear hE
      go_wp2_with fail
      refine HC1.mono ?_
      rintro e w2 ⟨u2, rfl, ho2, hb2⟩
      obtain ⟨uo, uc, huv⟩ := owns_form ho2
      subst huv
      have HU2 : Hid (w2.ownsRow wr.heap.size 3 1 (.slice uo wd.length uc) (natsI wd).length (ints (natsI wd))) := by rw [natsI_len]; exact ho2
      have HNL : Hid ((natsI wd).length = wd.length) := natsI_len wd
      have HB2 : Hid (Below wr.heap.size wr w2) := hb2
      have hsz2 : wr.heap.size ≤ w2.heap.size := hb2.size
      clear ho2 hb2 HC1
      go_wp2_with (first | (at_builtin; refine wpList_append_own _ rfl _ _ 22 rfl wr.heap.size 3 i3 (.int .i64 0) 1 8 Try.underlying22 hi3 hz30 hz31 hz32 rfl (by decide) _ _ _ rfl (HU2.out.alloc _) ⟨w2.heap.size, 0, none⟩ 1 1 [.int .i64 (k : Int)] rfl rfl (one_new _ _ _) (one_int _) ?c3 ?c4 ?c5 ?_))
      case c3 => rw [HNL.out]; unfold maxLen; omega
      case c4 => rw [HNL.out]; omega
      case c5 => simp; omega
      intro v3 w3 ho hg _
      have HB3 : Hid (Below wr.heap.size wr w3) := (HB2.out.alloc hsz2 _).grown hg (by simp; omega) (fun x hx => (HU2.out.lt x hx).1)
      have HB3W : Hid (Below w.heap.size w w3) := HBR.out.trans (HB3.out.mono hszr)
      have HS3 : Hid (Sl w3.heap.size 3 w3 v3 (ints (natsI (wd ++ [k])))) := by
        rw [natsI_app]
        exact Sl.own ho
      obtain ⟨xo, xc, hxv⟩ := owns_form ho
      subst hxv
      have HSC := HSH.out (wd ++ [k]) _ w3 HB3W.out HLK2.out (by simp; omega) HS3.out
      obtain ⟨K, hK⟩ : ∃ K, K = nB n R (tak c (wd ++ [k]) (ones n)) := ⟨_, rfl⟩
      rw [← hK] at HSC HIK2
      clear ho hg hK
      rw [HNL.out] at HSC ⊢
      go_wp2_with fail
      refine HSC.mono ?_
      rintro e w4 ⟨rfl, hb4⟩
      have HB4 : Hid (Below wr.heap.size wr w4) := HB3.out.trans (hb4.mono HB3.out.size)
      have HB4W : Hid (Below w.heap.size w w4) := HB3W.out.trans (hb4.mono HB3W.out.size)
      have hsz4 : w.heap.size ≤ w4.heap.size := HB4W.out.size
      have HO4 : Hid (w4.ownsRow w.heap.size 3 1 (.slice to E.length tc) E.length (ints (natsI E))) := owns_below HOT.out HB4.out (Nat.le_refl _)
      clear hb4 HSC
      by_cases hkc : K < C
      · have hE2 : enL v (k + 1) = E ++ [k] := by rw [HES.out, if_pos (HIK2.out.1 hkc)]
        have HE2 : Hid (enL v (k + 1) = E ++ [k]) := hE2
        clear hE2
        have hkcI : (K : Int) < (C : Int) := by omega
        have G2 : Hid (w4.ownsRow w.heap.size 3 1 (.slice to E.length tc) (natsI E).length (ints (natsI E))) := by rw [natsI_len]; exact HO4.out
        have HOL : Hid ((natsI E).length = E.length) := natsI_len E
        go_wp2_with (first | (at_builtin; refine wpList_append_own _ rfl _ _ 22 rfl w.heap.size 3 i3 (.int .i64 0) 1 8 Try.underlying22 hi3 hz30 hz31 hz32 rfl (by decide) _ _ _ rfl (G2.out.alloc _) ⟨w4.heap.size, 0, none⟩ 1 1 [.int .i64 (k : Int)] rfl rfl (one_new _ _ _) (one_int _) ?c3 ?c4 ?c5 ?_))
        case c3 => rw [HOL.out]; unfold maxLen; omega
        case c4 => rw [HOL.out]; omega
        case c5 => simp; omega
        intro v7 w7 ho hg _
        have RR := owns_push (z := (k : Int)) (N := (natsI E).length + 1) hsz4 (l := natsI E) G2.out HB4W.out ho hg rfl
        have S1 : Hid (w7.ownsRow w.heap.size 3 1 v7 (enL v (k + 1)).length (ints (natsI (enL v (k + 1))))) := by
          have h1 := RR.1
          rw [HOL.out] at h1
          rw [HE2.out]
          show w7.ownsRow _ _ _ _ _ _
          simpa [natsI] using h1
        have S2 : Hid (Below w.heap.size w w7) := RR.2
        obtain ⟨vo7, vc7, hv7⟩ := owns_form ho
        subst hv7
        clear ho hg RR
        go_wp2
        go_roundw
        case rel => exact ⟨k + 1, by omega, by go_num, S1.out, S2.out⟩
        case measure => simp [intOf]; omega
      · have HE2 : Hid (enL v (k + 1) = E) := by
          show _ = _
          rw [HES.out, if_neg (fun h => hkc (HIK2.out.2 h))]
        have hkcI : ¬ (K : Int) < (C : Int) := by omega
        go_wp2
        go_roundw
        case rel => exact ⟨k + 1, by omega, by go_num, by rw [HE2.out]; exact HO4.out, HB4W.out⟩
        case measure => simp [intOf]; omega
    · have hke : k = n := by omega
      subst hke
      generalize hE : enL v k = E at *
      go_wp2
      go_ret
      exact ⟨_, rfl, by rw [hE]; exact HOT.out, HBR.out⟩

end Go.Proofs.Ytdbfkjnnlomklaa
