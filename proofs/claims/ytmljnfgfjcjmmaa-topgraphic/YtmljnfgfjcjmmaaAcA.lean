import Derived.Test.YtmljnfgfjcjmmaaWyA
import Derived.Test.YtmljnfgfjcjmmaaOfAll
import Derived.Test.YtmljnfgfjcjmmaaRun1
import Derived.Test.YtmljnfgfjcjmmaaStepsAll
import Derived.Lib.JoinLaws
/- Farkas's lemma (after Bartl): what is no sum of so much of rows lies beyond a plane that they don't cross (pure). -/
namespace Go.Proofs.Ytmljnfgfjcjmmaa
open Lin

/-- So much of each row, added: the j-th number. -/
def sm (t : List (Nat → Int)) (a : Nat → Int) (j : Nat) : Int := sumN t.length fun i => a i * (t.getD i fun _ => 0) j

theorem sumN_shift : ∀ (n : Nat) (f : Nat → Int), sumN (n + 1) f = f 0 + sumN n fun i => f (i + 1)
  | 0, f => by simp [sumN]
  | n + 1, f => by
    have h := sumN_shift n f
    show sumN (n + 1) f + f (n + 1) = f 0 + (sumN n (fun i => f (i + 1)) + f (n + 1))
    rw [h]; omega

theorem sm_cons (r : Nat → Int) (t : List (Nat → Int)) (a : Nat → Int) (j : Nat) : sm (r :: t) a j = a 0 * r j + sm t (fun i => a (i + 1)) j := by
  unfold sm
  rw [List.length_cons, sumN_shift]
  rfl

theorem sm_nil (a : Nat → Int) (j : Nat) : sm [] a j = 0 := rfl

theorem sm_lc (t : List (Nat → Int)) (x y : Int) (a b : Nat → Int) (j : Nat) : sm t (fun i => x * a i + y * b i) j = x * sm t a j + y * sm t b j := by
  unfold sm
  rw [← sumN_mul, ← sumN_mul, ← sumN_add]
  exact sumN_congr fun i _ => by grind

theorem sm_congr {t : List (Nat → Int)} {a b : Nat → Int} (h : ∀ i, i < t.length → a i = b i) (j : Nat) : sm t a j = sm t b j :=
  sumN_congr fun i hi => by rw [h i hi]

/-- A direction's product with a sum. -/
theorem dot_sm (d : Nat) (c : Nat → Int) (t : List (Nat → Int)) (a : Nat → Int) : dot d c (sm t a) = sumN t.length fun i => a i * dot d c (t.getD i fun _ => 0) := by
  unfold dot sm
  have : (fun j => c j * sumN t.length fun i => a i * (t.getD i fun _ => 0) j) = fun j => sumN t.length fun i => c j * (a i * (t.getD i fun _ => 0) j) := by
    funext j; rw [sumN_mul]
  rw [this, sumN_swap]
  refine sumN_congr fun i _ => ?_
  rw [← sumN_mul]
  exact sumN_congr fun j _ => by grind

theorem sumN_nonpos {n : Nat} {f : Nat → Int} (h : ∀ i, i < n → f i ≤ 0) : sumN n f ≤ 0 := by
  induction n with
  | zero => simp [sumN]
  | succ n ih =>
    have h1 := ih fun i hi => h i (by omega)
    have h2 := h n (by omega)
    show sumN n f + f n ≤ 0
    omega

theorem sumN_nonneg {n : Nat} {f : Nat → Int} (h : ∀ i, i < n → 0 ≤ f i) : 0 ≤ sumN n f := by
  induction n with
  | zero => simp [sumN]
  | succ n ih =>
    have h1 := ih fun i hi => h i (by omega)
    have h2 := h n (by omega)
    show 0 ≤ sumN n f + f n
    omega

theorem getD_memF {Z : List (Nat → Int)} {i : Nat} (h : i < Z.length) : (Z.getD i fun _ => 0) ∈ Z := by simp [h]

/-- The goal is a sum of so much of rows, from 0 on. -/
def InC (d : Nat) (Z : List (Nat → Int)) (g : Nat → Int) : Prop :=
  ∃ (s : Int) (a : Nat → Int), 0 < s ∧ (∀ i, i < Z.length → 0 ≤ a i) ∧ ∀ j, j < d → s * g j = sm Z a j

theorem farkas (d : Nat) : ∀ (n : Nat) (Z : List (Nat → Int)), Z.length = n → ∀ g : Nat → Int, InC d Z g ∨ ∃ c : Nat → Int, (∀ z ∈ Z, dot d c z ≤ 0) ∧ 0 < dot d c g := by
  intro n
  induction n with
  | zero =>
    intro Z hZ g
    have : Z = [] := List.eq_nil_of_length_eq_zero hZ
    subst this
    by_cases h : ∃ i, i < d ∧ g i ≠ 0
    · exact .inr ⟨g, fun z hz => by simp at hz, dot_pos h⟩
    · refine .inl ⟨1, fun _ => 0, by decide, fun i hi => by simp at hi, fun j hj => ?_⟩
      rw [sm_nil]
      have : g j = 0 := Classical.byContradiction fun hne => h ⟨j, hj, hne⟩
      rw [this]; rfl
  | succ n ih =>
    intro Z hZ g
    match Z, hZ with
    | z0 :: Z', hZ =>
      have hl : Z'.length = n := by simpa using hZ
      rcases ih Z' hl g with ⟨s, a, hs, ha, he⟩ | ⟨c, hc, hg⟩
      · refine .inl ⟨s, fun i => if i = 0 then 0 else a (i - 1), hs, fun i hi => ?_, fun j hj => ?_⟩
        · by_cases h0 : i = 0
          · simp [h0]
          · simp only [h0, if_false]
            exact ha _ (by simp at hi; omega)
        · rw [sm_cons, he j hj]
          simp
      · by_cases hz0 : dot d c z0 ≤ 0
        · exact .inr ⟨c, fun z hz => by
            rcases List.mem_cons.1 hz with rfl | hz
            · exact hz0
            · exact hc z hz, hg⟩
        · obtain ⟨p, hp⟩ : ∃ p, p = dot d c z0 := ⟨_, rfl⟩
          have hp0 : 0 < p := by omega
          rcases ih (Z'.map fun z => fun k => p * z k + (-(dot d c z)) * z0 k) (by simpa using hl) (fun k => p * g k + (-(dot d c g)) * z0 k) with ⟨s, a, hs, ha, he⟩ | ⟨e, h1, h2⟩
          · have key : ∀ j, sm (Z'.map fun z => fun k => p * z k + (-(dot d c z)) * z0 k) a j = p * sm Z' a j - dot d c (sm Z' a) * z0 j := by
              intro j
              rw [dot_sm]
              unfold sm
              rw [List.length_map, ← sumN_mul, ← sumN_mul_right, Int.sub_eq_add_neg, ← sumN_neg, ← sumN_add]
              refine sumN_congr fun i hi => ?_
              have e1 : (Z'.map fun z => fun k => p * z k + (-(dot d c z)) * z0 k).getD i (fun _ => 0) = fun k => p * (Z'.getD i fun _ => 0) k + (-(dot d c (Z'.getD i fun _ => 0))) * z0 k := by
                simp [hi]
              rw [e1]
              grind
            have hq : dot d c (sm Z' a) ≤ 0 := by
              rw [dot_sm]
              refine sumN_nonpos fun i hi => ?_
              exact Int.mul_nonpos_of_nonneg_of_nonpos (ha i (by simpa using hi)) (hc _ (getD_memF hi))
            refine .inl ⟨s * p, fun i => if i = 0 then s * dot d c g - dot d c (sm Z' a) else p * a (i - 1), Int.mul_pos hs hp0, fun i hi => ?_, fun j hj => ?_⟩
            · by_cases h0 : i = 0
              · simp only [h0, if_true]
                have := Int.mul_pos hs hg
                omega
              · simp only [h0, if_false]
                exact Int.mul_nonneg (Int.le_of_lt hp0) (ha _ (by simp at hi ⊢; omega))
            · have h3 := he j hj
              rw [key j] at h3
              rw [sm_cons]
              have e2 : sm Z' (fun i => if i + 1 = 0 then s * dot d c g - dot d c (sm Z' a) else p * a (i + 1 - 1)) j = p * sm Z' a j := by
                have := sm_lc Z' p 0 a a j
                rw [Int.zero_mul, Int.add_zero] at this
                rw [← this]
                exact sm_congr (fun i _ => by simp) j
              rw [e2]
              simp only [if_true]
              grind
          · refine .inr ⟨fun k => p * e k + (-(dot d e z0)) * c k, fun z hz => ?_, ?_⟩
            · rw [dot_lc]
              rcases List.mem_cons.1 hz with rfl | hz
              · rw [← hp]; have : p * dot d e z + -dot d e z * p = 0 := by grind
                omega
              · have h3 := h1 _ (List.mem_map.2 ⟨z, hz, rfl⟩)
                rw [dot_comm, dot_lc, dot_comm d z, dot_comm d z0] at h3
                have : p * dot d e z + -dot d e z0 * dot d c z = p * dot d e z + -dot d c z * dot d e z0 := by grind
                omega
            · rw [dot_lc]
              rw [dot_comm, dot_lc, dot_comm d g, dot_comm d z0] at h2
              have : p * dot d e g + -dot d e z0 * dot d c g = p * dot d e g + -dot d c g * dot d e z0 := by grind
              omega

end Go.Proofs.Ytmljnfgfjcjmmaa

/- cone.acrossOf. -/
namespace Go.Proofs.Ytmljnfgfjcjmmaa
open Go.RowKit
attribute [local go_sem ↓] Go.wp_at_zero Go.wp_at_succ

theorem acr_snoc {rs : List (List Int)} {t : Nat} (h : t < rs.length) (i : Nat) :
    (rs.take (t + 1)).map (fun r => r.getD i 0) = (rs.take t).map (fun r => r.getD i 0) ++ [(rs.getD t []).getD i 0] := by
  rw [List.take_succ_eq_append_getElem h, List.map_append, List.getD_eq_getElem?_getD (l := rs), List.getElem?_eq_getElem h]
  rfl

theorem acrL_at {g : List Int} {rs : List (List Int)} {k : Nat} (h : k < g.length) : (acrL g rs).getD k [] = acrR rs g k := by simp [acrL, h]

set_option maxRecDepth 100000 in
set_option maxHeartbeats 4000000 in
theorem across_any (B : Nat) (rs : List (List Int)) (g : List Int) (v x : Value) (w : World) (hv : Mat B 22 3 w v rs) (hx : Sl B 3 w x (ints g))
    (hr : ∀ r ∈ rs, g.length ≤ r.length ∧ ∀ z ∈ r, z.natAbs ≤ 60) (hg : ∀ z ∈ g, z.natAbs ≤ 60) (hg5 : g.length ≤ 5) (hc4 : rs.length ≤ 1000) :
    Calls Try.prog 94 #[v, x] w fun e w' => ∃ f, e = .returned (.slice (some ⟨w.heap.size, 0, none⟩) g.length g.length) ∧ Ac w w.heap.size g.length g.length (acrL g rs) f w' := by
  obtain ⟨i0, hi, hz0, hz1, hz2⟩ := info_parts Try.info22
  obtain ⟨i3, hi3, hz30, hz31, hz32⟩ := info_parts Try.info3
  obtain ⟨ao, cap, hvv, hlc, hcm⟩ := mat_open hv
  obtain ⟨xo, cxp, hxx, hlx, hcx⟩ := sl_open hx
  subst hvv hxx
  have HV : Hid (Mat B 22 3 w (.slice ao rs.length cap) rs) := hv
  have HX : Hid (Sl B 3 w (.slice xo g.length cxp) (ints g)) := hx
  have HR : Hid (∀ r ∈ rs, g.length ≤ r.length ∧ ∀ z ∈ r, z.natAbs ≤ 60) := hr
  have HG : Hid (∀ z ∈ g, z.natAbs ≤ 60) := hg
  clear hv hx hr hg
  have hmk := run_make_row' (P := Try.prog) 26 22 (.slice none 0 0) 24 Try.underlying26 Try.info22 rfl .i64 .i64 g.length (by omega) (by omega)
  have HA0 : Hid (Ac w w.heap.size g.length 0 (acrL g rs) (fun _ => .slice none 0 0) (w.alloc (.cells (madeCells #[.slice none 0 0] g.length) 22))) := by
    refine ⟨alloc_keep _ _, by omega, ?_, fun j hj => absurd hj (by omega), fun _ _ _ => rfl⟩
    exact World.rowIs_made w (.slice none 0 0) g.length 22
  go_enter Try.func94, Try.ntmps94
  go_wp2
  go_loopw [15, 6, 7, 9] (fun i _ _ _ wr => ∃ (k : Nat) (f : Nat → Value), k ≤ g.length ∧ i = .int .i64 k ∧ Ac w w.heap.size g.length k (acrL g (rs)) f wr) (fun i _ _ _ _ => g.length - (intOf i).toNat)
  case atStart => exact ⟨0, _, Nat.zero_le _, rfl, HA0.out⟩
  case round =>
    obtain ⟨k, f, hk, rfl, ha⟩ := hrel
    obtain ⟨wa, rfl⟩ : ∃ wa, wa = wr := ⟨wr, rfl⟩
    have HA : Hid (Ac w w.heap.size g.length k (acrL g (rs)) f wa) := ha
    have HBA : Hid (Below w.heap.size w wa) := ha.bel
    clear ha
    by_cases hlt : k < g.length
    · obtain ⟨xb, xoo, xcp, hxs, _, hcell⟩ := sl_cell (HX.out.below HBA.out (Nat.le_refl _)) hlt
      simp only [Value.slice.injEq] at hxs
      obtain ⟨rfl, _, rfl⟩ := hxs
      have hz := HG.out (g.getD k 0) (by simp [hlt])
      have HZ : Hid (g.getD k 0 = g.getD k 0) := rfl
      generalize hgk : g.getD k 0 = gk at *
      have HGK : Hid (g.getD k 0 = gk) := hgk
      clear hgk HZ
      have hI : Ai wa (w.heap.size) g.length k 0 f [] (.slice none 0 0) wa := by
        refine ⟨Chg.refl _ _, ?_, World.ownsRow_nil _ _ _ _, rfl⟩
        have e : (fun j => if j = k then .slice none 0 0 else f j) = f := by
          funext j
          by_cases ej : j = k
          · subst ej; simp [HA.out.free j (Nat.le_refl _) hlt]
          · simp [ej]
        rw [e]
        exact HA.out.row
      have HI : Hid (Ai wa (w.heap.size) g.length k 0 f [] (.slice none 0 0) wa) := hI
      clear hI
      have hkI : (0 : Int) ≤ (k : Int) := by omega
      have hkJ : (k : Int) < (g.length : Int) := by omega
      go_wp2
      go_loopw [22, 9] (fun i _ wq => ∃ (t : Nat) (cur : Value), t ≤ rs.length ∧ i = .int .i64 t ∧ Ai wa (w.heap.size) g.length k t f (((rs).take t).map (fun r => r.getD k 0)) cur wq) (fun i _ _ => rs.length - (intOf i).toNat)
      case atStart => exact ⟨0, _, Nat.zero_le _, rfl, HI.out⟩
      case round =>
        obtain ⟨t, cur, ht, rfl, hi5⟩ := hrel
        obtain ⟨wb, rfl⟩ : ∃ wb, wb = wr := ⟨wr, rfl⟩
        have HAI : Hid (Ai wa (w.heap.size) g.length k t f (((rs).take t).map (fun r => r.getD k 0)) cur wb) := hi5
        have HGW : Hid (w.heap.size < wa.heap.size) := HA.out.lt
        have HBB : Hid (Below w.heap.size w wb) := ⟨hi5.chg.os.trans HBA.out.os, hi5.chg.tape.trans HBA.out.tape, hi5.chg.output.trans HBA.out.output, Nat.le_trans HBA.out.size hi5.chg.size, fun b hb => (hi5.chg.block b (by have := HBA.out.size; omega) (by omega)).trans (HBA.out.block b hb)⟩
        obtain ⟨co, cc, hcur⟩ := owns_form hi5.own
        subst hcur
        have c37 : wb.cell? ⟨w.heap.size, k, none⟩ = some (.slice co t cc) := by
          have := hi5.row.cell (i := k) hlt
          simpa using this
        have f37 : wb.frozen? ⟨w.heap.size, k, none⟩ = false := hi5.row.frozen k
        have HO : Hid (wb.ownsRow wa.heap.size 3 1 (.slice co t cc) t (ints (((rs).take t).map (fun r => r.getD k 0)))) := hi5.own
        have HSZ : Hid (wa.heap.size ≤ wb.heap.size) := hi5.chg.size
        clear hi5
        by_cases htl : t < rs.length
        · obtain ⟨vb, voo, vcp, rv, hvs, _, hvcell, hrv⟩ := mat_cell (HV.out.below HBB.out (Nat.le_refl _)) htl
          simp only [Value.slice.injEq] at hvs
          obtain ⟨rfl, _, rfl⟩ := hvs
          have hrow := HR.out (rs.getD t []) (by simp [htl])
          obtain ⟨rb, roo, rcp, hrs, hrc1, hrcell⟩ := sl_cell hrv (k := k) (by omega)
          subst hrs
          obtain ⟨z, hzz⟩ : ∃ z, z = (rs.getD t []).getD k 0 := ⟨_, rfl⟩
          have HZZ : Hid (z = (rs.getD t []).getD k 0) := hzz
          rw [← hzz] at hrcell
          have hkr : (k : Int) < ((rs.getD t []).length : Int) := by have := hrow.1; omega
          have HSN : Hid (((rs).take (t + 1)).map (fun r => r.getD k 0) = ((rs).take t).map (fun r => r.getD k 0) ++ [z]) := by
            show _ = _
            rw [acr_snoc htl k, hzz]
          generalize (rs.getD t []).length = rl at *
          have c37a : (wb.alloc (.cells #[.int .i64 z] 3)).cell? ⟨w.heap.size, k, none⟩ = some (.slice co t cc) := ((alloc_keep wb _).cell (p := ⟨w.heap.size, k, none⟩) (by have h1 := HGW.out; have h2 := HSZ.out; show w.heap.size < _; omega)).trans c37
          have HPU : Hid (∀ v' w5, w5.ownsRow wa.heap.size 3 1 v' (t + 1) (ints (((rs).take t).map (fun r => r.getD k 0)) ++ [.int .i64 z]) → (wb.drew.alloc (.cells #[.int .i64 z] 3)).grownBy w5 (Value.slice co t cc).ownBlock →
              w5.cell? ⟨w.heap.size, k, none⟩ = some (.slice co t cc) ∧ w5.frozen? ⟨w.heap.size, k, none⟩ = false ∧ Ai wa (w.heap.size) g.length k (t + 1) f (((rs).take (t + 1)).map (fun r => r.getD k 0)) v' (w5.setCell ⟨w.heap.size, k, none⟩ v')) := fun v' w5 ho hg5 => by
            have h0 : Ai wa (w.heap.size) g.length k t f (((rs).take t).map (fun r => r.getD k 0)) (.slice co t cc) wb.drew := ⟨HAI.out.chg.drew, HAI.out.row, HAI.out.own, HAI.out.len⟩
            rw [HSN.out]
            exact h0.push HGW.out hlt ho hg5
          have HNEW : Hid (∀ j u, [Value.int .i64 z][j]? = some u → (wb.drew.alloc (.cells #[.int .i64 z] 3)).cell? ((⟨wb.heap.size, 0, none⟩ : Addr).add j) = some u) := one_new wb.drew _ _
          have HNS : Hid (wa.heap.size ≤ (wb.drew.alloc (.cells #[.int .i64 z] 3)).heap.size) := by
            show _ ≤ _
            have := HSZ.out
            rw [size_alloc]
            show _ ≤ wb.heap.size + 1
            omega
          have htm : t + 1 ≤ maxLen := by unfold maxLen; omega
          have ht4 : t ≤ 1000 := by omega
          have htI0 : (0 : Int) ≤ (t : Int) := by omega
          have htI : (t : Int) < (rs.length : Int) := by omega
          clear hrow hrv hzz
          go_wp2
          go_region_law (refine step_append_own (o := { dst := some 37, op := _, type := _, pos := _, after := _, guard := _ }) (by rfl) _ _ 22 (by rfl) wa.heap.size 3 i3 (.int .i64 0) 1 8 Try.underlying22 hi3 hz30 hz31 hz32 rfl (by decide) _ _ _ (by rfl) (HO.out.alloc _) ⟨wb.heap.size, 0, none⟩ 1 1 [.int .i64 z] (by rfl) rfl HNEW.out (one_int _) htm (by omega) HNS.out ?_; intro v' w5 ho hg5; obtain ⟨vo', vc', hv'⟩ := owns_form ho; subst hv'; have FF : Hid _ := HPU.out _ w5 ho hg5; have LS1 := FF.out.1; have LS2 := FF.out.2.1; clear ho hg5)
          all_goals
            have HN : Hid (Ai wa (w.heap.size) g.length k (t + 1) f (((rs).take (t + 1)).map (fun r => r.getD k 0)) (.slice vo' (t + 1) vc') (w5.setCell ⟨w.heap.size, k, none⟩ (.slice vo' (t + 1) vc'))) := FF.out.2.2
            clear FF LS1 LS2 c37 c37a f37
            go_wp2
            go_roundw
            case rel => exact ⟨t + 1, _, by omega, by go_num, HN.out⟩
            case measure => simp [intOf]; omega
        · have hte : t = rs.length := by omega
          subst hte
          clear htl ht
          have hpl : (rs).take rs.length = rs := List.take_length
          have hgz1 : -60 ≤ gk := by omega
          have hgz2 : gk ≤ 60 := by omega
          have hsz : wa.heap.size ≤ wb.heap.size := HSZ.out
          obtain ⟨l, hl⟩ : ∃ l, l = ((rs).take rs.length).map (fun r => r.getD k 0) := ⟨_, rfl⟩
          have HL : Hid (l = (rs).map (fun r => r.getD k 0)) := by rw [hpl] at hl; exact hl
          rw [← hl] at HAI HO
          clear hpl hl
          go_wp2_with (first | (at_builtin; refine wpList_append_own _ rfl _ _ 22 rfl wa.heap.size 3 i3 (.int .i64 0) 1 8 Try.underlying22 hi3 hz30 hz31 hz32 rfl (by decide) _ _ _ rfl (HO.out.alloc _) ⟨wb.heap.size, 0, none⟩ 1 1 [.int .i64 (-gk)] rfl rfl (one_new _ _ _) (one_int _) ?c3 ?c4 ?c5 ?_))
          case c3 => unfold maxLen; omega
          case c4 => omega
          case c5 => simp; omega
          intro v' w3 ho hg3 _
          obtain ⟨vo', vc', hv'⟩ := owns_form ho
          subst hv'
          have FF := HAI.out.push HGW.out hlt ho hg3
          have LS1 := FF.1
          have LS2 := FF.2.1
          have HN : Hid (Ac w w.heap.size g.length (k + 1) (acrL g (rs)) (fun j => if j = k then .slice vo' (rs.length + 1) vc' else f j) (w3.setCell ⟨w.heap.size, k, none⟩ (.slice vo' (rs.length + 1) vc'))) :=
            HA.out.next FF.2.2 (by rw [acrL_at hlt, HL.out, acrR, HGK.out])
          clear FF ho hg3
          go_wp2
          go_roundw
          case rel => exact ⟨k + 1, _, by omega, by go_num, HN.out⟩
          case measure => simp [intOf]; omega
    · have hke : k = g.length := by omega
      subst hke
      go_wp2
      go_ret
      exact ⟨f, rfl, HA.out⟩

end Go.Proofs.Ytmljnfgfjcjmmaa

/- choose.Picked over rows, with a capacity. -/
namespace Go.Proofs.Ytmljnfgfjcjmmaa
open Go.RowKit

theorem pkd_snoc (P : List (List Int)) (x : List Int) (k : Nat) (h : k < x.length) : pks P [] (x.take (k + 1)) = pks P [] (x.take k) ++ [P.getD (x.getD k 0).toNat []] := by
  rw [take_snoc_int x k h]
  simp [pks]

set_option maxRecDepth 100000 in
set_option maxHeartbeats 800000 in
theorem pickedK_any (B : Nat) (P : List (List Int)) (x : List Int) (v u : Value) (w : World) (hv : Mat B 22 3 w v P) (hu : Sl B 3 w u (ints x)) (hx : ∀ i, i < x.length → 0 ≤ x.getD i 0 ∧ x.getD i 0 < P.length) (hl : x.length ≤ 1000) :
    Calls Try.prog 26 #[v, u] w fun e w' => ∃ z, e = .returned z ∧ Rws w.heap.size 22 3 w' z (pks P [] x) ∧ Below w.heap.size w w' := by
  obtain ⟨i0, hi, hz0, hz1, hz2⟩ := info_parts Try.info22
  obtain ⟨ao, cap, hvv, hlc, hcm⟩ := mat_open hv
  obtain ⟨bo, cbp, huu, hlb, hcb⟩ := sl_open hu
  subst hvv huu
  have HV : Hid (Mat w.heap.size 22 3 w (.slice ao P.length cap) P) := hv.any (Nat.le_refl _)
  have HU : Hid (Sl B 3 w (.slice bo x.length cbp) (ints x)) := hu
  have HX : Hid (∀ i, i < x.length → 0 ≤ x.getD i 0 ∧ x.getD i 0 < P.length) := hx
  clear hv hu hx
  have hmk := run_make_room (P := Try.prog) 26 22 (.slice none 0 0) 24 Try.underlying26 Try.info22 rfl .i64 .i64 x.length (by omega) (by omega)
  have HO0 : Hid (Rws w.heap.size 22 3 (w.alloc (.cells (madeCells #[.slice none 0 0] x.length) 22)) (.slice (some ⟨w.heap.size, 0, none⟩) 0 x.length) []) :=
    ⟨[], rfl, World.ownsRow_made w _ x.length (Nat.le_refl _) (by unfold maxLen; omega) (by rw [size_madeCells]; omega), fun i hi => absurd hi (by simp)⟩
  have HB0 : Hid (Below w.heap.size w (w.alloc (.cells (madeCells #[.slice none 0 0] x.length) 22))) := alloc_keep _ _
  go_enter Try.func26, Try.ntmps26
  go_wp2
  go_loopw [5, 13, 7] (fun s i _ wr => ∃ k : Nat, k ≤ x.length ∧ i = .int .i64 k ∧ Rws w.heap.size 22 3 wr s (pks P [] (x.take k)) ∧ Below w.heap.size w wr) (fun _ i _ _ => x.length - (intOf i).toNat)
  case atStart => exact ⟨0, Nat.zero_le _, rfl, HO0.out, HB0.out⟩
  case round =>
    obtain ⟨k, hk, rfl, hr, hb⟩ := hrel
    have HR : Hid (Rws w.heap.size 22 3 wr u5 (pks P [] (x.take k))) := hr
    have HB : Hid (Below w.heap.size w wr) := hb
    have hsz : w.heap.size ≤ wr.heap.size := hb.size
    clear hr hb
    by_cases hlt : k < x.length
    · obtain ⟨b, o, cp, hs, hc1, hcc⟩ := sl_cell (HU.out.below HB.out (Nat.le_refl _)) hlt
      simp only [Value.slice.injEq] at hs
      obtain ⟨rfl, _, rfl⟩ := hs
      obtain ⟨hx0, hx1⟩ := HX.out k hlt
      have HSN : Hid (pks P [] (x.take (k + 1)) = pks P [] (x.take k) ++ [P.getD (x.getD k 0).toNat []]) := pkd_snoc P x k hlt
      have HLN : Hid ((pks P [] (x.take k)).length = k) := by show _ = _; simp [pks]; omega
      obtain ⟨q, hq⟩ : ∃ q : Nat, x.getD k 0 = (q : Int) := ⟨(x.getD k 0).toNat, by omega⟩
      rw [hq] at hcc hx0 hx1 HSN
      rw [show ((q : Int)).toNat = q by omega] at HSN
      clear hq
      have hqP : q < P.length := by omega
      obtain ⟨b2, o2, cp2, r2, hs2, _, hcc2, hr2⟩ := mat_cell (HV.out.below HB.out (Nat.le_refl _)) hqP
      simp only [Value.slice.injEq, true_and] at hs2
      obtain ⟨rfl, rfl⟩ := hs2
      obtain ⟨ro, rc, hrv, _, _⟩ := sl_open hr2
      subst hrv
      have HR2 : Hid (Sl w.heap.size 3 wr (.slice ro (P.getD q []).length rc) (ints (P.getD q []))) := hr2
      clear hr2
      generalize P.getD q [] = y at *
      generalize hyl : y.length = yl at *
      clear hyl
      obtain ⟨vs, g1, g2, g3⟩ := HR.out
      have hlen := HLN.out
      rw [hlen] at g1 g2 g3
      have G1 : Hid (vs.length = k) := g1
      have G2 : Hid (wr.ownsRow w.heap.size 22 1 u5 k vs) := g2
      have G3 : Hid (∀ i, i < k → Sl w.heap.size 3 wr (vs.getD i (.slice none 0 0)) (ints ((pks P [] (x.take k)).getD i []))) := g3
      clear g1 g2 g3 hlen
      go_wp2_with (first | (at_builtin; refine wpList_append_own _ rfl _ _ 26 rfl w.heap.size 22 i0 (.slice none 0 0) 1 24 Try.underlying26 hi hz0 hz1 hz2 rfl (by decide) _ _ _ rfl (G2.out.alloc _) ⟨wr.heap.size, 0, none⟩ 1 1 [.slice ro yl rc] rfl rfl (one_new _ _ _) (one_slice _ _ _) ?d3 ?d4 ?d5 ?_))
      case d3 => unfold maxLen; omega
      case d4 => omega
      case d5 => simp; omega
      intro v' w3 ho hg _
      have R1 : Hid (Rws w.heap.size 22 3 w3 v' (pks P [] (x.take (k + 1)))) := by
        have hp := Rws.push (e2 := 22) (e1 := 3) (m := pks P [] (x.take k)) (u := .slice ro yl rc) (zs := y) (by decide) (by rw [HLN.out]; exact G1.out) (by rw [HLN.out]; exact G2.out.alloc _)
          (fun i hi => (G3.out i (by rw [HLN.out] at hi; exact hi)).alloc _) (HR2.out.alloc _) (by rw [HLN.out]; exact ho) hg
        rw [← HSN.out] at hp
        exact hp
      have R2 : Hid (Below w.heap.size w w3) := (HB.out.alloc hsz _).grown hg (by simp; omega) (fun x hx => (G2.out.lt x hx).1)
      clear ho hg
      go_wp2
      go_roundw
      case rel => exact ⟨k + 1, by omega, by go_num, R1.out, R2.out⟩
      case measure => simp [intOf]; omega
    · have hke : x.take k = x := List.take_of_length_le (by omega)
      have HR' : Hid (Rws w.heap.size 22 3 wr u5 (pks P [] x)) := by have := HR.out; rw [hke] at this; exact this
      clear HR
      go_wp2
      go_ret
      exact ⟨_, rfl, HR'.out, HB.out⟩
end Go.Proofs.Ytmljnfgfjcjmmaa

/- cone.wayBy, walked. -/
namespace Go.Proofs.Ytmljnfgfjcjmmaa
open Go.RowKit
attribute [local go_sem ↓] Go.wp_at_zero Go.wp_at_succ

def isC (w : World) (b : Nat) : Prop := ∃ cur t, w.heap[b]? = some (.cells cur t (0, 0))

theorem isC.lt {w : World} {b : Nat} (h : isC w b) : b < w.heap.size := by
  obtain ⟨c, t, h⟩ := h
  exact (Array.getElem?_eq_some_iff.1 h).1

theorem isC.keep {w w' : World} {b : Nat} (h : isC w b) (hk : w'.heap[b]? = w.heap[b]?) : isC w' b := by
  obtain ⟨c, t, h⟩ := h
  exact ⟨c, t, hk.trans h⟩

/-- What a way is told as. -/
def WayV (N : Nat) (w : World) (tv u : Value) (c g : List Int) (rs : List (List Int)) : Prop :=
  (wayB g rs = true ∧ ∃ mo mc, tv = .agg #[u, .slice mo c.length mc, .int .i64 ((wayN g rs).getD c.length 0)] ∧ Sl 0 3 w (.slice mo c.length mc) (ints ((wayN g rs).take c.length)) ∧ ∀ a, mo = some a → N ≤ a.block ∧ isC w a.block) ∨
  (wayB g rs = false ∧ tv = .agg #[.slice none 0 0, .slice none 0 0, .int .i64 0])

theorem set3_block {w : World} {R k : Nat} (a b c : Value) (h : k ≠ R) : (((w.setCell ⟨R, 0, none⟩ a).setCell ⟨R, 1, none⟩ b).setCell ⟨R, 2, none⟩ c).drew.heap[k]? = w.heap[k]? := by
  show (((w.setCell ⟨R, 0, none⟩ a).setCell ⟨R, 1, none⟩ b).setCell ⟨R, 2, none⟩ c).heap[k]? = w.heap[k]?
  rw [Below.heap_setCell _ _ _ _ h, Below.heap_setCell _ _ _ _ h, Below.heap_setCell _ _ _ _ h]

set_option maxRecDepth 100000 in
set_option maxHeartbeats 4000000 in
theorem wayBy_any (B : Nat) (rows : List (List Int)) (c g : List Int) (v u x : Value) (w : World) (hv : Mat B 22 3 w v rows) (hu : Sl B 3 w u (ints c)) (hx : Sl B 3 w x (ints g))
    (hc : ∀ t, t < c.length → 0 ≤ c.getD t 0 ∧ c.getD t 0 < rows.length) (hr : ∀ r ∈ rows, g.length ≤ r.length ∧ ∀ z ∈ r, z.natAbs ≤ 60) (hg : ∀ z ∈ g, z.natAbs ≤ 60) (hg1 : 1 ≤ g.length) (hg5 : g.length ≤ 5) (hc4 : c.length ≤ 4) :
    Calls Try.prog 91 #[v, u, x] w fun e w' => ∃ tv, e = .returned (.tuple #[tv, .bool (wayB g (pks rows [] c))]) ∧ WayV w.heap.size w' tv u c g (pks rows [] c) ∧ Below w.heap.size w w' := by
  obtain ⟨ao, cap, hvv, hlc, hcm⟩ := mat_open hv
  obtain ⟨bo, cbp, huu, hlb, hcb⟩ := sl_open hu
  obtain ⟨xo, cxp, hxx, hlx, hcx⟩ := sl_open hx
  subst hvv huu hxx
  have HC : Hid (∀ t, t < c.length → 0 ≤ c.getD t 0 ∧ c.getD t 0 < rows.length) := hc
  have HR : Hid (∀ r ∈ rows, g.length ≤ r.length ∧ ∀ z ∈ r, z.natAbs ≤ 60) := hr
  have HG : Hid (∀ z ∈ g, z.natAbs ≤ 60) := hg
  obtain ⟨W0, hW0⟩ : ∃ W0, W0 = w.alloc (.cells #[.slice none 0 0, .slice none 0 0, .int .i64 0] 117) := ⟨_, rfl⟩
  have hs0 : W0.heap.size = w.heap.size + 1 := by rw [hW0]; simp
  have HB0 : Hid (Below w.heap.size w W0) := by rw [hW0]; exact alloc_keep _ _
  have HK0 : Hid (W0.heap[w.heap.size]? = some (.cells #[.slice none 0 0, .slice none 0 0, .int .i64 0] 117 (0, 0))) := by rw [hW0]; exact alloc_new _ _
  have hpl : (pks rows [] c).length = c.length := by simp [pks]
  have hin : ∀ r ∈ pks rows [] c, g.length ≤ r.length ∧ ∀ z ∈ r, z.natAbs ≤ 60 := fun r hr => by
    simp only [pks, List.mem_map] at hr
    obtain ⟨i, hi, rfl⟩ := hr
    obtain ⟨t, ht, rfl⟩ := List.getElem_of_mem hi
    have h1 := HC.out t ht
    rw [List.getD_eq_getElem?_getD, List.getElem?_eq_getElem ht] at h1
    simp only [Option.getD_some] at h1
    exact HR.out _ (by rw [List.getD_eq_getElem?_getD, List.getElem?_eq_getElem (by omega)]; exact List.getElem_mem _)
  have HPK : Hid (Calls Try.prog 26 #[.slice ao rows.length cap, .slice bo c.length cbp] W0 fun e w' => ∃ po pc, e = .returned (.slice po c.length pc) ∧ Mat W0.heap.size 22 3 w' (.slice po c.length pc) (pks rows [] c) ∧ Below W0.heap.size W0 w') := by
    refine (pickedK_any B rows c _ _ W0 (hv.below HB0.out (Nat.le_refl _)) (hu.below HB0.out (Nat.le_refl _)) hc (by omega)).mono ?_
    rintro e w' ⟨z, rfl, h1, h2⟩
    have hm := h1.mat (B' := W0.heap.size) (Nat.le_refl _)
    obtain ⟨po, pc, hz, _, _⟩ := mat_open hm
    rw [hpl] at hz
    subst hz
    exact ⟨po, pc, rfl, hm, h2⟩
  have HAC : Hid (∀ w1 po pc, Mat W0.heap.size 22 3 w1 (.slice po c.length pc) (pks rows [] c) → Below W0.heap.size W0 w1 → Calls Try.prog 94 #[.slice po c.length pc, .slice xo g.length cxp] w1 fun e w' => ∃ f, e = .returned (.slice (some ⟨w1.heap.size, 0, none⟩) g.length g.length) ∧ Ac w1 w1.heap.size g.length g.length (acrL g (pks rows [] c)) f w') := fun w1 po pc h1 h2 =>
    across_any (max B W0.heap.size) (pks rows [] c) g _ _ w1 (h1.more (Nat.le_max_right _ _)) (((hx.below HB0.out (Nat.le_refl _)).below h2 (Nat.le_refl _)).more (Nat.le_max_left _ _)) hin hg hg5 (by omega)
  have HIN : Hid (∀ r ∈ pks rows [] c, g.length ≤ r.length ∧ ∀ z ∈ r, z.natAbs ≤ 60) := hin
  have HW0 : Hid (W0 = w.alloc (.cells #[.slice none 0 0, .slice none 0 0, .int .i64 0] 117)) := hW0
  have HPL : Hid ((pks rows [] c).length = c.length) := hpl
  clear hW0 hv hu hx hc hr hg hin hpl
  go_enter Try.func91, Try.ntmps91
  go_wp2_with fail
  rw [← HW0.out]
  refine HPK.out.mono ?_
  rintro e w1 ⟨po, pc, rfl, hm1, hb1⟩
  have HB1 : Hid (Below W0.heap.size W0 w1) := hb1
  have HAX : Hid (Calls Try.prog 94 #[.slice po c.length pc, .slice xo g.length cxp] w1 fun e w' => ∃ f, e = .returned (.slice (some ⟨w1.heap.size, 0, none⟩) g.length g.length) ∧ Ac w1 w1.heap.size g.length g.length (acrL g (pks rows [] c)) f w') := HAC.out w1 po pc hm1 hb1
  clear hm1 hb1 HPK HAC
  go_wp2_with fail
  refine HAX.out.mono ?_
  rintro e wa ⟨f, rfl, ha⟩
  have HA : Hid (Ac w1 w1.heap.size g.length g.length (acrL g (pks rows [] c)) f wa) := ha
  have HBA : Hid (Below w.heap.size w wa) := HB0.out.trans ((HB1.out.mono (by omega)).trans (ha.bel.mono (by have := HB1.out.size; omega)))
  have HS1 : Hid (w.heap.size + 1 ≤ w1.heap.size) := by have := HB1.out.size; show _ ≤ _; omega
  clear ha HAX
  have hpl : (pks rows [] c).length = c.length := HPL.out
  have HMX : Hid (Mx (c.length + 1) 60 (acrL g (pks rows [] c))) := by
    rw [← hpl]
    exact acrL_mx (fun r hr z hz => (HIN.out r hr).2 z hz) HG.out (by omega)
  have HML : Hid ((acrL g (pks rows [] c)).length = g.length) := by show _ = _; simp [acrL]
  have HNC : Hid (Calls Try.prog 93 #[.slice (some ⟨w1.heap.size, 0, none⟩) g.length g.length, .int .i64 ((c.length : Int) + 1)] wa fun e w' => ∃ x, e = .returned (.tuple #[x, .bool (normB (c.length + 1) (acrL g (pks rows [] c)))]) ∧ w'.ownsRow wa.heap.size 3 1 x (wayN g (pks rows [] c)).length (ints (wayN g (pks rows [] c))) ∧ Below wa.heap.size wa w') := by
    have h := normalP_own 0 (c.length + 1) (acrL g (pks rows [] c)) _ wa HMX.out (HA.out.mat (B := 0) hg5) (by rw [HML.out]; omega) (by rw [HML.out]; omega)
    unfold wayN
    rw [hpl]
    exact h
  clear hpl
  have hwB : Hid (wayB g (pks rows [] c) = (normB (c.length + 1) (acrL g (pks rows [] c)) && !(wayN g (pks rows [] c)).any lowB)) := by
    show _ = _
    unfold wayB
    rw [HPL.out]
  have HWL : Hid (normB (c.length + 1) (acrL g (pks rows [] c)) = true → (wayN g (pks rows [] c)).length = c.length + 1) := fun h => by
    unfold wayN
    rw [HPL.out]
    unfold normL
    rw [if_pos (by simpa [normB] using h), upr_len, low_len]
    simp [muL]
  have hc1 : (c.length : Int) + 1 ≤ 5 := by omega
  go_wp2_with fail
  refine HNC.out.mono ?_
  rintro e w2 ⟨tx, rfl, hown, hb2⟩
  obtain ⟨to, tc, htv⟩ := owns_form hown
  subst htv
  have HT : Hid (Sl 0 3 w2 (.slice to (wayN g (pks rows [] c)).length tc) (ints (wayN g (pks rows [] c)))) := Sl.own hown
  have HTB : Hid (∀ a, to = some a → w.heap.size + 1 ≤ a.block ∧ isC w2 a.block) := fun a ha => by
    have h0 := HA.out.lt
    rcases hown.2 with ⟨h1, h2⟩ | ⟨g', cap', cur', h1, h2, h3, _⟩
    · simp only [Value.slice.injEq] at h1; rw [h1.1] at ha; cases ha
    · simp only [Value.slice.injEq] at h1; rw [h1.1] at ha; cases ha; exact ⟨by have := HS1.out; show w.heap.size + 1 ≤ g'; omega, _, _, h3⟩
  have HB2 : Hid (Below w.heap.size w w2) := HBA.out.trans (hb2.mono HBA.out.size)
  have HK2 : Hid (w2.heap[w.heap.size]? = some (.cells #[.slice none 0 0, .slice none 0 0, .int .i64 0] 117 (0, 0))) :=
    (hb2.block _ (by have := HA.out.lt; have := HS1.out; omega)).trans ((HA.out.bel.block _ (by have := HS1.out; omega)).trans ((HB1.out.block _ (by omega)).trans HK0.out))
  obtain ⟨nl, hnl⟩ : ∃ nl, nl = wayN g (pks rows [] c) := ⟨_, rfl⟩
  have HNL : Hid (nl = wayN g (pks rows [] c)) := hnl
  rw [← hnl] at HT ⊢
  rw [← hnl] at hwB HWL
  obtain ⟨nb, hnb⟩ : ∃ nb, nb = normB (c.length + 1) (acrL g (pks rows [] c)) := ⟨_, rfl⟩
  rw [← hnb] at hwB HWL ⊢
  clear hown hb2 hnl HNC hnb
  have k0 : w2.cell? ⟨w.heap.size, 0, none⟩ = some (.slice none 0 0) := by simp [World.cell?, HK2.out]
  have k1 : w2.cell? ⟨w.heap.size, 1, none⟩ = some (.slice none 0 0) := by simp [World.cell?, HK2.out]
  have k2 : w2.cell? ⟨w.heap.size, 2, none⟩ = some (.int .i64 0) := by simp [World.cell?, HK2.out]
  have f0 : w2.frozen? ⟨w.heap.size, 0, none⟩ = false := by simp [World.frozen?, HK2.out]
  have f1 : w2.frozen? ⟨w.heap.size, 1, none⟩ = false := by simp [World.frozen?, HK2.out]
  have f2 : w2.frozen? ⟨w.heap.size, 2, none⟩ = false := by simp [World.frozen?, HK2.out]
  have HBF : Hid (∀ a b d : Value, Below w.heap.size w (((w2.setCell ⟨w.heap.size, 0, none⟩ a).setCell ⟨w.heap.size, 1, none⟩ b).setCell ⟨w.heap.size, 2, none⟩ d)) := fun a b d =>
    ((HB2.out.setCell (p := ⟨w.heap.size, 0, none⟩) (Nat.le_refl _) _).setCell (p := ⟨w.heap.size, 1, none⟩) (Nat.le_refl _) _).setCell (p := ⟨w.heap.size, 2, none⟩) (Nat.le_refl _) _
  cases nb with
  | false =>
    have HWF : Hid (wayB g (pks rows [] c) = false) := by show _ = _; rw [hwB.out]; rfl
    go_wp2
    refine bodyPost_ret (v := .tuple #[.agg #[.slice none 0 0, .slice none 0 0, .int .i64 0], .bool false]) (by simp [results, Try.results91, go_sem, *]) rfl ?_
    exact ⟨_, by rw [HWF.out], .inr ⟨HWF.out, rfl⟩, HBF.out _ _ _⟩
  | true =>
    have hnl := HWL.out rfl
    obtain ⟨tb, too, tcp, hts, htc, htcell⟩ := sl_cell HT.out (k := c.length) (by omega)
    simp only [Value.slice.injEq] at hts
    obtain ⟨rfl, _, rfl⟩ := hts
    have HCF : Hid (Calls Try.prog 95 #[.slice (some ⟨tb, too, none⟩) nl.length tc] w2 fun e w' => ∃ mm : Int, e = .returned (.int .i64 mm) ∧ decide (mm ≤ 0) = nl.any lowB ∧ w' = w2) := minS_any 0 nl _ w2 HT.out (by omega)
    have HCT : Hid (Sl 0 3 w2 (.slice (some ⟨tb, too, none⟩) c.length c.length) (ints (nl.take c.length))) := Sl.cut HT.out (by omega)
    obtain ⟨ab, hab⟩ : ∃ ab, ab = nl.any lowB := ⟨_, rfl⟩
    rw [← hab] at hwB HCF
    obtain ⟨ul, hul⟩ : ∃ ul, ul = nl.getD c.length 0 := ⟨_, rfl⟩
    have HUL : Hid (ul = (wayN g (pks rows [] c)).getD c.length 0) := by rw [← HNL.out]; exact hul
    rw [← hul] at htcell
    have HLT : Hid (nl.take c.length = (wayN g (pks rows [] c)).take c.length) := by show _ = _; rw [← HNL.out]
    have hcI1 : (c.length : Int) ≤ (tc : Int) := by omega
    rw [hnl]
    rw [hnl] at HCF
    clear hab hul HT hnl
    cases ab with
    | true =>
      have HWF : Hid (wayB g (pks rows [] c) = false) := by show _ = _; rw [hwB.out]; rfl
      go_wp2_with (go_at_call 95; refine HCF.out.mono ?_; rintro e w' ⟨mm, rfl, hmm, rfl⟩)
      refine bodyPost_ret (v := .tuple #[.agg #[.slice none 0 0, .slice none 0 0, .int .i64 0], .bool false]) (by simp [results, Try.results91, go_sem, *]) rfl ?_
      exact ⟨_, by rw [HWF.out], .inr ⟨HWF.out, rfl⟩, HBF.out _ _ _⟩
    | false =>
      have HWT : Hid (wayB g (pks rows [] c) = true) := by show _ = _; rw [hwB.out]; rfl
      have hcI0 : (0 : Int) ≤ (c.length : Int) := by omega
      have hcI2 : (c.length : Int) < ((c.length + 1 : Nat) : Int) := by omega
      go_wp2_with (go_at_call 95; refine HCF.out.mono ?_; rintro e w' ⟨mm, rfl, hmm, rfl⟩)
      go_region
      have HFN : Hid (Sl 0 3 (((w'.setCell ⟨w.heap.size, 0, none⟩ (.slice bo c.length cbp)).setCell ⟨w.heap.size, 1, none⟩ (.slice (some ⟨tb, too, none⟩) c.length c.length)).setCell ⟨w.heap.size, 2, none⟩ (.int .i64 ul)).drew (.slice (some ⟨tb, too, none⟩) c.length c.length) (ints ((wayN g (pks rows [] c)).take c.length))) := by
        rw [← HLT.out]
        exact sl_set3 HCT.out HK2.out (by decide) _ _ _
      go_wp2
      refine bodyPost_ret (v := .tuple #[.agg #[.slice bo c.length cbp, .slice (some ⟨tb, too, none⟩) c.length c.length, .int .i64 ul], .bool true]) (by simp [results, Try.results91, go_sem, *]) rfl ?_
      exact ⟨_, by rw [HWT.out], .inl ⟨HWT.out, _, _, by rw [← HUL.out], HFN.out, fun a ha => ⟨Nat.le_of_succ_le (HTB.out a ha).1, (HTB.out a ha).2.keep (set3_block _ _ _ (by have := (HTB.out a ha).1; omega))⟩⟩, (HBF.out _ _ _).drew⟩

end Go.Proofs.Ytmljnfgfjcjmmaa
