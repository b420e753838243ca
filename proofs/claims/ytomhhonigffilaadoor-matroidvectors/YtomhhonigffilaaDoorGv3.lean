/- matroid.standAlone. -/
import Derived.Test.YtomhhonigffilaaDoorGv2
import Derived.Test.YtomhhonigffilaaDoorOm0
import Derived.Test.YtomhhonigffilaaDoorRun1
namespace Go.Proofs.YtomhhonigffilaaDoor
open Go.RowKit
attribute [local go_sem ↓] Go.wp_at_zero Go.wp_at_succ

theorem clr_clp {p : Int} {d pl : Nat} {R x : List Int} (hx : x.length = d) (hpl : pl < d) (hR : ¬ p ∣ R.getD pl 0) : Clp p d pl R x (clrR p pl R x) := by
  refine ⟨⟨R.getD pl 0, p - x.getD pl 0, hR, fun c hc => ?_⟩, ?_⟩
  · rw [clrR_get (by omega)]
    unfold clrE
    have h := Int.mul_ediv_add_emod (R.getD pl 0 * x.getD c 0 + (p - x.getD pl 0) * R.getD c 0) p
    exact ⟨-((R.getD pl 0 * x.getD c 0 + (p - x.getD pl 0) * R.getD c 0) / p), by grind⟩
  · rw [clrR_get (by omega)]
    unfold clrE
    rw [show R.getD pl 0 * x.getD pl 0 + (p - x.getD pl 0) * R.getD pl 0 = p * R.getD pl 0 by grind, Int.mul_emod_right]
    exact Int.dvd_zero _

/-- What the inner loop has done. -/
def ClS (p : Int) (pl i j : Nat) (M M2 : List (List Int)) : Prop := ∀ q, q < M.length → M2.getD q [] = if i < q ∧ q < i + 1 + j then clrR p pl (M.getD i []) (M.getD q []) else M.getD q []

theorem clS_dpn {p d pl i : Nat} {M M2 : List (List Int)} (hp : Prm (p : Int)) (hi : i < M.length) (hl : M2.length = M.length) (hM : ∀ q, q < M.length → (M.getD q []).length = d) (hpl : pl < d) (hR : ¬ (p : Int) ∣ (M.getD i []).getD pl 0) (h : ClS p pl i (M.length - (i + 1)) M M2) : dpB p d (M.drop i) = dpB p d (M2.drop (i + 1)) := by
  have e1 : M.drop i = M.getD i [] :: M.drop (i + 1) := by
    rw [List.drop_eq_getElem_cons hi]
    simp [hi]
  have hc : Clr (p : Int) d pl (M.getD i []) (M.drop (i + 1)) (M2.drop (i + 1)) := by
    refine clr_get _ _ (by simp [hl]) fun q hq => ?_
    have hq' : i + 1 + q < M.length := by simp at hq; omega
    have e2 : (M.drop (i + 1)).getD q [] = M.getD (i + 1 + q) [] := by simp
    have e3 : (M2.drop (i + 1)).getD q [] = M2.getD (i + 1 + q) [] := by simp
    rw [e2, e3, h _ hq', if_pos ⟨by omega, by omega⟩]
    exact clr_clp (hM _ hq') hpl hR
  have h1 := dpn_step hp hpl hR hc
  rw [e1]
  by_cases c : Dpn p d (M2.drop (i + 1))
  · rw [dpB_true.2 c, dpB_true.2 (h1.2 c)]
  · rw [dpB_false.2 c, dpB_false.2 (fun h => c (h1.1 h))]

theorem clS_rp {p d pl i j : Nat} {M M2 : List (List Int)} (hp : 1 ≤ p) (hl : M2.length = M.length) (hM : Rp d p M) (h : ClS p pl i j M M2) : Rp d p M2 := fun r hr => by
  obtain ⟨q, hq, rfl⟩ := List.getElem_of_mem hr
  have e := h q (by omega)
  rw [show M2.getD q [] = M2[q] by simp [hq]] at e
  rw [e]
  have hx := hM (M.getD q []) (by simp [show q < M.length by omega])
  by_cases c : i < q ∧ q < i + 1 + j
  · rw [if_pos c]
    refine ⟨by rw [clrR_len]; exact hx.1, fun z hz => ?_⟩
    unfold clrR at hz
    obtain ⟨t, _, rfl⟩ := List.mem_map.1 hz
    unfold clrE
    exact ⟨Int.emod_nonneg _ (by omega), Int.emod_lt_of_pos _ (by omega)⟩
  · rw [if_neg c]
    exact hx

theorem clS_next {p : Int} {pl i j : Nat} {M M2 : List (List Int)} (hl : M2.length = M.length) (hq : i + 1 + j < M.length) (h : ClS p pl i j M M2) : ClS p pl i (j + 1) M (M2.set (i + 1 + j) (clrR p pl (M.getD i []) (M.getD (i + 1 + j) []))) := fun q hqm => by
  by_cases e : q = i + 1 + j
  · subst e
    rw [if_pos ⟨by omega, by omega⟩]
    simp [show i + 1 + j < M2.length by omega]
  · rw [show (M2.set (i + 1 + j) (clrR p pl (M.getD i []) (M.getD (i + 1 + j) []))).getD q [] = M2.getD q [] by simp [List.getD_eq_getElem?_getD, List.getElem?_set_ne (Ne.symm e)]]
    rw [h q hqm]
    by_cases c : i < q ∧ q < i + 1 + j
    · rw [if_pos c, if_pos ⟨c.1, by omega⟩]
    · rw [if_neg c, if_neg (by omega)]

theorem getD_mem {l : List Int} {j : Nat} (h : j < l.length) : l.getD j 0 ∈ l := by simp [h]

theorem nz_none {p : Int} {d : Nat} {r : List Int} (hl : r.length = d) (h : r.any nzF = false) : ∀ k, k < d → p ∣ r.getD k 0 := fun k hk => by
  have := List.any_eq_false.1 h (r.getD k 0) (by simp [show k < r.length by omega])
  unfold nzF at this
  have e : r.getD k 0 = 0 := by simpa using this
  rw [e]; exact Int.dvd_zero _

theorem nz_some {d : Nat} {r : List Int} (hl : r.length = d) (h : r.any nzF = true) : ∃ pl : Nat, findI nzF r = (pl : Int) ∧ pl < d ∧ r.getD pl 0 ≠ 0 := by
  have h1 : r.findIdx nzF < r.length := by
    rw [List.findIdx_lt_length]
    obtain ⟨x, hx, hx2⟩ := List.any_eq_true.1 h
    exact ⟨x, hx, hx2⟩
  refine ⟨r.findIdx nzF, by unfold findI; rw [if_pos h], by omega, ?_⟩
  have h2 := List.findIdx_getElem (w := h1)
  generalize r.findIdx nzF = q at *
  unfold nzF at h2
  have : r[q] ≠ 0 := by simpa using h2
  simpa [h1] using this

theorem run_tailM {G n xc i : Nat} (h1 : i < n) (h2 : n ≤ xc) : ∃ so, (i + 1 < n → so = i + 1) ∧ ∀ w : World, (Instr.slice 22 (.slice (some ⟨G, 0, none⟩) n xc) (some (.int .i64 ((i : Int) + 1))) none none).run Tryd.prog w = .ok (.slice (some ⟨G, so, none⟩) (n - (i + 1)) (xc - (i + 1))) w := by
  have e1 : (0 : Int) ≤ (i : Int) + 1 ∧ (i : Int) + 1 ≤ (n : Int) := by omega
  have e2 : ((i : Int) + 1).toNat = i + 1 := by omega
  have hz : ∀ w, (Go.sizeOf 26).run Tryd.prog w = .ok 1 w := fun w => by kernel_rfl
  by_cases e3 : xc = i + 1
  · refine ⟨0, by omega, fun w => ?_⟩
    simp [Instr.slice, Instr.sliceBounds, Instr.sliceBound, run_underlying Tryd.underlying22, asIntOf, e1, e2, e3, go_sem]
  · refine ⟨i + 1, fun _ => rfl, fun w => ?_⟩
    simp [Instr.slice, Instr.sliceBounds, Instr.sliceBound, run_underlying Tryd.underlying22, asIntOf, e1, e2, e3, hz, Addr.add, go_sem]

set_option maxRecDepth 100000 in
set_option maxHeartbeats 1600000 in
theorem standAlone_any (p d B : Nat) (hp : p = 2 ∨ p = 3 ∨ p = 5 ∨ p = 7) (hd1 : 1 ≤ d) (hd : d ≤ 8) (m : List (List Int)) (v : Value) (w : World) (hm : m.length ≤ 8) (hr : Rp d p m) (hv : Mat B 26 3 w v m) :
    Calls Tryd.prog 16 #[.int .i64 p, v] w fun e w' => e = .returned (.bool (!dpB p d m)) ∧ Below w.heap.size w w' := by
  obtain ⟨i0, hi0, hz0, hz1, hz2⟩ := info_parts infoRow
  have HPM : Hid (Prm (p : Int)) := prm4 hp
  have hp1 : 1 ≤ p := by omega
  have hp7 : p ≤ 7 := by omega
  obtain ⟨ao, cap, hvv, hlc, hcm⟩ := mat_open hv
  subst hvv
  have HV : Hid (Mat B 26 3 w (.slice ao m.length cap) m) := hv
  have HRP : Hid (Rp d p m) := hr
  clear hv hr hp
  go_enter Tryd.func16, Tryd.ntmps16
  go_wp2
  go_loopw [5, 7, 15] (fun rv _ x wr => ∃ (k : Nat) (g c : Nat → Nat), k ≤ m.length ∧ x = .int .i64 k ∧ OM w.heap.size g c k d wr rv (m.take k) ∧ Below w.heap.size w wr) (fun _ _ x _ => m.length - (intOf x).toNat)
  case atStart => exact ⟨0, fun _ => 0, fun _ => 0, Nat.zero_le _, rfl, OM.nil _ _ _ _ _, Below.refl _ _⟩
  case round =>
    obtain ⟨k, g, c, hk, rfl, hom, hbr⟩ := hrel
    have HOM : Hid (OM w.heap.size g c k d wr u5 (m.take k)) := hom
    have HBR : Hid (Below w.heap.size w wr) := hbr
    have hsz : w.heap.size ≤ wr.heap.size := hbr.size
    clear hom hbr
    by_cases hlt : k < m.length
    · obtain ⟨b, o, cp, r2, hs, _, hcc, hr2⟩ := mat_cell (HV.out.below HBR.out (Nat.le_refl _)) hlt
      simp only [Value.slice.injEq] at hs
      obtain ⟨rfl, -, -⟩ := hs
      obtain ⟨ro, rc, hrv, _, _⟩ := sl_open hr2
      have hrl := HRP.out (m.getD k []) (by simp [hlt])
      rw [hrl.1] at hrv
      subst hrv
      have HCL : Hid (Calls Tryd.prog 25 #[.slice ro d rc] wr fun e w' => ∃ u, e = .returned u ∧ w'.ownsRow wr.heap.size 3 1 u d (ints (m.getD k [])) ∧ Below wr.heap.size wr w') := by
        have h := clone_any B (m.getD k []) (.slice ro d rc) wr hr2 (by omega)
        rw [hrl.1] at h
        exact h
      have HRL : Hid ((m.getD k []).length = d) := hrl.1
      have HTK : Hid (m.take (k + 1) = m.take k ++ [m.getD k []]) := by
        show _ = _
        rw [List.take_succ_eq_append_getElem hlt]; simp [hlt]
      have kI : (k : Int) < (m.length : Int) := by omega
      have kI0 : (0 : Int) ≤ (k : Int) := by omega
      obtain ⟨xo, xc, hxv⟩ := owns_form HOM.out.out
      subst hxv
      clear hr2 hrl
      go_wp2_with fail
      refine HCL.out.mono ?_
      rintro e w5 ⟨u, rfl, hou, hb5⟩
      obtain ⟨gk, gc, cur, hug, hgw, _⟩ : ∃ gk gc cur, u = .slice (some ⟨gk, 0, none⟩) d gc ∧ wr.heap.size ≤ gk ∧ w5.heap[gk]? = some (.cells cur 3 (0, 0)) := by
        rcases hou.2 with ⟨_, h0⟩ | ⟨g, cap, cur, h1, h2, h3, _⟩
        · omega
        · exact ⟨g, cap, cur, h1, h2, h3⟩
      subst hug
      have HO5 : Hid (w5.ownsRow wr.heap.size 3 1 (.slice (some ⟨gk, 0, none⟩) d gc) d (ints (m.getD k []))) := hou
      have HB5 : Hid (Below wr.heap.size wr w5) := hb5
      have HG5 : Hid (w5.ownsRow w.heap.size 26 1 (.slice xo k xc) k (rowsV g c d k)) := owns_below HOM.out.out hb5 (Nat.le_refl _)
      have hs5 : w.heap.size ≤ w5.heap.size := Nat.le_trans hsz hb5.size
      clear hou hb5 HCL hcc
      go_wp2_with (first | (at_builtin; refine wpList_append_own _ rfl _ _ 22 rfl w.heap.size 26 i0 (.slice none 0 0) 1 24 Tryd.underlying22 hi0 hz0 hz1 hz2 rfl (by decide) _ _ _ rfl (HG5.out.alloc _) ⟨w5.heap.size, 0, none⟩ 1 1 [.slice (some ⟨gk, 0, none⟩) d gc] rfl rfl (one_new _ _ _) (one_slice _ _ _) ?c3 ?c4 ?c5 ?_))
      case c3 => unfold maxLen; omega
      case c4 => omega
      case c5 => first | exact hs5 | (simp; omega)
      intro v' w7 ho7 hg7 _
      have HM7 : Hid (OM w.heap.size (updN g k gk) (updN c k gc) (k + 1) d w7 v' (m.take (k + 1))) := by
        rw [HTK.out]
        exact HOM.out.push hsz HRL.out HO5.out HB5.out ho7 hg7
      have HB7 : Hid (Below w.heap.size w w7) := ((HBR.out.trans (HB5.out.mono hsz)).alloc hs5 _).grown hg7 (by simp; omega) (fun x hx => (HG5.out.lt x hx).1)
      clear ho7 hg7
      go_wp2
      go_roundw
      case rel => exact ⟨k + 1, _, _, by omega, by go_num, HM7.out, HB7.out⟩
      case measure => simp [intOf]; omega
    · have hke : m.take k = m := List.take_of_length_le (by omega)
      have hkm : k = m.length := by omega
      have HO0 : Hid (OM w.heap.size g c m.length d wr u5 m) := by
        have h := HOM.out
        rw [hke, hkm] at h
        exact h
      obtain ⟨n, hn⟩ : ∃ n, n = m.length := ⟨_, rfl⟩
      obtain ⟨xo, xc, hxv⟩ := owns_form HO0.out.out
      subst hxv
      have HNM : Hid (n = m.length) := hn
      rw [← hn] at HO0 hlt hk ⊢
      have hn8 : n ≤ 8 := by omega
      clear HOM hke hkm hn hk
      go_wp2
      go_loopw [8, 9, 10, 27] (fun _ _ _ x wq => ∃ (i : Nat) (M : List (List Int)), i ≤ n ∧ x = .int .i64 i ∧ OM w.heap.size g c n d wq (.slice xo n xc) M ∧ Rp d p M ∧ dpB p d m = dpB p d (M.drop i) ∧ Below w.heap.size w wq) (fun _ _ _ x _ => n - (intOf x).toNat)
      case atStart => exact ⟨0, m, Nat.zero_le _, rfl, HO0.out, HRP.out, rfl, HBR.out⟩
      case round =>
        obtain ⟨i, M, hi, rfl, hom, hrp, hdp, hbq⟩ := hrel
        have HMQ : Hid (OM w.heap.size g c n d wr (.slice xo n xc) M) := hom
        have HRQ : Hid (Rp d p M) := hrp
        have HDQ : Hid (dpB p d m = dpB p d (M.drop i)) := hdp
        have HBQ : Hid (Below w.heap.size w wr) := hbq
        clear hom hrp hdp hbq HO0 HBR
        by_cases hin : i < n
        · obtain ⟨G, cp', hxe, hG1, hG2, hG3, hG4⟩ := HMQ.out.form (by omega)
          simp only [Value.slice.injEq, true_and] at hxe
          obtain ⟨rfl, rfl⟩ := hxe
          have cG := HMQ.out.cellG hin
          have HIX : Hid (Calls Tryd.prog 26 #[.slice (some ⟨g i, 0, none⟩) d (c i), .func (.func 27) #[] #[]] wr fun e w' => e = .returned (.int .i64 (findI nzF (M.getD i []))) ∧ w' = wr) := indexZ_any 0 (M.getD i []) _ wr (Sl.own (HMQ.out.row i hin))
          have hRl : (M.getD i []).length = d := HMQ.out.len i hin
          have hML : M.length = n := HMQ.out.num
          have iI : (i : Int) < (n : Int) := by omega
          have iI0 : (0 : Int) ≤ (i : Int) := by omega
          by_cases hany : (M.getD i []).any nzF = true
          · obtain ⟨pl, hpl, hpd, hpz⟩ := nz_some hRl hany
            rw [hpl] at HIX
            have hRp := HRQ.out (M.getD i []) (by simp [show i < M.length by omega])
            have HRN : Hid (∀ j, j < d → ∃ z : Nat, (M.getD i []).getD j 0 = (z : Int) ∧ z < p) := fun j hj => by
              have h := hRp.2 ((M.getD i []).getD j 0) (getD_mem (by omega))
              exact ⟨((M.getD i []).getD j 0).toNat, by omega, by omega⟩
            have HND : Hid (¬ (p : Int) ∣ (M.getD i []).getD pl 0) := fun h => by
              obtain ⟨z, hz, hzp⟩ := HRN.out pl hpd
              exact hpz (zero_of_dvd h (by rw [hz]; omega) (by rw [hz]; omega))
            have HML : Hid (M.length = n) := hML
            have hwi : IntKind.i64.wrap ((i : Int) + 1) = (i : Int) + 1 := by rw [IntKind.wrap_i64]; omega
            clear hany hpl hRp hpz hRl hML
            go_wp2_with fail
            refine HIX.out.mono ?_
            rintro e w' ⟨rfl, hw⟩
            obtain rfl := hw.symm
            clear hw
            obtain ⟨so, hso, hsl⟩ := run_tailM (G := G) (n := n) (xc := xc) (i := i) hin hG3
            have HSO : Hid (i + 1 < n → so = i + 1) := hso
            clear hso
            obtain ⟨wq, hwq⟩ : ∃ wq, wq = wr := ⟨_, rfl⟩
            have HWQ : Hid (wq = wr) := hwq
            clear hwq
            go_wp2
            clear hsl cG
            go_loopw [12, 41] (fun _ x wy => ∃ (j : Nat) (M2 : List (List Int)), j ≤ n - (i + 1) ∧ x = .int .i64 j ∧ OM w.heap.size g c n d wy (.slice (some ⟨G, 0, none⟩) n xc) M2 ∧ ClS p pl i j M M2 ∧ Below w.heap.size w wy) (fun _ x _ => (n - (i + 1)) - (intOf x).toNat)
            case atStart => exact ⟨0, M, Nat.zero_le _, rfl, HMQ.out, fun q _ => by rw [if_neg (by omega)], HBQ.out⟩
            case round =>
              obtain ⟨j, M2, hj, rfl, hom2, hcl2, hby⟩ := hrel
              have HM2 : Hid (OM w.heap.size g c n d wr (.slice (some ⟨G, 0, none⟩) n xc) M2) := hom2
              have HC2 : Hid (ClS p pl i j M M2) := hcl2
              have HBY : Hid (Below w.heap.size w wr) := hby
              clear hom2 hcl2 hby HMQ HBQ HIX
              by_cases hjn : j < n - (i + 1)
              · obtain ⟨q, hq⟩ : ∃ q, q = i + 1 + j := ⟨_, rfl⟩
                have hqn : q < n := by omega
                have hsoe := HSO.out (by omega)
                have cQ := HM2.out.cellG hqn
                have cq2 : wr.cell? ⟨G, so + j, none⟩ = some (.slice (some ⟨g q, 0, none⟩) d (c q)) := by
                  rw [hsoe, ← hq]; exact cQ
                have hxq : M2.getD q [] = M.getD q [] := by rw [HC2.out q (by have := HML.out; omega), if_neg (by omega)]
                have hxi : M2.getD i [] = M.getD i [] := by rw [HC2.out i (by have := HML.out; omega), if_neg (by omega)]
                have hrq := HRQ.out (M.getD q []) (by simp [show q < M.length by have := HML.out; omega])
                have HCP : Hid (Calls Tryd.prog 28 #[.int .i64 p, .slice (some ⟨g q, 0, none⟩) d (c q), .slice (some ⟨g i, 0, none⟩) d (c i), .int .i64 pl] wr fun e w' => e = .returned (.tuple #[]) ∧ w'.ownsRow w.heap.size 3 1 (.slice (some ⟨g q, 0, none⟩) d (c q)) d (ints (clrR p pl (M.getD i []) (M.getD q []))) ∧ Onl (g q) wr w') := by
                  refine clearPlace_any p d w.heap.size pl (g q) (c q) (g i) 0 (c i) (M.getD q []) (M.getD i []) wr hp1 hp7 hpd hd hrq.1 hrq.2 HRN.out ?_ (fun t ht => ?_) (fun e => ?_)
                  · have := HM2.out.row q hqn
                    rw [hxq] at this
                    exact this
                  · have h1 := (HM2.out.row i hin).cellAt t (by omega)
                    rw [hxi, ints_get _ _ (by rw [← hxi, HM2.out.len i hin]; exact ht)] at h1
                    rw [Nat.zero_add]
                    exact h1
                  · have := HM2.out.apart i q hin hqn e
                    omega
                have HNX : Hid (∀ w', w'.ownsRow w.heap.size 3 1 (.slice (some ⟨g q, 0, none⟩) d (c q)) d (ints (clrR p pl (M.getD i []) (M.getD q []))) → Onl (g q) wr w' → OM w.heap.size g c n d w' (.slice (some ⟨G, 0, none⟩) n xc) (M2.set q (clrR p pl (M.getD i []) (M.getD q []))) ∧ ClS p pl i (j + 1) M (M2.set q (clrR p pl (M.getD i []) (M.getD q []))) ∧ Below w.heap.size w w') := fun w' ho hon => by
                  refine ⟨HM2.out.turn hqn (by rw [clrR_len]; exact hrq.1) ho hon.block, ?_, ?_⟩
                  · subst hq
                    exact clS_next (by rw [HM2.out.num, HML.out]) (by have := HML.out; omega) HC2.out
                  · have hgq := (HM2.out.row q hqn).lt (g q) rfl
                    exact ⟨hon.os.trans HBY.out.os, hon.tape.trans HBY.out.tape, hon.output.trans HBY.out.output, by rw [hon.size]; exact HBY.out.size, fun b hb => (hon.block b (by omega)).trans (HBY.out.block b hb)⟩
                have jI : (j : Int) < ((n - (i + 1) : Nat) : Int) := by omega
                have jI0 : (0 : Int) ≤ (j : Int) := by omega
                clear hq hsoe cQ hxq hxi hrq HSO
                go_wp2_with fail
                refine HCP.out.mono ?_
                rintro e w' ⟨rfl, ho', hon'⟩
                obtain ⟨h1, h2, h3⟩ := HNX.out w' ho' hon'
                have HN1 : Hid (OM w.heap.size g c n d w' (.slice (some ⟨G, 0, none⟩) n xc) (M2.set q (clrR p pl (M.getD i []) (M.getD q [])))) := h1
                have HN2 : Hid (ClS p pl i (j + 1) M (M2.set q (clrR p pl (M.getD i []) (M.getD q [])))) := h2
                have HN3 : Hid (Below w.heap.size w w') := h3
                clear h1 h2 h3 ho' hon' cq2
                go_wp2
                exact ⟨⟨j + 1, _, by omega, by go_num, HN1.out, HN2.out, HN3.out⟩, by simp [intOf]; omega⟩
              · have hje : j = n - (i + 1) := by omega
                have HDN : Hid (dpB p d m = dpB p d (M2.drop (i + 1))) := by
                  show _ = _
                  rw [HDQ.out]
                  have h2 := HC2.out
                  rw [hje, ← HML.out] at h2
                  exact clS_dpn HPM.out (by rw [HML.out]; exact hin) (by rw [HM2.out.num, HML.out]) (fun q hq => (HRQ.out (M.getD q []) (by simp [hq])).1) hpd HND.out h2
                have HR2 : Hid (Rp d p M2) := clS_rp hp1 (by rw [HM2.out.num, HML.out]) HRQ.out HC2.out
                have jI : ¬ (j : Int) < ((n - (i + 1) : Nat) : Int) := by omega
                clear hje HSO
                go_wp2
                exact ⟨⟨i + 1, M2, by omega, by go_num, HM2.out, HR2.out, HDN.out, HBY.out⟩, by simp [intOf]; omega⟩
          · have hany' : (M.getD i []).any nzF = false := by simpa using hany
            rw [findI_none hany'] at HIX
            have HDT : Hid (dpB p d m = true) := by
              show _ = _
              rw [HDQ.out]
              refine dpB_true.2 ?_
              have e1 : M.drop i = M.getD i [] :: M.drop (i + 1) := by
                rw [List.drop_eq_getElem_cons (by omega)]
                simp [show i < M.length by omega]
              rw [e1]
              exact dpn_zero HPM.out (nz_none hRl hany')
            clear hany hany' hRl hML
            go_wp2_with fail
            refine HIX.out.mono ?_
            rintro e w' ⟨rfl, hw⟩
            obtain rfl := hw.symm
            clear hw
            go_wp2
            go_ret
            exact ⟨by rw [HDT.out]; rfl, HBQ.out⟩
        · have HDF : Hid (dpB p d m = false) := by
            show _ = _
            rw [HDQ.out, List.drop_of_length_le (by rw [HMQ.out.num]; omega)]
            exact dpB_false.2 dpn_nil
          go_wp2
          go_ret
          exact ⟨by rw [HDF.out]; rfl, HBQ.out⟩

end Go.Proofs.YtomhhonigffilaaDoor
