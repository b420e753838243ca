import Derived.Test.YtehklbekaflokaaDoorGtB
/- facetref.hangs: it comes to its end. -/
namespace Go.Proofs.YtehklbekaflokaaDoor
open Go.RowKit
attribute [local go_sem ↓] Go.wp_at_zero Go.wp_at_succ

theorem infoRow : (Tryd.prog.info? 22).map (fun i => (i.zero, i.size, i.bytes)) = some (some (.slice none 0 0), 1, 24) := by kernel_rfl

/-- Rows of d numbers below p. -/
def Rp (d p : Nat) (m : List (List Int)) : Prop := ∀ r ∈ m, r.length = d ∧ ∀ z ∈ r, 0 ≤ z ∧ z < (p : Int)

/-- How often r must be added to z till it is 0 modulo p. -/
def muP (p r z : Nat) : Nat := ((p - z) * r ^ (p - 2)) % p

theorem mu_falls {p r z : Nat} (hp : p = 2 ∨ p = 3 ∨ p = 5) (hr : r < p) (hr0 : r ≠ 0) (hz : z < p) (hz0 : z ≠ 0) : muP p r ((z + r) % p) < muP p r z := by
  rcases hp with rfl | rfl | rfl
  · have : ∀ r, r < 2 → ∀ z, z < 2 → r ≠ 0 → z ≠ 0 → muP 2 r ((z + r) % 2) < muP 2 r z := by decide +kernel
    exact this r hr z hz hr0 hz0
  · have : ∀ r, r < 3 → ∀ z, z < 3 → r ≠ 0 → z ≠ 0 → muP 3 r ((z + r) % 3) < muP 3 r z := by decide +kernel
    exact this r hr z hz hr0 hz0
  · have : ∀ r, r < 5 → ∀ z, z < 5 → r ≠ 0 → z ≠ 0 → muP 5 r ((z + r) % 5) < muP 5 r z := by decide +kernel
    exact this r hr z hz hr0 hz0

def muW (p r : Nat) : Option Value → Nat
  | some (.int _ z) => muP p r z.toNat
  | _ => 0

theorem Fr.mat0 {B : Nat} {w : World} {v : Value} {m : List (List Int)} (h : Fr B 22 3 w v m) : Mat 0 22 3 w v m := by
  obtain ⟨vs, h1, h2, h3⟩ := h
  rw [← h1] at h2
  exact ⟨vs, h1, Sl.own h2, h3⟩

theorem Fr.base {B B' : Nat} {w : World} {v : Value} {m : List (List Int)} (h : Fr B 22 3 w v m) (hB : B' ≤ B) : Fr B' 22 3 w v m := by
  obtain ⟨us, h1, h2, h3⟩ := h
  refine ⟨us, h1, ⟨h2.1, ?_⟩, h3⟩
  rcases h2.2 with h | ⟨g, cap, cur, e1, e2, e3⟩
  · exact .inl h
  · exact .inr ⟨g, cap, cur, e1, Nat.le_trans hB e2, e3⟩

set_option maxRecDepth 100000 in
set_option maxHeartbeats 1600000 in
theorem hangs_any (p d : Nat) (hp : p = 2 ∨ p = 3 ∨ p = 5) (hd1 : 1 ≤ d) (hd : d ≤ 8) (m : List (List Int)) (v : Value) (w : World) (hm : m.length ≤ 8) (hr : Rp d p m) (hf : Fr 0 22 3 w v m) :
    Calls Tryd.prog 62 #[.int .i64 p, v] w fun e w' => ∃ b, e = .returned (.bool b) ∧ Below w.heap.size w w' := by
  obtain ⟨i0, hi0, hz0, hz1, hz2⟩ := info_parts infoRow
  have hv := hf.mat0
  obtain ⟨vs, g1, g2, g3⟩ := hf
  obtain ⟨vo, vc, hvv⟩ := owns_form g2
  subst hvv
  have hp5 : p ≤ 5 := by omega
  by_cases hl0 : m.length = 0
  · have t1 : ((m.length : Int) == 0) = true := by rw [hl0]; rfl
    obtain ⟨q, hq⟩ : ∃ q, q = m.length := ⟨_, rfl⟩
    clear hv hr g1 g2 g3 hl0 hm
    rw [← hq] at t1 ⊢
    clear hq
    go_enter Tryd.func62, Tryd.ntmps62
    go_wp2
    go_ret
    exact ⟨_, rfl, Below.refl _ _⟩
  have t1 : ((m.length : Int) == 0) = false := by rw [beq_eq_false_iff_ne]; omega
  obtain ⟨vb, vq, vc', r1, hvv, hlc, -, -⟩ := mat_cell hv (k := 0) (by omega)
  simp only [Value.slice.injEq] at hvv
  obtain ⟨rfl, -, rfl⟩ := hvv
  have HVS : Hid (Sl 0 22 w (.slice (some ⟨vb, vq, none⟩) m.length vc) vs) := by
    have := g2
    rw [← g1] at this ⊢
    exact Sl.own this
  have HE : Hid ((w.alloc (.cells #[] 22)).ownsRow w.heap.size 22 1 (.slice (some ⟨w.heap.size, 0, none⟩) 0 0) 0 []) :=
    World.ownsRow_made w #[] 0 (Nat.le_refl _) (by simp [maxLen]) (by simp)
  have HG1 : Hid (vs.length = m.length) := g1
  have HG3 : Hid (∀ i, i < m.length → Sl 0 3 w (vs.getD i (.slice none 0 0)) (ints (m.getD i []))) := g3
  have HOC : Hid (∀ u ∈ vs, u.oneCell' = true) := fun u hu => by
    obtain ⟨i, hi, he⟩ := List.getElem_of_mem hu
    have h := HG3.out i (by rw [← HG1.out]; exact hi)
    obtain ⟨ao, cap, e1, _⟩ := h
    rw [List.getD_eq_getElem?_getD, List.getElem?_eq_getElem hi, Option.getD_some, he] at e1
    rw [e1]; rfl
  have HRP : Hid (Rp d p m) := hr
  clear hv hr g1 g2 g3
  go_enter Tryd.func62, Tryd.ntmps62
  go_wp2_with (first | (at_builtin; refine wpList_append_own _ rfl _ _ 71 rfl w.heap.size 22 i0 (.slice none 0 0) 1 24 Tryd.underlying71 hi0 hz0 hz1 hz2 rfl (by decide) _ _ _ rfl HE.out ⟨vb, vq, none⟩ m.length vc vs rfl (by rw [HG1.out, Nat.mul_one]) (sl_cells HVS.out _) HOC.out ?c3 ?c4 ?c5 ?_))
  case c3 => unfold maxLen; omega
  case c4 => omega
  case c5 => simp
  intro v' w3 ho hg _
  have HB3 : Hid (Below w.heap.size w w3) := ((Below.refl _ _).alloc (Nat.le_refl _) _).grown hg (by simp) (fun k hk => by simp [Value.ownBlock] at hk; omega)
  have HF3 : Hid (Fr w.heap.size 22 3 w3 v' m) := by
    refine ⟨vs, HG1.out, by simpa using ho, fun i hi => ?_⟩
    exact (HG3.out i hi).below HB3.out (Nat.le_refl _)
  obtain ⟨xo, xc, hxv⟩ := owns_form ho
  subst hxv
  clear ho hg
  go_wp2
  go_loopw [1, 5] (fun rv x wr => ∃ (k : Nat) (m' : List (List Int)), k ≤ d ∧ x = .int .i64 k ∧ 0 < m'.length ∧ m'.length ≤ 8 ∧ Rp d p m' ∧ Fr w.heap.size 22 3 wr rv m' ∧ Below w.heap.size w wr) (fun _ x _ => d - (intOf x).toNat)
  case atStart => exact ⟨0, m, Nat.zero_le _, rfl, by omega, hm, HRP.out, HF3.out, HB3.out⟩
  case round =>
    obtain ⟨k, M, hk, rfl, hM0, hM8, hrp, hfr, hbr⟩ := hrel
    obtain ⟨yb, yo, yc, u0, hyv, _, hcu, hsu⟩ := mat_cell hfr.mat0 (k := 0) hM0
    subst hyv
    obtain ⟨uo, uc, huu, _, _⟩ := sl_open hsu
    have hlen0 : (M.getD 0 []).length = d := (hrp (M.getD 0 []) (by simp [hM0])).1
    rw [hlen0] at huu
    subst huu
    rw [Nat.add_zero] at hcu
    have HRM : Hid (Rp d p M) := hrp
    have HFR : Hid (Fr w.heap.size 22 3 wr (.slice (some ⟨yb, yo, none⟩) M.length yc) M) := hfr
    have HBR : Hid (Below w.heap.size w wr) := hbr
    clear hrp hfr hbr hsu hlen0
    obtain ⟨wk, rfl⟩ : ∃ wk, wk = wr := ⟨wr, rfl⟩
    have hM0I : (0 : Int) < (M.length : Int) := by omega
    by_cases hkd : k < d
    · have kI : (k : Int) < (d : Int) := by omega
      have kI0 : (0 : Int) ≤ (k : Int) := by omega
      go_wp2
      clear hcu
      go_loopw [6, 7] (fun av x wr => ∃ (i : Nat) (a : Int), i ≤ M.length ∧ x = .int .i64 i ∧ av = .int .i64 a ∧ (a = -1 ∨ ∃ t : Nat, a = (t : Int) ∧ t < M.length ∧ (M.getD t []).getD k 0 ≠ 0) ∧ wr = wk) (fun _ x _ => M.length - (intOf x).toNat)
      case atStart => exact ⟨0, -1, Nat.zero_le _, rfl, rfl, .inl rfl, rfl⟩
      case round =>
        obtain ⟨i, a, hi, rfl, rfl, hat, rfl⟩ := hrel
        have HAT : Hid (a = -1 ∨ ∃ t : Nat, a = (t : Int) ∧ t < M.length ∧ (M.getD t []).getD k 0 ≠ 0) := hat
        clear hat
        by_cases hil : i < M.length
        · have iI : (i : Int) < (M.length : Int) := by omega
          have iI0 : (0 : Int) ≤ (i : Int) := by omega
          by_cases ha : a < 0
          · have ha1 : a = -1 := by rcases HAT.out with h | ⟨t, h, _⟩ <;> omega
            subst ha1
            obtain ⟨yb', yo', yc', ui, hyv, _, hci, hsi⟩ := mat_cell HFR.out.mat0 hil
            simp only [Value.slice.injEq, Option.some.injEq, Addr.mk.injEq, and_true] at hyv
            obtain ⟨⟨rfl, rfl⟩, -, -⟩ := hyv
            have hli : (M.getD i []).length = d := (HRM.out (M.getD i []) (by simp [hil])).1
            obtain ⟨zb, zo, zc, hzz, _, hcz⟩ := sl_cell hsi (show k < (M.getD i []).length by omega)
            rw [hli] at hzz
            subst hzz
            obtain ⟨z, hz⟩ : ∃ z, z = (M.getD i []).getD k 0 := ⟨_, rfl⟩
            have HZV : Hid (z = (M.getD i []).getD k 0) := hz
            rw [← hz] at hcz
            clear hz hsi ha
            by_cases hz0' : z = 0
            · have t2 : (z != 0) = false := by rw [hz0']; rfl
              clear hz0'
              go_wp2
              exact ⟨⟨i + 1, -1, by omega, by go_num, rfl, .inl rfl, trivial⟩, by simp [intOf]; omega⟩
            · have t2 : (z != 0) = true := by rw [bne_iff_ne]; exact hz0'
              have HNW : Hid ((M.getD i []).getD k 0 ≠ 0) := by rw [← HZV.out]; exact hz0'
              clear hz0'
              go_wp2
              exact ⟨⟨i + 1, i, by omega, by go_num, rfl, .inr ⟨i, rfl, hil, HNW.out⟩, trivial⟩, by simp [intOf]; omega⟩
          · have t2 : decide (a < 0) = false := decide_eq_false ha
            have t3 : 0 ≤ a := by omega
            go_wp2
            exact ⟨⟨i + 1, a, by omega, by go_num, rfl, HAT.out, trivial⟩, by simp [intOf]; omega⟩
        · have hie : i = M.length := by omega
          subst hie
          obtain ⟨wk, rfl⟩ : ∃ wk, wk = wr := ⟨wr, rfl⟩
          by_cases ha : a < 0
          · have ha1 : a = -1 := by rcases HAT.out with h | ⟨t, h, _⟩ <;> omega
            subst ha1
            clear ha
            go_wp2
            exact ⟨⟨k + 1, M, by omega, by go_num, hM0, hM8, HRM.out, HFR.out, HBR.out⟩, by simp [intOf]; omega⟩
          · obtain ⟨ta, hta, htM, htz⟩ : ∃ t : Nat, a = (t : Int) ∧ t < M.length ∧ (M.getD t []).getD k 0 ≠ 0 := by
              rcases HAT.out with h | h
              · omega
              · exact h
            subst hta
            clear ha HAT
            have HTZ : Hid ((M.getD ta []).getD k 0 ≠ 0) := htz
            clear htz
            have hrl : (M.getD ta []).length = d ∧ ∀ z ∈ M.getD ta [], 0 ≤ z ∧ z < (p : Int) := HRM.out (M.getD ta []) (by simp [htM])
            obtain ⟨R, hR⟩ : ∃ R, R = M.getD ta [] := ⟨_, rfl⟩
            obtain ⟨yb', yo', yc', ut, hyv, _, hct, hst⟩ := mat_cell HFR.out.mat0 htM
            simp only [Value.slice.injEq, Option.some.injEq, Addr.mk.injEq, and_true] at hyv
            obtain ⟨⟨rfl, rfl⟩, -, -⟩ := hyv
            rw [← hR] at hrl hst HTZ
            clear hR
            obtain ⟨rb, ro, rc, huu, _, _⟩ := sl_cell hst (show 0 < R.length by omega)
            rw [hrl.1] at huu
            subst huu
            have HST : Hid (Sl 0 3 wk (.slice (some ⟨rb, ro, none⟩) d rc) (ints R)) := hst
            have HRN : Hid (∀ j, j < d → ∃ z : Nat, R.getD j 0 = (z : Int) ∧ z < p) := fun j hj => by
              have h := hrl.2 (R.getD j 0) (by simp [show j < R.length by omega])
              exact ⟨(R.getD j 0).toNat, by omega, by omega⟩
            obtain ⟨zk, hzk, hzkp⟩ := HRN.out k hkd
            have hzk0 : zk ≠ 0 := fun e => HTZ.out (by rw [hzk, e]; rfl)
            have HRL : Hid (R.length = d) := hrl.1
            clear hst hrl
            have taI : (ta : Int) < (M.length : Int) := by omega
            have taI0 : (0 : Int) ≤ (ta : Int) := by omega
            go_wp2
            clear hct
            go_loopw [9, 10] (fun sv x wr => ∃ (i : Nat) (M2 : List (List Int)), i ≤ M.length ∧ x = .int .i64 i ∧ M2.length ≤ i ∧ Rp d p M2 ∧ Fr wk.heap.size 22 3 wr sv M2 ∧ Below wk.heap.size wk wr) (fun _ x _ => M.length - (intOf x).toNat)
            case atStart => exact ⟨0, [], Nat.zero_le _, rfl, Nat.le_refl _, fun r hr => by simp at hr, Fr.nil _ _ _ _, Below.refl _ _⟩
            case round =>
              obtain ⟨i, M2, hi, rfl, hM2, hrp2, hfr2, hbi⟩ := hrel
              have HR2 : Hid (Rp d p M2) := hrp2
              have HF2 : Hid (Fr wk.heap.size 22 3 wr u9 M2) := hfr2
              have HBI : Hid (Below wk.heap.size wk wr) := hbi
              clear hrp2 hfr2 hbi
              obtain ⟨wi, rfl⟩ : ∃ wi, wi = wr := ⟨wr, rfl⟩
              by_cases hil : i < M.length
              · have iI : (i : Int) < (M.length : Int) := by omega
                have iI0 : (0 : Int) ≤ (i : Int) := by omega
                by_cases hit : i = ta
                · have t2 : ((i : Int) == (ta : Int)) = true := by rw [hit]; simp
                  clear hit
                  go_wp2
                  exact ⟨⟨i + 1, M2, by omega, by go_num, by omega, HR2.out, HF2.out, HBI.out⟩, by simp [intOf]; omega⟩
                · have t2 : ((i : Int) == (ta : Int)) = false := by rw [beq_eq_false_iff_ne]; omega
                  obtain ⟨yb', yo', yc', ui, hyv, _, hci, hsi⟩ := mat_cell (HFR.out.mat0.below HBI.out (Nat.le_refl _)) hil
                  simp only [Value.slice.injEq, Option.some.injEq, Addr.mk.injEq, and_true] at hyv
                  obtain ⟨⟨rfl, rfl⟩, -, -⟩ := hyv
                  have hli := HRM.out (M.getD i []) (by simp [hil])
                  obtain ⟨X, hX⟩ : ∃ X, X = M.getD i [] := ⟨_, rfl⟩
                  rw [← hX] at hsi hli
                  have HCP : Hid (Calls Tryd.prog 65 #[ui] wi fun e w' => ∃ u, e = .returned u ∧ w'.ownsRow wi.heap.size 3 1 u X.length (ints X) ∧ Below wi.heap.size wi w') := copy_any 0 X ui wi hsi (by omega)
                  have HX : Hid (X.length = d ∧ ∀ z ∈ X, 0 ≤ z ∧ z < (p : Int)) := hli
                  clear hsi hli hX hit
                  go_wp2_with fail
                  refine HCP.out.mono ?_
                  rintro e w5 ⟨u, rfl, hou, hb5⟩
                  rw [HX.out.1] at hou
                  obtain ⟨g, gc, cur, hug, hgw, _⟩ : ∃ g gc cur, u = .slice (some ⟨g, 0, none⟩) d gc ∧ wi.heap.size ≤ g ∧ w5.heap[g]? = some (.cells cur 3 (0, 0)) := by
                    rcases hou.2 with ⟨_, h0⟩ | ⟨g, cap, cur, h1, h2, h3, _⟩
                    · omega
                    · exact ⟨g, cap, cur, h1, h2, h3⟩
                  subst hug
                  have HO5 : Hid (w5.ownsRow wi.heap.size 3 1 (.slice (some ⟨g, 0, none⟩) d gc) d (ints X)) := hou
                  have HB5 : Hid (Below wi.heap.size wi w5) := hb5
                  clear hou hb5 hci HCP
                  go_wp2
                  go_loopw [12] (fun _ wr => ∃ xs : List Int, xs.length = d ∧ (∀ z ∈ xs, 0 ≤ z ∧ z < (p : Int)) ∧ wr.ownsRow wi.heap.size 3 1 (.slice (some ⟨g, 0, none⟩) d gc) d (ints xs) ∧ Below wi.heap.size wi wr) (fun _ wr => muW p zk (wr.cell? ⟨g, k, none⟩))
                  case atStart => exact ⟨X, HX.out.1, HX.out.2, HO5.out, HB5.out⟩
                  case round =>
                    obtain ⟨xs, hxl, hxz, hox, hbx⟩ := hrel
                    have HXZ : Hid (∀ z ∈ xs, 0 ≤ z ∧ z < (p : Int)) := hxz
                    have HOX : Hid (wr.ownsRow wi.heap.size 3 1 (.slice (some ⟨g, 0, none⟩) d gc) d (ints xs)) := hox
                    have HBX : Hid (Below wi.heap.size wi wr) := hbx
                    obtain ⟨zv, hzv, hzvp⟩ : ∃ z : Nat, xs.getD k 0 = (z : Int) ∧ z < p := by
                      have h := hxz (xs.getD k 0) (by simp [show k < xs.length by omega])
                      exact ⟨(xs.getD k 0).toNat, by omega, by omega⟩
                    have hcx := hox.cellAt k (by simp; omega)
                    rw [ints_get _ _ (by omega), hzv] at hcx
                    have HXL : Hid (xs.length = d) := hxl
                    have HZV : Hid (xs.getD k 0 = (zv : Int)) := hzv
                    clear hxz hox hbx hxl hzv
                    obtain ⟨wx, rfl⟩ : ∃ wx, wx = wr := ⟨wr, rfl⟩
                    by_cases hz0' : zv = 0
                    · have t3 : ((zv : Int) != 0) = false := by rw [hz0']; rfl
                      have HFX : Hid (Fr wk.heap.size 22 3 wx u9 M2) := HF2.out.below HBX.out (Nat.le_refl _)
                      have HBKX : Hid (Below wk.heap.size wk wx) := HBI.out.trans (HBX.out.mono HBI.out.size)
                      have HSX : Hid (Sl 0 3 wx (.slice (some ⟨g, 0, none⟩) d gc) (ints xs)) := by
                        have := HOX.out
                        rw [← HXL.out] at this ⊢
                        exact Sl.own this
                      obtain ⟨us, f1, f2, f3⟩ := HFX.out
                      have F2 : Hid (wx.ownsRow wk.heap.size 22 1 u9 M2.length us) := f2
                      have F1 : Hid (us.length = M2.length) := f1
                      have F3 : Hid (∀ i, i < M2.length → Sl 0 3 wx (us.getD i (.slice none 0 0)) (ints (M2.getD i []))) := f3
                      have hszr : wk.heap.size ≤ wx.heap.size := HBKX.out.size
                      have hm28 : M2.length ≤ 8 := by omega
                      clear hz0' f1 f2 f3
                      go_wp2_with (first | (at_builtin; refine wpList_append_own _ rfl _ _ 71 rfl wk.heap.size 22 i0 (.slice none 0 0) 1 24 Tryd.underlying71 hi0 hz0 hz1 hz2 rfl (by decide) _ _ _ rfl (F2.out.alloc _) ⟨wx.heap.size, 0, none⟩ 1 1 [.slice (some ⟨g, 0, none⟩) d gc] rfl rfl (one_new _ _ _) (one_slice _ _ _) ?c3 ?c4 ?c5 ?_))
                      case c3 => unfold maxLen; omega
                      case c4 => omega
                      case c5 => first | exact hszr | omega | (simp; omega)
                      intro v' w7 ho7 hg7 _
                      have HF7 : Hid (Fr wk.heap.size 22 3 w7 v' (M2 ++ [xs])) := Fr.push (e2 := 22) (e1 := 3) (m := M2) (u := .slice (some ⟨g, 0, none⟩) d gc) (zs := xs) (by decide) F1.out (F2.out.alloc _) (fun i hi => (F3.out i hi).alloc _) (HSX.out.alloc _) ho7 hg7
                      have HB7 : Hid (Below wk.heap.size wk w7) := (HBKX.out.alloc hszr _).grown hg7 (by simp; omega) (fun x hx => (F2.out.lt x hx).1)
                      have HR7 : Hid (Rp d p (M2 ++ [xs])) := fun r hr => by
                        rcases List.mem_append.1 hr with hr | hr
                        · exact HR2.out r hr
                        · have : r = xs := by simpa using hr
                          subst this
                          exact ⟨HXL.out, HXZ.out⟩
                      clear ho7 hg7
                      go_wp2
                      exact ⟨⟨i + 1, _, by omega, by go_num, by rw [List.length_append, List.length_singleton]; omega, HR7.out, HF7.out, HB7.out⟩, by simp [intOf]; omega⟩
                    · have t3 : ((zv : Int) != 0) = true := by rw [bne_iff_ne]; omega
                      have HMU : Hid (muW p zk (some (.int .i64 (((zv + zk) % p : Nat) : Int))) < muW p zk (wx.cell? ⟨g, k, none⟩)) := by
                        rw [hcx]
                        simp only [muW, Int.toNat_natCast]
                        exact mu_falls hp hzkp hzk0 hzvp hz0'
                      have HSR : Hid (Sl 0 3 wx (.slice (some ⟨rb, ro, none⟩) d rc) (ints R)) := HST.out.below (HBI.out.trans (HBX.out.mono HBI.out.size)) (Nat.le_refl _)
                      clear hz0'
                      go_wp2
                      clear hcx
                      go_loopw [12] (fun c wr => ∃ (t : Nat) (ys : List Int), t ≤ d ∧ c = .int .i64 t ∧ ys.length = d ∧ (∀ z ∈ ys, 0 ≤ z ∧ z < (p : Int)) ∧ ys.getD k 0 = (if k < t then (((zv + zk) % p : Nat) : Int) else (zv : Int)) ∧ wr.ownsRow wi.heap.size 3 1 (.slice (some ⟨g, 0, none⟩) d gc) d (ints ys) ∧ Below wi.heap.size wi wr) (fun c _ => d - (intOf c).toNat)
                      case atStart => exact ⟨0, xs, Nat.zero_le _, rfl, HXL.out, HXZ.out, by rw [if_neg (by omega)]; exact HZV.out, HOX.out, HBX.out⟩
                      case round =>
                        obtain ⟨t, ys, ht, rfl, hyl, hyz, hyk, hoy, hby⟩ := hrel
                        have HYZ : Hid (∀ z ∈ ys, 0 ≤ z ∧ z < (p : Int)) := hyz
                        have HYK : Hid (ys.getD k 0 = (if k < t then (((zv + zk) % p : Nat) : Int) else (zv : Int))) := hyk
                        have HOY : Hid (wr.ownsRow wi.heap.size 3 1 (.slice (some ⟨g, 0, none⟩) d gc) d (ints ys)) := hoy
                        have HBY : Hid (Below wi.heap.size wi wr) := hby
                        have HYL : Hid (ys.length = d) := hyl
                        clear hyz hyk hby
                        obtain ⟨wy, rfl⟩ : ∃ wy, wy = wr := ⟨wr, rfl⟩
                        by_cases htd : t < d
                        · obtain ⟨za, hza, hzap⟩ : ∃ z : Nat, ys.getD t 0 = (z : Int) ∧ z < p := by
                            have h := HYZ.out (ys.getD t 0) (by simp [show t < ys.length by omega])
                            exact ⟨(ys.getD t 0).toNat, by omega, by omega⟩
                          obtain ⟨zr, hzr, hzrp⟩ := HRN.out t htd
                          have hcy := hoy.cellAt t (by simp; omega)
                          rw [ints_get _ _ (by omega), hza] at hcy
                          have hfy : wy.frozen? ⟨g, t, none⟩ = false := by
                            rcases hoy.2 with ⟨e, _⟩ | ⟨g', cap, cur, e, _, hh, _⟩
                            · simp at e
                            · simp only [Value.slice.injEq, Option.some.injEq, Addr.mk.injEq, and_true, true_and] at e
                              obtain ⟨rfl, rfl⟩ := e
                              simp [World.frozen?, hh]
                          obtain ⟨rb', ro', _, hs, _, hcr⟩ := sl_cell (HST.out.below (HBI.out.trans (HBY.out.mono HBI.out.size)) (Nat.le_refl _)) (show t < R.length by rw [HRL.out]; exact htd)
                          simp only [Value.slice.injEq, Option.some.injEq, Addr.mk.injEq, and_true] at hs
                          obtain ⟨⟨rfl, rfl⟩, -, -⟩ := hs
                          rw [hzr] at hcr
                          obtain ⟨zn, hzn⟩ : ∃ zn : Nat, zn = (za + zr) % p := ⟨_, rfl⟩
                          have hznp : zn < p := by rw [hzn]; exact Nat.mod_lt _ (by omega)
                          have s1 : IntKind.i64.wrap ((za : Int) + (zr : Int)) = ((za + zr : Nat) : Int) := by
                            rw [show ((za : Int) + (zr : Int)) = ((za + zr : Nat) : Int) by omega]; exact wrap_small (by omega)
                          have s2 : ((za : Int) + (zr : Int)).tmod (p : Int) = (zn : Int) := by
                            rw [Int.tmod_eq_emod_of_nonneg (by omega), hzn]; simp
                          have s5 : ¬ p = 0 := by omega
                          have s3 : ((p : Int) == 0) = false := by rw [beq_eq_false_iff_ne]; omega
                          have s4 : ¬ (p : Int) = 0 := by omega
                          have HNL : Hid ((ys.set t (zn : Int)).length = d) := by show _ = _; rw [List.length_set]; exact hyl
                          have HNR : Hid (∀ z ∈ ys.set t (zn : Int), 0 ≤ z ∧ z < (p : Int)) := fun z hz => by
                            rcases List.mem_or_eq_of_mem_set hz with h | h
                            · exact HYZ.out z h
                            · omega
                          have HNK : Hid ((ys.set t (zn : Int)).getD k 0 = (if k < t + 1 then (((zv + zk) % p : Nat) : Int) else (zv : Int))) := by
                            show _ = _
                            by_cases e : k = t
                            · subst e
                              have h1 := HYK.out
                              rw [if_neg (by omega), hza] at h1
                              have h2 : za = zv := by omega
                              have h3 : zr = zk := by omega
                              rw [if_pos (by omega), hzn, h2, h3]
                              simp [show k < ys.length by omega]
                            · have h1 := HYK.out
                              have h2 : (ys.set t (zn : Int)).getD k 0 = ys.getD k 0 := by
                                simp only [List.getD_eq_getElem?_getD]
                                rw [List.getElem?_set_ne (fun h => e h.symm)]
                              rw [h2, h1]
                              by_cases h : k < t
                              · rw [if_pos h, if_pos (by omega)]
                              · rw [if_neg h, if_neg (by omega)]
                          have HNO : Hid ((wy.drew.setCell ⟨g, t, none⟩ (.int .i64 zn)).ownsRow wi.heap.size 3 1 (.slice (some ⟨g, 0, none⟩) d gc) d (ints (ys.set t (zn : Int)))) := by
                            have h0 : wy.drew.ownsRow wi.heap.size 3 1 (.slice (some ⟨g, 0, none⟩) d gc) d (ints ys) := ⟨hoy.1, hoy.2⟩
                            have h1 := (h0.stored t (.int .i64 (zn : Int))).1
                            have e : ints (ys.set t (zn : Int)) = (ints ys).set t (.int .i64 (zn : Int)) := by simp [ints, List.map_set]
                            show World.ownsRow _ _ _ _ _ _ _
                            rw [e]
                            exact h1
                          have HNB : Hid (Below wi.heap.size wi (wy.drew.setCell ⟨g, t, none⟩ (.int .i64 zn))) := ⟨HBY.out.os, HBY.out.tape, HBY.out.output, by simp only [World.setCell, Array.size_modify]; exact HBY.out.size, fun b hb => (Below.heap_setCell _ _ _ _ (by show b ≠ g; omega)).trans (HBY.out.block b hb)⟩
                          have tI : (t : Int) < (d : Int) := by omega
                          have tI0 : (0 : Int) ≤ (t : Int) := by omega
                          have hcyd : wy.drew.cell? ⟨g, t, none⟩ = some (.int .i64 za) := hcy
                          have hcrd : wy.drew.cell? ⟨rb, ro + t, none⟩ = some (.int .i64 zr) := hcr
                          clear hza hzr hzn hoy hyl
                          go_wp2
                          refine wp_region_held_drew (S := fun _ => True) (by kernel_rfl) trivial (fun hHeld => ?_)
                          refine wpAnyH_tk (i := 0) (d := 77) (v := (.slice (some ⟨g, 0, none⟩) d gc)) rfl rfl (by kernel_rfl) (by kernel_rfl) (by kernel_rfl) (fun _ _ _ h => h) (.inl ⟨by rfl, by (intro wq hSw; (try dsimp only at hSw); go_simp)⟩) hHeld ?_
                          simp only [Act.put, List.setIfInBounds_toArray, List.set_cons_zero, List.set_cons_succ]
                          refine wpAnyH_tk (i := 1) (d := 78) (v := (.int .i64 t)) rfl rfl (by kernel_rfl) (by kernel_rfl) (by kernel_rfl) (fun _ _ _ h => h) (.inl ⟨by rfl, by (intro wq hSw; (try dsimp only at hSw); go_simp)⟩) hHeld ?_
                          simp only [Act.put, List.setIfInBounds_toArray, List.set_cons_zero, List.set_cons_succ]
                          refine wpAnyH_tk (i := 2) (d := 79) (v := (.slice (some ⟨g, 0, none⟩) d gc)) rfl rfl (by kernel_rfl) (by kernel_rfl) (by kernel_rfl) (fun _ _ _ h => h) (.inl ⟨by rfl, by (intro wq hSw; (try dsimp only at hSw); go_simp)⟩) hHeld ?_
                          simp only [Act.put, List.setIfInBounds_toArray, List.set_cons_zero, List.set_cons_succ]
                          refine wpAnyH_tk (i := 3) (d := 80) (v := (.int .i64 t)) rfl rfl (by kernel_rfl) (by kernel_rfl) (by kernel_rfl) (fun _ _ _ h => h) (.inl ⟨by rfl, by (intro wq hSw; (try dsimp only at hSw); go_simp)⟩) hHeld ?_
                          simp only [Act.put, List.setIfInBounds_toArray, List.set_cons_zero, List.set_cons_succ]
                          refine wpAnyH_tk (i := 4) (d := 81) (v := (.pointer (some ⟨g, t, none⟩))) rfl rfl (by kernel_rfl) (by kernel_rfl) (by kernel_rfl) (fun _ _ _ h => h) (.inl ⟨by rfl, by (intro wq hSw; (try dsimp only at hSw); go_simp)⟩) hHeld ?_
                          simp only [Act.put, List.setIfInBounds_toArray, List.set_cons_zero, List.set_cons_succ]
                          refine wpAnyH_tk (i := 6) (d := 83) (v := (.slice (some ⟨rb, ro, none⟩) d rc)) rfl rfl (by kernel_rfl) (by kernel_rfl) (by kernel_rfl) (fun _ _ _ h => h) (.inl ⟨by rfl, by (intro wq hSw; (try dsimp only at hSw); go_simp)⟩) hHeld ?_
                          simp only [Act.put, List.setIfInBounds_toArray, List.set_cons_zero, List.set_cons_succ]
                          refine wpAnyH_tk (i := 7) (d := 84) (v := (.int .i64 t)) rfl rfl (by kernel_rfl) (by kernel_rfl) (by kernel_rfl) (fun _ _ _ h => h) (.inl ⟨by rfl, by (intro wq hSw; (try dsimp only at hSw); go_simp)⟩) hHeld ?_
                          simp only [Act.put, List.setIfInBounds_toArray, List.set_cons_zero, List.set_cons_succ]
                          refine wpAnyH_tk (i := 8) (d := 85) (v := (.pointer (some ⟨rb, ro + t, none⟩))) rfl rfl (by kernel_rfl) (by kernel_rfl) (by kernel_rfl) (fun _ _ _ h => h) (.inl ⟨by rfl, by (intro wq hSw; (try dsimp only at hSw); go_simp)⟩) hHeld ?_
                          simp only [Act.put, List.setIfInBounds_toArray, List.set_cons_zero, List.set_cons_succ]
                          refine wpAnyH_tk (i := 11) (d := 88) (v := (.int .i64 p)) rfl rfl (by kernel_rfl) (by kernel_rfl) (by kernel_rfl) (fun _ _ _ h => h) (.inl ⟨by rfl, by (intro wq hSw; (try dsimp only at hSw); go_simp)⟩) hHeld ?_
                          simp only [Act.put, List.setIfInBounds_toArray, List.set_cons_zero, List.set_cons_succ]
                          refine wpAnyH_ready (rs := [5, 9]) (by kernel_rfl) (by simp) ?_
                          refine ready_tk (i := 5) rfl (by rfl) (fun K hK => ?_) (ready_tk (i := 9) rfl (by rfl) (fun K hK => ?_) AllReadyH.nil)
                          · go_simp
                            refine hK.out _ _ trivial (fun hHeld => ?_)
                            clear hK K
                            refine wpAnyH_ready (rs := [9]) (by kernel_rfl) (by simp) ?_
                            refine ready_tk (i := 9) rfl (by rfl) (fun K hK => ?_) AllReadyH.nil
                            go_simp
                            refine hK.out _ _ trivial (fun hHeld => ?_)
                            clear hK K
                            refine wpAnyH_tk (i := 10) (d := 87) (v := (.int .i64 (za + zr : Nat))) rfl rfl (by kernel_rfl) (by kernel_rfl) (by kernel_rfl) (fun _ _ _ h => h) (.inl ⟨by rfl, by (intro wq hSw; (try dsimp only at hSw); go_simp)⟩) hHeld ?_
                            simp only [Act.put, List.setIfInBounds_toArray, List.set_cons_zero, List.set_cons_succ]
                            refine wpAnyH_tk (i := 12) (d := 89) (v := (.int .i64 zn)) rfl rfl (by kernel_rfl) (by kernel_rfl) (by kernel_rfl) (fun _ _ _ h => h) (.inl ⟨by rfl, by (intro wq hSw; (try dsimp only at hSw); go_simp)⟩) hHeld ?_
                            simp only [Act.put, List.setIfInBounds_toArray, List.set_cons_zero, List.set_cons_succ]
                            refine wpAnyH_tk (i := 13) (d := 90) (v := (.pointer (some ⟨g, t, none⟩))) rfl rfl (by kernel_rfl) (by kernel_rfl) (by kernel_rfl) (fun _ _ _ h => h) (.inl ⟨by rfl, by (intro wq hSw; (try dsimp only at hSw); go_simp)⟩) hHeld ?_
                            simp only [Act.put, List.setIfInBounds_toArray, List.set_cons_zero, List.set_cons_succ]
                            refine wpAnyH_ready (rs := [14]) (by kernel_rfl) (by simp) ?_
                            refine ready_tk (i := 14) rfl (by rfl) (fun K hK => ?_) AllReadyH.nil
                            go_simp
                            refine hK.out _ _ trivial (fun hHeld => ?_)
                            clear hK K
                            refine wpAnyH_done (by kernel_rfl) ?_ _
                            clear hHeld
                            go_wp2
                            exact ⟨⟨t + 1, _, by omega, by go_num, HNL.out, HNR.out, HNK.out, HNO.out, HNB.out⟩, by simp [intOf]; omega⟩
                          · go_simp
                            refine hK.out _ _ trivial (fun hHeld => ?_)
                            clear hK K
                            refine wpAnyH_ready (rs := [5]) (by kernel_rfl) (by simp) ?_
                            refine ready_tk (i := 5) rfl (by rfl) (fun K hK => ?_) AllReadyH.nil
                            go_simp
                            refine hK.out _ _ trivial (fun hHeld => ?_)
                            clear hK K
                            refine wpAnyH_tk (i := 10) (d := 87) (v := (.int .i64 (za + zr : Nat))) rfl rfl (by kernel_rfl) (by kernel_rfl) (by kernel_rfl) (fun _ _ _ h => h) (.inl ⟨by rfl, by (intro wq hSw; (try dsimp only at hSw); go_simp)⟩) hHeld ?_
                            simp only [Act.put, List.setIfInBounds_toArray, List.set_cons_zero, List.set_cons_succ]
                            refine wpAnyH_tk (i := 12) (d := 89) (v := (.int .i64 zn)) rfl rfl (by kernel_rfl) (by kernel_rfl) (by kernel_rfl) (fun _ _ _ h => h) (.inl ⟨by rfl, by (intro wq hSw; (try dsimp only at hSw); go_simp)⟩) hHeld ?_
                            simp only [Act.put, List.setIfInBounds_toArray, List.set_cons_zero, List.set_cons_succ]
                            refine wpAnyH_tk (i := 13) (d := 90) (v := (.pointer (some ⟨g, t, none⟩))) rfl rfl (by kernel_rfl) (by kernel_rfl) (by kernel_rfl) (fun _ _ _ h => h) (.inl ⟨by rfl, by (intro wq hSw; (try dsimp only at hSw); go_simp)⟩) hHeld ?_
                            simp only [Act.put, List.setIfInBounds_toArray, List.set_cons_zero, List.set_cons_succ]
                            refine wpAnyH_ready (rs := [14]) (by kernel_rfl) (by simp) ?_
                            refine ready_tk (i := 14) rfl (by rfl) (fun K hK => ?_) AllReadyH.nil
                            go_simp
                            refine hK.out _ _ trivial (fun hHeld => ?_)
                            clear hK K
                            refine wpAnyH_done (by kernel_rfl) ?_ _
                            clear hHeld
                            go_wp2
                            exact ⟨⟨t + 1, _, by omega, by go_num, HNL.out, HNR.out, HNK.out, HNO.out, HNB.out⟩, by simp [intOf]; omega⟩
                        · have hte : t = d := by omega
                          subst hte
                          have HK : Hid (wy.cell? ⟨g, k, none⟩ = some (.int .i64 (((zv + zk) % p : Nat) : Int))) := by
                            have h1 := hoy.cellAt k (by simp; omega)
                            have h2 := HYK.out
                            rw [if_pos hkd] at h2
                            rw [ints_get _ _ (by omega), h2] at h1
                            exact h1
                          clear hoy
                          go_wp2
                          exact ⟨⟨ys, HYL.out, HYZ.out, HOY.out, HBY.out⟩, by rw [HK.out]; exact HMU.out⟩
              · have hie : i = M.length := by omega
                subst hie
                obtain ⟨so, sc, hsv⟩ : ∃ so sc, u9 = .slice so M2.length sc := by
                  obtain ⟨us, _, h2, _⟩ := HF2.out
                  exact owns_form h2
                subst hsv
                have HBZ : Hid (Below w.heap.size w wi) := HBR.out.trans (HBI.out.mono HBR.out.size)
                have HFZ : Hid (Fr w.heap.size 22 3 wi (.slice so M2.length sc) M2) := by
                  obtain ⟨us, h1, h2, h3⟩ := HF2.out
                  refine ⟨us, h1, ?_, h3⟩
                  refine ⟨h2.1, ?_⟩
                  rcases h2.2 with h | ⟨g, cap, cur, e1, e2, e3⟩
                  · exact .inl h
                  · exact .inr ⟨g, cap, cur, e1, Nat.le_trans HBR.out.size e2, e3⟩
                by_cases hm0 : M2.length = 0
                · have t2 : ((M2.length : Int) == 0) = true := by rw [hm0]; rfl
                  obtain ⟨q2, hq2⟩ : ∃ q2, q2 = M2.length := ⟨_, rfl⟩
                  clear HFZ HF2 HR2
                  rw [← hq2] at t2 ⊢
                  clear hq2 hm0
                  go_wp2
                  go_ret
                  exact ⟨_, rfl, HBZ.out⟩
                · have t2 : ((M2.length : Int) == 0) = false := by rw [beq_eq_false_iff_ne]; omega
                  go_wp2
                  exact ⟨⟨k + 1, M2, by omega, by go_num, by omega, by omega, HR2.out, HFZ.out, HBZ.out⟩, by simp [intOf]; omega⟩
    · have hke : k = d := by omega
      subst hke
      go_wp2
      go_ret
      exact ⟨_, rfl, HBR.out⟩

end Go.Proofs.YtehklbekaflokaaDoor

/- facetref.VectorsOf: it comes to its end. -/
namespace Go.Proofs.YtehklbekaflokaaDoor
open Go.RowKit
attribute [local go_sem ↓] Go.wp_at_zero Go.wp_at_succ

set_option maxRecDepth 100000 in
set_option maxHeartbeats 1600000 in
theorem vectorsOf_any (p d : Nat) (hp : p = 2 ∨ p = 3 ∨ p = 5) (hd1 : 1 ≤ d) (hd : d ≤ 8) (m : List (List Int)) (v : Value) (w : World) (hm1 : 1 ≤ m.length) (hm : m.length ≤ 8) (hr : Rp d p m) (hf : Fr 0 22 3 w v m) :
    Calls Tryd.prog 50 #[.int .i64 p, v] w fun e w' => ∃ u xs, e = .returned (.agg #[.int .i64 m.length, u]) ∧ Sl 0 3 w' u (ints xs) ∧ Below w.heap.size w w' := by
  obtain ⟨i3, hi3, hz30, hz31, hz32⟩ := info_parts Tryd.info3
  obtain ⟨i0, hi0, hz0, hz1, hz2⟩ := info_parts infoRow
  obtain ⟨vb, vq, vc, r1, hvv, hlc, -, -⟩ := mat_cell hf.mat0 (k := 0) (by omega)
  subst hvv
  have HMA : Hid (∀ W', Below w.heap.size w W' → Mat 0 22 3 W' (.slice (some ⟨vb, vq, none⟩) m.length vc) m) := fun W' h => hf.mat0.below h (Nat.le_refl _)
  have HRP : Hid (Rp d p m) := hr
  obtain ⟨W, hW⟩ : ∃ W, W = w.alloc (.cells #[.int .i64 0, .slice none 0 0] 24) := ⟨_, rfl⟩
  have HBA : Hid (Below w.heap.size w W) := by rw [hW]; exact (Below.refl _ _).alloc (Nat.le_refl _) _
  have HR0 : Hid (W.heap[w.heap.size]? = some (.cells #[.int .i64 0, .slice none 0 0] 24 (0, 0))) := by rw [hW]; exact heap_alloc_new w _
  have HWS : Hid (W.heap.size = w.heap.size + 1) := by rw [hW]; show _ = _; simp
  obtain ⟨tn, htn⟩ : ∃ tn : Nat, tn = 2 ^ m.length := ⟨_, rfl⟩
  have hti : (2 : Int) ^ m.length = (tn : Int) := by rw [htn]; simp
  have htl : tn ≤ 256 := by rw [htn]; exact show 2 ^ m.length ≤ 2 ^ 8 from Nat.pow_le_pow_right (by omega) hm
  have hwt : IntKind.i64.wrap (tn : Int) = (tn : Int) := wrap_small (by omega)
  have HMM : Hid (∀ W' (s : Nat), s < tn → Calls Tryd.prog 24 #[.int .i64 s] W' fun e w' => ∃ uo uc, ∃ L : List Int, e = .returned (.slice uo L.length uc) ∧ Sl 0 3 w' (.slice uo L.length uc) (ints L) ∧ L.length ≤ 8 ∧ (∀ z ∈ L, ∃ i : Nat, z = (i : Int) ∧ i < m.length) ∧ Below W'.heap.size W' w') := fun W' s hs =>
    (members8_any s W' (by omega)).mono (by
      rintro e w' ⟨u, rfl, h1, h2⟩
      obtain ⟨uo, uc, rfl⟩ := owns_form h1
      refine ⟨uo, uc, mem8 s, rfl, Sl.own h1, mem8_len s, fun z hz => ?_, h2⟩
      obtain ⟨i, _, h3, rfl⟩ := mem8_iff.1 hz
      exact ⟨i, rfl, bit_lt (by rw [← htn]; exact hs) h3⟩)
  clear hr hf
  go_enter Tryd.func50, Tryd.ntmps50
  go_wp2
  rw [← hW]
  clear hW htn
  go_loopw [5, 6] (fun gv x wr => ∃ (k : Nat) (xs : List Int), k ≤ tn ∧ x = .int .i64 k ∧ wr.ownsRow W.heap.size 3 1 gv xs.length (ints xs) ∧ xs.length ≤ k ∧ (∀ z ∈ xs, 0 ≤ z ∧ z < 256) ∧ Below W.heap.size W wr) (fun _ x _ => tn - (intOf x).toNat)
  case atStart => exact ⟨0, [], Nat.zero_le _, rfl, World.ownsRow_nil _ _ _ _, Nat.le_refl _, fun z hz => by simp at hz, Below.refl _ _⟩
  case round =>
    obtain ⟨k, xs, hk, rfl, ho, hxl, hz, hbr⟩ := hrel
    have HO : Hid (wr.ownsRow W.heap.size 3 1 u5 xs.length (ints xs)) := ho
    have HZ : Hid (∀ z ∈ xs, 0 ≤ z ∧ z < 256) := hz
    have HB : Hid (Below W.heap.size W wr) := hbr
    have HBW : Hid (Below w.heap.size w wr) := HBA.out.trans (HB.out.mono HBA.out.size)
    clear ho hz hbr
    obtain ⟨wa, rfl⟩ : ∃ wa, wa = wr := ⟨wr, rfl⟩
    by_cases hlt : k < tn
    · have kI : (k : Int) < (tn : Int) := by omega
      go_wp2_with fail
      refine (HMM.out wa k hlt).mono ?_
      rintro e w5 ⟨lo, lc, L, rfl, hsl, hL8, hLm, hb5⟩
      have HSL : Hid (Sl 0 3 w5 (.slice lo L.length lc) (ints L)) := hsl
      have HLM : Hid (∀ z ∈ L, ∃ i : Nat, z = (i : Int) ∧ i < m.length) := hLm
      have HB5 : Hid (Below wa.heap.size wa w5) := hb5
      clear hsl hLm hb5
      go_wp2
      go_loopw [8, 9] (fun rv x wr => ∃ (i : Nat) (M2 : List (List Int)), i ≤ L.length ∧ x = .int .i64 i ∧ M2.length = i ∧ Rp d p M2 ∧ Fr w5.heap.size 22 3 wr rv M2 ∧ Below w5.heap.size w5 wr) (fun _ x _ => L.length - (intOf x).toNat)
      case atStart => exact ⟨0, [], Nat.zero_le _, rfl, rfl, fun r hr => by simp at hr, Fr.nil _ _ _ _, Below.refl _ _⟩
      case round =>
        obtain ⟨i, M2, hi, rfl, hM2, hrp2, hfr2, hbi⟩ := hrel
        have HR2 : Hid (Rp d p M2) := hrp2
        have HF2 : Hid (Fr w5.heap.size 22 3 wr u8 M2) := hfr2
        have HM2 : Hid (M2.length = i) := hM2
        have HBI : Hid (Below w5.heap.size w5 wr) := hbi
        clear hrp2 hfr2 hbi hM2
        obtain ⟨wi, rfl⟩ : ∃ wi, wi = wr := ⟨wr, rfl⟩
        have HBWI : Hid (Below wa.heap.size wa wi) := HB5.out.trans (HBI.out.mono HB5.out.size)
        by_cases hil : i < L.length
        · obtain ⟨lb, lq, _, hs, _, hcl⟩ := sl_cell (HSL.out.below HBI.out (Nat.le_refl _)) hil
          simp only [Value.slice.injEq] at hs
          obtain ⟨rfl, -, -⟩ := hs
          obtain ⟨x, hx, hxm⟩ := HLM.out (L.getD i 0) (by simp [hil])
          rw [hx] at hcl
          obtain ⟨vb', vq', _, ux, hyv, _, hcx, hsx⟩ := mat_cell (HMA.out wi (HBW.out.trans (HBWI.out.mono HBW.out.size))) hxm
          simp only [Value.slice.injEq, Option.some.injEq, Addr.mk.injEq, and_true] at hyv
          obtain ⟨⟨rfl, rfl⟩, -, -⟩ := hyv
          have HSX : Hid (Sl 0 3 wi ux (ints (m.getD x []))) := hsx
          have hrx := HRP.out (m.getD x []) (by simp [hxm])
          have HRX : Hid ((m.getD x []).length = d ∧ ∀ z ∈ m.getD x [], 0 ≤ z ∧ z < (p : Int)) := hrx
          obtain ⟨us, f1, f2, f3⟩ := HF2.out
          have F2 : Hid (wi.ownsRow w5.heap.size 22 1 u8 M2.length us) := f2
          have F1 : Hid (us.length = M2.length) := f1
          have F3 : Hid (∀ i, i < M2.length → Sl 0 3 wi (us.getD i (.slice none 0 0)) (ints (M2.getD i []))) := f3
          have hszr : w5.heap.size ≤ wi.heap.size := HBI.out.size
          have hm28 : M2.length ≤ 8 := by have := HM2.out; omega
          obtain ⟨xo, xc, hxv, _, _⟩ := sl_open hsx
          rw [hrx.1] at hxv
          subst hxv
          have iI : (i : Int) < (L.length : Int) := by omega
          have iI0 : (0 : Int) ≤ (i : Int) := by omega
          have xI : (x : Int) < (m.length : Int) := by omega
          have xI0 : (0 : Int) ≤ (x : Int) := by omega
          clear hx hsx hrx f1 f2 f3
          go_wp2_with (first | (at_builtin; refine wpList_append_own _ rfl _ _ 71 rfl w5.heap.size 22 i0 (.slice none 0 0) 1 24 Tryd.underlying71 hi0 hz0 hz1 hz2 rfl (by decide) _ _ _ rfl (F2.out.alloc _) ⟨wi.heap.size, 0, none⟩ 1 1 [.slice xo d xc] rfl rfl (one_new _ _ _) (one_slice _ _ _) ?c3 ?c4 ?c5 ?_))
          case c3 => unfold maxLen; omega
          case c4 => omega
          case c5 => first | exact hszr | omega | (simp; omega)
          intro v' w7 ho7 hg7 _
          have HF7 : Hid (Fr w5.heap.size 22 3 w7 v' (M2 ++ [m.getD x []])) := Fr.push (e2 := 22) (e1 := 3) (m := M2) (u := .slice xo d xc) (zs := m.getD x []) (by decide) F1.out (F2.out.alloc _) (fun i hi => (F3.out i hi).alloc _) (HSX.out.alloc _) ho7 hg7
          have HB7 : Hid (Below w5.heap.size w5 w7) := (HBI.out.alloc hszr _).grown hg7 (by simp; omega) (fun x hx => (F2.out.lt x hx).1)
          have HR7 : Hid (Rp d p (M2 ++ [m.getD x []])) := fun r hr => by
            rcases List.mem_append.1 hr with hr | hr
            · exact HR2.out r hr
            · have : r = m.getD x [] := by simpa using hr
              rw [this]
              exact HRX.out
          clear ho7 hg7
          go_wp2
          exact ⟨⟨i + 1, _, by omega, by go_num, by rw [List.length_append, List.length_singleton, HM2.out], HR7.out, HF7.out, HB7.out⟩, by simp [intOf]; omega⟩
        · have hie : i = L.length := by omega
          subst hie
          have HHG : Hid (Calls Tryd.prog 62 #[.int .i64 p, u8] wi fun e w' => ∃ b, e = .returned (.bool b) ∧ Below wi.heap.size wi w') := hangs_any p d hp hd1 hd M2 u8 wi (by have := HM2.out; omega) HR2.out (HF2.out.base (Nat.zero_le _))
          go_wp2_with fail
          refine HHG.out.mono ?_
          rintro e w3 ⟨b, rfl, hb3⟩
          have HX3 : Hid (Below wa.heap.size wa w3) := HBWI.out.trans (hb3.mono HBWI.out.size)
          have HB3 : Hid (Below W.heap.size W w3) := HB.out.trans (HX3.out.mono HB.out.size)
          have HO3 : Hid (w3.ownsRow W.heap.size 3 1 u5 xs.length (ints xs)) := by
            refine ⟨HO.out.1, ?_⟩
            rcases HO.out.2 with h1 | ⟨g, cap, cur, e1, h2, h3, h4⟩
            · exact .inl h1
            · exact .inr ⟨g, cap, cur, e1, h2, (HX3.out.block g (Array.getElem?_eq_some_iff.1 h3).1).trans h3, h4⟩
          clear hb3
          have hszr : W.heap.size ≤ w3.heap.size := HB3.out.size
          cases b
          · go_wp2_with (first | (at_builtin; refine wpList_append_own _ rfl _ _ 22 rfl W.heap.size 3 i3 (.int .i64 0) 1 8 Tryd.underlying22 hi3 hz30 hz31 hz32 rfl (by decide) _ _ _ rfl (HO3.out.alloc _) ⟨w3.heap.size, 0, none⟩ 1 1 [.int .i64 k] rfl rfl (one_new _ _ _) (one_int _) ?c3 ?c4 ?c5 ?_))
            case c3 => unfold maxLen; omega
            case c4 => omega
            case c5 => first | exact hszr | omega | (simp; omega)
            intro v' w7 ho5 hg5 _
            have R1 : Hid (w7.ownsRow W.heap.size 3 1 v' (xs ++ [(k : Int)]).length (ints (xs ++ [(k : Int)]))) := by
              have e2 : ints (xs ++ [(k : Int)]) = ints xs ++ [.int .i64 (k : Int)] := by simp [ints]
              show World.ownsRow _ _ _ _ _ _ _
              rw [e2, List.length_append, List.length_singleton]
              exact ho5
            have R2 : Hid (Below W.heap.size W w7) := (HB3.out.alloc hszr _).grown hg5 (by simp; omega) (fun x hx => (HO3.out.lt x hx).1)
            have R3 : Hid (∀ z ∈ xs ++ [(k : Int)], 0 ≤ z ∧ z < 256) := fun z hz => by
              rcases List.mem_append.1 hz with hz | hz
              · exact HZ.out z hz
              · have : z = (k : Int) := by simpa using hz
                omega
            clear ho5 hg5
            go_wp2
            exact ⟨⟨k + 1, _, by omega, by go_num, R1.out, by rw [List.length_append, List.length_singleton]; omega, R3.out, R2.out⟩, by simp [intOf]; omega⟩
          · go_wp2
            exact ⟨⟨k + 1, xs, by omega, by go_num, HO3.out, by omega, HZ.out, HB3.out⟩, by simp [intOf]; omega⟩
    · have hke : tn = k := by omega
      subst hke
      obtain ⟨go, gc, hu⟩ := owns_form HO.out
      subst hu
      have HGR : Hid (Calls Tryd.prog 61 #[.int .i64 m.length, .slice go xs.length gc] wa fun e w' => ∃ u ys, e = .returned (.agg #[.int .i64 m.length, u]) ∧ Sl 0 3 w' u (ints ys) ∧ Below wa.heap.size wa w') := greatest_any m.length xs _ wa ((Sl.own (B := 0) HO.out).more (Nat.zero_le _)) (by omega) HZ.out
      go_wp2_with fail
      refine HGR.out.mono ?_
      rintro e w3 ⟨u, ys, rfl, hs3, hb3⟩
      have HS3 : Hid (Sl 0 3 w3 u (ints ys)) := hs3
      have hres : w3.heap[w.heap.size]? = some (.cells #[.int .i64 0, .slice none 0 0] 24 (0, 0)) := by
        have h1 := HB.out.size
        have h2 := HWS.out
        exact ((hb3.block _ (by omega)).trans (HB.out.block _ (by omega))).trans HR0.out
      have r0 : w3.cell? ⟨w.heap.size, 0, none⟩ = some (.int .i64 0) := by simp [World.cell?, hres]
      have r1 : w3.cell? ⟨w.heap.size, 1, none⟩ = some (.slice none 0 0) := by simp [World.cell?, hres]
      have rf0 : w3.frozen? ⟨w.heap.size, 0, none⟩ = false := by simp [World.frozen?, hres]
      have rf1 : w3.frozen? ⟨w.heap.size, 1, none⟩ = false := by simp [World.frozen?, hres]
      obtain ⟨yo, yc, hyv, _, _⟩ := sl_open hs3
      subst hyv
      have HB3 : Hid (Below w.heap.size w w3) := HBW.out.trans (hb3.mono HBW.out.size)
      have HTY : Hid (w3.heap[w.heap.size]? = some (.cells #[.int .i64 0, .slice none 0 0] 24 (0, 0))) := hres
      have HBX : Hid (Below w.heap.size w ((w3.setCell ⟨w.heap.size, 0, none⟩ (.int .i64 m.length)).setCell ⟨w.heap.size, 1, none⟩ (.slice yo ys.length yc))) := (HB3.out.setCell (by simp) _).setCell (by simp) _
      have HSX : Hid (Sl 0 3 ((w3.setCell ⟨w.heap.size, 0, none⟩ (.int .i64 m.length)).setCell ⟨w.heap.size, 1, none⟩ (.slice yo ys.length yc)) (.slice yo ys.length yc) (ints ys)) := by
        refine HS3.out.move fun b hb ht => ?_
        rcases ht with ht | ⟨cur, ht⟩
        · omega
        · have hne : b ≠ w.heap.size := fun e => by
            rw [e, HTY.out] at ht
            simp at ht
          exact ⟨(Below.heap_setCell _ _ _ _ (by show b ≠ w.heap.size; exact hne)).trans (Below.heap_setCell _ _ _ _ (by show b ≠ w.heap.size; exact hne)), .inr ⟨cur, ht⟩⟩
      clear hs3 hb3 hres
      go_wp2
      exact bodyPost_ret (v := .agg #[.int .i64 m.length, .slice yo ys.length yc]) (by simp [results, Tryd.results50, go_sem, *]) rfl ⟨_, ys, rfl, HSX.out, HBX.out⟩

end Go.Proofs.YtehklbekaflokaaDoor

/- facetref.MatroidFrom: it comes to its end, and gives a number and a list. -/
namespace Go.Proofs.YtehklbekaflokaaDoor
open Go.RowKit
attribute [local go_sem ↓] Go.wp_at_zero Go.wp_at_succ

/-- What is stored into the result's box at the end. -/
theorem box_fin {w w3 : World} {N : Int} {yo : Option Addr} {yc : Nat} {ys : List Int} (hres : w3.heap[w.heap.size]? = some (.cells #[.int .i64 0, .slice none 0 0] 24 (0, 0))) (hs : Sl 0 3 w3 (.slice yo ys.length yc) (ints ys)) (hb : Below w.heap.size w w3) :
    Below w.heap.size w ((w3.setCell ⟨w.heap.size, 0, none⟩ (.int .i64 N)).setCell ⟨w.heap.size, 1, none⟩ (.slice yo ys.length yc)) ∧ Sl 0 3 ((w3.setCell ⟨w.heap.size, 0, none⟩ (.int .i64 N)).setCell ⟨w.heap.size, 1, none⟩ (.slice yo ys.length yc)) (.slice yo ys.length yc) (ints ys) := by
  refine ⟨(hb.setCell (by simp) _).setCell (by simp) _, hs.move fun b hb ht => ?_⟩
  rcases ht with ht | ⟨cur, ht⟩
  · omega
  · have hne : b ≠ w.heap.size := fun e => by
      rw [e, hres] at ht
      simp at ht
    exact ⟨(Below.heap_setCell _ _ _ _ (by show b ≠ w.heap.size; exact hne)).trans (Below.heap_setCell _ _ _ _ (by show b ≠ w.heap.size; exact hne)), .inr ⟨cur, ht⟩⟩

theorem GtI.push {w wa w3 w5 : World} {N : Int} {k : Nat} {x : Int} {sv v' : Value} {xs : List Int} (h : GtI w wa N k w3) (hbox3 : w3.heap[wa.heap.size]? = some (.cells #[.int .i64 N, sv] 24 (0, 0))) (hown3 : w3.ownsRow (wa.heap.size + 1) 3 1 sv xs.length (ints xs)) (hxl : xs.length ≤ k) (hwz : w.heap.size < wa.heap.size)
    (ho : w5.ownsRow (wa.heap.size + 1) 3 1 v' (xs.length + 1) (ints xs ++ [.int .i64 x])) (hg : (w3.alloc (.cells #[.int .i64 x] 3)).grownBy w5 sv.ownBlock) :
    w5.cell? ⟨wa.heap.size, 1, none⟩ = some sv ∧ w5.frozen? ⟨wa.heap.size, 1, none⟩ = false ∧ GtI w wa N (k + 1) (w5.setCell ⟨wa.heap.size, 1, none⟩ v') := by
  have hs3 := h.sz
  have hne : ∀ b, b < wa.heap.size + 1 → w5.heap[b]? = w3.heap[b]? := fun b hb => by
    refine (hg.block b (by simp; omega) (fun e => ?_)).trans (Below.heap_alloc w3 _ b (by omega))
    have := (hown3.lt b e.symm).1
    omega
  have hbx := (hne wa.heap.size (by omega)).trans hbox3
  refine ⟨by simp [World.cell?, hbx], by simp [World.frozen?, hbx], ?_, ⟨v', xs ++ [x], ?_, ?_, ?_⟩, ?_, ?_⟩
  · exact (Below.heap_setCell _ _ _ _ (by show w.heap.size ≠ wa.heap.size; omega)).trans ((hne _ (by omega)).trans h.res)
  · simp [World.setCell, Array.getElem?_modify, hbx]
  · have e1 : ints (xs ++ [x]) = ints xs ++ [.int .i64 x] := by simp [ints]
    rw [e1, List.length_append, List.length_singleton]
    refine ⟨ho.1, ?_⟩
    rcases ho.2 with h1 | ⟨g, cap, cur, f1, f2, f3, f4⟩
    · exact .inl h1
    · exact .inr ⟨g, cap, cur, f1, f2, (Below.heap_setCell _ _ _ _ (by show g ≠ wa.heap.size; omega)).trans f3, f4⟩
  · rw [List.length_append, List.length_singleton]; omega
  · have hb5 : Below w.heap.size w w5 := ⟨hg.os.trans h.bel.os, hg.tape.trans h.bel.tape, hg.output.trans h.bel.output, Nat.le_trans h.bel.size (Nat.le_trans (by simp) hg.size), fun b hb => (hne b (by omega)).trans (h.bel.block b hb)⟩
    exact ⟨hb5.os, hb5.tape, hb5.output, by simp only [World.setCell, Array.size_modify]; exact hb5.size, fun b hb => (Below.heap_setCell _ _ _ _ (by show b ≠ wa.heap.size; omega)).trans (hb5.block b hb)⟩
  · simp only [World.setCell, Array.size_modify]
    exact Nat.le_trans hs3 (Nat.le_trans (by simp) hg.size)

end Go.Proofs.YtehklbekaflokaaDoor
