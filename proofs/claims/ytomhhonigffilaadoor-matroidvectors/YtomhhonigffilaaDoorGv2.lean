/- matroid.clearPlace; slices.IndexFunc by standAlone's closure. -/
import Derived.Test.YtomhhonigffilaaDoorGv1
import Derived.Test.YtomhhonigffilaaDoorWi1
import Derived.BigQuiet
import Derived.BigRegion
import Derived.Deep.QuietTactic
namespace Go.Proofs.YtomhhonigffilaaDoor
open Go.RowKit
attribute [local go_sem ↓] Go.wp_at_zero Go.wp_at_succ

def nzF (x : Int) : Bool := x != 0

theorem nz1_any (x : Int) (w : World) : Calls Tryd.prog 27 #[.int .i64 x] w fun e w' => e = .returned (.bool (nzF x)) ∧ w' = w := by
  go_enter Tryd.func27, Tryd.ntmps27
  go_wp2
  go_ret
  exact ⟨rfl, rfl⟩

set_option maxHeartbeats 400000 in
theorem indexZ_any (B : Nat) (zs : List Int) (v : Value) (w : World) (hv : Sl B 3 w v (ints zs)) :
    Calls Tryd.prog 26 #[v, .func (.func 27) #[] #[]] w fun e w' => e = .returned (.int .i64 (findI nzF zs)) ∧ w' = w := by
  obtain ⟨ao, cap, hvv, hlc, hcm⟩ := sl_open hv
  subst hvv
  have HV : Hid (Sl B 3 w (.slice ao zs.length cap) (ints zs)) := hv
  clear hv
  go_enter Tryd.func26, Tryd.ntmps26
  go_wp2
  go_loop [8] (fun i => ∃ k : Nat, k ≤ zs.length ∧ i = .int .i64 k ∧ (zs.take k).any nzF = false) (fun i => zs.length - (intOf i).toNat)
  case atStart => exact ⟨0, Nat.zero_le _, rfl, by simp⟩
  case round =>
    obtain ⟨k, hk, rfl, hno⟩ := hrel
    have HN : Hid ((zs.take k).any nzF = false) := hno
    clear hno
    by_cases hlt : k < zs.length
    · obtain ⟨b', o, cp, hs, hc1, hcc⟩ := sl_cell HV.out hlt
      simp only [Value.slice.injEq] at hs
      obtain ⟨rfl, _, rfl⟩ := hs
      have HS1 : Hid ((zs.take (k + 1)).any nzF = nzF zs[k]) := any_snoc (p := nzF) hlt HN.out
      have HH : Hid (nzF zs[k] = true → findI nzF zs = k) := fun h => findI_hit (p := nzF) hlt HN.out h
      rw [show zs.getD k 0 = zs[k] by simp [hlt]] at hcc
      generalize zs[k] = x at *
      have HIX : Hid (Calls Tryd.prog 27 #[.int .i64 x] w fun e w' => e = .returned (.bool (nzF x)) ∧ w' = w) := nz1_any x w
      generalize nzF x = fb at *
      cases fb
      · go_wp2_with (go_at_call 27; refine HIX.out.mono ?_; rintro e w' ⟨rfl, rfl⟩)
        go_round
        case rel => exact ⟨k + 1, by omega, by go_num, HS1.out⟩
        case measure => simp [intOf]; omega
      · have HH2 : Hid (findI nzF zs = k) := HH.out rfl
        clear HH
        go_wp2_with (go_at_call 27; refine HIX.out.mono ?_; rintro e w' ⟨rfl, rfl⟩)
        go_ret
        exact ⟨ret_int HH2.out.symm, rfl⟩
    · have e : zs.take k = zs := List.take_of_length_le (by omega)
      rw [e] at HN
      have HF : Hid (findI nzF zs = -1) := findI_none HN.out
      go_wp2
      go_ret
      exact ⟨ret_int HF.out.symm, rfl⟩

/-- A row cleared at a place. -/
def clrE (p : Int) (pl : Nat) (r x : List Int) (c : Nat) : Int := (r.getD pl 0 * x.getD c 0 + (p - x.getD pl 0) * r.getD c 0) % p

def clrR (p : Int) (pl : Nat) (r x : List Int) : List Int := (List.range x.length).map (clrE p pl r x)

theorem clrR_len (p : Int) (pl : Nat) (r x : List Int) : (clrR p pl r x).length = x.length := by simp [clrR]

theorem clrR_get {p : Int} {pl : Nat} {r x : List Int} {c : Nat} (h : c < x.length) : (clrR p pl r x).getD c 0 = clrE p pl r x c := by simp [clrR, h]

/-- Nothing has turned but one block. -/
structure Onl (g : Nat) (w w' : World) : Prop where
  os : w'.os = w.os
  tape : w'.tape = w.tape
  output : w'.output = w.output
  size : w'.heap.size = w.heap.size
  block : ∀ b, b ≠ g → w'.heap[b]? = w.heap[b]?

theorem Onl.refl (g : Nat) (w : World) : Onl g w w := ⟨rfl, rfl, rfl, rfl, fun _ _ => rfl⟩

theorem Onl.drewN {g : Nat} {w w' : World} (h : Onl g w w') (n : Nat) : Onl g w (w'.drewN n) := ⟨h.os, h.tape, h.output, h.size, h.block⟩

theorem Onl.set {g : Nat} {w w' : World} (h : Onl g w w') (t : Nat) (u : Value) : Onl g w (w'.setCell ⟨g, t, none⟩ u) :=
  ⟨h.os, h.tape, h.output, by simp only [World.setCell, Array.size_modify]; exact h.size, fun b hb => (Below.heap_setCell _ _ _ _ hb).trans (h.block b hb)⟩

theorem Onl.cell {g : Nat} {w w' : World} (h : Onl g w w') {b o : Nat} (hb : b ≠ g) : w'.cell? ⟨b, o, none⟩ = w.cell? ⟨b, o, none⟩ := World.cell?_of_block (w := w) (h.block b hb)

set_option maxRecDepth 100000 in
set_option maxHeartbeats 1600000 in
theorem clearPlace_any (p d B pl g cap rb ro rc : Nat) (X R : List Int) (w : World) (hp1 : 1 ≤ p) (hp7 : p ≤ 7) (hpl : pl < d) (hd : d ≤ 8) (hX : X.length = d) (hXz : ∀ z ∈ X, 0 ≤ z ∧ z < (p : Int)) (hRz : ∀ j, j < d → ∃ z : Nat, R.getD j 0 = (z : Int) ∧ z < p)
    (ho : w.ownsRow B 3 1 (.slice (some ⟨g, 0, none⟩) d cap) d (ints X)) (hr : ∀ j, j < d → w.cell? ⟨rb, ro + j, none⟩ = some (.int .i64 (R.getD j 0))) (hne : rb ≠ g) :
    Calls Tryd.prog 28 #[.int .i64 p, .slice (some ⟨g, 0, none⟩) d cap, .slice (some ⟨rb, ro, none⟩) d rc, .int .i64 pl] w fun e w' => e = .returned (.tuple #[]) ∧ w'.ownsRow B 3 1 (.slice (some ⟨g, 0, none⟩) d cap) d (ints (clrR p pl R X)) ∧ Onl g w w' := by
  have HXN : Hid (∀ j, j < d → ∃ z : Nat, X.getD j 0 = (z : Int) ∧ z < p) := fun j hj => by
    have h := hXz (X.getD j 0) (by simp [show j < X.length by omega])
    exact ⟨(X.getD j 0).toNat, by omega, by omega⟩
  have HRN : Hid (∀ j, j < d → ∃ z : Nat, R.getD j 0 = (z : Int) ∧ z < p) := hRz
  have HRC : Hid (∀ j, j < d → w.cell? ⟨rb, ro + j, none⟩ = some (.int .i64 (R.getD j 0))) := hr
  have HXL : Hid (X.length = d) := hX
  have HO : Hid (w.ownsRow B 3 1 (.slice (some ⟨g, 0, none⟩) d cap) d (ints X)) := ho
  have HNE : Hid (rb ≠ g) := hne
  obtain ⟨kp, hkp, hkpp⟩ := hRz pl hpl
  obtain ⟨xp, hxp, hxpp⟩ := HXN.out pl hpl
  have a0 := hr pl hpl
  rw [hkp] at a0
  have a1 := ho.cellAt pl (by simp; omega)
  rw [ints_get _ _ (by omega), hxp] at a1
  obtain ⟨ad, had⟩ : ∃ ad : Nat, ad = p - xp := ⟨_, rfl⟩
  have hsb : IntKind.i64.wrap ((p : Int) - (xp : Int)) = (ad : Int) := by rw [show (p : Int) - (xp : Int) = (ad : Int) by omega]; exact wrap_small (by omega)
  have had7 : ad ≤ 7 := by omega
  have HKP : Hid (R.getD pl 0 = (kp : Int)) := hkp
  have HAD : Hid ((p : Int) - X.getD pl 0 = (ad : Int)) := by show _ = _; rw [hxp]; omega
  have plI : (pl : Int) < (d : Int) := by omega
  have plI0 : (0 : Int) ≤ (pl : Int) := by omega
  clear hkp hxp had ho hr hRz hXz hX hne
  go_enter Tryd.func28, Tryd.ntmps28
  go_wp2_with fail
  go_big_quiet (fail)
  obtain ⟨W, hW⟩ : ∃ W, W = w.drewN nq := ⟨_, rfl⟩
  have HOW : Hid (Onl g w W) := by rw [hW]; exact (Onl.refl _ _).drewN _
  have HOR : Hid (W.ownsRow B 3 1 (.slice (some ⟨g, 0, none⟩) d cap) d (ints X)) := by rw [hW]; exact HO.out
  rw [← hW]
  clear hW a0 a1 hsb
  go_wp2
  go_loopw [10, 23] (fun _ x wr => ∃ (t : Nat) (ys : List Int), t ≤ d ∧ x = .int .i64 t ∧ ys.length = d ∧ (∀ c, c < d → ys.getD c 0 = if c < t then clrE p pl R X c else X.getD c 0) ∧ wr.ownsRow B 3 1 (.slice (some ⟨g, 0, none⟩) d cap) d (ints ys) ∧ Onl g w wr) (fun _ x _ => d - (intOf x).toNat)
  case atStart => exact ⟨0, X, Nat.zero_le _, rfl, HXL.out, fun c _ => by rw [if_neg (by omega)], HOR.out, HOW.out⟩
  case round =>
    obtain ⟨t, ys, ht, rfl, hyl, hyk, hoy, hoo⟩ := hrel
    have HYL : Hid (ys.length = d) := hyl
    have HYK : Hid (∀ c, c < d → ys.getD c 0 = if c < t then clrE p pl R X c else X.getD c 0) := hyk
    have HOY : Hid (wr.ownsRow B 3 1 (.slice (some ⟨g, 0, none⟩) d cap) d (ints ys)) := hoy
    have HOO : Hid (Onl g w wr) := hoo
    clear hyk hoo
    by_cases htd : t < d
    · obtain ⟨za, hza, hzap⟩ := HXN.out t htd
      obtain ⟨zr, hzr, hzrp⟩ := HRN.out t htd
      have hyt : ys.getD t 0 = (za : Int) := by rw [HYK.out t htd, if_neg (by omega)]; exact hza
      have hcy := hoy.cellAt t (by simp; omega)
      rw [ints_get _ _ (by omega), hyt] at hcy
      have hfy : wr.frozen? ⟨g, t, none⟩ = false := hoy.frozenAt t
      have hcr : wr.cell? ⟨rb, ro + t, none⟩ = some (.int .i64 zr) := by rw [HOO.out.cell HNE.out, HRC.out t htd, hzr]
      obtain ⟨m1, hm1⟩ : ∃ m1 : Nat, m1 = kp * za := ⟨_, rfl⟩
      obtain ⟨m2, hm2⟩ : ∃ m2 : Nat, m2 = ad * zr := ⟨_, rfl⟩
      have b1 : m1 ≤ 49 := by rw [hm1]; exact Nat.le_trans (Nat.mul_le_mul (show kp ≤ 7 by omega) (show za ≤ 7 by omega)) (by decide)
      have b2 : m2 ≤ 49 := by rw [hm2]; exact Nat.le_trans (Nat.mul_le_mul (show ad ≤ 7 by omega) (show zr ≤ 7 by omega)) (by decide)
      have s1 : IntKind.i64.wrap ((kp : Int) * (za : Int)) = (m1 : Int) := by rw [hm1, show ((kp : Int) * (za : Int)) = ((kp * za : Nat) : Int) by simp]; exact wrap_small (by rw [← hm1]; omega)
      have s2 : IntKind.i64.wrap ((ad : Int) * (zr : Int)) = (m2 : Int) := by rw [hm2, show ((ad : Int) * (zr : Int)) = ((ad * zr : Nat) : Int) by simp]; exact wrap_small (by rw [← hm2]; omega)
      obtain ⟨zn, hzn⟩ : ∃ zn : Nat, zn = (m1 + m2) % p := ⟨_, rfl⟩
      have hznp : zn < p := by rw [hzn]; exact Nat.mod_lt _ (by omega)
      have s4 : ((m1 : Int) + (m2 : Int)).tmod (p : Int) = (zn : Int) := by
        rw [Int.tmod_eq_emod_of_nonneg (by omega), hzn]; simp
      have s5 : ¬ p = 0 := by omega
      have s6 : ((p : Int) == 0) = false := by rw [beq_eq_false_iff_ne]; omega
      have s7 : ¬ (p : Int) = 0 := by omega
      have HEN : Hid (clrE p pl R X t = (zn : Int)) := by
        show _ = _
        unfold clrE
        rw [HKP.out, HAD.out, hza, hzr, hzn, hm1, hm2]; simp
      have HNL : Hid ((ys.set t (zn : Int)).length = d) := by show _ = _; rw [List.length_set]; exact hyl
      have HNK : Hid (∀ c, c < d → (ys.set t (zn : Int)).getD c 0 = if c < t + 1 then clrE p pl R X c else X.getD c 0) := fun c hc => by
        by_cases e : c = t
        · subst e
          rw [if_pos (by omega), HEN.out]
          simp [show c < ys.length by omega]
        · have h2 : (ys.set t (zn : Int)).getD c 0 = ys.getD c 0 := by
            simp only [List.getD_eq_getElem?_getD]
            rw [List.getElem?_set_ne (fun h => e h.symm)]
          rw [h2, HYK.out c hc]
          by_cases h : c < t
          · rw [if_pos h, if_pos (by omega)]
          · rw [if_neg h, if_neg (by omega)]
      have tI : (t : Int) < (d : Int) := by omega
      have tI0 : (0 : Int) ≤ (t : Int) := by omega
      clear hza hzr hzn hoy hyl hyt hm1 hm2
      go_wp2_with fail
      go_big_region
      have HNO : Hid ((wr.setCell ⟨g, t, none⟩ (.int .i64 zn)).drew.ownsRow B 3 1 (.slice (some ⟨g, 0, none⟩) d cap) d (ints (ys.set t (zn : Int)))) := by
        have h1 := (HOY.out.stored t (.int .i64 (zn : Int))).1
        have e : ints (ys.set t (zn : Int)) = (ints ys).set t (.int .i64 (zn : Int)) := by simp [ints, List.map_set]
        show World.ownsRow _ _ _ _ _ _ _
        rw [e]
        exact ⟨h1.1, h1.2⟩
      have HNB : Hid (Onl g w (wr.setCell ⟨g, t, none⟩ (.int .i64 zn)).drew) := (HOO.out.set _ _).drewN 1
      go_wp2
      exact ⟨⟨t + 1, _, by omega, by go_num, HNL.out, HNK.out, HNO.out, HNB.out⟩, by simp [intOf]; omega⟩
    · have hte : t = d := by omega
      subst hte
      have HE : Hid (ys = clrR p pl R X) := by
        refine List.ext_getElem (by rw [clrR_len, HXL.out]; exact HYL.out) fun c h1 h2 => ?_
        have h := HYK.out c (by have := HYL.out; omega)
        rw [if_pos (by have := HYL.out; omega)] at h
        have e1 : ys.getD c 0 = ys[c] := by simp [h1]
        have e2 : (clrR p pl R X).getD c 0 = (clrR p pl R X)[c] := by simp [h2]
        rw [← e1, ← e2, h, clrR_get (by have := HYL.out; have := HXL.out; omega)]
      go_wp2
      go_end0
      exact ⟨rfl, by rw [← HE.out]; exact HOY.out, HOO.out⟩

end Go.Proofs.YtomhhonigffilaaDoor
