/- The row through chosen points. -/
import Derived.Test.YtgjlnhfjgkljdaaRowB
import Derived.Test.YtgjlnhfjgkljdaaOwnA
namespace Go.Proofs.Ytgjlnhfjgkljdaa
open Go.RowKit
attribute [local go_sem ↓] Go.wp_at_zero Go.wp_at_succ

/-- The row that chosen points meet, if there is one alone and no point lies beyond it. -/
def rowT (t P : List (List Int)) : Option (List Int) :=
  if normB t.length (diffL t) = true then
    if (P.any fun x => decide (dotL (normL t.length (diffL t)) (t.getD 0 []) < dotL (normL t.length (diffL t)) x)) = false then some (normL t.length (diffL t) ++ [dotL (normL t.length (diffL t)) (t.getD 0 [])])
    else if (P.any fun x => decide (dotL (normL t.length (diffL t)) x < dotL (normL t.length (diffL t)) (t.getD 0 []))) = false then some ((normL t.length (diffL t) ++ [dotL (normL t.length (diffL t)) (t.getD 0 [])]).map fun z => -z)
    else none
  else none

theorem getD_mem {l : List Int} {i : Nat} (h : i < l.length) : l.getD i 0 ∈ l := by simp [h]

theorem diff_mx {d : Nat} {t : List (List Int)} (h : Box d 30 t) (h1 : 1 ≤ d) (h5 : d ≤ 5) : Mx d 60 (diffL t) := by
  refine ⟨fun r hr => ?_, fun r hr z hz => ?_, h5, h1, by decide, Nat.le_trans (fb_mono (by decide) h5) (by decide)⟩
  · simp only [diffL, List.mem_map] at hr
    obtain ⟨x, hx, rfl⟩ := hr
    rw [subL_length]; exact (h x (List.mem_of_mem_drop hx)).1
  · simp only [diffL, List.mem_map] at hr
    obtain ⟨x, hx, rfl⟩ := hr
    simp only [subL, List.mem_map, List.mem_range] at hz
    obtain ⟨i, hi, rfl⟩ := hz
    have h1 := (h x (List.mem_of_mem_drop hx)).2 (x.getD i 0) (by simp [hi])
    have h2 : -(30 : Int) ≤ (t.getD 0 []).getD i 0 ∧ (t.getD 0 []).getD i 0 ≤ 30 := by
      by_cases ht : 0 < t.length
      · have h3 := h (t.getD 0 []) (by simp [ht])
        by_cases hi2 : i < (t.getD 0 []).length
        · exact h3.2 _ (getD_mem hi2)
        · rw [show (t.getD 0 []).getD i 0 = 0 by simp only [List.getD_eq_getElem?_getD]; rw [List.getElem?_eq_none (by simpa using hi2)]; rfl]; omega
      · have : t = [] := List.eq_nil_of_length_eq_zero (by omega)
        subst this; simp
    omega

theorem muL_len (c : Nat) (rows : List (List Int)) : (muL c rows).length = c := by simp [muL]

theorem norm_len {c : Nat} {m : List (List Int)} (h : normB c m = true) : (normL c m).length = c := by
  unfold normB at h
  unfold normL
  rw [if_pos (of_decide_eq_true h), upr_len, low_len, muL_len]

theorem upr_bd {l : List Int} {b : Nat} (h : ∀ z ∈ l, z.natAbs ≤ b) : ∀ z ∈ Lin.upr l, z.natAbs ≤ b := by
  intro z hz
  unfold Lin.upr at hz
  split at hz
  · simp only [List.mem_map] at hz
    obtain ⟨y, hy, rfl⟩ := hz
    rw [Int.natAbs_neg]; exact h y hy
  · exact h z hz

theorem mu_small {c : Nat} {m : List (List Int)} (hx : Mx c 60 m) (hl : (pickL c m).length + 1 = c) : ∀ z ∈ muL c (pickL c m), z.natAbs ≤ 1000000000000 := by
  intro z hz
  simp only [muL, List.mem_map, List.mem_range] at hz
  obtain ⟨k, hk, rfl⟩ := hz
  unfold Lin.mu
  rw [Int.natAbs_mul]
  have h2 : (Lin.ngo k).natAbs = 1 := by rw [ngo_mod]; by_cases e : k % 2 = 1 <;> simp [e]
  rw [h2, Nat.one_mul, fm_length]
  have h5 : Lin.fb 60 5 = 93312000000 := by decide
  have m2 : Lin.fb 60 (pickL c m).length ≤ Lin.fb 60 5 := fb_mono (by decide) (by have := hx.c5; omega)
  have hb := Lin.od_bd (n := (pickL c m).length) (B := 60) (Lin.cols (fm (pickL c m)) (Lin.skp k)) (fun _ => false) (fun r hr j hj => by
    simp only [Lin.cols, fm, List.mem_map] at hr
    obtain ⟨_, ⟨l, hl', rfl⟩, rfl⟩ := hr
    by_cases hi : Lin.skp k j < l.length
    · exact hx.bd l (pickL_mem hl') _ (by simp [hi])
    · simp only [List.getD_eq_getElem?_getD]; rw [List.getElem?_eq_none (by omega)]; simp) (by rw [Lin.cu_none]; simp [Lin.cols, fm])
  have hl2 : (Lin.cols (fm (pickL c m)) (Lin.skp k)).length = (pickL c m).length := by simp [Lin.cols, fm]
  rw [hl2] at hb
  omega

theorem norm_bd {c : Nat} {m : List (List Int)} (hx : Mx c 60 m) : ∀ z ∈ normL c m, z.natAbs ≤ 1000000000000 := by
  intro z hz
  unfold normL at hz
  split at hz
  · rename_i hl
    exact upr_bd (low_bd (mu_small hx hl)) z hz
  · simp at hz

theorem box_small {d : Nat} {P : List (List Int)} (h : Box d 30 P) {x : List Int} (hx : x ∈ P) : ∀ z ∈ x, z.natAbs ≤ 1000 := fun z hz => by
  have := (h x hx).2 z hz; omega

set_option maxRecDepth 100000 in
theorem normalD_own (B d : Nat) (m : List (List Int)) (v : Value) (w : World) (hx : Mx d 60 m) (hv : Mat B 22 3 w v m) (hl : m.length + 1 = d) :
    Calls Try.prog 50 #[v, .int .i64 d] w fun e w' => ∃ x, e = .returned (.tuple #[x, .bool (normB d m)]) ∧ w'.ownsRow w.heap.size 3 1 x (normL d m).length (ints (normL d m)) ∧ Below w.heap.size w w' := by
  have h5 := hx.c5
  by_cases h0 : m.length = 0
  · have hm : m = [] := List.eq_nil_of_length_eq_zero h0
    subst hm
    have hd : d = 1 := by simp at hl; omega
    subst hd
    obtain ⟨ao, cap, hvv, _, _⟩ := mat_open hv
    subst hvv
    have hn : normL 1 [] = [1] := by decide
    have hb : normB 1 [] = true := by decide
    refine (normal_nil_own ao cap w).mono ?_
    rintro e w' ⟨x, rfl, h1, h2⟩
    exact ⟨x, by rw [hb], by rw [hn]; exact h1, h2⟩
  · exact normalP_own B d m v w hx hv (by omega) (by omega)

/-- A world with one number more, in a block of its own. -/
def Bx (W3 W4 : World) (bv : Int) : Prop := W4.cell? ⟨W3.heap.size, 0, none⟩ = some (.int .i64 bv) ∧ Below W3.heap.size W3 W4 ∧ W4.heap.size = W3.heap.size + 1

theorem bx1 (W3 : World) (k : Nat) (bv : Int) : Bx W3 (((W3.drewN k).alloc (.cells #[.int .i64 0] 3)).setCell ⟨W3.heap.size, 0, none⟩ (.int .i64 bv)) bv := by
  have gen : ∀ W : World, ((W.alloc (.cells #[.int .i64 0] 3)).setCell ⟨W.heap.size, 0, none⟩ (.int .i64 bv)).cell? ⟨W.heap.size, 0, none⟩ = some (.int .i64 bv) := fun W => by simp [go_sem]
  have h0 : Below W3.heap.size W3 (W3.drewN k) := ⟨rfl, rfl, rfl, Nat.le_refl _, fun _ _ => rfl⟩
  refine ⟨gen (W3.drewN k), ?_, ?_⟩
  · exact (h0.alloc (Nat.le_refl _) _).setCell (Nat.le_refl _) _
  · have : ∀ W : World, ((W.alloc (.cells #[.int .i64 0] 3)).setCell ⟨W.heap.size, 0, none⟩ (.int .i64 bv)).heap.size = W.heap.size + 1 := fun W => by simp [World.setCell]
    exact this (W3.drewN k)

theorem bx2 (W3 : World) (k : Nat) (bv : Int) : Bx W3 (((W3.alloc (.cells #[.int .i64 0] 3)).drewN k).setCell ⟨W3.heap.size, 0, none⟩ (.int .i64 bv)) bv := bx1 W3 k bv

theorem dot_small {a x : List Int} (h : Sm a x) : (dotL a x).natAbs ≤ 8000000000000000 := by
  have h1 := sum_sm h a.length (Nat.le_refl _)
  have h2 := h.2.1
  unfold dotL
  omega

set_option maxRecDepth 100000 in
set_option maxHeartbeats 8000000 in
theorem rowThrough_own (B : Nat) (t P : List (List Int)) (u v : Value) (w : World) (hu : Mat B 22 3 w u t) (hv : Mat B 22 3 w v P) (ht : Box t.length 30 t) (hP : Box t.length 30 P) (h1 : 1 ≤ t.length) (h4 : t.length ≤ 4) :
    Calls Try.prog 30 #[u, v] w fun e w' => ∃ x, e = .returned (.tuple #[x, .bool (rowT t P).isSome]) ∧ w'.ownsRow w.heap.size 3 1 x ((rowT t P).getD []).length (ints ((rowT t P).getD [])) ∧ Below w.heap.size w w' := by
  obtain ⟨i3, hi3, hz30, hz31, hz32⟩ := info_parts Try.info3
  obtain ⟨ao, cap, huu, hlc, hcm⟩ := mat_open hu
  obtain ⟨bo, cbp, hvv, hlb, hcb⟩ := mat_open hv
  subst huu hvv
  have HU : Hid (Mat B 22 3 w (.slice ao t.length cap) t) := hu
  have HV : Hid (Mat B 22 3 w (.slice bo P.length cbp) P) := hv
  have HT : Hid (Box t.length 30 t) := ht
  have HPB : Hid (Box t.length 30 P) := hP
  have HMX : Hid (Mx t.length 60 (diffL t)) := diff_mx ht h1 (by omega)
  have HDL : Hid ((diffL t).length + 1 = t.length) := by show _ = _; rw [diffL_length]; omega
  have HRW : Hid (∀ r ∈ t, r.length = t.length) := fun r hr => (ht r hr).1
  have HRB : Hid (∀ r ∈ t, ∀ z ∈ r, z.natAbs ≤ 1000000) := fun r hr z hz => by have := box_small ht hr z hz; omega
  clear hu hv ht hP
  go_enter Try.func30, Try.ntmps30
  go_wp2_with fail
  refine (differences_any B t.length t _ w HU.out h1 (by omega) h1 (by omega) HRW.out HRB.out).mono ?_
  rintro e w1 ⟨x1, rfl, hx1, hb1⟩
  have HB1 : Hid (Below w.heap.size w w1) := hb1
  have HM1 : Hid (Mat w1.heap.size 22 3 w1 x1 (diffL t)) := hx1.mat hb1.size
  obtain ⟨xo, xc, hxv, _, _⟩ := mat_open HM1.out
  subst hxv
  clear hx1 hb1
  go_wp2_with fail
  refine (normalD_own w1.heap.size t.length (diffL t) _ w1 HMX.out HM1.out HDL.out).mono ?_
  rintro e w2 ⟨y, rfl, hy, hb2⟩
  have HB2 : Hid (Below w.heap.size w w2) := HB1.out.trans (hb2.mono HB1.out.size)
  have hy' : w2.ownsRow w.heap.size 3 1 y (normL t.length (diffL t)).length (ints (normL t.length (diffL t))) := hy.mono HB1.out.size
  cases hnb : normB t.length (diffL t)
  · have HRT : Hid (rowT t P = none) := by
      show _ = _
      unfold rowT; rw [if_neg (by rw [hnb]; decide)]
    have HBA : Hid (Below w.heap.size w (w2.alloc (.cells #[y] 22))) := HB2.out.alloc HB2.out.size _
    obtain ⟨yo, yc, hyv⟩ := owns_form hy'
    subst hyv
    clear hb2 hy hy' hnb
    go_wp2
    go_ret2
    exact ⟨_, by rw [HRT.out]; rfl, by rw [HRT.out]; exact World.ownsRow_nil _ _ _ _, HBA.out⟩
  · have hnl := norm_len hnb
    rw [hnl] at hy'
    obtain ⟨g, yc, hyv⟩ := own_some hy' (by omega)
    subst hyv
    obtain ⟨a, ha⟩ : ∃ a, a = normL t.length (diffL t) := ⟨_, rfl⟩
    have HA : Hid (a = normL t.length (diffL t)) := ha
    have HAL : Hid (a.length = t.length) := by show _ = _; rw [ha, hnl]
    have HABD : Hid (∀ z ∈ a, z.natAbs ≤ 1000000000000) := by rw [ha]; exact norm_bd HMX.out
    rw [← ha] at hy'
    have HY : Hid (w2.ownsRow w.heap.size 3 1 (.slice (some ⟨g, 0, none⟩) t.length yc) t.length (ints a)) := hy'
    have HNB : Hid (normB t.length (diffL t) = true) := hnb
    obtain ⟨b0, o0, cp0, r0, hs0, _, hcc0, hr0⟩ := mat_cell HU.out (k := 0) (by omega)
    simp only [Value.slice.injEq] at hs0
    obtain ⟨rfl, _, rfl⟩ := hs0
    have hc0 : w2.cell? ⟨b0, o0, none⟩ = some r0 := (HB2.out.cell (lt_of_cell hcc0)).trans hcc0
    have HR0 : Hid (Sl B 3 w2 r0 (ints (t.getD 0 []))) := hr0.below HB2.out (Nat.le_refl _)
    obtain ⟨ro, rc, hrv, _, _⟩ := sl_open HR0.out
    subst hrv
    clear hb2 hy hy' hnb hcc0 hr0 ha hnl
    obtain ⟨W3, hW3⟩ : ∃ W3, W3 = w2.alloc (.cells #[.slice (some ⟨g, 0, none⟩) t.length yc] 22) := ⟨_, rfl⟩
    have HB3 : Hid (Below w2.heap.size w2 W3) := by rw [hW3]; exact (Below.refl _ _).alloc (Nat.le_refl _) _
    have HBW3 : Hid (Below w.heap.size w W3) := HB2.out.trans (HB3.out.mono HB2.out.size)
    have HY3 : Hid (W3.ownsRow w.heap.size 3 1 (.slice (some ⟨g, 0, none⟩) t.length yc) t.length (ints a)) := by rw [hW3]; exact HY.out.alloc _
    have hc6 : W3.cell? ⟨w2.heap.size, 0, none⟩ = some (.slice (some ⟨g, 0, none⟩) t.length yc) := by rw [hW3]; simp
    have hc03 : W3.cell? ⟨b0, o0, none⟩ = some (.slice ro (t.getD 0 []).length rc) := (HB3.out.cell (lt_of_cell hc0)).trans hc0
    have HS3 : Hid (W3.heap.size = w2.heap.size + 1) := by show _ = _; rw [hW3]; simp
    have HSM : Hid (Sm a (t.getD 0 [])) := by
      have hm : t.getD 0 [] ∈ t := by simp [show 0 < t.length by omega]
      exact ⟨by rw [HAL.out, HRW.out _ hm]; exact Nat.le_refl _, by rw [HAL.out]; omega, HABD.out, box_small HT.out hm⟩
    have HPR : Hid (∀ W, Below W3.heap.size W3 W → Calls Try.prog 51 #[.slice (some ⟨g, 0, none⟩) t.length yc, .slice ro (t.getD 0 []).length rc] W fun e w' => e = .returned (.int .i64 (dotL a (t.getD 0 []))) ∧ ∃ k, w' = W.drewN k) := fun W hW =>
      product_any W3.heap.size a (t.getD 0 []) _ _ W ((Sl.own HY3.out).below hW (Nat.le_refl _)) (((HR0.out.below HB3.out (Nat.le_refl _)).any (Nat.le_refl _)).below hW (Nat.le_refl _)) HSM.out
    have HBD1 : Hid (Below W3.heap.size W3 W3.drew) := (Below.refl _ _).drew
    have HBD2 : Hid (Below W3.heap.size W3 (W3.drew.alloc (.cells #[.int .i64 0] 3))) := (Below.drew (Below.refl _ _)).alloc (Nat.le_refl _) _
    obtain ⟨bv, hbv⟩ : ∃ bv, bv = dotL a (t.getD 0 []) := ⟨_, rfl⟩
    have HBV : Hid (bv = dotL a (t.getD 0 [])) := hbv
    rw [← hbv] at HPR
    clear hbv
    generalize (t.getD 0 []).length = tl at *
    have h0t : 0 < t.length := by omega
    have h0tI : (0 : Int) < (t.length : Int) := by omega
    have gen1 : ∀ W : World, (W.alloc (.cells #[.int .i64 0] 3)).cell? ⟨W.heap.size, 0, none⟩ = some (.int .i64 0) := fun W => by simp
    have gen2 : ∀ W : World, (W.alloc (.cells #[.int .i64 0] 3)).frozen? ⟨W.heap.size, 0, none⟩ = false := fun W => by simp
    have hn1 : ∀ k, ((W3.drewN k).alloc (.cells #[.int .i64 0] 3)).cell? ⟨W3.heap.size, 0, none⟩ = some (.int .i64 0) := fun k => gen1 (W3.drewN k)
    have hn2 : ∀ k, ((W3.drewN k).alloc (.cells #[.int .i64 0] 3)).frozen? ⟨W3.heap.size, 0, none⟩ = false := fun k => gen2 (W3.drewN k)
    have hn3 : (W3.alloc (.cells #[.int .i64 0] 3)).cell? ⟨W3.heap.size, 0, none⟩ = some (.int .i64 0) := gen1 W3
    have hn4 : (W3.alloc (.cells #[.int .i64 0] 3)).frozen? ⟨W3.heap.size, 0, none⟩ = false := gen2 W3
    have hn5 : (W3.alloc (.cells #[.int .i64 0] 3)).cell? ⟨b0, o0, none⟩ = some (.slice ro tl rc) := (((Below.refl W3.heap.size W3).alloc (Nat.le_refl _) _).cell (lt_of_cell hc03)).trans hc03
    have hn6 : (W3.alloc (.cells #[.int .i64 0] 3)).cell? ⟨w2.heap.size, 0, none⟩ = some (.slice (some ⟨g, 0, none⟩) t.length yc) := (((Below.refl W3.heap.size W3).alloc (Nat.le_refl _) _).cell (lt_of_cell hc6)).trans hc6
    clear gen1 gen2
    go_wp2
    rw [← hW3]
    clear hW3
    go_region_law (refine step_call2 (o := { dst := some 26, op := _, type := _, pos := _, after := _, guard := _ }) (by rfl) 51 _ _ 22 22 (by rfl) _ _ (by rfl) (by rfl) ⟨_, Try.func51, by rfl, by rfl⟩ ?_; refine (HPR.out _ (by first | exact HBD1.out | exact HBD2.out)).mono ?_; rintro e w4 ⟨rfl, k, rfl⟩; refine ⟨_, rfl, ?_⟩)
    all_goals
      first
        | (obtain ⟨W4, hW4, HX⟩ : ∃ W4, W4 = ((W3.drewN (1 + k)).alloc (.cells #[.int .i64 0] 3)).setCell ⟨W3.heap.size, 0, none⟩ (.int .i64 bv) ∧ Hid (Bx W3 W4 bv) := ⟨_, rfl, bx1 _ _ _⟩
           rw [← hW4]
           clear hW4)
        | (obtain ⟨W4, hW4, HX⟩ : ∃ W4, W4 = ((W3.alloc (.cells #[.int .i64 0] 3)).drewN (1 + k)).setCell ⟨W3.heap.size, 0, none⟩ (.int .i64 bv) ∧ Hid (Bx W3 W4 bv) := ⟨_, rfl, bx2 _ _ _⟩
           rw [← hW4]
           clear hW4)
    all_goals
      have hc6' : W4.cell? ⟨w2.heap.size, 0, none⟩ = some (.slice (some ⟨g, 0, none⟩) t.length yc) := (HX.out.2.1.cell (lt_of_cell hc6)).trans hc6
      have hcb' : W4.cell? ⟨W3.heap.size, 0, none⟩ = some (.int .i64 bv) := HX.out.1
      have HY4 : Hid (W4.ownsRow w.heap.size 3 1 (.slice (some ⟨g, 0, none⟩) t.length yc) t.length (ints a)) := owns_below HY3.out HX.out.2.1 (Nat.le_refl _)
      have HB4 : Hid (Below w.heap.size w W4) := HBW3.out.trans (HX.out.2.1.mono HBW3.out.size)
      have hs4 : w.heap.size ≤ W4.heap.size := HB4.out.size
      have HG : Hid (w.heap.size ≤ g ∧ g < w2.heap.size) := HY.out.lt g rfl
      have HSZ : Hid (W4.heap.size = w2.heap.size + 2) := by
        have h1 := HX.out.2.2
        have h2 := HS3.out
        show _ = _
        omega
      clear hn1 hn2 hn3 hn4 hn5 hn6 hc6 hc03 hc0
      go_wp2_with (first | (at_builtin; refine wpList_append_keep _ rfl _ _ 22 rfl w.heap.size 3 i3 (.int .i64 0) 8 Try.underlying22 hi3 hz30 hz31 hz32 rfl _ t.length (ints a) rfl (HY4.out.alloc _) h0t ⟨W4.heap.size, 0, none⟩ 1 (.int .i64 bv) rfl (one_new _ _ _) (one_int _) ?d3 ?d4 ?d5 ?_))
      case d3 => unfold maxLen; omega
      case d4 => omega
      case d5 => simp; omega
      intro v' w5 ho hg hkp
      have hbl : ∀ b, b < W4.heap.size → b ≠ g → w5.heap[b]? = W4.heap[b]? := fun b hb hne =>
        (hg.block b (by simp; omega) (by simp [Value.ownBlock, hne])).trans (Below.heap_alloc _ _ _ hb)
      have HB5 : Hid (Below w.heap.size w w5) := (HB4.out.alloc hs4 _).grown hg (by simp; omega) (fun x hx => by simp [Value.ownBlock] at hx; subst hx; exact HG.out.1)
      have HC6 : Hid (w5.cell? ⟨w2.heap.size, 0, none⟩ = some (.slice (some ⟨g, 0, none⟩) t.length yc)) := (World.cell?_of_block (w := W4) (hbl w2.heap.size (by have := HSZ.out; omega) (by have := HG.out; omega))).trans hc6'
      have HCB : Hid (w5.cell? ⟨W3.heap.size, 0, none⟩ = some (.int .i64 bv)) := (World.cell?_of_block (w := W4) (hbl W3.heap.size (by have := HX.out.2.2; omega) (by have := HG.out; have := HS3.out; omega))).trans hcb'
      have HA5 : Hid (Sl w5.heap.size 3 w5 (.slice (some ⟨g, 0, none⟩) t.length yc) (ints a)) := Sl.own hkp
      have HP5 : Hid (Mat w5.heap.size 22 3 w5 (.slice bo P.length cbp) P) := (HV.out.below HB5.out (Nat.le_refl _)).any (Nat.le_refl _)
      have HSP : Hid (∀ x ∈ P, Sm a x) := fun x hx => ⟨by rw [HAL.out, (HPB.out x hx).1]; exact Nat.le_refl _, by rw [HAL.out]; omega, HABD.out, box_small HPB.out hx⟩
      obtain ⟨vo, vc, hvv⟩ := owns_form ho
      subst hvv
      have HRO : Hid (w5.ownsRow w.heap.size 3 1 (.slice vo (t.length + 1) vc) (t.length + 1) (ints (a ++ [bv]))) := by
        have e : ints a ++ [.int .i64 bv] = ints (a ++ [bv]) := by simp [ints]
        rw [← e]; exact ho
      have HRL : Hid ((a ++ [bv]).length = t.length + 1) := by show _ = _; simp [HAL.out]
      have HRBD : Hid (∀ z ∈ a ++ [bv], z.natAbs ≤ 4611686018427387904) := by
        intro z hz
        simp only [List.mem_append, List.mem_singleton] at hz
        rcases hz with hz | rfl
        · have := HABD.out z hz; omega
        · have := dot_small HSM.out
          rw [HBV.out]; omega
      clear ho hg hkp hbl hc6' hcb' HY4
      go_wp2_with fail
      refine (has1_any w5.heap.size a bv P _ _ ⟨w2.heap.size, 0, none⟩ ⟨W3.heap.size, 0, none⟩ w5 HA5.out HP5.out HSP.out HC6.out HCB.out).mono ?_
      rintro e w6 ⟨rfl, n6, hw6⟩
      have HB6 : Hid (Below w.heap.size w w6) := by rw [hw6]; exact HB5.out.trans ⟨rfl, rfl, rfl, Nat.le_refl _, fun _ _ => rfl⟩
      have HR6 : Hid (w6.ownsRow w.heap.size 3 1 (.slice vo (t.length + 1) vc) (t.length + 1) (ints (a ++ [bv]))) := by rw [hw6]; exact HRO.out
      have HW6 : Hid (w6 = w5.drewN n6) := hw6
      clear hw6
      cases hup : P.any (fun x => decide (bv < dotL a x))
      · have HRT : Hid (rowT t P = some (a ++ [bv])) := by
          show _ = _
          unfold rowT
          rw [if_pos HNB.out, ← HA.out, ← HBV.out, if_pos hup]
        clear hup
        go_wp2
        go_ret2
        exact ⟨_, by rw [HRT.out]; rfl, by rw [HRT.out, Option.getD_some, HRL.out]; exact HR6.out, HB6.out⟩
      · have HUP : Hid (P.any (fun x => decide (bv < dotL a x)) = true) := hup
        clear hup
        go_wp2_with fail
        refine (has2_any w5.heap.size a bv P _ _ ⟨w2.heap.size, 0, none⟩ ⟨W3.heap.size, 0, none⟩ w6 (by rw [HW6.out]; exact HA5.out) (by rw [HW6.out]; exact HP5.out) HSP.out (by rw [HW6.out]; exact HC6.out) (by rw [HW6.out]; exact HCB.out)).mono ?_
        rintro e w7 ⟨rfl, n7, hw7⟩
        have HB7 : Hid (Below w.heap.size w w7) := by rw [hw7]; exact HB6.out.trans ⟨rfl, rfl, rfl, Nat.le_refl _, fun _ _ => rfl⟩
        have HR7 : Hid (w7.ownsRow w.heap.size 3 1 (.slice vo (t.length + 1) vc) (t.length + 1) (ints (a ++ [bv]))) := by rw [hw7]; exact HR6.out
        clear hw7
        cases hdn : P.any (fun x => decide (dotL a x < bv))
        · have HRT : Hid (rowT t P = some ((a ++ [bv]).map fun z => -z)) := by
            show _ = _
            unfold rowT
            rw [if_pos HNB.out, ← HA.out, ← HBV.out, if_neg (by rw [HUP.out]; decide), if_pos hdn]
          clear hdn
          go_wp2_with fail
          refine (negated_own w.heap.size (a ++ [bv]) _ w7 (Sl.own HR7.out) (by rw [HRL.out]; omega) HRBD.out).mono ?_
          rintro e w8 ⟨y, rfl, hs8, hb8⟩
          have hs9 := hs8.mono HB7.out.size
          rw [show (a ++ [bv]).length = ((a ++ [bv]).map fun z => -z).length by simp] at hs9
          obtain ⟨yo, yc2, hyv⟩ := owns_form hs9
          subst hyv
          have HS8 : Hid (w8.ownsRow w.heap.size 3 1 (.slice yo ((a ++ [bv]).map fun z => -z).length yc2) ((a ++ [bv]).map fun z => -z).length (ints ((a ++ [bv]).map fun z => -z))) := hs9
          have HB8 : Hid (Below w.heap.size w w8) := HB7.out.trans (hb8.mono HB7.out.size)
          clear hs8 hs9 hb8
          generalize hgl : ((a ++ [bv]).map fun z => -z).length = yl at *
          have HGL : Hid (((a ++ [bv]).map fun z => -z).length = yl) := hgl
          clear hgl
          go_wp2
          go_ret2
          exact ⟨_, by rw [HRT.out]; rfl, by rw [HRT.out, Option.getD_some, HGL.out]; exact HS8.out, HB8.out⟩
        · have HRT : Hid (rowT t P = none) := by
            show _ = _
            unfold rowT
            rw [if_pos HNB.out, ← HA.out, ← HBV.out, if_neg (by rw [HUP.out]; decide), if_neg (by rw [hdn]; decide)]
          clear hdn
          go_wp2
          go_ret2
          exact ⟨_, by rw [HRT.out]; rfl, by rw [HRT.out]; exact World.ownsRow_nil _ _ _ _, HB7.out⟩

theorem rowThrough_any (B : Nat) (t P : List (List Int)) (u v : Value) (w : World) (hu : Mat B 22 3 w u t) (hv : Mat B 22 3 w v P) (ht : Box t.length 30 t) (hP : Box t.length 30 P) (h1 : 1 ≤ t.length) (h4 : t.length ≤ 4) :
    Calls Try.prog 30 #[u, v] w fun e w' => ∃ x, e = .returned (.tuple #[x, .bool (rowT t P).isSome]) ∧ (∀ B, Sl B 3 w' x (ints ((rowT t P).getD []))) ∧ Below w.heap.size w w' :=
  (rowThrough_own B t P u v w hu hv ht hP h1 h4).mono (fun e w' h => by
    obtain ⟨x, h1, h2, h3⟩ := h
    exact ⟨x, h1, fun B => Sl.own h2, h3⟩)

end Go.Proofs.Ytgjlnhfjgkljdaa
