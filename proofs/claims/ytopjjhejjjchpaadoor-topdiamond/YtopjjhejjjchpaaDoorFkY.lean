import Derived.Test.YtopjjhejjjchpaaDoorOfAll
import Derived.Test.YtopjjhejjjchpaaDoorWiA
import Derived.Test.YtopjjhejjjchpaaDoorStepsAll
import Derived.Lib.JoinLaws
import Derived.Test.YtopjjhejjjchpaaDoorWyY
/- choose.Picked over rows, with a capacity. -/
namespace Go.Proofs.YtopjjhejjjchpaaDoor
open Go.RowKit

theorem pkd_snoc (P : List (List Int)) (x : List Int) (k : Nat) (h : k < x.length) : pks P [] (x.take (k + 1)) = pks P [] (x.take k) ++ [P.getD (x.getD k 0).toNat []] := by
  rw [take_snoc_int x k h]
  simp [pks]

set_option maxRecDepth 100000 in
set_option maxHeartbeats 800000 in
theorem pickedK_any (B : Nat) (P : List (List Int)) (x : List Int) (v u : Value) (w : World) (hv : Mat B 22 3 w v P) (hu : Sl B 3 w u (ints x)) (hx : ∀ i, i < x.length → 0 ≤ x.getD i 0 ∧ x.getD i 0 < P.length) (hl : x.length ≤ 1000) :
    Calls Tryd.prog 32 #[v, u] w fun e w' => ∃ z, e = .returned z ∧ Rws w.heap.size 22 3 w' z (pks P [] x) ∧ Below w.heap.size w w' := by
  obtain ⟨i0, hi, hz0, hz1, hz2⟩ := info_parts Tryd.info22
  obtain ⟨ao, cap, hvv, hlc, hcm⟩ := mat_open hv
  obtain ⟨bo, cbp, huu, hlb, hcb⟩ := sl_open hu
  subst hvv huu
  have HV : Hid (Mat w.heap.size 22 3 w (.slice ao P.length cap) P) := hv.any (Nat.le_refl _)
  have HU : Hid (Sl B 3 w (.slice bo x.length cbp) (ints x)) := hu
  have HX : Hid (∀ i, i < x.length → 0 ≤ x.getD i 0 ∧ x.getD i 0 < P.length) := hx
  clear hv hu hx
  have hmk := run_make_room (P := Tryd.prog) 28 22 (.slice none 0 0) 24 Tryd.underlying28 Tryd.info22 rfl .i64 .i64 x.length (by omega) (by omega)
  have HO0 : Hid (Rws w.heap.size 22 3 (w.alloc (.cells (madeCells #[.slice none 0 0] x.length) 22)) (.slice (some ⟨w.heap.size, 0, none⟩) 0 x.length) []) :=
    ⟨[], rfl, World.ownsRow_made w _ x.length (Nat.le_refl _) (by unfold maxLen; omega) (by rw [size_madeCells]; omega), fun i hi => absurd hi (by simp)⟩
  have HB0 : Hid (Below w.heap.size w (w.alloc (.cells (madeCells #[.slice none 0 0] x.length) 22))) := alloc_keep _ _
  go_enter Tryd.func32, Tryd.ntmps32
  go_wp2
  go_loopw [5, 13, 7] (fun s i _ wr => ∃ k : Nat, k ≤ x.length ∧ i = .int .i64 k ∧ Rws w.heap.size 22 3 wr s (pks P [] (x.take k)) ∧ Below w.heap.size w wr) (fun _ i _ _ => x.length - (intOf i).toNat)
  case atStart => exact ⟨0, Nat.zero_le _, rfl, HO0.out, HB0.out⟩
  case round =>
    obtain ⟨k, hk, rfl, hr, hb⟩ := hrel
    have HR : Hid (Rws w.heap.size 22 3 wr u5 (pks P [] (x.take k))) := hr
    have HB : Hid (Below w.heap.size w wr) := hb
    have hsz : w.heap.size ≤ wr.heap.size := hb.size
    clear hr hb
    by_cases hlt : k < x.length
    · obtain ⟨b, o, cp, hs, hc1, hcc⟩ := sl_cell (HU.out.below HB.out (Nat.le_refl _)) hlt
      simp only [Value.slice.injEq] at hs
      obtain ⟨rfl, _, rfl⟩ := hs
      obtain ⟨hx0, hx1⟩ := HX.out k hlt
      have HSN : Hid (pks P [] (x.take (k + 1)) = pks P [] (x.take k) ++ [P.getD (x.getD k 0).toNat []]) := pkd_snoc P x k hlt
      have HLN : Hid ((pks P [] (x.take k)).length = k) := by show _ = _; simp [pks]; omega
      obtain ⟨q, hq⟩ : ∃ q : Nat, x.getD k 0 = (q : Int) := ⟨(x.getD k 0).toNat, by omega⟩
      rw [hq] at hcc hx0 hx1 HSN
      rw [show ((q : Int)).toNat = q by omega] at HSN
      clear hq
      have hqP : q < P.length := by omega
      obtain ⟨b2, o2, cp2, r2, hs2, _, hcc2, hr2⟩ := mat_cell (HV.out.below HB.out (Nat.le_refl _)) hqP
      simp only [Value.slice.injEq, true_and] at hs2
      obtain ⟨rfl, rfl⟩ := hs2
      obtain ⟨ro, rc, hrv, _, _⟩ := sl_open hr2
      subst hrv
      have HR2 : Hid (Sl w.heap.size 3 wr (.slice ro (P.getD q []).length rc) (ints (P.getD q []))) := hr2
      clear hr2
      generalize P.getD q [] = y at *
      generalize hyl : y.length = yl at *
      clear hyl
      obtain ⟨vs, g1, g2, g3⟩ := HR.out
      have hlen := HLN.out
      rw [hlen] at g1 g2 g3
      have G1 : Hid (vs.length = k) := g1
      have G2 : Hid (wr.ownsRow w.heap.size 22 1 u5 k vs) := g2
      have G3 : Hid (∀ i, i < k → Sl w.heap.size 3 wr (vs.getD i (.slice none 0 0)) (ints ((pks P [] (x.take k)).getD i []))) := g3
      clear g1 g2 g3 hlen
      go_wp2_with (first | (at_builtin; refine wpList_append_own _ rfl _ _ 28 rfl w.heap.size 22 i0 (.slice none 0 0) 1 24 Tryd.underlying28 hi hz0 hz1 hz2 rfl (by decide) _ _ _ rfl (G2.out.alloc _) ⟨wr.heap.size, 0, none⟩ 1 1 [.slice ro yl rc] rfl rfl (one_new _ _ _) (one_slice _ _ _) ?d3 ?d4 ?d5 ?_))
      case d3 => unfold maxLen; omega
      case d4 => omega
      case d5 => simp; omega
      intro v' w3 ho hg _
      have R1 : Hid (Rws w.heap.size 22 3 w3 v' (pks P [] (x.take (k + 1)))) := by
        have hp := Rws.push (e2 := 22) (e1 := 3) (m := pks P [] (x.take k)) (u := .slice ro yl rc) (zs := y) (by decide) (by rw [HLN.out]; exact G1.out) (by rw [HLN.out]; exact G2.out.alloc _)
          (fun i hi => (G3.out i (by rw [HLN.out] at hi; exact hi)).alloc _) (HR2.out.alloc _) (by rw [HLN.out]; exact ho) hg
        rw [← HSN.out] at hp
        exact hp
      have R2 : Hid (Below w.heap.size w w3) := (HB.out.alloc hsz _).grown hg (by simp; omega) (fun x hx => (G2.out.lt x hx).1)
      clear ho hg
      go_wp2
      go_roundw
      case rel => exact ⟨k + 1, by omega, by go_num, R1.out, R2.out⟩
      case measure => simp [intOf]; omega
    · have hke : x.take k = x := List.take_of_length_le (by omega)
      have HR' : Hid (Rws w.heap.size 22 3 wr u5 (pks P [] x)) := by have := HR.out; rw [hke] at this; exact this
      clear HR
      go_wp2
      go_ret
      exact ⟨_, rfl, HR'.out, HB.out⟩
end Go.Proofs.YtopjjhejjjchpaaDoor

/- Farkas's lemma (after Bartl): what is no sum of so much of rows lies beyond a plane that they don't cross (pure). -/
namespace Go.Proofs.YtopjjhejjjchpaaDoor
open Lin

/-- So much of each row, added: the j-th number. -/
def sm (t : List (Nat → Int)) (a : Nat → Int) (j : Nat) : Int := sumN t.length fun i => a i * (t.getD i fun _ => 0) j

theorem sumN_shift : ∀ (n : Nat) (f : Nat → Int), sumN (n + 1) f = f 0 + sumN n fun i => f (i + 1)
  | 0, f => by simp [sumN]
  | n + 1, f => by
    have h := sumN_shift n f
    show sumN (n + 1) f + f (n + 1) = f 0 + (sumN n (fun i => f (i + 1)) + f (n + 1))
    rw [h]; omega

theorem sm_cons (r : Nat → Int) (t : List (Nat → Int)) (a : Nat → Int) (j : Nat) : sm (r :: t) a j = a 0 * r j + sm t (fun i => a (i + 1)) j := by
  unfold sm
  rw [List.length_cons, sumN_shift]
  rfl

theorem sm_nil (a : Nat → Int) (j : Nat) : sm [] a j = 0 := rfl

theorem sm_lc (t : List (Nat → Int)) (x y : Int) (a b : Nat → Int) (j : Nat) : sm t (fun i => x * a i + y * b i) j = x * sm t a j + y * sm t b j := by
  unfold sm
  rw [← sumN_mul, ← sumN_mul, ← sumN_add]
  exact sumN_congr fun i _ => by grind

theorem sm_congr {t : List (Nat → Int)} {a b : Nat → Int} (h : ∀ i, i < t.length → a i = b i) (j : Nat) : sm t a j = sm t b j :=
  sumN_congr fun i hi => by rw [h i hi]

/-- A direction's product with a sum. -/
theorem dot_sm (d : Nat) (c : Nat → Int) (t : List (Nat → Int)) (a : Nat → Int) : dot d c (sm t a) = sumN t.length fun i => a i * dot d c (t.getD i fun _ => 0) := by
  unfold dot sm
  have : (fun j => c j * sumN t.length fun i => a i * (t.getD i fun _ => 0) j) = fun j => sumN t.length fun i => c j * (a i * (t.getD i fun _ => 0) j) := by
    funext j; rw [sumN_mul]
  rw [this, sumN_swap]
  refine sumN_congr fun i _ => ?_
  rw [← sumN_mul]
  exact sumN_congr fun j _ => by grind

theorem sumN_nonpos {n : Nat} {f : Nat → Int} (h : ∀ i, i < n → f i ≤ 0) : sumN n f ≤ 0 := by
  induction n with
  | zero => simp [sumN]
  | succ n ih =>
    have h1 := ih fun i hi => h i (by omega)
    have h2 := h n (by omega)
    show sumN n f + f n ≤ 0
    omega

theorem getD_memF {Z : List (Nat → Int)} {i : Nat} (h : i < Z.length) : (Z.getD i fun _ => 0) ∈ Z := by simp [h]

/-- The goal is a sum of so much of rows, from 0 on. -/
def InC (d : Nat) (Z : List (Nat → Int)) (g : Nat → Int) : Prop :=
  ∃ (s : Int) (a : Nat → Int), 0 < s ∧ (∀ i, i < Z.length → 0 ≤ a i) ∧ ∀ j, j < d → s * g j = sm Z a j

theorem farkas (d : Nat) : ∀ (n : Nat) (Z : List (Nat → Int)), Z.length = n → ∀ g : Nat → Int, InC d Z g ∨ ∃ c : Nat → Int, (∀ z ∈ Z, dot d c z ≤ 0) ∧ 0 < dot d c g := by
  intro n
  induction n with
  | zero =>
    intro Z hZ g
    have : Z = [] := List.eq_nil_of_length_eq_zero hZ
    subst this
    by_cases h : ∃ i, i < d ∧ g i ≠ 0
    · exact .inr ⟨g, fun z hz => by simp at hz, dot_pos h⟩
    · refine .inl ⟨1, fun _ => 0, by decide, fun i hi => by simp at hi, fun j hj => ?_⟩
      rw [sm_nil]
      have : g j = 0 := Classical.byContradiction fun hne => h ⟨j, hj, hne⟩
      rw [this]; rfl
  | succ n ih =>
    intro Z hZ g
    match Z, hZ with
    | z0 :: Z', hZ =>
      have hl : Z'.length = n := by simpa using hZ
      rcases ih Z' hl g with ⟨s, a, hs, ha, he⟩ | ⟨c, hc, hg⟩
      · refine .inl ⟨s, fun i => if i = 0 then 0 else a (i - 1), hs, fun i hi => ?_, fun j hj => ?_⟩
        · by_cases h0 : i = 0
          · simp [h0]
          · simp only [h0, if_false]
            exact ha _ (by simp at hi; omega)
        · rw [sm_cons, he j hj]
          simp
      · by_cases hz0 : dot d c z0 ≤ 0
        · exact .inr ⟨c, fun z hz => by
            rcases List.mem_cons.1 hz with rfl | hz
            · exact hz0
            · exact hc z hz, hg⟩
        · obtain ⟨p, hp⟩ : ∃ p, p = dot d c z0 := ⟨_, rfl⟩
          have hp0 : 0 < p := by omega
          rcases ih (Z'.map fun z => fun k => p * z k + (-(dot d c z)) * z0 k) (by simpa using hl) (fun k => p * g k + (-(dot d c g)) * z0 k) with ⟨s, a, hs, ha, he⟩ | ⟨e, h1, h2⟩
          · have key : ∀ j, sm (Z'.map fun z => fun k => p * z k + (-(dot d c z)) * z0 k) a j = p * sm Z' a j - dot d c (sm Z' a) * z0 j := by
              intro j
              rw [dot_sm]
              unfold sm
              rw [List.length_map, ← sumN_mul, ← sumN_mul_right, Int.sub_eq_add_neg, ← sumN_neg, ← sumN_add]
              refine sumN_congr fun i hi => ?_
              have e1 : (Z'.map fun z => fun k => p * z k + (-(dot d c z)) * z0 k).getD i (fun _ => 0) = fun k => p * (Z'.getD i fun _ => 0) k + (-(dot d c (Z'.getD i fun _ => 0))) * z0 k := by
                simp [hi]
              rw [e1]
              grind
            have hq : dot d c (sm Z' a) ≤ 0 := by
              rw [dot_sm]
              refine sumN_nonpos fun i hi => ?_
              exact Int.mul_nonpos_of_nonneg_of_nonpos (ha i (by simpa using hi)) (hc _ (getD_memF hi))
            refine .inl ⟨s * p, fun i => if i = 0 then s * dot d c g - dot d c (sm Z' a) else p * a (i - 1), Int.mul_pos hs hp0, fun i hi => ?_, fun j hj => ?_⟩
            · by_cases h0 : i = 0
              · simp only [h0, if_true]
                have := Int.mul_pos hs hg
                omega
              · simp only [h0, if_false]
                exact Int.mul_nonneg (Int.le_of_lt hp0) (ha _ (by simp at hi ⊢; omega))
            · have h3 := he j hj
              rw [key j] at h3
              rw [sm_cons]
              have e2 : sm Z' (fun i => if i + 1 = 0 then s * dot d c g - dot d c (sm Z' a) else p * a (i + 1 - 1)) j = p * sm Z' a j := by
                have := sm_lc Z' p 0 a a j
                rw [Int.zero_mul, Int.add_zero] at this
                rw [← this]
                exact sm_congr (fun i _ => by simp) j
              rw [e2]
              simp only [if_true]
              grind
          · refine .inr ⟨fun k => p * e k + (-(dot d e z0)) * c k, fun z hz => ?_, ?_⟩
            · rw [dot_lc]
              rcases List.mem_cons.1 hz with rfl | hz
              · rw [← hp]; have : p * dot d e z + -dot d e z * p = 0 := by grind
                omega
              · have h3 := h1 _ (List.mem_map.2 ⟨z, hz, rfl⟩)
                rw [dot_comm, dot_lc, dot_comm d z, dot_comm d z0] at h3
                have : p * dot d e z + -dot d e z0 * dot d c z = p * dot d e z + -dot d c z * dot d e z0 := by grind
                omega
            · rw [dot_lc]
              rw [dot_comm, dot_lc, dot_comm d g, dot_comm d z0] at h2
              have : p * dot d e g + -dot d e z0 * dot d c g = p * dot d e g + -dot d c g * dot d e z0 := by grind
              omega

end Go.Proofs.YtopjjhejjjchpaaDoor

/- Caratheodory: a goal that is a sum of so much of rows is one of rows that don't hang on each other, and says no more (pure). -/
namespace Go.Proofs.YtopjjhejjjchpaaDoor
open Lin

/-- So much of each row, added: the j-th number. -/
def sv (t : List (List Int)) (a : Nat → Int) (j : Nat) : Int := sm (t.map V) a j

end Go.Proofs.YtopjjhejjjchpaaDoor
