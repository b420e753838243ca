import Derived.Test.YtjpmhgidckmdoaaOrd1
import Derived.Test.YtjpmhgidckmdoaaTwA
import Derived.Test.YtjpmhgidckmdoaaRsl
import Derived.Test.YtjpmhgidckmdoaaSrt1
import Derived.Test.YtjpmhgidckmdoaaWzA
/- exact.Total, cmp.Or, root.byHeight. -/
namespace Go.Proofs.Ytjpmhgidckmdoaa
open Go.RowKit
attribute [local go_sem ↓] Go.wp_at_zero Go.wp_at_succ

set_option maxRecDepth 100000 in
set_option maxHeartbeats 400000 in
theorem totalX_any (B : Nat) (zs : List Int) (v : Value) (w : World) (hv : Sl B 3 w v (ints zs)) (hl : zs.length ≤ 1000) (hb : ∀ z ∈ zs, z.natAbs ≤ 1000000000) :
    Calls Try.prog 28 #[v] w fun e w' => e = .returned (.int .i64 zs.sum) ∧ w' = w := by
  obtain ⟨ao, cap, hvv, hlc, hcm⟩ := sl_open hv
  subst hvv
  have HV : Hid (Sl B 3 w (.slice ao zs.length cap) (ints zs)) := hv
  have HB : Hid (∀ k, k ≤ zs.length → -1000000000000 ≤ (zs.take k).sum ∧ (zs.take k).sum ≤ 1000000000000) := fun k hk => by
    have := sumL_bd k hk hb
    have : 1000000000 * k ≤ 1000000000 * 1000 := Nat.mul_le_mul_left _ (by omega)
    omega
  clear hv hb
  go_enter Try.func28, Try.ntmps28
  go_wp2
  go_loopw [3, 5, 8] (fun s _ i wr => ∃ k : Nat, k ≤ zs.length ∧ i = .int .i64 k ∧ s = .int .i64 (zs.take k).sum ∧ wr = w) (fun _ _ i _ => zs.length - (intOf i).toNat)
  case atStart => exact ⟨0, Nat.zero_le _, rfl, by simp, rfl⟩
  case round =>
    obtain ⟨k, hk, rfl, rfl, rfl⟩ := hrel
    by_cases hlt : k < zs.length
    · obtain ⟨b, o, cp, hs, hc1, hcc⟩ := sl_cell HV.out hlt
      simp only [Value.slice.injEq] at hs
      obtain ⟨rfl, _, rfl⟩ := hs
      have HS : Hid ((zs.take (k + 1)).sum = (zs.take k).sum + zs.getD k 0) := sumL_snoc zs k hlt
      have b1 := HB.out k hk
      have b2 := HB.out (k + 1) hlt
      rw [HS.out] at b2
      generalize zs.getD k 0 = z at *
      generalize (zs.take k).sum = S at *
      go_wp2
      go_roundw
      case rel => exact ⟨k + 1, by omega, by go_num, by rw [HS.out], trivial⟩
      case measure => simp [intOf]; omega
    · have hke : zs.take k = zs := List.take_of_length_le (by omega)
      rw [hke]
      go_wp2
      go_ret
      exact ⟨rfl, rfl⟩

/-- The first that is not 0. -/
def orL : List Int → Int
  | [] => 0
  | z :: l => if z = 0 then orL l else z

theorem orL_zero : ∀ {l : List Int}, (∀ z ∈ l, z = 0) → orL l = 0
  | [], _ => rfl
  | z :: l, h => by
    unfold orL
    rw [if_pos (h z (by simp))]
    exact orL_zero fun x hx => h x (by simp [hx])

theorem orL_at : ∀ {l : List Int} {k : Nat}, k < l.length → (∀ z ∈ l.take k, z = 0) → l.getD k 0 ≠ 0 → orL l = l.getD k 0
  | z :: l, 0, _, _, h => by
    unfold orL
    rw [if_neg (by simpa using h)]
    rfl
  | z :: l, k + 1, hk, h0, h => by
    unfold orL
    rw [if_pos (h0 z (by simp))]
    exact orL_at (k := k) (by simpa using hk) (fun x hx => h0 x (by simp [hx])) (by simpa using h)

set_option maxRecDepth 100000 in
set_option maxHeartbeats 400000 in
theorem orI_any (B : Nat) (zs : List Int) (v : Value) (w : World) (hv : Sl B 3 w v (ints zs)) :
    Calls Try.prog 37 #[v] w fun e w' => e = .returned (.int .i64 (orL zs)) ∧ w' = w := by
  obtain ⟨ao, cap, hvv, hlc, hcm⟩ := sl_open hv
  subst hvv
  have HV : Hid (Sl B 3 w (.slice ao zs.length cap) (ints zs)) := hv
  clear hv
  go_enter Try.func37, Try.ntmps37
  go_wp2
  go_loopw [5, 8] (fun _ i wr => ∃ k : Nat, k ≤ zs.length ∧ i = .int .i64 k ∧ (∀ z ∈ zs.take k, z = 0) ∧ wr = w) (fun _ i _ => zs.length - (intOf i).toNat)
  case atStart => exact ⟨0, Nat.zero_le _, rfl, by simp, rfl⟩
  case round =>
    obtain ⟨k, hk, rfl, hno, rfl⟩ := hrel
    have HN : Hid (∀ z ∈ zs.take k, z = 0) := hno
    clear hno
    by_cases hlt : k < zs.length
    · obtain ⟨b, o, cp, hs, hc1, hcc⟩ := sl_cell HV.out hlt
      simp only [Value.slice.injEq] at hs
      obtain ⟨rfl, _, rfl⟩ := hs
      have HS1 : Hid (zs.getD k 0 = 0 → ∀ z ∈ zs.take (k + 1), z = 0) := fun h z hz => by
        have e : zs.getD k 0 = zs[k] := by simp [hlt]
        rw [List.take_succ_eq_append_getElem hlt, List.mem_append, List.mem_singleton] at hz
        rcases hz with hz | hz
        · exact HN.out z hz
        · rw [hz, ← e, h]
      have HG : Hid (zs.getD k 0 ≠ 0 → orL zs = zs.getD k 0) := fun h => orL_at hlt HN.out h
      generalize zs.getD k 0 = z at *
      cases hf : (z == 0)
      · have hne : z ≠ 0 := by simpa using hf
        have HF : Hid (z ≠ 0) := hne
        clear hne
        go_wp2
        go_ret
        exact ⟨by rw [HG.out HF.out]; rfl, rfl⟩
      · have hf2 : z = 0 := by simpa using hf
        clear hf
        subst hf2
        go_wp2
        go_roundw
        case rel => exact ⟨k + 1, by omega, by go_num, HS1.out rfl, trivial⟩
        case measure => simp [intOf]; omega
    · have hke : zs.take k = zs := List.take_of_length_le (by omega)
      have HE : Hid (orL zs = 0) := orL_zero (by rw [← hke]; exact HN.out)
      go_wp2
      go_ret
      exact ⟨by rw [HE.out]; rfl, rfl⟩

/-- By heights, then in order. -/
def hcf (x y : List Int) : Int := orL [cmpI x.sum y.sum, cmpL x y]

theorem two_sl {B : Nat} {w : World} {a b : Int} : Sl B 3 (w.alloc (.cells #[.int .i64 a, .int .i64 b] 3)) (.slice (some ⟨w.heap.size, 0, none⟩) 2 2) (ints [a, b]) := by
  have hr : (w.alloc (.cells #[.int .i64 a, .int .i64 b] 3)).rowIs w.heap.size 3 2 (fun i => .int .i64 ([a, b].getD i 0)) := by
    refine ⟨#[.int .i64 a, .int .i64 b], heap_alloc_new w _, rfl, fun i hi => ?_⟩
    match i, hi with
    | 0, _ => rfl
    | 1, _ => rfl
  exact row_slT (n := 2) hr (fun i _ => rfl) rfl (Nat.le_refl _) (by decide)

set_option maxRecDepth 100000 in
set_option maxHeartbeats 400000 in
theorem byHeight_any (B : Nat) (x y : List Int) (u v : Value) (w : World) (hu : Sl B 3 w u (ints x)) (hv : Sl B 3 w v (ints y)) (hx : x.length ≤ 1000 ∧ ∀ z ∈ x, z.natAbs ≤ 1000000000) (hy : y.length ≤ 1000 ∧ ∀ z ∈ y, z.natAbs ≤ 1000000000) :
    Calls Try.prog 21 #[u, v] w fun e w' => e = .returned (.int .i64 (hcf x y)) ∧ w' = w.alloc (.cells #[.int .i64 (cmpI x.sum y.sum), .int .i64 (cmpL x y)] 3) := by
  have H1 := totalX_any B x u w hu hx.1 hx.2
  have H2 := totalX_any B y v w hv hy.1 hy.2
  have H3 := cmpI_any x.sum y.sum w
  have H4 := compare_any B x y u v w hu hv
  have H5 := orI_any B [cmpI x.sum y.sum, cmpL x y] _ _ (two_sl (w := w))
  have HH : Hid (hcf x y = orL [cmpI x.sum y.sum, cmpL x y]) := rfl
  obtain ⟨ao, cap, hvv, hlc, hcm⟩ := sl_open hu
  subst hvv
  obtain ⟨bo, cb, hbb, hlb, hcb⟩ := sl_open hv
  subst hbb
  clear hu hv hx hy
  generalize cmpL x y = cl at *
  generalize cmpI x.sum y.sum = ci at *
  generalize x.sum = sx at *
  generalize y.sum = sy at *
  go_enter Try.func21, Try.ntmps21
  go_wp2_with fail
  refine H1.mono ?_
  rintro e w1 ⟨rfl, rfl⟩
  go_wp2_with fail
  refine H2.mono ?_
  rintro e w2 ⟨rfl, rfl⟩
  go_wp2_with fail
  refine H3.mono ?_
  rintro e w3 ⟨rfl, rfl⟩
  go_wp2_with fail
  refine H4.mono ?_
  rintro e w4 ⟨rfl, rfl⟩
  go_wp2_with fail
  refine H5.mono ?_
  rintro e w5 ⟨rfl, rfl⟩
  go_wp2
  go_ret
  exact ⟨by rw [HH.out]; rfl, rfl⟩

theorem cmpI_lt {a b : Int} : cmpI a b < 0 ↔ a < b := by
  unfold cmpI
  by_cases h1 : a < b
  · rw [if_pos h1]; exact ⟨fun _ => h1, fun _ => by decide⟩
  · rw [if_neg h1]
    by_cases h2 : b < a
    · rw [if_pos h2]; exact ⟨fun h => absurd h (by decide), fun h => absurd h h1⟩
    · rw [if_neg h2]; exact ⟨fun h => absurd h (by decide), fun h => absurd h h1⟩

theorem cmpI_zero {a b : Int} : cmpI a b = 0 ↔ a = b := by
  unfold cmpI
  by_cases h1 : a < b
  · rw [if_pos h1]; exact ⟨fun h => absurd h (by decide), fun h => by omega⟩
  · rw [if_neg h1]
    by_cases h2 : b < a
    · rw [if_pos h2]; exact ⟨fun h => absurd h (by decide), fun h => by omega⟩
    · rw [if_neg h2]; exact ⟨fun _ => by omega, fun _ => rfl⟩

theorem hcf_lt (x y : List Int) : hcf x y < 0 ↔ x.sum < y.sum ∨ (x.sum = y.sum ∧ cmpL x y < 0) := by
  unfold hcf orL
  by_cases h : cmpI x.sum y.sum = 0
  · rw [if_pos h]
    have e := cmpI_zero.1 h
    have e2 : orL [cmpL x y] = cmpL x y := by
      unfold orL
      by_cases h2 : cmpL x y = 0
      · rw [if_pos h2, h2]; rfl
      · rw [if_neg h2]
    rw [e2]
    constructor
    · intro h3; exact Or.inr ⟨e, h3⟩
    · rintro (h3 | ⟨_, h3⟩)
      · omega
      · exact h3
  · rw [if_neg h, cmpI_lt]
    have h2 : x.sum ≠ y.sum := fun e => h (cmpI_zero.2 e)
    constructor
    · exact Or.inl
    · rintro (h3 | ⟨h3, _⟩)
      · exact h3
      · exact absurd h3 h2

end Go.Proofs.Ytjpmhgidckmdoaa

/- The roots, sorted by heights. -/
namespace Go.Proofs.Ytjpmhgidckmdoaa
open Go.Shelf Go.RowKit Go.Lib Go.Sort

theorem cmpL_selfH : ∀ x, cmpL x x = 0
  | [] => rfl
  | a :: x => by simp [cmpL, cmpL_selfH x]

theorem cmpL_transH : ∀ x y z, cmpL x y < 0 → cmpL y z < 0 → cmpL x z < 0
  | [], [], _, h, _ => by simp [cmpL] at h
  | [], b :: y, [], _, h => by simp [cmpL] at h
  | [], b :: y, c :: z, _, _ => by simp [cmpL]
  | a :: x, [], _, h, _ => by simp [cmpL] at h
  | a :: x, b :: y, [], _, h => by simp [cmpL] at h
  | a :: x, b :: y, c :: z, h1, h2 => by
    have ih := cmpL_transH x y z
    simp only [cmpL] at *
    split at h1 <;> split at h2 <;> split <;> (try split at h1) <;> (try split at h2) <;> (try split) <;> first | omega | (exact ih h1 h2)

theorem cmpL_ntransH : ∀ x y z, ¬ cmpL x y < 0 → ¬ cmpL y z < 0 → ¬ cmpL x z < 0
  | [], [], z, _, h => h
  | [], b :: y, _, h, _ => by simp [cmpL] at h
  | a :: x, [], [], _, _ => by simp [cmpL]
  | a :: x, [], c :: z, _, h => by simp [cmpL] at h
  | a :: x, b :: y, [], _, _ => by simp [cmpL]
  | a :: x, b :: y, c :: z, h1, h2 => by
    have ih := cmpL_ntransH x y z
    simp only [cmpL] at *
    split at h1 <;> split at h2 <;> split <;> (try split at h1) <;> (try split at h2) <;> (try split) <;> first | omega | (exact ih h1 h2)

def SmX (x : List Int) : Prop := x.length ≤ 1000 ∧ ∀ z ∈ x, z.natAbs ≤ 1000000000

/-- A list and the slice that reads so in w. -/
def RH (w : World) : Type := { p : Value × List Int // Sl 0 3 w p.1 (ints p.2) ∧ SmX p.2 }

instance (w : World) : Inhabited (RH w) := ⟨⟨(.slice none 0 0, []), Sl.nil _ _ _, by decide, fun z hz => by simp at hz⟩⟩

def RH.enc {w : World} (x : RH w) : Value := x.1.1
def RH.cf {w : World} (x y : RH w) : Int := hcf x.1.2 y.1.2

theorem RH.swo (w : World) : SWO (ltOf (RH.cf (w := w))) where
  irrefl x := by
    refine decide_eq_false fun h => ?_
    rcases (hcf_lt _ _).1 h with h | ⟨_, h⟩
    · omega
    · rw [cmpL_selfH] at h; exact absurd h (by decide)
  trans x y z h1 h2 := by
    refine decide_eq_true ((hcf_lt _ _).2 ?_)
    rcases (hcf_lt _ _).1 (of_decide_eq_true h1) with a1 | ⟨a1, b1⟩ <;> rcases (hcf_lt _ _).1 (of_decide_eq_true h2) with a2 | ⟨a2, b2⟩
    · exact Or.inl (by omega)
    · exact Or.inl (by omega)
    · exact Or.inl (by omega)
    · exact Or.inr ⟨by omega, cmpL_transH _ _ _ b1 b2⟩
  ntrans x y z h1 h2 := by
    refine decide_eq_false fun h => ?_
    have g1 := fun k => of_decide_eq_false h1 ((hcf_lt _ _).2 k)
    have g2 := fun k => of_decide_eq_false h2 ((hcf_lt _ _).2 k)
    have p1 : ¬ x.1.2.sum < y.1.2.sum := fun k => g1 (Or.inl k)
    have p2 : ¬ y.1.2.sum < z.1.2.sum := fun k => g2 (Or.inl k)
    rcases (hcf_lt _ _).1 h with a | ⟨a, b⟩
    · omega
    · have e1 : x.1.2.sum = y.1.2.sum := by omega
      have e2 : y.1.2.sum = z.1.2.sum := by omega
      exact cmpL_ntransH _ _ _ (fun k => g1 (Or.inr ⟨e1, k⟩)) (fun k => g2 (Or.inr ⟨e2, k⟩)) b

theorem RH.one (w : World) : OneCell (RH.enc (w := w)) := fun x => by
  obtain ⟨ao, cap, h, _⟩ := x.2.1
  show x.1.1.oneCell' = true
  rw [h]; rfl

theorem sortWorldH_block {α : Type} [Inhabited α] (enc : α → Value) (w : World) (g off q : Nat) (d : Array α) (os : Array Obj) (b : Nat) (hb : b < w.heap.size) (hne : b ≠ g) : (sortWorld enc w g off q d os).heap[b]? = w.heap[b]? := by
  show ((w.heap.modify g _) ++ os)[b]? = _
  rw [Array.getElem?_append_left (by simpa using hb), Array.getElem?_modify, if_neg (fun e => hne e.symm)]

theorem sortWorldH_size {α : Type} [Inhabited α] (enc : α → Value) (w : World) (g off q : Nat) (d : Array α) (os : Array Obj) : w.heap.size ≤ (sortWorld enc w g off q d os).heap.size := by
  show w.heap.size ≤ ((w.heap.modify g _) ++ os).size
  simp

theorem sortWorldH_sl {α : Type} [Inhabited α] {enc : α → Value} {w : World} {g off q : Nat} {d : Array α} {os : Array Obj} {cur : Array Value} {v : Value} {xs : List Value} (hg : w.heap[g]? = some (.cells cur 24 (0, 0))) (h : Sl 0 3 w v xs) : Sl 0 3 (sortWorld enc w g off q d os) v xs :=
  h.move fun b hl ht => by
    rcases ht with ht | ⟨c, ht⟩
    · omega
    · have hne : b ≠ g := by
        rintro rfl
        rw [hg] at ht
        simp at ht
      exact ⟨sortWorldH_block _ _ _ _ _ _ _ b hl hne, Or.inr ⟨c, ht⟩⟩

theorem sortWorldH_row {α : Type} [Inhabited α] (enc : α → Value) (w : World) (g q cap : Nat) (d : Array α) (os : Array Obj) (f : Nat → Value) (h : w.rowIs g 24 cap f) : (sortWorld enc w g 0 q d os).rowIs g 24 cap (fun k => if k < d.size then enc d[k]! else f k) := by
  obtain ⟨c, h1, h2, h3⟩ := h
  have hl := lt_of_block h1
  refine ⟨putCells enc 0 d c, ?_, by simp [putCells, h2], fun i hi => ?_⟩
  · show ((w.heap.modify g _) ++ os)[g]? = _
    rw [Array.getElem?_append_left (by simpa using hl), Array.getElem?_modify, if_pos rfl, h1]
    rfl
  · unfold putCells
    rw [Array.getElem?_mapIdx, h3 i hi]
    simp

theorem rh_at {w : World} (d : Array (RH w)) {i : Nat} (h : i < d.size) : (d.toList.map (fun x : RH w => x.1.2)).getD i [] = (d[i]!).1.2 := by
  rw [getElem!_pos d i h, List.getD_eq_getElem?_getD, List.getElem?_map, List.getElem?_eq_getElem (by simpa using h)]
  rfl

/-- A row of rows in a block of its own, all its cells told. -/
structure RowK (w : World) (g cap : Nat) (f : Nat → Value) (m : List (List Int)) : Prop where
  row : w.rowIs g 24 cap f
  cap1 : m.length ≤ cap
  cap2 : cap ≤ 9223372036854775807
  inn : ∀ i, i < m.length → Sl 0 3 w (f i) (ints (m.getD i []))

theorem Fr.rowK {B : Nat} {w : World} {v : Value} {m : List (List Int)} (h : Fr B 24 3 w v m) (hm : 0 < m.length) : ∃ g cap f, v = .slice (some ⟨g, 0, none⟩) m.length cap ∧ B ≤ g ∧ g < w.heap.size ∧ RowK w g cap f m := by
  obtain ⟨vs, h1, h2, h3⟩ := h
  rcases h2.2 with ⟨_, h0⟩ | ⟨g, cap, cur, hv, hb, hh, hn, hc, hs, ht⟩
  · omega
  · refine ⟨g, cap, fun i => cur.toList.getD i (.slice none 0 0), hv, hb, lt_of_block hh, ⟨cur, hh, by omega, fun i hi => ?_⟩, hn, by unfold maxLen at hc; exact hc, fun i hi => ?_⟩
    · show cur[i]? = some (cur.toList.getD i (.slice none 0 0))
      rw [← Array.getElem?_toList, List.getD_eq_getElem?_getD, List.getElem?_eq_getElem (by simp; omega)]; rfl
    · have e : cur.toList.getD i (.slice none 0 0) = vs.getD i (.slice none 0 0) := by
        rw [← ht]
        simp only [List.getD_eq_getElem?_getD]
        rw [List.getElem?_take_of_lt (by omega)]
      rw [e]; exact h3 i hi

theorem RowK.fr {B : Nat} {w : World} {g cap : Nat} {f : Nat → Value} {m : List (List Int)} (h : RowK w g cap f m) (hB : B ≤ g) : Fr B 24 3 w (.slice (some ⟨g, 0, none⟩) m.length cap) m := by
  obtain ⟨⟨c, h1, h2, h3⟩, h4, h5, h6⟩ := h
  refine ⟨(List.range m.length).map f, by simp, ⟨by simp, Or.inr ⟨g, cap, c, rfl, hB, h1, h4, by unfold maxLen; exact h5, by omega, ?_⟩⟩, fun i hi => ?_⟩
  · apply List.ext_getElem?
    intro i
    by_cases hi : i < m.length
    · rw [List.getElem?_take_of_lt (by omega), Array.getElem?_toList, h3 i (by omega)]; simp [hi]
    · rw [List.getElem?_eq_none (by simp; omega), List.getElem?_eq_none (by simp; omega)]
  · have e : ((List.range m.length).map f).getD i (.slice none 0 0) = f i := by simp [hi]
    rw [e]; exact h6 i hi

set_option maxRecDepth 100000 in
set_option maxHeartbeats 1000000 in
theorem sortH_any (B : Nat) (m : List (List Int)) (v : Value) (w : World) (hv : Fr B 24 3 w v m) (h0 : 0 < m.length) (hm : m.length ≤ 1000000) (hbd : ∀ i, i < m.length → SmX (m.getD i [])) :
    Calls Try.prog 20 #[v, .func (.func 21) #[] #[]] w fun e w' => e = .returned (.tuple #[]) ∧ ∃ m' : List (List Int), m'.Perm m ∧ (∀ i j, i < j → j < m'.length → ¬ hcf (m'.getD j []) (m'.getD i []) < 0) ∧ Fr B 24 3 w' v m' ∧ Below B w w' := by
  obtain ⟨g, cap, f, hvv, hBg, hgw, hrm⟩ := hv.rowK (by omega)
  subst hvv
  obtain ⟨cur, hcur, _⟩ := hrm.row
  obtain ⟨d, hd⟩ : ∃ d : Array (RH w), d = Array.ofFn (fun i : Fin m.length => (⟨(f i, m.getD i []), hrm.inn i i.2, hbd i i.2⟩ : RH w)) := ⟨_, rfl⟩
  have hds : d.size = m.length := by rw [hd]; exact Array.size_ofFn
  have hdi : ∀ j (hj : j < m.length), d[j]! = (⟨(f j, m.getD j []), hrm.inn j hj, hbd j hj⟩ : RH w) := fun j hj => by
    rw [getElem!_pos d j (by omega)]
    subst hd
    exact Array.getElem_ofFn _
  have hH : Holds (RH.enc (w := w)) w g 0 d := fun j hj => by
    rw [hds] at hj
    rw [hdi j hj, Nat.zero_add]
    exact ⟨hrm.row.cell (Nat.lt_of_lt_of_le hj hrm.cap1), hrm.row.frozen j⟩
  have eg : ∀ args w, (callFunc 21 args).run Try.prog w = .ok (.enter 21 args) w := enters_of Try.func21 (by kernel_rfl) rfl
  have hcmp : CmpLays1 Try.prog 21 #[] (RH.enc (w := w)) RH.cf g 0 d.size w := fun q os dk _ x y =>
    (byHeight_any 0 x.1.2 y.1.2 x.1.1 y.1.1 _ (sortWorldH_sl hcur x.2.1) (sortWorldH_sl hcur y.2.1) x.2.2 y.2.2).mono fun e w' ⟨he, hw⟩ => ⟨he, 0, #[.cells #[.int .i64 (cmpI x.1.2.sum y.1.2.sum), .int .i64 (cmpL x.1.2 y.1.2)] 3 (0, 0)], by rw [hw]; rfl⟩
  have hcon := Any.slices_SortFunc Try.sortM (RH.enc (w := w)) (RH.one w) RH.cf (RH.swo w) 21 #[] g 0 cap d w eg hcmp hH hgw (by omega)
  change Calls Try.prog 20 _ _ _ at hcon
  rw [hds] at hcon
  refine hcon.mono ?_
  rintro e w' ⟨rfl, d', q, os, ⟨hp1, hp2, hp3⟩, hs, rfl⟩
  have hd's : d'.size = m.length := by omega
  refine ⟨rfl, d'.toList.map (fun x => x.1.2), ?_, ?_, ?_, ?_⟩
  · have e1 : (d'.extract 0 m.length).toList = d'.toList := by rw [Array.toList_extract]; simp; exact List.take_of_length_le (by simp; omega)
    have e2 : (d.extract 0 m.length).toList = d.toList := by rw [Array.toList_extract]; simp; exact List.take_of_length_le (by simp; omega)
    rw [e1, e2] at hp3
    have hm' : d.toList.map (fun x : RH w => x.1.2) = m := by
      apply List.ext_getElem (by simp [hds])
      intro i h1 h2
      have h3 := rh_at d (i := i) (by omega)
      rw [hdi i h2] at h3
      have h4 : (d.toList.map (fun x : RH w => x.1.2)).getD i [] = (d.toList.map (fun x : RH w => x.1.2))[i] := by rw [List.getD_eq_getElem?_getD, List.getElem?_eq_getElem h1]; rfl
      have h5 : m.getD i [] = m[i] := by rw [List.getD_eq_getElem?_getD, List.getElem?_eq_getElem h2]; rfl
      rw [← h4, h3, ← h5]
    rw [← hm']
    exact hp3.map _
  · intro i j hij hj
    have hj' : j < m.length := by simpa [hd's] using hj
    have h := hs i j (Nat.zero_le _) hij hj'
    have h := of_decide_eq_false h
    rw [rh_at d' (by omega), rh_at d' (by omega)]; exact h
  · have hlen : (d'.toList.map (fun x : RH w => x.1.2)).length = m.length := by simp [hd's]
    have hr' : RowK (sortWorld (RH.enc (w := w)) w g 0 q d' os) g cap (fun k => if k < d'.size then RH.enc d'[k]! else f k) (d'.toList.map (fun x => x.1.2)) := by
      refine ⟨sortWorldH_row _ _ _ _ _ _ _ _ hrm.row, by rw [hlen]; exact hrm.cap1, hrm.cap2, fun i hi => ?_⟩
      rw [hlen] at hi
      simp only [show i < d'.size by omega, if_true]
      rw [rh_at d' (by omega)]
      exact sortWorldH_sl hcur (d'[i]!).2.1
    have := hr'.fr hBg
    rw [hlen] at this
    exact this
  · exact ⟨rfl, rfl, rfl, sortWorldH_size _ _ _ _ _ _ _, fun b hb => sortWorldH_block _ _ _ _ _ _ _ b (by omega) (by omega)⟩

end Go.Proofs.Ytjpmhgidckmdoaa
