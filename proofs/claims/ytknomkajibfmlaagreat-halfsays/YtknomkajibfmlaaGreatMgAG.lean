import Derived.Test.YtknomkajibfmlaaGreatLin10
import Derived.Test.YtknomkajibfmlaaGreatMgAF
import Derived.Test.YtknomkajibfmlaaGreatMgAA
import Derived.Deep.Onto
/- The program's rank and determinant. -/
namespace Go.Proofs.YtknomkajibfmlaaGreat
open Go.RowKit Lin
attribute [local go_sem ↓] Go.wp_at_zero Go.wp_at_succ

theorem bd60 {c : Nat} {m : List (List Int)} (hx : Mx c 60 m) : Bd (mOf m) m.length c := bd_of hx (by decide) had60

end Go.Proofs.YtknomkajibfmlaaGreat

/- slices.Contains over numbers. -/
namespace Go.Proofs.YtknomkajibfmlaaGreat
open Go.RowKit
attribute [local go_sem ↓] Go.wp_at_zero Go.wp_at_succ

theorem anyK_contains (zs : List Int) (x : Int) : zs.any (fun z => z == x) = zs.contains x := by
  rw [Bool.eq_iff_iff]; simp

theorem anyK_snoc {α : Type} {p : α → Bool} {l : List α} {d : α} {k : Nat} (h : k < l.length) (h0 : (l.take k).any p = false) : (l.take (k + 1)).any p = p (l.getD k d) := by
  rw [List.take_succ_eq_append_getElem h, List.any_append, h0]; simp [h]

theorem anyK_get {α : Type} {p : α → Bool} {l : List α} {d : α} {k : Nat} (h : k < l.length) (h0 : p (l.getD k d) = true) : l.any p = true :=
  List.any_eq_true.2 ⟨l.getD k d, by simp [h], h0⟩

set_option maxRecDepth 100000 in
set_option maxHeartbeats 400000 in
theorem indexK_any (B : Nat) (x : Int) (zs : List Int) (v : Value) (w : World) (hv : Sl B 3 w v (ints zs)) :
    Calls Tryz.prog 105 #[v, .int .i64 x] w fun e w' => ∃ k : Int, e = .returned (.int .i64 k) ∧ decide (0 ≤ k) = zs.contains x ∧ w' = w := by
  obtain ⟨ao, cap, hvv, hlc, hcm⟩ := sl_open hv
  subst hvv
  have HV : Hid (Sl B 3 w (.slice ao zs.length cap) (ints zs)) := hv
  clear hv
  rw [← anyK_contains]
  go_enter Tryz.func105, Tryz.ntmps105
  go_wp2
  go_loopw [8, 5] (fun i _ wr => ∃ k : Nat, k ≤ zs.length ∧ i = .int .i64 k ∧ (zs.take k).any (fun z => z == x) = false ∧ wr = w) (fun i _ _ => zs.length - (intOf i).toNat)
  case atStart => exact ⟨0, Nat.zero_le _, rfl, by simp, rfl⟩
  case round =>
    obtain ⟨k, hk, rfl, hno, rfl⟩ := hrel
    have HN : Hid ((zs.take k).any (fun z => z == x) = false) := hno
    clear hno
    by_cases hlt : k < zs.length
    · obtain ⟨b, o, cp, hs, hc1, hcc⟩ := sl_cell HV.out hlt
      simp only [Value.slice.injEq] at hs
      obtain ⟨rfl, _, rfl⟩ := hs
      have HS1 : Hid ((zs.take (k + 1)).any (fun z => z == x) = (zs.getD k 0 == x)) := anyK_snoc (p := fun z => z == x) hlt HN.out
      have HG : Hid ((zs.getD k 0 == x) = true → zs.any (fun z => z == x) = true) := fun h => anyK_get (p := fun z => z == x) hlt h
      generalize zs.getD k 0 = z at *
      cases hf : (x == z)
      · have HF : Hid ((z == x) = false) := by rw [beq_eq_false_iff_ne] at hf ⊢; exact fun e => hf e.symm
        go_wp2
        go_roundw
        case rel => exact ⟨k + 1, by omega, by go_num, by rw [HS1.out]; exact HF.out, trivial⟩
        case measure => simp [intOf]; omega
      · have HF : Hid ((z == x) = true) := by rw [beq_iff_eq] at hf ⊢; exact hf.symm
        have HK : Hid (decide ((0 : Int) ≤ (k : Int)) = true) := decide_eq_true (by omega)
        go_wp2
        go_ret
        exact ⟨k, rfl, by rw [HK.out, HG.out HF.out], rfl⟩
    · have hke : zs.take k = zs := List.take_of_length_le (by omega)
      have HE : Hid (zs.any (fun z => z == x) = false) := by rw [← hke]; exact HN.out
      go_wp2
      go_ret
      exact ⟨-1, rfl, by rw [HE.out]; rfl, rfl⟩

set_option maxRecDepth 100000 in
theorem containsK_any (B : Nat) (x : Int) (zs : List Int) (v : Value) (w : World) (hv : Sl B 3 w v (ints zs)) :
    Calls Tryz.prog 97 #[v, .int .i64 x] w fun e w' => e = .returned (.bool (zs.contains x)) ∧ w' = w := by
  obtain ⟨ao, cap, hvv, hlc, hcm⟩ := sl_open hv
  subst hvv
  have HI : Hid (Calls Tryz.prog 105 #[.slice ao zs.length cap, .int .i64 x] w fun e w' => ∃ k : Int, e = .returned (.int .i64 k) ∧ decide (0 ≤ k) = zs.contains x ∧ w' = w) := indexK_any B x zs _ w hv
  clear hv
  generalize zs.contains x = c at *
  go_enter Tryz.func97, Tryz.ntmps97
  go_wp2_with fail
  refine HI.out.mono ?_
  rintro e w' ⟨k, rfl, hk, rfl⟩
  have HK : Hid (decide (0 ≤ k) = c) := hk
  clear hk
  go_wp2
  go_ret
  exact ⟨ret_bool HK.out, rfl⟩

end Go.Proofs.YtknomkajibfmlaaGreat

/- The program's normal. -/
namespace Go.Proofs.YtknomkajibfmlaaGreat
open Go.RowKit Lin
attribute [local go_sem ↓] Go.wp_at_zero Go.wp_at_succ

/-- The list while it is filled: the place of the free column, then those of the first t pivots. -/
def nv (val : Int) (f : Nat) (D : Nat → Int) (C : Nat → Nat) : Nat → Nat → Int
  | 0 => fun j => if j = f then val else 0
  | t + 1 => fun j => if j = C t then - D t else nv val f D C t j

theorem nv_off {val : Int} {f : Nat} {D : Nat → Int} {C : Nat → Nat} {j : Nat} : ∀ {t}, (∀ a, a < t → C a ≠ j) → nv val f D C t j = if j = f then val else 0
  | 0, _ => rfl
  | t + 1, h => by
    unfold nv
    rw [if_neg (fun e => h t (by omega) e.symm)]
    exact nv_off fun a ha => h a (by omega)

theorem nv_at {val : Int} {f : Nat} {D : Nat → Int} {C : Nat → Nat} : ∀ {t a}, a < t → (∀ a b, a < b → b < t → C a < C b) → nv val f D C t (C a) = - D a
  | t + 1, a, ha, h => by
    unfold nv
    by_cases e : a = t
    · subst e; rw [if_pos rfl]
    · have := h a t (by omega) (by omega)
      rw [if_neg (by omega)]
      exact nv_at (by omega) fun a b h1 h2 => h a b h1 (by omega)

theorem nv_bd {val : Int} {f : Nat} {D : Nat → Int} {C : Nat → Nat} {b : Nat} : ∀ {t j}, val.natAbs ≤ b → (∀ a, a < t → (D a).natAbs ≤ b) → (nv val f D C t j).natAbs ≤ b
  | 0, j, h, _ => by unfold nv; split; exact h; simp
  | t + 1, j, h, hd => by
    unfold nv
    split
    · have := hd t (by omega); omega
    · exact nv_bd h fun a ha => hd a (by omega)

/-- All columns but one are pivots': the free one is told. -/
theorem nu_of {M' : Nat → Nat → Int} {c k f : Nat} {C : Nat → Nat} (hr : Rising k c C) (hk : k + 1 = c) (hf : f ≤ k) (h1 : ∀ b, b < f → C b = b) (h2 : f < k → C f ≠ f) : Nu M' c k C f (nv (dk M' C k) f (fun a => rr M' C k a f) C k) := by
  have hge : ∀ i, i < k → i ≤ C i := by
    intro i
    induction i with
    | zero => intro _; omega
    | succ i ih =>
      intro hi
      have := ih (by omega)
      have := hr.1 i (i + 1) (by omega) hi
      omega
  have hgt : ∀ d, f + d < k → f + d + 1 ≤ C (f + d) := by
    intro d
    induction d with
    | zero => intro h; have := hge f (by omega); have := h2 (by omega); simp at *; omega
    | succ d ih =>
      intro h
      have := ih (by omega)
      have := hr.1 (f + d) (f + (d + 1)) (by omega) h
      omega
  have hle : ∀ d, d < k → C (k - 1 - d) + d + 1 ≤ k + 0 + 1 := by
    intro d
    induction d with
    | zero => intro h; have := hr.2 (k - 1) (by omega); simp; omega
    | succ d ih =>
      intro h
      have := ih (by omega)
      have := hr.1 (k - 1 - (d + 1)) (k - 1 - d) (by omega) (by omega)
      omega
  have heq : ∀ i, f ≤ i → i < k → C i = i + 1 := by
    intro i a b
    have e1 := hgt (i - f) (by omega)
    have e2 := hle (k - 1 - i) (by omega)
    rw [show f + (i - f) = i by omega] at e1
    rw [show k - 1 - (k - 1 - i) = i by omega] at e2
    omega
  have hoff : ∀ a, a < k → C a ≠ f := by
    intro a ha
    by_cases h : a < f
    · rw [h1 a h]; omega
    · rw [heq a (by omega) ha]; omega
  refine ⟨by omega, hoff, fun j hj => ?_, ?_, fun a ha => nv_at ha hr.1⟩
  · by_cases e : j = f
    · exact Or.inl e
    · refine Or.inr ?_
      by_cases h : j < f
      · exact ⟨j, by omega, h1 j h⟩
      · exact ⟨j - 1, by omega, by rw [heq (j - 1) (by omega) (by omega)]; omega⟩
  · rw [nv_off hoff, if_pos rfl]

theorem rows_at {n c : Nat} {mat : Nat → Nat → Int} {i : Nat} (h : i < n) : (rowsOf n c mat).getD i [] = (List.range c).map (mat i) := by simp [rowsOf, h]

/-- The columns below q that have no pivot. -/
def freesT (k : Nat) (C : Nat → Nat) (q : Nat) : List Nat := (List.range q).filter fun f => !(((List.range k).map fun b => (C b : Int)).contains (f : Int))

/-- The direction that goes with a column without a pivot. -/
def kvec (M' : Nat → Nat → Int) (C : Nat → Nat) (c k f : Nat) : List Int := low ((List.range c).map (nv (dk M' C k) f (fun a => rr M' C k a f) C k))

theorem freesT_in {k : Nat} {C : Nat → Nat} {q : Nat} (h : ((List.range k).map fun b => (C b : Int)).contains (q : Int) = true) : freesT k C (q + 1) = freesT k C q := by
  unfold freesT
  rw [List.range_succ, List.filter_append]
  simp only [List.filter_cons, List.filter_nil, h]
  simp

theorem freesT_out {k : Nat} {C : Nat → Nat} {q : Nat} (h : ((List.range k).map fun b => (C b : Int)).contains (q : Int) = false) : freesT k C (q + 1) = freesT k C q ++ [q] := by
  unfold freesT
  rw [List.range_succ, List.filter_append]
  simp only [List.filter_cons, List.filter_nil, h]
  simp

theorem pivot_has {k : Nat} {C : Nat → Nat} {q : Nat} : ((List.range k).map fun b => (C b : Int)).contains (q : Int) = true ↔ ∃ b, b < k ∧ C b = q := by
  rw [List.contains_iff_mem, List.mem_map]
  constructor
  · rintro ⟨b, h1, h2⟩; exact ⟨b, by simpa using h1, by omega⟩
  · rintro ⟨b, h1, h2⟩; exact ⟨b, by simpa using h1, by omega⟩

/-- So many columns have none. -/
theorem freesT_len {k c : Nat} {C : Nat → Nat} (hr : Rising k c C) : (freesT k C c).length + k = c := by
  have key : ∀ q, q ≤ c → ∃ t, t ≤ k ∧ (∀ b, b < t → C b < q) ∧ (∀ b, t ≤ b → b < k → q ≤ C b) ∧ (freesT k C q).length + t = q := by
    intro q
    induction q with
    | zero => intro _; exact ⟨0, Nat.zero_le _, fun b hb => absurd hb (by omega), fun b _ _ => Nat.zero_le _, by simp [freesT]⟩
    | succ q ih =>
      intro hq
      obtain ⟨t, h1, h2, h3, h4⟩ := ih (by omega)
      cases hc : ((List.range k).map fun b => (C b : Int)).contains (q : Int) with
      | true =>
        obtain ⟨b, hb, e⟩ := pivot_has.1 hc
        have htb : b = t := by
          apply Classical.byContradiction
          intro hne
          by_cases h : b < t
          · have := h2 b h; omega
          · have h5 := h3 t (Nat.le_refl _) (by omega)
            have h6 := hr.1 t b (by omega) hb
            omega
        subst htb
        refine ⟨b + 1, by omega, fun b' hb' => ?_, fun b' hb' hk' => ?_, by rw [freesT_in hc]; omega⟩
        · by_cases e2 : b' = b
          · subst e2; omega
          · have := h2 b' (by omega); omega
        · have := hr.1 b b' (by omega) hk'; omega
      | false =>
        refine ⟨t, h1, fun b hb => ?_, fun b hb hk => ?_, by rw [freesT_out hc]; simp; omega⟩
        · have := h2 b hb; omega
        · have h5 := h3 b hb hk
          have : C b ≠ q := fun e => by
            rw [pivot_has.2 ⟨b, hk, e⟩] at hc; simp at hc
          omega
  obtain ⟨t, h1, h2, h3, h4⟩ := key c (Nat.le_refl _)
  have : t = k := by
    apply Classical.byContradiction
    intro hne
    have h5 := h3 t (Nat.le_refl _) (by omega)
    have := hr.2 t (by omega)
    omega
  omega

theorem first_off (k : Nat) (C : Nat → Nat) : ∃ f, f ≤ k ∧ (∀ b, b < f → C b = b) ∧ (f < k → C f ≠ f) := by
  induction k with
  | zero => exact ⟨0, Nat.le_refl _, fun b hb => absurd hb (by omega), fun h => absurd h (by omega)⟩
  | succ k ih =>
    obtain ⟨f, h1, h2, h3⟩ := ih
    by_cases e : f = k
    · subst e
      by_cases e2 : C f = f
      · refine ⟨f + 1, Nat.le_refl _, fun b hb => ?_, fun h => absurd h (by omega)⟩
        by_cases e3 : b = f
        · subst e3; exact e2
        · exact h2 b (by omega)
      · exact ⟨f, by omega, h2, fun _ => e2⟩
    · exact ⟨f, by omega, h2, fun _ => h3 (by omega)⟩

/-- All columns but one: the direction is the normal. -/
theorem kernel_one {m : List (List Int)} {c k : Nat} {M' : Nat → Nat → Int} {C : Nat → Nat} {sgn : Int} (hr : Red (mOf m) m.length c M' C k sgn) (hk : k + 1 = c) :
    ∃ l, (freesT k C c).map (kvec M' C c k) = [l] ∧ upr l = normL c m := by
  obtain ⟨f, hf, h1, h2⟩ := first_off k C
  have hn := nu_of (M' := M') hr.done.rise hk hf h1 h2
  have hl := freesT_len hr.done.rise
  have hone : (freesT k C c).length = 1 := by omega
  obtain ⟨x, hx⟩ := List.length_eq_one_iff.1 hone
  have hxm : x ∈ freesT k C c := by rw [hx]; simp
  have hxf : x = f := by
    unfold freesT at hxm
    rw [List.mem_filter] at hxm
    obtain ⟨a1, a2⟩ := hxm
    rcases hn.all x (by simpa using a1) with e | ⟨a, ha, e⟩
    · exact e
    · rw [pivot_has.2 ⟨a, ha, e⟩] at a2; simp at a2
  subst hxf
  refine ⟨kvec M' C c k x, by rw [hx]; rfl, ?_⟩
  exact red_norm hr hk hn

theorem owns_lowK {B B' n : Nat} {e : TypeId} {w : World} {v : Value} {xs : List Value} (h : w.ownsRow B e 1 v n xs) (hB : B' ≤ B) : w.ownsRow B' e 1 v n xs := by
  refine ⟨h.1, ?_⟩
  rcases h.2 with q | ⟨b, cap, cur, rfl, r1, r2, r3⟩
  · exact Or.inl q
  · exact Or.inr ⟨b, cap, cur, rfl, by omega, r2, r3⟩

end Go.Proofs.YtknomkajibfmlaaGreat

/- Lists that the program makes: rows of the call's own. -/
namespace Go.Proofs.YtknomkajibfmlaaGreat
open Go.RowKit

theorem owns_row {B b n : Nat} {e : TypeId} {w : World} {f : Nat → Value} {xs : List Value} (h : w.rowIs b e n f) (hB : B ≤ b) (hn : xs.length = n) (hm : n ≤ maxLen) (hx : ∀ i, i < n → xs[i]? = some (f i)) :
    w.ownsRow B e 1 (.slice (some ⟨b, 0, none⟩) n n) n xs := by
  obtain ⟨c, h1, h2, h3⟩ := h
  refine ⟨by omega, Or.inr ⟨b, n, c, rfl, hB, h1, Nat.le_refl _, hm, by omega, ?_⟩⟩
  apply List.ext_getElem?
  intro i
  by_cases hi : i < n
  · rw [List.getElem?_take_of_lt (by omega), hx i hi, Array.getElem?_toList]; exact h3 i hi
  · rw [List.getElem?_eq_none (by simp; omega), List.getElem?_eq_none (by omega)]

set_option maxRecDepth 100000 in
set_option maxHeartbeats 800000 in
theorem mappedP_own (B : Nat) (l : List Int) (v : Value) (w : World) (hv : Sl B 3 w v (ints l)) (hl : l.length ≤ 1000000) (g : Nat) (d : Int) (hg : g < w.heap.size) (hd : 1 ≤ d) (hb : ∀ z ∈ l, z.natAbs ≤ 4611686018427387904) (hc : w.cell? ⟨g, 0, none⟩ = some (.int .i64 d)) :
    Calls Tryz.prog 59 #[v, .func (.func 60) #[] #[.pointer (some ⟨g, 0, none⟩)]] w fun e w' => ∃ u, e = .returned u ∧ w'.ownsRow w.heap.size 3 1 u l.length (ints (l.map (fun z => z.tdiv d))) ∧ Below w.heap.size w w' := by
  obtain ⟨ao, cap, hvv, hlc, hcm⟩ := sl_open hv
  subst hvv
  have HV : Hid (Sl B 3 w (.slice ao l.length cap) (ints l)) := hv
  have HBD : Hid (∀ z ∈ l, z.natAbs ≤ 4611686018427387904) := hb
  have HC : Hid (w.cell? ⟨g, 0, none⟩ = some (.int .i64 d)) := hc
  clear hb hc
  clear hv
  have hmk := run_make_row' (P := Tryz.prog) 38 3 (.int .i64 0) 8 Tryz.underlying38 Tryz.info3 rfl .i64 .i64 l.length (by omega) (by omega)
  go_enter Tryz.func59, Tryz.ntmps59
  go_wp2
  go_loopw [13] (fun i wr => ∃ k : Nat, k ≤ l.length ∧ i = .int .i64 k ∧ wr.rowIs w.heap.size 3 l.length (fun j => .int .i64 (if j < k then (l.map (fun z => z.tdiv d)).getD j 0 else 0)) ∧ Below w.heap.size w wr) (fun i _ => l.length - (intOf i).toNat)
  case atStart =>
    refine ⟨0, Nat.zero_le _, rfl, ?_, (Below.refl _ _).alloc (Nat.le_refl _) _⟩
    exact (World.rowIs_made w (.int .i64 0) l.length 3).congr fun i hi => by simp
  case round =>
    obtain ⟨k, hk, rfl, hrow, hbel⟩ := hrel
    have HR : Hid (wr.rowIs w.heap.size 3 l.length (fun j => .int .i64 (if j < k then (l.map (fun z => z.tdiv d)).getD j 0 else 0))) := hrow
    have HB : Hid (Below w.heap.size w wr) := hbel
    by_cases hlt : k < l.length
    · obtain ⟨b, o, cp, hs, hc1, hcc⟩ := sl_cell (HV.out.below hbel (Nat.le_refl _)) hlt
      simp only [Value.slice.injEq] at hs
      obtain ⟨rfl, _, rfl⟩ := hs
      have hfz := hrow.frozen k
      have hcl := hrow.cell (i := k) hlt
      have HF : Hid ((l.map (fun z => z.tdiv d)).getD k 0 = (fun z => z.tdiv d) (l.getD k 0)) := by show _ = _; simp [hlt]
      have hmem : l.getD k 0 ∈ l := by simp [hlt]
      have HMEM : Hid (l.getD k 0 ∈ l) := hmem
      generalize hxk : l.getD k 0 = x at *
      clear hrow hbel hmem hxk
      go_wp2_with fail
      refine (prim1_any x d wr ⟨g, 0, none⟩ hd (HBD.out x HMEM.out) ((HB.out.cell hg).trans HC.out)).mono ?_
      rintro e w' ⟨rfl, rfl⟩
      go_wp2
      go_roundw
      case rel =>
        refine ⟨k + 1, by omega, by go_num, ?_, HB.out.setCell (Nat.le_refl _) _⟩
        refine (HR.out.set k _).congr fun j hj => ?_
        by_cases e1 : j = k
        · subst e1; rw [if_pos rfl, if_pos (by omega), HF.out]
        · by_cases e2 : j < k
          · rw [if_neg e1, if_pos e2, if_pos (by omega)]
          · rw [if_neg e1, if_neg e2, if_neg (by omega)]
      case measure => simp [intOf]; omega
    · clear hrow hbel
      go_wp2
      go_ret
      refine ⟨_, rfl, ?_, HB.out⟩
      refine owns_row HR.out (Nat.le_refl _) (by simp) (by unfold maxLen; omega) fun i hi => ?_
      rw [ints_get _ _ (by simpa using hi), if_pos (by omega)]


set_option maxRecDepth 100000 in
set_option maxHeartbeats 800000 in
theorem mappedN_own (B : Nat) (l : List Int) (v : Value) (w : World) (hv : Sl B 3 w v (ints l)) (hl : l.length ≤ 1000000) (hb : ∀ z ∈ l, z.natAbs ≤ 4611686018427387904) :
    Calls Tryz.prog 59 #[v, .func (.func 70) #[] #[]] w fun e w' => ∃ u, e = .returned u ∧ w'.ownsRow w.heap.size 3 1 u l.length (ints (l.map (fun z => -z))) ∧ Below w.heap.size w w' := by
  obtain ⟨ao, cap, hvv, hlc, hcm⟩ := sl_open hv
  subst hvv
  have HV : Hid (Sl B 3 w (.slice ao l.length cap) (ints l)) := hv
  have HBD : Hid (∀ z ∈ l, z.natAbs ≤ 4611686018427387904) := hb
  clear hb
  clear hv
  have hmk := run_make_row' (P := Tryz.prog) 38 3 (.int .i64 0) 8 Tryz.underlying38 Tryz.info3 rfl .i64 .i64 l.length (by omega) (by omega)
  go_enter Tryz.func59, Tryz.ntmps59
  go_wp2
  go_loopw [13] (fun i wr => ∃ k : Nat, k ≤ l.length ∧ i = .int .i64 k ∧ wr.rowIs w.heap.size 3 l.length (fun j => .int .i64 (if j < k then (l.map (fun z => -z)).getD j 0 else 0)) ∧ Below w.heap.size w wr) (fun i _ => l.length - (intOf i).toNat)
  case atStart =>
    refine ⟨0, Nat.zero_le _, rfl, ?_, (Below.refl _ _).alloc (Nat.le_refl _) _⟩
    exact (World.rowIs_made w (.int .i64 0) l.length 3).congr fun i hi => by simp
  case round =>
    obtain ⟨k, hk, rfl, hrow, hbel⟩ := hrel
    have HR : Hid (wr.rowIs w.heap.size 3 l.length (fun j => .int .i64 (if j < k then (l.map (fun z => -z)).getD j 0 else 0))) := hrow
    have HB : Hid (Below w.heap.size w wr) := hbel
    by_cases hlt : k < l.length
    · obtain ⟨b, o, cp, hs, hc1, hcc⟩ := sl_cell (HV.out.below hbel (Nat.le_refl _)) hlt
      simp only [Value.slice.injEq] at hs
      obtain ⟨rfl, _, rfl⟩ := hs
      have hfz := hrow.frozen k
      have hcl := hrow.cell (i := k) hlt
      have HF : Hid ((l.map (fun z => -z)).getD k 0 = (fun z => -z) (l.getD k 0)) := by show _ = _; simp [hlt]
      have hmem : l.getD k 0 ∈ l := by simp [hlt]
      have HMEM : Hid (l.getD k 0 ∈ l) := hmem
      generalize hxk : l.getD k 0 = x at *
      clear hrow hbel hmem hxk
      go_wp2_with fail
      refine (neg1_any x wr (HBD.out x HMEM.out)).mono ?_
      rintro e w' ⟨rfl, rfl⟩
      go_wp2
      go_roundw
      case rel =>
        refine ⟨k + 1, by omega, by go_num, ?_, HB.out.setCell (Nat.le_refl _) _⟩
        refine (HR.out.set k _).congr fun j hj => ?_
        by_cases e1 : j = k
        · subst e1; rw [if_pos rfl, if_pos (by omega), HF.out]
        · by_cases e2 : j < k
          · rw [if_neg e1, if_pos e2, if_pos (by omega)]
          · rw [if_neg e1, if_neg e2, if_neg (by omega)]
      case measure => simp [intOf]; omega
    · clear hrow hbel
      go_wp2
      go_ret
      refine ⟨_, rfl, ?_, HB.out⟩
      refine owns_row HR.out (Nat.le_refl _) (by simp) (by unfold maxLen; omega) fun i hi => ?_
      rw [ints_get _ _ (by simpa using hi), if_pos (by omega)]


set_option maxRecDepth 100000 in
set_option maxHeartbeats 400000 in
theorem primitive_own (B : Nat) (l : List Int) (v : Value) (w : World) (hv : Sl B 3 w v (ints l)) (hl : l.length ≤ 1000000) (hb : ∀ z ∈ l, z.natAbs ≤ 4611686018427387904) :
    Calls Tryz.prog 41 #[v] w fun e w' => ∃ u, e = .returned u ∧ w'.ownsRow w.heap.size 3 1 u l.length (ints (Lin.low l)) ∧ Below w.heap.size w w' := by
  obtain ⟨ao, cap, hvv, hlc, hcm⟩ := sl_open hv
  subst hvv
  have HV : Hid (Sl B 3 w (.slice ao l.length cap) (ints l)) := hv
  have HBD : Hid (∀ z ∈ l, z.natAbs ≤ 4611686018427387904) := hb
  clear hv hb
  go_enter Tryz.func41, Tryz.ntmps41
  go_wp2_with fail
  refine (divisor_any B l _ w HV.out HBD.out).mono ?_
  rintro e w1 ⟨rfl, n1, hw1⟩
  have HV1 : Hid (Sl B 3 w1 (.slice ao l.length cap) (ints l)) := by rw [hw1]; exact HV.out.drewN n1
  have HB1 : Hid (Below w.heap.size w w1) := by rw [hw1]; exact ⟨rfl, rfl, rfl, Nat.le_refl _, fun _ _ => rfl⟩
  have hs1 : w.heap.size = w1.heap.size := by rw [hw1]; rfl
  have HS1 : Hid (w.heap.size = w1.heap.size) := hs1
  clear hw1 hs1
  obtain ⟨g, hg⟩ : ∃ g, g = Lin.gc l := ⟨_, rfl⟩
  have HG : Hid (g = Lin.gc l) := hg
  rw [← hg]
  have hgb : g ≤ 4611686018427387904 := by rw [hg]; exact gc_le HBD.out
  clear hg
  have HBA : Hid (Below w.heap.size w (w1.alloc (.cells #[.int .i64 g] 3))) := HB1.out.alloc (by rw [HS1.out]; exact Nat.le_refl _) _
  by_cases h0 : g = 0
  · have hgb0 : ((g : Int) == 0) = true := by simp [h0]
    have HLZ : Hid (Lin.low l = l) := low_zero (by rw [← HG.out]; exact h0)
    clear h0
    go_wp2_with fail
    refine (clone_any B l _ _ (HV1.out.alloc _) hl).mono ?_
    rintro e w2 ⟨u, rfl, ho, hb2⟩
    have HO : Hid (w2.ownsRow w.heap.size 3 1 u l.length (ints (Lin.low l))) := by rw [HLZ.out]; exact ho.mono HBA.out.size
    have HB2 : Hid (Below w.heap.size w w2) := HBA.out.trans (hb2.mono HBA.out.size)
    clear ho hb2
    go_wp2
    go_ret
    exact ⟨_, rfl, HO.out, HB2.out⟩
  · have hgb0 : ((g : Int) == 0) = false := by rw [beq_eq_false_iff_ne]; omega
    have HLP : Hid ((l.map fun z => z.tdiv (g : Int)) = Lin.low l) := by show _ = _; rw [HG.out]; exact low_prog (by rw [← HG.out]; omega)
    have hg1 : (1 : Int) ≤ (g : Int) := by omega
    clear h0
    go_wp2_with fail
    refine (mappedP_own B l _ _ (HV1.out.alloc _) hl w1.heap.size g (by simp) hg1 HBD.out (by simp)).mono ?_
    rintro e w2 ⟨u, rfl, ho, hb2⟩
    have HO : Hid (w2.ownsRow w.heap.size 3 1 u l.length (ints (Lin.low l))) := by rw [← HLP.out]; exact ho.mono HBA.out.size
    have HB2 : Hid (Below w.heap.size w w2) := HBA.out.trans (hb2.mono HBA.out.size)
    clear ho hb2
    go_wp2
    go_ret
    exact ⟨_, rfl, HO.out, HB2.out⟩


set_option maxRecDepth 100000 in
set_option maxHeartbeats 400000 in
theorem negated_own (B : Nat) (l : List Int) (v : Value) (w : World) (hv : Sl B 3 w v (ints l)) (hl : l.length ≤ 1000000) (hb : ∀ z ∈ l, z.natAbs ≤ 4611686018427387904) :
    Calls Tryz.prog 47 #[v] w fun e w' => ∃ u, e = .returned u ∧ w'.ownsRow w.heap.size 3 1 u l.length (ints (l.map fun z => -z)) ∧ Below w.heap.size w w' := by
  go_enter Tryz.func47, Tryz.ntmps47
  go_wp2_with fail
  refine (mappedN_own B l v w hv hl hb).mono ?_
  rintro e w2 ⟨u, rfl, ho, hb2⟩
  have HO : Hid (w2.ownsRow w.heap.size 3 1 u l.length (ints (l.map fun z => -z))) := ho
  have HB2 : Hid (Below w.heap.size w w2) := hb2
  clear ho hb2
  go_wp2
  go_ret
  exact ⟨_, rfl, HO.out, HB2.out⟩


set_option maxRecDepth 100000 in
set_option maxHeartbeats 400000 in
theorem upright_own (B : Nat) (l : List Int) (v : Value) (w : World) (ho0 : w.ownsRow B 3 1 v l.length (ints l)) (hB0 : B ≤ w.heap.size) (hl : l.length ≤ 1000000) (hb : ∀ z ∈ l, z.natAbs ≤ 4611686018427387904) :
    Calls Tryz.prog 83 #[v] w fun e w' => ∃ u, e = .returned u ∧ w'.ownsRow B 3 1 u l.length (ints (Lin.upr l)) ∧ Below w.heap.size w w' := by
  have hv : Sl B 3 w v (ints l) := Sl.own ho0
  obtain ⟨ao, cap, hvv, hlc, hcm⟩ := sl_open hv
  subst hvv
  have HO0 : Hid (w.ownsRow B 3 1 (.slice ao l.length cap) l.length (ints l)) := ho0
  have HV : Hid (Sl B 3 w (.slice ao l.length cap) (ints l)) := hv
  have HBD : Hid (∀ z ∈ l, z.natAbs ≤ 4611686018427387904) := hb
  clear hv hb ho0
  cases han : l.any (· != 0)
  · have HU : Hid (Lin.upr l = l) := upr_none han
    have HF : Hid (findI (· != 0) l = -1) := findI_none han
    clear han
    go_enter Tryz.func83, Tryz.ntmps83
    go_wp2_with fail
    refine (index92_any B l _ w HV.out).mono ?_
    rintro e w' ⟨rfl, rfl⟩
    rw [HF.out]
    go_wp2
    go_ret
    exact ⟨_, rfl, by rw [HU.out]; exact HO0.out, Below.refl _ _⟩
  · obtain ⟨k, hk, hf, hu⟩ := upr_find han
    have HF : Hid (findI (· != 0) l = k) := hf
    have HU : Hid (Lin.upr l = if l.getD k 0 < 0 then l.map (fun v => -v) else l) := hu
    clear han hf hu
    obtain ⟨b, o, cp, hs, hc1, hcc⟩ := sl_cell HV.out hk
    simp only [Value.slice.injEq] at hs
    obtain ⟨rfl, _, rfl⟩ := hs
    generalize l.getD k 0 = x at *
    by_cases hneg : x < 0
    · have HU2 : Hid (Lin.upr l = l.map (fun v => -v)) := by show _ = _; rw [HU.out, if_pos hneg]
      go_enter Tryz.func83, Tryz.ntmps83
      go_wp2_with fail
      refine (index92_any B l _ w HV.out).mono ?_
      rintro e w' ⟨rfl, rfl⟩
      rw [HF.out]
      go_wp2_with fail
      refine (negated_own B l _ w' HV.out hl HBD.out).mono ?_
      rintro e w2 ⟨u, rfl, ho, hb2⟩
      have HO : Hid (w2.ownsRow B 3 1 u l.length (ints (Lin.upr l))) := by rw [HU2.out]; exact ho.mono hB0
      have HB2 : Hid (Below w'.heap.size w' w2) := hb2
      clear ho hb2
      go_wp2
      go_ret
      exact ⟨_, rfl, HO.out, HB2.out⟩
    · have HU2 : Hid (Lin.upr l = l) := by show _ = _; rw [HU.out, if_neg hneg]
      go_enter Tryz.func83, Tryz.ntmps83
      go_wp2_with fail
      refine (index92_any B l _ w HV.out).mono ?_
      rintro e w' ⟨rfl, rfl⟩
      rw [HF.out]
      go_wp2
      go_ret
      exact ⟨_, rfl, by rw [HU2.out]; exact HO0.out, Below.refl _ _⟩


end Go.Proofs.YtknomkajibfmlaaGreat
