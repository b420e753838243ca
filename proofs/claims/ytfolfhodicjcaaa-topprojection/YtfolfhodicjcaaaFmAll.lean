import Derived.Test.YtfolfhodicjcaaaWoAll
import Derived.Test.YtfolfhodicjcaaaOrdAll
import Derived.Test.YtfolfhodicjcaaaEmp1
import Derived.Test.YtfolfhodicjcaaaWay1
import Derived.Test.YtfolfhodicjcaaaRow3
import Derived.Test.YtfolfhodicjcaaaLinAll
import Derived.Test.YtfolfhodicjcaaaRow1
import Derived.Test.YtfolfhodicjcaaaRefs3
import Derived.Test.YtfolfhodicjcaaaMade1
/- half.without, half.Without. -/
namespace Go.Proofs.Ytfolfhodicjcaaa
open Go.RowKit
attribute [local go_sem ↓] Go.wp_at_zero Go.wp_at_succ

/-- What a row gives with another one. -/
def woTwo (k : Nat) (f s : List Int) : List (List Int) := if 0 < f.getD k 0 ∧ s.getD k 0 < 0 then keepL k (combL (-(s.getD k 0)) f (f.getD k 0) s) else []
def woIn (rows : List (List Int)) (k : Nat) (f : List Int) (j : Nat) : List (List Int) := (rows.take j).flatMap (woTwo k f)
def woOne (k : Nat) (f : List Int) : List (List Int) := if f.getD k 0 = 0 then keepL k f else []
def woRow (rows : List (List Int)) (k : Nat) (f : List Int) : List (List Int) := woOne k f ++ woIn rows k f rows.length
def woAll (rows : List (List Int)) (k i : Nat) : List (List Int) := (rows.take i).flatMap (woRow rows k)

theorem keepL_len (k : Nat) (r : List Int) : (keepL k r).length ≤ 1 := by unfold keepL; split <;> simp
theorem woTwo_len (k : Nat) (f s : List Int) : (woTwo k f s).length ≤ 1 := by
  unfold woTwo
  split
  · exact keepL_len _ _
  · simp
theorem flat_bd {α β : Type} {g : α → List β} {b : Nat} (h : ∀ x, (g x).length ≤ b) : ∀ l : List α, (l.flatMap g).length ≤ l.length * b
  | [] => by simp
  | x :: l => by
    have h1 := h x
    have h2 := flat_bd h l
    simp only [List.flatMap_cons, List.length_append, List.length_cons]
    rw [Nat.add_mul]
    omega
theorem woIn_len (rows : List (List Int)) (k : Nat) (f : List Int) (j : Nat) : (woIn rows k f j).length ≤ rows.length := by
  have := flat_bd (g := woTwo k f) (b := 1) (woTwo_len k f) (rows.take j)
  unfold woIn
  have h2 : (rows.take j).length ≤ rows.length := by simp; omega
  omega
theorem woRow_len (rows : List (List Int)) (k : Nat) (f : List Int) : (woRow rows k f).length ≤ rows.length + 1 := by
  unfold woRow woOne
  rw [List.length_append]
  have h1 := woIn_len rows k f rows.length
  split
  · have := keepL_len k f; omega
  · simp; omega
theorem woAll_len (rows : List (List Int)) (k i : Nat) (h : rows.length ≤ 12) : (woAll rows k i).length ≤ 156 := by
  have h1 := flat_bd (g := woRow rows k) (b := 13) (fun f => by have := woRow_len rows k f; omega) (rows.take i)
  unfold woAll
  have h2 : (rows.take i).length ≤ 12 := by simp; omega
  omega
theorem woIn_succ {rows : List (List Int)} {k : Nat} {f : List Int} {j : Nat} (h : j < rows.length) : woIn rows k f (j + 1) = woIn rows k f j ++ woTwo k f (rows.getD j []) := by
  unfold woIn
  rw [List.take_succ_eq_append_getElem h, List.flatMap_append]
  simp [h]
theorem woAll_succ {rows : List (List Int)} {k i : Nat} (h : i < rows.length) : woAll rows k (i + 1) = woAll rows k i ++ woRow rows k (rows.getD i []) := by
  unfold woAll
  rw [List.take_succ_eq_append_getElem h, List.flatMap_append]
  simp [h]

/-- While rows are gone through. -/
structure Wst (W2 : World) (R : Nat) (acc : List (List Int)) (ov : Value) (wr : World) : Prop where
  out : wr.heap[R]? = some (.cells #[ov] 25 (0, 0))
  rows : Fr (R + 1) 22 3 wr ov acc
  but : But (R + 1) R W2 wr

theorem But.trans {M R : Nat} {a b c : World} (h : But M R a b) (k : But M R b c) : But M R a c :=
  ⟨k.os.trans h.os, k.tape.trans h.tape, k.output.trans h.output, Nat.le_trans h.size k.size, fun x hx hn => (k.block x hx hn).trans (h.block x hx hn)⟩

theorem getD_bd {r : List Int} {n k : Nat} (h : ∀ z ∈ r, z.natAbs ≤ n) : (r.getD k 0).natAbs ≤ n := by
  by_cases e : k < r.length
  · exact h _ (by simp [e])
  · simp [List.getElem?_eq_none (Nat.le_of_not_lt e)]

theorem combL_bd {v u : Int} {f s : List Int} (hv : v.natAbs ≤ 20) (hu : u.natAbs ≤ 20) (hf : ∀ z ∈ f, z.natAbs ≤ 20) (hs : ∀ z ∈ s, z.natAbs ≤ 20) : ∀ z ∈ combL v f u s, z.natAbs ≤ 1000000 := by
  intro z hz
  simp only [combL, List.mem_map, List.mem_range] at hz
  obtain ⟨i, _, rfl⟩ := hz
  have m1 := mul20 hv (getD_bd (k := i) hf)
  have m2 := mul20 hu (getD_bd (k := i) hs)
  omega

set_option maxRecDepth 100000 in
set_option maxHeartbeats 4000000 in
theorem without_any (d k : Nat) (rows : List (List Int)) (v : Value) (w : World) (hv : Mat w.heap.size 22 3 w v rows) (hc : CutOk d rows) (hk : k < d) :
    Calls Try.prog 18 #[v, .int .i64 k] w fun e w' => ∃ u m', e = .returned u ∧ Fr w.heap.size 22 3 w' u m' ∧ Inor m' (woAll rows k rows.length) ∧ Below w.heap.size w w' := by
  obtain ⟨ao, cap, hvv, hlc, hcm⟩ := mat_open hv
  subst hvv
  have HV : Hid (Mat w.heap.size 22 3 w (.slice ao rows.length cap) rows) := hv
  have HC : Hid (CutOk d rows) := hc
  have h12 := hc.n12
  obtain ⟨W2, hW2⟩ : ∃ W2, W2 = (w.alloc (.cells #[.int .i64 k] 3)).alloc (.cells #[.slice none 0 0] 25) := ⟨_, rfl⟩
  have hs2 : W2.heap.size = w.heap.size + 2 := by rw [hW2]; simp
  have hb2 : Below w.heap.size w W2 := by rw [hW2]; exact ((Below.refl _ _).alloc (Nat.le_refl _) _).alloc (by simp) _
  have hk2 : W2.cell? ⟨w.heap.size, 0, none⟩ = some (.int .i64 k) := by
    rw [hW2]; exact ((alloc_keep (w.alloc (.cells #[.int .i64 k] 3)) _).cell (p := ⟨w.heap.size, 0, none⟩) (by simp)).trans (cell_of (alloc_new w _))
  have ho2 : W2.heap[w.heap.size + 1]? = some (.cells #[.slice none 0 0] 25 (0, 0)) := by
    rw [hW2]; have := alloc_new (w.alloc (.cells #[.int .i64 k] 3)) (.cells #[.slice none 0 0] 25); rwa [size_alloc] at this
  have HST : Hid (Wst W2 (w.heap.size + 1) (woAll rows k 0) (.slice none 0 0) W2) := ⟨ho2, Fr.nil _ _ _ _, ⟨rfl, rfl, rfl, Nat.le_refl _, fun _ _ _ => rfl⟩⟩
  have HW2 : Hid (W2 = (w.alloc (.cells #[.int .i64 k] 3)).alloc (.cells #[.slice none 0 0] 25)) := hW2
  have HS2 : Hid (W2.heap.size = w.heap.size + 2) := hs2
  have HB2 : Hid (Below w.heap.size w W2) := hb2
  -- what is known wherever rows are gone through
  have HKN : Hid (∀ wr, But (w.heap.size + 1 + 1) (w.heap.size + 1) W2 wr → wr.cell? ⟨w.heap.size, 0, none⟩ = some (.int .i64 k) ∧ Below w.heap.size w wr) := fun wr hb => by
    refine ⟨(World.cell?_of_block (w := W2) (hb.block w.heap.size (by omega) (by omega))).trans hk2, ?_⟩
    exact ⟨hb.os.trans hb2.os, hb.tape.trans hb2.tape, hb.output.trans hb2.output, Nat.le_trans hb2.size hb.size, fun x hx => (hb.block x (by omega) (by omega)).trans (hb2.block x hx)⟩
  have HKP : Hid (∀ (B : Nat) (r : List Int) (v ov : Value) (acc : List (List Int)) (wr : World), Wst W2 (w.heap.size + 1) acc ov wr → Sl B 3 wr v (ints r) → k + 1 < r.length → r.length ≤ 10 → (∀ z ∈ r, z.natAbs ≤ 1000000) → acc.length ≤ 1000 →
      Calls Try.prog 21 #[v, .pointer (some ⟨w.heap.size, 0, none⟩), .pointer (some ⟨w.heap.size + 1, 0, none⟩)] wr fun e w' => e = .returned (.tuple #[]) ∧ ∃ ov', Wst W2 (w.heap.size + 1) (acc ++ keepL k r) ov' w') := fun B r v ov acc wr hst hs h1 h2 h3 h4 => by
    refine (keep_any B (w.heap.size + 1 + 1) (w.heap.size + 1) k r acc v ov w.heap.size wr hs h1 h2 h3 (HKN.out wr hst.but).1 hst.out (by omega) (by have := hst.but.size; omega) hst.rows (by omega)).mono ?_
    rintro e w' ⟨rfl, ov', g1, g2, g3⟩
    exact ⟨rfl, ov', g1, g2, hst.but.trans g3⟩
  clear hv hc hW2 hs2 hb2 hk2 ho2
  go_enter Try.func18, Try.ntmps18
  go_wp2
  rw [← HW2.out]
  go_loopw [14] (fun i wr => ∃ (n : Nat) (ov : Value), n ≤ rows.length ∧ i = .int .i64 n ∧ Wst W2 (w.heap.size + 1) (woAll rows k n) ov wr) (fun i _ => rows.length - (intOf i).toNat)
  case atStart => exact ⟨0, _, Nat.zero_le _, rfl, HST.out⟩
  case round =>
    obtain ⟨n, ov, hn, rfl, hst⟩ := hrel
    obtain ⟨wa, rfl⟩ : ∃ wa, wa = wr := ⟨wr, rfl⟩
    have HSA : Hid (Wst W2 (w.heap.size + 1) (woAll rows k n) ov wa) := hst
    obtain ⟨hkc, hbw⟩ := HKN.out wa hst.but
    have HBW : Hid (Below w.heap.size w wa) := hbw
    clear hst
    by_cases hlt : n < rows.length
    · obtain ⟨f, hf⟩ : ∃ f, f = rows.getD n [] := ⟨_, rfl⟩
      have hfm : f ∈ rows := by rw [hf]; simp [hlt]
      have hfl := HC.out.len f hfm
      have HFB : Hid (∀ z ∈ f, z.natAbs ≤ 20) := HC.out.bd f hfm
      have HFL : Hid (f.length = d + 1) := hfl
      have HAS : Hid (woAll rows k (n + 1) = woAll rows k n ++ (woOne k f ++ woIn rows k f rows.length)) := by show _ = _; rw [woAll_succ hlt, ← hf]; rfl
      have HAL : Hid (∀ j, (woAll rows k n ++ (woOne k f ++ woIn rows k f j)).length ≤ 1000) := fun j => by
        have h1 := woAll_len rows k n h12
        have h2 := woIn_len rows k f j
        have h3 : (woOne k f).length ≤ 1 := by
          unfold woOne
          split
          · exact keepL_len _ _
          · simp
        simp only [List.length_append]
        omega
      obtain ⟨b, o, cp, fv, hs, hc1, hcc, hfv⟩ := mat_cell (HV.out.below hbw (Nat.le_refl _)) hlt
      simp only [Value.slice.injEq] at hs
      obtain ⟨rfl, -, rfl⟩ := hs
      rw [← hf] at hfv
      obtain ⟨fb, fo, fc, hfs, hfc1, hfcell⟩ := sl_cell hfv (k := k) (by omega)
      subst hfs
      have HFV : Hid (∀ wr, Below w.heap.size w wr → Sl w.heap.size 3 wr (.slice (some ⟨fb, fo, none⟩) f.length fc) (ints f)) := fun wr hb => by
        obtain ⟨b', o', cp', fv', hs', _, hcc', hfv'⟩ := mat_cell (HV.out.below hb (Nat.le_refl _)) hlt
        simp only [Value.slice.injEq, Option.some.injEq, Addr.mk.injEq] at hs'
        obtain ⟨⟨rfl, rfl, -⟩, -, -⟩ := hs'
        have hh : fv' = .slice (some ⟨fb, fo, none⟩) f.length fc := by
          obtain ⟨vs, e1, e2, e3⟩ := HV.out
          obtain ⟨b3, o3, c3, he3, _, _, h43⟩ := e2.at (by omega)
          simp only [Value.slice.injEq, Option.some.injEq, Addr.mk.injEq] at he3
          obtain ⟨⟨rfl, rfl, -⟩, -, -⟩ := he3
          have hx : vs[n]? = some vs[n] := List.getElem?_eq_getElem (by omega)
          have c0 := (h43 n (by omega)).trans hx
          have c1 := (hb.cell (p := ⟨b, o + n, none⟩) (lt_of_cell c0)).trans c0
          have c2 := (hbw.cell (p := ⟨b, o + n, none⟩) (lt_of_cell c0)).trans c0
          rw [c1] at hcc'
          rw [c2] at hcc
          exact (Option.some.inj hcc').symm.trans (Option.some.inj hcc)
        rw [hh, ← hf] at hfv'
        exact hfv'
      obtain ⟨fk, hfk⟩ : ∃ fk, fk = f.getD k 0 := ⟨_, rfl⟩
      rw [← hfk] at hfcell
      have HFK : Hid (fk = f.getD k 0) := hfk
      have hfkb : fk.natAbs ≤ 20 := by rw [hfk]; exact getD_bd HFB.out
      have hkI0 : (0 : Int) ≤ (k : Int) := by omega
      have hkI : (k : Int) < (f.length : Int) := by omega
      have hnI0 : (0 : Int) ≤ (n : Int) := by omega
      have hnI : (n : Int) < (rows.length : Int) := by omega
      have hkd : k + 1 < f.length := by omega
      have hfl10 : f.length ≤ 10 := by have := HC.out.d3; omega
      clear hfm hfl hfv hbw hfk hf
      have HZ : Hid (woAll rows k n ++ (woOne k f ++ woIn rows k f 0) = if fk = 0 then woAll rows k n ++ keepL k f else woAll rows k n) := by
        show _ = _
        rw [HFK.out]
        unfold woOne woIn
        split <;> simp
      by_cases hz : fk = 0
      case' pos =>
        subst hz
        have HKC := HKP.out w.heap.size f (.slice (some ⟨fb, fo, none⟩) f.length fc) ov (woAll rows k n) wa HSA.out (HFV.out wa HBW.out) hkd hfl10 (fun z hz => by have := HFB.out z hz; omega) (by have := HAL.out 0; simp at this ⊢; omega)
        rw [if_pos rfl] at HZ
        have HKC' : Hid (Calls Try.prog 21 #[.slice (some ⟨fb, fo, none⟩) f.length fc, .pointer (some ⟨w.heap.size, 0, none⟩), .pointer (some ⟨w.heap.size + 1, 0, none⟩)] wa fun e w' => e = .returned (.tuple #[]) ∧ ∃ ov', Wst W2 (w.heap.size + 1) (woAll rows k n ++ (woOne k f ++ woIn rows k f 0)) ov' w') := by rw [HZ.out]; exact HKC
        clear HKC
        go_wp2_with (go_at_call 21; refine HKC'.out.mono ?_; rintro e wb ⟨rfl, ov1, hs1⟩; have HS1 : Hid (Wst W2 (w.heap.size + 1) (woAll rows k n ++ (woOne k f ++ woIn rows k f 0)) ov1 wb) := hs1; clear hs1 hcc hkc hfcell hfkb HFK HSA HBW HKC')
      case' neg =>
        have HS1 : Hid (Wst W2 (w.heap.size + 1) (woAll rows k n ++ (woOne k f ++ woIn rows k f 0)) ov wa) := by rw [HZ.out, if_neg hz]; exact HSA.out
        have hzb : (fk == 0) = false := by simpa using hz
        go_wp2_with fail
        try rw [hzb]
        clear hcc hkc hfcell hfkb HFK HSA HBW hz HZ
      all_goals
        go_loopw [28] (fun i wr => ∃ (j : Nat) (ov : Value), j ≤ rows.length ∧ i = .int .i64 j ∧ Wst W2 (w.heap.size + 1) (woAll rows k n ++ (woOne k f ++ woIn rows k f j)) ov wr) (fun i _ => rows.length - (intOf i).toNat)
        case atStart => exact ⟨0, _, Nat.zero_le _, rfl, HS1.out⟩
        case round =>
          clear HS1
          obtain ⟨j, ov2, hj, rfl, hst⟩ := hrel
          obtain ⟨wc, rfl⟩ : ∃ wc, wc = wr := ⟨wr, rfl⟩
          obtain ⟨acc, hacc⟩ : ∃ acc, acc = woAll rows k n ++ (woOne k f ++ woIn rows k f j) := ⟨_, rfl⟩
          rw [← hacc] at hst
          have HAC : Hid (acc = woAll rows k n ++ (woOne k f ++ woIn rows k f j)) := hacc
          have HSC : Hid (Wst W2 (w.heap.size + 1) acc ov2 wc) := hst
          obtain ⟨hkc, hbc⟩ := HKN.out wc hst.but
          have HBC : Hid (Below w.heap.size w wc) := hbc
          have hacl : acc.length ≤ 1000 := by rw [hacc]; exact HAL.out j
          clear hst hacc
          by_cases hjl : j < rows.length
          · obtain ⟨s, hs⟩ : ∃ s, s = rows.getD j [] := ⟨_, rfl⟩
            have hsm : s ∈ rows := by rw [hs]; simp [hjl]
            have hsl := HC.out.len s hsm
            have HSB : Hid (∀ z ∈ s, z.natAbs ≤ 20) := HC.out.bd s hsm
            have HSL : Hid (s.length = d + 1) := hsl
            have HIS : Hid (woAll rows k n ++ (woOne k f ++ woIn rows k f (j + 1)) = acc ++ woTwo k f s) := by show _ = _; rw [HAC.out, woIn_succ hjl, ← hs]; simp
            obtain ⟨b', o', cp', sv, hs', _, hcj, hsv⟩ := mat_cell HV.out hjl
            simp only [Value.slice.injEq, Option.some.injEq, Addr.mk.injEq] at hs'
            obtain ⟨⟨rfl, rfl, -⟩, -, -⟩ := hs'
            rw [← hs] at hsv
            obtain ⟨sb, so, sc, hss, hsc1, hscell⟩ := sl_cell hsv (k := k) (by omega)
            subst hss
            have HSV : Hid (∀ wr, Below w.heap.size w wr → Sl w.heap.size 3 wr (.slice (some ⟨sb, so, none⟩) s.length sc) (ints s)) := fun wr hb => hsv.below hb (Nat.le_refl _)
            have HSC0 : Hid (∀ wr, Below w.heap.size w wr → wr.cell? ⟨sb, so + k, none⟩ = some (.int .i64 (s.getD k 0))) := fun wr hb => (hb.cell (p := ⟨sb, so + k, none⟩) (lt_of_cell hscell)).trans hscell
            replace hcj := (hbc.cell (p := ⟨b, o + j, none⟩) (lt_of_cell hcj)).trans hcj
            replace hscell := HSC0.out wc hbc
            have HFC0 : Hid (∀ wr, Below w.heap.size w wr → wr.cell? ⟨fb, fo + k, none⟩ = some (.int .i64 (f.getD k 0))) := fun wr hb => by
              obtain ⟨fb', fo', fc', hfs, _, hfcell⟩ := sl_cell (HFV.out wr hb) (k := k) (by omega)
              simp only [Value.slice.injEq, Option.some.injEq, Addr.mk.injEq] at hfs
              obtain ⟨⟨rfl, rfl, -⟩, -, -⟩ := hfs
              exact hfcell
            have hfcell := HFC0.out wc hbc
            obtain ⟨gk, hgk⟩ : ∃ gk, gk = f.getD k 0 := ⟨_, rfl⟩
            obtain ⟨tk, htk⟩ : ∃ tk, tk = s.getD k 0 := ⟨_, rfl⟩
            rw [← hgk] at hfcell HFC0
            rw [← htk] at hscell HSC0
            have HKS : Hid (∀ acc ov wr, Wst W2 (w.heap.size + 1) acc ov wr → wr.cell? ⟨w.heap.size, 0, none⟩ = some (.int .i64 k) ∧ wr.cell? ⟨sb, so + k, none⟩ = some (.int .i64 tk) ∧ wr.cell? ⟨fb, fo + k, none⟩ = some (.int .i64 gk)) := fun acc ov wr h => by
              have hx := HKN.out wr h.but
              exact ⟨hx.1, HSC0.out wr hx.2, HFC0.out wr hx.2⟩
            clear HSC0 HFC0
            have hgb : gk.natAbs ≤ 20 := by rw [hgk]; exact getD_bd HFB.out
            have htb : tk.natAbs ≤ 20 := by rw [htk]; exact getD_bd HSB.out
            have HTW : Hid (woTwo k f s = if 0 < gk ∧ tk < 0 then keepL k (combL (-tk) f gk s) else []) := by show _ = _; rw [hgk, htk]; rfl
            have hks : (k : Int) < (s.length : Int) := by omega
            have hjI0 : (0 : Int) ≤ (j : Int) := by omega
            have hjI : (j : Int) < (rows.length : Int) := by omega
            clear hs hsm hsl hsv hgk htk hbc
            by_cases hpq : 0 < gk ∧ tk < 0
            · obtain ⟨hp, hq⟩ := hpq
              have HSS : Hid (woAll rows k n ++ (woOne k f ++ woIn rows k f (j + 1)) = acc ++ keepL k (combL (-tk) f gk s)) := by show _ = _; rw [HIS.out, HTW.out, if_pos ⟨hp, hq⟩]
              have hwn : IntKind.i64.wrap (-tk) = -tk := by rw [IntKind.wrap_i64]; omega
              have HAD : Hid (Calls Try.prog 25 #[.int .i64 (-tk), .slice (some ⟨fb, fo, none⟩) f.length fc, .int .i64 gk, .slice (some ⟨sb, so, none⟩) s.length sc] wc.drew fun e w' => ∃ ro rc, e = .returned (.slice ro f.length rc) ∧ Sl 0 3 w' (.slice ro f.length rc) (ints (combL (-tk) f gk s)) ∧ Wst W2 (w.heap.size + 1) acc ov2 w') := by
                refine (added_own w.heap.size f s (-tk) gk _ _ wc.drew (HFV.out wc HBC.out) (HSV.out wc HBC.out) (by rw [HFL.out, HSL.out]) (by omega) (by omega) hgb HFB.out HSB.out).mono ?_
                rintro e w' ⟨r, rfl, h1, h2⟩
                obtain ⟨ro, rc, rfl⟩ := owns_form h1
                refine ⟨ro, rc, rfl, Sl.own h1, ?_⟩
                have hsz := HSC.out.but.size
                have hs2 := HS2.out
                exact ⟨(h2.block _ (by show _ < wc.heap.size; omega)).trans HSC.out.out, Fr.below (w := wc.drew) HSC.out.rows h2 (Nat.le_refl _), HSC.out.but.trans ⟨h2.os, h2.tape, h2.output, h2.size, fun b hb _ => h2.block b (by show b < wc.heap.size; omega)⟩⟩
              have HKE : Hid (∀ ro rc w', Sl 0 3 w' (.slice ro f.length rc) (ints (combL (-tk) f gk s)) → Wst W2 (w.heap.size + 1) acc ov2 w' → Calls Try.prog 21 #[.slice ro f.length rc, .pointer (some ⟨w.heap.size, 0, none⟩), .pointer (some ⟨w.heap.size + 1, 0, none⟩)] w' fun e w'' => e = .returned (.tuple #[]) ∧ ∃ ov', Wst W2 (w.heap.size + 1) (woAll rows k n ++ (woOne k f ++ woIn rows k f (j + 1))) ov' w'') := fun ro rc w' h1 h2 => by
                rw [HSS.out]
                exact HKP.out 0 _ _ ov2 acc w' h2 h1 (by rw [combL_len]; exact hkd) (by rw [combL_len]; exact hfl10) (combL_bd (by omega) hgb HFB.out HSB.out) hacl
              go_wp2_with fail
              have KS : Hid (wc.cell? ⟨w.heap.size, 0, none⟩ = some (.int .i64 k) ∧ wc.cell? ⟨sb, so + k, none⟩ = some (.int .i64 tk) ∧ wc.cell? ⟨fb, fo + k, none⟩ = some (.int .i64 gk)) := ⟨hkc, hscell, hfcell⟩
              go_region_held3 (fun w' => w'.cell? ⟨w.heap.size, 0, none⟩ = some (.int .i64 k) ∧ w'.cell? ⟨sb, so + k, none⟩ = some (.int .i64 tk) ∧ w'.cell? ⟨fb, fo + k, none⟩ = some (.int .i64 gk)) (first | exact KS.out | go_keep)
                (first | (go_at_call 25; refine HAD.out.mono ?_; rintro e w1 ⟨ro, rc, rfl, h1, h2⟩; have HH : Hid (Sl 0 3 w1 (.slice ro f.length rc) (ints (combL (-tk) f gk s)) ∧ Wst W2 (w.heap.size + 1) acc ov2 w1) := ⟨h1, h2⟩; clear h1 h2 KS; have KS : Hid _ := HKS.out _ _ _ HH.out.2) | (go_at_call 21; refine (HKE.out ro rc w1 HH.out.1 HH.out.2).mono ?_; rintro e w2 ⟨rfl, ov3, h3⟩; have HA : Hid (Wst W2 (w.heap.size + 1) (woAll rows k n ++ (woOne k f ++ woIn rows k f (j + 1))) ov3 w2) := h3; clear h3 HH KS; have KS : Hid _ := HKS.out _ _ _ HA.out))
              all_goals
                clear HAD HKE hcj hscell hfcell hkc HKS
                go_wp2
                go_roundw
                case rel => exact ⟨j + 1, ov3, by omega, by go_num, HA.out⟩
                case measure => simp [intOf]; omega
            · have HSS : Hid (Wst W2 (w.heap.size + 1) (woAll rows k n ++ (woOne k f ++ woIn rows k f (j + 1))) ov2 wc) := by
                show Wst _ _ _ _ _
                rw [HIS.out, HTW.out, if_neg hpq, List.append_nil]
                exact HSC.out
              by_cases hp : 0 < gk
              · have hq : ¬ tk < 0 := fun h => hpq ⟨hp, h⟩
                clear hpq
                go_wp2
                go_roundw
                case rel => exact ⟨j + 1, ov2, by omega, by go_num, HSS.out⟩
                case measure => simp [intOf]; omega
              · clear hpq
                go_wp2
                go_roundw
                case rel => exact ⟨j + 1, ov2, by omega, by go_num, HSS.out⟩
                case measure => simp [intOf]; omega
          · have hje : j = rows.length := by omega
            subst hje
            have HSS : Hid (Wst W2 (w.heap.size + 1) (woAll rows k (n + 1)) ov2 wc) := by
              show Wst _ _ _ _ _
              rw [HAS.out, ← HAC.out]
              exact HSC.out
            clear hbc hkc
            go_wp2
            go_roundw
            case rel => exact ⟨n + 1, ov2, by omega, by go_num, HSS.out⟩
            case measure => simp [intOf]; omega
    · have hne : n = rows.length := by omega
      subst hne
      have hovc : wa.cell? ⟨w.heap.size + 1, 0, none⟩ = some ov := by simp [World.cell?, HSA.out.out]
      have HIO : Hid (Calls Try.prog 26 #[ov] wa fun e w' => ∃ u m', e = .returned u ∧ Fr w.heap.size 22 3 w' u m' ∧ Inor m' (woAll rows k rows.length) ∧ Below w.heap.size w w') := by
        refine (inOrder_any (w.heap.size + 1 + 1) _ ov wa HSA.out.rows (by have := woAll_len rows k rows.length h12; omega)).mono ?_
        rintro e w' ⟨u, m', rfl, h1, h2, h3⟩
        exact ⟨u, m', rfl, h1.mono (by omega), h2, HBW.out.trans (h3.mono (by omega))⟩
      go_wp2_with (go_at_call 26; refine HIO.out.mono ?_; rintro e w' ⟨u, m', rfl, h1, h2, h3⟩; have HH : Hid (Fr w.heap.size 22 3 w' u m' ∧ Inor m' (woAll rows k rows.length) ∧ Below w.heap.size w w') := ⟨h1, h2, h3⟩; clear h1 h2 h3)
      go_ret
      exact ⟨_, _, rfl, HH.out.1, HH.out.2.1, HH.out.2.2⟩

end Go.Proofs.Ytfolfhodicjcaaa

/- half.Without. -/
namespace Go.Proofs.Ytfolfhodicjcaaa
open Go.RowKit

set_option maxRecDepth 100000 in
set_option maxHeartbeats 1600000 in
theorem halfWithout_ok (d k : Nat) (rows : List (List Int)) (v : Value) (w : World) (hv : Mat w.heap.size 22 3 w v rows) (hc : CutOk d rows) (hk : k < d) :
    Calls Try.prog 11 #[.agg #[.int .i64 d, v], .int .i64 k] w fun e w' => ∃ u m', e = .returned (.tuple #[u, .int .i64 0]) ∧ Fr w.heap.size 22 3 w' u m' ∧ Inor m' (woAll rows k rows.length) ∧ Below w.heap.size w w' := by
  obtain ⟨ao, cap, hvv, hlc, hcm⟩ := mat_open hv
  subst hvv
  have HV : Hid (Mat w.heap.size 22 3 w (.slice ao rows.length cap) rows) := hv
  have HC : Hid (CutOk d rows) := hc
  have hk0 : (0 : Int) ≤ (k : Int) := by omega
  have hk1 : ¬ (k : Int) < 0 := by omega
  have hk2 : (k : Int) < (d : Int) := by omega
  have hk3 : ¬ (d : Int) ≤ (k : Int) := by omega
  obtain ⟨W, hW⟩ : ∃ W, W = w.alloc (.cells #[.int .i64 d, .slice ao rows.length cap] 28) := ⟨_, rfl⟩
  have hbW : Below w.heap.size w W := by rw [hW]; exact alloc_keep _ _
  have hkW : W.heap[w.heap.size]? = some (.cells #[.int .i64 d, .slice ao rows.length cap] 28 (0, 0)) := by rw [hW]; exact alloc_new _ _
  have hsW : W.heap.size = w.heap.size + 1 := by rw [hW]; simp
  have H1 : Hid (Calls Try.prog 16 #[.agg #[.int .i64 d, .slice ao rows.length cap]] W fun e w' => e = .returned (.int .i64 0) ∧ Below W.heap.size W w') := halfCheck_ok d rows _ W ((HV.out.below hbW (Nat.le_refl _)).more hbW.size) HC.out
  have HW : Hid (W = w.alloc (.cells #[.int .i64 d, .slice ao rows.length cap] 28)) := hW
  have HBW : Hid (Below w.heap.size w W) := hbW
  have HKW : Hid (W.heap[w.heap.size]? = some (.cells #[.int .i64 d, .slice ao rows.length cap] 28 (0, 0))) := hkW
  have HSW : Hid (W.heap.size = w.heap.size + 1) := hsW
  clear hv hc hW hbW hkW hsW
  go_enter Try.func11, Try.ntmps11
  go_wp2_with fail
  rw [← HW.out]
  refine H1.out.mono ?_
  rintro e w1 ⟨rfl, hb1⟩
  have hb2 : Below w.heap.size w w1 := HBW.out.trans (hb1.mono HBW.out.size)
  have H2 : Hid (Calls Try.prog 18 #[.slice ao rows.length cap, .int .i64 k] w1 fun e w' => ∃ u m', e = .returned u ∧ Fr w.heap.size 22 3 w' u m' ∧ Inor m' (woAll rows k rows.length) ∧ Below w.heap.size w w') := by
    refine (without_any d k rows _ w1 ((HV.out.below hb2 (Nat.le_refl _)).more hb2.size) HC.out hk).mono ?_
    rintro e w' ⟨u, m', rfl, g1, g2, g3⟩
    exact ⟨u, m', rfl, g1.mono hb2.size, g2, hb2.trans (g3.mono hb2.size)⟩
  have hk1 : w1.heap[w.heap.size]? = some (.cells #[.int .i64 d, .slice ao rows.length cap] 28 (0, 0)) := (hb1.block _ (by have := HSW.out; omega)).trans HKW.out
  have k0 : w1.cell? ⟨w.heap.size, 0, none⟩ = some (.int .i64 d) := by simp [World.cell?, hk1]
  have k1 : w1.cell? ⟨w.heap.size, 1, none⟩ = some (.slice ao rows.length cap) := by simp [World.cell?, hk1]
  clear hb1 hb2 hk1
  go_wp2_with fail
  refine H2.out.mono ?_
  rintro e w2 ⟨u, m', rfl, h1, h2, h3⟩
  have HH : Hid (Fr w.heap.size 22 3 w2 u m' ∧ Inor m' (woAll rows k rows.length) ∧ Below w.heap.size w w2) := ⟨h1, h2, h3⟩
  clear h1 h2 h3
  go_wp2
  go_ret2
  exact ⟨u, m', rfl, HH.out⟩

end Go.Proofs.Ytfolfhodicjcaaa

/- The normal of rows: what it is, and when there is one; a way by rows. -/

namespace Go.Proofs.Ytfolfhodicjcaaa
open Lin

def V (l : List Int) : Nat → Int := fun j => l.getD j 0

theorem V_neg (l : List Int) (i : Nat) : V (l.map fun z => -z) i = - V l i := by
  simp only [V, List.getD_eq_getElem?_getD, List.getElem?_map]
  cases l[i]? <;> simp

theorem mem_fm {m : List (List Int)} {r : Nat → Int} : r ∈ fm m ↔ ∃ l ∈ m, r = V l := by
  simp only [fm, List.mem_map]
  constructor
  · rintro ⟨l, hl, rfl⟩; exact ⟨l, hl, rfl⟩
  · rintro ⟨l, hl, rfl⟩; exact ⟨l, hl, rfl⟩

/-- The normal is so many times what the minors tell. -/
theorem norm_par {d : Nat} {m : List (List Int)} (hl : (pickL d m).length + 1 = d) : ∃ k : Int, k ≠ 0 ∧ ∀ i, i < d → mu (fm (pickL d m)) i = k * V (normL d m) i := by
  have hg := pick_greedy d m
  have hl' : (fm (pickL d m)).length + 1 = d := by rw [fm_length]; exact hl
  obtain ⟨⟨p, hp, hne⟩, _, _⟩ := greedy_one hg hl'
  have hn : normL d m = upr (low (muL d (pickL d m))) := if_pos hl
  rw [hn]
  have hat : ∀ i, i < d → V (muL d (pickL d m)) i = mu (fm (pickL d m)) i := fun i hi => by simp [V, muL, hi]
  generalize muL d (pickL d m) = l at *
  have hll : ∀ i, i < d → V l i ∈ l ∨ V l i = 0 := fun i _ => by
    by_cases h : i < l.length
    · exact Or.inl (getD_mem h)
    · right; simp only [V, List.getD_eq_getElem?_getD]; rw [List.getElem?_eq_none (by omega)]; rfl
  have hdv : ∀ i, i < d → ((gc l : Nat) : Int) ∣ V l i := fun i hi => by
    rcases hll i hi with h | h
    · exact gc_dvd h
    · rw [h]; exact Int.dvd_zero _
  have hg0 : ((gc l : Nat) : Int) ≠ 0 := by
    intro h0
    have h1 := hdv p hp
    rw [h0] at h1
    have h2 := Int.zero_dvd.1 h1
    rw [hat p hp] at h2
    exact hne h2
  have hlow : ∀ i, i < d → V l i = ((gc l : Nat) : Int) * V (low l) i := fun i hi => by
    have e : V (low l) i = V l i / ((gc l : Nat) : Int) := by
      simp only [V, low, List.getD_eq_getElem?_getD, List.getElem?_map]
      cases l[i]? <;> simp
    rw [e, Int.mul_ediv_cancel' (hdv i hi)]
  unfold upr
  split
  · refine ⟨-((gc l : Nat) : Int), by omega, fun i hi => ?_⟩
    rw [V_neg, ← hat i hi, hlow i hi]; grind
  · exact ⟨((gc l : Nat) : Int), hg0, fun i hi => by rw [← hat i hi, hlow i hi]⟩


theorem upr_first (l : List Int) : 0 ≤ ((upr l).find? (fun v => v != 0)).getD 0 := by
  unfold upr
  split
  · rename_i h
    rw [find_neg]
    omega
  · rename_i h
    omega

/-- What the normal is. -/
theorem norm_spec {d : Nat} {m : List (List Int)} (hl : (pickL d m).length + 1 = d) :
    (∃ i, i < d ∧ V (normL d m) i ≠ 0) ∧ (∀ r ∈ m, dot d (V r) (V (normL d m)) = 0) ∧ ∀ u : Nat → Int, (∀ r ∈ m, dot d (V r) u = 0) → Par d u (V (normL d m)) := by
  have hl' : (fm (pickL d m)).length + 1 = d := by rw [fm_length]; exact hl
  obtain ⟨⟨p, hp, hne⟩, h1, h2⟩ := greedy_one (pick_greedy d m) hl'
  obtain ⟨k, hk, hmu⟩ := norm_par hl
  refine ⟨⟨p, hp, fun e => hne (by rw [hmu p hp, e, Int.mul_zero])⟩, fun r hr => ?_, fun u hu i j hi hj => ?_⟩
  · have h := h1 (V r) (mem_fm.2 ⟨r, hr, rfl⟩)
    have e : dot d (V r) (mu (fm (pickL d m))) = k * dot d (V r) (V (normL d m)) := by
      unfold dot
      rw [← sumN_mul]
      exact sumN_congr fun i hi => by rw [hmu i hi]; grind
    rw [e] at h
    exact (Int.mul_eq_zero.1 h).resolve_left hk
  · have h := h2 u (fun r hr => by
      obtain ⟨l, hl, rfl⟩ := mem_fm.1 hr
      exact hu l hl) i j hi hj
    rw [hmu i hi, hmu j hj] at h
    have : k * (u i * V (normL d m) j) = k * (u j * V (normL d m) i) := by grind
    exact Int.eq_of_mul_eq_mul_left hk this

/-- There is a way by just these rows: one alone, and above 0 of each. -/
theorem wayB_iff {g : List Int} {rs : List (List Int)} : wayB g rs = true ↔ ∃ a : Nat → Int, (∀ i, i < rs.length + 1 → 0 < a i) ∧ (∀ r ∈ acrL g rs, dot (rs.length + 1) (V r) a = 0) ∧
    ∀ u : Nat → Int, (∀ r ∈ acrL g rs, dot (rs.length + 1) (V r) u = 0) → Par (rs.length + 1) u a := by
  constructor
  · intro h
    unfold wayB at h
    rw [Bool.and_eq_true] at h
    obtain ⟨hb, hn⟩ := h
    have hl : (pickL (rs.length + 1) (acrL g rs)).length + 1 = rs.length + 1 := by simpa [normB] using hb
    obtain ⟨_, h1, h2⟩ := norm_spec hl
    refine ⟨V (normL (rs.length + 1) (acrL g rs)), fun i hi => ?_, h1, h2⟩
    have hlen := norm_len hb
    have hm : (normL (rs.length + 1) (acrL g rs)).getD i 0 ∈ wayN g rs := getD_mem (by unfold wayN; rw [hlen]; exact hi)
    have hn' : (wayN g rs).any lowB = false := by simpa using hn
    rw [List.any_eq_false] at hn'
    have := hn' _ hm
    simp only [lowB, decide_eq_true_eq] at this
    show 0 < (normL (rs.length + 1) (acrL g rs)).getD i 0
    omega
  · rintro ⟨a, hpos, h0, h1⟩
    have hg := pick_greedy (rs.length + 1) (acrL g rs)
    have hc := greedy_count hg (a := a) ⟨0, by omega, by have := hpos 0 (by omega); omega⟩ (fun r hr => by
      obtain ⟨l, hl, rfl⟩ := mem_fm.1 hr
      exact h0 l hl) (fun u hu => h1 u (fun r hr => hu (V r) (mem_fm.2 ⟨r, hr, rfl⟩)))
    rw [fm_length] at hc
    have hb : normB (rs.length + 1) (acrL g rs) = true := by simpa [normB] using hc
    obtain ⟨⟨p, hp, hne⟩, h2, _⟩ := norm_spec hc
    have hpar := h1 _ h2
    have hlen := norm_len hb
    have hn0 : V (normL (rs.length + 1) (acrL g rs)) 0 ≠ 0 := fun e => by
      have h3 := hpar p 0 hp (by omega)
      rw [e, Int.zero_mul] at h3
      have := hpos 0 (by omega)
      rcases Int.mul_eq_zero.1 h3 with h | h
      · exact hne h
      · omega
    have hf : 0 < V (normL (rs.length + 1) (acrL g rs)) 0 := by
      have h3 := upr_first (low (muL (rs.length + 1) (pickL (rs.length + 1) (acrL g rs))))
      have h4 : upr (low (muL (rs.length + 1) (pickL (rs.length + 1) (acrL g rs)))) = normL (rs.length + 1) (acrL g rs) := (if_pos hc).symm
      rw [h4, find_at (t := 0) (by rw [hlen]; omega) (fun i hi => absurd hi (by omega)) hn0] at h3
      have : V (normL (rs.length + 1) (acrL g rs)) 0 = (normL (rs.length + 1) (acrL g rs)).getD 0 0 := rfl
      omega
    have hall : ∀ i, i < rs.length + 1 → 0 < V (normL (rs.length + 1) (acrL g rs)) i := fun i hi => by
      have h3 := hpar i 0 hi (by omega)
      have h4 := hpos 0 (by omega)
      have h5 := hpos i hi
      have h6 : 0 < V (normL (rs.length + 1) (acrL g rs)) i * a 0 := by rw [h3]; exact Int.mul_pos hf h5
      exact Int.pos_of_mul_pos_left h6 h4
    unfold wayB
    rw [Bool.and_eq_true]
    refine ⟨hb, ?_⟩
    have : (wayN g rs).any lowB = false := by
      rw [List.any_eq_false]
      intro z hz
      obtain ⟨i, hi, rfl⟩ := List.getElem_of_mem hz
      have h3 := hall i (by unfold wayN at hi; omega)
      have h4 : V (normL (rs.length + 1) (acrL g rs)) i = (wayN g rs)[i] := by
        show (wayN g rs).getD i 0 = _
        simp [hi]
      rw [h4] at h3
      simp only [lowB, decide_eq_true_eq]
      omega
    simp [this]

end Go.Proofs.Ytfolfhodicjcaaa

/- Cuts of a line: when nothing is in them. -/

namespace Go.Proofs.Ytfolfhodicjcaaa
open Lin

/-- A cut is empty just if few of its rows say so by themselves. -/
theorem emp_iff {d : Nat} {rows : List (List Int)} : empB d rows = true ↔ ∃ t, t.Sublist rows ∧ t.length ≤ d + 1 ∧ wayB (refG d) t = true := by
  constructor
  · intro h
    unfold empB at h
    cases hw : waysL rows (refG d) with
    | nil => rw [hw] at h; cases h
    | cons c l =>
      have hm : c ∈ waysL rows (refG d) := by rw [hw]; simp
      simp only [waysL, waysTo, List.mem_flatMap, List.mem_range, List.mem_filter] at hm
      obtain ⟨m, hm1, hm2, hm3⟩ := hm
      rw [refG_len] at hm1
      have hx := chz_ext rows [] m 0
      rw [List.drop_zero] at hx
      have : pks rows [] c ∈ chz m rows := by rw [← hx]; exact List.mem_map.2 ⟨c, hm2, rfl⟩
      obtain ⟨h1, h2⟩ := chz_mem.1 this
      exact ⟨_, h1, by omega, hm3⟩
  · rintro ⟨t, hs, hl, hw⟩
    have hx := chz_ext rows [] t.length 0
    rw [List.drop_zero] at hx
    have hm : t ∈ chz t.length rows := chz_mem.2 ⟨hs, rfl⟩
    rw [← hx] at hm
    obtain ⟨c, hc, he⟩ := List.mem_map.1 hm
    have : c ∈ waysL rows (refG d) := by
      simp only [waysL, waysTo, List.mem_flatMap, List.mem_range, List.mem_filter]
      refine ⟨t.length, ?_, hc, by rw [he]; exact hw⟩
      have := hs.length_le
      rw [refG_len]
      omega
    unfold empB
    cases h : waysL rows (refG d) with
    | nil => rw [h] at this; cases this
    | cons a l => rfl

theorem acr1 (r : List Int) : acrL (refG 1) [r] = [[V r 0, 0], [V r 1, 1]] := by rfl
theorem acr2 (r s : List Int) : acrL (refG 1) [r, s] = [[V r 0, V s 0, 0], [V r 1, V s 1, 1]] := by rfl
theorem acr0 : acrL (refG 1) [] = [[0], [1]] := by rfl

theorem dot1 (x : Int) (a : Nat → Int) : dot 1 (V [x]) a = x * a 0 := by simp [dot, sumN, V]
theorem dot2 (x y : Int) (a : Nat → Int) : dot 2 (V [x, y]) a = x * a 0 + y * a 1 := by simp [dot, sumN, V]
theorem dot3 (x y z : Int) (a : Nat → Int) : dot 3 (V [x, y, z]) a = x * a 0 + y * a 1 + z * a 2 := by simp [dot, sumN, V]

theorem way0 : wayB (refG 1) [] = false := by
  cases h : wayB (refG 1) [] with
  | false => rfl
  | true =>
    obtain ⟨a, h1, h2, _⟩ := wayB_iff.1 h
    have h3 := h2 [1] (by rw [acr0]; simp)
    have h4 := h1 0 (by simp)
    rw [show ([] : List (List Int)).length + 1 = 1 from rfl, dot1] at h3
    omega

theorem way1 {r : List Int} : wayB (refG 1) [r] = true ↔ V r 0 = 0 ∧ V r 1 < 0 := by
  rw [wayB_iff, acr1]
  constructor
  · rintro ⟨a, h1, h2, _⟩
    have p0 := h1 0 (by simp)
    have p1 := h1 1 (by simp)
    have e1 := h2 _ (List.mem_cons_self ..)
    have e2 := h2 [V r 1, 1] (by simp)
    rw [show [r].length + 1 = 2 from rfl, dot2] at e1 e2
    have hz : V r 0 = 0 := by
      have : V r 0 * a 0 = 0 := by omega
      exact (Int.mul_eq_zero.1 this).resolve_right (by omega)
    refine ⟨hz, Classical.byContradiction fun hn => ?_⟩
    have : 0 ≤ V r 1 * a 0 := Int.mul_nonneg (by omega) (by omega)
    omega
  · rintro ⟨h0, h1⟩
    refine ⟨fun i => if i = 0 then 1 else - V r 1, fun i hi => ?_, fun q hq => ?_, fun u hu => ?_⟩
    · by_cases e : i = 0
      · simp [e]
      · simp [e]; omega
    · rw [show [r].length + 1 = 2 from rfl]
      simp only [List.mem_cons, List.not_mem_nil, or_false] at hq
      rcases hq with rfl | rfl
      · rw [dot2, h0]; simp
      · rw [dot2]; simp; omega
    · have e2 := hu [V r 1, 1] (by simp)
      rw [show [r].length + 1 = 2 from rfl, dot2] at e2
      intro i j hi hj
      have hi' : i = 0 ∨ i = 1 := by simp at hi; omega
      have hj' : j = 0 ∨ j = 1 := by simp at hj; omega
      rcases hi' with rfl | rfl <;> rcases hj' with rfl | rfl <;> simp <;> grind

theorem way2 {r s : List Int} (h : 0 < V r 0 ∧ V s 0 < 0 ∧ -(V s 0) * V r 1 + V r 0 * V s 1 < 0) : wayB (refG 1) [r, s] = true ∧ wayB (refG 1) [s, r] = true := by
  obtain ⟨h1, h2, h3⟩ := h
  constructor
  · rw [wayB_iff, acr2]
    refine ⟨fun i => if i = 0 then - V s 0 else if i = 1 then V r 0 else V s 0 * V r 1 - V r 0 * V s 1, fun i hi => ?_, fun q hq => ?_, fun u hu => ?_⟩
    · by_cases e : i = 0
      · simp [e]; omega
      · by_cases e1 : i = 1
        · simp [e1]; omega
        · simp [e, e1]; grind
    · rw [show [r, s].length + 1 = 3 from rfl]
      simp only [List.mem_cons, List.not_mem_nil, or_false] at hq
      rcases hq with rfl | rfl
      · rw [dot3]; simp; grind
      · rw [dot3]; simp; grind
    · have e1 := hu _ (List.mem_cons_self ..)
      have e2 := hu [V r 1, V s 1, 1] (by simp)
      rw [show [r, s].length + 1 = 3 from rfl, dot3] at e1 e2
      have k1 : u 0 * V r 0 = - (V s 0 * u 1) := by grind
      intro i j hi hj
      have hi' : i = 0 ∨ i = 1 ∨ i = 2 := by simp at hi; omega
      have hj' : j = 0 ∨ j = 1 ∨ j = 2 := by simp at hj; omega
      rcases hi' with rfl | rfl | rfl <;> rcases hj' with rfl | rfl | rfl <;> simp <;> grind
  · rw [wayB_iff, acr2]
    refine ⟨fun i => if i = 0 then V r 0 else if i = 1 then - V s 0 else V s 0 * V r 1 - V r 0 * V s 1, fun i hi => ?_, fun q hq => ?_, fun u hu => ?_⟩
    · by_cases e : i = 0
      · simp [e]; omega
      · by_cases e1 : i = 1
        · simp [e1]; omega
        · simp [e, e1]; grind
    · rw [show [s, r].length + 1 = 3 from rfl]
      simp only [List.mem_cons, List.not_mem_nil, or_false] at hq
      rcases hq with rfl | rfl
      · rw [dot3]; simp; grind
      · rw [dot3]; simp; grind
    · have e1 := hu _ (List.mem_cons_self ..)
      have e2 := hu [V s 1, V r 1, 1] (by simp)
      rw [show [s, r].length + 1 = 3 from rfl, dot3] at e1 e2
      have k1 : u 1 * V r 0 = - (V s 0 * u 0) := by grind
      intro i j hi hj
      have hi' : i = 0 ∨ i = 1 ∨ i = 2 := by simp at hi; omega
      have hj' : j = 0 ∨ j = 1 ∨ j = 2 := by simp at hj; omega
      rcases hi' with rfl | rfl | rfl <;> rcases hj' with rfl | rfl | rfl <;> simp <;> grind

theorem way2' {r s : List Int} (h : wayB (refG 1) [r, s] = true) : (0 < V r 0 ∧ V s 0 < 0 ∧ -(V s 0) * V r 1 + V r 0 * V s 1 < 0) ∨ (0 < V s 0 ∧ V r 0 < 0 ∧ -(V r 0) * V s 1 + V s 0 * V r 1 < 0) := by
  rw [wayB_iff, acr2] at h
  obtain ⟨a, h1, h2, h3⟩ := h
  have p0 := h1 0 (by simp)
  have p1 := h1 1 (by simp)
  have p2 := h1 2 (by simp)
  have e1 := h2 _ (List.mem_cons_self ..)
  have e2 := h2 [V r 1, V s 1, 1] (by simp)
  rw [show [r, s].length + 1 = 3 from rfl] at e1 e2 h3
  rw [dot3] at e1 e2
  have k1 : V r 0 * a 0 = - (V s 0 * a 1) := by omega
  rcases Int.lt_trichotomy (V r 0) 0 with hr | hr | hr
  · have hs : 0 < V s 0 := Classical.byContradiction fun hn => by
      have q1 : V r 0 * a 0 < 0 := Int.mul_neg_of_neg_of_pos hr p0
      have q2 : V s 0 * a 1 ≤ 0 := Int.mul_nonpos_of_nonpos_of_nonneg (by omega) (by omega)
      omega
    refine .inr ⟨hs, hr, Classical.byContradiction fun hn => ?_⟩
    have q3 : 0 ≤ (-(V r 0) * V s 1 + V s 0 * V r 1) * a 0 := Int.mul_nonneg (by omega) (by omega)
    have q4 : (-(V r 0) * V s 1 + V s 0 * V r 1) * a 0 = V s 0 * (V r 1 * a 0 + V s 1 * a 1) := by grind
    have q5 : V r 1 * a 0 + V s 1 * a 1 < 0 := by omega
    have q6 : V s 0 * (V r 1 * a 0 + V s 1 * a 1) < 0 := Int.mul_neg_of_pos_of_neg hs q5
    omega
  · exfalso
    have hs : V s 0 = 0 := by
      rw [hr, Int.zero_mul] at k1
      have : V s 0 * a 1 = 0 := by omega
      exact (Int.mul_eq_zero.1 this).resolve_right (by omega)
    have h4 := h3 (fun i => if i = 0 then 1 else if i = 1 then 0 else - V r 1) (fun q hq => by
      simp only [List.mem_cons, List.not_mem_nil, or_false] at hq
      rcases hq with rfl | rfl
      · rw [dot3, hr, hs]; simp
      · rw [dot3]; simp; omega) 0 1 (by omega) (by omega)
    simp at h4
    omega
  · have hs : V s 0 < 0 := Classical.byContradiction fun hn => by
      have q1 : 0 < V r 0 * a 0 := Int.mul_pos hr p0
      have q2 : 0 ≤ V s 0 * a 1 := Int.mul_nonneg (by omega) (by omega)
      omega
    refine .inl ⟨hr, hs, Classical.byContradiction fun hn => ?_⟩
    have q3 : 0 ≤ (-(V s 0) * V r 1 + V r 0 * V s 1) * a 1 := Int.mul_nonneg (by omega) (by omega)
    have q4 : (-(V s 0) * V r 1 + V r 0 * V s 1) * a 1 = V r 0 * (V r 1 * a 0 + V s 1 * a 1) := by grind
    have q5 : V r 1 * a 0 + V s 1 * a 1 < 0 := by omega
    have q6 : V r 0 * (V r 1 * a 0 + V s 1 * a 1) < 0 := Int.mul_neg_of_pos_of_neg hr q5
    omega

theorem pair_sub {α : Type} {l : List α} {r s : α} (hr : r ∈ l) (hs : s ∈ l) (hne : r ≠ s) : [r, s].Sublist l ∨ [s, r].Sublist l := by
  induction l with
  | nil => cases hr
  | cons x l ih =>
    rcases List.mem_cons.1 hr with rfl | hr'
    · rcases List.mem_cons.1 hs with rfl | hs'
      · exact absurd rfl hne
      · exact .inl ((List.singleton_sublist.2 hs').cons_cons r)
    · rcases List.mem_cons.1 hs with rfl | hs'
      · exact .inr ((List.singleton_sublist.2 hr').cons_cons s)
      · rcases ih hr' hs' with h | h
        · exact .inl (h.cons x)
        · exact .inr (h.cons x)

/-- A cut of a line has nothing in it just if a row, or two rows of unlike signs, say so. -/
theorem emp_line {line : List (List Int)} : empB 1 line = true ↔ (∃ r ∈ line, V r 0 = 0 ∧ V r 1 < 0) ∨ ∃ r ∈ line, ∃ s ∈ line, 0 < V r 0 ∧ V s 0 < 0 ∧ -(V s 0) * V r 1 + V r 0 * V s 1 < 0 := by
  rw [emp_iff]
  constructor
  · rintro ⟨t, hs, hl, hw⟩
    rcases t with _ | ⟨r, _ | ⟨s, _ | ⟨q, t⟩⟩⟩
    · rw [way0] at hw; exact absurd hw (by simp)
    · exact .inl ⟨r, hs.subset (by simp), way1.1 hw⟩
    · rcases way2' hw with h | h
      · exact .inr ⟨r, hs.subset (by simp), s, hs.subset (by simp), h⟩
      · exact .inr ⟨s, hs.subset (by simp), r, hs.subset (by simp), h⟩
    · simp only [List.length_cons] at hl
      omega
  · rintro (⟨r, hr, h⟩ | ⟨r, hr, s, hs, h⟩)
    · exact ⟨[r], List.singleton_sublist.2 hr, by simp, way1.2 h⟩
    · have hne : r ≠ s := fun e => by subst e; omega
      rcases pair_sub hr hs hne with h' | h'
      · exact ⟨_, h', by simp, (way2 h).1⟩
      · exact ⟨_, h', by simp, (way2 h).2⟩

end Go.Proofs.Ytfolfhodicjcaaa

/- Fourier and Motzkin, for numbers. -/
namespace Go.Proofs.Ytfolfhodicjcaaa
open Go.RowKit

/-- How far a place is from where a row ends. -/
def slk (y r : List Int) : Int := r.getD (r.length - 1) 0 - Lin.sumN (r.length - 1) fun i => r.getD i 0 * y.getD i 0

theorem slk_lin {y a b r : List Int} {v u : Int} {n : Nat} (hr : r.length = n + 1) (ha : a.length = n + 1) (hb : b.length = n + 1) (h : ∀ i, i ≤ n → r.getD i 0 = v * a.getD i 0 + u * b.getD i 0) : slk y r = v * slk y a + u * slk y b := by
  unfold slk
  rw [hr, ha, hb, Nat.add_sub_cancel, h n (Nat.le_refl _)]
  have e : (Lin.sumN n fun i => r.getD i 0 * y.getD i 0) = v * (Lin.sumN n fun i => a.getD i 0 * y.getD i 0) + u * (Lin.sumN n fun i => b.getD i 0 * y.getD i 0) := by
    rw [← Lin.sumN_mul, ← Lin.sumN_mul, ← Lin.sumN_add]
    exact Lin.sumN_congr fun i hi => by rw [h i (by omega)]; grind
  rw [e]
  grind

theorem slk_mul {y a r : List Int} {v : Int} {n : Nat} (hr : r.length = n + 1) (ha : a.length = n + 1) (h : ∀ i, i ≤ n → r.getD i 0 = v * a.getD i 0) : slk y r = v * slk y a := by
  have := slk_lin (y := y) (u := 0) (b := a) hr ha ha (v := v) (fun i hi => by rw [h i hi]; grind)
  rw [this]; grind

theorem slk_low {y r : List Int} (h : 1 ≤ r.length) : 0 ≤ slk y (Lin.low r) ↔ 0 ≤ slk y r := by
  by_cases hg : Lin.gc r = 0
  · rw [low_zero hg]
  · obtain ⟨n, hn⟩ : ∃ n, r.length = n + 1 := ⟨r.length - 1, by omega⟩
    have e : slk y r = (Lin.gc r : Int) * slk y (Lin.low r) := slk_mul hn (by rw [low_len, hn]) fun i hi => by
      have hm : r.getD i 0 ∈ r := by
        rw [List.getD_eq_getElem?_getD, List.getElem?_eq_getElem (by omega)]; exact List.getElem_mem _
      have : (Lin.low r).getD i 0 = r.getD i 0 / (Lin.gc r : Int) := by
        simp [Lin.low, show i < r.length by omega]
      rw [this, Int.mul_ediv_cancel' (Lin.gc_dvd hm)]
    rw [e]
    have hp : (0 : Int) < (Lin.gc r : Int) := by omega
    constructor
    · exact fun h => Int.mul_nonneg (by omega) h
    · intro h
      by_cases hc : 0 ≤ slk y (Lin.low r)
      · exact hc
      · have := Int.mul_neg_of_pos_of_neg hp (by omega : slk y (Lin.low r) < 0)
        omega

theorem slk_say {y r : List Int} (h : sayB r = true) : 0 ≤ slk y r := by
  simp only [sayB, Bool.and_eq_true, decide_eq_true_eq, Bool.not_eq_true', List.any_eq_false] at h
  unfold slk
  rw [Lin.sumN_zero fun i hi => ?_]
  · omega
  · have hm : r.getD i 0 ∈ r.take (r.length - 1) := by
      rw [List.getD_eq_getElem?_getD, List.getElem?_eq_getElem (by omega)]
      exact List.mem_take_iff_getElem.2 ⟨i, by omega, rfl⟩
    have := h.2 _ hm
    simp only [bne_iff_ne, ne_eq, Decidable.not_not] at this
    rw [this]; simp

/-- What is kept of a row holds, just if the row does. -/
theorem slk_keep {y r : List Int} {k : Nat} (h : k + 1 < r.length) : (∀ x ∈ keepL k r, 0 ≤ slk y x) ↔ 0 ≤ slk y (dropK r k) := by
  have hl : 1 ≤ (dropK r k).length := by simp [dropK]; omega
  unfold keepL
  split
  · next hs => exact ⟨fun _ => (slk_low hl).1 (slk_say hs), fun _ x hx => by cases hx⟩
  · simp only [List.mem_singleton, forall_eq]
    exact slk_low hl

theorem dropK_len {r : List Int} {k : Nat} (h : k < r.length) : (dropK r k).length + 1 = r.length := by simp [dropK]; omega

theorem dropK_at {r : List Int} {k i : Nat} (h : k < r.length) : (dropK r k).getD i 0 = if i < k then r.getD i 0 else r.getD (i + 1) 0 := by
  simp only [List.getD_eq_getElem?_getD]
  split
  · next hi => rw [dropK, List.getElem?_append_left (by simp; omega), List.getElem?_take_of_lt hi]
  · next hi =>
    rw [dropK, List.getElem?_append_right (by simp; omega), List.getElem?_drop]
    congr 2
    simp; omega

theorem slk_comb {y f s : List Int} {v u : Int} {k : Nat} (hs : f.length = s.length) (hk : k < f.length) : slk y (dropK (combL v f u s) k) = v * slk y (dropK f k) + u * slk y (dropK s k) := by
  have h1 := dropK_len hk
  have h2 := dropK_len (hs ▸ hk)
  have h3 := dropK_len (r := combL v f u s) (k := k) (by rw [combL_len]; exact hk)
  rw [combL_len] at h3
  by_cases h0 : (dropK f k).length = 0
  · have e1 := List.eq_nil_of_length_eq_zero h0
    have e2 := List.eq_nil_of_length_eq_zero (show (dropK s k).length = 0 by omega)
    have e3 := List.eq_nil_of_length_eq_zero (show (dropK (combL v f u s) k).length = 0 by omega)
    rw [e1, e2, e3]
    simp [slk, Lin.sumN]
  · refine slk_lin (n := (dropK f k).length - 1) (by omega) (by omega) (by omega) fun i hi => ?_
    rw [dropK_at (by rw [combL_len]; exact hk), dropK_at hk, dropK_at (hs ▸ hk)]
    split
    · exact combL_at (by omega)
    · exact combL_at (by omega)

theorem mem_woAll {rows : List (List Int)} {k : Nat} {x : List Int} : x ∈ woAll rows k rows.length ↔ (∃ f ∈ rows, x ∈ woOne k f) ∨ ∃ f ∈ rows, ∃ s ∈ rows, x ∈ woTwo k f s := by
  simp only [woAll, woRow, woIn, List.take_length, List.mem_flatMap, List.mem_append]
  constructor
  · rintro ⟨f, hf, h | ⟨s, hs, h⟩⟩
    · exact .inl ⟨f, hf, h⟩
    · exact .inr ⟨f, hf, s, hs, h⟩
  · rintro (⟨f, hf, h⟩ | ⟨f, hf, s, hs, h⟩)
    · exact ⟨f, hf, .inl h⟩
    · exact ⟨f, hf, .inr ⟨s, hs, h⟩⟩

/-- The rows as rows of one direction, at a place. -/
def lineL (rows : List (List Int)) (k : Nat) (y : List Int) : List (List Int) := rows.map fun c => [c.getD k 0, slk y (dropK c k)]

/-- FOURIER AND MOTZKIN: a place is in a cut's shadow, just if there is a number with which it is in the cut. -/
theorem fourier {rows : List (List Int)} {k d : Nat} {y : List Int} (hl : ∀ r ∈ rows, r.length = d + 1) (hk : k < d) :
    (∀ x ∈ woAll rows k rows.length, 0 ≤ slk y x) ↔ empB 1 (lineL rows k y) = false := by
  rw [← Bool.not_eq_true, emp_line]
  have hV0 : ∀ a b : Int, V [a, b] 0 = a := fun _ _ => rfl
  have hV1 : ∀ a b : Int, V [a, b] 1 = b := fun _ _ => rfl
  simp only [lineL, List.mem_map, mem_woAll]
  constructor
  · intro h
    rintro (⟨_, ⟨c, hc, rfl⟩, h0, h1⟩ | ⟨_, ⟨f, hf, rfl⟩, _, ⟨s, hs, rfl⟩, h0, h1, h2⟩)
    · rw [hV0] at h0
      rw [hV1] at h1
      have := (slk_keep (y := y) (r := c) (k := k) (by rw [hl c hc]; omega)).1 fun x hx => h x (.inl ⟨c, hc, by rw [woOne, if_pos h0]; exact hx⟩)
      omega
    · simp only [hV0, hV1] at h0 h1 h2
      have := (slk_keep (y := y) (r := combL (-(s.getD k 0)) f (f.getD k 0) s) (k := k) (by rw [combL_len, hl f hf]; omega)).1 fun x hx => h x (.inr ⟨f, hf, s, hs, by rw [woTwo, if_pos ⟨h0, h1⟩]; exact hx⟩)
      rw [slk_comb (by rw [hl f hf, hl s hs]) (by rw [hl f hf]; omega)] at this
      omega
  · intro h x hx
    rcases hx with ⟨c, hc, hx⟩ | ⟨f, hf, s, hs, hx⟩
    · rw [woOne] at hx
      split at hx
      · next h0 =>
        refine (slk_keep (y := y) (r := c) (k := k) (by rw [hl c hc]; omega)).2 ?_ x hx
        by_cases hn : 0 ≤ slk y (dropK c k)
        · exact hn
        · exact absurd (.inl ⟨_, ⟨c, hc, rfl⟩, h0, by rw [hV1]; omega⟩) h
      · cases hx
    · rw [woTwo] at hx
      split at hx
      · next h0 =>
        refine (slk_keep (y := y) (r := combL (-(s.getD k 0)) f (f.getD k 0) s) (k := k) (by rw [combL_len, hl f hf]; omega)).2 ?_ x hx
        rw [slk_comb (by rw [hl f hf, hl s hs]) (by rw [hl f hf]; omega)]
        by_cases hn : 0 ≤ -s.getD k 0 * slk y (dropK f k) + f.getD k 0 * slk y (dropK s k)
        · exact hn
        · exact absurd (.inr ⟨_, ⟨f, hf, rfl⟩, _, ⟨s, hs, rfl⟩, h0.1, h0.2, by simp only [hV0, hV1]; omega⟩) h
      · cases hx

end Go.Proofs.Ytfolfhodicjcaaa

/- The document's answer's product; what is left of rows is small. -/
namespace Go.Proofs.Ytfolfhodicjcaaa
open Go.RowKit
attribute [local go_sem ↓] Go.wp_at_zero Go.wp_at_succ

set_option maxRecDepth 100000 in
set_option maxHeartbeats 400000 in
theorem dotR_any (B : Nat) (a x : List Int) (u v : Value) (w : World) (hu : Sl B 3 w u (ints a)) (hv : Sl B 3 w v (ints x)) (hs : Sm a x) :
    Calls Try.prog 12 #[u, v] w fun e w' => e = .returned (.int .i64 (dotL a x)) ∧ ∃ n, w' = w.drewN n := by
  obtain ⟨ao, cap, hvv, hlc, hcm⟩ := sl_open hu
  obtain ⟨bo, cbp, huu, hlb, hcb⟩ := sl_open hv
  subst hvv huu
  have HU : Hid (Sl B 3 w (.slice ao a.length cap) (ints a)) := hu
  have HV : Hid (Sl B 3 w (.slice bo x.length cbp) (ints x)) := hv
  have HS : Hid (Sm a x) := hs
  have hle : a.length ≤ x.length := hs.1
  have hl8 : a.length ≤ 8 := hs.2.1
  clear hu hv hs
  go_enter Try.func12, Try.ntmps12
  go_wp2
  go_loopw [5, 6] (fun s i wr => ∃ k : Nat, k ≤ a.length ∧ i = .int .i64 k ∧ s = .int .i64 (Lin.sumN k fun i => a.getD i 0 * x.getD i 0) ∧ ∃ n, wr = w.drewN n) (fun _ i _ => a.length - (intOf i).toNat)
  case atStart => exact ⟨0, Nat.zero_le _, rfl, rfl, 0, rfl⟩
  case round =>
    obtain ⟨k, hk, rfl, rfl, n, rfl⟩ := hrel
    by_cases hlt : k < a.length
    · have hlt2 : k < x.length := by omega
      obtain ⟨b, o, cp, hs, hc1, hcc⟩ := sl_cell HU.out hlt
      simp only [Value.slice.injEq] at hs
      obtain ⟨rfl, _, rfl⟩ := hs
      obtain ⟨b2, o2, cp2, hs2, hc2, hcc2⟩ := sl_cell HV.out hlt2
      simp only [Value.slice.injEq] at hs2
      obtain ⟨rfl, _, rfl⟩ := hs2
      have h1 := sum_sm HS.out k hk
      have h2 := sum_sm HS.out (k + 1) (by omega)
      have h3 : (a.getD k 0 * x.getD k 0).natAbs ≤ 1000000000000000 := mul_bd (HS.out.2.2.1 _ (by simp [hlt])) (HS.out.2.2.2 _ (by simp [hlt2]))
      have HSU : Hid ((Lin.sumN (k + 1) fun i => a.getD i 0 * x.getD i 0) = (Lin.sumN k fun i => a.getD i 0 * x.getD i 0) + a.getD k 0 * x.getD k 0) := rfl
      rw [HSU.out] at h2
      generalize (Lin.sumN k fun i => a.getD i 0 * x.getD i 0) = S at *
      generalize a.getD k 0 = p at *
      generalize x.getD k 0 = q at *
      have e2 : wrap64 (S + wrap64 (p * q)) = S + p * q := by
        rw [IntWalk.wrap64_in (p * q) ⟨by omega, by omega⟩, IntWalk.wrap64_in _ ⟨by omega, by omega⟩]
      have hkI : (k : Int) < (a.length : Int) := by omega
      have hkI2 : (k : Int) < (x.length : Int) := by omega
      have hkI0 : (0 : Int) ≤ (k : Int) := by omega
      clear h1 h2 h3
      go_wp2
      go_quiet (fail)
      go_wp2
      go_roundw
      case rel => exact ⟨k + 1, by omega, by go_num, by rw [HSU.out, e2], _, rfl⟩
      case measure => simp [intOf]; omega
    · have hke : k = a.length := by omega
      subst hke
      go_wp2
      go_ret
      exact ⟨rfl, n, rfl⟩

/-- Is a place in all of the first rows? -/
def inB (l : List (List Int)) (y : List Int) (j : Nat) : Bool := (l.take j).all fun r => decide (0 ≤ slk y r)

theorem inB_succ {l : List (List Int)} {y : List Int} {j : Nat} (h : j < l.length) : inB l y (j + 1) = (inB l y j && decide (0 ≤ slk y (l.getD j []))) := by
  unfold inB
  rw [List.take_succ_eq_append_getElem h, List.all_append]
  simp [h]

theorem slk_dot {y r : List Int} {D : Nat} (h : r.length = D + 1) : slk y r = r.getD D 0 - dotL (r.take D) y := by
  unfold slk dotL
  rw [h, Nat.add_sub_cancel, List.length_take, h, Nat.min_eq_left (by omega)]
  congr 1
  exact Lin.sumN_congr fun i hi => by simp [hi]

theorem wo_small {rows : List (List Int)} {d k : Nat} (hc : CutOk d rows) (hk : k < d) {x : List Int} (hx : x ∈ woAll rows k rows.length) : x.length = d ∧ ∀ z ∈ x, z.natAbs ≤ 1000000 := by
  have hkeep : ∀ r : List Int, r.length = d + 1 → (∀ z ∈ r, z.natAbs ≤ 1000000) → x ∈ keepL k r → x.length = d ∧ ∀ z ∈ x, z.natAbs ≤ 1000000 := fun r h1 h2 h3 => by
    unfold keepL at h3
    split at h3
    · cases h3
    · simp only [List.mem_singleton] at h3
      subst h3
      refine ⟨?_, low_bd fun z hz => ?_⟩
      · rw [low_len]; have := dropK_len (r := r) (k := k) (by omega); omega
      · rcases List.mem_append.1 hz with h | h
        · exact h2 z (List.mem_of_mem_take h)
        · exact h2 z (List.mem_of_mem_drop h)
  rcases mem_woAll.1 hx with ⟨f, hf, h⟩ | ⟨f, hf, s, hs, h⟩
  · unfold woOne at h
    split at h
    · exact hkeep f (hc.len f hf) (fun z hz => by have := hc.bd f hf z hz; omega) h
    · cases h
  · unfold woTwo at h
    split at h
    · refine hkeep _ (by rw [combL_len]; exact hc.len f hf) (combL_bd ?_ ?_ (hc.bd f hf) (hc.bd s hs)) h
      · have := getD_bd (k := k) (hc.bd s hs); omega
      · exact getD_bd (hc.bd f hf)
    · cases h

/-- What is left of a row's end, once so many numbers of a place are taken. -/
def partL (d k : Nat) (r y : List Int) (n : Nat) : Int := r.getD d 0 - Lin.sumN n fun t => (dropK r k).getD t 0 * y.getD t 0
def atF (k j : Nat) : Nat := if j ≤ k then j else j - 1

theorem part_step {d k j : Nat} {r y : List Int} (hr : k < r.length) (hj : j ≠ k) : atF k (j + 1) = atF k j + 1 ∧ partL d k r y (atF k j + 1) = partL d k r y (atF k j) - r.getD j 0 * y.getD (atF k j) 0 := by
  have h1 : (dropK r k).getD (atF k j) 0 = r.getD j 0 := by
    rw [dropK_at hr]
    unfold atF
    by_cases h : j ≤ k
    · rw [if_pos h, if_pos (by omega)]
    · rw [if_neg h, if_neg (by omega), show j - 1 + 1 = j by omega]
  refine ⟨by unfold atF; split <;> split <;> omega, ?_⟩
  unfold partL
  show _ - (_ + (dropK r k).getD (atF k j) 0 * y.getD (atF k j) 0) = _
  rw [h1]
  omega

theorem part_same {k : Nat} : atF k (k + 1) = atF k k := by unfold atF; simp

theorem part_end {d k : Nat} {r y : List Int} (hr : r.length = d + 1) (hk : k < d) : partL d k r y (atF k d) = slk y (dropK r k) := by
  have h1 := dropK_len (r := r) (k := k) (by omega)
  have e1 : atF k d = d - 1 := by unfold atF; split <;> omega
  unfold slk partL
  rw [e1, show (dropK r k).length = d by omega, dropK_at (by omega), if_neg (by omega), show d - 1 + 1 = d by omega]

theorem part_bd {d k : Nat} {r y : List Int} (hr : ∀ z ∈ r, z.natAbs ≤ 20) (hy : ∀ z ∈ y, z.natAbs ≤ 4) : ∀ n, (partL d k r y n).natAbs ≤ 20 + 400 * n
  | 0 => by
    unfold partL
    have := getD_bd (k := d) hr
    show (_ - 0 : Int).natAbs ≤ _
    omega
  | n + 1 => by
    have h := part_bd (d := d) (k := k) hr hy n
    have hd : ∀ z ∈ dropK r k, z.natAbs ≤ 20 := fun z hz => by
      rcases List.mem_append.1 hz with h | h
      · exact hr z (List.mem_of_mem_take h)
      · exact hr z (List.mem_of_mem_drop h)
    have m := mul20 (getD_bd (k := n) hd) (by have := getD_bd (k := n) hy; omega : (y.getD n 0).natAbs ≤ 20)
    unfold partL at h ⊢
    show (_ - (_ + (dropK r k).getD n 0 * y.getD n 0) : Int).natAbs ≤ _
    omega

theorem lineL_take {rows : List (List Int)} {k i : Nat} {y : List Int} (h : i < rows.length) : (lineL rows k y).take (i + 1) = (lineL rows k y).take i ++ [[(rows.getD i []).getD k 0, slk y (dropK (rows.getD i []) k)]] := by
  have hl : i < (lineL rows k y).length := by simpa [lineL] using h
  rw [List.take_succ_eq_append_getElem hl]
  simp [lineL, h]

/-- The shadow, and whether the line is empty. -/
theorem in_line {rows l : List (List Int)} {k d : Nat} {y : List Int} (hc : CutOk d rows) (hk : k < d) (hi : Inor l (woAll rows k rows.length)) : inB l y l.length = !empB 1 (lineL rows k y) := by
  have h := fourier (y := y) hc.len hk
  have e : inB l y l.length = true ↔ ∀ x ∈ woAll rows k rows.length, 0 ≤ slk y x := by
    unfold inB
    rw [List.take_length, List.all_eq_true]
    constructor
    · intro h x hx; simpa using h x ((hi.mem x).2 hx)
    · intro h x hx; simpa using h x ((hi.mem x).1 hx)
  rw [h] at e
  cases h1 : inB l y l.length <;> cases h2 : empB 1 (lineL rows k y) <;> simp_all

end Go.Proofs.Ytfolfhodicjcaaa

/- Rows that lie in new blocks. -/
namespace Go.Proofs.Ytfolfhodicjcaaa
open Go.RowKit

/-- A slice that lies in no block below B. -/
def SlN (B : Nat) (w : World) (v : Value) (xs : List Value) : Prop := Sl 0 3 w v xs ∧ ∀ b o n c, v = .slice (some ⟨b, o, none⟩) n c → B ≤ b

theorem SlN.below {B N : Nat} {w w' : World} {v : Value} {xs : List Value} (h : SlN B w v xs) (hb : Below N w w') (hN : w.heap.size ≤ N) : SlN B w' v xs := ⟨h.1.below hb hN, h.2⟩
theorem SlN.alloc {B : Nat} {w : World} {v : Value} {xs : List Value} (h : SlN B w v xs) (o : Obj) : SlN B (w.alloc o) v xs := ⟨h.1.alloc o, h.2⟩
theorem SlN.mono {B B' : Nat} {w : World} {v : Value} {xs : List Value} (h : SlN B w v xs) (hB : B' ≤ B) : SlN B' w v xs := ⟨h.1, fun b o n c e => Nat.le_trans hB (h.2 b o n c e)⟩
theorem SlN.own {B n : Nat} {w : World} {v : Value} {l : List Int} (h : w.ownsRow B 3 1 v n (ints l)) : SlN B w v (ints l) := by
  refine ⟨Sl.own h, fun b o k c e => ?_⟩
  subst e
  exact (h.lt b rfl).1

def FrN (B : Nat) (w : World) (v : Value) (m : List (List Int)) : Prop :=
  ∃ vs, vs.length = m.length ∧ w.ownsRow B 22 1 v m.length vs ∧ ∀ i, i < m.length → SlN B w (vs.getD i (.slice none 0 0)) (ints (m.getD i []))

theorem FrN.fr {B : Nat} {w : World} {v : Value} {m : List (List Int)} (h : FrN B w v m) : Fr B 22 3 w v m := by
  obtain ⟨vs, h1, h2, h3⟩ := h
  exact ⟨vs, h1, h2, fun i hi => (h3 i hi).1⟩
theorem FrN.nil (B : Nat) (w : World) : FrN B w (.slice none 0 0) [] := ⟨[], rfl, World.ownsRow_nil _ _ _ _, fun i hi => absurd hi (by simp)⟩
theorem FrN.below {B N : Nat} {w w' : World} {v : Value} {m : List (List Int)} (h : FrN B w v m) (hb : Below N w w') (hN : w.heap.size ≤ N) : FrN B w' v m := by
  obtain ⟨vs, h1, h2, h3⟩ := h
  exact ⟨vs, h1, owns_below h2 hb hN, fun i hi => (h3 i hi).below hb hN⟩
theorem FrN.alloc {B : Nat} {w : World} {v : Value} {m : List (List Int)} (h : FrN B w v m) (o : Obj) : FrN B (w.alloc o) v m := by
  obtain ⟨vs, h1, h2, h3⟩ := h
  exact ⟨vs, h1, h2.alloc o, fun i hi => (h3 i hi).alloc o⟩
theorem FrN.push {B : Nat} {w w' : World} {v v' u : Value} {m : List (List Int)} {vs : List Value} {zs : List Int}
    (h1 : vs.length = m.length) (h2 : w.ownsRow B 22 1 v m.length vs) (h3 : ∀ i, i < m.length → SlN B w (vs.getD i (.slice none 0 0)) (ints (m.getD i []))) (hu : SlN B w u (ints zs))
    (ho : w'.ownsRow B 22 1 v' (m.length + 1) (vs ++ [u])) (hg : w.grownBy w' v.ownBlock) : FrN B w' v' (m ++ [zs]) := by
  have ht : ∀ k, v.ownBlock = some k → 0 ≤ k ∧ ∀ cur, w.heap[k]? ≠ some (.cells cur 3 (0, 0)) := fun k hk => ⟨Nat.zero_le _, (owns_typed h2 (by decide) k hk).2⟩
  refine ⟨vs ++ [u], by simp [h1], by simpa using ho, fun i hi => ?_⟩
  by_cases hlt : i < m.length
  · have e1' : (vs ++ [u]).getD i (.slice none 0 0) = vs.getD i (.slice none 0 0) := by
      simp only [List.getD_eq_getElem?_getD]; rw [List.getElem?_append_left (by omega)]
    have e2' : (m ++ [zs]).getD i [] = m.getD i [] := by
      simp only [List.getD_eq_getElem?_getD]; rw [List.getElem?_append_left (by omega)]
    rw [e1', e2']
    exact ⟨(h3 i hlt).1.grown hg ht, (h3 i hlt).2⟩
  · have hi' : i = m.length := by simp at hi; omega
    subst hi'
    have e1' : (vs ++ [u]).getD m.length (.slice none 0 0) = u := by
      rw [← h1]; simp
    have e2' : (m ++ [zs]).getD m.length [] = zs := by simp
    rw [e1', e2']
    exact ⟨hu.1.grown hg ht, hu.2⟩

end Go.Proofs.Ytfolfhodicjcaaa

/- Points whose rows are new. -/
namespace Go.Proofs.Ytfolfhodicjcaaa
open Go.RowKit
attribute [local go_sem ↓] Go.wp_at_zero Go.wp_at_succ

set_option maxRecDepth 100000 in
set_option maxHeartbeats 400000 in
theorem raw_big (B : Nat) (l : List Int) (v : Value) (i : Nat) (w : World) (hv : Sl B 3 w v (ints l)) (hr : ∀ z ∈ l, In64 z) (hl : l.length ≤ 9223372036854775807) (hi : i ≤ 1000000) :
    Calls Try.prog 14 #[v, .int .i64 i] w fun e w' => ∃ z, e = .returned (.int .i64 z) ∧ (0 ≤ z ∧ z ≤ 4611686018427387904) ∧ Below w.heap.size w w' := by
  obtain ⟨ao, cap, hvv, hlc, hcm⟩ := sl_open hv
  subst hvv
  by_cases h0 : l.length = 0
  · rw [h0]
    clear hv
    go_enter Try.func14, Try.ntmps14
    go_wp2
    go_ret
    exact ⟨_, rfl, by omega, Below.refl _ _⟩
  · have hk : i % l.length < l.length := Nat.mod_lt _ (by omega)
    obtain ⟨b, o, cp, hs, hc, hcc⟩ := sl_cell hv hk
    simp only [Value.slice.injEq] at hs
    obtain ⟨rfl, _, rfl⟩ := hs
    have hmem : l.getD (i % l.length) 0 ∈ l := by simp [hk]
    have hin : In64 (l.getD (i % l.length) 0) := hr _ hmem
    have HP : Hid (Calls Try.prog 5 #[.int .i64 (l.getD (i % l.length) 0), .int .i64 1000003] w.drew fun e w' => ∃ z, e = .returned (.int .i64 z) ∧ (0 ≤ z ∧ z < 1000003) ∧ w' = w.drew) := pick_any _ _ _ (by omega) (by omega) hin
    generalize hz : l.getD (i % l.length) 0 = z0 at *
    have hd0 : i / l.length ≤ 1000000 := Nat.le_trans (Nat.div_le_self _ _) hi
    have hq : (i : Int).tmod (l.length : Int) = ((i % l.length : Nat) : Int) := by rw [Int.tmod_eq_emod_of_nonneg (by omega)]; rfl
    have hqd : (i : Int).tdiv (l.length : Int) = ((i / l.length : Nat) : Int) := by rw [Int.tdiv_eq_ediv_of_nonneg (by omega)]; rfl
    clear hv hr hmem hin hz
    generalize i % l.length = k at *
    generalize i / l.length = q at *
    generalize l.length = n at *
    have hn0 : ¬ (n : Int) = 0 := by omega
    have hnb : ((n : Int) == 0) = false := by rw [beq_eq_false_iff_ne]; exact hn0
    have hk0 : (0 : Int) ≤ (k : Int) := by omega
    have hkn : (k : Int) < (n : Int) := by omega
    go_enter Try.func14, Try.ntmps14
    go_wp2
    go_region_law (refine step_call2 (o := { dst := some 17, op := _, type := _, pos := _, after := _, guard := _ }) (by rfl) 5 _ _ 3 3 (by rfl) _ _ (by rfl) (by rfl) ⟨_, Try.func5, by rfl, by rfl⟩ ?_; refine (HP.out).mono ?_; rintro e w2 ⟨z, rfl, hz, rfl⟩; refine ⟨_, rfl, ?_⟩; have hz1 := hz.1; have hz2 := hz.2; clear hz)
    all_goals
      have e1 : IntKind.i64.wrap (z + IntKind.i64.wrap (IntKind.i64.wrap (q : Int) * 7919)) = z + q * 7919 := by
        rw [IntWalk.i64_left, IntWalk.i64_left, IntWalk.i64_left, IntWalk.wrap64_in (q : Int) ⟨by omega, by omega⟩, IntWalk.wrap64_in ((q : Int) * 7919) ⟨by omega, by omega⟩, IntWalk.wrap64_in _ ⟨by omega, by omega⟩]
      go_wp2
      go_ret
      exact ⟨_, rfl, by rw [e1]; omega, Below.drew (Below.refl _ _)⟩

set_option maxRecDepth 100000 in
set_option maxHeartbeats 1600000 in
theorem pointsOf_new (B : Nat) (l : List Int) (v : Value) (fr n many wd : Nat) (w : World) (hv : Sl B 3 w v (ints l)) (hr : ∀ z ∈ l, In64 z) (hl : l.length ≤ 9223372036854775807) (hfr : fr ≤ 1000) (hn : n ≤ 100) (hmy : many ≤ 100) (hwd : wd ≤ 1000000) :
    Calls Try.prog 6 #[v, .int .i64 fr, .int .i64 n, .int .i64 many, .int .i64 wd] w fun e w' => ∃ x m, e = .returned x ∧ m.length = many ∧ Box n wd m ∧ FrN w.heap.size w' x m ∧ Below w.heap.size w w' := by
  obtain ⟨i0, hi, hz0, hz1, hz2⟩ := info_parts Try.info22
  obtain ⟨i3, hi3, hz30, hz31, hz32⟩ := info_parts Try.info3
  obtain ⟨ao, cap, hvv, hlc, hcm⟩ := sl_open hv
  subst hvv
  have HV : Hid (Sl B 3 w (.slice ao l.length cap) (ints l)) := hv
  have HR : Hid (∀ z ∈ l, In64 z) := hr
  have HLL : Hid (l.length ≤ 9223372036854775807) := hl
  clear hv hr hl
  go_enter Try.func6, Try.ntmps6
  go_wp2
  go_loopw [11, 12] (fun x i wr => ∃ (k : Nat) (m : List (List Int)), k ≤ many ∧ i = .int .i64 k ∧ m.length = k ∧ Box n wd m ∧ FrN w.heap.size wr x m ∧ Below w.heap.size w wr) (fun _ i _ => many - (intOf i).toNat)
  case atStart => exact ⟨0, [], Nat.zero_le _, rfl, rfl, (fun r hr => absurd hr (by simp)), FrN.nil _ _, Below.refl _ _⟩
  case round =>
    obtain ⟨k, m, hk, rfl, hml, hbx, hrw, hbel⟩ := hrel
    obtain ⟨wa, rfl⟩ : ∃ wa, wa = wr := ⟨wr, rfl⟩
    have HML : Hid (m.length = k) := hml
    have HBX : Hid (Box n wd m) := hbx
    have HRW : Hid (FrN w.heap.size wa u11 m) := hrw
    have HB : Hid (Below w.heap.size w wa) := hbel
    have hsz : w.heap.size ≤ wa.heap.size := hbel.size
    clear hrw hbel hml hbx
    by_cases hlt : k < many
    · have HVa : Hid (Sl B 3 wa (.slice ao l.length cap) (ints l)) := HV.out.below HB.out (Nat.le_refl _)
      have hkn : k * n ≤ 10000 := Nat.le_trans (Nat.mul_le_mul (show k ≤ 100 by omega) hn) (by decide)
      obtain ⟨kn, hkne⟩ : ∃ kn, kn = k * n := ⟨_, rfl⟩
      have hkI : (k : Int) * (n : Int) = (kn : Int) := by rw [hkne]; simp
      rw [← hkne] at hkn
      clear hkne
      obtain ⟨M, hM⟩ : ∃ M, M = wa.heap.size := ⟨_, rfl⟩
      have HM : Hid (M = wa.heap.size) := hM
      have hMs : w.heap.size ≤ M := by omega
      clear hM
      go_wp2
      go_loopw [13, 14] (fun x i wq => ∃ (j : Nat) (r : List Int), j ≤ n ∧ i = .int .i64 j ∧ r.length = j ∧ (∀ z ∈ r, -(wd : Int) ≤ z ∧ z ≤ wd) ∧ wq.ownsRow M 3 1 x j (ints r) ∧ Below M wa wq) (fun _ i _ => n - (intOf i).toNat)
      case atStart => exact ⟨0, [], Nat.zero_le _, rfl, rfl, (fun r hr => absurd hr (by simp)), World.ownsRow_nil _ _ _ _, Below.refl _ _⟩
      case round =>
        obtain ⟨j, r, hj, rfl, hrl, hrb, hown, hbel⟩ := hrel
        obtain ⟨wb, rfl⟩ : ∃ wb, wb = wr := ⟨wr, rfl⟩
        have HO : Hid (wb.ownsRow M 3 1 u13 j (ints r)) := hown
        have HBq : Hid (Below M wa wb) := hbel
        have HRL : Hid (r.length = j) := hrl
        have HRB : Hid (∀ z ∈ r, -(wd : Int) ≤ z ∧ z ≤ wd) := hrb
        have hszq : M ≤ wb.heap.size := by have := hbel.size; rw [HM.out]; exact this
        clear hown hbel hrl hrb
        obtain ⟨xo, xc, hxv⟩ := owns_form HO.out
        subst hxv
        by_cases hjl : j < n
        · have HVb : Hid (Sl B 3 wb (.slice ao l.length cap) (ints l)) := HVa.out.below HBq.out (by rw [HM.out]; exact Nat.le_refl _)
          have HIX : Hid ((fr : Int) + kn + j = ((fr + kn + j : Nat) : Int)) := by
            show _ = _
            omega
          go_wp2_with fail
          rw [HIX.out]
          refine (raw_big B l _ (fr + kn + j) wb HVb.out HR.out HLL.out (by omega)).mono ?_
          rintro e w1 ⟨c, rfl, hc, hb1⟩
          have HC : Hid (In64 c) := ⟨by have := hc.1; omega, by have := hc.2; omega⟩
          have HB1 : Hid (Below wb.heap.size wb w1) := hb1
          clear hc hb1
          go_wp2_with fail
          refine (pick_any c (2 * (wd : Int) + 1) w1 (by omega) (by omega) HC.out).mono ?_
          rintro e w2 ⟨z, rfl, hz, rfl⟩
          have hz1 := hz.1
          have hz2 := hz.2
          have HZ : Hid (-(wd : Int) ≤ z - wd ∧ z - wd ≤ wd) := ⟨by omega, by omega⟩
          have hzI : -1000000 ≤ z - wd := by omega
          have hzJ : z - wd ≤ 1000000 := by omega
          have HO1 : Hid (w2.ownsRow M 3 1 (.slice xo j xc) j (ints r)) := owns_below HO.out HB1.out (Nat.le_refl _)
          have HBq1 : Hid (Below M wa w2) := HBq.out.trans (HB1.out.mono hszq)
          have hsz2 : M ≤ w2.heap.size := Nat.le_trans hszq HB1.out.size
          clear hz HO HBq HB1 HC
          go_wp2_with (first | (at_builtin; refine wpList_append_own _ rfl _ _ 22 rfl M 3 i3 (.int .i64 0) 1 8 Try.underlying22 hi3 hz30 hz31 hz32 rfl (by decide) _ _ _ rfl (HO1.out.alloc _) ⟨w2.heap.size, 0, none⟩ 1 1 [.int .i64 (z - wd)] rfl rfl (one_new _ _ _) (one_int _) ?c3 ?c4 ?c5 ?_))
          case c3 => unfold maxLen; omega
          case c4 => omega
          case c5 => simp; omega
          intro v' w3 ho hg _
          have R := owns_push (z := z - wd) (N := j + 1) hsz2 (l := r) (by rw [HRL.out]; exact HO1.out) HBq1.out (by rw [HRL.out]; exact ho) hg (by rw [HRL.out])
          have R1 : Hid (w3.ownsRow M 3 1 v' (j + 1) (ints (r ++ [z - wd]))) := R.1
          have R2 : Hid (Below M wa w3) := R.2
          clear R ho hg
          go_wp2
          go_roundw
          case rel => exact ⟨j + 1, r ++ [z - wd], by omega, by go_num, by simp [HRL.out], near_snoc HRB.out HZ.out, R1.out, R2.out⟩
          case measure => simp [intOf]; omega
        · have hjn : j = n := by omega
          subst hjn
          have HX : Hid (SlN w.heap.size wb (.slice xo j xc) (ints r)) := (SlN.own HO.out).mono hMs
          have HRq : Hid (FrN w.heap.size wb u11 m) := HRW.out.below HBq.out (by rw [HM.out]; exact Nat.le_refl _)
          have HBw : Hid (Below w.heap.size w wb) := HB.out.trans (HBq.out.mono hMs)
          obtain ⟨vs, g1, g2, g3⟩ := HRq.out
          have hml := HML.out
          rw [hml] at g1 g2 g3
          have G1 : Hid (vs.length = k) := g1
          have G2 : Hid (wb.ownsRow w.heap.size 22 1 u11 k vs) := g2
          have G3 : Hid (∀ i, i < k → SlN w.heap.size wb (vs.getD i (.slice none 0 0)) (ints (m.getD i []))) := g3
          clear g1 g2 g3 hml HO hjl
          go_wp2_with (first | (at_builtin; refine wpList_append_own _ rfl _ _ 25 rfl w.heap.size 22 i0 (.slice none 0 0) 1 24 Try.underlying25 hi hz0 hz1 hz2 rfl (by decide) _ _ _ rfl (G2.out.alloc _) ⟨wb.heap.size, 0, none⟩ 1 1 [.slice xo j xc] rfl rfl (one_new _ _ _) (one_slice _ _ _) ?d3 ?d4 ?d5 ?_))
          case d3 => unfold maxLen; omega
          case d4 => omega
          case d5 => simp; omega
          intro v' w3 ho hg _
          have R1 : Hid (FrN w.heap.size w3 v' (m ++ [r])) :=
            FrN.push (m := m) (u := .slice xo j xc) (zs := r) (by rw [HML.out]; exact G1.out) (by rw [HML.out]; exact G2.out.alloc _)
              (fun i hi => (G3.out i (by rw [HML.out] at hi; exact hi)).alloc _) (HX.out.alloc _) (by rw [HML.out]; exact ho) hg
          have R2 : Hid (Below w.heap.size w w3) := (HBw.out.alloc (by omega) _).grown hg (by simp; omega) (fun x hx => (G2.out.lt x hx).1)
          clear ho hg
          go_wp2
          go_roundw
          case rel => exact ⟨k + 1, m ++ [r], by omega, by go_num, by simp [HML.out], HBX.out.snoc HRL.out HRB.out, R1.out, R2.out⟩
          case measure => simp [intOf]; omega
    · have hkm : k = many := by omega
      subst hkm
      clear hlt
      go_wp2
      go_ret
      exact ⟨_, m, rfl, HML.out, HBX.out, HRW.out, HB.out⟩


end Go.Proofs.Ytfolfhodicjcaaa

/- Which of n things a raw number speaks of. -/
namespace Go.Proofs.Ytfolfhodicjcaaa
open Go.RowKit

def pickF (c n : Int) : Int := if c < 0 then (-(c + 1)) % n else c % n

theorem pickF_bd {c n : Int} (h : 1 ≤ n) : 0 ≤ pickF c n ∧ pickF c n < n := by
  unfold pickF
  split
  · exact ⟨Int.emod_nonneg _ (by omega), Int.emod_lt_of_pos _ (by omega)⟩
  · exact ⟨Int.emod_nonneg _ (by omega), Int.emod_lt_of_pos _ (by omega)⟩

set_option maxRecDepth 100000 in
set_option maxHeartbeats 400000 in
theorem pick_val (c n : Int) (w : World) (h1 : 1 ≤ n) (h2 : n ≤ 4611686018427387904) (hc : In64 c) :
    Calls Try.prog 5 #[.int .i64 c, .int .i64 n] w fun e w' => e = .returned (.int .i64 (pickF c n)) ∧ w' = w := by
  have c0 : -9223372036854775808 ≤ c := hc.1
  have c1 : c ≤ 9223372036854775807 := hc.2
  clear hc
  have hn0 : ¬ n = 0 := by omega
  by_cases hcn : c < 0
  · have HE : Hid (pickF c n = (-(c + 1)) % n) := if_pos hcn
    have e0 : (-(c + 1)).tmod n = (-(c + 1)) % n := Int.tmod_eq_emod_of_nonneg (by omega)
    have e1 := Int.emod_nonneg (-(c + 1)) hn0
    have e2 := Int.emod_lt_of_pos (-(c + 1)) (show 0 < n by omega)
    go_enter Try.func5, Try.ntmps5
    go_wp2
    go_ret
    exact ⟨by rw [HE.out]; rfl, rfl⟩
  · have HE : Hid (pickF c n = c % n) := if_neg hcn
    have e0 : c.tmod n = c % n := Int.tmod_eq_emod_of_nonneg (by omega)
    have e1 := Int.emod_nonneg c hn0
    have e2 := Int.emod_lt_of_pos c (show 0 < n by omega)
    go_enter Try.func5, Try.ntmps5
    go_wp2
    go_ret
    exact ⟨by rw [HE.out]; rfl, rfl⟩

end Go.Proofs.Ytfolfhodicjcaaa

/- The fact that below -1 and above 0 there is nothing; lists of cuts. -/
namespace Go.Proofs.Ytfolfhodicjcaaa
open Go.RowKit

theorem empT : empB 1 [[1, -1], [-1, 0]] = true := by decide +kernel
theorem empF : empB 1 [[1, 1], [-1, 0]] = false := by decide +kernel

theorem sl_two {w : World} {b : Nat} {t : TypeId} {x y : Value} (h : w.heap[b]? = some (.cells #[x, y] t (0, 0))) : Sl 0 t w (.slice (some ⟨b, 0, none⟩) 2 2) [x, y] := by
  refine ⟨some ⟨b, 0, none⟩, 2, rfl, by simp, by simp [maxLen], fun i hi => ⟨b, 0, rfl, ?_, .inr ⟨_, h⟩⟩, fun h => by cases h⟩
  have : i = 0 ∨ i = 1 := by simp at hi; omega
  rcases this with rfl | rfl <;> simp [World.cell?, h]

theorem mat_two {w : World} {g b c : Nat} {x0 x1 y0 y1 : Int} (hg : w.heap[g]? = some (.cells #[.slice (some ⟨b, 0, none⟩) 2 2, .slice (some ⟨c, 0, none⟩) 2 2] 22 (0, 0)))
    (hb : w.heap[b]? = some (.cells #[.int .i64 x0, .int .i64 x1] 3 (0, 0))) (hc : w.heap[c]? = some (.cells #[.int .i64 y0, .int .i64 y1] 3 (0, 0))) : Mat 0 22 3 w (.slice (some ⟨g, 0, none⟩) 2 2) [[x0, x1], [y0, y1]] := by
  refine ⟨[.slice (some ⟨b, 0, none⟩) 2 2, .slice (some ⟨c, 0, none⟩) 2 2], rfl, sl_two hg, fun i hi => ?_⟩
  have : i = 0 ∨ i = 1 := by simp at hi; omega
  rcases this with rfl | rfl
  · exact sl_two hb
  · exact sl_two hc

theorem threeB (w : World) (o1 o2 o3 : Obj) :
    ∃ W, W = ((w.alloc o1).alloc o2).alloc o3 ∧ W.heap[w.heap.size]? = some o1 ∧ W.heap[w.heap.size + 1]? = some o2 ∧ W.heap[w.heap.size + 1 + 1]? = some o3 ∧ W.heap.size = w.heap.size + 3 ∧ Below w.heap.size w W := by
  obtain ⟨w1, h1⟩ : ∃ w1, w1 = w.alloc o1 := ⟨_, rfl⟩
  obtain ⟨w2, h2⟩ : ∃ w2, w2 = w1.alloc o2 := ⟨_, rfl⟩
  have s1 : w1.heap.size = w.heap.size + 1 := by rw [h1]; exact size_alloc _ _
  have s2 : w2.heap.size = w.heap.size + 2 := by rw [h2, size_alloc]; omega
  have n1 : w1.heap[w.heap.size]? = some o1 := by rw [h1]; exact alloc_new _ _
  have n2 : w2.heap[w.heap.size + 1]? = some o2 := by rw [h2, ← s1]; exact alloc_new _ _
  have b1 : Below w.heap.size w w1 := by rw [h1]; exact alloc_keep _ _
  have b2 : Below w1.heap.size w1 w2 := by rw [h2]; exact alloc_keep _ _
  have b3 : Below w2.heap.size w2 (w2.alloc o3) := alloc_keep _ _
  refine ⟨w2.alloc o3, by rw [h2, h1], ?_, ?_, ?_, ?_, ?_⟩
  · rw [b3.block _ (by omega), b2.block _ (by omega)]; exact n1
  · rw [b3.block _ (by omega)]; exact n2
  · rw [show w.heap.size + 1 + 1 = w2.heap.size by omega]; exact alloc_new _ _
  · rw [size_alloc]; omega
  · exact (b1.trans (b2.mono (by omega))).trans (b3.mono (by omega))

theorem cut_two {x0 x1 y0 y1 : Int} (h0 : x0.natAbs ≤ 20) (h1 : x1.natAbs ≤ 20) (h2 : y0.natAbs ≤ 20) (h3 : y1.natAbs ≤ 20) : CutOk 1 [[x0, x1], [y0, y1]] := by
  refine ⟨by omega, by omega, by simp, fun r hr => ?_, fun r hr z hz => ?_⟩
  · simp at hr; rcases hr with rfl | rfl <;> rfl
  · simp at hr; rcases hr with rfl | rfl <;> simp at hz <;> rcases hz with rfl | rfl <;> assumption

theorem emptyTwo (w : World) (x0 x1 y0 y1 : Int) (h0 : x0.natAbs ≤ 20) (h1 : x1.natAbs ≤ 20) (h2 : y0.natAbs ≤ 20) (h3 : y1.natAbs ≤ 20) :
    Calls Try.prog 8 #[.agg #[.int .i64 1, .slice (some ⟨w.heap.size + 1 + 1, 0, none⟩) 2 2]] (((w.alloc (.cells #[.int .i64 x0, .int .i64 x1] 3)).alloc (.cells #[.int .i64 y0, .int .i64 y1] 3)).alloc (.cells #[.slice (some ⟨w.heap.size, 0, none⟩) 2 2, .slice (some ⟨w.heap.size + 1, 0, none⟩) 2 2] 22)) fun e w' =>
      e = .returned (.tuple #[.bool (empB 1 [[x0, x1], [y0, y1]]), .int .i64 0]) ∧ Below w.heap.size w w' := by
  obtain ⟨W, hW, e1, e2, e3, hs, hb⟩ := threeB w (.cells #[.int .i64 x0, .int .i64 x1] 3) (.cells #[.int .i64 y0, .int .i64 y1] 3) (.cells #[.slice (some ⟨w.heap.size, 0, none⟩) 2 2, .slice (some ⟨w.heap.size + 1, 0, none⟩) 2 2] 22)
  rw [← hW]
  have h := empty_ok 1 [[x0, x1], [y0, y1]] (.slice (some ⟨w.heap.size + 1 + 1, 0, none⟩) 2 2) W ((mat_two e3 e1 e2).more (Nat.zero_le _)) (cut_two h0 h1 h2 h3)
  exact h.mono fun e w' ⟨h1, h2⟩ => ⟨h1, hb.trans (h2.mono hb.size)⟩

set_option maxRecDepth 100000 in
set_option maxHeartbeats 1600000 in
theorem empties_any (w : World) : Calls Try.prog 9 #[] w fun e w' => e = .returned (.bool true) ∧ Below w.heap.size w w' := by
  have H1 : Hid (∀ w, Calls Try.prog 8 #[.agg #[.int .i64 1, .slice (some ⟨w.heap.size + 1 + 1, 0, none⟩) 2 2]] (((w.alloc (.cells #[.int .i64 1, .int .i64 (-1)] 3)).alloc (.cells #[.int .i64 (-1), .int .i64 0] 3)).alloc (.cells #[.slice (some ⟨w.heap.size, 0, none⟩) 2 2, .slice (some ⟨w.heap.size + 1, 0, none⟩) 2 2] 22)) fun e w' =>
      e = .returned (.tuple #[.bool true, .int .i64 0]) ∧ Below w.heap.size w w') := fun w => by
    have h := emptyTwo w 1 (-1) (-1) 0 (by decide) (by decide) (by decide) (by decide)
    rw [empT] at h
    exact h
  have H2 : Hid (∀ w, Calls Try.prog 8 #[.agg #[.int .i64 1, .slice (some ⟨w.heap.size + 1 + 1, 0, none⟩) 2 2]] (((w.alloc (.cells #[.int .i64 1, .int .i64 1] 3)).alloc (.cells #[.int .i64 (-1), .int .i64 0] 3)).alloc (.cells #[.slice (some ⟨w.heap.size, 0, none⟩) 2 2, .slice (some ⟨w.heap.size + 1, 0, none⟩) 2 2] 22)) fun e w' =>
      e = .returned (.tuple #[.bool false, .int .i64 0]) ∧ Below w.heap.size w w') := fun w => by
    have h := emptyTwo w 1 1 (-1) 0 (by decide) (by decide) (by decide) (by decide)
    rw [empF] at h
    exact h
  go_enter Try.func9, Try.ntmps9
  go_wp2_with fail
  refine (H1.out w).mono ?_
  rintro e w1 ⟨rfl, hb1⟩
  have HB1 : Hid (Below w.heap.size w w1) := hb1
  clear hb1
  go_wp2_with fail
  refine (H2.out w1).mono ?_
  rintro e w2 ⟨rfl, hb2⟩
  have HB2 : Hid (Below w.heap.size w w2) := HB1.out.trans (hb2.mono HB1.out.size)
  clear hb2
  go_wp2
  go_ret
  exact ⟨rfl, HB2.out⟩

end Go.Proofs.Ytfolfhodicjcaaa

/- Lists of cuts, and rows put together, in memory. -/
namespace Go.Proofs.Ytfolfhodicjcaaa
open Go.RowKit

theorem Try.info28 : (Try.prog.info? 28).map (fun i => (i.zero, i.size, i.bytes)) = some (some (.agg #[.int .i64 0, .slice none 0 0]), 2, 32) := by kernel_rfl

def cutVs (vs : List Value) : List Value := vs.flatMap fun x => [.int .i64 2, x]

theorem cutVs_snoc (vs : List Value) (x : Value) : cutVs (vs ++ [x]) = cutVs vs ++ [.int .i64 2, x] := by simp [cutVs]

theorem cutVs_at : ∀ (vs : List Value) (j : Nat) (x : Value), vs[j]? = some x → (cutVs vs)[j * 2 + 1]? = some x
  | [], j, x, h => by simp at h
  | v :: vs, 0, x, h => by simpa [cutVs] using h
  | v :: vs, j + 1, x, h => by
    have := cutVs_at vs j x (by simpa using h)
    rw [show (j + 1) * 2 + 1 = (j * 2 + 1) + 2 by omega]
    simpa [cutVs] using this

/-- A list of cuts of the call's own. -/
structure Cts (w : World) (base : Nat) (v : Value) (vs : List Value) (L : List (List (List Int))) : Prop where
  own : w.ownsRow base 28 2 v vs.length (cutVs vs)
  len : L.length = vs.length
  mat : ∀ i, i < vs.length → Mat 0 22 3 w (vs.getD i (.slice none 0 0)) (L.getD i [])
  box : ∀ i, i < vs.length → (L.getD i []).length = 2 ∧ Box 3 4 (L.getD i [])

theorem mat_typed {w w' : World} {v : Value} {m : List (List Int)} (h : Mat 0 22 3 w v m) (hk : ∀ (b : Nat) (cur : Array Value) (t : TypeId), (t = 22 ∨ t = 3) → w.heap[b]? = some (Obj.cells cur t (0, 0)) → w'.heap[b]? = w.heap[b]?) : Mat 0 22 3 w' v m := by
  obtain ⟨vs, h1, h2, h3⟩ := h
  refine ⟨vs, h1, h2.move fun b hl ht => ⟨?_, ht⟩, fun i hi => (h3 i hi).move fun b hl ht => ⟨?_, ht⟩⟩
  · rcases ht with ht | ⟨c, ht⟩
    · omega
    · exact hk b c _ (.inl rfl) ht
  · rcases ht with ht | ⟨c, ht⟩
    · omega
    · exact hk b c _ (.inr rfl) ht

theorem owns_typed2 {B z : Nat} {e : TypeId} {w : World} {v : Value} {n : Nat} {xs : List Value} (h : w.ownsRow B e z v n xs) :
    ∀ k, v.ownBlock = some k → B ≤ k ∧ ∃ cur, w.heap[k]? = some (.cells cur e (0, 0)) := by
  intro k hk
  obtain ⟨_, h2⟩ := h
  rcases h2 with ⟨rfl, rfl⟩ | ⟨g, cap, cur, rfl, hg, hh, _⟩
  · simp [Value.ownBlock] at hk
  · simp [Value.ownBlock] at hk
    subst hk
    exact ⟨hg, cur, hh⟩

theorem Cts.below {w w' : World} {base N : Nat} {v : Value} {vs : List Value} {L : List (List (List Int))} (h : Cts w base v vs L) (hb : Below N w w') (hN : w.heap.size ≤ N) : Cts w' base v vs L :=
  ⟨h.own.kept (row := none) ⟨hb.os, hb.tape, hb.output, hb.size, fun k hk _ => hb.block k (by omega)⟩ (by cases hv : v.ownBlock <;> simp), h.len, fun i hi => (h.mat i hi).below hb hN, h.box⟩

theorem Cts.nil (w : World) (base : Nat) : Cts w base (.slice none 0 0) [] [] :=
  ⟨World.ownsRow_nil _ _ _ _, rfl, fun i hi => absurd hi (by simp), fun i hi => absurd hi (by simp)⟩

theorem fr_mat {B : Nat} {w : World} {v : Value} {m : List (List Int)} (h : Fr B 22 3 w v m) : Mat 0 22 3 w v m := by
  obtain ⟨vs, h1, h2, h3⟩ := h
  exact ⟨vs, h1, Sl.own h2, h3⟩

theorem getD_left {α : Type} {a b : List α} {i : Nat} {d : α} (h : i < a.length) : (a ++ b).getD i d = a.getD i d := by
  simp only [List.getD_eq_getElem?_getD]; rw [List.getElem?_append_left h]

theorem getD_right {α : Type} {a b : List α} {i : Nat} {d : α} (h : a.length ≤ i) : (a ++ b).getD i d = b.getD (i - a.length) d := by
  simp only [List.getD_eq_getElem?_getD]; rw [List.getElem?_append_right h]

/-- One cut more. -/
theorem Cts.push {w w3 : World} {base : Nat} {v v' x : Value} {vs : List Value} {L : List (List (List Int))} {m : List (List Int)} (h : Cts w base v vs L) (hx : Mat 0 22 3 w x m) (hm : m.length = 2) (hbx : Box 3 4 m)
    (ho : w3.ownsRow base 28 2 v' (vs.length + 1) (cutVs vs ++ [.int .i64 2, x])) (hg : (w.alloc (.cells #[.int .i64 2, x] 28)).grownBy w3 v.ownBlock) : Cts w3 base v' (vs ++ [x]) (L ++ [m]) := by
  have hmv : ∀ {y : Value} {q : List (List Int)}, Mat 0 22 3 w y q → Mat 0 22 3 w3 y q := fun hq => mat_typed hq fun b cur t ht hb => by
    have hl := (Array.getElem?_eq_some_iff.1 hb).1
    refine (hg.block b (by simp; omega) (fun e => ?_)).trans (Below.heap_alloc _ _ _ hl)
    obtain ⟨_, c2, h2⟩ := owns_typed2 h.own b e.symm
    rw [h2] at hb
    cases hb
    rcases ht with ht | ht <;> exact absurd ht (by decide)
  have hl := h.len
  refine ⟨by rw [cutVs_snoc]; simpa using ho, by simp [hl], fun i hi => ?_, fun i hi => ?_⟩
  · by_cases e : i < vs.length
    · rw [getD_left e, getD_left (by omega)]; exact hmv (h.mat i e)
    · have : i = vs.length := by simp at hi; omega
      subst this
      rw [getD_right (Nat.le_refl _), getD_right (by omega), hl]
      simpa using hmv hx
  · by_cases e : i < vs.length
    · rw [getD_left (by omega)]; exact h.box i e
    · have : i = vs.length := by simp at hi; omega
      subst this
      rw [getD_right (by omega), hl]
      simpa using ⟨hm, hbx⟩

/-- Where the rows of a cut lie. -/
theorem Cts.cell {w : World} {base : Nat} {v : Value} {vs : List Value} {L : List (List (List Int))} (h : Cts w base v vs L) {j : Nat} (hj : j < vs.length) :
    ∃ g cap, v = .slice (some ⟨g, 0, none⟩) vs.length cap ∧ vs.length ≤ cap ∧ w.cell? ⟨g, j * 2 + 1, none⟩ = some (vs.getD j (.slice none 0 0)) := by
  obtain ⟨h1, h2⟩ := h.own
  rcases h2 with ⟨rfl, h0⟩ | ⟨g, cap, cur, rfl, hg, hh, hn, hc, hs, ht⟩
  · omega
  · refine ⟨g, cap, rfl, hn, ?_⟩
    have hx : vs[j]? = some (vs.getD j (.slice none 0 0)) := by simp [hj]
    have := cutVs_at vs j _ hx
    rw [← ht, List.getElem?_take] at this
    split at this
    · simp [World.cell?, hh]
      simpa using this
    · cases this

/-- Rows put together in the cut at block X. -/
structure XS (N X : Nat) (w wr : World) (v : Value) (m : List (List Int)) : Prop where
  cut : wr.heap[X]? = some (.cells #[.int .i64 2, v] 28 (0, 0))
  rows : Fr N 22 3 wr v m
  bel : Below N w wr
  nX : N ≤ X

theorem two_set {w : World} {b : Nat} {x y u : Value} {t : TypeId} (h : w.heap[b]? = some (.cells #[x, y] t (0, 0))) : (w.setCell ⟨b, 1, none⟩ u).heap[b]? = some (.cells #[x, u] t (0, 0)) := by
  simp [World.setCell, Array.getElem?_modify, h]

theorem XS.push {N X : Nat} {w wr w1 : World} {v v' : Value} {m ms : List (List Int)} {vs us : List Value} (h : XS N X w wr v m) (hN : N ≤ wr.heap.size)
    (h1 : vs.length = m.length) (h2 : wr.ownsRow N 22 1 v m.length vs) (h3 : ∀ i, i < m.length → Sl 0 3 wr (vs.getD i (.slice none 0 0)) (ints (m.getD i [])))
    (hu : us.length = ms.length) (hus : ∀ i, i < ms.length → Sl 0 3 wr (us.getD i (.slice none 0 0)) (ints (ms.getD i [])))
    (ho : w1.ownsRow N 22 1 v' (m.length + ms.length) (vs ++ us)) (hg : wr.grownBy w1 v.ownBlock) :
    (w1.heap[X]? = some (.cells #[.int .i64 2, v] 28 (0, 0))) ∧ XS N X w (w1.setCell ⟨X, 1, none⟩ v') v' (m ++ ms) := by
  have n2 := (Array.getElem?_eq_some_iff.1 h.cut).1
  have ht := owns_typed h2 (e1 := 3) (by decide)
  have hc := owns_typed h2 (e1 := 28) (by decide)
  have g2 : w1.heap[X]? = some (.cells #[.int .i64 2, v] 28 (0, 0)) := by
    rw [hg.block X n2 (fun e => (hc X e.symm).2 _ h.cut)]; exact h.cut
  have mv : ∀ {y : Value} {xs : List Value}, Sl 0 3 wr y xs → Sl 0 3 w1 y xs := fun hs => hs.grown hg (fun k hk => ⟨Nat.zero_le _, (ht k hk).2⟩)
  have hr : Fr N 22 3 w1 v' (m ++ ms) := by
    refine ⟨vs ++ us, by simp [h1, hu], by simpa using ho, fun i hi => ?_⟩
    by_cases e : i < m.length
    · rw [getD_left (by omega), getD_left e]; exact mv (h3 i e)
    · have hi' : i - m.length < ms.length := by simp at hi; omega
      rw [getD_right (by omega), getD_right (by omega), h1]; exact mv (hus _ hi')
  refine ⟨g2, ⟨two_set g2, ?_, ?_, h.nX⟩⟩
  · obtain ⟨us', u1, u2, u3⟩ := hr
    refine ⟨us', u1, ownsRow_setCell_other u2 (fun e => ?_) _, fun i hi => (u3 i hi).setCell _ ⟨Nat.zero_le _, fun cur => by simp only; rw [g2]; simp⟩⟩
    exact (owns_typed u2 (e1 := 28) (by decide) _ e).2 _ g2
  · exact (h.bel.grown hg hN (fun k hk => (ht k hk).1)).setCell h.nX _

end Go.Proofs.Ytfolfhodicjcaaa

/- Rows that are written into. -/
namespace Go.Proofs.Ytfolfhodicjcaaa
open Go.RowKit

/-- A number written into some row: each row has its old numbers, or that one. -/
theorem Sl.setI {w : World} {v : Value} {r : List Int} {b q : Nat} {z : Int} {cur : Array Value} (h : Sl 0 3 w v (ints r)) (hb : w.heap[b]? = some (.cells cur 3 (0, 0))) :
    ∃ r', r'.length = r.length ∧ (∀ y ∈ r', y ∈ r ∨ y = z) ∧ Sl 0 3 (w.setCell ⟨b, q, none⟩ (.int .i64 z)) v (ints r') := by
  obtain ⟨ao, cap, hv, h1, h2, h3, h4⟩ := h
  subst hv
  refine ⟨(List.range r.length).map fun i => match ao with | some a => if a.block = b ∧ a.off + i = q then z else r.getD i 0 | none => r.getD i 0, by simp, ?_, ao, cap, by simp, by simpa using h1, h2, ?_, fun e => by have := h4 e; simpa using this⟩
  · intro y hy
    simp only [List.mem_map, List.mem_range] at hy
    obtain ⟨i, hi, rfl⟩ := hy
    have hm : r.getD i 0 ∈ r := by
      rw [List.getD_eq_getElem?_getD, List.getElem?_eq_getElem hi]; exact List.getElem_mem _
    split
    · split
      · exact .inr rfl
      · exact .inl hm
    · exact .inl hm
  · intro i hi
    have hi' : i < r.length := by simpa using hi
    obtain ⟨b0, o0, ha, hc, ht⟩ := h3 i (by simpa using hi')
    subst ha
    refine ⟨b0, o0, rfl, ?_, ?_⟩
    · rw [ints_get _ _ (by simpa using hi')]
      rw [ints_get _ _ hi'] at hc
      have e0 : ((List.range r.length).map fun i => if b0 = b ∧ o0 + i = q then z else r.getD i 0).getD i 0 = if b0 = b ∧ o0 + i = q then z else r.getD i 0 := by simp [hi']
      refine Eq.trans ?_ (congrArg (fun t => some (Value.int .i64 t)) e0.symm)
      by_cases e : b0 = b ∧ o0 + i = q
      · obtain ⟨rfl, rfl⟩ := e
        rw [if_pos ⟨rfl, rfl⟩]
        exact World.cell?_setCell_same _ _ _ hc
      · rw [if_neg e]
        have hne : (⟨b, q, none⟩ : Addr) ≠ ⟨b0, o0 + i, none⟩ := fun h => by
          simp only [Addr.mk.injEq] at h
          exact e ⟨h.1.symm, h.2.1.symm⟩
        exact Eq.trans (World.cell?_setCell_other _ _ _ _ hne) hc
    · right
      rcases ht with ht | ⟨c0, ht⟩
      · omega
      · by_cases e : b0 = b
        · subst e
          exact ⟨cur.setIfInBounds q (.int .i64 z), by simp [World.setCell, Array.getElem?_modify, hb]⟩
        · exact ⟨c0, (Below.heap_setCell w _ _ b0 e).trans ht⟩

/-- Rows in the cut at block R. -/
structure CS (N R d : Nat) (w wr : World) (v : Value) (m : List (List Int)) : Prop where
  cut : wr.heap[R]? = some (.cells #[.int .i64 d, v] 28 (0, 0))
  rows : FrN N wr v m
  bel : Below N w wr
  nR : N ≤ R

/-- A cut's row, in memory. -/
theorem CS.row {N R d : Nat} {w wr : World} {v : Value} {m : List (List Int)} (h : CS N R d w wr v m) {i q : Nat} (hi : i < m.length) (hq : q < (m.getD i []).length) :
    ∃ g go gc b o c cur, v = .slice (some ⟨g, go, none⟩) m.length gc ∧ wr.cell? ⟨g, go + i, none⟩ = some (.slice (some ⟨b, o, none⟩) (m.getD i []).length c) ∧ wr.cell? ⟨b, o + q, none⟩ = some (.int .i64 ((m.getD i []).getD q 0)) ∧ N ≤ b ∧ wr.heap[b]? = some (.cells cur 3 (0, 0)) ∧ (m.getD i []).length ≤ c := by
  obtain ⟨vs, h1, h2, h3⟩ := h.rows
  obtain ⟨s1, s2⟩ := h3 i hi
  obtain ⟨b, o, c, hs, hc, hcell⟩ := sl_cell s1 (k := q) hq
  obtain ⟨ao, cap, hv, _, _, h5, _⟩ := s1
  rw [hs] at hv
  simp only [Value.slice.injEq] at hv
  obtain ⟨rfl, _, rfl⟩ := hv
  obtain ⟨b', o', ha, _, ht⟩ := h5 q (by simpa using hq)
  simp only [Option.some.injEq, Addr.mk.injEq] at ha
  obtain ⟨rfl, rfl, _⟩ := ha
  rcases ht with ht | ⟨cur, ht⟩
  · omega
  obtain ⟨g, go, gc, hg, _, _, hgc⟩ := (Sl.own (B := 0) h2).at (by omega)
  refine ⟨g, go, gc, b, o, c, cur, ?_, ?_, hcell, ?_, ht, hc⟩
  · rw [hg, h1]
  · rw [hgc i (by omega), ← hs]
    rw [List.getD_eq_getElem?_getD, List.getElem?_eq_getElem (by omega)]; rfl
  · exact s2 b o _ c hs

/-- A number written into a row of a cut. -/
theorem CS.set {N R d : Nat} {w wr : World} {v : Value} {m : List (List Int)} (h : CS N R d w wr v m) {b q : Nat} {z : Int} {cur : Array Value} (hN : N ≤ b) (hb : wr.heap[b]? = some (.cells cur 3 (0, 0))) :
    ∃ m', m'.length = m.length ∧ (∀ i, i < m.length → (m'.getD i []).length = (m.getD i []).length ∧ ∀ y ∈ m'.getD i [], y ∈ m.getD i [] ∨ y = z) ∧ CS N R d w (wr.setCell ⟨b, q, none⟩ (.int .i64 z)) v m' := by
  obtain ⟨vs, h1, h2, h3⟩ := h.rows
  have hx : ∀ i, ∃ r', i < m.length → r'.length = (m.getD i []).length ∧ (∀ y ∈ r', y ∈ m.getD i [] ∨ y = z) ∧ SlN N (wr.setCell ⟨b, q, none⟩ (.int .i64 z)) (vs.getD i (.slice none 0 0)) (ints r') := fun i => by
    by_cases hi : i < m.length
    · obtain ⟨r', g1, g2, g3⟩ := Sl.setI (q := q) (z := z) (h3 i hi).1 hb
      exact ⟨r', fun _ => ⟨g1, g2, g3, (h3 i hi).2⟩⟩
    · exact ⟨[], fun h => absurd h hi⟩
  obtain ⟨F, hF⟩ := Classical.axiomOfChoice hx
  have hg : ∀ i, i < m.length → ((List.range m.length).map F).getD i [] = F i := fun i hi => by simp [hi]
  refine ⟨(List.range m.length).map F, by simp, fun i hi => ?_, ?_⟩
  · rw [hg i hi]; exact ⟨(hF i hi).1, (hF i hi).2.1⟩
  · have hne : R ≠ b := fun e => by
      have := h.cut
      rw [e, hb] at this
      simp at this
    refine ⟨(Below.heap_setCell wr _ _ R hne).trans h.cut, ⟨vs, by simpa using h1, ?_, fun i hi => ?_⟩, h.bel.setCell hN _, h.nR⟩
    · have := ownsRow_setCell_other (a := ⟨b, q, none⟩) h2 (fun e => (owns_typed h2 (e1 := 3) (by decide) b e).2 _ hb) (.int .i64 z)
      simpa using this
    · have hi' : i < m.length := by simpa using hi
      rw [hg i hi']
      exact (hF i hi').2.2

/-- One more row. -/
theorem CS.push {N R d : Nat} {w wr w1 : World} {v v' u : Value} {m : List (List Int)} {zs : List Int} {vs : List Value} (h : CS N R d w wr v m) (hN : N ≤ wr.heap.size)
    (h1 : vs.length = m.length) (h2 : wr.ownsRow N 22 1 v m.length vs) (h3 : ∀ i, i < m.length → SlN N wr (vs.getD i (.slice none 0 0)) (ints (m.getD i []))) (hu : SlN N wr u (ints zs))
    (ho : w1.ownsRow N 22 1 v' (m.length + 1) (vs ++ [u])) (hg : wr.grownBy w1 v.ownBlock) :
    (w1.heap[R]? = some (.cells #[.int .i64 d, v] 28 (0, 0))) ∧ CS N R d w (w1.setCell ⟨R, 1, none⟩ v') v' (m ++ [zs]) := by
  have n2 := (Array.getElem?_eq_some_iff.1 h.cut).1
  have ht := owns_typed h2 (e1 := 3) (by decide)
  have hc := owns_typed h2 (e1 := 28) (by decide)
  have g2 : w1.heap[R]? = some (.cells #[.int .i64 d, v] 28 (0, 0)) := by
    rw [hg.block R n2 (fun e => (hc R e.symm).2 _ h.cut)]; exact h.cut
  have hr : FrN N w1 v' (m ++ [zs]) := FrN.push h1 h2 h3 hu ho hg
  refine ⟨g2, ⟨two_set g2, ?_, ?_, h.nR⟩⟩
  · obtain ⟨us', u1, u2, u3⟩ := hr
    refine ⟨us', u1, ownsRow_setCell_other u2 (fun e => ?_) _, fun i hi => ⟨(u3 i hi).1.setCell _ ⟨Nat.zero_le _, fun cur => by simp only; rw [g2]; simp⟩, (u3 i hi).2⟩⟩
    exact (owns_typed u2 (e1 := 28) (by decide) _ e).2 _ g2
  · exact (h.bel.grown hg hN (fun k hk => (ht k hk).1)).setCell h.nR _

end Go.Proofs.Ytfolfhodicjcaaa

/- facetref.CutOf. -/
namespace Go.Proofs.Ytfolfhodicjcaaa
open Go.RowKit
attribute [local go_sem ↓] Go.wp_at_zero Go.wp_at_succ

/-- Rows as many and as long as asked, and small. -/
structure RowsOk (d n b : Nat) (m : List (List Int)) : Prop where
  num : m.length = n
  row : ∀ i, i < m.length → (m.getD i []).length = d + 1 ∧ ∀ z ∈ m.getD i [], z.natAbs ≤ b

theorem RowsOk.cut {d n : Nat} {m : List (List Int)} (h : RowsOk d n 20 m) (h1 : 1 ≤ d) (h3 : d ≤ 3) (hn : n ≤ 12) : CutOk d m := by
  have hx : ∀ r ∈ m, r.length = d + 1 ∧ ∀ z ∈ r, z.natAbs ≤ 20 := fun r hr => by
    obtain ⟨i, hi, rfl⟩ := List.getElem_of_mem hr
    have := h.row i hi
    rw [List.getD_eq_getElem?_getD, List.getElem?_eq_getElem hi] at this
    exact this
  exact ⟨h1, h3, by rw [h.num]; exact hn, fun r hr => (hx r hr).1, fun r hr => (hx r hr).2⟩

/-- A row of the box. -/
def boxR (d q s : Nat) : List Int := (List.range (d + 1)).map fun i => if i = d then 5 else if i = q then 1 - 2 * (s : Int) else 0

set_option maxRecDepth 100000 in
set_option maxHeartbeats 1600000 in
theorem cutOf_any (B : Nat) (raw : List Int) (v : Value) (d many box : Nat) (w : World) (hv : Sl B 3 w v (ints raw)) (hr : ∀ z ∈ raw, In64 z) (hl : raw.length ≤ 9223372036854775807) (hd1 : 1 ≤ d) (hd : d ≤ 3) (hm : many ≤ 4) (hbx : box ≤ 6) :
    Calls Try.prog 10 #[v, .int .i64 d, .int .i64 many, .int .i64 box] w fun e w' => ∃ x rows, e = .returned (.agg #[.int .i64 d, x]) ∧ Mat 0 22 3 w' x rows ∧ CutOk d rows ∧ Below w.heap.size w w' := by
  obtain ⟨i0, hi0, hz0, hz1, hz2⟩ := info_parts Try.info22
  obtain ⟨ao, cap, hvv, hlc, hcm⟩ := sl_open hv
  subst hvv
  have HV : Hid (Sl B 3 w (.slice ao raw.length cap) (ints raw)) := hv
  have HR : Hid (∀ z ∈ raw, In64 z) := hr
  obtain ⟨W, hW⟩ : ∃ W, W = w.alloc (.cells #[.int .i64 0, .slice none 0 0] 28) := ⟨_, rfl⟩
  obtain ⟨N, hN⟩ : ∃ N, N = w.heap.size + 1 := ⟨_, rfl⟩
  have hsW : W.heap.size = N := by rw [hW, hN]; simp
  have hbW : Below w.heap.size w W := by rw [hW]; exact alloc_keep _ _
  have hkW : W.heap[w.heap.size]? = some (.cells #[.int .i64 0, .slice none 0 0] 28 (0, 0)) := by rw [hW]; exact alloc_new _ _
  have HPT : Hid (Calls Try.prog 6 #[.slice ao raw.length cap, .int .i64 0, .int .i64 ((d : Int) + 1), .int .i64 many, .int .i64 4] W fun e w' => ∃ xo xc m, e = .returned (.slice xo many xc) ∧ RowsOk d many 4 m ∧ FrN N w' (.slice xo many xc) m ∧ Below N W w') := by
    have h := pointsOf_new B raw _ 0 (d + 1) many 4 W (hv.below hbW (Nat.le_refl _)) hr (by omega) (by omega) (by omega) (by omega) (by omega)
    rw [show ((d + 1 : Nat) : Int) = (d : Int) + 1 by omega] at h
    refine Calls.mono h ?_
    rintro e w' ⟨x, m, rfl, g1, g2, g3, g4⟩
    rw [hsW] at g3 g4
    obtain ⟨vs, q1, q2, q3⟩ := g3
    have q2' := q2
    rw [g1] at q2'
    obtain ⟨xo, xc, rfl⟩ := owns_form q2'
    refine ⟨xo, xc, m, rfl, ⟨g1, fun i hi => ?_⟩, ⟨vs, q1, q2, q3⟩, g4⟩
    have hm : m.getD i [] ∈ m := by
      rw [List.getD_eq_getElem?_getD, List.getElem?_eq_getElem hi]; exact List.getElem_mem _
    have := g2 _ hm
    exact ⟨this.1, fun z hz => by have := this.2 z hz; omega⟩
  have HW : Hid (W = w.alloc (.cells #[.int .i64 0, .slice none 0 0] 28)) := hW
  have HN : Hid (N = w.heap.size + 1) := hN
  have HSW : Hid (W.heap.size = N) := hsW
  have HBW : Hid (Below w.heap.size w W) := hbW
  have HKW : Hid (W.heap[w.heap.size]? = some (.cells #[.int .i64 0, .slice none 0 0] 28 (0, 0))) := hkW
  clear hv hr hsW hbW hkW hW hN
  go_enter Try.func10, Try.ntmps10
  go_wp2_with fail
  rw [← HW.out]
  refine HPT.out.mono ?_
  rintro e w1 ⟨xo, xc, m, rfl, hm1, hm2, hm3⟩
  obtain ⟨R, hR⟩ : ∃ R, R = w1.heap.size := ⟨_, rfl⟩
  have HRR : Hid (R = w1.heap.size) := hR
  have HCS : Hid (CS N R d W (w1.alloc (.cells #[.int .i64 d, .slice xo many xc] 28)) (.slice xo many xc) m) := ⟨by rw [hR]; exact alloc_new _ _, hm2.alloc _, hm3.trans ((alloc_keep _ _).mono (by have := hm3.size; rw [HSW.out] at this; exact this)), by rw [hR]; have := hm3.size; rw [HSW.out] at this; exact this⟩
  have HRO : Hid (RowsOk d many 4 m) := hm1
  clear hm1 hm2 hm3 hR HPT
  go_wp2
  rw [← HRR.out]
  go_loopw [10] (fun i wr => ∃ (k : Nat) (m : List (List Int)), k ≤ many ∧ i = .int .i64 k ∧ CS N R d W wr (.slice xo many xc) m ∧ RowsOk d many (4 + 3 * k) m) (fun i _ => many - (intOf i).toNat)
  case atStart => exact ⟨0, m, Nat.zero_le _, rfl, HCS.out, HRO.out⟩
  case round =>
    clear HCS HRO
    obtain ⟨k, m, hk, rfl, hcs, hro⟩ := hrel
    obtain ⟨wa, rfl⟩ : ∃ wa, wa = wr := ⟨wr, rfl⟩
    have HCS : Hid (CS N R d W wa (.slice xo many xc) m) := hcs
    have HRO : Hid (RowsOk d many (4 + 3 * k) m) := hro
    have c1 : wa.cell? ⟨R, 1, none⟩ = some (.slice xo many xc) := by simp [World.cell?, hcs.cut]
    clear hcs hro
    by_cases hlt : k < many
    · have hkm : k < m.length := by rw [HRO.out.num]; exact hlt
      have hrl := (HRO.out.row k hkm).1
      obtain ⟨g, go, gc, b, o, c, cur, hv, h1, h2, h3, h4, h5⟩ := HCS.out.row hkm (q := d) (by omega)
      simp only [Value.slice.injEq] at hv
      obtain ⟨rfl, -, rfl⟩ := hv
      obtain ⟨z, hz⟩ : ∃ z, z = (m.getD k []).getD d 0 := ⟨_, rfl⟩
      rw [← hz] at h2
      rw [hrl] at h1 h5
      have hzb : z.natAbs ≤ 4 + 3 * k := by
        rw [hz]
        refine (HRO.out.row k hkm).2 _ ?_
        have hdl : d < (m.getD k []).length := by omega
        generalize m.getD k [] = q at hdl
        rw [List.getD_eq_getElem?_getD, List.getElem?_eq_getElem hdl]; exact List.getElem_mem _
      have HST : Hid (∃ m', CS N R d W (wa.setCell ⟨b, o + d, none⟩ (.int .i64 (z + 3))).drew (.slice (some ⟨g, go, none⟩) many xc) m' ∧ RowsOk d many (4 + 3 * (k + 1)) m') := by
        have h0 := HCS.out
        obtain ⟨m', q1, q2, q3⟩ := h0.set (q := o + d) (z := z + 3) h3 h4
        refine ⟨m', ⟨q3.cut, q3.rows, q3.bel.drew, q3.nR⟩, by rw [q1, HRO.out.num], fun i hi => ?_⟩
        rw [q1] at hi
        have hr := HRO.out.row i hi
        refine ⟨by rw [(q2 i hi).1]; exact hr.1, fun y hy => ?_⟩
        rcases (q2 i hi).2 y hy with h | h
        · have := hr.2 y h; omega
        · omega
      have hf : wa.frozen? ⟨b, o + d, none⟩ = false := by simp [World.frozen?, h4]
      have hkI : (k : Int) < (many : Int) := by omega
      have hkI0 : (0 : Int) ≤ (k : Int) := by omega
      have hdI0 : (0 : Int) ≤ (d : Int) := by omega
      have hdI : (d : Int) < ((d + 1 : Nat) : Int) := by omega
      have hdJ : (d : Int) < (d : Int) + 1 := by omega
      have hzI : -100 ≤ z + 3 := by omega
      have hzJ : z + 3 ≤ 100 := by omega
      have hwz : IntKind.i64.wrap (z + 3) = z + 3 := by rw [IntKind.wrap_i64]; omega
      clear hz hrl h3 h4 hzb
      go_wp2_with fail
      go_region
      all_goals
        obtain ⟨m', q1, q2⟩ := HST.out
        have HN1 : Hid (CS N R d W (wa.setCell ⟨b, o + d, none⟩ (.int .i64 (z + 3))).drew (.slice (some ⟨g, go, none⟩) many xc) m') := q1
        have HN2 : Hid (RowsOk d many (4 + 3 * (k + 1)) m') := q2
        clear q1 q2 c1 h1 h2 hf
        go_wp2
        go_roundw
        case rel => exact ⟨k + 1, m', by omega, by go_num, HN1.out, HN2.out⟩
        case measure => simp [intOf]; omega
    · have hke : k = many := by omega
      subst hke
      have HR2 : Hid (RowsOk d (k + 0) 20 m) := ⟨HRO.out.num, fun i hi => ⟨(HRO.out.row i hi).1, fun z hz => by have := (HRO.out.row i hi).2 z hz; omega⟩⟩
      clear c1 HRO
      go_wp2
      go_loopw [11] (fun i wr => ∃ (j : Nat) (x : Value) (m : List (List Int)), j ≤ 6 ∧ i = .int .i64 j ∧ CS N R d W wr x m ∧ RowsOk d (k + j) 20 m) (fun i _ => 6 - (intOf i).toNat)
      case atStart => exact ⟨0, _, m, by omega, rfl, HCS.out, HR2.out⟩
      case round =>
        clear HCS HR2
        obtain ⟨j, x, m, hj, rfl, hcs, hro⟩ := hrel
        obtain ⟨wb, rfl⟩ : ∃ wb, wb = wr := ⟨wr, rfl⟩
        have HRO : Hid (RowsOk d (k + j) 20 m) := hro
        obtain ⟨vs, g1, g2, g3⟩ := hcs.rows
        have hml := hro.num
        rw [hml] at g2
        obtain ⟨yo, yc, hyv⟩ := owns_form g2
        subst hyv
        have HCS : Hid (CS N R d W wb (.slice yo (k + j) yc) m) := hcs
        have c1 : wb.cell? ⟨R, 1, none⟩ = some (.slice yo (k + j) yc) := by simp [World.cell?, hcs.cut]
        have c0 : wb.cell? ⟨R, 0, none⟩ = some (.int .i64 d) := by simp [World.cell?, hcs.cut]
        clear hcs hro g1 g2 g3 hml vs
        by_cases hjb : j < 2 * d ∧ j < box
        · obtain ⟨hjd, hjb⟩ := hjb
          obtain ⟨q, hq⟩ : ∃ q, q = j / 2 := ⟨_, rfl⟩
          obtain ⟨s, hs⟩ : ∃ s, s = j % 2 := ⟨_, rfl⟩
          have hqI : (j : Int).tdiv 2 = (q : Int) := by rw [hq, Int.tdiv_eq_ediv_of_nonneg (by omega)]; omega
          have hsI : (j : Int).tmod 2 = (s : Int) := by rw [hs, Int.tmod_eq_emod_of_nonneg (by omega)]; omega
          have hq1 : q < d := by omega
          have hs1 : s < 2 := by omega
          clear hq hs
          obtain ⟨cs, hcs⟩ : ∃ cs, cs = ((madeCells #[.int .i64 0] (d + 1)).setIfInBounds q (.int .i64 (1 - 2 * (s : Int)))).setIfInBounds d (.int .i64 5) := ⟨_, rfl⟩
          obtain ⟨Wq, hWq⟩ : ∃ Wq, Wq = wb.alloc (.cells cs 3) := ⟨_, rfl⟩
          have hbq : Below wb.heap.size wb Wq := by rw [hWq]; exact alloc_keep _ _
          have hsq : Wq.heap.size = wb.heap.size + 1 := by rw [hWq]; simp
          have hNw : N ≤ wb.heap.size := by have := HCS.out.bel.size; rw [HSW.out] at this; exact this
          have HPQ : Hid (CS N R d W Wq (.slice yo (k + j) yc) m) := ⟨(hbq.block R (Array.getElem?_eq_some_iff.1 HCS.out.cut).1).trans HCS.out.cut, HCS.out.rows.below hbq (Nat.le_refl _), HCS.out.bel.trans (hbq.mono hNw), HCS.out.nR⟩
          have HXK : Hid (SlN N Wq (.slice (some ⟨wb.heap.size, 0, none⟩) (d + 1) (d + 1)) (ints (boxR d q s))) := by
            refine ⟨?_, fun b o n c e => by simp only [Value.slice.injEq, Option.some.injEq, Addr.mk.injEq] at e; omega⟩
            have hrow : Wq.rowIs wb.heap.size 3 (d + 1) (fun j => if j = d then .int .i64 5 else if j = q then .int .i64 (1 - 2 * (s : Int)) else .int .i64 0) := by
              have e : ((wb.alloc (.cells (madeCells #[.int .i64 0] (d + 1)) 3)).setCell ⟨wb.heap.size, q, none⟩ (.int .i64 (1 - 2 * (s : Int)))).setCell ⟨wb.heap.size, d, none⟩ (.int .i64 5) = Wq := by rw [hWq, hcs]; simp [go_sem]
              rw [← e]
              exact ((World.rowIs_made wb (.int .i64 0) (d + 1) 3).set q _).set d _
            refine Sl.row hrow (by simp [boxR]) (by unfold maxLen; omega) (fun i hi => ?_)
            rw [ints_get _ _ (by simpa [boxR] using hi)]
            by_cases e1 : i = d
            · subst e1; simp [boxR]
            · by_cases e2 : i = q
              · subst e2; simp [boxR, hi, e1]
              · simp [boxR, hi, e1, e2]
          have HRN : Hid (RowsOk d (k + (j + 1)) 20 (m ++ [boxR d q s])) := by
            refine ⟨by simp [HRO.out.num]; omega, fun i hi => ?_⟩
            by_cases hil : i < m.length
            · rw [getD_left hil]; exact HRO.out.row i hil
            · have : i = m.length := by simp at hi; omega
              subst this
              rw [getD_right (Nat.le_refl _)]
              simp only [Nat.sub_self, List.getD_cons_zero]
              refine ⟨by simp [boxR], fun z hz => ?_⟩
              simp only [boxR, List.mem_map, List.mem_range] at hz
              obtain ⟨i, _, rfl⟩ := hz
              split
              · decide
              · split
                · omega
                · decide
          obtain ⟨vs2, g1, g2, g3⟩ := HPQ.out.rows
          have hln := HRO.out.num
          have G2 : Hid (Wq.ownsRow N 22 1 (.slice yo (k + j) yc) (k + j) vs2) := by rw [hln] at g2; exact g2
          have HPU2 : Hid (∀ v' w6, w6.ownsRow N 22 1 v' (k + j + 1) (vs2 ++ [.slice (some ⟨wb.heap.size, 0, none⟩) (d + 1) (d + 1)]) → (Wq.alloc (.cells #[.slice (some ⟨wb.heap.size, 0, none⟩) (d + 1) (d + 1)] 22)).grownBy w6 (Value.slice yo (k + j) yc).ownBlock →
              w6.cell? ⟨R, 1, none⟩ = some (.slice yo (k + j) yc) ∧ w6.frozen? ⟨R, 1, none⟩ = false ∧ CS N R d W (w6.setCell ⟨R, 1, none⟩ v') v' (m ++ [boxR d q s])) := fun v' w6 ho hg => by
            have hba := alloc_keep Wq (.cells #[.slice (some ⟨wb.heap.size, 0, none⟩) (d + 1) (d + 1)] 22)
            have hNq : N ≤ Wq.heap.size := by omega
            have h0 : CS N R d W (Wq.alloc (.cells #[.slice (some ⟨wb.heap.size, 0, none⟩) (d + 1) (d + 1)] 22)) (.slice yo (k + j) yc) m := ⟨(hba.block R (Array.getElem?_eq_some_iff.1 HPQ.out.cut).1).trans HPQ.out.cut, HPQ.out.rows.alloc _, HPQ.out.bel.trans (hba.mono hNq), HPQ.out.nR⟩
            have hp := h0.push (by simp; omega) g1 (g2.alloc _) (fun i hi => (g3 i hi).alloc _) (HXK.out.alloc _) (by rw [hln]; exact ho) hg
            exact ⟨by simp [World.cell?, hp.1], by simp [World.frozen?, hp.1], hp.2⟩
          have HNEW2 : Hid (∀ j u, [Value.slice (some ⟨wb.heap.size, 0, none⟩) (d + 1) (d + 1)][j]? = some u → (Wq.alloc (.cells #[.slice (some ⟨wb.heap.size, 0, none⟩) (d + 1) (d + 1)] 22)).cell? ((⟨wb.heap.size + 1, 0, none⟩ : Addr).add j) = some u) := by
            rw [← hsq]; exact one_new _ _ _
          have HNS2 : Hid (N ≤ (Wq.alloc (.cells #[.slice (some ⟨wb.heap.size, 0, none⟩) (d + 1) (d + 1)] 22)).heap.size) := by
            show _ ≤ _
            simp; omega
          have d2 : Wq.cell? ⟨R, 1, none⟩ = some (.slice yo (k + j) yc) := by simp [World.cell?, HPQ.out.cut]
          have hmc : (madeCells #[.int .i64 0] (d + 1))[q]? = some (.int .i64 0) := by
            rw [← Array.getElem?_toList, toList_madeCells_one, List.getElem?_replicate, if_pos (by omega)]
          have hmd : ((madeCells #[.int .i64 0] (d + 1)).setIfInBounds q (.int .i64 (1 - 2 * (s : Int))))[d]? = some (.int .i64 0) := by
            have h1 : (madeCells #[.int .i64 0] (d + 1))[d]? = some (.int .i64 0) := by
              rw [← Array.getElem?_toList, toList_madeCells_one]; simp
            rw [Array.getElem?_setIfInBounds_ne (by omega), h1]
          have hqI1 : (q : Int) < (d : Int) + 1 := by omega
          have hqI0 : (0 : Int) ≤ (q : Int) := by omega
          have hjI : (j : Int) < 2 * (d : Int) := by omega
          have hjJ : (j : Int) < (box : Int) := by omega
          have hkj : (k : Int) + (j : Int) < 12 := by omega
          have hdI0 : (0 : Int) ≤ (d : Int) := by omega
          have hdJ : (d : Int) < (d : Int) + 1 := by omega
          have hmk : ∀ w : World, (Instr.makeSlice 22 (.int .i64 ((d : Int) + 1)) (.int .i64 ((d : Int) + 1))).run Try.prog w = .ok (.slice (some ⟨w.heap.size, 0, none⟩) (d + 1) (d + 1)) (w.alloc (.cells (madeCells #[.int .i64 0] (d + 1)) 3)) := by
            rw [show (d : Int) + 1 = ((d + 1 : Nat) : Int) by omega]
            exact run_make_row' (P := Try.prog) 22 3 (.int .i64 0) 8 Try.underlying22 Try.info3 rfl .i64 .i64 (d + 1) (by omega) (by omega)
          clear g1 g2 g3 hln hbq hsq HXK
          subst hWq
          subst hcs
          go_wp2_with (first | (at_builtin; refine wpList_append_own _ rfl _ _ 25 rfl N 22 i0 (.slice none 0 0) 1 24 Try.underlying25 hi0 hz0 hz1 hz2 rfl (by decide) _ _ _ rfl (G2.out.alloc _) ⟨wb.heap.size + 1, 0, none⟩ 1 1 [.slice (some ⟨wb.heap.size, 0, none⟩) (d + 1) (d + 1)] rfl rfl HNEW2.out (one_slice _ _ _) ?d3 ?d4 ?d5 ?_))
          case d3 => unfold maxLen; omega
          case d4 => omega
          case d5 => exact HNS2.out
          intro v' w6 ho hg _
          obtain ⟨vo2, vc2, hv2⟩ := owns_form ho
          subst hv2
          have FF := HPU2.out _ w6 ho hg
          have LS1 := FF.1
          have LS2 := FF.2.1
          have HNX : Hid (CS N R d W (w6.setCell ⟨R, 1, none⟩ (.slice vo2 (k + j + 1) vc2)) (.slice vo2 (k + j + 1) vc2) (m ++ [boxR d q s])) := FF.2.2
          clear ho hg FF
          go_wp2
          go_roundw
          case rel => exact ⟨j + 1, _, _, by omega, by go_num, HNX.out, HRN.out⟩
          case measure => simp [intOf]; omega
        · by_cases hjd : j < 2 * d
          · have hjb' : ¬ j < box := fun h => hjb ⟨hjd, h⟩
            have hjI : (j : Int) < 2 * (d : Int) := by omega
            have hjJ : ¬ (j : Int) < (box : Int) := by omega
            have hres : wb.heap[w.heap.size]? = some (.cells #[.int .i64 0, .slice none 0 0] 28 (0, 0)) := (HCS.out.bel.block _ (by rw [HN.out]; omega)).trans HKW.out
            have k0 : wb.cell? ⟨w.heap.size, 0, none⟩ = some (.int .i64 0) := by simp [World.cell?, hres]
            have k1 : wb.cell? ⟨w.heap.size, 1, none⟩ = some (.slice none 0 0) := by simp [World.cell?, hres]
            have f0 : wb.frozen? ⟨w.heap.size, 0, none⟩ = false := by simp [World.frozen?, hres]
            have f1 : wb.frozen? ⟨w.heap.size, 1, none⟩ = false := by simp [World.frozen?, hres]
            have HFIN : Hid (∀ a b : Value, Mat 0 22 3 ((wb.setCell ⟨w.heap.size, 0, none⟩ a).setCell ⟨w.heap.size, 1, none⟩ b) (.slice yo (k + j) yc) m ∧ Below w.heap.size w ((wb.setCell ⟨w.heap.size, 0, none⟩ a).setCell ⟨w.heap.size, 1, none⟩ b)) := fun a b => by
              have g0 : (wb.setCell ⟨w.heap.size, 0, none⟩ a).heap[w.heap.size]? = some (.cells #[a, .slice none 0 0] 28 (0, 0)) := by simp [World.setCell, Array.getElem?_modify, hres]
              have kk : ∀ e, e ≠ 28 → ∀ cur, wb.heap[w.heap.size]? ≠ some (.cells cur e (0, 0)) := by
                intro e he cur; rw [hres]; simp; intro _ h; exact absurd h.symm he
              have kk2 : ∀ e, e ≠ 28 → ∀ cur, (wb.setCell ⟨w.heap.size, 0, none⟩ a).heap[w.heap.size]? ≠ some (.cells cur e (0, 0)) := by
                intro e he cur; rw [g0]; simp; intro _ h; exact absurd h.symm he
              obtain ⟨us, u1, u2, u3⟩ := HCS.out.rows
              refine ⟨⟨us, u1, ?_, fun i hi => ?_⟩, ?_⟩
              · exact ((Sl.own (B := 0) u2).setCell _ ⟨Nat.zero_le _, kk 22 (by decide)⟩).setCell _ ⟨Nat.zero_le _, kk2 22 (by decide)⟩
              · exact ((u3 i hi).1.setCell _ ⟨Nat.zero_le _, kk 3 (by decide)⟩).setCell _ ⟨Nat.zero_le _, kk2 3 (by decide)⟩
              · have hb : Below w.heap.size w wb := HBW.out.trans (HCS.out.bel.mono (by rw [HN.out]; omega))
                exact (hb.setCell (Nat.le_refl _) _).setCell (Nat.le_refl _) _
            clear hres
            go_wp2
            refine bodyPost_ret (v := .agg #[.int .i64 d, .slice yo (k + j) yc]) (by simp [results, Try.results10, go_sem, *]) rfl ?_
            exact ⟨_, rfl, m, (HFIN.out _ _).1, HRO.out.cut hd1 hd (by omega), (HFIN.out _ _).2⟩
          · have hjI : ¬ (j : Int) < 2 * (d : Int) := by omega
            have hres : wb.heap[w.heap.size]? = some (.cells #[.int .i64 0, .slice none 0 0] 28 (0, 0)) := (HCS.out.bel.block _ (by rw [HN.out]; omega)).trans HKW.out
            have k0 : wb.cell? ⟨w.heap.size, 0, none⟩ = some (.int .i64 0) := by simp [World.cell?, hres]
            have k1 : wb.cell? ⟨w.heap.size, 1, none⟩ = some (.slice none 0 0) := by simp [World.cell?, hres]
            have f0 : wb.frozen? ⟨w.heap.size, 0, none⟩ = false := by simp [World.frozen?, hres]
            have f1 : wb.frozen? ⟨w.heap.size, 1, none⟩ = false := by simp [World.frozen?, hres]
            have HFIN : Hid (∀ a b : Value, Mat 0 22 3 ((wb.setCell ⟨w.heap.size, 0, none⟩ a).setCell ⟨w.heap.size, 1, none⟩ b) (.slice yo (k + j) yc) m ∧ Below w.heap.size w ((wb.setCell ⟨w.heap.size, 0, none⟩ a).setCell ⟨w.heap.size, 1, none⟩ b)) := fun a b => by
              have g0 : (wb.setCell ⟨w.heap.size, 0, none⟩ a).heap[w.heap.size]? = some (.cells #[a, .slice none 0 0] 28 (0, 0)) := by simp [World.setCell, Array.getElem?_modify, hres]
              have kk : ∀ e, e ≠ 28 → ∀ cur, wb.heap[w.heap.size]? ≠ some (.cells cur e (0, 0)) := by
                intro e he cur; rw [hres]; simp; intro _ h; exact absurd h.symm he
              have kk2 : ∀ e, e ≠ 28 → ∀ cur, (wb.setCell ⟨w.heap.size, 0, none⟩ a).heap[w.heap.size]? ≠ some (.cells cur e (0, 0)) := by
                intro e he cur; rw [g0]; simp; intro _ h; exact absurd h.symm he
              obtain ⟨us, u1, u2, u3⟩ := HCS.out.rows
              refine ⟨⟨us, u1, ?_, fun i hi => ?_⟩, ?_⟩
              · exact ((Sl.own (B := 0) u2).setCell _ ⟨Nat.zero_le _, kk 22 (by decide)⟩).setCell _ ⟨Nat.zero_le _, kk2 22 (by decide)⟩
              · exact ((u3 i hi).1.setCell _ ⟨Nat.zero_le _, kk 3 (by decide)⟩).setCell _ ⟨Nat.zero_le _, kk2 3 (by decide)⟩
              · have hb : Below w.heap.size w wb := HBW.out.trans (HCS.out.bel.mono (by rw [HN.out]; omega))
                exact (hb.setCell (Nat.le_refl _) _).setCell (Nat.le_refl _) _
            clear hres
            go_wp2
            refine bodyPost_ret (v := .agg #[.int .i64 d, .slice yo (k + j) yc]) (by simp [results, Try.results10, go_sem, *]) rfl ?_
            exact ⟨_, rfl, m, (HFIN.out _ _).1, HRO.out.cut hd1 hd (by omega), (HFIN.out _ _).2⟩

end Go.Proofs.Ytfolfhodicjcaaa
