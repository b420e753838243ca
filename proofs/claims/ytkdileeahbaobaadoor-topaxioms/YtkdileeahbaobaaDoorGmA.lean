import Derived.Test.YtkdileeahbaobaaDoorGp2
import Derived.Test.YtkdileeahbaobaaDoorGp3
import Derived.Test.YtkdileeahbaobaaDoorMs0
import Derived.Test.YtkdileeahbaobaaDoorMade1
import Derived.Test.YtkdileeahbaobaaDoorGmB
/- facetref.GraphOf: what it gives. -/
namespace Go.Proofs.YtkdileeahbaobaaDoor
open Go.RowKit
attribute [local go_sem ↓] Go.wp_at_zero Go.wp_at_succ

/-- Do these edges lead nowhere around? -/
def frE (es : List (Nat × Nat)) (s : Nat) : Bool := fsB (pkE es s) fun v => v

/-- The bases of a graph. -/
def grB (es : List (Nat × Nat)) : List Int := greL (setsTo (frE es) (2 ^ es.length))

theorem setsTo_b8 (p : Nat → Bool) : ∀ k, k ≤ 256 → ∀ z ∈ setsTo p k, 0 ≤ z ∧ z < 256
  | 0, _, z, hz => by simp [setsTo] at hz
  | k + 1, h, z, hz => by
    rw [setsTo_succ] at hz
    rcases List.mem_append.1 hz with hz | hz
    · exact setsTo_b8 p k (by omega) z hz
    · by_cases c : p k = true
      · rw [if_pos c] at hz
        have : z = (k : Int) := by simpa using hz
        omega
      · rw [if_neg c] at hz
        exact absurd hz (by simp)

set_option maxRecDepth 100000 in
set_option maxHeartbeats 800000 in
theorem graphOf_is (nodes : Nat) (es : List (Nat × Nat)) (v : Value) (w : World) (he : Eds w.heap.size w v es) (hes : ∀ e ∈ es, e.1 < nodes ∧ e.2 < nodes) (hm : es.length ≤ 8) (hn : nodes ≤ 16) :
    Calls Tryd.prog 12 #[.int .i64 nodes, v] w fun e w' => ∃ u, e = .returned (.agg #[.int .i64 es.length, u]) ∧ Sl 0 3 w' u (ints (grB es)) ∧ Below w.heap.size w w' := by
  obtain ⟨i3, hi3, hz30, hz31, hz32⟩ := info_parts Tryd.info3
  have HE0 : Hid (Eds w.heap.size w v es) := he
  obtain ⟨po, ec, hvv, -⟩ := he
  subst hvv
  have HES : Hid (∀ e ∈ es, e.1 < nodes ∧ e.2 < nodes) := hes
  clear hes
  obtain ⟨W, hW⟩ : ∃ W, W = w.alloc (.cells #[.int .i64 0, .slice none 0 0] 25) := ⟨_, rfl⟩
  have HBA : Hid (Below w.heap.size w W) := by rw [hW]; exact (Below.refl _ _).alloc (Nat.le_refl _) _
  have HR0 : Hid (W.heap[w.heap.size]? = some (.cells #[.int .i64 0, .slice none 0 0] 25 (0, 0))) := by rw [hW]; exact heap_alloc_new w _
  have HWS : Hid (W.heap.size = w.heap.size + 1) := by rw [hW]; show _ = _; simp
  obtain ⟨tn, htn⟩ : ∃ tn : Nat, tn = 2 ^ es.length := ⟨_, rfl⟩
  have hti : (2 : Int) ^ es.length = (tn : Int) := by rw [htn]; simp
  have htl : tn ≤ 256 := by rw [htn]; exact show 2 ^ es.length ≤ 2 ^ 8 from Nat.pow_le_pow_right (by omega) hm
  have hwt : IntKind.i64.wrap (tn : Int) = (tn : Int) := wrap_small (by omega)
  have HAR : Hid (∀ W' (s : Nat), Below w.heap.size w W' → s < tn → Calls Tryd.prog 27 #[.int .i64 nodes, .slice po es.length ec, .int .i64 s] W' fun e w' => e = .returned (.bool (!frE es s)) ∧ Below W'.heap.size W' w') := fun W' s h hs =>
    around_is nodes s es _ W' ((HE0.out.below h (Nat.le_refl _)).more h.size) HES.out (by rw [← htn]; exact hs) hm hn
  have HGB : Hid (greL (setsTo (frE es) tn) = grB es) := by rw [htn]; rfl
  generalize frE es = p at *
  generalize hme : es.length = m at *
  clear hme
  clear htn
  go_enter Tryd.func12, Tryd.ntmps12
  go_wp2
  rw [← hW]
  clear hW
  go_loopw [5, 6] (fun gv x wr => ∃ (k : Nat) (xs : List Int), k ≤ tn ∧ x = .int .i64 k ∧ wr.ownsRow W.heap.size 3 1 gv xs.length (ints xs) ∧ xs.length ≤ k ∧ xs = setsTo p k ∧ Below W.heap.size W wr) (fun _ x _ => tn - (intOf x).toNat)
  case atStart => exact ⟨0, [], Nat.zero_le _, rfl, World.ownsRow_nil _ _ _ _, Nat.le_refl _, rfl, Below.refl _ _⟩
  case round =>
    obtain ⟨k, xs, hk, rfl, ho, hxl, hz, hbr⟩ := hrel
    have HO : Hid (wr.ownsRow W.heap.size 3 1 u5 xs.length (ints xs)) := ho
    have HZ : Hid (xs = setsTo p k) := hz
    have HZS : Hid (setsTo p (k + 1) = setsTo p k ++ (if p k = true then [(k : Int)] else [])) := setsTo_succ p k
    have HB : Hid (Below W.heap.size W wr) := hbr
    have HBW : Hid (Below w.heap.size w wr) := HBA.out.trans (HB.out.mono HBA.out.size)
    clear ho hz hbr
    by_cases hlt : k < tn
    · have kI : (k : Int) < (tn : Int) := by omega
      go_wp2_with fail
      refine (HAR.out wr k HBW.out hlt).mono ?_
      rintro e w3 ⟨rfl, hb3⟩
      have HB3 : Hid (Below W.heap.size W w3) := HB.out.trans (hb3.mono HB.out.size)
      have HO3 : Hid (w3.ownsRow W.heap.size 3 1 u5 xs.length (ints xs)) := by
        refine ⟨HO.out.1, ?_⟩
        rcases HO.out.2 with h1 | ⟨g, cap, cur, e1, h2, h3, h4⟩
        · exact .inl h1
        · exact .inr ⟨g, cap, cur, e1, h2, (hb3.block g (Array.getElem?_eq_some_iff.1 h3).1).trans h3, h4⟩
      clear hb3
      have hszr : W.heap.size ≤ w3.heap.size := HB3.out.size
      generalize hpk : p k = b at *
      cases b
      rotate_left
      · go_wp2_with (first | (at_builtin; refine wpList_append_own _ rfl _ _ 22 rfl W.heap.size 3 i3 (.int .i64 0) 1 8 Tryd.underlying22 hi3 hz30 hz31 hz32 rfl (by decide) _ _ _ rfl (HO3.out.alloc _) ⟨w3.heap.size, 0, none⟩ 1 1 [.int .i64 k] rfl rfl (one_new _ _ _) (one_int _) ?c3 ?c4 ?c5 ?_))
        case c3 => unfold maxLen; omega
        case c4 => omega
        case c5 => first | exact hszr | omega | (simp; omega)
        intro v' w5 ho5 hg5 _
        have R1 : Hid (w5.ownsRow W.heap.size 3 1 v' (xs ++ [(k : Int)]).length (ints (xs ++ [(k : Int)]))) := by
          have e2 : ints (xs ++ [(k : Int)]) = ints xs ++ [.int .i64 (k : Int)] := by simp [ints]
          show World.ownsRow _ _ _ _ _ _ _
          rw [e2, List.length_append, List.length_singleton]
          exact ho5
        have R2 : Hid (Below W.heap.size W w5) := (HB3.out.alloc hszr _).grown hg5 (by simp; omega) (fun x hx => (HO3.out.lt x hx).1)
        have R3 : Hid (xs ++ [(k : Int)] = setsTo p (k + 1)) := by
          show _ = _
          rw [HZS.out, if_pos trivial, HZ.out]
        clear ho5 hg5
        go_wp2
        exact ⟨⟨k + 1, _, by omega, by go_num, R1.out, by rw [List.length_append, List.length_singleton]; omega, R3.out, R2.out⟩, by simp [intOf]; omega⟩
      · have R3 : Hid (xs = setsTo p (k + 1)) := by
          show _ = _
          rw [HZS.out, if_neg (by simp), HZ.out, List.append_nil]
        go_wp2
        exact ⟨⟨k + 1, xs, by omega, by go_num, HO3.out, by omega, R3.out, HB3.out⟩, by simp [intOf]; omega⟩
    · have hke : tn = k := by omega
      subst hke
      obtain ⟨go, gc, hu⟩ := owns_form HO.out
      subst hu
      have HGR : Hid (Calls Tryd.prog 28 #[.int .i64 m, .slice go xs.length gc] wr fun e w' => ∃ u, e = .returned (.agg #[.int .i64 m, u]) ∧ Sl 0 3 w' u (ints (greL xs)) ∧ Below wr.heap.size wr w') := greatest_is m xs _ wr ((Sl.own (B := 0) HO.out).more (Nat.zero_le _)) (by omega) (by rw [HZ.out]; exact setsTo_b8 p _ (by omega))
      have HYS : Hid (greL xs = grB es) := by rw [HZ.out]; exact HGB.out
      rw [HYS.out] at HGR
      generalize hys : grB es = ys at *
      have HYE : Hid (grB es = ys) := hys
      clear hys
      go_wp2_with fail
      refine HGR.out.mono ?_
      rintro e w3 ⟨u, rfl, hs3, hb3⟩
      have HS3 : Hid (Sl 0 3 w3 u (ints ys)) := hs3
      have hres : w3.heap[w.heap.size]? = some (.cells #[.int .i64 0, .slice none 0 0] 25 (0, 0)) := by
        have h1 := HB.out.size
        have h2 := HWS.out
        exact ((hb3.block _ (by omega)).trans (HB.out.block _ (by omega))).trans HR0.out
      have r0 : w3.cell? ⟨w.heap.size, 0, none⟩ = some (.int .i64 0) := by simp [World.cell?, hres]
      have r1 : w3.cell? ⟨w.heap.size, 1, none⟩ = some (.slice none 0 0) := by simp [World.cell?, hres]
      have rf0 : w3.frozen? ⟨w.heap.size, 0, none⟩ = false := by simp [World.frozen?, hres]
      have rf1 : w3.frozen? ⟨w.heap.size, 1, none⟩ = false := by simp [World.frozen?, hres]
      obtain ⟨yo, yc, hyv, _, _⟩ := sl_open hs3
      subst hyv
      have HB3 : Hid (Below w.heap.size w w3) := HBW.out.trans (hb3.mono HBW.out.size)
      have HTY : Hid (w3.heap[w.heap.size]? = some (.cells #[.int .i64 0, .slice none 0 0] 25 (0, 0))) := hres
      have HBX : Hid (Below w.heap.size w ((w3.setCell ⟨w.heap.size, 0, none⟩ (.int .i64 m)).setCell ⟨w.heap.size, 1, none⟩ (.slice yo ys.length yc))) := (HB3.out.setCell (by simp) _).setCell (by simp) _
      have HSX : Hid (Sl 0 3 ((w3.setCell ⟨w.heap.size, 0, none⟩ (.int .i64 m)).setCell ⟨w.heap.size, 1, none⟩ (.slice yo ys.length yc)) (.slice yo ys.length yc) (ints ys)) := by
        refine HS3.out.move fun b hb ht => ?_
        rcases ht with ht | ⟨cur, ht⟩
        · omega
        · have hne : b ≠ w.heap.size := fun e => by
            rw [e, HTY.out] at ht
            simp at ht
          exact ⟨(Below.heap_setCell _ _ _ _ (by show b ≠ w.heap.size; exact hne)).trans (Below.heap_setCell _ _ _ _ (by show b ≠ w.heap.size; exact hne)), .inr ⟨cur, ht⟩⟩
      clear hs3 hb3 hres
      go_wp2
      exact bodyPost_ret (v := .agg #[.int .i64 m, .slice yo ys.length yc]) (by simp [results, Tryd.results12, go_sem, *]) rfl ⟨_, rfl, by rw [HYE.out]; exact HSX.out, HBX.out⟩

end Go.Proofs.YtkdileeahbaobaaDoor

/- Edges that lead nowhere around grow: a graph's sets make a matroid. -/
namespace Go.Proofs.YtkdileeahbaobaaDoor
open Go.RowKit

/-- The partition that joins edges is the finest. -/
theorem ker_min {es : List (Nat × Nat)} {r : Nat → Nat} (h : ∀ e ∈ es, r e.1 = r e.2) {u v : Nat} (e : jns es (fun v => v) u = jns es (fun v => v) v) : r u = r v := by
  have := (jns_closed (S := fun w => r w = r u) es (p := fun v => v) (fun a b hab => by rw [show a = b from hab]) (fun x hx => by rw [h x hx]) u v e).1 rfl
  exact this.symm

theorem pt_mono {n : Nat} {p q : Nat → Nat} (h : ∀ u v, p u = p v → q u = q v) : ptN n q ≤ ptN n p := by
  unfold ptN
  refine List.countP_mono_left fun v _ hv => ?_
  rw [lsB_iff] at hv ⊢
  exact fun u hu e => hv u hu (h u v e)

theorem mem_pkE {es : List (Nat × Nat)} {s : Nat} (hs : s < 256) {e : Nat × Nat} : e ∈ pkE es s ↔ ∃ i, s.testBit i = true ∧ e = es.getD i (0, 0) := by
  unfold pkE
  simp only [List.mem_map]
  constructor
  · rintro ⟨z, hz, rfl⟩
    obtain ⟨i, _, h2, rfl⟩ := mem8_iff.1 hz
    exact ⟨i, h2, by simp⟩
  · rintro ⟨i, h2, rfl⟩
    exact ⟨(i : Int), mem8_iff.2 ⟨i, bit_lt (n := 8) hs h2, h2, rfl⟩, by simp⟩

/-- How many parts a set of edges leaves. -/
def ptS (n : Nat) (es : List (Nat × Nat)) (s : Nat) : Nat := ptN n (jns (pkE es s) fun v => v)

theorem frE_pt {n : Nat} {es : List (Nat × Nat)} (hes : ∀ e ∈ es, e.1 < n ∧ e.2 < n) {s : Nat} (hs : s < 2 ^ es.length) : n ≤ ptS n es s + szN s ∧ (frE es s = true ↔ ptS n es s + szN s = n) := by
  have h := fs_count (n := n) (pkE es s) (fun v => v) (pkE_lt hs hes)
  rw [pt_id, pkE_len] at h
  exact h

/-- An edge more joins two parts at most. -/
theorem pt_or_ge {n : Nat} {es : List (Nat × Nat)} (hes : ∀ e ∈ es, e.1 < n ∧ e.2 < n) (h8 : es.length ≤ 8) {s y : Nat} (hs : s < 2 ^ es.length) (hy : y < es.length) : ptS n es s ≤ ptS n es (s ||| 2 ^ y) + 1 := by
  have hs8 := lt_256 h8 hs
  have hso := lt_256 h8 (or_ltn hs hy)
  obtain ⟨p, hp⟩ : ∃ p, p = jns (pkE es s) (fun v => v) := ⟨_, rfl⟩
  obtain ⟨e, he⟩ : ∃ e, e = es.getD y (0, 0) := ⟨_, rfl⟩
  have hen := hes e (by rw [he]; simp [hy])
  have h1 : ptN n (jn p e.1 e.2) ≤ ptS n es (s ||| 2 ^ y) := by
    refine pt_mono fun u v h => ker_min (fun x hx => ?_) h
    obtain ⟨i, hi, rfl⟩ := (mem_pkE hso).1 hx
    rw [or_bit, Bool.or_eq_true] at hi
    rcases hi with hi | hi
    · refine jn_eq.2 (.inl ?_)
      rw [hp]
      exact jns_join _ _ _ ((mem_pkE hs8).2 ⟨i, hi, rfl⟩)
    · have : y = i := by simpa using hi
      rw [← this, ← he]
      exact jn_eq.2 (.inr (.inl ⟨rfl, rfl⟩))
  have h2 : ptN n p ≤ ptN n (jn p e.1 e.2) + 1 := by
    by_cases c : p e.1 = p e.2
    · rw [jn_same c]; omega
    · have := pt_less c hen.1 hen.2
      omega
  have h3 : ptS n es s = ptN n p := by rw [hp]; rfl
  omega

theorem graph_grw {n : Nat} {es : List (Nat × Nat)} (hes : ∀ e ∈ es, e.1 < n ∧ e.2 < n) (h8 : es.length ≤ 8) : Grw es.length (frE es) where
  zero := by
    unfold frE
    have : pkE es 0 = [] := by
      unfold pkE
      have : mem8 0 = [] := by decide +kernel
      rw [this]; rfl
    rw [this]; rfl
  less := fun s x hs hF hx => by
    have hxn := bit_lt hs hx
    have ho := out_ltn (x := x) hs
    have h1 := frE_pt hes hs
    have h2 := frE_pt hes ho
    have h3 := sz_out (s := s) (x := x) (by omega) hx
    have h4 := pt_or_ge hes h8 ho hxn
    rw [out1_or hx] at h4
    have h5 := h1.2.1 hF
    exact h2.2.2 (by omega)
  more := fun a b ha hb hFa hFb hlt => by
    have ha8 := lt_256 h8 ha
    have hb8 := lt_256 h8 hb
    have h1 := (frE_pt hes ha).2.1 hFa
    have h2 := (frE_pt hes hb).2.1 hFb
    obtain ⟨p, hp⟩ : ∃ p, p = jns (pkE es a) (fun v => v) := ⟨_, rfl⟩
    have hpt : ptS n es a = ptN n p := by rw [hp]; rfl
    have hy : ∃ y, b.testBit y = true ∧ p (es.getD y (0, 0)).1 ≠ p (es.getD y (0, 0)).2 := by
      refine Classical.byContradiction fun hn => ?_
      have : ptN n p ≤ ptS n es b := pt_mono fun u v h => ker_min (fun x hx => by
        obtain ⟨i, hi, rfl⟩ := (mem_pkE hb8).1 hx
        exact Classical.byContradiction fun hne => hn ⟨i, hi, hne⟩) h
      omega
    obtain ⟨y, y1, y2⟩ := hy
    have hyn := bit_lt hb y1
    have hya : a.testBit y = false := by
      cases e : a.testBit y with
      | false => rfl
      | true =>
        exfalso
        refine y2 ?_
        rw [hp]
        exact jns_join _ _ _ ((mem_pkE ha8).2 ⟨y, e, rfl⟩)
    have ho := or_ltn ha hyn
    have ho8 := lt_256 h8 ho
    have h3 := frE_pt hes ho
    have hen := hes (es.getD y (0, 0)) (by simp [hyn])
    have h4 := pt_less y2 hen.1 hen.2
    have h5 : ptS n es (a ||| 2 ^ y) ≤ ptN n (jn p (es.getD y (0, 0)).1 (es.getD y (0, 0)).2) := by
      have hk : ∀ u v, p u = p v → jns (pkE es (a ||| 2 ^ y)) (fun v => v) u = jns (pkE es (a ||| 2 ^ y)) (fun v => v) v := fun u v h => by
        rw [hp] at h
        refine ker_min (r := jns (pkE es (a ||| 2 ^ y)) (fun v => v)) (fun x hx => ?_) h
        obtain ⟨i, hi, rfl⟩ := (mem_pkE ha8).1 hx
        exact jns_join _ _ _ ((mem_pkE ho8).2 ⟨i, by rw [or_bit, hi]; rfl, rfl⟩)
      have he : jns (pkE es (a ||| 2 ^ y)) (fun v => v) (es.getD y (0, 0)).1 = jns (pkE es (a ||| 2 ^ y)) (fun v => v) (es.getD y (0, 0)).2 :=
        jns_join _ _ _ ((mem_pkE ho8).2 ⟨y, by rw [or_bit]; simp, rfl⟩)
      refine pt_mono fun u v h => ?_
      rcases jn_eq.1 h with h | ⟨h, h'⟩ | ⟨h, h'⟩
      · exact hk u v h
      · exact (hk _ _ h).trans (he.trans (hk _ _ h').symm)
      · exact (hk _ _ h).trans (he.symm.trans (hk _ _ h').symm)
    have h6 := sz_or (s := a) (y := y) (by omega) hya
    exact ⟨y, y1, hya, h3.2.2 (by have := h3.1; omega)⟩

end Go.Proofs.YtkdileeahbaobaaDoor
