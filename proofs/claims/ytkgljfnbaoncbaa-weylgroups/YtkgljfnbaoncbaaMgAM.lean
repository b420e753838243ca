import Derived.Test.YtkgljfnbaoncbaaRv0a
import Derived.Test.YtkgljfnbaoncbaaRv0b
import Derived.Test.YtkgljfnbaoncbaaRv0c
import Derived.Test.YtkgljfnbaoncbaaRv0d
import Derived.Test.YtkgljfnbaoncbaaRv0e
import Derived.Test.YtkgljfnbaoncbaaRq5
import Derived.Test.YtkgljfnbaoncbaaDo5
import Derived.Test.YtkgljfnbaoncbaaMgAG
import Derived.Laws.BytesArg
/- A square that Check takes: its roots by rows and by columns. -/
namespace Go.Proofs.Ytkgljfnbaoncbaa

set_option maxRecDepth 100000 in
theorem wk4 {i j : Nat} (hi : i < 6) (hj : j < 6) : Wk4 i j := by
  have h : ∀ i ∈ List.range 6, ∀ j ∈ List.range 6, (i, j) ∈ ([(0, 0)] : List (Nat × Nat)) ∨ (i, j) ∈ ([(0, 1), (0, 2)] : List (Nat × Nat)) ∨ (i, j) ∈ ([(0, 3), (0, 4), (0, 5), (1, 0)] : List (Nat × Nat)) ∨ (i, j) ∈ ([(1, 1), (1, 2), (1, 3), (1, 4), (1, 5), (2, 0), (2, 1), (2, 2), (2, 3), (2, 4), (2, 5)] : List (Nat × Nat)) ∨ (i, j) ∈ ([(3, 0), (3, 1), (3, 2), (3, 3), (3, 4), (3, 5), (4, 0), (4, 1), (4, 2), (4, 3), (4, 4), (4, 5), (5, 0), (5, 1), (5, 2), (5, 3), (5, 4), (5, 5)] : List (Nat × Nat)) := by decide
  rcases h i (List.mem_range.2 hi) j (List.mem_range.2 hj) with h | h | h | h | h
  · exact wk4a _ h
  · exact wk4b _ h
  · exact wk4c _ h
  · exact wk4d _ h
  · exact wk4e _ h

/-- Whatever square has an end: the kernel has looked at its roots. -/
theorem shp_wg {n : Nat} {c : List (List Int)} (h : Shp n c) (hl : (abL c).length ≤ 24) : wgP c n = true := by
  have h1 := h.n1
  have h4 := h.sq.n4
  rcases (show n = 1 ∨ n = 2 ∨ n = 3 ∨ n = 4 by omega) with e | e | e | e
  · subst e
    have e : c = [[cE c 0 0]] := by
      conv => lhs; rw [sqc_eta h.sq]
      rfl
    rw [h.dia 0 (by omega)] at e
    rw [e]
    exact wk1
  · subst e
    obtain ⟨i, hi, e⟩ := cls2 h hl
    rw [c2 h, e]
    exact wk2 i (List.mem_range.2 hi)
  · subst e
    obtain ⟨i, j, k, ⟨hi, hj, hk⟩, ht, e1, e2, e3⟩ := cls3 h hl
    rw [c3 h, e1, e2, e3]
    exact wk3 i (List.mem_range.2 hi) j (List.mem_range.2 hj) k (List.mem_range.2 hk) ht
  · subst e
    obtain ⟨i, j, k, s, t, u, ⟨hi, hj, hk, hs, ht, hu⟩, ⟨t1, t2, t4, t5⟩, e⟩ := cls4 h hl
    rw [e] at hl ⊢
    exact wk4 hi hj k (List.mem_range.2 hk) t1 s (List.mem_range.2 hs) t (List.mem_range.2 ht) t2 u (List.mem_range.2 hu) t4 t5 hl

theorem trM_ent {n : Nat} {c : List (List Int)} (h : Sqc n c) (i j : Nat) : cE (trM c) i j = if i < n ∧ j < n then cE c j i else 0 := by
  have hcl := h.len
  by_cases hi : i < n
  · by_cases hj : j < n
    · rw [if_pos ⟨hi, hj⟩]; exact trM_at (by omega) (by omega)
    · rw [if_neg (by omega)]
      unfold cE trM
      rw [hcl]
      simp [hi, hj]
  · rw [if_neg (by omega)]
    unfold cE trM
    rw [hcl]
    simp [hi]

theorem trM_sqc {n : Nat} {c : List (List Int)} (h : Sqc n c) : Sqc n (trM c) := by
  have hcl := h.len
  refine ⟨by rw [trM_len, hcl], h.n4, fun r hr => ?_, fun i j => ?_⟩
  · unfold trM at hr
    obtain ⟨i, _, rfl⟩ := List.mem_map.1 hr
    simp [hcl]
  · rw [trM_ent h]
    split
    · exact h.ent j i
    · omega

theorem trM_shp {n : Nat} {c : List (List Int)} (h : Shp n c) : Shp n (trM c) := by
  refine ⟨trM_sqc h.sq, h.n1, fun i hi => ?_, fun i j hi hj hij => ?_⟩
  · rw [trM_ent h.sq, if_pos ⟨hi, hi⟩]; exact h.dia i hi
  · rw [trM_ent h.sq, trM_ent h.sq, if_pos ⟨hi, hj⟩, if_pos ⟨hj, hi⟩]
    exact ⟨(h.off j i hj hi (by omega)).1, (h.off i j hi hj hij).2.symm⟩

theorem trM_trM {n : Nat} {c : List (List Int)} (h : Sqc n c) : trM (trM c) = c := by
  rw [sqc_eta (trM_sqc (trM_sqc h))]
  conv => rhs; rw [sqc_eta h]
  refine List.map_congr_left fun i hi => List.map_congr_left fun j hj => ?_
  rw [trM_ent (trM_sqc h), trM_ent h, if_pos ⟨List.mem_range.1 hi, List.mem_range.1 hj⟩, if_pos ⟨List.mem_range.1 hj, List.mem_range.1 hi⟩]

theorem shp_gda {n : Nat} {c : List (List Int)} (hs : Shp n c) (hl : (abL c).length ≤ 24) : Gda n c (posR c) ∧ ∃ tl ∈ tcs n, ∀ r, r < n → ∀ k, k < n → tl.getD r 1 * cE c k r = tl.getD k 1 * cE c r k := by
  have hw := shp_wg hs hl
  unfold wgP at hw
  simp only [Bool.and_eq_true, decide_eq_true_eq, List.any_eq_true, List.all_eq_true, List.mem_range] at hw
  obtain ⟨⟨⟨⟨⟨r1, r2, r3, r4, r5, r6, r7⟩, h2⟩, h3⟩, h4⟩, h5⟩ := hw
  exact ⟨⟨⟨hs.sq, hs.n1, hs.dia, hs.off, hl, fun b hb => ⟨(shp_bd hs b hb).1, getD_bd (by omega) (h4 b hb)⟩⟩, ⟨r1, r2, r3, r4, r5, r6, r7⟩, h2, h3⟩, h5⟩

theorem wg_shp {n : Nat} {c : List (List Int)} (hs : Shp n c) (hl : (abL c).length ≤ 24) : ∃ d t, Wg n c (posR c) d t := by
  obtain ⟨hg, tl, htl, h3⟩ := shp_gda hs hl
  have hcl := hs.sq.len
  obtain ⟨hg2, _⟩ := shp_gda (trM_shp hs) hg.rl
  have e : posR (trM c) = abL c := by unfold posR; rw [trM_trM hs.sq]
  rw [e] at hg2
  exact ⟨trM c, fun k => tl.getD k 1, hg, hg.rt, hg2.rt, trM_len c, fun k => tcs_pos n tl htl k, fun r k hr hk => trM_at hr hk, fun r k hr hk => h3 r (by omega) k (by omega)⟩

theorem wg_ck {c : List (List Int)} (h : ckE c = 0) : ∃ d t, Wg c.length c (posR c) d t := by
  obtain ⟨hs, hl⟩ := ck_zero h
  exact wg_shp hs hl

end Go.Proofs.Ytkgljfnbaoncbaa

/- The group of a square, word by word as the document grows it; and by lengths and weights alone. -/
namespace Go.Proofs.Ytkgljfnbaoncbaa

/-- One word more, if it does what none has done. -/
def gsS (d : List (List Int)) (i j : Nat) (L : List (List Nat)) : List (List Nat) :=
  if L.any (fun y => dnW d y == dnW d (L.getD i [] ++ [j])) then L else L ++ [L.getD i [] ++ [j]]

def gsI (d : List (List Int)) (i : Nat) : Nat → List (List Nat) → List (List Nat)
  | 0, L => L
  | j + 1, L => gsS d i j (gsI d i j L)

def gsO (d : List (List Int)) (n : Nat) : Nat → Nat → List (List Nat) → List (List Nat)
  | 0, _, L => L
  | f + 1, i, L => if i < L.length then gsO d n f (i + 1) (gsI d i n L) else L

/-- The same by length and weight. -/
def vsS (c : List (List Int)) (i j : Nat) (V : List (Nat × List Int)) : List (Nat × List Int) :=
  if V.any (fun y => y.2 == ovL c (V.getD i (0, [])).2 j) then V else V ++ [((V.getD i (0, [])).1 + 1, ovL c (V.getD i (0, [])).2 j)]

def vsI (c : List (List Int)) (i : Nat) : Nat → List (Nat × List Int) → List (Nat × List Int)
  | 0, V => V
  | j + 1, V => vsS c i j (vsI c i j V)

def vsO (c : List (List Int)) (n : Nat) : Nat → Nat → List (Nat × List Int) → List (Nat × List Int)
  | 0, _, V => V
  | f + 1, i, V => if i < V.length then vsO c n f (i + 1) (vsI c i n V) else V

def gsL (d : List (List Int)) (n : Nat) : List (List Nat) := gsO d n 201 0 [[]]
def vsL (c : List (List Int)) (n : Nat) : List (Nat × List Int) := vsO c n 201 0 [(0, ones n)]

theorem gsS_pre (d : List (List Int)) (i j : Nat) (L : List (List Nat)) : L <+: gsS d i j L := by
  unfold gsS
  split
  · exact List.prefix_refl _
  · exact List.prefix_append _ _

theorem gsI_pre (d : List (List Int)) (i : Nat) : ∀ (j : Nat) (L : List (List Nat)), L <+: gsI d i j L
  | 0, _ => List.prefix_refl _
  | j + 1, L => (gsI_pre d i j L).trans (gsS_pre d i j _)

theorem gsO_pre (d : List (List Int)) (n : Nat) : ∀ (f i : Nat) (L : List (List Nat)), L <+: gsO d n f i L
  | 0, _, _ => List.prefix_refl _
  | f + 1, i, L => by
    unfold gsO
    split
    · exact (gsI_pre d i n L).trans (gsO_pre d n f (i + 1) _)
    · exact List.prefix_refl _

def lnV (c : List (List Int)) (w : List Nat) : Nat × List Int := (w.length, fwd c w (ones c.length))

theorem lt_snoc {c : List (List Int)} {w : List Nat} {j : Nat} (h : Lt c w) (hj : j < c.length) : Lt c (w ++ [j]) := fun r hr => by
  rcases List.mem_append.1 hr with h1 | h1
  · exact h r h1
  · rw [List.mem_singleton] at h1; omega

theorem dn_fwd {c R d S : List (List Int)} {t : Nat → Int} (h : Du c R d S t) {a b : List Nat} (ha : Lt c a) (hb : Lt c b) : dnW d a = dnW d b ↔ fwd c a (ones c.length) = fwd c b (ones c.length) := by
  have ho : (ones c.length).length = c.length := by simp [ones]
  rw [dn_iff h ha hb, fwd_tak, fwd_tak]
  constructor
  · intro e
    exact same_rev h.rt ha hb (same_all h.rt ha hb e).2 ho
  · intro e
    have := same_rev h.rt (lt_rev ha) (lt_rev hb) (same_all h.rt (lt_rev ha) (lt_rev hb) e).2 ho
    rwa [List.reverse_reverse, List.reverse_reverse] at this

theorem mapN_getD {α : Type} {L : List (List Nat)} {i : Nat} (f : List Nat → α) (hi : i < L.length) (z : α) : (L.map f).getD i z = f (L.getD i []) := by simp [hi]

theorem any_memC {α : Type} {l : List α} {f g : α → Bool} (h : ∀ a ∈ l, f a = g a) : l.any f = l.any g := by
  induction l with
  | nil => rfl
  | cons a l ih => simp only [List.any_cons]; rw [h a (by simp), ih fun b hb => h b (by simp [hb])]

theorem gs_vsS {c R d S : List (List Int)} {t : Nat → Int} (h : Du c R d S t) {i j : Nat} {L : List (List Nat)} (hL : ∀ w ∈ L, Lt c w) (hi : i < L.length) (hj : j < c.length) :
    (gsS d i j L).map (lnV c) = vsS c i j (L.map (lnV c)) ∧ ∀ w ∈ gsS d i j L, Lt c w := by
  have hg : Lt c (L.getD i []) := hL _ (by simp [hi])
  have hx := lt_snoc hg hj
  have e1 : ((L.map (lnV c)).any fun y => y.2 == ovL c ((L.map (lnV c)).getD i (0, [])).2 j) = L.any fun y => dnW d y == dnW d (L.getD i [] ++ [j]) := by
    rw [List.any_map, mapN_getD _ hi]
    refine any_memC fun y hy => ?_
    simp only [Function.comp_apply, lnV]
    rw [← fwd_snoc, Bool.eq_iff_iff, beq_iff_eq, beq_iff_eq]
    exact (dn_fwd h (hL y hy) hx).symm
  unfold gsS vsS
  rw [e1]
  split
  · exact ⟨rfl, hL⟩
  · refine ⟨?_, fun w hw => ?_⟩
    · rw [List.map_append, mapN_getD _ hi]
      simp only [lnV, List.map_cons, List.map_nil, List.length_append, List.length_singleton, fwd_snoc]
    · rcases List.mem_append.1 hw with h1 | h1
      · exact hL w h1
      · rw [List.mem_singleton] at h1; subst h1; exact hx

theorem gs_vsI {c R d S : List (List Int)} {t : Nat → Int} (h : Du c R d S t) {i : Nat} {L : List (List Nat)} (hL : ∀ w ∈ L, Lt c w) (hi : i < L.length) : ∀ j, j ≤ c.length →
    (gsI d i j L).map (lnV c) = vsI c i j (L.map (lnV c)) ∧ ∀ w ∈ gsI d i j L, Lt c w
  | 0, _ => ⟨rfl, hL⟩
  | j + 1, hj => by
    obtain ⟨h1, h2⟩ := gs_vsI h hL hi j (by omega)
    have := gs_vsS h h2 (Nat.lt_of_lt_of_le hi (gsI_pre d i j L).length_le) (show j < c.length by omega)
    rw [h1] at this
    exact this

theorem gs_vsO {c R d S : List (List Int)} {t : Nat → Int} (h : Du c R d S t) : ∀ (f i : Nat) (L : List (List Nat)), (∀ w ∈ L, Lt c w) →
    (gsO d c.length f i L).map (lnV c) = vsO c c.length f i (L.map (lnV c)) ∧ ∀ w ∈ gsO d c.length f i L, Lt c w
  | 0, _, _, hL => ⟨rfl, hL⟩
  | f + 1, i, L, hL => by
    unfold gsO vsO
    rw [List.length_map]
    split
    · rename_i hi
      obtain ⟨h1, h2⟩ := gs_vsI h hL hi c.length (Nat.le_refl _)
      have := gs_vsO h f (i + 1) (gsI d i c.length L) h2
      rw [h1] at this
      exact this
    · exact ⟨rfl, hL⟩

theorem gs_vsL {c R d S : List (List Int)} {t : Nat → Int} (h : Du c R d S t) : (gsL d c.length).map (lnV c) = vsL c c.length ∧ ∀ w ∈ gsL d c.length, Lt c w :=
  gs_vsO h 201 0 [[]] (fun w hw => by rw [List.mem_singleton] at hw; subst hw; intro r hr; cases hr)

end Go.Proofs.Ytkgljfnbaoncbaa

/- facetref.key: a list as a text. -/
namespace Go.Proofs.Ytkgljfnbaoncbaa
open Go.RowKit
attribute [local go_sem ↓] Go.wp_at_zero Go.wp_at_succ

def kyB (z : Int) : UInt8 := UInt8.ofNat (z + 128).toNat
def kyS (l : List Int) : ByteArray := ⟨(l.map kyB).toArray⟩

theorem kyB_inj {a b : Int} (ha : -128 ≤ a ∧ a ≤ 127) (hb : -128 ≤ b ∧ b ≤ 127) (h : kyB a = kyB b) : a = b := by
  unfold kyB at h
  have h1 := congrArg UInt8.toNat h
  simp at h1
  omega

theorem kyS_inj {l m : List Int} (hl : ∀ z ∈ l, -128 ≤ z ∧ z ≤ 127) (hm : ∀ z ∈ m, -128 ≤ z ∧ z ≤ 127) (h : kyS l = kyS m) : l = m := by
  have h1 : l.map kyB = m.map kyB := by
    have := congrArg (fun s : ByteArray => s.data.toList) h
    simpa [kyS] using this
  have hn : l.length = m.length := by simpa using congrArg List.length h1
  apply List.ext_getElem hn
  intro i h2 h3
  refine kyB_inj (hl _ (List.getElem_mem h2)) (hm _ (List.getElem_mem h3)) ?_
  have e : (l.map kyB)[i]? = (m.map kyB)[i]? := by rw [h1]
  simpa [h2, h3] using e

theorem kyS_snoc {l : List Int} {i : Nat} (hi : i < l.length) : kyS (l.take (i + 1)) = kyS (l.take i) ++ ⟨#[kyB (l.getD i 0)]⟩ := by
  have e : (l.take (i + 1)).map kyB = (l.take i).map kyB ++ [kyB (l.getD i 0)] := by
    have h0 : l.getD i 0 = l[i] := by simp [hi]
    rw [List.take_succ_eq_append_getElem hi, List.map_append, h0]
    rfl
  unfold kyS
  rw [e]
  apply ByteArray.ext
  simp

set_option maxRecDepth 100000 in
set_option maxHeartbeats 1600000 in
theorem key_any (l : List Int) (lv : Value) (w : World) (hl : Sl w.heap.size 3 w lv (ints l)) (hb : ∀ z ∈ l, -128 ≤ z ∧ z ≤ 127) :
    Calls Try.prog 33 #[lv] w fun e w' => e = .returned (.string (kyS l)) ∧ Below w.heap.size w w' := by
  obtain ⟨ao, cap, hvv, _, _⟩ := sl_open hl
  subst hvv
  have HL : Hid (Sl w.heap.size 3 w (.slice ao l.length cap) (ints l)) := hl
  have HBB : Hid (∀ k, k < l.length → -128 ≤ l.getD k 0 ∧ l.getD k 0 ≤ 127) := fun k hk => hb _ (by simp [hk])
  clear hl hb
  go_enter Try.func33, Try.ntmps33
  go_wp2
  go_loopw [3, 4] (fun sv iv wr => ∃ i : Nat, i ≤ l.length ∧ iv = .int .i64 i ∧ sv = .string (kyS (l.take i)) ∧ Below w.heap.size w wr) (fun _ iv _ => l.length - (intOf iv).toNat)
  case atStart => exact ⟨0, Nat.zero_le _, rfl, rfl, Below.refl _ _⟩
  case round =>
    obtain ⟨i, hi, rfl, rfl, hbel⟩ := hrel
    have HB : Hid (Below w.heap.size w wr) := hbel
    clear hbel
    by_cases hlt : i < l.length
    · obtain ⟨b1, o1, cp1, hs1, _, hc1⟩ := sl_cell (HL.out.below HB.out (Nat.le_refl _)) hlt
      simp only [Value.slice.injEq, true_and] at hs1
      obtain ⟨rfl, rfl⟩ := hs1
      have hz := HBB.out i hlt
      have HSN : Hid (kyS (l.take (i + 1)) = kyS (l.take i) ++ ⟨#[kyB (l.getD i 0)]⟩) := kyS_snoc hlt
      have HSZ : Hid ((kyS (l.take i)).size = i) := by
        show _ = _
        simp [kyS, ByteArray.size]; omega
      generalize l.getD i 0 = z at *
      generalize kyS (l.take i) = s at *
      have m1 : IntKind.i64.wrap (z + 128) = z + 128 := by rw [IntWalk.i64_left]; exact IntWalk.wrap64_in _ ⟨by omega, by omega⟩
      have m2 : IntKind.u8.wrap (z + 128) = z + 128 := by rw [IntKind.wrap_u8]; omega
      have hcv : ∀ W : World, W.cell? ⟨wr.heap.size, 0, none⟩ = some (.int .u8 (z + 128)) → (convert 64 9 (.slice (some ⟨wr.heap.size, 0, none⟩) 1 1)).run Try.prog W = .ok (.string ⟨#[kyB z]⟩) W := fun W h => by
        have := run_convert_bytes_arg (w := W) (P := Try.prog) 64 5 (by kernel_rfl) (by kernel_rfl) wr.heap.size 0 1 1 [z + 128] rfl (fun j hj => by
          obtain rfl : j = 0 := by omega
          exact h) 9 (by kernel_rfl)
        rw [this]
        rfl
      have hs : ¬ 9223372036854775807 < s.size + 1 := by rw [HSZ.out]; omega
      have HBN : Hid (Below w.heap.size w (wr.alloc (.cells #[.int .u8 (z + 128)] 5))) := HB.out.alloc HB.out.size _
      go_wp2
      exact ⟨⟨i + 1, by omega, by go_num, by rw [HSN.out], HBN.out⟩, by simp [intOf]; omega⟩
    · have hie : l.take i = l := List.take_of_length_le (by omega)
      rw [hie]
      go_wp2
      go_ret
      exact ⟨rfl, HB.out⟩

end Go.Proofs.Ytkgljfnbaoncbaa
