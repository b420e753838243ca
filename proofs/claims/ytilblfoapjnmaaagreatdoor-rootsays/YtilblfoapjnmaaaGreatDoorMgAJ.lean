import Derived.Test.YtilblfoapjnmaaaGreatDoorMgAI
import Derived.Maps.AppendAt
import Derived.Test.YtilblfoapjnmaaaGreatDoorMgAA
import Derived.Lib.TrailingZeros
import Derived.Laws.Bits64b
/- root.parts: the closure, IndexFunc and ContainsFunc by it; the walk. Its middle is made of Wy7. -/
namespace Go.Proofs.YtilblfoapjnmaaaGreatDoor
open Go.RowKit
attribute [local go_sem ↓] Go.wp_at_zero Go.wp_at_succ

theorem fr_matRp {B : Nat} {w : World} {v : Value} {m : List (List Int)} (h : Fr B 26 3 w v m) : Mat 0 26 3 w v m := by
  obtain ⟨vs, h1, h2, h3⟩ := h
  exact ⟨vs, h1, Sl.own h2, h3⟩

set_option maxRecDepth 100000 in
theorem parts1_any (B : Nat) (r : List Int) (x : Int) (rv : Value) (p : Nat) (w : World) (hr : Sl B 3 w rv (ints r)) (hc : w.cell? ⟨p, 0, none⟩ = some (.int .i64 x)) :
    Calls Tryz.prog 55 #[rv, .pointer (some ⟨p, 0, none⟩)] w fun e w' => e = .returned (.bool (r.contains x)) ∧ Below w.heap.size w w' := by
  have HE : Hid (Calls Tryz.prog 56 #[rv, .int .i64 x] w fun e w' => e = .returned (.bool (r.contains x)) ∧ w' = w) := containsK_any B x r rv w hr
  obtain ⟨ro, rc, hrv, _, _⟩ := sl_open hr
  subst hrv
  clear hr
  generalize r.contains x = fb at *
  go_enter Tryz.func55, Tryz.ntmps55
  go_wp2_with fail
  refine HE.out.mono ?_
  rintro e w' ⟨rfl, hw⟩
  obtain rfl := hw.symm
  go_wp2
  go_ret
  exact ⟨rfl, Below.refl _ _⟩

set_option maxRecDepth 100000 in
set_option maxHeartbeats 800000 in
theorem idxRp_any (B : Nat) (f : List Int → Bool) (m : List (List Int)) (v : Value) (p1 : Addr) (w : World) (hv : Mat B 26 3 w v m)
    (hc : ∀ r ∈ m, ∀ (W : World) (rv : Value), Below w.heap.size w W → Sl B 3 W rv (ints r) → Calls Tryz.prog 55 #[rv, .pointer (some p1)] W fun e w' => e = .returned (.bool (f r)) ∧ Below w.heap.size w w') :
    Calls Tryz.prog 86 #[v, .func (.func 55) #[] #[.pointer (some p1)]] w fun e w' => (∃ z, e = .returned (.int .i64 z) ∧ -1 ≤ z ∧ z < m.length ∧ decide (0 ≤ z) = m.any f) ∧ Below w.heap.size w w' := by
  obtain ⟨ao, cap, hvv, hlc, hcm⟩ := mat_open hv
  subst hvv
  have HV : Hid (Mat B 26 3 w (.slice ao m.length cap) m) := hv
  have HC : Hid (∀ r ∈ m, ∀ (W : World) (rv : Value), Below w.heap.size w W → Sl B 3 W rv (ints r) → Calls Tryz.prog 55 #[rv, .pointer (some p1)] W fun e w' => e = .returned (.bool (f r)) ∧ Below w.heap.size w w') := hc
  clear hv hc
  go_enter Tryz.func86, Tryz.ntmps86
  go_wp2
  go_loopw [8] (fun i wr => ∃ k : Nat, k ≤ m.length ∧ i = .int .i64 k ∧ (m.take k).any f = false ∧ Below w.heap.size w wr) (fun i _ => m.length - (intOf i).toNat)
  case atStart => exact ⟨0, Nat.zero_le _, rfl, by simp, Below.refl _ _⟩
  case round =>
    obtain ⟨k, hk, rfl, hno, hb⟩ := hrel
    have HN : Hid ((m.take k).any f = false) := hno
    have HB : Hid (Below w.heap.size w wr) := hb
    clear hno hb
    by_cases hlt : k < m.length
    · obtain ⟨b1, o, cp, r1, hs, hc1, hcc, hr1⟩ := mat_cell (HV.out.below HB.out (Nat.le_refl _)) hlt
      simp only [Value.slice.injEq] at hs
      obtain ⟨rfl, hxx, rfl⟩ := hs
      clear hxx
      have HS1 : Hid ((m.take (k + 1)).any f = f (m.getD k [])) := anyR_snocW (p := f) hlt HN.out
      have HME : Hid (m.getD k [] ∈ m) := by
        show _ ∈ _
        simp [hlt]
      have HCA : Hid (Calls Tryz.prog 55 #[r1, .pointer (some p1)] wr fun e w' => e = .returned (.bool (f (m.getD k []))) ∧ Below w.heap.size w w') := HC.out _ HME.out wr r1 HB.out hr1
      clear hr1
      generalize m.getD k [] = x at *
      obtain ⟨fb, hfb⟩ : ∃ fb, fb = f x := ⟨_, rfl⟩
      have HFB : Hid (fb = f x) := hfb
      rw [← hfb] at HCA
      clear hfb
      go_wp2_with fail
      refine HCA.out.mono ?_
      rintro e w2 ⟨rfl, hb2⟩
      have HB2 : Hid (Below w.heap.size w w2) := hb2
      clear hb2 HCA
      cases hf : fb
      · have HF : Hid (f x = false) := by rw [← hf]; exact HFB.out.symm
        clear hf
        go_wp2
        go_roundw
        case rel => exact ⟨k + 1, by omega, by go_num, by rw [HS1.out]; exact HF.out, HB2.out⟩
        case measure => simp [intOf]; omega
      · have HF : Hid (f x = true) := by rw [← hf]; exact HFB.out.symm
        clear hf
        go_wp2
        go_ret
        refine ⟨⟨_, rfl, by omega, by omega, ?_⟩, HB2.out⟩
        rw [decide_eq_true (by omega)]
        exact (List.any_eq_true.2 ⟨x, HME.out, HF.out⟩).symm
    · have HTK : Hid (m.take k = m) := List.take_of_length_le (by omega)
      go_wp2
      go_ret
      exact ⟨⟨-1, rfl, by omega, by omega, by rw [← HTK.out, HN.out]; rfl⟩, HB.out⟩

set_option maxRecDepth 100000 in
theorem hasRp_any (B : Nat) (f : List Int → Bool) (m : List (List Int)) (v : Value) (p1 : Addr) (w : World) (hv : Mat B 26 3 w v m)
    (hc : ∀ r ∈ m, ∀ (W : World) (rv : Value), Below w.heap.size w W → Sl B 3 W rv (ints r) → Calls Tryz.prog 55 #[rv, .pointer (some p1)] W fun e w' => e = .returned (.bool (f r)) ∧ Below w.heap.size w w') :
    Calls Tryz.prog 57 #[v, .func (.func 55) #[] #[.pointer (some p1)]] w fun e w' => e = .returned (.bool (m.any f)) ∧ Below w.heap.size w w' := by
  have HI : Hid (Calls Tryz.prog 86 #[v, .func (.func 55) #[] #[.pointer (some p1)]] w fun e w' => (∃ z, e = .returned (.int .i64 z) ∧ -1 ≤ z ∧ z < m.length ∧ decide (0 ≤ z) = m.any f) ∧ Below w.heap.size w w') := idxRp_any B f m v p1 w hv hc
  obtain ⟨ao, cap, hvv, hlc, hcm⟩ := mat_open hv
  subst hvv
  clear hv hc
  generalize m.any f = R at *
  go_enter Tryz.func57, Tryz.ntmps57
  go_wp2_with fail
  refine HI.out.mono ?_
  rintro e w' ⟨⟨z, rfl, hz1, hz2, hz3⟩, hb⟩
  have HZ : Hid (decide (0 ≤ z) = R) := hz3
  have HB : Hid (Below w.heap.size w w') := hb
  clear hz3 hb
  go_wp2
  go_ret
  exact ⟨ret_bool HZ.out, HB.out⟩


set_option maxRecDepth 100000 in
set_option maxHeartbeats 1600000 in
theorem parts_any (n : Nat) (c : List (List Int)) (cv : Value) (w : World) (hc : Sqc n c) (hm : Mat w.heap.size 26 3 w cv c) :
    Calls Tryz.prog 30 #[cv] w fun e w' => ∃ u, e = .returned u ∧ FrN w.heap.size w' u (natsM (paL c)) ∧ Below w.heap.size w w' := by
  obtain ⟨i0, hi0, hz0, hz1, hz2⟩ := info_parts Tryz.info26
  obtain ⟨ao, cap, hvv, hlc, hcm⟩ := mat_open hm
  subst hvv
  have hn4 := hc.n4
  have HCL : Hid (c.length = n) := hc.len
  have HPF : Hid (∀ X (i : Nat), Below w.heap.size w X → i < n → Calls Tryz.prog 58 #[.slice ao n cap, .int .i64 (i : Nat)] X fun e w' => ∃ u, e = .returned u ∧ w'.ownsRow X.heap.size 3 1 u (bfL c i).length (ints (natsI (bfL c i))) ∧ Below X.heap.size X w') := fun X i hX hi => by
    have h := partFrom_any n c i (.slice ao c.length cap) X hc hi ((hm.below hX (Nat.le_refl _)).any (Nat.le_refl _))
    rw [HCL.out] at h
    exact h
  have HPL : Hid (paL c = paI c n) := by
    show _ = _
    unfold paL
    rw [HCL.out]
  have HOK : Hid (∀ i, i ≤ n → (paI c i).length ≤ i) := fun i hi => (paI_ok HCL.out hi).1
  rw [HCL.out]
  clear hm hlc hc
  go_enter Tryz.func30, Tryz.ntmps30
  go_wp2
  go_loopw [3, 4, 5, 8] (fun av _ _ iv wr => ∃ i : Nat, i ≤ n ∧ iv = .int .i64 i ∧ FrN w.heap.size wr av (natsM (paI c i)) ∧ Below w.heap.size w wr) (fun _ _ _ iv _ => n - (intOf iv).toNat)
  case atStart => exact ⟨0, Nat.zero_le _, rfl, FrN.nil _ _, Below.refl _ _⟩
  case round =>
    obtain ⟨i, hi, rfl, hfr, hbel⟩ := hrel
    have HF : Hid (FrN w.heap.size wr u3 (natsM (paI c i))) := hfr
    have HB : Hid (Below w.heap.size w wr) := hbel
    have HSZ : Hid (w.heap.size ≤ wr.heap.size) := hbel.size
    obtain ⟨vo, vc, hv3⟩ : ∃ vo vc, u3 = .slice vo (natsM (paI c i)).length vc := by
      obtain ⟨vs, g1, g2, g3⟩ := hfr
      exact owns_form g2
    rw [natsM_len] at hv3
    subst hv3
    clear hfr hbel
    have iI0 : (0 : Int) ≤ (i : Int) := by omega
    by_cases hlt : i < n
    · have iI : (i : Int) < (n : Int) := by omega
      obtain ⟨W1, hW1⟩ : ∃ W1, W1 = wr.alloc (.cells #[.int .i64 (i : Int)] 3) := ⟨_, rfl⟩
      have HB1 : Hid (Below wr.heap.size wr W1) := by rw [hW1]; exact (Below.refl _ _).alloc (Nat.le_refl _) _
      have HBW : Hid (Below w.heap.size w W1) := HB.out.trans (HB1.out.mono HSZ.out)
      have c1 : W1.cell? ⟨wr.heap.size, 0, none⟩ = some (.int .i64 (i : Int)) := by rw [hW1]; simp [go_sem]
      have C1 : Hid (W1.cell? ⟨wr.heap.size, 0, none⟩ = some (.int .i64 (i : Int))) := c1
      have HF1 : Hid (FrN w.heap.size W1 (.slice vo (paI c i).length vc) (natsM (paI c i))) := HF.out.below HB1.out (Nat.le_refl _)
      have HCF : Hid (Calls Tryz.prog 57 #[.slice vo (paI c i).length vc, .func (.func 55) #[] #[.pointer (some ⟨wr.heap.size, 0, none⟩)]] W1 fun e w' => e = .returned (.bool ((paI c i).any fun l => l.contains i)) ∧ Below W1.heap.size W1 w') := by
        have h := hasRp_any 0 (fun r => r.contains (i : Int)) (natsM (paI c i)) (.slice vo (paI c i).length vc) ⟨wr.heap.size, 0, none⟩ W1 (fr_matRp HF1.out.fr) (fun r _ W rv hW hr => by
          have hcW : W.cell? ⟨wr.heap.size, 0, none⟩ = some (.int .i64 (i : Int)) := (hW.cell (lt_of_cell C1.out)).trans C1.out
          refine (parts1_any 0 r (i : Int) rv wr.heap.size W hr hcW).mono ?_
          rintro e w' ⟨h1, h2⟩
          exact ⟨h1, hW.trans (h2.mono hW.size)⟩)
        rw [natsM_any] at h
        exact h
      have HPI : Hid (paI c (i + 1) = if ((paI c i).any fun l => l.contains i) = true then paI c i else paI c i ++ [bfL c i]) := rfl
      have HIL : Hid ((paI c i).length ≤ i) := HOK.out i (by omega)
      generalize ((paI c i).any fun l => l.contains i) = fb at *
      rw [hW1] at HCF c1
      have HW1 : Hid (W1 = wr.alloc (.cells #[.int .i64 (i : Int)] 3)) := hW1
      clear hW1
      cases fb with
      | true =>
        have HPT : Hid (paI c (i + 1) = paI c i) := HPI.out
        clear HPI
        go_wp2_with fail
        refine HCF.out.mono ?_
        rintro e w2 ⟨rfl, hb2⟩
        rw [← HW1.out] at hb2
        have HF2 : Hid (FrN w.heap.size w2 (.slice vo (paI c i).length vc) (natsM (paI c (i + 1)))) := by
          rw [HPT.out]
          exact HF1.out.below hb2 (Nat.le_refl _)
        have HB2 : Hid (Below w.heap.size w w2) := HBW.out.trans (hb2.mono HBW.out.size)
        clear hb2 HCF c1
        go_wp2
        exact ⟨⟨i + 1, by omega, by go_num, HF2.out, HB2.out⟩, by simp [intOf]; omega⟩
      | false =>
        have HPT : Hid (paI c (i + 1) = paI c i ++ [bfL c i]) := HPI.out
        clear HPI
        go_wp2_with fail
        refine HCF.out.mono ?_
        rintro e w2 ⟨rfl, hb2⟩
        rw [← HW1.out] at hb2
        have HF2 : Hid (FrN w.heap.size w2 (.slice vo (paI c i).length vc) (natsM (paI c i))) := HF1.out.below hb2 (Nat.le_refl _)
        have HB2 : Hid (Below w.heap.size w w2) := HBW.out.trans (hb2.mono HBW.out.size)
        have HCP := HPF.out w2 i HB2.out hlt
        have c2 : w2.cell? ⟨wr.heap.size, 0, none⟩ = some (.int .i64 (i : Int)) := (hb2.cell (lt_of_cell C1.out)).trans C1.out
        clear hb2 HCF c1
        go_wp2_with fail
        refine HCP.mono ?_
        rintro e w3 ⟨u, rfl, hou, hb3⟩
        obtain ⟨to, tc, hu⟩ := owns_form hou
        subst hu
        have HSL : Hid (SlN w.heap.size w3 (.slice to (bfL c i).length tc) (ints (natsI (bfL c i)))) := (SlN.own hou).mono HB2.out.size
        obtain ⟨us, k1, k2, k3⟩ := HF2.out.below hb3 (Nat.le_refl _)
        rw [natsM_len] at k1 k2 k3
        have K1 : Hid (us.length = (paI c i).length) := k1
        have K2 : Hid (w3.ownsRow w.heap.size 26 1 (.slice vo (paI c i).length vc) (paI c i).length us) := k2
        have K3 : Hid (∀ q, q < (paI c i).length → SlN w.heap.size w3 (us.getD q (.slice none 0 0)) (ints ((natsM (paI c i)).getD q []))) := k3
        have HB3 : Hid (Below w.heap.size w w3) := HB2.out.trans (hb3.mono HB2.out.size)
        have HSZ3 : Hid (w.heap.size ≤ w3.heap.size) := HB3.out.size
        have hil := HIL.out
        clear k1 k2 k3 hou hb3 HCP c2
        go_wp2_with (first | (at_builtin; refine wpList_append_own _ rfl _ _ 22 rfl w.heap.size 26 i0 (.slice none 0 0) 1 24 Tryz.underlying22 hi0 hz0 hz1 hz2 rfl (by decide) _ _ _ rfl (K2.out.alloc _) ⟨w3.heap.size, 0, none⟩ 1 1 [.slice to (bfL c i).length tc] rfl rfl (one_new _ _ _) (one_slice _ _ _) ?d3 ?d4 ?d5 ?_))
        case d3 => unfold maxLen; omega
        case d4 => omega
        case d5 => first | (have := HSZ3.out; simp; omega)
        intro v2 w4 ho hg _
        have S1 : Hid (FrN w.heap.size w4 v2 (natsM (paI c (i + 1)))) := by
          rw [HPT.out, natsM_app]
          exact FrN.push (m := natsM (paI c i)) (u := .slice to (bfL c i).length tc) (zs := natsI (bfL c i)) (by rw [natsM_len]; exact K1.out) (by rw [natsM_len]; exact K2.out.alloc _)
            (fun q hq => (K3.out q (by rw [natsM_len] at hq; exact hq)).alloc _) (HSL.out.alloc _) (by rw [natsM_len]; exact ho) hg
        have S2 : Hid (Below w.heap.size w w4) := (HB3.out.alloc HSZ3.out _).grown hg (by have := HSZ3.out; simp; omega) (fun x hx => (K2.out.lt x hx).1)
        clear ho hg
        go_wp2
        exact ⟨⟨i + 1, by omega, by go_num, S1.out, S2.out⟩, by simp [intOf]; omega⟩
    · have hie : i = n := by omega
      subst hie
      have hlt2 : ¬ (i : Int) < (i : Int) := by omega
      go_wp2
      go_ret
      exact ⟨_, rfl, by rw [HPL.out]; exact HF.out, HB.out⟩

end Go.Proofs.YtilblfoapjnmaaaGreatDoor

/- A list of lists and a list of numbers that grow side by side. Made of Ez10 and Fl3a. -/
namespace Go.Proofs.YtilblfoapjnmaaaGreatDoor
open Go.RowKit

theorem own_keepRp {B n sz : Nat} {e : TypeId} {w w' : World} {v : Value} {xs : List Value} (h : w.ownsRow B e sz v n xs) (hk : ∀ b, v.ownBlock = some b → w'.heap[b]? = w.heap[b]?) : w'.ownsRow B e sz v n xs := by
  refine ⟨h.1, ?_⟩
  rcases h.2 with h2 | ⟨g, cap, cur, rfl, hb, hh, r⟩
  · exact Or.inl h2
  · exact Or.inr ⟨g, cap, cur, rfl, hb, (hk g rfl).trans hh, r⟩

theorem own_typRp {B n sz : Nat} {e : TypeId} {w : World} {v : Value} {xs : List Value} (h : w.ownsRow B e sz v n xs) : ∀ b, v.ownBlock = some b → B ≤ b ∧ b < w.heap.size ∧ ∃ cur, w.heap[b]? = some (.cells cur e (0, 0)) := by
  intro b hb
  rcases h.2 with ⟨h1, _⟩ | ⟨g, cap, cur, rfl, hB, hh, _⟩
  · rw [h1] at hb; simp [Value.ownBlock] at hb
  · simp only [Value.ownBlock, Option.some.injEq] at hb
    subst hb
    exact ⟨hB, (Array.getElem?_eq_some_iff.1 hh).1, cur, hh⟩

theorem sl_pos_keepRp {w W : World} {v : Value} {xs : List Int} (h : Sl 0 3 w v (ints xs)) (hk : 0 < xs.length → ∀ a n c, v = .slice (some a) n c → W.heap[a.block]? = w.heap[a.block]?) : Sl 0 3 W v (ints xs) := by
  obtain ⟨ao, cap, rfl, h1, h2, h3, h4⟩ := h
  refine ⟨ao, cap, rfl, h1, h2, fun i hi => ?_, h4⟩
  obtain ⟨b, o, rfl, hc, ht⟩ := h3 i hi
  have he := hk (by simp at hi; omega) _ _ _ rfl
  refine ⟨b, o, rfl, ?_, ?_⟩
  · rw [← hc]
    simp only [World.cell?]
    rw [he]
  · rcases ht with ht | ⟨cur, ht⟩
    · omega
    · exact Or.inr ⟨cur, he.trans ht⟩

theorem sl_blockRp {w : World} {a : Addr} {n c : Nat} {xs : List Int} (h : Sl 0 3 w (.slice (some a) n c) (ints xs)) (hp : 0 < xs.length) : a.block < w.heap.size := by
  obtain ⟨ao, cap, he, _, _, h3, _⟩ := h
  obtain ⟨b, o, hb, hc, _⟩ := h3 0 (by simpa using hp)
  simp only [Value.slice.injEq] at he
  rw [← he.1] at hb
  cases hb
  have h5 : w.cell? ⟨b, o + 0, none⟩ = some ((ints xs)[0]'(by simpa using hp)) := by rw [hc]; simp
  exact lt_of_cell h5

structure TsI (B : Nat) (w0 W : World) (ov sv : Value) (O : List (List Int)) (xs : List Int) : Prop where
  ex : ∃ vs, vs.length = O.length ∧ W.ownsRow B 26 1 ov O.length vs ∧ (∀ i, i < O.length → SlN B W (vs.getD i (.slice none 0 0)) (ints (O.getD i []))) ∧ (∀ i, i < O.length → 0 < (O.getD i []).length → ∀ a k c, vs.getD i (.slice none 0 0) = .slice (some a) k c → sv.ownBlock ≠ some a.block)
  own : W.ownsRow B 3 1 sv xs.length (ints xs)
  bel : Below B w0 W

theorem TsI.nil (B : Nat) (w : World) : TsI B w w (.slice none 0 0) (.slice none 0 0) [] [] :=
  ⟨⟨[], rfl, World.ownsRow_nil _ _ _ _, fun i hi => absurd hi (by simp), fun i hi => absurd hi (by simp)⟩, World.ownsRow_nil _ _ _ _, Below.refl _ _⟩

theorem TsI.low {B : Nat} {w0 W W' : World} {ov sv : Value} {O : List (List Int)} {xs : List Int} (h : TsI B w0 W ov sv O xs) (hB : B ≤ W.heap.size) (hb : Below W.heap.size W W') : TsI B w0 W' ov sv O xs := by
  obtain ⟨⟨vs, h1, h2, h3, h4⟩, h5, h6⟩ := h
  exact ⟨⟨vs, h1, owns_below h2 hb (Nat.le_refl _), fun i hi => (h3 i hi).below hb (Nat.le_refl _), h4⟩, owns_below h5 hb (Nat.le_refl _), h6.trans (hb.mono hB)⟩

theorem TsI.ne {B : Nat} {w0 W : World} {ov sv : Value} {O : List (List Int)} {xs : List Int} (h : TsI B w0 W ov sv O xs) : ∀ g, ov.ownBlock = some g → sv.ownBlock ≠ some g := fun g h1 h2 => by
  obtain ⟨⟨vs, q1, q2, q3, q4⟩, q5, q6⟩ := h
  obtain ⟨_, _, c1, e1⟩ := own_typRp q2 g h1
  obtain ⟨_, _, c2, e2⟩ := own_typRp q5 g h2
  rw [e1] at e2
  simp at e2

theorem TsI.fr {B : Nat} {w0 W : World} {ov sv : Value} {O : List (List Int)} {xs : List Int} (h : TsI B w0 W ov sv O xs) : FrN B W ov O := by
  obtain ⟨⟨vs, h1, h2, h3, h4⟩, h5, h6⟩ := h
  exact ⟨vs, h1, h2, h3⟩

/-- One list more. -/
theorem TsI.pushO {B : Nat} {w0 W w5 : World} {ov sv v' u : Value} {O : List (List Int)} {zs xs : List Int} {ob : Obj} {vs : List Value} (h : TsI B w0 W ov sv O xs) (hB : B ≤ W.heap.size)
    (h1 : vs.length = O.length) (h2 : W.ownsRow B 26 1 ov O.length vs) (h3 : ∀ i, i < O.length → SlN B W (vs.getD i (.slice none 0 0)) (ints (O.getD i []))) (h4 : ∀ i, i < O.length → 0 < (O.getD i []).length → ∀ a k c, vs.getD i (.slice none 0 0) = .slice (some a) k c → sv.ownBlock ≠ some a.block)
    (hu : SlN B W u (ints zs)) (hub : 0 < zs.length → ∀ a k c, u = .slice (some a) k c → sv.ownBlock ≠ some a.block)
    (ho : w5.ownsRow B 26 1 v' (O.length + 1) (vs ++ [u])) (hg : (W.alloc ob).grownBy w5 ov.ownBlock) : TsI B w0 w5 v' sv (O ++ [zs]) xs := by
  have hne := h.ne
  have h5 := h.own
  have h6 := h.bel
  have hgl : ∀ i, i < O.length → (vs ++ [u]).getD i (.slice none 0 0) = vs.getD i (.slice none 0 0) ∧ (O ++ [zs]).getD i [] = O.getD i [] := fun i hi => by
    simp only [List.getD_eq_getElem?_getD]
    rw [List.getElem?_append_left (by omega), List.getElem?_append_left (by omega)]
    exact ⟨rfl, rfl⟩
  have hge : (vs ++ [u]).getD O.length (.slice none 0 0) = u ∧ (O ++ [zs]).getD O.length [] = zs := by
    constructor
    · rw [← h1]; simp
    · simp
  have ht : ∀ k, ov.ownBlock = some k → 0 ≤ k ∧ ∀ cur, (W.alloc ob).heap[k]? ≠ some (.cells cur 3 (0, 0)) := fun k hk => ⟨Nat.zero_le _, (owns_typed (h2.alloc ob) (by decide) k hk).2⟩
  refine ⟨⟨vs ++ [u], by simp [h1], by simpa using ho, fun i hi => ?_, fun i hi hp a k c e => ?_⟩, ?_, (h6.alloc hB _).grown hg (by simp; omega) (fun x hx => (h2.lt x hx).1)⟩
  · by_cases hlt : i < O.length
    · rw [(hgl i hlt).1, (hgl i hlt).2]
      exact ⟨((h3 i hlt).1.alloc ob).grown hg ht, (h3 i hlt).2⟩
    · have hi' : i = O.length := by simp at hi; omega
      subst hi'
      rw [hge.1, hge.2]
      exact ⟨(hu.1.alloc ob).grown hg ht, hu.2⟩
  · by_cases hlt : i < O.length
    · rw [(hgl i hlt).1] at e
      rw [(hgl i hlt).2] at hp
      exact h4 i hlt hp a k c e
    · have hi' : i = O.length := by simp at hi; omega
      subst hi'
      rw [hge.1] at e
      rw [hge.2] at hp
      exact hub hp a k c e
  · refine own_keepRp h5 fun b hb => ?_
    have hlt := (own_typRp h5 b hb).2.1
    rw [hg.block b (by simp; omega) (fun e => hne b e.symm hb)]
    exact Below.heap_alloc _ _ _ hlt

/-- Numbers more. -/
theorem TsI.pushS {B : Nat} {w0 W w5 : World} {ov sv v' : Value} {O : List (List Int)} {xs ys : List Int} (h : TsI B w0 W ov sv O xs) (hB : B ≤ W.heap.size)
    (ho : w5.ownsRow B 3 1 v' (xs.length + ys.length) (ints xs ++ ints ys)) (hg : W.grownBy w5 sv.ownBlock) (hat : v'.ownBlock = sv.ownBlock ∨ v'.ownBlock = some W.heap.size) : TsI B w0 w5 ov v' O (xs ++ ys) := by
  have hne := h.ne
  obtain ⟨⟨vs, h1, h2, h3, h4⟩, h5, h6⟩ := h
  refine ⟨⟨vs, h1, ?_, fun i hi => ?_, fun i hi hp a k c e => ?_⟩, by simpa [ints] using ho, h6.grown hg (by omega) (fun x hx => (h5.lt x hx).1)⟩
  · refine own_keepRp h2 fun b hb => ?_
    have hlt := (own_typRp h2 b hb).2.1
    exact hg.block b (by omega) (fun e => hne b hb e.symm)
  · refine ⟨sl_pos_keepRp (h3 i hi).1 fun hp a k c e => ?_, (h3 i hi).2⟩
    have hlt := sl_blockRp (by rw [← e]; exact (h3 i hi).1) hp
    exact hg.block a.block (by omega) (fun e2 => h4 i hi hp a k c e e2.symm)
  · have hlt := sl_blockRp (by rw [← e]; exact (h3 i hi).1) hp
    rcases hat with h | h
    · rw [h]; exact h4 i hi hp a k c e
    · rw [h]
      intro e2
      simp only [Option.some.injEq] at e2
      omega

end Go.Proofs.YtilblfoapjnmaaaGreatDoor

/- Lists of numbers as sets: what they have in common, sides of simplices, bits. -/
namespace Go.Proofs.YtilblfoapjnmaaaGreatDoor
open Go.RowKit

/-- Rising. -/
def Ris (l : List Int) : Prop := l.Pairwise (· < ·)

end Go.Proofs.YtilblfoapjnmaaaGreatDoor
