import Derived.Test.YtdbfkjnnlomklaaRefA
import Derived.Test.YtdbfkjnnlomklaaTwA
import Derived.Test.YtdbfkjnnlomklaaNpA
/- Rows that lie in new blocks. -/
namespace Go.Proofs.Ytdbfkjnnlomklaa
open Go.RowKit

/-- A slice that lies in no block below B. -/
def SlN (B : Nat) (w : World) (v : Value) (xs : List Value) : Prop := Sl 0 3 w v xs ∧ ∀ b o n c, v = .slice (some ⟨b, o, none⟩) n c → B ≤ b

theorem SlN.below {B N : Nat} {w w' : World} {v : Value} {xs : List Value} (h : SlN B w v xs) (hb : Below N w w') (hN : w.heap.size ≤ N) : SlN B w' v xs := ⟨h.1.below hb hN, h.2⟩
theorem SlN.alloc {B : Nat} {w : World} {v : Value} {xs : List Value} (h : SlN B w v xs) (o : Obj) : SlN B (w.alloc o) v xs := ⟨h.1.alloc o, h.2⟩
theorem SlN.mono {B B' : Nat} {w : World} {v : Value} {xs : List Value} (h : SlN B w v xs) (hB : B' ≤ B) : SlN B' w v xs := ⟨h.1, fun b o n c e => Nat.le_trans hB (h.2 b o n c e)⟩
theorem SlN.own {B n : Nat} {w : World} {v : Value} {l : List Int} (h : w.ownsRow B 3 1 v n (ints l)) : SlN B w v (ints l) := by
  refine ⟨Sl.own h, fun b o k c e => ?_⟩
  subst e
  exact (h.lt b rfl).1

def FrN (B : Nat) (w : World) (v : Value) (m : List (List Int)) : Prop :=
  ∃ vs, vs.length = m.length ∧ w.ownsRow B 22 1 v m.length vs ∧ ∀ i, i < m.length → SlN B w (vs.getD i (.slice none 0 0)) (ints (m.getD i []))

theorem FrN.fr {B : Nat} {w : World} {v : Value} {m : List (List Int)} (h : FrN B w v m) : Fr B 22 3 w v m := by
  obtain ⟨vs, h1, h2, h3⟩ := h
  exact ⟨vs, h1, h2, fun i hi => (h3 i hi).1⟩
theorem FrN.nil (B : Nat) (w : World) : FrN B w (.slice none 0 0) [] := ⟨[], rfl, World.ownsRow_nil _ _ _ _, fun i hi => absurd hi (by simp)⟩
theorem FrN.below {B N : Nat} {w w' : World} {v : Value} {m : List (List Int)} (h : FrN B w v m) (hb : Below N w w') (hN : w.heap.size ≤ N) : FrN B w' v m := by
  obtain ⟨vs, h1, h2, h3⟩ := h
  exact ⟨vs, h1, owns_below h2 hb hN, fun i hi => (h3 i hi).below hb hN⟩
theorem FrN.alloc {B : Nat} {w : World} {v : Value} {m : List (List Int)} (h : FrN B w v m) (o : Obj) : FrN B (w.alloc o) v m := by
  obtain ⟨vs, h1, h2, h3⟩ := h
  exact ⟨vs, h1, h2.alloc o, fun i hi => (h3 i hi).alloc o⟩
theorem FrN.push {B : Nat} {w w' : World} {v v' u : Value} {m : List (List Int)} {vs : List Value} {zs : List Int}
    (h1 : vs.length = m.length) (h2 : w.ownsRow B 22 1 v m.length vs) (h3 : ∀ i, i < m.length → SlN B w (vs.getD i (.slice none 0 0)) (ints (m.getD i []))) (hu : SlN B w u (ints zs))
    (ho : w'.ownsRow B 22 1 v' (m.length + 1) (vs ++ [u])) (hg : w.grownBy w' v.ownBlock) : FrN B w' v' (m ++ [zs]) := by
  have ht : ∀ k, v.ownBlock = some k → 0 ≤ k ∧ ∀ cur, w.heap[k]? ≠ some (.cells cur 3 (0, 0)) := fun k hk => ⟨Nat.zero_le _, (owns_typed h2 (by decide) k hk).2⟩
  refine ⟨vs ++ [u], by simp [h1], by simpa using ho, fun i hi => ?_⟩
  by_cases hlt : i < m.length
  · have e1' : (vs ++ [u]).getD i (.slice none 0 0) = vs.getD i (.slice none 0 0) := by
      simp only [List.getD_eq_getElem?_getD]; rw [List.getElem?_append_left (by omega)]
    have e2' : (m ++ [zs]).getD i [] = m.getD i [] := by
      simp only [List.getD_eq_getElem?_getD]; rw [List.getElem?_append_left (by omega)]
    rw [e1', e2']
    exact ⟨(h3 i hlt).1.grown hg ht, (h3 i hlt).2⟩
  · have hi' : i = m.length := by simp at hi; omega
    subst hi'
    have e1' : (vs ++ [u]).getD m.length (.slice none 0 0) = u := by
      rw [← h1]; simp
    have e2' : (m ++ [zs]).getD m.length [] = zs := by simp
    rw [e1', e2']
    exact ⟨hu.1.grown hg ht, hu.2⟩

end Go.Proofs.Ytdbfkjnnlomklaa

/- The document's orders: rows that lie in new blocks. -/
namespace Go.Proofs.Ytdbfkjnnlomklaa
open Go.RowKit
attribute [local go_sem ↓] Go.wp_at_zero Go.wp_at_succ

theorem one_frN {B : Nat} {w : World} {u : Value} {zs : List Int} (hu : SlN B w u (ints zs)) (hB : B ≤ w.heap.size) : FrN B (w.alloc (.cells #[u] 22)) (.slice (some ⟨w.heap.size, 0, none⟩) 1 1) [zs] := by
  refine ⟨[u], rfl, ?_, fun i hi => ?_⟩
  · have h := World.ownsRow_lit (base := B) (e := 22) (size := 1) w #[u] 1 hB (by simp [maxLen]) (by simp)
    simpa using h
  · have : i = 0 := by simp at hi; omega
    subst this
    exact hu.alloc _

/-- Many rows more. -/
theorem FrN.pushAll {B : Nat} {w w' : World} {v v' : Value} {m m2 : List (List Int)} {vs us : List Value}
    (h1 : vs.length = m.length) (h2 : w.ownsRow B 22 1 v m.length vs) (h3 : ∀ i, i < m.length → SlN B w (vs.getD i (.slice none 0 0)) (ints (m.getD i [])))
    (k1 : us.length = m2.length) (k3 : ∀ i, i < m2.length → SlN B w (us.getD i (.slice none 0 0)) (ints (m2.getD i [])))
    (ho : w'.ownsRow B 22 1 v' (m.length + m2.length) (vs ++ us)) (hg : w.grownBy w' v.ownBlock) : FrN B w' v' (m ++ m2) := by
  have ht : ∀ k, v.ownBlock = some k → 0 ≤ k ∧ ∀ cur, w.heap[k]? ≠ some (.cells cur 3 (0, 0)) := fun k hk => ⟨Nat.zero_le _, (owns_typed h2 (by decide) k hk).2⟩
  refine ⟨vs ++ us, by simp [h1, k1], by simpa using ho, fun i hi => ?_⟩
  by_cases hlt : i < m.length
  · have e1' : (vs ++ us).getD i (.slice none 0 0) = vs.getD i (.slice none 0 0) := by
      simp only [List.getD_eq_getElem?_getD]; rw [List.getElem?_append_left (by omega)]
    have e2' : (m ++ m2).getD i [] = m.getD i [] := by
      simp only [List.getD_eq_getElem?_getD]; rw [List.getElem?_append_left (by omega)]
    rw [e1', e2']
    exact ⟨(h3 i hlt).1.grown hg ht, (h3 i hlt).2⟩
  · have e1' : (vs ++ us).getD i (.slice none 0 0) = us.getD (i - m.length) (.slice none 0 0) := by
      simp only [List.getD_eq_getElem?_getD]; rw [List.getElem?_append_right (by omega), h1]
    have e2' : (m ++ m2).getD i [] = m2.getD (i - m.length) [] := by
      simp only [List.getD_eq_getElem?_getD]; rw [List.getElem?_append_right (by omega)]
    rw [e1', e2']
    have hk := k3 (i - m.length) (by simp at hi; omega)
    exact ⟨hk.1.grown hg ht, hk.2⟩

def OrdN (n k : Nat) : Prop := ∀ (ix : List Int) (v : Value) (w : World), IsOrd n ix → ix.length + k = n → Sl w.heap.size 3 w v (ints ix) →
  Calls Try.prog 10 #[.int .i64 n, v] w fun e w' => ∃ x, e = .returned x ∧ FrN w.heap.size w' x (ords n k ix) ∧ Below w.heap.size w w'

set_option maxRecDepth 100000 in
set_option maxHeartbeats 400000 in
theorem ordN_zero (n : Nat) (hn : n ≤ 6) : OrdN n 0 := by
  intro ix v w ho hk hv
  obtain ⟨ao, cap, hvv, hlc, hcm⟩ := sl_open hv
  subst hvv
  have HCP : Hid (Calls Try.prog 29 #[.slice ao ix.length cap] w fun e w' => ∃ u, e = .returned u ∧ w'.ownsRow w.heap.size 3 1 u ix.length (ints ix) ∧ Below w.heap.size w w') := copy_any _ ix _ w hv (by omega)
  have hkk : ((ix.length : Int) == (n : Int)) = true := by rw [beq_iff_eq]; omega
  clear hv ho hk
  go_enter Try.func10, Try.ntmps10
  go_wp2_with fail
  refine HCP.out.mono ?_
  rintro e w1 ⟨u, rfl, hu, hb⟩
  obtain ⟨uo, uc, huv⟩ := owns_form hu
  subst huv
  have HU : Hid (SlN w.heap.size w1 (.slice uo ix.length uc) (ints ix)) := SlN.own hu
  have HB : Hid (Below w.heap.size w w1) := hb
  clear hu hb HCP
  go_wp2
  go_ret
  exact ⟨_, rfl, one_frN HU.out HB.out.size, HB.out.alloc HB.out.size _⟩

set_option maxRecDepth 100000 in
set_option maxHeartbeats 1600000 in
theorem ordN_succ (n k : Nat) (hn : n ≤ 6) (hk5 : k ≤ 5) (ih : OrdN n k) : OrdN n (k + 1) := by
  intro ix v w ho hk hv
  obtain ⟨i0, hi, hz0, hz1, hz2⟩ := info_parts Try.info22
  obtain ⟨i3, hi3, hz30, hz31, hz32⟩ := info_parts Try.info3
  obtain ⟨ao, cap, hvv, hlc, hcm⟩ := sl_open hv
  subst hvv
  have HV : Hid (Sl w.heap.size 3 w (.slice ao ix.length cap) (ints ix)) := hv
  have HO : Hid (IsOrd n ix) := ho
  have HK : Hid (ix.length + (k + 1) = n) := hk
  have HIH : Hid (OrdN n k) := ih
  have hl6 : ix.length ≤ 6 := by omega
  have hkk : ((ix.length : Int) == (n : Int)) = false := by rw [beq_eq_false_iff_ne]; omega
  clear hv ho hk ih
  go_enter Try.func10, Try.ntmps10
  go_wp2
  go_loopw [5, 6] (fun x i wr => ∃ q : Nat, q ≤ n ∧ i = .int .i64 q ∧ FrN w.heap.size wr x (ordsT n k ix q) ∧ Below w.heap.size w wr) (fun _ i _ => n - (intOf i).toNat)
  case atStart => exact ⟨0, Nat.zero_le _, rfl, FrN.nil _ _, Below.refl _ _⟩
  case round =>
    obtain ⟨q, hq, rfl, hfr, hb⟩ := hrel
    obtain ⟨wa, rfl⟩ : ∃ wa, wa = wr := ⟨wr, rfl⟩
    have HF : Hid (FrN w.heap.size wa u5 (ordsT n k ix q)) := hfr
    have HB : Hid (Below w.heap.size w wa) := hb
    have HVa : Hid (Sl w.heap.size 3 wa (.slice ao ix.length cap) (ints ix)) := HV.out.below hb (Nat.le_refl _)
    clear hfr hb
    by_cases hlt : q < n
    · have HIN : Hid (Calls Try.prog 30 #[.int .i64 q, .slice ao ix.length cap] wa fun e w' => e = .returned (.bool (ix.contains (q : Int))) ∧ w' = wa) := inT_any _ q ix _ wa HVa.out
      have HSC : Hid (ordsT n k ix (q + 1) = ordsT n k ix q ++ (if ix.contains (q : Int) then [] else ords n k (ix ++ [(q : Int)]))) := ordsT_succ n k ix q
      have HNC : Hid (ix.contains (q : Int) = false → (q : Int) ∉ ix) := fun h => by simpa using h
      cases hct : ix.contains (q : Int)
      · rw [hct] at HIN HSC HNC
        have HNI : Hid (IsOrd n (ix ++ [(q : Int)])) := isOrd_snoc HO.out hlt (HNC.out rfl)
        have HSC2 : Hid (ordsT n k ix (q + 1) = ordsT n k ix q ++ ords n k (ix ++ [(q : Int)])) := HSC.out
        clear HSC HNC hct
        have HCP : Hid (Calls Try.prog 29 #[.slice ao ix.length cap] wa fun e w' => ∃ u, e = .returned u ∧ w'.ownsRow wa.heap.size 3 1 u ix.length (ints ix) ∧ Below wa.heap.size wa w') := copy_any _ ix _ wa HVa.out (by omega)
        go_wp2_with (first | (go_at_call 30; refine HIN.out.mono ?_; rintro e w' ⟨rfl, hww⟩; rw [hww]; clear hww w'))
        refine HCP.out.mono ?_
        rintro e w1 ⟨u, rfl, hu, hb1⟩
        obtain ⟨uo, uc, huv⟩ := owns_form hu
        subst huv
        have HU : Hid (w1.ownsRow wa.heap.size 3 1 (.slice uo ix.length uc) ix.length (ints ix)) := hu
        have HB1 : Hid (Below wa.heap.size wa w1) := hb1
        clear hu hb1 HCP HIN
        go_wp2_with (first | (at_builtin; refine wpList_append_own _ rfl _ _ 22 rfl wa.heap.size 3 i3 (.int .i64 0) 1 8 Try.underlying22 hi3 hz30 hz31 hz32 rfl (by decide) _ _ _ rfl (HU.out.alloc _) ⟨w1.heap.size, 0, none⟩ 1 1 [.int .i64 q] rfl rfl (one_new _ _ _) (one_int _) ?c3 ?c4 ?c5 ?_))
        case c3 => unfold maxLen; omega
        case c4 => omega
        case c5 => have := HB1.out.size; simp; omega
        intro v2 w2 ho2 hg2 _
        have R := owns_push (z := (q : Int)) (N := ix.length + 1) (w0 := wa) HB1.out.size (l := ix) HU.out HB1.out ho2 hg2 rfl
        obtain ⟨vo2, vc2, hv2⟩ := owns_form R.1
        subst hv2
        have HL1 : Hid ((ix ++ [(q : Int)]).length = ix.length + 1) := by show _ = _; simp
        have HNE := ords_ne k (ix ++ [(q : Int)]) HNI.out (by rw [HL1.out]; have := HK.out; omega)
        have HLN : Hid ((ords n k (ix ++ [(q : Int)])).length ≤ 46656) := Nat.le_trans (ords_len hn k _) (Nat.le_trans (Nat.pow_le_pow_right (by decide) hk5) (by decide))
        have HLT : Hid ((ordsT n k ix q).length ≤ 46656) := ordsT_len hn k ix q hq hk5
        have HB2 : Hid (Below wa.heap.size wa w2) := R.2
        have HSW : Hid (w.heap.size ≤ w2.heap.size) := Nat.le_trans HB.out.size R.2.size
        have HCALL : Hid (Calls Try.prog 10 #[.int .i64 n, .slice vo2 (ix.length + 1) vc2] w2 fun e w' => ∃ g us xc, e = .returned (.slice (some ⟨g, 0, none⟩) (ords n k (ix ++ [(q : Int)])).length xc) ∧ us.length = (ords n k (ix ++ [(q : Int)])).length ∧
            w'.ownsRow w2.heap.size 22 1 (.slice (some ⟨g, 0, none⟩) (ords n k (ix ++ [(q : Int)])).length xc) (ords n k (ix ++ [(q : Int)])).length us ∧ (∀ i, i < (ords n k (ix ++ [(q : Int)])).length → SlN w.heap.size w' (us.getD i (.slice none 0 0)) (ints ((ords n k (ix ++ [(q : Int)])).getD i []))) ∧ Below w2.heap.size w2 w') := by
          have h := HIH.out (ix ++ [(q : Int)]) (.slice vo2 (ix.length + 1) vc2) w2 HNI.out (by rw [HL1.out]; have := HK.out; omega) (Sl.own R.1)
          refine h.mono ?_
          rintro e w' ⟨x, rfl, ⟨us, f1, f2, f3⟩, hb⟩
          rcases f2.2 with ⟨_, h2⟩ | ⟨g, xc, cur, rfl, _⟩
          · exact absurd (List.eq_nil_of_length_eq_zero h2) HNE
          · exact ⟨g, us, xc, rfl, f1, f2, fun i hi => (f3 i hi).mono HSW.out, hb⟩
        clear R ho2 hg2 HU HB1 HNE
        obtain ⟨vs, g1, g2, g3⟩ := HF.out
        have G1 : Hid (vs.length = (ordsT n k ix q).length) := g1
        have G2 : Hid (wa.ownsRow w.heap.size 22 1 u5 (ordsT n k ix q).length vs) := g2
        have G3 : Hid (∀ i, i < (ordsT n k ix q).length → SlN w.heap.size wa (vs.getD i (.slice none 0 0)) (ints ((ordsT n k ix q).getD i []))) := g3
        clear g1 g2 g3
        generalize ords n k (ix ++ [(q : Int)]) = o2 at *
        generalize ordsT n k ix q = o1 at *
        go_wp2_with fail
        refine HCALL.out.mono ?_
        rintro e w3 ⟨g, us, xc, rfl, f1, f2, f3, hb3⟩
        have HB3 : Hid (Below wa.heap.size wa w3) := HB2.out.trans (hb3.mono HB2.out.size)
        have F1 : Hid (us.length = o2.length) := f1
        have F2 : Hid (w3.ownsRow w2.heap.size 22 1 (.slice (some ⟨g, 0, none⟩) o2.length xc) o2.length us) := f2
        have F3 : Hid (∀ i, i < o2.length → SlN w.heap.size w3 (us.getD i (.slice none 0 0)) (ints (o2.getD i []))) := f3
        have G4 : Hid (w3.ownsRow w.heap.size 22 1 u5 o1.length vs) := owns_below G2.out HB3.out (Nat.le_refl _)
        have G5 : Hid (∀ i, i < o1.length → SlN w.heap.size w3 (vs.getD i (.slice none 0 0)) (ints (o1.getD i []))) := fun i hi => (G3.out i hi).below HB3.out (Nat.le_refl _)
        have HSS : Hid (w.heap.size ≤ w3.heap.size) := Nat.le_trans HB.out.size HB3.out.size
        clear f1 f2 f3 hb3 HCALL
        go_wp2_with (first | (at_builtin; refine wpList_append_own _ rfl _ _ 23 rfl w.heap.size 22 i0 (.slice none 0 0) 1 24 Try.underlying23 hi hz0 hz1 hz2 rfl (by decide) _ _ _ rfl G4.out ⟨g, 0, none⟩ o2.length xc us rfl ?e2 ?e3 ?e4 ?c3 ?c4 ?c5 ?_))
        case e2 => rw [F1.out]; simp
        case e3 => exact own_cells F2.out
        case e4 => exact rows_one F1.out (fun i hi => (F3.out i hi).1)
        case c3 => have h1 := HLN.out; have h2 := HLT.out; unfold maxLen; omega
        case c4 => have h1 := HLN.out; have h2 := HLT.out; omega
        case c5 => exact HSS.out
        intro v4 w4 ho4 hg4 _
        have R1 : Hid (FrN w.heap.size w4 v4 (ordsT n k ix (q + 1))) := by
          rw [HSC2.out]
          exact FrN.pushAll G1.out G4.out G5.out F1.out F3.out ho4 hg4
        have R2 : Hid (Below w.heap.size w w4) := (HB.out.trans (HB3.out.mono HB.out.size)).grown hg4 HSS.out (fun k hk => (G4.out.lt k hk).1)
        clear ho4 hg4
        go_wp2
        go_roundw
        case rel => exact ⟨q + 1, by omega, by go_num, R1.out, R2.out⟩
        case measure => simp [intOf]; omega
      · rw [hct] at HIN HSC HNC
        have HSC2 : Hid (ordsT n k ix (q + 1) = ordsT n k ix q) := by
          have := HSC.out
          rw [if_pos rfl, List.append_nil] at this
          exact this
        clear HSC HNC hct
        go_wp2_with (first | (go_at_call 30; refine HIN.out.mono ?_; rintro e w' ⟨rfl, hww⟩; rw [hww]; clear hww w'))
        go_roundw
        case rel => exact ⟨q + 1, by omega, by go_num, by rw [HSC2.out]; exact HF.out, HB.out⟩
        case measure => simp [intOf]; omega
    · have hqe : q = n := by omega
      subst hqe
      go_wp2
      go_ret
      exact ⟨_, rfl, HF.out, HB.out⟩

theorem ordN_any (n : Nat) (hn : n ≤ 6) : ∀ k, k ≤ 6 → OrdN n k
  | 0, _ => ordN_zero n hn
  | k + 1, hk => ordN_succ n k hn (by omega) (ordN_any n hn k (by omega))

end Go.Proofs.Ytdbfkjnnlomklaa

/- The document: a square parted. -/
namespace Go.Proofs.Ytdbfkjnnlomklaa
open Go.RowKit
attribute [local go_sem ↓] Go.wp_at_zero Go.wp_at_succ

def updN (f : Nat → Nat) (k x : Nat) : Nat → Nat := fun i => if i = k then x else f i

theorem rowsV_upd (g c : Nat → Nat) (n k a b : Nat) : rowsV (updN g k a) (updN c k b) n k = rowsV g c n k := by
  unfold rowsV
  refine List.map_congr_left fun i hi => ?_
  have := List.mem_range.1 hi
  simp [updN, show i ≠ k by omega]

/-- A row more, in a new block. -/
theorem OM.push {B : Nat} {g c : Nat → Nat} {k n : Nat} {wa w1 w3 : World} {v v' : Value} {R : List (List Int)} {gk ck : Nat} {r : List Int} {o : Obj} (h : OM B g c k n wa v R) (hB : B ≤ wa.heap.size) (hr : r.length = n)
    (hu : w1.ownsRow wa.heap.size 3 1 (.slice (some ⟨gk, 0, none⟩) n ck) n (ints r)) (hb : Below wa.heap.size wa w1)
    (ho : w3.ownsRow B 22 1 v' (k + 1) (rowsV g c n k ++ [.slice (some ⟨gk, 0, none⟩) n ck])) (hg : (w1.alloc o).grownBy w3 v.ownBlock) : OM B (updN g k gk) (updN c k ck) (k + 1) n w3 v' (R ++ [r]) := by
  have hgk := hu.lt gk rfl
  have hv : ∀ b, v.ownBlock = some b → b < wa.heap.size ∧ ∃ cur, wa.heap[b]? = some (.cells cur 22 (0, 0)) := fun b hx => by
    refine ⟨(h.out.lt b hx).2, ?_⟩
    rcases h.out.2 with ⟨h1, _⟩ | ⟨G, cap, cur, h1, _, hh, _⟩
    · rw [h1] at hx; simp [Value.ownBlock] at hx
    · rw [h1] at hx
      simp only [Value.ownBlock, Option.some.injEq] at hx
      subst hx
      exact ⟨cur, hh⟩
  have hgl : ∀ i, i < k → g i < wa.heap.size := fun i hi => ((h.row i hi).lt _ rfl).2
  have hold : ∀ i, i < k → w3.heap[g i]? = wa.heap[g i]? := fun i hi => by
    have h1 := hgl i hi
    have h2 := hb.size
    refine (hg.block (g i) (by simp; omega) (fun e => ?_)).trans ((Below.heap_alloc _ _ _ (by omega)).trans (hb.block _ h1))
    obtain ⟨_, cur, hc⟩ := hv (g i) e.symm
    obtain ⟨cur', hc'⟩ := own_heap (h.row i hi)
    rw [hc] at hc'
    simp at hc'
  refine ⟨by simp [h.num], fun i hi => ?_, ?_, fun i hi => ?_, fun i j hi hj e => ?_⟩
  · by_cases e : i < k
    · rw [List.getD_eq_getElem?_getD, List.getElem?_append_left (by rw [h.num]; exact e), ← List.getD_eq_getElem?_getD]
      exact h.len i e
    · have : i = R.length := by rw [h.num]; omega
      subst this
      simpa using hr
  · rw [rowsV_succ, rowsV_upd]
    simp only [updN, if_true]
    exact ho
  · by_cases e : i < k
    · have e1 : (R ++ [r]).getD i [] = R.getD i [] := by
        rw [List.getD_eq_getElem?_getD, List.getElem?_append_left (by rw [h.num]; exact e), ← List.getD_eq_getElem?_getD]
      rw [e1]
      simp only [updN, show i ≠ k by omega, if_false]
      exact own_keepB (h.row i e) (fun b hx => by
        simp only [Value.ownBlock, Option.some.injEq] at hx
        subst hx
        exact hold i e)
    · have : i = k := by omega
      subst this
      have e1 : (R ++ [r]).getD i [] = r := by
        have := h.num
        subst this
        simp
      rw [e1]
      simp only [updN, if_true]
      have hk : w3.ownsRow wa.heap.size 3 1 (.slice (some ⟨gk, 0, none⟩) n ck) n (ints r) := own_keepB hu (fun b hx => by
        simp only [Value.ownBlock, Option.some.injEq] at hx
        subst hx
        refine (hg.block gk (by simp; omega) (fun e => ?_)).trans (Below.heap_alloc _ _ _ (by omega))
        have := (hv gk e.symm).1
        omega)
      refine ⟨hk.1, ?_⟩
      rcases hk.2 with h2 | ⟨g', cap, cur, h1, h2, r⟩
      · exact Or.inl h2
      · exact Or.inr ⟨g', cap, cur, h1, by omega, r⟩
  · by_cases ei : i = k
    · by_cases ej : j = k
      · omega
      · simp only [updN, ei, ej, if_true, if_false] at e
        have := hgl j (by omega)
        omega
    · by_cases ej : j = k
      · simp only [updN, ei, ej, if_true, if_false] at e
        have := hgl i (by omega)
        omega
      · simp only [updN, ei, ej, if_false] at e
        exact h.apart i j (by omega) (by omega) e

/-- Between the orders. -/
structure PQ (w w2 : World) (N1 n : Nat) (g c : Nat → Nat) (lv : Value) (s : PSt) (x7 x8 : Value) (wr : World) : Prop where
  bel : Below w.heap.size w wr
  mid : ∀ b, N1 ≤ b → b < w2.heap.size → wr.heap[b]? = w2.heap[b]?
  left : OM w.heap.size g c n n wr lv s.rest
  ol : ∃ vs, vs.length = s.ords.length ∧ wr.ownsRow w2.heap.size 22 1 x7 s.ords.length vs ∧ ∀ i, i < s.ords.length → SlN N1 w2 (vs.getD i (.slice none 0 0)) (ints (s.ords.getD i []))
  ml : wr.ownsRow w2.heap.size 3 1 x8 s.many.length (ints s.many)
  sz : w2.heap.size ≤ wr.heap.size

theorem PQ.drewN {w w2 : World} {N1 n : Nat} {g c : Nat → Nat} {lv : Value} {s : PSt} {x7 x8 : Value} {wr : World} (h : PQ w w2 N1 n g c lv s x7 x8 wr) (d : Nat) : PQ w w2 N1 n g c lv s x7 x8 (wr.drewN d) :=
  ⟨h.bel.trans ⟨rfl, rfl, rfl, Nat.le_refl _, fun _ _ => rfl⟩, h.mid, h.left.keep (fun _ _ => rfl), h.ol, h.ml, h.sz⟩

theorem SlN.mid {N1 : Nat} {w2 wq : World} {u : Value} {l : List Int} (h : SlN N1 w2 u (ints l)) (hm : ∀ b, N1 ≤ b → b < w2.heap.size → wq.heap[b]? = w2.heap[b]?) : Sl 0 3 wq u (ints l) := by
  obtain ⟨⟨ao, cap, rfl, h1, h2, h3, h4⟩, hN⟩ := h
  refine ⟨ao, cap, rfl, h1, h2, fun i hi => ?_, h4⟩
  obtain ⟨b, o, ha, hc, ht⟩ := h3 i hi
  have hb : N1 ≤ b := hN b o _ _ (by rw [ha])
  have hlt : b < w2.heap.size := lt_of_cell (hc.trans (List.getElem?_eq_getElem hi))
  have keep := hm b hb hlt
  refine ⟨b, o, ha, (World.cell?_of_block (w := w2) (a := ⟨b, o + i, none⟩) keep).trans hc, ?_⟩
  rcases ht with ht | ⟨cur, ht⟩
  · omega
  · exact Or.inr ⟨cur, keep.trans ht⟩

theorem PQ.set {w w2 : World} {N1 n : Nat} {g c : Nat → Nat} {lv : Value} {s : PSt} {x7 x8 : Value} {wr : World} (h : PQ w w2 N1 n g c lv s x7 x8 wr) (hN : ∀ i, i < n → g i < N1) (hN2 : N1 ≤ w2.heap.size) {i j : Nat} (hi : i < n) (z : Int) :
    PQ w w2 N1 n g c lv ⟨setM s.rest i j z, s.ords, s.many⟩ x7 x8 (wr.setCell ⟨g i, j, none⟩ (.int .i64 z)) := by
  have hg := hN i hi
  have hB : w.heap.size ≤ g i := ((h.left.row i hi).lt _ rfl).1
  have hoth : ∀ b, b ≠ g i → (wr.setCell ⟨g i, j, none⟩ (.int .i64 z)).heap[b]? = wr.heap[b]? := fun b hb => Below.heap_setCell wr _ _ b hb
  refine ⟨h.bel.trans ⟨rfl, rfl, rfl, by simp [World.setCell], fun b hb => hoth b (by omega)⟩, fun b h1 h2 => (hoth b (by omega)).trans (h.mid b h1 h2), h.left.set hi z, ?_, own_keepB h.ml (fun b hb => hoth b (by have := (h.ml.lt b hb).1; omega)), by simp [World.setCell]; exact h.sz⟩
  obtain ⟨vs, k1, k2, k3⟩ := h.ol
  exact ⟨vs, k1, own_keepB k2 (fun b hb => hoth b (by have := (k2.lt b hb).1; omega)), k3⟩

theorem own_apart {B1 B2 n k : Nat} {w : World} {x y : Value} {xs ys : List Value} (h1 : w.ownsRow B1 22 1 x n xs) (h2 : w.ownsRow B2 3 1 y k ys) : ∀ b, x.ownBlock = some b → y.ownBlock = some b → False := by
  intro b hx hy
  rcases h1.2 with ⟨e, _⟩ | ⟨G, cap, cur, e, _, hh, _⟩
  · rw [e] at hx; simp [Value.ownBlock] at hx
  · rcases h2.2 with ⟨e2, _⟩ | ⟨G2, cap2, cur2, e2, _, hh2, _⟩
    · rw [e2] at hy; simp [Value.ownBlock] at hy
    · rw [e] at hx
      rw [e2] at hy
      simp only [Value.ownBlock, Option.some.injEq] at hx hy
      subst hx
      subst hy
      rw [hh] at hh2
      simp at hh2

theorem apart_ne {x y : Option Nat} (h : ∀ b, x = some b → y = some b → False) : y = none ∨ y ≠ x := by
  cases y with
  | none => exact Or.inl rfl
  | some b => exact Or.inr (fun e => h b e.symm rfl)

/-- Both rows have one more. -/
theorem PQ.step {w w2 : World} {N1 n : Nat} {g c : Nat → Nat} {lv : Value} {s : PSt} {x7 x8 : Value} {wr : World} (h : PQ w w2 N1 n g c lv s x7 x8 wr) (hN : ∀ b, (lv.ownBlock = some b ∨ ∃ i, i < n ∧ b = g i) → b < N1) (hN2 : N1 ≤ w2.heap.size) (hw : w.heap.size ≤ w2.heap.size) {vs : List Value} (k1 : vs.length = s.ords.length) (k2 : wr.ownsRow w2.heap.size 22 1 x7 s.ords.length vs) (k3 : ∀ i, i < s.ords.length → SlN N1 w2 (vs.getD i (.slice none 0 0)) (ints (s.ords.getD i [])))
    {o : List Int} {z : Int} {row : Value} (hrow : SlN N1 w2 row (ints o)) {v2 v4 : Value} {w3 w4 : World} {o1 o2 : Obj} (ho3 : w3.ownsRow w2.heap.size 22 1 v2 (s.ords.length + 1) (vs ++ [row])) (hg3 : (wr.alloc o1).grownBy w3 x7.ownBlock) (hm3 : w3.ownsRow w2.heap.size 3 1 x8 s.many.length (ints s.many))
    (ho4 : w4.ownsRow w2.heap.size 3 1 v4 (s.many.length + 1) (ints s.many ++ [.int .i64 z])) (hg4 : (w3.alloc o2).grownBy w4 x8.ownBlock) : PQ w w2 N1 n g c lv ⟨s.rest, s.ords ++ [o], s.many ++ [z]⟩ v2 v4 w4 := by
  have hs := h.sz
  have s3 := hg3.size
  have s4 := hg4.size
  simp only [World.size_alloc] at s3 s4
  have hlow : ∀ b, b < w2.heap.size → w4.heap[b]? = wr.heap[b]? := fun b hb => by
    refine (hg4.block b (by simp; omega) (fun e => ?_)).trans ((Below.heap_alloc _ _ _ (by omega)).trans ((hg3.block b (by simp; omega) (fun e => ?_)).trans (Below.heap_alloc _ _ _ (by omega))))
    · have := (hm3.lt b e.symm).1; omega
    · have := (k2.lt b e.symm).1; omega
  refine ⟨⟨hg4.os.trans (hg3.os.trans h.bel.os), hg4.tape.trans (hg3.tape.trans h.bel.tape), hg4.output.trans (hg3.output.trans h.bel.output), by have := h.bel.size; omega, fun b hb => (hlow b (by omega)).trans (h.bel.block b hb)⟩, fun b hb1 hb2 => (hlow b hb2).trans (h.mid b hb1 hb2), h.left.keep (fun b hb => hlow b (by have := hN b hb; omega)), ⟨vs ++ [row], by simp [k1], ?_, fun i hi => ?_⟩, ?_, by omega⟩
  · simp only [List.length_append, List.length_singleton]
    refine own_keepB ho3 (fun b hb => ?_)
    have hlt := (ho3.lt b hb).2
    exact (hg4.block b (by simp; omega) (fun e => own_apart ho3 hm3 b hb e.symm)).trans (Below.heap_alloc _ _ _ hlt)
  · by_cases e : i < s.ords.length
    · have e1 : (vs ++ [row]).getD i (.slice none 0 0) = vs.getD i (.slice none 0 0) := by
        simp only [List.getD_eq_getElem?_getD]; rw [List.getElem?_append_left (by omega)]
      have e2 : (s.ords ++ [o]).getD i [] = s.ords.getD i [] := by
        simp only [List.getD_eq_getElem?_getD]; rw [List.getElem?_append_left (by omega)]
      rw [e1, e2]
      exact k3 i e
    · have hi' : i = s.ords.length := by simp at hi; omega
      subst hi'
      have e1 : (vs ++ [row]).getD s.ords.length (.slice none 0 0) = row := by rw [← k1]; simp
      have e2 : (s.ords ++ [o]).getD s.ords.length [] = o := by simp
      rw [e1, e2]
      exact hrow
  · simp only [List.length_append, List.length_singleton]
    have e : ints (s.many ++ [z]) = ints s.many ++ [.int .i64 z] := by simp [ints]
    rw [e]
    exact ho4

theorem ord_od {n : Nat} {o : List Int} (h : IsOrd n o) (hl : o.length = n) : Od n o := by
  refine ⟨hl, fun i hi => ?_⟩
  have hm : o.getD i 0 ∈ o := by simp [show i < o.length by omega]
  have := h.1 _ hm
  exact ⟨(o.getD i 0).toNat, by omega, by omega⟩

theorem pFold_sq {n : Nat} {m : List (List Int)} (h : SqN n m) : ∀ (l : List (List Int)), (∀ o ∈ l, Od n o) → SqN n (pFold n m l).rest := by
  intro l
  suffices H : ∀ (l : List (List Int)) (s : PSt), SqN n s.rest → (∀ o ∈ l, Od n o) → SqN n (l.foldl (pStep n) s).rest from fun hl => H l ⟨m, [], []⟩ h hl
  intro l
  induction l with
  | nil => intro s hs _; exact hs
  | cons o l ih =>
    intro s hs hl
    rw [List.foldl_cons]
    refine ih _ (pStep_sq hs fun i hi => ?_) (fun x hx => hl x (by simp [hx]))
    obtain ⟨j, hj, hjn⟩ := (hl o (by simp)).rng i hi
    rw [hj]; simpa using hjn

theorem pFold_len (n : Nat) (m : List (List Int)) : ∀ (l : List (List Int)), (pFold n m l).ords.length = (pFold n m l).many.length ∧ (pFold n m l).many.length ≤ l.length := by
  intro l
  suffices H : ∀ (l : List (List Int)) (s : PSt), s.ords.length = s.many.length → (l.foldl (pStep n) s).ords.length = (l.foldl (pStep n) s).many.length ∧ (l.foldl (pStep n) s).many.length ≤ s.many.length + l.length from by
    have := H l ⟨m, [], []⟩ rfl
    simpa [pFold] using this
  intro l
  induction l with
  | nil => intro s hs; exact ⟨hs, by simp⟩
  | cons o l ih =>
    intro s hs
    rw [List.foldl_cons]
    have h1 : (pStep n s o).ords.length = (pStep n s o).many.length ∧ (pStep n s o).many.length ≤ s.many.length + 1 := by
      unfold pStep
      split
      · simp [hs]
      · exact ⟨hs, by omega⟩
    have := ih (pStep n s o) h1.1
    simp only [List.length_cons]
    omega

end Go.Proofs.Ytdbfkjnnlomklaa
