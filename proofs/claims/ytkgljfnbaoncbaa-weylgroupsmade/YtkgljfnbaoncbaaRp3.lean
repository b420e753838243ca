/- facetref.PartsOf: the walk. -/
import Derived.Test.YtkgljfnbaoncbaaMgAF
import Derived.Test.YtkgljfnbaoncbaaRdr
import Derived.Deep.AppendLies
namespace Go.Proofs.Ytkgljfnbaoncbaa
open Go.RowKit
attribute [local go_sem ↓] Go.wp_at_zero Go.wp_at_succ

/-- A part's numbers, rising. -/
def rsN (n : Nat) (l : List Nat) : List Nat := (List.range n).filter fun x => l.contains x

theorem rsN_mem {n : Nat} {l : List Nat} (h : PaW n l) (x : Nat) : x ∈ rsN n l ↔ x ∈ l := by
  simp [rsN]
  exact fun hx => h.lt x hx

theorem ris_ext : ∀ {a b : List Int}, Ris a → Ris b → (∀ x, x ∈ a ↔ x ∈ b) → a = b
  | [], [], _, _, _ => rfl
  | [], y :: b, _, _, h => absurd ((h y).2 (by simp)) (by simp)
  | x :: a, [], _, _, h => absurd ((h x).1 (by simp)) (by simp)
  | x :: a, y :: b, ha, hb, h => by
    obtain ⟨ha1, ha2⟩ := List.pairwise_cons.1 ha
    obtain ⟨hb1, hb2⟩ := List.pairwise_cons.1 hb
    have e : x = y := by
      rcases List.mem_cons.1 ((h x).1 (by simp)) with e | e
      · exact e
      · rcases List.mem_cons.1 ((h y).2 (by simp)) with e2 | e2
        · exact e2.symm
        · have := hb1 x e; have := ha1 y e2; omega
    subst e
    congr 1
    refine ris_ext ha2 hb2 fun z => ⟨fun hz => ?_, fun hz => ?_⟩
    · rcases List.mem_cons.1 ((h z).1 (by simp [hz])) with e | e
      · subst e; have := ha1 z hz; omega
      · exact e
    · rcases List.mem_cons.1 ((h z).2 (by simp [hz])) with e | e
      · subst e; have := hb1 z hz; omega
      · exact e

theorem rsN_ris (n : Nat) (l : List Nat) : Ris (natsI (rsN n l)) := by
  unfold natsI rsN Ris
  rw [List.pairwise_map]
  exact (List.Pairwise.filter _ List.pairwise_lt_range).imp fun h => by omega

theorem rsN_out {n : Nat} {l : List Nat} {out : List Int} (h : PaW n l) (hr : Ris out) (hm : ∀ x, x ∈ out ↔ x ∈ natsI l) : out = natsI (rsN n l) := by
  refine ris_ext hr (rsN_ris n l) fun x => ?_
  rw [hm x]
  unfold natsI
  simp only [List.mem_map]
  constructor
  · rintro ⟨a, h1, h2⟩
    exact ⟨a, (rsN_mem h a).2 h1, h2⟩
  · rintro ⟨a, h1, h2⟩
    exact ⟨a, (rsN_mem h a).1 h1, h2⟩

/-- The document's lists of parts. -/
def prI (c : List (List Int)) (n i : Nat) : List (List Int) := (paI c i).map fun l => natsI (rsN n l)
/-- What it has seen. -/
def seI (c : List (List Int)) (i : Nat) : List Int := natsI (paI c i).flatten

theorem seI_contains (c : List (List Int)) (i x : Nat) : (seI c i).contains (x : Int) = (paI c i).any fun l => l.contains x := by
  unfold seI
  rw [natsI_contains, Bool.eq_iff_iff]
  simp

theorem natsI_flat (a : List (List Nat)) (l : List Nat) : natsI (a ++ [l]).flatten = natsI a.flatten ++ natsI l := by simp [natsI]

set_option maxRecDepth 100000 in
set_option maxHeartbeats 3200000 in
theorem partsOf_any (n : Nat) (c : List (List Int)) (cv : Value) (w : World) (hc : Sqc n c) (hm : Mat w.heap.size 26 3 w cv c) :
    Calls Try.prog 22 #[cv] w fun e w' => ∃ u, e = .returned u ∧ FrN w.heap.size w' u (prI c n n) ∧ Below w.heap.size w w' := by
  obtain ⟨i0, hi0, hz0, hz1, hz2⟩ := info_parts Try.info26
  obtain ⟨i3, hi3, hz30, hz31, hz32⟩ := info_parts Try.info3
  obtain ⟨ao, cap, hvv, hlc, hcm⟩ := mat_open hm
  subst hvv
  have hn4 := hc.n4
  have HCL : Hid (c.length = n) := hc.len
  have HM : Hid (∀ W, Below w.heap.size w W → Mat w.heap.size 26 3 W (.slice ao n cap) c) := fun W hW => by
    have := hm.below hW (Nat.le_refl _)
    rw [HCL.out] at this
    exact this
  have HEN : Hid (∀ x, x < n → ∃ b o b3 o3 cp3, ao = some ⟨b, o, none⟩ ∧ ∀ X, Below w.heap.size w X → X.cell? ⟨b, o + x, none⟩ = some (.slice (some ⟨b3, o3, none⟩) n cp3) ∧ ∀ j, j < n → X.cell? ⟨b3, o3 + j, none⟩ = some (.int .i64 (cE c x j))) := fun x hx => ent_all hc (HM.out w (Below.refl _ _)) hx
  rw [HCL.out]
  clear hm hlc hc HM
  have HOW : Hid (∀ k (l : List Nat), PaW n l → PaW n (bfI c k n l) ∧ l <+: bfI c k n l) := fun k l h => bfI_ok h (Nat.le_refl _)
  have HST : Hid (∀ k j (l : List Nat), j < n → PaW n l → PaW n (bfI c k j l) ∧ l <+: bfI c k j l) := fun k j l hj h => bfI_ok h (by omega)
  have HBO : Hid (∀ f k (l : List Nat), bfO c (f + 1) k l = if k < l.length then bfO c f (k + 1) (bfI c k n l) else l) := fun f k l => by
    show bfO c (f + 1) k l = _
    rw [bfO, HCL.out]
  have HIN : Hid (∀ X zs v (x : Nat), Sl 0 3 X v (ints zs) → Calls Try.prog 40 #[.int .i64 (x : Nat), v] X fun e w' => e = .returned (.bool (zs.contains (x : Int))) ∧ ∃ t, w' = X.drewN t) := fun X zs v x h => inR_anyP 0 (x : Int) zs v X h
  have HRI : Hid (∀ X l v, PaW n l → Sl 0 3 X v (ints (natsI l)) → Calls Try.prog 41 #[v] X fun e w' => ∃ u, e = .returned u ∧ w'.ownsRow X.heap.size 3 1 u (natsI (rsN n l)).length (ints (natsI (rsN n l))) ∧ Below X.heap.size X w') := fun X l v hl hv => by
    refine (rising_any (natsI l) v X (hv.more (Nat.zero_le _)) (by rw [natsI_lenR]; have := hl.len; omega)).mono ?_
    rintro e w' ⟨u, out, rfl, ho, hr, hm, _, hb⟩
    have := rsN_out hl hr hm
    subst this
    exact ⟨u, rfl, ho, hb⟩
  have HLP : Hid (∀ i, i ≤ n → (paI c i).length ≤ i ∧ (seI c i).length ≤ 16) := fun i hi => by
    obtain ⟨h1, h2⟩ := paI_ok HCL.out hi
    refine ⟨h1, ?_⟩
    unfold seI
    rw [natsI_lenR]
    have : ∀ (L : List (List Nat)), (∀ l ∈ L, PaW n l) → L.flatten.length ≤ L.length * 4 := by
      intro L
      induction L with
      | nil => intro _; simp
      | cons l L ih =>
        intro h
        have h3 := (h l (by simp)).len
        have h4 := ih fun x hx => h x (by simp [hx])
        rw [List.flatten_cons, List.length_append, List.length_cons]
        omega
    have := this _ h2
    omega
  have HPO : Hid (∀ i, i < n → PaW n (bfL c i)) := fun i hi => bfL_ok HCL.out hi
  go_enter Try.func22, Try.ntmps22
  go_wp2
  go_loopw [3, 4, 5, 6, 7, 8] (fun ov sv iv _ _ _ wr => ∃ i : Nat, i ≤ n ∧ iv = .int .i64 i ∧ TsI w.heap.size w wr ov sv (prI c n i) (seI c i)) (fun _ _ iv _ _ _ _ => n - (intOf iv).toNat)
  case atStart => exact ⟨0, Nat.zero_le _, rfl, TsI.nil _ _⟩
  case round =>
    obtain ⟨i, hi, rfl, hts⟩ := hrel
    have HT : Hid (TsI w.heap.size w wr u3 u4 (prI c n i) (seI c i)) := hts
    have HB : Hid (Below w.heap.size w wr) := hts.bel
    have HSZ : Hid (w.heap.size ≤ wr.heap.size) := hts.bel.size
    obtain ⟨so, sc, hs3⟩ := owns_form hts.own
    subst hs3
    obtain ⟨vo, vc, hv2⟩ : ∃ vo vc, u3 = .slice vo (prI c n i).length vc := by
      obtain ⟨⟨vs, g1, g2, g3, g4⟩, _, _⟩ := hts
      exact owns_form g2
    subst hv2
    clear hts
    have iI0 : (0 : Int) ≤ (i : Int) := by omega
    by_cases hlt : i < n
    · have iI : (i : Int) < (n : Int) := by omega
      have HI1 := HIN.out wr (seI c i) (.slice so (seI c i).length sc) i (Sl.own HT.out.own)
      rw [seI_contains] at HI1
      have HI2 : Hid (Calls Try.prog 40 #[.int .i64 (i : Nat), .slice so (seI c i).length sc] wr fun e w' => e = .returned (.bool ((paI c i).any fun l => l.contains i)) ∧ ∃ t, w' = wr.drewN t) := HI1
      have HPI : Hid (paI c (i + 1) = if ((paI c i).any fun l => l.contains i) = true then paI c i else paI c i ++ [bfL c i]) := rfl
      clear HI1
      generalize ((paI c i).any fun l => l.contains i) = fb at *
      cases fb with
      | true =>
        have HPT : Hid (paI c (i + 1) = paI c i) := HPI.out
        clear HPI
        go_wp2_with fail
        refine HI2.out.mono ?_
        rintro e w2 ⟨rfl, t2, hw2⟩
        have HT2 : Hid (TsI w.heap.size w w2 (.slice vo (prI c n i).length vc) (.slice so (seI c i).length sc) (prI c n (i + 1)) (seI c (i + 1))) := by
          have e1 : prI c n (i + 1) = prI c n i := by unfold prI; rw [HPT.out]
          have e2 : seI c (i + 1) = seI c i := by unfold seI; rw [HPT.out]
          show TsI _ _ _ _ _ _ _
          rw [e1, e2, hw2]
          exact HT.out.low HSZ.out (below_drewN (Below.refl _ _) t2)
        clear hw2 HI2
        go_wp2
        exact ⟨⟨i + 1, by omega, by go_num, HT2.out⟩, by simp [intOf]; omega⟩
      | false =>
        have HPT : Hid (paI c (i + 1) = paI c i ++ [bfL c i]) := HPI.out
        clear HPI
        have HPW : Hid (PaW n [i]) := PaW.one hlt
        go_wp2_with fail
        refine HI2.out.mono ?_
        rintro e w2 ⟨rfl, t2, hw2⟩
        have HT2 : Hid (TsI w.heap.size w w2 (.slice vo (prI c n i).length vc) (.slice so (seI c i).length sc) (prI c n i) (seI c i)) := by
          rw [hw2]
          exact HT.out.low HSZ.out (below_drewN (Below.refl _ _) t2)
        have HB2 : Hid (Below w.heap.size w w2) := HT2.out.bel
        have HS2 : Hid (w.heap.size ≤ w2.heap.size) := HT2.out.bel.size
        clear hw2 HI2 HT HB HSZ
        obtain ⟨W1, hW1⟩ : ∃ W1, W1 = w2.alloc (.cells #[.int .i64 (i : Int)] 3) := ⟨_, rfl⟩
        have HBA : Hid (Below w2.heap.size w2 W1) := by rw [hW1]; exact (Below.refl _ _).alloc (Nat.le_refl _) _
        have HOA : Hid (W1.ownsRow w2.heap.size 3 1 (.slice (some ⟨w2.heap.size, 0, none⟩) 1 1) [i].length (ints (natsI [i]))) := by
          have h := World.ownsRow_lit (base := w2.heap.size) (e := 3) (size := 1) w2 #[.int .i64 (i : Int)] 1 (Nat.le_refl _) (by unfold maxLen; omega) (by simp)
          rw [hW1]
          exact h
        go_wp2
        rw [← hW1]
        clear hW1
        go_loopw [6, 7, 8] (fun pv kv _ wr => ∃ (k f : Nat) (l : List Nat), kv = .int .i64 k ∧ k + f = 5 ∧ 0 < l.length ∧ bfL c i = bfO c f k l ∧ PaW n l ∧ wr.ownsRow w2.heap.size 3 1 pv l.length (ints (natsI l)) ∧ Below w2.heap.size w2 wr) (fun _ kv _ _ => 5 - (intOf kv).toNat)
        case atStart => exact ⟨0, 5, [i], rfl, rfl, by simp, rfl, HPW.out, HOA.out, HBA.out⟩
        case round =>
          obtain ⟨k, f, l, rfl, hkf, hl0, hbf, hpw, hown, hbel⟩ := hrel
          have HK : Hid (bfL c i = bfO c f k l) := hbf
          have HPL : Hid (PaW n l) := hpw
          have HO : Hid (wr.ownsRow w2.heap.size 3 1 u6 l.length (ints (natsI l))) := hown
          have HB : Hid (Below w2.heap.size w2 wr) := hbel
          have hln : l.length ≤ n := hpw.len
          obtain ⟨lo, lc, hv⟩ := owns_form hown
          subst hv
          clear hbf hpw hown hbel HPW HOA HBA
          have kI0 : (0 : Int) ≤ (k : Int) := by omega
          by_cases hltk : k < l.length
          · obtain ⟨f, rfl⟩ : ∃ f', f = f' + 1 := ⟨f - 1, by omega⟩
            have HK2 : Hid (bfL c i = bfO c f (k + 1) (bfI c k n l)) := by
              show _ = _
              rw [HK.out, HBO.out, if_pos hltk]
            obtain ⟨x, hx⟩ : ∃ x, x = l.getD k 0 := ⟨_, rfl⟩
            have hxn : x < n := by rw [hx]; exact HPL.out.lt _ (by simp [hltk])
            obtain ⟨b, o, b3, o3, cp3, hao, hcr⟩ := HEN.out x hxn
            subst hao
            have HCE : Hid (∀ X, Below w.heap.size w X → X.cell? ⟨b, o + x, none⟩ = some (.slice (some ⟨b3, o3, none⟩) n cp3) ∧ ∀ j, j < n → X.cell? ⟨b3, o3 + j, none⟩ = some (.int .i64 (cE c x j))) := hcr
            have kI : (k : Int) < (l.length : Int) := by omega
            have xI : (x : Int) < (n : Int) := by omega
            have xI0 : (0 : Int) ≤ (x : Int) := by omega
            have HX : Hid (x = l.getD k 0) := hx
            have HLT : Hid (k < l.length) := hltk
            clear hx HK HBO hcr HEN
            go_wp2
            go_loopw [6, 8] (fun pv jv wq => ∃ j : Nat, j ≤ n ∧ jv = .int .i64 j ∧ wq.ownsRow w2.heap.size 3 1 pv (bfI c k j l).length (ints (natsI (bfI c k j l))) ∧ Below w2.heap.size w2 wq) (fun _ jv _ => n - (intOf jv).toNat)
            case atStart => exact ⟨0, Nat.zero_le _, rfl, HO.out, HB.out⟩
            case round =>
              obtain ⟨j, hj, rfl, hown2, hbel2⟩ := hrel
              have HO2 : Hid (wr.ownsRow w2.heap.size 3 1 u6 (bfI c k j l).length (ints (natsI (bfI c k j l)))) := hown2
              have HB3 : Hid (Below w2.heap.size w2 wr) := hbel2
              have HSZ : Hid (w2.heap.size ≤ wr.heap.size) := hbel2.size
              have HBW : Hid (Below w.heap.size w wr) := HB2.out.trans (hbel2.mono HS2.out)
              obtain ⟨lo2, lc2, hv2⟩ := owns_form hown2
              subst hv2
              clear hown2 hbel2 HO HB
              have jI0 : (0 : Int) ≤ (j : Int) := by omega
              by_cases hlj : j < n
              · have jI : (j : Int) < (n : Int) := by omega
                obtain ⟨c0, c1'⟩ := HCE.out wr HBW.out
                have c1 := c1' j hlj
                clear c1'
                obtain ⟨hp1, hp2⟩ := HST.out k j l hlj HPL.out
                have h4 : (bfI c k j l).length ≤ n := hp1.len
                have hkl2 : k < (bfI c k j l).length := Nat.lt_of_lt_of_le HLT.out hp2.length_le
                have HSS : Hid (bfI c k (j + 1) l = if (!(cE c x j == 0) && !(bfI c k j l).contains j) = true then bfI c k j l ++ [j] else bfI c k j l) := by
                  show bfS c k j (bfI c k j l) = _
                  unfold bfS
                  rw [pre_getN hp2 HLT.out, ← HX.out]
                obtain ⟨b2, o2, cp2, hs2, _, hc2⟩ := sl_cell (B := 0) (Sl.own HO2.out) (k := k) (by rw [natsI_lenR]; exact hkl2)
                rw [natsI_lenR] at hs2
                simp only [Value.slice.injEq, true_and] at hs2
                obtain ⟨rfl, rfl⟩ := hs2
                rw [natsI_atR hkl2, pre_getN hp2 HLT.out, ← HX.out] at hc2
                have kI2 : (k : Int) < ((bfI c k j l).length : Int) := by omega
                have HCT : Hid (Calls Try.prog 40 #[.int .i64 (j : Nat), .slice (some ⟨b2, o2, none⟩) (bfI c k j l).length lc2] wr fun e w' => e = .returned (.bool ((bfI c k j l).contains j)) ∧ ∃ t, w' = wr.drewN t) := by
                  have h := HIN.out wr (natsI (bfI c k j l)) (.slice (some ⟨b2, o2, none⟩) (bfI c k j l).length lc2) j (Sl.own HO2.out)
                  rw [natsI_contains] at h
                  exact h
                have HAP : Hid (ints (natsI (bfI c k j l ++ [j])) = ints (natsI (bfI c k j l)) ++ [.int .i64 (j : Int)]) := natsI_appR _ _
                have HLA : Hid ((bfI c k j l ++ [j]).length = (bfI c k j l).length + 1) := by
                  show _ = _
                  simp
                clear hp1 hp2
                generalize bfI c k j l = l2 at *
                generalize cE c x j = v at *
                cases hv0 : (v == 0) with
                | true =>
                  have HS2' : Hid (bfI c k (j + 1) l = l2) := by
                    show _ = _
                    rw [HSS.out, hv0]; rfl
                  have v0 : v = 0 := by simpa using hv0
                  subst v0
                  clear hv0 HSS HCT
                  go_wp2
                  exact ⟨⟨j + 1, by omega, by go_num, by rw [HS2'.out]; exact HO2.out, HB3.out⟩, by simp [intOf]; omega⟩
                | false =>
                  have hvn : (v != 0) = true := by simpa [bne] using hv0
                  cases hct : l2.contains j with
                  | true =>
                    have HS2' : Hid (bfI c k (j + 1) l = l2) := by
                      show _ = _
                      rw [HSS.out, hct, Bool.not_true, Bool.and_false]; rfl
                    rw [hct] at HCT
                    clear HSS hct
                    go_wp2_with fail
                    refine HCT.out.mono ?_
                    rintro e w5 ⟨rfl, t5, hw5⟩
                    have HO5 : Hid (w5.ownsRow w2.heap.size 3 1 (.slice (some ⟨b2, o2, none⟩) l2.length lc2) l2.length (ints (natsI l2))) := by rw [hw5]; exact HO2.out
                    have HB5 : Hid (Below w2.heap.size w2 w5) := by rw [hw5]; exact below_drewN HB3.out t5
                    clear HCT hw5
                    go_wp2
                    exact ⟨⟨j + 1, by omega, by go_num, by rw [HS2'.out]; exact HO5.out, HB5.out⟩, by simp [intOf]; omega⟩
                  | false =>
                    have HS2' : Hid (bfI c k (j + 1) l = l2 ++ [j]) := by
                      show _ = _
                      rw [HSS.out, hct, hv0]; rfl
                    rw [hct] at HCT
                    clear HSS hct
                    go_wp2_with fail
                    refine HCT.out.mono ?_
                    rintro e w5 ⟨rfl, t5, hw5⟩
                    have HO5 : Hid (w5.ownsRow w2.heap.size 3 1 (.slice (some ⟨b2, o2, none⟩) l2.length lc2) l2.length (ints (natsI l2))) := by rw [hw5]; exact HO2.out
                    have HB5 : Hid (Below w2.heap.size w2 w5) := by rw [hw5]; exact below_drewN HB3.out t5
                    have HSZ5 : Hid (w2.heap.size ≤ w5.heap.size) := HB5.out.size
                    clear HCT hw5
                    go_wp2_with (first | (at_builtin; refine wpList_append_own _ rfl _ _ 26 rfl w2.heap.size 3 i3 (.int .i64 0) 1 8 Try.underlying26 hi3 hz30 hz31 hz32 rfl (by decide) _ _ _ rfl (HO5.out.alloc _) ⟨w5.heap.size, 0, none⟩ 1 1 [.int .i64 (j : Int)] rfl rfl (one_new _ _ _) (one_int _) ?c3 ?c4 ?c5 ?_))
                    case c3 => unfold maxLen; omega
                    case c4 => omega
                    case c5 => first | (have := HSZ5.out; simp; omega)
                    intro v6 w6 ho6 hg6 _
                    have HO6 : Hid (w6.ownsRow w2.heap.size 3 1 v6 (bfI c k (j + 1) l).length (ints (natsI (bfI c k (j + 1) l)))) := by
                      show World.ownsRow _ _ _ _ _ _ _
                      rw [HS2'.out, HLA.out, HAP.out]; exact ho6
                    have HB6 : Hid (Below w2.heap.size w2 w6) := (HB5.out.alloc HSZ5.out _).grown hg6 (by have := HSZ5.out; simp; omega) (fun x hx => (HO5.out.lt x hx).1)
                    clear ho6 hg6
                    go_wp2
                    exact ⟨⟨j + 1, by omega, by go_num, HO6.out, HB6.out⟩, by simp [intOf]; omega⟩
              · have hje : j = n := by omega
                subst hje
                clear hlj hj
                obtain ⟨hp1, hp2⟩ := HOW.out k l HPL.out
                have HP1 : Hid (PaW j (bfI c k j l)) := hp1
                have HL1 : Hid (0 < (bfI c k j l).length) := Nat.lt_of_lt_of_le hl0 hp2.length_le
                clear hp1 hp2
                go_wp2
                exact ⟨⟨k + 1, f, bfI c k j l, by go_num, by omega, HL1.out, HK2.out, HP1.out, HO2.out, HB3.out⟩, by simp [intOf]; omega⟩
          · have HE : Hid (bfL c i = l) := by
              show _ = _
              rw [HK.out]
              cases f with
              | zero => rfl
              | succ f => rw [HBO.out, if_neg hltk]
            have kI : ¬ (k : Int) < (l.length : Int) := by omega
            obtain ⟨g, cap2, hvg, hg2, hgs⟩ := HO.out.form hl0
            simp only [Value.slice.injEq, true_and] at hvg
            obtain ⟨rfl, rfl⟩ := hvg
            have HTW : Hid (TsI w.heap.size w wr (.slice vo (prI c n i).length vc) (.slice so (seI c i).length sc) (prI c n i) (seI c i)) := HT2.out.low HS2.out HB.out
            have HSW : Hid (w.heap.size ≤ wr.heap.size) := HTW.out.bel.size
            have HNE : Hid ((Value.slice so (seI c i).length sc).ownBlock ≠ some g) := fun e => by
              have := (HT2.out.own.lt g e).2
              omega
            have HLB : Hid ((seI c i).length ≤ 16) := (HLP.out i (by omega)).2
            have hlb := HLB.out
            have HOB : Hid (((prI c n i).length) ≤ i) := by
              show _ ≤ _
              unfold prI
              rw [List.length_map]
              exact (HLP.out i (by omega)).1
            have HCL2 : Hid (∀ j u, (ints (natsI l))[j]? = some u → wr.cell? ((⟨g, 0, none⟩ : Addr).add j) = some u) := HO.out.cells rfl
            have HLL : Hid ((ints (natsI l)).length = l.length * 1) := by
              show _ = _
              simp [ints, natsI]
            have hob := HOB.out
            clear hg2 hgs
            go_wp2_with (first | (at_builtin; refine wpList_append_own_at _ rfl _ _ 26 rfl w.heap.size 3 i3 (.int .i64 0) 1 8 Try.underlying26 hi3 hz30 hz31 hz32 rfl (by decide) _ _ _ rfl HTW.out.own ⟨g, 0, none⟩ l.length lc (ints (natsI l)) rfl HLL.out HCL2.out (ints_oneCell' _) ?c3 ?c4 ?c5 ?_))
            case c3 => unfold maxLen; omega
            case c4 => omega
            case c5 => first | exact HSW.out
            intro v7 w7 ho7 hg7 _ hat7
            have HT7 : Hid (TsI w.heap.size w w7 (.slice vo (prI c n i).length vc) v7 (prI c n i) (seI c i ++ natsI l)) := HTW.out.pushS HSW.out (by rw [natsI_lenR]; exact ho7) hg7 hat7
            have HS7 : Hid (Sl 0 3 w7 (.slice (some ⟨g, 0, none⟩) l.length lc) (ints (natsI l))) := Sl.own (HO.out.kept hg7 (.inr fun e => HNE.out e.symm))
            have HSZ7 : Hid (w.heap.size ≤ w7.heap.size) := HT7.out.bel.size
            obtain ⟨zo, zc, hv7⟩ := owns_form ho7
            subst hv7
            have HR7 := HRI.out w7 l _ HPL.out HS7.out
            have HZB : Hid (∀ b, (Value.slice zo ((seI c i).length + l.length) zc).ownBlock = some b → b < w7.heap.size) := fun b hb => (ho7.lt b hb).2
            clear ho7 hg7 hat7
            go_wp2_with fail
            refine HR7.mono ?_
            rintro e w8 ⟨u, rfl, hou, hb8⟩
            obtain ⟨to, tc, hu⟩ := owns_form hou
            subst hu
            obtain ⟨R, hR⟩ : ∃ R, R = natsI (rsN n l) := ⟨_, rfl⟩
            rw [← hR] at hou
            have HRR : Hid (R = natsI (rsN n l)) := hR
            rw [← hR]
            have HT8 : Hid (TsI w.heap.size w w8 (.slice vo (prI c n i).length vc) (.slice zo ((seI c i).length + l.length) zc) (prI c n i) (seI c i ++ natsI l)) := HT7.out.low HSZ7.out hb8
            have HU8 : Hid (SlN w.heap.size w8 (.slice to R.length tc) (ints R)) := (SlN.own hou).mono HSZ7.out
            have HUB : Hid (0 < R.length → ∀ a k c', Value.slice to R.length tc = .slice (some a) k c' → (Value.slice zo ((seI c i).length + l.length) zc).ownBlock ≠ some a.block) := fun h0 a k c' e e2 => by
              obtain ⟨g3, cap3, hv3, hb3, _⟩ := hou.form h0
              rw [hv3] at e
              simp only [Value.slice.injEq, Option.some.injEq] at e
              obtain ⟨rfl, _, _⟩ := e
              have := HZB.out _ e2
              simp at this
              omega
            have HSZ8 : Hid (w.heap.size ≤ w8.heap.size) := HT8.out.bel.size
            obtain ⟨⟨vs, q1, q2, q3, q4⟩, _, _⟩ := HT8.out
            have Q2 : Hid (w8.ownsRow w.heap.size 26 1 (.slice vo (prI c n i).length vc) (prI c n i).length vs) := q2
            have HPS : Hid (∀ v' w5, w5.ownsRow w.heap.size 26 1 v' ((prI c n i).length + 1) (vs ++ [.slice to R.length tc]) → (w8.alloc (.cells #[.slice to R.length tc] 26)).grownBy w5 (Value.slice vo (prI c n i).length vc).ownBlock → TsI w.heap.size w w5 v' (.slice zo ((seI c i).length + l.length) zc) (prI c n i ++ [R]) (seI c i ++ natsI l)) := fun v' w5 h1 h2 => HT8.out.pushO HSZ8.out q1 q2 q3 q4 HU8.out HUB.out h1 h2
            clear q1 q2 q3 q4 hou hb8 hR HR7
            go_wp2_with (first | (at_builtin; refine wpList_append_own _ rfl _ _ 22 rfl w.heap.size 26 i0 (.slice none 0 0) 1 24 Try.underlying22 hi0 hz0 hz1 hz2 rfl (by decide) _ _ _ rfl (Q2.out.alloc _) ⟨w8.heap.size, 0, none⟩ 1 1 [.slice to R.length tc] rfl rfl (one_new _ _ _) (one_slice _ _ _) ?d3 ?d4 ?d5 ?_))
            case d3 => unfold maxLen; omega
            case d4 => omega
            case d5 => first | (have := HSZ8.out; simp; omega)
            intro v9 w9 ho9 hg9 _
            have HT9 : Hid (TsI w.heap.size w w9 v9 (.slice zo ((seI c i).length + l.length) zc) (prI c n (i + 1)) (seI c (i + 1))) := by
              have h := HPS.out v9 w9 ho9 hg9
              have e1 : prI c n (i + 1) = prI c n i ++ [R] := by
                unfold prI
                rw [HPT.out, HE.out, HRR.out, List.map_append]
                rfl
              have e2 : seI c (i + 1) = seI c i ++ natsI l := by
                unfold seI
                rw [HPT.out, HE.out, natsI_flat]
              show TsI _ _ _ _ _ _ _
              rw [e1, e2]
              exact h
            clear ho9 hg9 HPS
            go_wp2
            exact ⟨⟨i + 1, by omega, by go_num, HT9.out⟩, by simp [intOf]; omega⟩
    · have hie : i = n := by omega
      subst hie
      have hlt2 : ¬ (i : Int) < (i : Int) := by omega
      go_wp2
      go_ret
      exact ⟨_, rfl, HT.out.fr, HB.out⟩

end Go.Proofs.Ytkgljfnbaoncbaa
