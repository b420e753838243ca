import Derived.Test.YtgeajopenkkkaaaGreatSzA
import Derived.Test.YtgeajopenkkkaaaGreatSu4
import Derived.Test.YtgeajopenkkkaaaGreatHmA
import Derived.Test.YtgeajopenkkkaaaGreatRefY
import Derived.Test.YtgeajopenkkkaaaGreatRfY
import Derived.Test.YtgeajopenkkkaaaGreatRaA
import Derived.Test.YtgeajopenkkkaaaGreatEm0
import Derived.Test.YtgeajopenkkkaaaGreatRgI
import Derived.Laws.AppendOwnNone
import Derived.Sort.CutIn
/- The document's answer: the tiles. -/
namespace Go.Proofs.YtgeajopenkkkaaaGreat
open Go.RowKit Lin
attribute [local go_sem ↓] Go.wp_at_zero Go.wp_at_succ

theorem own_keepS {B n : Nat} {e : TypeId} {w w' : World} {v : Value} {xs : List Value} (h : w.ownsRow B e 1 v n xs) (hk : ∀ b, v.ownBlock = some b → w'.heap[b]? = w.heap[b]?) : w'.ownsRow B e 1 v n xs := by
  refine ⟨h.1, ?_⟩
  rcases h.2 with h2 | ⟨g, cap, cur, rfl, hb, hh, r⟩
  · exact Or.inl h2
  · exact Or.inr ⟨g, cap, cur, rfl, hb, (hk g rfl).trans hh, r⟩

theorem own_typS {B n : Nat} {e : TypeId} {w : World} {v : Value} {xs : List Value} (h : w.ownsRow B e 1 v n xs) : ∀ b, v.ownBlock = some b → B ≤ b ∧ b < w.heap.size ∧ ∃ cur, w.heap[b]? = some (.cells cur e (0, 0)) := by
  intro b hb
  refine ⟨(h.lt b hb).1, (h.lt b hb).2, ?_⟩
  rcases h.2 with ⟨h2, _⟩ | ⟨g, cap, cur, rfl, hbb, hh, r⟩
  · rw [h2] at hb; simp [Value.ownBlock] at hb
  · simp only [Value.ownBlock, Option.some.injEq] at hb
    subst hb
    exact ⟨cur, hh⟩

/-- Rows of an elder world, in a list of its own. -/
structure FrL (w1 wr : World) (v : Value) (m : List (List Int)) (vs : List Value) : Prop where
  len : vs.length = m.length
  own : wr.ownsRow w1.heap.size 22 1 v m.length vs
  sl : ∀ i, i < m.length → Sl 0 3 w1 (vs.getD i (.slice none 0 0)) (ints (m.getD i []))

theorem FrL.push {w1 wr w3 : World} {v v' u : Value} {m : List (List Int)} {vs : List Value} {zs : List Int} (h : FrL w1 wr v m vs) (hu : Sl 0 3 w1 u (ints zs)) (ho : w3.ownsRow w1.heap.size 22 1 v' (m.length + 1) (vs ++ [u])) : FrL w1 w3 v' (m ++ [zs]) (vs ++ [u]) := by
  refine ⟨by simp [h.len], by simpa using ho, fun i hi => ?_⟩
  by_cases hlt : i < m.length
  · have e1 : (vs ++ [u]).getD i (.slice none 0 0) = vs.getD i (.slice none 0 0) := by
      simp only [List.getD_eq_getElem?_getD]; rw [List.getElem?_append_left (by have := h.len; omega)]
    have e2 : (m ++ [zs]).getD i [] = m.getD i [] := by
      simp only [List.getD_eq_getElem?_getD]; rw [List.getElem?_append_left (by omega)]
    rw [e1, e2]
    exact h.sl i hlt
  · have hi' : i = m.length := by simp at hi; omega
    subst hi'
    have e1 : (vs ++ [u]).getD m.length (.slice none 0 0) = u := by rw [← h.len]; simp
    have e2 : (m ++ [zs]).getD m.length [] = zs := by simp
    rw [e1, e2]
    exact hu

theorem FrL.mat {w1 wr : World} {v : Value} {m : List (List Int)} {vs : List Value} (h : FrL w1 wr v m vs) (hb : Below w1.heap.size w1 wr) : Mat 0 22 3 wr v m :=
  ⟨vs, h.len, by have := h.own; rw [← h.len] at this; exact Sl.own this, fun i hi => (h.sl i hi).below hb (Nat.le_refl _)⟩

theorem pks_snocZ {C : List (List Int)} {cell : List Int} {k : Nat} (hk : k < cell.length) : pks C [] (cell.take (k + 1)) = pks C [] (cell.take k) ++ [C.getD (cell.getD k 0).toNat []] := by
  unfold pks
  rw [List.take_succ_eq_append_getElem hk, List.map_append]
  simp [hk]

theorem pks_lenZ (C : List (List Int)) (cell : List Int) : (pks C [] cell).length = cell.length := by simp [pks]

theorem Wys.sq {d : Nat} {ways : List (List Int)} (h : Wys d ways) {c : List Int} (hl : c.length = d) (hc : ∀ i, i < d → 0 ≤ c.getD i 0 ∧ c.getD i 0 < (ways.length : Int)) : Mx (pks ways [] c).length 60 (pks ways [] c) ∧ Sq (pks ways [] c).length 60 (pks ways [] c) ∧ (detL (pks ways [] c)).natAbs ≤ 1000000000 := by
  have hm : ∀ x ∈ pks ways [] c, x ∈ ways := pks_in fun q hq => by
    obtain ⟨i, hi, rfl⟩ := List.mem_iff_getElem.1 hq
    have := hc i (by omega)
    simpa [hi] using this
  have hln : (pks ways [] c).length = d := by rw [pks_lenZ, hl]
  have hmx := h.mx
  have h3 := h.d3
  have hmx2 : Mx (pks ways [] c).length 60 (pks ways [] c) := by
    rw [hln]
    exact ⟨fun r hr => hmx.row r (hm r hr), fun r hr => hmx.bd r (hm r hr), hmx.c5, hmx.c1, hmx.pos, hmx.small⟩
  have hsq : Sq (pks ways [] c).length 60 (pks ways [] c) := ⟨rfl, fun r hr => by rw [hmx2.row r hr]; exact Nat.le_refl _, fun r hr j hj => hmx2.bd r hr _ (getD_mem (by rw [hmx2.row r hr]; exact hj)), by rw [hln]; exact Nat.le_trans (fb_mono (by decide) h3) (by decide), by omega, by decide⟩
  refine ⟨hmx2, hsq, ?_⟩
  have hb := detL_bdS hsq
  rw [hln] at hb
  exact Nat.le_trans hb (Nat.le_trans (fb_mono (by decide) h3) (by decide))

theorem ext_ok {n d : Nat} {c : List Int} (h : c ∈ ext n d 0) : c.length = d ∧ ∀ i, i < d → 0 ≤ c.getD i 0 ∧ c.getD i 0 < (n : Int) := by
  have hc := chosen_ext.2 h
  exact ⟨chosen_row d n c hc, (chosen_mem d n c hc).1⟩

theorem tlS_len (ways l : List (List Int)) : (tlS ways l).length ≤ l.length := by
  unfold tlS
  exact List.length_filter_le _ _

set_option maxRecDepth 100000 in
set_option maxHeartbeats 3200000 in
theorem tilesOf_any (d : Nat) (ways : List (List Int)) (v : Value) (w : World) (hv : Mat w.heap.size 22 3 w v ways) (h : Wys d ways) :
    Calls Tryz.prog 11 #[.int .i64 d, v] w fun e w' => ∃ (xo : Option Addr) (xc : Nat) (yo : Option Addr) (yc : Nat), e = .returned (.tuple #[.slice xo (tlS ways (ext ways.length d 0)).length xc, .slice yo (tlS ways (ext ways.length d 0)).length yc]) ∧ Mat 0 22 3 w' (.slice xo (tlS ways (ext ways.length d 0)).length xc) (tlS ways (ext ways.length d 0)) ∧ Sl 0 3 w' (.slice yo (tlS ways (ext ways.length d 0)).length yc) (ints ((tlS ways (ext ways.length d 0)).map (tlA ways))) ∧ Below w.heap.size w w' := by
  obtain ⟨i0, hi, hz0, hz1, hz2⟩ := info_parts Tryz.info22
  obtain ⟨i3, hi3, hz30, hz31, hz32⟩ := info_parts Tryz.info3
  obtain ⟨vo, vc, rfl, _, _⟩ := mat_open hv
  have h1 := h.d1
  have h3 := h.d3
  have hn5 := h.n5
  have HM : Hid (∀ X, Below w.heap.size w X → Mat w.heap.size 22 3 X (.slice vo ways.length vc) ways) := fun X hX => hv.below hX (Nat.le_refl _)
  have HH : Hid (Wys d ways) := h
  have K1 : Hid (Calls Tryz.prog 24 #[.int .i64 ways.length, .int .i64 d] w fun e w' => ∃ (co : Option Addr) (cl cc : Nat), e = .returned (.slice co cl cc) ∧ (Mat w'.heap.size 22 3 w' (.slice co cl cc) (chosenL d ways.length) ∧ Below w.heap.size w w')) := by
    refine (chosen_any d (by omega) ways.length w (by omega)).mono ?_
    rintro e w' ⟨x, rfl, hf, hb⟩
    have hM := fr_mat0S hf
    obtain ⟨co, cc, rfl, _, _⟩ := mat_open hM
    exact ⟨co, _, cc, rfl, hM.more (Nat.zero_le _), hb⟩
  have K2 : Hid (∀ X u, Mat X.heap.size 22 3 X u (chosenL d ways.length) → Calls Tryz.prog 22 #[u] X fun e w' => ∃ (xo : Option Addr) (xc : Nat), e = .returned (.slice xo (ext ways.length d 0).length xc) ∧ (Mat 0 22 3 w' (.slice xo (ext ways.length d 0).length xc) (ext ways.length d 0) ∧ Below X.heap.size X w')) := fun X u hu => by
    refine (sortR_any X.heap.size (chosenL d ways.length) u X hu (Nat.le_trans (chosen_len d ways.length (by omega)) (Nat.le_trans (Nat.pow_le_pow_right (by decide) h3) (by decide))) (fun r hr => by rw [chosen_row d ways.length r hr]; omega)).mono ?_
    rintro e w' ⟨x, s, rfl, hf, ha, hm, hb⟩
    have hs := sort_chosen ha hm
    subst hs
    have hM := fr_mat0S hf
    obtain ⟨xo, xc, rfl, _, _⟩ := mat_open hM
    exact ⟨xo, xc, rfl, hM, hb⟩
  have HLE : Hid ((ext ways.length d 0).length ≤ 300000) := by
    have e : ext ways.length d 0 = ext ways.length d 0 := rfl
    show _ ≤ _
    have := nodup_lenL (ext ways.length d 0) (chosenL d ways.length) (ext_asc d ways.length 0).nodup fun r hr => chosen_ext.2 hr
    have h2 := chosen_len d ways.length (by omega)
    have h4 : 64 ^ d ≤ 64 ^ 3 := Nat.pow_le_pow_right (by decide) h3
    omega
  have HEX : Hid (∀ c ∈ ext ways.length d 0, c.length = d ∧ ∀ i, i < d → 0 ≤ c.getD i 0 ∧ c.getD i 0 < (ways.length : Int)) := fun c hc => ext_ok hc
  clear hv h
  obtain ⟨l, hl⟩ : ∃ l, l = ext ways.length d 0 := ⟨_, rfl⟩
  rw [← hl] at K2 HLE HEX ⊢
  clear hl
  have hll := HLE.out
  go_enter Tryz.func11, Tryz.ntmps11
  go_wp2_with fail
  refine K1.out.mono ?_
  rintro e w0 ⟨co, cl, cc, rfl, hM0, hb0⟩
  have HK2 := K2.out w0 _ hM0
  have HB0 : Hid (Below w.heap.size w w0) := hb0
  clear K1 K2 hM0 hb0
  go_wp2_with fail
  refine HK2.mono ?_
  rintro e w1 ⟨lo, lc, rfl, hM1, hb1⟩
  have HB1 : Hid (Below w.heap.size w w1) := HB0.out.trans (hb1.mono HB0.out.size)
  have HM1 : Hid (Mat 0 22 3 w1 (.slice lo l.length lc) l) := hM1
  clear HK2 hM1 hb1
  go_wp2
  go_loopw [7, 8, 9] (fun x y i wr => ∃ (k : Nat) (xo : Option Addr) (xc : Nat) (yo : Option Addr) (yc : Nat) (vs : List Value), k ≤ l.length ∧ i = .int .i64 (k : Int) ∧ x = .slice xo (tlS ways (l.take k)).length xc ∧ y = .slice yo (tlS ways (l.take k)).length yc ∧ FrL w1 wr (.slice xo (tlS ways (l.take k)).length xc) (tlS ways (l.take k)) vs ∧ wr.ownsRow w1.heap.size 3 1 (.slice yo (tlS ways (l.take k)).length yc) (tlS ways (l.take k)).length (ints ((tlS ways (l.take k)).map (tlA ways))) ∧ Below w1.heap.size w1 wr) (fun _ _ i _ => l.length - (intOf i).toNat)
  case atStart => exact ⟨0, none, 0, none, 0, [], Nat.zero_le _, rfl, rfl, rfl, ⟨rfl, World.ownsRow_nil _ _ _ _, fun i hi => absurd hi (by simp [tlS])⟩, World.ownsRow_nil _ _ _ _, Below.refl _ _⟩
  case round =>
    obtain ⟨k, xo, xc, yo, yc, vs, hk, rfl, rfl, rfl, hfl, hoy, hbr⟩ := hrel
    obtain ⟨wa, hwa⟩ : ∃ wa, wa = wr := ⟨wr, rfl⟩
    rw [← hwa] at hfl hoy hbr ⊢
    clear hwa wr
    by_cases hlt : k < l.length
    · have hmem : l.getD k [] ∈ l := by simp [hlt]
      obtain ⟨hcl, hcr⟩ := HEX.out _ hmem
      obtain ⟨lb, lf, lcp, rv, hs, _, hcc, hrv⟩ := mat_cell HM1.out hlt
      simp only [Value.slice.injEq] at hs
      obtain ⟨rfl, hxx, rfl⟩ := hs
      clear hxx
      obtain ⟨ca, ccp, hce, _, _⟩ := sl_open hrv
      rw [hcl] at hce
      subst hce
      obtain ⟨hMx, hSq, hDB⟩ := HH.out.sq hcl hcr
      have HTS : Hid (tlS ways (l.take (k + 1)) = tlS ways (l.take k) ++ (if detL (pks ways [] (l.getD k [])) ≠ 0 then [l.getD k []] else [])) := tlS_snoc hlt
      have HTA : Hid (tlA ways (l.getD k []) = ((detL (pks ways [] (l.getD k []))).natAbs : Int)) := rfl
      have HCV : Hid (Sl 0 3 w1 (.slice ca d ccp) (ints (l.getD k []))) := hrv
      have HCC : Hid (∀ X, Below w1.heap.size w1 X → X.cell? ⟨lb, lf + k, none⟩ = some (.slice ca d ccp)) := fun X hX => (hX.cell (lt_of_cell hcc)).trans hcc
      have HCX : Hid (∀ X j, Below w1.heap.size w1 X → j < d → ∃ xb xf cb cf zo zc, ca = some ⟨xb, xf, none⟩ ∧ vo = some ⟨cb, cf, none⟩ ∧ X.cell? ⟨xb, xf + j, none⟩ = some (.int .i64 (((l.getD k []).getD j 0).toNat : Int)) ∧ ((l.getD k []).getD j 0).toNat < ways.length ∧ X.cell? ⟨cb, cf + ((l.getD k []).getD j 0).toNat, none⟩ = some (.slice zo d zc) ∧ Sl w.heap.size 3 X (.slice zo d zc) (ints (ways.getD ((l.getD k []).getD j 0).toNat []))) := fun X j hX hj => by
        obtain ⟨xb, xf, cp, hs, _, hccx⟩ := sl_cell (hrv.below hX (Nat.le_refl _)) (k := j) (by rw [hcl]; exact hj)
        simp only [Value.slice.injEq] at hs
        have hx := hcr j hj
        have hlt2 : ((l.getD k []).getD j 0).toNat < ways.length := by omega
        obtain ⟨cb, cf, qcp, q1, hqs, _, hqc, hq1⟩ := mat_cell (HM.out X (HB1.out.trans (hX.mono HB1.out.size))) hlt2
        simp only [Value.slice.injEq, true_and] at hqs
        obtain ⟨zo, zc, rfl, _, _⟩ := sl_open hq1
        have hkm : ways.getD ((l.getD k []).getD j 0).toNat [] ∈ ways := by rw [List.getD_eq_getElem?_getD, List.getElem?_eq_getElem hlt2]; exact List.getElem_mem _
        rw [(HH.out.box _ hkm).1] at hqc hq1
        refine ⟨xb, xf, cb, cf, zo, zc, hs.1, hqs.1, ?_, hlt2, hqc, hq1⟩
        rw [hccx, Int.toNat_of_nonneg hx.1]
      have HDT : Hid (∀ X u, Mat X.heap.size 22 3 X u (pks ways [] (l.getD k [])) → Calls Tryz.prog 25 #[u] X fun e w' => e = .returned (.int .i64 (detL (pks ways [] (l.getD k [])))) ∧ Below X.heap.size X w') := fun X u hu => det_any 60 X.heap.size _ u X hSq hu
      have HSN : Hid (∀ j, j < d → pks ways [] ((l.getD k []).take (j + 1)) = pks ways [] ((l.getD k []).take j) ++ [ways.getD ((l.getD k []).getD j 0).toNat []]) := fun j hj => pks_snocZ (by rw [hcl]; exact hj)
      have HPL : Hid (∀ j, j ≤ d → (pks ways [] ((l.getD k []).take j)).length = j) := fun j hj => by rw [pks_lenZ, List.length_take, hcl]; omega
      have HTK : Hid ((l.getD k []).take d = l.getD k []) := List.take_of_length_le (by omega)
      have HFL : Hid (FrL w1 wa (.slice xo (tlS ways (l.take k)).length xc) (tlS ways (l.take k)) vs) := hfl
      have HOY : Hid (wa.ownsRow w1.heap.size 3 1 (.slice yo (tlS ways (l.take k)).length yc) (tlS ways (l.take k)).length (ints ((tlS ways (l.take k)).map (tlA ways)))) := hoy
      have HBA : Hid (Below w1.heap.size w1 wa) := hbr
      have hol : (tlS ways (l.take k)).length ≤ 300000 := Nat.le_trans (tlS_len _ _) (by rw [List.length_take]; omega)
      clear hrv hfl hoy hbr hmem hcl hcr hMx hSq hcc
      generalize l.getD k [] = c at *
      generalize hT : tlS ways (l.take k) = T at *
      generalize detL (pks ways [] c) = D at *
      have hkI : (k : Int) < (l.length : Int) := by omega
      have hkI0 : (0 : Int) ≤ (k : Int) := by omega
      clear hT
      go_wp2
      go_loopw [10, 11] (fun x jv wq => ∃ (j : Nat) (ao : Option Addr) (ac : Nat), j ≤ d ∧ jv = .int .i64 (j : Int) ∧ x = .slice ao j ac ∧ Rws wa.heap.size 22 3 wq (.slice ao j ac) (pks ways [] (c.take j)) ∧ Below wa.heap.size wa wq) (fun _ jv _ => d - (intOf jv).toNat)
      case atStart => exact ⟨0, none, 0, Nat.zero_le _, rfl, rfl, Rws.nil _ _ _ _, Below.refl _ _⟩
      case round =>
        obtain ⟨j, ao, ac, hj, rfl, rfl, hfr, hbr⟩ := hrel
        have HF : Hid (Rws wa.heap.size 22 3 wr (.slice ao j ac) (pks ways [] (c.take j))) := hfr
        have HBR : Hid (Below wa.heap.size wa wr) := hbr
        have HB1r : Hid (Below w1.heap.size w1 wr) := HBA.out.trans (hbr.mono HBA.out.size)
        have HTL : Hid ((pks ways [] (c.take j)).length = j) := HPL.out j hj
        clear hfr hbr
        by_cases hjl : j < d
        · obtain ⟨xb, xf, cb, cf, zo, zc, hxo, hco, hx1, hx2, hx3, hx4⟩ := HCX.out wr j HB1r.out hjl
          have hx0 := HCC.out wr HB1r.out
          have HTS2 : Hid (pks ways [] (c.take (j + 1)) = pks ways [] (c.take j) ++ [ways.getD (c.getD j 0).toNat []]) := HSN.out j hjl
          obtain ⟨us, g1, g2, g3⟩ := HF.out
          rw [HTL.out] at g1 g2 g3
          have G1 : Hid (us.length = j) := g1
          have G2 : Hid (wr.ownsRow wa.heap.size 22 1 (.slice ao j ac) j us) := g2
          have G3 : Hid (∀ i, i < j → Sl wa.heap.size 3 wr (us.getD i (.slice none 0 0)) (ints ((pks ways [] (c.take j)).getD i []))) := g3
          have hjI : (j : Int) < (d : Int) := by omega
          have hjI0 : (0 : Int) ≤ (j : Int) := by omega
          have hszr := HBR.out.size
          have hx2I : ((c.getD j 0).toNat : Int) < (ways.length : Int) := by omega
          have HY : Hid (Sl wa.heap.size 3 wr (.slice zo d zc) (ints (ways.getD (c.getD j 0).toNat []))) := hx4.more (Nat.le_trans HB1.out.size HBA.out.size)
          subst hxo hco
          clear g1 g2 g3 hx4 HF
          generalize (c.getD j 0).toNat = q at *
          go_wp2_with (first | (at_builtin; refine wpList_append_own _ rfl _ _ 25 rfl wa.heap.size 22 i0 (.slice none 0 0) 1 24 Tryz.underlying25 hi hz0 hz1 hz2 rfl (by decide) _ _ _ rfl (G2.out.alloc _) ⟨wr.heap.size, 0, none⟩ 1 1 [.slice zo d zc] rfl rfl (one_new _ _ _) (one_slice _ _ _) ?d3 ?d4 ?d5 ?_))
          case d3 => unfold maxLen; omega
          case d4 => omega
          case d5 => first | exact hszr | omega | (simp; omega)
          intro v' w7 ho7 hg7 _
          obtain ⟨vo', vc', hv7⟩ := owns_form ho7
          subst hv7
          have R1 : Hid (Rws wa.heap.size 22 3 w7 (.slice vo' (j + 1) vc') (pks ways [] (c.take (j + 1)))) := by
            have hp := Rws.push (e2 := 22) (e1 := 3) (m := pks ways [] (c.take j)) (u := .slice zo d zc) (zs := ways.getD q []) (by decide) (by rw [HTL.out]; exact G1.out) (by rw [HTL.out]; exact G2.out.alloc _)
              (fun i hi => (G3.out i (by rw [HTL.out] at hi; exact hi)).alloc _) (HY.out.alloc _) (by rw [HTL.out]; exact ho7) hg7
            rw [← HTS2.out] at hp
            exact hp
          have R2 : Hid (Below wa.heap.size wa w7) := (HBR.out.alloc hszr _).grown hg7 (by simp; omega) (fun x hx => (G2.out.lt x hx).1)
          clear ho7 hg7
          go_wp2
          exact ⟨⟨j + 1, vo', vc', by omega, by go_num, rfl, R1.out, R2.out⟩, by simp [intOf]; omega⟩
        · have hje : j = d := by omega
          subst hje
          have HDD := HDT.out wr _ (by have hh := HF.out; rw [HTK.out] at hh; exact hh.mat HBR.out.size)
          clear HF HCX HDT HSN HPL
          go_wp2_with fail
          refine HDD.mono ?_
          rintro e w2 ⟨rfl, hb2⟩
          have HBA2 : Hid (Below wa.heap.size wa w2) := HBR.out.trans (hb2.mono HBR.out.size)
          have HB12 : Hid (Below w1.heap.size w1 w2) := HB1r.out.trans (hb2.mono HB1r.out.size)
          have HF2 : Hid (w2.ownsRow w1.heap.size 22 1 (.slice xo T.length xc) T.length vs) := owns_below HFL.out.own HBA2.out (Nat.le_refl _)
          have HY2 : Hid (w2.ownsRow w1.heap.size 3 1 (.slice yo T.length yc) T.length (ints (T.map (tlA ways)))) := owns_below HOY.out HBA2.out (Nat.le_refl _)
          have hsz2 := HB12.out.size
          have hc2 := HCC.out w2 HB12.out
          clear hb2 HDD
          by_cases hD : D = 0
          · subst hD
            have hTS : tlS ways (l.take (k + 1)) = T := by
              have := HTS.out
              rw [if_neg (by simp), List.append_nil] at this
              exact this
            have R1 : Hid (FrL w1 w2 (.slice xo T.length xc) T vs) := ⟨HFL.out.len, HF2.out, HFL.out.sl⟩
            have HTE : Hid (tlS ways (l.take (k + 1)) = T) := hTS
            clear hTS HTS HTA
            go_wp2
            exact ⟨⟨k + 1, xo, xc, yo, yc, vs, hlt, by go_num, by rw [HTE.out], by rw [HTE.out], by rw [HTE.out]; exact R1.out, by rw [HTE.out]; exact HY2.out, HB12.out⟩, by simp [intOf]; omega⟩
          · have hTS : tlS ways (l.take (k + 1)) = T ++ [c] := by
              have := HTS.out
              rw [if_pos hD] at this
              exact this
            obtain ⟨A, hA⟩ : ∃ A : Int, A = (D.natAbs : Int) := ⟨_, rfl⟩
            have HAA : Hid (A = tlA ways c) := by
              show _ = _
              rw [HTA.out]; exact hA
            have hA0 : 0 < A := by omega
            have hA1 : A ≤ 1000000000 := by omega
            have HTE : Hid (tlS ways (l.take (k + 1)) = T ++ [c]) := hTS
            have HTL2 : Hid ((tlS ways (l.take (k + 1))).length = T.length + 1) := by
              show _ = _
              rw [hTS]; simp
            have HFIN : Hid (∀ v' w3 u' w5, w3.ownsRow w1.heap.size 22 1 v' (T.length + 1) (vs ++ [.slice ca j ccp]) → (w2.alloc (.cells #[.slice ca j ccp] 22)).grownBy w3 (Value.slice xo T.length xc).ownBlock → w5.ownsRow w1.heap.size 3 1 u' (T.length + 1) (ints (T.map (tlA ways)) ++ [.int .i64 A]) → (w3.alloc (.cells #[.int .i64 A] 3)).grownBy w5 (Value.slice yo T.length yc).ownBlock → (w3.ownsRow w1.heap.size 3 1 (.slice yo T.length yc) T.length (ints (T.map (tlA ways)))) → Below w1.heap.size w1 w5 ∧ FrL w1 w5 v' (tlS ways (l.take (k + 1))) (vs ++ [.slice ca j ccp]) ∧ w5.ownsRow w1.heap.size 3 1 u' (T.length + 1) (ints ((tlS ways (l.take (k + 1))).map (tlA ways)))) := fun v' w3 u' w5 ho hg ho5 hg5 hy3 => by
              have hb3 : Below w1.heap.size w1 w3 := (HB12.out.alloc hsz2 _).grown hg (by simp; omega) (fun x hx => (HF2.out.lt x hx).1)
              have hb5 : Below w1.heap.size w1 w5 := (hb3.alloc hb3.size _).grown hg5 (by simp; have := hb3.size; omega) (fun x hx => (hy3.lt x hx).1)
              refine ⟨hb5, ?_, ?_⟩
              · have hp := FrL.push (w3 := w3) (v' := v') (⟨HFL.out.len, HF2.out, HFL.out.sl⟩ : FrL w1 w2 (.slice xo T.length xc) T vs) HCV.out ho
                rw [HTE.out]
                refine ⟨hp.len, own_keepS hp.own fun b hb => ?_, hp.sl⟩
                obtain ⟨_, q2, cur, q3⟩ := own_typS hp.own b hb
                refine (hg5.block b (by simp; omega) fun e => ?_).trans (Below.heap_alloc _ _ _ q2)
                obtain ⟨_, _, cur2, q4⟩ := own_typS hy3 b e.symm
                rw [q3] at q4
                simp at q4
              · rw [HTE.out, List.map_append]
                have e1 : ints (T.map (tlA ways) ++ [c].map (tlA ways)) = ints (T.map (tlA ways)) ++ [.int .i64 A] := by rw [HAA.out]; simp [ints]
                rw [e1]
                exact ho5
            have HKY : Hid (∀ w3, (w2.alloc (.cells #[.slice ca j ccp] 22)).grownBy w3 (Value.slice xo T.length xc).ownBlock → w3.ownsRow w1.heap.size 3 1 (.slice yo T.length yc) T.length (ints (T.map (tlA ways))) ∧ w1.heap.size ≤ w3.heap.size) := fun w3 hg => by
              refine ⟨own_keepS HY2.out fun b hb => ?_, by have := hg.size; simp at this; omega⟩
              obtain ⟨_, q2, cur, q3⟩ := own_typS HY2.out b hb
              refine (hg.block b (by simp; omega) fun e => ?_).trans (Below.heap_alloc _ _ _ q2)
              obtain ⟨_, _, cur2, q4⟩ := own_typS HF2.out b e.symm
              rw [q3] at q4
              simp at q4
            clear hTS HTS HTA HTE HFL HOY HTK
            by_cases hneg : D < 0
            · have hw1 : IntKind.wrap .i64 (-D) = A := by rw [IntKind.wrap_i64]; omega
              clear hA HAA
              go_wp2_with (first | (at_builtin; refine wpList_append_own _ rfl _ _ 25 rfl w1.heap.size 22 i0 (.slice none 0 0) 1 24 Tryz.underlying25 hi hz0 hz1 hz2 rfl (by decide) _ _ _ rfl (HF2.out.alloc _) ⟨w2.heap.size, 0, none⟩ 1 1 [.slice ca j ccp] rfl rfl (one_new _ _ _) (one_slice _ _ _) ?d3 ?d4 ?d5 ?_))
              case d3 => unfold maxLen; omega
              case d4 => omega
              case d5 => first | exact hsz2 | omega | (simp; omega)
              intro v' w3 ho hg _
              obtain ⟨no, nc, hnv⟩ := owns_form ho
              subst hnv
              obtain ⟨hy3, hsz3⟩ := HKY.out w3 hg
              have HO3 : Hid (w3.ownsRow w1.heap.size 22 1 (.slice no (T.length + 1) nc) (T.length + 1) (vs ++ [.slice ca j ccp])) := ho
              have HG3 : Hid ((w2.alloc (.cells #[.slice ca j ccp] 22)).grownBy w3 (Value.slice xo T.length xc).ownBlock) := hg
              have HY3 : Hid (w3.ownsRow w1.heap.size 3 1 (.slice yo T.length yc) T.length (ints (T.map (tlA ways)))) := hy3
              clear ho hg hy3 hc2
              go_wp2_with (first | (at_builtin; refine wpList_append_own _ rfl _ _ 22 rfl w1.heap.size 3 i3 (.int .i64 0) 1 8 Tryz.underlying22 hi3 hz30 hz31 hz32 rfl (by decide) _ _ _ rfl (HY3.out.alloc _) ⟨w3.heap.size, 0, none⟩ 1 1 [.int .i64 A] rfl rfl (one_new _ _ _) (one_int _) ?e3 ?e4 ?e5 ?_))
              case e3 => unfold maxLen; omega
              case e4 => omega
              case e5 => first | exact hsz3 | omega | (simp; omega)
              intro u' w5 ho5 hg5 _
              obtain ⟨mo, mc, hmv⟩ := owns_form ho5
              subst hmv
              obtain ⟨r1, r2, r3⟩ := HFIN.out _ w3 _ w5 HO3.out HG3.out ho5 hg5 HY3.out
              have R1 : Hid (Below w1.heap.size w1 w5) := r1
              have R2 : Hid (FrL w1 w5 (.slice no (T.length + 1) nc) (tlS ways (l.take (k + 1))) (vs ++ [.slice ca j ccp])) := r2
              have R3 : Hid (w5.ownsRow w1.heap.size 3 1 (.slice mo (T.length + 1) mc) (T.length + 1) (ints ((tlS ways (l.take (k + 1))).map (tlA ways)))) := r3
              clear r1 r2 r3 ho5 hg5
              go_wp2
              exact ⟨⟨k + 1, no, nc, mo, mc, _, hlt, by go_num, by rw [HTL2.out], by rw [HTL2.out], by rw [HTL2.out]; exact R2.out, by rw [HTL2.out]; exact R3.out, R1.out⟩, by simp [intOf]; omega⟩
            · have hAD : A = D := by omega
              subst hAD
              clear hA HAA
              go_wp2_with (first | (at_builtin; refine wpList_append_own _ rfl _ _ 25 rfl w1.heap.size 22 i0 (.slice none 0 0) 1 24 Tryz.underlying25 hi hz0 hz1 hz2 rfl (by decide) _ _ _ rfl (HF2.out.alloc _) ⟨w2.heap.size, 0, none⟩ 1 1 [.slice ca j ccp] rfl rfl (one_new _ _ _) (one_slice _ _ _) ?d3 ?d4 ?d5 ?_))
              case d3 => unfold maxLen; omega
              case d4 => omega
              case d5 => first | exact hsz2 | omega | (simp; omega)
              intro v' w3 ho hg _
              obtain ⟨no, nc, hnv⟩ := owns_form ho
              subst hnv
              obtain ⟨hy3, hsz3⟩ := HKY.out w3 hg
              have HO3 : Hid (w3.ownsRow w1.heap.size 22 1 (.slice no (T.length + 1) nc) (T.length + 1) (vs ++ [.slice ca j ccp])) := ho
              have HG3 : Hid ((w2.alloc (.cells #[.slice ca j ccp] 22)).grownBy w3 (Value.slice xo T.length xc).ownBlock) := hg
              have HY3 : Hid (w3.ownsRow w1.heap.size 3 1 (.slice yo T.length yc) T.length (ints (T.map (tlA ways)))) := hy3
              clear ho hg hy3 hc2
              go_wp2_with (first | (at_builtin; refine wpList_append_own _ rfl _ _ 22 rfl w1.heap.size 3 i3 (.int .i64 0) 1 8 Tryz.underlying22 hi3 hz30 hz31 hz32 rfl (by decide) _ _ _ rfl (HY3.out.alloc _) ⟨w3.heap.size, 0, none⟩ 1 1 [.int .i64 A] rfl rfl (one_new _ _ _) (one_int _) ?e3 ?e4 ?e5 ?_))
              case e3 => unfold maxLen; omega
              case e4 => omega
              case e5 => first | exact hsz3 | omega | (simp; omega)
              intro u' w5 ho5 hg5 _
              obtain ⟨mo, mc, hmv⟩ := owns_form ho5
              subst hmv
              obtain ⟨r1, r2, r3⟩ := HFIN.out _ w3 _ w5 HO3.out HG3.out ho5 hg5 HY3.out
              have R1 : Hid (Below w1.heap.size w1 w5) := r1
              have R2 : Hid (FrL w1 w5 (.slice no (T.length + 1) nc) (tlS ways (l.take (k + 1))) (vs ++ [.slice ca j ccp])) := r2
              have R3 : Hid (w5.ownsRow w1.heap.size 3 1 (.slice mo (T.length + 1) mc) (T.length + 1) (ints ((tlS ways (l.take (k + 1))).map (tlA ways)))) := r3
              clear r1 r2 r3 ho5 hg5
              go_wp2
              exact ⟨⟨k + 1, no, nc, mo, mc, _, hlt, by go_num, by rw [HTL2.out], by rw [HTL2.out], by rw [HTL2.out]; exact R2.out, by rw [HTL2.out]; exact R3.out, R1.out⟩, by simp [intOf]; omega⟩
    · have hte : l.take k = l := List.take_of_length_le (by omega)
      rw [hte] at hfl hoy ⊢
      have HFM : Hid (Mat 0 22 3 wa (.slice xo (tlS ways l).length xc) (tlS ways l)) := hfl.mat hbr
      have HSM : Hid (Sl 0 3 wa (.slice yo (tlS ways l).length yc) (ints ((tlS ways l).map (tlA ways)))) := Sl.own hoy
      have HBF : Hid (Below w.heap.size w wa) := HB1.out.trans (hbr.mono HB1.out.size)
      clear hfl hoy hbr hte
      go_wp2
      go_ret2
      exact ⟨xo, xc, yo, yc, rfl, HFM.out, HSM.out, HBF.out⟩

end Go.Proofs.YtgeajopenkkkaaaGreat

/- sum.Tiles, between the choices: two lists that grow. -/
namespace Go.Proofs.YtgeajopenkkkaaaGreat
open Go.RowKit Lin

/-- A list of numbers that lies off the blocks of S. -/
structure IwO (S : Nat → Prop) (B : Nat) (W : World) (u : Value) (l : List Int) : Prop where
  own : W.ownsRow B 3 1 u l.length (ints l)
  off : ∀ g, u.ownBlock = some g → ¬ S g

theorem IwO.keep {S S' : Nat → Prop} {B : Nat} {W W' : World} {u : Value} {l : List Int} (h : IwO S B W u l) (hc : ∀ b, b < W.heap.size → ¬ S b → W'.heap[b]? = W.heap[b]?) (hs : ∀ b, S' b → S b ∨ W.heap.size ≤ b) : IwO S' B W' u l := by
  refine ⟨own_keepS h.own fun b hb => hc b (h.own.lt b hb).2 (h.off b hb), fun g hg hx => ?_⟩
  rcases hs g hx with h1 | h1
  · exact h.off g hg h1
  · have := (h.own.lt g hg).2; omega

def SU (S : Nat → Prop) (u : Value) : Nat → Prop := fun b => S b ∨ u.ownBlock = some b

/-- Both boxes and both lists. -/
structure TwoL (w : World) (B : Nat) (S : Nat → Prop) (W : World) (v : Value) (vs : List Value) (u : Value) (m : List (List Int)) (l : List Int) : Prop where
  b1 : W.heap[w.heap.size + 1]? = some (.cells #[v] 25 (0, 0))
  b2 : W.heap[w.heap.size + 2]? = some (.cells #[u] 22 (0, 0))
  fr : FrO (SU S u) B W v m vs
  iw : IwO S B W u l

theorem TwoL.keep {w W W' : World} {B : Nat} {S S' : Nat → Prop} {v u : Value} {vs : List Value} {m : List (List Int)} {l : List Int} (h : TwoL w B S W v vs u m l) (h1 : ¬ S (w.heap.size + 1)) (h2 : ¬ S (w.heap.size + 2)) (hc : ∀ b, b < W.heap.size → ¬ S b → W'.heap[b]? = W.heap[b]?) (hs : ∀ b, S' b → S b ∨ W.heap.size ≤ b) : TwoL w B S' W' v vs u m l :=
  ⟨(hc _ (Array.getElem?_eq_some_iff.1 h.b1).1 h1).trans h.b1, (hc _ (Array.getElem?_eq_some_iff.1 h.b2).1 h2).trans h.b2,
   h.fr.keep (fun b hb hn => hc b hb fun hx => hn (.inl hx)) (fun b hb => by
    rcases hb with hb | hb
    · rcases hs b hb with hx | hx
      · exact .inl (.inl hx)
      · exact .inr hx
    · exact .inl (.inr hb)), h.iw.keep hc hs⟩

/-- One row more. -/
theorem TwoL.row {w W w8 : World} {B : Nat} {S : Nat → Prop} {v u v' cv : Value} {vs : List Value} {m : List (List Int)} {l c : List Int} (h : TwoL w B S W v vs u m l) (hB : w.heap.size + 3 ≤ B) (hBW : B ≤ W.heap.size) (hS : ∀ b, S b → b < W.heap.size)
    (hcv : Sl 0 3 W cv (ints c)) (hun : 0 < c.length → ∃ a n k, cv = .slice (some a) n k ∧ ¬ SU S u a.block)
    (ho : w8.ownsRow B 22 1 v' (m.length + 1) (vs ++ [cv])) (hg : (W.alloc (.cells #[cv] 22)).grownBy w8 v.ownBlock) (hat : v'.ownBlock = v.ownBlock ∨ v'.ownBlock = some (W.heap.size + 1)) :
    w8.heap[w.heap.size + 1]? = some (.cells #[v] 25 (0, 0)) ∧ TwoL w B S (w8.setCell ⟨w.heap.size + 1, 0, none⟩ v') v' (vs ++ [cv]) u (m ++ [c]) l ∧ (∀ b, b < W.heap.size → b ≠ w.heap.size + 1 → v.ownBlock ≠ some b → (w8.setCell ⟨w.heap.size + 1, 0, none⟩ v').heap[b]? = W.heap[b]?) ∧ W.heap.size ≤ (w8.setCell ⟨w.heap.size + 1, 0, none⟩ v').heap.size := by
  have hblk : ∀ b, b < W.heap.size → v.ownBlock ≠ some b → w8.heap[b]? = W.heap[b]? := fun b hb hne =>
    (hg.block b (by simp; omega) (fun e => hne e.symm)).trans (Below.heap_alloc _ _ _ hb)
  have hvB : ∀ g, v.ownBlock = some g → B ≤ g := fun g hg1 => (h.fr.own.lt g hg1).1
  have huB : ∀ g, u.ownBlock = some g → B ≤ g ∧ g < W.heap.size := fun g hg1 => h.iw.own.lt g hg1
  have hg8 := hg.size
  simp only [World.size_alloc] at hg8
  have h8 : w8.heap[w.heap.size + 1]? = some (.cells #[v] 25 (0, 0)) := (hblk _ (by omega) fun e => by have := hvB _ e; omega).trans h.b1
  have hset : ∀ b, b ≠ w.heap.size + 1 → (w8.setCell ⟨w.heap.size + 1, 0, none⟩ v').heap[b]? = w8.heap[b]? := fun b hb => Below.heap_setCell _ _ _ _ hb
  refine ⟨h8, ⟨set_one h8, ?_, ?_, ?_⟩, fun b hb hn hv => (hset b hn).trans (hblk b hb hv), by simp [World.setCell]; omega⟩
  · rw [hset _ (by omega)]
    exact (hblk _ (by omega) fun e => by have := hvB _ e; omega).trans h.b2
  · have hFR : FrO (SU S u) B (W.alloc (.cells #[cv] 22)) v m vs := h.fr.keep (fun b hb _ => Below.heap_alloc _ _ _ hb) (fun b hb => .inl hb)
    have hpush := hFR.push (u := cv) (zs := c) (hcv.alloc _) hun ho hg (fun g hg1 hx => by
      rcases hat with h1 | h1
      · rw [h1] at hg1; exact h.fr.off g hg1 hx
      · rw [h1] at hg1
        simp only [Option.some.injEq] at hg1
        rcases hx with hx | hx
        · have := hS g hx; omega
        · have := (huB g hx).2; omega)
    exact hpush.set (b := w.heap.size + 1) (j := 0) (u := v') (by omega) h8 (by decide)
  · refine ⟨own_keepS h.iw.own fun b hb => ?_, h.iw.off⟩
    obtain ⟨q1, q2, cur, q3⟩ := own_typS h.iw.own b hb
    rw [hset b (by omega)]
    refine hblk b q2 fun e => ?_
    obtain ⟨_, _, cur2, q4⟩ := own_typS h.fr.own b e
    rw [q3] at q4
    simp at q4

/-- One number more. -/
theorem TwoL.num {w W w8 : World} {B : Nat} {S : Nat → Prop} {v u u' : Value} {vs : List Value} {m : List (List Int)} {l : List Int} {z : Int} (h : TwoL w B S W v vs u m l) (hB : w.heap.size + 3 ≤ B) (hBW : B ≤ W.heap.size) (hS : ∀ b, S b → b < W.heap.size)
    (ho : w8.ownsRow B 3 1 u' (l.length + 1) (ints l ++ [.int .i64 z])) (hg : (W.alloc (.cells #[.int .i64 z] 3)).grownBy w8 u.ownBlock) (hat : u'.ownBlock = u.ownBlock ∨ u'.ownBlock = some (W.heap.size + 1)) :
    w8.heap[w.heap.size + 2]? = some (.cells #[u] 22 (0, 0)) ∧ TwoL w B S (w8.setCell ⟨w.heap.size + 2, 0, none⟩ u') v vs u' m (l ++ [z]) ∧ (∀ b, b < W.heap.size → b ≠ w.heap.size + 2 → u.ownBlock ≠ some b → (w8.setCell ⟨w.heap.size + 2, 0, none⟩ u').heap[b]? = W.heap[b]?) ∧ W.heap.size ≤ (w8.setCell ⟨w.heap.size + 2, 0, none⟩ u').heap.size := by
  have hblk : ∀ b, b < W.heap.size → u.ownBlock ≠ some b → w8.heap[b]? = W.heap[b]? := fun b hb hne =>
    (hg.block b (by simp; omega) (fun e => hne e.symm)).trans (Below.heap_alloc _ _ _ hb)
  have huB : ∀ g, u.ownBlock = some g → B ≤ g ∧ g < W.heap.size := fun g hg1 => h.iw.own.lt g hg1
  have hg8 := hg.size
  simp only [World.size_alloc] at hg8
  have h8 : w8.heap[w.heap.size + 2]? = some (.cells #[u] 22 (0, 0)) := (hblk _ (by omega) fun e => by have := (huB _ e).1; omega).trans h.b2
  have hset : ∀ b, b ≠ w.heap.size + 2 → (w8.setCell ⟨w.heap.size + 2, 0, none⟩ u').heap[b]? = w8.heap[b]? := fun b hb => Below.heap_setCell _ _ _ _ hb
  refine ⟨h8, ⟨?_, set_one h8, ?_, ?_⟩, fun b hb hn hv => (hset b hn).trans (hblk b hb hv), by simp [World.setCell]; omega⟩
  · rw [hset _ (by omega)]
    exact (hblk _ (by omega) fun e => by have := (huB _ e).1; omega).trans h.b1
  · have hFR : FrO (SU S u') B w8 v m vs := h.fr.keep (fun b hb hn => hblk b hb fun e => hn (.inr e)) (fun b hb => by
      rcases hb with hb | hb
      · exact .inl (.inl hb)
      · rcases hat with h1 | h1
        · rw [h1] at hb; exact .inl (.inr hb)
        · rw [h1] at hb
          simp only [Option.some.injEq] at hb
          exact .inr (by omega))
    exact hFR.set (b := w.heap.size + 2) (j := 0) (u := u') (by omega) h8 (by decide)
  · have e1 : ints (l ++ [z]) = ints l ++ [.int .i64 z] := by simp [ints]
    refine ⟨?_, fun g hg1 hx => ?_⟩
    · rw [e1, List.length_append]
      exact own_keepS ho fun b hb => hset b (by have := (ho.lt b hb).1; omega)
    · rcases hat with h1 | h1
      · rw [h1] at hg1; exact h.iw.off g hg1 hx
      · rw [h1] at hg1
        simp only [Option.some.injEq] at hg1
        have := hS g hx; omega

/-- Between the rounds. -/
structure TlI (w WN : World) (N : Nat) (ways : List (List Int)) (S : Nat → Prop) (pre : List (List Int)) (W : World) : Prop where
  sn : ∀ b, S b → N ≤ b
  kp : Kpt (fun b => b < w.heap.size + 1) WN W
  os : W.os = w.os
  tape : W.tape = w.tape
  output : W.output = w.output
  rv : ∃ v vs u, TwoL w (WN.heap.size + 2) S W v vs u (tlS ways pre) ((tlS ways pre).map (tlA ways))

theorem TlI.stab {w WN W W' : World} {N : Nat} {ways : List (List Int)} {pre : List (List Int)} {S S' : Nat → Prop} (h : TlI w WN N ways S pre W) (h1 : w.heap.size + 3 ≤ N) (h2 : N ≤ WN.heap.size) (hc : Chg S W W') (hs : ∀ b, S' b → S b ∨ W.heap.size ≤ b) : TlI w WN N ways S' pre W' := by
  have h0 := h.kp.size
  obtain ⟨v, vs, u, ht⟩ := h.rv
  refine ⟨fun b hb => ?_, h.kp.trans (Kpt.of_chg hc fun i _ hi hsi => ?_), hc.os.trans h.os, hc.tape.trans h.tape, hc.output.trans h.output, v, vs, u, ht.keep (fun hx => by have := h.sn _ hx; omega) (fun hx => by have := h.sn _ hx; omega) hc.block hs⟩
  · rcases hs b hb with hx | hx
    · exact h.sn b hx
    · omega
  · have := h.sn i hsi
    omega

end Go.Proofs.YtgeajopenkkkaaaGreat

/- sum.Tiles. -/
namespace Go.Proofs.YtgeajopenkkkaaaGreat
open Go.RowKit Go.Shelf Lin
attribute [local go_sem] Oper.semAt_some

set_option maxRecDepth 100000 in
set_option maxHeartbeats 8000000 in
theorem tiles_any (d : Nat) (ways : List (List Int)) (v : Value) (w : World) (hv : Mat w.heap.size 22 3 w v ways) (h : Wys d ways) (hE : zE d ways = 0) :
    Calls Tryz.prog 13 #[.int .i64 d, v] w fun e w' => ∃ (xo : Option Addr) (xc : Nat) (yo : Option Addr) (yc : Nat), e = .returned (.tuple #[.slice xo (tlS ways (ext ways.length d 0)).length xc, .slice yo (tlS ways (ext ways.length d 0)).length yc, .int .i64 0]) ∧ Mat 0 22 3 w' (.slice xo (tlS ways (ext ways.length d 0)).length xc) (tlS ways (ext ways.length d 0)) ∧ Sl 0 3 w' (.slice yo (tlS ways (ext ways.length d 0)).length yc) (ints ((tlS ways (ext ways.length d 0)).map (tlA ways))) ∧ Below w.heap.size w w' := by
  obtain ⟨i0, hi0, hz0, hz1, hz2⟩ := info_parts Tryz.info22
  obtain ⟨i3, hi3, hz30, hz31, hz32⟩ := info_parts Tryz.info3
  obtain ⟨vo, vc, rfl, _, _⟩ := mat_open hv
  have h1 := h.d1
  have h3 := h.d3
  have hn5 := h.n5
  have HH : Hid (Wys d ways) := h
  have HV : Hid (Mat w.heap.size 22 3 w (.slice vo ways.length vc) ways) := hv
  obtain ⟨W3, hW3⟩ : ∃ W3, W3 = ((w.alloc (.cells #[.slice vo ways.length vc] 25)).alloc (.cells #[.slice none 0 0] 25)).alloc (.cells #[.slice none 0 0] 22) := ⟨_, rfl⟩
  have hb3 : Below w.heap.size w W3 := by rw [hW3]; exact (((Below.refl _ _).alloc (Nat.le_refl _) _).alloc (by simp) _).alloc (by simp; omega) _
  have hs3 : W3.heap.size = w.heap.size + 3 := by rw [hW3]; simp
  have n1 : W3.heap[w.heap.size]? = some (.cells #[.slice vo ways.length vc] 25 (0, 0)) := by
    rw [hW3]
    exact (Below.heap_alloc _ _ _ (by simp; omega)).trans ((Below.heap_alloc _ _ _ (by simp)).trans (heap_new _ _))
  have n2 : W3.heap[w.heap.size + 1]? = some (.cells #[.slice none 0 0] 25 (0, 0)) := by
    rw [hW3]
    refine (Below.heap_alloc _ _ _ (by simp)).trans ?_
    have := heap_new (w.alloc (.cells #[.slice vo ways.length vc] 25)) (.cells #[.slice none 0 0] 25)
    simpa using this
  have n3 : W3.heap[w.heap.size + 2]? = some (.cells #[.slice none 0 0] 22 (0, 0)) := by
    rw [hW3]
    have := heap_new ((w.alloc (.cells #[.slice vo ways.length vc] 25)).alloc (.cells #[.slice none 0 0] 25)) (.cells #[.slice none 0 0] 22)
    simpa using this
  have c1 : W3.cell? ⟨w.heap.size, 0, none⟩ = some (.slice vo ways.length vc) := cell_of n1
  have K1 : Hid (Calls Tryz.prog 14 #[.int .i64 d, .slice vo ways.length vc] W3 fun e w' => e = .returned (.int .i64 0) ∧ Below W3.heap.size W3 w') := by
    have := zcheck_any d ways _ W3 ((hv.below hb3 (Nat.le_refl _)).any (Nat.le_refl _)) h
    rw [hE] at this
    exact this
  have HB3 : Hid (Below w.heap.size w W3) := hb3
  have HN : Hid (W3.heap[w.heap.size]? = some (.cells #[.slice vo ways.length vc] 25 (0, 0)) ∧ W3.heap[w.heap.size + 1]? = some (.cells #[.slice none 0 0] 25 (0, 0)) ∧ W3.heap[w.heap.size + 2]? = some (.cells #[.slice none 0 0] 22 (0, 0))) := ⟨n1, n2, n3⟩
  clear hv h hE hb3 n1 n2 n3
  refine callsIn_wide (n := 0).1 ?_
  refine callsIn_of_wp_marks Tryz.func13 rfl trivial ?_ rfl
  simp only [Tryz.ntmps13, List.size_toArray, List.length_cons, List.length_nil, Nat.reduceAdd, Nat.reduceSub, Array.replicate_succ, Array.replicate_zero, List.push_toArray, List.append_toArray, List.nil_append, List.cons_append]
  rw [hW3] at c1
  gi_wp2_with fail
  rw [← hW3] at c1 ⊢
  clear hW3
  refine ⟨trivial, rfl, ?_⟩
  gi_at_call 14
  refine (callsIn_wide.2 K1.out).mono ?_
  rintro e w1 ⟨rfl, hb1⟩
  have HB1 : Hid (Below W3.heap.size W3 w1) := hb1
  have d1 : w1.cell? ⟨w.heap.size, 0, none⟩ = some (.slice vo ways.length vc) := (hb1.cell (lt_of_cell c1)).trans c1
  have hs1 : w.heap.size + 3 ≤ w1.heap.size := by have := hb1.size; omega
  clear hb1 K1 c1
  gi_wp2_with (refine ⟨trivial, rfl, ?_⟩; gi_at_call 28; refine (callsIn_wide.2 (of_any _ _ _)).mono ?_; rintro e w' ⟨rfl, rfl⟩)
  obtain ⟨WN, hWN⟩ : ∃ WN, WN = (w1.alloc (.cells #[.int .i64 ways.length] 3)).alloc (.cells #[.int .i64 d] 3) := ⟨_, rfl⟩
  rw [← hWN]
  have hsN : WN.heap.size = w1.heap.size + 2 := by rw [hWN]; simp
  have hbN : Below w1.heap.size w1 WN := by rw [hWN]; exact ((Below.refl _ _).alloc (Nat.le_refl _) _).alloc (by simp) _
  have m1 : WN.heap[w1.heap.size]? = some (.cells #[.int .i64 ways.length] 3 (0, 0)) := by
    rw [hWN]
    exact (Below.heap_alloc _ _ _ (by simp)).trans (heap_new _ _)
  have m2 : WN.heap[w1.heap.size + 1]? = some (.cells #[.int .i64 d] 3 (0, 0)) := by
    rw [hWN]
    have := heap_new (w1.alloc (.cells #[.int .i64 ways.length] 3)) (.cells #[.int .i64 d] 3)
    simpa using this
  clear hWN
  have HSQ := of_seqC ways.length d (w1.heap.size + 1) w1.heap.size WN (by omega) (by omega) (cell_of m2) (cell_of m1)
  have hbAll : Below w.heap.size w WN := HB3.out.trans ((HB1.out.trans (hbN.mono HB1.out.size)).mono (by omega))
  have hlowN : ∀ b, b < w.heap.size + 3 → WN.heap[b]? = W3.heap[b]? := fun b hb => (hbN.block b (by omega)).trans (HB1.out.block b (by omega))
  have HNN : Hid (WN.heap[w.heap.size]? = some (.cells #[.slice vo ways.length vc] 25 (0, 0))) := (hlowN _ (by omega)).trans HN.out.1
  have HI0 : Hid (TlI w WN w1.heap.size ways (fun b => b = w1.heap.size + 1 ∨ b = w1.heap.size) [] WN) :=
    ⟨fun b hb => by omega, Kpt.refl _ _, hbAll.os, hbAll.tape, hbAll.output, .slice none 0 0, [], .slice none 0 0, ⟨(hlowN _ (by omega)).trans HN.out.2.1, (hlowN _ (by omega)).trans HN.out.2.2,
      ⟨rfl, World.ownsRow_nil _ _ _ _, fun g hg => by simp [Value.ownBlock] at hg, fun i hi => absurd hi (by simp [tlS]), fun i hi => absurd hi (by simp [tlS])⟩, ⟨World.ownsRow_nil _ _ _ _, fun g hg => by simp [Value.ownBlock] at hg⟩⟩⟩
  have HSZ : Hid (WN.heap.size = w1.heap.size + 2) := hsN
  have HBN : Hid (Below w.heap.size w WN) := hbAll
  have HLE : Hid ((ext ways.length d 0).length ≤ 300000) := by
    show _ ≤ _
    have := nodup_lenL (ext ways.length d 0) (chosenL d ways.length) (ext_asc d ways.length 0).nodup fun r hr => chosen_ext.2 hr
    have h2 := chosen_len d ways.length (by omega)
    have h4 : 64 ^ d ≤ 64 ^ 3 := Nat.pow_le_pow_right (by decide) h3
    omega
  have hle1 : w1.heap.size + 2 ≤ WN.heap.size := by omega
  have hle2 : w.heap.size + 3 ≤ WN.heap.size := by omega
  clear m1 m2 hbN hbAll hlowN HN d1 hsN hs3
  refine range_f (R := HandC WN.heap.size) (cs := ext ways.length d 0) (T := fun _ => False) (S0 := fun b => b = w1.heap.size + 1 ∨ b = w1.heap.size) (gf := 48) (lb := #[.pointer (some ⟨w1.heap.size + 1, 0, none⟩), .pointer (some ⟨w1.heap.size, 0, none⟩)]) rfl (enters_of Tryz.func48 (by kernel_rfl) rfl) HSQ (fun b hb => by omega)
    (fun W0 W' S x vs ⟨v, h1, _⟩ => by rw [h1]; rfl) (handC_below _) (handC_put _)
    (fun S pre W' => TlI w WN w1.heap.size ways S pre W')
    (fun c S pre W' => False)
    (fun S S' pre W' W'' h hc hs => h.stab hs1 (by have := HSZ.out; omega) hc hs) (fun c S S' pre W' W'' h hc hs => h) HI0.out
    (fun vs a' W' => ∃ v, vs = #[v] ∧ a' = { tmps := #[.int .i64 d, .slice vo ways.length vc, undef, .pointer (some ⟨w.heap.size, 0, none⟩), .pointer (some ⟨w.heap.size + 1, 0, none⟩), .pointer (some ⟨w.heap.size + 1 + 1, 0, none⟩), .int .i64 0, .int .i64 0, v, undef, .int .i64 d, .slice vo ways.length vc, .int .i64 0, .int .i64 0, .bool false, undef, .slice vo ways.length vc, .int .i64 ways.length, .int .i64 d, .func (.func 48) #[] #[.pointer (some ⟨w1.heap.size + 1, 0, none⟩), .pointer (some ⟨w1.heap.size, 0, none⟩)], v, undef, undef, undef, undef, undef, undef, undef, undef, undef, undef, undef, undef, undef, undef, undef, undef, undef, undef, undef], defers := [] })
    (fun vs a' W' l r o h _ => h) ?assign ?body (fun h => h) ?done ?stop
  case assign =>
    rintro S x vs W0 W' K ⟨v, rfl, h2⟩ hK
    gi_wp2
    exact hK _ _ (Below.refl _ _) ⟨v, rfl, rfl⟩
  case stop =>
    rintro c S pre W' hpre h
    exact h.elim
  case body =>
    rintro S pre c vs a' W1 hi hSD hSL hlt1 hdf hlp hpre ⟨S1, W0, hi0, ⟨cv, hvs, hown, hS0, hN0, hWW, hkc⟩, hS1⟩ ⟨v', hvs', rfl⟩
    have hvv : cv = v' := by rw [hvs] at hvs'; simpa using hvs'
    subst hvv
    have hcm' : c ∈ ext ways.length d 0 := hpre.subset (by simp)
    obtain ⟨hr1, hr2⟩ := ext_ok hcm'
    have hsz := HSZ.out
    have hws := hi.kp.size
    have e1 : W1.heap[w.heap.size]? = some (.cells #[.slice vo ways.length vc] 25 (0, 0)) := (hi.kp.block _ (by omega) (by omega)).trans HNN.out
    have hlow : ∀ b, b < w.heap.size → W1.heap[b]? = w.heap[b]? := fun b hb => (hi.kp.block b (by omega) (by omega)).trans (HBN.out.block b hb)
    obtain ⟨sv, svs, su, ht⟩ := hi.rv
    obtain ⟨sv0, svs0, su0, ht0⟩ := hi0.rv
    have hsu : su = su0 := by
      have e := hkc _ _ _ _ ht0.b2
      rw [ht.b2] at e
      simpa using e
    have HSB : Hid (∀ b, S b → b < W1.heap.size) := fun b hx => by
      rcases (hS1 _).1 hx with hx | hx | hx
      · have := hS0 _ hx; omega
      · omega
      · omega
    have hcvb : ∀ g, cv.ownBlock = some g → ¬ SU S su g := fun g hg hx => by
      obtain ⟨q1, q2, cur, q3⟩ := own_typS hown g hg
      rcases hx with hx | hx
      · rcases (hS1 _).1 hx with hx | hx | hx
        · have := hS0 _ hx; omega
        · rw [hx, hdf] at q3; cases q3
        · obtain ⟨rr, hlp'⟩ := hlp
          rw [hx, hlp'] at q3; cases q3
      · rw [hsu] at hx
        have := (ht0.iw.own.lt g hx).2
        omega
    obtain ⟨co, cc, hcf⟩ := owns_form hown
    rw [hr1] at hcf
    have HCV : Hid (Sl 0 3 W1 cv (ints c)) := Sl.own hown
    have HCB : Hid (0 < c.length → ∃ a n k, cv = .slice (some a) n k ∧ ¬ SU S su a.block) := fun hp => by
      rcases hown.2 with ⟨_, h2⟩ | ⟨g, cap, cur, h1, _⟩
      · omega
      · exact ⟨⟨g, 0, none⟩, _, _, h1, hcvb g (by rw [h1]; rfl)⟩
    subst hcf
    have HMP : Hid (Mat w.heap.size 22 3 W1 (.slice vo ways.length vc) ways) := mat_keepA HV.out hlow
    have hrl : ∀ i, i < c.length → 0 ≤ c.getD i 0 ∧ c.getD i 0 < ways.length := fun i hi => hr2 i (by omega)
    have HPK : Hid (Calls Tryz.prog 30 #[.slice vo ways.length vc, .slice co d cc] W1 fun e' w' => ∃ zo zc, e' = .returned (.slice zo d zc) ∧ Below W1.heap.size W1 w' ∧ Mat w'.heap.size 22 3 w' (.slice zo d zc) (pks ways [] c)) := by
      have h := pickedP_any W1.heap.size ways c (.slice vo ways.length vc) (.slice co d cc) W1 (HMP.out.any (Nat.le_refl _)) (HCV.out.more (Nat.zero_le _)) hrl (by omega)
      refine h.mono ?_
      rintro e' w' ⟨z, rfl, hz, hb⟩
      have hM := hz.mat (B' := w'.heap.size) hb.size
      obtain ⟨zo, zc, rfl, _, _⟩ := mat_open hM
      rw [pks_lenZ, hr1] at hM ⊢
      exact ⟨zo, zc, rfl, hb, hM⟩
    obtain ⟨hMx, hSq, hDB⟩ := HH.out.sq hr1 hr2
    have HDT : Hid (∀ X u, Mat X.heap.size 22 3 X u (pks ways [] c) → Calls Tryz.prog 29 #[u] X fun e w' => e = .returned (.int .i64 (detL (pks ways [] c))) ∧ Below X.heap.size X w') := fun X u hu => detP_any X.heap.size _ u X hMx hu (by rw [pks_lenZ, hr1]; exact h1)
    have HT7 : Hid (∀ w7, Below W1.heap.size W1 w7 → TwoL w (WN.heap.size + 2) S w7 sv svs su (tlS ways pre) ((tlS ways pre).map (tlA ways))) := fun w7 hb => ht.keep (fun hx => by have := hi.sn _ hx; omega) (fun hx => by have := hi.sn _ hx; omega) (fun b hb1 _ => hb.block b hb1) (fun b hb => .inl hb)
    have HIS : Hid (∀ w7, Below W1.heap.size W1 w7 → TlI w WN w1.heap.size ways S pre w7) := fun w7 hb => hi.stab hs1 (by omega) (Chg.of_below hb (Nat.le_refl _)) (fun b hb => .inl hb)
    have HSN : Hid (∀ b, S b → w1.heap.size ≤ b) := hi.sn
    have HTS : Hid (tlS ways (pre ++ [c]) = tlS ways pre ++ (if detL (pks ways [] c) ≠ 0 then [c] else [])) := by
      show _ = _
      unfold tlS
      rw [List.filter_append]
      by_cases h : detL (pks ways [] c) = 0 <;> simp [h]
    have HTA : Hid (tlA ways c = ((detL (pks ways [] c)).natAbs : Int)) := rfl
    have HRL : Hid ((tlS ways pre).length ≤ 300000) := by
      have h2 : pre.length ≤ (ext ways.length d 0).length := by
        have := hpre.length_le
        simp only [List.length_append, List.length_cons, List.length_nil] at this
        omega
      exact Nat.le_trans (tlS_len _ _) (Nat.le_trans h2 HLE.out)
    have hcw : W1.cell? ⟨w.heap.size, 0, none⟩ = some (.slice vo ways.length vc) := cell_of e1
    have hBW1 : WN.heap.size + 2 ≤ W1.heap.size := by omega
    have hrl' := HRL.out
    clear hi hi0 hpre hown hS0 hN0 hWW hkc hS1 hcm' hr1 hr2 hdf hlp hvs hvs' hrl hlow hsz hws e1 HSQ ht ht0 hsu hcvb hMx hSq HMP hSD hSL
    generalize detL (pks ways [] c) = D at *
    gi_wp2_with fail
    refine ⟨trivial, rfl, ?_⟩
    gi_at_call 30
    refine (CallsIn.inRound _ (callsIn_wide.2 HPK.out)).mono ?_
    rintro e' w6 ⟨zo, zc, rfl, hb6, hm6⟩
    have HDD := HDT.out w6 _ hm6
    have HB6 : Hid (Below W1.heap.size W1 w6) := hb6
    clear hb6 hm6 HPK HDT hcw
    gi_wp2_with fail
    refine ⟨trivial, rfl, ?_⟩
    gi_at_call 29
    refine (CallsIn.inRound _ (callsIn_wide.2 HDD)).mono ?_
    rintro e' w7 ⟨rfl, hb7⟩
    have HB7 : Hid (Below W1.heap.size W1 w7) := HB6.out.trans (hb7.mono HB6.out.size)
    clear hb7 HDD HB6
    by_cases hD : D = 0
    · subst hD
      have HF : Hid (Kpt (fun b => S b ∨ False) W1 w7 ∧ TlI w WN w1.heap.size ways S (pre ++ [c]) w7) := by
        refine ⟨Kpt.of_below HB7.out (Nat.le_refl _), ?_⟩
        have h := HIS.out w7 HB7.out
        refine ⟨h.sn, h.kp, h.os, h.tape, h.output, ?_⟩
        rw [HTS.out, if_neg (by simp), List.append_nil]
        exact h.rv
      clear HTS HTA HIS HT7 HCV HCB
      gi_wp2
      exact HF.out
    · have ht7 := HT7.out w7 HB7.out
      have hsz7 : WN.heap.size + 2 ≤ w7.heap.size := Nat.le_trans hBW1 HB7.out.size
      have HOO : Hid (w7.ownsRow (WN.heap.size + 2) 22 1 sv (tlS ways pre).length svs) := ht7.fr.own
      have hc8 : w7.cell? ⟨w.heap.size + 1, 0, none⟩ = some sv := cell_of ht7.b1
      have hDn : (D != 0) = true := by simp [hD]
      have HT : Hid (TwoL w (WN.heap.size + 2) S w7 sv svs su (tlS ways pre) ((tlS ways pre).map (tlA ways))) := ht7
      obtain ⟨ro, rc, hrf⟩ := owns_form ht7.fr.own
      subst hrf
      obtain ⟨qo, qc, hqf⟩ := owns_form ht7.iw.own
      rw [List.length_map] at hqf
      subst hqf
      have HCV7 : Hid (Sl 0 3 w7 (.slice co d cc) (ints c)) := HCV.out.below HB7.out (Nat.le_refl _)
      have HSB7 : Hid (∀ b, S b → b < w7.heap.size) := fun b hb => Nat.lt_of_lt_of_le (HSB.out b hb) HB7.out.size
      have HTS2 : Hid (tlS ways (pre ++ [c]) = tlS ways pre ++ [c]) := by
        show _ = _
        rw [HTS.out, if_pos hD]
      have HTA2 : Hid (tlA ways c = max D (-D)) := by
        show _ = _
        rw [HTA.out]; omega
      clear ht7 HT7 HCV HTS HTA hD
      generalize hTT : tlS ways pre = T at *
      clear hTT
      gi_wp2_with (first | (gi_at_builtin; refine wpListIn_append_own_at _ rfl _ _ 25 rfl (WN.heap.size + 2) 22 i0 (.slice none 0 0) 1 24 Tryz.underlying25 hi0 hz0 hz1 hz2 rfl (by decide) _ _ _ rfl (HOO.out.alloc _) ⟨w7.heap.size, 0, none⟩ 1 1 [.slice co d cc] rfl rfl (one_new _ _ _) (one_slice _ _ _) ?d3 ?d4 ?d5 ?_))
      case d3 => unfold maxLen; omega
      case d4 => omega
      case d5 => first | exact hsz7 | omega | (simp; omega)
      intro v' w8 ho hg _ hat
      obtain ⟨no, nc, hnv⟩ := owns_form ho
      subst hnv
      obtain ⟨g1, g2, g3, g4⟩ := HT.out.row (by omega) hsz7 HSB7.out HCV7.out HCB.out ho hg hat
      obtain ⟨W9, hW9⟩ : ∃ W9, W9 = w8.setCell ⟨w.heap.size + 1, 0, none⟩ (.slice no (T.length + 1) nc) := ⟨_, rfl⟩
      rw [← hW9] at g2 g3 g4
      have hc8' : w8.cell? ⟨w.heap.size + 1, 0, none⟩ = some (.slice ro T.length rc) := cell_of g1
      have hf8 : w8.frozen? ⟨w.heap.size + 1, 0, none⟩ = false := by simp [World.frozen?, g1]
      have hc9 : W9.cell? ⟨w.heap.size + 1 + 1, 0, none⟩ = some (.slice qo T.length qc) := cell_of g2.b2
      have G2 : Hid (TwoL w (WN.heap.size + 2) S W9 (.slice no (T.length + 1) nc) (svs ++ [.slice co d cc]) (.slice qo T.length qc) (T ++ [c]) (T.map (tlA ways))) := g2
      have G3 : Hid (∀ b, b < w7.heap.size → b ≠ w.heap.size + 1 → (Value.slice ro T.length rc).ownBlock ≠ some b → W9.heap[b]? = w7.heap[b]?) := g3
      have G5 : Hid (W9.os = w7.os ∧ W9.tape = w7.tape ∧ W9.output = w7.output) := by
        rw [hW9]
        exact ⟨hg.os, hg.tape, hg.output⟩
      have hsz9 : WN.heap.size + 2 ≤ W9.heap.size := by omega
      have HOU : Hid (W9.ownsRow (WN.heap.size + 2) 3 1 (.slice qo T.length qc) T.length (ints (T.map (tlA ways)))) := by
        have h := g2.iw.own
        rw [List.length_map] at h
        exact h
      clear ho hg hat g1 g2 g3
      gi_upto_region 9 with fail
      rw [← hW9]
      clear hW9 hc8' hf8
      have hwD : IntKind.wrap .i64 (-D) = -D := by rw [IntKind.wrap_i64]; omega
      gi_wp2_with (first | (gi_at_builtin; refine wpListIn_append_own_at _ rfl _ _ 22 rfl (WN.heap.size + 2) 3 i3 (.int .i64 0) 1 8 Tryz.underlying22 hi3 hz30 hz31 hz32 rfl (by decide) _ _ _ rfl (HOU.out.alloc _) ⟨W9.heap.size, 0, none⟩ 1 1 [.int .i64 (max D (-D))] rfl rfl (one_new _ _ _) (one_int _) ?e3 ?e4 ?e5 ?_))
      case e3 => unfold maxLen; omega
      case e4 => omega
      case e5 => first | exact hsz9 | omega | (simp; omega)
      intro u' w10 ho hg _ hat
      obtain ⟨mo, mc, hmv⟩ := owns_form ho
      subst hmv
      obtain ⟨k1, k2, k3, k4⟩ := G2.out.num (z := max D (-D)) (by omega) hsz9 (fun b hb => Nat.lt_of_lt_of_le (HSB7.out b hb) g4) (by rw [List.length_map]; exact ho) hg hat
      have hc10 : w10.cell? ⟨w.heap.size + 1 + 1, 0, none⟩ = some (.slice qo T.length qc) := cell_of k1
      have hf10 : w10.frozen? ⟨w.heap.size + 1 + 1, 0, none⟩ = false := by
        show w10.frozen? ⟨w.heap.size + 2, 0, none⟩ = false
        simp [World.frozen?, k1]
      have hkeep : ∀ b, b < w7.heap.size → b ≠ w.heap.size + 1 → b ≠ w.heap.size + 2 → (Value.slice ro T.length rc).ownBlock ≠ some b → (Value.slice qo T.length qc).ownBlock ≠ some b → (w10.setCell ⟨w.heap.size + 2, 0, none⟩ (.slice mo (T.length + 1) mc)).heap[b]? = w7.heap[b]? := fun b hb n1 n2 n3 n4 => (k3 b (by omega) n2 n4).trans (G3.out b hb n1 n3)
      have HF : Hid (Kpt (fun b => S b ∨ False) W1 (w10.setCell ⟨w.heap.size + 1 + 1, 0, none⟩ (.slice mo (T.length + 1) mc)) ∧ TlI w WN w1.heap.size ways S (pre ++ [c]) (w10.setCell ⟨w.heap.size + 1 + 1, 0, none⟩ (.slice mo (T.length + 1) mc))) := by
        have hI := HIS.out w7 HB7.out
        have hroB : ∀ g, (Value.slice ro T.length rc).ownBlock = some g → WN.heap.size + 2 ≤ g := fun g hg1 => (HT.out.fr.own.lt g hg1).1
        have hquB : ∀ g, (Value.slice qo T.length qc).ownBlock = some g → WN.heap.size + 2 ≤ g := fun g hg1 => (HT.out.iw.own.lt g hg1).1
        have hsz := HSZ.out
        refine ⟨⟨Nat.le_trans HB7.out.size (Nat.le_trans g4 k4), fun b hb hs => ?_⟩, hI.sn, hI.kp.trans ⟨Nat.le_trans g4 k4, fun b hb hs => ?_⟩, ?_, ?_, ?_, .slice no (T.length + 1) nc, svs ++ [.slice co d cc], .slice mo (T.length + 1) mc, ?_⟩
        · have hs' : S b := hs.elim id False.elim
          have hn := HSN.out b hs'
          refine (hkeep b (Nat.lt_of_lt_of_le hb HB7.out.size) (by omega) (by omega) (fun e => ?_) (fun e => ?_)).trans (HB7.out.block b hb)
          · exact HT.out.fr.off b e (.inl hs')
          · exact HT.out.iw.off b e hs'
        · exact hkeep b hb (by omega) (by omega) (fun e => by have := hroB b e; omega) (fun e => by have := hquB b e; omega)
        · exact (show _ = W9.os from hg.os).trans (G5.out.1.trans hI.os)
        · exact (show _ = W9.tape from hg.tape).trans (G5.out.2.1.trans hI.tape)
        · exact (show _ = W9.output from hg.output).trans (G5.out.2.2.trans hI.output)
        · rw [HTS2.out, List.map_append, List.map_singleton, HTA2.out]
          exact k2
      clear ho hg hat k1 k2 k3 k4 hkeep hc9 G2 G3 G5 HOU HT HIS
      gi_wp2
      exact HF.out
  case done =>
    rintro S W' hi hSD hdf
    obtain ⟨sv, svs, su, ht⟩ := hi.rv
    have hsz := HSZ.out
    have hws := hi.kp.size
    have p1 : W'.frozen? ⟨w.heap.size + 1, 0, none⟩ = false := by simp [World.frozen?, ht.b1]
    have p2 : W'.frozen? ⟨w.heap.size + 1 + 1, 0, none⟩ = false := by
      show W'.frozen? ⟨w.heap.size + 2, 0, none⟩ = false
      simp [World.frozen?, ht.b2]
    obtain ⟨ro, rc, hrf⟩ := owns_form ht.fr.own
    subst hrf
    obtain ⟨qo, qc, hqf⟩ := owns_form ht.iw.own
    rw [List.length_map] at hqf
    subst hqf
    have c1 : W'.cell? ⟨w.heap.size + 1, 0, none⟩ = some (.slice ro (tlS ways (ext ways.length d 0)).length rc) := cell_of ht.b1
    have c2 : W'.cell? ⟨w.heap.size + 1 + 1, 0, none⟩ = some (.slice qo (tlS ways (ext ways.length d 0)).length qc) := cell_of ht.b2
    have HI : Hid (TlI w WN w1.heap.size ways S (ext ways.length d 0) W') := hi
    have HT : Hid (TwoL w (WN.heap.size + 2) S W' (.slice ro (tlS ways (ext ways.length d 0)).length rc) svs (.slice qo (tlS ways (ext ways.length d 0)).length qc) (tlS ways (ext ways.length d 0)) ((tlS ways (ext ways.length d 0)).map (tlA ways))) := ht
    have HSD : Hid (S WN.heap.size) := hSD
    have HDF : Hid (W'.heap[WN.heap.size]? = some (.deferred (some []))) := hdf
    have hlow : ∀ b, b < w.heap.size → W'.heap[b]? = w.heap[b]? := fun b hb => (hi.kp.block b (by omega) (by omega)).trans (HBN.out.block b hb)
    have HLOW : Hid (∀ b, b < w.heap.size → W'.heap[b]? = w.heap[b]?) := hlow
    clear hi hdf ht hSD HSQ hlow hsz
    obtain ⟨T, hT⟩ : ∃ T, T = tlS ways (ext ways.length d 0) := ⟨_, rfl⟩
    rw [← hT] at c1 c2 HT
    have HTT : Hid (T = tlS ways (ext ways.length d 0)) := hT
    clear hT
    gi_wp2
    gi_region
    all_goals
      gi_wp2
      obtain ⟨W9, hW9⟩ : ∃ W9, W9 = ((W'.setCell ⟨w.heap.size + 1, 0, none⟩ (.slice ro T.length rc)).setCell ⟨w.heap.size + 1 + 1, 0, none⟩ (.slice qo T.length qc)).drew := ⟨_, rfl⟩
      rw [← hW9]
      have q1 : W9.heap[w.heap.size + 1]? = some (.cells #[.slice ro T.length rc] 25 (0, 0)) := by
        rw [hW9]
        exact (Below.heap_setCell _ _ _ _ (by show w.heap.size + 1 ≠ w.heap.size + 1 + 1; omega)).trans (set_one HT.out.b1)
      have q2 : W9.heap[w.heap.size + 2]? = some (.cells #[.slice qo T.length qc] 22 (0, 0)) := by
        rw [hW9]
        exact set_one ((Below.heap_setCell _ _ _ _ (by show w.heap.size + 2 ≠ w.heap.size + 1; omega)).trans HT.out.b2)
      have q3 : ∀ b, W9.heap[b]? = W'.heap[b]? := fun b => by
        by_cases e1 : b = w.heap.size + 1
        · rw [e1, q1, HT.out.b1]
        · by_cases e2 : b = w.heap.size + 2
          · rw [e2, q2, HT.out.b2]
          · rw [hW9]
            exact (Below.heap_setCell _ _ _ _ (by show b ≠ w.heap.size + 1 + 1; omega)).trans (Below.heap_setCell _ _ _ _ e1)
      have q4 : W9.heap.size = W'.heap.size := by rw [hW9]; simp [World.setCell]
      have q5 : W9.os = W'.os ∧ W9.tape = W'.tape ∧ W9.output = W'.output := by rw [hW9]; exact ⟨rfl, rfl, rfl⟩
      clear hW9
      refine leaves_mks [WN.heap.size] W9 (by simp) (fun r hr => ?_) (fun wF hc => ⟨.tuple #[.slice ro T.length rc, .slice qo T.length qc, .int .i64 0], ?_, ?_⟩)
      · simp only [List.mem_singleton] at hr
        subst hr
        exact (q3 _).trans HDF.out
      · have r1 : wF.cell? ⟨w.heap.size + 1, 0, none⟩ = some (.slice ro T.length rc) := cell_of ((hc.block _ (by omega) (by simp; omega)).trans q1)
        have r2 : wF.cell? ⟨w.heap.size + 1 + 1, 0, none⟩ = some (.slice qo T.length qc) := cell_of ((hc.block (w.heap.size + 2) (by omega) (by simp; omega)).trans q2)
        simp [results, Tryz.results13, go_sem, r1, r2]
      · have hk : ∀ b, b < W'.heap.size → b ≠ WN.heap.size → wF.heap[b]? = W'.heap[b]? := fun b hb hn => (hc.block b (by omega) (by simpa using hn)).trans (q3 b)
        have tF : TwoL w (WN.heap.size + 2) (fun _ => False) wF (.slice ro T.length rc) svs (.slice qo T.length qc) T (T.map (tlA ways)) :=
          HT.out.keep (fun hx => by have := HI.out.sn _ hx; omega) (fun hx => by have := HI.out.sn _ hx; omega) (fun b hb hs => hk b hb (fun e => hs (by rw [e]; exact HSD.out))) (fun b hx => hx.elim)
        rw [← HTT.out]
        refine ⟨ro, rc, qo, qc, rfl, fr_mat0S tF.fr.fr, ?_, hc.os.trans (q5.1.trans HI.out.os), hc.tape.trans (q5.2.1.trans HI.out.tape), hc.output.trans (q5.2.2.trans HI.out.output), by have := hc.size; omega, fun b hb => (hk b (by omega) (by omega)).trans (HLOW.out b hb)⟩
        have := tF.iw.own
        rw [List.length_map] at this
        exact Sl.own this

end Go.Proofs.YtgeajopenkkkaaaGreat
