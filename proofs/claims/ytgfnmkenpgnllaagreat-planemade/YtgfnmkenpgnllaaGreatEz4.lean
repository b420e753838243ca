/- facetref.SignsOf: all texts of such signs that some place has. -/
import Derived.Test.YtgfnmkenpgnllaaGreatEz3
import Derived.Test.YtgfnmkenpgnllaaGreatSg4r
import Derived.Test.YtgfnmkenpgnllaaGreatEm4
namespace Go.Proofs.YtgfnmkenpgnllaaGreat
open Go.RowKit Lin
attribute [local go_sem ↓] Go.wp_at_zero Go.wp_at_succ

noncomputable def sgT (d : Nat) (P : List (List Int)) (ks : List UInt8) : Nat → List UInt8 → List (List UInt8)
  | 0, h => if thB d P h then [h] else []
  | n + 1, h => if thB d P h then ks.flatMap fun c => sgT d P ks n (h ++ [c]) else []

theorem thB_iff {d : Nat} {P : List (List Int)} {s : List UInt8} : thB d P s = true ↔ ∃ z, HasS d P s z := by simp [thB]

theorem sgT_no {d : Nat} {P : List (List Int)} {ks : List UInt8} {n : Nat} {h : List UInt8} (e : thB d P h = false) : sgT d P ks n h = [] := by
  cases n <;> simp [sgT, e]

theorem sgT_len {d : Nat} {P : List (List Int)} {ks : List UInt8} (hk : ks.length ≤ 3) : ∀ (n : Nat) (h : List UInt8), (sgT d P ks n h).length ≤ 3 ^ n
  | 0, h => by
    unfold sgT
    split <;> simp
  | n + 1, h => by
    unfold sgT
    split
    · have h1 := flat_bdE (g := fun c => sgT d P ks n (h ++ [c])) (b := 3 ^ n) ks fun c _ => sgT_len hk n _
      have h2 : ks.length * 3 ^ n ≤ 3 * 3 ^ n := Nat.mul_le_mul_right _ hk
      rw [Nat.pow_succ]
      omega
    · simp

theorem filt_flat {α β : Type} (p : α → Bool) (g : α → List β) : ∀ l : List α, (∀ x ∈ l, p x = false → g x = []) → (l.filter p).flatMap g = l.flatMap g
  | [], _ => rfl
  | a :: l, h => by
    have ih := filt_flat p g l fun x hx => h x (List.mem_cons_of_mem _ hx)
    cases e : p a with
    | true => rw [List.filter_cons_of_pos e, List.flatMap_cons, List.flatMap_cons, ih]
    | false => rw [List.filter_cons_of_neg (by simp [e]), List.flatMap_cons, ih, h a List.mem_cons_self e]; rfl

/-- Grown plane by plane, or text by text: the same list. -/
theorem sg_step {d : Nat} {P : List (List Int)} {ks : List UInt8} (hks : ∀ c ∈ ks, c = 43 ∨ c = 45 ∨ c = 48) (n : Nat) {t : List UInt8} (ht : ∃ z, HasS d P t z) :
    sgT d P ks (n + 1) t = ((ks.filter (mtC (gaC d (clR P t) (P.getD t.length [])) (gaC d (clR P t) (ngL (P.getD t.length []))))).map fun c => t ++ [c]).flatMap (sgT d P ks n) := by
  rw [List.flatMap_map]
  rw [show sgT d P ks (n + 1) t = if thB d P t then ks.flatMap fun c => sgT d P ks n (t ++ [c]) else [] from rfl, if_pos (thB_iff.2 ht)]
  refine (filt_flat _ _ ks fun c hc e => ?_).symm
  refine sgT_no ?_
  rw [← Bool.not_eq_true, thB_iff, ← grow_one ht (hks c hc), e]
  decide

theorem flat_congr {α β : Type} {g f : α → List β} : ∀ {l : List α}, (∀ x ∈ l, g x = f x) → l.flatMap g = l.flatMap f
  | [], _ => rfl
  | a :: l, h => by rw [List.flatMap_cons, List.flatMap_cons, h a List.mem_cons_self, flat_congr fun x hx => h x (List.mem_cons_of_mem _ hx)]

theorem sg_grT {d : Nat} {P : List (List Int)} : ∀ (k n : Nat), sgT d P [43, 45, 48] (k + n) [] = (grT d P k).flatMap (sgT d P [43, 45, 48] n)
  | 0, n => by simp [grT]
  | k + 1, n => by
    rw [show k + 1 + n = k + (n + 1) by omega, sg_grT k (n + 1)]
    show _ = ((grT d P k).flatMap (grO d P (P.getD k []))).flatMap _
    rw [List.flatMap_assoc]
    refine flat_congr fun t ht => ?_
    obtain ⟨hl, hz⟩ := gr_iff.1 ht
    rw [sg_step (by simp) n hz, hl]
    rfl

theorem sg_grTR {d : Nat} {P : List (List Int)} : ∀ (k n : Nat), sgT d P [43, 45] (k + n) [] = (grTR d P k).flatMap (sgT d P [43, 45] n)
  | 0, n => by simp [grTR]
  | k + 1, n => by
    rw [show k + 1 + n = k + (n + 1) by omega, sg_grTR k (n + 1)]
    show _ = ((grTR d P k).flatMap (grOR d P (P.getD k []))).flatMap _
    rw [List.flatMap_assoc]
    refine flat_congr fun t ht => ?_
    obtain ⟨⟨hl, hz⟩, _⟩ := grr_iff.1 ht
    rw [sg_step (by simp) n hz, hl]
    rfl

theorem flat_self {α : Type} {g : List α → List (List α)} : ∀ {l : List (List α)}, (∀ x ∈ l, g x = [x]) → l.flatMap g = l
  | [], _ => rfl
  | a :: l, h => by rw [List.flatMap_cons, h a List.mem_cons_self, flat_self fun x hx => h x (List.mem_cons_of_mem _ hx)]; rfl

theorem sg_all {d : Nat} {P : List (List Int)} (k : Nat) : sgT d P [43, 45, 48] k [] = grT d P k := by
  have := sg_grT (d := d) (P := P) k 0
  rw [Nat.add_zero] at this
  rw [this]
  refine flat_self fun t ht => ?_
  unfold sgT
  rw [if_pos (thB_iff.2 (gr_iff.1 ht).2)]

theorem sg_reg {d : Nat} {P : List (List Int)} (k : Nat) : sgT d P [43, 45] k [] = grTR d P k := by
  have := sg_grTR (d := d) (P := P) k 0
  rw [Nat.add_zero] at this
  rw [this]
  refine flat_self fun t ht => ?_
  unfold sgT
  rw [if_pos (thB_iff.2 (grr_iff.1 ht).1.2)]

theorem ext_oneE (x : List UInt8) (k : Nat) (h : k < x.length) : (⟨x.toArray⟩ : ByteArray).extract k (k + 1) = ⟨#[x.getD k 0]⟩ := by
  apply ByteArray.ext
  simp only [ByteArray.data_extract]
  apply Array.ext
  · simp; omega
  · intro i h1 h2
    have : i = 0 := by simp at h2; omega
    subst this
    simp [h]

theorem strs_app (a b : List (List UInt8)) : strs (a ++ b) = strs a ++ strs b := by simp [strs]
theorem strs_one (a : List (List UInt8)) : ∀ u ∈ strs a, u.oneCell' = true := fun u hu => by
  simp only [strs, List.mem_map] at hu
  obtain ⟨t, _, rfl⟩ := hu
  rfl

set_option maxRecDepth 100000 in
set_option maxHeartbeats 4000000 in
theorem signsOf_any (d : Nat) (P : List (List Int)) (ks : List UInt8) (KB : ByteArray) (v : Value) (hP : ∀ p ∈ P, p.length = d + 1 ∧ ∀ z ∈ p, z.natAbs ≤ 3) (hd1 : 1 ≤ d) (hd3 : d ≤ 3) (hP8 : P.length ≤ 6) (hks : ∀ c ∈ ks, c = 43 ∨ c = 45 ∨ c = 48) (hk3 : ks.length ≤ 3) (hsm : (∀ c ∈ ks, c = 43 ∨ c = 45) ∨ P.length ≤ 4) (hKB : KB = ⟨ks.toArray⟩) :
    ∀ (n : Nat) (h : List UInt8) (HB : ByteArray) (w : World), h.length + n = P.length → (∀ c ∈ h, c ∈ ks) → HB = ⟨h.toArray⟩ → Mat 0 22 3 w v P →
    Calls Tryz.prog 9 #[.int .i64 d, v, .string KB, .string HB] w fun e w' => ∃ x, e = .returned x ∧ w'.ownsRow w.heap.size 9 1 x (sgT d P ks n h).length (strs (sgT d P ks n h)) ∧ Below w.heap.size w w' := by
  intro n
  induction n with
  | zero =>
    intro h HB w hn hh hHB hv
    obtain ⟨ro, rc, hvv, hlc, hcm⟩ := mat_open hv
    subst hvv
    have hth : (thT P h h.length).length ≤ 8 := by
      rcases hsm with q | q
      · rw [thT_one h.length (Nat.le_refl _) fun c hc => q c (hh c hc)]; omega
      · have := thT_len P h h.length; omega
    have HTH : Hid (Calls Tryz.prog 26 #[.int .i64 d, .slice ro P.length rc, .string HB] w fun e w' => e = .returned (.bool (thB d P h)) ∧ Below w.heap.size w w') := there_any d P h _ HB w hv hP hd1 hd3 (by omega) (fun c hc => hks c (hh c hc)) hth (by omega) hHB
    have hHs : HB.size = P.length := by rw [hHB]; show h.length = _; omega
    have HL0 : Hid (sgT d P ks 0 h = if thB d P h then [h] else []) := rfl
    have HHB : Hid (HB = ⟨h.toArray⟩) := hHB
    generalize sgT d P ks 0 h = L at *
    clear hv hth hHB
    go_enter Tryz.func9, Tryz.ntmps9
    go_wp2_with fail
    refine HTH.out.mono ?_
    rintro e w1 ⟨rfl, hb1⟩
    have HB1 : Hid (Below w.heap.size w w1) := hb1
    have hsz1 : w.heap.size ≤ w1.heap.size := hb1.size
    clear hb1 HTH
    cases htb : thB d P h with
    | false =>
      rw [htb] at HL0
      go_wp2
      go_ret
      refine ⟨_, rfl, ?_, HB1.out⟩
      have e : L = [] := HL0.out
      rw [e]
      exact World.ownsRow_nil _ _ _ _
    | true =>
      rw [htb] at HL0
      go_wp2
      go_ret
      refine ⟨_, rfl, ?_, HB1.out.alloc hsz1 _⟩
      have e : L = [h] := HL0.out
      rw [e]
      show World.ownsRow _ _ _ _ _ 1 [.string ⟨h.toArray⟩]
      rw [← HHB.out]
      exact ⟨rfl, .inr ⟨w1.heap.size, 1, #[.string HB], rfl, hsz1, heap_alloc_new w1 _, Nat.le_refl _, by decide, rfl, rfl⟩⟩
  | succ n ih =>
    intro h HB w hn hh hHB hv
    obtain ⟨i0, hi, hz0, hz1, hz2⟩ := info_parts infoStr
    obtain ⟨ro, rc, hvv, hlc, hcm⟩ := mat_open hv
    subst hvv
    have hth : (thT P h h.length).length ≤ 8 := by
      rcases hsm with q | q
      · rw [thT_one h.length (Nat.le_refl _) fun c hc => q c (hh c hc)]; omega
      · have := thT_len P h h.length; omega
    have HTH : Hid (Calls Tryz.prog 26 #[.int .i64 d, .slice ro P.length rc, .string HB] w fun e w' => e = .returned (.bool (thB d P h)) ∧ Below w.heap.size w w') := there_any d P h _ HB w hv hP hd1 hd3 (by omega) (fun c hc => hks c (hh c hc)) hth (by omega) hHB
    have hHs0 : HB.size = h.length := by rw [hHB]; rfl
    have hKs0 : KB.size = ks.length := by rw [hKB]; rfl
    have HL0 : Hid (sgT d P ks (n + 1) h = if thB d P h then ks.flatMap fun c => sgT d P ks n (h ++ [c]) else []) := rfl
    have HREC : Hid (∀ (j : Nat) (W : World), j < ks.length → Below w.heap.size w W → Calls Tryz.prog 9 #[.int .i64 d, .slice ro P.length rc, .string KB, .string (HB ++ KB.extract j (j + 1))] W fun e w' => ∃ xo xc, e = .returned (.slice xo (sgT d P ks n (h ++ [ks.getD j 0])).length xc) ∧ Sl 0 9 w' (.slice xo (sgT d P ks n (h ++ [ks.getD j 0])).length xc) (strs (sgT d P ks n (h ++ [ks.getD j 0]))) ∧ Below W.heap.size W w') := fun j W hj hW => by
      refine (ih (h ++ [ks.getD j 0]) (HB ++ KB.extract j (j + 1)) W (by simp; omega) (fun c hc => ?_) (by rw [hKB, ext_oneE ks j hj, hHB, str_add]) (hv.below hW (Nat.le_refl _))).mono ?_
      · rcases List.mem_append.1 hc with q | q
        · exact hh c q
        · rw [List.mem_singleton.1 q]; exact getC hj
      rintro e w' ⟨x, rfl, ho, hb⟩
      obtain ⟨xo, xc, rfl⟩ := owns_form ho
      exact ⟨xo, xc, rfl, Sl.own ho, hb⟩
    have HLN : Hid (∀ j, (sgT d P ks n (h ++ [ks.getD j 0])).length ≤ 729 ∧ ((ks.take j).flatMap fun c => sgT d P ks n (h ++ [c])).length ≤ 2187) := fun j => by
      have hp : 3 ^ n ≤ 3 ^ 6 := Nat.pow_le_pow_right (by decide) (by omega)
      refine ⟨Nat.le_trans (sgT_len hk3 n _) hp, ?_⟩
      have h1 := flat_bdE (g := fun c => sgT d P ks n (h ++ [c])) (b := 729) (ks.take j) fun c _ => Nat.le_trans (sgT_len hk3 n _) hp
      have h2 : (ks.take j).length ≤ 3 := by rw [List.length_take]; omega
      have h3 : (ks.take j).length * 729 ≤ 3 * 729 := Nat.mul_le_mul_right _ h2
      omega
    have HSU : Hid (∀ j, j < ks.length → ((ks.take (j + 1)).flatMap fun c => sgT d P ks n (h ++ [c])) = ((ks.take j).flatMap fun c => sgT d P ks n (h ++ [c])) ++ sgT d P ks n (h ++ [ks.getD j 0])) := fun j hj => by
      rw [List.take_succ_eq_append_getElem hj, List.flatMap_append]
      simp [hj]
    have HTK : Hid (((ks.take ks.length).flatMap fun c => sgT d P ks n (h ++ [c])) = ks.flatMap fun c => sgT d P ks n (h ++ [c])) := by show _ = _; rw [List.take_length]
    obtain ⟨hl, hhl⟩ : ∃ hl, hl = h.length := ⟨_, rfl⟩
    rw [← hhl] at hHs0
    have hne : ((hl : Int) == (P.length : Int)) = false := by
      rw [beq_eq_false_iff_ne]; omega
    have hhl6 : hl ≤ 6 := by omega
    obtain ⟨kl, hkl⟩ : ∃ kl, kl = ks.length := ⟨_, rfl⟩
    rw [← hkl] at hKs0 HREC HSU HTK hk3
    generalize sgT d P ks (n + 1) h = L at *
    obtain ⟨F, hF⟩ : ∃ F : Nat → List (List UInt8), F = fun j => (ks.take j).flatMap fun c => sgT d P ks n (h ++ [c]) := ⟨_, rfl⟩
    obtain ⟨G, hG⟩ : ∃ G : Nat → List (List UInt8), G = fun j => sgT d P ks n (h ++ [ks.getD j 0]) := ⟨_, rfl⟩
    have HREC2 : Hid (∀ (j : Nat) (W : World), j < kl → Below w.heap.size w W → Calls Tryz.prog 9 #[.int .i64 d, .slice ro P.length rc, .string KB, .string (HB ++ KB.extract j (j + 1))] W fun e w' => ∃ xo xc, e = .returned (.slice xo (G j).length xc) ∧ Sl 0 9 w' (.slice xo (G j).length xc) (strs (G j)) ∧ Below W.heap.size W w') := by rw [hG]; exact HREC.out
    have HLN2 : Hid (∀ j, (G j).length ≤ 729 ∧ (F j).length ≤ 2187) := by rw [hF, hG]; exact HLN.out
    have HSU2 : Hid (∀ j, j < kl → F (j + 1) = F j ++ G j) := by rw [hF, hG]; exact HSU.out
    have HF0 : Hid (F 0 = []) := by rw [hF]; rfl
    have HL1 : Hid (L = if thB d P h then F kl else []) := by show _ = _; rw [HL0.out, ← HTK.out, hF]
    clear hv hth hHB hKB HREC HLN HSU HTK HL0 hF hG hkl hhl ih hn hh hP hks hsm
    go_enter Tryz.func9, Tryz.ntmps9
    go_wp2_with fail
    refine HTH.out.mono ?_
    rintro e w1 ⟨rfl, hb1⟩
    have HB1 : Hid (Below w.heap.size w w1) := hb1
    have hsz1 : w.heap.size ≤ w1.heap.size := hb1.size
    clear hb1 HTH
    cases htb : thB d P h with
    | false =>
      rw [htb] at HL1
      go_wp2
      go_ret
      refine ⟨_, rfl, ?_, HB1.out⟩
      have e : L = [] := HL1.out
      rw [e]
      exact World.ownsRow_nil _ _ _ _
    | true =>
      rw [htb] at HL1
      have HL2 : Hid (L = F kl) := HL1.out
      clear HL1
      go_wp2
      go_loopw [9, 10] (fun x i wr => ∃ j : Nat, j ≤ kl ∧ i = .int .i64 j ∧ wr.ownsRow w.heap.size 9 1 x (F j).length (strs (F j)) ∧ Below w.heap.size w wr) (fun _ i _ => kl - (intOf i).toNat)
      case atStart => exact ⟨0, Nat.zero_le _, rfl, by rw [HF0.out]; exact World.ownsRow_nil _ _ _ _, HB1.out⟩
      case round =>
        obtain ⟨j, hj, rfl, how, hbel⟩ := hrel
        obtain ⟨wa, rfl⟩ : ∃ wa, wa = wr := ⟨_, rfl⟩
        have HO : Hid (wa.ownsRow w.heap.size 9 1 u9 (F j).length (strs (F j))) := how
        have HB2 : Hid (Below w.heap.size w wa) := hbel
        have hsza : w.heap.size ≤ wa.heap.size := hbel.size
        clear how hbel
        by_cases hlt : j < kl
        · have hjK : j < KB.size := by omega
          have hjI : (j : Int) < (kl : Int) := by omega
          have hjI0 : (0 : Int) ≤ (j : Int) := by omega
          have HRC : Hid (Calls Tryz.prog 9 #[.int .i64 d, .slice ro P.length rc, .string KB, .string (HB ++ KB.extract j (j + 1))] wa fun e w' => ∃ xo xc, e = .returned (.slice xo (G j).length xc) ∧ Sl 0 9 w' (.slice xo (G j).length xc) (strs (G j)) ∧ Below wa.heap.size wa w') := HREC2.out j wa hlt HB2.out
          have HS1 := HSU2.out j hlt
          have HS2 : Hid (F (j + 1) = F j ++ G j) := HS1
          have hln := HLN2.out j
          obtain ⟨hl1, hl2⟩ := hln
          clear HS1
          generalize G j = g at *
          generalize F j = f at *
          go_wp2_with fail
          refine HRC.out.mono ?_
          rintro e w2 ⟨xo, xc, rfl, hx2, hb2⟩
          have HB3 : Hid (Below w.heap.size w w2) := HB2.out.trans (hb2.mono hsza)
          have HO2 : Hid (w2.ownsRow w.heap.size 9 1 u9 f.length (strs f)) := owns_below HO.out hb2 (Nat.le_refl _)
          have HX2 : Hid (Sl 0 9 w2 (.slice xo g.length xc) (strs g)) := hx2
          have hsz2 : w.heap.size ≤ w2.heap.size := HB3.out.size
          clear hx2 hb2 HRC HO
          go_wp2_with (first | (at_builtin; refine wpList_app_sl rfl _ _ 31 rfl w.heap.size 9 i0 (.string ⟨#[]⟩) 16 (by kernel_rfl) hi hz0 hz1 hz2 rfl _ _ _ rfl HO2.out xo g.length xc (strs g) rfl HX2.out (strs_one _) ?d3 ?d4 ?d5 ?_))
          case d3 => unfold maxLen; omega
          case d4 => omega
          case d5 => first | omega | (simp; omega)
          intro x6 w3 ho hg
          have R1 : Hid (w3.ownsRow w.heap.size 9 1 x6 (F (j + 1)).length (strs (F (j + 1)))) := by
            show World.ownsRow _ _ _ _ _ _ _
            rw [HS2.out, strs_app, List.length_append]
            exact ho
          have R2 : Hid (Below w.heap.size w w3) := HB3.out.grown hg hsz2 (fun x hx => (HO2.out.lt x hx).1)
          clear ho hg HO2 HX2
          go_wp2
          exact ⟨⟨j + 1, by omega, by go_num, R1.out, R2.out⟩, by simp [intOf]; omega⟩
        · have hje : j = kl := by omega
          subst hje
          go_wp2
          go_ret
          exact ⟨_, rfl, by rw [HL2.out]; exact HO.out, HB2.out⟩
end Go.Proofs.YtgfnmkenpgnllaaGreat
