/- TopRado: the law. -/
import Derived.Test.YtaoadagpknhgiaaDoorRd4
import Derived.Test.YtaoadagpknhgiaaDoorRd2
import Derived.Test.YtaoadagpknhgiaaDoorMt7
import Derived.Test.YtaoadagpknhgiaaDoorPik
namespace Go.Proofs.YtaoadagpknhgiaaDoor
open Go.RowKit
attribute [local go_sem ↓] Go.wp_at_zero Go.wp_at_succ

/-- Sets of one size. -/
def Siz (n sz : Nat) (l : List Int) : Prop := ∀ x ∈ l, ∃ B : Nat, x = (B : Int) ∧ B < 2 ^ n ∧ (mem8 B).length = sz

theorem siz_mat {n sz : Nat} {bs : List Int} (hn : n ≤ 8) (hs : Siz n sz bs) (hr : Ris bs) (hl : 0 < bs.length) : matE (n : Int) bs = if exB bs = true then 0 else 3 := by
  refine matE_end hn hl fun i hi => step0.2 ?_
  have hg : ∀ i, i < bs.length → ∃ B : Nat, bs.getD i 0 = (B : Int) ∧ B < 2 ^ n ∧ (mem8 B).length = sz := fun i hi => hs _ (by simp [hi])
  obtain ⟨B, e1, e2, e3⟩ := hg i hi
  obtain ⟨B0, f1, f2, f3⟩ := hg 0 hl
  refine ⟨by rw [e1]; omega, ?_, fun h0 => ris_get hr (by omega) hi, ?_⟩
  · rw [e1]
    have : ((2 ^ n : Nat) : Int) = (2 : Int) ^ n := by simp
    rw [← this]
    omega
  · unfold szI
    rw [e1, f1, Int.toNat_natCast, Int.toNat_natCast, e3, f3]

theorem siz_b8 {n sz : Nat} {bs : List Int} (hn : n ≤ 8) (hs : Siz n sz bs) : B8 bs := fun x hx => by
  obtain ⟨B, rfl, h, _⟩ := hs x hx
  have : 2 ^ n ≤ 2 ^ 8 := Nat.pow_le_pow_right (by omega) hn
  omega

theorem siz_rad {n sz : Nat} {bs : List Int} {A B x : Nat} (hn : n ≤ 8) (hs : Siz n sz bs) (hA : (A : Int) ∈ bs) (hB : (B : Int) ∈ bs) (hx : A.testBit x = true) : Rad bs n sz (outN A (2 ^ x)) B := by
  obtain ⟨A', e1, e2, e3⟩ := hs _ hA
  have : A = A' := by omega
  subst this
  have hxn := bit_lt e2 hx
  refine ⟨hn, fun z hz => ?_, hB, ⟨A, hA, fun i hi => ?_⟩, Nat.lt_of_le_of_lt (outN_le _ _) e2, ?_⟩
  · obtain ⟨C, f1, f2, f3⟩ := hs z hz
    exact ⟨C, f1, f2, by rw [← pc_mem8, f3]⟩
  · rw [out1_bit, Bool.and_eq_true] at hi
    exact hi.1
  · have h1 := pc_or (s := outN A (2 ^ x)) (y := x) (by omega) (by rw [out1_bit]; simp)
    rw [out1_or hx, ← pc_mem8, e3] at h1
    exact h1.symm

theorem own_keepR {B n : Nat} {e : TypeId} {w w' : World} {v : Value} {xs : List Value} (h : w.ownsRow B e 1 v n xs) (hk : ∀ b, v.ownBlock = some b → w'.heap[b]? = w.heap[b]?) : w'.ownsRow B e 1 v n xs := by
  refine ⟨h.1, ?_⟩
  rcases h.2 with h1 | ⟨g, cap, cur, e1, h2, h3, h4⟩
  · exact .inl h1
  · exact .inr ⟨g, cap, cur, e1, h2, (hk g (by rw [e1]; rfl)).trans h3, h4⟩

/-- Of the first i bases, against all. -/
def PI (bs : List Int) (i : Nat) : Prop := ∀ i', i' < i → ∀ A B x : Nat, bs.getD i' 0 = (A : Int) → (B : Int) ∈ bs → A.testBit x = true → HasY bs (outN A (2 ^ x)) B

def PK (bs : List Int) (A j : Nat) : Prop := ∀ j', j' < j → ∀ B x : Nat, bs.getD j' 0 = (B : Int) → A.testBit x = true → HasY bs (outN A (2 ^ x)) B

def PX (bs : List Int) (A B : Nat) (M : List Int) (t : Nat) : Prop := ∀ t', t' < t → ∀ x : Nat, M.getD t' 0 = (x : Int) → HasY bs (outN A (2 ^ x)) B

theorem pi_all {bs : List Int} (h : PI bs bs.length) : AllY bs := fun A B x hA hB hx => by
  obtain ⟨i, hi, he⟩ := List.getElem_of_mem hA
  exact h i hi A B x (by rw [← he]; simp [hi]) hB hx

theorem pk_pi {bs : List Int} {A i : Nat} (h : PI bs i) (hA : bs.getD i 0 = (A : Int)) (h2 : PK bs A bs.length) : PI bs (i + 1) := fun i' hi' A' B x hA' hB hx => by
  by_cases e : i' = i
  · subst e
    have : A' = A := by omega
    subst this
    obtain ⟨j, hj, he⟩ := List.getElem_of_mem hB
    exact h2 j hj B x (by rw [← he]; simp [hj]) hx
  · exact h i' (by omega) A' B x hA' hB hx

theorem px_pk {bs : List Int} {A B j : Nat} (hA8 : A < 256) (h : PK bs A j) (hB : bs.getD j 0 = (B : Int)) (h2 : PX bs A B (mem8 A) (mem8 A).length) : PK bs A (j + 1) := fun j' hj' B' x hB' hx => by
  by_cases e : j' = j
  · subst e
    have : B' = B := by omega
    subst this
    have hm : (x : Int) ∈ mem8 A := mem8_iff.2 ⟨x, bit_lt (n := 8) hA8 hx, hx, rfl⟩
    obtain ⟨t, ht, he⟩ := List.getElem_of_mem hm
    exact h2 t ht x (by rw [← he]; simp [ht])
  · exact h j' (by omega) B' x hB' hx

set_option maxRecDepth 100000 in
set_option maxHeartbeats 1600000 in
theorem topRado_any (n0 z0 : Int) (l : List Int) (v : Value) (w : World) (hv : Sl w.heap.size 3 w v (ints l)) (hin : ∀ z ∈ l, In64 z) (hn0 : In64 n0) (hz0 : In64 z0) (hT : TabB w) :
    Calls Tryd.prog 3 #[.int .i64 n0, v, .int .i64 z0] w fun e w' => e = .returned (.bool true) ∧ Below w.heap.size w w' := by
  obtain ⟨i3, hi3, hz30, hz31, hz32⟩ := info_parts Tryd.info3
  obtain ⟨lo, lc, hvv, hlc, hcm⟩ := sl_open hv
  subst hvv
  by_cases hl40 : 40 < l.length
  · have b0 : decide ((40 : Int) < (l.length : Int)) = true := decide_eq_true (by omega)
    clear hv hin hT
    go_enter Tryd.func3, Tryd.ntmps3
    go_wp2
    go_ret
    exact ⟨rfl, Below.refl _ _⟩
  have b0 : decide ((40 : Int) < (l.length : Int)) = false := decide_eq_false (by omega)
  have hll : l.length ≤ 40 := by omega
  obtain ⟨pf, hpf⟩ : ∃ pf : Nat, pickF n0 5 = (pf : Int) := ⟨(pickF n0 5).toNat, by have := (pickF_bd (c := n0) (n := 5) (by decide)).1; omega⟩
  have hpf5 : pf < 5 := by have := (pickF_bd (c := n0) (n := 5) (by decide)).2; omega
  obtain ⟨n, hn⟩ : ∃ n : Nat, n = 2 + pf := ⟨_, rfl⟩
  have hn2 : 2 ≤ n := by omega
  have hn6 : n ≤ 6 := by omega
  obtain ⟨pz, hpz⟩ : ∃ pz : Nat, pickF z0 n = (pz : Int) := ⟨(pickF z0 n).toNat, by have := (pickF_bd (c := z0) (n := n) (by omega)).1; omega⟩
  have hpzn : pz < n := by have := (pickF_bd (c := z0) (n := n) (by omega)).2; omega
  obtain ⟨sz, hsz⟩ : ∃ sz : Nat, sz = 1 + pz := ⟨_, rfl⟩
  have HP1 : Hid (∀ W', Calls Tryd.prog 4 #[.int .i64 n0, .int .i64 5] W' fun e w' => e = .returned (.int .i64 pf) ∧ w' = W') := fun W' => by rw [← hpf]; exact pick_val n0 5 W' (by omega) (by omega) hn0
  have HP2 : Hid (∀ W', Calls Tryd.prog 4 #[.int .i64 z0, .int .i64 n] W' fun e w' => e = .returned (.int .i64 pz) ∧ w' = W') := fun W' => by rw [← hpz]; exact pick_val z0 n W' (by omega) (by omega) hz0
  obtain ⟨tn, htn⟩ : ∃ tn : Nat, tn = 2 ^ n := ⟨_, rfl⟩
  have HTN : Hid (tn = 2 ^ n) := htn
  have hti : (2 : Int) ^ n = (tn : Int) := by rw [htn]; simp
  have htl : tn ≤ 256 := by rw [htn]; exact show 2 ^ n ≤ 2 ^ 8 from Nat.pow_le_pow_right (by omega) (by omega)
  have ht1 : 1 ≤ tn := by rw [htn]; exact Nat.one_le_two_pow
  have hwt : IntKind.i64.wrap (tn : Int) = (tn : Int) := wrap_small (by omega)
  have HP3 : Hid (∀ W' z, z ∈ l → ∃ s : Nat, s < tn ∧ Calls Tryd.prog 4 #[.int .i64 z, .int .i64 tn] W' fun e w' => e = .returned (.int .i64 s) ∧ w' = W') := fun W' z hz => by
    obtain ⟨k1, k2⟩ := pickF_bd (c := z) (n := (tn : Int)) (by omega)
    refine ⟨(pickF z tn).toNat, by omega, ?_⟩
    rw [Int.toNat_of_nonneg k1]
    exact pick_val z tn W' (by omega) (by omega) (hin z hz)
  have HV : Hid (∀ W', Below w.heap.size w W' → Sl w.heap.size 3 W' (.slice lo l.length lc) (ints l) ∧ TabB W') := fun W' h => ⟨hv.below h (Nat.le_refl _), hT.below h⟩
  have a1 : IntKind.i64.wrap (2 + (pf : Int)) = (n : Int) := by
    rw [show (2 + (pf : Int)) = (n : Int) by omega]; exact wrap_small (by omega)
  have a2 : IntKind.i64.wrap (1 + (pz : Int)) = (sz : Int) := by
    rw [show (1 + (pz : Int)) = (sz : Int) by omega]; exact wrap_small (by omega)
  have HSZ : Hid (sz ≤ 8) := by show _ ≤ _; omega
  clear hv hT hin htn hpf hpz hl40 hn hsz
  go_enter Tryd.func3, Tryd.ntmps3
  go_wp2_with fail
  refine (HP1.out w).mono ?_
  rintro e w1 ⟨rfl, hw1⟩
  subst hw1
  go_wp2_with fail
  refine (HP2.out w1).mono ?_
  rintro e w2 ⟨rfl, hw2⟩
  subst hw2
  go_wp2
  clear a1 a2
  go_loopw [7, 8] (fun ov i wr => ∃ (k : Nat) (al : List Int), k ≤ l.length ∧ i = .int .i64 k ∧ wr.ownsRow w2.heap.size 3 1 ov al.length (ints al) ∧ Siz n sz al ∧ al.length ≤ k ∧ Below w2.heap.size w2 wr) (fun _ i _ => l.length - (intOf i).toNat)
  case atStart => exact ⟨0, [], Nat.zero_le _, rfl, World.ownsRow_nil _ _ _ _, fun x hx => by simp at hx, Nat.le_refl _, Below.refl _ _⟩
  case round =>
    obtain ⟨k, al, hk, rfl, ho, hsi, hal, hb⟩ := hrel
    have HO : Hid (wr.ownsRow w2.heap.size 3 1 u7 al.length (ints al)) := ho
    have HB : Hid (Below w2.heap.size w2 wr) := hb
    have HSI : Hid (Siz n sz al) := hsi
    have HAL : Hid (al.length ≤ k) := hal
    clear ho hb hsi hal
    obtain ⟨wa, rfl⟩ : ∃ wa, wa = wr := ⟨wr, rfl⟩
    by_cases hlt : k < l.length
    · obtain ⟨lb, lq, _, hs, _, hcz⟩ := sl_cell (HV.out wa HB.out).1 hlt
      simp only [Value.slice.injEq] at hs
      obtain ⟨rfl, -, -⟩ := hs
      obtain ⟨s, hst, hpk⟩ := HP3.out wa.drew (l.getD k 0) (by simp [hlt])
      obtain ⟨z, hz⟩ : ∃ z, z = l.getD k 0 := ⟨_, rfl⟩
      rw [← hz] at hcz hpk
      have HPK : Hid (Calls Tryd.prog 4 #[.int .i64 z, .int .i64 tn] wa.drew fun e w' => e = .returned (.int .i64 s) ∧ w' = wa.drew) := hpk
      have HB2 : Hid (Below w2.heap.size w2 wa.drew) := ⟨HB.out.os, HB.out.tape, HB.out.output, HB.out.size, HB.out.block⟩
      have HSZS : Hid (Calls Tryd.prog 5 #[.int .i64 s] wa.drew fun e w' => e = .returned (.int .i64 (mem8 s).length) ∧ Below wa.drew.heap.size wa.drew w') := size8_any s wa.drew (by omega)
      have HSB : Hid (s < 2 ^ n) := by rw [← HTN.out]; exact hst
      have kI : (k : Int) < (l.length : Int) := by omega
      have kI0 : (0 : Int) ≤ (k : Int) := by omega
      clear hz hpk
      go_wp2
      refine wp_region_held_drew (S := fun w' => w'.cell? ⟨lb, lq + k, none⟩ = some (.int .i64 z)) (by kernel_rfl) hcz (fun hHeld => ?_)
      refine wpAnyH_tk (i := 0) (d := 33) (v := (.slice (some ⟨lb, lq, none⟩) l.length lc)) rfl rfl (by kernel_rfl) (by kernel_rfl) (by kernel_rfl) (fun _ _ _ h => h) (.inl ⟨by rfl, by (intro wq hSw; (try dsimp only at hSw); go_simp)⟩) hHeld ?_
      simp only [Act.put, List.setIfInBounds_toArray, List.set_cons_zero, List.set_cons_succ]
      refine wpAnyH_tk (i := 1) (d := 34) (v := (.int .i64 k)) rfl rfl (by kernel_rfl) (by kernel_rfl) (by kernel_rfl) (fun _ _ _ h => h) (.inl ⟨by rfl, by (intro wq hSw; (try dsimp only at hSw); go_simp)⟩) hHeld ?_
      simp only [Act.put, List.setIfInBounds_toArray, List.set_cons_zero, List.set_cons_succ]
      refine wpAnyH_tk (i := 2) (d := 35) (v := (.pointer (some ⟨lb, lq + k, none⟩))) rfl rfl (by kernel_rfl) (by kernel_rfl) (by kernel_rfl) (fun _ _ _ h => h) (.inl ⟨by rfl, by (intro wq hSw; (try dsimp only at hSw); go_simp)⟩) hHeld ?_
      simp only [Act.put, List.setIfInBounds_toArray, List.set_cons_zero, List.set_cons_succ]
      refine wpAnyH_tk (i := 3) (d := 36) (v := (.int .i64 z)) rfl rfl (by kernel_rfl) (by kernel_rfl) (by kernel_rfl) (fun _ _ _ h => h) (.inl ⟨by rfl, by (intro wq hSw; (try dsimp only at hSw); go_simp)⟩) hHeld ?_
      simp only [Act.put, List.setIfInBounds_toArray, List.set_cons_zero, List.set_cons_succ]
      refine wpAnyH_tk (i := 4) (d := 37) (v := (.int .i64 n)) rfl rfl (by kernel_rfl) (by kernel_rfl) (by kernel_rfl) (fun _ _ _ h => h) (.inl ⟨by rfl, by (intro wq hSw; (try dsimp only at hSw); go_simp)⟩) hHeld ?_
      simp only [Act.put, List.setIfInBounds_toArray, List.set_cons_zero, List.set_cons_succ]
      refine wpAnyH_tk (i := 5) (d := 38) (v := (.int .i64 tn)) rfl rfl (by kernel_rfl) (by kernel_rfl) (by kernel_rfl) (fun _ _ _ h => h) (.inl ⟨by rfl, by (intro wq hSw; (try dsimp only at hSw); go_simp)⟩) hHeld ?_
      simp only [Act.put, List.setIfInBounds_toArray, List.set_cons_zero, List.set_cons_succ]
      refine wpAnyH_ready (rs := [6]) (by kernel_rfl) (by simp) ?_
      refine ready_tk (i := 6) rfl (by rfl) (fun K hK => ?_) AllReadyH.nil
      go_simp
      refine HPK.out.mono ?_
      rintro e w3 ⟨rfl, hw3⟩
      subst hw3
      refine hK.out _ _ hHeld (fun hHeld => ?_)
      clear hK K
      refine wpAnyH_tk (i := 7) (d := 9) (v := (.int .i64 s)) rfl rfl (by kernel_rfl) (by kernel_rfl) (by kernel_rfl) (fun _ _ _ h => h) (.inl ⟨by rfl, by (intro wq hSw; (try dsimp only at hSw); go_simp)⟩) hHeld ?_
      simp only [Act.put, List.setIfInBounds_toArray, List.set_cons_zero, List.set_cons_succ]
      refine wpAnyH_done (by kernel_rfl) ?_ _
      clear hHeld hcz
      have HOD : Hid (wa.drew.ownsRow w2.heap.size 3 1 u7 al.length (ints al)) := ⟨HO.out.1, HO.out.2⟩
      generalize wa.drew = wd at *
      generalize hms : (mem8 s).length = ms at *
      have HMS : Hid ((mem8 s).length = ms) := hms
      clear hms
      go_wp2_with fail
      refine HSZS.out.mono ?_
      rintro e w4 ⟨rfl, hb4⟩
      have HB4 : Hid (Below w2.heap.size w2 w4) := HB2.out.trans (hb4.mono HB2.out.size)
      have HO4 : Hid (w4.ownsRow w2.heap.size 3 1 u7 al.length (ints al)) := own_keepR HOD.out (fun b hb => hb4.block b (HOD.out.lt b hb).2)
      clear hb4
      have hszr : w2.heap.size ≤ w4.heap.size := HB4.out.size
      have hal2 : al.length ≤ 40 := by have := HAL.out; omega
      by_cases hme : ms = sz
      · have t1 : ((ms : Int) == (sz : Int)) = true := by rw [hme]; simp
        have HNS : Hid (Siz n sz (al ++ [(s : Int)])) := fun x hx => by
          rcases List.mem_append.1 hx with hx | hx
          · exact HSI.out x hx
          · exact ⟨s, by simpa using hx, HSB.out, by rw [HMS.out, hme]⟩
        clear hme
        go_wp2_with (first | (at_builtin; refine wpList_append_own _ rfl _ _ 22 rfl w2.heap.size 3 i3 (.int .i64 0) 1 8 Tryd.underlying22 hi3 hz30 hz31 hz32 rfl (by decide) _ _ _ rfl (HO4.out.alloc _) ⟨w4.heap.size, 0, none⟩ 1 1 [.int .i64 s] rfl rfl (one_new _ _ _) (one_int _) ?c3 ?c4 ?c5 ?_))
        case c3 => unfold maxLen; omega
        case c4 => omega
        case c5 => first | exact hszr | omega | (simp; omega)
        intro v' w5 ho5 hg5 _
        have R1 : Hid (w5.ownsRow w2.heap.size 3 1 v' (al ++ [(s : Int)]).length (ints (al ++ [(s : Int)]))) := by
          have e2 : ints (al ++ [(s : Int)]) = ints al ++ [.int .i64 (s : Int)] := by simp [ints]
          show World.ownsRow _ _ _ _ _ _ _
          rw [e2, List.length_append, List.length_singleton]
          exact ho5
        have R2 : Hid (Below w2.heap.size w2 w5) := (HB4.out.alloc hszr _).grown hg5 (by simp; omega) (fun x hx => (HO4.out.lt x hx).1)
        clear ho5 hg5
        go_wp2
        exact ⟨⟨k + 1, _, by omega, by go_num, R1.out, HNS.out, by rw [List.length_append, List.length_singleton]; have := HAL.out; omega, R2.out⟩, by simp [intOf]; omega⟩
      · have t1 : ((ms : Int) == (sz : Int)) = false := by rw [beq_eq_false_iff_ne]; omega
        clear hme
        go_wp2
        exact ⟨⟨k + 1, al, by omega, by go_num, HO4.out, HSI.out, by have := HAL.out; omega, HB4.out⟩, by simp [intOf]; omega⟩
    · have hke : k = l.length := by omega
      subst hke
      obtain ⟨xo, xc, hu⟩ := owns_form HO.out
      subst hu
      have hal2 : al.length ≤ 40 := by have := HAL.out; omega
      have HRI : Hid (Calls Tryd.prog 6 #[.slice xo al.length xc] wa fun e w' => ∃ bo bc bs, e = .returned (.slice bo bs.length bc) ∧ Sl 0 3 w' (.slice bo bs.length bc) (ints bs) ∧ Ris bs ∧ (∀ x, x ∈ bs ↔ x ∈ al) ∧ bs.length ≤ 40 ∧ Below wa.heap.size wa w') := (rising_any al _ wa ((Sl.own (B := 0) HO.out).more (Nat.zero_le _)) (by omega)).mono (by
        rintro e w' ⟨u, out, rfl, h1, h2, h3, h4, h5⟩
        obtain ⟨bo, bc, rfl⟩ := owns_form h1
        exact ⟨bo, bc, out, rfl, Sl.own h1, h2, h3, by omega, h5⟩)
      go_wp2_with fail
      refine HRI.out.mono ?_
      rintro e w3 ⟨bo, bc, bs, rfl, hsb, hris, hmem, hbl, hb3⟩
      have HSI3 : Hid (Siz n sz bs) := fun x hx => HSI.out x ((hmem x).1 hx)
      have HRS : Hid (Ris bs) := hris
      have HB3 : Hid (Below w2.heap.size w2 w3) := HB.out.trans (hb3.mono HB.out.size)
      have HSL : Hid (Sl 0 3 w3 (.slice bo bs.length bc) (ints bs)) := hsb
      clear hsb hris hmem hb3 HRI
      have h8n : n ≤ 8 := by omega
      obtain ⟨Wm, hWm⟩ : ∃ Wm, Wm = w3.alloc (.cells #[.int .i64 n, .slice bo bs.length bc] 27) := ⟨_, rfl⟩
      have hbm : Below w3.heap.size w3 Wm := by rw [hWm]; exact (Below.refl _ _).alloc (Nat.le_refl _) _
      have HBM : Hid (Below w2.heap.size w2 Wm) := HB3.out.trans (hbm.mono HB3.out.size)
      have c0 : Wm.cell? ⟨w3.heap.size, 0, none⟩ = some (.int .i64 n) := by rw [hWm]; simp
      have c1 : Wm.cell? ⟨w3.heap.size, 1, none⟩ = some (.slice bo bs.length bc) := by rw [hWm]; simp
      have HSM : Hid (Sl 0 3 Wm (.slice bo bs.length bc) (ints bs)) := HSL.out.below hbm (Nat.le_refl _)
      have HC : Hid (∀ W', Below Wm.heap.size Wm W' → W'.cell? ⟨w3.heap.size, 0, none⟩ = some (.int .i64 n) ∧ W'.cell? ⟨w3.heap.size, 1, none⟩ = some (.slice bo bs.length bc) ∧ Sl 0 3 W' (.slice bo bs.length bc) (ints bs) ∧ Below w2.heap.size w2 W') := fun W' h =>
        ⟨(h.cell (lt_of_cell c0)).trans c0, (h.cell (lt_of_cell c1)).trans c1, HSM.out.below h (Nat.le_refl _), HBM.out.trans (h.mono HBM.out.size)⟩
      have HCK : Hid (Calls Tryd.prog 7 #[.agg #[.int .i64 n, .slice bo bs.length bc]] Wm fun e w' => e = .returned (.int .i64 (matE n bs)) ∧ Below Wm.heap.size Wm w') :=
        checkM_any n bs _ Wm (HSM.out.more (Nat.zero_le _)) (by omega) (HV.out Wm HBM.out).2
      have HMI : Hid (∀ W' (a b : Nat), Below Wm.heap.size Wm W' → a < 2 ^ n → b < 2 ^ n → Calls Tryd.prog 9 #[.agg #[.int .i64 n, .slice bo bs.length bc], .int .i64 a, .int .i64 b] W' fun e w' => e = .returned (.bool (missB bs n a b)) ∧ Below W'.heap.size W' w') := fun W' a b h ha hb =>
        misses_any bs n a b _ W' ((HC.out W' h).2.2.1.more (Nat.zero_le _)) h8n ha hb (fun x hx => by
          obtain ⟨B, h1, h2, _⟩ := HSI3.out x hx
          exact ⟨B, h1, h2⟩)
      have HEX : Hid (exB bs = true ↔ AllY bs) := exB_iff (siz_b8 h8n HSI3.out)
      have HRD : Hid (∀ A B x : Nat, (A : Int) ∈ bs → (B : Int) ∈ bs → A.testBit x = true → (missB bs n (outN A (2 ^ x)) B = true ↔ ¬ HasY bs (outN A (2 ^ x)) B)) := fun A B x hA hB hx => (siz_rad h8n HSI3.out hA hB hx).miss HSZ.out
      go_wp2_with fail
      rw [← hWm]
      clear hWm hbm
      refine HCK.out.mono ?_
      rintro e w4 ⟨rfl, hb4⟩
      have HB4 : Hid (Below Wm.heap.size Wm w4) := hb4
      obtain ⟨d0, d1, -, hbw4⟩ := HC.out w4 hb4
      have HBW4 : Hid (Below w2.heap.size w2 w4) := hbw4
      clear hb4 hbw4 HCK c0 c1
      by_cases hl0 : bs.length = 0
      · have hE : matE n bs = 6 := by unfold matE; rw [if_neg (by omega), if_pos hl0]
        have t1 : ((bs.length : Int) == 0) = true := by rw [hl0]; rfl
        rw [hE]
        clear hE
        obtain ⟨q, hq⟩ : ∃ q, q = bs.length := ⟨_, rfl⟩
        rw [← hq] at t1 d1 ⊢
        clear hq hl0
        go_wp2
        go_ret
        exact ⟨rfl, HBW4.out⟩
      · have t1 : ((bs.length : Int) == 0) = false := by rw [beq_eq_false_iff_ne]; omega
        have HME : Hid (matE n bs = if exB bs = true then 0 else 3) := siz_mat h8n HSI3.out HRS.out (by omega)
        have HAB : Hid (∀ i, i < bs.length → ∃ B : Nat, bs.getD i 0 = (B : Int) ∧ B < 2 ^ n ∧ (B : Int) ∈ bs) := fun i hi => by
          have hm : bs.getD i 0 ∈ bs := by simp [hi]
          obtain ⟨B, h1, h2, _⟩ := HSI3.out _ hm
          exact ⟨B, h1, h2, by rw [← h1]; exact hm⟩
        generalize matE n bs = E at *
        have HT8 : Hid (2 ^ n ≤ 256) := by rw [← HTN.out]; exact htl
        go_wp2
        clear d0 d1
        go_loopw [12, 13] (fun mv i wr => ∃ (k : Nat) (mb : Bool), k ≤ bs.length ∧ i = .int .i64 k ∧ mv = .bool mb ∧ (mb = false → PI bs k) ∧ (mb = true → ¬ AllY bs) ∧ Below Wm.heap.size Wm wr) (fun _ i _ => bs.length - (intOf i).toNat)
        case atStart => exact ⟨0, false, Nat.zero_le _, rfl, rfl, fun _ i' h => by omega, fun h => (by cases h), HB4.out⟩
        case round =>
          obtain ⟨i, mb, hi, rfl, rfl, hpi, hno, hbr⟩ := hrel
          have HPI : Hid (mb = false → PI bs i) := hpi
          have HNO : Hid (mb = true → ¬ AllY bs) := hno
          have HBI : Hid (Below Wm.heap.size Wm wr) := hbr
          clear hpi hno hbr
          obtain ⟨wi, rfl⟩ : ∃ wi, wi = wr := ⟨wr, rfl⟩
          obtain ⟨d0, d1, -, hbw⟩ := HC.out wi HBI.out
          have HBWI : Hid (Below w2.heap.size w2 wi) := hbw
          clear hbw
          by_cases hgo : i < bs.length ∧ mb = false
          · obtain ⟨hil, hmb⟩ := hgo
            subst hmb
            have HP0 : Hid (PI bs i) := HPI.out rfl
            obtain ⟨A, hA, hAt, hAm⟩ := HAB.out i hil
            have HAV : Hid (bs.getD i 0 = (A : Int) ∧ A < 2 ^ n ∧ (A : Int) ∈ bs ∧ A < 256) := ⟨hA, hAt, hAm, Nat.lt_of_lt_of_le hAt HT8.out⟩
            have iI : (i : Int) < (bs.length : Int) := by omega
            have iI0 : (0 : Int) ≤ (i : Int) := by omega
            clear hA hAt hAm HPI HNO
            go_wp2
            clear d0 d1
            go_loopw [12, 14] (fun mv j wr => ∃ (k : Nat) (mb : Bool), k ≤ bs.length ∧ j = .int .i64 k ∧ mv = .bool mb ∧ (mb = false → PK bs A k) ∧ (mb = true → ¬ AllY bs) ∧ Below Wm.heap.size Wm wr) (fun _ j _ => bs.length - (intOf j).toNat)
            case atStart => exact ⟨0, false, Nat.zero_le _, rfl, rfl, fun _ i' h => by omega, fun h => (by cases h), HBI.out⟩
            case round =>
              obtain ⟨j, mb, hj, rfl, rfl, hpk, hno, hbr⟩ := hrel
              have HPK : Hid (mb = false → PK bs A j) := hpk
              have HNO : Hid (mb = true → ¬ AllY bs) := hno
              have HBJ : Hid (Below Wm.heap.size Wm wr) := hbr
              clear hpk hno hbr HBI HBWI
              obtain ⟨wj, rfl⟩ : ∃ wj, wj = wr := ⟨wr, rfl⟩
              obtain ⟨d0, d1, hsl, -⟩ := HC.out wj HBJ.out
              by_cases hgo : j < bs.length ∧ mb = false
              · obtain ⟨hjl, hmb⟩ := hgo
                subst hmb
                have HP1' : Hid (PK bs A j) := HPK.out rfl
                obtain ⟨B, hB, hBt, hBm⟩ := HAB.out j hjl
                have HBV : Hid (bs.getD j 0 = (B : Int) ∧ B < 2 ^ n ∧ (B : Int) ∈ bs) := ⟨hB, hBt, hBm⟩
                obtain ⟨gb, gq, _, hs, _, hci⟩ := sl_cell hsl hil
                simp only [Value.slice.injEq] at hs
                obtain ⟨rfl, -, -⟩ := hs
                rw [HAV.out.1] at hci
                have HMM : Hid (Calls Tryd.prog 8 #[.int .i64 A] wj fun e w' => ∃ uo uc, e = .returned (.slice uo (mem8 A).length uc) ∧ Sl 0 3 w' (.slice uo (mem8 A).length uc) (ints (mem8 A)) ∧ Below wj.heap.size wj w') := (members8_any A wj HAV.out.2.2.2).mono (by
                  rintro e w' ⟨u, rfl, h1, h2⟩
                  obtain ⟨uo, uc, rfl⟩ := owns_form h1
                  exact ⟨uo, uc, rfl, Sl.own h1, h2⟩)
                have jI : (j : Int) < (bs.length : Int) := by omega
                have jI0 : (0 : Int) ≤ (j : Int) := by omega
                have HMX : Hid (∀ z ∈ mem8 A, ∃ x : Nat, z = (x : Int) ∧ x < 8 ∧ A.testBit x = true) := fun z hz => by
                  obtain ⟨x, h1, h2, h3⟩ := mem8_iff.1 hz
                  exact ⟨x, h3.symm, h1, h2⟩
                have HXK : Hid (PX bs A B (mem8 A) (mem8 A).length → PK bs A (j + 1)) := px_pk HAV.out.2.2.2 HP1'.out HBV.out.1
                have hml := mem8_len A
                clear hB hBt hBm hsl HPK HNO
                generalize mem8 A = M at *
                go_wp2_with fail
                refine HMM.out.mono ?_
                rintro e w5 ⟨mo, mc, rfl, hs5, hb5⟩
                have HS5 : Hid (Sl 0 3 w5 (.slice mo M.length mc) (ints M)) := hs5
                have HB5 : Hid (Below Wm.heap.size Wm w5) := HBJ.out.trans (hb5.mono HBJ.out.size)
                clear hs5 hb5 d0 d1 hci HMM
                go_wp2
                go_loopw [12, 16] (fun mv t wr => ∃ (k : Nat) (mb : Bool), k ≤ M.length ∧ t = .int .i64 k ∧ mv = .bool mb ∧ (mb = false → PX bs A B M k) ∧ (mb = true → ¬ AllY bs) ∧ Below w5.heap.size w5 wr) (fun _ t _ => M.length - (intOf t).toNat)
                case atStart => exact ⟨0, false, Nat.zero_le _, rfl, rfl, fun _ i' h => by omega, fun h => (by cases h), Below.refl _ _⟩
                case round =>
                  obtain ⟨t, mb, ht, rfl, rfl, hpx, hno, hbr⟩ := hrel
                  have HPX : Hid (mb = false → PX bs A B M t) := hpx
                  have HNO : Hid (mb = true → ¬ AllY bs) := hno
                  have HBT : Hid (Below w5.heap.size w5 wr) := hbr
                  clear hpx hno hbr
                  obtain ⟨wt, rfl⟩ : ∃ wt, wt = wr := ⟨wr, rfl⟩
                  have HBM5 : Hid (Below Wm.heap.size Wm wt) := HB5.out.trans (HBT.out.mono HB5.out.size)
                  by_cases hgo : t < M.length ∧ mb = false
                  · obtain ⟨htl2, hmb⟩ := hgo
                    subst hmb
                    have HP2' : Hid (PX bs A B M t) := HPX.out rfl
                    obtain ⟨d0, d1, hsl, -⟩ := HC.out wt HBM5.out
                    obtain ⟨gb, gq, _, hs, _, hci⟩ := sl_cell hsl hil
                    simp only [Value.slice.injEq, Option.some.injEq, Addr.mk.injEq, and_true] at hs
                    obtain ⟨⟨rfl, rfl⟩, -, -⟩ := hs
                    obtain ⟨gb, gq, _, hs, _, hcj⟩ := sl_cell hsl hjl
                    simp only [Value.slice.injEq, Option.some.injEq, Addr.mk.injEq, and_true] at hs
                    obtain ⟨⟨rfl, rfl⟩, -, -⟩ := hs
                    obtain ⟨mb', mq, _, hs, _, hcm'⟩ := sl_cell (HS5.out.below HBT.out (Nat.le_refl _)) htl2
                    simp only [Value.slice.injEq] at hs
                    obtain ⟨rfl, -, -⟩ := hs
                    obtain ⟨x, hx, hx8, hxb⟩ := HMX.out (M.getD t 0) (by simp [htl2])
                    rw [HAV.out.1] at hci
                    rw [HBV.out.1] at hcj
                    rw [hx] at hcm'
                    have hnum := sub_num A HAV.out.2.2.2 x hx8 hxb
                    obtain ⟨a, ha⟩ : ∃ a, a = outN A (2 ^ x) := ⟨_, rfl⟩
                    have halt : a < 2 ^ n := by rw [ha]; exact Nat.lt_of_le_of_lt (outN_le _ _) HAV.out.2.1
                    have HRR : Hid (missB bs n a B = true ↔ ¬ HasY bs a B) := by rw [ha]; exact HRD.out A B x HAV.out.2.2.1 HBV.out.2.2 hxb
                    have HNXT : Hid (HasY bs a B → PX bs A B M (t + 1)) := fun h t' ht' x' hx' => by
                      by_cases e : t' = t
                      · subst e
                        have : x' = x := by omega
                        subst this
                        rw [← ha]; exact h
                      · exact HP2'.out t' (by omega) x' hx'
                    have HBAD : Hid (¬ HasY bs a B → ¬ AllY bs) := fun h hall => h (by rw [ha]; exact hall A B x HAV.out.2.2.1 HBV.out.2.2 hxb)
                    rw [← ha] at hnum
                    obtain ⟨px, hpx⟩ : ∃ px : Nat, px = 2 ^ x := ⟨_, rfl⟩
                    have hp1 := pow8_le x (by omega)
                    have hpxi : (2 : Int) ^ x = (px : Int) := by rw [hpx]; simp
                    rw [hpxi] at hp1
                    rw [← hpx] at hnum
                    have ha256 := HAV.out.2.2.2
                    have s1 : IntKind.i64.wrap (px : Int) = (px : Int) := wrap_small (by omega)
                    have s2 : IntKind.i64.wrap ((A : Int) - (px : Int)) = (a : Int) := by
                      rw [show ((A : Int) - (px : Int)) = (a : Int) by omega]; exact wrap_small (by omega)
                    have HCM : Hid (Calls Tryd.prog 9 #[.agg #[.int .i64 n, .slice (some ⟨gb, gq, none⟩) bs.length bc], .int .i64 a, .int .i64 B] wt.drew fun e w' => e = .returned (.bool (missB bs n a B)) ∧ (Below w5.heap.size w5 w' ∧ (w'.cell? ⟨w3.heap.size, 0, none⟩ = some (.int .i64 n) ∧ w'.cell? ⟨w3.heap.size, 1, none⟩ = some (.slice (some ⟨gb, gq, none⟩) bs.length bc) ∧ w'.cell? ⟨gb, gq + i, none⟩ = some (.int .i64 A) ∧ w'.cell? ⟨mb', mq + t, none⟩ = some (.int .i64 x) ∧ w'.cell? ⟨gb, gq + j, none⟩ = some (.int .i64 B)))) := (HMI.out wt.drew a B ⟨HBM5.out.os, HBM5.out.tape, HBM5.out.output, HBM5.out.size, HBM5.out.block⟩ halt HBV.out.2.1).mono (by
                      rintro e w' ⟨h1, h2⟩
                      have h3 : Below wt.heap.size wt w' := ⟨h2.os, h2.tape, h2.output, h2.size, h2.block⟩
                      exact ⟨h1, HBT.out.trans (h3.mono HBT.out.size), (h3.cell (lt_of_cell d0)).trans d0, (h3.cell (lt_of_cell d1)).trans d1, (h3.cell (lt_of_cell hci)).trans hci, (h3.cell (lt_of_cell hcm')).trans hcm', (h3.cell (lt_of_cell hcj)).trans hcj⟩)
                    have tI : (t : Int) < (M.length : Int) := by omega
                    have tI0 : (0 : Int) ≤ (t : Int) := by omega
                    clear hx hxb hnum ha halt hpx hp1 ha256 hsl HPX HNO
                    generalize missB bs n a B = mB at *
                    go_wp2
                    refine wp_region_held_drew (S := fun w' => w'.cell? ⟨w3.heap.size, 0, none⟩ = some (.int .i64 n) ∧ w'.cell? ⟨w3.heap.size, 1, none⟩ = some (.slice (some ⟨gb, gq, none⟩) bs.length bc) ∧ w'.cell? ⟨gb, gq + i, none⟩ = some (.int .i64 A) ∧ w'.cell? ⟨mb', mq + t, none⟩ = some (.int .i64 x) ∧ w'.cell? ⟨gb, gq + j, none⟩ = some (.int .i64 B)) (by kernel_rfl) ⟨d0, d1, hci, hcm', hcj⟩ (fun hHeld => ?_)
                    refine wpAnyH_tk (i := 0) (d := 98) (v := (.agg #[.int .i64 n, .slice (some ⟨gb, gq, none⟩) bs.length bc])) rfl rfl (by kernel_rfl) (by kernel_rfl) (by kernel_rfl) (fun _ _ _ h => h) (.inl ⟨by rfl, by (intro wq hSw; (try dsimp only at hSw); go_simp)⟩) hHeld ?_
                    simp only [Act.put, List.setIfInBounds_toArray, List.set_cons_zero, List.set_cons_succ]
                    refine wpAnyH_tk (i := 1) (d := 99) (v := (.pointer (some ⟨w3.heap.size, 1, none⟩))) rfl rfl (by kernel_rfl) (by kernel_rfl) (by kernel_rfl) (fun _ _ _ h => h) (.inl ⟨by rfl, by (intro wq hSw; (try dsimp only at hSw); go_simp)⟩) hHeld ?_
                    simp only [Act.put, List.setIfInBounds_toArray, List.set_cons_zero, List.set_cons_succ]
                    refine wpAnyH_tk (i := 2) (d := 100) (v := (.slice (some ⟨gb, gq, none⟩) bs.length bc)) rfl rfl (by kernel_rfl) (by kernel_rfl) (by kernel_rfl) (fun _ _ _ h => h) (.inl ⟨by rfl, by (intro wq hSw; (try dsimp only at hSw); go_simp)⟩) hHeld ?_
                    simp only [Act.put, List.setIfInBounds_toArray, List.set_cons_zero, List.set_cons_succ]
                    refine wpAnyH_tk (i := 3) (d := 101) (v := (.int .i64 i)) rfl rfl (by kernel_rfl) (by kernel_rfl) (by kernel_rfl) (fun _ _ _ h => h) (.inl ⟨by rfl, by (intro wq hSw; (try dsimp only at hSw); go_simp)⟩) hHeld ?_
                    simp only [Act.put, List.setIfInBounds_toArray, List.set_cons_zero, List.set_cons_succ]
                    refine wpAnyH_tk (i := 4) (d := 102) (v := (.pointer (some ⟨gb, gq + i, none⟩))) rfl rfl (by kernel_rfl) (by kernel_rfl) (by kernel_rfl) (fun _ _ _ h => h) (.inl ⟨by rfl, by (intro wq hSw; (try dsimp only at hSw); go_simp)⟩) hHeld ?_
                    simp only [Act.put, List.setIfInBounds_toArray, List.set_cons_zero, List.set_cons_succ]
                    refine wpAnyH_tk (i := 5) (d := 103) (v := (.int .i64 A)) rfl rfl (by kernel_rfl) (by kernel_rfl) (by kernel_rfl) (fun _ _ _ h => h) (.inl ⟨by rfl, by (intro wq hSw; (try dsimp only at hSw); go_simp)⟩) hHeld ?_
                    simp only [Act.put, List.setIfInBounds_toArray, List.set_cons_zero, List.set_cons_succ]
                    refine wpAnyH_tk (i := 6) (d := 104) (v := (.slice (some ⟨mb', mq, none⟩) M.length mc)) rfl rfl (by kernel_rfl) (by kernel_rfl) (by kernel_rfl) (fun _ _ _ h => h) (.inl ⟨by rfl, by (intro wq hSw; (try dsimp only at hSw); go_simp)⟩) hHeld ?_
                    simp only [Act.put, List.setIfInBounds_toArray, List.set_cons_zero, List.set_cons_succ]
                    refine wpAnyH_tk (i := 7) (d := 105) (v := (.int .i64 t)) rfl rfl (by kernel_rfl) (by kernel_rfl) (by kernel_rfl) (fun _ _ _ h => h) (.inl ⟨by rfl, by (intro wq hSw; (try dsimp only at hSw); go_simp)⟩) hHeld ?_
                    simp only [Act.put, List.setIfInBounds_toArray, List.set_cons_zero, List.set_cons_succ]
                    refine wpAnyH_tk (i := 8) (d := 106) (v := (.pointer (some ⟨mb', mq + t, none⟩))) rfl rfl (by kernel_rfl) (by kernel_rfl) (by kernel_rfl) (fun _ _ _ h => h) (.inl ⟨by rfl, by (intro wq hSw; (try dsimp only at hSw); go_simp)⟩) hHeld ?_
                    simp only [Act.put, List.setIfInBounds_toArray, List.set_cons_zero, List.set_cons_succ]
                    refine wpAnyH_tk (i := 9) (d := 107) (v := (.int .i64 x)) rfl rfl (by kernel_rfl) (by kernel_rfl) (by kernel_rfl) (fun _ _ _ h => h) (.inl ⟨by rfl, by (intro wq hSw; (try dsimp only at hSw); go_simp)⟩) hHeld ?_
                    simp only [Act.put, List.setIfInBounds_toArray, List.set_cons_zero, List.set_cons_succ]
                    refine wpAnyH_tk (i := 10) (d := 108) (v := (.int .i64 px)) rfl rfl (by kernel_rfl) (by kernel_rfl) (by kernel_rfl) (fun _ _ _ h => h) (.inl ⟨by rfl, by (intro wq hSw; (try dsimp only at hSw); go_simp)⟩) hHeld ?_
                    simp only [Act.put, List.setIfInBounds_toArray, List.set_cons_zero, List.set_cons_succ]
                    refine wpAnyH_tk (i := 11) (d := 109) (v := (.int .i64 a)) rfl rfl (by kernel_rfl) (by kernel_rfl) (by kernel_rfl) (fun _ _ _ h => h) (.inl ⟨by rfl, by (intro wq hSw; (try dsimp only at hSw); go_simp)⟩) hHeld ?_
                    simp only [Act.put, List.setIfInBounds_toArray, List.set_cons_zero, List.set_cons_succ]
                    refine wpAnyH_tk (i := 12) (d := 110) (v := (.pointer (some ⟨w3.heap.size, 1, none⟩))) rfl rfl (by kernel_rfl) (by kernel_rfl) (by kernel_rfl) (fun _ _ _ h => h) (.inl ⟨by rfl, by (intro wq hSw; (try dsimp only at hSw); go_simp)⟩) hHeld ?_
                    simp only [Act.put, List.setIfInBounds_toArray, List.set_cons_zero, List.set_cons_succ]
                    refine wpAnyH_tk (i := 13) (d := 111) (v := (.slice (some ⟨gb, gq, none⟩) bs.length bc)) rfl rfl (by kernel_rfl) (by kernel_rfl) (by kernel_rfl) (fun _ _ _ h => h) (.inl ⟨by rfl, by (intro wq hSw; (try dsimp only at hSw); go_simp)⟩) hHeld ?_
                    simp only [Act.put, List.setIfInBounds_toArray, List.set_cons_zero, List.set_cons_succ]
                    refine wpAnyH_tk (i := 14) (d := 112) (v := (.int .i64 j)) rfl rfl (by kernel_rfl) (by kernel_rfl) (by kernel_rfl) (fun _ _ _ h => h) (.inl ⟨by rfl, by (intro wq hSw; (try dsimp only at hSw); go_simp)⟩) hHeld ?_
                    simp only [Act.put, List.setIfInBounds_toArray, List.set_cons_zero, List.set_cons_succ]
                    refine wpAnyH_tk (i := 15) (d := 113) (v := (.pointer (some ⟨gb, gq + j, none⟩))) rfl rfl (by kernel_rfl) (by kernel_rfl) (by kernel_rfl) (fun _ _ _ h => h) (.inl ⟨by rfl, by (intro wq hSw; (try dsimp only at hSw); go_simp)⟩) hHeld ?_
                    simp only [Act.put, List.setIfInBounds_toArray, List.set_cons_zero, List.set_cons_succ]
                    refine wpAnyH_tk (i := 16) (d := 114) (v := (.int .i64 B)) rfl rfl (by kernel_rfl) (by kernel_rfl) (by kernel_rfl) (fun _ _ _ h => h) (.inl ⟨by rfl, by (intro wq hSw; (try dsimp only at hSw); go_simp)⟩) hHeld ?_
                    simp only [Act.put, List.setIfInBounds_toArray, List.set_cons_zero, List.set_cons_succ]
                    refine wpAnyH_ready (rs := [17]) (by kernel_rfl) (by simp) ?_
                    refine ready_tk (i := 17) rfl (by rfl) (fun K hK => ?_) AllReadyH.nil
                    go_simp
                    refine HCM.out.mono ?_
                    rintro e w6 ⟨rfl, hb6⟩
                    have HB6 : Hid (Below w5.heap.size w5 w6) := hb6.1
                    have HK6 := hb6.2
                    clear hb6
                    refine hK.out _ _ HK6 (fun hHeld => ?_)
                    clear hK K HK6
                    refine wpAnyH_tk (i := 18) (d := 12) (v := (.bool mB)) rfl rfl (by kernel_rfl) (by kernel_rfl) (by kernel_rfl) (fun _ _ _ h => h) (.inl ⟨by rfl, by (intro wq hSw; (try dsimp only at hSw); go_simp)⟩) hHeld ?_
                    simp only [Act.put, List.setIfInBounds_toArray, List.set_cons_zero, List.set_cons_succ]
                    refine wpAnyH_done (by kernel_rfl) ?_ _
                    clear hHeld d0 d1 hci hcj hcm'
                    cases mB
                    · have HH : Hid (PX bs A B M (t + 1)) := HNXT.out (Classical.byContradiction fun h => absurd (HRR.out.2 h) (by decide))
                      go_wp2
                      exact ⟨⟨t + 1, false, by omega, by go_num, rfl, fun _ => HH.out, fun h => (by cases h), HB6.out⟩, by simp [intOf]; omega⟩
                    · have HH : Hid (¬ AllY bs) := HBAD.out (HRR.out.1 rfl)
                      go_wp2
                      exact ⟨⟨t + 1, true, by omega, by go_num, rfl, fun h => (by cases h), fun _ => HH.out, HB6.out⟩, by simp [intOf]; omega⟩
                  · -- end of the x loop
                    have HBZ : Hid (Below Wm.heap.size Wm wt) := HBM5.out
                    cases mb
                    · have hte : t = M.length := by
                        by_cases h : t < M.length
                        · exact absurd ⟨h, rfl⟩ hgo
                        · omega
                      subst hte
                      have HPK1 : Hid (PK bs A (j + 1)) := HXK.out (HPX.out rfl)
                      clear hgo
                      go_wp2
                      exact ⟨⟨j + 1, false, by omega, by go_num, rfl, fun _ => HPK1.out, fun h => (by cases h), HBZ.out⟩, by simp [intOf]; omega⟩
                    · have HNA : Hid (¬ AllY bs) := HNO.out rfl
                      clear hgo
                      by_cases htl2 : t < M.length
                      · have tI : (t : Int) < (M.length : Int) := by omega
                        go_wp2
                        exact ⟨⟨j + 1, true, by omega, by go_num, rfl, fun h => (by cases h), fun _ => HNA.out, HBZ.out⟩, by simp [intOf]; omega⟩
                      · have hte : t = M.length := by omega
                        subst hte
                        go_wp2
                        exact ⟨⟨j + 1, true, by omega, by go_num, rfl, fun h => (by cases h), fun _ => HNA.out, HBZ.out⟩, by simp [intOf]; omega⟩
              · clear hsl
                cases mb
                · have hje : j = bs.length := by
                    by_cases h : j < bs.length
                    · exact absurd ⟨h, rfl⟩ hgo
                    · omega
                  subst hje
                  have HPI1 : Hid (PI bs (i + 1)) := pk_pi HP0.out HAV.out.1 (HPK.out rfl)
                  clear hgo
                  go_wp2
                  exact ⟨⟨i + 1, false, by omega, by go_num, rfl, fun _ => HPI1.out, fun h => (by cases h), HBJ.out⟩, by simp [intOf]; omega⟩
                · have HNA : Hid (¬ AllY bs) := HNO.out rfl
                  clear hgo
                  by_cases hjl : j < bs.length
                  · have jI : (j : Int) < (bs.length : Int) := by omega
                    go_wp2
                    exact ⟨⟨i + 1, true, by omega, by go_num, rfl, fun h => (by cases h), fun _ => HNA.out, HBJ.out⟩, by simp [intOf]; omega⟩
                  · have hje : j = bs.length := by omega
                    subst hje
                    go_wp2
                    exact ⟨⟨i + 1, true, by omega, by go_num, rfl, fun h => (by cases h), fun _ => HNA.out, HBJ.out⟩, by simp [intOf]; omega⟩
          · cases mb
            · have hie : i = bs.length := by
                by_cases h : i < bs.length
                · exact absurd ⟨h, rfl⟩ hgo
                · omega
              subst hie
              have HE0 : Hid (E = 0) := by
                show _ = _
                rw [HME.out, if_pos (HEX.out.2 (pi_all (HPI.out rfl)))]
              have hE0 := HE0.out
              subst hE0
              clear hgo
              go_wp2
              go_ret
              exact ⟨rfl, HBWI.out⟩
            · have HE0 : Hid (E = 3) := by
                show _ = _
                rw [HME.out, if_neg (fun h => HNO.out rfl (HEX.out.1 h))]
              have hE0 := HE0.out
              subst hE0
              clear hgo
              by_cases hil : i < bs.length
              · have iI : (i : Int) < (bs.length : Int) := by omega
                go_wp2
                go_ret
                exact ⟨rfl, HBWI.out⟩
              · have hie : i = bs.length := by omega
                subst hie
                go_wp2
                go_ret
                exact ⟨rfl, HBWI.out⟩

end Go.Proofs.YtaoadagpknhgiaaDoor
