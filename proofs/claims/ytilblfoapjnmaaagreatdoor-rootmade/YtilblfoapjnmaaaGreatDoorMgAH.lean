import Derived.Test.YtilblfoapjnmaaaGreatDoorMgAD
import Derived.Test.YtilblfoapjnmaaaGreatDoorMgAG
import Derived.Test.YtilblfoapjnmaaaGreatDoorMgAB
import Derived.Test.YtilblfoapjnmaaaGreatDoorMgAA
import Derived.Deep.RegionHeld3
import Derived.Deep.RegionLaw
import Derived.Deep.DrawnRows
/- What hangs together: the lists of parts (pure). -/
namespace Go.Proofs.YtilblfoapjnmaaaGreatDoor

theorem natsI_lenR (l : List Nat) : (natsI l).length = l.length := by simp [natsI]
theorem natsI_atR {l : List Nat} {k : Nat} (hk : k < l.length) : (natsI l).getD k 0 = ((l.getD k 0 : Nat) : Int) := by simp [natsI, hk]
theorem natsI_appR (l : List Nat) (i : Nat) : ints (natsI (l ++ [i])) = ints (natsI l) ++ [.int .i64 (i : Int)] := by simp [ints, natsI]

/-- One neighbour more of the k-th. -/
def bfS (c : List (List Int)) (k j : Nat) (l : List Nat) : List Nat :=
  if (!(cE c (l.getD k 0) j == 0) && !l.contains j) = true then l ++ [j] else l

/-- All neighbours of the k-th. -/
def bfI (c : List (List Int)) (k : Nat) : Nat → List Nat → List Nat
  | 0, l => l
  | j + 1, l => bfS c k j (bfI c k j l)

/-- One behind the other. -/
def bfO (c : List (List Int)) : Nat → Nat → List Nat → List Nat
  | 0, _, l => l
  | f + 1, k, l => if k < l.length then bfO c f (k + 1) (bfI c k c.length l) else l

/-- What hangs together with one. -/
def bfL (c : List (List Int)) (i : Nat) : List Nat := bfO c 5 0 [i]

/-- All numbers below n, none twice. -/
structure PaW (n : Nat) (l : List Nat) : Prop where
  lt : ∀ x ∈ l, x < n
  nd : l.Nodup

theorem PaW.len {n : Nat} {l : List Nat} (h : PaW n l) : l.length ≤ n := by
  have h2 : l.Perm (l.filter fun x => decide (x < n)) := by
    rw [List.filter_eq_self.2 fun x hx => by simpa using h.lt x hx]
  have : ∀ (m : Nat) (l : List Nat), l.Nodup → (∀ x ∈ l, x < m) → l.length ≤ m := by
    intro m
    induction m with
    | zero => intro l _ hl; cases l with | nil => simp | cons x l => exact absurd (hl x (by simp)) (by omega)
    | succ m ih =>
      intro l hn hl
      by_cases hm : m ∈ l
      · have h1 := ih (l.erase m) (hn.erase m) fun x hx => by
          have h3 := hl x (List.mem_of_mem_erase hx)
          have h4 : x ≠ m := fun e => by subst e; exact (List.Nodup.not_mem_erase hn) hx
          omega
        rw [List.length_erase_of_mem hm] at h1
        omega
      · have := ih l hn fun x hx => by
          have h3 := hl x hx
          have h4 : x ≠ m := fun e => by subst e; exact hm hx
          omega
        omega
  exact this n l h.nd h.lt

theorem bfS_ok {c : List (List Int)} {n k j : Nat} {l : List Nat} (h : PaW n l) (hj : j < n) : PaW n (bfS c k j l) ∧ l <+: bfS c k j l := by
  unfold bfS
  split
  · rename_i hc
    simp only [Bool.and_eq_true, Bool.not_eq_true'] at hc
    refine ⟨⟨fun x hx => ?_, ?_⟩, List.prefix_append _ _⟩
    · rcases List.mem_append.1 hx with hx | hx
      · exact h.lt x hx
      · rw [List.mem_singleton.1 hx]; exact hj
    · rw [List.nodup_append]
      refine ⟨h.nd, by simp, fun a ha b hb e => ?_⟩
      rw [List.mem_singleton] at hb
      subst hb; subst e
      have := hc.2
      rw [List.contains_iff_mem.2 ha] at this
      cases this
  · exact ⟨h, List.prefix_refl _⟩

theorem bfI_ok {c : List (List Int)} {n k : Nat} : ∀ {j : Nat} {l : List Nat}, PaW n l → j ≤ n → PaW n (bfI c k j l) ∧ l <+: bfI c k j l
  | 0, _, h, _ => ⟨h, List.prefix_refl _⟩
  | j + 1, l, h, hj => by
    obtain ⟨h1, h2⟩ := bfI_ok (c := c) (k := k) (j := j) h (by omega)
    obtain ⟨h3, h4⟩ := bfS_ok (c := c) (k := k) h1 (show j < n by omega)
    exact ⟨h3, h2.trans h4⟩

theorem pre_getN {l m : List Nat} {i : Nat} (h : l <+: m) (hi : i < l.length) : m.getD i 0 = l.getD i 0 := by
  obtain ⟨t, rfl⟩ := h
  simp only [List.getD_eq_getElem?_getD]
  rw [List.getElem?_append_left hi]

theorem bfO_ok {c : List (List Int)} {n : Nat} (hc : c.length = n) : ∀ (f k : Nat) (l : List Nat), PaW n l → PaW n (bfO c f k l)
  | 0, _, _, h => h
  | f + 1, k, l, h => by
    unfold bfO
    split
    · exact bfO_ok hc f _ _ (bfI_ok h (by omega)).1
    · exact h

theorem PaW.one {n i : Nat} (h : i < n) : PaW n [i] := ⟨fun x hx => by rw [List.mem_singleton.1 hx]; exact h, by simp⟩

theorem bfL_ok {c : List (List Int)} {n i : Nat} (hc : c.length = n) (hi : i < n) : PaW n (bfL c i) := bfO_ok hc _ _ _ (PaW.one hi)

/-- The parts that the first numbers make. -/
def paI (c : List (List Int)) : Nat → List (List Nat)
  | 0 => []
  | i + 1 => if ((paI c i).any fun l => l.contains i) = true then paI c i else paI c i ++ [bfL c i]

def paL (c : List (List Int)) : List (List Nat) := paI c c.length

theorem paI_ok {c : List (List Int)} {n : Nat} (hc : c.length = n) : ∀ {i : Nat}, i ≤ n → (paI c i).length ≤ i ∧ ∀ l ∈ paI c i, PaW n l
  | 0, _ => ⟨Nat.le_refl _, fun l hl => by cases hl⟩
  | i + 1, hi => by
    obtain ⟨h1, h2⟩ := paI_ok hc (i := i) (by omega)
    unfold paI
    split
    · exact ⟨by omega, h2⟩
    · refine ⟨by simp; omega, fun l hl => ?_⟩
      rcases List.mem_append.1 hl with hl | hl
      · exact h2 l hl
      · rw [List.mem_singleton.1 hl]; exact bfL_ok hc (by omega)

theorem natsI_contains (l : List Nat) (x : Nat) : (natsI l).contains (x : Int) = l.contains x := by
  rw [Bool.eq_iff_iff]
  simp [natsI]
  constructor
  · rintro ⟨a, h1, h2⟩
    have : a = x := by omega
    exact this ▸ h1
  · intro h
    exact ⟨x, h, rfl⟩

/-- Lists of numbers, as rows. -/
def natsM (ls : List (List Nat)) : List (List Int) := ls.map natsI

theorem natsM_len (ls : List (List Nat)) : (natsM ls).length = ls.length := by simp [natsM]
theorem natsM_at {ls : List (List Nat)} {k : Nat} (hk : k < ls.length) : (natsM ls).getD k [] = natsI (ls.getD k []) := by simp [natsM, hk]
theorem natsM_app (ls : List (List Nat)) (l : List Nat) : natsM (ls ++ [l]) = natsM ls ++ [natsI l] := by simp [natsM]
theorem natsM_any (ls : List (List Nat)) (i : Nat) : (natsM ls).any (fun r => r.contains (i : Int)) = ls.any fun l => l.contains i := by
  unfold natsM
  rw [List.any_map]
  congr 1
  funext l
  exact natsI_contains l i

end Go.Proofs.YtilblfoapjnmaaaGreatDoor

/- slices.Contains over numbers. -/
namespace Go.Proofs.YtilblfoapjnmaaaGreatDoor
open Go.RowKit
attribute [local go_sem ↓] Go.wp_at_zero Go.wp_at_succ

theorem anyK_contains (zs : List Int) (x : Int) : zs.any (fun z => z == x) = zs.contains x := by
  rw [Bool.eq_iff_iff]; simp

theorem anyK_snoc {α : Type} {p : α → Bool} {l : List α} {d : α} {k : Nat} (h : k < l.length) (h0 : (l.take k).any p = false) : (l.take (k + 1)).any p = p (l.getD k d) := by
  rw [List.take_succ_eq_append_getElem h, List.any_append, h0]; simp [h]

theorem anyK_get {α : Type} {p : α → Bool} {l : List α} {d : α} {k : Nat} (h : k < l.length) (h0 : p (l.getD k d) = true) : l.any p = true :=
  List.any_eq_true.2 ⟨l.getD k d, by simp [h], h0⟩

set_option maxRecDepth 100000 in
set_option maxHeartbeats 400000 in
theorem indexK_any (B : Nat) (x : Int) (zs : List Int) (v : Value) (w : World) (hv : Sl B 3 w v (ints zs)) :
    Calls Tryz.prog 85 #[v, .int .i64 x] w fun e w' => ∃ k : Int, e = .returned (.int .i64 k) ∧ decide (0 ≤ k) = zs.contains x ∧ w' = w := by
  obtain ⟨ao, cap, hvv, hlc, hcm⟩ := sl_open hv
  subst hvv
  have HV : Hid (Sl B 3 w (.slice ao zs.length cap) (ints zs)) := hv
  clear hv
  rw [← anyK_contains]
  go_enter Tryz.func85, Tryz.ntmps85
  go_wp2
  go_loopw [8, 5] (fun i _ wr => ∃ k : Nat, k ≤ zs.length ∧ i = .int .i64 k ∧ (zs.take k).any (fun z => z == x) = false ∧ wr = w) (fun i _ _ => zs.length - (intOf i).toNat)
  case atStart => exact ⟨0, Nat.zero_le _, rfl, by simp, rfl⟩
  case round =>
    obtain ⟨k, hk, rfl, hno, rfl⟩ := hrel
    have HN : Hid ((zs.take k).any (fun z => z == x) = false) := hno
    clear hno
    by_cases hlt : k < zs.length
    · obtain ⟨b, o, cp, hs, hc1, hcc⟩ := sl_cell HV.out hlt
      simp only [Value.slice.injEq] at hs
      obtain ⟨rfl, _, rfl⟩ := hs
      have HS1 : Hid ((zs.take (k + 1)).any (fun z => z == x) = (zs.getD k 0 == x)) := anyK_snoc (p := fun z => z == x) hlt HN.out
      have HG : Hid ((zs.getD k 0 == x) = true → zs.any (fun z => z == x) = true) := fun h => anyK_get (p := fun z => z == x) hlt h
      generalize zs.getD k 0 = z at *
      cases hf : (x == z)
      · have HF : Hid ((z == x) = false) := by rw [beq_eq_false_iff_ne] at hf ⊢; exact fun e => hf e.symm
        go_wp2
        go_roundw
        case rel => exact ⟨k + 1, by omega, by go_num, by rw [HS1.out]; exact HF.out, trivial⟩
        case measure => simp [intOf]; omega
      · have HF : Hid ((z == x) = true) := by rw [beq_iff_eq] at hf ⊢; exact hf.symm
        have HK : Hid (decide ((0 : Int) ≤ (k : Int)) = true) := decide_eq_true (by omega)
        go_wp2
        go_ret
        exact ⟨k, rfl, by rw [HK.out, HG.out HF.out], rfl⟩
    · have hke : zs.take k = zs := List.take_of_length_le (by omega)
      have HE : Hid (zs.any (fun z => z == x) = false) := by rw [← hke]; exact HN.out
      go_wp2
      go_ret
      exact ⟨-1, rfl, by rw [HE.out]; rfl, rfl⟩

set_option maxRecDepth 100000 in
theorem containsK_any (B : Nat) (x : Int) (zs : List Int) (v : Value) (w : World) (hv : Sl B 3 w v (ints zs)) :
    Calls Tryz.prog 56 #[v, .int .i64 x] w fun e w' => e = .returned (.bool (zs.contains x)) ∧ w' = w := by
  obtain ⟨ao, cap, hvv, hlc, hcm⟩ := sl_open hv
  subst hvv
  have HI : Hid (Calls Tryz.prog 85 #[.slice ao zs.length cap, .int .i64 x] w fun e w' => ∃ k : Int, e = .returned (.int .i64 k) ∧ decide (0 ≤ k) = zs.contains x ∧ w' = w) := indexK_any B x zs _ w hv
  clear hv
  generalize zs.contains x = c at *
  go_enter Tryz.func56, Tryz.ntmps56
  go_wp2_with fail
  refine HI.out.mono ?_
  rintro e w' ⟨k, rfl, hk, rfl⟩
  have HK : Hid (decide (0 ≤ k) = c) := hk
  clear hk
  go_wp2
  go_ret
  exact ⟨ret_bool HK.out, rfl⟩

end Go.Proofs.YtilblfoapjnmaaaGreatDoor

/- root.partFrom: the walk. -/
namespace Go.Proofs.YtilblfoapjnmaaaGreatDoor
open Go.RowKit
attribute [local go_sem ↓] Go.wp_at_zero Go.wp_at_succ

/-- All entries, as they lie, in all later worlds. -/
theorem ent_all {n : Nat} {c : List (List Int)} {B : Nat} {w : World} {ao : Option Addr} {cap : Nat} (hc : Sqc n c) (hm : Mat B 26 3 w (.slice ao n cap) c) {i : Nat} (hi : i < n) :
    ∃ b o b3 o3 cp3, ao = some ⟨b, o, none⟩ ∧ ∀ X, Below w.heap.size w X → X.cell? ⟨b, o + i, none⟩ = some (.slice (some ⟨b3, o3, none⟩) n cp3) ∧ ∀ j, j < n → X.cell? ⟨b3, o3 + j, none⟩ = some (.int .i64 (cE c i j)) := by
  obtain ⟨b, o, b3, o3, cp3, h1, h2, h3⟩ := ent_cell hc hm hi
  exact ⟨b, o, b3, o3, cp3, h1, fun X hX => ⟨(hX.cell (lt_of_cell h2)).trans h2, fun j hj => (hX.cell (lt_of_cell (h3 j hj))).trans (h3 j hj)⟩⟩

set_option maxRecDepth 100000 in
set_option maxHeartbeats 1600000 in
theorem partFrom_any (n : Nat) (c : List (List Int)) (i : Nat) (cv : Value) (w : World) (hc : Sqc n c) (hi : i < n) (hm : Mat w.heap.size 26 3 w cv c) :
    Calls Tryz.prog 58 #[cv, .int .i64 (i : Nat)] w fun e w' => ∃ u, e = .returned u ∧ w'.ownsRow w.heap.size 3 1 u (bfL c i).length (ints (natsI (bfL c i))) ∧ Below w.heap.size w w' := by
  obtain ⟨i3, hi3, hz30, hz31, hz32⟩ := info_parts Tryz.info3
  obtain ⟨ao, cap, hvv, hlc, hcm⟩ := mat_open hm
  subst hvv
  have hn4 := hc.n4
  have HCL : Hid (c.length = n) := hc.len
  have HM : Hid (∀ W, Below w.heap.size w W → Mat w.heap.size 26 3 W (.slice ao n cap) c) := fun W hW => by
    have := hm.below hW (Nat.le_refl _)
    rw [HCL.out] at this
    exact this
  have HEN : Hid (∀ x, x < n → ∃ b o b3 o3 cp3, ao = some ⟨b, o, none⟩ ∧ ∀ X, Below w.heap.size w X → X.cell? ⟨b, o + x, none⟩ = some (.slice (some ⟨b3, o3, none⟩) n cp3) ∧ ∀ j, j < n → X.cell? ⟨b3, o3 + j, none⟩ = some (.int .i64 (cE c x j))) := fun x hx => ent_all hc (HM.out w (Below.refl _ _)) hx
  rw [HCL.out]
  clear hm hlc hc HM
  have HOW : Hid (∀ k (l : List Nat), PaW n l → PaW n (bfI c k n l) ∧ l <+: bfI c k n l) := fun k l h => bfI_ok h (Nat.le_refl _)
  have HST : Hid (∀ k j (l : List Nat), j < n → PaW n l → PaW n (bfI c k j l) ∧ l <+: bfI c k j l) := fun k j l hj h => bfI_ok h (by omega)
  have HBO : Hid (∀ f k (l : List Nat), bfO c (f + 1) k l = if k < l.length then bfO c f (k + 1) (bfI c k n l) else l) := fun f k l => by
    show bfO c (f + 1) k l = _
    rw [bfO, HCL.out]
  have HLN : Hid (∀ l : List Nat, PaW n l → l.length ≤ n) := fun l h => h.len
  have HPW : Hid (PaW n [i]) := PaW.one hi
  go_enter Tryz.func58, Tryz.ntmps58
  go_wp2
  go_loopw [5, 6, 7, 8] (fun pv kv _ _ wr => ∃ (k f : Nat) (l : List Nat), kv = .int .i64 k ∧ k + f = 5 ∧ bfL c i = bfO c f k l ∧ PaW n l ∧ wr.ownsRow w.heap.size 3 1 pv l.length (ints (natsI l)) ∧ Below w.heap.size w wr) (fun _ kv _ _ _ => 5 - (intOf kv).toNat)
  case atStart =>
    refine ⟨0, 5, [i], rfl, rfl, rfl, HPW.out, ?_, (Below.refl _ _).alloc (Nat.le_refl _) _⟩
    have h := World.ownsRow_lit (base := w.heap.size) (e := 3) (size := 1) w #[.int .i64 (i : Int)] 1 (Nat.le_refl _) (by unfold maxLen; omega) (by simp)
    simpa [ints, natsI] using h
  case round =>
    obtain ⟨k, f, l, rfl, hkf, hbf, hpw, hown, hbel⟩ := hrel
    have HK : Hid (bfL c i = bfO c f k l) := hbf
    have HPL : Hid (PaW n l) := hpw
    have HO : Hid (wr.ownsRow w.heap.size 3 1 u5 l.length (ints (natsI l))) := hown
    have HB : Hid (Below w.heap.size w wr) := hbel
    have hln : l.length ≤ n := HLN.out l hpw
    obtain ⟨lo, lc, hv⟩ := owns_form hown
    subst hv
    clear hbf hpw hown hbel HPW
    have kI0 : (0 : Int) ≤ (k : Int) := by omega
    by_cases hlt : k < l.length
    · obtain ⟨f, rfl⟩ : ∃ f', f = f' + 1 := ⟨f - 1, by omega⟩
      have HK2 : Hid (bfL c i = bfO c f (k + 1) (bfI c k n l)) := by
        show _ = _
        rw [HK.out, HBO.out, if_pos hlt]
      obtain ⟨x, hx⟩ : ∃ x, x = l.getD k 0 := ⟨_, rfl⟩
      have hxn : x < n := by rw [hx]; exact HPL.out.lt _ (by simp [hlt])
      obtain ⟨b2, o2, cp2, hs2, _, hc2⟩ := sl_cell (B := 0) (Sl.own HO.out) (k := k) (by rw [natsI_lenR]; exact hlt)
      rw [natsI_lenR] at hs2
      simp only [Value.slice.injEq, true_and] at hs2
      obtain ⟨rfl, rfl⟩ := hs2
      rw [natsI_atR hlt, ← hx] at hc2
      obtain ⟨b, o, b3, o3, cp3, hao, hcr⟩ := HEN.out x hxn
      subst hao
      obtain ⟨hc0, _⟩ := hcr wr HB.out
      have HCE : Hid (∀ X, Below w.heap.size w X → ∀ j, j < n → X.cell? ⟨b3, o3 + j, none⟩ = some (.int .i64 (cE c x j))) := fun X hX => (hcr X hX).2
      have kI : (k : Int) < (l.length : Int) := by omega
      have xI : (x : Int) < (n : Int) := by omega
      have xI0 : (0 : Int) ≤ (x : Int) := by omega
      have HX : Hid (x = l.getD k 0) := hx
      have HLT : Hid (k < l.length) := hlt
      clear hx HK HBO hcr HEN
      go_wp2
      clear hc0 hc2
      go_loopw [5, 7, 8, 25] (fun pv _ _ jv wq => ∃ j : Nat, j ≤ n ∧ jv = .int .i64 j ∧ wq.ownsRow w.heap.size 3 1 pv (bfI c k j l).length (ints (natsI (bfI c k j l))) ∧ Below w.heap.size w wq) (fun _ _ _ jv _ => n - (intOf jv).toNat)
      case atStart => exact ⟨0, Nat.zero_le _, rfl, HO.out, HB.out⟩
      case round =>
        obtain ⟨j, hj, rfl, hown2, hbel2⟩ := hrel
        have HO2 : Hid (wr.ownsRow w.heap.size 3 1 u5 (bfI c k j l).length (ints (natsI (bfI c k j l)))) := hown2
        have HB2 : Hid (Below w.heap.size w wr) := hbel2
        have HSZ : Hid (w.heap.size ≤ wr.heap.size) := hbel2.size
        obtain ⟨lo2, lc2, hv2⟩ := owns_form hown2
        subst hv2
        clear hown2 hbel2 HO HB
        have jI0 : (0 : Int) ≤ (j : Int) := by omega
        by_cases hlj : j < n
        · have jI : (j : Int) < (n : Int) := by omega
          have c1 := HCE.out wr HB2.out j hlj
          obtain ⟨hp1, hp2⟩ := HST.out k j l hlj HPL.out
          have h4 : (bfI c k j l).length ≤ n := hp1.len
          have HSS : Hid (bfI c k (j + 1) l = if (!(cE c x j == 0) && !(bfI c k j l).contains j) = true then bfI c k j l ++ [j] else bfI c k j l) := by
            show bfS c k j (bfI c k j l) = _
            unfold bfS
            rw [pre_getN hp2 HLT.out, ← HX.out]
          have HCT : Hid (Calls Tryz.prog 56 #[.slice lo2 (bfI c k j l).length lc2, .int .i64 (j : Nat)] wr fun e w' => e = .returned (.bool ((bfI c k j l).contains j)) ∧ w' = wr) := by
            have h := containsK_any 0 (j : Int) (natsI (bfI c k j l)) (.slice lo2 (bfI c k j l).length lc2) wr (Sl.own HO2.out)
            rw [natsI_contains] at h
            exact h
          have HAP : Hid (ints (natsI (bfI c k j l ++ [j])) = ints (natsI (bfI c k j l)) ++ [.int .i64 (j : Int)]) := natsI_appR _ _
          have HLA : Hid ((bfI c k j l ++ [j]).length = (bfI c k j l).length + 1) := by
            show _ = _
            simp
          clear hp1 hp2
          generalize bfI c k j l = l2 at *
          generalize cE c x j = v at *
          cases hv0 : (v == 0) with
          | true =>
            have HS2 : Hid (bfI c k (j + 1) l = l2) := by
              show _ = _
              rw [HSS.out, hv0]; rfl
            have v0 : v = 0 := by simpa using hv0
            subst v0
            clear hv0 HSS HCT
            go_wp2
            exact ⟨⟨j + 1, by omega, by go_num, by rw [HS2.out]; exact HO2.out, HB2.out⟩, by simp [intOf]; omega⟩
          | false =>
            have hvn : (v != 0) = true := by simpa [bne] using hv0
            cases hct : l2.contains j with
            | true =>
              have HS2 : Hid (bfI c k (j + 1) l = l2) := by
                show _ = _
                rw [HSS.out, hct, Bool.not_true, Bool.and_false]; rfl
              rw [hct] at HCT
              clear HSS hct
              go_wp2_with fail
              refine HCT.out.mono ?_
              rintro e w5 ⟨rfl, hw5⟩
              obtain rfl := hw5.symm
              clear HCT
              go_wp2
              exact ⟨⟨j + 1, by omega, by go_num, by rw [HS2.out]; exact HO2.out, HB2.out⟩, by simp [intOf]; omega⟩
            | false =>
              have HS2 : Hid (bfI c k (j + 1) l = l2 ++ [j]) := by
                show _ = _
                rw [HSS.out, hct, hv0]; rfl
              rw [hct] at HCT
              clear HSS hct
              go_wp2_with fail
              refine HCT.out.mono ?_
              rintro e w5 ⟨rfl, hw5⟩
              obtain rfl := hw5.symm
              clear HCT
              go_wp2_with (first | (at_builtin; refine wpList_append_own _ rfl _ _ 26 rfl w.heap.size 3 i3 (.int .i64 0) 1 8 Tryz.underlying26 hi3 hz30 hz31 hz32 rfl (by decide) _ _ _ rfl (HO2.out.alloc _) ⟨wr.heap.size, 0, none⟩ 1 1 [.int .i64 (j : Int)] rfl rfl (one_new _ _ _) (one_int _) ?c3 ?c4 ?c5 ?_))
              case c3 => unfold maxLen; omega
              case c4 => omega
              case c5 => first | (have := HSZ.out; simp; omega)
              intro v6 w6 ho6 hg6 _
              have HO6 : Hid (w6.ownsRow w.heap.size 3 1 v6 (bfI c k (j + 1) l).length (ints (natsI (bfI c k (j + 1) l)))) := by
                show World.ownsRow _ _ _ _ _ _ _
                rw [HS2.out, HLA.out, HAP.out]; exact ho6
              have HB6 : Hid (Below w.heap.size w w6) := (HB2.out.alloc HSZ.out _).grown hg6 (by have := HSZ.out; simp; omega) (fun x hx => (HO2.out.lt x hx).1)
              clear ho6 hg6
              go_wp2
              exact ⟨⟨j + 1, by omega, by go_num, HO6.out, HB6.out⟩, by simp [intOf]; omega⟩
        · have hje : j = n := by omega
          subst hje
          clear hlj hj
          have hkf2 : k + 1 + f = 5 := by omega
          have HKN : Hid (k + 1 ≤ 5) := by show _ ≤ _; omega
          obtain ⟨hp1, hp2⟩ := HOW.out k l HPL.out
          have HP1 : Hid (PaW j (bfI c k j l)) := hp1
          clear hp1 hp2
          go_wp2
          exact ⟨⟨k + 1, f, bfI c k j l, by go_num, by omega, HK2.out, HP1.out, HO2.out, HB2.out⟩, by simp [intOf]; omega⟩
    · have HE : Hid (bfL c i = l) := by
        show _ = _
        rw [HK.out]
        cases f with
        | zero => rfl
        | succ f => rw [HBO.out, if_neg hlt]
      have kI : ¬ (k : Int) < (l.length : Int) := by omega
      go_wp2
      go_ret
      exact ⟨_, rfl, by rw [HE.out]; exact HO.out, HB.out⟩

end Go.Proofs.YtilblfoapjnmaaaGreatDoor

/- Rows that lie in new blocks. -/
namespace Go.Proofs.YtilblfoapjnmaaaGreatDoor
open Go.RowKit

/-- A slice that lies in no block below B. -/
def SlN (B : Nat) (w : World) (v : Value) (xs : List Value) : Prop := Sl 0 3 w v xs ∧ ∀ b o n c, v = .slice (some ⟨b, o, none⟩) n c → B ≤ b

theorem SlN.below {B N : Nat} {w w' : World} {v : Value} {xs : List Value} (h : SlN B w v xs) (hb : Below N w w') (hN : w.heap.size ≤ N) : SlN B w' v xs := ⟨h.1.below hb hN, h.2⟩
theorem SlN.alloc {B : Nat} {w : World} {v : Value} {xs : List Value} (h : SlN B w v xs) (o : Obj) : SlN B (w.alloc o) v xs := ⟨h.1.alloc o, h.2⟩
theorem SlN.mono {B B' : Nat} {w : World} {v : Value} {xs : List Value} (h : SlN B w v xs) (hB : B' ≤ B) : SlN B' w v xs := ⟨h.1, fun b o n c e => Nat.le_trans hB (h.2 b o n c e)⟩
theorem SlN.own {B n : Nat} {w : World} {v : Value} {l : List Int} (h : w.ownsRow B 3 1 v n (ints l)) : SlN B w v (ints l) := by
  refine ⟨Sl.own h, fun b o k c e => ?_⟩
  subst e
  exact (h.lt b rfl).1

def FrN (B : Nat) (w : World) (v : Value) (m : List (List Int)) : Prop :=
  ∃ vs, vs.length = m.length ∧ w.ownsRow B 26 1 v m.length vs ∧ ∀ i, i < m.length → SlN B w (vs.getD i (.slice none 0 0)) (ints (m.getD i []))

theorem FrN.fr {B : Nat} {w : World} {v : Value} {m : List (List Int)} (h : FrN B w v m) : Fr B 26 3 w v m := by
  obtain ⟨vs, h1, h2, h3⟩ := h
  exact ⟨vs, h1, h2, fun i hi => (h3 i hi).1⟩
theorem FrN.nil (B : Nat) (w : World) : FrN B w (.slice none 0 0) [] := ⟨[], rfl, World.ownsRow_nil _ _ _ _, fun i hi => absurd hi (by simp)⟩
theorem FrN.below {B N : Nat} {w w' : World} {v : Value} {m : List (List Int)} (h : FrN B w v m) (hb : Below N w w') (hN : w.heap.size ≤ N) : FrN B w' v m := by
  obtain ⟨vs, h1, h2, h3⟩ := h
  exact ⟨vs, h1, owns_below h2 hb hN, fun i hi => (h3 i hi).below hb hN⟩
theorem FrN.alloc {B : Nat} {w : World} {v : Value} {m : List (List Int)} (h : FrN B w v m) (o : Obj) : FrN B (w.alloc o) v m := by
  obtain ⟨vs, h1, h2, h3⟩ := h
  exact ⟨vs, h1, h2.alloc o, fun i hi => (h3 i hi).alloc o⟩
theorem FrN.push {B : Nat} {w w' : World} {v v' u : Value} {m : List (List Int)} {vs : List Value} {zs : List Int}
    (h1 : vs.length = m.length) (h2 : w.ownsRow B 26 1 v m.length vs) (h3 : ∀ i, i < m.length → SlN B w (vs.getD i (.slice none 0 0)) (ints (m.getD i []))) (hu : SlN B w u (ints zs))
    (ho : w'.ownsRow B 26 1 v' (m.length + 1) (vs ++ [u])) (hg : w.grownBy w' v.ownBlock) : FrN B w' v' (m ++ [zs]) := by
  have ht : ∀ k, v.ownBlock = some k → 0 ≤ k ∧ ∀ cur, w.heap[k]? ≠ some (.cells cur 3 (0, 0)) := fun k hk => ⟨Nat.zero_le _, (owns_typed h2 (by decide) k hk).2⟩
  refine ⟨vs ++ [u], by simp [h1], by simpa using ho, fun i hi => ?_⟩
  by_cases hlt : i < m.length
  · have e1' : (vs ++ [u]).getD i (.slice none 0 0) = vs.getD i (.slice none 0 0) := by
      simp only [List.getD_eq_getElem?_getD]; rw [List.getElem?_append_left (by omega)]
    have e2' : (m ++ [zs]).getD i [] = m.getD i [] := by
      simp only [List.getD_eq_getElem?_getD]; rw [List.getElem?_append_left (by omega)]
    rw [e1', e2']
    exact ⟨(h3 i hlt).1.grown hg ht, (h3 i hlt).2⟩
  · have hi' : i = m.length := by simp at hi; omega
    subst hi'
    have e1' : (vs ++ [u]).getD m.length (.slice none 0 0) = u := by
      rw [← h1]; simp
    have e2' : (m ++ [zs]).getD m.length [] = zs := by simp
    rw [e1', e2']
    exact ⟨hu.1.grown hg ht, hu.2⟩

end Go.Proofs.YtilblfoapjnmaaaGreatDoor
