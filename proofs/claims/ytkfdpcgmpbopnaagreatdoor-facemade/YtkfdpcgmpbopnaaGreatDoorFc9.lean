/- face.isSimplicial: is each side a simplex? -/
import Derived.Test.YtkfdpcgmpbopnaaGreatDoorFc8
namespace Go.Proofs.YtkfdpcgmpbopnaaGreatDoor
open Go.RowKit Lin
attribute [local go_sem ↓] Go.wp_at_zero Go.wp_at_succ

def u64z (zs : List Int) : List Value := zs.map (Value.int .u64)

theorem u64z_natI (A : List Nat) : u64z (natI A) = u64s A := by simp [u64z, natI, u64s]

theorem sl_openU {B : Nat} {w : World} {v : Value} {zs : List Int} (h : Sl B 74 w v (u64z zs)) : ∃ ao cap, v = .slice ao zs.length cap ∧ zs.length ≤ cap ∧ cap ≤ 9223372036854775807 := by
  obtain ⟨ao, cap, h1, h2, h3, _⟩ := h
  have e : (u64z zs).length = zs.length := by simp [u64z]
  rw [e] at h1 h2
  exact ⟨ao, cap, h1, h2, by unfold maxLen at h3; omega⟩

theorem sl_cellU {B : Nat} {w : World} {v : Value} {zs : List Int} (h : Sl B 74 w v (u64z zs)) {k : Nat} (hk : k < zs.length) :
    ∃ b o cap, v = .slice (some ⟨b, o, none⟩) zs.length cap ∧ cap ≤ 9223372036854775807 ∧ w.cell? ⟨b, o + k, none⟩ = some (.int .u64 (zs.getD k 0)) := by
  obtain ⟨ao, cap, h1, h2, h3, h4, _⟩ := h
  have e : (u64z zs).length = zs.length := by simp [u64z]
  rw [e] at h1 h2 h4
  obtain ⟨b, o, rfl, hc, _⟩ := h4 k hk
  refine ⟨b, o, cap, h1, by unfold maxLen at h3; omega, ?_⟩
  rw [hc]
  simp [u64z, hk]

set_option maxRecDepth 100000 in
set_option maxHeartbeats 400000 in
theorem idxSmp_any (B : Nat) (p : Int → Bool) (zs : List Int) (v : Value) (p1 : Addr) (w : World) (hv : Sl B 3 w v (ints zs))
    (hc : ∀ x ∈ zs, ∀ W', Below w.heap.size w W' → Calls Tryz.prog 59 #[.int .i64 x, .pointer (some p1)] W' fun e w' => e = .returned (.bool (p x)) ∧ Below W'.heap.size W' w') :
    Calls Tryz.prog 81 #[v, .func (.func 59) #[] #[.pointer (some p1)]] w fun e w' => e = .returned (.int .i64 (findI p zs)) ∧ Below w.heap.size w w' := by
  obtain ⟨ao, cap, hvv, hlc, hcm⟩ := sl_open hv
  subst hvv
  have HV : Hid (Sl B 3 w (.slice ao zs.length cap) (ints zs)) := hv
  have HIL : Hid (∀ x ∈ zs, ∀ W', Below w.heap.size w W' → Calls Tryz.prog 59 #[.int .i64 x, .pointer (some p1)] W' fun e w' => e = .returned (.bool (p x)) ∧ Below W'.heap.size W' w') := hc
  clear hv hc
  go_enter Tryz.func81, Tryz.ntmps81
  go_wp2
  go_loopw [5, 8] (fun _ i wr => ∃ k : Nat, k ≤ zs.length ∧ i = .int .i64 k ∧ (zs.take k).any p = false ∧ Below w.heap.size w wr) (fun _ i _ => zs.length - (intOf i).toNat)
  case atStart => exact ⟨0, Nat.zero_le _, rfl, by simp, Below.refl _ _⟩
  case round =>
    obtain ⟨k, hk, rfl, hno, hbr⟩ := hrel
    have HN : Hid ((zs.take k).any p = false) := hno
    have HBR : Hid (Below w.heap.size w wr) := hbr
    clear hno hbr
    by_cases hlt : k < zs.length
    · obtain ⟨b', o, cp, hs, hc1, hcc⟩ := sl_cell (HV.out.below HBR.out (Nat.le_refl _)) hlt
      simp only [Value.slice.injEq] at hs
      obtain ⟨rfl, _, rfl⟩ := hs
      have HS1 : Hid ((zs.take (k + 1)).any p = p zs[k]) := any_snoc (p := p) hlt HN.out
      have HH : Hid (p zs[k] = true → findI p zs = k) := fun h => findI_hit (p := p) hlt HN.out h
      rw [show zs.getD k 0 = zs[k] by simp [hlt]] at hcc
      have HIX : Hid (Calls Tryz.prog 59 #[.int .i64 zs[k], .pointer (some p1)] wr fun e w' => e = .returned (.bool (p zs[k])) ∧ Below wr.heap.size wr w') := HIL.out _ (List.getElem_mem _) wr HBR.out
      generalize zs[k] = x at *
      generalize p x = fb at *
      cases fb
      · go_wp2_with fail
        refine HIX.out.mono ?_
        rintro e w2 ⟨rfl, hb2⟩
        have HB2 : Hid (Below w.heap.size w w2) := HBR.out.trans (hb2.mono HBR.out.size)
        clear hb2
        go_wp2
        go_roundw
        case rel => exact ⟨k + 1, by omega, by go_num, HS1.out, HB2.out⟩
        case measure => simp [intOf]; omega
      · have HH2 : Hid (findI p zs = k) := HH.out rfl
        clear HH
        go_wp2_with fail
        refine HIX.out.mono ?_
        rintro e w2 ⟨rfl, hb2⟩
        have HB2 : Hid (Below w.heap.size w w2) := HBR.out.trans (hb2.mono HBR.out.size)
        clear hb2
        go_wp2
        go_ret
        exact ⟨ret_int HH2.out.symm, HB2.out⟩
    · have e : zs.take k = zs := List.take_of_length_le (by omega)
      rw [e] at HN
      have HF : Hid (findI p zs = -1) := findI_none HN.out
      go_wp2
      go_ret
      exact ⟨ret_int HF.out.symm, HBR.out⟩

set_option maxRecDepth 100000 in
theorem hasSmp_any (B : Nat) (p : Int → Bool) (zs : List Int) (v : Value) (p1 : Addr) (w : World) (hv : Sl B 3 w v (ints zs))
    (hc : ∀ x ∈ zs, ∀ W', Below w.heap.size w W' → Calls Tryz.prog 59 #[.int .i64 x, .pointer (some p1)] W' fun e w' => e = .returned (.bool (p x)) ∧ Below W'.heap.size W' w') :
    Calls Tryz.prog 58 #[v, .func (.func 59) #[] #[.pointer (some p1)]] w fun e w' => e = .returned (.bool (zs.any p)) ∧ Below w.heap.size w w' := by
  have HII := idxSmp_any B p zs v p1 w hv hc
  go_enter Tryz.func58, Tryz.ntmps58
  go_wp2_with fail
  refine HII.mono ?_
  rintro e w' ⟨rfl, hb⟩
  have HB : Hid (Below w.heap.size w w') := hb
  clear hb HII
  go_wp2
  go_ret
  exact ⟨ret_bool findI_ge, HB.out⟩

set_option maxRecDepth 100000 in
set_option maxHeartbeats 400000 in
theorem idxSlp_any (B : Nat) (p : Int → Bool) (zs : List Int) (v : Value) (p1 : Addr) (w : World) (hv : Sl B 74 w v (u64z zs))
    (hc : ∀ x ∈ zs, ∀ W', Below w.heap.size w W' → Calls Tryz.prog 56 #[.int .u64 x, .pointer (some p1)] W' fun e w' => e = .returned (.bool (p x)) ∧ Below W'.heap.size W' w') :
    Calls Tryz.prog 79 #[v, .func (.func 56) #[] #[.pointer (some p1)]] w fun e w' => e = .returned (.int .i64 (findI p zs)) ∧ Below w.heap.size w w' := by
  obtain ⟨ao, cap, hvv, hlc, hcm⟩ := sl_openU hv
  subst hvv
  have HV : Hid (Sl B 74 w (.slice ao zs.length cap) (u64z zs)) := hv
  have HIL : Hid (∀ x ∈ zs, ∀ W', Below w.heap.size w W' → Calls Tryz.prog 56 #[.int .u64 x, .pointer (some p1)] W' fun e w' => e = .returned (.bool (p x)) ∧ Below W'.heap.size W' w') := hc
  clear hv hc
  go_enter Tryz.func79, Tryz.ntmps79
  go_wp2
  go_loopw [5, 8] (fun _ i wr => ∃ k : Nat, k ≤ zs.length ∧ i = .int .i64 k ∧ (zs.take k).any p = false ∧ Below w.heap.size w wr) (fun _ i _ => zs.length - (intOf i).toNat)
  case atStart => exact ⟨0, Nat.zero_le _, rfl, by simp, Below.refl _ _⟩
  case round =>
    obtain ⟨k, hk, rfl, hno, hbr⟩ := hrel
    have HN : Hid ((zs.take k).any p = false) := hno
    have HBR : Hid (Below w.heap.size w wr) := hbr
    clear hno hbr
    by_cases hlt : k < zs.length
    · obtain ⟨b', o, cp, hs, hc1, hcc⟩ := sl_cellU (HV.out.below HBR.out (Nat.le_refl _)) hlt
      simp only [Value.slice.injEq] at hs
      obtain ⟨rfl, _, rfl⟩ := hs
      have HS1 : Hid ((zs.take (k + 1)).any p = p zs[k]) := any_snoc (p := p) hlt HN.out
      have HH : Hid (p zs[k] = true → findI p zs = k) := fun h => findI_hit (p := p) hlt HN.out h
      rw [show zs.getD k 0 = zs[k] by simp [hlt]] at hcc
      have HIX : Hid (Calls Tryz.prog 56 #[.int .u64 zs[k], .pointer (some p1)] wr fun e w' => e = .returned (.bool (p zs[k])) ∧ Below wr.heap.size wr w') := HIL.out _ (List.getElem_mem _) wr HBR.out
      generalize zs[k] = x at *
      generalize p x = fb at *
      cases fb
      · go_wp2_with fail
        refine HIX.out.mono ?_
        rintro e w2 ⟨rfl, hb2⟩
        have HB2 : Hid (Below w.heap.size w w2) := HBR.out.trans (hb2.mono HBR.out.size)
        clear hb2
        go_wp2
        go_roundw
        case rel => exact ⟨k + 1, by omega, by go_num, HS1.out, HB2.out⟩
        case measure => simp [intOf]; omega
      · have HH2 : Hid (findI p zs = k) := HH.out rfl
        clear HH
        go_wp2_with fail
        refine HIX.out.mono ?_
        rintro e w2 ⟨rfl, hb2⟩
        have HB2 : Hid (Below w.heap.size w w2) := HBR.out.trans (hb2.mono HBR.out.size)
        clear hb2
        go_wp2
        go_ret
        exact ⟨ret_int HH2.out.symm, HB2.out⟩
    · have e : zs.take k = zs := List.take_of_length_le (by omega)
      rw [e] at HN
      have HF : Hid (findI p zs = -1) := findI_none HN.out
      go_wp2
      go_ret
      exact ⟨ret_int HF.out.symm, HBR.out⟩

set_option maxRecDepth 100000 in
theorem hasSlp_any (B : Nat) (p : Int → Bool) (zs : List Int) (v : Value) (p1 : Addr) (w : World) (hv : Sl B 74 w v (u64z zs))
    (hc : ∀ x ∈ zs, ∀ W', Below w.heap.size w W' → Calls Tryz.prog 56 #[.int .u64 x, .pointer (some p1)] W' fun e w' => e = .returned (.bool (p x)) ∧ Below W'.heap.size W' w') :
    Calls Tryz.prog 55 #[v, .func (.func 56) #[] #[.pointer (some p1)]] w fun e w' => e = .returned (.bool (zs.any p)) ∧ Below w.heap.size w w' := by
  have HII := idxSlp_any B p zs v p1 w hv hc
  go_enter Tryz.func55, Tryz.ntmps55
  go_wp2_with fail
  refine HII.mono ?_
  rintro e w' ⟨rfl, hb⟩
  have HB : Hid (Below w.heap.size w w') := hb
  clear hb HII
  go_wp2
  go_ret
  exact ⟨ret_bool findI_ge, HB.out⟩

set_option maxRecDepth 100000 in
set_option maxHeartbeats 800000 in
theorem isSimple1_any (x : Int) (d g : Nat) (cv rv sv : Value) (w : World) (hb : w.heap[g]? = some (.cells #[.int .i64 d, cv, rv, sv] 60 (0, 0))) :
    Calls Tryz.prog 59 #[.int .i64 x, .pointer (some ⟨g, 0, none⟩)] w fun e w' => e = .returned (.bool (x != (d : Int))) ∧ Below w.heap.size w w' := by
  have c0 : w.cell? ⟨g, 0, none⟩ = some (.int .i64 d) := by simp [World.cell?, hb]
  clear hb
  go_enter Tryz.func59, Tryz.ntmps59
  go_wp2
  go_ret
  exact ⟨rfl, Below.refl _ _⟩

set_option maxRecDepth 100000 in
set_option maxHeartbeats 800000 in
theorem isSimplicial1_any (x d g : Nat) (cv rv sv : Value) (w : World) (hx : x < 1024) (hb : w.heap[g]? = some (.cells #[.int .i64 d, cv, rv, sv] 60 (0, 0))) :
    Calls Tryz.prog 56 #[.int .u64 (x : Int), .pointer (some ⟨g, 0, none⟩)] w fun e w' => e = .returned (.bool (((memL x).length : Int) != (d : Int))) ∧ Below w.heap.size w w' := by
  have c0 : w.cell? ⟨g, 0, none⟩ = some (.int .i64 d) := by simp [World.cell?, hb]
  have HL : Hid (∀ W, Calls Tryz.prog 57 #[.int .u64 (x : Int)] W fun e w' => e = .returned (.int .i64 (memL x).length) ∧ w' = W) := fun W => len10_any x hx W
  clear hb
  generalize (memL x).length = ml at *
  go_enter Tryz.func56, Tryz.ntmps56
  go_upto_region 1 with fail
  refine wp_region_held_drew (S := fun w' => w'.cell? ⟨g, 0, none⟩ = some (.int .i64 d)) (by kernel_rfl) c0 (fun hHeld => ?_)
  refine wpAnyH_tk (i := 0) (d := 4) (v := (.int .u64 (x : Int))) rfl rfl (by kernel_rfl) (by kernel_rfl) (by kernel_rfl) (fun _ _ _ h => h) (.inl ⟨by rfl, by (intro wq hSw; (try dsimp only at hSw); go_simp; (try (first | rfl | omega)))⟩) hHeld ?_
  simp only [Act.put, List.setIfInBounds_toArray, List.set_cons_zero, List.set_cons_succ]
  refine wpAnyH_tk (i := 2) (d := 6) (v := (.pointer (some ⟨g, 0, none⟩))) rfl rfl (by kernel_rfl) (by kernel_rfl) (by kernel_rfl) (fun _ _ _ h => h) (.inl ⟨by rfl, by (intro wq hSw; (try dsimp only at hSw); go_simp; (try (first | rfl | omega)))⟩) hHeld ?_
  simp only [Act.put, List.setIfInBounds_toArray, List.set_cons_zero, List.set_cons_succ]
  refine wpAnyH_tk (i := 3) (d := 7) (v := (.int .i64 d)) rfl rfl (by kernel_rfl) (by kernel_rfl) (by kernel_rfl) (fun _ _ _ h => h) (.inl ⟨by rfl, by (intro wq hSw; (try dsimp only at hSw); go_simp; (try (first | rfl | omega)))⟩) hHeld ?_
  simp only [Act.put, List.setIfInBounds_toArray, List.set_cons_zero, List.set_cons_succ]
  refine wpAnyH_ready (rs := [1]) (by kernel_rfl) (by simp) ?_
  refine ready_tk (i := 1) rfl (by rfl) (fun K hK => ?_) AllReadyH.nil
  go_simp
  refine (HL.out _).mono ?_
  rintro e w2 ⟨rfl, rfl⟩
  refine hK.out _ _ hHeld (fun hHeld => ?_)
  clear hK K
  refine wpAnyH_tk (i := 4) (d := 8) (v := (.bool ((ml : Int) != (d : Int)))) rfl rfl (by kernel_rfl) (by kernel_rfl) (by kernel_rfl) (fun _ _ _ h => h) (.inl ⟨by rfl, by (intro wq hSw; (try dsimp only at hSw); go_simp; (try (first | rfl | omega)))⟩) hHeld ?_
  simp only [Act.put, List.setIfInBounds_toArray, List.set_cons_zero, List.set_cons_succ]
  refine wpAnyH_tk (i := 5) (d := 3) (v := (.bool ((ml : Int) != (d : Int)))) rfl rfl (by kernel_rfl) (by kernel_rfl) (by kernel_rfl) (fun _ _ _ h => h) (.inl ⟨by rfl, by (intro wq hSw; (try dsimp only at hSw); go_simp; (try (first | rfl | omega)))⟩) hHeld ?_
  simp only [Act.put, List.setIfInBounds_toArray, List.set_cons_zero, List.set_cons_succ]
  refine wpAnyH_done (by kernel_rfl) ?_ _
  clear hHeld
  go_wp2
  go_ret
  exact ⟨rfl, (Below.refl _ _).drew⟩

/-- Is each side a simplex? -/
def splB (d : Nat) (S : List Nat) : Bool := S.all fun x => decide ((memL x).length = d)

set_option maxRecDepth 100000 in
set_option maxHeartbeats 800000 in
theorem isSimplicial_any (d : Nat) (cv rv : Value) (so : Option Addr) (sc : Nat) (S : List Nat) (w : World) (hS : Sl w.heap.size 74 w (.slice so S.length sc) (u64s S)) (hS1 : ∀ t ∈ S, t < 1024) :
    Calls Tryz.prog 35 #[.agg #[.int .i64 d, cv, rv, .slice so S.length sc]] w fun e w' => e = .returned (.bool (splB d S)) ∧ Below w.heap.size w w' := by
  obtain ⟨W, hW⟩ : ∃ W, W = w.alloc (.cells #[.int .i64 d, cv, rv, .slice so S.length sc] 60) := ⟨_, rfl⟩
  have HB : Hid (Below w.heap.size w W) := by rw [hW]; exact alloc_keep _ _
  have hsW : W.heap.size = w.heap.size + 1 := by rw [hW]; exact size_alloc _ _
  have hb0 : W.heap[w.heap.size]? = some (.cells #[.int .i64 d, cv, rv, .slice so S.length sc] 60 (0, 0)) := by rw [hW]; exact alloc_at _ _
  have c3 : W.cell? ⟨w.heap.size, 3, none⟩ = some (.slice so S.length sc) := by simp [World.cell?, hb0]
  have HH : Hid (Calls Tryz.prog 55 #[.slice so S.length sc, .func (.func 56) #[] #[.pointer (some ⟨w.heap.size, 0, none⟩)]] W fun e w' => e = .returned (.bool (!splB d S)) ∧ Below W.heap.size W w') := by
    have h := hasSlp_any w.heap.size (fun z => ((memL z.toNat).length : Int) != (d : Int)) (natI S) (.slice so S.length sc) ⟨w.heap.size, 0, none⟩ W (by rw [u64z_natI]; exact hS.below HB.out (Nat.le_refl _)) (fun x hx W' hb' => by
      obtain ⟨a, ha, rfl⟩ := List.mem_map.1 hx
      exact isSimplicial1_any a d w.heap.size cv rv _ W' (hS1 a ha) ((hb'.block _ (by omega)).trans hb0))
    have e : (natI S).any (fun z => ((memL z.toNat).length : Int) != (d : Int)) = !splB d S := by
      rw [Bool.eq_iff_iff]
      simp only [natI, List.any_eq_true, List.mem_map, splB, Bool.not_eq_true', List.all_eq_false, decide_eq_true_eq]
      constructor
      · rintro ⟨_, ⟨a, ha, rfl⟩, hne⟩
        exact ⟨a, ha, by simp at hne; omega⟩
      · rintro ⟨a, ha, hne⟩
        exact ⟨_, ⟨a, ha, rfl⟩, by simp; omega⟩
    rw [e] at h
    exact h
  clear hS hS1 hb0
  generalize splB d S = q at *
  go_enter Tryz.func35, Tryz.ntmps35
  go_wp2_with fail
  rw [← hW]
  clear hW
  refine HH.out.mono ?_
  rintro e w2 ⟨rfl, hb2⟩
  have HB2 : Hid (Below w.heap.size w w2) := HB.out.trans (hb2.mono HB.out.size)
  clear hb2
  go_wp2
  go_ret
  exact ⟨by simp, HB2.out⟩

end Go.Proofs.YtkfdpcgmpbopnaaGreatDoor
