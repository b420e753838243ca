/- face.levels: all faces by their dimensions. -/
import Derived.Test.YtkfdpcgmpbopnaaGreatDoorFc5
namespace Go.Proofs.YtkfdpcgmpbopnaaGreatDoor
open Go.RowKit Lin
attribute [local go_sem ↓] Go.wp_at_zero Go.wp_at_succ

set_option maxRecDepth 100000 in
set_option maxHeartbeats 800000 in
theorem all10_any (d n : Nat) (co : Option Addr) (cc : Nat) (rv sv : Value) (w : World) (hn : n ≤ 10) :
    Calls Tryz.prog 52 #[.agg #[.int .i64 d, .slice co n cc, rv, sv]] w fun e w' => e = .returned (.int .u64 ((2 ^ n - 1 : Nat) : Int)) ∧ Below w.heap.size w w' := by
  obtain ⟨W, hW⟩ : ∃ W, W = w.alloc (.cells #[.int .i64 d, .slice co n cc, rv, sv] 60) := ⟨_, rfl⟩
  have HB : Hid (Below w.heap.size w W) := by rw [hW]; exact alloc_keep _ _
  have hb0 : W.heap[w.heap.size]? = some (.cells #[.int .i64 d, .slice co n cc, rv, sv] 60 (0, 0)) := by rw [hW]; exact alloc_at _ _
  have c1 : W.cell? ⟨w.heap.size, 1, none⟩ = some (.slice co n cc) := by simp [World.cell?, hb0]
  clear hb0
  have hx : ∃ q : Int, q = ((2 ^ n - 1 : Nat) : Int) := ⟨_, rfl⟩
  obtain ⟨q, hq⟩ := hx
  rw [← hq]
  have h11 : n = 0 ∨ n = 1 ∨ n = 2 ∨ n = 3 ∨ n = 4 ∨ n = 5 ∨ n = 6 ∨ n = 7 ∨ n = 8 ∨ n = 9 ∨ n = 10 := by omega
  go_enter Tryz.func52, Tryz.ntmps52
  go_upto_region 1 with fail
  rw [← hW]
  clear hW
  rcases h11 with rfl | rfl | rfl | rfl | rfl | rfl | rfl | rfl | rfl | rfl | rfl
  all_goals (have hq2 := hq; simp at hq2; subst hq2; clear hq)
  all_goals go_wp2
  all_goals go_ret
  all_goals exact ⟨rfl, HB.out⟩

theorem plF {α : Type} (a : Array α) (x : α) (i : Nat) (h : i < a.size) : (a.push x)[i]? = a[i]? := by
  rw [Array.getElem?_push, if_neg (by omega)]

theorem pnF {α : Type} (a : Array α) (x : α) (i : Nat) (h : i = a.size) : (a.push x)[i]? = some x := by
  subst h
  simp

theorem six_heapF (w : World) (o1 o2 o3 o4 o5 o6 : Obj) (b : Nat) (hb : b = w.heap.size) (W : World) (hW : W = (((((w.alloc o1).alloc o2).alloc o3).alloc o4).alloc o5).alloc o6) :
    W.heap[b]? = some o1 ∧ W.heap[b + 1]? = some o2 ∧ W.heap[b + 2]? = some o3 ∧ W.heap[b + 3]? = some o4 ∧ W.heap[b + 4]? = some o5 ∧ W.heap[b + 5]? = some o6 ∧ W.heap.size = b + 6 := by
  have hh : W.heap = (((((w.heap.push o1).push o2).push o3).push o4).push o5).push o6 := by rw [hW]; rfl
  rw [hh]
  subst hb
  refine ⟨?_, ?_, ?_, ?_, ?_, ?_, by simp only [Array.size_push]⟩
  · rw [plF _ _ _ (by simp only [Array.size_push]; omega), plF _ _ _ (by simp only [Array.size_push]; omega), plF _ _ _ (by simp only [Array.size_push]; omega), plF _ _ _ (by simp only [Array.size_push]; omega), plF _ _ _ (by simp only [Array.size_push]; omega), pnF _ _ _ rfl]
  · rw [plF _ _ _ (by simp only [Array.size_push]; omega), plF _ _ _ (by simp only [Array.size_push]; omega), plF _ _ _ (by simp only [Array.size_push]; omega), plF _ _ _ (by simp only [Array.size_push]; omega), pnF _ _ _ (by simp only [Array.size_push])]
  · rw [plF _ _ _ (by simp only [Array.size_push]; omega), plF _ _ _ (by simp only [Array.size_push]; omega), plF _ _ _ (by simp only [Array.size_push]; omega), pnF _ _ _ (by simp only [Array.size_push])]
  · rw [plF _ _ _ (by simp only [Array.size_push]; omega), plF _ _ _ (by simp only [Array.size_push]; omega), pnF _ _ _ (by simp only [Array.size_push])]
  · rw [plF _ _ _ (by simp only [Array.size_push]; omega), pnF _ _ _ (by simp only [Array.size_push])]
  · rw [pnF _ _ _ (by simp only [Array.size_push])]

theorem made_nils (n : Nat) : madeCells #[.slice none 0 0] n = (List.replicate n (Value.slice none 0 0)).toArray := by
  rw [← toList_madeCells_one]

/-- The boxes at the start. -/
theorem LvI.start (w : World) (d : Nat) (C : List (List Int)) (cs rv sv : Value) (W : World) (b : Nat) (hb : b = w.heap.size)
    (hW : W = (((((w.alloc (.cells #[.int .i64 d, cs, rv, sv] 60)).alloc (.cells (madeCells #[.slice none 0 0] (d + 2)) 58)).alloc (.cells #[.slice (some ⟨b + 1, 0, none⟩) (d + 2) (d + 2)] 63)).alloc (.map #[] 0)).alloc (.cells #[.map (some (b + 3))] 76)).alloc (.cells #[.func (.func 50) #[] (seA b)] 77)) :
    LvI w b d C cs rv sv [] [] W := by
  obtain ⟨q1, q2, q3, q4, q5, q6, q7⟩ := six_heapF w _ _ _ _ _ _ b hb W hW
  have hB : Below w.heap.size w W := by
    rw [hW]
    exact ((((((Below.refl _ _).alloc (Nat.le_refl _) _).alloc (by simp) _).alloc (by simp; omega) _).alloc (by simp; omega) _).alloc (by simp; omega) _).alloc (by simp; omega) _
  have hmp : W.ownsMap Tryz.prog 74 (plainElem (H := Unit) Tryz.prog 3) (b + 3) 0 (.map []) := by
    rw [hW]
    refine World.ownsMap.alloc (World.ownsMap.alloc ?_ _) _
    have := World.ownsMap_made (((w.alloc (.cells #[.int .i64 d, cs, rv, sv] 60)).alloc (.cells (madeCells #[.slice none 0 0] (d + 2)) 58)).alloc (.cells #[.slice (some ⟨b + 1, 0, none⟩) (d + 2) (d + 2)] 63)) Tryz.prog 74 (plainElem (H := Unit) Tryz.prog 3)
    simp only [World.size_alloc] at this
    rw [← hb] at this
    exact this
  refine ⟨by omega, hB, by omega, q1, q3, q5, q6, ⟨.map [], hmp, fun x => ⟨by simp [Maps.has], fun h => by simp at h⟩⟩, List.replicate (d + 2) (.slice none 0 0), by simp, by rw [← made_nils]; exact q2, fun t ht => ?_, fun s t hs ht _ x hx => ?_⟩
  · have e : (List.replicate (d + 2) (Value.slice none 0 0)).getD t undef = .slice none 0 0 := by simp [ht]
    rw [e]
    exact World.ownsRow_nil _ _ _ _
  · have e : (List.replicate (d + 2) (Value.slice none 0 0)).getD s undef = .slice none 0 0 := by simp [hs]
    rw [e] at hx
    simp [Value.ownBlock] at hx

set_option maxRecDepth 100000 in
set_option maxHeartbeats 1600000 in
theorem levels_any (d : Nat) (C : List (List Int)) (co : Option Addr) (cc : Nat) (rv : Value) (so : Option Addr) (sc : Nat) (S : List Nat) (w : World) (hC : Mat w.heap.size 22 3 w (.slice co C.length cc) C) (hbx : Box d 30 C) (h1 : 1 ≤ d) (h4 : d ≤ 4) (hn : C.length ≤ 10) (hT : TabB w) (hS : Sl w.heap.size 74 w (.slice so S.length sc) (u64s S)) (hS1 : ∀ t ∈ S, t < 1024) (hSl : S.length ≤ 5000) :
    Calls Tryz.prog 32 #[.agg #[.int .i64 d, .slice co C.length cc, rv, .slice so S.length sc]] w fun e w' => e = .returned (.slice (some ⟨w.heap.size + 1, 0, none⟩) (d + 2) (d + 2)) ∧ ∃ A, SeeW w w.heap.size d C co cc rv so sc S A w' ∧ SeeP S (2 ^ C.length - 1) [] A := by
  have hmm := @run_makeMap Tryz.prog
  have hmk : ∀ w : World, (Instr.makeSlice 63 (.int .i64 ((d : Int) + 2)) (.int .i64 ((d : Int) + 2))).run Tryz.prog w = .ok (.slice (some ⟨w.heap.size, 0, none⟩) (d + 2) (d + 2)) (w.alloc (.cells (madeCells #[.slice none 0 0] (d + 2)) 58)) := fun w => by
    have h := run_make_row' (P := Tryz.prog) 63 58 (.slice none 0 0) 24 (by kernel_rfl) (by kernel_rfl) rfl .i64 .i64 (d + 2) (by omega) (by omega) w
    rw [show ((d + 2 : Nat) : Int) = (d : Int) + 2 by omega] at h
    exact h
  obtain ⟨W, hW⟩ : ∃ W, W = (((((w.alloc (.cells #[.int .i64 d, .slice co C.length cc, rv, .slice so S.length sc] 60)).alloc (.cells (madeCells #[.slice none 0 0] (d + 2)) 58)).alloc (.cells #[.slice (some ⟨w.heap.size + 1, 0, none⟩) (d + 2) (d + 2)] 63)).alloc (.map #[] 0)).alloc (.cells #[.map (some (w.heap.size + 1 + 1 + 1))] 76)).alloc (.cells #[.func (.func 50) #[] #[.pointer (some ⟨w.heap.size + 1 + 1 + 1 + 1, 0, none⟩), .pointer (some ⟨w.heap.size, 0, none⟩), .pointer (some ⟨w.heap.size + 1 + 1, 0, none⟩), .pointer (some ⟨w.heap.size + 1 + 1 + 1 + 1 + 1, 0, none⟩)]] 77) := ⟨_, rfl⟩
  have HI : Hid (LvI w w.heap.size d C (.slice co C.length cc) rv (.slice so S.length sc) [] [] W) := LvI.start w d C _ rv _ W w.heap.size rfl hW
  have HALL : Hid (∀ X, Calls Tryz.prog 52 #[.agg #[.int .i64 d, .slice co C.length cc, rv, .slice so S.length sc]] X fun e w' => e = .returned (.int .u64 ((2 ^ C.length - 1 : Nat) : Int)) ∧ Below X.heap.size X w') := fun X => all10_any d C.length co cc rv _ X hn
  have HSEE : Hid (∀ X, LvI w w.heap.size d C (.slice co C.length cc) rv (.slice so S.length sc) [] [] X → Calls Tryz.prog 50 #[.int .u64 ((2 ^ C.length - 1 : Nat) : Int), .pointer (some ⟨w.heap.size + 4, 0, none⟩), .pointer (some ⟨w.heap.size, 0, none⟩), .pointer (some ⟨w.heap.size + 2, 0, none⟩), .pointer (some ⟨w.heap.size + 5, 0, none⟩)] X fun e w' => e = .returned (.tuple #[]) ∧ ∃ A', SeeW w w.heap.size d C co cc rv so sc S A' w' ∧ SeeP S (2 ^ C.length - 1) [] A') := fun X hX =>
    see_any w w.heap.size d C co cc rv so sc S hC hbx h1 h4 hn hT hS hS1 hSl _ (2 ^ C.length - 1) [] X (Nat.lt_succ_self _) (by have : 0 < 2 ^ C.length := Nat.pow_pos (by decide); omega) ⟨hX, List.nodup_nil, fun g hg => by simp at hg⟩
  have HBOX : Hid (∀ M A' X, LvI w w.heap.size d C (.slice co C.length cc) rv (.slice so S.length sc) M A' X → (X.cell? ⟨w.heap.size + 1 + 1 + 1 + 1 + 1, 0, none⟩ = some (.func (.func 50) #[] #[.pointer (some ⟨w.heap.size + 4, 0, none⟩), .pointer (some ⟨w.heap.size, 0, none⟩), .pointer (some ⟨w.heap.size + 2, 0, none⟩), .pointer (some ⟨w.heap.size + 5, 0, none⟩)]) ∧ X.cell? ⟨w.heap.size, 0, none⟩ = some (.int .i64 d) ∧ X.cell? ⟨w.heap.size, 1, none⟩ = some (.slice co C.length cc) ∧ X.cell? ⟨w.heap.size, 2, none⟩ = some rv ∧ X.cell? ⟨w.heap.size, 3, none⟩ = some (.slice so S.length sc)) ∧ X.cell? ⟨w.heap.size + 1 + 1, 0, none⟩ = some (.slice (some ⟨w.heap.size + 1, 0, none⟩) (d + 2) (d + 2))) := fun M A' X h => by
    have q2 := h.bd
    have q3 := h.ob
    have q4 := h.fb
    exact ⟨⟨by show X.cell? ⟨w.heap.size + 5, 0, none⟩ = _; simp [World.cell?, q4, seA], by simp [World.cell?, q2], by simp [World.cell?, q2], by simp [World.cell?, q2], by simp [World.cell?, q2]⟩, by show X.cell? ⟨w.heap.size + 2, 0, none⟩ = _; simp [World.cell?, q3]⟩
  generalize 2 ^ C.length - 1 = F at *
  clear hC hbx hT hS hS1
  go_enter Tryz.func32, Tryz.ntmps32
  go_upto_region 5 with fail
  rw [← hW]
  clear hW hmm hmk
  obtain ⟨cs0, cs1⟩ := HBOX.out _ _ _ HI.out
  refine wp_region_held_drew (S := fun X => X.cell? ⟨w.heap.size + 1 + 1 + 1 + 1 + 1, 0, none⟩ = some (.func (.func 50) #[] #[.pointer (some ⟨w.heap.size + 4, 0, none⟩), .pointer (some ⟨w.heap.size, 0, none⟩), .pointer (some ⟨w.heap.size + 2, 0, none⟩), .pointer (some ⟨w.heap.size + 5, 0, none⟩)]) ∧ X.cell? ⟨w.heap.size, 0, none⟩ = some (.int .i64 d) ∧ X.cell? ⟨w.heap.size, 1, none⟩ = some (.slice co C.length cc) ∧ X.cell? ⟨w.heap.size, 2, none⟩ = some rv ∧ X.cell? ⟨w.heap.size, 3, none⟩ = some (.slice so S.length sc)) (by kernel_rfl) cs0 (fun hHeld => ?_)
  clear cs0 cs1
  refine wpAnyH_tk (i := 0) (d := 12) (v := (.func (.func 50) #[] #[.pointer (some ⟨w.heap.size + 4, 0, none⟩), .pointer (some ⟨w.heap.size, 0, none⟩), .pointer (some ⟨w.heap.size + 2, 0, none⟩), .pointer (some ⟨w.heap.size + 5, 0, none⟩)])) rfl rfl (by kernel_rfl) (by kernel_rfl) (by kernel_rfl) (fun _ _ _ h => h) (.inl ⟨by rfl, by (intro wq hSw; (try dsimp only at hSw); go_simp; (try (first | rfl | omega)))⟩) hHeld ?_
  simp only [Act.put, List.setIfInBounds_toArray, List.set_cons_zero, List.set_cons_succ]
  refine wpAnyH_tk (i := 1) (d := 13) (v := (.agg #[.int .i64 d, .slice co C.length cc, rv, .slice so S.length sc])) rfl rfl (by kernel_rfl) (by kernel_rfl) (by kernel_rfl) (fun _ _ _ h => h) (.inl ⟨by rfl, by (intro wq hSw; (try dsimp only at hSw); go_simp; (try (first | rfl | omega)))⟩) hHeld ?_
  simp only [Act.put, List.setIfInBounds_toArray, List.set_cons_zero, List.set_cons_succ]
  refine wpAnyH_ready (rs := [2]) (by kernel_rfl) (by simp) ?_
  refine ready_tk (i := 2) rfl (by rfl) (fun K hK => ?_) AllReadyH.nil
  go_simp
  refine (HALL.out W.drew).mono ?_
  rintro e w3 ⟨rfl, hb3⟩
  have HI3 : Hid (LvI w w.heap.size d C (.slice co C.length cc) rv (.slice so S.length sc) [] [] w3) := HI.out.below ((Below.drew (Below.refl W.heap.size W)).trans hb3)
  clear hb3
  refine hK.out _ _ (HBOX.out _ _ _ HI3.out).1 (fun hHeld => ?_)
  clear hK K
  refine wpAnyH_ready (rs := [3]) (by kernel_rfl) (by simp) ?_
  refine ready_tk (i := 3) rfl (by rfl) (fun K hK => ?_) AllReadyH.nil
  go_simp
  refine (HSEE.out w3 HI3.out).mono ?_
  rintro e w4 ⟨rfl, A, hW4, hP4⟩
  have HF : Hid (∃ A, SeeW w w.heap.size d C co cc rv so sc S A w4 ∧ SeeP S F [] A) := ⟨A, hW4, hP4⟩
  obtain ⟨cs0, cs1⟩ := HBOX.out _ _ _ hW4.i
  clear hW4 hP4
  refine hK.out _ _ cs0 (fun hHeld => ?_)
  clear hK K cs0
  refine wpAnyH_done (by kernel_rfl) ?_ _
  clear hHeld
  go_wp2
  go_ret
  exact ⟨rfl, HF.out⟩

end Go.Proofs.YtkfdpcgmpbopnaaGreatDoor
