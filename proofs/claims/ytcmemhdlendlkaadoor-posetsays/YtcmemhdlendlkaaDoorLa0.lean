/- PosetSays: all contracts in one saying. -/
import Derived.Test.YtcmemhdlendlkaaDoorOm1
import Derived.Test.YtcmemhdlendlkaaDoorOrA
import Derived.Test.YtcmemhdlendlkaaDoorDcB
import Derived.Test.YtcmemhdlendlkaaDoorDc5
import Derived.Test.YtcmemhdlendlkaaDoorDcA
import Derived.Test.YtcmemhdlendlkaaDoorPtA
import Derived.Test.YtcmemhdlendlkaaDoorPtB
import Derived.Test.YtcmemhdlendlkaaDoorLsA
namespace Go.Proofs.YtcmemhdlendlkaaDoor
open Go.RowKit
attribute [local go_sem ↓] Go.wp_at_zero Go.wp_at_succ

/-- A later world: all old blocks as they were. -/
def Ext (a b : World) : Prop := Below a.heap.size a b

theorem Ext.refl (a : World) : Ext a a := Below.refl _ _

theorem Ext.tr {a b c : World} (h1 : Ext a b) (h2 : Ext b c) : Ext a c := Below.trans h1 (Below.mono h2 (Below.size h1))

theorem extNext {L : List World} {w w' : World} (h : ∀ a ∈ L, Ext a w) (hb : Ext w w') : ∀ a ∈ w' :: L, Ext a w' := fun a ha => by
  rcases List.mem_cons.1 ha with rfl | ha
  · exact Ext.refl _
  · exact (h a ha).tr hb

/-- A list, a list of lists, read. -/
def Sx (w : World) (v : Value) (l : List Int) : Prop := Sl w.heap.size 3 w v (ints l)

def Mt (w : World) (v : Value) (m : List (List Int)) : Prop := Mat w.heap.size 27 3 w v m

theorem Sx.ext {w w' : World} {v : Value} {l : List Int} (h : Sx w v l) (he : Ext w w') : Sx w' v l := (Sl.below h he (Nat.le_refl _)).any (Nat.le_refl _)

theorem Mt.ext {w w' : World} {v : Value} {m : List (List Int)} (h : Mt w v m) (he : Ext w w') : Mt w' v m := (Mat.below h he (Nat.le_refl _)).any (Nat.le_refl _)

theorem Sx.of {B : Nat} {w : World} {v : Value} {l : List Int} (h : Sl B 3 w v (ints l)) : Sx w v l := h.any (Nat.le_refl _)

theorem Mt.of {B : Nat} {w : World} {v : Value} {m : List (List Int)} (h : Mat B 27 3 w v m) : Mt w v m := h.any (Nat.le_refl _)

theorem Mt.fr {B : Nat} {w : World} {v : Value} {m : List (List Int)} (h : Fr B 27 3 w v m) : Mt w v m := by
  obtain ⟨vs, h1, h2, h3⟩ := h
  exact ⟨vs, h1, Sl.own h2, fun i hi => (h3 i hi).more (Nat.zero_le _)⟩

set_option maxRecDepth 100000 in
theorem listsP_same (x : List (List Int)) (u v : Value) (w : World) (hu : Mt w u x) (hv : Mt w v x) :
    Calls Tryd.prog 11 #[u, .int .i64 0, v, .int .i64 0] w fun x w' => x = .returned (.bool true) ∧ Ext w w' := by
  obtain ⟨uo, uc, rfl, _, _⟩ := mat_open hu
  obtain ⟨vo, vc, rfl, _, _⟩ := mat_open hv
  have HU : Hid (Mat w.heap.size 27 3 w (.slice uo x.length uc) x) := hu
  have HV : Hid (Mat w.heap.size 27 3 w (.slice vo x.length vc) x) := hv
  clear hu hv
  go_enter Tryd.func11, Tryd.ntmps11
  go_wp2_with fail
  refine (sameAll_any w.heap.size x x _ _ w HU.out HV.out).mono ?_
  rintro e w' ⟨rfl, n, rfl⟩
  have hxx : (x == x) = true := by simp
  rw [hxx]
  go_wp2
  go_ret
  exact ⟨rfl, ⟨rfl, rfl, rfl, Nat.le_refl _, fun _ _ => rfl⟩⟩

/-- All contracts. -/
structure LawC (w1 : World) (n k : Nat) (pv : Value) (UP FI AP : List Int) (OD MO PX PY : List (List Int)) (A B : Int) : Prop where
  om : ∀ W, Ext w1 W → Calls Tryd.prog 4 #[.agg #[.int .i64 (n : Int), pv]] W fun e w' => e = .returned (.int .i64 0) ∧ Ext W w'
  ao : ∀ W, Ext w1 W → Calls Tryd.prog 5 #[.agg #[.int .i64 (n : Int), pv]] W fun e w' => ∃ u, e = .returned u ∧ Sx w' u UP ∧ Ext W w'
  oo : ∀ W u, Ext w1 W → Sx W u UP → Calls Tryd.prog 6 #[u, .slice none 0 0] W fun e w' => ∃ x, e = .returned x ∧ Mt w' x OD ∧ Ext W w'
  fo : ∀ W u, Ext w1 W → Sx W u UP → Calls Tryd.prog 7 #[u] W fun e w' => ∃ x, e = .returned x ∧ Sx w' x FI ∧ Ext W w'
  po : ∀ W u, Ext w1 W → Sx W u UP → Calls Tryd.prog 8 #[u] W fun e w' => ∃ x, e = .returned x ∧ Sx w' x AP ∧ Ext W w'
  mb : ∀ W, Ext w1 W → Calls Tryd.prog 9 #[.agg #[.int .i64 (n : Int), pv]] W fun e w' => ∃ x, e = .returned (.tuple #[x, .int .i64 0]) ∧ Mt w' x MO ∧ Ext W w'
  mo : ∀ W u, Ext w1 W → Sx W u UP → Calls Tryd.prog 10 #[u] W fun e w' => ∃ x, e = .returned x ∧ Mt w' x MO ∧ Ext W w'
  ab : ∀ W, Ext w1 W → Calls Tryd.prog 12 #[.agg #[.int .i64 (n : Int), pv]] W fun e w' => ∃ x, e = .returned (.tuple #[x, .int .i64 0]) ∧ Sx w' x UP ∧ Ext W w'
  od : ∀ W, Ext w1 W → Calls Tryd.prog 13 #[.agg #[.int .i64 (n : Int), pv]] W fun e w' => ∃ x, e = .returned (.tuple #[x, .int .i64 0]) ∧ Mt w' x OD ∧ Ext W w'
  fi : ∀ W, Ext w1 W → Calls Tryd.prog 14 #[.agg #[.int .i64 (n : Int), pv]] W fun e w' => ∃ x, e = .returned (.tuple #[x, .int .i64 0]) ∧ Sx w' x FI ∧ Ext W w'
  ap : ∀ W, Ext w1 W → Calls Tryd.prog 15 #[.agg #[.int .i64 (n : Int), pv]] W fun e w' => ∃ x, e = .returned (.tuple #[x, .int .i64 0]) ∧ Sx w' x AP ∧ Ext W w'
  ck : ∀ W, Ext w1 W → Calls Tryd.prog 16 #[.agg #[.int .i64 (n : Int), pv]] W fun e w' => e = .returned (.int .i64 0) ∧ Ext W w'
  ox : n ≤ 4 → ∀ W, Ext w1 W → Calls Tryd.prog 18 #[.agg #[.int .i64 (n : Int), pv]] W fun e w' => ∃ xo xl xc, e = .returned (.tuple #[.agg #[.int .i64 (n : Int), .slice xo xl xc], .int .i64 0]) ∧ Mt w' (.slice xo xl xc) PX ∧ Ext W w'
  oy : n ≤ 4 → ∀ W, Ext w1 W → Calls Tryd.prog 19 #[.agg #[.int .i64 (n : Int), pv]] W fun e w' => ∃ xo xl xc, e = .returned (.tuple #[.agg #[.int .i64 (n : Int), .slice xo xl xc], .int .i64 0]) ∧ Mt w' (.slice xo xl xc) PY ∧ Ext W w'
  bx : 4 < n → ∀ W, Ext w1 W → Calls Tryd.prog 18 #[.agg #[.int .i64 (n : Int), pv]] W fun e w' => e = .returned (.tuple #[.agg #[.int .i64 0, .slice none 0 0], .int .i64 1]) ∧ Ext W w'
  by' : 4 < n → ∀ W, Ext w1 W → Calls Tryd.prog 19 #[.agg #[.int .i64 (n : Int), pv]] W fun e w' => e = .returned (.tuple #[.agg #[.int .i64 0, .slice none 0 0], .int .i64 1]) ∧ Ext W w'
  sx : n ≤ 4 → ∀ W u, Ext w1 W → Sx W u FI → Calls Tryd.prog 21 #[.int .i64 (n : Int), u] W fun e w' => ∃ x, e = .returned (.agg #[.int .i64 (n : Int), x]) ∧ Mt w' x PX ∧ Ext W w'
  sy : n ≤ 4 → ∀ W u, Ext w1 W → Sx W u AP → Calls Tryd.prog 21 #[.int .i64 (n : Int), u] W fun e w' => ∃ x, e = .returned (.agg #[.int .i64 (n : Int), x]) ∧ Mt w' x PY ∧ Ext W w'
  mp : ∀ W u, Ext w1 W → Sx W u UP → Calls Tryd.prog 22 #[u, .int .i64 (k : Int), .slice none 0 0] W fun e w' => e = .returned (.tuple #[.int .i64 A, .int .i64 B]) ∧ Ext W w'
  ms : ∀ W, Ext w1 W → Calls Tryd.prog 23 #[.agg #[.int .i64 (n : Int), pv], .int .i64 (k : Int)] W fun e w' => e = .returned (.tuple #[.int .i64 A, .int .i64 B, .int .i64 0]) ∧ Ext W w'

theorem Mat0.set {w : World} {v : Value} {m : List (List Int)} {R D : Nat} (h : Mat 0 27 3 w v m) (hR : w.heap[R]? = some (.cells #[.int .i64 0, .slice none 0 0] 40 (0, 0))) : Mat 0 27 3 ((w.setCell ⟨R, 0, none⟩ (.int .i64 (D : Int))).setCell ⟨R, 1, none⟩ v) v m := by
  obtain ⟨vs, h1, h2, h3⟩ := h
  have hR2 : (w.setCell ⟨R, 0, none⟩ (.int .i64 (D : Int))).heap[R]? = some (.cells #[.int .i64 (D : Int), .slice none 0 0] 40 (0, 0)) := by simp [World.setCell, Array.getElem?_modify, hR]
  have key : ∀ {e : TypeId} {u : Value} {xs : List Value}, e ≠ 40 → Sl 0 e w u xs → Sl 0 e ((w.setCell ⟨R, 0, none⟩ (.int .i64 (D : Int))).setCell ⟨R, 1, none⟩ v) u xs := fun {e u xs} hne hs => by
    refine Sl.setCell (Sl.setCell hs _ ⟨Nat.zero_le _, fun cur => ?_⟩) _ ⟨Nat.zero_le _, fun cur => ?_⟩
    · rw [show (⟨R, 0, none⟩ : Addr).block = R from rfl, hR]
      simp
      exact fun _ e2 => hne e2.symm
    · rw [show (⟨R, 1, none⟩ : Addr).block = R from rfl, hR2]
      simp
      exact fun _ e2 => hne e2.symm
  exact ⟨vs, h1, key (by decide) h2, fun i hi => key (by decide) (h3 i hi)⟩

theorem lawC_of (w1 : World) (n k : Nat) (es : List (Nat × Nat)) (pv : Value) (hv : Prs w1 pv (npL es)) (hG : GdO n es) (hT : TabB w1) (hk : k ≤ 6) :
    LawC w1 n k pv (upL n (upF n es)) (stTo filQ (upF n es) (2 ^ n)) (stTo apaQ (upF n es) (2 ^ n)) (odF n (upF n es) n []) (moL n (upF n es)) (ptsL n (stTo filQ (upF n es) (2 ^ n))) (ptsL n (stTo apaQ (upF n es) (2 ^ n))) (wyF (upF n es) k leF n []) (wyF (upF n es) k ltF n []) := by
  have hP := hG.ord
  have hn1 := hG.n1
  have hn6 := hG.n6
  have hf : ∀ i, i < n → upF n es i < 64 := fun i hi => hG.b64 hi
  have h64 : 2 ^ n ≤ 64 := (Nat.pow_le_pow_right (by omega) hn6 : 2 ^ n ≤ 2 ^ 6)
  have hvW : ∀ W, Ext w1 W → Prs W pv (npL es) := fun W h => hv.below h (Nat.le_refl _)
  have hTW : ∀ W, Ext w1 W → TabB W := fun W h => hT.below h
  have hpv : ∃ po pl pc, pv = .slice po pl pc := by
    obtain ⟨po, pc, e, _⟩ := hv
    exact ⟨po, _, pc, e⟩
  have hOD : odF n (upF n es) n [] = grF (upF n es) n (2 ^ n - 1) [] := od_gr hP hn6 n _ _ (lf_all n) (by simp) (fun x hx => by simp at hx)
  refine ⟨?_, ?_, ?_, ?_, ?_, ?_, ?_, ?_, ?_, ?_, ?_, ?_, ?_, ?_, ?_, ?_, ?_, ?_, ?_, ?_⟩
  · exact fun W h => orderMay_ok n es pv W (hvW W h) hG
  · refine fun W h => (aboveOf_any n es pv W (hvW W h) hG.bd hn6 hG.len).mono ?_
    rintro e w' ⟨x, h1, h2, h3⟩
    exact ⟨x, h1, Sx.of (B := 0) (Sl.own h2), h3⟩
  · refine fun W u h hu => (ordersOf_any n _ hf hn1 hn6 u W hu n [] (.slice none 0 0) W (by simp) (fun x hx => by simp at hx) (Below.refl _ _) (Sl.nil _ _ _)).mono ?_
    rintro e w' ⟨x, h1, h2, _, h3⟩
    exact ⟨x, h1, Mt.fr h2, h3⟩
  · refine fun W u h hu => (filOf_any n _ hf hn1 hn6 u W hu).mono ?_
    rintro e w' ⟨x, h1, h2, h3⟩
    exact ⟨x, h1, Sx.of (B := 0) (Sl.own h2), h3⟩
  · refine fun W u h hu => (apaOf_any n _ hf hn1 hn6 u W hu).mono ?_
    rintro e w' ⟨x, h1, h2, h3⟩
    exact ⟨x, h1, Sx.of (B := 0) (Sl.own h2), h3⟩
  · refine fun W h => (moebiusAll_any n es pv W (hvW W h) hG).mono ?_
    rintro e w' ⟨g, h1, h2, h3⟩
    exact ⟨_, h1, mat_moR h2 hn1 hn6, h3⟩
  · refine fun W u h hu => (moebiusOf_any n _ hP hn1 hn6 u W hu).mono ?_
    rintro e w' ⟨x, h1, h2, h3⟩
    exact ⟨x, h1, Mt.fr h2, h3⟩
  · refine fun W h => (above_any n es pv W (hvW W h) hG).mono ?_
    rintro e w' ⟨g, h1, h2, h3, _⟩
    exact ⟨_, h1, Sx.of (B := 0) (nuR_sl h2 (by omega)), h3⟩
  · refine fun W h => (orders_any n es pv W (hvW W h) hG (hTW W h)).mono ?_
    rintro e w' ⟨x, h1, h2, h3⟩
    exact ⟨x, h1, by rw [hOD]; exact h2, h3⟩
  · refine fun W h => (filters_any n es pv W (hvW W h) hG (hTW W h)).mono ?_
    rintro e w' ⟨x, h1, h2, h3⟩
    exact ⟨x, h1, Sx.of (B := 0) (Sl.own h2), h3⟩
  · refine fun W h => (apartP_any n es pv W (hvW W h) hG (hTW W h)).mono ?_
    rintro e w' ⟨x, h1, h2, h3⟩
    exact ⟨x, h1, Sx.of (B := 0) (Sl.own h2), h3⟩
  · exact fun W h => checkP_any n es pv W (hvW W h) hG
  · refine fun h4 W h => (outFil_any n 0 pv n W hpv (fun x W => Mat 0 27 3 W x (ptsL n (stTo filQ (upF n es) (2 ^ n)))) (fun x W R hq hR => Mat0.set hq hR) (fun W2 h2 => (ofSetsFil_any n es pv W2 (hvW W2 (h.tr h2)) hG (hTW W2 (h.tr h2)) h4).mono ?_)).mono ?_
    · rintro e w' ⟨u, h1, h2, h3⟩
      obtain ⟨uo, uc, rfl, _, _⟩ := mat_open h2
      exact ⟨uo, _, uc, h1, h2, h3⟩
    · rintro e w' ⟨x, h1, h2, h3⟩
      obtain ⟨uo, uc, rfl, _, _⟩ := mat_open h2
      exact ⟨uo, _, uc, h1, Mt.of h2, h3⟩
  · refine fun h4 W h => (outApa_any n 0 pv n W hpv (fun x W => Mat 0 27 3 W x (ptsL n (stTo apaQ (upF n es) (2 ^ n)))) (fun x W R hq hR => Mat0.set hq hR) (fun W2 h2 => (ofSetsApa_any n es pv W2 (hvW W2 (h.tr h2)) hG (hTW W2 (h.tr h2)) h4).mono ?_)).mono ?_
    · rintro e w' ⟨u, h1, h2, h3⟩
      obtain ⟨uo, uc, rfl, _, _⟩ := mat_open h2
      exact ⟨uo, _, uc, h1, h2, h3⟩
    · rintro e w' ⟨x, h1, h2, h3⟩
      obtain ⟨uo, uc, rfl, _, _⟩ := mat_open h2
      exact ⟨uo, _, uc, h1, Mt.of h2, h3⟩
  · refine fun h4 W h => (outFil_any 0 1 pv n W hpv (fun x _ => x = .slice none 0 0) (fun x W R hq _ => hq) (fun W2 h2 => (ofSetsFil_big n es pv W2 (hvW W2 (h.tr h2)) hG (hTW W2 (h.tr h2)) h4).mono ?_)).mono ?_
    · rintro e w' ⟨h1, h3⟩
      exact ⟨_, _, _, h1, rfl, h3⟩
    · rintro e w' ⟨x, h1, h2, h3⟩
      subst h2
      exact ⟨h1, h3⟩
  · refine fun h4 W h => (outApa_any 0 1 pv n W hpv (fun x _ => x = .slice none 0 0) (fun x W R hq _ => hq) (fun W2 h2 => (ofSetsApa_big n es pv W2 (hvW W2 (h.tr h2)) hG (hTW W2 (h.tr h2)) h4).mono ?_)).mono ?_
    · rintro e w' ⟨h1, h3⟩
      exact ⟨_, _, _, h1, rfl, h3⟩
    · rintro e w' ⟨x, h1, h2, h3⟩
      subst h2
      exact ⟨h1, h3⟩
  · refine fun h4 W u h hu => (setPoints_any n _ u W h4 hu (Nat.le_trans (stTo_len _ _ _) h64) (fun x hx => stFil_bd h64 hx)).mono ?_
    rintro e w' ⟨x, h1, h2, h3⟩
    exact ⟨x, h1, Mt.of h2, h3⟩
  · refine fun h4 W u h hu => (setPoints_any n _ u W h4 hu (Nat.le_trans (stTo_len _ _ _) h64) (fun x hx => stApa_bd h64 hx)).mono ?_
    rintro e w' ⟨x, h1, h2, h3⟩
    exact ⟨x, h1, Mt.of h2, h3⟩
  · refine fun W u h hu => (mapsOf_any n _ hP hn1 hn6 k hk u W hu n [] (.slice none 0 0) W (by simp) (Below.refl _ _) (Sl.nil _ _ _)).mono ?_
    rintro e w' ⟨h1, h3⟩
    rw [md_all hP hn6, md_all hP hn6] at h1
    exact ⟨h1, h3⟩
  · exact fun W h => maps_any n es k pv W (hvW W h) hG hk

end Go.Proofs.YtcmemhdlendlkaaDoor
