/- ConvexSays: the law. -/
import Derived.Test.YtmpbkdfknpokeaaCv9
import Derived.Test.YtmpbkdfknpokeaaHvA
namespace Go.Proofs.Ytmpbkdfknpokeaa
open Go.RowKit
attribute [local go_sem ↓] Go.wp_at_zero Go.wp_at_succ

set_option maxRecDepth 100000 in
theorem list_err (E : Int) (n c m k : Nat) (uo vo : Option Addr) (w : World) (hE : E ≠ 0) (hn : n = 0) :
    Calls Try.prog 11 #[.slice uo n c, .int .i64 E, .slice vo m k, .int .i64 E] w fun x w' => x = .returned (.bool true) ∧ w' = w := by
  subst hn
  have hb : (E != 0) = true := by simp [hE]
  clear hE
  go_enter Try.func11, Try.ntmps11
  go_wp2
  go_ret
  exact ⟨ret_bool (by simp), rfl⟩

theorem list_true (E : Int) (x y : List Int) (u v : Value) (w : World) (hu : Sl 0 3 w u (ints x)) (hv : Sl 0 3 w v (ints y)) (h0 : E ≠ 0 → x = []) (h1 : E = 0 → x = y) :
    Calls Try.prog 11 #[u, .int .i64 E, v, .int .i64 E] w fun x w' => x = .returned (.bool true) ∧ Below w.heap.size w w' := by
  by_cases h : E = 0
  · have := h1 h
    subst this h
    exact list_same 0 x u v w hu hv
  · have := h0 h
    subst this
    obtain ⟨uo, uc, rfl, _, _⟩ := sl_open hu
    obtain ⟨vo, vc, rfl, _, _⟩ := sl_open hv
    exact (list_err E _ _ _ _ uo vo w h rfl).mono fun e w' ⟨he, hw⟩ => ⟨he, by rw [hw]; exact Below.refl _ _⟩

/-- What is told, as numbers and lists. -/
def btP (rows : List (List Int)) (g : List Int) : List Int := (waysL rows g).headD []
def btQ (rows : List (List Int)) (g : List Int) : List Int := if (waysL rows g).isEmpty then [] else (wayN g (pks rows [] (btP rows g))).take (btP rows g).length
def btU (rows : List (List Int)) (g : List Int) : Int := if (waysL rows g).isEmpty then 0 else (wayN g (pks rows [] (btP rows g))).getD (btP rows g).length 0
def btB (rows : List (List Int)) (g : List Int) : Bool := !(waysL rows g).isEmpty

/-- A Taken whose lists read so. -/
def TkV (P Q : List Int) (U : Int) (w : World) (tv : Value) : Prop :=
  ∃ o1 c1 o2 c2, tv = .agg #[.slice o1 P.length c1, .slice o2 Q.length c2, .int .i64 U] ∧ Sl 0 3 w (.slice o1 P.length c1) (ints P) ∧ Sl 0 3 w (.slice o2 Q.length c2) (ints Q)

theorem tk_nil (w : World) : TkV [] [] 0 w nilT := ⟨none, 0, none, 0, rfl, Sl.nil _ _ _, Sl.nil _ _ _⟩

theorem BtV.tk {rows : List (List Int)} {g : List Int} {w : World} {tv : Value} {b : Bool} (h : BtV rows g w tv b) (hl : ∀ c ∈ waysL rows g, c.length ≤ (wayN g (pks rows [] c)).length) : TkV (btP rows g) (btQ rows g) (btU rows g) w tv ∧ b = btB rows g := by
  rcases h with ⟨h1, h2, h3⟩ | ⟨c, l, co, cc, po, pc, h1, h2, h3, h4, h5⟩
  · refine ⟨?_, by rw [h2]; simp [btB, h1]⟩
    rw [h3]
    simp only [btP, btQ, btU, h1]
    exact tk_nil w
  · have e1 : btP rows g = c := by simp [btP, h1]
    have e2 : btQ rows g = (wayN g (pks rows [] c)).take c.length := by unfold btQ; rw [e1]; simp [h1]
    have e3 : btU rows g = (wayN g (pks rows [] c)).getD c.length 0 := by unfold btU; rw [e1]; simp [h1]
    have e4 : (btQ rows g).length = c.length := by rw [e2, List.length_take]; have := hl c (by rw [h1]; simp); omega
    refine ⟨⟨co, cc, po, pc, ?_, ?_, ?_⟩, by rw [h2]; simp [btB, h1]⟩
    · rw [e1, e4, e3]; exact h3
    · rw [e1]; exact h4
    · rw [e4, e2]; exact h5

theorem ways_len {rows : List (List Int)} {g c : List Int} (h : c ∈ waysL rows g) : c.length ≤ (wayN g (pks rows [] c)).length := by
  simp only [waysL, waysTo, List.mem_flatMap, List.mem_filter] at h
  obtain ⟨m, _, _, hb⟩ := h
  unfold wayB at hb
  rw [Bool.and_eq_true] at hb
  have := norm_len hb.1
  rw [pks_len] at this
  unfold wayN
  rw [pks_len]
  omega

theorem TkV.move {P Q : List Int} {U : Int} {w w' : World} {tv : Value} (h : TkV P Q U w tv) (hb : Below w.heap.size w w') : TkV P Q U w' tv := by
  obtain ⟨o1, c1, o2, c2, rfl, h1, h2⟩ := h
  exact ⟨o1, c1, o2, c2, rfl, h1.below hb (Nat.le_refl _), h2.below hb (Nat.le_refl _)⟩

/-- What Between says, by its error. -/
def bvP (p : List (List Int)) (x : List Int) : List Int := if btwE p x = 0 then btP (p.map oneR) (oneR x) else []
def bvQ (p : List (List Int)) (x : List Int) : List Int := if btwE p x = 0 then btQ (p.map oneR) (oneR x) else []
def bvU (p : List (List Int)) (x : List Int) : Int := if btwE p x = 0 then btU (p.map oneR) (oneR x) else 0
def bvB (p : List (List Int)) (x : List Int) : Bool := if btwE p x = 0 then btB (p.map oneR) (oneR x) else false

theorem between_tk (p : List (List Int)) (x : List Int) (v xv : Value) (w : World) (hv : Mat w.heap.size 23 3 w v p) (hx : Sl w.heap.size 3 w xv (ints x)) :
    Calls Try.prog 14 #[v, xv] w fun e w' => ∃ tv, e = .returned (.tuple #[tv, .bool (bvB p x), .int .i64 (btwE p x)]) ∧ TkV (bvP p x) (bvQ p x) (bvU p x) w' tv ∧ Below w.heap.size w w' := by
  refine (between_any p x v xv w hv hx).mono ?_
  rintro e w' ⟨tv, b, rfl, hr, hb⟩
  refine ⟨tv, ?_, ?_, hb⟩
  · congr 1
    rcases hr with ⟨h1, h2, h3⟩ | ⟨h1, h2⟩
    · rw [h2]; simp [bvB, h1]
    · rw [(h2.tk fun c hc => ways_len hc).2]; simp [bvB, h1]
  · rcases hr with ⟨h1, h2, h3⟩ | ⟨h1, h2⟩
    · simp only [bvP, bvQ, bvU, if_neg h1]; rw [h3]; exact tk_nil _
    · simp only [bvP, bvQ, bvU, if_pos h1]; exact (h2.tk fun c hc => ways_len hc).1

theorem betweenOf_tk (d : Nat) (p : List (List Int)) (x : List Int) (v xv : Value) (w : World) (hv : Mat w.heap.size 23 3 w v p) (hx : Sl w.heap.size 3 w xv (ints x)) (hok : PmOk d p) (hxd : x.length = d) (hxb : ∀ z ∈ x, z.natAbs ≤ 20) (h0 : btwE p x = 0) :
    Calls Try.prog 13 #[v, xv] w fun e w' => ∃ tv, e = .returned (.tuple #[tv, .bool (bvB p x)]) ∧ TkV (bvP p x) (bvQ p x) (bvU p x) w' tv ∧ Below w.heap.size w w' := by
  refine (betweenOf_any d p x v xv w hv hx hok hxd hxb).mono ?_
  rintro e w' ⟨tv, b, rfl, h2, hb⟩
  have ht := h2.tk fun c hc => ways_len hc
  refine ⟨tv, by rw [ht.2]; simp [bvB, h0], ?_, hb⟩
  simp only [bvP, bvQ, bvU, if_pos h0]
  exact ht.1

end Go.Proofs.Ytmpbkdfknpokeaa
