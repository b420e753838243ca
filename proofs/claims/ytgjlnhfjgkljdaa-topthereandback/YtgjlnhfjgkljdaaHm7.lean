/- The document's answer: lists in order, each once: the walk. -/
import Derived.Test.YtgjlnhfjgkljdaaHmA
namespace Go.Proofs.Ytgjlnhfjgkljdaa
open Go.RowKit
attribute [local go_sem ↓] Go.wp_at_zero Go.wp_at_succ

/-- What the place that is looked for has behind it. -/
def Aft (s : List (List Int)) (q : List Int) (p : Nat) : Prop := ∀ r ∈ s.drop p, cmpL q r < 0

theorem Aft.step {s : List (List Int)} {q : List Int} {p : Nat} (h : Aft s q (p + 1)) (hp : p < s.length) (hq : cmpL q (s.getD p []) < 0) : Aft s q p := by
  intro r hr
  rw [List.drop_eq_getElem_cons hp] at hr
  rcases List.mem_cons.1 hr with rfl | hr
  · have e : s.getD p [] = s[p] := by simp [hp]
    rw [← e]; exact hq
  · exact h r hr

/-- Where a slice begins that leaves k + 1 out. -/
def tailP (b c k : Nat) : Option Addr := if c = k + 1 then some ⟨b, 0, none⟩ else some ⟨b, k + 1, none⟩

theorem tailP_lt {b c k : Nat} (h : k + 1 < c) : tailP b c k = some ⟨b, k + 1, none⟩ := if_neg (by omega)

theorem run_tailM {b n c k : Nat} (h1 : k + 1 ≤ n) (w : World) : (Instr.slice 24 (.slice (some ⟨b, 0, none⟩) n c) (some (.int .i64 ((k : Int) + 1))) none none).run Try.prog w = .ok (.slice (tailP b c k) (n - (k + 1)) (c - (k + 1))) w := by
  have e1 : (0 : Int) ≤ (k : Int) + 1 ∧ (k : Int) + 1 ≤ (n : Int) := by omega
  have e2 : ((k : Int) + 1).toNat = k + 1 := by omega
  have hz : ∀ w, (Go.sizeOf 22).run Try.prog w = .ok 1 w := fun w => by kernel_rfl
  unfold tailP
  by_cases e3 : c = k + 1
  · simp [Instr.slice, Instr.sliceBounds, Instr.sliceBound, run_underlying Try.underlying24, asIntOf, e1, e2, e3, hz, Addr.add, go_sem]
  · simp [Instr.slice, Instr.sliceBounds, Instr.sliceBound, run_underlying Try.underlying24, asIntOf, e1, e2, e3, hz, Addr.add, go_sem]

theorem run_fromM {b n c k : Nat} (h1 : k < n) (h2 : n ≤ c) (w : World) : (Instr.slice 24 (.slice (some ⟨b, 0, none⟩) n c) (some (.int .i64 (k : Int))) none none).run Try.prog w = .ok (.slice (some ⟨b, k, none⟩) (n - k) (c - k)) w := by
  have e1 : (0 : Int) ≤ (k : Int) ∧ (k : Int) ≤ (n : Int) := by omega
  have e3 : ¬ c = k := by omega
  have e4 : k ≤ n := by omega
  have hz : ∀ w, (Go.sizeOf 22).run Try.prog w = .ok 1 w := fun w => by kernel_rfl
  simp [Instr.slice, Instr.sliceBounds, Instr.sliceBound, run_underlying Try.underlying24, asIntOf, e1, e3, e4, hz, Addr.add, go_sem]
  intro h
  omega

/-- As it was but for draws. -/
def Qw (w wr : World) : Prop := ∃ n, wr = w.drewN n
theorem Qw.refl (w : World) : Qw w w := ⟨0, rfl⟩
theorem Qw.drewN {w wr : World} (h : Qw w wr) (k : Nat) : Qw w (wr.drewN k) := by
  obtain ⟨n, rfl⟩ := h
  exact ⟨n + k, by rw [World.drewN_drewN]⟩
theorem Qw.below {N : Nat} {w wr : World} (h : Qw w wr) : Below N w wr := by
  obtain ⟨n, rfl⟩ := h
  exact ⟨rfl, rfl, rfl, Nat.le_refl _, fun _ _ => rfl⟩
theorem Qw.fr {B : Nat} {w wr : World} {v : Value} {m : List (List Int)} (h : Qw w wr) (hf : Fr B 22 3 w v m) : Fr B 22 3 wr v m := by
  obtain ⟨n, rfl⟩ := h
  exact hf

/-- Both slices of a row that one more goes into. -/
theorem ins_runs {g gc p n : Nat} (hp : p ≤ n) (hn : n + 1 ≤ gc) (hb : p ≤ 20000000) : ∃ (dp : Option Addr) (la ca lb cb : Nat),
    (∀ w : World, (Instr.slice 24 (.slice (some ⟨g, 0, none⟩) (n + 1) gc) (some (.int .i64 ((p : Int) + 1))) none none).run Try.prog w = .ok (.slice dp la ca) w) ∧
    (∀ w : World, (Instr.slice 24 (.slice (some ⟨g, 0, none⟩) (n + 1) gc) (some (.int .i64 (p : Int))) none none).run Try.prog w = .ok (.slice (some ⟨g, p, none⟩) lb cb) w) ∧
    (p < n → dp = some ⟨g, p + 1, none⟩) ∧ la = n - p ∧ lb = n - p + 1 ∧ IntKind.i64.wrap ((p : Int) + 1) = (p : Int) + 1 :=
  ⟨_, _, _, _, _, fun w => run_tailM (by omega) w, fun w => run_fromM (by omega) hn w, fun h => tailP_lt (by omega), by omega, by omega, by rw [IntKind.wrap_i64]; omega⟩

/-- The copy within the row, all given outright. -/
theorem ins_copy {p n g gc dpl ca lb cb : Nat} {dp : Option Addr} {f : Nat → Value} {w : World} {s : List (List Int)} (hs : s.length = n) (hp : p ≤ n) (hn : n + 1 ≤ gc) (hdp : p < n → dp = some ⟨g, p + 1, none⟩) (hla : dpl = n - p) (hlb : lb = n - p + 1) (hr : RowM w g gc f (s ++ [[]]))
    (ops : Array Oper) (o : Oper) (a : Act) (K : Act → World → Prop) (Q : Exit → Act → World → Prop) (E : Prop) (hgd : o.guard = none) (ho : o.op = .call { callee := .builtin .copy, args := #[.tmp 50, .tmp 53], argTypes := #[24, 24] })
    (hd : a.eval (.tmp 50) = .slice dp dpl ca) (hs' : a.eval (.tmp 53) = .slice (some ⟨g, p, none⟩) lb cb) (h : K (a.put o.dst (goInt ((n - p : Nat) : Int))) (w.drew.setCells g (p + 1) (overC f p n))) :
    if Region.wanted o (yielded ops a.tmps) = true then Oper.wp Try.prog o a w.drew K Q else E := by
  obtain ⟨i0, hi, hz0, hz1, hz2⟩ := info_parts Try.info22
  have hol : (overC f p n).length = n - p := overC_len _ _ _
  refine step_copy_cells hgd (.tmp 50) (.tmp 53) 24 24 ho 22 Try.underlying24 (by rw [hi]; simp [hz1]) dp (some ⟨g, p, none⟩) dpl ca lb cb hd hs' g (p + 1) (overC f p n) (by rw [hol, hla, hlb]; show _ = min _ _; omega) (fun h => ⟨hdp (by rw [hol] at h; omega), _, rfl, fun j v h => ?_⟩) (fun j h => ?_) (fun j _ => hr.row.frozen _) (fun v hv => ?_) ?_
  · obtain ⟨h1, rfl⟩ := overC_get f p n j v h
    have e : (⟨g, p, none⟩ : Addr).add j = ⟨g, p + j, none⟩ := by unfold Addr.add; split <;> simp_all
    rw [e]
    exact hr.row.cell (by omega)
  · rw [overC_len] at h
    have := hr.row.cell (i := p + 1 + j) (by omega)
    show (w.cell? _).isSome = true
    rw [this]; rfl
  · obtain ⟨j, hj⟩ := List.mem_iff_getElem?.1 hv
    obtain ⟨h1, rfl⟩ := overC_get f p n j v hj
    exact sl_one (hr.inn (p + j) (by simp; omega))
  · rw [hol]; exact h

end Go.Proofs.Ytgjlnhfjgkljdaa
