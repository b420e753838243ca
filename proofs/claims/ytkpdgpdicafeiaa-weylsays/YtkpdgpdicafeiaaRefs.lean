/- The document's answer: copies, signs, divisors. -/
import Derived.Test.YtkpdgpdicafeiaaCycAll
import Derived.Laws.AppendOwnNone
import Derived.Test.YtkpdgpdicafeiaaLinAll
namespace Go.Proofs.Ytkpdgpdicafeiaa
open Go.RowKit

theorem ints_oneCell' (l : List Int) : ∀ u ∈ ints l, u.oneCell' = true := by
  intro u hu; simp only [ints, List.mem_map] at hu; obtain ⟨z, _, rfl⟩ := hu; rfl

theorem sl_cells {B : Nat} {e : TypeId} {w : World} {a : Addr} {n cap : Nat} {xs : List Value} (h : Sl B e w (.slice (some a) n cap) xs) (o : Obj) : ∀ j u, xs[j]? = some u → (w.alloc o).cell? (a.add j) = some u := by
  intro j u hj
  have hlt : j < xs.length := by
    rcases Nat.lt_or_ge j xs.length with h' | h'
    · exact h'
    · rw [List.getElem?_eq_none h'] at hj; cases hj
  obtain ⟨ao, c, hv, h1, h2, h3, h4⟩ := h.alloc o
  simp only [Value.slice.injEq] at hv
  obtain ⟨rfl, _, rfl⟩ := hv
  obtain ⟨b, of, hb, hc, _⟩ := h3 j hlt
  simp only [Option.some.injEq] at hb
  subst hb
  rw [← hj, ← hc]
  by_cases hj0 : j = 0
  · subst hj0; simp [Addr.add]
  · simp [Addr.add, hj0]

set_option maxHeartbeats 400000 in
theorem copy_any (B : Nat) (l : List Int) (v : Value) (w : World) (hv : Sl B 3 w v (ints l)) (hl : l.length ≤ 1000000) :
    Calls Try.prog 19 #[v] w fun e w' => ∃ u, e = .returned u ∧ w'.ownsRow w.heap.size 3 1 u l.length (ints l) ∧ Below w.heap.size w w' := by
  obtain ⟨i3, hi3, hz30, hz31, hz32⟩ := info_parts Try.info3
  have hv' := hv
  obtain ⟨ao, cap, hvv, hlc, hcm, hcell, hnil⟩ := hv'
  simp only [ints_length] at hvv hlc
  subst hvv
  have HV : Hid (Sl B 3 w (.slice ao l.length cap) (ints l)) := hv
  clear hcell hv
  have HE : Hid ((w.alloc (.cells #[] 3)).ownsRow w.heap.size 3 1 (.slice (some ⟨w.heap.size, 0, none⟩) 0 0) 0 []) :=
    World.ownsRow_made w #[] 0 (Nat.le_refl _) (by simp [maxLen]) (by simp)
  cases ao with
  | none =>
    have hc0 := hnil rfl
    subst hc0
    have hl0 : l = [] := List.eq_nil_of_length_eq_zero (by omega)
    subst hl0
    go_enter Try.func19, Try.ntmps19
    go_wp2_with (first | (at_builtin; refine wpList_append_own_none rfl _ _ 23 rfl w.heap.size 3 i3 1 Try.underlying23 hi3 _ _ _ rfl HE.out rfl ?_))
    go_ret
    exact ⟨_, rfl, HE.out, (Below.refl _ _).alloc (Nat.le_refl _) _⟩
  | some a =>
    clear hnil
    go_enter Try.func19, Try.ntmps19
    go_wp2_with (first | (at_builtin; refine wpList_append_own _ rfl _ _ 23 rfl w.heap.size 3 i3 (.int .i64 0) 1 8 Try.underlying23 hi3 hz30 hz31 hz32 rfl (by decide) _ _ _ rfl HE.out a l.length cap (ints l) rfl (by simp) (sl_cells HV.out _) (ints_oneCell' l) ?c3 ?c4 ?c5 ?_))
    case c3 => unfold maxLen; omega
    case c4 => omega
    case c5 => simp
    intro v' w3 ho hg _
    have ho' : w3.ownsRow w.heap.size 3 1 v' l.length (ints l) := by simpa using ho
    have HO : Hid (w3.ownsRow w.heap.size 3 1 v' l.length (ints l)) := ho'
    have HB : Hid (Below w.heap.size w w3) := ((Below.refl _ _).alloc (Nat.le_refl _) _).grown hg (by simp) (fun k hk => by simp [Value.ownBlock] at hk; omega)
    clear ho ho' hg
    go_wp2
    go_ret
    exact ⟨_, rfl, HO.out, HB.out⟩

end Go.Proofs.Ytkpdgpdicafeiaa
