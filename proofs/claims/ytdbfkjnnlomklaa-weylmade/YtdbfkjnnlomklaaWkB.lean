import Derived.Test.YtdbfkjnnlomklaaWkA
/- facetref.Cut: a text, cut at +. -/
namespace Go.Proofs.Ytdbfkjnnlomklaa
open Go.RowKit
attribute [local go_sem ↓] Go.wp_at_zero Go.wp_at_succ

/-- What is cut off up to a place, and where the next part begins. -/
def ctS (s : ByteArray) : Nat → List ByteArray × Nat
  | 0 => ([], 0)
  | i + 1 => if (s.get! i).toNat = 43 then ((ctS s i).1 ++ [s.extract (ctS s i).2 i], i + 1) else ctS s i

def ctL (s : ByteArray) : List ByteArray := (ctS s s.size).1 ++ [s.extract (ctS s s.size).2 s.size]

theorem ctS_le (s : ByteArray) : ∀ i, (ctS s i).2 ≤ i ∧ (ctS s i).1.length ≤ i
  | 0 => ⟨Nat.le_refl _, Nat.le_refl _⟩
  | i + 1 => by
    have ih := ctS_le s i
    unfold ctS
    split
    · exact ⟨Nat.le_refl _, by simp; omega⟩
    · omega

theorem Try.info9 : (Try.prog.info? 9).map (fun i => (i.zero, i.size, i.bytes)) = some (some (.string ⟨#[]⟩), 1, 16) := by kernel_rfl

theorem one_str (s : ByteArray) : ∀ u ∈ [Value.string s], u.oneCell' = true := by
  intro u hu; simp at hu; subst hu; rfl

set_option maxRecDepth 100000 in
set_option maxHeartbeats 1600000 in
theorem cut_any (s : ByteArray) (w : World) (hs : s.size ≤ 1000) :
    Calls Try.prog 25 #[.string s, .int .u8 43] w fun e w' => ∃ u, e = .returned u ∧ w'.ownsRow w.heap.size 9 1 u (ctL s).length ((ctL s).map .string) ∧ Below w.heap.size w w' := by
  obtain ⟨i9, hi9, hz90, hz91, hz92⟩ := info_parts Try.info9
  go_enter Try.func25, Try.ntmps25
  go_wp2
  go_loopw [5, 6, 7] (fun ov fv iv wr => ∃ i : Nat, i ≤ s.size ∧ iv = .int .i64 i ∧ fv = .int .i64 (ctS s i).2 ∧ wr.ownsRow w.heap.size 9 1 ov (ctS s i).1.length ((ctS s i).1.map .string) ∧ Below w.heap.size w wr) (fun _ _ iv _ => s.size - (intOf iv).toNat)
  case atStart => exact ⟨0, Nat.zero_le _, rfl, rfl, World.ownsRow_nil _ _ _ _, Below.refl _ _⟩
  case round =>
    obtain ⟨i, hi, rfl, rfl, ho, hb⟩ := hrel
    obtain ⟨oo, oc, hov⟩ := owns_form ho
    subst hov
    have HO : Hid (wr.ownsRow w.heap.size 9 1 (.slice oo (ctS s i).1.length oc) (ctS s i).1.length ((ctS s i).1.map .string)) := ho
    have HB : Hid (Below w.heap.size w wr) := hb
    have hsz : w.heap.size ≤ wr.heap.size := hb.size
    obtain ⟨hf, hl⟩ := ctS_le s i
    clear ho hb
    by_cases hlt : i < s.size
    · have HST : Hid (ctS s (i + 1) = if (s[i]'hlt).toNat = 43 then ((ctS s i).1 ++ [s.extract (ctS s i).2 i], i + 1) else ctS s i) := by
        have e : s.get! i = s[i]'hlt := by
          show s.data[i]! = s.data[i]'hlt
          rw [getElem!_pos]
        show _ = _
        rw [ctS, e]
      generalize ctS s i = t at *
      obtain ⟨t1, t2⟩ := t
      simp only at HO HST hf hl
      by_cases h43 : (s[i]'hlt).toNat = 43
      · rw [if_pos h43] at HST
        have HNX : Hid ((ctS s (i + 1)).1 = t1 ++ [s.extract t2 i] ∧ (ctS s (i + 1)).2 = i + 1) := ⟨by rw [HST.out], by rw [HST.out]⟩
        go_wp2_with (first | (at_builtin; refine wpList_append_own _ rfl _ _ 44 rfl w.heap.size 9 i9 (.string ⟨#[]⟩) 1 16 Try.underlying44 hi9 hz90 hz91 hz92 rfl (by decide) _ _ _ rfl (HO.out.alloc _) ⟨wr.heap.size, 0, none⟩ 1 1 [.string (s.extract t2 i)] rfl rfl (one_new _ _ _) (one_str _) ?c3 ?c4 ?c5 ?_))
        case c3 => unfold maxLen; omega
        case c4 => omega
        case c5 => simp; omega
        intro v2 w4 ho hg _
        have S1 : Hid (w4.ownsRow w.heap.size 9 1 v2 (ctS s (i + 1)).1.length ((ctS s (i + 1)).1.map .string)) := by
          rw [HNX.out.1]
          show w4.ownsRow _ _ _ _ _ _
          simpa using ho
        have S2 : Hid (Below w.heap.size w w4) := (HB.out.alloc (by omega) _).grown hg (by simp; omega) (fun x hx => (HO.out.lt x hx).1)
        obtain ⟨vo, vc, hv2⟩ := owns_form ho
        subst hv2
        clear ho hg
        go_wp2
        go_roundw
        case rel => exact ⟨i + 1, by omega, by go_num, by rw [HNX.out.2]; go_num, S1.out, S2.out⟩
        case measure => simp [intOf]; omega
      · rw [if_neg h43] at HST
        go_wp2
        go_roundw
        case rel => exact ⟨i + 1, by omega, by go_num, by rw [HST.out], by rw [HST.out]; exact HO.out, HB.out⟩
        case measure => simp [intOf]; omega
    · have hie : i = s.size := by omega
      have HLL : Hid (ctL s = (ctS s i).1 ++ [s.extract (ctS s i).2 s.size]) := by rw [hie]; rfl
      generalize ctS s i = t at *
      obtain ⟨t1, t2⟩ := t
      simp only at HO HLL hf hl
      go_wp2_with (first | (at_builtin; refine wpList_append_own _ rfl _ _ 44 rfl w.heap.size 9 i9 (.string ⟨#[]⟩) 1 16 Try.underlying44 hi9 hz90 hz91 hz92 rfl (by decide) _ _ _ rfl (HO.out.alloc _) ⟨wr.heap.size, 0, none⟩ 1 1 [.string (s.extract t2 s.size)] rfl rfl (one_new _ _ _) (one_str _) ?c3 ?c4 ?c5 ?_))
      case c3 => unfold maxLen; omega
      case c4 => omega
      case c5 => simp; omega
      intro v2 w4 ho hg _
      have S1 : Hid (w4.ownsRow w.heap.size 9 1 v2 (ctL s).length ((ctL s).map .string)) := by
        rw [HLL.out]
        show w4.ownsRow _ _ _ _ _ _
        simpa using ho
      have S2 : Hid (Below w.heap.size w w4) := (HB.out.alloc (by omega) _).grown hg (by simp; omega) (fun x hx => (HO.out.lt x hx).1)
      obtain ⟨vo, vc, hv2⟩ := owns_form ho
      subst hv2
      clear ho hg
      go_wp2
      go_ret
      exact ⟨_, rfl, S1.out, S2.out⟩

end Go.Proofs.Ytdbfkjnnlomklaa

/- The parts of a name; facetref.pieceMay. -/
namespace Go.Proofs.Ytdbfkjnnlomklaa
open Go.RowKit
attribute [local go_sem ↓] Go.wp_at_zero Go.wp_at_succ

set_option maxRecDepth 100000 in
theorem cut_jn1 : ∀ p ∈ kdL, ctL ⟨(jnB [p]).toArray⟩ = [kdB p] := by decide +kernel

set_option maxRecDepth 100000 in
theorem cut_jn2 : ∀ p ∈ kdL, ∀ q ∈ kdL, ctL ⟨(jnB [p, q]).toArray⟩ = [kdB p, kdB q] := by decide +kernel

set_option maxRecDepth 100000 in
theorem cut_jn3 : ∀ p ∈ kdL, ∀ q ∈ kdL, ∀ r ∈ kdL, ctL ⟨(jnB [p, q, r]).toArray⟩ = [kdB p, kdB q, kdB r] := by decide +kernel

theorem cut_jn {ps : List (UInt8 × UInt8)} (h0 : ps ≠ []) (h3 : ps.length ≤ 3) (hk : ∀ p ∈ ps, p ∈ kdL) : ctL ⟨(jnB ps).toArray⟩ = ps.map kdB := by
  match ps, h0, h3, hk with
  | [p], _, _, hk => exact cut_jn1 p (hk p (by simp))
  | [p, q], _, _, hk => exact cut_jn2 p (hk p (by simp)) q (hk q (by simp))
  | [p, q, r], _, _, hk => exact cut_jn3 p (hk p (by simp)) q (hk q (by simp)) r (hk r (by simp))

end Go.Proofs.Ytdbfkjnnlomklaa
