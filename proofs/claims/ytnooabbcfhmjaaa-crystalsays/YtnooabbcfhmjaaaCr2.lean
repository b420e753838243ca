/- crystal.free, up, down. -/
import Derived.Test.YtnooabbcfhmjaaaCr1
import Derived.Test.YtnooabbcfhmjaaaRun1
import Derived.Maps.AppendAt
namespace Go.Proofs.Ytnooabbcfhmjaaa
open Go.RowKit
attribute [local go_sem ↓] Go.wp_at_zero Go.wp_at_succ

theorem own_keepK {B n : Nat} {e : TypeId} {w w' : World} {v : Value} {xs : List Value} (h : w.ownsRow B e 1 v n xs) (hk : ∀ b, v.ownBlock = some b → w'.heap[b]? = w.heap[b]?) : w'.ownsRow B e 1 v n xs := by
  refine ⟨h.1, ?_⟩
  rcases h.2 with h1 | ⟨g, cap, cur, h1, h2, h3, h4⟩
  · exact .inl h1
  · exact .inr ⟨g, cap, cur, h1, h2, (hk g (by rw [h1]; rfl)).trans h3, h4⟩

/-- Two lists of numbers, each in a block of its own. -/
structure TwoK (B : Nat) (wa w : World) (kv av : Value) (K A : List Nat) : Prop where
  k : w.ownsRow B 3 1 kv K.length (ints (natsI K))
  a : w.ownsRow B 3 1 av A.length (ints (natsI A))
  ne : ∀ g, kv.ownBlock = some g → av.ownBlock ≠ some g
  bel : Below B wa w

theorem TwoK.swap {B : Nat} {wa w : World} {kv av : Value} {K A : List Nat} (h : TwoK B wa w kv av K A) : TwoK B wa w av kv A K := ⟨h.a, h.k, fun g h1 h2 => h.ne g h2 h1, h.bel⟩

theorem TwoK.pushA {B : Nat} {wa w w5 : World} {kv av v' : Value} {K A : List Nat} {x : Nat} (h : TwoK B wa w kv av K A) (hB : B ≤ w.heap.size)
    (ho : w5.ownsRow B 3 1 v' (A.length + 1) (ints (natsI A) ++ [.int .i64 (x : Int)])) (hg : (w.alloc (.cells #[.int .i64 (x : Int)] 3)).grownBy w5 av.ownBlock) (hat : v'.ownBlock = av.ownBlock ∨ v'.ownBlock = some (w.heap.size + 1)) : TwoK B wa w5 kv v' K (A ++ [x]) := by
  refine ⟨own_keepK h.k fun b hb => ?_, ?_, fun g h1 h2 => ?_, ?_⟩
  · have hlt := (h.k.lt b hb).2
    exact (hg.block b (by simp; omega) (fun e => h.ne b hb e.symm)).trans (Below.heap_alloc _ _ _ hlt)
  · rw [natsI_app, List.length_append, List.length_singleton]
    exact ho
  · rcases hat with hat | hat
    · exact h.ne g h1 (by rw [← hat]; exact h2)
    · rw [hat] at h2
      have hlt := (h.k.lt g h1).2
      simp only [Option.some.injEq] at h2
      omega
  · exact (h.bel.alloc hB _).grown hg (by simp; omega) (fun x hx => (h.a.lt x hx).1)

/-- The last one goes. -/
theorem own_pop {B n g cap : Nat} {e : TypeId} {w : World} {xs : List Value} (h : w.ownsRow B e 1 (.slice (some ⟨g, 0, none⟩) (n + 1) cap) (n + 1) xs) : w.ownsRow B e 1 (.slice (some ⟨g, 0, none⟩) n cap) n xs.dropLast := by
  obtain ⟨h1, h2⟩ := h
  rcases h2 with ⟨h2, _⟩ | ⟨g', cap', cur, h2, h3, h4, h5, h6, h7, h8⟩
  · simp at h2
  · simp only [Value.slice.injEq, Option.some.injEq, Addr.mk.injEq, and_true, true_and] at h2
    obtain ⟨rfl, rfl⟩ := h2
    refine ⟨by simp [h1], .inr ⟨g, cap, cur, rfl, h3, h4, by omega, h6, h7, ?_⟩⟩
    rw [← h8]
    simp only [Nat.mul_one] at *
    rw [List.dropLast_eq_take, List.length_take, List.take_take]
    congr 1
    simp
    omega

theorem natsI_drop (l : List Nat) : ints (natsI l.dropLast) = (ints (natsI l)).dropLast := by simp [ints, natsI, List.map_dropLast]

theorem frL_len (w : List Nat) (i : Nat) (l : List Nat) : (frL w i l).1.length + (frL w i l).2.length ≤ l.length := by
  refine snocInd (P := fun l => (frL w i l).1.length + (frL w i l).2.length ≤ l.length) (by simp [frL]) ?_ l
  intro l q ih
  rw [frL_snoc]
  unfold frS
  split
  · simp; omega
  · split
    · split
      · simp; omega
      · simp; omega
    · simp; omega

theorem owns_some {B n : Nat} {e : TypeId} {w : World} {v : Value} {xs : List Value} (h : w.ownsRow B e 1 v (n + 1) xs) : ∃ g cap, v = .slice (some ⟨g, 0, none⟩) (n + 1) cap ∧ n + 1 ≤ cap ∧ cap ≤ maxLen := by
  rcases h.2 with ⟨_, h2⟩ | ⟨g, cap, cur, h1, _, _, h3, h4, _⟩
  · omega
  · exact ⟨g, cap, h1, h3, h4⟩

set_option maxRecDepth 100000 in
set_option maxHeartbeats 1600000 in
theorem free_any (B : Nat) (wd : List Nat) (i : Nat) (v : Value) (w : World) (hv : Sl B 3 w v (ints (natsI wd))) (hl : wd.length ≤ 8) (hi : i ≤ 3) :
    Calls Try.prog 36 #[v, .int .i64 (i : Int)] w fun e w' => ∃ kv av, e = .returned (.tuple #[kv, av]) ∧ TwoK w.heap.size w w' kv av (fre wd i).1 (fre wd i).2 := by
  obtain ⟨i3, hi3, hz30, hz31, hz32⟩ := info_parts Try.info3
  obtain ⟨ao, cap, hvv, hlc, hcm⟩ := sl_open hv
  subst hvv
  rw [natsI_len] at hv hlc
  have HV : Hid (Sl B 3 w (.slice ao wd.length cap) (ints (natsI wd))) := hv
  rw [natsI_len]
  clear hv
  unfold fre
  go_enter Try.func36, Try.ntmps36
  go_wp2
  go_loopw [4, 5, 10] (fun kv av x wr => ∃ k : Nat, k ≤ wd.length ∧ x = .int .i64 (k : Int) ∧ TwoK w.heap.size w wr kv av (frL wd i (List.range k)).1 (frL wd i (List.range k)).2) (fun _ _ x _ => wd.length - (intOf x).toNat)
  case atStart => exact ⟨0, Nat.zero_le _, rfl, World.ownsRow_nil _ _ _ _, World.ownsRow_nil _ _ _ _, (fun g h => by simp [Value.ownBlock] at h), Below.refl _ _⟩
  case round =>
    obtain ⟨k, hk, rfl, htw⟩ := hrel
    by_cases hlt : k < wd.length
    · have HST : Hid (frL wd i (List.range (k + 1)) = frS wd i (frL wd i (List.range k)) k) := by
        show _ = _
        rw [List.range_succ, frL_snoc]
      have hln := frL_len wd i (List.range k)
      rw [List.length_range] at hln
      have hsz : w.heap.size ≤ wr.heap.size := htw.bel.size
      obtain ⟨b1, o, cp, hs, _, hcc⟩ := sl_cell (HV.out.below htw.bel (Nat.le_refl _)) (k := k) (by rw [natsI_len]; exact hlt)
      rw [natsI_len] at hs
      simp only [Value.slice.injEq, true_and] at hs
      obtain ⟨rfl, rfl⟩ := hs
      rw [natsI_at hlt] at hcc
      unfold frS at HST
      generalize wd.getD k 0 = x at *
      generalize frL wd i (List.range k) = S at *
      obtain ⟨K, A⟩ := S
      have HTW : Hid (TwoK w.heap.size w wr u4 u5 K A) := htw
      simp only at HST hln
      clear htw
      obtain ⟨xo, xc, hxv⟩ := owns_form HTW.out.a
      subst hxv
      obtain ⟨ko, kc, hkv⟩ := owns_form HTW.out.k
      subst hkv
      have kI : (k : Int) < (wd.length : Int) := by omega
      by_cases g1 : x = i
      · subst g1
        have HS2 : Hid (frL wd x (List.range (k + 1)) = (K, A ++ [k])) := by show _ = _; rw [HST.out, if_pos rfl]
        have HOA : Hid (wr.ownsRow w.heap.size 3 1 (.slice xo A.length xc) A.length (ints (natsI A))) := HTW.out.a
        go_wp2_with (first | (at_builtin; refine wpList_append_own_at _ rfl _ _ 22 rfl w.heap.size 3 i3 (.int .i64 0) 1 8 Try.underlying22 hi3 hz30 hz31 hz32 rfl (by decide) _ _ _ rfl (HOA.out.alloc _) ⟨wr.heap.size, 0, none⟩ 1 1 [.int .i64 (k : Int)] rfl rfl (one_new _ _ _) (one_int _) ?c3 ?c4 ?c5 ?_))
        case c3 => unfold maxLen; omega
        case c4 => omega
        case c5 => exact Nat.le_trans hsz (Nat.le_succ _)
        intro v' w5 ho5 hg5 _ hat5
        have HT5 : Hid (TwoK w.heap.size w w5 (.slice ko K.length kc) v' K (A ++ [k])) := HTW.out.pushA hsz ho5 hg5 hat5
        clear ho5 hg5 hat5 HTW HOA hcc
        go_wp2
        go_roundw
        case rel => exact ⟨k + 1, by omega, by go_num, by rw [HS2.out]; exact HT5.out⟩
        case measure => simp [intOf]; omega
      · have g1I : ¬ (x : Int) = (i : Int) := by omega
        by_cases g2 : x = i + 1
        · have g2c : (x : Int) = (i : Int) + 1 := by omega
          rw [g2c] at hcc
          clear g2c
          subst g2
          by_cases g3 : A = []
          · subst g3
            have HS2 : Hid (frL wd i (List.range (k + 1)) = (K ++ [k], [])) := by show _ = _; rw [HST.out, if_neg g1, if_pos rfl, if_pos rfl]
            have HOA : Hid (wr.ownsRow w.heap.size 3 1 (.slice ko K.length kc) K.length (ints (natsI K))) := HTW.out.k
            simp only [List.length_nil] at HTW hln ⊢
            go_wp2_with (first | (at_builtin; refine wpList_append_own_at _ rfl _ _ 22 rfl w.heap.size 3 i3 (.int .i64 0) 1 8 Try.underlying22 hi3 hz30 hz31 hz32 rfl (by decide) _ _ _ rfl (HOA.out.alloc _) ⟨wr.heap.size, 0, none⟩ 1 1 [.int .i64 (k : Int)] rfl rfl (one_new _ _ _) (one_int _) ?c3 ?c4 ?c5 ?_))
            case c3 => unfold maxLen; omega
            case c4 => omega
            case c5 => exact Nat.le_trans hsz (Nat.le_succ _)
            intro v' w5 ho5 hg5 _ hat5
            have HT5 : Hid (TwoK w.heap.size w w5 v' (.slice xo 0 xc) (K ++ [k]) []) := (HTW.out.swap.pushA hsz ho5 hg5 hat5).swap
            clear ho5 hg5 hat5 HTW HOA hcc
            go_wp2
            go_roundw
            case rel => exact ⟨k + 1, by omega, by go_num, by rw [HS2.out]; exact HT5.out⟩
            case measure => simp [intOf]; omega
          · have HS2 : Hid (frL wd i (List.range (k + 1)) = (K, A.dropLast)) := by show _ = _; rw [HST.out, if_neg g1, if_pos rfl, if_neg g3]
            obtain ⟨p, hp⟩ : ∃ p, A.length = p + 1 := ⟨A.length - 1, by have := List.length_pos_iff.2 g3; omega⟩
            have hoa := HTW.out.a
            rw [hp] at hoa
            obtain ⟨g, cap2, hgv, hgc, hgm⟩ := owns_some hoa
            simp only [Value.slice.injEq, true_and] at hgv
            obtain ⟨rfl, rfl⟩ := hgv
            have HT5 : Hid (TwoK w.heap.size w wr (.slice ko K.length kc) (.slice (some ⟨g, 0, none⟩) p xc) K A.dropLast) := by
              refine ⟨HTW.out.k, ?_, ?_, HTW.out.bel⟩
              · rw [natsI_drop, show A.dropLast.length = p by simp [hp]]
                exact own_pop hoa
              · exact HTW.out.ne
            clear HTW hoa
            rw [hp] at hln ⊢
            have pI : (0 : Int) < ((p + 1 : Nat) : Int) := by omega
            have pE : ((p + 1 : Nat) : Int) - 1 = (p : Int) := by omega
            unfold maxLen at hgm
            go_wp2
            go_roundw
            case rel => exact ⟨k + 1, by omega, by go_num, by rw [HS2.out]; exact HT5.out⟩
            case measure => simp [intOf]; omega
        · have g2I : ¬ (x : Int) = (i : Int) + 1 := by omega
          have HS2 : Hid (frL wd i (List.range (k + 1)) = (K, A)) := by show _ = _; rw [HST.out, if_neg g1, if_neg g2]
          go_wp2
          go_roundw
          case rel => exact ⟨k + 1, by omega, by go_num, by rw [HS2.out]; exact HTW.out⟩
          case measure => simp [intOf]; omega
    · have hke : k = wd.length := by omega
      subst hke
      have HTW : Hid (TwoK w.heap.size w wr u4 u5 (frL wd i (List.range wd.length)).1 (frL wd i (List.range wd.length)).2) := htw
      clear htw
      go_wp2
      go_ret2
      exact ⟨_, _, rfl, HTW.out⟩

end Go.Proofs.Ytnooabbcfhmjaaa
