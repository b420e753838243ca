import Derived.Test.YtkgljfnbaoncbaaMgAF
import Derived.BigRegion
import Derived.Deep.AppendLies
import Derived.Test.YtkgljfnbaoncbaaRp3
import Derived.Deep.LoopGhost
import Derived.Test.YtkgljfnbaoncbaaMgAE
import Derived.Test.YtkgljfnbaoncbaaMgAA
import Derived.RangeFuncNested
import Derived.RangeFuncBound
import Derived.RangeFuncCalls
import Derived.RangeFuncLeaves
import Derived.Shelf.Abstract
import Derived.WalkKit
import Derived.OwnWalkIn
import Derived.TacticsInMore
import Derived.LoopNIn
import Derived.LoopIn
import Derived.Test.YtkgljfnbaoncbaaMgAB
import Derived.Laws.EntriesVeiled
/- root.Lengths: the walk. -/
namespace Go.Proofs.Ytkgljfnbaoncbaa
open Go.RowKit
attribute [local go_sem ↓] Go.wp_at_zero Go.wp_at_succ

theorem Only.low {g N : Nat} {a b : World} (h : Only g a b) (hN : N ≤ g) : Below N a b := ⟨h.os, h.tape, h.output, by rw [h.size]; exact Nat.le_refl _, fun x hx => h.block x (by omega)⟩

theorem Only.cell {g : Nat} {a b : World} (h : Only g a b) {x : Addr} (hx : x.block ≠ g) : b.cell? x = a.cell? x := World.cell?_of_block (w := a) (h.block _ hx)

end Go.Proofs.Ytkgljfnbaoncbaa

/- facetref.LengthsOf: the walk. -/
namespace Go.Proofs.Ytkgljfnbaoncbaa
open Go.RowKit
attribute [local go_sem ↓] Go.wp_at_zero Go.wp_at_succ

def prN (c : List (List Int)) (n t : Nat) : List Nat := rsN n ((paL c).getD t [])
theorem all_succ (f : Nat → Bool) (k : Nat) : (List.range (k + 1)).all f = ((List.range k).all f && f k) := by
  rw [List.range_succ, List.all_append]; simp

theorem Only.drewN {g : Nat} {a b : World} (h : Only g a b) (k : Nat) : Only g a (b.drewN k) := ⟨h.os, h.tape, h.output, h.size, h.block⟩

end Go.Proofs.Ytkgljfnbaoncbaa

/- weyl.takenBack. -/
namespace Go.Proofs.Ytkgljfnbaoncbaa
open Go.RowKit
attribute [local go_sem ↓] Go.wp_at_zero Go.wp_at_succ

/-- Turned over by one letter after the other. -/
def fwd (c : List (List Int)) (l : List Nat) (v : List Int) : List Int := l.foldl (fun v r => ovL c v r) v

theorem fwd_snoc (c : List (List Int)) (l : List Nat) (r : Nat) (v : List Int) : fwd c (l ++ [r]) v = ovL c (fwd c l v) r := by simp [fwd]

theorem fwd_tak (c : List (List Int)) (l : List Nat) (v : List Int) : fwd c l v = tak c l.reverse v := by
  unfold fwd tak
  rw [List.foldr_reverse]

theorem ones_at {n k : Nat} (hk : k < n) : (ones n).getD k 0 = 1 := by simp [ones, hk]

theorem natsI_len (l : List Nat) : (natsI l).length = l.length := by simp [natsI]

theorem natsI_at {l : List Nat} {k : Nat} (hk : k < l.length) : (natsI l).getD k 0 = ((l.getD k 0 : Nat) : Int) := by simp [natsI, hk]

end Go.Proofs.Ytkgljfnbaoncbaa

/- weyl.Reduce, Same, Ends. -/
namespace Go.Proofs.Ytkgljfnbaoncbaa
open Go.RowKit
attribute [local go_sem ↓] Go.wp_at_zero Go.wp_at_succ

/-- A good matrix, its roots at hand. -/
structure Gda (n : Nat) (c R : List (List Int)) : Prop where
  g : Gdc n c
  rt : Rt c R
  rl : R.length ≤ 24
  q : qS n R (ones n) ≤ 1000

def BdQ (n : Nat) (R : List (List Int)) (u : List Int) : Prop := u.length = n ∧ qS n R u ≤ 1000

theorem Gda.b0 {n : Nat} {c R : List (List Int)} (h : Gda n c R) : BdQ n R (ones n) := ⟨by simp [ones], h.q⟩

theorem Gda.b1 {n : Nat} {c R : List (List Int)} (h : Gda n c R) (u : List Int) (r : Nat) (hr : r < n) (hu : BdQ n R u) : BdQ n R (ovL c u r) := by
  have hl := h.g.sq.len
  refine ⟨by rw [ovL_len, hl], ?_⟩
  have e := qS_ov h.rt u (r := r) (by omega)
  rw [hl] at e
  rw [e]
  exact hu.2

theorem le_sum_nat {l : List Nat} {x : Nat} (h : x ∈ l) : x ≤ l.sum := by
  induction l with
  | nil => simp at h
  | cons y l ih =>
    rw [List.sum_cons]
    rcases List.mem_cons.1 h with rfl | h
    · omega
    · have := ih h; omega

theorem Gda.b2 {n : Nat} {c R : List (List Int)} (h : Gda n c R) (u : List Int) (hu : BdQ n R u) (k : Nat) : -1000000 ≤ u.getD k 0 ∧ u.getD k 0 ≤ 1000000 := by
  have hl := h.g.sq.len
  by_cases hk : k < n
  · have h1 : (pr n u (un n k)).natAbs ∈ R.map fun b => (pr n u b).natAbs := List.mem_map.2 ⟨un n k, by have := h.rt.sim k (by omega); rwa [hl] at this, rfl⟩
    have h2 := le_sum_nat h1
    have h3 := hu.2
    unfold qS at h3
    rw [pr_un _ hk] at h2
    omega
  · have : u.getD k 0 = 0 := by
      rw [List.getD_eq_getElem?_getD, List.getElem?_eq_none (by have := hu.1; omega)]; rfl
    omega

/-- The first of the shortest words. -/
def rdW (c : List (List Int)) (wd : List Nat) : List Nat := upr c 24 (tak c wd (ones c.length))

theorem rd_all {n : Nat} {c R : List (List Int)} (h : Gda n c R) {wd : List Nat} (hw : Lt c wd) :
    (rdW c wd).length = nB c.length R (tak c wd (ones c.length)) ∧ Lt c (rdW c wd) ∧ tak c (rdW c wd) (ones c.length) = tak c wd (ones c.length) ∧ fneg (upE c 24 (tak c wd (ones c.length))) = none :=
  upr_all h.rt 24 wd hw (Nat.le_trans List.countP_le_length h.rl)

theorem own_low {B B' n : Nat} {e : TypeId} {w : World} {v : Value} {xs : List Value} (h : w.ownsRow B' e 1 v n xs) (hB : B ≤ B') : w.ownsRow B e 1 v n xs := by
  refine ⟨h.1, ?_⟩
  rcases h.2 with h1 | ⟨g, cap, cur, h1, h2, h3⟩
  · exact .inl h1
  · exact .inr ⟨g, cap, cur, h1, Nat.le_trans hB h2, h3⟩

theorem btx_below {B g : Nat} {w w1 w2 : World} (h : Below B w w1) (hB : B ≤ w.heap.size) (k : Btx g w1 w2) (hg : B ≤ g) : Below B w w2 :=
  ⟨k.os.trans h.os, k.tape.trans h.tape, k.output.trans h.output, Nat.le_trans h.size k.size, fun b hb => (k.block b (by have := h.size; omega) (by omega)).trans (h.block b hb)⟩

end Go.Proofs.Ytkgljfnbaoncbaa

/- facetref.Kinds, pieceMay: of the twelve names. -/
namespace Go.Proofs.Ytkgljfnbaoncbaa
open Go.RowKit
attribute [local go_sem ↓] Go.wp_at_zero Go.wp_at_succ

/-- The twelve names' letters and numbers. -/
def kdL : List (UInt8 × UInt8) := [(65, 49), (65, 50), (65, 51), (65, 52), (66, 50), (66, 51), (66, 52), (67, 51), (67, 52), (68, 52), (70, 52), (71, 50)]

def kdB (p : UInt8 × UInt8) : ByteArray := ⟨#[p.1, p.2]⟩

def kdV : Array Value := #[.string ⟨#[65, 49]⟩, .string ⟨#[65, 50]⟩, .string ⟨#[65, 51]⟩, .string ⟨#[65, 52]⟩, .string ⟨#[66, 50]⟩, .string ⟨#[66, 51]⟩, .string ⟨#[66, 52]⟩, .string ⟨#[67, 51]⟩, .string ⟨#[67, 52]⟩, .string ⟨#[68, 52]⟩, .string ⟨#[70, 52]⟩, .string ⟨#[71, 50]⟩]

theorem kd_at : ∀ i, i < 12 → kdV[i]? = some (.string (kdB (kdL.getD i (0, 0)))) := by
  intro i hi
  rcases (show i = 0 ∨ i = 1 ∨ i = 2 ∨ i = 3 ∨ i = 4 ∨ i = 5 ∨ i = 6 ∨ i = 7 ∨ i = 8 ∨ i = 9 ∨ i = 10 ∨ i = 11 by omega) with rfl | rfl | rfl | rfl | rfl | rfl | rfl | rfl | rfl | rfl | rfl | rfl <;> rfl

set_option maxRecDepth 100000 in
theorem kinds_any (w : World) :
    Calls Try.prog 42 #[] w fun e w' => e = .returned (.slice (some ⟨w.heap.size, 0, none⟩) 12 12) ∧ (∀ i, i < 12 → w'.cell? ⟨w.heap.size, i, none⟩ = some (.string (kdB (kdL.getD i (0, 0))))) ∧ Below w.heap.size w w' := by
  go_enter Try.func42, Try.ntmps42
  go_wp2
  go_ret
  refine ⟨rfl, fun i hi => ?_, (Below.refl _ _).alloc (Nat.le_refl _) _⟩
  rw [← kd_at i hi]
  have h := fun o => heap_alloc_new w o
  simp only [World.cell?, h]
  rfl

end Go.Proofs.Ytkgljfnbaoncbaa

/- facetref.NameFrom: some of the names, in a row. -/
namespace Go.Proofs.Ytkgljfnbaoncbaa
open Go.RowKit
attribute [local go_sem ↓] Go.wp_at_zero Go.wp_at_succ

/-- A piece's rank. -/
def rkP (p : UInt8 × UInt8) : Nat := p.2.toNat - 48

/-- Names with + between. -/
def jnB : List (UInt8 × UInt8) → List UInt8
  | [] => []
  | [p] => [p.1, p.2]
  | p :: q :: l => [p.1, p.2, 43] ++ jnB (q :: l)

theorem jnB_snoc : ∀ (l : List (UInt8 × UInt8)) (p : UInt8 × UInt8), l ≠ [] → jnB (l ++ [p]) = jnB l ++ [43] ++ [p.1, p.2]
  | [], _, h => absurd rfl h
  | [q], p, _ => rfl
  | q :: r :: l, p, _ => by
    have ih := jnB_snoc (r :: l) p (by simp)
    show [q.1, q.2, 43] ++ jnB ((r :: l) ++ [p]) = [q.1, q.2, 43] ++ jnB (r :: l) ++ [43] ++ [p.1, p.2]
    rw [ih]
    simp

theorem jnB_ne : ∀ (l : List (UInt8 × UInt8)), l ≠ [] → jnB l ≠ []
  | [], h => absurd rfl h
  | [q], _ => by simp [jnB]
  | q :: r :: l, _ => by simp [jnB]

theorem jnB_len : ∀ (l : List (UInt8 × UInt8)), (jnB l).length ≤ 3 * l.length
  | [] => by simp [jnB]
  | [q] => by simp [jnB]
  | q :: r :: l => by
    have ih := jnB_len (r :: l)
    simp only [jnB, List.length_append, List.length_cons, List.length_nil] at ih ⊢
    omega

theorem str_cat (a b : List UInt8) : (⟨a.toArray⟩ : ByteArray) ++ ⟨b.toArray⟩ = ⟨(a ++ b).toArray⟩ := by
  apply ByteArray.ext
  simp

theorem kd_rk : ∀ p ∈ kdL, 1 ≤ rkP p ∧ rkP p ≤ 4 ∧ p.2.toNat = 48 + rkP p := by decide

set_option maxRecDepth 100000 in
set_option maxHeartbeats 1600000 in
theorem nameFrom_any (r : Int) (most : Nat) (w : World) (hr : In64 r) (h4 : most ≤ 4) :
    Calls Try.prog 37 #[.int .i64 r, .int .i64 most] w fun e w' => ∃ ps : List (UInt8 × UInt8), e = .returned (.string ⟨(jnB ps).toArray⟩) ∧ (ps ≠ [] ∧ ps.length ≤ 3 ∧ (∀ p ∈ ps, p ∈ kdL) ∧ (1 ≤ most → (ps.map rkP).sum ≤ most)) ∧ Below w.heap.size w w' := by
  have HK : Hid _ := kinds_any w
  have HPK : Hid (∀ (c n : Int) (W : World), 1 ≤ n → n ≤ 4611686018427387904 → In64 c → Calls Try.prog 39 #[.int .i64 c, .int .i64 n] W fun e w' => ∃ z, e = .returned (.int .i64 z) ∧ (0 ≤ z ∧ z < n) ∧ w' = W) := fun c n W => pick_any c n W
  go_enter Try.func37, Try.ntmps37
  go_wp2_with fail
  refine (kinds_any w).mono ?_
  rintro e w1 ⟨rfl, hk, hb⟩
  have HKC : Hid (∀ i, i < 12 → w1.cell? ⟨w.heap.size, i, none⟩ = some (.string (kdB (kdL.getD i (0, 0))))) := hk
  have HB : Hid (Below w.heap.size w w1) := hb
  have HR : Hid (In64 r) := hr
  clear hk hb HK hr
  go_wp2
  go_loopw [0, 6, 7, 8, 9, 10] (fun rv sv lv iv _ _ wr => ∃ (i left : Nat) (z : Int) (ps : List (UInt8 × UInt8)), i ≤ 3 ∧ iv = .int .i64 i ∧ rv = .int .i64 z ∧ In64 z ∧ lv = .int .i64 left ∧ sv = .string ⟨(jnB ps).toArray⟩ ∧ ps.length ≤ i ∧ (∀ p ∈ ps, p ∈ kdL) ∧ (ps.map rkP).sum + left = most ∧ wr = w1) (fun _ _ _ iv _ _ _ => 3 - (intOf iv).toNat)
  case atStart => exact ⟨0, most, r, [], Nat.zero_le _, rfl, rfl, HR.out, rfl, rfl, Nat.le_refl _, by simp, by simp, rfl⟩
  case round =>
    obtain ⟨i, left, z, ps, hi, rfl, rfl, hz, rfl, rfl, hpl, hpk, hsum, hwr⟩ := hrel
    subst hwr
    have HZ : Hid (In64 z) := hz
    have HPL : Hid (ps.length ≤ i) := hpl
    have HPS : Hid (∀ p ∈ ps, p ∈ kdL) := hpk
    have HSU : Hid ((ps.map rkP).sum + left = most) := hsum
    clear hz hpl hpk
    have hle : left ≤ 4 := by omega
    clear hsum
    by_cases hlt : i < 3
    · have HP1 := HPK.out z 12 wr (by decide) (by decide) HZ.out
      have HP2 := HPK.out z 1000003 wr (by decide) (by decide) HZ.out
      go_wp2_with fail
      refine HP1.mono ?_
      rintro e w2 ⟨a, rfl, ⟨ha0, ha1⟩, rfl⟩
      obtain ⟨a, rfl⟩ : ∃ k : Nat, a = (k : Int) := ⟨a.toNat, by omega⟩
      have hck := HKC.out a (by omega)
      have HME : Hid (kdL.getD a (0, 0) ∈ kdL) := by
        show _ ∈ _
        have : a < kdL.length := by show a < 12; omega
        simp [this]
      generalize kdL.getD a (0, 0) = p at *
      have hkr := kd_rk p HME.out
      clear HP1
      go_wp2_with fail
      refine HP2.mono ?_
      rintro e w3 ⟨b, rfl, ⟨hb0, hb1⟩, rfl⟩
      clear HP2
      have hs2 : (kdB p).size = 2 := rfl
      have hd1 : ((kdB p)[1]'(by rw [hs2]; decide)).toNat = 48 + rkP p := hkr.2.2
      have hjl : (jnB ps).length ≤ 9 := by
        have h1 := jnB_len ps
        have h2 := HPL.out
        omega
      obtain ⟨hk1, hk2, hk3⟩ := hkr
      clear hk3
      have HZ2 : Hid (In64 (b * 7 / 5 + 3)) := ⟨by omega, by omega⟩
      by_cases hgt : left < rkP p
      · go_wp2
        go_roundw
        case rel => exact ⟨i + 1, left, _, ps, by omega, by go_num, rfl, HZ2.out, rfl, rfl, by have := HPL.out; omega, HPS.out, HSU.out, by trivial⟩
        case measure => simp [intOf]; omega
      · have HLE : Hid ((((ps ++ [p]).map rkP).sum + (left - rkP p)) = most) := by
          show _ = _
          rw [List.map_append, List.sum_append]
          have := HSU.out
          simp
          omega
        have HPS2 : Hid (∀ q ∈ ps ++ [p], q ∈ kdL) := fun q hq => by
          rcases List.mem_append.1 hq with h | h
          · exact HPS.out q h
          · rw [List.mem_singleton] at h; subst h; exact HME.out
        have HPL2 : Hid ((ps ++ [p]).length ≤ i + 1) := by
          show _ ≤ _
          have := HPL.out
          rw [List.length_append]; simp; omega
        by_cases hps : ps = []
        · have HJ : Hid ((⟨(jnB ps).toArray⟩ : ByteArray) ++ kdB p = ⟨(jnB (ps ++ [p])).toArray⟩) := by
            subst hps
            exact str_cat [] [p.1, p.2]
          have hem : (jnB ps).isEmpty = true := by subst hps; rfl
          clear hps
          go_wp2
          go_roundw
          case rel => exact ⟨i + 1, left - rkP p, _, ps ++ [p], by omega, by go_num, rfl, HZ2.out, by congr 1; omega, by rw [HJ.out], HPL2.out, HPS2.out, HLE.out, by trivial⟩
          case measure => simp [intOf]; omega
        · have HJ : Hid ((⟨(jnB ps).toArray⟩ : ByteArray) ++ ⟨#[43]⟩ ++ kdB p = ⟨(jnB (ps ++ [p])).toArray⟩) := by
            show _ = _
            rw [jnB_snoc ps p hps]
            have e1 := str_cat (jnB ps) [43]
            have e2 := str_cat (jnB ps ++ [43]) [p.1, p.2]
            rw [← e1] at e2
            exact e2
          have hem : (jnB ps).isEmpty = false := by
            have := jnB_ne ps hps
            simpa using this
          clear hps
          go_wp2
          go_roundw
          case rel => exact ⟨i + 1, left - rkP p, _, ps ++ [p], by omega, by go_num, rfl, HZ2.out, by congr 1; omega, by rw [HJ.out], HPL2.out, HPS2.out, HLE.out, by trivial⟩
          case measure => simp [intOf]; omega
    · have HPI : Hid (ps.length ≤ 3) := Nat.le_trans HPL.out hi
      by_cases hps : ps = []
      · have hem : (jnB ps).isEmpty = true := by subst hps; rfl
        clear hps
        go_wp2
        go_ret
        exact ⟨[(65, 49)], rfl, ⟨by simp, by simp, by decide, fun h => h⟩, HB.out⟩
      · have HNE : Hid (ps ≠ []) := hps
        have hem : (jnB ps).isEmpty = false := by
          have := jnB_ne ps hps
          simpa using this
        clear hps
        go_wp2
        go_ret
        exact ⟨ps, rfl, ⟨HNE.out, HPI.out, HPS.out, fun _ => by have := HSU.out; omega⟩, HB.out⟩

end Go.Proofs.Ytkgljfnbaoncbaa

/- facetref.Cut: a text, cut at +. -/
namespace Go.Proofs.Ytkgljfnbaoncbaa
open Go.RowKit
attribute [local go_sem ↓] Go.wp_at_zero Go.wp_at_succ

/-- What is cut off up to a place, and where the next part begins. -/
def ctS (s : ByteArray) : Nat → List ByteArray × Nat
  | 0 => ([], 0)
  | i + 1 => if (s.get! i).toNat = 43 then ((ctS s i).1 ++ [s.extract (ctS s i).2 i], i + 1) else ctS s i

def ctL (s : ByteArray) : List ByteArray := (ctS s s.size).1 ++ [s.extract (ctS s s.size).2 s.size]

theorem ctS_le (s : ByteArray) : ∀ i, (ctS s i).2 ≤ i ∧ (ctS s i).1.length ≤ i
  | 0 => ⟨Nat.le_refl _, Nat.le_refl _⟩
  | i + 1 => by
    have ih := ctS_le s i
    unfold ctS
    split
    · exact ⟨Nat.le_refl _, by simp; omega⟩
    · omega

theorem Try.info9 : (Try.prog.info? 9).map (fun i => (i.zero, i.size, i.bytes)) = some (some (.string ⟨#[]⟩), 1, 16) := by kernel_rfl

theorem one_str (s : ByteArray) : ∀ u ∈ [Value.string s], u.oneCell' = true := by
  intro u hu; simp at hu; subst hu; rfl

set_option maxRecDepth 100000 in
set_option maxHeartbeats 1600000 in
theorem cut_any (s : ByteArray) (w : World) (hs : s.size ≤ 1000) :
    Calls Try.prog 53 #[.string s, .int .u8 43] w fun e w' => ∃ u, e = .returned u ∧ w'.ownsRow w.heap.size 9 1 u (ctL s).length ((ctL s).map .string) ∧ Below w.heap.size w w' := by
  obtain ⟨i9, hi9, hz90, hz91, hz92⟩ := info_parts Try.info9
  go_enter Try.func53, Try.ntmps53
  go_wp2
  go_loopw [5, 6, 7] (fun ov fv iv wr => ∃ i : Nat, i ≤ s.size ∧ iv = .int .i64 i ∧ fv = .int .i64 (ctS s i).2 ∧ wr.ownsRow w.heap.size 9 1 ov (ctS s i).1.length ((ctS s i).1.map .string) ∧ Below w.heap.size w wr) (fun _ _ iv _ => s.size - (intOf iv).toNat)
  case atStart => exact ⟨0, Nat.zero_le _, rfl, rfl, World.ownsRow_nil _ _ _ _, Below.refl _ _⟩
  case round =>
    obtain ⟨i, hi, rfl, rfl, ho, hb⟩ := hrel
    obtain ⟨oo, oc, hov⟩ := owns_form ho
    subst hov
    have HO : Hid (wr.ownsRow w.heap.size 9 1 (.slice oo (ctS s i).1.length oc) (ctS s i).1.length ((ctS s i).1.map .string)) := ho
    have HB : Hid (Below w.heap.size w wr) := hb
    have hsz : w.heap.size ≤ wr.heap.size := hb.size
    obtain ⟨hf, hl⟩ := ctS_le s i
    clear ho hb
    by_cases hlt : i < s.size
    · have HST : Hid (ctS s (i + 1) = if (s[i]'hlt).toNat = 43 then ((ctS s i).1 ++ [s.extract (ctS s i).2 i], i + 1) else ctS s i) := by
        have e : s.get! i = s[i]'hlt := by
          show s.data[i]! = s.data[i]'hlt
          rw [getElem!_pos]
        show _ = _
        rw [ctS, e]
      generalize ctS s i = t at *
      obtain ⟨t1, t2⟩ := t
      simp only at HO HST hf hl
      by_cases h43 : (s[i]'hlt).toNat = 43
      · rw [if_pos h43] at HST
        have HNX : Hid ((ctS s (i + 1)).1 = t1 ++ [s.extract t2 i] ∧ (ctS s (i + 1)).2 = i + 1) := ⟨by rw [HST.out], by rw [HST.out]⟩
        go_wp2_with (first | (at_builtin; refine wpList_append_own _ rfl _ _ 53 rfl w.heap.size 9 i9 (.string ⟨#[]⟩) 1 16 Try.underlying53 hi9 hz90 hz91 hz92 rfl (by decide) _ _ _ rfl (HO.out.alloc _) ⟨wr.heap.size, 0, none⟩ 1 1 [.string (s.extract t2 i)] rfl rfl (one_new _ _ _) (one_str _) ?c3 ?c4 ?c5 ?_))
        case c3 => unfold maxLen; omega
        case c4 => omega
        case c5 => simp; omega
        intro v2 w4 ho hg _
        have S1 : Hid (w4.ownsRow w.heap.size 9 1 v2 (ctS s (i + 1)).1.length ((ctS s (i + 1)).1.map .string)) := by
          rw [HNX.out.1]
          show w4.ownsRow _ _ _ _ _ _
          simpa using ho
        have S2 : Hid (Below w.heap.size w w4) := (HB.out.alloc (by omega) _).grown hg (by simp; omega) (fun x hx => (HO.out.lt x hx).1)
        obtain ⟨vo, vc, hv2⟩ := owns_form ho
        subst hv2
        clear ho hg
        go_wp2
        go_roundw
        case rel => exact ⟨i + 1, by omega, by go_num, by rw [HNX.out.2]; go_num, S1.out, S2.out⟩
        case measure => simp [intOf]; omega
      · rw [if_neg h43] at HST
        go_wp2
        go_roundw
        case rel => exact ⟨i + 1, by omega, by go_num, by rw [HST.out], by rw [HST.out]; exact HO.out, HB.out⟩
        case measure => simp [intOf]; omega
    · have hie : i = s.size := by omega
      have HLL : Hid (ctL s = (ctS s i).1 ++ [s.extract (ctS s i).2 s.size]) := by rw [hie]; rfl
      generalize ctS s i = t at *
      obtain ⟨t1, t2⟩ := t
      simp only at HO HLL hf hl
      go_wp2_with (first | (at_builtin; refine wpList_append_own _ rfl _ _ 53 rfl w.heap.size 9 i9 (.string ⟨#[]⟩) 1 16 Try.underlying53 hi9 hz90 hz91 hz92 rfl (by decide) _ _ _ rfl (HO.out.alloc _) ⟨wr.heap.size, 0, none⟩ 1 1 [.string (s.extract t2 s.size)] rfl rfl (one_new _ _ _) (one_str _) ?c3 ?c4 ?c5 ?_))
      case c3 => unfold maxLen; omega
      case c4 => omega
      case c5 => simp; omega
      intro v2 w4 ho hg _
      have S1 : Hid (w4.ownsRow w.heap.size 9 1 v2 (ctL s).length ((ctL s).map .string)) := by
        rw [HLL.out]
        show w4.ownsRow _ _ _ _ _ _
        simpa using ho
      have S2 : Hid (Below w.heap.size w w4) := (HB.out.alloc (by omega) _).grown hg (by simp; omega) (fun x hx => (HO.out.lt x hx).1)
      obtain ⟨vo, vc, hv2⟩ := owns_form ho
      subst hv2
      clear ho hg
      go_wp2
      go_ret
      exact ⟨_, rfl, S1.out, S2.out⟩

end Go.Proofs.Ytkgljfnbaoncbaa

/- The parts of a name; facetref.pieceMay. -/
namespace Go.Proofs.Ytkgljfnbaoncbaa
open Go.RowKit
attribute [local go_sem ↓] Go.wp_at_zero Go.wp_at_succ

set_option maxRecDepth 100000 in
theorem cut_jn1 : ∀ p ∈ kdL, ctL ⟨(jnB [p]).toArray⟩ = [kdB p] := by decide +kernel

set_option maxRecDepth 100000 in
theorem cut_jn2 : ∀ p ∈ kdL, ∀ q ∈ kdL, ctL ⟨(jnB [p, q]).toArray⟩ = [kdB p, kdB q] := by decide +kernel

set_option maxRecDepth 100000 in
theorem cut_jn3 : ∀ p ∈ kdL, ∀ q ∈ kdL, ∀ r ∈ kdL, ctL ⟨(jnB [p, q, r]).toArray⟩ = [kdB p, kdB q, kdB r] := by decide +kernel

theorem cut_jn {ps : List (UInt8 × UInt8)} (h0 : ps ≠ []) (h3 : ps.length ≤ 3) (hk : ∀ p ∈ ps, p ∈ kdL) : ctL ⟨(jnB ps).toArray⟩ = ps.map kdB := by
  match ps, h0, h3, hk with
  | [p], _, _, hk => exact cut_jn1 p (hk p (by simp))
  | [p, q], _, _, hk => exact cut_jn2 p (hk p (by simp)) q (hk q (by simp))
  | [p, q, r], _, _, hk => exact cut_jn3 p (hk p (by simp)) q (hk q (by simp)) r (hk r (by simp))

end Go.Proofs.Ytkgljfnbaoncbaa
