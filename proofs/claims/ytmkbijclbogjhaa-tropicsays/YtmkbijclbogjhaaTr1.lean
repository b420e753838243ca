/- facetref.MetOf. -/
import Derived.Test.YtmkbijclbogjhaaTr0
import Derived.Test.YtmkbijclbogjhaaTs4
import Derived.Test.YtmkbijclbogjhaaTk1
import Derived.Test.YtmkbijclbogjhaaRefs3
import Derived.Deep.QuietTactic
import Derived.BigQuiet
import Derived.BigRegion
namespace Go.Proofs.Ytmkbijclbogjhaa
open Go.RowKit
attribute [local go_sem ↓] Go.wp_at_zero Go.wp_at_succ
attribute [local go_sem] Try.sizeOfT Try.isAggT

theorem two_sl {w : World} {a b : Int} : Sl 0 3 (w.alloc (.cells #[.int .i64 a, .int .i64 b] 3)) (.slice (some ⟨w.heap.size, 0, none⟩) 2 2) (ints [a, b]) := by
  refine ⟨some ⟨w.heap.size, 0, none⟩, 2, rfl, by simp [ints], by simp [maxLen], fun i hi => ⟨w.heap.size, 0, rfl, ?_, .inr ⟨_, heap_alloc_new w _⟩⟩, fun e => by cases e⟩
  rw [Nat.zero_add]
  simp only [World.cell?, heap_alloc_new]
  match i, hi with
  | 0, _ => rfl
  | 1, _ => rfl

/-- A row of two numbers, one's own. -/
theorem two_cells {B : Nat} {w : World} {u : Value} {a b : Int} (h : w.ownsRow B 3 1 u 2 (ints [a, b])) : ∃ g gc, u = .slice (some ⟨g, 0, none⟩) 2 gc ∧ B ≤ g ∧ w.cell? ⟨g, 0, none⟩ = some (.int .i64 a) ∧ w.cell? ⟨g, 1, none⟩ = some (.int .i64 b) := by
  rcases h.2 with ⟨_, h0⟩ | ⟨g, cap, cur, h1, h2, h3, _⟩
  · omega
  · subst h1
    exact ⟨g, cap, rfl, h2, h.cellAt 0 (by omega), h.cellAt 1 (by omega)⟩

/-- Does a slope stand there already? -/
def thB (O : List (Int × Int × Int)) (a b : Int) (j : Nat) : Bool := (O.take j).any fun t => t.1 == a && t.2.1 == b

theorem thB_succ {O : List (Int × Int × Int)} {a b : Int} {j : Nat} (h : j < O.length) : thB O a b (j + 1) = (thB O a b j || ((O.getD j (0, 1, 0)).1 == a && (O.getD j (0, 1, 0)).2.1 == b)) := by
  unfold thB
  rw [List.take_succ_eq_append_getElem h, List.any_append]
  simp [h]

/-- The three cells of one of them. -/
theorem met_cells {B g c n : Nat} {w : World} {L : List (Int × Int × Int)} (h : w.ownsRow B 30 3 (.slice (some ⟨g, 0, none⟩) n c) n (L.flatMap encT)) (hn : n = L.length) {j : Nat} (hj : j < n) :
    w.cell? ⟨g, j * 3, none⟩ = some (.int .i64 (L.getD j (0, 1, 0)).1) ∧ w.cell? ⟨g, j * 3 + 1, none⟩ = some (.int .i64 (L.getD j (0, 1, 0)).2.1) ∧ w.cell? ⟨g, j * 3 + 2, none⟩ = some (.int .i64 (L.getD j (0, 1, 0)).2.2) := by
  refine ⟨?_, ?_, ?_⟩
  · rw [h.cellAt _ (by omega), flat_get L _ (by omega), show j * 3 / 3 = j by omega, show j * 3 % 3 = 0 by omega]; rfl
  · rw [h.cellAt _ (by omega), flat_get L _ (by omega), show (j * 3 + 1) / 3 = j by omega, show (j * 3 + 1) % 3 = 1 by omega]; rfl
  · rw [h.cellAt _ (by omega), flat_get L _ (by omega), show (j * 3 + 2) / 3 = j by omega, show (j * 3 + 2) % 3 = 2 by omega]; rfl

theorem owns_form3 {B s : Nat} {e : TypeId} {w : World} {v : Value} {n : Nat} {xs : List Value} (h : w.ownsRow B e s v n xs) : ∃ vo vc, v = .slice vo n vc := by
  rcases h.2 with ⟨h1, h0⟩ | ⟨g, cap, cur, hv, _⟩
  · exact ⟨_, _, by rw [h1, h0]⟩
  · exact ⟨_, _, hv⟩

theorem met_form {B n c : Nat} {w : World} {xo : Option Addr} {xs : List Value} (h : w.ownsRow B 30 3 (.slice xo n c) n xs) (hn : 0 < n) : ∃ g, xo = some ⟨g, 0, none⟩ ∧ B ≤ g ∧ g < w.heap.size := by
  rcases h.2 with ⟨_, h0⟩ | ⟨g, cap, cur, h1, h2, h3, _⟩
  · omega
  · simp only [Value.slice.injEq] at h1
    exact ⟨g, h1.1, h2, (Array.getElem?_eq_some_iff.1 h3).1⟩

theorem six_owns {B g c n r : Nat} {W : World} {L : List (Int × Int × Int)} {o1 o2 o3 m1 m2 m3 : Int} (h : W.ownsRow B 30 3 (.slice (some ⟨g, 0, none⟩) n c) n (L.flatMap encT)) (hr : r + 1 < L.length) :
    ((((((W.setCell ⟨g, (r + 1) * 3, none⟩ (.int .i64 o1)).setCell ⟨g, (r + 1) * 3 + 1, none⟩ (.int .i64 o2)).setCell ⟨g, (r + 1) * 3 + 2, none⟩ (.int .i64 o3)).setCell ⟨g, r * 3, none⟩ (.int .i64 m1)).setCell ⟨g, r * 3 + 1, none⟩ (.int .i64 m2)).setCell ⟨g, r * 3 + 2, none⟩ (.int .i64 m3)).ownsRow B 30 3 (.slice (some ⟨g, 0, none⟩) n c) n (((L.set (r + 1) (o1, o2, o3)).set r (m1, m2, m3)).flatMap encT) := by
  have h1 := (h.stored ((r + 1) * 3) (.int .i64 o1)).1
  have h2 := (h1.stored ((r + 1) * 3 + 1) (.int .i64 o2)).1
  have h3 := (h2.stored ((r + 1) * 3 + 2) (.int .i64 o3)).1
  rw [flat_set L (r + 1) o1 o2 o3 hr] at h3
  have h4 := (h3.stored (r * 3) (.int .i64 m1)).1
  have h5 := (h4.stored (r * 3 + 1) (.int .i64 m2)).1
  have h6 := (h5.stored (r * 3 + 2) (.int .i64 m3)).1
  rw [flat_set (L.set (r + 1) (o1, o2, o3)) r m1 m2 m3 (by simp; omega)] at h6
  exact h6

theorem six_else {g r b : Nat} {W : World} {o1 o2 o3 m1 m2 m3 : Int} (hb : b ≠ g) : ((((((W.setCell ⟨g, (r + 1) * 3, none⟩ (.int .i64 o1)).setCell ⟨g, (r + 1) * 3 + 1, none⟩ (.int .i64 o2)).setCell ⟨g, (r + 1) * 3 + 2, none⟩ (.int .i64 o3)).setCell ⟨g, r * 3, none⟩ (.int .i64 m1)).setCell ⟨g, r * 3 + 1, none⟩ (.int .i64 m2)).setCell ⟨g, r * 3 + 2, none⟩ (.int .i64 m3)).heap[b]? = W.heap[b]? :=
  (Below.heap_setCell _ _ _ _ hb).trans ((Below.heap_setCell _ _ _ _ hb).trans ((Below.heap_setCell _ _ _ _ hb).trans ((Below.heap_setCell _ _ _ _ hb).trans ((Below.heap_setCell _ _ _ _ hb).trans (Below.heap_setCell _ _ _ _ hb)))))

theorem six_below {B g r : Nat} {w W : World} {o1 o2 o3 m1 m2 m3 : Int} (h : Below B w W) (hb : B ≤ g) : Below B w ((((((W.setCell ⟨g, (r + 1) * 3, none⟩ (.int .i64 o1)).setCell ⟨g, (r + 1) * 3 + 1, none⟩ (.int .i64 o2)).setCell ⟨g, (r + 1) * 3 + 2, none⟩ (.int .i64 o3)).setCell ⟨g, r * 3, none⟩ (.int .i64 m1)).setCell ⟨g, r * 3 + 1, none⟩ (.int .i64 m2)).setCell ⟨g, r * 3 + 2, none⟩ (.int .i64 m3)) :=
  (((((h.setCell hb _).setCell hb _).setCell hb _).setCell hb _).setCell hb _).setCell hb _

/-- The pairs that are done. -/
def DnT (i k : Nat) : Nat → Nat → Prop := fun a b => a < i ∨ (a = i ∧ b < k)

def MetPost (l : List Int) (w : World) (e : Ending) (w' : World) : Prop := ∃ u O, e = .returned u ∧ w'.ownsRow w.heap.size 30 3 u O.length (O.flatMap encT) ∧ Met l (fun _ _ => True) O ∧ Below w.heap.size w w'

set_option maxRecDepth 100000 in
set_option maxHeartbeats 8000000 in
theorem metOf_any (l : List Int) (v : Value) (w : World) (hl : Lst l) (hv : Sl w.heap.size 3 w v (ints l)) :
    Calls Try.prog 5 #[v] w fun e w' => MetPost l w e w' := by
  obtain ⟨iT, hiT, hzT0, hzT1, hzT2⟩ := info_parts Try.infoT
  obtain ⟨po, pc, hvv, hlc, hcm⟩ := sl_open hv
  subst hvv
  have HV : Hid (∀ W', Below w.heap.size w W' → Sl w.heap.size 3 W' (.slice po l.length pc) (ints l)) := fun W' h => hv.below h (Nat.le_refl _)
  have HL : Hid (Lst l) := hl
  have hn20 := hl.n20
  obtain ⟨n, hn⟩ : ∃ n, n = l.length := ⟨_, rfl⟩
  have HN : Hid (n = l.length) := hn
  rw [← hn] at HV hn20 ⊢
  clear hv hl hlc hcm hn
  go_enter Try.func5, Try.ntmps5
  go_wp2
  go_loopw [3, 4] (fun ov x wr => ∃ (i : Nat) (O : List (Int × Int × Int)), i ≤ n ∧ x = .int .i64 i ∧ wr.ownsRow w.heap.size 30 3 ov O.length (O.flatMap encT) ∧ O.length ≤ 20 * i ∧ Met l (DnT i 0) O ∧ Below w.heap.size w wr) (fun _ x _ => n - (intOf x).toNat)
  case atStart => exact ⟨0, [], Nat.zero_le _, rfl, World.ownsRow_nil _ _ _ _, Nat.le_refl _, Met.nil _ _ (fun a b h => by rcases h with h | h <;> omega), Below.refl _ _⟩
  case round =>
    obtain ⟨i, O, hi, rfl, ho, hol, hmet, hbr⟩ := hrel
    have HO : Hid (wr.ownsRow w.heap.size 30 3 u3 O.length (O.flatMap encT)) := ho
    have HM : Hid (Met l (DnT i 0) O) := hmet
    have HB : Hid (Below w.heap.size w wr) := hbr
    clear ho hmet hbr
    by_cases hin : i < n
    · have iI : (i : Int) < (n : Int) := by omega
      have iI0 : (0 : Int) ≤ (i : Int) := by omega
      have HM0 : Hid (Met l (DnT i (i + 1)) O) := HM.out.mono fun a b h1 _ h3 _ => by
        rcases h3 with h | ⟨rfl, h⟩
        · exact .inl h
        · omega
      go_wp2
      clear HM
      go_loopw [3, 5] (fun ov x wk => ∃ (k : Nat) (O : List (Int × Int × Int)), i + 1 ≤ k ∧ k ≤ n ∧ x = .int .i64 k ∧ wk.ownsRow w.heap.size 30 3 ov O.length (O.flatMap encT) ∧ O.length ≤ 20 * i + k ∧ Met l (DnT i k) O ∧ Below w.heap.size w wk) (fun _ x _ => n - (intOf x).toNat)
      case atStart => exact ⟨i + 1, O, Nat.le_refl _, by omega, by go_num, HO.out, by omega, HM0.out, HB.out⟩
      case round =>
        clear HO HM0 HB hol
        obtain ⟨k, O, hik, hk, rfl, ho, hol, hmet, hbr⟩ := hrel
        obtain ⟨xo, xc, hxv⟩ := owns_form3 ho
        subst hxv
        have HO : Hid (wr.ownsRow w.heap.size 30 3 (.slice xo O.length xc) O.length (O.flatMap encT)) := ho
        have HM : Hid (Met l (DnT i k) O) := hmet
        have HB : Hid (Below w.heap.size w wr) := hbr
        clear ho hmet hbr
        by_cases hkn : k < n
        · have kI : (k : Int) < (n : Int) := by omega
          have kI0 : (0 : Int) ≤ (k : Int) := by omega
          obtain ⟨lb, lq, _, hs, _, ci⟩ := sl_cell (HV.out wr HB.out) (k := i) (show i < l.length by rw [← HN.out]; exact hin)
          simp only [Value.slice.injEq] at hs
          obtain ⟨rfl, -, -⟩ := hs
          obtain ⟨lb', lq', _, hs, _, ck⟩ := sl_cell (HV.out wr HB.out) (k := k) (show k < l.length by rw [← HN.out]; exact hkn)
          simp only [Value.slice.injEq, Option.some.injEq, Addr.mk.injEq, and_true] at hs
          obtain ⟨⟨rfl, rfl⟩, -, -⟩ := hs
          have hbi := HL.out.at i
          have hbk := HL.out.at k
          have HLW : Hid (∀ W' : World, Calls Try.prog 12 #[.slice (some ⟨W'.heap.size, 0, none⟩) 2 2] (W'.alloc (.cells #[.int .i64 (l.getD i 0 - l.getD k 0), .int .i64 ((k : Int) - i)] 3)).drew fun e w' => ∃ u, e = .returned u ∧ w'.ownsRow (W'.heap.size + 1) 3 1 u 2 (ints [q0T l i k, q1T l i k]) ∧ Below (W'.heap.size + 1) (W'.alloc (.cells #[.int .i64 (l.getD i 0 - l.getD k 0), .int .i64 ((k : Int) - i)] 3)).drew w') := fun W' => by
            have h := lowered_any 0 [l.getD i 0 - l.getD k 0, (k : Int) - i] (.slice (some ⟨W'.heap.size, 0, none⟩) 2 2) (W'.alloc (.cells #[.int .i64 (l.getD i 0 - l.getD k 0), .int .i64 ((k : Int) - i)] 3)).drew two_sl (by simp) (fun z hz => by
              simp only [List.mem_cons, List.not_mem_nil, or_false] at hz
              rcases hz with rfl | rfl <;> omega)
            rw [lowT] at h
            have e : (W'.alloc (.cells #[.int .i64 (l.getD i 0 - l.getD k 0), .int .i64 ((k : Int) - i)] 3)).drew.heap.size = W'.heap.size + 1 := by show Array.size (Array.push _ _) = _; simp
            rw [e] at h
            exact h
          generalize hli : l.getD i 0 = li at *
          generalize hlk : l.getD k 0 = lk at *
          have hs1 : IntKind.i64.wrap (li - lk) = li - lk := by rw [IntKind.wrap_i64]; omega
          have hs2 : IntKind.i64.wrap ((k : Int) - (i : Int)) = (k : Int) - (i : Int) := by rw [IntKind.wrap_i64]; omega
          have HLI : Hid (l.getD i 0 = li) := hli
          have HLK : Hid (l.getD k 0 = lk) := hlk
          have HSS : Hid (∀ W', Below wr.heap.size wr W' → W'.cell? ⟨lb, lq + i, none⟩ = some (.int .i64 li) ∧ W'.cell? ⟨lb, lq + k, none⟩ = some (.int .i64 lk)) := fun W' h => ⟨(h.cell (lt_of_cell ci)).trans ci, (h.cell (lt_of_cell ck)).trans ck⟩
          clear hli hlk
          go_wp2
          refine wp_region_held_drew (S := fun w' => w'.cell? ⟨lb, lq + i, none⟩ = some (.int .i64 li) ∧ w'.cell? ⟨lb, lq + k, none⟩ = some (.int .i64 lk)) (by kernel_rfl) ⟨ci, ck⟩ (fun hHeld => ?_)
          refine wpAnyH_tk (i := 0) (d := 30) (v := (.slice (some ⟨lb, lq, none⟩) n pc)) rfl rfl (by kernel_rfl) (by kernel_rfl) (by kernel_rfl) (fun _ _ _ h => h) (.inl ⟨by rfl, by (intro wq hSw; (try dsimp only at hSw); go_simp; (try (first | rfl | omega)))⟩) hHeld ?_
          simp only [Act.put, List.setIfInBounds_toArray, List.set_cons_zero, List.set_cons_succ]
          refine wpAnyH_tk (i := 1) (d := 31) (v := (.int .i64 i)) rfl rfl (by kernel_rfl) (by kernel_rfl) (by kernel_rfl) (fun _ _ _ h => h) (.inl ⟨by rfl, by (intro wq hSw; (try dsimp only at hSw); go_simp; (try (first | rfl | omega)))⟩) hHeld ?_
          simp only [Act.put, List.setIfInBounds_toArray, List.set_cons_zero, List.set_cons_succ]
          refine wpAnyH_tk (i := 2) (d := 32) (v := (.pointer (some ⟨lb, lq + i, none⟩))) rfl rfl (by kernel_rfl) (by kernel_rfl) (by kernel_rfl) (fun _ _ _ h => h) (.inl ⟨by rfl, by (intro wq hSw; (try dsimp only at hSw); go_simp; (try (first | rfl | omega)))⟩) hHeld ?_
          simp only [Act.put, List.setIfInBounds_toArray, List.set_cons_zero, List.set_cons_succ]
          refine wpAnyH_tk (i := 3) (d := 33) (v := (.int .i64 li)) rfl rfl (by kernel_rfl) (by kernel_rfl) (by kernel_rfl) (fun _ _ _ h => h) (.inl ⟨by rfl, by (intro wq hSw; (try dsimp only at hSw); go_simp; (try (first | rfl | omega)))⟩) hHeld ?_
          simp only [Act.put, List.setIfInBounds_toArray, List.set_cons_zero, List.set_cons_succ]
          refine wpAnyH_tk (i := 4) (d := 34) (v := (.slice (some ⟨lb, lq, none⟩) n pc)) rfl rfl (by kernel_rfl) (by kernel_rfl) (by kernel_rfl) (fun _ _ _ h => h) (.inl ⟨by rfl, by (intro wq hSw; (try dsimp only at hSw); go_simp; (try (first | rfl | omega)))⟩) hHeld ?_
          simp only [Act.put, List.setIfInBounds_toArray, List.set_cons_zero, List.set_cons_succ]
          refine wpAnyH_tk (i := 5) (d := 35) (v := (.int .i64 k)) rfl rfl (by kernel_rfl) (by kernel_rfl) (by kernel_rfl) (fun _ _ _ h => h) (.inl ⟨by rfl, by (intro wq hSw; (try dsimp only at hSw); go_simp; (try (first | rfl | omega)))⟩) hHeld ?_
          simp only [Act.put, List.setIfInBounds_toArray, List.set_cons_zero, List.set_cons_succ]
          refine wpAnyH_tk (i := 6) (d := 36) (v := (.pointer (some ⟨lb, lq + k, none⟩))) rfl rfl (by kernel_rfl) (by kernel_rfl) (by kernel_rfl) (fun _ _ _ h => h) (.inl ⟨by rfl, by (intro wq hSw; (try dsimp only at hSw); go_simp; (try (first | rfl | omega)))⟩) hHeld ?_
          simp only [Act.put, List.setIfInBounds_toArray, List.set_cons_zero, List.set_cons_succ]
          refine wpAnyH_tk (i := 7) (d := 37) (v := (.int .i64 lk)) rfl rfl (by kernel_rfl) (by kernel_rfl) (by kernel_rfl) (fun _ _ _ h => h) (.inl ⟨by rfl, by (intro wq hSw; (try dsimp only at hSw); go_simp; (try (first | rfl | omega)))⟩) hHeld ?_
          simp only [Act.put, List.setIfInBounds_toArray, List.set_cons_zero, List.set_cons_succ]
          refine wpAnyH_tk (i := 8) (d := 38) (v := (.int .i64 (li - lk))) rfl rfl (by kernel_rfl) (by kernel_rfl) (by kernel_rfl) (fun _ _ _ h => h) (.inl ⟨by rfl, by (intro wq hSw; (try dsimp only at hSw); go_simp; (try (first | rfl | omega)))⟩) hHeld ?_
          simp only [Act.put, List.setIfInBounds_toArray, List.set_cons_zero, List.set_cons_succ]
          refine wpAnyH_tk (i := 9) (d := 39) (v := (.int .i64 k)) rfl rfl (by kernel_rfl) (by kernel_rfl) (by kernel_rfl) (fun _ _ _ h => h) (.inl ⟨by rfl, by (intro wq hSw; (try dsimp only at hSw); go_simp; (try (first | rfl | omega)))⟩) hHeld ?_
          simp only [Act.put, List.setIfInBounds_toArray, List.set_cons_zero, List.set_cons_succ]
          refine wpAnyH_tk (i := 10) (d := 40) (v := (.int .i64 i)) rfl rfl (by kernel_rfl) (by kernel_rfl) (by kernel_rfl) (fun _ _ _ h => h) (.inl ⟨by rfl, by (intro wq hSw; (try dsimp only at hSw); go_simp; (try (first | rfl | omega)))⟩) hHeld ?_
          simp only [Act.put, List.setIfInBounds_toArray, List.set_cons_zero, List.set_cons_succ]
          refine wpAnyH_tk (i := 11) (d := 41) (v := (.int .i64 ((k : Int) - (i : Int)))) rfl rfl (by kernel_rfl) (by kernel_rfl) (by kernel_rfl) (fun _ _ _ h => h) (.inl ⟨by rfl, by (intro wq hSw; (try dsimp only at hSw); go_simp; (try (first | rfl | omega)))⟩) hHeld ?_
          simp only [Act.put, List.setIfInBounds_toArray, List.set_cons_zero, List.set_cons_succ]
          refine wpAnyH_ready (rs := [12]) (by kernel_rfl) (by simp) ?_
          refine ready_tk (i := 12) rfl (by rfl) (fun K hK => ?_) AllReadyH.nil
          go_simp
          have HBA : Hid (Below wr.heap.size wr (wr.alloc (.cells #[.int .i64 (li - lk), .int .i64 ((k : Int) - i)] 3)).drew) := ((Below.refl _ _).alloc (Nat.le_refl _) _).drew
          refine hK.out _ _ (HSS.out _ HBA.out) (fun hHeld => ?_)
          clear hK K
          refine wpAnyH_ready (rs := [13]) (by kernel_rfl) (by simp) ?_
          refine ready_tk (i := 13) rfl (by rfl) (fun K hK => ?_) AllReadyH.nil
          go_simp
          refine (HLW.out wr).mono ?_
          rintro e w5 ⟨u, rfl, hu, hb5⟩
          obtain ⟨gq, gc, huu, hgq, cq0, cq1⟩ := two_cells hu
          subst huu
          have HB5 : Hid (Below wr.heap.size wr w5) := HBA.out.trans (hb5.mono (by omega))
          clear hb5 hu
          refine hK.out _ _ (HSS.out _ HB5.out) (fun hHeld => ?_)
          clear hK K
          refine wpAnyH_tk (i := 14) (d := 6) (v := (.slice (some ⟨gq, 0, none⟩) 2 gc)) rfl rfl (by kernel_rfl) (by kernel_rfl) (by kernel_rfl) (fun _ _ _ h => h) (.inl ⟨by rfl, by (intro wq hSw; (try dsimp only at hSw); go_simp; (try (first | rfl | omega)))⟩) hHeld ?_
          simp only [Act.put, List.setIfInBounds_toArray, List.set_cons_zero, List.set_cons_succ]
          refine wpAnyH_done (by kernel_rfl) ?_ _
          clear hHeld HLW hs1 hs2
          obtain ⟨qa, hqa⟩ : ∃ qa, qa = q0T l i k := ⟨_, rfl⟩
          obtain ⟨qb, hqb⟩ : ∃ qb, qb = q1T l i k := ⟨_, rfl⟩
          have hqd := q_bd (l := l) (i := i) (k := k) HL.out (by omega) (by rw [← HN.out]; exact hkn)
          rw [← hqa, ← hqb] at hqd
          rw [← hqa] at cq0
          rw [← hqb] at cq1
          have HQA : Hid (qa = q0T l i k) := hqa
          have HQB : Hid (qb = q1T l i k) := hqb
          obtain ⟨hqa1, hqb1⟩ := hqd
          clear hqa hqb ci ck
          have HTB : Hid (∀ j : Nat, j < n → ∃ p1 p2 : Int, IntKind.i64.wrap (l.getD j 0 * qb) = p1 ∧ IntKind.i64.wrap ((j : Int) * qa) = p2 ∧ IntKind.i64.wrap (p1 + p2) = tj l qa qb j) := fun j hj => by
            have h := tm_bd (j := j) (HL.out.at j) (show -20 ≤ qb ∧ qb ≤ 20 by omega) hqa1 (by omega)
            refine ⟨l.getD j 0 * qb, (j : Int) * qa, ?_, ?_, ?_⟩
            · rw [IntKind.wrap_i64]; omega
            · rw [IntKind.wrap_i64]; omega
            · unfold tj; rw [IntKind.wrap_i64]; omega
          have HO5 : Hid (w5.ownsRow w.heap.size 30 3 (.slice xo O.length xc) O.length (O.flatMap encT)) := ownsR_keep HO.out fun g hg => HB5.out.block g (HO.out.lt g hg).2
          have HW5 : Hid (Below w.heap.size w w5) := HB.out.trans (HB5.out.mono HB.out.size)
          have HCL : Hid (∀ (q j : Nat), j < n → (w5.drewN q).cell? ⟨lb, lq + j, none⟩ = some (.int .i64 (l.getD j 0))) := fun q j hj => by
            obtain ⟨lb', lq', _, hs, _, cj⟩ := sl_cell (HV.out w5 HW5.out) (k := j) (show j < l.length by rw [← HN.out]; exact hj)
            simp only [Value.slice.injEq, Option.some.injEq, Addr.mk.injEq, and_true] at hs
            obtain ⟨⟨rfl, rfl⟩, -, -⟩ := hs
            exact cj
          clear HB5 HBA HSS HO HB
          obtain ⟨p1, p2, hp1, hp2, hp3⟩ := HTB.out i hin
          obtain ⟨at', hat⟩ : ∃ at', at' = tj l qa qb i := ⟨_, rfl⟩
          have HAT : Hid (tj l (q0T l i k) (q1T l i k) i = at') := by rw [← HQA.out, ← HQB.out]; exact hat.symm
          rw [← hat] at hp3
          rw [HLI.out] at hp1
          have ci := HCL.out 0 i hin
          rw [HLI.out] at ci
          have ci' : w5.cell? ⟨lb, lq + i, none⟩ = some (.int .i64 li) := ci
          clear ci hat
          go_wp2_with fail
          go_big_quiet (fail)
          obtain ⟨n9, hn9⟩ : ∃ n9, n9 = nq := ⟨_, rfl⟩
          rw [← hn9]
          clear hn9 hp1 hp2 hp3 ci'
          go_wp2
          go_loopw [8, 9, 10, 11] (fun okv lov hiv x wj => ∃ (j lo hi : Nat) (okb : Bool), j ≤ n ∧ x = .int .i64 j ∧ okv = .bool okb ∧ lov = .int .i64 lo ∧ hiv = .int .i64 hi ∧ JL l i k j lo hi okb ∧ ∃ q, wj = w5.drewN q) (fun _ _ _ x _ => n - (intOf x).toNat)
          case atStart => exact ⟨0, k, i, true, Nat.zero_le _, rfl, rfl, rfl, rfl, JL.start (by omega) (by rw [← HN.out]; exact hkn), n9, rfl⟩
          case round =>
            obtain ⟨j, lo, hi, okb, hj, rfl, rfl, rfl, rfl, hjl, q, rfl⟩ := hrel
            have HJL : Hid (JL l i k j lo hi okb) := hjl
            have hlo := hjl.lo1
            have hhi := hjl.hin
            rw [← HN.out] at hhi
            clear hjl
            by_cases hjn : j < n
            · obtain ⟨p1, p2, hp1, hp2, hp3⟩ := HTB.out j hjn
              obtain ⟨vj, hvj⟩ : ∃ vj, vj = tj l qa qb j := ⟨_, rfl⟩
              have HTJ : Hid (tj l (q0T l i k) (q1T l i k) j = vj) := by rw [← HQA.out, ← HQB.out]; exact hvj.symm
              rw [← hvj] at hp3
              have cj := HCL.out q j hjn
              have cqa : (w5.drewN q).cell? ⟨gq, 0, none⟩ = some (.int .i64 qa) := cq0
              have cqb : (w5.drewN q).cell? ⟨gq, 1, none⟩ = some (.int .i64 qb) := cq1
              generalize l.getD j 0 = lj at *
              clear hvj
              have jI : (j : Int) < (n : Int) := by omega
              have jI0 : (0 : Int) ≤ (j : Int) := by omega
              obtain ⟨Wq, hWq⟩ : ∃ Wq, Wq = w5.drewN q := ⟨_, rfl⟩
              have HWQ : Hid (Wq = w5.drewN q) := hWq
              rw [← hWq] at cj cqa cqb ⊢
              clear hWq
              go_wp2_with fail
              go_big_quiet (fail)
              have HWR : Hid (∃ q', Wq.drewN nq = w5.drewN q') := by rw [HWQ.out]; exact ⟨q + nq, by rw [World.drewN_drewN]⟩
              obtain ⟨q', hq'⟩ := HWR.out
              rw [hq']
              clear hq' HWR cj cqa cqb hp1 hp2 hp3
              cases okb
              · by_cases e : vj = at'
                · have q1 : (vj == at') = true := by rw [e]; simp
                  have q2 : decide (at' ≤ vj) = true := decide_eq_true (by omega)
                  by_cases c1 : j < lo
                  · have c1' : decide ((j : Int) < (lo : Int)) = true := decide_eq_true (by omega)
                    by_cases c2 : hi < j
                    · have c2' : decide ((hi : Int) < (j : Int)) = true := decide_eq_true (by omega)
                      have HJ2 : Hid (JL l i k (j + 1) j j false) := by
                        have h := HJL.out.next (show j < l.length by rw [← HN.out]; exact hjn)
                        rw [HTJ.out, HAT.out] at h
                        rw [if_pos ⟨e, c1⟩, if_pos ⟨e, c2⟩, q2] at h
                        exact h
                      go_wp2
                      exact ⟨⟨j + 1, j, j, false, by omega, by go_num, rfl, rfl, rfl, HJ2.out, _, rfl⟩, by simp [intOf]; omega⟩

                    · have c2' : decide ((hi : Int) < (j : Int)) = false := decide_eq_false (by omega)
                      have HJ2 : Hid (JL l i k (j + 1) j hi false) := by
                        have h := HJL.out.next (show j < l.length by rw [← HN.out]; exact hjn)
                        rw [HTJ.out, HAT.out] at h
                        rw [if_pos ⟨e, c1⟩, if_neg (fun h => c2 h.2), q2] at h
                        exact h
                      go_wp2
                      exact ⟨⟨j + 1, j, hi, false, by omega, by go_num, rfl, rfl, rfl, HJ2.out, _, rfl⟩, by simp [intOf]; omega⟩

                  · have c1' : decide ((j : Int) < (lo : Int)) = false := decide_eq_false (by omega)
                    by_cases c2 : hi < j
                    · have c2' : decide ((hi : Int) < (j : Int)) = true := decide_eq_true (by omega)
                      have HJ2 : Hid (JL l i k (j + 1) lo j false) := by
                        have h := HJL.out.next (show j < l.length by rw [← HN.out]; exact hjn)
                        rw [HTJ.out, HAT.out] at h
                        rw [if_neg (fun h => c1 h.2), if_pos ⟨e, c2⟩, q2] at h
                        exact h
                      go_wp2
                      exact ⟨⟨j + 1, lo, j, false, by omega, by go_num, rfl, rfl, rfl, HJ2.out, _, rfl⟩, by simp [intOf]; omega⟩

                    · have c2' : decide ((hi : Int) < (j : Int)) = false := decide_eq_false (by omega)
                      have HJ2 : Hid (JL l i k (j + 1) lo hi false) := by
                        have h := HJL.out.next (show j < l.length by rw [← HN.out]; exact hjn)
                        rw [HTJ.out, HAT.out] at h
                        rw [if_neg (fun h => c1 h.2), if_neg (fun h => c2 h.2), q2] at h
                        exact h
                      go_wp2
                      exact ⟨⟨j + 1, lo, hi, false, by omega, by go_num, rfl, rfl, rfl, HJ2.out, _, rfl⟩, by simp [intOf]; omega⟩

                · have q1 : (vj == at') = false := by rw [beq_eq_false_iff_ne]; exact e
                  by_cases d : at' ≤ vj
                  · have q2 : decide (at' ≤ vj) = true := decide_eq_true d
                    have HJ2 : Hid (JL l i k (j + 1) lo hi false) := by
                      have h := HJL.out.next (show j < l.length by rw [← HN.out]; exact hjn)
                      rw [HTJ.out, HAT.out] at h
                      rw [if_neg (fun h => e h.1), if_neg (fun h => e h.1), q2] at h
                      exact h
                    go_wp2
                    exact ⟨⟨j + 1, lo, hi, false, by omega, by go_num, rfl, rfl, rfl, HJ2.out, _, rfl⟩, by simp [intOf]; omega⟩

                  · have q2 : decide (at' ≤ vj) = false := decide_eq_false d
                    have HJ2 : Hid (JL l i k (j + 1) lo hi false) := by
                      have h := HJL.out.next (show j < l.length by rw [← HN.out]; exact hjn)
                      rw [HTJ.out, HAT.out] at h
                      rw [if_neg (fun h => e h.1), if_neg (fun h => e h.1), q2] at h
                      exact h
                    go_wp2
                    exact ⟨⟨j + 1, lo, hi, false, by omega, by go_num, rfl, rfl, rfl, HJ2.out, _, rfl⟩, by simp [intOf]; omega⟩

              · by_cases e : vj = at'
                · have q1 : (vj == at') = true := by rw [e]; simp
                  have q2 : decide (at' ≤ vj) = true := decide_eq_true (by omega)
                  by_cases c1 : j < lo
                  · have c1' : decide ((j : Int) < (lo : Int)) = true := decide_eq_true (by omega)
                    by_cases c2 : hi < j
                    · have c2' : decide ((hi : Int) < (j : Int)) = true := decide_eq_true (by omega)
                      have HJ2 : Hid (JL l i k (j + 1) j j true) := by
                        have h := HJL.out.next (show j < l.length by rw [← HN.out]; exact hjn)
                        rw [HTJ.out, HAT.out] at h
                        rw [if_pos ⟨e, c1⟩, if_pos ⟨e, c2⟩, q2] at h
                        exact h
                      go_wp2
                      exact ⟨⟨j + 1, j, j, true, by omega, by go_num, rfl, rfl, rfl, HJ2.out, _, rfl⟩, by simp [intOf]; omega⟩

                    · have c2' : decide ((hi : Int) < (j : Int)) = false := decide_eq_false (by omega)
                      have HJ2 : Hid (JL l i k (j + 1) j hi true) := by
                        have h := HJL.out.next (show j < l.length by rw [← HN.out]; exact hjn)
                        rw [HTJ.out, HAT.out] at h
                        rw [if_pos ⟨e, c1⟩, if_neg (fun h => c2 h.2), q2] at h
                        exact h
                      go_wp2
                      exact ⟨⟨j + 1, j, hi, true, by omega, by go_num, rfl, rfl, rfl, HJ2.out, _, rfl⟩, by simp [intOf]; omega⟩

                  · have c1' : decide ((j : Int) < (lo : Int)) = false := decide_eq_false (by omega)
                    by_cases c2 : hi < j
                    · have c2' : decide ((hi : Int) < (j : Int)) = true := decide_eq_true (by omega)
                      have HJ2 : Hid (JL l i k (j + 1) lo j true) := by
                        have h := HJL.out.next (show j < l.length by rw [← HN.out]; exact hjn)
                        rw [HTJ.out, HAT.out] at h
                        rw [if_neg (fun h => c1 h.2), if_pos ⟨e, c2⟩, q2] at h
                        exact h
                      go_wp2
                      exact ⟨⟨j + 1, lo, j, true, by omega, by go_num, rfl, rfl, rfl, HJ2.out, _, rfl⟩, by simp [intOf]; omega⟩

                    · have c2' : decide ((hi : Int) < (j : Int)) = false := decide_eq_false (by omega)
                      have HJ2 : Hid (JL l i k (j + 1) lo hi true) := by
                        have h := HJL.out.next (show j < l.length by rw [← HN.out]; exact hjn)
                        rw [HTJ.out, HAT.out] at h
                        rw [if_neg (fun h => c1 h.2), if_neg (fun h => c2 h.2), q2] at h
                        exact h
                      go_wp2
                      exact ⟨⟨j + 1, lo, hi, true, by omega, by go_num, rfl, rfl, rfl, HJ2.out, _, rfl⟩, by simp [intOf]; omega⟩

                · have q1 : (vj == at') = false := by rw [beq_eq_false_iff_ne]; exact e
                  by_cases d : at' ≤ vj
                  · have q2 : decide (at' ≤ vj) = true := decide_eq_true d
                    have HJ2 : Hid (JL l i k (j + 1) lo hi true) := by
                      have h := HJL.out.next (show j < l.length by rw [← HN.out]; exact hjn)
                      rw [HTJ.out, HAT.out] at h
                      rw [if_neg (fun h => e h.1), if_neg (fun h => e h.1), q2] at h
                      exact h
                    go_wp2
                    exact ⟨⟨j + 1, lo, hi, true, by omega, by go_num, rfl, rfl, rfl, HJ2.out, _, rfl⟩, by simp [intOf]; omega⟩

                  · have q2 : decide (at' ≤ vj) = false := decide_eq_false d
                    have HJ2 : Hid (JL l i k (j + 1) lo hi false) := by
                      have h := HJL.out.next (show j < l.length by rw [← HN.out]; exact hjn)
                      rw [HTJ.out, HAT.out] at h
                      rw [if_neg (fun h => e h.1), if_neg (fun h => e h.1), q2] at h
                      exact h
                    go_wp2
                    exact ⟨⟨j + 1, lo, hi, false, by omega, by go_num, rfl, rfl, rfl, HJ2.out, _, rfl⟩, by simp [intOf]; omega⟩

            · have hje : j = l.length := by rw [← HN.out]; omega
              have HJE : Hid (JL l i k l.length lo hi okb) := by rw [← hje]; exact HJL.out
              have jI : ¬ (j : Int) < (n : Int) := by omega
              clear hje HJL
              go_wp2
              go_loopw [13, 14] (fun tv x wj => ∃ (j : Nat) (th : Bool), j ≤ O.length ∧ x = .int .i64 j ∧ tv = .bool th ∧ th = thB O qa qb j ∧ ∃ q, wj = w5.drewN q) (fun _ x _ => O.length - (intOf x).toNat)
              case atStart => exact ⟨0, false, Nat.zero_le _, rfl, rfl, rfl, _, rfl⟩
              case round =>
                clear jI hjn
                obtain ⟨j, th, hj, rfl, rfl, hth, q, rfl⟩ := hrel
                have HTH : Hid (th = thB O qa qb j) := hth
                clear hth
                by_cases hjn : j < O.length
                · obtain ⟨og, hog, _, _⟩ := met_form HO5.out (by omega)
                  subst hog
                  obtain ⟨c0, c1, _⟩ := met_cells HO5.out rfl hjn
                  have HSC : Hid (thB O qa qb (j + 1) = (thB O qa qb j || ((O.getD j (0, 1, 0)).1 == qa && (O.getD j (0, 1, 0)).2.1 == qb))) := thB_succ hjn
                  generalize (O.getD j (0, 1, 0)).1 = o1 at *
                  generalize (O.getD j (0, 1, 0)).2.1 = o2 at *
                  have c0q : (w5.drewN q).cell? ⟨og, j * 3, none⟩ = some (.int .i64 o1) := c0
                  have c1q : (w5.drewN q).cell? ⟨og, j * 3 + 1, none⟩ = some (.int .i64 o2) := c1
                  have cqa : (w5.drewN q).cell? ⟨gq, 0, none⟩ = some (.int .i64 qa) := cq0
                  have cqb : (w5.drewN q).cell? ⟨gq, 1, none⟩ = some (.int .i64 qb) := cq1
                  clear c0 c1
                  have jI : (j : Int) < (O.length : Int) := by omega
                  have jI0 : (0 : Int) ≤ (j : Int) := by omega
                  obtain ⟨Wq, hWq⟩ : ∃ Wq, Wq = w5.drewN q := ⟨_, rfl⟩
                  have HWQ : Hid (Wq = w5.drewN q) := hWq
                  rw [← hWq] at c0q c1q cqa cqb ⊢
                  clear hWq
                  cases th
                  · by_cases e1 : o1 = qa
                    · have q1 : (o1 == qa) = true := by rw [e1]; simp
                      by_cases e2 : o2 = qb
                      · have q2 : (o2 == qb) = true := by rw [e2]; simp
                        have HT2 : Hid (true = thB O qa qb (j + 1)) := by show _ = _; rw [HSC.out, q1, q2, ← HTH.out]; rfl
                        clear e1 e2
                        go_wp2_with fail
                        go_big_quiet (fail)
                        have HWR : Hid (∃ q', Wq.drewN nq = w5.drewN q') := by rw [HWQ.out]; exact ⟨q + nq, by rw [World.drewN_drewN]⟩
                        go_wp2
                        exact ⟨⟨j + 1, true, by omega, by go_num, rfl, HT2.out, HWR.out⟩, by simp [intOf]; omega⟩
                      · have q2 : (o2 == qb) = false := by rw [beq_eq_false_iff_ne]; exact e2
                        have HT2 : Hid (false = thB O qa qb (j + 1)) := by show _ = _; rw [HSC.out, q1, q2, ← HTH.out]; rfl
                        clear e1 e2
                        go_wp2_with fail
                        go_big_quiet (fail)
                        have HWR : Hid (∃ q', Wq.drewN nq = w5.drewN q') := by rw [HWQ.out]; exact ⟨q + nq, by rw [World.drewN_drewN]⟩
                        go_wp2
                        exact ⟨⟨j + 1, false, by omega, by go_num, rfl, HT2.out, HWR.out⟩, by simp [intOf]; omega⟩
                    · have q1 : (o1 == qa) = false := by rw [beq_eq_false_iff_ne]; exact e1
                      have HT2 : Hid (false = thB O qa qb (j + 1)) := by show _ = _; rw [HSC.out, q1, ← HTH.out]; rfl
                      clear e1
                      go_wp2_with fail
                      go_big_quiet (fail)
                      have HWR : Hid (∃ q', Wq.drewN nq = w5.drewN q') := by rw [HWQ.out]; exact ⟨q + nq, by rw [World.drewN_drewN]⟩
                      go_wp2
                      exact ⟨⟨j + 1, false, by omega, by go_num, rfl, HT2.out, HWR.out⟩, by simp [intOf]; omega⟩
                  · have HT2 : Hid (true = thB O qa qb (j + 1)) := by show _ = _; rw [HSC.out, ← HTH.out]; rfl
                    go_wp2_with fail
                    go_big_quiet (fail)
                    have HWR : Hid (∃ q', Wq.drewN nq = w5.drewN q') := by rw [HWQ.out]; exact ⟨q + nq, by rw [World.drewN_drewN]⟩
                    go_wp2
                    exact ⟨⟨j + 1, true, by omega, by go_num, rfl, HT2.out, HWR.out⟩, by simp [intOf]; omega⟩
                · have hje : j = O.length := by omega
                  have HTE : Hid (th = O.any fun t => t.1 == qa && t.2.1 == qb) := by
                    have h := HTH.out
                    rw [hje] at h
                    unfold thB at h
                    rw [List.take_length] at h
                    exact h
                  have jI : ¬ (j : Int) < (O.length : Int) := by omega
                  have HW6 : Hid (Below w.heap.size w (w5.drewN q)) := ⟨HW5.out.os, HW5.out.tape, HW5.out.output, HW5.out.size, HW5.out.block⟩
                  have HO6 : Hid ((w5.drewN q).ownsRow w.heap.size 30 3 (.slice xo O.length xc) O.length (O.flatMap encT)) := ⟨HO5.out.1, HO5.out.2⟩
                  have cqa : (w5.drewN q).cell? ⟨gq, 0, none⟩ = some (.int .i64 qa) := cq0
                  have cqb : (w5.drewN q).cell? ⟨gq, 1, none⟩ = some (.int .i64 qb) := cq1
                  clear hje HTH
                  generalize w5.drewN q = W6 at *
                  clear cq0 cq1 HO5 HW5 HCL
                  cases okb
                  · have HM2 : Hid (Met l (DnT i (k + 1)) O) := HM.out.step fun a b h1 h2 h3 h4 => by
                      rcases h3 with h | ⟨rfl, h⟩
                      · exact .inl (.inl h)
                      · by_cases e : b = k
                        · subst e; exact absurd h4 HJE.out.bad
                        · exact .inl (.inr ⟨rfl, by omega⟩)
                    go_wp2
                    exact ⟨⟨k + 1, O, by omega, by omega, by go_num, HO6.out, by omega, HM2.out, HW6.out⟩, by simp [intOf]; omega⟩
                  · cases th
                    · obtain ⟨hokd, hlh⟩ := HJE.out.good (by omega) (by rw [← HN.out]; exact hkn)
                      have HMM : Hid ((qa, qb, (hi : Int) - lo) ∈ rootsU l) := by rw [HQA.out, HQB.out]; exact lohi_mem (by omega) hokd hlh
                      have HNT : Hid (∀ t ∈ O, ¬ (t.1 = qa ∧ t.2.1 = qb)) := fun t ht h => by
                        have h5 := List.any_eq_false.1 HTE.out.symm t ht
                        exact h5 (by simp [h.1, h.2])
                      have hlo2 := hlh.loi
                      have hhi2 := hlh.hin
                      rw [← HN.out] at hhi2
                      clear hokd hlh HJE
                      obtain ⟨mm, hmm⟩ : ∃ mm : Int, mm = (hi : Int) - (lo : Int) := ⟨_, rfl⟩
                      have hs3 : IntKind.i64.wrap ((hi : Int) - (lo : Int)) = mm := by rw [hmm, IntKind.wrap_i64]; omega
                      rw [← hmm] at HMM
                      clear hmm
                      go_wp2
                      refine wp_region_held_drew (S := fun w' => w'.cell? ⟨gq, 0, none⟩ = some (.int .i64 qa) ∧ w'.cell? ⟨gq, 1, none⟩ = some (.int .i64 qb)) (by kernel_rfl) ⟨cqa, cqb⟩ (fun hHeld => ?_)
                      refine wpAnyH_tk (i := 0) (d := 131) (v := (.slice (some ⟨gq, 0, none⟩) 2 gc)) rfl rfl (by kernel_rfl) (by kernel_rfl) (by kernel_rfl) (fun _ _ _ h => h) (.inl ⟨by rfl, by (intro wq hSw; (try dsimp only at hSw); go_simp; (try (first | rfl | omega)))⟩) hHeld ?_
                      simp only [Act.put, List.setIfInBounds_toArray, List.set_cons_zero, List.set_cons_succ]
                      refine wpAnyH_tk (i := 1) (d := 132) (v := (.pointer (some ⟨gq, 0, none⟩))) rfl rfl (by kernel_rfl) (by kernel_rfl) (by kernel_rfl) (fun _ _ _ h => h) (.inl ⟨by rfl, by (intro wq hSw; (try dsimp only at hSw); go_simp; (try (first | rfl | omega)))⟩) hHeld ?_
                      simp only [Act.put, List.setIfInBounds_toArray, List.set_cons_zero, List.set_cons_succ]
                      refine wpAnyH_tk (i := 2) (d := 133) (v := (.int .i64 qa)) rfl rfl (by kernel_rfl) (by kernel_rfl) (by kernel_rfl) (fun _ _ _ h => h) (.inl ⟨by rfl, by (intro wq hSw; (try dsimp only at hSw); go_simp; (try (first | rfl | omega)))⟩) hHeld ?_
                      simp only [Act.put, List.setIfInBounds_toArray, List.set_cons_zero, List.set_cons_succ]
                      refine wpAnyH_tk (i := 3) (d := 134) (v := (.slice (some ⟨gq, 0, none⟩) 2 gc)) rfl rfl (by kernel_rfl) (by kernel_rfl) (by kernel_rfl) (fun _ _ _ h => h) (.inl ⟨by rfl, by (intro wq hSw; (try dsimp only at hSw); go_simp; (try (first | rfl | omega)))⟩) hHeld ?_
                      simp only [Act.put, List.setIfInBounds_toArray, List.set_cons_zero, List.set_cons_succ]
                      refine wpAnyH_tk (i := 4) (d := 135) (v := (.pointer (some ⟨gq, 1, none⟩))) rfl rfl (by kernel_rfl) (by kernel_rfl) (by kernel_rfl) (fun _ _ _ h => h) (.inl ⟨by rfl, by (intro wq hSw; (try dsimp only at hSw); go_simp; (try (first | rfl | omega)))⟩) hHeld ?_
                      simp only [Act.put, List.setIfInBounds_toArray, List.set_cons_zero, List.set_cons_succ]
                      refine wpAnyH_tk (i := 5) (d := 136) (v := (.int .i64 qb)) rfl rfl (by kernel_rfl) (by kernel_rfl) (by kernel_rfl) (fun _ _ _ h => h) (.inl ⟨by rfl, by (intro wq hSw; (try dsimp only at hSw); go_simp; (try (first | rfl | omega)))⟩) hHeld ?_
                      simp only [Act.put, List.setIfInBounds_toArray, List.set_cons_zero, List.set_cons_succ]
                      refine wpAnyH_tk (i := 6) (d := 137) (v := (.int .i64 hi)) rfl rfl (by kernel_rfl) (by kernel_rfl) (by kernel_rfl) (fun _ _ _ h => h) (.inl ⟨by rfl, by (intro wq hSw; (try dsimp only at hSw); go_simp; (try (first | rfl | omega)))⟩) hHeld ?_
                      simp only [Act.put, List.setIfInBounds_toArray, List.set_cons_zero, List.set_cons_succ]
                      refine wpAnyH_tk (i := 7) (d := 138) (v := (.int .i64 lo)) rfl rfl (by kernel_rfl) (by kernel_rfl) (by kernel_rfl) (fun _ _ _ h => h) (.inl ⟨by rfl, by (intro wq hSw; (try dsimp only at hSw); go_simp; (try (first | rfl | omega)))⟩) hHeld ?_
                      simp only [Act.put, List.setIfInBounds_toArray, List.set_cons_zero, List.set_cons_succ]
                      refine wpAnyH_tk (i := 8) (d := 139) (v := (.int .i64 mm)) rfl rfl (by kernel_rfl) (by kernel_rfl) (by kernel_rfl) (fun _ _ _ h => h) (.inl ⟨by rfl, by (intro wq hSw; (try dsimp only at hSw); go_simp; (try (first | rfl | omega)))⟩) hHeld ?_
                      simp only [Act.put, List.setIfInBounds_toArray, List.set_cons_zero, List.set_cons_succ]
                      refine wpAnyH_tk (i := 9) (d := 140) (v := (.agg #[.int .i64 qa, .int .i64 qb, .int .i64 mm])) rfl rfl (by kernel_rfl) (by kernel_rfl) (by kernel_rfl) (fun _ _ _ h => h) (.inl ⟨by rfl, by (intro wq hSw; (try dsimp only at hSw); go_simp; (try (first | rfl | omega)))⟩) hHeld ?_
                      simp only [Act.put, List.setIfInBounds_toArray, List.set_cons_zero, List.set_cons_succ]
                      refine wpAnyH_ready (rs := [10]) (by kernel_rfl) (by simp) ?_
                      refine ready_tk (i := 10) rfl (by rfl) (fun K hK => ?_) AllReadyH.nil
                      go_simp
                      have hlt6 : gq < W6.heap.size := lt_of_cell cqa
                      have HSA : Hid (∀ W', Below W6.heap.size W6 W' → W'.cell? ⟨gq, 0, none⟩ = some (.int .i64 qa) ∧ W'.cell? ⟨gq, 1, none⟩ = some (.int .i64 qb)) := fun W' h => ⟨(h.cell hlt6).trans cqa, (h.cell hlt6).trans cqb⟩
                      have HBA6 : Hid (Below W6.heap.size W6 (W6.alloc (.cells #[.int .i64 0, .int .i64 0, .int .i64 0] 30)).drew) := ((Below.refl _ _).alloc (Nat.le_refl _) _).drew
                      refine hK.out _ _ (HSA.out _ HBA6.out) (fun hHeld => ?_)
                      clear hK K
                      refine wpAnyH_ready (rs := [11]) (by kernel_rfl) (by simp) ?_
                      refine ready_tk (i := 11) rfl (by rfl) (fun K hK => ?_) AllReadyH.nil
                      go_simp
                      have HBA7 : Hid (Below W6.heap.size W6 (W6.alloc (.cells #[.int .i64 qa, .int .i64 qb, .int .i64 mm] 30)).drew) := ((Below.refl _ _).alloc (Nat.le_refl _) _).drew
                      refine hK.out _ _ (HSA.out _ HBA7.out) (fun hHeld => ?_)
                      clear hK K
                      refine wpAnyH_done (by kernel_rfl) ?_ _
                      clear hHeld hs3 HSA HBA6
                      obtain ⟨W7, hW7⟩ : ∃ W7, W7 = (W6.alloc (.cells #[.int .i64 qa, .int .i64 qb, .int .i64 mm] 30)).drew := ⟨_, rfl⟩
                      rw [← hW7] at HBA7 ⊢
                      have HR7 : Hid (W7.heap[W6.heap.size]? = some (.cells #[.int .i64 qa, .int .i64 qb, .int .i64 mm] 30 (0, 0))) := by rw [hW7]; exact heap_alloc_new W6 _
                      have HS7 : Hid (W7.heap.size = W6.heap.size + 1) := by rw [hW7]; show Array.size (Array.push _ _) = _; simp
                      clear hW7
                      have HB7 : Hid (Below w.heap.size w W7) := HW6.out.trans (HBA7.out.mono HW6.out.size)
                      have HO7 : Hid (W7.ownsRow w.heap.size 30 3 (.slice xo O.length xc) O.length (O.flatMap encT)) := ownsR_keep HO6.out fun g hg => HBA7.out.block g (HO6.out.lt g hg).2
                      have m0 : W7.cell? ⟨W6.heap.size, 0, none⟩ = some (.int .i64 qa) := by simp [World.cell?, HR7.out]
                      have m1 : W7.cell? ⟨W6.heap.size, 1, none⟩ = some (.int .i64 qb) := by simp [World.cell?, HR7.out]
                      have m2 : W7.cell? ⟨W6.heap.size, 2, none⟩ = some (.int .i64 mm) := by simp [World.cell?, HR7.out]
                      have hsz7 : w.heap.size ≤ W7.heap.size := HB7.out.size
                      go_wp2_with (first | (at_builtin; refine wpList_append_own_at _ rfl _ _ 25 rfl w.heap.size 30 iT (.agg #[.int .i64 0, .int .i64 0, .int .i64 0]) 3 24 Try.underlying25 hiT hzT0 hzT1 hzT2 rfl (by decide) _ _ _ rfl (HO7.out.alloc _) ⟨W7.heap.size, 0, none⟩ 1 1 [.int .i64 qa, .int .i64 qb, .int .i64 mm] rfl rfl (three_newT _ _ _ _ _) (three_one _ _ _) ?c3 ?c4 ?c5 ?_))
                      case c3 => unfold maxLen; omega
                      case c4 => omega
                      case c5 => first | exact hsz7 | (simp; omega)
                      intro v' w8 ho8 hg8 _ hat8
                      have HO8 : Hid (w8.ownsRow w.heap.size 30 3 v' (O.length + 1) ((O.take O.length ++ (qa, qb, mm) :: O.drop O.length).flatMap encT)) := by
                        rw [List.take_length, List.drop_length, List.flatMap_append]
                        exact ho8
                      have HB8 : Hid (Below w.heap.size w w8) := (HB7.out.alloc hsz7 _).grown hg8 (by simp; omega) (fun x hx => (HO7.out.lt x hx).1)
                      obtain ⟨vo8, vc8, hv8⟩ := owns_form3 ho8
                      subst hv8
                      obtain ⟨g8, hg8', hg8b, _⟩ := met_form HO8.out (by omega)
                      subst hg8'
                      have HNE : Hid (g8 ≠ W6.heap.size) := fun e => by
                        have h7 := HS7.out
                        rcases hat8 with h | h
                        · have hx := (HO6.out.lt g8 (by rw [← h]; rfl)).2
                          omega
                        · simp only [Value.ownBlock, Option.some.injEq] at h
                          omega
                      have HR8 : Hid (w8.heap[W6.heap.size]? = some (.cells #[.int .i64 qa, .int .i64 qb, .int .i64 mm] 30 (0, 0))) := by
                        have h7 := HS7.out
                        obtain ⟨_, _, _, _, hgb⟩ := hg8
                        have h := hgb W6.heap.size (by simp; omega) (fun e => by
                          have hx := (HO6.out.lt W6.heap.size e.symm).2
                          omega)
                        exact h.trans ((Below.heap_alloc _ _ _ (by omega)).trans HR7.out)
                      clear ho8 hg8 hat8 m0 m1 m2
                      go_wp2
                      have HSMO : Hid (∀ t ∈ O, (1 ≤ t.2.1 ∧ t.2.1 ≤ 19) ∧ (-20000 ≤ t.1 ∧ t.1 ≤ 20000)) := fun t ht => rootsU_sma HL.out t (HM.out.isr t ht)
                      have HDD : Hid (∀ a b, a < b → b < l.length → DnT i (k + 1) a b → okD l a b → DnT i k a b ∨ (q0T l a b = qa ∧ q1T l a b = qb)) := fun a b h1 h2 h3 h4 => by
                        rcases h3 with h | ⟨rfl, h⟩
                        · exact .inl (.inl h)
                        · by_cases e : b = k
                          · subst e; exact .inr ⟨HQA.out.symm, HQB.out.symm⟩
                          · exact .inl (.inr ⟨rfl, by omega⟩)
                      have hne1 : ¬ g8 = W6.heap.size := HNE.out
                      have hne2 : ¬ W6.heap.size = g8 := fun e => HNE.out e.symm
                      clear HO6 HW6 HB7 HO7 HBA7 HR7 HS7 cqa cqb
                      go_loopw [7] (fun x wy => ∃ p : Nat, p ≤ O.length ∧ x = .int .i64 p ∧ wy.ownsRow w.heap.size 30 3 (.slice (some ⟨g8, 0, none⟩) (O.length + 1) vc8) (O.length + 1) ((O.take p ++ (qa, qb, mm) :: O.drop p).flatMap encT) ∧ (∀ t ∈ O.drop p, LtR (qa, qb, mm) t) ∧ wy.heap[W6.heap.size]? = some (.cells #[.int .i64 qa, .int .i64 qb, .int .i64 mm] 30 (0, 0)) ∧ Below w.heap.size w wy) (fun x _ => (intOf x).toNat)
                      case atStart => exact ⟨O.length, Nat.le_refl _, rfl, HO8.out, fun t ht => by simp at ht, HR8.out, HB8.out⟩
                      case round =>
                        clear HO8 HR8 HB8
                        obtain ⟨p, hp, rfl, hop, hup, hrp, hbp⟩ := hrel
                        have HOP : Hid (wr.ownsRow w.heap.size 30 3 (.slice (some ⟨g8, 0, none⟩) (O.length + 1) vc8) (O.length + 1) ((O.take p ++ (qa, qb, mm) :: O.drop p).flatMap encT)) := hop
                        have HUP : Hid (∀ t ∈ O.drop p, LtR (qa, qb, mm) t) := hup
                        have HRP : Hid (wr.heap[W6.heap.size]? = some (.cells #[.int .i64 qa, .int .i64 qb, .int .i64 mm] 30 (0, 0))) := hrp
                        have HBP : Hid (Below w.heap.size w wr) := hbp
                        clear hop hup hrp hbp
                        have m0 : wr.cell? ⟨W6.heap.size, 0, none⟩ = some (.int .i64 qa) := by simp [World.cell?, HRP.out]
                        have m1 : wr.cell? ⟨W6.heap.size, 1, none⟩ = some (.int .i64 qb) := by simp [World.cell?, HRP.out]
                        have HLEN : Hid ((O.take p ++ (qa, qb, mm) :: O.drop p).length = O.length + 1) := by show _ = _; simp; omega
                        have HEND : Hid (p = 0 ∨ ¬ LtR (qa, qb, mm) (O.getD (p - 1) (0, 1, 0)) → Met l (DnT i (k + 1)) (O.take p ++ (qa, qb, mm) :: O.drop p)) := fun h => HM.out.put HMM.out HNT.out hp HUP.out h HDD.out
                        rcases Nat.eq_zero_or_pos p with hp0 | hp0
                        · have q0 : decide ((0 : Int) < (p : Int)) = false := decide_eq_false (by omega)
                          have q0n : decide (0 < p) = false := decide_eq_false (by omega)
                          have HME : Hid (Met l (DnT i (k + 1)) (O.take p ++ (qa, qb, mm) :: O.drop p)) := HEND.out (.inl hp0)
                          clear hp0 HEND
                          go_wp2_with fail
                          go_big_quiet (fail)
                          have HBQ : Hid (Below w.heap.size w (wr.drewN nq)) := ⟨HBP.out.os, HBP.out.tape, HBP.out.output, HBP.out.size, HBP.out.block⟩
                          have HOQ : Hid ((wr.drewN nq).ownsRow w.heap.size 30 3 (.slice (some ⟨g8, 0, none⟩) (O.length + 1) vc8) (O.length + 1) ((O.take p ++ (qa, qb, mm) :: O.drop p).flatMap encT)) := ⟨HOP.out.1, HOP.out.2⟩
                          go_wp2
                          exact ⟨⟨k + 1, _, by omega, by omega, by go_num, by rw [HLEN.out]; exact HOQ.out, by rw [HLEN.out]; omega, HME.out, HBQ.out⟩, by simp [intOf]; omega⟩
                        · obtain ⟨r, rfl⟩ : ∃ r, p = r + 1 := ⟨p - 1, by omega⟩
                          have hrO : r < O.length := by omega
                          have hgr : (O.take (r + 1) ++ (qa, qb, mm) :: O.drop (r + 1)).getD r (0, 1, 0) = O.getD r (0, 1, 0) := by
                            simp only [List.getD_eq_getElem?_getD]
                            rw [List.getElem?_append_left (by simp; omega), List.getElem?_take_of_lt (by omega)]
                          have hgm : (O.take (r + 1) ++ (qa, qb, mm) :: O.drop (r + 1)).getD (r + 1) (0, 1, 0) = (qa, qb, mm) := by
                            simp only [List.getD_eq_getElem?_getD]
                            rw [List.getElem?_append_right (by simp; omega), show r + 1 - (O.take (r + 1)).length = 0 by simp; omega]
                            rfl
                          obtain ⟨a0, a1, a2⟩ := met_cells HOP.out HLEN.out.symm (j := r) (by omega)
                          obtain ⟨b0, b1, b2⟩ := met_cells HOP.out HLEN.out.symm (j := r + 1) (by omega)
                          rw [hgr] at a0 a1 a2
                          rw [hgm] at b0 b1 b2
                          obtain ⟨hs1, hs2⟩ := HSMO.out (O.getD r (0, 1, 0)) (mem_getT O r hrO)
                          have HLT : Hid (LtR (qa, qb, mm) (O.getD r (0, 1, 0)) ↔ qa * (O.getD r (0, 1, 0)).2.1 < (O.getD r (0, 1, 0)).1 * qb) := Iff.rfl
                          have HSW : Hid (((O.take (r + 1) ++ (qa, qb, mm) :: O.drop (r + 1)).set (r + 1) (O.getD r (0, 1, 0))).set r (qa, qb, mm) = O.take r ++ (qa, qb, mm) :: O.drop r) := put_swap (by omega)
                          have HDR : Hid (O.drop r = O.getD r (0, 1, 0) :: O.drop (r + 1)) := by
                            show _ = _
                            rw [List.drop_eq_getElem_cons hrO]; simp [hrO]
                          rw [Nat.add_sub_cancel] at HEND
                          generalize O.getD r (0, 1, 0) = o at *
                          obtain ⟨o1, o2, o3⟩ := o
                          dsimp only at a0 a1 a2 b0 b1 b2 hs1 hs2 HLT
                          obtain ⟨x1, hx1⟩ : ∃ x1, x1 = qa * o2 := ⟨_, rfl⟩
                          obtain ⟨x2, hx2⟩ : ∃ x2, x2 = o1 * qb := ⟨_, rfl⟩
                          have hw1 : IntKind.i64.wrap (qa * o2) = x1 := by
                            have := prod_bd hqa1 hs1
                            rw [hx1, IntKind.wrap_i64]; omega
                          have hw2 : IntKind.i64.wrap (o1 * qb) = x2 := by
                            have := prod_bd hs2 hqb1
                            rw [hx2, IntKind.wrap_i64]; omega
                          rw [← hx1, ← hx2] at HLT
                          have rI : (r : Int) < ((O.length + 1 : Nat) : Int) := by omega
                          have rI' : (r : Int) + 1 < ((O.length + 1 : Nat) : Int) := by omega
                          have rI0 : (0 : Int) ≤ (r : Int) := by omega
                          have q0 : decide ((0 : Int) < ((r + 1 : Nat) : Int)) = true := decide_eq_true (by omega)
                          have q0' : decide ((0 : Int) < (r : Int) + 1) = true := decide_eq_true (by omega)
                          have hwr : IntKind.i64.wrap ((r : Int) + 1 - 1) = (r : Int) := by rw [IntKind.wrap_i64]; omega
                          clear hx1 hx2 hgr hgm hs1 hs2 hp0
                          by_cases hlt : x1 < x2
                          · have q1 : decide (x1 < x2) = true := decide_eq_true hlt
                            have HLTT : Hid (LtR (qa, qb, mm) (o1, o2, o3)) := HLT.out.2 hlt
                            clear hlt HLT HEND
                            go_wp2_with fail
                            go_big_quiet (fail)
                            have HBQ : Hid (Below w.heap.size w (wr.drewN nq)) := ⟨HBP.out.os, HBP.out.tape, HBP.out.output, HBP.out.size, HBP.out.block⟩
                            have HOQ : Hid ((wr.drewN nq).ownsRow w.heap.size 30 3 (.slice (some ⟨g8, 0, none⟩) (O.length + 1) vc8) (O.length + 1) ((O.take (r + 1) ++ (qa, qb, mm) :: O.drop (r + 1)).flatMap encT)) := ⟨HOP.out.1, HOP.out.2⟩
                            have HRQ : Hid ((wr.drewN nq).heap[W6.heap.size]? = some (.cells #[.int .i64 qa, .int .i64 qb, .int .i64 mm] 30 (0, 0))) := HRP.out
                            clear m0 m1
                            have a0' : (wr.drewN nq).cell? ⟨g8, r * 3, none⟩ = some (.int .i64 o1) := a0
                            have a1' : (wr.drewN nq).cell? ⟨g8, r * 3 + 1, none⟩ = some (.int .i64 o2) := a1
                            have a2' : (wr.drewN nq).cell? ⟨g8, r * 3 + 2, none⟩ = some (.int .i64 o3) := a2
                            have b0' : (wr.drewN nq).cell? ⟨g8, (r + 1) * 3, none⟩ = some (.int .i64 qa) := b0
                            have b1' : (wr.drewN nq).cell? ⟨g8, (r + 1) * 3 + 1, none⟩ = some (.int .i64 qb) := b1
                            have b2' : (wr.drewN nq).cell? ⟨g8, (r + 1) * 3 + 2, none⟩ = some (.int .i64 mm) := b2
                            generalize wr.drewN nq = W9 at *
                            clear a0 a1 a2 b0 b1 b2 HOP HRP HBP hw1 hw2 q1 q0 q0'
                            have m0 : W9.cell? ⟨W6.heap.size, 0, none⟩ = some (.int .i64 qa) := by simp [World.cell?, HRQ.out]
                            have m1 : W9.cell? ⟨W6.heap.size, 1, none⟩ = some (.int .i64 qb) := by simp [World.cell?, HRQ.out]
                            have m2 : W9.cell? ⟨W6.heap.size, 2, none⟩ = some (.int .i64 mm) := by simp [World.cell?, HRQ.out]
                            have HFZ : Hid (∀ j, W9.frozen? ⟨g8, j, none⟩ = false) := fun j => HOQ.out.frozenAt j
                            have f0 := HFZ.out (r * 3)
                            have f1 := HFZ.out (r * 3 + 1)
                            have f2 := HFZ.out (r * 3 + 2)
                            have f3 := HFZ.out ((r + 1) * 3)
                            have f4 := HFZ.out ((r + 1) * 3 + 1)
                            have f5 := HFZ.out ((r + 1) * 3 + 2)
                            have HN1 : Hid (((((((W9.setCell ⟨g8, (r + 1) * 3, none⟩ (.int .i64 o1)).setCell ⟨g8, (r + 1) * 3 + 1, none⟩ (.int .i64 o2)).setCell ⟨g8, (r + 1) * 3 + 2, none⟩ (.int .i64 o3)).setCell ⟨g8, r * 3, none⟩ (.int .i64 qa)).setCell ⟨g8, r * 3 + 1, none⟩ (.int .i64 qb)).setCell ⟨g8, r * 3 + 2, none⟩ (.int .i64 mm)).ownsRow w.heap.size 30 3 (.slice (some ⟨g8, 0, none⟩) (O.length + 1) vc8) (O.length + 1) ((O.take r ++ (qa, qb, mm) :: O.drop r).flatMap encT)) := by
                              rw [← HSW.out]
                              exact six_owns HOQ.out (by rw [HLEN.out]; omega)
                            have HN2 : Hid (((((((W9.setCell ⟨g8, (r + 1) * 3, none⟩ (.int .i64 o1)).setCell ⟨g8, (r + 1) * 3 + 1, none⟩ (.int .i64 o2)).setCell ⟨g8, (r + 1) * 3 + 2, none⟩ (.int .i64 o3)).setCell ⟨g8, r * 3, none⟩ (.int .i64 qa)).setCell ⟨g8, r * 3 + 1, none⟩ (.int .i64 qb)).setCell ⟨g8, r * 3 + 2, none⟩ (.int .i64 mm)).heap[W6.heap.size]? = some (.cells #[.int .i64 qa, .int .i64 qb, .int .i64 mm] 30 (0, 0))) := (six_else hne2).trans HRQ.out
                            have HN3 : Hid (Below w.heap.size w ((((((W9.setCell ⟨g8, (r + 1) * 3, none⟩ (.int .i64 o1)).setCell ⟨g8, (r + 1) * 3 + 1, none⟩ (.int .i64 o2)).setCell ⟨g8, (r + 1) * 3 + 2, none⟩ (.int .i64 o3)).setCell ⟨g8, r * 3, none⟩ (.int .i64 qa)).setCell ⟨g8, r * 3 + 1, none⟩ (.int .i64 qb)).setCell ⟨g8, r * 3 + 2, none⟩ (.int .i64 mm))) := six_below HBQ.out hg8b
                            have HN4 : Hid (∀ t ∈ O.drop r, LtR (qa, qb, mm) t) := fun t ht => by
                              rw [HDR.out] at ht
                              rcases List.mem_cons.1 ht with rfl | ht
                              · exact HLTT.out
                              · exact HUP.out t ht
                            go_wp2
                            exact ⟨⟨r, by omega, rfl, HN1.out, HN4.out, HN2.out, HN3.out⟩, by simp [intOf]⟩
                          · have q1 : decide (x1 < x2) = false := decide_eq_false hlt
                            have HME : Hid (Met l (DnT i (k + 1)) (O.take (r + 1) ++ (qa, qb, mm) :: O.drop (r + 1))) := HEND.out (.inr fun h => hlt (HLT.out.1 h))
                            clear hlt HLT HEND
                            go_wp2_with fail
                            go_big_quiet (fail)
                            have HBQ : Hid (Below w.heap.size w (wr.drewN nq)) := ⟨HBP.out.os, HBP.out.tape, HBP.out.output, HBP.out.size, HBP.out.block⟩
                            have HOQ : Hid ((wr.drewN nq).ownsRow w.heap.size 30 3 (.slice (some ⟨g8, 0, none⟩) (O.length + 1) vc8) (O.length + 1) ((O.take (r + 1) ++ (qa, qb, mm) :: O.drop (r + 1)).flatMap encT)) := ⟨HOP.out.1, HOP.out.2⟩
                            go_wp2
                            exact ⟨⟨k + 1, _, by omega, by omega, by go_num, by rw [HLEN.out]; exact HOQ.out, by rw [HLEN.out]; omega, HME.out, HBQ.out⟩, by simp [intOf]; omega⟩
                    · have HM2 : Hid (Met l (DnT i (k + 1)) O) := HM.out.step fun a b h1 h2 h3 h4 => by
                        rcases h3 with h | ⟨rfl, h⟩
                        · exact .inl (.inl h)
                        · by_cases e : b = k
                          · subst e
                            obtain ⟨t, ht, h5⟩ := List.any_eq_true.1 HTE.out.symm
                            have h6 : t.1 = qa ∧ t.2.1 = qb := by simpa using h5
                            exact .inr ⟨t, ht, by rw [h6.1, HQA.out], by rw [h6.2, HQB.out]⟩
                          · exact .inl (.inr ⟨rfl, by omega⟩)
                      go_wp2
                      exact ⟨⟨k + 1, O, by omega, by omega, by go_num, HO6.out, by omega, HM2.out, HW6.out⟩, by simp [intOf]; omega⟩
        · have hke : k = n := by omega
          have HM2 : Hid (Met l (DnT (i + 1) 0) O) := HM.out.mono fun a b h1 h2 h3 _ => by
            have := HN.out
            rcases h3 with h | ⟨rfl, h⟩
            · by_cases e : a = i
              · exact .inr ⟨e, by omega⟩
              · exact .inl (by omega)
            · omega
          have kI : ¬ (k : Int) < (n : Int) := by omega
          clear hke
          go_wp2
          exact ⟨⟨i + 1, O, by omega, by go_num, HO.out, by omega, HM2.out, HB.out⟩, by simp [intOf]; omega⟩
    · have HM2 : Hid (Met l (fun _ _ => True) O) := HM.out.mono fun a b h1 h2 h3 _ => .inl (by have := HN.out; omega)
      have iI : ¬ (i : Int) < (n : Int) := by omega
      go_wp2
      go_ret
      exact ⟨_, O, rfl, HO.out, HM2.out, HB.out⟩

end Go.Proofs.Ytmkbijclbogjhaa
