/- cone.Ways: all ways, one after another. -/
import Derived.Test.YtknomkajibfmlaaGreatWay2
import Derived.Test.YtknomkajibfmlaaGreatMgAI
namespace Go.Proofs.YtknomkajibfmlaaGreat
open Go.RowKit Go.Shelf
attribute [local go_sem] Oper.semAt_some

def waysTo (rows : List (List Int)) (g : List Int) (k : Nat) : List (List Int) :=
  (List.range k).flatMap fun m => (ext rows.length m 0).filter fun c => wayB g (pks rows [] c)

/-- The numbers of rows by which there is a way, in order. -/
def waysL (rows : List (List Int)) (g : List Int) : List (List Int) := waysTo rows g (min g.length rows.length + 1)

theorem waysTo_succ (rows : List (List Int)) (g : List Int) (k : Nat) : waysTo rows g (k + 1) = waysTo rows g k ++ (ext rows.length k 0).filter fun c => wayB g (pks rows [] c) := by
  simp [waysTo, List.range_succ]

theorem waysTo_pre (rows : List (List Int)) (g : List Int) {k m : Nat} (h : k ≤ m) : waysTo rows g k <+: waysTo rows g m := by
  induction m with
  | zero => have : k = 0 := by omega
            subst this; exact List.prefix_refl _
  | succ m ih =>
    by_cases e : k = m + 1
    · subst e; exact List.prefix_refl _
    · exact (ih (by omega)).trans (by rw [waysTo_succ]; exact List.prefix_append _ _)

theorem filter_pre {α : Type} {p : α → Bool} {a b : List α} (h : a <+: b) : a.filter p <+: b.filter p := by
  obtain ⟨t, rfl⟩ := h
  rw [List.filter_append]
  exact List.prefix_append _ _

/-- A way, handed over. -/
def HandW (rows : List (List Int)) (g : List Int) (W : World) (S : Nat → Prop) (c : List Int) (vs : Array Value) : Prop :=
  ∃ co cc mo mc, vs = #[.agg #[.slice co c.length cc, .slice mo c.length mc, .int .i64 ((wayN g (pks rows [] c)).getD c.length 0)]] ∧ wayB g (pks rows [] c) = true ∧ Sl 0 3 W (.slice co c.length cc) (ints c) ∧ Sl 0 3 W (.slice mo c.length mc) (ints ((wayN g (pks rows [] c)).take c.length)) ∧
    (∀ a, co = some a → ¬ S a.block ∧ isC W a.block) ∧ (∀ a, mo = some a → ¬ S a.block ∧ isC W a.block) ∧ ∀ b, S b → b < W.heap.size

/-- What holds when the choices of fewer than k have been gone through. -/
structure WyK (rows : List (List Int)) (g : List Int) (T : Nat → Prop) (gb rb D0 : Nat) (W0 : World) (J : (Nat → Prop) → List (List Int) → World → Prop) (k : Nat) (rs : List Nat) (wr : World) : Prop where
  nd : rs.Nodup
  mark : ∀ r ∈ rs, wr.heap[r]? = some (.deferred (some []))
  kp : Kpt (fun b => b = gb ∨ b = rb ∨ b = D0 ∨ T b) W0 wr
  j : J (fun b => b = gb ∨ b = rb ∨ b = D0 ∨ b ∈ rs) (waysTo rows g k) wr

/-- .. and, of those of k, some (in world WN the walk over them began). -/
structure WyI (rows : List (List Int)) (g : List Int) (T : Nat → Prop) (gb rb D0 : Nat) (WN : World) (J : (Nat → Prop) → List (List Int) → World → Prop) (rs : List Nat) (N : Nat) (S : Nat → Prop) (q : List (List Int)) (W : World) : Prop where
  sn : ∀ b, S b → N ≤ b
  kp : Kpt (fun b => b < N ∧ (b = gb ∨ b = rb ∨ b = D0 ∨ T b ∨ b ∈ rs)) WN W
  j : J (fun b => S b ∨ b = gb ∨ b = rb ∨ b = D0 ∨ b ∈ rs) q W
  sz : N ≤ W.heap.size

theorem WyI.stab {rows : List (List Int)} {g : List Int} {T : Nat → Prop} {gb rb D0 : Nat} {WN : World} {J : (Nat → Prop) → List (List Int) → World → Prop} {rs : List Nat} {N : Nat} {S S' : Nat → Prop} {q : List (List Int)} {W W' : World} (hst : Stab J)
    (h : WyI rows g T gb rb D0 WN J rs N S q W) (hc : Chg S W W') (hs : ∀ b, S' b → S b ∨ W.heap.size ≤ b) : WyI rows g T gb rb D0 WN J rs N S' q W' := by
  have h0 := h.sz
  refine ⟨fun b hb => ?_, h.kp.trans (Kpt.of_chg hc fun i _ hi hsi => ?_), hst _ _ q W W' h.j (hc.mono fun i _ hi => .inl hi) (fun b hb => ?_), Nat.le_trans h0 hc.size⟩
  · rcases hs b hb with h1 | h1
    · exact h.sn b h1
    · omega
  · have := h.sn i hsi
    have := hi.1
    omega
  · rcases hb with hb | hb
    · rcases hs b hb with h1 | h1
      · exact .inl (.inl h1)
      · exact .inr h1
    · exact .inl (.inr hb)

theorem hand_below (N0 : Nat) (W : World) (S : Nat → Prop) (x : List Int) (vs : Array Value) (W' : World) (h : Hand N0 W S x vs) (hb : Below W.heap.size W W') : Hand N0 W' S x vs := by
  obtain ⟨v, B0, h1, h2, h3, h4, h5⟩ := h
  exact ⟨v, B0, h1, owns_below h2 hb (Nat.le_refl _), h3, h4, Nat.le_trans h5 hb.size⟩

theorem hand_put (N0 : Nat) (W : World) (S : Nat → Prop) (x : List Int) (vs : Array Value) (l : Nat) (r : Loop) (o : Obj) (h : Hand N0 W S x vs) (hl : W.heap[l]? = some (.loop r)) : Hand N0 (W.putObj l o) S x vs := by
  obtain ⟨v, B0, h1, h2, h3, h4, h5⟩ := h
  exact ⟨v, B0, h1, ownsRow_putObj h2 _ hl rfl, h3, h4, by simpa using h5⟩

/-- A row of one's own does not lie where there are no cells. -/
theorem own_off {W : World} {B0 n : Nat} {vo : Option Addr} {vc b : Nat} {xs : List Value} {o : Obj} (h : W.ownsRow B0 3 1 (.slice vo n vc) n xs) (hb : W.heap[b]? = some o) (ho : o.isCells = false) : ∀ a, vo = some a → B0 ≤ a.block ∧ a.block ≠ b ∧ isC W a.block := by
  intro a ha
  rcases h.2 with ⟨h1, _⟩ | ⟨g', cap', cur', h1, h2, h3, _⟩
  · simp only [Value.slice.injEq] at h1; rw [h1.1] at ha; cases ha
  · simp only [Value.slice.injEq] at h1
    rw [h1.1] at ha
    cases ha
    refine ⟨h2, fun e => ?_, _, _, h3⟩
    rw [← e, h3] at hb
    cases hb
    simp [Obj.isCells] at ho

set_option maxRecDepth 100000 in
set_option maxHeartbeats 8000000 in
theorem ways_seq5 (B gb rb : Nat) (rows : List (List Int)) (g : List Int) (ro go : Option Addr) (rc gc : Nat) (T : Nat → Prop) (w0 : World)
    (hcg : w0.cell? ⟨gb, 0, none⟩ = some (.slice go g.length gc)) (hcr : w0.cell? ⟨rb, 0, none⟩ = some (.slice ro rows.length rc))
    (hrows : ∀ W, Kpt T w0 W → Mat B 38 3 W (.slice ro rows.length rc) rows) (hgoal : ∀ W, Kpt T w0 W → Sl B 3 W (.slice go g.length gc) (ints g)) (hT : ∀ b, T b → b < w0.heap.size)
    (hr : ∀ r ∈ rows, g.length ≤ r.length ∧ ∀ z ∈ r, z.natAbs ≤ 60) (hg : ∀ z ∈ g, z.natAbs ≤ 60) (hg1 : 1 ≤ g.length) (hF : FewS g.length rows g) (hrl : rows.length ≤ 1000) :
    SeqS Tryz.prog 76 #[.pointer (some ⟨gb, 0, none⟩), .pointer (some ⟨rb, 0, none⟩)] (HandW rows g) (waysL rows g) T (fun b => b = gb ∨ b = rb) w0 := by
  intro l J Jx W hW hst hstx hY hJ
  have hg5 : g.length ≤ 5 := hF.le
  have HF : Hid (FewS g.length rows g) := hF
  have hgl := lt_cell0 hcg
  have hrl0 := lt_cell0 hcr
  have c1 : W.cell? ⟨gb, 0, none⟩ = some (.slice go g.length gc) := (hW.cell (p := ⟨gb, 0, none⟩) hgl).trans hcg
  have c2 : W.cell? ⟨rb, 0, none⟩ = some (.slice ro rows.length rc) := (hW.cell (p := ⟨rb, 0, none⟩) hrl0).trans hcr
  obtain ⟨W0, hW0⟩ : ∃ W0, W0 = W.alloc (.cells #[.func (.yield l) #[] #[]] 83) := ⟨_, rfl⟩
  have hb0 : Below W.heap.size W W0 := by rw [hW0]; exact alloc_keep _ _
  have hs0 : W0.heap.size = W.heap.size + 1 := by rw [hW0]; exact size_alloc _ _
  have c1a : W0.cell? ⟨gb, 0, none⟩ = some (.slice go g.length gc) := (hb0.cell (p := ⟨gb, 0, none⟩) (lt_cell0 c1)).trans c1
  have c2a : W0.cell? ⟨rb, 0, none⟩ = some (.slice ro rows.length rc) := (hb0.cell (p := ⟨rb, 0, none⟩) (lt_cell0 c2)).trans c2
  have c3a : W0.cell? ⟨W.heap.size, 0, none⟩ = some (.func (.yield l) #[] #[]) := by rw [hW0]; exact cell_of (alloc_new _ _)
  have hwsz := hW.size
  obtain ⟨D0, hD0⟩ : ∃ D0, D0 = W.heap.size := ⟨_, rfl⟩
  have HGB : Hid (gb < W0.heap.size ∧ rb < W0.heap.size ∧ D0 < W0.heap.size ∧ ∀ b, T b → b < W0.heap.size) := ⟨by omega, by omega, by omega, fun b hb => by have := hT b hb; omega⟩
  have HKT : Hid (∀ W', Kpt T W0 W' → Kpt T w0 W') := fun W' hk => ⟨by have := hk.size; omega, fun b hb ht => (hk.block b (by omega) ht).trans ((hb0.block b (by omega)).trans (hW.block b hb))⟩
  have HK0 : Hid (WyK rows g T gb rb D0 W0 J 0 [] W0) := by
    refine ⟨List.nodup_nil, fun r hr => absurd hr (by simp), Kpt.refl _ _, hst _ _ [] W W0 hJ (Chg.of_below hb0 (Nat.le_refl _)) (fun b hb => ?_)⟩
    rcases hb with h | h | h | h
    · exact .inl (.inl h)
    · exact .inl (.inr h)
    · exact .inr (by omega)
    · exact absurd h (by simp)
  have HCS : Hid (W0.cell? ⟨gb, 0, none⟩ = some (.slice go g.length gc) ∧ W0.cell? ⟨rb, 0, none⟩ = some (.slice ro rows.length rc) ∧ W0.cell? ⟨D0, 0, none⟩ = some (.func (.yield l) #[] #[])) := ⟨c1a, c2a, by rw [hD0]; exact c3a⟩
  have HST : Hid (Stab J) := hst
  have HSX : Hid (Stab Jx) := hstx
  have HY : Hid (∀ m S pre x vs W1, J S pre W1 → (pre ++ [x]) <+: waysL rows g → HandW rows g W1 S x vs → YieldAt Fence.wide m Tryz.prog l vs W1 fun e W' => Kpt (fun b => S b ∨ T b) W1 W' ∧
      ((e = .returned (.bool true) ∧ J S (pre ++ [x]) W') ∨ (e = .returned (.bool false) ∧ Jx S (pre ++ [x]) W'))) := hY
  have HRW : Hid (∀ W, Kpt T w0 W → Mat B 38 3 W (.slice ro rows.length rc) rows) := hrows
  have HGO : Hid (∀ W, Kpt T w0 W → Sl B 3 W (.slice go g.length gc) (ints g)) := hgoal
  have HR : Hid (∀ r ∈ rows, g.length ≤ r.length ∧ ∀ z ∈ r, z.natAbs ≤ 60) := hr
  have HG : Hid (∀ z ∈ g, z.natAbs ≤ 60) := hg
  have HW0 : Hid (W0 = W.alloc (.cells #[.func (.yield l) #[] #[]] 83)) := hW0
  have HD0 : Hid (D0 = W.heap.size) := hD0
  rw [hW0] at c1a c2a c3a
  clear hst hstx hY hJ hrows hgoal hr hg hF hW0 hb0 hs0 hW hcg hcr hgl hrl0 hT c3a hwsz hD0 c1 c2
  refine callsIn_of_wp_marks Tryz.func76 rfl trivial ?_ rfl
  simp only [Tryz.ntmps76, List.size_toArray, List.length_cons, List.length_nil, Nat.reduceAdd, Nat.reduceSub, Array.replicate_succ, Array.replicate_zero, List.push_toArray, List.append_toArray, List.nil_append, List.cons_append]
  gi_wp2
  case inr =>
    have Hg.length : Hid (g.length = min g.length rows.length) := by show _ = _; omega
    have hg.length4 : g.length ≤ 5 := by omega
    clear c1a c2a
    rw [← HW0.out, ← HD0.out]
    refine wpIn_loop (fun a' wr => ∃ (k : Nat) (rs : List Nat) (u4 u15 u16 u17 u18 u19 u20 u36 : Value), k ≤ g.length + 1 ∧ WyK rows g T gb rb D0 W0 J k rs wr ∧
      a' = { tmps := #[.func (.yield l) #[] #[], .pointer (some ⟨gb, 0, none⟩), .pointer (some ⟨rb, 0, none⟩), .pointer (some ⟨D0, 0, none⟩), u4, undef, undef, undef, .slice go g.length gc, .int .i64 g.length, .slice ro rows.length rc, .int .i64 rows.length, .int .i64 g.length, .int .i64 ((g.length : Int) + 1), .int .i64 k, u15, u16, u17, u18, u19, u20, undef, undef, undef, undef, undef, undef, undef, undef, undef, undef, undef, undef, undef, undef, undef, u36], defers := mks rs }) (fun a' _ => g.length + 1 - (intOf (a'.tmps.getD 14 undef)).toNat) ?_ ?_
    · exact ⟨0, [], _, _, _, _, _, _, _, _, Nat.zero_le _, HK0.out, rfl⟩
    rintro _ wr ⟨k, rs, u4, u15, u16, u17, u18, u19, u20, u36, hk, hwk, rfl⟩
    have HWK : Hid (WyK rows g T gb rb D0 W0 J k rs wr) := hwk
    have d1 : wr.cell? ⟨gb, 0, none⟩ = some (.slice go g.length gc) := (World.cell?_of_block (w := W0) (hwk.kp.block gb HGB.out.1 (.inl rfl))).trans HCS.out.1
    have d2 : wr.cell? ⟨rb, 0, none⟩ = some (.slice ro rows.length rc) := (World.cell?_of_block (w := W0) (hwk.kp.block rb HGB.out.2.1 (.inr (.inl rfl)))).trans HCS.out.2.1
    clear hwk
    by_cases hlt : k < g.length + 1
    · have hkI : (k : Int) < (g.length : Int) + 1 := by omega
      gi_wp2_with (refine ⟨trivial, rfl, ?_⟩; gi_at_call 48; refine (callsIn_wide.2 (of_any _ _ _)).mono ?_; rintro e w' ⟨rfl, rfl⟩)
      obtain ⟨WN, hWN⟩ : ∃ WN, WN = (wr.alloc (.cells #[.int .i64 rows.length] 3)).alloc (.cells #[.int .i64 k] 3) := ⟨_, rfl⟩
      rw [← hWN]
      have hbN : Below wr.heap.size wr WN := by rw [hWN]; exact ((Below.refl _ _).alloc (Nat.le_refl _) _).alloc (by simp) _
      have hsN : WN.heap.size = wr.heap.size + 2 := by rw [hWN]; simp
      have hcn : WN.cell? ⟨wr.heap.size, 0, none⟩ = some (.int .i64 rows.length) := by
        rw [hWN]; exact ((alloc_keep (wr.alloc (.cells #[.int .i64 rows.length] 3)) _).cell (p := ⟨wr.heap.size, 0, none⟩) (by simp)).trans (cell_of (alloc_new wr _))
      have hcm : WN.cell? ⟨wr.heap.size + 1, 0, none⟩ = some (.int .i64 k) := by
        rw [hWN]; have := cell_of (alloc_new (wr.alloc (.cells #[.int .i64 rows.length] 3)) (.cells #[.int .i64 k] 3)); rwa [size_alloc] at this
      clear hWN
      have HI0 : Hid (WyI rows g T gb rb D0 WN J rs wr.heap.size (fun b => b = wr.heap.size + 1 ∨ b = wr.heap.size) (waysTo rows g k ++ ([] : List (List Int)).filter (fun c => wayB g (pks rows [] c))) WN) := by
        refine ⟨fun b hb => by omega, Kpt.refl _ _, ?_, by omega⟩
        rw [List.filter_nil, List.append_nil]
        exact HST.out _ _ _ wr WN HWK.out.j (Chg.of_below hbN (Nat.le_refl _)) (fun b hb => hb.elim (fun h => .inr (by omega)) .inl)
      have HKN : Hid (∀ W', Kpt (fun b => b < wr.heap.size ∧ (b = gb ∨ b = rb ∨ b = D0 ∨ T b ∨ b ∈ rs)) WN W' → Kpt (fun b => b = gb ∨ b = rb ∨ b = D0 ∨ T b) W0 W') := fun W' hk' => by
        have h1 := HWK.out.kp.size
        have h2 := HGB.out
        refine ⟨by have := hk'.size; omega, fun b hb hx => ?_⟩
        have hbw : b < wr.heap.size := by omega
        exact (hk'.block b (by omega) ⟨hbw, by rcases hx with h | h | h | h <;> simp [h]⟩).trans ((hbN.block b hbw).trans (HWK.out.kp.block b hb hx))
      have HSQ := of_seq rows.length k (wr.heap.size + 1) wr.heap.size WN (by omega) (by omega) hcm hcn
      have HBN : Hid (Below wr.heap.size wr WN) := hbN
      clear hbN hcn hcm d1 d2
      refine range_s (R := Hand WN.heap.size) (cs := ext rows.length k 0) (T := fun _ => False) (S0 := fun b => b = wr.heap.size + 1 ∨ b = wr.heap.size) (gf := 71) (lb := #[.pointer (some ⟨wr.heap.size + 1, 0, none⟩), .pointer (some ⟨wr.heap.size, 0, none⟩)]) rfl (enters_of Tryz.func71 (by kernel_rfl) rfl) HSQ (fun b hb => by omega)
        (fun W' S x vs ⟨v, B0, h1, _⟩ => by rw [h1]; rfl) (hand_below _) (hand_put _)
        (fun S pre W' => WyI rows g T gb rb D0 WN J rs wr.heap.size S (waysTo rows g k ++ pre.filter (fun c => wayB g (pks rows [] c))) W')
        (fun c S pre W' => c = .ret ∧ ∃ q, q <+: waysL rows g ∧ WyI rows g T gb rb D0 WN Jx rs wr.heap.size S q W')
        (fun S S' pre W' W'' h hc hs => h.stab HST.out hc hs) (fun c S S' pre W' W'' ⟨h1, q, h2, h3⟩ hc hs => ⟨h1, q, h2, h3.stab HSX.out hc hs⟩) HI0.out
        (fun vs a' W' => ∃ v, vs = #[v] ∧ a' = { tmps := #[.func (.yield l) #[] #[], .pointer (some ⟨gb, 0, none⟩), .pointer (some ⟨rb, 0, none⟩), .pointer (some ⟨D0, 0, none⟩), .int .i64 k, v, undef, undef, .slice go g.length gc, .int .i64 g.length, .slice ro rows.length rc, .int .i64 rows.length, .int .i64 g.length, .int .i64 ((g.length : Int) + 1), .int .i64 k, .bool true, .int .i64 k, .slice ro rows.length rc, .int .i64 rows.length, .int .i64 k, .func (.func 71) #[] #[.pointer (some ⟨wr.heap.size + 1, 0, none⟩), .pointer (some ⟨wr.heap.size, 0, none⟩)], v, undef, undef, undef, undef, undef, undef, undef, undef, undef, undef, undef, undef, undef, undef, u36], defers := [] })
        (fun vs a' W' l r o h _ => h) ?assign ?body (fun h => h) ?done ?stop
      case assign =>
        rintro S x vs W' K ⟨v, B0, rfl, h2, h3, h4⟩ hK
        gi_wp2
        exact hK _ _ (Below.refl _ _) ⟨v, rfl, rfl⟩
      case body =>
        rintro S pre c vs a' W1 hi hSD hSL hlt1 hdf hlp hpre ⟨S1, ⟨v, B0, hvs, hown, hB0, hN0, hBW⟩, hS1⟩ ⟨v', hvs', rfl⟩
        have hvv : v = v' := by rw [hvs] at hvs'; simpa using hvs'
        subst hvv
        have hcm : c ∈ ext rows.length k 0 := hpre.subset (by simp)
        obtain ⟨hr1, hr2, _⟩ := ext_rise hcm
        have hkW := HKN.out W1 hi.kp
        have e1 : W1.cell? ⟨gb, 0, none⟩ = some (.slice go g.length gc) := (World.cell?_of_block (w := W0) (hkW.block gb HGB.out.1 (.inl rfl))).trans HCS.out.1
        have e2 : W1.cell? ⟨rb, 0, none⟩ = some (.slice ro rows.length rc) := (World.cell?_of_block (w := W0) (hkW.block rb HGB.out.2.1 (.inr (.inl rfl)))).trans HCS.out.2.1
        have e3 : W1.cell? ⟨D0, 0, none⟩ = some (.func (.yield l) #[] #[]) := (World.cell?_of_block (w := W0) (hkW.block D0 HGB.out.2.2.1 (.inr (.inr (.inl rfl))))).trans HCS.out.2.2
        have hkT : Kpt T w0 W1 := HKT.out W1 (hkW.mono (fun i _ h => .inr (.inr (.inr h))))
        obtain ⟨vo, vc, hvf⟩ := owns_form hown
        subst hvf
        obtain ⟨lr, hlp⟩ := hlp
        have HOF : Hid (∀ a, vo = some a → ¬ (S a.block ∨ a.block = gb ∨ a.block = rb ∨ a.block = D0 ∨ a.block ∈ rs) ∧ isC W1 a.block) := fun a ha => by
          obtain ⟨h1, h2, h3⟩ := own_off hown hdf rfl a ha
          obtain ⟨_, h4, _⟩ := own_off hown hlp rfl a ha
          refine ⟨fun hx => ?_, h3⟩
          have hg := HGB.out
          have hz := HWK.out.kp.size
          rcases hx with hx | hx | hx | hx | hx
          · rcases (hS1 _).1 hx with hx | hx | hx
            · have := hB0 _ hx; omega
            · exact h2 hx
            · exact h4 hx
          · omega
          · omega
          · omega
          · have := (Array.getElem?_eq_some_iff.1 (HWK.out.mark _ hx)).1; omega
        have HSB : Hid (∀ b, (S b ∨ b = gb ∨ b = rb ∨ b = D0 ∨ b ∈ rs) → b < W1.heap.size) := fun b hx => by
          have hg := HGB.out
          have hz := HWK.out.kp.size
          have hz2 := hi.sz
          rcases hx with hx | hx | hx | hx | hx
          · rcases (hS1 _).1 hx with hx | hx | hx
            · have := hB0 _ hx; omega
            · omega
            · omega
          · omega
          · omega
          · omega
          · have := (Array.getElem?_eq_some_iff.1 (HWK.out.mark _ hx)).1; omega
        have HCL : Hid (Sl 0 3 W1 (.slice vo c.length vc) (ints c)) := Sl.own hown
        have HWV : Hid (Calls Tryz.prog 77 #[.slice ro rows.length rc, .slice vo c.length vc, .slice go g.length gc] W1 fun e w' => ∃ tv, e = .returned (.tuple #[tv, .bool (wayB g (pks rows [] c))]) ∧ WayV W1.heap.size w' tv (.slice vo c.length vc) c g (pks rows [] c) ∧ Below W1.heap.size W1 w') :=
          wayBy5_any B rows c g _ _ _ W1 (HRW.out W1 hkT) (Sl.own hown) (HGO.out W1 hkT) (fun t ht => by have := hr2 t (by omega); exact ⟨by omega, this.2⟩) HR.out HG.out hg1 (by omega) (HF.out.mono (by omega))
        have HI : Hid (WyI rows g T gb rb D0 WN J rs wr.heap.size S (waysTo rows g k ++ pre.filter (fun c => wayB g (pks rows [] c))) W1) := hi
        have HPRE : Hid ((pre ++ [c]) <+: ext rows.length k 0) := hpre
        have HLT : Hid (D0 < W1.heap.size) := lt_cell0 e3
        have HR1 : Hid (c.length = k) := hr1
        have HSN : Hid (WN.heap.size = wr.heap.size + 2) := hsN
        clear hi hpre hown hB0 hN0 hBW hS1 hcm hr2 hkW hkT hdf hlp hvs hvs' hr1 hsN
        cases hwb : wayB g (pks rows [] c) with
        | false =>
          have HFI : Hid ((pre ++ [c]).filter (fun c => wayB g (pks rows [] c)) = pre.filter (fun c => wayB g (pks rows [] c))) := by
            show _ = _
            rw [List.filter_append]; simp [hwb]
          have HWF : Hid (Calls Tryz.prog 77 #[.slice ro rows.length rc, .slice vo c.length vc, .slice go g.length gc] W1 fun e w' => e = .returned (.tuple #[.agg #[.slice none 0 0, .slice none 0 0, .int .i64 0], .bool false]) ∧ Below W1.heap.size W1 w') := by
            refine HWV.out.mono ?_
            rintro e w' ⟨tv, rfl, h1 | h1, h2⟩
            · rw [hwb] at h1; exact absurd h1.1 (by simp)
            · rw [hwb, h1.2]; exact ⟨rfl, h2⟩
          clear hwb HWV
          gi_wp2_with (refine ⟨trivial, rfl, ?_⟩; gi_at_call 77; refine (CallsIn.inRound _ (callsIn_wide.2 HWF.out)).mono ?_; rintro e w6 ⟨rfl, hb6⟩)
          have HBL : Hid (Below W1.heap.size W1 (w6.alloc (.cells #[.slice none 0 0, .slice none 0 0, .int .i64 0] 55))) := hb6.alloc hb6.size _
          clear hb6
          refine ⟨fun _ h => (by cases h), ?_⟩
          gi_wp2
          refine ⟨Kpt.of_below HBL.out (Nat.le_refl _), ?_⟩
          have hfin := HI.out.stab HST.out (Chg.of_below HBL.out (Nat.le_refl _)) (S' := S) (fun b hb => .inl hb)
          rw [← HFI.out] at hfin
          exact hfin
        | true =>
          obtain ⟨q, hq⟩ : ∃ q, q = waysTo rows g k ++ pre.filter (fun c => wayB g (pks rows [] c)) := ⟨_, rfl⟩
          have HFI : Hid (waysTo rows g k ++ (pre ++ [c]).filter (fun c => wayB g (pks rows [] c)) = q ++ [c]) := by
            show _ = _
            rw [List.filter_append, hq]; simp [hwb]
          have HQP : Hid ((q ++ [c]) <+: waysL rows g) := by
            rw [← HFI.out]
            refine List.IsPrefix.trans ?_ ((waysTo_pre rows g (show k + 1 ≤ g.length + 1 by omega)).trans (by unfold waysL; rw [← Hg.length.out]; exact List.prefix_refl _))
            rw [waysTo_succ]
            obtain ⟨t, ht⟩ := filter_pre (p := fun c => wayB g (pks rows [] c)) HPRE.out
            exact ⟨t, by rw [List.append_assoc, ht]⟩
          rw [← hq] at HI
          obtain ⟨un, hun⟩ : ∃ un, un = (wayN g (pks rows [] c)).getD c.length 0 := ⟨_, rfl⟩
          have HWT : Hid (Calls Tryz.prog 77 #[.slice ro rows.length rc, .slice vo c.length vc, .slice go g.length gc] W1 fun e w' => ∃ mo mc, e = .returned (.tuple #[.agg #[.slice vo c.length vc, .slice mo c.length mc, .int .i64 un], .bool true]) ∧ Sl 0 3 w' (.slice mo c.length mc) (ints ((wayN g (pks rows [] c)).take c.length)) ∧ (∀ a, mo = some a → W1.heap.size ≤ a.block ∧ isC w' a.block) ∧ Below W1.heap.size W1 w') := by
            refine HWV.out.mono ?_
            rintro e w' ⟨tv, rfl, h1 | h1, h2⟩
            · obtain ⟨_, mo, mc, rfl, h3, h4⟩ := h1
              rw [hwb, ← hun]; exact ⟨mo, mc, rfl, h3, h4, h2⟩
            · rw [hwb] at h1; exact absurd h1.1 (by simp)
          have HYY : Hid (∀ mo mc w6, Sl 0 3 w6 (.slice mo c.length mc) (ints ((wayN g (pks rows [] c)).take c.length)) → (∀ a, mo = some a → W1.heap.size ≤ a.block ∧ isC w6 a.block) → Below W1.heap.size W1 w6 →
              (w6.alloc (.cells #[.slice vo c.length vc, .slice mo c.length mc, .int .i64 un] 55)).cell? ⟨D0, 0, none⟩ = some (.func (.yield l) #[] #[]) ∧
              YieldAt Fence.wide 0 Tryz.prog l #[.agg #[.slice vo c.length vc, .slice mo c.length mc, .int .i64 un]] (w6.alloc (.cells #[.slice vo c.length vc, .slice mo c.length mc, .int .i64 un] 55)) fun e W' =>
                (e = .returned (.bool true) ∧ Kpt (fun b => S b ∨ False) W1 W' ∧ WyI rows g T gb rb D0 WN J rs wr.heap.size S (waysTo rows g k ++ (pre ++ [c]).filter (fun c => wayB g (pks rows [] c))) W') ∨
                (e = .returned (.bool false) ∧ Kpt (fun b => S b ∨ False) W1 W' ∧ ∃ q, q <+: waysL rows g ∧ WyI rows g T gb rb D0 WN Jx rs wr.heap.size S q W')) := fun mo mc w6 h1 h2 h3 => by
            obtain ⟨W7, hW7⟩ : ∃ W7, W7 = w6.alloc (.cells #[.slice vo c.length vc, .slice mo c.length mc, .int .i64 un] 55) := ⟨_, rfl⟩
            have hb7 : Below W1.heap.size W1 W7 := by rw [hW7]; exact h3.alloc h3.size _
            have h67 : Below w6.heap.size w6 W7 := by rw [hW7]; exact alloc_keep _ _
            rw [← hW7]
            refine ⟨(hb7.cell (p := ⟨D0, 0, none⟩) HLT.out).trans e3, ?_⟩
            have hJ7 := HST.out _ (fun b => S b ∨ b = gb ∨ b = rb ∨ b = D0 ∨ b ∈ rs) _ W1 W7 HI.out.j (Chg.of_below hb7 (Nat.le_refl _)) (fun b hb => .inl hb)
            refine YieldAt.mono (HY.out 0 _ q c _ W7 hJ7 HQP.out ⟨vo, vc, mo, mc, by rw [← hun], hwb, HCL.out.below hb7 (Nat.le_refl _), h1.below h67 (Nat.le_refl _), fun a ha => ⟨(HOF.out a ha).1, (HOF.out a ha).2.keep (hb7.block _ (HOF.out a ha).2.lt)⟩, fun a ha => ⟨fun hx => ?_, (h2 a ha).2.keep (h67.block _ (h2 a ha).2.lt)⟩, fun b hb => Nat.lt_of_lt_of_le (HSB.out b hb) hb7.size⟩) ?_
            · have := (h2 a ha).1
              have := HSB.out _ hx
              omega
            · rintro e W' ⟨hk, hp⟩
              have k1 : Kpt (fun b => S b ∨ False) W1 W' := (Kpt.of_below hb7 (Nat.le_refl _)).trans (hk.mono (fun i _ h => .inl (.inl (h.elim id False.elim))))
              have k2 : Kpt (fun b => b < wr.heap.size ∧ (b = gb ∨ b = rb ∨ b = D0 ∨ T b ∨ b ∈ rs)) WN W' := HI.out.kp.trans ((Kpt.of_below hb7 (Nat.le_refl _)).trans (hk.mono (fun i _ h => by
                rcases h.2 with h | h | h | h | h
                · exact .inl (.inr (.inl h))
                · exact .inl (.inr (.inr (.inl h)))
                · exact .inl (.inr (.inr (.inr (.inl h))))
                · exact .inr h
                · exact .inl (.inr (.inr (.inr (.inr h)))))))
              have k3 : wr.heap.size ≤ W'.heap.size := Nat.le_trans HI.out.sz k1.size
              rcases hp with ⟨rfl, hj⟩ | ⟨rfl, hj⟩
              · exact .inl ⟨rfl, k1, HI.out.sn, k2, by rw [HFI.out]; exact hj, k3⟩
              · exact .inr ⟨rfl, k1, _, HQP.out, HI.out.sn, k2, hj, k3⟩
          clear hwb HWV hq hun e3
          gi_wp2_with (first | (refine ⟨trivial, rfl, ?_⟩; gi_at_call 77; refine (CallsIn.inRound _ (callsIn_wide.2 HWT.out)).mono ?_; rintro e w6 ⟨mo, mc, rfl, h1, h2, h3⟩; obtain ⟨e3, fn, tmps, assign, body, hy, hR⟩ := HYY.out mo mc w6 h1 h2 h3; clear h1 h2 h3) | (refine ⟨rfl, ?_⟩; refine hR.mono ?_; clear hR hy; rintro e W' (⟨rfl, hk, hj⟩ | ⟨rfl, hk, hj⟩)))
          all_goals first | exact ⟨hk, hj⟩ | exact ⟨hk, rfl, hj⟩
      case done =>
        rintro S W' hi hSD hdf
        have HI : Hid (WyI rows g T gb rb D0 WN J rs wr.heap.size S (waysTo rows g k ++ (ext rows.length k 0).filter (fun c => wayB g (pks rows [] c))) W') := hi
        have HNX : Hid (WyK rows g T gb rb D0 W0 J (k + 1) (WN.heap.size :: rs) W') := by
          refine ⟨List.nodup_cons.2 ⟨fun h => ?_, HWK.out.nd⟩, fun r hr => ?_, HKN.out W' hi.kp, ?_⟩
          · have := (Array.getElem?_eq_some_iff.1 (HWK.out.mark _ h)).1; omega
          · rcases List.mem_cons.1 hr with rfl | hr
            · exact hdf
            · have h1 := (Array.getElem?_eq_some_iff.1 (HWK.out.mark _ hr)).1
              exact (hi.kp.block r (by omega) ⟨h1, .inr (.inr (.inr (.inr hr)))⟩).trans ((HBN.out.block r h1).trans (HWK.out.mark r hr))
          · rw [waysTo_succ]
            refine HST.out _ _ _ W' W' hi.j (Chg.refl _ _) (fun b hb => .inl ?_)
            rcases hb with h | h | h | h
            · exact .inr (.inl h)
            · exact .inr (.inr (.inl h))
            · exact .inr (.inr (.inr (.inl h)))
            · rcases List.mem_cons.1 h with rfl | h
              · exact .inl hSD
              · exact .inr (.inr (.inr (.inr h)))
        clear hi
        gi_wp2
        refine ⟨⟨k + 1, WN.heap.size :: rs, .int .i64 k, .bool true, .int .i64 k, .slice ro rows.length rc, .int .i64 rows.length, .int .i64 k, .func (.func 71) #[] #[.pointer (some ⟨wr.heap.size + 1, 0, none⟩), .pointer (some ⟨wr.heap.size, 0, none⟩)], .int .i64 ((k : Int) + 1), by omega, HNX.out, ?_⟩, ?_⟩
        · rw [show ((k + 1 : Nat) : Int) = (k : Int) + 1 by omega]
          rfl
        · simp [intOf]; omega
      case stop =>
        rintro c S pre W' hpre ⟨rfl, q, hq, hi⟩ hSD hdf
        gi_wp2
        refine leaves_mks (WN.heap.size :: rs) W' (List.nodup_cons.2 ⟨fun h => ?_, HWK.out.nd⟩) (fun r hr => ?_) (fun w' hc => ⟨_, results_none rfl _ _ _, ⟨_, rfl⟩, .inr ⟨(fun b => S b ∨ b = gb ∨ b = rb ∨ b = D0 ∨ b ∈ rs), q, hq, ?_⟩⟩)
        · have := (Array.getElem?_eq_some_iff.1 (HWK.out.mark _ h)).1; omega
        · rcases List.mem_cons.1 hr with rfl | hr
          · exact hdf
          · have h1 := (Array.getElem?_eq_some_iff.1 (HWK.out.mark _ hr)).1
            exact (hi.kp.block r (by omega) ⟨h1, .inr (.inr (.inr (.inr hr)))⟩).trans ((HBN.out.block r h1).trans (HWK.out.mark r hr))
        · refine HSX.out _ _ _ W' w' hi.j (hc.mono (fun i _ h => ?_)) (fun b hb => .inl hb)
          rcases List.mem_cons.1 h with rfl | h
          · exact .inl hSD
          · exact .inr (.inr (.inr (.inr h)))
    · have hke : k = g.length + 1 := by omega
      subst hke
      have hkI : decide ((((g.length + 1 : Nat) : Int)) < (g.length : Int) + 1) = false := by simp
      gi_wp2
      have HE : Hid (waysTo rows g (g.length + 1) = waysL rows g) := by show _ = _; unfold waysL; rw [← Hg.length.out]
      refine leaves_mks rs wr HWK.out.nd HWK.out.mark (fun w' hc => ⟨_, results_none rfl _ _ _, ⟨_, rfl⟩, .inl ⟨(fun b => b = gb ∨ b = rb ∨ b = D0 ∨ b ∈ rs), ?_⟩⟩)
      rw [← HE.out]
      exact HST.out _ _ _ wr w' HWK.out.j (hc.mono (fun i _ hi => .inr (.inr (.inr hi)))) (fun b hb => .inl hb)

  case inl =>
    have Hrows.length : Hid (rows.length = min g.length rows.length) := by show _ = _; omega
    have hrows.length4 : rows.length ≤ 5 := by omega
    clear c1a c2a
    rw [← HW0.out, ← HD0.out]
    refine wpIn_loop (fun a' wr => ∃ (k : Nat) (rs : List Nat) (u4 u15 u16 u17 u18 u19 u20 u36 : Value), k ≤ rows.length + 1 ∧ WyK rows g T gb rb D0 W0 J k rs wr ∧
      a' = { tmps := #[.func (.yield l) #[] #[], .pointer (some ⟨gb, 0, none⟩), .pointer (some ⟨rb, 0, none⟩), .pointer (some ⟨D0, 0, none⟩), u4, undef, undef, undef, .slice go g.length gc, .int .i64 g.length, .slice ro rows.length rc, .int .i64 rows.length, .int .i64 rows.length, .int .i64 ((rows.length : Int) + 1), .int .i64 k, u15, u16, u17, u18, u19, u20, undef, undef, undef, undef, undef, undef, undef, undef, undef, undef, undef, undef, undef, undef, undef, u36], defers := mks rs }) (fun a' _ => rows.length + 1 - (intOf (a'.tmps.getD 14 undef)).toNat) ?_ ?_
    · exact ⟨0, [], _, _, _, _, _, _, _, _, Nat.zero_le _, HK0.out, rfl⟩
    rintro _ wr ⟨k, rs, u4, u15, u16, u17, u18, u19, u20, u36, hk, hwk, rfl⟩
    have HWK : Hid (WyK rows g T gb rb D0 W0 J k rs wr) := hwk
    have d1 : wr.cell? ⟨gb, 0, none⟩ = some (.slice go g.length gc) := (World.cell?_of_block (w := W0) (hwk.kp.block gb HGB.out.1 (.inl rfl))).trans HCS.out.1
    have d2 : wr.cell? ⟨rb, 0, none⟩ = some (.slice ro rows.length rc) := (World.cell?_of_block (w := W0) (hwk.kp.block rb HGB.out.2.1 (.inr (.inl rfl)))).trans HCS.out.2.1
    clear hwk
    by_cases hlt : k < rows.length + 1
    · have hkI : (k : Int) < (rows.length : Int) + 1 := by omega
      gi_wp2_with (refine ⟨trivial, rfl, ?_⟩; gi_at_call 48; refine (callsIn_wide.2 (of_any _ _ _)).mono ?_; rintro e w' ⟨rfl, rfl⟩)
      obtain ⟨WN, hWN⟩ : ∃ WN, WN = (wr.alloc (.cells #[.int .i64 rows.length] 3)).alloc (.cells #[.int .i64 k] 3) := ⟨_, rfl⟩
      rw [← hWN]
      have hbN : Below wr.heap.size wr WN := by rw [hWN]; exact ((Below.refl _ _).alloc (Nat.le_refl _) _).alloc (by simp) _
      have hsN : WN.heap.size = wr.heap.size + 2 := by rw [hWN]; simp
      have hcn : WN.cell? ⟨wr.heap.size, 0, none⟩ = some (.int .i64 rows.length) := by
        rw [hWN]; exact ((alloc_keep (wr.alloc (.cells #[.int .i64 rows.length] 3)) _).cell (p := ⟨wr.heap.size, 0, none⟩) (by simp)).trans (cell_of (alloc_new wr _))
      have hcm : WN.cell? ⟨wr.heap.size + 1, 0, none⟩ = some (.int .i64 k) := by
        rw [hWN]; have := cell_of (alloc_new (wr.alloc (.cells #[.int .i64 rows.length] 3)) (.cells #[.int .i64 k] 3)); rwa [size_alloc] at this
      clear hWN
      have HI0 : Hid (WyI rows g T gb rb D0 WN J rs wr.heap.size (fun b => b = wr.heap.size + 1 ∨ b = wr.heap.size) (waysTo rows g k ++ ([] : List (List Int)).filter (fun c => wayB g (pks rows [] c))) WN) := by
        refine ⟨fun b hb => by omega, Kpt.refl _ _, ?_, by omega⟩
        rw [List.filter_nil, List.append_nil]
        exact HST.out _ _ _ wr WN HWK.out.j (Chg.of_below hbN (Nat.le_refl _)) (fun b hb => hb.elim (fun h => .inr (by omega)) .inl)
      have HKN : Hid (∀ W', Kpt (fun b => b < wr.heap.size ∧ (b = gb ∨ b = rb ∨ b = D0 ∨ T b ∨ b ∈ rs)) WN W' → Kpt (fun b => b = gb ∨ b = rb ∨ b = D0 ∨ T b) W0 W') := fun W' hk' => by
        have h1 := HWK.out.kp.size
        have h2 := HGB.out
        refine ⟨by have := hk'.size; omega, fun b hb hx => ?_⟩
        have hbw : b < wr.heap.size := by omega
        exact (hk'.block b (by omega) ⟨hbw, by rcases hx with h | h | h | h <;> simp [h]⟩).trans ((hbN.block b hbw).trans (HWK.out.kp.block b hb hx))
      have HSQ := of_seq rows.length k (wr.heap.size + 1) wr.heap.size WN (by omega) (by omega) hcm hcn
      have HBN : Hid (Below wr.heap.size wr WN) := hbN
      clear hbN hcn hcm d1 d2
      refine range_s (R := Hand WN.heap.size) (cs := ext rows.length k 0) (T := fun _ => False) (S0 := fun b => b = wr.heap.size + 1 ∨ b = wr.heap.size) (gf := 71) (lb := #[.pointer (some ⟨wr.heap.size + 1, 0, none⟩), .pointer (some ⟨wr.heap.size, 0, none⟩)]) rfl (enters_of Tryz.func71 (by kernel_rfl) rfl) HSQ (fun b hb => by omega)
        (fun W' S x vs ⟨v, B0, h1, _⟩ => by rw [h1]; rfl) (hand_below _) (hand_put _)
        (fun S pre W' => WyI rows g T gb rb D0 WN J rs wr.heap.size S (waysTo rows g k ++ pre.filter (fun c => wayB g (pks rows [] c))) W')
        (fun c S pre W' => c = .ret ∧ ∃ q, q <+: waysL rows g ∧ WyI rows g T gb rb D0 WN Jx rs wr.heap.size S q W')
        (fun S S' pre W' W'' h hc hs => h.stab HST.out hc hs) (fun c S S' pre W' W'' ⟨h1, q, h2, h3⟩ hc hs => ⟨h1, q, h2, h3.stab HSX.out hc hs⟩) HI0.out
        (fun vs a' W' => ∃ v, vs = #[v] ∧ a' = { tmps := #[.func (.yield l) #[] #[], .pointer (some ⟨gb, 0, none⟩), .pointer (some ⟨rb, 0, none⟩), .pointer (some ⟨D0, 0, none⟩), .int .i64 k, v, undef, undef, .slice go g.length gc, .int .i64 g.length, .slice ro rows.length rc, .int .i64 rows.length, .int .i64 rows.length, .int .i64 ((rows.length : Int) + 1), .int .i64 k, .bool true, .int .i64 k, .slice ro rows.length rc, .int .i64 rows.length, .int .i64 k, .func (.func 71) #[] #[.pointer (some ⟨wr.heap.size + 1, 0, none⟩), .pointer (some ⟨wr.heap.size, 0, none⟩)], v, undef, undef, undef, undef, undef, undef, undef, undef, undef, undef, undef, undef, undef, undef, u36], defers := [] })
        (fun vs a' W' l r o h _ => h) ?assign ?body (fun h => h) ?done ?stop
      case assign =>
        rintro S x vs W' K ⟨v, B0, rfl, h2, h3, h4⟩ hK
        gi_wp2
        exact hK _ _ (Below.refl _ _) ⟨v, rfl, rfl⟩
      case body =>
        rintro S pre c vs a' W1 hi hSD hSL hlt1 hdf hlp hpre ⟨S1, ⟨v, B0, hvs, hown, hB0, hN0, hBW⟩, hS1⟩ ⟨v', hvs', rfl⟩
        have hvv : v = v' := by rw [hvs] at hvs'; simpa using hvs'
        subst hvv
        have hcm : c ∈ ext rows.length k 0 := hpre.subset (by simp)
        obtain ⟨hr1, hr2, _⟩ := ext_rise hcm
        have hkW := HKN.out W1 hi.kp
        have e1 : W1.cell? ⟨gb, 0, none⟩ = some (.slice go g.length gc) := (World.cell?_of_block (w := W0) (hkW.block gb HGB.out.1 (.inl rfl))).trans HCS.out.1
        have e2 : W1.cell? ⟨rb, 0, none⟩ = some (.slice ro rows.length rc) := (World.cell?_of_block (w := W0) (hkW.block rb HGB.out.2.1 (.inr (.inl rfl)))).trans HCS.out.2.1
        have e3 : W1.cell? ⟨D0, 0, none⟩ = some (.func (.yield l) #[] #[]) := (World.cell?_of_block (w := W0) (hkW.block D0 HGB.out.2.2.1 (.inr (.inr (.inl rfl))))).trans HCS.out.2.2
        have hkT : Kpt T w0 W1 := HKT.out W1 (hkW.mono (fun i _ h => .inr (.inr (.inr h))))
        obtain ⟨vo, vc, hvf⟩ := owns_form hown
        subst hvf
        obtain ⟨lr, hlp⟩ := hlp
        have HOF : Hid (∀ a, vo = some a → ¬ (S a.block ∨ a.block = gb ∨ a.block = rb ∨ a.block = D0 ∨ a.block ∈ rs) ∧ isC W1 a.block) := fun a ha => by
          obtain ⟨h1, h2, h3⟩ := own_off hown hdf rfl a ha
          obtain ⟨_, h4, _⟩ := own_off hown hlp rfl a ha
          refine ⟨fun hx => ?_, h3⟩
          have hg := HGB.out
          have hz := HWK.out.kp.size
          rcases hx with hx | hx | hx | hx | hx
          · rcases (hS1 _).1 hx with hx | hx | hx
            · have := hB0 _ hx; omega
            · exact h2 hx
            · exact h4 hx
          · omega
          · omega
          · omega
          · have := (Array.getElem?_eq_some_iff.1 (HWK.out.mark _ hx)).1; omega
        have HSB : Hid (∀ b, (S b ∨ b = gb ∨ b = rb ∨ b = D0 ∨ b ∈ rs) → b < W1.heap.size) := fun b hx => by
          have hg := HGB.out
          have hz := HWK.out.kp.size
          have hz2 := hi.sz
          rcases hx with hx | hx | hx | hx | hx
          · rcases (hS1 _).1 hx with hx | hx | hx
            · have := hB0 _ hx; omega
            · omega
            · omega
          · omega
          · omega
          · omega
          · have := (Array.getElem?_eq_some_iff.1 (HWK.out.mark _ hx)).1; omega
        have HCL : Hid (Sl 0 3 W1 (.slice vo c.length vc) (ints c)) := Sl.own hown
        have HWV : Hid (Calls Tryz.prog 77 #[.slice ro rows.length rc, .slice vo c.length vc, .slice go g.length gc] W1 fun e w' => ∃ tv, e = .returned (.tuple #[tv, .bool (wayB g (pks rows [] c))]) ∧ WayV W1.heap.size w' tv (.slice vo c.length vc) c g (pks rows [] c) ∧ Below W1.heap.size W1 w') :=
          wayBy5_any B rows c g _ _ _ W1 (HRW.out W1 hkT) (Sl.own hown) (HGO.out W1 hkT) (fun t ht => by have := hr2 t (by omega); exact ⟨by omega, this.2⟩) HR.out HG.out hg1 (by omega) (HF.out.mono (by have := Hrows.length.out; omega))
        have HI : Hid (WyI rows g T gb rb D0 WN J rs wr.heap.size S (waysTo rows g k ++ pre.filter (fun c => wayB g (pks rows [] c))) W1) := hi
        have HPRE : Hid ((pre ++ [c]) <+: ext rows.length k 0) := hpre
        have HLT : Hid (D0 < W1.heap.size) := lt_cell0 e3
        have HR1 : Hid (c.length = k) := hr1
        have HSN : Hid (WN.heap.size = wr.heap.size + 2) := hsN
        clear hi hpre hown hB0 hN0 hBW hS1 hcm hr2 hkW hkT hdf hlp hvs hvs' hr1 hsN
        cases hwb : wayB g (pks rows [] c) with
        | false =>
          have HFI : Hid ((pre ++ [c]).filter (fun c => wayB g (pks rows [] c)) = pre.filter (fun c => wayB g (pks rows [] c))) := by
            show _ = _
            rw [List.filter_append]; simp [hwb]
          have HWF : Hid (Calls Tryz.prog 77 #[.slice ro rows.length rc, .slice vo c.length vc, .slice go g.length gc] W1 fun e w' => e = .returned (.tuple #[.agg #[.slice none 0 0, .slice none 0 0, .int .i64 0], .bool false]) ∧ Below W1.heap.size W1 w') := by
            refine HWV.out.mono ?_
            rintro e w' ⟨tv, rfl, h1 | h1, h2⟩
            · rw [hwb] at h1; exact absurd h1.1 (by simp)
            · rw [hwb, h1.2]; exact ⟨rfl, h2⟩
          clear hwb HWV
          gi_wp2_with (refine ⟨trivial, rfl, ?_⟩; gi_at_call 77; refine (CallsIn.inRound _ (callsIn_wide.2 HWF.out)).mono ?_; rintro e w6 ⟨rfl, hb6⟩)
          have HBL : Hid (Below W1.heap.size W1 (w6.alloc (.cells #[.slice none 0 0, .slice none 0 0, .int .i64 0] 55))) := hb6.alloc hb6.size _
          clear hb6
          refine ⟨fun _ h => (by cases h), ?_⟩
          gi_wp2
          refine ⟨Kpt.of_below HBL.out (Nat.le_refl _), ?_⟩
          have hfin := HI.out.stab HST.out (Chg.of_below HBL.out (Nat.le_refl _)) (S' := S) (fun b hb => .inl hb)
          rw [← HFI.out] at hfin
          exact hfin
        | true =>
          obtain ⟨q, hq⟩ : ∃ q, q = waysTo rows g k ++ pre.filter (fun c => wayB g (pks rows [] c)) := ⟨_, rfl⟩
          have HFI : Hid (waysTo rows g k ++ (pre ++ [c]).filter (fun c => wayB g (pks rows [] c)) = q ++ [c]) := by
            show _ = _
            rw [List.filter_append, hq]; simp [hwb]
          have HQP : Hid ((q ++ [c]) <+: waysL rows g) := by
            rw [← HFI.out]
            refine List.IsPrefix.trans ?_ ((waysTo_pre rows g (show k + 1 ≤ rows.length + 1 by omega)).trans (by unfold waysL; rw [← Hrows.length.out]; exact List.prefix_refl _))
            rw [waysTo_succ]
            obtain ⟨t, ht⟩ := filter_pre (p := fun c => wayB g (pks rows [] c)) HPRE.out
            exact ⟨t, by rw [List.append_assoc, ht]⟩
          rw [← hq] at HI
          obtain ⟨un, hun⟩ : ∃ un, un = (wayN g (pks rows [] c)).getD c.length 0 := ⟨_, rfl⟩
          have HWT : Hid (Calls Tryz.prog 77 #[.slice ro rows.length rc, .slice vo c.length vc, .slice go g.length gc] W1 fun e w' => ∃ mo mc, e = .returned (.tuple #[.agg #[.slice vo c.length vc, .slice mo c.length mc, .int .i64 un], .bool true]) ∧ Sl 0 3 w' (.slice mo c.length mc) (ints ((wayN g (pks rows [] c)).take c.length)) ∧ (∀ a, mo = some a → W1.heap.size ≤ a.block ∧ isC w' a.block) ∧ Below W1.heap.size W1 w') := by
            refine HWV.out.mono ?_
            rintro e w' ⟨tv, rfl, h1 | h1, h2⟩
            · obtain ⟨_, mo, mc, rfl, h3, h4⟩ := h1
              rw [hwb, ← hun]; exact ⟨mo, mc, rfl, h3, h4, h2⟩
            · rw [hwb] at h1; exact absurd h1.1 (by simp)
          have HYY : Hid (∀ mo mc w6, Sl 0 3 w6 (.slice mo c.length mc) (ints ((wayN g (pks rows [] c)).take c.length)) → (∀ a, mo = some a → W1.heap.size ≤ a.block ∧ isC w6 a.block) → Below W1.heap.size W1 w6 →
              (w6.alloc (.cells #[.slice vo c.length vc, .slice mo c.length mc, .int .i64 un] 55)).cell? ⟨D0, 0, none⟩ = some (.func (.yield l) #[] #[]) ∧
              YieldAt Fence.wide 0 Tryz.prog l #[.agg #[.slice vo c.length vc, .slice mo c.length mc, .int .i64 un]] (w6.alloc (.cells #[.slice vo c.length vc, .slice mo c.length mc, .int .i64 un] 55)) fun e W' =>
                (e = .returned (.bool true) ∧ Kpt (fun b => S b ∨ False) W1 W' ∧ WyI rows g T gb rb D0 WN J rs wr.heap.size S (waysTo rows g k ++ (pre ++ [c]).filter (fun c => wayB g (pks rows [] c))) W') ∨
                (e = .returned (.bool false) ∧ Kpt (fun b => S b ∨ False) W1 W' ∧ ∃ q, q <+: waysL rows g ∧ WyI rows g T gb rb D0 WN Jx rs wr.heap.size S q W')) := fun mo mc w6 h1 h2 h3 => by
            obtain ⟨W7, hW7⟩ : ∃ W7, W7 = w6.alloc (.cells #[.slice vo c.length vc, .slice mo c.length mc, .int .i64 un] 55) := ⟨_, rfl⟩
            have hb7 : Below W1.heap.size W1 W7 := by rw [hW7]; exact h3.alloc h3.size _
            have h67 : Below w6.heap.size w6 W7 := by rw [hW7]; exact alloc_keep _ _
            rw [← hW7]
            refine ⟨(hb7.cell (p := ⟨D0, 0, none⟩) HLT.out).trans e3, ?_⟩
            have hJ7 := HST.out _ (fun b => S b ∨ b = gb ∨ b = rb ∨ b = D0 ∨ b ∈ rs) _ W1 W7 HI.out.j (Chg.of_below hb7 (Nat.le_refl _)) (fun b hb => .inl hb)
            refine YieldAt.mono (HY.out 0 _ q c _ W7 hJ7 HQP.out ⟨vo, vc, mo, mc, by rw [← hun], hwb, HCL.out.below hb7 (Nat.le_refl _), h1.below h67 (Nat.le_refl _), fun a ha => ⟨(HOF.out a ha).1, (HOF.out a ha).2.keep (hb7.block _ (HOF.out a ha).2.lt)⟩, fun a ha => ⟨fun hx => ?_, (h2 a ha).2.keep (h67.block _ (h2 a ha).2.lt)⟩, fun b hb => Nat.lt_of_lt_of_le (HSB.out b hb) hb7.size⟩) ?_
            · have := (h2 a ha).1
              have := HSB.out _ hx
              omega
            · rintro e W' ⟨hk, hp⟩
              have k1 : Kpt (fun b => S b ∨ False) W1 W' := (Kpt.of_below hb7 (Nat.le_refl _)).trans (hk.mono (fun i _ h => .inl (.inl (h.elim id False.elim))))
              have k2 : Kpt (fun b => b < wr.heap.size ∧ (b = gb ∨ b = rb ∨ b = D0 ∨ T b ∨ b ∈ rs)) WN W' := HI.out.kp.trans ((Kpt.of_below hb7 (Nat.le_refl _)).trans (hk.mono (fun i _ h => by
                rcases h.2 with h | h | h | h | h
                · exact .inl (.inr (.inl h))
                · exact .inl (.inr (.inr (.inl h)))
                · exact .inl (.inr (.inr (.inr (.inl h))))
                · exact .inr h
                · exact .inl (.inr (.inr (.inr (.inr h)))))))
              have k3 : wr.heap.size ≤ W'.heap.size := Nat.le_trans HI.out.sz k1.size
              rcases hp with ⟨rfl, hj⟩ | ⟨rfl, hj⟩
              · exact .inl ⟨rfl, k1, HI.out.sn, k2, by rw [HFI.out]; exact hj, k3⟩
              · exact .inr ⟨rfl, k1, _, HQP.out, HI.out.sn, k2, hj, k3⟩
          clear hwb HWV hq hun e3
          gi_wp2_with (first | (refine ⟨trivial, rfl, ?_⟩; gi_at_call 77; refine (CallsIn.inRound _ (callsIn_wide.2 HWT.out)).mono ?_; rintro e w6 ⟨mo, mc, rfl, h1, h2, h3⟩; obtain ⟨e3, fn, tmps, assign, body, hy, hR⟩ := HYY.out mo mc w6 h1 h2 h3; clear h1 h2 h3) | (refine ⟨rfl, ?_⟩; refine hR.mono ?_; clear hR hy; rintro e W' (⟨rfl, hk, hj⟩ | ⟨rfl, hk, hj⟩)))
          all_goals first | exact ⟨hk, hj⟩ | exact ⟨hk, rfl, hj⟩
      case done =>
        rintro S W' hi hSD hdf
        have HI : Hid (WyI rows g T gb rb D0 WN J rs wr.heap.size S (waysTo rows g k ++ (ext rows.length k 0).filter (fun c => wayB g (pks rows [] c))) W') := hi
        have HNX : Hid (WyK rows g T gb rb D0 W0 J (k + 1) (WN.heap.size :: rs) W') := by
          refine ⟨List.nodup_cons.2 ⟨fun h => ?_, HWK.out.nd⟩, fun r hr => ?_, HKN.out W' hi.kp, ?_⟩
          · have := (Array.getElem?_eq_some_iff.1 (HWK.out.mark _ h)).1; omega
          · rcases List.mem_cons.1 hr with rfl | hr
            · exact hdf
            · have h1 := (Array.getElem?_eq_some_iff.1 (HWK.out.mark _ hr)).1
              exact (hi.kp.block r (by omega) ⟨h1, .inr (.inr (.inr (.inr hr)))⟩).trans ((HBN.out.block r h1).trans (HWK.out.mark r hr))
          · rw [waysTo_succ]
            refine HST.out _ _ _ W' W' hi.j (Chg.refl _ _) (fun b hb => .inl ?_)
            rcases hb with h | h | h | h
            · exact .inr (.inl h)
            · exact .inr (.inr (.inl h))
            · exact .inr (.inr (.inr (.inl h)))
            · rcases List.mem_cons.1 h with rfl | h
              · exact .inl hSD
              · exact .inr (.inr (.inr (.inr h)))
        clear hi
        gi_wp2
        refine ⟨⟨k + 1, WN.heap.size :: rs, .int .i64 k, .bool true, .int .i64 k, .slice ro rows.length rc, .int .i64 rows.length, .int .i64 k, .func (.func 71) #[] #[.pointer (some ⟨wr.heap.size + 1, 0, none⟩), .pointer (some ⟨wr.heap.size, 0, none⟩)], .int .i64 ((k : Int) + 1), by omega, HNX.out, ?_⟩, ?_⟩
        · rw [show ((k + 1 : Nat) : Int) = (k : Int) + 1 by omega]
          rfl
        · simp [intOf]; omega
      case stop =>
        rintro c S pre W' hpre ⟨rfl, q, hq, hi⟩ hSD hdf
        gi_wp2
        refine leaves_mks (WN.heap.size :: rs) W' (List.nodup_cons.2 ⟨fun h => ?_, HWK.out.nd⟩) (fun r hr => ?_) (fun w' hc => ⟨_, results_none rfl _ _ _, ⟨_, rfl⟩, .inr ⟨(fun b => S b ∨ b = gb ∨ b = rb ∨ b = D0 ∨ b ∈ rs), q, hq, ?_⟩⟩)
        · have := (Array.getElem?_eq_some_iff.1 (HWK.out.mark _ h)).1; omega
        · rcases List.mem_cons.1 hr with rfl | hr
          · exact hdf
          · have h1 := (Array.getElem?_eq_some_iff.1 (HWK.out.mark _ hr)).1
            exact (hi.kp.block r (by omega) ⟨h1, .inr (.inr (.inr (.inr hr)))⟩).trans ((HBN.out.block r h1).trans (HWK.out.mark r hr))
        · refine HSX.out _ _ _ W' w' hi.j (hc.mono (fun i _ h => ?_)) (fun b hb => .inl hb)
          rcases List.mem_cons.1 h with rfl | h
          · exact .inl hSD
          · exact .inr (.inr (.inr (.inr h)))
    · have hke : k = rows.length + 1 := by omega
      subst hke
      have hkI : decide ((((rows.length + 1 : Nat) : Int)) < (rows.length : Int) + 1) = false := by simp
      gi_wp2
      have HE : Hid (waysTo rows g (rows.length + 1) = waysL rows g) := by show _ = _; unfold waysL; rw [← Hrows.length.out]
      refine leaves_mks rs wr HWK.out.nd HWK.out.mark (fun w' hc => ⟨_, results_none rfl _ _ _, ⟨_, rfl⟩, .inl ⟨(fun b => b = gb ∨ b = rb ∨ b = D0 ∨ b ∈ rs), ?_⟩⟩)
      rw [← HE.out]
      exact HST.out _ _ _ wr w' HWK.out.j (hc.mono (fun i _ hi => .inr (.inr (.inr hi)))) (fun b hb => .inl hb)


theorem ways_seq (B gb rb : Nat) (rows : List (List Int)) (g : List Int) (ro go : Option Addr) (rc gc : Nat) (T : Nat → Prop) (w0 : World)
    (hcg : w0.cell? ⟨gb, 0, none⟩ = some (.slice go g.length gc)) (hcr : w0.cell? ⟨rb, 0, none⟩ = some (.slice ro rows.length rc))
    (hrows : ∀ W, Kpt T w0 W → Mat B 38 3 W (.slice ro rows.length rc) rows) (hgoal : ∀ W, Kpt T w0 W → Sl B 3 W (.slice go g.length gc) (ints g)) (hT : ∀ b, T b → b < w0.heap.size)
    (hr : ∀ r ∈ rows, g.length ≤ r.length ∧ ∀ z ∈ r, z.natAbs ≤ 60) (hg : ∀ z ∈ g, z.natAbs ≤ 60) (hg1 : 1 ≤ g.length) (hg4 : g.length ≤ 4) (hrl : rows.length ≤ 1000) :
    SeqS Tryz.prog 76 #[.pointer (some ⟨gb, 0, none⟩), .pointer (some ⟨rb, 0, none⟩)] (HandW rows g) (waysL rows g) T (fun b => b = gb ∨ b = rb) w0 :=
  ways_seq5 B gb rb rows g ro go rc gc T w0 hcg hcr hrows hgoal hT hr hg hg1 (.inl hg4) hrl

end Go.Proofs.YtknomkajibfmlaaGreat
