import Derived.Test.YtmljnfgfjcjmmaaAcA
import Derived.Test.YtmljnfgfjcjmmaaOfAll
import Derived.Test.YtmljnfgfjcjmmaaWyA
/- cone.Ways: all ways, one after another. -/
namespace Go.Proofs.Ytmljnfgfjcjmmaa
open Go.RowKit Go.Shelf
attribute [local go_sem] Oper.semAt_some

def waysTo (rows : List (List Int)) (g : List Int) (k : Nat) : List (List Int) :=
  (List.range k).flatMap fun m => (ext rows.length m 0).filter fun c => wayB g (pks rows [] c)

/-- The numbers of rows by which there is a way, in order. -/
def waysL (rows : List (List Int)) (g : List Int) : List (List Int) := waysTo rows g (min g.length rows.length + 1)

theorem waysTo_succ (rows : List (List Int)) (g : List Int) (k : Nat) : waysTo rows g (k + 1) = waysTo rows g k ++ (ext rows.length k 0).filter fun c => wayB g (pks rows [] c) := by
  simp [waysTo, List.range_succ]

theorem waysTo_pre (rows : List (List Int)) (g : List Int) {k m : Nat} (h : k ≤ m) : waysTo rows g k <+: waysTo rows g m := by
  induction m with
  | zero => have : k = 0 := by omega
            subst this; exact List.prefix_refl _
  | succ m ih =>
    by_cases e : k = m + 1
    · subst e; exact List.prefix_refl _
    · exact (ih (by omega)).trans (by rw [waysTo_succ]; exact List.prefix_append _ _)

theorem filter_pre {α : Type} {p : α → Bool} {a b : List α} (h : a <+: b) : a.filter p <+: b.filter p := by
  obtain ⟨t, rfl⟩ := h
  rw [List.filter_append]
  exact List.prefix_append _ _

/-- A way, handed over. -/
def HandW (rows : List (List Int)) (g : List Int) (W : World) (S : Nat → Prop) (c : List Int) (vs : Array Value) : Prop :=
  ∃ co cc mo mc, vs = #[.agg #[.slice co c.length cc, .slice mo c.length mc, .int .i64 ((wayN g (pks rows [] c)).getD c.length 0)]] ∧ wayB g (pks rows [] c) = true ∧ Sl 0 3 W (.slice co c.length cc) (ints c) ∧ Sl 0 3 W (.slice mo c.length mc) (ints ((wayN g (pks rows [] c)).take c.length)) ∧
    (∀ a, co = some a → ¬ S a.block ∧ isC W a.block) ∧ (∀ a, mo = some a → ¬ S a.block ∧ isC W a.block) ∧ ∀ b, S b → b < W.heap.size

/-- What holds when the choices of fewer than k have been gone through. -/
structure WyK (rows : List (List Int)) (g : List Int) (T : Nat → Prop) (gb rb D0 : Nat) (W0 : World) (J : (Nat → Prop) → List (List Int) → World → Prop) (k : Nat) (rs : List Nat) (wr : World) : Prop where
  nd : rs.Nodup
  mark : ∀ r ∈ rs, wr.heap[r]? = some (.deferred (some []))
  kp : Kpt (fun b => b = gb ∨ b = rb ∨ b = D0 ∨ T b) W0 wr
  j : J (fun b => b = gb ∨ b = rb ∨ b = D0 ∨ b ∈ rs) (waysTo rows g k) wr

/-- .. and, of those of k, some (in world WN the walk over them began). -/
structure WyI (rows : List (List Int)) (g : List Int) (T : Nat → Prop) (gb rb D0 : Nat) (WN : World) (J : (Nat → Prop) → List (List Int) → World → Prop) (rs : List Nat) (N : Nat) (S : Nat → Prop) (q : List (List Int)) (W : World) : Prop where
  sn : ∀ b, S b → N ≤ b
  kp : Kpt (fun b => b < N ∧ (b = gb ∨ b = rb ∨ b = D0 ∨ T b ∨ b ∈ rs)) WN W
  j : J (fun b => S b ∨ b = gb ∨ b = rb ∨ b = D0 ∨ b ∈ rs) q W
  sz : N ≤ W.heap.size

theorem WyI.stab {rows : List (List Int)} {g : List Int} {T : Nat → Prop} {gb rb D0 : Nat} {WN : World} {J : (Nat → Prop) → List (List Int) → World → Prop} {rs : List Nat} {N : Nat} {S S' : Nat → Prop} {q : List (List Int)} {W W' : World} (hst : Stab J)
    (h : WyI rows g T gb rb D0 WN J rs N S q W) (hc : Chg S W W') (hs : ∀ b, S' b → S b ∨ W.heap.size ≤ b) : WyI rows g T gb rb D0 WN J rs N S' q W' := by
  have h0 := h.sz
  refine ⟨fun b hb => ?_, h.kp.trans (Kpt.of_chg hc fun i _ hi hsi => ?_), hst _ _ q W W' h.j (hc.mono fun i _ hi => .inl hi) (fun b hb => ?_), Nat.le_trans h0 hc.size⟩
  · rcases hs b hb with h1 | h1
    · exact h.sn b h1
    · omega
  · have := h.sn i hsi
    have := hi.1
    omega
  · rcases hb with hb | hb
    · rcases hs b hb with h1 | h1
      · exact .inl (.inl h1)
      · exact .inr h1
    · exact .inl (.inr hb)

theorem hand_below (N0 : Nat) (W : World) (S : Nat → Prop) (x : List Int) (vs : Array Value) (W' : World) (h : Hand N0 W S x vs) (hb : Below W.heap.size W W') : Hand N0 W' S x vs := by
  obtain ⟨v, B0, h1, h2, h3, h4, h5⟩ := h
  exact ⟨v, B0, h1, owns_below h2 hb (Nat.le_refl _), h3, h4, Nat.le_trans h5 hb.size⟩

theorem hand_put (N0 : Nat) (W : World) (S : Nat → Prop) (x : List Int) (vs : Array Value) (l : Nat) (r : Loop) (o : Obj) (h : Hand N0 W S x vs) (hl : W.heap[l]? = some (.loop r)) : Hand N0 (W.putObj l o) S x vs := by
  obtain ⟨v, B0, h1, h2, h3, h4, h5⟩ := h
  exact ⟨v, B0, h1, ownsRow_putObj h2 _ hl rfl, h3, h4, by simpa using h5⟩

/-- A row of one's own does not lie where there are no cells. -/
theorem own_off {W : World} {B0 n : Nat} {vo : Option Addr} {vc b : Nat} {xs : List Value} {o : Obj} (h : W.ownsRow B0 3 1 (.slice vo n vc) n xs) (hb : W.heap[b]? = some o) (ho : o.isCells = false) : ∀ a, vo = some a → B0 ≤ a.block ∧ a.block ≠ b ∧ isC W a.block := by
  intro a ha
  rcases h.2 with ⟨h1, _⟩ | ⟨g', cap', cur', h1, h2, h3, _⟩
  · simp only [Value.slice.injEq] at h1; rw [h1.1] at ha; cases ha
  · simp only [Value.slice.injEq] at h1
    rw [h1.1] at ha
    cases ha
    refine ⟨h2, fun e => ?_, _, _, h3⟩
    rw [← e, h3] at hb
    cases hb
    simp [Obj.isCells] at ho

set_option maxRecDepth 100000 in
set_option maxHeartbeats 8000000 in
theorem ways_seq (B gb rb : Nat) (rows : List (List Int)) (g : List Int) (ro go : Option Addr) (rc gc : Nat) (T : Nat → Prop) (w0 : World)
    (hcg : w0.cell? ⟨gb, 0, none⟩ = some (.slice go g.length gc)) (hcr : w0.cell? ⟨rb, 0, none⟩ = some (.slice ro rows.length rc))
    (hrows : ∀ W, Kpt T w0 W → Mat B 22 3 W (.slice ro rows.length rc) rows) (hgoal : ∀ W, Kpt T w0 W → Sl B 3 W (.slice go g.length gc) (ints g)) (hT : ∀ b, T b → b < w0.heap.size)
    (hr : ∀ r ∈ rows, g.length ≤ r.length ∧ ∀ z ∈ r, z.natAbs ≤ 60) (hg : ∀ z ∈ g, z.natAbs ≤ 60) (hg1 : 1 ≤ g.length) (hg4 : g.length ≤ 4) (hrl : rows.length ≤ 1000) :
    SeqS Try.prog 90 #[.pointer (some ⟨gb, 0, none⟩), .pointer (some ⟨rb, 0, none⟩)] (HandW rows g) (waysL rows g) T (fun b => b = gb ∨ b = rb) w0 := by
  intro l J Jx W hW hst hstx hY hJ
  have hgl := lt_cell0 hcg
  have hrl0 := lt_cell0 hcr
  have c1 : W.cell? ⟨gb, 0, none⟩ = some (.slice go g.length gc) := (hW.cell (p := ⟨gb, 0, none⟩) hgl).trans hcg
  have c2 : W.cell? ⟨rb, 0, none⟩ = some (.slice ro rows.length rc) := (hW.cell (p := ⟨rb, 0, none⟩) hrl0).trans hcr
  obtain ⟨W0, hW0⟩ : ∃ W0, W0 = W.alloc (.cells #[.func (.yield l) #[] #[]] 134) := ⟨_, rfl⟩
  have hb0 : Below W.heap.size W W0 := by rw [hW0]; exact alloc_keep _ _
  have hs0 : W0.heap.size = W.heap.size + 1 := by rw [hW0]; exact size_alloc _ _
  have c1a : W0.cell? ⟨gb, 0, none⟩ = some (.slice go g.length gc) := (hb0.cell (p := ⟨gb, 0, none⟩) (lt_cell0 c1)).trans c1
  have c2a : W0.cell? ⟨rb, 0, none⟩ = some (.slice ro rows.length rc) := (hb0.cell (p := ⟨rb, 0, none⟩) (lt_cell0 c2)).trans c2
  have c3a : W0.cell? ⟨W.heap.size, 0, none⟩ = some (.func (.yield l) #[] #[]) := by rw [hW0]; exact cell_of (alloc_new _ _)
  have hwsz := hW.size
  obtain ⟨D0, hD0⟩ : ∃ D0, D0 = W.heap.size := ⟨_, rfl⟩
  have HGB : Hid (gb < W0.heap.size ∧ rb < W0.heap.size ∧ D0 < W0.heap.size ∧ ∀ b, T b → b < W0.heap.size) := ⟨by omega, by omega, by omega, fun b hb => by have := hT b hb; omega⟩
  have HKT : Hid (∀ W', Kpt T W0 W' → Kpt T w0 W') := fun W' hk => ⟨by have := hk.size; omega, fun b hb ht => (hk.block b (by omega) ht).trans ((hb0.block b (by omega)).trans (hW.block b hb))⟩
  have HK0 : Hid (WyK rows g T gb rb D0 W0 J 0 [] W0) := by
    refine ⟨List.nodup_nil, fun r hr => absurd hr (by simp), Kpt.refl _ _, hst _ _ [] W W0 hJ (Chg.of_below hb0 (Nat.le_refl _)) (fun b hb => ?_)⟩
    rcases hb with h | h | h | h
    · exact .inl (.inl h)
    · exact .inl (.inr h)
    · exact .inr (by omega)
    · exact absurd h (by simp)
  have HCS : Hid (W0.cell? ⟨gb, 0, none⟩ = some (.slice go g.length gc) ∧ W0.cell? ⟨rb, 0, none⟩ = some (.slice ro rows.length rc) ∧ W0.cell? ⟨D0, 0, none⟩ = some (.func (.yield l) #[] #[])) := ⟨c1a, c2a, by rw [hD0]; exact c3a⟩
  have HST : Hid (Stab J) := hst
  have HSX : Hid (Stab Jx) := hstx
  have HY : Hid (∀ m S pre x vs W1, J S pre W1 → (pre ++ [x]) <+: waysL rows g → HandW rows g W1 S x vs → YieldAt Fence.wide m Try.prog l vs W1 fun e W' => Kpt (fun b => S b ∨ T b) W1 W' ∧
      ((e = .returned (.bool true) ∧ J S (pre ++ [x]) W') ∨ (e = .returned (.bool false) ∧ Jx S (pre ++ [x]) W'))) := hY
  have HRW : Hid (∀ W, Kpt T w0 W → Mat B 22 3 W (.slice ro rows.length rc) rows) := hrows
  have HGO : Hid (∀ W, Kpt T w0 W → Sl B 3 W (.slice go g.length gc) (ints g)) := hgoal
  have HR : Hid (∀ r ∈ rows, g.length ≤ r.length ∧ ∀ z ∈ r, z.natAbs ≤ 60) := hr
  have HG : Hid (∀ z ∈ g, z.natAbs ≤ 60) := hg
  have HW0 : Hid (W0 = W.alloc (.cells #[.func (.yield l) #[] #[]] 134)) := hW0
  have HD0 : Hid (D0 = W.heap.size) := hD0
  rw [hW0] at c1a c2a c3a
  clear hst hstx hY hJ hrows hgoal hr hg hW0 hb0 hs0 hW hcg hcr hgl hrl0 hT c3a hwsz hD0 c1 c2
  refine callsIn_of_wp_marks Try.func90 rfl trivial ?_ rfl
  simp only [Try.ntmps90, List.size_toArray, List.length_cons, List.length_nil, Nat.reduceAdd, Nat.reduceSub, Array.replicate_succ, Array.replicate_zero, List.push_toArray, List.append_toArray, List.nil_append, List.cons_append]
  gi_wp2
  case inr =>
    have Hg.length : Hid (g.length = min g.length rows.length) := by show _ = _; omega
    have hg.length4 : g.length ≤ 4 := by omega
    clear c1a c2a
    rw [← HW0.out, ← HD0.out]
    refine wpIn_loop (fun a' wr => ∃ (k : Nat) (rs : List Nat) (u4 u15 u16 u17 u18 u19 u20 u36 : Value), k ≤ g.length + 1 ∧ WyK rows g T gb rb D0 W0 J k rs wr ∧
      a' = { tmps := #[.func (.yield l) #[] #[], .pointer (some ⟨gb, 0, none⟩), .pointer (some ⟨rb, 0, none⟩), .pointer (some ⟨D0, 0, none⟩), u4, undef, undef, undef, .slice go g.length gc, .int .i64 g.length, .slice ro rows.length rc, .int .i64 rows.length, .int .i64 g.length, .int .i64 ((g.length : Int) + 1), .int .i64 k, u15, u16, u17, u18, u19, u20, undef, undef, undef, undef, undef, undef, undef, undef, undef, undef, undef, undef, undef, undef, undef, u36], defers := mks rs }) (fun a' _ => g.length + 1 - (intOf (a'.tmps.getD 14 undef)).toNat) ?_ ?_
    · exact ⟨0, [], _, _, _, _, _, _, _, _, Nat.zero_le _, HK0.out, rfl⟩
    rintro _ wr ⟨k, rs, u4, u15, u16, u17, u18, u19, u20, u36, hk, hwk, rfl⟩
    have HWK : Hid (WyK rows g T gb rb D0 W0 J k rs wr) := hwk
    have d1 : wr.cell? ⟨gb, 0, none⟩ = some (.slice go g.length gc) := (World.cell?_of_block (w := W0) (hwk.kp.block gb HGB.out.1 (.inl rfl))).trans HCS.out.1
    have d2 : wr.cell? ⟨rb, 0, none⟩ = some (.slice ro rows.length rc) := (World.cell?_of_block (w := W0) (hwk.kp.block rb HGB.out.2.1 (.inr (.inl rfl)))).trans HCS.out.2.1
    clear hwk
    by_cases hlt : k < g.length + 1
    · have hkI : (k : Int) < (g.length : Int) + 1 := by omega
      gi_wp2_with (refine ⟨trivial, rfl, ?_⟩; gi_at_call 23; refine (callsIn_wide.2 (of_any _ _ _)).mono ?_; rintro e w' ⟨rfl, rfl⟩)
      obtain ⟨WN, hWN⟩ : ∃ WN, WN = (wr.alloc (.cells #[.int .i64 rows.length] 3)).alloc (.cells #[.int .i64 k] 3) := ⟨_, rfl⟩
      rw [← hWN]
      have hbN : Below wr.heap.size wr WN := by rw [hWN]; exact ((Below.refl _ _).alloc (Nat.le_refl _) _).alloc (by simp) _
      have hsN : WN.heap.size = wr.heap.size + 2 := by rw [hWN]; simp
      have hcn : WN.cell? ⟨wr.heap.size, 0, none⟩ = some (.int .i64 rows.length) := by
        rw [hWN]; exact ((alloc_keep (wr.alloc (.cells #[.int .i64 rows.length] 3)) _).cell (p := ⟨wr.heap.size, 0, none⟩) (by simp)).trans (cell_of (alloc_new wr _))
      have hcm : WN.cell? ⟨wr.heap.size + 1, 0, none⟩ = some (.int .i64 k) := by
        rw [hWN]; have := cell_of (alloc_new (wr.alloc (.cells #[.int .i64 rows.length] 3)) (.cells #[.int .i64 k] 3)); rwa [size_alloc] at this
      clear hWN
      have HI0 : Hid (WyI rows g T gb rb D0 WN J rs wr.heap.size (fun b => b = wr.heap.size + 1 ∨ b = wr.heap.size) (waysTo rows g k ++ ([] : List (List Int)).filter (fun c => wayB g (pks rows [] c))) WN) := by
        refine ⟨fun b hb => by omega, Kpt.refl _ _, ?_, by omega⟩
        rw [List.filter_nil, List.append_nil]
        exact HST.out _ _ _ wr WN HWK.out.j (Chg.of_below hbN (Nat.le_refl _)) (fun b hb => hb.elim (fun h => .inr (by omega)) .inl)
      have HKN : Hid (∀ W', Kpt (fun b => b < wr.heap.size ∧ (b = gb ∨ b = rb ∨ b = D0 ∨ T b ∨ b ∈ rs)) WN W' → Kpt (fun b => b = gb ∨ b = rb ∨ b = D0 ∨ T b) W0 W') := fun W' hk' => by
        have h1 := HWK.out.kp.size
        have h2 := HGB.out
        refine ⟨by have := hk'.size; omega, fun b hb hx => ?_⟩
        have hbw : b < wr.heap.size := by omega
        exact (hk'.block b (by omega) ⟨hbw, by rcases hx with h | h | h | h <;> simp [h]⟩).trans ((hbN.block b hbw).trans (HWK.out.kp.block b hb hx))
      have HSQ := of_seq rows.length k (wr.heap.size + 1) wr.heap.size WN (by omega) (by omega) hcm hcn
      have HBN : Hid (Below wr.heap.size wr WN) := hbN
      clear hbN hcn hcm d1 d2
      refine range_s (R := Hand WN.heap.size) (cs := ext rows.length k 0) (T := fun _ => False) (S0 := fun b => b = wr.heap.size + 1 ∨ b = wr.heap.size) (gf := 39) (lb := #[.pointer (some ⟨wr.heap.size + 1, 0, none⟩), .pointer (some ⟨wr.heap.size, 0, none⟩)]) rfl (enters_of Try.func39 (by kernel_rfl) rfl) HSQ (fun b hb => by omega)
        (fun W' S x vs ⟨v, B0, h1, _⟩ => by rw [h1]; rfl) (hand_below _) (hand_put _)
        (fun S pre W' => WyI rows g T gb rb D0 WN J rs wr.heap.size S (waysTo rows g k ++ pre.filter (fun c => wayB g (pks rows [] c))) W')
        (fun c S pre W' => c = .ret ∧ ∃ q, q <+: waysL rows g ∧ WyI rows g T gb rb D0 WN Jx rs wr.heap.size S q W')
        (fun S S' pre W' W'' h hc hs => h.stab HST.out hc hs) (fun c S S' pre W' W'' ⟨h1, q, h2, h3⟩ hc hs => ⟨h1, q, h2, h3.stab HSX.out hc hs⟩) HI0.out
        (fun vs a' W' => ∃ v, vs = #[v] ∧ a' = { tmps := #[.func (.yield l) #[] #[], .pointer (some ⟨gb, 0, none⟩), .pointer (some ⟨rb, 0, none⟩), .pointer (some ⟨D0, 0, none⟩), .int .i64 k, v, undef, undef, .slice go g.length gc, .int .i64 g.length, .slice ro rows.length rc, .int .i64 rows.length, .int .i64 g.length, .int .i64 ((g.length : Int) + 1), .int .i64 k, .bool true, .int .i64 k, .slice ro rows.length rc, .int .i64 rows.length, .int .i64 k, .func (.func 39) #[] #[.pointer (some ⟨wr.heap.size + 1, 0, none⟩), .pointer (some ⟨wr.heap.size, 0, none⟩)], v, undef, undef, undef, undef, undef, undef, undef, undef, undef, undef, undef, undef, undef, undef, u36], defers := [] })
        (fun vs a' W' l r o h _ => h) ?assign ?body (fun h => h) ?done ?stop
      case assign =>
        rintro S x vs W' K ⟨v, B0, rfl, h2, h3, h4⟩ hK
        gi_wp2
        exact hK _ _ (Below.refl _ _) ⟨v, rfl, rfl⟩
      case body =>
        rintro S pre c vs a' W1 hi hSD hSL hlt1 hdf hlp hpre ⟨S1, ⟨v, B0, hvs, hown, hB0, hN0, hBW⟩, hS1⟩ ⟨v', hvs', rfl⟩
        have hvv : v = v' := by rw [hvs] at hvs'; simpa using hvs'
        subst hvv
        have hcm : c ∈ ext rows.length k 0 := hpre.subset (by simp)
        obtain ⟨hr1, hr2, _⟩ := ext_rise hcm
        have hkW := HKN.out W1 hi.kp
        have e1 : W1.cell? ⟨gb, 0, none⟩ = some (.slice go g.length gc) := (World.cell?_of_block (w := W0) (hkW.block gb HGB.out.1 (.inl rfl))).trans HCS.out.1
        have e2 : W1.cell? ⟨rb, 0, none⟩ = some (.slice ro rows.length rc) := (World.cell?_of_block (w := W0) (hkW.block rb HGB.out.2.1 (.inr (.inl rfl)))).trans HCS.out.2.1
        have e3 : W1.cell? ⟨D0, 0, none⟩ = some (.func (.yield l) #[] #[]) := (World.cell?_of_block (w := W0) (hkW.block D0 HGB.out.2.2.1 (.inr (.inr (.inl rfl))))).trans HCS.out.2.2
        have hkT : Kpt T w0 W1 := HKT.out W1 (hkW.mono (fun i _ h => .inr (.inr (.inr h))))
        obtain ⟨vo, vc, hvf⟩ := owns_form hown
        subst hvf
        obtain ⟨lr, hlp⟩ := hlp
        have HOF : Hid (∀ a, vo = some a → ¬ (S a.block ∨ a.block = gb ∨ a.block = rb ∨ a.block = D0 ∨ a.block ∈ rs) ∧ isC W1 a.block) := fun a ha => by
          obtain ⟨h1, h2, h3⟩ := own_off hown hdf rfl a ha
          obtain ⟨_, h4, _⟩ := own_off hown hlp rfl a ha
          refine ⟨fun hx => ?_, h3⟩
          have hg := HGB.out
          have hz := HWK.out.kp.size
          rcases hx with hx | hx | hx | hx | hx
          · rcases (hS1 _).1 hx with hx | hx | hx
            · have := hB0 _ hx; omega
            · exact h2 hx
            · exact h4 hx
          · omega
          · omega
          · omega
          · have := (Array.getElem?_eq_some_iff.1 (HWK.out.mark _ hx)).1; omega
        have HSB : Hid (∀ b, (S b ∨ b = gb ∨ b = rb ∨ b = D0 ∨ b ∈ rs) → b < W1.heap.size) := fun b hx => by
          have hg := HGB.out
          have hz := HWK.out.kp.size
          have hz2 := hi.sz
          rcases hx with hx | hx | hx | hx | hx
          · rcases (hS1 _).1 hx with hx | hx | hx
            · have := hB0 _ hx; omega
            · omega
            · omega
          · omega
          · omega
          · omega
          · have := (Array.getElem?_eq_some_iff.1 (HWK.out.mark _ hx)).1; omega
        have HCL : Hid (Sl 0 3 W1 (.slice vo c.length vc) (ints c)) := Sl.own hown
        have HWV : Hid (Calls Try.prog 91 #[.slice ro rows.length rc, .slice vo c.length vc, .slice go g.length gc] W1 fun e w' => ∃ tv, e = .returned (.tuple #[tv, .bool (wayB g (pks rows [] c))]) ∧ WayV W1.heap.size w' tv (.slice vo c.length vc) c g (pks rows [] c) ∧ Below W1.heap.size W1 w') :=
          wayBy_any B rows c g _ _ _ W1 (HRW.out W1 hkT) (Sl.own hown) (HGO.out W1 hkT) (fun t ht => by have := hr2 t (by omega); exact ⟨by omega, this.2⟩) HR.out HG.out hg1 (by omega) (by omega)
        have HI : Hid (WyI rows g T gb rb D0 WN J rs wr.heap.size S (waysTo rows g k ++ pre.filter (fun c => wayB g (pks rows [] c))) W1) := hi
        have HPRE : Hid ((pre ++ [c]) <+: ext rows.length k 0) := hpre
        have HLT : Hid (D0 < W1.heap.size) := lt_cell0 e3
        have HR1 : Hid (c.length = k) := hr1
        have HSN : Hid (WN.heap.size = wr.heap.size + 2) := hsN
        clear hi hpre hown hB0 hN0 hBW hS1 hcm hr2 hkW hkT hdf hlp hvs hvs' hr1 hsN
        cases hwb : wayB g (pks rows [] c) with
        | false =>
          have HFI : Hid ((pre ++ [c]).filter (fun c => wayB g (pks rows [] c)) = pre.filter (fun c => wayB g (pks rows [] c))) := by
            show _ = _
            rw [List.filter_append]; simp [hwb]
          have HWF : Hid (Calls Try.prog 91 #[.slice ro rows.length rc, .slice vo c.length vc, .slice go g.length gc] W1 fun e w' => e = .returned (.tuple #[.agg #[.slice none 0 0, .slice none 0 0, .int .i64 0], .bool false]) ∧ Below W1.heap.size W1 w') := by
            refine HWV.out.mono ?_
            rintro e w' ⟨tv, rfl, h1 | h1, h2⟩
            · rw [hwb] at h1; exact absurd h1.1 (by simp)
            · rw [hwb, h1.2]; exact ⟨rfl, h2⟩
          clear hwb HWV
          gi_wp2_with (refine ⟨trivial, rfl, ?_⟩; gi_at_call 91; refine (CallsIn.inRound _ (callsIn_wide.2 HWF.out)).mono ?_; rintro e w6 ⟨rfl, hb6⟩)
          have HBL : Hid (Below W1.heap.size W1 (w6.alloc (.cells #[.slice none 0 0, .slice none 0 0, .int .i64 0] 117))) := hb6.alloc hb6.size _
          clear hb6
          refine ⟨fun _ h => (by cases h), ?_⟩
          gi_wp2
          refine ⟨Kpt.of_below HBL.out (Nat.le_refl _), ?_⟩
          have hfin := HI.out.stab HST.out (Chg.of_below HBL.out (Nat.le_refl _)) (S' := S) (fun b hb => .inl hb)
          rw [← HFI.out] at hfin
          exact hfin
        | true =>
          obtain ⟨q, hq⟩ : ∃ q, q = waysTo rows g k ++ pre.filter (fun c => wayB g (pks rows [] c)) := ⟨_, rfl⟩
          have HFI : Hid (waysTo rows g k ++ (pre ++ [c]).filter (fun c => wayB g (pks rows [] c)) = q ++ [c]) := by
            show _ = _
            rw [List.filter_append, hq]; simp [hwb]
          have HQP : Hid ((q ++ [c]) <+: waysL rows g) := by
            rw [← HFI.out]
            refine List.IsPrefix.trans ?_ ((waysTo_pre rows g (show k + 1 ≤ g.length + 1 by omega)).trans (by unfold waysL; rw [← Hg.length.out]; exact List.prefix_refl _))
            rw [waysTo_succ]
            obtain ⟨t, ht⟩ := filter_pre (p := fun c => wayB g (pks rows [] c)) HPRE.out
            exact ⟨t, by rw [List.append_assoc, ht]⟩
          rw [← hq] at HI
          obtain ⟨un, hun⟩ : ∃ un, un = (wayN g (pks rows [] c)).getD c.length 0 := ⟨_, rfl⟩
          have HWT : Hid (Calls Try.prog 91 #[.slice ro rows.length rc, .slice vo c.length vc, .slice go g.length gc] W1 fun e w' => ∃ mo mc, e = .returned (.tuple #[.agg #[.slice vo c.length vc, .slice mo c.length mc, .int .i64 un], .bool true]) ∧ Sl 0 3 w' (.slice mo c.length mc) (ints ((wayN g (pks rows [] c)).take c.length)) ∧ (∀ a, mo = some a → W1.heap.size ≤ a.block ∧ isC w' a.block) ∧ Below W1.heap.size W1 w') := by
            refine HWV.out.mono ?_
            rintro e w' ⟨tv, rfl, h1 | h1, h2⟩
            · obtain ⟨_, mo, mc, rfl, h3, h4⟩ := h1
              rw [hwb, ← hun]; exact ⟨mo, mc, rfl, h3, h4, h2⟩
            · rw [hwb] at h1; exact absurd h1.1 (by simp)
          have HYY : Hid (∀ mo mc w6, Sl 0 3 w6 (.slice mo c.length mc) (ints ((wayN g (pks rows [] c)).take c.length)) → (∀ a, mo = some a → W1.heap.size ≤ a.block ∧ isC w6 a.block) → Below W1.heap.size W1 w6 →
              (w6.alloc (.cells #[.slice vo c.length vc, .slice mo c.length mc, .int .i64 un] 117)).cell? ⟨D0, 0, none⟩ = some (.func (.yield l) #[] #[]) ∧
              YieldAt Fence.wide 0 Try.prog l #[.agg #[.slice vo c.length vc, .slice mo c.length mc, .int .i64 un]] (w6.alloc (.cells #[.slice vo c.length vc, .slice mo c.length mc, .int .i64 un] 117)) fun e W' =>
                (e = .returned (.bool true) ∧ Kpt (fun b => S b ∨ False) W1 W' ∧ WyI rows g T gb rb D0 WN J rs wr.heap.size S (waysTo rows g k ++ (pre ++ [c]).filter (fun c => wayB g (pks rows [] c))) W') ∨
                (e = .returned (.bool false) ∧ Kpt (fun b => S b ∨ False) W1 W' ∧ ∃ q, q <+: waysL rows g ∧ WyI rows g T gb rb D0 WN Jx rs wr.heap.size S q W')) := fun mo mc w6 h1 h2 h3 => by
            obtain ⟨W7, hW7⟩ : ∃ W7, W7 = w6.alloc (.cells #[.slice vo c.length vc, .slice mo c.length mc, .int .i64 un] 117) := ⟨_, rfl⟩
            have hb7 : Below W1.heap.size W1 W7 := by rw [hW7]; exact h3.alloc h3.size _
            have h67 : Below w6.heap.size w6 W7 := by rw [hW7]; exact alloc_keep _ _
            rw [← hW7]
            refine ⟨(hb7.cell (p := ⟨D0, 0, none⟩) HLT.out).trans e3, ?_⟩
            have hJ7 := HST.out _ (fun b => S b ∨ b = gb ∨ b = rb ∨ b = D0 ∨ b ∈ rs) _ W1 W7 HI.out.j (Chg.of_below hb7 (Nat.le_refl _)) (fun b hb => .inl hb)
            refine YieldAt.mono (HY.out 0 _ q c _ W7 hJ7 HQP.out ⟨vo, vc, mo, mc, by rw [← hun], hwb, HCL.out.below hb7 (Nat.le_refl _), h1.below h67 (Nat.le_refl _), fun a ha => ⟨(HOF.out a ha).1, (HOF.out a ha).2.keep (hb7.block _ (HOF.out a ha).2.lt)⟩, fun a ha => ⟨fun hx => ?_, (h2 a ha).2.keep (h67.block _ (h2 a ha).2.lt)⟩, fun b hb => Nat.lt_of_lt_of_le (HSB.out b hb) hb7.size⟩) ?_
            · have := (h2 a ha).1
              have := HSB.out _ hx
              omega
            · rintro e W' ⟨hk, hp⟩
              have k1 : Kpt (fun b => S b ∨ False) W1 W' := (Kpt.of_below hb7 (Nat.le_refl _)).trans (hk.mono (fun i _ h => .inl (.inl (h.elim id False.elim))))
              have k2 : Kpt (fun b => b < wr.heap.size ∧ (b = gb ∨ b = rb ∨ b = D0 ∨ T b ∨ b ∈ rs)) WN W' := HI.out.kp.trans ((Kpt.of_below hb7 (Nat.le_refl _)).trans (hk.mono (fun i _ h => by
                rcases h.2 with h | h | h | h | h
                · exact .inl (.inr (.inl h))
                · exact .inl (.inr (.inr (.inl h)))
                · exact .inl (.inr (.inr (.inr (.inl h))))
                · exact .inr h
                · exact .inl (.inr (.inr (.inr (.inr h)))))))
              have k3 : wr.heap.size ≤ W'.heap.size := Nat.le_trans HI.out.sz k1.size
              rcases hp with ⟨rfl, hj⟩ | ⟨rfl, hj⟩
              · exact .inl ⟨rfl, k1, HI.out.sn, k2, by rw [HFI.out]; exact hj, k3⟩
              · exact .inr ⟨rfl, k1, _, HQP.out, HI.out.sn, k2, hj, k3⟩
          clear hwb HWV hq hun e3
          gi_wp2_with (first | (refine ⟨trivial, rfl, ?_⟩; gi_at_call 91; refine (CallsIn.inRound _ (callsIn_wide.2 HWT.out)).mono ?_; rintro e w6 ⟨mo, mc, rfl, h1, h2, h3⟩; obtain ⟨e3, fn, tmps, assign, body, hy, hR⟩ := HYY.out mo mc w6 h1 h2 h3; clear h1 h2 h3) | (refine ⟨rfl, ?_⟩; refine hR.mono ?_; clear hR hy; rintro e W' (⟨rfl, hk, hj⟩ | ⟨rfl, hk, hj⟩)))
          all_goals first | exact ⟨hk, hj⟩ | exact ⟨hk, rfl, hj⟩
      case done =>
        rintro S W' hi hSD hdf
        have HI : Hid (WyI rows g T gb rb D0 WN J rs wr.heap.size S (waysTo rows g k ++ (ext rows.length k 0).filter (fun c => wayB g (pks rows [] c))) W') := hi
        have HNX : Hid (WyK rows g T gb rb D0 W0 J (k + 1) (WN.heap.size :: rs) W') := by
          refine ⟨List.nodup_cons.2 ⟨fun h => ?_, HWK.out.nd⟩, fun r hr => ?_, HKN.out W' hi.kp, ?_⟩
          · have := (Array.getElem?_eq_some_iff.1 (HWK.out.mark _ h)).1; omega
          · rcases List.mem_cons.1 hr with rfl | hr
            · exact hdf
            · have h1 := (Array.getElem?_eq_some_iff.1 (HWK.out.mark _ hr)).1
              exact (hi.kp.block r (by omega) ⟨h1, .inr (.inr (.inr (.inr hr)))⟩).trans ((HBN.out.block r h1).trans (HWK.out.mark r hr))
          · rw [waysTo_succ]
            refine HST.out _ _ _ W' W' hi.j (Chg.refl _ _) (fun b hb => .inl ?_)
            rcases hb with h | h | h | h
            · exact .inr (.inl h)
            · exact .inr (.inr (.inl h))
            · exact .inr (.inr (.inr (.inl h)))
            · rcases List.mem_cons.1 h with rfl | h
              · exact .inl hSD
              · exact .inr (.inr (.inr (.inr h)))
        clear hi
        gi_wp2
        refine ⟨⟨k + 1, WN.heap.size :: rs, .int .i64 k, .bool true, .int .i64 k, .slice ro rows.length rc, .int .i64 rows.length, .int .i64 k, .func (.func 39) #[] #[.pointer (some ⟨wr.heap.size + 1, 0, none⟩), .pointer (some ⟨wr.heap.size, 0, none⟩)], .int .i64 ((k : Int) + 1), by omega, HNX.out, ?_⟩, ?_⟩
        · rw [show ((k + 1 : Nat) : Int) = (k : Int) + 1 by omega]
          rfl
        · simp [intOf]; omega
      case stop =>
        rintro c S pre W' hpre ⟨rfl, q, hq, hi⟩ hSD hdf
        gi_wp2
        refine leaves_mks (WN.heap.size :: rs) W' (List.nodup_cons.2 ⟨fun h => ?_, HWK.out.nd⟩) (fun r hr => ?_) (fun w' hc => ⟨_, results_none rfl _ _ _, ⟨_, rfl⟩, .inr ⟨(fun b => S b ∨ b = gb ∨ b = rb ∨ b = D0 ∨ b ∈ rs), q, hq, ?_⟩⟩)
        · have := (Array.getElem?_eq_some_iff.1 (HWK.out.mark _ h)).1; omega
        · rcases List.mem_cons.1 hr with rfl | hr
          · exact hdf
          · have h1 := (Array.getElem?_eq_some_iff.1 (HWK.out.mark _ hr)).1
            exact (hi.kp.block r (by omega) ⟨h1, .inr (.inr (.inr (.inr hr)))⟩).trans ((HBN.out.block r h1).trans (HWK.out.mark r hr))
        · refine HSX.out _ _ _ W' w' hi.j (hc.mono (fun i _ h => ?_)) (fun b hb => .inl hb)
          rcases List.mem_cons.1 h with rfl | h
          · exact .inl hSD
          · exact .inr (.inr (.inr (.inr h)))
    · have hke : k = g.length + 1 := by omega
      subst hke
      have hkI : decide ((((g.length + 1 : Nat) : Int)) < (g.length : Int) + 1) = false := by simp
      gi_wp2
      have HE : Hid (waysTo rows g (g.length + 1) = waysL rows g) := by show _ = _; unfold waysL; rw [← Hg.length.out]
      refine leaves_mks rs wr HWK.out.nd HWK.out.mark (fun w' hc => ⟨_, results_none rfl _ _ _, ⟨_, rfl⟩, .inl ⟨(fun b => b = gb ∨ b = rb ∨ b = D0 ∨ b ∈ rs), ?_⟩⟩)
      rw [← HE.out]
      exact HST.out _ _ _ wr w' HWK.out.j (hc.mono (fun i _ hi => .inr (.inr (.inr hi)))) (fun b hb => .inl hb)

  case inl =>
    have Hrows.length : Hid (rows.length = min g.length rows.length) := by show _ = _; omega
    have hrows.length4 : rows.length ≤ 4 := by omega
    clear c1a c2a
    rw [← HW0.out, ← HD0.out]
    refine wpIn_loop (fun a' wr => ∃ (k : Nat) (rs : List Nat) (u4 u15 u16 u17 u18 u19 u20 u36 : Value), k ≤ rows.length + 1 ∧ WyK rows g T gb rb D0 W0 J k rs wr ∧
      a' = { tmps := #[.func (.yield l) #[] #[], .pointer (some ⟨gb, 0, none⟩), .pointer (some ⟨rb, 0, none⟩), .pointer (some ⟨D0, 0, none⟩), u4, undef, undef, undef, .slice go g.length gc, .int .i64 g.length, .slice ro rows.length rc, .int .i64 rows.length, .int .i64 rows.length, .int .i64 ((rows.length : Int) + 1), .int .i64 k, u15, u16, u17, u18, u19, u20, undef, undef, undef, undef, undef, undef, undef, undef, undef, undef, undef, undef, undef, undef, undef, u36], defers := mks rs }) (fun a' _ => rows.length + 1 - (intOf (a'.tmps.getD 14 undef)).toNat) ?_ ?_
    · exact ⟨0, [], _, _, _, _, _, _, _, _, Nat.zero_le _, HK0.out, rfl⟩
    rintro _ wr ⟨k, rs, u4, u15, u16, u17, u18, u19, u20, u36, hk, hwk, rfl⟩
    have HWK : Hid (WyK rows g T gb rb D0 W0 J k rs wr) := hwk
    have d1 : wr.cell? ⟨gb, 0, none⟩ = some (.slice go g.length gc) := (World.cell?_of_block (w := W0) (hwk.kp.block gb HGB.out.1 (.inl rfl))).trans HCS.out.1
    have d2 : wr.cell? ⟨rb, 0, none⟩ = some (.slice ro rows.length rc) := (World.cell?_of_block (w := W0) (hwk.kp.block rb HGB.out.2.1 (.inr (.inl rfl)))).trans HCS.out.2.1
    clear hwk
    by_cases hlt : k < rows.length + 1
    · have hkI : (k : Int) < (rows.length : Int) + 1 := by omega
      gi_wp2_with (refine ⟨trivial, rfl, ?_⟩; gi_at_call 23; refine (callsIn_wide.2 (of_any _ _ _)).mono ?_; rintro e w' ⟨rfl, rfl⟩)
      obtain ⟨WN, hWN⟩ : ∃ WN, WN = (wr.alloc (.cells #[.int .i64 rows.length] 3)).alloc (.cells #[.int .i64 k] 3) := ⟨_, rfl⟩
      rw [← hWN]
      have hbN : Below wr.heap.size wr WN := by rw [hWN]; exact ((Below.refl _ _).alloc (Nat.le_refl _) _).alloc (by simp) _
      have hsN : WN.heap.size = wr.heap.size + 2 := by rw [hWN]; simp
      have hcn : WN.cell? ⟨wr.heap.size, 0, none⟩ = some (.int .i64 rows.length) := by
        rw [hWN]; exact ((alloc_keep (wr.alloc (.cells #[.int .i64 rows.length] 3)) _).cell (p := ⟨wr.heap.size, 0, none⟩) (by simp)).trans (cell_of (alloc_new wr _))
      have hcm : WN.cell? ⟨wr.heap.size + 1, 0, none⟩ = some (.int .i64 k) := by
        rw [hWN]; have := cell_of (alloc_new (wr.alloc (.cells #[.int .i64 rows.length] 3)) (.cells #[.int .i64 k] 3)); rwa [size_alloc] at this
      clear hWN
      have HI0 : Hid (WyI rows g T gb rb D0 WN J rs wr.heap.size (fun b => b = wr.heap.size + 1 ∨ b = wr.heap.size) (waysTo rows g k ++ ([] : List (List Int)).filter (fun c => wayB g (pks rows [] c))) WN) := by
        refine ⟨fun b hb => by omega, Kpt.refl _ _, ?_, by omega⟩
        rw [List.filter_nil, List.append_nil]
        exact HST.out _ _ _ wr WN HWK.out.j (Chg.of_below hbN (Nat.le_refl _)) (fun b hb => hb.elim (fun h => .inr (by omega)) .inl)
      have HKN : Hid (∀ W', Kpt (fun b => b < wr.heap.size ∧ (b = gb ∨ b = rb ∨ b = D0 ∨ T b ∨ b ∈ rs)) WN W' → Kpt (fun b => b = gb ∨ b = rb ∨ b = D0 ∨ T b) W0 W') := fun W' hk' => by
        have h1 := HWK.out.kp.size
        have h2 := HGB.out
        refine ⟨by have := hk'.size; omega, fun b hb hx => ?_⟩
        have hbw : b < wr.heap.size := by omega
        exact (hk'.block b (by omega) ⟨hbw, by rcases hx with h | h | h | h <;> simp [h]⟩).trans ((hbN.block b hbw).trans (HWK.out.kp.block b hb hx))
      have HSQ := of_seq rows.length k (wr.heap.size + 1) wr.heap.size WN (by omega) (by omega) hcm hcn
      have HBN : Hid (Below wr.heap.size wr WN) := hbN
      clear hbN hcn hcm d1 d2
      refine range_s (R := Hand WN.heap.size) (cs := ext rows.length k 0) (T := fun _ => False) (S0 := fun b => b = wr.heap.size + 1 ∨ b = wr.heap.size) (gf := 39) (lb := #[.pointer (some ⟨wr.heap.size + 1, 0, none⟩), .pointer (some ⟨wr.heap.size, 0, none⟩)]) rfl (enters_of Try.func39 (by kernel_rfl) rfl) HSQ (fun b hb => by omega)
        (fun W' S x vs ⟨v, B0, h1, _⟩ => by rw [h1]; rfl) (hand_below _) (hand_put _)
        (fun S pre W' => WyI rows g T gb rb D0 WN J rs wr.heap.size S (waysTo rows g k ++ pre.filter (fun c => wayB g (pks rows [] c))) W')
        (fun c S pre W' => c = .ret ∧ ∃ q, q <+: waysL rows g ∧ WyI rows g T gb rb D0 WN Jx rs wr.heap.size S q W')
        (fun S S' pre W' W'' h hc hs => h.stab HST.out hc hs) (fun c S S' pre W' W'' ⟨h1, q, h2, h3⟩ hc hs => ⟨h1, q, h2, h3.stab HSX.out hc hs⟩) HI0.out
        (fun vs a' W' => ∃ v, vs = #[v] ∧ a' = { tmps := #[.func (.yield l) #[] #[], .pointer (some ⟨gb, 0, none⟩), .pointer (some ⟨rb, 0, none⟩), .pointer (some ⟨D0, 0, none⟩), .int .i64 k, v, undef, undef, .slice go g.length gc, .int .i64 g.length, .slice ro rows.length rc, .int .i64 rows.length, .int .i64 rows.length, .int .i64 ((rows.length : Int) + 1), .int .i64 k, .bool true, .int .i64 k, .slice ro rows.length rc, .int .i64 rows.length, .int .i64 k, .func (.func 39) #[] #[.pointer (some ⟨wr.heap.size + 1, 0, none⟩), .pointer (some ⟨wr.heap.size, 0, none⟩)], v, undef, undef, undef, undef, undef, undef, undef, undef, undef, undef, undef, undef, undef, undef, u36], defers := [] })
        (fun vs a' W' l r o h _ => h) ?assign ?body (fun h => h) ?done ?stop
      case assign =>
        rintro S x vs W' K ⟨v, B0, rfl, h2, h3, h4⟩ hK
        gi_wp2
        exact hK _ _ (Below.refl _ _) ⟨v, rfl, rfl⟩
      case body =>
        rintro S pre c vs a' W1 hi hSD hSL hlt1 hdf hlp hpre ⟨S1, ⟨v, B0, hvs, hown, hB0, hN0, hBW⟩, hS1⟩ ⟨v', hvs', rfl⟩
        have hvv : v = v' := by rw [hvs] at hvs'; simpa using hvs'
        subst hvv
        have hcm : c ∈ ext rows.length k 0 := hpre.subset (by simp)
        obtain ⟨hr1, hr2, _⟩ := ext_rise hcm
        have hkW := HKN.out W1 hi.kp
        have e1 : W1.cell? ⟨gb, 0, none⟩ = some (.slice go g.length gc) := (World.cell?_of_block (w := W0) (hkW.block gb HGB.out.1 (.inl rfl))).trans HCS.out.1
        have e2 : W1.cell? ⟨rb, 0, none⟩ = some (.slice ro rows.length rc) := (World.cell?_of_block (w := W0) (hkW.block rb HGB.out.2.1 (.inr (.inl rfl)))).trans HCS.out.2.1
        have e3 : W1.cell? ⟨D0, 0, none⟩ = some (.func (.yield l) #[] #[]) := (World.cell?_of_block (w := W0) (hkW.block D0 HGB.out.2.2.1 (.inr (.inr (.inl rfl))))).trans HCS.out.2.2
        have hkT : Kpt T w0 W1 := HKT.out W1 (hkW.mono (fun i _ h => .inr (.inr (.inr h))))
        obtain ⟨vo, vc, hvf⟩ := owns_form hown
        subst hvf
        obtain ⟨lr, hlp⟩ := hlp
        have HOF : Hid (∀ a, vo = some a → ¬ (S a.block ∨ a.block = gb ∨ a.block = rb ∨ a.block = D0 ∨ a.block ∈ rs) ∧ isC W1 a.block) := fun a ha => by
          obtain ⟨h1, h2, h3⟩ := own_off hown hdf rfl a ha
          obtain ⟨_, h4, _⟩ := own_off hown hlp rfl a ha
          refine ⟨fun hx => ?_, h3⟩
          have hg := HGB.out
          have hz := HWK.out.kp.size
          rcases hx with hx | hx | hx | hx | hx
          · rcases (hS1 _).1 hx with hx | hx | hx
            · have := hB0 _ hx; omega
            · exact h2 hx
            · exact h4 hx
          · omega
          · omega
          · omega
          · have := (Array.getElem?_eq_some_iff.1 (HWK.out.mark _ hx)).1; omega
        have HSB : Hid (∀ b, (S b ∨ b = gb ∨ b = rb ∨ b = D0 ∨ b ∈ rs) → b < W1.heap.size) := fun b hx => by
          have hg := HGB.out
          have hz := HWK.out.kp.size
          have hz2 := hi.sz
          rcases hx with hx | hx | hx | hx | hx
          · rcases (hS1 _).1 hx with hx | hx | hx
            · have := hB0 _ hx; omega
            · omega
            · omega
          · omega
          · omega
          · omega
          · have := (Array.getElem?_eq_some_iff.1 (HWK.out.mark _ hx)).1; omega
        have HCL : Hid (Sl 0 3 W1 (.slice vo c.length vc) (ints c)) := Sl.own hown
        have HWV : Hid (Calls Try.prog 91 #[.slice ro rows.length rc, .slice vo c.length vc, .slice go g.length gc] W1 fun e w' => ∃ tv, e = .returned (.tuple #[tv, .bool (wayB g (pks rows [] c))]) ∧ WayV W1.heap.size w' tv (.slice vo c.length vc) c g (pks rows [] c) ∧ Below W1.heap.size W1 w') :=
          wayBy_any B rows c g _ _ _ W1 (HRW.out W1 hkT) (Sl.own hown) (HGO.out W1 hkT) (fun t ht => by have := hr2 t (by omega); exact ⟨by omega, this.2⟩) HR.out HG.out hg1 (by omega) (by omega)
        have HI : Hid (WyI rows g T gb rb D0 WN J rs wr.heap.size S (waysTo rows g k ++ pre.filter (fun c => wayB g (pks rows [] c))) W1) := hi
        have HPRE : Hid ((pre ++ [c]) <+: ext rows.length k 0) := hpre
        have HLT : Hid (D0 < W1.heap.size) := lt_cell0 e3
        have HR1 : Hid (c.length = k) := hr1
        have HSN : Hid (WN.heap.size = wr.heap.size + 2) := hsN
        clear hi hpre hown hB0 hN0 hBW hS1 hcm hr2 hkW hkT hdf hlp hvs hvs' hr1 hsN
        cases hwb : wayB g (pks rows [] c) with
        | false =>
          have HFI : Hid ((pre ++ [c]).filter (fun c => wayB g (pks rows [] c)) = pre.filter (fun c => wayB g (pks rows [] c))) := by
            show _ = _
            rw [List.filter_append]; simp [hwb]
          have HWF : Hid (Calls Try.prog 91 #[.slice ro rows.length rc, .slice vo c.length vc, .slice go g.length gc] W1 fun e w' => e = .returned (.tuple #[.agg #[.slice none 0 0, .slice none 0 0, .int .i64 0], .bool false]) ∧ Below W1.heap.size W1 w') := by
            refine HWV.out.mono ?_
            rintro e w' ⟨tv, rfl, h1 | h1, h2⟩
            · rw [hwb] at h1; exact absurd h1.1 (by simp)
            · rw [hwb, h1.2]; exact ⟨rfl, h2⟩
          clear hwb HWV
          gi_wp2_with (refine ⟨trivial, rfl, ?_⟩; gi_at_call 91; refine (CallsIn.inRound _ (callsIn_wide.2 HWF.out)).mono ?_; rintro e w6 ⟨rfl, hb6⟩)
          have HBL : Hid (Below W1.heap.size W1 (w6.alloc (.cells #[.slice none 0 0, .slice none 0 0, .int .i64 0] 117))) := hb6.alloc hb6.size _
          clear hb6
          refine ⟨fun _ h => (by cases h), ?_⟩
          gi_wp2
          refine ⟨Kpt.of_below HBL.out (Nat.le_refl _), ?_⟩
          have hfin := HI.out.stab HST.out (Chg.of_below HBL.out (Nat.le_refl _)) (S' := S) (fun b hb => .inl hb)
          rw [← HFI.out] at hfin
          exact hfin
        | true =>
          obtain ⟨q, hq⟩ : ∃ q, q = waysTo rows g k ++ pre.filter (fun c => wayB g (pks rows [] c)) := ⟨_, rfl⟩
          have HFI : Hid (waysTo rows g k ++ (pre ++ [c]).filter (fun c => wayB g (pks rows [] c)) = q ++ [c]) := by
            show _ = _
            rw [List.filter_append, hq]; simp [hwb]
          have HQP : Hid ((q ++ [c]) <+: waysL rows g) := by
            rw [← HFI.out]
            refine List.IsPrefix.trans ?_ ((waysTo_pre rows g (show k + 1 ≤ rows.length + 1 by omega)).trans (by unfold waysL; rw [← Hrows.length.out]; exact List.prefix_refl _))
            rw [waysTo_succ]
            obtain ⟨t, ht⟩ := filter_pre (p := fun c => wayB g (pks rows [] c)) HPRE.out
            exact ⟨t, by rw [List.append_assoc, ht]⟩
          rw [← hq] at HI
          obtain ⟨un, hun⟩ : ∃ un, un = (wayN g (pks rows [] c)).getD c.length 0 := ⟨_, rfl⟩
          have HWT : Hid (Calls Try.prog 91 #[.slice ro rows.length rc, .slice vo c.length vc, .slice go g.length gc] W1 fun e w' => ∃ mo mc, e = .returned (.tuple #[.agg #[.slice vo c.length vc, .slice mo c.length mc, .int .i64 un], .bool true]) ∧ Sl 0 3 w' (.slice mo c.length mc) (ints ((wayN g (pks rows [] c)).take c.length)) ∧ (∀ a, mo = some a → W1.heap.size ≤ a.block ∧ isC w' a.block) ∧ Below W1.heap.size W1 w') := by
            refine HWV.out.mono ?_
            rintro e w' ⟨tv, rfl, h1 | h1, h2⟩
            · obtain ⟨_, mo, mc, rfl, h3, h4⟩ := h1
              rw [hwb, ← hun]; exact ⟨mo, mc, rfl, h3, h4, h2⟩
            · rw [hwb] at h1; exact absurd h1.1 (by simp)
          have HYY : Hid (∀ mo mc w6, Sl 0 3 w6 (.slice mo c.length mc) (ints ((wayN g (pks rows [] c)).take c.length)) → (∀ a, mo = some a → W1.heap.size ≤ a.block ∧ isC w6 a.block) → Below W1.heap.size W1 w6 →
              (w6.alloc (.cells #[.slice vo c.length vc, .slice mo c.length mc, .int .i64 un] 117)).cell? ⟨D0, 0, none⟩ = some (.func (.yield l) #[] #[]) ∧
              YieldAt Fence.wide 0 Try.prog l #[.agg #[.slice vo c.length vc, .slice mo c.length mc, .int .i64 un]] (w6.alloc (.cells #[.slice vo c.length vc, .slice mo c.length mc, .int .i64 un] 117)) fun e W' =>
                (e = .returned (.bool true) ∧ Kpt (fun b => S b ∨ False) W1 W' ∧ WyI rows g T gb rb D0 WN J rs wr.heap.size S (waysTo rows g k ++ (pre ++ [c]).filter (fun c => wayB g (pks rows [] c))) W') ∨
                (e = .returned (.bool false) ∧ Kpt (fun b => S b ∨ False) W1 W' ∧ ∃ q, q <+: waysL rows g ∧ WyI rows g T gb rb D0 WN Jx rs wr.heap.size S q W')) := fun mo mc w6 h1 h2 h3 => by
            obtain ⟨W7, hW7⟩ : ∃ W7, W7 = w6.alloc (.cells #[.slice vo c.length vc, .slice mo c.length mc, .int .i64 un] 117) := ⟨_, rfl⟩
            have hb7 : Below W1.heap.size W1 W7 := by rw [hW7]; exact h3.alloc h3.size _
            have h67 : Below w6.heap.size w6 W7 := by rw [hW7]; exact alloc_keep _ _
            rw [← hW7]
            refine ⟨(hb7.cell (p := ⟨D0, 0, none⟩) HLT.out).trans e3, ?_⟩
            have hJ7 := HST.out _ (fun b => S b ∨ b = gb ∨ b = rb ∨ b = D0 ∨ b ∈ rs) _ W1 W7 HI.out.j (Chg.of_below hb7 (Nat.le_refl _)) (fun b hb => .inl hb)
            refine YieldAt.mono (HY.out 0 _ q c _ W7 hJ7 HQP.out ⟨vo, vc, mo, mc, by rw [← hun], hwb, HCL.out.below hb7 (Nat.le_refl _), h1.below h67 (Nat.le_refl _), fun a ha => ⟨(HOF.out a ha).1, (HOF.out a ha).2.keep (hb7.block _ (HOF.out a ha).2.lt)⟩, fun a ha => ⟨fun hx => ?_, (h2 a ha).2.keep (h67.block _ (h2 a ha).2.lt)⟩, fun b hb => Nat.lt_of_lt_of_le (HSB.out b hb) hb7.size⟩) ?_
            · have := (h2 a ha).1
              have := HSB.out _ hx
              omega
            · rintro e W' ⟨hk, hp⟩
              have k1 : Kpt (fun b => S b ∨ False) W1 W' := (Kpt.of_below hb7 (Nat.le_refl _)).trans (hk.mono (fun i _ h => .inl (.inl (h.elim id False.elim))))
              have k2 : Kpt (fun b => b < wr.heap.size ∧ (b = gb ∨ b = rb ∨ b = D0 ∨ T b ∨ b ∈ rs)) WN W' := HI.out.kp.trans ((Kpt.of_below hb7 (Nat.le_refl _)).trans (hk.mono (fun i _ h => by
                rcases h.2 with h | h | h | h | h
                · exact .inl (.inr (.inl h))
                · exact .inl (.inr (.inr (.inl h)))
                · exact .inl (.inr (.inr (.inr (.inl h))))
                · exact .inr h
                · exact .inl (.inr (.inr (.inr (.inr h)))))))
              have k3 : wr.heap.size ≤ W'.heap.size := Nat.le_trans HI.out.sz k1.size
              rcases hp with ⟨rfl, hj⟩ | ⟨rfl, hj⟩
              · exact .inl ⟨rfl, k1, HI.out.sn, k2, by rw [HFI.out]; exact hj, k3⟩
              · exact .inr ⟨rfl, k1, _, HQP.out, HI.out.sn, k2, hj, k3⟩
          clear hwb HWV hq hun e3
          gi_wp2_with (first | (refine ⟨trivial, rfl, ?_⟩; gi_at_call 91; refine (CallsIn.inRound _ (callsIn_wide.2 HWT.out)).mono ?_; rintro e w6 ⟨mo, mc, rfl, h1, h2, h3⟩; obtain ⟨e3, fn, tmps, assign, body, hy, hR⟩ := HYY.out mo mc w6 h1 h2 h3; clear h1 h2 h3) | (refine ⟨rfl, ?_⟩; refine hR.mono ?_; clear hR hy; rintro e W' (⟨rfl, hk, hj⟩ | ⟨rfl, hk, hj⟩)))
          all_goals first | exact ⟨hk, hj⟩ | exact ⟨hk, rfl, hj⟩
      case done =>
        rintro S W' hi hSD hdf
        have HI : Hid (WyI rows g T gb rb D0 WN J rs wr.heap.size S (waysTo rows g k ++ (ext rows.length k 0).filter (fun c => wayB g (pks rows [] c))) W') := hi
        have HNX : Hid (WyK rows g T gb rb D0 W0 J (k + 1) (WN.heap.size :: rs) W') := by
          refine ⟨List.nodup_cons.2 ⟨fun h => ?_, HWK.out.nd⟩, fun r hr => ?_, HKN.out W' hi.kp, ?_⟩
          · have := (Array.getElem?_eq_some_iff.1 (HWK.out.mark _ h)).1; omega
          · rcases List.mem_cons.1 hr with rfl | hr
            · exact hdf
            · have h1 := (Array.getElem?_eq_some_iff.1 (HWK.out.mark _ hr)).1
              exact (hi.kp.block r (by omega) ⟨h1, .inr (.inr (.inr (.inr hr)))⟩).trans ((HBN.out.block r h1).trans (HWK.out.mark r hr))
          · rw [waysTo_succ]
            refine HST.out _ _ _ W' W' hi.j (Chg.refl _ _) (fun b hb => .inl ?_)
            rcases hb with h | h | h | h
            · exact .inr (.inl h)
            · exact .inr (.inr (.inl h))
            · exact .inr (.inr (.inr (.inl h)))
            · rcases List.mem_cons.1 h with rfl | h
              · exact .inl hSD
              · exact .inr (.inr (.inr (.inr h)))
        clear hi
        gi_wp2
        refine ⟨⟨k + 1, WN.heap.size :: rs, .int .i64 k, .bool true, .int .i64 k, .slice ro rows.length rc, .int .i64 rows.length, .int .i64 k, .func (.func 39) #[] #[.pointer (some ⟨wr.heap.size + 1, 0, none⟩), .pointer (some ⟨wr.heap.size, 0, none⟩)], .int .i64 ((k : Int) + 1), by omega, HNX.out, ?_⟩, ?_⟩
        · rw [show ((k + 1 : Nat) : Int) = (k : Int) + 1 by omega]
          rfl
        · simp [intOf]; omega
      case stop =>
        rintro c S pre W' hpre ⟨rfl, q, hq, hi⟩ hSD hdf
        gi_wp2
        refine leaves_mks (WN.heap.size :: rs) W' (List.nodup_cons.2 ⟨fun h => ?_, HWK.out.nd⟩) (fun r hr => ?_) (fun w' hc => ⟨_, results_none rfl _ _ _, ⟨_, rfl⟩, .inr ⟨(fun b => S b ∨ b = gb ∨ b = rb ∨ b = D0 ∨ b ∈ rs), q, hq, ?_⟩⟩)
        · have := (Array.getElem?_eq_some_iff.1 (HWK.out.mark _ h)).1; omega
        · rcases List.mem_cons.1 hr with rfl | hr
          · exact hdf
          · have h1 := (Array.getElem?_eq_some_iff.1 (HWK.out.mark _ hr)).1
            exact (hi.kp.block r (by omega) ⟨h1, .inr (.inr (.inr (.inr hr)))⟩).trans ((HBN.out.block r h1).trans (HWK.out.mark r hr))
        · refine HSX.out _ _ _ W' w' hi.j (hc.mono (fun i _ h => ?_)) (fun b hb => .inl hb)
          rcases List.mem_cons.1 h with rfl | h
          · exact .inl hSD
          · exact .inr (.inr (.inr (.inr h)))
    · have hke : k = rows.length + 1 := by omega
      subst hke
      have hkI : decide ((((rows.length + 1 : Nat) : Int)) < (rows.length : Int) + 1) = false := by simp
      gi_wp2
      have HE : Hid (waysTo rows g (rows.length + 1) = waysL rows g) := by show _ = _; unfold waysL; rw [← Hrows.length.out]
      refine leaves_mks rs wr HWK.out.nd HWK.out.mark (fun w' hc => ⟨_, results_none rfl _ _ _, ⟨_, rfl⟩, .inl ⟨(fun b => b = gb ∨ b = rb ∨ b = D0 ∨ b ∈ rs), ?_⟩⟩)
      rw [← HE.out]
      exact HST.out _ _ _ wr w' HWK.out.j (hc.mono (fun i _ hi => .inr (.inr (.inr hi)))) (fun b hb => .inl hb)


end Go.Proofs.Ytmljnfgfjcjmmaa

/- Caratheodory: a goal that is a sum of so much of rows is one of rows that don't hang on each other, and says no more (pure). -/
namespace Go.Proofs.Ytmljnfgfjcjmmaa
open Lin

/-- So much of each row, added: the j-th number. -/
def sv (t : List (List Int)) (a : Nat → Int) (j : Nat) : Int := sm (t.map V) a j

theorem sv_eq (t : List (List Int)) (a : Nat → Int) (j : Nat) : sv t a j = sumN t.length fun i => a i * V (t.getD i []) j := by
  unfold sv sm
  rw [List.length_map]
  refine sumN_congr fun i hi => ?_
  have : (t.map V).getD i (fun _ => 0) = V (t.getD i []) := by simp [hi]
  rw [this]

theorem sv_lc (t : List (List Int)) (x y : Int) (a b : Nat → Int) (j : Nat) : sv t (fun i => x * a i + y * b i) j = x * sv t a j + y * sv t b j := sm_lc _ x y a b j

theorem sv_congr {t : List (List Int)} {a b : Nat → Int} (h : ∀ i, i < t.length → a i = b i) (j : Nat) : sv t a j = sv t b j := sm_congr (fun i hi => h i (by simpa using hi)) j

theorem sv_cons (r : List Int) (t : List (List Int)) (a : Nat → Int) (j : Nat) : sv (r :: t) a j = a 0 * V r j + sv t (fun i => a (i + 1)) j := sm_cons _ _ _ _

/-- What is taken 0 times is let go. -/
theorem filt : ∀ (t : List (List Int)) (b : Nat → Int), (∀ i, i < t.length → 0 ≤ b i) → ∃ t' a', t'.Sublist t ∧ (∀ i, i < t'.length → 0 < a' i) ∧ (∀ j, sv t' a' j = sv t b j) ∧ ((∃ i, i < t.length ∧ b i = 0) → t'.length < t.length)
  | [], b, _ => ⟨[], b, List.Sublist.refl _, fun i hi => by simp at hi, fun _ => rfl, fun ⟨i, hi, _⟩ => by simp at hi⟩
  | r :: t, b, h => by
    obtain ⟨t', a', h1, h2, h3, h4⟩ := filt t (fun i => b (i + 1)) fun i hi => h (i + 1) (by simpa using hi)
    have hl := h1.length_le
    by_cases h0 : b 0 = 0
    · refine ⟨t', a', h1.cons r, h2, fun j => ?_, fun _ => by simp; omega⟩
      rw [sv_cons, h0, h3]; omega
    · have hp : 0 < b 0 := by have := h 0 (by simp); omega
      refine ⟨r :: t', fun i => if i = 0 then b 0 else a' (i - 1), h1.cons_cons r, fun i hi => ?_, fun j => ?_, fun ⟨i, hi, hz⟩ => ?_⟩
      · by_cases e : i = 0
        · simp [e, hp]
        · simp only [e, if_false]
          exact h2 _ (by simp at hi; omega)
      · rw [sv_cons, sv_cons]
        simp only [if_true]
        rw [← h3 j]
        congr 1
      · have : i ≠ 0 := fun e => h0 (by rw [← e]; exact hz)
        have := h4 ⟨i - 1, by simp at hi; omega, by rw [show i - 1 + 1 = i by omega]; exact hz⟩
        simp; omega

theorem acr_sm (t : List (List Int)) (g : List Int) (a : Nat → Int) (j : Nat) : dot (t.length + 1) (V (acrR t g j)) a = sv t a j - a t.length * V g j := by
  have e1 : ∀ i, i < t.length → V (acrR t g j) i = V (t.getD i []) j := fun i hi => by
    have ht : i < (t.map fun r => r.getD j 0).length := by simpa using hi
    unfold V acrR
    rw [List.getD_eq_getElem?_getD, List.getElem?_append_left ht]
    simp [hi]
  have e2 : V (acrR t g j) t.length = -(V g j) := by
    unfold V acrR
    rw [List.getD_eq_getElem?_getD, List.getElem?_append_right (by simp)]; simp
  rw [sv_eq]
  unfold dot
  show sumN t.length _ + V (acrR t g j) t.length * a t.length = _
  rw [e2, sumN_congr (g := fun i => a i * V (t.getD i []) j) fun i hi => by rw [e1 i hi]; exact Int.mul_comm _ _]
  grind

theorem rep_iff {t : List (List Int)} {g : List Int} {a : Nat → Int} : (∀ r ∈ acrL g t, dot (t.length + 1) (V r) a = 0) ↔ ∀ j, j < g.length → sv t a j = a t.length * V g j := by
  constructor
  · intro h j hj
    have := h (acrR t g j) (by simp only [acrL, List.mem_map, List.mem_range]; exact ⟨j, hj, rfl⟩)
    rw [acr_sm] at this
    omega
  · intro h r hr
    simp only [acrL, List.mem_map, List.mem_range] at hr
    obtain ⟨j, hj, rfl⟩ := hr
    rw [acr_sm, h j hj]; omega

theorem way_iff {g : List Int} {t : List (List Int)} : wayB g t = true ↔ ∃ a : Nat → Int, (∀ i, i < t.length + 1 → 0 < a i) ∧ (∀ j, j < g.length → sv t a j = a t.length * V g j) ∧ ∀ u : Nat → Int, (∀ j, j < g.length → sv t u j = u t.length * V g j) → Par (t.length + 1) u a := by
  rw [wayB_iff]
  constructor
  · rintro ⟨a, h1, h2, h3⟩
    exact ⟨a, h1, rep_iff.1 h2, fun u hu => h3 u (rep_iff.2 hu)⟩
  · rintro ⟨a, h1, h2, h3⟩
    exact ⟨a, h1, rep_iff.2 h2, fun u hu => h3 u (rep_iff.1 hu)⟩

theorem way_short {g : List Int} {t : List (List Int)} (h : wayB g t = true) : t.length ≤ g.length := by
  obtain ⟨a, hpos, _, hpar⟩ := wayB_iff.1 h
  apply Classical.byContradiction
  intro hn
  obtain ⟨v, ⟨i, hi, hne⟩, hv⟩ := orth_some (t.length + 1) ((acrL g t).map V ++ [unit t.length]) (by simp [acrL]; omega)
  have h0 : v t.length = 0 := by
    have := hv (unit t.length) (by simp)
    rwa [dot_unit (by omega)] at this
  have h1 := hpar v (fun r hr => hv (V r) (List.mem_append_left _ (List.mem_map.2 ⟨r, hr, rfl⟩))) i t.length hi (by omega)
  rw [h0, Int.zero_mul] at h1
  have := hpos t.length (by omega)
  rcases Int.mul_eq_zero.1 h1 with h | h
  · exact hne h
  · omega

theorem ways_some {rows : List (List Int)} {g : List Int} : waysL rows g ≠ [] ↔ ∃ t, t.Sublist rows ∧ wayB g t = true := by
  constructor
  · intro h
    cases hw : waysL rows g with
    | nil => exact absurd hw h
    | cons c l =>
      have hm : c ∈ waysL rows g := by rw [hw]; simp
      simp only [waysL, waysTo, List.mem_flatMap, List.mem_range, List.mem_filter] at hm
      obtain ⟨m, hm1, hm2, hm3⟩ := hm
      have hx := chz_ext rows [] m 0
      rw [List.drop_zero] at hx
      have : pks rows [] c ∈ chz m rows := by rw [← hx]; exact List.mem_map.2 ⟨c, hm2, rfl⟩
      exact ⟨_, (chz_mem.1 this).1, hm3⟩
  · rintro ⟨t, hs, hw⟩
    have hx := chz_ext rows [] t.length 0
    rw [List.drop_zero] at hx
    have hm : t ∈ chz t.length rows := chz_mem.2 ⟨hs, rfl⟩
    rw [← hx] at hm
    obtain ⟨c, hc, he⟩ := List.mem_map.1 hm
    have : c ∈ waysL rows g := by
      simp only [waysL, waysTo, List.mem_flatMap, List.mem_range, List.mem_filter]
      refine ⟨t.length, ?_, hc, by rw [he]; exact hw⟩
      have := hs.length_le
      have := way_short hw
      omega
    intro h
    rw [h] at this; cases this

theorem cara {rows : List (List Int)} {g : List Int} (hcyc : ∀ t : List (List Int), t.Sublist rows → ∀ w : Nat → Int, (∀ i, i < t.length → 0 ≤ w i) → (∀ j, j < g.length → sv t w j = 0) → 0 ≤ sv t w g.length) :
    ∀ (n : Nat) (t : List (List Int)) (a : Nat → Int), t.length ≤ n → t.Sublist rows → (∀ i, i < t.length + 1 → 0 < a i) → (∀ j, j < g.length → sv t a j = a t.length * V g j) →
    ∃ t' a', t'.Sublist rows ∧ wayB g t' = true ∧ (∀ i, i < t'.length + 1 → 0 < a' i) ∧ (∀ j, j < g.length → sv t' a' j = a' t'.length * V g j) ∧ sv t' a' g.length * a t.length ≤ sv t a g.length * a' t'.length := by
  intro n
  induction n with
  | zero =>
    intro t a hn hs hp hr
    by_cases hk : ∀ u : Nat → Int, (∀ j, j < g.length → sv t u j = u t.length * V g j) → Par (t.length + 1) u a
    · exact ⟨t, a, hs, way_iff.2 ⟨a, hp, hr, hk⟩, hp, hr, Int.le_refl _⟩
    · exfalso
      apply hk
      intro u _ i j hi hj
      have : i = 0 := by omega
      have : j = 0 := by omega
      subst i; subst j; rfl
  | succ n ih =>
    intro t a hn hs hp hr
    by_cases hk : ∀ u : Nat → Int, (∀ j, j < g.length → sv t u j = u t.length * V g j) → Par (t.length + 1) u a
    · exact ⟨t, a, hs, way_iff.2 ⟨a, hp, hr, hk⟩, hp, hr, Int.le_refl _⟩
    · have : ∃ u : Nat → Int, (∀ j, j < g.length → sv t u j = u t.length * V g j) ∧ ¬ Par (t.length + 1) u a := Classical.byContradiction fun h => hk fun u hu => Classical.byContradiction fun hne => h ⟨u, hu, hne⟩
      obtain ⟨u, hu, hnp⟩ := this
      have haN := hp t.length (by omega)
      have hw : ∃ w : Nat → Int, (∀ j, j < g.length → sv t w j = 0) ∧ ∃ i, i < t.length ∧ w i ≠ 0 := by
        refine ⟨fun i => a t.length * u i + (-(u t.length)) * a i, fun j hj => ?_, ?_⟩
        · rw [sv_lc, hu j hj, hr j hj]; grind
        · apply Classical.byContradiction
          intro hno
          apply hnp
          have hz : ∀ i, i < t.length + 1 → a t.length * u i = u t.length * a i := fun i hi => by
            by_cases e : i = t.length
            · rw [e]; exact Int.mul_comm _ _
            · have : a t.length * u i + (-(u t.length)) * a i = 0 := Classical.byContradiction fun hne => hno ⟨i, by omega, hne⟩
              grind
          intro i j hi hj
          have e : a t.length * (u i * a j - u j * a i) = 0 := by
            have h1 := hz i hi
            have h2 := hz j hj
            have : a t.length * (u i * a j - u j * a i) = (a t.length * u i) * a j - (a t.length * u j) * a i := by grind
            rw [this, h1, h2]; grind
          rcases Int.mul_eq_zero.1 e with h | h
          · omega
          · omega
      have hw2 : ∃ w : Nat → Int, (∀ j, j < g.length → sv t w j = 0) ∧ (∃ i, i < t.length ∧ 0 < w i) ∧ 0 ≤ sv t w g.length := by
        obtain ⟨w, h1, i0, hi0, hne⟩ := hw
        have hneg : ∀ j, sv t (fun i => - w i) j = - sv t w j := fun j => by
          have := sv_lc t (-1) 0 w w j
          rw [show (fun i => (-1 : Int) * w i + 0 * w i) = fun i => - w i by funext i; omega] at this
          rw [this]; omega
        by_cases hb : 0 ≤ sv t w g.length
        · by_cases hpw : ∃ i, i < t.length ∧ 0 < w i
          · exact ⟨w, h1, hpw, hb⟩
          · have hall : ∀ i, i < t.length → 0 ≤ - w i := fun i hi => by
              have : ¬ 0 < w i := fun h => hpw ⟨i, hi, h⟩
              omega
            refine ⟨fun i => - w i, fun j hj => by rw [hneg, h1 j hj]; rfl, ⟨i0, hi0, by have := hall i0 hi0; show 0 < - w i0; omega⟩, ?_⟩
            exact hcyc t hs _ hall fun j hj => by rw [hneg, h1 j hj]; rfl
        · by_cases hpw : ∃ i, i < t.length ∧ w i < 0
          · obtain ⟨i, hi, hlt⟩ := hpw
            exact ⟨fun i => - w i, fun j hj => by rw [hneg, h1 j hj]; rfl, ⟨i, hi, by show 0 < - w i; omega⟩, by rw [hneg]; omega⟩
          · have hall : ∀ i, i < t.length → 0 ≤ w i := fun i hi => by
              have : ¬ w i < 0 := fun h => hpw ⟨i, hi, h⟩
              omega
            exact ⟨w, h1, ⟨i0, hi0, by have := hall i0 hi0; omega⟩, hcyc t hs w hall h1⟩
      obtain ⟨w, h1, ⟨i0, hi0, hp0⟩, hb⟩ := hw2
      obtain ⟨i1, hi1, hle⟩ := least_ratio (f := a) (g := w) (X := (List.range t.length).filter fun i => decide (0 < w i)) (by
          intro he
          have : i0 ∈ (List.range t.length).filter fun i => decide (0 < w i) := by simp [hi0, hp0]
          rw [he] at this; simp at this) (fun z hz => by simpa using (List.mem_filter.1 hz).2)
      have hi1l : i1 < t.length := by simpa using (List.mem_filter.1 hi1).1
      have hw1 : 0 < w i1 := by simpa using (List.mem_filter.1 hi1).2
      have ha1 := hp i1 (by omega)
      have hbn : ∀ i, i < t.length → 0 ≤ w i1 * a i + (-(a i1)) * w i := fun i hi => by
        have hai := hp i (by omega)
        by_cases hwi : 0 < w i
        · have := hle i (by simp [hi, hwi])
          have e : w i1 * a i + (-(a i1)) * w i = a i * w i1 - a i1 * w i := by grind
          omega
        · have e1 : 0 ≤ w i1 * a i := Int.mul_nonneg (by omega) (by omega)
          have e2 : 0 ≤ a i1 * (- w i) := Int.mul_nonneg (by omega) (by omega)
          have e3 : (-(a i1)) * w i = a i1 * (- w i) := by grind
          omega
      obtain ⟨t2, a2, g1, g2, g3, g4⟩ := filt t (fun i => w i1 * a i + (-(a i1)) * w i) hbn
      have hlt := g4 ⟨i1, hi1l, by grind⟩
      have hs2 : 0 < w i1 * a t.length := Int.mul_pos hw1 haN
      obtain ⟨t', a', k1, k2, k3, k4, k5⟩ := ih t2 (fun i => if i = t2.length then w i1 * a t.length else a2 i) (by omega) (g1.trans hs) (fun i hi => by
          by_cases e : i = t2.length
          · simp only [e, if_true]; exact hs2
          · simp only [e, if_false]; exact g2 i (by omega)) (fun j hj => by
          simp only [if_true]
          rw [sv_congr (b := a2) (fun i hi => by rw [if_neg (by omega)]), g3, sv_lc, h1 j hj, hr j hj]
          grind)
      refine ⟨t', a', k1, k2, k3, k4, ?_⟩
      simp only [if_true] at k5
      rw [sv_congr (t := t2) (b := a2) (fun i hi => by rw [if_neg (by omega)]), g3, sv_lc] at k5
      have hA' := k3 t'.length (by omega)
      have hprod : 0 ≤ a i1 * sv t w g.length * a' t'.length := Int.mul_nonneg (Int.mul_nonneg (by omega) hb) (by omega)
      have k6 : w i1 * (sv t' a' g.length * a t.length) ≤ w i1 * (sv t a g.length * a' t'.length) := by
        have e1 : w i1 * (sv t' a' g.length * a t.length) = sv t' a' g.length * (w i1 * a t.length) := by grind
        have e2 : (w i1 * sv t a g.length + -a i1 * sv t w g.length) * a' t'.length = w i1 * (sv t a g.length * a' t'.length) - a i1 * sv t w g.length * a' t'.length := by grind
        omega
      exact Int.le_of_mul_le_mul_left k6 hw1

/-- There is no way just if a direction that rises with no row rises with the goal. -/
theorem ways_none {rows : List (List Int)} {g : List Int} : waysL rows g = [] ↔ ∃ c : Nat → Int, (∀ r ∈ rows, dot g.length c (V r) ≤ 0) ∧ 0 < dot g.length c (V g) := by
  constructor
  · intro h
    rcases farkas g.length _ (rows.map V) rfl (V g) with ⟨s, a, hs, ha, he⟩ | ⟨c, h1, h2⟩
    · exfalso
      refine (ways_some (rows := rows) (g := g)).2 ?_ h
      -- the rows cut to the goal's numbers say nothing behind them
      have hcut : ∃ t, t.Sublist (rows.map fun r => r.take g.length) ∧ wayB g t = true := by
        obtain ⟨t, a2, g1, g2, g3, _⟩ := filt (rows.map fun r => r.take g.length) a fun i hi => ha i (by simpa using hi)
        have hrep : ∀ j, j < g.length → sv (rows.map fun r => r.take g.length) a j = s * V g j := fun j hj => by
          rw [he j hj, sv_eq]
          unfold sm
          rw [List.length_map, List.length_map]
          refine sumN_congr fun i hi => ?_
          have e1 : (rows.map fun r => r.take g.length).getD i [] = (rows.getD i []).take g.length := by simp [hi]
          have e2 : (rows.map V).getD i (fun _ => 0) = V (rows.getD i []) := by simp [hi]
          rw [e1, e2]
          congr 1
          unfold V
          generalize rows.getD i [] = r
          rw [List.getD_eq_getElem?_getD, List.getElem?_take_of_lt hj, List.getD_eq_getElem?_getD]
        obtain ⟨t', _, k1, k2, _⟩ := cara (rows := rows.map fun r => r.take g.length) (g := g) (fun t ht w _ _ => by
            have : sv t w g.length = 0 := by
              rw [sv_eq]
              refine sumN_zero fun i hi => ?_
              have hm : t.getD i [] ∈ t := by simp [hi]
              obtain ⟨r, _, hr⟩ := List.mem_map.1 (ht.subset hm)
              have : V (t.getD i []) g.length = 0 := by
                rw [← hr]
                unfold V
                rw [List.getD_eq_getElem?_getD, List.getElem?_eq_none (by simp; omega)]; rfl
              rw [this, Int.mul_zero]
            omega) t.length t (fun i => if i = t.length then s else a2 i) (Nat.le_refl _) g1 (fun i hi => by
            by_cases e : i = t.length
            · simp only [e, if_true]; exact hs
            · simp only [e, if_false]; exact g2 i (by omega)) (fun j hj => by
            simp only [if_true]
            rw [sv_congr (b := a2) (fun i hi => by rw [if_neg (by omega)]), g3, hrep j hj])
        exact ⟨t', k1, k2⟩
      obtain ⟨t', k1, k2⟩ := hcut
      obtain ⟨t0, ht0, he0⟩ := List.sublist_map_iff.1 k1
      refine ⟨t0, ht0, ?_⟩
      rw [he0] at k2
      have e : acrL g (t0.map fun r => r.take g.length) = acrL g t0 := by
        unfold acrL
        refine List.map_congr_left fun j hj => ?_
        rw [List.mem_range] at hj
        unfold acrR
        rw [List.map_map]
        congr 1
        refine List.map_congr_left fun r _ => ?_
        show (r.take g.length).getD j 0 = r.getD j 0
        rw [List.getD_eq_getElem?_getD, List.getElem?_take_of_lt hj, List.getD_eq_getElem?_getD]
      unfold wayB wayN at k2 ⊢
      rw [e, List.length_map] at k2
      exact k2
    · exact ⟨c, fun r hr => h1 _ (List.mem_map.2 ⟨r, hr, rfl⟩), h2⟩
  · rintro ⟨c, h1, h2⟩
    apply Classical.byContradiction
    intro hne
    obtain ⟨t, hs, hw⟩ := ways_some.1 hne
    obtain ⟨a, hp, hr, _⟩ := way_iff.1 hw
    have h3 : dot g.length c (sv t a) = a t.length * dot g.length c (V g) := by
      have : dot g.length c (sv t a) = dot g.length c (fun j => a t.length * V g j) := dot_congr (fun _ _ => rfl) hr
      rw [this]
      unfold dot
      rw [← sumN_mul]
      exact sumN_congr fun i _ => by grind
    have h4 : dot g.length c (sv t a) ≤ 0 := by
      have := dot_sm g.length c (t.map V) a
      show dot g.length c (sm (t.map V) a) ≤ 0
      rw [this, List.length_map]
      refine sumN_nonpos fun i hi => ?_
      have e2 : (t.map V).getD i (fun _ => 0) = V (t.getD i []) := by simp [hi]
      rw [e2]
      exact Int.mul_nonpos_of_nonneg_of_nonpos (Int.le_of_lt (hp i (by omega))) (h1 _ (hs.subset (by simp [hi])))
    have := Int.mul_pos (hp t.length (by omega)) h2
    omega

end Go.Proofs.Ytmljnfgfjcjmmaa

/- cone.Refuted: the first way, if there is one. -/
namespace Go.Proofs.Ytmljnfgfjcjmmaa
open Go.RowKit Go.Shelf
attribute [local go_sem] Oper.semAt_some

set_option maxHeartbeats 1000000 in
theorem waysF_any (rv gv : Value) (w : World) (ro go : Option Addr) (rn rc gn gc : Nat) (h1 : rv = .slice ro rn rc) (h2 : gv = .slice go gn gc) : Calls Try.prog 85 #[rv, gv] w fun e w' =>
    e = .returned (.func (.func 90) #[] #[.pointer (some ⟨w.heap.size + 1, 0, none⟩), .pointer (some ⟨w.heap.size, 0, none⟩)]) ∧ w' = (w.alloc (.cells #[rv] 26)).alloc (.cells #[gv] 22) := by
  subst h1 h2
  go_enter Try.func85, Try.ntmps85
  go_wp2
  go_ret
  exact ⟨rfl, rfl⟩

theorem sl_keep {B : Nat} {e : TypeId} {w W : World} {v : Value} {xs : List Value} (h : Sl B e w v xs) (hk : ∀ b, b < w.heap.size → W.heap[b]? = w.heap[b]?) : Sl B e W v xs :=
  h.move fun b hl ht => ⟨hk b hl, ht⟩

theorem mat_keep {B : Nat} {w W : World} {v : Value} {m : List (List Int)} (h : Mat B 22 3 w v m) (hk : ∀ b, b < w.heap.size → W.heap[b]? = w.heap[b]?) : Mat B 22 3 W v m := by
  obtain ⟨vs, h1, h2, h3⟩ := h
  exact ⟨vs, h1, sl_keep h2 hk, fun i hi => sl_keep (h3 i hi) hk⟩

/-- 0 everywhere, and -1 last. -/
def refG (d : Nat) : List Int := (List.range (d + 1)).map fun j => if j = d then -1 else 0

theorem refG_len (d : Nat) : (refG d).length = d + 1 := by simp [refG]

/-- What is told where rows are refuted. -/
def RefV (rows : List (List Int)) (d : Nat) (w : World) (tv : Value) : Prop :=
  (waysL rows (refG d) = [] ∧ tv = .agg #[.slice none 0 0, .slice none 0 0, .int .i64 0]) ∨
  ∃ c l co cc po pc, waysL rows (refG d) = c :: l ∧ tv = .agg #[.slice co c.length cc, .slice po c.length pc, .int .i64 1] ∧ Sl 0 3 w (.slice co c.length cc) (ints c) ∧ Sl 0 3 w (.slice po c.length pc) (ints (Lin.low ((wayN (refG d) (pks rows [] c)).take c.length)))

/-- Only where the slice lies must be as it was. -/
theorem sl_at_keep {e : TypeId} {w W : World} {ao : Option Addr} {n c : Nat} {xs : List Value} (h : Sl 0 e w (.slice ao n c) xs) (hk : ∀ a, ao = some a → a.block < w.heap.size → W.heap[a.block]? = w.heap[a.block]?) : Sl 0 e W (.slice ao n c) xs := by
  obtain ⟨ao', cap, hv, h1, h2, h3, h4⟩ := h
  simp only [Value.slice.injEq] at hv
  obtain ⟨rfl, hn, rfl⟩ := hv
  refine ⟨ao, c, by rw [hn], h1, h2, fun i hi => ?_, h4⟩
  obtain ⟨b, o, ha, hc, ht⟩ := h3 i hi
  have hx : xs[i]? = some xs[i] := List.getElem?_eq_getElem hi
  have hb := lt_of_cell (hc.trans hx)
  have k1 := hk _ ha hb
  refine ⟨b, o, ha, (World.cell?_of_block (w := w) (a := ⟨b, o + i, none⟩) k1).trans hc, ?_⟩
  rcases ht with ht | ⟨cur, ht⟩
  · omega
  · exact .inr ⟨cur, k1.trans ht⟩

theorem fiveB (w : World) (o1 o2 o3 o4 o5 : Obj) :
    ∃ W, W = ((((w.alloc o1).alloc o2).alloc o3).alloc o4).alloc o5 ∧ W.heap[w.heap.size]? = some o1 ∧ W.heap[w.heap.size + 1]? = some o2 ∧ W.heap[w.heap.size + 1 + 1]? = some o3 ∧ W.heap[w.heap.size + 1 + 1 + 1]? = some o4 ∧ W.heap[w.heap.size + 1 + 1 + 1 + 1]? = some o5 ∧ W.heap.size = w.heap.size + 5 ∧ Below w.heap.size w W := by
  obtain ⟨W, hW, e1, e2, e3, e4, hs, hb⟩ := fourB w o1 o2 o3 o4
  have hk := alloc_keep W o5
  refine ⟨W.alloc o5, by rw [hW], (hk.block _ (by omega)).trans e1, (hk.block _ (by omega)).trans e2, (hk.block _ (by omega)).trans e3, (hk.block _ (by omega)).trans e4, ?_, by rw [size_alloc]; omega, hb.trans (hk.mono (by omega))⟩
  rw [show w.heap.size + 1 + 1 + 1 + 1 = W.heap.size by omega]; exact alloc_new _ _

/-- Between the rounds: nothing has been told yet. -/
structure RfI (w WN : World) (S : Nat → Prop) (W : World) : Prop where
  sn : ∀ b, S b → w.heap.size + 3 ≤ b
  kp : Kpt (fun b => b < w.heap.size + 3) WN W
  os : W.os = w.os
  tape : W.tape = w.tape
  output : W.output = w.output

/-- The first way has been told. -/
structure RfX (w : World) (rows : List (List Int)) (g : List Int) (S : Nat → Prop) (x : List Int) (co po : Option Addr) (cc pc : Nat) (W : World) : Prop where
  sn : ∀ b, S b → w.heap.size + 3 ≤ b
  sz : w.heap.size + 3 ≤ W.heap.size
  os : W.os = w.os
  tape : W.tape = w.tape
  output : W.output = w.output
  block : ∀ b, b < w.heap.size → W.heap[b]? = w.heap[b]?
  tk : W.heap[w.heap.size]? = some (.cells #[.slice co x.length cc, .slice po x.length pc, .int .i64 1] 117 (0, 0))
  ok : W.heap[w.heap.size + 1]? = some (.cells #[.bool true] 4 (0, 0))
  cs : Sl 0 3 W (.slice co x.length cc) (ints x)
  ps : Sl 0 3 W (.slice po x.length pc) (ints (Lin.low ((wayN g (pks rows [] x)).take x.length)))
  cb : ∀ a, co = some a → ¬ S a.block ∧ isC W a.block
  pb : ∀ a, po = some a → ¬ S a.block ∧ isC W a.block

theorem RfI.stab {w WN W W' : World} {S S' : Nat → Prop} (h : RfI w WN S W) (hN : w.heap.size + 3 ≤ WN.heap.size) (hc : Chg S W W') (hs : ∀ b, S' b → S b ∨ W.heap.size ≤ b) : RfI w WN S' W' := by
  have h0 := h.kp.size
  refine ⟨fun b hb => ?_, h.kp.trans (Kpt.of_chg hc fun i _ hi hsi => ?_), hc.os.trans h.os, hc.tape.trans h.tape, hc.output.trans h.output⟩
  · rcases hs b hb with h1 | h1
    · exact h.sn b h1
    · omega
  · have := h.sn i hsi
    omega

theorem RfX.stab {w W W' : World} {rows : List (List Int)} {g : List Int} {S S' : Nat → Prop} {x : List Int} {co po : Option Addr} {cc pc : Nat} (h : RfX w rows g S x co po cc pc W) (hc : Chg S W W') (hs : ∀ b, S' b → S b ∨ W.heap.size ≤ b) : RfX w rows g S' x co po cc pc W' := by
  have h0 := h.sz
  have hlow : ∀ b, b < w.heap.size + 3 → W'.heap[b]? = W.heap[b]? := fun b hb => hc.block b (by omega) (fun hx => by have := h.sn b hx; omega)
  have hno : ∀ (a : Addr), ¬ S a.block ∧ isC W a.block → ¬ S' a.block ∧ isC W' a.block := fun a ha => ⟨fun hx => by
    rcases hs _ hx with h1 | h1
    · exact ha.1 h1
    · have := ha.2.lt; omega, ha.2.keep (hc.block _ ha.2.lt ha.1)⟩
  refine ⟨fun b hb => ?_, Nat.le_trans h0 hc.size, hc.os.trans h.os, hc.tape.trans h.tape, hc.output.trans h.output, fun b hb => (hlow b (by omega)).trans (h.block b hb), (hlow _ (by omega)).trans h.tk, (hlow _ (by omega)).trans h.ok,
    sl_at_keep h.cs (fun a ha hl => hc.block _ hl (h.cb a ha).1), sl_at_keep h.ps (fun a ha hl => hc.block _ hl (h.pb a ha).1), fun a ha => hno a (h.cb a ha), fun a ha => hno a (h.pb a ha)⟩
  rcases hs b hb with h1 | h1
  · exact h.sn b h1
  · omega

theorem handW_below (rows : List (List Int)) (g : List Int) (W : World) (S : Nat → Prop) (x : List Int) (vs : Array Value) (W' : World) (h : HandW rows g W S x vs) (hb : Below W.heap.size W W') : HandW rows g W' S x vs := by
  obtain ⟨co, cc, mo, mc, h1, h2, h3, h4, h5, h6, h7⟩ := h
  exact ⟨co, cc, mo, mc, h1, h2, h3.below hb (Nat.le_refl _), h4.below hb (Nat.le_refl _), fun a ha => ⟨(h5 a ha).1, (h5 a ha).2.keep (hb.block _ (h5 a ha).2.lt)⟩, fun a ha => ⟨(h6 a ha).1, (h6 a ha).2.keep (hb.block _ (h6 a ha).2.lt)⟩, fun b hb' => Nat.lt_of_lt_of_le (h7 b hb') hb.size⟩

theorem sl_put {W : World} {v : Value} {xs : List Value} {l : Nat} {r : Loop} (o : Obj) (h : Sl 0 3 W v xs) (hl : W.heap[l]? = some (.loop r)) : Sl 0 3 (W.putObj l o) v xs :=
  h.move fun b hb ht => ⟨World.putObj_heap_other (fun e => by
    subst e
    rcases ht with ht | ⟨c, ht⟩
    · omega
    · rw [hl] at ht; cases ht), ht⟩

theorem handW_put (rows : List (List Int)) (g : List Int) (W : World) (S : Nat → Prop) (x : List Int) (vs : Array Value) (l : Nat) (r : Loop) (o : Obj) (h : HandW rows g W S x vs) (hl : W.heap[l]? = some (.loop r)) : HandW rows g (W.putObj l o) S x vs := by
  obtain ⟨co, cc, mo, mc, h1, h2, h3, h4, h5, h6, h7⟩ := h
  have hp : ∀ b, isC W b → isC (W.putObj l o) b := fun b hb => hb.keep (World.putObj_heap_other (fun e => by
    subst e
    obtain ⟨c, t, hb⟩ := hb
    rw [hl] at hb; cases hb))
  exact ⟨co, cc, mo, mc, h1, h2, sl_put o h3 hl, sl_put o h4 hl, fun a ha => ⟨(h5 a ha).1, hp _ (h5 a ha).2⟩, fun a ha => ⟨(h6 a ha).1, hp _ (h6 a ha).2⟩, fun b hb => by simpa using h7 b hb⟩

/-- What the round's four stores come to. -/
theorem four_sets {w6 : World} {R : Nat} (a b c e : Value) {c0 : Array Value} {x0 x1 x2 y0 : Value} (hc0 : c0 = #[x0, x1, x2]) (h1 : w6.heap[R]? = some (.cells c0 117 (0, 0))) (h2 : w6.heap[R + 1]? = some (.cells #[y0] 4 (0, 0))) :
    ∃ Ws, Ws = (((w6.setCell ⟨R, 0, none⟩ a).setCell ⟨R, 1, none⟩ b).setCell ⟨R, 2, none⟩ c).setCell ⟨R + 1, 0, none⟩ e ∧ Ws.heap[R]? = some (.cells #[a, b, c] 117 (0, 0)) ∧ Ws.heap[R + 1]? = some (.cells #[e] 4 (0, 0)) ∧ (∀ k, k ≠ R → k ≠ R + 1 → Ws.heap[k]? = w6.heap[k]?) ∧ Ws.heap.size = w6.heap.size ∧ Ws.os = w6.os ∧ Ws.tape = w6.tape ∧ Ws.output = w6.output := by
  subst hc0
  have g1 : (w6.setCell ⟨R, 0, none⟩ a).heap[R]? = some (.cells #[a, x1, x2] 117 (0, 0)) := by simp [World.setCell, Array.getElem?_modify, h1]
  have g2 : ((w6.setCell ⟨R, 0, none⟩ a).setCell ⟨R, 1, none⟩ b).heap[R]? = some (.cells #[a, b, x2] 117 (0, 0)) := by rw [World.setCell]; simp [Array.getElem?_modify, g1]
  have g3 : (((w6.setCell ⟨R, 0, none⟩ a).setCell ⟨R, 1, none⟩ b).setCell ⟨R, 2, none⟩ c).heap[R]? = some (.cells #[a, b, c] 117 (0, 0)) := by rw [World.setCell]; simp [Array.getElem?_modify, g2]
  have g4 : (((w6.setCell ⟨R, 0, none⟩ a).setCell ⟨R, 1, none⟩ b).setCell ⟨R, 2, none⟩ c).heap[R + 1]? = some (.cells #[y0] 4 (0, 0)) := by
    rw [Below.heap_setCell _ _ _ _ (by simp), Below.heap_setCell _ _ _ _ (by simp), Below.heap_setCell _ _ _ _ (by simp)]; exact h2
  refine ⟨_, rfl, ?_, ?_, fun k h3 h4 => ?_, by simp [World.setCell], rfl, rfl, rfl⟩
  · rw [Below.heap_setCell _ _ _ _ (by simp)]; exact g3
  · rw [World.setCell]; simp [Array.getElem?_modify, g4]
  · rw [Below.heap_setCell _ _ _ _ h4, Below.heap_setCell _ _ _ _ h3, Below.heap_setCell _ _ _ _ h3, Below.heap_setCell _ _ _ _ h3]

set_option maxRecDepth 100000 in
set_option maxHeartbeats 8000000 in
theorem refuted_any (rows : List (List Int)) (d : Nat) (v : Value) (w : World) (hv : Mat w.heap.size 22 3 w v rows) (hr : ∀ r ∈ rows, r.length = d + 1 ∧ ∀ z ∈ r, z.natAbs ≤ 60) (hd : d ≤ 3) (hrl : rows.length ≤ 1000) :
    Calls Try.prog 96 #[v, .int .i64 d] w fun e w' => ∃ tv, e = .returned (.tuple #[tv, .bool (!(waysL rows (refG d)).isEmpty)]) ∧ RefV rows d w' tv ∧ Below w.heap.size w w' := by
  obtain ⟨ro, rc, hvv, hlc, hcm⟩ := mat_open hv
  subst hvv
  have hmk := run_make_row' (P := Try.prog) 22 3 (.int .i64 0) 8 Try.underlying22 Try.info3 rfl .i64 .i64 (d + 1) (by omega) (by omega)
  have HV : Hid (Mat w.heap.size 22 3 w (.slice ro rows.length rc) rows) := hv
  have HR : Hid (∀ r ∈ rows, r.length = d + 1 ∧ ∀ z ∈ r, z.natAbs ≤ 60) := hr
  have hdI : (d : Int) < ((d + 1 : Nat) : Int) := by omega
  have hdI0 : (0 : Int) ≤ (d : Int) := by omega
  have hdc : (((d + 1 : Nat) : Int)) = (d : Int) + 1 := by omega
  have hmc : (madeCells #[.int .i64 0] (d + 1))[d]? = some (.int .i64 0) := by
    rw [← Array.getElem?_toList, toList_madeCells_one]; simp
  rw [hdc] at hmk hdI
  clear hv hr hdc
  refine callsIn_wide (n := 0).1 ?_
  refine callsIn_of_wp_marks Try.func96 rfl trivial ?_ rfl
  simp only [Try.ntmps96, List.size_toArray, List.length_cons, List.length_nil, Nat.reduceAdd, Nat.reduceSub, Array.replicate_succ, Array.replicate_zero, List.push_toArray, List.append_toArray, List.nil_append, List.cons_append]
  gi_wp2_with (refine ⟨trivial, rfl, ?_⟩; gi_at_call 85; refine (callsIn_wide.2 (waysF_any _ _ _ _ _ _ _ _ _ rfl rfl)).mono ?_; rintro e w' ⟨rfl, rfl⟩)
  obtain ⟨WN, hWN, n1, n2, n3, n4, n5, hsN, hbN⟩ := fiveB w (.cells #[.slice none 0 0, .slice none 0 0, .int .i64 0] 117) (.cells #[.bool false] 4) (.cells ((madeCells #[.int .i64 0] (d + 1)).setIfInBounds d (.int .i64 (-1))) 3) (.cells #[.slice ro rows.length rc] 26) (.cells #[.slice (some ⟨w.heap.size + 1 + 1, 0, none⟩) (d + 1) (d + 1)] 22)
  rw [← hWN]
  clear hWN
  have hgrow : WN.rowIs (w.heap.size + 1 + 1) 3 (d + 1) (fun j => if j = d then .int .i64 (-1) else .int .i64 0) := by
    refine ⟨_, n3, ?_, fun i hi => ?_⟩
    · simp only [Array.size_setIfInBounds]
      rw [← Array.length_toList, toList_madeCells_one]; simp
    · rw [Array.getElem?_setIfInBounds]
      by_cases e : d = i
      · subst e
        have hz : d < (madeCells #[.int .i64 0] (d + 1)).size := by rw [← Array.length_toList, toList_madeCells_one]; simp
        simp [hz]
      · rw [if_neg e, ← Array.getElem?_toList, toList_madeCells_one]
        simp [hi, show ¬ i = d from fun h => e h.symm]
  have hgs : Sl 0 3 WN (.slice (some ⟨w.heap.size + 1 + 1, 0, none⟩) (d + 1) (d + 1)) (ints (refG d)) := by
    refine Sl.row' hgrow (by unfold maxLen; omega) (by simp [refG]) (fun i hi => ?_)
    rw [ints_get _ _ (by rw [refG_len]; exact hi)]
    by_cases e : i = d
    · subst e; simp [refG]
    · simp [refG, hi, e]
  have HSQ : SeqS Try.prog 90 #[.pointer (some ⟨w.heap.size + 1 + 1 + 1 + 1, 0, none⟩), .pointer (some ⟨w.heap.size + 1 + 1 + 1, 0, none⟩)] (HandW rows (refG d)) (waysL rows (refG d)) (fun b => b < w.heap.size ∨ b = w.heap.size + 1 + 1) (fun b => b = w.heap.size + 1 + 1 + 1 + 1 ∨ b = w.heap.size + 1 + 1 + 1) WN :=
    ways_seq w.heap.size _ _ rows (refG d) ro (some ⟨w.heap.size + 1 + 1, 0, none⟩) rc (d + 1) _ WN (by rw [refG_len]; exact cell_of n5) (cell_of n4)
      (fun W hk => mat_keep HV.out (fun b hb => (hk.block b (by omega) (.inl hb)).trans (hbN.block b hb)))
      (fun W hk => by rw [refG_len]; exact (sl_at_keep hgs (fun a ha _ => by cases ha; exact hk.block _ (by show w.heap.size + 1 + 1 < _; omega) (.inr rfl))).more (Nat.zero_le _))
      (fun b hb => by omega) (fun r hr => ⟨by rw [refG_len, (HR.out r hr).1]; exact Nat.le_refl _, (HR.out r hr).2⟩) (fun z hz => by
        simp only [refG, List.mem_map] at hz
        obtain ⟨j, _, rfl⟩ := hz
        split <;> decide) (by rw [refG_len]; omega) (by rw [refG_len]; omega) hrl
  have HSZ : Hid (WN.heap.size = w.heap.size + 5) := hsN
  have HI0 : Hid (RfI w WN (fun b => b = w.heap.size + 1 + 1 + 1 + 1 ∨ b = w.heap.size + 1 + 1 + 1) WN) := ⟨fun b hb => by omega, Kpt.refl _ _, hbN.os, hbN.tape, hbN.output⟩
  have HN1 : Hid (WN.heap[w.heap.size]? = some (.cells #[.slice none 0 0, .slice none 0 0, .int .i64 0] 117 (0, 0)) ∧ WN.heap[w.heap.size + 1]? = some (.cells #[.bool false] 4 (0, 0))) := ⟨n1, n2⟩
  have HBN : Hid (Below w.heap.size w WN) := hbN
  clear n1 n2 n3 n4 n5 hgrow hgs hbN hmc hmk
  refine range_s (R := HandW rows (refG d)) (cs := waysL rows (refG d)) (T := fun b => b < w.heap.size ∨ b = w.heap.size + 1 + 1) (S0 := fun b => b = w.heap.size + 1 + 1 + 1 + 1 ∨ b = w.heap.size + 1 + 1 + 1) (gf := 90) (lb := #[.pointer (some ⟨w.heap.size + 1 + 1 + 1 + 1, 0, none⟩), .pointer (some ⟨w.heap.size + 1 + 1 + 1, 0, none⟩)]) rfl (enters_of Try.func90 (by kernel_rfl) rfl) HSQ (fun b hb => by omega)
    (fun W' S x vs ⟨_, _, _, _, h1, _⟩ => by rw [h1]; rfl) (handW_below _ _) (handW_put _ _)
    (fun S pre W' => pre = [] ∧ RfI w WN S W')
    (fun c S pre W' => c = .ret ∧ ∃ x co po cc pc, pre = [x] ∧ RfX w rows (refG d) S x co po cc pc W')
    (fun S S' pre W' W'' h hc hs => ⟨h.1, h.2.stab (by have := HSZ.out; omega) hc hs⟩) (fun c S S' pre W' W'' ⟨h1, x, co, po, cc, pc, h2, h3⟩ hc hs => ⟨h1, x, co, po, cc, pc, h2, h3.stab hc hs⟩) ⟨rfl, HI0.out⟩
    (fun vs a' W' => ∃ p q u bx, vs = #[.agg #[p, q, u]] ∧ W'.heap[bx]? = some (.cells #[p, q, u] 117 (0, 0)) ∧ a' = { tmps := #[.slice ro rows.length rc, .int .i64 d, undef, undef, .pointer (some ⟨w.heap.size, 0, none⟩), .pointer (some ⟨w.heap.size + 1, 0, none⟩), .slice (some ⟨w.heap.size + 1 + 1, 0, none⟩) (d + 1) (d + 1), .pointer (some ⟨bx, 0, none⟩), .int .i64 d, .int .i64 ((d : Int) + 1), .slice (some ⟨w.heap.size + 1 + 1, 0, none⟩) (d + 1) (d + 1), .slice (some ⟨w.heap.size + 1 + 1, 0, none⟩) (d + 1) (d + 1), .int .i64 d, .pointer (some ⟨w.heap.size + 1 + 1, d, none⟩), .slice ro rows.length rc, .slice (some ⟨w.heap.size + 1 + 1, 0, none⟩) (d + 1) (d + 1), .func (.func 90) #[] #[.pointer (some ⟨w.heap.size + 1 + 1 + 1 + 1, 0, none⟩), .pointer (some ⟨w.heap.size + 1 + 1 + 1, 0, none⟩)], .agg #[p, q, u], undef, undef, undef, undef, undef, undef, undef], defers := [] })
    ?hax ?assign ?body ?tl ?done ?stop
  case hax =>
    rintro vs a' W' l r o ⟨p, q, u, bx, h1, h2, h3⟩ hl
    exact ⟨p, q, u, bx, h1, (World.putObj_heap_other (fun e => by subst e; rw [hl] at h2; cases h2)).trans h2, h3⟩
  case tl => rintro (h | h) <;> omega
  case assign =>
    rintro S x vs W' K ⟨co, cc, mo, mc, rfl, h2, h3⟩ hK
    gi_wp2
    exact hK _ _ (alloc_keep _ _) ⟨_, _, _, W'.heap.size, rfl, alloc_new _ _, rfl⟩
  case body =>
    rintro S pre x vs a' W1 ⟨rfl, hi⟩ hSD hSL hlt1 hdf hlp hpre ⟨S1, ⟨co, cc, mo, mc, hvs, hwb, hcs, hms, hcb, hmb, hslt⟩, hS1⟩ ⟨p, q, u, bx, hvs', hbx, rfl⟩
    rw [hvs] at hvs'
    simp only [Array.mk.injEq, List.cons.injEq, Value.agg.injEq, and_true] at hvs'
    obtain ⟨rfl, rfl, rfl⟩ := hvs'
    have hxm : x ∈ waysL rows (refG d) := hpre.subset (by simp)
    obtain ⟨L, hL⟩ : ∃ L, L = (wayN (refG d) (pks rows [] x)).take x.length := ⟨_, rfl⟩
    have hpl : (pks rows [] x).length = x.length := by simp [pks]
    have hx3 : x.length ≤ 4 := by
      simp only [waysL, waysTo, List.mem_flatMap, List.mem_range, List.mem_filter] at hxm
      obtain ⟨m, hm, hm2, _⟩ := hxm
      have h1 := (ext_rise hm2).1
      rw [refG_len] at hm
      omega
    have hrise : ∀ t, t < x.length → 0 ≤ x.getD t 0 ∧ x.getD t 0 < rows.length := by
      simp only [waysL, waysTo, List.mem_flatMap, List.mem_range, List.mem_filter] at hxm
      obtain ⟨m, hm, hm2, _⟩ := hxm
      obtain ⟨h1, h2, _⟩ := ext_rise hm2
      intro t ht
      have := h2 t (by omega)
      exact ⟨by omega, this.2⟩
    have hmx : Mx (x.length + 1) 60 (acrL (refG d) (pks rows [] x)) := by
      rw [← hpl]
      refine acrL_mx (fun r hr z hz => ?_) (fun z hz => ?_) (by omega)
      · simp only [pks, List.mem_map] at hr
        obtain ⟨i, hi', rfl⟩ := hr
        obtain ⟨t, ht, rfl⟩ := List.getElem_of_mem hi'
        have h1 := hrise t ht
        rw [List.getD_eq_getElem?_getD, List.getElem?_eq_getElem ht] at h1
        simp only [Option.getD_some] at h1
        exact (HR.out _ (by rw [List.getD_eq_getElem?_getD, List.getElem?_eq_getElem (by omega)]; exact List.getElem_mem _)).2 z hz
      · simp only [refG, List.mem_map] at hz
        obtain ⟨j, _, rfl⟩ := hz
        split <;> decide
    have hLl : L.length = x.length := by
      have hb : normB ((pks rows [] x).length + 1) (acrL (refG d) (pks rows [] x)) = true := by
        unfold wayB at hwb
        rw [Bool.and_eq_true] at hwb
        exact hwb.1
      have := norm_len hb
      rw [hL]
      simp only [wayN, List.length_take, this]
      omega
    have hLb : ∀ z ∈ L, z.natAbs ≤ 4611686018427387904 := fun z hz => by
      rw [hL] at hz
      have h1 := List.mem_of_mem_take hz
      unfold wayN at h1
      rw [hpl] at h1
      have := norm_bd hmx z h1
      omega
    rw [← hL] at hms
    have hbxl := (Array.getElem?_eq_some_iff.1 hbx).1
    have r1 : W1.heap[w.heap.size]? = some (.cells #[.slice none 0 0, .slice none 0 0, .int .i64 0] 117 (0, 0)) := (hi.kp.block _ (by have := HSZ.out; omega) (by omega)).trans HN1.out.1
    have r2 : W1.heap[w.heap.size + 1]? = some (.cells #[.bool false] 4 (0, 0)) := (hi.kp.block _ (by have := HSZ.out; omega) (by omega)).trans HN1.out.2
    have hlow : ∀ b, b < w.heap.size + 3 → W1.heap[b]? = WN.heap[b]? := fun b hb => hi.kp.block b (by have := HSZ.out; omega) hb
    have hsz1 : w.heap.size + 3 ≤ W1.heap.size := by have := hi.kp.size; have := HSZ.out; omega
    have HPR : Hid (Calls Try.prog 79 #[.slice mo x.length mc] W1.drew fun e w' => ∃ uo uc, e = .returned (.slice uo x.length uc) ∧ w'.ownsRow W1.heap.size 3 1 (.slice uo x.length uc) x.length (ints (Lin.low L)) ∧ Below W1.heap.size W1.drew w' ∧
        w'.cell? ⟨bx, 0, none⟩ = some (.slice co x.length cc) ∧ w'.cell? ⟨w.heap.size, 0, none⟩ = some (.slice none 0 0) ∧ w'.cell? ⟨w.heap.size, 1, none⟩ = some (.slice none 0 0) ∧ w'.cell? ⟨w.heap.size, 2, none⟩ = some (.int .i64 0) ∧ w'.cell? ⟨w.heap.size + 1, 0, none⟩ = some (.bool false) ∧
        w'.frozen? ⟨w.heap.size, 0, none⟩ = false ∧ w'.frozen? ⟨w.heap.size, 1, none⟩ = false ∧ w'.frozen? ⟨w.heap.size, 2, none⟩ = false ∧ w'.frozen? ⟨w.heap.size + 1, 0, none⟩ = false) := by
      have h := primitive_own 0 L (.slice mo x.length mc) W1.drew hms (by omega) hLb
      refine h.mono ?_
      rintro e w' ⟨u', rfl, h1, h2⟩
      rw [hLl] at h1
      obtain ⟨uo, uc, rfl⟩ := owns_form h1
      have q0 : w'.heap[bx]? = _ := (h2.block _ hbxl).trans hbx
      have q1 : w'.heap[w.heap.size]? = _ := (h2.block _ (by show _ < W1.heap.size; omega)).trans r1
      have q2 : w'.heap[w.heap.size + 1]? = _ := (h2.block _ (by show _ < W1.heap.size; omega)).trans r2
      exact ⟨uo, uc, rfl, h1, h2, by simp [World.cell?, q0], by simp [World.cell?, q1], by simp [World.cell?, q1], by simp [World.cell?, q1], by simp [World.cell?, q2], by simp [World.frozen?, q1], by simp [World.frozen?, q1], by simp [World.frozen?, q1], by simp [World.frozen?, q2]⟩
    have b0 : W1.cell? ⟨bx, 0, none⟩ = some (.slice co x.length cc) := by simp [World.cell?, hbx]
    have b1 : W1.cell? ⟨bx, 1, none⟩ = some (.slice mo x.length mc) := by simp [World.cell?, hbx]
    have HFIN : Hid (∀ uo uc w6, w6.ownsRow W1.heap.size 3 1 (.slice uo x.length uc) x.length (ints (Lin.low L)) ∧ Below W1.heap.size W1.drew w6 →
        Kpt (fun b => S b ∨ b < w.heap.size ∨ b = w.heap.size + 1 + 1) W1 ((((w6.setCell ⟨w.heap.size, 0, none⟩ (.slice co x.length cc)).setCell ⟨w.heap.size, 1, none⟩ (.slice uo x.length uc)).setCell ⟨w.heap.size, 2, none⟩ (.int .i64 1)).setCell ⟨w.heap.size + 1, 0, none⟩ (.bool true)) ∧
        RfX w rows (refG d) S x co uo cc uc ((((w6.setCell ⟨w.heap.size, 0, none⟩ (.slice co x.length cc)).setCell ⟨w.heap.size, 1, none⟩ (.slice uo x.length uc)).setCell ⟨w.heap.size, 2, none⟩ (.int .i64 1)).setCell ⟨w.heap.size + 1, 0, none⟩ (.bool true))) := by
      rintro uo uc w6 ⟨ho, hb⟩
      have hbk : ∀ k, k < W1.heap.size → w6.heap[k]? = W1.heap[k]? := fun k hk => hb.block k hk
      have hb6 : W1.heap.size ≤ w6.heap.size := hb.size
      obtain ⟨Ws, hWs, f1, f2, f3, f4, f5, f6, f7⟩ := four_sets (w6 := w6) (R := w.heap.size) (.slice co x.length cc) (.slice uo x.length uc) (.int .i64 1) (.bool true) rfl ((hbk _ (by omega)).trans r1) ((hbk _ (by omega)).trans r2)
      rw [← hWs]
      clear hWs
      have hslt' : ∀ b, S b → b < W1.heap.size := fun b hb' => by
        rcases (hS1 b).1 hb' with h | h | h
        · exact hslt b h
        · omega
        · omega
      have ty : ∀ {v : Value} {xs : List Value}, Sl 0 3 w6 v xs → Sl 0 3 Ws v xs := fun h => h.move fun k hl ht => ⟨f3 k (fun e => by
          subst e
          rcases ht with ht | ⟨c, ht⟩
          · omega
          · rw [hbk _ (by omega), r1] at ht; simp at ht) (fun e => by
          subst e
          rcases ht with ht | ⟨c, ht⟩
          · omega
          · rw [hbk _ (by omega), r2] at ht; simp at ht), ht⟩
      refine ⟨⟨by omega, fun k hk hs => ?_⟩, hi.sn, by omega, by rw [f5]; exact hb.os.trans hi.os, by rw [f6]; exact hb.tape.trans hi.tape, by rw [f7]; exact hb.output.trans hi.output, fun k hk => ?_, f1, f2, ty (sl_keep hcs (fun k hk => hbk k hk)), by rw [← hL]; exact ty (Sl.own ho), fun a ha => ?_, fun a ha => ?_⟩
      · have hne : k ≠ w.heap.size ∧ k ≠ w.heap.size + 1 := by
          rcases hs with hs | hs | hs
          · have := hi.sn k hs; omega
          · omega
          · omega
        exact (f3 k hne.1 hne.2).trans (hbk k hk)
      · exact (f3 k (by omega) (by omega)).trans ((hbk k (by omega)).trans ((hlow k (by omega)).trans (HBN.out.block k hk)))
      · obtain ⟨h1, h2⟩ := hcb a ha
        obtain ⟨cur, t, h3⟩ := h2
        have hal := (Array.getElem?_eq_some_iff.1 h3).1
        refine ⟨fun hx => ?_, ?_⟩
        · rcases (hS1 _).1 hx with h | h | h
          · exact h1 h
          · rw [h] at h3; rw [hdf] at h3; cases h3
          · obtain ⟨r, hlp⟩ := hlp; rw [h] at h3; rw [hlp] at h3; cases h3
        · by_cases e1 : a.block = w.heap.size
          · exact ⟨_, _, by rw [e1]; exact f1⟩
          · by_cases e2 : a.block = w.heap.size + 1
            · exact ⟨_, _, by rw [e2]; exact f2⟩
            · exact ⟨cur, t, (f3 _ e1 e2).trans ((hbk _ hal).trans h3)⟩
      · rcases ho.2 with ⟨h1, _⟩ | ⟨g', cap', cur', h1, h2, h3, _⟩
        · simp only [Value.slice.injEq] at h1; rw [h1.1] at ha; cases ha
        · simp only [Value.slice.injEq] at h1
          rw [h1.1] at ha
          cases ha
          refine ⟨fun hx => ?_, cur', _, (f3 g' (by omega) (by omega)).trans h3⟩
          have := hslt' g' hx
          omega
    clear hi hcs hms hcb hmb hslt hS1 hdf hlp hpre hwb hxm hrise hmx hLb hLl r1 r2 hlow hvs hbx hL hpl HV HR
    gi_wp2
    gi_region_with (refine ⟨trivial, rfl, ?_⟩; gi_at_call 79; refine (CallsIn.inRound _ (callsIn_wide.2 HPR.out)).mono ?_; rintro e w6 ⟨uo, uc, rfl, hown, hbl, z0, z1, z2, z3, z4, z5, z6, z7, z8⟩; have HU : Hid (w6.ownsRow W1.heap.size 3 1 (.slice uo x.length uc) x.length (ints (Lin.low L)) ∧ Below W1.heap.size W1.drew w6) := ⟨hown, hbl⟩; clear hown hbl)
    all_goals
      have HF := HFIN.out uo uc w6 HU.out
      clear z0 z1 z2 z3 z4 z5 z6 z7 z8 HPR HFIN b0 b1
      gi_wp2
      exact ⟨HF.1, rfl, x, co, uo, cc, uc, rfl, HF.2⟩
  case done =>
    rintro S W' ⟨hnil, hi⟩ hSD hdf
    have hsz := HSZ.out
    have hws := hi.kp.size
    have r1 : W'.heap[w.heap.size]? = some (.cells #[.slice none 0 0, .slice none 0 0, .int .i64 0] 117 (0, 0)) := (hi.kp.block _ (by omega) (by omega)).trans HN1.out.1
    have r2 : W'.heap[w.heap.size + 1]? = some (.cells #[.bool false] 4 (0, 0)) := (hi.kp.block _ (by omega) (by omega)).trans HN1.out.2
    have k0 : W'.cell? ⟨w.heap.size, 0, none⟩ = some (.slice none 0 0) := by simp [World.cell?, r1]
    have k1 : W'.cell? ⟨w.heap.size, 1, none⟩ = some (.slice none 0 0) := by simp [World.cell?, r1]
    have k2 : W'.cell? ⟨w.heap.size, 2, none⟩ = some (.int .i64 0) := by simp [World.cell?, r1]
    have k3 : W'.cell? ⟨w.heap.size + 1, 0, none⟩ = some (.bool false) := by simp [World.cell?, r2]
    have f0 : W'.frozen? ⟨w.heap.size, 0, none⟩ = false := by simp [World.frozen?, r1]
    have f1 : W'.frozen? ⟨w.heap.size, 1, none⟩ = false := by simp [World.frozen?, r1]
    have f2 : W'.frozen? ⟨w.heap.size, 2, none⟩ = false := by simp [World.frozen?, r1]
    have f3 : W'.frozen? ⟨w.heap.size + 1, 0, none⟩ = false := by simp [World.frozen?, r2]
    have HF : Hid (∃ Ws, Ws = (((W'.setCell ⟨w.heap.size, 0, none⟩ (.slice none 0 0)).setCell ⟨w.heap.size, 1, none⟩ (.slice none 0 0)).setCell ⟨w.heap.size, 2, none⟩ (.int .i64 0)).setCell ⟨w.heap.size + 1, 0, none⟩ (.bool false) ∧ Ws.heap[w.heap.size]? = some (.cells #[.slice none 0 0, .slice none 0 0, .int .i64 0] 117 (0, 0)) ∧ Ws.heap[w.heap.size + 1]? = some (.cells #[.bool false] 4 (0, 0)) ∧ (∀ k, k ≠ w.heap.size → k ≠ w.heap.size + 1 → Ws.heap[k]? = W'.heap[k]?) ∧ Ws.heap.size = W'.heap.size ∧ Ws.os = W'.os ∧ Ws.tape = W'.tape ∧ Ws.output = W'.output) := four_sets _ _ _ _ rfl r1 r2
    have HI : Hid (RfI w WN S W') := hi
    have HDF : Hid (W'.heap[WN.heap.size]? = some (.deferred (some []))) := hdf
    have HNIL : Hid (waysL rows (refG d) = []) := hnil.symm ▸ rfl
    clear hi hdf hnil r1 r2 hsN hws hsz HSQ
    gi_wp2
    obtain ⟨Ws, hWs, g1, g2, g3, g4, g5, g6, g7⟩ := HF.out
    rw [← hWs]
    have hsz := HSZ.out
    have hws := HI.out.kp.size
    have hlow : ∀ b, b < w.heap.size → W'.heap[b]? = w.heap[b]? := fun b hb => (HI.out.kp.block b (by omega) (by omega)).trans (HBN.out.block b hb)
    refine leaves_mks [WN.heap.size] Ws (by simp) (fun r hr => ?_) (fun w' hc => ⟨.tuple #[.agg #[.slice none 0 0, .slice none 0 0, .int .i64 0], .bool false], ?_, ?_⟩)
    · simp only [List.mem_singleton] at hr
      subst hr
      exact (g3 _ (by omega) (by omega)).trans HDF.out
    · have q1 : w'.heap[w.heap.size]? = _ := (hc.block _ (by omega) (by simp; omega)).trans g1
      have q2 : w'.heap[w.heap.size + 1]? = _ := (hc.block _ (by omega) (by simp; omega)).trans g2
      simp [results, Try.results96, go_sem, World.cell?, q1, q2]
    · refine ⟨_, by rw [HNIL.out]; rfl, .inl ⟨HNIL.out, rfl⟩, hc.os.trans (g5.trans HI.out.os), hc.tape.trans (g6.trans HI.out.tape), hc.output.trans (g7.trans HI.out.output), by have := hc.size; omega, fun b hb => ?_⟩
      exact (hc.block b (by omega) (by simp; omega)).trans ((g3 b (by omega) (by omega)).trans (hlow b hb))
  case stop =>
    rintro c S pre W' hpre ⟨rfl, x, co, po, cc, pc, rfl, hx⟩ hSD hdf
    have hsz := HSZ.out
    have hws := hx.sz
    have hdl := (Array.getElem?_eq_some_iff.1 hdf).1
    obtain ⟨t, ht⟩ := hpre
    have HT : Hid (waysL rows (refG d) = x :: t) := ht.symm
    have HX : Hid (RfX w rows (refG d) S x co po cc pc W') := hx
    have HDF : Hid (W'.heap[WN.heap.size]? = some (.deferred (some []))) := hdf
    clear hx hdf ht HSQ
    gi_wp2
    have ty : ∀ (w' : World), Chg (fun b => b ∈ [WN.heap.size]) W' w' → ∀ {v : Value} {xs : List Value}, Sl 0 3 W' v xs → Sl 0 3 w' v xs := fun w' hc v xs h => h.move fun k hl ht => ⟨hc.block k hl (fun e => by
          simp only [List.mem_singleton] at e
          subst e
          rcases ht with ht | ⟨c, ht⟩
          · omega
          · rw [HDF.out] at ht; cases ht), ht⟩
    refine leaves_mks [WN.heap.size] W' (by simp) (fun r hr => ?_) (fun w' hc => ⟨.tuple #[.agg #[.slice co x.length cc, .slice po x.length pc, .int .i64 1], .bool true], ?_, ?_⟩)
    · simp only [List.mem_singleton] at hr
      subst hr
      exact HDF.out
    · have q1 : w'.heap[w.heap.size]? = _ := (hc.block _ (by omega) (by simp; omega)).trans HX.out.tk
      have q2 : w'.heap[w.heap.size + 1]? = _ := (hc.block _ (by omega) (by simp; omega)).trans HX.out.ok
      simp [results, Try.results96, go_sem, World.cell?, q1, q2]
    · refine ⟨_, by rw [HT.out]; rfl, .inr ⟨x, t, co, cc, po, pc, HT.out, rfl, ty w' hc HX.out.cs, ty w' hc HX.out.ps⟩, hc.os.trans HX.out.os, hc.tape.trans HX.out.tape, hc.output.trans HX.out.output, by have := hc.size; omega, fun b hb => ?_⟩
      exact (hc.block b (by omega) (by simp; omega)).trans (HX.out.block b hb)

end Go.Proofs.Ytmljnfgfjcjmmaa
