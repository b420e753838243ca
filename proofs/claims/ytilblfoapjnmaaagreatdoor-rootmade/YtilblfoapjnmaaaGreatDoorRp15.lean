/- root.kindOf: the walk. -/
import Derived.Test.YtilblfoapjnmaaaGreatDoorMgAO
import Derived.Test.YtilblfoapjnmaaaGreatDoorMgAP
import Derived.Test.YtilblfoapjnmaaaGreatDoorMgAQ
import Derived.Deep.WholeRow
namespace Go.Proofs.YtilblfoapjnmaaaGreatDoor
open Go.RowKit Go.Shelf
attribute [local go_sem] Oper.semAt_some

/-- The letters of all kinds. -/
def ltU : List UInt8 := [65, 66, 67, 68, 70, 71]
/-- In this order the square is that of this letter. -/
def kdT (c : List (List Int)) (r : List Nat) (m : Nat) (l : UInt8) : Bool := isK l.toNat m && (List.range 16).all fun k => sqC (pcL (l, UInt8.ofNat (48 + m))) k == amC c r k
def kdF (c : List (List Int)) (p : List Nat) (o : List Int) : Option UInt8 := ltU.find? (kdT c (pkN p o) p.length)
def kdO (c : List (List Int)) (p : List Nat) : Option UInt8 := (ords p.length p.length []).findSome? (kdF c p)
def kvA (m : Nat) : Option UInt8 → Array Value
  | some l => #[.int .i32 (l.toNat : Nat), .int .i64 (m : Nat)]
  | none => #[.int .i32 0, .int .i64 0]

theorem slK {B : Nat} {e : TypeId} {w W : World} {v : Value} {xs : List Value} (h : Sl B e w v xs) (hk : ∀ b, b < w.heap.size → W.heap[b]? = w.heap[b]?) : Sl B e W v xs :=
  h.move fun b hl ht => ⟨hk b hl, ht⟩
theorem matK {B : Nat} {w W : World} {v : Value} {m : List (List Int)} (h : Mat B 26 3 w v m) (hk : ∀ b, b < w.heap.size → W.heap[b]? = w.heap[b]?) : Mat B 26 3 W v m := by
  obtain ⟨vs, h1, h2, h3⟩ := h
  exact ⟨vs, h1, slK h2 hk, fun i hi => slK (h3 i hi) hk⟩

/-- Between the rounds: nothing has been found yet. -/
structure KoI (w WN : World) (c : List (List Int)) (p : List Nat) (S : Nat → Prop) (pre : List (List Int)) (W : World) : Prop where
  sn : ∀ b, S b → w.heap.size + 3 ≤ b
  kp : Kpt (fun b => b < w.heap.size + 3) WN W
  os : W.os = w.os
  tape : W.tape = w.tape
  output : W.output = w.output
  no : ∀ o ∈ pre, kdF c p o = none

/-- One has been found and told. -/
structure KoX (w : World) (c : List (List Int)) (p : List Nat) (S : Nat → Prop) (pre : List (List Int)) (W : World) : Prop where
  sn : ∀ b, S b → w.heap.size + 3 ≤ b
  sz : w.heap.size + 3 ≤ W.heap.size
  os : W.os = w.os
  tape : W.tape = w.tape
  output : W.output = w.output
  block : ∀ b, b < w.heap.size → W.heap[b]? = w.heap[b]?
  yes : ∃ q x l, pre = q ++ [x] ∧ (∀ o ∈ q, kdF c p o = none) ∧ kdF c p x = some l ∧ W.heap[w.heap.size + 1 + 1]? = some (.cells (kvA p.length (some l)) 51 (0, 0))

theorem KoI.stab {w WN W W' : World} {c : List (List Int)} {p : List Nat} {S S' : Nat → Prop} {pre : List (List Int)} (h : KoI w WN c p S pre W) (hN : w.heap.size + 3 ≤ WN.heap.size) (hc : Chg S W W') (hs : ∀ b, S' b → S b ∨ W.heap.size ≤ b) : KoI w WN c p S' pre W' := by
  have h0 := h.kp.size
  refine ⟨fun b hb => ?_, h.kp.trans (Kpt.of_chg hc fun i _ hi hsi => ?_), hc.os.trans h.os, hc.tape.trans h.tape, hc.output.trans h.output, h.no⟩
  · rcases hs b hb with h1 | h1
    · exact h.sn b h1
    · omega
  · have := h.sn i hsi
    omega

theorem KoX.stab {w W W' : World} {c : List (List Int)} {p : List Nat} {S S' : Nat → Prop} {pre : List (List Int)} (h : KoX w c p S pre W) (hc : Chg S W W') (hs : ∀ b, S' b → S b ∨ W.heap.size ≤ b) : KoX w c p S' pre W' := by
  have h0 := h.sz
  have hlow : ∀ b, b < w.heap.size + 3 → W'.heap[b]? = W.heap[b]? := fun b hb => hc.block b (by omega) (fun hx => by have := h.sn b hx; omega)
  refine ⟨fun b hb => ?_, Nat.le_trans h0 hc.size, hc.os.trans h.os, hc.tape.trans h.tape, hc.output.trans h.output, fun b hb => (hlow b (by omega)).trans (h.block b hb), ?_⟩
  · rcases hs b hb with h1 | h1
    · exact h.sn b h1
    · omega
  · obtain ⟨q, x, l, h1, h2, h3, h4⟩ := h.yes
    exact ⟨q, x, l, h1, h2, h3, (hlow _ (by omega)).trans h4⟩

theorem handK_below (N0 : Nat) (W : World) (S : Nat → Prop) (x : List Int) (vs : Array Value) (W' : World) (h : Hand N0 W S x vs) (hb : Below W.heap.size W W') : Hand N0 W' S x vs := by
  obtain ⟨v, B0, h1, h2, h3, h4, h5⟩ := h
  exact ⟨v, B0, h1, owns_below h2 hb (Nat.le_refl _), h3, h4, Nat.le_trans h5 hb.size⟩

theorem ownsK_putObj {B : Nat} {W : World} {e : TypeId} {v : Value} {n : Nat} {xs : List Value} {l : Nat} {r : Loop} (h : W.ownsRow B e 1 v n xs) (o : Obj) (hl : W.heap[l]? = some (.loop r)) : (W.putObj l o).ownsRow B e 1 v n xs := by
  refine ⟨h.1, ?_⟩
  rcases h.2 with h2 | ⟨g, cap, cur, rfl, hb, hh, k⟩
  · exact Or.inl h2
  · refine Or.inr ⟨g, cap, cur, rfl, hb, ?_, k⟩
    have hne : g ≠ l := fun e => by rw [e, hl] at hh; cases hh
    exact (World.putObj_heap_other (k := g) (r := l) hne).trans hh

theorem handK_put (N0 : Nat) (W : World) (S : Nat → Prop) (x : List Int) (vs : Array Value) (l : Nat) (r : Loop) (o : Obj) (h : Hand N0 W S x vs) (hl : W.heap[l]? = some (.loop r)) : Hand N0 (W.putObj l o) S x vs := by
  obtain ⟨v, B0, h1, h2, h3, h4, h5⟩ := h
  exact ⟨v, B0, h1, ownsK_putObj h2 _ hl, h3, h4, by simpa using h5⟩

theorem find_some {α β : Type} {f : α → Option β} {cs q : List α} {x : α} {l : β} (h : q ++ [x] <+: cs) (h1 : ∀ o ∈ q, f o = none) (h2 : f x = some l) : cs.findSome? f = some l := by
  obtain ⟨t, rfl⟩ := h
  rw [List.findSome?_append, List.findSome?_append, List.findSome?_eq_none_iff.2 h1]
  simp [h2]

theorem isK_mem {k m : Nat} (hk : k < 6) (hm0 : 0 < m) (hm : m ≤ 4) (h : isK (ltU.getD k 0).toNat m = true) : (ltU.getD k 0, UInt8.ofNat (48 + m)) ∈ kdL ∧ rkP (ltU.getD k 0, UInt8.ofNat (48 + m)) = m := by
  rcases (show m = 1 ∨ m = 2 ∨ m = 3 ∨ m = 4 by omega) with rfl | rfl | rfl | rfl <;>
  rcases (show k = 0 ∨ k = 1 ∨ k = 2 ∨ k = 3 ∨ k = 4 ∨ k = 5 by omega) with rfl | rfl | rfl | rfl | rfl | rfl <;>
  first | (revert h; decide) | exact ⟨by decide, by decide⟩

theorem find_ltU {f : UInt8 → Bool} {k : Nat} (hk : k < 6) (h0 : ∀ i, i < k → f (ltU.getD i 0) = false) (h1 : f (ltU.getD k 0) = true) : ltU.find? f = some (ltU.getD k 0) := by
  have hl : ltU.length = 6 := rfl
  rw [List.find?_eq_some_iff_getElem]
  refine ⟨h1, k, by omega, by simp [hl, hk], fun j hj => ?_⟩
  have := h0 j hj
  rw [List.getD_eq_getElem?_getD, List.getElem?_eq_getElem (by omega)] at this
  simpa using this

theorem find_ltU0 {f : UInt8 → Bool} (h0 : ∀ i, i < 6 → f (ltU.getD i 0) = false) : ltU.find? f = none := by
  have hl : ltU.length = 6 := rfl
  rw [List.find?_eq_none]
  intro x hx
  obtain ⟨j, hj, rfl⟩ := List.mem_iff_getElem.1 hx
  have := h0 j (by omega)
  rw [List.getD_eq_getElem?_getD, List.getElem?_eq_getElem hj] at this
  simpa using this

set_option maxRecDepth 100000 in
set_option maxHeartbeats 8000000 in
theorem kindOf_any (n : Nat) (c : List (List Int)) (p : List Nat) (cv pv : Value) (w : World) (hc : Sqc n c) (hp : PaW n p) (hp0 : 0 < p.length) (hm : Mat w.heap.size 26 3 w cv c) (hpv : Sl 0 3 w pv (ints (natsI p))) :
    Calls Tryz.prog 31 #[cv, pv] w fun e w' => e = .returned (.agg (kvA p.length (kdO c p))) ∧ Below w.heap.size w w' := by
  have hn4 := hc.n4
  have hpl := hp.len
  obtain ⟨ao, cap, hvv, hlc, hcm⟩ := mat_open hm
  subst hvv
  obtain ⟨bo, bc, hbb, hlb, hcb⟩ := sl_open hpv
  rw [natsI_lenR] at hbb
  subst hbb
  have HC : Hid (Sqc n c) := hc
  have HPW : Hid (PaW n p) := hp
  have HM : Hid (Mat w.heap.size 26 3 w (.slice ao n cap) c) := by
    have := hm
    rw [hc.len] at this
    exact this
  have HPV : Hid (Sl 0 3 w (.slice bo p.length bc) (ints (natsI p))) := hpv
  rw [hc.len]
  obtain ⟨m, hmm⟩ : ∃ m, m = p.length := ⟨_, rfl⟩
  have HML : Hid (m = p.length) := hmm
  rw [← hmm] at hpl hp0 HPV ⊢
  clear hc hp hm hpv hlc hcm hlb hcb hmm
  refine callsIn_wide (n := 0).1 ?_
  refine callsIn_of_wp_marks Tryz.func31 rfl trivial ?_ rfl
  simp only [Tryz.ntmps31, List.size_toArray, List.length_cons, List.length_nil, Nat.reduceAdd, Nat.reduceSub, Array.replicate_succ, Array.replicate_zero, List.push_toArray, List.append_toArray, List.nil_append, List.cons_append]
  gi_wp2_with (refine ⟨trivial, rfl, ?_⟩; gi_at_call 59; refine (callsIn_wide.2 (ordsIt_any _ _)).mono ?_; rintro e w' ⟨rfl, rfl⟩)
  obtain ⟨WN, hWN, n1, n2, n3, n4, hsN, hbN⟩ := oFour w (.cells #[.slice ao n cap] 22) (.cells #[.slice bo m bc] 26) (.cells #[.int .i32 0, .int .i64 0] 51) (.cells #[.int .i64 m] 3)
  rw [← hWN]
  clear hWN
  have HSQ := orders_seq m (w.heap.size + 1 + 1 + 1) WN (by omega) (oq_cell n4)
  have HSZ : Hid (WN.heap.size = w.heap.size + 4) := hsN
  have HN1 : Hid (WN.heap[w.heap.size]? = some (.cells #[.slice ao n cap] 22 (0, 0)) ∧ WN.heap[w.heap.size + 1]? = some (.cells #[.slice bo m bc] 26 (0, 0)) ∧ WN.heap[w.heap.size + 1 + 1]? = some (.cells #[.int .i32 0, .int .i64 0] 51 (0, 0))) := ⟨n1, n2, n3⟩
  have HBN : Hid (Below w.heap.size w WN) := hbN
  have HI0 : Hid (KoI w WN c p (fun b => b = w.heap.size + 1 + 1 + 1) [] WN) := ⟨fun b hb => by omega, Kpt.refl _ _, hbN.os, hbN.tape, hbN.output, fun o ho => by simp at ho⟩
  clear n1 n2 n3 n4 hsN hbN
  refine range_s (R := Hand WN.heap.size) (cs := ords m m []) (T := fun _ => False) (S0 := fun b => b = w.heap.size + 1 + 1 + 1) (gf := 87) (lb := #[.pointer (some ⟨w.heap.size + 1 + 1 + 1, 0, none⟩)]) rfl (enters_of Tryz.func87 (by kernel_rfl) rfl) HSQ (fun b hb => by have := HSZ.out; omega)
    (fun W' S x vs ⟨v, B0, h1, _⟩ => by rw [h1]; rfl) (handK_below _) (handK_put _)
    (fun S pre W' => KoI w WN c p S pre W')
    (fun cd S pre W' => cd = .ret ∧ KoX w c p S pre W')
    (fun S S' pre W' W'' h hc hs => h.stab (by have := HSZ.out; omega) hc hs) (fun cd S S' pre W' W'' h hc hs => ⟨h.1, h.2.stab hc hs⟩) HI0.out
    (fun vs a' W' => ∃ v, vs = #[v] ∧ a' = { tmps := #[.slice ao n cap, .slice bo m bc, .pointer (some ⟨w.heap.size, 0, none⟩), .pointer (some ⟨w.heap.size + 1, 0, none⟩), .pointer (some ⟨w.heap.size + 1 + 1, 0, none⟩), v, undef, undef, undef, undef, .slice bo m bc, .int .i64 m, .func (.func 87) #[] #[.pointer (some ⟨w.heap.size + 1 + 1 + 1, 0, none⟩)], v, undef, undef, undef, undef, undef, undef, undef, undef, undef, undef, undef, undef, undef, undef, undef, undef, undef, undef, undef, undef, undef, undef, undef], defers := [] })
    (fun vs a' W' l r o h _ => h) ?assign ?body (fun h => h) ?done ?stop
  case assign =>
    rintro S x vs W' K ⟨v, B0, rfl, h2, h3, h4⟩ hK
    gi_wp2
    exact hK _ _ (Below.refl _ _) ⟨v, rfl, rfl⟩
  case stop =>
    rintro cd S pre W' hpre ⟨rfl, hx⟩ hSD hdf
    have hsz := HSZ.out
    have hws := hx.sz
    obtain ⟨q, x, l, h1, h2, h3, h4⟩ := hx.yes
    have HF : Hid (kdO c p = some l) := by
      subst h1
      have := HML.out
      subst this
      exact find_some hpre h2 h3
    have HX : Hid (KoX w c p S pre W') := hx
    have H4 : Hid (W'.heap[w.heap.size + 1 + 1]? = some (.cells (kvA p.length (some l)) 51 (0, 0))) := h4
    have HDF : Hid (W'.heap[WN.heap.size]? = some (.deferred (some []))) := hdf
    have hdl := (Array.getElem?_eq_some_iff.1 hdf).1
    clear hx hdf HSQ h4 h2 h3 h1 hpre
    gi_wp2
    refine leaves_mks [WN.heap.size] W' (by simp) (fun r hr => ?_) (fun w' hc => ⟨.agg (kvA p.length (some l)), ?_, ?_⟩)
    · simp only [List.mem_singleton] at hr
      subst hr
      exact HDF.out
    · have q1 : w'.heap[w.heap.size + 1 + 1]? = _ := (hc.block _ (by omega) (by simp; omega)).trans H4.out
      simp [results, Tryz.results31, go_sem, World.cell?, q1, kvA]
    · refine ⟨by rw [HF.out, HML.out], hc.os.trans HX.out.os, hc.tape.trans HX.out.tape, hc.output.trans HX.out.output, by have := hc.size; omega, fun b hb => ?_⟩
      exact (hc.block b (by omega) (by simp; omega)).trans (HX.out.block b hb)
  case done =>
    rintro S W' hi hSD hdf
    have hsz := HSZ.out
    have hws := hi.kp.size
    have HF : Hid (kdO c p = none) := by
      have := HML.out
      subst this
      exact List.findSome?_eq_none_iff.2 hi.no
    have HI : Hid (KoI w WN c p S (ords m m []) W') := hi
    have HDF : Hid (W'.heap[WN.heap.size]? = some (.deferred (some []))) := hdf
    have r1 : W'.heap[w.heap.size + 1 + 1]? = some (.cells #[.int .i32 0, .int .i64 0] 51 (0, 0)) := (hi.kp.block _ (by omega) (by omega)).trans HN1.out.2.2
    have k0 : W'.cell? ⟨w.heap.size + 1 + 1, 0, none⟩ = some (.int .i32 0) := by simp [World.cell?, r1]
    have k1 : W'.cell? ⟨w.heap.size + 1 + 1, 1, none⟩ = some (.int .i64 0) := by simp [World.cell?, r1]
    have f0 : W'.frozen? ⟨w.heap.size + 1 + 1, 0, none⟩ = false := by simp [World.frozen?, r1]
    have f1 : W'.frozen? ⟨w.heap.size + 1 + 1, 1, none⟩ = false := by simp [World.frozen?, r1]
    have HR1 : Hid (W'.heap[w.heap.size + 1 + 1]? = some (.cells #[.int .i32 0, .int .i64 0] 51 (0, 0))) := r1
    clear hi hdf r1 HSQ
    gi_wp2
    have hsz := HSZ.out
    have hws := HI.out.kp.size
    obtain ⟨W9, hW9⟩ : ∃ W9, W9 = (W'.setCell ⟨w.heap.size + 1 + 1, 0, none⟩ (.int .i32 0)).setCell ⟨w.heap.size + 1 + 1, 1, none⟩ (.int .i64 0) := ⟨_, rfl⟩
    rw [← hW9]
    have q1 : W9.heap[w.heap.size + 1 + 1]? = some (.cells #[.int .i32 0, .int .i64 0] 51 (0, 0)) := by
      rw [hW9]
      have g1 : (W'.setCell ⟨w.heap.size + 1 + 1, 0, none⟩ (.int .i32 0)).heap[w.heap.size + 1 + 1]? = some (.cells #[.int .i32 0, .int .i64 0] 51 (0, 0)) := by simp [World.setCell, Array.getElem?_modify, HR1.out]
      rw [World.setCell]; simp [Array.getElem?_modify, g1]
    have q3 : ∀ b, b ≠ w.heap.size + 1 + 1 → W9.heap[b]? = W'.heap[b]? := fun b h1 => by
      rw [hW9]
      exact (Below.heap_setCell _ _ _ _ h1).trans (Below.heap_setCell _ _ _ _ h1)
    have q4 : W9.heap.size = W'.heap.size := by rw [hW9]; simp [World.setCell]
    have q5 : W9.os = W'.os ∧ W9.tape = W'.tape ∧ W9.output = W'.output := by rw [hW9]; exact ⟨rfl, rfl, rfl⟩
    clear hW9
    refine leaves_mks [WN.heap.size] W9 (by simp) (fun r hr => ?_) (fun w' hc => ⟨.agg (kvA p.length none), ?_, ?_⟩)
    · simp only [List.mem_singleton] at hr
      subst hr
      exact (q3 _ (by omega)).trans HDF.out
    · have r1 : w'.heap[w.heap.size + 1 + 1]? = _ := (hc.block _ (by omega) (by simp; omega)).trans q1
      simp [results, Tryz.results31, go_sem, World.cell?, r1, kvA]
    · refine ⟨by rw [HF.out, HML.out], hc.os.trans (q5.1.trans HI.out.os), hc.tape.trans (q5.2.1.trans HI.out.tape), hc.output.trans (q5.2.2.trans HI.out.output), by have := hc.size; omega, fun b hb => ?_⟩
      exact (hc.block b (by omega) (by simp; omega)).trans ((q3 b (by omega)).trans ((HI.out.kp.block b (by omega) (by omega)).trans (HBN.out.block b hb)))
  case body =>
    rintro S pre x vs a' W1 hi hSD hSL hlt1 hdf hlp hpre ⟨S1, ⟨v, B0, hvs, hown, hB0, hN0, hBW⟩, hS1⟩ ⟨v', hvs', rfl⟩
    have hvv : v = v' := by rw [hvs] at hvs'; simpa using hvs'
    subst hvv
    have hcm' : x ∈ ords m m [] := hpre.subset (by simp)
    obtain ⟨hio, hxl⟩ := ords_is m [] x ⟨by simp, by simp⟩ hcm'
    simp only [List.length_nil, Nat.zero_add] at hxl
    have hsz := HSZ.out
    have hws := hi.kp.size
    have hlow : ∀ b, b < w.heap.size + 3 → W1.heap[b]? = WN.heap[b]? := fun b hb => hi.kp.block b (by omega) hb
    have hlow' : ∀ b, b < w.heap.size → W1.heap[b]? = w.heap[b]? := fun b hb => (hlow b (by omega)).trans (HBN.out.block b hb)
    have e0 : W1.heap[w.heap.size]? = some (.cells #[.slice ao n cap] 22 (0, 0)) := (hlow _ (by omega)).trans HN1.out.1
    have e1 : W1.heap[w.heap.size + 1]? = some (.cells #[.slice bo m bc] 26 (0, 0)) := (hlow _ (by omega)).trans HN1.out.2.1
    have e2 : W1.heap[w.heap.size + 1 + 1]? = some (.cells #[.int .i32 0, .int .i64 0] 51 (0, 0)) := (hlow _ (by omega)).trans HN1.out.2.2
    obtain ⟨vo, vc, hvf⟩ := owns_form hown
    rw [hxl] at hvf
    subst hvf
    have HE : Hid (∀ X, Below W1.heap.size W1 X → X.heap[w.heap.size]? = some (.cells #[.slice ao n cap] 22 (0, 0)) ∧ X.heap[w.heap.size + 1]? = some (.cells #[.slice bo m bc] 26 (0, 0)) ∧ X.heap[w.heap.size + 1 + 1]? = some (.cells #[.int .i32 0, .int .i64 0] 51 (0, 0))) := fun X hX =>
      ⟨(hX.block _ (by omega)).trans e0, (hX.block _ (by omega)).trans e1, (hX.block _ (by omega)).trans e2⟩
    have HXI : Hid (∀ i, i < x.length → 0 ≤ x.getD i 0 ∧ x.getD i 0 < m) := fun i hi' => hio.1 _ (by
      rw [List.getD_eq_getElem?_getD, List.getElem?_eq_getElem hi']
      exact List.getElem_mem _)
    have hpkl : (pkN p x).length = m := by simp [pkN, hxl]
    have HPK : Hid (∀ X, Below W1.heap.size W1 X → Calls Tryz.prog 61 #[.slice bo m bc, .slice vo m vc] X fun e w' => ∃ zo zc, e = .returned (.slice zo m zc) ∧ w'.ownsRow X.heap.size 3 1 (.slice zo m zc) m (ints (natsI (pkN p x))) ∧ Below X.heap.size X w') := fun X hX => by
      have h1 : Sl 0 3 X (.slice bo m bc) (ints (natsI p)) := slK HPV.out (fun b hb => (hX.block b (by omega)).trans (hlow' b hb))
      have h2 : Sl 0 3 X (.slice vo m vc) (ints x) := (Sl.own hown).below hX (Nat.le_refl _)
      have h := pickN_any 0 p x _ _ X h1 h2 (fun i hi' => by rw [← HML.out]; exact HXI.out i hi') (by omega)
      refine h.mono ?_
      rintro e w' ⟨z, rfl, k1, k2⟩
      obtain ⟨zo, zc, rfl⟩ := owns_form k1
      rw [hxl] at k1 ⊢
      exact ⟨zo, zc, rfl, k1, k2⟩
    have HAM : Hid (∀ X z, Below W1.heap.size W1 X → Sl 0 3 X z (ints (natsI (pkN p x))) → Calls Tryz.prog 60 #[.slice ao n cap, z] X fun e w' => e = .returned (.agg ((List.range 16).map fun k => Value.int .i64 (amC c (pkN p x) k)).toArray) ∧ Hid (Below X.heap.size X w')) := fun X z hX hz => by
      refine among_any n c (pkN p x) _ _ X HC.out (fun t ht => ?_) (by omega) (by omega) ((matK HM.out (fun b hb => (hX.block b (by omega)).trans (hlow' b hb))).more (by have := hX.size; omega)) hz
      have : (pkN p x).getD t 0 ∈ p := by
        have h1 := HXI.out t (by omega)
        rw [hpkl] at ht
        have h2 : (pkN p x).getD t 0 = p.getD (x.getD t 0).toNat 0 := by
          unfold pkN
          simp [List.getD_eq_getElem?_getD, show t < x.length by omega]
        rw [h2, List.getD_eq_getElem?_getD, List.getElem?_eq_getElem (by have := HML.out; omega)]
        exact List.getElem_mem _
      exact HPW.out.lt _ this
    obtain ⟨V, hV⟩ : ∃ V, V = ((List.range 16).map fun k => Value.int .i64 (amC c (pkN p x) k)).toArray := ⟨_, rfl⟩
    have HVE : Hid (V = ((List.range 16).map fun k => Value.int .i64 (amC c (pkN p x) k)).toArray) := hV
    rw [← hV] at HAM
    have hVs : V.size = 16 := by rw [hV]; simp
    have hVo : ∀ v ∈ V.toList, v.oneCell' = true := fun v hv => by
      rw [hV] at hv
      simp only [List.mem_map] at hv
      obtain ⟨k, _, rfl⟩ := hv
      rfl
    have HSC : Hid (∀ X b, X.heap[b]? = some (.cells #[.int .i64 0, .int .i64 0, .int .i64 0, .int .i64 0, .int .i64 0, .int .i64 0, .int .i64 0, .int .i64 0, .int .i64 0, .int .i64 0, .int .i64 0, .int .i64 0, .int .i64 0, .int .i64 0, .int .i64 0, .int .i64 0] 79 (0, 0)) → (storeCells ⟨b, 0, none⟩ V.toList).run Tryz.prog X = .ok () (X.setRow b V)) := fun X b hX =>
      run_storeCells_from (P := Tryz.prog) b 79 V.toList 0 #[.int .i64 0, .int .i64 0, .int .i64 0, .int .i64 0, .int .i64 0, .int .i64 0, .int .i64 0, .int .i64 0, .int .i64 0, .int .i64 0, .int .i64 0, .int .i64 0, .int .i64 0, .int .i64 0, .int .i64 0, .int .i64 0] X hX (by rw [Array.length_toList, hVs]; rfl) hVo
    have HSN : ∀ X : World, (storeCells ⟨X.heap.size, 0, none⟩ V.toList).run Tryz.prog (X.alloc (.cells #[.int .i64 0, .int .i64 0, .int .i64 0, .int .i64 0, .int .i64 0, .int .i64 0, .int .i64 0, .int .i64 0, .int .i64 0, .int .i64 0, .int .i64 0, .int .i64 0, .int .i64 0, .int .i64 0, .int .i64 0, .int .i64 0] 79)) = .ok () (X.alloc (.cells V 79)) := fun X => by
      have h := HSC.out (X.alloc (.cells #[.int .i64 0, .int .i64 0, .int .i64 0, .int .i64 0, .int .i64 0, .int .i64 0, .int .i64 0, .int .i64 0, .int .i64 0, .int .i64 0, .int .i64 0, .int .i64 0, .int .i64 0, .int .i64 0, .int .i64 0, .int .i64 0] 79)) X.heap.size (heap_alloc_new _ _)
      rw [h, World.setRow_alloc_new]
    have HI1 : Hid (∀ w6 w7 o, Hid (Below (W1.alloc o).drew.heap.size (W1.alloc o).drew w6) → Hid (Below w6.heap.size w6 w7) → w7.heap[W1.heap.size]? = some o) := fun w6 w7 o h6 h7 => by
      have h0 : (W1.alloc o).drew.heap[W1.heap.size]? = some o := heap_alloc_new W1 o
      have h1 : w6.heap[W1.heap.size]? = some o := (h6.out.block _ (by simp)).trans h0
      exact (h7.out.block _ (Array.getElem?_eq_some_iff.1 h1).1).trans h1
    have HI2 : Hid (∀ (w6 w7 : World) o, Hid (Below (w6.alloc o).heap.size (w6.alloc o) w7) → w7.heap[w6.heap.size]? = some o) := fun w6 w7 o h7 =>
      (h7.out.block _ (by simp)).trans (heap_alloc_new w6 o)
    have FA : Hid (∀ w6 w7 : World, Below W1.heap.size W1 w6 → Hid (Below w6.heap.size w6 w7) → (w7.alloc (.cells V 79)).heap[w7.heap.size]? = some (.cells V 79 (0, 0)) ∧ W1.heap.size ≤ w7.heap.size ∧ Below W1.heap.size W1 (w7.alloc (.cells V 79))) := fun w6 w7 h6 h7 => by
      have h := h6.trans (h7.out.mono h6.size)
      exact ⟨heap_alloc_new _ _, h.size, h.alloc h.size _⟩
    have F1 : Hid (∀ w6 w7, Hid (Below (W1.alloc (.cells #[.int .i64 0, .int .i64 0, .int .i64 0, .int .i64 0, .int .i64 0, .int .i64 0, .int .i64 0, .int .i64 0, .int .i64 0, .int .i64 0, .int .i64 0, .int .i64 0, .int .i64 0, .int .i64 0, .int .i64 0, .int .i64 0] 79)).drew.heap.size (W1.alloc (.cells #[.int .i64 0, .int .i64 0, .int .i64 0, .int .i64 0, .int .i64 0, .int .i64 0, .int .i64 0, .int .i64 0, .int .i64 0, .int .i64 0, .int .i64 0, .int .i64 0, .int .i64 0, .int .i64 0, .int .i64 0, .int .i64 0] 79)).drew w6) → Hid (Below w6.heap.size w6 w7) → (w7.setRow W1.heap.size V).heap[W1.heap.size]? = some (.cells V 79 (0, 0)) ∧ W1.heap.size ≤ W1.heap.size ∧ Below W1.heap.size W1 (w7.setRow W1.heap.size V)) := fun w6 w7 h6 h7 => by
      have ha : Below W1.heap.size W1 (W1.alloc (.cells #[.int .i64 0, .int .i64 0, .int .i64 0, .int .i64 0, .int .i64 0, .int .i64 0, .int .i64 0, .int .i64 0, .int .i64 0, .int .i64 0, .int .i64 0, .int .i64 0, .int .i64 0, .int .i64 0, .int .i64 0, .int .i64 0] 79)).drew := ((Below.refl _ _).alloc (Nat.le_refl _) _).drew
      have hx := ha.trans (h6.out.mono ha.size)
      exact ⟨setRow_heap _ _ _ _ _ _ (HI1.out w6 w7 _ h6 h7), Nat.le_refl _, below_setRow (hx.trans (h7.out.mono hx.size)) (Nat.le_refl _) V⟩
    have F2 : Hid (∀ w6 w7 : World, Below W1.heap.size W1 w6 → Hid (Below (w6.alloc (.cells #[.int .i64 0, .int .i64 0, .int .i64 0, .int .i64 0, .int .i64 0, .int .i64 0, .int .i64 0, .int .i64 0, .int .i64 0, .int .i64 0, .int .i64 0, .int .i64 0, .int .i64 0, .int .i64 0, .int .i64 0, .int .i64 0] 79)).heap.size (w6.alloc (.cells #[.int .i64 0, .int .i64 0, .int .i64 0, .int .i64 0, .int .i64 0, .int .i64 0, .int .i64 0, .int .i64 0, .int .i64 0, .int .i64 0, .int .i64 0, .int .i64 0, .int .i64 0, .int .i64 0, .int .i64 0, .int .i64 0] 79)) w7) → (w7.setRow w6.heap.size V).heap[w6.heap.size]? = some (.cells V 79 (0, 0)) ∧ W1.heap.size ≤ w6.heap.size ∧ Below W1.heap.size W1 (w7.setRow w6.heap.size V)) := fun w6 w7 h6 h7 => by
      have ha := h6.alloc h6.size (.cells #[.int .i64 0, .int .i64 0, .int .i64 0, .int .i64 0, .int .i64 0, .int .i64 0, .int .i64 0, .int .i64 0, .int .i64 0, .int .i64 0, .int .i64 0, .int .i64 0, .int .i64 0, .int .i64 0, .int .i64 0, .int .i64 0] 79)
      exact ⟨setRow_heap _ _ _ _ _ _ (HI2.out w6 w7 _ h7), h6.size, below_setRow (ha.trans (h7.out.mono ha.size)) h6.size V⟩
    clear hV hVo
    have c0 : W1.cell? ⟨w.heap.size, 0, none⟩ = some (.slice ao n cap) := oq_cell e0
    have c1 : W1.cell? ⟨w.heap.size + 1, 0, none⟩ = some (.slice bo m bc) := oq_cell e1
    have hb1 : Below W1.heap.size W1 W1.drew := (Below.refl _ _).drew
    have hb1a : ∀ o, Below W1.heap.size W1 (W1.alloc o).drew := fun o => ((Below.refl _ _).alloc (Nat.le_refl _) _).drew
    have c0a : ∀ o, (W1.alloc o).cell? ⟨w.heap.size, 0, none⟩ = some (.slice ao n cap) := fun o => oq_cell (HE.out _ (hb1a o)).1
    have c1a : ∀ o, (W1.alloc o).cell? ⟨w.heap.size + 1, 0, none⟩ = some (.slice bo m bc) := fun o => oq_cell (HE.out _ (hb1a o)).2.1
    have HPK2 : Hid (∀ X, Below W1.heap.size W1 X → Calls Tryz.prog 61 #[.slice bo m bc, .slice vo m vc] X fun e w' => ∃ zo zc, e = .returned (.slice zo m zc) ∧ Hid (Sl 0 3 w' (.slice zo m zc) (ints (natsI (pkN p x)))) ∧ Hid (∀ o, Sl 0 3 (w'.alloc o) (.slice zo m zc) (ints (natsI (pkN p x)))) ∧ Hid (Below X.heap.size X w') ∧ Below W1.heap.size W1 w' ∧ (∀ o, Below W1.heap.size W1 (w'.alloc o)) ∧
        w'.cell? ⟨w.heap.size, 0, none⟩ = some (.slice ao n cap) ∧ ∀ o, (w'.alloc o).cell? ⟨w.heap.size, 0, none⟩ = some (.slice ao n cap)) := fun X hX => by
      refine (HPK.out X hX).mono ?_
      rintro e w' ⟨zo, zc, rfl, k1, k2⟩
      have hw : Below W1.heap.size W1 w' := hX.trans (k2.mono hX.size)
      have hwa : ∀ o, Below W1.heap.size W1 (w'.alloc o) := fun o => hw.alloc hw.size o
      exact ⟨zo, zc, rfl, Sl.own k1, fun o => (Sl.own k1).alloc o, k2, hw, hwa, oq_cell (HE.out _ hw).1, fun o => oq_cell (HE.out _ (hwa o)).1⟩
    have HKI0 : Hid (KoI w WN c p S pre W1) := hi
    clear hi hpre hown hB0 hN0 hBW hS1 hcm' hdf hlp hvs hvs' hlow hlow' HPK e0 e1 e2 HSQ hsz hws hio hSD hSL hlt1 hpkl
    gi_wp2_with fail
    refine Code.wpIn_mono (Q := fun e a W => e = .normal ∧ ∃ b zv, a = { tmps := #[.slice ao n cap, .slice bo m bc, .pointer (some ⟨w.heap.size, 0, none⟩), .pointer (some ⟨w.heap.size + 1, 0, none⟩), .pointer (some ⟨w.heap.size + 1 + 1, 0, none⟩), .slice vo m vc, .pointer (some ⟨b, 0, none⟩), undef, undef, undef, .slice bo m bc, .int .i64 m, .func (.func 87) #[] #[.pointer (some ⟨w.heap.size + 1 + 1 + 1, 0, none⟩)], .slice vo m vc, .slice ao n cap, .slice bo m bc, .slice vo m vc, zv, .agg V, undef, undef, undef, undef, undef, undef, undef, undef, undef, undef, undef, undef, undef, undef, undef, undef, undef, undef], defers := [] } ∧ W.heap[b]? = some (.cells V 79 (0, 0)) ∧ W1.heap.size ≤ b ∧ Below W1.heap.size W1 W) ?rest ?reg
    case reg =>
      gi_region_with (first | (refine ⟨trivial, rfl, ?_⟩; gi_at_call 61; refine (CallsIn.inRound _ (callsIn_wide.2 (HPK2.out _ hb1))).mono ?_; rintro e w6 ⟨zo, zc, rfl, hz6, hz6a, hy6, hb6, hb6a, c6, c6a⟩) | (refine ⟨trivial, rfl, ?_⟩; gi_at_call 61; refine (CallsIn.inRound _ (callsIn_wide.2 (HPK2.out _ (hb1a _)))).mono ?_; rintro e w6 ⟨zo, zc, rfl, hz6, hz6a, hy6, hb6, hb6a, c6, c6a⟩) | (refine ⟨trivial, rfl, ?_⟩; gi_at_call 60; refine (CallsIn.inRound _ (callsIn_wide.2 (HAM.out _ _ hb6 hz6.out))).mono ?_; rintro e w7 ⟨rfl, hy7⟩) | (refine ⟨trivial, rfl, ?_⟩; gi_at_call 60; refine (CallsIn.inRound _ (callsIn_wide.2 (HAM.out _ _ (hb6a _) (hz6a.out _)))).mono ?_; rintro e w7 ⟨rfl, hy7⟩) | (rw [HSC.out _ _ (HI1.out _ _ _ hy6 hy7)]) | (rw [HSC.out _ _ (HI2.out _ _ _ hy7)]))
      all_goals first | exact ⟨rfl, _, _, rfl, F1.out _ _ hy6 hy7⟩ | exact ⟨rfl, _, _, rfl, F2.out _ _ hb6 hy7⟩ | exact ⟨rfl, _, _, rfl, FA.out _ _ hb6 hy7⟩
    case rest =>
      rintro e a wx ⟨rfl, b, zv, rfl, hV, hb, hbel⟩
      have HV : Hid (wx.heap[b]? = some (.cells V 79 (0, 0))) := hV
      have HBX : Hid (Below W1.heap.size W1 wx) := hbel
      have HBL : Hid (b < wx.heap.size) := (Array.getElem?_eq_some_iff.1 hV).1
      obtain ⟨LB, hLB⟩ : ∃ LB : ByteArray, LB = ⟨#[65, 66, 67, 68, 70, 71]⟩ := ⟨_, rfl⟩
      have HLB : Hid (LB = ⟨#[65, 66, 67, 68, 70, 71]⟩) := hLB
      obtain ⟨t, ht⟩ : ∃ t, t = wx.heap.size := ⟨_, rfl⟩
      have HT : Hid (t = wx.heap.size) := ht
      obtain ⟨WI, hWI⟩ : ∃ WI, WI = wx.iter ⟨#[65, 66, 67, 68, 70, 71]⟩ 0 := ⟨_, rfl⟩
      have hbi : Below wx.heap.size wx (wx.iter ⟨#[65, 66, 67, 68, 70, 71]⟩ 0) := (Below.refl _ _).alloc (Nat.le_refl _) _
      have HBI : Hid (Below wx.heap.size wx WI) := by rw [hWI]; exact hbi
      have HIR : Hid (WI.heap[t]? = some (.stringIter LB 0)) := by
        show _ = _
        rw [hWI, hLB, ht]; exact World.iter_heap _ _ _
      clear hV hbel hbi hLB hVs HPK2 HSN HSC HI1 HI2 FA F1 F2 HAM hb1 hb1a c0 c1 c0a c1a
      gi_wp2_with fail
      rw [← hWI, ← ht]
      clear hWI ht
      gi_loopw [8, 9, 20, 21] (fun _ _ _ _ wr => ∃ k, k ≤ 6 ∧ wr.heap[t]? = some (.stringIter LB k) ∧ Below wx.heap.size wx wr ∧ t < wr.heap.size ∧ ∀ i, i < k → kdT c (pkN p x) m (ltU.getD i 0) = false) (fun _ _ _ _ wr => 6 - wr.iterPos t)
      case atStart => exact ⟨0, by omega, HIR.out, HBI.out, (Array.getElem?_eq_some_iff.1 HIR.out).1, fun i hi => absurd hi (by omega)⟩
      case round =>
        obtain ⟨k, hk, hir, hbr, htl, hno⟩ := hrel
        have HIK : Hid (wr.heap[t]? = some (.stringIter LB k)) := hir
        have HBR : Hid (Below wx.heap.size wx wr) := hbr
        have HNO : Hid (∀ i, i < k → kdT c (pkN p x) m (ltU.getD i 0) = false) := hno
        have HTL : Hid (t < wr.heap.size) := htl
        by_cases hlt : k < 6
        · obtain ⟨l, hl⟩ : ∃ l : UInt8, l = ltU.getD k 0 := ⟨_, rfl⟩
          have hnx : ∀ ty, (Instr.next (.pointer (some ⟨t, 0, none⟩)) true ty).run Tryz.prog wr = .ok (.tuple #[.bool true, .int .i64 (k : Int), .int .i32 (l.toNat : Int)]) (wr.iterAt t LB (k + 1)) := fun ty => by
            rw [hl]
            have hir2 := hir
            rw [HLB.out] at hir2 ⊢
            rcases (show k = 0 ∨ k = 1 ∨ k = 2 ∨ k = 3 ∨ k = 4 ∨ k = 5 by omega) with rfl | rfl | rfl | rfl | rfl | rfl
            · exact Lib.run_next_ascii_at wr _ _ 0 ty hir2 (by decide) (by decide)
            · exact Lib.run_next_ascii_at wr _ _ 1 ty hir2 (by decide) (by decide)
            · exact Lib.run_next_ascii_at wr _ _ 2 ty hir2 (by decide) (by decide)
            · exact Lib.run_next_ascii_at wr _ _ 3 ty hir2 (by decide) (by decide)
            · exact Lib.run_next_ascii_at wr _ _ 4 ty hir2 (by decide) (by decide)
            · exact Lib.run_next_ascii_at wr _ _ 5 ty hir2 (by decide) (by decide)
          have HL : Hid (l = ltU.getD k 0) := hl
          obtain ⟨w4, hw4⟩ : ∃ w4, w4 = wr.iterAt t LB (k + 1) := ⟨_, rfl⟩
          rw [← hw4] at hnx
          have HB4 : Hid (Below wx.heap.size wx w4) := by rw [hw4]; exact Lib.below_iterAt hbr (Nat.le_of_eq HT.out.symm) _ _
          have HI4 : Hid (w4.heap[t]? = some (.stringIter LB (k + 1))) := by
            show _ = _
            rw [hw4]; exact Lib.iterAt_heap wr _ LB k (k + 1) hir
          clear hw4 hl hir hbr htl hno
          have HBW : Hid (∀ X, Below w4.heap.size w4 X → Below W1.heap.size W1 X) := fun X hX => by
            have h1 := HBX.out.trans (HB4.out.mono HBX.out.size)
            exact h1.trans (hX.mono h1.size)
          have d1 : w4.cell? ⟨w.heap.size + 1, 0, none⟩ = some (.slice bo m bc) := oq_cell (HE.out _ (HBW.out _ (Below.refl _ _))).2.1
          gi_wp2_with fail
          have HKI : Hid (∀ X, Calls Tryz.prog 62 #[.agg #[.int .i32 (l.toNat : Nat), .int .i64 (m : Nat)]] X fun e w' => e = .returned (.bool (isK l.toNat m)) ∧ Below X.heap.size X w') := fun X => isKind_any _ _ X
          have hnew : (w4.alloc (.cells #[.int .i32 (l.toNat : Nat), .int .i64 m] 51)).heap[w4.heap.size]? = some (.cells #[.int .i32 (l.toNat : Nat), .int .i64 m] 51 (0, 0)) := heap_alloc_new _ _
          have hbn : Below w4.heap.size w4 (w4.alloc (.cells #[.int .i32 (l.toNat : Nat), .int .i64 m] 51)) := (Below.refl _ _).alloc (Nat.le_refl _) _
          obtain ⟨w5, hw5⟩ : ∃ w5, w5 = w4.alloc (.cells #[.int .i32 (l.toNat : Nat), .int .i64 m] 51) := ⟨_, rfl⟩
          rw [← hw5] at hnew hbn ⊢
          clear hw5 d1 hnx
          have HN5 : Hid (w5.heap[w4.heap.size]? = some (.cells #[.int .i32 (l.toNat : Nat), .int .i64 m] 51 (0, 0))) := hnew
          have HB5 : Hid (Below w4.heap.size w4 w5) := hbn
          have g0 : w5.cell? ⟨w4.heap.size, 0, none⟩ = some (.int .i32 (l.toNat : Nat)) := by simp [World.cell?, hnew]
          have g1 : w5.cell? ⟨w4.heap.size, 1, none⟩ = some (.int .i64 m) := by simp [World.cell?, hnew]
          clear hnew hbn
          refine Code.wpIn_mono (Q := fun e a W => e = .normal ∧ ∃ y27 y28 y29 y30 y31 y32 y33, a = { tmps := #[.slice ao n cap, .slice bo m bc, .pointer (some ⟨w.heap.size, 0, none⟩), .pointer (some ⟨w.heap.size + 1, 0, none⟩), .pointer (some ⟨w.heap.size + 1 + 1, 0, none⟩), .slice vo m vc, .pointer (some ⟨b, 0, none⟩), undef, .int .i32 (l.toNat : Nat), .pointer (some ⟨w4.heap.size, 0, none⟩), .slice bo m bc, .int .i64 m, .func (.func 87) #[] #[.pointer (some ⟨w.heap.size + 1 + 1 + 1, 0, none⟩)], .slice vo m vc, .slice ao n cap, .slice bo m bc, .slice vo m vc, zv, .agg V, .pointer (some ⟨t, 0, none⟩), .tuple #[.bool true, .int .i64 (k : Nat), .int .i32 (l.toNat : Nat)], .bool true, .int .i32 (l.toNat : Nat), .int .i32 (l.toNat : Nat), .slice bo m bc, .int .i64 m, .agg #[.int .i32 (l.toNat : Nat), .int .i64 m], y27, y28, y29, y30, y31, y32, y33, .bool (kdT c (pkN p x) m l), u35, undef], defers := [] } ∧ Below w5.heap.size w5 W) ?rest2 ?reg2
          case reg2 =>
            by_cases hik : isK l.toNat m = true
            · obtain ⟨am, ham⟩ : ∃ am : Nat → Int, am = amC c (pkN p x) := ⟨_, rfl⟩
              have HVA : Hid (V = #[.int .i64 (am 0), .int .i64 (am 1), .int .i64 (am 2), .int .i64 (am 3), .int .i64 (am 4), .int .i64 (am 5), .int .i64 (am 6), .int .i64 (am 7), .int .i64 (am 8), .int .i64 (am 9), .int .i64 (am 10), .int .i64 (am 11), .int .i64 (am 12), .int .i64 (am 13), .int .i64 (am 14), .int .i64 (am 15)]) := by
                show _ = _
                rw [HVE.out, ham]; rfl
              have HCE : Hid (∀ X, Below w5.heap.size w5 X → X.cell? ⟨b, 0, none⟩ = some (.int .i64 (am 0)) ∧ X.cell? ⟨b, 1, none⟩ = some (.int .i64 (am 1)) ∧ X.cell? ⟨b, 2, none⟩ = some (.int .i64 (am 2)) ∧ X.cell? ⟨b, 3, none⟩ = some (.int .i64 (am 3)) ∧ X.cell? ⟨b, 4, none⟩ = some (.int .i64 (am 4)) ∧ X.cell? ⟨b, 5, none⟩ = some (.int .i64 (am 5)) ∧ X.cell? ⟨b, 6, none⟩ = some (.int .i64 (am 6)) ∧ X.cell? ⟨b, 7, none⟩ = some (.int .i64 (am 7)) ∧ X.cell? ⟨b, 8, none⟩ = some (.int .i64 (am 8)) ∧ X.cell? ⟨b, 9, none⟩ = some (.int .i64 (am 9)) ∧ X.cell? ⟨b, 10, none⟩ = some (.int .i64 (am 10)) ∧ X.cell? ⟨b, 11, none⟩ = some (.int .i64 (am 11)) ∧ X.cell? ⟨b, 12, none⟩ = some (.int .i64 (am 12)) ∧ X.cell? ⟨b, 13, none⟩ = some (.int .i64 (am 13)) ∧ X.cell? ⟨b, 14, none⟩ = some (.int .i64 (am 14)) ∧ X.cell? ⟨b, 15, none⟩ = some (.int .i64 (am 15))) := fun X hX => by
                have h4 : b < w4.heap.size := Nat.lt_of_lt_of_le HBL.out HB4.out.size
                have h5 : w5.heap[b]? = some (.cells V 79 (0, 0)) := (HB5.out.block _ h4).trans ((HB4.out.block _ HBL.out).trans HV.out)
                have hn : X.heap[b]? = some (.cells V 79 (0, 0)) := (hX.block _ (Array.getElem?_eq_some_iff.1 h5).1).trans h5
                rw [HVA.out] at hn
                exact ⟨by simp [World.cell?, hn], by simp [World.cell?, hn], by simp [World.cell?, hn], by simp [World.cell?, hn], by simp [World.cell?, hn], by simp [World.cell?, hn], by simp [World.cell?, hn], by simp [World.cell?, hn], by simp [World.cell?, hn], by simp [World.cell?, hn], by simp [World.cell?, hn], by simp [World.cell?, hn], by simp [World.cell?, hn], by simp [World.cell?, hn], by simp [World.cell?, hn], by simp [World.cell?, hn]⟩
              have HKT : Hid (Calls Tryz.prog 62 #[.agg #[.int .i32 (l.toNat : Nat), .int .i64 (m : Nat)]] w5.drew fun e w' => e = .returned (.bool true) ∧ Hid (Below w5.heap.size w5 w') ∧ w'.cell? ⟨w4.heap.size, 0, none⟩ = some (.int .i32 (l.toNat : Nat)) ∧ w'.cell? ⟨w4.heap.size, 1, none⟩ = some (.int .i64 m) ∧ w'.cell? ⟨b, 0, none⟩ = some (.int .i64 (am 0)) ∧ w'.cell? ⟨b, 1, none⟩ = some (.int .i64 (am 1)) ∧ w'.cell? ⟨b, 2, none⟩ = some (.int .i64 (am 2)) ∧ w'.cell? ⟨b, 3, none⟩ = some (.int .i64 (am 3)) ∧ w'.cell? ⟨b, 4, none⟩ = some (.int .i64 (am 4)) ∧ w'.cell? ⟨b, 5, none⟩ = some (.int .i64 (am 5)) ∧ w'.cell? ⟨b, 6, none⟩ = some (.int .i64 (am 6)) ∧ w'.cell? ⟨b, 7, none⟩ = some (.int .i64 (am 7)) ∧ w'.cell? ⟨b, 8, none⟩ = some (.int .i64 (am 8)) ∧ w'.cell? ⟨b, 9, none⟩ = some (.int .i64 (am 9)) ∧ w'.cell? ⟨b, 10, none⟩ = some (.int .i64 (am 10)) ∧ w'.cell? ⟨b, 11, none⟩ = some (.int .i64 (am 11)) ∧ w'.cell? ⟨b, 12, none⟩ = some (.int .i64 (am 12)) ∧ w'.cell? ⟨b, 13, none⟩ = some (.int .i64 (am 13)) ∧ w'.cell? ⟨b, 14, none⟩ = some (.int .i64 (am 14)) ∧ w'.cell? ⟨b, 15, none⟩ = some (.int .i64 (am 15))) := by
                refine (HKI.out w5.drew).mono ?_
                rintro e w' ⟨rfl, hb⟩
                rw [hik]
                have h5 : Below w5.heap.size w5 w' := (Below.refl _ _).drew.trans hb
                have hn : w'.heap[w4.heap.size]? = _ := (h5.block _ (Array.getElem?_eq_some_iff.1 HN5.out).1).trans HN5.out
                exact ⟨rfl, h5, by simp [World.cell?, hn], by simp [World.cell?, hn], HCE.out w' h5⟩
              have HMD : Hid (∀ X, Hid (Below w5.heap.size w5 X) → Calls Tryz.prog 63 #[.agg #[.int .i32 (l.toNat : Nat), .int .i64 (m : Nat)]] X fun e w' => e = .returned (.agg (sqA (pcL (l, UInt8.ofNat (48 + m))))) ∧ Hid (Below w5.heap.size w5 w') ∧ w'.cell? ⟨b, 0, none⟩ = some (.int .i64 (am 0)) ∧ w'.cell? ⟨b, 1, none⟩ = some (.int .i64 (am 1)) ∧ w'.cell? ⟨b, 2, none⟩ = some (.int .i64 (am 2)) ∧ w'.cell? ⟨b, 3, none⟩ = some (.int .i64 (am 3)) ∧ w'.cell? ⟨b, 4, none⟩ = some (.int .i64 (am 4)) ∧ w'.cell? ⟨b, 5, none⟩ = some (.int .i64 (am 5)) ∧ w'.cell? ⟨b, 6, none⟩ = some (.int .i64 (am 6)) ∧ w'.cell? ⟨b, 7, none⟩ = some (.int .i64 (am 7)) ∧ w'.cell? ⟨b, 8, none⟩ = some (.int .i64 (am 8)) ∧ w'.cell? ⟨b, 9, none⟩ = some (.int .i64 (am 9)) ∧ w'.cell? ⟨b, 10, none⟩ = some (.int .i64 (am 10)) ∧ w'.cell? ⟨b, 11, none⟩ = some (.int .i64 (am 11)) ∧ w'.cell? ⟨b, 12, none⟩ = some (.int .i64 (am 12)) ∧ w'.cell? ⟨b, 13, none⟩ = some (.int .i64 (am 13)) ∧ w'.cell? ⟨b, 14, none⟩ = some (.int .i64 (am 14)) ∧ w'.cell? ⟨b, 15, none⟩ = some (.int .i64 (am 15))) := fun X hX => by
                have hm2 := isK_mem hlt hp0 (by omega) (by rw [← HL.out]; exact hik)
                rw [← HL.out] at hm2
                have h := made_any (l, UInt8.ofNat (48 + m)) hm2.1 X
                rw [hm2.2] at h
                refine h.mono ?_
                rintro e w' ⟨rfl, hb⟩
                have h5 : Below w5.heap.size w5 w' := hX.out.trans (hb.mono hX.out.size)
                exact ⟨rfl, h5, HCE.out w' h5⟩
              obtain ⟨SA, hSA⟩ : ∃ SA, SA = sqA (pcL (l, UInt8.ofNat (48 + m))) := ⟨_, rfl⟩
              rw [← hSA] at HMD
              obtain ⟨BV, hBV⟩ : ∃ BV, BV = kdT c (pkN p x) m l := ⟨_, rfl⟩
              have heq : ∀ X : World, (binOp .eql 79 (.agg SA) (.agg #[.int .i64 (am 0), .int .i64 (am 1), .int .i64 (am 2), .int .i64 (am 3), .int .i64 (am 4), .int .i64 (am 5), .int .i64 (am 6), .int .i64 (am 7), .int .i64 (am 8), .int .i64 (am 9), .int .i64 (am 10), .int .i64 (am 11), .int .i64 (am 12), .int .i64 (am 13), .int .i64 (am 14), .int .i64 (am 15)])).run Tryz.prog X = .ok (.bool BV) X := fun X => by
                have h := eq16 (sqC (pcL (l, UInt8.ofNat (48 + m)))) am X
                have hk2 : BV = ((List.range 16).all fun k => sqC (pcL (l, UInt8.ofNat (48 + m))) k == am k) := by
                  rw [hBV, ham]
                  unfold kdT
                  rw [hik, Bool.true_and]
                rw [hk2, hSA]
                exact h
              rw [← hBV]
              have HBV : Hid (BV = kdT c (pkN p x) m l) := hBV
              clear hSA hBV ham HCE HVA
              gi_region_with (first | (refine ⟨trivial, rfl, ?_⟩; gi_at_call 62; refine (CallsIn.inRound _ (callsIn_wide.2 HKT.out)).mono ?_; rintro e w6 ⟨rfl, hy6, g60, g61, p0, p1, p2, p3, p4, p5, p6, p7, p8, p9, p10, p11, p12, p13, p14, p15⟩) | (refine ⟨trivial, rfl, ?_⟩; gi_at_call 63; refine (CallsIn.inRound _ (callsIn_wide.2 (HMD.out _ hy6))).mono ?_; rintro e w7 ⟨rfl, hy7, q0, q1, q2, q3, q4, q5, q6, q7, q8, q9, q10, q11, q12, q13, q14, q15⟩))
              all_goals exact ⟨rfl, _, _, _, _, _, _, _, rfl, hy7.out⟩
            · have hkf : kdT c (pkN p x) m l = false := by
                unfold kdT
                rw [Bool.eq_false_iff.2 hik]; rfl
              have HKT : Hid (Calls Tryz.prog 62 #[.agg #[.int .i32 (l.toNat : Nat), .int .i64 (m : Nat)]] w5.drew fun e w' => e = .returned (.bool false) ∧ Hid (Below w5.heap.size w5 w')) := by
                refine (HKI.out w5.drew).mono ?_
                rintro e w' ⟨rfl, hb⟩
                rw [Bool.eq_false_iff.2 hik]
                exact ⟨rfl, (Below.refl _ _).drew.trans hb⟩
              rw [hkf]
              gi_region_with (first | (refine ⟨trivial, rfl, ?_⟩; gi_at_call 62; refine (CallsIn.inRound _ (callsIn_wide.2 HKT.out)).mono ?_; rintro e w6 ⟨rfl, hy6⟩) | (refine ⟨trivial, ?_⟩))
              all_goals exact ⟨rfl, _, _, _, _, _, _, _, rfl, hy6.out⟩
          case rest2 =>
            rintro e a w8 ⟨rfl, y27, y28, y29, y30, y31, y32, y33, rfl, hb8⟩
            have hnew : w8.heap[w4.heap.size]? = some (.cells #[.int .i32 (l.toNat : Nat), .int .i64 m] 51 (0, 0)) := (hb8.block _ (Array.getElem?_eq_some_iff.1 HN5.out).1).trans HN5.out
            have h48 : Below w4.heap.size w4 w8 := HB5.out.trans (hb8.mono HB5.out.size)
            have HB8 : Hid (Below wx.heap.size wx w8) := HB4.out.trans (h48.mono HB4.out.size)
            have HW8 : Hid (Below W1.heap.size W1 w8) := HBW.out _ h48
            have HI8 : Hid (w8.heap[t]? = some (.stringIter LB (k + 1))) := (h48.block _ (Array.getElem?_eq_some_iff.1 HI4.out).1).trans HI4.out
            have hbox := (HE.out _ HW8.out).2.2
            have HBOX : Hid (w8.heap[w.heap.size + 1 + 1]? = some (.cells #[.int .i32 0, .int .i64 0] 51 (0, 0))) := hbox
            have g0 : w8.cell? ⟨w4.heap.size, 0, none⟩ = some (.int .i32 (l.toNat : Nat)) := by simp [World.cell?, hnew]
            have g1 : w8.cell? ⟨w4.heap.size, 1, none⟩ = some (.int .i64 m) := by simp [World.cell?, hnew]
            have r0 : w8.cell? ⟨w.heap.size + 1 + 1, 0, none⟩ = some (.int .i32 0) := by simp [World.cell?, hbox]
            have r1 : w8.cell? ⟨w.heap.size + 1 + 1, 1, none⟩ = some (.int .i64 0) := by simp [World.cell?, hbox]
            have r2 : w8.frozen? ⟨w.heap.size + 1 + 1, 0, none⟩ = false := by simp [World.frozen?, hbox]
            have r3 : w8.frozen? ⟨w.heap.size + 1 + 1, 1, none⟩ = false := by simp [World.frozen?, hbox]
            clear hnew h48 hb8 hbox HKI HN5 HB5
            cases hkt : kdT c (pkN p x) m l with
            | true =>
              have HFD : Hid (kdF c p x = some l) := by
                show _ = _
                rw [HL.out]
                refine find_ltU hlt (fun i hi => ?_) ?_
                · rw [← HML.out]; exact HNO.out i hi
                · rw [← HML.out, ← HL.out]; exact hkt
              clear hkt
              gi_wp2
              obtain ⟨W9, hW9⟩ : ∃ W9, W9 = (w8.setCell ⟨w.heap.size + 1 + 1, 0, none⟩ (.int .i32 (l.toNat : Nat))).setCell ⟨w.heap.size + 1 + 1, 1, none⟩ (.int .i64 m) := ⟨_, rfl⟩
              rw [← hW9]
              have q1 : W9.heap[w.heap.size + 1 + 1]? = some (.cells #[.int .i32 (l.toNat : Nat), .int .i64 m] 51 (0, 0)) := by
                rw [hW9]
                have g1 : (w8.setCell ⟨w.heap.size + 1 + 1, 0, none⟩ (.int .i32 (l.toNat : Nat))).heap[w.heap.size + 1 + 1]? = some (.cells #[.int .i32 (l.toNat : Nat), .int .i64 0] 51 (0, 0)) := by simp [World.setCell, Array.getElem?_modify, HBOX.out]
                rw [World.setCell]; simp [Array.getElem?_modify, g1]
              have q3 : ∀ b, b ≠ w.heap.size + 1 + 1 → W9.heap[b]? = w8.heap[b]? := fun b h1 => by
                rw [hW9]
                exact (Below.heap_setCell _ _ _ _ h1).trans (Below.heap_setCell _ _ _ _ h1)
              have q4 : W9.heap.size = w8.heap.size := by rw [hW9]; simp [World.setCell]
              have q5 : W9.os = w8.os ∧ W9.tape = w8.tape ∧ W9.output = w8.output := by rw [hW9]; exact ⟨rfl, rfl, rfl⟩
              have hi := HKI0.out
              have hw8 := HW8.out
              have hsz := HSZ.out
              have hws := hi.kp.size
              have h8s := hw8.size
              refine ⟨⟨by omega, fun b' hb1 hb2 => (q3 b' (fun e => ?_)).trans (hw8.block b' hb1)⟩, rfl, hi.sn, by omega, q5.1.trans (hw8.os.trans hi.os), q5.2.1.trans (hw8.tape.trans hi.tape), q5.2.2.trans (hw8.output.trans hi.output), fun b' hb' => ?_, pre, x, l, rfl, hi.no, HFD.out, by rw [q1, ← HML.out]; rfl⟩
              · rcases hb2 with hb2 | hb2
                · have := hi.sn b' hb2; omega
                · exact hb2
              · exact (q3 b' (by omega)).trans ((hw8.block b' (by omega)).trans ((hi.kp.block b' (by omega) (by omega)).trans (HBN.out.block b' hb')))
            | false =>
              have HKF : Hid (kdT c (pkN p x) m l = false) := hkt
              clear hkt
              gi_wp2
              refine ⟨⟨k + 1, by omega, HI8.out, HB8.out, (Array.getElem?_eq_some_iff.1 HI8.out).1, fun i hi => ?_⟩, ?_⟩
              · by_cases e : i = k
                · rw [e, ← HL.out]; exact HKF.out
                · exact HNO.out i (by omega)
              · rw [iterPos_of HI8.out, iterPos_of HIK.out]; omega
        · have hke : k = 6 := by omega
          have hnx : ∀ ty, (Instr.next (.pointer (some ⟨t, 0, none⟩)) true ty).run Tryz.prog wr = .ok (.tuple #[.bool false]) wr := fun ty =>
            Lib.run_next_end_at wr _ _ k ty hir (by rw [HLB.out, hke]; decide)
          have HFD : Hid (kdF c p x = none) := by
            refine find_ltU0 (fun i hi => ?_)
            rw [← HML.out]; exact HNO.out i (by omega)
          clear hir hbr htl hno hlt hk
          gi_wp2
          have hi := HKI0.out
          have hwr : Below W1.heap.size W1 wr := HBX.out.trans (HBR.out.mono HBX.out.size)
          have hsz := HSZ.out
          refine ⟨⟨hwr.size, fun b' hb1 hb2 => hwr.block b' hb1⟩, hi.sn, hi.kp.trans ⟨hwr.size, fun b' hb1 _ => hwr.block b' hb1⟩, hwr.os.trans hi.os, hwr.tape.trans hi.tape, hwr.output.trans hi.output, fun o ho => ?_⟩
          rcases List.mem_append.1 ho with ho | ho
          · exact hi.no o ho
          · rw [List.mem_singleton] at ho
            rw [ho]; exact HFD.out

end Go.Proofs.YtilblfoapjnmaaaGreatDoor
