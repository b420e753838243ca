import Derived.Test.YtilblfoapjnmaaaGreatDoorMgAP
import Derived.Laws.EntriesVeiled
import Derived.Laws.MakeOwn
/- choose.Orders: the walk that fills in an order: one number more. -/
namespace Go.Proofs.YtilblfoapjnmaaaGreatDoor
open Go.RowKit Go.Shelf
attribute [local go_sem] Oper.semAt_some

set_option maxRecDepth 100000 in
set_option maxHeartbeats 4000000 in
theorem fillO_succ (k : Nat) (ih : FillO k) : FillO (k + 1) := by
  intro N0 l n bo bn by' bf ba S T J Jx cs hst hstx hbx hn hN0 hY ix pre W hk ho hsz hJ hpre
  obtain ⟨i3, hi3, hz30, hz31, hz32⟩ := info_parts Tryz.info3
  have HIH : Hid (∀ (ix : List Int) (pre : List (List Int)) (W : World), ix.length + k = n → Oq W l n bo bn by' bf ba ix → (∀ b, S b → b < W.heap.size) → J S pre W → (pre ++ ords n k ix) <+: cs →
    CallsIn Fence.wide 0 Tryz.prog 88 #[.pointer (some ⟨bo, 0, none⟩), .pointer (some ⟨bn, 0, none⟩), .pointer (some ⟨by', 0, none⟩), .pointer (some ⟨bf, 0, none⟩)] W fun e W' =>
      ∃ b : Bool, e = .returned (.bool b) ∧ Oq W' l n bo bn by' bf ba ix ∧ W.heap.size ≤ W'.heap.size ∧ ((b = true ∧ J S (pre ++ ords n k ix) W') ∨ (b = false ∧ ∃ q, q <+: cs ∧ Jx S q W'))) := ih N0 l n bo bn by' bf ba S T J Jx cs hst hstx hbx hn hN0 hY
  have HST : Hid (Stab J) := hst
  have HSX : Hid (Stab Jx) := hstx
  have HBX : Hid (Bxq S bo bn by' bf ba) := hbx
  have HO : Hid (Oq W l n bo bn by' bf ba ix) := ho
  have HSZ : Hid (∀ b, S b → b < W.heap.size) := hsz
  have HJ : Hid (J S pre W) := hJ
  have HPRE : Hid ((pre ++ ords n (k + 1) ix) <+: cs) := hpre
  have c1 := oq_cell ho.co
  have c2 := ho.cn
  have HK : Hid (ix.length + (k + 1) = n) := hk
  have hne : ((ix.length : Int) == (n : Int)) = false := by rw [beq_eq_false_iff_ne]; omega
  have hK : ix.length < n := by omega
  clear hst hstx hbx hY ho hsz hJ hpre ih hk
  refine callsIn_of_wp Tryz.func88 rfl trivial ?_ rfl
  simp only [Tryz.ntmps88, List.size_toArray, List.length_cons, List.length_nil, Nat.reduceAdd, Nat.reduceSub, Array.replicate_succ, Array.replicate_zero, List.push_toArray, List.append_toArray, List.nil_append, List.cons_append]
  gi_wp2
  gi_loopw [16, 5, 6] (fun i _ _ wr => ∃ (q : Nat) (pr : List (List Int)), q ≤ n ∧ i = .int .i64 q ∧ Oq wr l n bo bn by' bf ba ix ∧ W.heap.size ≤ wr.heap.size ∧ J S pr wr ∧
      pr ++ ordsF n k ix q = pre ++ ords n (k + 1) ix) (fun i _ _ _ => n - (intOf i).toNat)
  case atStart => exact ⟨0, pre, Nat.zero_le _, rfl, HO.out, Nat.le_refl _, HJ.out, by rw [ordsF_zero]⟩
  case round =>
    obtain ⟨q, pr, hq, rfl, ho, hws, hJ, hpr⟩ := hrel
    have HO2 : Hid (Oq wr l n bo bn by' bf ba ix) := ho
    have HJ2 : Hid (J S pr wr) := hJ
    have HPR : Hid (pr ++ ordsF n k ix q = pre ++ ords n (k + 1) ix) := hpr
    have HWS : Hid (W.heap.size ≤ wr.heap.size) := hws
    by_cases hlt : q < n
    · have d1 := oq_cell ho.co
      have HCT : Hid (Calls Tryz.prog 56 #[.slice (some ⟨ba, 0, none⟩) ix.length n, .int .i64 q] wr fun e w' => e = .returned (.bool (ix.contains (q : Int))) ∧ w' = wr) := containsT_any 0 q ix _ wr (Sl.own (B := 0) ho.own)
      have HSTEP : Hid (ordsF n k ix q = (if ix.contains (q : Int) then [] else ords n k (ix ++ [(q : Int)])) ++ ordsF n k ix (q + 1)) := ordsF_step ix hlt
      clear hpr hJ hws
      cases hct : ix.contains (q : Int)
      · rw [hct] at HCT HSTEP
        have HP2 : Hid (pr ++ (ords n k (ix ++ [(q : Int)]) ++ ordsF n k ix (q + 1)) = pre ++ ords n (k + 1) ix) := by
          have := HPR.out; rw [HSTEP.out] at this; exact this
        clear HPR HSTEP hct
        have HOWN : Hid (wr.ownsRow 0 3 1 (.slice (some ⟨ba, 0, none⟩) ix.length n) ix.length (ints ix)) := ho.own
        have HCO : Hid (wr.heap[bo]? = some (.cells #[.slice (some ⟨ba, 0, none⟩) ix.length n] 26 (0, 0))) := ho.co
        have HNXT : Hid (∀ w', w'.ownsRow 0 3 1 (.slice (some ⟨ba, 0, none⟩) (ix.length + 1) n) (ix.length + 1) (ints ix ++ [.int .i64 q]) → (wr.alloc (.cells #[.int .i64 q] 3)).grownBy w' (some ba) →
            w'.cell? ⟨bo, 0, none⟩ = some (.slice (some ⟨ba, 0, none⟩) ix.length n) ∧ w'.frozen? ⟨bo, 0, none⟩ = false ∧
            (w'.setCell ⟨bo, 0, none⟩ (.slice (some ⟨ba, 0, none⟩) (ix.length + 1) n)).cell? ⟨bf, 0, none⟩ = some (.func (.func 88) #[] #[.pointer (some ⟨bo, 0, none⟩), .pointer (some ⟨bn, 0, none⟩), .pointer (some ⟨by', 0, none⟩), .pointer (some ⟨bf, 0, none⟩)]) ∧
            CallsIn Fence.wide 0 Tryz.prog 88 #[.pointer (some ⟨bo, 0, none⟩), .pointer (some ⟨bn, 0, none⟩), .pointer (some ⟨by', 0, none⟩), .pointer (some ⟨bf, 0, none⟩)] (w'.setCell ⟨bo, 0, none⟩ (.slice (some ⟨ba, 0, none⟩) (ix.length + 1) n)) fun e W' =>
              ∃ b : Bool, e = .returned (.bool b) ∧ (W'.cell? ⟨bo, 0, none⟩ = some (.slice (some ⟨ba, 0, none⟩) (ix.length + 1) n) ∧ W'.frozen? ⟨bo, 0, none⟩ = false) ∧ (W.heap.size ≤ W'.heap.size ∧ Oq (W'.setCell ⟨bo, 0, none⟩ (.slice (some ⟨ba, 0, none⟩) ix.length n)) l n bo bn by' bf ba ix) ∧
                ((b = true ∧ J S (pr ++ ords n k (ix ++ [(q : Int)])) (W'.setCell ⟨bo, 0, none⟩ (.slice (some ⟨ba, 0, none⟩) ix.length n))) ∨ (b = false ∧ ∃ q, q <+: cs ∧ Jx S q (W'.setCell ⟨bo, 0, none⟩ (.slice (some ⟨ba, 0, none⟩) ix.length n))))) := fun w' h1 h2 => by
          have hs2 := h2.size
          simp only [World.size_alloc] at hs2
          have hbk : ∀ b, b < wr.heap.size → b ≠ ba → w'.heap[b]? = wr.heap[b]? := fun b hb hne => (h2.block b (by simp; omega) (by simpa using hne)).trans (Below.heap_alloc _ _ _ hb)
          have hbo : bo < wr.heap.size := (Array.getElem?_eq_some_iff.1 HCO.out).1
          have hob : w'.heap[bo]? = some (.cells #[.slice (some ⟨ba, 0, none⟩) ix.length n] 26 (0, 0)) := (hbk bo hbo (HBX.out.na bo (by simp))).trans HCO.out
          have hl1 : (ix ++ [(q : Int)]).length = ix.length + 1 := by simp
          have e1 : ints ix ++ [.int .i64 q] = ints (ix ++ [(q : Int)]) := ints_snoc ix q
          rw [e1] at h1
          -- the world behind the store
          have ho5 : Oq (w'.setCell ⟨bo, 0, none⟩ (.slice (some ⟨ba, 0, none⟩) (ix ++ [(q : Int)]).length n)) l n bo bn by' bf ba (ix ++ [(q : Int)]) := by
            have hkb : ∀ b, b = bn ∨ b = by' ∨ b = bf → b < wr.heap.size → w'.heap[b]? = wr.heap[b]? := fun b hb hb2 => hbk b hb2 (HBX.out.na b (by omega))
            have hks : ∀ b, b = bn ∨ b = by' ∨ b = bf ∨ b = ba → (w'.setCell ⟨bo, 0, none⟩ (.slice (some ⟨ba, 0, none⟩) (ix ++ [(q : Int)]).length n)).heap[b]? = w'.heap[b]? := fun b hb => Below.heap_setCell _ _ _ _ (HBX.out.no b hb)
            have h0 := HO2.out
            refine ⟨oq_set hob, (World.cell?_of_block (w := wr) ((hks bn (.inl rfl)).trans (hkb bn (.inl rfl) (lt_cell0 h0.cn)))).trans h0.cn,
              (World.cell?_of_block (w := wr) ((hks by' (.inr (.inl rfl))).trans (hkb by' (.inr (.inl rfl)) (lt_cell0 h0.cy)))).trans h0.cy,
              (World.cell?_of_block (w := wr) ((hks bf (.inr (.inr (.inl rfl)))).trans (hkb bf (.inr (.inr rfl)) (lt_cell0 h0.cf)))).trans h0.cf, by simp, ?_⟩
            rcases h1.2 with hx | ⟨g, cap, cur, e, hb, hh, r⟩
            · simp at hx
            · simp only [Value.slice.injEq, Option.some.injEq, Addr.mk.injEq] at e
              obtain ⟨⟨rfl, _⟩, _, rfl⟩ := e
              refine .inr ⟨ba, n, cur, rfl, hb, (hks ba (by simp)).trans hh, ?_⟩
              rw [hl1]
              exact r
          have hJ5 : J S pr (w'.setCell ⟨bo, 0, none⟩ (.slice (some ⟨ba, 0, none⟩) (ix ++ [(q : Int)]).length n)) := by
            refine HST.out S S pr wr _ HJ2.out ?_ (fun b hb => .inl hb)
            have hch : Chg S wr w' := ⟨h2.os, h2.tape, h2.output, by omega, fun b hb hns => hbk b hb (fun e => hns (e ▸ HBX.out.a))⟩
            exact hch.setCell HBX.out.o _
          have hpx : (pr ++ ords n k (ix ++ [(q : Int)])) <+: cs := by
            refine List.IsPrefix.trans ?_ HPRE.out
            rw [← HP2.out, ← List.append_assoc]
            exact List.prefix_append _ _
          have hcall := HIH.out (ix ++ [(q : Int)]) pr _ (by rw [hl1]; have := HK.out; omega) ho5 (fun b hb => by
            have h3 := HSZ.out b hb
            have h4 := HWS.out
            simp only [World.setCell, Array.size_modify]
            omega) hJ5 hpx
          rw [hl1] at hcall ho5
          refine ⟨oq_cell hob, oq_frozen hob, ho5.cf, hcall.mono ?_⟩
          rintro e W' ⟨b, rfl, p1, p2, p3⟩
          have p2' : W.heap.size ≤ W'.heap.size := by
            have h4 := HWS.out
            simp only [World.setCell, Array.size_modify] at p2
            omega
          have pc := p1.co
          rw [hl1] at pc
          refine ⟨b, rfl, ⟨oq_cell pc, oq_frozen pc⟩, ⟨p2', p1.set HBX.out (own_less p1.own)⟩, ?_⟩
          rcases p3 with ⟨h, p3⟩ | ⟨h, qq, h5, p3⟩
          · exact .inl ⟨h, HST.out S S _ W' _ p3 ((Chg.refl _ _).setCell HBX.out.o _) (fun b hb => .inl hb)⟩
          · exact .inr ⟨h, qq, h5, HSX.out S S _ W' _ p3 ((Chg.refl _ _).setCell HBX.out.o _) (fun b hb => .inl hb)⟩
        clear ho
        gi_wp2_with (first | (refine ⟨trivial, rfl, ?_⟩; gi_at_call 56; refine (callsIn_wide.2 HCT.out).mono ?_; rintro e w' ⟨rfl, hww⟩; rw [hww]; clear hww w') | (gi_at_builtin; refine wpListIn_append_fits _ rfl _ _ 26 rfl 0 3 i3 1 Tryz.underlying26 hi3 hz31 ba ix.length n (ints ix) rfl (HOWN.out.alloc _) ⟨wr.heap.size, 0, none⟩ 1 1 [.int .i64 q] rfl rfl (one_new _ _ _) (one_int _) (by omega) ?_))
        intro w5 h5 g5
        obtain ⟨e1, e2, e3, e4⟩ := HNXT.out w5 h5 g5
        have HCALL : Hid (CallsIn Fence.wide 0 Tryz.prog 88 #[.pointer (some ⟨bo, 0, none⟩), .pointer (some ⟨bn, 0, none⟩), .pointer (some ⟨by', 0, none⟩), .pointer (some ⟨bf, 0, none⟩)] (w5.setCell ⟨bo, 0, none⟩ (.slice (some ⟨ba, 0, none⟩) (ix.length + 1) n)) fun e W' =>
              ∃ b : Bool, e = .returned (.bool b) ∧ (W'.cell? ⟨bo, 0, none⟩ = some (.slice (some ⟨ba, 0, none⟩) (ix.length + 1) n) ∧ W'.frozen? ⟨bo, 0, none⟩ = false) ∧ (W.heap.size ≤ W'.heap.size ∧ Oq (W'.setCell ⟨bo, 0, none⟩ (.slice (some ⟨ba, 0, none⟩) ix.length n)) l n bo bn by' bf ba ix) ∧
                ((b = true ∧ J S (pr ++ ords n k (ix ++ [(q : Int)])) (W'.setCell ⟨bo, 0, none⟩ (.slice (some ⟨ba, 0, none⟩) ix.length n))) ∨ (b = false ∧ ∃ q, q <+: cs ∧ Jx S q (W'.setCell ⟨bo, 0, none⟩ (.slice (some ⟨ba, 0, none⟩) ix.length n))))) := e4
        clear HNXT h5 g5 e4 HOWN HCO HCT
        gi_wp2_with fail
        refine ⟨trivial, rfl, ?_⟩
        refine HCALL.out.mono ?_
        rintro e w6 ⟨b, rfl, ⟨f1, f2⟩, ⟨f3, f4⟩, f5⟩
        have F3 : Hid (W.heap.size ≤ w6.heap.size) := f3
        have F4 : Hid (Oq (w6.setCell ⟨bo, 0, none⟩ (.slice (some ⟨ba, 0, none⟩) ix.length n)) l n bo bn by' bf ba ix) := f4
        clear f3 f4 HCALL e1 e2 e3 d1
        cases b
        · have F5 : Hid (∃ q, q <+: cs ∧ Jx S q (w6.setCell ⟨bo, 0, none⟩ (.slice (some ⟨ba, 0, none⟩) ix.length n))) := by
            rcases f5 with ⟨h, _⟩ | ⟨_, h⟩
            · cases h
            · exact h
          clear f5
          gi_wp2
          go_ret
          exact ⟨false, rfl, F4.out, by simp only [World.setCell, Array.size_modify]; exact F3.out, .inr ⟨rfl, F5.out⟩⟩
        · have F5 : Hid (J S (pr ++ ords n k (ix ++ [(q : Int)])) (w6.setCell ⟨bo, 0, none⟩ (.slice (some ⟨ba, 0, none⟩) ix.length n))) := by
            rcases f5 with ⟨_, h⟩ | ⟨h, _⟩
            · exact h
            · cases h
          clear f5
          gi_wp2
          go_roundw
          case rel => exact ⟨q + 1, pr ++ ords n k (ix ++ [(q : Int)]), by omega, by go_num, F4.out, by simp only [World.setCell, Array.size_modify]; exact F3.out, F5.out, by rw [List.append_assoc]; exact HP2.out⟩
          case measure => simp [intOf]; omega
      · rw [hct] at HCT HSTEP
        have HP2 : Hid (pr ++ ordsF n k ix (q + 1) = pre ++ ords n (k + 1) ix) := by
          have := HPR.out; rw [HSTEP.out] at this; exact this
        clear HPR HSTEP hct ho
        gi_wp2_with (refine ⟨trivial, rfl, ?_⟩; gi_at_call 56; refine (callsIn_wide.2 HCT.out).mono ?_; rintro e w' ⟨rfl, hww⟩; rw [hww]; clear hww w')
        go_roundw
        case rel => exact ⟨q + 1, pr, by omega, by go_num, HO2.out, HWS.out, HJ2.out, HP2.out⟩
        case measure => simp [intOf]; omega
    · have hqe : q = n := by omega
      have HCE : Hid (pr = pre ++ ords n (k + 1) ix) := by
        show _ = _
        rw [← hpr, hqe, ordsF_end]
        simp
      clear ho hws hJ hpr
      have hqK : decide ((q : Int) < (n : Int)) = false := by simp; omega
      gi_wp2
      go_ret
      exact ⟨true, rfl, HO2.out, HWS.out, .inl ⟨rfl, by rw [← HCE.out]; exact HJ2.out⟩⟩

theorem fillO_any : ∀ k, FillO k
  | 0 => fillO_zero
  | k + 1 => fillO_succ k (fillO_any k)

end Go.Proofs.YtilblfoapjnmaaaGreatDoor

/- choose.Orders: what it hands back goes through all orders. -/
namespace Go.Proofs.YtilblfoapjnmaaaGreatDoor
open Go.RowKit Go.Shelf
attribute [local go_sem] Oper.semAt_some

theorem oAlloc_new (w : World) (o : Obj) : (w.alloc o).heap[w.heap.size]? = some o := World.alloc_heap_new w o
theorem oAlloc_keep (w : World) (o : Obj) : Below w.heap.size w (w.alloc o) := (Below.refl _ _).alloc (Nat.le_refl _) _
theorem oSize_alloc (w : World) (o : Obj) : (w.alloc o).heap.size = w.heap.size + 1 := by simp

/-- Four blocks, one after another. -/
theorem oFour (w : World) (o1 o2 o3 o4 : Obj) :
    ∃ W, W = (((w.alloc o1).alloc o2).alloc o3).alloc o4 ∧ W.heap[w.heap.size]? = some o1 ∧ W.heap[w.heap.size + 1]? = some o2 ∧ W.heap[w.heap.size + 1 + 1]? = some o3 ∧ W.heap[w.heap.size + 1 + 1 + 1]? = some o4 ∧ W.heap.size = w.heap.size + 4 ∧ Below w.heap.size w W := by
  obtain ⟨w1, h1⟩ : ∃ w1, w1 = w.alloc o1 := ⟨_, rfl⟩
  obtain ⟨w2, h2⟩ : ∃ w2, w2 = w1.alloc o2 := ⟨_, rfl⟩
  obtain ⟨w3, h3⟩ : ∃ w3, w3 = w2.alloc o3 := ⟨_, rfl⟩
  have s1 : w1.heap.size = w.heap.size + 1 := by rw [h1]; exact oSize_alloc _ _
  have s2 : w2.heap.size = w.heap.size + 2 := by rw [h2, oSize_alloc]; omega
  have s3 : w3.heap.size = w.heap.size + 3 := by rw [h3, oSize_alloc]; omega
  have n1 : w1.heap[w.heap.size]? = some o1 := by rw [h1]; exact oAlloc_new _ _
  have n2 : w2.heap[w.heap.size + 1]? = some o2 := by rw [h2, ← s1]; exact oAlloc_new _ _
  have n3 : w3.heap[w.heap.size + 1 + 1]? = some o3 := by rw [h3, show w.heap.size + 1 + 1 = w2.heap.size by omega]; exact oAlloc_new _ _
  have b1 : Below w.heap.size w w1 := by rw [h1]; exact oAlloc_keep _ _
  have b2 : Below w1.heap.size w1 w2 := by rw [h2]; exact oAlloc_keep _ _
  have b3 : Below w2.heap.size w2 w3 := by rw [h3]; exact oAlloc_keep _ _
  have b4 : Below w3.heap.size w3 (w3.alloc o4) := oAlloc_keep _ _
  refine ⟨w3.alloc o4, by rw [h3, h2, h1], ?_, ?_, ?_, ?_, ?_, ?_⟩
  · rw [b4.block _ (by omega), b3.block _ (by omega), b2.block _ (by omega)]; exact n1
  · rw [b4.block _ (by omega), b3.block _ (by omega)]; exact n2
  · rw [b4.block _ (by omega)]; exact n3
  · rw [show w.heap.size + 1 + 1 + 1 = w3.heap.size by omega]; exact oAlloc_new _ _
  · rw [oSize_alloc]; omega
  · exact ((b1.trans (b2.mono (by omega))).trans (b3.mono (by omega))).trans (b4.mono (by omega))

theorem make0_run (n : Nat) (hn : n ≤ 6) (w : World) : (Instr.makeSlice 26 (.int .i64 0) (.int .i64 (n : Int))).run Tryz.prog w = .ok (.slice (some ⟨w.heap.size, 0, none⟩) 0 n) (w.alloc (.cells (madeCells #[.int .i64 0] n) 3)) := by
  obtain ⟨i3, hi3, hz30, hz31, hz32⟩ := info_parts Tryz.info3
  have h := run_make (P := Tryz.prog) w 26 3 i3 (.int .i64 0) Tryz.underlying26 hi3 hz30 .i64 .i64 0 n (Int.le_refl _) (by omega) (by rw [hz32]; omega) (by omega)
  simp only [Int.toNat_zero, Int.toNat_natCast, hz31, Nat.mul_one] at h
  exact h

set_option maxRecDepth 100000 in
set_option maxHeartbeats 4000000 in
theorem orders_seq (n bn : Nat) (w0 : World) (hn : n ≤ 6) (hcn : w0.cell? ⟨bn, 0, none⟩ = some (.int .i64 n)) :
    SeqS Tryz.prog 87 #[.pointer (some ⟨bn, 0, none⟩)] (Hand w0.heap.size) (ords n n []) (fun _ => False) (fun b => b = bn) w0 := by
  intro l J Jx W hW hst hstx hY hJ
  have hbn := lt_cell0 hcn
  have c2 : W.cell? ⟨bn, 0, none⟩ = some (.int .i64 n) := (hW.cell (p := ⟨bn, 0, none⟩) hbn).trans hcn
  have hmk := make0_run n hn
  obtain ⟨W4, hW4, e1, e2, e3, e4, hsz, hbw⟩ := oFour W (.cells #[.func (.yield l) #[] #[]] 71) (.cells (madeCells #[.int .i64 0] n) 3) (.cells #[.slice (some ⟨W.heap.size + 1, 0, none⟩) 0 n] 26)
    (.cells #[.func (.func 88) #[] #[.pointer (some ⟨W.heap.size + 1 + 1, 0, none⟩), .pointer (some ⟨bn, 0, none⟩), .pointer (some ⟨W.heap.size, 0, none⟩), .pointer (some ⟨W.heap.size + 1 + 1 + 1, 0, none⟩)]] 112)
  have hwn := lt_cell0 c2
  obtain ⟨S, hS⟩ : ∃ S : Nat → Prop, S = fun b => b = bn ∨ (W.heap.size ≤ b ∧ b < W.heap.size + 4) := ⟨_, rfl⟩
  have ho : Oq W4 l n (W.heap.size + 1 + 1) bn W.heap.size (W.heap.size + 1 + 1 + 1) (W.heap.size + 1) [] := by
    refine ⟨e3, (hbw.cell (p := ⟨bn, 0, none⟩) hwn).trans c2, oq_cell e1, oq_cell e4, by simp [ints], .inr ⟨W.heap.size + 1, n, _, rfl, Nat.zero_le _, e2, by simp, by unfold maxLen; omega, ?_, by simp [ints]⟩⟩
    rw [← Array.length_toList, toList_madeCells_one]; simp
  have hbx : Bxq S (W.heap.size + 1 + 1) bn W.heap.size (W.heap.size + 1 + 1 + 1) (W.heap.size + 1) := by
    rw [hS]
    exact ⟨.inr (by omega), .inl rfl, .inr (by omega), .inr (by omega), .inr (by omega), fun b hb => by omega, fun b hb => by omega⟩
  have hJ4 : J S [] W4 := hst _ S [] W W4 hJ (Chg.of_below hbw (Nat.le_refl _)) (fun b hb => by
    rw [hS] at hb
    rcases hb with h | h
    · exact .inl h
    · exact .inr h.1)
  have HC : Hid (CallsIn Fence.wide 0 Tryz.prog 88 #[.pointer (some ⟨W.heap.size + 1 + 1, 0, none⟩), .pointer (some ⟨bn, 0, none⟩), .pointer (some ⟨W.heap.size, 0, none⟩), .pointer (some ⟨W.heap.size + 1 + 1 + 1, 0, none⟩)] W4 fun e W' =>
      ∃ b : Bool, e = .returned (.bool b) ∧ ((∃ S, J S (ords n n []) W') ∨ (∃ S pre, pre <+: ords n n [] ∧ Jx S pre W'))) := by
    refine (fillO_any n w0.heap.size l n (W.heap.size + 1 + 1) bn W.heap.size (W.heap.size + 1 + 1 + 1) (W.heap.size + 1) S (fun _ => False) J Jx (ords n n []) hst hstx hbx hn (by have := hW.size; omega) hY [] [] W4 (by simp) ho (fun b hb => by
      rw [hS] at hb
      rcases hb with h | h <;> omega) hJ4 (by simp)).mono ?_
    rintro e W' ⟨b, rfl, _, _, (⟨_, h⟩ | ⟨_, q, h1, h2⟩)⟩
    · exact ⟨b, rfl, .inl ⟨S, by simpa using h⟩⟩
    · exact ⟨b, rfl, .inr ⟨S, q, h1, h2⟩⟩
  have HW4 : Hid (W4 = (((W.alloc (.cells #[.func (.yield l) #[] #[]] 71)).alloc (.cells (madeCells #[.int .i64 0] n) 3)).alloc (.cells #[.slice (some ⟨W.heap.size + 1, 0, none⟩) 0 n] 26)).alloc
    (.cells #[.func (.func 88) #[] #[.pointer (some ⟨W.heap.size + 1 + 1, 0, none⟩), .pointer (some ⟨bn, 0, none⟩), .pointer (some ⟨W.heap.size, 0, none⟩), .pointer (some ⟨W.heap.size + 1 + 1 + 1, 0, none⟩)]] 112)) := hW4
  clear hst hstx hY hJ ho hbx hJ4 e1 e2 e3 e4 hsz hbw hW hcn hW4
  refine callsIn_of_wp Tryz.func87 rfl trivial ?_ rfl
  simp only [Tryz.ntmps87, List.size_toArray, List.length_cons, List.length_nil, Nat.reduceAdd, Nat.reduceSub, Array.replicate_succ, Array.replicate_zero, List.push_toArray, List.append_toArray, List.nil_append, List.cons_append]
  gi_wp2_with fail
  refine ⟨trivial, rfl, ?_⟩
  rw [← HW4.out]
  refine (HC.out).mono ?_
  rintro e W' ⟨b, rfl, a1⟩
  have A : Hid ((∃ S, J S (ords n n []) W') ∨ (∃ S pre, pre <+: ords n n [] ∧ Jx S pre W')) := a1
  clear a1
  gi_wp2
  go_end0
  exact ⟨⟨_, rfl⟩, A.out⟩

set_option maxHeartbeats 1000000 in
theorem ordsIt_any (n : Int) (w : World) : Calls Tryz.prog 59 #[.int .i64 n] w fun e w' =>
    e = .returned (.func (.func 87) #[] #[.pointer (some ⟨w.heap.size, 0, none⟩)]) ∧ w' = w.alloc (.cells #[.int .i64 n] 3) := by
  go_enter Tryz.func59, Tryz.ntmps59
  go_wp2
  go_ret
  exact ⟨rfl, rfl⟩

end Go.Proofs.YtilblfoapjnmaaaGreatDoor
