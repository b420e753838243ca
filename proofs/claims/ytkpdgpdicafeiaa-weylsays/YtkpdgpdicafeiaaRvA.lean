import Derived.Test.YtkpdgpdicafeiaaRqB
import Derived.Test.YtkpdgpdicafeiaaRq8
import Derived.Test.YtkpdgpdicafeiaaRv1
import Derived.Test.YtkpdgpdicafeiaaWz3
/- WordMay and weyl.Check of any square and any word. -/
namespace Go.Proofs.Ytkpdgpdicafeiaa
open Go.RowKit
attribute [local go_sem ↓] Go.wp_at_zero Go.wp_at_succ

def ltO (n : Nat) (z : Int) : Bool := !(decide (z < 0) || decide ((n : Int) ≤ z))

/-- What Check says of a square and a word. -/
def wmE (c : List (List Int)) (l : List Int) : Int :=
  if ckE c = 0 then (if 40 < l.length then 11 else if l.all (ltO c.length) then 0 else 9) else ckE c

theorem wm_ck {c : List (List Int)} {l : List Int} (h : wmE c l = 0) : ckE c = 0 := by
  unfold wmE at h
  by_cases e : ckE c = 0
  · exact e
  · rw [if_neg e] at h; exact h

theorem wm_zero {c : List (List Int)} {l : List Int} (h : wmE c l = 0) : ∃ wd : List Nat, l = natsI wd ∧ Lt c wd ∧ wd.length ≤ 40 := by
  have e := wm_ck h
  unfold wmE at h
  rw [if_pos e] at h
  by_cases h40 : 40 < l.length
  · rw [if_pos h40] at h; omega
  rw [if_neg h40] at h
  by_cases ha : l.all (ltO c.length) = true
  · have hz : ∀ z ∈ l, 0 ≤ z ∧ z < c.length := fun z hz => by
      have := List.all_eq_true.1 ha z hz
      unfold ltO at this
      simp only [Bool.not_eq_true', Bool.or_eq_false_iff, decide_eq_false_iff_not] at this
      omega
    refine ⟨l.map Int.toNat, ?_, fun r hr => ?_, by rw [List.length_map]; omega⟩
    · unfold natsI
      rw [List.map_map]
      refine (List.map_id l).symm.trans (List.map_congr_left fun z hz' => ?_)
      have := hz z hz'
      simp only [Function.comp_apply, id_eq]
      omega
    · obtain ⟨z, hz', rfl⟩ := List.mem_map.1 hr
      have := hz z hz'
      omega
  · rw [if_neg ha] at h; omega

theorem all_take {l : List Int} {f : Int → Bool} {k : Nat} (hk : k < l.length) : (l.take (k + 1)).all f = ((l.take k).all f && f (l.getD k 0)) := by
  rw [List.take_succ_eq_append_getElem hk, List.all_append]
  simp [hk]

theorem all_not {l : List Int} {f : Int → Bool} {k : Nat} (hk : k < l.length) (h : f (l.getD k 0) = false) : l.all f = false := by
  rw [List.all_eq_false]
  exact ⟨l.getD k 0, by simp [hk], by rw [h]; decide⟩

theorem rootsMayE_any (c : List (List Int)) (cv : Value) (w : World) (hm : Mat w.heap.size 23 3 w cv c) :
    Calls Try.prog 17 #[cv] w fun e w' => e = .returned (.int .i64 (ckE c)) ∧ Below w.heap.size w w' := by
  by_cases h : ckE c = 0
  · obtain ⟨d, t, hw⟩ := wg_ck h
    rw [h]
    exact rootsMay_any c.length c cv w hw.g.g hw.pos hw.u.rd.nod hm
  · exact rootsMayX_any c cv w h hm

theorem rootCheckE_any (c : List (List Int)) (cv : Value) (w : World) (hm : Mat w.heap.size 23 3 w cv c) :
    Calls Try.prog 25 #[cv] w fun e w' => e = .returned (.int .i64 (ckE c)) ∧ Below w.heap.size w w' := by
  by_cases h : ckE c = 0
  · obtain ⟨d, t, hw⟩ := wg_ck h
    rw [h]
    exact checkR_any c.length c cv w hw.g.g hm
  · exact checkX_any c cv w h hm

set_option maxRecDepth 100000 in
set_option maxHeartbeats 800000 in
theorem wordMayX_any (c : List (List Int)) (l : List Int) (cv wv : Value) (w : World) (hm : Mat w.heap.size 23 3 w cv c) (hwv : Sl w.heap.size 3 w wv (ints l)) :
    Calls Try.prog 5 #[cv, wv] w fun e w' => e = .returned (.int .i64 (wmE c l)) ∧ Below w.heap.size w w' := by
  have HR : Hid (Calls Try.prog 17 #[cv] w fun e w' => e = .returned (.int .i64 (ckE c)) ∧ Below w.heap.size w w') := rootsMayE_any c cv w hm
  obtain ⟨ao, cap, hvv, _, _⟩ := mat_open hm
  subst hvv
  obtain ⟨wo, wc, hwvv, _, _⟩ := sl_open hwv
  subst hwvv
  have HWV : Hid (Sl w.heap.size 3 w (.slice wo l.length wc) (ints l)) := hwv
  have HE : Hid (wmE c l = if ckE c = 0 then (if 40 < l.length then 11 else if l.all (ltO c.length) then 0 else 9) else ckE c) := rfl
  generalize wmE c l = E at *
  generalize c.length = n at *
  generalize ckE c = K at *
  have hml : l.length ≤ 9223372036854775807 := by have := hwv.len; simpa [maxLen] using this
  clear hm hwv
  go_enter Try.func5, Try.ntmps5
  go_wp2_with fail
  refine HR.out.mono ?_
  rintro e w1 ⟨rfl, hb1⟩
  have HB1 : Hid (Below w.heap.size w w1) := hb1
  have HW1 : Hid (Sl w.heap.size 3 w1 (.slice wo l.length wc) (ints l)) := HWV.out.below hb1 (Nat.le_refl _)
  clear hb1 HR
  by_cases hK : K = 0
  · subst hK
    have he := HE.out
    rw [if_pos rfl] at he
    by_cases h40 : 40 < l.length
    · rw [if_pos h40] at he
      subst he
      have e40 : decide ((40 : Int) < (l.length : Int)) = true := decide_eq_true (by omega)
      clear HE
      go_wp2
      go_ret
      exact ⟨rfl, HB1.out⟩
    · rw [if_neg h40] at he
      have HE2 : Hid (E = if l.all (ltO n) then 0 else 9) := he
      have e40 : decide ((40 : Int) < (l.length : Int)) = false := decide_eq_false (by omega)
      clear HE he
      go_wp2
      go_loopw [6] (fun iv wr => ∃ i : Nat, i ≤ l.length ∧ iv = .int .i64 i ∧ (l.take i).all (ltO n) = true ∧ ∃ q, wr = w1.drewN q) (fun iv _ => l.length - (intOf iv).toNat)
      case atStart => exact ⟨0, Nat.zero_le _, rfl, by simp, 0, rfl⟩
      case round =>
        obtain ⟨i, hi, rfl, hal, q, rfl⟩ := hrel
        have HAL : Hid ((l.take i).all (ltO n) = true) := hal
        have HBE : Hid (Below w.heap.size w (w1.drewN q)) := HB1.out.trans ⟨rfl, rfl, rfl, Nat.le_refl _, fun _ _ => rfl⟩
        clear hal
        by_cases hlt : i < l.length
        · obtain ⟨b2, o2, cp2, hs2, _, hc2⟩ := sl_cell (HW1.out.drewN q) hlt
          simp only [Value.slice.injEq, true_and] at hs2
          obtain ⟨rfl, rfl⟩ := hs2
          have HF : Hid (∀ b, ltO n (l.getD i 0) = b → (b = false → E = 9) ∧ (b = true → (l.take (i + 1)).all (ltO n) = true)) := fun b hb => by
            refine ⟨fun e => ?_, fun e => ?_⟩
            · subst e
              rw [HE2.out, if_neg]
              rw [all_not hlt hb]
              decide
            · subst e
              rw [all_take hlt, HAL.out, hb]; rfl
          have HZ : Hid (ltO n (l.getD i 0) = !(decide (l.getD i 0 < 0) || decide ((n : Int) ≤ l.getD i 0))) := rfl
          generalize ltO n (l.getD i 0) = b at *
          generalize l.getD i 0 = z at *
          by_cases hz : z < 0
          · have ez : decide (z < 0) = true := decide_eq_true hz
            have hE := (HF.out b rfl).1 (by rw [HZ.out, ez]; rfl)
            subst hE
            clear HF HZ HAL
            go_wp2
            go_ret
            exact ⟨rfl, HBE.out⟩
          · have ez : decide (z < 0) = false := decide_eq_false hz
            by_cases hz2 : (n : Int) ≤ z
            · have ez2 : decide ((n : Int) ≤ z) = true := decide_eq_true hz2
              have hE := (HF.out b rfl).1 (by rw [HZ.out, ez, ez2]; rfl)
              subst hE
              clear HF HZ HAL
              go_wp2
              go_ret
              exact ⟨rfl, HBE.out⟩
            · have ez2 : decide ((n : Int) ≤ z) = false := decide_eq_false hz2
              have HN : Hid ((l.take (i + 1)).all (ltO n) = true) := (HF.out b rfl).2 (by rw [HZ.out, ez, ez2]; rfl)
              clear HF HZ HAL
              go_wp2
              go_roundw
              case rel => exact ⟨i + 1, by omega, by go_num, HN.out, _, rfl⟩
              case measure => simp [intOf]; omega
        · have hE : E = 0 := by
            have h1 := HAL.out
            rw [List.take_of_length_le (by omega)] at h1
            rw [HE2.out, if_pos h1]
          subst hE
          go_wp2
          go_ret
          exact ⟨rfl, HBE.out⟩
  · have he := HE.out
    rw [if_neg hK] at he
    subst he
    have hKb : (E == 0) = false := by simpa using hK
    have hKb2 : (E != 0) = true := by rw [bne, hKb]; rfl
    clear HE
    go_wp2
    go_ret
    exact ⟨rfl, HB1.out⟩

set_option maxRecDepth 100000 in
theorem chk1X_any (x : Int) (n cap : Nat) (ao : Option Addr) (p : Nat) (w : World) (hc : w.cell? ⟨p, 0, none⟩ = some (.slice ao n cap)) :
    Calls Try.prog 27 #[.int .i64 x, .pointer (some ⟨p, 0, none⟩)] w fun e w' => e = .returned (.bool (!ltO n x)) ∧ w' = w := by
  have hf : (!ltO n x) = (decide (x < 0) || decide ((n : Int) ≤ x)) := by unfold ltO; rw [Bool.not_not]
  rw [hf]
  clear hf
  by_cases h1 : x < 0
  · have e1 : decide (x < 0) = true := decide_eq_true h1
    rw [e1, Bool.true_or]
    go_enter Try.func27, Try.ntmps27
    go_wp2
    go_ret
    exact ⟨rfl, rfl⟩
  · have e1 : decide (x < 0) = false := decide_eq_false h1
    by_cases h2 : (n : Int) ≤ x
    · have e2 : decide ((n : Int) ≤ x) = true := decide_eq_true h2
      rw [e1, e2, Bool.or_true]
      go_enter Try.func27, Try.ntmps27
      go_wp2
      go_ret
      exact ⟨rfl, rfl⟩
    · have e2 : decide ((n : Int) ≤ x) = false := decide_eq_false h2
      rw [e1, e2, Bool.or_false]
      go_enter Try.func27, Try.ntmps27
      go_wp2
      go_ret
      exact ⟨rfl, rfl⟩

set_option maxRecDepth 100000 in
set_option maxHeartbeats 800000 in
theorem idxCX_any (B : Nat) (m : List Int) (okl : Int → Bool) (v : Value) (p1 : Addr) (w : World) (hv : Sl B 3 w v (ints m))
    (hc : ∀ x ∈ m, Calls Try.prog 27 #[.int .i64 x, .pointer (some p1)] w fun e w' => e = .returned (.bool (!okl x)) ∧ w' = w) :
    Calls Try.prog 32 #[v, .func (.func 27) #[] #[.pointer (some p1)]] w fun e w' => ∃ z : Int, e = .returned (.int .i64 z) ∧ decide (0 ≤ z) = !(m.all okl) ∧ w' = w := by
  obtain ⟨ao, cap, hvv, hlc, hcm⟩ := sl_open hv
  subst hvv
  have HV : Hid (Sl B 3 w (.slice ao m.length cap) (ints m)) := hv
  have HC : Hid (∀ x ∈ m, Calls Try.prog 27 #[.int .i64 x, .pointer (some p1)] w fun e w' => e = .returned (.bool (!okl x)) ∧ w' = w) := hc
  have hml : m.length ≤ 9223372036854775807 := by have := hv.len; simpa [maxLen] using this
  clear hv hc
  go_enter Try.func32, Try.ntmps32
  go_wp2
  go_loopw [8] (fun i wr => ∃ k : Nat, k ≤ m.length ∧ i = .int .i64 k ∧ (m.take k).all okl = true ∧ wr = w) (fun i _ => m.length - (intOf i).toNat)
  case atStart => exact ⟨0, Nat.zero_le _, rfl, by simp, rfl⟩
  case round =>
    obtain ⟨k, hk, rfl, hal, hwr⟩ := hrel
    subst hwr
    have HAL : Hid ((m.take k).all okl = true) := hal
    clear hal
    by_cases hlt : k < m.length
    · obtain ⟨b1, o, cp, hs, _, hcc⟩ := sl_cell HV.out hlt
      simp only [Value.slice.injEq, true_and] at hs
      obtain ⟨rfl, rfl⟩ := hs
      have HCA := HC.out (m.getD k 0) (by simp [hlt])
      have HF : Hid (∀ b, okl (m.getD k 0) = b → (b = false → m.all okl = false) ∧ (b = true → (m.take (k + 1)).all okl = true)) := fun b hb => by
        refine ⟨fun e => ?_, fun e => ?_⟩
        · subst e; exact all_not hlt hb
        · subst e; rw [all_take hlt, HAL.out, hb]; rfl
      generalize okl (m.getD k 0) = b at *
      generalize m.getD k 0 = x at *
      go_wp2_with fail
      refine HCA.mono ?_
      rintro e w2 ⟨rfl, rfl⟩
      cases b with
      | false =>
        have HX : Hid (decide (0 ≤ (k : Int)) = !(m.all okl)) := by
          show _ = _
          rw [(HF.out false rfl).1 rfl, decide_eq_true (by omega)]; rfl
        clear HF HAL HCA
        go_wp2
        go_ret
        exact ⟨_, rfl, HX.out, rfl⟩
      | true =>
        have HN : Hid ((m.take (k + 1)).all okl = true) := (HF.out true rfl).2 rfl
        clear HF HAL HCA
        go_wp2
        go_roundw
        case rel => exact ⟨k + 1, by omega, by go_num, HN.out, by trivial⟩
        case measure => simp [intOf]; omega
    · have HX : Hid (decide (0 ≤ (-1 : Int)) = !(m.all okl)) := by
        show _ = _
        have h1 := HAL.out
        rw [List.take_of_length_le (by omega)] at h1
        rw [h1]; rfl
      clear HAL
      go_wp2
      go_ret
      exact ⟨_, rfl, HX.out, rfl⟩

set_option maxRecDepth 100000 in
theorem hasCX_any (B : Nat) (m : List Int) (okl : Int → Bool) (v : Value) (p1 : Addr) (w : World) (hv : Sl B 3 w v (ints m))
    (hc : ∀ x ∈ m, Calls Try.prog 27 #[.int .i64 x, .pointer (some p1)] w fun e w' => e = .returned (.bool (!okl x)) ∧ w' = w) :
    Calls Try.prog 26 #[v, .func (.func 27) #[] #[.pointer (some p1)]] w fun e w' => e = .returned (.bool (!(m.all okl))) ∧ w' = w := by
  have HI := idxCX_any B m okl v p1 w hv hc
  obtain ⟨ao, cap, hvv, hlc, hcm⟩ := sl_open hv
  subst hvv
  generalize (!(m.all okl)) = X at *
  clear hv hc
  go_enter Try.func26, Try.ntmps26
  go_wp2_with fail
  refine HI.mono ?_
  rintro e w' ⟨z, rfl, hz, rfl⟩
  subst hz
  clear HI
  go_wp2
  go_ret
  exact ⟨rfl, rfl⟩

set_option maxRecDepth 100000 in
set_option maxHeartbeats 800000 in
theorem checkWX_any (c : List (List Int)) (l : List Int) (cv lv : Value) (w : World) (hm : Mat w.heap.size 23 3 w cv c) (hlv : Sl w.heap.size 3 w lv (ints l)) :
    Calls Try.prog 13 #[cv, lv] w fun e w' => e = .returned (.int .i64 (wmE c l)) ∧ Below w.heap.size w w' := by
  obtain ⟨ao, cap, hvv, _, hcm⟩ := mat_open hm
  subst hvv
  obtain ⟨lo, lc, hlvv, _, hlcm⟩ := sl_open hlv
  subst hlvv
  obtain ⟨W, hW⟩ : ∃ W, W = w.alloc (.cells #[.slice ao c.length cap] 22) := ⟨_, rfl⟩
  have hbW : Below w.heap.size w W := by rw [hW]; exact (Below.refl _ _).alloc (Nat.le_refl _) _
  have HBW : Hid (Below w.heap.size w W) := hbW
  have hcW : W.cell? ⟨w.heap.size, 0, none⟩ = some (.slice ao c.length cap) := by rw [hW]; simp [go_sem]
  have HC : Hid (Calls Try.prog 25 #[.slice ao c.length cap] W fun e w' => e = .returned (.int .i64 (ckE c)) ∧ Below W.heap.size W w') := rootCheckE_any c _ W ((hm.below hbW (Nat.le_refl _)).any (Nat.le_refl _))
  have HH : Hid (∀ W', Below W.heap.size W W' → Calls Try.prog 26 #[.slice lo l.length lc, .func (.func 27) #[] #[.pointer (some ⟨w.heap.size, 0, none⟩)]] W' fun e w' => e = .returned (.bool (!(l.all (ltO c.length)))) ∧ w' = W') := fun W' h =>
    hasCX_any w.heap.size l (ltO c.length) _ _ W' ((hlv.below hbW (Nat.le_refl _)).below h (Nat.le_refl _)) (fun x _ => chk1X_any x c.length cap ao w.heap.size W' ((h.cell (lt_of_cell hcW)).trans hcW))
  have HE : Hid (wmE c l = if ckE c = 0 then (if 40 < l.length then 11 else if l.all (ltO c.length) then 0 else 9) else ckE c) := rfl
  generalize wmE c l = E at *
  generalize l.all (ltO c.length) = AL at *
  generalize c.length = n at *
  generalize ckE c = K at *
  rw [hW] at HC
  clear hm hlv hbW hcW
  go_enter Try.func13, Try.ntmps13
  go_wp2_with fail
  refine HC.out.mono ?_
  rintro e w1 ⟨rfl, hb⟩
  rw [← hW] at hb
  have HB1 : Hid (Below w.heap.size w w1) := HBW.out.trans (hb.mono HBW.out.size)
  have HH1 := HH.out w1 hb
  clear HC hb HH
  by_cases hK : K = 0
  · subst hK
    have he := HE.out
    rw [if_pos rfl] at he
    by_cases h40 : 40 < l.length
    · rw [if_pos h40] at he
      subst he
      have lI : (40 : Int) < (l.length : Int) := by omega
      clear HE HH1
      go_wp2
      go_ret
      exact ⟨rfl, HB1.out⟩
    · rw [if_neg h40] at he
      have lI : ¬ (40 : Int) < (l.length : Int) := by omega
      clear HE
      obtain ⟨X, hX⟩ : ∃ X, X = !AL := ⟨_, rfl⟩
      rw [← hX] at HH1
      have he2 : (X = true → E = 9) ∧ (X = false → E = 0) := by
        subst hX
        cases AL <;> simp at he <;> simp [he]
      clear he hX h40
      go_wp2_with fail
      refine HH1.mono ?_
      rintro e w2 ⟨rfl, rfl⟩
      clear HH1
      cases X with
      | true =>
        have he := he2.1 rfl
        clear he2
        subst he
        go_wp2
        go_ret
        exact ⟨rfl, HB1.out⟩
      | false =>
        have he := he2.2 rfl
        clear he2
        subst he
        go_wp2
        go_ret
        exact ⟨rfl, HB1.out⟩
  · have he := HE.out
    rw [if_neg hK] at he
    subst he
    have hKb : (E == 0) = false := by simpa using hK
    have hKb2 : (E != 0) = true := by rw [bne, hKb]; rfl
    clear HE HH1
    go_wp2
    go_ret
    exact ⟨rfl, HB1.out⟩

/-- What is wrong with one or the other word. -/
def bthE (c : List (List Int)) (a b : List Int) : Int := if wmE c a = 0 then wmE c b else wmE c a

set_option maxRecDepth 100000 in
theorem checkBothX_any (c : List (List Int)) (l k : List Int) (cv lv kv : Value) (w : World) (hm : Mat w.heap.size 23 3 w cv c) (hlv : Sl w.heap.size 3 w lv (ints l)) (hkv : Sl w.heap.size 3 w kv (ints k)) :
    Calls Try.prog 28 #[cv, lv, kv] w fun e w' => e = .returned (.int .i64 (bthE c l k)) ∧ Below w.heap.size w w' := by
  obtain ⟨ao, cap, hvv, _, hcm⟩ := mat_open hm
  subst hvv
  obtain ⟨lo, lc, hlvv, _, hlcm⟩ := sl_open hlv
  subst hlvv
  obtain ⟨ko, kc, hkvv, _, hkcm⟩ := sl_open hkv
  subst hkvv
  have H1 : Hid (Calls Try.prog 13 #[.slice ao c.length cap, .slice lo l.length lc] w fun e w' => e = .returned (.int .i64 (wmE c l)) ∧ Below w.heap.size w w') := checkWX_any c l _ _ w hm hlv
  have H2 : Hid (∀ W, Below w.heap.size w W → Calls Try.prog 13 #[.slice ao c.length cap, .slice ko k.length kc] W fun e w' => e = .returned (.int .i64 (wmE c k)) ∧ Below W.heap.size W w') := fun W h =>
    checkWX_any c k _ _ W ((hm.below h (Nat.le_refl _)).any (Nat.le_refl _)) ((hkv.below h (Nat.le_refl _)).any (Nat.le_refl _))
  have HE : Hid (bthE c l k = if wmE c l = 0 then wmE c k else wmE c l) := rfl
  generalize bthE c l k = E at *
  generalize wmE c l = K at *
  generalize wmE c k = K2 at *
  clear hm hlv hkv
  go_enter Try.func28, Try.ntmps28
  go_wp2_with fail
  refine H1.out.mono ?_
  rintro e w1 ⟨rfl, hb1⟩
  have HB1 : Hid (Below w.heap.size w w1) := hb1
  have H21 := H2.out w1 hb1
  clear hb1 H1 H2
  by_cases hK : K = 0
  · subst hK
    have he := HE.out
    rw [if_pos rfl] at he
    subst he
    clear HE
    go_wp2_with fail
    refine H21.mono ?_
    rintro e w2 ⟨rfl, hb2⟩
    have HB2 : Hid (Below w.heap.size w w2) := HB1.out.trans (hb2.mono HB1.out.size)
    clear hb2 H21
    go_wp2
    go_ret
    exact ⟨rfl, HB2.out⟩
  · have he := HE.out
    rw [if_neg hK] at he
    subst he
    have hKb : (E == 0) = false := by simpa using hK
    have hKb2 : (E != 0) = true := by rw [bne, hKb]; rfl
    clear HE H21
    go_wp2
    go_ret
    exact ⟨rfl, HB1.out⟩

end Go.Proofs.Ytkpdgpdicafeiaa

/- weyl.Reduce, Ends, Below, Same of a square or word that may not be. Made by mkrv3.py. -/
namespace Go.Proofs.Ytkpdgpdicafeiaa
open Go.RowKit
attribute [local go_sem ↓] Go.wp_at_zero Go.wp_at_succ

set_option maxRecDepth 100000 in
theorem reduceX_any (c : List (List Int)) (l : List Int) (cv lv : Value) (w : World) (hne : ¬ wmE c l = 0) (hm : Mat w.heap.size 23 3 w cv c) (hlv : Sl w.heap.size 3 w lv (ints l)) :
    Calls Try.prog 11 #[cv, lv] w fun e w' => e = .returned (.tuple #[.slice none 0 0, .int .i64 (wmE c l)]) ∧ Below w.heap.size w w' := by
  have HC : Hid (Calls Try.prog 13 #[cv, lv] w fun e w' => e = .returned (.int .i64 (wmE c l)) ∧ Below w.heap.size w w') := checkWX_any c l cv lv w hm hlv
  obtain ⟨ao, cap, hvv, _, _⟩ := mat_open hm
  subst hvv
  obtain ⟨lo, lc, hlvv, _, _⟩ := sl_open hlv
  subst hlvv
  generalize wmE c l = E at *
  have hE : (E == 0) = false := by simpa using hne
  have hE2 : (E != 0) = true := by rw [bne, hE]; rfl
  clear hm hlv
  go_enter Try.func11, Try.ntmps11
  go_wp2_with fail
  refine HC.out.mono ?_
  rintro e w1 ⟨rfl, hb1⟩
  have HB1 : Hid (Below w.heap.size w w1) := hb1
  clear hb1 HC
  go_wp2
  go_ret2
  exact ⟨rfl, HB1.out⟩

set_option maxRecDepth 100000 in
theorem endsX_any (c : List (List Int)) (l : List Int) (cv lv : Value) (w : World) (hne : ¬ wmE c l = 0) (hm : Mat w.heap.size 23 3 w cv c) (hlv : Sl w.heap.size 3 w lv (ints l)) :
    Calls Try.prog 12 #[cv, lv] w fun e w' => e = .returned (.tuple #[.slice none 0 0, .int .i64 (wmE c l)]) ∧ Below w.heap.size w w' := by
  have HC : Hid (Calls Try.prog 13 #[cv, lv] w fun e w' => e = .returned (.int .i64 (wmE c l)) ∧ Below w.heap.size w w') := checkWX_any c l cv lv w hm hlv
  obtain ⟨ao, cap, hvv, _, _⟩ := mat_open hm
  subst hvv
  obtain ⟨lo, lc, hlvv, _, _⟩ := sl_open hlv
  subst hlvv
  generalize wmE c l = E at *
  have hE : (E == 0) = false := by simpa using hne
  have hE2 : (E != 0) = true := by rw [bne, hE]; rfl
  clear hm hlv
  go_enter Try.func12, Try.ntmps12
  go_wp2_with fail
  refine HC.out.mono ?_
  rintro e w1 ⟨rfl, hb1⟩
  have HB1 : Hid (Below w.heap.size w w1) := hb1
  clear hb1 HC
  go_wp2
  go_ret2
  exact ⟨rfl, HB1.out⟩

set_option maxRecDepth 100000 in
theorem belowX_any (c : List (List Int)) (l k : List Int) (cv lv kv : Value) (w : World) (hne : ¬ bthE c l k = 0) (hm : Mat w.heap.size 23 3 w cv c) (hlv : Sl w.heap.size 3 w lv (ints l)) (hkv : Sl w.heap.size 3 w kv (ints k)) :
    Calls Try.prog 15 #[cv, lv, kv] w fun e w' => e = .returned (.tuple #[.bool false, .int .i64 (bthE c l k)]) ∧ Below w.heap.size w w' := by
  have HC : Hid (Calls Try.prog 28 #[cv, lv, kv] w fun e w' => e = .returned (.int .i64 (bthE c l k)) ∧ Below w.heap.size w w') := checkBothX_any c l k cv lv kv w hm hlv hkv
  obtain ⟨ao, cap, hvv, _, _⟩ := mat_open hm
  subst hvv
  obtain ⟨lo, lc, hlvv, _, _⟩ := sl_open hlv
  subst hlvv
  obtain ⟨ko, kc, hkvv, _, _⟩ := sl_open hkv
  subst hkvv
  generalize bthE c l k = E at *
  have hE : (E == 0) = false := by simpa using hne
  have hE2 : (E != 0) = true := by rw [bne, hE]; rfl
  clear hm hlv hkv
  go_enter Try.func15, Try.ntmps15
  go_wp2_with fail
  refine HC.out.mono ?_
  rintro e w1 ⟨rfl, hb1⟩
  have HB1 : Hid (Below w.heap.size w w1) := hb1
  clear hb1 HC
  go_wp2
  go_ret2
  exact ⟨rfl, HB1.out⟩

set_option maxRecDepth 100000 in
theorem sameX_any (c : List (List Int)) (l k : List Int) (cv lv kv : Value) (w : World) (hne : ¬ bthE c l k = 0) (hm : Mat w.heap.size 23 3 w cv c) (hlv : Sl w.heap.size 3 w lv (ints l)) (hkv : Sl w.heap.size 3 w kv (ints k)) :
    Calls Try.prog 16 #[cv, lv, kv] w fun e w' => e = .returned (.tuple #[.bool false, .int .i64 (bthE c l k)]) ∧ Below w.heap.size w w' := by
  have HC : Hid (Calls Try.prog 28 #[cv, lv, kv] w fun e w' => e = .returned (.int .i64 (bthE c l k)) ∧ Below w.heap.size w w') := checkBothX_any c l k cv lv kv w hm hlv hkv
  obtain ⟨ao, cap, hvv, _, _⟩ := mat_open hm
  subst hvv
  obtain ⟨lo, lc, hlvv, _, _⟩ := sl_open hlv
  subst hlvv
  obtain ⟨ko, kc, hkvv, _, _⟩ := sl_open hkv
  subst hkvv
  generalize bthE c l k = E at *
  have hE : (E == 0) = false := by simpa using hne
  have hE2 : (E != 0) = true := by rw [bne, hE]; rfl
  clear hm hlv hkv
  go_enter Try.func16, Try.ntmps16
  go_wp2_with fail
  refine HC.out.mono ?_
  rintro e w1 ⟨rfl, hb1⟩
  have HB1 : Hid (Below w.heap.size w w1) := hb1
  clear hb1 HC
  go_wp2
  go_ret2
  exact ⟨rfl, HB1.out⟩

set_option maxRecDepth 100000 in
theorem listV_no (E : Int) (hE : ¬ E = 0) (w : World) :
    Calls Try.prog 14 #[.slice none 0 0, .int .i64 E, .slice none 0 0, .int .i64 E] w fun x w' => x = .returned (.bool true) ∧ w' = w := by
  go_enter Try.func14, Try.ntmps14
  go_wp2
  go_ret
  exact ⟨rfl, rfl⟩

end Go.Proofs.Ytkpdgpdicafeiaa
