/- The document's key. -/
import Derived.Test.YtnooabbcfhmjaaaCr13
import Derived.Laws.IdiomStrings
namespace Go.Proofs.Ytnooabbcfhmjaaa
open Go.RowKit
attribute [local go_sem ↓] Go.wp_at_zero Go.wp_at_succ

def kyB (x : List Nat) : List UInt8 := x.map fun z => UInt8.ofNat (z + 128)

def kyV (x : List Nat) : Value := .string ⟨(kyB x).toArray⟩

def kyL (x : List Nat) : Lit := .string (kyB x)

theorem kyB_snoc {x : List Nat} {k : Nat} (h : k < x.length) : kyB (x.take (k + 1)) = kyB (x.take k) ++ [UInt8.ofNat (x.getD k 0 + 128)] := by
  unfold kyB
  rw [List.take_succ_eq_append_getElem h, List.map_append]
  simp [h]

theorem ky_one (z : Nat) (hz : z ≤ 3) (wr : World) : (convert 66 9 (.slice (some ⟨wr.heap.size, 0, none⟩) 1 1)).run Try.prog (wr.alloc (.cells #[.int .u8 ((z : Int) + 128)] 5)) = .ok (.string ⟨#[UInt8.ofNat (z + 128)]⟩) (wr.alloc (.cells #[.int .u8 ((z : Int) + 128)] 5)) := by
  refine run_convert_bytes_back (P := Try.prog) _ 66 9 5 ⟨wr.heap.size, 0, none⟩ 1 [UInt8.ofNat (z + 128)] (by kernel_rfl) (by kernel_rfl) (by kernel_rfl) ?_
  intro j hj
  have h0 : j = 0 := by simpa using hj
  subst h0
  have e : ((UInt8.ofNat (z + 128)).toNat : Int) = (z : Int) + 128 := by
    have : z = 0 ∨ z = 1 ∨ z = 2 ∨ z = 3 := by omega
    rcases this with rfl | rfl | rfl | rfl <;> rfl
  have h1 := one_new wr (.int .u8 ((z : Int) + 128)) 5 0 (.int .u8 ((z : Int) + 128)) rfl
  rw [h1]
  simp only [List.getElem_cons_zero]
  rw [e]

theorem ba_app (S : List UInt8) (c : UInt8) : (⟨S.toArray⟩ : ByteArray) ++ (⟨#[c]⟩ : ByteArray) = ⟨(S ++ [c]).toArray⟩ := by
  apply ByteArray.ext
  simp

theorem ky_key (x : List Nat) (hl : x.length ≤ 8) : keyOf Try.prog 9 (kyV x) = some (kyL x) := by
  have hu : Try.prog.underlying 9 = some .string := by kernel_rfl
  unfold keyOf mapKey kyV kyL
  simp only [hu]
  rw [if_pos]
  show (kyB x).toArray.size ≤ maxLen
  unfold kyB maxLen
  simp
  omega

theorem ky_inj {x y : List Nat} (hx : ∀ z ∈ x, z ≤ 3) (hy : ∀ z ∈ y, z ≤ 3) (h : kyL x = kyL y) : x = y := by
  unfold kyL kyB at h
  simp only [Lit.string.injEq] at h
  revert y
  induction x with
  | nil =>
    intro y _ h
    cases y with
    | nil => rfl
    | cons b y => simp at h
  | cons a x ih =>
    intro y hy h
    cases y with
    | nil => simp at h
    | cons b y =>
      simp only [List.map_cons, List.cons.injEq] at h
      have e := congrArg UInt8.toNat h.1
      have ha := hx a (by simp)
      have hb := hy b (by simp)
      rw [UInt8.toNat_ofNat', UInt8.toNat_ofNat'] at e
      have : a = b := by omega
      subst this
      rw [ih (fun z hz => hx z (by simp [hz])) (fun z hz => hy z (by simp [hz])) h.2]

set_option maxRecDepth 100000 in
set_option maxHeartbeats 800000 in
theorem key_any (B : Nat) (x : List Nat) (v : Value) (w : World) (hv : Sl B 3 w v (ints (natsI x))) (hl : x.length ≤ 8) (h3 : ∀ z ∈ x, z ≤ 3) :
    Calls Try.prog 27 #[v] w fun e w' => e = .returned (kyV x) ∧ Below w.heap.size w w' := by
  obtain ⟨ao, cap, hvv, hlc, hcm⟩ := sl_open hv
  subst hvv
  have HV : Hid (Sl B 3 w (.slice ao (natsI x).length cap) (ints (natsI x))) := hv
  clear hv
  rw [natsI_len] at HV ⊢
  go_enter Try.func27, Try.ntmps27
  go_wp2
  go_loopw [3, 4] (fun sv iv wr => ∃ k : Nat, k ≤ x.length ∧ iv = .int .i64 (k : Int) ∧ sv = .string ⟨(kyB (x.take k)).toArray⟩ ∧ Below w.heap.size w wr) (fun _ iv _ => x.length - (intOf iv).toNat)
  case atStart => exact ⟨0, Nat.zero_le _, rfl, rfl, Below.refl _ _⟩
  case round =>
    obtain ⟨k, hk, rfl, rfl, hb⟩ := hrel
    by_cases hlt : k < x.length
    · obtain ⟨b1, o, cp, hs, _, hcc⟩ := sl_cell (HV.out.below hb (Nat.le_refl _)) (k := k) (by rw [natsI_len]; exact hlt)
      rw [natsI_len] at hs
      simp only [Value.slice.injEq, true_and] at hs
      obtain ⟨rfl, rfl⟩ := hs
      rw [natsI_at hlt] at hcc
      have hz := h3 (x.getD k 0) (by simp [hlt])
      have HS : Hid (kyB (x.take (k + 1)) = kyB (x.take k) ++ [UInt8.ofNat (x.getD k 0 + 128)]) := kyB_snoc hlt
      have hsl : (kyB (x.take k)).length ≤ 8 := by unfold kyB; simp; omega
      generalize x.getD k 0 = z at *
      generalize kyB (x.take k) = S at *
      have hltI : (k : Int) < (x.length : Int) := by omega
      have hcv := ky_one z hz wr
      generalize UInt8.ofNat (z + 128) = c at *
      have HB : Hid (∀ o, Below w.heap.size w (wr.alloc o)) := fun o => hb.alloc hb.size o
      clear hb
      go_wp2
      exact ⟨⟨k + 1, by omega, by go_num, by rw [HS.out, ba_app], HB.out _⟩, by simp [intOf]; omega⟩
    · have hke : x.take k = x := List.take_of_length_le (by omega)
      have HB : Hid (Below w.heap.size w wr) := hb
      clear hb
      rw [hke]
      go_wp2
      go_ret
      exact ⟨rfl, HB.out⟩

end Go.Proofs.Ytnooabbcfhmjaaa
