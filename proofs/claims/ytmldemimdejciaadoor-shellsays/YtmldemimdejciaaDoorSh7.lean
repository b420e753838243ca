/- The sides of a simplex that are met: the program. -/
import Derived.Test.YtmldemimdejciaaDoorSh6
namespace Go.Proofs.YtmldemimdejciaaDoor
open Go.RowKit
attribute [local go_sem ↓] Go.wp_at_zero Go.wp_at_succ

/-- Sets, as values. -/
def nats (ns : List Nat) : List Value := ns.map fun (n : Nat) => Value.int .u64 (n : Int)

@[simp] theorem nats_length (ns : List Nat) : (nats ns).length = ns.length := by simp [nats]

theorem nats_get (ns : List Nat) (i : Nat) (h : i < ns.length) : (nats ns)[i]? = some (.int .u64 (ns.getD i 0 : Nat)) := by
  simp [nats, h]

theorem sl_cellS {B : Nat} {w : World} {v : Value} {ns : List Nat} (h : Sl B 43 w v (nats ns)) {k : Nat} (hk : k < ns.length) :
    ∃ b o cap, v = .slice (some ⟨b, o, none⟩) ns.length cap ∧ ns.length ≤ cap ∧ w.cell? ⟨b, o + k, none⟩ = some (.int .u64 (ns.getD k 0 : Nat)) := by
  obtain ⟨b, o, cap, hv, h1, _, h3⟩ := h.at (by simp; omega)
  simp only [nats_length] at hv h1 h3
  exact ⟨b, o, cap, hv, h1, by rw [h3 k hk, nats_get ns k hk]⟩

theorem sl_openS {B : Nat} {e : TypeId} {w : World} {v : Value} {x : List Nat} (h : Sl B e w v (nats x)) : ∃ ao cap, v = .slice ao x.length cap ∧ x.length ≤ cap ∧ cap ≤ 9223372036854775807 := by
  obtain ⟨ao, cap, rfl, h2, h3, _⟩ := h
  refine ⟨ao, cap, by simp, by simpa using h2, ?_⟩
  unfold maxLen at h3; omega

/-- All below 2^64. -/
def L64 (ns : List Nat) : Prop := ∀ n ∈ ns, n < 18446744073709551616

set_option maxRecDepth 100000 in
set_option maxHeartbeats 800000 in
theorem idxB_any (B : Nat) (ns : List Nat) (s : Nat) (u : Value) (w : World) (hu : Sl B 43 w u (nats ns)) (hn : L64 ns) (hs : s < 18446744073709551616) :
    Calls Tryd.prog 45 #[u, .func (.func 33) #[.int .u64 (s : Int)] #[]] w fun e w' => (∃ z, e = .returned (.int .i64 z) ∧ -1 ≤ z ∧ z < ns.length ∧ decide (0 ≤ z) = ns.any fun a => outN s a == 0) ∧ w' = w := by
  obtain ⟨ao, cap, hvv, hlc, hcm⟩ := sl_openS hu
  subst hvv
  have HU : Hid (Sl B 43 w (.slice ao ns.length cap) (nats ns)) := hu
  have HL : Hid (L64 ns) := hn
  clear hu hn
  go_enter Tryd.func45, Tryd.ntmps45
  go_wp2
  go_loopw [8] (fun i wr => ∃ k : Nat, k ≤ ns.length ∧ i = .int .i64 k ∧ (ns.take k).any (fun a => outN s a == 0) = false ∧ wr = w) (fun i _ => ns.length - (intOf i).toNat)
  case atStart => exact ⟨0, Nat.zero_le _, rfl, by simp, rfl⟩
  case round =>
    obtain ⟨k, hk, rfl, hno, rfl⟩ := hrel
    have HN : Hid ((ns.take k).any (fun a => outN s a == 0) = false) := hno
    clear hno
    by_cases hlt : k < ns.length
    · obtain ⟨b1, o, cp, hss, hc1, hcc⟩ := sl_cellS HU.out hlt
      simp only [Value.slice.injEq] at hss
      obtain ⟨rfl, _, rfl⟩ := hss
      have HS1 : Hid ((ns.take (k + 1)).any (fun a => outN s a == 0) = (outN s (ns.getD k 0) == 0)) := any_take_snoc (p := fun a => outN s a == 0) hlt HN.out
      have HG : Hid ((outN s (ns.getD k 0) == 0) = true → ns.any (fun a => outN s a == 0) = true) := fun h => any_get (p := fun a => outN s a == 0) hlt h
      have HX : Hid (ns.getD k 0 < 18446744073709551616) := HL.out _ (by simp [hlt])
      generalize ns.getD k 0 = x at *
      go_wp2_with fail
      refine (in_any s x wr hs HX.out).mono ?_
      rintro e w' ⟨rfl, hw'⟩
      subst hw'
      cases hf : (outN s x == 0)
      · have HF : Hid ((outN s x == 0) = false) := hf
        clear hf
        go_wp2
        go_roundw
        case rel => exact ⟨k + 1, by omega, by go_num, by rw [HS1.out]; exact HF.out, trivial⟩
        case measure => simp [intOf]; omega
      · have HF : Hid ((outN s x == 0) = true) := hf
        clear hf
        go_wp2
        go_ret
        refine ⟨⟨_, rfl, by omega, by omega, ?_⟩, rfl⟩
        rw [decide_eq_true (by omega)]
        exact (HG.out HF.out).symm
    · have HTK : Hid (ns.take k = ns) := List.take_of_length_le (by omega)
      go_wp2
      go_ret
      exact ⟨⟨-1, rfl, by omega, by omega, by rw [← HTK.out, HN.out]; rfl⟩, rfl⟩

set_option maxRecDepth 100000 in
theorem hasB_any (B : Nat) (ns : List Nat) (s : Nat) (u : Value) (w : World) (hu : Sl B 43 w u (nats ns)) (hn : L64 ns) (hs : s < 18446744073709551616) :
    Calls Tryd.prog 32 #[u, .func (.func 33) #[.int .u64 (s : Int)] #[]] w fun e w' => e = .returned (.bool (ns.any fun a => outN s a == 0)) ∧ w' = w := by
  have HI : Hid (Calls Tryd.prog 45 #[u, .func (.func 33) #[.int .u64 (s : Int)] #[]] w fun e w' => (∃ z, e = .returned (.int .i64 z) ∧ -1 ≤ z ∧ z < ns.length ∧ decide (0 ≤ z) = ns.any fun a => outN s a == 0) ∧ w' = w) := idxB_any B ns s u w hu hn hs
  obtain ⟨ao, cap, hvv, hlc, hcm⟩ := sl_openS hu
  subst hvv
  clear hu hn
  generalize (ns.any fun a => outN s a == 0) = R at *
  go_enter Tryd.func32, Tryd.ntmps32
  go_wp2_with fail
  refine HI.out.mono ?_
  rintro e w' ⟨⟨z, rfl, hz1, hz2, hz3⟩, rfl⟩
  have HZ : Hid (decide (0 ≤ z) = R) := hz3
  clear hz3
  go_wp2
  go_ret
  exact ⟨ret_bool HZ.out, rfl⟩

set_option maxRecDepth 100000 in
theorem meet1_any (B : Nat) (ns : List Nat) (x o : Nat) (u : Value) (p q : Addr) (w : World) (hu : Sl B 43 w u (nats ns)) (hn : L64 ns) (hx : x < 18446744073709551616) (ho : o < 18446744073709551616)
    (hp : w.cell? p = some u) (hq : w.cell? q = some (.int .u64 (x : Int))) :
    Calls Tryd.prog 34 #[.int .u64 (o : Int), .pointer (some p), .pointer (some q)] w fun e w' => e = .returned (.bool (!(ns.any fun a => outN (x &&& o) a == 0))) ∧ w' = w := by
  have hand := bits_and_u64_nat x o hx ho
  have hlt : x &&& o < 18446744073709551616 := Nat.lt_of_le_of_lt Nat.and_le_left hx
  have HH : Hid (Calls Tryd.prog 32 #[u, .func (.func 33) #[.int .u64 ((x &&& o : Nat) : Int)] #[]] w fun e w' => e = .returned (.bool (ns.any fun a => outN (x &&& o) a == 0)) ∧ w' = w) := hasB_any B ns (x &&& o) u w hu hn hlt
  generalize (ns.any fun a => outN (x &&& o) a == 0) = R at *
  generalize x &&& o = xo at *
  clear hu hn hlt
  go_enter Tryd.func34, Tryd.ntmps34
  go_wp2_with (first | fail | simp only [hand])
  refine HH.out.mono ?_
  rintro e w' ⟨rfl, rfl⟩
  go_wp2
  go_ret
  exact ⟨rfl, rfl⟩

set_option maxRecDepth 100000 in
set_option maxHeartbeats 800000 in
theorem idxC_any (B : Nat) (ms ns : List Nat) (x : Nat) (u v : Value) (p q : Addr) (w : World) (hv : Sl B 43 w v (nats ms)) (hm : L64 ms) (hu : Sl B 43 w u (nats ns)) (hn : L64 ns) (hx : x < 18446744073709551616)
    (hp : w.cell? p = some u) (hq : w.cell? q = some (.int .u64 (x : Int))) :
    Calls Tryd.prog 45 #[v, .func (.func 34) #[] #[.pointer (some p), .pointer (some q)]] w fun e w' => (∃ z, e = .returned (.int .i64 z) ∧ -1 ≤ z ∧ z < ms.length ∧ decide (0 ≤ z) = ms.any fun o => !(ns.any fun a => outN (x &&& o) a == 0)) ∧ w' = w := by
  obtain ⟨ao, cap, hvv, hlc, hcm⟩ := sl_openS hv
  subst hvv
  have HV : Hid (Sl B 43 w (.slice ao ms.length cap) (nats ms)) := hv
  have HL : Hid (L64 ms) := hm
  have HC : Hid (∀ o : Nat, o < 18446744073709551616 → Calls Tryd.prog 34 #[.int .u64 (o : Int), .pointer (some p), .pointer (some q)] w fun e w' => e = .returned (.bool ((fun o => !(ns.any fun a => outN (x &&& o) a == 0)) o)) ∧ w' = w) := fun o ho => meet1_any B ns x o u p q w hu hn hx ho hp hq
  clear hu hn hv hm hp hq
  generalize (fun o => !(ns.any fun a => outN (x &&& o) a == 0)) = P at *
  go_enter Tryd.func45, Tryd.ntmps45
  go_wp2
  go_loopw [8] (fun i wr => ∃ k : Nat, k ≤ ms.length ∧ i = .int .i64 k ∧ (ms.take k).any P = false ∧ wr = w) (fun i _ => ms.length - (intOf i).toNat)
  case atStart => exact ⟨0, Nat.zero_le _, rfl, by simp, rfl⟩
  case round =>
    obtain ⟨k, hk, rfl, hno, rfl⟩ := hrel
    have HN : Hid ((ms.take k).any P = false) := hno
    clear hno
    by_cases hlt : k < ms.length
    · obtain ⟨b1, o, cp, hss, hc1, hcc⟩ := sl_cellS HV.out hlt
      simp only [Value.slice.injEq] at hss
      obtain ⟨rfl, _, rfl⟩ := hss
      have HS1 : Hid ((ms.take (k + 1)).any P = P (ms.getD k 0)) := any_take_snoc (p := P) hlt HN.out
      have HG : Hid (P (ms.getD k 0) = true → ms.any P = true) := fun h => any_get (p := P) hlt h
      have HX : Hid (ms.getD k 0 < 18446744073709551616) := HL.out _ (by simp [hlt])
      generalize ms.getD k 0 = y at *
      go_wp2_with fail
      refine (HC.out y HX.out).mono ?_
      rintro e w' ⟨rfl, hw'⟩
      subst hw'
      cases hf : P y
      · have HF : Hid (P y = false) := hf
        clear hf
        go_wp2
        go_roundw
        case rel => exact ⟨k + 1, by omega, by go_num, by rw [HS1.out]; exact HF.out, trivial⟩
        case measure => simp [intOf]; omega
      · have HF : Hid (P y = true) := hf
        clear hf
        go_wp2
        go_ret
        refine ⟨⟨_, rfl, by omega, by omega, ?_⟩, rfl⟩
        rw [decide_eq_true (by omega)]
        exact (HG.out HF.out).symm
    · have HTK : Hid (ms.take k = ms) := List.take_of_length_le (by omega)
      go_wp2
      go_ret
      exact ⟨⟨-1, rfl, by omega, by omega, by rw [← HTK.out, HN.out]; rfl⟩, rfl⟩

set_option maxRecDepth 100000 in
theorem hasC_any (B : Nat) (ms ns : List Nat) (x : Nat) (u v : Value) (p q : Addr) (w : World) (hv : Sl B 43 w v (nats ms)) (hm : L64 ms) (hu : Sl B 43 w u (nats ns)) (hn : L64 ns) (hx : x < 18446744073709551616)
    (hp : w.cell? p = some u) (hq : w.cell? q = some (.int .u64 (x : Int))) :
    Calls Tryd.prog 32 #[v, .func (.func 34) #[] #[.pointer (some p), .pointer (some q)]] w fun e w' => e = .returned (.bool (ms.any fun o => !(ns.any fun a => outN (x &&& o) a == 0))) ∧ w' = w := by
  have HI : Hid (Calls Tryd.prog 45 #[v, .func (.func 34) #[] #[.pointer (some p), .pointer (some q)]] w fun e w' => (∃ z, e = .returned (.int .i64 z) ∧ -1 ≤ z ∧ z < ms.length ∧ decide (0 ≤ z) = ms.any fun o => !(ns.any fun a => outN (x &&& o) a == 0)) ∧ w' = w) := idxC_any B ms ns x u v p q w hv hm hu hn hx hp hq
  obtain ⟨ao, cap, hvv, hlc, hcm⟩ := sl_openS hv
  subst hvv
  clear hu hn hv hm hp hq
  generalize (ms.any fun o => !(ns.any fun a => outN (x &&& o) a == 0)) = R at *
  go_enter Tryd.func32, Tryd.ntmps32
  go_wp2_with fail
  refine HI.out.mono ?_
  rintro e w' ⟨⟨z, rfl, hz1, hz2, hz3⟩, rfl⟩
  have HZ : Hid (decide (0 ≤ z) = R) := hz3
  clear hz3
  go_wp2
  go_ret
  exact ⟨ret_bool HZ.out, rfl⟩

end Go.Proofs.YtmldemimdejciaaDoor
