import Derived.Test.YtcoeneldaohpnaaGreatRun9
import Derived.Test.YtcoeneldaohpnaaGreatRefs7
namespace Go.Proofs.YtcoeneldaohpnaaGreat
open Lin
theorem fm_row {m:List (List Int)} {i:Nat} (h:i < m.length):row (fm m) i=mOf m i:=by
 unfold row fm mOf
 rw [List.getD_eq_getElem?_getD,List.getElem?_map,List.getElem?_eq_getElem h]
 simp [h]
theorem fm_length (m:List (List Int)):(fm m).length=m.length:=by simp [fm]
theorem fm_srows (m:List (List Int)):srows (mOf m) m.length=fm m:=by
 apply List.ext_getElem (by simp [srows,fm])
 intro i h1 h2
 have hi:i < m.length:=by simpa [fm] using h2
 have:=fm_row hi
 unfold row at this
 rw [List.getD_eq_getElem?_getD,List.getElem?_eq_getElem h2] at this
 simp only [Option.getD_some] at this
 rw [this]; simp [srows]
theorem red_in {m:List (List Int)} {q:Nat} {M':Nat→Nat→Int} {C:Nat→Nat} {k:Nat} {sgn:Int} (h:Red (mOf m) m.length q M' C k sgn) {r:Nat→Int} (hr:r∈fm m):∃i,i < m.length∧r=M' i:=by
 obtain ⟨i,h1,h2⟩:=mem_row hr
 rw [fm_length] at h1
 rw [fm_row h1] at h2
 obtain ⟨i',h3,h4⟩:=h.sup i h1
 exact ⟨i',h3,by rw [←h2,h4]⟩
theorem red_out {m:List (List Int)} {q:Nat} {M':Nat→Nat→Int} {C:Nat→Nat} {k:Nat} {sgn:Int} (h:Red (mOf m) m.length q M' C k sgn) {i:Nat} (hi:i < m.length):M' i∈fm m:=by
 obtain ⟨i',h1,h2⟩:=h.sub i hi
 rw [h2,←fm_row h1]
 exact row_mem (by rw [fm_length]; exact h1)
theorem red_rank {m:List (List Int)} {c:Nat} {M':Nat→Nat→Int} {C:Nat→Nat} {k:Nat} {sgn:Int} (h:Red (mOf m) m.length c M' C k sgn):k=(pickL c m).length:=by
 have hg:=pick_greedy c m
 obtain ⟨K,hK,hf⟩:=hg.free
 rw [←fm_length (pickL c m)]
 refine rank_eq h.done hK.2 hf (fun a ha=>?_) (fun i hi=>hg.dep _ (red_out h hi))
 obtain ⟨i,h1,h2⟩:=red_in h (hg.mem _ (row_mem ha))
 exact ⟨i,h1,fun j _=>by rw [h2]⟩
theorem red_det {m:List (List Int)} {M':Nat→Nat→Int} {C:Nat→Nat} {k:Nat} {sgn:Int} (h:Red (mOf m) m.length m.length M' C k sgn):(if k < m.length then 0 else sgn*dk M' C k)=detL m:=by
 have hkn:=h.done.kn
 by_cases hk:k < m.length
 ·rw [if_pos hk]
  apply Classical.byContradiction
  intro hne
  have hod:od (fm m).length (cols (fm m) id) (fun _=>false)≠0:=by
   have e:cols (fm m) id=fm m:=by unfold cols; simp
   rw [e,fm_length]
   intro e; apply hne; unfold detL; rw [e]
  have:=rank_eq h.done (H:=fm m) (K:=id) (fun b hb=>by rw [fm_length] at hb; exact hb) hod (fun a ha=>by
   obtain ⟨i,h1,h2⟩:=red_in h (row_mem ha)
   exact ⟨i,h1,fun j _=>by rw [h2]⟩) (fun i hi=>by
   obtain ⟨a,h1,h2⟩:=mem_row (red_out h hi)
   rw [←h2]; exact Dep.self h1)
  rw [fm_length] at this; omega
 ·have hk':k=m.length:=by omega
  subst hk'
  rw [if_neg hk]
  have h1:=h.sign
  rw [dk_full h.done.rise,h1,fm_srows]
  unfold detL
  rcases h.one with e | e <;> rw [e] <;> simp
theorem red_entry {m:List (List Int)} {c B q:Nat} {M':Nat→Nat→Int} {C:Nat→Nat} {k:Nat} {sgn:Int} (hx:Mx c B m) (h:Red (mOf m) m.length q M' C k sgn):∀i,i < m.length→∀j,j < c→(M' i j).natAbs≤B:=by
 intro i hi j hj
 obtain ⟨i',h1,h2⟩:=h.sub i hi
 rw [h2]
 unfold mOf
 have hm:m.getD i' []∈m:=by rw [List.getD_eq_getElem?_getD,List.getElem?_eq_getElem h1]; exact List.getElem_mem h1
 have hl:=hx.row _ hm
 refine hx.bd _ hm _ ?_
 generalize m.getD i' []=r at hl ⊢
 have hjr:j < r.length:=by omega
 have e:r.getD j 0=r[j]:=by simp [hjr]
 rw [e]; exact List.getElem_mem hjr
theorem fb_one (B:Nat) (h:1≤B):∀k,1≤fb B k
 | 0=>Nat.le_refl _
 | k+1=>by
  unfold fb
  exact Nat.mul_pos (Nat.mul_pos (by omega) h) (fb_one B h k)
theorem rising_le {k c:Nat} {C:Nat→Nat} (h:Rising k c C):k≤c:=by
 have h1:∀i,i < k→i≤C i:=by
  intro i
  induction i with
  | zero=>intro _; omega
  | succ i ih=>
   intro hi
   have:=ih (by omega)
   have:=h.1 i (i+1) (by omega) hi
   omega
 by_cases hk:k=0
 ·omega
 ·have:=h1 (k-1) (by omega)
  have:=h.2 (k-1) (by omega)
  omega
theorem bd_of {m:List (List Int)} {c B:Nat} (hx:Mx c B m) (h34:fb B 3*(fb B 4+fb B 5)≤9223372036854775807)
  (had:∀M':Nat→Nat→Int,(∀i,i < 5→∀j,j < 5→(M' i j).natAbs≤B)→(dk M' id 4*dk M' id 5).natAbs≤9223372036854775807):Bd (mOf m) m.length c:=by
 intro q M' C k sgn hq h i hi j hj
 have hent:=red_entry hx h
 have hkq:=rising_le h.done.rise
 have hc5:=hx.c5
 have hkn:=h.done.kn
 have hCc:∀b,b < k+1→C b < c:=fun b hb=>Nat.lt_of_lt_of_le (h.done.rise.2 b hb) hq
 have hsm:=hx.small
 by_cases h4:k+1≤4
 ·have h1:=rr_bd (B:=B) (n:=m.length) (c:=c) (k:=k+1) (i:=i) (j:=j) (M:=M') (C:=C) hx.pos hent hkn hCc hi hj
  have h2:=dk_bd (B:=B) (k:=k) (M:=M') (C:=C) (fun i hi b hb=>hent i (by omega) _ (hCc b (by omega)))
  have m1:fb B (k+1)≤fb B 4:=fb_mono hx.pos h4
  have m2:fb B (k+1+1)≤fb B 5:=fb_mono hx.pos (by omega)
  have m3:fb B k≤fb B 3:=fb_mono hx.pos (by omega)
  have o3:=fb_one B hx.pos 3
  have hp:(dk M' C k*rr M' C (k+1) i j).natAbs≤fb B 3*(fb B 4+fb B 5):=by
   rw [Int.natAbs_mul]
   exact Nat.mul_le_mul (by omega) (by omega)
  have hq:(rr M' C (k+1) i j).natAbs≤fb B 3*(fb B 4+fb B 5):=
   Nat.le_trans (show (rr M' C (k+1) i j).natAbs≤1*(fb B 4+fb B 5) by omega) (Nat.mul_le_mul_right _ o3)
  omega
 ·have hk:k=4:=by omega
  subst hk
  have hc:c=5:=by omega
  subst hc
  have hq5:q=5:=by omega
  subst hq5
  have hid:∀b,b < 5→C b=b:=fun b hb=>rising_id h.done.rise hb
  have e4:dk M' C 4=dk M' id 4:=dk_congr (fun _ _=>rfl) fun b hb=>hid b (by omega)
  have e5:dk M' C 5=dk M' id 5:=dk_congr (fun _ _=>rfl) fun b hb=>hid b hb
  have b5:=dk_bd (B:=B) (k:=5) (M:=M') (C:=id) (fun i hi b hb=>hent i (by omega) _ hb)
  have hh:=had M' (fun i hi j hj=>hent i (by omega) j hj)
  have hr:rr M' C (4+1) i j=0∨rr M' C (4+1) i j=dk M' id 5:=by
   by_cases hi5:i < 5
   ·have:=rr_pivot h.done.nz h.done.rise.1 hi5 hj
    rw [hid j hj] at this
    by_cases e:i=j
    ·rw [if_pos e] at this; right; rw [this]; exact e5
    ·rw [if_neg e] at this; left; exact this
   ·left; exact h.done.zero i (by omega) hi j hj
  rw [e4]
  rcases hr with e | e <;> rw [e]
  ·simp
  ·exact ⟨hh,by omega⟩
theorem bd_of4 {m:List (List Int)} {c B:Nat} (hx:Mx c B m) (hc4:c≤4) (h34:fb B 2*(fb B 3+fb B 4)≤9223372036854775807) (had:fb B 3*fb B 4≤9223372036854775807):Bd (mOf m) m.length c:=by
 intro q M' C k sgn hq h i hi j hj
 have hent:=red_entry hx h
 have hkq:=rising_le h.done.rise
 have hkn:=h.done.kn
 have hCc:∀b,b < k+1→C b < c:=fun b hb=>Nat.lt_of_lt_of_le (h.done.rise.2 b hb) hq
 have hsm:=hx.small
 by_cases h4:k+1≤3
 ·have h1:=rr_bd (B:=B) (n:=m.length) (c:=c) (k:=k+1) (i:=i) (j:=j) (M:=M') (C:=C) hx.pos hent hkn hCc hi hj
  have h2:=dk_bd (B:=B) (k:=k) (M:=M') (C:=C) (fun i hi b hb=>hent i (by omega) _ (hCc b (by omega)))
  have m1:fb B (k+1)≤fb B 3:=fb_mono hx.pos h4
  have m2:fb B (k+1+1)≤fb B 4:=fb_mono hx.pos (by omega)
  have m3:fb B k≤fb B 2:=fb_mono hx.pos (by omega)
  have o3:=fb_one B hx.pos 2
  have hp:(dk M' C k*rr M' C (k+1) i j).natAbs≤fb B 2*(fb B 3+fb B 4):=by
   rw [Int.natAbs_mul]
   exact Nat.mul_le_mul (by omega) (by omega)
  have hq:(rr M' C (k+1) i j).natAbs≤fb B 2*(fb B 3+fb B 4):=
   Nat.le_trans (show (rr M' C (k+1) i j).natAbs≤1*(fb B 3+fb B 4) by omega) (Nat.mul_le_mul_right _ o3)
  omega
 ·have hk:k=3:=by omega
  subst hk
  have hc:c=4:=by omega
  subst hc
  have hq4:q=4:=by omega
  subst hq4
  have hid:∀b,b < 4→C b=b:=fun b hb=>rising_id h.done.rise hb
  have e4:dk M' C 3=dk M' id 3:=dk_congr (fun _ _=>rfl) fun b hb=>hid b (by omega)
  have e5:dk M' C 4=dk M' id 4:=dk_congr (fun _ _=>rfl) fun b hb=>hid b hb
  have b5:=dk_bd (B:=B) (k:=4) (M:=M') (C:=id) (fun i hi b hb=>hent i (by omega) _ hb)
  have b4:=dk_bd (B:=B) (k:=3) (M:=M') (C:=id) (fun i hi b hb=>hent i (by omega) _ (by show b < 4; omega))
  have hh:(dk M' id 3*dk M' id 4).natAbs≤9223372036854775807:=by
   rw [Int.natAbs_mul]
   exact Nat.le_trans (Nat.mul_le_mul b4 b5) had
  have hr:rr M' C (3+1) i j=0∨rr M' C (3+1) i j=dk M' id 4:=by
   by_cases hi5:i < 4
   ·have:=rr_pivot h.done.nz h.done.rise.1 hi5 hj
    rw [hid j hj] at this
    by_cases e:i=j
    ·rw [if_pos e] at this; right; rw [this]; exact e5
    ·rw [if_neg e] at this; left; exact this
   ·left; exact h.done.zero i (by omega) hi j hj
  rw [e4]
  rcases hr with e | e <;> rw [e]
  ·simp
  ·exact ⟨hh,by omega⟩
end Go.Proofs.YtcoeneldaohpnaaGreat
