import Derived.Test.YtfhjjpiakffagaaGreatDoorRunD
import Derived.Test.YtfhjjpiakffagaaGreatDoorRefY
import Derived.Test.YtfhjjpiakffagaaGreatDoorRefA
import Derived.Test.YtfhjjpiakffagaaGreatDoorCycAll
import Derived.Deep.Onto
namespace Go.Proofs.YtfhjjpiakffagaaGreatDoor
open Lin
theorem fm_row {m:List (List Int)} {i:Nat} (h:i < m.length):row (fm m) i=mOf m i:=by
 unfold row fm mOf
 rw [List.getD_eq_getElem?_getD,List.getElem?_map,List.getElem?_eq_getElem h]
 simp [h]
theorem fm_length (m:List (List Int)):(fm m).length=m.length:=by simp [fm]
theorem fm_srows (m:List (List Int)):srows (mOf m) m.length=fm m:=by
 apply List.ext_getElem (by simp [srows,fm])
 intro i h1 h2
 have hi:i < m.length:=by simpa [fm] using h2
 have:=fm_row hi
 unfold row at this
 rw [List.getD_eq_getElem?_getD,List.getElem?_eq_getElem h2] at this
 simp only [Option.getD_some] at this
 rw [this]; simp [srows]
theorem red_in {m:List (List Int)} {q:Nat} {M':Nat→Nat→Int} {C:Nat→Nat} {k:Nat} {sgn:Int} (h:Red (mOf m) m.length q M' C k sgn) {r:Nat→Int} (hr:r∈fm m):∃i,i < m.length∧r=M' i:=by
 obtain ⟨i,h1,h2⟩:=mem_row hr
 rw [fm_length] at h1
 rw [fm_row h1] at h2
 obtain ⟨i',h3,h4⟩:=h.sup i h1
 exact ⟨i',h3,by rw [←h2,h4]⟩
theorem red_out {m:List (List Int)} {q:Nat} {M':Nat→Nat→Int} {C:Nat→Nat} {k:Nat} {sgn:Int} (h:Red (mOf m) m.length q M' C k sgn) {i:Nat} (hi:i < m.length):M' i∈fm m:=by
 obtain ⟨i',h1,h2⟩:=h.sub i hi
 rw [h2,←fm_row h1]
 exact row_mem (by rw [fm_length]; exact h1)
theorem red_rank {m:List (List Int)} {c:Nat} {M':Nat→Nat→Int} {C:Nat→Nat} {k:Nat} {sgn:Int} (h:Red (mOf m) m.length c M' C k sgn):k=(pickL c m).length:=by
 have hg:=pick_greedy c m
 obtain ⟨K,hK,hf⟩:=hg.free
 rw [←fm_length (pickL c m)]
 refine rank_eq h.done hK.2 hf (fun a ha=>?_) (fun i hi=>hg.dep _ (red_out h hi))
 obtain ⟨i,h1,h2⟩:=red_in h (hg.mem _ (row_mem ha))
 exact ⟨i,h1,fun j _=>by rw [h2]⟩
theorem red_det {m:List (List Int)} {M':Nat→Nat→Int} {C:Nat→Nat} {k:Nat} {sgn:Int} (h:Red (mOf m) m.length m.length M' C k sgn):(if k < m.length then 0 else sgn*dk M' C k)=detL m:=by
 have hkn:=h.done.kn
 by_cases hk:k < m.length
 ·rw [if_pos hk]
  apply Classical.byContradiction
  intro hne
  have hod:od (fm m).length (cols (fm m) id) (fun _=>false)≠0:=by
   have e:cols (fm m) id=fm m:=by unfold cols; simp
   rw [e,fm_length]
   intro e; apply hne; unfold detL; rw [e]
  have:=rank_eq h.done (H:=fm m) (K:=id) (fun b hb=>by rw [fm_length] at hb; exact hb) hod (fun a ha=>by
   obtain ⟨i,h1,h2⟩:=red_in h (row_mem ha)
   exact ⟨i,h1,fun j _=>by rw [h2]⟩) (fun i hi=>by
   obtain ⟨a,h1,h2⟩:=mem_row (red_out h hi)
   rw [←h2]; exact Dep.self h1)
  rw [fm_length] at this; omega
 ·have hk':k=m.length:=by omega
  subst hk'
  rw [if_neg hk]
  have h1:=h.sign
  rw [dk_full h.done.rise,h1,fm_srows]
  unfold detL
  rcases h.one with e | e <;> rw [e] <;> simp
theorem red_entry {m:List (List Int)} {c B q:Nat} {M':Nat→Nat→Int} {C:Nat→Nat} {k:Nat} {sgn:Int} (hx:Mx c B m) (h:Red (mOf m) m.length q M' C k sgn):∀i,i < m.length→∀j,j < c→(M' i j).natAbs≤B:=by
 intro i hi j hj
 obtain ⟨i',h1,h2⟩:=h.sub i hi
 rw [h2]
 unfold mOf
 have hm:m.getD i' []∈m:=by rw [List.getD_eq_getElem?_getD,List.getElem?_eq_getElem h1]; exact List.getElem_mem h1
 have hl:=hx.row _ hm
 refine hx.bd _ hm _ ?_
 generalize m.getD i' []=r at hl ⊢
 have hjr:j < r.length:=by omega
 have e:r.getD j 0=r[j]:=by simp [hjr]
 rw [e]; exact List.getElem_mem hjr
theorem fb_one (B:Nat) (h:1≤B):∀k,1≤fb B k
 | 0=>Nat.le_refl _
 | k+1=>by
  unfold fb
  exact Nat.mul_pos (Nat.mul_pos (by omega) h) (fb_one B h k)
theorem rising_le {k c:Nat} {C:Nat→Nat} (h:Rising k c C):k≤c:=by
 have h1:∀i,i < k→i≤C i:=by
  intro i
  induction i with
  | zero=>intro _; omega
  | succ i ih=>
   intro hi
   have:=ih (by omega)
   have:=h.1 i (i+1) (by omega) hi
   omega
 by_cases hk:k=0
 ·omega
 ·have:=h1 (k-1) (by omega)
  have:=h.2 (k-1) (by omega)
  omega
theorem bd_of {m:List (List Int)} {c B:Nat} (hx:Mx c B m) (h34:fb B 3*(fb B 4+fb B 5)≤9223372036854775807)
  (had:∀M':Nat→Nat→Int,(∀i,i < 5→∀j,j < 5→(M' i j).natAbs≤B)→(dk M' id 4*dk M' id 5).natAbs≤9223372036854775807):Bd (mOf m) m.length c:=by
 intro q M' C k sgn hq h i hi j hj
 have hent:=red_entry hx h
 have hkq:=rising_le h.done.rise
 have hc5:=hx.c5
 have hkn:=h.done.kn
 have hCc:∀b,b < k+1→C b < c:=fun b hb=>Nat.lt_of_lt_of_le (h.done.rise.2 b hb) hq
 have hsm:=hx.small
 by_cases h4:k+1≤4
 ·have h1:=rr_bd (B:=B) (n:=m.length) (c:=c) (k:=k+1) (i:=i) (j:=j) (M:=M') (C:=C) hx.pos hent hkn hCc hi hj
  have h2:=dk_bd (B:=B) (k:=k) (M:=M') (C:=C) (fun i hi b hb=>hent i (by omega) _ (hCc b (by omega)))
  have m1:fb B (k+1)≤fb B 4:=fb_mono hx.pos h4
  have m2:fb B (k+1+1)≤fb B 5:=fb_mono hx.pos (by omega)
  have m3:fb B k≤fb B 3:=fb_mono hx.pos (by omega)
  have o3:=fb_one B hx.pos 3
  have hp:(dk M' C k*rr M' C (k+1) i j).natAbs≤fb B 3*(fb B 4+fb B 5):=by
   rw [Int.natAbs_mul]
   exact Nat.mul_le_mul (by omega) (by omega)
  have hq:(rr M' C (k+1) i j).natAbs≤fb B 3*(fb B 4+fb B 5):=
   Nat.le_trans (show (rr M' C (k+1) i j).natAbs≤1*(fb B 4+fb B 5) by omega) (Nat.mul_le_mul_right _ o3)
  omega
 ·have hk:k=4:=by omega
  subst hk
  have hc:c=5:=by omega
  subst hc
  have hq5:q=5:=by omega
  subst hq5
  have hid:∀b,b < 5→C b=b:=fun b hb=>rising_id h.done.rise hb
  have e4:dk M' C 4=dk M' id 4:=dk_congr (fun _ _=>rfl) fun b hb=>hid b (by omega)
  have e5:dk M' C 5=dk M' id 5:=dk_congr (fun _ _=>rfl) fun b hb=>hid b hb
  have b5:=dk_bd (B:=B) (k:=5) (M:=M') (C:=id) (fun i hi b hb=>hent i (by omega) _ hb)
  have hh:=had M' (fun i hi j hj=>hent i (by omega) j hj)
  have hr:rr M' C (4+1) i j=0∨rr M' C (4+1) i j=dk M' id 5:=by
   by_cases hi5:i < 5
   ·have:=rr_pivot h.done.nz h.done.rise.1 hi5 hj
    rw [hid j hj] at this
    by_cases e:i=j
    ·rw [if_pos e] at this; right; rw [this]; exact e5
    ·rw [if_neg e] at this; left; exact this
   ·left; exact h.done.zero i (by omega) hi j hj
  rw [e4]
  rcases hr with e | e <;> rw [e]
  ·simp
  ·exact ⟨hh,by omega⟩
end Go.Proofs.YtfhjjpiakffagaaGreatDoor
namespace Go.Proofs.YtfhjjpiakffagaaGreatDoor.Lin
theorem cs_step {S X Y a b:Int} (h:S*S≤X*Y) (hX:0≤X) (hY:0≤Y):(S+a*b)*(S+a*b)≤(X+a*a)*(Y+b*b):=by
 have hsq:∀x:Int,0≤x*x:=fun x=>by rcases Int.le_total 0 x with h | h; exact Int.mul_nonneg h h; exact Int.mul_nonneg_of_nonpos_of_nonpos h h
 have key:2*(S*(a*b))≤X*(b*b)+Y*(a*a):=by
  apply Classical.byContradiction
  intro hn
  have hv:0≤X*(b*b)+Y*(a*a):=Int.add_nonneg (Int.mul_nonneg hX (hsq b)) (Int.mul_nonneg hY (hsq a))
  have h1:0 < (2*(S*(a*b))-(X*(b*b)+Y*(a*a)))*(2*(S*(a*b))+(X*(b*b)+Y*(a*a))):=Int.mul_pos (by omega) (by omega)
  have h2:=hsq (X*(b*b)-Y*(a*a))
  have h3:0≤(X*Y-S*S)*((a*b)*(a*b)):=Int.mul_nonneg (by omega) (hsq _)
  grind
 grind
theorem cs (n:Nat) (x y:Nat→Int):0≤sumN n (fun i=>x i*x i)∧0≤sumN n (fun i=>y i*y i)∧sumN n (fun i=>x i*y i)*sumN n (fun i=>x i*y i)≤sumN n (fun i=>x i*x i)*sumN n (fun i=>y i*y i):=by
 have hsq:∀x:Int,0≤x*x:=fun x=>by rcases Int.le_total 0 x with h | h; exact Int.mul_nonneg h h; exact Int.mul_nonneg_of_nonpos_of_nonpos h h
 induction n with
 | zero=>simp [sumN]
 | succ n ih=>
  obtain ⟨h1,h2,h3⟩:=ih
  simp only [sumN]
  exact ⟨Int.add_nonneg h1 (hsq _),Int.add_nonneg h2 (hsq _),cs_step h3 h1 h2⟩
def nth (l:List Int) (i:Nat):Int:=l.getD i 0
theorem sq_le {x:Int} {B:Nat} (h:x.natAbs≤B):x*x≤(B:Int)*B:=by
 have h1:x*x=((x.natAbs*x.natAbs:Nat):Int):=by simp
 rw [h1]
 exact_mod_cast Nat.mul_le_mul h h
theorem root_le {u:Int} {K:Nat} (h:u*u≤(K:Int)) (hK:K < 85070591730234615865843651857942052864):u.natAbs≤9223372036854775807:=by
 apply Classical.byContradiction
 intro hn
 have h1:9223372036854775808≤u.natAbs:=by omega
 have h2:=Nat.mul_le_mul h1 h1
 have h3:u*u=((u.natAbs*u.natAbs:Nat):Int):=by simp
 rw [h3] at h
 omega
theorem lag4 (a0 a1 a2 a3 b0 b1 b2 b3:Int):(a0*b1-a1*b0)*(a0*b1-a1*b0)+(a0*b2-a2*b0)*(a0*b2-a2*b0)+(a0*b3-a3*b0)*(a0*b3-a3*b0)+(a1*b2-a2*b1)*(a1*b2-a2*b1)+(a1*b3-a3*b1)*(a1*b3-a3*b1)+(a2*b3-a3*b2)*(a2*b3-a3*b2)=(a0*a0+a1*a1+a2*a2+a3*a3)*(b0*b0+b1*b1+b2*b2+b3*b3)-(a0*b0+a1*b1+a2*b2+a3*b3)*(a0*b0+a1*b1+a2*b2+a3*b3):=by grind
theorem lag5 (a0 a1 a2 a3 a4 b0 b1 b2 b3 b4:Int):(a0*b1-a1*b0)*(a0*b1-a1*b0)+(a0*b2-a2*b0)*(a0*b2-a2*b0)+(a0*b3-a3*b0)*(a0*b3-a3*b0)+(a0*b4-a4*b0)*(a0*b4-a4*b0)+(a1*b2-a2*b1)*(a1*b2-a2*b1)+(a1*b3-a3*b1)*(a1*b3-a3*b1)+(a1*b4-a4*b1)*(a1*b4-a4*b1)+(a2*b3-a3*b2)*(a2*b3-a3*b2)+(a2*b4-a4*b2)*(a2*b4-a4*b2)+(a3*b4-a4*b3)*(a3*b4-a4*b3)=(a0*a0+a1*a1+a2*a2+a3*a3+a4*a4)*(b0*b0+b1*b1+b2*b2+b3*b3+b4*b4)-(a0*b0+a1*b1+a2*b2+a3*b3+a4*b4)*(a0*b0+a1*b1+a2*b2+a3*b3+a4*b4):=by grind
theorem con5 (c0 c1 c2 c3 c4 q01 q02 q03 q04 q12 q13 q14 q23 q24 q34:Int):(c0*q12-c1*q02+c2*q01)*(c0*q12-c1*q02+c2*q01)+(c0*q13-c1*q03+c3*q01)*(c0*q13-c1*q03+c3*q01)+(c0*q14-c1*q04+c4*q01)*(c0*q14-c1*q04+c4*q01)+(c0*q23-c2*q03+c3*q02)*(c0*q23-c2*q03+c3*q02)+(c0*q24-c2*q04+c4*q02)*(c0*q24-c2*q04+c4*q02)+(c0*q34-c3*q04+c4*q03)*(c0*q34-c3*q04+c4*q03)+(c1*q23-c2*q13+c3*q12)*(c1*q23-c2*q13+c3*q12)+(c1*q24-c2*q14+c4*q12)*(c1*q24-c2*q14+c4*q12)+(c1*q34-c3*q14+c4*q13)*(c1*q34-c3*q14+c4*q13)+(c2*q34-c3*q24+c4*q23)*(c2*q34-c3*q24+c4*q23)=(c0*c0+c1*c1+c2*c2+c3*c3+c4*c4)*(q01*q01+q02*q02+q03*q03+q04*q04+q12*q12+q13*q13+q14*q14+q23*q23+q24*q24+q34*q34)-((c1*(q01)+c2*(q02)+c3*(q03)+c4*(q04))*(c1*(q01)+c2*(q02)+c3*(q03)+c4*(q04))+(c0*(-q01)+c2*(q12)+c3*(q13)+c4*(q14))*(c0*(-q01)+c2*(q12)+c3*(q13)+c4*(q14))+(c0*(-q02)+c1*(-q12)+c3*(q23)+c4*(q24))*(c0*(-q02)+c1*(-q12)+c3*(q23)+c4*(q24))+(c0*(-q03)+c1*(-q13)+c2*(-q23)+c4*(q34))*(c0*(-q03)+c1*(-q13)+c2*(-q23)+c4*(q34))+(c0*(-q04)+c1*(-q14)+c2*(-q24)+c3*(-q34))*(c0*(-q04)+c1*(-q14)+c2*(-q24)+c3*(-q34))):=by grind
set_option maxHeartbeats 4000000 in
theorem d4_eq (M:Nat→Nat→Int):dk M id 4 =
  (M 0 0*M 1 1-M 0 1*M 1 0)*(M 2 2*M 3 3-M 2 3*M 3 2)-(M 0 0*M 1 2-M 0 2*M 1 0)*(M 2 1*M 3 3-M 2 3*M 3 1)+(M 0 0*M 1 3-M 0 3*M 1 0)*(M 2 1*M 3 2-M 2 2*M 3 1)
  + (M 0 1*M 1 2-M 0 2*M 1 1)*(M 2 0*M 3 3-M 2 3*M 3 0)-(M 0 1*M 1 3-M 0 3*M 1 1)*(M 2 0*M 3 2-M 2 2*M 3 0)+(M 0 2*M 1 3-M 0 3*M 1 2)*(M 2 0*M 3 1-M 2 1*M 3 0):=by
 simp [dk,cols,srows,od,sumN,sg,ins,List.range,List.range.loop]
 grind
set_option maxRecDepth 100000 in
set_option maxHeartbeats 4000000 in
theorem d5_eq (M:Nat→Nat→Int):dk M id 5 =
  (M 0 0*M 1 1-M 0 1*M 1 0)*(M 2 2*(M 3 3*M 4 4-M 3 4*M 4 3)-M 2 3*(M 3 2*M 4 4-M 3 4*M 4 2)+M 2 4*(M 3 2*M 4 3-M 3 3*M 4 2))-(M 0 0*M 1 2-M 0 2*M 1 0)*(M 2 1*(M 3 3*M 4 4-M 3 4*M 4 3)-M 2 3*(M 3 1*M 4 4-M 3 4*M 4 1)+M 2 4*(M 3 1*M 4 3-M 3 3*M 4 1))+(M 0 0*M 1 3-M 0 3*M 1 0)*(M 2 1*(M 3 2*M 4 4-M 3 4*M 4 2)-M 2 2*(M 3 1*M 4 4-M 3 4*M 4 1)+M 2 4*(M 3 1*M 4 2-M 3 2*M 4 1))-(M 0 0*M 1 4-M 0 4*M 1 0)*(M 2 1*(M 3 2*M 4 3-M 3 3*M 4 2)-M 2 2*(M 3 1*M 4 3-M 3 3*M 4 1)+M 2 3*(M 3 1*M 4 2-M 3 2*M 4 1))+(M 0 1*M 1 2-M 0 2*M 1 1)*(M 2 0*(M 3 3*M 4 4-M 3 4*M 4 3)-M 2 3*(M 3 0*M 4 4-M 3 4*M 4 0)+M 2 4*(M 3 0*M 4 3-M 3 3*M 4 0))-(M 0 1*M 1 3-M 0 3*M 1 1)*(M 2 0*(M 3 2*M 4 4-M 3 4*M 4 2)-M 2 2*(M 3 0*M 4 4-M 3 4*M 4 0)+M 2 4*(M 3 0*M 4 2-M 3 2*M 4 0))+(M 0 1*M 1 4-M 0 4*M 1 1)*(M 2 0*(M 3 2*M 4 3-M 3 3*M 4 2)-M 2 2*(M 3 0*M 4 3-M 3 3*M 4 0)+M 2 3*(M 3 0*M 4 2-M 3 2*M 4 0))+(M 0 2*M 1 3-M 0 3*M 1 2)*(M 2 0*(M 3 1*M 4 4-M 3 4*M 4 1)-M 2 1*(M 3 0*M 4 4-M 3 4*M 4 0)+M 2 4*(M 3 0*M 4 1-M 3 1*M 4 0))-(M 0 2*M 1 4-M 0 4*M 1 2)*(M 2 0*(M 3 1*M 4 3-M 3 3*M 4 1)-M 2 1*(M 3 0*M 4 3-M 3 3*M 4 0)+M 2 3*(M 3 0*M 4 1-M 3 1*M 4 0))+(M 0 3*M 1 4-M 0 4*M 1 3)*(M 2 0*(M 3 1*M 4 2-M 3 2*M 4 1)-M 2 1*(M 3 0*M 4 2-M 3 2*M 4 0)+M 2 2*(M 3 0*M 4 1-M 3 1*M 4 0)):=by
 simp [dk,cols,srows,od,sumN,sg,ins,List.range,List.range.loop]
 grind
theorem norm_le {M:Nat→Nat→Int} (h:∀i,i < 5→∀j,j < 5→(M i j).natAbs≤60) {i:Nat} (hi:i < 5):(M i 0*M i 0+M i 1*M i 1+M i 2*M i 2+M i 3*M i 3)≤14400∧(M i 0*M i 0+M i 1*M i 1+M i 2*M i 2+M i 3*M i 3+M i 4*M i 4)≤18000∧0≤(M i 0*M i 0+M i 1*M i 1+M i 2*M i 2+M i 3*M i 3)∧0≤(M i 0*M i 0+M i 1*M i 1+M i 2*M i 2+M i 3*M i 3+M i 4*M i 4):=by
 have hsq:∀x:Int,0≤x*x:=fun x=>by rcases Int.le_total 0 x with h | h; exact Int.mul_nonneg h h; exact Int.mul_nonneg_of_nonpos_of_nonpos h h
 have a0:=sq_le (h i hi 0 (by decide))
 have a1:=sq_le (h i hi 1 (by decide))
 have a2:=sq_le (h i hi 2 (by decide))
 have a3:=sq_le (h i hi 3 (by decide))
 have a4:=sq_le (h i hi 4 (by decide))
 have b0:=hsq (M i 0)
 have b1:=hsq (M i 1)
 have b2:=hsq (M i 2)
 have b3:=hsq (M i 3)
 have b4:=hsq (M i 4)
 generalize M i 0*M i 0=z0 at *
 generalize M i 1*M i 1=z1 at *
 generalize M i 2*M i 2=z2 at *
 generalize M i 3*M i 3=z3 at *
 generalize M i 4*M i 4=z4 at *
 omega
theorem mul_le {a b A B:Int} (h1:a≤A) (h2:b≤B) (h3:0≤a) (h4:0≤B):a*b≤A*B:=
 Int.le_trans (Int.mul_le_mul_of_nonneg_left h2 h3) (Int.mul_le_mul_of_nonneg_right h1 h4)
theorem cs6 (p0 p1 p2 p3 p4 p5 t0 t1 t2 t3 t4 t5:Int):(p0*t0-p1*t1+p2*t2+p3*t3-p4*t4+p5*t5)*(p0*t0-p1*t1+p2*t2+p3*t3-p4*t4+p5*t5)≤(p0*p0+p1*p1+p2*p2+p3*p3+p4*p4+p5*p5)*(t0*t0+t1*t1+t2*t2+t3*t3+t4*t4+t5*t5)∧0≤p0*p0+p1*p1+p2*p2+p3*p3+p4*p4+p5*p5:=by
 have hc:=cs 6 (nth [p0,p1,p2,p3,p4,p5]) (nth [t0,-t1,t2,t3,-t4,t5])
 simp only [sumN,nth,List.getD_cons_zero,List.getD_cons_succ] at hc
 obtain ⟨hc0,hc1,hc2⟩:=hc
 have e1:p0*t0-p1*t1+p2*t2+p3*t3-p4*t4+p5*t5=((((((0+p0*t0)+p1 * -t1)+p2*t2)+p3*t3)+p4 * -t4)+p5*t5):=by grind
 have e2:p0*p0+p1*p1+p2*p2+p3*p3+p4*p4+p5*p5=((((((0+p0*p0)+p1*p1)+p2*p2)+p3*p3)+p4*p4)+p5*p5):=by grind
 have e3:t0*t0+t1*t1+t2*t2+t3*t3+t4*t4+t5*t5=((((((0+t0*t0) + -t1 * -t1)+t2*t2)+t3*t3) + -t4 * -t4)+t5*t5):=by grind
 rw [e1,e2,e3]
 exact ⟨hc2,hc0⟩
theorem cs10 (p0 p1 p2 p3 p4 p5 p6 p7 p8 p9 t0 t1 t2 t3 t4 t5 t6 t7 t8 t9:Int):(p0*t0-p1*t1+p2*t2-p3*t3+p4*t4-p5*t5+p6*t6+p7*t7-p8*t8+p9*t9)*(p0*t0-p1*t1+p2*t2-p3*t3+p4*t4-p5*t5+p6*t6+p7*t7-p8*t8+p9*t9)≤(p0*p0+p1*p1+p2*p2+p3*p3+p4*p4+p5*p5+p6*p6+p7*p7+p8*p8+p9*p9)*(t0*t0+t1*t1+t2*t2+t3*t3+t4*t4+t5*t5+t6*t6+t7*t7+t8*t8+t9*t9)∧0≤p0*p0+p1*p1+p2*p2+p3*p3+p4*p4+p5*p5+p6*p6+p7*p7+p8*p8+p9*p9:=by
 have hc:=cs 10 (nth [p0,p1,p2,p3,p4,p5,p6,p7,p8,p9]) (nth [t0,-t1,t2,-t3,t4,-t5,t6,t7,-t8,t9])
 simp only [sumN,nth,List.getD_cons_zero,List.getD_cons_succ] at hc
 obtain ⟨hc0,hc1,hc2⟩:=hc
 have e1:p0*t0-p1*t1+p2*t2-p3*t3+p4*t4-p5*t5+p6*t6+p7*t7-p8*t8+p9*t9=((((((((((0+p0*t0)+p1 * -t1)+p2*t2)+p3 * -t3)+p4*t4)+p5 * -t5)+p6*t6)+p7*t7)+p8 * -t8)+p9*t9):=by grind
 have e2:p0*p0+p1*p1+p2*p2+p3*p3+p4*p4+p5*p5+p6*p6+p7*p7+p8*p8+p9*p9=((((((((((0+p0*p0)+p1*p1)+p2*p2)+p3*p3)+p4*p4)+p5*p5)+p6*p6)+p7*p7)+p8*p8)+p9*p9):=by grind
 have e3:t0*t0+t1*t1+t2*t2+t3*t3+t4*t4+t5*t5+t6*t6+t7*t7+t8*t8+t9*t9=((((((((((0+t0*t0) + -t1 * -t1)+t2*t2) + -t3 * -t3)+t4*t4) + -t5 * -t5)+t6*t6)+t7*t7) + -t8 * -t8)+t9*t9):=by grind
 rw [e1,e2,e3]
 exact ⟨hc2,hc0⟩
theorem lag_le {P A B D a b:Int} (h:P=A*B-D*D) (hA:A≤a) (hB:B≤b) (h0:0≤A) (hb:0≤b):P≤a*b:=by
 have h1:=mul_le hA hB h0 hb
 have h2:0≤D*D:=by rcases Int.le_total 0 D with h | h; exact Int.mul_nonneg h h; exact Int.mul_nonneg_of_nonpos_of_nonpos h h
 rw [h]; omega
theorem con_le {P A B D a b:Int} (h:P=A*B-D) (hD:0≤D) (hA:A≤a) (hB:B≤b) (h0:0≤A) (hb:0≤b):P≤a*b:=by
 have h1:=mul_le hA hB h0 hb
 rw [h]; omega
theorem had4 {M:Nat→Nat→Int} (h:∀i,i < 5→∀j,j < 5→(M i j).natAbs≤60):dk M id 4*dk M id 4≤42998169600000000:=by
 have n0:=norm_le h (i:=0) (by decide)
 have n1:=norm_le h (i:=1) (by decide)
 have n2:=norm_le h (i:=2) (by decide)
 have n3:=norm_le h (i:=3) (by decide)
 rw [d4_eq]
 have hc:=cs6 (M 0 0*M 1 1-M 0 1*M 1 0) (M 0 0*M 1 2-M 0 2*M 1 0) (M 0 0*M 1 3-M 0 3*M 1 0) (M 0 1*M 1 2-M 0 2*M 1 1) (M 0 1*M 1 3-M 0 3*M 1 1) (M 0 2*M 1 3-M 0 3*M 1 2) (M 2 2*M 3 3-M 2 3*M 3 2) (M 2 1*M 3 3-M 2 3*M 3 1) (M 2 1*M 3 2-M 2 2*M 3 1) (M 2 0*M 3 3-M 2 3*M 3 0) (M 2 0*M 3 2-M 2 2*M 3 0) (M 2 0*M 3 1-M 2 1*M 3 0)
 refine Int.le_trans hc.1 ?_
 have X:(M 0 0*M 1 1-M 0 1*M 1 0)*(M 0 0*M 1 1-M 0 1*M 1 0)+(M 0 0*M 1 2-M 0 2*M 1 0)*(M 0 0*M 1 2-M 0 2*M 1 0)+(M 0 0*M 1 3-M 0 3*M 1 0)*(M 0 0*M 1 3-M 0 3*M 1 0)+(M 0 1*M 1 2-M 0 2*M 1 1)*(M 0 1*M 1 2-M 0 2*M 1 1)+(M 0 1*M 1 3-M 0 3*M 1 1)*(M 0 1*M 1 3-M 0 3*M 1 1)+(M 0 2*M 1 3-M 0 3*M 1 2)*(M 0 2*M 1 3-M 0 3*M 1 2)≤14400*14400:=lag_le (lag4 (M 0 0) (M 0 1) (M 0 2) (M 0 3) (M 1 0) (M 1 1) (M 1 2) (M 1 3)) n0.1 n1.1 n0.2.2.1 (by decide)
 have Y:(M 2 2*M 3 3-M 2 3*M 3 2)*(M 2 2*M 3 3-M 2 3*M 3 2)+(M 2 1*M 3 3-M 2 3*M 3 1)*(M 2 1*M 3 3-M 2 3*M 3 1)+(M 2 1*M 3 2-M 2 2*M 3 1)*(M 2 1*M 3 2-M 2 2*M 3 1)+(M 2 0*M 3 3-M 2 3*M 3 0)*(M 2 0*M 3 3-M 2 3*M 3 0)+(M 2 0*M 3 2-M 2 2*M 3 0)*(M 2 0*M 3 2-M 2 2*M 3 0)+(M 2 0*M 3 1-M 2 1*M 3 0)*(M 2 0*M 3 1-M 2 1*M 3 0)≤14400*14400:=by
  have e:(M 2 2*M 3 3-M 2 3*M 3 2)*(M 2 2*M 3 3-M 2 3*M 3 2)+(M 2 1*M 3 3-M 2 3*M 3 1)*(M 2 1*M 3 3-M 2 3*M 3 1)+(M 2 1*M 3 2-M 2 2*M 3 1)*(M 2 1*M 3 2-M 2 2*M 3 1)+(M 2 0*M 3 3-M 2 3*M 3 0)*(M 2 0*M 3 3-M 2 3*M 3 0)+(M 2 0*M 3 2-M 2 2*M 3 0)*(M 2 0*M 3 2-M 2 2*M 3 0)+(M 2 0*M 3 1-M 2 1*M 3 0)*(M 2 0*M 3 1-M 2 1*M 3 0)=(M 2 0*M 3 1-M 2 1*M 3 0)*(M 2 0*M 3 1-M 2 1*M 3 0)+(M 2 0*M 3 2-M 2 2*M 3 0)*(M 2 0*M 3 2-M 2 2*M 3 0)+(M 2 0*M 3 3-M 2 3*M 3 0)*(M 2 0*M 3 3-M 2 3*M 3 0)+(M 2 1*M 3 2-M 2 2*M 3 1)*(M 2 1*M 3 2-M 2 2*M 3 1)+(M 2 1*M 3 3-M 2 3*M 3 1)*(M 2 1*M 3 3-M 2 3*M 3 1)+(M 2 2*M 3 3-M 2 3*M 3 2)*(M 2 2*M 3 3-M 2 3*M 3 2):=by ac_rfl
  rw [e]; exact lag_le (lag4 (M 2 0) (M 2 1) (M 2 2) (M 2 3) (M 3 0) (M 3 1) (M 3 2) (M 3 3)) n2.1 n3.1 n2.2.2.1 (by decide)
 exact Int.le_trans (mul_le X Y hc.2 (by decide)) (by decide)
set_option maxRecDepth 100000 in
theorem had5 {M:Nat→Nat→Int} (h:∀i,i < 5→∀j,j < 5→(M i j).natAbs≤60):dk M id 5*dk M id 5≤1889568000000000000000:=by
 have hsq:∀x:Int,0≤x*x:=fun x=>by rcases Int.le_total 0 x with h | h; exact Int.mul_nonneg h h; exact Int.mul_nonneg_of_nonpos_of_nonpos h h
 have n0:=norm_le h (i:=0) (by decide)
 have n1:=norm_le h (i:=1) (by decide)
 have n2:=norm_le h (i:=2) (by decide)
 have n3:=norm_le h (i:=3) (by decide)
 have n4:=norm_le h (i:=4) (by decide)
 rw [d5_eq]
 have hc:=cs10 (M 0 0*M 1 1-M 0 1*M 1 0) (M 0 0*M 1 2-M 0 2*M 1 0) (M 0 0*M 1 3-M 0 3*M 1 0) (M 0 0*M 1 4-M 0 4*M 1 0) (M 0 1*M 1 2-M 0 2*M 1 1) (M 0 1*M 1 3-M 0 3*M 1 1) (M 0 1*M 1 4-M 0 4*M 1 1) (M 0 2*M 1 3-M 0 3*M 1 2) (M 0 2*M 1 4-M 0 4*M 1 2) (M 0 3*M 1 4-M 0 4*M 1 3) (M 2 2*(M 3 3*M 4 4-M 3 4*M 4 3)-M 2 3*(M 3 2*M 4 4-M 3 4*M 4 2)+M 2 4*(M 3 2*M 4 3-M 3 3*M 4 2)) (M 2 1*(M 3 3*M 4 4-M 3 4*M 4 3)-M 2 3*(M 3 1*M 4 4-M 3 4*M 4 1)+M 2 4*(M 3 1*M 4 3-M 3 3*M 4 1)) (M 2 1*(M 3 2*M 4 4-M 3 4*M 4 2)-M 2 2*(M 3 1*M 4 4-M 3 4*M 4 1)+M 2 4*(M 3 1*M 4 2-M 3 2*M 4 1)) (M 2 1*(M 3 2*M 4 3-M 3 3*M 4 2)-M 2 2*(M 3 1*M 4 3-M 3 3*M 4 1)+M 2 3*(M 3 1*M 4 2-M 3 2*M 4 1)) (M 2 0*(M 3 3*M 4 4-M 3 4*M 4 3)-M 2 3*(M 3 0*M 4 4-M 3 4*M 4 0)+M 2 4*(M 3 0*M 4 3-M 3 3*M 4 0)) (M 2 0*(M 3 2*M 4 4-M 3 4*M 4 2)-M 2 2*(M 3 0*M 4 4-M 3 4*M 4 0)+M 2 4*(M 3 0*M 4 2-M 3 2*M 4 0)) (M 2 0*(M 3 2*M 4 3-M 3 3*M 4 2)-M 2 2*(M 3 0*M 4 3-M 3 3*M 4 0)+M 2 3*(M 3 0*M 4 2-M 3 2*M 4 0)) (M 2 0*(M 3 1*M 4 4-M 3 4*M 4 1)-M 2 1*(M 3 0*M 4 4-M 3 4*M 4 0)+M 2 4*(M 3 0*M 4 1-M 3 1*M 4 0)) (M 2 0*(M 3 1*M 4 3-M 3 3*M 4 1)-M 2 1*(M 3 0*M 4 3-M 3 3*M 4 0)+M 2 3*(M 3 0*M 4 1-M 3 1*M 4 0)) (M 2 0*(M 3 1*M 4 2-M 3 2*M 4 1)-M 2 1*(M 3 0*M 4 2-M 3 2*M 4 0)+M 2 2*(M 3 0*M 4 1-M 3 1*M 4 0))
 refine Int.le_trans hc.1 ?_
 have X:(M 0 0*M 1 1-M 0 1*M 1 0)*(M 0 0*M 1 1-M 0 1*M 1 0)+(M 0 0*M 1 2-M 0 2*M 1 0)*(M 0 0*M 1 2-M 0 2*M 1 0)+(M 0 0*M 1 3-M 0 3*M 1 0)*(M 0 0*M 1 3-M 0 3*M 1 0)+(M 0 0*M 1 4-M 0 4*M 1 0)*(M 0 0*M 1 4-M 0 4*M 1 0)+(M 0 1*M 1 2-M 0 2*M 1 1)*(M 0 1*M 1 2-M 0 2*M 1 1)+(M 0 1*M 1 3-M 0 3*M 1 1)*(M 0 1*M 1 3-M 0 3*M 1 1)+(M 0 1*M 1 4-M 0 4*M 1 1)*(M 0 1*M 1 4-M 0 4*M 1 1)+(M 0 2*M 1 3-M 0 3*M 1 2)*(M 0 2*M 1 3-M 0 3*M 1 2)+(M 0 2*M 1 4-M 0 4*M 1 2)*(M 0 2*M 1 4-M 0 4*M 1 2)+(M 0 3*M 1 4-M 0 4*M 1 3)*(M 0 3*M 1 4-M 0 4*M 1 3)≤18000*18000:=lag_le (lag5 (M 0 0) (M 0 1) (M 0 2) (M 0 3) (M 0 4) (M 1 0) (M 1 1) (M 1 2) (M 1 3) (M 1 4)) n0.2.1 n1.2.1 n0.2.2.2 (by decide)
 have Q:=lag_le (lag5 (M 3 0) (M 3 1) (M 3 2) (M 3 3) (M 3 4) (M 4 0) (M 4 1) (M 4 2) (M 4 3) (M 4 4)) n3.2.1 n4.2.1 n3.2.2.2 (by decide)
 have Y:(M 2 2*(M 3 3*M 4 4-M 3 4*M 4 3)-M 2 3*(M 3 2*M 4 4-M 3 4*M 4 2)+M 2 4*(M 3 2*M 4 3-M 3 3*M 4 2))*(M 2 2*(M 3 3*M 4 4-M 3 4*M 4 3)-M 2 3*(M 3 2*M 4 4-M 3 4*M 4 2)+M 2 4*(M 3 2*M 4 3-M 3 3*M 4 2))+(M 2 1*(M 3 3*M 4 4-M 3 4*M 4 3)-M 2 3*(M 3 1*M 4 4-M 3 4*M 4 1)+M 2 4*(M 3 1*M 4 3-M 3 3*M 4 1))*(M 2 1*(M 3 3*M 4 4-M 3 4*M 4 3)-M 2 3*(M 3 1*M 4 4-M 3 4*M 4 1)+M 2 4*(M 3 1*M 4 3-M 3 3*M 4 1))+(M 2 1*(M 3 2*M 4 4-M 3 4*M 4 2)-M 2 2*(M 3 1*M 4 4-M 3 4*M 4 1)+M 2 4*(M 3 1*M 4 2-M 3 2*M 4 1))*(M 2 1*(M 3 2*M 4 4-M 3 4*M 4 2)-M 2 2*(M 3 1*M 4 4-M 3 4*M 4 1)+M 2 4*(M 3 1*M 4 2-M 3 2*M 4 1))+(M 2 1*(M 3 2*M 4 3-M 3 3*M 4 2)-M 2 2*(M 3 1*M 4 3-M 3 3*M 4 1)+M 2 3*(M 3 1*M 4 2-M 3 2*M 4 1))*(M 2 1*(M 3 2*M 4 3-M 3 3*M 4 2)-M 2 2*(M 3 1*M 4 3-M 3 3*M 4 1)+M 2 3*(M 3 1*M 4 2-M 3 2*M 4 1))+(M 2 0*(M 3 3*M 4 4-M 3 4*M 4 3)-M 2 3*(M 3 0*M 4 4-M 3 4*M 4 0)+M 2 4*(M 3 0*M 4 3-M 3 3*M 4 0))*(M 2 0*(M 3 3*M 4 4-M 3 4*M 4 3)-M 2 3*(M 3 0*M 4 4-M 3 4*M 4 0)+M 2 4*(M 3 0*M 4 3-M 3 3*M 4 0))+(M 2 0*(M 3 2*M 4 4-M 3 4*M 4 2)-M 2 2*(M 3 0*M 4 4-M 3 4*M 4 0)+M 2 4*(M 3 0*M 4 2-M 3 2*M 4 0))*(M 2 0*(M 3 2*M 4 4-M 3 4*M 4 2)-M 2 2*(M 3 0*M 4 4-M 3 4*M 4 0)+M 2 4*(M 3 0*M 4 2-M 3 2*M 4 0))+(M 2 0*(M 3 2*M 4 3-M 3 3*M 4 2)-M 2 2*(M 3 0*M 4 3-M 3 3*M 4 0)+M 2 3*(M 3 0*M 4 2-M 3 2*M 4 0))*(M 2 0*(M 3 2*M 4 3-M 3 3*M 4 2)-M 2 2*(M 3 0*M 4 3-M 3 3*M 4 0)+M 2 3*(M 3 0*M 4 2-M 3 2*M 4 0))+(M 2 0*(M 3 1*M 4 4-M 3 4*M 4 1)-M 2 1*(M 3 0*M 4 4-M 3 4*M 4 0)+M 2 4*(M 3 0*M 4 1-M 3 1*M 4 0))*(M 2 0*(M 3 1*M 4 4-M 3 4*M 4 1)-M 2 1*(M 3 0*M 4 4-M 3 4*M 4 0)+M 2 4*(M 3 0*M 4 1-M 3 1*M 4 0))+(M 2 0*(M 3 1*M 4 3-M 3 3*M 4 1)-M 2 1*(M 3 0*M 4 3-M 3 3*M 4 0)+M 2 3*(M 3 0*M 4 1-M 3 1*M 4 0))*(M 2 0*(M 3 1*M 4 3-M 3 3*M 4 1)-M 2 1*(M 3 0*M 4 3-M 3 3*M 4 0)+M 2 3*(M 3 0*M 4 1-M 3 1*M 4 0))+(M 2 0*(M 3 1*M 4 2-M 3 2*M 4 1)-M 2 1*(M 3 0*M 4 2-M 3 2*M 4 0)+M 2 2*(M 3 0*M 4 1-M 3 1*M 4 0))*(M 2 0*(M 3 1*M 4 2-M 3 2*M 4 1)-M 2 1*(M 3 0*M 4 2-M 3 2*M 4 0)+M 2 2*(M 3 0*M 4 1-M 3 1*M 4 0))≤18000*(18000*18000):=by
  have e:(M 2 2*(M 3 3*M 4 4-M 3 4*M 4 3)-M 2 3*(M 3 2*M 4 4-M 3 4*M 4 2)+M 2 4*(M 3 2*M 4 3-M 3 3*M 4 2))*(M 2 2*(M 3 3*M 4 4-M 3 4*M 4 3)-M 2 3*(M 3 2*M 4 4-M 3 4*M 4 2)+M 2 4*(M 3 2*M 4 3-M 3 3*M 4 2))+(M 2 1*(M 3 3*M 4 4-M 3 4*M 4 3)-M 2 3*(M 3 1*M 4 4-M 3 4*M 4 1)+M 2 4*(M 3 1*M 4 3-M 3 3*M 4 1))*(M 2 1*(M 3 3*M 4 4-M 3 4*M 4 3)-M 2 3*(M 3 1*M 4 4-M 3 4*M 4 1)+M 2 4*(M 3 1*M 4 3-M 3 3*M 4 1))+(M 2 1*(M 3 2*M 4 4-M 3 4*M 4 2)-M 2 2*(M 3 1*M 4 4-M 3 4*M 4 1)+M 2 4*(M 3 1*M 4 2-M 3 2*M 4 1))*(M 2 1*(M 3 2*M 4 4-M 3 4*M 4 2)-M 2 2*(M 3 1*M 4 4-M 3 4*M 4 1)+M 2 4*(M 3 1*M 4 2-M 3 2*M 4 1))+(M 2 1*(M 3 2*M 4 3-M 3 3*M 4 2)-M 2 2*(M 3 1*M 4 3-M 3 3*M 4 1)+M 2 3*(M 3 1*M 4 2-M 3 2*M 4 1))*(M 2 1*(M 3 2*M 4 3-M 3 3*M 4 2)-M 2 2*(M 3 1*M 4 3-M 3 3*M 4 1)+M 2 3*(M 3 1*M 4 2-M 3 2*M 4 1))+(M 2 0*(M 3 3*M 4 4-M 3 4*M 4 3)-M 2 3*(M 3 0*M 4 4-M 3 4*M 4 0)+M 2 4*(M 3 0*M 4 3-M 3 3*M 4 0))*(M 2 0*(M 3 3*M 4 4-M 3 4*M 4 3)-M 2 3*(M 3 0*M 4 4-M 3 4*M 4 0)+M 2 4*(M 3 0*M 4 3-M 3 3*M 4 0))+(M 2 0*(M 3 2*M 4 4-M 3 4*M 4 2)-M 2 2*(M 3 0*M 4 4-M 3 4*M 4 0)+M 2 4*(M 3 0*M 4 2-M 3 2*M 4 0))*(M 2 0*(M 3 2*M 4 4-M 3 4*M 4 2)-M 2 2*(M 3 0*M 4 4-M 3 4*M 4 0)+M 2 4*(M 3 0*M 4 2-M 3 2*M 4 0))+(M 2 0*(M 3 2*M 4 3-M 3 3*M 4 2)-M 2 2*(M 3 0*M 4 3-M 3 3*M 4 0)+M 2 3*(M 3 0*M 4 2-M 3 2*M 4 0))*(M 2 0*(M 3 2*M 4 3-M 3 3*M 4 2)-M 2 2*(M 3 0*M 4 3-M 3 3*M 4 0)+M 2 3*(M 3 0*M 4 2-M 3 2*M 4 0))+(M 2 0*(M 3 1*M 4 4-M 3 4*M 4 1)-M 2 1*(M 3 0*M 4 4-M 3 4*M 4 0)+M 2 4*(M 3 0*M 4 1-M 3 1*M 4 0))*(M 2 0*(M 3 1*M 4 4-M 3 4*M 4 1)-M 2 1*(M 3 0*M 4 4-M 3 4*M 4 0)+M 2 4*(M 3 0*M 4 1-M 3 1*M 4 0))+(M 2 0*(M 3 1*M 4 3-M 3 3*M 4 1)-M 2 1*(M 3 0*M 4 3-M 3 3*M 4 0)+M 2 3*(M 3 0*M 4 1-M 3 1*M 4 0))*(M 2 0*(M 3 1*M 4 3-M 3 3*M 4 1)-M 2 1*(M 3 0*M 4 3-M 3 3*M 4 0)+M 2 3*(M 3 0*M 4 1-M 3 1*M 4 0))+(M 2 0*(M 3 1*M 4 2-M 3 2*M 4 1)-M 2 1*(M 3 0*M 4 2-M 3 2*M 4 0)+M 2 2*(M 3 0*M 4 1-M 3 1*M 4 0))*(M 2 0*(M 3 1*M 4 2-M 3 2*M 4 1)-M 2 1*(M 3 0*M 4 2-M 3 2*M 4 0)+M 2 2*(M 3 0*M 4 1-M 3 1*M 4 0))=(M 2 0*(M 3 1*M 4 2-M 3 2*M 4 1)-M 2 1*(M 3 0*M 4 2-M 3 2*M 4 0)+M 2 2*(M 3 0*M 4 1-M 3 1*M 4 0))*(M 2 0*(M 3 1*M 4 2-M 3 2*M 4 1)-M 2 1*(M 3 0*M 4 2-M 3 2*M 4 0)+M 2 2*(M 3 0*M 4 1-M 3 1*M 4 0))+(M 2 0*(M 3 1*M 4 3-M 3 3*M 4 1)-M 2 1*(M 3 0*M 4 3-M 3 3*M 4 0)+M 2 3*(M 3 0*M 4 1-M 3 1*M 4 0))*(M 2 0*(M 3 1*M 4 3-M 3 3*M 4 1)-M 2 1*(M 3 0*M 4 3-M 3 3*M 4 0)+M 2 3*(M 3 0*M 4 1-M 3 1*M 4 0))+(M 2 0*(M 3 1*M 4 4-M 3 4*M 4 1)-M 2 1*(M 3 0*M 4 4-M 3 4*M 4 0)+M 2 4*(M 3 0*M 4 1-M 3 1*M 4 0))*(M 2 0*(M 3 1*M 4 4-M 3 4*M 4 1)-M 2 1*(M 3 0*M 4 4-M 3 4*M 4 0)+M 2 4*(M 3 0*M 4 1-M 3 1*M 4 0))+(M 2 0*(M 3 2*M 4 3-M 3 3*M 4 2)-M 2 2*(M 3 0*M 4 3-M 3 3*M 4 0)+M 2 3*(M 3 0*M 4 2-M 3 2*M 4 0))*(M 2 0*(M 3 2*M 4 3-M 3 3*M 4 2)-M 2 2*(M 3 0*M 4 3-M 3 3*M 4 0)+M 2 3*(M 3 0*M 4 2-M 3 2*M 4 0))+(M 2 0*(M 3 2*M 4 4-M 3 4*M 4 2)-M 2 2*(M 3 0*M 4 4-M 3 4*M 4 0)+M 2 4*(M 3 0*M 4 2-M 3 2*M 4 0))*(M 2 0*(M 3 2*M 4 4-M 3 4*M 4 2)-M 2 2*(M 3 0*M 4 4-M 3 4*M 4 0)+M 2 4*(M 3 0*M 4 2-M 3 2*M 4 0))+(M 2 0*(M 3 3*M 4 4-M 3 4*M 4 3)-M 2 3*(M 3 0*M 4 4-M 3 4*M 4 0)+M 2 4*(M 3 0*M 4 3-M 3 3*M 4 0))*(M 2 0*(M 3 3*M 4 4-M 3 4*M 4 3)-M 2 3*(M 3 0*M 4 4-M 3 4*M 4 0)+M 2 4*(M 3 0*M 4 3-M 3 3*M 4 0))+(M 2 1*(M 3 2*M 4 3-M 3 3*M 4 2)-M 2 2*(M 3 1*M 4 3-M 3 3*M 4 1)+M 2 3*(M 3 1*M 4 2-M 3 2*M 4 1))*(M 2 1*(M 3 2*M 4 3-M 3 3*M 4 2)-M 2 2*(M 3 1*M 4 3-M 3 3*M 4 1)+M 2 3*(M 3 1*M 4 2-M 3 2*M 4 1))+(M 2 1*(M 3 2*M 4 4-M 3 4*M 4 2)-M 2 2*(M 3 1*M 4 4-M 3 4*M 4 1)+M 2 4*(M 3 1*M 4 2-M 3 2*M 4 1))*(M 2 1*(M 3 2*M 4 4-M 3 4*M 4 2)-M 2 2*(M 3 1*M 4 4-M 3 4*M 4 1)+M 2 4*(M 3 1*M 4 2-M 3 2*M 4 1))+(M 2 1*(M 3 3*M 4 4-M 3 4*M 4 3)-M 2 3*(M 3 1*M 4 4-M 3 4*M 4 1)+M 2 4*(M 3 1*M 4 3-M 3 3*M 4 1))*(M 2 1*(M 3 3*M 4 4-M 3 4*M 4 3)-M 2 3*(M 3 1*M 4 4-M 3 4*M 4 1)+M 2 4*(M 3 1*M 4 3-M 3 3*M 4 1))+(M 2 2*(M 3 3*M 4 4-M 3 4*M 4 3)-M 2 3*(M 3 2*M 4 4-M 3 4*M 4 2)+M 2 4*(M 3 2*M 4 3-M 3 3*M 4 2))*(M 2 2*(M 3 3*M 4 4-M 3 4*M 4 3)-M 2 3*(M 3 2*M 4 4-M 3 4*M 4 2)+M 2 4*(M 3 2*M 4 3-M 3 3*M 4 2)):=by ac_rfl
  rw [e]; exact con_le (con5 (M 2 0) (M 2 1) (M 2 2) (M 2 3) (M 2 4) (M 3 0*M 4 1-M 3 1*M 4 0) (M 3 0*M 4 2-M 3 2*M 4 0) (M 3 0*M 4 3-M 3 3*M 4 0) (M 3 0*M 4 4-M 3 4*M 4 0) (M 3 1*M 4 2-M 3 2*M 4 1) (M 3 1*M 4 3-M 3 3*M 4 1) (M 3 1*M 4 4-M 3 4*M 4 1) (M 3 2*M 4 3-M 3 3*M 4 2) (M 3 2*M 4 4-M 3 4*M 4 2) (M 3 3*M 4 4-M 3 4*M 4 3)) (by repeat (first | exact hsq _ | apply Int.add_nonneg)) n2.2.1 Q n2.2.2.2 (by decide)
 exact Int.le_trans (mul_le X Y hc.2 (by decide)) (by decide)
theorem had60 (M:Nat→Nat→Int) (h:∀i,i < 5→∀j,j < 5→(M i j).natAbs≤60):(dk M id 4*dk M id 5).natAbs≤9223372036854775807:=by
 have hsq:∀x:Int,0≤x*x:=fun x=>by rcases Int.le_total 0 x with h | h; exact Int.mul_nonneg h h; exact Int.mul_nonneg_of_nonpos_of_nonpos h h
 have e:dk M id 4*dk M id 5*(dk M id 4*dk M id 5)=(dk M id 4*dk M id 4)*(dk M id 5*dk M id 5):=by grind
 refine root_le (K:=42998169600000000*1889568000000000000000) ?_ (by decide)
 rw [e]
 exact mul_le (had4 h) (had5 h) (hsq _) (by decide)
end Go.Proofs.YtfhjjpiakffagaaGreatDoor.Lin
namespace Go.Proofs.YtfhjjpiakffagaaGreatDoor
open Go.RowKit Lin
attribute [local go_sem ↓] Go.wp_at_zero Go.wp_at_succ
theorem bd60 {c:Nat} {m:List (List Int)} (hx:Mx c 60 m):Bd (mOf m) m.length c:=bd_of hx (by decide) had60
theorem field1 (a b c d:Value) (w:World):(Instr.field 101 (.agg #[a,b,c,d]) 1).run Tryz.prog w=.ok b w:=by kernel_rfl
set_option maxRecDepth 100000 in
set_option maxHeartbeats 800000 in
theorem rankP_any (B c:Nat) (m:List (List Int)) (v:Value) (w:World) (hx:Mx c 60 m) (hv:Mat B 22 3 w v m) (hm:m.length≤500) (hm0:1≤m.length) :
  Calls Tryz.prog 80 #[v,.int .i64 c] w fun e w'=>e=.returned (.int .i64 ((pickL c m).length:Nat))∧Below w.heap.size w w':=by
 obtain ⟨ao,cap,hvv,hlc,hcm⟩:=mat_open hv
 subst hvv
 have hc5:=hx.c5
 have hc1:=hx.c1
 have HR:Hid (Calls Tryz.prog 84 #[.slice ao m.length cap,.int .i64 c] w fun e w'=>∃ro rc po pc val sgn,e=.returned (.agg #[.slice ro m.length rc,.slice po (pickL c m).length pc,.int .i64 val,.int .i64 sgn])∧Below w.heap.size w w'):=by
  refine (reduce_any B c m _ w hv hm hm0 hc1 (by omega) hx.row (bd60 hx)).mono ?_
  rintro e w' ⟨M',C,k,sgn,hr,rv,pv,rfl,h1,h2,h3⟩
  obtain ⟨ro,rc,e1,_,_⟩:=mat_open h1
  obtain ⟨po,pc,e2,_,_⟩:=sl_open h2
  have hk:=red_rank hr
  simp only [List.length_map,List.length_range,rowsOf] at e1 e2
  rw [hk] at e2
  exact ⟨ro,rc,po,pc,_,_,by rw [e1,e2],h3⟩
 clear hv
 go_enter Tryz.func80,Tryz.ntmps80
 go_wp2_with fail
 refine (HR.out).mono ?_
 rintro e w2 ⟨ro,rc,po,pc,val,sgn,rfl,hb⟩
 have HB:Hid (Below w.heap.size w w2):=hb
 clear hb
 have hfl:=field1 (.slice ro m.length rc) (.slice po (pickL c m).length pc) (.int .i64 val) (.int .i64 sgn) w2
 go_wp2
 go_ret
 exact ⟨rfl,HB.out⟩
set_option maxRecDepth 100000 in
set_option maxHeartbeats 800000 in
theorem detP_any (B:Nat) (m:List (List Int)) (v:Value) (w:World) (hx:Mx m.length 60 m) (hv:Mat B 22 3 w v m) (hm0:1≤m.length) :
  Calls Tryz.prog 60 #[v] w fun e w'=>e=.returned (.int .i64 (detL m))∧Below w.heap.size w w':=by
 obtain ⟨ao,cap,hvv,hlc,hcm⟩:=mat_open hv
 subst hvv
 have hc5:=hx.c5
 have hc1:=hx.c1
 have HR:Hid (Calls Tryz.prog 84 #[.slice ao m.length cap,.int .i64 m.length] w fun e w'=>∃ro rc po k pc val sgn,e=.returned (.agg #[.slice ro m.length rc,.slice po k pc,.int .i64 val,.int .i64 sgn])∧k≤m.length∧
   (if k < m.length then 0 else sgn*val)=detL m∧(k=m.length→(sgn*val).natAbs≤9223372036854775807)∧Below w.heap.size w w'):=by
  refine (reduce_any B m.length m _ w hv (by omega) hm0 hc1 (by omega) hx.row (bd60 hx)).mono ?_
  rintro e w' ⟨M',C,k,sgn,hr,rv,pv,rfl,h1,h2,h3⟩
  obtain ⟨ro,rc,e1,_,_⟩:=mat_open h1
  obtain ⟨po,pc,e2,_,_⟩:=sl_open h2
  have hd:=red_det hr
  simp only [List.length_map,List.length_range,rowsOf] at e1 e2
  refine ⟨ro,rc,po,k,pc,_,_,by rw [e1,e2],hr.done.kn,hd,fun hk=>?_,h3⟩
  have hb:=dk_bd (B:=60) (k:=k) (M:=M') (C:=C) (fun i hi b hb=>red_entry hx hr i (by omega) _ (hr.done.rise.2 b hb))
  have hf:fb 60 k≤fb 60 5:=fb_mono (by decide) (by omega)
  have h5:fb 60 5=93312000000:=by decide
  rcases hr.one with e | e <;> rw [e] <;> simp <;> omega
 clear hv hx
 go_enter Tryz.func60,Tryz.ntmps60
 go_wp2_with fail
 refine (HR.out).mono ?_
 rintro e w2 ⟨ro,rc,po,k,pc,val,sgn,rfl,hk,hd,hbd,hb⟩
 have HB:Hid (Below w.heap.size w (w2.alloc (.cells #[.slice ro m.length rc,.slice po k pc,.int .i64 val,.int .i64 sgn] 101))):=hb.alloc hb.size _
 have HD:Hid ((if k < m.length then 0 else sgn*val)=detL m):=hd
 have HBD:Hid (k=m.length→(sgn*val).natAbs≤9223372036854775807):=hbd
 clear hb hd hbd
 by_cases hkn:k < m.length
 ·have hkI:(k:Int) < (m.length:Int):=by omega
  go_wp2
  go_ret
  exact ⟨by rw [←HD.out,if_pos hkn]; rfl,HB.out⟩
 ·have hkI:¬(k:Int) < (m.length:Int):=by omega
  go_wp2
  go_ret
  have h1:=HBD.out (by omega)
  refine ⟨?_,HB.out⟩
  rw [←HD.out,if_neg hkn]
  have h2:=IntWalk.wrap64_in (sgn*val) ⟨by omega,by omega⟩
  rw [h2]; rfl
end Go.Proofs.YtfhjjpiakffagaaGreatDoor
namespace Go.Proofs.YtfhjjpiakffagaaGreatDoor
open Go.RowKit
attribute [local go_sem ↓] Go.wp_at_zero Go.wp_at_succ
theorem anyK_contains (zs:List Int) (x:Int):zs.any (fun z=>z == x)=zs.contains x:=by
 rw [Bool.eq_iff_iff]; simp
theorem anyK_snoc {α:Type} {p:α→Bool} {l:List α} {d:α} {k:Nat} (h:k < l.length) (h0:(l.take k).any p=false):(l.take (k+1)).any p=p (l.getD k d):=by
 rw [List.take_succ_eq_append_getElem h,List.any_append,h0]; simp [h]
theorem anyK_get {α:Type} {p:α→Bool} {l:List α} {d:α} {k:Nat} (h:k < l.length) (h0:p (l.getD k d)=true):l.any p=true:=
 List.any_eq_true.2 ⟨l.getD k d,by simp [h],h0⟩
set_option maxRecDepth 100000 in
set_option maxHeartbeats 400000 in
theorem indexK_any (B:Nat) (x:Int) (zs:List Int) (v:Value) (w:World) (hv:Sl B 3 w v (ints zs)) :
  Calls Tryz.prog 145 #[v,.int .i64 x] w fun e w'=>∃k:Int,e=.returned (.int .i64 k)∧decide (0≤k)=zs.contains x∧w'=w:=by
 obtain ⟨ao,cap,hvv,hlc,hcm⟩:=sl_open hv
 subst hvv
 have HV:Hid (Sl B 3 w (.slice ao zs.length cap) (ints zs)):=hv
 clear hv
 rw [←anyK_contains]
 go_enter Tryz.func145,Tryz.ntmps145
 go_wp2
 go_loopw [8,5] (fun i _ wr=>∃k:Nat,k≤zs.length∧i=.int .i64 k∧(zs.take k).any (fun z=>z == x)=false∧wr=w) (fun i _ _=>zs.length-(intOf i).toNat)
 case atStart=>exact ⟨0,Nat.zero_le _,rfl,by simp,rfl⟩
 case round=>
  obtain ⟨k,hk,rfl,hno,rfl⟩:=hrel
  have HN:Hid ((zs.take k).any (fun z=>z == x)=false):=hno
  clear hno
  by_cases hlt:k < zs.length
  ·obtain ⟨b,o,cp,hs,hc1,hcc⟩:=sl_cell HV.out hlt
   simp only [Value.slice.injEq] at hs
   obtain ⟨rfl,_,rfl⟩:=hs
   have HS1:Hid ((zs.take (k+1)).any (fun z=>z == x)=(zs.getD k 0 == x)):=anyK_snoc (p:=fun z=>z == x) hlt HN.out
   have HG:Hid ((zs.getD k 0 == x)=true→zs.any (fun z=>z == x)=true):=fun h=>anyK_get (p:=fun z=>z == x) hlt h
   generalize zs.getD k 0=z at *
   cases hf:(x == z)
   ·have HF:Hid ((z == x)=false):=by rw [beq_eq_false_iff_ne] at hf ⊢; exact fun e=>hf e.symm
    go_wp2
    go_roundw
    case rel=>exact ⟨k+1,by omega,by go_num,by rw [HS1.out]; exact HF.out,trivial⟩
    case measure=>simp [intOf]; omega
   ·have HF:Hid ((z == x)=true):=by rw [beq_iff_eq] at hf ⊢; exact hf.symm
    have HK:Hid (decide ((0:Int)≤(k:Int))=true):=decide_eq_true (by omega)
    go_wp2
    go_ret
    exact ⟨k,rfl,by rw [HK.out,HG.out HF.out],rfl⟩
  ·have hke:zs.take k=zs:=List.take_of_length_le (by omega)
   have HE:Hid (zs.any (fun z=>z == x)=false):=by rw [←hke]; exact HN.out
   go_wp2
   go_ret
   exact ⟨-1,rfl,by rw [HE.out]; rfl,rfl⟩
set_option maxRecDepth 100000 in
theorem containsK_any (B:Nat) (x:Int) (zs:List Int) (v:Value) (w:World) (hv:Sl B 3 w v (ints zs)) :
  Calls Tryz.prog 141 #[v,.int .i64 x] w fun e w'=>e=.returned (.bool (zs.contains x))∧w'=w:=by
 obtain ⟨ao,cap,hvv,hlc,hcm⟩:=sl_open hv
 subst hvv
 have HI:Hid (Calls Tryz.prog 145 #[.slice ao zs.length cap,.int .i64 x] w fun e w'=>∃k:Int,e=.returned (.int .i64 k)∧decide (0≤k)=zs.contains x∧w'=w):=indexK_any B x zs _ w hv
 clear hv
 generalize zs.contains x=c at *
 go_enter Tryz.func141,Tryz.ntmps141
 go_wp2_with fail
 refine HI.out.mono ?_
 rintro e w' ⟨k,rfl,hk,rfl⟩
 have HK:Hid (decide (0≤k)=c):=hk
 clear hk
 go_wp2
 go_ret
 exact ⟨ret_bool HK.out,rfl⟩
end Go.Proofs.YtfhjjpiakffagaaGreatDoor
namespace Go.Proofs.YtfhjjpiakffagaaGreatDoor
open Go.RowKit Lin
attribute [local go_sem ↓] Go.wp_at_zero Go.wp_at_succ
def nv (val:Int) (f:Nat) (D:Nat→Int) (C:Nat→Nat):Nat→Nat→Int
 | 0=>fun j=>if j=f then val else 0
 | t+1=>fun j=>if j=C t then-D t else nv val f D C t j
theorem nv_off {val:Int} {f:Nat} {D:Nat→Int} {C:Nat→Nat} {j:Nat} : ∀{t},(∀a,a < t→C a≠j)→nv val f D C t j=if j=f then val else 0
 | 0,_=>rfl
 | t+1,h=>by
  unfold nv
  rw [if_neg (fun e=>h t (by omega) e.symm)]
  exact nv_off fun a ha=>h a (by omega)
theorem nv_at {val:Int} {f:Nat} {D:Nat→Int} {C:Nat→Nat} : ∀{t a},a < t→(∀a b,a < b→b < t→C a < C b)→nv val f D C t (C a)=- D a
 | t+1,a,ha,h=>by
  unfold nv
  by_cases e:a=t
  ·subst e; rw [if_pos rfl]
  ·have:=h a t (by omega) (by omega)
   rw [if_neg (by omega)]
   exact nv_at (by omega) fun a b h1 h2=>h a b h1 (by omega)
theorem nv_bd {val:Int} {f:Nat} {D:Nat→Int} {C:Nat→Nat} {b:Nat} : ∀{t j},val.natAbs≤b→(∀a,a < t→(D a).natAbs≤b)→(nv val f D C t j).natAbs≤b
 | 0,j,h,_=>by unfold nv; split; exact h; simp
 | t+1,j,h,hd=>by
  unfold nv
  split
  ·have:=hd t (by omega); omega
  ·exact nv_bd h fun a ha=>hd a (by omega)
theorem rows_at {n c:Nat} {mat:Nat→Nat→Int} {i:Nat} (h:i < n):(rowsOf n c mat).getD i []=(List.range c).map (mat i):=by simp [rowsOf,h]
def freesT (k:Nat) (C:Nat→Nat) (q:Nat):List Nat:=(List.range q).filter fun f=>!(((List.range k).map fun b=>(C b:Int)).contains (f:Int))
def kvec (M':Nat→Nat→Int) (C:Nat→Nat) (c k f:Nat):List Int:=low ((List.range c).map (nv (dk M' C k) f (fun a=>rr M' C k a f) C k))
theorem freesT_in {k:Nat} {C:Nat→Nat} {q:Nat} (h:((List.range k).map fun b=>(C b:Int)).contains (q:Int)=true):freesT k C (q+1)=freesT k C q:=by
 unfold freesT
 rw [List.range_succ,List.filter_append]
 simp only [List.filter_cons,List.filter_nil,h]
 simp
theorem freesT_out {k:Nat} {C:Nat→Nat} {q:Nat} (h:((List.range k).map fun b=>(C b:Int)).contains (q:Int)=false):freesT k C (q+1)=freesT k C q ++ [q]:=by
 unfold freesT
 rw [List.range_succ,List.filter_append]
 simp only [List.filter_cons,List.filter_nil,h]
 simp
theorem pivot_has {k:Nat} {C:Nat→Nat} {q:Nat} : ((List.range k).map fun b=>(C b:Int)).contains (q:Int)=true↔∃b,b < k∧C b=q:=by
 rw [List.contains_iff_mem,List.mem_map]
 constructor
 ·rintro ⟨b,h1,h2⟩; exact ⟨b,by simpa using h1,by omega⟩
 ·rintro ⟨b,h1,h2⟩; exact ⟨b,by simpa using h1,by omega⟩
theorem freesT_len {k c:Nat} {C:Nat→Nat} (hr:Rising k c C):(freesT k C c).length+k=c:=by
 have key:∀q,q≤c→∃t,t≤k∧(∀b,b < t→C b < q)∧(∀b,t≤b→b < k→q≤C b)∧(freesT k C q).length+t=q:=by
  intro q
  induction q with
  | zero=>intro _; exact ⟨0,Nat.zero_le _,fun b hb=>absurd hb (by omega),fun b _ _=>Nat.zero_le _,by simp [freesT]⟩
  | succ q ih=>
   intro hq
   obtain ⟨t,h1,h2,h3,h4⟩:=ih (by omega)
   cases hc:((List.range k).map fun b=>(C b:Int)).contains (q:Int) with
   | true=>
    obtain ⟨b,hb,e⟩:=pivot_has.1 hc
    have htb:b=t:=by
     apply Classical.byContradiction
     intro hne
     by_cases h:b < t
     ·have:=h2 b h; omega
     ·have h5:=h3 t (Nat.le_refl _) (by omega)
      have h6:=hr.1 t b (by omega) hb
      omega
    subst htb
    refine ⟨b+1,by omega,fun b' hb'=>?_,fun b' hb' hk'=>?_,by rw [freesT_in hc]; omega⟩
    ·by_cases e2:b'=b
     ·subst e2; omega
     ·have:=h2 b' (by omega); omega
    ·have:=hr.1 b b' (by omega) hk'; omega
   | false=>
    refine ⟨t,h1,fun b hb=>?_,fun b hb hk=>?_,by rw [freesT_out hc]; simp; omega⟩
    ·have:=h2 b hb; omega
    ·have h5:=h3 b hb hk
     have:C b≠q:=fun e=>by
      rw [pivot_has.2 ⟨b,hk,e⟩] at hc; simp at hc
     omega
 obtain ⟨t,h1,h2,h3,h4⟩:=key c (Nat.le_refl _)
 have:t=k:=by
  apply Classical.byContradiction
  intro hne
  have h5:=h3 t (Nat.le_refl _) (by omega)
  have:=hr.2 t (by omega)
  omega
 omega
theorem owns_lowK {B B' n:Nat} {e:TypeId} {w:World} {v:Value} {xs:List Value} (h:w.ownsRow B e 1 v n xs) (hB:B'≤B):w.ownsRow B' e 1 v n xs:=by
 refine ⟨h.1,?_⟩
 rcases h.2 with q | ⟨b,cap,cur,rfl,r1,r2,r3⟩
 ·exact Or.inl q
 ·exact Or.inr ⟨b,cap,cur,rfl,by omega,r2,r3⟩
def Rwz (B:Nat) (w:World) (v:Value) (m:List (List Int)):Prop:=
 ∃vs,vs.length=m.length∧w.ownsRow B 22 1 v m.length vs∧∀i,i < m.length→Sl 0 3 w (vs.getD i (.slice none 0 0)) (ints (m.getD i []))
theorem Rwz.nil (B:Nat) (w:World):Rwz B w (.slice none 0 0) []:=⟨[],rfl,World.ownsRow_nil _ _ _ _,fun i hi=>absurd hi (by simp)⟩
theorem Rwz.below {B N:Nat} {w w':World} {v:Value} {m:List (List Int)} (h:Rwz B w v m) (hb:Below N w w') (hN:w.heap.size≤N):Rwz B w' v m:=by
 obtain ⟨vs,h1,h2,h3⟩:=h
 exact ⟨vs,h1,owns_below h2 hb hN,fun i hi=>(h3 i hi).below hb hN⟩
theorem Rwz.rws {B B':Nat} {w:World} {v:Value} {m:List (List Int)} (h:Rwz B w v m) (hB:B'≤B):Rws B' 22 3 w v m:=by
 obtain ⟨vs,h1,h2,h3⟩:=h
 exact ⟨vs,h1,owns_lowK h2 hB,fun i hi=>(h3 i hi).more (Nat.zero_le _)⟩
theorem Rwz.push {B:Nat} {w w':World} {v v' u:Value} {m:List (List Int)} {vs:List Value} {zs:List Int} (h1:vs.length=m.length) (h2:w.ownsRow B 22 1 v m.length vs)
  (h3:∀i,i < m.length→Sl 0 3 w (vs.getD i (.slice none 0 0)) (ints (m.getD i []))) (hu:Sl 0 3 w u (ints zs))
  (ho:w'.ownsRow B 22 1 v' (m.length+1) (vs ++ [u])) (hg:w.grownBy w' v.ownBlock):Rwz B w' v' (m ++ [zs]):=by
 refine ⟨vs ++ [u],by simp [h1],by simpa using ho,?_⟩
 obtain ⟨vs',q1,q2,q3⟩:=Rws.push (e2:=22) (e1:=3) (B:=0) (u:=u) (zs:=zs) (by decide) h1 (owns_lowK h2 (Nat.zero_le _)) h3 hu (owns_lowK ho (Nat.zero_le _)) hg
 have hv:=q2.2
 have e:vs'=vs ++ [u]:=by
  have a1:=ho.2
  rcases hv with ⟨e1,e2⟩ | ⟨b,cap,cur,e1,r1,r2,r3,r4,r5,r6⟩
  ·simp at e2
  ·rcases a1 with ⟨f1,f2⟩ | ⟨b',cap',cur',f1,s1,s2,s3,s4,s5,s6⟩
   ·simp at f2
   ·rw [e1] at f1
    simp only [Value.slice.injEq,Option.some.injEq,Addr.mk.injEq,and_true] at f1
    obtain ⟨rfl,_,rfl⟩:=f1
    rw [r2] at s2
    simp only [Option.some.injEq,Obj.cells.injEq,and_true] at s2
    subst s2
    rw [←r6,←s6]
    simp
 rw [←e]
 exact q3
set_option maxRecDepth 100000 in
set_option maxHeartbeats 2000000 in
theorem kernelP_any0 (B c:Nat) (m:List (List Int)) (v:Value) (w:World) (hx:Mx c 60 m) (hv:Mat B 22 3 w v m) (hm:m.length≤500) :
  Calls Tryz.prog 126 #[v,.int .i64 c] w fun e w'=>∃M' C k sgn,Red (mOf m) m.length c M' C k sgn∧∃u,e=.returned u∧Rws w.heap.size 22 3 w' u ((freesT k C c).map (kvec M' C c k))∧(∀l∈(freesT k C c).map (kvec M' C c k),l.length=c∧∀z∈l,z.natAbs≤1000000000000)∧Below w.heap.size w w':=by
 obtain ⟨i3,hi3,hz30,hz31,hz32⟩:=info_parts Tryz.info22
 obtain ⟨ao,cap,hvv,hlc,hcm⟩:=mat_open hv
 subst hvv
 have hc5:=hx.c5
 have hc1:=hx.c1
 have HR:Hid (Calls Tryz.prog 84 #[.slice ao m.length cap,.int .i64 c] w fun e w'=>∃M' C k sgn,Red (mOf m) m.length c M' C k sgn∧∃ro rc po pc,e=.returned (.agg #[.slice ro m.length rc,.slice po k pc,.int .i64 (dk M' C k),.int .i64 sgn])∧
   Mat w.heap.size 22 3 w' (.slice ro m.length rc) (rowsOf m.length c (rr M' C k))∧Sl w.heap.size 3 w' (.slice po k pc) (ints ((List.range k).map fun b=>(C b:Int)))∧Below w.heap.size w w'):=by
  refine (reduce_any0 B c m _ w hv hm hc1 (by omega) hx.row (bd60 hx)).mono ?_
  rintro e w' ⟨M',C,k,sgn,hr,rv,pv,rfl,h1,h2,h3⟩
  obtain ⟨ro,rc,e1,_,_⟩:=mat_open h1
  obtain ⟨po,pc,e2,_,_⟩:=sl_open h2
  simp only [List.length_map,List.length_range,rowsOf] at e1 e2
  subst e1 e2
  exact ⟨M',C,k,sgn,hr,ro,rc,po,pc,rfl,h1,h2,h3⟩
 have HX:Hid (Mx c 60 m):=hx
 clear hv hx
 go_enter Tryz.func126,Tryz.ntmps126
 go_wp2_with fail
 refine (HR.out).mono ?_
 rintro e w2 ⟨M',C,k,sgn,hred,ro,rc,po,pc,rfl,hmat,hpiv,hb⟩
 obtain ⟨_,_,hq1,hq2,hq3⟩:=mat_open hmat
 simp only [Value.slice.injEq,rowsOf,List.length_map,List.length_range] at hq1 hq2
 obtain ⟨rfl,_,rfl⟩:=hq1
 have HRD:Hid (Red (mOf m) m.length c M' C k sgn):=hred
 have hkn:=hred.done.kn
 have hkc:=rising_le hred.done.rise
 have hrk:=red_rank hred
 have HRK:Hid (k=(pickL c m).length):=hrk
 have HVB:Hid (k≤4→(dk M' C k).natAbs≤1000000000000∧∀i,i < m.length→∀j,j < c→(rr M' C k i j).natAbs≤1000000000000):=by
  intro hk4
  have h5:fb 60 5=93312000000:=by decide
  have h4:fb 60 4=311040000:=by decide
  have m1:fb 60 k≤fb 60 4:=fb_mono (by decide) hk4
  have m2:fb 60 (k+1)≤fb 60 5:=fb_mono (by decide) (by omega)
  have hb:=dk_bd (B:=60) (k:=k) (M:=M') (C:=C) (fun i hi b hb=>red_entry HX.out hred i (by omega) _ (hred.done.rise.2 b hb))
  refine ⟨by omega,fun i hi j hj=>?_⟩
  have:=rr_bd (B:=60) (n:=m.length) (c:=c) (k:=k) (i:=i) (j:=j) (M:=M') (C:=C) (by decide) (red_entry HX.out hred) hkn hred.done.rise.2 hi hj
  omega
 obtain ⟨w3,hw3⟩:∃w3,w3=w2.alloc (.cells #[.slice ro m.length rc,.slice po k pc,.int .i64 (dk M' C k),.int .i64 sgn] 101):=⟨_,rfl⟩
 have HB3:Hid (Below w.heap.size w w3):=by rw [hw3]; exact hb.alloc hb.size _
 have HM3:Hid (Mat w.heap.size 22 3 w3 (.slice ro m.length rc) (rowsOf m.length c (rr M' C k))):=by rw [hw3]; exact hmat.below ((Below.refl _ _).alloc (Nat.le_refl _) _) (Nat.le_refl _)
 have HP3:Hid (Sl w.heap.size 3 w3 (.slice po k pc) (ints ((List.range k).map fun b=>(C b:Int)))):=by rw [hw3]; exact hpiv.alloc _
 have HC3:Hid (w3.heap[w2.heap.size]?=some (.cells #[.slice ro m.length rc,.slice po k pc,.int .i64 (dk M' C k),.int .i64 sgn] 101 (0,0))):=by rw [hw3]; exact alloc_at _ _
 have HW3:Hid (w3=w2.alloc (.cells #[.slice ro m.length rc,.slice po k pc,.int .i64 (dk M' C k),.int .i64 sgn] 101)):=hw3
 have HS3:Hid (w2.heap.size < w3.heap.size):=by rw [hw3]; show _ < _; simp
 clear hred hmat hpiv hb hrk hw3
 have hkc':k≤c:=hkc
 have c0:w3.cell? ⟨w2.heap.size,0,none⟩=some (.slice ro m.length rc):=by simp [World.cell?,HC3.out]
 have c1:w3.cell? ⟨w2.heap.size,1,none⟩=some (.slice po k pc):=by simp [World.cell?,HC3.out]
 have c2:w3.cell? ⟨w2.heap.size,2,none⟩=some (.int .i64 (dk M' C k)):=by simp [World.cell?,HC3.out]
 have hs3:=HS3.out
 obtain ⟨R,hR⟩:∃R,R=w2.heap.size:=⟨_,rfl⟩
 obtain ⟨val,hval⟩:∃val,val=dk M' C k:=⟨_,rfl⟩
 have HVAL:Hid (val=dk M' C k):=hval
 have hww:=HW3.out
 rw [←hval] at c2 hww
 rw [←hR] at c0 c1 c2 hs3
 clear HC3 HS3 HW3
 have hmk:=run_make_row' (P:=Tryz.prog) 22 3 (.int .i64 0) 8 Tryz.underlying22 Tryz.info3 rfl .i64 .i64 c (by omega) (by omega)
 rw [←hval]
 clear hval
 go_wp2
 rw [←hww,←hR]
 clear hww hR
 go_loopw [15,6,7,8,9,10] (fun i o _ _ _ _ wr=>∃q:Nat,q≤c∧i=.int .i64 q∧Below w3.heap.size w3 wr∧Rwz w3.heap.size wr o ((freesT k C q).map (kvec M' C c k))∧(freesT k C q).length≤q∧∀l∈(freesT k C q).map (kvec M' C c k),l.length=c∧∀z∈l,z.natAbs≤1000000000000) (fun i _ _ _ _ _ _=>c-(intOf i).toNat)
 case atStart=>exact ⟨0,Nat.zero_le _,rfl,Below.refl _ _,Rwz.nil _ _,by simp [freesT],fun l hl=>by simp [freesT] at hl⟩
 case round=>
  obtain ⟨q,hq,rfl,hbel,hrw,hfl,hok⟩:=hrel
  have HBQ:Hid (Below w3.heap.size w3 wr):=hbel
  have HRQ:Hid (Rwz w3.heap.size wr u6 ((freesT k C q).map (kvec M' C c k))):=hrw
  have HOK:Hid (∀l∈(freesT k C q).map (kvec M' C c k),l.length=c∧∀z∈l,z.natAbs≤1000000000000):=hok
  have d0:wr.cell? ⟨R,0,none⟩=some (.slice ro m.length rc):=(hbel.cell hs3).trans c0
  have d1:wr.cell? ⟨R,1,none⟩=some (.slice po k pc):=(hbel.cell hs3).trans c1
  have d2:wr.cell? ⟨R,2,none⟩=some (.int .i64 val):=(hbel.cell hs3).trans c2
  have hRw:R < wr.heap.size:=Nat.lt_of_lt_of_le hs3 hbel.size
  clear hbel hrw hok
  by_cases hqc:q < c
  ·have hqI:(q:Int) < (c:Int):=by omega
   have HCN:Hid (Calls Tryz.prog 141 #[.slice po k pc,.int .i64 q] wr fun e w'=>e=.returned (.bool (((List.range k).map fun b=>(C b:Int)).contains (q:Int)))∧w'=wr):=
    containsK_any w.heap.size q _ _ wr (HP3.out.below HBQ.out (Nat.le_refl _))
   cases hcn:((List.range k).map fun b=>(C b:Int)).contains (q:Int) with
   | true=>
    have HF:Hid (freesT k C (q+1)=freesT k C q):=freesT_in hcn
    rw [hcn] at HCN
    clear hcn
    go_wp2_with fail
    refine HCN.out.mono ?_
    rintro e w4 ⟨rfl,rfl⟩
    go_wp2
    go_roundw
    case rel=>exact ⟨q+1,by omega,by go_num,HBQ.out,by rw [HF.out]; exact HRQ.out,by rw [HF.out]; omega,by rw [HF.out]; exact HOK.out⟩
    case measure=>simp [intOf]; omega
   | false=>
    have HF:Hid (freesT k C (q+1)=freesT k C q ++ [q]):=freesT_out hcn
    have HNP:Hid (∀b,b < k→C b≠q):=fun b hb e=>by rw [pivot_has.2 ⟨b,hb,e⟩] at hcn; simp at hcn
    have HK4:Hid (k≤4):=by
     have h1:=freesT_len HRD.out.done.rise
     have h2:q∈freesT k C c:=by unfold freesT; rw [List.mem_filter]; exact ⟨by simpa using hqc,by simp only [hcn]; rfl⟩
     have h3:=List.length_pos_of_mem h2
     show _≤_
     omega
    rw [hcn] at HCN
    clear hcn
    have hmc:(madeCells #[.int .i64 0] c)[q]?=some (.int .i64 0):=by
     rw [←Array.getElem?_toList,toList_madeCells_one]; simp [hqc]
    have hne:R≠wr.heap.size:=by omega
    have hne':wr.heap.size≠R:=by omega
    have HG0:Hid ((wr.alloc (.cells ((madeCells #[.int .i64 0] c).setIfInBounds q (.int .i64 val)) 3)).rowIs wr.heap.size 3 c (fun j=>.int .i64 (nv val q (fun a=>rr M' C k a q) C 0 j))∧Below wr.heap.size wr (wr.alloc (.cells ((madeCells #[.int .i64 0] c).setIfInBounds q (.int .i64 val)) 3))):=by
     have e:(wr.alloc (.cells (madeCells #[.int .i64 0] c) 3)).setCell ⟨wr.heap.size,q,none⟩ (.int .i64 val)=wr.alloc (.cells ((madeCells #[.int .i64 0] c).setIfInBounds q (.int .i64 val)) 3):=by simp [go_sem]
     refine ⟨?_,(Below.refl _ _).alloc (Nat.le_refl _) _⟩
     rw [←e]
     exact ((World.rowIs_made wr (.int .i64 0) c 3).set q (.int .i64 val)).congr fun j hj=>by unfold nv; by_cases e:j=q <;> simp [e]
    obtain ⟨w4,hw4⟩:∃w4,w4=wr:=⟨_,rfl⟩
    rw [←hw4] at d0 d1 d2 hRw hne hne' HG0 HCN ⊢
    have HBQ4:Hid (Below w3.heap.size w3 w4):=by rw [hw4]; exact HBQ.out
    have HRQ4:Hid (Rwz w3.heap.size w4 u6 ((freesT k C q).map (kvec M' C c k))):=by rw [hw4]; exact HRQ.out
    clear HBQ HRQ hw4
    go_wp2_with fail
    refine HCN.out.mono ?_
    rintro e w5 ⟨rfl,rfl⟩
    clear HCN
    go_wp2
    go_loopw [32,9,10] (fun i _ _ wr=>∃t:Nat,t≤k∧i=.int .i64 t∧Below w5.heap.size w5 wr∧wr.rowIs w5.heap.size 3 c (fun j=>.int .i64 (nv val q (fun a=>rr M' C k a q) C t j))) (fun i _ _ _=>k-(intOf i).toNat)
    case atStart=>exact ⟨0,Nat.zero_le _,rfl,HG0.out.2,HG0.out.1⟩
    case round=>
     obtain ⟨t,ht,rfl,hbel,hrow⟩:=hrel
     have HB:Hid (Below w5.heap.size w5 wr):=hbel
     have HRW:Hid (wr.rowIs w5.heap.size 3 c (fun j=>.int .i64 (nv val q (fun a=>rr M' C k a q) C t j))):=hrow
     have e0:wr.cell? ⟨R,0,none⟩=some (.slice ro m.length rc):=(hbel.cell hRw).trans d0
     by_cases htk:t < k
     ·obtain ⟨pb,po2,pcp,hs,hp1,hpc⟩:=sl_cell ((HP3.out.below HBQ4.out (Nat.le_refl _)).below hbel (Nat.le_refl _)) (k:=t) (by simpa using htk)
      simp only [Value.slice.injEq,List.length_map,List.length_range] at hs
      obtain ⟨rfl,_,rfl⟩:=hs
      have hg:((List.range k).map fun b=>(C b:Int)).getD t 0=(C t:Int):=by simp [htk]
      rw [hg] at hpc
      have hCt:C t < c:=HRD.out.done.rise.2 t htk
      obtain ⟨rb,ro2,rcp,u,hs2,_,hrc,hru⟩:=mat_cell ((HM3.out.below HBQ4.out (Nat.le_refl _)).below hbel (Nat.le_refl _)) (k:=t) (by simp [rowsOf]; omega)
      simp only [Value.slice.injEq,rowsOf,List.length_map,List.length_range,true_and] at hs2
      obtain ⟨rfl,rfl⟩:=hs2
      rw [rows_at (by omega)] at hru
      obtain ⟨xb,xo,xcp,hs3',hxl,hxc⟩:=sl_cell hru (k:=q) (by simpa using hqc)
      have hg2:((List.range c).map (rr M' C k t)).getD q 0=rr M' C k t q:=by simp [hqc]
      rw [hg2] at hxc
      simp only [List.length_map,List.length_range] at hs3' hxl
      subst hs3'
      have hcl:=hrow.cell (i:=C t) hCt
      have hfz:=hrow.frozen (C t)
      have HBX:=(HVB.out HK4.out).2 t (by omega) q hqc
      obtain ⟨ct,hct⟩:∃ct,ct=C t:=⟨_,rfl⟩
      obtain ⟨x,hxx⟩:∃x,x=rr M' C k t q:=⟨_,rfl⟩
      have HCT:Hid (ct=C t):=hct
      have HXX:Hid (x=rr M' C k t q):=hxx
      rw [←hct] at hpc hCt hcl hfz
      rw [←hxx] at hxc HBX
      generalize nv val q (fun a=>rr M' C k a q) C t ct=old at hcl
      clear hg hg2 hct hxx hrow hbel hru
      go_wp2
      go_roundw
      case rel=>
       refine ⟨t+1,by omega,by go_num,HB.out.setCell (by exact Nat.le_refl _) _,?_⟩
       refine (HRW.out.set ct _).congr fun j _=>?_
       show _=Value.int .i64 (if j=C t then-rr M' C k t q else nv val q (fun a=>rr M' C k a q) C t j)
       rw [←HCT.out,←HXX.out]
       by_cases e:j=ct <;> simp [e]
      case measure=>simp [intOf]; omega
     ·have htk':t=k:=by omega
      subst htk'
      have HB1:Hid (∀z∈(List.range c).map (nv val q (fun a=>rr M' C t a q) C t),z.natAbs≤1000000000000):=by
       intro z hz
       rw [List.mem_map] at hz
       obtain ⟨j,_,rfl⟩:=hz
       have hv:=HVB.out HK4.out
       exact nv_bd (by rw [HVAL.out]; exact hv.1) fun a ha=>hv.2 a (by omega) q hqc
      obtain ⟨L,hLL⟩:∃L,L=(List.range c).map (nv val q (fun a=>rr M' C t a q) C t):=⟨_,rfl⟩
      have HLN:Hid (L.length=c):=by show _=_; rw [hLL]; simp
      have HKV:Hid (kvec M' C c t q=low L):=by show _=_; rw [hLL,HVAL.out]; rfl
      have HSL:Hid (∀B,Sl B 3 wr (.slice (some ⟨w5.heap.size,0,none⟩) c c) (ints L)):=by
       intro B
       refine Sl.row HRW.out (by simp [HLN.out]) (by unfold maxLen; omega) fun i hi=>?_
       rw [ints_get _ _ (by rw [HLN.out]; exact hi),hLL]; simp [hi]
      rw [←hLL] at HB1
      have HB4:Hid (Below w3.heap.size w3 wr):=HBQ4.out.trans (HB.out.mono HBQ4.out.size)
      have HR4:Hid (Rwz w3.heap.size wr u6 ((freesT t C q).map (kvec M' C c t))):=HRQ4.out.below HB.out (Nat.le_refl _)
      have HLL:Hid ((low L).length=c∧∀z∈low L,z.natAbs≤1000000000000):=⟨by simp [low,HLN.out],low_bd HB1.out⟩
      clear hrow hbel hLL HRW HBQ4 HRQ4 d0 d1 d2 e0
      go_wp2_with fail
      refine (primitive_any w.heap.size L _ wr (HSL.out _) (by rw [HLN.out]; omega) (fun z hz=>Nat.le_trans (HB1.out z hz) (by decide))).mono ?_
      rintro e w6 ⟨u,rfl,hs6,hb6⟩
      obtain ⟨uo,uc,hu,_,_⟩:=sl_open (hs6 0)
      rw [HLL.out.1] at hu
      subst hu
      have HS6:Hid (Sl 0 3 w6 (.slice uo c uc) (ints (low L))):=hs6 _
      have HB6:Hid (Below w3.heap.size w3 w6):=HB4.out.trans (hb6.mono HB4.out.size)
      obtain ⟨vs,g1,g2,g3⟩:=HR4.out.below hb6 (Nat.le_refl _)
      have hl0:((freesT t C q).map (kvec M' C c t)).length=(freesT t C q).length:=by simp
      have HML:Hid (((freesT t C q).map (kvec M' C c t)).length=(freesT t C q).length):=hl0
      rw [hl0] at g1 g2 g3
      obtain ⟨fl,hfl2⟩:∃fl,fl=(freesT t C q).length:=⟨_,rfl⟩
      rw [←hfl2] at g1 g2 g3 HML hfl
      have G1:Hid (vs.length=fl):=g1
      have G2:Hid (w6.ownsRow w3.heap.size 22 1 u6 fl vs):=g2
      have G3:Hid (∀i,i < fl→Sl 0 3 w6 (vs.getD i (.slice none 0 0)) (ints (((freesT t C q).map (kvec M' C c t)).getD i []))):=g3
      have HFL:Hid (fl=(freesT t C q).length):=hfl2
      have hsz6:w3.heap.size≤w6.heap.size:=HB6.out.size
      clear hs6 hb6 g1 g2 g3 hl0 hfl2
      go_wp2_with (first | (at_builtin; refine wpList_append_own _ rfl _ _ 24 rfl w3.heap.size 22 i3 (.slice none 0 0) 1 24 Tryz.underlying24 hi3 hz30 hz31 hz32 rfl (by decide) _ _ _ rfl (G2.out.alloc _) ⟨w6.heap.size,0,none⟩ 1 1 [.slice uo c uc] rfl rfl (one_new _ _ _) (one_slice _ _ _) ?d3 ?d4 ?d5 ?_))
      case d3=>unfold maxLen; omega
      case d4=>omega
      case d5=>simp; omega
      intro v' w7 ho hg _
      have R1:Hid (Rwz w3.heap.size w7 v' ((freesT t C (q+1)).map (kvec M' C c t))):=by
       have hp:=Rwz.push (m:=(freesT t C q).map (kvec M' C c t)) (u:=.slice uo c uc) (zs:=low L) (by rw [HML.out]; exact G1.out) (by rw [HML.out]; exact G2.out.alloc _)
        (fun i hi=>(G3.out i (by rw [HML.out] at hi; exact hi)).alloc _) (HS6.out.alloc _) (by rw [HML.out]; exact ho) hg
       show Rwz _ _ _ _
       rw [HF.out,List.map_append,List.map_cons,List.map_nil,HKV.out]
       exact hp
      have R2:Hid (Below w3.heap.size w3 w7):=(HB6.out.alloc hsz6 _).grown hg (by simp; omega) (fun x hx=>(G2.out.lt x hx).1)
      clear ho hg
      go_wp2
      go_roundw
      case rel=>
       refine ⟨q+1,by omega,by go_num,R2.out,R1.out,by rw [HF.out]; simp; have:=HFL.out; omega,?_⟩
       rw [HF.out,List.map_append,List.map_cons,List.map_nil,HKV.out]
       intro l hl
       rcases List.mem_append.1 hl with h | h
       ·exact HOK.out l h
       ·rw [List.mem_singleton] at h; subst h; exact HLL.out
      case measure=>simp [intOf]; omega
  ·have hqc':q=c:=by omega
   subst hqc'
   go_wp2
   go_ret
   refine ⟨M',C,k,sgn,HRD.out,_,rfl,?_,HOK.out,HB3.out.trans (HBQ.out.mono HB3.out.size)⟩
   exact HRQ.out.rws HB3.out.size
end Go.Proofs.YtfhjjpiakffagaaGreatDoor
namespace Go.Proofs.YtfhjjpiakffagaaGreatDoor
open Go.RowKit
theorem owns_row {B b n:Nat} {e:TypeId} {w:World} {f:Nat→Value} {xs:List Value} (h:w.rowIs b e n f) (hB:B≤b) (hn:xs.length=n) (hm:n≤maxLen) (hx:∀i,i < n→xs[i]?=some (f i)) :
  w.ownsRow B e 1 (.slice (some ⟨b,0,none⟩) n n) n xs:=by
 obtain ⟨c,h1,h2,h3⟩:=h
 refine ⟨by omega,Or.inr ⟨b,n,c,rfl,hB,h1,Nat.le_refl _,hm,by omega,?_⟩⟩
 apply List.ext_getElem?
 intro i
 by_cases hi:i < n
 ·rw [List.getElem?_take_of_lt (by omega),hx i hi,Array.getElem?_toList]; exact h3 i hi
 ·rw [List.getElem?_eq_none (by simp; omega),List.getElem?_eq_none (by omega)]
set_option maxRecDepth 100000 in
set_option maxHeartbeats 800000 in
theorem mappedP_own (B:Nat) (l:List Int) (v:Value) (w:World) (hv:Sl B 3 w v (ints l)) (hl:l.length≤1000000) (g:Nat) (d:Int) (hg:g < w.heap.size) (hd:1≤d) (hb:∀z∈l,z.natAbs≤4611686018427387904) (hc:w.cell? ⟨g,0,none⟩=some (.int .i64 d)) :
  Calls Tryz.prog 147 #[v,.func (.func 148) #[] #[.pointer (some ⟨g,0,none⟩)]] w fun e w'=>∃u,e=.returned u∧w'.ownsRow w.heap.size 3 1 u l.length (ints (l.map (fun z=>z.tdiv d)))∧Below w.heap.size w w':=by
 obtain ⟨ao,cap,hvv,hlc,hcm⟩:=sl_open hv
 subst hvv
 have HV:Hid (Sl B 3 w (.slice ao l.length cap) (ints l)):=hv
 have HBD:Hid (∀z∈l,z.natAbs≤4611686018427387904):=hb
 have HC:Hid (w.cell? ⟨g,0,none⟩=some (.int .i64 d)):=hc
 clear hb hc
 clear hv
 have hmk:=run_make_row' (P:=Tryz.prog) 22 3 (.int .i64 0) 8 Tryz.underlying22 Tryz.info3 rfl .i64 .i64 l.length (by omega) (by omega)
 go_enter Tryz.func147,Tryz.ntmps147
 go_wp2
 go_loopw [13] (fun i wr=>∃k:Nat,k≤l.length∧i=.int .i64 k∧wr.rowIs w.heap.size 3 l.length (fun j=>.int .i64 (if j < k then (l.map (fun z=>z.tdiv d)).getD j 0 else 0))∧Below w.heap.size w wr) (fun i _=>l.length-(intOf i).toNat)
 case atStart=>
  refine ⟨0,Nat.zero_le _,rfl,?_,(Below.refl _ _).alloc (Nat.le_refl _) _⟩
  exact (World.rowIs_made w (.int .i64 0) l.length 3).congr fun i hi=>by simp
 case round=>
  obtain ⟨k,hk,rfl,hrow,hbel⟩:=hrel
  have HR:Hid (wr.rowIs w.heap.size 3 l.length (fun j=>.int .i64 (if j < k then (l.map (fun z=>z.tdiv d)).getD j 0 else 0))):=hrow
  have HB:Hid (Below w.heap.size w wr):=hbel
  by_cases hlt:k < l.length
  ·obtain ⟨b,o,cp,hs,hc1,hcc⟩:=sl_cell (HV.out.below hbel (Nat.le_refl _)) hlt
   simp only [Value.slice.injEq] at hs
   obtain ⟨rfl,_,rfl⟩:=hs
   have hfz:=hrow.frozen k
   have hcl:=hrow.cell (i:=k) hlt
   have HF:Hid ((l.map (fun z=>z.tdiv d)).getD k 0=(fun z=>z.tdiv d) (l.getD k 0)):=by show _=_; simp [hlt]
   have hmem:l.getD k 0∈l:=by simp [hlt]
   have HMEM:Hid (l.getD k 0∈l):=hmem
   generalize hxk:l.getD k 0=x at *
   clear hrow hbel hmem hxk
   go_wp2_with fail
   refine (prim1_any x d wr ⟨g,0,none⟩ hd (HBD.out x HMEM.out) ((HB.out.cell hg).trans HC.out)).mono ?_
   rintro e w' ⟨rfl,rfl⟩
   go_wp2
   go_roundw
   case rel=>
    refine ⟨k+1,by omega,by go_num,?_,HB.out.setCell (Nat.le_refl _) _⟩
    refine (HR.out.set k _).congr fun j hj=>?_
    by_cases e1:j=k
    ·subst e1; rw [if_pos rfl,if_pos (by omega),HF.out]
    ·by_cases e2:j < k
     ·rw [if_neg e1,if_pos e2,if_pos (by omega)]
     ·rw [if_neg e1,if_neg e2,if_neg (by omega)]
   case measure=>simp [intOf]; omega
  ·clear hrow hbel
   go_wp2
   go_ret
   refine ⟨_,rfl,?_,HB.out⟩
   refine owns_row HR.out (Nat.le_refl _) (by simp) (by unfold maxLen; omega) fun i hi=>?_
   rw [ints_get _ _ (by simpa using hi),if_pos (by omega)]
set_option maxRecDepth 100000 in
set_option maxHeartbeats 400000 in
theorem primitive_own (B:Nat) (l:List Int) (v:Value) (w:World) (hv:Sl B 3 w v (ints l)) (hl:l.length≤1000000) (hb:∀z∈l,z.natAbs≤4611686018427387904) :
  Calls Tryz.prog 142 #[v] w fun e w'=>∃u,e=.returned u∧w'.ownsRow w.heap.size 3 1 u l.length (ints (Lin.low l))∧Below w.heap.size w w':=by
 obtain ⟨ao,cap,hvv,hlc,hcm⟩:=sl_open hv
 subst hvv
 have HV:Hid (Sl B 3 w (.slice ao l.length cap) (ints l)):=hv
 have HBD:Hid (∀z∈l,z.natAbs≤4611686018427387904):=hb
 clear hv hb
 go_enter Tryz.func142,Tryz.ntmps142
 go_wp2_with fail
 refine (divisor_any B l _ w HV.out HBD.out).mono ?_
 rintro e w1 ⟨rfl,n1,hw1⟩
 have HV1:Hid (Sl B 3 w1 (.slice ao l.length cap) (ints l)):=by rw [hw1]; exact HV.out.drewN n1
 have HB1:Hid (Below w.heap.size w w1):=by rw [hw1]; exact ⟨rfl,rfl,rfl,Nat.le_refl _,fun _ _=>rfl⟩
 have hs1:w.heap.size=w1.heap.size:=by rw [hw1]; rfl
 have HS1:Hid (w.heap.size=w1.heap.size):=hs1
 clear hw1 hs1
 obtain ⟨g,hg⟩:∃g,g=Lin.gc l:=⟨_,rfl⟩
 have HG:Hid (g=Lin.gc l):=hg
 rw [←hg]
 have hgb:g≤4611686018427387904:=by rw [hg]; exact gc_le HBD.out
 clear hg
 have HBA:Hid (Below w.heap.size w (w1.alloc (.cells #[.int .i64 g] 3))):=HB1.out.alloc (by rw [HS1.out]; exact Nat.le_refl _) _
 by_cases h0:g=0
 ·have hgb0:((g:Int) == 0)=true:=by simp [h0]
  have HLZ:Hid (Lin.low l=l):=low_zero (by rw [←HG.out]; exact h0)
  clear h0
  go_wp2_with fail
  refine (clone_any B l _ _ (HV1.out.alloc _) hl).mono ?_
  rintro e w2 ⟨u,rfl,ho,hb2⟩
  have HO:Hid (w2.ownsRow w.heap.size 3 1 u l.length (ints (Lin.low l))):=by rw [HLZ.out]; exact ho.mono HBA.out.size
  have HB2:Hid (Below w.heap.size w w2):=HBA.out.trans (hb2.mono HBA.out.size)
  clear ho hb2
  go_wp2
  go_ret
  exact ⟨_,rfl,HO.out,HB2.out⟩
 ·have hgb0:((g:Int) == 0)=false:=by rw [beq_eq_false_iff_ne]; omega
  have HLP:Hid ((l.map fun z=>z.tdiv (g:Int))=Lin.low l):=by show _=_; rw [HG.out]; exact low_prog (by rw [←HG.out]; omega)
  have hg1:(1:Int)≤(g:Int):=by omega
  clear h0
  go_wp2_with fail
  refine (mappedP_own B l _ _ (HV1.out.alloc _) hl w1.heap.size g (by simp) hg1 HBD.out (by simp)).mono ?_
  rintro e w2 ⟨u,rfl,ho,hb2⟩
  have HO:Hid (w2.ownsRow w.heap.size 3 1 u l.length (ints (Lin.low l))):=by rw [←HLP.out]; exact ho.mono HBA.out.size
  have HB2:Hid (Below w.heap.size w w2):=HBA.out.trans (hb2.mono HBA.out.size)
  clear ho hb2
  go_wp2
  go_ret
  exact ⟨_,rfl,HO.out,HB2.out⟩
end Go.Proofs.YtfhjjpiakffagaaGreatDoor
namespace Go.Proofs.YtfhjjpiakffagaaGreatDoor
open Go.RowKit Lin
attribute [local go_sem ↓] Go.wp_at_zero Go.wp_at_succ
theorem low_len (l:List Int):(low l).length=l.length:=by simp [low]
theorem upr_len (l:List Int):(upr l).length=l.length:=by unfold upr; split <;> simp
def Rwo (B:Nat) (w:World) (v:Value) (m:List (List Int)):Prop:=
 ∃vs,vs.length=m.length∧w.ownsRow B 22 1 v m.length vs∧∀i,i < m.length→w.ownsRow B 3 1 (vs.getD i (.slice none 0 0)) (m.getD i []).length (ints (m.getD i []))
theorem Rwo.nil (B:Nat) (w:World):Rwo B w (.slice none 0 0) []:=⟨[],rfl,World.ownsRow_nil _ _ _ _,fun i hi=>absurd hi (by simp)⟩
theorem Rwo.below {B N:Nat} {w w':World} {v:Value} {m:List (List Int)} (h:Rwo B w v m) (hb:Below N w w') (hN:w.heap.size≤N):Rwo B w' v m:=by
 obtain ⟨vs,h1,h2,h3⟩:=h
 exact ⟨vs,h1,owns_below h2 hb hN,fun i hi=>owns_below (h3 i hi) hb hN⟩
theorem Rwo.low {B B':Nat} {w:World} {v:Value} {m:List (List Int)} (h:Rwo B w v m) (hB:B'≤B):Rwo B' w v m:=by
 obtain ⟨vs,h1,h2,h3⟩:=h
 exact ⟨vs,h1,owns_lowK h2 hB,fun i hi=>owns_lowK (h3 i hi) hB⟩
theorem own_grownK {B n n2:Nat} {w w':World} {v u:Value} {xs ys:List Value} (h:w.ownsRow B 22 1 v n xs) (hu:w.ownsRow B 3 1 u n2 ys) (hg:w.grownBy w' v.ownBlock):w'.ownsRow B 3 1 u n2 ys:=by
 refine ⟨hu.1,?_⟩
 rcases hu.2 with q | ⟨b,cap,cur,rfl,r1,r2,r3⟩
 ·exact Or.inl q
 ·refine Or.inr ⟨b,cap,cur,rfl,r1,?_,r3⟩
  rw [hg.block b (lt_of_block r2) (fun e=>?_)]
  ·exact r2
  ·rcases h.2 with ⟨f1,_⟩ | ⟨b',cap',cur',f1,s1,s2,_⟩
   ·rw [f1] at e; simp [Value.ownBlock] at e
   ·rw [f1] at e
    simp [Value.ownBlock] at e
    subst e
    rw [r2] at s2; simp at s2
theorem Rwo.push {B:Nat} {w w':World} {v v' u:Value} {m:List (List Int)} {vs:List Value} {zs:List Int} (h1:vs.length=m.length) (h2:w.ownsRow B 22 1 v m.length vs)
  (h3:∀i,i < m.length→w.ownsRow B 3 1 (vs.getD i (.slice none 0 0)) (m.getD i []).length (ints (m.getD i []))) (hu:w.ownsRow B 3 1 u zs.length (ints zs))
  (ho:w'.ownsRow B 22 1 v' (m.length+1) (vs ++ [u])) (hg:w.grownBy w' v.ownBlock):Rwo B w' v' (m ++ [zs]):=by
 refine ⟨vs ++ [u],by simp [h1],by simpa using ho,fun i hi=>?_⟩
 by_cases hlt:i < m.length
 ·have e1':(vs ++ [u]).getD i (.slice none 0 0)=vs.getD i (.slice none 0 0):=by
   simp only [List.getD_eq_getElem?_getD]; rw [List.getElem?_append_left (by omega)]
  have e2':(m ++ [zs]).getD i []=m.getD i []:=by
   simp only [List.getD_eq_getElem?_getD]; rw [List.getElem?_append_left (by omega)]
  rw [e1',e2']
  exact own_grownK h2 (h3 i hlt) hg
 ·have hi':i=m.length:=by simp at hi; omega
  subst hi'
  have e1':(vs ++ [u]).getD m.length (.slice none 0 0)=u:=by
   rw [←h1]; simp
  have e2':(m ++ [zs]).getD m.length []=zs:=by simp
  rw [e1',e2']
  exact own_grownK h2 hu hg
end Go.Proofs.YtfhjjpiakffagaaGreatDoor
