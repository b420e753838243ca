import Derived.Test.YtdanomklbiidaaaGreatDoorMgAE
import Derived.Test.YtdanomklbiidaaaGreatDoorMgAA
namespace Go.Proofs.YtdanomklbiidaaaGreatDoor.Lin
theorem cs_step {S X Y a b:Int} (h:S*S≤X*Y) (hX:0≤X) (hY:0≤Y):(S+a*b)*(S+a*b)≤(X+a*a)*(Y+b*b):=by
 have hsq:∀x:Int,0≤x*x:=fun x=>by rcases Int.le_total 0 x with h | h; exact Int.mul_nonneg h h; exact Int.mul_nonneg_of_nonpos_of_nonpos h h
 have key:2*(S*(a*b))≤X*(b*b)+Y*(a*a):=by
  apply Classical.byContradiction
  intro hn
  have hv:0≤X*(b*b)+Y*(a*a):=Int.add_nonneg (Int.mul_nonneg hX (hsq b)) (Int.mul_nonneg hY (hsq a))
  have h1:0 < (2*(S*(a*b))-(X*(b*b)+Y*(a*a)))*(2*(S*(a*b))+(X*(b*b)+Y*(a*a))):=Int.mul_pos (by omega) (by omega)
  have h2:=hsq (X*(b*b)-Y*(a*a))
  have h3:0≤(X*Y-S*S)*((a*b)*(a*b)):=Int.mul_nonneg (by omega) (hsq _)
  grind
 grind
theorem cs (n:Nat) (x y:Nat→Int):0≤sumN n (fun i=>x i*x i)∧0≤sumN n (fun i=>y i*y i)∧sumN n (fun i=>x i*y i)*sumN n (fun i=>x i*y i)≤sumN n (fun i=>x i*x i)*sumN n (fun i=>y i*y i):=by
 have hsq:∀x:Int,0≤x*x:=fun x=>by rcases Int.le_total 0 x with h | h; exact Int.mul_nonneg h h; exact Int.mul_nonneg_of_nonpos_of_nonpos h h
 induction n with
 | zero=>simp [sumN]
 | succ n ih=>
  obtain ⟨h1,h2,h3⟩:=ih
  simp only [sumN]
  exact ⟨Int.add_nonneg h1 (hsq _),Int.add_nonneg h2 (hsq _),cs_step h3 h1 h2⟩
def nth (l:List Int) (i:Nat):Int:=l.getD i 0
theorem sq_le {x:Int} {B:Nat} (h:x.natAbs≤B):x*x≤(B:Int)*B:=by
 have h1:x*x=((x.natAbs*x.natAbs:Nat):Int):=by simp
 rw [h1]
 exact_mod_cast Nat.mul_le_mul h h
theorem root_le {u:Int} {K:Nat} (h:u*u≤(K:Int)) (hK:K < 85070591730234615865843651857942052864):u.natAbs≤9223372036854775807:=by
 apply Classical.byContradiction
 intro hn
 have h1:9223372036854775808≤u.natAbs:=by omega
 have h2:=Nat.mul_le_mul h1 h1
 have h3:u*u=((u.natAbs*u.natAbs:Nat):Int):=by simp
 rw [h3] at h
 omega
theorem lag4 (a0 a1 a2 a3 b0 b1 b2 b3:Int):(a0*b1-a1*b0)*(a0*b1-a1*b0)+(a0*b2-a2*b0)*(a0*b2-a2*b0)+(a0*b3-a3*b0)*(a0*b3-a3*b0)+(a1*b2-a2*b1)*(a1*b2-a2*b1)+(a1*b3-a3*b1)*(a1*b3-a3*b1)+(a2*b3-a3*b2)*(a2*b3-a3*b2)=(a0*a0+a1*a1+a2*a2+a3*a3)*(b0*b0+b1*b1+b2*b2+b3*b3)-(a0*b0+a1*b1+a2*b2+a3*b3)*(a0*b0+a1*b1+a2*b2+a3*b3):=by grind
theorem lag5 (a0 a1 a2 a3 a4 b0 b1 b2 b3 b4:Int):(a0*b1-a1*b0)*(a0*b1-a1*b0)+(a0*b2-a2*b0)*(a0*b2-a2*b0)+(a0*b3-a3*b0)*(a0*b3-a3*b0)+(a0*b4-a4*b0)*(a0*b4-a4*b0)+(a1*b2-a2*b1)*(a1*b2-a2*b1)+(a1*b3-a3*b1)*(a1*b3-a3*b1)+(a1*b4-a4*b1)*(a1*b4-a4*b1)+(a2*b3-a3*b2)*(a2*b3-a3*b2)+(a2*b4-a4*b2)*(a2*b4-a4*b2)+(a3*b4-a4*b3)*(a3*b4-a4*b3)=(a0*a0+a1*a1+a2*a2+a3*a3+a4*a4)*(b0*b0+b1*b1+b2*b2+b3*b3+b4*b4)-(a0*b0+a1*b1+a2*b2+a3*b3+a4*b4)*(a0*b0+a1*b1+a2*b2+a3*b3+a4*b4):=by grind
theorem con5 (c0 c1 c2 c3 c4 q01 q02 q03 q04 q12 q13 q14 q23 q24 q34:Int):(c0*q12-c1*q02+c2*q01)*(c0*q12-c1*q02+c2*q01)+(c0*q13-c1*q03+c3*q01)*(c0*q13-c1*q03+c3*q01)+(c0*q14-c1*q04+c4*q01)*(c0*q14-c1*q04+c4*q01)+(c0*q23-c2*q03+c3*q02)*(c0*q23-c2*q03+c3*q02)+(c0*q24-c2*q04+c4*q02)*(c0*q24-c2*q04+c4*q02)+(c0*q34-c3*q04+c4*q03)*(c0*q34-c3*q04+c4*q03)+(c1*q23-c2*q13+c3*q12)*(c1*q23-c2*q13+c3*q12)+(c1*q24-c2*q14+c4*q12)*(c1*q24-c2*q14+c4*q12)+(c1*q34-c3*q14+c4*q13)*(c1*q34-c3*q14+c4*q13)+(c2*q34-c3*q24+c4*q23)*(c2*q34-c3*q24+c4*q23)=(c0*c0+c1*c1+c2*c2+c3*c3+c4*c4)*(q01*q01+q02*q02+q03*q03+q04*q04+q12*q12+q13*q13+q14*q14+q23*q23+q24*q24+q34*q34)-((c1*(q01)+c2*(q02)+c3*(q03)+c4*(q04))*(c1*(q01)+c2*(q02)+c3*(q03)+c4*(q04))+(c0*(-q01)+c2*(q12)+c3*(q13)+c4*(q14))*(c0*(-q01)+c2*(q12)+c3*(q13)+c4*(q14))+(c0*(-q02)+c1*(-q12)+c3*(q23)+c4*(q24))*(c0*(-q02)+c1*(-q12)+c3*(q23)+c4*(q24))+(c0*(-q03)+c1*(-q13)+c2*(-q23)+c4*(q34))*(c0*(-q03)+c1*(-q13)+c2*(-q23)+c4*(q34))+(c0*(-q04)+c1*(-q14)+c2*(-q24)+c3*(-q34))*(c0*(-q04)+c1*(-q14)+c2*(-q24)+c3*(-q34))):=by grind
set_option maxHeartbeats 4000000 in
theorem d4_eq (M:Nat→Nat→Int):dk M id 4 =
  (M 0 0*M 1 1-M 0 1*M 1 0)*(M 2 2*M 3 3-M 2 3*M 3 2)-(M 0 0*M 1 2-M 0 2*M 1 0)*(M 2 1*M 3 3-M 2 3*M 3 1)+(M 0 0*M 1 3-M 0 3*M 1 0)*(M 2 1*M 3 2-M 2 2*M 3 1)
  + (M 0 1*M 1 2-M 0 2*M 1 1)*(M 2 0*M 3 3-M 2 3*M 3 0)-(M 0 1*M 1 3-M 0 3*M 1 1)*(M 2 0*M 3 2-M 2 2*M 3 0)+(M 0 2*M 1 3-M 0 3*M 1 2)*(M 2 0*M 3 1-M 2 1*M 3 0):=by
 simp [dk,cols,srows,od,sumN,sg,ins,List.range,List.range.loop]
 grind
set_option maxRecDepth 100000 in
set_option maxHeartbeats 4000000 in
theorem d5_eq (M:Nat→Nat→Int):dk M id 5 =
  (M 0 0*M 1 1-M 0 1*M 1 0)*(M 2 2*(M 3 3*M 4 4-M 3 4*M 4 3)-M 2 3*(M 3 2*M 4 4-M 3 4*M 4 2)+M 2 4*(M 3 2*M 4 3-M 3 3*M 4 2))-(M 0 0*M 1 2-M 0 2*M 1 0)*(M 2 1*(M 3 3*M 4 4-M 3 4*M 4 3)-M 2 3*(M 3 1*M 4 4-M 3 4*M 4 1)+M 2 4*(M 3 1*M 4 3-M 3 3*M 4 1))+(M 0 0*M 1 3-M 0 3*M 1 0)*(M 2 1*(M 3 2*M 4 4-M 3 4*M 4 2)-M 2 2*(M 3 1*M 4 4-M 3 4*M 4 1)+M 2 4*(M 3 1*M 4 2-M 3 2*M 4 1))-(M 0 0*M 1 4-M 0 4*M 1 0)*(M 2 1*(M 3 2*M 4 3-M 3 3*M 4 2)-M 2 2*(M 3 1*M 4 3-M 3 3*M 4 1)+M 2 3*(M 3 1*M 4 2-M 3 2*M 4 1))+(M 0 1*M 1 2-M 0 2*M 1 1)*(M 2 0*(M 3 3*M 4 4-M 3 4*M 4 3)-M 2 3*(M 3 0*M 4 4-M 3 4*M 4 0)+M 2 4*(M 3 0*M 4 3-M 3 3*M 4 0))-(M 0 1*M 1 3-M 0 3*M 1 1)*(M 2 0*(M 3 2*M 4 4-M 3 4*M 4 2)-M 2 2*(M 3 0*M 4 4-M 3 4*M 4 0)+M 2 4*(M 3 0*M 4 2-M 3 2*M 4 0))+(M 0 1*M 1 4-M 0 4*M 1 1)*(M 2 0*(M 3 2*M 4 3-M 3 3*M 4 2)-M 2 2*(M 3 0*M 4 3-M 3 3*M 4 0)+M 2 3*(M 3 0*M 4 2-M 3 2*M 4 0))+(M 0 2*M 1 3-M 0 3*M 1 2)*(M 2 0*(M 3 1*M 4 4-M 3 4*M 4 1)-M 2 1*(M 3 0*M 4 4-M 3 4*M 4 0)+M 2 4*(M 3 0*M 4 1-M 3 1*M 4 0))-(M 0 2*M 1 4-M 0 4*M 1 2)*(M 2 0*(M 3 1*M 4 3-M 3 3*M 4 1)-M 2 1*(M 3 0*M 4 3-M 3 3*M 4 0)+M 2 3*(M 3 0*M 4 1-M 3 1*M 4 0))+(M 0 3*M 1 4-M 0 4*M 1 3)*(M 2 0*(M 3 1*M 4 2-M 3 2*M 4 1)-M 2 1*(M 3 0*M 4 2-M 3 2*M 4 0)+M 2 2*(M 3 0*M 4 1-M 3 1*M 4 0)):=by
 simp [dk,cols,srows,od,sumN,sg,ins,List.range,List.range.loop]
 grind
theorem norm_le {M:Nat→Nat→Int} (h:∀i,i < 5→∀j,j < 5→(M i j).natAbs≤60) {i:Nat} (hi:i < 5):(M i 0*M i 0+M i 1*M i 1+M i 2*M i 2+M i 3*M i 3)≤14400∧(M i 0*M i 0+M i 1*M i 1+M i 2*M i 2+M i 3*M i 3+M i 4*M i 4)≤18000∧0≤(M i 0*M i 0+M i 1*M i 1+M i 2*M i 2+M i 3*M i 3)∧0≤(M i 0*M i 0+M i 1*M i 1+M i 2*M i 2+M i 3*M i 3+M i 4*M i 4):=by
 have hsq:∀x:Int,0≤x*x:=fun x=>by rcases Int.le_total 0 x with h | h; exact Int.mul_nonneg h h; exact Int.mul_nonneg_of_nonpos_of_nonpos h h
 have a0:=sq_le (h i hi 0 (by decide))
 have a1:=sq_le (h i hi 1 (by decide))
 have a2:=sq_le (h i hi 2 (by decide))
 have a3:=sq_le (h i hi 3 (by decide))
 have a4:=sq_le (h i hi 4 (by decide))
 have b0:=hsq (M i 0)
 have b1:=hsq (M i 1)
 have b2:=hsq (M i 2)
 have b3:=hsq (M i 3)
 have b4:=hsq (M i 4)
 generalize M i 0*M i 0=z0 at *
 generalize M i 1*M i 1=z1 at *
 generalize M i 2*M i 2=z2 at *
 generalize M i 3*M i 3=z3 at *
 generalize M i 4*M i 4=z4 at *
 omega
theorem mul_le {a b A B:Int} (h1:a≤A) (h2:b≤B) (h3:0≤a) (h4:0≤B):a*b≤A*B:=
 Int.le_trans (Int.mul_le_mul_of_nonneg_left h2 h3) (Int.mul_le_mul_of_nonneg_right h1 h4)
theorem cs6 (p0 p1 p2 p3 p4 p5 t0 t1 t2 t3 t4 t5:Int):(p0*t0-p1*t1+p2*t2+p3*t3-p4*t4+p5*t5)*(p0*t0-p1*t1+p2*t2+p3*t3-p4*t4+p5*t5)≤(p0*p0+p1*p1+p2*p2+p3*p3+p4*p4+p5*p5)*(t0*t0+t1*t1+t2*t2+t3*t3+t4*t4+t5*t5)∧0≤p0*p0+p1*p1+p2*p2+p3*p3+p4*p4+p5*p5:=by
 have hc:=cs 6 (nth [p0,p1,p2,p3,p4,p5]) (nth [t0,-t1,t2,t3,-t4,t5])
 simp only [sumN,nth,List.getD_cons_zero,List.getD_cons_succ] at hc
 obtain ⟨hc0,hc1,hc2⟩:=hc
 have e1:p0*t0-p1*t1+p2*t2+p3*t3-p4*t4+p5*t5=((((((0+p0*t0)+p1 * -t1)+p2*t2)+p3*t3)+p4 * -t4)+p5*t5):=by grind
 have e2:p0*p0+p1*p1+p2*p2+p3*p3+p4*p4+p5*p5=((((((0+p0*p0)+p1*p1)+p2*p2)+p3*p3)+p4*p4)+p5*p5):=by grind
 have e3:t0*t0+t1*t1+t2*t2+t3*t3+t4*t4+t5*t5=((((((0+t0*t0) + -t1 * -t1)+t2*t2)+t3*t3) + -t4 * -t4)+t5*t5):=by grind
 rw [e1,e2,e3]
 exact ⟨hc2,hc0⟩
theorem cs10 (p0 p1 p2 p3 p4 p5 p6 p7 p8 p9 t0 t1 t2 t3 t4 t5 t6 t7 t8 t9:Int):(p0*t0-p1*t1+p2*t2-p3*t3+p4*t4-p5*t5+p6*t6+p7*t7-p8*t8+p9*t9)*(p0*t0-p1*t1+p2*t2-p3*t3+p4*t4-p5*t5+p6*t6+p7*t7-p8*t8+p9*t9)≤(p0*p0+p1*p1+p2*p2+p3*p3+p4*p4+p5*p5+p6*p6+p7*p7+p8*p8+p9*p9)*(t0*t0+t1*t1+t2*t2+t3*t3+t4*t4+t5*t5+t6*t6+t7*t7+t8*t8+t9*t9)∧0≤p0*p0+p1*p1+p2*p2+p3*p3+p4*p4+p5*p5+p6*p6+p7*p7+p8*p8+p9*p9:=by
 have hc:=cs 10 (nth [p0,p1,p2,p3,p4,p5,p6,p7,p8,p9]) (nth [t0,-t1,t2,-t3,t4,-t5,t6,t7,-t8,t9])
 simp only [sumN,nth,List.getD_cons_zero,List.getD_cons_succ] at hc
 obtain ⟨hc0,hc1,hc2⟩:=hc
 have e1:p0*t0-p1*t1+p2*t2-p3*t3+p4*t4-p5*t5+p6*t6+p7*t7-p8*t8+p9*t9=((((((((((0+p0*t0)+p1 * -t1)+p2*t2)+p3 * -t3)+p4*t4)+p5 * -t5)+p6*t6)+p7*t7)+p8 * -t8)+p9*t9):=by grind
 have e2:p0*p0+p1*p1+p2*p2+p3*p3+p4*p4+p5*p5+p6*p6+p7*p7+p8*p8+p9*p9=((((((((((0+p0*p0)+p1*p1)+p2*p2)+p3*p3)+p4*p4)+p5*p5)+p6*p6)+p7*p7)+p8*p8)+p9*p9):=by grind
 have e3:t0*t0+t1*t1+t2*t2+t3*t3+t4*t4+t5*t5+t6*t6+t7*t7+t8*t8+t9*t9=((((((((((0+t0*t0) + -t1 * -t1)+t2*t2) + -t3 * -t3)+t4*t4) + -t5 * -t5)+t6*t6)+t7*t7) + -t8 * -t8)+t9*t9):=by grind
 rw [e1,e2,e3]
 exact ⟨hc2,hc0⟩
theorem lag_le {P A B D a b:Int} (h:P=A*B-D*D) (hA:A≤a) (hB:B≤b) (h0:0≤A) (hb:0≤b):P≤a*b:=by
 have h1:=mul_le hA hB h0 hb
 have h2:0≤D*D:=by rcases Int.le_total 0 D with h | h; exact Int.mul_nonneg h h; exact Int.mul_nonneg_of_nonpos_of_nonpos h h
 rw [h]; omega
theorem con_le {P A B D a b:Int} (h:P=A*B-D) (hD:0≤D) (hA:A≤a) (hB:B≤b) (h0:0≤A) (hb:0≤b):P≤a*b:=by
 have h1:=mul_le hA hB h0 hb
 rw [h]; omega
theorem had4 {M:Nat→Nat→Int} (h:∀i,i < 5→∀j,j < 5→(M i j).natAbs≤60):dk M id 4*dk M id 4≤42998169600000000:=by
 have n0:=norm_le h (i:=0) (by decide)
 have n1:=norm_le h (i:=1) (by decide)
 have n2:=norm_le h (i:=2) (by decide)
 have n3:=norm_le h (i:=3) (by decide)
 rw [d4_eq]
 have hc:=cs6 (M 0 0*M 1 1-M 0 1*M 1 0) (M 0 0*M 1 2-M 0 2*M 1 0) (M 0 0*M 1 3-M 0 3*M 1 0) (M 0 1*M 1 2-M 0 2*M 1 1) (M 0 1*M 1 3-M 0 3*M 1 1) (M 0 2*M 1 3-M 0 3*M 1 2) (M 2 2*M 3 3-M 2 3*M 3 2) (M 2 1*M 3 3-M 2 3*M 3 1) (M 2 1*M 3 2-M 2 2*M 3 1) (M 2 0*M 3 3-M 2 3*M 3 0) (M 2 0*M 3 2-M 2 2*M 3 0) (M 2 0*M 3 1-M 2 1*M 3 0)
 refine Int.le_trans hc.1 ?_
 have X:(M 0 0*M 1 1-M 0 1*M 1 0)*(M 0 0*M 1 1-M 0 1*M 1 0)+(M 0 0*M 1 2-M 0 2*M 1 0)*(M 0 0*M 1 2-M 0 2*M 1 0)+(M 0 0*M 1 3-M 0 3*M 1 0)*(M 0 0*M 1 3-M 0 3*M 1 0)+(M 0 1*M 1 2-M 0 2*M 1 1)*(M 0 1*M 1 2-M 0 2*M 1 1)+(M 0 1*M 1 3-M 0 3*M 1 1)*(M 0 1*M 1 3-M 0 3*M 1 1)+(M 0 2*M 1 3-M 0 3*M 1 2)*(M 0 2*M 1 3-M 0 3*M 1 2)≤14400*14400:=lag_le (lag4 (M 0 0) (M 0 1) (M 0 2) (M 0 3) (M 1 0) (M 1 1) (M 1 2) (M 1 3)) n0.1 n1.1 n0.2.2.1 (by decide)
 have Y:(M 2 2*M 3 3-M 2 3*M 3 2)*(M 2 2*M 3 3-M 2 3*M 3 2)+(M 2 1*M 3 3-M 2 3*M 3 1)*(M 2 1*M 3 3-M 2 3*M 3 1)+(M 2 1*M 3 2-M 2 2*M 3 1)*(M 2 1*M 3 2-M 2 2*M 3 1)+(M 2 0*M 3 3-M 2 3*M 3 0)*(M 2 0*M 3 3-M 2 3*M 3 0)+(M 2 0*M 3 2-M 2 2*M 3 0)*(M 2 0*M 3 2-M 2 2*M 3 0)+(M 2 0*M 3 1-M 2 1*M 3 0)*(M 2 0*M 3 1-M 2 1*M 3 0)≤14400*14400:=by
  have e:(M 2 2*M 3 3-M 2 3*M 3 2)*(M 2 2*M 3 3-M 2 3*M 3 2)+(M 2 1*M 3 3-M 2 3*M 3 1)*(M 2 1*M 3 3-M 2 3*M 3 1)+(M 2 1*M 3 2-M 2 2*M 3 1)*(M 2 1*M 3 2-M 2 2*M 3 1)+(M 2 0*M 3 3-M 2 3*M 3 0)*(M 2 0*M 3 3-M 2 3*M 3 0)+(M 2 0*M 3 2-M 2 2*M 3 0)*(M 2 0*M 3 2-M 2 2*M 3 0)+(M 2 0*M 3 1-M 2 1*M 3 0)*(M 2 0*M 3 1-M 2 1*M 3 0)=(M 2 0*M 3 1-M 2 1*M 3 0)*(M 2 0*M 3 1-M 2 1*M 3 0)+(M 2 0*M 3 2-M 2 2*M 3 0)*(M 2 0*M 3 2-M 2 2*M 3 0)+(M 2 0*M 3 3-M 2 3*M 3 0)*(M 2 0*M 3 3-M 2 3*M 3 0)+(M 2 1*M 3 2-M 2 2*M 3 1)*(M 2 1*M 3 2-M 2 2*M 3 1)+(M 2 1*M 3 3-M 2 3*M 3 1)*(M 2 1*M 3 3-M 2 3*M 3 1)+(M 2 2*M 3 3-M 2 3*M 3 2)*(M 2 2*M 3 3-M 2 3*M 3 2):=by ac_rfl
  rw [e]; exact lag_le (lag4 (M 2 0) (M 2 1) (M 2 2) (M 2 3) (M 3 0) (M 3 1) (M 3 2) (M 3 3)) n2.1 n3.1 n2.2.2.1 (by decide)
 exact Int.le_trans (mul_le X Y hc.2 (by decide)) (by decide)
set_option maxRecDepth 100000 in
theorem had5 {M:Nat→Nat→Int} (h:∀i,i < 5→∀j,j < 5→(M i j).natAbs≤60):dk M id 5*dk M id 5≤1889568000000000000000:=by
 have hsq:∀x:Int,0≤x*x:=fun x=>by rcases Int.le_total 0 x with h | h; exact Int.mul_nonneg h h; exact Int.mul_nonneg_of_nonpos_of_nonpos h h
 have n0:=norm_le h (i:=0) (by decide)
 have n1:=norm_le h (i:=1) (by decide)
 have n2:=norm_le h (i:=2) (by decide)
 have n3:=norm_le h (i:=3) (by decide)
 have n4:=norm_le h (i:=4) (by decide)
 rw [d5_eq]
 have hc:=cs10 (M 0 0*M 1 1-M 0 1*M 1 0) (M 0 0*M 1 2-M 0 2*M 1 0) (M 0 0*M 1 3-M 0 3*M 1 0) (M 0 0*M 1 4-M 0 4*M 1 0) (M 0 1*M 1 2-M 0 2*M 1 1) (M 0 1*M 1 3-M 0 3*M 1 1) (M 0 1*M 1 4-M 0 4*M 1 1) (M 0 2*M 1 3-M 0 3*M 1 2) (M 0 2*M 1 4-M 0 4*M 1 2) (M 0 3*M 1 4-M 0 4*M 1 3) (M 2 2*(M 3 3*M 4 4-M 3 4*M 4 3)-M 2 3*(M 3 2*M 4 4-M 3 4*M 4 2)+M 2 4*(M 3 2*M 4 3-M 3 3*M 4 2)) (M 2 1*(M 3 3*M 4 4-M 3 4*M 4 3)-M 2 3*(M 3 1*M 4 4-M 3 4*M 4 1)+M 2 4*(M 3 1*M 4 3-M 3 3*M 4 1)) (M 2 1*(M 3 2*M 4 4-M 3 4*M 4 2)-M 2 2*(M 3 1*M 4 4-M 3 4*M 4 1)+M 2 4*(M 3 1*M 4 2-M 3 2*M 4 1)) (M 2 1*(M 3 2*M 4 3-M 3 3*M 4 2)-M 2 2*(M 3 1*M 4 3-M 3 3*M 4 1)+M 2 3*(M 3 1*M 4 2-M 3 2*M 4 1)) (M 2 0*(M 3 3*M 4 4-M 3 4*M 4 3)-M 2 3*(M 3 0*M 4 4-M 3 4*M 4 0)+M 2 4*(M 3 0*M 4 3-M 3 3*M 4 0)) (M 2 0*(M 3 2*M 4 4-M 3 4*M 4 2)-M 2 2*(M 3 0*M 4 4-M 3 4*M 4 0)+M 2 4*(M 3 0*M 4 2-M 3 2*M 4 0)) (M 2 0*(M 3 2*M 4 3-M 3 3*M 4 2)-M 2 2*(M 3 0*M 4 3-M 3 3*M 4 0)+M 2 3*(M 3 0*M 4 2-M 3 2*M 4 0)) (M 2 0*(M 3 1*M 4 4-M 3 4*M 4 1)-M 2 1*(M 3 0*M 4 4-M 3 4*M 4 0)+M 2 4*(M 3 0*M 4 1-M 3 1*M 4 0)) (M 2 0*(M 3 1*M 4 3-M 3 3*M 4 1)-M 2 1*(M 3 0*M 4 3-M 3 3*M 4 0)+M 2 3*(M 3 0*M 4 1-M 3 1*M 4 0)) (M 2 0*(M 3 1*M 4 2-M 3 2*M 4 1)-M 2 1*(M 3 0*M 4 2-M 3 2*M 4 0)+M 2 2*(M 3 0*M 4 1-M 3 1*M 4 0))
 refine Int.le_trans hc.1 ?_
 have X:(M 0 0*M 1 1-M 0 1*M 1 0)*(M 0 0*M 1 1-M 0 1*M 1 0)+(M 0 0*M 1 2-M 0 2*M 1 0)*(M 0 0*M 1 2-M 0 2*M 1 0)+(M 0 0*M 1 3-M 0 3*M 1 0)*(M 0 0*M 1 3-M 0 3*M 1 0)+(M 0 0*M 1 4-M 0 4*M 1 0)*(M 0 0*M 1 4-M 0 4*M 1 0)+(M 0 1*M 1 2-M 0 2*M 1 1)*(M 0 1*M 1 2-M 0 2*M 1 1)+(M 0 1*M 1 3-M 0 3*M 1 1)*(M 0 1*M 1 3-M 0 3*M 1 1)+(M 0 1*M 1 4-M 0 4*M 1 1)*(M 0 1*M 1 4-M 0 4*M 1 1)+(M 0 2*M 1 3-M 0 3*M 1 2)*(M 0 2*M 1 3-M 0 3*M 1 2)+(M 0 2*M 1 4-M 0 4*M 1 2)*(M 0 2*M 1 4-M 0 4*M 1 2)+(M 0 3*M 1 4-M 0 4*M 1 3)*(M 0 3*M 1 4-M 0 4*M 1 3)≤18000*18000:=lag_le (lag5 (M 0 0) (M 0 1) (M 0 2) (M 0 3) (M 0 4) (M 1 0) (M 1 1) (M 1 2) (M 1 3) (M 1 4)) n0.2.1 n1.2.1 n0.2.2.2 (by decide)
 have Q:=lag_le (lag5 (M 3 0) (M 3 1) (M 3 2) (M 3 3) (M 3 4) (M 4 0) (M 4 1) (M 4 2) (M 4 3) (M 4 4)) n3.2.1 n4.2.1 n3.2.2.2 (by decide)
 have Y:(M 2 2*(M 3 3*M 4 4-M 3 4*M 4 3)-M 2 3*(M 3 2*M 4 4-M 3 4*M 4 2)+M 2 4*(M 3 2*M 4 3-M 3 3*M 4 2))*(M 2 2*(M 3 3*M 4 4-M 3 4*M 4 3)-M 2 3*(M 3 2*M 4 4-M 3 4*M 4 2)+M 2 4*(M 3 2*M 4 3-M 3 3*M 4 2))+(M 2 1*(M 3 3*M 4 4-M 3 4*M 4 3)-M 2 3*(M 3 1*M 4 4-M 3 4*M 4 1)+M 2 4*(M 3 1*M 4 3-M 3 3*M 4 1))*(M 2 1*(M 3 3*M 4 4-M 3 4*M 4 3)-M 2 3*(M 3 1*M 4 4-M 3 4*M 4 1)+M 2 4*(M 3 1*M 4 3-M 3 3*M 4 1))+(M 2 1*(M 3 2*M 4 4-M 3 4*M 4 2)-M 2 2*(M 3 1*M 4 4-M 3 4*M 4 1)+M 2 4*(M 3 1*M 4 2-M 3 2*M 4 1))*(M 2 1*(M 3 2*M 4 4-M 3 4*M 4 2)-M 2 2*(M 3 1*M 4 4-M 3 4*M 4 1)+M 2 4*(M 3 1*M 4 2-M 3 2*M 4 1))+(M 2 1*(M 3 2*M 4 3-M 3 3*M 4 2)-M 2 2*(M 3 1*M 4 3-M 3 3*M 4 1)+M 2 3*(M 3 1*M 4 2-M 3 2*M 4 1))*(M 2 1*(M 3 2*M 4 3-M 3 3*M 4 2)-M 2 2*(M 3 1*M 4 3-M 3 3*M 4 1)+M 2 3*(M 3 1*M 4 2-M 3 2*M 4 1))+(M 2 0*(M 3 3*M 4 4-M 3 4*M 4 3)-M 2 3*(M 3 0*M 4 4-M 3 4*M 4 0)+M 2 4*(M 3 0*M 4 3-M 3 3*M 4 0))*(M 2 0*(M 3 3*M 4 4-M 3 4*M 4 3)-M 2 3*(M 3 0*M 4 4-M 3 4*M 4 0)+M 2 4*(M 3 0*M 4 3-M 3 3*M 4 0))+(M 2 0*(M 3 2*M 4 4-M 3 4*M 4 2)-M 2 2*(M 3 0*M 4 4-M 3 4*M 4 0)+M 2 4*(M 3 0*M 4 2-M 3 2*M 4 0))*(M 2 0*(M 3 2*M 4 4-M 3 4*M 4 2)-M 2 2*(M 3 0*M 4 4-M 3 4*M 4 0)+M 2 4*(M 3 0*M 4 2-M 3 2*M 4 0))+(M 2 0*(M 3 2*M 4 3-M 3 3*M 4 2)-M 2 2*(M 3 0*M 4 3-M 3 3*M 4 0)+M 2 3*(M 3 0*M 4 2-M 3 2*M 4 0))*(M 2 0*(M 3 2*M 4 3-M 3 3*M 4 2)-M 2 2*(M 3 0*M 4 3-M 3 3*M 4 0)+M 2 3*(M 3 0*M 4 2-M 3 2*M 4 0))+(M 2 0*(M 3 1*M 4 4-M 3 4*M 4 1)-M 2 1*(M 3 0*M 4 4-M 3 4*M 4 0)+M 2 4*(M 3 0*M 4 1-M 3 1*M 4 0))*(M 2 0*(M 3 1*M 4 4-M 3 4*M 4 1)-M 2 1*(M 3 0*M 4 4-M 3 4*M 4 0)+M 2 4*(M 3 0*M 4 1-M 3 1*M 4 0))+(M 2 0*(M 3 1*M 4 3-M 3 3*M 4 1)-M 2 1*(M 3 0*M 4 3-M 3 3*M 4 0)+M 2 3*(M 3 0*M 4 1-M 3 1*M 4 0))*(M 2 0*(M 3 1*M 4 3-M 3 3*M 4 1)-M 2 1*(M 3 0*M 4 3-M 3 3*M 4 0)+M 2 3*(M 3 0*M 4 1-M 3 1*M 4 0))+(M 2 0*(M 3 1*M 4 2-M 3 2*M 4 1)-M 2 1*(M 3 0*M 4 2-M 3 2*M 4 0)+M 2 2*(M 3 0*M 4 1-M 3 1*M 4 0))*(M 2 0*(M 3 1*M 4 2-M 3 2*M 4 1)-M 2 1*(M 3 0*M 4 2-M 3 2*M 4 0)+M 2 2*(M 3 0*M 4 1-M 3 1*M 4 0))≤18000*(18000*18000):=by
  have e:(M 2 2*(M 3 3*M 4 4-M 3 4*M 4 3)-M 2 3*(M 3 2*M 4 4-M 3 4*M 4 2)+M 2 4*(M 3 2*M 4 3-M 3 3*M 4 2))*(M 2 2*(M 3 3*M 4 4-M 3 4*M 4 3)-M 2 3*(M 3 2*M 4 4-M 3 4*M 4 2)+M 2 4*(M 3 2*M 4 3-M 3 3*M 4 2))+(M 2 1*(M 3 3*M 4 4-M 3 4*M 4 3)-M 2 3*(M 3 1*M 4 4-M 3 4*M 4 1)+M 2 4*(M 3 1*M 4 3-M 3 3*M 4 1))*(M 2 1*(M 3 3*M 4 4-M 3 4*M 4 3)-M 2 3*(M 3 1*M 4 4-M 3 4*M 4 1)+M 2 4*(M 3 1*M 4 3-M 3 3*M 4 1))+(M 2 1*(M 3 2*M 4 4-M 3 4*M 4 2)-M 2 2*(M 3 1*M 4 4-M 3 4*M 4 1)+M 2 4*(M 3 1*M 4 2-M 3 2*M 4 1))*(M 2 1*(M 3 2*M 4 4-M 3 4*M 4 2)-M 2 2*(M 3 1*M 4 4-M 3 4*M 4 1)+M 2 4*(M 3 1*M 4 2-M 3 2*M 4 1))+(M 2 1*(M 3 2*M 4 3-M 3 3*M 4 2)-M 2 2*(M 3 1*M 4 3-M 3 3*M 4 1)+M 2 3*(M 3 1*M 4 2-M 3 2*M 4 1))*(M 2 1*(M 3 2*M 4 3-M 3 3*M 4 2)-M 2 2*(M 3 1*M 4 3-M 3 3*M 4 1)+M 2 3*(M 3 1*M 4 2-M 3 2*M 4 1))+(M 2 0*(M 3 3*M 4 4-M 3 4*M 4 3)-M 2 3*(M 3 0*M 4 4-M 3 4*M 4 0)+M 2 4*(M 3 0*M 4 3-M 3 3*M 4 0))*(M 2 0*(M 3 3*M 4 4-M 3 4*M 4 3)-M 2 3*(M 3 0*M 4 4-M 3 4*M 4 0)+M 2 4*(M 3 0*M 4 3-M 3 3*M 4 0))+(M 2 0*(M 3 2*M 4 4-M 3 4*M 4 2)-M 2 2*(M 3 0*M 4 4-M 3 4*M 4 0)+M 2 4*(M 3 0*M 4 2-M 3 2*M 4 0))*(M 2 0*(M 3 2*M 4 4-M 3 4*M 4 2)-M 2 2*(M 3 0*M 4 4-M 3 4*M 4 0)+M 2 4*(M 3 0*M 4 2-M 3 2*M 4 0))+(M 2 0*(M 3 2*M 4 3-M 3 3*M 4 2)-M 2 2*(M 3 0*M 4 3-M 3 3*M 4 0)+M 2 3*(M 3 0*M 4 2-M 3 2*M 4 0))*(M 2 0*(M 3 2*M 4 3-M 3 3*M 4 2)-M 2 2*(M 3 0*M 4 3-M 3 3*M 4 0)+M 2 3*(M 3 0*M 4 2-M 3 2*M 4 0))+(M 2 0*(M 3 1*M 4 4-M 3 4*M 4 1)-M 2 1*(M 3 0*M 4 4-M 3 4*M 4 0)+M 2 4*(M 3 0*M 4 1-M 3 1*M 4 0))*(M 2 0*(M 3 1*M 4 4-M 3 4*M 4 1)-M 2 1*(M 3 0*M 4 4-M 3 4*M 4 0)+M 2 4*(M 3 0*M 4 1-M 3 1*M 4 0))+(M 2 0*(M 3 1*M 4 3-M 3 3*M 4 1)-M 2 1*(M 3 0*M 4 3-M 3 3*M 4 0)+M 2 3*(M 3 0*M 4 1-M 3 1*M 4 0))*(M 2 0*(M 3 1*M 4 3-M 3 3*M 4 1)-M 2 1*(M 3 0*M 4 3-M 3 3*M 4 0)+M 2 3*(M 3 0*M 4 1-M 3 1*M 4 0))+(M 2 0*(M 3 1*M 4 2-M 3 2*M 4 1)-M 2 1*(M 3 0*M 4 2-M 3 2*M 4 0)+M 2 2*(M 3 0*M 4 1-M 3 1*M 4 0))*(M 2 0*(M 3 1*M 4 2-M 3 2*M 4 1)-M 2 1*(M 3 0*M 4 2-M 3 2*M 4 0)+M 2 2*(M 3 0*M 4 1-M 3 1*M 4 0))=(M 2 0*(M 3 1*M 4 2-M 3 2*M 4 1)-M 2 1*(M 3 0*M 4 2-M 3 2*M 4 0)+M 2 2*(M 3 0*M 4 1-M 3 1*M 4 0))*(M 2 0*(M 3 1*M 4 2-M 3 2*M 4 1)-M 2 1*(M 3 0*M 4 2-M 3 2*M 4 0)+M 2 2*(M 3 0*M 4 1-M 3 1*M 4 0))+(M 2 0*(M 3 1*M 4 3-M 3 3*M 4 1)-M 2 1*(M 3 0*M 4 3-M 3 3*M 4 0)+M 2 3*(M 3 0*M 4 1-M 3 1*M 4 0))*(M 2 0*(M 3 1*M 4 3-M 3 3*M 4 1)-M 2 1*(M 3 0*M 4 3-M 3 3*M 4 0)+M 2 3*(M 3 0*M 4 1-M 3 1*M 4 0))+(M 2 0*(M 3 1*M 4 4-M 3 4*M 4 1)-M 2 1*(M 3 0*M 4 4-M 3 4*M 4 0)+M 2 4*(M 3 0*M 4 1-M 3 1*M 4 0))*(M 2 0*(M 3 1*M 4 4-M 3 4*M 4 1)-M 2 1*(M 3 0*M 4 4-M 3 4*M 4 0)+M 2 4*(M 3 0*M 4 1-M 3 1*M 4 0))+(M 2 0*(M 3 2*M 4 3-M 3 3*M 4 2)-M 2 2*(M 3 0*M 4 3-M 3 3*M 4 0)+M 2 3*(M 3 0*M 4 2-M 3 2*M 4 0))*(M 2 0*(M 3 2*M 4 3-M 3 3*M 4 2)-M 2 2*(M 3 0*M 4 3-M 3 3*M 4 0)+M 2 3*(M 3 0*M 4 2-M 3 2*M 4 0))+(M 2 0*(M 3 2*M 4 4-M 3 4*M 4 2)-M 2 2*(M 3 0*M 4 4-M 3 4*M 4 0)+M 2 4*(M 3 0*M 4 2-M 3 2*M 4 0))*(M 2 0*(M 3 2*M 4 4-M 3 4*M 4 2)-M 2 2*(M 3 0*M 4 4-M 3 4*M 4 0)+M 2 4*(M 3 0*M 4 2-M 3 2*M 4 0))+(M 2 0*(M 3 3*M 4 4-M 3 4*M 4 3)-M 2 3*(M 3 0*M 4 4-M 3 4*M 4 0)+M 2 4*(M 3 0*M 4 3-M 3 3*M 4 0))*(M 2 0*(M 3 3*M 4 4-M 3 4*M 4 3)-M 2 3*(M 3 0*M 4 4-M 3 4*M 4 0)+M 2 4*(M 3 0*M 4 3-M 3 3*M 4 0))+(M 2 1*(M 3 2*M 4 3-M 3 3*M 4 2)-M 2 2*(M 3 1*M 4 3-M 3 3*M 4 1)+M 2 3*(M 3 1*M 4 2-M 3 2*M 4 1))*(M 2 1*(M 3 2*M 4 3-M 3 3*M 4 2)-M 2 2*(M 3 1*M 4 3-M 3 3*M 4 1)+M 2 3*(M 3 1*M 4 2-M 3 2*M 4 1))+(M 2 1*(M 3 2*M 4 4-M 3 4*M 4 2)-M 2 2*(M 3 1*M 4 4-M 3 4*M 4 1)+M 2 4*(M 3 1*M 4 2-M 3 2*M 4 1))*(M 2 1*(M 3 2*M 4 4-M 3 4*M 4 2)-M 2 2*(M 3 1*M 4 4-M 3 4*M 4 1)+M 2 4*(M 3 1*M 4 2-M 3 2*M 4 1))+(M 2 1*(M 3 3*M 4 4-M 3 4*M 4 3)-M 2 3*(M 3 1*M 4 4-M 3 4*M 4 1)+M 2 4*(M 3 1*M 4 3-M 3 3*M 4 1))*(M 2 1*(M 3 3*M 4 4-M 3 4*M 4 3)-M 2 3*(M 3 1*M 4 4-M 3 4*M 4 1)+M 2 4*(M 3 1*M 4 3-M 3 3*M 4 1))+(M 2 2*(M 3 3*M 4 4-M 3 4*M 4 3)-M 2 3*(M 3 2*M 4 4-M 3 4*M 4 2)+M 2 4*(M 3 2*M 4 3-M 3 3*M 4 2))*(M 2 2*(M 3 3*M 4 4-M 3 4*M 4 3)-M 2 3*(M 3 2*M 4 4-M 3 4*M 4 2)+M 2 4*(M 3 2*M 4 3-M 3 3*M 4 2)):=by ac_rfl
  rw [e]; exact con_le (con5 (M 2 0) (M 2 1) (M 2 2) (M 2 3) (M 2 4) (M 3 0*M 4 1-M 3 1*M 4 0) (M 3 0*M 4 2-M 3 2*M 4 0) (M 3 0*M 4 3-M 3 3*M 4 0) (M 3 0*M 4 4-M 3 4*M 4 0) (M 3 1*M 4 2-M 3 2*M 4 1) (M 3 1*M 4 3-M 3 3*M 4 1) (M 3 1*M 4 4-M 3 4*M 4 1) (M 3 2*M 4 3-M 3 3*M 4 2) (M 3 2*M 4 4-M 3 4*M 4 2) (M 3 3*M 4 4-M 3 4*M 4 3)) (by repeat (first | exact hsq _ | apply Int.add_nonneg)) n2.2.1 Q n2.2.2.2 (by decide)
 exact Int.le_trans (mul_le X Y hc.2 (by decide)) (by decide)
theorem had60 (M:Nat→Nat→Int) (h:∀i,i < 5→∀j,j < 5→(M i j).natAbs≤60):(dk M id 4*dk M id 5).natAbs≤9223372036854775807:=by
 have hsq:∀x:Int,0≤x*x:=fun x=>by rcases Int.le_total 0 x with h | h; exact Int.mul_nonneg h h; exact Int.mul_nonneg_of_nonpos_of_nonpos h h
 have e:dk M id 4*dk M id 5*(dk M id 4*dk M id 5)=(dk M id 4*dk M id 4)*(dk M id 5*dk M id 5):=by grind
 refine root_le (K:=42998169600000000*1889568000000000000000) ?_ (by decide)
 rw [e]
 exact mul_le (had4 h) (had5 h) (hsq _) (by decide)
end Go.Proofs.YtdanomklbiidaaaGreatDoor.Lin

namespace Go.Proofs.YtdanomklbiidaaaGreatDoor
open Go.RowKit Lin
attribute [local go_sem ↓] Go.wp_at_zero Go.wp_at_succ
theorem bd60 {c:Nat} {m:List (List Int)} (hx:Mx c 60 m):Bd (mOf m) m.length c:=bd_of hx (by decide) had60
theorem bdD {c:Nat} {m:List (List Int)} (hx:Mx c 60 m) (h4:c≤4):Bd (mOf m) m.length c:=bd_of4 hx h4 (by decide) (by decide)
theorem field1 (a b c d:Value) (w:World):(Instr.field 78 (.agg #[a,b,c,d]) 1).run Tryz.prog w=.ok b w:=by kernel_rfl
set_option maxRecDepth 100000 in
set_option maxHeartbeats 800000 in
theorem rankQ_any {Bq:Nat} (B c:Nat) (m:List (List Int)) (v:Value) (w:World) (hx:Mx c Bq m) (hbd:Bd (mOf m) m.length c) (hv:Mat B 22 3 w v m) (hm:m.length≤500) (hm0:1≤m.length) :
  Calls Tryz.prog 39 #[v,.int .i64 c] w fun e w'=>e=.returned (.int .i64 ((pickL c m).length:Nat))∧Below w.heap.size w w':=by
 obtain ⟨ao,cap,hvv,hlc,hcm⟩:=mat_open hv
 subst hvv
 have hc5:=hx.c5
 have hc1:=hx.c1
 have HR:Hid (Calls Tryz.prog 53 #[.slice ao m.length cap,.int .i64 c] w fun e w'=>∃ro rc po pc val sgn,e=.returned (.agg #[.slice ro m.length rc,.slice po (pickL c m).length pc,.int .i64 val,.int .i64 sgn])∧Below w.heap.size w w'):=by
  refine (reduce_any B c m _ w hv hm hm0 hc1 (by omega) hx.row hbd).mono ?_
  rintro e w' ⟨M',C,k,sgn,hr,rv,pv,rfl,h1,h2,h3⟩
  obtain ⟨ro,rc,e1,_,_⟩:=mat_open h1
  obtain ⟨po,pc,e2,_,_⟩:=sl_open h2
  have hk:=red_rank hr
  simp only [List.length_map,List.length_range,rowsOf] at e1 e2
  rw [hk] at e2
  exact ⟨ro,rc,po,pc,_,_,by rw [e1,e2],h3⟩
 clear hv
 go_enter Tryz.func39,Tryz.ntmps39
 go_wp2_with fail
 refine (HR.out).mono ?_
 rintro e w2 ⟨ro,rc,po,pc,val,sgn,rfl,hb⟩
 have HB:Hid (Below w.heap.size w w2):=hb
 clear hb
 have hfl:=field1 (.slice ro m.length rc) (.slice po (pickL c m).length pc) (.int .i64 val) (.int .i64 sgn) w2
 go_wp2
 go_ret
 exact ⟨rfl,HB.out⟩
set_option maxRecDepth 100000 in
set_option maxHeartbeats 800000 in
theorem detQ_any {Bq:Nat} (B:Nat) (m:List (List Int)) (v:Value) (w:World) (hx:Mx m.length Bq m) (hbq:Bd (mOf m) m.length m.length) (hv:Mat B 22 3 w v m) (hm0:1≤m.length) :
  Calls Tryz.prog 47 #[v] w fun e w'=>e=.returned (.int .i64 (detL m))∧Below w.heap.size w w':=by
 obtain ⟨ao,cap,hvv,hlc,hcm⟩:=mat_open hv
 subst hvv
 have hc5:=hx.c5
 have hc1:=hx.c1
 have HR:Hid (Calls Tryz.prog 53 #[.slice ao m.length cap,.int .i64 m.length] w fun e w'=>∃ro rc po k pc val sgn,e=.returned (.agg #[.slice ro m.length rc,.slice po k pc,.int .i64 val,.int .i64 sgn])∧k≤m.length∧
   (if k < m.length then 0 else sgn*val)=detL m∧(k=m.length→(sgn*val).natAbs≤9223372036854775807)∧Below w.heap.size w w'):=by
  refine (reduce_any B m.length m _ w hv (by omega) hm0 hc1 (by omega) hx.row hbq).mono ?_
  rintro e w' ⟨M',C,k,sgn,hr,rv,pv,rfl,h1,h2,h3⟩
  obtain ⟨ro,rc,e1,_,_⟩:=mat_open h1
  obtain ⟨po,pc,e2,_,_⟩:=sl_open h2
  have hd:=red_det hr
  simp only [List.length_map,List.length_range,rowsOf] at e1 e2
  refine ⟨ro,rc,po,k,pc,_,_,by rw [e1,e2],hr.done.kn,hd,fun hk=>?_,h3⟩
  have hb:=dk_bd (B:=Bq) (k:=k) (M:=M') (C:=C) (fun i hi b hb=>red_entry hx hr i (by omega) _ (hr.done.rise.2 b hb))
  have hf:fb Bq k≤fb Bq m.length:=fb_mono hx.pos (by omega)
  have h5:=hx.small
  rcases hr.one with e | e <;> rw [e] <;> simp <;> omega
 clear hv hx
 go_enter Tryz.func47,Tryz.ntmps47
 go_wp2_with fail
 refine (HR.out).mono ?_
 rintro e w2 ⟨ro,rc,po,k,pc,val,sgn,rfl,hk,hd,hbd,hb⟩
 have HB:Hid (Below w.heap.size w (w2.alloc (.cells #[.slice ro m.length rc,.slice po k pc,.int .i64 val,.int .i64 sgn] 78))):=hb.alloc hb.size _
 have HD:Hid ((if k < m.length then 0 else sgn*val)=detL m):=hd
 have HBD:Hid (k=m.length→(sgn*val).natAbs≤9223372036854775807):=hbd
 clear hb hd hbd
 by_cases hkn:k < m.length
 ·have hkI:(k:Int) < (m.length:Int):=by omega
  go_wp2
  go_ret
  exact ⟨by rw [←HD.out,if_pos hkn]; rfl,HB.out⟩
 ·have hkI:¬(k:Int) < (m.length:Int):=by omega
  go_wp2
  go_ret
  have h1:=HBD.out (by omega)
  refine ⟨?_,HB.out⟩
  rw [←HD.out,if_neg hkn]
  have h2:=IntWalk.wrap64_in (sgn*val) ⟨by omega,by omega⟩
  rw [h2]; rfl
theorem detP_any (B:Nat) (m:List (List Int)) (v:Value) (w:World) (hx:Mx m.length 60 m) (hv:Mat B 22 3 w v m) (hm0:1≤m.length) :
  Calls Tryz.prog 47 #[v] w fun e w'=>e=.returned (.int .i64 (detL m))∧Below w.heap.size w w':=
 detQ_any B m v w hx (bd60 hx) hv hm0
end Go.Proofs.YtdanomklbiidaaaGreatDoor

namespace Go.Proofs.YtdanomklbiidaaaGreatDoor
open Go.RowKit
attribute [local go_sem ↓] Go.wp_at_zero Go.wp_at_succ
theorem anyK_contains (zs:List Int) (x:Int):zs.any (fun z=>z == x)=zs.contains x:=by
 rw [Bool.eq_iff_iff]; simp
theorem anyK_snoc {α:Type} {p:α→Bool} {l:List α} {d:α} {k:Nat} (h:k < l.length) (h0:(l.take k).any p=false):(l.take (k+1)).any p=p (l.getD k d):=by
 rw [List.take_succ_eq_append_getElem h,List.any_append,h0]; simp [h]
theorem anyK_get {α:Type} {p:α→Bool} {l:List α} {d:α} {k:Nat} (h:k < l.length) (h0:p (l.getD k d)=true):l.any p=true:=
 List.any_eq_true.2 ⟨l.getD k d,by simp [h],h0⟩
set_option maxRecDepth 100000 in
set_option maxHeartbeats 400000 in
theorem indexK_any (B:Nat) (x:Int) (zs:List Int) (v:Value) (w:World) (hv:Sl B 3 w v (ints zs)) :
  Calls Tryz.prog 118 #[v,.int .i64 x] w fun e w'=>∃k:Int,e=.returned (.int .i64 k)∧decide (0≤k)=zs.contains x∧w'=w:=by
 obtain ⟨ao,cap,hvv,hlc,hcm⟩:=sl_open hv
 subst hvv
 have HV:Hid (Sl B 3 w (.slice ao zs.length cap) (ints zs)):=hv
 clear hv
 rw [←anyK_contains]
 go_enter Tryz.func118,Tryz.ntmps118
 go_wp2
 go_loopw [8,5] (fun i _ wr=>∃k:Nat,k≤zs.length∧i=.int .i64 k∧(zs.take k).any (fun z=>z == x)=false∧wr=w) (fun i _ _=>zs.length-(intOf i).toNat)
 case atStart=>exact ⟨0,Nat.zero_le _,rfl,by simp,rfl⟩
 case round=>
  obtain ⟨k,hk,rfl,hno,rfl⟩:=hrel
  have HN:Hid ((zs.take k).any (fun z=>z == x)=false):=hno
  clear hno
  by_cases hlt:k < zs.length
  ·obtain ⟨b,o,cp,hs,hc1,hcc⟩:=sl_cell HV.out hlt
   simp only [Value.slice.injEq] at hs
   obtain ⟨rfl,_,rfl⟩:=hs
   have HS1:Hid ((zs.take (k+1)).any (fun z=>z == x)=(zs.getD k 0 == x)):=anyK_snoc (p:=fun z=>z == x) hlt HN.out
   have HG:Hid ((zs.getD k 0 == x)=true→zs.any (fun z=>z == x)=true):=fun h=>anyK_get (p:=fun z=>z == x) hlt h
   generalize zs.getD k 0=z at *
   cases hf:(x == z)
   ·have HF:Hid ((z == x)=false):=by rw [beq_eq_false_iff_ne] at hf ⊢; exact fun e=>hf e.symm
    go_wp2
    go_roundw
    case rel=>exact ⟨k+1,by omega,by go_num,by rw [HS1.out]; exact HF.out,trivial⟩
    case measure=>simp [intOf]; omega
   ·have HF:Hid ((z == x)=true):=by rw [beq_iff_eq] at hf ⊢; exact hf.symm
    have HK:Hid (decide ((0:Int)≤(k:Int))=true):=decide_eq_true (by omega)
    go_wp2
    go_ret
    exact ⟨k,rfl,by rw [HK.out,HG.out HF.out],rfl⟩
  ·have hke:zs.take k=zs:=List.take_of_length_le (by omega)
   have HE:Hid (zs.any (fun z=>z == x)=false):=by rw [←hke]; exact HN.out
   go_wp2
   go_ret
   exact ⟨-1,rfl,by rw [HE.out]; rfl,rfl⟩
set_option maxRecDepth 100000 in
theorem containsK_any (B:Nat) (x:Int) (zs:List Int) (v:Value) (w:World) (hv:Sl B 3 w v (ints zs)) :
  Calls Tryz.prog 115 #[v,.int .i64 x] w fun e w'=>e=.returned (.bool (zs.contains x))∧w'=w:=by
 obtain ⟨ao,cap,hvv,hlc,hcm⟩:=sl_open hv
 subst hvv
 have HI:Hid (Calls Tryz.prog 118 #[.slice ao zs.length cap,.int .i64 x] w fun e w'=>∃k:Int,e=.returned (.int .i64 k)∧decide (0≤k)=zs.contains x∧w'=w):=indexK_any B x zs _ w hv
 clear hv
 generalize zs.contains x=c at *
 go_enter Tryz.func115,Tryz.ntmps115
 go_wp2_with fail
 refine HI.out.mono ?_
 rintro e w' ⟨k,rfl,hk,rfl⟩
 have HK:Hid (decide (0≤k)=c):=hk
 clear hk
 go_wp2
 go_ret
 exact ⟨ret_bool HK.out,rfl⟩
end Go.Proofs.YtdanomklbiidaaaGreatDoor
