import Derived.Test.YtcoeneldaohpnaaGreatLin9
namespace Go.Proofs.YtcoeneldaohpnaaGreat.Lin
theorem cs_step {S X Y a b:Int} (h:S*S≤X*Y) (hX:0≤X) (hY:0≤Y):(S+a*b)*(S+a*b)≤(X+a*a)*(Y+b*b):=by
 have hsq:∀x:Int,0≤x*x:=fun x=>by rcases Int.le_total 0 x with h | h; exact Int.mul_nonneg h h; exact Int.mul_nonneg_of_nonpos_of_nonpos h h
 have key:2*(S*(a*b))≤X*(b*b)+Y*(a*a):=by
  apply Classical.byContradiction
  intro hn
  have hv:0≤X*(b*b)+Y*(a*a):=Int.add_nonneg (Int.mul_nonneg hX (hsq b)) (Int.mul_nonneg hY (hsq a))
  have h1:0 < (2*(S*(a*b))-(X*(b*b)+Y*(a*a)))*(2*(S*(a*b))+(X*(b*b)+Y*(a*a))):=Int.mul_pos (by omega) (by omega)
  have h2:=hsq (X*(b*b)-Y*(a*a))
  have h3:0≤(X*Y-S*S)*((a*b)*(a*b)):=Int.mul_nonneg (by omega) (hsq _)
  grind
 grind
theorem cs (n:Nat) (x y:Nat→Int):0≤sumN n (fun i=>x i*x i)∧0≤sumN n (fun i=>y i*y i)∧sumN n (fun i=>x i*y i)*sumN n (fun i=>x i*y i)≤sumN n (fun i=>x i*x i)*sumN n (fun i=>y i*y i):=by
 have hsq:∀x:Int,0≤x*x:=fun x=>by rcases Int.le_total 0 x with h | h; exact Int.mul_nonneg h h; exact Int.mul_nonneg_of_nonpos_of_nonpos h h
 induction n with
 | zero=>simp [sumN]
 | succ n ih=>
  obtain ⟨h1,h2,h3⟩:=ih
  simp only [sumN]
  exact ⟨Int.add_nonneg h1 (hsq _),Int.add_nonneg h2 (hsq _),cs_step h3 h1 h2⟩
def nth (l:List Int) (i:Nat):Int:=l.getD i 0
theorem sq_le {x:Int} {B:Nat} (h:x.natAbs≤B):x*x≤(B:Int)*B:=by
 have h1:x*x=((x.natAbs*x.natAbs:Nat):Int):=by simp
 rw [h1]
 exact_mod_cast Nat.mul_le_mul h h
theorem root_le {u:Int} {K:Nat} (h:u*u≤(K:Int)) (hK:K < 85070591730234615865843651857942052864):u.natAbs≤9223372036854775807:=by
 apply Classical.byContradiction
 intro hn
 have h1:9223372036854775808≤u.natAbs:=by omega
 have h2:=Nat.mul_le_mul h1 h1
 have h3:u*u=((u.natAbs*u.natAbs:Nat):Int):=by simp
 rw [h3] at h
 omega
theorem lag4 (a0 a1 a2 a3 b0 b1 b2 b3:Int):(a0*b1-a1*b0)*(a0*b1-a1*b0)+(a0*b2-a2*b0)*(a0*b2-a2*b0)+(a0*b3-a3*b0)*(a0*b3-a3*b0)+(a1*b2-a2*b1)*(a1*b2-a2*b1)+(a1*b3-a3*b1)*(a1*b3-a3*b1)+(a2*b3-a3*b2)*(a2*b3-a3*b2)=(a0*a0+a1*a1+a2*a2+a3*a3)*(b0*b0+b1*b1+b2*b2+b3*b3)-(a0*b0+a1*b1+a2*b2+a3*b3)*(a0*b0+a1*b1+a2*b2+a3*b3):=by grind
theorem lag5 (a0 a1 a2 a3 a4 b0 b1 b2 b3 b4:Int):(a0*b1-a1*b0)*(a0*b1-a1*b0)+(a0*b2-a2*b0)*(a0*b2-a2*b0)+(a0*b3-a3*b0)*(a0*b3-a3*b0)+(a0*b4-a4*b0)*(a0*b4-a4*b0)+(a1*b2-a2*b1)*(a1*b2-a2*b1)+(a1*b3-a3*b1)*(a1*b3-a3*b1)+(a1*b4-a4*b1)*(a1*b4-a4*b1)+(a2*b3-a3*b2)*(a2*b3-a3*b2)+(a2*b4-a4*b2)*(a2*b4-a4*b2)+(a3*b4-a4*b3)*(a3*b4-a4*b3)=(a0*a0+a1*a1+a2*a2+a3*a3+a4*a4)*(b0*b0+b1*b1+b2*b2+b3*b3+b4*b4)-(a0*b0+a1*b1+a2*b2+a3*b3+a4*b4)*(a0*b0+a1*b1+a2*b2+a3*b3+a4*b4):=by grind
theorem con5 (c0 c1 c2 c3 c4 q01 q02 q03 q04 q12 q13 q14 q23 q24 q34:Int):(c0*q12-c1*q02+c2*q01)*(c0*q12-c1*q02+c2*q01)+(c0*q13-c1*q03+c3*q01)*(c0*q13-c1*q03+c3*q01)+(c0*q14-c1*q04+c4*q01)*(c0*q14-c1*q04+c4*q01)+(c0*q23-c2*q03+c3*q02)*(c0*q23-c2*q03+c3*q02)+(c0*q24-c2*q04+c4*q02)*(c0*q24-c2*q04+c4*q02)+(c0*q34-c3*q04+c4*q03)*(c0*q34-c3*q04+c4*q03)+(c1*q23-c2*q13+c3*q12)*(c1*q23-c2*q13+c3*q12)+(c1*q24-c2*q14+c4*q12)*(c1*q24-c2*q14+c4*q12)+(c1*q34-c3*q14+c4*q13)*(c1*q34-c3*q14+c4*q13)+(c2*q34-c3*q24+c4*q23)*(c2*q34-c3*q24+c4*q23)=(c0*c0+c1*c1+c2*c2+c3*c3+c4*c4)*(q01*q01+q02*q02+q03*q03+q04*q04+q12*q12+q13*q13+q14*q14+q23*q23+q24*q24+q34*q34)-((c1*(q01)+c2*(q02)+c3*(q03)+c4*(q04))*(c1*(q01)+c2*(q02)+c3*(q03)+c4*(q04))+(c0*(-q01)+c2*(q12)+c3*(q13)+c4*(q14))*(c0*(-q01)+c2*(q12)+c3*(q13)+c4*(q14))+(c0*(-q02)+c1*(-q12)+c3*(q23)+c4*(q24))*(c0*(-q02)+c1*(-q12)+c3*(q23)+c4*(q24))+(c0*(-q03)+c1*(-q13)+c2*(-q23)+c4*(q34))*(c0*(-q03)+c1*(-q13)+c2*(-q23)+c4*(q34))+(c0*(-q04)+c1*(-q14)+c2*(-q24)+c3*(-q34))*(c0*(-q04)+c1*(-q14)+c2*(-q24)+c3*(-q34))):=by grind
set_option maxHeartbeats 4000000 in
theorem d4_eq (M:Nat→Nat→Int):dk M id 4 =
  (M 0 0*M 1 1-M 0 1*M 1 0)*(M 2 2*M 3 3-M 2 3*M 3 2)-(M 0 0*M 1 2-M 0 2*M 1 0)*(M 2 1*M 3 3-M 2 3*M 3 1)+(M 0 0*M 1 3-M 0 3*M 1 0)*(M 2 1*M 3 2-M 2 2*M 3 1)
  + (M 0 1*M 1 2-M 0 2*M 1 1)*(M 2 0*M 3 3-M 2 3*M 3 0)-(M 0 1*M 1 3-M 0 3*M 1 1)*(M 2 0*M 3 2-M 2 2*M 3 0)+(M 0 2*M 1 3-M 0 3*M 1 2)*(M 2 0*M 3 1-M 2 1*M 3 0):=by
 simp [dk,cols,srows,od,sumN,sg,ins,List.range,List.range.loop]
 grind
set_option maxRecDepth 100000 in
set_option maxHeartbeats 4000000 in
theorem d5_eq (M:Nat→Nat→Int):dk M id 5 =
  (M 0 0*M 1 1-M 0 1*M 1 0)*(M 2 2*(M 3 3*M 4 4-M 3 4*M 4 3)-M 2 3*(M 3 2*M 4 4-M 3 4*M 4 2)+M 2 4*(M 3 2*M 4 3-M 3 3*M 4 2))-(M 0 0*M 1 2-M 0 2*M 1 0)*(M 2 1*(M 3 3*M 4 4-M 3 4*M 4 3)-M 2 3*(M 3 1*M 4 4-M 3 4*M 4 1)+M 2 4*(M 3 1*M 4 3-M 3 3*M 4 1))+(M 0 0*M 1 3-M 0 3*M 1 0)*(M 2 1*(M 3 2*M 4 4-M 3 4*M 4 2)-M 2 2*(M 3 1*M 4 4-M 3 4*M 4 1)+M 2 4*(M 3 1*M 4 2-M 3 2*M 4 1))-(M 0 0*M 1 4-M 0 4*M 1 0)*(M 2 1*(M 3 2*M 4 3-M 3 3*M 4 2)-M 2 2*(M 3 1*M 4 3-M 3 3*M 4 1)+M 2 3*(M 3 1*M 4 2-M 3 2*M 4 1))+(M 0 1*M 1 2-M 0 2*M 1 1)*(M 2 0*(M 3 3*M 4 4-M 3 4*M 4 3)-M 2 3*(M 3 0*M 4 4-M 3 4*M 4 0)+M 2 4*(M 3 0*M 4 3-M 3 3*M 4 0))-(M 0 1*M 1 3-M 0 3*M 1 1)*(M 2 0*(M 3 2*M 4 4-M 3 4*M 4 2)-M 2 2*(M 3 0*M 4 4-M 3 4*M 4 0)+M 2 4*(M 3 0*M 4 2-M 3 2*M 4 0))+(M 0 1*M 1 4-M 0 4*M 1 1)*(M 2 0*(M 3 2*M 4 3-M 3 3*M 4 2)-M 2 2*(M 3 0*M 4 3-M 3 3*M 4 0)+M 2 3*(M 3 0*M 4 2-M 3 2*M 4 0))+(M 0 2*M 1 3-M 0 3*M 1 2)*(M 2 0*(M 3 1*M 4 4-M 3 4*M 4 1)-M 2 1*(M 3 0*M 4 4-M 3 4*M 4 0)+M 2 4*(M 3 0*M 4 1-M 3 1*M 4 0))-(M 0 2*M 1 4-M 0 4*M 1 2)*(M 2 0*(M 3 1*M 4 3-M 3 3*M 4 1)-M 2 1*(M 3 0*M 4 3-M 3 3*M 4 0)+M 2 3*(M 3 0*M 4 1-M 3 1*M 4 0))+(M 0 3*M 1 4-M 0 4*M 1 3)*(M 2 0*(M 3 1*M 4 2-M 3 2*M 4 1)-M 2 1*(M 3 0*M 4 2-M 3 2*M 4 0)+M 2 2*(M 3 0*M 4 1-M 3 1*M 4 0)):=by
 simp [dk,cols,srows,od,sumN,sg,ins,List.range,List.range.loop]
 grind
theorem norm_le {M:Nat→Nat→Int} (h:∀i,i < 5→∀j,j < 5→(M i j).natAbs≤60) {i:Nat} (hi:i < 5):(M i 0*M i 0+M i 1*M i 1+M i 2*M i 2+M i 3*M i 3)≤14400∧(M i 0*M i 0+M i 1*M i 1+M i 2*M i 2+M i 3*M i 3+M i 4*M i 4)≤18000∧0≤(M i 0*M i 0+M i 1*M i 1+M i 2*M i 2+M i 3*M i 3)∧0≤(M i 0*M i 0+M i 1*M i 1+M i 2*M i 2+M i 3*M i 3+M i 4*M i 4):=by
 have hsq:∀x:Int,0≤x*x:=fun x=>by rcases Int.le_total 0 x with h | h; exact Int.mul_nonneg h h; exact Int.mul_nonneg_of_nonpos_of_nonpos h h
 have a0:=sq_le (h i hi 0 (by decide))
 have a1:=sq_le (h i hi 1 (by decide))
 have a2:=sq_le (h i hi 2 (by decide))
 have a3:=sq_le (h i hi 3 (by decide))
 have a4:=sq_le (h i hi 4 (by decide))
 have b0:=hsq (M i 0)
 have b1:=hsq (M i 1)
 have b2:=hsq (M i 2)
 have b3:=hsq (M i 3)
 have b4:=hsq (M i 4)
 generalize M i 0*M i 0=z0 at *
 generalize M i 1*M i 1=z1 at *
 generalize M i 2*M i 2=z2 at *
 generalize M i 3*M i 3=z3 at *
 generalize M i 4*M i 4=z4 at *
 omega
theorem mul_le {a b A B:Int} (h1:a≤A) (h2:b≤B) (h3:0≤a) (h4:0≤B):a*b≤A*B:=
 Int.le_trans (Int.mul_le_mul_of_nonneg_left h2 h3) (Int.mul_le_mul_of_nonneg_right h1 h4)
theorem cs6 (p0 p1 p2 p3 p4 p5 t0 t1 t2 t3 t4 t5:Int):(p0*t0-p1*t1+p2*t2+p3*t3-p4*t4+p5*t5)*(p0*t0-p1*t1+p2*t2+p3*t3-p4*t4+p5*t5)≤(p0*p0+p1*p1+p2*p2+p3*p3+p4*p4+p5*p5)*(t0*t0+t1*t1+t2*t2+t3*t3+t4*t4+t5*t5)∧0≤p0*p0+p1*p1+p2*p2+p3*p3+p4*p4+p5*p5:=by
 have hc:=cs 6 (nth [p0,p1,p2,p3,p4,p5]) (nth [t0,-t1,t2,t3,-t4,t5])
 simp only [sumN,nth,List.getD_cons_zero,List.getD_cons_succ] at hc
 obtain ⟨hc0,hc1,hc2⟩:=hc
 have e1:p0*t0-p1*t1+p2*t2+p3*t3-p4*t4+p5*t5=((((((0+p0*t0)+p1 * -t1)+p2*t2)+p3*t3)+p4 * -t4)+p5*t5):=by grind
 have e2:p0*p0+p1*p1+p2*p2+p3*p3+p4*p4+p5*p5=((((((0+p0*p0)+p1*p1)+p2*p2)+p3*p3)+p4*p4)+p5*p5):=by grind
 have e3:t0*t0+t1*t1+t2*t2+t3*t3+t4*t4+t5*t5=((((((0+t0*t0) + -t1 * -t1)+t2*t2)+t3*t3) + -t4 * -t4)+t5*t5):=by grind
 rw [e1,e2,e3]
 exact ⟨hc2,hc0⟩
theorem cs10 (p0 p1 p2 p3 p4 p5 p6 p7 p8 p9 t0 t1 t2 t3 t4 t5 t6 t7 t8 t9:Int):(p0*t0-p1*t1+p2*t2-p3*t3+p4*t4-p5*t5+p6*t6+p7*t7-p8*t8+p9*t9)*(p0*t0-p1*t1+p2*t2-p3*t3+p4*t4-p5*t5+p6*t6+p7*t7-p8*t8+p9*t9)≤(p0*p0+p1*p1+p2*p2+p3*p3+p4*p4+p5*p5+p6*p6+p7*p7+p8*p8+p9*p9)*(t0*t0+t1*t1+t2*t2+t3*t3+t4*t4+t5*t5+t6*t6+t7*t7+t8*t8+t9*t9)∧0≤p0*p0+p1*p1+p2*p2+p3*p3+p4*p4+p5*p5+p6*p6+p7*p7+p8*p8+p9*p9:=by
 have hc:=cs 10 (nth [p0,p1,p2,p3,p4,p5,p6,p7,p8,p9]) (nth [t0,-t1,t2,-t3,t4,-t5,t6,t7,-t8,t9])
 simp only [sumN,nth,List.getD_cons_zero,List.getD_cons_succ] at hc
 obtain ⟨hc0,hc1,hc2⟩:=hc
 have e1:p0*t0-p1*t1+p2*t2-p3*t3+p4*t4-p5*t5+p6*t6+p7*t7-p8*t8+p9*t9=((((((((((0+p0*t0)+p1 * -t1)+p2*t2)+p3 * -t3)+p4*t4)+p5 * -t5)+p6*t6)+p7*t7)+p8 * -t8)+p9*t9):=by grind
 have e2:p0*p0+p1*p1+p2*p2+p3*p3+p4*p4+p5*p5+p6*p6+p7*p7+p8*p8+p9*p9=((((((((((0+p0*p0)+p1*p1)+p2*p2)+p3*p3)+p4*p4)+p5*p5)+p6*p6)+p7*p7)+p8*p8)+p9*p9):=by grind
 have e3:t0*t0+t1*t1+t2*t2+t3*t3+t4*t4+t5*t5+t6*t6+t7*t7+t8*t8+t9*t9=((((((((((0+t0*t0) + -t1 * -t1)+t2*t2) + -t3 * -t3)+t4*t4) + -t5 * -t5)+t6*t6)+t7*t7) + -t8 * -t8)+t9*t9):=by grind
 rw [e1,e2,e3]
 exact ⟨hc2,hc0⟩
theorem lag_le {P A B D a b:Int} (h:P=A*B-D*D) (hA:A≤a) (hB:B≤b) (h0:0≤A) (hb:0≤b):P≤a*b:=by
 have h1:=mul_le hA hB h0 hb
 have h2:0≤D*D:=by rcases Int.le_total 0 D with h | h; exact Int.mul_nonneg h h; exact Int.mul_nonneg_of_nonpos_of_nonpos h h
 rw [h]; omega
theorem con_le {P A B D a b:Int} (h:P=A*B-D) (hD:0≤D) (hA:A≤a) (hB:B≤b) (h0:0≤A) (hb:0≤b):P≤a*b:=by
 have h1:=mul_le hA hB h0 hb
 rw [h]; omega
theorem had4 {M:Nat→Nat→Int} (h:∀i,i < 5→∀j,j < 5→(M i j).natAbs≤60):dk M id 4*dk M id 4≤42998169600000000:=by
 have n0:=norm_le h (i:=0) (by decide)
 have n1:=norm_le h (i:=1) (by decide)
 have n2:=norm_le h (i:=2) (by decide)
 have n3:=norm_le h (i:=3) (by decide)
 rw [d4_eq]
 have hc:=cs6 (M 0 0*M 1 1-M 0 1*M 1 0) (M 0 0*M 1 2-M 0 2*M 1 0) (M 0 0*M 1 3-M 0 3*M 1 0) (M 0 1*M 1 2-M 0 2*M 1 1) (M 0 1*M 1 3-M 0 3*M 1 1) (M 0 2*M 1 3-M 0 3*M 1 2) (M 2 2*M 3 3-M 2 3*M 3 2) (M 2 1*M 3 3-M 2 3*M 3 1) (M 2 1*M 3 2-M 2 2*M 3 1) (M 2 0*M 3 3-M 2 3*M 3 0) (M 2 0*M 3 2-M 2 2*M 3 0) (M 2 0*M 3 1-M 2 1*M 3 0)
 refine Int.le_trans hc.1 ?_
 have X:(M 0 0*M 1 1-M 0 1*M 1 0)*(M 0 0*M 1 1-M 0 1*M 1 0)+(M 0 0*M 1 2-M 0 2*M 1 0)*(M 0 0*M 1 2-M 0 2*M 1 0)+(M 0 0*M 1 3-M 0 3*M 1 0)*(M 0 0*M 1 3-M 0 3*M 1 0)+(M 0 1*M 1 2-M 0 2*M 1 1)*(M 0 1*M 1 2-M 0 2*M 1 1)+(M 0 1*M 1 3-M 0 3*M 1 1)*(M 0 1*M 1 3-M 0 3*M 1 1)+(M 0 2*M 1 3-M 0 3*M 1 2)*(M 0 2*M 1 3-M 0 3*M 1 2)≤14400*14400:=lag_le (lag4 (M 0 0) (M 0 1) (M 0 2) (M 0 3) (M 1 0) (M 1 1) (M 1 2) (M 1 3)) n0.1 n1.1 n0.2.2.1 (by decide)
 have Y:(M 2 2*M 3 3-M 2 3*M 3 2)*(M 2 2*M 3 3-M 2 3*M 3 2)+(M 2 1*M 3 3-M 2 3*M 3 1)*(M 2 1*M 3 3-M 2 3*M 3 1)+(M 2 1*M 3 2-M 2 2*M 3 1)*(M 2 1*M 3 2-M 2 2*M 3 1)+(M 2 0*M 3 3-M 2 3*M 3 0)*(M 2 0*M 3 3-M 2 3*M 3 0)+(M 2 0*M 3 2-M 2 2*M 3 0)*(M 2 0*M 3 2-M 2 2*M 3 0)+(M 2 0*M 3 1-M 2 1*M 3 0)*(M 2 0*M 3 1-M 2 1*M 3 0)≤14400*14400:=by
  have e:(M 2 2*M 3 3-M 2 3*M 3 2)*(M 2 2*M 3 3-M 2 3*M 3 2)+(M 2 1*M 3 3-M 2 3*M 3 1)*(M 2 1*M 3 3-M 2 3*M 3 1)+(M 2 1*M 3 2-M 2 2*M 3 1)*(M 2 1*M 3 2-M 2 2*M 3 1)+(M 2 0*M 3 3-M 2 3*M 3 0)*(M 2 0*M 3 3-M 2 3*M 3 0)+(M 2 0*M 3 2-M 2 2*M 3 0)*(M 2 0*M 3 2-M 2 2*M 3 0)+(M 2 0*M 3 1-M 2 1*M 3 0)*(M 2 0*M 3 1-M 2 1*M 3 0)=(M 2 0*M 3 1-M 2 1*M 3 0)*(M 2 0*M 3 1-M 2 1*M 3 0)+(M 2 0*M 3 2-M 2 2*M 3 0)*(M 2 0*M 3 2-M 2 2*M 3 0)+(M 2 0*M 3 3-M 2 3*M 3 0)*(M 2 0*M 3 3-M 2 3*M 3 0)+(M 2 1*M 3 2-M 2 2*M 3 1)*(M 2 1*M 3 2-M 2 2*M 3 1)+(M 2 1*M 3 3-M 2 3*M 3 1)*(M 2 1*M 3 3-M 2 3*M 3 1)+(M 2 2*M 3 3-M 2 3*M 3 2)*(M 2 2*M 3 3-M 2 3*M 3 2):=by ac_rfl
  rw [e]; exact lag_le (lag4 (M 2 0) (M 2 1) (M 2 2) (M 2 3) (M 3 0) (M 3 1) (M 3 2) (M 3 3)) n2.1 n3.1 n2.2.2.1 (by decide)
 exact Int.le_trans (mul_le X Y hc.2 (by decide)) (by decide)
set_option maxRecDepth 100000 in
theorem had5 {M:Nat→Nat→Int} (h:∀i,i < 5→∀j,j < 5→(M i j).natAbs≤60):dk M id 5*dk M id 5≤1889568000000000000000:=by
 have hsq:∀x:Int,0≤x*x:=fun x=>by rcases Int.le_total 0 x with h | h; exact Int.mul_nonneg h h; exact Int.mul_nonneg_of_nonpos_of_nonpos h h
 have n0:=norm_le h (i:=0) (by decide)
 have n1:=norm_le h (i:=1) (by decide)
 have n2:=norm_le h (i:=2) (by decide)
 have n3:=norm_le h (i:=3) (by decide)
 have n4:=norm_le h (i:=4) (by decide)
 rw [d5_eq]
 have hc:=cs10 (M 0 0*M 1 1-M 0 1*M 1 0) (M 0 0*M 1 2-M 0 2*M 1 0) (M 0 0*M 1 3-M 0 3*M 1 0) (M 0 0*M 1 4-M 0 4*M 1 0) (M 0 1*M 1 2-M 0 2*M 1 1) (M 0 1*M 1 3-M 0 3*M 1 1) (M 0 1*M 1 4-M 0 4*M 1 1) (M 0 2*M 1 3-M 0 3*M 1 2) (M 0 2*M 1 4-M 0 4*M 1 2) (M 0 3*M 1 4-M 0 4*M 1 3) (M 2 2*(M 3 3*M 4 4-M 3 4*M 4 3)-M 2 3*(M 3 2*M 4 4-M 3 4*M 4 2)+M 2 4*(M 3 2*M 4 3-M 3 3*M 4 2)) (M 2 1*(M 3 3*M 4 4-M 3 4*M 4 3)-M 2 3*(M 3 1*M 4 4-M 3 4*M 4 1)+M 2 4*(M 3 1*M 4 3-M 3 3*M 4 1)) (M 2 1*(M 3 2*M 4 4-M 3 4*M 4 2)-M 2 2*(M 3 1*M 4 4-M 3 4*M 4 1)+M 2 4*(M 3 1*M 4 2-M 3 2*M 4 1)) (M 2 1*(M 3 2*M 4 3-M 3 3*M 4 2)-M 2 2*(M 3 1*M 4 3-M 3 3*M 4 1)+M 2 3*(M 3 1*M 4 2-M 3 2*M 4 1)) (M 2 0*(M 3 3*M 4 4-M 3 4*M 4 3)-M 2 3*(M 3 0*M 4 4-M 3 4*M 4 0)+M 2 4*(M 3 0*M 4 3-M 3 3*M 4 0)) (M 2 0*(M 3 2*M 4 4-M 3 4*M 4 2)-M 2 2*(M 3 0*M 4 4-M 3 4*M 4 0)+M 2 4*(M 3 0*M 4 2-M 3 2*M 4 0)) (M 2 0*(M 3 2*M 4 3-M 3 3*M 4 2)-M 2 2*(M 3 0*M 4 3-M 3 3*M 4 0)+M 2 3*(M 3 0*M 4 2-M 3 2*M 4 0)) (M 2 0*(M 3 1*M 4 4-M 3 4*M 4 1)-M 2 1*(M 3 0*M 4 4-M 3 4*M 4 0)+M 2 4*(M 3 0*M 4 1-M 3 1*M 4 0)) (M 2 0*(M 3 1*M 4 3-M 3 3*M 4 1)-M 2 1*(M 3 0*M 4 3-M 3 3*M 4 0)+M 2 3*(M 3 0*M 4 1-M 3 1*M 4 0)) (M 2 0*(M 3 1*M 4 2-M 3 2*M 4 1)-M 2 1*(M 3 0*M 4 2-M 3 2*M 4 0)+M 2 2*(M 3 0*M 4 1-M 3 1*M 4 0))
 refine Int.le_trans hc.1 ?_
 have X:(M 0 0*M 1 1-M 0 1*M 1 0)*(M 0 0*M 1 1-M 0 1*M 1 0)+(M 0 0*M 1 2-M 0 2*M 1 0)*(M 0 0*M 1 2-M 0 2*M 1 0)+(M 0 0*M 1 3-M 0 3*M 1 0)*(M 0 0*M 1 3-M 0 3*M 1 0)+(M 0 0*M 1 4-M 0 4*M 1 0)*(M 0 0*M 1 4-M 0 4*M 1 0)+(M 0 1*M 1 2-M 0 2*M 1 1)*(M 0 1*M 1 2-M 0 2*M 1 1)+(M 0 1*M 1 3-M 0 3*M 1 1)*(M 0 1*M 1 3-M 0 3*M 1 1)+(M 0 1*M 1 4-M 0 4*M 1 1)*(M 0 1*M 1 4-M 0 4*M 1 1)+(M 0 2*M 1 3-M 0 3*M 1 2)*(M 0 2*M 1 3-M 0 3*M 1 2)+(M 0 2*M 1 4-M 0 4*M 1 2)*(M 0 2*M 1 4-M 0 4*M 1 2)+(M 0 3*M 1 4-M 0 4*M 1 3)*(M 0 3*M 1 4-M 0 4*M 1 3)≤18000*18000:=lag_le (lag5 (M 0 0) (M 0 1) (M 0 2) (M 0 3) (M 0 4) (M 1 0) (M 1 1) (M 1 2) (M 1 3) (M 1 4)) n0.2.1 n1.2.1 n0.2.2.2 (by decide)
 have Q:=lag_le (lag5 (M 3 0) (M 3 1) (M 3 2) (M 3 3) (M 3 4) (M 4 0) (M 4 1) (M 4 2) (M 4 3) (M 4 4)) n3.2.1 n4.2.1 n3.2.2.2 (by decide)
 have Y:(M 2 2*(M 3 3*M 4 4-M 3 4*M 4 3)-M 2 3*(M 3 2*M 4 4-M 3 4*M 4 2)+M 2 4*(M 3 2*M 4 3-M 3 3*M 4 2))*(M 2 2*(M 3 3*M 4 4-M 3 4*M 4 3)-M 2 3*(M 3 2*M 4 4-M 3 4*M 4 2)+M 2 4*(M 3 2*M 4 3-M 3 3*M 4 2))+(M 2 1*(M 3 3*M 4 4-M 3 4*M 4 3)-M 2 3*(M 3 1*M 4 4-M 3 4*M 4 1)+M 2 4*(M 3 1*M 4 3-M 3 3*M 4 1))*(M 2 1*(M 3 3*M 4 4-M 3 4*M 4 3)-M 2 3*(M 3 1*M 4 4-M 3 4*M 4 1)+M 2 4*(M 3 1*M 4 3-M 3 3*M 4 1))+(M 2 1*(M 3 2*M 4 4-M 3 4*M 4 2)-M 2 2*(M 3 1*M 4 4-M 3 4*M 4 1)+M 2 4*(M 3 1*M 4 2-M 3 2*M 4 1))*(M 2 1*(M 3 2*M 4 4-M 3 4*M 4 2)-M 2 2*(M 3 1*M 4 4-M 3 4*M 4 1)+M 2 4*(M 3 1*M 4 2-M 3 2*M 4 1))+(M 2 1*(M 3 2*M 4 3-M 3 3*M 4 2)-M 2 2*(M 3 1*M 4 3-M 3 3*M 4 1)+M 2 3*(M 3 1*M 4 2-M 3 2*M 4 1))*(M 2 1*(M 3 2*M 4 3-M 3 3*M 4 2)-M 2 2*(M 3 1*M 4 3-M 3 3*M 4 1)+M 2 3*(M 3 1*M 4 2-M 3 2*M 4 1))+(M 2 0*(M 3 3*M 4 4-M 3 4*M 4 3)-M 2 3*(M 3 0*M 4 4-M 3 4*M 4 0)+M 2 4*(M 3 0*M 4 3-M 3 3*M 4 0))*(M 2 0*(M 3 3*M 4 4-M 3 4*M 4 3)-M 2 3*(M 3 0*M 4 4-M 3 4*M 4 0)+M 2 4*(M 3 0*M 4 3-M 3 3*M 4 0))+(M 2 0*(M 3 2*M 4 4-M 3 4*M 4 2)-M 2 2*(M 3 0*M 4 4-M 3 4*M 4 0)+M 2 4*(M 3 0*M 4 2-M 3 2*M 4 0))*(M 2 0*(M 3 2*M 4 4-M 3 4*M 4 2)-M 2 2*(M 3 0*M 4 4-M 3 4*M 4 0)+M 2 4*(M 3 0*M 4 2-M 3 2*M 4 0))+(M 2 0*(M 3 2*M 4 3-M 3 3*M 4 2)-M 2 2*(M 3 0*M 4 3-M 3 3*M 4 0)+M 2 3*(M 3 0*M 4 2-M 3 2*M 4 0))*(M 2 0*(M 3 2*M 4 3-M 3 3*M 4 2)-M 2 2*(M 3 0*M 4 3-M 3 3*M 4 0)+M 2 3*(M 3 0*M 4 2-M 3 2*M 4 0))+(M 2 0*(M 3 1*M 4 4-M 3 4*M 4 1)-M 2 1*(M 3 0*M 4 4-M 3 4*M 4 0)+M 2 4*(M 3 0*M 4 1-M 3 1*M 4 0))*(M 2 0*(M 3 1*M 4 4-M 3 4*M 4 1)-M 2 1*(M 3 0*M 4 4-M 3 4*M 4 0)+M 2 4*(M 3 0*M 4 1-M 3 1*M 4 0))+(M 2 0*(M 3 1*M 4 3-M 3 3*M 4 1)-M 2 1*(M 3 0*M 4 3-M 3 3*M 4 0)+M 2 3*(M 3 0*M 4 1-M 3 1*M 4 0))*(M 2 0*(M 3 1*M 4 3-M 3 3*M 4 1)-M 2 1*(M 3 0*M 4 3-M 3 3*M 4 0)+M 2 3*(M 3 0*M 4 1-M 3 1*M 4 0))+(M 2 0*(M 3 1*M 4 2-M 3 2*M 4 1)-M 2 1*(M 3 0*M 4 2-M 3 2*M 4 0)+M 2 2*(M 3 0*M 4 1-M 3 1*M 4 0))*(M 2 0*(M 3 1*M 4 2-M 3 2*M 4 1)-M 2 1*(M 3 0*M 4 2-M 3 2*M 4 0)+M 2 2*(M 3 0*M 4 1-M 3 1*M 4 0))≤18000*(18000*18000):=by
  have e:(M 2 2*(M 3 3*M 4 4-M 3 4*M 4 3)-M 2 3*(M 3 2*M 4 4-M 3 4*M 4 2)+M 2 4*(M 3 2*M 4 3-M 3 3*M 4 2))*(M 2 2*(M 3 3*M 4 4-M 3 4*M 4 3)-M 2 3*(M 3 2*M 4 4-M 3 4*M 4 2)+M 2 4*(M 3 2*M 4 3-M 3 3*M 4 2))+(M 2 1*(M 3 3*M 4 4-M 3 4*M 4 3)-M 2 3*(M 3 1*M 4 4-M 3 4*M 4 1)+M 2 4*(M 3 1*M 4 3-M 3 3*M 4 1))*(M 2 1*(M 3 3*M 4 4-M 3 4*M 4 3)-M 2 3*(M 3 1*M 4 4-M 3 4*M 4 1)+M 2 4*(M 3 1*M 4 3-M 3 3*M 4 1))+(M 2 1*(M 3 2*M 4 4-M 3 4*M 4 2)-M 2 2*(M 3 1*M 4 4-M 3 4*M 4 1)+M 2 4*(M 3 1*M 4 2-M 3 2*M 4 1))*(M 2 1*(M 3 2*M 4 4-M 3 4*M 4 2)-M 2 2*(M 3 1*M 4 4-M 3 4*M 4 1)+M 2 4*(M 3 1*M 4 2-M 3 2*M 4 1))+(M 2 1*(M 3 2*M 4 3-M 3 3*M 4 2)-M 2 2*(M 3 1*M 4 3-M 3 3*M 4 1)+M 2 3*(M 3 1*M 4 2-M 3 2*M 4 1))*(M 2 1*(M 3 2*M 4 3-M 3 3*M 4 2)-M 2 2*(M 3 1*M 4 3-M 3 3*M 4 1)+M 2 3*(M 3 1*M 4 2-M 3 2*M 4 1))+(M 2 0*(M 3 3*M 4 4-M 3 4*M 4 3)-M 2 3*(M 3 0*M 4 4-M 3 4*M 4 0)+M 2 4*(M 3 0*M 4 3-M 3 3*M 4 0))*(M 2 0*(M 3 3*M 4 4-M 3 4*M 4 3)-M 2 3*(M 3 0*M 4 4-M 3 4*M 4 0)+M 2 4*(M 3 0*M 4 3-M 3 3*M 4 0))+(M 2 0*(M 3 2*M 4 4-M 3 4*M 4 2)-M 2 2*(M 3 0*M 4 4-M 3 4*M 4 0)+M 2 4*(M 3 0*M 4 2-M 3 2*M 4 0))*(M 2 0*(M 3 2*M 4 4-M 3 4*M 4 2)-M 2 2*(M 3 0*M 4 4-M 3 4*M 4 0)+M 2 4*(M 3 0*M 4 2-M 3 2*M 4 0))+(M 2 0*(M 3 2*M 4 3-M 3 3*M 4 2)-M 2 2*(M 3 0*M 4 3-M 3 3*M 4 0)+M 2 3*(M 3 0*M 4 2-M 3 2*M 4 0))*(M 2 0*(M 3 2*M 4 3-M 3 3*M 4 2)-M 2 2*(M 3 0*M 4 3-M 3 3*M 4 0)+M 2 3*(M 3 0*M 4 2-M 3 2*M 4 0))+(M 2 0*(M 3 1*M 4 4-M 3 4*M 4 1)-M 2 1*(M 3 0*M 4 4-M 3 4*M 4 0)+M 2 4*(M 3 0*M 4 1-M 3 1*M 4 0))*(M 2 0*(M 3 1*M 4 4-M 3 4*M 4 1)-M 2 1*(M 3 0*M 4 4-M 3 4*M 4 0)+M 2 4*(M 3 0*M 4 1-M 3 1*M 4 0))+(M 2 0*(M 3 1*M 4 3-M 3 3*M 4 1)-M 2 1*(M 3 0*M 4 3-M 3 3*M 4 0)+M 2 3*(M 3 0*M 4 1-M 3 1*M 4 0))*(M 2 0*(M 3 1*M 4 3-M 3 3*M 4 1)-M 2 1*(M 3 0*M 4 3-M 3 3*M 4 0)+M 2 3*(M 3 0*M 4 1-M 3 1*M 4 0))+(M 2 0*(M 3 1*M 4 2-M 3 2*M 4 1)-M 2 1*(M 3 0*M 4 2-M 3 2*M 4 0)+M 2 2*(M 3 0*M 4 1-M 3 1*M 4 0))*(M 2 0*(M 3 1*M 4 2-M 3 2*M 4 1)-M 2 1*(M 3 0*M 4 2-M 3 2*M 4 0)+M 2 2*(M 3 0*M 4 1-M 3 1*M 4 0))=(M 2 0*(M 3 1*M 4 2-M 3 2*M 4 1)-M 2 1*(M 3 0*M 4 2-M 3 2*M 4 0)+M 2 2*(M 3 0*M 4 1-M 3 1*M 4 0))*(M 2 0*(M 3 1*M 4 2-M 3 2*M 4 1)-M 2 1*(M 3 0*M 4 2-M 3 2*M 4 0)+M 2 2*(M 3 0*M 4 1-M 3 1*M 4 0))+(M 2 0*(M 3 1*M 4 3-M 3 3*M 4 1)-M 2 1*(M 3 0*M 4 3-M 3 3*M 4 0)+M 2 3*(M 3 0*M 4 1-M 3 1*M 4 0))*(M 2 0*(M 3 1*M 4 3-M 3 3*M 4 1)-M 2 1*(M 3 0*M 4 3-M 3 3*M 4 0)+M 2 3*(M 3 0*M 4 1-M 3 1*M 4 0))+(M 2 0*(M 3 1*M 4 4-M 3 4*M 4 1)-M 2 1*(M 3 0*M 4 4-M 3 4*M 4 0)+M 2 4*(M 3 0*M 4 1-M 3 1*M 4 0))*(M 2 0*(M 3 1*M 4 4-M 3 4*M 4 1)-M 2 1*(M 3 0*M 4 4-M 3 4*M 4 0)+M 2 4*(M 3 0*M 4 1-M 3 1*M 4 0))+(M 2 0*(M 3 2*M 4 3-M 3 3*M 4 2)-M 2 2*(M 3 0*M 4 3-M 3 3*M 4 0)+M 2 3*(M 3 0*M 4 2-M 3 2*M 4 0))*(M 2 0*(M 3 2*M 4 3-M 3 3*M 4 2)-M 2 2*(M 3 0*M 4 3-M 3 3*M 4 0)+M 2 3*(M 3 0*M 4 2-M 3 2*M 4 0))+(M 2 0*(M 3 2*M 4 4-M 3 4*M 4 2)-M 2 2*(M 3 0*M 4 4-M 3 4*M 4 0)+M 2 4*(M 3 0*M 4 2-M 3 2*M 4 0))*(M 2 0*(M 3 2*M 4 4-M 3 4*M 4 2)-M 2 2*(M 3 0*M 4 4-M 3 4*M 4 0)+M 2 4*(M 3 0*M 4 2-M 3 2*M 4 0))+(M 2 0*(M 3 3*M 4 4-M 3 4*M 4 3)-M 2 3*(M 3 0*M 4 4-M 3 4*M 4 0)+M 2 4*(M 3 0*M 4 3-M 3 3*M 4 0))*(M 2 0*(M 3 3*M 4 4-M 3 4*M 4 3)-M 2 3*(M 3 0*M 4 4-M 3 4*M 4 0)+M 2 4*(M 3 0*M 4 3-M 3 3*M 4 0))+(M 2 1*(M 3 2*M 4 3-M 3 3*M 4 2)-M 2 2*(M 3 1*M 4 3-M 3 3*M 4 1)+M 2 3*(M 3 1*M 4 2-M 3 2*M 4 1))*(M 2 1*(M 3 2*M 4 3-M 3 3*M 4 2)-M 2 2*(M 3 1*M 4 3-M 3 3*M 4 1)+M 2 3*(M 3 1*M 4 2-M 3 2*M 4 1))+(M 2 1*(M 3 2*M 4 4-M 3 4*M 4 2)-M 2 2*(M 3 1*M 4 4-M 3 4*M 4 1)+M 2 4*(M 3 1*M 4 2-M 3 2*M 4 1))*(M 2 1*(M 3 2*M 4 4-M 3 4*M 4 2)-M 2 2*(M 3 1*M 4 4-M 3 4*M 4 1)+M 2 4*(M 3 1*M 4 2-M 3 2*M 4 1))+(M 2 1*(M 3 3*M 4 4-M 3 4*M 4 3)-M 2 3*(M 3 1*M 4 4-M 3 4*M 4 1)+M 2 4*(M 3 1*M 4 3-M 3 3*M 4 1))*(M 2 1*(M 3 3*M 4 4-M 3 4*M 4 3)-M 2 3*(M 3 1*M 4 4-M 3 4*M 4 1)+M 2 4*(M 3 1*M 4 3-M 3 3*M 4 1))+(M 2 2*(M 3 3*M 4 4-M 3 4*M 4 3)-M 2 3*(M 3 2*M 4 4-M 3 4*M 4 2)+M 2 4*(M 3 2*M 4 3-M 3 3*M 4 2))*(M 2 2*(M 3 3*M 4 4-M 3 4*M 4 3)-M 2 3*(M 3 2*M 4 4-M 3 4*M 4 2)+M 2 4*(M 3 2*M 4 3-M 3 3*M 4 2)):=by ac_rfl
  rw [e]; exact con_le (con5 (M 2 0) (M 2 1) (M 2 2) (M 2 3) (M 2 4) (M 3 0*M 4 1-M 3 1*M 4 0) (M 3 0*M 4 2-M 3 2*M 4 0) (M 3 0*M 4 3-M 3 3*M 4 0) (M 3 0*M 4 4-M 3 4*M 4 0) (M 3 1*M 4 2-M 3 2*M 4 1) (M 3 1*M 4 3-M 3 3*M 4 1) (M 3 1*M 4 4-M 3 4*M 4 1) (M 3 2*M 4 3-M 3 3*M 4 2) (M 3 2*M 4 4-M 3 4*M 4 2) (M 3 3*M 4 4-M 3 4*M 4 3)) (by repeat (first | exact hsq _ | apply Int.add_nonneg)) n2.2.1 Q n2.2.2.2 (by decide)
 exact Int.le_trans (mul_le X Y hc.2 (by decide)) (by decide)
theorem had60 (M:Nat→Nat→Int) (h:∀i,i < 5→∀j,j < 5→(M i j).natAbs≤60):(dk M id 4*dk M id 5).natAbs≤9223372036854775807:=by
 have hsq:∀x:Int,0≤x*x:=fun x=>by rcases Int.le_total 0 x with h | h; exact Int.mul_nonneg h h; exact Int.mul_nonneg_of_nonpos_of_nonpos h h
 have e:dk M id 4*dk M id 5*(dk M id 4*dk M id 5)=(dk M id 4*dk M id 4)*(dk M id 5*dk M id 5):=by grind
 refine root_le (K:=42998169600000000*1889568000000000000000) ?_ (by decide)
 rw [e]
 exact mul_le (had4 h) (had5 h) (hsq _) (by decide)
end Go.Proofs.YtcoeneldaohpnaaGreat.Lin
