import Derived.Test.YtgfnmkenpgnllaaGreatRunD
import Derived.Test.YtgfnmkenpgnllaaGreatRefB
set_option maxRecDepth 100000
set_option maxHeartbeats 4000000
namespace Go.Proofs.YtgfnmkenpgnllaaGreat
open Lin
theorem ZN5{m:List (List Int)}{i:Nat}(h:i < m.length):row (fm m) i=mOf m i:=by
 unfold row fm mOf;rw [Za2,List.getElem?_map,Za9 h];simp [h]
theorem ZA0(m:List (List Int)):(fm m).length=m.length:=by simp [fm]
theorem ZP8{m:List (List Int)}{q:Nat}{M':Nat→Nat→Int}{C:Nat→Nat}{k:Nat}{sgn:Int}(h:Red (mOf m) m.length q M' C k sgn){r:Nat→Int}(hr:r∈fm m):∃i,i < m.length∧r=M' i:=by
 obtain ⟨i,a,b⟩:=ZHL hr;rw [ZA0] at a;rw [ZN5 a] at b;obtain ⟨f,d,c⟩:=h.sup i a
 exact ⟨f,d,by rw [←b,c]⟩
theorem ZKL{m:List (List Int)}{q:Nat}{M':Nat→Nat→Int}{C:Nat→Nat}{k:Nat}{sgn:Int}(h:Red (mOf m) m.length q M' C k sgn){i:Nat}(hi:i < m.length):M' i∈fm m:=by
 obtain ⟨c,a,b⟩:=h.sub i hi;rw [b,←ZN5 a]
 exact ZBz (by rw [ZA0]; exact a)
theorem ZDw{m:List (List Int)}{c:Nat}{M':Nat→Nat→Int}{C:Nat→Nat}{k:Nat}{sgn:Int}(h:Red (mOf m) m.length c M' C k sgn):k=(ZAK c m).length:=by
 have b:=ZAy c m;obtain ⟨K,hK,f⟩:=b.free;rw [←ZA0 (ZAK c m)]
 refine ZOe h.done hK.2 f (fun a ha=>?_) (fun i hi=>b.dep _ (ZKL h hi))
 obtain ⟨i,d,g⟩:=ZP8 h (b.mem _ (ZBz ha))
 exact ⟨i,d,fun j _=>by rw [g]⟩
theorem ZMo{m:List (List Int)}{c:Nat}{M':Nat→Nat→Int}{C:Nat→Nat}{k f:Nat}{sgn:Int}{v:Nat→Int}(h:Red (mOf m) m.length c M' C k sgn)(hk:k+1=c)(hv:Nu M' c k C f v) :
  upr (low ((List.range c).map v))=ZAR c m:=by
 have A:=ZDw h;unfold ZAR
 rw [if_pos (by omega)]
 have n:=ZAy c m
 have p:(fm (ZAK c m)).length+1=c:=by rw [ZA0]; omega
 have s:∀i,i < m.length→sumN c (fun j=>M' i j*mu (fm (ZAK c m)) j)=0:=by
  intro i t;obtain ⟨e,l,y,r⟩:=n.dep _ (ZKL h t)
  have b:e*sumN c (fun j=>M' i j*mu (fm (ZAK c m)) j)=0:=by
   rw [←ZAX,ZAC (g:=fun j=>sumN (fm (ZAK c m)).length (fun a=>l a*(row (fm (ZAK c m)) a j*mu (fm (ZAK c m)) j))) (fun j hj=>by
    rw [←Int.mul_assoc,r j hj]; unfold comb; rw [←ZAU]; exact ZAC fun i _=>by rw [Int.mul_assoc])]
   rw [ZBT]
   refine ZAf fun a ha=>?_
   rw [ZAX];have:=ZJ3 ha;rw [p] at this;rw [this,Int.mul_zero]
  rcases Int.mul_eq_zero.1 b with h3 | h3
  ·exact absurd h3 y
  ·exact h3
 have o:∀j,j < c→dk M' C k*mu (fm (ZAK c m)) j=mu (fm (ZAK c m)) f*v j:=fun j hj=>ZOf h.done hv s hj
 have d:mu (fm (ZAK c m)) f≠0:=by
  obtain ⟨x,z,b⟩:=ZJ4 (H:=fm (ZAK c m)) (by rw [p]; exact n.free)
  intro e
  have:=o x (by omega)
  rw [e,Int.zero_mul] at this
  rcases Int.mul_eq_zero.1 this with h3 | h3
  ·exact h.done.nz h3
  ·exact b h3
 refine ZOi d h.done.nz ?_;unfold muL;rw [List.map_map,List.map_map]
 exact List.map_congr_left fun j hj=>(o j (by simpa using hj)).symm
theorem ZGY{m:List (List Int)}{c B q:Nat}{M':Nat→Nat→Int}{C:Nat→Nat}{k:Nat}{sgn:Int}(hx:Mx c B m)(h:Red (mOf m) m.length q M' C k sgn):∀i,i < m.length→∀j,j < c→(M' i j).natAbs≤B:=by
 intro i l j o;obtain ⟨f,b,n⟩:=h.sub i l;rw [n];unfold mOf
 have d:m.getD f []∈m:=by rw [Za2,Za9 b]; exact List.getElem_mem b
 have g:=hx.row _ d;refine hx.bd _ d _ ?_;generalize m.getD f []=r at g ⊢
 have a:j < r.length:=by omega
 have e:r.getD j 0=r[j]:=by simp [a]
 rw [e]; exact List.getElem_mem a
theorem ZKM(B:Nat)(h:1≤B):∀k,1≤fb B k
 | 0=>Za4 _
 | k+1=>by
  unfold fb
  exact Nat.mul_pos (Nat.mul_pos (by omega) h) (ZKM B h k)
theorem ZGZ{k c:Nat}{C:Nat→Nat}(h:Rising k c C):k≤c:=by
 have a:∀i,i < k→i≤C i:=by
  intro i
  induction i with
  | zero=>intro _; omega
  | succ i ih=>
   intro b
   have:=ih (by omega)
   have:=h.1 i (i+1) (by omega) b
   omega
 by_cases hk:k=0
 ·omega
 ·have:=a (k-1) (by omega)
  have:=h.2 (k-1) (by omega)
  omega
theorem ZQz{m:List (List Int)}{c B:Nat}(hx:Mx c B m)(h34:fb B 3*(fb B 4+fb B 5)≤9223372036854775807)
 (had:∀M':Nat→Nat→Int,(∀i,i < 5→∀j,j < 5→(M' i j).natAbs≤B)→(dk M' id 4*dk M' id 5).natAbs≤9223372036854775807):Bd (mOf m) m.length c:=by
 intro q M' C k F p h i g j d;have a:=ZGY hx h;have x:=ZGZ h.done.rise;have s:=hx.c5;have l:=h.done.kn
 have f:∀b,b < k+1→C b < c:=fun b hb=>Nat.lt_of_lt_of_le (h.done.rise.2 b hb) p
 have y:=hx.small
 by_cases h4:k+1≤4
 ·have L:=ZOc (B:=B) (n:=m.length) (c:=c) (k:=k+1) (i:=i) (j:=j) (M:=M') (C:=C) hx.pos a l f g d
  have P:=ZJ0 (B:=B) (k:=k) (M:=M') (C:=C) (fun i g b hb=>a i (by omega) _ (f b (by omega)))
  have N:fb B (k+1)≤fb B 4:=ZBG hx.pos h4
  have O:fb B (k+1+1)≤fb B 5:=ZBG hx.pos (by omega)
  have J:fb B k≤fb B 3:=ZBG hx.pos (by omega)
  have D:=ZKM B hx.pos 3
  have G:(dk M' C k*rr M' C (k+1) i j).natAbs≤fb B 3*(fb B 4+fb B 5):=by
   rw [Int.natAbs_mul]
   exact Nat.mul_le_mul (by omega) (by omega)
  have p:(rr M' C (k+1) i j).natAbs≤fb B 3*(fb B 4+fb B 5):=
   Zaa8 (show (rr M' C (k+1) i j).natAbs≤1*(fb B 4+fb B 5) by omega) (Nat.mul_le_mul_right _ D)
  omega
 ·have A:k=4:=by omega
  subst A
  have v:c=5:=by omega
  subst v
  have o:q=5:=by omega
  subst o
  have hid:∀b,b < 5→C b=b:=fun b hb=>ZGN h.done.rise hb
  have E:dk M' C 4=dk M' id 4:=ZDu (fun _ _=>rfl) fun b hb=>hid b (by omega)
  have r:dk M' C 5=dk M' id 5:=ZDu (fun _ _=>rfl) fun b hb=>hid b hb
  have Q:=ZJ0 (B:=B) (k:=5) (M:=M') (C:=id) (fun i g b hb=>a i (by omega) _ hb)
  have t:=had M' (fun i g j d=>a i (by omega) j d)
  have z:rr M' C (4+1) i j=0∨rr M' C (4+1) i j=dk M' id 5:=by
   by_cases hi5:i < 5
   ·have:=ZDs h.done.nz h.done.rise.1 hi5 d
    rw [hid j d] at this
    by_cases e:i=j
    ·rw [if_pos e] at this; right; rw [this]; exact r
    ·rw [if_neg e] at this; left; exact this
   ·left; exact h.done.zero i (by omega) g j d
  rw [E]
  rcases z with e | e <;> rw [e]
  ·simp
  ·exact ⟨t,by omega⟩
end Go.Proofs.YtgfnmkenpgnllaaGreat
namespace Go.Proofs.YtgfnmkenpgnllaaGreat.Lin
theorem ZOo{S X Y a b:Int}(h:S*S≤X*Y)(hX:0≤X)(hY:0≤Y):(S+a*b)*(S+a*b)≤(X+a*a)*(Y+b*b):=by
 have c:∀x:Int,0≤x*x:=fun x=>by rcases Int.le_total 0 x with h | h; exact Int.mul_nonneg h h; exact Int.mul_nonneg_of_nonpos_of_nonpos h h
 have d:2*(S*(a*b))≤X*(b*b)+Y*(a*a):=by
  apply Za6
  intro g;have hv:0≤X*(b*b)+Y*(a*a):=Int.add_nonneg (Int.mul_nonneg hX (c b)) (Int.mul_nonneg hY (c a))
  have f:0 < (2*(S*(a*b))-(X*(b*b)+Y*(a*a)))*(2*(S*(a*b))+(X*(b*b)+Y*(a*a))):=Int.mul_pos (by omega) (by omega)
  have j:=c (X*(b*b)-Y*(a*a))
  have i:0≤(X*Y-S*S)*((a*b)*(a*b)):=Int.mul_nonneg (by omega) (c _)
  grind
 grind
theorem cs(n:Nat)(x y:Nat→Int):0≤sumN n (fun i=>x i*x i)∧0≤sumN n (fun i=>y i*y i)∧sumN n (fun i=>x i*y i)*sumN n (fun i=>x i*y i)≤sumN n (fun i=>x i*x i)*sumN n (fun i=>y i*y i):=by
 have a:∀x:Int,0≤x*x:=fun x=>by rcases Int.le_total 0 x with h | h; exact Int.mul_nonneg h h; exact Int.mul_nonneg_of_nonpos_of_nonpos h h
 induction n with
 | zero=>simp [sumN]
 | succ n ih=>
  obtain ⟨b,c,d⟩:=ih;simp only [sumN];exact ⟨Int.add_nonneg b (a _),Int.add_nonneg c (a _),ZOo d b c⟩
def nth(l:List Int)(i:Nat):Int:=l.getD i 0
theorem ZKN{x:Int}{B:Nat}(h:x.natAbs≤B):x*x≤(B:Int)*B:=by
 have a:x*x=((x.natAbs*x.natAbs:Nat):Int):=by simp
 rw [a]
 exact_mod_cast Nat.mul_le_mul h h
theorem ZOp{u:Int}{K:Nat}(h:u*u≤(K:Int))(hK:K < 85070591730234615865843651857942052864):u.natAbs≤9223372036854775807:=by
 apply Za6
 intro c
 have a:9223372036854775808≤u.natAbs:=by omega
 have d:=Nat.mul_le_mul a a
 have b:u*u=((u.natAbs*u.natAbs:Nat):Int):=by simp
 rw [b] at h;omega
theorem ZRJ(a0 a1 a2 a3 b0 b1 b2 b3:Int):(a0*b1-a1*b0)*(a0*b1-a1*b0)+(a0*b2-a2*b0)*(a0*b2-a2*b0)+(a0*b3-a3*b0)*(a0*b3-a3*b0)+(a1*b2-a2*b1)*(a1*b2-a2*b1)+(a1*b3-a3*b1)*(a1*b3-a3*b1)+(a2*b3-a3*b2)*(a2*b3-a3*b2)=(a0*a0+a1*a1+a2*a2+a3*a3)*(b0*b0+b1*b1+b2*b2+b3*b3)-(a0*b0+a1*b1+a2*b2+a3*b3)*(a0*b0+a1*b1+a2*b2+a3*b3):=by grind
theorem ZRK(a0 a1 a2 a3 a4 b0 b1 b2 b3 b4:Int):(a0*b1-a1*b0)*(a0*b1-a1*b0)+(a0*b2-a2*b0)*(a0*b2-a2*b0)+(a0*b3-a3*b0)*(a0*b3-a3*b0)+(a0*b4-a4*b0)*(a0*b4-a4*b0)+(a1*b2-a2*b1)*(a1*b2-a2*b1)+(a1*b3-a3*b1)*(a1*b3-a3*b1)+(a1*b4-a4*b1)*(a1*b4-a4*b1)+(a2*b3-a3*b2)*(a2*b3-a3*b2)+(a2*b4-a4*b2)*(a2*b4-a4*b2)+(a3*b4-a4*b3)*(a3*b4-a4*b3)=(a0*a0+a1*a1+a2*a2+a3*a3+a4*a4)*(b0*b0+b1*b1+b2*b2+b3*b3+b4*b4)-(a0*b0+a1*b1+a2*b2+a3*b3+a4*b4)*(a0*b0+a1*b1+a2*b2+a3*b3+a4*b4):=by grind
theorem ZRT(c0 c1 c2 c3 c4 q01 q02 q03 q04 q12 q13 q14 q23 q24 q34:Int):(c0*q12-c1*q02+c2*q01)*(c0*q12-c1*q02+c2*q01)+(c0*q13-c1*q03+c3*q01)*(c0*q13-c1*q03+c3*q01)+(c0*q14-c1*q04+c4*q01)*(c0*q14-c1*q04+c4*q01)+(c0*q23-c2*q03+c3*q02)*(c0*q23-c2*q03+c3*q02)+(c0*q24-c2*q04+c4*q02)*(c0*q24-c2*q04+c4*q02)+(c0*q34-c3*q04+c4*q03)*(c0*q34-c3*q04+c4*q03)+(c1*q23-c2*q13+c3*q12)*(c1*q23-c2*q13+c3*q12)+(c1*q24-c2*q14+c4*q12)*(c1*q24-c2*q14+c4*q12)+(c1*q34-c3*q14+c4*q13)*(c1*q34-c3*q14+c4*q13)+(c2*q34-c3*q24+c4*q23)*(c2*q34-c3*q24+c4*q23)=(c0*c0+c1*c1+c2*c2+c3*c3+c4*c4)*(q01*q01+q02*q02+q03*q03+q04*q04+q12*q12+q13*q13+q14*q14+q23*q23+q24*q24+q34*q34)-((c1*(q01)+c2*(q02)+c3*(q03)+c4*(q04))*(c1*(q01)+c2*(q02)+c3*(q03)+c4*(q04))+(c0*(-q01)+c2*(q12)+c3*(q13)+c4*(q14))*(c0*(-q01)+c2*(q12)+c3*(q13)+c4*(q14))+(c0*(-q02)+c1*(-q12)+c3*(q23)+c4*(q24))*(c0*(-q02)+c1*(-q12)+c3*(q23)+c4*(q24))+(c0*(-q03)+c1*(-q13)+c2*(-q23)+c4*(q34))*(c0*(-q03)+c1*(-q13)+c2*(-q23)+c4*(q34))+(c0*(-q04)+c1*(-q14)+c2*(-q24)+c3*(-q34))*(c0*(-q04)+c1*(-q14)+c2*(-q24)+c3*(-q34))):=by grind
theorem ZQ0(M:Nat→Nat→Int):dk M id 4 =
  (M 0 0*M 1 1-M 0 1*M 1 0)*(M 2 2*M 3 3-M 2 3*M 3 2)-(M 0 0*M 1 2-M 0 2*M 1 0)*(M 2 1*M 3 3-M 2 3*M 3 1)+(M 0 0*M 1 3-M 0 3*M 1 0)*(M 2 1*M 3 2-M 2 2*M 3 1)
  + (M 0 1*M 1 2-M 0 2*M 1 1)*(M 2 0*M 3 3-M 2 3*M 3 0)-(M 0 1*M 1 3-M 0 3*M 1 1)*(M 2 0*M 3 2-M 2 2*M 3 0)+(M 0 2*M 1 3-M 0 3*M 1 2)*(M 2 0*M 3 1-M 2 1*M 3 0):=by
 simp [dk,cols,ZAr,od,sumN,sg,ins,List.range,List.range.loop]
 grind
theorem ZQ1(M:Nat→Nat→Int):dk M id 5 =
  (M 0 0*M 1 1-M 0 1*M 1 0)*(M 2 2*(M 3 3*M 4 4-M 3 4*M 4 3)-M 2 3*(M 3 2*M 4 4-M 3 4*M 4 2)+M 2 4*(M 3 2*M 4 3-M 3 3*M 4 2))-(M 0 0*M 1 2-M 0 2*M 1 0)*(M 2 1*(M 3 3*M 4 4-M 3 4*M 4 3)-M 2 3*(M 3 1*M 4 4-M 3 4*M 4 1)+M 2 4*(M 3 1*M 4 3-M 3 3*M 4 1))+(M 0 0*M 1 3-M 0 3*M 1 0)*(M 2 1*(M 3 2*M 4 4-M 3 4*M 4 2)-M 2 2*(M 3 1*M 4 4-M 3 4*M 4 1)+M 2 4*(M 3 1*M 4 2-M 3 2*M 4 1))-(M 0 0*M 1 4-M 0 4*M 1 0)*(M 2 1*(M 3 2*M 4 3-M 3 3*M 4 2)-M 2 2*(M 3 1*M 4 3-M 3 3*M 4 1)+M 2 3*(M 3 1*M 4 2-M 3 2*M 4 1))+(M 0 1*M 1 2-M 0 2*M 1 1)*(M 2 0*(M 3 3*M 4 4-M 3 4*M 4 3)-M 2 3*(M 3 0*M 4 4-M 3 4*M 4 0)+M 2 4*(M 3 0*M 4 3-M 3 3*M 4 0))-(M 0 1*M 1 3-M 0 3*M 1 1)*(M 2 0*(M 3 2*M 4 4-M 3 4*M 4 2)-M 2 2*(M 3 0*M 4 4-M 3 4*M 4 0)+M 2 4*(M 3 0*M 4 2-M 3 2*M 4 0))+(M 0 1*M 1 4-M 0 4*M 1 1)*(M 2 0*(M 3 2*M 4 3-M 3 3*M 4 2)-M 2 2*(M 3 0*M 4 3-M 3 3*M 4 0)+M 2 3*(M 3 0*M 4 2-M 3 2*M 4 0))+(M 0 2*M 1 3-M 0 3*M 1 2)*(M 2 0*(M 3 1*M 4 4-M 3 4*M 4 1)-M 2 1*(M 3 0*M 4 4-M 3 4*M 4 0)+M 2 4*(M 3 0*M 4 1-M 3 1*M 4 0))-(M 0 2*M 1 4-M 0 4*M 1 2)*(M 2 0*(M 3 1*M 4 3-M 3 3*M 4 1)-M 2 1*(M 3 0*M 4 3-M 3 3*M 4 0)+M 2 3*(M 3 0*M 4 1-M 3 1*M 4 0))+(M 0 3*M 1 4-M 0 4*M 1 3)*(M 2 0*(M 3 1*M 4 2-M 3 2*M 4 1)-M 2 1*(M 3 0*M 4 2-M 3 2*M 4 0)+M 2 2*(M 3 0*M 4 1-M 3 1*M 4 0)):=by
 simp [dk,cols,ZAr,od,sumN,sg,ins,List.range,List.range.loop]
 grind
theorem ZB2{M:Nat→Nat→Int}(h:∀i,i < 5→∀j,j < 5→(M i j).natAbs≤60){i:Nat}(hi:i < 5):(M i 0*M i 0+M i 1*M i 1+M i 2*M i 2+M i 3*M i 3)≤14400∧(M i 0*M i 0+M i 1*M i 1+M i 2*M i 2+M i 3*M i 3+M i 4*M i 4)≤18000∧0≤(M i 0*M i 0+M i 1*M i 1+M i 2*M i 2+M i 3*M i 3)∧0≤(M i 0*M i 0+M i 1*M i 1+M i 2*M i 2+M i 3*M i 3+M i 4*M i 4):=by
 have a:∀x:Int,0≤x*x:=fun x=>by rcases Int.le_total 0 x with h | h; exact Int.mul_nonneg h h; exact Int.mul_nonneg_of_nonpos_of_nonpos h h
 have f:=ZKN (h i hi 0 (by decide))
 have b:=ZKN (h i hi 1 (by decide))
 have o:=ZKN (h i hi 2 (by decide))
 have g:=ZKN (h i hi 3 (by decide))
 have l:=ZKN (h i hi 4 (by decide))
 have d:=a (M i 0);have c:=a (M i 1);have n:=a (M i 2);have m:=a (M i 3);have p:=a (M i 4);generalize M i 0*M i 0=z0 at *;generalize M i 1*M i 1=z1 at *;generalize M i 2*M i 2=z2 at *;generalize M i 3*M i 3=z3 at *;generalize M i 4*M i 4=z4 at *;omega
theorem ZGa{a b A B:Int}(h1:a≤A)(h2:b≤B)(h3:0≤a)(h4:0≤B):a*b≤A*B:=
 Int.le_trans (Int.mul_le_mul_of_nonneg_left h2 h3) (Int.mul_le_mul_of_nonneg_right h1 h4)
theorem cs6(p0 p1 p2 p3 p4 p5 t0 t1 t2 t3 t4 t5:Int):(p0*t0-p1*t1+p2*t2+p3*t3-p4*t4+p5*t5)*(p0*t0-p1*t1+p2*t2+p3*t3-p4*t4+p5*t5)≤(p0*p0+p1*p1+p2*p2+p3*p3+p4*p4+p5*p5)*(t0*t0+t1*t1+t2*t2+t3*t3+t4*t4+t5*t5)∧0≤p0*p0+p1*p1+p2*p2+p3*p3+p4*p4+p5*p5:=by
 have c:=cs 6 (nth [p0,p1,p2,p3,p4,p5]) (nth [t0,-t1,t2,t3,-t4,t5]);simp only [sumN,nth,List.getD_cons_zero,List.getD_cons_succ] at c;obtain ⟨b,g,a⟩:=c
 have i:p0*t0-p1*t1+p2*t2+p3*t3-p4*t4+p5*t5=((((((0+p0*t0)+p1 * -t1)+p2*t2)+p3*t3)+p4 * -t4)+p5*t5):=by grind
 have f:p0*p0+p1*p1+p2*p2+p3*p3+p4*p4+p5*p5=((((((0+p0*p0)+p1*p1)+p2*p2)+p3*p3)+p4*p4)+p5*p5):=by grind
 have d:t0*t0+t1*t1+t2*t2+t3*t3+t4*t4+t5*t5=((((((0+t0*t0) + -t1 * -t1)+t2*t2)+t3*t3) + -t4 * -t4)+t5*t5):=by grind
 rw [i,f,d];exact ⟨a,b⟩
theorem ZRU(p0 p1 p2 p3 p4 p5 p6 p7 p8 p9 t0 t1 t2 t3 t4 t5 t6 t7 t8 t9:Int):(p0*t0-p1*t1+p2*t2-p3*t3+p4*t4-p5*t5+p6*t6+p7*t7-p8*t8+p9*t9)*(p0*t0-p1*t1+p2*t2-p3*t3+p4*t4-p5*t5+p6*t6+p7*t7-p8*t8+p9*t9)≤(p0*p0+p1*p1+p2*p2+p3*p3+p4*p4+p5*p5+p6*p6+p7*p7+p8*p8+p9*p9)*(t0*t0+t1*t1+t2*t2+t3*t3+t4*t4+t5*t5+t6*t6+t7*t7+t8*t8+t9*t9)∧0≤p0*p0+p1*p1+p2*p2+p3*p3+p4*p4+p5*p5+p6*p6+p7*p7+p8*p8+p9*p9:=by
 have c:=cs 10 (nth [p0,p1,p2,p3,p4,p5,p6,p7,p8,p9]) (nth [t0,-t1,t2,-t3,t4,-t5,t6,t7,-t8,t9]);simp only [sumN,nth,List.getD_cons_zero,List.getD_cons_succ] at c;obtain ⟨b,g,a⟩:=c
 have i:p0*t0-p1*t1+p2*t2-p3*t3+p4*t4-p5*t5+p6*t6+p7*t7-p8*t8+p9*t9=((((((((((0+p0*t0)+p1 * -t1)+p2*t2)+p3 * -t3)+p4*t4)+p5 * -t5)+p6*t6)+p7*t7)+p8 * -t8)+p9*t9):=by grind
 have f:p0*p0+p1*p1+p2*p2+p3*p3+p4*p4+p5*p5+p6*p6+p7*p7+p8*p8+p9*p9=((((((((((0+p0*p0)+p1*p1)+p2*p2)+p3*p3)+p4*p4)+p5*p5)+p6*p6)+p7*p7)+p8*p8)+p9*p9):=by grind
 have d:t0*t0+t1*t1+t2*t2+t3*t3+t4*t4+t5*t5+t6*t6+t7*t7+t8*t8+t9*t9=((((((((((0+t0*t0) + -t1 * -t1)+t2*t2) + -t3 * -t3)+t4*t4) + -t5 * -t5)+t6*t6)+t7*t7) + -t8 * -t8)+t9*t9):=by grind
 rw [i,f,d];exact ⟨a,b⟩
theorem ZIY{P A B D a b:Int}(h:P=A*B-D*D)(hA:A≤a)(hB:B≤b)(h0:0≤A)(hb:0≤b):P≤a*b:=by
 have c:=ZGa hA hB h0 hb
 have d:0≤D*D:=by rcases Int.le_total 0 D with h | h; exact Int.mul_nonneg h h; exact Int.mul_nonneg_of_nonpos_of_nonpos h h
 rw [h]; omega
theorem ZP9{P A B D a b:Int}(h:P=A*B-D)(hD:0≤D)(hA:A≤a)(hB:B≤b)(h0:0≤A)(hb:0≤b):P≤a*b:=by
 have c:=ZGa hA hB h0 hb;rw [h]; omega
theorem ZRV{M:Nat→Nat→Int}(h:∀i,i < 5→∀j,j < 5→(M i j).natAbs≤60):dk M id 4*dk M id 4≤42998169600000000:=by
 have a:=ZB2 h (i:=0) (by decide)
 have f:=ZB2 h (i:=1) (by decide)
 have c:=ZB2 h (i:=2) (by decide)
 have d:=ZB2 h (i:=3) (by decide)
 rw [ZQ0];have b:=cs6 (M 0 0*M 1 1-M 0 1*M 1 0) (M 0 0*M 1 2-M 0 2*M 1 0) (M 0 0*M 1 3-M 0 3*M 1 0) (M 0 1*M 1 2-M 0 2*M 1 1) (M 0 1*M 1 3-M 0 3*M 1 1) (M 0 2*M 1 3-M 0 3*M 1 2) (M 2 2*M 3 3-M 2 3*M 3 2) (M 2 1*M 3 3-M 2 3*M 3 1) (M 2 1*M 3 2-M 2 2*M 3 1) (M 2 0*M 3 3-M 2 3*M 3 0) (M 2 0*M 3 2-M 2 2*M 3 0) (M 2 0*M 3 1-M 2 1*M 3 0);refine Int.le_trans b.1 ?_
 have X:(M 0 0*M 1 1-M 0 1*M 1 0)*(M 0 0*M 1 1-M 0 1*M 1 0)+(M 0 0*M 1 2-M 0 2*M 1 0)*(M 0 0*M 1 2-M 0 2*M 1 0)+(M 0 0*M 1 3-M 0 3*M 1 0)*(M 0 0*M 1 3-M 0 3*M 1 0)+(M 0 1*M 1 2-M 0 2*M 1 1)*(M 0 1*M 1 2-M 0 2*M 1 1)+(M 0 1*M 1 3-M 0 3*M 1 1)*(M 0 1*M 1 3-M 0 3*M 1 1)+(M 0 2*M 1 3-M 0 3*M 1 2)*(M 0 2*M 1 3-M 0 3*M 1 2)≤14400*14400:=ZIY (ZRJ (M 0 0) (M 0 1) (M 0 2) (M 0 3) (M 1 0) (M 1 1) (M 1 2) (M 1 3)) a.1 f.1 a.2.2.1 (by decide)
 have Y:(M 2 2*M 3 3-M 2 3*M 3 2)*(M 2 2*M 3 3-M 2 3*M 3 2)+(M 2 1*M 3 3-M 2 3*M 3 1)*(M 2 1*M 3 3-M 2 3*M 3 1)+(M 2 1*M 3 2-M 2 2*M 3 1)*(M 2 1*M 3 2-M 2 2*M 3 1)+(M 2 0*M 3 3-M 2 3*M 3 0)*(M 2 0*M 3 3-M 2 3*M 3 0)+(M 2 0*M 3 2-M 2 2*M 3 0)*(M 2 0*M 3 2-M 2 2*M 3 0)+(M 2 0*M 3 1-M 2 1*M 3 0)*(M 2 0*M 3 1-M 2 1*M 3 0)≤14400*14400:=by
  have e:(M 2 2*M 3 3-M 2 3*M 3 2)*(M 2 2*M 3 3-M 2 3*M 3 2)+(M 2 1*M 3 3-M 2 3*M 3 1)*(M 2 1*M 3 3-M 2 3*M 3 1)+(M 2 1*M 3 2-M 2 2*M 3 1)*(M 2 1*M 3 2-M 2 2*M 3 1)+(M 2 0*M 3 3-M 2 3*M 3 0)*(M 2 0*M 3 3-M 2 3*M 3 0)+(M 2 0*M 3 2-M 2 2*M 3 0)*(M 2 0*M 3 2-M 2 2*M 3 0)+(M 2 0*M 3 1-M 2 1*M 3 0)*(M 2 0*M 3 1-M 2 1*M 3 0)=(M 2 0*M 3 1-M 2 1*M 3 0)*(M 2 0*M 3 1-M 2 1*M 3 0)+(M 2 0*M 3 2-M 2 2*M 3 0)*(M 2 0*M 3 2-M 2 2*M 3 0)+(M 2 0*M 3 3-M 2 3*M 3 0)*(M 2 0*M 3 3-M 2 3*M 3 0)+(M 2 1*M 3 2-M 2 2*M 3 1)*(M 2 1*M 3 2-M 2 2*M 3 1)+(M 2 1*M 3 3-M 2 3*M 3 1)*(M 2 1*M 3 3-M 2 3*M 3 1)+(M 2 2*M 3 3-M 2 3*M 3 2)*(M 2 2*M 3 3-M 2 3*M 3 2):=by ac_rfl
  rw [e]; exact ZIY (ZRJ (M 2 0) (M 2 1) (M 2 2) (M 2 3) (M 3 0) (M 3 1) (M 3 2) (M 3 3)) c.1 d.1 c.2.2.1 (by decide)
 exact Int.le_trans (ZGa X Y b.2 (by decide)) (by decide)
theorem ZRW{M:Nat→Nat→Int}(h:∀i,i < 5→∀j,j < 5→(M i j).natAbs≤60):dk M id 5*dk M id 5≤1889568000000000000000:=by
 have a:∀x:Int,0≤x*x:=fun x=>by rcases Int.le_total 0 x with h | h; exact Int.mul_nonneg h h; exact Int.mul_nonneg_of_nonpos_of_nonpos h h
 have c:=ZB2 h (i:=0) (by decide)
 have g:=ZB2 h (i:=1) (by decide)
 have f:=ZB2 h (i:=2) (by decide)
 have b:=ZB2 h (i:=3) (by decide)
 have l:=ZB2 h (i:=4) (by decide)
 rw [ZQ1];have d:=ZRU (M 0 0*M 1 1-M 0 1*M 1 0) (M 0 0*M 1 2-M 0 2*M 1 0) (M 0 0*M 1 3-M 0 3*M 1 0) (M 0 0*M 1 4-M 0 4*M 1 0) (M 0 1*M 1 2-M 0 2*M 1 1) (M 0 1*M 1 3-M 0 3*M 1 1) (M 0 1*M 1 4-M 0 4*M 1 1) (M 0 2*M 1 3-M 0 3*M 1 2) (M 0 2*M 1 4-M 0 4*M 1 2) (M 0 3*M 1 4-M 0 4*M 1 3) (M 2 2*(M 3 3*M 4 4-M 3 4*M 4 3)-M 2 3*(M 3 2*M 4 4-M 3 4*M 4 2)+M 2 4*(M 3 2*M 4 3-M 3 3*M 4 2)) (M 2 1*(M 3 3*M 4 4-M 3 4*M 4 3)-M 2 3*(M 3 1*M 4 4-M 3 4*M 4 1)+M 2 4*(M 3 1*M 4 3-M 3 3*M 4 1)) (M 2 1*(M 3 2*M 4 4-M 3 4*M 4 2)-M 2 2*(M 3 1*M 4 4-M 3 4*M 4 1)+M 2 4*(M 3 1*M 4 2-M 3 2*M 4 1)) (M 2 1*(M 3 2*M 4 3-M 3 3*M 4 2)-M 2 2*(M 3 1*M 4 3-M 3 3*M 4 1)+M 2 3*(M 3 1*M 4 2-M 3 2*M 4 1)) (M 2 0*(M 3 3*M 4 4-M 3 4*M 4 3)-M 2 3*(M 3 0*M 4 4-M 3 4*M 4 0)+M 2 4*(M 3 0*M 4 3-M 3 3*M 4 0)) (M 2 0*(M 3 2*M 4 4-M 3 4*M 4 2)-M 2 2*(M 3 0*M 4 4-M 3 4*M 4 0)+M 2 4*(M 3 0*M 4 2-M 3 2*M 4 0)) (M 2 0*(M 3 2*M 4 3-M 3 3*M 4 2)-M 2 2*(M 3 0*M 4 3-M 3 3*M 4 0)+M 2 3*(M 3 0*M 4 2-M 3 2*M 4 0)) (M 2 0*(M 3 1*M 4 4-M 3 4*M 4 1)-M 2 1*(M 3 0*M 4 4-M 3 4*M 4 0)+M 2 4*(M 3 0*M 4 1-M 3 1*M 4 0)) (M 2 0*(M 3 1*M 4 3-M 3 3*M 4 1)-M 2 1*(M 3 0*M 4 3-M 3 3*M 4 0)+M 2 3*(M 3 0*M 4 1-M 3 1*M 4 0)) (M 2 0*(M 3 1*M 4 2-M 3 2*M 4 1)-M 2 1*(M 3 0*M 4 2-M 3 2*M 4 0)+M 2 2*(M 3 0*M 4 1-M 3 1*M 4 0))
 refine Int.le_trans d.1 ?_
 have X:(M 0 0*M 1 1-M 0 1*M 1 0)*(M 0 0*M 1 1-M 0 1*M 1 0)+(M 0 0*M 1 2-M 0 2*M 1 0)*(M 0 0*M 1 2-M 0 2*M 1 0)+(M 0 0*M 1 3-M 0 3*M 1 0)*(M 0 0*M 1 3-M 0 3*M 1 0)+(M 0 0*M 1 4-M 0 4*M 1 0)*(M 0 0*M 1 4-M 0 4*M 1 0)+(M 0 1*M 1 2-M 0 2*M 1 1)*(M 0 1*M 1 2-M 0 2*M 1 1)+(M 0 1*M 1 3-M 0 3*M 1 1)*(M 0 1*M 1 3-M 0 3*M 1 1)+(M 0 1*M 1 4-M 0 4*M 1 1)*(M 0 1*M 1 4-M 0 4*M 1 1)+(M 0 2*M 1 3-M 0 3*M 1 2)*(M 0 2*M 1 3-M 0 3*M 1 2)+(M 0 2*M 1 4-M 0 4*M 1 2)*(M 0 2*M 1 4-M 0 4*M 1 2)+(M 0 3*M 1 4-M 0 4*M 1 3)*(M 0 3*M 1 4-M 0 4*M 1 3)≤18000*18000:=ZIY (ZRK (M 0 0) (M 0 1) (M 0 2) (M 0 3) (M 0 4) (M 1 0) (M 1 1) (M 1 2) (M 1 3) (M 1 4)) c.2.1 g.2.1 c.2.2.2 (by decide)
 have Q:=ZIY (ZRK (M 3 0) (M 3 1) (M 3 2) (M 3 3) (M 3 4) (M 4 0) (M 4 1) (M 4 2) (M 4 3) (M 4 4)) b.2.1 l.2.1 b.2.2.2 (by decide)
 have Y:(M 2 2*(M 3 3*M 4 4-M 3 4*M 4 3)-M 2 3*(M 3 2*M 4 4-M 3 4*M 4 2)+M 2 4*(M 3 2*M 4 3-M 3 3*M 4 2))*(M 2 2*(M 3 3*M 4 4-M 3 4*M 4 3)-M 2 3*(M 3 2*M 4 4-M 3 4*M 4 2)+M 2 4*(M 3 2*M 4 3-M 3 3*M 4 2))+(M 2 1*(M 3 3*M 4 4-M 3 4*M 4 3)-M 2 3*(M 3 1*M 4 4-M 3 4*M 4 1)+M 2 4*(M 3 1*M 4 3-M 3 3*M 4 1))*(M 2 1*(M 3 3*M 4 4-M 3 4*M 4 3)-M 2 3*(M 3 1*M 4 4-M 3 4*M 4 1)+M 2 4*(M 3 1*M 4 3-M 3 3*M 4 1))+(M 2 1*(M 3 2*M 4 4-M 3 4*M 4 2)-M 2 2*(M 3 1*M 4 4-M 3 4*M 4 1)+M 2 4*(M 3 1*M 4 2-M 3 2*M 4 1))*(M 2 1*(M 3 2*M 4 4-M 3 4*M 4 2)-M 2 2*(M 3 1*M 4 4-M 3 4*M 4 1)+M 2 4*(M 3 1*M 4 2-M 3 2*M 4 1))+(M 2 1*(M 3 2*M 4 3-M 3 3*M 4 2)-M 2 2*(M 3 1*M 4 3-M 3 3*M 4 1)+M 2 3*(M 3 1*M 4 2-M 3 2*M 4 1))*(M 2 1*(M 3 2*M 4 3-M 3 3*M 4 2)-M 2 2*(M 3 1*M 4 3-M 3 3*M 4 1)+M 2 3*(M 3 1*M 4 2-M 3 2*M 4 1))+(M 2 0*(M 3 3*M 4 4-M 3 4*M 4 3)-M 2 3*(M 3 0*M 4 4-M 3 4*M 4 0)+M 2 4*(M 3 0*M 4 3-M 3 3*M 4 0))*(M 2 0*(M 3 3*M 4 4-M 3 4*M 4 3)-M 2 3*(M 3 0*M 4 4-M 3 4*M 4 0)+M 2 4*(M 3 0*M 4 3-M 3 3*M 4 0))+(M 2 0*(M 3 2*M 4 4-M 3 4*M 4 2)-M 2 2*(M 3 0*M 4 4-M 3 4*M 4 0)+M 2 4*(M 3 0*M 4 2-M 3 2*M 4 0))*(M 2 0*(M 3 2*M 4 4-M 3 4*M 4 2)-M 2 2*(M 3 0*M 4 4-M 3 4*M 4 0)+M 2 4*(M 3 0*M 4 2-M 3 2*M 4 0))+(M 2 0*(M 3 2*M 4 3-M 3 3*M 4 2)-M 2 2*(M 3 0*M 4 3-M 3 3*M 4 0)+M 2 3*(M 3 0*M 4 2-M 3 2*M 4 0))*(M 2 0*(M 3 2*M 4 3-M 3 3*M 4 2)-M 2 2*(M 3 0*M 4 3-M 3 3*M 4 0)+M 2 3*(M 3 0*M 4 2-M 3 2*M 4 0))+(M 2 0*(M 3 1*M 4 4-M 3 4*M 4 1)-M 2 1*(M 3 0*M 4 4-M 3 4*M 4 0)+M 2 4*(M 3 0*M 4 1-M 3 1*M 4 0))*(M 2 0*(M 3 1*M 4 4-M 3 4*M 4 1)-M 2 1*(M 3 0*M 4 4-M 3 4*M 4 0)+M 2 4*(M 3 0*M 4 1-M 3 1*M 4 0))+(M 2 0*(M 3 1*M 4 3-M 3 3*M 4 1)-M 2 1*(M 3 0*M 4 3-M 3 3*M 4 0)+M 2 3*(M 3 0*M 4 1-M 3 1*M 4 0))*(M 2 0*(M 3 1*M 4 3-M 3 3*M 4 1)-M 2 1*(M 3 0*M 4 3-M 3 3*M 4 0)+M 2 3*(M 3 0*M 4 1-M 3 1*M 4 0))+(M 2 0*(M 3 1*M 4 2-M 3 2*M 4 1)-M 2 1*(M 3 0*M 4 2-M 3 2*M 4 0)+M 2 2*(M 3 0*M 4 1-M 3 1*M 4 0))*(M 2 0*(M 3 1*M 4 2-M 3 2*M 4 1)-M 2 1*(M 3 0*M 4 2-M 3 2*M 4 0)+M 2 2*(M 3 0*M 4 1-M 3 1*M 4 0))≤18000*(18000*18000):=by
  have e:(M 2 2*(M 3 3*M 4 4-M 3 4*M 4 3)-M 2 3*(M 3 2*M 4 4-M 3 4*M 4 2)+M 2 4*(M 3 2*M 4 3-M 3 3*M 4 2))*(M 2 2*(M 3 3*M 4 4-M 3 4*M 4 3)-M 2 3*(M 3 2*M 4 4-M 3 4*M 4 2)+M 2 4*(M 3 2*M 4 3-M 3 3*M 4 2))+(M 2 1*(M 3 3*M 4 4-M 3 4*M 4 3)-M 2 3*(M 3 1*M 4 4-M 3 4*M 4 1)+M 2 4*(M 3 1*M 4 3-M 3 3*M 4 1))*(M 2 1*(M 3 3*M 4 4-M 3 4*M 4 3)-M 2 3*(M 3 1*M 4 4-M 3 4*M 4 1)+M 2 4*(M 3 1*M 4 3-M 3 3*M 4 1))+(M 2 1*(M 3 2*M 4 4-M 3 4*M 4 2)-M 2 2*(M 3 1*M 4 4-M 3 4*M 4 1)+M 2 4*(M 3 1*M 4 2-M 3 2*M 4 1))*(M 2 1*(M 3 2*M 4 4-M 3 4*M 4 2)-M 2 2*(M 3 1*M 4 4-M 3 4*M 4 1)+M 2 4*(M 3 1*M 4 2-M 3 2*M 4 1))+(M 2 1*(M 3 2*M 4 3-M 3 3*M 4 2)-M 2 2*(M 3 1*M 4 3-M 3 3*M 4 1)+M 2 3*(M 3 1*M 4 2-M 3 2*M 4 1))*(M 2 1*(M 3 2*M 4 3-M 3 3*M 4 2)-M 2 2*(M 3 1*M 4 3-M 3 3*M 4 1)+M 2 3*(M 3 1*M 4 2-M 3 2*M 4 1))+(M 2 0*(M 3 3*M 4 4-M 3 4*M 4 3)-M 2 3*(M 3 0*M 4 4-M 3 4*M 4 0)+M 2 4*(M 3 0*M 4 3-M 3 3*M 4 0))*(M 2 0*(M 3 3*M 4 4-M 3 4*M 4 3)-M 2 3*(M 3 0*M 4 4-M 3 4*M 4 0)+M 2 4*(M 3 0*M 4 3-M 3 3*M 4 0))+(M 2 0*(M 3 2*M 4 4-M 3 4*M 4 2)-M 2 2*(M 3 0*M 4 4-M 3 4*M 4 0)+M 2 4*(M 3 0*M 4 2-M 3 2*M 4 0))*(M 2 0*(M 3 2*M 4 4-M 3 4*M 4 2)-M 2 2*(M 3 0*M 4 4-M 3 4*M 4 0)+M 2 4*(M 3 0*M 4 2-M 3 2*M 4 0))+(M 2 0*(M 3 2*M 4 3-M 3 3*M 4 2)-M 2 2*(M 3 0*M 4 3-M 3 3*M 4 0)+M 2 3*(M 3 0*M 4 2-M 3 2*M 4 0))*(M 2 0*(M 3 2*M 4 3-M 3 3*M 4 2)-M 2 2*(M 3 0*M 4 3-M 3 3*M 4 0)+M 2 3*(M 3 0*M 4 2-M 3 2*M 4 0))+(M 2 0*(M 3 1*M 4 4-M 3 4*M 4 1)-M 2 1*(M 3 0*M 4 4-M 3 4*M 4 0)+M 2 4*(M 3 0*M 4 1-M 3 1*M 4 0))*(M 2 0*(M 3 1*M 4 4-M 3 4*M 4 1)-M 2 1*(M 3 0*M 4 4-M 3 4*M 4 0)+M 2 4*(M 3 0*M 4 1-M 3 1*M 4 0))+(M 2 0*(M 3 1*M 4 3-M 3 3*M 4 1)-M 2 1*(M 3 0*M 4 3-M 3 3*M 4 0)+M 2 3*(M 3 0*M 4 1-M 3 1*M 4 0))*(M 2 0*(M 3 1*M 4 3-M 3 3*M 4 1)-M 2 1*(M 3 0*M 4 3-M 3 3*M 4 0)+M 2 3*(M 3 0*M 4 1-M 3 1*M 4 0))+(M 2 0*(M 3 1*M 4 2-M 3 2*M 4 1)-M 2 1*(M 3 0*M 4 2-M 3 2*M 4 0)+M 2 2*(M 3 0*M 4 1-M 3 1*M 4 0))*(M 2 0*(M 3 1*M 4 2-M 3 2*M 4 1)-M 2 1*(M 3 0*M 4 2-M 3 2*M 4 0)+M 2 2*(M 3 0*M 4 1-M 3 1*M 4 0))=(M 2 0*(M 3 1*M 4 2-M 3 2*M 4 1)-M 2 1*(M 3 0*M 4 2-M 3 2*M 4 0)+M 2 2*(M 3 0*M 4 1-M 3 1*M 4 0))*(M 2 0*(M 3 1*M 4 2-M 3 2*M 4 1)-M 2 1*(M 3 0*M 4 2-M 3 2*M 4 0)+M 2 2*(M 3 0*M 4 1-M 3 1*M 4 0))+(M 2 0*(M 3 1*M 4 3-M 3 3*M 4 1)-M 2 1*(M 3 0*M 4 3-M 3 3*M 4 0)+M 2 3*(M 3 0*M 4 1-M 3 1*M 4 0))*(M 2 0*(M 3 1*M 4 3-M 3 3*M 4 1)-M 2 1*(M 3 0*M 4 3-M 3 3*M 4 0)+M 2 3*(M 3 0*M 4 1-M 3 1*M 4 0))+(M 2 0*(M 3 1*M 4 4-M 3 4*M 4 1)-M 2 1*(M 3 0*M 4 4-M 3 4*M 4 0)+M 2 4*(M 3 0*M 4 1-M 3 1*M 4 0))*(M 2 0*(M 3 1*M 4 4-M 3 4*M 4 1)-M 2 1*(M 3 0*M 4 4-M 3 4*M 4 0)+M 2 4*(M 3 0*M 4 1-M 3 1*M 4 0))+(M 2 0*(M 3 2*M 4 3-M 3 3*M 4 2)-M 2 2*(M 3 0*M 4 3-M 3 3*M 4 0)+M 2 3*(M 3 0*M 4 2-M 3 2*M 4 0))*(M 2 0*(M 3 2*M 4 3-M 3 3*M 4 2)-M 2 2*(M 3 0*M 4 3-M 3 3*M 4 0)+M 2 3*(M 3 0*M 4 2-M 3 2*M 4 0))+(M 2 0*(M 3 2*M 4 4-M 3 4*M 4 2)-M 2 2*(M 3 0*M 4 4-M 3 4*M 4 0)+M 2 4*(M 3 0*M 4 2-M 3 2*M 4 0))*(M 2 0*(M 3 2*M 4 4-M 3 4*M 4 2)-M 2 2*(M 3 0*M 4 4-M 3 4*M 4 0)+M 2 4*(M 3 0*M 4 2-M 3 2*M 4 0))+(M 2 0*(M 3 3*M 4 4-M 3 4*M 4 3)-M 2 3*(M 3 0*M 4 4-M 3 4*M 4 0)+M 2 4*(M 3 0*M 4 3-M 3 3*M 4 0))*(M 2 0*(M 3 3*M 4 4-M 3 4*M 4 3)-M 2 3*(M 3 0*M 4 4-M 3 4*M 4 0)+M 2 4*(M 3 0*M 4 3-M 3 3*M 4 0))+(M 2 1*(M 3 2*M 4 3-M 3 3*M 4 2)-M 2 2*(M 3 1*M 4 3-M 3 3*M 4 1)+M 2 3*(M 3 1*M 4 2-M 3 2*M 4 1))*(M 2 1*(M 3 2*M 4 3-M 3 3*M 4 2)-M 2 2*(M 3 1*M 4 3-M 3 3*M 4 1)+M 2 3*(M 3 1*M 4 2-M 3 2*M 4 1))+(M 2 1*(M 3 2*M 4 4-M 3 4*M 4 2)-M 2 2*(M 3 1*M 4 4-M 3 4*M 4 1)+M 2 4*(M 3 1*M 4 2-M 3 2*M 4 1))*(M 2 1*(M 3 2*M 4 4-M 3 4*M 4 2)-M 2 2*(M 3 1*M 4 4-M 3 4*M 4 1)+M 2 4*(M 3 1*M 4 2-M 3 2*M 4 1))+(M 2 1*(M 3 3*M 4 4-M 3 4*M 4 3)-M 2 3*(M 3 1*M 4 4-M 3 4*M 4 1)+M 2 4*(M 3 1*M 4 3-M 3 3*M 4 1))*(M 2 1*(M 3 3*M 4 4-M 3 4*M 4 3)-M 2 3*(M 3 1*M 4 4-M 3 4*M 4 1)+M 2 4*(M 3 1*M 4 3-M 3 3*M 4 1))+(M 2 2*(M 3 3*M 4 4-M 3 4*M 4 3)-M 2 3*(M 3 2*M 4 4-M 3 4*M 4 2)+M 2 4*(M 3 2*M 4 3-M 3 3*M 4 2))*(M 2 2*(M 3 3*M 4 4-M 3 4*M 4 3)-M 2 3*(M 3 2*M 4 4-M 3 4*M 4 2)+M 2 4*(M 3 2*M 4 3-M 3 3*M 4 2)):=by ac_rfl
  rw [e]; exact ZP9 (ZRT (M 2 0) (M 2 1) (M 2 2) (M 2 3) (M 2 4) (M 3 0*M 4 1-M 3 1*M 4 0) (M 3 0*M 4 2-M 3 2*M 4 0) (M 3 0*M 4 3-M 3 3*M 4 0) (M 3 0*M 4 4-M 3 4*M 4 0) (M 3 1*M 4 2-M 3 2*M 4 1) (M 3 1*M 4 3-M 3 3*M 4 1) (M 3 1*M 4 4-M 3 4*M 4 1) (M 3 2*M 4 3-M 3 3*M 4 2) (M 3 2*M 4 4-M 3 4*M 4 2) (M 3 3*M 4 4-M 3 4*M 4 3)) (by repeat (first | exact a _ | apply Int.add_nonneg)) f.2.1 Q f.2.2.2 (by decide)
 exact Int.le_trans (ZGa X Y d.2 (by decide)) (by decide)
theorem ZQ2(M:Nat→Nat→Int)(h:∀i,i < 5→∀j,j < 5→(M i j).natAbs≤60):(dk M id 4*dk M id 5).natAbs≤9223372036854775807:=by
 have a:∀x:Int,0≤x*x:=fun x=>by rcases Int.le_total 0 x with h | h; exact Int.mul_nonneg h h; exact Int.mul_nonneg_of_nonpos_of_nonpos h h
 have e:dk M id 4*dk M id 5*(dk M id 4*dk M id 5)=(dk M id 4*dk M id 4)*(dk M id 5*dk M id 5):=by grind
 refine ZOp (K:=42998169600000000*1889568000000000000000) ?_ (by decide)
 rw [e]
 exact ZGa (ZRV h) (ZRW h) (a _) (by decide)
end Go.Proofs.YtgfnmkenpgnllaaGreat.Lin
