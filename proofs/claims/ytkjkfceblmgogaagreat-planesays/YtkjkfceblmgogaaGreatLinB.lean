import Derived.Test.YtkjkfceblmgogaaGreatRunD
import Derived.Test.YtkjkfceblmgogaaGreatRefB
set_option maxRecDepth 100000
set_option maxHeartbeats 4000000
namespace Go.Proofs.YtkjkfceblmgogaaGreat
open Lin
theorem ZOV{m:List (List Int)}{i:Nat}(h:i < m.length):row (fm m) i=mOf m i:=by
 unfold row fm mOf;rw [Za2,List.getElem?_map,Za9 h];simp [h]
theorem ZA1(m:List (List Int)):(fm m).length=m.length:=by simp [fm]
theorem ZQa{m:List (List Int)}{q:Nat}{M':Nat→Nat→Int}{C:Nat→Nat}{k:Nat}{sgn:Int}(h:Red (mOf m) m.length q M' C k sgn){r:Nat→Int}(hr:r∈fm m):∃i,i < m.length∧r=M' i:=by
 obtain ⟨i,a,b⟩:=ZHY hr;rw [ZA1] at a;rw [ZOV a] at b;obtain ⟨c,f,d⟩:=h.sup i a
 exact ⟨c,f,by rw [←b,d]⟩
theorem ZKb{m:List (List Int)}{q:Nat}{M':Nat→Nat→Int}{C:Nat→Nat}{k:Nat}{sgn:Int}(h:Red (mOf m) m.length q M' C k sgn){i:Nat}(hi:i < m.length):M' i∈fm m:=by
 obtain ⟨c,a,b⟩:=h.sub i hi;rw [b,←ZOV a]
 exact ZB0 (by rw [ZA1]; exact a)
theorem ZDu{m:List (List Int)}{c:Nat}{M':Nat→Nat→Int}{C:Nat→Nat}{k:Nat}{sgn:Int}(h:Red (mOf m) m.length c M' C k sgn):k=(ZAJ c m).length:=by
 have b:=ZA4 c m;obtain ⟨K,hK,d⟩:=b.free;rw [←ZA1 (ZAJ c m)]
 refine ZO2 h.done hK.2 d (fun a ha=>?_) (fun i hi=>b.dep _ (ZKb h hi))
 obtain ⟨i,g,f⟩:=ZQa h (b.mem _ (ZB0 ha))
 exact ⟨i,g,fun j _=>by rw [f]⟩
theorem ZM7{m:List (List Int)}{c:Nat}{M':Nat→Nat→Int}{C:Nat→Nat}{k f:Nat}{sgn:Int}{v:Nat→Int}(h:Red (mOf m) m.length c M' C k sgn)(hk:k+1=c)(hv:Nu M' c k C f v) :
  upr (low ((List.range c).map v))=ZAO c m:=by
 have z:=ZDu h;unfold ZAO
 rw [if_pos (by omega)]
 have n:=ZA4 c m
 have o:(fm (ZAJ c m)).length+1=c:=by rw [ZA1]; omega
 have r:∀i,i < m.length→sumN c (fun j=>M' i j*mu (fm (ZAJ c m)) j)=0:=by
  intro i y;obtain ⟨e,l,s,t⟩:=n.dep _ (ZKb h y)
  have d:e*sumN c (fun j=>M' i j*mu (fm (ZAJ c m)) j)=0:=by
   rw [←ZAV,ZAC (g:=fun j=>sumN (fm (ZAJ c m)).length (fun a=>l a*(row (fm (ZAJ c m)) a j*mu (fm (ZAJ c m)) j))) (fun j hj=>by
    rw [←Int.mul_assoc,t j hj]; unfold comb; rw [←ZAT]; exact ZAC fun i _=>by rw [Int.mul_assoc])]
   rw [ZBS]
   refine ZAd fun a ha=>?_
   rw [ZAV];have:=ZKJ ha;rw [o] at this;rw [this,Int.mul_zero]
  rcases Int.mul_eq_zero.1 d with h3 | h3
  ·exact absurd h3 s
  ·exact h3
 have p:∀j,j < c→dk M' C k*mu (fm (ZAJ c m)) j=mu (fm (ZAJ c m)) f*v j:=fun j hj=>ZO3 h.done hv r hj
 have b:mu (fm (ZAJ c m)) f≠0:=by
  obtain ⟨x,A,d⟩:=ZKK (H:=fm (ZAJ c m)) (by rw [o]; exact n.free)
  intro e
  have:=p x (by omega)
  rw [e,Int.zero_mul] at this
  rcases Int.mul_eq_zero.1 this with h3 | h3
  ·exact h.done.nz h3
  ·exact d h3
 refine ZO6 b h.done.nz ?_;unfold muL;rw [List.map_map,List.map_map]
 exact List.map_congr_left fun j hj=>(p j (by simpa using hj)).symm
theorem ZGi{m:List (List Int)}{c B q:Nat}{M':Nat→Nat→Int}{C:Nat→Nat}{k:Nat}{sgn:Int}(hx:Mx c B m)(h:Red (mOf m) m.length q M' C k sgn):∀i,i < m.length→∀j,j < c→(M' i j).natAbs≤B:=by
 intro i n j o;obtain ⟨b,d,l⟩:=h.sub i n;rw [l];unfold mOf
 have f:m.getD b []∈m:=by rw [Za2,Za9 d]; exact List.getElem_mem d
 have g:=hx.row _ f;refine hx.bd _ f _ ?_;generalize m.getD b []=r at g ⊢
 have a:j < r.length:=by omega
 have e:r.getD j 0=r[j]:=by simp [a]
 rw [e]; exact List.getElem_mem a
theorem ZIk(B:Nat)(h:1≤B):∀k,1≤fb B k
 | 0=>Za4 _
 | k+1=>by
  unfold fb
  exact Nat.mul_pos (Nat.mul_pos (by omega) h) (ZIk B h k)
theorem ZGj{k c:Nat}{C:Nat→Nat}(h:Rising k c C):k≤c:=by
 have a:∀i,i < k→i≤C i:=by
  intro i
  induction i with
  | zero=>intro _; omega
  | succ i ih=>
   intro b
   have:=ih (by omega)
   have:=h.1 i (i+1) (by omega) b
   omega
 by_cases hk:k=0
 ·omega
 ·have:=a (k-1) (by omega)
  have:=h.2 (k-1) (by omega)
  omega
theorem ZRS{m:List (List Int)}{c B:Nat}(hx:Mx c B m)(h34:fb B 3*(fb B 4+fb B 5)≤9223372036854775807)
 (had:∀M':Nat→Nat→Int,(∀i,i < 5→∀j,j < 5→(M' i j).natAbs≤B)→(dk M' id 4*dk M' id 5).natAbs≤9223372036854775807):Bd (mOf m) m.length c:=by
 intro q M' C k v p h i g j d;have a:=ZGi hx h;have E:=ZGj h.done.rise;have x:=hx.c5;have o:=h.done.kn
 have f:∀b,b < k+1→C b < c:=fun b hb=>Nat.lt_of_lt_of_le (h.done.rise.2 b hb) p
 have D:=hx.small
 by_cases h4:k+1≤4
 ·have J:=ZMp (B:=B) (n:=m.length) (c:=c) (k:=k+1) (i:=i) (j:=j) (M:=M') (C:=C) hx.pos a o f g d
  have N:=ZJP (B:=B) (k:=k) (M:=M') (C:=C) (fun i g b hb=>a i (by omega) _ (f b (by omega)))
  have Q:fb B (k+1)≤fb B 4:=ZAz hx.pos h4
  have P:fb B (k+1+1)≤fb B 5:=ZAz hx.pos (by omega)
  have O:fb B k≤fb B 3:=ZAz hx.pos (by omega)
  have F:=ZIk B hx.pos 3
  have G:(dk M' C k*rr M' C (k+1) i j).natAbs≤fb B 3*(fb B 4+fb B 5):=by
   rw [Int.natAbs_mul]
   exact Nat.mul_le_mul (by omega) (by omega)
  have p:(rr M' C (k+1) i j).natAbs≤fb B 3*(fb B 4+fb B 5):=
   Zaa8 (show (rr M' C (k+1) i j).natAbs≤1*(fb B 4+fb B 5) by omega) (Nat.mul_le_mul_right _ F)
  omega
 ·have s:k=4:=by omega
  subst s
  have y:c=5:=by omega
  subst y
  have l:q=5:=by omega
  subst l
  have hid:∀b,b < 5→C b=b:=fun b hb=>ZGX h.done.rise hb
  have r:dk M' C 4=dk M' id 4:=ZDs (fun _ _=>rfl) fun b hb=>hid b (by omega)
  have z:dk M' C 5=dk M' id 5:=ZDs (fun _ _=>rfl) fun b hb=>hid b hb
  have L:=ZJP (B:=B) (k:=5) (M:=M') (C:=id) (fun i g b hb=>a i (by omega) _ hb)
  have A:=had M' (fun i g j d=>a i (by omega) j d)
  have t:rr M' C (4+1) i j=0∨rr M' C (4+1) i j=dk M' id 5:=by
   by_cases hi5:i < 5
   ·have:=ZDq h.done.nz h.done.rise.1 hi5 d
    rw [hid j d] at this
    by_cases e:i=j
    ·rw [if_pos e] at this; right; rw [this]; exact z
    ·rw [if_neg e] at this; left; exact this
   ·left; exact h.done.zero i (by omega) g j d
  rw [r]
  rcases t with e | e <;> rw [e]
  ·simp
  ·exact ⟨A,by omega⟩
end Go.Proofs.YtkjkfceblmgogaaGreat
namespace Go.Proofs.YtkjkfceblmgogaaGreat.Lin
theorem ZPC{S X Y a b:Int}(h:S*S≤X*Y)(hX:0≤X)(hY:0≤Y):(S+a*b)*(S+a*b)≤(X+a*a)*(Y+b*b):=by
 have c:∀x:Int,0≤x*x:=fun x=>by rcases Int.le_total 0 x with h | h; exact Int.mul_nonneg h h; exact Int.mul_nonneg_of_nonpos_of_nonpos h h
 have d:2*(S*(a*b))≤X*(b*b)+Y*(a*a):=by
  apply Za6
  intro f;have hv:0≤X*(b*b)+Y*(a*a):=Int.add_nonneg (Int.mul_nonneg hX (c b)) (Int.mul_nonneg hY (c a))
  have g:0 < (2*(S*(a*b))-(X*(b*b)+Y*(a*a)))*(2*(S*(a*b))+(X*(b*b)+Y*(a*a))):=Int.mul_pos (by omega) (by omega)
  have i:=c (X*(b*b)-Y*(a*a))
  have j:0≤(X*Y-S*S)*((a*b)*(a*b)):=Int.mul_nonneg (by omega) (c _)
  grind
 grind
theorem cs(n:Nat)(x y:Nat→Int):0≤sumN n (fun i=>x i*x i)∧0≤sumN n (fun i=>y i*y i)∧sumN n (fun i=>x i*y i)*sumN n (fun i=>x i*y i)≤sumN n (fun i=>x i*x i)*sumN n (fun i=>y i*y i):=by
 have a:∀x:Int,0≤x*x:=fun x=>by rcases Int.le_total 0 x with h | h; exact Int.mul_nonneg h h; exact Int.mul_nonneg_of_nonpos_of_nonpos h h
 induction n with
 | zero=>simp [sumN]
 | succ n ih=>
  obtain ⟨c,b,d⟩:=ih;simp only [sumN];exact ⟨Int.add_nonneg c (a _),Int.add_nonneg b (a _),ZPC d c b⟩
def nth(l:List Int)(i:Nat):Int:=l.getD i 0
theorem ZKc{x:Int}{B:Nat}(h:x.natAbs≤B):x*x≤(B:Int)*B:=by
 have a:x*x=((x.natAbs*x.natAbs:Nat):Int):=by simp
 rw [a]
 exact_mod_cast Nat.mul_le_mul h h
theorem ZPD{u:Int}{K:Nat}(h:u*u≤(K:Int))(hK:K < 85070591730234615865843651857942052864):u.natAbs≤9223372036854775807:=by
 apply Za6
 intro c
 have a:9223372036854775808≤u.natAbs:=by omega
 have d:=Nat.mul_le_mul a a
 have b:u*u=((u.natAbs*u.natAbs:Nat):Int):=by simp
 rw [b] at h;omega
theorem ZRn(a0 a1 a2 a3 b0 b1 b2 b3:Int):(a0*b1-a1*b0)*(a0*b1-a1*b0)+(a0*b2-a2*b0)*(a0*b2-a2*b0)+(a0*b3-a3*b0)*(a0*b3-a3*b0)+(a1*b2-a2*b1)*(a1*b2-a2*b1)+(a1*b3-a3*b1)*(a1*b3-a3*b1)+(a2*b3-a3*b2)*(a2*b3-a3*b2)=(a0*a0+a1*a1+a2*a2+a3*a3)*(b0*b0+b1*b1+b2*b2+b3*b3)-(a0*b0+a1*b1+a2*b2+a3*b3)*(a0*b0+a1*b1+a2*b2+a3*b3):=by grind
theorem ZRo(a0 a1 a2 a3 a4 b0 b1 b2 b3 b4:Int):(a0*b1-a1*b0)*(a0*b1-a1*b0)+(a0*b2-a2*b0)*(a0*b2-a2*b0)+(a0*b3-a3*b0)*(a0*b3-a3*b0)+(a0*b4-a4*b0)*(a0*b4-a4*b0)+(a1*b2-a2*b1)*(a1*b2-a2*b1)+(a1*b3-a3*b1)*(a1*b3-a3*b1)+(a1*b4-a4*b1)*(a1*b4-a4*b1)+(a2*b3-a3*b2)*(a2*b3-a3*b2)+(a2*b4-a4*b2)*(a2*b4-a4*b2)+(a3*b4-a4*b3)*(a3*b4-a4*b3)=(a0*a0+a1*a1+a2*a2+a3*a3+a4*a4)*(b0*b0+b1*b1+b2*b2+b3*b3+b4*b4)-(a0*b0+a1*b1+a2*b2+a3*b3+a4*b4)*(a0*b0+a1*b1+a2*b2+a3*b3+a4*b4):=by grind
theorem ZRx(c0 c1 c2 c3 c4 q01 q02 q03 q04 q12 q13 q14 q23 q24 q34:Int):(c0*q12-c1*q02+c2*q01)*(c0*q12-c1*q02+c2*q01)+(c0*q13-c1*q03+c3*q01)*(c0*q13-c1*q03+c3*q01)+(c0*q14-c1*q04+c4*q01)*(c0*q14-c1*q04+c4*q01)+(c0*q23-c2*q03+c3*q02)*(c0*q23-c2*q03+c3*q02)+(c0*q24-c2*q04+c4*q02)*(c0*q24-c2*q04+c4*q02)+(c0*q34-c3*q04+c4*q03)*(c0*q34-c3*q04+c4*q03)+(c1*q23-c2*q13+c3*q12)*(c1*q23-c2*q13+c3*q12)+(c1*q24-c2*q14+c4*q12)*(c1*q24-c2*q14+c4*q12)+(c1*q34-c3*q14+c4*q13)*(c1*q34-c3*q14+c4*q13)+(c2*q34-c3*q24+c4*q23)*(c2*q34-c3*q24+c4*q23)=(c0*c0+c1*c1+c2*c2+c3*c3+c4*c4)*(q01*q01+q02*q02+q03*q03+q04*q04+q12*q12+q13*q13+q14*q14+q23*q23+q24*q24+q34*q34)-((c1*(q01)+c2*(q02)+c3*(q03)+c4*(q04))*(c1*(q01)+c2*(q02)+c3*(q03)+c4*(q04))+(c0*(-q01)+c2*(q12)+c3*(q13)+c4*(q14))*(c0*(-q01)+c2*(q12)+c3*(q13)+c4*(q14))+(c0*(-q02)+c1*(-q12)+c3*(q23)+c4*(q24))*(c0*(-q02)+c1*(-q12)+c3*(q23)+c4*(q24))+(c0*(-q03)+c1*(-q13)+c2*(-q23)+c4*(q34))*(c0*(-q03)+c1*(-q13)+c2*(-q23)+c4*(q34))+(c0*(-q04)+c1*(-q14)+c2*(-q24)+c3*(-q34))*(c0*(-q04)+c1*(-q14)+c2*(-q24)+c3*(-q34))):=by grind
theorem ZRT(M:Nat→Nat→Int):dk M id 4 =
  (M 0 0*M 1 1-M 0 1*M 1 0)*(M 2 2*M 3 3-M 2 3*M 3 2)-(M 0 0*M 1 2-M 0 2*M 1 0)*(M 2 1*M 3 3-M 2 3*M 3 1)+(M 0 0*M 1 3-M 0 3*M 1 0)*(M 2 1*M 3 2-M 2 2*M 3 1)
  + (M 0 1*M 1 2-M 0 2*M 1 1)*(M 2 0*M 3 3-M 2 3*M 3 0)-(M 0 1*M 1 3-M 0 3*M 1 1)*(M 2 0*M 3 2-M 2 2*M 3 0)+(M 0 2*M 1 3-M 0 3*M 1 2)*(M 2 0*M 3 1-M 2 1*M 3 0):=by
 simp [dk,cols,ZAr,od,sumN,sg,ins,List.range,List.range.loop]
 grind
theorem ZRU(M:Nat→Nat→Int):dk M id 5 =
  (M 0 0*M 1 1-M 0 1*M 1 0)*(M 2 2*(M 3 3*M 4 4-M 3 4*M 4 3)-M 2 3*(M 3 2*M 4 4-M 3 4*M 4 2)+M 2 4*(M 3 2*M 4 3-M 3 3*M 4 2))-(M 0 0*M 1 2-M 0 2*M 1 0)*(M 2 1*(M 3 3*M 4 4-M 3 4*M 4 3)-M 2 3*(M 3 1*M 4 4-M 3 4*M 4 1)+M 2 4*(M 3 1*M 4 3-M 3 3*M 4 1))+(M 0 0*M 1 3-M 0 3*M 1 0)*(M 2 1*(M 3 2*M 4 4-M 3 4*M 4 2)-M 2 2*(M 3 1*M 4 4-M 3 4*M 4 1)+M 2 4*(M 3 1*M 4 2-M 3 2*M 4 1))-(M 0 0*M 1 4-M 0 4*M 1 0)*(M 2 1*(M 3 2*M 4 3-M 3 3*M 4 2)-M 2 2*(M 3 1*M 4 3-M 3 3*M 4 1)+M 2 3*(M 3 1*M 4 2-M 3 2*M 4 1))+(M 0 1*M 1 2-M 0 2*M 1 1)*(M 2 0*(M 3 3*M 4 4-M 3 4*M 4 3)-M 2 3*(M 3 0*M 4 4-M 3 4*M 4 0)+M 2 4*(M 3 0*M 4 3-M 3 3*M 4 0))-(M 0 1*M 1 3-M 0 3*M 1 1)*(M 2 0*(M 3 2*M 4 4-M 3 4*M 4 2)-M 2 2*(M 3 0*M 4 4-M 3 4*M 4 0)+M 2 4*(M 3 0*M 4 2-M 3 2*M 4 0))+(M 0 1*M 1 4-M 0 4*M 1 1)*(M 2 0*(M 3 2*M 4 3-M 3 3*M 4 2)-M 2 2*(M 3 0*M 4 3-M 3 3*M 4 0)+M 2 3*(M 3 0*M 4 2-M 3 2*M 4 0))+(M 0 2*M 1 3-M 0 3*M 1 2)*(M 2 0*(M 3 1*M 4 4-M 3 4*M 4 1)-M 2 1*(M 3 0*M 4 4-M 3 4*M 4 0)+M 2 4*(M 3 0*M 4 1-M 3 1*M 4 0))-(M 0 2*M 1 4-M 0 4*M 1 2)*(M 2 0*(M 3 1*M 4 3-M 3 3*M 4 1)-M 2 1*(M 3 0*M 4 3-M 3 3*M 4 0)+M 2 3*(M 3 0*M 4 1-M 3 1*M 4 0))+(M 0 3*M 1 4-M 0 4*M 1 3)*(M 2 0*(M 3 1*M 4 2-M 3 2*M 4 1)-M 2 1*(M 3 0*M 4 2-M 3 2*M 4 0)+M 2 2*(M 3 0*M 4 1-M 3 1*M 4 0)):=by
 simp [dk,cols,ZAr,od,sumN,sg,ins,List.range,List.range.loop]
 grind
theorem ZB3{M:Nat→Nat→Int}(h:∀i,i < 5→∀j,j < 5→(M i j).natAbs≤60){i:Nat}(hi:i < 5):(M i 0*M i 0+M i 1*M i 1+M i 2*M i 2+M i 3*M i 3)≤14400∧(M i 0*M i 0+M i 1*M i 1+M i 2*M i 2+M i 3*M i 3+M i 4*M i 4)≤18000∧0≤(M i 0*M i 0+M i 1*M i 1+M i 2*M i 2+M i 3*M i 3)∧0≤(M i 0*M i 0+M i 1*M i 1+M i 2*M i 2+M i 3*M i 3+M i 4*M i 4):=by
 have a:∀x:Int,0≤x*x:=fun x=>by rcases Int.le_total 0 x with h | h; exact Int.mul_nonneg h h; exact Int.mul_nonneg_of_nonpos_of_nonpos h h
 have c:=ZKc (h i hi 0 (by decide))
 have p:=ZKc (h i hi 1 (by decide))
 have n:=ZKc (h i hi 2 (by decide))
 have f:=ZKc (h i hi 3 (by decide))
 have l:=ZKc (h i hi 4 (by decide))
 have b:=a (M i 0);have d:=a (M i 1);have g:=a (M i 2);have o:=a (M i 3);have m:=a (M i 4);generalize M i 0*M i 0=z0 at *;generalize M i 1*M i 1=z1 at *;generalize M i 2*M i 2=z2 at *;generalize M i 3*M i 3=z3 at *;generalize M i 4*M i 4=z4 at *;omega
theorem ZGk{a b A B:Int}(h1:a≤A)(h2:b≤B)(h3:0≤a)(h4:0≤B):a*b≤A*B:=
 Int.le_trans (Int.mul_le_mul_of_nonneg_left h2 h3) (Int.mul_le_mul_of_nonneg_right h1 h4)
theorem cs6(p0 p1 p2 p3 p4 p5 t0 t1 t2 t3 t4 t5:Int):(p0*t0-p1*t1+p2*t2+p3*t3-p4*t4+p5*t5)*(p0*t0-p1*t1+p2*t2+p3*t3-p4*t4+p5*t5)≤(p0*p0+p1*p1+p2*p2+p3*p3+p4*p4+p5*p5)*(t0*t0+t1*t1+t2*t2+t3*t3+t4*t4+t5*t5)∧0≤p0*p0+p1*p1+p2*p2+p3*p3+p4*p4+p5*p5:=by
 have c:=cs 6 (nth [p0,p1,p2,p3,p4,p5]) (nth [t0,-t1,t2,t3,-t4,t5]);simp only [sumN,nth,List.getD_cons_zero,List.getD_cons_succ] at c;obtain ⟨b,i,a⟩:=c
 have d:p0*t0-p1*t1+p2*t2+p3*t3-p4*t4+p5*t5=((((((0+p0*t0)+p1 * -t1)+p2*t2)+p3*t3)+p4 * -t4)+p5*t5):=by grind
 have f:p0*p0+p1*p1+p2*p2+p3*p3+p4*p4+p5*p5=((((((0+p0*p0)+p1*p1)+p2*p2)+p3*p3)+p4*p4)+p5*p5):=by grind
 have g:t0*t0+t1*t1+t2*t2+t3*t3+t4*t4+t5*t5=((((((0+t0*t0) + -t1 * -t1)+t2*t2)+t3*t3) + -t4 * -t4)+t5*t5):=by grind
 rw [d,f,g];exact ⟨a,b⟩
theorem ZRy(p0 p1 p2 p3 p4 p5 p6 p7 p8 p9 t0 t1 t2 t3 t4 t5 t6 t7 t8 t9:Int):(p0*t0-p1*t1+p2*t2-p3*t3+p4*t4-p5*t5+p6*t6+p7*t7-p8*t8+p9*t9)*(p0*t0-p1*t1+p2*t2-p3*t3+p4*t4-p5*t5+p6*t6+p7*t7-p8*t8+p9*t9)≤(p0*p0+p1*p1+p2*p2+p3*p3+p4*p4+p5*p5+p6*p6+p7*p7+p8*p8+p9*p9)*(t0*t0+t1*t1+t2*t2+t3*t3+t4*t4+t5*t5+t6*t6+t7*t7+t8*t8+t9*t9)∧0≤p0*p0+p1*p1+p2*p2+p3*p3+p4*p4+p5*p5+p6*p6+p7*p7+p8*p8+p9*p9:=by
 have c:=cs 10 (nth [p0,p1,p2,p3,p4,p5,p6,p7,p8,p9]) (nth [t0,-t1,t2,-t3,t4,-t5,t6,t7,-t8,t9]);simp only [sumN,nth,List.getD_cons_zero,List.getD_cons_succ] at c;obtain ⟨b,i,a⟩:=c
 have d:p0*t0-p1*t1+p2*t2-p3*t3+p4*t4-p5*t5+p6*t6+p7*t7-p8*t8+p9*t9=((((((((((0+p0*t0)+p1 * -t1)+p2*t2)+p3 * -t3)+p4*t4)+p5 * -t5)+p6*t6)+p7*t7)+p8 * -t8)+p9*t9):=by grind
 have f:p0*p0+p1*p1+p2*p2+p3*p3+p4*p4+p5*p5+p6*p6+p7*p7+p8*p8+p9*p9=((((((((((0+p0*p0)+p1*p1)+p2*p2)+p3*p3)+p4*p4)+p5*p5)+p6*p6)+p7*p7)+p8*p8)+p9*p9):=by grind
 have g:t0*t0+t1*t1+t2*t2+t3*t3+t4*t4+t5*t5+t6*t6+t7*t7+t8*t8+t9*t9=((((((((((0+t0*t0) + -t1 * -t1)+t2*t2) + -t3 * -t3)+t4*t4) + -t5 * -t5)+t6*t6)+t7*t7) + -t8 * -t8)+t9*t9):=by grind
 rw [d,f,g];exact ⟨a,b⟩
theorem ZIl{P A B D a b:Int}(h:P=A*B-D*D)(hA:A≤a)(hB:B≤b)(h0:0≤A)(hb:0≤b):P≤a*b:=by
 have d:=ZGk hA hB h0 hb
 have c:0≤D*D:=by rcases Int.le_total 0 D with h | h; exact Int.mul_nonneg h h; exact Int.mul_nonneg_of_nonpos_of_nonpos h h
 rw [h]; omega
theorem ZQb{P A B D a b:Int}(h:P=A*B-D)(hD:0≤D)(hA:A≤a)(hB:B≤b)(h0:0≤A)(hb:0≤b):P≤a*b:=by
 have c:=ZGk hA hB h0 hb;rw [h]; omega
theorem ZRz{M:Nat→Nat→Int}(h:∀i,i < 5→∀j,j < 5→(M i j).natAbs≤60):dk M id 4*dk M id 4≤42998169600000000:=by
 have a:=ZB3 h (i:=0) (by decide)
 have f:=ZB3 h (i:=1) (by decide)
 have b:=ZB3 h (i:=2) (by decide)
 have d:=ZB3 h (i:=3) (by decide)
 rw [ZRT];have c:=cs6 (M 0 0*M 1 1-M 0 1*M 1 0) (M 0 0*M 1 2-M 0 2*M 1 0) (M 0 0*M 1 3-M 0 3*M 1 0) (M 0 1*M 1 2-M 0 2*M 1 1) (M 0 1*M 1 3-M 0 3*M 1 1) (M 0 2*M 1 3-M 0 3*M 1 2) (M 2 2*M 3 3-M 2 3*M 3 2) (M 2 1*M 3 3-M 2 3*M 3 1) (M 2 1*M 3 2-M 2 2*M 3 1) (M 2 0*M 3 3-M 2 3*M 3 0) (M 2 0*M 3 2-M 2 2*M 3 0) (M 2 0*M 3 1-M 2 1*M 3 0);refine Int.le_trans c.1 ?_
 have X:(M 0 0*M 1 1-M 0 1*M 1 0)*(M 0 0*M 1 1-M 0 1*M 1 0)+(M 0 0*M 1 2-M 0 2*M 1 0)*(M 0 0*M 1 2-M 0 2*M 1 0)+(M 0 0*M 1 3-M 0 3*M 1 0)*(M 0 0*M 1 3-M 0 3*M 1 0)+(M 0 1*M 1 2-M 0 2*M 1 1)*(M 0 1*M 1 2-M 0 2*M 1 1)+(M 0 1*M 1 3-M 0 3*M 1 1)*(M 0 1*M 1 3-M 0 3*M 1 1)+(M 0 2*M 1 3-M 0 3*M 1 2)*(M 0 2*M 1 3-M 0 3*M 1 2)≤14400*14400:=ZIl (ZRn (M 0 0) (M 0 1) (M 0 2) (M 0 3) (M 1 0) (M 1 1) (M 1 2) (M 1 3)) a.1 f.1 a.2.2.1 (by decide)
 have Y:(M 2 2*M 3 3-M 2 3*M 3 2)*(M 2 2*M 3 3-M 2 3*M 3 2)+(M 2 1*M 3 3-M 2 3*M 3 1)*(M 2 1*M 3 3-M 2 3*M 3 1)+(M 2 1*M 3 2-M 2 2*M 3 1)*(M 2 1*M 3 2-M 2 2*M 3 1)+(M 2 0*M 3 3-M 2 3*M 3 0)*(M 2 0*M 3 3-M 2 3*M 3 0)+(M 2 0*M 3 2-M 2 2*M 3 0)*(M 2 0*M 3 2-M 2 2*M 3 0)+(M 2 0*M 3 1-M 2 1*M 3 0)*(M 2 0*M 3 1-M 2 1*M 3 0)≤14400*14400:=by
  have e:(M 2 2*M 3 3-M 2 3*M 3 2)*(M 2 2*M 3 3-M 2 3*M 3 2)+(M 2 1*M 3 3-M 2 3*M 3 1)*(M 2 1*M 3 3-M 2 3*M 3 1)+(M 2 1*M 3 2-M 2 2*M 3 1)*(M 2 1*M 3 2-M 2 2*M 3 1)+(M 2 0*M 3 3-M 2 3*M 3 0)*(M 2 0*M 3 3-M 2 3*M 3 0)+(M 2 0*M 3 2-M 2 2*M 3 0)*(M 2 0*M 3 2-M 2 2*M 3 0)+(M 2 0*M 3 1-M 2 1*M 3 0)*(M 2 0*M 3 1-M 2 1*M 3 0)=(M 2 0*M 3 1-M 2 1*M 3 0)*(M 2 0*M 3 1-M 2 1*M 3 0)+(M 2 0*M 3 2-M 2 2*M 3 0)*(M 2 0*M 3 2-M 2 2*M 3 0)+(M 2 0*M 3 3-M 2 3*M 3 0)*(M 2 0*M 3 3-M 2 3*M 3 0)+(M 2 1*M 3 2-M 2 2*M 3 1)*(M 2 1*M 3 2-M 2 2*M 3 1)+(M 2 1*M 3 3-M 2 3*M 3 1)*(M 2 1*M 3 3-M 2 3*M 3 1)+(M 2 2*M 3 3-M 2 3*M 3 2)*(M 2 2*M 3 3-M 2 3*M 3 2):=by ac_rfl
  rw [e]; exact ZIl (ZRn (M 2 0) (M 2 1) (M 2 2) (M 2 3) (M 3 0) (M 3 1) (M 3 2) (M 3 3)) b.1 d.1 b.2.2.1 (by decide)
 exact Int.le_trans (ZGk X Y c.2 (by decide)) (by decide)
theorem ZR0{M:Nat→Nat→Int}(h:∀i,i < 5→∀j,j < 5→(M i j).natAbs≤60):dk M id 5*dk M id 5≤1889568000000000000000:=by
 have a:∀x:Int,0≤x*x:=fun x=>by rcases Int.le_total 0 x with h | h; exact Int.mul_nonneg h h; exact Int.mul_nonneg_of_nonpos_of_nonpos h h
 have b:=ZB3 h (i:=0) (by decide)
 have l:=ZB3 h (i:=1) (by decide)
 have c:=ZB3 h (i:=2) (by decide)
 have f:=ZB3 h (i:=3) (by decide)
 have g:=ZB3 h (i:=4) (by decide)
 rw [ZRU];have d:=ZRy (M 0 0*M 1 1-M 0 1*M 1 0) (M 0 0*M 1 2-M 0 2*M 1 0) (M 0 0*M 1 3-M 0 3*M 1 0) (M 0 0*M 1 4-M 0 4*M 1 0) (M 0 1*M 1 2-M 0 2*M 1 1) (M 0 1*M 1 3-M 0 3*M 1 1) (M 0 1*M 1 4-M 0 4*M 1 1) (M 0 2*M 1 3-M 0 3*M 1 2) (M 0 2*M 1 4-M 0 4*M 1 2) (M 0 3*M 1 4-M 0 4*M 1 3) (M 2 2*(M 3 3*M 4 4-M 3 4*M 4 3)-M 2 3*(M 3 2*M 4 4-M 3 4*M 4 2)+M 2 4*(M 3 2*M 4 3-M 3 3*M 4 2)) (M 2 1*(M 3 3*M 4 4-M 3 4*M 4 3)-M 2 3*(M 3 1*M 4 4-M 3 4*M 4 1)+M 2 4*(M 3 1*M 4 3-M 3 3*M 4 1)) (M 2 1*(M 3 2*M 4 4-M 3 4*M 4 2)-M 2 2*(M 3 1*M 4 4-M 3 4*M 4 1)+M 2 4*(M 3 1*M 4 2-M 3 2*M 4 1)) (M 2 1*(M 3 2*M 4 3-M 3 3*M 4 2)-M 2 2*(M 3 1*M 4 3-M 3 3*M 4 1)+M 2 3*(M 3 1*M 4 2-M 3 2*M 4 1)) (M 2 0*(M 3 3*M 4 4-M 3 4*M 4 3)-M 2 3*(M 3 0*M 4 4-M 3 4*M 4 0)+M 2 4*(M 3 0*M 4 3-M 3 3*M 4 0)) (M 2 0*(M 3 2*M 4 4-M 3 4*M 4 2)-M 2 2*(M 3 0*M 4 4-M 3 4*M 4 0)+M 2 4*(M 3 0*M 4 2-M 3 2*M 4 0)) (M 2 0*(M 3 2*M 4 3-M 3 3*M 4 2)-M 2 2*(M 3 0*M 4 3-M 3 3*M 4 0)+M 2 3*(M 3 0*M 4 2-M 3 2*M 4 0)) (M 2 0*(M 3 1*M 4 4-M 3 4*M 4 1)-M 2 1*(M 3 0*M 4 4-M 3 4*M 4 0)+M 2 4*(M 3 0*M 4 1-M 3 1*M 4 0)) (M 2 0*(M 3 1*M 4 3-M 3 3*M 4 1)-M 2 1*(M 3 0*M 4 3-M 3 3*M 4 0)+M 2 3*(M 3 0*M 4 1-M 3 1*M 4 0)) (M 2 0*(M 3 1*M 4 2-M 3 2*M 4 1)-M 2 1*(M 3 0*M 4 2-M 3 2*M 4 0)+M 2 2*(M 3 0*M 4 1-M 3 1*M 4 0))
 refine Int.le_trans d.1 ?_
 have X:(M 0 0*M 1 1-M 0 1*M 1 0)*(M 0 0*M 1 1-M 0 1*M 1 0)+(M 0 0*M 1 2-M 0 2*M 1 0)*(M 0 0*M 1 2-M 0 2*M 1 0)+(M 0 0*M 1 3-M 0 3*M 1 0)*(M 0 0*M 1 3-M 0 3*M 1 0)+(M 0 0*M 1 4-M 0 4*M 1 0)*(M 0 0*M 1 4-M 0 4*M 1 0)+(M 0 1*M 1 2-M 0 2*M 1 1)*(M 0 1*M 1 2-M 0 2*M 1 1)+(M 0 1*M 1 3-M 0 3*M 1 1)*(M 0 1*M 1 3-M 0 3*M 1 1)+(M 0 1*M 1 4-M 0 4*M 1 1)*(M 0 1*M 1 4-M 0 4*M 1 1)+(M 0 2*M 1 3-M 0 3*M 1 2)*(M 0 2*M 1 3-M 0 3*M 1 2)+(M 0 2*M 1 4-M 0 4*M 1 2)*(M 0 2*M 1 4-M 0 4*M 1 2)+(M 0 3*M 1 4-M 0 4*M 1 3)*(M 0 3*M 1 4-M 0 4*M 1 3)≤18000*18000:=ZIl (ZRo (M 0 0) (M 0 1) (M 0 2) (M 0 3) (M 0 4) (M 1 0) (M 1 1) (M 1 2) (M 1 3) (M 1 4)) b.2.1 l.2.1 b.2.2.2 (by decide)
 have Q:=ZIl (ZRo (M 3 0) (M 3 1) (M 3 2) (M 3 3) (M 3 4) (M 4 0) (M 4 1) (M 4 2) (M 4 3) (M 4 4)) f.2.1 g.2.1 f.2.2.2 (by decide)
 have Y:(M 2 2*(M 3 3*M 4 4-M 3 4*M 4 3)-M 2 3*(M 3 2*M 4 4-M 3 4*M 4 2)+M 2 4*(M 3 2*M 4 3-M 3 3*M 4 2))*(M 2 2*(M 3 3*M 4 4-M 3 4*M 4 3)-M 2 3*(M 3 2*M 4 4-M 3 4*M 4 2)+M 2 4*(M 3 2*M 4 3-M 3 3*M 4 2))+(M 2 1*(M 3 3*M 4 4-M 3 4*M 4 3)-M 2 3*(M 3 1*M 4 4-M 3 4*M 4 1)+M 2 4*(M 3 1*M 4 3-M 3 3*M 4 1))*(M 2 1*(M 3 3*M 4 4-M 3 4*M 4 3)-M 2 3*(M 3 1*M 4 4-M 3 4*M 4 1)+M 2 4*(M 3 1*M 4 3-M 3 3*M 4 1))+(M 2 1*(M 3 2*M 4 4-M 3 4*M 4 2)-M 2 2*(M 3 1*M 4 4-M 3 4*M 4 1)+M 2 4*(M 3 1*M 4 2-M 3 2*M 4 1))*(M 2 1*(M 3 2*M 4 4-M 3 4*M 4 2)-M 2 2*(M 3 1*M 4 4-M 3 4*M 4 1)+M 2 4*(M 3 1*M 4 2-M 3 2*M 4 1))+(M 2 1*(M 3 2*M 4 3-M 3 3*M 4 2)-M 2 2*(M 3 1*M 4 3-M 3 3*M 4 1)+M 2 3*(M 3 1*M 4 2-M 3 2*M 4 1))*(M 2 1*(M 3 2*M 4 3-M 3 3*M 4 2)-M 2 2*(M 3 1*M 4 3-M 3 3*M 4 1)+M 2 3*(M 3 1*M 4 2-M 3 2*M 4 1))+(M 2 0*(M 3 3*M 4 4-M 3 4*M 4 3)-M 2 3*(M 3 0*M 4 4-M 3 4*M 4 0)+M 2 4*(M 3 0*M 4 3-M 3 3*M 4 0))*(M 2 0*(M 3 3*M 4 4-M 3 4*M 4 3)-M 2 3*(M 3 0*M 4 4-M 3 4*M 4 0)+M 2 4*(M 3 0*M 4 3-M 3 3*M 4 0))+(M 2 0*(M 3 2*M 4 4-M 3 4*M 4 2)-M 2 2*(M 3 0*M 4 4-M 3 4*M 4 0)+M 2 4*(M 3 0*M 4 2-M 3 2*M 4 0))*(M 2 0*(M 3 2*M 4 4-M 3 4*M 4 2)-M 2 2*(M 3 0*M 4 4-M 3 4*M 4 0)+M 2 4*(M 3 0*M 4 2-M 3 2*M 4 0))+(M 2 0*(M 3 2*M 4 3-M 3 3*M 4 2)-M 2 2*(M 3 0*M 4 3-M 3 3*M 4 0)+M 2 3*(M 3 0*M 4 2-M 3 2*M 4 0))*(M 2 0*(M 3 2*M 4 3-M 3 3*M 4 2)-M 2 2*(M 3 0*M 4 3-M 3 3*M 4 0)+M 2 3*(M 3 0*M 4 2-M 3 2*M 4 0))+(M 2 0*(M 3 1*M 4 4-M 3 4*M 4 1)-M 2 1*(M 3 0*M 4 4-M 3 4*M 4 0)+M 2 4*(M 3 0*M 4 1-M 3 1*M 4 0))*(M 2 0*(M 3 1*M 4 4-M 3 4*M 4 1)-M 2 1*(M 3 0*M 4 4-M 3 4*M 4 0)+M 2 4*(M 3 0*M 4 1-M 3 1*M 4 0))+(M 2 0*(M 3 1*M 4 3-M 3 3*M 4 1)-M 2 1*(M 3 0*M 4 3-M 3 3*M 4 0)+M 2 3*(M 3 0*M 4 1-M 3 1*M 4 0))*(M 2 0*(M 3 1*M 4 3-M 3 3*M 4 1)-M 2 1*(M 3 0*M 4 3-M 3 3*M 4 0)+M 2 3*(M 3 0*M 4 1-M 3 1*M 4 0))+(M 2 0*(M 3 1*M 4 2-M 3 2*M 4 1)-M 2 1*(M 3 0*M 4 2-M 3 2*M 4 0)+M 2 2*(M 3 0*M 4 1-M 3 1*M 4 0))*(M 2 0*(M 3 1*M 4 2-M 3 2*M 4 1)-M 2 1*(M 3 0*M 4 2-M 3 2*M 4 0)+M 2 2*(M 3 0*M 4 1-M 3 1*M 4 0))≤18000*(18000*18000):=by
  have e:(M 2 2*(M 3 3*M 4 4-M 3 4*M 4 3)-M 2 3*(M 3 2*M 4 4-M 3 4*M 4 2)+M 2 4*(M 3 2*M 4 3-M 3 3*M 4 2))*(M 2 2*(M 3 3*M 4 4-M 3 4*M 4 3)-M 2 3*(M 3 2*M 4 4-M 3 4*M 4 2)+M 2 4*(M 3 2*M 4 3-M 3 3*M 4 2))+(M 2 1*(M 3 3*M 4 4-M 3 4*M 4 3)-M 2 3*(M 3 1*M 4 4-M 3 4*M 4 1)+M 2 4*(M 3 1*M 4 3-M 3 3*M 4 1))*(M 2 1*(M 3 3*M 4 4-M 3 4*M 4 3)-M 2 3*(M 3 1*M 4 4-M 3 4*M 4 1)+M 2 4*(M 3 1*M 4 3-M 3 3*M 4 1))+(M 2 1*(M 3 2*M 4 4-M 3 4*M 4 2)-M 2 2*(M 3 1*M 4 4-M 3 4*M 4 1)+M 2 4*(M 3 1*M 4 2-M 3 2*M 4 1))*(M 2 1*(M 3 2*M 4 4-M 3 4*M 4 2)-M 2 2*(M 3 1*M 4 4-M 3 4*M 4 1)+M 2 4*(M 3 1*M 4 2-M 3 2*M 4 1))+(M 2 1*(M 3 2*M 4 3-M 3 3*M 4 2)-M 2 2*(M 3 1*M 4 3-M 3 3*M 4 1)+M 2 3*(M 3 1*M 4 2-M 3 2*M 4 1))*(M 2 1*(M 3 2*M 4 3-M 3 3*M 4 2)-M 2 2*(M 3 1*M 4 3-M 3 3*M 4 1)+M 2 3*(M 3 1*M 4 2-M 3 2*M 4 1))+(M 2 0*(M 3 3*M 4 4-M 3 4*M 4 3)-M 2 3*(M 3 0*M 4 4-M 3 4*M 4 0)+M 2 4*(M 3 0*M 4 3-M 3 3*M 4 0))*(M 2 0*(M 3 3*M 4 4-M 3 4*M 4 3)-M 2 3*(M 3 0*M 4 4-M 3 4*M 4 0)+M 2 4*(M 3 0*M 4 3-M 3 3*M 4 0))+(M 2 0*(M 3 2*M 4 4-M 3 4*M 4 2)-M 2 2*(M 3 0*M 4 4-M 3 4*M 4 0)+M 2 4*(M 3 0*M 4 2-M 3 2*M 4 0))*(M 2 0*(M 3 2*M 4 4-M 3 4*M 4 2)-M 2 2*(M 3 0*M 4 4-M 3 4*M 4 0)+M 2 4*(M 3 0*M 4 2-M 3 2*M 4 0))+(M 2 0*(M 3 2*M 4 3-M 3 3*M 4 2)-M 2 2*(M 3 0*M 4 3-M 3 3*M 4 0)+M 2 3*(M 3 0*M 4 2-M 3 2*M 4 0))*(M 2 0*(M 3 2*M 4 3-M 3 3*M 4 2)-M 2 2*(M 3 0*M 4 3-M 3 3*M 4 0)+M 2 3*(M 3 0*M 4 2-M 3 2*M 4 0))+(M 2 0*(M 3 1*M 4 4-M 3 4*M 4 1)-M 2 1*(M 3 0*M 4 4-M 3 4*M 4 0)+M 2 4*(M 3 0*M 4 1-M 3 1*M 4 0))*(M 2 0*(M 3 1*M 4 4-M 3 4*M 4 1)-M 2 1*(M 3 0*M 4 4-M 3 4*M 4 0)+M 2 4*(M 3 0*M 4 1-M 3 1*M 4 0))+(M 2 0*(M 3 1*M 4 3-M 3 3*M 4 1)-M 2 1*(M 3 0*M 4 3-M 3 3*M 4 0)+M 2 3*(M 3 0*M 4 1-M 3 1*M 4 0))*(M 2 0*(M 3 1*M 4 3-M 3 3*M 4 1)-M 2 1*(M 3 0*M 4 3-M 3 3*M 4 0)+M 2 3*(M 3 0*M 4 1-M 3 1*M 4 0))+(M 2 0*(M 3 1*M 4 2-M 3 2*M 4 1)-M 2 1*(M 3 0*M 4 2-M 3 2*M 4 0)+M 2 2*(M 3 0*M 4 1-M 3 1*M 4 0))*(M 2 0*(M 3 1*M 4 2-M 3 2*M 4 1)-M 2 1*(M 3 0*M 4 2-M 3 2*M 4 0)+M 2 2*(M 3 0*M 4 1-M 3 1*M 4 0))=(M 2 0*(M 3 1*M 4 2-M 3 2*M 4 1)-M 2 1*(M 3 0*M 4 2-M 3 2*M 4 0)+M 2 2*(M 3 0*M 4 1-M 3 1*M 4 0))*(M 2 0*(M 3 1*M 4 2-M 3 2*M 4 1)-M 2 1*(M 3 0*M 4 2-M 3 2*M 4 0)+M 2 2*(M 3 0*M 4 1-M 3 1*M 4 0))+(M 2 0*(M 3 1*M 4 3-M 3 3*M 4 1)-M 2 1*(M 3 0*M 4 3-M 3 3*M 4 0)+M 2 3*(M 3 0*M 4 1-M 3 1*M 4 0))*(M 2 0*(M 3 1*M 4 3-M 3 3*M 4 1)-M 2 1*(M 3 0*M 4 3-M 3 3*M 4 0)+M 2 3*(M 3 0*M 4 1-M 3 1*M 4 0))+(M 2 0*(M 3 1*M 4 4-M 3 4*M 4 1)-M 2 1*(M 3 0*M 4 4-M 3 4*M 4 0)+M 2 4*(M 3 0*M 4 1-M 3 1*M 4 0))*(M 2 0*(M 3 1*M 4 4-M 3 4*M 4 1)-M 2 1*(M 3 0*M 4 4-M 3 4*M 4 0)+M 2 4*(M 3 0*M 4 1-M 3 1*M 4 0))+(M 2 0*(M 3 2*M 4 3-M 3 3*M 4 2)-M 2 2*(M 3 0*M 4 3-M 3 3*M 4 0)+M 2 3*(M 3 0*M 4 2-M 3 2*M 4 0))*(M 2 0*(M 3 2*M 4 3-M 3 3*M 4 2)-M 2 2*(M 3 0*M 4 3-M 3 3*M 4 0)+M 2 3*(M 3 0*M 4 2-M 3 2*M 4 0))+(M 2 0*(M 3 2*M 4 4-M 3 4*M 4 2)-M 2 2*(M 3 0*M 4 4-M 3 4*M 4 0)+M 2 4*(M 3 0*M 4 2-M 3 2*M 4 0))*(M 2 0*(M 3 2*M 4 4-M 3 4*M 4 2)-M 2 2*(M 3 0*M 4 4-M 3 4*M 4 0)+M 2 4*(M 3 0*M 4 2-M 3 2*M 4 0))+(M 2 0*(M 3 3*M 4 4-M 3 4*M 4 3)-M 2 3*(M 3 0*M 4 4-M 3 4*M 4 0)+M 2 4*(M 3 0*M 4 3-M 3 3*M 4 0))*(M 2 0*(M 3 3*M 4 4-M 3 4*M 4 3)-M 2 3*(M 3 0*M 4 4-M 3 4*M 4 0)+M 2 4*(M 3 0*M 4 3-M 3 3*M 4 0))+(M 2 1*(M 3 2*M 4 3-M 3 3*M 4 2)-M 2 2*(M 3 1*M 4 3-M 3 3*M 4 1)+M 2 3*(M 3 1*M 4 2-M 3 2*M 4 1))*(M 2 1*(M 3 2*M 4 3-M 3 3*M 4 2)-M 2 2*(M 3 1*M 4 3-M 3 3*M 4 1)+M 2 3*(M 3 1*M 4 2-M 3 2*M 4 1))+(M 2 1*(M 3 2*M 4 4-M 3 4*M 4 2)-M 2 2*(M 3 1*M 4 4-M 3 4*M 4 1)+M 2 4*(M 3 1*M 4 2-M 3 2*M 4 1))*(M 2 1*(M 3 2*M 4 4-M 3 4*M 4 2)-M 2 2*(M 3 1*M 4 4-M 3 4*M 4 1)+M 2 4*(M 3 1*M 4 2-M 3 2*M 4 1))+(M 2 1*(M 3 3*M 4 4-M 3 4*M 4 3)-M 2 3*(M 3 1*M 4 4-M 3 4*M 4 1)+M 2 4*(M 3 1*M 4 3-M 3 3*M 4 1))*(M 2 1*(M 3 3*M 4 4-M 3 4*M 4 3)-M 2 3*(M 3 1*M 4 4-M 3 4*M 4 1)+M 2 4*(M 3 1*M 4 3-M 3 3*M 4 1))+(M 2 2*(M 3 3*M 4 4-M 3 4*M 4 3)-M 2 3*(M 3 2*M 4 4-M 3 4*M 4 2)+M 2 4*(M 3 2*M 4 3-M 3 3*M 4 2))*(M 2 2*(M 3 3*M 4 4-M 3 4*M 4 3)-M 2 3*(M 3 2*M 4 4-M 3 4*M 4 2)+M 2 4*(M 3 2*M 4 3-M 3 3*M 4 2)):=by ac_rfl
  rw [e]; exact ZQb (ZRx (M 2 0) (M 2 1) (M 2 2) (M 2 3) (M 2 4) (M 3 0*M 4 1-M 3 1*M 4 0) (M 3 0*M 4 2-M 3 2*M 4 0) (M 3 0*M 4 3-M 3 3*M 4 0) (M 3 0*M 4 4-M 3 4*M 4 0) (M 3 1*M 4 2-M 3 2*M 4 1) (M 3 1*M 4 3-M 3 3*M 4 1) (M 3 1*M 4 4-M 3 4*M 4 1) (M 3 2*M 4 3-M 3 3*M 4 2) (M 3 2*M 4 4-M 3 4*M 4 2) (M 3 3*M 4 4-M 3 4*M 4 3)) (by repeat (first | exact a _ | apply Int.add_nonneg)) c.2.1 Q c.2.2.2 (by decide)
 exact Int.le_trans (ZGk X Y d.2 (by decide)) (by decide)
theorem ZRV(M:Nat→Nat→Int)(h:∀i,i < 5→∀j,j < 5→(M i j).natAbs≤60):(dk M id 4*dk M id 5).natAbs≤9223372036854775807:=by
 have a:∀x:Int,0≤x*x:=fun x=>by rcases Int.le_total 0 x with h | h; exact Int.mul_nonneg h h; exact Int.mul_nonneg_of_nonpos_of_nonpos h h
 have e:dk M id 4*dk M id 5*(dk M id 4*dk M id 5)=(dk M id 4*dk M id 4)*(dk M id 5*dk M id 5):=by grind
 refine ZPD (K:=42998169600000000*1889568000000000000000) ?_ (by decide)
 rw [e]
 exact ZGk (ZRz h) (ZR0 h) (a _) (by decide)
end Go.Proofs.YtkjkfceblmgogaaGreat.Lin
