import Derived.Test.YtdanomklbiidaaaGreatDoorMgAI
namespace Go.Proofs.YtdanomklbiidaaaGreatDoor.Pick
def zs (lo:Int):Nat→(Int→Int)→Int
 | 0,_=>0
 | n+1,f=>zs lo n f+f (lo+n)
theorem zs_congr {lo:Int} {f g:Int→Int} : ∀{n:Nat},(∀i:Nat,i < n→f (lo+i)=g (lo+i))→zs lo n f=zs lo n g
 | 0,_=>rfl
 | n+1,h=>by
  have:=zs_congr (n:=n) fun i hi=>h i (by omega)
  simp only [zs,this,h n (by omega)]
theorem zs_add (lo:Int) (f g:Int→Int):∀n,zs lo n (fun x=>f x+g x)=zs lo n f+zs lo n g
 | 0=>rfl
 | n+1=>by simp only [zs,zs_add lo f g n]; omega
theorem zs_sub (lo:Int) (f g:Int→Int):∀n,zs lo n (fun x=>f x-g x)=zs lo n f-zs lo n g
 | 0=>rfl
 | n+1=>by simp only [zs,zs_sub lo f g n]; omega
theorem zs_const (lo c:Int):∀n:Nat,zs lo n (fun _=>c)=n*c
 | 0=>by simp [zs]
 | n+1=>by simp only [zs,zs_const lo c n]; grind
theorem zs_split (lo:Int) (f:Int→Int) (m:Nat):∀n,zs lo (m+n) f=zs lo m f+zs (lo+m) n f
 | 0=>by simp [zs]
 | n+1=>by
  rw [←Nat.add_assoc]
  simp only [zs,zs_split lo f m n]
  rw [show lo+((m+n:Nat):Int)=lo+m+n by omega]
  omega
theorem zs_first (lo:Int) (f:Int→Int) (n:Nat):zs lo (n+1) f=f lo+zs (lo+1) n f:=by
 rw [Nat.add_comm n 1,zs_split lo f 1 n]
 simp [zs]
theorem zs_shift (lo:Int) (f:Int→Int):∀n,zs lo n (fun x=>f (x+1))=zs (lo+1) n f
 | 0=>rfl
 | n+1=>by
  simp only [zs,zs_shift lo f n]
  rw [show lo+(n:Int)+1=lo+1+n by omega]
theorem zs_rev:∀(n:Nat) (lo:Int) (f:Int→Int),zs lo n (fun x=>f (2*lo+n-1-x))=zs lo n f
 | 0,_,_=>rfl
 | n+1,lo,f=>by
  have h:=zs_rev n lo (fun x=>f (x+1))
  rw [zs_shift] at h
  rw [zs_first lo f n,←h]
  simp only [zs]
  rw [show 2*lo+((n+1:Nat):Int)-1-(lo+n)=lo by omega,Int.add_comm]
  refine congrArg (f lo + ·) (zs_congr fun i _=>?_)
  exact congrArg f (by omega)
theorem zs_zero {lo:Int} {f:Int→Int} {n:Nat} (h:∀i:Nat,i < n→f (lo+i)=0):zs lo n f=0:=by
 rw [zs_congr (g:=fun _=>0) h,zs_const]; simp
theorem zs_part {lo p q:Int} {n:Nat} {f:Int→Int} (h1:lo≤p) (h2:p≤q) (h3:q≤lo+n):zs lo n (fun x=>if p≤x∧x < q then f x else 0)=zs p (q-p).toNat f:=by
 obtain ⟨k,hk⟩:∃k:Nat,p=lo+k:=⟨(p-lo).toNat,by omega⟩
 obtain ⟨m,hm⟩:∃m:Nat,q=p+m:=⟨(q-p).toNat,by omega⟩
 obtain ⟨r,hr⟩:∃r:Nat,n=k+(m+r):=⟨n-k-m,by omega⟩
 subst hr
 rw [zs_split,zs_split,←hk,←hm]
 rw [zs_zero (lo:=lo) fun i hi=>by rw [if_neg (by omega)],zs_zero (lo:=q) fun i hi=>by rw [if_neg (by omega)]]
 rw [show (q-p).toNat=m by omega,zs_congr (g:=f) fun i hi=>by rw [if_pos (by omega)]]
 omega
def ls {ρ:Type} (s:List ρ) (g:ρ→Int):Int:=(s.map g).sum
theorem ls_cons {ρ:Type} (r:ρ) (s:List ρ) (g:ρ→Int):ls (r :: s) g=g r+ls s g:=by simp [ls]
theorem ls_congr {ρ:Type} {f g:ρ→Int} : ∀{s:List ρ},(∀r∈s,f r=g r)→ls s f=ls s g
 | [],_=>rfl
 | r :: s,h=>by rw [ls_cons,ls_cons,h r (by simp),ls_congr fun r' hr=>h r' (by simp [hr])]
theorem ls_add {ρ:Type} (f g:ρ→Int):∀s:List ρ,ls s (fun r=>f r+g r)=ls s f+ls s g
 | []=>rfl
 | r :: s=>by rw [ls_cons,ls_cons,ls_cons,ls_add f g s]; omega
theorem ls_sub {ρ:Type} (f g:ρ→Int):∀s:List ρ,ls s (fun r=>f r-g r)=ls s f-ls s g
 | []=>rfl
 | r :: s=>by rw [ls_cons,ls_cons,ls_cons,ls_sub f g s]; omega
theorem ls_zero {ρ:Type} {f:ρ→Int} : ∀{s:List ρ},(∀r∈s,f r=0)→ls s f=0
 | [],_=>rfl
 | r :: s,h=>by rw [ls_cons,h r (by simp),ls_zero fun r' hr=>h r' (by simp [hr])]; rfl
theorem ls_one {ρ:Type} {f:ρ→Int} {r0:ρ} : ∀{s:List ρ},s.Nodup→r0∈s→(∀r∈s,r≠r0→f r=0)→ls s f=f r0
 | [],_,h,_=>by simp at h
 | r :: s,hn,h,hz=>by
  have hn':=List.nodup_cons.1 hn
  rw [ls_cons]
  rcases List.mem_cons.1 h with rfl | h
  ·rw [ls_zero fun r' hr=>hz r' (by simp [hr]) fun e=>hn'.1 (e ▸ hr)]
   omega
  ·rw [hz r (by simp) fun e=>hn'.1 (e ▸ h),ls_one hn'.2 h fun r' hr=>hz r' (by simp [hr])]
   omega
theorem ls_zs {ρ:Type} (lo:Int) (n:Nat) (g:ρ→Int→Int):∀s:List ρ,ls s (fun r=>zs lo n (g r))=zs lo n (fun x=>ls s fun r=>g r x)
 | []=>by
  rw [zs_zero fun _ _=>rfl]; rfl
 | r :: s=>by
  rw [ls_cons,ls_zs lo n g s,←zs_add]
  exact zs_congr fun i _=>(ls_cons r s fun r=>g r (lo+i)).symm
def hh (px py qx qy x:Int):Int:=2*py+(qy-py)*(x-px) / (qx-px)-(-((qy-py)*(x-px))) / (qx-px)
def fl (px py qx qy x:Int):Int:=py+(qy-py)*(x-px) / (qx-px)
def ce (px py qx qy x:Int):Int:=py-(-((qy-py)*(x-px))) / (qx-px)
theorem hh_eq (px py qx qy x:Int):hh px py qx qy x=fl px py qx qy x+ce px py qx qy x:=by unfold hh fl ce; omega
theorem ends_r {px py qx qy:Int} (h:px < qx):fl px py qx qy qx=qy∧ce px py qx qy qx=qy:=by
 have hd:qx-px≠0:=by omega
 have h1 : -((qy-py)*(qx-px))=(-(qy-py))*(qx-px):=by grind
 unfold fl ce
 rw [h1,Int.mul_ediv_cancel _ hd,Int.mul_ediv_cancel _ hd]
 omega
theorem hh_sym {px py qx qy:Int} (h:px < qx) (x:Int):hh px py qx qy x+hh px py qx qy (px+qx-x)=2*(py+qy):=by
 have hd:qx-px≠0:=by omega
 unfold hh
 have h1:(qy-py)*(px+qx-x-px)=-((qy-py)*(x-px))+(qy-py)*(qx-px):=by grind
 have h2 : -(-((qy-py)*(x-px))+(qy-py)*(qx-px))=(qy-py)*(x-px)+(-(qy-py))*(qx-px):=by grind
 rw [h1,h2,Int.add_mul_ediv_right _ _ hd,Int.add_mul_ediv_right _ _ hd]
 omega
theorem under {px py qx qy:Int} (h:px < qx):zs px (qx-px).toNat (fun x=>hh px py qx qy x+hh px py qx qy (x+1))=2*((qx-px)*(py+qy)):=by
 obtain ⟨n,hn⟩:∃n:Nat,qx=px+n:=⟨(qx-px).toNat,by omega⟩
 have e:(qx-px).toNat=n:=by omega
 rw [e]
 have h1:=zs_rev n px (fun x=>hh px py qx qy x+hh px py qx qy (x+1))
 have h2:=zs_add px (fun x=>hh px py qx qy x+hh px py qx qy (x+1)) (fun x=>hh px py qx qy (2*px+n-1-x)+hh px py qx qy (2*px+n-1-x+1)) n
 rw [h1] at h2
 rw [zs_congr (g:=fun _=>4*(py+qy)) fun i hi=>by
  have a1:=hh_sym (py:=py) (qy:=qy) h (px+i)
  have a2:=hh_sym (py:=py) (qy:=qy) h (px+i+1)
  rw [show 2*px+n-1-(px+i)=px+qx-(px+i+1) by omega,show px+qx-(px+i+1)+1=px+qx-(px+i) by omega]
  omega,zs_const] at h2
 rw [show qx-px=(n:Int) by omega]
 grind
theorem sgn_le {d u b v:Int} (hd:0 < d) (hb:0 < b) (h:d*u=b*v):u≤0↔v≤0:=by
 constructor
 ·intro hu
  refine Int.not_lt.1 fun hv=>?_
  have h1:=Int.mul_pos hb hv
  have h2:=Int.mul_le_mul_of_nonneg_left hu (Int.le_of_lt hd)
  rw [Int.mul_zero] at h2
  omega
 ·intro hv
  refine Int.not_lt.1 fun hu=>?_
  have h1:=Int.mul_pos hd hu
  have h2:=Int.mul_le_mul_of_nonneg_left hv (Int.le_of_lt hb)
  rw [Int.mul_zero] at h2
  omega
theorem sgn_lt {d u b v:Int} (hd:0 < d) (hb:0 < b) (h:d*u=b*v):u < 0↔v < 0:=by
 have h1:d*(-u)=b*(-v):=by grind
 have:=sgn_le hd hb h1
 omega
theorem floor_le {d N k:Int} (hd:0 < d):d*k-N≤0↔k≤N / d:=by
 rw [Int.le_ediv_iff_mul_le hd,Int.mul_comm k d]; omega
theorem ceil_le {d N k:Int} (hd:0 < d):0≤d*k-N↔-((-N) / d)≤k:=by
 have:=Int.le_ediv_iff_mul_le (a:=-k) (b:=-N) hd
 rw [Int.neg_mul,Int.mul_comm k d] at this
 omega
theorem up_iff {a b c px py qx qy:Int} (x y:Int) (hb:0 < b) (hd:px < qx) (hp:a*px+b*py=c) (hq:a*qx+b*qy=c) :
  (a*x+b*y≤c↔y≤fl px py qx qy x)∧(a*x+b*y < c↔y < ce px py qx qy x):=by
 have hd':0 < qx-px:=by omega
 have key:(qx-px)*(a*x+b*y-c)=b*((qx-px)*(y-py)-(qy-py)*(x-px)):=by grind
 have h1:=sgn_le hd' hb key
 have h2:=sgn_lt hd' hb key
 have h3:=floor_le (N:=(qy-py)*(x-px)) (k:=y-py) hd'
 have h4:=ceil_le (N:=(qy-py)*(x-px)) (k:=y-py) hd'
 unfold fl ce
 constructor <;> omega
theorem dn_iff {a b c px py qx qy:Int} (x y:Int) (hb:b < 0) (hd:px < qx) (hp:a*px+b*py=c) (hq:a*qx+b*qy=c) :
  (a*x+b*y≤c↔ce px py qx qy x≤y)∧(a*x+b*y < c↔fl px py qx qy x < y):=by
 have hd':0 < qx-px:=by omega
 have key:(qx-px)*(a*x+b*y-c)=(-b)*(-((qx-px)*(y-py)-(qy-py)*(x-px))):=by grind
 have h1:=sgn_le hd' (by omega:0 < -b) key
 have h2:=sgn_lt hd' (by omega:0 < -b) key
 have h3:=floor_le (N:=(qy-py)*(x-px)) (k:=y-py) hd'
 have h4:=ceil_le (N:=(qy-py)*(x-px)) (k:=y-py) hd'
 unfold fl ce
 constructor <;> omega
end Go.Proofs.YtdanomklbiidaaaGreatDoor.Pick

namespace Go.Proofs.YtdanomklbiidaaaGreatDoor.Pick
theorem frac_max {α:Type} (num den:α→Int):∀l:List α,l≠[]→(∀e∈l,0 < den e)→∃m∈l,∀e∈l,num e*den m≤num m*den e
 | [],h,_=>absurd rfl h
 | [a],_,_=>⟨a,by simp,fun e he=>by simp at he; subst he; exact Int.le_refl _⟩
 | a :: b :: l,_,hd=>by
  obtain ⟨m,hm,h⟩:=frac_max num den (b :: l) (by simp) fun e he=>hd e (by simp only [List.mem_cons] at he ⊢; right; exact he)
  have hda:=hd a (by simp)
  have hdm:=hd m (by simp only [List.mem_cons] at hm ⊢; right; exact hm)
  by_cases hc:num a*den m≤num m*den a
  ·refine ⟨m,List.mem_cons_of_mem _ hm,fun e he=>?_⟩
   rcases List.mem_cons.1 he with rfl | he
   ·exact hc
   ·exact h e he
  ·refine ⟨a,by simp,fun e he=>?_⟩
   rcases List.mem_cons.1 he with rfl | he
   ·exact Int.le_refl _
   ·have hde:=hd e (List.mem_cons_of_mem _ he)
    have h1:=Int.mul_le_mul_of_nonneg_right (h e he) (Int.le_of_lt hda)
    have h2:=Int.mul_le_mul_of_nonneg_right (Int.le_of_lt (Int.not_le.1 hc)) (Int.le_of_lt hde)
    refine Int.le_of_mul_le_mul_right (a:=den m) ?_ hdm
    have e1:num e*den m*den a=num e*den a*den m:=by grind
    have e2:num m*den e*den a=num m*den a*den e:=by grind
    have e3:num a*den e*den m=num a*den m*den e:=by grind
    rw [e3,←e1]
    omega
structure Pol {ρ:Type} (P:List (Int×Int)) (s:List ρ) (a b c px py qx qy:ρ→Int):Prop where
 nd:s.Nodup
 injb:∀r∈s,∀r'∈s,a r*b r'=a r'*b r→0 < b r*b r'→r=r'
 inja:∀r∈s,∀r'∈s,b r=0→b r'=0→0 < a r*a r'→r=r'
 nz:∀r∈s,¬(a r=0∧b r=0)
 hold:∀r∈s,∀z∈P,a r*z.1+b r*z.2≤c r
 pin:∀r∈s,(px r,py r)∈P
 qin:∀r∈s,(qx r,qy r)∈P
 pon:∀r∈s,a r*px r+b r*py r=c r
 qon:∀r∈s,a r*qx r+b r*qy r=c r
 lex:∀r∈s,px r < qx r∨(px r=qx r∧py r < qy r)
 btw:∀r∈s,∀z∈P,a r*z.1+b r*z.2=c r→(px r < z.1∨px r=z.1∧py r≤z.2)∧(z.1 < qx r∨z.1=qx r∧z.2≤qy r)
 side:∀α β:Int,∀z∈P,∀w∈P,z≠w→(∀v∈P,α*v.1+β*v.2≤α*z.1+β*z.2)→α*w.1+β*w.2=α*z.1+β*z.2→¬(α=0∧β=0)→∃r∈s,a r*β=α*b r∧0 < a r*α+b r*β∧a r*z.1+b r*z.2=c r
 full:∀α β:Int,(∀v∈P,∀w∈P,α*v.1+β*v.2=α*w.1+β*w.2)→α=0∧β=0
section
variable {ρ:Type} {P:List (Int×Int)} {s:List ρ} {a b c px py qx qy:ρ→Int}
theorem Pol.xne (h:Pol P s a b c px py qx qy) {r:ρ} (hr:r∈s) (hb:b r≠0):px r < qx r:=by
 rcases h.lex r hr with h1 | ⟨h1,h2⟩
 ·exact h1
 ·exfalso
  have e1:=h.pon r hr
  have e2:=h.qon r hr
  rw [←h1,←e1] at e2
  have e3:b r*(qy r-py r)=0:=by grind
  rcases Int.mul_eq_zero.1 e3 with e | e
  ·exact hb e
  ·omega
theorem Pol.xeq (h:Pol P s a b c px py qx qy) {r:ρ} (hr:r∈s) (hb:b r=0):px r=qx r:=by
 have e1:=h.pon r hr
 have e2:=h.qon r hr
 rw [hb] at e1 e2
 have e3:a r*(qx r-px r)=0:=by grind
 rcases Int.mul_eq_zero.1 e3 with e | e
 ·exact absurd ⟨e,hb⟩ (h.nz r hr)
 ·omega
theorem Pol.span (h:Pol P s a b c px py qx qy) {σ:Int} (hσ:σ=1∨σ=-1) (x:Int) (hl:∃z∈P,z.1≤x) (hg:∃z∈P,x < z.1) :
  ∃r∈s,0 < σ*b r∧px r≤x∧x < qx r:=by
 obtain ⟨L,hL⟩:∃L,L=(P.filter fun z=>decide (z.1≤x)).flatMap fun z=>(P.filter fun w=>decide (x < w.1)).map fun w=>(z,w):=⟨_,rfl⟩
 have mem:∀e:(Int×Int)×(Int×Int),e∈L↔(e.1∈P∧e.1.1≤x)∧e.2∈P∧x < e.2.1:=fun e=>by
  rw [hL,List.mem_flatMap]
  constructor
  ·rintro ⟨z,hz,he⟩
   obtain ⟨w,hw,rfl⟩:=List.mem_map.1 he
   simp only [List.mem_filter,decide_eq_true_eq] at hz hw
   exact ⟨hz,hw⟩
  ·rintro ⟨hz,hw⟩
   exact ⟨e.1,by simp only [List.mem_filter,decide_eq_true_eq]; exact hz,List.mem_map.2 ⟨e.2,by simp only [List.mem_filter,decide_eq_true_eq]; exact hw,rfl⟩⟩
 obtain ⟨z0,hz0,hz1⟩:=hl
 obtain ⟨w0,hw0,hw1⟩:=hg
 have hne:L≠[]:=List.ne_nil_of_mem ((mem (z0,w0)).2 ⟨⟨hz0,hz1⟩,hw0,hw1⟩)
 obtain ⟨⟨z,w⟩,hm,hmax⟩:=frac_max (fun e:(Int×Int)×(Int×Int)=>σ*(e.1.2*(2*e.2.1-(2*x+1))+e.2.2*(2*x+1-2*e.1.1))) (fun e=>e.2.1-e.1.1) L hne fun e he=>by
  have:=(mem e).1 he
  omega
 obtain ⟨⟨hz,hzx⟩,hw,hwx⟩:=(mem _).1 hm
 simp only at hz hzx hw hwx hmax
 -- all lie beneath the line
 have hsup:∀v∈P,σ*((w.1-z.1)*(v.2-z.2)-(w.2-z.2)*(v.1-z.1))≤0:=fun v hv=>by
  by_cases hvx:v.1≤x
  ·have h1:=hmax (v,w) ((mem _).2 ⟨⟨hv,hvx⟩,hw,hwx⟩)
   simp only at h1
   have key:(2*w.1-(2*x+1))*(σ*((w.1-z.1)*(v.2-z.2)-(w.2-z.2)*(v.1-z.1)))=1*(σ*(v.2*(2*w.1-(2*x+1))+w.2*(2*x+1-2*v.1))*(w.1-z.1)-σ*(z.2*(2*w.1-(2*x+1))+w.2*(2*x+1-2*z.1))*(w.1-v.1)):=by grind
   refine (sgn_le (by omega) (by decide) key).2 ?_
   omega
  ·have h1:=hmax (z,v) ((mem _).2 ⟨⟨hz,hzx⟩,hv,by simp only; omega⟩)
   simp only at h1
   have key:(2*x+1-2*z.1)*(σ*((w.1-z.1)*(v.2-z.2)-(w.2-z.2)*(v.1-z.1)))=1*(σ*(z.2*(2*v.1-(2*x+1))+v.2*(2*x+1-2*z.1))*(w.1-z.1)-σ*(z.2*(2*w.1-(2*x+1))+w.2*(2*x+1-2*z.1))*(v.1-z.1)):=by grind
   refine (sgn_le (by omega) (by decide) key).2 ?_
   omega
 have hd:0 < w.1-z.1:=by omega
 obtain ⟨r,hr,hpar,hpos,hon⟩:=h.side (-(σ*(w.2-z.2))) (σ*(w.1-z.1)) z hz w hw (fun e=>by rw [e] at hd; omega) (fun v hv=>by
  have h1:=hsup v hv
  have e:σ*((w.1-z.1)*(v.2-z.2)-(w.2-z.2)*(v.1-z.1))=(-(σ*(w.2-z.2))*v.1+σ*(w.1-z.1)*v.2)-(-(σ*(w.2-z.2))*z.1+σ*(w.1-z.1)*z.2):=by grind
  omega) (by grind) (fun q=>by rcases hσ with rfl | rfl <;> omega)
 have hss:σ*σ=1:=by rcases hσ with rfl | rfl <;> rfl
 -- the row's second number has σ's sign
 have hbs:0 < σ*b r:=by
  refine Int.not_le.1 fun hle=>?_
  have e1:(w.1-z.1)*(a r * -(σ*(w.2-z.2))+b r*(σ*(w.1-z.1)))=σ*b r*((w.2-z.2)*(w.2-z.2)+(w.1-z.1)*(w.1-z.1)):=by
   have e2:a r*(w.1-z.1)=-((w.2-z.2)*b r):=by
    have:σ*(a r*(σ*(w.1-z.1)))=σ*(-(σ*(w.2-z.2))*b r):=by rw [hpar]
    have e3:σ*(a r*(σ*(w.1-z.1)))=(σ*σ)*(a r*(w.1-z.1)):=by grind
    have e4:σ*(-(σ*(w.2-z.2))*b r)=(σ*σ)*(-((w.2-z.2)*b r)):=by grind
    rw [e3,e4,hss] at this
    omega
   grind
  have p1:=Int.mul_pos hd hpos
  have p2:0≤(w.2-z.2)*(w.2-z.2):=by
   rcases Int.le_total 0 (w.2-z.2) with q | q
   ·exact Int.mul_nonneg q q
   ·exact Int.mul_nonneg_of_nonpos_of_nonpos q q
  have p3:=Int.mul_pos hd hd
  have p4:=Int.mul_le_mul_of_nonneg_right hle (show 0≤(w.2-z.2)*(w.2-z.2)+(w.1-z.1)*(w.1-z.1) by omega)
  rw [Int.zero_mul] at p4
  omega
 have hon2:a r*w.1+b r*w.2=c r:=by
  have e2:(w.1-z.1)*(a r*(w.1-z.1)+b r*(w.2-z.2))=0:=by
   have:σ*(a r*(σ*(w.1-z.1)))=σ*(-(σ*(w.2-z.2))*b r):=by rw [hpar]
   have e3:σ*(a r*(σ*(w.1-z.1)))=(σ*σ)*(a r*(w.1-z.1)):=by grind
   have e4:σ*(-(σ*(w.2-z.2))*b r)=(σ*σ)*(-((w.2-z.2)*b r)):=by grind
   rw [e3,e4,hss] at this
   grind
  rcases Int.mul_eq_zero.1 e2 with e | e
  ·omega
  ·grind
 have b1:=(h.btw r hr z hz hon).1
 have b2:=(h.btw r hr w hw hon2).2
 exact ⟨r,hr,hbs,by omega,by omega⟩
theorem Pol.over (h:Pol P s a b c px py qx qy) {r r':ρ} (hr:r∈s) (hr':r'∈s) {x:Int} (h1:px r≤x) (h2:x≤qx r) :
  a r'*((qx r-px r)*x)+b r'*((qx r-px r)*py r+(qy r-py r)*(x-px r))≤(qx r-px r)*c r':=by
 have e1:=h.hold r' hr' _ (h.pin r hr)
 have e2:=h.hold r' hr' _ (h.qin r hr)
 simp only at e1 e2
 have p1:=Int.mul_le_mul_of_nonneg_left e1 (show 0≤qx r-x by omega)
 have p2:=Int.mul_le_mul_of_nonneg_left e2 (show 0≤x-px r by omega)
 have key:a r'*((qx r-px r)*x)+b r'*((qx r-px r)*py r+(qy r-py r)*(x-px r))=(qx r-x)*(a r'*px r+b r'*py r)+(x-px r)*(a r'*qx r+b r'*qy r):=by grind
 have key2:(qx r-px r)*c r'=(qx r-x)*c r'+(x-px r)*c r':=by grind
 rw [key,key2]
 omega
theorem Pol.cmp (h:Pol P s a b c px py qx qy) {σ:Int} {r r':ρ} (hr:r∈s) (hr':r'∈s) (hb':0 < σ*b r') {x:Int} (h1:px r≤x) (h2:x≤qx r) :
  σ*((qx r'-px r')*((qx r-px r)*py r+(qy r-py r)*(x-px r))-(qx r-px r)*((qx r'-px r')*py r'+(qy r'-py r')*(x-px r')))≤0:=by
 have h3:=h.over hr hr' h1 h2
 have hx':=h.xne hr' (fun e=>by rw [e] at hb'; omega)
 have e1:=h.pon r' hr'
 have e2:=h.qon r' hr'
 have hss:σ≠0:=fun e=>by rw [e] at hb'; omega
 have p1:=Int.mul_le_mul_of_nonneg_left h3 (show 0≤qx r'-px r' by omega)
 have p2:0 < σ*σ:=by
  rcases Int.lt_or_gt_of_ne hss with q | q
  ·exact Int.mul_pos_of_neg_of_neg q q
  ·exact Int.mul_pos q q
 have key:(σ*b r')*(σ*((qx r'-px r')*((qx r-px r)*py r+(qy r-py r)*(x-px r))-(qx r-px r)*((qx r'-px r')*py r'+(qy r'-py r')*(x-px r'))))=(σ*σ)*((qx r'-px r')*(a r'*((qx r-px r)*x)+b r'*((qx r-px r)*py r+(qy r-py r)*(x-px r)))-(qx r'-px r')*((qx r-px r)*c r')):=by
  have e3:a r'*(qx r'-px r')=-(b r'*(qy r'-py r')):=by grind
  grind
 refine (sgn_le hb' p2 key).2 ?_
 omega
theorem Pol.one (h:Pol P s a b c px py qx qy) {σ:Int} (hσ:σ=1∨σ=-1) {r r':ρ} (hr:r∈s) (hr':r'∈s) (hb:0 < σ*b r) (hb':0 < σ*b r') {x:Int} (h1:px r≤x) (h2:x < qx r) (h1':px r'≤x) (h2':x < qx r'):r=r':=by
 have k1:=h.cmp hr hr' hb' h1 (by omega)
 have k2:=h.cmp hr' hr hb h1' (by omega)
 have k3:=h.cmp hr hr' hb' (x:=x+1) (by omega) (by omega)
 have k4:=h.cmp hr' hr hb (x:=x+1) (by omega) (by omega)
 have e1:=h.pon r hr
 have e2:=h.qon r hr
 have e1':=h.pon r' hr'
 have e2':=h.qon r' hr'
 have d1:0 < qx r-px r:=by omega
 have d2:0 < qx r'-px r':=by omega
 have f1:a r*(qx r-px r)=-(b r*(qy r-py r)):=by grind
 have f2:a r'*(qx r'-px r')=-(b r'*(qy r'-py r')):=by grind
 have hbb:0 < b r*b r':=by
  rcases hσ with rfl | rfl
  ·exact Int.mul_pos (by omega) (by omega)
  ·exact Int.mul_pos_of_neg_of_neg (by omega) (by omega)
 refine h.injb r hr r' hr' ?_ hbb
 have g:(qx r'-px r')*(qy r-py r)=(qx r-px r)*(qy r'-py r'):=by
  generalize qx r-px r=d at *
  generalize qx r'-px r'=d' at *
  generalize qy r-py r=e at *
  generalize qy r'-py r'=e' at *
  generalize b r*b r'=bb at *
  have t1:d'*(d*py r+e*(x-px r))-d*(d'*py r'+e'*(x-px r'))=0:=by
   have:d*(d'*py r'+e'*(x-px r'))-d'*(d*py r+e*(x-px r))=-(d'*(d*py r+e*(x-px r))-d*(d'*py r'+e'*(x-px r'))):=by grind
   rw [this] at k2
   rcases hσ with rfl | rfl <;> omega
  have t2:d'*(d*py r+e*(x+1-px r))-d*(d'*py r'+e'*(x+1-px r'))=0:=by
   have:d*(d'*py r'+e'*(x+1-px r'))-d'*(d*py r+e*(x+1-px r))=-(d'*(d*py r+e*(x+1-px r))-d*(d'*py r'+e'*(x+1-px r'))):=by grind
   rw [this] at k4
   rcases hσ with rfl | rfl <;> omega
  grind
 have t:(qx r-px r)*((qx r'-px r')*(a r*b r'-a r'*b r))=0:=by grind
 rcases Int.mul_eq_zero.1 t with q | q
 ·omega
 ·rcases Int.mul_eq_zero.1 q with q | q
  ·omega
  ·omega
end
end Go.Proofs.YtdanomklbiidaaaGreatDoor.Pick

namespace Go.Proofs.YtdanomklbiidaaaGreatDoor.Pick
section
variable {ρ:Type} {P:List (Int×Int)} {s:List ρ} {a b c px py qx qy:ρ→Int}
def okB (s:List ρ) (a b c:ρ→Int) (x y:Int):Bool:=s.all fun r=>decide (a r*x+b r*y≤c r)
def inB (s:List ρ) (a b c:ρ→Int) (x y:Int):Bool:=s.all fun r=>decide (a r*x+b r*y < c r)
end
end Go.Proofs.YtdanomklbiidaaaGreatDoor.Pick

namespace Go.Proofs.YtdanomklbiidaaaGreatDoor.Pick
section
variable {ρ:Type} {P:List (Int×Int)} {s:List ρ} {a b c px py qx qy:ρ→Int}
def cA (s:List ρ) (a b c:ρ→Int) (Y0:Int) (M:Nat) (x:Int):Int:=zs Y0 M fun y=>if okB s a b c x y=true then 1 else 0
def cI (s:List ρ) (a b c:ρ→Int) (Y0:Int) (M:Nat) (x:Int):Int:=zs Y0 M fun y=>if inB s a b c x y=true then 1 else 0
def tc (s:List ρ) (a b c:ρ→Int) (Y0:Int) (M:Nat) (X0:Int) (N:Nat) (x:Int):Int:=if x=X0∨x=X0+N then 2*(cA s a b c Y0 M x+cI s a b c Y0 M x)-2 else cA s a b c Y0 M x+cI s a b c Y0 M x
structure Bx (P:List (Int×Int)) (X0:Int) (N:Nat) (Y0:Int) (M:Nat):Prop where
 y:∀z∈P,Y0≤z.2∧z.2 < Y0+M
 x:∀z∈P,X0≤z.1∧z.1≤X0+N
 l:∃z∈P,z.1=X0
 r:∃z∈P,z.1=X0+N
theorem Pol.step_one (h:Pol P s a b c px py qx qy) {σ:Int} (hσ:σ=1∨σ=-1) {r0:ρ} (hr0:r0∈s) (hb0:0 < σ*b r0) {x:Int} (h1:px r0≤x) (h2:x < qx r0) (f:ρ→Int) :
  ls s (fun r=>if 0 < σ*b r then (if px r≤x∧x < qx r then f r else 0) else 0)=f r0:=by
 rw [ls_one h.nd hr0 fun r hr hne=>?_]
 ·rw [if_pos hb0,if_pos ⟨h1,h2⟩]
 ·by_cases hb:0 < σ*b r
  ·rw [if_pos hb]
   refine if_neg fun ⟨q1,q2⟩=>hne ?_
   exact h.one hσ hr hr0 hb hb0 q1 q2 h1 h2
  ·exact if_neg hb
end
end Go.Proofs.YtdanomklbiidaaaGreatDoor.Pick
