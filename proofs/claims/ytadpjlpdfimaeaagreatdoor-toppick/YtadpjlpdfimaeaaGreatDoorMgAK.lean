import Derived.Test.YtadpjlpdfimaeaaGreatDoorMgAJ
namespace Go.Proofs.YtadpjlpdfimaeaaGreatDoor.Pick
theorem frac_max {α:Type} (num den:α→Int):∀l:List α,l≠[]→(∀e∈l,0 < den e)→∃m∈l,∀e∈l,num e*den m≤num m*den e
 | [],h,_=>absurd rfl h
 | [a],_,_=>⟨a,by simp,fun e he=>by simp at he; subst he; exact Int.le_refl _⟩
 | a :: b :: l,_,hd=>by
  obtain ⟨m,hm,h⟩:=frac_max num den (b :: l) (by simp) fun e he=>hd e (by simp only [List.mem_cons] at he ⊢; right; exact he)
  have hda:=hd a (by simp)
  have hdm:=hd m (by simp only [List.mem_cons] at hm ⊢; right; exact hm)
  by_cases hc:num a*den m≤num m*den a
  ·refine ⟨m,List.mem_cons_of_mem _ hm,fun e he=>?_⟩
   rcases List.mem_cons.1 he with rfl | he
   ·exact hc
   ·exact h e he
  ·refine ⟨a,by simp,fun e he=>?_⟩
   rcases List.mem_cons.1 he with rfl | he
   ·exact Int.le_refl _
   ·have hde:=hd e (List.mem_cons_of_mem _ he)
    have h1:=Int.mul_le_mul_of_nonneg_right (h e he) (Int.le_of_lt hda)
    have h2:=Int.mul_le_mul_of_nonneg_right (Int.le_of_lt (Int.not_le.1 hc)) (Int.le_of_lt hde)
    refine Int.le_of_mul_le_mul_right (a:=den m) ?_ hdm
    have e1:num e*den m*den a=num e*den a*den m:=by grind
    have e2:num m*den e*den a=num m*den a*den e:=by grind
    have e3:num a*den e*den m=num a*den m*den e:=by grind
    rw [e3,←e1]
    omega
structure Pol {ρ:Type} (P:List (Int×Int)) (s:List ρ) (a b c px py qx qy:ρ→Int):Prop where
 nd:s.Nodup
 injb:∀r∈s,∀r'∈s,a r*b r'=a r'*b r→0 < b r*b r'→r=r'
 inja:∀r∈s,∀r'∈s,b r=0→b r'=0→0 < a r*a r'→r=r'
 nz:∀r∈s,¬(a r=0∧b r=0)
 hold:∀r∈s,∀z∈P,a r*z.1+b r*z.2≤c r
 pin:∀r∈s,(px r,py r)∈P
 qin:∀r∈s,(qx r,qy r)∈P
 pon:∀r∈s,a r*px r+b r*py r=c r
 qon:∀r∈s,a r*qx r+b r*qy r=c r
 lex:∀r∈s,px r < qx r∨(px r=qx r∧py r < qy r)
 btw:∀r∈s,∀z∈P,a r*z.1+b r*z.2=c r→(px r < z.1∨px r=z.1∧py r≤z.2)∧(z.1 < qx r∨z.1=qx r∧z.2≤qy r)
 side:∀α β:Int,∀z∈P,∀w∈P,z≠w→(∀v∈P,α*v.1+β*v.2≤α*z.1+β*z.2)→α*w.1+β*w.2=α*z.1+β*z.2→¬(α=0∧β=0)→∃r∈s,a r*β=α*b r∧0 < a r*α+b r*β∧a r*z.1+b r*z.2=c r
 full:∀α β:Int,(∀v∈P,∀w∈P,α*v.1+β*v.2=α*w.1+β*w.2)→α=0∧β=0
section
variable {ρ:Type} {P:List (Int×Int)} {s:List ρ} {a b c px py qx qy:ρ→Int}
theorem Pol.xne (h:Pol P s a b c px py qx qy) {r:ρ} (hr:r∈s) (hb:b r≠0):px r < qx r:=by
 rcases h.lex r hr with h1 | ⟨h1,h2⟩
 ·exact h1
 ·exfalso
  have e1:=h.pon r hr
  have e2:=h.qon r hr
  rw [←h1,←e1] at e2
  have e3:b r*(qy r-py r)=0:=by grind
  rcases Int.mul_eq_zero.1 e3 with e | e
  ·exact hb e
  ·omega
theorem Pol.xeq (h:Pol P s a b c px py qx qy) {r:ρ} (hr:r∈s) (hb:b r=0):px r=qx r:=by
 have e1:=h.pon r hr
 have e2:=h.qon r hr
 rw [hb] at e1 e2
 have e3:a r*(qx r-px r)=0:=by grind
 rcases Int.mul_eq_zero.1 e3 with e | e
 ·exact absurd ⟨e,hb⟩ (h.nz r hr)
 ·omega
theorem Pol.span (h:Pol P s a b c px py qx qy) {σ:Int} (hσ:σ=1∨σ=-1) (x:Int) (hl:∃z∈P,z.1≤x) (hg:∃z∈P,x < z.1) :
  ∃r∈s,0 < σ*b r∧px r≤x∧x < qx r:=by
 obtain ⟨L,hL⟩:∃L,L=(P.filter fun z=>decide (z.1≤x)).flatMap fun z=>(P.filter fun w=>decide (x < w.1)).map fun w=>(z,w):=⟨_,rfl⟩
 have mem:∀e:(Int×Int)×(Int×Int),e∈L↔(e.1∈P∧e.1.1≤x)∧e.2∈P∧x < e.2.1:=fun e=>by
  rw [hL,List.mem_flatMap]
  constructor
  ·rintro ⟨z,hz,he⟩
   obtain ⟨w,hw,rfl⟩:=List.mem_map.1 he
   simp only [List.mem_filter,decide_eq_true_eq] at hz hw
   exact ⟨hz,hw⟩
  ·rintro ⟨hz,hw⟩
   exact ⟨e.1,by simp only [List.mem_filter,decide_eq_true_eq]; exact hz,List.mem_map.2 ⟨e.2,by simp only [List.mem_filter,decide_eq_true_eq]; exact hw,rfl⟩⟩
 obtain ⟨z0,hz0,hz1⟩:=hl
 obtain ⟨w0,hw0,hw1⟩:=hg
 have hne:L≠[]:=List.ne_nil_of_mem ((mem (z0,w0)).2 ⟨⟨hz0,hz1⟩,hw0,hw1⟩)
 obtain ⟨⟨z,w⟩,hm,hmax⟩:=frac_max (fun e:(Int×Int)×(Int×Int)=>σ*(e.1.2*(2*e.2.1-(2*x+1))+e.2.2*(2*x+1-2*e.1.1))) (fun e=>e.2.1-e.1.1) L hne fun e he=>by
  have:=(mem e).1 he
  omega
 obtain ⟨⟨hz,hzx⟩,hw,hwx⟩:=(mem _).1 hm
 simp only at hz hzx hw hwx hmax
 -- all lie beneath the line
 have hsup:∀v∈P,σ*((w.1-z.1)*(v.2-z.2)-(w.2-z.2)*(v.1-z.1))≤0:=fun v hv=>by
  by_cases hvx:v.1≤x
  ·have h1:=hmax (v,w) ((mem _).2 ⟨⟨hv,hvx⟩,hw,hwx⟩)
   simp only at h1
   have key:(2*w.1-(2*x+1))*(σ*((w.1-z.1)*(v.2-z.2)-(w.2-z.2)*(v.1-z.1)))=1*(σ*(v.2*(2*w.1-(2*x+1))+w.2*(2*x+1-2*v.1))*(w.1-z.1)-σ*(z.2*(2*w.1-(2*x+1))+w.2*(2*x+1-2*z.1))*(w.1-v.1)):=by grind
   refine (sgn_le (by omega) (by decide) key).2 ?_
   omega
  ·have h1:=hmax (z,v) ((mem _).2 ⟨⟨hz,hzx⟩,hv,by simp only; omega⟩)
   simp only at h1
   have key:(2*x+1-2*z.1)*(σ*((w.1-z.1)*(v.2-z.2)-(w.2-z.2)*(v.1-z.1)))=1*(σ*(z.2*(2*v.1-(2*x+1))+v.2*(2*x+1-2*z.1))*(w.1-z.1)-σ*(z.2*(2*w.1-(2*x+1))+w.2*(2*x+1-2*z.1))*(v.1-z.1)):=by grind
   refine (sgn_le (by omega) (by decide) key).2 ?_
   omega
 have hd:0 < w.1-z.1:=by omega
 obtain ⟨r,hr,hpar,hpos,hon⟩:=h.side (-(σ*(w.2-z.2))) (σ*(w.1-z.1)) z hz w hw (fun e=>by rw [e] at hd; omega) (fun v hv=>by
  have h1:=hsup v hv
  have e:σ*((w.1-z.1)*(v.2-z.2)-(w.2-z.2)*(v.1-z.1))=(-(σ*(w.2-z.2))*v.1+σ*(w.1-z.1)*v.2)-(-(σ*(w.2-z.2))*z.1+σ*(w.1-z.1)*z.2):=by grind
  omega) (by grind) (fun q=>by rcases hσ with rfl | rfl <;> omega)
 have hss:σ*σ=1:=by rcases hσ with rfl | rfl <;> rfl
 -- the row's second number has σ's sign
 have hbs:0 < σ*b r:=by
  refine Int.not_le.1 fun hle=>?_
  have e1:(w.1-z.1)*(a r * -(σ*(w.2-z.2))+b r*(σ*(w.1-z.1)))=σ*b r*((w.2-z.2)*(w.2-z.2)+(w.1-z.1)*(w.1-z.1)):=by
   have e2:a r*(w.1-z.1)=-((w.2-z.2)*b r):=by
    have:σ*(a r*(σ*(w.1-z.1)))=σ*(-(σ*(w.2-z.2))*b r):=by rw [hpar]
    have e3:σ*(a r*(σ*(w.1-z.1)))=(σ*σ)*(a r*(w.1-z.1)):=by grind
    have e4:σ*(-(σ*(w.2-z.2))*b r)=(σ*σ)*(-((w.2-z.2)*b r)):=by grind
    rw [e3,e4,hss] at this
    omega
   grind
  have p1:=Int.mul_pos hd hpos
  have p2:0≤(w.2-z.2)*(w.2-z.2):=by
   rcases Int.le_total 0 (w.2-z.2) with q | q
   ·exact Int.mul_nonneg q q
   ·exact Int.mul_nonneg_of_nonpos_of_nonpos q q
  have p3:=Int.mul_pos hd hd
  have p4:=Int.mul_le_mul_of_nonneg_right hle (show 0≤(w.2-z.2)*(w.2-z.2)+(w.1-z.1)*(w.1-z.1) by omega)
  rw [Int.zero_mul] at p4
  omega
 have hon2:a r*w.1+b r*w.2=c r:=by
  have e2:(w.1-z.1)*(a r*(w.1-z.1)+b r*(w.2-z.2))=0:=by
   have:σ*(a r*(σ*(w.1-z.1)))=σ*(-(σ*(w.2-z.2))*b r):=by rw [hpar]
   have e3:σ*(a r*(σ*(w.1-z.1)))=(σ*σ)*(a r*(w.1-z.1)):=by grind
   have e4:σ*(-(σ*(w.2-z.2))*b r)=(σ*σ)*(-((w.2-z.2)*b r)):=by grind
   rw [e3,e4,hss] at this
   grind
  rcases Int.mul_eq_zero.1 e2 with e | e
  ·omega
  ·grind
 have b1:=(h.btw r hr z hz hon).1
 have b2:=(h.btw r hr w hw hon2).2
 exact ⟨r,hr,hbs,by omega,by omega⟩
theorem Pol.over (h:Pol P s a b c px py qx qy) {r r':ρ} (hr:r∈s) (hr':r'∈s) {x:Int} (h1:px r≤x) (h2:x≤qx r) :
  a r'*((qx r-px r)*x)+b r'*((qx r-px r)*py r+(qy r-py r)*(x-px r))≤(qx r-px r)*c r':=by
 have e1:=h.hold r' hr' _ (h.pin r hr)
 have e2:=h.hold r' hr' _ (h.qin r hr)
 simp only at e1 e2
 have p1:=Int.mul_le_mul_of_nonneg_left e1 (show 0≤qx r-x by omega)
 have p2:=Int.mul_le_mul_of_nonneg_left e2 (show 0≤x-px r by omega)
 have key:a r'*((qx r-px r)*x)+b r'*((qx r-px r)*py r+(qy r-py r)*(x-px r))=(qx r-x)*(a r'*px r+b r'*py r)+(x-px r)*(a r'*qx r+b r'*qy r):=by grind
 have key2:(qx r-px r)*c r'=(qx r-x)*c r'+(x-px r)*c r':=by grind
 rw [key,key2]
 omega
theorem Pol.cmp (h:Pol P s a b c px py qx qy) {σ:Int} {r r':ρ} (hr:r∈s) (hr':r'∈s) (hb':0 < σ*b r') {x:Int} (h1:px r≤x) (h2:x≤qx r) :
  σ*((qx r'-px r')*((qx r-px r)*py r+(qy r-py r)*(x-px r))-(qx r-px r)*((qx r'-px r')*py r'+(qy r'-py r')*(x-px r')))≤0:=by
 have h3:=h.over hr hr' h1 h2
 have hx':=h.xne hr' (fun e=>by rw [e] at hb'; omega)
 have e1:=h.pon r' hr'
 have e2:=h.qon r' hr'
 have hss:σ≠0:=fun e=>by rw [e] at hb'; omega
 have p1:=Int.mul_le_mul_of_nonneg_left h3 (show 0≤qx r'-px r' by omega)
 have p2:0 < σ*σ:=by
  rcases Int.lt_or_gt_of_ne hss with q | q
  ·exact Int.mul_pos_of_neg_of_neg q q
  ·exact Int.mul_pos q q
 have key:(σ*b r')*(σ*((qx r'-px r')*((qx r-px r)*py r+(qy r-py r)*(x-px r))-(qx r-px r)*((qx r'-px r')*py r'+(qy r'-py r')*(x-px r'))))=(σ*σ)*((qx r'-px r')*(a r'*((qx r-px r)*x)+b r'*((qx r-px r)*py r+(qy r-py r)*(x-px r)))-(qx r'-px r')*((qx r-px r)*c r')):=by
  have e3:a r'*(qx r'-px r')=-(b r'*(qy r'-py r')):=by grind
  grind
 refine (sgn_le hb' p2 key).2 ?_
 omega
theorem Pol.one (h:Pol P s a b c px py qx qy) {σ:Int} (hσ:σ=1∨σ=-1) {r r':ρ} (hr:r∈s) (hr':r'∈s) (hb:0 < σ*b r) (hb':0 < σ*b r') {x:Int} (h1:px r≤x) (h2:x < qx r) (h1':px r'≤x) (h2':x < qx r'):r=r':=by
 have k1:=h.cmp hr hr' hb' h1 (by omega)
 have k2:=h.cmp hr' hr hb h1' (by omega)
 have k3:=h.cmp hr hr' hb' (x:=x+1) (by omega) (by omega)
 have k4:=h.cmp hr' hr hb (x:=x+1) (by omega) (by omega)
 have e1:=h.pon r hr
 have e2:=h.qon r hr
 have e1':=h.pon r' hr'
 have e2':=h.qon r' hr'
 have d1:0 < qx r-px r:=by omega
 have d2:0 < qx r'-px r':=by omega
 have f1:a r*(qx r-px r)=-(b r*(qy r-py r)):=by grind
 have f2:a r'*(qx r'-px r')=-(b r'*(qy r'-py r')):=by grind
 have hbb:0 < b r*b r':=by
  rcases hσ with rfl | rfl
  ·exact Int.mul_pos (by omega) (by omega)
  ·exact Int.mul_pos_of_neg_of_neg (by omega) (by omega)
 refine h.injb r hr r' hr' ?_ hbb
 have g:(qx r'-px r')*(qy r-py r)=(qx r-px r)*(qy r'-py r'):=by
  generalize qx r-px r=d at *
  generalize qx r'-px r'=d' at *
  generalize qy r-py r=e at *
  generalize qy r'-py r'=e' at *
  generalize b r*b r'=bb at *
  have t1:d'*(d*py r+e*(x-px r))-d*(d'*py r'+e'*(x-px r'))=0:=by
   have:d*(d'*py r'+e'*(x-px r'))-d'*(d*py r+e*(x-px r))=-(d'*(d*py r+e*(x-px r))-d*(d'*py r'+e'*(x-px r'))):=by grind
   rw [this] at k2
   rcases hσ with rfl | rfl <;> omega
  have t2:d'*(d*py r+e*(x+1-px r))-d*(d'*py r'+e'*(x+1-px r'))=0:=by
   have:d*(d'*py r'+e'*(x+1-px r'))-d'*(d*py r+e*(x+1-px r))=-(d'*(d*py r+e*(x+1-px r))-d*(d'*py r'+e'*(x+1-px r'))):=by grind
   rw [this] at k4
   rcases hσ with rfl | rfl <;> omega
  grind
 have t:(qx r-px r)*((qx r'-px r')*(a r*b r'-a r'*b r))=0:=by grind
 rcases Int.mul_eq_zero.1 t with q | q
 ·omega
 ·rcases Int.mul_eq_zero.1 q with q | q
  ·omega
  ·omega
end
end Go.Proofs.YtadpjlpdfimaeaaGreatDoor.Pick

namespace Go.Proofs.YtadpjlpdfimaeaaGreatDoor.Pick
section
variable {ρ:Type} {P:List (Int×Int)} {s:List ρ} {a b c px py qx qy:ρ→Int}
def okB (s:List ρ) (a b c:ρ→Int) (x y:Int):Bool:=s.all fun r=>decide (a r*x+b r*y≤c r)
def inB (s:List ρ) (a b c:ρ→Int) (x y:Int):Bool:=s.all fun r=>decide (a r*x+b r*y < c r)
theorem okB_iff {x y:Int} : okB s a b c x y=true↔∀r∈s,a r*x+b r*y≤c r:=by simp [okB]
theorem inB_iff {x y:Int} : inB s a b c x y=true↔∀r∈s,a r*x+b r*y < c r:=by simp [inB]
theorem Pol.ok_iff (h:Pol P s a b c px py qx qy) {u l:ρ} (hu:u∈s) (hl:l∈s) (hbu:0 < b u) (hbl:b l < 0) {x:Int} (u1:px u≤x) (u2:x≤qx u) (l1:px l≤x) (l2:x≤qx l) (y:Int) :
  okB s a b c x y=true↔ce (px l) (py l) (qx l) (qy l) x≤y∧y≤fl (px u) (py u) (qx u) (qy u) x:=by
 have xu:=h.xne hu (by omega)
 have xl:=h.xne hl (by omega)
 have iu:=(up_iff x y hbu xu (h.pon u hu) (h.qon u hu)).1
 have il:=(dn_iff x y hbl xl (h.pon l hl) (h.qon l hl)).1
 rw [okB_iff]
 refine ⟨fun k=>⟨il.1 (k l hl),iu.1 (k u hu)⟩,fun ⟨k1,k2⟩ r hr=>?_⟩
 have m1:=iu.2 k2
 have m2:=il.2 k1
 have eu1:=h.pon u hu
 have eu2:=h.qon u hu
 have el1:=h.pon l hl
 have el2:=h.qon l hl
 by_cases hb:0≤b r
 ·have h3:=h.over hu hr u1 u2
  have d:0 < qx u-px u:=by omega
  have t:(qx u-px u)*(a u*x+b u*y-c u)=b u*((qx u-px u)*y-((qx u-px u)*py u+(qy u-py u)*(x-px u))):=by grind
  have t1:=(sgn_le d hbu t).1 (by omega)
  have t2:=Int.mul_le_mul_of_nonneg_left t1 hb
  rw [Int.mul_zero] at t2
  have t3:(qx u-px u)*(a r*x+b r*y-c r)≤0:=by grind
  have:=(sgn_le d (by decide:(0:Int) < 1) (show (qx u-px u)*(a r*x+b r*y-c r)=1*((qx u-px u)*(a r*x+b r*y-c r)) by omega)).2 t3
  omega
 ·have h3:=h.over hl hr l1 l2
  have d:0 < qx l-px l:=by omega
  have t:(qx l-px l)*(a l*x+b l*y-c l)=(-b l)*(((qx l-px l)*py l+(qy l-py l)*(x-px l))-(qx l-px l)*y):=by grind
  have t1:=(sgn_le d (by omega) t).1 (by omega)
  have t2:=Int.mul_le_mul_of_nonneg_left t1 (show 0≤-b r by omega)
  rw [Int.mul_zero] at t2
  have t3:(qx l-px l)*(a r*x+b r*y-c r)≤0:=by grind
  have:=(sgn_le d (by decide:(0:Int) < 1) (show (qx l-px l)*(a r*x+b r*y-c r)=1*((qx l-px l)*(a r*x+b r*y-c r)) by omega)).2 t3
  omega
theorem Pol.in_iff (h:Pol P s a b c px py qx qy) {u l:ρ} (hu:u∈s) (hl:l∈s) (hbu:0 < b u) (hbl:b l < 0) {x:Int} (u1:px u≤x) (u2:x≤qx u) (l1:px l≤x) (l2:x≤qx l)
  (hlo:∃z∈P,z.1 < x) (hhi:∃z∈P,x < z.1) (y:Int) :
  inB s a b c x y=true↔fl (px l) (py l) (qx l) (qy l) x < y∧y < ce (px u) (py u) (qx u) (qy u) x:=by
 have xu:=h.xne hu (by omega)
 have xl:=h.xne hl (by omega)
 have iu:=(up_iff x y hbu xu (h.pon u hu) (h.qon u hu)).2
 have il:=(dn_iff x y hbl xl (h.pon l hl) (h.qon l hl)).2
 rw [inB_iff]
 refine ⟨fun k=>⟨il.1 (k l hl),iu.1 (k u hu)⟩,fun ⟨k1,k2⟩ r hr=>?_⟩
 have m1:=iu.2 k2
 have m2:=il.2 k1
 have eu1:=h.pon u hu
 have eu2:=h.qon u hu
 have el1:=h.pon l hl
 have el2:=h.qon l hl
 by_cases hb0:b r=0
 ·-- a row that stands upright
  obtain ⟨z1,hz1,hx1⟩:=hlo
  obtain ⟨z2,hz2,hx2⟩:=hhi
  have g1:=h.hold r hr z1 hz1
  have g2:=h.hold r hr z2 hz2
  rw [hb0,Int.zero_mul] at g1 g2 ⊢
  have ha:=h.nz r hr
  rcases Int.lt_trichotomy (a r) 0 with q | q | q
  ·have:=Int.mul_pos_of_neg_of_neg q (show z1.1-x < 0 by omega)
   grind
  ·exact absurd ⟨q,hb0⟩ ha
  ·have:=Int.mul_pos q (show 0 < z2.1-x by omega)
   grind
 ·by_cases hb:0 < b r
  ·have h3:=h.over hu hr u1 u2
   have d:0 < qx u-px u:=by omega
   have t:(qx u-px u)*(a u*x+b u*y-c u)=b u*((qx u-px u)*y-((qx u-px u)*py u+(qy u-py u)*(x-px u))):=by grind
   have t1:=(sgn_lt d hbu t).1 (by omega)
   have t2:=Int.mul_pos hb (show 0 < -((qx u-px u)*y-((qx u-px u)*py u+(qy u-py u)*(x-px u))) by omega)
   have t3:(qx u-px u)*(a r*x+b r*y-c r) < 0:=by grind
   have:=(sgn_lt d (by decide:(0:Int) < 1) (show (qx u-px u)*(a r*x+b r*y-c r)=1*((qx u-px u)*(a r*x+b r*y-c r)) by omega)).2 t3
   omega
  ·have h3:=h.over hl hr l1 l2
   have d:0 < qx l-px l:=by omega
   have t:(qx l-px l)*(a l*x+b l*y-c l)=(-b l)*(((qx l-px l)*py l+(qy l-py l)*(x-px l))-(qx l-px l)*y):=by grind
   have t1:=(sgn_lt d (by omega) t).1 (by omega)
   have t2:=Int.mul_pos (show 0 < -b r by omega) (show 0 < -(((qx l-px l)*py l+(qy l-py l)*(x-px l))-(qx l-px l)*y) by omega)
   have t3:(qx l-px l)*(a r*x+b r*y-c r) < 0:=by grind
   have:=(sgn_lt d (by decide:(0:Int) < 1) (show (qx l-px l)*(a r*x+b r*y-c r)=1*((qx l-px l)*(a r*x+b r*y-c r)) by omega)).2 t3
   omega
theorem Pol.apart (h:Pol P s a b c px py qx qy) {u l:ρ} (hu:u∈s) (hl:l∈s) (hbu:0 < b u) (hbl:b l < 0) {x:Int}
  (hlo:∃z∈P,z.1 < x) (hhi:∃z∈P,x < z.1) :
  0 < (qx l-px l)*((qx u-px u)*py u+(qy u-py u)*(x-px u))-(qx u-px u)*((qx l-px l)*py l+(qy l-py l)*(x-px l)):=by
 have xu:=h.xne hu (by omega)
 have xl:=h.xne hl (by omega)
 have eu1:=h.pon u hu
 have eu2:=h.qon u hu
 have el1:=h.pon l hl
 have el2:=h.qon l hl
 have du:0 < qx u-px u:=by omega
 have dl:0 < qx l-px l:=by omega
 obtain ⟨D,hD⟩:∃D,D=(qx l-px l)*((qx u-px u)*py u+(qy u-py u)*(x-px u))-(qx u-px u)*((qx l-px l)*py l+(qy l-py l)*(x-px l)):=⟨_,rfl⟩
 obtain ⟨M,hM⟩:∃M,M=(qx l-px l)*(qy u-py u)-(qx u-px u)*(qy l-py l):=⟨_,rfl⟩
 rw [←hD]
 -- each point is between both lines
 have hz:∀z∈P,0≤D+M*(z.1-x):=fun z hz=>by
  have g1:=h.hold u hu z hz
  have g2:=h.hold l hl z hz
  have t:(qx u-px u)*(a u*z.1+b u*z.2-c u)=b u*((qx u-px u)*z.2-((qx u-px u)*py u+(qy u-py u)*(z.1-px u))):=by grind
  have t1:=(sgn_le du hbu t).1 (by omega)
  have t':(qx l-px l)*(a l*z.1+b l*z.2-c l)=(-b l)*(((qx l-px l)*py l+(qy l-py l)*(z.1-px l))-(qx l-px l)*z.2):=by grind
  have t2:=(sgn_le dl (by omega) t').1 (by omega)
  have p1:=Int.mul_le_mul_of_nonneg_left t1 (Int.le_of_lt dl)
  have p2:=Int.mul_le_mul_of_nonneg_left t2 (Int.le_of_lt du)
  rw [Int.mul_zero] at p1 p2
  have e:D+M*(z.1-x)=-((qx l-px l)*((qx u-px u)*z.2-((qx u-px u)*py u+(qy u-py u)*(z.1-px u))))-(qx u-px u)*(((qx l-px l)*py l+(qy l-py l)*(z.1-px l))-(qx l-px l)*z.2):=by
   clear t t' t1 t2 p1 p2 g1 g2 eu1 eu2 el1 el2
   grind
  omega
 obtain ⟨z1,hz1,hx1⟩:=hlo
 obtain ⟨z2,hz2,hx2⟩:=hhi
 have k1:=hz z1 hz1
 have k2:=hz z2 hz2
 refine Int.not_le.1 fun hle=>?_
 have hM0:M=0:=by
  rcases Int.lt_trichotomy M 0 with q | q | q
  ·have:=Int.mul_pos_of_neg_of_neg q (show x-z2.1 < 0 by omega)
   grind
  ·exact q
  ·have:=Int.mul_pos q (show 0 < x-z1.1 by omega)
   grind
 have hD0:D=0:=by
  rw [hM0] at k1
  omega
 -- both lines are one: all lie on it
 have hall:∀z∈P,(qx u-px u)*z.2=(qx u-px u)*py u+(qy u-py u)*(z.1-px u):=fun z hzP=>by
  have g1:=h.hold u hu z hzP
  have g2:=h.hold l hl z hzP
  have t:(qx u-px u)*(a u*z.1+b u*z.2-c u)=b u*((qx u-px u)*z.2-((qx u-px u)*py u+(qy u-py u)*(z.1-px u))):=by grind
  have t1:=(sgn_le du hbu t).1 (by omega)
  have t':(qx l-px l)*(a l*z.1+b l*z.2-c l)=(-b l)*(((qx l-px l)*py l+(qy l-py l)*(z.1-px l))-(qx l-px l)*z.2):=by grind
  have t2:=(sgn_le dl (by omega) t').1 (by omega)
  have e:(qx l-px l)*(-((qx u-px u)*z.2-((qx u-px u)*py u+(qy u-py u)*(z.1-px u))))=(qx u-px u)*(((qx l-px l)*py l+(qy l-py l)*(z.1-px l))-(qx l-px l)*z.2):=by
   rw [hM0] at hM
   rw [hD0] at hD
   grind
  have t3:=(sgn_le dl du e).2 t2
  omega
 have:=h.full (-(qy u-py u)) (qx u-px u) fun v hv w hw=>by
  have e1:=hall v hv
  have e2:=hall w hw
  grind
 omega
end
end Go.Proofs.YtadpjlpdfimaeaaGreatDoor.Pick
