import Derived.Test.YtdanomklbiidaaaGreatDoorMgAS
namespace Go.Proofs.YtdanomklbiidaaaGreatDoor
open Lin
def negP (s:Int×Int):Int×Int:=(-s.1,-s.2)
def offL (d:Nat) (u v x:List Int) (P:List (List Int)):List (Int×Int):=(P.map (senP d u v x)).filter fun s=>decide (s≠(0,0))
def endR (d:Nat) (u v x:List Int) (off:List (Int×Int)) (e:Int×Int):List (List Int):=if off.any (fun s=>decide (0 < trn s e))=true then [] else [rowE d u v x e]
def thrL (d:Nat) (u v x:List Int) (P:List (List Int)):List (List Int):=
 match offL d u v x P with
 | []=>[]
 | m :: l=>endR d u v x (m :: l) (mxF m l) ++ endR d u v x (m :: l) (negP (mnF m l))
theorem off_mem {d:Nat} {u v x:List Int} {P:List (List Int)} {s:Int×Int} : s∈offL d u v x P↔∃y∈P,senP d u v x y=s∧s≠(0,0):=by
 unfold offL
 rw [List.mem_filter,List.mem_map]
 simp only [decide_eq_true_eq]
 constructor
 ·rintro ⟨⟨y,hy,rfl⟩,h⟩; exact ⟨y,hy,rfl,h⟩
 ·rintro ⟨y,hy,rfl,h⟩; exact ⟨⟨y,hy,rfl⟩,h⟩
theorem two_id {a b e0 e1 s0 s1:Int} (h:a*e0+b*e1=0):(e0*e0+e1*e1)*(a*s0+b*s1)=(b*e0-a*e1)*(e0*s1-e1*s0):=by
 have k1:a*e0=-(b*e1):=by omega
 have e2:(b*e0-a*e1)*(e0*s1-e1*s0)=b*e0*e0*s1-(b*e1)*e0*s0-(a*e0)*e1*s1+a*e1*e1*s0:=by grind
 rw [e2,k1]
 have e3:(b*e1)*e0*s0=-((a*e0)*e0*s0):=by rw [k1]; grind
 grind
theorem row_prim {d:Nat} {P:List (List Int)} (hg:Good d P) {r:List Int} (hr:r∈rowsC P [] d P):r.length=d+1∧gc (r.take d)=1:=by
 obtain ⟨T,hTs,hTl,hrT⟩:=mem_rowsC.1 hr
 obtain ⟨σ,hσ,hnb,hre⟩:=rowT_form hTl hrT
 have hl:(pickL d (diffL T)).length+1=d:=of_decide_eq_true hnb
 have hal:=norm_len hnb
 refine ⟨(rowsC_fit hg.box hg.d1 (by have:=hg.d4; omega) (fun _=>Iff.rfl) hr).len,?_⟩
 have hqe:r.take d=(normL d (diffL T)).map (σ * ·):=by
  rw [hre,List.map_append,List.take_left' (by rw [List.length_map,hal])]
 rw [hqe,gc_scale,norm_gc hl]
 rcases hσ with rfl | rfl <;> rfl
theorem row_is {d:Nat} {P t:List (List Int)} (hg:Good d P) {x u v r:List Int} (hr:r∈rowsC P [] d P) (hrx:r.getD d 0=dot d (V r) (V x)) {ρ a b:Int} (hρ:ρ≠0) (hab:∀i,i < d→ρ*V r i=a*V u i+b*V v i) {e:Int×Int} (he:e≠(0,0)) (hae:a*e.1+b*e.2=0)
  (_hB:Bas d t x u v) (hv:∀y∈P,trn (senP d u v x y) e≤0):rowE d u v x e=r:=by
 obtain ⟨hrl,hrg⟩:=row_prim hg hr
 have hfit:=rowsC_fit hg.box hg.d1 (by have:=hg.d4; omega) (fun _=>Iff.rfl) hr
 have hN:=dt2_pos he
 obtain ⟨e0,e1⟩:=e
 have hq:(r.take d).length=d:=by rw [List.length_take]; omega
 obtain ⟨N,hNe⟩:∃N,N=e0*e0+e1*e1:=⟨_,rfl⟩
 obtain ⟨K,hKe⟩:∃K,K=b*e0-a*e1:=⟨_,rfl⟩
 have hN0:0 < N:=by rw [hNe]; exact hN
 have hci:∀i,i < d→N*(ρ*V r i)=K*rwE u v (e0,e1) i:=fun i hi=>by
  rw [hab i hi,hNe,hKe]
  exact two_id hae
 -- a point off the row
 obtain ⟨y,hyP,hyr⟩:∃y∈P,dot d (V r) (V y) < dot d (V r) (V x):=by
  refine Classical.byContradiction fun hn=>?_
  have hall:∀y∈P,dot d (V r) (V y)=dot d (V r) (V x):=fun y hy=>by
   have h1:=hfit.all y hy
   rw [hrx] at h1
   rcases Int.lt_or_le (dot d (V r) (V y)) (dot d (V r) (V x)) with h | h
   ·exact absurd ⟨y,hy,h⟩ hn
   ·omega
  have h0:=good_span hg (V r) (fun y hy z hz=>by rw [hall y hy,hall z hz])
  have hz:r.take d=(r.take d).map ((0:Int) * ·):=by
   refine List.ext_getElem (by simp) fun i h1 h2=>?_
   rw [List.getElem_map,List.getElem_take,Int.zero_mul]
   have:=h0 i (by omega)
   unfold V at this
   rw [List.getD_eq_getElem?_getD,List.getElem?_eq_getElem (by omega)] at this
   exact this
  rw [hz,gc_scale] at hrg
  simp at hrg
 have hsy:N*(ρ*(dot d (V r) (V y)-dot d (V r) (V x)))=K*trn (senP d u v x y) (e0,e1):=by
  rw [comb_sen (x:=x) hab y,hNe,hKe]
  exact two_id hae
 have hty:=hv y hyP
 have hKρ:0 < K*ρ:=by
  obtain ⟨D,hD⟩:∃D,D=dot d (V r) (V x)-dot d (V r) (V y):=⟨_,rfl⟩
  obtain ⟨T,hT⟩:∃T,T=- trn (senP d u v x y) (e0,e1):=⟨_,rfl⟩
  have hD0:0 < D:=by omega
  have hT0:0≤T:=by omega
  have e1':N*(ρ*D)=K*T:=by
   have:dot d (V r) (V y)-dot d (V r) (V x)=-D:=by omega
   rw [this] at hsy
   have:trn (senP d u v x y) (e0,e1)=-T:=by omega
   rw [this] at hsy
   grind
  have hρ2:0 < ρ*ρ:=by
   rcases Int.lt_or_gt_of_ne hρ with h | h
   ·exact Int.mul_pos_of_neg_of_neg h h
   ·exact Int.mul_pos h h
  have e2':N*((ρ*ρ)*D)=(K*ρ)*T:=by grind
  have hl0:0 < N*((ρ*ρ)*D):=Int.mul_pos hN0 (Int.mul_pos hρ2 hD0)
  rcases Int.lt_or_le 0 (K*ρ) with h | h
  ·exact h
  ·exfalso
   have:=Int.mul_nonneg (show 0≤-(K*ρ) by omega) hT0
   have e3' : -(K*ρ)*T=-((K*ρ)*T):=by grind
   omega
 have hρ2:0 < ρ*ρ:=by
  rcases Int.lt_or_gt_of_ne hρ with h | h
  ·exact Int.mul_pos_of_neg_of_neg h h
  ·exact Int.mul_pos h h
 have hlow:=prim_low (c:=rwE u v (e0,e1)) (q:=r.take d) hq hrg hKρ (Int.mul_pos hN0 hρ2) (fun i hi=>by
  rw [V_take hi]
  have:=hci i hi
  grind) (by
  refine Classical.byContradiction fun hn=>?_
  have h0:∀i,i < d→rwE u v (e0,e1) i=0:=fun i hi=>Classical.byContradiction fun h=>hn ⟨i,hi,h⟩
  have:=rw_sen d u v (e0,e1) x y
  rw [dot_zero h0,dot_zero h0] at this
  have h3:N*(ρ*(dot d (V r) (V y)-dot d (V r) (V x)))=0:=by rw [hsy,←this]; simp
  rcases Int.mul_eq_zero.1 h3 with h | h
  ·omega
  ·rcases Int.mul_eq_zero.1 h with h | h <;> omega)
 unfold rowE
 rw [show rwA d u v (e0,e1)=r.take d from hlow]
 have hlast:dotL (r.take d) x=r.getD d 0:=by
  rw [dotL_eq hq,hrx]
  exact dot_congr (fun i hi=>V_take hi) (fun _ _=>rfl)
 rw [hlast]
 have h1:=List.take_succ_eq_append_getElem (l:=r) (i:=d) (by omega)
 rw [List.take_of_length_le (by omega)] at h1
 rw [show r.getD d 0=r[d] by simp [show d < r.length by omega]]
 exact h1.symm
theorem wr_end {d:Nat} {P t:List (List Int)} (hg:Good d P) {x u v r:List Int} (hB:Bas d t x u v) (hr:r∈rowsC P [] d P) (hrx:r.getD d 0=dot d (V r) (V x)) {ρ a b:Int} (hρ:ρ≠0) (hab:∀i,i < d→ρ*V r i=a*V u i+b*V v i)
  {z:List Int} (hz:z∈P) (hzr:r.getD d 0=dot d (V r) (V z)) (hz0:senP d u v x z≠(0,0))
  (hray:∀y∈P,senP d u v x y≠(0,0)→r.getD d 0=dot d (V r) (V y)→0 < dt2 (senP d u v x y) (senP d u v x z)):r∈thrL d u v x P:=by
 have hfit:=rowsC_fit hg.box hg.d1 (by have:=hg.d4; omega) (fun _=>Iff.rfl) hr
 have hezm:senP d u v x z∈offL d u v x P:=off_mem.2 ⟨z,hz,rfl,hz0⟩
 have hN:=dt2_pos hz0
 have haz:a*(senP d u v x z).1+b*(senP d u v x z).2=0:=by
  rw [←comb_sen (x:=x) hab z,←hzr,←hrx,Int.sub_self,Int.mul_zero]
 obtain ⟨ez,hez⟩:∃ez,ez=senP d u v x z:=⟨_,rfl⟩
 rw [←hez] at hezm hN haz hray hz0
 obtain ⟨K,hK⟩:∃K,K=b*ez.1-a*ez.2:=⟨_,rfl⟩
 have hid:∀y,dt2 ez ez*(ρ*(dot d (V r) (V y)-dot d (V r) (V x)))=K*trn (senP d u v x y) ez:=fun y=>by
  rw [comb_sen (x:=x) hab y,hK]
  exact two_id haz
 have hK0:K≠0:=fun h0=>by
  have h1:∀y,dot d (V r) (V y)-dot d (V r) (V x)=0:=fun y=>by
   have:=hid y
   rw [h0,Int.zero_mul] at this
   rcases Int.mul_eq_zero.1 this with h | h
   ·omega
   ·rcases Int.mul_eq_zero.1 h with h | h
    ·exact absurd h hρ
    ·exact h
  have h2:=good_span hg (V r) (fun y _ z _=>by have:=h1 y; have:=h1 z; omega)
  obtain ⟨_,_,_,⟨i,hi,hne⟩,_⟩:=row_one (fun y hy=>(hg.box y hy).1) hg.d1 hr
  exact hne (h2 i hi)
 have hle:∀y∈P,dot d (V r) (V y)-dot d (V r) (V x)≤0:=fun y hy=>by have:=hfit.all y hy; omega
 -- on the row,just where it is met
 have hon:∀y∈P,trn (senP d u v x y) ez=0→r.getD d 0=dot d (V r) (V y):=fun y _ h=>by
  have:=hid y
  rw [h,Int.mul_zero] at this
  rcases Int.mul_eq_zero.1 this with h | h
  ·omega
  ·rcases Int.mul_eq_zero.1 h with h | h
   ·exact absurd h hρ
   ·omega
 have hend:∀y1∈P,∀e:Int×Int,senP d u v x y1≠(0,0)→r.getD d 0=dot d (V r) (V y1)→(e=senP d u v x y1∨e=negP (senP d u v x y1))→(∀s∈offL d u v x P,trn s e≤0)→endR d u v x (offL d u v x P) e=[r]:=fun y1 hy1 e h0 hy1r he hall=>by
  have ha1:a*(senP d u v x y1).1+b*(senP d u v x y1).2=0:=by
   rw [←comb_sen (x:=x) hab y1,←hy1r,←hrx,Int.sub_self,Int.mul_zero]
  have he0:e≠(0,0):=fun h=>by
   rcases he with h1 | h1
   ·exact h0 (by rw [←h1]; exact h)
   ·rw [h1] at h
    unfold negP at h
    simp at h
    exact h0 (Prod.ext h.1 h.2)
  have hae:a*e.1+b*e.2=0:=by
   rcases he with h1 | h1
   ·rw [h1]; exact ha1
   ·rw [h1]; unfold negP; grind
  have hrow:=row_is hg hr hrx hρ hab he0 hae hB (fun y hy=>by
   by_cases hs:senP d u v x y=(0,0)
   ·rw [hs]; unfold trn; simp
   ·exact hall _ (off_mem.2 ⟨y,hy,rfl,hs⟩))
  unfold endR
  rw [if_neg (by
   rw [List.any_eq_true]
   rintro ⟨s,hs,hs2⟩
   have:=hall s hs
   simp at hs2
   omega),hrow]
 unfold thrL
 cases hoff:offL d u v x P with
 | nil=>rw [hoff] at hezm; cases hezm
 | cons m l=>
  rw [hoff] at hend hezm
  have hsp:∀s∈m :: l,∃y∈P,senP d u v x y=s∧s≠(0,0):=fun s hs=>off_mem.1 (by rw [hoff]; exact hs)
  rcases Int.lt_or_le 0 (K*ρ) with hs | hs
  ·-- all lie to the right
   have hrt:∀s∈m :: l,RtE ez s:=fun s hs'=>by
    obtain ⟨y,hy,rfl,h0⟩:=hsp s hs'
    have h1:=hid y
    have h2:=hle y hy
    constructor
    ·rcases Int.lt_or_le 0 (trn (senP d u v x y) ez) with h | h
     ·exfalso
      have e1:dt2 ez ez*(ρ*ρ*(dot d (V r) (V y)-dot d (V r) (V x)))=(K*ρ)*trn (senP d u v x y) ez:=by grind
      have e2:=Int.mul_pos hs h
      have hρ2:0≤ρ*ρ:=by
       rcases Int.lt_or_le ρ 0 with h | h
       ·exact Int.le_of_lt (Int.mul_pos_of_neg_of_neg h h)
       ·exact Int.mul_nonneg h h
      have e3:=Int.mul_nonneg (Int.le_of_lt hN) (Int.mul_nonneg hρ2 (show 0≤-(dot d (V r) (V y)-dot d (V r) (V x)) by omega))
      have e4:dt2 ez ez*(ρ*ρ * -(dot d (V r) (V y)-dot d (V r) (V x)))=-(dt2 ez ez*(ρ*ρ*(dot d (V r) (V y)-dot d (V r) (V x)))):=by grind
      omega
     ·exact h
    ·intro h
     exact hray y hy h0 (hon y hy h)
   obtain ⟨k1,k2⟩:=mxF_max hN l m (hrt m (by simp)) (fun s hs'=>hrt s (by simp [hs']))
   have kall:∀s∈m :: l,trn s (mxF m l)≤0:=fun s hs'=>by
    rcases List.mem_cons.1 hs' with rfl | h
    ·exact k1
    ·exact k2 s h
   have hmm:mxF m l∈m :: l:=by
    rcases mxF_mem l m with h | h
    ·rw [h]; simp
    ·simp [h]
   obtain ⟨y1,hy1,hy1e,hy10⟩:=hsp _ hmm
   have h3:=(hrt _ hmm).1
   have h4:=kall ez hezm
   have h5:=trn_neg ez (mxF m l)
   have hr1:=hend y1 hy1 (mxF m l) (by rw [hy1e]; exact hy10) (hon y1 hy1 (by rw [hy1e]; omega)) (.inl hy1e.symm) kall
   simp [hr1]
  ·have hs':K*ρ < 0:=by
    have:K*ρ≠0:=Int.mul_ne_zero hK0 hρ
    omega
   have hrt:∀s∈m :: l,RtE (flp ez) (flp s):=fun s hs''=>by
    obtain ⟨y,hy,rfl,h0⟩:=hsp s hs''
    have h1:=hid y
    have h2:=hle y hy
    constructor
    ·rw [trn_flp]
     rcases Int.lt_or_le (trn (senP d u v x y) ez) 0 with h | h
     ·exfalso
      have e1:dt2 ez ez*(ρ*ρ*(dot d (V r) (V y)-dot d (V r) (V x)))=(K*ρ)*trn (senP d u v x y) ez:=by grind
      have e2:=Int.mul_pos_of_neg_of_neg hs' h
      have hρ2:0≤ρ*ρ:=by
       rcases Int.lt_or_le ρ 0 with h | h
       ·exact Int.le_of_lt (Int.mul_pos_of_neg_of_neg h h)
       ·exact Int.mul_nonneg h h
      have e3:=Int.mul_nonneg (Int.le_of_lt hN) (Int.mul_nonneg hρ2 (show 0≤-(dot d (V r) (V y)-dot d (V r) (V x)) by omega))
      have e4:dt2 ez ez*(ρ*ρ * -(dot d (V r) (V y)-dot d (V r) (V x)))=-(dt2 ez ez*(ρ*ρ*(dot d (V r) (V y)-dot d (V r) (V x)))):=by grind
      omega
     ·omega
    ·intro h
     rw [trn_flp] at h
     have:=hray y hy h0 (hon y hy (by omega))
     unfold dt2 flp at *
     simp only at *
     grind
   have hN2:0 < dt2 (flp ez) (flp ez):=by unfold dt2 flp at *; simp only at *; grind
   obtain ⟨k1,k2⟩:=mxF_max hN2 (l.map flp) (flp m) (hrt m (by simp)) (fun s hs''=>by
    obtain ⟨q,hq,rfl⟩:=List.mem_map.1 hs''
    exact hrt q (by simp [hq]))
   rw [←mn_mx] at k1 k2
   have kall:∀s∈m :: l,0≤trn s (mnF m l):=fun s hs''=>by
    rcases List.mem_cons.1 hs'' with rfl | h
    ·rw [trn_flp] at k1; omega
    ·have:=k2 (flp s) (List.mem_map.2 ⟨s,h,rfl⟩)
     rw [trn_flp] at this; omega
   have hmm:mnF m l∈m :: l:=by
    rcases mnF_mem l m with h | h
    ·rw [h]; simp
    ·simp [h]
   obtain ⟨y1,hy1,hy1e,hy10⟩:=hsp _ hmm
   have h3:=(hrt _ hmm).1
   rw [trn_flp] at h3
   have h4:=kall ez hezm
   have h5:=trn_neg ez (mnF m l)
   have hr1:=hend y1 hy1 (negP (mnF m l)) (by rw [hy1e]; exact hy10) (hon y1 hy1 (by rw [hy1e]; omega)) (.inr (by rw [hy1e])) (fun s hs''=>by
    have:=kall s hs''
    have e:=trn_op s (mnF m l)
    unfold negP
    omega)
   simp [hr1]
end Go.Proofs.YtdanomklbiidaaaGreatDoor

namespace Go.Proofs.YtdanomklbiidaaaGreatDoor
open Lin
def drpJ (j:Nat) (y:List Int):List Int:=y.take j ++ y.drop (j+1)
def lftJ (j:Nat) (w:Nat→Int):Nat→Int:=fun i=>if i < j then w i else if i=j then 0 else w (i-1)
theorem drpJ_len {d j:Nat} {y:List Int} (hy:y.length=d+1) (hj:j < d+1):(drpJ j y).length=d:=by
 unfold drpJ
 rw [List.length_append,List.length_take,List.length_drop]
 omega
theorem drpJ_at {d j i:Nat} {y:List Int} (hy:y.length=d+1) (hj:j < d+1) (_hi:i < d):V (drpJ j y) i=if i < j then V y i else V y (i+1):=by
 unfold V drpJ
 by_cases h:i < j
 ·rw [if_pos h,List.getD_eq_getElem?_getD,List.getElem?_append_left (by rw [List.length_take]; omega),List.getElem?_take_of_lt h,←List.getD_eq_getElem?_getD]
 ·rw [if_neg h,List.getD_eq_getElem?_getD,List.getElem?_append_right (by rw [List.length_take]; omega),List.length_take,List.getElem?_drop,←List.getD_eq_getElem?_getD]
  congr 1
  omega
theorem sumN_split (f:Nat→Int) (j:Nat):∀d,j < d+1→sumN (d+1) f=(sumN d fun i=>if i < j then f i else f (i+1))+f j
 | 0,h=>by
  have:j=0:=by omega
  subst this
  simp [sumN]
 | d+1,h=>by
  have e1:sumN (d+1+1) f=sumN (d+1) f+f (d+1):=rfl
  have e2:(sumN (d+1) fun i=>if i < j then f i else f (i+1))=(sumN d fun i=>if i < j then f i else f (i+1))+(if d < j then f d else f (d+1)):=rfl
  by_cases hj:j < d+1
  ·rw [e1,e2,sumN_split f j d hj,if_neg (by omega)]
   omega
  ·have hj2:j=d+1:=by omega
   subst hj2
   rw [e1,e2,if_pos (by omega)]
   have e3:sumN (d+1) f=sumN d f+f d:=rfl
   rw [e3]
   have e4:(sumN d fun i=>if i < d+1 then f i else f (i+1))=sumN d f:=sumN_congr fun i hi=>by rw [if_pos (by omega)]
   rw [e4]
theorem lft_dot {d j:Nat} (hj:j < d+1) (w:Nat→Int) {y:List Int} (hy:y.length=d+1):dot (d+1) (lftJ j w) (V y)=dot d w (V (drpJ j y)):=by
 unfold dot
 rw [sumN_split _ j d hj]
 have e0:lftJ j w j*V y j=0:=by unfold lftJ; simp
 rw [e0,Int.add_zero]
 refine sumN_congr fun i hi=>?_
 rw [drpJ_at hy hj hi]
 by_cases h:i < j
 ·rw [if_pos h,if_pos h]
  unfold lftJ
  rw [if_pos h]
 ·rw [if_neg h,if_neg h]
  unfold lftJ
  rw [if_neg (by omega),if_neg (by omega),Nat.add_sub_cancel]
theorem lft_zero {d j:Nat} (_hj:j < d+1) {w:Nat→Int} (h:∀i,i < d+1→lftJ j w i=0):∀i,i < d→w i=0:=fun i hi=>by
 by_cases hij:i < j
 ·have:=h i (by omega)
  unfold lftJ at this
  rw [if_pos hij] at this
  exact this
 ·have:=h (i+1) (by omega)
  unfold lftJ at this
  rw [if_neg (by omega),if_neg (by omega),Nat.add_sub_cancel] at this
  exact this
theorem few_orthW {d:Nat} {m:List (List Int)} (h:m.length < d):∃v:Nat→Int,(∃i,i < d∧v i≠0)∧∀r∈m,dot d (V r) v=0:=by
 refine Classical.byContradiction fun hn=>?_
 have hg:=pick_greedy d m
 have hall:∀v:Nat→Int,(∀r∈fm m,dot d r v=0)→∀i,i < d→v i=0:=fun v hv i hi=>by
  refine Classical.byContradiction fun hne=>hn ⟨v,⟨i,hi,hne⟩,fun r hr=>hv (V r) (mem_fm.2 ⟨r,hr,rfl⟩)⟩
 have hl:=(greedy_full hg).2 hall
 rw [fm_length] at hl
 have:=(pickL_sub d m).length_le
 omega
theorem greedy_orth {d:Nat} {L H:List (Nat→Int)} (hg:Greedy d L H) {v:Nat→Int} (h:∀r∈H,dot d r v=0):∀r∈L,dot d r v=0:=fun r hr=>dot_dep (hg.dep r hr) (fun _ hi=>h _ (row_mem hi))
def FlatOk (d:Nat) (t:List (List Int)):Prop:=(pickL d (diffL t)).length+2=d
theorem wr_flat {d:Nat} {P:List (List Int)} (hg:Good (d+1) P) (hd:1≤d) {r:List Int} (hr:r∈rowsC P [] (d+1) P) :
  ∃t:List (List Int),t.Sublist P∧t.length=d∧FlatOk (d+1) t∧(∀y∈t,r.getD (d+1) 0=dot (d+1) (V r) (V y))∧
   ∃h:Nat→Int,(∀y∈t,dot (d+1) h (V y)=dot (d+1) h (V (t.getD 0 [])))∧(∀y∈P,r.getD (d+1) 0=dot (d+1) (V r) (V y)→dot (d+1) h (V y)≤dot (d+1) h (V (t.getD 0 [])))∧¬Par (d+1) h (V r):=by
 have hlen:∀y∈P,y.length=d+1:=fun y hy=>(hg.box y hy).1
 obtain ⟨t0,ht0,ht0m,⟨j,hj,hjne⟩,huni⟩:=row_one hlen hg.d1 hr
 obtain ⟨F,hF⟩:∃F,F=P.filter fun y=>decide (r.getD (d+1) 0=dot (d+1) (V r) (V y)):=⟨_,rfl⟩
 have hFm:∀y,y∈F↔y∈P∧r.getD (d+1) 0=dot (d+1) (V r) (V y):=fun y=>by rw [hF]; simp
 have hFs:F.Sublist P:=by rw [hF]; exact List.filter_sublist
 have hFl:∀y∈F,y.length=d+1:=fun y hy=>hlen y ((hFm y).1 hy).1
 have hFu:∀u:Nat→Int,(∀y∈F,∀z∈F,dot (d+1) u (V y)=dot (d+1) u (V z))→Par (d+1) u (V r):=fun u hu=>huni u fun y hy=>hu y ((hFm y).2 (ht0 y hy)) _ ((hFm _).2 (ht0 _ ht0m))
 have hbox:Box d 30 (F.map (drpJ j)):=fun y hy=>by
  obtain ⟨q,hq,rfl⟩:=List.mem_map.1 hy
  refine ⟨drpJ_len (hFl q hq) hj,fun z hz=>?_⟩
  have hb:=(hg.box q ((hFm q).1 hq).1).2
  unfold drpJ at hz
  rcases List.mem_append.1 hz with h | h
  ·exact hb z (List.mem_of_mem_take h)
  ·exact hb z (List.mem_of_mem_drop h)
 have hfull:(pickL d (diffL (F.map (drpJ j)))).length=d:=full_of_span (fun y hy=>(hbox y hy).1) fun c hc=>by
  refine lft_zero hj fun i hi=>?_
  have hp:=hFu (lftJ j c) (fun y hy z hz=>by
   rw [lft_dot hj c (hFl y hy),lft_dot hj c (hFl z hz)]
   exact hc _ (List.mem_map.2 ⟨y,hy,rfl⟩) _ (List.mem_map.2 ⟨z,hz,rfl⟩)) i j hi hj
  have:lftJ j c j=0:=by unfold lftJ; simp
  rw [this,Int.zero_mul] at hp
  rcases Int.mul_eq_zero.1 hp with h | h
  ·exact h
  ·exact absurd h hjne
 have hn2:2≤(F.map (drpJ j)).length:=by
  have:=pickL_len d (diffL (F.map (drpJ j)))
  rw [diffL_length] at this
  omega
 have hgF:Good d (F.map (drpJ j)):=⟨hd,by have:=hg.dm; omega,hn2,by rw [List.length_map]; exact Nat.le_trans hFs.length_le hg.n24,hbox,hfull⟩
 obtain ⟨r',hr'⟩:=row_some hgF
 have hfit:=rowsC_fit hgF.box hgF.d1 (by have:=hgF.d4; omega) (fun _=>Iff.rfl) hr'
 obtain ⟨t',hts',htl',hrt'⟩:=mem_rowsC.1 hr'
 obtain ⟨t,hts,htm⟩:=List.sublist_map_iff.1 hts'
 have htl:t.length=d:=by rw [←htl',htm,List.length_map]
 have htF:∀y∈t,y∈F:=fun y hy=>hts.subset hy
 have ht0m:t.getD 0 []∈t:=by simp [show 0 < t.length by omega]
 have htd:∀i,(t'.getD i [])=if i < t.length then drpJ j (t.getD i []) else []:=fun i=>by
  rw [htm]
  by_cases h:i < t.length
  ·simp [h]
  ·simp [h]
 -- what t' says
 obtain ⟨σ,hσ,hnb,hre⟩:=rowT_form htl' hrt'
 have hl':(pickL d (diffL t')).length+1=d:=of_decide_eq_true hnb
 have hal:=norm_len hnb
 obtain ⟨⟨p,hp,hpne⟩,hn1,hn2'⟩:=norm_spec hl'
 have hσ0:σ≠0:=by rcases hσ with rfl | rfl <;> decide
 have hVr:∀i,i < d→V r' i=σ*V (normL d (diffL t')) i:=fun i hi=>by
  rw [hre]
  have h:=V_map (normL d (diffL t') ++ [dotL (normL d (diffL t')) (t'.getD 0 [])]) σ i
  rw [h,(row_app hal).2.2.2 i hi]
 have hlast:r'.getD d 0=σ*dotL (normL d (diffL t')) (t'.getD 0 []):=by
  rw [hre]
  have h:=V_map (normL d (diffL t') ++ [dotL (normL d (diffL t')) (t'.getD 0 [])]) σ d
  simp only [V] at h
  rw [h,(row_app hal).2.2.1]
 have hdr:∀x:Nat→Int,dot d (V r') x=σ*dot d (V (normL d (diffL t'))) x:=fun x=>by
  unfold dot
  rw [←sumN_mul]
  exact sumN_congr fun i hi=>by rw [hVr i hi,Int.mul_assoc]
 have hks:∀y∈t',dot d (V (normL d (diffL t'))) (V y)=dot d (V (normL d (diffL t'))) (V (t'.getD 0 [])):=fun y hy=>by
  rcases mem_head_drop hy with e | hy'
  ·rw [←e]
  ·have h1:=hn1 (subL y (t'.getD 0 [])) (List.mem_map.2 ⟨y,hy',rfl⟩)
   rw [dot_comm,dot_subL _ (hbox y (hts'.subset hy)).1] at h1
   omega
 have htm0:t'.getD 0 []=drpJ j (t.getD 0 []):=by rw [htd 0,if_pos (by omega)]
 have hmt:∀y∈t,dot d (V r') (V (drpJ j y))=r'.getD d 0:=fun y hy=>by
  have hy':drpJ j y∈t':=by rw [htm]; exact List.mem_map.2 ⟨y,hy,rfl⟩
  rw [hdr,hks _ hy',hlast,dotL_eq hal]
 refine ⟨t,hts.trans hFs,htl,?_,fun y hy=>((hFm y).1 (htF y hy)).2,lftJ j (V r'),fun y hy=>?_,fun y hy hyr=>?_,fun hpar=>?_⟩
 ·-- independent
  unfold FlatOk
  have hle:=pickL_len (d+1) (diffL t)
  rw [diffL_length,htl] at hle
  have hge:d-1≤(pickL (d+1) (diffL t)).length:=by
   refine Classical.byContradiction fun hn=>?_
   have hgr:=pick_greedy (d+1) (diffL t)
   -- a direction that is across what is picked,and across the normal
   have hsubm:∀q∈pickL (d+1) (diffL t),∃y∈t,q=subL y (t.getD 0 []):=fun q hq=>by
    have:=(pickL_sub (d+1) (diffL t)).subset hq
    simp only [diffL,List.mem_map] at this
    obtain ⟨y,hy,rfl⟩:=this
    exact ⟨y,List.mem_of_mem_drop hy,rfl⟩
   obtain ⟨w,⟨i,hi,hine⟩,hw⟩:=few_orthW (d:=d) (m:=(pickL (d+1) (diffL t)).map (drpJ j) ++ [normL d (diffL t')]) (by rw [List.length_append,List.length_map,List.length_singleton]; omega)
   have hsl:∀y∈t,(subL y (t.getD 0 [])).length=d+1:=fun y hy=>by
    unfold subL
    simp [hFl y (htF y hy)]
   have hwl:∀q∈fm (pickL (d+1) (diffL t)),dot (d+1) q (lftJ j w)=0:=fun q hq=>by
    obtain ⟨l,hl,rfl⟩:=mem_fm.1 hq
    obtain ⟨y,hy,rfl⟩:=hsubm l hl
    rw [dot_comm,lft_dot hj w (hsl y hy),dot_comm]
    exact hw _ (List.mem_append_left _ (List.mem_map.2 ⟨_,hl,rfl⟩))
   have hall:∀q∈fm (diffL t),dot (d+1) q (lftJ j w)=0:=fun q hq=>greedy_orth hgr hwl q hq
   have hpw:=hn2' w fun q hq=>by
    simp only [diffL,List.mem_map] at hq
    obtain ⟨y',hy',rfl⟩:=hq
    have hy't:=List.mem_of_mem_drop hy'
    rw [htm] at hy't
    obtain ⟨y,hy,rfl⟩:=List.mem_map.1 hy't
    have h1:dot (d+1) (lftJ j w) (V y)=dot (d+1) (lftJ j w) (V (t.getD 0 [])):=by
     rcases mem_head_drop hy with e | hyd
     ·rw [←e]
     ·have:=hall (V (subL y (t.getD 0 []))) (mem_fm.2 ⟨_,List.mem_map.2 ⟨y,hyd,rfl⟩,rfl⟩)
      rw [dot_comm,dot_subL _ (hFl y (htF y hy))] at this
      omega
    rw [dot_comm,dot_subL _ (drpJ_len (hFl y (htF y hy)) hj),htm0,←lft_dot hj w (hFl y (htF y hy)),←lft_dot hj w (hFl _ (htF _ ht0m)),h1]
    omega
   have hwn:=hw (normL d (diffL t')) (by simp)
   -- parallel and across: nothing
   have hnn:=dot_pos (d:=d) (a:=V (normL d (diffL t'))) ⟨p,hp,hpne⟩
   have:dot d (V (normL d (diffL t'))) (V (normL d (diffL t')))*w i=V (normL d (diffL t')) i*dot d (V (normL d (diffL t'))) w:=by
    unfold dot
    rw [←sumN_mul_right,←sumN_mul]
    refine sumN_congr fun k hk=>?_
    have:=hpw i k hi hk
    grind
   rw [hwn,Int.mul_zero] at this
   rcases Int.mul_eq_zero.1 this with h | h
   ·omega
   ·exact hine h
  omega
 ·rw [lft_dot hj _ (hFl y (htF y hy)),lft_dot hj _ (hFl _ (htF _ ht0m)),hmt y hy,hmt _ ht0m]
 ·have hyF:y∈F:=(hFm y).2 ⟨hy,hyr⟩
  rw [lft_dot hj _ (hFl y hyF),lft_dot hj _ (hFl _ (htF _ ht0m)),hmt _ ht0m]
  exact hfit.all _ (List.mem_map.2 ⟨y,hyF,rfl⟩)
 ·have h0:∀i,i < d+1→lftJ j (V r') i=0:=fun i hi=>by
   have:=hpar i j hi hj
   have e:lftJ j (V r') j=0:=by unfold lftJ; simp
   rw [e,Int.zero_mul] at this
   rcases Int.mul_eq_zero.1 this with h | h
   ·exact h
   ·exact absurd h hjne
  have:=lft_zero hj h0 p hp
  rw [hVr p hp] at this
  rcases Int.mul_eq_zero.1 this with h | h
  ·exact hσ0 h
  ·exact hpne h
end Go.Proofs.YtdanomklbiidaaaGreatDoor
