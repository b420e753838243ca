import Derived.Test.YtkfdpcgmpbopnaaGreatDoorLtA
import Derived.Test.YtkfdpcgmpbopnaaGreatDoorWyY
import Derived.Test.YtkfdpcgmpbopnaaGreatDoorBetY
namespace Go.Proofs.YtkfdpcgmpbopnaaGreatDoor
open Lin
def trn (s t:Int×Int):Int:=t.1*s.2-t.2*s.1
def dt2 (s t:Int×Int):Int:=t.1*s.1+t.2*s.2
def mxF (m:Int×Int) (l:List (Int×Int)):Int×Int:=l.foldl (fun m s=>if 0 < trn s m then s else m) m
def mnF (m:Int×Int) (l:List (Int×Int)):Int×Int:=l.foldl (fun m s=>if trn s m < 0 then s else m) m
theorem trn_self (s:Int×Int):trn s s=0:=by unfold trn; grind
theorem trn_neg (s t:Int×Int):trn t s=- trn s t:=by unfold trn; grind
theorem trn_op (s t:Int×Int):trn s (-t.1,-t.2)=- trn s t:=by unfold trn; grind
theorem trn_parts (s t e:Int×Int):dt2 e e*trn s t=dt2 s e*(- trn t e)-dt2 t e*(- trn s e):=by unfold trn dt2; grind
def RtE (e s:Int×Int):Prop:=trn s e≤0∧(trn s e=0→0 < dt2 s e)
theorem dt2_pos {e:Int×Int} (h:e≠(0,0)):0 < dt2 e e:=by
 unfold dt2
 obtain ⟨a,b⟩:=e
 have h1:a≠0∨b≠0:=by
  rcases Int.decEq a 0 with ha | ha
  ·exact .inl ha
  ·right
   intro hb
   exact h (by rw [ha,hb])
 have sq:∀z:Int,0≤z*z∧(z≠0→0 < z*z):=fun z=>by
  constructor
  ·rcases Int.lt_or_le z 0 with h | h
   ·have:=Int.mul_pos_of_neg_of_neg h h; omega
   ·exact Int.mul_nonneg h h
  ·intro hz
   rcases Int.lt_or_gt_of_ne hz with h | h
   ·exact Int.mul_pos_of_neg_of_neg h h
   ·exact Int.mul_pos h h
 show 0 < a*a+b*b
 have ha:=sq a
 have hb:=sq b
 rcases h1 with h1 | h1
 ·have:=ha.2 h1; omega
 ·have:=hb.2 h1; omega
theorem rt_trans {e a b c:Int×Int} (he:0 < dt2 e e) (ha:RtE e a) (hb:RtE e b) (hc:RtE e c) (h1:trn a b≤0) (h2:0 < trn c b):trn a c≤0:=by
 have p1:=trn_parts a b e
 have p2:=trn_parts c b e
 have p3:=trn_parts a c e
 obtain ⟨a1,a2⟩:=ha
 obtain ⟨b1,b2⟩:=hb
 obtain ⟨c1,c2⟩:=hc
 have q1:dt2 e e*trn a b≤0:=Int.mul_nonpos_of_nonneg_of_nonpos (by omega) h1
 have q2:0 < dt2 e e*trn c b:=Int.mul_pos he h2
 obtain ⟨pa,hpa⟩:∃pa,pa=- trn a e:=⟨_,rfl⟩
 obtain ⟨pb,hpb⟩:∃pb,pb=- trn b e:=⟨_,rfl⟩
 obtain ⟨pc,hpc⟩:∃pc,pc=- trn c e:=⟨_,rfl⟩
 rw [←hpa,←hpb] at p1
 rw [←hpc,←hpb] at p2
 rw [←hpa,←hpc] at p3
 generalize dt2 a e=qa at *
 generalize dt2 b e=qb at *
 generalize dt2 c e=qc at *
 rw [p1] at q1
 rw [p2] at q2
 have hpa0:0≤pa:=by omega
 have hpb0:0≤pb:=by omega
 have hpc0:0≤pc:=by omega
 have hpbp:0 < pb:=by
  rcases Int.lt_or_le 0 pb with h | h
  ·exact h
  ·exfalso
   have hb0:pb=0:=by omega
   have:=b2 (by omega)
   rw [hb0,Int.mul_zero] at q2
   have:=Int.mul_nonneg (Int.le_of_lt this) hpc0
   omega
 have k1:qa*pb*pc≤qb*pa*pc:=Int.mul_le_mul_of_nonneg_right (by omega) hpc0
 have k2:qb*pc*pa≤qc*pb*pa:=Int.mul_le_mul_of_nonneg_right (by omega) hpa0
 have k3:pb*(qa*pc)≤pb*(qc*pa):=by
  have e1:pb*(qa*pc)=qa*pb*pc:=by grind
  have e2:pb*(qc*pa)=qc*pb*pa:=by grind
  have e3:qb*pa*pc=qb*pc*pa:=by grind
  omega
 have k4:=Int.le_of_mul_le_mul_left k3 hpbp
 have k5:dt2 e e*trn a c≤0:=by rw [p3]; omega
 rcases Int.lt_or_le 0 (trn a c) with h | h
 ·have:=Int.mul_pos he h; omega
 ·exact h
theorem rt_zero {e a b c:Int×Int} (he:0 < dt2 e e) (ha:RtE e a) (hb:RtE e b) (hc:RtE e c) (h1:trn a b=0) (h2:trn c b=0):trn a c=0:=by
 have p1:=trn_parts a b e
 have p2:=trn_parts c b e
 have p3:=trn_parts a c e
 obtain ⟨a1,a2⟩:=ha
 obtain ⟨b1,b2⟩:=hb
 obtain ⟨c1,c2⟩:=hc
 rw [h1,Int.mul_zero] at p1
 rw [h2,Int.mul_zero] at p2
 obtain ⟨pa,hpa⟩:∃pa,pa=- trn a e:=⟨_,rfl⟩
 obtain ⟨pb,hpb⟩:∃pb,pb=- trn b e:=⟨_,rfl⟩
 obtain ⟨pc,hpc⟩:∃pc,pc=- trn c e:=⟨_,rfl⟩
 rw [←hpa,←hpb] at p1
 rw [←hpc,←hpb] at p2
 rw [←hpa,←hpc] at p3
 generalize dt2 a e=qa at *
 generalize dt2 b e=qb at *
 generalize dt2 c e=qc at *
 have k:qa*pc-qc*pa=0:=by
  rcases Int.lt_or_le 0 pb with h | h
  ·have:pb*(qa*pc-qc*pa)=0:=by
    have e1:pb*(qa*pc-qc*pa)=(qa*pb)*pc-(qc*pb)*pa:=by grind
    have e2:qa*pb=qb*pa:=by omega
    have e3:qc*pb=qb*pc:=by omega
    rw [e1,e2,e3]; grind
   rcases Int.mul_eq_zero.1 this with h0 | h0
   ·omega
   ·exact h0
  ·have hb0:pb=0:=by omega
   have hq:=b2 (by omega)
   rw [hb0,Int.mul_zero] at p1 p2
   have e1:qb*pa=0:=by omega
   have e2:qb*pc=0:=by omega
   have f1:pa=0:=by rcases Int.mul_eq_zero.1 e1 with h | h <;> omega
   have f2:pc=0:=by rcases Int.mul_eq_zero.1 e2 with h | h <;> omega
   rw [f1,f2]; simp
 rw [k] at p3
 rcases Int.mul_eq_zero.1 p3 with h | h <;> omega
theorem mxF_mem:∀(l:List (Int×Int)) (m:Int×Int),mxF m l=m∨mxF m l∈l
 | [],m=>.inl rfl
 | s :: l,m=>by
  show mxF (if 0 < trn s m then s else m) l=m∨mxF (if 0 < trn s m then s else m) l∈s :: l
  rcases mxF_mem l (if 0 < trn s m then s else m) with h | h
  ·rw [h]
   split
   ·exact .inr (by simp)
   ·exact .inl rfl
  ·exact .inr (by simp [h])
theorem mxF_max {e:Int×Int} (he:0 < dt2 e e):∀(l:List (Int×Int)) (m:Int×Int),RtE e m→(∀s∈l,RtE e s)→trn m (mxF m l)≤0∧∀s∈l,trn s (mxF m l)≤0
 | [],m,_,_=>⟨by show trn m m≤0; rw [trn_self]; omega,fun s hs=>by cases hs⟩
 | s :: l,m,hm,hl=>by
  have hs:=hl s (by simp)
  have hl':∀x∈l,RtE e x:=fun x hx=>hl x (by simp [hx])
  have e1:mxF m (s :: l)=mxF (if 0 < trn s m then s else m) l:=rfl
  rw [e1]
  by_cases h:0 < trn s m
  ·rw [if_pos h]
   obtain ⟨k1,k2⟩:=mxF_max he l s hs hl'
   have hR:RtE e (mxF s l):=by
    rcases mxF_mem l s with h1 | h1
    ·rw [h1]; exact hs
    ·exact hl' _ h1
   refine ⟨?_,fun x hx=>?_⟩
   ·rcases Int.lt_or_le 0 (trn (mxF s l) s) with h3 | h3
    ·exact rt_trans he hm hs hR (by have:=trn_neg s m; omega) h3
    ·have e2:=trn_neg s (mxF s l)
     have h4:trn (mxF s l) s=0:=by omega
     -- both on one ray
     refine Classical.byContradiction fun hn=>?_
     have h5:0 < trn m (mxF s l):=by omega
     have h6:=rt_trans he hs hR hm (by omega) h5
     have:=trn_neg s m
     omega
   ·rcases List.mem_cons.1 hx with rfl | hx
    ·exact k1
    ·exact k2 x hx
  ·rw [if_neg h]
   obtain ⟨k1,k2⟩:=mxF_max he l m hm hl'
   have hR:RtE e (mxF m l):=by
    rcases mxF_mem l m with h1 | h1
    ·rw [h1]; exact hm
    ·exact hl' _ h1
   refine ⟨k1,fun x hx=>?_⟩
   rcases List.mem_cons.1 hx with rfl | hx
   ·rcases Int.lt_or_le 0 (trn (mxF m l) m) with h3 | h3
    ·exact rt_trans he hs hm hR (by omega) h3
    ·have e2:=trn_neg m (mxF m l)
     have h4:trn (mxF m l) m=0:=by omega
     refine Classical.byContradiction fun hn=>?_
     have h5:0 < trn x (mxF m l):=by omega
     have h6:=rt_trans he hm hR hs (by omega) h5
     have h7:=trn_neg x m
     have h8:=rt_zero he hs hm hR (by omega) h4
     omega
   ·exact k2 x hx
def flp (s:Int×Int):Int×Int:=(-s.1,s.2)
theorem trn_flp (s t:Int×Int):trn (flp s) (flp t)=- trn s t:=by unfold trn flp; grind
theorem flp_flp (s:Int×Int):flp (flp s)=s:=by unfold flp; simp
theorem mn_mx:∀(l:List (Int×Int)) (m:Int×Int),flp (mnF m l)=mxF (flp m) (l.map flp)
 | [],m=>rfl
 | s :: l,m=>by
  show flp (mnF (if trn s m < 0 then s else m) l)=mxF (if 0 < trn (flp s) (flp m) then flp s else flp m) (l.map flp)
  rw [mn_mx l]
  congr 1
  rw [trn_flp]
  by_cases h:trn s m < 0
  ·rw [if_pos h,if_pos (by omega)]
  ·rw [if_neg h,if_neg (by omega)]
theorem mnF_mem (l:List (Int×Int)) (m:Int×Int):mnF m l=m∨mnF m l∈l:=by
 have h:=mn_mx l m
 rcases mxF_mem (l.map flp) (flp m) with h1 | h1
 ·left
  rw [h1] at h
  have:=congrArg flp h
  rw [flp_flp,flp_flp] at this
  exact this
 ·right
  rw [←h] at h1
  obtain ⟨s,hs,he⟩:=List.mem_map.1 h1
  have:=congrArg flp he
  rw [flp_flp,flp_flp] at this
  rw [←this]; exact hs
end Go.Proofs.YtkfdpcgmpbopnaaGreatDoor
namespace Go.Proofs.YtkfdpcgmpbopnaaGreatDoor
open Lin
def senP (d:Nat) (u v x y:List Int):Int×Int:=(dot d (V u) (V y)-dot d (V u) (V x),dot d (V v) (V y)-dot d (V v) (V x))
def rwE (u v:List Int) (e:Int×Int):Nat→Int:=fun i=>trn (V u i,V v i) e
def rwA (d:Nat) (u v:List Int) (e:Int×Int):List Int:=low ((List.range d).map (rwE u v e))
def rowE (d:Nat) (u v x:List Int) (e:Int×Int):List Int:=rwA d u v e ++ [dotL (rwA d u v e) x]
theorem rw_dot (d:Nat) (u v:List Int) (e:Int×Int) (z:Nat→Int):dot d (rwE u v e) z=trn (dot d (V u) z,dot d (V v) z) e:=by
 have:dot d (rwE u v e) z=dot d (fun k=>e.1*V v k+(-e.2)*V u k) z:=dot_congr (fun i _=>by unfold rwE trn; grind) (fun _ _=>rfl)
 rw [this,dot_lc]
 unfold trn
 grind
theorem rw_sen (d:Nat) (u v:List Int) (e:Int×Int) (x y:List Int):dot d (rwE u v e) (V y)-dot d (rwE u v e) (V x)=trn (senP d u v x y) e:=by
 rw [rw_dot,rw_dot]
 unfold senP trn
 grind
structure Bas (d:Nat) (t:List (List Int)) (x u v:List Int):Prop where
 ou:∀y∈t,dot d (V u) (V y)=dot d (V u) (V x)
 ov:∀y∈t,dot d (V v) (V y)=dot d (V v) (V x)
 ind:∀a b:Int,(∀i,i < d→a*V u i+b*V v i=0)→a=0∧b=0
 spn:∀w:Nat→Int,(∀y∈t,dot d w (V y)=dot d w (V x))→∃r a b:Int,r≠0∧∀i,i < d→r*w i=a*V u i+b*V v i
theorem Bas.sen {d:Nat} {t:List (List Int)} {x u v:List Int} (h:Bas d t x u v) {y:List Int} (hy:y∈t):senP d u v x y=(0,0):=by
 unfold senP
 rw [h.ou y hy,h.ov y hy]
 simp
theorem dot_comb {d:Nat} {u v:List Int} {w:Nat→Int} {r a b:Int} (h:∀i,i < d→r*w i=a*V u i+b*V v i) (z:Nat→Int):r*dot d w z=a*dot d (V u) z+b*dot d (V v) z:=by
 rw [←dot_lc]
 unfold dot
 rw [←sumN_mul]
 exact sumN_congr fun i hi=>by rw [←Int.mul_assoc,h i hi]
theorem comb_sen {d:Nat} {u v x:List Int} {w:Nat→Int} {r a b:Int} (h:∀i,i < d→r*w i=a*V u i+b*V v i) (y:List Int):r*(dot d w (V y)-dot d w (V x))=a*(senP d u v x y).1+b*(senP d u v x y).2:=by
 have h1:=dot_comb h (V y)
 have h2:=dot_comb h (V x)
 unfold senP
 grind
theorem low_atW (l:List Int) (i:Nat):(gc l:Int)*(low l).getD i 0=l.getD i 0:=by
 have h:=low_mul l
 have h2:=congrArg (fun m:List Int=>m.getD i 0) h
 simp only [List.getD_eq_getElem?_getD,List.getElem?_map] at h2
 simp only [List.getD_eq_getElem?_getD]
 cases hz:(low l)[i]? with
 | none=>rw [hz] at h2; simpa using h2
 | some z=>rw [hz] at h2; simpa using h2
theorem prim_low {d:Nat} {c:Nat→Int} {q:List Int} {s t:Int} (hq:q.length=d) (hg:gc q=1) (hs:0 < s) (ht:0 < t) (h:∀i,i < d→s*c i=t*V q i) (hc:∃i,i < d∧c i≠0):low ((List.range d).map c)=q:=by
 obtain ⟨L,hL⟩:∃L,L=(List.range d).map c:=⟨_,rfl⟩
 have hLl:L.length=d:=by rw [hL]; simp
 have hLi:∀i,i < d→L.getD i 0=c i:=fun i hi=>by rw [hL]; simp [hi]
 rw [←hL]
 have hlow:=low_mul L
 have hG:gc L≠0:=fun e=>by
  obtain ⟨i,hi,hne⟩:=hc
  have hm:c i∈L:=by rw [←hLi i hi]; exact getD_mem (by omega)
  have hd:=gc_dvd hm
  rw [e] at hd
  simp at hd
  exact hne hd
 have hlg:gc (low L)=1:=by
  have:=congrArg gc hlow
  rw [gc_scale,Int.natAbs_natCast] at this
  have hp:0 < gc L:=Nat.pos_of_ne_zero hG
  have h2:gc L*gc (low L)=gc L*1:=by rw [Nat.mul_one]; exact this
  exact Nat.eq_of_mul_eq_mul_left hp h2
 have hcross:(low L).map ((s*(gc L:Int)) * ·)=q.map (t * ·):=by
  refine List.ext_getElem (by rw [List.length_map,List.length_map,low_len,hLl,hq]) fun i h1 h2=>?_
  rw [List.getElem_map,List.getElem_map]
  have hi:i < d:=by rw [List.length_map,hq] at h2; exact h2
  have e1:(gc L:Int)*(low L)[i]'(by rw [low_len,hLl]; exact hi)=L[i]'(by omega):=by
   have:=congrArg (fun m:List Int=>m[i]?) hlow
   simp only [List.getElem?_map,List.getElem?_eq_getElem (show i < (low L).length by rw [low_len,hLl]; exact hi),List.getElem?_eq_getElem (show i < L.length by omega),Option.map_some,Option.some.injEq] at this
   exact this
  have e2:L[i]'(by omega)=c i:=by rw [←hLi i hi]; simp [show i < L.length by omega]
  have e3:q[i]'(by omega)=V q i:=by simp [V,show i < q.length by omega]
  rw [Int.mul_assoc,e1,e2,e3]
  exact h i hi
 have hsg:s*(gc L:Int)≠0:=Int.mul_ne_zero (by omega) (by omega)
 rcases prim_eq hlg hg hsg (by omega) hcross with e | e
 ·exact e
 ·exfalso
  obtain ⟨i,hi,hne⟩:=hc
  have e0:=low_atW L i
  rw [e] at e0
  have e1:(q.map fun z=>-z).getD i 0=- V q i:=by
   unfold V
   simp only [List.getD_eq_getElem?_getD,List.getElem?_map]
   cases q[i]? <;> simp
  rw [e1,hLi i hi] at e0
  have e2:=h i hi
  rw [←e0] at e2
  have hgp:0 < (gc L:Int):=by omega
  have e3:(s*(gc L:Int)+t)*V q i=0:=by grind
  rcases Int.mul_eq_zero.1 e3 with h0 | h0
  ·have:=Int.mul_pos hs hgp; omega
  ·rw [h0] at e0
   simp at e0
   exact hne e0.symm
theorem wr_row {d:Nat} {P:List (List Int)} (hg:Good d P) {x:List Int} (hx:x∈P) {c:Nat→Int} (hc:∃i,i < d∧c i≠0) (hmax:∀y∈P,dot d c (V y)≤dot d c (V x))
  (hone:∀u:Nat→Int,(∀y∈P,dot d c (V y)=dot d c (V x)→dot d u (V y)=dot d u (V x))→Par d u c):low ((List.range d).map c) ++ [dotL (low ((List.range d).map c)) x]∈rowsC P [] d P:=by
 obtain ⟨r,hr,hrx,s,t,hs,ht,hst⟩:=side_some hg.box (good_span hg) hx hc hmax hone
 obtain ⟨T,hTs,hTl,hrT⟩:=mem_rowsC.1 hr
 obtain ⟨σ,hσ,hnb,hre⟩:=rowT_form hTl hrT
 have hl:(pickL d (diffL T)).length+1=d:=of_decide_eq_true hnb
 have hal:=norm_len hnb
 have hgn:=norm_gc hl
 have hrl:r.length=d+1:=(rowsC_fit hg.box hg.d1 (by have:=hg.d4; omega) (fun _=>Iff.rfl) hr).len
 have hq:(r.take d).length=d:=by rw [List.length_take]; omega
 have hqe:r.take d=(normL d (diffL T)).map (σ * ·):=by
  rw [hre,List.map_append,List.take_left' (by rw [List.length_map,hal])]
 have hqg:gc (r.take d)=1:=by
  rw [hqe,gc_scale,hgn]
  rcases hσ with rfl | rfl <;> rfl
 have hlow:=prim_low (c:=c) (q:=r.take d) hq hqg hs ht (fun i hi=>by rw [hst i hi,V_take hi]) hc
 rw [hlow]
 have hlast:dotL (r.take d) x=r.getD d 0:=by
  rw [dotL_eq hq,hrx]
  exact dot_congr (fun i hi=>V_take hi) (fun _ _=>rfl)
 have:r.take d ++ [dotL (r.take d) x]=r:=by
  rw [hlast]
  have h1:=List.take_succ_eq_append_getElem (l:=r) (i:=d) (by omega)
  rw [List.take_of_length_le (by omega)] at h1
  rw [show r.getD d 0=r[d] by simp [show d < r.length by omega]]
  exact h1.symm
 rw [this]
 exact hr
theorem wr_sound {d:Nat} {P t:List (List Int)} (hg:Good d P) {x u v:List Int} (hxP:x∈P) (htP:∀y∈t,y∈P) (hB:Bas d t x u v) {e:Int×Int} (he:e≠(0,0)) (hz:∃z∈P,senP d u v x z≠(0,0)∧trn (senP d u v x z) e=0)
  (hv:∀y∈P,trn (senP d u v x y) e≤0):rowE d u v x e∈rowsC P [] d P:=by
 refine wr_row hg hxP (c:=rwE u v e) ?_ (fun y hy=>?_) (fun w hw=>?_)
 ·refine Classical.byContradiction fun hn=>?_
  have:=hB.ind (-e.2) e.1 fun i hi=>by
   have:rwE u v e i=0:=Classical.byContradiction fun h=>hn ⟨i,hi,h⟩
   unfold rwE trn at this
   simp only at this
   grind
  exact he (by
   obtain ⟨a,b⟩:=e
   simp at this
   simp; omega)
 ·have:=rw_sen d u v e x y
  have:=hv y hy
  omega
 ·obtain ⟨r,a,b,hr0,hrw⟩:=hB.spn w fun y hy=>hw y (htP y hy) (by
   have h1:=rw_sen d u v e x y
   rw [hB.sen hy] at h1
   unfold trn at h1
   simp at h1
   omega)
  obtain ⟨z,hzP,hz0,hzt⟩:=hz
  have h1:=comb_sen (x:=x) hrw z
  rw [hw z hzP (by have:=rw_sen d u v e x z; omega),Int.sub_self,Int.mul_zero] at h1
  obtain ⟨s0,s1⟩:Int×Int:=senP d u v x z
  generalize hs:senP d u v x z=s at *
  obtain ⟨s0,s1⟩:=s
  obtain ⟨e0,e1⟩:=e
  unfold trn at hzt
  simp only at h1 hzt
  have hab:a*e0+b*e1=0:=by
   have k0:s0*(a*e0+b*e1)=0:=by grind
   have k1:s1*(a*e0+b*e1)=0:=by grind
   rcases Int.mul_eq_zero.1 k0 with h | h
   ·rcases Int.mul_eq_zero.1 k1 with h' | h'
    ·exact absurd (by rw [h,h']) hz0
    ·exact h'
   ·exact h
  intro i j hi hj
  have p1:=hrw i hi
  have p2:=hrw j hj
  have key:r*(w i*rwE u v (e0,e1) j-w j*rwE u v (e0,e1) i)=0:=by
   have:r*(w i*rwE u v (e0,e1) j-w j*rwE u v (e0,e1) i)=(a*V u i+b*V v i)*rwE u v (e0,e1) j-(a*V u j+b*V v j)*rwE u v (e0,e1) i:=by
    rw [←p1,←p2]; grind
   rw [this]
   unfold rwE trn
   simp only
   have e3:(a*V u i+b*V v i)*(e0*V v j-e1*V u j)-(a*V u j+b*V v j)*(e0*V v i-e1*V u i)=(a*e0+b*e1)*(V u i*V v j-V u j*V v i):=by grind
   rw [e3,hab,Int.zero_mul]
  rcases Int.mul_eq_zero.1 key with h | h
  ·exact absurd h hr0
  ·omega
end Go.Proofs.YtkfdpcgmpbopnaaGreatDoor
namespace Go.Proofs.YtkfdpcgmpbopnaaGreatDoor
open Lin
def negP (s:Int×Int):Int×Int:=(-s.1,-s.2)
def offL (d:Nat) (u v x:List Int) (P:List (List Int)):List (Int×Int):=(P.map (senP d u v x)).filter fun s=>decide (s≠(0,0))
def endR (d:Nat) (u v x:List Int) (off:List (Int×Int)) (e:Int×Int):List (List Int):=if off.any (fun s=>decide (0 < trn s e))=true then [] else [rowE d u v x e]
def thrL (d:Nat) (u v x:List Int) (P:List (List Int)):List (List Int):=
 match offL d u v x P with
 | []=>[]
 | m :: l=>endR d u v x (m :: l) (mxF m l) ++ endR d u v x (m :: l) (negP (mnF m l))
theorem off_mem {d:Nat} {u v x:List Int} {P:List (List Int)} {s:Int×Int} : s∈offL d u v x P↔∃y∈P,senP d u v x y=s∧s≠(0,0):=by
 unfold offL
 rw [List.mem_filter,List.mem_map]
 simp only [decide_eq_true_eq]
 constructor
 ·rintro ⟨⟨y,hy,rfl⟩,h⟩; exact ⟨y,hy,rfl,h⟩
 ·rintro ⟨y,hy,rfl,h⟩; exact ⟨⟨y,hy,rfl⟩,h⟩
theorem two_id {a b e0 e1 s0 s1:Int} (h:a*e0+b*e1=0):(e0*e0+e1*e1)*(a*s0+b*s1)=(b*e0-a*e1)*(e0*s1-e1*s0):=by
 have k1:a*e0=-(b*e1):=by omega
 have e2:(b*e0-a*e1)*(e0*s1-e1*s0)=b*e0*e0*s1-(b*e1)*e0*s0-(a*e0)*e1*s1+a*e1*e1*s0:=by grind
 rw [e2,k1]
 have e3:(b*e1)*e0*s0=-((a*e0)*e0*s0):=by rw [k1]; grind
 grind
theorem row_prim {d:Nat} {P:List (List Int)} (hg:Good d P) {r:List Int} (hr:r∈rowsC P [] d P):r.length=d+1∧gc (r.take d)=1:=by
 obtain ⟨T,hTs,hTl,hrT⟩:=mem_rowsC.1 hr
 obtain ⟨σ,hσ,hnb,hre⟩:=rowT_form hTl hrT
 have hl:(pickL d (diffL T)).length+1=d:=of_decide_eq_true hnb
 have hal:=norm_len hnb
 refine ⟨(rowsC_fit hg.box hg.d1 (by have:=hg.d4; omega) (fun _=>Iff.rfl) hr).len,?_⟩
 have hqe:r.take d=(normL d (diffL T)).map (σ * ·):=by
  rw [hre,List.map_append,List.take_left' (by rw [List.length_map,hal])]
 rw [hqe,gc_scale,norm_gc hl]
 rcases hσ with rfl | rfl <;> rfl
theorem row_is {d:Nat} {P t:List (List Int)} (hg:Good d P) {x u v r:List Int} (hr:r∈rowsC P [] d P) (hrx:r.getD d 0=dot d (V r) (V x)) {ρ a b:Int} (hρ:ρ≠0) (hab:∀i,i < d→ρ*V r i=a*V u i+b*V v i) {e:Int×Int} (he:e≠(0,0)) (hae:a*e.1+b*e.2=0)
  (_hB:Bas d t x u v) (hv:∀y∈P,trn (senP d u v x y) e≤0):rowE d u v x e=r:=by
 obtain ⟨hrl,hrg⟩:=row_prim hg hr
 have hfit:=rowsC_fit hg.box hg.d1 (by have:=hg.d4; omega) (fun _=>Iff.rfl) hr
 have hN:=dt2_pos he
 obtain ⟨e0,e1⟩:=e
 have hq:(r.take d).length=d:=by rw [List.length_take]; omega
 obtain ⟨N,hNe⟩:∃N,N=e0*e0+e1*e1:=⟨_,rfl⟩
 obtain ⟨K,hKe⟩:∃K,K=b*e0-a*e1:=⟨_,rfl⟩
 have hN0:0 < N:=by rw [hNe]; exact hN
 have hci:∀i,i < d→N*(ρ*V r i)=K*rwE u v (e0,e1) i:=fun i hi=>by
  rw [hab i hi,hNe,hKe]
  exact two_id hae
 -- a point off the row
 obtain ⟨y,hyP,hyr⟩:∃y∈P,dot d (V r) (V y) < dot d (V r) (V x):=by
  refine Classical.byContradiction fun hn=>?_
  have hall:∀y∈P,dot d (V r) (V y)=dot d (V r) (V x):=fun y hy=>by
   have h1:=hfit.all y hy
   rw [hrx] at h1
   rcases Int.lt_or_le (dot d (V r) (V y)) (dot d (V r) (V x)) with h | h
   ·exact absurd ⟨y,hy,h⟩ hn
   ·omega
  have h0:=good_span hg (V r) (fun y hy z hz=>by rw [hall y hy,hall z hz])
  have hz:r.take d=(r.take d).map ((0:Int) * ·):=by
   refine List.ext_getElem (by simp) fun i h1 h2=>?_
   rw [List.getElem_map,List.getElem_take,Int.zero_mul]
   have:=h0 i (by omega)
   unfold V at this
   rw [List.getD_eq_getElem?_getD,List.getElem?_eq_getElem (by omega)] at this
   exact this
  rw [hz,gc_scale] at hrg
  simp at hrg
 have hsy:N*(ρ*(dot d (V r) (V y)-dot d (V r) (V x)))=K*trn (senP d u v x y) (e0,e1):=by
  rw [comb_sen (x:=x) hab y,hNe,hKe]
  exact two_id hae
 have hty:=hv y hyP
 have hKρ:0 < K*ρ:=by
  obtain ⟨D,hD⟩:∃D,D=dot d (V r) (V x)-dot d (V r) (V y):=⟨_,rfl⟩
  obtain ⟨T,hT⟩:∃T,T=- trn (senP d u v x y) (e0,e1):=⟨_,rfl⟩
  have hD0:0 < D:=by omega
  have hT0:0≤T:=by omega
  have e1':N*(ρ*D)=K*T:=by
   have:dot d (V r) (V y)-dot d (V r) (V x)=-D:=by omega
   rw [this] at hsy
   have:trn (senP d u v x y) (e0,e1)=-T:=by omega
   rw [this] at hsy
   grind
  have hρ2:0 < ρ*ρ:=by
   rcases Int.lt_or_gt_of_ne hρ with h | h
   ·exact Int.mul_pos_of_neg_of_neg h h
   ·exact Int.mul_pos h h
  have e2':N*((ρ*ρ)*D)=(K*ρ)*T:=by grind
  have hl0:0 < N*((ρ*ρ)*D):=Int.mul_pos hN0 (Int.mul_pos hρ2 hD0)
  rcases Int.lt_or_le 0 (K*ρ) with h | h
  ·exact h
  ·exfalso
   have:=Int.mul_nonneg (show 0≤-(K*ρ) by omega) hT0
   have e3' : -(K*ρ)*T=-((K*ρ)*T):=by grind
   omega
 have hρ2:0 < ρ*ρ:=by
  rcases Int.lt_or_gt_of_ne hρ with h | h
  ·exact Int.mul_pos_of_neg_of_neg h h
  ·exact Int.mul_pos h h
 have hlow:=prim_low (c:=rwE u v (e0,e1)) (q:=r.take d) hq hrg hKρ (Int.mul_pos hN0 hρ2) (fun i hi=>by
  rw [V_take hi]
  have:=hci i hi
  grind) (by
  refine Classical.byContradiction fun hn=>?_
  have h0:∀i,i < d→rwE u v (e0,e1) i=0:=fun i hi=>Classical.byContradiction fun h=>hn ⟨i,hi,h⟩
  have:=rw_sen d u v (e0,e1) x y
  rw [dot_zero h0,dot_zero h0] at this
  have h3:N*(ρ*(dot d (V r) (V y)-dot d (V r) (V x)))=0:=by rw [hsy,←this]; simp
  rcases Int.mul_eq_zero.1 h3 with h | h
  ·omega
  ·rcases Int.mul_eq_zero.1 h with h | h <;> omega)
 unfold rowE
 rw [show rwA d u v (e0,e1)=r.take d from hlow]
 have hlast:dotL (r.take d) x=r.getD d 0:=by
  rw [dotL_eq hq,hrx]
  exact dot_congr (fun i hi=>V_take hi) (fun _ _=>rfl)
 rw [hlast]
 have h1:=List.take_succ_eq_append_getElem (l:=r) (i:=d) (by omega)
 rw [List.take_of_length_le (by omega)] at h1
 rw [show r.getD d 0=r[d] by simp [show d < r.length by omega]]
 exact h1.symm
theorem wr_end {d:Nat} {P t:List (List Int)} (hg:Good d P) {x u v r:List Int} (hB:Bas d t x u v) (hr:r∈rowsC P [] d P) (hrx:r.getD d 0=dot d (V r) (V x)) {ρ a b:Int} (hρ:ρ≠0) (hab:∀i,i < d→ρ*V r i=a*V u i+b*V v i)
  {z:List Int} (hz:z∈P) (hzr:r.getD d 0=dot d (V r) (V z)) (hz0:senP d u v x z≠(0,0))
  (hray:∀y∈P,senP d u v x y≠(0,0)→r.getD d 0=dot d (V r) (V y)→0 < dt2 (senP d u v x y) (senP d u v x z)):r∈thrL d u v x P:=by
 have hfit:=rowsC_fit hg.box hg.d1 (by have:=hg.d4; omega) (fun _=>Iff.rfl) hr
 have hezm:senP d u v x z∈offL d u v x P:=off_mem.2 ⟨z,hz,rfl,hz0⟩
 have hN:=dt2_pos hz0
 have haz:a*(senP d u v x z).1+b*(senP d u v x z).2=0:=by
  rw [←comb_sen (x:=x) hab z,←hzr,←hrx,Int.sub_self,Int.mul_zero]
 obtain ⟨ez,hez⟩:∃ez,ez=senP d u v x z:=⟨_,rfl⟩
 rw [←hez] at hezm hN haz hray hz0
 obtain ⟨K,hK⟩:∃K,K=b*ez.1-a*ez.2:=⟨_,rfl⟩
 have hid:∀y,dt2 ez ez*(ρ*(dot d (V r) (V y)-dot d (V r) (V x)))=K*trn (senP d u v x y) ez:=fun y=>by
  rw [comb_sen (x:=x) hab y,hK]
  exact two_id haz
 have hK0:K≠0:=fun h0=>by
  have h1:∀y,dot d (V r) (V y)-dot d (V r) (V x)=0:=fun y=>by
   have:=hid y
   rw [h0,Int.zero_mul] at this
   rcases Int.mul_eq_zero.1 this with h | h
   ·omega
   ·rcases Int.mul_eq_zero.1 h with h | h
    ·exact absurd h hρ
    ·exact h
  have h2:=good_span hg (V r) (fun y _ z _=>by have:=h1 y; have:=h1 z; omega)
  obtain ⟨_,_,_,⟨i,hi,hne⟩,_⟩:=row_one (fun y hy=>(hg.box y hy).1) hg.d1 hr
  exact hne (h2 i hi)
 have hle:∀y∈P,dot d (V r) (V y)-dot d (V r) (V x)≤0:=fun y hy=>by have:=hfit.all y hy; omega
 -- on the row,just where it is met
 have hon:∀y∈P,trn (senP d u v x y) ez=0→r.getD d 0=dot d (V r) (V y):=fun y _ h=>by
  have:=hid y
  rw [h,Int.mul_zero] at this
  rcases Int.mul_eq_zero.1 this with h | h
  ·omega
  ·rcases Int.mul_eq_zero.1 h with h | h
   ·exact absurd h hρ
   ·omega
 have hend:∀y1∈P,∀e:Int×Int,senP d u v x y1≠(0,0)→r.getD d 0=dot d (V r) (V y1)→(e=senP d u v x y1∨e=negP (senP d u v x y1))→(∀s∈offL d u v x P,trn s e≤0)→endR d u v x (offL d u v x P) e=[r]:=fun y1 hy1 e h0 hy1r he hall=>by
  have ha1:a*(senP d u v x y1).1+b*(senP d u v x y1).2=0:=by
   rw [←comb_sen (x:=x) hab y1,←hy1r,←hrx,Int.sub_self,Int.mul_zero]
  have he0:e≠(0,0):=fun h=>by
   rcases he with h1 | h1
   ·exact h0 (by rw [←h1]; exact h)
   ·rw [h1] at h
    unfold negP at h
    simp at h
    exact h0 (Prod.ext h.1 h.2)
  have hae:a*e.1+b*e.2=0:=by
   rcases he with h1 | h1
   ·rw [h1]; exact ha1
   ·rw [h1]; unfold negP; grind
  have hrow:=row_is hg hr hrx hρ hab he0 hae hB (fun y hy=>by
   by_cases hs:senP d u v x y=(0,0)
   ·rw [hs]; unfold trn; simp
   ·exact hall _ (off_mem.2 ⟨y,hy,rfl,hs⟩))
  unfold endR
  rw [if_neg (by
   rw [List.any_eq_true]
   rintro ⟨s,hs,hs2⟩
   have:=hall s hs
   simp at hs2
   omega),hrow]
 unfold thrL
 cases hoff:offL d u v x P with
 | nil=>rw [hoff] at hezm; cases hezm
 | cons m l=>
  rw [hoff] at hend hezm
  have hsp:∀s∈m :: l,∃y∈P,senP d u v x y=s∧s≠(0,0):=fun s hs=>off_mem.1 (by rw [hoff]; exact hs)
  rcases Int.lt_or_le 0 (K*ρ) with hs | hs
  ·-- all lie to the right
   have hrt:∀s∈m :: l,RtE ez s:=fun s hs'=>by
    obtain ⟨y,hy,rfl,h0⟩:=hsp s hs'
    have h1:=hid y
    have h2:=hle y hy
    constructor
    ·rcases Int.lt_or_le 0 (trn (senP d u v x y) ez) with h | h
     ·exfalso
      have e1:dt2 ez ez*(ρ*ρ*(dot d (V r) (V y)-dot d (V r) (V x)))=(K*ρ)*trn (senP d u v x y) ez:=by grind
      have e2:=Int.mul_pos hs h
      have hρ2:0≤ρ*ρ:=by
       rcases Int.lt_or_le ρ 0 with h | h
       ·exact Int.le_of_lt (Int.mul_pos_of_neg_of_neg h h)
       ·exact Int.mul_nonneg h h
      have e3:=Int.mul_nonneg (Int.le_of_lt hN) (Int.mul_nonneg hρ2 (show 0≤-(dot d (V r) (V y)-dot d (V r) (V x)) by omega))
      have e4:dt2 ez ez*(ρ*ρ * -(dot d (V r) (V y)-dot d (V r) (V x)))=-(dt2 ez ez*(ρ*ρ*(dot d (V r) (V y)-dot d (V r) (V x)))):=by grind
      omega
     ·exact h
    ·intro h
     exact hray y hy h0 (hon y hy h)
   obtain ⟨k1,k2⟩:=mxF_max hN l m (hrt m (by simp)) (fun s hs'=>hrt s (by simp [hs']))
   have kall:∀s∈m :: l,trn s (mxF m l)≤0:=fun s hs'=>by
    rcases List.mem_cons.1 hs' with rfl | h
    ·exact k1
    ·exact k2 s h
   have hmm:mxF m l∈m :: l:=by
    rcases mxF_mem l m with h | h
    ·rw [h]; simp
    ·simp [h]
   obtain ⟨y1,hy1,hy1e,hy10⟩:=hsp _ hmm
   have h3:=(hrt _ hmm).1
   have h4:=kall ez hezm
   have h5:=trn_neg ez (mxF m l)
   have hr1:=hend y1 hy1 (mxF m l) (by rw [hy1e]; exact hy10) (hon y1 hy1 (by rw [hy1e]; omega)) (.inl hy1e.symm) kall
   simp [hr1]
  ·have hs':K*ρ < 0:=by
    have:K*ρ≠0:=Int.mul_ne_zero hK0 hρ
    omega
   have hrt:∀s∈m :: l,RtE (flp ez) (flp s):=fun s hs''=>by
    obtain ⟨y,hy,rfl,h0⟩:=hsp s hs''
    have h1:=hid y
    have h2:=hle y hy
    constructor
    ·rw [trn_flp]
     rcases Int.lt_or_le (trn (senP d u v x y) ez) 0 with h | h
     ·exfalso
      have e1:dt2 ez ez*(ρ*ρ*(dot d (V r) (V y)-dot d (V r) (V x)))=(K*ρ)*trn (senP d u v x y) ez:=by grind
      have e2:=Int.mul_pos_of_neg_of_neg hs' h
      have hρ2:0≤ρ*ρ:=by
       rcases Int.lt_or_le ρ 0 with h | h
       ·exact Int.le_of_lt (Int.mul_pos_of_neg_of_neg h h)
       ·exact Int.mul_nonneg h h
      have e3:=Int.mul_nonneg (Int.le_of_lt hN) (Int.mul_nonneg hρ2 (show 0≤-(dot d (V r) (V y)-dot d (V r) (V x)) by omega))
      have e4:dt2 ez ez*(ρ*ρ * -(dot d (V r) (V y)-dot d (V r) (V x)))=-(dt2 ez ez*(ρ*ρ*(dot d (V r) (V y)-dot d (V r) (V x)))):=by grind
      omega
     ·omega
    ·intro h
     rw [trn_flp] at h
     have:=hray y hy h0 (hon y hy (by omega))
     unfold dt2 flp at *
     simp only at *
     grind
   have hN2:0 < dt2 (flp ez) (flp ez):=by unfold dt2 flp at *; simp only at *; grind
   obtain ⟨k1,k2⟩:=mxF_max hN2 (l.map flp) (flp m) (hrt m (by simp)) (fun s hs''=>by
    obtain ⟨q,hq,rfl⟩:=List.mem_map.1 hs''
    exact hrt q (by simp [hq]))
   rw [←mn_mx] at k1 k2
   have kall:∀s∈m :: l,0≤trn s (mnF m l):=fun s hs''=>by
    rcases List.mem_cons.1 hs'' with rfl | h
    ·rw [trn_flp] at k1; omega
    ·have:=k2 (flp s) (List.mem_map.2 ⟨s,h,rfl⟩)
     rw [trn_flp] at this; omega
   have hmm:mnF m l∈m :: l:=by
    rcases mnF_mem l m with h | h
    ·rw [h]; simp
    ·simp [h]
   obtain ⟨y1,hy1,hy1e,hy10⟩:=hsp _ hmm
   have h3:=(hrt _ hmm).1
   rw [trn_flp] at h3
   have h4:=kall ez hezm
   have h5:=trn_neg ez (mnF m l)
   have hr1:=hend y1 hy1 (negP (mnF m l)) (by rw [hy1e]; exact hy10) (hon y1 hy1 (by rw [hy1e]; omega)) (.inr (by rw [hy1e])) (fun s hs''=>by
    have:=kall s hs''
    have e:=trn_op s (mnF m l)
    unfold negP
    omega)
   simp [hr1]
end Go.Proofs.YtkfdpcgmpbopnaaGreatDoor
namespace Go.Proofs.YtkfdpcgmpbopnaaGreatDoor
open Lin
def drpJ (j:Nat) (y:List Int):List Int:=y.take j ++ y.drop (j+1)
def lftJ (j:Nat) (w:Nat→Int):Nat→Int:=fun i=>if i < j then w i else if i=j then 0 else w (i-1)
theorem drpJ_len {d j:Nat} {y:List Int} (hy:y.length=d+1) (hj:j < d+1):(drpJ j y).length=d:=by
 unfold drpJ
 rw [List.length_append,List.length_take,List.length_drop]
 omega
theorem drpJ_at {d j i:Nat} {y:List Int} (hy:y.length=d+1) (hj:j < d+1) (_hi:i < d):V (drpJ j y) i=if i < j then V y i else V y (i+1):=by
 unfold V drpJ
 by_cases h:i < j
 ·rw [if_pos h,List.getD_eq_getElem?_getD,List.getElem?_append_left (by rw [List.length_take]; omega),List.getElem?_take_of_lt h,←List.getD_eq_getElem?_getD]
 ·rw [if_neg h,List.getD_eq_getElem?_getD,List.getElem?_append_right (by rw [List.length_take]; omega),List.length_take,List.getElem?_drop,←List.getD_eq_getElem?_getD]
  congr 1
  omega
theorem sumN_split (f:Nat→Int) (j:Nat):∀d,j < d+1→sumN (d+1) f=(sumN d fun i=>if i < j then f i else f (i+1))+f j
 | 0,h=>by
  have:j=0:=by omega
  subst this
  simp [sumN]
 | d+1,h=>by
  have e1:sumN (d+1+1) f=sumN (d+1) f+f (d+1):=rfl
  have e2:(sumN (d+1) fun i=>if i < j then f i else f (i+1))=(sumN d fun i=>if i < j then f i else f (i+1))+(if d < j then f d else f (d+1)):=rfl
  by_cases hj:j < d+1
  ·rw [e1,e2,sumN_split f j d hj,if_neg (by omega)]
   omega
  ·have hj2:j=d+1:=by omega
   subst hj2
   rw [e1,e2,if_pos (by omega)]
   have e3:sumN (d+1) f=sumN d f+f d:=rfl
   rw [e3]
   have e4:(sumN d fun i=>if i < d+1 then f i else f (i+1))=sumN d f:=sumN_congr fun i hi=>by rw [if_pos (by omega)]
   rw [e4]
theorem lft_dot {d j:Nat} (hj:j < d+1) (w:Nat→Int) {y:List Int} (hy:y.length=d+1):dot (d+1) (lftJ j w) (V y)=dot d w (V (drpJ j y)):=by
 unfold dot
 rw [sumN_split _ j d hj]
 have e0:lftJ j w j*V y j=0:=by unfold lftJ; simp
 rw [e0,Int.add_zero]
 refine sumN_congr fun i hi=>?_
 rw [drpJ_at hy hj hi]
 by_cases h:i < j
 ·rw [if_pos h,if_pos h]
  unfold lftJ
  rw [if_pos h]
 ·rw [if_neg h,if_neg h]
  unfold lftJ
  rw [if_neg (by omega),if_neg (by omega),Nat.add_sub_cancel]
theorem lft_zero {d j:Nat} (_hj:j < d+1) {w:Nat→Int} (h:∀i,i < d+1→lftJ j w i=0):∀i,i < d→w i=0:=fun i hi=>by
 by_cases hij:i < j
 ·have:=h i (by omega)
  unfold lftJ at this
  rw [if_pos hij] at this
  exact this
 ·have:=h (i+1) (by omega)
  unfold lftJ at this
  rw [if_neg (by omega),if_neg (by omega),Nat.add_sub_cancel] at this
  exact this
theorem few_orthW {d:Nat} {m:List (List Int)} (h:m.length < d):∃v:Nat→Int,(∃i,i < d∧v i≠0)∧∀r∈m,dot d (V r) v=0:=by
 refine Classical.byContradiction fun hn=>?_
 have hg:=pick_greedy d m
 have hall:∀v:Nat→Int,(∀r∈fm m,dot d r v=0)→∀i,i < d→v i=0:=fun v hv i hi=>by
  refine Classical.byContradiction fun hne=>hn ⟨v,⟨i,hi,hne⟩,fun r hr=>hv (V r) (mem_fm.2 ⟨r,hr,rfl⟩)⟩
 have hl:=(greedy_full hg).2 hall
 rw [fm_length] at hl
 have:=(pickL_sub d m).length_le
 omega
theorem greedy_orth {d:Nat} {L H:List (Nat→Int)} (hg:Greedy d L H) {v:Nat→Int} (h:∀r∈H,dot d r v=0):∀r∈L,dot d r v=0:=fun r hr=>dot_dep (hg.dep r hr) (fun _ hi=>h _ (row_mem hi))
def FlatOk (d:Nat) (t:List (List Int)):Prop:=(pickL d (diffL t)).length+2=d
theorem wr_flat {d:Nat} {P:List (List Int)} (hg:Good (d+1) P) (hd:1≤d) {r:List Int} (hr:r∈rowsC P [] (d+1) P) :
  ∃t:List (List Int),t.Sublist P∧t.length=d∧FlatOk (d+1) t∧(∀y∈t,r.getD (d+1) 0=dot (d+1) (V r) (V y))∧
   ∃h:Nat→Int,(∀y∈t,dot (d+1) h (V y)=dot (d+1) h (V (t.getD 0 [])))∧(∀y∈P,r.getD (d+1) 0=dot (d+1) (V r) (V y)→dot (d+1) h (V y)≤dot (d+1) h (V (t.getD 0 [])))∧¬Par (d+1) h (V r):=by
 have hlen:∀y∈P,y.length=d+1:=fun y hy=>(hg.box y hy).1
 obtain ⟨t0,ht0,ht0m,⟨j,hj,hjne⟩,huni⟩:=row_one hlen hg.d1 hr
 obtain ⟨F,hF⟩:∃F,F=P.filter fun y=>decide (r.getD (d+1) 0=dot (d+1) (V r) (V y)):=⟨_,rfl⟩
 have hFm:∀y,y∈F↔y∈P∧r.getD (d+1) 0=dot (d+1) (V r) (V y):=fun y=>by rw [hF]; simp
 have hFs:F.Sublist P:=by rw [hF]; exact List.filter_sublist
 have hFl:∀y∈F,y.length=d+1:=fun y hy=>hlen y ((hFm y).1 hy).1
 have hFu:∀u:Nat→Int,(∀y∈F,∀z∈F,dot (d+1) u (V y)=dot (d+1) u (V z))→Par (d+1) u (V r):=fun u hu=>huni u fun y hy=>hu y ((hFm y).2 (ht0 y hy)) _ ((hFm _).2 (ht0 _ ht0m))
 have hbox:Box d 30 (F.map (drpJ j)):=fun y hy=>by
  obtain ⟨q,hq,rfl⟩:=List.mem_map.1 hy
  refine ⟨drpJ_len (hFl q hq) hj,fun z hz=>?_⟩
  have hb:=(hg.box q ((hFm q).1 hq).1).2
  unfold drpJ at hz
  rcases List.mem_append.1 hz with h | h
  ·exact hb z (List.mem_of_mem_take h)
  ·exact hb z (List.mem_of_mem_drop h)
 have hfull:(pickL d (diffL (F.map (drpJ j)))).length=d:=full_of_span (fun y hy=>(hbox y hy).1) fun c hc=>by
  refine lft_zero hj fun i hi=>?_
  have hp:=hFu (lftJ j c) (fun y hy z hz=>by
   rw [lft_dot hj c (hFl y hy),lft_dot hj c (hFl z hz)]
   exact hc _ (List.mem_map.2 ⟨y,hy,rfl⟩) _ (List.mem_map.2 ⟨z,hz,rfl⟩)) i j hi hj
  have:lftJ j c j=0:=by unfold lftJ; simp
  rw [this,Int.zero_mul] at hp
  rcases Int.mul_eq_zero.1 hp with h | h
  ·exact h
  ·exact absurd h hjne
 have hn2:2≤(F.map (drpJ j)).length:=by
  have:=pickL_len d (diffL (F.map (drpJ j)))
  rw [diffL_length] at this
  omega
 have hgF:Good d (F.map (drpJ j)):=⟨hd,by have:=hg.d4; omega,hn2,by rw [List.length_map]; exact Nat.le_trans hFs.length_le hg.n24,hbox,hfull⟩
 obtain ⟨r',hr'⟩:=row_some hgF
 have hfit:=rowsC_fit hgF.box hgF.d1 (by have:=hgF.d4; omega) (fun _=>Iff.rfl) hr'
 obtain ⟨t',hts',htl',hrt'⟩:=mem_rowsC.1 hr'
 obtain ⟨t,hts,htm⟩:=List.sublist_map_iff.1 hts'
 have htl:t.length=d:=by rw [←htl',htm,List.length_map]
 have htF:∀y∈t,y∈F:=fun y hy=>hts.subset hy
 have ht0m:t.getD 0 []∈t:=by simp [show 0 < t.length by omega]
 have htd:∀i,(t'.getD i [])=if i < t.length then drpJ j (t.getD i []) else []:=fun i=>by
  rw [htm]
  by_cases h:i < t.length
  ·simp [h]
  ·simp [h]
 -- what t' says
 obtain ⟨σ,hσ,hnb,hre⟩:=rowT_form htl' hrt'
 have hl':(pickL d (diffL t')).length+1=d:=of_decide_eq_true hnb
 have hal:=norm_len hnb
 obtain ⟨⟨p,hp,hpne⟩,hn1,hn2'⟩:=norm_spec hl'
 have hσ0:σ≠0:=by rcases hσ with rfl | rfl <;> decide
 have hVr:∀i,i < d→V r' i=σ*V (normL d (diffL t')) i:=fun i hi=>by
  rw [hre]
  have h:=V_map (normL d (diffL t') ++ [dotL (normL d (diffL t')) (t'.getD 0 [])]) σ i
  rw [h,(row_app hal).2.2.2 i hi]
 have hlast:r'.getD d 0=σ*dotL (normL d (diffL t')) (t'.getD 0 []):=by
  rw [hre]
  have h:=V_map (normL d (diffL t') ++ [dotL (normL d (diffL t')) (t'.getD 0 [])]) σ d
  simp only [V] at h
  rw [h,(row_app hal).2.2.1]
 have hdr:∀x:Nat→Int,dot d (V r') x=σ*dot d (V (normL d (diffL t'))) x:=fun x=>by
  unfold dot
  rw [←sumN_mul]
  exact sumN_congr fun i hi=>by rw [hVr i hi,Int.mul_assoc]
 have hks:∀y∈t',dot d (V (normL d (diffL t'))) (V y)=dot d (V (normL d (diffL t'))) (V (t'.getD 0 [])):=fun y hy=>by
  rcases mem_head_drop hy with e | hy'
  ·rw [←e]
  ·have h1:=hn1 (subL y (t'.getD 0 [])) (List.mem_map.2 ⟨y,hy',rfl⟩)
   rw [dot_comm,dot_subL _ (hbox y (hts'.subset hy)).1] at h1
   omega
 have htm0:t'.getD 0 []=drpJ j (t.getD 0 []):=by rw [htd 0,if_pos (by omega)]
 have hmt:∀y∈t,dot d (V r') (V (drpJ j y))=r'.getD d 0:=fun y hy=>by
  have hy':drpJ j y∈t':=by rw [htm]; exact List.mem_map.2 ⟨y,hy,rfl⟩
  rw [hdr,hks _ hy',hlast,dotL_eq hal]
 refine ⟨t,hts.trans hFs,htl,?_,fun y hy=>((hFm y).1 (htF y hy)).2,lftJ j (V r'),fun y hy=>?_,fun y hy hyr=>?_,fun hpar=>?_⟩
 ·-- independent
  unfold FlatOk
  have hle:=pickL_len (d+1) (diffL t)
  rw [diffL_length,htl] at hle
  have hge:d-1≤(pickL (d+1) (diffL t)).length:=by
   refine Classical.byContradiction fun hn=>?_
   have hgr:=pick_greedy (d+1) (diffL t)
   -- a direction that is across what is picked,and across the normal
   have hsubm:∀q∈pickL (d+1) (diffL t),∃y∈t,q=subL y (t.getD 0 []):=fun q hq=>by
    have:=(pickL_sub (d+1) (diffL t)).subset hq
    simp only [diffL,List.mem_map] at this
    obtain ⟨y,hy,rfl⟩:=this
    exact ⟨y,List.mem_of_mem_drop hy,rfl⟩
   obtain ⟨w,⟨i,hi,hine⟩,hw⟩:=few_orthW (d:=d) (m:=(pickL (d+1) (diffL t)).map (drpJ j) ++ [normL d (diffL t')]) (by rw [List.length_append,List.length_map,List.length_singleton]; omega)
   have hsl:∀y∈t,(subL y (t.getD 0 [])).length=d+1:=fun y hy=>by
    unfold subL
    simp [hFl y (htF y hy)]
   have hwl:∀q∈fm (pickL (d+1) (diffL t)),dot (d+1) q (lftJ j w)=0:=fun q hq=>by
    obtain ⟨l,hl,rfl⟩:=mem_fm.1 hq
    obtain ⟨y,hy,rfl⟩:=hsubm l hl
    rw [dot_comm,lft_dot hj w (hsl y hy),dot_comm]
    exact hw _ (List.mem_append_left _ (List.mem_map.2 ⟨_,hl,rfl⟩))
   have hall:∀q∈fm (diffL t),dot (d+1) q (lftJ j w)=0:=fun q hq=>greedy_orth hgr hwl q hq
   have hpw:=hn2' w fun q hq=>by
    simp only [diffL,List.mem_map] at hq
    obtain ⟨y',hy',rfl⟩:=hq
    have hy't:=List.mem_of_mem_drop hy'
    rw [htm] at hy't
    obtain ⟨y,hy,rfl⟩:=List.mem_map.1 hy't
    have h1:dot (d+1) (lftJ j w) (V y)=dot (d+1) (lftJ j w) (V (t.getD 0 [])):=by
     rcases mem_head_drop hy with e | hyd
     ·rw [←e]
     ·have:=hall (V (subL y (t.getD 0 []))) (mem_fm.2 ⟨_,List.mem_map.2 ⟨y,hyd,rfl⟩,rfl⟩)
      rw [dot_comm,dot_subL _ (hFl y (htF y hy))] at this
      omega
    rw [dot_comm,dot_subL _ (drpJ_len (hFl y (htF y hy)) hj),htm0,←lft_dot hj w (hFl y (htF y hy)),←lft_dot hj w (hFl _ (htF _ ht0m)),h1]
    omega
   have hwn:=hw (normL d (diffL t')) (by simp)
   -- parallel and across: nothing
   have hnn:=dot_pos (d:=d) (a:=V (normL d (diffL t'))) ⟨p,hp,hpne⟩
   have:dot d (V (normL d (diffL t'))) (V (normL d (diffL t')))*w i=V (normL d (diffL t')) i*dot d (V (normL d (diffL t'))) w:=by
    unfold dot
    rw [←sumN_mul_right,←sumN_mul]
    refine sumN_congr fun k hk=>?_
    have:=hpw i k hi hk
    grind
   rw [hwn,Int.mul_zero] at this
   rcases Int.mul_eq_zero.1 this with h | h
   ·omega
   ·exact hine h
  omega
 ·rw [lft_dot hj _ (hFl y (htF y hy)),lft_dot hj _ (hFl _ (htF _ ht0m)),hmt y hy,hmt _ ht0m]
 ·have hyF:y∈F:=(hFm y).2 ⟨hy,hyr⟩
  rw [lft_dot hj _ (hFl y hyF),lft_dot hj _ (hFl _ (htF _ ht0m)),hmt _ ht0m]
  exact hfit.all _ (List.mem_map.2 ⟨y,hyF,rfl⟩)
 ·have h0:∀i,i < d+1→lftJ j (V r') i=0:=fun i hi=>by
   have:=hpar i j hi hj
   have e:lftJ j (V r') j=0:=by unfold lftJ; simp
   rw [e,Int.zero_mul] at this
   rcases Int.mul_eq_zero.1 this with h | h
   ·exact h
   ·exact absurd h hjne
  have:=lft_zero hj h0 p hp
  rw [hVr p hp] at this
  rcases Int.mul_eq_zero.1 this with h | h
  ·exact hσ0 h
  ·exact hpne h
end Go.Proofs.YtkfdpcgmpbopnaaGreatDoor
namespace Go.Proofs.YtkfdpcgmpbopnaaGreatDoor
open Lin
theorem wr_complete {d:Nat} {P:List (List Int)} (hg:Good (d+1) P) (hd:1≤d) {r:List Int} (hr:r∈rowsC P [] (d+1) P) :
  ∃t:List (List Int),t.Sublist P∧t.length=d∧FlatOk (d+1) t∧∀u v,Bas (d+1) t (t.getD 0 []) u v→r∈thrL (d+1) u v (t.getD 0 []) P:=by
 obtain ⟨t,hts,htl,hfl,htr,h,hht,hhF,hhn⟩:=wr_flat hg hd hr
 refine ⟨t,hts,htl,hfl,fun u v hB=>?_⟩
 have ht0:t.getD 0 []∈t:=by simp [show 0 < t.length by omega]
 obtain ⟨x,hx⟩:∃x,x=t.getD 0 []:=⟨_,rfl⟩
 rw [←hx] at hB hht hhF ht0 ⊢
 have hrx:=htr x ht0
 obtain ⟨ρ,a,b,hρ,hab⟩:=hB.spn (V r) fun y hy=>by rw [←htr y hy,←hrx]
 obtain ⟨ρ',a',b',hρ',hab'⟩:=hB.spn h hht
 obtain ⟨_,_,_,⟨p,hp,hpne⟩,_⟩:=row_one (fun y hy=>(hg.box y hy).1) hg.d1 hr
 obtain ⟨T,hTF,hT0,_,huni⟩:=row_one (fun y hy=>(hg.box y hy).1) hg.d1 hr
 -- the directions are not one
 have hdet:a*b'-b*a'≠0:=fun h0=>hhn fun i j hi hj=>by
  have p1:=hab i hi
  have p2:=hab j hj
  have q1:=hab' i hi
  have q2:=hab' j hj
  have key:(ρ'*ρ)*(h i*V r j-h j*V r i)=0:=by
   have e1:(ρ'*ρ)*(h i*V r j-h j*V r i)=(ρ'*h i)*(ρ*V r j)-(ρ'*h j)*(ρ*V r i):=by grind
   rw [e1,q1,q2,p1,p2]
   have e2:(a'*V u i+b'*V v i)*(a*V u j+b*V v j)-(a'*V u j+b'*V v j)*(a*V u i+b*V v i)=(a*b'-b*a')*(V u j*V v i-V u i*V v j):=by grind
   rw [e2,h0,Int.zero_mul]
  rcases Int.mul_eq_zero.1 key with h1 | h1
  ·exact absurd h1 (Int.mul_ne_zero hρ' hρ)
  ·omega
 -- on the row,off the flat: the direction is below
 have hneg:∀y∈P,r.getD (d+1) 0=dot (d+1) (V r) (V y)→senP (d+1) u v x y≠(0,0)→a*(senP (d+1) u v x y).1+b*(senP (d+1) u v x y).2=0∧dot (d+1) h (V y)-dot (d+1) h (V x) < 0:=fun y hy hyr h0=>by
  have k1:a*(senP (d+1) u v x y).1+b*(senP (d+1) u v x y).2=0:=by
   rw [←comb_sen (x:=x) hab y,←hyr,←hrx,Int.sub_self,Int.mul_zero]
  have k2:=comb_sen (x:=x) hab' y
  refine ⟨k1,?_⟩
  have k3:=hhF y hy hyr
  rcases Int.lt_or_le (dot (d+1) h (V y)-dot (d+1) h (V x)) 0 with h1 | h1
  ·exact h1
  ·exfalso
   have k4:dot (d+1) h (V y)-dot (d+1) h (V x)=0:=by omega
   rw [k4,Int.mul_zero] at k2
   generalize senP (d+1) u v x y=s at *
   obtain ⟨s0,s1⟩:=s
   simp only at k1 k2
   have m0:(a*b'-b*a')*s0=0:=by grind
   have m1:(a*b'-b*a')*s1=0:=by grind
   rcases Int.mul_eq_zero.1 m0 with h2 | h2
   ·exact hdet h2
   ·rcases Int.mul_eq_zero.1 m1 with h3 | h3
    ·exact hdet h3
    ·exact h0 (by rw [h2,h3])
 -- there is one
 obtain ⟨z,hzP,hzr,hz0⟩:∃z∈P,r.getD (d+1) 0=dot (d+1) (V r) (V z)∧senP (d+1) u v x z≠(0,0):=by
  refine Classical.byContradiction fun hn=>?_
  have hall:∀y∈P,r.getD (d+1) 0=dot (d+1) (V r) (V y)→senP (d+1) u v x y=(0,0):=fun y hy hyr=>Classical.byContradiction fun h=>hn ⟨y,hy,hyr,h⟩
  have hsame:∀y∈T,dot (d+1) (V u) (V y)=dot (d+1) (V u) (V x)∧dot (d+1) (V v) (V y)=dot (d+1) (V v) (V x):=fun y hy=>by
   have:=hall y (hTF y hy).1 (hTF y hy).2
   unfold senP at this
   simp only [Prod.mk.injEq] at this
   omega
  have pu:=huni (V u) fun y hy=>by rw [(hsame y hy).1,(hsame _ hT0).1]
  have pv:=huni (V v) fun y hy=>by rw [(hsame y hy).2,(hsame _ hT0).2]
  have h1:=hB.ind (V v p) (-(V u p)) fun i hi=>by
   have e1:=pu i p hi hp
   have e2:=pv i p hi hp
   have:V r p*(V v p*V u i + -(V u p)*V v i)=0:=by grind
   rcases Int.mul_eq_zero.1 this with h | h
   ·exact absurd h hpne
   ·exact h
  have hu0:∀i,i < d+1→V u i=0:=fun i hi=>by
   have e1:=pu i p hi hp
   have:V u p=0:=by omega
   rw [this,Int.zero_mul] at e1
   rcases Int.mul_eq_zero.1 e1 with h | h
   ·exact h
   ·exact absurd h hpne
  have h2:=hB.ind 1 0 fun i hi=>by rw [hu0 i hi]; simp
  omega
 obtain ⟨kz1,kz2⟩:=hneg z hzP hzr hz0
 refine wr_end hg hB hr hrx hρ hab hzP hzr hz0 fun y hy hy0 hyr=>?_
 obtain ⟨ky1,ky2⟩:=hneg y hy hyr hy0
 have cz:=comb_sen (x:=x) hab' z
 have cy:=comb_sen (x:=x) hab' y
 have hN:=dt2_pos hz0
 generalize senP (d+1) u v x z=e at *
 generalize senP (d+1) u v x y=s at *
 obtain ⟨e0,e1⟩:=e
 obtain ⟨s0,s1⟩:=s
 simp only at kz1 ky1 cz cy
 unfold dt2 at hN ⊢
 simp only at hN ⊢
 have hab0:a≠0∨b≠0:=by
  rcases Int.decEq a 0 with ha | ha
  ·exact .inl ha
  ·right
   intro hb
   exact hdet (by rw [ha,hb]; simp)
 have hcr:e0*s1-e1*s0=0:=by
  have m0:a*(e0*s1-e1*s0)=0:=by grind
  have m1:b*(e0*s1-e1*s0)=0:=by grind
  rcases hab0 with h0 | h0
  ·rcases Int.mul_eq_zero.1 m0 with h | h
   ·exact absurd h h0
   ·exact h
  ·rcases Int.mul_eq_zero.1 m1 with h | h
   ·exact absurd h h0
   ·exact h
 obtain ⟨N,hNe⟩:∃N,N=e0*e0+e1*e1:=⟨_,rfl⟩
 obtain ⟨D,hDe⟩:∃D,D=e0*s0+e1*s1:=⟨_,rfl⟩
 have f0:N*s0=D*e0:=by rw [hNe,hDe]; grind
 have f1:N*s1=D*e1:=by rw [hNe,hDe]; grind
 have key:N*(ρ'*(dot (d+1) h (V y)-dot (d+1) h (V x)))=D*(ρ'*(dot (d+1) h (V z)-dot (d+1) h (V x))):=by
  rw [cy,cz]
  have g1:N*(a'*s0+b'*s1)=a'*(N*s0)+b'*(N*s1):=by grind
  rw [g1,f0,f1]; grind
 have key2:N*(dot (d+1) h (V y)-dot (d+1) h (V x))=D*(dot (d+1) h (V z)-dot (d+1) h (V x)):=by
  have:ρ'*(N*(dot (d+1) h (V y)-dot (d+1) h (V x)))=ρ'*(D*(dot (d+1) h (V z)-dot (d+1) h (V x))):=by grind
  exact Int.eq_of_mul_eq_mul_left hρ' this
 show 0 < e0*s0+e1*s1
 rw [←hDe]
 rw [←hNe] at hN
 have l1:=Int.mul_pos hN (show 0 < -(dot (d+1) h (V y)-dot (d+1) h (V x)) by omega)
 rcases Int.lt_or_le 0 D with h1 | h1
 ·exact h1
 ·exfalso
  have l2:=Int.mul_nonneg (show 0≤-D by omega) (show 0≤-(dot (d+1) h (V z)-dot (d+1) h (V x)) by omega)
  have l3 : -D * -(dot (d+1) h (V z)-dot (d+1) h (V x))=D*(dot (d+1) h (V z)-dot (d+1) h (V x)):=by grind
  have l4:N * -(dot (d+1) h (V y)-dot (d+1) h (V x))=-(N*(dot (d+1) h (V y)-dot (d+1) h (V x))):=by grind
  omega
theorem wr_in {d:Nat} {P t:List (List Int)} (hg:Good d P) {x u v:List Int} (hxP:x∈P) (htP:∀y∈t,y∈P) (hB:Bas d t x u v) {r:List Int} (hr:r∈thrL d u v x P):r∈rowsC P [] d P:=by
 unfold thrL at hr
 cases hoff:offL d u v x P with
 | nil=>rw [hoff] at hr; cases hr
 | cons m l=>
  rw [hoff] at hr
  have hsp:∀s∈m :: l,∃y∈P,senP d u v x y=s∧s≠(0,0):=fun s hs=>off_mem.1 (by rw [hoff]; exact hs)
  have key:∀e:Int×Int,(∃s∈m :: l,e=s∨e=negP s)→r∈endR d u v x (m :: l) e→r∈rowsC P [] d P:=fun e ⟨s,hs,he⟩ hre=>by
   obtain ⟨z,hz,hze,hz0⟩:=hsp s hs
   unfold endR at hre
   split at hre
   ·cases hre
   ·rename_i hany
    simp only [List.mem_singleton] at hre
    rw [hre]
    have hall:∀q∈m :: l,trn q e≤0:=fun q hq=>by
     rcases Int.lt_or_le 0 (trn q e) with h | h
     ·exact absurd (List.any_eq_true.2 ⟨q,hq,decide_eq_true h⟩) hany
     ·exact h
    have hst:trn s e=0:=by
     rcases he with rfl | rfl
     ·exact trn_self _
     ·have:=trn_op s s
      rw [trn_self] at this
      unfold negP
      omega
    have he0:e≠(0,0):=fun h=>by
     rcases he with h1 | h1
     ·exact hz0 (by rw [←h1]; exact h)
     ·rw [h1] at h
      unfold negP at h
      simp at h
      exact hz0 (Prod.ext h.1 h.2)
    refine wr_sound hg hxP htP hB he0 ⟨z,hz,by rw [hze]; exact hz0,by rw [hze]; exact hst⟩ fun y hy=>?_
    by_cases h0:senP d u v x y=(0,0)
    ·rw [h0]; unfold trn; simp
    ·exact hall _ (by rw [←hoff]; exact off_mem.2 ⟨y,hy,rfl,h0⟩)
  rcases List.mem_append.1 hr with h | h
  ·refine key _ ⟨mxF m l,?_,.inl rfl⟩ h
   rcases mxF_mem l m with h | h
   ·rw [h]; simp
   ·simp [h]
  ·refine key _ ⟨mnF m l,?_,.inr rfl⟩ h
   rcases mnF_mem l m with h | h
   ·rw [h]; simp
   ·simp [h]
end Go.Proofs.YtkfdpcgmpbopnaaGreatDoor
