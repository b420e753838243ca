import Derived.Test.YtdanomklbiidaaaGreatDoorMgAR
import Derived.Test.YtdanomklbiidaaaGreatDoorMgAI
namespace Go.Proofs.YtdanomklbiidaaaGreatDoor
open Lin
def trn (s t:Int×Int):Int:=t.1*s.2-t.2*s.1
def dt2 (s t:Int×Int):Int:=t.1*s.1+t.2*s.2
def mxF (m:Int×Int) (l:List (Int×Int)):Int×Int:=l.foldl (fun m s=>if 0 < trn s m then s else m) m
def mnF (m:Int×Int) (l:List (Int×Int)):Int×Int:=l.foldl (fun m s=>if trn s m < 0 then s else m) m
theorem trn_self (s:Int×Int):trn s s=0:=by unfold trn; grind
theorem trn_neg (s t:Int×Int):trn t s=- trn s t:=by unfold trn; grind
theorem trn_op (s t:Int×Int):trn s (-t.1,-t.2)=- trn s t:=by unfold trn; grind
theorem trn_parts (s t e:Int×Int):dt2 e e*trn s t=dt2 s e*(- trn t e)-dt2 t e*(- trn s e):=by unfold trn dt2; grind
def RtE (e s:Int×Int):Prop:=trn s e≤0∧(trn s e=0→0 < dt2 s e)
theorem dt2_pos {e:Int×Int} (h:e≠(0,0)):0 < dt2 e e:=by
 unfold dt2
 obtain ⟨a,b⟩:=e
 have h1:a≠0∨b≠0:=by
  rcases Int.decEq a 0 with ha | ha
  ·exact .inl ha
  ·right
   intro hb
   exact h (by rw [ha,hb])
 have sq:∀z:Int,0≤z*z∧(z≠0→0 < z*z):=fun z=>by
  constructor
  ·rcases Int.lt_or_le z 0 with h | h
   ·have:=Int.mul_pos_of_neg_of_neg h h; omega
   ·exact Int.mul_nonneg h h
  ·intro hz
   rcases Int.lt_or_gt_of_ne hz with h | h
   ·exact Int.mul_pos_of_neg_of_neg h h
   ·exact Int.mul_pos h h
 show 0 < a*a+b*b
 have ha:=sq a
 have hb:=sq b
 rcases h1 with h1 | h1
 ·have:=ha.2 h1; omega
 ·have:=hb.2 h1; omega
theorem rt_trans {e a b c:Int×Int} (he:0 < dt2 e e) (ha:RtE e a) (hb:RtE e b) (hc:RtE e c) (h1:trn a b≤0) (h2:0 < trn c b):trn a c≤0:=by
 have p1:=trn_parts a b e
 have p2:=trn_parts c b e
 have p3:=trn_parts a c e
 obtain ⟨a1,a2⟩:=ha
 obtain ⟨b1,b2⟩:=hb
 obtain ⟨c1,c2⟩:=hc
 have q1:dt2 e e*trn a b≤0:=Int.mul_nonpos_of_nonneg_of_nonpos (by omega) h1
 have q2:0 < dt2 e e*trn c b:=Int.mul_pos he h2
 obtain ⟨pa,hpa⟩:∃pa,pa=- trn a e:=⟨_,rfl⟩
 obtain ⟨pb,hpb⟩:∃pb,pb=- trn b e:=⟨_,rfl⟩
 obtain ⟨pc,hpc⟩:∃pc,pc=- trn c e:=⟨_,rfl⟩
 rw [←hpa,←hpb] at p1
 rw [←hpc,←hpb] at p2
 rw [←hpa,←hpc] at p3
 generalize dt2 a e=qa at *
 generalize dt2 b e=qb at *
 generalize dt2 c e=qc at *
 rw [p1] at q1
 rw [p2] at q2
 have hpa0:0≤pa:=by omega
 have hpb0:0≤pb:=by omega
 have hpc0:0≤pc:=by omega
 have hpbp:0 < pb:=by
  rcases Int.lt_or_le 0 pb with h | h
  ·exact h
  ·exfalso
   have hb0:pb=0:=by omega
   have:=b2 (by omega)
   rw [hb0,Int.mul_zero] at q2
   have:=Int.mul_nonneg (Int.le_of_lt this) hpc0
   omega
 have k1:qa*pb*pc≤qb*pa*pc:=Int.mul_le_mul_of_nonneg_right (by omega) hpc0
 have k2:qb*pc*pa≤qc*pb*pa:=Int.mul_le_mul_of_nonneg_right (by omega) hpa0
 have k3:pb*(qa*pc)≤pb*(qc*pa):=by
  have e1:pb*(qa*pc)=qa*pb*pc:=by grind
  have e2:pb*(qc*pa)=qc*pb*pa:=by grind
  have e3:qb*pa*pc=qb*pc*pa:=by grind
  omega
 have k4:=Int.le_of_mul_le_mul_left k3 hpbp
 have k5:dt2 e e*trn a c≤0:=by rw [p3]; omega
 rcases Int.lt_or_le 0 (trn a c) with h | h
 ·have:=Int.mul_pos he h; omega
 ·exact h
theorem rt_zero {e a b c:Int×Int} (he:0 < dt2 e e) (ha:RtE e a) (hb:RtE e b) (hc:RtE e c) (h1:trn a b=0) (h2:trn c b=0):trn a c=0:=by
 have p1:=trn_parts a b e
 have p2:=trn_parts c b e
 have p3:=trn_parts a c e
 obtain ⟨a1,a2⟩:=ha
 obtain ⟨b1,b2⟩:=hb
 obtain ⟨c1,c2⟩:=hc
 rw [h1,Int.mul_zero] at p1
 rw [h2,Int.mul_zero] at p2
 obtain ⟨pa,hpa⟩:∃pa,pa=- trn a e:=⟨_,rfl⟩
 obtain ⟨pb,hpb⟩:∃pb,pb=- trn b e:=⟨_,rfl⟩
 obtain ⟨pc,hpc⟩:∃pc,pc=- trn c e:=⟨_,rfl⟩
 rw [←hpa,←hpb] at p1
 rw [←hpc,←hpb] at p2
 rw [←hpa,←hpc] at p3
 generalize dt2 a e=qa at *
 generalize dt2 b e=qb at *
 generalize dt2 c e=qc at *
 have k:qa*pc-qc*pa=0:=by
  rcases Int.lt_or_le 0 pb with h | h
  ·have:pb*(qa*pc-qc*pa)=0:=by
    have e1:pb*(qa*pc-qc*pa)=(qa*pb)*pc-(qc*pb)*pa:=by grind
    have e2:qa*pb=qb*pa:=by omega
    have e3:qc*pb=qb*pc:=by omega
    rw [e1,e2,e3]; grind
   rcases Int.mul_eq_zero.1 this with h0 | h0
   ·omega
   ·exact h0
  ·have hb0:pb=0:=by omega
   have hq:=b2 (by omega)
   rw [hb0,Int.mul_zero] at p1 p2
   have e1:qb*pa=0:=by omega
   have e2:qb*pc=0:=by omega
   have f1:pa=0:=by rcases Int.mul_eq_zero.1 e1 with h | h <;> omega
   have f2:pc=0:=by rcases Int.mul_eq_zero.1 e2 with h | h <;> omega
   rw [f1,f2]; simp
 rw [k] at p3
 rcases Int.mul_eq_zero.1 p3 with h | h <;> omega
theorem mxF_mem:∀(l:List (Int×Int)) (m:Int×Int),mxF m l=m∨mxF m l∈l
 | [],m=>.inl rfl
 | s :: l,m=>by
  show mxF (if 0 < trn s m then s else m) l=m∨mxF (if 0 < trn s m then s else m) l∈s :: l
  rcases mxF_mem l (if 0 < trn s m then s else m) with h | h
  ·rw [h]
   split
   ·exact .inr (by simp)
   ·exact .inl rfl
  ·exact .inr (by simp [h])
theorem mxF_max {e:Int×Int} (he:0 < dt2 e e):∀(l:List (Int×Int)) (m:Int×Int),RtE e m→(∀s∈l,RtE e s)→trn m (mxF m l)≤0∧∀s∈l,trn s (mxF m l)≤0
 | [],m,_,_=>⟨by show trn m m≤0; rw [trn_self]; omega,fun s hs=>by cases hs⟩
 | s :: l,m,hm,hl=>by
  have hs:=hl s (by simp)
  have hl':∀x∈l,RtE e x:=fun x hx=>hl x (by simp [hx])
  have e1:mxF m (s :: l)=mxF (if 0 < trn s m then s else m) l:=rfl
  rw [e1]
  by_cases h:0 < trn s m
  ·rw [if_pos h]
   obtain ⟨k1,k2⟩:=mxF_max he l s hs hl'
   have hR:RtE e (mxF s l):=by
    rcases mxF_mem l s with h1 | h1
    ·rw [h1]; exact hs
    ·exact hl' _ h1
   refine ⟨?_,fun x hx=>?_⟩
   ·rcases Int.lt_or_le 0 (trn (mxF s l) s) with h3 | h3
    ·exact rt_trans he hm hs hR (by have:=trn_neg s m; omega) h3
    ·have e2:=trn_neg s (mxF s l)
     have h4:trn (mxF s l) s=0:=by omega
     -- both on one ray
     refine Classical.byContradiction fun hn=>?_
     have h5:0 < trn m (mxF s l):=by omega
     have h6:=rt_trans he hs hR hm (by omega) h5
     have:=trn_neg s m
     omega
   ·rcases List.mem_cons.1 hx with rfl | hx
    ·exact k1
    ·exact k2 x hx
  ·rw [if_neg h]
   obtain ⟨k1,k2⟩:=mxF_max he l m hm hl'
   have hR:RtE e (mxF m l):=by
    rcases mxF_mem l m with h1 | h1
    ·rw [h1]; exact hm
    ·exact hl' _ h1
   refine ⟨k1,fun x hx=>?_⟩
   rcases List.mem_cons.1 hx with rfl | hx
   ·rcases Int.lt_or_le 0 (trn (mxF m l) m) with h3 | h3
    ·exact rt_trans he hs hm hR (by omega) h3
    ·have e2:=trn_neg m (mxF m l)
     have h4:trn (mxF m l) m=0:=by omega
     refine Classical.byContradiction fun hn=>?_
     have h5:0 < trn x (mxF m l):=by omega
     have h6:=rt_trans he hm hR hs (by omega) h5
     have h7:=trn_neg x m
     have h8:=rt_zero he hs hm hR (by omega) h4
     omega
   ·exact k2 x hx
def flp (s:Int×Int):Int×Int:=(-s.1,s.2)
theorem trn_flp (s t:Int×Int):trn (flp s) (flp t)=- trn s t:=by unfold trn flp; grind
theorem flp_flp (s:Int×Int):flp (flp s)=s:=by unfold flp; simp
theorem mn_mx:∀(l:List (Int×Int)) (m:Int×Int),flp (mnF m l)=mxF (flp m) (l.map flp)
 | [],m=>rfl
 | s :: l,m=>by
  show flp (mnF (if trn s m < 0 then s else m) l)=mxF (if 0 < trn (flp s) (flp m) then flp s else flp m) (l.map flp)
  rw [mn_mx l]
  congr 1
  rw [trn_flp]
  by_cases h:trn s m < 0
  ·rw [if_pos h,if_pos (by omega)]
  ·rw [if_neg h,if_neg (by omega)]
theorem mnF_mem (l:List (Int×Int)) (m:Int×Int):mnF m l=m∨mnF m l∈l:=by
 have h:=mn_mx l m
 rcases mxF_mem (l.map flp) (flp m) with h1 | h1
 ·left
  rw [h1] at h
  have:=congrArg flp h
  rw [flp_flp,flp_flp] at this
  exact this
 ·right
  rw [←h] at h1
  obtain ⟨s,hs,he⟩:=List.mem_map.1 h1
  have:=congrArg flp he
  rw [flp_flp,flp_flp] at this
  rw [←this]; exact hs
end Go.Proofs.YtdanomklbiidaaaGreatDoor

namespace Go.Proofs.YtdanomklbiidaaaGreatDoor
open Lin
theorem gc_pos {l:List Int} {z:Int} (h:z∈l) (hz:z≠0):gc l≠0:=fun e=>by
 have:=gc_dvd h
 rw [e] at this
 exact hz (by simpa using this)
theorem low_mul (l:List Int):(low l).map ((gc l:Int) * ·)=l:=by
 unfold low
 rw [List.map_map]
 have:∀z∈l,(((gc l:Int) * ·)∘(· / (gc l:Int))) z=z:=fun z hz=>by
  show (gc l:Int)*(z / (gc l:Int))=z
  exact Int.mul_ediv_cancel' (gc_dvd hz)
 rw [List.map_congr_left this,List.map_id']
theorem gc_low {l:List Int} (h:gc l≠0):gc (low l)=1:=by
 have e:=gc_scale (gc l:Int) (low l)
 rw [low_mul] at e
 simp only [Int.natAbs_natCast] at e
 have h2:gc l*1=gc l*gc (low l):=by omega
 exact (Nat.eq_of_mul_eq_mul_left (Nat.pos_of_ne_zero h) h2).symm
theorem neg_scale (l:List Int):(l.map fun z=>-z)=l.map ((-1:Int) * ·):=List.map_congr_left fun z _=>by omega
theorem gc_neg (l:List Int):gc (l.map fun z=>-z)=gc l:=by
 rw [neg_scale,gc_scale]
 simp
theorem gc_upr (l:List Int):gc (upr l)=gc l:=by
 unfold upr
 split
 ·exact gc_neg l
 ·rfl
theorem gc_snoc1 {l:List Int} {b:Int} (h:gc l=1):gc (l ++ [b])=1:=by
 have hd:∀z∈l,((gc (l ++ [b]):Nat):Int) ∣ z:=fun z hz=>gc_dvd (List.mem_append_left _ hz)
 have e:(l.map (· / ((gc (l ++ [b]):Nat):Int))).map (((gc (l ++ [b]):Nat):Int) * ·)=l:=by
  rw [List.map_map]
  have:∀z∈l,((((gc (l ++ [b]):Nat):Int) * ·)∘(· / ((gc (l ++ [b]):Nat):Int))) z=z:=fun z hz=>Int.mul_ediv_cancel' (hd z hz)
  rw [List.map_congr_left this,List.map_id']
 have e2:=gc_scale ((gc (l ++ [b]):Nat):Int) (l.map (· / ((gc (l ++ [b]):Nat):Int)))
 rw [e,h] at e2
 simp only [Int.natAbs_natCast] at e2
 exact Nat.eq_one_of_mul_eq_one_right e2.symm
theorem low_one {l:List Int} (h:gc l=1):low l=l:=by
 unfold low
 rw [h]
 simp
theorem upr_or (l:List Int):upr l=l∨upr l=l.map fun z=>-z:=by
 unfold upr
 split
 ·exact Or.inr rfl
 ·exact Or.inl rfl
theorem neg_neg_map (l:List Int):(l.map fun z=>-z).map (fun z=>-z)=l:=by
 rw [List.map_map]
 have:∀z∈l,((fun z:Int=>-z)∘fun z=>-z) z=z:=fun z _=>Int.neg_neg z
 rw [List.map_congr_left this,List.map_id']
theorem prim_eq {x y:List Int} {a b:Int} (hx:gc x=1) (hy:gc y=1) (ha:a≠0) (hb:b≠0) (h:x.map (a * ·)=y.map (b * ·)):x=y∨x=y.map fun z=>-z:=by
 have e:=norm_eq ha hb h
 rw [low_one hx,low_one hy] at e
 rcases upr_or x with h1 | h1 <;> rcases upr_or y with h2 | h2
 ·exact Or.inl (by rw [←h1,e,h2])
 ·exact Or.inr (by rw [←h1,e,h2])
 ·refine Or.inr ?_
  have:(x.map fun z=>-z)=y:=by rw [←h1,e,h2]
  rw [←this,neg_neg_map]
 ·refine Or.inl ?_
  have:(x.map fun z=>-z)=y.map fun z=>-z:=by rw [←h1,e,h2]
  rw [←neg_neg_map x,this,neg_neg_map]
theorem norm_gc {d:Nat} {m:List (List Int)} (hl:(pickL d m).length+1=d):gc (normL d m)=1:=by
 obtain ⟨⟨i,hi,hne⟩,_,_⟩:=norm_spec hl
 have hnl:normL d m=upr (low (muL d (pickL d m))):=if_pos hl
 have hmem:V (normL d m) i∈normL d m:=by
  unfold V
  have hlen:(normL d m).length=d:=norm_len (by unfold normB; exact decide_eq_true hl)
  simp [show i < (normL d m).length by omega]
 have h0:=gc_pos hmem hne
 rw [hnl,gc_upr] at h0 ⊢
 refine gc_low fun e=>h0 ?_
 have hz:∀z∈muL d (pickL d m),z=0:=fun z hz=>by
  have:=gc_dvd hz
  rw [e] at this
  simpa using this
 have hl0:low (muL d (pickL d m))=muL d (pickL d m):=by
  unfold low
  have:∀z∈muL d (pickL d m),z / ((gc (muL d (pickL d m)):Nat):Int)=id z:=fun z h=>by rw [hz z h]; simp
  rw [List.map_congr_left this,List.map_id]
 rw [hl0]
 exact e
end Go.Proofs.YtdanomklbiidaaaGreatDoor

namespace Go.Proofs.YtdanomklbiidaaaGreatDoor
open Lin
def senP (d:Nat) (u v x y:List Int):Int×Int:=(dot d (V u) (V y)-dot d (V u) (V x),dot d (V v) (V y)-dot d (V v) (V x))
def rwE (u v:List Int) (e:Int×Int):Nat→Int:=fun i=>trn (V u i,V v i) e
def rwA (d:Nat) (u v:List Int) (e:Int×Int):List Int:=low ((List.range d).map (rwE u v e))
def rowE (d:Nat) (u v x:List Int) (e:Int×Int):List Int:=rwA d u v e ++ [dotL (rwA d u v e) x]
theorem rw_dot (d:Nat) (u v:List Int) (e:Int×Int) (z:Nat→Int):dot d (rwE u v e) z=trn (dot d (V u) z,dot d (V v) z) e:=by
 have:dot d (rwE u v e) z=dot d (fun k=>e.1*V v k+(-e.2)*V u k) z:=dot_congr (fun i _=>by unfold rwE trn; grind) (fun _ _=>rfl)
 rw [this,dot_lc]
 unfold trn
 grind
theorem rw_sen (d:Nat) (u v:List Int) (e:Int×Int) (x y:List Int):dot d (rwE u v e) (V y)-dot d (rwE u v e) (V x)=trn (senP d u v x y) e:=by
 rw [rw_dot,rw_dot]
 unfold senP trn
 grind
structure Bas (d:Nat) (t:List (List Int)) (x u v:List Int):Prop where
 ou:∀y∈t,dot d (V u) (V y)=dot d (V u) (V x)
 ov:∀y∈t,dot d (V v) (V y)=dot d (V v) (V x)
 ind:∀a b:Int,(∀i,i < d→a*V u i+b*V v i=0)→a=0∧b=0
 spn:∀w:Nat→Int,(∀y∈t,dot d w (V y)=dot d w (V x))→∃r a b:Int,r≠0∧∀i,i < d→r*w i=a*V u i+b*V v i
theorem Bas.sen {d:Nat} {t:List (List Int)} {x u v:List Int} (h:Bas d t x u v) {y:List Int} (hy:y∈t):senP d u v x y=(0,0):=by
 unfold senP
 rw [h.ou y hy,h.ov y hy]
 simp
theorem dot_comb {d:Nat} {u v:List Int} {w:Nat→Int} {r a b:Int} (h:∀i,i < d→r*w i=a*V u i+b*V v i) (z:Nat→Int):r*dot d w z=a*dot d (V u) z+b*dot d (V v) z:=by
 rw [←dot_lc]
 unfold dot
 rw [←sumN_mul]
 exact sumN_congr fun i hi=>by rw [←Int.mul_assoc,h i hi]
theorem comb_sen {d:Nat} {u v x:List Int} {w:Nat→Int} {r a b:Int} (h:∀i,i < d→r*w i=a*V u i+b*V v i) (y:List Int):r*(dot d w (V y)-dot d w (V x))=a*(senP d u v x y).1+b*(senP d u v x y).2:=by
 have h1:=dot_comb h (V y)
 have h2:=dot_comb h (V x)
 unfold senP
 grind
theorem low_atW (l:List Int) (i:Nat):(gc l:Int)*(low l).getD i 0=l.getD i 0:=by
 have h:=low_mul l
 have h2:=congrArg (fun m:List Int=>m.getD i 0) h
 simp only [List.getD_eq_getElem?_getD,List.getElem?_map] at h2
 simp only [List.getD_eq_getElem?_getD]
 cases hz:(low l)[i]? with
 | none=>rw [hz] at h2; simpa using h2
 | some z=>rw [hz] at h2; simpa using h2
theorem prim_low {d:Nat} {c:Nat→Int} {q:List Int} {s t:Int} (hq:q.length=d) (hg:gc q=1) (hs:0 < s) (ht:0 < t) (h:∀i,i < d→s*c i=t*V q i) (hc:∃i,i < d∧c i≠0):low ((List.range d).map c)=q:=by
 obtain ⟨L,hL⟩:∃L,L=(List.range d).map c:=⟨_,rfl⟩
 have hLl:L.length=d:=by rw [hL]; simp
 have hLi:∀i,i < d→L.getD i 0=c i:=fun i hi=>by rw [hL]; simp [hi]
 rw [←hL]
 have hlow:=low_mul L
 have hG:gc L≠0:=fun e=>by
  obtain ⟨i,hi,hne⟩:=hc
  have hm:c i∈L:=by rw [←hLi i hi]; exact getD_mem (by omega)
  have hd:=gc_dvd hm
  rw [e] at hd
  simp at hd
  exact hne hd
 have hlg:gc (low L)=1:=by
  have:=congrArg gc hlow
  rw [gc_scale,Int.natAbs_natCast] at this
  have hp:0 < gc L:=Nat.pos_of_ne_zero hG
  have h2:gc L*gc (low L)=gc L*1:=by rw [Nat.mul_one]; exact this
  exact Nat.eq_of_mul_eq_mul_left hp h2
 have hcross:(low L).map ((s*(gc L:Int)) * ·)=q.map (t * ·):=by
  refine List.ext_getElem (by rw [List.length_map,List.length_map,low_len,hLl,hq]) fun i h1 h2=>?_
  rw [List.getElem_map,List.getElem_map]
  have hi:i < d:=by rw [List.length_map,hq] at h2; exact h2
  have e1:(gc L:Int)*(low L)[i]'(by rw [low_len,hLl]; exact hi)=L[i]'(by omega):=by
   have:=congrArg (fun m:List Int=>m[i]?) hlow
   simp only [List.getElem?_map,List.getElem?_eq_getElem (show i < (low L).length by rw [low_len,hLl]; exact hi),List.getElem?_eq_getElem (show i < L.length by omega),Option.map_some,Option.some.injEq] at this
   exact this
  have e2:L[i]'(by omega)=c i:=by rw [←hLi i hi]; simp [show i < L.length by omega]
  have e3:q[i]'(by omega)=V q i:=by simp [V,show i < q.length by omega]
  rw [Int.mul_assoc,e1,e2,e3]
  exact h i hi
 have hsg:s*(gc L:Int)≠0:=Int.mul_ne_zero (by omega) (by omega)
 rcases prim_eq hlg hg hsg (by omega) hcross with e | e
 ·exact e
 ·exfalso
  obtain ⟨i,hi,hne⟩:=hc
  have e0:=low_atW L i
  rw [e] at e0
  have e1:(q.map fun z=>-z).getD i 0=- V q i:=by
   unfold V
   simp only [List.getD_eq_getElem?_getD,List.getElem?_map]
   cases q[i]? <;> simp
  rw [e1,hLi i hi] at e0
  have e2:=h i hi
  rw [←e0] at e2
  have hgp:0 < (gc L:Int):=by omega
  have e3:(s*(gc L:Int)+t)*V q i=0:=by grind
  rcases Int.mul_eq_zero.1 e3 with h0 | h0
  ·have:=Int.mul_pos hs hgp; omega
  ·rw [h0] at e0
   simp at e0
   exact hne e0.symm
theorem wr_row {d:Nat} {P:List (List Int)} (hg:Good d P) {x:List Int} (hx:x∈P) {c:Nat→Int} (hc:∃i,i < d∧c i≠0) (hmax:∀y∈P,dot d c (V y)≤dot d c (V x))
  (hone:∀u:Nat→Int,(∀y∈P,dot d c (V y)=dot d c (V x)→dot d u (V y)=dot d u (V x))→Par d u c):low ((List.range d).map c) ++ [dotL (low ((List.range d).map c)) x]∈rowsC P [] d P:=by
 obtain ⟨r,hr,hrx,s,t,hs,ht,hst⟩:=side_some hg.box (good_span hg) hx hc hmax hone
 obtain ⟨T,hTs,hTl,hrT⟩:=mem_rowsC.1 hr
 obtain ⟨σ,hσ,hnb,hre⟩:=rowT_form hTl hrT
 have hl:(pickL d (diffL T)).length+1=d:=of_decide_eq_true hnb
 have hal:=norm_len hnb
 have hgn:=norm_gc hl
 have hrl:r.length=d+1:=(rowsC_fit hg.box hg.d1 (by have:=hg.d4; omega) (fun _=>Iff.rfl) hr).len
 have hq:(r.take d).length=d:=by rw [List.length_take]; omega
 have hqe:r.take d=(normL d (diffL T)).map (σ * ·):=by
  rw [hre,List.map_append,List.take_left' (by rw [List.length_map,hal])]
 have hqg:gc (r.take d)=1:=by
  rw [hqe,gc_scale,hgn]
  rcases hσ with rfl | rfl <;> rfl
 have hlow:=prim_low (c:=c) (q:=r.take d) hq hqg hs ht (fun i hi=>by rw [hst i hi,V_take hi]) hc
 rw [hlow]
 have hlast:dotL (r.take d) x=r.getD d 0:=by
  rw [dotL_eq hq,hrx]
  exact dot_congr (fun i hi=>V_take hi) (fun _ _=>rfl)
 have:r.take d ++ [dotL (r.take d) x]=r:=by
  rw [hlast]
  have h1:=List.take_succ_eq_append_getElem (l:=r) (i:=d) (by omega)
  rw [List.take_of_length_le (by omega)] at h1
  rw [show r.getD d 0=r[d] by simp [show d < r.length by omega]]
  exact h1.symm
 rw [this]
 exact hr
theorem wr_sound {d:Nat} {P t:List (List Int)} (hg:Good d P) {x u v:List Int} (hxP:x∈P) (htP:∀y∈t,y∈P) (hB:Bas d t x u v) {e:Int×Int} (he:e≠(0,0)) (hz:∃z∈P,senP d u v x z≠(0,0)∧trn (senP d u v x z) e=0)
  (hv:∀y∈P,trn (senP d u v x y) e≤0):rowE d u v x e∈rowsC P [] d P:=by
 refine wr_row hg hxP (c:=rwE u v e) ?_ (fun y hy=>?_) (fun w hw=>?_)
 ·refine Classical.byContradiction fun hn=>?_
  have:=hB.ind (-e.2) e.1 fun i hi=>by
   have:rwE u v e i=0:=Classical.byContradiction fun h=>hn ⟨i,hi,h⟩
   unfold rwE trn at this
   simp only at this
   grind
  exact he (by
   obtain ⟨a,b⟩:=e
   simp at this
   simp; omega)
 ·have:=rw_sen d u v e x y
  have:=hv y hy
  omega
 ·obtain ⟨r,a,b,hr0,hrw⟩:=hB.spn w fun y hy=>hw y (htP y hy) (by
   have h1:=rw_sen d u v e x y
   rw [hB.sen hy] at h1
   unfold trn at h1
   simp at h1
   omega)
  obtain ⟨z,hzP,hz0,hzt⟩:=hz
  have h1:=comb_sen (x:=x) hrw z
  rw [hw z hzP (by have:=rw_sen d u v e x z; omega),Int.sub_self,Int.mul_zero] at h1
  obtain ⟨s0,s1⟩:Int×Int:=senP d u v x z
  generalize hs:senP d u v x z=s at *
  obtain ⟨s0,s1⟩:=s
  obtain ⟨e0,e1⟩:=e
  unfold trn at hzt
  simp only at h1 hzt
  have hab:a*e0+b*e1=0:=by
   have k0:s0*(a*e0+b*e1)=0:=by grind
   have k1:s1*(a*e0+b*e1)=0:=by grind
   rcases Int.mul_eq_zero.1 k0 with h | h
   ·rcases Int.mul_eq_zero.1 k1 with h' | h'
    ·exact absurd (by rw [h,h']) hz0
    ·exact h'
   ·exact h
  intro i j hi hj
  have p1:=hrw i hi
  have p2:=hrw j hj
  have key:r*(w i*rwE u v (e0,e1) j-w j*rwE u v (e0,e1) i)=0:=by
   have:r*(w i*rwE u v (e0,e1) j-w j*rwE u v (e0,e1) i)=(a*V u i+b*V v i)*rwE u v (e0,e1) j-(a*V u j+b*V v j)*rwE u v (e0,e1) i:=by
    rw [←p1,←p2]; grind
   rw [this]
   unfold rwE trn
   simp only
   have e3:(a*V u i+b*V v i)*(e0*V v j-e1*V u j)-(a*V u j+b*V v j)*(e0*V v i-e1*V u i)=(a*e0+b*e1)*(V u i*V v j-V u j*V v i):=by grind
   rw [e3,hab,Int.zero_mul]
  rcases Int.mul_eq_zero.1 key with h | h
  ·exact absurd h hr0
  ·omega
end Go.Proofs.YtdanomklbiidaaaGreatDoor
