import Derived.Test.YtcoeneldaohpnaaGreatMgAS
namespace Go.Proofs.YtcoeneldaohpnaaGreat
open Lin
def senP (d:Nat) (u v x y:List Int):Int×Int:=(dot d (V u) (V y)-dot d (V u) (V x),dot d (V v) (V y)-dot d (V v) (V x))
def rwE (u v:List Int) (e:Int×Int):Nat→Int:=fun i=>trn (V u i,V v i) e
def rwA (d:Nat) (u v:List Int) (e:Int×Int):List Int:=low ((List.range d).map (rwE u v e))
def rowE (d:Nat) (u v x:List Int) (e:Int×Int):List Int:=rwA d u v e ++ [dotL (rwA d u v e) x]
theorem rw_dot (d:Nat) (u v:List Int) (e:Int×Int) (z:Nat→Int):dot d (rwE u v e) z=trn (dot d (V u) z,dot d (V v) z) e:=by
 have:dot d (rwE u v e) z=dot d (fun k=>e.1*V v k+(-e.2)*V u k) z:=dot_congr (fun i _=>by unfold rwE trn; grind) (fun _ _=>rfl)
 rw [this,dot_lc]
 unfold trn
 grind
theorem rw_sen (d:Nat) (u v:List Int) (e:Int×Int) (x y:List Int):dot d (rwE u v e) (V y)-dot d (rwE u v e) (V x)=trn (senP d u v x y) e:=by
 rw [rw_dot,rw_dot]
 unfold senP trn
 grind
structure Bas (d:Nat) (t:List (List Int)) (x u v:List Int):Prop where
 ou:∀y∈t,dot d (V u) (V y)=dot d (V u) (V x)
 ov:∀y∈t,dot d (V v) (V y)=dot d (V v) (V x)
 ind:∀a b:Int,(∀i,i < d→a*V u i+b*V v i=0)→a=0∧b=0
 spn:∀w:Nat→Int,(∀y∈t,dot d w (V y)=dot d w (V x))→∃r a b:Int,r≠0∧∀i,i < d→r*w i=a*V u i+b*V v i
theorem Bas.sen {d:Nat} {t:List (List Int)} {x u v:List Int} (h:Bas d t x u v) {y:List Int} (hy:y∈t):senP d u v x y=(0,0):=by
 unfold senP
 rw [h.ou y hy,h.ov y hy]
 simp
theorem dot_comb {d:Nat} {u v:List Int} {w:Nat→Int} {r a b:Int} (h:∀i,i < d→r*w i=a*V u i+b*V v i) (z:Nat→Int):r*dot d w z=a*dot d (V u) z+b*dot d (V v) z:=by
 rw [←dot_lc]
 unfold dot
 rw [←sumN_mul]
 exact sumN_congr fun i hi=>by rw [←Int.mul_assoc,h i hi]
theorem comb_sen {d:Nat} {u v x:List Int} {w:Nat→Int} {r a b:Int} (h:∀i,i < d→r*w i=a*V u i+b*V v i) (y:List Int):r*(dot d w (V y)-dot d w (V x))=a*(senP d u v x y).1+b*(senP d u v x y).2:=by
 have h1:=dot_comb h (V y)
 have h2:=dot_comb h (V x)
 unfold senP
 grind
theorem low_atW (l:List Int) (i:Nat):(gc l:Int)*(low l).getD i 0=l.getD i 0:=by
 have h:=low_mul l
 have h2:=congrArg (fun m:List Int=>m.getD i 0) h
 simp only [List.getD_eq_getElem?_getD,List.getElem?_map] at h2
 simp only [List.getD_eq_getElem?_getD]
 cases hz:(low l)[i]? with
 | none=>rw [hz] at h2; simpa using h2
 | some z=>rw [hz] at h2; simpa using h2
theorem prim_low {d:Nat} {c:Nat→Int} {q:List Int} {s t:Int} (hq:q.length=d) (hg:gc q=1) (hs:0 < s) (ht:0 < t) (h:∀i,i < d→s*c i=t*V q i) (hc:∃i,i < d∧c i≠0):low ((List.range d).map c)=q:=by
 obtain ⟨L,hL⟩:∃L,L=(List.range d).map c:=⟨_,rfl⟩
 have hLl:L.length=d:=by rw [hL]; simp
 have hLi:∀i,i < d→L.getD i 0=c i:=fun i hi=>by rw [hL]; simp [hi]
 rw [←hL]
 have hlow:=low_mul L
 have hG:gc L≠0:=fun e=>by
  obtain ⟨i,hi,hne⟩:=hc
  have hm:c i∈L:=by rw [←hLi i hi]; exact getD_mem (by omega)
  have hd:=gc_dvd hm
  rw [e] at hd
  simp at hd
  exact hne hd
 have hlg:gc (low L)=1:=by
  have:=congrArg gc hlow
  rw [gc_scale,Int.natAbs_natCast] at this
  have hp:0 < gc L:=Nat.pos_of_ne_zero hG
  have h2:gc L*gc (low L)=gc L*1:=by rw [Nat.mul_one]; exact this
  exact Nat.eq_of_mul_eq_mul_left hp h2
 have hcross:(low L).map ((s*(gc L:Int)) * ·)=q.map (t * ·):=by
  refine List.ext_getElem (by rw [List.length_map,List.length_map,low_len,hLl,hq]) fun i h1 h2=>?_
  rw [List.getElem_map,List.getElem_map]
  have hi:i < d:=by rw [List.length_map,hq] at h2; exact h2
  have e1:(gc L:Int)*(low L)[i]'(by rw [low_len,hLl]; exact hi)=L[i]'(by omega):=by
   have:=congrArg (fun m:List Int=>m[i]?) hlow
   simp only [List.getElem?_map,List.getElem?_eq_getElem (show i < (low L).length by rw [low_len,hLl]; exact hi),List.getElem?_eq_getElem (show i < L.length by omega),Option.map_some,Option.some.injEq] at this
   exact this
  have e2:L[i]'(by omega)=c i:=by rw [←hLi i hi]; simp [show i < L.length by omega]
  have e3:q[i]'(by omega)=V q i:=by simp [V,show i < q.length by omega]
  rw [Int.mul_assoc,e1,e2,e3]
  exact h i hi
 have hsg:s*(gc L:Int)≠0:=Int.mul_ne_zero (by omega) (by omega)
 rcases prim_eq hlg hg hsg (by omega) hcross with e | e
 ·exact e
 ·exfalso
  obtain ⟨i,hi,hne⟩:=hc
  have e0:=low_atW L i
  rw [e] at e0
  have e1:(q.map fun z=>-z).getD i 0=- V q i:=by
   unfold V
   simp only [List.getD_eq_getElem?_getD,List.getElem?_map]
   cases q[i]? <;> simp
  rw [e1,hLi i hi] at e0
  have e2:=h i hi
  rw [←e0] at e2
  have hgp:0 < (gc L:Int):=by omega
  have e3:(s*(gc L:Int)+t)*V q i=0:=by grind
  rcases Int.mul_eq_zero.1 e3 with h0 | h0
  ·have:=Int.mul_pos hs hgp; omega
  ·rw [h0] at e0
   simp at e0
   exact hne e0.symm
theorem wr_row {d:Nat} {P:List (List Int)} (hg:Good d P) {x:List Int} (hx:x∈P) {c:Nat→Int} (hc:∃i,i < d∧c i≠0) (hmax:∀y∈P,dot d c (V y)≤dot d c (V x))
  (hone:∀u:Nat→Int,(∀y∈P,dot d c (V y)=dot d c (V x)→dot d u (V y)=dot d u (V x))→Par d u c):low ((List.range d).map c) ++ [dotL (low ((List.range d).map c)) x]∈rowsC P [] d P:=by
 obtain ⟨r,hr,hrx,s,t,hs,ht,hst⟩:=side_some hg.box (good_span hg) hx hc hmax hone
 obtain ⟨T,hTs,hTl,hrT⟩:=mem_rowsC.1 hr
 obtain ⟨σ,hσ,hnb,hre⟩:=rowT_form hTl hrT
 have hl:(pickL d (diffL T)).length+1=d:=of_decide_eq_true hnb
 have hal:=norm_len hnb
 have hgn:=norm_gc hl
 have hrl:r.length=d+1:=(rowsC_fit hg.box hg.d1 (by have:=hg.d4; omega) (fun _=>Iff.rfl) hr).len
 have hq:(r.take d).length=d:=by rw [List.length_take]; omega
 have hqe:r.take d=(normL d (diffL T)).map (σ * ·):=by
  rw [hre,List.map_append,List.take_left' (by rw [List.length_map,hal])]
 have hqg:gc (r.take d)=1:=by
  rw [hqe,gc_scale,hgn]
  rcases hσ with rfl | rfl <;> rfl
 have hlow:=prim_low (c:=c) (q:=r.take d) hq hqg hs ht (fun i hi=>by rw [hst i hi,V_take hi]) hc
 rw [hlow]
 have hlast:dotL (r.take d) x=r.getD d 0:=by
  rw [dotL_eq hq,hrx]
  exact dot_congr (fun i hi=>V_take hi) (fun _ _=>rfl)
 have:r.take d ++ [dotL (r.take d) x]=r:=by
  rw [hlast]
  have h1:=List.take_succ_eq_append_getElem (l:=r) (i:=d) (by omega)
  rw [List.take_of_length_le (by omega)] at h1
  rw [show r.getD d 0=r[d] by simp [show d < r.length by omega]]
  exact h1.symm
 rw [this]
 exact hr
theorem wr_sound {d:Nat} {P t:List (List Int)} (hg:Good d P) {x u v:List Int} (hxP:x∈P) (htP:∀y∈t,y∈P) (hB:Bas d t x u v) {e:Int×Int} (he:e≠(0,0)) (hz:∃z∈P,senP d u v x z≠(0,0)∧trn (senP d u v x z) e=0)
  (hv:∀y∈P,trn (senP d u v x y) e≤0):rowE d u v x e∈rowsC P [] d P:=by
 refine wr_row hg hxP (c:=rwE u v e) ?_ (fun y hy=>?_) (fun w hw=>?_)
 ·refine Classical.byContradiction fun hn=>?_
  have:=hB.ind (-e.2) e.1 fun i hi=>by
   have:rwE u v e i=0:=Classical.byContradiction fun h=>hn ⟨i,hi,h⟩
   unfold rwE trn at this
   simp only at this
   grind
  exact he (by
   obtain ⟨a,b⟩:=e
   simp at this
   simp; omega)
 ·have:=rw_sen d u v e x y
  have:=hv y hy
  omega
 ·obtain ⟨r,a,b,hr0,hrw⟩:=hB.spn w fun y hy=>hw y (htP y hy) (by
   have h1:=rw_sen d u v e x y
   rw [hB.sen hy] at h1
   unfold trn at h1
   simp at h1
   omega)
  obtain ⟨z,hzP,hz0,hzt⟩:=hz
  have h1:=comb_sen (x:=x) hrw z
  rw [hw z hzP (by have:=rw_sen d u v e x z; omega),Int.sub_self,Int.mul_zero] at h1
  obtain ⟨s0,s1⟩:Int×Int:=senP d u v x z
  generalize hs:senP d u v x z=s at *
  obtain ⟨s0,s1⟩:=s
  obtain ⟨e0,e1⟩:=e
  unfold trn at hzt
  simp only at h1 hzt
  have hab:a*e0+b*e1=0:=by
   have k0:s0*(a*e0+b*e1)=0:=by grind
   have k1:s1*(a*e0+b*e1)=0:=by grind
   rcases Int.mul_eq_zero.1 k0 with h | h
   ·rcases Int.mul_eq_zero.1 k1 with h' | h'
    ·exact absurd (by rw [h,h']) hz0
    ·exact h'
   ·exact h
  intro i j hi hj
  have p1:=hrw i hi
  have p2:=hrw j hj
  have key:r*(w i*rwE u v (e0,e1) j-w j*rwE u v (e0,e1) i)=0:=by
   have:r*(w i*rwE u v (e0,e1) j-w j*rwE u v (e0,e1) i)=(a*V u i+b*V v i)*rwE u v (e0,e1) j-(a*V u j+b*V v j)*rwE u v (e0,e1) i:=by
    rw [←p1,←p2]; grind
   rw [this]
   unfold rwE trn
   simp only
   have e3:(a*V u i+b*V v i)*(e0*V v j-e1*V u j)-(a*V u j+b*V v j)*(e0*V v i-e1*V u i)=(a*e0+b*e1)*(V u i*V v j-V u j*V v i):=by grind
   rw [e3,hab,Int.zero_mul]
  rcases Int.mul_eq_zero.1 key with h | h
  ·exact absurd h hr0
  ·omega
end Go.Proofs.YtcoeneldaohpnaaGreat

namespace Go.Proofs.YtcoeneldaohpnaaGreat
open Lin
def negP (s:Int×Int):Int×Int:=(-s.1,-s.2)
def offL (d:Nat) (u v x:List Int) (P:List (List Int)):List (Int×Int):=(P.map (senP d u v x)).filter fun s=>decide (s≠(0,0))
def endR (d:Nat) (u v x:List Int) (off:List (Int×Int)) (e:Int×Int):List (List Int):=if off.any (fun s=>decide (0 < trn s e))=true then [] else [rowE d u v x e]
def thrL (d:Nat) (u v x:List Int) (P:List (List Int)):List (List Int):=
 match offL d u v x P with
 | []=>[]
 | m :: l=>endR d u v x (m :: l) (mxF m l) ++ endR d u v x (m :: l) (negP (mnF m l))
theorem off_mem {d:Nat} {u v x:List Int} {P:List (List Int)} {s:Int×Int} : s∈offL d u v x P↔∃y∈P,senP d u v x y=s∧s≠(0,0):=by
 unfold offL
 rw [List.mem_filter,List.mem_map]
 simp only [decide_eq_true_eq]
 constructor
 ·rintro ⟨⟨y,hy,rfl⟩,h⟩; exact ⟨y,hy,rfl,h⟩
 ·rintro ⟨y,hy,rfl,h⟩; exact ⟨⟨y,hy,rfl⟩,h⟩
theorem two_id {a b e0 e1 s0 s1:Int} (h:a*e0+b*e1=0):(e0*e0+e1*e1)*(a*s0+b*s1)=(b*e0-a*e1)*(e0*s1-e1*s0):=by
 have k1:a*e0=-(b*e1):=by omega
 have e2:(b*e0-a*e1)*(e0*s1-e1*s0)=b*e0*e0*s1-(b*e1)*e0*s0-(a*e0)*e1*s1+a*e1*e1*s0:=by grind
 rw [e2,k1]
 have e3:(b*e1)*e0*s0=-((a*e0)*e0*s0):=by rw [k1]; grind
 grind
theorem row_prim {d:Nat} {P:List (List Int)} (hg:Good d P) {r:List Int} (hr:r∈rowsC P [] d P):r.length=d+1∧gc (r.take d)=1:=by
 obtain ⟨T,hTs,hTl,hrT⟩:=mem_rowsC.1 hr
 obtain ⟨σ,hσ,hnb,hre⟩:=rowT_form hTl hrT
 have hl:(pickL d (diffL T)).length+1=d:=of_decide_eq_true hnb
 have hal:=norm_len hnb
 refine ⟨(rowsC_fit hg.box hg.d1 (by have:=hg.d4; omega) (fun _=>Iff.rfl) hr).len,?_⟩
 have hqe:r.take d=(normL d (diffL T)).map (σ * ·):=by
  rw [hre,List.map_append,List.take_left' (by rw [List.length_map,hal])]
 rw [hqe,gc_scale,norm_gc hl]
 rcases hσ with rfl | rfl <;> rfl
theorem row_is {d:Nat} {P t:List (List Int)} (hg:Good d P) {x u v r:List Int} (hr:r∈rowsC P [] d P) (hrx:r.getD d 0=dot d (V r) (V x)) {ρ a b:Int} (hρ:ρ≠0) (hab:∀i,i < d→ρ*V r i=a*V u i+b*V v i) {e:Int×Int} (he:e≠(0,0)) (hae:a*e.1+b*e.2=0)
  (_hB:Bas d t x u v) (hv:∀y∈P,trn (senP d u v x y) e≤0):rowE d u v x e=r:=by
 obtain ⟨hrl,hrg⟩:=row_prim hg hr
 have hfit:=rowsC_fit hg.box hg.d1 (by have:=hg.d4; omega) (fun _=>Iff.rfl) hr
 have hN:=dt2_pos he
 obtain ⟨e0,e1⟩:=e
 have hq:(r.take d).length=d:=by rw [List.length_take]; omega
 obtain ⟨N,hNe⟩:∃N,N=e0*e0+e1*e1:=⟨_,rfl⟩
 obtain ⟨K,hKe⟩:∃K,K=b*e0-a*e1:=⟨_,rfl⟩
 have hN0:0 < N:=by rw [hNe]; exact hN
 have hci:∀i,i < d→N*(ρ*V r i)=K*rwE u v (e0,e1) i:=fun i hi=>by
  rw [hab i hi,hNe,hKe]
  exact two_id hae
 -- a point off the row
 obtain ⟨y,hyP,hyr⟩:∃y∈P,dot d (V r) (V y) < dot d (V r) (V x):=by
  refine Classical.byContradiction fun hn=>?_
  have hall:∀y∈P,dot d (V r) (V y)=dot d (V r) (V x):=fun y hy=>by
   have h1:=hfit.all y hy
   rw [hrx] at h1
   rcases Int.lt_or_le (dot d (V r) (V y)) (dot d (V r) (V x)) with h | h
   ·exact absurd ⟨y,hy,h⟩ hn
   ·omega
  have h0:=good_span hg (V r) (fun y hy z hz=>by rw [hall y hy,hall z hz])
  have hz:r.take d=(r.take d).map ((0:Int) * ·):=by
   refine List.ext_getElem (by simp) fun i h1 h2=>?_
   rw [List.getElem_map,List.getElem_take,Int.zero_mul]
   have:=h0 i (by omega)
   unfold V at this
   rw [List.getD_eq_getElem?_getD,List.getElem?_eq_getElem (by omega)] at this
   exact this
  rw [hz,gc_scale] at hrg
  simp at hrg
 have hsy:N*(ρ*(dot d (V r) (V y)-dot d (V r) (V x)))=K*trn (senP d u v x y) (e0,e1):=by
  rw [comb_sen (x:=x) hab y,hNe,hKe]
  exact two_id hae
 have hty:=hv y hyP
 have hKρ:0 < K*ρ:=by
  obtain ⟨D,hD⟩:∃D,D=dot d (V r) (V x)-dot d (V r) (V y):=⟨_,rfl⟩
  obtain ⟨T,hT⟩:∃T,T=- trn (senP d u v x y) (e0,e1):=⟨_,rfl⟩
  have hD0:0 < D:=by omega
  have hT0:0≤T:=by omega
  have e1':N*(ρ*D)=K*T:=by
   have:dot d (V r) (V y)-dot d (V r) (V x)=-D:=by omega
   rw [this] at hsy
   have:trn (senP d u v x y) (e0,e1)=-T:=by omega
   rw [this] at hsy
   grind
  have hρ2:0 < ρ*ρ:=by
   rcases Int.lt_or_gt_of_ne hρ with h | h
   ·exact Int.mul_pos_of_neg_of_neg h h
   ·exact Int.mul_pos h h
  have e2':N*((ρ*ρ)*D)=(K*ρ)*T:=by grind
  have hl0:0 < N*((ρ*ρ)*D):=Int.mul_pos hN0 (Int.mul_pos hρ2 hD0)
  rcases Int.lt_or_le 0 (K*ρ) with h | h
  ·exact h
  ·exfalso
   have:=Int.mul_nonneg (show 0≤-(K*ρ) by omega) hT0
   have e3' : -(K*ρ)*T=-((K*ρ)*T):=by grind
   omega
 have hρ2:0 < ρ*ρ:=by
  rcases Int.lt_or_gt_of_ne hρ with h | h
  ·exact Int.mul_pos_of_neg_of_neg h h
  ·exact Int.mul_pos h h
 have hlow:=prim_low (c:=rwE u v (e0,e1)) (q:=r.take d) hq hrg hKρ (Int.mul_pos hN0 hρ2) (fun i hi=>by
  rw [V_take hi]
  have:=hci i hi
  grind) (by
  refine Classical.byContradiction fun hn=>?_
  have h0:∀i,i < d→rwE u v (e0,e1) i=0:=fun i hi=>Classical.byContradiction fun h=>hn ⟨i,hi,h⟩
  have:=rw_sen d u v (e0,e1) x y
  rw [dot_zero h0,dot_zero h0] at this
  have h3:N*(ρ*(dot d (V r) (V y)-dot d (V r) (V x)))=0:=by rw [hsy,←this]; simp
  rcases Int.mul_eq_zero.1 h3 with h | h
  ·omega
  ·rcases Int.mul_eq_zero.1 h with h | h <;> omega)
 unfold rowE
 rw [show rwA d u v (e0,e1)=r.take d from hlow]
 have hlast:dotL (r.take d) x=r.getD d 0:=by
  rw [dotL_eq hq,hrx]
  exact dot_congr (fun i hi=>V_take hi) (fun _ _=>rfl)
 rw [hlast]
 have h1:=List.take_succ_eq_append_getElem (l:=r) (i:=d) (by omega)
 rw [List.take_of_length_le (by omega)] at h1
 rw [show r.getD d 0=r[d] by simp [show d < r.length by omega]]
 exact h1.symm
theorem wr_end {d:Nat} {P t:List (List Int)} (hg:Good d P) {x u v r:List Int} (hB:Bas d t x u v) (hr:r∈rowsC P [] d P) (hrx:r.getD d 0=dot d (V r) (V x)) {ρ a b:Int} (hρ:ρ≠0) (hab:∀i,i < d→ρ*V r i=a*V u i+b*V v i)
  {z:List Int} (hz:z∈P) (hzr:r.getD d 0=dot d (V r) (V z)) (hz0:senP d u v x z≠(0,0))
  (hray:∀y∈P,senP d u v x y≠(0,0)→r.getD d 0=dot d (V r) (V y)→0 < dt2 (senP d u v x y) (senP d u v x z)):r∈thrL d u v x P:=by
 have hfit:=rowsC_fit hg.box hg.d1 (by have:=hg.d4; omega) (fun _=>Iff.rfl) hr
 have hezm:senP d u v x z∈offL d u v x P:=off_mem.2 ⟨z,hz,rfl,hz0⟩
 have hN:=dt2_pos hz0
 have haz:a*(senP d u v x z).1+b*(senP d u v x z).2=0:=by
  rw [←comb_sen (x:=x) hab z,←hzr,←hrx,Int.sub_self,Int.mul_zero]
 obtain ⟨ez,hez⟩:∃ez,ez=senP d u v x z:=⟨_,rfl⟩
 rw [←hez] at hezm hN haz hray hz0
 obtain ⟨K,hK⟩:∃K,K=b*ez.1-a*ez.2:=⟨_,rfl⟩
 have hid:∀y,dt2 ez ez*(ρ*(dot d (V r) (V y)-dot d (V r) (V x)))=K*trn (senP d u v x y) ez:=fun y=>by
  rw [comb_sen (x:=x) hab y,hK]
  exact two_id haz
 have hK0:K≠0:=fun h0=>by
  have h1:∀y,dot d (V r) (V y)-dot d (V r) (V x)=0:=fun y=>by
   have:=hid y
   rw [h0,Int.zero_mul] at this
   rcases Int.mul_eq_zero.1 this with h | h
   ·omega
   ·rcases Int.mul_eq_zero.1 h with h | h
    ·exact absurd h hρ
    ·exact h
  have h2:=good_span hg (V r) (fun y _ z _=>by have:=h1 y; have:=h1 z; omega)
  obtain ⟨_,_,_,⟨i,hi,hne⟩,_⟩:=row_one (fun y hy=>(hg.box y hy).1) hg.d1 hr
  exact hne (h2 i hi)
 have hle:∀y∈P,dot d (V r) (V y)-dot d (V r) (V x)≤0:=fun y hy=>by have:=hfit.all y hy; omega
 -- on the row,just where it is met
 have hon:∀y∈P,trn (senP d u v x y) ez=0→r.getD d 0=dot d (V r) (V y):=fun y _ h=>by
  have:=hid y
  rw [h,Int.mul_zero] at this
  rcases Int.mul_eq_zero.1 this with h | h
  ·omega
  ·rcases Int.mul_eq_zero.1 h with h | h
   ·exact absurd h hρ
   ·omega
 have hend:∀y1∈P,∀e:Int×Int,senP d u v x y1≠(0,0)→r.getD d 0=dot d (V r) (V y1)→(e=senP d u v x y1∨e=negP (senP d u v x y1))→(∀s∈offL d u v x P,trn s e≤0)→endR d u v x (offL d u v x P) e=[r]:=fun y1 hy1 e h0 hy1r he hall=>by
  have ha1:a*(senP d u v x y1).1+b*(senP d u v x y1).2=0:=by
   rw [←comb_sen (x:=x) hab y1,←hy1r,←hrx,Int.sub_self,Int.mul_zero]
  have he0:e≠(0,0):=fun h=>by
   rcases he with h1 | h1
   ·exact h0 (by rw [←h1]; exact h)
   ·rw [h1] at h
    unfold negP at h
    simp at h
    exact h0 (Prod.ext h.1 h.2)
  have hae:a*e.1+b*e.2=0:=by
   rcases he with h1 | h1
   ·rw [h1]; exact ha1
   ·rw [h1]; unfold negP; grind
  have hrow:=row_is hg hr hrx hρ hab he0 hae hB (fun y hy=>by
   by_cases hs:senP d u v x y=(0,0)
   ·rw [hs]; unfold trn; simp
   ·exact hall _ (off_mem.2 ⟨y,hy,rfl,hs⟩))
  unfold endR
  rw [if_neg (by
   rw [List.any_eq_true]
   rintro ⟨s,hs,hs2⟩
   have:=hall s hs
   simp at hs2
   omega),hrow]
 unfold thrL
 cases hoff:offL d u v x P with
 | nil=>rw [hoff] at hezm; cases hezm
 | cons m l=>
  rw [hoff] at hend hezm
  have hsp:∀s∈m :: l,∃y∈P,senP d u v x y=s∧s≠(0,0):=fun s hs=>off_mem.1 (by rw [hoff]; exact hs)
  rcases Int.lt_or_le 0 (K*ρ) with hs | hs
  ·-- all lie to the right
   have hrt:∀s∈m :: l,RtE ez s:=fun s hs'=>by
    obtain ⟨y,hy,rfl,h0⟩:=hsp s hs'
    have h1:=hid y
    have h2:=hle y hy
    constructor
    ·rcases Int.lt_or_le 0 (trn (senP d u v x y) ez) with h | h
     ·exfalso
      have e1:dt2 ez ez*(ρ*ρ*(dot d (V r) (V y)-dot d (V r) (V x)))=(K*ρ)*trn (senP d u v x y) ez:=by grind
      have e2:=Int.mul_pos hs h
      have hρ2:0≤ρ*ρ:=by
       rcases Int.lt_or_le ρ 0 with h | h
       ·exact Int.le_of_lt (Int.mul_pos_of_neg_of_neg h h)
       ·exact Int.mul_nonneg h h
      have e3:=Int.mul_nonneg (Int.le_of_lt hN) (Int.mul_nonneg hρ2 (show 0≤-(dot d (V r) (V y)-dot d (V r) (V x)) by omega))
      have e4:dt2 ez ez*(ρ*ρ * -(dot d (V r) (V y)-dot d (V r) (V x)))=-(dt2 ez ez*(ρ*ρ*(dot d (V r) (V y)-dot d (V r) (V x)))):=by grind
      omega
     ·exact h
    ·intro h
     exact hray y hy h0 (hon y hy h)
   obtain ⟨k1,k2⟩:=mxF_max hN l m (hrt m (by simp)) (fun s hs'=>hrt s (by simp [hs']))
   have kall:∀s∈m :: l,trn s (mxF m l)≤0:=fun s hs'=>by
    rcases List.mem_cons.1 hs' with rfl | h
    ·exact k1
    ·exact k2 s h
   have hmm:mxF m l∈m :: l:=by
    rcases mxF_mem l m with h | h
    ·rw [h]; simp
    ·simp [h]
   obtain ⟨y1,hy1,hy1e,hy10⟩:=hsp _ hmm
   have h3:=(hrt _ hmm).1
   have h4:=kall ez hezm
   have h5:=trn_neg ez (mxF m l)
   have hr1:=hend y1 hy1 (mxF m l) (by rw [hy1e]; exact hy10) (hon y1 hy1 (by rw [hy1e]; omega)) (.inl hy1e.symm) kall
   simp [hr1]
  ·have hs':K*ρ < 0:=by
    have:K*ρ≠0:=Int.mul_ne_zero hK0 hρ
    omega
   have hrt:∀s∈m :: l,RtE (flp ez) (flp s):=fun s hs''=>by
    obtain ⟨y,hy,rfl,h0⟩:=hsp s hs''
    have h1:=hid y
    have h2:=hle y hy
    constructor
    ·rw [trn_flp]
     rcases Int.lt_or_le (trn (senP d u v x y) ez) 0 with h | h
     ·exfalso
      have e1:dt2 ez ez*(ρ*ρ*(dot d (V r) (V y)-dot d (V r) (V x)))=(K*ρ)*trn (senP d u v x y) ez:=by grind
      have e2:=Int.mul_pos_of_neg_of_neg hs' h
      have hρ2:0≤ρ*ρ:=by
       rcases Int.lt_or_le ρ 0 with h | h
       ·exact Int.le_of_lt (Int.mul_pos_of_neg_of_neg h h)
       ·exact Int.mul_nonneg h h
      have e3:=Int.mul_nonneg (Int.le_of_lt hN) (Int.mul_nonneg hρ2 (show 0≤-(dot d (V r) (V y)-dot d (V r) (V x)) by omega))
      have e4:dt2 ez ez*(ρ*ρ * -(dot d (V r) (V y)-dot d (V r) (V x)))=-(dt2 ez ez*(ρ*ρ*(dot d (V r) (V y)-dot d (V r) (V x)))):=by grind
      omega
     ·omega
    ·intro h
     rw [trn_flp] at h
     have:=hray y hy h0 (hon y hy (by omega))
     unfold dt2 flp at *
     simp only at *
     grind
   have hN2:0 < dt2 (flp ez) (flp ez):=by unfold dt2 flp at *; simp only at *; grind
   obtain ⟨k1,k2⟩:=mxF_max hN2 (l.map flp) (flp m) (hrt m (by simp)) (fun s hs''=>by
    obtain ⟨q,hq,rfl⟩:=List.mem_map.1 hs''
    exact hrt q (by simp [hq]))
   rw [←mn_mx] at k1 k2
   have kall:∀s∈m :: l,0≤trn s (mnF m l):=fun s hs''=>by
    rcases List.mem_cons.1 hs'' with rfl | h
    ·rw [trn_flp] at k1; omega
    ·have:=k2 (flp s) (List.mem_map.2 ⟨s,h,rfl⟩)
     rw [trn_flp] at this; omega
   have hmm:mnF m l∈m :: l:=by
    rcases mnF_mem l m with h | h
    ·rw [h]; simp
    ·simp [h]
   obtain ⟨y1,hy1,hy1e,hy10⟩:=hsp _ hmm
   have h3:=(hrt _ hmm).1
   rw [trn_flp] at h3
   have h4:=kall ez hezm
   have h5:=trn_neg ez (mnF m l)
   have hr1:=hend y1 hy1 (negP (mnF m l)) (by rw [hy1e]; exact hy10) (hon y1 hy1 (by rw [hy1e]; omega)) (.inr (by rw [hy1e])) (fun s hs''=>by
    have:=kall s hs''
    have e:=trn_op s (mnF m l)
    unfold negP
    omega)
   simp [hr1]
end Go.Proofs.YtcoeneldaohpnaaGreat
