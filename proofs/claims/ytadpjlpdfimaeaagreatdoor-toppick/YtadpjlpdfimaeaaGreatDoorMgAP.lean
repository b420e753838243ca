import Derived.Test.YtadpjlpdfimaeaaGreatDoorMgAO
import Derived.Test.YtadpjlpdfimaeaaGreatDoorMgAM
import Derived.Deep.QuietTactic
import Derived.BigQuiet
import Derived.Laws.IdiomCopy
import Derived.Laws.CopyOwn
import Derived.Test.YtadpjlpdfimaeaaGreatDoorMgAJ
import Derived.Test.YtadpjlpdfimaeaaGreatDoorMgAE
import Derived.Test.YtadpjlpdfimaeaaGreatDoorMgAN
import Derived.Test.YtadpjlpdfimaeaaGreatDoorMgAI
namespace Go.Proofs.YtadpjlpdfimaeaaGreatDoor
open Lin
theorem rowT_form {d:Nat} {P t:List (List Int)} {r:List Int} (ht:t.length=d) (hr:rowT t P=some r) :
  ∃σ:Int,(σ=1∨σ=-1)∧normB d (diffL t)=true∧r=(normL d (diffL t) ++ [dotL (normL d (diffL t)) (t.getD 0 [])]).map (σ * ·):=by
 unfold rowT at hr
 rw [ht] at hr
 split at hr
 ·rename_i hnb
  split at hr
  ·simp only [Option.some.injEq] at hr
   exact ⟨1,Or.inl rfl,hnb,by rw [←hr]; simp⟩
  ·split at hr
   ·simp only [Option.some.injEq] at hr
    refine ⟨-1,Or.inr rfl,hnb,?_⟩
    rw [←hr]
    exact List.map_congr_left fun z _=>by omega
   ·simp at hr
 ·simp at hr
theorem V_map (l:List Int) (σ:Int) (i:Nat):V (l.map (σ * ·)) i=σ*V l i:=by
 simp only [V,List.getD_eq_getElem?_getD,List.getElem?_map]
 cases l[i]? <;> simp
theorem rows_same0 {d:Nat} {P P':List (List Int)} (hbox:Box d 30 P) (hd1:1≤d) (hd4:d≤4) (hspan:∀c:Nat→Int,(∀y∈P,∀z∈P,dot d c (V y)=dot d c (V z))→∀i,i < d→c i=0) (hm:∀r,r∈P'↔r∈P) {r:List Int} (hr:r∈rowsC P' [] d P'):r∈rowsC P [] d P:=by
 have hRow:RowOf d P r:=rowsC_fit hbox hd1 (by omega) hm hr
 obtain ⟨t,hts,htl,hrt⟩:=mem_rowsC.1 hr
 obtain ⟨σ,hσ,hnb,hre⟩:=rowT_form htl hrt
 have htP:∀y∈t,y∈P:=fun y hy=>(hm y).1 (hts.mem hy)
 have h0t:t.getD 0 []∈t:=by simp [show 0 < t.length by omega]
 have hl:(pickL d (diffL t)).length+1=d:=of_decide_eq_true hnb
 have hal:=norm_len hnb
 obtain ⟨⟨p,hp,hne⟩,hz,hone⟩:=norm_spec hl
 obtain ⟨k1,hk1,hmu1⟩:=norm_par hl
 have hn1:normL d (diffL t)=upr (low (muL d (pickL d (diffL t)))):=if_pos hl
 have hlast:∀(a:List Int) (b τ:Int),a.length=d→V ((a ++ [b]).map (τ * ·)) d=τ*b∧∀i,i < d→V ((a ++ [b]).map (τ * ·)) i=τ*V a i:=fun a b τ h=>by
  obtain ⟨_,_,e3,e4⟩:=row_app (b:=b) h
  refine ⟨?_,fun i hi=>by rw [V_map,e4 i hi]⟩
  rw [V_map]
  show τ*(a ++ [b]).getD d 0=_
  rw [e3]
 have hxP:=htP _ h0t
 have hV:∀i,i < d→V r i=σ*V (normL d (diffL t)) i:=fun i hi=>by rw [hre]; exact (hlast _ _ _ hal).2 i hi
 have hdot:∀y,dot d (V r) y=σ*dot d (V (normL d (diffL t))) y:=fun y=>by
  unfold dot
  rw [←sumN_mul]
  exact sumN_congr fun i hi=>by rw [hV i hi]; grind
 have hb:r.getD d 0=dot d (V r) (V (t.getD 0 [])):=by
  rw [hdot,←dotL_eq hal]
  have:=(hlast (normL d (diffL t)) (dotL (normL d (diffL t)) (t.getD 0 [])) σ hal).1
  rw [←hre] at this
  exact this
 have htight:∀u:Nat→Int,(∀row∈diffL t,dot d (V row) u=0)↔∀y∈t,dot d u (V y)=dot d u (V (t.getD 0 [])):=fun u=>by
  have key:∀y∈t,dot d (V (subL y (t.getD 0 []))) u=dot d u (V y)-dot d u (V (t.getD 0 [])):=fun y hy=>by
   rw [dot_comm,dot_subL u (hbox y (htP y hy)).1]
  constructor
  ·intro h y hy
   obtain ⟨i,hi,rfl⟩:=List.mem_iff_getElem.1 hy
   by_cases hi0:i=0
   ·subst hi0
    have:t.getD 0 []=t[0]:=by simp [hi]
    rw [this]
   ·have hmem:subL t[i] (t.getD 0 [])∈diffL t:=by
     simp only [diffL,List.mem_map]
     refine ⟨t[i],?_,rfl⟩
     rw [List.mem_drop_iff_getElem]
     exact ⟨i-1,by omega,by congr 1; omega⟩
    have h1:=h _ hmem
    rw [key _ hy] at h1
    omega
  ·intro h row hrow
   simp only [diffL,List.mem_map] at hrow
   obtain ⟨y,hy,rfl⟩:=hrow
   have hy':=List.mem_of_mem_drop hy
   rw [key y hy',h y hy']
   omega
 have hσ0:σ≠0:=by rcases hσ with h | h <;> omega
 have hta:∀y∈t,dot d (V r) (V y)=dot d (V r) (V (t.getD 0 [])):=fun y hy=>by
  rw [hdot,hdot,(htight _).1 hz y hy]
 obtain ⟨r2,hr2,hb2,s,q,hs,hq,hsq⟩:=side_some (c:=V r) hbox hspan hxP ⟨p,hp,by rw [hV p hp]; exact Int.mul_ne_zero hσ0 hne⟩ (fun y hy=>by rw [←hb]; exact hRow.all y hy) (fun u hu=>by
  have h1:Par d u (V (normL d (diffL t))):=hone u ((htight u).2 fun y hy=>hu y (htP y hy) (hta y hy))
  intro i j hi hj
  have:=h1 i j hi hj
  rw [hV i hi,hV j hj]
  grind)
 obtain ⟨t2,hts2,htl2,hrt2⟩:=mem_rowsC.1 hr2
 obtain ⟨τ,hτ,hnb2,hre2⟩:=rowT_form htl2 hrt2
 have hτ0:τ≠0:=by rcases hτ with h | h <;> omega
 have hl2:(pickL d (diffL t2)).length+1=d:=of_decide_eq_true hnb2
 have hal2:=norm_len hnb2
 obtain ⟨k2,hk2,hmu2⟩:=norm_par hl2
 have hn2:normL d (diffL t2)=upr (low (muL d (pickL d (diffL t2)))):=if_pos hl2
 have hV2:∀i,i < d→V r2 i=τ*V (normL d (diffL t2)) i:=fun i hi=>by rw [hre2]; exact (hlast _ _ _ hal2).2 i hi
 have haa:normL d (diffL t)=normL d (diffL t2):=by
  rw [hn1,hn2]
  refine norm_eq (a:=s*σ*k2) (b:=q*τ*k1) (Int.mul_ne_zero (Int.mul_ne_zero (by omega) hσ0) hk2) (Int.mul_ne_zero (Int.mul_ne_zero (by omega) hτ0) hk1) ?_
  unfold muL
  rw [List.map_map,List.map_map]
  refine List.map_congr_left fun i hi=>?_
  have hi':i < d:=List.mem_range.1 hi
  show s*σ*k2*mu (fm (pickL d (diffL t))) i=q*τ*k1*mu (fm (pickL d (diffL t2))) i
  have h:=hsq i hi'
  rw [hV i hi',hV2 i hi'] at h
  rw [hmu1 i hi',hmu2 i hi']
  grind
 have hst:σ=τ:=by
  have h:=hsq p hp
  rw [hV p hp,hV2 p hp,←haa] at h
  have h':s*σ*V (normL d (diffL t)) p=q*τ*V (normL d (diffL t)) p:=by grind
  have h2:=Int.eq_of_mul_eq_mul_right hne h'
  rcases hσ with rfl | rfl <;> rcases hτ with rfl | rfl <;> omega
 have hlst:σ*dotL (normL d (diffL t)) (t.getD 0 [])=τ*dotL (normL d (diffL t2)) (t2.getD 0 []):=by
  have e1:=(hlast (normL d (diffL t)) (dotL (normL d (diffL t)) (t.getD 0 [])) σ hal).1
  have e2:=(hlast (normL d (diffL t2)) (dotL (normL d (diffL t2)) (t2.getD 0 [])) τ hal2).1
  rw [←hre] at e1
  rw [←hre2] at e2
  rw [←e1,←e2]
  show r.getD d 0=r2.getD d 0
  rw [hb,hb2]
  unfold dot
  exact sumN_congr fun i hi=>by rw [hV i hi,hV2 i hi,haa,hst]
 have:r=r2:=by
  rw [hre,hre2,List.map_append,List.map_append,←haa,←hst]
  rw [←haa,←hst] at hlst
  simp only [List.map_cons,List.map_nil]
  rw [hlst]
 rw [this]
 exact hr2
theorem rows_same {d:Nat} {P P':List (List Int)} (hg:Good d P) (hm:∀r,r∈P'↔r∈P) (r:List Int):r∈rowsC P' [] d P'↔r∈rowsC P [] d P:=
 ⟨fun h=>rows_same0 hg.box hg.d1 hg.d4 (good_span hg) hm h,fun h=>rows_same0 (fun y hy=>hg.box y ((hm y).1 hy)) hg.d1 hg.d4
  (fun c hc=>good_span hg c fun y hy z hz=>hc y ((hm y).2 hy) z ((hm z).2 hz)) (fun y=>(hm y).symm) h⟩
end Go.Proofs.YtadpjlpdfimaeaaGreatDoor

namespace Go.Proofs.YtadpjlpdfimaeaaGreatDoor
open Lin
theorem cmpL_eq:∀x y,¬cmpL x y < 0→¬cmpL y x < 0→x=y
 | [],[],_,_=>rfl
 | [],_ :: _,h,_=>absurd h (by simp [cmpL])
 | _ :: _,[],_,h=>absurd h (by simp [cmpL])
 | a :: x,b :: y,h1,h2=>by
  have ih:=cmpL_eq x y
  simp only [cmpL] at h1 h2
  by_cases hab:a < b
  ·simp [hab] at h1
  ·by_cases hba:b < a
   ·simp [hba] at h2
   ·have e:a=b:=by omega
    subst e
    simp only [Int.lt_irrefl,if_false] at h1 h2
    rw [ih h1 h2]
theorem cmpL_asym {x y:List Int} (h:cmpL x y < 0):¬cmpL y x < 0:=fun h2=>by
 have:=cmpL_trans x y x h h2
 rw [cmpL_self] at this
 omega
def SAsc (s:List (List Int)):Prop:=s.Pairwise fun a b=>cmpL a b < 0
theorem sasc_ext:∀s t:List (List Int),SAsc s→SAsc t→(∀r,r∈s↔r∈t)→s=t
 | [],[],_,_,_=>rfl
 | [],b :: t,_,_,h=>absurd ((h b).2 (by simp)) (by simp)
 | a :: s,[],_,_,h=>absurd ((h a).1 (by simp)) (by simp)
 | a :: s,b :: t,hs,ht,h=>by
  have hs1:=List.pairwise_cons.1 hs
  have ht1:=List.pairwise_cons.1 ht
  have hab:a=b:=by
   rcases List.mem_cons.1 ((h a).1 (by simp)) with e | e
   ·exact e
   ·rcases List.mem_cons.1 ((h b).2 (by simp)) with e' | e'
    ·exact e'.symm
    ·exact absurd (hs1.1 b e') (cmpL_asym (ht1.1 a e))
  subst hab
  have irr:¬cmpL a a < 0:=by rw [cmpL_self]; decide
  rw [sasc_ext s t hs1.2 ht1.2 (fun r=>by
   constructor
   ·intro hr
    rcases List.mem_cons.1 ((h r).1 (List.mem_cons_of_mem _ hr)) with e | e
    ·subst e; exact absurd (hs1.1 r hr) irr
    ·exact e
   ·intro hr
    rcases List.mem_cons.1 ((h r).2 (List.mem_cons_of_mem _ hr)) with e | e
    ·subst e; exact absurd (ht1.1 r hr) irr
    ·exact e)]
theorem keptI_asc (m:List (List Int)):∀k,(keptI m k).Pairwise (· < ·)
 | 0=>by simp [keptI]
 | k+1=>by
  simp only [keptI]
  split
  ·rw [List.pairwise_append]
   refine ⟨keptI_asc m k,by simp,fun a ha b hb=>?_⟩
   simp at hb
   have:=keptI_lt ha
   omega
  ·exact keptI_asc m k
theorem keptI_new {m:List (List Int)} : ∀{k i:Nat},i∈keptI m k→i=0∨m.getD i []≠m.getD (i-1) []
 | 0,i,h=>by simp [keptI] at h
 | k+1,i,h=>by
  simp only [keptI] at h
  split at h
  ·rename_i hc
   rcases List.mem_append.1 h with h | h
   ·exact keptI_new h
   ·simp at h; subst h; exact hc
  ·exact keptI_new h
theorem comp_asc {m:List (List Int)} (h:Asc m):SAsc (compL m):=by
 unfold SAsc compL
 rw [List.pairwise_map]
 refine (List.Pairwise.and_mem.1 (keptI_asc m m.length)).imp fun {a b} ⟨ha,hb,hab⟩=>?_
 have hbl:=keptI_lt hb
 have h1:=h a b hab hbl
 rcases Int.lt_or_le (cmpL (m.getD a []) (m.getD b [])) 0 with h2 | h2
 ·exact h2
 ·exfalso
  have he:=cmpL_eq _ _ (Int.not_lt.2 h2) h1
  rcases keptI_new hb with h0 | h0
  ·omega
  ·have h3:=h (b-1) b (by omega) hbl
   have h4:¬cmpL (m.getD (b-1) []) (m.getD a []) < 0:=by
    by_cases e:a=b-1
    ·rw [←e,cmpL_self]; decide
    ·exact h a (b-1) (by omega) (by omega)
   rw [←he] at h3
   have h5:=cmpL_eq _ _ h3 h4
   rw [he] at h5
   exact h0 h5
theorem Inor.asc {m' m:List (List Int)} (h:Inor m' m):SAsc m':=by
 obtain ⟨m0,_,ha,rfl⟩:=h.srt
 exact comp_asc ha
def sumR (L:List (List Int)):Nat→Int:=fun j=>(L.map fun r=>V r j).sum
theorem dot_sumR (d:Nat) (z:Nat→Int):∀L:List (List Int),dot d (sumR L) z=(L.map fun r=>dot d (V r) z).sum
 | []=>by simp only [List.map_nil,List.sum_nil]; exact dot_zero fun i _=>by simp [sumR]
 | r :: L=>by
  have e:dot d (sumR (r :: L)) z=dot d (fun k=>1*V r k+1*sumR L k) z:=dot_congr (fun i _=>by simp [sumR]) (fun _ _=>rfl)
  rw [e,dot_lc,dot_sumR d z L]; simp
theorem sum_nonpos:∀L:List Int,(∀x∈L,x≤0)→L.sum≤0∧∀x∈L,L.sum≤x
 | [],_=>⟨by simp,fun x hx=>absurd hx (by simp)⟩
 | a :: L,h=>by
  obtain ⟨h1,h2⟩:=sum_nonpos L fun x hx=>h x (List.mem_cons_of_mem _ hx)
  have ha:=h a (by simp)
  rw [List.sum_cons]
  refine ⟨by omega,fun x hx=>?_⟩
  rcases List.mem_cons.1 hx with rfl | hx
  ·omega
  ·have:=h2 x hx; omega
theorem tight_tell {d:Nat} {P P':List (List Int)} (hg:Good d P) (hm:∀r,r∈P'↔r∈P) {x:List Int} (hx:x∈P) {v:Nat→Int} (hv:∀r∈rowsC P' [] d P',r.getD d 0=dot d (V r) (V x)→dot d (V r) v=0) {c:Nat→Int} (hmax:∀y∈P,dot d c (V y)≤dot d c (V x)) :
  dot d c v=0:=by
 have hspan:=good_span hg
 have hP':Box d 30 P':=fun r hr=>hg.box r ((hm r).1 hr)
 have hsub:∀(c:Nat→Int) (y:List Int),dot d c (fun j=>V y j-V x j)=dot d c (V y)-dot d c (V x):=fun c y=>dot_sub d c (V y) (V x)
 have half:∀v:Nat→Int,(∀r∈rowsC P' [] d P',r.getD d 0=dot d (V r) (V x)→dot d (V r) v=0)→dot d c v≤0:=fun v hv=>
  cone (d:=d) (Z:=P.map fun y j=>V y j-V x j) (v:=v) (fun c hc i hi=>by
   refine hspan c (fun y hy z hz=>?_) i hi
   have h1:=hc _ (List.mem_map.2 ⟨y,hy,rfl⟩)
   have h2:=hc _ (List.mem_map.2 ⟨z,hz,rfl⟩)
   rw [hsub] at h1 h2
   omega) (fun c hcn hle hone=>by
   obtain ⟨r,hr,hrx,s,t,hs,ht,hst⟩:=side_some (P:=P') (x:=x) hP' (fun c hc=>hspan c fun y hy z hz=>hc y ((hm y).2 hy) z ((hm z).2 hz)) ((hm x).2 hx) hcn (fun y hy=>by
     have:=hle _ (List.mem_map.2 ⟨y,(hm y).1 hy,rfl⟩)
     rw [hsub] at this
     omega) (fun u hu=>hone u fun z hz h0=>by
     obtain ⟨y,hy,rfl⟩:=List.mem_map.1 hz
     rw [hsub] at h0 ⊢
     have:=hu y ((hm y).2 hy) (by omega)
     omega)
   have h1:=hv r hr hrx
   have h2:s*dot d c v=t*dot d (V r) v:=by
    unfold dot
    rw [←sumN_mul,←sumN_mul]
    exact sumN_congr fun i hi=>by rw [←Int.mul_assoc,hst i hi,Int.mul_assoc]
   rw [h1,Int.mul_zero] at h2
   rcases Int.mul_eq_zero.1 h2 with h3 | h3
   ·omega
   ·omega) _ c (Nat.le_refl _) (fun z hz=>by
   obtain ⟨y,hy,rfl⟩:=List.mem_map.1 hz
   rw [hsub]
   have:=hmax y hy
   omega)
 have h1:=half v hv
 have h2:=half (fun k=>- v k) (fun r hr he=>by rw [dot_comm,dot_neg,dot_comm,hv r hr he]; rfl)
 rw [dot_comm,dot_neg,dot_comm] at h2
 omega
theorem corner_iff {d:Nat} {P P':List (List Int)} (hg:Good d P) (hm:∀r,r∈P'↔r∈P) {x:List Int} (hx:x∈P) :
  (∀y∈P,y≠x→∃r∈rowsC P' [] d P',r.getD d 0=dot d (V r) (V x)∧r.getD d 0≠dot d (V r) (V y))↔
   ∀v:Nat→Int,(∀r∈rowsC P' [] d P',r.getD d 0=dot d (V r) (V x)→dot d (V r) v=0)→∀i,i < d→v i=0:=by
 have hall:∀r∈rowsC P' [] d P',RowOf d P r:=fun r hr=>rowsC_fit hg.box hg.d1 (by have:=hg.d4; omega) hm hr
 constructor
 ·intro ha v hv i hi
  -- the rows that it meets,added
  obtain ⟨T,hT⟩:∃T,T=(rowsC P' [] d P').filter fun r=>decide (r.getD d 0=dot d (V r) (V x)):=⟨_,rfl⟩
  have hTm:∀r,r∈T↔r∈rowsC P' [] d P'∧r.getD d 0=dot d (V r) (V x):=fun r=>by rw [hT]; simp
  have hdiff:∀y∈P,dot d (sumR T) (fun j=>V y j-V x j)≤0∧(y≠x→dot d (sumR T) (fun j=>V y j-V x j)≤-1):=fun y hy=>by
   rw [dot_sumR]
   have hn:∀q∈T.map fun r=>dot d (V r) (fun j=>V y j-V x j),q≤0:=fun q hq=>by
    obtain ⟨r,hr,rfl⟩:=List.mem_map.1 hq
    have h1:=(hTm r).1 hr
    have h2:=(hall r h1.1).all y hy
    rw [dot_sub]; omega
   obtain ⟨h1,h2⟩:=sum_nonpos _ hn
   refine ⟨h1,fun hne=>?_⟩
   obtain ⟨r,hr,hrx,hry⟩:=ha y hy hne
   have h3:=h2 _ (List.mem_map.2 ⟨r,(hTm r).2 ⟨hr,hrx⟩,rfl⟩)
   rw [dot_sub] at h3
   have h4:=(hall r hr).all y hy
   omega
  have hco:∀y∈P,-60≤V y i-V x i∧V y i-V x i≤60:=fun y hy=>by
   have h1:=(hg.box y hy).2 (V y i) (getD_mem (by rw [(hg.box y hy).1]; exact hi))
   have h2:=(hg.box x hx).2 (V x i) (getD_mem (by rw [(hg.box x hx).1]; exact hi))
   omega
  have hmx:∀e:Int,e=0∨e=1→dot d (fun k=>1000*sumR T k+e*unit i k) v=0:=fun e he=>by
   refine tight_tell hg hm hx hv fun y hy=>?_
   have h0:dot d (fun k=>1000*sumR T k+e*unit i k) (fun j=>V y j-V x j)≤0:=by
    rw [dot_lc,dot_unit hi]
    obtain ⟨h1,h2⟩:=hdiff y hy
    have h3:=hco y hy
    by_cases hyx:y=x
    ·subst hyx
     have:dot d (sumR T) (fun j=>V y j-V y j)=0:=by rw [dot_sub]; omega
     rw [this]; simp
    ·have h4:=h2 hyx
     rcases he with rfl | rfl <;> omega
   rw [dot_sub] at h0
   omega
  have h0:=hmx 0 (Or.inl rfl)
  have h1:=hmx 1 (Or.inr rfl)
  rw [dot_lc] at h0 h1
  rw [dot_unit hi] at h1
  omega
 ·intro hv y hy hne
  refine Classical.byContradiction fun hn=>hne ?_
  have h1:=hv (fun j=>V y j-V x j) (fun r hr he=>by
   rw [dot_sub]
   rcases Int.lt_or_le (dot d (V r) (V y)) (r.getD d 0) with h | h
   ·exact absurd ⟨r,hr,he,by omega⟩ hn
   ·have:=(hall r hr).all y hy
    omega)
  exact eq_of_all (by rw [(hg.box y hy).1,(hg.box x hx).1]) fun i hi=>by
   have:=h1 i (by rw [←(hg.box y hy).1]; exact hi)
   show V y i=V x i
   omega
end Go.Proofs.YtadpjlpdfimaeaaGreatDoor

namespace Go.Proofs.YtadpjlpdfimaeaaGreatDoor
open Go.RowKit
theorem sl_one {B:Nat} {e:TypeId} {w:World} {v:Value} {xs:List Value} (h:Sl B e w v xs):v.oneCell'=true:=by
 obtain ⟨ao,cap,rfl,_⟩:=h; rfl
end Go.Proofs.YtadpjlpdfimaeaaGreatDoor

namespace Go.Proofs.YtadpjlpdfimaeaaGreatDoor
open Go.RowKit
attribute [local go_sem ↓] Go.wp_at_zero Go.wp_at_succ
def overL (r x:List Int):Int:=dotL (r.take x.length) x-r.getD x.length 0
end Go.Proofs.YtadpjlpdfimaeaaGreatDoor

namespace Go.Proofs.YtadpjlpdfimaeaaGreatDoor
open Go.RowKit
theorem ext_all:∀(k:Nat) {n fr:Nat} {c:List Int},c.length=k→(∀i,i < k→(fr:Int)≤c.getD i 0∧c.getD i 0 < n)→(∀i j,i < j→j < k→c.getD i 0 < c.getD j 0)→c∈ext n k fr
 | 0,n,fr,c,hl,_,_=>by
  have:=List.eq_nil_of_length_eq_zero hl
  subst this
  simp [ext]
 | k+1,n,fr,c,hl,hb,hr=>by
  cases c with
  | nil=>simp at hl
  | cons a c=>
   have h0:=hb 0 (by omega)
   simp only [List.getD_cons_zero] at h0
   simp only [ext,List.mem_flatMap,List.mem_map,List.mem_range'_1]
   refine ⟨a.toNat,by omega,c,ext_all k (by simpa using hl) (fun i hi=>?_) (fun i j hij hj=>?_),by congr 1; omega⟩
   ·have h1:=hb (i+1) (by omega)
    have h2:=hr 0 (i+1) (by omega) (by omega)
    simp only [List.getD_cons_succ,List.getD_cons_zero] at h1 h2
    exact ⟨by omega,h1.2⟩
   ·have h2:=hr (i+1) (j+1) (by omega) (by omega)
    simpa only [List.getD_cons_succ] using h2
theorem chosen_ext {k n:Nat} {c:List Int} : c∈chosenL k n↔c∈ext n k 0:=by
 constructor
 ·intro h
  obtain ⟨h1,h2⟩:=chosen_mem k n c h
  exact ext_all k (chosen_row k n c h) (fun i hi=>by have:=h1 i hi; exact ⟨by simpa using this.1,this.2⟩) h2
 ·intro h
  obtain ⟨h1,h2,h3⟩:=ext_rise h
  have:=chosen_all k n (fun i=>(c.getD i 0).toNat) ⟨fun i j hij hj=>by
   have q1:=h3 i j hij hj
   have q2:=h2 i (by omega)
   show (c.getD i 0).toNat < (c.getD j 0).toNat
   omega,fun i hi=>by
   have q2:=h2 i hi
   show (c.getD i 0).toNat < n
   omega⟩
  have e:((List.range k).map fun i=>(((c.getD i 0).toNat:Nat):Int))=c:=by
   apply List.ext_getElem
   ·simp [h1]
   ·intro i q1 q2
    have:=h2 i (by omega)
    have e2:c.getD i 0=c[i]:=by simp [show i < c.length by omega]
    simp only [List.getElem_map,List.getElem_range]
    rw [←e2]
    omega
  rw [e] at this
  exact this
def rowsD (P:List (List Int)) (d:Nat):List (List Int):=(chosenL d P.length).flatMap fun c=>(rowT (pks P [] c) P).toList
theorem mem_rowsD {P:List (List Int)} {d:Nat} {r:List Int} : r∈rowsD P d↔r∈rowsC P [] d P:=by
 rw [←rows_ext]
 unfold rowsD
 simp only [List.mem_flatMap]
 constructor
 ·rintro ⟨c,hc,h⟩
  exact ⟨c,chosen_ext.1 hc,h⟩
 ·rintro ⟨c,hc,h⟩
  exact ⟨c,chosen_ext.2 hc,h⟩
end Go.Proofs.YtadpjlpdfimaeaaGreatDoor

namespace Go.Proofs.YtadpjlpdfimaeaaGreatDoor
open Go.RowKit
attribute [local go_sem ↓] Go.wp_at_zero Go.wp_at_succ
def rowsTo (P:List (List Int)) (C:List (List Int)) (i:Nat):List (List Int):=(C.take i).flatMap fun c=>(rowT (pks P [] c) P).toList
theorem rowsTo_succ (P C:List (List Int)) (i:Nat) (h:i < C.length):rowsTo P C (i+1)=rowsTo P C i ++ (rowT (pks P [] (C.getD i [])) P).toList:=by
 unfold rowsTo
 have e:C.getD i []=C[i]:=by simp [h]
 rw [List.take_succ_eq_append_getElem h,List.flatMap_append,e]
 simp
theorem rowsTo_len (P C:List (List Int)):∀i,(rowsTo P C i).length≤i:=by
 intro i
 induction i with
 | zero=>simp [rowsTo]
 | succ i ih=>
  by_cases h:i < C.length
  ·rw [rowsTo_succ P C i h,List.length_append]
   have:(rowT (pks P [] (C.getD i [])) P).toList.length≤1:=by cases rowT (pks P [] (C.getD i [])) P <;> simp
   omega
  ·have:rowsTo P C (i+1)=rowsTo P C i:=by unfold rowsTo; rw [List.take_of_length_le (by omega),List.take_of_length_le (by omega)]
   rw [this]; omega
theorem pks_in {P:List (List Int)} {c:List Int} (h:∀q∈c,0≤q∧q < (P.length:Int)):∀x∈pks P [] c,x∈P:=by
 intro x hx
 obtain ⟨q,hq,rfl⟩:=List.mem_map.1 hx
 obtain ⟨h1,h2⟩:=h q hq
 simp [show q.toNat < P.length by omega]
theorem rowsD_facts {d:Nat} {P:List (List Int)} (hP:Box d 30 P) (h1:1≤d) (h5:d≤5) (r:List Int) (hr:r∈rowsD P d):RowOf d P r:=by
 unfold rowsD at hr
 obtain ⟨c,hc,hr⟩:=List.mem_flatMap.1 hr
 have hl:=chosen_row d P.length c hc
 refine rowT_facts hP h1 h5 (by rw [←hl]; simp [pks]) (pks_in fun q hq=>?_) (Option.mem_toList.1 hr)
 obtain ⟨i,hi,rfl⟩:=List.mem_iff_getElem.1 hq
 have:=(chosen_mem d P.length c hc).1 i (by omega)
 simpa [hi] using this
end Go.Proofs.YtadpjlpdfimaeaaGreatDoor

namespace Go.Proofs.YtadpjlpdfimaeaaGreatDoor
open Go.RowKit
attribute [local go_sem ↓] Go.wp_at_zero Go.wp_at_succ
def onL (d:Nat) (s:List (List Int)) (x:List Int):List (List Int):=(s.filter fun r=>decide (overL r x=0)).map fun r=>r.take d
theorem nodup_lenL:∀s t:List (List Int),s.Nodup→(∀r∈s,r∈t)→s.length≤t.length
 | [],_,_,_=>by simp
 | a :: s,t,hn,h=>by
  obtain ⟨h1,h2⟩:=List.nodup_cons.1 hn
  have ha:=h a (by simp)
  have ih:=nodup_lenL s (t.erase a) h2 fun r hr=>(List.mem_erase_of_ne (fun e=>h1 (by rw [←e]; exact hr))).2 (h r (by simp [hr]))
  rw [List.length_erase_of_mem ha] at ih
  have:=List.length_pos_of_mem ha
  simp
  omega
theorem SAsc.nodup {s:List (List Int)} (h:SAsc s):s.Nodup:=
 List.Pairwise.imp (fun {a b} hab e=>by
  subst e
  rw [cmpL_self] at hab
  omega) h
theorem rowsD_len {d:Nat} {P s:List (List Int)} (hd:d≤4) (hP:P.length≤16) (hs:SAsc s) (hm:∀r,r∈s↔r∈rowsD P d):s.length≤16777216:=by
 have h1:=nodup_lenL s (rowsD P d) hs.nodup fun r hr=>(hm r).1 hr
 have h2:(rowsD P d).length≤(chosenL d P.length).length:=by
  have h:=rowsTo_len P (chosenL d P.length) (chosenL d P.length).length
  unfold rowsTo at h
  rw [List.take_length] at h
  exact h
 have h3:(chosenL d P.length).length≤16777216:=Nat.le_trans (chosen_len d P.length (by omega)) (Nat.le_trans (Nat.pow_le_pow_right (by decide) hd) (by decide))
 omega
def crn (d:Nat) (s P:List (List Int)):List (List Int):=P.filter fun x=>decide ((pickL d (onL d s x)).length=d)
end Go.Proofs.YtadpjlpdfimaeaaGreatDoor

namespace Go.Proofs.YtadpjlpdfimaeaaGreatDoor
open Go.RowKit
attribute [local go_sem ↓] Go.wp_at_zero Go.wp_at_succ
set_option maxRecDepth 100000 in
set_option maxHeartbeats 400000 in
theorem meet1_any (B:Nat) (r x y:List Int) (u xv yv:Value) (g1 g2:Nat) (w:World) (hu:Sl B 3 w u (ints r)) (h1:w.cell? ⟨g1,0,none⟩=some xv) (h2:w.cell? ⟨g2,0,none⟩=some yv) (hx:Sl B 3 w xv (ints x)) (hy:Sl B 3 w yv (ints y))
  (hlx:r.length=x.length+1) (hly:r.length=y.length+1) (hsx:Sm (r.take x.length) x) (hsy:Sm (r.take y.length) y) :
  Calls Tryz.prog 78 #[u,.pointer (some ⟨g1,0,none⟩),.pointer (some ⟨g2,0,none⟩)] w fun e w'=>e=.returned (.bool (decide (agn r x=0) && !decide (agn r y=0)))∧Below w.heap.size w w':=by
 have HC1:Hid (∀W,Below w.heap.size w W→Calls Tryz.prog 79 #[u,xv] W fun e w'=>e=.returned (.int .i64 (agn r x))∧Below w.heap.size w w'):=fun W hW=>
  (against_any B r x u xv W (hu.below hW (Nat.le_refl _)) (hx.below hW (Nat.le_refl _)) hlx hsx).mono fun e w' h=>⟨h.1,hW.trans (h.2.mono hW.size)⟩
 have HC2:Hid (∀W,Below w.heap.size w W→Calls Tryz.prog 79 #[u,yv] W fun e w'=>e=.returned (.int .i64 (agn r y))∧Below w.heap.size w w'):=fun W hW=>
  (against_any B r y u yv W (hu.below hW (Nat.le_refl _)) (hy.below hW (Nat.le_refl _)) hly hsy).mono fun e w' h=>⟨h.1,hW.trans (h.2.mono hW.size)⟩
 have HK:Hid (∀W,Below w.heap.size w W→W.cell? ⟨g1,0,none⟩=some xv∧W.cell? ⟨g2,0,none⟩=some yv):=fun W hW=>⟨(hW.cell (lt_of_cell h1)).trans h1,(hW.cell (lt_of_cell h2)).trans h2⟩
 clear hu hx hy hlx hly hsx hsy
 generalize agn r x=a at *
 generalize agn r y=b at *
 go_enter Tryz.func78,Tryz.ntmps78
 go_wp2_with fail
 refine (HC1.out w (Below.refl _ _)).mono ?_
 rintro e w1 ⟨rfl,hb1⟩
 have HB1:Hid (Below w.heap.size w w1):=hb1
 have k2:=(HK.out w1 hb1).2
 clear hb1 HC1 h1 h2
 by_cases ha:a=0
 ·subst ha
  go_wp2_with fail
  refine (HC2.out w1 HB1.out).mono ?_
  rintro e w2 ⟨rfl,hb2⟩
  have HB2:Hid (Below w.heap.size w w2):=hb2
  clear hb2 HC2
  by_cases hb:b=0
  ·subst hb
   go_wp2
   go_ret
   exact ⟨rfl,HB2.out⟩
  ·go_wp2
   go_ret
   exact ⟨by simp [hb],HB2.out⟩
 ·go_wp2
  go_ret
  exact ⟨by simp [ha],HB1.out⟩
end Go.Proofs.YtadpjlpdfimaeaaGreatDoor

namespace Go.Proofs.YtadpjlpdfimaeaaGreatDoor
open Go.RowKit
attribute [local go_sem ↓] Go.wp_at_zero Go.wp_at_succ
set_option maxRecDepth 100000 in
set_option maxHeartbeats 800000 in
theorem idxM_any (B:Nat) (f:List Int→Bool) (m:List (List Int)) (v:Value) (p1 p2:Addr) (w:World) (hv:Mat B 22 3 w v m)
  (hc:∀r∈m,∀(W:World) (rv:Value),Below w.heap.size w W→Sl B 3 W rv (ints r)→Calls Tryz.prog 78 #[rv,.pointer (some p1),.pointer (some p2)] W fun e w'=>e=.returned (.bool (f r))∧Below w.heap.size w w') :
  Calls Tryz.prog 77 #[v,.func (.func 78) #[] #[.pointer (some p1),.pointer (some p2)]] w fun e w'=>(∃z,e=.returned (.int .i64 z)∧-1≤z∧z < m.length∧decide (0≤z)=m.any f)∧Below w.heap.size w w':=by
 obtain ⟨ao,cap,hvv,hlc,hcm⟩:=mat_open hv
 subst hvv
 have HV:Hid (Mat B 22 3 w (.slice ao m.length cap) m):=hv
 have HC:Hid (∀r∈m,∀(W:World) (rv:Value),Below w.heap.size w W→Sl B 3 W rv (ints r)→Calls Tryz.prog 78 #[rv,.pointer (some p1),.pointer (some p2)] W fun e w'=>e=.returned (.bool (f r))∧Below w.heap.size w w'):=hc
 clear hv hc
 go_enter Tryz.func77,Tryz.ntmps77
 go_wp2
 go_loopw [8] (fun i wr=>∃k:Nat,k≤m.length∧i=.int .i64 k∧(m.take k).any f=false∧Below w.heap.size w wr) (fun i _=>m.length-(intOf i).toNat)
 case atStart=>exact ⟨0,Nat.zero_le _,rfl,by simp,Below.refl _ _⟩
 case round=>
  obtain ⟨k,hk,rfl,hno,hb⟩:=hrel
  have HN:Hid ((m.take k).any f=false):=hno
  have HB:Hid (Below w.heap.size w wr):=hb
  clear hno hb
  by_cases hlt:k < m.length
  ·obtain ⟨b1,o,cp,r1,hs,hc1,hcc,hr1⟩:=mat_cell (HV.out.below HB.out (Nat.le_refl _)) hlt
   simp only [Value.slice.injEq] at hs
   obtain ⟨rfl,hxx,rfl⟩:=hs
   clear hxx
   have HS1:Hid ((m.take (k+1)).any f=f (m.getD k [])):=anyR_snoc (p:=f) hlt HN.out
   have HME:Hid (m.getD k []∈m):=by
    show _∈_
    simp [hlt]
   have HCA:Hid (Calls Tryz.prog 78 #[r1,.pointer (some p1),.pointer (some p2)] wr fun e w'=>e=.returned (.bool (f (m.getD k [])))∧Below w.heap.size w w'):=HC.out _ HME.out wr r1 HB.out hr1
   clear hr1
   generalize m.getD k []=x at *
   obtain ⟨fb,hfb⟩:∃fb,fb=f x:=⟨_,rfl⟩
   have HFB:Hid (fb=f x):=hfb
   rw [←hfb] at HCA
   clear hfb
   go_wp2_with fail
   refine HCA.out.mono ?_
   rintro e w2 ⟨rfl,hb2⟩
   have HB2:Hid (Below w.heap.size w w2):=hb2
   clear hb2 HCA
   cases hf:fb
   ·have HF:Hid (f x=false):=by rw [←hf]; exact HFB.out.symm
    clear hf
    go_wp2
    go_roundw
    case rel=>exact ⟨k+1,by omega,by go_num,by rw [HS1.out]; exact HF.out,HB2.out⟩
    case measure=>simp [intOf]; omega
   ·have HF:Hid (f x=true):=by rw [←hf]; exact HFB.out.symm
    clear hf
    go_wp2
    go_ret
    refine ⟨⟨_,rfl,by omega,by omega,?_⟩,HB2.out⟩
    rw [decide_eq_true (by omega)]
    exact (List.any_eq_true.2 ⟨x,HME.out,HF.out⟩).symm
  ·have HTK:Hid (m.take k=m):=List.take_of_length_le (by omega)
   go_wp2
   go_ret
   exact ⟨⟨-1,rfl,by omega,by omega,by rw [←HTK.out,HN.out]; rfl⟩,HB.out⟩
set_option maxRecDepth 100000 in
theorem hasM_any (B:Nat) (f:List Int→Bool) (m:List (List Int)) (v:Value) (p1 p2:Addr) (w:World) (hv:Mat B 22 3 w v m)
  (hc:∀r∈m,∀(W:World) (rv:Value),Below w.heap.size w W→Sl B 3 W rv (ints r)→Calls Tryz.prog 78 #[rv,.pointer (some p1),.pointer (some p2)] W fun e w'=>e=.returned (.bool (f r))∧Below w.heap.size w w') :
  Calls Tryz.prog 57 #[v,.func (.func 78) #[] #[.pointer (some p1),.pointer (some p2)]] w fun e w'=>e=.returned (.bool (m.any f))∧Below w.heap.size w w':=by
 have HI:Hid (Calls Tryz.prog 77 #[v,.func (.func 78) #[] #[.pointer (some p1),.pointer (some p2)]] w fun e w'=>(∃z,e=.returned (.int .i64 z)∧-1≤z∧z < m.length∧decide (0≤z)=m.any f)∧Below w.heap.size w w'):=idxM_any B f m v p1 p2 w hv hc
 obtain ⟨ao,cap,hvv,hlc,hcm⟩:=mat_open hv
 subst hvv
 clear hv hc
 generalize m.any f=R at *
 go_enter Tryz.func57,Tryz.ntmps57
 go_wp2_with fail
 refine HI.out.mono ?_
 rintro e w' ⟨⟨z,rfl,hz1,hz2,hz3⟩,hb⟩
 have HZ:Hid (decide (0≤z)=R):=hz3
 have HB:Hid (Below w.heap.size w w'):=hb
 clear hz3 hb
 go_wp2
 go_ret
 exact ⟨ret_bool HZ.out,HB.out⟩
set_option maxRecDepth 100000 in
set_option maxHeartbeats 800000 in
theorem idxC_any (B:Nat) (f:List Int→Bool) (m:List (List Int)) (v:Value) (p1 p2:Addr) (w:World) (hv:Mat B 22 3 w v m)
  (hc:∀r∈m,∀(W:World) (rv:Value),Below w.heap.size w W→Sl B 3 W rv (ints r)→Calls Tryz.prog 58 #[rv,.pointer (some p1),.pointer (some p2)] W fun e w'=>e=.returned (.bool (f r))∧Below w.heap.size w w') :
  Calls Tryz.prog 77 #[v,.func (.func 58) #[] #[.pointer (some p1),.pointer (some p2)]] w fun e w'=>(∃z,e=.returned (.int .i64 z)∧-1≤z∧z < m.length∧decide (0≤z)=m.any f)∧Below w.heap.size w w':=by
 obtain ⟨ao,cap,hvv,hlc,hcm⟩:=mat_open hv
 subst hvv
 have HV:Hid (Mat B 22 3 w (.slice ao m.length cap) m):=hv
 have HC:Hid (∀r∈m,∀(W:World) (rv:Value),Below w.heap.size w W→Sl B 3 W rv (ints r)→Calls Tryz.prog 58 #[rv,.pointer (some p1),.pointer (some p2)] W fun e w'=>e=.returned (.bool (f r))∧Below w.heap.size w w'):=hc
 clear hv hc
 go_enter Tryz.func77,Tryz.ntmps77
 go_wp2
 go_loopw [8] (fun i wr=>∃k:Nat,k≤m.length∧i=.int .i64 k∧(m.take k).any f=false∧Below w.heap.size w wr) (fun i _=>m.length-(intOf i).toNat)
 case atStart=>exact ⟨0,Nat.zero_le _,rfl,by simp,Below.refl _ _⟩
 case round=>
  obtain ⟨k,hk,rfl,hno,hb⟩:=hrel
  have HN:Hid ((m.take k).any f=false):=hno
  have HB:Hid (Below w.heap.size w wr):=hb
  clear hno hb
  by_cases hlt:k < m.length
  ·obtain ⟨b1,o,cp,r1,hs,hc1,hcc,hr1⟩:=mat_cell (HV.out.below HB.out (Nat.le_refl _)) hlt
   simp only [Value.slice.injEq] at hs
   obtain ⟨rfl,hxx,rfl⟩:=hs
   clear hxx
   have HS1:Hid ((m.take (k+1)).any f=f (m.getD k [])):=anyR_snoc (p:=f) hlt HN.out
   have HME:Hid (m.getD k []∈m):=by
    show _∈_
    simp [hlt]
   have HCA:Hid (Calls Tryz.prog 58 #[r1,.pointer (some p1),.pointer (some p2)] wr fun e w'=>e=.returned (.bool (f (m.getD k [])))∧Below w.heap.size w w'):=HC.out _ HME.out wr r1 HB.out hr1
   clear hr1
   generalize m.getD k []=x at *
   obtain ⟨fb,hfb⟩:∃fb,fb=f x:=⟨_,rfl⟩
   have HFB:Hid (fb=f x):=hfb
   rw [←hfb] at HCA
   clear hfb
   go_wp2_with fail
   refine HCA.out.mono ?_
   rintro e w2 ⟨rfl,hb2⟩
   have HB2:Hid (Below w.heap.size w w2):=hb2
   clear hb2 HCA
   cases hf:fb
   ·have HF:Hid (f x=false):=by rw [←hf]; exact HFB.out.symm
    clear hf
    go_wp2
    go_roundw
    case rel=>exact ⟨k+1,by omega,by go_num,by rw [HS1.out]; exact HF.out,HB2.out⟩
    case measure=>simp [intOf]; omega
   ·have HF:Hid (f x=true):=by rw [←hf]; exact HFB.out.symm
    clear hf
    go_wp2
    go_ret
    refine ⟨⟨_,rfl,by omega,by omega,?_⟩,HB2.out⟩
    rw [decide_eq_true (by omega)]
    exact (List.any_eq_true.2 ⟨x,HME.out,HF.out⟩).symm
  ·have HTK:Hid (m.take k=m):=List.take_of_length_le (by omega)
   go_wp2
   go_ret
   exact ⟨⟨-1,rfl,by omega,by omega,by rw [←HTK.out,HN.out]; rfl⟩,HB.out⟩
set_option maxRecDepth 100000 in
theorem hasC_any (B:Nat) (f:List Int→Bool) (m:List (List Int)) (v:Value) (p1 p2:Addr) (w:World) (hv:Mat B 22 3 w v m)
  (hc:∀r∈m,∀(W:World) (rv:Value),Below w.heap.size w W→Sl B 3 W rv (ints r)→Calls Tryz.prog 58 #[rv,.pointer (some p1),.pointer (some p2)] W fun e w'=>e=.returned (.bool (f r))∧Below w.heap.size w w') :
  Calls Tryz.prog 57 #[v,.func (.func 58) #[] #[.pointer (some p1),.pointer (some p2)]] w fun e w'=>e=.returned (.bool (m.any f))∧Below w.heap.size w w':=by
 have HI:Hid (Calls Tryz.prog 77 #[v,.func (.func 58) #[] #[.pointer (some p1),.pointer (some p2)]] w fun e w'=>(∃z,e=.returned (.int .i64 z)∧-1≤z∧z < m.length∧decide (0≤z)=m.any f)∧Below w.heap.size w w'):=idxC_any B f m v p1 p2 w hv hc
 obtain ⟨ao,cap,hvv,hlc,hcm⟩:=mat_open hv
 subst hvv
 clear hv hc
 generalize m.any f=R at *
 go_enter Tryz.func57,Tryz.ntmps57
 go_wp2_with fail
 refine HI.out.mono ?_
 rintro e w' ⟨⟨z,rfl,hz1,hz2,hz3⟩,hb⟩
 have HZ:Hid (decide (0≤z)=R):=hz3
 have HB:Hid (Below w.heap.size w w'):=hb
 clear hz3 hb
 go_wp2
 go_ret
 exact ⟨ret_bool HZ.out,HB.out⟩
end Go.Proofs.YtadpjlpdfimaeaaGreatDoor
