import Derived.Test.YtdanomklbiidaaaGreatDoorMgAN
import Derived.Test.YtdanomklbiidaaaGreatDoorMgAO
import Derived.Test.YtdanomklbiidaaaGreatDoorMgAE
import Derived.Test.YtdanomklbiidaaaGreatDoorMgAI
import Derived.Test.YtdanomklbiidaaaGreatDoorRun9
import Derived.Test.YtdanomklbiidaaaGreatDoorMgAA
import Derived.Test.YtdanomklbiidaaaGreatDoorMgAQ
import Derived.Test.YtdanomklbiidaaaGreatDoorMgAP
namespace Go.Proofs.YtdanomklbiidaaaGreatDoor
open Go.RowKit
attribute [local go_sem ↓] Go.wp_at_zero Go.wp_at_succ
def arr2 (a b:Int):Value:=.agg #[.int .i64 a,.int .i64 b]
set_option maxRecDepth 100000 in
theorem turn_any (a b c e:Int) (w:World) (h1 : -4000000000000000000≤c*b∧c*b≤4000000000000000000) (h2 : -4000000000000000000≤e*a∧e*a≤4000000000000000000) :
  Calls Tryz.prog 107 #[arr2 a b,arr2 c e] w fun r w'=>r=.returned (.int .i64 (c*b-e*a))∧Below w.heap.size w w':=by
 unfold arr2
 obtain ⟨h1a,h1b⟩:=h1
 obtain ⟨h2a,h2b⟩:=h2
 go_enter Tryz.func107,Tryz.ntmps107
 go_wp2
 go_ret
 exact ⟨rfl,((Below.refl _ _).alloc (Nat.le_refl _) _).alloc (by rw [size_alloc]; omega) _⟩
end Go.Proofs.YtdanomklbiidaaaGreatDoor

namespace Go.Proofs.YtdanomklbiidaaaGreatDoor
open Lin
theorem full_of_span {d:Nat} {P:List (List Int)} (hP:∀y∈P,y.length=d) (h:∀c:Nat→Int,(∀y∈P,∀z∈P,dot d c (V y)=dot d c (V z))→∀i,i < d→c i=0):(pickL d (diffL P)).length=d:=by
 have hgr:=pick_greedy d (diffL P)
 have:=(greedy_full hgr).2 (fun v hv=>h v fun y hy z hz=>by
  have key:∀y∈P,dot d v (V y)=dot d v (V (P.getD 0 [])):=fun y hy=>by
   cases hPe:P with
   | nil=>rw [hPe] at hy; simp at hy
   | cons p0 P'=>
    rw [hPe] at hy
    rcases List.mem_cons.1 hy with rfl | hy
    ·rfl
    ·have h1:=hv (V (subL y p0)) (mem_fm.2 ⟨_,by rw [hPe]; simp only [diffL,List.drop_succ_cons,List.drop_zero]; exact List.mem_map.2 ⟨y,hy,rfl⟩,rfl⟩)
     rw [dot_comm,dot_subL v (hP y (by rw [hPe]; simp [hy]))] at h1
     show dot d v (V y)=dot d v (V p0)
     omega
  rw [key y hy,key z hz])
 rw [fm_length] at this
 exact this
end Go.Proofs.YtdanomklbiidaaaGreatDoor

namespace Go.Proofs.YtdanomklbiidaaaGreatDoor
open Lin
theorem corner_of_max {d:Nat} {P:List (List Int)} (hg:Good d P) {x:List Int} (hx:x∈P) {c:Nat→Int} (hmax:∀y∈P,y≠x→dot d c (V y) < dot d c (V x)) :
  ∀v:Nat→Int,(∀r∈rowsC P [] d P,r.getD d 0=dot d (V r) (V x)→dot d (V r) v=0)→∀i,i < d→v i=0:=by
 refine (corner_iff hg (P':=P) (fun _=>Iff.rfl) hx).1 fun y hy hne=>?_
 refine Classical.byContradiction fun hn=>?_
 have hall:∀r∈rowsC P [] d P,RowOf d P r:=fun r hr=>rowsC_fit hg.box hg.d1 (by have:=hg.d4; omega) (fun _=>Iff.rfl) hr
 have h1:=tight_tell hg (P':=P) (fun _=>Iff.rfl) hx (v:=fun j=>V y j-V x j) (c:=c) (fun r hr he=>by
  rw [dot_sub]
  rcases Int.lt_or_le (dot d (V r) (V y)) (r.getD d 0) with h | h
  ·exact absurd ⟨r,hr,he,by omega⟩ hn
  ·have:=(hall r hr).all y hy
   omega) (fun z hz=>by
   by_cases hzx:z=x
   ·subst hzx; exact Int.le_refl _
   ·exact Int.le_of_lt (hmax z hz hzx))
 rw [dot_sub] at h1
 have:=hmax y hy hne
 omega
theorem argmax {α:Type} (g:α→Int):∀P:List α,P≠[]→∃x∈P,∀y∈P,g y≤g x
 | [],h=>absurd rfl h
 | [a],_=>⟨a,by simp,fun y hy=>by simp at hy; subst hy; exact Int.le_refl _⟩
 | a :: b :: P,_=>by
  obtain ⟨x,hx,h⟩:=argmax g (b :: P) (by simp)
  rcases Int.lt_or_le (g x) (g a) with hlt | hle
  ·exact ⟨a,by simp,fun y hy=>by
    rcases List.mem_cons.1 hy with rfl | hy
    ·exact Int.le_refl _
    ·have:=h y hy; omega⟩
  ·exact ⟨x,List.mem_cons_of_mem _ hx,fun y hy=>by
    rcases List.mem_cons.1 hy with rfl | hy
    ·exact hle
    ·exact h y hy⟩
def wgt:Nat→Int
 | 0=>1
 | 1=>201
 | 2=>40401
 | 3=>8120601
 | _=>0
theorem wgt_apart {d:Nat} (h4:d≤4) {z:Nat→Int} (hz:∀i,i < d→-200≤z i∧z i≤200) (h:dot d wgt z=0):∀i,i < d→z i=0:=by
 have cs:d=0∨d=1∨d=2∨d=3∨d=4:=by omega
 rcases cs with rfl | rfl | rfl | rfl | rfl
 ·intro i hi; omega
 ·have h0:=hz 0 (by decide)
  simp only [dot,sumN,wgt] at h
  intro i hi
  obtain rfl:i=0:=by omega
  omega
 ·have h0:=hz 0 (by decide)
  have h1:=hz 1 (by decide)
  simp only [dot,sumN,wgt] at h
  intro i hi
  have:i=0∨i=1:=by omega
  rcases this with rfl | rfl <;> omega
 ·have h0:=hz 0 (by decide)
  have h1:=hz 1 (by decide)
  have h2:=hz 2 (by decide)
  simp only [dot,sumN,wgt] at h
  intro i hi
  have:i=0∨i=1∨i=2:=by omega
  rcases this with rfl | rfl | rfl <;> omega
 ·have h0:=hz 0 (by decide)
  have h1:=hz 1 (by decide)
  have h2:=hz 2 (by decide)
  have h3:=hz 3 (by decide)
  simp only [dot,sumN,wgt] at h
  intro i hi
  have:i=0∨i=1∨i=2∨i=3:=by omega
  rcases this with rfl | rfl | rfl | rfl <;> omega
theorem wgt_small {d:Nat} (h4:d≤4) {z:Nat→Int} (hz:∀i,i < d→-200≤z i∧z i≤200) : -2000000000 < dot d wgt z∧dot d wgt z < 2000000000:=by
 have cs:d=0∨d=1∨d=2∨d=3∨d=4:=by omega
 rcases cs with rfl | rfl | rfl | rfl | rfl
 ·simp [dot,sumN]
 ·have h0:=hz 0 (by decide)
  simp only [dot,sumN,wgt]
  omega
 ·have h0:=hz 0 (by decide)
  have h1:=hz 1 (by decide)
  simp only [dot,sumN,wgt]
  omega
 ·have h0:=hz 0 (by decide)
  have h1:=hz 1 (by decide)
  have h2:=hz 2 (by decide)
  simp only [dot,sumN,wgt]
  omega
 ·have h0:=hz 0 (by decide)
  have h1:=hz 1 (by decide)
  have h2:=hz 2 (by decide)
  have h3:=hz 3 (by decide)
  simp only [dot,sumN,wgt]
  omega
theorem mem_crn {d:Nat} {P s:List (List Int)} (hg:Good d P) (hs:∀r,r∈s↔r∈rowsD P d) (hcr:∀x∈P,((pickL d (onL d s x)).length=d↔∀v:Nat→Int,(∀r∈rowsC P [] d P,r.getD d 0=dot d (V r) (V x)→dot d (V r) v=0)→∀i,i < d→v i=0))
  {x:List Int} (hx:x∈P) {c:Nat→Int} (hmax:∀y∈P,y≠x→dot d c (V y) < dot d c (V x)):x∈crn d s P:=by
 have _:=hs
 unfold crn
 exact List.mem_filter.2 ⟨hx,decide_eq_true ((hcr x hx).2 (corner_of_max hg hx hmax))⟩
theorem corner_max {d:Nat} {P s:List (List Int)} (hg:Good d P) (hs:∀r,r∈s↔r∈rowsD P d) (hcr:∀x∈P,((pickL d (onL d s x)).length=d↔∀v:Nat→Int,(∀r∈rowsC P [] d P,r.getD d 0=dot d (V r) (V x)→dot d (V r) v=0)→∀i,i < d→v i=0)) (c:Nat→Int) :
  ∃x∈crn d s P,∀y∈P,dot d c (V y)≤dot d c (V x):=by
 have hd4:=hg.d4
 have hne:P≠[]:=by
  intro h
  have:=hg.n2
  rw [h] at this
  simp at this
 obtain ⟨x,hx,hmx⟩:=argmax (fun y:List Int=>dot d (fun k=>2000000000*c k+1*wgt k) (V y)) P hne
 have hdf:∀y∈P,∀i,i < d→-200≤V y i-V x i∧V y i-V x i≤200:=fun y hy i hi=>by
  have h1:=(hg.box y hy).2 (V y i) (getD_mem (by rw [(hg.box y hy).1]; exact hi))
  have h2:=(hg.box x hx).2 (V x i) (getD_mem (by rw [(hg.box x hx).1]; exact hi))
  omega
 have key:∀y∈P,2000000000*(dot d c (V y)-dot d c (V x))+dot d wgt (fun j=>V y j-V x j)≤0:=fun y hy=>by
  have h:=hmx y hy
  simp only [dot_lc] at h
  rw [dot_sub]
  omega
 have hle:∀y∈P,dot d c (V y)≤dot d c (V x):=fun y hy=>by
  have h1:=key y hy
  have h2:=wgt_small hd4 (hdf y hy)
  omega
 refine ⟨x,mem_crn hg hs hcr hx (c:=fun k=>2000000000*c k+1*wgt k) (fun y hy hyx=>?_),hle⟩
 have h1:=hmx y hy
 rcases Int.lt_or_le (dot d (fun k=>2000000000*c k+1*wgt k) (V y)) (dot d (fun k=>2000000000*c k+1*wgt k) (V x)) with h | h
 ·exact h
 ·exfalso
  refine hyx (eq_of_all (by rw [(hg.box y hy).1,(hg.box x hx).1]) fun i hi=>?_)
  rw [(hg.box y hy).1] at hi
  simp only [dot_lc] at h h1
  have h3:=hle y hy
  have h4:=wgt_small hd4 (hdf y hy)
  have h5:dot d wgt (fun j=>V y j-V x j)=0:=by
   rw [dot_sub] at h4 ⊢
   omega
  have h6:=wgt_apart hd4 (hdf y hy) h5 i hi
  show V y i=V x i
  omega
theorem corners_good {d:Nat} {P s C:List (List Int)} (hg:Good d P) (hs:∀r,r∈s↔r∈rowsD P d) (hcr:∀x∈P,((pickL d (onL d s x)).length=d↔∀v:Nat→Int,(∀r∈rowsC P [] d P,r.getD d 0=dot d (V r) (V x)→dot d (V r) v=0)→∀i,i < d→v i=0))
  (hC:∀y,y∈C↔y∈crn d s P) (hCn:C.Nodup):Good d C:=by
 have hsub:∀y∈C,y∈P:=fun y hy=>(List.mem_filter.1 ((hC y).1 hy)).1
 have hbox:Box d 30 C:=fun r hr=>hg.box r (hsub r hr)
 have hfull:(pickL d (diffL C)).length=d:=full_of_span (fun y hy=>(hbox y hy).1) fun c hc=>by
  obtain ⟨x1,h1,m1⟩:=corner_max hg hs hcr c
  obtain ⟨x2,h2,m2⟩:=corner_max hg hs hcr (fun k=>- c k)
  have he:=hc x1 ((hC x1).2 h1) x2 ((hC x2).2 h2)
  refine good_span hg c fun y hy z hz=>?_
  have a1:=m1 y hy
  have a2:=m1 z hz
  have a3:=m2 y hy
  have a4:=m2 z hz
  rw [dot_neg,dot_neg] at a3 a4
  omega
 have hlen:2≤C.length:=by
  have h1:=pickL_len d (diffL C)
  have h2:=hg.d1
  rw [diffL_length] at h1
  omega
 refine ⟨hg.d1,hg.dm,hlen,?_,hbox,hfull⟩
 have:=nodup_lenL C P hCn hsub
 have:=hg.n24
 omega
theorem row_some {d:Nat} {C:List (List Int)} (hg:Good d C):∃r,r∈rowsC C [] d C:=by
 refine Classical.byContradiction fun hn=>?_
 have hne:C≠[]:=by
  intro h
  have:=hg.n2
  rw [h] at this
  simp at this
 have hd1:=hg.d1
 obtain ⟨x,hx,hmx⟩:=argmax (fun y:List Int=>dot d (unit 0) (V y)) C hne
 have h:=rows_tell hg (P':=C) (fun _=>Iff.rfl) (q:=[1000]) (fun r hr=>absurd ⟨r,hr⟩ hn) hx (c:=unit 0) hmx
 rw [dot_unit (by omega),dot_unit (by omega)] at h
 have h2:=(hg.box x hx).2 (V x 0) (getD_mem (by rw [(hg.box x hx).1]; omega))
 simp [V] at h h2
 omega
theorem mem_head_drop {t:List (List Int)} {y:List Int} (hy:y∈t):y=t.getD 0 []∨y∈t.drop 1:=by
 cases t with
 | nil=>simp at hy
 | cons a t=>
  rcases List.mem_cons.1 hy with h | h
  ·exact Or.inl h
  ·exact Or.inr h
theorem side_rank {d:Nat} {C:List (List Int)} (hg:Good d C) {r:List Int} (hr:r∈rowsC C [] d C) {p:List (List Int)} (hp:∀y,y∈p↔y∈C∧r.getD d 0=dot d (V r) (V y)):(pickL d (diffL p)).length+1=d:=by
 obtain ⟨t,hts,htl,hrt⟩:=mem_rowsC.1 hr
 obtain ⟨σ,hσ,hnb,hre⟩:=rowT_form htl hrt
 have hnl:(pickL d (diffL t)).length+1=d:=of_decide_eq_true hnb
 obtain ⟨hn0,hn1,hn2⟩:=norm_spec hnl
 have hal:=norm_len hnb
 have hσ0:σ≠0:=by rcases hσ with rfl | rfl <;> decide
 have hVr:∀i,i < d→V r i=σ*V (normL d (diffL t)) i:=fun i hi=>by
  rw [hre]
  have h:=V_map (normL d (diffL t) ++ [dotL (normL d (diffL t)) (t.getD 0 [])]) σ i
  rw [h,(row_app hal).2.2.2 i hi]
 have hlast:r.getD d 0=σ*dotL (normL d (diffL t)) (t.getD 0 []):=by
  rw [hre]
  have h:=V_map (normL d (diffL t) ++ [dotL (normL d (diffL t)) (t.getD 0 [])]) σ d
  simp only [V] at h
  rw [h,(row_app hal).2.2.1]
 have hdr:∀x:Nat→Int,dot d (V r) x=σ*dot d (V (normL d (diffL t))) x:=fun x=>by
  unfold dot
  rw [←sumN_mul]
  exact sumN_congr fun i hi=>by rw [hVr i hi,Int.mul_assoc]
 have hd1:=hg.d1
 have ht0:t.getD 0 []∈t:=by simp [show 0 < t.length by omega]
 have hbox:∀y∈C,y.length=d:=fun y hy=>(hg.box y hy).1
 have hlast2:r.getD d 0=dot d (V r) (V (t.getD 0 [])):=by rw [hlast,hdr,dotL_eq hal]
 have hks:∀y∈t,dot d (V (normL d (diffL t))) (V y)=dot d (V (normL d (diffL t))) (V (t.getD 0 [])):=fun y hy=>by
  rcases mem_head_drop hy with e | hy'
  ·rw [←e]
  ·have h1:=hn1 (subL y (t.getD 0 [])) (List.mem_map.2 ⟨y,hy',rfl⟩)
   rw [dot_comm,dot_subL _ (hbox y (hts.subset hy))] at h1
   omega
 have htp:∀y∈t,y∈p:=fun y hy=>by
  refine (hp y).2 ⟨hts.subset hy,?_⟩
  rw [hlast2,hdr,hdr,hks y hy]
 have hpb:∀y∈p,y.length=d:=fun y hy=>hbox y ((hp y).1 hy).1
 have hp0:p.getD 0 []∈p:=by
  have:=List.length_pos_of_mem (htp _ ht0)
  simp [this]
 have hcount:=greedy_count (pick_greedy d (diffL p)) (a:=V (normL d (diffL t))) hn0 (fun q hq=>by
  obtain ⟨l,hl,rfl⟩:=mem_fm.1 hq
  obtain ⟨y,hy,rfl⟩:=List.mem_map.1 hl
  have hyp:=List.mem_of_mem_drop hy
  rw [dot_comm,dot_subL _ (hpb y hyp)]
  have h1:=((hp y).1 hyp).2
  have h2:=((hp _).1 hp0).2
  rw [h1,hdr,hdr] at h2
  have:=Int.eq_of_mul_eq_mul_left hσ0 h2
  omega) (fun u hu=>hn2 u fun q hq=>by
  have hcon:∀y∈p,dot d u (V y)=dot d u (V (p.getD 0 [])):=fun y hy=>by
   rcases mem_head_drop hy with e | hy'
   ·rw [←e]
   ·have h1:=hu (V (subL y (p.getD 0 []))) (mem_fm.2 ⟨_,List.mem_map.2 ⟨y,hy',rfl⟩,rfl⟩)
    rw [dot_comm,dot_subL _ (hpb y hy)] at h1
    omega
  obtain ⟨y,hy,rfl⟩:=List.mem_map.1 hq
  have hyt:=List.mem_of_mem_drop hy
  rw [dot_comm,dot_subL _ (hpb y (htp y hyt)),hcon y (htp y hyt),hcon _ (htp _ ht0)]
  omega)
 rw [fm_length] at hcount
 exact hcount
end Go.Proofs.YtdanomklbiidaaaGreatDoor

namespace Go.Proofs.YtdanomklbiidaaaGreatDoor
open Lin
theorem row_one {d:Nat} {P:List (List Int)} (hbox:∀y∈P,y.length=d) (hd1:1≤d) {r:List Int} (hr:r∈rowsC P [] d P) :
  ∃t:List (List Int),(∀y∈t,y∈P∧r.getD d 0=dot d (V r) (V y))∧t.getD 0 []∈t∧(∃i,i < d∧V r i≠0)∧∀u:Nat→Int,(∀y∈t,dot d u (V y)=dot d u (V (t.getD 0 [])))→Par d u (V r):=by
 obtain ⟨t,hts,htl,hrt⟩:=mem_rowsC.1 hr
 obtain ⟨σ,hσ,hnb,hre⟩:=rowT_form htl hrt
 have hal:=norm_len hnb
 obtain ⟨⟨p,hp,hne⟩,hn1,hn2⟩:=norm_spec (of_decide_eq_true hnb)
 have hσ0:σ≠0:=by rcases hσ with rfl | rfl <;> decide
 have ht0:t.getD 0 []∈t:=by simp [show 0 < t.length by omega]
 have hVr:∀i,i < d→V r i=σ*V (normL d (diffL t)) i:=fun i hi=>by
  rw [hre]
  have h:=V_map (normL d (diffL t) ++ [dotL (normL d (diffL t)) (t.getD 0 [])]) σ i
  rw [h,(row_app hal).2.2.2 i hi]
 have hlast:r.getD d 0=σ*dotL (normL d (diffL t)) (t.getD 0 []):=by
  rw [hre]
  have h:=V_map (normL d (diffL t) ++ [dotL (normL d (diffL t)) (t.getD 0 [])]) σ d
  simp only [V] at h
  rw [h,(row_app hal).2.2.1]
 have hdr:∀x:Nat→Int,dot d (V r) x=σ*dot d (V (normL d (diffL t))) x:=fun x=>by
  unfold dot
  rw [←sumN_mul]
  exact sumN_congr fun i hi=>by rw [hVr i hi,Int.mul_assoc]
 have hks:∀y∈t,dot d (V (normL d (diffL t))) (V y)=dot d (V (normL d (diffL t))) (V (t.getD 0 [])):=fun y hy=>by
  rcases mem_head_drop hy with e | hy'
  ·rw [←e]
  ·have h1:=hn1 (subL y (t.getD 0 [])) (List.mem_map.2 ⟨y,hy',rfl⟩)
   rw [dot_comm,dot_subL _ (hbox y (hts.subset hy))] at h1
   omega
 refine ⟨t,fun y hy=>⟨hts.subset hy,?_⟩,ht0,⟨p,hp,by rw [hVr p hp]; exact Int.mul_ne_zero hσ0 hne⟩,fun u hu=>?_⟩
 ·rw [hlast,hdr,dotL_eq hal,hks y hy]
 ·have h1:Par d u (V (normL d (diffL t))):=hn2 u fun q hq=>by
   obtain ⟨y,hy,rfl⟩:=List.mem_map.1 hq
   have hyt:=List.mem_of_mem_drop hy
   rw [dot_comm,dot_subL _ (hbox y (hts.subset hyt)),hu y hyt]
   omega
  intro i j hi hj
  have:=h1 i j hi hj
  rw [hVr i hi,hVr j hj]
  grind
theorem row_land {d:Nat} {P0 P:List (List Int)} (hbox:Box d 30 P) (hspan:∀c:Nat→Int,(∀y∈P,∀z∈P,dot d c (V y)=dot d c (V z))→∀i,i < d→c i=0) {r:List Int} (hr:r∈rowsC P0 [] d P0) {x:List Int} (hx:x∈P) (hb:r.getD d 0=dot d (V r) (V x))
  (hv:∀y∈P,dot d (V r) (V y)≤dot d (V r) (V x)) (hone:∀u:Nat→Int,(∀y∈P,dot d (V r) (V y)=dot d (V r) (V x)→dot d u (V y)=dot d u (V x))→Par d u (V r)):r∈rowsC P [] d P:=by
 obtain ⟨t,hts,htl,hrt⟩:=mem_rowsC.1 hr
 obtain ⟨σ,hσ,hnb,hre⟩:=rowT_form htl hrt
 have hl:(pickL d (diffL t)).length+1=d:=of_decide_eq_true hnb
 have hal:=norm_len hnb
 obtain ⟨⟨p,hp,hne⟩,_,_⟩:=norm_spec hl
 obtain ⟨k1,hk1,hmu1⟩:=norm_par hl
 have hn1:normL d (diffL t)=upr (low (muL d (pickL d (diffL t)))):=if_pos hl
 have hlast:∀(a:List Int) (b τ:Int),a.length=d→V ((a ++ [b]).map (τ * ·)) d=τ*b∧∀i,i < d→V ((a ++ [b]).map (τ * ·)) i=τ*V a i:=fun a b τ h=>by
  obtain ⟨_,_,e3,e4⟩:=row_app (b:=b) h
  refine ⟨?_,fun i hi=>by rw [V_map,e4 i hi]⟩
  rw [V_map]
  show τ*(a ++ [b]).getD d 0=_
  rw [e3]
 have hV:∀i,i < d→V r i=σ*V (normL d (diffL t)) i:=fun i hi=>by rw [hre]; exact (hlast _ _ _ hal).2 i hi
 have hσ0:σ≠0:=by rcases hσ with h | h <;> omega
 obtain ⟨r2,hr2,hb2,s,q,hs,hq,hsq⟩:=side_some (c:=V r) hbox hspan hx ⟨p,hp,by rw [hV p hp]; exact Int.mul_ne_zero hσ0 hne⟩ hv hone
 obtain ⟨t2,hts2,htl2,hrt2⟩:=mem_rowsC.1 hr2
 obtain ⟨τ,hτ,hnb2,hre2⟩:=rowT_form htl2 hrt2
 have hτ0:τ≠0:=by rcases hτ with h | h <;> omega
 have hl2:(pickL d (diffL t2)).length+1=d:=of_decide_eq_true hnb2
 have hal2:=norm_len hnb2
 obtain ⟨k2,hk2,hmu2⟩:=norm_par hl2
 have hn2:normL d (diffL t2)=upr (low (muL d (pickL d (diffL t2)))):=if_pos hl2
 have hV2:∀i,i < d→V r2 i=τ*V (normL d (diffL t2)) i:=fun i hi=>by rw [hre2]; exact (hlast _ _ _ hal2).2 i hi
 have haa:normL d (diffL t)=normL d (diffL t2):=by
  rw [hn1,hn2]
  refine norm_eq (a:=s*σ*k2) (b:=q*τ*k1) (Int.mul_ne_zero (Int.mul_ne_zero (by omega) hσ0) hk2) (Int.mul_ne_zero (Int.mul_ne_zero (by omega) hτ0) hk1) ?_
  unfold muL
  rw [List.map_map,List.map_map]
  refine List.map_congr_left fun i hi=>?_
  have hi':i < d:=List.mem_range.1 hi
  show s*σ*k2*mu (fm (pickL d (diffL t))) i=q*τ*k1*mu (fm (pickL d (diffL t2))) i
  have h:=hsq i hi'
  rw [hV i hi',hV2 i hi'] at h
  rw [hmu1 i hi',hmu2 i hi']
  grind
 have hst:σ=τ:=by
  have h:=hsq p hp
  rw [hV p hp,hV2 p hp,←haa] at h
  have h':s*σ*V (normL d (diffL t)) p=q*τ*V (normL d (diffL t)) p:=by grind
  have h2:=Int.eq_of_mul_eq_mul_right hne h'
  rcases hσ with rfl | rfl <;> rcases hτ with rfl | rfl <;> omega
 have hlst:σ*dotL (normL d (diffL t)) (t.getD 0 [])=τ*dotL (normL d (diffL t2)) (t2.getD 0 []):=by
  have e1:=(hlast (normL d (diffL t)) (dotL (normL d (diffL t)) (t.getD 0 [])) σ hal).1
  have e2:=(hlast (normL d (diffL t2)) (dotL (normL d (diffL t2)) (t2.getD 0 [])) τ hal2).1
  rw [←hre] at e1
  rw [←hre2] at e2
  rw [←e1,←e2]
  show r.getD d 0=r2.getD d 0
  rw [hb,hb2]
  unfold dot
  exact sumN_congr fun i hi=>by rw [hV i hi,hV2 i hi,haa,hst]
 have:r=r2:=by
  rw [hre,hre2,List.map_append,List.map_append,←haa,←hst]
  rw [←haa,←hst] at hlst
  simp only [List.map_cons,List.map_nil]
  rw [hlst]
 rw [this]
 exact hr2
theorem rows_corners {d:Nat} {P s C:List (List Int)} (hg:Good d P) (hs:∀r,r∈s↔r∈rowsD P d) (hcr:∀x∈P,((pickL d (onL d s x)).length=d↔∀v:Nat→Int,(∀r∈rowsC P [] d P,r.getD d 0=dot d (V r) (V x)→dot d (V r) v=0)→∀i,i < d→v i=0))
  (hC:∀y,y∈C↔y∈crn d s P) (hCn:C.Nodup) (r:List Int):r∈rowsC C [] d C↔r∈rowsC P [] d P:=by
 have hgC:=corners_good hg hs hcr hC hCn
 have hd5:d≤5:=by have:=hg.d4; omega
 have hsub:∀y∈C,y∈P:=fun y hy=>(List.mem_filter.1 ((hC y).1 hy)).1
 constructor
 ·intro hr
  have hrow:=rowsC_fit hgC.box hgC.d1 hd5 (fun _=>Iff.rfl) hr
  obtain ⟨t,ht1,ht0,_,ht2⟩:=row_one (fun y hy=>(hgC.box y hy).1) hg.d1 hr
  have hx:=ht1 _ ht0
  refine row_land hg.box (good_span hg) hr (hsub _ hx.1) hx.2 (fun y hy=>?_) (fun u hu=>ht2 u fun y hy=>?_)
  ·obtain ⟨x1,h1,m1⟩:=corner_max hg hs hcr (V r)
   have a1:=m1 y hy
   have a2:=hrow.all x1 ((hC x1).2 h1)
   rw [←hx.2]
   omega
  ·exact hu y (hsub y (ht1 y hy).1) (by rw [←(ht1 y hy).2,←hx.2])
 ·intro hr
  have hrow:=rowsC_fit hg.box hg.d1 hd5 (fun _=>Iff.rfl) hr
  obtain ⟨t,ht1,ht0,_,ht2⟩:=row_one (fun y hy=>(hg.box y hy).1) hg.d1 hr
  obtain ⟨x1,h1,m1⟩:=corner_max hg hs hcr (V r)
  have hx1P:=(List.mem_filter.1 h1).1
  have hx1:r.getD d 0=dot d (V r) (V x1):=by
   have a1:=m1 _ (ht1 _ ht0).1
   have a2:=hrow.all x1 hx1P
   have a3:=(ht1 _ ht0).2
   omega
  refine row_land hgC.box (good_span hgC) hr ((hC x1).2 h1) hx1 (fun y hy=>?_) (fun u hu=>ht2 u ?_)
  ·rw [←hx1]
   exact hrow.all y (hsub y hy)
  ·-- what is one and the same at all corners of a side is so at all its points
   have hne:P≠[]:=by
    intro h
    have:=hg.n2
    rw [h] at this
    simp at this
   obtain ⟨y0,hy0,hM⟩:=argmax (fun y:List Int=>((dot d u (V y)).natAbs:Int)) P hne
   obtain ⟨M,hMe⟩:∃M:Int,M=((dot d u (V y0)).natAbs:Int):=⟨_,rfl⟩
   have hbd:∀y∈P,-M≤dot d u (V y)∧dot d u (V y)≤M:=fun y hy=>by
    have:=hM y hy
    omega
   have half:∀e:Int,e=1∨e=-1→∀y∈P,r.getD d 0=dot d (V r) (V y)→e*dot d u (V y)≤e*dot d u (V x1):=fun e he y hy hty=>by
    obtain ⟨z,hz,mz⟩:=corner_max hg hs hcr (fun k=>(2*M+1)*V r k+e*u k)
    have hzP:=(List.mem_filter.1 hz).1
    have a1:=mz y hy
    rw [dot_lc,dot_lc] at a1
    have b1:=hbd y hy
    have b2:=hbd z hzP
    have a2:=hrow.all z hzP
    have hzt:r.getD d 0=dot d (V r) (V z):=by
     rcases Int.lt_or_le (dot d (V r) (V z)) (r.getD d 0) with hlt | hge
     ·exfalso
      rw [←hty] at a1
      have hle:dot d (V r) (V z)≤r.getD d 0-1:=by omega
      have hM0:0≤2*M+1:=by omega
      have h3:=Int.mul_le_mul_of_nonneg_left hle hM0
      have h4:(2*M+1)*(r.getD d 0-1)=(2*M+1)*r.getD d 0-(2*M+1):=by grind
      generalize (2*M+1)*r.getD d 0=K at *
      generalize (2*M+1)*dot d (V r) (V z)=K2 at *
      rcases he with rfl | rfl <;> omega
     ·omega
    have hzx:=hu z ((hC z).2 hz) (by rw [←hzt,←hx1])
    rw [←hty,←hzt,hzx] at a1
    omega
   intro y hy
   have q1:=half 1 (Or.inl rfl) y (ht1 y hy).1 (ht1 y hy).2
   have q2:=half (-1) (Or.inr rfl) y (ht1 y hy).1 (ht1 y hy).2
   have q3:=half 1 (Or.inl rfl) _ (ht1 _ ht0).1 (ht1 _ ht0).2
   have q4:=half (-1) (Or.inr rfl) _ (ht1 _ ht0).1 (ht1 _ ht0).2
   omega
end Go.Proofs.YtdanomklbiidaaaGreatDoor
