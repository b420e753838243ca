import Derived.Test.YtdanomklbiidaaaGreatDoorMgAN
import Derived.Test.YtdanomklbiidaaaGreatDoorLinAll
import Derived.Test.YtdanomklbiidaaaGreatDoorMgAI
import Derived.Test.YtdanomklbiidaaaGreatDoorMgAL
import Derived.Deep.QuietTactic
import Derived.BigQuiet
namespace Go.Proofs.YtdanomklbiidaaaGreatDoor
open Lin
theorem dotL_eq {d:Nat} {a:List Int} (h:a.length=d) (x:List Int):dotL a x=dot d (V a) (V x):=by subst h; rfl
theorem dot_sub (d:Nat) (c x y:Nat→Int):dot d c (fun j=>x j-y j)=dot d c x-dot d c y:=by
 unfold dot
 have:sumN d (fun i=>c i*(x i-y i))=sumN d (fun i=>c i*x i+(-1)*(c i*y i)):=sumN_congr fun i _=>by grind
 rw [this,sumN_add,sumN_mul]; omega
theorem dot_subL {d:Nat} (c:Nat→Int) {r b:List Int} (h:r.length=d):dot d c (V (subL r b))=dot d c (V r)-dot d c (V b):=by
 rw [←dot_sub]
 exact dot_congr (fun _ _=>rfl) (fun i hi=>by simp only [V]; rw [subL_at (by omega)])
theorem V_take {r:List Int} {d i:Nat} (hi:i < d):V (r.take d) i=V r i:=by
 simp only [V,List.getD_eq_getElem?_getD]; rw [List.getElem?_take_of_lt hi]
theorem chs_sub:∀(k:Nat) (l t:List (List Int)),t∈chs k l→t.Sublist l∧t.length=k
 | 0,l,t,h=>by simp [chs] at h; subst h; exact ⟨List.nil_sublist _,rfl⟩
 | k+1,[],t,h=>by simp [chs] at h
 | k+1,x :: xs,t,h=>by
  simp only [chs,List.mem_append,List.mem_map] at h
  rcases h with ⟨c,hc,rfl⟩ | h
  ·obtain ⟨h1,h2⟩:=chs_sub k xs c hc
   exact ⟨h1.cons_cons _,by simp [h2]⟩
  ·obtain ⟨h1,h2⟩:=chs_sub (k+1) xs t h
   exact ⟨h1.cons _,h2⟩
theorem sub_chs {l t:List (List Int)} (h:t.Sublist l):t∈chs t.length l:=by
 induction h with
 | slnil=>simp [chs]
 | cons a _ ih=>
  rename_i l1 l2 hs
  cases l1 with
  | nil=>simp [chs]
  | cons b l1=>
   simp only [List.length_cons,chs,List.mem_append]
   exact Or.inr ih
 | cons_cons a _ ih=>
  simp only [List.length_cons,chs,List.mem_append,List.mem_map]
  exact Or.inl ⟨_,ih,rfl⟩
theorem mem_rowsC {P:List (List Int)} {d:Nat} {r:List Int} : r∈rowsC P [] d P↔∃t,t.Sublist P∧t.length=d∧rowT t P=some r:=by
 unfold rowsC
 simp only [List.mem_flatMap,List.nil_append,Option.mem_toList]
 constructor
 ·rintro ⟨t,ht,hr⟩
  obtain ⟨h1,h2⟩:=chs_sub _ _ _ ht
  exact ⟨t,h1,h2,hr⟩
 ·rintro ⟨t,h1,h2,hr⟩
  refine ⟨t,?_,hr⟩
  rw [←h2]; exact sub_chs h1
structure RowOf (d:Nat) (P:List (List Int)) (r:List Int):Prop where
 len:r.length=d+1
 bd:∀z∈r.take d,z.natAbs≤1000000000000
 all:∀x∈P,dot d (V r) (V x)≤r.getD d 0
theorem row_app {a:List Int} {b:Int} {d:Nat} (h:a.length=d):(a ++ [b]).length=d+1∧(a ++ [b]).take d=a∧(a ++ [b]).getD d 0=b∧∀i,i < d→V (a ++ [b]) i=V a i:=by
 subst h
 refine ⟨by simp,by simp,by simp,fun i hi=>?_⟩
 simp only [V,List.getD_eq_getElem?_getD]; rw [List.getElem?_append_left hi]
theorem rowT_facts {d:Nat} {P t:List (List Int)} {r:List Int} (hP:Box d 30 P) (h1:1≤d) (h5:d≤5) (ht:t.length=d) (hm:∀x∈t,x∈P) (hr:rowT t P=some r):RowOf d P r:=by
 have hx:Mx d 60 (diffL t):=diff_mx (fun x hx=>hP x (hm x hx)) h1 h5
 unfold rowT at hr
 rw [ht] at hr
 split at hr
 ·rename_i hnb
  have hl:=norm_len hnb
  have hbd:=norm_bd hx
  generalize normL d (diffL t)=a at *
  generalize dotL a (t.getD 0 [])=b at *
  obtain ⟨e1,e2,e3,e4⟩:=row_app (b:=b) hl
  split at hr
  ·rename_i hup
   simp only [Option.some.injEq] at hr
   subst hr
   refine ⟨e1,by rw [e2]; exact hbd,fun x hx=>?_⟩
   rw [e3,dot_congr e4 (fun _ _=>rfl),←dotL_eq hl]
   have:=List.any_eq_false.1 hup x hx
   simpa using this
  ·split at hr
   ·rename_i _ hdn
    simp only [Option.some.injEq] at hr
    subst hr
    refine ⟨by simpa using e1,?_,fun x hx=>?_⟩
    ·rw [←List.map_take,e2]
     intro z hz
     simp only [List.mem_map] at hz
     obtain ⟨y,hy,rfl⟩:=hz
     rw [Int.natAbs_neg]; exact hbd y hy
    ·have e5:((a ++ [b]).map fun z=>-z).getD d 0=-b:=by
      have:=V_neg (a ++ [b]) d
      simp only [V] at this
      rw [this,e3]
     rw [e5,dot_congr (b:=fun i=>- V a i) (fun i hi=>by rw [V_neg,e4 i hi]) (fun _ _=>rfl),dot_neg,←dotL_eq hl]
     have:=List.any_eq_false.1 hdn x hx
     simp at this
     omega
   ·simp at hr
 ·simp at hr
theorem rowsC_fit {d:Nat} {P P':List (List Int)} (hP:Box d 30 P) (h1:1≤d) (h5:d≤5) (hm:∀r,r∈P'↔r∈P) {r:List Int} (hr:r∈rowsC P' [] d P'):RowOf d P r:=by
 obtain ⟨t,ht,hl,he⟩:=mem_rowsC.1 hr
 have hP':Box d 30 P':=fun x hx=>hP x ((hm x).1 hx)
 have h:=rowT_facts hP' h1 h5 hl (fun x hx=>ht.subset hx) he
 exact ⟨h.len,h.bd,fun x hx=>h.all x ((hm x).2 hx)⟩
end Go.Proofs.YtdanomklbiidaaaGreatDoor
namespace Go.Proofs.YtdanomklbiidaaaGreatDoor
open Lin
theorem pickL_sub (c:Nat) (m:List (List Int)):(pickL c m).Sublist m:=by
 have:∀(m h:List (List Int)),∃s,s.Sublist m∧m.foldl (fun h r=>if freeL c (h ++ [r]) then h ++ [r] else h) h=h ++ s:=by
  intro m
  induction m with
  | nil=>intro h; exact ⟨[],List.Sublist.refl _,by simp⟩
  | cons x m ih=>
   intro h
   rw [List.foldl_cons]
   by_cases hf:freeL c (h ++ [x])=true
   ·rw [if_pos hf]
    obtain ⟨s,hs,he⟩:=ih (h ++ [x])
    exact ⟨x :: s,hs.cons_cons _,by rw [he]; simp⟩
   ·rw [if_neg hf]
    obtain ⟨s,hs,he⟩:=ih h
    exact ⟨s,hs.cons _,he⟩
 obtain ⟨s,hs,he⟩:=this m []
 unfold pickL
 rw [he]; simpa using hs
theorem side_some {d:Nat} {P:List (List Int)} (hP:Box d 30 P) (hspan:∀c:Nat→Int,(∀y∈P,∀z∈P,dot d c (V y)=dot d c (V z))→∀i,i < d→c i=0) {x:List Int} (hx:x∈P) {c:Nat→Int} (hc:∃i,i < d∧c i≠0)
  (hmax:∀y∈P,dot d c (V y)≤dot d c (V x)) (hone:∀u:Nat→Int,(∀y∈P,dot d c (V y)=dot d c (V x)→dot d u (V y)=dot d u (V x))→Par d u c) :
  ∃r,r∈rowsC P [] d P∧r.getD d 0=dot d (V r) (V x)∧∃s t:Int,0 < s∧0 < t∧∀i,i < d→s*c i=t*V r i:=by
 -- the points of the side
 obtain ⟨T,hT⟩:∃T,T=P.filter fun y=>decide (dot d c (V y)=dot d c (V x)):=⟨_,rfl⟩
 have hTs:T.Sublist P:=by rw [hT]; exact List.filter_sublist
 have hTm:∀y,y∈T↔y∈P∧dot d c (V y)=dot d c (V x):=fun y=>by rw [hT]; simp
 have hxT:x∈T:=(hTm x).2 ⟨hx,rfl⟩
 cases T with
 | nil=>simp at hxT
 | cons t0 T'=>
  have h0:=(hTm t0).1 (by simp)
  have hlen:∀y∈P,y.length=d:=fun y hy=>(hP y hy).1
  have hD:diffL (t0 :: T')=T'.map fun y=>subL y t0:=by simp [diffL]
  obtain ⟨D,hDe⟩:∃D,D=T'.map fun y=>subL y t0:=⟨_,rfl⟩
  have hsub:∀(u:Nat→Int) (y:List Int),y∈T'→dot d u (V (subL y t0))=dot d u (V y)-dot d u (V t0):=fun u y hy=>
   dot_subL u (hlen y ((hTm y).1 (by simp [hy])).1)
  -- what is 0 with all of D is c,so many times
  have hDc:∀r∈fm D,dot d r c=0:=fun r hr=>by
   obtain ⟨l,hl,rfl⟩:=mem_fm.1 hr
   rw [hDe,List.mem_map] at hl
   obtain ⟨y,hy,rfl⟩:=hl
   rw [dot_comm,hsub c y hy,((hTm y).1 (by simp [hy])).2,h0.2]; omega
  have hDo:∀u:Nat→Int,(∀r∈fm D,dot d r u=0)→Par d u c:=fun u hu=>by
   have h1:∀y∈t0 :: T',dot d u (V y)=dot d u (V t0):=fun y hy=>by
    rcases List.mem_cons.1 hy with rfl | hy
    ·rfl
    ·have:=hu (V (subL y t0)) (mem_fm.2 ⟨_,by rw [hDe]; exact List.mem_map.2 ⟨y,hy,rfl⟩,rfl⟩)
     rw [dot_comm,hsub u y hy] at this
     omega
   exact hone u fun y hy he=>by rw [h1 y ((hTm y).2 ⟨hy,he⟩),h1 x hxT]
  have hgr:=pick_greedy d D
  have hcnt:=greedy_count hgr hc hDc hDo
  rw [fm_length] at hcnt
  -- the choice
  have hps:=pickL_sub d D
  rw [hDe] at hps
  obtain ⟨S,hS,hSe⟩:=List.sublist_map_iff.1 hps
  rw [←hDe] at hSe
  obtain ⟨t,ht⟩:∃t,t=t0 :: S:=⟨_,rfl⟩
  have htT:t.Sublist (t0 :: T'):=by rw [ht]; exact hS.cons_cons _
  have htP:=htT.trans hTs
  have htl:t.length=d:=by
   have:=congrArg List.length hSe
   rw [List.length_map] at this
   rw [ht,List.length_cons]; omega
  have hdt:diffL t=pickL d D:=by rw [hSe,ht]; simp [diffL]
  have hpo:∀u:Nat→Int,(∀r∈fm (diffL t),dot d r u=0)→Par d u c:=fun u hu=>hDo u fun r hr=>
   dot_dep (hgr.dep r hr) (fun i hi=>hu _ (by rw [hdt]; exact row_mem hi))
  have hpc:∀r∈fm (diffL t),dot d r c=0:=fun r hr=>hDc r (hgr.mem r (by rw [←hdt]; exact hr))
  have hg2:=pick_greedy d (diffL t)
  have hcnt2:=greedy_count hg2 hc hpc hpo
  have hcnt3:(pickL d (diffL t)).length+1=d:=by rw [fm_length] at hcnt2; exact hcnt2
  have hnb:normB d (diffL t)=true:=decide_eq_true hcnt3
  obtain ⟨⟨p0,hp0,hne0⟩,hmo,_⟩:=greedy_one hg2 hcnt2
  obtain ⟨k,hk,hka⟩:=norm_par hcnt3
  have hla:=norm_len hnb
  obtain ⟨a,ha⟩:∃a,a=normL d (diffL t):=⟨_,rfl⟩
  rw [←ha] at hka hla
  -- the normal is c,so many times
  have hpar:Par d (mu (fm (pickL d (diffL t)))) c:=hpo _ hmo
  have hap:V a p0≠0:=by
   intro h
   rw [hka p0 hp0,h] at hne0
   simp at hne0
  have hac:∀i,i < d→V a p0*c i=c p0*V a i:=fun i hi=>by
   have h1:=hpar p0 i hp0 hi
   rw [hka p0 hp0,hka i hi] at h1
   have h2:k*(V a p0*c i)=k*(c p0*V a i):=by grind
   exact Int.eq_of_mul_eq_mul_left hk h2
  have hcp:c p0≠0:=by
   intro h
   obtain ⟨i,hi,hci⟩:=hc
   have h1:=hac i hi
   rw [h,Int.zero_mul] at h1
   rcases Int.mul_eq_zero.1 h1 with h2 | h2
   ·exact hap h2
   ·exact hci h2
  have hdot:∀v:Nat→Int,V a p0*dot d c v=c p0*dot d (V a) v:=fun v=>by
   unfold dot
   rw [←sumN_mul,←sumN_mul]
   exact sumN_congr fun i hi=>by
    have:=hac i hi
    rw [←Int.mul_assoc,this,Int.mul_assoc]
  have hal:∀y,dotL a y=dot d (V a) (V y):=fun y=>dotL_eq hla y
  have hb0:dot d (V a) (V t0)=dot d (V a) (V x):=by
   have h1:=hdot (V t0)
   have h2:=hdot (V x)
   rw [h0.2,h2] at h1
   exact (Int.eq_of_mul_eq_mul_left hcp h1).symm
  have ht0:t.getD 0 []=t0:=by rw [ht]; rfl
  obtain ⟨b,hb⟩:∃b,b=dotL a t0:=⟨_,rfl⟩
  have hbx:b=dot d (V a) (V x):=by rw [hb,hal,hb0]
  have hrt:rowT t P=if (P.any fun y=>decide (b < dotL a y))=false then some (a ++ [b]) else if (P.any fun y=>decide (dotL a y < b))=false then some ((a ++ [b]).map fun z=>-z) else none:=by
   unfold rowT
   rw [htl,if_pos hnb,←ha,ht0,←hb]
  obtain ⟨e1,e2,e3,e4⟩:=row_app (b:=b) hla
  have hsq:0 < V a p0*V a p0:=by
   rcases Int.lt_or_gt_of_ne hap with h | h
   ·exact Int.mul_pos_of_neg_of_neg h h
   ·exact Int.mul_pos h h
  rcases Int.lt_or_gt_of_ne (Int.mul_ne_zero hap hcp) with hs | hs
  ·-- the other way
   have hge:∀y∈P,b≤dotL a y:=fun y hy=>by
    rw [hal,hbx]
    have h1:=hmax y hy
    have h2:=hdot (V y)
    have h3:=hdot (V x)
    have h4:V a p0*c p0*(dot d (V a) (V y)-dot d (V a) (V x))=V a p0*V a p0*(dot d c (V y)-dot d c (V x)):=by grind
    have h5:V a p0*V a p0*(dot d c (V y)-dot d c (V x))≤0:=Int.mul_nonpos_of_nonneg_of_nonpos (Int.le_of_lt hsq) (by omega)
    rcases Int.lt_or_le (dot d (V a) (V y)-dot d (V a) (V x)) 0 with h6 | h6
    ·have:=Int.mul_pos_of_neg_of_neg hs h6; omega
    ·omega
   have hdn:(P.any fun y=>decide (dotL a y < b))=false:=by
    rw [List.any_eq_false]; intro y hy; have:=hge y hy; simp; omega
   have hup:¬(P.any fun y=>decide (b < dotL a y))=false:=by
    intro h
    have hall:∀y∈P,dot d (V a) (V y)=b:=fun y hy=>by
     have h1:=List.any_eq_false.1 h y hy
     have h2:=hge y hy
     simp at h1
     rw [←hal]; omega
    exact hap (hspan (V a) (fun y hy z hz=>by rw [hall y hy,hall z hz]) p0 hp0)
   rw [if_neg hup,if_pos hdn] at hrt
   have e5:((a ++ [b]).map fun z=>-z).getD d 0=-b:=by
    have:=V_neg (a ++ [b]) d
    simp only [V] at this
    rw [this,e3]
   refine ⟨_,mem_rowsC.2 ⟨t,htP,htl,hrt⟩,?_,V a p0*V a p0,-(V a p0*c p0),hsq,by omega,fun i hi=>?_⟩
   ·rw [e5,dot_congr (b:=fun i=>- V a i) (fun i hi=>by rw [V_neg,e4 i hi]) (fun _ _=>rfl),dot_neg,hbx]
   ·rw [V_neg,e4 i hi]
    have:=hac i hi
    grind
  ·-- this way
   have hle:∀y∈P,dotL a y≤b:=fun y hy=>by
    rw [hal,hbx]
    have h1:=hmax y hy
    have h2:=hdot (V y)
    have h3:=hdot (V x)
    have h4:V a p0*c p0*(dot d (V a) (V y)-dot d (V a) (V x))=V a p0*V a p0*(dot d c (V y)-dot d c (V x)):=by grind
    have h5:V a p0*V a p0*(dot d c (V y)-dot d c (V x))≤0:=Int.mul_nonpos_of_nonneg_of_nonpos (Int.le_of_lt hsq) (by omega)
    rcases Int.lt_or_le 0 (dot d (V a) (V y)-dot d (V a) (V x)) with h6 | h6
    ·have:=Int.mul_pos hs h6; omega
    ·omega
   have hup:(P.any fun y=>decide (b < dotL a y))=false:=by
    rw [List.any_eq_false]; intro y hy; have:=hle y hy; simp; omega
   rw [if_pos hup] at hrt
   refine ⟨_,mem_rowsC.2 ⟨t,htP,htl,hrt⟩,?_,V a p0*V a p0,V a p0*c p0,hsq,hs,fun i hi=>?_⟩
   ·rw [e3,dot_congr e4 (fun _ _=>rfl),hbx]
   ·rw [e4 i hi]
    have:=hac i hi
    grind
theorem good_span {d:Nat} {P:List (List Int)} (hg:Good d P):∀c:Nat→Int,(∀y∈P,∀z∈P,dot d c (V y)=dot d c (V z))→∀i,i < d→c i=0:=by
 intro c hc
 have hgr:=pick_greedy d (diffL P)
 refine (greedy_full hgr).1 (by rw [fm_length]; exact hg.full) c fun r hr=>?_
 obtain ⟨l,hl,rfl⟩:=mem_fm.1 hr
 simp only [diffL,List.mem_map] at hl
 obtain ⟨y,hy,rfl⟩:=hl
 have hyP:=List.mem_of_mem_drop hy
 have h0:P.getD 0 []∈P:=by simp [show 0 < P.length by have:=hg.n2; omega]
 rw [dot_comm,dot_subL c (hg.box y hyP).1,hc y hyP _ h0]; omega
theorem rows_tell {d:Nat} {P P':List (List Int)} (hg:Good d P) (hm:∀r,r∈P'↔r∈P) {q:List Int} (hq:∀r∈rowsC P' [] d P',dot d (V r) (V q)≤r.getD d 0) {x:List Int} (hx:x∈P) {c:Nat→Int} (hmax:∀y∈P,dot d c (V y)≤dot d c (V x)) :
  dot d c (V q)≤dot d c (V x):=by
 have hspan:=good_span hg
 have hP':Box d 30 P':=fun r hr=>hg.box r ((hm r).1 hr)
 have hsub:∀(c:Nat→Int) (y:List Int),dot d c (fun j=>V y j-V x j)=dot d c (V y)-dot d c (V x):=fun c y=>dot_sub d c (V y) (V x)
 have h:=cone (d:=d) (Z:=P.map fun y j=>V y j-V x j) (v:=fun j=>V q j-V x j) (fun c hc i hi=>by
   refine hspan c (fun y hy z hz=>?_) i hi
   have h1:=hc _ (List.mem_map.2 ⟨y,hy,rfl⟩)
   have h2:=hc _ (List.mem_map.2 ⟨z,hz,rfl⟩)
   rw [hsub] at h1 h2
   omega) (fun c hcn hle hone=>by
   obtain ⟨r,hr,hrx,s,t,hs,ht,hst⟩:=side_some (P:=P') (x:=x) hP' (fun c hc=>hspan c fun y hy z hz=>hc y ((hm y).2 hy) z ((hm z).2 hz)) ((hm x).2 hx) hcn (fun y hy=>by
     have:=hle _ (List.mem_map.2 ⟨y,(hm y).1 hy,rfl⟩)
     rw [hsub] at this
     omega) (fun u hu=>hone u fun z hz h0=>by
     obtain ⟨y,hy,rfl⟩:=List.mem_map.1 hz
     rw [hsub] at h0 ⊢
     have:=hu y ((hm y).2 hy) (by omega)
     omega)
   have h1:=hq r hr
   rw [hsub]
   have h2:s*(dot d c (V q)-dot d c (V x))=t*(dot d (V r) (V q)-dot d (V r) (V x)):=by
    rw [←dot_sub,←dot_sub]
    unfold dot
    rw [←sumN_mul,←sumN_mul]
    exact sumN_congr fun i hi=>by rw [←Int.mul_assoc,hst i hi,Int.mul_assoc]
   have h3:t*(dot d (V r) (V q)-dot d (V r) (V x))≤0:=Int.mul_nonpos_of_nonneg_of_nonpos (Int.le_of_lt ht) (by omega)
   rcases Int.lt_or_le 0 (dot d c (V q)-dot d c (V x)) with h4 | h4
   ·have:=Int.mul_pos hs h4; omega
   ·exact h4) _ c (Nat.le_refl _) (fun z hz=>by
   obtain ⟨y,hy,rfl⟩:=List.mem_map.1 hz
   rw [hsub]
   have:=hmax y hy
   omega)
 rw [hsub] at h
 omega
end Go.Proofs.YtdanomklbiidaaaGreatDoor

namespace Go.Proofs.YtdanomklbiidaaaGreatDoor
open Lin
theorem rowT_form {d:Nat} {P t:List (List Int)} {r:List Int} (ht:t.length=d) (hr:rowT t P=some r) :
  ∃σ:Int,(σ=1∨σ=-1)∧normB d (diffL t)=true∧r=(normL d (diffL t) ++ [dotL (normL d (diffL t)) (t.getD 0 [])]).map (σ * ·):=by
 unfold rowT at hr
 rw [ht] at hr
 split at hr
 ·rename_i hnb
  split at hr
  ·simp only [Option.some.injEq] at hr
   exact ⟨1,Or.inl rfl,hnb,by rw [←hr]; simp⟩
  ·split at hr
   ·simp only [Option.some.injEq] at hr
    refine ⟨-1,Or.inr rfl,hnb,?_⟩
    rw [←hr]
    exact List.map_congr_left fun z _=>by omega
   ·simp at hr
 ·simp at hr
theorem V_map (l:List Int) (σ:Int) (i:Nat):V (l.map (σ * ·)) i=σ*V l i:=by
 simp only [V,List.getD_eq_getElem?_getD,List.getElem?_map]
 cases l[i]? <;> simp
theorem rows_same0 {d:Nat} {P P':List (List Int)} (hbox:Box d 30 P) (hd1:1≤d) (hd4:d≤4) (hspan:∀c:Nat→Int,(∀y∈P,∀z∈P,dot d c (V y)=dot d c (V z))→∀i,i < d→c i=0) (hm:∀r,r∈P'↔r∈P) {r:List Int} (hr:r∈rowsC P' [] d P'):r∈rowsC P [] d P:=by
 have hRow:RowOf d P r:=rowsC_fit hbox hd1 (by omega) hm hr
 obtain ⟨t,hts,htl,hrt⟩:=mem_rowsC.1 hr
 obtain ⟨σ,hσ,hnb,hre⟩:=rowT_form htl hrt
 have htP:∀y∈t,y∈P:=fun y hy=>(hm y).1 (hts.mem hy)
 have h0t:t.getD 0 []∈t:=by simp [show 0 < t.length by omega]
 have hl:(pickL d (diffL t)).length+1=d:=of_decide_eq_true hnb
 have hal:=norm_len hnb
 obtain ⟨⟨p,hp,hne⟩,hz,hone⟩:=norm_spec hl
 obtain ⟨k1,hk1,hmu1⟩:=norm_par hl
 have hn1:normL d (diffL t)=upr (low (muL d (pickL d (diffL t)))):=if_pos hl
 have hlast:∀(a:List Int) (b τ:Int),a.length=d→V ((a ++ [b]).map (τ * ·)) d=τ*b∧∀i,i < d→V ((a ++ [b]).map (τ * ·)) i=τ*V a i:=fun a b τ h=>by
  obtain ⟨_,_,e3,e4⟩:=row_app (b:=b) h
  refine ⟨?_,fun i hi=>by rw [V_map,e4 i hi]⟩
  rw [V_map]
  show τ*(a ++ [b]).getD d 0=_
  rw [e3]
 have hxP:=htP _ h0t
 have hV:∀i,i < d→V r i=σ*V (normL d (diffL t)) i:=fun i hi=>by rw [hre]; exact (hlast _ _ _ hal).2 i hi
 have hdot:∀y,dot d (V r) y=σ*dot d (V (normL d (diffL t))) y:=fun y=>by
  unfold dot
  rw [←sumN_mul]
  exact sumN_congr fun i hi=>by rw [hV i hi]; grind
 have hb:r.getD d 0=dot d (V r) (V (t.getD 0 [])):=by
  rw [hdot,←dotL_eq hal]
  have:=(hlast (normL d (diffL t)) (dotL (normL d (diffL t)) (t.getD 0 [])) σ hal).1
  rw [←hre] at this
  exact this
 have htight:∀u:Nat→Int,(∀row∈diffL t,dot d (V row) u=0)↔∀y∈t,dot d u (V y)=dot d u (V (t.getD 0 [])):=fun u=>by
  have key:∀y∈t,dot d (V (subL y (t.getD 0 []))) u=dot d u (V y)-dot d u (V (t.getD 0 [])):=fun y hy=>by
   rw [dot_comm,dot_subL u (hbox y (htP y hy)).1]
  constructor
  ·intro h y hy
   obtain ⟨i,hi,rfl⟩:=List.mem_iff_getElem.1 hy
   by_cases hi0:i=0
   ·subst hi0
    have:t.getD 0 []=t[0]:=by simp [hi]
    rw [this]
   ·have hmem:subL t[i] (t.getD 0 [])∈diffL t:=by
     simp only [diffL,List.mem_map]
     refine ⟨t[i],?_,rfl⟩
     rw [List.mem_drop_iff_getElem]
     exact ⟨i-1,by omega,by congr 1; omega⟩
    have h1:=h _ hmem
    rw [key _ hy] at h1
    omega
  ·intro h row hrow
   simp only [diffL,List.mem_map] at hrow
   obtain ⟨y,hy,rfl⟩:=hrow
   have hy':=List.mem_of_mem_drop hy
   rw [key y hy',h y hy']
   omega
 have hσ0:σ≠0:=by rcases hσ with h | h <;> omega
 have hta:∀y∈t,dot d (V r) (V y)=dot d (V r) (V (t.getD 0 [])):=fun y hy=>by
  rw [hdot,hdot,(htight _).1 hz y hy]
 obtain ⟨r2,hr2,hb2,s,q,hs,hq,hsq⟩:=side_some (c:=V r) hbox hspan hxP ⟨p,hp,by rw [hV p hp]; exact Int.mul_ne_zero hσ0 hne⟩ (fun y hy=>by rw [←hb]; exact hRow.all y hy) (fun u hu=>by
  have h1:Par d u (V (normL d (diffL t))):=hone u ((htight u).2 fun y hy=>hu y (htP y hy) (hta y hy))
  intro i j hi hj
  have:=h1 i j hi hj
  rw [hV i hi,hV j hj]
  grind)
 obtain ⟨t2,hts2,htl2,hrt2⟩:=mem_rowsC.1 hr2
 obtain ⟨τ,hτ,hnb2,hre2⟩:=rowT_form htl2 hrt2
 have hτ0:τ≠0:=by rcases hτ with h | h <;> omega
 have hl2:(pickL d (diffL t2)).length+1=d:=of_decide_eq_true hnb2
 have hal2:=norm_len hnb2
 obtain ⟨k2,hk2,hmu2⟩:=norm_par hl2
 have hn2:normL d (diffL t2)=upr (low (muL d (pickL d (diffL t2)))):=if_pos hl2
 have hV2:∀i,i < d→V r2 i=τ*V (normL d (diffL t2)) i:=fun i hi=>by rw [hre2]; exact (hlast _ _ _ hal2).2 i hi
 have haa:normL d (diffL t)=normL d (diffL t2):=by
  rw [hn1,hn2]
  refine norm_eq (a:=s*σ*k2) (b:=q*τ*k1) (Int.mul_ne_zero (Int.mul_ne_zero (by omega) hσ0) hk2) (Int.mul_ne_zero (Int.mul_ne_zero (by omega) hτ0) hk1) ?_
  unfold muL
  rw [List.map_map,List.map_map]
  refine List.map_congr_left fun i hi=>?_
  have hi':i < d:=List.mem_range.1 hi
  show s*σ*k2*mu (fm (pickL d (diffL t))) i=q*τ*k1*mu (fm (pickL d (diffL t2))) i
  have h:=hsq i hi'
  rw [hV i hi',hV2 i hi'] at h
  rw [hmu1 i hi',hmu2 i hi']
  grind
 have hst:σ=τ:=by
  have h:=hsq p hp
  rw [hV p hp,hV2 p hp,←haa] at h
  have h':s*σ*V (normL d (diffL t)) p=q*τ*V (normL d (diffL t)) p:=by grind
  have h2:=Int.eq_of_mul_eq_mul_right hne h'
  rcases hσ with rfl | rfl <;> rcases hτ with rfl | rfl <;> omega
 have hlst:σ*dotL (normL d (diffL t)) (t.getD 0 [])=τ*dotL (normL d (diffL t2)) (t2.getD 0 []):=by
  have e1:=(hlast (normL d (diffL t)) (dotL (normL d (diffL t)) (t.getD 0 [])) σ hal).1
  have e2:=(hlast (normL d (diffL t2)) (dotL (normL d (diffL t2)) (t2.getD 0 [])) τ hal2).1
  rw [←hre] at e1
  rw [←hre2] at e2
  rw [←e1,←e2]
  show r.getD d 0=r2.getD d 0
  rw [hb,hb2]
  unfold dot
  exact sumN_congr fun i hi=>by rw [hV i hi,hV2 i hi,haa,hst]
 have:r=r2:=by
  rw [hre,hre2,List.map_append,List.map_append,←haa,←hst]
  rw [←haa,←hst] at hlst
  simp only [List.map_cons,List.map_nil]
  rw [hlst]
 rw [this]
 exact hr2
theorem rows_same {d:Nat} {P P':List (List Int)} (hg:Good d P) (hm:∀r,r∈P'↔r∈P) (r:List Int):r∈rowsC P' [] d P'↔r∈rowsC P [] d P:=
 ⟨fun h=>rows_same0 hg.box hg.d1 hg.d4 (good_span hg) hm h,fun h=>rows_same0 (fun y hy=>hg.box y ((hm y).1 hy)) hg.d1 hg.d4
  (fun c hc=>good_span hg c fun y hy z hz=>hc y ((hm y).2 hy) z ((hm z).2 hz)) (fun y=>(hm y).symm) h⟩
end Go.Proofs.YtdanomklbiidaaaGreatDoor

namespace Go.Proofs.YtdanomklbiidaaaGreatDoor
open Go.RowKit
set_option maxRecDepth 100000 in
set_option maxHeartbeats 800000 in
theorem below_any (B:Nat) (x y:List Int) (u v:Value) (w:World) (hu:Sl B 3 w u (ints x)) (hv:Sl B 3 w v (ints y)) :
  Calls Tryz.prog 10 #[u,v] w fun e w'=>e=.returned (.bool (decide (cmpL x y < 0)))∧∃n,w'=w.drewN n:=by
 obtain ⟨ao,cap,hvv,hlc,hcm⟩:=sl_open hu
 obtain ⟨bo,cbp,huu,hlb,hcb⟩:=sl_open hv
 subst hvv huu
 have HU:Hid (Sl B 3 w (.slice ao x.length cap) (ints x)):=hu
 have HV:Hid (Sl B 3 w (.slice bo y.length cbp) (ints y)):=hv
 clear hu hv
 go_enter Tryz.func10,Tryz.ntmps10
 go_wp2
 go_loopw [5] (fun i wr=>∃k:Nat,k≤x.length∧k≤y.length∧i=.int .i64 k∧cmpL x y=cmpL (x.drop k) (y.drop k)∧∃n,wr=w.drewN n) (fun i _=>x.length-(intOf i).toNat)
 case atStart=>exact ⟨0,Nat.zero_le _,Nat.zero_le _,rfl,rfl,0,rfl⟩
 case round=>
  obtain ⟨k,hk,hk2,rfl,hcm2,n,rfl⟩:=hrel
  have HC:Hid (cmpL x y=cmpL (x.drop k) (y.drop k)):=hcm2
  clear hcm2
  by_cases hlt:k < x.length
  ·have hltI:(k:Int) < (x.length:Int):=by omega
   obtain ⟨b,o,cp,hs,hc1,hcc⟩:=sl_cell HU.out hlt
   simp only [Value.slice.injEq] at hs
   obtain ⟨rfl,_,rfl⟩:=hs
   by_cases hlt2:k < y.length
   ·have hltJ:(k:Int) < (y.length:Int):=by omega
    obtain ⟨b2,o2,cp2,hs2,hc2,hcc2⟩:=sl_cell HV.out hlt2
    simp only [Value.slice.injEq] at hs2
    obtain ⟨rfl,_,rfl⟩:=hs2
    have HA:Hid (cmpL (x.drop k) (y.drop k)=if cmpI (x.getD k 0) (y.getD k 0)=0 then cmpL (x.drop (k+1)) (y.drop (k+1)) else cmpI (x.getD k 0) (y.getD k 0)):=cmpL_at hlt hlt2
    have hk0:(0:Int)≤(k:Int):=by omega
    generalize x.getD k 0=a at *
    generalize y.getD k 0=c at *
    by_cases hac:a=c
    ·have HR:Hid (cmpL x y=cmpL (x.drop (k+1)) (y.drop (k+1))):=by
      show _=_
      rw [HC.out,HA.out,if_pos (by rw [hac]; simp [cmpI])]
     have hacb:(a != c)=false:=by simp [hac]
     clear hac
     go_wp2
     go_quiet (fail)
     go_wp2
     go_roundw
     case rel=>exact ⟨k+1,by omega,by omega,by go_num,HR.out,_,rfl⟩
     case measure=>simp [intOf]; omega
    ·have HR:Hid (cmpL x y=cmpI a c):=by
      show _=_
      rw [HC.out,HA.out,if_neg (by unfold cmpI; split <;> (try split) <;> omega)]
     have HS:Hid (decide (cmpI a c < 0)=decide (a < c)):=by
      show _=_
      unfold cmpI
      by_cases h:a < c
      ·simp [h]
      ·by_cases h':c < a <;> simp [h,h']
     have hacb:(a != c)=true:=by simp [hac]
     clear hac
     go_wp2
     go_quiet (fail)
     go_wp2
     go_quiet (fail)
     go_wp2
     go_ret
     exact ⟨ret_bool (by rw [HR.out,HS.out]),_,by rw [World.drewN_drewN,World.drewN_drewN]⟩
   ·have hltJ:decide ((k:Int) < (y.length:Int))=false:=by simp; omega
    have hke:k=y.length:=by omega
    have HR:Hid (cmpL x y=1):=by
     show _=_
     rw [HC.out,hke,List.drop_length,List.drop_eq_getElem_cons (by omega)]; rfl
    have hxy:decide ((x.length:Int) < (y.length:Int))=false:=by simp; omega
    clear hke
    go_wp2
    go_ret
    exact ⟨ret_bool (by rw [HR.out]; first | rfl | simpa using hxy),_,rfl⟩
  ·have hltI:decide ((k:Int) < (x.length:Int))=false:=by simp; omega
   have hke:k=x.length:=by omega
   have HR:Hid (decide (cmpL x y < 0)=decide (x.length < y.length)):=by
    show _=_
    rw [HC.out,hke,List.drop_length]
    by_cases hxy:x.length < y.length
    ·rw [List.drop_eq_getElem_cons hxy]
     simp [cmpL,hxy]
    ·rw [List.drop_eq_nil_of_le (by omega)]
     simp [cmpL]; omega
   clear hke
   go_wp2
   go_ret
   exact ⟨ret_bool HR.out.symm,_,rfl⟩
end Go.Proofs.YtdanomklbiidaaaGreatDoor
