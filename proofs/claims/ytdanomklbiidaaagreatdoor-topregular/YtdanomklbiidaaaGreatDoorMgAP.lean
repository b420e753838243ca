import Derived.Test.YtdanomklbiidaaaGreatDoorMgAO
import Derived.Laws.IdiomCopy
import Derived.Test.YtdanomklbiidaaaGreatDoorMgAM
import Derived.Laws.CopyOwn
namespace Go.Proofs.YtdanomklbiidaaaGreatDoor
open Lin
theorem cmpL_eq:∀x y,¬cmpL x y < 0→¬cmpL y x < 0→x=y
 | [],[],_,_=>rfl
 | [],_ :: _,h,_=>absurd h (by simp [cmpL])
 | _ :: _,[],_,h=>absurd h (by simp [cmpL])
 | a :: x,b :: y,h1,h2=>by
  have ih:=cmpL_eq x y
  simp only [cmpL] at h1 h2
  by_cases hab:a < b
  ·simp [hab] at h1
  ·by_cases hba:b < a
   ·simp [hba] at h2
   ·have e:a=b:=by omega
    subst e
    simp only [Int.lt_irrefl,if_false] at h1 h2
    rw [ih h1 h2]
theorem cmpL_asym {x y:List Int} (h:cmpL x y < 0):¬cmpL y x < 0:=fun h2=>by
 have:=cmpL_trans x y x h h2
 rw [cmpL_self] at this
 omega
def SAsc (s:List (List Int)):Prop:=s.Pairwise fun a b=>cmpL a b < 0
theorem sasc_ext:∀s t:List (List Int),SAsc s→SAsc t→(∀r,r∈s↔r∈t)→s=t
 | [],[],_,_,_=>rfl
 | [],b :: t,_,_,h=>absurd ((h b).2 (by simp)) (by simp)
 | a :: s,[],_,_,h=>absurd ((h a).1 (by simp)) (by simp)
 | a :: s,b :: t,hs,ht,h=>by
  have hs1:=List.pairwise_cons.1 hs
  have ht1:=List.pairwise_cons.1 ht
  have hab:a=b:=by
   rcases List.mem_cons.1 ((h a).1 (by simp)) with e | e
   ·exact e
   ·rcases List.mem_cons.1 ((h b).2 (by simp)) with e' | e'
    ·exact e'.symm
    ·exact absurd (hs1.1 b e') (cmpL_asym (ht1.1 a e))
  subst hab
  have irr:¬cmpL a a < 0:=by rw [cmpL_self]; decide
  rw [sasc_ext s t hs1.2 ht1.2 (fun r=>by
   constructor
   ·intro hr
    rcases List.mem_cons.1 ((h r).1 (List.mem_cons_of_mem _ hr)) with e | e
    ·subst e; exact absurd (hs1.1 r hr) irr
    ·exact e
   ·intro hr
    rcases List.mem_cons.1 ((h r).2 (List.mem_cons_of_mem _ hr)) with e | e
    ·subst e; exact absurd (ht1.1 r hr) irr
    ·exact e)]
theorem keptI_asc (m:List (List Int)):∀k,(keptI m k).Pairwise (· < ·)
 | 0=>by simp [keptI]
 | k+1=>by
  simp only [keptI]
  split
  ·rw [List.pairwise_append]
   refine ⟨keptI_asc m k,by simp,fun a ha b hb=>?_⟩
   simp at hb
   have:=keptI_lt ha
   omega
  ·exact keptI_asc m k
theorem keptI_new {m:List (List Int)} : ∀{k i:Nat},i∈keptI m k→i=0∨m.getD i []≠m.getD (i-1) []
 | 0,i,h=>by simp [keptI] at h
 | k+1,i,h=>by
  simp only [keptI] at h
  split at h
  ·rename_i hc
   rcases List.mem_append.1 h with h | h
   ·exact keptI_new h
   ·simp at h; subst h; exact hc
  ·exact keptI_new h
theorem comp_asc {m:List (List Int)} (h:Asc m):SAsc (compL m):=by
 unfold SAsc compL
 rw [List.pairwise_map]
 refine (List.Pairwise.and_mem.1 (keptI_asc m m.length)).imp fun {a b} ⟨ha,hb,hab⟩=>?_
 have hbl:=keptI_lt hb
 have h1:=h a b hab hbl
 rcases Int.lt_or_le (cmpL (m.getD a []) (m.getD b [])) 0 with h2 | h2
 ·exact h2
 ·exfalso
  have he:=cmpL_eq _ _ (Int.not_lt.2 h2) h1
  rcases keptI_new hb with h0 | h0
  ·omega
  ·have h3:=h (b-1) b (by omega) hbl
   have h4:¬cmpL (m.getD (b-1) []) (m.getD a []) < 0:=by
    by_cases e:a=b-1
    ·rw [←e,cmpL_self]; decide
    ·exact h a (b-1) (by omega) (by omega)
   rw [←he] at h3
   have h5:=cmpL_eq _ _ h3 h4
   rw [he] at h5
   exact h0 h5
theorem Inor.asc {m' m:List (List Int)} (h:Inor m' m):SAsc m':=by
 obtain ⟨m0,_,ha,rfl⟩:=h.srt
 exact comp_asc ha
def sumR (L:List (List Int)):Nat→Int:=fun j=>(L.map fun r=>V r j).sum
theorem dot_sumR (d:Nat) (z:Nat→Int):∀L:List (List Int),dot d (sumR L) z=(L.map fun r=>dot d (V r) z).sum
 | []=>by simp only [List.map_nil,List.sum_nil]; exact dot_zero fun i _=>by simp [sumR]
 | r :: L=>by
  have e:dot d (sumR (r :: L)) z=dot d (fun k=>1*V r k+1*sumR L k) z:=dot_congr (fun i _=>by simp [sumR]) (fun _ _=>rfl)
  rw [e,dot_lc,dot_sumR d z L]; simp
theorem sum_nonpos:∀L:List Int,(∀x∈L,x≤0)→L.sum≤0∧∀x∈L,L.sum≤x
 | [],_=>⟨by simp,fun x hx=>absurd hx (by simp)⟩
 | a :: L,h=>by
  obtain ⟨h1,h2⟩:=sum_nonpos L fun x hx=>h x (List.mem_cons_of_mem _ hx)
  have ha:=h a (by simp)
  rw [List.sum_cons]
  refine ⟨by omega,fun x hx=>?_⟩
  rcases List.mem_cons.1 hx with rfl | hx
  ·omega
  ·have:=h2 x hx; omega
theorem tight_tell {d:Nat} {P P':List (List Int)} (hg:Good d P) (hm:∀r,r∈P'↔r∈P) {x:List Int} (hx:x∈P) {v:Nat→Int} (hv:∀r∈rowsC P' [] d P',r.getD d 0=dot d (V r) (V x)→dot d (V r) v=0) {c:Nat→Int} (hmax:∀y∈P,dot d c (V y)≤dot d c (V x)) :
  dot d c v=0:=by
 have hspan:=good_span hg
 have hP':Box d 30 P':=fun r hr=>hg.box r ((hm r).1 hr)
 have hsub:∀(c:Nat→Int) (y:List Int),dot d c (fun j=>V y j-V x j)=dot d c (V y)-dot d c (V x):=fun c y=>dot_sub d c (V y) (V x)
 have half:∀v:Nat→Int,(∀r∈rowsC P' [] d P',r.getD d 0=dot d (V r) (V x)→dot d (V r) v=0)→dot d c v≤0:=fun v hv=>
  cone (d:=d) (Z:=P.map fun y j=>V y j-V x j) (v:=v) (fun c hc i hi=>by
   refine hspan c (fun y hy z hz=>?_) i hi
   have h1:=hc _ (List.mem_map.2 ⟨y,hy,rfl⟩)
   have h2:=hc _ (List.mem_map.2 ⟨z,hz,rfl⟩)
   rw [hsub] at h1 h2
   omega) (fun c hcn hle hone=>by
   obtain ⟨r,hr,hrx,s,t,hs,ht,hst⟩:=side_some (P:=P') (x:=x) hP' (fun c hc=>hspan c fun y hy z hz=>hc y ((hm y).2 hy) z ((hm z).2 hz)) ((hm x).2 hx) hcn (fun y hy=>by
     have:=hle _ (List.mem_map.2 ⟨y,(hm y).1 hy,rfl⟩)
     rw [hsub] at this
     omega) (fun u hu=>hone u fun z hz h0=>by
     obtain ⟨y,hy,rfl⟩:=List.mem_map.1 hz
     rw [hsub] at h0 ⊢
     have:=hu y ((hm y).2 hy) (by omega)
     omega)
   have h1:=hv r hr hrx
   have h2:s*dot d c v=t*dot d (V r) v:=by
    unfold dot
    rw [←sumN_mul,←sumN_mul]
    exact sumN_congr fun i hi=>by rw [←Int.mul_assoc,hst i hi,Int.mul_assoc]
   rw [h1,Int.mul_zero] at h2
   rcases Int.mul_eq_zero.1 h2 with h3 | h3
   ·omega
   ·omega) _ c (Nat.le_refl _) (fun z hz=>by
   obtain ⟨y,hy,rfl⟩:=List.mem_map.1 hz
   rw [hsub]
   have:=hmax y hy
   omega)
 have h1:=half v hv
 have h2:=half (fun k=>- v k) (fun r hr he=>by rw [dot_comm,dot_neg,dot_comm,hv r hr he]; rfl)
 rw [dot_comm,dot_neg,dot_comm] at h2
 omega
theorem corner_iff {d:Nat} {P P':List (List Int)} (hg:Good d P) (hm:∀r,r∈P'↔r∈P) {x:List Int} (hx:x∈P) :
  (∀y∈P,y≠x→∃r∈rowsC P' [] d P',r.getD d 0=dot d (V r) (V x)∧r.getD d 0≠dot d (V r) (V y))↔
   ∀v:Nat→Int,(∀r∈rowsC P' [] d P',r.getD d 0=dot d (V r) (V x)→dot d (V r) v=0)→∀i,i < d→v i=0:=by
 have hall:∀r∈rowsC P' [] d P',RowOf d P r:=fun r hr=>rowsC_fit hg.box hg.d1 (by have:=hg.d4; omega) hm hr
 constructor
 ·intro ha v hv i hi
  -- the rows that it meets,added
  obtain ⟨T,hT⟩:∃T,T=(rowsC P' [] d P').filter fun r=>decide (r.getD d 0=dot d (V r) (V x)):=⟨_,rfl⟩
  have hTm:∀r,r∈T↔r∈rowsC P' [] d P'∧r.getD d 0=dot d (V r) (V x):=fun r=>by rw [hT]; simp
  have hdiff:∀y∈P,dot d (sumR T) (fun j=>V y j-V x j)≤0∧(y≠x→dot d (sumR T) (fun j=>V y j-V x j)≤-1):=fun y hy=>by
   rw [dot_sumR]
   have hn:∀q∈T.map fun r=>dot d (V r) (fun j=>V y j-V x j),q≤0:=fun q hq=>by
    obtain ⟨r,hr,rfl⟩:=List.mem_map.1 hq
    have h1:=(hTm r).1 hr
    have h2:=(hall r h1.1).all y hy
    rw [dot_sub]; omega
   obtain ⟨h1,h2⟩:=sum_nonpos _ hn
   refine ⟨h1,fun hne=>?_⟩
   obtain ⟨r,hr,hrx,hry⟩:=ha y hy hne
   have h3:=h2 _ (List.mem_map.2 ⟨r,(hTm r).2 ⟨hr,hrx⟩,rfl⟩)
   rw [dot_sub] at h3
   have h4:=(hall r hr).all y hy
   omega
  have hco:∀y∈P,-200≤V y i-V x i∧V y i-V x i≤200:=fun y hy=>by
   have h1:=(hg.box y hy).2 (V y i) (getD_mem (by rw [(hg.box y hy).1]; exact hi))
   have h2:=(hg.box x hx).2 (V x i) (getD_mem (by rw [(hg.box x hx).1]; exact hi))
   omega
  have hmx:∀e:Int,e=0∨e=1→dot d (fun k=>1000*sumR T k+e*unit i k) v=0:=fun e he=>by
   refine tight_tell hg hm hx hv fun y hy=>?_
   have h0:dot d (fun k=>1000*sumR T k+e*unit i k) (fun j=>V y j-V x j)≤0:=by
    rw [dot_lc,dot_unit hi]
    obtain ⟨h1,h2⟩:=hdiff y hy
    have h3:=hco y hy
    by_cases hyx:y=x
    ·subst hyx
     have:dot d (sumR T) (fun j=>V y j-V y j)=0:=by rw [dot_sub]; omega
     rw [this]; simp
    ·have h4:=h2 hyx
     rcases he with rfl | rfl <;> omega
   rw [dot_sub] at h0
   omega
  have h0:=hmx 0 (Or.inl rfl)
  have h1:=hmx 1 (Or.inr rfl)
  rw [dot_lc] at h0 h1
  rw [dot_unit hi] at h1
  omega
 ·intro hv y hy hne
  refine Classical.byContradiction fun hn=>hne ?_
  have h1:=hv (fun j=>V y j-V x j) (fun r hr he=>by
   rw [dot_sub]
   rcases Int.lt_or_le (dot d (V r) (V y)) (r.getD d 0) with h | h
   ·exact absurd ⟨r,hr,he,by omega⟩ hn
   ·have:=(hall r hr).all y hy
    omega)
  exact eq_of_all (by rw [(hg.box y hy).1,(hg.box x hx).1]) fun i hi=>by
   have:=h1 i (by rw [←(hg.box y hy).1]; exact hi)
   show V y i=V x i
   omega
end Go.Proofs.YtdanomklbiidaaaGreatDoor

namespace Go.Proofs.YtdanomklbiidaaaGreatDoor
open Go.RowKit
def putAt (s:List (List Int)) (q:List Int) (p:Nat):List (List Int):=s.take p ++ [q] ++ s.drop p
theorem putAt_len {s:List (List Int)} {q:List Int} {p:Nat} (h:p≤s.length):(putAt s q p).length=s.length+1:=by
 simp [putAt]; omega
theorem putAt_mem {s:List (List Int)} {q r:List Int} {p:Nat} : r∈putAt s q p↔r=q∨r∈s:=by
 have e:r∈s↔r∈s.take p∨r∈s.drop p:=by rw [←List.mem_append,List.take_append_drop]
 simp only [putAt,List.mem_append,List.mem_singleton,e]
 constructor
 ·rintro ((h | h) | h)
  ·exact Or.inr (Or.inl h)
  ·exact Or.inl h
  ·exact Or.inr (Or.inr h)
 ·rintro (h | h | h)
  ·exact Or.inl (Or.inr h)
  ·exact Or.inl (Or.inl h)
  ·exact Or.inr h
theorem putAt_asc {s:List (List Int)} {q:List Int} {p:Nat} (h:SAsc s) (hlo:∀r∈s.take p,cmpL r q < 0) (hup:∀r∈s.drop p,cmpL q r < 0):SAsc (putAt s q p):=by
 unfold SAsc at *
 have h':(s.take p ++ s.drop p).Pairwise fun a b=>cmpL a b < 0:=by rw [List.take_append_drop]; exact h
 rw [List.pairwise_append] at h'
 obtain ⟨h1,h2,h3⟩:=h'
 unfold putAt
 rw [List.pairwise_append,List.pairwise_append]
 refine ⟨⟨h1,by simp,fun a ha b hb=>?_⟩,h2,fun a ha b hb=>?_⟩
 ·simp at hb; subst hb; exact hlo a ha
 ·simp only [List.mem_append,List.mem_singleton] at ha
  rcases ha with ha | rfl
  ·exact h3 a ha b hb
  ·exact hup b hb
theorem asc_below {s:List (List Int)} {q:List Int} {p:Nat} (h:SAsc s) (hp:p < s.length) (hq:¬cmpL q (s.getD p []) < 0) (hne:s.getD p []≠q):∀r∈s.take (p+1),cmpL r q < 0:=by
 have hpq:cmpL (s.getD p []) q < 0:=by
  rcases Int.lt_or_le (cmpL (s.getD p []) q) 0 with h1 | h1
  ·exact h1
  ·exact absurd (cmpL_eq _ _ (Int.not_lt.2 h1) hq) hne
 intro r hr
 rw [List.take_succ_eq_append_getElem hp] at hr
 rcases List.mem_append.1 hr with hr | hr
 ·have h':(s.take p ++ s.drop p).Pairwise fun a b=>cmpL a b < 0:=by rw [List.take_append_drop]; exact h
  rw [List.pairwise_append] at h'
  have h2:=h'.2.2 r hr (s.getD p []) (by
   have e:s.getD p []=s[p]:=by simp [hp]
   rw [e,List.drop_eq_getElem_cons hp]
   exact List.mem_cons_self)
  exact cmpL_trans _ _ _ h2 hpq
 ·simp at hr
  have e:s.getD p []=r:=by rw [hr]; simp [hp]
  rw [←e]; exact hpq
end Go.Proofs.YtdanomklbiidaaaGreatDoor

namespace Go.Proofs.YtdanomklbiidaaaGreatDoor
open Go.RowKit
theorem step_copy_cells {P:Program} {ops:Array Oper} {o:Oper} {a:Act} {w:World} {K:Act→World→Prop} {Q:Exit→Act→World→Prop} {E:Prop} (hgd:o.guard=none) (d s:Operand) (dT sT:TypeId)
  (ho:o.op=.call { callee:=.builtin .copy,args:=#[d,s],argTypes:=#[dT,sT] }) (elem:TypeId) (hu:P.underlying dT=some (.slice elem)) (hsz:(P.info? elem).map (·.size)=some 1)
  (dp sp:Option Addr) (dLen dCap sLen sCap:Nat) (hd:a.eval d=.slice dp dLen dCap) (hs:a.eval s=.slice sp sLen sCap)
  (g off:Nat) (cs:List Value) (hn:cs.length=Nat.min sLen dLen)
  (hpos:0 < cs.length→dp=some ⟨g,off,none⟩∧∃ad,sp=some ad∧∀j v,cs[j]?=some v→w.cell? (ad.add j)=some v)
  (hc:∀j,j < cs.length→(w.cell? ⟨g,off+j,none⟩).isSome=true) (hf:∀j,j < cs.length→w.frozen? ⟨g,off+j,none⟩=false) (h1:∀v∈cs,v.oneCell'=true)
  (h:K (a.put o.dst (goInt cs.length)) (w.setCells g off cs)) :
  if Region.wanted o (yielded ops a.tmps)=true then Oper.wp P o a w K Q else E:=by
 have hw:Region.wanted o (yielded ops a.tmps)=true:=by simp [Region.wanted,hgd]
 rw [if_pos hw]
 by_cases h0:cs.length=0
 ·obtain rfl:cs=[]:=List.eq_nil_of_length_eq_zero h0
  have hrun:=run_copy_none (P:=P) w dT sT o.type elem dp sp dLen dCap sLen sCap hu hsz (by simpa using hn.symm)
  unfold Oper.wp
  simp [execOp,ho,resolve,invoke,builtin,hd,hs,hrun,Result.andThen]
  exact h
 ·obtain ⟨rfl,ad,rfl,hsrc⟩:=hpos (by omega)
  have hrun:=run_copy_cells (P:=P) w dT sT o.type elem g off dLen dCap ad sLen sCap cs hu hsz hn hsrc hc hf h1
  unfold Oper.wp
  simp [execOp,ho,resolve,invoke,builtin,hd,hs,hrun,Result.andThen]
  exact h
theorem sl_one {B:Nat} {e:TypeId} {w:World} {v:Value} {xs:List Value} (h:Sl B e w v xs):v.oneCell'=true:=by
 obtain ⟨ao,cap,rfl,_⟩:=h; rfl
theorem putAt_lt {s:List (List Int)} {q:List Int} {p i:Nat} (hp:p≤s.length) (hi:i < p):(putAt s q p).getD i []=s.getD i []:=by
 unfold putAt
 simp only [List.getD_eq_getElem?_getD]
 rw [List.getElem?_append_left (by simp; omega),List.getElem?_append_left (by simp; omega),List.getElem?_take_of_lt hi]
theorem putAt_at {s:List (List Int)} {q:List Int} {p:Nat} (hp:p≤s.length):(putAt s q p).getD p []=q:=by
 unfold putAt
 simp only [List.getD_eq_getElem?_getD]
 rw [List.getElem?_append_left (by simp; omega),List.getElem?_append_right (by rw [List.length_take]; omega)]
 simp [Nat.min_eq_left hp]
theorem putAt_gt {s:List (List Int)} {q:List Int} {p i:Nat} (hp:p≤s.length) (hi:p < i):(putAt s q p).getD i []=s.getD (i-1) []:=by
 unfold putAt
 simp only [List.getD_eq_getElem?_getD]
 rw [List.getElem?_append_right (by simp; omega),List.getElem?_drop]
 congr 2
 simp
 omega
def overC (f:Nat→Value) (p n:Nat):List Value:=(List.range (n-p)).map fun j=>f (p+j)
theorem overC_len (f:Nat→Value) (p n:Nat):(overC f p n).length=n-p:=by simp [overC]
theorem overC_get (f:Nat→Value) (p n j:Nat) (v:Value) (h:(overC f p n)[j]?=some v):j < n-p∧v=f (p+j):=by
 have hj:j < (overC f p n).length:=(List.getElem?_eq_some_iff.1 h).1
 rw [overC_len] at hj
 refine ⟨hj,?_⟩
 unfold overC at h
 rw [List.getElem?_map,List.getElem?_range hj] at h
 simp at h
 exact h.symm
theorem rowIs_same {w w':World} {g cap:Nat} {e:TypeId} {f:Nat→Value} (h:w.rowIs g e cap f) (hb:w'.heap[g]?=w.heap[g]?):w'.rowIs g e cap f:=by
 obtain ⟨c,h1,h2,h3⟩:=h
 exact ⟨c,hb.trans h1,h2,h3⟩
theorem ins_fr {B N g cap p:Nat} {f:Nat→Value} {s:List (List Int)} {q:List Int} {w3 w5:World} {u:Value} (hr:RowM w3 g cap f (s ++ [[]])) (hp:p≤s.length) (hB:B≤g)
  (hb:Below N (w3.setCells g (p+1) (overC f p s.length)) w5) (hN:w3.heap.size≤N) (hu:Sl 0 3 w5 u (ints q)) :
  Fr B 22 3 (w5.setCell ⟨g,p,none⟩ u) (.slice (some ⟨g,0,none⟩) (s.length+1) cap) (putAt s q p):=by
 obtain ⟨cur,hcur,_⟩:=hr.row
 have hgs:g < w3.heap.size:=lt_of_block hcur
 have ht:Touch g w3 (w3.setCells g (p+1) (overC f p s.length)):=(Touch.refl _ _).setCells _ _
 have h4:=rowIs_setCells (overC f p s.length) (p+1) w3 f hr.row
 have h5:=rowIs_same h4 (hb.block g (by omega))
 have h6:=h5.set p u
 obtain ⟨cur5,hcur5,_⟩:=h5
 have hs5:∀i,i < (s ++ [[]]).length→Sl 0 3 (w5.setCell ⟨g,p,none⟩ u) (f i) (ints ((s ++ [[]]).getD i [])):=fun i hi=>
  ((ht.sl hcur (hr.inn i hi)).below hb (by rw [ht.size]; exact hN)).setCell u ⟨Nat.zero_le _,fun c hc=>by rw [hcur5] at hc; simp at hc⟩
 have hsL:∀i,i < s.length→(s ++ [[]]).getD i []=s.getD i []:=fun i hi=>by
  simp only [List.getD_eq_getElem?_getD]; rw [List.getElem?_append_left hi]
 have hc1:=hr.cap1
 simp at hc1
 have hrm:RowM (w5.setCell ⟨g,p,none⟩ u) g cap (fun i=>if i=p then u else (if p+1≤i∧i < p+1+(overC f p s.length).length then (overC f p s.length)[i-(p+1)]?.getD default else f i)) (putAt s q p):=by
  refine ⟨h6,by rw [putAt_len hp]; exact hc1,hr.cap2,fun i hi=>?_⟩
  rw [putAt_len hp] at hi
  by_cases hip:i=p
  ·subst hip
   simp only [if_true]
   rw [putAt_at hp]
   exact hu.setCell u ⟨Nat.zero_le _,fun c hc=>by rw [hcur5] at hc; simp at hc⟩
  ·simp only [hip,if_false]
   by_cases hlt:i < p
   ·simp only [show ¬p+1≤i by omega,false_and,if_false]
    rw [putAt_lt hp hlt,←hsL i (by omega)]
    exact hs5 i (by simp; omega)
   ·rw [overC_len,if_pos ⟨by omega,by omega⟩]
    have e:(overC f p s.length)[i-(p+1)]?.getD default=f (i-1):=by
     unfold overC
     rw [List.getElem?_map,List.getElem?_range (by omega)]
     simp only [Option.map_some,Option.getD_some]
     congr 1
     omega
    rw [e,putAt_gt hp (by omega),←hsL (i-1) (by omega)]
    exact hs5 (i-1) (by simp; omega)
 have:=hrm.fr hB
 rw [putAt_len hp] at this
 exact this
end Go.Proofs.YtdanomklbiidaaaGreatDoor
