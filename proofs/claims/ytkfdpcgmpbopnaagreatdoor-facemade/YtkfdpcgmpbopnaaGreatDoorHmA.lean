import Derived.Test.YtkfdpcgmpbopnaaGreatDoorOrdB
import Derived.Deep.QuietTactic
import Derived.BigQuiet
import Derived.Test.YtkfdpcgmpbopnaaGreatDoorHulAll
import Derived.Laws.IdiomCopy
import Derived.Test.YtkfdpcgmpbopnaaGreatDoorOrdAll
import Derived.Laws.CopyOwn
namespace Go.Proofs.YtkfdpcgmpbopnaaGreatDoor
open Go.RowKit
set_option maxRecDepth 100000 in
set_option maxHeartbeats 800000 in
theorem below_any (B:Nat) (x y:List Int) (u v:Value) (w:World) (hu:Sl B 3 w u (ints x)) (hv:Sl B 3 w v (ints y)) :
  Calls Tryz.prog 45 #[u,v] w fun e w'=>e=.returned (.bool (decide (cmpL x y < 0)))∧∃n,w'=w.drewN n:=by
 obtain ⟨ao,cap,hvv,hlc,hcm⟩:=sl_open hu
 obtain ⟨bo,cbp,huu,hlb,hcb⟩:=sl_open hv
 subst hvv huu
 have HU:Hid (Sl B 3 w (.slice ao x.length cap) (ints x)):=hu
 have HV:Hid (Sl B 3 w (.slice bo y.length cbp) (ints y)):=hv
 clear hu hv
 go_enter Tryz.func45,Tryz.ntmps45
 go_wp2
 go_loopw [5] (fun i wr=>∃k:Nat,k≤x.length∧k≤y.length∧i=.int .i64 k∧cmpL x y=cmpL (x.drop k) (y.drop k)∧∃n,wr=w.drewN n) (fun i _=>x.length-(intOf i).toNat)
 case atStart=>exact ⟨0,Nat.zero_le _,Nat.zero_le _,rfl,rfl,0,rfl⟩
 case round=>
  obtain ⟨k,hk,hk2,rfl,hcm2,n,rfl⟩:=hrel
  have HC:Hid (cmpL x y=cmpL (x.drop k) (y.drop k)):=hcm2
  clear hcm2
  by_cases hlt:k < x.length
  ·have hltI:(k:Int) < (x.length:Int):=by omega
   obtain ⟨b,o,cp,hs,hc1,hcc⟩:=sl_cell HU.out hlt
   simp only [Value.slice.injEq] at hs
   obtain ⟨rfl,_,rfl⟩:=hs
   by_cases hlt2:k < y.length
   ·have hltJ:(k:Int) < (y.length:Int):=by omega
    obtain ⟨b2,o2,cp2,hs2,hc2,hcc2⟩:=sl_cell HV.out hlt2
    simp only [Value.slice.injEq] at hs2
    obtain ⟨rfl,_,rfl⟩:=hs2
    have HA:Hid (cmpL (x.drop k) (y.drop k)=if cmpI (x.getD k 0) (y.getD k 0)=0 then cmpL (x.drop (k+1)) (y.drop (k+1)) else cmpI (x.getD k 0) (y.getD k 0)):=cmpL_at hlt hlt2
    have hk0:(0:Int)≤(k:Int):=by omega
    generalize x.getD k 0=a at *
    generalize y.getD k 0=c at *
    by_cases hac:a=c
    ·have HR:Hid (cmpL x y=cmpL (x.drop (k+1)) (y.drop (k+1))):=by
      show _=_
      rw [HC.out,HA.out,if_pos (by rw [hac]; simp [cmpI])]
     have hacb:(a != c)=false:=by simp [hac]
     clear hac
     go_wp2
     go_quiet (fail)
     go_wp2
     go_roundw
     case rel=>exact ⟨k+1,by omega,by omega,by go_num,HR.out,_,rfl⟩
     case measure=>simp [intOf]; omega
    ·have HR:Hid (cmpL x y=cmpI a c):=by
      show _=_
      rw [HC.out,HA.out,if_neg (by unfold cmpI; split <;> (try split) <;> omega)]
     have HS:Hid (decide (cmpI a c < 0)=decide (a < c)):=by
      show _=_
      unfold cmpI
      by_cases h:a < c
      ·simp [h]
      ·by_cases h':c < a <;> simp [h,h']
     have hacb:(a != c)=true:=by simp [hac]
     clear hac
     go_wp2
     go_quiet (fail)
     go_wp2
     go_quiet (fail)
     go_wp2
     go_ret
     exact ⟨ret_bool (by rw [HR.out,HS.out]),_,by rw [World.drewN_drewN,World.drewN_drewN]⟩
   ·have hltJ:decide ((k:Int) < (y.length:Int))=false:=by simp; omega
    have hke:k=y.length:=by omega
    have HR:Hid (cmpL x y=1):=by
     show _=_
     rw [HC.out,hke,List.drop_length,List.drop_eq_getElem_cons (by omega)]; rfl
    have hxy:decide ((x.length:Int) < (y.length:Int))=false:=by simp; omega
    clear hke
    go_wp2
    go_ret
    exact ⟨ret_bool (by rw [HR.out]; first | rfl | simpa using hxy),_,rfl⟩
  ·have hltI:decide ((k:Int) < (x.length:Int))=false:=by simp; omega
   have hke:k=x.length:=by omega
   have HR:Hid (decide (cmpL x y < 0)=decide (x.length < y.length)):=by
    show _=_
    rw [HC.out,hke,List.drop_length]
    by_cases hxy:x.length < y.length
    ·rw [List.drop_eq_getElem_cons hxy]
     simp [cmpL,hxy]
    ·rw [List.drop_eq_nil_of_le (by omega)]
     simp [cmpL]; omega
   clear hke
   go_wp2
   go_ret
   exact ⟨ret_bool HR.out.symm,_,rfl⟩
end Go.Proofs.YtkfdpcgmpbopnaaGreatDoor
namespace Go.Proofs.YtkfdpcgmpbopnaaGreatDoor
open Lin
theorem cmpL_eq:∀x y,¬cmpL x y < 0→¬cmpL y x < 0→x=y
 | [],[],_,_=>rfl
 | [],_ :: _,h,_=>absurd h (by simp [cmpL])
 | _ :: _,[],_,h=>absurd h (by simp [cmpL])
 | a :: x,b :: y,h1,h2=>by
  have ih:=cmpL_eq x y
  simp only [cmpL] at h1 h2
  by_cases hab:a < b
  ·simp [hab] at h1
  ·by_cases hba:b < a
   ·simp [hba] at h2
   ·have e:a=b:=by omega
    subst e
    simp only [Int.lt_irrefl,if_false] at h1 h2
    rw [ih h1 h2]
theorem cmpL_asym {x y:List Int} (h:cmpL x y < 0):¬cmpL y x < 0:=fun h2=>by
 have:=cmpL_trans x y x h h2
 rw [cmpL_self] at this
 omega
def SAsc (s:List (List Int)):Prop:=s.Pairwise fun a b=>cmpL a b < 0
theorem sasc_ext:∀s t:List (List Int),SAsc s→SAsc t→(∀r,r∈s↔r∈t)→s=t
 | [],[],_,_,_=>rfl
 | [],b :: t,_,_,h=>absurd ((h b).2 (by simp)) (by simp)
 | a :: s,[],_,_,h=>absurd ((h a).1 (by simp)) (by simp)
 | a :: s,b :: t,hs,ht,h=>by
  have hs1:=List.pairwise_cons.1 hs
  have ht1:=List.pairwise_cons.1 ht
  have hab:a=b:=by
   rcases List.mem_cons.1 ((h a).1 (by simp)) with e | e
   ·exact e
   ·rcases List.mem_cons.1 ((h b).2 (by simp)) with e' | e'
    ·exact e'.symm
    ·exact absurd (hs1.1 b e') (cmpL_asym (ht1.1 a e))
  subst hab
  have irr:¬cmpL a a < 0:=by rw [cmpL_self]; decide
  rw [sasc_ext s t hs1.2 ht1.2 (fun r=>by
   constructor
   ·intro hr
    rcases List.mem_cons.1 ((h r).1 (List.mem_cons_of_mem _ hr)) with e | e
    ·subst e; exact absurd (hs1.1 r hr) irr
    ·exact e
   ·intro hr
    rcases List.mem_cons.1 ((h r).2 (List.mem_cons_of_mem _ hr)) with e | e
    ·subst e; exact absurd (ht1.1 r hr) irr
    ·exact e)]
theorem keptI_asc (m:List (List Int)):∀k,(keptI m k).Pairwise (· < ·)
 | 0=>by simp [keptI]
 | k+1=>by
  simp only [keptI]
  split
  ·rw [List.pairwise_append]
   refine ⟨keptI_asc m k,by simp,fun a ha b hb=>?_⟩
   simp at hb
   have:=keptI_lt ha
   omega
  ·exact keptI_asc m k
theorem keptI_new {m:List (List Int)} : ∀{k i:Nat},i∈keptI m k→i=0∨m.getD i []≠m.getD (i-1) []
 | 0,i,h=>by simp [keptI] at h
 | k+1,i,h=>by
  simp only [keptI] at h
  split at h
  ·rename_i hc
   rcases List.mem_append.1 h with h | h
   ·exact keptI_new h
   ·simp at h; subst h; exact hc
  ·exact keptI_new h
theorem comp_asc {m:List (List Int)} (h:Asc m):SAsc (compL m):=by
 unfold SAsc compL
 rw [List.pairwise_map]
 refine (List.Pairwise.and_mem.1 (keptI_asc m m.length)).imp fun {a b} ⟨ha,hb,hab⟩=>?_
 have hbl:=keptI_lt hb
 have h1:=h a b hab hbl
 rcases Int.lt_or_le (cmpL (m.getD a []) (m.getD b [])) 0 with h2 | h2
 ·exact h2
 ·exfalso
  have he:=cmpL_eq _ _ (Int.not_lt.2 h2) h1
  rcases keptI_new hb with h0 | h0
  ·omega
  ·have h3:=h (b-1) b (by omega) hbl
   have h4:¬cmpL (m.getD (b-1) []) (m.getD a []) < 0:=by
    by_cases e:a=b-1
    ·rw [←e,cmpL_self]; decide
    ·exact h a (b-1) (by omega) (by omega)
   rw [←he] at h3
   have h5:=cmpL_eq _ _ h3 h4
   rw [he] at h5
   exact h0 h5
theorem Inor.asc {m' m:List (List Int)} (h:Inor m' m):SAsc m':=by
 obtain ⟨m0,_,ha,rfl⟩:=h.srt
 exact comp_asc ha
def sumR (L:List (List Int)):Nat→Int:=fun j=>(L.map fun r=>V r j).sum
theorem dot_sumR (d:Nat) (z:Nat→Int):∀L:List (List Int),dot d (sumR L) z=(L.map fun r=>dot d (V r) z).sum
 | []=>by simp only [List.map_nil,List.sum_nil]; exact dot_zero fun i _=>by simp [sumR]
 | r :: L=>by
  have e:dot d (sumR (r :: L)) z=dot d (fun k=>1*V r k+1*sumR L k) z:=dot_congr (fun i _=>by simp [sumR]) (fun _ _=>rfl)
  rw [e,dot_lc,dot_sumR d z L]; simp
theorem sum_nonpos:∀L:List Int,(∀x∈L,x≤0)→L.sum≤0∧∀x∈L,L.sum≤x
 | [],_=>⟨by simp,fun x hx=>absurd hx (by simp)⟩
 | a :: L,h=>by
  obtain ⟨h1,h2⟩:=sum_nonpos L fun x hx=>h x (List.mem_cons_of_mem _ hx)
  have ha:=h a (by simp)
  rw [List.sum_cons]
  refine ⟨by omega,fun x hx=>?_⟩
  rcases List.mem_cons.1 hx with rfl | hx
  ·omega
  ·have:=h2 x hx; omega
theorem tight_tell {d:Nat} {P P':List (List Int)} (hg:Good d P) (hm:∀r,r∈P'↔r∈P) {x:List Int} (hx:x∈P) {v:Nat→Int} (hv:∀r∈rowsC P' [] d P',r.getD d 0=dot d (V r) (V x)→dot d (V r) v=0) {c:Nat→Int} (hmax:∀y∈P,dot d c (V y)≤dot d c (V x)) :
  dot d c v=0:=by
 have hspan:=good_span hg
 have hP':Box d 30 P':=fun r hr=>hg.box r ((hm r).1 hr)
 have hsub:∀(c:Nat→Int) (y:List Int),dot d c (fun j=>V y j-V x j)=dot d c (V y)-dot d c (V x):=fun c y=>dot_sub d c (V y) (V x)
 have half:∀v:Nat→Int,(∀r∈rowsC P' [] d P',r.getD d 0=dot d (V r) (V x)→dot d (V r) v=0)→dot d c v≤0:=fun v hv=>
  cone (d:=d) (Z:=P.map fun y j=>V y j-V x j) (v:=v) (fun c hc i hi=>by
   refine hspan c (fun y hy z hz=>?_) i hi
   have h1:=hc _ (List.mem_map.2 ⟨y,hy,rfl⟩)
   have h2:=hc _ (List.mem_map.2 ⟨z,hz,rfl⟩)
   rw [hsub] at h1 h2
   omega) (fun c hcn hle hone=>by
   obtain ⟨r,hr,hrx,s,t,hs,ht,hst⟩:=side_some (P:=P') (x:=x) hP' (fun c hc=>hspan c fun y hy z hz=>hc y ((hm y).2 hy) z ((hm z).2 hz)) ((hm x).2 hx) hcn (fun y hy=>by
     have:=hle _ (List.mem_map.2 ⟨y,(hm y).1 hy,rfl⟩)
     rw [hsub] at this
     omega) (fun u hu=>hone u fun z hz h0=>by
     obtain ⟨y,hy,rfl⟩:=List.mem_map.1 hz
     rw [hsub] at h0 ⊢
     have:=hu y ((hm y).2 hy) (by omega)
     omega)
   have h1:=hv r hr hrx
   have h2:s*dot d c v=t*dot d (V r) v:=by
    unfold dot
    rw [←sumN_mul,←sumN_mul]
    exact sumN_congr fun i hi=>by rw [←Int.mul_assoc,hst i hi,Int.mul_assoc]
   rw [h1,Int.mul_zero] at h2
   rcases Int.mul_eq_zero.1 h2 with h3 | h3
   ·omega
   ·omega) _ c (Nat.le_refl _) (fun z hz=>by
   obtain ⟨y,hy,rfl⟩:=List.mem_map.1 hz
   rw [hsub]
   have:=hmax y hy
   omega)
 have h1:=half v hv
 have h2:=half (fun k=>- v k) (fun r hr he=>by rw [dot_comm,dot_neg,dot_comm,hv r hr he]; rfl)
 rw [dot_comm,dot_neg,dot_comm] at h2
 omega
theorem corner_iff {d:Nat} {P P':List (List Int)} (hg:Good d P) (hm:∀r,r∈P'↔r∈P) {x:List Int} (hx:x∈P) :
  (∀y∈P,y≠x→∃r∈rowsC P' [] d P',r.getD d 0=dot d (V r) (V x)∧r.getD d 0≠dot d (V r) (V y))↔
   ∀v:Nat→Int,(∀r∈rowsC P' [] d P',r.getD d 0=dot d (V r) (V x)→dot d (V r) v=0)→∀i,i < d→v i=0:=by
 have hall:∀r∈rowsC P' [] d P',RowOf d P r:=fun r hr=>rowsC_fit hg.box hg.d1 (by have:=hg.d4; omega) hm hr
 constructor
 ·intro ha v hv i hi
  -- the rows that it meets,added
  obtain ⟨T,hT⟩:∃T,T=(rowsC P' [] d P').filter fun r=>decide (r.getD d 0=dot d (V r) (V x)):=⟨_,rfl⟩
  have hTm:∀r,r∈T↔r∈rowsC P' [] d P'∧r.getD d 0=dot d (V r) (V x):=fun r=>by rw [hT]; simp
  have hdiff:∀y∈P,dot d (sumR T) (fun j=>V y j-V x j)≤0∧(y≠x→dot d (sumR T) (fun j=>V y j-V x j)≤-1):=fun y hy=>by
   rw [dot_sumR]
   have hn:∀q∈T.map fun r=>dot d (V r) (fun j=>V y j-V x j),q≤0:=fun q hq=>by
    obtain ⟨r,hr,rfl⟩:=List.mem_map.1 hq
    have h1:=(hTm r).1 hr
    have h2:=(hall r h1.1).all y hy
    rw [dot_sub]; omega
   obtain ⟨h1,h2⟩:=sum_nonpos _ hn
   refine ⟨h1,fun hne=>?_⟩
   obtain ⟨r,hr,hrx,hry⟩:=ha y hy hne
   have h3:=h2 _ (List.mem_map.2 ⟨r,(hTm r).2 ⟨hr,hrx⟩,rfl⟩)
   rw [dot_sub] at h3
   have h4:=(hall r hr).all y hy
   omega
  have hco:∀y∈P,-60≤V y i-V x i∧V y i-V x i≤60:=fun y hy=>by
   have h1:=(hg.box y hy).2 (V y i) (getD_mem (by rw [(hg.box y hy).1]; exact hi))
   have h2:=(hg.box x hx).2 (V x i) (getD_mem (by rw [(hg.box x hx).1]; exact hi))
   omega
  have hmx:∀e:Int,e=0∨e=1→dot d (fun k=>1000*sumR T k+e*unit i k) v=0:=fun e he=>by
   refine tight_tell hg hm hx hv fun y hy=>?_
   have h0:dot d (fun k=>1000*sumR T k+e*unit i k) (fun j=>V y j-V x j)≤0:=by
    rw [dot_lc,dot_unit hi]
    obtain ⟨h1,h2⟩:=hdiff y hy
    have h3:=hco y hy
    by_cases hyx:y=x
    ·subst hyx
     have:dot d (sumR T) (fun j=>V y j-V y j)=0:=by rw [dot_sub]; omega
     rw [this]; simp
    ·have h4:=h2 hyx
     rcases he with rfl | rfl <;> omega
   rw [dot_sub] at h0
   omega
  have h0:=hmx 0 (Or.inl rfl)
  have h1:=hmx 1 (Or.inr rfl)
  rw [dot_lc] at h0 h1
  rw [dot_unit hi] at h1
  omega
 ·intro hv y hy hne
  refine Classical.byContradiction fun hn=>hne ?_
  have h1:=hv (fun j=>V y j-V x j) (fun r hr he=>by
   rw [dot_sub]
   rcases Int.lt_or_le (dot d (V r) (V y)) (r.getD d 0) with h | h
   ·exact absurd ⟨r,hr,he,by omega⟩ hn
   ·have:=(hall r hr).all y hy
    omega)
  exact eq_of_all (by rw [(hg.box y hy).1,(hg.box x hx).1]) fun i hi=>by
   have:=h1 i (by rw [←(hg.box y hy).1]; exact hi)
   show V y i=V x i
   omega
end Go.Proofs.YtkfdpcgmpbopnaaGreatDoor
namespace Go.Proofs.YtkfdpcgmpbopnaaGreatDoor
open Go.RowKit
def putAt (s:List (List Int)) (q:List Int) (p:Nat):List (List Int):=s.take p ++ [q] ++ s.drop p
theorem putAt_len {s:List (List Int)} {q:List Int} {p:Nat} (h:p≤s.length):(putAt s q p).length=s.length+1:=by
 simp [putAt]; omega
theorem putAt_mem {s:List (List Int)} {q r:List Int} {p:Nat} : r∈putAt s q p↔r=q∨r∈s:=by
 have e:r∈s↔r∈s.take p∨r∈s.drop p:=by rw [←List.mem_append,List.take_append_drop]
 simp only [putAt,List.mem_append,List.mem_singleton,e]
 constructor
 ·rintro ((h | h) | h)
  ·exact Or.inr (Or.inl h)
  ·exact Or.inl h
  ·exact Or.inr (Or.inr h)
 ·rintro (h | h | h)
  ·exact Or.inl (Or.inr h)
  ·exact Or.inl (Or.inl h)
  ·exact Or.inr h
theorem putAt_asc {s:List (List Int)} {q:List Int} {p:Nat} (h:SAsc s) (hlo:∀r∈s.take p,cmpL r q < 0) (hup:∀r∈s.drop p,cmpL q r < 0):SAsc (putAt s q p):=by
 unfold SAsc at *
 have h':(s.take p ++ s.drop p).Pairwise fun a b=>cmpL a b < 0:=by rw [List.take_append_drop]; exact h
 rw [List.pairwise_append] at h'
 obtain ⟨h1,h2,h3⟩:=h'
 unfold putAt
 rw [List.pairwise_append,List.pairwise_append]
 refine ⟨⟨h1,by simp,fun a ha b hb=>?_⟩,h2,fun a ha b hb=>?_⟩
 ·simp at hb; subst hb; exact hlo a ha
 ·simp only [List.mem_append,List.mem_singleton] at ha
  rcases ha with ha | rfl
  ·exact h3 a ha b hb
  ·exact hup b hb
theorem asc_below {s:List (List Int)} {q:List Int} {p:Nat} (h:SAsc s) (hp:p < s.length) (hq:¬cmpL q (s.getD p []) < 0) (hne:s.getD p []≠q):∀r∈s.take (p+1),cmpL r q < 0:=by
 have hpq:cmpL (s.getD p []) q < 0:=by
  rcases Int.lt_or_le (cmpL (s.getD p []) q) 0 with h1 | h1
  ·exact h1
  ·exact absurd (cmpL_eq _ _ (Int.not_lt.2 h1) hq) hne
 intro r hr
 rw [List.take_succ_eq_append_getElem hp] at hr
 rcases List.mem_append.1 hr with hr | hr
 ·have h':(s.take p ++ s.drop p).Pairwise fun a b=>cmpL a b < 0:=by rw [List.take_append_drop]; exact h
  rw [List.pairwise_append] at h'
  have h2:=h'.2.2 r hr (s.getD p []) (by
   have e:s.getD p []=s[p]:=by simp [hp]
   rw [e,List.drop_eq_getElem_cons hp]
   exact List.mem_cons_self)
  exact cmpL_trans _ _ _ h2 hpq
 ·simp at hr
  have e:s.getD p []=r:=by rw [hr]; simp [hp]
  rw [←e]; exact hpq
end Go.Proofs.YtkfdpcgmpbopnaaGreatDoor
namespace Go.Proofs.YtkfdpcgmpbopnaaGreatDoor
open Go.RowKit
theorem step_copy_cells {P:Program} {ops:Array Oper} {o:Oper} {a:Act} {w:World} {K:Act→World→Prop} {Q:Exit→Act→World→Prop} {E:Prop} (hgd:o.guard=none) (d s:Operand) (dT sT:TypeId)
  (ho:o.op=.call { callee:=.builtin .copy,args:=#[d,s],argTypes:=#[dT,sT] }) (elem:TypeId) (hu:P.underlying dT=some (.slice elem)) (hsz:(P.info? elem).map (·.size)=some 1)
  (dp sp:Option Addr) (dLen dCap sLen sCap:Nat) (hd:a.eval d=.slice dp dLen dCap) (hs:a.eval s=.slice sp sLen sCap)
  (g off:Nat) (cs:List Value) (hn:cs.length=Nat.min sLen dLen)
  (hpos:0 < cs.length→dp=some ⟨g,off,none⟩∧∃ad,sp=some ad∧∀j v,cs[j]?=some v→w.cell? (ad.add j)=some v)
  (hc:∀j,j < cs.length→(w.cell? ⟨g,off+j,none⟩).isSome=true) (hf:∀j,j < cs.length→w.frozen? ⟨g,off+j,none⟩=false) (h1:∀v∈cs,v.oneCell'=true)
  (h:K (a.put o.dst (goInt cs.length)) (w.setCells g off cs)) :
  if Region.wanted o (yielded ops a.tmps)=true then Oper.wp P o a w K Q else E:=by
 have hw:Region.wanted o (yielded ops a.tmps)=true:=by simp [Region.wanted,hgd]
 rw [if_pos hw]
 by_cases h0:cs.length=0
 ·obtain rfl:cs=[]:=List.eq_nil_of_length_eq_zero h0
  have hrun:=run_copy_none (P:=P) w dT sT o.type elem dp sp dLen dCap sLen sCap hu hsz (by simpa using hn.symm)
  unfold Oper.wp
  simp [execOp,ho,resolve,invoke,builtin,hd,hs,hrun,Result.andThen]
  exact h
 ·obtain ⟨rfl,ad,rfl,hsrc⟩:=hpos (by omega)
  have hrun:=run_copy_cells (P:=P) w dT sT o.type elem g off dLen dCap ad sLen sCap cs hu hsz hn hsrc hc hf h1
  unfold Oper.wp
  simp [execOp,ho,resolve,invoke,builtin,hd,hs,hrun,Result.andThen]
  exact h
theorem sl_one {B:Nat} {e:TypeId} {w:World} {v:Value} {xs:List Value} (h:Sl B e w v xs):v.oneCell'=true:=by
 obtain ⟨ao,cap,rfl,_⟩:=h; rfl
theorem putAt_lt {s:List (List Int)} {q:List Int} {p i:Nat} (hp:p≤s.length) (hi:i < p):(putAt s q p).getD i []=s.getD i []:=by
 unfold putAt
 simp only [List.getD_eq_getElem?_getD]
 rw [List.getElem?_append_left (by simp; omega),List.getElem?_append_left (by simp; omega),List.getElem?_take_of_lt hi]
theorem putAt_at {s:List (List Int)} {q:List Int} {p:Nat} (hp:p≤s.length):(putAt s q p).getD p []=q:=by
 unfold putAt
 simp only [List.getD_eq_getElem?_getD]
 rw [List.getElem?_append_left (by simp; omega),List.getElem?_append_right (by rw [List.length_take]; omega)]
 simp [Nat.min_eq_left hp]
theorem putAt_gt {s:List (List Int)} {q:List Int} {p i:Nat} (hp:p≤s.length) (hi:p < i):(putAt s q p).getD i []=s.getD (i-1) []:=by
 unfold putAt
 simp only [List.getD_eq_getElem?_getD]
 rw [List.getElem?_append_right (by simp; omega),List.getElem?_drop]
 congr 2
 simp
 omega
def overC (f:Nat→Value) (p n:Nat):List Value:=(List.range (n-p)).map fun j=>f (p+j)
theorem overC_len (f:Nat→Value) (p n:Nat):(overC f p n).length=n-p:=by simp [overC]
theorem overC_get (f:Nat→Value) (p n j:Nat) (v:Value) (h:(overC f p n)[j]?=some v):j < n-p∧v=f (p+j):=by
 have hj:j < (overC f p n).length:=(List.getElem?_eq_some_iff.1 h).1
 rw [overC_len] at hj
 refine ⟨hj,?_⟩
 unfold overC at h
 rw [List.getElem?_map,List.getElem?_range hj] at h
 simp at h
 exact h.symm
theorem rowIs_same {w w':World} {g cap:Nat} {e:TypeId} {f:Nat→Value} (h:w.rowIs g e cap f) (hb:w'.heap[g]?=w.heap[g]?):w'.rowIs g e cap f:=by
 obtain ⟨c,h1,h2,h3⟩:=h
 exact ⟨c,hb.trans h1,h2,h3⟩
theorem ins_fr {B N g cap p:Nat} {f:Nat→Value} {s:List (List Int)} {q:List Int} {w3 w5:World} {u:Value} (hr:RowM w3 g cap f (s ++ [[]])) (hp:p≤s.length) (hB:B≤g)
  (hb:Below N (w3.setCells g (p+1) (overC f p s.length)) w5) (hN:w3.heap.size≤N) (hu:Sl 0 3 w5 u (ints q)) :
  Fr B 22 3 (w5.setCell ⟨g,p,none⟩ u) (.slice (some ⟨g,0,none⟩) (s.length+1) cap) (putAt s q p):=by
 obtain ⟨cur,hcur,_⟩:=hr.row
 have hgs:g < w3.heap.size:=lt_of_block hcur
 have ht:Touch g w3 (w3.setCells g (p+1) (overC f p s.length)):=(Touch.refl _ _).setCells _ _
 have h4:=rowIs_setCells (overC f p s.length) (p+1) w3 f hr.row
 have h5:=rowIs_same h4 (hb.block g (by omega))
 have h6:=h5.set p u
 obtain ⟨cur5,hcur5,_⟩:=h5
 have hs5:∀i,i < (s ++ [[]]).length→Sl 0 3 (w5.setCell ⟨g,p,none⟩ u) (f i) (ints ((s ++ [[]]).getD i [])):=fun i hi=>
  ((ht.sl hcur (hr.inn i hi)).below hb (by rw [ht.size]; exact hN)).setCell u ⟨Nat.zero_le _,fun c hc=>by rw [hcur5] at hc; simp at hc⟩
 have hsL:∀i,i < s.length→(s ++ [[]]).getD i []=s.getD i []:=fun i hi=>by
  simp only [List.getD_eq_getElem?_getD]; rw [List.getElem?_append_left hi]
 have hc1:=hr.cap1
 simp at hc1
 have hrm:RowM (w5.setCell ⟨g,p,none⟩ u) g cap (fun i=>if i=p then u else (if p+1≤i∧i < p+1+(overC f p s.length).length then (overC f p s.length)[i-(p+1)]?.getD default else f i)) (putAt s q p):=by
  refine ⟨h6,by rw [putAt_len hp]; exact hc1,hr.cap2,fun i hi=>?_⟩
  rw [putAt_len hp] at hi
  by_cases hip:i=p
  ·subst hip
   simp only [if_true]
   rw [putAt_at hp]
   exact hu.setCell u ⟨Nat.zero_le _,fun c hc=>by rw [hcur5] at hc; simp at hc⟩
  ·simp only [hip,if_false]
   by_cases hlt:i < p
   ·simp only [show ¬p+1≤i by omega,false_and,if_false]
    rw [putAt_lt hp hlt,←hsL i (by omega)]
    exact hs5 i (by simp; omega)
   ·rw [overC_len,if_pos ⟨by omega,by omega⟩]
    have e:(overC f p s.length)[i-(p+1)]?.getD default=f (i-1):=by
     unfold overC
     rw [List.getElem?_map,List.getElem?_range (by omega)]
     simp only [Option.map_some,Option.getD_some]
     congr 1
     omega
    rw [e,putAt_gt hp (by omega),←hsL (i-1) (by omega)]
    exact hs5 (i-1) (by simp; omega)
 have:=hrm.fr hB
 rw [putAt_len hp] at this
 exact this
end Go.Proofs.YtkfdpcgmpbopnaaGreatDoor
namespace Go.Proofs.YtkfdpcgmpbopnaaGreatDoor
open Go.RowKit
attribute [local go_sem ↓] Go.wp_at_zero Go.wp_at_succ
def Aft (s:List (List Int)) (q:List Int) (p:Nat):Prop:=∀r∈s.drop p,cmpL q r < 0
theorem Aft.step {s:List (List Int)} {q:List Int} {p:Nat} (h:Aft s q (p+1)) (hp:p < s.length) (hq:cmpL q (s.getD p []) < 0):Aft s q p:=by
 intro r hr
 rw [List.drop_eq_getElem_cons hp] at hr
 rcases List.mem_cons.1 hr with rfl | hr
 ·have e:s.getD p []=s[p]:=by simp [hp]
  rw [←e]; exact hq
 ·exact h r hr
def tailP (b c k:Nat):Option Addr:=if c=k+1 then some ⟨b,0,none⟩ else some ⟨b,k+1,none⟩
theorem tailP_lt {b c k:Nat} (h:k+1 < c):tailP b c k=some ⟨b,k+1,none⟩:=if_neg (by omega)
theorem run_tailM {b n c k:Nat} (h1:k+1≤n) (w:World):(Instr.slice 25 (.slice (some ⟨b,0,none⟩) n c) (some (.int .i64 ((k:Int)+1))) none none).run Tryz.prog w=.ok (.slice (tailP b c k) (n-(k+1)) (c-(k+1))) w:=by
 have e1:(0:Int)≤(k:Int)+1∧(k:Int)+1≤(n:Int):=by omega
 have e2:((k:Int)+1).toNat=k+1:=by omega
 have hz:∀w,(Go.sizeOf 22).run Tryz.prog w=.ok 1 w:=fun w=>by kernel_rfl
 unfold tailP
 by_cases e3:c=k+1
 ·simp [Instr.slice,Instr.sliceBounds,Instr.sliceBound,run_underlying Tryz.underlying25,asIntOf,e1,e2,e3,hz,Addr.add,go_sem]
 ·simp [Instr.slice,Instr.sliceBounds,Instr.sliceBound,run_underlying Tryz.underlying25,asIntOf,e1,e2,e3,hz,Addr.add,go_sem]
theorem run_fromM {b n c k:Nat} (h1:k < n) (h2:n≤c) (w:World):(Instr.slice 25 (.slice (some ⟨b,0,none⟩) n c) (some (.int .i64 (k:Int))) none none).run Tryz.prog w=.ok (.slice (some ⟨b,k,none⟩) (n-k) (c-k)) w:=by
 have e1:(0:Int)≤(k:Int)∧(k:Int)≤(n:Int):=by omega
 have e3:¬c=k:=by omega
 have e4:k≤n:=by omega
 have hz:∀w,(Go.sizeOf 22).run Tryz.prog w=.ok 1 w:=fun w=>by kernel_rfl
 simp [Instr.slice,Instr.sliceBounds,Instr.sliceBound,run_underlying Tryz.underlying25,asIntOf,e1,e3,e4,hz,Addr.add,go_sem]
 intro h
 omega
def Qw (w wr:World):Prop:=∃n,wr=w.drewN n
theorem Qw.refl (w:World):Qw w w:=⟨0,rfl⟩
theorem Qw.drewN {w wr:World} (h:Qw w wr) (k:Nat):Qw w (wr.drewN k):=by
 obtain ⟨n,rfl⟩:=h
 exact ⟨n+k,by rw [World.drewN_drewN]⟩
theorem Qw.below {N:Nat} {w wr:World} (h:Qw w wr):Below N w wr:=by
 obtain ⟨n,rfl⟩:=h
 exact ⟨rfl,rfl,rfl,Nat.le_refl _,fun _ _=>rfl⟩
theorem Qw.fr {B:Nat} {w wr:World} {v:Value} {m:List (List Int)} (h:Qw w wr) (hf:Fr B 22 3 w v m):Fr B 22 3 wr v m:=by
 obtain ⟨n,rfl⟩:=h
 exact hf
theorem ins_runs {g gc p n:Nat} (hp:p≤n) (hn:n+1≤gc) (hb:p≤20000000):∃(dp:Option Addr) (la ca lb cb:Nat),
  (∀w:World,(Instr.slice 25 (.slice (some ⟨g,0,none⟩) (n+1) gc) (some (.int .i64 ((p:Int)+1))) none none).run Tryz.prog w=.ok (.slice dp la ca) w)∧
  (∀w:World,(Instr.slice 25 (.slice (some ⟨g,0,none⟩) (n+1) gc) (some (.int .i64 (p:Int))) none none).run Tryz.prog w=.ok (.slice (some ⟨g,p,none⟩) lb cb) w)∧
  (p < n→dp=some ⟨g,p+1,none⟩)∧la=n-p∧lb=n-p+1∧IntKind.i64.wrap ((p:Int)+1)=(p:Int)+1:=
 ⟨_,_,_,_,_,fun w=>run_tailM (by omega) w,fun w=>run_fromM (by omega) hn w,fun h=>tailP_lt (by omega),by omega,by omega,by rw [IntKind.wrap_i64]; omega⟩
theorem ins_copy {p n g gc dpl ca lb cb:Nat} {dp:Option Addr} {f:Nat→Value} {w:World} {s:List (List Int)} (hs:s.length=n) (hp:p≤n) (hn:n+1≤gc) (hdp:p < n→dp=some ⟨g,p+1,none⟩) (hla:dpl=n-p) (hlb:lb=n-p+1) (hr:RowM w g gc f (s ++ [[]]))
  (ops:Array Oper) (o:Oper) (a:Act) (K:Act→World→Prop) (Q:Exit→Act→World→Prop) (E:Prop) (hgd:o.guard=none) (ho:o.op=.call { callee:=.builtin .copy,args:=#[.tmp 50,.tmp 53],argTypes:=#[25,25] })
  (hd:a.eval (.tmp 50)=.slice dp dpl ca) (hs':a.eval (.tmp 53)=.slice (some ⟨g,p,none⟩) lb cb) (h:K (a.put o.dst (goInt ((n-p:Nat):Int))) (w.drew.setCells g (p+1) (overC f p n))) :
  if Region.wanted o (yielded ops a.tmps)=true then Oper.wp Tryz.prog o a w.drew K Q else E:=by
 obtain ⟨i0,hi,hz0,hz1,hz2⟩:=info_parts Tryz.info22
 have hol:(overC f p n).length=n-p:=overC_len _ _ _
 refine step_copy_cells hgd (.tmp 50) (.tmp 53) 25 25 ho 22 Tryz.underlying25 (by rw [hi]; simp [hz1]) dp (some ⟨g,p,none⟩) dpl ca lb cb hd hs' g (p+1) (overC f p n) (by rw [hol,hla,hlb]; show _=min _ _; omega) (fun h=>⟨hdp (by rw [hol] at h; omega),_,rfl,fun j v h=>?_⟩) (fun j h=>?_) (fun j _=>hr.row.frozen _) (fun v hv=>?_) ?_
 ·obtain ⟨h1,rfl⟩:=overC_get f p n j v h
  have e:(⟨g,p,none⟩:Addr).add j=⟨g,p+j,none⟩:=by unfold Addr.add; split <;> simp_all
  rw [e]
  exact hr.row.cell (by omega)
 ·rw [overC_len] at h
  have:=hr.row.cell (i:=p+1+j) (by omega)
  show (w.cell? _).isSome=true
  rw [this]; rfl
 ·obtain ⟨j,hj⟩:=List.mem_iff_getElem?.1 hv
  obtain ⟨h1,rfl⟩:=overC_get f p n j v hj
  exact sl_one (hr.inn (p+j) (by simp; omega))
 ·rw [hol]; exact h
set_option maxRecDepth 100000 in
set_option maxHeartbeats 400000 in
theorem sortR_any (B:Nat) (l:List (List Int)) (v:Value) (w:World) (hv:Mat B 22 3 w v l) (hl:l.length≤20000000) (hr:∀r∈l,r.length≤1000000) :
  Calls Tryz.prog 30 #[v] w fun e w'=>∃x s,e=.returned x∧Fr w.heap.size 22 3 w' x s∧SAsc s∧(∀r,r∈s↔r∈l)∧Below w.heap.size w w':=by
 obtain ⟨i0,hi,hz0,hz1,hz2⟩:=info_parts Tryz.info22
 obtain ⟨ao,cap,hvv,hlc,hcm⟩:=mat_open hv
 subst hvv
 have HV:Hid (Mat B 22 3 w (.slice ao l.length cap) l):=hv
 have HR:Hid (∀r∈l,r.length≤1000000):=hr
 clear hv hr
 go_enter Tryz.func30,Tryz.ntmps30
 go_wp2
 go_loopw [3,4] (fun x i wr=>∃(k:Nat) (s:List (List Int)),k≤l.length∧i=.int .i64 k∧Fr w.heap.size 22 3 wr x s∧SAsc s∧(∀r,r∈s↔r∈l.take k)∧s.length≤k∧Below w.heap.size w wr) (fun _ i _=>l.length-(intOf i).toNat)
 case atStart=>exact ⟨0,[],Nat.zero_le _,rfl,Fr.nil _ _ _ _,List.Pairwise.nil,(fun r=>by simp),Nat.le_refl _,Below.refl _ _⟩
 case round=>
  obtain ⟨k,s,hk,rfl,hfr,hsa,hmem,hsk,hbel⟩:=hrel
  rename World=>wa
  have HF:Hid (Fr w.heap.size 22 3 wa u3 s):=hfr
  have HS:Hid (SAsc s):=hsa
  have HM:Hid (∀r,r∈s↔r∈l.take k):=hmem
  have HB:Hid (Below w.heap.size w wa):=hbel
  have hsz:w.heap.size≤wa.heap.size:=hbel.size
  obtain ⟨uo,uc,huu,huc1,huc2⟩:=fr_open hfr
  subst huu
  clear hfr hsa hmem hbel
  by_cases hlt:k < l.length
  ·obtain ⟨b,o,cp,r1,hs,hc1,hcc,hr1⟩:=mat_cell HV.out hlt
   simp only [Value.slice.injEq] at hs
   obtain ⟨rfl,_,rfl⟩:=hs
   obtain ⟨ro,rc,hrv,_,_⟩:=sl_open hr1
   subst hrv
   have HQ:Hid (∀W',Below w.heap.size w W'→W'.cell? ⟨b,o+k,none⟩=some (.slice ro (l.getD k []).length rc)∧Sl B 3 W' (.slice ro (l.getD k []).length rc) (ints (l.getD k []))):=fun W' h=>⟨(h.cell (lt_of_cell hcc)).trans hcc,hr1.below h (Nat.le_refl _)⟩
   have HQL:Hid ((l.getD k []).length≤1000000):=HR.out _ (by simp [hlt])
   have HTK:Hid (l.take (k+1)=l.take k ++ [l.getD k []]):=by
    show _=_
    rw [List.take_succ_eq_append_getElem hlt]; simp [hlt]
   clear hr1 hcc
   generalize l.getD k []=q at *
   obtain ⟨ql,hql⟩:∃ql,ql=q.length:=⟨_,rfl⟩
   have HQE:Hid (ql=q.length):=hql
   rw [←hql] at HQ HQL
   clear hql
   have hkI:(k:Int) < (l.length:Int):=by omega
   have hkI0:(0:Int)≤(k:Int):=by omega
   go_wp2
   go_loopw [5] (fun p wq=>∃p':Nat,p'≤s.length∧p=.int .i64 p'∧Aft s q p'∧Qw wa wq) (fun p _=>(intOf p).toNat)
   case atStart=>exact ⟨s.length,Nat.le_refl _,rfl,(fun r hr=>by rw [List.drop_length] at hr; simp at hr),Qw.refl _⟩
   case round=>
    obtain ⟨p',hp',rfl,haft,hqw⟩:=hrel
    have HA:Hid (Aft s q p'):=haft
    have HQW:Hid (Qw wa wr):=hqw
    have HBW:Hid (Below w.heap.size w wr):=HB.out.trans hqw.below
    have hccw:=(HQ.out wr HBW.out).1
    have HFW:Hid (Fr w.heap.size 22 3 wr (.slice uo s.length uc) s):=hqw.fr HF.out
    clear haft hqw
    have hp'64:p'≤20000000:=by omega
    by_cases hp0:p'=0
    case' pos=>
     have hpF:decide ((0:Int) < (p':Int))=false:=by simp; omega
     have hpN:decide (0 < p')=false:=by simp; omega
     have HLO:Hid (∀r∈s.take p',cmpL r q < 0):=fun r hr=>by rw [hp0] at hr; simp at hr
     clear hp0
     go_wp2
     go_quiet (fail)
     generalize nq=n1
     go_wp2
     go_quiet (fail)
     have HF9:Hid (Fr w.heap.size 22 3 ((wr.drewN n1).drewN nq) (.slice uo s.length uc) s):=HFW.out
     have HB9:Hid (Below w.heap.size w ((wr.drewN n1).drewN nq)):=HBW.out.trans ⟨rfl,rfl,rfl,Nat.le_refl _,fun _ _=>rfl⟩
     generalize (wr.drewN n1).drewN nq=W9 at *
    case' neg=>
     have hpF:decide ((0:Int) < (p':Int))=true:=by simp; omega
     have hpN:decide (0 < p')=true:=by simp; omega
     have hpl:p'-1 < s.length:=by omega
     obtain ⟨b2,o2,cp2,r2,hs2,_,hcc2,hr2⟩:=mat_cell (HFW.out.rws.mat (Nat.le_refl _)) hpl
     simp only [Value.slice.injEq,true_and] at hs2
     obtain ⟨rfl,rfl⟩:=hs2
     have hk1:(p':Int)-1=((p'-1:Nat):Int):=by omega
     have HBE:Hid (∀n,Calls Tryz.prog 45 #[.slice ro ql rc,r2] (wr.drewN n) fun e w'=>e=.returned (.bool (decide (cmpL q (s.getD (p'-1) []) < 0)))∧∃k,w'=(wr.drewN n).drewN k):=fun n=>below_any (max B w.heap.size) q (s.getD (p'-1) []) _ _ (wr.drewN n) (by have:=((HQ.out wr HBW.out).2.more (show B≤max B w.heap.size by omega)).drewN n; exact this) ((hr2.more (show w.heap.size≤max B w.heap.size by omega)).drewN n)
     have HSE:Hid (∀n,Calls Tryz.prog 39 #[r2,.slice ro ql rc] (wr.drewN n) fun e w'=>e=.returned (.bool (s.getD (p'-1) [] == q))∧∃k,w'=(wr.drewN n).drewN k):=fun n=>same_any (max B w.heap.size) (s.getD (p'-1) []) q _ _ (wr.drewN n) ((hr2.more (show w.heap.size≤max B w.heap.size by omega)).drewN n) (by have:=((HQ.out wr HBW.out).2.more (show B≤max B w.heap.size by omega)).drewN n; exact this)
     have HST:Hid (cmpL q (s.getD (p'-1) []) < 0→Aft s q (p'-1)):=fun h=>Aft.step (p:=p'-1) (by rw [show p'-1+1=p' by omega]; exact HA.out) hpl h
     have HLL:Hid (¬cmpL q (s.getD (p'-1) []) < 0→s.getD (p'-1) []≠q→∀r∈s.take p',cmpL r q < 0):=fun h1 h2=>by
      have:=asc_below HS.out hpl h1 h2
      rw [show p'-1+1=p' by omega] at this
      exact this
     have HIN:Hid (s.getD (p'-1) []∈s):=by show _∈_; simp [hpl]
     clear hr2 hp0
     generalize s.getD (p'-1) []=y at *
     obtain ⟨bb,hbb⟩:∃bb,bb=decide (cmpL q y < 0):=⟨_,rfl⟩
     have HBB:Hid (bb=decide (cmpL q y < 0)):=hbb
     rw [←hbb] at HBE
     clear hbb
     obtain ⟨sb,hsb⟩:∃sb,sb=(y == q):=⟨_,rfl⟩
     have HSBB:Hid (sb=(y == q)):=hsb
     rw [←hsb] at HSE
     clear hsb
     go_wp2
     go_quiet (first | (go_at_call 45; exact Calls.quiet_of (w:=wr) (HBE.out _)))
     generalize nq=n1
     cases hbc:bb
     case' true=>
      have HAF:Hid (Aft s q (p'-1)):=HST.out (of_decide_eq_true (by rw [←HBB.out]; exact hbc))
      clear hbc
      go_wp2
      go_roundw
      case rel=>exact ⟨p'-1,by omega,by go_num,HAF.out,HQW.out.drewN _⟩
      case measure=>simp [intOf]; omega
     case' false=>
      have HNB:Hid (¬cmpL q y < 0):=of_decide_eq_false (by rw [←HBB.out]; exact hbc)
      clear hbc
      have HSZ:Hid (∀n,Calls Tryz.prog 39 #[r2,.slice ro ql rc] ((wr.drewN n1).drewN n) fun e w'=>e=.returned (.bool sb)∧∃k,w'=((wr.drewN n1).drewN n).drewN k):=fun n=>by
       have:=HSE.out (n1+n)
       rw [←World.drewN_drewN] at this
       exact this
      have hccz:(wr.drewN n1).cell? ⟨b,o+k,none⟩=some (.slice ro ql rc):=hccw
      have hcc2z:(wr.drewN n1).cell? ⟨b2,o2+(p'-1),none⟩=some r2:=hcc2
      have HFZ:Hid (Fr w.heap.size 22 3 (wr.drewN n1) (.slice (some ⟨b2,o2,none⟩) s.length uc) s):=HFW.out
      have HBZ:Hid (Below w.heap.size w (wr.drewN n1)):=HBW.out.trans ⟨rfl,rfl,rfl,Nat.le_refl _,fun _ _=>rfl⟩
      have HQZ:Hid (Qw wa (wr.drewN n1)):=HQW.out.drewN n1
      clear hccw hcc2
      generalize wr.drewN n1=wz at *
      go_wp2
      go_quiet (first | (go_at_call 39; exact Calls.quiet_of (w:=wz) (HSZ.out _)))
      cases hsc:sb
      case' true=>
       have HEQ:Hid (y=q):=by have:=HSBB.out; rw [hsc] at this; exact eq_of_beq this.symm
       have HMM:Hid (∀r,r∈s↔r∈l.take (k+1)):=by
        intro r
        rw [HTK.out,List.mem_append,←HM.out r,List.mem_singleton]
        constructor
        ·exact Or.inl
        ·rintro (h | h)
         ·exact h
         ·rw [h,←HEQ.out]; exact HIN.out
       have HFN:Hid (Fr w.heap.size 22 3 (wz.drewN nq) (.slice (some ⟨b2,o2,none⟩) s.length uc) s):=HFZ.out
       have HBN:Hid (Below w.heap.size w (wz.drewN nq)):=HBZ.out.trans ⟨rfl,rfl,rfl,Nat.le_refl _,fun _ _=>rfl⟩
       clear hsc
       go_wp2
       go_roundw
       case rel=>exact ⟨k+1,s,by omega,by go_num,HFN.out,HS.out,HMM.out,by omega,HBN.out⟩
       case measure=>simp [intOf]; omega
      case' false=>
       have HNE:Hid (y≠q):=by
        have:=HSBB.out
        rw [hsc] at this
        exact fun h=>by rw [h] at this; simp at this
       have HLO:Hid (∀r∈s.take p',cmpL r q < 0):=HLL.out HNB.out HNE.out
       clear hsc
       have HF9:Hid (Fr w.heap.size 22 3 (wz.drewN nq) (.slice (some ⟨b2,o2,none⟩) s.length uc) s):=HFZ.out
       have HB9:Hid (Below w.heap.size w (wz.drewN nq)):=HBZ.out.trans ⟨rfl,rfl,rfl,Nat.le_refl _,fun _ _=>rfl⟩
       generalize wz.drewN nq=W9 at *
       generalize (some (⟨b2,o2,none⟩:Addr))=uo at *
    all_goals
     have hsz9:w.heap.size≤W9.heap.size:=HB9.out.size
     obtain ⟨vs,g1,g2,g3⟩:=HF9.out
     have G1:Hid (vs.length=s.length):=g1
     have G2:Hid (W9.ownsRow w.heap.size 22 1 (.slice uo s.length uc) s.length vs):=g2
     have G3:Hid (∀i,i < s.length→Sl 0 3 W9 (vs.getD i (.slice none 0 0)) (ints (s.getD i []))):=g3
     clear g1 g2 g3
     go_wp2_with (first | (at_builtin; refine wpList_append_own _ rfl _ _ 25 rfl w.heap.size 22 i0 (.slice none 0 0) 1 24 Tryz.underlying25 hi hz0 hz1 hz2 rfl (by decide) _ _ _ rfl (G2.out.alloc _) ⟨W9.heap.size,0,none⟩ 1 1 [.slice none 0 0] rfl rfl (one_new _ _ _) (one_slice _ _ _) ?d3 ?d4 ?d5 ?_))
     case d3=>unfold maxLen; omega
     case d4=>omega
     case d5=>simp; omega
     intro v' w3 ho hg _
     have hfr3:Fr w.heap.size 22 3 w3 v' (s ++ [[]]):=
      Fr.push (e2:=22) (e1:=3) (m:=s) (u:=.slice none 0 0) (zs:=[]) (by decide) G1.out (G2.out.alloc _) (fun i hi=>(G3.out i hi).alloc _) (Sl.nil _ _ _) ho hg
     have HB3:Hid (Below w.heap.size w w3):=(HB9.out.alloc (by omega) _).grown hg (by simp; omega) (fun x hx=>(G2.out.lt x hx).1)
     obtain ⟨g,gc,f,hvv,hBg,hgs,hrm⟩:=hfr3.rowM (by simp)
     have hgc1:=hrm.cap1
     rw [List.length_append,List.length_singleton] at hvv hgc1
     subst hvv
     have hgc2:=hrm.cap2
     have HRM:Hid (RowM w3 g gc f (s ++ [[]])):=hrm
     clear hrm hfr3 ho hg
     obtain ⟨dp,la,ca,lb,cb,hr1,hr0,hdp,hla,hlb,hsm⟩:=ins_runs (g:=g) hp' hgc1 hp'64
     have HCP:Hid (∀(ops:Array Oper) (o:Oper) (a:Act) (K:Act→World→Prop) (Q:Exit→Act→World→Prop) (E:Prop),o.guard=none→o.op=.call { callee:=.builtin .copy,args:=#[.tmp 50,.tmp 53],argTypes:=#[25,25] }→a.eval (.tmp 50)=.slice dp la ca→a.eval (.tmp 53)=.slice (some ⟨g,p',none⟩) lb cb→K (a.put o.dst (goInt ((s.length-p':Nat):Int))) (w3.drew.setCells g (p'+1) (overC f p' s.length))→if Region.wanted o (yielded ops a.tmps)=true then Oper.wp Tryz.prog o a w3.drew K Q else E):=ins_copy rfl hp' hgc1 hdp hla hlb HRM.out
     have HSK:Hid (s.length≤k):=hsk
     have HPP:Hid (p'≤s.length∧p'≤20000000∧s.length+1≤gc∧s.length≤20000000):=⟨hp',hp'64,hgc1,by omega⟩
     clear hdp hla hlb
     clear hpF hpN hp'64 hgc1 hgc2 huc1 huc2 hsk hkI hkI0 hcm hlc
     try clear hpl hk1
     try clear hccz hcc2z
     try clear hccw
     clear hp'
     go_wp2
     go_region_law (refine HCP.out _ _ _ _ _ _ rfl rfl (by simp [Act.eval,Act.put]) (by simp [Act.eval,Act.put]) ?_)
     have HT4:Hid (Touch g w3 (w3.drew.setCells g (p'+1) (overC f p' s.length))):=(Touch.refl g w3).drew.setCells _ _
     have HB4:Hid (Below w.heap.size w (w3.drew.setCells g (p'+1) (overC f p' s.length))):=HT4.out.below HB3.out hBg
     have HRD:Hid (RowM w3.drew g gc f (s ++ [[]])):=⟨HRM.out.row,HRM.out.cap1,HRM.out.cap2,fun i hi=>HRM.out.inn i hi⟩
     have hs4:w3.heap.size≤(w3.drew.setCells g (p'+1) (overC f p' s.length)).heap.size:=Nat.le_of_eq HT4.out.size.symm
     have HFI:Hid (∀w5 u,Below (w3.drew.setCells g (p'+1) (overC f p' s.length)).heap.size (w3.drew.setCells g (p'+1) (overC f p' s.length)) w5→Sl 0 3 w5 u (ints q)→Fr w.heap.size 22 3 (w5.setCell ⟨g,p',none⟩ u) (.slice (some ⟨g,0,none⟩) (s.length+1) gc) (putAt s q p')):=fun w5 u hb hu=>ins_fr HRD.out HPP.out.1 hBg hb hs4 hu
     have HST:Hid (∀w5,Below (w3.drew.setCells g (p'+1) (overC f p' s.length)).heap.size (w3.drew.setCells g (p'+1) (overC f p' s.length)) w5→(∃x,w5.cell? ⟨g,p',none⟩=some x)∧w5.frozen? ⟨g,p',none⟩=false):=fun w5 hb=>by
      have h4:=rowIs_same (rowIs_setCells (overC f p' s.length) (p'+1) w3.drew f HRD.out.row) (hb.block g (by omega))
      exact ⟨⟨_,h4.cell (by have:=HPP.out; omega)⟩,h4.frozen _⟩
     clear hs4 hr1 hr0 hsm
     generalize w3.drew.setCells g (p'+1) (overC f p' s.length)=w4 at *
     have hcc4:=(HQ.out w4 HB4.out).1
     have HQ4:Hid (Sl B 3 w4 (.slice ro ql rc) (ints q)):=(HQ.out w4 HB4.out).2
     have hkI:(k:Int) < (l.length:Int):=by omega
     have hkI0:(0:Int)≤(k:Int):=by omega
     have hp4:(p':Int) < (s.length:Int)+1:=by have:=HPP.out.1; omega
     have HQL2:Hid (q.length≤1000000):=by rw [←HQE.out]; exact HQL.out
     go_wp2_with fail
     refine (copy_any B q _ w4 HQ4.out HQL2.out).mono ?_
     rintro e w5 ⟨cv,rfl,hcv,hb5⟩
     obtain ⟨xo,xc,hxv⟩:=owns_form hcv
     subst hxv
     have HFN:Hid (Fr w.heap.size 22 3 (w5.setCell ⟨g,p',none⟩ (.slice xo q.length xc)) (.slice (some ⟨g,0,none⟩) (s.length+1) gc) (putAt s q p')):=HFI.out w5 _ hb5 (Sl.own hcv)
     have HBN:Hid (Below w.heap.size w (w5.setCell ⟨g,p',none⟩ (.slice xo q.length xc))):=((Touch.refl g w5).setCell p' _).below (HB4.out.trans (hb5.mono HB4.out.size)) hBg
     obtain ⟨⟨x0,hx0⟩,hfz⟩:=HST.out w5 hb5
     clear hcv hb5 hcc4
     generalize hqq:q.length=ql2 at *
     clear hqq
     have HPA:Hid (SAsc (putAt s q p')):=putAt_asc HS.out HLO.out HA.out
     have HPM:Hid (∀r,r∈putAt s q p'↔r∈l.take (k+1)):=fun r=>by
      rw [putAt_mem,HTK.out,List.mem_append,←HM.out r,List.mem_singleton]
      exact or_comm
     have HPL:Hid ((putAt s q p').length≤k+1):=by
      show _≤_
      rw [putAt_len HPP.out.1]
      exact Nat.succ_le_succ HSK.out
     go_wp2
     exact ⟨⟨k+1,putAt s q p',hlt,by go_num,HFN.out,HPA.out,HPM.out,HPL.out,HBN.out⟩,by simp [intOf]; omega⟩
  ·have hke:l.take k=l:=List.take_of_length_le (by omega)
   have HM':Hid (∀r,r∈s↔r∈l):=by have:=HM.out; rw [hke] at this; exact this
   go_wp2
   go_ret
   exact ⟨_,s,rfl,HF.out,HS.out,HM'.out,HB.out⟩
end Go.Proofs.YtkfdpcgmpbopnaaGreatDoor
