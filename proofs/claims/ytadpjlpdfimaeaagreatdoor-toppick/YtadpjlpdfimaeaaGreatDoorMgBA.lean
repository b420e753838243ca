import Derived.Test.YtadpjlpdfimaeaaGreatDoorMgAZ
import Derived.Test.YtadpjlpdfimaeaaGreatDoorMgAQ
import Derived.Test.YtadpjlpdfimaeaaGreatDoorMgAS
import Derived.Test.YtadpjlpdfimaeaaGreatDoorMgAA
import Derived.Test.YtadpjlpdfimaeaaGreatDoorMgAI
namespace Go.Proofs.YtadpjlpdfimaeaaGreatDoor
open Go.RowKit
theorem rows_equalK {d:Nat} {P P' s rows:List (List Int)} (hg:Good d P) (hP:Inor P' P) (hr:Inw rows (rowsC P' [] d P')) (hs:SAsc s) (hm:∀r,r∈s↔r∈rowsD P d):rows=s:=by
 refine sasc_ext rows s hr.asc hs fun r=>?_
 rw [hr.mem r,hm r,mem_rowsD]
 exact rows_same hg hP.mem r
theorem corners_equalK {d:Nat} {P P' s rows c:List (List Int)} (hg:Good d P) (hP:Inor P' P) (hr:Inw rows (rowsC P' [] d P')) (hm:∀r,r∈s↔r∈rowsD P d) (hc:SAsc c) (hcm:∀y,y∈c↔y∈crn d s P) :
  (P'.filter fun x=>!twin rows P' x)=c:=by
 refine sasc_ext _ c (List.Pairwise.filter _ hP.asc) hc fun y=>?_
 rw [hcm y]
 unfold crn
 rw [List.mem_filter,List.mem_filter,hP.mem y]
 refine and_congr_right fun hy=>?_
 have hrl:∀r∈rows,r.length=d+1:=fun r hr'=>(rowsC_fit hg.box hg.d1 (by have:=hg.d4; omega) hP.mem ((hr.mem r).1 hr')).len
 have h1:=twin_iff (d:=d) (m:=rows) (P:=P') (x:=y) hrl (fun z hz=>(hg.box z ((hP.mem z).1 hz)).1) (hg.box y hy).1
 have h2:=corner_iff hg hP.mem hy
 have h3:=corner_rank hg hP.mem hm hy
 simp only [Bool.not_eq_true',decide_eq_true_eq]
 rw [h1,h3,←h2]
 constructor
 ·intro h z hz hne
  obtain ⟨r,hr1,hr2⟩:=h z ((hP.mem z).2 hz) hne
  exact ⟨r,(hr.mem r).1 hr1,hr2⟩
 ·intro h z hz hne
  obtain ⟨r,hr1,hr2⟩:=h z ((hP.mem z).1 hz) hne
  exact ⟨r,(hr.mem r).2 hr1,hr2⟩
end Go.Proofs.YtadpjlpdfimaeaaGreatDoor

namespace Go.Proofs.YtadpjlpdfimaeaaGreatDoor
open Go.RowKit Lin
def endL (C:List (List Int)) (r:List Int):List (List Int):=C.filter fun x=>decide (overL r x=0)
def arR (C:List (List Int)) (r:List Int):Int:=((detL (diffL [C.getD 0 [],(endL C r).getD 0 [],(endL C r).getD 1 []])).natAbs:Int)
def arS (C s:List (List Int)):Int:=(s.map (arR C)).sum
structure SrC (d:Nat) (P s C:List (List Int)):Prop where
 good:Good d P
 asc:SAsc s
 rows:∀r,r∈s↔r∈rowsD P d
 casc:SAsc C
 crns:∀y,y∈C↔y∈crn d s P
theorem SrC.cgood {d:Nat} {P s C:List (List Int)} (h:SrC d P s C):Good d C:=
 corners_good h.good h.rows (fun _ hx=>corner_rank h.good (fun _=>Iff.rfl) h.rows hx) h.crns h.casc.nodup
theorem SrC.sub {d:Nat} {P s C:List (List Int)} (h:SrC d P s C) {y:List Int} (hy:y∈C):y∈P:=(List.mem_filter.1 ((h.crns y).1 hy)).1
theorem SrC.ends {P s C:List (List Int)} (h:SrC 2 P s C) {r:List Int} (hr:r∈s):2≤(endL C r).length:=by
 have hgC:=h.cgood
 have hrC:r∈rowsC C [] 2 C:=(rows_corners h.good h.rows (fun _ hx=>corner_rank h.good (fun _=>Iff.rfl) h.rows hx) h.crns h.casc.nodup r).2 ((mem_rowsD).1 ((h.rows r).1 hr))
 have hrl:r.length=2+1:=(rowsD_facts h.good.box h.good.d1 (by decide) r ((h.rows r).1 hr)).len
 have:=side_rank hgC hrC (p:=endL C r) fun y=>by
  unfold endL
  rw [List.mem_filter,decide_eq_true_eq]
  exact and_congr_right fun hy=>over_zero hrl (hgC.box y hy).1
 have h2:=pickL_len 2 (diffL (endL C r))
 rw [diffL_length] at h2
 omega
end Go.Proofs.YtadpjlpdfimaeaaGreatDoor

namespace Go.Proofs.YtadpjlpdfimaeaaGreatDoor
def irange (a b:Int):List Int:=(List.range (b-a+1).toNat).map fun i:Nat=>a+(i:Int)
def isum (l:List Int) (f:Int→Int):Int:=(l.map f).sum
theorem isum_congr {l:List Int} {f g:Int→Int} (h:∀v∈l,f v=g v):isum l f=isum l g:=by
 unfold isum
 rw [List.map_congr_left h]
theorem isum_ends {p:Int→Bool} {F T:Int} (n:Nat) (a:Int) (h:∀v,a≤v→v < a+n→(p v=true↔F≤v∧v≤T)) (hF:a≤F) (hT:T < a+n) :
  (((List.range n).map fun i:Nat=>if p (a+(i:Int))=true then (1:Int) else 0)).sum=max (T-F+1) 0:=by
 -- by how far the count has come
 have key:∀m,m≤n→(((List.range m).map fun i:Nat=>if p (a+(i:Int))=true then (1:Int) else 0)).sum=max (min T (a+m-1)-F+1) 0:=by
  intro m
  induction m with
  | zero=>intro _; simp; omega
  | succ m ih=>
   intro hm
   rw [List.range_succ,List.map_append,List.sum_append,ih (by omega)]
   have h1:=h (a+m) (by omega) (by omega)
   simp only [List.map_cons,List.map_nil,List.sum_cons,List.sum_nil]
   by_cases hp:p (a+(m:Int))=true
   ·rw [if_pos hp]
    have:=h1.1 hp
    omega
   ·rw [if_neg hp]
    have:¬(F≤a+(m:Int)∧a+(m:Int)≤T):=fun hh=>hp (h1.2 hh)
    omega
 rw [key n (Nat.le_refl _)]
 omega
structure Ends where
 fr:Int
 to:Int
 ok:Bool
def endStep (e:Ends) (a R:Int):Ends:=
 if 0 < a then { e with to:=min e.to (R / a) } else if a < 0 then { e with fr:=max e.fr (-(R / (-a))) } else if R < 0 then { e with ok:=false } else e
def Ends.has (e:Ends) (v:Int):Prop:=e.ok=true∧e.fr≤v∧v≤e.to
theorem endStep_has (e:Ends) (a R v:Int):(endStep e a R).has v↔e.has v∧a*v≤R:=by
 unfold endStep Ends.has
 split
 ·rename_i h
  have:v≤R / a↔a*v≤R:=by rw [Int.le_ediv_iff_mul_le h,Int.mul_comm]
  rw [←this]
  constructor
  ·rintro ⟨h1,h2,h3⟩
   have h3':v≤min e.to (R / a):=h3
   exact ⟨⟨h1,h2,by omega⟩,by omega⟩
  ·rintro ⟨⟨h1,h2,h3⟩,h4⟩
   exact ⟨h1,h2,show v≤min e.to (R / a) by omega⟩
 ·split
  ·rename_i h1 h
   have : -v≤R / (-a)↔a*v≤R:=by
    rw [Int.le_ediv_iff_mul_le (by omega)]
    have : -v * -a=a*v:=by rw [Int.neg_mul_neg,Int.mul_comm]
    rw [this]
   rw [←this]
   constructor
   ·rintro ⟨h1,h2,h3⟩
    have h2':max e.fr (-(R / (-a)))≤v:=h2
    exact ⟨⟨h1,by omega,h3⟩,by omega⟩
   ·rintro ⟨⟨h1,h2,h3⟩,h4⟩
    exact ⟨h1,show max e.fr (-(R / (-a)))≤v by omega,h3⟩
  ·have ha:a=0:=by omega
   subst ha
   split <;> simp <;> omega
def endsOf (e:Ends):List (Int×Int)→Ends
 | []=>e
 | (a,R) :: l=>endsOf (endStep e a R) l
theorem endsOf_has (l:List (Int×Int)):∀(e:Ends) (v:Int),(endsOf e l).has v↔e.has v∧∀p∈l,p.1*v≤p.2:=by
 induction l with
 | nil=>intro e v; simp [endsOf]
 | cons q l ih=>
  intro e v
  obtain ⟨a,R⟩:=q
  show (endsOf (endStep e a R) l).has v↔_
  rw [ih,endStep_has]
  simp only [List.mem_cons,forall_eq_or_imp]
  constructor
  ·rintro ⟨⟨h1,h2⟩,h3⟩; exact ⟨h1,h2,h3⟩
  ·rintro ⟨h1,h2,h3⟩; exact ⟨⟨h1,h2⟩,h3⟩
theorem endStep_in (e:Ends) (a R:Int):e.fr≤(endStep e a R).fr∧(endStep e a R).to≤e.to∧(e.ok=false→(endStep e a R).ok=false):=by
 unfold endStep
 split
 ·exact ⟨Int.le_refl _,by simp only; omega,fun h=>h⟩
 ·split
  ·exact ⟨by simp only; omega,Int.le_refl _,fun h=>h⟩
  ·split
   ·exact ⟨Int.le_refl _,Int.le_refl _,fun _=>rfl⟩
   ·exact ⟨Int.le_refl _,Int.le_refl _,fun h=>h⟩
theorem endsOf_in (l:List (Int×Int)):∀e:Ends,e.fr≤(endsOf e l).fr∧(endsOf e l).to≤e.to∧(e.ok=false→(endsOf e l).ok=false):=by
 induction l with
 | nil=>intro e; exact ⟨Int.le_refl _,Int.le_refl _,fun h=>h⟩
 | cons q l ih=>
  intro e
  obtain ⟨a,R⟩:=q
  obtain ⟨h1,h2,h3⟩:=ih (endStep e a R)
  obtain ⟨g1,g2,g3⟩:=endStep_in e a R
  exact ⟨Int.le_trans g1 h1,Int.le_trans h2 g2,fun h=>h3 (g3 h)⟩
def Ends.cnt (e:Ends):Int:=if e.ok=true then max (e.to-e.fr+1) 0 else 0
theorem sum_zeros {α:Type} : ∀l:List α,(l.map fun _=>(0:Int)).sum=0
 | []=>rfl
 | _ :: l=>by rw [List.map_cons,List.sum_cons,sum_zeros l]; rfl
theorem along_eq (l:List (Int×Int)) (lo hi:Int):(endsOf ⟨lo,hi,true⟩ l).cnt=isum (irange lo hi) fun v=>if (∀p∈l,p.1*v≤p.2) then 1 else 0:=by
 have hh:=fun v=>endsOf_has l ⟨lo,hi,true⟩ v
 obtain ⟨h1,h2,_⟩:=endsOf_in l ⟨lo,hi,true⟩
 have h1:lo≤(endsOf ⟨lo,hi,true⟩ l).fr:=h1
 have h2:(endsOf ⟨lo,hi,true⟩ l).to≤hi:=h2
 generalize endsOf ⟨lo,hi,true⟩ l=e at *
 have hv:∀v,lo≤v→v≤hi→((∀p∈l,p.1*v≤p.2)↔e.has v):=fun v a b=>by
  rw [hh v]
  exact ⟨fun h=>⟨⟨rfl,a,b⟩,h⟩,fun h=>h.2⟩
 unfold isum irange Ends.cnt
 rw [List.map_map]
 by_cases hlh:lo≤hi+1
 ·have e1:(lo:Int)+((hi-lo+1).toNat:Int)=hi+1:=by omega
  by_cases hok:e.ok=true
  ·rw [if_pos hok]
   have:=isum_ends (p:=fun v=>decide (∀p∈l,p.1*v≤p.2)) (F:=e.fr) (T:=e.to) (hi-lo+1).toNat lo (fun v a b=>by
    rw [decide_eq_true_iff,hv v a (by omega)]
    unfold Ends.has
    exact ⟨fun h=>h.2,fun h=>⟨hok,h⟩⟩) h1 (by omega)
   rw [←this]
   congr 1
   refine List.map_congr_left fun i _=>?_
   simp only [Function.comp,decide_eq_true_eq]
  ·rw [if_neg hok]
   have hz:∀i∈List.range (hi-lo+1).toNat,((fun v=>if (∀p∈l,p.1*v≤p.2) then (1:Int) else 0)∘fun i:Nat=>lo+(i:Int)) i=0:=fun i hi'=>by
    have hi2:=List.mem_range.1 hi'
    simp only [Function.comp]
    rw [if_neg]
    intro hc
    exact hok ((hv (lo+(i:Int)) (by omega) (by omega)).1 hc).1
   rw [List.map_congr_left hz]
   exact (sum_zeros _).symm
 ·have e0:(hi-lo+1).toNat=0:=by omega
  rw [e0]
  simp only [List.range_zero,List.map_nil,List.sum_nil]
  split
  ·omega
  ·rfl
end Go.Proofs.YtadpjlpdfimaeaaGreatDoor

namespace Go.Proofs.YtadpjlpdfimaeaaGreatDoor
open Go.RowKit
attribute [local go_sem ↓] Go.wp_at_zero Go.wp_at_succ
theorem div_of {o u:Int} (hu:0 < u):(o.tmod u < 0→o / u=o.tdiv u-1)∧(¬o.tmod u < 0→o / u=o.tdiv u):=by
 have h1:=Int.tdiv_mul_add_tmod o u
 have h2:=Int.tmod_lt_of_pos o hu
 have h3 : -u < o.tmod u:=by
  have:=Nat.mod_lt o.natAbs (show 0 < u.natAbs by omega)
  rw [←Int.natAbs_tmod] at this
  omega
 generalize o.tdiv u=q at *
 generalize o.tmod u=r at *
 constructor
 ·intro hr
  have:o=u*(q-1)+(r+u):=by rw [←h1]; grind
  rw [this,Int.mul_add_ediv_left _ _ (by omega),Int.ediv_eq_zero_of_lt (by omega) (by omega)]
  omega
 ·intro hr
  have:o=u*q+r:=by rw [←h1]; grind
  rw [this,Int.mul_add_ediv_left _ _ (by omega),Int.ediv_eq_zero_of_lt (by omega) (by omega)]
  omega
theorem tdiv_bd {o u:Int} {B:Nat} (ho:o.natAbs≤B):(o.tdiv u).natAbs≤B:=by
 rw [Int.natAbs_tdiv]
 exact Nat.le_trans (Nat.div_le_self _ _) ho
theorem ediv_bd {o u:Int} (hu:0 < u) {B:Nat} (ho:o.natAbs≤B):(o / u).natAbs≤B+1:=by
 have h1:=div_of (o:=o) hu
 have h2:=tdiv_bd (o:=o) (u:=u) ho
 by_cases h:o.tmod u < 0
 ·have:=h1.1 h; omega
 ·have:=h1.2 h; omega
set_option maxRecDepth 100000 in
theorem down_any (o u:Int) (w:World) (hu:0 < u) (hu2:u≤1000000000000000) (ho:o.natAbs≤1000000000000000) :
  Calls Tryz.prog 104 #[.int .i64 o,.int .i64 u] w fun e w'=>e=.returned (.int .i64 (o / u))∧w'=w:=by
 have hd:=div_of (o:=o) hu
 have hb:=tdiv_bd (o:=o) (u:=u) ho
 have hn1:(u == 0)=false:=by simp; omega
 have hn2:¬u=0:=by omega
 have hn3:¬u=-1:=by omega
 obtain ⟨q,hq⟩:∃q,q=o.tdiv u:=⟨_,rfl⟩
 rw [←hq] at hd hb
 have hqw:IntKind.i64.wrap q=q:=by rw [IntWalk.i64_left]; exact IntWalk.wrap64_in _ ⟨by omega,by omega⟩
 have HQ:Hid (q=o.tdiv u):=hq
 by_cases hr:o.tmod u < 0
 ·have HE:Hid (o / u=q-1):=hd.1 hr
  have tr:decide (o.tmod u < 0)=true:=decide_eq_true hr
  clear hd hr ho
  go_enter Tryz.func104,Tryz.ntmps104
  go_wp2
  go_ret
  exact ⟨ret_int (by rw [HE.out,HQ.out]),rfl⟩
 ·have HE:Hid (o / u=q):=hd.2 hr
  have tr:decide (o.tmod u < 0)=false:=decide_eq_false hr
  clear hd hr ho
  go_enter Tryz.func104,Tryz.ntmps104
  go_wp2
  go_ret
  exact ⟨ret_int (by rw [HE.out,HQ.out]),rfl⟩
def prs (rows:List (List Int)) (rooms:List Int) (dir:Nat):List (Int×Int):=(List.range rows.length).map fun j=>((rows.getD j []).getD dir 0,rooms.getD j 0)
theorem prs_len (rows:List (List Int)) (rooms:List Int) (dir:Nat):(prs rows rooms dir).length=rows.length:=by simp [prs]
theorem prs_snoc (rows:List (List Int)) (rooms:List Int) (dir j:Nat) (hj:j < rows.length):(prs rows rooms dir).take (j+1)=(prs rows rooms dir).take j ++ [((rows.getD j []).getD dir 0,rooms.getD j 0)]:=by
 rw [List.take_succ_eq_append_getElem (by rw [prs_len]; exact hj)]
 simp [prs]
theorem endsOf_snoc (l:List (Int×Int)):∀(e:Ends) (q:Int×Int),endsOf e (l ++ [q])=endStep (endsOf e l) q.1 q.2:=by
 induction l with
 | nil=>intro e q; rfl
 | cons p l ih=>intro e q; exact ih _ q
theorem endsOf_app (l m:List (Int×Int)):∀e:Ends,endsOf e (l ++ m)=endsOf (endsOf e l) m:=by
 induction l with
 | nil=>intro e; rfl
 | cons p l ih=>intro e; exact ih _
structure Fld (d:Nat) (rows:List (List Int)) (lo hi:List Int) (k:Nat):Prop where
 len:∀r∈rows,r.length=d+1
 bd:∀r∈rows,∀i,i < d→(r.getD i 0).natAbs≤1000000
 lol:lo.length=d
 hil:hi.length=d
 lob:∀i,i < d→(lo.getD i 0).natAbs≤1000
 hib:∀i,i < d→(hi.getD i 0).natAbs≤1000
 kb:k≤10
 nr:rows.length≤20000000
def lok (k:Nat) (lo:List Int) (i:Nat):Int:=(k:Int)*lo.getD i 0
theorem lok_bd {k:Nat} {lo:List Int} {i:Nat} (hk:k≤10) (h:(lo.getD i 0).natAbs≤1000):(lok k lo i).natAbs≤10000:=by
 unfold lok
 rw [Int.natAbs_mul]
 exact Nat.le_trans (Nat.mul_le_mul (show (k:Int).natAbs≤10 by omega) h) (by decide)
set_option maxRecDepth 100000 in
set_option maxHeartbeats 800000 in
theorem along_any (B d dir k:Nat) (rows:List (List Int)) (lo hi rooms:List Int) (rv lv mv ov:Value) (w:World) (hr:Mat B 22 3 w rv rows) (hl:Sl B 3 w lv (ints lo)) (hm:Sl B 3 w mv (ints hi)) (ho:Sl B 3 w ov (ints rooms))
  (hf:Fld d rows lo hi k) (hdir:dir < d) (hrl:rooms.length=rows.length) (hrb:∀z∈rooms,z.natAbs≤1000000000000) :
  Calls Tryz.prog 74 #[.agg #[rv,lv,mv],.int .i64 k,.int .i64 dir,ov] w fun e w'=>e=.returned (.int .i64 (endsOf ⟨lok k lo dir,lok k hi dir,true⟩ (prs rows rooms dir)).cnt)∧Below w.heap.size w w':=by
 obtain ⟨ro,rc,hrv,hrc1,hrc2⟩:=mat_open hr
 obtain ⟨lo',lc,hlv,_,_⟩:=sl_open hl
 obtain ⟨mo,mc,hmv,_,_⟩:=sl_open hm
 obtain ⟨oo,oc,hov,_,_⟩:=sl_open ho
 rw [hf.lol] at hlv
 rw [hf.hil] at hmv
 rw [hrl] at hov
 subst hrv hlv hmv hov
 have HF:Hid (Fld d rows lo hi k):=hf
 have HRL:Hid (rooms.length=rows.length):=hrl
 have HRB:Hid (∀z∈rooms,z.natAbs≤1000000000000):=hrb
 obtain ⟨W,hW⟩:∃W,W=w.alloc (.cells #[.slice ro rows.length rc,.slice lo' d lc,.slice mo d mc] 53):=⟨_,rfl⟩
 have hbw:Below w.heap.size w W:=by rw [hW]; exact (Below.refl _ _).alloc (Nat.le_refl _) _
 have HW:Hid (Below w.heap.size w W):=hbw
 have c0:W.cell? ⟨w.heap.size,0,none⟩=some (.slice ro rows.length rc):=by rw [hW]; simp
 have c1:W.cell? ⟨w.heap.size,1,none⟩=some (.slice lo' d lc):=by rw [hW]; simp
 have c2:W.cell? ⟨w.heap.size,2,none⟩=some (.slice mo d mc):=by rw [hW]; simp
 have HR:Hid (Mat B 22 3 W (.slice ro rows.length rc) rows):=hr.below hbw (Nat.le_refl _)
 have HO:Hid (Sl B 3 W (.slice oo rows.length oc) (ints rooms)):=ho.below hbw (Nat.le_refl _)
 obtain ⟨lb,lx,lc2,hs1,_,l1⟩:=sl_cell (hl.below hbw (Nat.le_refl _)) (k:=dir) (by rw [hf.lol]; exact hdir)
 simp only [Value.slice.injEq] at hs1
 obtain ⟨rfl,hxx,rfl⟩:=hs1
 clear hxx
 obtain ⟨mb,mx,mc2,hs2,_,m1⟩:=sl_cell (hm.below hbw (Nat.le_refl _)) (k:=dir) (by rw [hf.hil]; exact hdir)
 simp only [Value.slice.injEq] at hs2
 obtain ⟨rfl,hxx,rfl⟩:=hs2
 clear hxx
 have hlb:=lok_bd hf.kb (hf.lob dir hdir)
 have hmb:=lok_bd hf.kb (hf.hib dir hdir)
 have hlw:wrap64 ((k:Int)*lo.getD dir 0)=lok k lo dir:=by unfold lok at hlb ⊢; exact IntWalk.wrap64_in _ ⟨by omega,by omega⟩
 have hmw:wrap64 ((k:Int)*hi.getD dir 0)=lok k hi dir:=by unfold lok at hmb ⊢; exact IntWalk.wrap64_in _ ⟨by omega,by omega⟩
 generalize lok k lo dir=L at *
 generalize lok k hi dir=M at *
 generalize lo.getD dir 0=lo0 at *
 generalize hi.getD dir 0=hi0 at *
 have hdI:(dir:Int) < (d:Int):=by omega
 have hdI0:(0:Int)≤(dir:Int):=by omega
 clear hr hl hm ho hbw hrl hrb
 go_enter Tryz.func74,Tryz.ntmps74
 go_wp2
 rw [←hW]
 clear hW
 go_quiet (fail)
 obtain ⟨W1,hW1⟩:∃W1,W1=W.drewN nq:=⟨_,rfl⟩
 rw [←hW1]
 have d0:W1.cell? ⟨w.heap.size,0,none⟩=some (.slice ro rows.length rc):=by rw [hW1]; exact c0
 have HR1:Hid (Mat B 22 3 W1 (.slice ro rows.length rc) rows):=by rw [hW1]; exact HR.out.drewN nq
 have HO1:Hid (Sl B 3 W1 (.slice oo rows.length oc) (ints rooms)):=by rw [hW1]; exact HO.out.drewN nq
 have HB1:Hid (Below w.heap.size w W1):=by rw [hW1]; exact HW.out.trans ⟨rfl,rfl,rfl,Nat.le_refl _,fun _ _=>rfl⟩
 have HLW:Hid (wrap64 ((k:Int)*lo0)=L):=hlw
 have HMW:Hid (wrap64 ((k:Int)*hi0)=M):=hmw
 clear hW1 c0 c1 c2 l1 m1 HR HO HW hlw hmw
 go_wp2
 go_loopw [8,9,10,31] (fun _ x y i wr=>∃(j:Nat) (F T:Int),j≤rows.length∧i=.int .i64 j∧x=.int .i64 F∧y=.int .i64 T∧endsOf ⟨L,M,true⟩ ((prs rows rooms dir).take j)=⟨F,T,true⟩∧(F.natAbs≤10000000000000∧T.natAbs≤10000000000000)∧wr=W1) (fun _ _ _ i _=>rows.length-(intOf i).toNat)
 case atStart=>exact ⟨0,L,M,Nat.zero_le _,rfl,by rw [HLW.out],by rw [HMW.out],rfl,⟨by omega,by omega⟩,rfl⟩
 case round=>
  obtain ⟨j,F,T,hj,rfl,rfl,rfl,hends,hFT,rfl⟩:=hrel
  have HE:Hid (endsOf ⟨L,M,true⟩ ((prs rows rooms dir).take j)=⟨F,T,true⟩):=hends
  have hFb:=hFT.1
  have hTb:=hFT.2
  clear hends hFT
  by_cases hjl:j < rows.length
  ·obtain ⟨b2,o2,cp2,rv,hs2,_,hcc2,hr2⟩:=mat_cell HR1.out hjl
   simp only [Value.slice.injEq,true_and] at hs2
   obtain ⟨rfl,rfl⟩:=hs2
   have hmem:rows.getD j []∈rows:=by simp [hjl]
   have hlen:=HF.out.len _ hmem
   obtain ⟨b3,o3,cp3,hs3,hc3,hcc3⟩:=sl_cell hr2 (k:=dir) (by rw [hlen]; omega)
   rw [hlen] at hs3
   subst hs3
   have hab:=HF.out.bd _ hmem dir hdir
   have hjr:j < rooms.length:=by rw [HRL.out]; exact hjl
   obtain ⟨b4,o4,cp4,hs4,_,hcc4⟩:=sl_cell HO1.out (k:=j) hjr
   simp only [Value.slice.injEq] at hs4
   obtain ⟨rfl,hxx,rfl⟩:=hs4
   clear hxx
   have hRb:=HRB.out (rooms.getD j 0) (by simp [hjr])
   have HEN:Hid (endsOf ⟨L,M,true⟩ ((prs rows rooms dir).take (j+1))=endStep ⟨F,T,true⟩ ((rows.getD j []).getD dir 0) (rooms.getD j 0)):=by
    show _=_
    rw [prs_snoc rows rooms dir j hjl,endsOf_snoc,HE.out]
   clear hmem hr2 hlen hjr
   generalize (rows.getD j []).getD dir 0=a at *
   generalize rooms.getD j 0=R at *
   have hjI:(j:Int) < (rows.length:Int):=by omega
   have hjI0:(0:Int)≤(j:Int):=by omega
   have hdI1:(dir:Int) < (d:Int)+1:=by omega
   have hdN1:dir < d+1:=by omega
   have hj2:j < 20000000:=Nat.lt_of_lt_of_le hjl HF.out.nr
   by_cases ha:0 < a
   ·have HQ:Hid (Calls Tryz.prog 104 #[.int .i64 R,.int .i64 a] wr fun e w'=>e=.returned (.int .i64 (R / a))∧w'=wr):=down_any R a wr ha (by omega) (by omega)
    have hqb:=ediv_bd (o:=R) ha hRb
    have ta:decide (0 < a)=true:=decide_eq_true ha
    have HST:Hid (endStep ⟨F,T,true⟩ a R=⟨F,min T (R / a),true⟩):=by
     show _=_
     unfold endStep
     rw [if_pos ha]
    rw [HST.out] at HEN
    generalize R / a=Q at *
    go_wp2_with fail
    refine HQ.out.mono ?_
    rintro e w3 ⟨rfl,rfl⟩
    go_wp2
    exact ⟨⟨j+1,F,min T Q,hjl,by go_num,rfl,by congr 1 <;> split <;> omega,HEN.out,⟨hFb,by omega⟩,trivial⟩,by simp [intOf]; omega⟩
   ·have ta:decide (0 < a)=false:=decide_eq_false ha
    by_cases ha2:a < 0
    ·have HQ:Hid (Calls Tryz.prog 104 #[.int .i64 R,.int .i64 (-a)] wr fun e w'=>e=.returned (.int .i64 (R / (-a)))∧w'=wr):=down_any R (-a) wr (by omega) (by omega) (by omega)
     have hqb:=ediv_bd (o:=R) (u:=-a) (by omega) hRb
     have tb:decide (a < 0)=true:=decide_eq_true ha2
     have HST:Hid (endStep ⟨F,T,true⟩ a R=⟨max F (-(R / (-a))),T,true⟩):=by
      show _=_
      unfold endStep
      rw [if_neg ha,if_pos ha2]
     rw [HST.out] at HEN
     have hna:wrap64 (-a)=-a:=IntWalk.wrap64_in _ ⟨by omega,by omega⟩
     have hna2:IntKind.i64.wrap (-a)=-a:=by rw [IntWalk.i64_left]; exact hna
     generalize R / (-a)=Q at *
     have hnq:wrap64 (-Q)=-Q:=IntWalk.wrap64_in _ ⟨by omega,by omega⟩
     have hnq2:IntKind.i64.wrap (-Q)=-Q:=by rw [IntWalk.i64_left]; exact hnq
     go_wp2_with fail
     refine HQ.out.mono ?_
     rintro e w3 ⟨rfl,rfl⟩
     go_wp2
     exact ⟨⟨j+1,max F (-Q),T,hjl,by go_num,by congr 1 <;> split <;> omega,rfl,HEN.out,⟨by omega,hTb⟩,trivial⟩,by simp [intOf]; omega⟩
    ·have tb:decide (a < 0)=false:=decide_eq_false ha2
     by_cases hR:R < 0
     ·have tc:decide (R < 0)=true:=decide_eq_true hR
      have HZ:Hid ((endsOf ⟨L,M,true⟩ (prs rows rooms dir)).cnt=0):=by
       show _=_
       have h1:(endsOf ⟨L,M,true⟩ ((prs rows rooms dir).take (j+1))).ok=false:=by
        rw [HEN.out]
        unfold endStep
        rw [if_neg ha,if_neg ha2,if_pos hR]
       have h2:=(endsOf_in ((prs rows rooms dir).drop (j+1)) (endsOf ⟨L,M,true⟩ ((prs rows rooms dir).take (j+1)))).2.2 h1
       rw [←endsOf_app,List.take_append_drop] at h2
       unfold Ends.cnt
       rw [if_neg (by rw [h2]; decide)]
      clear ha ha2 hR
      go_wp2
      go_ret
      exact ⟨ret_int HZ.out.symm,HB1.out⟩
     ·have tc:decide (R < 0)=false:=decide_eq_false hR
      have HST:Hid (endStep ⟨F,T,true⟩ a R=⟨F,T,true⟩):=by
       show _=_
       unfold endStep
       rw [if_neg ha,if_neg ha2,if_neg hR]
      rw [HST.out] at HEN
      clear ha ha2 hR
      go_wp2
      exact ⟨⟨j+1,F,T,hjl,by go_num,rfl,rfl,HEN.out,⟨hFb,hTb⟩,trivial⟩,by simp [intOf]; omega⟩
  ·have HFE:Hid (endsOf ⟨L,M,true⟩ (prs rows rooms dir)=⟨F,T,true⟩):=by
    have h:=HE.out
    rw [List.take_of_length_le (by rw [prs_len]; omega)] at h
    exact h
   have HCN:Hid ((endsOf ⟨L,M,true⟩ (prs rows rooms dir)).cnt=max (T-F+1) 0):=by
    show _=_
    rw [HFE.out]
    rfl
   go_wp2
   all_goals
    go_ret
    exact ⟨ret_int (by rw [HCN.out] <;> omega),HB1.out⟩
end Go.Proofs.YtadpjlpdfimaeaaGreatDoor
