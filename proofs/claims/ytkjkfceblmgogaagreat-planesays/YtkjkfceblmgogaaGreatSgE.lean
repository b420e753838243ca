import Derived.Test.YtkjkfceblmgogaaGreatEzD
import Derived.Test.YtkjkfceblmgogaaGreatSgC
import Derived.Test.YtkjkfceblmgogaaGreatHfB
set_option maxRecDepth 100000
set_option maxHeartbeats 1600000
namespace Go.Proofs.YtkjkfceblmgogaaGreat
open Go.RowKit
attribute [local go_sem ↓] Go.wp_at_zero Go.wp_at_succ
theorem ZNj(B:Nat)(f:List Int→Bool)(m:List (List Int))(v:Value)(p1 p2:Addr)(w:World)(hv:Mat B 27 3 w v m)
 (hc:∀r∈m,∀(W:World) (rv:Value),Below w.heap.size w W→Sl B 3 W rv (ZAB r)→Calls Tryz.prog 63 #[rv,.pointer (some p1),.pointer (some p2)] W fun e w'=>e=.returned (.bool (f r))∧Below w.heap.size w w') :
  Calls Tryz.prog 93 #[v,.func (.func 63) #[] #[.pointer (some p1),.pointer (some p2)]] w fun e w'=>(∃z,e=.returned (.int .i64 z)∧-1≤z∧z < m.length∧decide (0≤z)=m.any f)∧Below w.heap.size w w':=by
 obtain ⟨S,E,t,R,O⟩:=ZAD hv;subst t;have N:Hid (Mat B 27 3 w (.slice S m.length E) m):=hv;have T:=hid hc;clear hv hc;go_enter Tryz.func93,Tryz.ntmps93;go_wp2
 go_loopw [8] (fun i wr=>∃k:Nat,k≤m.length∧i=.int .i64 k∧(m.take k).any f=false∧Below w.heap.size w wr) (fun i _=>m.length-(intOf i).toNat)
 case atStart=>exact ⟨0,Za5 _,rfl,by simp,Below.refl _ _⟩
 case round=>
  obtain ⟨k,U,rfl,g,L⟩:=hrel;have J:=hid g;have D:=hid L;clear g L
  by_cases hlt:k < m.length
  ·obtain ⟨Y,o,V,G,M,P,Q,n⟩:=ZAP (N.out.below D.out (Za4 _)) hlt
   simp only [Za3] at M;obtain ⟨rfl,F,rfl⟩:=M;clear F;have y:Hid ((m.take (k+1)).any f=f (m.getD k [])):=ZEA (p:=f) hlt J.out
   have j:Hid (m.getD k []∈m):=by
    show _∈_
    simp [hlt]
   have b:Hid (Calls Tryz.prog 63 #[G,.pointer (some p1),.pointer (some p2)] wr fun e w'=>e=.returned (.bool (f (m.getD k [])))∧Below w.heap.size w w'):=T.out _ j.out wr G D.out n
   clear n;generalize m.getD k []=x at *
   obtain ⟨fb,a⟩:∃fb,fb=f x:=⟨_,rfl⟩
   have l:=hid a;rw [←a] at b;clear a
   go_wp2_with fail
   refine b.out.mono ?_;rintro e X ⟨rfl,d⟩;have c:=hid d;clear d b
   cases hf:fb
   ·have A:Hid (f x=false):=by rw [←hf]; exact l.out.symm
    clear hf;go_wp2
    go_roundw
    case rel=>exact ⟨k+1,by omega,by go_num,by rw [y.out]; exact A.out,c.out⟩
    case measure=>simp [intOf]; omega
   ·have A:Hid (f x=true):=by rw [←hf]; exact l.out.symm
    clear hf;go_wp2;go_ret
    refine ⟨⟨_,rfl,by omega,by omega,?_⟩,c.out⟩
    rw [decide_eq_true (by omega)]
    exact (List.any_eq_true.2 ⟨x,j.out,A.out⟩).symm
  ·have s:Hid (m.take k=m):=Zaa2 (by omega)
   go_wp2;go_ret
   exact ⟨⟨-1,rfl,by omega,by omega,by rw [←s.out,J.out]; rfl⟩,D.out⟩
theorem ZNk(B:Nat)(f:List Int→Bool)(m:List (List Int))(v:Value)(p1 p2:Addr)(w:World)(hv:Mat B 27 3 w v m)
 (hc:∀r∈m,∀(W:World) (rv:Value),Below w.heap.size w W→Sl B 3 W rv (ZAB r)→Calls Tryz.prog 63 #[rv,.pointer (some p1),.pointer (some p2)] W fun e w'=>e=.returned (.bool (f r))∧Below w.heap.size w w') :
  Calls Tryz.prog 64 #[v,.func (.func 63) #[] #[.pointer (some p1),.pointer (some p2)]] w fun e w'=>e=.returned (.bool (m.any f))∧Below w.heap.size w w':=by
 have j:Hid (Calls Tryz.prog 93 #[v,.func (.func 63) #[] #[.pointer (some p1),.pointer (some p2)]] w fun e w'=>(∃z,e=.returned (.int .i64 z)∧-1≤z∧z < m.length∧decide (0≤z)=m.any f)∧Below w.heap.size w w'):=ZNj B f m v p1 p2 w hv hc
 obtain ⟨s,l,b,p,n⟩:=ZAD hv;subst b;clear hv hc;generalize m.any f=R at *;go_enter Tryz.func64,Tryz.ntmps64
 go_wp2_with fail
 refine j.out.mono ?_;rintro e w' ⟨⟨z,rfl,d,g,a⟩,c⟩;have o:=hid a;have i:=hid c;clear a c;go_wp2;go_ret;exact ⟨ZAX o.out,i.out⟩
end Go.Proofs.YtkjkfceblmgogaaGreat
namespace Go.Proofs.YtkjkfceblmgogaaGreat
open Go.RowKit Lin
attribute [local go_sem ↓] Go.wp_at_zero Go.wp_at_succ
theorem ZLX{B0:Nat}{w:World}{u:Value}{p:List Int}(h:Sl B0 3 w u (ZAB p)):Mat B0 27 3 (w.alloc (.cells #[u] 27)) (.slice (some ⟨w.heap.size,0,none⟩) 1 1) [p]:=by
 have a:=heap_alloc_new w (.cells #[u] 27)
 refine ⟨[u],rfl,⟨some ⟨w.heap.size,0,none⟩,1,rfl,by simp,by unfold maxLen; omega,fun i hi=>⟨w.heap.size,0,rfl,?_,.inr ⟨_,a⟩⟩,fun e=>by cases e⟩,fun i hi=>?_⟩
 ·have:i=0:=by simpa using hi
  subst this;unfold World.cell?;rw [a];rfl
 ·have:i=0:=by simpa using hi
  subst this;exact h.alloc _
theorem ZLY{B0:Nat}{w:World}{u x:Value}{p o:List Int}(h:Sl B0 3 w u (ZAB p))(h2:Sl B0 3 w x (ZAB o)):Mat B0 27 3 (w.alloc (.cells #[u,x] 27)) (.slice (some ⟨w.heap.size,0,none⟩) 2 2) [p,o]:=by
 have a:=heap_alloc_new w (.cells #[u,x] 27)
 refine ⟨[u,x],rfl,⟨some ⟨w.heap.size,0,none⟩,2,rfl,by simp,by unfold maxLen; omega,fun i hi=>⟨w.heap.size,0,rfl,?_,.inr ⟨_,a⟩⟩,fun e=>by cases e⟩,fun i hi=>?_⟩
 ·rcases (show i=0∨i=1 by simp at hi; omega) with rfl | rfl
  ·unfold World.cell?
   rw [a];rfl
  ·unfold World.cell?
   rw [a];rfl
 ·rcases (show i=0∨i=1 by simp at hi; omega) with rfl | rfl
  ·exact h.alloc _
  ·exact h2.alloc _
theorem ZEi{d:Nat}{m:List (List Int)}(h1:1≤d)(h3:d≤3)(h:∀p∈m,p.length=d+1∧∀z∈p,z.natAbs≤20):Mx (d+1) 60 m:=by
 refine ⟨fun r hr=>(h r hr).1,fun r hr z hz=>by have:=(h r hr).2 z hz; omega,by omega,by omega,by decide,?_⟩
 rcases (show d=1∨d=2∨d=3 by omega) with rfl | rfl | rfl <;> decide
structure PlG(d:Nat)(P:List (List Int)):Prop where
 row:∀p∈P,p.length=d+1∧∀z∈p,z.natAbs≤20
 one:∀p∈P,(ZAJ d [p]).length≠0
 two:∀i k,i < k→k < P.length→(ZAJ (d+1) [P.getD k [],P.getD i []]).length≠1
theorem ZLZ{B0:Nat}(d:Nat)(p o:List Int)(u x:Value)(q1 q2:Nat)(w:World)(hd1:1≤d)(hd3:d≤3)(hp:p.length=d+1∧∀z∈p,z.natAbs≤20)(ho:o.length=d+1∧∀z∈o,z.natAbs≤20)(hu:Sl B0 3 w u (ZAB p))(hx:Sl B0 3 w x (ZAB o))(c1:w.cell? ⟨q1,0,none⟩=some u)(c2:w.cell? ⟨q2,0,none⟩=some (.int .i64 d)) :
  Calls Tryz.prog 63 #[x,.pointer (some ⟨q1,0,none⟩),.pointer (some ⟨q2,0,none⟩)] w fun e w'=>e=.returned (.bool (decide ((ZAJ (d+1) [p,o]).length=1)))∧Below w.heap.size w w':=by
 have i:Hid (Calls Tryz.prog 53 #[.slice (some ⟨w.heap.size,0,none⟩) 2 2,.int .i64 ((d:Int)+1)] (w.alloc (.cells #[u,x] 27)) fun e w'=>e=.returned (.int .i64 ((ZAJ (d+1) [p,o]).length:Nat))∧Below w.heap.size w w'):=by
  refine (ZCO _ (d+1) (d+1) [p,o] _ _ (Za4 _) (by omega) (ZEi hd1 hd3 (fun r hr=>?_)) (ZLY hu hx) (by simp)).mono ?_
  ·simp only [List.mem_cons,List.not_mem_nil,or_false] at hr
   rcases hr with rfl | rfl
   ·exact hp
   ·exact ho
  ·rintro e w' ⟨rfl,g⟩
   exact ⟨rfl,((Below.refl _ _).alloc (Za4 _) _).trans (g.mono (by simp))⟩
 have f:=ZAH c1;have a:=ZAH c2;have s:(w.alloc (.cells #[u,x] 27)).cell? ⟨q2,0,none⟩=some (.int .i64 d):=((ZAG w (.cells #[u,x] 27)).cell (p:=⟨q2,0,none⟩) a).trans c2;obtain ⟨m,n,c,_,_⟩:=ZAI hu;obtain ⟨v,y,b,_,_⟩:=ZAI hx;rw [hp.1] at c;rw [ho.1] at b;subst c b;generalize (ZAJ (d+1) [p,o]).length=rk at *;clear hu hx hp ho f a;go_enter Tryz.func63,Tryz.ntmps63
 go_wp2_with fail
 refine i.out.mono ?_;rintro e t ⟨rfl,g⟩;have j:=hid g;clear g;go_wp2;go_ret;refine ⟨ZAX ?_,j.out⟩
 by_cases h:rk=1
 ·subst h; rfl
 ·have l:((rk:Int) == 1)=false:=by simp; omega
  simp [h,l]
def rwP(n:Nat)(r:List Int):Int:=if r.length≠n then 3 else if r.any (ZDm · 20) then 4 else 0
theorem ZGB{n:Nat}{r:List Int}(h:rwP n r=0):r.length=n∧∀z∈r,z.natAbs≤20:=by
 unfold rwP at h
 split at h
 ·simp at h
 ·rename_i h1
  split at h
  ·simp at h
  ·rename_i h2
   refine ⟨Za6 h1,fun z hz=>?_⟩
   have a:r.any (ZDm · 20)=false:=by simpa using h2
   have:=(List.any_eq_false.1 a) z hz;simp only [ZDm,Bool.or_eq_true,decide_eq_true_eq,not_or] at this;omega
theorem ZLa(n:Nat)(r:List Int):(r.length≠n∧rwP n r=3)∨(r.length=n∧r.any (ZDm · 20)=true∧rwP n r=4)∨(r.length=n∧r.any (ZDm · 20)=false∧rwP n r=0):=by
 unfold rwP
 by_cases h:r.length=n
 ·refine .inr ?_
  rw [if_neg (fun hn=>hn h)]
  cases hf:r.any (ZDm · 20) with
  | true=>exact .inl ⟨h,rfl,rfl⟩
  | false=>exact .inr ⟨h,rfl,by simp⟩
 ·exact .inl ⟨h,if_pos h⟩
def coE(d:Nat)(p:List Int)(A:List (List Int)):Int:=if rwP (d+1) p≠0 then rwP (d+1) p else if (ZAJ d [p]).length=0 then 3 else if (A.any fun o=>decide ((ZAJ (d+1) [p,o]).length=1))=true then 8 else 0
def coL(d:Nat)(P:List (List Int)):List Int:=(List.range P.length).map fun k=>coE d (P.getD k []) (P.take k)
def ZJ6(d:Nat)(P:List (List Int)):Int:=((coL d P).find? fun e=>decide (e≠0)).getD 0
theorem ZNl{l:List Int} : ∀{k:Nat},k < l.length→(∀j,j < k→l.getD j 0=0)→l.getD k 0≠0→(l.find? fun e=>decide (e≠0)).getD 0=l.getD k 0:=by
 induction l with
 | nil=>intro k b; simp at b
 | cons x l ih=>
  intro k b h a
  cases k with
  | zero=>
   simp only [List.getD_cons_zero] at a ⊢
   rw [List.find?_cons_of_pos (by simpa using a)]
   rfl
  | succ k=>
   have c:=h 0 (by omega)
   simp only [List.getD_cons_zero] at c
   rw [List.find?_cons_of_neg (by simp [c])]
   simp only [List.getD_cons_succ] at a ⊢
   exact ih (by simpa using b) (fun j hj=>by have:=h (j+1) (by omega); simpa using this) a
theorem ZPm{l:List Int}(h:∀j,j < l.length→l.getD j 0=0):(l.find? fun e=>decide (e≠0)).getD 0=0:=by
 have:l.find? (fun e=>decide (e≠0))=none:=by
  rw [List.find?_eq_none];intro x b;obtain ⟨j,a,rfl⟩:=List.getElem_of_mem b;have:=h j a;simp [a] at this;simp [this]
 rw [this]; rfl
theorem ZPn{l:List Int}(h:(l.find? fun e=>decide (e≠0)).getD 0=0):∀x∈l,x=0:=by
 intro x a
 apply Za6
 intro b
 cases hf:l.find? (fun e=>decide (e≠0)) with
 | none=>
  rw [List.find?_eq_none] at hf
  exact hf x a (by simpa using b)
 | some y=>
  rw [hf] at h;have:=List.find?_some hf;simp at this h;exact this h
theorem ZH6(d:Nat)(P:List (List Int)):(coL d P).length=P.length:=by simp [coL]
theorem ZG6{d:Nat}{P:List (List Int)}{k:Nat}(h:k < P.length):(coL d P).getD k 0=coE d (P.getD k []) (P.take k):=by simp [coL,h]
theorem ZLb{d:Nat}{P:List (List Int)}{k:Nat}(hk:k < P.length)(h:∀j,j < k→coE d (P.getD j []) (P.take j)=0)(hn:coE d (P.getD k []) (P.take k)≠0):ZJ6 d P=coE d (P.getD k []) (P.take k):=by
 unfold ZJ6
 rw [ZNl (k:=k) (by rw [ZH6]; exact hk) (fun j hj=>by rw [ZG6 (by omega)]; exact h j hj) (by rw [ZG6 hk]; exact hn),ZG6 hk]
theorem ZGC{d:Nat}{P:List (List Int)}(h:∀j,j < P.length→coE d (P.getD j []) (P.take j)=0):ZJ6 d P=0:=
 ZPm fun j hj=>by rw [ZH6] at hj; rw [ZG6 hj]; exact h j hj
theorem ZLc{d:Nat}{P:List (List Int)}(h:ZJ6 d P=0):∀k,k < P.length→coE d (P.getD k []) (P.take k)=0:=fun k hk=>by
 have:=ZPn h ((coL d P).getD k 0) (by
  have:k < (coL d P).length:=by rw [ZH6]; exact hk
  simp [this])
 rwa [ZG6 hk] at this
theorem ZGD{d:Nat}{p:List Int}{A:List (List Int)}(h:coE d p A=0):(p.length=d+1∧∀z∈p,z.natAbs≤20)∧(ZAJ d [p]).length≠0∧∀o∈A,(ZAJ (d+1) [p,o]).length≠1:=by
 unfold coE at h
 split at h
 ·rename_i h1; exact absurd h h1
 ·rename_i h1
  split at h
  ·simp at h
  ·rename_i h2
   split at h
   ·simp at h
   ·rename_i h3
    refine ⟨ZGB (Za6 h1),h2,fun o ho he=>h3 ?_⟩
    rw [List.any_eq_true]
    exact ⟨o,ho,by simpa using he⟩
theorem ZGE{B0:Nat}(d:Nat)(p:List Int)(A:List (List Int))(u v:Value)(w:World)(hd3:d≤3)(hE:rwP (d+1) p≠0)
 (hu:Sl B0 3 w u (ZAB p))(hv:Mat B0 27 3 w v A) :
  Calls Tryz.prog 36 #[.int .i64 d,u,v] w fun e w'=>e=.returned (.int .i64 (rwP (d+1) p))∧Below w.heap.size w w':=by
 obtain ⟨E,b⟩:∃E,E=rwP (d+1) p:=⟨_,rfl⟩
 rw [←b] at hE ⊢;obtain ⟨N,M,rfl,_,_⟩:=ZAD hv
 obtain ⟨W,c⟩:∃W,W=(w.alloc (.cells #[.int .i64 d] 3)).alloc (.cells #[u] 27):=⟨_,rfl⟩
 have l:(w.alloc (.cells #[.int .i64 d] 3)).heap.size=w.heap.size+1:=by simp
 have a:Below w.heap.size w W:=by rw [c]; exact ((Below.refl _ _).alloc (Za4 _) _).alloc (by simp) _
 have i:W.heap[w.heap.size]?=some (.cells #[.int .i64 d] 3 (0,0)):=by
  rw [c]
  exact (Below.heap_alloc _ _ _ (by simp)).trans (heap_alloc_new w _)
 have j:W.heap[w.heap.size+1]?=some (.cells #[u] 27 (0,0)):=by
  rw [c];have:=heap_alloc_new (w.alloc (.cells #[.int .i64 d] 3)) (.cells #[u] 27)
  rwa [l] at this
 have o:W.heap.size=w.heap.size+1+1:=by rw [c]; simp
 have r:=hid c
 have g:Hid (∀X,Below W.heap.size W X→Below w.heap.size w X):=fun X hX=>a.trans (hX.mono a.size)
 have s:Hid (∀X,Below W.heap.size W X→X.cell? ⟨w.heap.size,0,none⟩=some (.int .i64 d)∧X.cell? ⟨w.heap.size+1,0,none⟩=some u):=fun X hX=>by
  have x:=(hX.block w.heap.size (by omega)).trans i
  have B:=(hX.block (w.heap.size+1) (by omega)).trans j
  exact ⟨by simp [World.cell?,x],by simp [World.cell?,B]⟩
 have z:Hid (∀X,Below W.heap.size W X→Calls Tryz.prog 62 #[u,.int .i64 ((d:Int)+1),.int .i64 20] X fun e w'=>e=.returned (.int .i64 E)∧Below W.heap.size W w'):=fun X hX=>by
  rw [b]
  refine (ZF3 _ (d+1) 20 p u X (hu.below (g.out X hX) (Za4 _)) (by decide) (by decide)).mono ?_
  rintro e w' ⟨rfl,y⟩;exact ⟨rfl,hX.trans (y.mono hX.size)⟩
 obtain ⟨G,J,m,_,_⟩:=ZAI hu;subst m;obtain ⟨D,t⟩:=s.out W (Below.refl _ _)
 have F:(E != 0)=true:=by simp [hE]
 clear hu hv hE b c a i j o l;go_enter Tryz.func36,Tryz.ntmps36
 go_upto_region 1 with fail
 rw [←r.out]
 go_wp2_with fail
 refine (z.out W (Below.refl _ _)).mono ?_;rintro e L ⟨rfl,f⟩;have n:=hid f;clear D t f;go_wp2;go_ret;exact ⟨rfl,g.out _ n.out⟩
theorem ZH7{B0:Nat}(d:Nat)(p:List Int)(A:List (List Int))(u v:Value)(w:World)(hd1:1≤d)(hd3:d≤3)(hp:p.length=d+1∧∀z∈p,z.natAbs≤20)(hA:∀o∈A,o.length=d+1∧∀z∈o,z.natAbs≤20)
 (hu:Sl B0 3 w u (ZAB p))(hv:Mat B0 27 3 w v A) :
  Calls Tryz.prog 36 #[.int .i64 d,u,v] w fun e w'=>e=.returned (.int .i64 (if (ZAJ d [p]).length=0 then 3 else if (A.any fun o=>decide ((ZAJ (d+1) [p,o]).length=1))=true then 8 else 0))∧Below w.heap.size w w':=by
 obtain ⟨R,P⟩:∃R:Int,R=if (ZAJ d [p]).length=0 then 3 else if (A.any fun o=>decide ((ZAJ (d+1) [p,o]).length=1))=true then 8 else 0:=⟨_,rfl⟩
 rw [←P];have g:=hid P;clear P;obtain ⟨ao,ac,rfl,_,_⟩:=ZAD hv
 obtain ⟨W,n⟩:∃W,W=(w.alloc (.cells #[.int .i64 d] 3)).alloc (.cells #[u] 27):=⟨_,rfl⟩
 have F:(w.alloc (.cells #[.int .i64 d] 3)).heap.size=w.heap.size+1:=by simp
 have m:Below w.heap.size w W:=by rw [n]; exact ((Below.refl _ _).alloc (Za4 _) _).alloc (by simp) _
 have x:W.heap[w.heap.size]?=some (.cells #[.int .i64 d] 3 (0,0)):=by
  rw [n]
  exact (Below.heap_alloc _ _ _ (by simp)).trans (heap_alloc_new w _)
 have E:W.heap[w.heap.size+1]?=some (.cells #[u] 27 (0,0)):=by
  rw [n];have:=heap_alloc_new (w.alloc (.cells #[.int .i64 d] 3)) (.cells #[u] 27)
  rwa [F] at this
 have L:W.heap.size=w.heap.size+1+1:=by rw [n]; simp
 have N:=hid n
 have a:Hid (∀X,Below W.heap.size W X→Below w.heap.size w X):=fun X hX=>m.trans (hX.mono m.size)
 have f:Hid (∀X,Below W.heap.size W X→X.cell? ⟨w.heap.size,0,none⟩=some (.int .i64 d)∧X.cell? ⟨w.heap.size+1,0,none⟩=some u):=fun X hX=>by
  have U:=(hX.block w.heap.size (by omega)).trans x
  have q1:=(hX.block (w.heap.size+1) (by omega)).trans E
  exact ⟨by simp [World.cell?,U],by simp [World.cell?,q1]⟩
 have V:Hid (∀X,Below W.heap.size W X→Calls Tryz.prog 62 #[u,.int .i64 ((d:Int)+1),.int .i64 20] X fun e w'=>e=.returned (.int .i64 0)∧Below W.heap.size W w'):=fun X hX=>by
  refine (ZF3 _ (d+1) 20 p u X (hu.below (a.out X hX) (Za4 _)) (by decide) (by decide)).mono ?_
  rintro e w' ⟨rfl,i⟩;refine ⟨?_,hX.trans (i.mono hX.size)⟩
  rw [if_neg (by simp [hp.1]),if_neg (by rw [ZPZ hp.2]; decide)]
 have HR:Hid (∀X,Below W.heap.size W X→Calls Tryz.prog 53 #[.slice (some ⟨X.heap.size,0,none⟩) 1 1,.int .i64 (d:Int)] (X.alloc (.cells #[u] 27)) fun e w'=>e=.returned (.int .i64 ((ZAJ d [p]).length:Nat))∧Below W.heap.size W w'):=fun X hX=>by
  refine (ZCO _ (d+1) d [p] _ _ (by omega) (by omega) (ZEi hd1 hd3 (fun r hr=>?_)) (ZLX (hu.below (a.out X hX) (Za4 _))) (by simp)).mono ?_
  ·simp only [List.mem_cons,List.not_mem_nil,or_false] at hr
   subst hr;exact hp
  ·rintro e w' ⟨rfl,i⟩
   exact ⟨rfl,(hX.alloc hX.size _).trans (i.mono (by have:=hX.size; simp; omega))⟩
 have S:Hid (∀X,Below W.heap.size W X→Calls Tryz.prog 64 #[.slice ao A.length ac,.func (.func 63) #[] #[.pointer (some ⟨w.heap.size+1,0,none⟩),.pointer (some ⟨w.heap.size,0,none⟩)]] X fun e w'=>e=.returned (.bool (A.any fun o=>decide ((ZAJ (d+1) [p,o]).length=1)))∧Below W.heap.size W w'):=fun X hX=>by
  refine (ZNk _ (fun o=>decide ((ZAJ (d+1) [p,o]).length=1)) A _ ⟨w.heap.size+1,0,none⟩ ⟨w.heap.size,0,none⟩ X (hv.below (a.out X hX) (Za4 _)) (fun o ho Y ov hY hov=>?_)).mono ?_
  ·have B:Below W.heap.size W Y:=hX.trans (hY.mono hX.size)
   obtain ⟨D,t⟩:=f.out Y B;refine (ZLZ d p o u ov _ _ Y hd1 hd3 hp (hA o ho) (hu.below (a.out Y B) (Za4 _)) hov t D).mono ?_;rintro e w' ⟨rfl,i⟩;exact ⟨rfl,hY.trans (i.mono hY.size)⟩
  ·rintro e w' ⟨rfl,i⟩
   exact ⟨rfl,hX.trans (i.mono hX.size)⟩
 obtain ⟨T,uc,s,_,_⟩:=ZAI hu;rw [hp.1] at s;subst s;obtain ⟨D,t⟩:=f.out W (Below.refl _ _);generalize (ZAJ d [p]).length=rk at *
 generalize (A.any fun o=>decide ((ZAJ (d+1) [p,o]).length=1))=sb at *
 clear hu hv hp hA n m x E L F;go_enter Tryz.func36,Tryz.ntmps36
 go_upto_region 1 with fail
 rw [←N.out]
 go_wp2_with fail
 refine (V.out W (Below.refl _ _)).mono ?_;rintro e M ⟨rfl,b⟩;have J:=hid b;clear D t;obtain ⟨D,t⟩:=f.out M b;obtain ⟨G,O⟩:=f.out (M.alloc (.cells #[.slice T (d+1) uc] 27)) (b.alloc b.size _);clear b
 go_wp2_with fail
 refine (HR.out M J.out).mono ?_;rintro e Q ⟨rfl,y⟩;have l:=hid y;clear D t G O y
 by_cases hrk:rk=0
 ·subst hrk
  obtain rfl:R=3:=by rw [g.out,if_pos rfl]
  go_wp2;go_ret;exact ⟨rfl,a.out _ l.out⟩
 ·have aa:((rk:Int) == 0)=false:=by simpa using hrk
  cases sb with
  | true=>
   obtain rfl:R=8:=by rw [g.out,if_neg hrk,if_pos rfl]
   clear hrk
   go_wp2_with fail
   refine (S.out Q l.out).mono ?_;rintro e w3 ⟨rfl,c⟩;have j:=hid c;clear c;go_wp2;go_ret;exact ⟨rfl,a.out _ j.out⟩
  | false=>
   obtain rfl:R=0:=by rw [g.out,if_neg hrk,if_neg (by decide)]
   clear hrk
   go_wp2_with fail
   refine (S.out Q l.out).mono ?_;rintro e w3 ⟨rfl,c⟩;have j:=hid c;clear c;go_wp2;go_ret;exact ⟨rfl,a.out _ j.out⟩
theorem ZG7{B0:Nat}(d:Nat)(p:List Int)(A:List (List Int))(u v:Value)(w:World)(hd1:1≤d)(hd3:d≤3)(hA:∀o∈A,o.length=d+1∧∀z∈o,z.natAbs≤20)(hu:Sl B0 3 w u (ZAB p))(hv:Mat B0 27 3 w v A) :
  Calls Tryz.prog 36 #[.int .i64 d,u,v] w fun e w'=>e=.returned (.int .i64 (coE d p A))∧Below w.heap.size w w':=by
 unfold coE
 by_cases h:rwP (d+1) p=0
 ·rw [if_neg (by rw [h]; simp)]
  exact ZH7 d p A u v w hd1 hd3 (ZGB h) hA hu hv
 ·rw [if_pos h]
  exact ZGE d p A u v w hd3 h hu hv
theorem ZCS{B0:Nat}(d:Nat)(P:List (List Int))(v:Value)(w:World)(hd1:1≤d)(hd3:d≤3)(h6:P.length≤6)(hv:Mat B0 27 3 w v P) :
  Calls Tryz.prog 14 #[.int .i64 d,v] w fun e w'=>e=.returned (.int .i64 (ZJ6 d P))∧Below w.heap.size w w':=by
 obtain ⟨ro,p,rfl,ah,aa⟩:=ZAD hv
 have L:Hid (∀k,k < P.length→(∀j,j < k→coE d (P.getD j []) (P.take j)=0)→∃c f Q,ro=some ⟨c,f,none⟩∧∀X,Below w.heap.size w X→X.cell? ⟨c,f+k,none⟩=some Q∧Calls Tryz.prog 36 #[.int .i64 d,Q,.slice (some ⟨c,f,none⟩) k p] X fun e w'=>e=.returned (.int .i64 (coE d (P.getD k []) (P.take k)))∧Below w.heap.size w w'):=fun k F m=>by
  obtain ⟨c,f,O,u,J,_,G,h2⟩:=ZAP hv F;simp only [Za3] at J;obtain ⟨r,_,rfl⟩:=J;subst r
  refine ⟨c,f,u,rfl,fun X hX=>⟨(hX.cell (ZAH G)).trans G,?_⟩⟩
  have D:Mat B0 27 3 X (.slice (some ⟨c,f,none⟩) k p) (P.take k):=by
   obtain ⟨S,a1,⟨ao,O,e,a2,V,a4,a5⟩,a6⟩:=hv.below hX (Za4 _);simp only [Za3] at e;obtain ⟨rfl,_,rfl⟩:=e
   have a:(S.take k).length=k:=by rw [List.length_take]; omega
   refine ⟨S.take k,by rw [a,List.length_take]; omega,⟨some ⟨c,f,none⟩,p,by rw [a],by rw [a]; omega,V,fun i y=>?_,a5⟩,fun i y=>?_⟩
   ·rw [a] at y
    obtain ⟨b,o,q1,q2,Y⟩:=a4 i (by omega)
    exact ⟨b,o,q1,by rw [q2,Zaa5 y],Y⟩
   ·rw [List.length_take] at y
    have:=a6 i (by omega)
    rw [Za2,Za2,Zaa5 (by omega),Zaa5 (by omega),←Za2,←Za2]
    exact this
  refine (ZG7 d (P.getD k []) (P.take k) u _ X hd1 hd3 (fun o ho=>?_) (h2.below hX (Za4 _)) D).mono ?_
  ·obtain ⟨i,y,e⟩:=List.getElem_of_mem ho
   rw [List.length_take] at y
   have:=(ZGD (m i (by omega))).1
   rw [show P.getD i []=o by rw [←e]; simp [show i < P.length by omega]] at this
   exact this
  ·rintro e w' ⟨rfl,x⟩
   exact ⟨rfl,hX.trans (x.mono hX.size)⟩
 have g:∀(c f k:Nat),k≤P.length→∀X,(Instr.slice 22 (.slice (some ⟨c,f,none⟩) P.length p) none (some (.int .i64 (k:Int))) none).run Tryz.prog X=.ok (.slice (some ⟨c,f,none⟩) k p) X:=fun c f k F X=>by
  have J:(0:Int)≤(k:Int)∧(k:Int)≤(p:Int):=by omega
  have e2:k≤p:=by omega
  have m:∀w,(Go.sizeOf 27).run Tryz.prog w=.ok 1 w:=fun w=>by kernel_rfl
  simp [Instr.slice,Instr.sliceBounds,Instr.sliceBound,run_underlying Tryz.underlying22,asIntOf,J,e2,m,Addr.add,go_sem]
 have t:=hid g
 obtain ⟨R,N⟩:∃R,R=ZJ6 d P:=⟨_,rfl⟩
 rw [←N];have z:=hid N;clear hv g N;go_enter Tryz.func14,Tryz.ntmps14;go_wp2
 go_loopw [19] (fun i wr=>∃k:Nat,k≤P.length∧i=.int .i64 (k:Int)∧(∀j,j < k→coE d (P.getD j []) (P.take j)=0)∧Below w.heap.size w wr) (fun i _=>P.length-(intOf i).toNat)
 case atStart=>exact ⟨0,Za5 _,rfl,fun j hj=>by omega,Below.refl _ _⟩
 case round=>
  obtain ⟨k,F,rfl,m,x⟩:=hrel
  by_cases a:k < P.length
  ·obtain ⟨c,f,Q,r,U⟩:=L.out k a m
   subst r;obtain ⟨c1,l⟩:=U wr x;have HC:=hid l;have af:=t.out c f k F
   have ae:(k:Int) < (P.length:Int):=by omega
   have T:(0:Int)≤(k:Int):=by omega
   have s:Hid (coE d (P.getD k []) (P.take k)≠0→R=coE d (P.getD k []) (P.take k)):=fun h=>z.out.trans (ZLb a m h)
   have n:Hid (coE d (P.getD k []) (P.take k)=0→∀j,j < k+1→coE d (P.getD j []) (P.take j)=0):=fun h j hj=>by
    rcases Nat.lt_or_eq_of_le (Nat.le_of_lt_succ hj) with G | rfl
    ·exact m j G
    ·exact h
   generalize coE d (P.getD k []) (P.take k)=E at *;clear U l x L t m
   go_wp2_with fail
   refine HC.out.mono ?_;rintro e w2 ⟨rfl,B⟩;have A:=hid B;clear B c1
   by_cases hE:E=0
   ·subst hE
    have M:Hid (∀j,j < k+1→coE d (P.getD j []) (P.take j)=0):=n.out rfl
    clear n s;go_wp2
    go_roundw
    case rel=>exact ⟨k+1,by omega,by go_num,M.out,A.out⟩
    case measure=>simp [intOf]; omega
   ·have ag:(E != 0)=true:=by simp [hE]
    obtain rfl:R=E:=s.out hE;clear n s;go_wp2;go_ret;exact ⟨rfl,A.out⟩
  ·have HB:=hid x
   obtain rfl:R=0:=z.out.trans (ZGC fun j hj=>m j (by omega))
   clear x L t m;go_wp2;go_ret;exact ⟨rfl,HB.out⟩
theorem ZQu{d:Nat}{p:List Int}{A:List (List Int)}(h1:p.length=d+1∧∀z∈p,z.natAbs≤20)(h2:(ZAJ d [p]).length≠0)(h3:∀o∈A,(ZAJ (d+1) [p,o]).length≠1):coE d p A=0:=by
 have a:rwP (d+1) p=0:=by
  unfold rwP
  rw [if_neg (by rw [h1.1]; simp),ZPZ h1.2]
  simp
 unfold coE
 rw [if_neg (by rw [a]; simp),if_neg h2,if_neg]
 intro h;rw [List.any_eq_true] at h;obtain ⟨o,b,c⟩:=h
 exact h3 o b (by simpa using c)
theorem PlG.pls{d:Nat}{P:List (List Int)}(hG:PlG d P):ZJ6 d P=0:=ZGC fun k hk=>by
 refine ZQu (hG.row _ (ZAg hk)) (hG.one _ (ZAg hk)) fun o ho=>?_
 obtain ⟨i,hi,e⟩:=List.getElem_of_mem ho;rw [List.length_take] at hi
 have:=hG.two i k (by omega) hk
 rw [show P.getD i []=o by rw [←e]; simp [show i < P.length by omega]] at this
 exact this
theorem ZBJ{B0:Nat}(d:Nat)(P:List (List Int))(v:Value)(w:World)(hd1:1≤d)(hd3:d≤3)(hG:PlG d P)(h6:P.length≤6)(hv:Mat B0 27 3 w v P) :
  Calls Tryz.prog 14 #[.int .i64 d,v] w fun e w'=>e=.returned (.int .i64 0)∧Below w.heap.size w w':=by
 have h:=ZCS d P v w hd1 hd3 h6 hv
 rwa [hG.pls] at h
theorem ZLd{B0:Nat}(d:Nat)(P:List (List Int))(v:Value)(w:World)(hd1:1≤d)(hd3:d≤3)(hG:PlG d P)(h6:P.length≤6)(hv:Mat B0 27 3 w v P) :
  Calls Tryz.prog 18 #[.int .i64 d,v] w fun e w'=>∃uo uc,e=.returned (.tuple #[.slice uo (grT d P P.length).length uc,.int .i64 0])∧Sl 0 9 w' (.slice uo (grT d P P.length).length uc) (ZAe (grT d P P.length))∧Below w.heap.size w w':=by
 have m:Hid (Calls Tryz.prog 14 #[.int .i64 d,v] w fun e w'=>e=.returned (.int .i64 0)∧Below w.heap.size w w'):=ZBJ d P v w hd1 hd3 hG h6 hv
 have n:Hid (∀X,Below w.heap.size w X→Calls Tryz.prog 29 #[.int .i64 d,v,.string ⟨#[43,45,48]⟩] X fun e w'=>∃u,e=.returned u∧Sl 0 9 w' u (ZAe (grT d P P.length))∧Below X.heap.size X w'):=fun X hX=>ZLW d P v X (hv.below hX (Za4 _)) hG.row hd1 hd3 h6
 clear hv hG;go_enter Tryz.func18,Tryz.ntmps18
 go_wp2_with fail
 refine m.out.mono ?_;rintro e j ⟨rfl,b⟩;have a:=hid b;clear b
 go_wp2_with fail
 refine (n.out j a.out).mono ?_;rintro e l ⟨u,rfl,g,c⟩;obtain ⟨uo,uc,rfl,_,_⟩:=ZDI g;have i:=hid g;have f:Hid (Below w.heap.size w l):=a.out.trans (c.mono a.out.size);clear g c;go_wp2
 refine bodyPost_ret (v:=.tuple #[.slice uo (grT d P P.length).length uc,.int .i64 0]) (by simp [results,Tryz.results18,go_sem]) rfl ⟨uo,uc,rfl,i.out,f.out⟩
end Go.Proofs.YtkjkfceblmgogaaGreat
namespace Go.Proofs.YtkjkfceblmgogaaGreat
open Go.RowKit
attribute [local go_sem ↓] Go.wp_at_zero Go.wp_at_succ
theorem ZHK(B:Nat)(a x:List Int)(u v:Value)(w:World)(hu:Sl B 3 w u (ZAB a))(hv:Sl B 3 w v (ZAB x))(hs:Swe a x) :
  Calls Tryz.prog 104 #[u,v] w fun e w'=>e=.returned (.int .i64 (ZC9 a x))∧∃n,w'=w.drewN n:=by
 obtain ⟨ao,U,r,V,G⟩:=ZAI hu;obtain ⟨F,m,j,J,T⟩:=ZAI hv;subst r j;have L:=hid hu;have E:Hid (Sl B 3 w (.slice F x.length m) (ZAB x)):=hv;have g:=hid hs;have P:a.length≤x.length:=hs.1;have z:a.length≤8:=hs.2.1;clear hu hv hs;go_enter Tryz.func104,Tryz.ntmps104;go_wp2
 go_loopw [5,9] (fun s i wr=>∃k:Nat,k≤a.length∧i=.int .i64 k∧s=.int .i64 (Lin.sumN k fun i=>a.getD i 0*x.getD i 0)∧∃n,wr=w.drewN n) (fun _ i _=>a.length-(intOf i).toNat)
 case atStart=>exact ⟨0,Za5 _,rfl,rfl,0,rfl⟩
 case round=>
  obtain ⟨k,A,rfl,rfl,n,rfl⟩:=hrel
  by_cases hlt:k < a.length
  ·have c:k < x.length:=by omega
   obtain ⟨b,o,Y,hs,N,Q⟩:=ZAK L.out hlt;simp only [Za3] at hs;obtain ⟨rfl,_,rfl⟩:=hs;obtain ⟨b2,o2,M,f,O,y⟩:=ZAK E.out c;simp only [Za3] at f;obtain ⟨rfl,_,rfl⟩:=f;have D:=ZF8 g.out k A
   have t:=ZF8 g.out (k+1) (by omega)
   have X:(a.getD k 0*x.getD k 0).natAbs≤1000000000000000:=ZHy (g.out.2.2.1 _ (by simp [hlt])) (g.out.2.2.2 _ (by simp [c]))
   have d:Hid ((Lin.sumN (k+1) fun i=>a.getD i 0*x.getD i 0)=(Lin.sumN k fun i=>a.getD i 0*x.getD i 0)+a.getD k 0*x.getD k 0):=rfl
   rw [d.out] at t
   generalize (Lin.sumN k fun i=>a.getD i 0*x.getD i 0)=S at *
   generalize a.getD k 0=p at *;generalize x.getD k 0=q at *
   have R:wrap64 (S+wrap64 (p*q))=S+p*q:=by
    rw [IntWalk.wrap64_in (p*q) ⟨by omega,by omega⟩,IntWalk.wrap64_in _ ⟨by omega,by omega⟩]
   clear D t X;go_wp2
   go_quiet (fail)
   go_wp2
   go_roundw
   case rel=>exact ⟨k+1,by omega,by go_num,by rw [d.out,R],_,rfl⟩
   case measure=>simp [intOf]; omega
  ·have l:k=a.length:=by omega
   subst l;go_wp2;go_ret;exact ⟨rfl,n,rfl⟩
theorem ZN3(B:Nat)(f:List Int→Bool)(m:List (List Int))(v:Value)(p1 p2 p3:Addr)(w:World)(hv:Mat B 27 3 w v m)
 (hc:∀r∈m,∀(W:World) (rv:Value),Below w.heap.size w W→Sl B 3 W rv (ZAB r)→Calls Tryz.prog 103 #[rv,.pointer (some p1),.pointer (some p2),.pointer (some p3)] W fun e w'=>e=.returned (.bool (f r))∧Below w.heap.size w w') :
  Calls Tryz.prog 93 #[v,.func (.func 103) #[] #[.pointer (some p1),.pointer (some p2),.pointer (some p3)]] w fun e w'=>(∃z,e=.returned (.int .i64 z)∧-1≤z∧z < m.length∧decide (0≤z)=m.any f)∧Below w.heap.size w w':=by
 obtain ⟨S,E,t,R,O⟩:=ZAD hv;subst t;have N:Hid (Mat B 27 3 w (.slice S m.length E) m):=hv;have T:=hid hc;clear hv hc;go_enter Tryz.func93,Tryz.ntmps93;go_wp2
 go_loopw [8] (fun i wr=>∃k:Nat,k≤m.length∧i=.int .i64 k∧(m.take k).any f=false∧Below w.heap.size w wr) (fun i _=>m.length-(intOf i).toNat)
 case atStart=>exact ⟨0,Za5 _,rfl,by simp,Below.refl _ _⟩
 case round=>
  obtain ⟨k,U,rfl,g,L⟩:=hrel;have J:=hid g;have D:=hid L;clear g L
  by_cases hlt:k < m.length
  ·obtain ⟨Y,o,V,G,M,P,Q,n⟩:=ZAP (N.out.below D.out (Za4 _)) hlt
   simp only [Za3] at M;obtain ⟨rfl,F,rfl⟩:=M;clear F;have y:Hid ((m.take (k+1)).any f=f (m.getD k [])):=ZEA (p:=f) hlt J.out
   have j:Hid (m.getD k []∈m):=by
    show _∈_
    simp [hlt]
   have b:Hid (Calls Tryz.prog 103 #[G,.pointer (some p1),.pointer (some p2),.pointer (some p3)] wr fun e w'=>e=.returned (.bool (f (m.getD k [])))∧Below w.heap.size w w'):=T.out _ j.out wr G D.out n
   clear n;generalize m.getD k []=x at *
   obtain ⟨fb,a⟩:∃fb,fb=f x:=⟨_,rfl⟩
   have l:=hid a;rw [←a] at b;clear a
   go_wp2_with fail
   refine b.out.mono ?_;rintro e X ⟨rfl,d⟩;have c:=hid d;clear d b
   cases hf:fb
   ·have A:Hid (f x=false):=by rw [←hf]; exact l.out.symm
    clear hf;go_wp2
    go_roundw
    case rel=>exact ⟨k+1,by omega,by go_num,by rw [y.out]; exact A.out,c.out⟩
    case measure=>simp [intOf]; omega
   ·have A:Hid (f x=true):=by rw [←hf]; exact l.out.symm
    clear hf;go_wp2;go_ret
    refine ⟨⟨_,rfl,by omega,by omega,?_⟩,c.out⟩
    rw [decide_eq_true (by omega)]
    exact (List.any_eq_true.2 ⟨x,j.out,A.out⟩).symm
  ·have s:Hid (m.take k=m):=Zaa2 (by omega)
   go_wp2;go_ret
   exact ⟨⟨-1,rfl,by omega,by omega,by rw [←s.out,J.out]; rfl⟩,D.out⟩
theorem ZN4(B:Nat)(f:List Int→Bool)(m:List (List Int))(v:Value)(p1 p2 p3:Addr)(w:World)(hv:Mat B 27 3 w v m)
 (hc:∀r∈m,∀(W:World) (rv:Value),Below w.heap.size w W→Sl B 3 W rv (ZAB r)→Calls Tryz.prog 103 #[rv,.pointer (some p1),.pointer (some p2),.pointer (some p3)] W fun e w'=>e=.returned (.bool (f r))∧Below w.heap.size w w') :
  Calls Tryz.prog 64 #[v,.func (.func 103) #[] #[.pointer (some p1),.pointer (some p2),.pointer (some p3)]] w fun e w'=>e=.returned (.bool (m.any f))∧Below w.heap.size w w':=by
 have j:Hid (Calls Tryz.prog 93 #[v,.func (.func 103) #[] #[.pointer (some p1),.pointer (some p2),.pointer (some p3)]] w fun e w'=>(∃z,e=.returned (.int .i64 z)∧-1≤z∧z < m.length∧decide (0≤z)=m.any f)∧Below w.heap.size w w'):=ZN3 B f m v p1 p2 p3 w hv hc
 obtain ⟨s,l,b,p,n⟩:=ZAD hv;subst b;clear hv hc;generalize m.any f=R at *;go_enter Tryz.func64,Tryz.ntmps64
 go_wp2_with fail
 refine j.out.mono ?_;rintro e w' ⟨⟨z,rfl,d,g,a⟩,c⟩;have o:=hid a;have i:=hid c;clear a c;go_wp2;go_ret;exact ⟨ZAX o.out,i.out⟩
theorem ZMF(d:Nat)(r y:List Int)(ww:Int)(ro:Option Addr)(rc:Nat)(xo:Option Addr)(xc:Nat)(b1 b2 b3:Nat)(w:World){B0:Nat}(hr:Sl B0 3 w (.slice ro (d+1) rc) (ZAB r))(hx:Sl 0 3 w (.slice xo d xc) (ZAB y))(hrl:r.length=d+1)(hyl:y.length=d)(hrb:∀z∈r,z.natAbs≤20)(hyb:∀z∈y,z.natAbs≤1000000000000)(hwb:ww.natAbs≤1000000000000)(hd:d≤4)
 (c1:w.cell? ⟨b1,0,none⟩=some (.int .i64 d))(c2:w.cell? ⟨b2,0,none⟩=some (.slice xo d xc))(c3:w.cell? ⟨b3,0,none⟩=some (.int .i64 ww)) :
  Calls Tryz.prog 103 #[.slice ro (d+1) rc,.pointer (some ⟨b1,0,none⟩),.pointer (some ⟨b2,0,none⟩),.pointer (some ⟨b3,0,none⟩)] w fun e w'=>e=.returned (.bool (decide (r.getD d 0*ww < ZC9 (r.take d) y)))∧∃n,w'=w.drewN n:=by
 obtain ⟨B,t,v,b,i,E⟩:=ZAK hr (k:=d) (by rw [hrl]; omega)
 rw [hrl] at b i;simp only [Za3] at b;obtain ⟨rfl,-,rfl⟩:=b;have a:=hr;rw [←hrl] at a
 have f:=Sl.takeE (n:=d) a (by rw [hrl]; omega)
 have j:Hid (∀m,Calls Tryz.prog 104 #[.slice (some ⟨B,t,none⟩) d rc,.slice xo d xc] (w.drewN m) fun e w'=>e=.returned (.int .i64 (ZC9 (r.take d) y))∧∃k,w'=(w.drewN m).drewN k):=fun m=>
  ZHK B0 _ y _ _ _ (f.drewN m) ((hx.drewN m).more (Za5 _)) ⟨by rw [hyl]; simp; omega,by simp; omega,fun z hz=>by have:=hrb z (Zaa7 hz); omega,hyb⟩
 have c:=hrb (r.getD d 0) (ZAj (by rw [hrl]; omega))
 have l:(r.getD d 0*ww).natAbs≤20*1000000000000:=by rw [Int.natAbs_mul]; exact Nat.mul_le_mul c hwb
 generalize ZC9 (r.take d) y=D at *;generalize r.getD d 0=rd at *
 have g:wrap64 (rd*ww)=rd*ww:=IntWalk.wrap64_in _ ⟨by omega,by omega⟩
 have x:IntKind.i64.wrap (rd*ww)=rd*ww:=by rw [IntWalk.i64_left]; exact g
 have s:(d:Int) < (d:Int)+1:=by omega
 have p:(0:Int)≤(d:Int):=by omega
 have A:(d:Int)≤(rc:Int):=by omega
 have o:d≤rc:=by omega
 clear hr a hx f hrb hyb c l hwb;go_enter Tryz.func103,Tryz.ntmps103;go_wp2
 go_quiet ((go_at_call 104; exact Calls.quiet_of (w:=w) (j.out _)))
 go_wp2;go_ret;exact ⟨rfl,_,rfl⟩
def inK(rows:List (List Int))(d:Nat)(p:List Int):Bool:=!(rows.any fun r=>decide (r.getD d 0*p.getD d 0 < ZC9 (r.take d) (p.take d)))
theorem ZFb(W:World)(o1 o2:Obj):((W.alloc o1).alloc o2).drew.heap[W.heap.size]?=some o1∧((W.alloc o1).alloc o2).drew.heap[W.heap.size+1]?=some o2∧Below W.heap.size W ((W.alloc o1).alloc o2).drew:=by
 have c:=ZAG W o1;have b:=ZAG (W.alloc o1) o2;have a:=ZAL (W.alloc o1) o2;rw [size_alloc] at a
 exact ⟨(b.block _ (by rw [size_alloc]; omega)).trans (ZAL _ _),a,(c.trans (b.mono c.size)).drew⟩
theorem ZN5(d:Nat)(rows:List (List Int))(p:List Int)(v:Value)(po:Option Addr)(pc:Nat)(w:World){B0:Nat}(hv:Mat B0 27 3 w v rows)(hp:Sl 0 3 w (.slice po (d+1) pc) (ZAB p))(hpl:p.length=d+1)(hpb:∀z∈p,z.natAbs≤1000000000000)(hc:CutF d rows) :
  Calls Tryz.prog 77 #[.agg #[.int .i64 d,v],.slice po (d+1) pc] w fun e w'=>e=.returned (.bool (inK rows d p))∧Below w.heap.size w w':=by
 obtain ⟨ro,Y,ag,aA,az⟩:=ZAD hv;subst ag
 obtain ⟨F,G,ay,E,V,A⟩:=ZAK hp (k:=d) (by rw [hpl]; omega)
 rw [hpl] at E V;simp only [Za3] at E;obtain ⟨rfl,-,rfl⟩:=E;have D:=hp;rw [←hpl] at D
 have Q:=Sl.takeE (n:=d) D (by rw [hpl]; omega)
 obtain ⟨b,N,i,ae,f⟩:=ZCQ w d (.slice ro rows.length Y)
 have T:=hpb (p.getD d 0) (ZAj (by rw [hpl]; omega))
 have ah:Hid (∀W c j,Below b.heap.size b W→W.heap[c]?=some (.cells #[.slice (some ⟨F,G,none⟩) d pc] 27 (0,0))→W.heap[j]?=some (.cells #[.int .i64 (p.getD d 0)] 3 (0,0))→Calls Tryz.prog 64 #[.slice ro rows.length Y,.func (.func 103) #[] #[.pointer (some ⟨w.heap.size,0,none⟩),.pointer (some ⟨c,0,none⟩),.pointer (some ⟨j,0,none⟩)]] W fun e w'=>e=.returned (.bool (rows.any fun r=>decide (r.getD d 0*p.getD d 0 < ZC9 (r.take d) (p.take d))))∧Below W.heap.size W w'):=fun W c j l J U=>by
  have B:Below w.heap.size w W:=i.trans (l.mono i.size)
  refine ZN4 B0 (fun r=>decide (r.getD d 0*p.getD d 0 < ZC9 (r.take d) (p.take d))) rows _ ⟨w.heap.size,0,none⟩ ⟨c,0,none⟩ ⟨j,0,none⟩ W (hv.below B (Za4 _)) fun r hr X rv hX hrs=>?_
  obtain ⟨uo,uc,hu,_,_⟩:=ZAI hrs;rw [hc.len r hr] at hu;subst hu;have q2:=(hX.block c (Zaa3.1 J).1).trans J;have q3:=(hX.block j (Zaa3.1 U).1).trans U;have aa:Below w.heap.size w X:=B.trans (hX.mono B.size)
  refine (ZMF d r (p.take d) (p.getD d 0) uo uc (some ⟨F,G,none⟩) pc w.heap.size c j X hrs (Q.below aa (Za4 _)) (hc.len r hr) (by rw [List.length_take,hpl]; omega) (hc.bd r hr) (fun z hz=>hpb z (Zaa7 hz)) T hc.d4 (f X (l.trans (hX.mono l.size))).1 (by simp [World.cell?,q2]) (by simp [World.cell?,q3])).mono ?_
  rintro e w' ⟨rfl,n,rfl⟩;exact ⟨rfl,hX.trans (Qe.below ⟨n,rfl⟩)⟩
 have S:=hid i
 have am:Hid (∀W,Below b.heap.size b W→W.cell? ⟨w.heap.size,1,none⟩=some (.slice ro rows.length Y)):=fun W l=>(f W l).2
 have aj:Hid (inK rows d p=!(rows.any fun r=>decide (r.getD d 0*p.getD d 0 < ZC9 (r.take d) (p.take d)))):=rfl
 have g:b.cell? ⟨F,G+d,none⟩=some (.int .i64 (p.getD d 0)):=(i.cell (ZAH A)).trans A;have ak:=hid N;obtain ⟨c0,c1⟩:=f b (Below.refl _ _)
 have m:Hid (∀X,Below b.heap.size b X→X.cell? ⟨w.heap.size,0,none⟩=some (.int .i64 d)∧X.cell? ⟨F,G+d,none⟩=some (.int .i64 (p.getD d 0))):=fun X hX=>⟨(f X hX).1,(hX.cell (ZAH g)).trans g⟩
 have t:∀o,Below b.heap.size b (b.drew.alloc o):=fun o=>((Below.refl _ _).drew).alloc (Za4 _) o
 have ai:∀o,Below b.heap.size b (b.alloc o):=fun o=>(Below.refl _ _).alloc (Za4 _) o
 have M:∀o o',Below b.heap.size b ((b.drew.alloc o).alloc o'):=fun o o'=>(t o).alloc (t o).size o'
 have af:∀o o' (a:Addr) (x:Value),b.heap.size≤a.block→Below b.heap.size b (((b.drew.alloc o).alloc o').setCell a x):=fun o o' a x h=>(M o o').setCell h x
 have au:(d:Int) < (d:Int)+1:=by omega
 have ar:(0:Int)≤(d:Int):=by omega
 have aw:(d:Int)≤(pc:Int):=by omega
 have aq:d≤pc:=by omega
 clear hv hp D Q i ae f N T hpb A hc
 generalize (rows.any fun r=>decide (r.getD d 0*p.getD d 0 < ZC9 (r.take d) (p.take d)))=R at *
 generalize inK rows d p=K at *;generalize p.getD d 0=z at *;go_enter Tryz.func77,Tryz.ntmps77
 go_upto_region 1 with fail
 rw [←ak.out]
 go_cut [5,6] from 7 (fun x y wx=>∃c j,x=.pointer (some ⟨c,0,none⟩)∧y=.pointer (some ⟨j,0,none⟩)∧wx.heap[c]?=some (.cells #[.slice (some ⟨F,G,none⟩) d pc] 27 (0,0))∧wx.heap[j]?=some (.cells #[.int .i64 z] 3 (0,0))∧Below b.heap.size b wx)
 case first=>
  go_region_held3 (fun X=>X.cell? ⟨w.heap.size,0,none⟩=some (.int .i64 d)∧X.cell? ⟨F,G+d,none⟩=some (.int .i64 z)) (first | exact m.out _ (t _) | exact m.out _ (ai _) | exact m.out _ (M _ _) | exact m.out _ (af _ _ _ _) | go_keep) (fail)
  all_goals go_wp2
  all_goals go_meet
  all_goals first
   | exact ⟨b.heap.size+1,b.heap.size,rfl,rfl,(ZFb b _ _).2.1,(ZFb b _ _).1,(ZFb b _ _).2.2⟩
   | exact ⟨b.heap.size,b.heap.size+1,rfl,rfl,(ZFb b _ _).1,(ZFb b _ _).2.1,(ZFb b _ _).2.2⟩
 case rest=>
 obtain ⟨c,j,rfl,rfl,J,U,l⟩:=hcut;have s:=ah.out wc c j l J U;have L:Hid (Below w.heap.size w wc):=S.out.trans (l.mono S.out.size);have O:=hid s;have c9:=am.out wc l;clear s l J U c0 c1 g
 go_wp2_with fail
 refine O.out.mono ?_;rintro e w5 ⟨rfl,P⟩;have an:Hid (Below w.heap.size w w5):=L.out.trans (P.mono L.out.size);clear P;go_wp2;go_ret
 exact ⟨by rw [aj.out]; rfl,an.out⟩
end Go.Proofs.YtkjkfceblmgogaaGreat
