import Derived.Test.YtgfnmkenpgnllaaGreatWysA
namespace Go.Proofs.YtgfnmkenpgnllaaGreat
open Lin
theorem ZJg{d:Nat}{m:List (List Int)}(hb:ZAp d m=true):∃i,i < d∧0 < V (ZAR d m) i:=by
 have c:(ZAK d m).length+1=d:=by simpa [ZAp] using hb
 obtain ⟨⟨p,o,a⟩,_,_⟩:=ZBc c;have f:=ZAx hb;have b:=ZGc (low (muL d (ZAK d m)))
 rw [show upr (low (muL d (ZAK d m)))=ZAR d m from (if_pos c).symm] at b
 cases hq:(ZAR d m).find? (fun v=>v != 0) with
 | none=>
  have:=List.find?_eq_none.1 hq (V (ZAR d m) p) (ZAn (by omega))
  simp at this;exact absurd this a
 | some z=>
  rw [hq] at b;have g:=List.find?_some hq;have l:=List.mem_of_find?_eq_some hq;obtain ⟨i,j,n⟩:=List.getElem_of_mem l
  refine ⟨i,by omega,?_⟩
  have e:V (ZAR d m) i=z:=by
   show (ZAR d m).getD i 0=z
   simp [j,n]
  rw [e];simp at g b;omega
theorem ZLt{rows:List (List Int)}{g:List Int}(hb:ZAp (rows.length+1) (ZA4 g rows)=true) :
  ZAZ rows g≠[]↔0 < V (ZAv g rows) rows.length∧∀i,i < rows.length+1→0≤V (ZAv g rows) i:=by
 have D:(ZAK (rows.length+1) (ZA4 g rows)).length+1=rows.length+1:=by simpa [ZAp] using hb
 obtain ⟨_,E,G⟩:=ZBc D;have d:=ZCu.1 E;unfold ZAv
 constructor
 ·intro n
  rcases ZOA g.length _ (rows.map V) rfl (V g) with ⟨s,a,hs,ha,he⟩ | ⟨c,x,z⟩
  ·have B:=G (fun i=>if i=rows.length then s else a i) (ZCu.2 fun j hj=>by
    simp only [if_true];rw [he j hj,ZFu];unfold sm;rw [Zab1]
    refine ZAC fun i hi=>?_
    have v:(rows.map V).getD i (fun _=>0)=V (rows.getD i []):=by simp [hi]
    rw [v,if_neg (by omega)])
   obtain ⟨p,A,t⟩:=ZJg hb
   have f:∀i,i < rows.length+1→0≤(if i=rows.length then s else a i):=fun i hi=>by
    by_cases e:i=rows.length
    ·rw [if_pos e]; omega
    ·rw [if_neg e]; exact ha i (by rw [Zab1]; omega)
   have y:0 < V (ZAR (rows.length+1) (ZA4 g rows)) rows.length:=by
    have k:=B p rows.length A (by omega)
    simp only [if_true] at k;have F:0 < s*V (ZAR (rows.length+1) (ZA4 g rows)) p:=Int.mul_pos hs t;rw [←k] at F;have o:=f p A
    refine Za6 fun m=>?_
    have L:(if p=rows.length then s else a p)*V (ZAR (rows.length+1) (ZA4 g rows)) rows.length≤0:=Int.mul_nonpos_of_nonneg_of_nonpos o (by omega)
    omega
   refine ⟨y,fun i hi=>?_⟩
   have k:=B i rows.length hi (by omega)
   simp only [if_true] at k
   have o:=Int.mul_nonneg (f i hi) (show 0≤V (ZAR (rows.length+1) (ZA4 g rows)) rows.length by omega)
   rw [k] at o
   refine Za6 fun m=>?_
   have:=Int.mul_neg_of_pos_of_neg hs (show V (ZAR (rows.length+1) (ZA4 g rows)) i < 0 by omega)
   omega
  ·exact absurd (ZCQ.2 ⟨c,fun r hr=>x _ (List.mem_map.2 ⟨r,hr,rfl⟩),z⟩) n
 ·rintro ⟨m,l⟩ b
  obtain ⟨c,x,z⟩:=ZCQ.1 b;generalize V (ZAR (rows.length+1) (ZA4 g rows))=a at *
  have M:dot g.length c (sv rows a)=a rows.length*dot g.length c (V g):=by
   have:dot g.length c (sv rows a)=dot g.length c (fun j=>a rows.length*V g j):=ZAb (fun _ _=>rfl) d
   rw [this];unfold dot;rw [←ZAX]
   exact ZAC fun i _=>by grind
  have J:dot g.length c (sv rows a)≤0:=by
   have:=ZGg g.length c (rows.map V) a
   show dot g.length c (sm (rows.map V) a)≤0
   rw [this,Zab1]
   refine ZCt fun i hi=>?_
   have v:(rows.map V).getD i (fun _=>0)=V (rows.getD i []):=by simp [hi]
   rw [v]
   exact Int.mul_nonpos_of_nonneg_of_nonpos (l i (by omega)) (x _ (by simp [hi]))
  have N:=Int.mul_pos m z;omega
theorem ZJh{rows:List (List Int)}{g:List Int}(hb:ZAp (rows.length+1) (ZA4 g rows)=true) :
  (!(ZAZ rows g).isEmpty)=(decide (0 < (ZAv g rows).getD rows.length 0) && (ZAv g rows).all fun z=>decide (0≤z)):=by
 have c:=ZLt hb;have b:=ZAx hb;rw [Bool.eq_iff_iff];simp only [Bool.not_eq_true',Bool.and_eq_true,decide_eq_true_eq,List.all_eq_true]
 have e:(ZAZ rows g).isEmpty=false↔ZAZ rows g≠[]:=by
  cases ZAZ rows g <;> simp
 rw [e,c]
 refine and_congr_right fun _=>?_
 constructor
 ·intro h z d
  obtain ⟨i,a,rfl⟩:=List.getElem_of_mem d
  have j:=h i (by unfold ZAv at a; omega)
  have f:V (ZAv g rows) i=(ZAv g rows)[i]:=by
   show (ZAv g rows).getD i 0=_
   simp [a]
  omega
 ·intro h i a
  exact h _ (ZAn (by unfold ZAv; omega))
end Go.Proofs.YtgfnmkenpgnllaaGreat
namespace Go.Proofs.YtgfnmkenpgnllaaGreat
open Go.RowKit Lin
attribute [local go_sem ↓] Go.wp_at_zero Go.wp_at_succ
structure MxW(c:Nat)(m:List (List Int)):Prop where
 row:∀r∈m,r.length=c
 bd:∀r∈m,∀z∈r,z.natAbs≤60
 c20:c≤20
 c1:1≤c
 m4:m.length≤4
theorem ZFT{m:List (List Int)}{c q:Nat}{M':Nat→Nat→Int}{C:Nat→Nat}{k:Nat}{sgn:Int}(hx:MxW c m)(h:Red (mOf m) m.length q M' C k sgn):∀i,i < m.length→∀j,j < c→(M' i j).natAbs≤60:=by
 intro i l j o;obtain ⟨f,b,n⟩:=h.sub i l;rw [n];unfold mOf
 have d:m.getD f []∈m:=by rw [Za2,Za9 b]; exact List.getElem_mem b
 have g:=hx.row _ d;refine hx.bd _ d _ ?_;generalize m.getD f []=r at g ⊢
 have a:j < r.length:=by omega
 have e:r.getD j 0=r[j]:=by simp [a]
 rw [e]; exact List.getElem_mem a
theorem bdW{c:Nat}{m:List (List Int)}(hx:MxW c m):Bd (mOf m) m.length c:=by
 intro q d C k t o h i l j p;have a:=ZFT hx h;have v:=hx.m4;have g:=h.done.kn
 have f:∀b,b < k+1→C b < c:=fun b hb=>Nat.lt_of_lt_of_le (h.done.rise.2 b hb) o
 have s:fb 60 3*(fb 60 4+fb 60 5)≤9223372036854775807:=by decide
 have x:=ZOc (B:=60) (n:=m.length) (c:=c) (k:=k+1) (i:=i) (j:=j) (M:=d) (C:=C) (by decide) a g f l p
 have z:=ZJ0 (B:=60) (k:=k) (M:=d) (C:=C) (fun i l b hb=>a i (by omega) _ (f b (by omega)))
 have D:fb 60 (k+1)≤fb 60 4:=ZBG (by decide) (by omega)
 have E:fb 60 (k+1+1)≤fb 60 5:=ZBG (by decide) (by omega)
 have A:fb 60 k≤fb 60 3:=ZBG (by decide) (by omega)
 have r:=ZKM 60 (by decide) 3
 have y:(dk d C k*rr d C (k+1) i j).natAbs≤fb 60 3*(fb 60 4+fb 60 5):=by
  rw [Int.natAbs_mul]
  exact Nat.mul_le_mul (by omega) (by omega)
 have o:(rr d C (k+1) i j).natAbs≤fb 60 3*(fb 60 4+fb 60 5):=
  Zaa8 (show (rr d C (k+1) i j).natAbs≤1*(fb 60 4+fb 60 5) by omega) (Nat.mul_le_mul_right _ r)
 omega
theorem MxW.krg{c:Nat}{m:List (List Int)}(hx:MxW c m):KrG c m:=⟨hx.row,hx.c20,hx.c1,.inr hx.m4,bdW hx,fun h=>ZFT hx h⟩
theorem ZH5(B c:Nat)(m:List (List Int))(v:Value)(w:World)(hx:MxW c m)(hv:Mat B 22 3 w v m)(hm:m.length≤500)(hm0:1≤m.length) :
  Calls Tryz.prog 105 #[v,.int .i64 c] w fun e w'=>∃x,e=.returned (.tuple #[x,.bool (ZAp c m)])∧w'.ownsRow w.heap.size 3 1 x (ZAR c m).length (ZAB (ZAR c m))∧Below w.heap.size w w':=
 ZEM B c m v w hx.krg hv hm hm0
end Go.Proofs.YtgfnmkenpgnllaaGreat
