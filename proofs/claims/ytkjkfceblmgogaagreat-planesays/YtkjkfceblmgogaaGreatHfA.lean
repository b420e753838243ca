import Derived.Test.YtkjkfceblmgogaaGreatWysA
namespace Go.Proofs.YtkjkfceblmgogaaGreat
open Lin
theorem ZJu{d:Nat}{m:List (List Int)}(hb:ZAp d m=true):∃i,i < d∧0 < V (ZAO d m) i:=by
 have c:(ZAJ d m).length+1=d:=by simpa [ZAp] using hb
 obtain ⟨⟨p,o,a⟩,_,_⟩:=ZBc c;have f:=ZAy hb;have b:=ZGm (low (muL d (ZAJ d m)))
 rw [show upr (low (muL d (ZAJ d m)))=ZAO d m from (if_pos c).symm] at b
 cases hq:(ZAO d m).find? (fun v=>v != 0) with
 | none=>
  have:=List.find?_eq_none.1 hq (V (ZAO d m) p) (ZAj (by omega))
  simp at this;exact absurd this a
 | some z=>
  rw [hq] at b;have j:=List.find?_some hq;have l:=List.mem_of_find?_eq_some hq;obtain ⟨i,n,g⟩:=List.getElem_of_mem l
  refine ⟨i,by omega,?_⟩
  have e:V (ZAO d m) i=z:=by
   show (ZAO d m).getD i 0=z
   simp [n,g]
  rw [e];simp at j b;omega
theorem ZL9{rows:List (List Int)}{g:List Int}(hb:ZAp (rows.length+1) (ZA0 g rows)=true) :
  ZAY rows g≠[]↔0 < V (ZAw g rows) rows.length∧∀i,i < rows.length+1→0≤V (ZAw g rows) i:=by
 have D:(ZAJ (rows.length+1) (ZA0 g rows)).length+1=rows.length+1:=by simpa [ZAp] using hb
 obtain ⟨_,E,F⟩:=ZBc D;have d:=ZCt.1 E;unfold ZAw
 constructor
 ·intro n
  rcases ZOa g.length _ (rows.map V) rfl (V g) with ⟨s,a,hs,ha,he⟩ | ⟨c,o,t⟩
  ·have B:=F (fun i=>if i=rows.length then s else a i) (ZCt.2 fun j hj=>by
    simp only [if_true];rw [he j hj,ZF0];unfold sm;rw [Zab1]
    refine ZAC fun i hi=>?_
    have y:(rows.map V).getD i (fun _=>0)=V (rows.getD i []):=by simp [hi]
    rw [y,if_neg (by omega)])
   obtain ⟨p,A,m⟩:=ZJu hb
   have f:∀i,i < rows.length+1→0≤(if i=rows.length then s else a i):=fun i hi=>by
    by_cases e:i=rows.length
    ·rw [if_pos e]; omega
    ·rw [if_neg e]; exact ha i (by rw [Zab1]; omega)
   have x:0 < V (ZAO (rows.length+1) (ZA0 g rows)) rows.length:=by
    have k:=B p rows.length A (by omega)
    simp only [if_true] at k;have G:0 < s*V (ZAO (rows.length+1) (ZA0 g rows)) p:=Int.mul_pos hs m;rw [←k] at G;have v:=f p A
    refine Za6 fun z=>?_
    have N:(if p=rows.length then s else a p)*V (ZAO (rows.length+1) (ZA0 g rows)) rows.length≤0:=Int.mul_nonpos_of_nonneg_of_nonpos v (by omega)
    omega
   refine ⟨x,fun i hi=>?_⟩
   have k:=B i rows.length hi (by omega)
   simp only [if_true] at k
   have v:=Int.mul_nonneg (f i hi) (show 0≤V (ZAO (rows.length+1) (ZA0 g rows)) rows.length by omega)
   rw [k] at v
   refine Za6 fun z=>?_
   have:=Int.mul_neg_of_pos_of_neg hs (show V (ZAO (rows.length+1) (ZA0 g rows)) i < 0 by omega)
   omega
  ·exact absurd (ZCP.2 ⟨c,fun r hr=>o _ (List.mem_map.2 ⟨r,hr,rfl⟩),t⟩) n
 ·rintro ⟨z,l⟩ b
  obtain ⟨c,o,t⟩:=ZCP.1 b;generalize V (ZAO (rows.length+1) (ZA0 g rows))=a at *
  have M:dot g.length c (sv rows a)=a rows.length*dot g.length c (V g):=by
   have:dot g.length c (sv rows a)=dot g.length c (fun j=>a rows.length*V g j):=ZAa (fun _ _=>rfl) d
   rw [this];unfold dot;rw [←ZAV]
   exact ZAC fun i _=>by grind
  have J:dot g.length c (sv rows a)≤0:=by
   have:=ZGq g.length c (rows.map V) a
   show dot g.length c (sm (rows.map V) a)≤0
   rw [this,Zab1]
   refine ZCs fun i hi=>?_
   have y:(rows.map V).getD i (fun _=>0)=V (rows.getD i []):=by simp [hi]
   rw [y]
   exact Int.mul_nonpos_of_nonneg_of_nonpos (l i (by omega)) (o _ (by simp [hi]))
  have L:=Int.mul_pos z t;omega
theorem ZJv{rows:List (List Int)}{g:List Int}(hb:ZAp (rows.length+1) (ZA0 g rows)=true) :
  (!(ZAY rows g).isEmpty)=(decide (0 < (ZAw g rows).getD rows.length 0) && (ZAw g rows).all fun z=>decide (0≤z)):=by
 have c:=ZL9 hb;have b:=ZAy hb;rw [Bool.eq_iff_iff];simp only [Bool.not_eq_true',Bool.and_eq_true,decide_eq_true_eq,List.all_eq_true]
 have e:(ZAY rows g).isEmpty=false↔ZAY rows g≠[]:=by
  cases ZAY rows g <;> simp
 rw [e,c]
 refine and_congr_right fun _=>?_
 constructor
 ·intro h z d
  obtain ⟨i,a,rfl⟩:=List.getElem_of_mem d
  have j:=h i (by unfold ZAw at a; omega)
  have f:V (ZAw g rows) i=(ZAw g rows)[i]:=by
   show (ZAw g rows).getD i 0=_
   simp [a]
  omega
 ·intro h i a
  exact h _ (ZAj (by unfold ZAw; omega))
end Go.Proofs.YtkjkfceblmgogaaGreat
namespace Go.Proofs.YtkjkfceblmgogaaGreat
open Go.RowKit Lin
attribute [local go_sem ↓] Go.wp_at_zero Go.wp_at_succ
structure MxW(c:Nat)(m:List (List Int)):Prop where
 row:∀r∈m,r.length=c
 bd:∀r∈m,∀z∈r,z.natAbs≤60
 c20:c≤20
 c1:1≤c
 m4:m.length≤4
theorem ZFa{m:List (List Int)}{c q:Nat}{M':Nat→Nat→Int}{C:Nat→Nat}{k:Nat}{sgn:Int}(hx:MxW c m)(h:Red (mOf m) m.length q M' C k sgn):∀i,i < m.length→∀j,j < c→(M' i j).natAbs≤60:=by
 intro i n j o;obtain ⟨b,d,l⟩:=h.sub i n;rw [l];unfold mOf
 have f:m.getD b []∈m:=by rw [Za2,Za9 d]; exact List.getElem_mem d
 have g:=hx.row _ f;refine hx.bd _ f _ ?_;generalize m.getD b []=r at g ⊢
 have a:j < r.length:=by omega
 have e:r.getD j 0=r[j]:=by simp [a]
 rw [e]; exact List.getElem_mem a
theorem bdW{c:Nat}{m:List (List Int)}(hx:MxW c m):Bd (mOf m) m.length c:=by
 intro q d C k t l h i o j v;have a:=ZFa hx h;have r:=hx.m4;have g:=h.done.kn
 have f:∀b,b < k+1→C b < c:=fun b hb=>Nat.lt_of_lt_of_le (h.done.rise.2 b hb) l
 have s:fb 60 3*(fb 60 4+fb 60 5)≤9223372036854775807:=by decide
 have A:=ZMp (B:=60) (n:=m.length) (c:=c) (k:=k+1) (i:=i) (j:=j) (M:=d) (C:=C) (by decide) a g f o v
 have E:=ZJP (B:=60) (k:=k) (M:=d) (C:=C) (fun i o b hb=>a i (by omega) _ (f b (by omega)))
 have y:fb 60 (k+1)≤fb 60 4:=ZAz (by decide) (by omega)
 have x:fb 60 (k+1+1)≤fb 60 5:=ZAz (by decide) (by omega)
 have D:fb 60 k≤fb 60 3:=ZAz (by decide) (by omega)
 have p:=ZIk 60 (by decide) 3
 have z:(dk d C k*rr d C (k+1) i j).natAbs≤fb 60 3*(fb 60 4+fb 60 5):=by
  rw [Int.natAbs_mul]
  exact Nat.mul_le_mul (by omega) (by omega)
 have l:(rr d C (k+1) i j).natAbs≤fb 60 3*(fb 60 4+fb 60 5):=
  Zaa8 (show (rr d C (k+1) i j).natAbs≤1*(fb 60 4+fb 60 5) by omega) (Nat.mul_le_mul_right _ p)
 omega
theorem MxW.krg{c:Nat}{m:List (List Int)}(hx:MxW c m):KrG c m:=⟨hx.row,hx.c20,hx.c1,.inr (Zaa8 hx.m4 (by decide)),bdW hx,fun h hk=>ZKf (K:=4) (by decide) (fun h=>ZFa hx h) (.inr hx.m4) (by decide) h hk⟩
theorem ZII(B c:Nat)(m:List (List Int))(v:Value)(w:World)(hx:MxW c m)(hv:Mat B 27 3 w v m)(hm:m.length≤500)(hm0:1≤m.length) :
  Calls Tryz.prog 100 #[v,.int .i64 c] w fun e w'=>∃x,e=.returned (.tuple #[x,.bool (ZAp c m)])∧w'.ownsRow w.heap.size 3 1 x (ZAO c m).length (ZAB (ZAO c m))∧Below w.heap.size w w':=
 ZCm B c m v w hx.krg hv hm hm0
end Go.Proofs.YtkjkfceblmgogaaGreat
