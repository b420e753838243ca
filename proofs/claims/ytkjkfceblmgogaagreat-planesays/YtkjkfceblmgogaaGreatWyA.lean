import Derived.Test.YtkjkfceblmgogaaGreatWay0
import Derived.Test.YtkjkfceblmgogaaGreatOwnA
import Derived.Test.YtkjkfceblmgogaaGreatOfAll
namespace Go.Proofs.YtkjkfceblmgogaaGreat
open Go.RowKit
attribute [local go_sem ↓] Go.wp_at_zero Go.wp_at_succ
def ZFu(rs:List (List Int))(g:List Int)(i:Nat):List Int:=rs.map (fun r=>r.getD i 0) ++ [-(g.getD i 0)]
def ZA0(g:List Int)(rs:List (List Int)):List (List Int):=(List.range g.length).map (ZFu rs g)
def ZAw(g:List Int)(rs:List (List Int)):List Int:=ZAO (rs.length+1) (ZA0 g rs)
def ZBN(g:List Int)(rs:List (List Int)):Bool:=ZAp (rs.length+1) (ZA0 g rs) && !(ZAw g rs).any ZE6
theorem ZPG{g:List Int}{rs:List (List Int)}(hr:∀r∈rs,∀z∈r,z.natAbs≤60)(hg:∀z∈g,z.natAbs≤60)(h4:rs.length≤4):Mx (rs.length+1) 60 (ZA0 g rs):=by
 refine ⟨fun r hr=>?_,fun r h z hz=>?_,by omega,by omega,by decide,Zaa8 (ZAz (by decide) (show _≤5 by omega)) (by decide)⟩
 ·simp only [ZA0,List.mem_map] at hr
  obtain ⟨i,_,rfl⟩:=hr;simp [ZFu]
 ·simp only [ZA0,List.mem_map] at h
  obtain ⟨i,_,rfl⟩:=h;simp only [ZFu,List.mem_append,List.mem_map,List.mem_singleton] at hz
  rcases hz with ⟨r,h1,rfl⟩ | rfl
  ·by_cases e:i < r.length
   ·exact hr r h1 _ (by simp [e])
   ·simp [Zaa6 (Nat.le_of_not_lt e)]
  ·by_cases e:i < g.length
   ·have:=hg (g.getD i 0) (by simp [e])
    omega
   ·simp [Zaa6 (Nat.le_of_not_lt e)]
def ZJ5(n:Nat)(rows:List (List Int))(g:List Int):Prop:=n≤4∨(n≤5∧(∀r∈rows,∀z∈r,z.natAbs≤20)∧∀z∈g,z.natAbs≤20)
theorem ZJ5.le{n:Nat}{rows:List (List Int)}{g:List Int}(h:ZJ5 n rows g):n≤5:=by
 rcases h with h | h
 ·omega
 ·exact h.1
theorem ZJ5.mono{n k:Nat}{rows:List (List Int)}{g:List Int}(h:ZJ5 n rows g)(hk:k≤n):ZJ5 k rows g:=by
 rcases h with h | h
 ·exact .inl (by omega)
 ·exact .inr ⟨by omega,h.2⟩
theorem ZNB{g:List Int}{rs:List (List Int)}(hr:∀r∈rs,∀z∈r,z.natAbs≤60)(hg:∀z∈g,z.natAbs≤60)(hg5:g.length≤5)(h:ZJ5 rs.length rs g):KrG (rs.length+1) (ZA0 g rs):=by
 rcases h with h4 | ⟨h5,hr2,hg2⟩
 ·exact KrG.of (ZPG hr hg h4)
 ·refine MxS.krg ⟨fun r hr=>?_,fun r h z hz=>?_,by omega,by omega,by simpa [ZA0] using hg5⟩
  ·simp only [ZA0,List.mem_map] at hr
   obtain ⟨i,_,rfl⟩:=hr;simp [ZFu]
  ·simp only [ZA0,List.mem_map] at h
   obtain ⟨i,_,rfl⟩:=h;simp only [ZFu,List.mem_append,List.mem_map,List.mem_singleton] at hz
   rcases hz with ⟨r,h1,rfl⟩ | rfl
   ·by_cases e:i < r.length
    ·exact hr2 r h1 _ (by simp [e])
    ·simp [Zaa6 (Nat.le_of_not_lt e)]
   ·by_cases e:i < g.length
    ·have:=hg2 (g.getD i 0) (by simp [e])
     omega
    ·simp [Zaa6 (Nat.le_of_not_lt e)]
structure Ac(w0:World)(G n k:Nat)(m:List (List Int))(f:Nat→Value)(w:World):Prop where
 bel:Below w0.heap.size w0 w
 hG:w0.heap.size≤G
 row:w.rowIs G 27 n f
 done:∀j,j < k→Sl 0 3 w (f j) (ZAB (m.getD j []))
 free:∀j,k≤j→j < n→f j=.slice none 0 0
theorem Ac.lt{w0 w:World}{G n k:Nat}{m:List (List Int)}{f:Nat→Value}(h:Ac w0 G n k m f w):G < w.heap.size:=by
 obtain ⟨c,a,_⟩:=h.row;exact (Zaa3.1 a).1
theorem ZQg{w w':World}{v:Value}{xs:List Value}{cur:Array Value}{G:Nat}(h:Sl 0 3 w v xs)(hc:Chg (fun b=>b=G) w w')(hG:w.heap[G]?=some (.cells cur 27 (0,0))):Sl 0 3 w' v xs:=
 h.move fun b hl ht=>⟨hc.block b hl (fun e=>by
  subst e
  rcases ht with ht | ⟨c,ht⟩
  ·omega
  ·rw [hG] at ht; simp at ht),ht⟩
structure Ai(wa:World)(G n k t:Nat)(f:Nat→Value)(l:List Int)(cur:Value)(w:World):Prop where
 chg:Chg (fun b=>b=G) wa w
 row:w.rowIs G 27 n (fun j=>if j=k then cur else f j)
 own:w.ownsRow wa.heap.size 3 1 cur t (ZAB l)
 len:l.length=t
theorem Ai.push{wa w w3:World}{G n k t:Nat}{f:Nat→Value}{l:List Int}{cur v':Value}{z:Int}(h:Ai wa G n k t f l cur w)(hG:G < wa.heap.size)(hk:k < n)
 (ho:w3.ownsRow wa.heap.size 3 1 v' (t+1) (ZAB l ++ [.int .i64 z]))(hg:(w.alloc (.cells #[.int .i64 z] 3)).grownBy w3 cur.ownBlock) :
  w3.cell? ⟨G,k,none⟩=some cur∧w3.frozen? ⟨G,k,none⟩=false∧Ai wa G n k (t+1) f (l ++ [z]) v' (w3.setCell ⟨G,k,none⟩ v'):=by
 have r:=h.chg.size
 have d:∀b,b < wa.heap.size→w3.heap[b]?=w.heap[b]?:=fun b hb=>by
  rw [hg.block b (by simp; omega) (fun e=>by have:=(h.own.lt b e.symm).1; omega)]
  exact Below.heap_alloc _ _ _ (by omega)
 have a:w3.rowIs G 27 n (fun j=>if j=k then cur else f j):=by
  obtain ⟨c,g,o,p⟩:=h.row;exact ⟨c,(d G hG).trans g,o,p⟩
 refine ⟨?_,a.frozen k,?_,?_,?_,?_⟩
 ·have:=a.cell (i:=k) hk
  simpa using this
 ·have m:=hg.size
  simp at m
  refine Chg.setCell ⟨(hg.os).trans h.chg.os,(hg.tape).trans h.chg.tape,(hg.output).trans h.chg.output,by omega,fun b hb hn=>(d b hb).trans (h.chg.block b hb hn)⟩ rfl _
 ·have:=a.set k v'
  refine cast ?_ this
  congr 1
  funext j
  by_cases e:j=k <;> simp [e]
 ·rw [←ZDz]
  refine ownsRow_setCell_other ho (fun e=>?_) _
  have:=(ho.lt _ e).1;simp at this;omega
 ·simp [h.len]
theorem Ac.next{W0 wa w:World}{G n k T:Nat}{m:List (List Int)}{f:Nat→Value}{l:List Int}{cur:Value}(h:Ac W0 G n k m f wa)(hi:Ai wa G n k T f l cur w)(hm:m.getD k []=l) :
  Ac W0 G n (k+1) m (fun j=>if j=k then cur else f j) w:=by
 have a:=h.bel;have hG:=h.hG;obtain ⟨c,d,_⟩:=h.row
 refine ⟨⟨hi.chg.os.trans a.os,hi.chg.tape.trans a.tape,hi.chg.output.trans a.output,Zaa8 a.size hi.chg.size,fun b hlt=>(hi.chg.block b (by have:=a.size; omega) (by omega)).trans (a.block b hlt)⟩,hG,hi.row,fun j hj=>?_,fun j d h2=>?_⟩
 ·by_cases e:j=k
  ·subst e
   simp only [if_true];rw [hm];exact Sl.own hi.own
  ·simp only [e,if_false]
   exact ZQg (h.done j (by omega)) hi.chg d
 ·simp only [show j≠k by omega,if_false]
  exact h.free j (by omega) h2
theorem Sl.cut{B n c:Nat}{w:World}{a:Addr}{zs:List Int}(h:Sl B 3 w (.slice (some a) zs.length c) (ZAB zs))(hn:n≤zs.length):Sl B 3 w (.slice (some a) n n) (ZAB (zs.take n)):=by
 obtain ⟨r,j,hv,l,t,p,s⟩:=h;simp only [Za3] at hv;obtain ⟨rfl,_,rfl⟩:=hv;simp at l
 refine ⟨some a,n,by simp; omega,by simp; omega,by omega,fun i hi=>?_,fun h=>by cases h⟩
 have d:i < n:=by simp at hi; omega
 obtain ⟨b,o,m,g,f⟩:=p i (by simp; omega)
 refine ⟨b,o,m,?_,f⟩
 rw [g,ZAZ _ _ (by omega),ZAZ _ _ (by simp; omega)]
 simp [d]
theorem ZPH{w:World}{R:Nat}{t:TypeId}{cur:Array Value}{v:Value}{xs:List Value}(h:Sl 0 3 w v xs)(hR:w.heap[R]?=some (.cells cur t (0,0)))(ht:t≠3)(a b c:Value) :
  Sl 0 3 (((w.setCell ⟨R,0,none⟩ a).setCell ⟨R,1,none⟩ b).setCell ⟨R,2,none⟩ c) v xs:=
 h.move fun k hl hk=>⟨by
  have d:k≠R:=fun e=>by
   subst e
   rcases hk with hk | ⟨c,hk⟩
   ·omega
   ·rw [hR] at hk; simp at hk; exact ht hk.2
  rw [Below.heap_setCell _ _ _ _ d,Below.heap_setCell _ _ _ _ d,Below.heap_setCell _ _ _ _ d],hk⟩
theorem Ac.mat{W0 w:World}{G:Nat}{g:List Int}{rs:List (List Int)}{f:Nat→Value}{B:Nat}(h:Ac W0 G g.length g.length (ZA0 g rs) f w)(h5:g.length≤5):Mat B 27 3 w (.slice (some ⟨G,0,none⟩) g.length g.length) (ZA0 g rs):=by
 have a:(ZA0 g rs).length=g.length:=by simp [ZA0]
 refine ⟨(List.range g.length).map f,by simp [a],Sl.row h.row (by simp) (by unfold maxLen; omega) (fun i hi=>by simp [hi]),fun i hi=>?_⟩
 rw [a] at hi
 have e:((List.range g.length).map f).getD i (.slice none 0 0)=f i:=by simp [hi]
 rw [e];exact (h.done i hi).more (Za5 _)
theorem Touch.below{g M:Nat}{w w2 wr:World}(h:Touch g w2 wr)(hb:Below M w w2)(hg:M≤g):Below M w wr:=
 ⟨h.os.trans hb.os,h.tape.trans hb.tape,h.output.trans hb.output,by rw [h.size]; exact hb.size,fun b hlt=>(h.block b (by omega)).trans (hb.block b hlt)⟩
def ZC9(a x:List Int):Int:=Lin.sumN a.length fun i=>a.getD i 0*x.getD i 0
theorem ZAj{l:List Int}{i:Nat}(h:i < l.length):l.getD i 0∈l:=by simp [h]
theorem ZPI(c:Nat)(rows:List (List Int)):(muL c rows).length=c:=by simp [muL]
theorem ZAy{c:Nat}{m:List (List Int)}(h:ZAp c m=true):(ZAO c m).length=c:=by
 unfold ZAp at h;unfold ZAO;rw [if_pos (of_decide_eq_true h),ZHp,ZHo,ZPI]
theorem ZOX{l:List Int}{b:Nat}(h:∀z∈l,z.natAbs≤b):∀z∈Lin.upr l,z.natAbs≤b:=by
 intro z a;unfold Lin.upr at a
 split at a
 ·simp only [List.mem_map] at a
  obtain ⟨y,c,rfl⟩:=a;rw [Int.natAbs_neg]; exact h y c
 ·exact h z a
theorem ZNC{c:Nat}{m:List (List Int)}(hx:Mx c 60 m)(hl:(ZAJ c m).length+1=c):∀z∈muL c (ZAJ c m),z.natAbs≤1000000000000:=by
 intro z d;simp only [muL,List.mem_map,List.mem_range] at d;obtain ⟨k,o,rfl⟩:=d;unfold Lin.mu;rw [Int.natAbs_mul]
 have g:(Lin.ngo k).natAbs=1:=by rw [ZEG]; by_cases e:k % 2=1 <;> simp [e]
 rw [g,Nat.one_mul,ZA1]
 have p:Lin.fb 60 5=93312000000:=by decide
 have i:Lin.fb 60 (ZAJ c m).length≤Lin.fb 60 5:=ZAz (by decide) (by have:=hx.c5; omega)
 have f:=Lin.od_bd (n:=(ZAJ c m).length) (B:=60) (Lin.cols (fm (ZAJ c m)) (Lin.skp k)) (fun _=>false) (fun r hr j hj=>by
  simp only [Lin.cols,fm,List.mem_map] at hr;obtain ⟨_,⟨l,a,rfl⟩,rfl⟩:=hr
  by_cases hi:Lin.skp k j < l.length
  ·exact hx.bd l (ZBU a) _ (by simp [hi])
  ·simp only [Za2]; rw [Zaa6 (by omega)]; simp) (by rw [Lin.cu_none]; simp [Lin.cols,fm])
 have b:(Lin.cols (fm (ZAJ c m)) (Lin.skp k)).length=(ZAJ c m).length:=by simp [Lin.cols,fm]
 rw [b] at f;omega
theorem ZCn{c:Nat}{m:List (List Int)}(hx:Mx c 60 m):∀z∈ZAO c m,z.natAbs≤1000000000000:=by
 intro z a;unfold ZAO at a
 split at a
 ·rename_i hl
  exact ZOX (ZFL (ZNC hx hl)) z a
 ·simp at a
theorem ZFv{c B:Nat}{m:List (List Int)}(hb:∀r∈m,∀z∈r,z.natAbs≤B):∀z∈ZAO c m,z.natAbs≤Lin.fb B (c-1):=by
 intro z a;unfold ZAO at a
 split at a
 ·rename_i hl
  refine ZOX (ZFL ?_) z a;intro z a;simp only [muL,List.mem_map,List.mem_range] at a;obtain ⟨k,g,rfl⟩:=a;unfold Lin.mu;rw [Int.natAbs_mul]
  have f:(Lin.ngo k).natAbs=1:=by rw [ZEG]; by_cases e:k % 2=1 <;> simp [e]
  rw [f,Nat.one_mul,ZA1]
  have hb:=Lin.od_bd (n:=(ZAJ c m).length) (B:=B) (Lin.cols (fm (ZAJ c m)) (Lin.skp k)) (fun _=>false) (fun r hr j hj=>by
   simp only [Lin.cols,fm,List.mem_map] at hr;obtain ⟨_,⟨l,b,rfl⟩,rfl⟩:=hr
   by_cases hi:Lin.skp k j < l.length
   ·exact hb l (ZBU b) _ (by simp [hi])
   ·simp only [Za2]; rw [Zaa6 (by omega)]; simp) (by rw [Lin.cu_none]; simp [Lin.cols,fm])
  have d:(Lin.cols (fm (ZAJ c m)) (Lin.skp k)).length=(ZAJ c m).length:=by simp [Lin.cols,fm]
  rw [d] at hb
  rw [show c-1=(ZAJ c m).length by omega]
  exact hb
 ·simp at a
end Go.Proofs.YtkjkfceblmgogaaGreat
namespace Go.Proofs.YtkjkfceblmgogaaGreat
open Lin
def V(l:List Int):Nat→Int:=fun j=>l.getD j 0
theorem ZKk(l:List Int)(i:Nat):V (l.map fun z=>-z) i=- V l i:=by
 simp only [V,Za2,List.getElem?_map]
 cases l[i]? <;> simp
theorem ZCF{m:List (List Int)}{r:Nat→Int} : r∈fm m↔∃l∈m,r=V l:=by
 simp only [fm,List.mem_map]
 constructor
 ·rintro ⟨l,a,rfl⟩; exact ⟨l,a,rfl⟩
 ·rintro ⟨l,a,rfl⟩; exact ⟨l,a,rfl⟩
theorem ZND{d:Nat}{m:List (List Int)}(hl:(ZAJ d m).length+1=d):∃k:Int,k≠0∧∀i,i < d→mu (fm (ZAJ d m)) i=k*V (ZAO d m) i:=by
 have v:=ZA4 d m
 have n:(fm (ZAJ d m)).length+1=d:=by rw [ZA1]; exact hl
 obtain ⟨⟨p,o,g⟩,_,_⟩:=ZFF v n;have t:ZAO d m=upr (low (muL d (ZAJ d m))):=if_pos hl;rw [t]
 have b:∀i,i < d→V (muL d (ZAJ d m)) i=mu (fm (ZAJ d m)) i:=fun i hi=>by simp [V,muL,hi]
 generalize muL d (ZAJ d m)=l at *
 have f:∀i,i < d→V l i∈l∨V l i=0:=fun i _=>by
  by_cases h:i < l.length
  ·exact Or.inl (ZAj h)
  ·right; simp only [V,Za2]; rw [Zaa6 (by omega)]; rfl
 have c:∀i,i < d→((gc l:Nat):Int) ∣ V l i:=fun i hi=>by
  rcases f i hi with h | h
  ·exact gc_dvd h
  ·rw [h]; exact Int.dvd_zero _
 have j:((gc l:Nat):Int)≠0:=by
  intro x;have r:=c p o;rw [x] at r;have s:=Int.zero_dvd.1 r;rw [b p o] at s;exact g s
 have a:∀i,i < d→V l i=((gc l:Nat):Int)*V (low l) i:=fun i hi=>by
  have e:V (low l) i=V l i / ((gc l:Nat):Int):=by
   simp only [V,low,Za2,List.getElem?_map]
   cases l[i]? <;> simp
  rw [e,Int.mul_ediv_cancel' (c i hi)]
 unfold upr
 split
 ·refine ⟨-((gc l:Nat):Int),by omega,fun i hi=>?_⟩
  rw [ZKk,←b i hi,a i hi]; grind
 ·exact ⟨((gc l:Nat):Int),j,fun i hi=>by rw [←b i hi,a i hi]⟩
theorem ZGm(l:List Int):0≤((upr l).find? (fun v=>v != 0)).getD 0:=by
 unfold upr
 split
 ·rename_i h
  rw [ZIe];omega
 ·rename_i h
  omega
theorem ZBc{d:Nat}{m:List (List Int)}(hl:(ZAJ d m).length+1=d) :
  (∃i,i < d∧V (ZAO d m) i≠0)∧(∀r∈m,dot d (V r) (V (ZAO d m))=0)∧∀u:Nat→Int,(∀r∈m,dot d (V r) u=0)→Par d u (V (ZAO d m)):=by
 have c:(fm (ZAJ d m)).length+1=d:=by rw [ZA1]; exact hl
 obtain ⟨⟨p,g,b⟩,n,o⟩:=ZFF (ZA4 d m) c;obtain ⟨k,f,a⟩:=ZND hl
 refine ⟨⟨p,g,fun e=>b (by rw [a p g,e,Int.mul_zero])⟩,fun r hr=>?_,fun u hu i j hi hj=>?_⟩
 ·have h:=n (V r) (ZCF.2 ⟨r,hr,rfl⟩)
  have e:dot d (V r) (mu (fm (ZAJ d m)))=k*dot d (V r) (V (ZAO d m)):=by
   unfold dot;rw [←ZAV]
   exact ZAC fun i hi=>by rw [a i hi]; grind
  rw [e] at h;exact (Int.mul_eq_zero.1 h).resolve_left f
 ·have h:=o u (fun r hr=>by
   obtain ⟨l,hl,rfl⟩:=ZCF.1 hr;exact hu l hl) i j hi hj
  rw [a i hi,a j hj] at h
  have:k*(u i*V (ZAO d m) j)=k*(u j*V (ZAO d m) i):=by grind
  exact Int.eq_of_mul_eq_mul_left f this
theorem ZIq{g:List Int}{rs:List (List Int)} : ZBN g rs=true↔∃a:Nat→Int,(∀i,i < rs.length+1→0 < a i)∧(∀r∈ZA0 g rs,dot (rs.length+1) (V r) a=0)∧
  ∀u:Nat→Int,(∀r∈ZA0 g rs,dot (rs.length+1) (V r) u=0)→Par (rs.length+1) u a:=by
 constructor
 ·intro h
  unfold ZBN at h;rw [Bool.and_eq_true] at h;obtain ⟨n,O⟩:=h
  have y:(ZAJ (rs.length+1) (ZA0 g rs)).length+1=rs.length+1:=by simpa [ZAp] using n
  obtain ⟨_,v,B⟩:=ZBc y
  refine ⟨V (ZAO (rs.length+1) (ZA0 g rs)),fun i d=>?_,v,B⟩
  have c:=ZAy n
  have N:(ZAO (rs.length+1) (ZA0 g rs)).getD i 0∈ZAw g rs:=ZAj (by unfold ZAw; rw [c]; exact d)
  have m:(ZAw g rs).any ZE6=false:=by simpa using O
  rw [List.any_eq_false] at m;have:=m _ N;simp only [ZE6,decide_eq_true_eq] at this
  show 0 < (ZAO (rs.length+1) (ZA0 g rs)).getD i 0
  omega
 ·rintro ⟨a,b,F,v⟩
  have P:=ZA4 (rs.length+1) (ZA0 g rs)
  have x:=ZDh P (a:=a) ⟨0,by omega,by have:=b 0 (by omega); omega⟩ (fun r hr=>by
   obtain ⟨l,y,rfl⟩:=ZCF.1 hr
   exact F l y) (fun u hu=>v u (fun r hr=>hu (V r) (ZCF.2 ⟨r,hr,rfl⟩)))
  rw [ZA1] at x
  have n:ZAp (rs.length+1) (ZA0 g rs)=true:=by simpa [ZAp] using x
  obtain ⟨⟨p,E,D⟩,B,_⟩:=ZBc x;have f:=v _ B;have c:=ZAy n
  have A:V (ZAO (rs.length+1) (ZA0 g rs)) 0≠0:=fun e=>by
   have j:=f p 0 E (by omega)
   rw [e,Int.zero_mul] at j
   have:=b 0 (by omega)
   rcases Int.mul_eq_zero.1 j with h | h
   ·exact D h
   ·omega
  have M:0 < V (ZAO (rs.length+1) (ZA0 g rs)) 0:=by
   have j:=ZGm (low (muL (rs.length+1) (ZAJ (rs.length+1) (ZA0 g rs))));have o:upr (low (muL (rs.length+1) (ZAJ (rs.length+1) (ZA0 g rs))))=ZAO (rs.length+1) (ZA0 g rs):=(if_pos x).symm
   rw [o,find_at (t:=0) (by rw [c]; omega) (fun i d=>absurd d (by omega)) A] at j
   have:V (ZAO (rs.length+1) (ZA0 g rs)) 0=(ZAO (rs.length+1) (ZA0 g rs)).getD 0 0:=rfl;omega
  have s:∀i,i < rs.length+1→0 < V (ZAO (rs.length+1) (ZA0 g rs)) i:=fun i d=>by
   have j:=f i 0 d (by omega)
   have o:=b 0 (by omega)
   have L:=b i d
   have J:0 < V (ZAO (rs.length+1) (ZA0 g rs)) i*a 0:=by rw [j]; exact Int.mul_pos M L
   exact Int.pos_of_mul_pos_left J o
  unfold ZBN;rw [Bool.and_eq_true];refine ⟨n,?_⟩
  have:(ZAw g rs).any ZE6=false:=by
   rw [List.any_eq_false];intro z G;obtain ⟨i,d,rfl⟩:=List.getElem_of_mem G
   have j:=s i (by unfold ZAw at d; omega)
   have o:V (ZAO (rs.length+1) (ZA0 g rs)) i=(ZAw g rs)[i]:=by
    show (ZAw g rs).getD i 0=_
    simp [d]
   rw [o] at j;simp only [ZE6,decide_eq_true_eq];omega
  simp [this]
end Go.Proofs.YtkjkfceblmgogaaGreat
