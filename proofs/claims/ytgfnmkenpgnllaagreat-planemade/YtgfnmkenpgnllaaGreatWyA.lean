import Derived.Test.YtgfnmkenpgnllaaGreatWay0
import Derived.Test.YtgfnmkenpgnllaaGreatOwnA
import Derived.Test.YtgfnmkenpgnllaaGreatOfAll
set_option maxRecDepth 100000
set_option maxHeartbeats 400000
namespace Go.Proofs.YtgfnmkenpgnllaaGreat
open Go.RowKit
attribute [local go_sem ↓] Go.wp_at_zero Go.wp_at_succ
def ZHe(rs:List (List Int))(g:List Int)(i:Nat):List Int:=rs.map (fun r=>r.getD i 0) ++ [-(g.getD i 0)]
def ZA4(g:List Int)(rs:List (List Int)):List (List Int):=(List.range g.length).map (ZHe rs g)
def ZAv(g:List Int)(rs:List (List Int)):List Int:=ZAR (rs.length+1) (ZA4 g rs)
def ZBP(g:List Int)(rs:List (List Int)):Bool:=ZAp (rs.length+1) (ZA4 g rs) && !(ZAv g rs).any ZE0
theorem ZHf{g:List Int}{rs:List (List Int)}(hr:∀r∈rs,∀z∈r,z.natAbs≤60)(hg:∀z∈g,z.natAbs≤60)(h4:rs.length≤4):Mx (rs.length+1) 60 (ZA4 g rs):=by
 refine ⟨fun r hr=>?_,fun r h z hz=>?_,by omega,by omega,by decide,Zaa8 (ZBG (by decide) (show _≤5 by omega)) (by decide)⟩
 ·simp only [ZA4,List.mem_map] at hr
  obtain ⟨i,_,rfl⟩:=hr;simp [ZHe]
 ·simp only [ZA4,List.mem_map] at h
  obtain ⟨i,_,rfl⟩:=h;simp only [ZHe,List.mem_append,List.mem_map,List.mem_singleton] at hz
  rcases hz with ⟨r,h1,rfl⟩ | rfl
  ·by_cases e:i < r.length
   ·exact hr r h1 _ (by simp [e])
   ·simp [Zaa6 (Nat.le_of_not_lt e)]
  ·by_cases e:i < g.length
   ·have:=hg (g.getD i 0) (by simp [e])
    omega
   ·simp [Zaa6 (Nat.le_of_not_lt e)]
structure Ac(w0:World)(G n k:Nat)(m:List (List Int))(f:Nat→Value)(w:World):Prop where
 bel:Below w0.heap.size w0 w
 hG:w0.heap.size≤G
 row:w.rowIs G 22 n f
 done:∀j,j < k→Sl 0 3 w (f j) (ZAB (m.getD j []))
 free:∀j,k≤j→j < n→f j=.slice none 0 0
theorem Ac.lt{w0 w:World}{G n k:Nat}{m:List (List Int)}{f:Nat→Value}(h:Ac w0 G n k m f w):G < w.heap.size:=by
 obtain ⟨c,a,_⟩:=h.row;exact (Zaa3.1 a).1
theorem ZQE{w w':World}{v:Value}{xs:List Value}{cur:Array Value}{G:Nat}(h:Sl 0 3 w v xs)(hc:Chg (fun b=>b=G) w w')(hG:w.heap[G]?=some (.cells cur 22 (0,0))):Sl 0 3 w' v xs:=
 h.move fun b hl ht=>⟨hc.block b hl (fun e=>by
  subst e
  rcases ht with ht | ⟨c,ht⟩
  ·omega
  ·rw [hG] at ht; simp at ht),ht⟩
structure Ai(wa:World)(G n k t:Nat)(f:Nat→Value)(l:List Int)(cur:Value)(w:World):Prop where
 chg:Chg (fun b=>b=G) wa w
 row:w.rowIs G 22 n (fun j=>if j=k then cur else f j)
 own:w.ownsRow wa.heap.size 3 1 cur t (ZAB l)
 len:l.length=t
theorem Ai.push{wa w w3:World}{G n k t:Nat}{f:Nat→Value}{l:List Int}{cur v':Value}{z:Int}(h:Ai wa G n k t f l cur w)(hG:G < wa.heap.size)(hk:k < n)
 (ho:w3.ownsRow wa.heap.size 3 1 v' (t+1) (ZAB l ++ [.int .i64 z]))(hg:(w.alloc (.cells #[.int .i64 z] 3)).grownBy w3 cur.ownBlock) :
  w3.cell? ⟨G,k,none⟩=some cur∧w3.frozen? ⟨G,k,none⟩=false∧Ai wa G n k (t+1) f (l ++ [z]) v' (w3.setCell ⟨G,k,none⟩ v'):=by
 have r:=h.chg.size
 have d:∀b,b < wa.heap.size→w3.heap[b]?=w.heap[b]?:=fun b hb=>by
  rw [hg.block b (by simp; omega) (fun e=>by have:=(h.own.lt b e.symm).1; omega)]
  exact Below.heap_alloc _ _ _ (by omega)
 have a:w3.rowIs G 22 n (fun j=>if j=k then cur else f j):=by
  obtain ⟨c,g,p,o⟩:=h.row;exact ⟨c,(d G hG).trans g,p,o⟩
 refine ⟨?_,a.frozen k,?_,?_,?_,?_⟩
 ·have:=a.cell (i:=k) hk
  simpa using this
 ·have m:=hg.size
  simp at m
  refine Chg.setCell ⟨(hg.os).trans h.chg.os,(hg.tape).trans h.chg.tape,(hg.output).trans h.chg.output,by omega,fun b hb hn=>(d b hb).trans (h.chg.block b hb hn)⟩ rfl _
 ·have:=a.set k v'
  refine cast ?_ this
  congr 1
  funext j
  by_cases e:j=k <;> simp [e]
 ·rw [←ZD2]
  refine ownsRow_setCell_other ho (fun e=>?_) _
  have:=(ho.lt _ e).1;simp at this;omega
 ·simp [h.len]
theorem Ac.next{W0 wa w:World}{G n k T:Nat}{m:List (List Int)}{f:Nat→Value}{l:List Int}{cur:Value}(h:Ac W0 G n k m f wa)(hi:Ai wa G n k T f l cur w)(hm:m.getD k []=l) :
  Ac W0 G n (k+1) m (fun j=>if j=k then cur else f j) w:=by
 have a:=h.bel;have hG:=h.hG;obtain ⟨d,c,_⟩:=h.row
 refine ⟨⟨hi.chg.os.trans a.os,hi.chg.tape.trans a.tape,hi.chg.output.trans a.output,Zaa8 a.size hi.chg.size,fun b hlt=>(hi.chg.block b (by have:=a.size; omega) (by omega)).trans (a.block b hlt)⟩,hG,hi.row,fun j hj=>?_,fun j c h2=>?_⟩
 ·by_cases e:j=k
  ·subst e
   simp only [if_true];rw [hm];exact Sl.own hi.own
  ·simp only [e,if_false]
   exact ZQE (h.done j (by omega)) hi.chg c
 ·simp only [show j≠k by omega,if_false]
  exact h.free j (by omega) h2
theorem Sl.cut{B n c:Nat}{w:World}{a:Addr}{zs:List Int}(h:Sl B 3 w (.slice (some a) zs.length c) (ZAB zs))(hn:n≤zs.length):Sl B 3 w (.slice (some a) n n) (ZAB (zs.take n)):=by
 obtain ⟨s,p,hv,f,t,g,r⟩:=h;simp only [Za3] at hv;obtain ⟨rfl,_,rfl⟩:=hv;simp at f
 refine ⟨some a,n,by simp; omega,by simp; omega,by omega,fun i hi=>?_,fun h=>by cases h⟩
 have d:i < n:=by simp at hi; omega
 obtain ⟨b,o,l,j,m⟩:=g i (by simp; omega)
 refine ⟨b,o,l,?_,m⟩
 rw [j,ZAa _ _ (by omega),ZAa _ _ (by simp; omega)]
 simp [d]
theorem ZOr{w:World}{R:Nat}{t:TypeId}{cur:Array Value}{v:Value}{xs:List Value}(h:Sl 0 3 w v xs)(hR:w.heap[R]?=some (.cells cur t (0,0)))(ht:t≠3)(a b c:Value) :
  Sl 0 3 (((w.setCell ⟨R,0,none⟩ a).setCell ⟨R,1,none⟩ b).setCell ⟨R,2,none⟩ c) v xs:=
 h.move fun k hl hk=>⟨by
  have d:k≠R:=fun e=>by
   subst e
   rcases hk with hk | ⟨c,hk⟩
   ·omega
   ·rw [hR] at hk; simp at hk; exact ht hk.2
  rw [Below.heap_setCell _ _ _ _ d,Below.heap_setCell _ _ _ _ d,Below.heap_setCell _ _ _ _ d],hk⟩
theorem Ac.mat{W0 w:World}{G:Nat}{g:List Int}{rs:List (List Int)}{f:Nat→Value}{B:Nat}(h:Ac W0 G g.length g.length (ZA4 g rs) f w)(h5:g.length≤5):Mat B 22 3 w (.slice (some ⟨G,0,none⟩) g.length g.length) (ZA4 g rs):=by
 have a:(ZA4 g rs).length=g.length:=by simp [ZA4]
 refine ⟨(List.range g.length).map f,by simp [a],Sl.row h.row (by simp) (by unfold maxLen; omega) (fun i hi=>by simp [hi]),fun i hi=>?_⟩
 rw [a] at hi
 have e:((List.range g.length).map f).getD i (.slice none 0 0)=f i:=by simp [hi]
 rw [e];exact (h.done i hi).more (Za5 _)
theorem Touch.below{g M:Nat}{w w2 wr:World}(h:Touch g w2 wr)(hb:Below M w w2)(hg:M≤g):Below M w wr:=
 ⟨h.os.trans hb.os,h.tape.trans hb.tape,h.output.trans hb.output,by rw [h.size]; exact hb.size,fun b hlt=>(h.block b (by omega)).trans (hb.block b hlt)⟩
def ZFo(z:Int):Prop:=-9223372036854775808≤z∧z≤9223372036854775807
theorem ZC8(c n:Int)(w:World)(h1:1≤n)(h2:n≤4611686018427387904)(hc:ZFo c) :
  Calls Tryz.prog 4 #[.int .i64 c,.int .i64 n] w fun e w'=>∃z,e=.returned (.int .i64 z)∧(0≤z∧z < n)∧w'=w:=by
 have i : -9223372036854775808≤c:=hc.1;have g:c≤9223372036854775807:=hc.2;clear hc
 have a:¬n=0:=by omega
 by_cases hcn:c < 0
 ·have f:(-(c+1)).tmod n=(-(c+1)) % n:=Int.tmod_eq_emod_of_nonneg (by omega)
  have b:=Int.emod_nonneg (-(c+1)) a
  have d:=Int.emod_lt_of_pos (-(c+1)) (show 0 < n by omega)
  go_enter Tryz.func4,Tryz.ntmps4;go_wp2;go_ret;exact ⟨_,rfl,⟨b,d⟩,rfl⟩
 ·have f:c.tmod n=c % n:=Int.tmod_eq_emod_of_nonneg (by omega)
  have b:=Int.emod_nonneg c a
  have d:=Int.emod_lt_of_pos c (show 0 < n by omega)
  go_enter Tryz.func4,Tryz.ntmps4;go_wp2;go_ret;exact ⟨_,rfl,⟨b,d⟩,rfl⟩
theorem ZFI{P:Program}{ops:Array Oper}{o:Oper}{a:Act}{w:World}{K:Act→World→Prop}{Q:Exit→Act→World→Prop}{E:Prop}
 (hg : o.guard = none)(f : FuncId)(x y : Operand)(t s : TypeId)(hop : o.op = Op.call { callee := Callee.value (Operand.func f), args := #[x, y], argTypes := #[t, s] })(v u : Value)(hv : a.eval x = v)(hu : a.eval y = u)(hf : ∃ fn, P.funcs[f]? = some fn ∧ (fn.name == "runtime.NumGoroutine") = false ∧ fn.body.isNone = false)
 (hc:Calls P f #[v,u] w fun e w'=>∃u,e=.returned u∧K (a.put o.dst u) w') :
  if Region.wanted o (yielded ops a.tmps)=true then Oper.wp P o a w K Q else E:=by
 have g:Region.wanted o (yielded ops a.tmps)=true:=by simp [Region.wanted,hg]
 rw [if_pos g];unfold Oper.wp;obtain ⟨fn,m,l,d⟩:=hf
 have e:(execOp a.eval o).run P w=.ok (.enter f #[v,u]) w:=by
  have c:a.eval (Operand.func f)=Value.func (Fn.func f) #[] #[]:=rfl
  have b:(callFunc f #[v,u]).run P w=.ok (.enter f #[v,u]) w:=by
   unfold callFunc
   have i : ¬ fn.name = "runtime.NumGoroutine" := by simpa using l
   have j:¬fn.body=none:=by intro e; rw [e] at d; simp at d
   simp [m,i,j]
  unfold execOp;rw [hop];simp [resolve,invoke,hv,hu,c,Deferred.ofValue,b]
 rw [e,Oper.upon_enter];refine hc.mono ?_;rintro e w' ⟨u,rfl,h⟩;exact h
theorem ZOs(B:Nat)(l:List Int)(v:Value)(i:Nat)(w:World)(hv:Sl B 3 w v (ZAB l))(hr:∀z∈l,ZFo z)(hl:l.length≤1000000)(hi:i≤1000000) :
  Calls Tryz.prog 23 #[v,.int .i64 i] w fun e w'=>∃z,e=.returned (.int .i64 z)∧(0≤z∧z≤4611686018427387904)∧Below w.heap.size w w':=by
 obtain ⟨P,L,f,p,E⟩:=ZAH hv;subst f
 by_cases h0:l.length=0
 ·rw [h0]
  clear hv;go_enter Tryz.func23,Tryz.ntmps23;go_wp2;go_ret
  exact ⟨_,rfl,by omega,Below.refl _ _⟩
 ·have j:i % l.length < l.length:=Nat.mod_lt _ (by omega)
  obtain ⟨b,o,N,m,O,G⟩:=ZAJ hv j;simp only [Za3] at m;obtain ⟨rfl,_,rfl⟩:=m
  have a:l.getD (i % l.length) 0∈l:=by simp [j]
  have d:ZFo (l.getD (i % l.length) 0):=hr _ a
  have t:Hid (Calls Tryz.prog 4 #[.int .i64 (l.getD (i % l.length) 0),.int .i64 1000003] w.drew fun e w'=>∃z,e=.returned (.int .i64 z)∧(0≤z∧z < 1000003)∧w'=w.drew):=ZC8 _ _ _ (by omega) (by omega) d
  generalize c:l.getD (i % l.length) 0=z0 at *;have s:i / l.length≤1000000:=Zaa8 (Nat.div_le_self _ _) hi
  have M:(i:Int).tmod (l.length:Int)=((i % l.length:Nat):Int):=by rw [Int.tmod_eq_emod_of_nonneg (by omega)]; rfl
  have r:(i:Int).tdiv (l.length:Int)=((i / l.length:Nat):Int):=by rw [Int.tdiv_eq_ediv_of_nonneg (by omega)]; rfl
  clear hv hr a d c;generalize i % l.length=k at *;generalize i / l.length=q at *;generalize l.length=n at *
  have g:¬(n:Int)=0:=by omega
  have A:((n:Int) == 0)=false:=by rw [beq_eq_false_iff_ne]; exact g
  have y:(0:Int)≤(k:Int):=by omega
  have F:(k:Int) < (n:Int):=by omega
  go_enter Tryz.func23,Tryz.ntmps23;go_wp2
  go_region_law (refine ZFI (o:={ dst:=some 17,op:=_,type:=_,pos:=_,after:=_,guard:=_ }) (by rfl) 4 _ _ 3 3 (by rfl) _ _ (by rfl) (by rfl) ⟨_,Tryz.func4,by rfl,by rfl⟩ ?_; refine (t.out).mono ?_; rintro e Q ⟨z,rfl,c,rfl⟩; refine ⟨_,rfl,?_⟩; have J:=c.1; have x:=c.2; clear c)
  all_goals
   have D:IntKind.i64.wrap (z+IntKind.i64.wrap (IntKind.i64.wrap (q:Int)*7919))=z+q*7919:=by
    rw [IntWalk.i64_left,IntWalk.i64_left,IntWalk.i64_left,IntWalk.wrap64_in (q:Int) ⟨by omega,by omega⟩,IntWalk.wrap64_in ((q:Int)*7919) ⟨by omega,by omega⟩,IntWalk.wrap64_in _ ⟨by omega,by omega⟩]
   go_wp2;go_ret
   exact ⟨_,rfl,by rw [D]; omega,Below.drew (Below.refl _ _)⟩
def Box(n wd:Nat)(m:List (List Int)):Prop:=∀r∈m,r.length=n∧∀z∈r,-(wd:Int)≤z∧z≤wd
theorem Box.snoc{n wd:Nat}{m:List (List Int)}{r:List Int}(h:Box n wd m)(h1:r.length=n)(h2:∀z∈r,-(wd:Int)≤z∧z≤wd):Box n wd (m ++ [r]):=by
 intro x a;simp only [List.mem_append,List.mem_singleton] at a
 rcases a with a | rfl
 ·exact h x a
 ·exact ⟨h1,h2⟩
theorem ZKU{wd:Nat}{r:List Int}{z:Int}(h:∀z∈r,-(wd:Int)≤z∧z≤wd)(h0 : -(wd:Int)≤z∧z≤wd):∀x∈r ++ [z],-(wd:Int)≤x∧x≤wd:=by
 intro x a;simp only [List.mem_append,List.mem_singleton] at a
 rcases a with a | rfl
 ·exact h x a
 ·exact h0
def ZC9(a x:List Int):Int:=Lin.sumN a.length fun i=>a.getD i 0*x.getD i 0
theorem ZAn{l:List Int}{i:Nat}(h:i < l.length):l.getD i 0∈l:=by simp [h]
theorem ZOt(c:Nat)(rows:List (List Int)):(muL c rows).length=c:=by simp [muL]
theorem ZAx{c:Nat}{m:List (List Int)}(h:ZAp c m=true):(ZAR c m).length=c:=by
 unfold ZAp at h;unfold ZAR;rw [if_pos (of_decide_eq_true h),ZHc,ZHb,ZOt]
theorem ZN7{l:List Int}{b:Nat}(h:∀z∈l,z.natAbs≤b):∀z∈Lin.upr l,z.natAbs≤b:=by
 intro z a;unfold Lin.upr at a
 split at a
 ·simp only [List.mem_map] at a
  obtain ⟨y,c,rfl⟩:=a;rw [Int.natAbs_neg]; exact h y c
 ·exact h z a
theorem ZMs{c:Nat}{m:List (List Int)}(hx:Mx c 60 m)(hl:(ZAK c m).length+1=c):∀z∈muL c (ZAK c m),z.natAbs≤1000000000000:=by
 intro z d;simp only [muL,List.mem_map,List.mem_range] at d;obtain ⟨k,p,rfl⟩:=d;unfold Lin.mu;rw [Int.natAbs_mul]
 have g:(Lin.ngo k).natAbs=1:=by rw [ZEJ]; by_cases e:k % 2=1 <;> simp [e]
 rw [g,Nat.one_mul,ZA0]
 have i:Lin.fb 60 5=93312000000:=by decide
 have o:Lin.fb 60 (ZAK c m).length≤Lin.fb 60 5:=ZBG (by decide) (by have:=hx.c5; omega)
 have f:=Lin.od_bd (n:=(ZAK c m).length) (B:=60) (Lin.cols (fm (ZAK c m)) (Lin.skp k)) (fun _=>false) (fun r hr j hj=>by
  simp only [Lin.cols,fm,List.mem_map] at hr;obtain ⟨_,⟨l,b,rfl⟩,rfl⟩:=hr
  by_cases hi:Lin.skp k j < l.length
  ·exact hx.bd l (ZBV b) _ (by simp [hi])
  ·simp only [Za2]; rw [Zaa6 (by omega)]; simp) (by rw [Lin.cu_none]; simp [Lin.cols,fm])
 have a:(Lin.cols (fm (ZAK c m)) (Lin.skp k)).length=(ZAK c m).length:=by simp [Lin.cols,fm]
 rw [a] at f;omega
theorem ZCN{c:Nat}{m:List (List Int)}(hx:Mx c 60 m):∀z∈ZAR c m,z.natAbs≤1000000000000:=by
 intro z a;unfold ZAR at a
 split at a
 ·rename_i hl
  exact ZN7 (ZFF (ZMs hx hl)) z a
 ·simp at a
end Go.Proofs.YtgfnmkenpgnllaaGreat
namespace Go.Proofs.YtgfnmkenpgnllaaGreat
open Lin
def V(l:List Int):Nat→Int:=fun j=>l.getD j 0
theorem ZKV(l:List Int)(i:Nat):V (l.map fun z=>-z) i=- V l i:=by
 simp only [V,Za2,List.getElem?_map]
 cases l[i]? <;> simp
theorem ZCE{m:List (List Int)}{r:Nat→Int} : r∈fm m↔∃l∈m,r=V l:=by
 simp only [fm,List.mem_map]
 constructor
 ·rintro ⟨l,a,rfl⟩; exact ⟨l,a,rfl⟩
 ·rintro ⟨l,a,rfl⟩; exact ⟨l,a,rfl⟩
theorem ZMt{d:Nat}{m:List (List Int)}(hl:(ZAK d m).length+1=d):∃k:Int,k≠0∧∀i,i < d→mu (fm (ZAK d m)) i=k*V (ZAR d m) i:=by
 have v:=ZAy d m
 have j:(fm (ZAK d m)).length+1=d:=by rw [ZA0]; exact hl
 obtain ⟨⟨p,r,f⟩,_,_⟩:=ZE9 v j;have t:ZAR d m=upr (low (muL d (ZAK d m))):=if_pos hl;rw [t]
 have b:∀i,i < d→V (muL d (ZAK d m)) i=mu (fm (ZAK d m)) i:=fun i hi=>by simp [V,muL,hi]
 generalize muL d (ZAK d m)=l at *
 have n:∀i,i < d→V l i∈l∨V l i=0:=fun i _=>by
  by_cases h:i < l.length
  ·exact Or.inl (ZAn h)
  ·right; simp only [V,Za2]; rw [Zaa6 (by omega)]; rfl
 have c:∀i,i < d→((gc l:Nat):Int) ∣ V l i:=fun i hi=>by
  rcases n i hi with h | h
  ·exact gc_dvd h
  ·rw [h]; exact Int.dvd_zero _
 have g:((gc l:Nat):Int)≠0:=by
  intro x;have o:=c p r;rw [x] at o;have s:=Int.zero_dvd.1 o;rw [b p r] at s;exact f s
 have a:∀i,i < d→V l i=((gc l:Nat):Int)*V (low l) i:=fun i hi=>by
  have e:V (low l) i=V l i / ((gc l:Nat):Int):=by
   simp only [V,low,Za2,List.getElem?_map]
   cases l[i]? <;> simp
  rw [e,Int.mul_ediv_cancel' (c i hi)]
 unfold upr
 split
 ·refine ⟨-((gc l:Nat):Int),by omega,fun i hi=>?_⟩
  rw [ZKV,←b i hi,a i hi]; grind
 ·exact ⟨((gc l:Nat):Int),g,fun i hi=>by rw [←b i hi,a i hi]⟩
theorem ZGc(l:List Int):0≤((upr l).find? (fun v=>v != 0)).getD 0:=by
 unfold upr
 split
 ·rename_i h
  rw [ZIT];omega
 ·rename_i h
  omega
theorem ZBc{d:Nat}{m:List (List Int)}(hl:(ZAK d m).length+1=d) :
  (∃i,i < d∧V (ZAR d m) i≠0)∧(∀r∈m,dot d (V r) (V (ZAR d m))=0)∧∀u:Nat→Int,(∀r∈m,dot d (V r) u=0)→Par d u (V (ZAR d m)):=by
 have c:(fm (ZAK d m)).length+1=d:=by rw [ZA0]; exact hl
 obtain ⟨⟨p,f,b⟩,n,o⟩:=ZE9 (ZAy d m) c;obtain ⟨k,g,a⟩:=ZMt hl
 refine ⟨⟨p,f,fun e=>b (by rw [a p f,e,Int.mul_zero])⟩,fun r hr=>?_,fun u hu i j hi hj=>?_⟩
 ·have h:=n (V r) (ZCE.2 ⟨r,hr,rfl⟩)
  have e:dot d (V r) (mu (fm (ZAK d m)))=k*dot d (V r) (V (ZAR d m)):=by
   unfold dot;rw [←ZAX]
   exact ZAC fun i hi=>by rw [a i hi]; grind
  rw [e] at h;exact (Int.mul_eq_zero.1 h).resolve_left g
 ·have h:=o u (fun r hr=>by
   obtain ⟨l,hl,rfl⟩:=ZCE.1 hr;exact hu l hl) i j hi hj
  rw [a i hi,a j hj] at h
  have:k*(u i*V (ZAR d m) j)=k*(u j*V (ZAR d m) i):=by grind
  exact Int.eq_of_mul_eq_mul_left g this
theorem ZId{g:List Int}{rs:List (List Int)} : ZBP g rs=true↔∃a:Nat→Int,(∀i,i < rs.length+1→0 < a i)∧(∀r∈ZA4 g rs,dot (rs.length+1) (V r) a=0)∧
  ∀u:Nat→Int,(∀r∈ZA4 g rs,dot (rs.length+1) (V r) u=0)→Par (rs.length+1) u a:=by
 constructor
 ·intro h
  unfold ZBP at h;rw [Bool.and_eq_true] at h;obtain ⟨n,E⟩:=h
  have B:(ZAK (rs.length+1) (ZA4 g rs)).length+1=rs.length+1:=by simpa [ZAp] using n
  obtain ⟨_,x,D⟩:=ZBc B
  refine ⟨V (ZAR (rs.length+1) (ZA4 g rs)),fun i d=>?_,x,D⟩
  have c:=ZAx n
  have L:(ZAR (rs.length+1) (ZA4 g rs)).getD i 0∈ZAv g rs:=ZAn (by unfold ZAv; rw [c]; exact d)
  have s:(ZAv g rs).any ZE0=false:=by simpa using E
  rw [List.any_eq_false] at s;have:=s _ L;simp only [ZE0,decide_eq_true_eq] at this
  show 0 < (ZAR (rs.length+1) (ZA4 g rs)).getD i 0
  omega
 ·rintro ⟨a,b,J,x⟩
  have N:=ZAy (rs.length+1) (ZA4 g rs)
  have v:=ZDj N (a:=a) ⟨0,by omega,by have:=b 0 (by omega); omega⟩ (fun r hr=>by
   obtain ⟨l,B,rfl⟩:=ZCE.1 hr
   exact J l B) (fun u hu=>x u (fun r hr=>hu (V r) (ZCE.2 ⟨r,hr,rfl⟩)))
  rw [ZA0] at v
  have n:ZAp (rs.length+1) (ZA4 g rs)=true:=by simpa [ZAp] using v
  obtain ⟨⟨p,F,y⟩,D,_⟩:=ZBc v;have f:=x _ D;have c:=ZAx n
  have A:V (ZAR (rs.length+1) (ZA4 g rs)) 0≠0:=fun e=>by
   have j:=f p 0 F (by omega)
   rw [e,Int.zero_mul] at j
   have:=b 0 (by omega)
   rcases Int.mul_eq_zero.1 j with h | h
   ·exact y h
   ·omega
  have M:0 < V (ZAR (rs.length+1) (ZA4 g rs)) 0:=by
   have j:=ZGc (low (muL (rs.length+1) (ZAK (rs.length+1) (ZA4 g rs))));have m:upr (low (muL (rs.length+1) (ZAK (rs.length+1) (ZA4 g rs))))=ZAR (rs.length+1) (ZA4 g rs):=(if_pos v).symm
   rw [m,find_at (t:=0) (by rw [c]; omega) (fun i d=>absurd d (by omega)) A] at j
   have:V (ZAR (rs.length+1) (ZA4 g rs)) 0=(ZAR (rs.length+1) (ZA4 g rs)).getD 0 0:=rfl;omega
  have o:∀i,i < rs.length+1→0 < V (ZAR (rs.length+1) (ZA4 g rs)) i:=fun i d=>by
   have j:=f i 0 d (by omega)
   have m:=b 0 (by omega)
   have P:=b i d
   have G:0 < V (ZAR (rs.length+1) (ZA4 g rs)) i*a 0:=by rw [j]; exact Int.mul_pos M P
   exact Int.pos_of_mul_pos_left G m
  unfold ZBP;rw [Bool.and_eq_true];refine ⟨n,?_⟩
  have:(ZAv g rs).any ZE0=false:=by
   rw [List.any_eq_false];intro z O;obtain ⟨i,d,rfl⟩:=List.getElem_of_mem O
   have j:=o i (by unfold ZAv at d; omega)
   have m:V (ZAR (rs.length+1) (ZA4 g rs)) i=(ZAv g rs)[i]:=by
    show (ZAv g rs).getD i 0=_
    simp [d]
   rw [m] at j;simp only [ZE0,decide_eq_true_eq];omega
  simp [this]
end Go.Proofs.YtgfnmkenpgnllaaGreat
