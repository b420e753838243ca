import Derived.Shelf.SlSortCmp.NoneTotal
import Derived.Test.YtgfnmkenpgnllaaGreatWiA
set_option maxRecDepth 100000
set_option maxHeartbeats 4000000
namespace Go.Proofs.YtgfnmkenpgnllaaGreat
open Go.RowKit
def ZCk(x y:Int):Int:=if x < y then -1 else if y < x then 1 else 0
def ZAl:List Int→List Int→Int
 | [],[]=>0
 | [],_ :: _=>-1
 | _ :: _,[]=>1
 | x :: xs,y :: ys=>if x < y then -1 else if y < x then 1 else ZAl xs ys
theorem ZDd(x:Int)(w:World):Calls Tryz.prog 94 #[.int .i64 x] w fun e w'=>e=.returned (.bool false)∧w'=w:=by
 have a:(x != x)=false:=by simp
 go_enter Tryz.func94,Tryz.ntmps94;go_wp2;go_ret
 exact ⟨ZAW (by simp),rfl⟩
theorem ZIw(x y:Int)(w:World):Calls Tryz.prog 63 #[.int .i64 x,.int .i64 y] w fun e w'=>e=.returned (.int .i64 (ZCk x y))∧w'=w:=by
 by_cases h1:x < y
 ·have a:Hid (ZCk x y=-1):=if_pos h1
  go_enter Tryz.func63,Tryz.ntmps63
  go_wp2_with fail
  refine (ZDd x w).mono ?_;rintro e b ⟨rfl,rfl⟩
  go_wp2_with fail
  refine (ZDd y b).mono ?_;rintro e c ⟨rfl,rfl⟩;go_wp2;go_ret
  exact ⟨by rw [a.out]; rfl,rfl⟩
 ·by_cases h2:y < x
  ·have a:Hid (ZCk x y=1):=by
    show _=_
    unfold ZCk; rw [if_neg h1,if_pos h2]
   go_enter Tryz.func63,Tryz.ntmps63
   go_wp2_with fail
   refine (ZDd x w).mono ?_;rintro e b ⟨rfl,rfl⟩
   go_wp2_with fail
   refine (ZDd y b).mono ?_;rintro e c ⟨rfl,rfl⟩;go_wp2;go_ret
   exact ⟨by rw [a.out]; rfl,rfl⟩
  ·have a:Hid (ZCk x y=0):=by
    show _=_
    unfold ZCk; rw [if_neg h1,if_neg h2]
   go_enter Tryz.func63,Tryz.ntmps63
   go_wp2_with fail
   refine (ZDd x w).mono ?_;rintro e b ⟨rfl,rfl⟩
   go_wp2_with fail
   refine (ZDd y b).mono ?_;rintro e c ⟨rfl,rfl⟩;go_wp2;go_ret
   exact ⟨by rw [a.out]; rfl,rfl⟩
theorem ZLP{x y:List Int}{k:Nat}(h1:k < x.length)(h2:k < y.length):ZAl (x.drop k) (y.drop k)=if ZCk (x.getD k 0) (y.getD k 0)=0 then ZAl (x.drop (k+1)) (y.drop (k+1)) else ZCk (x.getD k 0) (y.getD k 0):=by
 rw [List.drop_eq_getElem_cons h1,List.drop_eq_getElem_cons h2];simp only [ZAl,ZCk,Za2,Za9 h1,Za9 h2,Option.getD_some]
 by_cases a:x[k] < y[k]
 ·simp [a]
 ·by_cases b:y[k] < x[k]
  ·simp [a,b]
  ·simp [a,b]
theorem ZEl(B:Nat)(x y:List Int)(u v:Value)(w:World)(hu:Sl B 3 w u (ZAB x))(hv:Sl B 3 w v (ZAB y)) :
  Calls Tryz.prog 64 #[u,v] w fun e w'=>e=.returned (.int .i64 (ZAl x y))∧w'=w:=by
 obtain ⟨ao,S,m,E,N⟩:=ZAH hu;obtain ⟨O,n,p,D,M⟩:=ZAH hv;subst m p;have R:=hid hu;have J:Hid (Sl B 3 w (.slice O y.length n) (ZAB y)):=hv;clear hu hv;go_enter Tryz.func64,Tryz.ntmps64;go_wp2
 go_loopw [11] (fun i wr=>∃k:Nat,k≤x.length∧k≤y.length∧i=.int .i64 k∧ZAl x y=ZAl (x.drop k) (y.drop k)∧wr=w) (fun i _=>x.length-(intOf i).toNat)
 case atStart=>exact ⟨0,Za5 _,Za5 _,rfl,rfl,rfl⟩
 case round=>
  obtain ⟨k,Y,T,rfl,g,rfl⟩:=hrel;have l:=hid g;clear g
  by_cases hlt:k < x.length
  ·obtain ⟨b,o,U,A,Q,P⟩:=ZAJ R.out hlt
   simp only [Za3] at A;obtain ⟨rfl,_,rfl⟩:=A
   by_cases hlt2:k < y.length
   ·obtain ⟨V,o2,L,j,G,t⟩:=ZAJ J.out hlt2
    simp only [Za3] at j;obtain ⟨rfl,_,rfl⟩:=j
    have z:Hid (ZAl (x.drop k) (y.drop k)=if ZCk (x.getD k 0) (y.getD k 0)=0 then ZAl (x.drop (k+1)) (y.drop (k+1)) else ZCk (x.getD k 0) (y.getD k 0)):=ZLP hlt hlt2
    generalize x.getD k 0=a at *;generalize y.getD k 0=c at *
    go_wp2_with fail
    refine (ZIw a c wr).mono ?_;rintro e X ⟨rfl,rfl⟩;generalize ZCk a c=r at *
    by_cases hr:r=0
    ·have f:Hid (ZAl x y=ZAl (x.drop (k+1)) (y.drop (k+1))):=by
      show _=_
      rw [l.out,z.out,if_pos hr]
     have s:(r != 0)=false:=by simp [hr]
     clear hr;go_wp2
     go_roundw
     case rel=>exact ⟨k+1,by omega,by omega,by go_num,f.out,trivial⟩
     case measure=>simp [intOf]; omega
    ·have f:Hid (ZAl x y=r):=by
      show _=_
      rw [l.out,z.out,if_neg hr]
     have s:(r != 0)=true:=by simp [hr]
     clear hr;go_wp2;go_ret
     exact ⟨by rw [f.out]; rfl,rfl⟩
   ·have d:k=y.length:=by omega
    have f:Hid (ZAl x y=1):=by
     show _=_
     rw [l.out,d,List.drop_length,List.drop_eq_getElem_cons (by omega)]; rfl
    clear d;go_wp2;go_ret
    exact ⟨by rw [f.out]; rfl,rfl⟩
  ·have d:k=x.length:=by omega
   by_cases hxy:x.length < y.length
   ·have f:Hid (ZAl x y=-1):=by
     show _=_
     rw [l.out,d,List.drop_length,List.drop_eq_getElem_cons hxy]; rfl
    go_wp2;go_ret
    exact ⟨by rw [f.out]; rfl,rfl⟩
   ·have f:Hid (ZAl x y=0):=by
     show _=_
     have F:y.drop k=[]:=List.drop_eq_nil_of_le (by omega)
     rw [l.out,F,d,List.drop_length]; rfl
    go_wp2;go_ret
    exact ⟨by rw [f.out]; rfl,rfl⟩
theorem ZGx(B:Nat)(x y:List Int)(u v:Value)(w:World)(hu:Sl B 3 w u (ZAB x))(hv:Sl B 3 w v (ZAB y)) :
  Calls Tryz.prog 112 #[u,v] w fun e w'=>e=.returned (.bool (x == y))∧∃n,w'=w.drewN n:=by
 have D:=hu;have z:=hv;obtain ⟨ao,T,c,m,t,-⟩:=D;obtain ⟨P,A,g,l,s,-⟩:=z;simp only [ZA1] at m c l g;subst c g;have S:=hid hu;have L:Hid (Sl B 3 w (.slice P y.length A) (ZAB y)):=hv;clear hu hv;unfold maxLen at t s
 by_cases hl:x.length=y.length
 ·have p:((x.length:Int) != (y.length:Int))=false:=by simp [hl]
  have M:=hid hl
  have O:y.length≤x.length:=by omega
  have U:x.length≤y.length:=by omega
  clear hl;go_enter Tryz.func112,Tryz.ntmps112;go_wp2
  go_loopw [13] (fun i wr=>∃k:Nat,k≤x.length∧i=.int .i64 k∧(∀j,j < k→x.getD j 0=y.getD j 0)∧∃n,wr=w.drewN n) (fun i _=>x.length-(intOf i).toNat)
  case atStart=>exact ⟨0,Za5 _,rfl,fun j hj=>absurd hj (by omega),0,rfl⟩
  case round=>
   obtain ⟨k,Y,rfl,d,n,rfl⟩:=hrel;have F:=hid d;clear d
   by_cases hlt:k < x.length
   ·have a:k < y.length:=by omega
    obtain ⟨b,o,V,G,R,Q⟩:=ZAJ S.out hlt;simp only [Za3] at G;obtain ⟨rfl,_,rfl⟩:=G;obtain ⟨X,o2,N,f,J,E⟩:=ZAJ L.out a;simp only [Za3] at f;obtain ⟨rfl,_,rfl⟩:=f;go_wp2
    go_quiet (fail)
    go_wp2
    ·have r:(x[k] != y[k])=true:=by assumption
     go_ret
     refine ⟨ZAW (Eq.symm ?_),n+nq,by rw [World.drewN_drewN]⟩
     rw [beq_eq_false_iff_ne];rintro rfl;simp at r
    ·have r:(x[k] != y[k])=false:=by assumption
     go_roundw
     case rel=>
      refine ⟨k+1,by omega,by go_num,fun j hj=>?_,_,rfl⟩
      by_cases hjk:j < k
      ·exact F.out j hjk
      ·have:j=k:=by omega
       subst this
       simpa [hlt,a] using r
     case measure=>simp [intOf]; omega
   ·go_wp2
    go_ret;refine ⟨ZAW (Eq.symm ?_),_,rfl⟩;rw [beq_iff_eq]
    exact ZGK M.out fun i hi=>F.out i (by omega)
 ·have p:((x.length:Int) != (y.length:Int))=true:=by simp; omega
  go_enter Tryz.func112,Tryz.ntmps112;go_wp2;go_ret;refine ⟨ZAW (Eq.symm ?_),0,rfl⟩;rw [beq_eq_false_iff_ne];rintro rfl;exact hl rfl
end Go.Proofs.YtgfnmkenpgnllaaGreat
namespace Go.Proofs
open Go.Shelf Go.RowKit Go.Lib Go.Sort
shelf_lay_g SlLaysF.n6 Slsf 6 at Tryz 110 as Tryz.sortM
end Go.Proofs
namespace Go.Proofs.YtgfnmkenpgnllaaGreat
open Go.RowKit
theorem Fr.mono{B B':Nat}{w:World}{v:Value}{m:List (List Int)}(h:Fr B 22 3 w v m)(hB:B'≤B):Fr B' 22 3 w v m:=by
 obtain ⟨c,a,b,d⟩:=h;exact ⟨c,a,b.mono hB,d⟩
end Go.Proofs.YtgfnmkenpgnllaaGreat
namespace Go.Proofs.YtgfnmkenpgnllaaGreat
open Go.RowKit
attribute [local go_sem ↓] Go.wp_at_zero Go.wp_at_succ
def ZA7(m:List (List Int)):Nat→List Nat
 | 0=>[]
 | k+1=>if k=0∨m.getD k []≠m.getD (k-1) [] then ZA7 m k ++ [k] else ZA7 m k
def ZBe(m:List (List Int)):List (List Int):=(ZA7 m m.length).map fun i=>m.getD i []
theorem ZD1{m:List (List Int)} : ∀{k i:Nat},i∈ZA7 m k→i < k
 | 0,i,h=>by simp [ZA7] at h
 | k+1,i,h=>by
  simp only [ZA7] at h
  split at h
  ·rcases List.mem_append.1 h with h | h
   ·have:=ZD1 h; omega
   ·simp at h; omega
  ·have:=ZD1 h; omega
theorem ZGy(m:List (List Int)):∀k,(ZA7 m k).length≤k
 | 0=>by simp [ZA7]
 | k+1=>by
  have:=ZGy m k;simp only [ZA7]
  split
  ·simp; omega
  ·omega
theorem ZEm{m:List (List Int)} : ∀k,(∀i,1≤i→i < k→m.getD i []≠m.getD (i-1) [])→ZA7 m k=List.range k
 | 0,_=>by simp [ZA7]
 | k+1,h=>by
  simp only [ZA7]
  rw [ZEm k (fun i h1 h2=>h i h1 (by omega)),List.range_succ,if_pos]
  rcases Nat.eq_zero_or_pos k with h0 | h0
  ·exact Or.inl h0
  ·exact Or.inr (h k h0 (by omega))
theorem ZHw{m:List (List Int)}(h:m.length < 2):ZBe m=m:=by
 match m,h with
 | [],_=>rfl
 | [x],_=>rfl
 | _ :: _ :: _,h=>simp at h; omega
theorem ZLR{m : List (List Int)}{r : List Int} : r ∈ ZBe m ↔ r ∈ m := by
  constructor
  · intro h
    simp only [ZBe, List.mem_map] at h;obtain ⟨i, f, rfl⟩ := h;have := ZD1 f;simp [this]
  · intro h
    obtain ⟨i, f, rfl⟩ := List.mem_iff_getElem.1 h
    -- the first place of a run is kept
    have g : ∀ i, i < m.length → ∃ j ∈ ZA7 m (i + 1), m.getD j [] = m.getD i [] := by
      intro i
      induction i with
      | zero => intro _; exact ⟨0, by simp [ZA7], rfl⟩
      | succ i ih =>
        intro f
        by_cases hne : m.getD (i + 1) [] ≠ m.getD i []
        · exact ⟨i + 1, by rw [ZA7, if_pos (Or.inr (by simpa using hne))]; simp, rfl⟩
        · have n : m.getD (i + 1) [] = m.getD i [] := Classical.not_not.1 hne
          obtain ⟨j, c, d⟩ := ih (by omega)
          refine ⟨j, ?_, by rw [d, n]⟩
          rw [ZA7]
          split
          · exact List.mem_append_left _ c
          · exact c
    have grow : ∀ a b, a ≤ b → ∀ j, j ∈ ZA7 m a → j ∈ ZA7 m b := by
      intro a b l
      induction b with
      | zero => intro j c; have : a = 0 := by omega
                subst this; exact c
      | succ b ih =>
        intro j c
        by_cases e : a = b + 1
        · subst e; exact c
        · have := ih (by omega) j c
          rw [ZA7]
          split
          · exact List.mem_append_left _ this
          · exact this
    obtain ⟨j, c, d⟩ := g i f;simp only [ZBe, List.mem_map]
    refine ⟨j, grow (i + 1) m.length (by omega) j c, ?_⟩
    rw [d]; simp [f]
theorem ZEn{P:Program}{ops:Array Oper}{o:Oper}{a:Act}{w:World}{K:Act→World→Prop}{Q:Exit→Act→World→Prop}{E:Prop}
 (hg : o.guard = none)(f : FuncId)(z x y : Operand)(t s : TypeId)(hop : o.op = Op.call { callee := Callee.value z, args := #[x, y], argTypes := #[t, s] })(v u : Value)(hz : a.eval z = Value.func (Fn.func f) #[] #[])(hv : a.eval x = v)(hu : a.eval y = u)(hf : ∃ fn, P.funcs[f]? = some fn ∧ (fn.name == "runtime.NumGoroutine") = false ∧ fn.body.isNone = false)
 (hc:Calls P f #[v,u] w fun e w'=>∃u,e=.returned u∧K (a.put o.dst u) w') :
  if Region.wanted o (yielded ops a.tmps)=true then Oper.wp P o a w K Q else E:=by
 have d:Region.wanted o (yielded ops a.tmps)=true:=by simp [Region.wanted,hg]
 rw [if_pos d];unfold Oper.wp;obtain ⟨fn,l,j,c⟩:=hf
 have e:(execOp a.eval o).run P w=.ok (.enter f #[v,u]) w:=by
  have b:(callFunc f #[v,u]).run P w=.ok (.enter f #[v,u]) w:=by
   unfold callFunc
   have g : ¬ fn.name = "runtime.NumGoroutine" := by simpa using j
   have i:¬fn.body=none:=by intro e; rw [e] at c; simp at c
   simp [l,g,i]
  unfold execOp;rw [hop];simp [resolve,invoke,hv,hu,hz,Deferred.ofValue,b]
 rw [e,Oper.upon_enter];refine hc.mono ?_;rintro e w' ⟨u,rfl,h⟩;exact h
structure RowM(w:World)(g cap:Nat)(f:Nat→Value)(m:List (List Int)):Prop where
 row:w.rowIs g 22 cap f
 cap1:m.length≤cap
 cap2:cap≤9223372036854775807
 inn:∀i,i < m.length→Sl 0 3 w (f i) (ZAB (m.getD i []))
theorem Fr.rowM{B:Nat}{w:World}{v:Value}{m:List (List Int)}(h:Fr B 22 3 w v m)(hm:0 < m.length):∃g cap f,v=.slice (some ⟨g,0,none⟩) m.length cap∧B≤g∧g < w.heap.size∧RowM w g cap f m:=by
 obtain ⟨b,d,a,c⟩:=h
 rcases a.2 with ⟨_,h0⟩ | ⟨g,cap,cur,hv,hb,hh,hn,hc,hs,ht⟩
 ·omega
 ·refine ⟨g,cap,fun i=>cur.toList.getD i (.slice none 0 0),hv,hb,lt_of_block hh,⟨cur,hh,by omega,fun i hi=>?_⟩,hn,by unfold maxLen at hc; exact hc,fun i hi=>?_⟩
  ·show cur[i]?=some (cur.toList.getD i (.slice none 0 0))
   rw [←Array.getElem?_toList,Za2,Za9 (by simp; omega)]; rfl
  ·have e:cur.toList.getD i (.slice none 0 0)=b.getD i (.slice none 0 0):=by
    rw [←ht];simp only [Za2]
    rw [Zaa5 (by omega)]
   rw [e]; exact c i hi
theorem RowM.fr{B:Nat}{w:World}{g cap:Nat}{f:Nat→Value}{m:List (List Int)}(h:RowM w g cap f m)(hB:B≤g):Fr B 22 3 w (.slice (some ⟨g,0,none⟩) m.length cap) m:=by
 obtain ⟨⟨c,a,n,d⟩,b,j,l⟩:=h
 refine ⟨(List.range m.length).map f,by simp,⟨by simp,Or.inr ⟨g,cap,c,rfl,hB,a,b,by unfold maxLen; exact j,by omega,?_⟩⟩,fun i hi=>?_⟩
 ·apply List.ext_getElem?
  intro i
  by_cases hi:i < m.length
  ·rw [Zaa5 (by omega),Array.getElem?_toList,d i (by omega)]; simp [hi]
  ·rw [Zaa6 (by simp; omega),Zaa6 (by simp; omega)]
 ·have e:((List.range m.length).map f).getD i (.slice none 0 0)=f i:=by simp [hi]
  rw [e]; exact l i hi
theorem Tryz.zero22:∀w,(zeroValue 22).run Tryz.prog w=.ok (.slice none 0 0) w:=fun w=>by kernel_rfl
theorem RowM.cell{w:World}{g cap i:Nat}{f:Nat→Value}{m:List (List Int)}(h:RowM w g cap f m)(hi:i < cap):w.cell? ⟨g,i,none⟩=some (f i):=h.row.cell hi
theorem Touch.setCells{g:Nat}{w:World} : ∀(vs:List Value) (o:Nat) {w':World},Touch g w w'→Touch g w (w'.setCells g o vs)
 | [],_,_,h=>h
 | v :: r,o,_,h=>Touch.setCells r (o+1) (h.setCell o v)
theorem Touch.sl{g:Nat}{w w':World}{cur:Array Value}{v:Value}{xs:List Value}(h:Touch g w w')(hg:w.heap[g]?=some (.cells cur 22 (0,0)))(hs:Sl 0 3 w v xs):Sl 0 3 w' v xs:=
 hs.move fun b _ ht=>by
  rcases ht with ht | ⟨c,ht⟩
  ·omega
  ·have a:b≠g:=by
    rintro rfl;rw [hg] at ht;simp at ht
   exact ⟨h.block b a,Or.inr ⟨c,ht⟩⟩
structure Cm(w:World)(g cap:Nat)(f:Nat→Value)(m:List (List Int))(k j c:Nat)(f':Nat→Value)(wr:World):Prop where
 row:wr.rowIs g 22 cap f'
 len:c=(ZA7 m (k+j)).length
 done:∀i,i < c→f' i=f ((ZA7 m (k+j)).getD i 0)
 rest:∀i,k+j-1≤i→i < cap→f' i=f i
 le:c≤k+j-1
 touch:Touch g w wr
theorem Cm.same{w wr:World}{g cap k j c:Nat}{f f':Nat→Value}{m:List (List Int)}(h:Cm w g cap f m k j c f' wr)(hk:1≤k)(he:m.getD (k+j) []=m.getD (k+j-1) [])(n:Nat):Cm w g cap f m k (j+1) c f' (wr.drewN n):=by
 have e:ZA7 m (k+(j+1))=ZA7 m (k+j):=by
  show ZA7 m (k+j+1)=_
  rw [ZA7,if_neg]
  rintro (a | a)
  ·omega
  ·exact a he
 refine ⟨h.row,by rw [e]; exact h.len,by rw [e]; exact h.done,fun i h1 h2=>h.rest i (by omega) h2,by have:=h.le; omega,h.touch.drewN n⟩
theorem Cm.next{w wr:World}{g cap k j c:Nat}{f f':Nat→Value}{m:List (List Int)}(h:Cm w g cap f m k j c f' wr)(he:m.getD (k+j) []≠m.getD (k+j-1) [])(hj1:1≤j)(n:Nat) :
  Cm w g cap f m k (j+1) (c+1) (fun i=>if i=c then f (k+j) else f' i) ((wr.drewN n).setCell ⟨g,c,none⟩ (f (k+j))):=by
 have e:ZA7 m (k+(j+1))=ZA7 m (k+j) ++ [k+j]:=by
  show ZA7 m (k+j+1)=_
  rw [ZA7,if_pos (Or.inr he)]
 refine ⟨h.row.set c _,by rw [e]; simp [h.len],fun i hi=>?_,fun i h1 a=>?_,by have:=h.le; omega,(h.touch.drewN n).setCell c _⟩
 ·rw [e]
  by_cases hic:i=c
  ·have a:=h.len
   subst hic;simp [a]
  ·have a:=h.len
   simp only [hic,if_false]
   rw [h.done i (by omega)]
   simp only [Za2]; rw [Za7 (by omega)]
 ·have b:=h.le
  simp only [show i≠c by omega,if_false]
  exact h.rest i (by omega) a
theorem Cm.fin{w wr:World}{g cap k j c B:Nat}{f f':Nat→Value}{m:List (List Int)}(h:Cm w g cap f m k j c f' wr)(hr:RowM w g cap f m)(hj:k+j=m.length)(hB:B≤g) :
  Fr B 22 3 (wr.setCells g c (List.replicate (m.length-c) (.slice none 0 0))) (.slice (some ⟨g,0,none⟩) c cap) (ZBe m):=by
 have o:(ZBe m).length=c:=by
  unfold ZBe;rw [Zab1,h.len,hj]
 have r:=h.le;obtain ⟨p,d,_⟩:=hr.row;have l:=rowIs_setCells (List.replicate (m.length-c) (Value.slice none 0 0)) c wr f' h.row
 have n:RowM (wr.setCells g c (List.replicate (m.length-c) (.slice none 0 0))) g cap (fun i=>if c≤i∧i < c+(List.replicate (m.length-c) (Value.slice none 0 0)).length then (List.replicate (m.length-c) (Value.slice none 0 0))[i-c]?.getD default else f' i) (ZBe m):=by
  refine ⟨l,by have:=hr.cap1; omega,hr.cap2,fun i hi=>?_⟩
  rw [o] at hi
  simp only [show ¬c≤i by omega,false_and,if_false]
  rw [h.done i hi];have b:=h.len
  have a:(ZA7 m (k+j)).getD i 0∈ZA7 m (k+j):=by simp [show i < (ZA7 m (k+j)).length by omega]
  have s:=ZD1 a
  have e:(ZBe m).getD i []=m.getD ((ZA7 m (k+j)).getD i 0) []:=by
   rw [hj] at b ⊢;unfold ZBe
   simp [show i < (ZA7 m m.length).length by omega]
  rw [e]
  exact (h.touch.setCells _ _).sl d (hr.inn _ (by omega))
 have:=n.fr hB;rw [o] at this;exact this
theorem ZHx(B:Nat)(m:List (List Int))(v:Value)(w:World)(hv:Fr B 22 3 w v m)(hm:m.length≤2000000000000) :
  Calls Tryz.prog 111 #[v,.func (.func 112) #[] #[]] w fun e w'=>∃u,e=.returned u∧Fr B 22 3 w' u (ZBe m)∧Below B w w':=by
 by_cases L:m.length < 2
 ·have HC:Hid (ZBe m=m):=ZHw L
  obtain ⟨ao,d,S,aR,l⟩:=ZAE (hv.rws.mat (Za4 _));subst S;have HV:Hid (Fr B 22 3 w (.slice ao m.length d) m):=hv;clear hv
  have ay:decide ((m.length:Int) < 2)=true:=by simp; omega
  go_enter Tryz.func111,Tryz.ntmps111;go_wp2;go_ret
  exact ⟨_,rfl,by rw [HC.out]; exact HV.out,Below.refl _ _⟩
 ·have ay:decide ((m.length:Int) < 2)=false:=by simp; omega
  obtain ⟨g,d,f,S,af,aS,F⟩:=hv.rowM (by omega)
  subst S;have r:=hid F;have aN:m.length≤d:=F.cap1;have aV:d≤9223372036854775807:=F.cap2;have aA:Hid (Fr B 22 3 w (.slice (some ⟨g,0,none⟩) m.length d) m):=hv;clear hv F;go_enter Tryz.func111,Tryz.ntmps111;go_wp2
  go_loopw [5] (fun i wr=>∃k:Nat,1≤k∧k≤m.length∧i=.int .i64 k∧(∀j,1≤j→j < k→m.getD j []≠m.getD (j-1) [])∧∃n,wr=w.drewN n) (fun i _=>m.length-(intOf i).toNat)
  case atStart=>exact ⟨1,Za4 _,by omega,rfl,fun j O L=>absurd L (by omega),0,rfl⟩
  case round=>
   obtain ⟨k,aY,hk,rfl,V,n,rfl⟩:=hrel;have P:=hid V;clear V
   by_cases hlt:k < m.length
   ·have d1:w.cell? ⟨g,k,none⟩=some (f k):=r.out.cell (by omega)
    have Y:w.cell? ⟨g,k-1,none⟩=some (f (k-1)):=r.out.cell (by omega)
    have HE:Hid (∀q,Calls Tryz.prog 112 #[f k,f (k-1)] (w.drewN q) fun e w'=>e=.returned (.bool (m.getD k [] == m.getD (k-1) []))∧∃p,w'=(w.drewN q).drewN p):=fun q=>
     ZGx 0 _ _ _ _ (w.drewN q) ((r.out.inn k hlt).drewN q) ((r.out.inn (k-1) (by omega)).drewN q)
    obtain ⟨x,hx⟩:∃x,x=m.getD k []:=⟨_,rfl⟩
    obtain ⟨y,hy⟩:∃y,y=m.getD (k-1) []:=⟨_,rfl⟩
    have HX:=hid hx;have HY:=hid hy;rw [←hx,←hy] at HE;clear hx hy
    obtain ⟨D,M,E,s⟩:∃D M E,f k=.slice D M E:=by
     obtain ⟨D,E,h,_⟩:=ZAH (r.out.inn k hlt); exact ⟨D,_,E,h⟩
    obtain ⟨J,yl,G,t⟩:∃J yl G,f (k-1)=.slice J yl G:=by
     obtain ⟨J,G,h,_⟩:=ZAH (r.out.inn (k-1) (by omega)); exact ⟨J,_,G,h⟩
    rw [s,t] at HE;rw [s] at d1;rw [t] at Y;clear s t
    obtain ⟨a,ah⟩:∃a,k=a+1:=⟨k-1,by omega⟩
    subst ah;simp only [Nat.add_sub_cancel] at Y
    have aT:(a:Int)+1 < (m.length:Int):=by omega
    have aJ:(0:Int)≤(a:Int)+1:=by omega
    have aK:(a:Int) < (m.length:Int):=by omega
    have aH:(0:Int)≤(a:Int):=by omega
    have aZ:IntKind.i64.wrap (a:Int)=(a:Int):=by rw [IntWalk.i64_left]; exact IntWalk.wrap64_in _ ⟨by omega,by omega⟩
    go_wp2
    go_region_law (refine ZEn (o:={ dst:=some 28,op:=_,type:=_,pos:=_,after:=_,guard:=_ }) (by rfl) 112 _ _ _ 22 22 (by rfl) _ _ (by rfl) (by rfl) (by rfl) ⟨_,Tryz.func112,by rfl,by rfl⟩ ?_; refine (HE.out (n+1)).mono ?_; rintro e w2 ⟨rfl,p,rfl⟩; refine ⟨_,rfl,?_⟩)
    all_goals
     cases hxy:(x == y)
     ·have ak:Hid (∀j,1≤j→j < a+2→m.getD j []≠m.getD (j-1) []):=fun j O L=>by
       by_cases hj:j < a+1
       ·exact P.out j O hj
       ·have:j=a+1:=by omega
        subst this;rw [←HX.out,←HY.out];exact beq_eq_false_iff_ne.1 hxy
      clear hxy;go_wp2
      go_roundw
      case rel=>exact ⟨a+2,by omega,by omega,by go_num,ak.out,_,rfl⟩
      case measure=>simp [intOf]; omega
     ·have aq:Hid (m.getD (a+1) []=m.getD a []):=by
       show _=_
       have h:=beq_iff_eq.1 hxy;rw [HX.out,HY.out] at h;exact h
      have aB:Hid (Cm w g d f m (a+1) 1 (a+1) f (w.drewN (n+1+p))):=by
       have e0:ZA7 m (a+1)=List.range (a+1):=ZEm _ (fun i O L=>P.out i O L)
       have e1:ZA7 m (a+1+1)=List.range (a+1):=by
        rw [ZA7,if_neg,e0]
        rintro (h0 | h0)
        ·omega
        ·exact h0 aq.out
       refine ⟨r.out.row,by rw [e1]; simp,fun i hi=>by rw [e1]; simp [hi],fun _ _ _=>rfl,by omega,(Touch.refl _ _).drewN _⟩
      have aU:a+1 < d:=by omega
      clear hxy d1 Y;go_wp2
      go_loopw [5,7] (fun x1 Q wr=>∃(j c:Nat) (U:Nat→Value),1≤j∧a+1+j≤m.length∧Q=.int .i64 j∧x1=.int .i64 c∧Cm w g d f m (a+1) j c U wr) (fun _ Q _=>m.length-(intOf Q).toNat)
      case atStart=>exact ⟨1,a+1,f,Za4 _,by omega,rfl,rfl,aB.out⟩
      case round=>
       obtain ⟨j,c,U,aP,hj,rfl,rfl,l⟩:=hrel;have z:=hid l;have aO:=l.le
       obtain ⟨b,X⟩:∃b,j=b+1:=⟨j-1,by omega⟩
       subst X
       by_cases hjn:a+1+(b+1) < m.length
       ·have d1:wr.cell? ⟨g,a+1+(b+1),none⟩=some (f (a+1+(b+1))):=by rw [l.row.cell (by omega),l.rest _ (by omega) (by omega)]
        have Y:wr.cell? ⟨g,a+1+b,none⟩=some (f (a+1+b)):=by rw [l.row.cell (by omega),l.rest _ (by omega) (by omega)]
        obtain ⟨aQ,A,_⟩:=r.out.row
        have N:Hid (∀q,Calls Tryz.prog 112 #[f (a+1+(b+1)),f (a+1+b)] (wr.drewN q) fun e w'=>e=.returned (.bool (m.getD (a+1+(b+1)) [] == m.getD (a+1+b) []))∧∃p,w'=(wr.drewN q).drewN p):=fun q=>
         ZGx 0 _ _ _ _ (wr.drewN q) ((z.out.touch.sl A (r.out.inn _ hjn)).drewN q) ((z.out.touch.sl A (r.out.inn _ (by omega))).drewN q)
        obtain ⟨D,M,E,s⟩:∃D M E,f (a+1+(b+1))=.slice D M E:=by
         obtain ⟨D,E,h,_⟩:=ZAH (r.out.inn _ hjn); exact ⟨D,_,E,h⟩
        obtain ⟨J,yl,G,t⟩:∃J yl G,f (a+1+b)=.slice J yl G:=by
         obtain ⟨J,G,h,_⟩:=ZAH (r.out.inn (a+1+b) (by omega)); exact ⟨J,_,G,h⟩
        have aw:=hid s;rw [s,t] at N;rw [s] at d1;rw [t] at Y
        obtain ⟨Q,R⟩:∃Q,Q=m.getD (a+1+(b+1)) []:=⟨_,rfl⟩
        obtain ⟨y2,T⟩:∃y2,y2=m.getD (a+1+b) []:=⟨_,rfl⟩
        have ag:=hid R;have aa:=hid T;rw [←R,←T] at N
        have d3:=l.row.cell (i:=c) (by omega)
        have d4:=l.row.frozen c;generalize U c=fc at d3;clear R T s t A l
        have an:(b:Int)+1 < ((m.length-(a+1):Nat):Int):=by omega
        have aE:(0:Int)≤(b:Int)+1:=by omega
        have aL:(b:Int) < ((m.length-(a+1):Nat):Int):=by omega
        have aD:(0:Int)≤(b:Int):=by omega
        have aW:IntKind.i64.wrap (b:Int)=(b:Int):=by rw [IntWalk.i64_left]; exact IntWalk.wrap64_in _ ⟨by omega,by omega⟩
        have az:(c:Int) < (m.length:Int):=by omega
        have ae:(0:Int)≤(c:Int):=by omega
        go_wp2
        go_region_law (refine ZEn (o:={ dst:=some 48,op:=_,type:=_,pos:=_,after:=_,guard:=_ }) (by rfl) 112 _ _ _ 22 22 (by rfl) _ _ (by rfl) (by rfl) (by rfl) ⟨_,Tryz.func112,by rfl,by rfl⟩ ?_; refine (N.out 1).mono ?_; rintro e w2 ⟨rfl,p2,rfl⟩; refine ⟨_,rfl,?_⟩)
        all_goals
         cases hxy2:(Q == y2)
         ·have ai:Hid (Cm w g d f m (a+1) (b+1+1) (c+1) (fun i=>if i=c then .slice D M E else U i) ((wr.drewN (1+p2)).setCell ⟨g,c,none⟩ (.slice D M E))):=by
           have h:=z.out.next (by
            rw [←ag.out,show a+1+(b+1)-1=a+1+b by omega,←aa.out]
            exact beq_eq_false_iff_ne.1 hxy2) (by omega) (1+p2)
           rw [aw.out] at h;exact h
          clear hxy2;go_wp2
          go_roundw
          case rel=>exact ⟨b+1+1,c+1,_,by omega,by omega,by go_num,by go_num,ai.out⟩
          case measure=>simp [intOf]; omega
         ·have aC:Hid (Cm w g d f m (a+1) (b+1+1) c U (wr.drewN (1+p2))):=z.out.same (by omega) (by
           rw [←ag.out,show a+1+(b+1)-1=a+1+b by omega,←aa.out]
           exact beq_iff_eq.1 hxy2) (1+p2)
          clear hxy2;go_wp2
          go_roundw
          case rel=>exact ⟨b+1+1,c,U,by omega,by omega,by go_num,rfl,aC.out⟩
          case measure=>simp [intOf]; omega
       ·have ar:a+1+(b+1)=m.length:=by omega
        have aj:Hid (Fr B 22 3 (wr.setCells g c (List.replicate (m.length-c) (.slice none 0 0))) (.slice (some ⟨g,0,none⟩) c d) (ZBe m)):=z.out.fin r.out ar af;have am:Hid (Below B w (wr.setCells g c (List.replicate (m.length-c) (.slice none 0 0)))):=(z.out.touch.setCells _ _).below (Below.refl _ _) af
        have aI:∀ty,(Builtin.clear_ #[25] ty #[.slice (some ⟨g,c,none⟩) (m.length-c) (d-c)]).run Tryz.prog wr=.ok (.tuple #[]) (wr.setCells g c (List.replicate (m.length-c) (.slice none 0 0))):=
         fun ty=>Lib.run_clear_slice wr 25 22 ty (.slice none 0 0) Tryz.underlying25 Tryz.zero22 rfl rfl g c (m.length-c) (d-c) (by omega) (fun q hq=>by rw [l.row.cell (by omega)]; rfl) (fun q hq=>l.row.frozen _)
        have az:(c:Int)≤(m.length:Int):=by omega
        have ae:(0:Int)≤(c:Int):=by omega
        have aM:c < d:=by omega
        have aG:c≤m.length:=by omega
        have aF:c≤d:=by omega
        have an:decide ((b:Int)+1 < ((m.length-(a+1):Nat):Int))=false:=by simp; omega
        clear l;go_wp2;go_ret;exact ⟨_,rfl,aj.out,am.out⟩
   ·have au:Hid (ZBe m=m):=by
     show _=_
     have aX:k=m.length:=by omega
     unfold ZBe
     rw [ZEm m.length (fun i O L=>P.out i O (by omega))]
     apply List.ext_getElem (by simp)
     intro i O L;simp [L]
    go_wp2;go_ret
    exact ⟨_,rfl,by rw [au.out]; exact aA.out,⟨rfl,rfl,rfl,Za4 _,fun _ _=>rfl⟩⟩
end Go.Proofs.YtgfnmkenpgnllaaGreat
namespace Go.Proofs.YtgfnmkenpgnllaaGreat
open Go.Shelf Go.RowKit Go.Lib Go.Sort
theorem ZCV:∀x,ZAl x x=0
 | []=>rfl
 | a :: x=>by simp [ZAl,ZCV x]
theorem ZCg:∀x y z,ZAl x y < 0→ZAl y z < 0→ZAl x z < 0
 | [],[],_,h,_=>by simp [ZAl] at h
 | [],b :: y,[],_,h=>by simp [ZAl] at h
 | [],b :: y,c :: z,_,_=>by simp [ZAl]
 | a :: x,[],_,h,_=>by simp [ZAl] at h
 | a :: x,b :: y,[],_,h=>by simp [ZAl] at h
 | a :: x,b :: y,c :: z,h1,h2=>by
  have ih:=ZCg x y z;simp only [ZAl] at *
  split at h1 <;> split at h2 <;> split <;> (try split at h1) <;> (try split at h2) <;> (try split) <;> first | omega | (exact ih h1 h2)
theorem ZEo:∀x y z,¬ZAl x y < 0→¬ZAl y z < 0→¬ZAl x z < 0
 | [],[],z,_,h=>h
 | [],b :: y,_,h,_=>by simp [ZAl] at h
 | a :: x,[],[],_,_=>by simp [ZAl]
 | a :: x,[],c :: z,_,h=>by simp [ZAl] at h
 | a :: x,b :: y,[],_,_=>by simp [ZAl]
 | a :: x,b :: y,c :: z,h1,h2=>by
  have ih:=ZEo x y z;simp only [ZAl] at *
  split at h1 <;> split at h2 <;> split <;> (try split at h1) <;> (try split at h2) <;> (try split) <;> first | omega | (exact ih h1 h2)
def RA(w:World):Type:={ p:Value×List Int // Sl 0 3 w p.1 (ZAB p.2) }
instance (w:World):Inhabited (RA w):=⟨⟨(.slice none 0 0,[]),Sl.nil _ _ _⟩⟩
def RA.enc{w:World}(x:RA w):Value:=x.1.1
def RA.cf{w:World}(x y:RA w):Int:=ZAl x.1.2 y.1.2
theorem RA.swo(w:World):SWO (ltOf (RA.cf (w:=w))) where
 irrefl x:=by simp [ltOf,RA.cf,ZCV]
 trans x y z h1 h2:=by
  exact decide_eq_true (ZCg _ _ _ (of_decide_eq_true h1) (of_decide_eq_true h2))
 ntrans x y z h1 h2:=by
  exact decide_eq_false (ZEo _ _ _ (of_decide_eq_false h1) (of_decide_eq_false h2))
theorem RA.one(w:World):OneCell (RA.enc (w:=w)):=fun x=>by
 obtain ⟨b,a,h,_⟩:=x.2
 show x.1.1.oneCell'=true
 rw [h]; rfl
theorem ZCW{α:Type}[Inhabited α](enc:α→Value)(w:World)(g off q:Nat)(d:Array α)(os:Array Obj)(b:Nat)(hb:b < w.heap.size)(hne:b≠g):(sortWorld enc w g off q d os).heap[b]?=w.heap[b]?:=by
 show ((w.heap.modify g _) ++ os)[b]?=_
 rw [Array.getElem?_append_left (by simpa using hb),Array.getElem?_modify,if_neg (fun e=>hne e.symm)]
theorem ZE4{α:Type}[Inhabited α](enc:α→Value)(w:World)(g off q:Nat)(d:Array α)(os:Array Obj):w.heap.size≤(sortWorld enc w g off q d os).heap.size:=by
 show w.heap.size≤((w.heap.modify g _) ++ os).size
 simp
theorem ZCX{α:Type}[Inhabited α]{enc:α→Value}{w:World}{g off q:Nat}{d:Array α}{os:Array Obj}{cur:Array Value}{v:Value}{xs:List Value}(hg:w.heap[g]?=some (.cells cur 22 (0,0)))(h:Sl 0 3 w v xs):Sl 0 3 (sortWorld enc w g off q d os) v xs:=
 h.move fun b hl ht=>by
  rcases ht with ht | ⟨c,ht⟩
  ·omega
  ·have a:b≠g:=by
    rintro rfl;rw [hg] at ht;simp at ht
   exact ⟨ZCW _ _ _ _ _ _ _ b hl a,Or.inr ⟨c,ht⟩⟩
theorem ZF6{α:Type}[Inhabited α](enc:α→Value)(w:World)(g q cap:Nat)(d:Array α)(os:Array Obj)(f:Nat→Value)(h:w.rowIs g 22 cap f):(sortWorld enc w g 0 q d os).rowIs g 22 cap (fun k=>if k < d.size then enc d[k]! else f k):=by
 obtain ⟨c,a,b,j⟩:=h;have l:=lt_of_block a
 refine ⟨putCells enc 0 d c,?_,by simp [putCells,b],fun i hi=>?_⟩
 ·show ((w.heap.modify g _) ++ os)[g]?=_
  rw [Array.getElem?_append_left (by simpa using l),Array.getElem?_modify,if_pos rfl,a]
  rfl
 ·unfold putCells
  rw [Array.getElem?_mapIdx,j i hi];simp
theorem ZNS{w:World}(d:Array (RA w)){i:Nat}(h:i < d.size):(d.toList.map (fun x:RA w=>x.1.2)).getD i []=(d[i]!).1.2:=by
 rw [getElem!_pos d i h,Za2,List.getElem?_map,Za9 (by simpa using h)]
 rfl
theorem ZNT(B:Nat)(m:List (List Int))(v:Value)(w:World)(hv:Fr B 22 3 w v m)(hm:m.length≤2000000000000) :
  Calls Tryz.prog 110 #[v,.func (.func 64) #[] #[]] w fun e w'=>e=.returned (.tuple #[])∧∃m':List (List Int),m'.Perm m∧(∀i j,i < j→j < m'.length→¬ZAl (m'.getD j []) (m'.getD i []) < 0)∧Fr B 22 3 w' v m'∧Below B w w':=by
 by_cases h0:m.length=0
 ·have M:m=[]:=List.eq_nil_of_length_eq_zero h0
  subst M;obtain ⟨ao,p,t,_,_⟩:=ZAE (hv.rws.mat (Za4 _));subst t
  have a:=AnyF.slices_SortFunc_none (P:=Tryz.prog) (ρ:=Tryz.sortM_ren) { Tryz.sortM with } ao p (.func (.func 64) #[] #[]) w
  change Calls Tryz.prog 110 _ _ _ at a
  refine a.mono ?_;rintro e w' ⟨rfl,rfl⟩
  exact ⟨rfl,[],List.Perm.refl _,fun i j _ h=>absurd h (by simp),hv,Below.refl _ _⟩
 ·obtain ⟨g,p,f,t,G,J,c⟩:=hv.rowM (by omega)
  subst t;obtain ⟨V,o,_⟩:=c.row
  obtain ⟨d,R⟩:∃d:Array (RA w),d=Array.ofFn (fun i:Fin m.length=>(⟨(f i,m.getD i []),c.inn i i.2⟩:RA w)):=⟨_,rfl⟩
  have z:d.size=m.length:=by rw [R]; exact Array.size_ofFn
  have E:∀j (r:j < m.length),d[j]! = (⟨(f j,m.getD j []),c.inn j r⟩:RA w):=fun j r=>by
   rw [getElem!_pos d j (by omega)]
   subst R;exact Array.getElem_ofFn _
  have hH:Holds (RA.enc (w:=w)) w g 0 d:=fun j r=>by
   rw [z] at r;rw [E j r,Nat.zero_add];exact ⟨c.cell (Nat.lt_of_lt_of_le r c.cap1),c.row.frozen j⟩
  have eg:∀args w,(callFunc 64 args).run Tryz.prog w=.ok (.enter 64 args) w:=enters_of Tryz.func64 (by kernel_rfl) rfl
  have D:CmpReads Tryz.prog 64 #[] (RA.enc (w:=w)) RA.cf g 0 d.size w:=fun q Q dk _ x y=>
   (ZEl 0 x.1.2 y.1.2 x.1.1 y.1.1 _ (ZCX o x.2) (ZCX o y.2)).mono fun e w' ⟨he,hw⟩=>⟨he,0,hw⟩
  have a:=Any.slices_SortFunc Tryz.sortM (RA.enc (w:=w)) (RA.one w) RA.cf (RA.swo w) 64 #[] g 0 p d w eg D.lays hH J (by omega)
  change Calls Tryz.prog 110 _ _ _ at a
  rw [z] at a;refine a.mono ?_;rintro e w' ⟨rfl,l,q,Q,⟨X,aa,A⟩,hs,rfl⟩
  have s:l.size=m.length:=by omega
  refine ⟨rfl,l.toList.map (fun x=>x.1.2),?_,?_,?_,?_⟩
  ·have Y:(l.extract 0 m.length).toList=l.toList:=by rw [Array.toList_extract]; simp; exact Zaa2 (by simp; omega)
   have e2:(d.extract 0 m.length).toList=d.toList:=by rw [Array.toList_extract]; simp; exact Zaa2 (by simp; omega)
   rw [Y,e2] at A
   have L:d.toList.map (fun x:RA w=>x.1.2)=m:=by
    apply List.ext_getElem (by simp [z])
    intro i h1 T
    have S:=ZNS d (i:=i) (by omega)
    rw [E i T] at S
    have U:(d.toList.map (fun x:RA w=>x.1.2)).getD i []=(d.toList.map (fun x:RA w=>x.1.2))[i]:=by rw [Za2,Za9 h1]; rfl
    have h5:m.getD i []=m[i]:=by rw [Za2,Za9 T]; rfl
    rw [←U,S,←h5]
   rw [←L];exact A.map _
  ·intro i j F r
   have N:j < m.length:=by simpa [s] using r
   have h:=hs i j (Za5 _) F N;have h:=of_decide_eq_false h
   rw [ZNS l (by omega),ZNS l (by omega)]; exact h
  ·have n:(l.toList.map (fun x:RA w=>x.1.2)).length=m.length:=by simp [s]
   have O:RowM (sortWorld (RA.enc (w:=w)) w g 0 q l Q) g p (fun k=>if k < l.size then RA.enc l[k]! else f k) (l.toList.map (fun x=>x.1.2)):=by
    refine ⟨ZF6 _ _ _ _ _ _ _ _ c.row,by rw [n]; exact c.cap1,c.cap2,fun i hi=>?_⟩
    rw [n] at hi
    simp only [show i < l.size by omega,if_true]
    rw [ZNS l (by omega)]
    exact ZCX o (l[i]!).2
   have:=O.fr G;rw [n] at this;exact this
  ·exact ⟨rfl,rfl,rfl,ZE4 _ _ _ _ _ _ _,fun b hb=>ZCW _ _ _ _ _ _ _ b (by omega) (by omega)⟩
end Go.Proofs.YtgfnmkenpgnllaaGreat
namespace Go.Proofs.YtgfnmkenpgnllaaGreat
open Go.RowKit
attribute [local go_sem ↓] Go.wp_at_zero Go.wp_at_succ
theorem ZLS(m:List (List Int)):(ZBe m).length≤m.length:=by
 unfold ZBe;rw [Zab1]; exact ZGy _ _
def Asc(m:List (List Int)):Prop:=∀i j,i < j→j < m.length→¬ZAl (m.getD j []) (m.getD i []) < 0
structure Inor(m' m:List (List Int)):Prop where
 mem:∀r,r∈m'↔r∈m
 len:m'.length≤m.length
 srt:∃m0:List (List Int),m0.Perm m∧Asc m0∧m'=ZBe m0
theorem ZCY{B:Nat}{w:World}{v:Value}{m:List (List Int)}(h:Fr B 22 3 w v m):∃ao cap,v=.slice ao m.length cap∧m.length≤cap∧cap≤9223372036854775807:=ZAE (h.rws.mat (Za4 _))
theorem ZHy(B:Nat)(m:List (List Int))(v:Value)(w:World)(hv:Fr B 22 3 w v m)(hm:m.length≤2000000000000) :
  Calls Tryz.prog 83 #[v] w fun e w'=>∃u m',e=.returned u∧Fr B 22 3 w' u m'∧Inor m' m∧Below B w w':=by
 obtain ⟨t,c,g,D,J⟩:=ZCY hv;subst g;have E:Hid (Fr B 22 3 w (.slice t m.length c) m):=hv;clear hv;go_enter Tryz.func83,Tryz.ntmps83
 go_wp2_with fail
 refine (ZNT B m _ w E.out hm).mono ?_;rintro e i ⟨rfl,a,p,z,s,x⟩;have f:Hid (a.Perm m):=p;have A:Hid (Asc a):=z;have L:Hid (Fr B 22 3 i (.slice t m.length c) a):=s;have M:Hid (Below B w i):=x;clear p z s x
 go_wp2_with fail
 refine (ZHx B a _ i L.out (by rw [f.out.length_eq]; exact hm)).mono ?_
 rintro e y ⟨u,rfl,b,d⟩;obtain ⟨F,G,o,_,_⟩:=ZCY b;subst o;have n:Hid (Fr B 22 3 y (.slice F (ZBe a).length G) (ZBe a)):=b;have j:Hid (Below B w y):=M.out.trans d
 have l:Hid (Inor (ZBe a) m):=⟨fun r=>by rw [ZLR]; exact f.out.mem_iff,by rw [←f.out.length_eq]; exact ZLS _,a,f.out,A.out,rfl⟩
 clear b d;generalize hgl:(ZBe a).length=gl at *;go_wp2;go_ret;exact ⟨_,ZBe a,rfl,n.out,l.out,j.out⟩
end Go.Proofs.YtgfnmkenpgnllaaGreat
