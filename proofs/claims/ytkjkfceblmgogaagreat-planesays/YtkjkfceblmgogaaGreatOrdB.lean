import Derived.Shelf.SlSortCmp.NoneTotal
import Derived.Test.YtkjkfceblmgogaaGreatWiA
set_option maxRecDepth 100000
set_option maxHeartbeats 4000000
namespace Go.Proofs.YtkjkfceblmgogaaGreat
open Go.RowKit
def ZCh(x y:Int):Int:=if x < y then -1 else if y < x then 1 else 0
def ZAm:List Int→List Int→Int
 | [],[]=>0
 | [],_ :: _=>-1
 | _ :: _,[]=>1
 | x :: xs,y :: ys=>if x < y then -1 else if y < x then 1 else ZAm xs ys
theorem ZDb(x:Int)(w:World):Calls Tryz.prog 89 #[.int .i64 x] w fun e w'=>e=.returned (.bool false)∧w'=w:=by
 have a:(x != x)=false:=by simp
 go_enter Tryz.func89,Tryz.ntmps89;go_wp2;go_ret
 exact ⟨ZAX (by simp),rfl⟩
theorem ZI9(x y:Int)(w:World):Calls Tryz.prog 58 #[.int .i64 x,.int .i64 y] w fun e w'=>e=.returned (.int .i64 (ZCh x y))∧w'=w:=by
 by_cases h1:x < y
 ·have a:Hid (ZCh x y=-1):=if_pos h1
  go_enter Tryz.func58,Tryz.ntmps58
  go_wp2_with fail
  refine (ZDb x w).mono ?_;rintro e b ⟨rfl,rfl⟩
  go_wp2_with fail
  refine (ZDb y b).mono ?_;rintro e c ⟨rfl,rfl⟩;go_wp2;go_ret
  exact ⟨by rw [a.out]; rfl,rfl⟩
 ·by_cases h2:y < x
  ·have a:Hid (ZCh x y=1):=by
    show _=_
    unfold ZCh; rw [if_neg h1,if_pos h2]
   go_enter Tryz.func58,Tryz.ntmps58
   go_wp2_with fail
   refine (ZDb x w).mono ?_;rintro e b ⟨rfl,rfl⟩
   go_wp2_with fail
   refine (ZDb y b).mono ?_;rintro e c ⟨rfl,rfl⟩;go_wp2;go_ret
   exact ⟨by rw [a.out]; rfl,rfl⟩
  ·have a:Hid (ZCh x y=0):=by
    show _=_
    unfold ZCh; rw [if_neg h1,if_neg h2]
   go_enter Tryz.func58,Tryz.ntmps58
   go_wp2_with fail
   refine (ZDb x w).mono ?_;rintro e b ⟨rfl,rfl⟩
   go_wp2_with fail
   refine (ZDb y b).mono ?_;rintro e c ⟨rfl,rfl⟩;go_wp2;go_ret
   exact ⟨by rw [a.out]; rfl,rfl⟩
theorem ZLi{x y:List Int}{k:Nat}(h1:k < x.length)(h2:k < y.length):ZAm (x.drop k) (y.drop k)=if ZCh (x.getD k 0) (y.getD k 0)=0 then ZAm (x.drop (k+1)) (y.drop (k+1)) else ZCh (x.getD k 0) (y.getD k 0):=by
 rw [List.drop_eq_getElem_cons h1,List.drop_eq_getElem_cons h2];simp only [ZAm,ZCh,Za2,Za9 h1,Za9 h2,Option.getD_some]
 by_cases a:x[k] < y[k]
 ·simp [a]
 ·by_cases b:y[k] < x[k]
  ·simp [a,b]
  ·simp [a,b]
theorem ZEm(B:Nat)(x y:List Int)(u v:Value)(w:World)(hu:Sl B 3 w u (ZAB x))(hv:Sl B 3 w v (ZAB y)) :
  Calls Tryz.prog 59 #[u,v] w fun e w'=>e=.returned (.int .i64 (ZAm x y))∧w'=w:=by
 obtain ⟨ao,S,p,T,F⟩:=ZAI hu;obtain ⟨D,n,m,J,R⟩:=ZAI hv;subst p m;have L:=hid hu;have E:Hid (Sl B 3 w (.slice D y.length n) (ZAB y)):=hv;clear hu hv;go_enter Tryz.func59,Tryz.ntmps59;go_wp2
 go_loopw [11] (fun i wr=>∃k:Nat,k≤x.length∧k≤y.length∧i=.int .i64 k∧ZAm x y=ZAm (x.drop k) (y.drop k)∧wr=w) (fun i _=>x.length-(intOf i).toNat)
 case atStart=>exact ⟨0,Za5 _,Za5 _,rfl,rfl,rfl⟩
 case round=>
  obtain ⟨k,U,N,rfl,g,rfl⟩:=hrel;have l:=hid g;clear g
  by_cases hlt:k < x.length
  ·obtain ⟨b,o,V,t,O,Q⟩:=ZAK L.out hlt
   simp only [Za3] at t;obtain ⟨rfl,_,rfl⟩:=t
   by_cases hlt2:k < y.length
   ·obtain ⟨X,o2,M,j,P,A⟩:=ZAK E.out hlt2
    simp only [Za3] at j;obtain ⟨rfl,_,rfl⟩:=j
    have z:Hid (ZAm (x.drop k) (y.drop k)=if ZCh (x.getD k 0) (y.getD k 0)=0 then ZAm (x.drop (k+1)) (y.drop (k+1)) else ZCh (x.getD k 0) (y.getD k 0)):=ZLi hlt hlt2
    generalize x.getD k 0=a at *;generalize y.getD k 0=c at *
    go_wp2_with fail
    refine (ZI9 a c wr).mono ?_;rintro e Y ⟨rfl,rfl⟩;generalize ZCh a c=r at *
    by_cases hr:r=0
    ·have f:Hid (ZAm x y=ZAm (x.drop (k+1)) (y.drop (k+1))):=by
      show _=_
      rw [l.out,z.out,if_pos hr]
     have s:(r != 0)=false:=by simp [hr]
     clear hr;go_wp2
     go_roundw
     case rel=>exact ⟨k+1,by omega,by omega,by go_num,f.out,trivial⟩
     case measure=>simp [intOf]; omega
    ·have f:Hid (ZAm x y=r):=by
      show _=_
      rw [l.out,z.out,if_neg hr]
     have s:(r != 0)=true:=by simp [hr]
     clear hr;go_wp2;go_ret
     exact ⟨by rw [f.out]; rfl,rfl⟩
   ·have d:k=y.length:=by omega
    have f:Hid (ZAm x y=1):=by
     show _=_
     rw [l.out,d,List.drop_length,List.drop_eq_getElem_cons (by omega)]; rfl
    clear d;go_wp2;go_ret
    exact ⟨by rw [f.out]; rfl,rfl⟩
  ·have d:k=x.length:=by omega
   by_cases hxy:x.length < y.length
   ·have f:Hid (ZAm x y=-1):=by
     show _=_
     rw [l.out,d,List.drop_length,List.drop_eq_getElem_cons hxy]; rfl
    go_wp2;go_ret
    exact ⟨by rw [f.out]; rfl,rfl⟩
   ·have f:Hid (ZAm x y=0):=by
     show _=_
     have G:y.drop k=[]:=List.drop_eq_nil_of_le (by omega)
     rw [l.out,G,d,List.drop_length]; rfl
    go_wp2;go_ret
    exact ⟨by rw [f.out]; rfl,rfl⟩
theorem ZHA(B:Nat)(x y:List Int)(u v:Value)(w:World)(hu:Sl B 3 w u (ZAB x))(hv:Sl B 3 w v (ZAB y)) :
  Calls Tryz.prog 107 #[u,v] w fun e w'=>e=.returned (.bool (x == y))∧∃n,w'=w.drewN n:=by
 have D:=hu;have t:=hv;obtain ⟨ao,U,f,A,l,-⟩:=D;obtain ⟨J,r,c,m,z,-⟩:=t;simp only [ZA2] at A f m c;subst f c;have N:=hid hu;have L:Hid (Sl B 3 w (.slice J y.length r) (ZAB y)):=hv;clear hu hv;unfold maxLen at l z
 by_cases hl:x.length=y.length
 ·have p:((x.length:Int) != (y.length:Int))=false:=by simp [hl]
  have M:=hid hl
  have S:y.length≤x.length:=by omega
  have P:x.length≤y.length:=by omega
  clear hl;go_enter Tryz.func107,Tryz.ntmps107;go_wp2
  go_loopw [13] (fun i wr=>∃k:Nat,k≤x.length∧i=.int .i64 k∧(∀j,j < k→x.getD j 0=y.getD j 0)∧∃n,wr=w.drewN n) (fun i _=>x.length-(intOf i).toNat)
  case atStart=>exact ⟨0,Za5 _,rfl,fun j hj=>absurd hj (by omega),0,rfl⟩
  case round=>
   obtain ⟨k,V,rfl,g,n,rfl⟩:=hrel;have E:=hid g;clear g
   by_cases hlt:k < x.length
   ·have a:k < y.length:=by omega
    obtain ⟨b,o,X,F,Q,T⟩:=ZAK N.out hlt;simp only [Za3] at F;obtain ⟨rfl,_,rfl⟩:=F;obtain ⟨Y,o2,O,d,R,G⟩:=ZAK L.out a;simp only [Za3] at d;obtain ⟨rfl,_,rfl⟩:=d;go_wp2
    go_quiet (fail)
    go_wp2
    ·have s:(x[k] != y[k])=true:=by assumption
     go_ret
     refine ⟨ZAX (Eq.symm ?_),n+nq,by rw [World.drewN_drewN]⟩
     rw [beq_eq_false_iff_ne];rintro rfl;simp at s
    ·have s:(x[k] != y[k])=false:=by assumption
     go_roundw
     case rel=>
      refine ⟨k+1,by omega,by go_num,fun j hj=>?_,_,rfl⟩
      by_cases hjk:j < k
      ·exact E.out j hjk
      ·have:j=k:=by omega
       subst this
       simpa [hlt,a] using s
     case measure=>simp [intOf]; omega
   ·go_wp2
    go_ret;refine ⟨ZAX (Eq.symm ?_),_,rfl⟩;rw [beq_iff_eq]
    exact ZGU M.out fun i hi=>E.out i (by omega)
 ·have p:((x.length:Int) != (y.length:Int))=true:=by simp; omega
  go_enter Tryz.func107,Tryz.ntmps107;go_wp2;go_ret;refine ⟨ZAX (Eq.symm ?_),0,rfl⟩;rw [beq_eq_false_iff_ne];rintro rfl;exact hl rfl
end Go.Proofs.YtkjkfceblmgogaaGreat
namespace Go.Proofs
open Go.Shelf Go.RowKit Go.Lib Go.Sort
shelf_lay_g SlLaysF.n6 Slsf 6 at Tryz 105 as Tryz.sortM
end Go.Proofs
namespace Go.Proofs.YtkjkfceblmgogaaGreat
open Go.RowKit
theorem Fr.mono{B B':Nat}{w:World}{v:Value}{m:List (List Int)}(h:Fr B 27 3 w v m)(hB:B'≤B):Fr B' 27 3 w v m:=by
 obtain ⟨a,b,c,d⟩:=h;exact ⟨a,b,c.mono hB,d⟩
end Go.Proofs.YtkjkfceblmgogaaGreat
namespace Go.Proofs.YtkjkfceblmgogaaGreat
open Go.RowKit
attribute [local go_sem ↓] Go.wp_at_zero Go.wp_at_succ
def ZA8(m:List (List Int)):Nat→List Nat
 | 0=>[]
 | k+1=>if k=0∨m.getD k []≠m.getD (k-1) [] then ZA8 m k ++ [k] else ZA8 m k
def ZBe(m:List (List Int)):List (List Int):=(ZA8 m m.length).map fun i=>m.getD i []
theorem ZDy{m:List (List Int)} : ∀{k i:Nat},i∈ZA8 m k→i < k
 | 0,i,h=>by simp [ZA8] at h
 | k+1,i,h=>by
  simp only [ZA8] at h
  split at h
  ·rcases List.mem_append.1 h with h | h
   ·have:=ZDy h; omega
   ·simp at h; omega
  ·have:=ZDy h; omega
theorem ZHB(m:List (List Int)):∀k,(ZA8 m k).length≤k
 | 0=>by simp [ZA8]
 | k+1=>by
  have:=ZHB m k;simp only [ZA8]
  split
  ·simp; omega
  ·omega
theorem ZEn{m:List (List Int)} : ∀k,(∀i,1≤i→i < k→m.getD i []≠m.getD (i-1) [])→ZA8 m k=List.range k
 | 0,_=>by simp [ZA8]
 | k+1,h=>by
  simp only [ZA8]
  rw [ZEn k (fun i h1 h2=>h i h1 (by omega)),List.range_succ,if_pos]
  rcases Nat.eq_zero_or_pos k with h0 | h0
  ·exact Or.inl h0
  ·exact Or.inr (h k h0 (by omega))
theorem ZH9{m:List (List Int)}(h:m.length < 2):ZBe m=m:=by
 match m,h with
 | [],_=>rfl
 | [x],_=>rfl
 | _ :: _ :: _,h=>simp at h; omega
theorem ZLk{m : List (List Int)}{r : List Int} : r ∈ ZBe m ↔ r ∈ m := by
  constructor
  · intro h
    simp only [ZBe, List.mem_map] at h;obtain ⟨i, f, rfl⟩ := h;have := ZDy f;simp [this]
  · intro h
    obtain ⟨i, f, rfl⟩ := List.mem_iff_getElem.1 h
    -- the first place of a run is kept
    have g : ∀ i, i < m.length → ∃ j ∈ ZA8 m (i + 1), m.getD j [] = m.getD i [] := by
      intro i
      induction i with
      | zero => intro _; exact ⟨0, by simp [ZA8], rfl⟩
      | succ i ih =>
        intro f
        by_cases hne : m.getD (i + 1) [] ≠ m.getD i []
        · exact ⟨i + 1, by rw [ZA8, if_pos (Or.inr (by simpa using hne))]; simp, rfl⟩
        · have l : m.getD (i + 1) [] = m.getD i [] := Classical.not_not.1 hne
          obtain ⟨j, c, d⟩ := ih (by omega)
          refine ⟨j, ?_, by rw [d, l]⟩
          rw [ZA8]
          split
          · exact List.mem_append_left _ c
          · exact c
    have grow : ∀ a b, a ≤ b → ∀ j, j ∈ ZA8 m a → j ∈ ZA8 m b := by
      intro a b n
      induction b with
      | zero => intro j c; have : a = 0 := by omega
                subst this; exact c
      | succ b ih =>
        intro j c
        by_cases e : a = b + 1
        · subst e; exact c
        · have := ih (by omega) j c
          rw [ZA8]
          split
          · exact List.mem_append_left _ this
          · exact this
    obtain ⟨j, c, d⟩ := g i f;simp only [ZBe, List.mem_map]
    refine ⟨j, grow (i + 1) m.length (by omega) j c, ?_⟩
    rw [d]; simp [f]
theorem ZEo{P:Program}{ops:Array Oper}{o:Oper}{a:Act}{w:World}{K:Act→World→Prop}{Q:Exit→Act→World→Prop}{E:Prop}
 (hg : o.guard = none)(f : FuncId)(z x y : Operand)(t s : TypeId)(hop : o.op = Op.call { callee := Callee.value z, args := #[x, y], argTypes := #[t, s] })(v u : Value)(hz : a.eval z = Value.func (Fn.func f) #[] #[])(hv : a.eval x = v)(hu : a.eval y = u)(hf : ∃ fn, P.funcs[f]? = some fn ∧ (fn.name == "runtime.NumGoroutine") = false ∧ fn.body.isNone = false)
 (hc:Calls P f #[v,u] w fun e w'=>∃u,e=.returned u∧K (a.put o.dst u) w') :
  if Region.wanted o (yielded ops a.tmps)=true then Oper.wp P o a w K Q else E:=by
 have g:Region.wanted o (yielded ops a.tmps)=true:=by simp [Region.wanted,hg]
 rw [if_pos g];unfold Oper.wp;obtain ⟨fn,l,j,c⟩:=hf
 have e:(execOp a.eval o).run P w=.ok (.enter f #[v,u]) w:=by
  have b:(callFunc f #[v,u]).run P w=.ok (.enter f #[v,u]) w:=by
   unfold callFunc
   have i : ¬ fn.name = "runtime.NumGoroutine" := by simpa using j
   have d:¬fn.body=none:=by intro e; rw [e] at c; simp at c
   simp [l,i,d]
  unfold execOp;rw [hop];simp [resolve,invoke,hv,hu,hz,Deferred.ofValue,b]
 rw [e,Oper.upon_enter];refine hc.mono ?_;rintro e w' ⟨u,rfl,h⟩;exact h
structure RowM(w:World)(g cap:Nat)(f:Nat→Value)(m:List (List Int)):Prop where
 row:w.rowIs g 27 cap f
 cap1:m.length≤cap
 cap2:cap≤9223372036854775807
 inn:∀i,i < m.length→Sl 0 3 w (f i) (ZAB (m.getD i []))
theorem Fr.rowM{B:Nat}{w:World}{v:Value}{m:List (List Int)}(h:Fr B 27 3 w v m)(hm:0 < m.length):∃g cap f,v=.slice (some ⟨g,0,none⟩) m.length cap∧B≤g∧g < w.heap.size∧RowM w g cap f m:=by
 obtain ⟨c,d,a,b⟩:=h
 rcases a.2 with ⟨_,h0⟩ | ⟨g,cap,cur,hv,hb,hh,hn,hc,hs,ht⟩
 ·omega
 ·refine ⟨g,cap,fun i=>cur.toList.getD i (.slice none 0 0),hv,hb,lt_of_block hh,⟨cur,hh,by omega,fun i hi=>?_⟩,hn,by unfold maxLen at hc; exact hc,fun i hi=>?_⟩
  ·show cur[i]?=some (cur.toList.getD i (.slice none 0 0))
   rw [←Array.getElem?_toList,Za2,Za9 (by simp; omega)]; rfl
  ·have e:cur.toList.getD i (.slice none 0 0)=c.getD i (.slice none 0 0):=by
    rw [←ht];simp only [Za2]
    rw [Zaa5 (by omega)]
   rw [e]; exact b i hi
theorem RowM.fr{B:Nat}{w:World}{g cap:Nat}{f:Nat→Value}{m:List (List Int)}(h:RowM w g cap f m)(hB:B≤g):Fr B 27 3 w (.slice (some ⟨g,0,none⟩) m.length cap) m:=by
 obtain ⟨⟨c,b,n,l⟩,j,d,a⟩:=h
 refine ⟨(List.range m.length).map f,by simp,⟨by simp,Or.inr ⟨g,cap,c,rfl,hB,b,j,by unfold maxLen; exact d,by omega,?_⟩⟩,fun i hi=>?_⟩
 ·apply List.ext_getElem?
  intro i
  by_cases hi:i < m.length
  ·rw [Zaa5 (by omega),Array.getElem?_toList,l i (by omega)]; simp [hi]
  ·rw [Zaa6 (by simp; omega),Zaa6 (by simp; omega)]
 ·have e:((List.range m.length).map f).getD i (.slice none 0 0)=f i:=by simp [hi]
  rw [e]; exact a i hi
theorem Tryz.zero27:∀w,(zeroValue 27).run Tryz.prog w=.ok (.slice none 0 0) w:=fun w=>by kernel_rfl
theorem RowM.cell{w:World}{g cap i:Nat}{f:Nat→Value}{m:List (List Int)}(h:RowM w g cap f m)(hi:i < cap):w.cell? ⟨g,i,none⟩=some (f i):=h.row.cell hi
theorem Touch.setCells{g:Nat}{w:World} : ∀(vs:List Value) (o:Nat) {w':World},Touch g w w'→Touch g w (w'.setCells g o vs)
 | [],_,_,h=>h
 | v :: r,o,_,h=>Touch.setCells r (o+1) (h.setCell o v)
theorem Touch.sl{g:Nat}{w w':World}{cur:Array Value}{v:Value}{xs:List Value}(h:Touch g w w')(hg:w.heap[g]?=some (.cells cur 27 (0,0)))(hs:Sl 0 3 w v xs):Sl 0 3 w' v xs:=
 hs.move fun b _ ht=>by
  rcases ht with ht | ⟨c,ht⟩
  ·omega
  ·have a:b≠g:=by
    rintro rfl;rw [hg] at ht;simp at ht
   exact ⟨h.block b a,Or.inr ⟨c,ht⟩⟩
structure Cm(w:World)(g cap:Nat)(f:Nat→Value)(m:List (List Int))(k j c:Nat)(f':Nat→Value)(wr:World):Prop where
 row:wr.rowIs g 27 cap f'
 len:c=(ZA8 m (k+j)).length
 done:∀i,i < c→f' i=f ((ZA8 m (k+j)).getD i 0)
 rest:∀i,k+j-1≤i→i < cap→f' i=f i
 le:c≤k+j-1
 touch:Touch g w wr
theorem Cm.same{w wr:World}{g cap k j c:Nat}{f f':Nat→Value}{m:List (List Int)}(h:Cm w g cap f m k j c f' wr)(hk:1≤k)(he:m.getD (k+j) []=m.getD (k+j-1) [])(n:Nat):Cm w g cap f m k (j+1) c f' (wr.drewN n):=by
 have e:ZA8 m (k+(j+1))=ZA8 m (k+j):=by
  show ZA8 m (k+j+1)=_
  rw [ZA8,if_neg]
  rintro (a | a)
  ·omega
  ·exact a he
 refine ⟨h.row,by rw [e]; exact h.len,by rw [e]; exact h.done,fun i h1 h2=>h.rest i (by omega) h2,by have:=h.le; omega,h.touch.drewN n⟩
theorem Cm.next{w wr:World}{g cap k j c:Nat}{f f':Nat→Value}{m:List (List Int)}(h:Cm w g cap f m k j c f' wr)(he:m.getD (k+j) []≠m.getD (k+j-1) [])(hj1:1≤j)(n:Nat) :
  Cm w g cap f m k (j+1) (c+1) (fun i=>if i=c then f (k+j) else f' i) ((wr.drewN n).setCell ⟨g,c,none⟩ (f (k+j))):=by
 have e:ZA8 m (k+(j+1))=ZA8 m (k+j) ++ [k+j]:=by
  show ZA8 m (k+j+1)=_
  rw [ZA8,if_pos (Or.inr he)]
 refine ⟨h.row.set c _,by rw [e]; simp [h.len],fun i hi=>?_,fun i h1 a=>?_,by have:=h.le; omega,(h.touch.drewN n).setCell c _⟩
 ·rw [e]
  by_cases hic:i=c
  ·have a:=h.len
   subst hic;simp [a]
  ·have a:=h.len
   simp only [hic,if_false]
   rw [h.done i (by omega)]
   simp only [Za2]; rw [Za7 (by omega)]
 ·have b:=h.le
  simp only [show i≠c by omega,if_false]
  exact h.rest i (by omega) a
theorem Cm.fin{w wr:World}{g cap k j c B:Nat}{f f':Nat→Value}{m:List (List Int)}(h:Cm w g cap f m k j c f' wr)(hr:RowM w g cap f m)(hj:k+j=m.length)(hB:B≤g) :
  Fr B 27 3 (wr.setCells g c (List.replicate (m.length-c) (.slice none 0 0))) (.slice (some ⟨g,0,none⟩) c cap) (ZBe m):=by
 have o:(ZBe m).length=c:=by
  unfold ZBe;rw [Zab1,h.len,hj]
 have p:=h.le;obtain ⟨s,a,_⟩:=hr.row;have b:=rowIs_setCells (List.replicate (m.length-c) (Value.slice none 0 0)) c wr f' h.row
 have n:RowM (wr.setCells g c (List.replicate (m.length-c) (.slice none 0 0))) g cap (fun i=>if c≤i∧i < c+(List.replicate (m.length-c) (Value.slice none 0 0)).length then (List.replicate (m.length-c) (Value.slice none 0 0))[i-c]?.getD default else f' i) (ZBe m):=by
  refine ⟨b,by have:=hr.cap1; omega,hr.cap2,fun i hi=>?_⟩
  rw [o] at hi
  simp only [show ¬c≤i by omega,false_and,if_false]
  rw [h.done i hi];have l:=h.len
  have d:(ZA8 m (k+j)).getD i 0∈ZA8 m (k+j):=by simp [show i < (ZA8 m (k+j)).length by omega]
  have r:=ZDy d
  have e:(ZBe m).getD i []=m.getD ((ZA8 m (k+j)).getD i 0) []:=by
   rw [hj] at l ⊢;unfold ZBe
   simp [show i < (ZA8 m m.length).length by omega]
  rw [e]
  exact (h.touch.setCells _ _).sl a (hr.inn _ (by omega))
 have:=n.fr hB;rw [o] at this;exact this
theorem ZIA(B:Nat)(m:List (List Int))(v:Value)(w:World)(hv:Fr B 27 3 w v m)(hm:m.length≤2000000000000) :
  Calls Tryz.prog 106 #[v,.func (.func 107) #[] #[]] w fun e w'=>∃u,e=.returned u∧Fr B 27 3 w' u (ZBe m)∧Below B w w':=by
 by_cases J:m.length < 2
 ·have HC:Hid (ZBe m=m):=ZH9 J
  obtain ⟨ao,d,T,aQ,r⟩:=ZAD (hv.rws.mat (Za4 _));subst T;have HV:Hid (Fr B 27 3 w (.slice ao m.length d) m):=hv;clear hv
  have az:decide ((m.length:Int) < 2)=true:=by simp; omega
  go_enter Tryz.func106,Tryz.ntmps106;go_wp2;go_ret
  exact ⟨_,rfl,by rw [HC.out]; exact HV.out,Below.refl _ _⟩
 ·have az:decide ((m.length:Int) < 2)=false:=by simp; omega
  obtain ⟨g,d,f,T,X,aO,G⟩:=hv.rowM (by omega)
  subst T;have l:=hid G;have aK:m.length≤d:=G.cap1;have aL:d≤9223372036854775807:=G.cap2;have aw:Hid (Fr B 27 3 w (.slice (some ⟨g,0,none⟩) m.length d) m):=hv;clear hv G;go_enter Tryz.func106,Tryz.ntmps106;go_wp2
  go_loopw [5] (fun i wr=>∃k:Nat,1≤k∧k≤m.length∧i=.int .i64 k∧(∀j,1≤j→j < k→m.getD j []≠m.getD (j-1) [])∧∃n,wr=w.drewN n) (fun i _=>m.length-(intOf i).toNat)
  case atStart=>exact ⟨1,Za4 _,by omega,rfl,fun j R J=>absurd J (by omega),0,rfl⟩
  case round=>
   obtain ⟨k,aZ,hk,rfl,ae,n,rfl⟩:=hrel;have S:=hid ae;clear ae
   by_cases hlt:k < m.length
   ·have d1:w.cell? ⟨g,k,none⟩=some (f k):=l.out.cell (by omega)
    have d2:w.cell? ⟨g,k-1,none⟩=some (f (k-1)):=l.out.cell (by omega)
    have HE:Hid (∀q,Calls Tryz.prog 107 #[f k,f (k-1)] (w.drewN q) fun e w'=>e=.returned (.bool (m.getD k [] == m.getD (k-1) []))∧∃p,w'=(w.drewN q).drewN p):=fun q=>
     ZHA 0 _ _ _ _ (w.drewN q) ((l.out.inn k hlt).drewN q) ((l.out.inn (k-1) (by omega)).drewN q)
    obtain ⟨x,hx⟩:∃x,x=m.getD k []:=⟨_,rfl⟩
    obtain ⟨y,hy⟩:∃y,y=m.getD (k-1) []:=⟨_,rfl⟩
    have HX:=hid hx;have HY:=hid hy;rw [←hx,←hy] at HE;clear hx hy
    obtain ⟨D,P,A,s⟩:∃D P A,f k=.slice D P A:=by
     obtain ⟨D,A,h,_⟩:=ZAI (l.out.inn k hlt); exact ⟨D,_,A,h⟩
    obtain ⟨L,V,F,t⟩:∃L V F,f (k-1)=.slice L V F:=by
     obtain ⟨L,F,h,_⟩:=ZAI (l.out.inn (k-1) (by omega)); exact ⟨L,_,F,h⟩
    rw [s,t] at HE;rw [s] at d1;rw [t] at d2;clear s t
    obtain ⟨a,af⟩:∃a,k=a+1:=⟨k-1,by omega⟩
    subst af;simp only [Nat.add_sub_cancel] at d2
    have aV:(a:Int)+1 < (m.length:Int):=by omega
    have aI:(0:Int)≤(a:Int)+1:=by omega
    have aU:(a:Int) < (m.length:Int):=by omega
    have aH:(0:Int)≤(a:Int):=by omega
    have aW:IntKind.i64.wrap (a:Int)=(a:Int):=by rw [IntWalk.i64_left]; exact IntWalk.wrap64_in _ ⟨by omega,by omega⟩
    go_wp2
    go_region_law (refine ZEo (o:={ dst:=some 28,op:=_,type:=_,pos:=_,after:=_,guard:=_ }) (by rfl) 107 _ _ _ 27 27 (by rfl) _ _ (by rfl) (by rfl) (by rfl) ⟨_,Tryz.func107,by rfl,by rfl⟩ ?_; refine (HE.out (n+1)).mono ?_; rintro e w2 ⟨rfl,p,rfl⟩; refine ⟨_,rfl,?_⟩)
    all_goals
     cases hxy:(x == y)
     ·have ar:Hid (∀j,1≤j→j < a+2→m.getD j []≠m.getD (j-1) []):=fun j R J=>by
       by_cases hj:j < a+1
       ·exact S.out j R hj
       ·have:j=a+1:=by omega
        subst this;rw [←HX.out,←HY.out];exact beq_eq_false_iff_ne.1 hxy
      clear hxy;go_wp2
      go_roundw
      case rel=>exact ⟨a+2,by omega,by omega,by go_num,ar.out,_,rfl⟩
      case measure=>simp [intOf]; omega
     ·have an:Hid (m.getD (a+1) []=m.getD a []):=by
       show _=_
       have h:=beq_iff_eq.1 hxy;rw [HX.out,HY.out] at h;exact h
      have ay:Hid (Cm w g d f m (a+1) 1 (a+1) f (w.drewN (n+1+p))):=by
       have e0:ZA8 m (a+1)=List.range (a+1):=ZEn _ (fun i R J=>S.out i R J)
       have e1:ZA8 m (a+1+1)=List.range (a+1):=by
        rw [ZA8,if_neg,e0]
        rintro (h0 | h0)
        ·omega
        ·exact h0 an.out
       refine ⟨l.out.row,by rw [e1]; simp,fun i hi=>by rw [e1]; simp [hi],fun _ _ _=>rfl,by omega,(Touch.refl _ _).drewN _⟩
      have aS:a+1 < d:=by omega
      clear hxy d1 d2;go_wp2
      go_loopw [5,7] (fun x1 O wr=>∃(j c:Nat) (U:Nat→Value),1≤j∧a+1+j≤m.length∧O=.int .i64 j∧x1=.int .i64 c∧Cm w g d f m (a+1) j c U wr) (fun _ O _=>m.length-(intOf O).toNat)
      case atStart=>exact ⟨1,a+1,f,Za4 _,by omega,rfl,rfl,ay.out⟩
      case round=>
       obtain ⟨j,c,U,aX,hj,rfl,rfl,r⟩:=hrel;have z:=hid r;have aP:=r.le
       obtain ⟨b,ag⟩:∃b,j=b+1:=⟨j-1,by omega⟩
       subst ag
       by_cases hjn:a+1+(b+1) < m.length
       ·have d1:wr.cell? ⟨g,a+1+(b+1),none⟩=some (f (a+1+(b+1))):=by rw [r.row.cell (by omega),r.rest _ (by omega) (by omega)]
        have d2:wr.cell? ⟨g,a+1+b,none⟩=some (f (a+1+b)):=by rw [r.row.cell (by omega),r.rest _ (by omega) (by omega)]
        obtain ⟨aM,E,_⟩:=l.out.row
        have Q:Hid (∀q,Calls Tryz.prog 107 #[f (a+1+(b+1)),f (a+1+b)] (wr.drewN q) fun e w'=>e=.returned (.bool (m.getD (a+1+(b+1)) [] == m.getD (a+1+b) []))∧∃p,w'=(wr.drewN q).drewN p):=fun q=>
         ZHA 0 _ _ _ _ (wr.drewN q) ((z.out.touch.sl E (l.out.inn _ hjn)).drewN q) ((z.out.touch.sl E (l.out.inn _ (by omega))).drewN q)
        obtain ⟨D,P,A,s⟩:∃D P A,f (a+1+(b+1))=.slice D P A:=by
         obtain ⟨D,A,h,_⟩:=ZAI (l.out.inn _ hjn); exact ⟨D,_,A,h⟩
        obtain ⟨L,V,F,t⟩:∃L V F,f (a+1+b)=.slice L V F:=by
         obtain ⟨L,F,h,_⟩:=ZAI (l.out.inn (a+1+b) (by omega)); exact ⟨L,_,F,h⟩
        have am:=hid s;rw [s,t] at Q;rw [s] at d1;rw [t] at d2
        obtain ⟨O,M⟩:∃O,O=m.getD (a+1+(b+1)) []:=⟨_,rfl⟩
        obtain ⟨y2,N⟩:∃y2,y2=m.getD (a+1+b) []:=⟨_,rfl⟩
        have Y:=hid M;have ah:=hid N;rw [←M,←N] at Q
        have d3:=r.row.cell (i:=c) (by omega)
        have d4:=r.row.frozen c;generalize U c=fc at d3;clear M N s t E r
        have au:(b:Int)+1 < ((m.length-(a+1):Nat):Int):=by omega
        have aD:(0:Int)≤(b:Int)+1:=by omega
        have aR:(b:Int) < ((m.length-(a+1):Nat):Int):=by omega
        have aF:(0:Int)≤(b:Int):=by omega
        have aN:IntKind.i64.wrap (b:Int)=(b:Int):=by rw [IntWalk.i64_left]; exact IntWalk.wrap64_in _ ⟨by omega,by omega⟩
        have aj:(c:Int) < (m.length:Int):=by omega
        have aa:(0:Int)≤(c:Int):=by omega
        go_wp2
        go_region_law (refine ZEo (o:={ dst:=some 48,op:=_,type:=_,pos:=_,after:=_,guard:=_ }) (by rfl) 107 _ _ _ 27 27 (by rfl) _ _ (by rfl) (by rfl) (by rfl) ⟨_,Tryz.func107,by rfl,by rfl⟩ ?_; refine (Q.out 1).mono ?_; rintro e w2 ⟨rfl,p2,rfl⟩; refine ⟨_,rfl,?_⟩)
        all_goals
         cases hxy2:(O == y2)
         ·have aA:Hid (Cm w g d f m (a+1) (b+1+1) (c+1) (fun i=>if i=c then .slice D P A else U i) ((wr.drewN (1+p2)).setCell ⟨g,c,none⟩ (.slice D P A))):=by
           have h:=z.out.next (by
            rw [←Y.out,show a+1+(b+1)-1=a+1+b by omega,←ah.out]
            exact beq_eq_false_iff_ne.1 hxy2) (by omega) (1+p2)
           rw [am.out] at h;exact h
          clear hxy2;go_wp2
          go_roundw
          case rel=>exact ⟨b+1+1,c+1,_,by omega,by omega,by go_num,by go_num,aA.out⟩
          case measure=>simp [intOf]; omega
         ·have aB:Hid (Cm w g d f m (a+1) (b+1+1) c U (wr.drewN (1+p2))):=z.out.same (by omega) (by
           rw [←Y.out,show a+1+(b+1)-1=a+1+b by omega,←ah.out]
           exact beq_iff_eq.1 hxy2) (1+p2)
          clear hxy2;go_wp2
          go_roundw
          case rel=>exact ⟨b+1+1,c,U,by omega,by omega,by go_num,rfl,aB.out⟩
          case measure=>simp [intOf]; omega
       ·have ai:a+1+(b+1)=m.length:=by omega
        have aC:Hid (Fr B 27 3 (wr.setCells g c (List.replicate (m.length-c) (.slice none 0 0))) (.slice (some ⟨g,0,none⟩) c d) (ZBe m)):=z.out.fin l.out ai X;have aq:Hid (Below B w (wr.setCells g c (List.replicate (m.length-c) (.slice none 0 0)))):=(z.out.touch.setCells _ _).below (Below.refl _ _) X
        have aE:∀ty,(Builtin.clear_ #[22] ty #[.slice (some ⟨g,c,none⟩) (m.length-c) (d-c)]).run Tryz.prog wr=.ok (.tuple #[]) (wr.setCells g c (List.replicate (m.length-c) (.slice none 0 0))):=
         fun ty=>Lib.run_clear_slice wr 22 27 ty (.slice none 0 0) Tryz.underlying22 Tryz.zero27 rfl rfl g c (m.length-c) (d-c) (by omega) (fun q hq=>by rw [r.row.cell (by omega)]; rfl) (fun q hq=>r.row.frozen _)
        have aj:(c:Int)≤(m.length:Int):=by omega
        have aa:(0:Int)≤(c:Int):=by omega
        have aY:c < d:=by omega
        have aJ:c≤m.length:=by omega
        have aG:c≤d:=by omega
        have au:decide ((b:Int)+1 < ((m.length-(a+1):Nat):Int))=false:=by simp; omega
        clear r;go_wp2;go_ret;exact ⟨_,rfl,aC.out,aq.out⟩
   ·have ak:Hid (ZBe m=m):=by
     show _=_
     have aT:k=m.length:=by omega
     unfold ZBe
     rw [ZEn m.length (fun i R J=>S.out i R (by omega))]
     apply List.ext_getElem (by simp)
     intro i R J;simp [J]
    go_wp2;go_ret
    exact ⟨_,rfl,by rw [ak.out]; exact aw.out,⟨rfl,rfl,rfl,Za4 _,fun _ _=>rfl⟩⟩
end Go.Proofs.YtkjkfceblmgogaaGreat
namespace Go.Proofs.YtkjkfceblmgogaaGreat
open Go.Shelf Go.RowKit Go.Lib Go.Sort
theorem ZCT:∀x,ZAm x x=0
 | []=>rfl
 | a :: x=>by simp [ZAm,ZCT x]
theorem ZCc:∀x y z,ZAm x y < 0→ZAm y z < 0→ZAm x z < 0
 | [],[],_,h,_=>by simp [ZAm] at h
 | [],b :: y,[],_,h=>by simp [ZAm] at h
 | [],b :: y,c :: z,_,_=>by simp [ZAm]
 | a :: x,[],_,h,_=>by simp [ZAm] at h
 | a :: x,b :: y,[],_,h=>by simp [ZAm] at h
 | a :: x,b :: y,c :: z,h1,h2=>by
  have ih:=ZCc x y z;simp only [ZAm] at *
  split at h1 <;> split at h2 <;> split <;> (try split at h1) <;> (try split at h2) <;> (try split) <;> first | omega | (exact ih h1 h2)
theorem ZEp:∀x y z,¬ZAm x y < 0→¬ZAm y z < 0→¬ZAm x z < 0
 | [],[],z,_,h=>h
 | [],b :: y,_,h,_=>by simp [ZAm] at h
 | a :: x,[],[],_,_=>by simp [ZAm]
 | a :: x,[],c :: z,_,h=>by simp [ZAm] at h
 | a :: x,b :: y,[],_,_=>by simp [ZAm]
 | a :: x,b :: y,c :: z,h1,h2=>by
  have ih:=ZEp x y z;simp only [ZAm] at *
  split at h1 <;> split at h2 <;> split <;> (try split at h1) <;> (try split at h2) <;> (try split) <;> first | omega | (exact ih h1 h2)
def RA(w:World):Type:={ p:Value×List Int // Sl 0 3 w p.1 (ZAB p.2) }
instance (w:World):Inhabited (RA w):=⟨⟨(.slice none 0 0,[]),Sl.nil _ _ _⟩⟩
def RA.enc{w:World}(x:RA w):Value:=x.1.1
def RA.cf{w:World}(x y:RA w):Int:=ZAm x.1.2 y.1.2
theorem RA.swo(w:World):SWO (ltOf (RA.cf (w:=w))) where
 irrefl x:=by simp [ltOf,RA.cf,ZCT]
 trans x y z h1 h2:=by
  exact decide_eq_true (ZCc _ _ _ (of_decide_eq_true h1) (of_decide_eq_true h2))
 ntrans x y z h1 h2:=by
  exact decide_eq_false (ZEp _ _ _ (of_decide_eq_false h1) (of_decide_eq_false h2))
theorem RA.one(w:World):OneCell (RA.enc (w:=w)):=fun x=>by
 obtain ⟨b,a,h,_⟩:=x.2
 show x.1.1.oneCell'=true
 rw [h]; rfl
theorem ZCU{α:Type}[Inhabited α](enc:α→Value)(w:World)(g off q:Nat)(d:Array α)(os:Array Obj)(b:Nat)(hb:b < w.heap.size)(hne:b≠g):(sortWorld enc w g off q d os).heap[b]?=w.heap[b]?:=by
 show ((w.heap.modify g _) ++ os)[b]?=_
 rw [Array.getElem?_append_left (by simpa using hb),Array.getElem?_modify,if_neg (fun e=>hne e.symm)]
theorem ZFA{α:Type}[Inhabited α](enc:α→Value)(w:World)(g off q:Nat)(d:Array α)(os:Array Obj):w.heap.size≤(sortWorld enc w g off q d os).heap.size:=by
 show w.heap.size≤((w.heap.modify g _) ++ os).size
 simp
theorem ZCV{α:Type}[Inhabited α]{enc:α→Value}{w:World}{g off q:Nat}{d:Array α}{os:Array Obj}{cur:Array Value}{v:Value}{xs:List Value}(hg:w.heap[g]?=some (.cells cur 27 (0,0)))(h:Sl 0 3 w v xs):Sl 0 3 (sortWorld enc w g off q d os) v xs:=
 h.move fun b hl ht=>by
  rcases ht with ht | ⟨c,ht⟩
  ·omega
  ·have a:b≠g:=by
    rintro rfl;rw [hg] at ht;simp at ht
   exact ⟨ZCU _ _ _ _ _ _ _ b hl a,Or.inr ⟨c,ht⟩⟩
theorem ZGG{α:Type}[Inhabited α](enc:α→Value)(w:World)(g q cap:Nat)(d:Array α)(os:Array Obj)(f:Nat→Value)(h:w.rowIs g 27 cap f):(sortWorld enc w g 0 q d os).rowIs g 27 cap (fun k=>if k < d.size then enc d[k]! else f k):=by
 obtain ⟨c,a,j,b⟩:=h;have l:=lt_of_block a
 refine ⟨putCells enc 0 d c,?_,by simp [putCells,j],fun i hi=>?_⟩
 ·show ((w.heap.modify g _) ++ os)[g]?=_
  rw [Array.getElem?_append_left (by simpa using l),Array.getElem?_modify,if_pos rfl,a]
  rfl
 ·unfold putCells
  rw [Array.getElem?_mapIdx,b i hi];simp
theorem ZNp{w:World}(d:Array (RA w)){i:Nat}(h:i < d.size):(d.toList.map (fun x:RA w=>x.1.2)).getD i []=(d[i]!).1.2:=by
 rw [getElem!_pos d i h,Za2,List.getElem?_map,Za9 (by simpa using h)]
 rfl
theorem ZNq(B:Nat)(m:List (List Int))(v:Value)(w:World)(hv:Fr B 27 3 w v m)(hm:m.length≤2000000000000) :
  Calls Tryz.prog 105 #[v,.func (.func 59) #[] #[]] w fun e w'=>e=.returned (.tuple #[])∧∃m':List (List Int),m'.Perm m∧(∀i j,i < j→j < m'.length→¬ZAm (m'.getD j []) (m'.getD i []) < 0)∧Fr B 27 3 w' v m'∧Below B w w':=by
 by_cases h0:m.length=0
 ·have N:m=[]:=List.eq_nil_of_length_eq_zero h0
  subst N;obtain ⟨ao,p,t,_,_⟩:=ZAD (hv.rws.mat (Za4 _));subst t
  have a:=AnyF.slices_SortFunc_none (P:=Tryz.prog) (ρ:=Tryz.sortM_ren) { Tryz.sortM with } ao p (.func (.func 59) #[] #[]) w
  change Calls Tryz.prog 105 _ _ _ at a
  refine a.mono ?_;rintro e w' ⟨rfl,rfl⟩
  exact ⟨rfl,[],List.Perm.refl _,fun i j _ h=>absurd h (by simp),hv,Below.refl _ _⟩
 ·obtain ⟨g,p,f,t,M,G,c⟩:=hv.rowM (by omega)
  subst t;obtain ⟨V,n,_⟩:=c.row
  obtain ⟨d,R⟩:∃d:Array (RA w),d=Array.ofFn (fun i:Fin m.length=>(⟨(f i,m.getD i []),c.inn i i.2⟩:RA w)):=⟨_,rfl⟩
  have z:d.size=m.length:=by rw [R]; exact Array.size_ofFn
  have E:∀j (s:j < m.length),d[j]! = (⟨(f j,m.getD j []),c.inn j s⟩:RA w):=fun j s=>by
   rw [getElem!_pos d j (by omega)]
   subst R;exact Array.getElem_ofFn _
  have X:Holds (RA.enc (w:=w)) w g 0 d:=fun j s=>by
   rw [z] at s;rw [E j s,Nat.zero_add];exact ⟨c.cell (Nat.lt_of_lt_of_le s c.cap1),c.row.frozen j⟩
  have eg:∀args w,(callFunc 59 args).run Tryz.prog w=.ok (.enter 59 args) w:=enters_of Tryz.func59 (by kernel_rfl) rfl
  have A:CmpReads Tryz.prog 59 #[] (RA.enc (w:=w)) RA.cf g 0 d.size w:=fun q Q dk _ x y=>
   (ZEm 0 x.1.2 y.1.2 x.1.1 y.1.1 _ (ZCV n x.2) (ZCV n y.2)).mono fun e w' ⟨he,hw⟩=>⟨he,0,hw⟩
  have a:=Any.slices_SortFunc Tryz.sortM (RA.enc (w:=w)) (RA.one w) RA.cf (RA.swo w) 59 #[] g 0 p d w eg A.lays X G (by omega)
  change Calls Tryz.prog 105 _ _ _ at a
  rw [z] at a;refine a.mono ?_;rintro e w' ⟨rfl,l,q,Q,⟨aa,ae,D⟩,hs,rfl⟩
  have r:l.size=m.length:=by omega
  refine ⟨rfl,l.toList.map (fun x=>x.1.2),?_,?_,?_,?_⟩
  ·have e1:(l.extract 0 m.length).toList=l.toList:=by rw [Array.toList_extract]; simp; exact Zaa2 (by simp; omega)
   have e2:(d.extract 0 m.length).toList=d.toList:=by rw [Array.toList_extract]; simp; exact Zaa2 (by simp; omega)
   rw [e1,e2] at D
   have F:d.toList.map (fun x:RA w=>x.1.2)=m:=by
    apply List.ext_getElem (by simp [z])
    intro i U S
    have T:=ZNp d (i:=i) (by omega)
    rw [E i S] at T
    have Y:(d.toList.map (fun x:RA w=>x.1.2)).getD i []=(d.toList.map (fun x:RA w=>x.1.2))[i]:=by rw [Za2,Za9 U]; rfl
    have h5:m.getD i []=m[i]:=by rw [Za2,Za9 S]; rfl
    rw [←Y,T,←h5]
   rw [←F];exact D.map _
  ·intro i j J s
   have L:j < m.length:=by simpa [r] using s
   have h:=hs i j (Za5 _) J L;have h:=of_decide_eq_false h
   rw [ZNp l (by omega),ZNp l (by omega)]; exact h
  ·have o:(l.toList.map (fun x:RA w=>x.1.2)).length=m.length:=by simp [r]
   have O:RowM (sortWorld (RA.enc (w:=w)) w g 0 q l Q) g p (fun k=>if k < l.size then RA.enc l[k]! else f k) (l.toList.map (fun x=>x.1.2)):=by
    refine ⟨ZGG _ _ _ _ _ _ _ _ c.row,by rw [o]; exact c.cap1,c.cap2,fun i hi=>?_⟩
    rw [o] at hi
    simp only [show i < l.size by omega,if_true]
    rw [ZNp l (by omega)]
    exact ZCV n (l[i]!).2
   have:=O.fr M;rw [o] at this;exact this
  ·exact ⟨rfl,rfl,rfl,ZFA _ _ _ _ _ _ _,fun b hb=>ZCU _ _ _ _ _ _ _ b (by omega) (by omega)⟩
end Go.Proofs.YtkjkfceblmgogaaGreat
namespace Go.Proofs.YtkjkfceblmgogaaGreat
open Go.RowKit
attribute [local go_sem ↓] Go.wp_at_zero Go.wp_at_succ
theorem ZLl(m:List (List Int)):(ZBe m).length≤m.length:=by
 unfold ZBe;rw [Zab1]; exact ZHB _ _
def Asc(m:List (List Int)):Prop:=∀i j,i < j→j < m.length→¬ZAm (m.getD j []) (m.getD i []) < 0
structure Inor(m' m:List (List Int)):Prop where
 mem:∀r,r∈m'↔r∈m
 len:m'.length≤m.length
 srt:∃m0:List (List Int),m0.Perm m∧Asc m0∧m'=ZBe m0
theorem ZCW{B:Nat}{w:World}{v:Value}{m:List (List Int)}(h:Fr B 27 3 w v m):∃ao cap,v=.slice ao m.length cap∧m.length≤cap∧cap≤9223372036854775807:=ZAD (h.rws.mat (Za4 _))
theorem ZIB(B:Nat)(m:List (List Int))(v:Value)(w:World)(hv:Fr B 27 3 w v m)(hm:m.length≤2000000000000) :
  Calls Tryz.prog 78 #[v] w fun e w'=>∃u m',e=.returned u∧Fr B 27 3 w' u m'∧Inor m' m∧Below B w w':=by
 obtain ⟨z,d,l,M,E⟩:=ZCW hv;subst l;have D:Hid (Fr B 27 3 w (.slice z m.length d) m):=hv;clear hv;go_enter Tryz.func78,Tryz.ntmps78
 go_wp2_with fail
 refine (ZNq B m _ w D.out hm).mono ?_;rintro e j ⟨rfl,a,p,t,y,s⟩;have f:Hid (a.Perm m):=p;have J:Hid (Asc a):=t;have G:Hid (Fr B 27 3 j (.slice z m.length d) a):=y;have L:Hid (Below B w j):=s;clear p t y s
 go_wp2_with fail
 refine (ZIA B a _ j G.out (by rw [f.out.length_eq]; exact hm)).mono ?_
 rintro e x ⟨u,rfl,b,c⟩;obtain ⟨A,F,g,_,_⟩:=ZCW b;subst g;have n:Hid (Fr B 27 3 x (.slice A (ZBe a).length F) (ZBe a)):=b;have o:Hid (Below B w x):=L.out.trans c
 have i:Hid (Inor (ZBe a) m):=⟨fun r=>by rw [ZLk]; exact f.out.mem_iff,by rw [←f.out.length_eq]; exact ZLl _,a,f.out,J.out,rfl⟩
 clear b c;generalize hgl:(ZBe a).length=gl at *;go_wp2;go_ret;exact ⟨_,ZBe a,rfl,n.out,i.out,o.out⟩
end Go.Proofs.YtkjkfceblmgogaaGreat
