import Derived.Test.YtdanomklbiidaaaGreatDoorMgAB
import Derived.Maps.AppendAt
namespace Go.Proofs.YtdanomklbiidaaaGreatDoor
open Go.RowKit
set_option maxRecDepth 100000 in
set_option maxHeartbeats 400000 in
theorem piv1_any (B q:Nat) (r:List Int) (v:Value) (a:Addr) (w:World) (hv:Sl B 3 w v (ints r)) (hq:q < r.length) (hc:w.cell? a=some (.int .i64 q)) :
  Calls Tryz.prog 100 #[v,.pointer (some a)] w fun e w'=>e=.returned (.bool (r.getD q 0 != 0))∧w'=w:=by
 obtain ⟨ao,cap,hvv,hlc,hcm⟩:=sl_open hv
 subst hvv
 obtain ⟨b,o,cp,hs,hc1,hcc⟩:=sl_cell hv hq
 simp only [Value.slice.injEq] at hs
 obtain ⟨rfl,_,rfl⟩:=hs
 clear hv
 generalize r.getD q 0=x at *
 go_enter Tryz.func100,Tryz.ntmps100
 go_wp2
 go_ret
 exact ⟨rfl,rfl⟩
def findR (m:List (List Int)) (q:Nat):Int:=if m.any (fun r=>r.getD q 0 != 0) then (m.findIdx (fun r=>r.getD q 0 != 0):Int) else -1
theorem anyR_snoc {p:List Int→Bool} {l:List (List Int)} {k:Nat} (h:k < l.length) (h0:(l.take k).any p=false):(l.take (k+1)).any p=p (l.getD k []):=by
 rw [List.take_succ_eq_append_getElem h,List.any_append,h0]; simp [h]
theorem findR_hit {l:List (List Int)} {q k:Nat} (h:k < l.length) (h0:(l.take k).any (fun r=>r.getD q 0 != 0)=false) (h1:((l.getD k []).getD q 0 != 0)=true):findR l q=k:=by
 have hk:l.getD k []=l[k]:=by simp [h]
 have ha:l.any (fun r=>r.getD q 0 != 0)=true:=List.any_eq_true.2 ⟨l[k],List.getElem_mem h,by rw [←hk]; exact h1⟩
 have hi:l.findIdx (fun r=>r.getD q 0 != 0)=k:=by
  rw [List.findIdx_eq h]
  refine ⟨by rw [←hk]; exact h1,fun j hj=>?_⟩
  have:=List.any_eq_false.1 h0 l[j] (by rw [List.mem_take_iff_getElem]; exact ⟨j,by omega,rfl⟩)
  simpa using this
 unfold findR; rw [ha,hi]; rfl
theorem findR_none {l:List (List Int)} {q:Nat} (h0:l.any (fun r=>r.getD q 0 != 0)=false):findR l q=-1:=by
 unfold findR; rw [h0]; rfl
set_option maxRecDepth 100000 in
set_option maxHeartbeats 800000 in
theorem index103_any (B q:Nat) (m:List (List Int)) (v:Value) (a:Addr) (w:World) (hv:Mat B 22 3 w v m) (hr:∀r∈m,q < r.length) (hc:w.cell? a=some (.int .i64 q)) :
  Calls Tryz.prog 41 #[v,.func (.func 100) #[] #[.pointer (some a)]] w fun e w'=>e=.returned (.int .i64 (findR m q))∧w'=w:=by
 obtain ⟨ao,cap,hvv,hlc,hcm⟩:=mat_open hv
 subst hvv
 have HV:Hid (Mat B 22 3 w (.slice ao m.length cap) m):=hv
 have HR:Hid (∀r∈m,q < r.length):=hr
 have HC:Hid (w.cell? a=some (.int .i64 q)):=hc
 clear hv hr hc
 go_enter Tryz.func41,Tryz.ntmps41
 go_wp2
 go_loop [8] (fun i=>∃k:Nat,k≤m.length∧i=.int .i64 k∧(m.take k).any (fun r=>r.getD q 0 != 0)=false) (fun i=>m.length-(intOf i).toNat)
 case atStart=>exact ⟨0,Nat.zero_le _,rfl,by simp⟩
 case round=>
  obtain ⟨k,hk,rfl,hno⟩:=hrel
  have HN:Hid ((m.take k).any (fun r=>r.getD q 0 != 0)=false):=hno
  clear hno
  by_cases hlt:k < m.length
  ·obtain ⟨b,o,cp,r1,hs,hc1,hcc,hr1⟩:=mat_cell HV.out hlt
   simp only [Value.slice.injEq] at hs
   obtain ⟨rfl,_,rfl⟩:=hs
   have HS1:Hid ((m.take (k+1)).any (fun r=>r.getD q 0 != 0)=((m.getD k []).getD q 0 != 0)):=anyR_snoc (p:=fun r=>r.getD q 0 != 0) hlt HN.out
   have HH:Hid (((m.getD k []).getD q 0 != 0)=true→findR m q=k):=fun h=>findR_hit hlt HN.out h
   have HQ:Hid (q < (m.getD k []).length):=HR.out _ (by simp [hlt])
   have HR1:Hid (Sl B 3 w r1 (ints (m.getD k []))):=hr1
   clear hr1
   generalize m.getD k []=r at *
   go_wp2_with fail
   refine (piv1_any B q r r1 a w HR1.out HQ.out HC.out).mono ?_
   rintro e w' ⟨rfl,rfl⟩
   generalize r.getD q 0=x at *
   by_cases hx:x=0
   ·have hxb:(x != 0)=false:=by simp [hx]
    clear hx
    go_wp2
    go_round
    case rel=>exact ⟨k+1,by omega,by go_num,by rw [HS1.out,hxb]⟩
    case measure=>simp [intOf]; omega
   ·have hxb:(x != 0)=true:=by simp [hx]
    clear hx
    go_wp2
    go_ret
    exact ⟨ret_int (HH.out hxb).symm,rfl⟩
  ·have HTK:Hid (m.take k=m):=List.take_of_length_le (by omega)
   go_wp2
   go_ret
   exact ⟨ret_int (findR_none (by rw [←HN.out,HTK.out])).symm,rfl⟩
structure RS (B R n c:Nat) (mat:Nat→Nat→Int) (piv:List Int) (val sgn:Int) (go capo:Nat) (pv:Value) (bs caps:Nat→Nat) (w:World):Prop where
 st:w.heap[R]?=some (.cells #[.slice (some ⟨go,0,none⟩) n capo,pv,.int .i64 val,.int .i64 sgn] 78 (0,0))
 out:w.ownsRow B 22 1 (.slice (some ⟨go,0,none⟩) n capo) n ((List.range n).map fun i=>.slice (some ⟨bs i,0,none⟩) c (caps i))
 row:∀i,i < n→w.ownsRow B 3 1 (.slice (some ⟨bs i,0,none⟩) c (caps i)) c (ints ((List.range c).map (mat i)))
 inj:∀i j,i < n→j < n→i≠j→bs i≠bs j
 piv:w.ownsRow B 3 1 pv piv.length (ints piv)
 off:∀g,pv.ownBlock=some g→∀i,i < n→bs i≠g
def rowsOf (n c:Nat) (mat:Nat→Nat→Int):List (List Int):=(List.range n).map fun i=>(List.range c).map (mat i)
end Go.Proofs.YtdanomklbiidaaaGreatDoor

namespace Go.Proofs.YtdanomklbiidaaaGreatDoor
open Go.RowKit
attribute [local go_sem ↓] Go.wp_at_zero Go.wp_at_succ
theorem RS.below {B N R n c:Nat} {mat:Nat→Nat→Int} {piv:List Int} {val sgn:Int} {go capo:Nat} {pv:Value} {bs caps:Nat→Nat} {w w':World} (h:RS B R n c mat piv val sgn go capo pv bs caps w) (hb:Below N w w') (hN:w.heap.size≤N) :
  RS B R n c mat piv val sgn go capo pv bs caps w':=
 ⟨(hb.block R (Nat.lt_of_lt_of_le (lt_of_block h.st) hN)).trans h.st,owns_below h.out hb hN,fun i hi=>owns_below (h.row i hi) hb hN,h.inj,owns_below h.piv hb hN,h.off⟩
theorem RS.tail {B R n c:Nat} {mat:Nat→Nat→Int} {piv:List Int} {val sgn:Int} {go capo:Nat} {pv:Value} {bs caps:Nat→Nat} {w:World} (h:RS B R n c mat piv val sgn go capo pv bs caps w) (k:Nat) (hk:k < n) :
  Mat B 22 3 w (.slice (some ⟨go,k,none⟩) (n-k) (capo-k)) ((rowsOf n c mat).drop k):=by
 have hl:((rowsOf n c mat).drop k).length=n-k:=by simp [rowsOf]
 obtain ⟨q1,q2⟩:=h.out
 rcases q2 with ⟨q2,_⟩ | ⟨g,cap,cur,q2,hg,hh,hn,hc,hs,ht⟩
 ·simp at q2
 ·simp only [Value.slice.injEq,Option.some.injEq,Addr.mk.injEq,and_true,true_and] at q2
  obtain ⟨rfl,rfl⟩:=q2
  refine ⟨((List.range n).map fun i=>Value.slice (some ⟨bs i,0,none⟩) c (caps i)).drop k,by simp [rowsOf],⟨some ⟨go,k,none⟩,capo-k,?_,?_,?_,fun i hi=>⟨go,k,rfl,?_,Or.inr ⟨cur,hh⟩⟩,fun h=>by cases h⟩,fun i hi=>?_⟩
  ·simp
  ·simp; omega
  ·omega
  ·have hi':k+i < n:=by simp at hi; omega
   have:=h.out.cellAt (k+i) (by omega)
   rw [this,List.getElem?_drop]
  ·rw [hl] at hi
   have e1:(((List.range n).map fun i=>Value.slice (some ⟨bs i,0,none⟩) c (caps i)).drop k).getD i (.slice none 0 0)=.slice (some ⟨bs (k+i),0,none⟩) c (caps (k+i)):=by
    simp [show k+i < n by omega]
   have e2:((rowsOf n c mat).drop k).getD i []=(List.range c).map (mat (k+i)):=by
    simp [rowsOf,show k+i < n by omega]
   rw [e1,e2]
   exact Sl.own (h.row (k+i) (by omega))
theorem mat_empty (B:Nat) (w:World) (a:Addr) (cap:Nat) (h:cap≤maxLen):Mat B 22 3 w (.slice (some a) 0 cap) []:=
 ⟨[],rfl,⟨some a,cap,rfl,by simp,h,fun i hi=>absurd hi (by simp),fun h=>by cases h⟩,fun i hi=>absurd hi (by simp)⟩
theorem rows_find_none {n c q k:Nat} {mat:Nat→Nat→Int} (hq:q < c) (hz:∀i,k≤i→i < n→mat i q=0):findR ((rowsOf n c mat).drop k) q=-1:=by
 apply findR_none
 rw [List.any_eq_false]
 intro r hr
 obtain ⟨i,hi,rfl⟩:=List.mem_iff_getElem.1 hr
 have hi':k+i < n:=by simp [rowsOf] at hi; omega
 have:=hz (k+i) (by omega) hi'
 simp [rowsOf,hq,this]
theorem rows_len {n c q k:Nat} {mat:Nat→Nat→Int} (hq:q < c):∀r∈(rowsOf n c mat).drop k,q < r.length:=by
 intro r hr
 have:=List.mem_of_mem_drop hr
 simp only [rowsOf,List.mem_map] at this
 obtain ⟨i,_,rfl⟩:=this
 simpa using hq
set_option maxRecDepth 100000 in
set_option maxHeartbeats 800000 in
theorem pivot_none (B R n c q:Nat) (mat:Nat→Nat→Int) (piv:List Int) (val sgn:Int) (go capo:Nat) (pv:Value) (bs caps:Nat→Nat) (w:World) (h:RS B R n c mat piv val sgn go capo pv bs caps w) (hB:B≤w.heap.size)
  (hn:n≤500) (hk:piv.length≤n) (hq:q < c) (hz:∀i,piv.length≤i→i < n→mat i q=0) :
  Calls Tryz.prog 81 #[.pointer (some ⟨R,0,none⟩),.int .i64 q] w fun e w'=>e=.returned (.tuple #[])∧RS B R n c mat piv val sgn go capo pv bs caps w'∧Below B w w':=by
 obtain ⟨po,pc,hpv⟩:=owns_form h.piv
 subst hpv
 have HR:Hid (RS B R n c mat piv val sgn go capo (.slice po piv.length pc) bs caps w):=h
 have HZ:Hid (∀i,piv.length≤i→i < n→mat i q=0):=hz
 have hcc:n≤capo∧capo≤9223372036854775807:=by
  obtain ⟨_,h2⟩:=h.out
  rcases h2 with ⟨h,_⟩ | ⟨k,cp,cur,h,_,_,h3,h4,_⟩
  ·simp at h
  ·simp only [Value.slice.injEq] at h; unfold maxLen at h4; omega
 have hst:=h.st
 have hRlt:=lt_of_block hst
 have h0:w.cell? ⟨R,0,none⟩=some (.slice (some ⟨go,0,none⟩) n capo):=by simp [World.cell?,hst]
 have h1:w.cell? ⟨R,1,none⟩=some (.slice po piv.length pc):=by simp [World.cell?,hst]
 clear h hz hst
 generalize hkl:piv.length=k at *
 clear hkl
 have HAL:Hid (Below w.heap.size w (w.alloc (.cells #[.int .i64 q] 3))):=(Below.refl _ _).alloc (Nat.le_refl _) _
 have HF:Hid (findR ((rowsOf n c mat).drop k) q=-1):=rows_find_none hq HZ.out
 by_cases hkn:k < n
 ·have hkc:k < capo:=by omega
  go_enter Tryz.func81,Tryz.ntmps81
  go_wp2_with fail
  refine (index103_any B q _ _ ⟨w.heap.size,0,none⟩ _ ((HR.out.tail k hkn).below HAL.out (Nat.le_refl _)) (rows_len hq) (by simp)).mono ?_
  rintro e w' ⟨rfl,rfl⟩
  rw [HF.out]
  go_wp2
  exact bodyPost_ret (v:=.tuple #[]) (by simp [results,Tryz.results81,go_sem]) rfl ⟨rfl,HR.out.below HAL.out (Nat.le_refl _),(HAL.out).mono hB⟩
 ·have hkn':k=n:=by omega
  have HE:Hid (findR [] q=-1):=rfl
  subst hkn'
  go_enter Tryz.func81,Tryz.ntmps81
  go_wp2_with fail
  all_goals
   refine (index103_any B q [] _ ⟨w.heap.size,0,none⟩ _ (mat_empty _ _ _ _ (by unfold maxLen; omega)) (fun r hr=>absurd hr (by simp)) (by simp)).mono ?_
   rintro e w' ⟨rfl,rfl⟩
   rw [HE.out]
   go_wp2
   exact bodyPost_ret (v:=.tuple #[]) (by simp [results,Tryz.results81,go_sem]) rfl ⟨rfl,HR.out.below HAL.out (Nat.le_refl _),(HAL.out).mono hB⟩
end Go.Proofs.YtdanomklbiidaaaGreatDoor

namespace Go.Proofs.YtdanomklbiidaaaGreatDoor
open Go.RowKit
attribute [local go_sem ↓] Go.wp_at_zero Go.wp_at_succ
def sw (k i0 i:Nat):Nat:=if i=k then i0 else if i=i0 then k else i
theorem sw_lt {k i0 i n:Nat} (hk:k < n) (hi0:i0 < n) (hi:i < n):sw k i0 i < n:=by
 unfold sw; split
 ·exact hi0
 ·split
  ·exact hk
  ·exact hi
theorem sw_inj {k i0 i j:Nat} (h:i≠j):sw k i0 i≠sw k i0 j:=by
 unfold sw; grind
theorem sw_self (k i:Nat):sw k k i=i:=by unfold sw; by_cases h:i=k <;> simp [h]
theorem rows_find {n c q k f:Nat} {mat:Nat→Nat→Int} (hq:q < c) (hf:k+f < n) (hz:∀i,k≤i→i < k+f→mat i q=0) (hne:mat (k+f) q≠0):findR ((rowsOf n c mat).drop k) q=f:=by
 have hg:∀i,i < n-k→((rowsOf n c mat).drop k).getD i []=(List.range c).map (mat (k+i)):=by
  intro i hi; simp [rowsOf,show k+i < n by omega]
 refine findR_hit (by simp [rowsOf]; omega) ?_ ?_
 ·rw [List.any_eq_false]
  intro r hr
  rw [List.mem_take_iff_getElem] at hr
  obtain ⟨i,hi,rfl⟩:=hr
  have hi1:i < f:=by omega
  have:=hz (k+i) (by omega) (by omega)
  simp [rowsOf,hq,this]
 ·rw [hg f (by omega)]; simp [hq,hne]
theorem RS.swap {B R n c k i0:Nat} {mat:Nat→Nat→Int} {piv:List Int} {val sgn:Int} {go capo:Nat} {pv:Value} {bs caps:Nat→Nat} {w:World} (h:RS B R n c mat piv val sgn go capo pv bs caps w) (hk:k < n) (hi0:i0 < n) (hne:k≠i0) (sgn':Int) :
  RS B R n c (fun i j=>mat (sw k i0 i) j) piv val sgn' go capo pv (fun i=>bs (sw k i0 i)) (fun i=>caps (sw k i0 i))
   (((w.setCell ⟨go,k,none⟩ (.slice (some ⟨bs i0,0,none⟩) c (caps i0))).setCell ⟨go,i0,none⟩ (.slice (some ⟨bs k,0,none⟩) c (caps k))).setCell ⟨R,3,none⟩ (.int .i64 sgn')):=by
 have hgoR:go≠R:=by
  intro e
  obtain ⟨_,q2⟩:=h.out
  rcases q2 with ⟨q2,_⟩ | ⟨g,cap,cur,q2,_,hh,_⟩
  ·simp at q2
  ·simp only [Value.slice.injEq,Option.some.injEq,Addr.mk.injEq,and_true,true_and] at q2
   have hst:=h.st
   rw [←q2.1,e,hst] at hh
   simp at hh
 have hoff:∀b,(∃cur,w.heap[b]?=some (.cells cur 3 (0,0)))→b≠go∧b≠R:=by
  rintro b ⟨cur,hb⟩
  constructor
  ·rintro rfl
   obtain ⟨_,q2⟩:=h.out
   rcases q2 with ⟨q2,_⟩ | ⟨g,cap,cur2,q2,_,hh,_⟩
   ·simp at q2
   ·simp only [Value.slice.injEq,Option.some.injEq,Addr.mk.injEq,and_true,true_and] at q2
    rw [←q2.1,hb] at hh
    simp at hh
  ·rintro rfl
   have hst:=h.st
   rw [hb] at hst
   simp at hst
 have hown:∀v m xs,w.ownsRow B 3 1 v m xs→(((w.setCell ⟨go,k,none⟩ (.slice (some ⟨bs i0,0,none⟩) c (caps i0))).setCell ⟨go,i0,none⟩ (.slice (some ⟨bs k,0,none⟩) c (caps k))).setCell ⟨R,3,none⟩ (.int .i64 sgn')).ownsRow B 3 1 v m xs:=by
  intro v m xs hv
  obtain ⟨q1,q2⟩:=hv
  refine ⟨q1,?_⟩
  rcases q2 with q2 | ⟨g,cap,cur,rfl,r1,r2,r3⟩
  ·exact Or.inl q2
  ·obtain ⟨n1,n2⟩:=hoff g ⟨cur,r2⟩
   refine Or.inr ⟨g,cap,cur,rfl,r1,?_,r3⟩
   rw [Below.heap_setCell _ _ _ _ n2,Below.heap_setCell _ _ _ _ n1,Below.heap_setCell _ _ _ _ n1]; exact r2
 refine ⟨?_,?_,fun i hi=>hown _ _ _ (h.row _ (sw_lt hk hi0 hi)),fun i j hi hj hij=>h.inj _ _ (sw_lt hk hi0 hi) (sw_lt hk hi0 hj) (sw_inj hij),hown _ _ _ h.piv,fun g hg i hi=>h.off g hg _ (sw_lt hk hi0 hi)⟩
 ·have e:((w.setCell ⟨go,k,none⟩ (.slice (some ⟨bs i0,0,none⟩) c (caps i0))).setCell ⟨go,i0,none⟩ (.slice (some ⟨bs k,0,none⟩) c (caps k))).heap[R]?=w.heap[R]?:=by
   rw [Below.heap_setCell _ _ _ _ (Ne.symm hgoR),Below.heap_setCell _ _ _ _ (Ne.symm hgoR)]
  rw [h.st] at e
  simp [World.setCell,Array.getElem?_modify] at e ⊢
  rw [e]; simp
 ·have o1:=((h.out.stored k (.slice (some ⟨bs i0,0,none⟩) c (caps i0))).1.stored i0 (.slice (some ⟨bs k,0,none⟩) c (caps k))).1
  have o2:=ownsRow_setCell_other o1 (a:=⟨R,3,none⟩) (by simp [Value.ownBlock]; exact hgoR) (.int .i64 sgn')
  have e:(((List.range n).map fun i=>Value.slice (some ⟨bs i,0,none⟩) c (caps i)).set k (.slice (some ⟨bs i0,0,none⟩) c (caps i0))).set i0 (.slice (some ⟨bs k,0,none⟩) c (caps k))=(List.range n).map fun i=>Value.slice (some ⟨bs (sw k i0 i),0,none⟩) c (caps (sw k i0 i)):=by
   apply List.ext_getElem?
   intro i
   rw [List.getElem?_set,List.getElem?_set]
   by_cases e1:i0=i
   ·subst e1; simp [sw,hi0,Ne.symm hne]
   ·by_cases e2:k=i
    ·subst e2; simp [sw,hk,e1]
    ·have e1':i≠i0:=fun h=>e1 h.symm
     have e2':i≠k:=fun h=>e2 h.symm
     rw [if_neg e1,if_neg e2]
     by_cases hin:i < n
     ·simp [hin,sw,e1',e2']
     ·rw [List.getElem?_eq_none (by simp; omega),List.getElem?_eq_none (by simp; omega)]
  rw [e] at o2
  exact o2
end Go.Proofs.YtdanomklbiidaaaGreatDoor

namespace Go.Proofs.YtdanomklbiidaaaGreatDoor
open Go.RowKit
theorem step_append_at {P:Program} {ops:Array Oper} {o:Oper} {a:Act} {w:World} {K:Act→World→Prop} {Q:Exit→Act→World→Prop} {E:Prop}
  (hg:o.guard=none) (s x:Operand) (t:TypeId) (hop:o.op=Op.call { callee:=Callee.builtin Builtin.append,args:=#[s,x],argTypes:=#[t,t] })
  (base:Nat) (e:TypeId) (i:TypeInfo) (z:Value) (size bytes:Nat) (h1:P.underlying t=some (.slice e)) (h2:P.info? e=some i) (h3:i.zero=some z) (h4:i.size=size) (h5:i.bytes=bytes) (h6:z.cells.size=size) (h7:0 < size)
  (v:Value) (n:Nat) (xs:List Value) (hs:a.eval s=v) (hown:w.ownsRow base e size v n xs)
  (ad:Addr) (m c:Nat) (news:List Value) (hx:a.eval x=.slice (some ad) m c) (hn:news.length=m*size) (hc:∀j u,news[j]?=some u→w.cell? (ad.add j)=some u) (h1c:∀u∈news,u.oneCell'=true)
  (b1:n+m≤maxLen) (b2:(n+m)*bytes≤140737488355328) (hb:base≤w.heap.size)
  (hK:∀v' w',w'.ownsRow base e size v' (n+m) (xs ++ news)→w.grownBy w' v.ownBlock→(v'.ownBlock=v.ownBlock∨v'.ownBlock=some w.heap.size)→K (a.put o.dst v') w') :
  if Region.wanted o (yielded ops a.tmps)=true then Oper.wp P o a w K Q else E:=by
 have hw:Region.wanted o (yielded ops a.tmps)=true:=by simp [Region.wanted,hg]
 rw [if_pos hw]
 obtain ⟨v',w',hrun,r1,r2,_,r4⟩:=run_append_own_at (P:=P) w base t o.type e i z size bytes h1 h2 h3 h4 h5 h6 h7 v n xs hown ad m c news hn hc h1c b1 b2 hb
 unfold Oper.wp
 simp [execOp,hop,resolve,invoke,builtin,hs,hx,hrun,Result.andThen]
 exact hK v' w' r1 r2 r4
theorem RS.congr {B R n c:Nat} {mat mat':Nat→Nat→Int} {piv:List Int} {val sgn:Int} {go capo:Nat} {pv:Value} {bs caps:Nat→Nat} {w:World} (h:RS B R n c mat piv val sgn go capo pv bs caps w) (he:∀i,i < n→∀j,j < c→mat i j=mat' i j) :
  RS B R n c mat' piv val sgn go capo pv bs caps w:=by
 refine ⟨h.st,h.out,fun i hi=>?_,h.inj,h.piv,h.off⟩
 have e:(List.range c).map (mat' i)=(List.range c).map (mat i):=List.map_congr_left fun j hj=>(he i hi j (by simpa using hj)).symm
 rw [e]; exact h.row i hi
theorem RS.typed {B R n c:Nat} {mat:Nat→Nat→Int} {piv:List Int} {val sgn:Int} {go capo:Nat} {pv:Value} {bs caps:Nat→Nat} {w:World} (h:RS B R n c mat piv val sgn go capo pv bs caps w) :
  go≠R∧(∀i,i < n→bs i≠go∧bs i≠R∧bs i < w.heap.size∧B≤bs i)∧B≤go∧(∀g,pv.ownBlock=some g→g≠R∧g≠go∧B≤g∧g < w.heap.size):=by
 have hgo:∃cur,w.heap[go]?=some (.cells cur 22 (0,0))∧B≤go:=by
  obtain ⟨_,q2⟩:=h.out
  rcases q2 with ⟨q2,_⟩ | ⟨g,cap,cur,q2,hb,hh,_⟩
  ·simp at q2
  ·simp only [Value.slice.injEq,Option.some.injEq,Addr.mk.injEq,and_true,true_and] at q2
   obtain ⟨rfl,_⟩:=q2
   exact ⟨cur,hh,hb⟩
 obtain ⟨cur,hgo1,hgo2⟩:=hgo
 have hst:=h.st
 have off:∀b cur',w.heap[b]?=some (.cells cur' 3 (0,0))→b≠go∧b≠R:=by
  intro b cur' hb
  constructor
  ·rintro rfl; rw [hb] at hgo1; simp at hgo1
  ·rintro rfl; rw [hb] at hst; simp at hst
 refine ⟨by rintro rfl; rw [hst] at hgo1; simp at hgo1,fun i hi=>?_,hgo2,fun g hg=>?_⟩
 ·obtain ⟨_,q2⟩:=h.row i hi
  rcases q2 with ⟨q2,_⟩ | ⟨g,cap,cur',q2,hb,hh,_⟩
  ·simp at q2
  ·simp only [Value.slice.injEq,Option.some.injEq,Addr.mk.injEq,and_true,true_and] at q2
   obtain ⟨e1,_⟩:=q2
   rw [←e1] at hh hb
   exact ⟨(off _ _ hh).1,(off _ _ hh).2,lt_of_block hh,hb⟩
 ·obtain ⟨_,q2⟩:=h.piv
  rcases q2 with ⟨q2,_⟩ | ⟨g',cap,cur',q2,hb,hh,_⟩
  ·rw [q2] at hg; simp [Value.ownBlock] at hg
  ·rw [q2] at hg
   simp [Value.ownBlock] at hg
   subst hg
   exact ⟨(off _ _ hh).2,(off _ _ hh).1,hb,lt_of_block hh⟩
theorem RS.clear {B R n c i:Nat} {mat:Nat→Nat→Int} {piv:List Int} {val sgn:Int} {go capo:Nat} {pv:Value} {bs caps:Nat→Nat} {w w':World} {r':Nat→Int} (h:RS B R n c mat piv val sgn go capo pv bs caps w) (hi:i < n) (ht:Touch (bs i) w w')
  (ho:w'.ownsRow B 3 1 (.slice (some ⟨bs i,0,none⟩) c (caps i)) c (ints ((List.range c).map r'))):RS B R n c (fun a j=>if a=i then r' j else mat a j) piv val sgn go capo pv bs caps w':=by
 obtain ⟨t1,t2,t3,t4⟩:=h.typed
 refine ⟨(ht.block R (t2 i hi).2.1.symm).trans h.st,ht.owns h.out (by simp [Value.ownBlock]; exact (t2 i hi).1.symm),fun a ha=>?_,h.inj,ht.owns h.piv (fun e=>h.off _ e i hi rfl),h.off⟩
 by_cases e:a=i
 ·subst e
  have:(List.range c).map (fun j=>if a=a then r' j else mat a j)=(List.range c).map r':=by simp
  show w'.ownsRow B 3 1 (.slice (some ⟨bs a,0,none⟩) c (caps a)) c (ints ((List.range c).map (fun j=>if a=a then r' j else mat a j)))
  rw [this]; exact ho
 ·have:(List.range c).map (fun j=>if a=i then r' j else mat a j)=(List.range c).map (mat a):=by simp [e]
  show w'.ownsRow B 3 1 (.slice (some ⟨bs a,0,none⟩) c (caps a)) c (ints ((List.range c).map (fun j=>if a=i then r' j else mat a j)))
  rw [this]
  exact ht.owns (h.row a ha) (by simp [Value.ownBlock]; exact h.inj a i ha hi e)
theorem RS.last {B R n c q:Nat} {mat:Nat→Nat→Int} {piv:List Int} {val sgn v':Int} {go capo:Nat} {pv pv':Value} {bs caps:Nat→Nat} {w w3:World} {o:Obj} (h:RS B R n c mat piv val sgn go capo pv bs caps w)
  (ho:w3.ownsRow B 3 1 pv' (piv.length+1) (ints piv ++ [.int .i64 q])) (hg:((w.setCell ⟨R,2,none⟩ (.int .i64 v')).alloc o).grownBy w3 pv.ownBlock) (hat:pv'.ownBlock=pv.ownBlock∨pv'.ownBlock=some (w.heap.size+1)∨pv'.ownBlock=some ((w.setCell ⟨R,2,none⟩ (.int .i64 v')).alloc o).heap.size) :
  RS B R n c mat (piv ++ [(q:Int)]) v' sgn go capo pv' bs caps (w3.setCell ⟨R,1,none⟩ pv')∧w3.cell? ⟨R,1,none⟩=some pv∧w3.frozen? ⟨R,1,none⟩=false:=by
 obtain ⟨t1,t2,t3,t4⟩:=h.typed
 have hRlt:=lt_of_block h.st
 have hs1:((w.setCell ⟨R,2,none⟩ (.int .i64 v')).alloc o).heap.size=w.heap.size+1:=by simp [World.setCell]
 have hb:∀b,b < w.heap.size→b≠R→pv.ownBlock≠some b→w3.heap[b]?=w.heap[b]?:=by
  intro b hb1 hb2 hb3
  rw [hg.block b (by omega) (fun e=>hb3 e.symm),Below.heap_alloc _ _ _ (by simp [World.setCell]; exact hb1),Below.heap_setCell _ _ _ _ hb2]
 have hR3:w3.heap[R]?=some (.cells #[.slice (some ⟨go,0,none⟩) n capo,pv,.int .i64 v',.int .i64 sgn] 78 (0,0)):=by
  rw [hg.block R (by omega) (fun e=>(t4 R e.symm).1 rfl),Below.heap_alloc _ _ _ (by simp [World.setCell]; exact hRlt)]
  simp [World.setCell,Array.getElem?_modify,h.st]
 have hgolt:go < w.heap.size:=by
  have:=(h.out.lt go (by simp [Value.ownBlock])).2; exact this
 have hpvR:pv'.ownBlock≠some R:=by
  rcases hat with e | e | e
  ·rw [e]; intro e2; exact (t4 R e2).1 rfl
  ·rw [e]; simp; omega
  ·rw [e,hs1]; simp; omega
 have keep:∀{e:TypeId} {g m cp:Nat} {xs:List Value},w.ownsRow B e 1 (.slice (some ⟨g,0,none⟩) m cp) m xs→g < w.heap.size→g≠R→pv.ownBlock≠some g→(w3.setCell ⟨R,1,none⟩ pv').ownsRow B e 1 (.slice (some ⟨g,0,none⟩) m cp) m xs:=by
  intro e g m cp xs hv l1 l2 l3
  obtain ⟨q1,q2⟩:=hv
  refine ⟨q1,?_⟩
  rcases q2 with ⟨q2,_⟩ | ⟨g',cap,cur,q2,r1,r2,r3⟩
  ·simp at q2
  ·simp only [Value.slice.injEq,Option.some.injEq,Addr.mk.injEq,and_true,true_and] at q2
   obtain ⟨rfl,rfl⟩:=q2
   exact Or.inr ⟨g,cp,cur,rfl,r1,by rw [Below.heap_setCell _ _ _ _ l2,hb g l1 l2 l3]; exact r2,r3⟩
 refine ⟨⟨?_,keep h.out hgolt t1 (fun e=>(t4 go e).2.1 rfl),fun i hi=>keep (h.row i hi) (t2 i hi).2.2.1 (t2 i hi).2.1 (fun e=>h.off _ e i hi rfl),h.inj,?_,fun g hg2 i hi=>?_⟩,by simp [World.cell?,hR3],by simp [World.frozen?,hR3]⟩
 ·simp [World.setCell,Array.getElem?_modify,hR3]
 ·have h1:=ownsRow_setCell_other ho (a:=⟨R,1,none⟩) hpvR pv'
  rw [ints_snoc] at h1
  have e:(piv ++ [(q:Int)]).length=piv.length+1:=by simp
  rw [e]; exact h1
 ·rcases hat with e | e | e
  ·rw [e] at hg2; exact h.off g hg2 i hi
  ·rw [e] at hg2; simp at hg2; have:=(t2 i hi).2.2.1; omega
  ·rw [e,hs1] at hg2; simp at hg2; have:=(t2 i hi).2.2.1; omega
end Go.Proofs.YtdanomklbiidaaaGreatDoor
