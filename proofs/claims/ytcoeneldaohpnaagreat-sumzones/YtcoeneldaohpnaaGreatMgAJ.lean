import Derived.Test.YtcoeneldaohpnaaGreatMgAB
import Derived.Test.YtcoeneldaohpnaaGreatMgAI
import Derived.Lib.SliceRun
import Derived.Lib.LazyBuf
namespace Go.Proofs.YtcoeneldaohpnaaGreat
open Go.RowKit
attribute [local go_sem ↓] Go.wp_at_zero Go.wp_at_succ
def keptI (m:List (List Int)):Nat→List Nat
 | 0=>[]
 | k+1=>if k=0∨m.getD k []≠m.getD (k-1) [] then keptI m k ++ [k] else keptI m k
def compL (m:List (List Int)):List (List Int):=(keptI m m.length).map fun i=>m.getD i []
theorem keptI_lt {m:List (List Int)} : ∀{k i:Nat},i∈keptI m k→i < k
 | 0,i,h=>by simp [keptI] at h
 | k+1,i,h=>by
  simp only [keptI] at h
  split at h
  ·rcases List.mem_append.1 h with h | h
   ·have:=keptI_lt h; omega
   ·simp at h; omega
  ·have:=keptI_lt h; omega
theorem keptI_len (m:List (List Int)):∀k,(keptI m k).length≤k
 | 0=>by simp [keptI]
 | k+1=>by
  have:=keptI_len m k
  simp only [keptI]
  split
  ·simp; omega
  ·omega
theorem keptI_all {m:List (List Int)} : ∀k,(∀i,1≤i→i < k→m.getD i []≠m.getD (i-1) [])→keptI m k=List.range k
 | 0,_=>by simp [keptI]
 | k+1,h=>by
  simp only [keptI]
  rw [keptI_all k (fun i h1 h2=>h i h1 (by omega)),List.range_succ,if_pos]
  rcases Nat.eq_zero_or_pos k with h0 | h0
  ·exact Or.inl h0
  ·exact Or.inr (h k h0 (by omega))
theorem compL_short {m:List (List Int)} (h:m.length < 2):compL m=m:=by
 match m,h with
 | [],_=>rfl
 | [x],_=>rfl
 | _ :: _ :: _,h=>simp at h; omega
theorem mem_compL {m : List (List Int)} {r : List Int} : r ∈ compL m ↔ r ∈ m := by
  constructor
  · intro h
    simp only [compL, List.mem_map] at h
    obtain ⟨i, hi, rfl⟩ := h
    have := keptI_lt hi
    simp [this]
  · intro h
    obtain ⟨i, hi, rfl⟩ := List.mem_iff_getElem.1 h
    -- the first place of a run is kept
    have key : ∀ i, i < m.length → ∃ j ∈ keptI m (i + 1), m.getD j [] = m.getD i [] := by
      intro i
      induction i with
      | zero => intro _; exact ⟨0, by simp [keptI], rfl⟩
      | succ i ih =>
        intro hi
        by_cases hne : m.getD (i + 1) [] ≠ m.getD i []
        · exact ⟨i + 1, by rw [keptI, if_pos (Or.inr (by simpa using hne))]; simp, rfl⟩
        · have he : m.getD (i + 1) [] = m.getD i [] := Classical.not_not.1 hne
          obtain ⟨j, hj, hje⟩ := ih (by omega)
          refine ⟨j, ?_, by rw [hje, he]⟩
          rw [keptI]
          split
          · exact List.mem_append_left _ hj
          · exact hj
    have grow : ∀ a b, a ≤ b → ∀ j, j ∈ keptI m a → j ∈ keptI m b := by
      intro a b hab
      induction b with
      | zero => intro j hj; have : a = 0 := by omega
                subst this; exact hj
      | succ b ih =>
        intro j hj
        by_cases e : a = b + 1
        · subst e; exact hj
        · have := ih (by omega) j hj
          rw [keptI]
          split
          · exact List.mem_append_left _ this
          · exact this
    obtain ⟨j, hj, hje⟩ := key i hi
    simp only [compL, List.mem_map]
    refine ⟨j, grow (i + 1) m.length (by omega) j hj, ?_⟩
    rw [hje]; simp [hi]
theorem step_call2v {P:Program} {ops:Array Oper} {o:Oper} {a:Act} {w:World} {K:Act→World→Prop} {Q:Exit→Act→World→Prop} {E:Prop}
  (hg : o.guard = none) (f : FuncId) (z x y : Operand) (t s : TypeId) (hop : o.op = Op.call { callee := Callee.value z, args := #[x, y], argTypes := #[t, s] }) (v u : Value) (hz : a.eval z = Value.func (Fn.func f) #[] #[]) (hv : a.eval x = v) (hu : a.eval y = u) (hf : ∃ fn, P.funcs[f]? = some fn ∧ (fn.name == "runtime.NumGoroutine") = false ∧ fn.body.isNone = false)
  (hc:Calls P f #[v,u] w fun e w'=>∃u,e=.returned u∧K (a.put o.dst u) w') :
  if Region.wanted o (yielded ops a.tmps)=true then Oper.wp P o a w K Q else E:=by
 have hw:Region.wanted o (yielded ops a.tmps)=true:=by simp [Region.wanted,hg]
 rw [if_pos hw]
 unfold Oper.wp
 obtain ⟨fn,f1,f2,f3⟩:=hf
 have e:(execOp a.eval o).run P w=.ok (.enter f #[v,u]) w:=by
  have hcf:(callFunc f #[v,u]).run P w=.ok (.enter f #[v,u]) w:=by
   unfold callFunc
   have g2 : ¬ fn.name = "runtime.NumGoroutine" := by simpa using f2
   have g3:¬fn.body=none:=by intro e; rw [e] at f3; simp at f3
   simp [f1,g2,g3]
  unfold execOp
  rw [hop]
  simp [resolve,invoke,hv,hu,hz,Deferred.ofValue,hcf]
 rw [e,Oper.upon_enter]
 refine hc.mono ?_
 rintro e w' ⟨u,rfl,h⟩
 exact h
structure RowM (w:World) (g cap:Nat) (f:Nat→Value) (m:List (List Int)):Prop where
 row:w.rowIs g 26 cap f
 cap1:m.length≤cap
 cap2:cap≤9223372036854775807
 inn:∀i,i < m.length→Sl 0 3 w (f i) (ints (m.getD i []))
theorem Fr.rowM {B:Nat} {w:World} {v:Value} {m:List (List Int)} (h:Fr B 26 3 w v m) (hm:0 < m.length):∃g cap f,v=.slice (some ⟨g,0,none⟩) m.length cap∧B≤g∧g < w.heap.size∧RowM w g cap f m:=by
 obtain ⟨vs,h1,h2,h3⟩:=h
 rcases h2.2 with ⟨_,h0⟩ | ⟨g,cap,cur,hv,hb,hh,hn,hc,hs,ht⟩
 ·omega
 ·refine ⟨g,cap,fun i=>cur.toList.getD i (.slice none 0 0),hv,hb,lt_of_block hh,⟨cur,hh,by omega,fun i hi=>?_⟩,hn,by unfold maxLen at hc; exact hc,fun i hi=>?_⟩
  ·show cur[i]?=some (cur.toList.getD i (.slice none 0 0))
   rw [←Array.getElem?_toList,List.getD_eq_getElem?_getD,List.getElem?_eq_getElem (by simp; omega)]; rfl
  ·have e:cur.toList.getD i (.slice none 0 0)=vs.getD i (.slice none 0 0):=by
    rw [←ht]
    simp only [List.getD_eq_getElem?_getD]
    rw [List.getElem?_take_of_lt (by omega)]
   rw [e]; exact h3 i hi
theorem RowM.fr {B:Nat} {w:World} {g cap:Nat} {f:Nat→Value} {m:List (List Int)} (h:RowM w g cap f m) (hB:B≤g):Fr B 26 3 w (.slice (some ⟨g,0,none⟩) m.length cap) m:=by
 obtain ⟨⟨c,h1,h2,h3⟩,h4,h5,h6⟩:=h
 refine ⟨(List.range m.length).map f,by simp,⟨by simp,Or.inr ⟨g,cap,c,rfl,hB,h1,h4,by unfold maxLen; exact h5,by omega,?_⟩⟩,fun i hi=>?_⟩
 ·apply List.ext_getElem?
  intro i
  by_cases hi:i < m.length
  ·rw [List.getElem?_take_of_lt (by omega),Array.getElem?_toList,h3 i (by omega)]; simp [hi]
  ·rw [List.getElem?_eq_none (by simp; omega),List.getElem?_eq_none (by simp; omega)]
 ·have e:((List.range m.length).map f).getD i (.slice none 0 0)=f i:=by simp [hi]
  rw [e]; exact h6 i hi
theorem Tryz.zero26:∀w,(zeroValue 26).run Tryz.prog w=.ok (.slice none 0 0) w:=fun w=>by kernel_rfl
end Go.Proofs.YtcoeneldaohpnaaGreat

namespace Go.Proofs.YtcoeneldaohpnaaGreat
open Go.RowKit
attribute [local go_sem ↓] Go.wp_at_zero Go.wp_at_succ
theorem RowM.cell {w:World} {g cap i:Nat} {f:Nat→Value} {m:List (List Int)} (h:RowM w g cap f m) (hi:i < cap):w.cell? ⟨g,i,none⟩=some (f i):=h.row.cell hi
theorem Touch.setCells {g:Nat} {w:World} : ∀(vs:List Value) (o:Nat) {w':World},Touch g w w'→Touch g w (w'.setCells g o vs)
 | [],_,_,h=>h
 | v :: r,o,_,h=>Touch.setCells r (o+1) (h.setCell o v)
theorem Touch.sl {g:Nat} {w w':World} {cur:Array Value} {v:Value} {xs:List Value} (h:Touch g w w') (hg:w.heap[g]?=some (.cells cur 26 (0,0))) (hs:Sl 0 3 w v xs):Sl 0 3 w' v xs:=
 hs.move fun b _ ht=>by
  rcases ht with ht | ⟨c,ht⟩
  ·omega
  ·have hne:b≠g:=by
    rintro rfl
    rw [hg] at ht
    simp at ht
   exact ⟨h.block b hne,Or.inr ⟨c,ht⟩⟩
structure Cm (w:World) (g cap:Nat) (f:Nat→Value) (m:List (List Int)) (k j c:Nat) (f':Nat→Value) (wr:World):Prop where
 row:wr.rowIs g 26 cap f'
 len:c=(keptI m (k+j)).length
 done:∀i,i < c→f' i=f ((keptI m (k+j)).getD i 0)
 rest:∀i,k+j-1≤i→i < cap→f' i=f i
 le:c≤k+j-1
 touch:Touch g w wr
theorem Cm.same {w wr:World} {g cap k j c:Nat} {f f':Nat→Value} {m:List (List Int)} (h:Cm w g cap f m k j c f' wr) (hk:1≤k) (he:m.getD (k+j) []=m.getD (k+j-1) []) (n:Nat):Cm w g cap f m k (j+1) c f' (wr.drewN n):=by
 have e:keptI m (k+(j+1))=keptI m (k+j):=by
  show keptI m (k+j+1)=_
  rw [keptI,if_neg]
  rintro (h0 | h0)
  ·omega
  ·exact h0 he
 refine ⟨h.row,by rw [e]; exact h.len,by rw [e]; exact h.done,fun i h1 h2=>h.rest i (by omega) h2,by have:=h.le; omega,h.touch.drewN n⟩
theorem Cm.next {w wr:World} {g cap k j c:Nat} {f f':Nat→Value} {m:List (List Int)} (h:Cm w g cap f m k j c f' wr) (he:m.getD (k+j) []≠m.getD (k+j-1) []) (hj1:1≤j) (n:Nat) :
  Cm w g cap f m k (j+1) (c+1) (fun i=>if i=c then f (k+j) else f' i) ((wr.drewN n).setCell ⟨g,c,none⟩ (f (k+j))):=by
 have e:keptI m (k+(j+1))=keptI m (k+j) ++ [k+j]:=by
  show keptI m (k+j+1)=_
  rw [keptI,if_pos (Or.inr he)]
 refine ⟨h.row.set c _,by rw [e]; simp [h.len],fun i hi=>?_,fun i h1 h2=>?_,by have:=h.le; omega,(h.touch.drewN n).setCell c _⟩
 ·rw [e]
  by_cases hic:i=c
  ·have h2:=h.len
   subst hic
   simp [h2]
  ·have h2:=h.len
   simp only [hic,if_false]
   rw [h.done i (by omega)]
   simp only [List.getD_eq_getElem?_getD]; rw [List.getElem?_append_left (by omega)]
 ·have h3:=h.le
  simp only [show i≠c by omega,if_false]
  exact h.rest i (by omega) h2
theorem Cm.fin {w wr:World} {g cap k j c B:Nat} {f f':Nat→Value} {m:List (List Int)} (h:Cm w g cap f m k j c f' wr) (hr:RowM w g cap f m) (hj:k+j=m.length) (hB:B≤g) :
  Fr B 26 3 (wr.setCells g c (List.replicate (m.length-c) (.slice none 0 0))) (.slice (some ⟨g,0,none⟩) c cap) (compL m):=by
 have hl:(compL m).length=c:=by
  unfold compL
  rw [List.length_map,h.len,hj]
 have hle:=h.le
 obtain ⟨cur,hcur,_⟩:=hr.row
 have hrow:=rowIs_setCells (List.replicate (m.length-c) (Value.slice none 0 0)) c wr f' h.row
 have hrm:RowM (wr.setCells g c (List.replicate (m.length-c) (.slice none 0 0))) g cap (fun i=>if c≤i∧i < c+(List.replicate (m.length-c) (Value.slice none 0 0)).length then (List.replicate (m.length-c) (Value.slice none 0 0))[i-c]?.getD default else f' i) (compL m):=by
  refine ⟨hrow,by have:=hr.cap1; omega,hr.cap2,fun i hi=>?_⟩
  rw [hl] at hi
  simp only [show ¬c≤i by omega,false_and,if_false]
  rw [h.done i hi]
  have hlen:=h.len
  have hmem:(keptI m (k+j)).getD i 0∈keptI m (k+j):=by simp [show i < (keptI m (k+j)).length by omega]
  have hlt:=keptI_lt hmem
  have e:(compL m).getD i []=m.getD ((keptI m (k+j)).getD i 0) []:=by
   rw [hj] at hlen ⊢
   unfold compL
   simp [show i < (keptI m m.length).length by omega]
  rw [e]
  exact (h.touch.setCells _ _).sl hcur (hr.inn _ (by omega))
 have:=hrm.fr hB
 rw [hl] at this
 exact this
set_option maxRecDepth 100000 in
set_option maxHeartbeats 4000000 in
theorem compact_any (B:Nat) (m:List (List Int)) (v:Value) (w:World) (hv:Fr B 26 3 w v m) (hm:m.length≤2000000000000) :
  Calls Tryz.prog 67 #[v,.func (.func 58) #[] #[]] w fun e w'=>∃u,e=.returned u∧Fr B 26 3 w' u (compL m)∧Below B w w':=by
 by_cases h2:m.length < 2
 ·have HC:Hid (compL m=m):=compL_short h2
  obtain ⟨ao,cap,hvv,hlc,hcm⟩:=mat_open (hv.rws.mat (Nat.le_refl _))
  subst hvv
  have HV:Hid (Fr B 26 3 w (.slice ao m.length cap) m):=hv
  clear hv
  have h2I:decide ((m.length:Int) < 2)=true:=by simp; omega
  go_enter Tryz.func67,Tryz.ntmps67
  go_wp2
  go_ret
  exact ⟨_,rfl,by rw [HC.out]; exact HV.out,Below.refl _ _⟩
 ·have h2I:decide ((m.length:Int) < 2)=false:=by simp; omega
  obtain ⟨g,cap,f,hvv,hBg,hgw,hrm⟩:=hv.rowM (by omega)
  subst hvv
  have HRM:Hid (RowM w g cap f m):=hrm
  have hc1:m.length≤cap:=hrm.cap1
  have hc2:cap≤9223372036854775807:=hrm.cap2
  have HF0:Hid (Fr B 26 3 w (.slice (some ⟨g,0,none⟩) m.length cap) m):=hv
  clear hv hrm
  go_enter Tryz.func67,Tryz.ntmps67
  go_wp2
  go_loopw [5] (fun i wr=>∃k:Nat,1≤k∧k≤m.length∧i=.int .i64 k∧(∀j,1≤j→j < k→m.getD j []≠m.getD (j-1) [])∧∃n,wr=w.drewN n) (fun i _=>m.length-(intOf i).toNat)
  case atStart=>exact ⟨1,Nat.le_refl _,by omega,rfl,fun j h1 h2=>absurd h2 (by omega),0,rfl⟩
  case round=>
   obtain ⟨k,hk1,hk,rfl,hne,n,rfl⟩:=hrel
   have HNE:Hid (∀j,1≤j→j < k→m.getD j []≠m.getD (j-1) []):=hne
   clear hne
   by_cases hlt:k < m.length
   ·have d1:w.cell? ⟨g,k,none⟩=some (f k):=HRM.out.cell (by omega)
    have d2:w.cell? ⟨g,k-1,none⟩=some (f (k-1)):=HRM.out.cell (by omega)
    have HE:Hid (∀q,Calls Tryz.prog 58 #[f k,f (k-1)] (w.drewN q) fun e w'=>e=.returned (.bool (m.getD k [] == m.getD (k-1) []))∧∃p,w'=(w.drewN q).drewN p):=fun q=>
     equal_any 0 _ _ _ _ (w.drewN q) ((HRM.out.inn k hlt).drewN q) ((HRM.out.inn (k-1) (by omega)).drewN q)
    obtain ⟨x,hx⟩:∃x,x=m.getD k []:=⟨_,rfl⟩
    obtain ⟨y,hy⟩:∃y,y=m.getD (k-1) []:=⟨_,rfl⟩
    have HX:Hid (x=m.getD k []):=hx
    have HY:Hid (y=m.getD (k-1) []):=hy
    rw [←hx,←hy] at HE
    clear hx hy
    obtain ⟨xo,xl,xc,hfx⟩:∃xo xl xc,f k=.slice xo xl xc:=by
     obtain ⟨xo,xc,h,_⟩:=sl_open (HRM.out.inn k hlt); exact ⟨xo,_,xc,h⟩
    obtain ⟨yo,yl,yc,hfy⟩:∃yo yl yc,f (k-1)=.slice yo yl yc:=by
     obtain ⟨yo,yc,h,_⟩:=sl_open (HRM.out.inn (k-1) (by omega)); exact ⟨yo,_,yc,h⟩
    rw [hfx,hfy] at HE
    rw [hfx] at d1
    rw [hfy] at d2
    clear hfx hfy
    obtain ⟨k1,hk1e⟩:∃k1,k=k1+1:=⟨k-1,by omega⟩
    subst hk1e
    simp only [Nat.add_sub_cancel] at d2
    have hkI:(k1:Int)+1 < (m.length:Int):=by omega
    have hkI0:(0:Int)≤(k1:Int)+1:=by omega
    have hkJ:(k1:Int) < (m.length:Int):=by omega
    have hkJ0:(0:Int)≤(k1:Int):=by omega
    have hkw:IntKind.i64.wrap (k1:Int)=(k1:Int):=by rw [IntWalk.i64_left]; exact IntWalk.wrap64_in _ ⟨by omega,by omega⟩
    go_wp2
    go_region_law (refine step_call2v (o:={ dst:=some 28,op:=_,type:=_,pos:=_,after:=_,guard:=_ }) (by rfl) 58 _ _ _ 26 26 (by rfl) _ _ (by rfl) (by rfl) (by rfl) ⟨_,Tryz.func58,by rfl,by rfl⟩ ?_; refine (HE.out (n+1)).mono ?_; rintro e w2 ⟨rfl,p,rfl⟩; refine ⟨_,rfl,?_⟩)
    all_goals
     cases hxy:(x == y)
     ·have HN2:Hid (∀j,1≤j→j < k1+2→m.getD j []≠m.getD (j-1) []):=fun j h1 h2=>by
       by_cases hj:j < k1+1
       ·exact HNE.out j h1 hj
       ·have:j=k1+1:=by omega
        subst this
        rw [←HX.out,←HY.out]
        exact beq_eq_false_iff_ne.1 hxy
      clear hxy
      go_wp2
      go_roundw
      case rel=>exact ⟨k1+2,by omega,by omega,by go_num,HN2.out,_,rfl⟩
      case measure=>simp [intOf]; omega
     ·have HXY:Hid (m.getD (k1+1) []=m.getD k1 []):=by
       show _=_
       have h:=beq_iff_eq.1 hxy
       rw [HX.out,HY.out] at h
       exact h
      have HC0:Hid (Cm w g cap f m (k1+1) 1 (k1+1) f (w.drewN (n+1+p))):=by
       have e0:keptI m (k1+1)=List.range (k1+1):=keptI_all _ (fun i h1 h2=>HNE.out i h1 h2)
       have e1:keptI m (k1+1+1)=List.range (k1+1):=by
        rw [keptI,if_neg,e0]
        rintro (h0 | h0)
        ·omega
        ·exact h0 HXY.out
       refine ⟨HRM.out.row,by rw [e1]; simp,fun i hi=>by rw [e1]; simp [hi],fun _ _ _=>rfl,by omega,(Touch.refl _ _).drewN _⟩
      have hkc:k1+1 < cap:=by omega
      clear hxy d1 d2
      go_wp2
      go_loopw [5,7] (fun x1 x2 wr=>∃(j c:Nat) (f':Nat→Value),1≤j∧k1+1+j≤m.length∧x2=.int .i64 j∧x1=.int .i64 c∧Cm w g cap f m (k1+1) j c f' wr) (fun _ x2 _=>m.length-(intOf x2).toNat)
      case atStart=>exact ⟨1,k1+1,f,Nat.le_refl _,by omega,rfl,rfl,HC0.out⟩
      case round=>
       obtain ⟨j,c,f',hj1,hj,rfl,rfl,hcm⟩:=hrel
       have HCM:Hid (Cm w g cap f m (k1+1) j c f' wr):=hcm
       have hcl:=hcm.le
       obtain ⟨j1,hj1e⟩:∃j1,j=j1+1:=⟨j-1,by omega⟩
       subst hj1e
       by_cases hjn:k1+1+(j1+1) < m.length
       ·have d1:wr.cell? ⟨g,k1+1+(j1+1),none⟩=some (f (k1+1+(j1+1))):=by rw [hcm.row.cell (by omega),hcm.rest _ (by omega) (by omega)]
        have d2:wr.cell? ⟨g,k1+1+j1,none⟩=some (f (k1+1+j1)):=by rw [hcm.row.cell (by omega),hcm.rest _ (by omega) (by omega)]
        obtain ⟨cur,hcur,_⟩:=HRM.out.row
        have HE2:Hid (∀q,Calls Tryz.prog 58 #[f (k1+1+(j1+1)),f (k1+1+j1)] (wr.drewN q) fun e w'=>e=.returned (.bool (m.getD (k1+1+(j1+1)) [] == m.getD (k1+1+j1) []))∧∃p,w'=(wr.drewN q).drewN p):=fun q=>
         equal_any 0 _ _ _ _ (wr.drewN q) ((HCM.out.touch.sl hcur (HRM.out.inn _ hjn)).drewN q) ((HCM.out.touch.sl hcur (HRM.out.inn _ (by omega))).drewN q)
        obtain ⟨xo,xl,xc,hfx⟩:∃xo xl xc,f (k1+1+(j1+1))=.slice xo xl xc:=by
         obtain ⟨xo,xc,h,_⟩:=sl_open (HRM.out.inn _ hjn); exact ⟨xo,_,xc,h⟩
        obtain ⟨yo,yl,yc,hfy⟩:∃yo yl yc,f (k1+1+j1)=.slice yo yl yc:=by
         obtain ⟨yo,yc,h,_⟩:=sl_open (HRM.out.inn (k1+1+j1) (by omega)); exact ⟨yo,_,yc,h⟩
        have HFX:Hid (f (k1+1+(j1+1))=.slice xo xl xc):=hfx
        rw [hfx,hfy] at HE2
        rw [hfx] at d1
        rw [hfy] at d2
        obtain ⟨x2,hx2⟩:∃x2,x2=m.getD (k1+1+(j1+1)) []:=⟨_,rfl⟩
        obtain ⟨y2,hy2⟩:∃y2,y2=m.getD (k1+1+j1) []:=⟨_,rfl⟩
        have HX2:Hid (x2=m.getD (k1+1+(j1+1)) []):=hx2
        have HY2:Hid (y2=m.getD (k1+1+j1) []):=hy2
        rw [←hx2,←hy2] at HE2
        have d3:=hcm.row.cell (i:=c) (by omega)
        have d4:=hcm.row.frozen c
        generalize f' c=fc at d3
        clear hx2 hy2 hfx hfy hcur hcm
        have hjI:(j1:Int)+1 < ((m.length-(k1+1):Nat):Int):=by omega
        have hjI0:(0:Int)≤(j1:Int)+1:=by omega
        have hjJ:(j1:Int) < ((m.length-(k1+1):Nat):Int):=by omega
        have hjJ0:(0:Int)≤(j1:Int):=by omega
        have hjw:IntKind.i64.wrap (j1:Int)=(j1:Int):=by rw [IntWalk.i64_left]; exact IntWalk.wrap64_in _ ⟨by omega,by omega⟩
        have hcI:(c:Int) < (m.length:Int):=by omega
        have hcI0:(0:Int)≤(c:Int):=by omega
        go_wp2
        go_region_law (refine step_call2v (o:={ dst:=some 48,op:=_,type:=_,pos:=_,after:=_,guard:=_ }) (by rfl) 58 _ _ _ 26 26 (by rfl) _ _ (by rfl) (by rfl) (by rfl) ⟨_,Tryz.func58,by rfl,by rfl⟩ ?_; refine (HE2.out 1).mono ?_; rintro e w2 ⟨rfl,p2,rfl⟩; refine ⟨_,rfl,?_⟩)
        all_goals
         cases hxy2:(x2 == y2)
         ·have HNX:Hid (Cm w g cap f m (k1+1) (j1+1+1) (c+1) (fun i=>if i=c then .slice xo xl xc else f' i) ((wr.drewN (1+p2)).setCell ⟨g,c,none⟩ (.slice xo xl xc))):=by
           have h:=HCM.out.next (by
            rw [←HX2.out,show k1+1+(j1+1)-1=k1+1+j1 by omega,←HY2.out]
            exact beq_eq_false_iff_ne.1 hxy2) (by omega) (1+p2)
           rw [HFX.out] at h
           exact h
          clear hxy2
          go_wp2
          go_roundw
          case rel=>exact ⟨j1+1+1,c+1,_,by omega,by omega,by go_num,by go_num,HNX.out⟩
          case measure=>simp [intOf]; omega
         ·have HSM:Hid (Cm w g cap f m (k1+1) (j1+1+1) c f' (wr.drewN (1+p2))):=HCM.out.same (by omega) (by
           rw [←HX2.out,show k1+1+(j1+1)-1=k1+1+j1 by omega,←HY2.out]
           exact beq_iff_eq.1 hxy2) (1+p2)
          clear hxy2
          go_wp2
          go_roundw
          case rel=>exact ⟨j1+1+1,c,f',by omega,by omega,by go_num,rfl,HSM.out⟩
          case measure=>simp [intOf]; omega
       ·have hje:k1+1+(j1+1)=m.length:=by omega
        have HFN:Hid (Fr B 26 3 (wr.setCells g c (List.replicate (m.length-c) (.slice none 0 0))) (.slice (some ⟨g,0,none⟩) c cap) (compL m)):=HCM.out.fin HRM.out hje hBg
        have HBL:Hid (Below B w (wr.setCells g c (List.replicate (m.length-c) (.slice none 0 0)))):=(HCM.out.touch.setCells _ _).below (Below.refl _ _) hBg
        have hclr:∀ty,(Builtin.clear_ #[22] ty #[.slice (some ⟨g,c,none⟩) (m.length-c) (cap-c)]).run Tryz.prog wr=.ok (.tuple #[]) (wr.setCells g c (List.replicate (m.length-c) (.slice none 0 0))):=
         fun ty=>Lib.run_clear_slice wr 22 26 ty (.slice none 0 0) Tryz.underlying22 Tryz.zero26 rfl rfl g c (m.length-c) (cap-c) (by omega) (fun q hq=>by rw [hcm.row.cell (by omega)]; rfl) (fun q hq=>hcm.row.frozen _)
        have hcI:(c:Int)≤(m.length:Int):=by omega
        have hcI0:(0:Int)≤(c:Int):=by omega
        have hcc:c < cap:=by omega
        have hcm2:c≤m.length:=by omega
        have hcc2:c≤cap:=by omega
        have hjI:decide ((j1:Int)+1 < ((m.length-(k1+1):Nat):Int))=false:=by simp; omega
        clear hcm
        go_wp2
        go_ret
        exact ⟨_,rfl,HFN.out,HBL.out⟩
   ·have HCE:Hid (compL m=m):=by
     show _=_
     have hke:k=m.length:=by omega
     unfold compL
     rw [keptI_all m.length (fun i h1 h2=>HNE.out i h1 (by omega))]
     apply List.ext_getElem (by simp)
     intro i h1 h2
     simp [h2]
    go_wp2
    go_ret
    exact ⟨_,rfl,by rw [HCE.out]; exact HF0.out,⟨rfl,rfl,rfl,Nat.le_refl _,fun _ _=>rfl⟩⟩
end Go.Proofs.YtcoeneldaohpnaaGreat
