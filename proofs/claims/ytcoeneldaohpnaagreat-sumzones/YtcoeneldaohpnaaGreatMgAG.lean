import Derived.Test.YtcoeneldaohpnaaGreatMgAF
import Derived.Maps.AppendAt
import Derived.Test.YtcoeneldaohpnaaGreatMgAC
import Derived.Test.YtcoeneldaohpnaaGreatLinAll
namespace Go.Proofs.YtcoeneldaohpnaaGreat
open Go.RowKit
def Fr (B:Nat) (e2 e1:TypeId) (w:World) (v:Value) (m:List (List Int)):Prop:=
 ∃vs,vs.length=m.length∧w.ownsRow B e2 1 v m.length vs∧∀i,i < m.length→Sl 0 e1 w (vs.getD i (.slice none 0 0)) (ints (m.getD i []))
theorem Fr.rws {B:Nat} {e2 e1:TypeId} {w:World} {v:Value} {m:List (List Int)} (h:Fr B e2 e1 w v m):Rws B e2 e1 w v m:=by
 obtain ⟨vs,h1,h2,h3⟩:=h
 exact ⟨vs,h1,h2,fun i hi=>(h3 i hi).more (Nat.zero_le _)⟩
theorem Fr.nil (B:Nat) (e2 e1:TypeId) (w:World):Fr B e2 e1 w (.slice none 0 0) []:=
 ⟨[],rfl,World.ownsRow_nil _ _ _ _,fun i hi=>absurd hi (by simp)⟩
theorem Fr.below {B N:Nat} {e2 e1:TypeId} {w w':World} {v:Value} {m:List (List Int)} (h:Fr B e2 e1 w v m) (hb:Below N w w') (hN:w.heap.size≤N):Fr B e2 e1 w' v m:=by
 obtain ⟨vs,h1,h2,h3⟩:=h
 exact ⟨vs,h1,owns_below h2 hb hN,fun i hi=>(h3 i hi).below hb hN⟩
theorem Fr.alloc {B:Nat} {e2 e1:TypeId} {w:World} {v:Value} {m:List (List Int)} (h:Fr B e2 e1 w v m) (o:Obj):Fr B e2 e1 (w.alloc o) v m:=by
 obtain ⟨vs,h1,h2,h3⟩:=h
 exact ⟨vs,h1,h2.alloc o,fun i hi=>(h3 i hi).alloc o⟩
theorem Fr.kept {B B' n:Nat} {e2 e1:TypeId} {w w':World} {v u:Value} {m:List (List Int)} {us:List Value} (hne:e2≠e1) (h:Fr B e2 e1 w v m) (hu:w.ownsRow B' e2 1 u n us) (hg:w.grownBy w' u.ownBlock)
  (ha:∀g,u.ownBlock=some g→v.ownBlock≠some g):Fr B e2 e1 w' v m:=by
 obtain ⟨vs,h1,h2,h3⟩:=h
 refine ⟨vs,h1,h2.kept hg ?_,fun i hi=>(h3 i hi).grown hg (fun k hk=>⟨Nat.zero_le _,(owns_typed hu hne k hk).2⟩)⟩
 cases hv:v.ownBlock with
 | none=>exact Or.inl rfl
 | some g=>exact Or.inr fun e=>ha g e.symm hv
theorem Fr.push {B:Nat} {e2 e1:TypeId} {w w':World} {v v' u:Value} {m:List (List Int)} {vs:List Value} {zs:List Int} (hne:e2≠e1)
  (h1:vs.length=m.length) (h2:w.ownsRow B e2 1 v m.length vs) (h3:∀i,i < m.length→Sl 0 e1 w (vs.getD i (.slice none 0 0)) (ints (m.getD i []))) (hu:Sl 0 e1 w u (ints zs))
  (ho:w'.ownsRow B e2 1 v' (m.length+1) (vs ++ [u])) (hg:w.grownBy w' v.ownBlock):Fr B e2 e1 w' v' (m ++ [zs]):=by
 have ht:∀k,v.ownBlock=some k→0≤k∧∀cur,w.heap[k]?≠some (.cells cur e1 (0,0)):=fun k hk=>⟨Nat.zero_le _,(owns_typed h2 hne k hk).2⟩
 refine ⟨vs ++ [u],by simp [h1],by simpa using ho,fun i hi=>?_⟩
 by_cases hlt:i < m.length
 ·have e1':(vs ++ [u]).getD i (.slice none 0 0)=vs.getD i (.slice none 0 0):=by
   simp only [List.getD_eq_getElem?_getD]; rw [List.getElem?_append_left (by omega)]
  have e2':(m ++ [zs]).getD i []=m.getD i []:=by
   simp only [List.getD_eq_getElem?_getD]; rw [List.getElem?_append_left (by omega)]
  rw [e1',e2']
  exact (h3 i hlt).grown hg ht
 ·have hi':i=m.length:=by simp at hi; omega
  subst hi'
  have e1':(vs ++ [u]).getD m.length (.slice none 0 0)=u:=by
   rw [←h1]; simp
  have e2':(m ++ [zs]).getD m.length []=zs:=by simp
  rw [e1',e2']
  exact hu.grown hg ht
def Apart (x l:Value):Prop:=∀g,x.ownBlock=some g→l.ownBlock≠some g
def chosenL:Nat→Nat→List (List Int)
 | 0,_=>[[]]
 | k+1,n=>(List.range' k (n-k)).flatMap fun v=>(chosenL k v).map (· ++ [(v:Int)])
def chosenTo (k v:Nat):List (List Int):=(List.range' k (v-k)).flatMap fun v=>(chosenL k v).map (· ++ [(v:Int)])
theorem chosenTo_succ {k v:Nat} (h:k≤v):chosenTo k (v+1)=chosenTo k v ++ (chosenL k v).map (· ++ [(v:Int)]):=by
 unfold chosenTo
 rw [show v+1-k=(v-k)+1 by omega,List.range'_concat,List.flatMap_append]
 simp [show k+(v-k)=v by omega]
theorem chosen_len:∀k n,n≤64→(chosenL k n).length≤64 ^ k:=by
 intro k
 induction k with
 | zero=>intro n _; simp [chosenL]
 | succ k ih=>
  intro n hn
  have h1:∀t,k+t≤64→((List.range' k t).flatMap fun v=>(chosenL k v).map (· ++ [(v:Int)])).length≤t*64 ^ k:=by
   intro t
   induction t with
   | zero=>intro _; simp
   | succ t it=>
    intro ht
    rw [List.range'_concat,List.flatMap_append,List.length_append]
    have:=it (by omega)
    have h2:=ih (k+t) (by omega)
    simp only [List.flatMap_cons,List.flatMap_nil,List.append_nil,List.length_map,Nat.one_mul]
    rw [Nat.add_mul]; omega
  have h2:=h1 (n-k)
  simp only [chosenL]
  by_cases hk:k≤n
  ·have:=h2 (by omega)
   rw [Nat.pow_succ]
   have h3:(n-k)*64 ^ k≤64*64 ^ k:=Nat.mul_le_mul_right _ (by omega)
   rw [Nat.mul_comm (64 ^ k)]; omega
  ·have:n-k=0:=by omega
   rw [this]; simp
theorem chosen_row:∀k n l,l∈chosenL k n→l.length=k:=by
 intro k
 induction k with
 | zero=>intro n l h; simp [chosenL] at h; subst h; rfl
 | succ k ih=>
  intro n l h
  simp only [chosenL,List.mem_flatMap,List.mem_map] at h
  obtain ⟨v,_,l',h1,rfl⟩:=h
  simp [ih v l' h1]
theorem chosen_base (w:World):Fr w.heap.size 26 3 ((w.alloc (.cells #[] 3)).alloc (.cells #[.slice (some ⟨w.heap.size,0,none⟩) 0 0] 26)) (.slice (some ⟨w.heap.size+1,0,none⟩) 1 1) [[]]:=by
 refine ⟨[.slice (some ⟨w.heap.size,0,none⟩) 0 0],rfl,?_,fun i hi=>?_⟩
 ·have h:=World.ownsRow_lit (base:=w.heap.size) (e:=26) (size:=1) (w.alloc (.cells #[] 3)) #[.slice (some ⟨w.heap.size,0,none⟩) 0 0] 1 (by simp) (by simp [maxLen]) (by simp)
  simpa using h
 ·have:i=0:=by simp at hi; omega
  subst this
  exact ⟨some ⟨w.heap.size,0,none⟩,0,rfl,by simp [ints],by simp [maxLen],fun i hi=>absurd hi (by simp [ints]),fun h=>by cases h⟩
def ChosenSaid (k:Nat):Prop:=∀(n:Nat) (w:World),n≤64→
 Calls Tryz.prog 20 #[.int .i64 n,.int .i64 k] w fun e w'=>∃x,e=.returned x∧Fr w.heap.size 26 3 w' x (chosenL k n)∧Below w.heap.size w w'
set_option maxRecDepth 100000 in
set_option maxHeartbeats 400000 in
theorem chosen_zero:ChosenSaid 0:=by
 intro n w hn
 go_enter Tryz.func20,Tryz.ntmps20
 go_wp2
 go_ret
 exact ⟨_,rfl,chosen_base w,((Below.refl _ _).alloc (Nat.le_refl _) _).alloc (by simp) _⟩
theorem toSnoc {v i:Nat} {m:List (List Int)} {l:List (List Int)} (hm:m=l) (hi:i < l.length) (A:List (List Int)) :
  A ++ (m.map (· ++ [(v:Int)])).take (i+1)=(A ++ (m.map (· ++ [(v:Int)])).take i) ++ [l.getD i [] ++ [(v:Int)]]:=by
 subst hm
 rw [List.take_succ_eq_append_getElem (by simpa using hi),List.append_assoc]
 simp [hi]
set_option maxRecDepth 100000 in
set_option maxHeartbeats 1600000 in
theorem chosen_step (k:Nat) (hk5:k≤4) (ih:ChosenSaid k) (n:Nat) (w:World) (hn:n≤64) :
  Calls Tryz.prog 20 #[.int .i64 n,.int .i64 ((k:Int)+1)] w fun e w'=>∃x,e=.returned x∧Fr w.heap.size 26 3 w' x (chosenL (k+1) n)∧Below w.heap.size w w':=by
 obtain ⟨i0,hi,hz0,hz1,hz2⟩:=info_parts Tryz.info26
 obtain ⟨i3,hi3,hz30,hz31,hz32⟩:=info_parts Tryz.info3
 have HCL:Hid ((chosenL (k+1) n).length≤64 ^ 5):=Nat.le_trans (chosen_len (k+1) n hn) (Nat.pow_le_pow_right (by omega) (by omega))
 have t0:((k:Int)+1 == 0)=false:=by simp; omega
 have HIH:Hid (ChosenSaid k):=ih
 clear ih
 go_enter Tryz.func20,Tryz.ntmps20
 go_wp2
 go_loopw [5,6] (fun x i wr=>∃v:Nat,k≤v∧v≤max n k∧i=.int .i64 v∧Fr w.heap.size 26 3 wr x (chosenTo k v)∧Below w.heap.size w wr) (fun _ i _=>n-(intOf i).toNat)
 case atStart=>
  refine ⟨k,Nat.le_refl _,by omega,by go_num,?_,Below.refl _ _⟩
  have:chosenTo k k=[]:=by simp [chosenTo]
  rw [this]; exact Fr.nil _ _ _ _
 case round=>
  obtain ⟨v,hv1,hv2,rfl,hrw,hbel⟩:=hrel
  obtain ⟨wa,rfl⟩:∃wa,wa=wr:=⟨wr,rfl⟩
  have HR:Hid (Fr w.heap.size 26 3 wa u5 (chosenTo k v)):=hrw
  have HB:Hid (Below w.heap.size w wa):=hbel
  have hsz:w.heap.size≤wa.heap.size:=hbel.size
  clear hrw hbel
  by_cases hlt:v < n
  ·have hv64:v≤64:=by omega
   go_wp2_with fail
   refine (HIH.out v wa hv64).mono ?_
   rintro e w1 ⟨lv,rfl,hf,hb1⟩
   have hlc:(chosenL k v).length≤64 ^ 4:=Nat.le_trans (chosen_len k v hv64) (Nat.pow_le_pow_right (by omega) (by omega))
   have hto:(chosenTo k v).length≤64 ^ 5:=by
    have h1:=chosen_len (k+1) v hv64
    exact Nat.le_trans h1 (Nat.pow_le_pow_right (by omega) (by omega))
   have HF:Hid (Fr wa.heap.size 26 3 w1 lv (chosenL k v)):=hf
   have HR1:Hid (Fr w.heap.size 26 3 w1 u5 (chosenTo k v)):=HR.out.below hb1 (Nat.le_refl _)
   have HB1:Hid (Below w.heap.size w w1):=HB.out.trans (hb1.mono hsz)
   have HAP:Hid (Apart u5 lv):=by
    intro g hg hl
    obtain ⟨_,_,q1,_⟩:=HR.out
    obtain ⟨_,_,q2,_⟩:=hf
    have:=(q1.lt g hg).2
    have:=(q2.lt g hl).1
    omega
   clear hf hb1 HR HB
   generalize hcl:chosenL k v=cl at *
   have HCLV:Hid (chosenL k v=cl):=hcl
   clear hcl
   obtain ⟨lo,lc,hlv,hlc1,hlc2⟩:=mat_open (HF.out.rws.mat (Nat.le_refl _))
   subst hlv
   go_wp2
   go_loopw [5,8] (fun x i wq=>∃j:Nat,j≤cl.length∧i=.int .i64 j∧Fr w.heap.size 26 3 wq x (chosenTo k v ++ (cl.map (· ++ [(v:Int)])).take j)∧Below w.heap.size w wq∧Fr wa.heap.size 26 3 wq (.slice lo cl.length lc) cl∧
     Apart x (.slice lo cl.length lc)) (fun _ i _=>cl.length-(intOf i).toNat)
   case atStart=>exact ⟨0,Nat.zero_le _,rfl,by simpa using HR1.out,HB1.out,HF.out,HAP.out⟩
   case round=>
    obtain ⟨j,hj,rfl,hx,hb,hl,hap⟩:=hrel
    have HX:Hid (Fr w.heap.size 26 3 wr u5 (chosenTo k v ++ (cl.map (· ++ [(v:Int)])).take j)):=hx
    have HBq:Hid (Below w.heap.size w wr):=hb
    have HL:Hid (Fr wa.heap.size 26 3 wr (.slice lo cl.length lc) cl):=hl
    have HA:Hid (Apart u5 (.slice lo cl.length lc)):=hap
    have hszq:w.heap.size≤wr.heap.size:=hb.size
    clear hx hb hl hap HR1 HB1 HF HAP
    by_cases hjl:j < cl.length
    ·obtain ⟨b,o,cp,r1,hs,hc1,hcc,hr1⟩:=mat_cell (HL.out.rws.mat (Nat.le_refl _)) hjl
     simp only [Value.slice.injEq] at hs
     obtain ⟨rfl,_,rfl⟩:=hs
     have HR1:Hid (Sl wa.heap.size 3 wr r1 (ints (cl.getD j []))):=hr1
     have hrl:(cl.getD j []).length=k:=by
      have:cl.getD j []∈cl:=by simp [hjl]
      rw [←HCLV.out] at this
      rw [←HCLV.out]; exact chosen_row k v _ this
     have HRL:Hid ((cl.getD j []).length=k):=hrl
     have hrl2:(cl.getD j []).length≤1000000:=by omega
     clear hr1 hrl
     generalize hrj:cl.getD j []=rj at *
     have HRJ:Hid (cl.getD j []=rj):=hrj
     clear hrj
     go_wp2_with fail
     refine (copy_any wa.heap.size _ r1 wr HR1.out hrl2).mono ?_
     rintro e w2 ⟨cv,rfl,hcv,hb2⟩
     have HCV:Hid (w2.ownsRow wr.heap.size 3 1 cv rj.length (ints rj)):=hcv
     have HB2:Hid (Below wr.heap.size wr w2):=hb2
     have hsz2:wr.heap.size≤w2.heap.size:=hb2.size
     clear hcv hb2 hcc
     go_wp2_with (first | (at_builtin; refine wpList_append_own _ rfl _ _ 26 rfl wr.heap.size 3 i3 (.int .i64 0) 1 8 Tryz.underlying26 hi3 hz30 hz31 hz32 rfl (by decide) _ _ _ rfl (HCV.out.alloc _) ⟨w2.heap.size,0,none⟩ 1 1 [.int .i64 v] rfl rfl (one_new _ _ _) (one_int _) ?c3 ?c4 ?c5 ?_))
     case c3=>unfold maxLen; omega
     case c4=>omega
     case c5=>simp; omega
     intro v' w3 ho hg _
     have R:=owns_push (z:=(v:Int)) (N:=rj.length+1) hsz2 (l:=rj) HCV.out HB2.out ho hg rfl
     have R1:Hid (Sl 0 3 w3 v' (ints (rj ++ [(v:Int)]))):=Sl.own R.1
     have R2:Hid (Below wr.heap.size wr w3):=R.2
     have hsz3:wr.heap.size≤w3.heap.size:=R.2.size
     obtain ⟨xo,xc,hxv⟩:=owns_form R.1
     subst hxv
     clear R ho hg HCV HB2
     have HX3:Hid (Fr w.heap.size 26 3 w3 u5 (chosenTo k v ++ (cl.map (· ++ [(v:Int)])).take j)):=HX.out.below R2.out (Nat.le_refl _)
     have HL3:Hid (Fr wa.heap.size 26 3 w3 (.slice (some ⟨b,o,none⟩) cl.length lc) cl):=HL.out.below R2.out (Nat.le_refl _)
     have HB3:Hid (Below w.heap.size w w3):=HBq.out.trans (R2.out.mono hszq)
     clear HX HL HBq
     obtain ⟨vs,g1,g2,g3⟩:=HX3.out
     have hlen:(chosenTo k v ++ (cl.map (· ++ [(v:Int)])).take j).length=(chosenTo k v).length+j:=by
      rw [List.length_append,List.length_take,List.length_map]; omega
     have HLN:Hid ((chosenTo k v ++ (cl.map (· ++ [(v:Int)])).take j).length=(chosenTo k v).length+j):=hlen
     rw [hlen] at g1 g2 g3
     have G1:Hid (vs.length=(chosenTo k v).length+j):=g1
     have G2:Hid (w3.ownsRow w.heap.size 26 1 u5 ((chosenTo k v).length+j) vs):=g2
     have G3:Hid (∀i,i < (chosenTo k v).length+j→Sl 0 3 w3 (vs.getD i (.slice none 0 0)) (ints ((chosenTo k v ++ (cl.map (· ++ [(v:Int)])).take j).getD i []))):=g3
     clear g1 g2 g3 hlen
     go_wp2_with (first | (at_builtin; refine wpList_append_own_at _ rfl _ _ 22 rfl w.heap.size 26 i0 (.slice none 0 0) 1 24 Tryz.underlying22 hi hz0 hz1 hz2 rfl (by decide) _ _ _ rfl (G2.out.alloc _) ⟨w3.heap.size,0,none⟩ 1 1 [.slice xo (rj.length+1) xc] rfl rfl (one_new _ _ _) (one_slice _ _ _) ?d3 ?d4 ?d5 ?_))
     case d3=>unfold maxLen; omega
     case d4=>omega
     case d5=>simp; omega
     intro v2 w4 ho hg _ hat
     have S1:Hid (Fr w.heap.size 26 3 w4 v2 (chosenTo k v ++ (cl.map (· ++ [(v:Int)])).take (j+1))):=by
      have hp:=Fr.push (e2:=26) (e1:=3) (m:=chosenTo k v ++ (cl.map (· ++ [(v:Int)])).take j) (u:=.slice xo (rj.length+1) xc) (zs:=rj ++ [(v:Int)]) (by decide) (by rw [HLN.out]; exact G1.out) (by rw [HLN.out]; exact G2.out.alloc _)
       (fun i hi=>(G3.out i (by rw [HLN.out] at hi; exact hi)).alloc _) (R1.out.alloc _) (by rw [HLN.out]; exact ho) hg
      rw [←HRJ.out,←toSnoc rfl hjl] at hp
      exact hp
     have S2:Hid (Below w.heap.size w w4):=(HB3.out.alloc (by omega) _).grown hg (by simp; omega) (fun x hx=>(G2.out.lt x hx).1)
     have S3:Hid (Fr wa.heap.size 26 3 w4 (.slice (some ⟨b,o,none⟩) cl.length lc) cl):=(HL3.out.alloc _).kept (by decide) (G2.out.alloc _) hg HA.out
     have S4:Hid (Apart v2 (.slice (some ⟨b,o,none⟩) cl.length lc)):=by
      intro g hg2 hl2
      rcases hat with h | h
      ·rw [h] at hg2; exact HA.out g hg2 hl2
      ·rw [h] at hg2
       simp only [Option.some.injEq] at hg2
       obtain ⟨_,_,q2,_⟩:=HL3.out
       have:=(q2.lt g hl2).2
       omega
     clear ho hg hat
     go_wp2
     go_roundw
     case rel=>exact ⟨j+1,by omega,by go_num,S1.out,S2.out,S3.out,S4.out⟩
     case measure=>simp [intOf]; omega
    ·go_wp2
     go_roundw
     case rel=>
      refine ⟨v+1,by omega,by omega,by go_num,?_,HBq.out⟩
      have h:=HX.out
      rw [List.take_of_length_le (by simp; omega),←HCLV.out,←chosenTo_succ hv1] at h
      exact h
     case measure=>simp [intOf]; omega
  ·go_wp2
   go_ret
   refine ⟨_,rfl,?_,HB.out⟩
   have h:=HR.out
   have e:chosenL (k+1) n=chosenTo k v:=by
    unfold chosenTo; simp only [chosenL]
    by_cases hkn:k≤n
    ·rw [show n=v by omega]
    ·rw [show n-k=0 by omega,show v-k=0 by omega]
   rw [e]; exact h
theorem chosen_succ (k:Nat) (hk5:k≤4) (ih:ChosenSaid k):ChosenSaid (k+1):=by
 intro n w hn
 rw [Int.natCast_succ]
 exact chosen_step k hk5 ih n w hn
theorem chosen_any (k:Nat) (hk:k≤5):ChosenSaid k:=by
 induction k with
 | zero=>exact chosen_zero
 | succ k ih=>exact chosen_succ k (by omega) (ih (by omega))
end Go.Proofs.YtcoeneldaohpnaaGreat

namespace Go.Proofs.YtcoeneldaohpnaaGreat
open Go.RowKit
attribute [local go_sem ↓] Go.wp_at_zero Go.wp_at_succ
theorem step_call2 {P:Program} {ops:Array Oper} {o:Oper} {a:Act} {w:World} {K:Act→World→Prop} {Q:Exit→Act→World→Prop} {E:Prop}
  (hg : o.guard = none) (f : FuncId) (x y : Operand) (t s : TypeId) (hop : o.op = Op.call { callee := Callee.value (Operand.func f), args := #[x, y], argTypes := #[t, s] }) (v u : Value) (hv : a.eval x = v) (hu : a.eval y = u) (hf : ∃ fn, P.funcs[f]? = some fn ∧ (fn.name == "runtime.NumGoroutine") = false ∧ fn.body.isNone = false)
  (hc:Calls P f #[v,u] w fun e w'=>∃u,e=.returned u∧K (a.put o.dst u) w') :
  if Region.wanted o (yielded ops a.tmps)=true then Oper.wp P o a w K Q else E:=by
 have hw:Region.wanted o (yielded ops a.tmps)=true:=by simp [Region.wanted,hg]
 rw [if_pos hw]
 unfold Oper.wp
 obtain ⟨fn,f1,f2,f3⟩:=hf
 have e:(execOp a.eval o).run P w=.ok (.enter f #[v,u]) w:=by
  have hfn:a.eval (Operand.func f)=Value.func (Fn.func f) #[] #[]:=rfl
  have hcf:(callFunc f #[v,u]).run P w=.ok (.enter f #[v,u]) w:=by
   unfold callFunc
   have g2 : ¬ fn.name = "runtime.NumGoroutine" := by simpa using f2
   have g3:¬fn.body=none:=by intro e; rw [e] at f3; simp at f3
   simp [f1,g2,g3]
  unfold execOp
  rw [hop]
  simp [resolve,invoke,hv,hu,hfn,Deferred.ofValue,hcf]
 rw [e,Oper.upon_enter]
 refine hc.mono ?_
 rintro e w' ⟨u,rfl,h⟩
 exact h
def Box (n wd:Nat) (m:List (List Int)):Prop:=∀r∈m,r.length=n∧∀z∈r,-(wd:Int)≤z∧z≤wd
end Go.Proofs.YtcoeneldaohpnaaGreat

namespace Go.Proofs.YtcoeneldaohpnaaGreat
open Go.RowKit
attribute [local go_sem ↓] Go.wp_at_zero Go.wp_at_succ
def dotL (a x:List Int):Int:=Lin.sumN a.length fun i=>a.getD i 0*x.getD i 0
def Sm (a x:List Int):Prop:=a.length≤x.length∧a.length≤8∧(∀z∈a,z.natAbs≤1000000000000)∧∀z∈x,z.natAbs≤1000
theorem mul_bd {a x:Int} (ha:a.natAbs≤1000000000000) (hx:x.natAbs≤1000):(a*x).natAbs≤1000000000000000:=by
 rw [Int.natAbs_mul]
 exact Nat.le_trans (Nat.mul_le_mul ha hx) (by decide)
theorem sum_sm {a x:List Int} (h:Sm a x):∀k,k≤a.length→(Lin.sumN k fun i=>a.getD i 0*x.getD i 0).natAbs≤k*1000000000000000:=by
 intro k
 induction k with
 | zero=>intro _; simp [Lin.sumN]
 | succ k ih=>
  intro hk
  have h1:=ih (by omega)
  have h2:(a.getD k 0*x.getD k 0).natAbs≤1000000000000000:=mul_bd (h.2.2.1 _ (by simp [show k < a.length by omega])) (h.2.2.2 _ (by simp [show k < x.length by have:=h.1; omega]))
  simp only [Lin.sumN]
  omega
set_option maxRecDepth 100000 in
set_option maxHeartbeats 400000 in
theorem product_any (B:Nat) (a x:List Int) (u v:Value) (w:World) (hu:Sl B 3 w u (ints a)) (hv:Sl B 3 w v (ints x)) (hs:Sm a x) :
  Calls Tryz.prog 86 #[u,v] w fun e w'=>e=.returned (.int .i64 (dotL a x))∧∃n,w'=w.drewN n:=by
 obtain ⟨ao,cap,hvv,hlc,hcm⟩:=sl_open hu
 obtain ⟨bo,cbp,huu,hlb,hcb⟩:=sl_open hv
 subst hvv huu
 have HU:Hid (Sl B 3 w (.slice ao a.length cap) (ints a)):=hu
 have HV:Hid (Sl B 3 w (.slice bo x.length cbp) (ints x)):=hv
 have HS:Hid (Sm a x):=hs
 have hle:a.length≤x.length:=hs.1
 have hl8:a.length≤8:=hs.2.1
 clear hu hv hs
 go_enter Tryz.func86,Tryz.ntmps86
 go_wp2
 go_loopw [5,9] (fun s i wr=>∃k:Nat,k≤a.length∧i=.int .i64 k∧s=.int .i64 (Lin.sumN k fun i=>a.getD i 0*x.getD i 0)∧∃n,wr=w.drewN n) (fun _ i _=>a.length-(intOf i).toNat)
 case atStart=>exact ⟨0,Nat.zero_le _,rfl,rfl,0,rfl⟩
 case round=>
  obtain ⟨k,hk,rfl,rfl,n,rfl⟩:=hrel
  by_cases hlt:k < a.length
  ·have hlt2:k < x.length:=by omega
   obtain ⟨b,o,cp,hs,hc1,hcc⟩:=sl_cell HU.out hlt
   simp only [Value.slice.injEq] at hs
   obtain ⟨rfl,_,rfl⟩:=hs
   obtain ⟨b2,o2,cp2,hs2,hc2,hcc2⟩:=sl_cell HV.out hlt2
   simp only [Value.slice.injEq] at hs2
   obtain ⟨rfl,_,rfl⟩:=hs2
   have h1:=sum_sm HS.out k hk
   have h2:=sum_sm HS.out (k+1) (by omega)
   have h3:(a.getD k 0*x.getD k 0).natAbs≤1000000000000000:=mul_bd (HS.out.2.2.1 _ (by simp [hlt])) (HS.out.2.2.2 _ (by simp [hlt2]))
   have HSU:Hid ((Lin.sumN (k+1) fun i=>a.getD i 0*x.getD i 0)=(Lin.sumN k fun i=>a.getD i 0*x.getD i 0)+a.getD k 0*x.getD k 0):=rfl
   rw [HSU.out] at h2
   generalize (Lin.sumN k fun i=>a.getD i 0*x.getD i 0)=S at *
   generalize a.getD k 0=p at *
   generalize x.getD k 0=q at *
   have e2:wrap64 (S+wrap64 (p*q))=S+p*q:=by
    rw [IntWalk.wrap64_in (p*q) ⟨by omega,by omega⟩,IntWalk.wrap64_in _ ⟨by omega,by omega⟩]
   clear h1 h2 h3
   go_wp2
   go_quiet (fail)
   go_wp2
   go_roundw
   case rel=>exact ⟨k+1,by omega,by go_num,by rw [HSU.out,e2],_,rfl⟩
   case measure=>simp [intOf]; omega
  ·have hke:k=a.length:=by omega
   subst hke
   go_wp2
   go_ret
   exact ⟨rfl,n,rfl⟩
end Go.Proofs.YtcoeneldaohpnaaGreat
