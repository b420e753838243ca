import Derived.Test.YtkfdpcgmpbopnaaGreatDoorRefs
import Derived.Test.YtkfdpcgmpbopnaaGreatDoorStepsAll
import Derived.Deep.DrawnRows
import Derived.Maps.AppendAt
namespace Go.Proofs.YtkfdpcgmpbopnaaGreatDoor
open Go.RowKit
attribute [local go_sem ↓] Go.wp_at_zero Go.wp_at_succ
def colsL (m:List (List Int)) (c:List Int):List (List Int):=m.map fun r=>c.map fun q=>r.getD q.toNat 0
theorem colsL_snoc (m:List (List Int)) (c:List Int) (k:Nat) (h:k < m.length):(colsL m c).take (k+1)=(colsL m c).take k ++ [c.map fun q=>(m.getD k []).getD q.toNat 0]:=by
 unfold colsL
 rw [List.take_succ_eq_append_getElem (by simpa using h)]; simp [h]
theorem colsL_length (m:List (List Int)) (c:List Int):(colsL m c).length=m.length:=by simp [colsL]
theorem push3 {M j:Nat} {wa wr w3:World} {v v':Value} {o:Obj} {t l:List Int} {z:Int} (hB:Below M wa wr) (hsz:M≤wr.heap.size) (hl:t.length=j) (h:wr.ownsRow M 3 1 v j (ints t))
  (ho:w3.ownsRow M 3 1 v' (j+1) (ints t ++ [.int .i64 z])) (hg:(wr.drew.alloc o).grownBy w3 v.ownBlock) (hz:l=t ++ [z]):w3.ownsRow M 3 1 v' (j+1) (ints l)∧Below M wa w3:=by
 subst hl hz
 exact owns_push (w:=wr.drew) hsz (l:=t) h hB.drew ho hg rfl
theorem keep3 {M:Nat} {wa w3:World} (hB:Below M wa w3) {a1 a2 a3:Addr} {v1 v2 v3:Value} (h:((a1.block < M∧wa.cell? a1=some v1)∧(a2.block < M∧wa.cell? a2=some v2))∧(a3.block < M∧wa.cell? a3=some v3)) :
  Hid (w3.cell? a1=some v1∧w3.cell? a2=some v2∧w3.cell? a3=some v3):=
 ⟨(hB.cell h.1.1.1).trans h.1.1.2,(hB.cell h.1.2.1).trans h.1.2.2,(hB.cell h.2.1).trans h.2.2⟩
set_option maxRecDepth 100000 in
set_option maxHeartbeats 1600000 in
theorem columns_any (B:Nat) (m:List (List Int)) (c:List Int) (v u:Value) (w:World) (hv:Mat B 22 3 w v m) (hu:Sl B 3 w u (ints c)) (hm:m.length≤1000000) (hcl:c.length≤1000000)
  (hq:∀q∈c,0≤q∧∀r∈m,q < r.length) :
  Calls Tryz.prog 62 #[v,u] w fun e w'=>∃x,e=.returned x∧Rws w.heap.size 22 3 w' x (colsL m c)∧Below w.heap.size w w':=by
 obtain ⟨i0,hi,hz0,hz1,hz2⟩:=info_parts Tryz.info22
 obtain ⟨i3,hi3,hz30,hz31,hz32⟩:=info_parts Tryz.info3
 obtain ⟨ao,cap,hvv,hlc,hcm⟩:=mat_open hv
 obtain ⟨bo,cbp,huu,hlb,hcb⟩:=sl_open hu
 subst hvv huu
 have HV:Hid (Mat B 22 3 w (.slice ao m.length cap) m):=hv
 have HU:Hid (Sl B 3 w (.slice bo c.length cbp) (ints c)):=hu
 have HQ:Hid (∀q∈c,0≤q∧∀r∈m,q < r.length):=hq
 clear hv hu hq
 go_enter Tryz.func62,Tryz.ntmps62
 go_wp2
 go_loopw [5,6] (fun x i wr=>∃k:Nat,k≤m.length∧i=.int .i64 k∧Rws w.heap.size 22 3 wr x ((colsL m c).take k)∧Below w.heap.size w wr) (fun _ i _=>m.length-(intOf i).toNat)
 case atStart=>exact ⟨0,Nat.zero_le _,rfl,Rws.nil _ _ _ _,Below.refl _ _⟩
 case round=>
  obtain ⟨k,hk,rfl,hrw,hbel⟩:=hrel
  obtain ⟨wa,rfl⟩:∃wa,wa=wr:=⟨wr,rfl⟩
  have HR:Hid (Rws w.heap.size 22 3 wa u5 ((colsL m c).take k)):=hrw
  have HB:Hid (Below w.heap.size w wa):=hbel
  have hsz:w.heap.size≤wa.heap.size:=hbel.size
  clear hrw hbel
  by_cases hlt:k < m.length
  ·obtain ⟨b,o,cp,r1,hs,hc1,hcc,hr1⟩:=mat_cell (HV.out.below HB.out (Nat.le_refl _)) hlt
   simp only [Value.slice.injEq] at hs
   obtain ⟨rfl,_,rfl⟩:=hs
   have HR1:Hid (Sl B 3 wa r1 (ints (m.getD k []))):=hr1
   have HUa:Hid (Sl B 3 wa (.slice bo c.length cbp) (ints c)):=HU.out.below HB.out (Nat.le_refl _)
   clear hr1
   obtain ⟨M,hM⟩:∃M,M=wa.heap.size:=⟨_,rfl⟩
   have HM:Hid (M=wa.heap.size):=hM
   have hMs:w.heap.size≤M:=by omega
   clear hM
   go_wp2
   go_loopw [7,8] (fun x i wq=>∃j:Nat,j≤c.length∧i=.int .i64 j∧wq.ownsRow M 3 1 x j (ints ((c.map fun q=>(m.getD k []).getD q.toNat 0).take j))∧Below M wa wq) (fun _ i _=>c.length-(intOf i).toNat)
   case atStart=>exact ⟨0,Nat.zero_le _,rfl,World.ownsRow_nil _ _ _ _,Below.refl _ _⟩
   case round=>
    obtain ⟨j,hj,rfl,hown,hbel⟩:=hrel
    have HO:Hid (wr.ownsRow M 3 1 u7 j (ints ((c.map fun q=>(m.getD k []).getD q.toNat 0).take j))):=hown
    have HBq:Hid (Below M wa wr):=hbel
    have hszq:M≤wr.heap.size:=by have:=hbel.size; rw [HM.out]; exact this
    clear hown hbel
    by_cases hjl:j < c.length
    ·obtain ⟨b2,o2,cp2,hs2,hc2,hcc2a⟩:=sl_cell HUa.out hjl
     simp only [Value.slice.injEq] at hs2
     obtain ⟨rfl,_,rfl⟩:=hs2
     have hcc2:wr.cell? ⟨b2,o2+j,none⟩=some (.int .i64 (c.getD j 0)):=(HBq.out.cell (by rw [HM.out]; exact lt_of_cell hcc2a)).trans hcc2a
     have hcq:wr.cell? ⟨b,o+k,none⟩=some r1:=(HBq.out.cell (by rw [HM.out]; exact lt_of_cell hcc)).trans hcc
     have hmem:c.getD j 0∈c:=by simp [hjl]
     obtain ⟨hq1,hq2⟩:=HQ.out _ hmem
     have hq3:c.getD j 0 < (m.getD k []).length:=hq2 _ (by simp [hlt])
     clear hmem hq2
     obtain ⟨q,hqq⟩:=Int.eq_ofNat_of_zero_le hq1
     obtain ⟨z,hz⟩:∃z,z=(m.getD k []).getD q 0:=⟨_,rfl⟩
     have HZ:Hid ((c.map fun q=>(m.getD k []).getD q.toNat 0).take (j+1)=(c.map fun q=>(m.getD k []).getD q.toNat 0).take j ++ [z]):=by
      have e:=map_snoc (fun q=>(m.getD k []).getD q.toNat 0) c j hjl
      have e2:c[j]=(q:Int):=by rw [←hqq]; simp [hjl]
      rw [hz,←Int.toNat_natCast q,←e2]; exact e
     have HLL:Hid (((c.map fun q=>(m.getD k []).getD q.toNat 0).take j).length=j):=by
      show _=_
      simp; omega
     obtain ⟨b3,o3,cp3,hs3,hc3,hcc3a⟩:=sl_cell HR1.out (k:=q) (by omega)
     subst hs3
     rw [hqq] at hcc2 hq3 hcc2a
     rw [←hz] at hcc3a
     have hcc3:wr.cell? ⟨b3,o3+q,none⟩=some (.int .i64 z):=(HBq.out.cell (by rw [HM.out]; exact lt_of_cell hcc3a)).trans hcc3a
     generalize hln:(m.getD k []).length=ln at *
     have KA:Hid (((b < M∧wa.cell? ⟨b,o+k,none⟩=some (.slice (some ⟨b3,o3,none⟩) ln cp3))∧(b2 < M∧wa.cell? ⟨b2,o2+j,none⟩=some (.int .i64 q)))∧(b3 < M∧wa.cell? ⟨b3,o3+q,none⟩=some (.int .i64 z))):=by
      rw [HM.out]; exact ⟨⟨⟨lt_of_cell hcc,hcc⟩,⟨lt_of_cell hcc2a,hcc2a⟩⟩,⟨lt_of_cell hcc3a,hcc3a⟩⟩
     clear hcc2a hcc3a
     have hkI:(k:Int) < (m.length:Int):=by omega
     have hjI:(j:Int) < (c.length:Int):=by omega
     have hkI0:(0:Int)≤(k:Int):=by omega
     have hjI0:(0:Int)≤(j:Int):=by omega
     have hqI0:(0:Int)≤(q:Int):=by omega
     clear hqq hz hq1 hln
     go_wp2
     go_region_held3 (fun w'=>w'.cell? ⟨b,o+k,none⟩=some (.slice (some ⟨b3,o3,none⟩) ln cp3)∧w'.cell? ⟨b2,o2+j,none⟩=some (.int .i64 q)∧w'.cell? ⟨b3,o3+q,none⟩=some (.int .i64 z)) (first | go_keep | exact KS.out)
      ((refine step_append_own (by rfl) _ _ 22 (by rfl) M 3 i3 (.int .i64 0) 1 8 Tryz.underlying22 hi3 hz30 hz31 hz32 rfl (by decide) _ _ _ (by rfl) (HO.out.drew.alloc _) ⟨wr.heap.size,0,none⟩ 1 1 [.int .i64 z] (by rfl) rfl (one_new _ _ _) (one_int _) (by unfold maxLen; omega) (by omega) (by simp; omega) ?_; intro v' w3 ho hg; have RR:=push3 HBq.out hszq HLL.out HO.out ho hg (hz:=HZ.out); have KS:=keep3 (a1:=⟨b,o+k,none⟩) (a2:=⟨b2,o2+j,none⟩) (a3:=⟨b3,o3+q,none⟩) RR.2 KA.out))
     have R1:Hid (w3.ownsRow M 3 1 v' (j+1) (ints ((c.map fun q=>(m.getD k []).getD q.toNat 0).take (j+1)))):=RR.1
     have R2:Hid (Below M wa w3):=RR.2
     clear RR ho hg KS
     go_wp2
     go_roundw
     case rel=>exact ⟨j+1,by omega,by go_num,R1.out,R2.out⟩
     case measure=>simp [intOf]; omega
    ·have HX:Hid (Sl w.heap.size 3 wr u7 (ints (c.map fun q=>(m.getD k []).getD q.toNat 0))):=by
      have h:=HO.out
      rw [List.take_of_length_le (by simp; omega)] at h
      exact Sl.own h
     have HRq:Hid (Rws w.heap.size 22 3 wr u5 ((colsL m c).take k)):=HR.out.below HBq.out (by rw [HM.out]; exact Nat.le_refl _)
     have HBw:Hid (Below w.heap.size w wr):=HB.out.trans (HBq.out.mono hMs)
     obtain ⟨xo,xc,hxv⟩:=owns_form HO.out
     subst hxv
     obtain ⟨vs,g1,g2,g3⟩:=HRq.out
     have hlen:((colsL m c).take k).length=k:=by rw [List.length_take,colsL_length]; omega
     have HLN:Hid (((colsL m c).take k).length=k):=hlen
     rw [hlen] at g1 g2 g3
     have G1:Hid (vs.length=k):=g1
     have G2:Hid (wr.ownsRow w.heap.size 22 1 u5 k vs):=g2
     have G3:Hid (∀i,i < k→Sl w.heap.size 3 wr (vs.getD i (.slice none 0 0)) (ints (((colsL m c).take k).getD i []))):=g3
     clear g1 g2 g3 hlen HO
     go_wp2_with (first | (at_builtin; refine wpList_append_own _ rfl _ _ 25 rfl w.heap.size 22 i0 (.slice none 0 0) 1 24 Tryz.underlying25 hi hz0 hz1 hz2 rfl (by decide) _ _ _ rfl (G2.out.alloc _) ⟨wr.heap.size,0,none⟩ 1 1 [.slice xo j xc] rfl rfl (one_new _ _ _) (one_slice _ _ _) ?d3 ?d4 ?d5 ?_))
     case d3=>unfold maxLen; omega
     case d4=>omega
     case d5=>simp; omega
     intro v' w3 ho hg _
     have R1:Hid (Rws w.heap.size 22 3 w3 v' ((colsL m c).take (k+1))):=by
      have hp:=Rws.push (e2:=22) (e1:=3) (m:=(colsL m c).take k) (u:=.slice xo j xc) (zs:=c.map fun q=>(m.getD k []).getD q.toNat 0) (by decide) (by rw [HLN.out]; exact G1.out) (by rw [HLN.out]; exact G2.out.alloc _)
       (fun i hi=>(G3.out i (by rw [HLN.out] at hi; exact hi)).alloc _) (HX.out.alloc _) (by rw [HLN.out]; exact ho) hg
      rw [←colsL_snoc m c k hlt] at hp
      exact hp
     have R2:Hid (Below w.heap.size w w3):=(HBw.out.alloc (by omega) _).grown hg (by simp; omega) (fun x hx=>(G2.out.lt x hx).1)
     clear ho hg
     go_wp2
     go_roundw
     case rel=>exact ⟨k+1,by omega,by go_num,R1.out,R2.out⟩
     case measure=>simp [intOf]; omega
  ·go_wp2
   go_ret
   have h:=HR.out
   rw [List.take_of_length_le (by rw [colsL_length]; omega)] at h
   exact ⟨_,rfl,h,HB.out⟩
end Go.Proofs.YtkfdpcgmpbopnaaGreatDoor
namespace Go.Proofs.YtkfdpcgmpbopnaaGreatDoor
open Go.RowKit
def Fr (B:Nat) (e2 e1:TypeId) (w:World) (v:Value) (m:List (List Int)):Prop:=
 ∃vs,vs.length=m.length∧w.ownsRow B e2 1 v m.length vs∧∀i,i < m.length→Sl 0 e1 w (vs.getD i (.slice none 0 0)) (ints (m.getD i []))
theorem Fr.rws {B:Nat} {e2 e1:TypeId} {w:World} {v:Value} {m:List (List Int)} (h:Fr B e2 e1 w v m):Rws B e2 e1 w v m:=by
 obtain ⟨vs,h1,h2,h3⟩:=h
 exact ⟨vs,h1,h2,fun i hi=>(h3 i hi).more (Nat.zero_le _)⟩
theorem Fr.nil (B:Nat) (e2 e1:TypeId) (w:World):Fr B e2 e1 w (.slice none 0 0) []:=
 ⟨[],rfl,World.ownsRow_nil _ _ _ _,fun i hi=>absurd hi (by simp)⟩
theorem Fr.below {B N:Nat} {e2 e1:TypeId} {w w':World} {v:Value} {m:List (List Int)} (h:Fr B e2 e1 w v m) (hb:Below N w w') (hN:w.heap.size≤N):Fr B e2 e1 w' v m:=by
 obtain ⟨vs,h1,h2,h3⟩:=h
 exact ⟨vs,h1,owns_below h2 hb hN,fun i hi=>(h3 i hi).below hb hN⟩
theorem Fr.alloc {B:Nat} {e2 e1:TypeId} {w:World} {v:Value} {m:List (List Int)} (h:Fr B e2 e1 w v m) (o:Obj):Fr B e2 e1 (w.alloc o) v m:=by
 obtain ⟨vs,h1,h2,h3⟩:=h
 exact ⟨vs,h1,h2.alloc o,fun i hi=>(h3 i hi).alloc o⟩
theorem Fr.kept {B B' n:Nat} {e2 e1:TypeId} {w w':World} {v u:Value} {m:List (List Int)} {us:List Value} (hne:e2≠e1) (h:Fr B e2 e1 w v m) (hu:w.ownsRow B' e2 1 u n us) (hg:w.grownBy w' u.ownBlock)
  (ha:∀g,u.ownBlock=some g→v.ownBlock≠some g):Fr B e2 e1 w' v m:=by
 obtain ⟨vs,h1,h2,h3⟩:=h
 refine ⟨vs,h1,h2.kept hg ?_,fun i hi=>(h3 i hi).grown hg (fun k hk=>⟨Nat.zero_le _,(owns_typed hu hne k hk).2⟩)⟩
 cases hv:v.ownBlock with
 | none=>exact Or.inl rfl
 | some g=>exact Or.inr fun e=>ha g e.symm hv
theorem Fr.push {B:Nat} {e2 e1:TypeId} {w w':World} {v v' u:Value} {m:List (List Int)} {vs:List Value} {zs:List Int} (hne:e2≠e1)
  (h1:vs.length=m.length) (h2:w.ownsRow B e2 1 v m.length vs) (h3:∀i,i < m.length→Sl 0 e1 w (vs.getD i (.slice none 0 0)) (ints (m.getD i []))) (hu:Sl 0 e1 w u (ints zs))
  (ho:w'.ownsRow B e2 1 v' (m.length+1) (vs ++ [u])) (hg:w.grownBy w' v.ownBlock):Fr B e2 e1 w' v' (m ++ [zs]):=by
 have ht:∀k,v.ownBlock=some k→0≤k∧∀cur,w.heap[k]?≠some (.cells cur e1 (0,0)):=fun k hk=>⟨Nat.zero_le _,(owns_typed h2 hne k hk).2⟩
 refine ⟨vs ++ [u],by simp [h1],by simpa using ho,fun i hi=>?_⟩
 by_cases hlt:i < m.length
 ·have e1':(vs ++ [u]).getD i (.slice none 0 0)=vs.getD i (.slice none 0 0):=by
   simp only [List.getD_eq_getElem?_getD]; rw [List.getElem?_append_left (by omega)]
  have e2':(m ++ [zs]).getD i []=m.getD i []:=by
   simp only [List.getD_eq_getElem?_getD]; rw [List.getElem?_append_left (by omega)]
  rw [e1',e2']
  exact (h3 i hlt).grown hg ht
 ·have hi':i=m.length:=by simp at hi; omega
  subst hi'
  have e1':(vs ++ [u]).getD m.length (.slice none 0 0)=u:=by
   rw [←h1]; simp
  have e2':(m ++ [zs]).getD m.length []=zs:=by simp
  rw [e1',e2']
  exact hu.grown hg ht
def Apart (x l:Value):Prop:=∀g,x.ownBlock=some g→l.ownBlock≠some g
def chosenL:Nat→Nat→List (List Int)
 | 0,_=>[[]]
 | k+1,n=>(List.range' k (n-k)).flatMap fun v=>(chosenL k v).map (· ++ [(v:Int)])
def chosenTo (k v:Nat):List (List Int):=(List.range' k (v-k)).flatMap fun v=>(chosenL k v).map (· ++ [(v:Int)])
theorem chosenTo_succ {k v:Nat} (h:k≤v):chosenTo k (v+1)=chosenTo k v ++ (chosenL k v).map (· ++ [(v:Int)]):=by
 unfold chosenTo
 rw [show v+1-k=(v-k)+1 by omega,List.range'_concat,List.flatMap_append]
 simp [show k+(v-k)=v by omega]
theorem chosen_len:∀k n,n≤64→(chosenL k n).length≤64 ^ k:=by
 intro k
 induction k with
 | zero=>intro n _; simp [chosenL]
 | succ k ih=>
  intro n hn
  have h1:∀t,k+t≤64→((List.range' k t).flatMap fun v=>(chosenL k v).map (· ++ [(v:Int)])).length≤t*64 ^ k:=by
   intro t
   induction t with
   | zero=>intro _; simp
   | succ t it=>
    intro ht
    rw [List.range'_concat,List.flatMap_append,List.length_append]
    have:=it (by omega)
    have h2:=ih (k+t) (by omega)
    simp only [List.flatMap_cons,List.flatMap_nil,List.append_nil,List.length_map,Nat.one_mul]
    rw [Nat.add_mul]; omega
  have h2:=h1 (n-k)
  simp only [chosenL]
  by_cases hk:k≤n
  ·have:=h2 (by omega)
   rw [Nat.pow_succ]
   have h3:(n-k)*64 ^ k≤64*64 ^ k:=Nat.mul_le_mul_right _ (by omega)
   rw [Nat.mul_comm (64 ^ k)]; omega
  ·have:n-k=0:=by omega
   rw [this]; simp
theorem chosen_row:∀k n l,l∈chosenL k n→l.length=k:=by
 intro k
 induction k with
 | zero=>intro n l h; simp [chosenL] at h; subst h; rfl
 | succ k ih=>
  intro n l h
  simp only [chosenL,List.mem_flatMap,List.mem_map] at h
  obtain ⟨v,_,l',h1,rfl⟩:=h
  simp [ih v l' h1]
theorem chosen_base (w:World):Fr w.heap.size 22 3 ((w.alloc (.cells #[] 3)).alloc (.cells #[.slice (some ⟨w.heap.size,0,none⟩) 0 0] 22)) (.slice (some ⟨w.heap.size+1,0,none⟩) 1 1) [[]]:=by
 refine ⟨[.slice (some ⟨w.heap.size,0,none⟩) 0 0],rfl,?_,fun i hi=>?_⟩
 ·have h:=World.ownsRow_lit (base:=w.heap.size) (e:=22) (size:=1) (w.alloc (.cells #[] 3)) #[.slice (some ⟨w.heap.size,0,none⟩) 0 0] 1 (by simp) (by simp [maxLen]) (by simp)
  simpa using h
 ·have:i=0:=by simp at hi; omega
  subst this
  exact ⟨some ⟨w.heap.size,0,none⟩,0,rfl,by simp [ints],by simp [maxLen],fun i hi=>absurd hi (by simp [ints]),fun h=>by cases h⟩
def ChosenSaid (k:Nat):Prop:=∀(n:Nat) (w:World),n≤64→
 Calls Tryz.prog 60 #[.int .i64 n,.int .i64 k] w fun e w'=>∃x,e=.returned x∧Fr w.heap.size 22 3 w' x (chosenL k n)∧Below w.heap.size w w'
set_option maxRecDepth 100000 in
set_option maxHeartbeats 400000 in
theorem chosen_zero:ChosenSaid 0:=by
 intro n w hn
 go_enter Tryz.func60,Tryz.ntmps60
 go_wp2
 go_ret
 exact ⟨_,rfl,chosen_base w,((Below.refl _ _).alloc (Nat.le_refl _) _).alloc (by simp) _⟩
theorem toSnoc {v i:Nat} {m:List (List Int)} {l:List (List Int)} (hm:m=l) (hi:i < l.length) (A:List (List Int)) :
  A ++ (m.map (· ++ [(v:Int)])).take (i+1)=(A ++ (m.map (· ++ [(v:Int)])).take i) ++ [l.getD i [] ++ [(v:Int)]]:=by
 subst hm
 rw [List.take_succ_eq_append_getElem (by simpa using hi),List.append_assoc]
 simp [hi]
set_option maxRecDepth 100000 in
set_option maxHeartbeats 1600000 in
theorem chosen_step (k:Nat) (hk5:k≤4) (ih:ChosenSaid k) (n:Nat) (w:World) (hn:n≤64) :
  Calls Tryz.prog 60 #[.int .i64 n,.int .i64 ((k:Int)+1)] w fun e w'=>∃x,e=.returned x∧Fr w.heap.size 22 3 w' x (chosenL (k+1) n)∧Below w.heap.size w w':=by
 obtain ⟨i0,hi,hz0,hz1,hz2⟩:=info_parts Tryz.info22
 obtain ⟨i3,hi3,hz30,hz31,hz32⟩:=info_parts Tryz.info3
 have HCL:Hid ((chosenL (k+1) n).length≤64 ^ 5):=Nat.le_trans (chosen_len (k+1) n hn) (Nat.pow_le_pow_right (by omega) (by omega))
 have t0:((k:Int)+1 == 0)=false:=by simp; omega
 have HIH:Hid (ChosenSaid k):=ih
 clear ih
 go_enter Tryz.func60,Tryz.ntmps60
 go_wp2
 go_loopw [5,6] (fun x i wr=>∃v:Nat,k≤v∧v≤max n k∧i=.int .i64 v∧Fr w.heap.size 22 3 wr x (chosenTo k v)∧Below w.heap.size w wr) (fun _ i _=>n-(intOf i).toNat)
 case atStart=>
  refine ⟨k,Nat.le_refl _,by omega,by go_num,?_,Below.refl _ _⟩
  have:chosenTo k k=[]:=by simp [chosenTo]
  rw [this]; exact Fr.nil _ _ _ _
 case round=>
  obtain ⟨v,hv1,hv2,rfl,hrw,hbel⟩:=hrel
  obtain ⟨wa,rfl⟩:∃wa,wa=wr:=⟨wr,rfl⟩
  have HR:Hid (Fr w.heap.size 22 3 wa u5 (chosenTo k v)):=hrw
  have HB:Hid (Below w.heap.size w wa):=hbel
  have hsz:w.heap.size≤wa.heap.size:=hbel.size
  clear hrw hbel
  by_cases hlt:v < n
  ·have hv64:v≤64:=by omega
   go_wp2_with fail
   refine (HIH.out v wa hv64).mono ?_
   rintro e w1 ⟨lv,rfl,hf,hb1⟩
   have hlc:(chosenL k v).length≤64 ^ 4:=Nat.le_trans (chosen_len k v hv64) (Nat.pow_le_pow_right (by omega) (by omega))
   have hto:(chosenTo k v).length≤64 ^ 5:=by
    have h1:=chosen_len (k+1) v hv64
    exact Nat.le_trans h1 (Nat.pow_le_pow_right (by omega) (by omega))
   have HF:Hid (Fr wa.heap.size 22 3 w1 lv (chosenL k v)):=hf
   have HR1:Hid (Fr w.heap.size 22 3 w1 u5 (chosenTo k v)):=HR.out.below hb1 (Nat.le_refl _)
   have HB1:Hid (Below w.heap.size w w1):=HB.out.trans (hb1.mono hsz)
   have HAP:Hid (Apart u5 lv):=by
    intro g hg hl
    obtain ⟨_,_,q1,_⟩:=HR.out
    obtain ⟨_,_,q2,_⟩:=hf
    have:=(q1.lt g hg).2
    have:=(q2.lt g hl).1
    omega
   clear hf hb1 HR HB
   generalize hcl:chosenL k v=cl at *
   have HCLV:Hid (chosenL k v=cl):=hcl
   clear hcl
   obtain ⟨lo,lc,hlv,hlc1,hlc2⟩:=mat_open (HF.out.rws.mat (Nat.le_refl _))
   subst hlv
   go_wp2
   go_loopw [5,8] (fun x i wq=>∃j:Nat,j≤cl.length∧i=.int .i64 j∧Fr w.heap.size 22 3 wq x (chosenTo k v ++ (cl.map (· ++ [(v:Int)])).take j)∧Below w.heap.size w wq∧Fr wa.heap.size 22 3 wq (.slice lo cl.length lc) cl∧
     Apart x (.slice lo cl.length lc)) (fun _ i _=>cl.length-(intOf i).toNat)
   case atStart=>exact ⟨0,Nat.zero_le _,rfl,by simpa using HR1.out,HB1.out,HF.out,HAP.out⟩
   case round=>
    obtain ⟨j,hj,rfl,hx,hb,hl,hap⟩:=hrel
    have HX:Hid (Fr w.heap.size 22 3 wr u5 (chosenTo k v ++ (cl.map (· ++ [(v:Int)])).take j)):=hx
    have HBq:Hid (Below w.heap.size w wr):=hb
    have HL:Hid (Fr wa.heap.size 22 3 wr (.slice lo cl.length lc) cl):=hl
    have HA:Hid (Apart u5 (.slice lo cl.length lc)):=hap
    have hszq:w.heap.size≤wr.heap.size:=hb.size
    clear hx hb hl hap HR1 HB1 HF HAP
    by_cases hjl:j < cl.length
    ·obtain ⟨b,o,cp,r1,hs,hc1,hcc,hr1⟩:=mat_cell (HL.out.rws.mat (Nat.le_refl _)) hjl
     simp only [Value.slice.injEq] at hs
     obtain ⟨rfl,_,rfl⟩:=hs
     have HR1:Hid (Sl wa.heap.size 3 wr r1 (ints (cl.getD j []))):=hr1
     have hrl:(cl.getD j []).length=k:=by
      have:cl.getD j []∈cl:=by simp [hjl]
      rw [←HCLV.out] at this
      rw [←HCLV.out]; exact chosen_row k v _ this
     have HRL:Hid ((cl.getD j []).length=k):=hrl
     have hrl2:(cl.getD j []).length≤1000000:=by omega
     clear hr1 hrl
     generalize hrj:cl.getD j []=rj at *
     have HRJ:Hid (cl.getD j []=rj):=hrj
     clear hrj
     go_wp2_with fail
     refine (copy_any wa.heap.size _ r1 wr HR1.out hrl2).mono ?_
     rintro e w2 ⟨cv,rfl,hcv,hb2⟩
     have HCV:Hid (w2.ownsRow wr.heap.size 3 1 cv rj.length (ints rj)):=hcv
     have HB2:Hid (Below wr.heap.size wr w2):=hb2
     have hsz2:wr.heap.size≤w2.heap.size:=hb2.size
     clear hcv hb2 hcc
     go_wp2_with (first | (at_builtin; refine wpList_append_own _ rfl _ _ 22 rfl wr.heap.size 3 i3 (.int .i64 0) 1 8 Tryz.underlying22 hi3 hz30 hz31 hz32 rfl (by decide) _ _ _ rfl (HCV.out.alloc _) ⟨w2.heap.size,0,none⟩ 1 1 [.int .i64 v] rfl rfl (one_new _ _ _) (one_int _) ?c3 ?c4 ?c5 ?_))
     case c3=>unfold maxLen; omega
     case c4=>omega
     case c5=>simp; omega
     intro v' w3 ho hg _
     have R:=owns_push (z:=(v:Int)) (N:=rj.length+1) hsz2 (l:=rj) HCV.out HB2.out ho hg rfl
     have R1:Hid (Sl 0 3 w3 v' (ints (rj ++ [(v:Int)]))):=Sl.own R.1
     have R2:Hid (Below wr.heap.size wr w3):=R.2
     have hsz3:wr.heap.size≤w3.heap.size:=R.2.size
     obtain ⟨xo,xc,hxv⟩:=owns_form R.1
     subst hxv
     clear R ho hg HCV HB2
     have HX3:Hid (Fr w.heap.size 22 3 w3 u5 (chosenTo k v ++ (cl.map (· ++ [(v:Int)])).take j)):=HX.out.below R2.out (Nat.le_refl _)
     have HL3:Hid (Fr wa.heap.size 22 3 w3 (.slice (some ⟨b,o,none⟩) cl.length lc) cl):=HL.out.below R2.out (Nat.le_refl _)
     have HB3:Hid (Below w.heap.size w w3):=HBq.out.trans (R2.out.mono hszq)
     clear HX HL HBq
     obtain ⟨vs,g1,g2,g3⟩:=HX3.out
     have hlen:(chosenTo k v ++ (cl.map (· ++ [(v:Int)])).take j).length=(chosenTo k v).length+j:=by
      rw [List.length_append,List.length_take,List.length_map]; omega
     have HLN:Hid ((chosenTo k v ++ (cl.map (· ++ [(v:Int)])).take j).length=(chosenTo k v).length+j):=hlen
     rw [hlen] at g1 g2 g3
     have G1:Hid (vs.length=(chosenTo k v).length+j):=g1
     have G2:Hid (w3.ownsRow w.heap.size 22 1 u5 ((chosenTo k v).length+j) vs):=g2
     have G3:Hid (∀i,i < (chosenTo k v).length+j→Sl 0 3 w3 (vs.getD i (.slice none 0 0)) (ints ((chosenTo k v ++ (cl.map (· ++ [(v:Int)])).take j).getD i []))):=g3
     clear g1 g2 g3 hlen
     go_wp2_with (first | (at_builtin; refine wpList_append_own_at _ rfl _ _ 25 rfl w.heap.size 22 i0 (.slice none 0 0) 1 24 Tryz.underlying25 hi hz0 hz1 hz2 rfl (by decide) _ _ _ rfl (G2.out.alloc _) ⟨w3.heap.size,0,none⟩ 1 1 [.slice xo (rj.length+1) xc] rfl rfl (one_new _ _ _) (one_slice _ _ _) ?d3 ?d4 ?d5 ?_))
     case d3=>unfold maxLen; omega
     case d4=>omega
     case d5=>simp; omega
     intro v2 w4 ho hg _ hat
     have S1:Hid (Fr w.heap.size 22 3 w4 v2 (chosenTo k v ++ (cl.map (· ++ [(v:Int)])).take (j+1))):=by
      have hp:=Fr.push (e2:=22) (e1:=3) (m:=chosenTo k v ++ (cl.map (· ++ [(v:Int)])).take j) (u:=.slice xo (rj.length+1) xc) (zs:=rj ++ [(v:Int)]) (by decide) (by rw [HLN.out]; exact G1.out) (by rw [HLN.out]; exact G2.out.alloc _)
       (fun i hi=>(G3.out i (by rw [HLN.out] at hi; exact hi)).alloc _) (R1.out.alloc _) (by rw [HLN.out]; exact ho) hg
      rw [←HRJ.out,←toSnoc rfl hjl] at hp
      exact hp
     have S2:Hid (Below w.heap.size w w4):=(HB3.out.alloc (by omega) _).grown hg (by simp; omega) (fun x hx=>(G2.out.lt x hx).1)
     have S3:Hid (Fr wa.heap.size 22 3 w4 (.slice (some ⟨b,o,none⟩) cl.length lc) cl):=(HL3.out.alloc _).kept (by decide) (G2.out.alloc _) hg HA.out
     have S4:Hid (Apart v2 (.slice (some ⟨b,o,none⟩) cl.length lc)):=by
      intro g hg2 hl2
      rcases hat with h | h
      ·rw [h] at hg2; exact HA.out g hg2 hl2
      ·rw [h] at hg2
       simp only [Option.some.injEq] at hg2
       obtain ⟨_,_,q2,_⟩:=HL3.out
       have:=(q2.lt g hl2).2
       omega
     clear ho hg hat
     go_wp2
     go_roundw
     case rel=>exact ⟨j+1,by omega,by go_num,S1.out,S2.out,S3.out,S4.out⟩
     case measure=>simp [intOf]; omega
    ·go_wp2
     go_roundw
     case rel=>
      refine ⟨v+1,by omega,by omega,by go_num,?_,HBq.out⟩
      have h:=HX.out
      rw [List.take_of_length_le (by simp; omega),←HCLV.out,←chosenTo_succ hv1] at h
      exact h
     case measure=>simp [intOf]; omega
  ·go_wp2
   go_ret
   refine ⟨_,rfl,?_,HB.out⟩
   have h:=HR.out
   have e:chosenL (k+1) n=chosenTo k v:=by
    unfold chosenTo; simp only [chosenL]
    by_cases hkn:k≤n
    ·rw [show n=v by omega]
    ·rw [show n-k=0 by omega,show v-k=0 by omega]
   rw [e]; exact h
theorem chosen_succ (k:Nat) (hk5:k≤4) (ih:ChosenSaid k):ChosenSaid (k+1):=by
 intro n w hn
 rw [Int.natCast_succ]
 exact chosen_step k hk5 ih n w hn
theorem chosen_any (k:Nat) (hk:k≤5):ChosenSaid k:=by
 induction k with
 | zero=>exact chosen_zero
 | succ k ih=>exact chosen_succ k (by omega) (ih (by omega))
end Go.Proofs.YtkfdpcgmpbopnaaGreatDoor
