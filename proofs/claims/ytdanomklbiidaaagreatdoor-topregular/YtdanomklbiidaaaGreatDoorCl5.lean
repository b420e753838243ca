import Derived.Test.YtdanomklbiidaaaGreatDoorCl4
import Derived.Test.YtdanomklbiidaaaGreatDoorWr10
import Derived.Test.YtdanomklbiidaaaGreatDoorMgAX
namespace Go.Proofs.YtdanomklbiidaaaGreatDoor
open Go.RowKit Go.Shelf Lin
attribute [local go_sem] Oper.semAt_some
def lifL (P:List (List Int)) (h:List Int):List (List Int):=(List.range P.length).map fun i=>[(P.getD i []).getD 0 0,(P.getD i []).getD 1 0,h.getD i 0]
def rgC (P Lf:List (List Int)) (c:List Int):List (List Int):=if swB P Lf c=true then [swL P Lf c] else []
def rgL (P Lf pre:List (List Int)):List (List Int):=pre.flatMap (rgC P Lf)
theorem rgL_snoc (P Lf pre:List (List Int)) (c:List Int):rgL P Lf (pre ++ [c])=rgL P Lf pre ++ rgC P Lf c:=by simp [rgL]
theorem rgL_len (P Lf:List (List Int)):∀pre,(rgL P Lf pre).length≤pre.length
 | []=>by simp [rgL]
 | c :: pre=>by
  have h:=rgL_len P Lf pre
  have:(rgC P Lf c).length≤1:=by unfold rgC; split <;> simp
  simp only [rgL,List.flatMap_cons,List.length_append,List.length_cons] at *
  omega
theorem mat_keepO {O:Nat} {c:Array Value} {w W:World} {v:Value} {m:List (List Int)} (h:Mat 0 22 3 w v m) (hO:w.heap[O]?=some (.cells c 23 (0,0))) (hk:∀b,b < w.heap.size→b≠O→W.heap[b]?=w.heap[b]?):Mat 0 22 3 W v m:=by
 obtain ⟨vs,h1,h2,h3⟩:=h
 refine ⟨vs,h1,h2.move fun b hl ht=>⟨hk b hl ?_,ht⟩,fun i hi=>(h3 i hi).move fun b hl ht=>⟨hk b hl ?_,ht⟩⟩
 ·rintro rfl
  rcases ht with ht | ⟨c,ht⟩
  ·omega
  ·rw [hO] at ht; simp at ht
 ·rintro rfl
  rcases ht with ht | ⟨c,ht⟩
  ·omega
  ·rw [hO] at ht; simp at ht
theorem twoB (w:World) (o1 o2:Obj) :
  ∃W,W=(w.alloc o1).alloc o2∧W.heap[w.heap.size]?=some o1∧W.heap[w.heap.size+1]?=some o2∧W.heap.size=w.heap.size+2∧Below w.heap.size w W:=by
 refine ⟨_,rfl,?_,?_,?_,?_⟩
 ·exact ((alloc_keep _ _).block _ (by rw [size_alloc]; omega)).trans (alloc_new _ _)
 ·rw [←size_alloc w o1]; exact alloc_new _ _
 ·rw [size_alloc,size_alloc]
 ·exact ((Below.refl _ _).alloc (Nat.le_refl _) _).alloc ((Below.refl _ _).alloc (Nat.le_refl _) _).size _
theorem sl_threeC {w:World} {g:Nat} {t:TypeId} {x y z:Value} (h:w.heap[g]?=some (.cells #[x,y,z] t (0,0))):Sl 0 t w (.slice (some ⟨g,0,none⟩) 3 3) [x,y,z]:=by
 refine ⟨some ⟨g,0,none⟩,3,rfl,by simp,by simp [maxLen],fun i hi=>⟨g,0,rfl,?_,Or.inr ⟨_,h⟩⟩,fun h=>by cases h⟩
 have:i=0∨i=1∨i=2:=by simp at hi; omega
 rcases this with rfl | rfl | rfl <;> simp [World.cell?,h]
theorem sl_oneC {w:World} {g:Nat} {t:TypeId} {x:Value} (h:w.heap[g]?=some (.cells #[x] t (0,0))):Sl 0 t w (.slice (some ⟨g,0,none⟩) 1 1) [x]:=by
 refine ⟨some ⟨g,0,none⟩,1,rfl,by simp,by simp [maxLen],fun i hi=>⟨g,0,rfl,?_,Or.inr ⟨_,h⟩⟩,fun h=>by cases h⟩
 have:i=0:=by simp at hi; omega
 subst this; simp [World.cell?,h]
structure RgI (O:Nat) (w WN:World) (N:Nat) (P Lf:List (List Int)) (S:Nat→Prop) (pre:List (List Int)) (W:World):Prop where
 sn:∀b,S b→N≤b
 kp:Kpt (fun b=>b < N∧b≠O) WN W
 os:W.os=w.os
 tape:W.tape=w.tape
 output:W.output=w.output
 rv:∃v vs,W.heap[O]?=some (.cells #[v] 23 (0,0))∧FrO S (N+4) W v (rgL P Lf pre) vs
theorem RgI.stab {O N:Nat} {w WN W W':World} {P Lf:List (List Int)} {pre:List (List Int)} {S S':Nat→Prop} (h:RgI O w WN N P Lf S pre W) (hO:O < N) (hN:N≤WN.heap.size) (hc:Chg S W W') (hs:∀b,S' b→S b∨W.heap.size≤b):RgI O w WN N P Lf S' pre W':=by
 have h0:=h.kp.size
 obtain ⟨v,vs,h1,h2⟩:=h.rv
 refine ⟨fun b hb=>?_,h.kp.trans (Kpt.of_chg hc fun i _ hi hsi=>?_),hc.os.trans h.os,hc.tape.trans h.tape,hc.output.trans h.output,v,vs,(hc.block _ (by omega) (fun hx=>by have:=h.sn _ hx; omega)).trans h1,h2.keep (fun b hb hn=>hc.block b hb hn) hs⟩
 ·rcases hs b hb with h1 | h1
  ·exact h.sn b h1
  ·omega
 ·have:=h.sn i hsi
  omega
set_option maxRecDepth 100000 in
set_option maxHeartbeats 8000000 in
theorem regular_any (P:List (List Int)) (hs:List Int) (v u:Value) (ck:Int) (w:World) (hv:Mat w.heap.size 22 3 w v P) (hu:Sl w.heap.size 3 w u (ints hs)) (hbp:Box 2 30 P) (hn10:P.length≤10) (hln:hs.length=P.length) (hbh:∀z∈hs,z.natAbs≤20)
  (hck:∀X,Below w.heap.size w X→Calls Tryz.prog 8 #[v] X fun e w'=>e=.returned (.int .i64 ck)∧Below X.heap.size X w') :
  Calls Tryz.prog 7 #[v,u] w fun e w'=>(ck≠0∧e=.returned (.tuple #[.slice none 0 0,.int .i64 ck])∨ck=0∧∃y m',e=.returned (.tuple #[y,.int .i64 0])∧Fr w.heap.size 22 3 w' y m'∧Inor m' (rgL P (lifL P hs) (ext P.length 3 0)))∧Below w.heap.size w w':=by
 obtain ⟨i0,hi0,hz0,hz1,hz2⟩:=info_parts Tryz.info22
 obtain ⟨po,pc,rfl,hlc,hcm⟩:=mat_open hv
 obtain ⟨uo,uc,hue,_,huc⟩:=sl_open hu
 rw [hln] at hue
 subst hue
 have HV:Hid (Mat w.heap.size 22 3 w (.slice po P.length pc) P):=hv
 have HU:Hid (Sl w.heap.size 3 w (.slice uo P.length uc) (ints hs)):=hu
 have HBP:Hid (Box 2 30 P):=hbp
 have HBH:Hid (∀z∈hs,z.natAbs≤20):=hbh
 have HCK:Hid (∀X,Below w.heap.size w X→Calls Tryz.prog 8 #[.slice po P.length pc] X fun e w'=>e=.returned (.int .i64 ck)∧Below X.heap.size X w'):=hck
 have HAB:Hid (∀X,Below w.heap.size w X→Calls Tryz.prog 14 #[.slice uo P.length uc,.int .i64 100] X fun e w'=>e=.returned (.bool false)∧Below X.heap.size X w'):=fun X hX=>by
  have e:hs.any (farB · 100)=false:=by
   rw [List.any_eq_false]
   intro z hz
   have:=hbh z hz
   simp only [farB,Bool.not_eq_true]
   first | omega | (simp; omega)
  have h:=anyBeyond_any w.heap.size hs (.slice uo P.length uc) 100 X (HU.out.below hX (Nat.le_refl _)) (by omega) (by omega)
  rw [e] at h
  exact h
 have HB0:Hid (Below w.heap.size w (w.alloc (.cells #[.slice po P.length pc] 23))):=(Below.refl _ _).alloc (Nat.le_refl _) _
 have HA:Hid ((w.alloc (.cells #[.slice po P.length pc] 23)).heap[w.heap.size]?=some (.cells #[.slice po P.length pc] 23 (0,0))):=alloc_new w _
 have c0:(w.alloc (.cells #[.slice po P.length pc] 23)).cell? ⟨w.heap.size,0,none⟩=some (.slice po P.length pc):=cell_of HA.out
 have HLN:Hid (hs.length=P.length):=hln
 clear hv hu hbp hbh hck hln
 refine callsIn_wide (n:=0).1 ?_
 refine callsIn_of_wp_marks Tryz.func7 rfl trivial ?_ rfl
 simp only [Tryz.ntmps7,List.size_toArray,List.length_cons,List.length_nil,Nat.reduceAdd,Nat.reduceSub,Array.replicate_succ,Array.replicate_zero,List.push_toArray,List.append_toArray,List.nil_append,List.cons_append]
 gi_wp2_with (refine ⟨trivial,rfl,?_⟩; gi_at_call 8; refine (callsIn_wide.2 (HCK.out _ HB0.out)).mono ?_; rintro e w1 ⟨rfl,hb1⟩; have c1:=(hb1.cell (lt_of_cell c0)).trans c0; have HB1:Hid (Below w.heap.size w w1):=HB0.out.trans (hb1.mono HB0.out.size); have HA1:Hid (w1.heap[w.heap.size]?=some (.cells #[.slice po P.length pc] 23 (0,0))):=(hb1.block _ (by rw [size_alloc]; omega)).trans HA.out; have h1l:=HB1.out.size; clear hb1)
 ·have hq:ck≠0:=by
   have h:(ck != 0)=true:=by assumption
   simpa using h
  refine leaves_mks [] w1 (by simp) (fun r hr=>by simp at hr) (fun w' hc=>⟨.tuple #[.slice none 0 0,.int .i64 ck],?_,?_⟩)
  ·simp [results,Tryz.results7,go_sem]
  ·refine ⟨.inl ⟨hq,rfl⟩,hc.os.trans HB1.out.os,hc.tape.trans HB1.out.tape,hc.output.trans HB1.out.output,by have:=hc.size; omega,fun b hb=>(hc.block b (by omega) (by simp)).trans (HB1.out.block b hb)⟩
 ·have hq:ck=0:=by
   have h:(ck != 0)=false:=by assumption
   simpa using h
  have HQ:Hid (ck=0):=hq
  subst hq
  gi_wp2_with (refine ⟨trivial,rfl,?_⟩; gi_at_call 14; refine (callsIn_wide.2 (HAB.out _ HB1.out)).mono ?_; rintro e w2 ⟨rfl,hb2⟩; have c2:=(hb2.cell (lt_of_cell c1)).trans c1; have HB2:Hid (Below w.heap.size w w2):=HB1.out.trans (hb2.mono HB1.out.size); have HA2:Hid (w2.heap[w.heap.size]?=some (.cells #[.slice po P.length pc] 23 (0,0))):=(hb2.block _ (lt_of_block HA1.out)).trans HA1.out; have h2l:=hb2.size; have c6r:((w2.alloc (.cells #[.slice none 0 0] 23)).alloc (.cells #[.slice none 0 0] 23)).cell? ⟨w.heap.size,0,none⟩=some (.slice po P.length pc):=(Below.cell (B:=w2.heap.size) (((Below.refl _ _).alloc (Nat.le_refl _) _).alloc ((Below.refl _ _).alloc (Nat.le_refl _) _).size _) (lt_of_cell c2)).trans c2; clear hb2)
  obtain ⟨W6,hW6⟩:∃W6,W6=(w2.alloc (.cells #[.slice none 0 0] 23)).alloc (.cells #[.slice none 0 0] 23):=⟨_,rfl⟩
  rw [←hW6] at c6r ⊢
  have b6:Below w2.heap.size w2 W6:=by rw [hW6]; exact ((Below.refl _ _).alloc (Nat.le_refl _) _).alloc ((Below.refl _ _).alloc (Nat.le_refl _) _).size _
  have s6:W6.heap.size=w2.heap.size+2:=by rw [hW6,size_alloc,size_alloc]
  have l6:W6.heap[w2.heap.size]?=some (.cells #[.slice none 0 0] 23 (0,0)):=by
   rw [hW6]; exact ((alloc_keep _ _).block _ (by rw [size_alloc]; omega)).trans (alloc_new _ _)
  have o6:W6.heap[w2.heap.size+1]?=some (.cells #[.slice none 0 0] 23 (0,0)):=by
   rw [hW6,←size_alloc w2 (.cells #[.slice none 0 0] 23)]; exact alloc_new _ _
  clear hW6
  have HLS:Hid (∀k,k < P.length→(lifL P hs).take (k+1)=(lifL P hs).take k ++ [[(P.getD k []).getD 0 0,(P.getD k []).getD 1 0,hs.getD k 0]]):=fun k hk=>by
   have hl:(lifL P hs).length=P.length:=by simp [lifL]
   rw [List.take_succ_eq_append_getElem (by omega)]
   simp [lifL]
  have HLL:Hid (∀k,k≤P.length→((lifL P hs).take k).length=k):=fun k hk=>by show _=_; simp [lifL]; omega
  have HLT:Hid ((lifL P hs).take P.length=lifL P hs):=List.take_of_length_le (by simp [lifL])
  have HLG:Hid (hs.length=P.length):=HLN.out
  have HF0:Hid (FrO (fun _=>False) (w2.heap.size+2) W6 (.slice none 0 0) ((lifL P hs).take 0) []):=⟨rfl,World.ownsRow_nil _ _ _ _,fun g hg=>by simp [Value.ownBlock] at hg,fun i hi=>absurd hi (by simp),fun i hi=>absurd hi (by simp)⟩
  have h2w:w.heap.size < w2.heap.size:=by have:=lt_of_block HA2.out; omega
  gi_loopw [9,10,28] (fun _ _ i wr=>∃k:Nat,k≤P.length∧i=.int .i64 k∧∃lv vs,wr.heap[w2.heap.size]?=some (.cells #[lv] 23 (0,0))∧wr.heap[w2.heap.size+1]?=some (.cells #[.slice none 0 0] 23 (0,0))∧FrO (fun _=>False) (w2.heap.size+2) wr lv ((lifL P hs).take k) vs∧Below w2.heap.size w2 wr) (fun _ _ i _=>P.length-(intOf i).toNat)
  case atStart=>exact ⟨0,Nat.zero_le _,rfl,_,_,l6,o6,HF0.out,b6⟩
  case round=>
   obtain ⟨k,hk,rfl,lv,vs,hL,hO,hF,hB⟩:=hrel
   by_cases hlt:k < P.length
   ·have hBw:Below w.heap.size w wr:=HB2.out.trans (hB.mono HB2.out.size)
    obtain ⟨pb,pf,pcc,r1,hpe,hpc1,hpcell,hr1⟩:=mat_cell (HV.out.below HB2.out (Nat.le_refl _)) hlt
    simp only [Value.slice.injEq,true_and] at hpe
    obtain ⟨rfl,rfl⟩:=hpe
    have hx2:(P.getD k []).length=2:=(HBP.out (P.getD k []) (by simp [hlt])).1
    have HSN:=HLS.out k hlt
    generalize P.getD k []=x at *
    obtain ⟨rb,rf,rc,hre,hrc,hrc0⟩:=sl_cell hr1 (k:=0) (by omega)
    obtain ⟨rb',rf',rc',hre',_,hrc1⟩:=sl_cell hr1 (k:=1) (by omega)
    rw [hre] at hre'
    simp only [Value.slice.injEq,Option.some.injEq,Addr.mk.injEq,true_and,and_true] at hre'
    obtain ⟨⟨rfl,rfl⟩,rfl⟩:=hre'
    subst hre
    obtain ⟨ub,uf,ucc,hue,huc1,hucc⟩:=sl_cell (HU.out.below HB2.out (Nat.le_refl _)) (k:=k) (by have:=HLG.out; omega)
    rw [HLG.out] at hue huc1
    simp only [Value.slice.injEq,true_and] at hue
    obtain ⟨rfl,rfl⟩:=hue
    rw [hx2] at hrc
    rw [Nat.add_zero] at hrc0
    obtain ⟨x0,hx0⟩:∃z,z=x.getD 0 0:=⟨_,rfl⟩
    obtain ⟨x1,hx1⟩:∃z,z=x.getD 1 0:=⟨_,rfl⟩
    obtain ⟨x2,hx2'⟩:∃z,z=hs.getD k 0:=⟨_,rfl⟩
    rw [←hx0,←hx1,←hx2'] at HSN
    rw [←hx0] at hrc0
    rw [←hx1] at hrc1
    rw [←hx2'] at hucc
    have HS3:Hid (∀X,Below w2.heap.size w2 X→X.cell? ⟨rb,rf,none⟩=some (.int .i64 x0)∧X.cell? ⟨rb,rf+1,none⟩=some (.int .i64 x1)∧X.cell? ⟨ub,uf+k,none⟩=some (.int .i64 x2)):=fun X hX=>
     ⟨(hX.cell (lt_of_cell hrc0)).trans hrc0,(hX.cell (lt_of_cell hrc1)).trans hrc1,(hX.cell (lt_of_cell hucc)).trans hucc⟩
    have HLK:Hid (((lifL P hs).take k).length=k):=HLL.out k (by omega)
    have hpcr:wr.cell? ⟨pb,pf+k,none⟩=some (.slice (some ⟨rb,rf,none⟩) 2 rc):=by rw [←hx2]; exact (hB.cell (lt_of_cell hpcell)).trans hpcell
    obtain ⟨s0,s1,s2⟩:=HS3.out wr hB
    have HPT:Hid (∀X,Below w2.heap.size w2 X→X.cell? ⟨pb,pf+k,none⟩=some (.slice (some ⟨rb,rf,none⟩) 2 rc)):=fun X hX=>by rw [←hx2]; exact (hX.cell (lt_of_cell hpcell)).trans hpcell
    have HSNH:Hid _:=HSN
    obtain ⟨Lk,hLk⟩:∃L,L=(lifL P hs).take k:=⟨_,rfl⟩
    rw [←hLk] at HSNH HLK hF
    obtain ⟨lvo,lvc,hlv⟩:=owns_form hF.own
    subst hlv
    obtain ⟨A1,hA1⟩:∃A,A=(wr.alloc (.cells #[.int .i64 x0,.int .i64 x1,.int .i64 x2] 3)).drew:=⟨_,rfl⟩
    obtain ⟨A2,hA2⟩:∃A,A=A1.alloc (.cells #[.slice (some ⟨wr.heap.size,0,none⟩) 3 3] 22):=⟨_,rfl⟩
    have HE1:Hid (A1=(wr.alloc (.cells #[.int .i64 x0,.int .i64 x1,.int .i64 x2] 3)).drew):=hA1
    have HE2:Hid (A2=A1.alloc (.cells #[.slice (some ⟨wr.heap.size,0,none⟩) 3 3] 22)):=hA2
    have ba1:Below wr.heap.size wr A1:=by rw [hA1]; exact ((Below.refl _ _).alloc (Nat.le_refl _) _).drew
    have sa1:A1.heap.size=wr.heap.size+1:=by rw [hA1]; show (wr.alloc _).heap.size=_; rw [size_alloc]
    have na1:A1.heap[wr.heap.size]?=some (.cells #[.int .i64 x0,.int .i64 x1,.int .i64 x2] 3 (0,0)):=by rw [hA1]; exact alloc_new wr _
    have ba2:Below A1.heap.size A1 A2:=by rw [hA2]; exact (Below.refl _ _).alloc (Nat.le_refl _) _
    have na2:A2.heap[A1.heap.size]?=some (.cells #[.slice (some ⟨wr.heap.size,0,none⟩) 3 3] 22 (0,0)):=by rw [hA2]; exact alloc_new A1 _
    have sa2:A2.heap.size=wr.heap.size+2:=by rw [hA2,size_alloc,sa1]
    have na1':A2.heap[wr.heap.size]?=some (.cells #[.int .i64 x0,.int .i64 x1,.int .i64 x2] 3 (0,0)):=(ba2.block _ (by omega)).trans na1
    rw [sa1] at na2
    have bw2:Below wr.heap.size wr A2:=ba1.trans (ba2.mono (by omega))
    have hlr:w2.heap.size+2≤wr.heap.size:=by have:=lt_of_block hO; omega
    have B1:Below w2.heap.size w2 A1:=hB.trans (ba1.mono (by omega))
    have B2:Below w2.heap.size w2 A2:=hB.trans (bw2.mono (by omega))
    have HB1a:Hid (Below w2.heap.size w2 A1):=B1
    have HB2a:Hid (Below w2.heap.size w2 A2):=B2
    have HSL1:Hid (Sl 0 22 A2 (.slice (some ⟨wr.heap.size+1,0,none⟩) 1 1) [.slice (some ⟨wr.heap.size,0,none⟩) 3 3]):=sl_oneC na2
    have HSZ2:Hid (w2.heap.size+2≤A2.heap.size):=by show _≤_; omega
    have hF7:FrO (fun _=>False) (w2.heap.size+2) A2 (.slice lvo Lk.length lvc) Lk vs:=hF.keep (fun b hb _=>bw2.block b hb) (fun b hb=>hb.elim)
    have HOWN:Hid (A2.ownsRow (w2.heap.size+2) 22 1 (.slice lvo Lk.length lvc) Lk.length vs):=hF7.own
    have cL:∀X,Below wr.heap.size wr X→X.cell? ⟨w2.heap.size,0,none⟩=some (.slice lvo Lk.length lvc):=fun X hX=>cell_of ((hX.block _ (by omega)).trans hL)
    have cL1:=cL A1 ba1
    have cL2:=cL A2 bw2
    have cL0:=cL wr (Below.refl _ _)
    have HFF:Hid (∀v' w8,w8.ownsRow (w2.heap.size+2) 22 1 v' (Lk.length+1) (vs ++ [.slice (some ⟨wr.heap.size,0,none⟩) 3 3])→A2.grownBy w8 (Value.slice lvo Lk.length lvc).ownBlock→
      w8.cell? ⟨w2.heap.size,0,none⟩=some (.slice lvo Lk.length lvc)∧w8.frozen? ⟨w2.heap.size,0,none⟩=false∧(w8.cell? ⟨rb,rf,none⟩=some (.int .i64 x0)∧w8.cell? ⟨rb,rf+1,none⟩=some (.int .i64 x1)∧w8.cell? ⟨ub,uf+k,none⟩=some (.int .i64 x2))∧
      ((w8.setCell ⟨w2.heap.size,0,none⟩ v').cell? ⟨rb,rf,none⟩=some (.int .i64 x0)∧(w8.setCell ⟨w2.heap.size,0,none⟩ v').cell? ⟨rb,rf+1,none⟩=some (.int .i64 x1)∧(w8.setCell ⟨w2.heap.size,0,none⟩ v').cell? ⟨ub,uf+k,none⟩=some (.int .i64 x2))∧
      ((w8.setCell ⟨w2.heap.size,0,none⟩ v').heap[w2.heap.size]?=some (.cells #[v'] 23 (0,0))∧(w8.setCell ⟨w2.heap.size,0,none⟩ v').heap[w2.heap.size+1]?=some (.cells #[.slice none 0 0] 23 (0,0))∧FrO (fun _=>False) (w2.heap.size+2) (w8.setCell ⟨w2.heap.size,0,none⟩ v') v' ((lifL P hs).take (k+1)) (vs ++ [.slice (some ⟨wr.heap.size,0,none⟩) 3 3])∧Below w2.heap.size w2 (w8.setCell ⟨w2.heap.size,0,none⟩ v'))):=fun v' w8 ho hg=>by
     have hlt':∀g,(Value.slice lvo Lk.length lvc).ownBlock=some g→w2.heap.size+2≤g:=fun g hg1=>(hF.own.lt g hg1).1
     have hblk:∀b,b < w2.heap.size+2→w8.heap[b]?=wr.heap[b]?:=fun b hb=>
      (hg.block b (by omega) (fun e=>by have:=hlt' b e.symm; omega)).trans (bw2.block b (by omega))
     have h8:=(hblk w2.heap.size (by omega)).trans hL
     have hb8:Below w2.heap.size w2 w8:=B2.grown hg (by omega) (fun g hg1=>by have:=hlt' g hg1; omega)
     have hb9:Below w2.heap.size w2 (w8.setCell ⟨w2.heap.size,0,none⟩ v'):=hb8.setCell (Nat.le_refl _) v'
     have hpush:=hF7.push (u:=.slice (some ⟨wr.heap.size,0,none⟩) 3 3) (zs:=[x0,x1,x2]) (sl_threeC na1') (fun _=>⟨_,_,_,rfl,fun h=>h⟩) ho hg (fun g _ h=>h)
     refine ⟨cell_of h8,by simp [World.frozen?,h8],HS3.out _ hb8,HS3.out _ hb9,set_one h8,?_,?_,hb9⟩
     ·exact (Below.heap_setCell _ _ _ _ (by show w2.heap.size+1≠w2.heap.size; omega)).trans ((hblk _ (by omega)).trans hO)
     ·rw [HSNH.out]
      exact hpush.set (b:=w2.heap.size) (j:=0) (u:=v') (by omega) h8 (by decide)
    have HWD:Hid (Below w2.heap.size w2 wr.drew):=hB.drew
    have hkk:Lk.length≤10:=by have:=HLK.out; omega
    clear HSN hF hF7 hL hO hBw hr1 hpcell hx0 hx1 hx2' ba1 ba2 bw2 na1 na1' na2 hA1 hA2 hrc0 hrc1 hucc hLk cL
    gi_upto_region 12 with fail
    refine wpIn_region_wd (fun w'=>w'.cell? ⟨rb,rf,none⟩=some (.int .i64 x0)∧w'.cell? ⟨rb,rf+1,none⟩=some (.int .i64 x1)∧w'.cell? ⟨ub,uf+k,none⟩=some (.int .i64 x2)) (by kernel_rfl) (no_defer (by kernel_rfl)) (fun a w h=>h) ?_
    have hHeld:wr.drew.cell? ⟨rb,rf,none⟩=some (.int .i64 x0)∧wr.drew.cell? ⟨rb,rf+1,none⟩=some (.int .i64 x1)∧wr.drew.cell? ⟨ub,uf+k,none⟩=some (.int .i64 x2):=⟨s0,s1,s2⟩
    refine wpAnyH_tk (i:=1) (d:=34) (v:=.slice (some ⟨rb,rf,none⟩) 2 rc) rfl rfl (by kernel_rfl) (by kernel_rfl) (by kernel_rfl) (fun _ _ _ h=>h) (.inl ⟨by rfl,by (intro wq hSw; (try dsimp only at hSw); go_simp; (try (first | rfl | omega)))⟩) hHeld ?_
    simp only [Act.put,List.setIfInBounds_toArray,List.set_cons_zero,List.set_cons_succ]
    refine wpAnyH_tk (i:=2) (d:=35) (v:=.pointer (some ⟨rb,rf,none⟩)) rfl rfl (by kernel_rfl) (by kernel_rfl) (by kernel_rfl) (fun _ _ _ h=>h) (.inl ⟨by rfl,by (intro wq hSw; (try dsimp only at hSw); go_simp; (try (first | rfl | omega)))⟩) hHeld ?_
    simp only [Act.put,List.setIfInBounds_toArray,List.set_cons_zero,List.set_cons_succ]
    refine wpAnyH_tk (i:=3) (d:=36) (v:=.int .i64 x0) rfl rfl (by kernel_rfl) (by kernel_rfl) (by kernel_rfl) (fun _ _ _ h=>h) (.inl ⟨by rfl,by (intro wq hSw; (try dsimp only at hSw); go_simp; (try (first | rfl | omega)))⟩) hHeld ?_
    simp only [Act.put,List.setIfInBounds_toArray,List.set_cons_zero,List.set_cons_succ]
    refine wpAnyH_tk (i:=4) (d:=37) (v:=.slice (some ⟨rb,rf,none⟩) 2 rc) rfl rfl (by kernel_rfl) (by kernel_rfl) (by kernel_rfl) (fun _ _ _ h=>h) (.inl ⟨by rfl,by (intro wq hSw; (try dsimp only at hSw); go_simp; (try (first | rfl | omega)))⟩) hHeld ?_
    simp only [Act.put,List.setIfInBounds_toArray,List.set_cons_zero,List.set_cons_succ]
    refine wpAnyH_tk (i:=5) (d:=38) (v:=.pointer (some ⟨rb,rf+1,none⟩)) rfl rfl (by kernel_rfl) (by kernel_rfl) (by kernel_rfl) (fun _ _ _ h=>h) (.inl ⟨by rfl,by (intro wq hSw; (try dsimp only at hSw); go_simp; (try (first | rfl | omega)))⟩) hHeld ?_
    simp only [Act.put,List.setIfInBounds_toArray,List.set_cons_zero,List.set_cons_succ]
    refine wpAnyH_tk (i:=6) (d:=39) (v:=.int .i64 x1) rfl rfl (by kernel_rfl) (by kernel_rfl) (by kernel_rfl) (fun _ _ _ h=>h) (.inl ⟨by rfl,by (intro wq hSw; (try dsimp only at hSw); go_simp; (try (first | rfl | omega)))⟩) hHeld ?_
    simp only [Act.put,List.setIfInBounds_toArray,List.set_cons_zero,List.set_cons_succ]
    refine wpAnyH_tk (i:=7) (d:=40) (v:=.slice (some ⟨ub,uf,none⟩) P.length uc) rfl rfl (by kernel_rfl) (by kernel_rfl) (by kernel_rfl) (fun _ _ _ h=>h) (.inl ⟨by rfl,by (intro wq hSw; (try dsimp only at hSw); go_simp; (try (first | rfl | omega)))⟩) hHeld ?_
    simp only [Act.put,List.setIfInBounds_toArray,List.set_cons_zero,List.set_cons_succ]
    refine wpAnyH_tk (i:=8) (d:=41) (v:=.int .i64 k) rfl rfl (by kernel_rfl) (by kernel_rfl) (by kernel_rfl) (fun _ _ _ h=>h) (.inl ⟨by rfl,by (intro wq hSw; (try dsimp only at hSw); go_simp; (try (first | rfl | omega)))⟩) hHeld ?_
    simp only [Act.put,List.setIfInBounds_toArray,List.set_cons_zero,List.set_cons_succ]
    refine wpAnyH_tk (i:=9) (d:=42) (v:=.pointer (some ⟨ub,uf+k,none⟩)) rfl rfl (by kernel_rfl) (by kernel_rfl) (by kernel_rfl) (fun _ _ _ h=>h) (.inl ⟨by rfl,by (intro wq hSw; (try dsimp only at hSw); go_simp; (try (first | rfl | omega)))⟩) hHeld ?_
    simp only [Act.put,List.setIfInBounds_toArray,List.set_cons_zero,List.set_cons_succ]
    refine wpAnyH_tk (i:=10) (d:=43) (v:=.int .i64 x2) rfl rfl (by kernel_rfl) (by kernel_rfl) (by kernel_rfl) (fun _ _ _ h=>h) (.inl ⟨by rfl,by (intro wq hSw; (try dsimp only at hSw); go_simp; (try (first | rfl | omega)))⟩) hHeld ?_
    simp only [Act.put,List.setIfInBounds_toArray,List.set_cons_zero,List.set_cons_succ]
    refine wpAnyH_ready (rs:=[0,11]) (by kernel_rfl) (by simp) ?_
    refine ready_tk (i:=0) rfl (by rfl) (fun K hK=>?_) (ready_tk (i:=11) rfl (by rfl) (fun K hK=>?_) AllReadyH.nil)
    ·skip
     go_simp
     refine hK.out _ _ (HS3.out _ (HWD.out)) (fun hHeld=>?_)
     clear hK K
     try simp only [Act.put,List.setIfInBounds_toArray,List.set_cons_zero,List.set_cons_succ]
     refine wpAnyH_ready (rs:=[11]) (by kernel_rfl) (by simp) ?_
     refine ready_tk (i:=11) rfl (by rfl) (fun K hK=>?_) AllReadyH.nil
     go_simp
     rw [←HE1.out]
     refine hK.out _ _ (HS3.out _ HB1a.out) (fun hHeld=>?_)
     clear hK K
     try simp only [Act.put,List.setIfInBounds_toArray,List.set_cons_zero,List.set_cons_succ]
     refine wpAnyH_ready (rs:=[12]) (by kernel_rfl) (by simp) ?_
     refine ready_tk (i:=12) rfl (by rfl) (fun K hK=>?_) AllReadyH.nil
     go_simp
     (try rw [←HE1.out])
     rw [←HE2.out]
     refine hK.out _ _ (HS3.out _ HB2a.out) (fun hHeld=>?_)
     clear hK K
     try simp only [Act.put,List.setIfInBounds_toArray,List.set_cons_zero,List.set_cons_succ]
     refine wpAnyH_ready (rs:=[13]) (by kernel_rfl) (by simp) ?_
     refine ready_tk (i:=13) rfl (by rfl) (fun K hK=>?_) AllReadyH.nil
     refine op_append_slA _ _ 23 rfl (w2.heap.size+2) 22 i0 (.slice none 0 0) 24 Tryz.underlying23 hi0 hz0 hz1 hz2 rfl (.slice lvo Lk.length lvc) Lk.length vs rfl HOWN.out (some ⟨wr.heap.size+1,0,none⟩) 1 1 [.slice (some ⟨wr.heap.size,0,none⟩) 3 3] rfl HSL1.out (one_slice _ _ _) (by unfold maxLen; omega) (by omega) HSZ2.out ?_
     intro v' w8 ho hg hat
     obtain ⟨vo8,vc8,hv8⟩:=owns_form ho
     subst hv8
     obtain ⟨k1,k2,k3,k4,k5,k6,k7,k8⟩:=HFF.out _ w8 ho hg
     have HK5:Hid _:=k5
     have HK6:Hid _:=k6
     have HK7:Hid _:=k7
     have HK8:Hid _:=k8
     clear k5 k6 k7 k8 ho hg hat
     refine hK.out _ _ k3 (fun hHeld=>?_)
     clear hK K
     try simp only [Act.put,List.setIfInBounds_toArray,List.set_cons_zero,List.set_cons_succ]
     refine wpAnyH_ready (rs:=[14]) (by kernel_rfl) (by simp) ?_
     refine ready_tk (i:=14) rfl (by rfl) (fun K hK=>?_) AllReadyH.nil
     go_simp
     refine hK.out _ _ k4 (fun hHeld=>?_)
     clear hK K
     refine wpAnyH_done (by kernel_rfl) ?_ _
     dsimp only [Nrm]
     gi_wp2
     go_roundw
     case rel=>exact ⟨k+1,by omega,by go_num,_,_,HK5.out,HK6.out,HK7.out,HK8.out⟩
     case measure=>simp [intOf]; omega
    ·skip
     go_simp
     rw [←HE1.out]
     refine hK.out _ _ (HS3.out _ HB1a.out) (fun hHeld=>?_)
     clear hK K
     try simp only [Act.put,List.setIfInBounds_toArray,List.set_cons_zero,List.set_cons_succ]
     refine wpAnyH_ready (rs:=[0,12]) (by kernel_rfl) (by simp) ?_
     refine ready_tk (i:=0) rfl (by rfl) (fun K hK=>?_) (ready_tk (i:=12) rfl (by rfl) (fun K hK=>?_) AllReadyH.nil)
     ·skip
      go_simp
      refine hK.out _ _ (HS3.out _ HB1a.out) (fun hHeld=>?_)
      clear hK K
      try simp only [Act.put,List.setIfInBounds_toArray,List.set_cons_zero,List.set_cons_succ]
      refine wpAnyH_ready (rs:=[12]) (by kernel_rfl) (by simp) ?_
      refine ready_tk (i:=12) rfl (by rfl) (fun K hK=>?_) AllReadyH.nil
      go_simp
      (try rw [←HE1.out])
      rw [←HE2.out]
      refine hK.out _ _ (HS3.out _ HB2a.out) (fun hHeld=>?_)
      clear hK K
      try simp only [Act.put,List.setIfInBounds_toArray,List.set_cons_zero,List.set_cons_succ]
      refine wpAnyH_ready (rs:=[13]) (by kernel_rfl) (by simp) ?_
      refine ready_tk (i:=13) rfl (by rfl) (fun K hK=>?_) AllReadyH.nil
      refine op_append_slA _ _ 23 rfl (w2.heap.size+2) 22 i0 (.slice none 0 0) 24 Tryz.underlying23 hi0 hz0 hz1 hz2 rfl (.slice lvo Lk.length lvc) Lk.length vs rfl HOWN.out (some ⟨wr.heap.size+1,0,none⟩) 1 1 [.slice (some ⟨wr.heap.size,0,none⟩) 3 3] rfl HSL1.out (one_slice _ _ _) (by unfold maxLen; omega) (by omega) HSZ2.out ?_
      intro v' w8 ho hg hat
      obtain ⟨vo8,vc8,hv8⟩:=owns_form ho
      subst hv8
      obtain ⟨k1,k2,k3,k4,k5,k6,k7,k8⟩:=HFF.out _ w8 ho hg
      have HK5:Hid _:=k5
      have HK6:Hid _:=k6
      have HK7:Hid _:=k7
      have HK8:Hid _:=k8
      clear k5 k6 k7 k8 ho hg hat
      refine hK.out _ _ k3 (fun hHeld=>?_)
      clear hK K
      try simp only [Act.put,List.setIfInBounds_toArray,List.set_cons_zero,List.set_cons_succ]
      refine wpAnyH_ready (rs:=[14]) (by kernel_rfl) (by simp) ?_
      refine ready_tk (i:=14) rfl (by rfl) (fun K hK=>?_) AllReadyH.nil
      go_simp
      refine hK.out _ _ k4 (fun hHeld=>?_)
      clear hK K
      refine wpAnyH_done (by kernel_rfl) ?_ _
      dsimp only [Nrm]
      gi_wp2
      go_roundw
      case rel=>exact ⟨k+1,by omega,by go_num,_,_,HK5.out,HK6.out,HK7.out,HK8.out⟩
      case measure=>simp [intOf]; omega
     ·skip
      go_simp
      (try rw [←HE1.out])
      rw [←HE2.out]
      refine hK.out _ _ (HS3.out _ HB2a.out) (fun hHeld=>?_)
      clear hK K
      try simp only [Act.put,List.setIfInBounds_toArray,List.set_cons_zero,List.set_cons_succ]
      refine wpAnyH_ready (rs:=[0]) (by kernel_rfl) (by simp) ?_
      refine ready_tk (i:=0) rfl (by rfl) (fun K hK=>?_) AllReadyH.nil
      go_simp
      refine hK.out _ _ (HS3.out _ HB2a.out) (fun hHeld=>?_)
      clear hK K
      try simp only [Act.put,List.setIfInBounds_toArray,List.set_cons_zero,List.set_cons_succ]
      refine wpAnyH_ready (rs:=[13]) (by kernel_rfl) (by simp) ?_
      refine ready_tk (i:=13) rfl (by rfl) (fun K hK=>?_) AllReadyH.nil
      refine op_append_slA _ _ 23 rfl (w2.heap.size+2) 22 i0 (.slice none 0 0) 24 Tryz.underlying23 hi0 hz0 hz1 hz2 rfl (.slice lvo Lk.length lvc) Lk.length vs rfl HOWN.out (some ⟨wr.heap.size+1,0,none⟩) 1 1 [.slice (some ⟨wr.heap.size,0,none⟩) 3 3] rfl HSL1.out (one_slice _ _ _) (by unfold maxLen; omega) (by omega) HSZ2.out ?_
      intro v' w8 ho hg hat
      obtain ⟨vo8,vc8,hv8⟩:=owns_form ho
      subst hv8
      obtain ⟨k1,k2,k3,k4,k5,k6,k7,k8⟩:=HFF.out _ w8 ho hg
      have HK5:Hid _:=k5
      have HK6:Hid _:=k6
      have HK7:Hid _:=k7
      have HK8:Hid _:=k8
      clear k5 k6 k7 k8 ho hg hat
      refine hK.out _ _ k3 (fun hHeld=>?_)
      clear hK K
      try simp only [Act.put,List.setIfInBounds_toArray,List.set_cons_zero,List.set_cons_succ]
      refine wpAnyH_ready (rs:=[14]) (by kernel_rfl) (by simp) ?_
      refine ready_tk (i:=14) rfl (by rfl) (fun K hK=>?_) AllReadyH.nil
      go_simp
      refine hK.out _ _ k4 (fun hHeld=>?_)
      clear hK K
      refine wpAnyH_done (by kernel_rfl) ?_ _
      dsimp only [Nrm]
      gi_wp2
      go_roundw
      case rel=>exact ⟨k+1,by omega,by go_num,_,_,HK5.out,HK6.out,HK7.out,HK8.out⟩
      case measure=>simp [intOf]; omega
   ·have hke:k=P.length:=by omega
    rw [hke] at hF
    have HLT2:=HLT.out
    rw [HLT2] at hF
    have hLl:(lifL P hs).length=P.length:=by simp [lifL]
    have HBL:Hid (Box 3 30 (lifL P hs)):=fun r hr=>by
     simp only [lifL,List.mem_map,List.mem_range] at hr
     obtain ⟨i,hi,rfl⟩:=hr
     have hb:=HBP.out (P.getD i []) (by simp [hi])
     refine ⟨rfl,fun z hz=>?_⟩
     simp only [List.mem_cons,List.not_mem_nil,or_false] at hz
     rcases hz with rfl | rfl | rfl
     ·exact hb.2 _ (getD_mem (by rw [hb.1]; decide))
     ·exact hb.2 _ (getD_mem (by rw [hb.1]; decide))
     ·have:=HBH.out (hs.getD i 0) (getD_mem (by rw [HLG.out]; exact hi))
      omega
    clear HLS HLL HLT HLT2 HF0 l6 o6 c6r hke
    generalize hLf:lifL P hs=Lf at *
    have HLf:Hid (lifL P hs=Lf):=hLf
    clear hLf
    obtain ⟨lo,lc,hlv⟩:=owns_form hF.own
    subst hlv
    have hL':=hL
    rw [hLl] at hL
    have hcA:wr.cell? ⟨w.heap.size,0,none⟩=some (.slice po P.length pc):=(hB.cell (lt_of_cell c2)).trans c2
    gi_wp2_with (refine ⟨trivial,rfl,?_⟩; gi_at_call 15; refine (callsIn_wide.2 (of_any _ _ _)).mono ?_; rintro e w' ⟨rfl,rfl⟩)
    obtain ⟨WN,hWN,n3,n4,hsN,hbN⟩:=twoB wr (.cells #[.int .i64 P.length] 3) (.cells #[.int .i64 3] 3)
    rw [←hWN]
    clear hWN
    have HSQ:=of_seq P.length 3 (wr.heap.size+1) wr.heap.size WN (by omega) (by omega) (cell_of n4) (cell_of n3)
    have hbW:Below w.heap.size w wr:=HB2.out.trans (hB.mono HB2.out.size)
    have hlr:w2.heap.size+2≤wr.heap.size:=by have:=lt_of_block hO; omega
    have HSZ:Hid (WN.heap.size=wr.heap.size+2):=hsN
    have HBW:Hid (Below w.heap.size w wr):=hbW
    have HLR:Hid (w2.heap.size+2≤wr.heap.size∧w.heap.size < w2.heap.size):=⟨hlr,h2w⟩
    have HNN:Hid (Lf.length=P.length):=hLl
    have HI0:Hid (RgI (w2.heap.size+1) w WN wr.heap.size P Lf (fun b=>b=wr.heap.size+1∨b=wr.heap.size) [] WN):=⟨fun b hb=>by omega,Kpt.refl _ _,hbN.os.trans hbW.os,hbN.tape.trans hbW.tape,hbN.output.trans hbW.output,.slice none 0 0,[],(hbN.block _ (by omega)).trans hO,⟨rfl,World.ownsRow_nil _ _ _ _,fun g hg=>by simp [Value.ownBlock] at hg,fun i hi=>absurd hi (by simp [rgL]),fun i hi=>absurd hi (by simp [rgL])⟩⟩
    have HN1:Hid (WN.heap[w.heap.size]?=some (.cells #[.slice po P.length pc] 23 (0,0))):=(hbN.block _ (by omega)).trans ((hB.block _ h2w).trans HA2.out)
    have HN2:Hid (WN.heap[w2.heap.size]?=some (.cells #[.slice lo P.length lc] 23 (0,0))):=(hbN.block _ (by omega)).trans hL
    have HBN:Hid (Below wr.heap.size wr WN):=hbN
    have HLM:Hid (Mat 0 22 3 wr (.slice lo P.length lc) Lf):=by
     rw [←hLl]
     exact ⟨vs,hF.len,(Sl.own hF.own).more (Nat.zero_le _),fun i hi=>hF.sl i hi⟩
    have HO2:Hid (wr.heap[w2.heap.size+1]?=some (.cells #[.slice none 0 0] 23 (0,0))):=hO
    clear n3 n4 hbN hcA hL hO hF hB hbW hlr h2w
    refine range_s (R:=Hand WN.heap.size) (cs:=ext P.length 3 0) (T:=fun _=>False) (S0:=fun b=>b=wr.heap.size+1∨b=wr.heap.size) (gf:=29) (lb:=#[.pointer (some ⟨wr.heap.size+1,0,none⟩),.pointer (some ⟨wr.heap.size,0,none⟩)]) rfl (enters_of Tryz.func29 (by kernel_rfl) rfl) HSQ (fun b hb=>by omega)
     (fun W' S x vs ⟨v,B0,h1,_⟩=>by rw [h1]; rfl) (handA_below _) (handA_put _)
     (fun S pre W'=>RgI (w2.heap.size+1) w WN wr.heap.size P Lf S pre W')
     (fun c S pre W'=>False)
     (fun S S' pre W' W'' h hc hs=>h.stab (by have:=HLR.out; omega) (by have:=HSZ.out; omega) hc hs) (fun c S S' pre W' W'' h hc hs=>h) HI0.out
     (fun vs a' W'=>∃v,vs=#[v]∧a' = { tmps:=#[.slice po P.length pc,.slice uo P.length uc,.pointer (some ⟨w.heap.size,0,none⟩),undef,.slice none 0 0,.int .i64 0,.int .i64 0,.pointer (some ⟨w2.heap.size,0,none⟩),.pointer (some ⟨w2.heap.size+1,0,none⟩),u9,u10,v,undef,undef,.slice po P.length pc,.int .i64 0,.int .i64 0,.bool false,undef,.slice uo P.length uc,.int .i64 P.length,.slice po P.length pc,.int .i64 P.length,.bool false,.slice uo P.length uc,.bool false,.slice po P.length pc,.int .i64 P.length,.int .i64 k,.bool false,u30,u31,u32,u33,u34,u35,u36,u37,u38,u39,u40,u41,u42,u43,u44,u45,u46,u47,.slice po P.length pc,.int .i64 P.length,.func (.func 29) #[] #[.pointer (some ⟨wr.heap.size+1,0,none⟩),.pointer (some ⟨wr.heap.size,0,none⟩)],v,undef,undef,undef,undef,undef,undef,undef,undef,undef,undef,undef,undef,undef,undef],defers:=[] })
     (fun vs a' W' l r o h _=>h) ?assign ?body (fun h=>h) ?done ?stop
    case assign=>
     rintro S x vs W' K ⟨v,B0,rfl,h2,h3,h4⟩ hK
     gi_wp2
     exact hK _ _ (Below.refl _ _) ⟨v,rfl,rfl⟩
    case stop=>
     rintro c S pre W' hpre h
     exact h.elim
    case body=>
     rintro S pre c vs a' W1 hi hSD hSL hlt1 hdf hlp hpre ⟨S1,⟨v,B0,hvs,hown,hB0,hN0,hBW⟩,hS1⟩ ⟨v',hvs',rfl⟩
     have hvv:v=v':=by rw [hvs] at hvs'; simpa using hvs'
     subst hvv
     have hcm':c∈ext P.length 3 0:=hpre.subset (by simp)
     obtain ⟨hr1,hr2,_⟩:=ext_rise hcm'
     have hsz:=HSZ.out
     obtain ⟨hlr,h2w⟩:=HLR.out
     have hws:=hi.kp.size
     have e1:W1.heap[w.heap.size]?=some (.cells #[.slice po P.length pc] 23 (0,0)):=(hi.kp.block _ (by omega) (by omega)).trans HN1.out
     have e2:W1.heap[w2.heap.size]?=some (.cells #[.slice lo P.length lc] 23 (0,0)):=(hi.kp.block _ (by omega) (by omega)).trans HN2.out
     have hlow:∀b,b < wr.heap.size→b≠w2.heap.size+1→W1.heap[b]?=wr.heap[b]?:=fun b hb hne=>(hi.kp.block b (by omega) ⟨hb,hne⟩).trans (HBN.out.block b hb)
     have hlow0:∀b,b < w.heap.size→W1.heap[b]?=w.heap[b]?:=fun b hb=>(hlow b (by omega) (by omega)).trans (HBW.out.block b hb)
     obtain ⟨rv,rvs,hrv,hfr⟩:=hi.rv
     have HSB:Hid (∀b,S b→b < W1.heap.size):=fun b hx=>by
      rcases (hS1 _).1 hx with hx | hx | hx
      ·have:=hB0 _ hx; omega
      ·omega
      ·omega
     have hrl:∀i,i < c.length→0≤c.getD i 0∧c.getD i 0 < P.length:=fun i hi=>by have:=hr2 i (by omega); exact ⟨by omega,this.2⟩
     have hrm:∀i∈c,0≤i∧i < (P.length:Int):=fun z hz=>by
      obtain ⟨i,hi,rfl⟩:=List.getElem_of_mem hz
      have:=hrl i hi
      simpa [hi] using this
     obtain ⟨vo,vc,hvf⟩:=owns_form hown
     subst hvf
     rw [hr1] at hown ⊢
     have HMP:Hid (Mat w.heap.size 22 3 W1 (.slice po P.length pc) P):=mat_keepA HV.out hlow0
     have HML:Hid (Mat 0 22 3 W1 (.slice lo P.length lc) Lf):=mat_keepO HLM.out HO2.out hlow
     have HSW:Hid (∀X,Below W1.heap.size W1 X→Calls Tryz.prog 16 #[.slice vo 3 vc,.slice po P.length pc,.slice lo P.length lc] X fun e w''=>∃xo xc,e=.returned (.tuple #[.slice xo (swL P Lf c).length xc,.bool (swB P Lf c)])∧w''.ownsRow W1.heap.size 3 1 (.slice xo (swL P Lf c).length xc) (swL P Lf c).length (ints (swL P Lf c))∧Below W1.heap.size W1 w''):=fun X hX=>by
      have h:=seenWith_any P Lf c vo vc (.slice po P.length pc) (.slice lo P.length lc) X (((show Sl W1.heap.size 3 W1 (.slice vo 3 vc) (ints c) from Sl.own hown).below hX (Nat.le_refl _)).any (Nat.le_refl _)) hr1 hrm ((HMP.out.below hX (Nat.le_refl _)).any (Nat.le_refl _)) ((HML.out.below hX (Nat.le_refl _)).any (Nat.le_refl _)) HNN.out (by omega) HBP.out HBL.out
      refine h.mono ?_
      rintro e' w' ⟨u,rfl,hu,hb⟩
      obtain ⟨xo,xc,hux⟩:=owns_form hu
      subst hux
      exact ⟨xo,xc,rfl,owns_lowC hu hX.size,hX.trans (hb.mono hX.size)⟩
     have hc0:W1.cell? ⟨w.heap.size,0,none⟩=some (.slice po P.length pc):=cell_of e1
     have hc1:W1.cell? ⟨w2.heap.size,0,none⟩=some (.slice lo P.length lc):=cell_of e2
     obtain ⟨lr,hlp⟩:=hlp
     have HIS:Hid (∀w7,Below W1.heap.size W1 w7→RgI (w2.heap.size+1) w WN wr.heap.size P Lf S pre w7):=fun w7 hb=>hi.stab (by omega) (by omega) (Chg.of_below hb (Nat.le_refl _)) (fun b hb=>.inl hb)
     have HSN:Hid (∀b,S b→wr.heap.size≤b):=hi.sn
     have HFR:Hid (FrO S (wr.heap.size+4) W1 rv (rgL P Lf pre) rvs):=hfr
     have HRV:Hid (W1.heap[w2.heap.size+1]?=some (.cells #[rv] 23 (0,0))):=hrv
     have HRL:Hid ((rgL P Lf pre).length≤1000000):=by
      have hl:=rgL_len P Lf pre
      have h2:pre.length≤(ext P.length 3 0).length:=by
       have:=hpre.length_le
       simp only [List.length_append,List.length_cons,List.length_nil] at this
       omega
      have h3:(ext P.length 3 0).length≤400000:=ext_lenW (e:=3) (Nat.le_trans hn10 (by decide)) (by omega)
      show _≤_
      omega
     have HSN1:Hid (rgL P Lf (pre ++ [c])=rgL P Lf pre ++ rgC P Lf c):=rgL_snoc P Lf pre c
     have HCR:Hid (rgC P Lf c=if swB P Lf c=true then [swL P Lf c] else []):=rfl
     have hs2:wr.heap.size+4≤W1.heap.size:=by omega
     clear hi hpre hown hB0 hN0 hBW hS1 hcm' hr1 hr2 hdf hlp hvs hvs' hrl hrm hlow hlow0 hrv hfr hws HMP HML HSQ
     generalize swL P Lf c=y0 at *
     generalize swB P Lf c=kb at *
     have HFN:Hid (rgC P Lf c=[]→∀w7,Below W1.heap.size W1 w7→Kpt (fun b=>S b∨False) W1 w7∧RgI (w2.heap.size+1) w WN wr.heap.size P Lf S (pre ++ [c]) w7):=fun hcr w7 hb=>by
      refine ⟨Kpt.of_below hb (Nat.le_refl _),?_⟩
      have h:=HIS.out w7 hb
      obtain ⟨q1,q2,q3,q4,q5,q6⟩:=h
      refine ⟨q1,q2,q3,q4,q5,?_⟩
      rw [HSN1.out,hcr,List.append_nil]
      exact q6
     gi_wp2_with fail
     refine ⟨trivial,rfl,?_⟩
     gi_at_call 16
     refine (CallsIn.inRound _ (callsIn_wide.2 (HSW.out _ (by first | exact Below.refl _ _ | exact (Below.refl _ _).drew)))).mono ?_
     rintro e w7 ⟨xo,xc,rfl,hx7,hb7⟩
     have HX7:Hid (w7.ownsRow W1.heap.size 3 1 (.slice xo y0.length xc) y0.length (ints y0)):=hx7
     have HB7:Hid (Below W1.heap.size W1 w7):=hb7
     clear hx7 hb7 HSW hc0 hc1 e1 e2
     cases kb with
     | false=>
      have HF:Hid _:=HFN.out (by rw [HCR.out]; simp) w7 HB7.out
      clear HFN HIS HFR HRV HSN1 HCR
      gi_wp2
      exact HF.out
     | true=>
      have HSN2:Hid (rgL P Lf (pre ++ [c])=rgL P Lf pre ++ [y0]):=by show _=_; rw [HSN1.out,HCR.out]; simp
      have hb:=HB7.out
      have HNW:Hid (0 < y0.length→∃a n c,Value.slice xo y0.length xc=.slice (some a) n c∧W1.heap.size≤a.block):=fun hp=>by
       rcases HX7.out.2 with ⟨_,h0⟩ | ⟨g,cap,cur,hv,hbb,_⟩
       ·omega
       ·exact ⟨_,_,_,hv,hbb⟩
      have HFF:Hid (∀v' w8,w8.ownsRow (wr.heap.size+4) 22 1 v' ((rgL P Lf pre).length+1) (rvs ++ [.slice xo y0.length xc])→(w7.alloc (.cells #[.slice xo y0.length xc] 22)).grownBy w8 rv.ownBlock→(v'.ownBlock=rv.ownBlock∨v'.ownBlock=some (w7.heap.size+1))→
        w8.cell? ⟨w2.heap.size+1,0,none⟩=some rv∧w8.frozen? ⟨w2.heap.size+1,0,none⟩=false∧Kpt (fun b=>S b∨False) W1 (w8.setCell ⟨w2.heap.size+1,0,none⟩ v')∧RgI (w2.heap.size+1) w WN wr.heap.size P Lf S (pre ++ [c]) (w8.setCell ⟨w2.heap.size+1,0,none⟩ v')):=fun v' w8 ho hg hat=>by
       have hbs:=hb.size
       have hblk:∀b,b < W1.heap.size→(∀g,rv.ownBlock=some g→b≠g)→w8.heap[b]?=W1.heap[b]?:=fun b hb1 hne=>
        (hg.block b (by simp; omega) (fun e=>hne b e.symm rfl)).trans ((Below.heap_alloc _ _ _ (by omega)).trans (hb.block b hb1))
       have hrn:∀g,rv.ownBlock=some g→w2.heap.size+1≠g:=fun g hg1=>by have:=(HFR.out.own.lt g hg1).1; omega
       have h8:w8.heap[w2.heap.size+1]?=some (.cells #[rv] 23 (0,0)):=(hblk _ (by omega) hrn).trans HRV.out
       have hg7:=hg.size
       simp only [World.size_alloc] at hg7
       have hnew:∀b,W1.heap.size≤b→¬S b:=fun b hb1 hs=>by have:=HSB.out b hs; omega
       refine ⟨cell_of h8,by simp [World.frozen?,h8],⟨by simp [World.setCell]; omega,fun b hb1 hs=>?_⟩,?_⟩
       ·have hs':S b:=hs.elim id False.elim
        refine (Below.heap_setCell _ _ _ _ (by show b≠w2.heap.size+1; have:=HSN.out b hs'; omega)).trans (hblk b hb1 (fun g hg1 e=>?_))
        subst e
        exact HFR.out.off _ hg1 hs'
       ·have hI7:=HIS.out w7 hb
        have hFR7:FrO S (wr.heap.size+4) (w7.alloc (.cells #[.slice xo y0.length xc] 22)) rv (rgL P Lf pre) rvs:=HFR.out.keep (fun b hb1 hn=>(Below.heap_alloc _ _ _ (by omega)).trans (hb.block b hb1)) (fun b hb=>.inl hb)
        have hpush:=hFR7.push (u:=.slice xo y0.length xc) (zs:=y0) (((Sl.own HX7.out).more (Nat.zero_le _)).alloc _) (fun hp=>by
         obtain ⟨a,n,c,h1,h2⟩:=HNW.out hp
         exact ⟨a,n,c,h1,hnew _ h2⟩) ho hg (fun g hg1=>by
         rcases hat with h | h
         ·rw [h] at hg1; exact HFR.out.off g hg1
         ·rw [h] at hg1
          simp only [Option.some.injEq] at hg1
          exact hnew g (by omega))
        have hset:=hpush.set (b:=w2.heap.size+1) (j:=0) (u:=v') (by omega) h8 (by decide)
        obtain ⟨q1,q2,q3,q4,q5,_⟩:=hI7
        refine ⟨q1,q2.trans ⟨?_,fun b hb1 hlt=>?_⟩,?_,?_,?_,v',rvs ++ [.slice xo y0.length xc],?_,by rw [HSN2.out]; exact hset⟩
        ·simp [World.setCell]; omega
        ·have hbW:b < W1.heap.size:=by have:=hlt.1; omega
         refine (Below.heap_setCell _ _ _ _ (by show b≠w2.heap.size+1; exact hlt.2)).trans ((hblk b hbW (fun g hg1 e=>?_)).trans (hb.block b hbW).symm)
         have:=(HFR.out.own.lt g hg1).1
         have:=hlt.1
         omega
        ·exact hg.os.trans q3
        ·exact hg.tape.trans q4
        ·exact hg.output.trans q5
        ·exact set_one h8
      have HOO:Hid (w7.ownsRow (wr.heap.size+4) 22 1 rv (rgL P Lf pre).length rvs):=owns_below HFR.out.own hb (Nat.le_refl _)
      have hsz7:wr.heap.size+4≤w7.heap.size:=Nat.le_trans hs2 hb.size
      have hc8:w7.cell? ⟨w2.heap.size+1,0,none⟩=some rv:=cell_of ((hb.block _ (by omega)).trans HRV.out)
      have hrl:=HRL.out
      clear hb HX7 HB7 HNW HFN HIS HFR HRV HSN1 HCR HSN2
      gi_wp2_with (first | (gi_at_builtin; refine wpListIn_append_own_at _ rfl _ _ 23 rfl (wr.heap.size+4) 22 i0 (.slice none 0 0) 1 24 Tryz.underlying23 hi0 hz0 hz1 hz2 rfl (by decide) _ _ _ rfl (HOO.out.alloc _) ⟨w7.heap.size,0,none⟩ 1 1 [.slice xo y0.length xc] rfl rfl (one_new _ _ _) (one_slice _ _ _) ?d3 ?d4 ?d5 ?_))
      case d3=>unfold maxLen; omega
      case d4=>omega
      case d5=>simp; omega
      intro v' w9 ho hg _ hat
      obtain ⟨vo8,vc8,hv8⟩:=owns_form ho
      subst hv8
      obtain ⟨hc9,hf9,hk9,hi9⟩:=HFF.out _ w9 ho hg hat
      have HK9:Hid _:=hk9
      have HI9:Hid _:=hi9
      clear ho hg hat HFF hk9 hi9
      gi_wp2
      exact ⟨HK9.out,HI9.out⟩
    case done=>
     rintro S W' hi hSD hdf
     have hsz:=HSZ.out
     obtain ⟨hlr,h2w⟩:=HLR.out
     have hws:=hi.kp.size
     obtain ⟨rv,rvs,hrv,hfr⟩:=hi.rv
     have HLEN:Hid ((rgL P Lf (ext P.length 3 0)).length≤1000000):=by
      have hl:=rgL_len P Lf (ext P.length 3 0)
      have h3:(ext P.length 3 0).length≤400000:=ext_lenW (e:=3) (Nat.le_trans hn10 (by decide)) (by omega)
      show _≤_
      omega
     have HIO:Hid (Calls Tryz.prog 17 #[rv] W' fun e w'=>∃u m',e=.returned u∧Fr (wr.heap.size+4) 22 3 w' u m'∧Inor m' (rgL P Lf (ext P.length 3 0))∧Below (wr.heap.size+4) W' w'):=inOrder_any (wr.heap.size+4) (rgL P Lf (ext P.length 3 0)) rv W' hfr.fr (Nat.le_trans HLEN.out (by decide))
     have k0:W'.cell? ⟨w2.heap.size+1,0,none⟩=some rv:=cell_of hrv
     have HI:Hid (RgI (w2.heap.size+1) w WN wr.heap.size P Lf S (ext P.length 3 0) W'):=hi
     have HDF:Hid (W'.heap[WN.heap.size]?=some (.deferred (some []))):=hdf
     obtain ⟨ro,rc,hrf⟩:=owns_form hfr.own
     subst hrf
     clear hi hdf hrv hfr HSQ hsN hsz hws hlr h2w
     gi_wp2_with (refine ⟨trivial,rfl,?_⟩; gi_at_call 17; refine (callsIn_wide.2 HIO.out).mono ?_; rintro e w4 ⟨u,m',rfl,hf4,hin4,hb4⟩; obtain ⟨xo,xc,hxx,_,_⟩:=fr_open hf4; subst hxx)
     have hsz:=HSZ.out
     obtain ⟨hlr,h2w⟩:=HLR.out
     have hws:=HI.out.kp.size
     have hlow:∀b,b < w.heap.size→W'.heap[b]?=w.heap[b]?:=fun b hb=>(HI.out.kp.block b (by omega) (by omega)).trans ((HBN.out.block b (by omega)).trans (HBW.out.block b hb))
     refine leaves_mks [WN.heap.size] w4 (by simp) (fun r hr=>?_) (fun w' hc=>⟨.tuple #[.slice xo m'.length xc,.int .i64 0],?_,?_⟩)
     ·simp only [List.mem_singleton] at hr
      subst hr
      exact (hb4.block _ (by omega)).trans HDF.out
     ·simp [results,Tryz.results7,go_sem]
     ·have hb4s:=hb4.size
      refine ⟨⟨_,rfl,m',?_,by rw [HLf.out]; exact hin4⟩,hc.os.trans (hb4.os.trans HI.out.os),hc.tape.trans (hb4.tape.trans HI.out.tape),hc.output.trans (hb4.output.trans HI.out.output),by have:=hc.size; omega,fun b hb=>?_⟩
      ·obtain ⟨vs,f1,f2,f3⟩:=hf4
       have hD:w4.heap[WN.heap.size]?=some (.deferred (some [])):=(hb4.block _ (by omega)).trans HDF.out
       refine ⟨vs,f1,⟨f2.1,?_⟩,fun i hi=>(f3 i hi).move fun b hl ht=>⟨hc.block b hl (fun e=>?_),ht⟩⟩
       ·rcases f2.2 with h2 | ⟨g,cap,cur,h5,hbb,hh,r⟩
        ·exact Or.inl h2
        ·refine Or.inr ⟨g,cap,cur,h5,by omega,(hc.block g (lt_of_block hh) (fun e=>?_)).trans hh,r⟩
         simp only [List.mem_singleton] at e
         omega
       ·simp only [List.mem_singleton] at e
        subst e
        rcases ht with ht | ⟨c,ht⟩
        ·omega
        ·rw [hD] at ht; cases ht
      ·exact (hc.block b (by omega) (by simp; omega)).trans ((hb4.block b (by omega)).trans (hlow b hb))
end Go.Proofs.YtdanomklbiidaaaGreatDoor
