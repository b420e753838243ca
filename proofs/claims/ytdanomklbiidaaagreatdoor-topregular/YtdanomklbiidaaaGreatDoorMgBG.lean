import Derived.Test.YtdanomklbiidaaaGreatDoorFc5
import Derived.Test.YtdanomklbiidaaaGreatDoorMgBF
import Derived.Test.YtdanomklbiidaaaGreatDoorMgBC
import Derived.Test.YtdanomklbiidaaaGreatDoorMgBA
import Derived.Test.YtdanomklbiidaaaGreatDoorMgAE
import Derived.Test.YtdanomklbiidaaaGreatDoorMgBE
namespace Go.Proofs.YtdanomklbiidaaaGreatDoor
open Go.RowKit Lin
attribute [local go_sem ↓] Go.wp_at_zero Go.wp_at_succ
set_option maxRecDepth 100000 in
set_option maxHeartbeats 800000 in
theorem all10_any (d n:Nat) (co:Option Addr) (cc:Nat) (rv sv:Value) (w:World) (hn:n≤10) :
  Calls Tryz.prog 92 #[.agg #[.int .i64 d,.slice co n cc,rv,sv]] w fun e w'=>e=.returned (.int .u64 ((2 ^ n-1:Nat):Int))∧Below w.heap.size w w':=by
 obtain ⟨W,hW⟩:∃W,W=w.alloc (.cells #[.int .i64 d,.slice co n cc,rv,sv] 82):=⟨_,rfl⟩
 have HB:Hid (Below w.heap.size w W):=by rw [hW]; exact alloc_keep _ _
 have hb0:W.heap[w.heap.size]?=some (.cells #[.int .i64 d,.slice co n cc,rv,sv] 82 (0,0)):=by rw [hW]; exact alloc_at _ _
 have c1:W.cell? ⟨w.heap.size,1,none⟩=some (.slice co n cc):=by simp [World.cell?,hb0]
 clear hb0
 have hx:∃q:Int,q=((2 ^ n-1:Nat):Int):=⟨_,rfl⟩
 obtain ⟨q,hq⟩:=hx
 rw [←hq]
 have h11:n=0∨n=1∨n=2∨n=3∨n=4∨n=5∨n=6∨n=7∨n=8∨n=9∨n=10:=by omega
 go_enter Tryz.func92,Tryz.ntmps92
 go_upto_region 1 with fail
 rw [←hW]
 clear hW
 rcases h11 with rfl | rfl | rfl | rfl | rfl | rfl | rfl | rfl | rfl | rfl | rfl
 all_goals (have hq2:=hq; simp at hq2; subst hq2; clear hq)
 all_goals go_wp2
 all_goals go_ret
 all_goals exact ⟨rfl,HB.out⟩
theorem plF {α:Type} (a:Array α) (x:α) (i:Nat) (h:i < a.size):(a.push x)[i]?=a[i]?:=by
 rw [Array.getElem?_push,if_neg (by omega)]
theorem pnF {α:Type} (a:Array α) (x:α) (i:Nat) (h:i=a.size):(a.push x)[i]?=some x:=by
 subst h
 simp
theorem six_heapF (w:World) (o1 o2 o3 o4 o5 o6:Obj) (b:Nat) (hb:b=w.heap.size) (W:World) (hW:W=(((((w.alloc o1).alloc o2).alloc o3).alloc o4).alloc o5).alloc o6) :
  W.heap[b]?=some o1∧W.heap[b+1]?=some o2∧W.heap[b+2]?=some o3∧W.heap[b+3]?=some o4∧W.heap[b+4]?=some o5∧W.heap[b+5]?=some o6∧W.heap.size=b+6:=by
 have hh:W.heap=(((((w.heap.push o1).push o2).push o3).push o4).push o5).push o6:=by rw [hW]; rfl
 rw [hh]
 subst hb
 refine ⟨?_,?_,?_,?_,?_,?_,by simp only [Array.size_push]⟩
 ·rw [plF _ _ _ (by simp only [Array.size_push]; omega),plF _ _ _ (by simp only [Array.size_push]; omega),plF _ _ _ (by simp only [Array.size_push]; omega),plF _ _ _ (by simp only [Array.size_push]; omega),plF _ _ _ (by simp only [Array.size_push]; omega),pnF _ _ _ rfl]
 ·rw [plF _ _ _ (by simp only [Array.size_push]; omega),plF _ _ _ (by simp only [Array.size_push]; omega),plF _ _ _ (by simp only [Array.size_push]; omega),plF _ _ _ (by simp only [Array.size_push]; omega),pnF _ _ _ (by simp only [Array.size_push])]
 ·rw [plF _ _ _ (by simp only [Array.size_push]; omega),plF _ _ _ (by simp only [Array.size_push]; omega),plF _ _ _ (by simp only [Array.size_push]; omega),pnF _ _ _ (by simp only [Array.size_push])]
 ·rw [plF _ _ _ (by simp only [Array.size_push]; omega),plF _ _ _ (by simp only [Array.size_push]; omega),pnF _ _ _ (by simp only [Array.size_push])]
 ·rw [plF _ _ _ (by simp only [Array.size_push]; omega),pnF _ _ _ (by simp only [Array.size_push])]
 ·rw [pnF _ _ _ (by simp only [Array.size_push])]
theorem made_nils (n:Nat):madeCells #[.slice none 0 0] n=(List.replicate n (Value.slice none 0 0)).toArray:=by
 rw [←toList_madeCells_one]
theorem LvI.start (w:World) (d:Nat) (C:List (List Int)) (cs rv sv:Value) (W:World) (b:Nat) (hb:b=w.heap.size)
  (hW:W=(((((w.alloc (.cells #[.int .i64 d,cs,rv,sv] 82)).alloc (.cells (madeCells #[.slice none 0 0] (d+2)) 67)).alloc (.cells #[.slice (some ⟨b+1,0,none⟩) (d+2) (d+2)] 85)).alloc (.map #[] 0)).alloc (.cells #[.map (some (b+3))] 114)).alloc (.cells #[.func (.func 90) #[] (seA b)] 115)) :
  LvI w b d C cs rv sv [] [] W:=by
 obtain ⟨q1,q2,q3,q4,q5,q6,q7⟩:=six_heapF w _ _ _ _ _ _ b hb W hW
 have hB:Below w.heap.size w W:=by
  rw [hW]
  exact ((((((Below.refl _ _).alloc (Nat.le_refl _) _).alloc (by simp) _).alloc (by simp; omega) _).alloc (by simp; omega) _).alloc (by simp; omega) _).alloc (by simp; omega) _
 have hmp:W.ownsMap Tryz.prog 70 (plainElem (H:=Unit) Tryz.prog 3) (b+3) 0 (.map []):=by
  rw [hW]
  refine World.ownsMap.alloc (World.ownsMap.alloc ?_ _) _
  have:=World.ownsMap_made (((w.alloc (.cells #[.int .i64 d,cs,rv,sv] 82)).alloc (.cells (madeCells #[.slice none 0 0] (d+2)) 67)).alloc (.cells #[.slice (some ⟨b+1,0,none⟩) (d+2) (d+2)] 85)) Tryz.prog 70 (plainElem (H:=Unit) Tryz.prog 3)
  simp only [World.size_alloc] at this
  rw [←hb] at this
  exact this
 refine ⟨by omega,hB,by omega,q1,q3,q5,q6,⟨.map [],hmp,fun x=>⟨by simp [Maps.has],fun h=>by simp at h⟩⟩,List.replicate (d+2) (.slice none 0 0),by simp,by rw [←made_nils]; exact q2,fun t ht=>?_,fun s t hs ht _ x hx=>?_⟩
 ·have e:(List.replicate (d+2) (Value.slice none 0 0)).getD t undef=.slice none 0 0:=by simp [ht]
  rw [e]
  exact World.ownsRow_nil _ _ _ _
 ·have e:(List.replicate (d+2) (Value.slice none 0 0)).getD s undef=.slice none 0 0:=by simp [hs]
  rw [e] at hx
  simp [Value.ownBlock] at hx
set_option maxRecDepth 100000 in
set_option maxHeartbeats 1600000 in
theorem levels_any (d:Nat) (C:List (List Int)) (co:Option Addr) (cc:Nat) (rv:Value) (so:Option Addr) (sc:Nat) (S:List Nat) (w:World) (hC:Mat w.heap.size 22 3 w (.slice co C.length cc) C) (hbx:Box d 30 C) (h1:1≤d) (h4:d≤4) (hn:C.length≤10) (hT:TabB w) (hS:Sl w.heap.size 70 w (.slice so S.length sc) (u64s S)) (hS1:∀t∈S,t < 1024) (hSl:S.length≤5000) :
  Calls Tryz.prog 58 #[.agg #[.int .i64 d,.slice co C.length cc,rv,.slice so S.length sc]] w fun e w'=>e=.returned (.slice (some ⟨w.heap.size+1,0,none⟩) (d+2) (d+2))∧∃A,SeeW w w.heap.size d C co cc rv so sc S A w'∧SeeP S (2 ^ C.length-1) [] A:=by
 have hmm:=@run_makeMap Tryz.prog
 have hmk:∀w:World,(Instr.makeSlice 85 (.int .i64 ((d:Int)+2)) (.int .i64 ((d:Int)+2))).run Tryz.prog w=.ok (.slice (some ⟨w.heap.size,0,none⟩) (d+2) (d+2)) (w.alloc (.cells (madeCells #[.slice none 0 0] (d+2)) 67)):=fun w=>by
  have h:=run_make_row' (P:=Tryz.prog) 85 67 (.slice none 0 0) 24 (by kernel_rfl) (by kernel_rfl) rfl .i64 .i64 (d+2) (by omega) (by omega) w
  rw [show ((d+2:Nat):Int)=(d:Int)+2 by omega] at h
  exact h
 obtain ⟨W,hW⟩:∃W,W=(((((w.alloc (.cells #[.int .i64 d,.slice co C.length cc,rv,.slice so S.length sc] 82)).alloc (.cells (madeCells #[.slice none 0 0] (d+2)) 67)).alloc (.cells #[.slice (some ⟨w.heap.size+1,0,none⟩) (d+2) (d+2)] 85)).alloc (.map #[] 0)).alloc (.cells #[.map (some (w.heap.size+1+1+1))] 114)).alloc (.cells #[.func (.func 90) #[] #[.pointer (some ⟨w.heap.size+1+1+1+1,0,none⟩),.pointer (some ⟨w.heap.size,0,none⟩),.pointer (some ⟨w.heap.size+1+1,0,none⟩),.pointer (some ⟨w.heap.size+1+1+1+1+1,0,none⟩)]] 115):=⟨_,rfl⟩
 have HI:Hid (LvI w w.heap.size d C (.slice co C.length cc) rv (.slice so S.length sc) [] [] W):=LvI.start w d C _ rv _ W w.heap.size rfl hW
 have HALL:Hid (∀X,Calls Tryz.prog 92 #[.agg #[.int .i64 d,.slice co C.length cc,rv,.slice so S.length sc]] X fun e w'=>e=.returned (.int .u64 ((2 ^ C.length-1:Nat):Int))∧Below X.heap.size X w'):=fun X=>all10_any d C.length co cc rv _ X hn
 have HSEE:Hid (∀X,LvI w w.heap.size d C (.slice co C.length cc) rv (.slice so S.length sc) [] [] X→Calls Tryz.prog 90 #[.int .u64 ((2 ^ C.length-1:Nat):Int),.pointer (some ⟨w.heap.size+4,0,none⟩),.pointer (some ⟨w.heap.size,0,none⟩),.pointer (some ⟨w.heap.size+2,0,none⟩),.pointer (some ⟨w.heap.size+5,0,none⟩)] X fun e w'=>e=.returned (.tuple #[])∧∃A',SeeW w w.heap.size d C co cc rv so sc S A' w'∧SeeP S (2 ^ C.length-1) [] A'):=fun X hX=>
  see_any w w.heap.size d C co cc rv so sc S hC hbx h1 h4 hn hT hS hS1 hSl _ (2 ^ C.length-1) [] X (Nat.lt_succ_self _) (by have:0 < 2 ^ C.length:=Nat.pow_pos (by decide); omega) ⟨hX,List.nodup_nil,fun g hg=>by simp at hg⟩
 have HBOX:Hid (∀M A' X,LvI w w.heap.size d C (.slice co C.length cc) rv (.slice so S.length sc) M A' X→(X.cell? ⟨w.heap.size+1+1+1+1+1,0,none⟩=some (.func (.func 90) #[] #[.pointer (some ⟨w.heap.size+4,0,none⟩),.pointer (some ⟨w.heap.size,0,none⟩),.pointer (some ⟨w.heap.size+2,0,none⟩),.pointer (some ⟨w.heap.size+5,0,none⟩)])∧X.cell? ⟨w.heap.size,0,none⟩=some (.int .i64 d)∧X.cell? ⟨w.heap.size,1,none⟩=some (.slice co C.length cc)∧X.cell? ⟨w.heap.size,2,none⟩=some rv∧X.cell? ⟨w.heap.size,3,none⟩=some (.slice so S.length sc))∧X.cell? ⟨w.heap.size+1+1,0,none⟩=some (.slice (some ⟨w.heap.size+1,0,none⟩) (d+2) (d+2))):=fun M A' X h=>by
  have q2:=h.bd
  have q3:=h.ob
  have q4:=h.fb
  exact ⟨⟨by show X.cell? ⟨w.heap.size+5,0,none⟩=_; simp [World.cell?,q4,seA],by simp [World.cell?,q2],by simp [World.cell?,q2],by simp [World.cell?,q2],by simp [World.cell?,q2]⟩,by show X.cell? ⟨w.heap.size+2,0,none⟩=_; simp [World.cell?,q3]⟩
 generalize 2 ^ C.length-1=F at *
 clear hC hbx hT hS hS1
 go_enter Tryz.func58,Tryz.ntmps58
 go_upto_region 5 with fail
 rw [←hW]
 clear hW hmm hmk
 obtain ⟨cs0,cs1⟩:=HBOX.out _ _ _ HI.out
 refine wp_region_held_drew (S:=fun X=>X.cell? ⟨w.heap.size+1+1+1+1+1,0,none⟩=some (.func (.func 90) #[] #[.pointer (some ⟨w.heap.size+4,0,none⟩),.pointer (some ⟨w.heap.size,0,none⟩),.pointer (some ⟨w.heap.size+2,0,none⟩),.pointer (some ⟨w.heap.size+5,0,none⟩)])∧X.cell? ⟨w.heap.size,0,none⟩=some (.int .i64 d)∧X.cell? ⟨w.heap.size,1,none⟩=some (.slice co C.length cc)∧X.cell? ⟨w.heap.size,2,none⟩=some rv∧X.cell? ⟨w.heap.size,3,none⟩=some (.slice so S.length sc)) (by kernel_rfl) cs0 (fun hHeld=>?_)
 clear cs0 cs1
 refine wpAnyH_tk (i:=0) (d:=12) (v:=(.func (.func 90) #[] #[.pointer (some ⟨w.heap.size+4,0,none⟩),.pointer (some ⟨w.heap.size,0,none⟩),.pointer (some ⟨w.heap.size+2,0,none⟩),.pointer (some ⟨w.heap.size+5,0,none⟩)])) rfl rfl (by kernel_rfl) (by kernel_rfl) (by kernel_rfl) (fun _ _ _ h=>h) (.inl ⟨by rfl,by (intro wq hSw; (try dsimp only at hSw); go_simp; (try (first | rfl | omega)))⟩) hHeld ?_
 simp only [Act.put,List.setIfInBounds_toArray,List.set_cons_zero,List.set_cons_succ]
 refine wpAnyH_tk (i:=1) (d:=13) (v:=(.agg #[.int .i64 d,.slice co C.length cc,rv,.slice so S.length sc])) rfl rfl (by kernel_rfl) (by kernel_rfl) (by kernel_rfl) (fun _ _ _ h=>h) (.inl ⟨by rfl,by (intro wq hSw; (try dsimp only at hSw); go_simp; (try (first | rfl | omega)))⟩) hHeld ?_
 simp only [Act.put,List.setIfInBounds_toArray,List.set_cons_zero,List.set_cons_succ]
 refine wpAnyH_ready (rs:=[2]) (by kernel_rfl) (by simp) ?_
 refine ready_tk (i:=2) rfl (by rfl) (fun K hK=>?_) AllReadyH.nil
 go_simp
 refine (HALL.out W.drew).mono ?_
 rintro e w3 ⟨rfl,hb3⟩
 have HI3:Hid (LvI w w.heap.size d C (.slice co C.length cc) rv (.slice so S.length sc) [] [] w3):=HI.out.below ((Below.drew (Below.refl W.heap.size W)).trans hb3)
 clear hb3
 refine hK.out _ _ (HBOX.out _ _ _ HI3.out).1 (fun hHeld=>?_)
 clear hK K
 refine wpAnyH_ready (rs:=[3]) (by kernel_rfl) (by simp) ?_
 refine ready_tk (i:=3) rfl (by rfl) (fun K hK=>?_) AllReadyH.nil
 go_simp
 refine (HSEE.out w3 HI3.out).mono ?_
 rintro e w4 ⟨rfl,A,hW4,hP4⟩
 have HF:Hid (∃A,SeeW w w.heap.size d C co cc rv so sc S A w4∧SeeP S F [] A):=⟨A,hW4,hP4⟩
 obtain ⟨cs0,cs1⟩:=HBOX.out _ _ _ hW4.i
 clear hW4 hP4
 refine hK.out _ _ cs0 (fun hHeld=>?_)
 clear hK K cs0
 refine wpAnyH_done (by kernel_rfl) ?_ _
 clear hHeld
 go_wp2
 go_ret
 exact ⟨rfl,HF.out⟩
end Go.Proofs.YtdanomklbiidaaaGreatDoor

namespace Go.Proofs.YtdanomklbiidaaaGreatDoor
open Go.RowKit Lin
attribute [local go_sem ↓] Go.wp_at_zero Go.wp_at_succ
set_option maxRecDepth 100000 in
set_option maxHeartbeats 1600000 in
theorem told_any (B:Nat) (A:List Nat) (v:Value) (w:World) (hv:Sl B 70 w v (u64s A)) (hA:∀x∈A,x < 1024) (hl:A.length≤5000) (hT:TabB w) :
  Calls Tryz.prog 59 #[v] w fun e w'=>∃u m',e=.returned u∧Fr w.heap.size 22 3 w' u m'∧Inor m' (A.map memL)∧Below w.heap.size w w':=by
 obtain ⟨i0,hi0,hz0,hz1,hz2⟩:=info_parts Tryz.info22
 have hv0:=hv
 obtain ⟨ao,cap,hvv,hlc,hcm,_,_⟩:=hv0
 rw [u64s_len] at hvv hlc
 subst hvv
 have HV:Hid (∀W k,Below w.heap.size w W→k < A.length→∃b o,ao=some ⟨b,o,none⟩∧W.cell? ⟨b,o+k,none⟩=some (.int .u64 ((A.getD k 0:Nat):Int))):=fun W k hb hk=>by
  obtain ⟨ao2,c2,e2,_,_,h5,_⟩:=(hv.below hb (Nat.le_refl _))
  simp only [Value.slice.injEq] at e2
  obtain ⟨b,o,e3,h6,_⟩:=h5 k (by rw [u64s_len]; exact hk)
  refine ⟨b,o,e2.1.trans e3,?_⟩
  rw [h6]
  simp [u64s,hk]
 have HLI:Hid (∀W k,Below w.heap.size w W→k < A.length→Calls Tryz.prog 46 #[.int .u64 ((A.getD k 0:Nat):Int)] W fun e w'=>∃uo uc,e=.returned (.slice uo (memL (A.getD k 0)).length uc)∧Sl 0 3 w' (.slice uo (memL (A.getD k 0)).length uc) (ints (memL (A.getD k 0)))∧Below W.heap.size W w'):=fun W k hb hk=>by
  refine (list10_any (A.getD k 0) (hA _ (by simp [hk])) W (hT.below hb)).mono ?_
  rintro e w' ⟨u,rfl,h1,h2⟩
  obtain ⟨uo,uc,rfl⟩:=owns_form h1
  exact ⟨uo,uc,rfl,Sl.own h1,h2⟩
 have HTK:Hid (∀k,k < A.length→(A.take (k+1)).map memL=(A.take k).map memL ++ [memL (A.getD k 0)]):=fun k hk=>by
  rw [List.take_succ_eq_append_getElem hk,List.map_append]
  simp [hk]
 have HAL:Hid ((A.take A.length).map memL=A.map memL):=by show _=_; rw [List.take_length]
 clear hv hT hA
 go_enter Tryz.func59,Tryz.ntmps59
 go_wp2
 go_loopw [3,5,8] (fun x _ i wr=>∃k:Nat,k≤A.length∧i=.int .i64 (k:Int)∧Fr w.heap.size 22 3 wr x ((A.take k).map memL)∧Below w.heap.size w wr) (fun _ _ i _=>A.length-(intOf i).toNat)
 case atStart=>exact ⟨0,Nat.zero_le _,rfl,⟨[],rfl,World.ownsRow_nil _ _ _ _,fun i hi=>by simp at hi⟩,Below.refl _ _⟩
 case round=>
  obtain ⟨k,hk,rfl,hf,hb⟩:=hrel
  obtain ⟨wa,rfl⟩:∃wa,wa=wr:=⟨wr,rfl⟩
  have HB:Hid (Below w.heap.size w wa):=hb
  have hkl:((A.take k).map memL).length=k:=by simp; omega
  have hform:=fr_open hf
  rw [hkl] at hform
  obtain ⟨xo,xc,hx,_,_⟩:=hform
  subst hx
  have HF:Hid (Fr w.heap.size 22 3 wa (.slice xo k xc) ((A.take k).map memL)):=hf
  have HKL:Hid (((A.take k).map memL).length=k):=hkl
  clear hf hb hkl
  by_cases hlt:k < A.length
  ·obtain ⟨b,o,hao,hcc⟩:=HV.out wa k HB.out hlt
   have H2:=HLI.out wa k HB.out hlt
   have hT2:=HTK.out k hlt
   have HT2:Hid ((A.take (k+1)).map memL=(A.take k).map memL ++ [memL (A.getD k 0)]):=hT2
   have hkI:(k:Int) < (A.length:Int):=by omega
   subst hao
   clear HV HLI hT2 HTK HAL
   generalize A.getD k 0=x at *
   go_wp2_with fail
   refine H2.mono ?_
   rintro e w2 ⟨uo,uc,rfl,hu,hb2⟩
   obtain ⟨vs,f1,f2,f3⟩:=HF.out.below hb2 (Nat.le_refl _)
   rw [HKL.out] at f1 f2
   have HO:Hid (w2.ownsRow w.heap.size 22 1 (.slice xo k xc) k vs):=f2
   have HB2:Hid (Below w.heap.size w w2):=HB.out.trans (hb2.mono HB.out.size)
   have HPU:Hid (∀v' w3,w3.ownsRow w.heap.size 22 1 v' (k+1) (vs ++ [.slice uo (memL x).length uc])→(w2.alloc (.cells #[.slice uo (memL x).length uc] 22)).grownBy w3 (Value.slice xo k xc).ownBlock→Fr w.heap.size 22 3 w3 v' ((A.take (k+1)).map memL)):=fun v' w3 ho hg=>by
    rw [HT2.out]
    exact Fr.push (m:=(A.take k).map memL) (by decide) (by rw [HKL.out]; exact f1) (by rw [HKL.out]; exact f2.alloc _) (fun i hi=>(f3 i hi).alloc _) (hu.alloc _) (by rw [HKL.out]; exact ho) hg
   have hsz:w.heap.size≤w2.heap.size:=HB2.out.size
   clear f1 f2 f3 hu hb2 H2 hcc HT2 HF
   generalize (memL x).length=ml at *
   go_wp2_with (first | (at_builtin; refine wpList_append_own _ rfl _ _ 23 rfl w.heap.size 22 i0 (.slice none 0 0) 1 24 Tryz.underlying23 hi0 hz0 hz1 hz2 rfl (by decide) _ _ _ rfl (HO.out.alloc _) ⟨w2.heap.size,0,none⟩ 1 1 [.slice uo ml uc] rfl rfl (one_new _ _ _) (one_slice _ _ _) ?c3 ?c4 ?c5 ?_))
   case c3=>unfold maxLen; omega
   case c4=>omega
   case c5=>simp; omega
   intro v' w3 ho hg _
   have HNX:Hid (Fr w.heap.size 22 3 w3 v' ((A.take (k+1)).map memL)):=HPU.out v' w3 ho hg
   have HB3:Hid (Below w.heap.size w w3):=(HB2.out.alloc hsz _).grown hg (by simp; omega) (fun y hy=>(HO.out.lt y hy).1)
   clear ho hg
   go_wp2
   go_roundw
   case rel=>exact ⟨k+1,by omega,by go_num,HNX.out,HB3.out⟩
   case measure=>simp [intOf]; omega
  ·have hke:k=A.length:=by omega
   subst hke
   have HIO:Hid (Calls Tryz.prog 17 #[.slice xo A.length xc] wa fun e w'=>∃u m',e=.returned u∧Fr w.heap.size 22 3 w' u m'∧Inor m' (A.map memL)∧Below w.heap.size wa w'):=by
    have:=inOrder_any w.heap.size ((A.take A.length).map memL) (.slice xo A.length xc) wa HF.out (by rw [HKL.out]; omega)
    rw [HAL.out] at this
    exact this
   clear HV HLI HTK HAL HF HKL
   go_wp2_with fail
   refine HIO.out.mono ?_
   rintro e w4 ⟨u,m',rfl,h1,h2,h3⟩
   have HR:Hid (Fr w.heap.size 22 3 w4 u m'∧Inor m' (A.map memL)∧Below w.heap.size w w4):=⟨h1,h2,HB.out.trans h3⟩
   clear h1 h2 h3
   go_wp2
   go_ret
   exact ⟨u,m',rfl,HR.out⟩
end Go.Proofs.YtdanomklbiidaaaGreatDoor

namespace Go.Proofs.YtdanomklbiidaaaGreatDoor
open Go.RowKit Lin
attribute [local go_sem ↓] Go.wp_at_zero Go.wp_at_succ
structure LvV (w:World) (x:Value) (j:Nat) (LV:Nat→List (List Int)):Prop where
 rows:∃ao cap,x=.slice ao j cap∧∀X t,Below w.heap.size w X→t < j→∃b o ro rc,ao=some ⟨b,o,none⟩∧X.cell? ⟨b,o+t,none⟩=some (.slice ro (LV t).length rc)∧Mat X.heap.size 22 3 X (.slice ro (LV t).length rc) (LV t)
theorem Lvs.named {B:Nat} {w:World} {x:Value} {j:Nat} {ok:Nat→List (List Int)→Prop} (h:Lvs B w x j ok):∃LV,LvV w x j LV∧∀t,t < j→ok t (LV t):=by
 obtain ⟨vs,h1,h2,h3⟩:=h.rows
 have hch:∃LV:Nat→List (List Int),∀t,t < j→Fr B 22 3 w (vs.getD t (.slice none 0 0)) (LV t)∧ok t (LV t):=by
  refine ⟨fun t=>if ht:t < j then Classical.choose (h3 t ht) else [],fun t ht=>?_⟩
  simp only [ht,dif_pos]
  exact Classical.choose_spec (h3 t ht)
 obtain ⟨LV,hLV⟩:=hch
 obtain ⟨ao,cap,hx⟩:=owns_form h2
 refine ⟨LV,⟨ao,cap,hx,fun X t hX ht=>?_⟩,fun t ht=>(hLV t ht).2⟩
 obtain ⟨ao2,cap2,hx2,_,_,h5,_⟩:=Sl.own (B:=0) h2
 rw [hx] at hx2
 simp only [Value.slice.injEq] at hx2
 obtain ⟨rfl,_,rfl⟩:=hx2
 obtain ⟨b,o,hb,hc,_⟩:=h5 t (by omega)
 have hm:Mat 0 22 3 w (vs.getD t (.slice none 0 0)) (LV t):=by
  obtain ⟨us,u1,u2,u3⟩:=(hLV t ht).1
  exact ⟨us,u1,Sl.own u2,u3⟩
 obtain ⟨ro,rc,hv,_,_⟩:=mat_open hm
 refine ⟨b,o,ro,rc,hb,?_,?_⟩
 ·rw [←hv]
  have e:vs[t]?=some (vs.getD t (.slice none 0 0)):=by simp [show t < vs.length by omega]
  rw [e] at hc
  have hbl:=lt_of_cell hc
  exact (hX.cell hbl).trans hc
 ·rw [←hv]
  exact (hm.below hX (Nat.le_refl _)).more (Nat.zero_le _)
end Go.Proofs.YtdanomklbiidaaaGreatDoor

namespace Go.Proofs.YtdanomklbiidaaaGreatDoor
open Go.RowKit Lin
attribute [local go_sem ↓] Go.wp_at_zero Go.wp_at_succ
theorem setN_ltn {n:Nat} : ∀l:List Int,(∀x∈l,0≤x∧x < (n:Int))→setN l < 2 ^ n
 | [],_=>by simp [setN]; exact Nat.pow_pos (by decide)
 | v :: l,h=>by
  have h1:=h v (by simp)
  unfold setN
  exact Nat.or_lt_two_pow (Nat.pow_lt_pow_right (by decide) (by omega)) (setN_ltn l fun x hx=>h x (by simp [hx]))
end Go.Proofs.YtdanomklbiidaaaGreatDoor

namespace Go.Proofs.YtdanomklbiidaaaGreatDoor
open Go.RowKit Lin
attribute [local go_sem ↓] Go.wp_at_zero Go.wp_at_succ
theorem setN_lt10 (l:List Int) (h:∀x∈l,0≤x∧x < (10:Int)):setN l < 1024:=setN_ltn (n:=10) l h
theorem flat_congr {α β:Type} {f g:α→List β} : ∀{l:List α},(∀a∈l,f a=g a)→l.flatMap f=l.flatMap g
 | [],_=>rfl
 | a :: l,h=>by
  rw [List.flatMap_cons,List.flatMap_cons,h a (by simp),flat_congr fun b hb=>h b (by simp [hb])]
def filL (LV:Nat→List (List Int)) (order:List Int) (t:Nat):List (Nat×List Nat):=(LV t).map fun g=>(setN g,pulS LV order t g)
theorem pulS_two (LV:Nat→List (List Int)) (order:List Int) (t:Nat) (face:List Int):pulS LV order (t+2) face=(LV (t+1)).flatMap fun g=>if tkB order face g then (pulS LV order (t+1) g).map fun c=>2 ^ (fstO order face).toNat ||| c else []:=rfl
theorem put_pul {LV:Nat→List (List Int)} {order:List Int} {n:Nat} (h:LvO LV order n) (hn:n≤10) (t:Nat) (face:List Int) (hf:face∈LV (t+2)):putL (2 ^ (fstO order face).toNat) (setN face) (fstO order face).toNat (filL LV order (t+1))=pulS LV order (t+2) face:=by
 have h1:=fstO_mem (h.has _ face hf)
 have h2:=h.ord _ h1.1
 rw [pulS_two]
 unfold putL filL
 rw [List.flatMap_map]
 refine flat_congr fun g hg=>?_
 have hb:B64 g:=fun x hx=>by have:=(h.row _ g hg).2 x hx; omega
 have hw:wnB (setN face) (fstO order face).toNat (setN g)=tkB order face g:=by
  unfold wnB tkB
  have h3:(setN g).testBit (fstO order face).toNat=decide (fstO order face∈g):=by
   rw [Bool.eq_iff_iff,decide_eq_true_iff,setN_bit g _ hb,Int.toNat_of_nonneg h2.1]
  rw [h3,Bool.and_comm]
 simp only [hw]
set_option maxRecDepth 100000 in
set_option maxHeartbeats 1600000 in
theorem pull1_any (S g1 g2:Nat) (w:World) (hS:S < 1024) (hl:(memL S).length=1) :
  Calls Tryz.prog 62 #[.int .u64 (S:Int),.pointer (some ⟨g1,0,none⟩),.pointer (some ⟨g2,0,none⟩)] w fun e w'=>∃co cc,e=.returned (.agg #[.int .u64 (S:Int),.slice co 1 cc])∧Sl 0 70 w' (.slice co 1 cc) (u64s [S])∧Below w.heap.size w w':=by
 have HL:Hid (∀X,Calls Tryz.prog 63 #[.int .u64 (S:Int)] X fun e w'=>e=.returned (.int .i64 1)∧w'=X):=fun X=>by
  have h:=len10_any S hS X
  rw [hl] at h
  exact h
 go_enter Tryz.func62,Tryz.ntmps62
 go_wp2_with fail
 refine (HL.out _).mono ?_
 rintro e w1 ⟨rfl,rfl⟩
 go_wp2
 obtain ⟨W,hW⟩:∃W,W=((w.alloc (.cells #[.int .u64 (S:Int)] 70)).alloc (.cells #[.int .u64 (S:Int),.slice (some ⟨w.heap.size+1+1,0,none⟩) 1 1] 92)).alloc (.cells #[.int .u64 (S:Int)] 70):=⟨_,rfl⟩
 have g0:W.heap[w.heap.size+1]?=some (.cells #[.int .u64 (S:Int),.slice (some ⟨w.heap.size+1+1,0,none⟩) 1 1] 92 (0,0)):=by
  rw [hW,Below.heap_alloc _ _ _ (by simp)]
  exact (two_heapF w _ _).2
 have g1':W.heap[w.heap.size+1+1]?=some (.cells #[.int .u64 (S:Int)] 70 (0,0)):=by
  rw [hW]
  have:=alloc_at ((w.alloc (.cells #[.int .u64 (S:Int)] 70)).alloc (.cells #[.int .u64 (S:Int),.slice (some ⟨w.heap.size+1+1,0,none⟩) 1 1] 92)) (.cells #[.int .u64 (S:Int)] 70)
  simpa using this
 have hbe:Below w.heap.size w W:=by rw [hW]; exact (((Below.refl _ _).alloc (Nat.le_refl _) _).alloc (by simp) _).alloc (by simp; omega) _
 rw [←hW]
 clear hW
 refine bodyPost_ret (v:=.agg #[.int .u64 (S:Int),.slice (some ⟨w.heap.size+1+1,0,none⟩) 1 1]) (by simp [results,Tryz.results62,go_sem,World.cell?,g0]) rfl ?_
 refine ⟨_,_,rfl,Sl.own (B:=0) ⟨rfl,Or.inr ⟨w.heap.size+1+1,1,#[.int .u64 (S:Int)],rfl,Nat.zero_le _,g1',Nat.le_refl _,by unfold maxLen; omega,rfl,rfl⟩⟩,hbe⟩
set_option maxRecDepth 100000 in
set_option maxHeartbeats 3200000 in
theorem pullN_any {LV:Nat→List (List Int)} {order:List Int} {n:Nat} (h:LvO LV order n) (hn:n≤10) (t:Nat) (ht:t≤3) (face:List Int) (hf:face∈LV (t+2)) (hl:(memL (setN face)).length≠1) (g1 g2:Nat) (oo:Option Addr) (oc:Nat) (bv:Value) (w:World)
  (hO:Sl w.heap.size 3 w (.slice oo order.length oc) (ints order)) (hB:FlR w bv (filL LV order (t+1))) (c1:w.cell? ⟨g1,0,none⟩=some (.slice oo order.length oc)) (c2:w.cell? ⟨g2,0,none⟩=some bv) :
  Calls Tryz.prog 62 #[.int .u64 (setN face:Nat),.pointer (some ⟨g1,0,none⟩),.pointer (some ⟨g2,0,none⟩)] w fun e w'=>∃co cc,e=.returned (.agg #[.int .u64 (setN face:Nat),.slice co (pulS LV order (t+2) face).length cc])∧Sl 0 70 w' (.slice co (pulS LV order (t+2) face).length cc) (u64s (pulS LV order (t+2) face))∧Below w.heap.size w w':=by
 have hmem:=fstO_mem (h.has _ face hf)
 have hford:=h.ord _ hmem.1
 have hSlt:setN face < 1024:=setN_lt10 face fun x hx=>by have:=(h.row _ face hf).2 x hx; omega
 have hB64:B64 face:=fun x hx=>by have:=(h.row _ face hf).2 x hx; omega
 have hfl:(fstO order face).toNat < 10:=by omega
 have hpx:2 ^ (fstO order face).toNat < 1024:=Nat.lt_of_lt_of_le (Nat.pow_lt_pow_right (by decide) hfl) (by decide)
 have hpe:=put_pul h hn t face hf
 have hpS:∀g∈LV (t+1),∀c∈pulS LV order (t+1) g,c < 1024:=fun g hg c hc=>by
  rw [pul_same] at hc
  obtain ⟨l,hl,rfl⟩:=List.mem_map.1 hc
  exact setN_lt10 l fun x hx=>by have:=(pulD_mem h t g hg l hl).2 x hx; omega
 have hpl:∀g,(pulS LV order (t+1) g).length≤1099511627776:=fun g=>by
  rw [pul_same,List.length_map]
  exact Nat.le_trans (pulD_len LV order h.len t g) (Nat.le_trans (Nat.pow_le_pow_right (by decide) (show t≤4 by omega)) (by decide))
 obtain ⟨W,hW⟩:∃W,W=(w.alloc (.cells #[.int .u64 (setN face:Int)] 70)).alloc (.cells #[.int .u64 0,.slice none 0 0] 92):=⟨_,rfl⟩
 have hbw:Below w.heap.size w W:=by rw [hW]; exact ((Below.refl _ _).alloc (Nat.le_refl _) _).alloc (by simp) _
 have hsW:W.heap.size=w.heap.size+2:=by rw [hW]; simp
 have b0:W.heap[w.heap.size]?=some (.cells #[.int .u64 (setN face:Int)] 70 (0,0)):=by rw [hW]; exact (two_heapF _ _ _).1
 have b1:W.heap[w.heap.size+1]?=some (.cells #[.int .u64 0,.slice none 0 0] 92 (0,0)):=by rw [hW]; exact (two_heapF _ _ _).2
 have HCX:Hid (∀X,Below W.heap.size W X→X.cell? ⟨w.heap.size,0,none⟩=some (.int .u64 (setN face:Int))∧X.cell? ⟨g1,0,none⟩=some (.slice oo order.length oc)∧X.cell? ⟨g2,0,none⟩=some bv∧X.heap[w.heap.size+1]?=some (.cells #[.int .u64 0,.slice none 0 0] 92 (0,0))):=fun X hX=>by
  have q0:=(hX.block _ (by omega)).trans b0
  have hwX:=hbw.trans (hX.mono (by omega))
  exact ⟨by simp [World.cell?,q0],(hwX.cell (lt_of_cell c1)).trans c1,(hwX.cell (lt_of_cell c2)).trans c2,(hX.block _ (by omega)).trans b1⟩
 have HLN:Hid (∀X,Calls Tryz.prog 63 #[.int .u64 (setN face:Nat)] X fun e w'=>e=.returned (.int .i64 (memL (setN face)).length)∧w'=X):=fun X=>len10_any (setN face) hSlt X
 have HFO:Hid (∀X,Below W.heap.size W X→Calls Tryz.prog 64 #[.int .u64 (setN face:Nat),.slice oo order.length oc] X fun e w'=>e=.returned (.int .u64 ((2 ^ (fstO order face).toNat:Nat):Int))∧Below X.heap.size X w'):=fun X hX=>
  firstOf_any order face _ X ((hO.below (hbw.trans (hX.mono (by omega))) (Nat.le_refl _)).any (Nat.le_refl _)) (fun x hx=>by have:=h.ord x hx; omega) hB64 (h.has _ face hf)
 have HPT:Hid (∀X gf,Below W.heap.size W X→X.cell? ⟨gf,0,none⟩=some (.int .u64 ((2 ^ (fstO order face).toNat:Nat):Int))→Calls Tryz.prog 66 #[.int .u64 ((2 ^ (fstO order face).toNat:Nat):Int),bv,.func (.func 65) #[] #[.pointer (some ⟨w.heap.size,0,none⟩),.pointer (some ⟨gf,0,none⟩)]] X fun e w'=>∃xo xc,e=.returned (.slice xo (pulS LV order (t+2) face).length xc)∧Sl 0 70 w' (.slice xo (pulS LV order (t+2) face).length xc) (u64s (pulS LV order (t+2) face))∧Below X.heap.size X w'):=fun X gf hX hgf=>by
  have hwX:=hbw.trans (hX.mono (by omega))
  refine (putToCells_any (2 ^ (fstO order face).toNat) (setN face) (fstO order face).toNat w.heap.size gf (filL LV order (t+1)) bv X (hB.low hwX) ?_ hpx hSlt (by omega) (HCX.out X hX).1 hgf ?_ ?_ ?_).mono ?_
  ·intro q hq
   obtain ⟨g,hg,rfl⟩:=List.mem_map.1 hq
   exact ⟨setN_lt10 g fun x hx=>by have:=(h.row _ g hg).2 x hx; omega,hpS g hg⟩
  ·unfold filL
   rw [List.length_map]
   exact h.len (t+1)
  ·intro q hq
   obtain ⟨g,hg,rfl⟩:=List.mem_map.1 hq
   exact hpl g
  ·intro i
   unfold putL
   refine Nat.le_trans (flat_len _ (1024 ^ t) _ fun q hq=>?_) ?_
   ·split
    ·obtain ⟨g,hg,rfl⟩:=List.mem_map.1 (List.mem_of_mem_take hq)
     rw [List.length_map,pul_same,List.length_map]
     exact pulD_len LV order h.len t g
    ·simp
   ·have e1:((filL LV order (t+1)).take i).length≤1024:=Nat.le_trans (by rw [List.length_take]; exact Nat.min_le_right _ _) (by unfold filL; rw [List.length_map]; exact h.len (t+1))
    have e2:1024 ^ t≤1024 ^ 3:=Nat.pow_le_pow_right (by decide) ht
    exact Nat.le_trans (Nat.mul_le_mul e1 e2) (by decide)
  ·rw [hpe]
   rintro e w' ⟨xo,xc,rfl,ho,hb⟩
   exact ⟨xo,xc,rfl,Sl.own ho,hb⟩
 obtain ⟨bo,bl,bc,hbv⟩:∃bo bl bc,bv=.slice bo bl bc:=by
  obtain ⟨ao,cap,hv,_⟩:=hB
  exact ⟨_,_,_,hv⟩
 subst hbv
 have HW:Hid (Below w.heap.size w W):=hbw
 have hg2:g2 < w.heap.size:=lt_of_cell c2
 generalize hml:(memL (setN face)).length=ml at *
 have tml:((ml:Int) == 1)=false:=by simp; omega
 clear hO hB c1 c2 hbw b0 b1 hpe hpS hpl hmem hford hB64 hfl hpx hml hl
 generalize pulS LV order (t+2) face=cs at *
 generalize (2 ^ (fstO order face).toNat:Nat)=px at *
 generalize setN face=S at *
 obtain ⟨k0,k1,k2,k3⟩:=HCX.out W (Below.refl _ _)
 clear k3
 go_enter Tryz.func62,Tryz.ntmps62
 go_upto_region 1 with fail
 rw [←hW]
 clear hW
 go_wp2_with fail
 refine (HLN.out W).mono ?_
 rintro e w1 ⟨rfl,rfl⟩
 go_wp2_with fail
 refine (HFO.out w1 (Below.refl _ _)).mono ?_
 rintro e w2 ⟨rfl,hb2⟩
 have HB2:Hid (Below w1.heap.size w1 w2):=hb2
 obtain ⟨W3,hW3⟩:∃W3,W3=w2.alloc (.cells #[.int .u64 (px:Int)] 70):=⟨_,rfl⟩
 have hb3:Below w1.heap.size w1 W3:=by rw [hW3]; exact hb2.alloc hb2.size _
 have HB3:Hid (Below w1.heap.size w1 W3):=hb3
 have kf:W3.cell? ⟨w2.heap.size,0,none⟩=some (.int .u64 (px:Int)):=by rw [hW3]; simp
 have HKF:Hid (W3.cell? ⟨w2.heap.size,0,none⟩=some (.int .u64 (px:Int))):=kf
 clear hb2 hb3 k0 k1 k2 kf
 go_upto_region 5 with fail
 rw [←hW3]
 clear hW3
 obtain ⟨WD,hWD⟩:∃WD,WD=W3.drew:=⟨_,rfl⟩
 have HBD:Hid (Below W3.heap.size W3 WD):=by rw [hWD]; exact (Below.refl _ _).drew
 have HSS:Hid (∀X,Below W3.heap.size W3 X→X.cell? ⟨w.heap.size,0,none⟩=some (.int .u64 (S:Int))∧X.cell? ⟨w2.heap.size,0,none⟩=some (.int .u64 (px:Int))∧X.cell? ⟨g2,0,none⟩=some (.slice bo bl bc)):=fun X hX=>by
  have hc:=HCX.out X (HB3.out.trans (hX.mono HB3.out.size))
  exact ⟨hc.1,(hX.cell (lt_of_cell HKF.out)).trans HKF.out,hc.2.2.1⟩
 have S0:=HSS.out WD HBD.out
 rw [hWD] at S0
 refine wp_region_held_drew (S:=fun X=>X.cell? ⟨w.heap.size,0,none⟩=some (.int .u64 (S:Int))∧X.cell? ⟨w2.heap.size,0,none⟩=some (.int .u64 (px:Int))∧X.cell? ⟨g2,0,none⟩=some (.slice bo bl bc)) (by kernel_rfl) S0 (fun hHeld=>?_)
 rw [←hWD] at hHeld ⊢
 clear hWD S0
 refine wpAnyH_tk (i:=0) (d:=18) (v:=.int .u64 (S:Int)) rfl rfl (by kernel_rfl) (by kernel_rfl) (by kernel_rfl) (fun _ _ _ h=>h) (.inl ⟨by rfl,by (intro wq hSw; (try dsimp only at hSw); go_simp; (try (first | rfl | omega)))⟩) hHeld ?_
 simp only [Act.put,List.setIfInBounds_toArray,List.set_cons_zero,List.set_cons_succ]
 refine wpAnyH_tk (i:=1) (d:=19) (v:=.int .u64 (px:Int)) rfl rfl (by kernel_rfl) (by kernel_rfl) (by kernel_rfl) (fun _ _ _ h=>h) (.inl ⟨by rfl,by (intro wq hSw; (try dsimp only at hSw); go_simp; (try (first | rfl | omega)))⟩) hHeld ?_
 simp only [Act.put,List.setIfInBounds_toArray,List.set_cons_zero,List.set_cons_succ]
 refine wpAnyH_tk (i:=2) (d:=20) (v:=.slice bo bl bc) rfl rfl (by kernel_rfl) (by kernel_rfl) (by kernel_rfl) (fun _ _ _ h=>h) (.inl ⟨by rfl,by (intro wq hSw; (try dsimp only at hSw); go_simp; (try (first | rfl | omega)))⟩) hHeld ?_
 simp only [Act.put,List.setIfInBounds_toArray,List.set_cons_zero,List.set_cons_succ]
 refine wpAnyH_tk (i:=3) (d:=21) (v:=.func (.func 65) #[] #[.pointer (some ⟨w.heap.size,0,none⟩),.pointer (some ⟨w2.heap.size,0,none⟩)]) rfl rfl (by kernel_rfl) (by kernel_rfl) (by kernel_rfl) (fun _ _ _ h=>h) (.inl ⟨by rfl,by (intro wq hSw; (try dsimp only at hSw); go_simp; (try (first | rfl | omega)))⟩) hHeld ?_
 simp only [Act.put,List.setIfInBounds_toArray,List.set_cons_zero,List.set_cons_succ]
 refine wpAnyH_ready (rs:=[4]) (by kernel_rfl) (by simp) ?_
 refine ready_tk (i:=4) rfl (by rfl) (fun K hK=>?_) AllReadyH.nil
 go_simp
 refine (HPT.out WD w2.heap.size (HB3.out.trans (HBD.out.mono HB3.out.size)) (HSS.out WD HBD.out).2.1).mono ?_
 rintro e WE ⟨xo,xc,rfl,hsl,hbe⟩
 have HSL:Hid (Sl 0 70 WE (.slice xo cs.length xc) (u64s cs)):=hsl
 have HBE:Hid (Below W3.heap.size W3 WE):=HBD.out.trans (hbe.mono HBD.out.size)
 refine hK.out _ _ (HSS.out WE HBE.out) (fun hHeld=>?_)
 clear hK K hsl hbe
 try simp only [Act.put,List.setIfInBounds_toArray,List.set_cons_zero,List.set_cons_succ]
 refine wpAnyH_tk (i:=5) (d:=23) (v:=.agg #[.int .u64 (S:Int),.slice xo cs.length xc]) rfl rfl (by kernel_rfl) (by kernel_rfl) (by kernel_rfl) (fun _ _ _ h=>h) (.inl ⟨by rfl,by (intro wq hSw; (try dsimp only at hSw); go_simp; (try (first | rfl | omega)))⟩) hHeld ?_
 simp only [Act.put,List.setIfInBounds_toArray,List.set_cons_zero,List.set_cons_succ]
 have hbE:=(HCX.out WE (HB3.out.trans (HBE.out.mono HB3.out.size))).2.2.2
 have cE0:WE.cell? ⟨w.heap.size+1,0,none⟩=some (.int .u64 0):=by simp [World.cell?,hbE]
 have cE1:WE.cell? ⟨w.heap.size+1,1,none⟩=some (.slice none 0 0):=by simp [World.cell?,hbE]
 have fE0:WE.frozen? ⟨w.heap.size+1,0,none⟩=false:=by simp [World.frozen?,hbE]
 have fE1:WE.frozen? ⟨w.heap.size+1,1,none⟩=false:=by simp [World.frozen?,hbE]
 refine wpAnyH_ready (rs:=[6]) (by kernel_rfl) (by simp) ?_
 refine ready_tk (i:=6) rfl (by rfl) (fun K hK=>?_) AllReadyH.nil
 go_simp
 obtain ⟨WF,hWF⟩:∃WF,WF=(WE.setCell ⟨w.heap.size+1,0,none⟩ (.int .u64 (S:Int))).setCell ⟨w.heap.size+1,1,none⟩ (.slice xo cs.length xc):=⟨_,rfl⟩
 have gF:WF.heap[w.heap.size+1]?=some (.cells #[.int .u64 (S:Int),.slice xo cs.length xc] 92 (0,0)):=by
  rw [hWF]
  simp [World.setCell,Array.getElem?_modify,hbE]
 have gO:∀b,b≠w.heap.size+1→WF.heap[b]?=WE.heap[b]?:=fun b hb=>by
  rw [hWF,Below.heap_setCell _ _ _ _ hb,Below.heap_setCell _ _ _ _ hb]
 have hbF:Below w.heap.size w WF:=by
  have h1:=HW.out.trans ((HB3.out.trans (HBE.out.mono HB3.out.size)).mono (by omega))
  rw [hWF]
  exact (h1.setCell (by exact Nat.le_succ _) _).setCell (by exact Nat.le_succ _) _
 have hslF:Sl 0 70 WF (.slice xo cs.length xc) (u64s cs):=HSL.out.move fun b hl ht=>⟨gO b fun e=>by
  subst e
  rcases ht with ht | ⟨c,ht⟩
  ·omega
  ·rw [hbE] at ht; simp at ht,ht⟩
 have hcF:∀b i,b≠w.heap.size+1→WF.cell? ⟨b,i,none⟩=WE.cell? ⟨b,i,none⟩:=fun b i hb=>by simp [World.cell?,gO b hb]
 have hsz2:w.heap.size+2≤w2.heap.size:=by have:=HB2.out.size; omega
 have HSF:Hid (WF.cell? ⟨w.heap.size,0,none⟩=some (.int .u64 (S:Int))∧WF.cell? ⟨w2.heap.size,0,none⟩=some (.int .u64 (px:Int))∧WF.cell? ⟨g2,0,none⟩=some (.slice bo bl bc)):=by
  have h0:=HSS.out WE HBE.out
  rw [hcF _ _ (by omega),hcF _ _ (by omega),hcF _ _ (by omega)]
  exact h0
 have HFIN:Hid (Sl 0 70 WF (.slice xo cs.length xc) (u64s cs)∧Below w.heap.size w WF):=⟨hslF,hbF⟩
 rw [←hWF]
 refine hK.out _ _ HSF.out (fun hHeld=>?_)
 clear hK K hWF hslF hbF hcF gO cE0 cE1 fE0 fE1 hbE
 refine wpAnyH_done (by kernel_rfl) ?_ _
 clear hHeld
 go_wp2
 refine bodyPost_ret (v:=.agg #[.int .u64 (S:Int),.slice xo cs.length xc]) (by simp [results,Tryz.results62,go_sem,World.cell?,gF]) rfl ?_
 exact ⟨xo,xc,rfl,HFIN.out.1,HFIN.out.2⟩
end Go.Proofs.YtdanomklbiidaaaGreatDoor
