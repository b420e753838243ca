import Derived.Test.YtadpjlpdfimaeaaGreatDoorFc5
import Derived.Test.YtadpjlpdfimaeaaGreatDoorMgBH
import Derived.Test.YtadpjlpdfimaeaaGreatDoorMgBD
import Derived.Test.YtadpjlpdfimaeaaGreatDoorMgBF
import Derived.Test.YtadpjlpdfimaeaaGreatDoorMgAE
namespace Go.Proofs.YtadpjlpdfimaeaaGreatDoor
open Go.RowKit Lin
attribute [local go_sem ↓] Go.wp_at_zero Go.wp_at_succ
set_option maxRecDepth 100000 in
set_option maxHeartbeats 800000 in
theorem all10_any (d n:Nat) (co:Option Addr) (cc:Nat) (rv sv:Value) (w:World) (hn:n≤10) :
  Calls Tryz.prog 65 #[.agg #[.int .i64 d,.slice co n cc,rv,sv]] w fun e w'=>e=.returned (.int .u64 ((2 ^ n-1:Nat):Int))∧Below w.heap.size w w':=by
 obtain ⟨W,hW⟩:∃W,W=w.alloc (.cells #[.int .i64 d,.slice co n cc,rv,sv] 61):=⟨_,rfl⟩
 have HB:Hid (Below w.heap.size w W):=by rw [hW]; exact alloc_keep _ _
 have hb0:W.heap[w.heap.size]?=some (.cells #[.int .i64 d,.slice co n cc,rv,sv] 61 (0,0)):=by rw [hW]; exact alloc_at _ _
 have c1:W.cell? ⟨w.heap.size,1,none⟩=some (.slice co n cc):=by simp [World.cell?,hb0]
 clear hb0
 have hx:∃q:Int,q=((2 ^ n-1:Nat):Int):=⟨_,rfl⟩
 obtain ⟨q,hq⟩:=hx
 rw [←hq]
 have h11:n=0∨n=1∨n=2∨n=3∨n=4∨n=5∨n=6∨n=7∨n=8∨n=9∨n=10:=by omega
 go_enter Tryz.func65,Tryz.ntmps65
 go_upto_region 1 with fail
 rw [←hW]
 clear hW
 rcases h11 with rfl | rfl | rfl | rfl | rfl | rfl | rfl | rfl | rfl | rfl | rfl
 all_goals (have hq2:=hq; simp at hq2; subst hq2; clear hq)
 all_goals go_wp2
 all_goals go_ret
 all_goals exact ⟨rfl,HB.out⟩
theorem plF {α:Type} (a:Array α) (x:α) (i:Nat) (h:i < a.size):(a.push x)[i]?=a[i]?:=by
 rw [Array.getElem?_push,if_neg (by omega)]
theorem pnF {α:Type} (a:Array α) (x:α) (i:Nat) (h:i=a.size):(a.push x)[i]?=some x:=by
 subst h
 simp
theorem six_heapF (w:World) (o1 o2 o3 o4 o5 o6:Obj) (b:Nat) (hb:b=w.heap.size) (W:World) (hW:W=(((((w.alloc o1).alloc o2).alloc o3).alloc o4).alloc o5).alloc o6) :
  W.heap[b]?=some o1∧W.heap[b+1]?=some o2∧W.heap[b+2]?=some o3∧W.heap[b+3]?=some o4∧W.heap[b+4]?=some o5∧W.heap[b+5]?=some o6∧W.heap.size=b+6:=by
 have hh:W.heap=(((((w.heap.push o1).push o2).push o3).push o4).push o5).push o6:=by rw [hW]; rfl
 rw [hh]
 subst hb
 refine ⟨?_,?_,?_,?_,?_,?_,by simp only [Array.size_push]⟩
 ·rw [plF _ _ _ (by simp only [Array.size_push]; omega),plF _ _ _ (by simp only [Array.size_push]; omega),plF _ _ _ (by simp only [Array.size_push]; omega),plF _ _ _ (by simp only [Array.size_push]; omega),plF _ _ _ (by simp only [Array.size_push]; omega),pnF _ _ _ rfl]
 ·rw [plF _ _ _ (by simp only [Array.size_push]; omega),plF _ _ _ (by simp only [Array.size_push]; omega),plF _ _ _ (by simp only [Array.size_push]; omega),plF _ _ _ (by simp only [Array.size_push]; omega),pnF _ _ _ (by simp only [Array.size_push])]
 ·rw [plF _ _ _ (by simp only [Array.size_push]; omega),plF _ _ _ (by simp only [Array.size_push]; omega),plF _ _ _ (by simp only [Array.size_push]; omega),pnF _ _ _ (by simp only [Array.size_push])]
 ·rw [plF _ _ _ (by simp only [Array.size_push]; omega),plF _ _ _ (by simp only [Array.size_push]; omega),pnF _ _ _ (by simp only [Array.size_push])]
 ·rw [plF _ _ _ (by simp only [Array.size_push]; omega),pnF _ _ _ (by simp only [Array.size_push])]
 ·rw [pnF _ _ _ (by simp only [Array.size_push])]
theorem made_nils (n:Nat):madeCells #[.slice none 0 0] n=(List.replicate n (Value.slice none 0 0)).toArray:=by
 rw [←toList_madeCells_one]
theorem LvI.start (w:World) (d:Nat) (C:List (List Int)) (cs rv sv:Value) (W:World) (b:Nat) (hb:b=w.heap.size)
  (hW:W=(((((w.alloc (.cells #[.int .i64 d,cs,rv,sv] 61)).alloc (.cells (madeCells #[.slice none 0 0] (d+2)) 47)).alloc (.cells #[.slice (some ⟨b+1,0,none⟩) (d+2) (d+2)] 64)).alloc (.map #[] 0)).alloc (.cells #[.map (some (b+3))] 98)).alloc (.cells #[.func (.func 63) #[] (seA b)] 99)) :
  LvI w b d C cs rv sv [] [] W:=by
 obtain ⟨q1,q2,q3,q4,q5,q6,q7⟩:=six_heapF w _ _ _ _ _ _ b hb W hW
 have hB:Below w.heap.size w W:=by
  rw [hW]
  exact ((((((Below.refl _ _).alloc (Nat.le_refl _) _).alloc (by simp) _).alloc (by simp; omega) _).alloc (by simp; omega) _).alloc (by simp; omega) _).alloc (by simp; omega) _
 have hmp:W.ownsMap Tryz.prog 50 (plainElem (H:=Unit) Tryz.prog 3) (b+3) 0 (.map []):=by
  rw [hW]
  refine World.ownsMap.alloc (World.ownsMap.alloc ?_ _) _
  have:=World.ownsMap_made (((w.alloc (.cells #[.int .i64 d,cs,rv,sv] 61)).alloc (.cells (madeCells #[.slice none 0 0] (d+2)) 47)).alloc (.cells #[.slice (some ⟨b+1,0,none⟩) (d+2) (d+2)] 64)) Tryz.prog 50 (plainElem (H:=Unit) Tryz.prog 3)
  simp only [World.size_alloc] at this
  rw [←hb] at this
  exact this
 refine ⟨by omega,hB,by omega,q1,q3,q5,q6,⟨.map [],hmp,fun x=>⟨by simp [Maps.has],fun h=>by simp at h⟩⟩,List.replicate (d+2) (.slice none 0 0),by simp,by rw [←made_nils]; exact q2,fun t ht=>?_,fun s t hs ht _ x hx=>?_⟩
 ·have e:(List.replicate (d+2) (Value.slice none 0 0)).getD t undef=.slice none 0 0:=by simp [ht]
  rw [e]
  exact World.ownsRow_nil _ _ _ _
 ·have e:(List.replicate (d+2) (Value.slice none 0 0)).getD s undef=.slice none 0 0:=by simp [hs]
  rw [e] at hx
  simp [Value.ownBlock] at hx
set_option maxRecDepth 100000 in
set_option maxHeartbeats 1600000 in
theorem levels_any (d:Nat) (C:List (List Int)) (co:Option Addr) (cc:Nat) (rv:Value) (so:Option Addr) (sc:Nat) (S:List Nat) (w:World) (hC:Mat w.heap.size 22 3 w (.slice co C.length cc) C) (hbx:Box d 30 C) (h1:1≤d) (h4:d≤4) (hn:C.length≤10) (hT:TabB w) (hS:Sl w.heap.size 50 w (.slice so S.length sc) (u64s S)) (hS1:∀t∈S,t < 1024) (hSl:S.length≤5000) :
  Calls Tryz.prog 33 #[.agg #[.int .i64 d,.slice co C.length cc,rv,.slice so S.length sc]] w fun e w'=>e=.returned (.slice (some ⟨w.heap.size+1,0,none⟩) (d+2) (d+2))∧∃A,SeeW w w.heap.size d C co cc rv so sc S A w'∧SeeP S (2 ^ C.length-1) [] A:=by
 have hmm:=@run_makeMap Tryz.prog
 have hmk:∀w:World,(Instr.makeSlice 64 (.int .i64 ((d:Int)+2)) (.int .i64 ((d:Int)+2))).run Tryz.prog w=.ok (.slice (some ⟨w.heap.size,0,none⟩) (d+2) (d+2)) (w.alloc (.cells (madeCells #[.slice none 0 0] (d+2)) 47)):=fun w=>by
  have h:=run_make_row' (P:=Tryz.prog) 64 47 (.slice none 0 0) 24 (by kernel_rfl) (by kernel_rfl) rfl .i64 .i64 (d+2) (by omega) (by omega) w
  rw [show ((d+2:Nat):Int)=(d:Int)+2 by omega] at h
  exact h
 obtain ⟨W,hW⟩:∃W,W=(((((w.alloc (.cells #[.int .i64 d,.slice co C.length cc,rv,.slice so S.length sc] 61)).alloc (.cells (madeCells #[.slice none 0 0] (d+2)) 47)).alloc (.cells #[.slice (some ⟨w.heap.size+1,0,none⟩) (d+2) (d+2)] 64)).alloc (.map #[] 0)).alloc (.cells #[.map (some (w.heap.size+1+1+1))] 98)).alloc (.cells #[.func (.func 63) #[] #[.pointer (some ⟨w.heap.size+1+1+1+1,0,none⟩),.pointer (some ⟨w.heap.size,0,none⟩),.pointer (some ⟨w.heap.size+1+1,0,none⟩),.pointer (some ⟨w.heap.size+1+1+1+1+1,0,none⟩)]] 99):=⟨_,rfl⟩
 have HI:Hid (LvI w w.heap.size d C (.slice co C.length cc) rv (.slice so S.length sc) [] [] W):=LvI.start w d C _ rv _ W w.heap.size rfl hW
 have HALL:Hid (∀X,Calls Tryz.prog 65 #[.agg #[.int .i64 d,.slice co C.length cc,rv,.slice so S.length sc]] X fun e w'=>e=.returned (.int .u64 ((2 ^ C.length-1:Nat):Int))∧Below X.heap.size X w'):=fun X=>all10_any d C.length co cc rv _ X hn
 have HSEE:Hid (∀X,LvI w w.heap.size d C (.slice co C.length cc) rv (.slice so S.length sc) [] [] X→Calls Tryz.prog 63 #[.int .u64 ((2 ^ C.length-1:Nat):Int),.pointer (some ⟨w.heap.size+4,0,none⟩),.pointer (some ⟨w.heap.size,0,none⟩),.pointer (some ⟨w.heap.size+2,0,none⟩),.pointer (some ⟨w.heap.size+5,0,none⟩)] X fun e w'=>e=.returned (.tuple #[])∧∃A',SeeW w w.heap.size d C co cc rv so sc S A' w'∧SeeP S (2 ^ C.length-1) [] A'):=fun X hX=>
  see_any w w.heap.size d C co cc rv so sc S hC hbx h1 h4 hn hT hS hS1 hSl _ (2 ^ C.length-1) [] X (Nat.lt_succ_self _) (by have:0 < 2 ^ C.length:=Nat.pow_pos (by decide); omega) ⟨hX,List.nodup_nil,fun g hg=>by simp at hg⟩
 have HBOX:Hid (∀M A' X,LvI w w.heap.size d C (.slice co C.length cc) rv (.slice so S.length sc) M A' X→(X.cell? ⟨w.heap.size+1+1+1+1+1,0,none⟩=some (.func (.func 63) #[] #[.pointer (some ⟨w.heap.size+4,0,none⟩),.pointer (some ⟨w.heap.size,0,none⟩),.pointer (some ⟨w.heap.size+2,0,none⟩),.pointer (some ⟨w.heap.size+5,0,none⟩)])∧X.cell? ⟨w.heap.size,0,none⟩=some (.int .i64 d)∧X.cell? ⟨w.heap.size,1,none⟩=some (.slice co C.length cc)∧X.cell? ⟨w.heap.size,2,none⟩=some rv∧X.cell? ⟨w.heap.size,3,none⟩=some (.slice so S.length sc))∧X.cell? ⟨w.heap.size+1+1,0,none⟩=some (.slice (some ⟨w.heap.size+1,0,none⟩) (d+2) (d+2))):=fun M A' X h=>by
  have q2:=h.bd
  have q3:=h.ob
  have q4:=h.fb
  exact ⟨⟨by show X.cell? ⟨w.heap.size+5,0,none⟩=_; simp [World.cell?,q4,seA],by simp [World.cell?,q2],by simp [World.cell?,q2],by simp [World.cell?,q2],by simp [World.cell?,q2]⟩,by show X.cell? ⟨w.heap.size+2,0,none⟩=_; simp [World.cell?,q3]⟩
 generalize 2 ^ C.length-1=F at *
 clear hC hbx hT hS hS1
 go_enter Tryz.func33,Tryz.ntmps33
 go_upto_region 5 with fail
 rw [←hW]
 clear hW hmm hmk
 obtain ⟨cs0,cs1⟩:=HBOX.out _ _ _ HI.out
 refine wp_region_held_drew (S:=fun X=>X.cell? ⟨w.heap.size+1+1+1+1+1,0,none⟩=some (.func (.func 63) #[] #[.pointer (some ⟨w.heap.size+4,0,none⟩),.pointer (some ⟨w.heap.size,0,none⟩),.pointer (some ⟨w.heap.size+2,0,none⟩),.pointer (some ⟨w.heap.size+5,0,none⟩)])∧X.cell? ⟨w.heap.size,0,none⟩=some (.int .i64 d)∧X.cell? ⟨w.heap.size,1,none⟩=some (.slice co C.length cc)∧X.cell? ⟨w.heap.size,2,none⟩=some rv∧X.cell? ⟨w.heap.size,3,none⟩=some (.slice so S.length sc)) (by kernel_rfl) cs0 (fun hHeld=>?_)
 clear cs0 cs1
 refine wpAnyH_tk (i:=0) (d:=12) (v:=(.func (.func 63) #[] #[.pointer (some ⟨w.heap.size+4,0,none⟩),.pointer (some ⟨w.heap.size,0,none⟩),.pointer (some ⟨w.heap.size+2,0,none⟩),.pointer (some ⟨w.heap.size+5,0,none⟩)])) rfl rfl (by kernel_rfl) (by kernel_rfl) (by kernel_rfl) (fun _ _ _ h=>h) (.inl ⟨by rfl,by (intro wq hSw; (try dsimp only at hSw); go_simp; (try (first | rfl | omega)))⟩) hHeld ?_
 simp only [Act.put,List.setIfInBounds_toArray,List.set_cons_zero,List.set_cons_succ]
 refine wpAnyH_tk (i:=1) (d:=13) (v:=(.agg #[.int .i64 d,.slice co C.length cc,rv,.slice so S.length sc])) rfl rfl (by kernel_rfl) (by kernel_rfl) (by kernel_rfl) (fun _ _ _ h=>h) (.inl ⟨by rfl,by (intro wq hSw; (try dsimp only at hSw); go_simp; (try (first | rfl | omega)))⟩) hHeld ?_
 simp only [Act.put,List.setIfInBounds_toArray,List.set_cons_zero,List.set_cons_succ]
 refine wpAnyH_ready (rs:=[2]) (by kernel_rfl) (by simp) ?_
 refine ready_tk (i:=2) rfl (by rfl) (fun K hK=>?_) AllReadyH.nil
 go_simp
 refine (HALL.out W.drew).mono ?_
 rintro e w3 ⟨rfl,hb3⟩
 have HI3:Hid (LvI w w.heap.size d C (.slice co C.length cc) rv (.slice so S.length sc) [] [] w3):=HI.out.below ((Below.drew (Below.refl W.heap.size W)).trans hb3)
 clear hb3
 refine hK.out _ _ (HBOX.out _ _ _ HI3.out).1 (fun hHeld=>?_)
 clear hK K
 refine wpAnyH_ready (rs:=[3]) (by kernel_rfl) (by simp) ?_
 refine ready_tk (i:=3) rfl (by rfl) (fun K hK=>?_) AllReadyH.nil
 go_simp
 refine (HSEE.out w3 HI3.out).mono ?_
 rintro e w4 ⟨rfl,A,hW4,hP4⟩
 have HF:Hid (∃A,SeeW w w.heap.size d C co cc rv so sc S A w4∧SeeP S F [] A):=⟨A,hW4,hP4⟩
 obtain ⟨cs0,cs1⟩:=HBOX.out _ _ _ hW4.i
 clear hW4 hP4
 refine hK.out _ _ cs0 (fun hHeld=>?_)
 clear hK K cs0
 refine wpAnyH_done (by kernel_rfl) ?_ _
 clear hHeld
 go_wp2
 go_ret
 exact ⟨rfl,HF.out⟩
end Go.Proofs.YtadpjlpdfimaeaaGreatDoor

namespace Go.Proofs.YtadpjlpdfimaeaaGreatDoor
open Go.RowKit Lin
attribute [local go_sem ↓] Go.wp_at_zero Go.wp_at_succ
set_option maxRecDepth 100000 in
set_option maxHeartbeats 1600000 in
theorem told_any (B:Nat) (A:List Nat) (v:Value) (w:World) (hv:Sl B 50 w v (u64s A)) (hA:∀x∈A,x < 1024) (hl:A.length≤5000) (hT:TabB w) :
  Calls Tryz.prog 34 #[v] w fun e w'=>∃u m',e=.returned u∧Fr w.heap.size 22 3 w' u m'∧Inor m' (A.map memL)∧Below w.heap.size w w':=by
 obtain ⟨i0,hi0,hz0,hz1,hz2⟩:=info_parts Tryz.info22
 have hv0:=hv
 obtain ⟨ao,cap,hvv,hlc,hcm,_,_⟩:=hv0
 rw [u64s_len] at hvv hlc
 subst hvv
 have HV:Hid (∀W k,Below w.heap.size w W→k < A.length→∃b o,ao=some ⟨b,o,none⟩∧W.cell? ⟨b,o+k,none⟩=some (.int .u64 ((A.getD k 0:Nat):Int))):=fun W k hb hk=>by
  obtain ⟨ao2,c2,e2,_,_,h5,_⟩:=(hv.below hb (Nat.le_refl _))
  simp only [Value.slice.injEq] at e2
  obtain ⟨b,o,e3,h6,_⟩:=h5 k (by rw [u64s_len]; exact hk)
  refine ⟨b,o,e2.1.trans e3,?_⟩
  rw [h6]
  simp [u64s,hk]
 have HLI:Hid (∀W k,Below w.heap.size w W→k < A.length→Calls Tryz.prog 21 #[.int .u64 ((A.getD k 0:Nat):Int)] W fun e w'=>∃uo uc,e=.returned (.slice uo (memL (A.getD k 0)).length uc)∧Sl 0 3 w' (.slice uo (memL (A.getD k 0)).length uc) (ints (memL (A.getD k 0)))∧Below W.heap.size W w'):=fun W k hb hk=>by
  refine (list10_any (A.getD k 0) (hA _ (by simp [hk])) W (hT.below hb)).mono ?_
  rintro e w' ⟨u,rfl,h1,h2⟩
  obtain ⟨uo,uc,rfl⟩:=owns_form h1
  exact ⟨uo,uc,rfl,Sl.own h1,h2⟩
 have HTK:Hid (∀k,k < A.length→(A.take (k+1)).map memL=(A.take k).map memL ++ [memL (A.getD k 0)]):=fun k hk=>by
  rw [List.take_succ_eq_append_getElem hk,List.map_append]
  simp [hk]
 have HAL:Hid ((A.take A.length).map memL=A.map memL):=by show _=_; rw [List.take_length]
 clear hv hT hA
 go_enter Tryz.func34,Tryz.ntmps34
 go_wp2
 go_loopw [3,5,8] (fun x _ i wr=>∃k:Nat,k≤A.length∧i=.int .i64 (k:Int)∧Fr w.heap.size 22 3 wr x ((A.take k).map memL)∧Below w.heap.size w wr) (fun _ _ i _=>A.length-(intOf i).toNat)
 case atStart=>exact ⟨0,Nat.zero_le _,rfl,⟨[],rfl,World.ownsRow_nil _ _ _ _,fun i hi=>by simp at hi⟩,Below.refl _ _⟩
 case round=>
  obtain ⟨k,hk,rfl,hf,hb⟩:=hrel
  obtain ⟨wa,rfl⟩:∃wa,wa=wr:=⟨wr,rfl⟩
  have HB:Hid (Below w.heap.size w wa):=hb
  have hkl:((A.take k).map memL).length=k:=by simp; omega
  have hform:=fr_open hf
  rw [hkl] at hform
  obtain ⟨xo,xc,hx,_,_⟩:=hform
  subst hx
  have HF:Hid (Fr w.heap.size 22 3 wa (.slice xo k xc) ((A.take k).map memL)):=hf
  have HKL:Hid (((A.take k).map memL).length=k):=hkl
  clear hf hb hkl
  by_cases hlt:k < A.length
  ·obtain ⟨b,o,hao,hcc⟩:=HV.out wa k HB.out hlt
   have H2:=HLI.out wa k HB.out hlt
   have hT2:=HTK.out k hlt
   have HT2:Hid ((A.take (k+1)).map memL=(A.take k).map memL ++ [memL (A.getD k 0)]):=hT2
   have hkI:(k:Int) < (A.length:Int):=by omega
   subst hao
   clear HV HLI hT2 HTK HAL
   generalize A.getD k 0=x at *
   go_wp2_with fail
   refine H2.mono ?_
   rintro e w2 ⟨uo,uc,rfl,hu,hb2⟩
   obtain ⟨vs,f1,f2,f3⟩:=HF.out.below hb2 (Nat.le_refl _)
   rw [HKL.out] at f1 f2
   have HO:Hid (w2.ownsRow w.heap.size 22 1 (.slice xo k xc) k vs):=f2
   have HB2:Hid (Below w.heap.size w w2):=HB.out.trans (hb2.mono HB.out.size)
   have HPU:Hid (∀v' w3,w3.ownsRow w.heap.size 22 1 v' (k+1) (vs ++ [.slice uo (memL x).length uc])→(w2.alloc (.cells #[.slice uo (memL x).length uc] 22)).grownBy w3 (Value.slice xo k xc).ownBlock→Fr w.heap.size 22 3 w3 v' ((A.take (k+1)).map memL)):=fun v' w3 ho hg=>by
    rw [HT2.out]
    exact Fr.push (m:=(A.take k).map memL) (by decide) (by rw [HKL.out]; exact f1) (by rw [HKL.out]; exact f2.alloc _) (fun i hi=>(f3 i hi).alloc _) (hu.alloc _) (by rw [HKL.out]; exact ho) hg
   have hsz:w.heap.size≤w2.heap.size:=HB2.out.size
   clear f1 f2 f3 hu hb2 H2 hcc HT2 HF
   generalize (memL x).length=ml at *
   go_wp2_with (first | (at_builtin; refine wpList_append_own _ rfl _ _ 23 rfl w.heap.size 22 i0 (.slice none 0 0) 1 24 Tryz.underlying23 hi0 hz0 hz1 hz2 rfl (by decide) _ _ _ rfl (HO.out.alloc _) ⟨w2.heap.size,0,none⟩ 1 1 [.slice uo ml uc] rfl rfl (one_new _ _ _) (one_slice _ _ _) ?c3 ?c4 ?c5 ?_))
   case c3=>unfold maxLen; omega
   case c4=>omega
   case c5=>simp; omega
   intro v' w3 ho hg _
   have HNX:Hid (Fr w.heap.size 22 3 w3 v' ((A.take (k+1)).map memL)):=HPU.out v' w3 ho hg
   have HB3:Hid (Below w.heap.size w w3):=(HB2.out.alloc hsz _).grown hg (by simp; omega) (fun y hy=>(HO.out.lt y hy).1)
   clear ho hg
   go_wp2
   go_roundw
   case rel=>exact ⟨k+1,by omega,by go_num,HNX.out,HB3.out⟩
   case measure=>simp [intOf]; omega
  ·have hke:k=A.length:=by omega
   subst hke
   have HIO:Hid (Calls Tryz.prog 22 #[.slice xo A.length xc] wa fun e w'=>∃u m',e=.returned u∧Fr w.heap.size 22 3 w' u m'∧Inor m' (A.map memL)∧Below w.heap.size wa w'):=by
    have:=inOrder_any w.heap.size ((A.take A.length).map memL) (.slice xo A.length xc) wa HF.out (by rw [HKL.out]; omega)
    rw [HAL.out] at this
    exact this
   clear HV HLI HTK HAL HF HKL
   go_wp2_with fail
   refine HIO.out.mono ?_
   rintro e w4 ⟨u,m',rfl,h1,h2,h3⟩
   have HR:Hid (Fr w.heap.size 22 3 w4 u m'∧Inor m' (A.map memL)∧Below w.heap.size w w4):=⟨h1,h2,HB.out.trans h3⟩
   clear h1 h2 h3
   go_wp2
   go_ret
   exact ⟨u,m',rfl,HR.out⟩
end Go.Proofs.YtadpjlpdfimaeaaGreatDoor

namespace Go.Proofs.YtadpjlpdfimaeaaGreatDoor
open Go.RowKit Lin
attribute [local go_sem ↓] Go.wp_at_zero Go.wp_at_succ
structure LvV (w:World) (x:Value) (j:Nat) (LV:Nat→List (List Int)):Prop where
 rows:∃ao cap,x=.slice ao j cap∧∀X t,Below w.heap.size w X→t < j→∃b o ro rc,ao=some ⟨b,o,none⟩∧X.cell? ⟨b,o+t,none⟩=some (.slice ro (LV t).length rc)∧Mat X.heap.size 22 3 X (.slice ro (LV t).length rc) (LV t)
theorem Lvs.named {B:Nat} {w:World} {x:Value} {j:Nat} {ok:Nat→List (List Int)→Prop} (h:Lvs B w x j ok):∃LV,LvV w x j LV∧∀t,t < j→ok t (LV t):=by
 obtain ⟨vs,h1,h2,h3⟩:=h.rows
 have hch:∃LV:Nat→List (List Int),∀t,t < j→Fr B 22 3 w (vs.getD t (.slice none 0 0)) (LV t)∧ok t (LV t):=by
  refine ⟨fun t=>if ht:t < j then Classical.choose (h3 t ht) else [],fun t ht=>?_⟩
  simp only [ht,dif_pos]
  exact Classical.choose_spec (h3 t ht)
 obtain ⟨LV,hLV⟩:=hch
 obtain ⟨ao,cap,hx⟩:=owns_form h2
 refine ⟨LV,⟨ao,cap,hx,fun X t hX ht=>?_⟩,fun t ht=>(hLV t ht).2⟩
 obtain ⟨ao2,cap2,hx2,_,_,h5,_⟩:=Sl.own (B:=0) h2
 rw [hx] at hx2
 simp only [Value.slice.injEq] at hx2
 obtain ⟨rfl,_,rfl⟩:=hx2
 obtain ⟨b,o,hb,hc,_⟩:=h5 t (by omega)
 have hm:Mat 0 22 3 w (vs.getD t (.slice none 0 0)) (LV t):=by
  obtain ⟨us,u1,u2,u3⟩:=(hLV t ht).1
  exact ⟨us,u1,Sl.own u2,u3⟩
 obtain ⟨ro,rc,hv,_,_⟩:=mat_open hm
 refine ⟨b,o,ro,rc,hb,?_,?_⟩
 ·rw [←hv]
  have e:vs[t]?=some (vs.getD t (.slice none 0 0)):=by simp [show t < vs.length by omega]
  rw [e] at hc
  have hbl:=lt_of_cell hc
  exact (hX.cell hbl).trans hc
 ·rw [←hv]
  exact (hm.below hX (Nat.le_refl _)).more (Nat.zero_le _)
end Go.Proofs.YtadpjlpdfimaeaaGreatDoor

namespace Go.Proofs.YtadpjlpdfimaeaaGreatDoor
open Go.RowKit Lin
attribute [local go_sem ↓] Go.wp_at_zero Go.wp_at_succ
theorem setN_ltn {n:Nat} : ∀l:List Int,(∀x∈l,0≤x∧x < (n:Int))→setN l < 2 ^ n
 | [],_=>by simp [setN]; exact Nat.pow_pos (by decide)
 | v :: l,h=>by
  have h1:=h v (by simp)
  unfold setN
  exact Nat.or_lt_two_pow (Nat.pow_lt_pow_right (by decide) (by omega)) (setN_ltn l fun x hx=>h x (by simp [hx]))
end Go.Proofs.YtadpjlpdfimaeaaGreatDoor
