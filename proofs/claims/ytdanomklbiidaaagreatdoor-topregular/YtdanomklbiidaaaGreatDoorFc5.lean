import Derived.Test.YtdanomklbiidaaaGreatDoorMgBF
namespace Go.Proofs.YtdanomklbiidaaaGreatDoor
open Go.RowKit Lin
attribute [local go_sem ↓] Go.wp_at_zero Go.wp_at_succ
structure SeeW (w:World) (b d:Nat) (C:List (List Int)) (co:Option Addr) (cc:Nat) (rv:Value) (so:Option Addr) (sc:Nat) (S A:List Nat) (wr:World):Prop where
 i:LvI w b d C (.slice co C.length cc) rv (.slice so S.length sc) A A wr
 nd:A.Nodup
 lt:∀g∈A,g < 1024
theorem SeeW.len {w:World} {b d:Nat} {C:List (List Int)} {co:Option Addr} {cc:Nat} {rv:Value} {so:Option Addr} {sc:Nat} {S A:List Nat} {wr:World} (h:SeeW w b d C co cc rv so sc S A wr):A.length≤1024:=by
 have:=nodup_len A (List.range 1024) h.nd fun x hx=>List.mem_range.2 (h.lt x hx)
 simpa using this
set_option maxRecDepth 100000 in
set_option maxHeartbeats 800000 in
theorem see_old (w:World) (b d:Nat) (C:List (List Int)) (cs rv sv:Value) (A:List Nat) (f:Nat) (wr:World) (hI:LvI w b d C cs rv sv A A wr) (hf:f < 1024) (hm:f∈A) :
  Calls Tryz.prog 90 #[.int .u64 (f:Int),.pointer (some ⟨b+4,0,none⟩),.pointer (some ⟨b,0,none⟩),.pointer (some ⟨b+2,0,none⟩),.pointer (some ⟨b+5,0,none⟩)] wr fun e w'=>e=.returned (.tuple #[])∧w'=wr:=by
 obtain ⟨v,hl⟩:=hI.look (x:=f) (by omega)
 have hd:decide (f∈A)=true:=by simp [hm]
 rw [hd] at hl
 have hmb:=hI.mb
 have c4:wr.cell? ⟨b+4,0,none⟩=some (.map (some (b+3))):=by simp [World.cell?,hmb]
 clear hI hmb hm hd
 go_enter Tryz.func90,Tryz.ntmps90
 go_wp2
 exact bodyPost_ret (v:=.tuple #[]) (by simp [results,Tryz.results90,go_sem]) rfl ⟨rfl,rfl⟩
set_option maxRecDepth 100000 in
set_option maxHeartbeats 4000000 in
theorem see_any (w:World) (b d:Nat) (C:List (List Int)) (co:Option Addr) (cc:Nat) (rv:Value) (so:Option Addr) (sc:Nat) (S:List Nat) (hC:Mat w.heap.size 22 3 w (.slice co C.length cc) C) (hbx:Box d 30 C) (h1:1≤d) (h4:d≤4) (hn:C.length≤10) (hT:TabB w) (hS:Sl w.heap.size 70 w (.slice so S.length sc) (u64s S)) (hS1:∀t∈S,t < 1024) (hSl:S.length≤5000) :
  ∀(k f:Nat) (A:List Nat) (wr:World),f < k→f < 2 ^ C.length→SeeW w b d C co cc rv so sc S A wr→
  Calls Tryz.prog 90 #[.int .u64 (f:Int),.pointer (some ⟨b+4,0,none⟩),.pointer (some ⟨b,0,none⟩),.pointer (some ⟨b+2,0,none⟩),.pointer (some ⟨b+5,0,none⟩)] wr fun e w'=>e=.returned (.tuple #[])∧∃A',SeeW w b d C co cc rv so sc S A' w'∧SeeP S f A A'
 | 0,f,A,wr,hk,hf,hW=>by omega
 | k+1,f,A,wr,hk,hf,hW=>by
  have hf10:f < 1024:=Nat.lt_of_lt_of_le hf (Nat.le_trans (Nat.pow_le_pow_right (by decide) hn) (by decide))
  by_cases hm:f∈A
  ·refine (see_old w b d C _ rv _ A f wr hW.i hf10 hm).mono ?_
   rintro e w' ⟨rfl,rfl⟩
   exact ⟨rfl,A,hW,fun g hg=>hg,hm,fun g hg hg2=>absurd hg hg2,fun g hg hg2=>absurd hg hg2,hW.nd⟩
  obtain ⟨i3,hi3,hz30,hz31,hz32⟩:=info_parts Tryz.infoS
  have HREC:Hid (∀(s:Nat) (A':List Nat) (W:World),f∈A'→SeeW w b d C co cc rv so sc S A' W→Calls Tryz.prog 90 #[.int .u64 ((f &&& s:Nat):Int),.pointer (some ⟨b+4,0,none⟩),.pointer (some ⟨b,0,none⟩),.pointer (some ⟨b+2,0,none⟩),.pointer (some ⟨b+5,0,none⟩)] W fun e w'=>e=.returned (.tuple #[])∧∃A2,SeeW w b d C co cc rv so sc S A2 w'∧SeeP S (f &&& s) A' A2):=fun s A' W hm2 hW2=>by
   have hle:f &&& s≤f:=Nat.and_le_left
   by_cases e:f &&& s=f
   ·rw [e]
    refine (see_old w b d C _ rv _ A' f W hW2.i hf10 hm2).mono ?_
    rintro e w' ⟨rfl,rfl⟩
    exact ⟨rfl,A',hW2,fun g hg=>hg,hm2,fun g hg hg2=>absurd hg hg2,fun g hg hg2=>absurd hg hg2,hW2.nd⟩
   ·exact see_any w b d C co cc rv so sc S hC hbx h1 h4 hn hT hS hS1 hSl k (f &&& s) A' W (by omega) (by omega) hW2
  have hAl:=hW.len
  have HDIM:Hid (∀W,Below w.heap.size w W→Calls Tryz.prog 91 #[.agg #[.int .i64 d,.slice co C.length cc,rv,.slice so S.length sc],.int .u64 (f:Int)] W fun e w'=>e=.returned (.int .i64 (dimL d C f))∧Below W.heap.size W w'):=fun W hb=>
   dimF_any d C co cc rv (.slice so S.length sc) f W ((hC.below hb (Nat.le_refl _)).any (Nat.le_refl _)) hbx h1 h4 hn hf (hT.below hb)
  obtain ⟨t,ht,hte⟩:=dimL_bd d C f
  have HPUT:Hid (∀W,LvI w b d C (.slice co C.length cc) rv (.slice so S.length sc) A A W→∃w2,(Instr.mapUpdate 114 (.map (some (b+3))) (.int .u64 (f:Int)) (.int .i64 (dimL d C f))).run Tryz.prog W=.ok () w2∧LvI w b d C (.slice co C.length cc) rv (.slice so S.length sc) (A ++ [f]) A w2):=fun W h=>h.put (by omega) (by omega) (by omega)
  have HAT:Hid (∀W,LvI w b d C (.slice co C.length cc) rv (.slice so S.length sc) (A ++ [f]) A W→(Instr.lookup 114 (.map (some (b+3))) (.int .u64 (f:Int)) false).run Tryz.prog W=.ok (.int .i64 (dimL d C f)) W):=fun W h=>h.at_ (by omega) (by simp)
  have HPUSH:Hid (∀W,LvI w b d C (.slice co C.length cc) rv (.slice so S.length sc) (A ++ [f]) A W→∃ll ao cp xs,ll≤1024∧W.cell? ⟨b+1,t,none⟩=some (.slice ao ll cp)∧W.ownsRow (b+6) 70 1 (.slice ao ll cp) ll xs∧
   ∀v' w5,w5.ownsRow (b+6) 70 1 v' (ll+1) (xs ++ [.int .u64 (f:Int)])→(W.alloc (.cells #[.int .u64 (f:Int)] 70)).grownBy w5 (Value.slice ao ll cp).ownBlock→(v'.ownBlock=(Value.slice ao ll cp).ownBlock∨v'.ownBlock=some (W.heap.size+1))→
    w5.cell? ⟨b+1,t,none⟩=some (.slice ao ll cp)∧w5.frozen? ⟨b+1,t,none⟩=false∧SeeW w b d C co cc rv so sc S (A ++ [f]) (w5.setCell ⟨b+1,t,none⟩ v')):=fun W h=>by
   obtain ⟨ao,cp,q1,q2,q3⟩:=h.push f ht hte
   refine ⟨_,ao,cp,_,Nat.le_trans (lvA_len d C A t) hAl,q1,q2,fun v' w5 p1 p2 p3=>?_⟩
   obtain ⟨u1,u2,u3⟩:=q3 v' w5 p1 p2 p3
   refine ⟨u1,u2,u3,?_,fun g hg=>?_⟩
   ·exact (SeeJ.start (S:=S) hW.nd hm).nd
   ·rcases List.mem_append.1 hg with h | h
    ·exact hW.lt g h
    ·simp at h; omega
  have HSTART:Hid (SeeJ S f 0 A (A ++ [f])):=SeeJ.start hW.nd hm
  have HMEM:Hid (∀j A',SeeJ S f j A A'→f∈A'):=fun j A' h=>h.self
  have HBOX:Hid (∀M A' W,LvI w b d C (.slice co C.length cc) rv (.slice so S.length sc) M A' W→W.cell? ⟨b+4,0,none⟩=some (.map (some (b+3)))∧W.cell? ⟨b,0,none⟩=some (.int .i64 d)∧W.cell? ⟨b,1,none⟩=some (.slice co C.length cc)∧W.cell? ⟨b,2,none⟩=some rv∧W.cell? ⟨b,3,none⟩=some (.slice so S.length sc)∧W.cell? ⟨b+2,0,none⟩=some (.slice (some ⟨b+1,0,none⟩) (d+2) (d+2))∧W.cell? ⟨b+5,0,none⟩=some (.func (.func 90) #[] #[.pointer (some ⟨b+4,0,none⟩),.pointer (some ⟨b,0,none⟩),.pointer (some ⟨b+2,0,none⟩),.pointer (some ⟨b+5,0,none⟩)])):=fun M A' W h=>by
   have q1:=h.mb
   have q2:=h.bd
   have q3:=h.ob
   have q4:=h.fb
   exact ⟨by simp [World.cell?,q1],by simp [World.cell?,q2],by simp [World.cell?,q2],by simp [World.cell?,q2],by simp [World.cell?,q2],by simp [World.cell?,q3],by simp [World.cell?,q4,seA]⟩
  have HBEL:Hid (∀M A' W,LvI w b d C (.slice co C.length cc) rv (.slice so S.length sc) M A' W→Below w.heap.size w W∧b+6≤W.heap.size):=fun M A' W h=>⟨h.bel,h.sz⟩
  have HSD:Hid (∀W j,Below w.heap.size w W→j < S.length→∃sb soo,so=some ⟨sb,soo,none⟩∧W.cell? ⟨sb,soo+j,none⟩=some (.int .u64 ((S.getD j 0:Nat):Int))∧bits .and .u64 (f:Int) ((S.getD j 0:Nat):Int)=((f &&& S.getD j 0:Nat):Int)):=fun W j hb hj=>by
   obtain ⟨ao,cap,hv,_,_,h5,_⟩:=hS.below hb (Nat.le_refl _)
   simp only [Value.slice.injEq] at hv
   obtain ⟨sb,soo,hs,hcc,_⟩:=h5 j (by rw [u64s_len]; exact hj)
   refine ⟨sb,soo,hv.1.trans hs,?_,bits_and_u64_nat f _ (by omega) (by have:=hS1 (S.getD j 0) (by simp [hj]); omega)⟩
   rw [hcc]
   simp [u64s,hj]
  obtain ⟨v0,hl⟩:=hW.i.look (x:=f) (by omega)
  have hdec:decide (f∈A)=false:=by simp [hm]
  rw [hdec] at hl
  obtain ⟨c4,c0,c1,c2,c3,c5,c6⟩:=HBOX.out _ _ _ hW.i
  have HI:Hid (LvI w b d C (.slice co C.length cc) rv (.slice so S.length sc) A A wr):=hW.i
  have HDN:Hid (∀A',SeeJ S f S.length A A'→SeeP S f A A'):=fun A' h=>h.done
  have HNX:Hid (∀j A' A2,SeeJ S f j A A'→j < S.length→SeeP S (f &&& S.getD j 0) A' A2→SeeJ S f (j+1) A A2):=fun j A' A2 h hj h2=>h.next hj h2
  have hdm:dimL d C f=(t:Int)-1:=by omega
  rw [hdm] at HDIM HPUT HAT
  have hw1:IntKind.wrap .i64 ((t:Int)-1+1)=(t:Int):=by rw [IntKind.wrap_i64]; omega
  clear hC hT hS hS1 hdec hW hm hte hdm hbx hf hk
  go_enter Tryz.func90,Tryz.ntmps90
  go_upto_region 2 with fail
  clear hl
  refine wp_region_held_drew (S:=fun w'=>w'.cell? ⟨b+4,0,none⟩=some (.map (some (b+3)))∧w'.cell? ⟨b,0,none⟩=some (.int .i64 d)∧w'.cell? ⟨b,1,none⟩=some (.slice co C.length cc)∧w'.cell? ⟨b,2,none⟩=some rv∧w'.cell? ⟨b,3,none⟩=some (.slice so S.length sc)) (by kernel_rfl) ⟨c4,c0,c1,c2,c3⟩ (fun hHeld=>?_)
  clear c4 c0 c1 c2 c3 c5 c6
  refine wpAnyH_tk (i:=0) (d:=18) (v:=(.map (some (b+3)))) rfl rfl (by kernel_rfl) (by kernel_rfl) (by kernel_rfl) (fun _ _ _ h=>h) (.inl ⟨by rfl,by (intro wq hSw; (try dsimp only at hSw); go_simp; (try (first | rfl | omega)))⟩) hHeld ?_
  simp only [Act.put,List.setIfInBounds_toArray,List.set_cons_zero,List.set_cons_succ]
  refine wpAnyH_tk (i:=1) (d:=19) (v:=(.int .u64 (f:Int))) rfl rfl (by kernel_rfl) (by kernel_rfl) (by kernel_rfl) (fun _ _ _ h=>h) (.inl ⟨by rfl,by (intro wq hSw; (try dsimp only at hSw); go_simp; (try (first | rfl | omega)))⟩) hHeld ?_
  simp only [Act.put,List.setIfInBounds_toArray,List.set_cons_zero,List.set_cons_succ]
  refine wpAnyH_tk (i:=2) (d:=20) (v:=(.agg #[.int .i64 d,.slice co C.length cc,rv,.slice so S.length sc])) rfl rfl (by kernel_rfl) (by kernel_rfl) (by kernel_rfl) (fun _ _ _ h=>h) (.inl ⟨by rfl,by (intro wq hSw; (try dsimp only at hSw); go_simp; (try (first | rfl | omega)))⟩) hHeld ?_
  simp only [Act.put,List.setIfInBounds_toArray,List.set_cons_zero,List.set_cons_succ]
  refine wpAnyH_tk (i:=3) (d:=21) (v:=(.int .u64 (f:Int))) rfl rfl (by kernel_rfl) (by kernel_rfl) (by kernel_rfl) (fun _ _ _ h=>h) (.inl ⟨by rfl,by (intro wq hSw; (try dsimp only at hSw); go_simp; (try (first | rfl | omega)))⟩) hHeld ?_
  simp only [Act.put,List.setIfInBounds_toArray,List.set_cons_zero,List.set_cons_succ]
  refine wpAnyH_ready (rs:=[4]) (by kernel_rfl) (by simp) ?_
  refine ready_tk (i:=4) rfl (by rfl) (fun K hK=>?_) AllReadyH.nil
  go_simp
  refine (HDIM.out wr.drew ((HBEL.out _ _ _ HI.out).1.drew)).mono ?_
  rintro e w3 ⟨rfl,hb3⟩
  have HI3:Hid (LvI w b d C (.slice co C.length cc) rv (.slice so S.length sc) A A w3):=HI.out.below ((Below.drew (Below.refl wr.heap.size wr)).trans hb3)
  clear hb3
  obtain ⟨w4,hrun4,hI4⟩:=HPUT.out w3 HI3.out
  have HI4:Hid (LvI w b d C (.slice co C.length cc) rv (.slice so S.length sc) (A ++ [f]) A w4):=hI4
  clear hI4
  obtain ⟨c4,c0,c1,c2,c3,c5,c6⟩:=HBOX.out _ _ _ HI3.out
  refine hK.out _ _ ⟨c4,c0,c1,c2,c3⟩ (fun hHeld=>?_)
  clear hK K c4 c0 c1 c2 c3 c5 c6
  refine wpAnyH_ready (rs:=[5]) (by kernel_rfl) (by simp) ?_
  refine ready_tk (i:=5) rfl (by rfl) (fun K hK=>?_) AllReadyH.nil
  go_simp
  obtain ⟨c4,c0,c1,c2,c3,c5,c6⟩:=HBOX.out _ _ _ HI4.out
  refine hK.out _ _ ⟨c4,c0,c1,c2,c3⟩ (fun hHeld=>?_)
  clear hK K hrun4
  refine wpAnyH_done (by kernel_rfl) ?_ _
  clear hHeld
  have hat:=HAT.out w4 HI4.out
  go_upto_region 4 with fail
  clear hat hw1
  obtain ⟨ll,ao,cp,xs,hll,ct,hown,hpush⟩:=HPUSH.out w4 HI4.out
  have HOWN:Hid (w4.ownsRow (b+6) 70 1 (.slice ao ll cp) ll xs):=hown
  have HPU:Hid (∀v' w5,w5.ownsRow (b+6) 70 1 v' (ll+1) (xs ++ [.int .u64 (f:Int)])→(w4.alloc (.cells #[.int .u64 (f:Int)] 70)).grownBy w5 (Value.slice ao ll cp).ownBlock→(v'.ownBlock=(Value.slice ao ll cp).ownBlock∨v'.ownBlock=some (w4.heap.size+1))→
    w5.cell? ⟨b+1,t,none⟩=some (.slice ao ll cp)∧w5.frozen? ⟨b+1,t,none⟩=false∧SeeW w b d C co cc rv so sc S (A ++ [f]) (w5.setCell ⟨b+1,t,none⟩ v')):=hpush
  have HSZ:Hid (b+6≤w4.heap.size):=(HBEL.out _ _ _ HI4.out).2
  have htI:(t:Int) < (d:Int)+2:=by omega
  clear hown hpush
  obtain ⟨W5,hW5⟩:∃W5,W5=(w4.alloc (.cells #[.int .u64 (f:Int)] 70)).drew:=⟨_,rfl⟩
  have hB5:Below w4.heap.size w4 W5:=by rw [hW5]; exact ((Below.refl w4.heap.size w4).alloc (Nat.le_refl _) _).drew
  have c55:W5.cell? ⟨b+2,0,none⟩=some (.slice (some ⟨b+1,0,none⟩) (d+2) (d+2)):=(HBOX.out _ _ _ (HI4.out.below hB5)).2.2.2.2.2.1
  have ct5:W5.cell? ⟨b+1,t,none⟩=some (.slice ao ll cp):=by
   have:=HSZ.out
   rw [←ct]
   unfold World.cell?
   rw [hB5.block (b+1) (by omega)]
  have HOWN5:Hid (W5.ownsRow (b+6) 70 1 (.slice ao ll cp) ll xs):=owns_below HOWN.out hB5 (Nat.le_refl _)
  have HNEW:Hid (∀j u,([.int .u64 (f:Int)]:List Value)[j]?=some u→W5.cell? (Addr.add ⟨w4.heap.size,0,none⟩ j)=some u):=by rw [hW5]; exact one_new w4 _ _
  have HSZ5:Hid (b+6≤W5.heap.size):=Nat.le_trans HSZ.out hB5.size
  have HPU5:Hid (∀v' w5,w5.ownsRow (b+6) 70 1 v' (ll+1) (xs ++ [.int .u64 (f:Int)])→W5.grownBy w5 (Value.slice ao ll cp).ownBlock→(v'.ownBlock=(Value.slice ao ll cp).ownBlock∨v'.ownBlock=some W5.heap.size)→
    w5.cell? ⟨b+1,t,none⟩=some (.slice ao ll cp)∧w5.frozen? ⟨b+1,t,none⟩=false∧SeeW w b d C co cc rv so sc S (A ++ [f]) (w5.setCell ⟨b+1,t,none⟩ v')):=by
   rw [hW5]
   exact fun v' w5 p1 p2 p3=>HPU.out v' w5 p1 ⟨p2.os,p2.tape,p2.output,p2.size,p2.block⟩ (by simpa using p3)
  clear hB5 HOWN HPU
  go_cut [8] from 27 (fun x wx=>x=.int .i64 (t:Int)∧SeeW w b d C co cc rv so sc S (A ++ [f]) wx)
  case first=>
   refine wp_region_held_drew (S:=fun w'=>w'.cell? ⟨b+2,0,none⟩=some (.slice (some ⟨b+1,0,none⟩) (d+2) (d+2))) (by kernel_rfl) c5 (fun hHeld=>?_)
   refine wpAnyH_tk (i:=0) (d:=27) (v:=(.slice (some ⟨b+1,0,none⟩) (d+2) (d+2))) rfl rfl (by kernel_rfl) (by kernel_rfl) (by kernel_rfl) (fun _ _ _ h=>h) (.inl ⟨by rfl,by (intro wq hSw; (try dsimp only at hSw); go_simp; (try (first | rfl | omega)))⟩) hHeld ?_
   simp only [Act.put,List.setIfInBounds_toArray,List.set_cons_zero,List.set_cons_succ]
   refine wpAnyH_tk (i:=1) (d:=28) (v:=(.int .i64 (t:Int))) rfl rfl (by kernel_rfl) (by kernel_rfl) (by kernel_rfl) (fun _ _ _ h=>h) (.inl ⟨by rfl,by (intro wq hSw; (try dsimp only at hSw); go_simp; (try (first | rfl | omega)))⟩) hHeld ?_
   simp only [Act.put,List.setIfInBounds_toArray,List.set_cons_zero,List.set_cons_succ]
   refine wpAnyH_tk (i:=2) (d:=29) (v:=(.slice (some ⟨b+1,0,none⟩) (d+2) (d+2))) rfl rfl (by kernel_rfl) (by kernel_rfl) (by kernel_rfl) (fun _ _ _ h=>h) (.inl ⟨by rfl,by (intro wq hSw; (try dsimp only at hSw); go_simp; (try (first | rfl | omega)))⟩) hHeld ?_
   simp only [Act.put,List.setIfInBounds_toArray,List.set_cons_zero,List.set_cons_succ]
   refine wpAnyH_tk (i:=3) (d:=30) (v:=(.int .i64 (t:Int))) rfl rfl (by kernel_rfl) (by kernel_rfl) (by kernel_rfl) (fun _ _ _ h=>h) (.inl ⟨by rfl,by (intro wq hSw; (try dsimp only at hSw); go_simp; (try (first | rfl | omega)))⟩) hHeld ?_
   simp only [Act.put,List.setIfInBounds_toArray,List.set_cons_zero,List.set_cons_succ]
   refine wpAnyH_tk (i:=4) (d:=31) (v:=(.pointer (some ⟨b+1,t,none⟩))) rfl rfl (by kernel_rfl) (by kernel_rfl) (by kernel_rfl) (fun _ _ _ h=>h) (.inl ⟨by rfl,by (intro wq hSw; (try dsimp only at hSw); go_simp; (try (first | rfl | omega)))⟩) hHeld ?_
   simp only [Act.put,List.setIfInBounds_toArray,List.set_cons_zero,List.set_cons_succ]
   refine wpAnyH_tk (i:=6) (d:=33) (v:=(.int .u64 (f:Int))) rfl rfl (by kernel_rfl) (by kernel_rfl) (by kernel_rfl) (fun _ _ _ h=>h) (.inl ⟨by rfl,by (intro wq hSw; (try dsimp only at hSw); go_simp; (try (first | rfl | omega)))⟩) hHeld ?_
   simp only [Act.put,List.setIfInBounds_toArray,List.set_cons_zero,List.set_cons_succ]
   have c5d:w4.drew.cell? ⟨b+2,0,none⟩=some (.slice (some ⟨b+1,0,none⟩) (d+2) (d+2)):=c5
   have ctd:w4.drew.cell? ⟨b+1,t,none⟩=some (.slice ao ll cp):=ct
   refine wpAnyH_ready (rs:=[5,7]) (by kernel_rfl) (by simp) ?_
   refine ready_tk (i:=5) rfl (by rfl) (fun K hK=>?_) (ready_tk (i:=7) rfl (by rfl) (fun K hK=>?_) AllReadyH.nil)
   ·go_simp
    refine hK.out _ _ c5d (fun hHeld=>?_)
    clear hK K
    try simp only [Act.put,List.setIfInBounds_toArray,List.set_cons_zero,List.set_cons_succ]
    refine wpAnyH_ready (rs:=[7]) (by kernel_rfl) (by simp) ?_
    refine ready_tk (i:=7) rfl (by rfl) (fun K hK=>?_) AllReadyH.nil
    go_simp
    rw [←hW5]
    refine hK.out _ _ c55 (fun hHeld=>?_)
    clear hK K
    try simp only [Act.put,List.setIfInBounds_toArray,List.set_cons_zero,List.set_cons_succ]
    refine wpAnyH_ready (rs:=[8]) (by kernel_rfl) (by simp) ?_
    refine ready_tk (i:=8) rfl (by rfl) (fun K hK=>?_) AllReadyH.nil
    refine op_append_ownA _ _ 67 rfl (b+6) 70 i3 (.int .u64 0) 1 8 Tryz.underlying67 hi3 hz30 hz31 hz32 rfl (by decide) (.slice ao ll cp) ll xs rfl HOWN5.out ⟨w4.heap.size,0,none⟩ 1 1 [.int .u64 (f:Int)] rfl rfl HNEW.out (one_u64 _) (by unfold maxLen; omega) (by omega) HSZ5.out ?_
    intro v' w6 ho hg hat
    obtain ⟨vo8,vc8,hv8⟩:=owns_form ho
    subst hv8
    obtain ⟨k1,k2,k3⟩:=HPU5.out (.slice vo8 (ll+1) vc8) w6 ho hg hat
    have K3:Hid (SeeW w b d C co cc rv so sc S (A ++ [f]) (w6.setCell ⟨b+1,t,none⟩ (.slice vo8 (ll+1) vc8))):=k3
    have c56:w6.cell? ⟨b+2,0,none⟩=some (.slice (some ⟨b+1,0,none⟩) (d+2) (d+2)):=by
     have q1:=k3.i.ob
     rw [Below.heap_setCell _ _ _ _ (by show b+2≠b+1; omega)] at q1
     simp [World.cell?,q1]
    have c57:(w6.setCell ⟨b+1,t,none⟩ (.slice vo8 (ll+1) vc8)).cell? ⟨b+2,0,none⟩=some (.slice (some ⟨b+1,0,none⟩) (d+2) (d+2)):=by
     have q1:=k3.i.ob
     simp [World.cell?,q1]
    clear k3 ho hg hat
    refine hK.out _ _ c56 (fun hHeld=>?_)
    clear hK K
    try simp only [Act.put,List.setIfInBounds_toArray,List.set_cons_zero,List.set_cons_succ]
    refine wpAnyH_tk (i:=9) (d:=36) (v:=(.pointer (some ⟨b+1,t,none⟩))) rfl rfl (by kernel_rfl) (by kernel_rfl) (by kernel_rfl) (fun _ _ _ h=>h) (.inl ⟨by rfl,by (intro wq hSw; (try dsimp only at hSw); go_simp; (try (first | rfl | omega)))⟩) hHeld ?_
    simp only [Act.put,List.setIfInBounds_toArray,List.set_cons_zero,List.set_cons_succ]
    refine wpAnyH_ready (rs:=[10]) (by kernel_rfl) (by simp) ?_
    refine ready_tk (i:=10) rfl (by rfl) (fun K hK=>?_) AllReadyH.nil
    go_simp
    refine hK.out _ _ c57 (fun hHeld=>?_)
    clear hK K
    refine wpAnyH_done (by kernel_rfl) ?_ _
    go_wp2
    go_meet
    exact ⟨rfl,K3.out⟩
   ·go_simp
    rw [←hW5]
    clear hW5
    refine hK.out _ _ c55 (fun hHeld=>?_)
    clear hK K
    try simp only [Act.put,List.setIfInBounds_toArray,List.set_cons_zero,List.set_cons_succ]
    refine wpAnyH_ready (rs:=[5]) (by kernel_rfl) (by simp) ?_
    refine ready_tk (i:=5) rfl (by rfl) (fun K hK=>?_) AllReadyH.nil
    go_simp
    refine hK.out _ _ c55 (fun hHeld=>?_)
    clear hK K
    try simp only [Act.put,List.setIfInBounds_toArray,List.set_cons_zero,List.set_cons_succ]
    refine wpAnyH_ready (rs:=[8]) (by kernel_rfl) (by simp) ?_
    refine ready_tk (i:=8) rfl (by rfl) (fun K hK=>?_) AllReadyH.nil
    refine op_append_ownA _ _ 67 rfl (b+6) 70 i3 (.int .u64 0) 1 8 Tryz.underlying67 hi3 hz30 hz31 hz32 rfl (by decide) (.slice ao ll cp) ll xs rfl HOWN5.out ⟨w4.heap.size,0,none⟩ 1 1 [.int .u64 (f:Int)] rfl rfl HNEW.out (one_u64 _) (by unfold maxLen; omega) (by omega) HSZ5.out ?_
    intro v' w6 ho hg hat
    obtain ⟨vo8,vc8,hv8⟩:=owns_form ho
    subst hv8
    obtain ⟨k1,k2,k3⟩:=HPU5.out (.slice vo8 (ll+1) vc8) w6 ho hg hat
    have K3:Hid (SeeW w b d C co cc rv so sc S (A ++ [f]) (w6.setCell ⟨b+1,t,none⟩ (.slice vo8 (ll+1) vc8))):=k3
    have c56:w6.cell? ⟨b+2,0,none⟩=some (.slice (some ⟨b+1,0,none⟩) (d+2) (d+2)):=by
     have q1:=k3.i.ob
     rw [Below.heap_setCell _ _ _ _ (by show b+2≠b+1; omega)] at q1
     simp [World.cell?,q1]
    have c57:(w6.setCell ⟨b+1,t,none⟩ (.slice vo8 (ll+1) vc8)).cell? ⟨b+2,0,none⟩=some (.slice (some ⟨b+1,0,none⟩) (d+2) (d+2)):=by
     have q1:=k3.i.ob
     simp [World.cell?,q1]
    clear k3 ho hg hat
    refine hK.out _ _ c56 (fun hHeld=>?_)
    clear hK K
    try simp only [Act.put,List.setIfInBounds_toArray,List.set_cons_zero,List.set_cons_succ]
    refine wpAnyH_tk (i:=9) (d:=36) (v:=(.pointer (some ⟨b+1,t,none⟩))) rfl rfl (by kernel_rfl) (by kernel_rfl) (by kernel_rfl) (fun _ _ _ h=>h) (.inl ⟨by rfl,by (intro wq hSw; (try dsimp only at hSw); go_simp; (try (first | rfl | omega)))⟩) hHeld ?_
    simp only [Act.put,List.setIfInBounds_toArray,List.set_cons_zero,List.set_cons_succ]
    refine wpAnyH_ready (rs:=[10]) (by kernel_rfl) (by simp) ?_
    refine ready_tk (i:=10) rfl (by rfl) (fun K hK=>?_) AllReadyH.nil
    go_simp
    refine hK.out _ _ c57 (fun hHeld=>?_)
    clear hK K
    refine wpAnyH_done (by kernel_rfl) ?_ _
    go_wp2
    go_meet
    exact ⟨rfl,K3.out⟩
  case rest=>
   obtain ⟨rfl,hW6⟩:=hcut
   clear hW5 c55 ct5 HOWN5 HNEW HSZ5 HPU5 c4 c0 c1 c2 c3 c5 c6 ct HI HI3 HI4 HDIM HPUT HAT HPUSH HSZ
   obtain ⟨c4,c0,c1,c2,c3,c5,c6⟩:=HBOX.out _ _ _ hW6.i
   have HW6:Hid (SeeW w b d C co cc rv so sc S (A ++ [f]) wc):=hW6
   clear hW6
   go_wp2
   clear c4 c0 c1 c2 c3 c5 c6
   go_loopw [40,10] (fun iv _ wq=>∃(j:Nat) (A':List Nat),j≤S.length∧iv=.int .i64 (j:Int)∧SeeW w b d C co cc rv so sc S A' wq∧SeeJ S f j A A') (fun iv _ _=>S.length-(intOf iv).toNat)
   case atStart=>exact ⟨0,A ++ [f],Nat.zero_le _,rfl,HW6.out,HSTART.out⟩
   case round=>
    obtain ⟨j,A',hj,rfl,hWq,hJ⟩:=hrel
    clear HW6
    by_cases hlt:j < S.length
    ·obtain ⟨sb,soo,hso,hcs,hbits⟩:=HSD.out wr j hWq.i.bel hlt
     obtain ⟨c4,c0,c1,c2,c3,c5,c6⟩:=HBOX.out _ _ _ hWq.i
     have hrec:=HREC.out (S.getD j 0) A' wr (HMEM.out _ _ hJ) hWq
     have HN:Hid (∀A2,SeeP S (f &&& S.getD j 0) A' A2→SeeJ S f (j+1) A A2):=fun A2 h=>HNX.out j A' A2 hJ hlt h
     have hjI:(j:Int) < (S.length:Int):=by omega
     clear HBOX HREC HSD HNX HMEM HBEL HDN hJ hWq c4 c0 c1 c2 c3 c5 HSTART
     subst hso
     generalize S.getD j 0=s at *
     generalize f &&& s=z at *
     go_wp2_with fail
     refine hrec.mono ?_
     rintro e w8 ⟨rfl,A2,hW8,hP8⟩
     have H8:Hid (SeeW w b d C co cc rv (some ⟨sb,soo,none⟩) sc S A2 w8∧SeeJ S f (j+1) A A2):=⟨hW8,HN.out A2 hP8⟩
     clear hW8 hP8 hrec hcs c6
     go_wp2
     go_roundw
     case rel=>exact ⟨j+1,A2,by omega,by go_num,H8.out.1,H8.out.2⟩
     case measure=>simp [intOf]; omega
    ·have hje:j=S.length:=by omega
     subst hje
     have HF:Hid (∃A',SeeW w b d C co cc rv so sc S A' wr∧SeeP S f A A'):=⟨A',hWq,HDN.out A' hJ⟩
     clear hWq hJ HBOX HREC HSD HNX HMEM HBEL HDN HSTART
     go_wp2
     refine bodyPost_end (results_none rfl _ _ _) rfl ?_
     exact ⟨rfl,HF.out⟩
end Go.Proofs.YtdanomklbiidaaaGreatDoor
