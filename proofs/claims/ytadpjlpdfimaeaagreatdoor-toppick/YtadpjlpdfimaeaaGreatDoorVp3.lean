import Derived.Test.YtadpjlpdfimaeaaGreatDoorMgBG
import Derived.Test.YtadpjlpdfimaeaaGreatDoorMgBI
namespace Go.Proofs.YtadpjlpdfimaeaaGreatDoor
open Go.RowKit Lin
attribute [local go_sem ↓] Go.wp_at_zero Go.wp_at_succ
theorem setN_lt10 (l:List Int) (h:∀x∈l,0≤x∧x < (10:Int)):setN l < 1024:=setN_ltn (n:=10) l h
theorem flat_congr {α β:Type} {f g:α→List β} : ∀{l:List α},(∀a∈l,f a=g a)→l.flatMap f=l.flatMap g
 | [],_=>rfl
 | a :: l,h=>by
  rw [List.flatMap_cons,List.flatMap_cons,h a (by simp),flat_congr fun b hb=>h b (by simp [hb])]
def filL (LV:Nat→List (List Int)) (order:List Int) (t:Nat):List (Nat×List Nat):=(LV t).map fun g=>(setN g,pulS LV order t g)
theorem pulS_two (LV:Nat→List (List Int)) (order:List Int) (t:Nat) (face:List Int):pulS LV order (t+2) face=(LV (t+1)).flatMap fun g=>if tkB order face g then (pulS LV order (t+1) g).map fun c=>2 ^ (fstO order face).toNat ||| c else []:=rfl
theorem put_pul {LV:Nat→List (List Int)} {order:List Int} {n:Nat} (h:LvO LV order n) (hn:n≤10) (t:Nat) (face:List Int) (hf:face∈LV (t+2)):putL (2 ^ (fstO order face).toNat) (setN face) (fstO order face).toNat (filL LV order (t+1))=pulS LV order (t+2) face:=by
 have h1:=fstO_mem (h.has _ face hf)
 have h2:=h.ord _ h1.1
 rw [pulS_two]
 unfold putL filL
 rw [List.flatMap_map]
 refine flat_congr fun g hg=>?_
 have hb:B64 g:=fun x hx=>by have:=(h.row _ g hg).2 x hx; omega
 have hw:wnB (setN face) (fstO order face).toNat (setN g)=tkB order face g:=by
  unfold wnB tkB
  have h3:(setN g).testBit (fstO order face).toNat=decide (fstO order face∈g):=by
   rw [Bool.eq_iff_iff,decide_eq_true_iff,setN_bit g _ hb,Int.toNat_of_nonneg h2.1]
  rw [h3,Bool.and_comm]
 simp only [hw]
set_option maxRecDepth 100000 in
set_option maxHeartbeats 1600000 in
theorem pull1_any (S g1 g2:Nat) (w:World) (hS:S < 1024) (hl:(memL S).length=1) :
  Calls Tryz.prog 37 #[.int .u64 (S:Int),.pointer (some ⟨g1,0,none⟩),.pointer (some ⟨g2,0,none⟩)] w fun e w'=>∃co cc,e=.returned (.agg #[.int .u64 (S:Int),.slice co 1 cc])∧Sl 0 50 w' (.slice co 1 cc) (u64s [S])∧Below w.heap.size w w':=by
 have HL:Hid (∀X,Calls Tryz.prog 38 #[.int .u64 (S:Int)] X fun e w'=>e=.returned (.int .i64 1)∧w'=X):=fun X=>by
  have h:=len10_any S hS X
  rw [hl] at h
  exact h
 go_enter Tryz.func37,Tryz.ntmps37
 go_wp2_with fail
 refine (HL.out _).mono ?_
 rintro e w1 ⟨rfl,rfl⟩
 go_wp2
 obtain ⟨W,hW⟩:∃W,W=((w.alloc (.cells #[.int .u64 (S:Int)] 50)).alloc (.cells #[.int .u64 (S:Int),.slice (some ⟨w.heap.size+1+1,0,none⟩) 1 1] 71)).alloc (.cells #[.int .u64 (S:Int)] 50):=⟨_,rfl⟩
 have g0:W.heap[w.heap.size+1]?=some (.cells #[.int .u64 (S:Int),.slice (some ⟨w.heap.size+1+1,0,none⟩) 1 1] 71 (0,0)):=by
  rw [hW,Below.heap_alloc _ _ _ (by simp)]
  exact (two_heapF w _ _).2
 have g1':W.heap[w.heap.size+1+1]?=some (.cells #[.int .u64 (S:Int)] 50 (0,0)):=by
  rw [hW]
  have:=alloc_at ((w.alloc (.cells #[.int .u64 (S:Int)] 50)).alloc (.cells #[.int .u64 (S:Int),.slice (some ⟨w.heap.size+1+1,0,none⟩) 1 1] 71)) (.cells #[.int .u64 (S:Int)] 50)
  simpa using this
 have hbe:Below w.heap.size w W:=by rw [hW]; exact (((Below.refl _ _).alloc (Nat.le_refl _) _).alloc (by simp) _).alloc (by simp; omega) _
 rw [←hW]
 clear hW
 refine bodyPost_ret (v:=.agg #[.int .u64 (S:Int),.slice (some ⟨w.heap.size+1+1,0,none⟩) 1 1]) (by simp [results,Tryz.results37,go_sem,World.cell?,g0]) rfl ?_
 refine ⟨_,_,rfl,Sl.own (B:=0) ⟨rfl,Or.inr ⟨w.heap.size+1+1,1,#[.int .u64 (S:Int)],rfl,Nat.zero_le _,g1',Nat.le_refl _,by unfold maxLen; omega,rfl,rfl⟩⟩,hbe⟩
set_option maxRecDepth 100000 in
set_option maxHeartbeats 3200000 in
theorem pullN_any {LV:Nat→List (List Int)} {order:List Int} {n:Nat} (h:LvO LV order n) (hn:n≤10) (t:Nat) (ht:t≤3) (face:List Int) (hf:face∈LV (t+2)) (hl:(memL (setN face)).length≠1) (g1 g2:Nat) (oo:Option Addr) (oc:Nat) (bv:Value) (w:World)
  (hO:Sl w.heap.size 3 w (.slice oo order.length oc) (ints order)) (hB:FlR w bv (filL LV order (t+1))) (c1:w.cell? ⟨g1,0,none⟩=some (.slice oo order.length oc)) (c2:w.cell? ⟨g2,0,none⟩=some bv) :
  Calls Tryz.prog 37 #[.int .u64 (setN face:Nat),.pointer (some ⟨g1,0,none⟩),.pointer (some ⟨g2,0,none⟩)] w fun e w'=>∃co cc,e=.returned (.agg #[.int .u64 (setN face:Nat),.slice co (pulS LV order (t+2) face).length cc])∧Sl 0 50 w' (.slice co (pulS LV order (t+2) face).length cc) (u64s (pulS LV order (t+2) face))∧Below w.heap.size w w':=by
 have hmem:=fstO_mem (h.has _ face hf)
 have hford:=h.ord _ hmem.1
 have hSlt:setN face < 1024:=setN_lt10 face fun x hx=>by have:=(h.row _ face hf).2 x hx; omega
 have hB64:B64 face:=fun x hx=>by have:=(h.row _ face hf).2 x hx; omega
 have hfl:(fstO order face).toNat < 10:=by omega
 have hpx:2 ^ (fstO order face).toNat < 1024:=Nat.lt_of_lt_of_le (Nat.pow_lt_pow_right (by decide) hfl) (by decide)
 have hpe:=put_pul h hn t face hf
 have hpS:∀g∈LV (t+1),∀c∈pulS LV order (t+1) g,c < 1024:=fun g hg c hc=>by
  rw [pul_same] at hc
  obtain ⟨l,hl,rfl⟩:=List.mem_map.1 hc
  exact setN_lt10 l fun x hx=>by have:=(pulD_mem h t g hg l hl).2 x hx; omega
 have hpl:∀g,(pulS LV order (t+1) g).length≤1099511627776:=fun g=>by
  rw [pul_same,List.length_map]
  exact Nat.le_trans (pulD_len LV order h.len t g) (Nat.le_trans (Nat.pow_le_pow_right (by decide) (show t≤4 by omega)) (by decide))
 obtain ⟨W,hW⟩:∃W,W=(w.alloc (.cells #[.int .u64 (setN face:Int)] 50)).alloc (.cells #[.int .u64 0,.slice none 0 0] 71):=⟨_,rfl⟩
 have hbw:Below w.heap.size w W:=by rw [hW]; exact ((Below.refl _ _).alloc (Nat.le_refl _) _).alloc (by simp) _
 have hsW:W.heap.size=w.heap.size+2:=by rw [hW]; simp
 have b0:W.heap[w.heap.size]?=some (.cells #[.int .u64 (setN face:Int)] 50 (0,0)):=by rw [hW]; exact (two_heapF _ _ _).1
 have b1:W.heap[w.heap.size+1]?=some (.cells #[.int .u64 0,.slice none 0 0] 71 (0,0)):=by rw [hW]; exact (two_heapF _ _ _).2
 have HCX:Hid (∀X,Below W.heap.size W X→X.cell? ⟨w.heap.size,0,none⟩=some (.int .u64 (setN face:Int))∧X.cell? ⟨g1,0,none⟩=some (.slice oo order.length oc)∧X.cell? ⟨g2,0,none⟩=some bv∧X.heap[w.heap.size+1]?=some (.cells #[.int .u64 0,.slice none 0 0] 71 (0,0))):=fun X hX=>by
  have q0:=(hX.block _ (by omega)).trans b0
  have hwX:=hbw.trans (hX.mono (by omega))
  exact ⟨by simp [World.cell?,q0],(hwX.cell (lt_of_cell c1)).trans c1,(hwX.cell (lt_of_cell c2)).trans c2,(hX.block _ (by omega)).trans b1⟩
 have HLN:Hid (∀X,Calls Tryz.prog 38 #[.int .u64 (setN face:Nat)] X fun e w'=>e=.returned (.int .i64 (memL (setN face)).length)∧w'=X):=fun X=>len10_any (setN face) hSlt X
 have HFO:Hid (∀X,Below W.heap.size W X→Calls Tryz.prog 39 #[.int .u64 (setN face:Nat),.slice oo order.length oc] X fun e w'=>e=.returned (.int .u64 ((2 ^ (fstO order face).toNat:Nat):Int))∧Below X.heap.size X w'):=fun X hX=>
  firstOf_any order face _ X ((hO.below (hbw.trans (hX.mono (by omega))) (Nat.le_refl _)).any (Nat.le_refl _)) (fun x hx=>by have:=h.ord x hx; omega) hB64 (h.has _ face hf)
 have HPT:Hid (∀X gf,Below W.heap.size W X→X.cell? ⟨gf,0,none⟩=some (.int .u64 ((2 ^ (fstO order face).toNat:Nat):Int))→Calls Tryz.prog 41 #[.int .u64 ((2 ^ (fstO order face).toNat:Nat):Int),bv,.func (.func 40) #[] #[.pointer (some ⟨w.heap.size,0,none⟩),.pointer (some ⟨gf,0,none⟩)]] X fun e w'=>∃xo xc,e=.returned (.slice xo (pulS LV order (t+2) face).length xc)∧Sl 0 50 w' (.slice xo (pulS LV order (t+2) face).length xc) (u64s (pulS LV order (t+2) face))∧Below X.heap.size X w'):=fun X gf hX hgf=>by
  have hwX:=hbw.trans (hX.mono (by omega))
  refine (putToCells_any (2 ^ (fstO order face).toNat) (setN face) (fstO order face).toNat w.heap.size gf (filL LV order (t+1)) bv X (hB.low hwX) ?_ hpx hSlt (by omega) (HCX.out X hX).1 hgf ?_ ?_ ?_).mono ?_
  ·intro q hq
   obtain ⟨g,hg,rfl⟩:=List.mem_map.1 hq
   exact ⟨setN_lt10 g fun x hx=>by have:=(h.row _ g hg).2 x hx; omega,hpS g hg⟩
  ·unfold filL
   rw [List.length_map]
   exact h.len (t+1)
  ·intro q hq
   obtain ⟨g,hg,rfl⟩:=List.mem_map.1 hq
   exact hpl g
  ·intro i
   unfold putL
   refine Nat.le_trans (flat_len _ (1024 ^ t) _ fun q hq=>?_) ?_
   ·split
    ·obtain ⟨g,hg,rfl⟩:=List.mem_map.1 (List.mem_of_mem_take hq)
     rw [List.length_map,pul_same,List.length_map]
     exact pulD_len LV order h.len t g
    ·simp
   ·have e1:((filL LV order (t+1)).take i).length≤1024:=Nat.le_trans (by rw [List.length_take]; exact Nat.min_le_right _ _) (by unfold filL; rw [List.length_map]; exact h.len (t+1))
    have e2:1024 ^ t≤1024 ^ 3:=Nat.pow_le_pow_right (by decide) ht
    exact Nat.le_trans (Nat.mul_le_mul e1 e2) (by decide)
  ·rw [hpe]
   rintro e w' ⟨xo,xc,rfl,ho,hb⟩
   exact ⟨xo,xc,rfl,Sl.own ho,hb⟩
 obtain ⟨bo,bl,bc,hbv⟩:∃bo bl bc,bv=.slice bo bl bc:=by
  obtain ⟨ao,cap,hv,_⟩:=hB
  exact ⟨_,_,_,hv⟩
 subst hbv
 have HW:Hid (Below w.heap.size w W):=hbw
 have hg2:g2 < w.heap.size:=lt_of_cell c2
 generalize hml:(memL (setN face)).length=ml at *
 have tml:((ml:Int) == 1)=false:=by simp; omega
 clear hO hB c1 c2 hbw b0 b1 hpe hpS hpl hmem hford hB64 hfl hpx hml hl
 generalize pulS LV order (t+2) face=cs at *
 generalize (2 ^ (fstO order face).toNat:Nat)=px at *
 generalize setN face=S at *
 obtain ⟨k0,k1,k2,k3⟩:=HCX.out W (Below.refl _ _)
 clear k3
 go_enter Tryz.func37,Tryz.ntmps37
 go_upto_region 1 with fail
 rw [←hW]
 clear hW
 go_wp2_with fail
 refine (HLN.out W).mono ?_
 rintro e w1 ⟨rfl,rfl⟩
 go_wp2_with fail
 refine (HFO.out w1 (Below.refl _ _)).mono ?_
 rintro e w2 ⟨rfl,hb2⟩
 have HB2:Hid (Below w1.heap.size w1 w2):=hb2
 obtain ⟨W3,hW3⟩:∃W3,W3=w2.alloc (.cells #[.int .u64 (px:Int)] 50):=⟨_,rfl⟩
 have hb3:Below w1.heap.size w1 W3:=by rw [hW3]; exact hb2.alloc hb2.size _
 have HB3:Hid (Below w1.heap.size w1 W3):=hb3
 have kf:W3.cell? ⟨w2.heap.size,0,none⟩=some (.int .u64 (px:Int)):=by rw [hW3]; simp
 have HKF:Hid (W3.cell? ⟨w2.heap.size,0,none⟩=some (.int .u64 (px:Int))):=kf
 clear hb2 hb3 k0 k1 k2 kf
 go_upto_region 5 with fail
 rw [←hW3]
 clear hW3
 obtain ⟨WD,hWD⟩:∃WD,WD=W3.drew:=⟨_,rfl⟩
 have HBD:Hid (Below W3.heap.size W3 WD):=by rw [hWD]; exact (Below.refl _ _).drew
 have HSS:Hid (∀X,Below W3.heap.size W3 X→X.cell? ⟨w.heap.size,0,none⟩=some (.int .u64 (S:Int))∧X.cell? ⟨w2.heap.size,0,none⟩=some (.int .u64 (px:Int))∧X.cell? ⟨g2,0,none⟩=some (.slice bo bl bc)):=fun X hX=>by
  have hc:=HCX.out X (HB3.out.trans (hX.mono HB3.out.size))
  exact ⟨hc.1,(hX.cell (lt_of_cell HKF.out)).trans HKF.out,hc.2.2.1⟩
 have S0:=HSS.out WD HBD.out
 rw [hWD] at S0
 refine wp_region_held_drew (S:=fun X=>X.cell? ⟨w.heap.size,0,none⟩=some (.int .u64 (S:Int))∧X.cell? ⟨w2.heap.size,0,none⟩=some (.int .u64 (px:Int))∧X.cell? ⟨g2,0,none⟩=some (.slice bo bl bc)) (by kernel_rfl) S0 (fun hHeld=>?_)
 rw [←hWD] at hHeld ⊢
 clear hWD S0
 refine wpAnyH_tk (i:=0) (d:=18) (v:=.int .u64 (S:Int)) rfl rfl (by kernel_rfl) (by kernel_rfl) (by kernel_rfl) (fun _ _ _ h=>h) (.inl ⟨by rfl,by (intro wq hSw; (try dsimp only at hSw); go_simp; (try (first | rfl | omega)))⟩) hHeld ?_
 simp only [Act.put,List.setIfInBounds_toArray,List.set_cons_zero,List.set_cons_succ]
 refine wpAnyH_tk (i:=1) (d:=19) (v:=.int .u64 (px:Int)) rfl rfl (by kernel_rfl) (by kernel_rfl) (by kernel_rfl) (fun _ _ _ h=>h) (.inl ⟨by rfl,by (intro wq hSw; (try dsimp only at hSw); go_simp; (try (first | rfl | omega)))⟩) hHeld ?_
 simp only [Act.put,List.setIfInBounds_toArray,List.set_cons_zero,List.set_cons_succ]
 refine wpAnyH_tk (i:=2) (d:=20) (v:=.slice bo bl bc) rfl rfl (by kernel_rfl) (by kernel_rfl) (by kernel_rfl) (fun _ _ _ h=>h) (.inl ⟨by rfl,by (intro wq hSw; (try dsimp only at hSw); go_simp; (try (first | rfl | omega)))⟩) hHeld ?_
 simp only [Act.put,List.setIfInBounds_toArray,List.set_cons_zero,List.set_cons_succ]
 refine wpAnyH_tk (i:=3) (d:=21) (v:=.func (.func 40) #[] #[.pointer (some ⟨w.heap.size,0,none⟩),.pointer (some ⟨w2.heap.size,0,none⟩)]) rfl rfl (by kernel_rfl) (by kernel_rfl) (by kernel_rfl) (fun _ _ _ h=>h) (.inl ⟨by rfl,by (intro wq hSw; (try dsimp only at hSw); go_simp; (try (first | rfl | omega)))⟩) hHeld ?_
 simp only [Act.put,List.setIfInBounds_toArray,List.set_cons_zero,List.set_cons_succ]
 refine wpAnyH_ready (rs:=[4]) (by kernel_rfl) (by simp) ?_
 refine ready_tk (i:=4) rfl (by rfl) (fun K hK=>?_) AllReadyH.nil
 go_simp
 refine (HPT.out WD w2.heap.size (HB3.out.trans (HBD.out.mono HB3.out.size)) (HSS.out WD HBD.out).2.1).mono ?_
 rintro e WE ⟨xo,xc,rfl,hsl,hbe⟩
 have HSL:Hid (Sl 0 50 WE (.slice xo cs.length xc) (u64s cs)):=hsl
 have HBE:Hid (Below W3.heap.size W3 WE):=HBD.out.trans (hbe.mono HBD.out.size)
 refine hK.out _ _ (HSS.out WE HBE.out) (fun hHeld=>?_)
 clear hK K hsl hbe
 try simp only [Act.put,List.setIfInBounds_toArray,List.set_cons_zero,List.set_cons_succ]
 refine wpAnyH_tk (i:=5) (d:=23) (v:=.agg #[.int .u64 (S:Int),.slice xo cs.length xc]) rfl rfl (by kernel_rfl) (by kernel_rfl) (by kernel_rfl) (fun _ _ _ h=>h) (.inl ⟨by rfl,by (intro wq hSw; (try dsimp only at hSw); go_simp; (try (first | rfl | omega)))⟩) hHeld ?_
 simp only [Act.put,List.setIfInBounds_toArray,List.set_cons_zero,List.set_cons_succ]
 have hbE:=(HCX.out WE (HB3.out.trans (HBE.out.mono HB3.out.size))).2.2.2
 have cE0:WE.cell? ⟨w.heap.size+1,0,none⟩=some (.int .u64 0):=by simp [World.cell?,hbE]
 have cE1:WE.cell? ⟨w.heap.size+1,1,none⟩=some (.slice none 0 0):=by simp [World.cell?,hbE]
 have fE0:WE.frozen? ⟨w.heap.size+1,0,none⟩=false:=by simp [World.frozen?,hbE]
 have fE1:WE.frozen? ⟨w.heap.size+1,1,none⟩=false:=by simp [World.frozen?,hbE]
 refine wpAnyH_ready (rs:=[6]) (by kernel_rfl) (by simp) ?_
 refine ready_tk (i:=6) rfl (by rfl) (fun K hK=>?_) AllReadyH.nil
 go_simp
 obtain ⟨WF,hWF⟩:∃WF,WF=(WE.setCell ⟨w.heap.size+1,0,none⟩ (.int .u64 (S:Int))).setCell ⟨w.heap.size+1,1,none⟩ (.slice xo cs.length xc):=⟨_,rfl⟩
 have gF:WF.heap[w.heap.size+1]?=some (.cells #[.int .u64 (S:Int),.slice xo cs.length xc] 71 (0,0)):=by
  rw [hWF]
  simp [World.setCell,Array.getElem?_modify,hbE]
 have gO:∀b,b≠w.heap.size+1→WF.heap[b]?=WE.heap[b]?:=fun b hb=>by
  rw [hWF,Below.heap_setCell _ _ _ _ hb,Below.heap_setCell _ _ _ _ hb]
 have hbF:Below w.heap.size w WF:=by
  have h1:=HW.out.trans ((HB3.out.trans (HBE.out.mono HB3.out.size)).mono (by omega))
  rw [hWF]
  exact (h1.setCell (by exact Nat.le_succ _) _).setCell (by exact Nat.le_succ _) _
 have hslF:Sl 0 50 WF (.slice xo cs.length xc) (u64s cs):=HSL.out.move fun b hl ht=>⟨gO b fun e=>by
  subst e
  rcases ht with ht | ⟨c,ht⟩
  ·omega
  ·rw [hbE] at ht; simp at ht,ht⟩
 have hcF:∀b i,b≠w.heap.size+1→WF.cell? ⟨b,i,none⟩=WE.cell? ⟨b,i,none⟩:=fun b i hb=>by simp [World.cell?,gO b hb]
 have hsz2:w.heap.size+2≤w2.heap.size:=by have:=HB2.out.size; omega
 have HSF:Hid (WF.cell? ⟨w.heap.size,0,none⟩=some (.int .u64 (S:Int))∧WF.cell? ⟨w2.heap.size,0,none⟩=some (.int .u64 (px:Int))∧WF.cell? ⟨g2,0,none⟩=some (.slice bo bl bc)):=by
  have h0:=HSS.out WE HBE.out
  rw [hcF _ _ (by omega),hcF _ _ (by omega),hcF _ _ (by omega)]
  exact h0
 have HFIN:Hid (Sl 0 50 WF (.slice xo cs.length xc) (u64s cs)∧Below w.heap.size w WF):=⟨hslF,hbF⟩
 rw [←hWF]
 refine hK.out _ _ HSF.out (fun hHeld=>?_)
 clear hK K hWF hslF hbF hcF gO cE0 cE1 fE0 fE1 hbE
 refine wpAnyH_done (by kernel_rfl) ?_ _
 clear hHeld
 go_wp2
 refine bodyPost_ret (v:=.agg #[.int .u64 (S:Int),.slice xo cs.length xc]) (by simp [results,Tryz.results37,go_sem,World.cell?,gF]) rfl ?_
 exact ⟨xo,xc,rfl,HFIN.out.1,HFIN.out.2⟩
end Go.Proofs.YtadpjlpdfimaeaaGreatDoor
