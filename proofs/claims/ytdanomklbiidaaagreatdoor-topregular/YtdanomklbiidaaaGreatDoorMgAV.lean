import Derived.Test.YtdanomklbiidaaaGreatDoorMgAU
import Derived.Laws.StructEq
import Derived.ChangeKeysEq
import Derived.Test.YtdanomklbiidaaaGreatDoorMgAE
import Derived.Deep.Onto
namespace Go.Proofs.YtdanomklbiidaaaGreatDoor
open Go.RowKit
open Lin
attribute [local go_sem ↓] Go.wp_at_zero Go.wp_at_succ
theorem off_snoc (d:Nat) (u v x:List Int) (P:List (List Int)) (k:Nat) (h:k < P.length):offL d u v x (P.take (k+1))=offL d u v x (P.take k) ++ (if senP d u v x (P.getD k [])=(0,0) then [] else [senP d u v x (P.getD k [])]):=by
 rw [List.take_succ_eq_append_getElem h]
 unfold offL
 rw [List.map_append,List.filter_append]
 congr 1
 have e:P.getD k []=P[k]:=by simp [h]
 rw [e]
 by_cases hs:senP d u v x P[k]=(0,0)
 ·simp [hs]
 ·simp [hs]
theorem off_len (d:Nat) (u v x:List Int) (P:List (List Int)):(offL d u v x P).length≤P.length:=by
 unfold offL
 exact Nat.le_trans (List.length_filter_le _ _) (by simp)
theorem below_drewN {N:Nat} {w W:World} (h:Below N w W) (n:Nat):Below N w (W.drewN n):=⟨h.os,h.tape,h.output,h.size,h.block⟩
theorem cell_new2 (w:World) (x y:Value) (t:TypeId) (j:Nat) (u:Value) (h : [x,y][j]?=some u):(w.alloc (.cells #[x,y] t)).cell? ⟨w.heap.size,j,none⟩=some u:=by
 simpa using h
theorem frozen_new2 (w:World) (x y:Value) (t:TypeId) (j:Nat):(w.alloc (.cells #[x,y] t)).frozen? ⟨w.heap.size,j,none⟩=false:=by
 simp
theorem see_put {wr X:World} {a:Nat} {z0 z1:Value} (v1 v2:Value) (hB:Below wr.heap.size wr X) (ha:wr.heap.size≤a) (h0:X.cell? ⟨a,0,none⟩=some z0) (h1:X.cell? ⟨a,1,none⟩=some z1) :
  ∃a',Value.pointer (some ⟨a,0,none⟩)=.pointer (some ⟨a',0,none⟩)∧wr.heap.size≤a'∧((X.setCell ⟨a,0,none⟩ v1).setCell ⟨a,1,none⟩ v2).cell? ⟨a',0,none⟩=some v1∧((X.setCell ⟨a,0,none⟩ v1).setCell ⟨a,1,none⟩ v2).cell? ⟨a',1,none⟩=some v2∧Below wr.heap.size wr ((X.setCell ⟨a,0,none⟩ v1).setCell ⟨a,1,none⟩ v2):=by
 refine ⟨a,rfl,ha,?_,?_,(hB.setCell ha _).setCell ha _⟩
 ·rw [World.cell?_setCell_other _ _ _ _ (by simp),World.cell?_setCell_same _ _ _ h0]
 ·rw [World.cell?_setCell_same _ _ _ ((World.cell?_setCell_other _ _ _ _ (by simp)).trans h1)]
theorem owns_below2 {B N:Nat} {e:TypeId} {w w':World} {v:Value} {n:Nat} {xs:List Value} (h:w.ownsRow B e 2 v n xs) (hb:Below N w w') (hN:w.heap.size≤N):w'.ownsRow B e 2 v n xs:=
 h.kept (row:=none) ⟨hb.os,hb.tape,hb.output,hb.size,fun k hk _=>hb.block k (by omega)⟩ (by
  cases hv:v.ownBlock <;> simp)
theorem seen_eq (a b c e:Int) (w:World):(Op.equalIn 10000 131 (.agg #[.int .i64 a,.int .i64 b]) (.agg #[.int .i64 c,.int .i64 e])).run Tryz.prog w=.ok (decide (a=c) && decide (b=e)) w:=by
 have u3:=Tryz.underlying3
 have a3:=Tryz.isAgg3
 have z3:=Tryz.sizeOf3
 obtain ⟨i3,hi3,hz30,hz31,hz32⟩:=info_parts Tryz.info3
 have hu:Tryz.prog.underlying 131=some (.array 2 3):=by kernel_rfl
 have hc:Tryz.prog.cellsOf 3=1:=by kernel_rfl
 rw [show (10000:Nat)=9999+1 from rfl,run_equalIn_array w 9999 _ _ hu hi3,hc]
 simp only [show List.range 2=[0,1] from rfl,Op.eqItems]
 go_simp
 by_cases h1:a=c
 ·by_cases h2:b=e
  ·simp [h1,h2]
  ·simp [h1,h2]
 ·simp [h1]
structure SeeOk (d:Nat) (u v x:List Int) (P:List (List Int)):Prop where
 ul:u.length=d
 vl:v.length=d
 xl:x.length=d
 d5:d≤5
 pl:P.length≤1000
 ub:∀z∈u,z.natAbs≤10000
 vb:∀z∈v,z.natAbs≤10000
 xb:∀z∈x,z.natAbs≤30
 pb:∀y∈P,y.length=d∧∀z∈y,z.natAbs≤30
theorem sm_ofW {d:Nat} {u y:List Int} (h1:u.length=d) (h2:y.length=d) (h5:d≤5) (hu:∀z∈u,z.natAbs≤10000) (hy:∀z∈y,z.natAbs≤30):Sm u y:=
 ⟨by omega,by omega,fun z hz=>by have:=hu z hz; omega,fun z hz=>by have:=hy z hz; omega⟩
theorem dotL_bd {d:Nat} {u y:List Int} (h1:u.length=d) (h2:y.length=d) (h5:d≤5) (hu:∀z∈u,z.natAbs≤10000) (hy:∀z∈y,z.natAbs≤30):(dotL u y).natAbs≤1500000:=by
 have key:∀k,k≤d→(Lin.sumN k fun i=>u.getD i 0*y.getD i 0).natAbs≤k*300000:=by
  intro k
  induction k with
  | zero=>intro _; simp [Lin.sumN]
  | succ k ih=>
   intro hk
   have h:=ih (by omega)
   have h3:(u.getD k 0*y.getD k 0).natAbs≤10000*30:=by
    rw [Int.natAbs_mul]
    exact Nat.mul_le_mul (hu _ (by simp [show k < u.length by omega])) (hy _ (by simp [show k < y.length by omega]))
   simp only [Lin.sumN]
   omega
 have:=key d (Nat.le_refl _)
 unfold dotL
 rw [h1]
 omega
set_option maxRecDepth 100000 in
set_option maxHeartbeats 1600000 in
theorem seenOff_any (d:Nat) (u v x:List Int) (P:List (List Int)) (vx va vp:Value) (w:World) (hx:Sl w.heap.size 3 w vx (ints x)) (ha:Mat w.heap.size 22 3 w va [u,v]) (hp:Mat w.heap.size 22 3 w vp P) (hok:SeeOk d u v x P) :
  Calls Tryz.prog 105 #[vx,va,vp] w fun e w'=>∃z,e=.returned z∧Sns w'.heap.size w' z (offL d u v x P)∧Below w.heap.size w w':=by
 obtain ⟨i2,hi2,hz20,hz21,hz22⟩:=info_parts infoS2
 obtain ⟨ab,ao,ac,u1,hva,hal,hc0,hu1⟩:=mat_cell ha (k:=0) (by simp)
 obtain ⟨ab',ao',ac',v1,hva',_,hc1,hv1⟩:=mat_cell ha (k:=1) (by simp)
 subst hva
 simp only [Value.slice.injEq,Option.some.injEq,Addr.mk.injEq] at hva'
 obtain ⟨⟨rfl,rfl,-⟩,-,rfl⟩:=hva'
 obtain ⟨uo,uc,rfl,_,_⟩:=sl_open hu1
 obtain ⟨vo,vc,rfl,_,_⟩:=sl_open hv1
 obtain ⟨xo,xc,rfl,_,_⟩:=sl_open hx
 obtain ⟨po,pc,rfl,hpl,hpc⟩:=mat_open hp
 rw [Nat.add_zero] at hc0
 have e0:([u,v]:List (List Int)).getD 0 []=u:=rfl
 have e1:([u,v]:List (List Int)).getD 1 []=v:=rfl
 rw [e0] at hu1 hc0
 rw [e1] at hv1 hc1
 have HOK:Hid (SeeOk d u v x P):=hok
 have hPl:=hok.pl
 have HCC:Hid (∀W',Below w.heap.size w W'→W'.cell? ⟨ab,ao,none⟩=some (.slice uo u.length uc)∧W'.cell? ⟨ab,ao+1,none⟩=some (.slice vo v.length vc)):=fun W' h=>⟨(h.cell (lt_of_cell hc0)).trans hc0,(h.cell (lt_of_cell hc1)).trans hc1⟩
 have HP:Hid (∀W',Below w.heap.size w W'→Mat w.heap.size 22 3 W' (.slice po P.length pc) P):=fun W' h=>hp.below h (Nat.le_refl _)
 have HQu:Hid (∀W' (y:List Int) (s:Value),Below w.heap.size w W'→Sl W'.heap.size 3 W' s (ints y)→y.length=d→(∀z∈y,z.natAbs≤30)→Calls Tryz.prog 113 #[.slice uo u.length uc,s] W' fun e w'=>e=.returned (.int .i64 (dotL u y))∧∃n,w'=W'.drewN n):=fun W' y s hB hs h1 h2=>
  product_any W'.heap.size u y _ _ W' ((hu1.below hB (Nat.le_refl _)).any (by omega)) hs (sm_ofW hok.ul h1 hok.d5 hok.ub h2)
 have HQv:Hid (∀W' (y:List Int) (s:Value),Below w.heap.size w W'→Sl W'.heap.size 3 W' s (ints y)→y.length=d→(∀z∈y,z.natAbs≤30)→Calls Tryz.prog 113 #[.slice vo v.length vc,s] W' fun e w'=>e=.returned (.int .i64 (dotL v y))∧∃n,w'=W'.drewN n):=fun W' y s hB hs h1 h2=>
  product_any W'.heap.size v y _ _ W' ((hv1.below hB (Nat.le_refl _)).any (by omega)) hs (sm_ofW hok.vl h1 hok.d5 hok.vb h2)
 have HX:Hid (∀W',Below w.heap.size w W'→Sl W'.heap.size 3 W' (.slice xo x.length xc) (ints x)):=fun W' h=>(hx.below h (Nat.le_refl _)).any (by omega)
 have HDR:Hid (∀n,Below w.heap.size w (w.drewN n)):=fun n=>⟨rfl,rfl,rfl,Nat.le_refl _,fun _ _=>rfl⟩
 have hmk:∀W:World,(Instr.makeSlice 128 (.int .i64 0) (.int .i64 (P.length:Int))).run Tryz.prog W=.ok (.slice (some ⟨W.heap.size,0,none⟩) 0 P.length) (W.alloc (.cells (madeCells #[.int .i64 0,.int .i64 0] (P.length*2)) 131)):=fun W=>by
  have:=run_make (P:=Tryz.prog) W 128 131 i2 (.agg #[.int .i64 0,.int .i64 0]) Tryz.underlying128 hi2 hz20 .i64 .i64 0 P.length (by omega) (by omega) (by rw [hz22]; omega) (by omega)
  rw [hz21,show (Value.agg #[.int .i64 0,.int .i64 0]).cells=#[.int .i64 0,.int .i64 0] from rfl] at this
  simpa using this
 have HO0:Hid (∀n,((w.drewN n).alloc (.cells (madeCells #[.int .i64 0,.int .i64 0] (P.length*2)) 131)).ownsRow w.heap.size 131 2 (.slice (some ⟨w.heap.size,0,none⟩) 0 P.length) 0 []):=fun n=>
  World.ownsRow_made (w.drewN n) _ P.length (Nat.le_refl _) (by unfold maxLen; omega) (by rw [size_madeCells])
 have HB0:Hid (∀n,Below w.heap.size w ((w.drewN n).alloc (.cells (madeCells #[.int .i64 0,.int .i64 0] (P.length*2)) 131))):=fun n=>(HDR.out n).alloc (Nat.le_refl _) _
 have hux:=dotL_bd hok.ul hok.xl hok.d5 hok.ub hok.xb
 have hvx:=dotL_bd hok.vl hok.xl hok.d5 hok.vb hok.xb
 have HSE:Hid (∀y,senP d u v x y=(dotL u y-dotL u x,dotL v y-dotL v x)):=fun y=>by
  unfold senP
  rw [dotL_eq hok.ul,dotL_eq hok.ul,dotL_eq hok.vl,dotL_eq hok.vl]
 clear hu1 hv1 hx hp ha hok
 obtain ⟨du,hdu⟩:∃du,du=dotL u x:=⟨_,rfl⟩
 obtain ⟨dv,hdv⟩:∃dv,dv=dotL v x:=⟨_,rfl⟩
 have HDU:Hid (du=dotL u x):=hdu
 have HDV:Hid (dv=dotL v x):=hdv
 have HXu:Hid (∀n,Calls Tryz.prog 113 #[.slice uo u.length uc,.slice xo x.length xc] (w.drewN n) fun e w'=>e=.returned (.int .i64 du)∧∃m,w'=(w.drewN n).drewN m):=fun n=>by
  rw [hdu]
  exact HQu.out _ x _ (HDR.out n) (HX.out _ (HDR.out n)) HOK.out.xl HOK.out.xb
 have HXv:Hid (∀n,Calls Tryz.prog 113 #[.slice vo v.length vc,.slice xo x.length xc] (w.drewN n) fun e w'=>e=.returned (.int .i64 dv)∧∃m,w'=(w.drewN n).drewN m):=fun n=>by
  rw [hdv]
  exact HQv.out _ x _ (HDR.out n) (HX.out _ (HDR.out n)) HOK.out.xl HOK.out.xb
 rw [←hdu] at hux
 rw [←hdv] at hvx
 clear hdu hdv
 have hal2:(0:Int) < (([u,v]:List (List Int)).length:Int):=by simp
 have hal3:(1:Int) < (([u,v]:List (List Int)).length:Int):=by simp
 have hl2:([u,v]:List (List Int)).length=2:=rfl
 rw [hl2] at hal
 clear hl2 hal2 hal3
 go_enter Tryz.func105,Tryz.ntmps105
 go_wp2
 go_quiet (first | (go_at_call_of 113 (Value.slice uo u.length uc); exact Calls.quiet_of (w:=w) (HXu.out _)) | (go_at_call_of 113 (Value.slice vo v.length vc); exact Calls.quiet_of (w:=w) (HXv.out _)))
 go_wp2
 go_loopw [9,28] (fun s i wr=>∃k:Nat,k≤P.length∧i=.int .i64 k∧wr.ownsRow w.heap.size 131 2 s (offL d u v x (P.take k)).length (prV (offL d u v x (P.take k)))∧Below w.heap.size w wr) (fun _ i _=>P.length-(intOf i).toNat)
 case atStart=>exact ⟨0,Nat.zero_le _,rfl,HO0.out _,HB0.out _⟩
 case round=>
  obtain ⟨k,hk,rfl,ho,hb⟩:=hrel
  have HO:Hid (wr.ownsRow w.heap.size 131 2 u9 (offL d u v x (P.take k)).length (prV (offL d u v x (P.take k)))):=ho
  have HB:Hid (Below w.heap.size w wr):=hb
  have hsz:w.heap.size≤wr.heap.size:=hb.size
  have hoL:(offL d u v x (P.take k)).length≤k:=Nat.le_trans (off_len _ _ _ _ _) (by simp; omega)
  clear ho hb HO0 HB0 HXu HXv hmk hc0 hc1
  by_cases hlt:k < P.length
  ·have HSN:Hid (offL d u v x (P.take (k+1))=offL d u v x (P.take k) ++ (if senP d u v x (P.getD k [])=(0,0) then [] else [senP d u v x (P.getD k [])])):=off_snoc d u v x P k hlt
   have hyP:P.getD k []∈P:=by
    have:P.getD k []=P[k]:=by simp [hlt]
    rw [this]; exact List.getElem_mem _
   have hy1:=(HOK.out.pb _ hyP).1
   have hy2:=(HOK.out.pb _ hyP).2
   have hb1:=dotL_bd HOK.out.ul hy1 HOK.out.d5 HOK.out.ub hy2
   have hb2:=dotL_bd HOK.out.vl hy1 HOK.out.d5 HOK.out.vb hy2
   have HSY:=HSE.out (P.getD k [])
   obtain ⟨b2,o2,cp2,r2,hs2,_,hcc2,hr2⟩:=mat_cell (HP.out wr HB.out) hlt
   simp only [Value.slice.injEq] at hs2
   obtain ⟨rfl,-,rfl⟩:=hs2
   obtain ⟨ro,rc,rfl,_,_⟩:=sl_open hr2
   obtain ⟨hc0,hc1⟩:=HCC.out wr HB.out
   have H1:Hid (∀W',Below wr.heap.size wr W'→Calls Tryz.prog 113 #[.slice uo u.length uc,.slice ro (P.getD k []).length rc] W' fun e w'=>e=.returned (.int .i64 (dotL u (P.getD k [])))∧∃n,w'=W'.drewN n):=fun W' hB=>
    HQu.out W' _ _ (HB.out.trans (hB.mono hsz)) ((hr2.below hB (Nat.le_refl _)).any (Nat.le_refl _)) hy1 hy2
   have H2:Hid (∀W',Below wr.heap.size wr W'→Calls Tryz.prog 113 #[.slice vo v.length vc,.slice ro (P.getD k []).length rc] W' fun e w'=>e=.returned (.int .i64 (dotL v (P.getD k [])))∧∃n,w'=W'.drewN n):=fun W' hB=>
    HQv.out W' _ _ (HB.out.trans (hB.mono hsz)) ((hr2.below hB (Nat.le_refl _)).any (Nat.le_refl _)) hy1 hy2
   rw [HSY,←HDU.out,←HDV.out] at HSN
   clear hr2 hyP hy1 hy2 HSY
   generalize dotL u (P.getD k [])=Du at *
   generalize dotL v (P.getD k [])=Dv at *
   generalize (P.getD k []).length=yl at *
   have kI:(k:Int) < (P.length:Int):=by omega
   have kI0:(0:Int)≤(k:Int):=by omega
   obtain ⟨s1,hs1⟩:∃s1,s1=Du-du:=⟨_,rfl⟩
   obtain ⟨s2,hs2⟩:∃s2,s2=Dv-dv:=⟨_,rfl⟩
   have HS1:Hid (s1=Du-du):=hs1
   have HS2:Hid (s2=Dv-dv):=hs2
   rw [←hs1,←hs2] at HSN
   clear hs1 hs2
   have q1 : -1500000≤Du∧Du≤1500000:=by omega
   have q2 : -1500000≤Dv∧Dv≤1500000:=by omega
   have q3 : -1500000≤du∧du≤1500000:=by omega
   have q4 : -1500000≤dv∧dv≤1500000:=by omega
   obtain ⟨q1a,q1b⟩:=q1
   obtain ⟨q2a,q2b⟩:=q2
   obtain ⟨q3a,q3b⟩:=q3
   obtain ⟨q4a,q4b⟩:=q4
   clear hb1 hb2 hux hvx
   have hA0:∀n,((wr.drewN n).alloc (.cells #[.int .i64 0,.int .i64 0] 131)).cell? ⟨wr.heap.size,0,none⟩=some (.int .i64 0):=fun n=>cell_new2 (wr.drewN n) _ _ _ 0 _ rfl
   have hA1:∀n,((wr.drewN n).alloc (.cells #[.int .i64 0,.int .i64 0] 131)).cell? ⟨wr.heap.size,1,none⟩=some (.int .i64 0):=fun n=>cell_new2 (wr.drewN n) _ _ _ 1 _ rfl
   have hF0:∀n j,((wr.drewN n).alloc (.cells #[.int .i64 0,.int .i64 0] 131)).frozen? ⟨wr.heap.size,j,none⟩=false:=fun n j=>frozen_new2 (wr.drewN n) _ _ _ j
   have hC0:∀n,((wr.drewN n).alloc (.cells #[.int .i64 0,.int .i64 0] 131)).cell? ⟨ab,ao,none⟩=some (.slice uo u.length uc):=fun n=>(HCC.out _ ((below_drewN HB.out n).alloc hsz _)).1
   have hC1:∀n,((wr.drewN n).alloc (.cells #[.int .i64 0,.int .i64 0] 131)).cell? ⟨ab,ao+1,none⟩=some (.slice vo v.length vc):=fun n=>(HCC.out _ ((below_drewN HB.out n).alloc hsz _)).2
   have hA0d:(wr.drew.alloc (.cells #[.int .i64 0,.int .i64 0] 131)).cell? ⟨wr.heap.size,0,none⟩=some (.int .i64 0):=cell_new2 wr.drew _ _ _ 0 _ rfl
   have hA1d:(wr.drew.alloc (.cells #[.int .i64 0,.int .i64 0] 131)).cell? ⟨wr.heap.size,1,none⟩=some (.int .i64 0):=cell_new2 wr.drew _ _ _ 1 _ rfl
   have hF0d:∀j,(wr.drew.alloc (.cells #[.int .i64 0,.int .i64 0] 131)).frozen? ⟨wr.heap.size,j,none⟩=false:=fun j=>frozen_new2 wr.drew _ _ _ j
   have hC0d:(wr.drew.alloc (.cells #[.int .i64 0,.int .i64 0] 131)).cell? ⟨ab,ao,none⟩=some (.slice uo u.length uc):=(HCC.out _ ((HB.out.drew).alloc hsz _)).1
   have hC1d:(wr.drew.alloc (.cells #[.int .i64 0,.int .i64 0] 131)).cell? ⟨ab,ao+1,none⟩=some (.slice vo v.length vc):=(HCC.out _ ((HB.out.drew).alloc hsz _)).2
   have hA0w:(wr.alloc (.cells #[.int .i64 0,.int .i64 0] 131)).cell? ⟨wr.heap.size,0,none⟩=some (.int .i64 0):=cell_new2 wr _ _ _ 0 _ rfl
   have hA1w:(wr.alloc (.cells #[.int .i64 0,.int .i64 0] 131)).cell? ⟨wr.heap.size,1,none⟩=some (.int .i64 0):=cell_new2 wr _ _ _ 1 _ rfl
   have hF0w:∀j,(wr.alloc (.cells #[.int .i64 0,.int .i64 0] 131)).frozen? ⟨wr.heap.size,j,none⟩=false:=fun j=>frozen_new2 wr _ _ _ j
   have hC0w:(wr.alloc (.cells #[.int .i64 0,.int .i64 0] 131)).cell? ⟨ab,ao,none⟩=some (.slice uo u.length uc):=(HCC.out _ ((HB.out).alloc hsz _)).1
   have hC1w:(wr.alloc (.cells #[.int .i64 0,.int .i64 0] 131)).cell? ⟨ab,ao+1,none⟩=some (.slice vo v.length vc):=(HCC.out _ ((HB.out).alloc hsz _)).2
   go_upto_region 6 with fail
   go_cut [12,55] from 32 (fun p q wx=>q=undef∧∃a,p=.pointer (some ⟨a,0,none⟩)∧wr.heap.size≤a∧wx.cell? ⟨a,0,none⟩=some (.int .i64 s1)∧wx.cell? ⟨a,1,none⟩=some (.int .i64 s2)∧Below wr.heap.size wr wx)
   case first=>
    go_region_law (first
     | (refine step_call2 (o:={ dst:=some 36,op:=_,type:=_,pos:=_,after:=_,guard:=_ }) (by rfl) 113 _ _ 22 22 (by rfl) _ _ (by rfl) (by rfl) ⟨_,Tryz.func113,by rfl,by rfl⟩ ?_; refine (H1.out _ (by repeat (first | exact Below.refl _ _ | refine below_drewN ?_ _ | refine Below.drew ?_ | refine Below.alloc ?_ (by simp) _))).mono ?_; rintro e w2 ⟨rfl,n1,rfl⟩; refine ⟨_,rfl,?_⟩)
     | (refine step_call2 (o:={ dst:=some 43,op:=_,type:=_,pos:=_,after:=_,guard:=_ }) (by rfl) 113 _ _ 22 22 (by rfl) _ _ (by rfl) (by rfl) ⟨_,Tryz.func113,by rfl,by rfl⟩ ?_; refine (H2.out _ (by repeat (first | exact Below.refl _ _ | refine below_drewN ?_ _ | refine Below.drew ?_ | refine Below.alloc ?_ (by simp) _))).mono ?_; rintro e w2 ⟨rfl,n2,rfl⟩; refine ⟨_,rfl,?_⟩))
    all_goals go_wp2
    all_goals go_meet
    all_goals (have w1:IntKind.i64.wrap (Du-du)=s1:=by rw [HS1.out,IntWalk.i64_left,IntWalk.wrap64_in _ ⟨by omega,by omega⟩])
    all_goals (have w2:IntKind.i64.wrap (Dv-dv)=s2:=by rw [HS2.out,IntWalk.i64_left,IntWalk.wrap64_in _ ⟨by omega,by omega⟩])
    all_goals (try rw [w1]); (try rw [w2]); (try rw [←HS1.out]); (try rw [←HS2.out])
    all_goals refine ⟨rfl,?_⟩
    all_goals exact see_put _ _ (by repeat (first | exact Below.refl _ _ | refine below_drewN ?_ _ | refine Below.drew ?_ | refine Below.alloc ?_ (by simp) _)) (Nat.le_refl _) (by first | exact hA0w | exact hA0d | exact hA0 _) (by first | exact hA1w | exact hA1d | exact hA1 _)
   case rest=>
    obtain ⟨rfl,a,rfl,ha,k0,k1,hb1⟩:=hcut
    have HA:Hid (wr.heap.size≤a):=ha
    have HB1:Hid (Below wr.heap.size wr wc):=hb1
    have HO1:Hid (wc.ownsRow w.heap.size 131 2 u9 (offL d u v x (P.take k)).length (prV (offL d u v x (P.take k)))):=owns_below2 HO.out HB1.out (Nat.le_refl _)
    clear ha hb1 hA0 hA1 hF0 hC0 hC1 hA0d hA1d hF0d hC0d hC1d hA0w hA1w hF0w hC0w hC1w hc0 hc1 H1 H2
    go_upto_region 7 with fail
    have hse:=seen_eq s1 s2 0 0
    have HBW:Hid (Below w.heap.size w wc):=HB.out.trans (HB1.out.mono hsz)
    have hsc:w.heap.size≤wc.heap.size:=HBW.out.size
    by_cases hz:s1=0∧s2=0
    ·obtain ⟨z1,z2⟩:=hz
     subst z1 z2
     have HS:Hid (offL d u v x (P.take (k+1))=offL d u v x (P.take k)):=by
      show _=_
      rw [HSN,if_pos rfl,List.append_nil]
     clear HSN HS1 HS2
     go_wp2
     go_roundw
     case rel=>
      refine ⟨k+1,by omega,by go_num,?_,HBW.out⟩
      rw [HS.out]
      exact HO1.out
     case measure=>simp [intOf]; omega
    ·have HS:Hid (offL d u v x (P.take (k+1))=offL d u v x (P.take k) ++ [(s1,s2)]):=by
      show _=_
      rw [HSN,if_neg (fun e=>hz (by cases e; exact ⟨rfl,rfl⟩))]
     have hzz:(decide (s1=0) && decide (s2=0))=false:=by
      by_cases h1:s1=0
      ·simp [h1,show s2≠0 from fun h2=>hz ⟨h1,h2⟩]
      ·simp [h1]
     rw [hzz] at hse
     clear HSN HS1 HS2 hz hzz
     go_wp2_with (first | (at_builtin; refine wpList_append_own _ rfl _ _ 128 rfl w.heap.size 131 i2 (.agg #[.int .i64 0,.int .i64 0]) 2 16 Tryz.underlying128 hi2 hz20 hz21 hz22 rfl (by decide) _ _ _ rfl (HO1.out.alloc _) ⟨wc.heap.size,0,none⟩ 1 1 [.int .i64 s1,.int .i64 s2] rfl rfl (two_newS _ _ _ _) (two_intS _ _) ?c3 ?c4 ?c5 ?_))
     case c3=>unfold maxLen; omega
     case c4=>omega
     case c5=>first | exact hsc | omega | (simp; omega)
     intro v' w7 ho7 hg7 _
     have R1:Hid (w7.ownsRow w.heap.size 131 2 v' (offL d u v x (P.take (k+1))).length (prV (offL d u v x (P.take (k+1))))):=by
      have e2:prV (offL d u v x (P.take k) ++ [(s1,s2)])=prV (offL d u v x (P.take k)) ++ [.int .i64 s1,.int .i64 s2]:=by simp [prV]
      show World.ownsRow _ _ _ _ _ _ _
      rw [HS.out,e2,List.length_append]
      exact ho7
     have R2:Hid (Below w.heap.size w w7):=(HBW.out.alloc hsc _).grown hg7 (by simp; omega) (fun x hx=>(HO1.out.lt x hx).1)
     clear ho7 hg7
     go_wp2
     go_roundw
     case rel=>exact ⟨k+1,by omega,by go_num,R1.out,R2.out⟩
     case measure=>simp [intOf]; omega
  ·have hke:k=P.length:=by omega
   subst hke
   go_wp2
   go_ret
   refine ⟨_,rfl,?_,HB.out⟩
   have h:=HO.out
   rw [List.take_length] at h
   exact Sns.own h
end Go.Proofs.YtdanomklbiidaaaGreatDoor

namespace Go.Proofs.YtdanomklbiidaaaGreatDoor
open Go.RowKit
open Lin
attribute [local go_sem ↓] Go.wp_at_zero Go.wp_at_succ
structure AtOk (d:Nat) (u v x:List Int) (e:Int×Int):Prop where
 ul:u.length=d
 vl:v.length=d
 xl:x.length=d
 d1:1≤d
 d5:d≤5
 ub:∀z∈u,z.natAbs≤10000
 vb:∀z∈v,z.natAbs≤10000
 xb:∀z∈x,z.natAbs≤30
 eb:e.1.natAbs≤10000000∧e.2.natAbs≤10000000
theorem V_bd {u:List Int} {b:Nat} (h:∀z∈u,z.natAbs≤b) (i:Nat):(V u i).natAbs≤b:=by
 unfold V
 by_cases hi:i < u.length
 ·exact h _ (by simp [hi])
 ·simp [hi]
theorem rwE_bd {d:Nat} {u v x:List Int} {e:Int×Int} (h:AtOk d u v x e) (i:Nat):(rwE u v e i).natAbs≤200000000000:=by
 have h1:=V_bd h.ub i
 have h2:=V_bd h.vb i
 have h3:(e.1*V v i).natAbs≤10000000*10000:=by rw [Int.natAbs_mul]; exact Nat.mul_le_mul h.eb.1 h2
 have h4:(e.2*V u i).natAbs≤10000000*10000:=by rw [Int.natAbs_mul]; exact Nat.mul_le_mul h.eb.2 h1
 unfold rwE trn
 dsimp only
 omega
theorem rwA_facts {d:Nat} {u v x:List Int} {e:Int×Int} (h:AtOk d u v x e):(rwA d u v e).length=d∧(∀z∈rwA d u v e,z.natAbs≤200000000000)∧Sm (rwA d u v e) x:=by
 have h1:(rwA d u v e).length=d:=by unfold rwA; rw [low_len]; simp
 have h2:∀z∈rwA d u v e,z.natAbs≤200000000000:=by
  unfold rwA
  refine low_bd fun z hz=>?_
  obtain ⟨i,_,rfl⟩:=List.mem_map.1 hz
  exact rwE_bd h i
 exact ⟨h1,h2,by rw [h1,h.xl]; exact Nat.le_refl _,by have:=h.d5; omega,fun z hz=>by have:=h2 z hz; omega,fun z hz=>by have:=h.xb z hz; omega⟩
set_option maxRecDepth 100000 in
set_option maxHeartbeats 1600000 in
theorem rowAt_any (d:Nat) (u v x:List Int) (e:Int×Int) (va vx:Value) (w:World) (hx:Sl w.heap.size 3 w vx (ints x)) (ha:Mat w.heap.size 22 3 w va [u,v]) (hok:AtOk d u v x e) :
  Calls Tryz.prog 111 #[arr2 e.1 e.2,va,vx] w fun r w'=>∃z,r=.returned z∧w'.ownsRow w.heap.size 3 1 z (d+1) (ints (rowE d u v x e))∧Below w.heap.size w w':=by
 obtain ⟨i3,hi3,hz30,hz31,hz32⟩:=info_parts Tryz.info3
 obtain ⟨ab,ao,ac,u1,hva,hal,hc0,hu1⟩:=mat_cell ha (k:=0) (by simp)
 obtain ⟨ab',ao',ac',v1,hva',_,hc1,hv1⟩:=mat_cell ha (k:=1) (by simp)
 subst hva
 simp only [Value.slice.injEq,Option.some.injEq,Addr.mk.injEq] at hva'
 obtain ⟨⟨rfl,rfl,-⟩,-,rfl⟩:=hva'
 rw [Nat.add_zero] at hc0
 have e0:([u,v]:List (List Int)).getD 0 []=u:=rfl
 have e1:([u,v]:List (List Int)).getD 1 []=v:=rfl
 rw [e0] at hu1
 rw [e1] at hv1
 clear e0 e1
 obtain ⟨ub,uf,uc,rfl,_,_⟩:=sl_cell hu1 (k:=0) (by rw [hok.ul]; exact hok.d1)
 obtain ⟨vb,vf,vc,rfl,_,_⟩:=sl_cell hv1 (k:=0) (by rw [hok.vl]; exact hok.d1)
 obtain ⟨xo,xc,rfl,_,_⟩:=sl_open hx
 have hd1:=hok.d1
 have hd5:=hok.d5
 have HOK:Hid (AtOk d u v x e):=hok
 have hul:=hok.ul
 have hvl:=hok.vl
 have hxl:=hok.xl
 have hl2:([u,v]:List (List Int)).length=2:=rfl
 rw [hl2] at hal ⊢
 rw [hxl]
 rw [hul] at hu1 hc0
 rw [hvl] at hv1 hc1
 rw [hxl] at hx
 clear hl2
 have HCC:Hid (∀W',Below w.heap.size w W'→W'.cell? ⟨ab,ao,none⟩=some (.slice (some ⟨ub,uf,none⟩) d uc)∧W'.cell? ⟨ab,ao+1,none⟩=some (.slice (some ⟨vb,vf,none⟩) d vc)):=fun W' h=>⟨(h.cell (lt_of_cell hc0)).trans hc0,(h.cell (lt_of_cell hc1)).trans hc1⟩
 have HUV:Hid (∀W',Below w.heap.size w W'→∀k,k < d→W'.cell? ⟨ub,uf+k,none⟩=some (.int .i64 (V u k))∧W'.cell? ⟨vb,vf+k,none⟩=some (.int .i64 (V v k))):=fun W' h k hk=>by
  obtain ⟨b1,o1,c1,hs1,_,k1⟩:=sl_cell (hu1.below h (Nat.le_refl _)) (k:=k) (by omega)
  obtain ⟨b2,o2,c2,hs2,_,k2⟩:=sl_cell (hv1.below h (Nat.le_refl _)) (k:=k) (by omega)
  simp only [Value.slice.injEq,Option.some.injEq,Addr.mk.injEq] at hs1 hs2
  obtain ⟨⟨rfl,rfl,-⟩,-,rfl⟩:=hs1
  obtain ⟨⟨rfl,rfl,-⟩,-,rfl⟩:=hs2
  exact ⟨k1,k2⟩
 have HX:Hid (∀W',Below w.heap.size w W'→Sl W'.heap.size 3 W' (.slice xo d xc) (ints x)):=fun W' h=>(hx.below h (Nat.le_refl _)).any (Nat.le_refl _)
 have hmk:=run_make_row' (P:=Tryz.prog) 22 3 (.int .i64 0) 8 Tryz.underlying22 Tryz.info3 rfl .i64 .i64 d (by omega) (by omega)
 clear hu1 hv1 hx ha hok hc0 hc1 hul hvl hxl
 unfold arr2
 go_enter Tryz.func111,Tryz.ntmps111
 go_wp2
 go_loopw [14] (fun i wr=>∃k:Nat,k≤d∧i=.int .i64 k∧wr.rowIs (w.heap.size+1) 3 d (fun j=>.int .i64 (if j < k then rwE u v e j else 0))∧(wr.cell? ⟨w.heap.size,0,none⟩=some (.int .i64 e.1)∧wr.cell? ⟨w.heap.size,1,none⟩=some (.int .i64 e.2))∧Below w.heap.size w wr) (fun i _=>d-(intOf i).toNat)
 case atStart=>
  have hb1:=(Below.refl w.heap.size w).alloc (Nat.le_refl _) (.cells #[.int .i64 e.1,.int .i64 e.2] 131)
  refine ⟨0,Nat.zero_le _,rfl,?_,⟨by simp,by simp⟩,hb1.alloc (by rw [size_alloc]; omega) _⟩
  have h:=World.rowIs_made (w.alloc (.cells #[.int .i64 e.1,.int .i64 e.2] 131)) (.int .i64 0) d 3
  rw [size_alloc] at h
  exact h.congr fun i hi=>by simp
 case round=>
  obtain ⟨k,hk,rfl,hrow,⟨he0,he1⟩,hb⟩:=hrel
  have HR:Hid (wr.rowIs (w.heap.size+1) 3 d (fun j=>.int .i64 (if j < k then rwE u v e j else 0))):=hrow
  have HB:Hid (Below w.heap.size w wr):=hb
  have HE:Hid (∀W',Below wr.heap.size wr W'→W'.cell? ⟨w.heap.size,0,none⟩=some (.int .i64 e.1)∧W'.cell? ⟨w.heap.size,1,none⟩=some (.int .i64 e.2)):=fun W' h=>⟨(h.cell (lt_of_cell he0)).trans he0,(h.cell (lt_of_cell he1)).trans he1⟩
  clear hrow hb
  by_cases hlt:k < d
  ·obtain ⟨hc0,hc1⟩:=HCC.out wr HB.out
   obtain ⟨hu0,hv0⟩:=HUV.out wr HB.out k hlt
   have q1:=V_bd HOK.out.ub k
   have q2:=V_bd HOK.out.vb k
   have q3:=HOK.out.eb.1
   have q4:=HOK.out.eb.2
   have HT:Hid (∀W',Calls Tryz.prog 107 #[.agg #[.int .i64 (V u k),.int .i64 (V v k)],.agg #[.int .i64 e.1,.int .i64 e.2]] W' fun r w'=>r=.returned (.int .i64 (rwE u v e k))∧Below W'.heap.size W' w'):=fun W'=>
    turnP_any (V u k,V v k) e ⟨by omega,by omega⟩ ⟨by omega,by omega⟩ W'
   have HST:Hid (∀W':World,W'.rowIs (w.heap.size+1) 3 d (fun j=>.int .i64 (if j < k then rwE u v e j else 0))→(W'.setCell ⟨w.heap.size+1,k,none⟩ (.int .i64 (rwE u v e k))).rowIs (w.heap.size+1) 3 d (fun j=>.int .i64 (if j < k+1 then rwE u v e j else 0))):=fun W' h=>by
    refine (h.set k _).congr fun j hj=>?_
    by_cases f1:j=k
    ·subst f1; simp
    ·by_cases f2:j < k
     ·simp [f1,f2,show j < k+1 by omega]
     ·simp [f1,f2,show ¬j < k+1 by omega]
   generalize rwE u v e k=T at *
   generalize V u k=uk at *
   generalize V v k=vk at *
   have kI:(k:Int) < (d:Int):=by omega
   have kI0:(0:Int)≤(k:Int):=by omega
   clear q1 q2 q3 q4
   go_upto_region 5 with fail
   go_region_law (refine step_call2 (o:={ dst:=some 33,op:=_,type:=_,pos:=_,after:=_,guard:=_ }) (by rfl) 107 _ _ 131 131 (by rfl) _ _ (by rfl) (by rfl) ⟨_,Tryz.func107,by rfl,by rfl⟩ ?_; refine (HT.out _).mono ?_; rintro r w2 ⟨rfl,hb2⟩; refine ⟨_,rfl,?_⟩; have HB2:Hid (Below wr.heap.size wr w2):=(Below.refl _ _).drew.trans hb2; clear hb2; have HR2:Hid (w2.rowIs (w.heap.size+1) 3 d (fun j=>.int .i64 (if j < k then rwE u v e j else 0))):=rowIs_below HR.out HB2.out (Nat.le_refl _); have g1:=HR2.out.cell (i:=k) hlt; have g2:=HR2.out.frozen k)
   all_goals
    clear hc0 hc1 hu0 hv0 he0 he1 g1 g2
    go_wp2
    go_roundw
    case rel=>
     refine ⟨k+1,by omega,by go_num,HST.out _ HR2.out,?_,(HB.out.trans (HB2.out.mono HB.out.size)).setCell (by show w.heap.size≤w.heap.size+1; omega) _⟩
     obtain ⟨p1,p2⟩:=HE.out w2 HB2.out
     exact ⟨(World.cell?_setCell_other _ _ _ _ (by simp)).trans p1,(World.cell?_setCell_other _ _ _ _ (by simp)).trans p2⟩
    case measure=>simp [intOf]; omega
  ·have hke:k=d:=by omega
   subst hke
   clear he0 he1
   obtain ⟨fl,fb,fs⟩:=rwA_facts HOK.out
   have HPR:Hid (Calls Tryz.prog 116 #[.slice (some ⟨w.heap.size+1,0,none⟩) k k] wr fun e' w'=>∃z,e'=.returned z∧w'.ownsRow wr.heap.size 3 1 z k (ints (rwA k u v e))∧Below wr.heap.size wr w'):=by
    have hsl:Sl wr.heap.size 3 wr (.slice (some ⟨w.heap.size+1,0,none⟩) k k) (ints ((List.range k).map (rwE u v e))):=by
     refine Sl.row HR.out (by simp) (by unfold maxLen; omega) fun i hi=>?_
     rw [ints_get _ _ (by simpa using hi),if_pos hi]
     simp [hi]
    have h:=primitive_own wr.heap.size _ _ wr hsl (by simp; omega) (fun z hz=>by
     obtain ⟨i,_,rfl⟩:=List.mem_map.1 hz
     have:=rwE_bd HOK.out i
     omega)
    refine h.mono ?_
    rintro e' w' ⟨z,h1,h2,h3⟩
    refine ⟨z,h1,?_,h3⟩
    unfold rwA
    simpa using h2
   clear HE HCC HUV HR
   go_upto_region 7 with fail
   go_wp2_with fail
   refine HPR.out.mono ?_
   rintro e' w3 ⟨z,rfl,ho,hb3⟩
   obtain ⟨zo,zc,rfl⟩:=owns_form ho
   have HO:Hid (w3.ownsRow wr.heap.size 3 1 (.slice zo k zc) k (ints (rwA k u v e))):=ho
   have HB3:Hid (Below wr.heap.size wr w3):=hb3
   have HBW:Hid (Below w.heap.size w w3):=HB.out.trans (hb3.mono HB.out.size)
   have hs3:w.heap.size≤w3.heap.size:=HBW.out.size
   have HPD:Hid (∀W',Below w3.heap.size w3 W'→Calls Tryz.prog 113 #[.slice zo k zc,.slice xo k xc] W' fun e' w'=>e'=.returned (.int .i64 (dotL (rwA k u v e) x))∧∃n,w'=W'.drewN n):=fun W' hB=>by
    have hsl:Sl W'.heap.size 3 W' (.slice zo k zc) (ints (rwA k u v e)):=Sl.own (owns_below ho hB (Nat.le_refl _))
    exact product_any W'.heap.size _ x _ _ W' hsl (HX.out W' (HBW.out.trans (hB.mono hs3))) fs
   clear ho hb3 HPR
   go_wp2_with fail
   refine (HPD.out w3 (Below.refl _ _)).mono ?_
   rintro e' w4 ⟨rfl,n4,rfl⟩
   have HRE:Hid (rowE k u v x e=rwA k u v e ++ [dotL (rwA k u v e) x]):=rfl
   have HO4:Hid ((w3.drewN n4).ownsRow w.heap.size 3 1 (.slice zo k zc) k (ints (rwA k u v e))):=(owns_below HO.out (below_drewN (Below.refl _ _) n4) (Nat.le_refl _)).mono HB.out.size
   have HB4:Hid (Below w.heap.size w (w3.drewN n4)):=below_drewN HBW.out n4
   generalize dotL (rwA k u v e) x=bv at *
   obtain ⟨W4,hW4⟩:∃W4,W4=w3.drewN n4:=⟨_,rfl⟩
   rw [←hW4] at HO4 HB4 ⊢
   have hs4:w.heap.size≤W4.heap.size:=HB4.out.size
   clear hW4 HO HB3 HBW HPD hmk HX
   go_wp2_with (first | (at_builtin; refine wpList_append_own _ rfl _ _ 22 rfl w.heap.size 3 i3 (.int .i64 0) 1 8 Tryz.underlying22 hi3 hz30 hz31 hz32 rfl (by decide) _ _ _ rfl (HO4.out.alloc _) ⟨W4.heap.size,0,none⟩ 1 1 [.int .i64 bv] rfl rfl (one_new _ _ _) (one_int _) ?c3 ?c4 ?c5 ?_))
   case c3=>unfold maxLen; omega
   case c4=>omega
   case c5=>first | exact hs4 | omega | (simp; omega)
   intro v' w7 ho7 hg7 _
   have R1:Hid (w7.ownsRow w.heap.size 3 1 v' (k+1) (ints (rowE k u v x e))):=by
    have e2:ints (rwA k u v e ++ [bv])=ints (rwA k u v e) ++ [.int .i64 bv]:=by simp [ints]
    show World.ownsRow _ _ _ _ _ _ _
    rw [HRE.out,e2]
    exact ho7
   have R2:Hid (Below w.heap.size w w7):=(HB4.out.alloc hs4 _).grown hg7 (by simp; omega) (fun x hx=>(HO4.out.lt x hx).1)
   clear ho7 hg7
   go_wp2
   go_ret
   exact ⟨_,rfl,R1.out,R2.out⟩
end Go.Proofs.YtdanomklbiidaaaGreatDoor
