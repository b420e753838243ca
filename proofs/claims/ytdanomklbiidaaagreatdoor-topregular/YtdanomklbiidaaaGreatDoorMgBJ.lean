import Derived.Test.YtdanomklbiidaaaGreatDoorMgBG
import Derived.Test.YtdanomklbiidaaaGreatDoorHm7
import Derived.Test.YtdanomklbiidaaaGreatDoorMgBB
import Derived.Test.YtdanomklbiidaaaGreatDoorMgAE
import Derived.Test.YtdanomklbiidaaaGreatDoorMgAI
import Derived.Test.YtdanomklbiidaaaGreatDoorMgAQ
import Derived.Test.YtdanomklbiidaaaGreatDoorMgAF
import Derived.Test.YtdanomklbiidaaaGreatDoorMgBI
import Derived.Test.YtdanomklbiidaaaGreatDoorMgAY
namespace Go.Proofs.YtdanomklbiidaaaGreatDoor
open Go.RowKit Lin
attribute [local go_sem ↓] Go.wp_at_zero Go.wp_at_succ
def cellL (c:List Int):List Int:=memL (setN c)
end Go.Proofs.YtdanomklbiidaaaGreatDoor

namespace Go.Proofs.YtdanomklbiidaaaGreatDoor
open Go.RowKit Lin
attribute [local go_sem ↓] Go.wp_at_zero Go.wp_at_succ
def amt (C:List (List Int)) (cell:List Int):Int:=((detL (diffL (pks C [] cell))).natAbs:Int)
theorem pks_lenP (C:List (List Int)) (cell:List Int):(pks C [] cell).length=cell.length:=by simp [pks]
theorem pks_boxV {d M:Nat} {C:List (List Int)} (hC:Box d M C) {cell:List Int} (hc:∀x∈cell,0≤x∧x < (C.length:Int)):Box d M (pks C [] cell):=by
 intro r hr
 obtain ⟨x,hx,rfl⟩:=List.mem_map.1 hr
 have:=hc x hx
 exact hC _ (by simp [show x.toNat < C.length by omega])
theorem detL_bd {m:List (List Int)} {Bd:Nat} (h:Sq m.length Bd m):(detL m).natAbs≤fb Bd m.length:=by
 have hb:=Lin.od_bd (n:=m.length) (B:=Bd) (fm m) (fun _=>false) (fun r hr j hj=>by
  simp only [fm,List.mem_map] at hr
  obtain ⟨l,hl,rfl⟩:=hr
  exact h.bd l hl j hj) (by rw [Lin.cu_none]; simp [fm])
 have e:(fm m).length=m.length:=by simp [fm]
 rw [e] at hb
 exact hb
end Go.Proofs.YtdanomklbiidaaaGreatDoor

namespace Go.Proofs.YtdanomklbiidaaaGreatDoor
open Go.RowKit Lin
attribute [local go_sem ↓] Go.wp_at_zero Go.wp_at_succ
set_option maxRecDepth 100000 in
set_option maxHeartbeats 1600000 in
theorem much_any (B d:Nat) (m:List (List Int)) (v:Value) (w:World) (hv:Mat B 22 3 w v m) (hbx:Box d 30 m) (hd1:1≤d) (hd:d≤4) (hl:m.length=d+1) :
  Calls Tryz.prog 25 #[v] w fun e w'=>e=.returned (.int .i64 ((detL (diffL m)).natAbs:Int))∧Below w.heap.size w w':=by
 obtain ⟨vo,vc,rfl,_,_⟩:=mat_open hv
 have hln:(diffL m).length=d:=by rw [diffL_length]; omega
 have hmx:=diff_mx hbx hd1 (by omega)
 have hdb:(detL (diffL m)).natAbs≤1000000000000:=by
  have hsq:Sq (diffL m).length 60 (diffL m):=⟨rfl,fun r hr=>by rw [hmx.row r hr,hln]; exact Nat.le_refl _,fun r hr j hj=>hmx.bd r hr _ (getD_mem (by rw [hmx.row r hr]; omega)),by rw [hln]; exact Nat.le_trans (fb_mono (by decide) hd) (by decide),by omega,by decide⟩
  have:=detL_bd hsq
  rw [hln] at this
  exact Nat.le_trans this (Nat.le_trans (fb_mono (by decide) hd) (by decide))
 have H1:Hid (Calls Tryz.prog 40 #[.slice vo m.length vc] w fun e w'=>∃xo xl xc,e=.returned (.slice xo xl xc)∧Mat w'.heap.size 22 3 w' (.slice xo xl xc) (diffL m)∧Below w.heap.size w w'):=by
  refine (differences_any B d m _ w hv (by omega) (by omega) hd1 (by omega) (fun r hr=>(hbx r hr).1) (fun r hr z hz=>by have:=(hbx r hr).2 z hz; omega)).mono ?_
  rintro e w' ⟨x,rfl,hx,hb⟩
  have hM:=hx.mat (B':=w'.heap.size) hb.size
  obtain ⟨xo,xc,rfl,_,_⟩:=mat_open hM
  exact ⟨xo,_,xc,rfl,hM,hb⟩
 have H2:Hid (∀X u,Mat X.heap.size 22 3 X u (diffL m)→Calls Tryz.prog 47 #[u] X fun e w'=>e=.returned (.int .i64 (detL (diffL m)))∧Below X.heap.size X w'):=fun X u hu=>detP_any X.heap.size (diffL m) u X (by rw [hln]; exact hmx) hu (by omega)
 clear hv hbx hmx hln hl
 go_enter Tryz.func25,Tryz.ntmps25
 go_wp2_with fail
 refine H1.out.mono ?_
 rintro e w1 ⟨xo,xl,xc,rfl,hM,hb1⟩
 have HD:=H2.out w1 _ hM
 have HB1:Hid (Below w.heap.size w w1):=hb1
 clear hM hb1 H1 H2
 obtain ⟨D,hDe⟩:∃D,D=detL (diffL m):=⟨_,rfl⟩
 have HDE:Hid (D=detL (diffL m)):=hDe
 rw [←hDe] at HD hdb
 clear hDe
 go_wp2_with fail
 refine HD.mono ?_
 rintro e w2 ⟨rfl,hb2⟩
 have HB2:Hid (Below w.heap.size w w2):=HB1.out.trans (hb2.mono HB1.out.size)
 clear hb2 HD
 have hw1:IntKind.wrap .i64 (-D)=-D:=by rw [IntKind.wrap_i64]; omega
 go_wp2
 go_ret
 refine ⟨ret_int ?_,HB2.out⟩
 rw [←HDE.out]
 omega
end Go.Proofs.YtdanomklbiidaaaGreatDoor

namespace Go.Proofs.YtdanomklbiidaaaGreatDoor
open Go.RowKit Lin
attribute [local go_sem ↓] Go.wp_at_zero Go.wp_at_succ
def idn (n:Nat):List Int:=(List.range n).map fun i:Nat=>(i:Int)
theorem idn_len (n:Nat):(idn n).length=n:=by simp [idn]
theorem idn_snoc (k:Nat):ints (idn (k+1))=ints (idn k) ++ [.int .i64 (k:Int)]:=by
 simp [idn,ints,List.range_succ]
theorem idn_nodup (n:Nat):(idn n).Nodup:=by
 unfold idn
 rw [List.nodup_iff_pairwise_ne,List.pairwise_map]
 refine List.Pairwise.imp (fun {a b} hab e=>hab ?_) (List.nodup_iff_pairwise_ne.1 List.nodup_range)
 omega
def amS (C:List (List Int)) (m:List (List Int)):Int:=(m.map (amt C)).sum
theorem amS_snoc {C m:List (List Int)} {k:Nat} (hk:k < m.length):amS C (m.take (k+1))=amS C (m.take k)+amt C (m.getD k []):=by
 unfold amS
 rw [List.take_succ_eq_append_getElem hk,List.map_append,List.sum_append]
 simp [hk]
theorem amS_bd {C m:List (List Int)} (h:∀c∈m,0≤amt C c∧amt C c≤1000000000):∀k,k≤m.length→0≤amS C (m.take k)∧amS C (m.take k)≤1000000000*k
 | 0,_=>by simp [amS]
 | k+1,hk=>by
  have ih:=amS_bd h k (by omega)
  rw [amS_snoc (by omega)]
  have:=h (m.getD k []) (by simp [show k < m.length by omega])
  omega
theorem cell_sqV {d:Nat} {C:List (List Int)} (hC:Box d 30 C) (hd1:1≤d) (hd:d≤4) {cell:List Int} (hc:∀x∈cell,0≤x∧x < (C.length:Int)) (hl:cell.length=d+1):Sq (diffL (pks C [] cell)).length 60 (diffL (pks C [] cell))∧(diffL (pks C [] cell)).length=d:=by
 have hb:=pks_boxV hC hc
 have hlen:(diffL (pks C [] cell)).length=d:=by rw [diffL_length,pks_lenP]; omega
 have hmx:=diff_mx hb hd1 (by omega)
 refine ⟨⟨rfl,fun r hr=>?_,fun r hr j hj=>?_,?_,by omega,by decide⟩,hlen⟩
 ·rw [hmx.row r hr,hlen]; exact Nat.le_refl _
 ·have hrl:=hmx.row r hr
  have:=hmx.bd r hr (r.getD j 0) (getD_mem (by omega))
  omega
 ·rw [hlen]
  exact Nat.le_trans (fb_mono (by decide) hd) (by decide)
set_option maxRecDepth 100000 in
set_option maxHeartbeats 3200000 in
theorem volOf_any {LV:Nat→List (List Int)} (d:Nat) (P C s s0:List (List Int)) (A:List Nat) (v:Value) (w:World) (hv:Mat w.heap.size 22 3 w v P) (hg:Good d P) (hbx:Box d 30 P) (hn:P.length≤10) (hT:TabB w) (hD:DocF d P C s A) (hLv:∀t,t < d+2→LevOk d C A t (LV t)) (hP:LvP LV (idn C.length) C.length d) (hl1:(LV 1).length=C.length) (face:List Int) (hone:LV (d+1)=[face])
  (hs0:∀r,r∈s0↔r∈rowsD P d) (hcn:SAsc C) (hcm:∀y,y∈C↔y∈crn d s0 P) (hcell:∀c∈(pulS LV (idn C.length) (d+1) face).map memL,c.length=d+1∧∀x∈c,0≤x∧x < (C.length:Int)) :
  Calls Tryz.prog 9 #[.agg #[.int .i64 d,v]] w fun e w'=>∃m:List (List Int),e=.returned (.tuple #[.int .i64 (amS C m),.int .i64 0])∧SAsc m∧(∀r,r∈m↔r∈(pulS LV (idn C.length) (d+1) face).map memL)∧Below w.heap.size w w':=by
 obtain ⟨i3,hi3,hz30,hz31,hz32⟩:=info_parts Tryz.info3
 obtain ⟨po,pc,rfl,hlc,hcmx⟩:=mat_open hv
 have h1:=hg.d1
 have h4:=hg.d4
 have hC10:=doc_small hD hn
 have hCP:∀y∈C,y∈P:=fun y hy=>(List.mem_filter.1 ((hcm y).1 hy)).1
 have hCB:Box d 30 C:=fun y hy=>hbx y (hCP y hy)
 obtain ⟨W,hW⟩:∃W,W=w.alloc (.cells #[.int .i64 d,.slice po P.length pc] 34):=⟨_,rfl⟩
 have hbw:Below w.heap.size w W:=by rw [hW]; exact alloc_keep _ _
 have HW:Hid (Below w.heap.size w W):=hbw
 have hsW:W.heap.size=w.heap.size+1:=by rw [hW]; exact size_alloc _ _
 have c0:W.cell? ⟨w.heap.size,0,none⟩=some (.int .i64 d):=by rw [hW]; simp
 have c1:W.cell? ⟨w.heap.size,1,none⟩=some (.slice po P.length pc):=by rw [hW]; simp
 have HC:Hid (∀X,Below W.heap.size W X→X.cell? ⟨w.heap.size,0,none⟩=some (.int .i64 d)∧X.cell? ⟨w.heap.size,1,none⟩=some (.slice po P.length pc)):=fun X h=>⟨(h.cell (lt_of_cell c0)).trans c0,(h.cell (lt_of_cell c1)).trans c1⟩
 have HM:Hid (∀X,Below W.heap.size W X→Mat X.heap.size 22 3 X (.slice po P.length pc) P):=fun X h=>(((hv.below hbw (Nat.le_refl _)).any (Nat.le_refl _)).below h (Nat.le_refl _)).any (Nat.le_refl _)
 have K1:Hid (Calls Tryz.prog 23 #[.agg #[.int .i64 d,.slice po P.length pc]] W fun e w'=>∃co cc,e=.returned (.tuple #[.slice co C.length cc,.int .i64 0])∧(Mat 0 22 3 w' (.slice co C.length cc) C∧Below W.heap.size W w')):=by
  refine (cornersK_fr d P _ W (HM.out W (Below.refl _ _)) hg).mono ?_
  rintro e w' ⟨P',u,rows,hin,hrw,rfl,hf,hb⟩
  have hM:=fr_mat0F hf
  have he:=corners_equalK hg hin hrw hs0 hcn hcm
  rw [he] at hM
  obtain ⟨co,cc,rfl,_,_⟩:=mat_open hM
  exact ⟨co,cc,rfl,hM,hb⟩
 have K2:Hid (∀X oo oc,Below W.heap.size W X→Sl X.heap.size 3 X (.slice oo C.length oc) (ints (idn C.length))→Calls Tryz.prog 24 #[.agg #[.int .i64 d,.slice po P.length pc],.slice oo C.length oc] X fun e w'=>∃(m:List (List Int)) (xo:Option Addr) (xc:Nat),e=.returned (.tuple #[.slice xo m.length xc,.int .i64 0])∧(SAsc m∧(∀r,r∈m↔r∈(pulS LV (idn C.length) (d+1) face).map memL)∧Mat 0 22 3 w' (.slice xo m.length xc) m∧Below X.heap.size X w')):=fun X oo oc hX hO=>by
  have h:=cells_any (LV:=LV) (order:=idn C.length) d P C s A (.slice po P.length pc) oo oc X (HM.out X hX) hg hn ((hT.below hbw).below hX) hD hLv hP hl1 face hone (by rw [idn_len]; exact hO) (idn_len _) (idn_nodup _)
  rw [idn_len] at h
  refine h.mono ?_
  rintro e w' ⟨m,xo,xc,rfl,q1,q2,q3,q4⟩
  exact ⟨m,xo,xc,rfl,q1,q2,q3,q4⟩
 have HAB:Hid (∀c,c∈(pulS LV (idn C.length) (d+1) face).map memL→0≤amt C c∧amt C c≤1000000000):=fun c hc=>by
  obtain ⟨q1,q2⟩:=hcell c hc
  obtain ⟨hsq,hln⟩:=cell_sqV hCB h1 h4 q2 q1
  have hb:=detL_bd hsq
  rw [hln] at hb
  have h2:=Nat.le_trans hb (Nat.le_trans (fb_mono (by decide) h4) (show fb 60 4≤1000000000 by decide))
  unfold amt
  omega
 have K3:Hid (∀X c co cc u,c∈(pulS LV (idn C.length) (d+1) face).map memL→Mat 0 22 3 X (.slice co C.length cc) C→Sl 0 3 X u (ints c)→Calls Tryz.prog 26 #[.slice co C.length cc,u] X fun e w'=>∃zo zl zc,e=.returned (.slice zo zl zc)∧Mat w'.heap.size 22 3 w' (.slice zo zl zc) (pks C [] c)∧Below X.heap.size X w'):=fun X c co cc u hc hM hu=>by
  obtain ⟨q1,q2⟩:=hcell c hc
  refine (pickedP_any 0 C c _ u X hM hu (fun i hi=>q2 _ (getD_mem hi)) (by omega)).mono ?_
  rintro e w' ⟨z,rfl,hz,hb⟩
  have hM2:=hz.mat (B':=w'.heap.size) hb.size
  obtain ⟨zo,zc,rfl,_,_⟩:=mat_open hM2
  exact ⟨zo,_,zc,rfl,hM2,hb⟩
 have K4:Hid (∀X c u,c∈(pulS LV (idn C.length) (d+1) face).map memL→Mat X.heap.size 22 3 X u (pks C [] c)→Calls Tryz.prog 25 #[u] X fun e w'=>e=.returned (.int .i64 (amt C c))∧Below X.heap.size X w'):=fun X c u hc hM=>by
  obtain ⟨q1,q2⟩:=hcell c hc
  have hb:=pks_boxV hCB q2
  exact much_any X.heap.size d (pks C [] c) u X hM (fun r hr=>⟨(hb r hr).1,fun z hz=>by have:=(hb r hr).2 z hz; omega⟩) h1 h4 (by rw [pks_lenP]; exact q1)
 have HMC:Hid (∀m:List (List Int),SAsc m→(∀r,r∈m↔r∈(pulS LV (idn C.length) (d+1) face).map memL)→m.length≤1024):=fun m hs hm=>by
  have hS10:∀x∈pulS LV (idn C.length) (d+1) face,x < 1024:=fun c hc=>by
   rw [pul_same] at hc
   obtain ⟨l,hl,rfl⟩:=List.mem_map.1 hc
   exact setN_lt10 l fun x hx=>by have:=(pulD_mem hP.o d face (by rw [hone]; simp) l hl).2 x hx; omega
  have:=nodup_lenL m ((List.range 1024).map memL) hs.nodup fun r hr=>by
   obtain ⟨x,hx,rfl⟩:=List.mem_map.1 ((hm r).1 hr)
   exact List.mem_map.2 ⟨x,List.mem_range.2 (hS10 x hx),rfl⟩
  simpa using this
 clear hv hg hbx hT hbw hD hLv hP hl1 hone hs0 hcn hcm hcell hCP hCB c0 c1 HM
 go_enter Tryz.func9,Tryz.ntmps9
 obtain ⟨e0,e1⟩:=HC.out W (Below.refl _ _)
 go_wp2_with fail
 rw [←hW]
 clear hW
 refine K1.out.mono ?_
 rintro e w1 ⟨co,cc,rfl,hM1,hb1⟩
 have HM1:Hid (∀X,Below w1.heap.size w1 X→Mat 0 22 3 X (.slice co C.length cc) C):=fun X hX=>hM1.below hX (Nat.le_refl _)
 have HB1:Hid (Below W.heap.size W w1):=hb1
 clear hM1 hb1 K1 e0 e1
 go_wp2
 go_loopw [6,22] (fun x kv wr=>∃(k:Nat) (ao:Option Addr) (ac:Nat),k≤C.length∧kv=.int .i64 (k:Int)∧x=.slice ao k ac∧wr.ownsRow w1.heap.size 3 1 (.slice ao k ac) k (ints (idn k))∧Below w1.heap.size w1 wr) (fun _ kv _=>C.length-(intOf kv).toNat)
 case atStart=>exact ⟨0,none,0,Nat.zero_le _,rfl,rfl,World.ownsRow_nil _ _ _ _,Below.refl _ _⟩
 case round=>
  obtain ⟨k,ao,ac,hk,rfl,rfl,ho,hbr⟩:=hrel
  have HO:Hid (wr.ownsRow w1.heap.size 3 1 (.slice ao k ac) k (ints (idn k))):=ho
  have HBR:Hid (Below w1.heap.size w1 wr):=hbr
  clear ho hbr
  by_cases hlt:k < C.length
  ·have hkI:(k:Int) < (C.length:Int):=by omega
   have hszr:=HBR.out.size
   go_wp2_with (first | (at_builtin; refine wpList_append_own _ rfl _ _ 22 rfl w1.heap.size 3 i3 (.int .i64 0) 1 8 Tryz.underlying22 hi3 hz30 hz31 hz32 rfl (by decide) _ _ _ rfl (HO.out.alloc _) ⟨wr.heap.size,0,none⟩ 1 1 [.int .i64 (k:Int)] rfl rfl (one_new _ _ _) (one_int _) ?d3 ?d4 ?d5 ?_))
   case d3=>unfold maxLen; omega
   case d4=>omega
   case d5=>first | exact hszr | omega | (simp; omega)
   intro v' w7 ho7 hg7 _
   obtain ⟨vo,vc,hv7⟩:=owns_form ho7
   subst hv7
   have R1:Hid (w7.ownsRow w1.heap.size 3 1 (.slice vo (k+1) vc) (k+1) (ints (idn (k+1)))):=by
    rw [idn_snoc]; exact ho7
   have R2:Hid (Below w1.heap.size w1 w7):=(HBR.out.alloc hszr _).grown hg7 (by simp; omega) (fun x hx=>(HO.out.lt x hx).1)
   clear ho7 hg7
   go_wp2
   go_roundw
   case rel=>exact ⟨k+1,vo,vc,by omega,by go_num,rfl,R1.out,R2.out⟩
   case measure=>simp [intOf]; omega
  ·have hke:k=C.length:=by omega
   subst hke
   have hBX:Below W.heap.size W wr:=HB1.out.trans (HBR.out.mono HB1.out.size)
   have HCE:=K2.out wr ao ac hBX ((Sl.own (B:=0) HO.out).more (Nat.zero_le _))
   obtain ⟨e0,e1⟩:=HC.out wr hBX
   have HBX:Hid (Below W.heap.size W wr):=hBX
   clear hBX HO hlt hk
   go_wp2_with fail
   refine HCE.mono ?_
   rintro e w2 ⟨m,xo,xc,rfl,hs2,hm2,hM2,hb2⟩
   have HS2:Hid (SAsc m∧∀r,r∈m↔r∈(pulS LV (idn C.length) (d+1) face).map memL):=⟨hs2,hm2⟩
   have HM2:Hid (∀X,Below w2.heap.size w2 X→Mat 0 22 3 X (.slice xo m.length xc) m):=fun X hX=>hM2.below hX (Nat.le_refl _)
   have HB2:Hid (Below w1.heap.size w1 w2):=HBR.out.trans (hb2.mono HBR.out.size)
   have hml:=HMC.out m hs2 hm2
   have HAS:Hid (∀k,k≤m.length→0≤amS C (m.take k)∧amS C (m.take k)≤1000000000*k):=amS_bd fun c hc=>HAB.out c ((hm2 c).1 hc)
   have HSN:Hid (∀k,k < m.length→amS C (m.take (k+1))=amS C (m.take k)+amt C (m.getD k [])):=fun k hk=>amS_snoc hk
   clear hs2 hm2 hM2 hb2 HCE K2 e0 e1 HMC
   go_wp2
   go_loopw [9,41] (fun sv kv wr=>∃k:Nat,k≤m.length∧kv=.int .i64 (k:Int)∧sv=.int .i64 (amS C (m.take k))∧Below w2.heap.size w2 wr) (fun _ kv _=>m.length-(intOf kv).toNat)
   case atStart=>exact ⟨0,Nat.zero_le _,rfl,by simp [amS],Below.refl _ _⟩
   case round=>
    obtain ⟨k,hk,rfl,rfl,hbk⟩:=hrel
    have HBK:Hid (Below w2.heap.size w2 wr):=hbk
    clear hbk
    by_cases hlk:k < m.length
    ·obtain ⟨qb,qo,qcp,q1,hqs,_,hqc,hq1⟩:=mat_cell (HM2.out wr HBK.out) hlk
     simp only [Value.slice.injEq,true_and] at hqs
     obtain ⟨rfl,rfl⟩:=hqs
     obtain ⟨yo,yc,rfl,_,_⟩:=sl_open hq1
     have hcm:m.getD k []∈(pulS LV (idn C.length) (d+1) face).map memL:=(HS2.out.2 _).1 (by simp [hlk])
     have HPK:=K3.out wr (m.getD k []) co cc _ hcm (HM1.out wr (HB2.out.trans (HBK.out.mono HB2.out.size))) hq1
     have HMU:Hid (∀X u,Mat X.heap.size 22 3 X u (pks C [] (m.getD k []))→Calls Tryz.prog 25 #[u] X fun e w'=>e=.returned (.int .i64 (amt C (m.getD k [])))∧Below X.heap.size X w'):=fun X u hM=>K4.out X _ u hcm hM
     have hs1:=HSN.out k hlk
     have hb1:=HAS.out k (by omega)
     have hb2:=HAS.out (k+1) hlk
     obtain ⟨S1,hS1⟩:∃S1,S1=amS C (m.take (k+1)):=⟨_,rfl⟩
     have HS1:Hid (S1=amS C (m.take (k+1))):=hS1
     rw [←hS1] at hs1 hb2
     have hkI:(k:Int) < (m.length:Int):=by omega
     clear hq1 hcm hS1
     generalize amS C (m.take k)=S0 at *
     generalize amt C (m.getD k [])=am at *
     have hw1:IntKind.wrap .i64 (S0+am)=S1:=by rw [←hs1,IntKind.wrap_i64]; omega
     clear hs1
     generalize (m.getD k []).length=yl at *
     go_wp2_with fail
     refine HPK.mono ?_
     rintro e w4 ⟨zo,zl,zc,rfl,hM4,hb4⟩
     have HMM:=HMU.out w4 _ hM4
     have HB4:Hid (Below w2.heap.size w2 w4):=HBK.out.trans (hb4.mono HBK.out.size)
     clear hM4 hb4 HPK HMU hqc
     go_wp2_with fail
     refine HMM.mono ?_
     rintro e w5 ⟨rfl,hb5⟩
     have HB5:Hid (Below w2.heap.size w2 w5):=HB4.out.trans (hb5.mono HB4.out.size)
     clear hb5 HMM
     go_wp2
     go_roundw
     case rel=>exact ⟨k+1,by omega,by go_num,by rw [HS1.out],HB5.out⟩
     case measure=>simp [intOf]; omega
    ·have hke:k=m.length:=by omega
     subst hke
     rw [List.take_length]
     have HBF:Hid (Below w.heap.size w wr):=HW.out.trans ((HB1.out.trans ((HB2.out.trans (HBK.out.mono HB2.out.size)).mono HB1.out.size)).mono (by omega))
     obtain ⟨SF,hSF⟩:∃SF,SF=amS C m:=⟨_,rfl⟩
     have HSF:Hid (SF=amS C m):=hSF
     rw [←hSF]
     clear hSF
     go_wp2
     go_ret2
     exact ⟨m,by rw [←HSF.out]; rfl,HS2.out.1,HS2.out.2,HBF.out⟩
end Go.Proofs.YtdanomklbiidaaaGreatDoor
