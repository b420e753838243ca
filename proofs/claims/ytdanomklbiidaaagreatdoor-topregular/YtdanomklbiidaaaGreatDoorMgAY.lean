import Derived.Test.YtdanomklbiidaaaGreatDoorMgAN
import Derived.Test.YtdanomklbiidaaaGreatDoorMgAW
import Derived.Test.YtdanomklbiidaaaGreatDoorHmz
import Derived.Test.YtdanomklbiidaaaGreatDoorMgAX
import Derived.Test.YtdanomklbiidaaaGreatDoorMgAQ
import Derived.Test.YtdanomklbiidaaaGreatDoorMgAR
namespace Go.Proofs.YtdanomklbiidaaaGreatDoor
open Go.RowKit
attribute [local go_sem ↓] Go.wp_at_zero Go.wp_at_succ
theorem chk100_ok (B d:Nat) (x:List Int) (u:Value) (w:World) (hu:Sl B 3 w u (ints x)) (hx:x.length=d) (hn:(x.any (farB · 100))=false) :
  Calls Tryz.prog 38 #[u,.int .i64 d,.int .i64 100] w fun e w'=>e=.returned (.int .i64 0)∧Below w.heap.size w w':=by
 refine (chkL_any B d 100 x u w hu (by omega) (by omega)).mono ?_
 rintro e w' ⟨rfl,hb⟩
 exact ⟨by rw [if_neg (by simp [hx]),if_neg (by simp [hn])],hb⟩
set_option maxRecDepth 100000 in
set_option maxHeartbeats 1600000 in
theorem hullCheckK0 (d:Nat) (P:List (List Int)) (v:Value) (w:World) (hv:Mat w.heap.size 22 3 w v P) (hg:Good d P) (h24:P.length≤24) :
  Calls Tryz.prog 18 #[.agg #[.int .i64 d,v]] w fun e w'=>e=.returned (.int .i64 0)∧Below w.heap.size w w':=by
 obtain ⟨b,o,cap,r1,hvv,hlc,_,_⟩:=mat_cell hv (k:=0) (by have:=hg.n2; omega)
 subst hvv
 have HG:Hid (Good d P):=hg
 have h1:=hg.d1
 have h4:=hg.d4
 have h2:=hg.n2
 obtain ⟨W,hW⟩:∃W,W=w.alloc (.cells #[.int .i64 d,.slice (some ⟨b,o,none⟩) P.length cap] 34):=⟨_,rfl⟩
 have hbw:Below w.heap.size w W:=by rw [hW]; exact alloc_keep _ _
 have HW:Hid (Below w.heap.size w W):=hbw
 have HV:Hid (Mat w.heap.size 22 3 W (.slice (some ⟨b,o,none⟩) P.length cap) P):=hv.below hbw (Nat.le_refl _)
 have hsW:W.heap.size=w.heap.size+1:=by rw [hW]; exact size_alloc _ _
 have c0:W.cell? ⟨w.heap.size,0,none⟩=some (.int .i64 d):=by rw [hW]; simp
 have c1:W.cell? ⟨w.heap.size,1,none⟩=some (.slice (some ⟨b,o,none⟩) P.length cap):=by rw [hW]; simp
 have HC:Hid (∀W',Below W.heap.size W W'→W'.cell? ⟨w.heap.size,0,none⟩=some (.int .i64 d)∧W'.cell? ⟨w.heap.size,1,none⟩=some (.slice (some ⟨b,o,none⟩) P.length cap)):=fun W' h=>⟨(h.cell (lt_of_cell c0)).trans c0,(h.cell (lt_of_cell c1)).trans c1⟩
 clear hv hg hbw
 have t1:decide ((d:Int) < 1)=false:=by simp; omega
 have t2:decide ((4:Int) < (d:Int))=false:=by simp; omega
 have t3:decide ((P.length:Int) < 1)=false:=by simp; omega
 have t4:decide ((24:Int) < (P.length:Int))=false:=by simp; omega
 go_enter Tryz.func18,Tryz.ntmps18
 go_wp2
 rw [←hW]
 clear hW
 go_loopw [27] (fun i wr=>∃k:Nat,k≤P.length∧i=.int .i64 k∧Below W.heap.size W wr) (fun i _=>P.length-(intOf i).toNat)
 case atStart=>exact ⟨0,Nat.zero_le _,rfl,Below.refl _ _⟩
 case round=>
  obtain ⟨k,hk,rfl,hbel⟩:=hrel
  have HB:Hid (Below W.heap.size W wr):=hbel
  have e0:=(HC.out wr hbel).1
  have e1:=(HC.out wr hbel).2
  clear hbel
  by_cases hlt:k < P.length
  ·obtain ⟨b2,o2,cp2,rk,hs,hc1,hcc,hrk⟩:=mat_cell (HV.out.below HB.out (Nat.le_refl _)) hlt
   simp only [Value.slice.injEq,Option.some.injEq,Addr.mk.injEq,and_true,true_and] at hs
   obtain ⟨⟨rfl,rfl⟩,rfl⟩:=hs
   obtain ⟨ro,rc,hrv,_,_⟩:=sl_open hrk
   subst hrv
   have hmem:P.getD k []∈P:=by simp [hlt]
   have HRK:Hid (Sl w.heap.size 3 wr (.slice ro (P.getD k []).length rc) (ints (P.getD k []))):=hrk
   have HL:Hid ((P.getD k []).length=d):=(HG.out.box _ hmem).1
   have HN:Hid (((P.getD k []).any (farB · 100))=false):=box_near HG.out.box (by decide) hmem
   clear hrk hmem
   generalize P.getD k []=q at *
   generalize hql:q.length=ql at *
   have HQ:Hid (q.length=ql):=hql
   clear hql
   go_wp2_with fail
   refine (chk100_ok w.heap.size d q _ wr HRK.out (by rw [HQ.out]; exact HL.out) HN.out).mono ?_
   rintro e w2 ⟨rfl,hb2⟩
   have HB2:Hid (Below W.heap.size W w2):=HB.out.trans (hb2.mono HB.out.size)
   clear hb2
   go_wp2
   go_roundw
   case rel=>exact ⟨k+1,by omega,by go_num,HB2.out⟩
   case measure=>simp [intOf]; omega
  ·have HRW:Hid (∀r∈P,r.length=d):=fun r hr=>(HG.out.box r hr).1
   have HRB:Hid (∀r∈P,∀z∈r,z.natAbs≤1000000):=fun r hr z hz=>by have:=box_small HG.out.box hr z hz; omega
   have HVr:Hid (Mat w.heap.size 22 3 wr (.slice (some ⟨b,o,none⟩) P.length cap) P):=HV.out.below HB.out (Nat.le_refl _)
   have HDF:Hid (Calls Tryz.prog 40 #[.slice (some ⟨b,o,none⟩) P.length cap] wr.drew fun e w'=>∃xo xl xc,e=.returned (.slice xo xl xc)∧(Mat w'.heap.size 22 3 w' (.slice xo xl xc) (diffL P)∧Below W.heap.size W w')):=by
    refine (differences_any w.heap.size d P _ wr.drew (HVr.out.drewN 1) (by omega) (by omega) h1 (by omega) HRW.out HRB.out).mono ?_
    rintro e w' ⟨x,rfl,hx,hb⟩
    have hM:=hx.mat (B':=w'.heap.size) hb.size
    obtain ⟨xo,xc,hxv,_,_⟩:=mat_open hM
    subst hxv
    exact ⟨xo,_,xc,rfl,hM,HB.out.drew.trans (hb.mono HB.out.size)⟩
   have HRK:Hid (∀w' xo xl xc,Mat w'.heap.size 22 3 w' (.slice xo xl xc) (diffL P)→Below W.heap.size W w'→Calls Tryz.prog 39 #[.slice xo xl xc,.int .i64 d] w' fun e w''=>e=.returned (.int .i64 d)∧Below W.heap.size W w''):=fun w' xo xl xc hM hb=>by
    have hmx:=diff_mx HG.out.box h1 (show d≤5 by omega)
    refine (rankQ_any w'.heap.size d (diffL P) _ w' hmx (bdD hmx HG.out.d4) hM (by rw [diffL_length]; omega) (by rw [diffL_length]; omega)).mono ?_
    rintro e w'' ⟨rfl,hb2⟩
    exact ⟨by rw [HG.out.full],hb.trans (hb2.mono hb.size)⟩
   have hdd:decide ((d:Int) < (d:Int))=false:=by simp
   go_wp2
   go_region_law (first
    | (refine step_call (o:={ dst:=some 41,op:=_,type:=_,pos:=_,after:=_,guard:=_ }) (by rfl) 40 _ 23 (by rfl) _ (by rfl) ⟨_,Tryz.func40,by rfl,by rfl⟩ ?_; refine (HDF.out).mono ?_; rintro e w2 ⟨xo,xl,xc,rfl,hx⟩; refine ⟨_,rfl,?_⟩; have HX2:Hid (Mat w2.heap.size 22 3 w2 (.slice xo xl xc) (diffL P)∧Below W.heap.size W w2):=hx; have f0:=(HC.out w2 hx.2).1; clear hx)
    | (refine step_call2 (o:={ dst:=some 44,op:=_,type:=_,pos:=_,after:=_,guard:=_ }) (by rfl) 39 _ _ 23 3 (by rfl) _ _ (by rfl) (by rfl) ⟨_,Tryz.func39,by rfl,by rfl⟩ ?_; refine (HRK.out w2 xo xl xc HX2.out.1 HX2.out.2).mono ?_; rintro e w3 ⟨rfl,hb3⟩; refine ⟨_,rfl,?_⟩; have HB3:Hid (Below W.heap.size W w3):=hb3; have g0:=(HC.out w3 hb3).1; clear hb3))
   all_goals
    go_wp2
    go_ret
    exact ⟨rfl,HW.out.trans (HB3.out.mono HW.out.size)⟩
theorem hullCheckK (d:Nat) (P:List (List Int)) (v:Value) (w:World) (hv:Mat w.heap.size 22 3 w v P) (hg:Good d P) :
  Calls Tryz.prog 18 #[.agg #[.int .i64 d,v]] w fun e w'=>e=.returned (.int .i64 0)∧Below w.heap.size w w':=
 hullCheckK0 d P v w hv hg hg.n24
end Go.Proofs.YtdanomklbiidaaaGreatDoor

namespace Go.Proofs.YtdanomklbiidaaaGreatDoor
open Go.RowKit Lin
attribute [local go_sem ↓] Go.wp_at_zero Go.wp_at_succ
set_option maxRecDepth 100000 in
set_option maxHeartbeats 800000 in
theorem wrapCorners_any (d:Nat) (P:List (List Int)) (v:Value) (w:World) (hv:Mat w.heap.size 22 3 w v P) (hg:Good d P) :
  Calls Tryz.prog 42 #[v] w fun e w'=>∃u P' rows,e=.returned u∧Fr w.heap.size 22 3 w' u (P'.filter fun x=>!twin rows P' x)∧Inor P' P∧Inw rows (rowsC P' [] d P')∧Below w.heap.size w w':=by
 obtain ⟨po,pc,rfl,hlc,hcm⟩:=mat_open hv
 have HG:Hid (Good d P):=hg
 have h4:=hg.d4
 have HDS:Hid (Calls Tryz.prog 54 #[.slice po P.length pc] w fun e w'=>∃xo xl xc P',e=.returned (.slice xo xl xc)∧(Mat 0 22 3 w' (.slice xo xl xc) P'∧Inor P' P∧Below w.heap.size w w')):=by
  refine (distinct_any w.heap.size P _ w hv (by have:=hg.n24; omega) (fun r hr=>by rw [(hg.box r hr).1]; have:=hg.d4; omega)).mono ?_
  rintro e w' ⟨y,P',rfl,hf,hin,hb⟩
  have hM:Mat 0 22 3 w' y P':=by
   obtain ⟨vs,f1,f2,f3⟩:=hf
   exact ⟨vs,f1,Sl.own f2,f3⟩
  obtain ⟨yo,yc,hyv,_,_⟩:=mat_open hM
  subst hyv
  exact ⟨yo,_,yc,P',rfl,hM,hin,hb⟩
 have HRA:Hid (∀w' xo xl xc P',Mat 0 22 3 w' (.slice xo xl xc) P'→Inor P' P→Below w.heap.size w w'→Calls Tryz.prog 56 #[.slice xo xl xc] w' fun e w''=>∃yo yl yc rows,e=.returned (.slice yo yl yc)∧(Mat w''.heap.size 22 3 w'' (.slice yo yl yc) rows∧Mat 0 22 3 w'' (.slice xo xl xc) P'∧Inw rows (rowsC P' [] d P')∧Below w.heap.size w w'')):=fun w' xo xl xc P' hM hin hb=>by
  refine (wrapAround_any d P' _ w' (hM.more (Nat.zero_le _)) (good_of HG.out hin.mem hin.len) hin.asc).mono ?_
  rintro e w'' ⟨y,rows,rfl,hf,hin2,hb2⟩
  have hM2:Mat w''.heap.size 22 3 w'' y rows:=hf.rws.mat hb2.size
  obtain ⟨yo,yc,hyv,_,_⟩:=mat_open hM2
  subst hyv
  exact ⟨yo,_,yc,rows,rfl,hM2,hM.below hb2 (Nat.le_refl _),hin2,hb.trans (hb2.mono hb.size)⟩
 have HCO:Hid (∀w' xv yv P' rows,Mat 0 22 3 w' xv P'→Mat w'.heap.size 22 3 w' yv rows→Inor P' P→Inw rows (rowsC P' [] d P')→Below w.heap.size w w'→Calls Tryz.prog 55 #[xv,yv] w' fun e w''=>∃u,e=.returned u∧(Fr w.heap.size 22 3 w'' u (P'.filter fun x=>!twin rows P' x)∧Below w.heap.size w w'')):=fun w' xv yv P' rows hM hR hin hin2 hb=>by
  refine (cornersZ_any w'.heap.size rows P' xv yv w' hM hR (by have:=hin.len; have:=HG.out.n24; omega) fun x hx r hr y hy=>?_).mono ?_
  ·have hrow:=rowsC_fit HG.out.box HG.out.d1 (by omega) hin.mem ((hin2.mem r).1 hr)
   have hxP:=(hin.mem x).1 hx
   have hyP:=(hin.mem y).1 hy
   have s1:=sm_of hrow h4 (HG.out.box x hxP).1 (box_small HG.out.box hxP)
   have s2:=sm_of hrow h4 (HG.out.box y hyP).1 (box_small HG.out.box hyP)
   exact ⟨s1.1,s2.1,s1.2,s2.2⟩
  ·rintro e w'' ⟨u,rfl,h1,h2⟩
   exact ⟨u,rfl,h1.mono hb.size,hb.trans (h2.mono hb.size)⟩
 clear hv hg
 go_enter Tryz.func42,Tryz.ntmps42
 go_wp2_with fail
 refine HDS.out.mono ?_
 rintro e w3 ⟨xo,xl,xc,P',rfl,hx⟩
 have HX3:Hid (Mat 0 22 3 w3 (.slice xo xl xc) P'∧Inor P' P∧Below w.heap.size w w3):=hx
 clear hx HDS
 go_wp2_with fail
 refine (HRA.out w3 xo xl xc P' HX3.out.1 HX3.out.2.1 HX3.out.2.2).mono ?_
 rintro e w4 ⟨yo,yl,yc,rows,rfl,hy⟩
 have HY4:Hid (Mat w4.heap.size 22 3 w4 (.slice yo yl yc) rows∧Mat 0 22 3 w4 (.slice xo xl xc) P'∧Inw rows (rowsC P' [] d P')∧Below w.heap.size w w4):=hy
 clear hy
 go_wp2_with fail
 refine (HCO.out w4 _ _ P' rows HY4.out.2.1 HY4.out.1 HX3.out.2.1 HY4.out.2.2.1 HY4.out.2.2.2).mono ?_
 rintro e w5 ⟨u,rfl,hu⟩
 have HU5:Hid (Fr w.heap.size 22 3 w5 u (P'.filter fun x=>!twin rows P' x)∧Below w.heap.size w w5):=hu
 clear hu
 go_wp2
 go_ret
 exact ⟨u,P',rows,rfl,HU5.out.1,HX3.out.2.1,HY4.out.2.2.1,HU5.out.2⟩
set_option maxRecDepth 100000 in
set_option maxHeartbeats 800000 in
theorem cornersK_fr (d:Nat) (P:List (List Int)) (v:Value) (w:World) (hv:Mat w.heap.size 22 3 w v P) (hg:Good d P) :
  Calls Tryz.prog 23 #[.agg #[.int .i64 d,v]] w fun e w'=>∃P' u rows,Inor P' P∧Inw rows (rowsC P' [] d P')∧e=.returned (.tuple #[u,.int .i64 0])∧Fr w.heap.size 22 3 w' u (P'.filter fun x=>!twin rows P' x)∧Below w.heap.size w w':=by
 obtain ⟨b,o,cap,r1,hvv,hlc,_,_⟩:=mat_cell hv (k:=0) (by have:=hg.n2; omega)
 subst hvv
 have HG:Hid (Good d P):=hg
 obtain ⟨W,hW⟩:∃W,W=w.alloc (.cells #[.int .i64 d,.slice (some ⟨b,o,none⟩) P.length cap] 34):=⟨_,rfl⟩
 have hbw:Below w.heap.size w W:=by rw [hW]; exact alloc_keep _ _
 have HW:Hid (Below w.heap.size w W):=hbw
 have HV:Hid (Mat w.heap.size 22 3 W (.slice (some ⟨b,o,none⟩) P.length cap) P):=hv.below hbw (Nat.le_refl _)
 have hsW:W.heap.size=w.heap.size+1:=by rw [hW]; exact size_alloc _ _
 have c0:W.cell? ⟨w.heap.size,0,none⟩=some (.int .i64 d):=by rw [hW]; simp
 have c1:W.cell? ⟨w.heap.size,1,none⟩=some (.slice (some ⟨b,o,none⟩) P.length cap):=by rw [hW]; simp
 have HC:Hid (∀W',Below W.heap.size W W'→W'.cell? ⟨w.heap.size,0,none⟩=some (.int .i64 d)∧W'.cell? ⟨w.heap.size,1,none⟩=some (.slice (some ⟨b,o,none⟩) P.length cap)):=fun W' h=>⟨(h.cell (lt_of_cell c0)).trans c0,(h.cell (lt_of_cell c1)).trans c1⟩
 clear hv hg hbw
 go_enter Tryz.func23,Tryz.ntmps23
 go_wp2_with fail
 rw [←hW]
 clear hW
 refine (hullCheckK d P _ W (HV.out.any (by omega)) HG.out).mono ?_
 rintro e w2 ⟨rfl,hb12⟩
 have HB2:Hid (Below W.heap.size W w2):=hb12
 have e2:=(HC.out w2 hb12).1
 have e3:=(HC.out w2 hb12).2
 clear hb12
 go_wp2_with fail
 refine (wrapCorners_any d P _ w2 ((HV.out.below HB2.out (Nat.le_refl _)).any (by have:=HB2.out.size; omega)) HG.out).mono ?_
 rintro e w5 ⟨u,P',rows,rfl,q1,q2,q3,q4⟩
 have HU5:Hid (Fr w2.heap.size 22 3 w5 u (P'.filter fun x=>!twin rows P' x)∧Inor P' P∧Inw rows (rowsC P' [] d P')∧Below W.heap.size W w5):=⟨q1,q2,q3,HB2.out.trans (q4.mono HB2.out.size)⟩
 clear q1 q2 q3 q4
 go_wp2
 go_ret2
 exact ⟨P',u,rows,HU5.out.2.1,HU5.out.2.2.1,rfl,HU5.out.1.mono (by have:=HB2.out.size; omega),HW.out.trans (HU5.out.2.2.2.mono (by omega))⟩
set_option maxRecDepth 100000 in
set_option maxHeartbeats 800000 in
theorem rowsK_fr (d:Nat) (P:List (List Int)) (v:Value) (w:World) (hv:Mat w.heap.size 22 3 w v P) (hg:Good d P) :
  Calls Tryz.prog 88 #[.agg #[.int .i64 d,v]] w fun e w'=>∃P' u rows,Inor P' P∧Inw rows (rowsC P' [] d P')∧e=.returned (.tuple #[u,.int .i64 0])∧Fr w.heap.size 22 3 w' u rows∧Below w.heap.size w w':=by
 obtain ⟨b,o,cap,r1,hvv,hlc,_,_⟩:=mat_cell hv (k:=0) (by have:=hg.n2; omega)
 subst hvv
 have HG:Hid (Good d P):=hg
 obtain ⟨W,hW⟩:∃W,W=w.alloc (.cells #[.int .i64 d,.slice (some ⟨b,o,none⟩) P.length cap] 34):=⟨_,rfl⟩
 have hbw:Below w.heap.size w W:=by rw [hW]; exact alloc_keep _ _
 have HW:Hid (Below w.heap.size w W):=hbw
 have HV:Hid (Mat w.heap.size 22 3 W (.slice (some ⟨b,o,none⟩) P.length cap) P):=hv.below hbw (Nat.le_refl _)
 have hsW:W.heap.size=w.heap.size+1:=by rw [hW]; exact size_alloc _ _
 have c0:W.cell? ⟨w.heap.size,0,none⟩=some (.int .i64 d):=by rw [hW]; simp
 have c1:W.cell? ⟨w.heap.size,1,none⟩=some (.slice (some ⟨b,o,none⟩) P.length cap):=by rw [hW]; simp
 have HC:Hid (∀W',Below W.heap.size W W'→W'.cell? ⟨w.heap.size,0,none⟩=some (.int .i64 d)∧W'.cell? ⟨w.heap.size,1,none⟩=some (.slice (some ⟨b,o,none⟩) P.length cap)):=fun W' h=>⟨(h.cell (lt_of_cell c0)).trans c0,(h.cell (lt_of_cell c1)).trans c1⟩
 clear hv hg hbw
 go_enter Tryz.func88,Tryz.ntmps88
 go_wp2_with fail
 rw [←hW]
 clear hW
 refine (hullCheckK d P _ W (HV.out.any (by omega)) HG.out).mono ?_
 rintro e w2 ⟨rfl,hb12⟩
 have HB2:Hid (Below W.heap.size W w2):=hb12
 have e2:=(HC.out w2 hb12).1
 have e3:=(HC.out w2 hb12).2
 clear hb12
 go_wp2_with fail
 refine (wrapRows_any d P _ w2 ((HV.out.below HB2.out (Nat.le_refl _)).any (by have:=HB2.out.size; omega)) HG.out).mono ?_
 rintro e w5 ⟨u,P',rows,rfl,q1,q2,q3,q4⟩
 have HU5:Hid (Fr w2.heap.size 22 3 w5 u rows∧Inor P' P∧Inw rows (rowsC P' [] d P')∧Below W.heap.size W w5):=⟨q1,q2,q3,HB2.out.trans (q4.mono HB2.out.size)⟩
 clear q1 q2 q3 q4
 go_wp2
 go_ret2
 exact ⟨P',u,rows,HU5.out.2.1,HU5.out.2.2.1,rfl,HU5.out.1.mono (by have:=HB2.out.size; omega),HW.out.trans (HU5.out.2.2.2.mono (by omega))⟩
end Go.Proofs.YtdanomklbiidaaaGreatDoor

namespace Go.Proofs.YtdanomklbiidaaaGreatDoor
open Go.RowKit
theorem corners_equalK {d:Nat} {P P' s rows c:List (List Int)} (hg:Good d P) (hP:Inor P' P) (hr:Inw rows (rowsC P' [] d P')) (hm:∀r,r∈s↔r∈rowsD P d) (hc:SAsc c) (hcm:∀y,y∈c↔y∈crn d s P) :
  (P'.filter fun x=>!twin rows P' x)=c:=by
 refine sasc_ext _ c (List.Pairwise.filter _ hP.asc) hc fun y=>?_
 rw [hcm y]
 unfold crn
 rw [List.mem_filter,List.mem_filter,hP.mem y]
 refine and_congr_right fun hy=>?_
 have hrl:∀r∈rows,r.length=d+1:=fun r hr'=>(rowsC_fit hg.box hg.d1 (by have:=hg.d4; omega) hP.mem ((hr.mem r).1 hr')).len
 have h1:=twin_iff (d:=d) (m:=rows) (P:=P') (x:=y) hrl (fun z hz=>(hg.box z ((hP.mem z).1 hz)).1) (hg.box y hy).1
 have h2:=corner_iff hg hP.mem hy
 have h3:=corner_rank hg hP.mem hm hy
 simp only [Bool.not_eq_true',decide_eq_true_eq]
 rw [h1,h3,←h2]
 constructor
 ·intro h z hz hne
  obtain ⟨r,hr1,hr2⟩:=h z ((hP.mem z).2 hz) hne
  exact ⟨r,(hr.mem r).1 hr1,hr2⟩
 ·intro h z hz hne
  obtain ⟨r,hr1,hr2⟩:=h z ((hP.mem z).1 hz) hne
  exact ⟨r,(hr.mem r).2 hr1,hr2⟩
end Go.Proofs.YtdanomklbiidaaaGreatDoor

namespace Go.Proofs.YtdanomklbiidaaaGreatDoor
open Go.RowKit Lin
def endL (C:List (List Int)) (r:List Int):List (List Int):=C.filter fun x=>decide (overL r x=0)
def arR (C:List (List Int)) (r:List Int):Int:=((detL (diffL [C.getD 0 [],(endL C r).getD 0 [],(endL C r).getD 1 []])).natAbs:Int)
def arS (C s:List (List Int)):Int:=(s.map (arR C)).sum
structure SrC (d:Nat) (P s C:List (List Int)):Prop where
 good:Good d P
 asc:SAsc s
 rows:∀r,r∈s↔r∈rowsD P d
 casc:SAsc C
 crns:∀y,y∈C↔y∈crn d s P
theorem SrC.cgood {d:Nat} {P s C:List (List Int)} (h:SrC d P s C):Good d C:=
 corners_good h.good h.rows (fun _ hx=>corner_rank h.good (fun _=>Iff.rfl) h.rows hx) h.crns h.casc.nodup
theorem SrC.sub {d:Nat} {P s C:List (List Int)} (h:SrC d P s C) {y:List Int} (hy:y∈C):y∈P:=(List.mem_filter.1 ((h.crns y).1 hy)).1
theorem SrC.ends {P s C:List (List Int)} (h:SrC 2 P s C) {r:List Int} (hr:r∈s):2≤(endL C r).length:=by
 have hgC:=h.cgood
 have hrC:r∈rowsC C [] 2 C:=(rows_corners h.good h.rows (fun _ hx=>corner_rank h.good (fun _=>Iff.rfl) h.rows hx) h.crns h.casc.nodup r).2 ((mem_rowsD).1 ((h.rows r).1 hr))
 have hrl:r.length=2+1:=(rowsD_facts h.good.box h.good.d1 (by decide) r ((h.rows r).1 hr)).len
 have:=side_rank hgC hrC (p:=endL C r) fun y=>by
  unfold endL
  rw [List.mem_filter,decide_eq_true_eq]
  exact and_congr_right fun hy=>over_zero hrl (hgC.box y hy).1
 have h2:=pickL_len 2 (diffL (endL C r))
 rw [diffL_length] at h2
 omega
end Go.Proofs.YtdanomklbiidaaaGreatDoor
