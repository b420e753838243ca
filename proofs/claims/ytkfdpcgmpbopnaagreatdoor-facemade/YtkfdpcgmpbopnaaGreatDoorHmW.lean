import Derived.Test.YtkfdpcgmpbopnaaGreatDoorDatA
import Derived.Test.YtkfdpcgmpbopnaaGreatDoorRefA
import Derived.Test.YtkfdpcgmpbopnaaGreatDoorRaY
import Derived.Test.YtkfdpcgmpbopnaaGreatDoorHmB
import Derived.Test.YtkfdpcgmpbopnaaGreatDoorMade1
namespace Go.Proofs.YtkfdpcgmpbopnaaGreatDoor
open Go.RowKit
attribute [local go_sem ↓] Go.wp_at_zero Go.wp_at_succ
set_option maxRecDepth 100000 in
set_option maxHeartbeats 800000 in
theorem heavy_any (B:Nat) (m:List (List Int)) (v:Value) (w:World) (hv:Mat B 22 3 w v m) :
  Calls Tryz.prog 7 #[v] w fun e w'=>∃b,e=.returned (.bool b)∧(b=false→m.length≤300)∧w'=w:=by
 obtain ⟨ao,cap,hvv,hlc,hcm⟩:=mat_open hv
 subst hvv
 have HV:Hid (Mat B 22 3 w (.slice ao m.length cap) m):=hv
 clear hv
 by_cases h1:300 < m.length
 ·have b1:decide ((300:Int) < (m.length:Int))=true:=decide_eq_true (by omega)
  go_enter Tryz.func7,Tryz.ntmps7
  go_wp2
  go_ret
  exact ⟨true,rfl,(fun h=>absurd h (by decide)),rfl⟩
 ·have b1:decide ((300:Int) < (m.length:Int))=false:=decide_eq_false (by omega)
  have HL:Hid (m.length≤300):=by show _≤_; omega
  go_enter Tryz.func7,Tryz.ntmps7
  go_wp2
  go_loopw [3,4] (fun n i wr=>∃t s:Nat,t≤m.length∧s≤300*t∧n=.int .i64 s∧i=.int .i64 t∧wr=w) (fun _ i _=>m.length-(intOf i).toNat)
  case atStart=>exact ⟨0,0,Nat.zero_le _,Nat.le_refl _,rfl,rfl,rfl⟩
  case round=>
   obtain ⟨t,s,ht,hs,rfl,rfl,rfl⟩:=hrel
   by_cases htn:t < m.length
   ·obtain ⟨b,o,cp,u,hs,_,hcc,hu⟩:=mat_cell HV.out htn
    simp only [Value.slice.injEq,true_and] at hs
    obtain ⟨rfl,rfl⟩:=hs
    obtain ⟨uo,uc,hue,hul,hum⟩:=sl_open hu
    subst hue
    generalize (m.getD t []).length=l at *
    clear hu
    by_cases hl:300 < l
    ·have b2:decide ((300:Int) < (l:Int))=true:=decide_eq_true (by omega)
     go_wp2
     go_ret
     exact ⟨true,rfl,(fun h=>absurd h (by decide)),rfl⟩
    ·have b2:decide ((300:Int) < (l:Int))=false:=decide_eq_false (by omega)
     go_wp2
     go_roundw
     case rel=>exact ⟨t+1,s+l,by omega,by omega,by go_num,by go_num,trivial⟩
     case measure=>simp [intOf]; omega
   ·go_wp2
    go_ret
    exact ⟨_,rfl,fun _=>HL.out,rfl⟩
end Go.Proofs.YtkfdpcgmpbopnaaGreatDoor
namespace Go.Proofs.YtkfdpcgmpbopnaaGreatDoor
open Go.RowKit
attribute [local go_sem ↓] Go.wp_at_zero Go.wp_at_succ
set_option maxRecDepth 100000 in
set_option maxHeartbeats 1600000 in
theorem hullMay_ok (d:Nat) (P:List (List Int)) (v:Value) (w:World) (hv:Mat w.heap.size 22 3 w v P) (hg:Good d P) :
  Calls Tryz.prog 8 #[.agg #[.int .i64 d,v]] w fun e w'=>e=.returned (.int .i64 0)∧Below w.heap.size w w':=by
 obtain ⟨b,o,cap,r1,hvv,hlc,_,_⟩:=mat_cell hv (k:=0) (by have:=hg.n2; omega)
 subst hvv
 have HG:Hid (Good d P):=hg
 have h1:=hg.d1
 have h4:=hg.d4
 have h2:=hg.n2
 have h24:=hg.n24
 obtain ⟨W,hW⟩:∃W,W=w.alloc (.cells #[.int .i64 d,.slice (some ⟨b,o,none⟩) P.length cap] 27):=⟨_,rfl⟩
 have hbw:Below w.heap.size w W:=by rw [hW]; exact alloc_keep _ _
 have HW:Hid (Below w.heap.size w W):=hbw
 have HV:Hid (Mat w.heap.size 22 3 W (.slice (some ⟨b,o,none⟩) P.length cap) P):=hv.below hbw (Nat.le_refl _)
 have hsW:W.heap.size=w.heap.size+1:=by rw [hW]; exact size_alloc _ _
 have c0:W.cell? ⟨w.heap.size,0,none⟩=some (.int .i64 d):=by rw [hW]; simp
 have c1:W.cell? ⟨w.heap.size,1,none⟩=some (.slice (some ⟨b,o,none⟩) P.length cap):=by rw [hW]; simp
 have HC:Hid (∀W',Below W.heap.size W W'→W'.cell? ⟨w.heap.size,0,none⟩=some (.int .i64 d)∧W'.cell? ⟨w.heap.size,1,none⟩=some (.slice (some ⟨b,o,none⟩) P.length cap)):=fun W' h=>⟨(h.cell (lt_of_cell c0)).trans c0,(h.cell (lt_of_cell c1)).trans c1⟩
 clear hv hg hbw
 have t1:decide ((d:Int) < 1)=false:=by simp; omega
 have t2:decide ((4:Int) < (d:Int))=false:=by simp; omega
 have t3:decide ((P.length:Int) < 1)=false:=by simp; omega
 have t4:decide ((24:Int) < (P.length:Int))=false:=by simp; omega
 go_enter Tryz.func8,Tryz.ntmps8
 go_wp2
 rw [←hW]
 clear hW
 go_loopw [3] (fun i wr=>∃k:Nat,k≤P.length∧i=.int .i64 k∧Below W.heap.size W wr) (fun i _=>P.length-(intOf i).toNat)
 case atStart=>exact ⟨0,Nat.zero_le _,rfl,Below.refl _ _⟩
 case round=>
  obtain ⟨k,hk,rfl,hbel⟩:=hrel
  obtain ⟨wa,rfl⟩:∃wa,wa=wr:=⟨wr,rfl⟩
  have HB:Hid (Below W.heap.size W wa):=hbel
  have e0:=(HC.out wa hbel).1
  have e1:=(HC.out wa hbel).2
  clear hbel
  by_cases hlt:k < P.length
  ·obtain ⟨b2,o2,cp2,rk,hs,hc1,hcc,hrk⟩:=mat_cell (HV.out.below HB.out (Nat.le_refl _)) hlt
   simp only [Value.slice.injEq,Option.some.injEq,Addr.mk.injEq,and_true,true_and] at hs
   obtain ⟨⟨rfl,rfl⟩,rfl⟩:=hs
   obtain ⟨ro,rc,hrv,_,_⟩:=sl_open hrk
   have hmem:P.getD k []∈P:=by simp [hlt]
   rw [(HG.out.box _ hmem).1] at hrv
   subst hrv
   have HRK:Hid (Sl w.heap.size 3 wa (.slice ro d rc) (ints (P.getD k []))):=hrk
   have HN:Hid (((P.getD k []).any (farB · 100))=false):=box_near HG.out.box (by decide) hmem
   clear hrk hmem
   generalize P.getD k []=q at *
   have hdd:((d:Int) != (d:Int))=false:=by simp
   have hkI:(k:Int) < (P.length:Int):=by omega
   have hkI0:(0:Int)≤(k:Int):=by omega
   go_wp2
   go_quiet (fail)
   obtain ⟨W9,hW9⟩:∃W9,W9=wa.drewN nq:=⟨_,rfl⟩
   rw [←hW9]
   have f0:W9.cell? ⟨w.heap.size,0,none⟩=some (.int .i64 d):=by rw [hW9]; exact e0
   have f1:W9.cell? ⟨w.heap.size,1,none⟩=some (.slice (some ⟨b,o,none⟩) P.length cap):=by rw [hW9]; exact e1
   have f2:W9.cell? ⟨b,o+k,none⟩=some (.slice ro d rc):=by rw [hW9]; exact hcc
   have HR9:Hid (Sl w.heap.size 3 W9 (.slice ro d rc) (ints q)):=by rw [hW9]; exact HRK.out.drewN nq
   have HB9:Hid (Below W.heap.size W W9):=by rw [hW9]; exact HB.out.trans ⟨rfl,rfl,rfl,Nat.le_refl _,fun _ _=>rfl⟩
   clear hW9 e0 e1 hcc
   go_wp2_with fail
   refine (farAny_any w.heap.size q _ 100 W9 HR9.out (by omega) (by omega)).mono ?_
   rintro e w2 ⟨rfl,rfl⟩
   rw [HN.out]
   go_wp2
   go_roundw
   case rel=>exact ⟨k+1,by omega,by go_num,HB9.out⟩
   case measure=>simp [intOf]; omega
  ·have HRW:Hid (∀r∈P,r.length=d):=fun r hr=>(HG.out.box r hr).1
   have HRB:Hid (∀r∈P,∀z∈r,z.natAbs≤1000000):=fun r hr z hz=>by have:=box_small HG.out.box hr z hz; omega
   have HVr:Hid (Mat w.heap.size 22 3 wa (.slice (some ⟨b,o,none⟩) P.length cap) P):=HV.out.below HB.out (Nat.le_refl _)
   have HDF:Hid (Calls Tryz.prog 24 #[.slice (some ⟨b,o,none⟩) P.length cap] wa.drew fun e w'=>∃xo xl xc,e=.returned (.slice xo xl xc)∧(Mat w'.heap.size 22 3 w' (.slice xo xl xc) (diffL P)∧Below W.heap.size W w')):=by
    refine (from_any w.heap.size d P _ wa.drew (HVr.out.drewN 1) (by omega) (by omega) (by omega) HRW.out HRB.out).mono ?_
    rintro e w' ⟨x,rfl,hx,hb⟩
    have hM:Mat w'.heap.size 22 3 w' x (diffL P):=hx.rws.mat hb.size
    obtain ⟨xo,xc,hxv,_,_⟩:=mat_open hM
    subst hxv
    exact ⟨xo,_,xc,rfl,hM,HB.out.drew.trans (hb.mono HB.out.size)⟩
   have HRK:Hid (∀w' xo xl xc,Mat w'.heap.size 22 3 w' (.slice xo xl xc) (diffL P)→Below W.heap.size W w'→Calls Tryz.prog 23 #[.slice xo xl xc] w' fun e w''=>e=.returned (.int .i64 d)∧Below W.heap.size W w''):=fun w' xo xl xc hM hb=>by
    have hmx:=diff_mx HG.out.box h1 (show d≤5 by omega)
    refine (rankR_any d 60 w'.heap.size (diffL P) _ w' hmx hM (by rw [diffL_length]; omega)).mono ?_
    rintro e w'' ⟨rfl,hb2⟩
    exact ⟨by rw [HG.out.full],hb.trans (hb2.mono hb.size)⟩
   have hdd:decide ((d:Int) < (d:Int))=false:=by simp
   have hkF:decide ((k:Int) < (P.length:Int))=false:=by simp; omega
   go_wp2
   go_region_law (first
    | (refine step_call (o:={ dst:=some 46,op:=_,type:=_,pos:=_,after:=_,guard:=_ }) (by rfl) 24 _ 25 (by rfl) _ (by rfl) ⟨_,Tryz.func24,by rfl,by rfl⟩ ?_; refine (HDF.out).mono ?_; rintro e w2 ⟨xo,xl,xc,rfl,hx⟩; refine ⟨_,rfl,?_⟩; have HX2:Hid (Mat w2.heap.size 22 3 w2 (.slice xo xl xc) (diffL P)∧Below W.heap.size W w2):=hx; have f0:=(HC.out w2 hx.2).1; clear hx)
    | (refine step_call (o:={ dst:=some 47,op:=_,type:=_,pos:=_,after:=_,guard:=_ }) (by rfl) 23 _ 25 (by rfl) _ (by rfl) ⟨_,Tryz.func23,by rfl,by rfl⟩ ?_; refine (HRK.out w2 xo xl xc HX2.out.1 HX2.out.2).mono ?_; rintro e w3 ⟨rfl,hb3⟩; refine ⟨_,rfl,?_⟩; have HB3:Hid (Below W.heap.size W w3):=hb3; have g0:=(HC.out w3 hb3).1; clear hb3))
   all_goals
    go_wp2
    go_ret
    exact ⟨rfl,HW.out.trans (HB3.out.mono HW.out.size)⟩
end Go.Proofs.YtkfdpcgmpbopnaaGreatDoor
namespace Go.Proofs.YtkfdpcgmpbopnaaGreatDoor
open Go.RowKit
end Go.Proofs.YtkfdpcgmpbopnaaGreatDoor
