import Derived.Test.YtdanomklbiidaaaGreatDoorCl5
import Derived.Test.YtdanomklbiidaaaGreatDoorMgAY
import Derived.Test.YtdanomklbiidaaaGreatDoorRg4x
import Derived.Test.YtdanomklbiidaaaGreatDoorMgAA
import Derived.Test.YtdanomklbiidaaaGreatDoorMgAI
import Derived.Test.YtdanomklbiidaaaGreatDoorRun9
import Derived.Test.YtdanomklbiidaaaGreatDoorMgAZ
import Derived.Test.YtdanomklbiidaaaGreatDoorMgAP
import Derived.Test.YtdanomklbiidaaaGreatDoorHm7
import Derived.Test.YtdanomklbiidaaaGreatDoorMgAQ
import Derived.Test.YtdanomklbiidaaaGreatDoorMgAR
import Derived.Lib.TrailingZeros
import Derived.Laws.Bits64b
namespace Go.Proofs.YtdanomklbiidaaaGreatDoor
open Go.RowKit Lin
attribute [local go_sem ↓] Go.wp_at_zero Go.wp_at_succ
set_option maxRecDepth 100000 in
set_option maxHeartbeats 3200000 in
theorem hullCheck_err (d:Nat) (P:List (List Int)) (v:Value) (w:World) (hv:Mat w.heap.size 22 3 w v P) (hg:Box d 30 P) (h1:1≤d) (h4:d≤4) (h2:2≤P.length) (h24:P.length≤24) :
  Calls Tryz.prog 18 #[.agg #[.int .i64 d,v]] w fun e w'=>e=.returned (.int .i64 (if (pickL d (diffL P)).length=d then 0 else 5))∧Below w.heap.size w w':=by
 obtain ⟨E,hE⟩:∃E:Int,E=if (pickL d (diffL P)).length=d then 0 else 5:=⟨_,rfl⟩
 have HE:Hid (E=if (pickL d (diffL P)).length=d then 0 else 5):=hE
 rw [←hE]
 clear hE
 obtain ⟨b,o,cap,r1,hvv,hlc,_,_⟩:=mat_cell hv (k:=0) (by omega)
 subst hvv
 have HG:Hid (Box d 30 P):=hg
 obtain ⟨W,hW⟩:∃W,W=w.alloc (.cells #[.int .i64 d,.slice (some ⟨b,o,none⟩) P.length cap] 34):=⟨_,rfl⟩
 have hbw:Below w.heap.size w W:=by rw [hW]; exact alloc_keep _ _
 have HW:Hid (Below w.heap.size w W):=hbw
 have HV:Hid (Mat w.heap.size 22 3 W (.slice (some ⟨b,o,none⟩) P.length cap) P):=hv.below hbw (Nat.le_refl _)
 have hsW:W.heap.size=w.heap.size+1:=by rw [hW]; exact size_alloc _ _
 have c0:W.cell? ⟨w.heap.size,0,none⟩=some (.int .i64 d):=by rw [hW]; simp
 have c1:W.cell? ⟨w.heap.size,1,none⟩=some (.slice (some ⟨b,o,none⟩) P.length cap):=by rw [hW]; simp
 have HC:Hid (∀W',Below W.heap.size W W'→W'.cell? ⟨w.heap.size,0,none⟩=some (.int .i64 d)∧W'.cell? ⟨w.heap.size,1,none⟩=some (.slice (some ⟨b,o,none⟩) P.length cap)):=fun W' h=>⟨(h.cell (lt_of_cell c0)).trans c0,(h.cell (lt_of_cell c1)).trans c1⟩
 clear hv hg hbw
 have t1:decide ((d:Int) < 1)=false:=by simp; omega
 have t2:decide ((4:Int) < (d:Int))=false:=by simp; omega
 have t3:decide ((P.length:Int) < 1)=false:=by simp; omega
 have t4:decide ((24:Int) < (P.length:Int))=false:=by simp; omega
 go_enter Tryz.func18,Tryz.ntmps18
 go_wp2
 rw [←hW]
 clear hW
 go_loopw [27] (fun i wr=>∃k:Nat,k≤P.length∧i=.int .i64 k∧Below W.heap.size W wr) (fun i _=>P.length-(intOf i).toNat)
 case atStart=>exact ⟨0,Nat.zero_le _,rfl,Below.refl _ _⟩
 case round=>
  obtain ⟨k,hk,rfl,hbel⟩:=hrel
  have HB:Hid (Below W.heap.size W wr):=hbel
  have e0:=(HC.out wr hbel).1
  have e1:=(HC.out wr hbel).2
  clear hbel
  by_cases hlt:k < P.length
  ·obtain ⟨b2,o2,cp2,rk,hs,hc1,hcc,hrk⟩:=mat_cell (HV.out.below HB.out (Nat.le_refl _)) hlt
   simp only [Value.slice.injEq,Option.some.injEq,Addr.mk.injEq,and_true,true_and] at hs
   obtain ⟨⟨rfl,rfl⟩,rfl⟩:=hs
   obtain ⟨ro,rc,hrv,_,_⟩:=sl_open hrk
   subst hrv
   have hmem:P.getD k []∈P:=by simp [hlt]
   have HRK:Hid (Sl w.heap.size 3 wr (.slice ro (P.getD k []).length rc) (ints (P.getD k []))):=hrk
   have HL:Hid ((P.getD k []).length=d):=(HG.out _ hmem).1
   have HN:Hid (((P.getD k []).any (farB · 100))=false):=box_near HG.out (by decide) hmem
   clear hrk hmem
   generalize P.getD k []=q at *
   generalize hql:q.length=ql at *
   have HQ:Hid (q.length=ql):=hql
   clear hql
   go_wp2_with fail
   refine (chk100_ok w.heap.size d q _ wr HRK.out (by rw [HQ.out]; exact HL.out) HN.out).mono ?_
   rintro e w2 ⟨rfl,hb2⟩
   have HB2:Hid (Below W.heap.size W w2):=HB.out.trans (hb2.mono HB.out.size)
   clear hb2
   go_wp2
   go_roundw
   case rel=>exact ⟨k+1,by omega,by go_num,HB2.out⟩
   case measure=>simp [intOf]; omega
  ·have HRW:Hid (∀r∈P,r.length=d):=fun r hr=>(HG.out r hr).1
   have HRB:Hid (∀r∈P,∀z∈r,z.natAbs≤1000000):=fun r hr z hz=>by have:=box_small HG.out hr z hz; omega
   have HVr:Hid (Mat w.heap.size 22 3 wr (.slice (some ⟨b,o,none⟩) P.length cap) P):=HV.out.below HB.out (Nat.le_refl _)
   have HDF:Hid (Calls Tryz.prog 40 #[.slice (some ⟨b,o,none⟩) P.length cap] wr.drew fun e w'=>∃xo xl xc,e=.returned (.slice xo xl xc)∧(Mat w'.heap.size 22 3 w' (.slice xo xl xc) (diffL P)∧Below W.heap.size W w')):=by
    refine (differences_any w.heap.size d P _ wr.drew (HVr.out.drewN 1) (by omega) (by omega) h1 (by omega) HRW.out HRB.out).mono ?_
    rintro e w' ⟨x,rfl,hx,hb⟩
    have hM:=hx.mat (B':=w'.heap.size) hb.size
    obtain ⟨xo,xc,hxv,_,_⟩:=mat_open hM
    subst hxv
    exact ⟨xo,_,xc,rfl,hM,HB.out.drew.trans (hb.mono HB.out.size)⟩
   have HRK:Hid (∀w' xo xl xc,Mat w'.heap.size 22 3 w' (.slice xo xl xc) (diffL P)→Below W.heap.size W w'→Calls Tryz.prog 39 #[.slice xo xl xc,.int .i64 d] w' fun e w''=>e=.returned (.int .i64 ((pickL d (diffL P)).length:Nat))∧Below W.heap.size W w''):=fun w' xo xl xc hM hb=>by
    have hmx:=diff_mx HG.out h1 (show d≤5 by omega)
    refine (rankQ_any w'.heap.size d (diffL P) _ w' hmx (bdD hmx h4) hM (by rw [diffL_length]; omega) (by rw [diffL_length]; omega)).mono ?_
    rintro e w'' ⟨rfl,hb2⟩
    exact ⟨rfl,hb.trans (hb2.mono hb.size)⟩
   have hcap:=pickL_cap d (diffL P)
   generalize (pickL d (diffL P)).length=rk at *
   by_cases hf:rk=d
   ·obtain rfl:E=0:=by rw [HE.out,if_pos hf]
    subst hf
    have hdd:decide ((rk:Int) < (rk:Int))=false:=by simp
    go_wp2
    go_region_law (first
     | (refine step_call (o:={ dst:=some 41,op:=_,type:=_,pos:=_,after:=_,guard:=_ }) (by rfl) 40 _ 23 (by rfl) _ (by rfl) ⟨_,Tryz.func40,by rfl,by rfl⟩ ?_; refine (HDF.out).mono ?_; rintro e w2 ⟨xo,xl,xc,rfl,hx⟩; refine ⟨_,rfl,?_⟩; have HX2:Hid (Mat w2.heap.size 22 3 w2 (.slice xo xl xc) (diffL P)∧Below W.heap.size W w2):=hx; have f0:=(HC.out w2 hx.2).1; clear hx)
     | (refine step_call2 (o:={ dst:=some 44,op:=_,type:=_,pos:=_,after:=_,guard:=_ }) (by rfl) 39 _ _ 23 3 (by rfl) _ _ (by rfl) (by rfl) ⟨_,Tryz.func39,by rfl,by rfl⟩ ?_; refine (HRK.out w2 xo xl xc HX2.out.1 HX2.out.2).mono ?_; rintro e w3 ⟨rfl,hb3⟩; refine ⟨_,rfl,?_⟩; have HB3:Hid (Below W.heap.size W w3):=hb3; have g0:=(HC.out w3 hb3).1; clear hb3))
    all_goals
     go_wp2
     go_ret
     exact ⟨rfl,HW.out.trans (HB3.out.mono HW.out.size)⟩
   ·obtain rfl:E=5:=by rw [HE.out,if_neg hf]
    have hdd:decide ((rk:Int) < (d:Int))=true:=by simp; omega
    go_wp2
    go_region_law (first
     | (refine step_call (o:={ dst:=some 41,op:=_,type:=_,pos:=_,after:=_,guard:=_ }) (by rfl) 40 _ 23 (by rfl) _ (by rfl) ⟨_,Tryz.func40,by rfl,by rfl⟩ ?_; refine (HDF.out).mono ?_; rintro e w2 ⟨xo,xl,xc,rfl,hx⟩; refine ⟨_,rfl,?_⟩; have HX2:Hid (Mat w2.heap.size 22 3 w2 (.slice xo xl xc) (diffL P)∧Below W.heap.size W w2):=hx; have f0:=(HC.out w2 hx.2).1; clear hx)
     | (refine step_call2 (o:={ dst:=some 44,op:=_,type:=_,pos:=_,after:=_,guard:=_ }) (by rfl) 39 _ _ 23 3 (by rfl) _ _ (by rfl) (by rfl) ⟨_,Tryz.func39,by rfl,by rfl⟩ ?_; refine (HRK.out w2 xo xl xc HX2.out.1 HX2.out.2).mono ?_; rintro e w3 ⟨rfl,hb3⟩; refine ⟨_,rfl,?_⟩; have HB3:Hid (Below W.heap.size W w3):=hb3; have g0:=(HC.out w3 hb3).1; clear hb3))
    all_goals
     go_wp2
     go_ret
     exact ⟨rfl,HW.out.trans (HB3.out.mono HW.out.size)⟩
def ckE (P:List (List Int)):Int:=if P.length < 3 then 2 else if (pickL 2 (diffL P)).length=2 then 0 else 5
end Go.Proofs.YtdanomklbiidaaaGreatDoor

namespace Go.Proofs.YtdanomklbiidaaaGreatDoor
open Go.RowKit Lin
attribute [local go_sem ↓] Go.wp_at_zero Go.wp_at_succ
theorem mat_takeC {B k:Nat} {w:World} {ro:Option Addr} {rc:Nat} {P:List (List Int)} (h:Mat B 22 3 w (.slice ro P.length rc) P) (hk:k≤P.length):Mat B 22 3 w (.slice ro k rc) (P.take k):=by
 obtain ⟨vs,a1,⟨ao,cap,e,a2,a3,a4,a5⟩,a6⟩:=h
 simp only [Value.slice.injEq] at e
 obtain ⟨rfl,_,rfl⟩:=e
 have hlt:(vs.take k).length=k:=by rw [List.length_take]; omega
 refine ⟨vs.take k,by rw [hlt,List.length_take]; omega,⟨ro,rc,by rw [hlt],by rw [hlt]; omega,a3,fun i hi=>?_,a5⟩,fun i hi=>?_⟩
 ·rw [hlt] at hi
  obtain ⟨b,o,q1,q2,q3⟩:=a4 i (by omega)
  exact ⟨b,o,q1,by rw [q2,List.getElem?_take_of_lt hi],q3⟩
 ·rw [List.length_take] at hi
  have:=a6 i (by omega)
  rw [List.getD_eq_getElem?_getD,List.getD_eq_getElem?_getD,List.getElem?_take_of_lt (by omega),List.getElem?_take_of_lt (by omega),←List.getD_eq_getElem?_getD,←List.getD_eq_getElem?_getD]
  exact this
theorem nodup_any {P:List (List Int)} (h:P.Nodup) {k:Nat} (hk:k < P.length):((P.take k).any fun y=>P.getD k [] == y)=false:=by
 rw [List.any_eq_false]
 intro y hy
 obtain ⟨i,hi,rfl⟩:=List.getElem_of_mem hy
 rw [List.length_take] at hi
 rw [List.getElem_take]
 have e:P.getD k []=P[k]:=by simp [hk]
 rw [e]
 intro hc
 have hc':P[k]=P[i]:=by simpa using hc
 exact (List.pairwise_iff_getElem.1 h) i k (by omega) hk (by omega) hc'.symm
set_option maxRecDepth 100000 in
theorem planar_any (ao:Option Addr) (n c:Nat) (w:World) :
  Calls Tryz.prog 19 #[.slice ao n c] w fun e w'=>e=.returned (.agg #[.int .i64 2,.slice ao n c])∧Below w.heap.size w w':=by
 go_enter Tryz.func19,Tryz.ntmps19
 go_wp2
 have q0:(w.alloc (.cells #[.int .i64 2,.slice ao n c] 34)).cell? ⟨w.heap.size,0,none⟩=some (.int .i64 2):=by simp
 have q1:(w.alloc (.cells #[.int .i64 2,.slice ao n c] 34)).cell? ⟨w.heap.size,1,none⟩=some (.slice ao n c):=by simp
 refine bodyPost_ret (v:=.agg #[.int .i64 2,.slice ao n c]) (by simp [results,Tryz.results19,go_sem,q0,q1]) rfl ?_
 exact ⟨rfl,(Below.refl _ _).alloc (Nat.le_refl _) _⟩
set_option maxRecDepth 100000 in
set_option maxHeartbeats 3200000 in
theorem cellCheck_any (P:List (List Int)) (v:Value) (w:World) (hv:Mat w.heap.size 22 3 w v P) (hb:Box 2 30 P) (h7:P.length≤7) (hnd:P.Nodup) :
  Calls Tryz.prog 8 #[v] w fun e w'=>e=.returned (.int .i64 (ckE P))∧Below w.heap.size w w':=by
 obtain ⟨po,pc,rfl,hlc,hcm⟩:=mat_open hv
 have HV:Hid (Mat w.heap.size 22 3 w (.slice po P.length pc) P):=hv
 have HBX:Hid (Box 2 30 P):=hb
 have HND:Hid (P.Nodup):=hnd
 have HKE:Hid (ckE P=if P.length < 3 then 2 else if (pickL 2 (diffL P)).length=2 then 0 else 5):=rfl
 generalize ckE P=E at *
 clear hv hb hnd
 by_cases h3:P.length < 3
 ·have b1:decide ((P.length:Int) < 3)=true:=decide_eq_true (by omega)
  obtain rfl:E=2:=by rw [HKE.out,if_pos h3]
  go_enter Tryz.func8,Tryz.ntmps8
  go_wp2
  go_ret
  exact ⟨rfl,Below.refl _ _⟩
 ·have b1:decide ((P.length:Int) < 3)=false:=decide_eq_false (by omega)
  have b2:decide ((7:Int) < (P.length:Int))=false:=decide_eq_false (by omega)
  have HEE:Hid (E=if (pickL 2 (diffL P)).length=2 then 0 else 5):=by
   show _=_
   rw [HKE.out,if_neg h3]
  have HPL:Hid (Calls Tryz.prog 19 #[.slice po P.length pc] w fun e w'=>e=.returned (.agg #[.int .i64 2,.slice po P.length pc])∧Below w.heap.size w w'):=planar_any po P.length pc w
  have HHC:Hid (∀X,Below w.heap.size w X→Calls Tryz.prog 18 #[.agg #[.int .i64 2,.slice po P.length pc]] X fun e w'=>e=.returned (.int .i64 E)∧Below w.heap.size w w'):=fun X hX=>by
   have h:=hullCheck_err 2 P _ X ((HV.out.below hX (Nat.le_refl _)).any (Nat.le_refl _)) HBX.out (by decide) (by decide) (by omega) (by omega)
   rw [←HEE.out] at h
   exact h.mono fun e w' ⟨e1,e2⟩=>⟨e1,hX.trans (e2.mono hX.size)⟩
  clear HKE
  go_enter Tryz.func8,Tryz.ntmps8
  go_wp2_with fail
  refine HPL.out.mono ?_
  rintro e w1 ⟨rfl,hb1⟩
  have HK:=HHC.out w1 hb1
  clear hb1 HPL HHC
  by_cases hf:(pickL 2 (diffL P)).length=2
  ·obtain rfl:E=0:=by rw [HEE.out,if_pos hf]
   go_wp2_with fail
   refine HK.mono ?_
   rintro e w2 ⟨rfl,hb2⟩
   have HB2:Hid (Below w.heap.size w w2):=hb2
   clear hb2 HK
   go_wp2
   go_loopw [4,5,6,23] (fun _ _ _ i wr=>∃k:Nat,k≤P.length∧i=.int .i64 k∧Below w.heap.size w wr) (fun _ _ _ i _=>P.length-(intOf i).toNat)
   case atStart=>exact ⟨0,Nat.zero_le _,rfl,HB2.out⟩
   case round=>
    obtain ⟨k,hk,rfl,hbel⟩:=hrel
    have HB:Hid (Below w.heap.size w wr):=hbel
    clear hbel
    by_cases hlt:k < P.length
    ·obtain ⟨b,o,cp,r1,hs,hc1,hcc,hr1⟩:=mat_cell (HV.out.below HB.out (Nat.le_refl _)) hlt
     simp only [Value.slice.injEq] at hs
     obtain ⟨rfl,hxx,rfl⟩:=hs
     clear hxx
     have hA:Below wr.heap.size wr (wr.alloc (.cells #[r1] 22)):=(Below.refl _ _).alloc (Nat.le_refl _) _
     have cA:(wr.alloc (.cells #[r1] 22)).cell? ⟨wr.heap.size,0,none⟩=some r1:=one_new wr r1 _ 0 r1 rfl
     have HHS:Hid (Calls Tryz.prog 22 #[.slice (some ⟨b,o,none⟩) k pc,.func (.func 20) #[] #[.pointer (some ⟨wr.heap.size,0,none⟩)]] (wr.alloc (.cells #[r1] 22)) fun e w'=>e=.returned (.bool false)∧Below w.heap.size w w'):=by
      have hbw:=HB.out.trans (hA.mono HB.out.size)
      have h:=hasK_any w.heap.size (fun y=>P.getD k [] == y) (P.take k) (.slice (some ⟨b,o,none⟩) k pc) ⟨wr.heap.size,0,none⟩ (wr.alloc (.cells #[r1] 22)) (mat_takeC (HV.out.below hbw (Nat.le_refl _)) hk) fun y hy W yv hW hys=>by
       refine (eqk_any (P.getD k []) y r1 yv wr.heap.size W (((hr1.below hA (Nat.le_refl _)).below hW (Nat.le_refl _)).any (Nat.le_refl _)) (hys.any (Nat.le_refl _)) ((hW.cell (lt_of_cell cA)).trans cA)).mono ?_
       rintro e w' ⟨rfl,hb⟩
       exact ⟨rfl,hW.trans (hb.mono hW.size)⟩
      rw [nodup_any HND.out hlt] at h
      exact h.mono fun e w' ⟨e1,e2⟩=>⟨e1,hbw.trans (e2.mono hbw.size)⟩
     obtain ⟨ro,rc,hre,_,_⟩:=sl_open hr1
     subst hre
     have hkc:k≤pc:=by omega
     clear hr1 hA cA
     generalize (P.getD k []).length=rl at *
     go_wp2_with fail
     refine HHS.out.mono ?_
     rintro e w3 ⟨rfl,hb3⟩
     have HB3:Hid (Below w.heap.size w w3):=hb3
     clear hb3 HHS
     go_wp2
     go_roundw
     case rel=>exact ⟨k+1,by omega,by go_num,HB3.out⟩
     case measure=>simp [intOf]; omega
    ·go_wp2
     go_ret
     exact ⟨rfl,HB.out⟩
  ·obtain rfl:E=5:=by rw [HEE.out,if_neg hf]
   go_wp2_with fail
   refine HK.mono ?_
   rintro e w2 ⟨rfl,hb2⟩
   have HB2:Hid (Below w.heap.size w w2):=hb2
   clear hb2 HK
   go_wp2
   go_ret
   exact ⟨rfl,HB2.out⟩
end Go.Proofs.YtdanomklbiidaaaGreatDoor

namespace Go.Proofs.YtdanomklbiidaaaGreatDoor
open Go.RowKit Lin
theorem det3 (a b c e f g h i j:Int):detL [[a,b,c],[e,f,g],[h,i,j]]=h*(b*g-c*f)+i*(c*e-a*g)+j*(a*f-b*e):=by
 have hh:∀u v x:Nat→Int,od 3 [u,v,x] (fun _=>false)=x 0*(u 1*v 2-u 2*v 1)+x 1*(u 2*v 0-u 0*v 2)+x 2*(u 0*v 1-u 1*v 0):=fun u v x=>by
  simp [od,sumN,sg,ins]
  grind
 unfold detL fm
 show od 3 [_,_,_] _=_
 rw [hh]
 simp
theorem sub3 (a b c e f g:Int):subL [a,b,c] [e,f,g]=[a-e,b-f,c-g]:=rfl
theorem sw_tn {P:List (List Int)} (hb:Box 2 30 P) {i j k:Nat} (hj:j < P.length) (hk:k < P.length):swW P [(i:Int),(j:Int),(k:Int)]=Pick.tn (Xk P i) (Yk P i) (Xk P j) (Yk P j) (Xk P k) (Yk P k):=by
 have e:pks P [] [(i:Int),(j:Int),(k:Int)]=[P.getD i [],P.getD j [],P.getD k []]:=by simp [pks]
 have e2:diffL [P.getD i [],P.getD j [],P.getD k []]=[subL (P.getD j []) (P.getD i []),subL (P.getD k []) (P.getD i [])]:=rfl
 have lj:(P.getD j []).length=2:=(hb (P.getD j []) (by simp [hj])).1
 have lk:(P.getD k []).length=2:=(hb (P.getD k []) (by simp [hk])).1
 unfold swW
 rw [e,e2,sub2 lj,sub2 lk,det2]
 rfl
theorem lif_at (P:List (List Int)) (hs:List Int) {q:Nat} (hq:q < P.length):(lifL P hs).getD q []=[Xk P q,Yk P q,hs.getD q 0]:=by
 simp [lifL,hq,Xk,Yk,V]
theorem hg_ht {P:List (List Int)} (hb:Box 2 30 P) (hs:List Int) {i j k q:Nat} (hi:i < P.length) (hj:j < P.length) (hk:k < P.length) (hq:q < P.length) :
  hgL (swW P [(i:Int),(j:Int),(k:Int)]) (pks (lifL P hs) [] [(i:Int),(j:Int),(k:Int)]) ((lifL P hs).getD q [])=htR P hs i j k q:=by
 have e:pks (lifL P hs) [] [(i:Int),(j:Int),(k:Int)]=[[Xk P i,Yk P i,hs.getD i 0],[Xk P j,Yk P j,hs.getD j 0],[Xk P k,Yk P k,hs.getD k 0]]:=by
  rw [←lif_at P hs hi,←lif_at P hs hj,←lif_at P hs hk]
  simp [pks]
 unfold hgL
 rw [sw_tn hb hj hk,e,lif_at P hs hq]
 show _*detL (diffL [_,_,_,_])=_
 have e2:∀a b c x:List Int,diffL [a,b,c,x]=[subL b a,subL c a,subL x a]:=fun _ _ _ _=>rfl
 rw [e2,sub3,sub3,sub3,det3]
 unfold htR plnR Pick.Pln.f Pick.tn
 simp only
 grind
theorem ok_sw {P:List (List Int)} (hb:Box 2 30 P) (hs:List Int) {i j k:Nat} (hi:i < P.length) (hj:j < P.length) (hk:k < P.length) :
  (swB P (lifL P hs) [(i:Int),(j:Int),(k:Int)]=true↔okR P hs i j k)∧swT P (lifL P hs) [(i:Int),(j:Int),(k:Int)] P.length=onR P hs i j k:=by
 have hl:(lifL P hs).length=P.length:=by simp [lifL]
 refine ⟨?_,?_⟩
 ·unfold swB okR
  rw [Bool.and_eq_true,decide_eq_true_eq,sw_tn hb hj hk,Bool.not_eq_true',List.any_eq_false]
  rw [←sw_tn hb hj hk]
  refine and_congr_right fun _=>⟨fun h q hq=>?_,fun h x hx=>?_⟩
  ·have:=h ((lifL P hs).getD q []) (by simp [show q < (lifL P hs).length by omega])
   rw [hg_ht hb hs hi hj hk hq] at this
   have:¬htR P hs i j k q < 0:=by simpa using this
   omega
  ·obtain ⟨q,hq,rfl⟩:=List.getElem_of_mem hx
   have e:(lifL P hs)[q]=(lifL P hs).getD q []:=by simp [hq]
   rw [e,hg_ht hb hs hi hj hk (by omega)]
   have:=h q (by omega)
   simp; omega
 ·unfold swT onR
  congr 1
  refine List.filter_congr fun q hq=>?_
  rw [hg_ht hb hs hi hj hk (List.mem_range.1 hq)]
theorem mem_ext3 {n:Nat} {c:List Int} : c∈ext n 3 0↔∃i j k:Nat,i < j∧j < k∧k < n∧c=[(i:Int),(j:Int),(k:Int)]:=by
 simp only [ext,List.mem_flatMap,List.mem_map,List.mem_range'_1,List.mem_singleton]
 constructor
 ·rintro ⟨i,hi,x,⟨j,hj,y,⟨k,hk,z,rfl,rfl⟩,rfl⟩,rfl⟩
  exact ⟨i,j,k,by omega,by omega,by omega,rfl⟩
 ·rintro ⟨i,j,k,h1,h2,h3,rfl⟩
  exact ⟨i,by omega,_,⟨j,by omega,_,⟨k,by omega,_,rfl,rfl⟩,rfl⟩,rfl⟩
theorem regular_fill {P:List (List Int)} (hg:Good 2 P) (hb:Box 2 30 P) (hs:List Int) {m:List (List Int)} (hm:Inor m (rgL P (lifL P hs) (ext P.length 3 0))) :
  (Pick.ls m (fun c=>arQ (pks P [] c))=arQ P∧m≠[])∧∀c∈m,∃i j k,i < j∧j < k∧k < P.length∧okR P hs i j k∧c=onR P hs i j k:=by
 have hl:(lifL P hs).length=P.length:=by simp [lifL]
 have hmm:∀c,c∈m↔∃i j k,i < j∧j < k∧k < P.length∧okR P hs i j k∧c=onR P hs i j k:=fun c=>by
  rw [hm.mem c]
  simp only [rgL,List.mem_flatMap,mem_ext3]
  constructor
  ·rintro ⟨_,⟨i,j,k,h1,h2,h3,rfl⟩,hc⟩
   obtain ⟨q1,q2⟩:=ok_sw hb hs (i:=i) (j:=j) (k:=k) (by omega) (by omega) h3
   unfold rgC at hc
   split at hc
   ·rename_i hsw
    simp only [List.mem_singleton] at hc
    refine ⟨i,j,k,h1,h2,h3,q1.1 hsw,?_⟩
    rw [hc,swL,if_pos hsw,hl,q2]
   ·simp at hc
  ·rintro ⟨i,j,k,h1,h2,h3,h4,rfl⟩
   obtain ⟨q1,q2⟩:=ok_sw hb hs (i:=i) (j:=j) (k:=k) (by omega) (by omega) h3
   refine ⟨_,⟨i,j,k,h1,h2,h3,rfl⟩,?_⟩
   unfold rgC
   rw [if_pos (q1.2 h4),List.mem_singleton,swL,if_pos (q1.2 h4),hl,q2]
 exact ⟨reg_fill hg hs (SAsc.nodup hm.asc) hmm,fun c hc=>(hmm c).1 hc⟩
end Go.Proofs.YtdanomklbiidaaaGreatDoor

namespace Go.Proofs.YtdanomklbiidaaaGreatDoor
open Go.RowKit
attribute [local go_sem ↓] Go.wp_at_zero Go.wp_at_succ
def bx (k:Nat) (lo hi:List Int):Nat→Int
 | 0=>1
 | i+1=>bx k lo hi i*((k:Int)*(hi.getD i 0-lo.getD i 0)+1)
end Go.Proofs.YtdanomklbiidaaaGreatDoor

namespace Go.Proofs.YtdanomklbiidaaaGreatDoor
open Go.RowKit
attribute [local go_sem ↓] Go.wp_at_zero Go.wp_at_succ
def b01 (b:Bool):Int:=if b=true then 1 else 0
end Go.Proofs.YtdanomklbiidaaaGreatDoor

namespace Go.Proofs.YtdanomklbiidaaaGreatDoor
open Go.RowKit
attribute [local go_sem ↓] Go.wp_at_zero Go.wp_at_succ
def memTo (s i:Nat):List Int:=((List.range i).filter fun k=>s.testBit k).map fun k:Nat=>(k:Int)
def memL (s:Nat):List Int:=memTo s 64
theorem memTo_succ (s i:Nat):memTo s (i+1)=memTo s i ++ (if s.testBit i=true then [(i:Int)] else []):=by
 unfold memTo
 rw [List.range_succ,List.filter_append,List.map_append]
 cases h:s.testBit i <;> simp [h]
theorem memTo_len (s i:Nat):(memTo s i).length≤i:=by
 unfold memTo
 rw [List.length_map]
 exact Nat.le_trans (List.length_filter_le _ _) (by simp)
theorem memTo_top {s i:Nat} (hs:s < 2 ^ i):∀k,memTo s (i+k)=memTo s i
 | 0=>rfl
 | k+1=>by
  rw [←Nat.add_assoc,memTo_succ,memTo_top hs k]
  have:s.testBit (i+k)=false:=Nat.testBit_lt_two_pow (Nat.lt_of_lt_of_le hs (Nat.pow_le_pow_right (by decide) (by omega)))
  simp [this]
theorem memL_top {s i:Nat} (hs:s < 2 ^ i) (hi:i≤64):memTo s i=memL s:=by
 have:=memTo_top hs (64-i)
 rw [show i+(64-i)=64 by omega] at this
 exact this.symm
theorem mem_memL {s:Nat} (hs:s < 2 ^ 64) {x:Int} : x∈memL s↔∃k:Nat,x=k∧s.testBit k=true:=by
 unfold memL memTo
 simp only [List.mem_map,List.mem_filter,List.mem_range]
 constructor
 ·rintro ⟨k,⟨_,h⟩,rfl⟩; exact ⟨k,rfl,h⟩
 ·rintro ⟨k,rfl,h⟩
  refine ⟨k,⟨?_,h⟩,rfl⟩
  refine Nat.lt_of_not_le fun hle=>?_
  have:=Nat.testBit_lt_two_pow (Nat.lt_of_lt_of_le hs (Nat.pow_le_pow_right (by decide) hle))
  rw [this] at h
  exact absurd h (by decide)
end Go.Proofs.YtdanomklbiidaaaGreatDoor

namespace Go.Proofs.YtdanomklbiidaaaGreatDoor
open Go.RowKit
attribute [local go_sem ↓] Go.wp_at_zero Go.wp_at_succ
def sdTo (C:List (List Int)) (r:List Int):Nat→Nat
 | 0=>0
 | i+1=>sdTo C r i ||| (if overL r (C.getD i [])=0 then 2 ^ i else 0)
theorem sdTo_lt (C:List (List Int)) (r:List Int):∀i,sdTo C r i < 2 ^ i
 | 0=>by simp [sdTo]
 | i+1=>by
  have ih:=sdTo_lt C r i
  have h1:(2:Nat) ^ i < 2 ^ (i+1):=Nat.pow_lt_pow_right (by decide) (by omega)
  unfold sdTo
  refine Nat.or_lt_two_pow (by omega) ?_
  split
  ·exact h1
  ·exact Nat.pow_pos (by decide)
theorem sdTo_bit (C:List (List Int)) (r:List Int):∀i k,(sdTo C r i).testBit k=(decide (k < i) && decide (overL r (C.getD k [])=0))
 | 0,k=>by simp [sdTo]
 | i+1,k=>by
  unfold sdTo
  rw [Nat.testBit_or,sdTo_bit C r i k]
  by_cases hk:k=i
  ·subst hk
   by_cases h:overL r (C.getD k [])=0
   ·rw [if_pos h,Nat.testBit_two_pow_self,decide_eq_true h]; simp
   ·rw [if_neg h,decide_eq_false h]; simp
  ·have e:(if overL r (C.getD i [])=0 then 2 ^ i else 0).testBit k=false:=by
    split
    ·exact Nat.testBit_two_pow_of_ne (fun h=>hk h.symm)
    ·simp
   rw [e]
   have:decide (k < i+1)=decide (k < i):=decide_eq_decide.2 (by omega)
   rw [this]; simp
def sdN (C:List (List Int)) (r:List Int):Nat:=sdTo C r C.length
end Go.Proofs.YtdanomklbiidaaaGreatDoor

namespace Go.Proofs.YtdanomklbiidaaaGreatDoor
open Go.RowKit
def sharedL (a b:List Int):List Int:=a.filter (fun x=>b.contains x)
def okB (l:List Int) (ahead sides:List (List Int)):Bool:=
 ahead.all (fun o=>sides.any (fun s=>decide ((sharedL (sharedL l o) s).length=(sharedL l o).length)))
def Ris (l:List Int):Prop:=l.Pairwise (· < ·)
theorem nodup_len {α:Type} [BEq α] [LawfulBEq α]:∀(l o:List α),l.Nodup→(∀x∈l,x∈o)→l.length≤o.length
 | [],o,_,_=>Nat.zero_le _
 | a :: l,o,hn,hs=>by
  have ha:a∈o:=hs a (by simp)
  have hn':=List.nodup_cons.1 hn
  have:=nodup_len l (o.erase a) hn'.2 (fun x hx=>by
   have hxa:x≠a:=fun e=>hn'.1 (e ▸ hx)
   exact (List.mem_erase_of_ne hxa).2 (hs x (by simp [hx])))
  have hl:=List.length_erase_of_mem ha
  have hp:0 < o.length:=List.length_pos_of_mem ha
  simp only [List.length_cons]
  omega
def setN:List Int→Nat
 | []=>0
 | v :: l=>2 ^ v.toNat ||| setN l
def B64 (l:List Int):Prop:=∀x∈l,0≤x∧x≤63
theorem B64.tail {v:Int} {l:List Int} (h:B64 (v :: l)):B64 l:=fun x hx=>h x (by simp [hx])
theorem setN_bit:∀(l:List Int) (i:Nat),B64 l→((setN l).testBit i=true↔(i:Int)∈l)
 | [],i,_=>by simp [setN]
 | v :: l,i,h=>by
  have hv:=h v (by simp)
  rw [setN,Nat.testBit_or,Bool.or_eq_true,setN_bit l i h.tail,Nat.testBit_two_pow,decide_eq_true_iff,List.mem_cons]
  constructor
  ·rintro (e | e)
   ·exact Or.inl (by omega)
   ·exact Or.inr e
  ·rintro (e | e)
   ·exact Or.inl (by omega)
   ·exact Or.inr e
theorem setN_lt:∀(l:List Int),B64 l→setN l < 2 ^ 64
 | [],_=>by simp [setN]
 | v :: l,h=>by
  have hv:=h v (by simp)
  exact Nat.or_lt_two_pow (Nat.pow_lt_pow_right (by omega) (by omega)) (setN_lt l h.tail)
theorem setN_append:∀(a b:List Int),setN (a ++ b)=setN a ||| setN b
 | [],b=>by simp [setN]
 | v :: a,b=>by simp only [List.cons_append,setN]; rw [setN_append a b,Nat.or_assoc]
def outN (a b:Nat):Nat:=a ^^^ (a &&& b)
theorem outN_bit (a b i:Nat):(outN a b).testBit i=((a.testBit i) && !(b.testBit i)):=by
 unfold outN
 rw [Nat.testBit_xor,Nat.testBit_and]
 cases a.testBit i <;> cases b.testBit i <;> rfl
theorem outN_lt (a b:Nat) (ha:a < 2 ^ 64):outN a b < 2 ^ 64:=Nat.xor_lt_two_pow ha (Nat.lt_of_le_of_lt Nat.and_le_left ha)
theorem setN_even:∀(l:List Int) (k:Nat),(∀x∈l,(k:Int)≤x)→∃m,setN l=2 ^ k*m
 | [],k,_=>⟨0,rfl⟩
 | v :: l,k,h=>by
  obtain ⟨m,hm⟩:=setN_even l k (fun x hx=>h x (by simp [hx]))
  have hv:=h v (by simp)
  refine ⟨2 ^ (v.toNat-k) ||| m,?_⟩
  rw [setN,hm]
  have e:2 ^ v.toNat=2 ^ k*2 ^ (v.toNat-k):=by rw [←Nat.pow_add]; congr 1; omega
  rw [e]
  apply Nat.eq_of_testBit_eq
  intro i
  rw [Nat.testBit_or,Nat.testBit_two_pow_mul,Nat.testBit_two_pow_mul,Nat.testBit_two_pow_mul,Nat.testBit_or]
  cases decide (i≥k) <;> rfl
theorem setN_low {v:Int} {l:List Int} (h:Ris (v :: l)) (hb:B64 (v :: l)):∃m,setN (v :: l)=2 ^ v.toNat*(2*m+1)∧setN l=2 ^ v.toNat*(2*m):=by
 obtain ⟨h1,_⟩:=List.pairwise_cons.1 h
 have hv:=hb v (by simp)
 obtain ⟨m,hm⟩:=setN_even l (v.toNat+1) (fun x hx=>by have:=h1 x hx; omega)
 refine ⟨m,?_,by rw [hm,Nat.pow_succ,Nat.mul_assoc]⟩
 rw [setN,hm,Nat.pow_succ,Nat.mul_assoc]
 have:2 ^ v.toNat*(2*m+1)=2 ^ v.toNat+2 ^ v.toNat*(2*m):=by rw [Nat.mul_add,Nat.mul_one,Nat.add_comm]
 rw [this]
 have h2:=Nat.two_pow_add_eq_or_of_lt (i:=v.toNat) (b:=0) (Nat.two_pow_pos _) (2*m)
 apply Nat.eq_of_testBit_eq
 intro i
 rw [Nat.testBit_or,Nat.testBit_two_pow,Nat.testBit_two_pow_mul,←this,Nat.testBit_two_pow_mul]
 by_cases hi:v.toNat≤i
 ·by_cases hi':v.toNat=i
  ·simp [hi',Nat.testBit_zero]
  ·have h3:(2*m+1).testBit (i-v.toNat)=(2*m).testBit (i-v.toNat):=by
    obtain ⟨j,hj⟩:∃j,i-v.toNat=j+1:=⟨i-v.toNat-1,by omega⟩
    rw [hj,Nat.testBit_succ,Nat.testBit_succ]
    congr 1
    omega
   simp [hi,hi',h3]
 ·simp [hi]; omega
theorem ctzFrom_low:∀(f k m:Nat),k < f→Lib.ctzFrom f (2 ^ k*(2*m+1))=k
 | 0,k,m,h=>by omega
 | f+1,0,m,_=>by
  rw [Lib.ctzFrom,if_pos (by omega)]
 | f+1,k+1,m,h=>by
  have e:2 ^ (k+1)*(2*m+1)=2*(2 ^ k*(2*m+1)):=by rw [Nat.pow_succ,Nat.mul_comm (2 ^ k) 2,Nat.mul_assoc]
  rw [Lib.ctzFrom,e,if_neg (by omega),Nat.mul_div_cancel_left _ (by omega),ctzFrom_low f k m (by omega)]
  omega
theorem setN_ctz {v:Int} {l:List Int} (h:Ris (v :: l)) (hb:B64 (v :: l)):((Lib.ctz 64 (setN (v :: l)):Nat):Int)=v:=by
 obtain ⟨m,hm,_⟩:=setN_low h hb
 have hv:=hb v (by simp)
 have hp:0 < 2 ^ v.toNat*(2*m+1):=Nat.mul_pos (Nat.two_pow_pos _) (by omega)
 rw [Lib.ctz,if_neg (by rw [hm]; omega),hm,ctzFrom_low _ _ _ (by omega)]
 omega
theorem setN_pos {v:Int} {l:List Int} (h:Ris (v :: l)) (hb:B64 (v :: l)):0 < setN (v :: l):=by
 obtain ⟨m,hm,_⟩:=setN_low h hb
 rw [hm]
 exact Nat.mul_pos (Nat.two_pow_pos _) (by omega)
theorem setN_rest {v:Int} {l:List Int} (h:Ris (v :: l)) (hb:B64 (v :: l)):setN (v :: l) &&& (setN (v :: l)-1)=setN l:=by
 obtain ⟨m,hm,hl⟩:=setN_low h hb
 rw [hm,hl]
 have e:2 ^ v.toNat*(2*m+1)-1=2 ^ v.toNat*(2*m)+(2 ^ v.toNat-1):=by
  have:=Nat.two_pow_pos v.toNat
  rw [Nat.mul_add,Nat.mul_one]; omega
 apply Nat.eq_of_testBit_eq
 intro i
 rw [Nat.testBit_and,e,Nat.testBit_two_pow_mul_add _ (by have:=Nat.two_pow_pos v.toNat; omega),Nat.testBit_two_pow_mul,Nat.testBit_two_pow_mul]
 by_cases hi:v.toNat≤i
 ·rw [if_neg (by omega)]
  by_cases hi':i=v.toNat
  ·simp [hi',Nat.testBit_zero]
  ·have h3:(2*m+1).testBit (i-v.toNat)=(2*m).testBit (i-v.toNat):=by
    obtain ⟨j,hj⟩:∃j,i-v.toNat=j+1:=⟨i-v.toNat-1,by omega⟩
    rw [hj,Nat.testBit_succ,Nat.testBit_succ]
    congr 1
    omega
   rw [h3]
   simp [hi]
 ·simp [hi]
theorem bits_andNot_u64_nat (a b:Nat) (ha:a < 18446744073709551616) (hb:b < 18446744073709551616) :
  bits .andNot .u64 (a:Int) (b:Int)=((outN a b:Nat):Int):=by
 have h1:(BitVec.ofInt 64 (a:Int)).toNat=a:=by
  rw [BitVec.ofInt_natCast,BitVec.toNat_ofNat]; exact Nat.mod_eq_of_lt (by omega)
 have h2:(BitVec.ofInt 64 (b:Int)).toNat=b:=by
  rw [BitVec.ofInt_natCast,BitVec.toNat_ofNat]; exact Nat.mod_eq_of_lt (by omega)
 show IntKind.u64.wrap ((BitVec.ofInt 64 (a:Int) &&& ~~~ BitVec.ofInt 64 (b:Int)).toNat:Int)=_
 have h3:(BitVec.ofInt 64 (a:Int) &&& ~~~ BitVec.ofInt 64 (b:Int)).toNat=outN a b:=by
  apply Nat.eq_of_testBit_eq
  intro i
  rw [outN_bit]
  by_cases hi:i < 64
  ·rw [BitVec.toNat_and,Nat.testBit_and,h1]
   have:(~~~ BitVec.ofInt 64 (b:Int)).toNat.testBit i=!(b.testBit i):=by
    rw [BitVec.testBit_toNat,BitVec.getLsbD_not,←BitVec.testBit_toNat,h2]
    simp [hi]
   rw [this]
  ·have e1:a.testBit i=false:=Nat.testBit_lt_two_pow (Nat.lt_of_lt_of_le ha (Nat.le_trans (by decide:18446744073709551616≤2 ^ 64) (Nat.pow_le_pow_right (by omega) (by omega))))
   rw [BitVec.toNat_and,Nat.testBit_and,h1,e1]
   rfl
 rw [h3,IntKind.wrap_u64]
 have:=outN_lt a b (by simpa using ha)
 omega
end Go.Proofs.YtdanomklbiidaaaGreatDoor
