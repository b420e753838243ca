import Derived.Test.YtbdacimjebaihaaGreatSgD
import Derived.Test.YtbdacimjebaihaaGreatSgC
import Derived.Test.YtbdacimjebaihaaGreatWiA
import Derived.Test.YtbdacimjebaihaaGreatHfB
import Derived.Deep.DeepCutAuto
import Derived.Deep.RegionHeld3
namespace Go.Proofs.YtbdacimjebaihaaGreat
open Go.RowKit
attribute [local go_sem ↓] Go.wp_at_zero Go.wp_at_succ
set_option maxRecDepth 100000 in
set_option maxHeartbeats 800000 in
theorem idxS_any (B:Nat) (f:List Int→Bool) (m:List (List Int)) (v:Value) (p1 p2:Addr) (w:World) (hv:Mat B 22 3 w v m)
  (hc:∀r∈m,∀(W:World) (rv:Value),Below w.heap.size w W→Sl B 3 W rv (ints r)→Calls Tryz.prog 45 #[rv,.pointer (some p1),.pointer (some p2)] W fun e w'=>e=.returned (.bool (f r))∧Below w.heap.size w w') :
  Calls Tryz.prog 70 #[v,.func (.func 45) #[] #[.pointer (some p1),.pointer (some p2)]] w fun e w'=>(∃z,e=.returned (.int .i64 z)∧-1≤z∧z < m.length∧decide (0≤z)=m.any f)∧Below w.heap.size w w':=by
 obtain ⟨ao,cap,hvv,hlc,hcm⟩:=mat_open hv
 subst hvv
 have HV:Hid (Mat B 22 3 w (.slice ao m.length cap) m):=hv
 have HC:Hid (∀r∈m,∀(W:World) (rv:Value),Below w.heap.size w W→Sl B 3 W rv (ints r)→Calls Tryz.prog 45 #[rv,.pointer (some p1),.pointer (some p2)] W fun e w'=>e=.returned (.bool (f r))∧Below w.heap.size w w'):=hc
 clear hv hc
 go_enter Tryz.func70,Tryz.ntmps70
 go_wp2
 go_loopw [8] (fun i wr=>∃k:Nat,k≤m.length∧i=.int .i64 k∧(m.take k).any f=false∧Below w.heap.size w wr) (fun i _=>m.length-(intOf i).toNat)
 case atStart=>exact ⟨0,Nat.zero_le _,rfl,by simp,Below.refl _ _⟩
 case round=>
  obtain ⟨k,hk,rfl,hno,hb⟩:=hrel
  have HN:Hid ((m.take k).any f=false):=hno
  have HB:Hid (Below w.heap.size w wr):=hb
  clear hno hb
  by_cases hlt:k < m.length
  ·obtain ⟨b1,o,cp,r1,hs,hc1,hcc,hr1⟩:=mat_cell (HV.out.below HB.out (Nat.le_refl _)) hlt
   simp only [Value.slice.injEq] at hs
   obtain ⟨rfl,hxx,rfl⟩:=hs
   clear hxx
   have HS1:Hid ((m.take (k+1)).any f=f (m.getD k [])):=anyR_snoc (p:=f) hlt HN.out
   have HME:Hid (m.getD k []∈m):=by
    show _∈_
    simp [hlt]
   have HCA:Hid (Calls Tryz.prog 45 #[r1,.pointer (some p1),.pointer (some p2)] wr fun e w'=>e=.returned (.bool (f (m.getD k [])))∧Below w.heap.size w w'):=HC.out _ HME.out wr r1 HB.out hr1
   clear hr1
   generalize m.getD k []=x at *
   obtain ⟨fb,hfb⟩:∃fb,fb=f x:=⟨_,rfl⟩
   have HFB:Hid (fb=f x):=hfb
   rw [←hfb] at HCA
   clear hfb
   go_wp2_with fail
   refine HCA.out.mono ?_
   rintro e w2 ⟨rfl,hb2⟩
   have HB2:Hid (Below w.heap.size w w2):=hb2
   clear hb2 HCA
   cases hf:fb
   ·have HF:Hid (f x=false):=by rw [←hf]; exact HFB.out.symm
    clear hf
    go_wp2
    go_roundw
    case rel=>exact ⟨k+1,by omega,by go_num,by rw [HS1.out]; exact HF.out,HB2.out⟩
    case measure=>simp [intOf]; omega
   ·have HF:Hid (f x=true):=by rw [←hf]; exact HFB.out.symm
    clear hf
    go_wp2
    go_ret
    refine ⟨⟨_,rfl,by omega,by omega,?_⟩,HB2.out⟩
    rw [decide_eq_true (by omega)]
    exact (List.any_eq_true.2 ⟨x,HME.out,HF.out⟩).symm
  ·have HTK:Hid (m.take k=m):=List.take_of_length_le (by omega)
   go_wp2
   go_ret
   exact ⟨⟨-1,rfl,by omega,by omega,by rw [←HTK.out,HN.out]; rfl⟩,HB.out⟩
set_option maxRecDepth 100000 in
theorem hasS_any (B:Nat) (f:List Int→Bool) (m:List (List Int)) (v:Value) (p1 p2:Addr) (w:World) (hv:Mat B 22 3 w v m)
  (hc:∀r∈m,∀(W:World) (rv:Value),Below w.heap.size w W→Sl B 3 W rv (ints r)→Calls Tryz.prog 45 #[rv,.pointer (some p1),.pointer (some p2)] W fun e w'=>e=.returned (.bool (f r))∧Below w.heap.size w w') :
  Calls Tryz.prog 46 #[v,.func (.func 45) #[] #[.pointer (some p1),.pointer (some p2)]] w fun e w'=>e=.returned (.bool (m.any f))∧Below w.heap.size w w':=by
 have HI:Hid (Calls Tryz.prog 70 #[v,.func (.func 45) #[] #[.pointer (some p1),.pointer (some p2)]] w fun e w'=>(∃z,e=.returned (.int .i64 z)∧-1≤z∧z < m.length∧decide (0≤z)=m.any f)∧Below w.heap.size w w'):=idxS_any B f m v p1 p2 w hv hc
 obtain ⟨ao,cap,hvv,hlc,hcm⟩:=mat_open hv
 subst hvv
 clear hv hc
 generalize m.any f=R at *
 go_enter Tryz.func46,Tryz.ntmps46
 go_wp2_with fail
 refine HI.out.mono ?_
 rintro e w' ⟨⟨z,rfl,hz1,hz2,hz3⟩,hb⟩
 have HZ:Hid (decide (0≤z)=R):=hz3
 have HB:Hid (Below w.heap.size w w'):=hb
 clear hz3 hb
 go_wp2
 go_ret
 exact ⟨ret_bool HZ.out,HB.out⟩
end Go.Proofs.YtbdacimjebaihaaGreat
namespace Go.Proofs.YtbdacimjebaihaaGreat
open Go.RowKit Lin
attribute [local go_sem ↓] Go.wp_at_zero Go.wp_at_succ
theorem mat_one {w:World} {u:Value} {p:List Int} (h:Sl 0 3 w u (ints p)):Mat 0 22 3 (w.alloc (.cells #[u] 22)) (.slice (some ⟨w.heap.size,0,none⟩) 1 1) [p]:=by
 have hh:=heap_alloc_new w (.cells #[u] 22)
 refine ⟨[u],rfl,⟨some ⟨w.heap.size,0,none⟩,1,rfl,by simp,by unfold maxLen; omega,fun i hi=>⟨w.heap.size,0,rfl,?_,.inr ⟨_,hh⟩⟩,fun e=>by cases e⟩,fun i hi=>?_⟩
 ·have:i=0:=by simpa using hi
  subst this
  unfold World.cell?
  rw [hh]
  rfl
 ·have:i=0:=by simpa using hi
  subst this
  exact h.alloc _
theorem mat_two {w:World} {u x:Value} {p o:List Int} (h:Sl 0 3 w u (ints p)) (h2:Sl 0 3 w x (ints o)):Mat 0 22 3 (w.alloc (.cells #[u,x] 22)) (.slice (some ⟨w.heap.size,0,none⟩) 2 2) [p,o]:=by
 have hh:=heap_alloc_new w (.cells #[u,x] 22)
 refine ⟨[u,x],rfl,⟨some ⟨w.heap.size,0,none⟩,2,rfl,by simp,by unfold maxLen; omega,fun i hi=>⟨w.heap.size,0,rfl,?_,.inr ⟨_,hh⟩⟩,fun e=>by cases e⟩,fun i hi=>?_⟩
 ·rcases (show i=0∨i=1 by simp at hi; omega) with rfl | rfl
  ·unfold World.cell?
   rw [hh]
   rfl
  ·unfold World.cell?
   rw [hh]
   rfl
 ·rcases (show i=0∨i=1 by simp at hi; omega) with rfl | rfl
  ·exact h.alloc _
  ·exact h2.alloc _
theorem mx_few {d:Nat} {m:List (List Int)} (h1:1≤d) (h3:d≤3) (h:∀p∈m,p.length=d+1∧∀z∈p,z.natAbs≤20):Mx (d+1) 60 m:=by
 refine ⟨fun r hr=>(h r hr).1,fun r hr z hz=>by have:=(h r hr).2 z hz; omega,by omega,by omega,by decide,?_⟩
 rcases (show d=1∨d=2∨d=3 by omega) with rfl | rfl | rfl <;> decide
structure PlG (d:Nat) (P:List (List Int)):Prop where
 row:∀p∈P,p.length=d+1∧∀z∈p,z.natAbs≤20
 one:∀p∈P,(pickL d [p]).length≠0
 two:∀i k,i < k→k < P.length→(pickL (d+1) [P.getD k [],P.getD i []]).length≠1
set_option maxRecDepth 100000 in
theorem same1_any (d:Nat) (p o:List Int) (u x:Value) (q1 q2:Nat) (w:World) (hd1:1≤d) (hd3:d≤3) (hp:p.length=d+1∧∀z∈p,z.natAbs≤20) (ho:o.length=d+1∧∀z∈o,z.natAbs≤20) (hu:Sl 0 3 w u (ints p)) (hx:Sl 0 3 w x (ints o)) (c1:w.cell? ⟨q1,0,none⟩=some u) (c2:w.cell? ⟨q2,0,none⟩=some (.int .i64 d)) :
  Calls Tryz.prog 45 #[x,.pointer (some ⟨q1,0,none⟩),.pointer (some ⟨q2,0,none⟩)] w fun e w'=>e=.returned (.bool (decide ((pickL (d+1) [p,o]).length=1)))∧Below w.heap.size w w':=by
 have HR:Hid (Calls Tryz.prog 34 #[.slice (some ⟨w.heap.size,0,none⟩) 2 2,.int .i64 ((d:Int)+1)] (w.alloc (.cells #[u,x] 22)) fun e w'=>e=.returned (.int .i64 ((pickL (d+1) [p,o]).length:Nat))∧Below w.heap.size w w'):=by
  refine (rankW_any 0 (d+1) (d+1) [p,o] _ _ (Nat.le_refl _) (by omega) (mx_few hd1 hd3 (fun r hr=>?_)) (mat_two hu hx) (by simp)).mono ?_
  ·simp only [List.mem_cons,List.not_mem_nil,or_false] at hr
   rcases hr with rfl | rfl
   ·exact hp
   ·exact ho
  ·rintro e w' ⟨rfl,hb⟩
   exact ⟨rfl,((Below.refl _ _).alloc (Nat.le_refl _) _).trans (hb.mono (by simp))⟩
 have hlt1:=lt_of_cell c1
 have hlt2:=lt_of_cell c2
 have b2:(w.alloc (.cells #[u,x] 22)).cell? ⟨q2,0,none⟩=some (.int .i64 d):=((alloc_keep w (.cells #[u,x] 22)).cell (p:=⟨q2,0,none⟩) hlt2).trans c2
 obtain ⟨uo,uc,hue,_,_⟩:=sl_open hu
 obtain ⟨xo,xc,hxe,_,_⟩:=sl_open hx
 rw [hp.1] at hue
 rw [ho.1] at hxe
 subst hue hxe
 generalize (pickL (d+1) [p,o]).length=rk at *
 clear hu hx hp ho hlt1 hlt2
 go_enter Tryz.func45,Tryz.ntmps45
 go_wp2_with fail
 refine HR.out.mono ?_
 rintro e w2 ⟨rfl,hb⟩
 have HB:Hid (Below w.heap.size w w2):=hb
 clear hb
 go_wp2
 go_ret
 refine ⟨ret_bool ?_,HB.out⟩
 by_cases h:rk=1
 ·subst h; rfl
 ·have h2:((rk:Int) == 1)=false:=by simp; omega
  simp [h,h2]
set_option maxRecDepth 100000 in
set_option maxHeartbeats 1600000 in
theorem checkOne_any (d:Nat) (p:List Int) (A:List (List Int)) (u v:Value) (w:World) (hd1:1≤d) (hd3:d≤3) (hp:p.length=d+1∧∀z∈p,z.natAbs≤20) (hA:∀o∈A,o.length=d+1∧∀z∈o,z.natAbs≤20) (h1:(pickL d [p]).length≠0) (h2:∀o∈A,(pickL (d+1) [p,o]).length≠1)
  (hu:Sl 0 3 w u (ints p)) (hv:Mat 0 22 3 w v A) :
  Calls Tryz.prog 22 #[.int .i64 d,u,v] w fun e w'=>e=.returned (.int .i64 0)∧Below w.heap.size w w':=by
 obtain ⟨ao,ac,rfl,_,_⟩:=mat_open hv
 obtain ⟨W,hW⟩:∃W,W=(w.alloc (.cells #[.int .i64 d] 3)).alloc (.cells #[u] 22):=⟨_,rfl⟩
 have hs1:(w.alloc (.cells #[.int .i64 d] 3)).heap.size=w.heap.size+1:=by simp
 have hbW:Below w.heap.size w W:=by rw [hW]; exact ((Below.refl _ _).alloc (Nat.le_refl _) _).alloc (by simp) _
 have hk0:W.heap[w.heap.size]?=some (.cells #[.int .i64 d] 3 (0,0)):=by
  rw [hW]
  exact (Below.heap_alloc _ _ _ (by simp)).trans (heap_alloc_new w _)
 have hk1:W.heap[w.heap.size+1]?=some (.cells #[u] 22 (0,0)):=by
  rw [hW]
  have:=heap_alloc_new (w.alloc (.cells #[.int .i64 d] 3)) (.cells #[u] 22)
  rwa [hs1] at this
 have hsW:W.heap.size=w.heap.size+1+1:=by rw [hW]; simp
 have HWW:Hid (W=(w.alloc (.cells #[.int .i64 d] 3)).alloc (.cells #[u] 22)):=hW
 have HBW:Hid (∀X,Below W.heap.size W X→Below w.heap.size w X):=fun X hX=>hbW.trans (hX.mono hbW.size)
 have HCC:Hid (∀X,Below W.heap.size W X→X.cell? ⟨w.heap.size,0,none⟩=some (.int .i64 d)∧X.cell? ⟨w.heap.size+1,0,none⟩=some u):=fun X hX=>by
  have q0:=(hX.block w.heap.size (by omega)).trans hk0
  have q1:=(hX.block (w.heap.size+1) (by omega)).trans hk1
  exact ⟨by simp [World.cell?,q0],by simp [World.cell?,q1]⟩
 have HL:Hid (∀X,Below W.heap.size W X→Calls Tryz.prog 44 #[u,.int .i64 ((d:Int)+1),.int .i64 20] X fun e w'=>e=.returned (.int .i64 0)∧Below W.heap.size W w'):=fun X hX=>by
  refine (chkL_any 0 (d+1) 20 p u X (hu.below (HBW.out X hX) (Nat.le_refl _)) (by decide) (by decide)).mono ?_
  rintro e w' ⟨rfl,hb⟩
  refine ⟨?_,hX.trans (hb.mono hX.size)⟩
  rw [if_neg (by simp [hp.1]),if_neg (by rw [far20 hp.2]; decide)]
 have HR:Hid (∀X,Below W.heap.size W X→Calls Tryz.prog 34 #[.slice (some ⟨X.heap.size,0,none⟩) 1 1,.int .i64 (d:Int)] (X.alloc (.cells #[u] 22)) fun e w'=>e=.returned (.int .i64 ((pickL d [p]).length:Nat))∧Below W.heap.size W w'):=fun X hX=>by
  refine (rankW_any 0 (d+1) d [p] _ _ (by omega) (by omega) (mx_few hd1 hd3 (fun r hr=>?_)) (mat_one (hu.below (HBW.out X hX) (Nat.le_refl _))) (by simp)).mono ?_
  ·simp only [List.mem_cons,List.not_mem_nil,or_false] at hr
   subst hr
   exact hp
  ·rintro e w' ⟨rfl,hb⟩
   exact ⟨rfl,(hX.alloc hX.size _).trans (hb.mono (by have:=hX.size; simp; omega))⟩
 have HS:Hid (∀X,Below W.heap.size W X→Calls Tryz.prog 46 #[.slice ao A.length ac,.func (.func 45) #[] #[.pointer (some ⟨w.heap.size+1,0,none⟩),.pointer (some ⟨w.heap.size,0,none⟩)]] X fun e w'=>e=.returned (.bool false)∧Below W.heap.size W w'):=fun X hX=>by
  refine (hasS_any 0 (fun o=>decide ((pickL (d+1) [p,o]).length=1)) A _ ⟨w.heap.size+1,0,none⟩ ⟨w.heap.size,0,none⟩ X (hv.below (HBW.out X hX) (Nat.le_refl _)) (fun o ho Y ov hY hov=>?_)).mono ?_
  ·have hXY:Below W.heap.size W Y:=hX.trans (hY.mono hX.size)
   obtain ⟨c0,c1⟩:=HCC.out Y hXY
   refine (same1_any d p o u ov _ _ Y hd1 hd3 hp (hA o ho) (hu.below (HBW.out Y hXY) (Nat.le_refl _)) hov c1 c0).mono ?_
   rintro e w' ⟨rfl,hb⟩
   exact ⟨rfl,hY.trans (hb.mono hY.size)⟩
  ·rintro e w' ⟨rfl,hb⟩
   refine ⟨ret_bool ?_,hX.trans (hb.mono hX.size)⟩
   rw [List.any_eq_false]
   intro o ho
   simp [h2 o ho]
 have hrk:(((pickL d [p]).length:Nat):Int)≠0:=by omega
 obtain ⟨uo,uc,hue,_,_⟩:=sl_open hu
 rw [hp.1] at hue
 subst hue
 obtain ⟨c0,c1⟩:=HCC.out W (Below.refl _ _)
 generalize (pickL d [p]).length=rk at *
 have hrb:((rk:Int) == 0)=false:=by simpa using hrk
 clear hu hv hp hA h1 h2 hW hbW hk0 hk1 hsW hs1
 go_enter Tryz.func22,Tryz.ntmps22
 go_upto_region 1 with fail
 rw [←HWW.out]
 go_wp2_with fail
 refine (HL.out W (Below.refl _ _)).mono ?_
 rintro e w1 ⟨rfl,hb1⟩
 have HB1:Hid (Below W.heap.size W w1):=hb1
 clear c0 c1
 obtain ⟨c0,c1⟩:=HCC.out w1 hb1
 obtain ⟨c0',c1'⟩:=HCC.out (w1.alloc (.cells #[.slice uo (d+1) uc] 22)) (hb1.alloc hb1.size _)
 clear hb1
 go_wp2_with fail
 refine (HR.out w1 HB1.out).mono ?_
 rintro e w2 ⟨rfl,hb2⟩
 have HB2:Hid (Below W.heap.size W w2):=hb2
 clear c0 c1 c0' c1' hb2
 go_wp2_with fail
 refine (HS.out w2 HB2.out).mono ?_
 rintro e w3 ⟨rfl,hb3⟩
 have HB3:Hid (Below W.heap.size W w3):=hb3
 clear hb3
 go_wp2
 go_ret
 exact ⟨rfl,HBW.out _ HB3.out⟩
set_option maxRecDepth 100000 in
set_option maxHeartbeats 1600000 in
theorem planeCheck_any (d:Nat) (P:List (List Int)) (v:Value) (w:World) (hd1:1≤d) (hd3:d≤3) (hG:PlG d P) (h6:P.length≤6) (hv:Mat 0 22 3 w v P) :
  Calls Tryz.prog 13 #[.int .i64 d,v] w fun e w'=>e=.returned (.int .i64 0)∧Below w.heap.size w w':=by
 obtain ⟨ro,rc,rfl,hlc,hcm⟩:=mat_open hv
 have HV:Hid (∀k,k < P.length→∃pb po pv,ro=some ⟨pb,po,none⟩∧∀X,Below w.heap.size w X→X.cell? ⟨pb,po+k,none⟩=some pv∧Calls Tryz.prog 22 #[.int .i64 d,pv,.slice (some ⟨pb,po,none⟩) k rc] X fun e w'=>e=.returned (.int .i64 0)∧Below w.heap.size w w'):=fun k hk=>by
  obtain ⟨pb,po,cap,u,e1,_,h1,h2⟩:=mat_cell hv hk
  simp only [Value.slice.injEq] at e1
  obtain ⟨hro,_,rfl⟩:=e1
  subst hro
  refine ⟨pb,po,u,rfl,fun X hX=>⟨(hX.cell (lt_of_cell h1)).trans h1,?_⟩⟩
  have hm:P.getD k []∈P:=getD_memR hk
  have hcut:Mat 0 22 3 X (.slice (some ⟨pb,po,none⟩) k rc) (P.take k):=by
   obtain ⟨vs,a1,⟨ao,cap,e,a2,a3,a4,a5⟩,a6⟩:=hv.below hX (Nat.le_refl _)
   simp only [Value.slice.injEq] at e
   obtain ⟨rfl,_,rfl⟩:=e
   have hlt:(vs.take k).length=k:=by rw [List.length_take]; omega
   refine ⟨vs.take k,by rw [hlt,List.length_take]; omega,⟨some ⟨pb,po,none⟩,rc,by rw [hlt],by rw [hlt]; omega,a3,fun i hi=>?_,a5⟩,fun i hi=>?_⟩
   ·rw [hlt] at hi
    obtain ⟨b,o,q1,q2,q3⟩:=a4 i (by omega)
    exact ⟨b,o,q1,by rw [q2,List.getElem?_take_of_lt hi],q3⟩
   ·rw [List.length_take] at hi
    have:=a6 i (by omega)
    rw [List.getD_eq_getElem?_getD,List.getD_eq_getElem?_getD,List.getElem?_take_of_lt (by omega),List.getElem?_take_of_lt (by omega),←List.getD_eq_getElem?_getD,←List.getD_eq_getElem?_getD]
    exact this
  refine (checkOne_any d (P.getD k []) (P.take k) u _ X hd1 hd3 (hG.row _ hm) (fun o ho=>hG.row o (List.mem_of_mem_take ho)) (hG.one _ hm) (fun o ho=>?_) (h2.below hX (Nat.le_refl _)) hcut).mono ?_
  ·obtain ⟨i,hi,e⟩:=List.getElem_of_mem ho
   rw [List.length_take] at hi
   have:=hG.two i k (by omega) hk
   rw [show P.getD i []=o by rw [←e]; simp [show i < P.length by omega]] at this
   exact this
  ·rintro e w' ⟨rfl,hb⟩
   exact ⟨rfl,hX.trans (hb.mono hX.size)⟩
 have hcutr:∀(pb po k:Nat),k≤P.length→∀X,(Instr.slice 24 (.slice (some ⟨pb,po,none⟩) P.length rc) none (some (.int .i64 (k:Int))) none).run Tryz.prog X=.ok (.slice (some ⟨pb,po,none⟩) k rc) X:=fun pb po k hk X=>by
  have e1:(0:Int)≤(k:Int)∧(k:Int)≤(rc:Int):=by omega
  have e2:k≤rc:=by omega
  have hz:∀w,(Go.sizeOf 22).run Tryz.prog w=.ok 1 w:=fun w=>by kernel_rfl
  simp [Instr.slice,Instr.sliceBounds,Instr.sliceBound,run_underlying Tryz.underlying24,asIntOf,e1,e2,hz,Addr.add,go_sem]
 have HCR:Hid (∀(pb po k:Nat),k≤P.length→∀X,(Instr.slice 24 (.slice (some ⟨pb,po,none⟩) P.length rc) none (some (.int .i64 (k:Int))) none).run Tryz.prog X=.ok (.slice (some ⟨pb,po,none⟩) k rc) X):=hcutr
 clear hv hG hcutr
 go_enter Tryz.func13,Tryz.ntmps13
 go_wp2
 go_loopw [19] (fun i wr=>∃k:Nat,k≤P.length∧i=.int .i64 (k:Int)∧Below w.heap.size w wr) (fun i _=>P.length-(intOf i).toNat)
 case atStart=>exact ⟨0,Nat.zero_le _,rfl,Below.refl _ _⟩
 case round=>
  obtain ⟨k,hk,rfl,hb⟩:=hrel
  by_cases hlt:k < P.length
  ·obtain ⟨pb,po,pv,hro,hx⟩:=HV.out k hlt
   subst hro
   obtain ⟨c1,hcall⟩:=hx wr hb
   have HC:Hid (Calls Tryz.prog 22 #[.int .i64 d,pv,.slice (some ⟨pb,po,none⟩) k rc] wr fun e w'=>e=.returned (.int .i64 0)∧Below w.heap.size w w'):=hcall
   have hcr:=HCR.out pb po k hk
   have hkI:(k:Int) < (P.length:Int):=by omega
   have hkI0:(0:Int)≤(k:Int):=by omega
   clear hx hcall hb HV HCR
   go_wp2_with fail
   refine HC.out.mono ?_
   rintro e w2 ⟨rfl,hb2⟩
   have HB2:Hid (Below w.heap.size w w2):=hb2
   clear hb2 c1
   go_wp2
   go_roundw
   case rel=>exact ⟨k+1,by omega,by go_num,HB2.out⟩
   case measure=>simp [intOf]; omega
  ·have HB:Hid (Below w.heap.size w wr):=hb
   clear hb HV HCR
   go_wp2
   go_ret
   exact ⟨rfl,HB.out⟩
end Go.Proofs.YtbdacimjebaihaaGreat
namespace Go.Proofs.YtbdacimjebaihaaGreat
open Go.RowKit
attribute [local go_sem ↓] Go.wp_at_zero Go.wp_at_succ
set_option maxRecDepth 100000 in
set_option maxHeartbeats 400000 in
theorem productE_any (B:Nat) (a x:List Int) (u v:Value) (w:World) (hu:Sl B 3 w u (ints a)) (hv:Sl B 3 w v (ints x)) (hs:Swe a x) :
  Calls Tryz.prog 78 #[u,v] w fun e w'=>e=.returned (.int .i64 (dotL a x))∧∃n,w'=w.drewN n:=by
 obtain ⟨ao,cap,hvv,hlc,hcm⟩:=sl_open hu
 obtain ⟨bo,cbp,huu,hlb,hcb⟩:=sl_open hv
 subst hvv huu
 have HU:Hid (Sl B 3 w (.slice ao a.length cap) (ints a)):=hu
 have HV:Hid (Sl B 3 w (.slice bo x.length cbp) (ints x)):=hv
 have HS:Hid (Swe a x):=hs
 have hle:a.length≤x.length:=hs.1
 have hl8:a.length≤8:=hs.2.1
 clear hu hv hs
 go_enter Tryz.func78,Tryz.ntmps78
 go_wp2
 go_loopw [5,9] (fun s i wr=>∃k:Nat,k≤a.length∧i=.int .i64 k∧s=.int .i64 (Lin.sumN k fun i=>a.getD i 0*x.getD i 0)∧∃n,wr=w.drewN n) (fun _ i _=>a.length-(intOf i).toNat)
 case atStart=>exact ⟨0,Nat.zero_le _,rfl,rfl,0,rfl⟩
 case round=>
  obtain ⟨k,hk,rfl,rfl,n,rfl⟩:=hrel
  by_cases hlt:k < a.length
  ·have hlt2:k < x.length:=by omega
   obtain ⟨b,o,cp,hs,hc1,hcc⟩:=sl_cell HU.out hlt
   simp only [Value.slice.injEq] at hs
   obtain ⟨rfl,_,rfl⟩:=hs
   obtain ⟨b2,o2,cp2,hs2,hc2,hcc2⟩:=sl_cell HV.out hlt2
   simp only [Value.slice.injEq] at hs2
   obtain ⟨rfl,_,rfl⟩:=hs2
   have h1:=sum_swe HS.out k hk
   have h2:=sum_swe HS.out (k+1) (by omega)
   have h3:(a.getD k 0*x.getD k 0).natAbs≤1000000000000000:=mul_bwe (HS.out.2.2.1 _ (by simp [hlt])) (HS.out.2.2.2 _ (by simp [hlt2]))
   have HSU:Hid ((Lin.sumN (k+1) fun i=>a.getD i 0*x.getD i 0)=(Lin.sumN k fun i=>a.getD i 0*x.getD i 0)+a.getD k 0*x.getD k 0):=rfl
   rw [HSU.out] at h2
   generalize (Lin.sumN k fun i=>a.getD i 0*x.getD i 0)=S at *
   generalize a.getD k 0=p at *
   generalize x.getD k 0=q at *
   have e2:wrap64 (S+wrap64 (p*q))=S+p*q:=by
    rw [IntWalk.wrap64_in (p*q) ⟨by omega,by omega⟩,IntWalk.wrap64_in _ ⟨by omega,by omega⟩]
   clear h1 h2 h3
   go_wp2
   go_quiet (fail)
   go_wp2
   go_roundw
   case rel=>exact ⟨k+1,by omega,by go_num,by rw [HSU.out,e2],_,rfl⟩
   case measure=>simp [intOf]; omega
  ·have hke:k=a.length:=by omega
   subst hke
   go_wp2
   go_ret
   exact ⟨rfl,n,rfl⟩
set_option maxRecDepth 100000 in
set_option maxHeartbeats 800000 in
theorem idxI_any (B:Nat) (f:List Int→Bool) (m:List (List Int)) (v:Value) (p1 p2 p3:Addr) (w:World) (hv:Mat B 22 3 w v m)
  (hc:∀r∈m,∀(W:World) (rv:Value),Below w.heap.size w W→Sl B 3 W rv (ints r)→Calls Tryz.prog 77 #[rv,.pointer (some p1),.pointer (some p2),.pointer (some p3)] W fun e w'=>e=.returned (.bool (f r))∧Below w.heap.size w w') :
  Calls Tryz.prog 70 #[v,.func (.func 77) #[] #[.pointer (some p1),.pointer (some p2),.pointer (some p3)]] w fun e w'=>(∃z,e=.returned (.int .i64 z)∧-1≤z∧z < m.length∧decide (0≤z)=m.any f)∧Below w.heap.size w w':=by
 obtain ⟨ao,cap,hvv,hlc,hcm⟩:=mat_open hv
 subst hvv
 have HV:Hid (Mat B 22 3 w (.slice ao m.length cap) m):=hv
 have HC:Hid (∀r∈m,∀(W:World) (rv:Value),Below w.heap.size w W→Sl B 3 W rv (ints r)→Calls Tryz.prog 77 #[rv,.pointer (some p1),.pointer (some p2),.pointer (some p3)] W fun e w'=>e=.returned (.bool (f r))∧Below w.heap.size w w'):=hc
 clear hv hc
 go_enter Tryz.func70,Tryz.ntmps70
 go_wp2
 go_loopw [8] (fun i wr=>∃k:Nat,k≤m.length∧i=.int .i64 k∧(m.take k).any f=false∧Below w.heap.size w wr) (fun i _=>m.length-(intOf i).toNat)
 case atStart=>exact ⟨0,Nat.zero_le _,rfl,by simp,Below.refl _ _⟩
 case round=>
  obtain ⟨k,hk,rfl,hno,hb⟩:=hrel
  have HN:Hid ((m.take k).any f=false):=hno
  have HB:Hid (Below w.heap.size w wr):=hb
  clear hno hb
  by_cases hlt:k < m.length
  ·obtain ⟨b1,o,cp,r1,hs,hc1,hcc,hr1⟩:=mat_cell (HV.out.below HB.out (Nat.le_refl _)) hlt
   simp only [Value.slice.injEq] at hs
   obtain ⟨rfl,hxx,rfl⟩:=hs
   clear hxx
   have HS1:Hid ((m.take (k+1)).any f=f (m.getD k [])):=anyR_snoc (p:=f) hlt HN.out
   have HME:Hid (m.getD k []∈m):=by
    show _∈_
    simp [hlt]
   have HCA:Hid (Calls Tryz.prog 77 #[r1,.pointer (some p1),.pointer (some p2),.pointer (some p3)] wr fun e w'=>e=.returned (.bool (f (m.getD k [])))∧Below w.heap.size w w'):=HC.out _ HME.out wr r1 HB.out hr1
   clear hr1
   generalize m.getD k []=x at *
   obtain ⟨fb,hfb⟩:∃fb,fb=f x:=⟨_,rfl⟩
   have HFB:Hid (fb=f x):=hfb
   rw [←hfb] at HCA
   clear hfb
   go_wp2_with fail
   refine HCA.out.mono ?_
   rintro e w2 ⟨rfl,hb2⟩
   have HB2:Hid (Below w.heap.size w w2):=hb2
   clear hb2 HCA
   cases hf:fb
   ·have HF:Hid (f x=false):=by rw [←hf]; exact HFB.out.symm
    clear hf
    go_wp2
    go_roundw
    case rel=>exact ⟨k+1,by omega,by go_num,by rw [HS1.out]; exact HF.out,HB2.out⟩
    case measure=>simp [intOf]; omega
   ·have HF:Hid (f x=true):=by rw [←hf]; exact HFB.out.symm
    clear hf
    go_wp2
    go_ret
    refine ⟨⟨_,rfl,by omega,by omega,?_⟩,HB2.out⟩
    rw [decide_eq_true (by omega)]
    exact (List.any_eq_true.2 ⟨x,HME.out,HF.out⟩).symm
  ·have HTK:Hid (m.take k=m):=List.take_of_length_le (by omega)
   go_wp2
   go_ret
   exact ⟨⟨-1,rfl,by omega,by omega,by rw [←HTK.out,HN.out]; rfl⟩,HB.out⟩
set_option maxRecDepth 100000 in
theorem hasI_any (B:Nat) (f:List Int→Bool) (m:List (List Int)) (v:Value) (p1 p2 p3:Addr) (w:World) (hv:Mat B 22 3 w v m)
  (hc:∀r∈m,∀(W:World) (rv:Value),Below w.heap.size w W→Sl B 3 W rv (ints r)→Calls Tryz.prog 77 #[rv,.pointer (some p1),.pointer (some p2),.pointer (some p3)] W fun e w'=>e=.returned (.bool (f r))∧Below w.heap.size w w') :
  Calls Tryz.prog 46 #[v,.func (.func 77) #[] #[.pointer (some p1),.pointer (some p2),.pointer (some p3)]] w fun e w'=>e=.returned (.bool (m.any f))∧Below w.heap.size w w':=by
 have HI:Hid (Calls Tryz.prog 70 #[v,.func (.func 77) #[] #[.pointer (some p1),.pointer (some p2),.pointer (some p3)]] w fun e w'=>(∃z,e=.returned (.int .i64 z)∧-1≤z∧z < m.length∧decide (0≤z)=m.any f)∧Below w.heap.size w w'):=idxI_any B f m v p1 p2 p3 w hv hc
 obtain ⟨ao,cap,hvv,hlc,hcm⟩:=mat_open hv
 subst hvv
 clear hv hc
 generalize m.any f=R at *
 go_enter Tryz.func46,Tryz.ntmps46
 go_wp2_with fail
 refine HI.out.mono ?_
 rintro e w' ⟨⟨z,rfl,hz1,hz2,hz3⟩,hb⟩
 have HZ:Hid (decide (0≤z)=R):=hz3
 have HB:Hid (Below w.heap.size w w'):=hb
 clear hz3 hb
 go_wp2
 go_ret
 exact ⟨ret_bool HZ.out,HB.out⟩
set_option maxRecDepth 100000 in
set_option maxHeartbeats 800000 in
theorem isIn1_any (d:Nat) (r y:List Int) (ww:Int) (ro:Option Addr) (rc:Nat) (xo:Option Addr) (xc:Nat) (b1 b2 b3:Nat) (w:World) (hr:Sl 0 3 w (.slice ro (d+1) rc) (ints r)) (hx:Sl 0 3 w (.slice xo d xc) (ints y)) (hrl:r.length=d+1) (hyl:y.length=d) (hrb:∀z∈r,z.natAbs≤20) (hyb:∀z∈y,z.natAbs≤1000000000000) (hwb:ww.natAbs≤1000000000000) (hd:d≤3)
  (c1:w.cell? ⟨b1,0,none⟩=some (.int .i64 d)) (c2:w.cell? ⟨b2,0,none⟩=some (.slice xo d xc)) (c3:w.cell? ⟨b3,0,none⟩=some (.int .i64 ww)) :
  Calls Tryz.prog 77 #[.slice ro (d+1) rc,.pointer (some ⟨b1,0,none⟩),.pointer (some ⟨b2,0,none⟩),.pointer (some ⟨b3,0,none⟩)] w fun e w'=>e=.returned (.bool (decide (r.getD d 0*ww < dotL (r.take d) y)))∧∃n,w'=w.drewN n:=by
 obtain ⟨rb,rf,rcc,hrv,hrc,hrd⟩:=sl_cell hr (k:=d) (by rw [hrl]; omega)
 rw [hrl] at hrv hrc
 simp only [Value.slice.injEq] at hrv
 obtain ⟨rfl,-,rfl⟩:=hrv
 have hr':=hr
 rw [←hrl] at hr'
 have htk:=Sl.takeE (n:=d) hr' (by rw [hrl]; omega)
 have HPD:Hid (∀m,Calls Tryz.prog 78 #[.slice (some ⟨rb,rf,none⟩) d rc,.slice xo d xc] (w.drewN m) fun e w'=>e=.returned (.int .i64 (dotL (r.take d) y))∧∃k,w'=(w.drewN m).drewN k):=fun m=>
  productE_any 0 _ y _ _ _ (htk.drewN m) (hx.drewN m) ⟨by rw [hyl]; simp; omega,by simp; omega,fun z hz=>by have:=hrb z (List.mem_of_mem_take hz); omega,hyb⟩
 have hb1:=hrb (r.getD d 0) (getD_mem (by rw [hrl]; omega))
 have hpb:(r.getD d 0*ww).natAbs≤20*1000000000000:=by rw [Int.natAbs_mul]; exact Nat.mul_le_mul hb1 hwb
 generalize dotL (r.take d) y=D at *
 generalize r.getD d 0=rd at *
 have hw1:wrap64 (rd*ww)=rd*ww:=IntWalk.wrap64_in _ ⟨by omega,by omega⟩
 have hw2:IntKind.i64.wrap (rd*ww)=rd*ww:=by rw [IntWalk.i64_left]; exact hw1
 have hdI:(d:Int) < (d:Int)+1:=by omega
 have hdI0:(0:Int)≤(d:Int):=by omega
 have hdc:(d:Int)≤(rc:Int):=by omega
 have hdc2:d≤rc:=by omega
 clear hr hr' hx htk hrb hyb hb1 hpb hwb
 go_enter Tryz.func77,Tryz.ntmps77
 go_wp2
 go_quiet ((go_at_call 78; exact Calls.quiet_of (w:=w) (HPD.out _)))
 go_wp2
 go_ret
 exact ⟨rfl,_,rfl⟩
end Go.Proofs.YtbdacimjebaihaaGreat
namespace Go.Proofs.YtbdacimjebaihaaGreat
open Go.RowKit
attribute [local go_sem ↓] Go.wp_at_zero Go.wp_at_succ
def inK (rows:List (List Int)) (d:Nat) (p:List Int):Bool:=!(rows.any fun r=>decide (r.getD d 0*p.getD d 0 < dotL (r.take d) (p.take d)))
theorem two_al (W:World) (o1 o2:Obj):((W.alloc o1).alloc o2).drew.heap[W.heap.size]?=some o1∧((W.alloc o1).alloc o2).drew.heap[W.heap.size+1]?=some o2∧Below W.heap.size W ((W.alloc o1).alloc o2).drew:=by
 have k1:=alloc_keep W o1
 have k2:=alloc_keep (W.alloc o1) o2
 have n2:=alloc_new (W.alloc o1) o2
 rw [size_alloc] at n2
 exact ⟨(k2.block _ (by rw [size_alloc]; omega)).trans (alloc_new _ _),n2,(k1.trans (k2.mono k1.size)).drew⟩
set_option maxRecDepth 100000 in
set_option maxHeartbeats 1600000 in
theorem isIn_any (d:Nat) (rows:List (List Int)) (p:List Int) (v:Value) (po:Option Addr) (pc:Nat) (w:World) (hv:Mat 0 22 3 w v rows) (hp:Sl 0 3 w (.slice po (d+1) pc) (ints p)) (hpl:p.length=d+1) (hpb:∀z∈p,z.natAbs≤1000000000000) (hc:CutOk d rows) :
  Calls Tryz.prog 52 #[.agg #[.int .i64 d,v],.slice po (d+1) pc] w fun e w'=>e=.returned (.bool (inK rows d p))∧Below w.heap.size w w':=by
 obtain ⟨ro,rc,hvv,hlc,hcm⟩:=mat_open hv
 subst hvv
 obtain ⟨pb,pf,pcc,hpv,hpc,hpd⟩:=sl_cell hp (k:=d) (by rw [hpl]; omega)
 rw [hpl] at hpv hpc
 simp only [Value.slice.injEq] at hpv
 obtain ⟨rfl,-,rfl⟩:=hpv
 have hp':=hp
 rw [←hpl] at hp'
 have htk:=Sl.takeE (n:=d) hp' (by rw [hpl]; omega)
 obtain ⟨W0,hW0,hb0,hs0,hc0⟩:=cut_box w d (.slice ro rows.length rc)
 have hzb:=hpb (p.getD d 0) (getD_mem (by rw [hpl]; omega))
 have HHS:Hid (∀W b2 b3,Below W0.heap.size W0 W→W.heap[b2]?=some (.cells #[.slice (some ⟨pb,pf,none⟩) d pc] 22 (0,0))→W.heap[b3]?=some (.cells #[.int .i64 (p.getD d 0)] 3 (0,0))→Calls Tryz.prog 46 #[.slice ro rows.length rc,.func (.func 77) #[] #[.pointer (some ⟨w.heap.size,0,none⟩),.pointer (some ⟨b2,0,none⟩),.pointer (some ⟨b3,0,none⟩)]] W fun e w'=>e=.returned (.bool (rows.any fun r=>decide (r.getD d 0*p.getD d 0 < dotL (r.take d) (p.take d))))∧Below W.heap.size W w'):=fun W b2 b3 hB h2 h3=>by
  have hbW:Below w.heap.size w W:=hb0.trans (hB.mono hb0.size)
  refine hasI_any 0 (fun r=>decide (r.getD d 0*p.getD d 0 < dotL (r.take d) (p.take d))) rows _ ⟨w.heap.size,0,none⟩ ⟨b2,0,none⟩ ⟨b3,0,none⟩ W (hv.below hbW (Nat.le_refl _)) fun r hr X rv hX hrs=>?_
  obtain ⟨uo,uc,hu,_,_⟩:=sl_open hrs
  rw [hc.len r hr] at hu
  subst hu
  have q2:=(hX.block b2 (Array.getElem?_eq_some_iff.1 h2).1).trans h2
  have q3:=(hX.block b3 (Array.getElem?_eq_some_iff.1 h3).1).trans h3
  have hbX:Below w.heap.size w X:=hbW.trans (hX.mono hbW.size)
  refine (isIn1_any d r (p.take d) (p.getD d 0) uo uc (some ⟨pb,pf,none⟩) pc w.heap.size b2 b3 X hrs (htk.below hbX (Nat.le_refl _)) (hc.len r hr) (by rw [List.length_take,hpl]; omega) (hc.bd r hr) (fun z hz=>hpb z (List.mem_of_mem_take hz)) hzb hc.d3 (hc0 X (hB.trans (hX.mono hB.size))).1 (by simp [World.cell?,q2]) (by simp [World.cell?,q3])).mono ?_
  rintro e w' ⟨rfl,n,rfl⟩
  exact ⟨rfl,hX.trans (Qe.below ⟨n,rfl⟩)⟩
 have HB0:Hid (Below w.heap.size w W0):=hb0
 have HCC:Hid (∀W,Below W0.heap.size W0 W→W.cell? ⟨w.heap.size,1,none⟩=some (.slice ro rows.length rc)):=fun W hB=>(hc0 W hB).2
 have HIK:Hid (inK rows d p=!(rows.any fun r=>decide (r.getD d 0*p.getD d 0 < dotL (r.take d) (p.take d)))):=rfl
 have hpd0:W0.cell? ⟨pb,pf+d,none⟩=some (.int .i64 (p.getD d 0)):=(hb0.cell (lt_of_cell hpd)).trans hpd
 have HW0:Hid (W0=w.alloc (.cells #[.int .i64 d,.slice ro rows.length rc] 41)):=hW0
 obtain ⟨c0,c1⟩:=hc0 W0 (Below.refl _ _)
 have HKS:Hid (∀X,Below W0.heap.size W0 X→X.cell? ⟨w.heap.size,0,none⟩=some (.int .i64 d)∧X.cell? ⟨pb,pf+d,none⟩=some (.int .i64 (p.getD d 0))):=fun X hX=>⟨(hc0 X hX).1,(hX.cell (lt_of_cell hpd0)).trans hpd0⟩
 have KS1:∀o,Below W0.heap.size W0 (W0.drew.alloc o):=fun o=>((Below.refl _ _).drew).alloc (Nat.le_refl _) o
 have KS2:∀o,Below W0.heap.size W0 (W0.alloc o):=fun o=>(Below.refl _ _).alloc (Nat.le_refl _) o
 have KS3:∀o o',Below W0.heap.size W0 ((W0.drew.alloc o).alloc o'):=fun o o'=>(KS1 o).alloc (KS1 o).size o'
 have KS4:∀o o' (a:Addr) (x:Value),W0.heap.size≤a.block→Below W0.heap.size W0 (((W0.drew.alloc o).alloc o').setCell a x):=fun o o' a x h=>(KS3 o o').setCell h x
 have hdI:(d:Int) < (d:Int)+1:=by omega
 have hdI0:(0:Int)≤(d:Int):=by omega
 have hdc:(d:Int)≤(pc:Int):=by omega
 have hdc2:d≤pc:=by omega
 clear hv hp hp' htk hb0 hs0 hc0 hW0 hzb hpb hpd hc
 generalize (rows.any fun r=>decide (r.getD d 0*p.getD d 0 < dotL (r.take d) (p.take d)))=R at *
 generalize inK rows d p=K at *
 generalize p.getD d 0=z at *
 go_enter Tryz.func52,Tryz.ntmps52
 go_upto_region 1 with fail
 rw [←HW0.out]
 go_cut [5,6] from 7 (fun x y wx=>∃b2 b3,x=.pointer (some ⟨b2,0,none⟩)∧y=.pointer (some ⟨b3,0,none⟩)∧wx.heap[b2]?=some (.cells #[.slice (some ⟨pb,pf,none⟩) d pc] 22 (0,0))∧wx.heap[b3]?=some (.cells #[.int .i64 z] 3 (0,0))∧Below W0.heap.size W0 wx)
 case first=>
  go_region_held3 (fun X=>X.cell? ⟨w.heap.size,0,none⟩=some (.int .i64 d)∧X.cell? ⟨pb,pf+d,none⟩=some (.int .i64 z)) (first | exact HKS.out _ (KS1 _) | exact HKS.out _ (KS2 _) | exact HKS.out _ (KS3 _ _) | exact HKS.out _ (KS4 _ _ _ _) | go_keep) (fail)
  all_goals go_wp2
  all_goals go_meet
  all_goals first
   | exact ⟨W0.heap.size+1,W0.heap.size,rfl,rfl,(two_al W0 _ _).2.1,(two_al W0 _ _).1,(two_al W0 _ _).2.2⟩
   | exact ⟨W0.heap.size,W0.heap.size+1,rfl,rfl,(two_al W0 _ _).1,(two_al W0 _ _).2.1,(two_al W0 _ _).2.2⟩
 case rest=>
 obtain ⟨b2,b3,rfl,rfl,h2,h3,hB⟩:=hcut
 have HHS2:=HHS.out wc b2 b3 hB h2 h3
 have HBc:Hid (Below w.heap.size w wc):=HB0.out.trans (hB.mono HB0.out.size)
 have HHS3:Hid (Calls Tryz.prog 46 #[.slice ro rows.length rc,.func (.func 77) #[] #[.pointer (some ⟨w.heap.size,0,none⟩),.pointer (some ⟨b2,0,none⟩),.pointer (some ⟨b3,0,none⟩)]] wc fun e w'=>e=.returned (.bool R)∧Below wc.heap.size wc w'):=HHS2
 have c9:=HCC.out wc hB
 clear HHS2 hB h2 h3 c0 c1 hpd0
 go_wp2_with fail
 refine HHS3.out.mono ?_
 rintro e w5 ⟨rfl,hb5⟩
 have HB5:Hid (Below w.heap.size w w5):=HBc.out.trans (hb5.mono HBc.out.size)
 clear hb5
 go_wp2
 go_ret
 exact ⟨by rw [HIK.out]; rfl,HB5.out⟩
end Go.Proofs.YtbdacimjebaihaaGreat
