import Derived.Test.YtadpjlpdfimaeaaGreatDoorCt3
import Derived.Test.YtadpjlpdfimaeaaGreatDoorMgAA
import Derived.Test.YtadpjlpdfimaeaaGreatDoorMgAP
import Derived.Test.YtadpjlpdfimaeaaGreatDoorMgAL
import Derived.Test.YtadpjlpdfimaeaaGreatDoorMgBA
import Derived.Test.YtadpjlpdfimaeaaGreatDoorMgAT
namespace Go.Proofs.YtadpjlpdfimaeaaGreatDoor
open Go.RowKit
attribute [local go_sem ↓] Go.wp_at_zero Go.wp_at_succ
def bx (k:Nat) (lo hi:List Int):Nat→Int
 | 0=>1
 | i+1=>bx k lo hi i*((k:Int)*(hi.getD i 0-lo.getD i 0)+1)
theorem bxf_bd {d k:Nat} {lo hi:List Int} {rows:List (List Int)} (hf:Fld d rows lo hi k) {i:Nat} (hi':i < d):((k:Int)*(hi.getD i 0-lo.getD i 0)+1).natAbs≤20001∧((k:Int)*(hi.getD i 0-lo.getD i 0)).natAbs≤20000:=by
 have h1:=hf.lob i hi'
 have h2:=hf.hib i hi'
 have h3:((k:Int)*(hi.getD i 0-lo.getD i 0)).natAbs≤20000:=by
  rw [Int.natAbs_mul]
  exact Nat.le_trans (Nat.mul_le_mul (show (k:Int).natAbs≤10 by have:=hf.kb; omega) (show (hi.getD i 0-lo.getD i 0).natAbs≤2000 by omega)) (by decide)
 omega
theorem bx_bd {d k:Nat} {lo hi:List Int} {rows:List (List Int)} (hf:Fld d rows lo hi k):∀i,i≤d→(bx k lo hi i).natAbs≤20001 ^ i
 | 0,_=>by simp [bx]
 | i+1,h=>by
  unfold bx
  rw [Int.natAbs_mul,Nat.pow_succ]
  exact Nat.mul_le_mul (bx_bd hf i (by omega)) (bxf_bd hf (by omega)).1
theorem bx_small {d k:Nat} {lo hi:List Int} {rows:List (List Int)} (hf:Fld d rows lo hi k) (hd4:d≤4) (i:Nat) (h:i≤d):(bx k lo hi i).natAbs≤200000000000000000:=
 Nat.le_trans (bx_bd hf i h) (Nat.le_trans (Nat.pow_le_pow_right (by decide) (show i≤4 by omega)) (by decide))
set_option maxRecDepth 100000 in
set_option maxHeartbeats 800000 in
theorem box_any (d k:Nat) (rows:List (List Int)) (lo hi:List Int) (rv lv mv:Value) (w:World) (hf:Fld d rows lo hi k) (hd4:d≤4) (hr:Mat w.heap.size 22 3 w rv rows) (hl:Sl w.heap.size 3 w lv (ints lo)) (hm:Sl w.heap.size 3 w mv (ints hi)) :
  Calls Tryz.prog 51 #[.agg #[rv,lv,mv],.int .i64 k] w fun e w'=>e=.returned (.int .i64 (bx k lo hi d))∧Below w.heap.size w w':=by
 obtain ⟨ro,rc,hrv,hrc1,hrc2⟩:=mat_open hr
 obtain ⟨lo',lc,hlv,_,_⟩:=sl_open hl
 obtain ⟨mo,mc,hmv,_,_⟩:=sl_open hm
 rw [hf.lol] at hlv
 rw [hf.hil] at hmv
 subst hrv hlv hmv
 have HF:Hid (Fld d rows lo hi k):=hf
 obtain ⟨W,hW⟩:∃W,W=w.alloc (.cells #[.slice ro rows.length rc,.slice lo' d lc,.slice mo d mc] 53):=⟨_,rfl⟩
 have hbw:Below w.heap.size w W:=by rw [hW]; exact (Below.refl _ _).alloc (Nat.le_refl _) _
 have HW:Hid (Below w.heap.size w W):=hbw
 have c2:W.cell? ⟨w.heap.size,2,none⟩=some (.slice mo d mc):=by rw [hW]; simp
 have HL:Hid (Sl w.heap.size 3 W (.slice lo' d lc) (ints lo)):=hl.below hbw (Nat.le_refl _)
 have HM:Hid (Sl w.heap.size 3 W (.slice mo d mc) (ints hi)):=hm.below hbw (Nat.le_refl _)
 clear hr hl hm hbw
 go_enter Tryz.func51,Tryz.ntmps51
 go_wp2
 rw [←hW]
 clear hW
 go_loopw [5,11] (fun s i wr=>∃j:Nat,j≤d∧i=.int .i64 j∧s=.int .i64 (bx k lo hi j)∧wr=W) (fun _ i _=>d-(intOf i).toNat)
 case atStart=>exact ⟨0,Nat.zero_le _,rfl,rfl,rfl⟩
 case round=>
  obtain ⟨j,hj,rfl,rfl,rfl⟩:=hrel
  by_cases hjd:j < d
  ·obtain ⟨lb,lx,lc2,hs1,_,l1⟩:=sl_cell HL.out (k:=j) (by rw [HF.out.lol]; exact hjd)
   simp only [Value.slice.injEq] at hs1
   obtain ⟨rfl,hxx,rfl⟩:=hs1
   clear hxx
   obtain ⟨mb,mx,mc2,hs2,_,m1⟩:=sl_cell HM.out (k:=j) (by rw [HF.out.hil]; exact hjd)
   simp only [Value.slice.injEq] at hs2
   obtain ⟨rfl,hxx,rfl⟩:=hs2
   clear hxx
   have hb1:=HF.out.lob j hjd
   have hb2:=HF.out.hib j hjd
   have hb3:=bxf_bd HF.out hjd
   have hb4:=bx_small HF.out hd4 (j+1) (by omega)
   have HBE:Hid (bx k lo hi (j+1)=bx k lo hi j*((k:Int)*(hi.getD j 0-lo.getD j 0)+1)):=rfl
   rw [HBE.out] at hb4
   generalize bx k lo hi j=b0 at *
   generalize lo.getD j 0=l0 at *
   generalize hi.getD j 0=h0 at *
   have hw1:wrap64 ((k:Int)*(h0-l0))=(k:Int)*(h0-l0):=IntWalk.wrap64_in _ ⟨by omega,by omega⟩
   have hw2:wrap64 ((k:Int)*(h0-l0)+1)=(k:Int)*(h0-l0)+1:=IntWalk.wrap64_in _ ⟨by omega,by omega⟩
   have hw3:wrap64 (b0*((k:Int)*(h0-l0)+1))=b0*((k:Int)*(h0-l0)+1):=IntWalk.wrap64_in _ ⟨by omega,by omega⟩
   have HW3:Hid (wrap64 (b0*((k:Int)*(h0-l0)+1))=b0*((k:Int)*(h0-l0)+1)):=hw3
   have hjI:(j:Int) < (d:Int):=by omega
   have hjI0:(0:Int)≤(j:Int):=by omega
   clear hb3 hb4
   go_wp2
   exact ⟨⟨j+1,hjd,by go_num,by rw [HW3.out,HBE.out],trivial⟩,by simp [intOf]; omega⟩
  ·obtain rfl:d=j:=by omega
   clear hj hjd
   go_wp2
   go_ret
   exact ⟨rfl,HW.out⟩
def rms (k:Nat) (sp:Int) (d:Nat) (rows:List (List Int)):List Int:=rows.map fun r=>(k:Int)*r.getD d 0-sp
theorem rms_snoc (k:Nat) (sp:Int) (d:Nat) (rows:List (List Int)) (j:Nat) (h:j < rows.length):rms k sp d (rows.take (j+1))=rms k sp d (rows.take j) ++ [(k:Int)*(rows.getD j []).getD d 0-sp]:=by
 unfold rms
 have e:rows.getD j []=rows[j]:=by simp [h]
 rw [List.take_succ_eq_append_getElem h,List.map_append,e]
 rfl
theorem rms_bd {k d:Nat} {sp:Int} {rows:List (List Int)} (hk:k≤10) (hsp:sp=0∨sp=1) (hlast:∀r∈rows,(r.getD d 0).natAbs≤1000000000):∀z∈rms k sp d rows,z.natAbs≤100000000000:=by
 intro z hz
 obtain ⟨r,hr',rfl⟩:=List.mem_map.1 hz
 have h1:=hlast r hr'
 have h2:((k:Int)*r.getD d 0).natAbs≤10000000000:=by
  rw [Int.natAbs_mul]
  exact Nat.le_trans (Nat.mul_le_mul (show (k:Int).natAbs≤10 by omega) h1) (by decide)
 generalize (k:Int)*r.getD d 0=p at *
 rcases hsp with rfl | rfl <;> omega
set_option maxRecDepth 100000 in
set_option maxHeartbeats 800000 in
theorem fplaces_any (d k:Nat) (sp:Int) (rows:List (List Int)) (lo hi:List Int) (rv lv mv:Value) (w:World) (hf:Fld d rows lo hi k) (hd1:1≤d) (hd4:d≤4) (hsp:sp=0∨sp=1) (hlast:∀r∈rows,(r.getD d 0).natAbs≤1000000000) (hbox:bx k lo hi d≤200000)
  (hr:Mat w.heap.size 22 3 w rv rows) (hl:Sl w.heap.size 3 w lv (ints lo)) (hm:Sl w.heap.size 3 w mv (ints hi)) :
  Calls Tryz.prog 26 #[.agg #[rv,lv,mv],.int .i64 k,.int .i64 sp] w fun e w'=>e=.returned (.tuple #[.int .i64 (thr k lo hi rows (d-1) 0 (rms k sp d rows)),.int .i64 0])∧Below w.heap.size w w':=by
 obtain ⟨i3,hi3,hz30,hz31,hz32⟩:=info_parts Tryz.info3
 have HBX:Hid (∀W,Below w.heap.size w W→Calls Tryz.prog 51 #[.agg #[rv,lv,mv],.int .i64 k] W fun e w'=>e=.returned (.int .i64 (bx k lo hi d))∧Below w.heap.size w w'):=fun W hW=>
  (box_any d k rows lo hi rv lv mv W hf hd4 ((hr.below hW (Nat.le_refl _)).any (Nat.le_refl _)) ((hl.below hW (Nat.le_refl _)).any (Nat.le_refl _)) ((hm.below hW (Nat.le_refl _)).any (Nat.le_refl _))).mono fun e w' ⟨e1,e2⟩=>⟨e1,hW.trans (e2.mono hW.size)⟩
 have HTH:Hid (∀W ov,Below w.heap.size w W→Sl W.heap.size 3 W ov (ints (rms k sp d rows))→Calls Tryz.prog 52 #[.agg #[rv,lv,mv],.int .i64 k,.int .i64 0,ov] W fun e w'=>e=.returned (.int .i64 (thr k lo hi rows (d-1) 0 (rms k sp d rows)))∧Below w.heap.size w w'):=fun W ov hW ho=>
  (through_any d k rows lo hi rv lv mv hf hd4 (d-1) 0 (by omega) (rms k sp d rows) ov W ((hr.below hW (Nat.le_refl _)).any (Nat.le_refl _)) ((hl.below hW (Nat.le_refl _)).any (Nat.le_refl _)) ((hm.below hW (Nat.le_refl _)).any (Nat.le_refl _)) ho (by simp [rms]) (fun z hz=>by
   exact Nat.le_trans (rms_bd hf.kb hsp hlast z hz) (Nat.le_add_right _ _))).mono fun e w' ⟨e1,e2⟩=>⟨e1,hW.trans (e2.mono hW.size)⟩
 obtain ⟨ro,rc,hrv,hrc1,hrc2⟩:=mat_open hr
 obtain ⟨lo',lc,hlv,_,_⟩:=sl_open hl
 obtain ⟨mo,mc,hmv,_,_⟩:=sl_open hm
 rw [hf.lol] at hlv
 rw [hf.hil] at hmv
 subst hrv hlv hmv
 have HF:Hid (Fld d rows lo hi k):=hf
 have HLA:Hid (∀r∈rows,(r.getD d 0).natAbs≤1000000000):=hlast
 have HSP:Hid (sp=0∨sp=1):=hsp
 obtain ⟨W,hW⟩:∃W,W=w.alloc (.cells #[.slice ro rows.length rc,.slice lo' d lc,.slice mo d mc] 53):=⟨_,rfl⟩
 have hbw:Below w.heap.size w W:=by rw [hW]; exact (Below.refl _ _).alloc (Nat.le_refl _) _
 have HW:Hid (Below w.heap.size w W):=hbw
 have hsW:W.heap.size=w.heap.size+1:=by rw [hW]; simp
 have HSW:Hid (W.heap.size=w.heap.size+1):=hsW
 have c0:W.cell? ⟨w.heap.size,0,none⟩=some (.slice ro rows.length rc):=by rw [hW]; simp
 have c1:W.cell? ⟨w.heap.size,1,none⟩=some (.slice lo' d lc):=by rw [hW]; simp
 have c2:W.cell? ⟨w.heap.size,2,none⟩=some (.slice mo d mc):=by rw [hW]; simp
 have HR:Hid (Mat w.heap.size 22 3 W (.slice ro rows.length rc) rows):=hr.below hbw (Nat.le_refl _)
 have HBW:Hid (Calls Tryz.prog 51 #[.agg #[.slice ro rows.length rc,.slice lo' d lc,.slice mo d mc],.int .i64 k] W fun e w'=>e=.returned (.int .i64 (bx k lo hi d))∧Below W.heap.size W w'):=
  box_any d k rows lo hi _ _ _ W hf hd4 ((hr.below hbw (Nat.le_refl _)).any (Nat.le_refl _)) ((hl.below hbw (Nat.le_refl _)).any (Nat.le_refl _)) ((hm.below hbw (Nat.le_refl _)).any (Nat.le_refl _))
 have HKC:Hid (∀W',Below W.heap.size W W'→W'.cell? ⟨w.heap.size,0,none⟩=some (.slice ro rows.length rc)∧W'.cell? ⟨w.heap.size,1,none⟩=some (.slice lo' d lc)∧W'.cell? ⟨w.heap.size,2,none⟩=some (.slice mo d mc)):=fun W' h=>⟨(h.cell (lt_of_cell c0)).trans c0,(h.cell (lt_of_cell c1)).trans c1,(h.cell (lt_of_cell c2)).trans c2⟩
 generalize thr k lo hi rows (d-1) 0 (rms k sp d rows)=TT at *
 generalize bx k lo hi d=bb at *
 have hbb:¬(200000:Int) < bb:=by omega
 have hm2:rows.length≤20000000:=hf.nr
 clear hr hl hm hbw hlast hsp hsW HBX hbox
 go_enter Tryz.func26,Tryz.ntmps26
 go_wp2_with fail
 rw [←hW]
 clear hW
 refine HBW.out.mono ?_
 rintro e w1 ⟨rfl,hb1⟩
 have HB1:Hid (Below W.heap.size W w1):=hb1
 have HR1:Hid (Mat W.heap.size 22 3 w1 (.slice ro rows.length rc) rows):=(HR.out.below hb1 (Nat.le_refl _)).more HW.out.size
 have k0:=(HKC.out w1 hb1).1
 have k1:=(HKC.out w1 hb1).2.1
 clear hb1 c0 c1 c2 HR HBW
 go_wp2
 go_loopw [9,22] (fun x i wr=>∃j:Nat,j≤rows.length∧i=.int .i64 j∧wr.ownsRow w1.heap.size 3 1 x j (ints (rms k sp d (rows.take j)))∧Below w1.heap.size w1 wr) (fun _ i _=>rows.length-(intOf i).toNat)
 case atStart=>exact ⟨0,Nat.zero_le _,rfl,World.ownsRow_nil _ _ _ _,Below.refl _ _⟩
 case round=>
  obtain ⟨j,hj,rfl,ho,hb⟩:=hrel
  have HO:Hid (wr.ownsRow w1.heap.size 3 1 u9 j (ints (rms k sp d (rows.take j)))):=ho
  have HB:Hid (Below w1.heap.size w1 wr):=hb
  have hszr:w1.heap.size≤wr.heap.size:=hb.size
  clear ho hb
  by_cases hjl:j < rows.length
  ·obtain ⟨b2,o2,cp2,rvv,hs2,_,hcc2,hr2⟩:=mat_cell (HR1.out.below HB.out (Nat.le_refl _)) hjl
   simp only [Value.slice.injEq,true_and] at hs2
   obtain ⟨rfl,rfl⟩:=hs2
   have hmem:rows.getD j []∈rows:=by simp [hjl]
   have hlen:=HF.out.len _ hmem
   obtain ⟨b3,o3,cp3,hs3,hc3,hcc3⟩:=sl_cell hr2 (k:=d) (by rw [hlen]; omega)
   rw [hlen] at hs3
   subst hs3
   have hab:=HLA.out _ hmem
   have HSN:Hid (ints (rms k sp d (rows.take (j+1)))=ints (rms k sp d (rows.take j)) ++ [.int .i64 ((k:Int)*(rows.getD j []).getD d 0-sp)]):=by
    show _=_
    rw [rms_snoc k sp d rows j hjl]
    simp [ints]
   clear hmem hr2 hlen
   generalize (rows.getD j []).getD d 0=z at *
   have hpb:((k:Int)*z).natAbs≤10000000000:=by
    rw [Int.natAbs_mul]
    exact Nat.le_trans (Nat.mul_le_mul (show (k:Int).natAbs≤10 by have:=HF.out.kb; omega) hab) (by decide)
   have hsb:sp.natAbs≤1:=by rcases HSP.out with h | h <;> omega
   have hw1:wrap64 ((k:Int)*z)=(k:Int)*z:=IntWalk.wrap64_in _ ⟨by omega,by omega⟩
   have hw2:wrap64 ((k:Int)*z-sp)=(k:Int)*z-sp:=IntWalk.wrap64_in _ ⟨by omega,by omega⟩
   have hjI:(j:Int) < (rows.length:Int):=by omega
   have hjI0:(0:Int)≤(j:Int):=by omega
   have hdI:(d:Int) < (d:Int)+1:=by omega
   have hdN:d < d+1:=by omega
   have hj2:j < 20000000:=by omega
   clear hpb hsb
   go_wp2_with (first | (at_builtin; refine wpList_append_own _ rfl _ _ 22 rfl w1.heap.size 3 i3 (.int .i64 0) 1 8 Tryz.underlying22 hi3 hz30 hz31 hz32 rfl (by decide) _ _ _ rfl (HO.out.alloc _) ⟨wr.heap.size,0,none⟩ 1 1 [.int .i64 ((k:Int)*z-sp)] rfl rfl (one_new _ _ _) (one_int _) ?c3 ?c4 ?c5 ?_))
   case c3=>unfold maxLen; omega
   case c4=>omega
   case c5=>first | exact hszr | omega | (simp; omega)
   intro v' w3 ho3 hg3 _
   have R1:Hid (w3.ownsRow w1.heap.size 3 1 v' (j+1) (ints (rms k sp d (rows.take (j+1))))):=by
    show World.ownsRow _ _ _ _ _ _ _
    rw [HSN.out]
    exact ho3
   have R2:Hid (Below w1.heap.size w1 w3):=(HB.out.alloc hszr _).grown hg3 (by simp; omega) (fun x hx=>(HO.out.lt x hx).1)
   clear ho3 hg3
   go_wp2
   exact ⟨⟨j+1,hjl,by go_num,R1.out,R2.out⟩,by simp [intOf]; omega⟩
  ·have HOV:Hid (Sl wr.heap.size 3 wr u9 (ints (rms k sp d rows))):=by
    have h:=HO.out
    rw [List.take_of_length_le (by omega)] at h
    exact (Sl.own (B:=0) h).any (Nat.le_refl _)
   have HBWr:Hid (Below W.heap.size W wr):=HB1.out.trans (HB.out.mono HB1.out.size)
   have HBwr:Hid (Below w.heap.size w wr):=HW.out.trans (HBWr.out.mono (by have:=HSW.out; omega))
   have kk:=HKC.out wr HBWr.out
   have k0r:=kk.1
   have k1r:=kk.2.1
   have k2r:=kk.2.2
   have HCA:Hid (Calls Tryz.prog 52 #[.agg #[.slice ro rows.length rc,.slice lo' d lc,.slice mo d mc],.int .i64 k,.int .i64 0,u9] wr fun e w'=>e=.returned (.int .i64 TT)∧Below w.heap.size w w'):=HTH.out wr u9 HBwr.out HOV.out
   clear kk HOV HTH k0 k1
   go_wp2_with fail
   refine HCA.out.mono ?_
   rintro e w5 ⟨rfl,hb5⟩
   have HB5:Hid (Below w.heap.size w w5):=hb5
   clear hb5 HCA
   go_wp2
   go_ret2
   exact ⟨rfl,HB5.out⟩
end Go.Proofs.YtadpjlpdfimaeaaGreatDoor

namespace Go.Proofs.YtadpjlpdfimaeaaGreatDoor
def loT (P:List (List Int)) (c j:Nat):Int:=(P.take j).foldl (fun a x=>min a (x.getD c 0)) ((P.getD 0 []).getD c 0)
def hiT (P:List (List Int)) (c j:Nat):Int:=(P.take j).foldl (fun a x=>max a (x.getD c 0)) ((P.getD 0 []).getD c 0)
def loL (P:List (List Int)) (d:Nat):List Int:=(List.range d).map fun c=>loT P c P.length
def hiL (P:List (List Int)) (d:Nat):List Int:=(List.range d).map fun c=>hiT P c P.length
theorem loT_succ (P:List (List Int)) (c j:Nat) (h:j < P.length):loT P c (j+1)=min (loT P c j) ((P.getD j []).getD c 0):=by
 unfold loT
 have e:P.getD j []=P[j]:=by simp [h]
 rw [List.take_succ_eq_append_getElem h,List.foldl_append,e]
 rfl
theorem hiT_succ (P:List (List Int)) (c j:Nat) (h:j < P.length):hiT P c (j+1)=max (hiT P c j) ((P.getD j []).getD c 0):=by
 unfold hiT
 have e:P.getD j []=P[j]:=by simp [h]
 rw [List.take_succ_eq_append_getElem h,List.foldl_append,e]
 rfl
end Go.Proofs.YtadpjlpdfimaeaaGreatDoor

namespace Go.Proofs.YtadpjlpdfimaeaaGreatDoor
open Go.RowKit
attribute [local go_sem ↓] Go.wp_at_zero Go.wp_at_succ
theorem T_bd {d wd:Nat} {P:List (List Int)} (hP:Box d wd P) (h1:1≤P.length) {c:Nat} (hc:c < d):∀j,j≤P.length→(-(wd:Int)≤loT P c j∧loT P c j≤hiT P c j∧hiT P c j≤wd)
 | 0,_=>by
  have h0:P.getD 0 []∈P:=by simp [show 0 < P.length by omega]
  have:=(hP _ h0).2 _ (getD_mem (l:=P.getD 0 []) (i:=c) (by rw [(hP _ h0).1]; exact hc))
  simp only [loT,hiT,List.take_zero,List.foldl_nil]
  omega
 | j+1,hj=>by
  have ih:=T_bd hP h1 hc j (by omega)
  have hm:P.getD j []∈P:=by simp [show j < P.length by omega]
  have:=(hP _ hm).2 _ (getD_mem (l:=P.getD j []) (i:=c) (by rw [(hP _ hm).1]; exact hc))
  rw [loT_succ P c j (by omega),hiT_succ P c j (by omega)]
  omega
theorem loL_get {P:List (List Int)} {d i:Nat} (h:i < d):(loL P d).getD i 0=loT P i P.length:=by simp [loL,h]
theorem hiL_get {P:List (List Int)} {d i:Nat} (h:i < d):(hiL P d).getD i 0=hiT P i P.length:=by simp [hiL,h]
end Go.Proofs.YtadpjlpdfimaeaaGreatDoor

namespace Go.Proofs.YtadpjlpdfimaeaaGreatDoor
open Go.RowKit
attribute [local go_sem ↓] Go.wp_at_zero Go.wp_at_succ
def ovr (k d:Nat) (r x:List Int):Int:=dotL (r.take d) x-r.getD d 0*(k:Int)
def allB (k d:Nat) (rows:List (List Int)) (x:List Int):Bool:=rows.all fun r=>decide (ovr k d r x≤0)
def innB (k d:Nat) (rows:List (List Int)) (x:List Int):Bool:=rows.all fun r=>decide (ovr k d r x < 0)
def b01 (b:Bool):Int:=if b=true then 1 else 0
def plA (k d:Nat) (P rows:List (List Int)):Nat→List Int→Int
 | 0,x=>b01 (allB k d rows x)
 | m+1,x=>isum (irange (loT P x.length P.length*(k:Int)) (hiT P x.length P.length*(k:Int))) fun v=>plA k d P rows m (x ++ [v])
def plI (k d:Nat) (P rows:List (List Int)):Nat→List Int→Int
 | 0,x=>b01 (innB k d rows x)
 | m+1,x=>isum (irange (loT P x.length P.length*(k:Int)) (hiT P x.length P.length*(k:Int))) fun v=>plI k d P rows m (x ++ [v])
theorem b01_bd (b:Bool):0≤b01 b∧b01 b≤1:=by unfold b01; split <;> omega
structure Pfd (d k:Nat) (P rows:List (List Int)):Prop where
 d1:1≤d
 d4:d≤4
 n1:1≤P.length
 nn:P.length≤1000000
 len:∀x∈P,x.length=d
 rl:∀r∈rows,r.length=d+1
 rb:∀r∈rows,∀z∈r.take d,z.natAbs≤1000000000000
 rz:∀r∈rows,(r.getD d 0).natAbs≤1000000000000
 lo:∀i,i < d→(loT P i P.length*(k:Int)).natAbs≤1000
 hi:∀i,i < d→(hiT P i P.length*(k:Int)).natAbs≤1000
 kb:k≤10
 nr:rows.length≤20000000
theorem pl_bd {d k:Nat} {P rows:List (List Int)} (h:Pfd d k P rows):∀(m:Nat) (x:List Int),x.length+m=d→(0≤plA k d P rows m x∧plA k d P rows m x≤2001 ^ m)∧(0≤plI k d P rows m x∧plI k d P rows m x≤2001 ^ m)
 | 0,x,_=>by
  have h1:=b01_bd (allB k d rows x)
  have h2:=b01_bd (innB k d rows x)
  simp only [plA,plI]
  exact ⟨⟨h1.1,by simpa using h1.2⟩,⟨h2.1,by simpa using h2.2⟩⟩
 | m+1,x,hx=>by
  have h1:=h.lo x.length (by omega)
  have h2:=h.hi x.length (by omega)
  have hl:((irange (loT P x.length P.length*(k:Int)) (hiT P x.length P.length*(k:Int))).length:Int)≤2001:=by rw [irange_len]; omega
  have hp:(0:Int)≤2001 ^ m:=Int.pow_nonneg (by decide)
  have hm:=Int.mul_le_mul_of_nonneg_right hl hp
  have e:(2001:Int) ^ (m+1)=2001*2001 ^ m:=by rw [Int.pow_succ,Int.mul_comm]
  rw [e]
  have ih:=fun v=>pl_bd h m (x ++ [v]) (by simp; omega)
  have a1:=isum_bd (f:=fun v=>plA k d P rows m (x ++ [v])) (B:=2001 ^ m) (irange (loT P x.length P.length*(k:Int)) (hiT P x.length P.length*(k:Int))) (fun v _=>(ih v).1)
  have a2:=isum_bd (f:=fun v=>plI k d P rows m (x ++ [v])) (B:=2001 ^ m) (irange (loT P x.length P.length*(k:Int)) (hiT P x.length P.length*(k:Int))) (fun v _=>(ih v).2)
  exact ⟨⟨a1.1,Int.le_trans a1.2 hm⟩,⟨a2.1,Int.le_trans a2.2 hm⟩⟩
end Go.Proofs.YtadpjlpdfimaeaaGreatDoor

namespace Go.Proofs.YtadpjlpdfimaeaaGreatDoor
open Go.RowKit Lin
def pt (x:List Int):Int×Int:=(V x 0,V x 1)
theorem dot2 (u v:Nat→Int):dot 2 u v=u 0*v 0+u 1*v 1:=by simp [dot,sumN]
theorem cmp2 {x y:List Int} (hx:x.length=2) (hy:y.length=2):cmpL x y < 0↔V x 0 < V y 0∨V x 0=V y 0∧V x 1 < V y 1:=by
 match x,hx,y,hy with
 | [a,b],_,[c,e],_=>
  simp only [cmpL,V,List.getD_cons_zero,List.getD_cons_succ]
  by_cases h1:a < c
  ·rw [if_pos h1]; omega
  ·rw [if_neg h1]
   by_cases h2:c < a
   ·rw [if_pos h2]; omega
   ·rw [if_neg h2]
    by_cases h3:b < e
    ·rw [if_pos h3]; omega
    ·rw [if_neg h3]
     by_cases h4:e < b
     ·rw [if_pos h4]; omega
     ·rw [if_neg h4]; omega
theorem row_gcP {d:Nat} {P:List (List Int)} {r:List Int} (hr:r∈rowsC P [] d P):gc r=1:=by
 obtain ⟨t,hts,htl,hrt⟩:=mem_rowsC.1 hr
 obtain ⟨σ,hσ,hnb,hre⟩:=rowT_form htl hrt
 rw [hre,gc_scale,gc_snoc1 (norm_gc (of_decide_eq_true hnb))]
 rcases hσ with rfl | rfl <;> rfl
theorem row_dir {C:List (List Int)} (hg:Good 2 C) {r r':List Int} (hr:r∈rowsC C [] 2 C) (hr':r'∈rowsC C [] 2 C) {k k':Int} (hk:0 < k) (hk':0 < k') (h0:k'*V r 0=k*V r' 0) (h1:k'*V r 1=k*V r' 1):r=r':=by
 have hf:=rowsC_fit hg.box hg.d1 (by decide) (fun _=>Iff.rfl) hr
 have hf':=rowsC_fit hg.box hg.d1 (by decide) (fun _=>Iff.rfl) hr'
 have hbox:∀y∈C,y.length=2:=fun y hy=>(hg.box y hy).1
 obtain ⟨t,ht,ht0,⟨i,hi,hi0⟩,_⟩:=row_one hbox (by decide) hr
 obtain ⟨t',ht',ht0',_,_⟩:=row_one hbox (by decide) hr'
 obtain ⟨m1,e1⟩:=ht _ ht0
 obtain ⟨m2,e2⟩:=ht' _ ht0'
 have g1:=hf'.all _ m1
 have g2:=hf.all _ m2
 rw [dot2] at e1 e2 g1 g2
 have p1:=Int.mul_le_mul_of_nonneg_left g1 (Int.le_of_lt hk)
 have p2:=Int.mul_le_mul_of_nonneg_left g2 (Int.le_of_lt hk')
 have h2:k'*V r 2=k*V r' 2:=by
  have q1:k'*V r 2=k*(V r' 0*V (t.getD 0 []) 0+V r' 1*V (t.getD 0 []) 1):=by
   show k'*r.getD 2 0=_
   rw [e1]
   grind
  have q2:k*V r' 2=k'*(V r 0*V (t'.getD 0 []) 0+V r 1*V (t'.getD 0 []) 1):=by
   show k*r'.getD 2 0=_
   rw [e2]
   grind
  have w1:k*r'.getD 2 0=k*V r' 2:=rfl
  have w2:k'*r.getD 2 0=k'*V r 2:=rfl
  omega
 have hmap:r.map (k' * ·)=r'.map (k * ·):=by
  have e3:∀x:List Int,x.length=3→x=[V x 0,V x 1,V x 2]:=fun x hx=>by
   match x,hx with
   | [a,b,c],_=>rfl
  rw [e3 r hf.len,e3 r' hf'.len]
  simp only [List.map_cons,List.map_nil]
  rw [h0,h1,h2]
 rcases prim_eq (row_gcP hr) (row_gcP hr') (by omega) (by omega) hmap with e | e
 ·exact e
 ·exfalso
  have hV:V r i=- V r' i:=by
   rw [e]
   simp only [V,List.getD_eq_getElem?_getD,List.getElem?_map]
   cases r'[i]? <;> simp
  have hkk:k'*V r i=k*V r' i:=by
   have:i=0∨i=1:=by omega
   rcases this with rfl | rfl
   ·exact h0
   ·exact h1
  rw [hV] at hkk
  have:(k'+k)*V r' i=0:=by grind
  rcases Int.mul_eq_zero.1 this with q | q
  ·omega
  ·exact hi0 (by rw [hV,q]; rfl)
section
variable {P s C:List (List Int)}
theorem SrC.rc (h:SrC 2 P s C) (r:List Int):r∈s↔r∈rowsC C [] 2 C:=by
 rw [h.rows r,mem_rowsD]
 exact (rows_corners h.good h.rows (fun _ hx=>corner_rank h.good (fun _=>Iff.rfl) h.rows hx) h.crns h.casc.nodup r).symm
theorem SrC.onl (h:SrC 2 P s C) {r:List Int} (hr:r∈s) {y:List Int} : y∈endL C r↔y∈C∧V r 0*V y 0+V r 1*V y 1=r.getD 2 0:=by
 have hgC:=h.cgood
 have hf:=rowsC_fit hgC.box hgC.d1 (by decide) (fun _=>Iff.rfl) ((h.rc r).1 hr)
 unfold endL
 rw [List.mem_filter,decide_eq_true_eq]
 refine and_congr_right fun hy=>?_
 rw [over_zero hf.len (hgC.box y hy).1,dot2]
 exact eq_comm
theorem SrC.mid (h:SrC 2 P s C) {x p q:List Int} (hx:x∈C) (hp:p∈C) (hq:q∈C) {k l:Int} (hk:0 < k) (hl:0 < l) (h0:(k+l)*V x 0=k*V p 0+l*V q 0) (h1:(k+l)*V x 1=k*V p 1+l*V q 1):p=x:=by
 have hgC:=h.cgood
 refine Classical.byContradiction fun hne=>?_
 have hxP:=h.sub hx
 have hfull:=(corner_rank h.good (fun _=>Iff.rfl) h.rows hxP).1 (by
  have:=(List.mem_filter.1 ((h.crns x).1 hx)).2
  simpa using this)
 obtain ⟨r,hr,e1,e2⟩:=(corner_iff h.good (fun _=>Iff.rfl) hxP).2 hfull p (h.sub hp) hne
 have hf:=rowsC_fit h.good.box h.good.d1 (by decide) (fun _=>Iff.rfl) hr
 have g1:=hf.all p (h.sub hp)
 have g2:=hf.all q (h.sub hq)
 rw [dot2] at e1 e2 g1 g2
 have p1:=Int.mul_lt_mul_of_pos_left (show V r 0*V p 0+V r 1*V p 1 < r.getD 2 0 by omega) hk
 have p2:=Int.mul_le_mul_of_nonneg_left g2 (Int.le_of_lt hl)
 have e3:(k+l)*r.getD 2 0=k*(V r 0*V p 0+V r 1*V p 1)+l*(V r 0*V q 0+V r 1*V q 1):=by
  rw [e1]
  grind
 rw [Int.add_mul] at e3
 omega
theorem SrC.two (h:SrC 2 P s C) {r:List Int} (hr:r∈s):∃p q,endL C r=[p,q]∧(p∈C∧V r 0*V p 0+V r 1*V p 1=r.getD 2 0)∧(q∈C∧V r 0*V q 0+V r 1*V q 1=r.getD 2 0)∧cmpL p q < 0:=by
 have hgC:=h.cgood
 have h2:=h.ends hr
 have hasc:SAsc (endL C r):=h.casc.sublist List.filter_sublist
 have hm:∀y,y∈endL C r↔y∈C∧V r 0*V y 0+V r 1*V y 1=r.getD 2 0:=fun y=>h.onl hr
 obtain ⟨_,_,_,⟨i,hi,hi0⟩,_⟩:=row_one (fun y hy=>(hgC.box y hy).1) (by decide) ((h.rc r).1 hr)
 cases hE:endL C r with
 | nil=>rw [hE] at h2; simp at h2
 | cons p E=>
  cases E with
  | nil=>rw [hE] at h2; simp at h2
  | cons q E=>
   cases E with
   | nil=>
    rw [hE] at hasc hm
    exact ⟨p,q,rfl,(hm p).1 (by simp),(hm q).1 (by simp),(List.pairwise_cons.1 hasc).1 q (by simp)⟩
   | cons t E=>
    exfalso
    rw [hE] at hasc hm
    have a1:=(List.pairwise_cons.1 hasc).1 q (by simp)
    have a2:=(List.pairwise_cons.1 (List.pairwise_cons.1 hasc).2).1 t (by simp)
    obtain ⟨cp,ep⟩:=(hm p).1 (by simp)
    obtain ⟨cq,eq⟩:=(hm q).1 (by simp)
    obtain ⟨ct,et⟩:=(hm t).1 (by simp)
    have b1:=(cmp2 (hgC.box p cp).1 (hgC.box q cq).1).1 a1
    have b2:=(cmp2 (hgC.box q cq).1 (hgC.box t ct).1).1 a2
    have hpq:p≠q:=fun e=>by rw [e] at a1; exact absurd a1 (cmpL_asym a1)
    by_cases hb:V r 1=0
    ·-- upright
     have ha:V r 0≠0:=fun e=>hi0 (by
      have:i=0∨i=1:=by omega
      rcases this with rfl | rfl
      ·exact e
      ·exact hb)
     rw [hb] at ep eq et
     have x1:V p 0=V q 0:=Int.eq_of_mul_eq_mul_left ha (by omega)
     have x2:V q 0=V t 0:=Int.eq_of_mul_eq_mul_left ha (by omega)
     refine hpq (h.mid cq cp ct (k:=V t 1-V q 1) (l:=V q 1-V p 1) (by omega) (by omega) ?_ ?_)
     ·rw [x1,←x2]; grind
     ·grind
    ·have y1:V p 0 < V q 0:=by
      rcases b1 with b1 | ⟨b1,b1'⟩
      ·exact b1
      ·exfalso
       rw [b1] at ep
       have:=Int.eq_of_mul_eq_mul_left hb (show V r 1*V p 1=V r 1*V q 1 by omega)
       omega
     have y2:V q 0 < V t 0:=by
      rcases b2 with b2 | ⟨b2,b2'⟩
      ·exact b2
      ·exfalso
       rw [b2] at eq
       have:=Int.eq_of_mul_eq_mul_left hb (show V r 1*V q 1=V r 1*V t 1 by omega)
       omega
     refine hpq (h.mid cq cp ct (k:=V t 0-V q 0) (l:=V q 0-V p 0) (by omega) (by omega) (by grind) ?_)
     refine Int.eq_of_mul_eq_mul_left hb ?_
     have z1:V r 1*V p 1=r.getD 2 0-V r 0*V p 0:=by omega
     have z2:V r 1*V q 1=r.getD 2 0-V r 0*V q 0:=by omega
     have z3:V r 1*V t 1=r.getD 2 0-V r 0*V t 0:=by omega
     have w1:V r 1*((V t 0-V q 0+(V q 0-V p 0))*V q 1)=(V t 0-V p 0)*(V r 1*V q 1):=by grind
     have w2:V r 1*((V t 0-V q 0)*V p 1+(V q 0-V p 0)*V t 1)=(V t 0-V q 0)*(V r 1*V p 1)+(V q 0-V p 0)*(V r 1*V t 1):=by grind
     rw [w1,w2,z1,z2,z3]
     grind
def ep (C:List (List Int)) (i:Nat) (r:List Int):List Int:=(endL C r).getD i []
theorem SrC.pol (h:SrC 2 P s C):Pick.Pol (C.map pt) s (fun r=>V r 0) (fun r=>V r 1) (fun r=>r.getD 2 0) (fun r=>V (ep C 0 r) 0) (fun r=>V (ep C 0 r) 1) (fun r=>V (ep C 1 r) 0) (fun r=>V (ep C 1 r) 1):=by
 have hgC:=h.cgood
 have hlen:∀y∈C,y.length=2:=fun y hy=>(hgC.box y hy).1
 have hends:∀r∈s,(ep C 0 r∈C∧V r 0*V (ep C 0 r) 0+V r 1*V (ep C 0 r) 1=r.getD 2 0)∧(ep C 1 r∈C∧V r 0*V (ep C 1 r) 0+V r 1*V (ep C 1 r) 1=r.getD 2 0)∧cmpL (ep C 0 r) (ep C 1 r) < 0∧∀y∈C,V r 0*V y 0+V r 1*V y 1=r.getD 2 0→y=ep C 0 r∨y=ep C 1 r:=fun r hr=>by
  obtain ⟨p,q,hE,hp,hq,hlt⟩:=h.two hr
  have e0:ep C 0 r=p:=by unfold ep; rw [hE]; rfl
  have e1:ep C 1 r=q:=by unfold ep; rw [hE]; rfl
  rw [e0,e1]
  refine ⟨hp,hq,hlt,fun y hy he=>?_⟩
  have:=(h.onl hr).2 ⟨hy,he⟩
  rw [hE] at this
  simpa using this
 refine ⟨h.asc.nodup,fun r hr r' hr' hpar hpos=>?_,fun r hr r' hr' hb hb' hpos=>?_,fun r hr hz=>?_,fun r hr z hz=>?_,fun r hr=>List.mem_map.2 ⟨_,(hends r hr).1.1,rfl⟩,fun r hr=>List.mem_map.2 ⟨_,(hends r hr).2.1.1,rfl⟩,fun r hr=>(hends r hr).1.2,fun r hr=>(hends r hr).2.1.2,fun r hr=>?_,fun r hr z hz he=>?_,fun α β z hz w hw hne hmax heq h0=>?_,fun α β hall=>?_⟩
 ·rcases Int.lt_trichotomy (V r 1) 0 with q | q | q
  ·have q':V r' 1 < 0:=Int.not_le.1 fun k=>by
    have:=Int.mul_nonneg (show 0≤-V r 1 by omega) k
    rw [Int.neg_mul] at this
    omega
   exact row_dir hgC ((h.rc r).1 hr) ((h.rc r').1 hr') (k:=-V r 1) (k':=-V r' 1) (by omega) (by omega) (by grind) (by grind)
  ·rw [q] at hpos; omega
  ·have q':0 < V r' 1:=Int.not_le.1 fun k=>by
    have:=Int.mul_nonneg (show 0≤V r 1 by omega) (show 0≤-V r' 1 by omega)
    rw [Int.mul_neg] at this
    omega
   exact row_dir hgC ((h.rc r).1 hr) ((h.rc r').1 hr') (k:=V r 1) (k':=V r' 1) q q' (by grind) (by grind)
 ·rcases Int.lt_trichotomy (V r 0) 0 with q | q | q
  ·have q':V r' 0 < 0:=Int.not_le.1 fun k=>by
    have:=Int.mul_nonneg (show 0≤-V r 0 by omega) k
    rw [Int.neg_mul] at this
    omega
   exact row_dir hgC ((h.rc r).1 hr) ((h.rc r').1 hr') (k:=-V r 0) (k':=-V r' 0) (by omega) (by omega) (by grind) (by rw [hb,hb']; grind)
  ·rw [q] at hpos; omega
  ·have q':0 < V r' 0:=Int.not_le.1 fun k=>by
    have:=Int.mul_nonneg (show 0≤V r 0 by omega) (show 0≤-V r' 0 by omega)
    rw [Int.mul_neg] at this
    omega
   exact row_dir hgC ((h.rc r).1 hr) ((h.rc r').1 hr') (k:=V r 0) (k':=V r' 0) q q' (by grind) (by rw [hb,hb']; grind)
 ·obtain ⟨_,_,_,⟨i,hi,hi0⟩,_⟩:=row_one hlen (by decide) ((h.rc r).1 hr)
  have:i=0∨i=1:=by omega
  rcases this with rfl | rfl
  ·exact hi0 hz.1
  ·exact hi0 hz.2
 ·obtain ⟨y,hy,rfl⟩:=List.mem_map.1 hz
  have hf:=rowsC_fit hgC.box hgC.d1 (by decide) (fun _=>Iff.rfl) ((h.rc r).1 hr)
  have:=hf.all y hy
  rw [dot2] at this
  exact this
 ·obtain ⟨h1,h2,h3,_⟩:=hends r hr
  exact (cmp2 (hlen _ h1.1) (hlen _ h2.1)).1 h3
 ·obtain ⟨y,hy,rfl⟩:=List.mem_map.1 hz
  obtain ⟨h1,h2,h3,h4⟩:=hends r hr
  have h5:=(cmp2 (hlen _ h1.1) (hlen _ h2.1)).1 h3
  simp only [pt]
  rcases h4 y hy he with e | e
  ·rw [e]; omega
  ·rw [e]; omega
 ·obtain ⟨x,hx,rfl⟩:=List.mem_map.1 hz
  obtain ⟨y,hy,rfl⟩:=List.mem_map.1 hw
  have hv:∀v∈C,α*V v 0+β*V v 1≤α*V x 0+β*V x 1:=fun v hv=>hmax (pt v) (List.mem_map.2 ⟨v,hv,rfl⟩)
  obtain ⟨c,hc⟩:∃c:Nat→Int,c=fun i=>if i=0 then α else β:=⟨_,rfl⟩
  have c0:c 0=α:=by rw [hc]; rfl
  have c1:c 1=β:=by rw [hc]; rfl
  have hdc:∀v:List Int,dot 2 c (V v)=α*V v 0+β*V v 1:=fun v=>by rw [dot2,c0,c1]
  have hxy:V x 0≠V y 0∨V x 1≠V y 1:=by
   refine Classical.byContradiction fun q=>hne ?_
   unfold pt
   rw [Prod.mk.injEq]
   omega
  obtain ⟨r,hr,hrx,k,l,hk,hl,hkl⟩:=side_some (P:=C) (x:=x) (c:=c) hgC.box (good_span hgC) hx (by
   by_cases q:α=0
   ·exact ⟨1,by decide,by rw [c1]; exact fun e=>h0 ⟨q,e⟩⟩
   ·exact ⟨0,by decide,by rw [c0]; exact q⟩) (fun v hvC=>by rw [hdc,hdc]; exact hv v hvC) (fun u hu=>by
   have e1:=hu y hy (by rw [hdc,hdc]; exact heq)
   rw [dot2,dot2] at e1
   have heq':α*V y 0+β*V y 1=α*V x 0+β*V x 1:=heq
   have f1:(V y 0-V x 0)*(u 0*β-u 1*α)=0:=by grind
   have f2:(V y 1-V x 1)*(u 0*β-u 1*α)=0:=by grind
   have f3:u 0*β=u 1*α:=by
    rcases Int.mul_eq_zero.1 f1 with q | q
    ·rcases Int.mul_eq_zero.1 f2 with q2 | q2
     ·exfalso; omega
     ·omega
    ·omega
   intro i j hi hj
   have hi':i=0∨i=1:=by omega
   have hj':j=0∨j=1:=by omega
   rcases hi' with rfl | rfl <;> rcases hj' with rfl | rfl
   ·rfl
   ·rw [c0,c1]; exact f3
   ·rw [c0,c1]; exact f3.symm
   ·rfl)
  have k0:=hkl 0 (by decide)
  have k1:=hkl 1 (by decide)
  rw [c0] at k0
  rw [c1] at k1
  refine ⟨r,(h.rc r).2 hr,?_,?_,?_⟩
  ·have e:l*(V r 0*β-α*V r 1)=0:=by grind
   rcases Int.mul_eq_zero.1 e with q | q
   ·omega
   ·omega
  ·have e:l*(V r 0*α+V r 1*β)=k*(α*α+β*β):=by grind
   have p0:0 < α*α+β*β:=by
    have sq:∀z:Int,0≤z*z:=fun z=>by
     rcases Int.le_total 0 z with q | q
     ·exact Int.mul_nonneg q q
     ·exact Int.mul_nonneg_of_nonpos_of_nonpos q q
    have sp:∀z:Int,z≠0→0 < z*z:=fun z hz=>by
     rcases Int.lt_or_gt_of_ne hz with q | q
     ·exact Int.mul_pos_of_neg_of_neg q q
     ·exact Int.mul_pos q q
    by_cases q:α=0
    ·have:=sp β fun e=>h0 ⟨q,e⟩
     have:=sq α
     omega
    ·have:=sp α q
     have:=sq β
     omega
   have p1:=Int.mul_pos hk p0
   rw [←e] at p1
   exact Int.not_le.1 fun q=>by
    have:=Int.mul_le_mul_of_nonneg_left q (Int.le_of_lt hl)
    rw [Int.mul_zero] at this
    omega
  ·rw [dot2] at hrx
   exact hrx.symm
 ·obtain ⟨c,hc⟩:∃c:Nat→Int,c=fun i=>if i=0 then α else β:=⟨_,rfl⟩
  have c0:c 0=α:=by rw [hc]; rfl
  have c1:c 1=β:=by rw [hc]; rfl
  have:=good_span hgC c fun y hy z hz=>by
   rw [dot2,dot2,c0,c1]
   exact hall (pt y) (List.mem_map.2 ⟨y,hy,rfl⟩) (pt z) (List.mem_map.2 ⟨z,hz,rfl⟩)
  have q0:=this 0 (by decide)
  have q1:=this 1 (by decide)
  rw [c0] at q0
  rw [c1] at q1
  exact ⟨q0,q1⟩
end
end Go.Proofs.YtadpjlpdfimaeaaGreatDoor
