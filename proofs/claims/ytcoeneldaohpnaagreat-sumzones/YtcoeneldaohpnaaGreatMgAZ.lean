import Derived.Test.YtcoeneldaohpnaaGreatMgAY
import Derived.Test.YtcoeneldaohpnaaGreatHmz
import Derived.Test.YtcoeneldaohpnaaGreatMgAH
import Derived.Test.YtcoeneldaohpnaaGreatMgAX
import Derived.Test.YtcoeneldaohpnaaGreatMgAW
import Derived.Test.YtcoeneldaohpnaaGreatMgAM
namespace Go.Proofs.YtcoeneldaohpnaaGreat
open Go.RowKit
attribute [local go_sem ↓] Go.wp_at_zero Go.wp_at_succ
theorem box_abs {d M:Nat} {P:List (List Int)} (h:Box d M P) (hM:M≤1000) {r:List Int} (hr:r∈P):∀z∈r,z.natAbs≤1000000:=fun z hz=>by
 have:=(h r hr).2 z hz
 omega
set_option maxRecDepth 100000 in
set_option maxHeartbeats 1600000 in
theorem sums_any (d M:Nat) (P Q:List (List Int)) (u v:Value) (w:World) (hu:Mat w.heap.size 26 3 w u P) (hv:Mat w.heap.size 26 3 w v Q) (hd1:1≤d) (hd:d≤100) (hP:Box d M P) (hQ:Box d M Q) (hM:M≤1000) (hp:P.length≤1000) (hq:Q.length≤1000) :
  Calls Tryz.prog 22 #[u,v] w fun e w'=>∃x,e=.returned x∧Rws w.heap.size 26 3 w' x (sumP P Q)∧Below w.heap.size w w':=by
 obtain ⟨i0,hi,hz0,hz1,hz2⟩:=info_parts Tryz.info26
 obtain ⟨po,pc,rfl,_,_⟩:=mat_open hu
 obtain ⟨qo,qc,rfl,_,_⟩:=mat_open hv
 have HU:Hid (Mat w.heap.size 26 3 w (.slice po P.length pc) P):=hu
 have HV:Hid (Mat w.heap.size 26 3 w (.slice qo Q.length qc) Q):=hv
 have HP:Hid (Box d M P):=hP
 have HQ:Hid (Box d M Q):=hQ
 clear hu hv hP hQ
 go_enter Tryz.func22,Tryz.ntmps22
 go_wp2
 go_loopw [5,12] (fun x i wr=>∃k:Nat,k≤P.length∧i=.int .i64 k∧Rws w.heap.size 26 3 wr x (sumP (P.take k) Q)∧Below w.heap.size w wr) (fun _ i _=>P.length-(intOf i).toNat)
 case atStart=>exact ⟨0,Nat.zero_le _,rfl,Rws.nil _ _ _ _,Below.refl _ _⟩
 case round=>
  obtain ⟨k,hk,rfl,hrw,hbel⟩:=hrel
  obtain ⟨wa,hwa⟩:∃wa,wa=wr:=⟨wr,rfl⟩
  rw [←hwa] at hrw hbel ⊢
  clear hwa wr
  have HR:Hid (Rws w.heap.size 26 3 wa u5 (sumP (P.take k) Q)):=hrw
  have HB:Hid (Below w.heap.size w wa):=hbel
  clear hrw hbel
  by_cases hlt:k < P.length
  ·obtain ⟨pb,pf,cp2,rk,hs,hck,hcck,hrk⟩:=mat_cell HU.out hlt
   simp only [Value.slice.injEq] at hs
   obtain ⟨rfl,hxx,rfl⟩:=hs
   clear hxx
   have hmem:P.getD k []∈P:=by simp [hlt]
   have HL1:Hid ((P.getD k []).length=d):=(HP.out _ hmem).1
   have HB1:Hid (∀z∈P.getD k [],z.natAbs≤1000000):=box_abs HP.out hM hmem
   have HRK:Hid (Sl w.heap.size 3 w rk (ints (P.getD k []))):=hrk
   have hcka:wa.cell? ⟨pb,pf+k,none⟩=some rk:=(HB.out.cell (lt_of_cell hcck)).trans hcck
   have HSN:Hid (sumP (P.take (k+1)) Q=sumP (P.take k) Q ++ Q.map fun y=>addL (P.getD k []) y):=sumP_snoc hlt
   have HLS:Hid ((sumP (P.take k) Q).length≤1000000):=by
    show _≤_
    rw [sumP_len,List.length_take]
    exact Nat.mul_le_mul (show min k P.length≤1000 by omega) hq
   clear hrk hmem hcck
   generalize P.getD k []=x at *
   have hkI:(k:Int) < (P.length:Int):=by omega
   go_wp2
   go_loopw [5,18] (fun y i wq=>∃j:Nat,j≤Q.length∧i=.int .i64 j∧Rws w.heap.size 26 3 wq y (sumP (P.take k) Q ++ (Q.take j).map fun y=>addL x y)∧Below w.heap.size w wq) (fun _ i _=>Q.length-(intOf i).toNat)
   case atStart=>exact ⟨0,Nat.zero_le _,rfl,by simpa using HR.out,HB.out⟩
   case round=>
    obtain ⟨j,hj,rfl,hrw,hbel⟩:=hrel
    have HRJ:Hid (Rws w.heap.size 26 3 wr u5 (sumP (P.take k) Q ++ (Q.take j).map fun y=>addL x y)):=hrw
    have HBw:Hid (Below w.heap.size w wr):=hbel
    clear hrw hbel
    by_cases hjl:j < Q.length
    ·obtain ⟨qb,qf,cp3,sk,hs,hcj,hccj,hsk⟩:=mat_cell (HV.out.below HBw.out (Nat.le_refl _)) hjl
     simp only [Value.slice.injEq] at hs
     obtain ⟨rfl,hxx,rfl⟩:=hs
     clear hxx
     have hmem:Q.getD j []∈Q:=by simp [hjl]
     have HES:Hid (Calls Tryz.prog 40 #[rk,sk] wr fun e w'=>∃g sc,e=.returned (.slice (some ⟨g,0,none⟩) d sc)∧w'.ownsRow wr.heap.size 3 1 (.slice (some ⟨g,0,none⟩) d sc) d (ints (addL x (Q.getD j [])))∧Below wr.heap.size wr w'):=
      exSum_any d x (Q.getD j []) rk sk wr ((HRK.out.below HBw.out (Nat.le_refl _)).any (Nat.le_refl _)) (hsk.any (Nat.le_refl _)) HL1.out (HQ.out _ hmem).1 hd1 (by omega) HB1.out (box_abs HQ.out hM hmem)
     have HSJ:Hid ((Q.take (j+1)).map (fun y=>addL x y)=(Q.take j).map (fun y=>addL x y) ++ [addL x (Q.getD j [])]):=map_snocS hjl
     have HLN:Hid ((sumP (P.take k) Q ++ (Q.take j).map fun y=>addL x y).length≤1001000):=by
      show _≤_
      have:=HLS.out
      rw [List.length_append,List.length_map,List.length_take]
      omega
     have hjI:(j:Int) < (Q.length:Int):=by omega
     clear hsk hmem
     generalize Q.getD j []=y at *
     go_wp2_with fail
     refine HES.out.mono ?_
     rintro e w2 ⟨g,sc,rfl,ho,hb2⟩
     have HX:Hid (Sl w.heap.size 3 w2 (.slice (some ⟨g,0,none⟩) d sc) (ints (addL x y))):=Sl.own ho
     have HB2:Hid (Below w.heap.size w w2):=HBw.out.trans (hb2.mono HBw.out.size)
     have HR2:Hid (Rws w.heap.size 26 3 w2 u5 (sumP (P.take k) Q ++ (Q.take j).map fun y=>addL x y)):=HRJ.out.below hb2 (Nat.le_refl _)
     clear ho hb2 HES hccj HRJ
     obtain ⟨vs,g1,g2,g3⟩:=HR2.out
     obtain ⟨ol,hol⟩:∃ol,ol=(sumP (P.take k) Q ++ (Q.take j).map fun y=>addL x y).length:=⟨_,rfl⟩
     rw [←hol] at g1 g2 g3 HLN
     have HOL:Hid (ol=(sumP (P.take k) Q ++ (Q.take j).map fun y=>addL x y).length):=hol
     have G1:Hid (vs.length=ol):=g1
     have G2:Hid (w2.ownsRow w.heap.size 26 1 u5 ol vs):=g2
     have G3:Hid (∀i,i < ol→Sl w.heap.size 3 w2 (vs.getD i (.slice none 0 0)) (ints ((sumP (P.take k) Q ++ (Q.take j).map fun y=>addL x y).getD i []))):=g3
     have hol2:ol≤1001000:=HLN.out
     have hsz2:w.heap.size≤w2.heap.size:=HB2.out.size
     clear g1 g2 g3 hol
     go_wp2_with (first | (at_builtin; refine wpList_append_own _ rfl _ _ 22 rfl w.heap.size 26 i0 (.slice none 0 0) 1 24 Tryz.underlying22 hi hz0 hz1 hz2 rfl (by decide) _ _ _ rfl (G2.out.alloc _) ⟨w2.heap.size,0,none⟩ 1 1 [.slice (some ⟨g,0,none⟩) d sc] rfl rfl (one_new _ _ _) (one_slice _ _ _) ?d3 ?d4 ?d5 ?_))
     case d3=>unfold maxLen; omega
     case d4=>omega
     case d5=>first | exact hsz2 | omega | (simp; omega)
     intro v' w3 ho hg _
     have R1:Hid (Rws w.heap.size 26 3 w3 v' (sumP (P.take k) Q ++ (Q.take (j+1)).map fun y=>addL x y)):=by
      have hp:=Rws.push (e2:=26) (e1:=3) (m:=sumP (P.take k) Q ++ (Q.take j).map fun y=>addL x y) (u:=.slice (some ⟨g,0,none⟩) d sc) (zs:=addL x y) (by decide) (by rw [←HOL.out]; exact G1.out) (by rw [←HOL.out]; exact G2.out.alloc _)
       (fun i hi=>(G3.out i (by rw [←HOL.out] at hi; exact hi)).alloc _) (HX.out.alloc _) (by rw [←HOL.out]; exact ho) hg
      rw [List.append_assoc,←HSJ.out] at hp
      exact hp
     have R2:Hid (Below w.heap.size w w3):=(HB2.out.alloc hsz2 _).grown hg (by simp; omega) (fun x hx=>(G2.out.lt x hx).1)
     clear ho hg
     go_wp2
     go_roundw
     case rel=>exact ⟨j+1,by omega,by go_num,R1.out,R2.out⟩
     case measure=>simp [intOf]; omega
    ·have hje:Q.take j=Q:=List.take_of_length_le (by omega)
     have R1:Hid (Rws w.heap.size 26 3 wr u5 (sumP (P.take (k+1)) Q)):=by
      have h:=HRJ.out
      rw [hje] at h
      rw [HSN.out]
      exact h
     clear hje HRJ
     go_wp2
     go_roundw
     case rel=>exact ⟨k+1,by omega,by go_num,R1.out,HBw.out⟩
     case measure=>simp [intOf]; omega
  ·have HE:Hid (P.take k=P):=List.take_of_length_le (by omega)
   go_wp2
   go_ret
   exact ⟨_,rfl,by have h:=HR.out; rw [HE.out] at h; exact h,HB.out⟩
end Go.Proofs.YtcoeneldaohpnaaGreat

namespace Go.Proofs.YtcoeneldaohpnaaGreat
open Go.RowKit Lin
attribute [local go_sem ↓] Go.wp_at_zero Go.wp_at_succ
theorem fr_mat0S {B:Nat} {w:World} {v:Value} {m:List (List Int)} (h:Fr B 26 3 w v m):Mat 0 26 3 w v m:=by
 obtain ⟨vs,h1,h2,h3⟩:=h
 exact ⟨vs,h1,Sl.own h2,h3⟩
theorem srC_of {d:Nat} {P P' rows:List (List Int)} (hg:Good d P) (hP:Inor P' P) (hr:Inw rows (rowsC P' [] d P')):SrC d P rows (P'.filter fun x=>!twin rows P' x):=by
 have hm:∀r,r∈rows↔r∈rowsD P d:=fun r=>by
  rw [hr.mem r,mem_rowsD]
  exact rows_same hg hP.mem r
 refine ⟨hg,hr.asc,hm,List.Pairwise.filter _ hP.asc,fun y=>?_⟩
 unfold crn
 rw [List.mem_filter,List.mem_filter,hP.mem y]
 refine and_congr_right fun hy=>?_
 have hrl:∀r∈rows,r.length=d+1:=fun r hr'=>(rowsC_fit hg.box hg.d1 (by have:=hg.d4; omega) hP.mem ((hr.mem r).1 hr')).len
 have h1:=twin_iff (d:=d) (m:=rows) (P:=P') (x:=y) hrl (fun z hz=>(hg.box z ((hP.mem z).1 hz)).1) (hg.box y hy).1
 have h2:=corner_iff hg hP.mem hy
 have h3:=corner_rank hg hP.mem hm hy
 simp only [Bool.not_eq_true',decide_eq_true_eq]
 rw [h1,h3,←h2]
 constructor
 ·intro h z hz hne
  obtain ⟨r,hr1,hr2⟩:=h z ((hP.mem z).2 hz) hne
  exact ⟨r,(hr.mem r).1 hr1,hr2⟩
 ·intro h z hz hne
  obtain ⟨r,hr1,hr2⟩:=h z ((hP.mem z).1 hz) hne
  exact ⟨r,(hr.mem r).2 hr1,hr2⟩
theorem wrapC_any (d:Nat) (P:List (List Int)) (v:Value) (w:World) (hv:Mat w.heap.size 26 3 w v P) (hg:Good d P) :
  Calls Tryz.prog 23 #[v] w fun e w'=>∃(co:Option Addr) (cc:Nat) (s C:List (List Int)),e=.returned (.slice co C.length cc)∧SrC d P s C∧Fr w.heap.size 26 3 w' (.slice co C.length cc) C∧Below w.heap.size w w':=by
 refine (wrapCorners_any d P v w hv hg).mono ?_
 rintro e w' ⟨u,P',rows,rfl,hf,h1,h2,hb⟩
 obtain ⟨co,cc,rfl,_,_⟩:=mat_open (fr_mat0S hf)
 exact ⟨co,cc,rows,_,rfl,srC_of hg h1 h2,hf,hb⟩
theorem heap_new (w:World) (o:Obj):(w.alloc o).heap[w.heap.size]?=some o:=by
 show (w.heap.push o)[w.heap.size]?=some o
 simp
def m3 (C:List (List Int)) (r:List Int):List (List Int):=[C.getD 0 [],(endL C r).getD 0 [],(endL C r).getD 1 []]
end Go.Proofs.YtcoeneldaohpnaaGreat

namespace Go.Proofs.YtcoeneldaohpnaaGreat
open Go.RowKit Lin
attribute [local go_sem ↓] Go.wp_at_zero Go.wp_at_succ
theorem sl_two (w:World) (x y:Value):Sl 0 26 (w.alloc (.cells #[x,y] 26)) (.slice (some ⟨w.heap.size,0,none⟩) 2 2) [x,y]:=by
 refine ⟨some ⟨w.heap.size,0,none⟩,2,rfl,by simp,by simp [maxLen],fun i hi=>⟨w.heap.size,0,rfl,?_,Or.inr ⟨#[x,y],heap_new _ _⟩⟩,by simp⟩
 have:i=0∨i=1:=by simp at hi; omega
 rcases this with rfl | rfl <;> simp
theorem mat_two {B:Nat} {w:World} {x y:Value} {a b:List Int} (hx:Sl B 3 w x (ints a)) (hy:Sl B 3 w y (ints b)):Mat B 26 3 (w.alloc (.cells #[x,y] 26)) (.slice (some ⟨w.heap.size,0,none⟩) 2 2) [a,b]:=by
 have hb:Below w.heap.size w (w.alloc (.cells #[x,y] 26)):=alloc_keep _ _
 refine ⟨[x,y],rfl,(sl_two w x y).more (Nat.zero_le _),fun i hi=>?_⟩
 have:i=0∨i=1:=by simp at hi; omega
 rcases this with rfl | rfl
 ·exact hx.below hb (Nat.le_refl _)
 ·exact hy.below hb (Nat.le_refl _)
theorem sl_oneS (w:World) (x:Value):Sl 0 26 (w.alloc (.cells #[x] 26)) (.slice (some ⟨w.heap.size,0,none⟩) 1 1) [x]:=by
 refine ⟨some ⟨w.heap.size,0,none⟩,1,rfl,by simp,by simp [maxLen],fun i hi=>⟨w.heap.size,0,rfl,?_,Or.inr ⟨#[x],heap_new _ _⟩⟩,by simp⟩
 have:i=0:=by simp at hi; omega
 subst this
 simp
theorem mat_oneS {w:World} {x:Value} {a:List Int} (hx:Sl 0 3 w x (ints a)):Mat 0 26 3 (w.alloc (.cells #[x] 26)) (.slice (some ⟨w.heap.size,0,none⟩) 1 1) [a]:=by
 have hb:Below w.heap.size w (w.alloc (.cells #[x] 26)):=alloc_keep _ _
 refine ⟨[x],rfl,sl_oneS w x,fun i hi=>?_⟩
 have:i=0:=by simp at hi; omega
 subst this
 exact hx.below hb (Nat.le_refl _)
theorem sl_nul (w:World) (d:Nat) (hd:d≤100):Sl 0 3 (w.alloc (.cells (madeCells #[.int .i64 0] d) 3)) (.slice (some ⟨w.heap.size,0,none⟩) d d) (ints (nul d)):=by
 have hrow:(w.alloc (.cells (madeCells #[.int .i64 0] d) 3)).rowIs w.heap.size 3 d (fun _=>.int .i64 0):=by
  refine ⟨_,heap_new _ _,?_,fun i hi=>?_⟩
  ·rw [←Array.length_toList,toList_madeCells_one]; simp
  ·rw [←Array.getElem?_toList,toList_madeCells_one]; simp [hi]
 exact Sl.row' hrow (by unfold maxLen; omega) (by simp [nul]) (fun i hi=>by simp [ints,nul,hi])
set_option maxRecDepth 100000 in
set_option maxHeartbeats 3200000 in
theorem zone_any (d:Nat) (ways:List (List Int)) (v:Value) (w:World) (hv:Mat w.heap.size 26 3 w v ways) (h:Wys d ways) (hE:zE d ways=0) :
  Calls Tryz.prog 9 #[.int .i64 d,v] w fun e w'=>∃(co:Option Addr) (cc:Nat) (s C:List (List Int)),e=.returned (.tuple #[.slice co C.length cc,.int .i64 0])∧SrC d (zonP (nul d) ways) s C∧Mat 0 26 3 w' (.slice co C.length cc) C∧Below w.heap.size w w':=by
 obtain ⟨vo,vc,rfl,_,_⟩:=mat_open hv
 have h1:=h.d1
 have h3:=h.d3
 have hn5:=h.n5
 have HM:Hid (∀X,Below w.heap.size w X→Mat X.heap.size 26 3 X (.slice vo ways.length vc) ways):=fun X hX=>(hv.below hX (Nat.le_refl _)).any (Nat.le_refl _)
 have HH:Hid (Wys d ways):=h
 have K1:Hid (Calls Tryz.prog 11 #[.int .i64 d,.slice vo ways.length vc] w fun e w'=>e=.returned (.int .i64 0)∧Below w.heap.size w w'):=by
  have:=zcheck_any d ways _ w hv h
  rw [hE] at this
  exact this
 have K3:Hid (∀X u,Mat X.heap.size 26 3 X u (zonP (nul d) ways)→Calls Tryz.prog 23 #[u] X fun e w'=>∃(co:Option Addr) (cc:Nat) (s C:List (List Int)),e=.returned (.slice co C.length cc)∧(SrC d (zonP (nul d) ways) s C∧Fr X.heap.size 26 3 w' (.slice co C.length cc) C∧Below X.heap.size X w')):=fun X u hu=>(wrapC_any d _ u X hu (h.good hE)).mono fun e w' ⟨co,cc,s,C,e1,e2⟩=>⟨co,cc,s,C,e1,e2⟩
 have K2:Hid (∀X k u x,k < ways.length→Mat X.heap.size 26 3 X u (zonP (nul d) (ways.take k))→Mat X.heap.size 26 3 X x [nul d,ways.getD k []]→Calls Tryz.prog 22 #[u,x] X fun e w'=>∃(xo:Option Addr) (xc:Nat),e=.returned (.slice xo (zonP (nul d) (ways.take (k+1))).length xc)∧(Mat w'.heap.size 26 3 w' (.slice xo (zonP (nul d) (ways.take (k+1))).length xc) (zonP (nul d) (ways.take (k+1)))∧Below X.heap.size X w')):=fun X k u x hk hu hx=>by
  have hb1:=zonP_box h.box k (by omega)
  have hb2:=two_box h.box (x:=ways.getD k []) (by simp [hk])
  have hl:=zonP_len (z:=nul d) (ways:=ways) k (by omega)
  have hp:2 ^ k≤2 ^ 5:=Nat.pow_le_pow_right (by decide) (by omega)
  refine (sums_any d 100 _ _ u x X hu hx h1 (by omega) (fun r hr=>⟨(hb1 r hr).1,fun z hz=>by have:=(hb1 r hr).2 z hz; omega⟩) (fun r hr=>⟨(hb2 r hr).1,fun z hz=>by have:=(hb2 r hr).2 z hz; omega⟩) (by decide) (by rw [hl]; omega) (by simp)).mono ?_
  rintro e w' ⟨y,rfl,hr,hb⟩
  rw [zonP_snoc hk]
  have hM:=hr.mat (B':=w'.heap.size) hb.size
  obtain ⟨xo,xc,rfl,_,_⟩:=mat_open hM
  exact ⟨xo,xc,rfl,hM,hb⟩
 have HZ1:Hid ((zonP (nul d) (ways.take 0)).length=1):=rfl
 have hmk:=run_make_row' (P:=Tryz.prog) 26 3 (.int .i64 0) 8 Tryz.underlying26 Tryz.info3 rfl .i64 .i64 d (by omega) (by omega)
 clear hv h hE
 go_enter Tryz.func9,Tryz.ntmps9
 go_wp2_with fail
 refine K1.out.mono ?_
 rintro e w1 ⟨rfl,hb1⟩
 have HB1:Hid (Below w.heap.size w w1):=hb1
 clear K1 hb1
 obtain ⟨Wa,hWa⟩:∃Wa,Wa=w1.alloc (.cells (madeCells #[.int .i64 0] d) 3):=⟨_,rfl⟩
 obtain ⟨Wb,hWb⟩:∃Wb,Wb=Wa.alloc (.cells #[.slice (some ⟨w1.heap.size,0,none⟩) d d] 26):=⟨_,rfl⟩
 have hsa:Wa.heap.size=w1.heap.size+1:=by rw [hWa]; exact size_alloc _ _
 have hna:Sl 0 3 Wa (.slice (some ⟨w1.heap.size,0,none⟩) d d) (ints (nul d)):=by rw [hWa]; exact sl_nul w1 d (by omega)
 have hba:Below w1.heap.size w1 Wa:=by rw [hWa]; exact alloc_keep _ _
 have hbb:Below Wa.heap.size Wa Wb:=by rw [hWb]; exact alloc_keep _ _
 have hMb:Mat 0 26 3 Wb (.slice (some ⟨Wa.heap.size,0,none⟩) 1 1) (zonP (nul d) (ways.take 0)):=by rw [hWb]; exact mat_oneS hna
 have HNU:Hid (∀X,Below Wb.heap.size Wb X→Sl 0 3 X (.slice (some ⟨w1.heap.size,0,none⟩) d d) (ints (nul d))):=fun X hX=>(hna.below hbb (Nat.le_refl _)).below hX (Nat.le_refl _)
 have HBB:Hid (Below w.heap.size w Wb):=HB1.out.trans ((hba.trans (hbb.mono hba.size)).mono HB1.out.size)
 have HMb:Hid (Mat Wb.heap.size 26 3 Wb (.slice (some ⟨Wa.heap.size,0,none⟩) 1 1) (zonP (nul d) (ways.take 0))):=hMb.more (Nat.zero_le _)
 rw [hsa] at HMb hMb
 rw [hWa] at hWb
 clear hna hba hbb hMb hsa hWa
 go_wp2
 rw [←hWb]
 clear hWb
 go_loopw [8,23] (fun x i wr=>∃(k:Nat) (xo:Option Addr) (xc:Nat),k≤ways.length∧i=.int .i64 (k:Int)∧x=.slice xo (zonP (nul d) (ways.take k)).length xc∧Mat wr.heap.size 26 3 wr (.slice xo (zonP (nul d) (ways.take k)).length xc) (zonP (nul d) (ways.take k))∧Below Wb.heap.size Wb wr) (fun _ i _=>ways.length-(intOf i).toNat)
 case atStart=>exact ⟨0,_,_,Nat.zero_le _,rfl,rfl,HMb.out,Below.refl _ _⟩
 case round=>
  obtain ⟨k,xo,xc,hk,rfl,rfl,hMx,hbr⟩:=hrel
  have HBR:Hid (Below Wb.heap.size Wb wr):=hbr
  have HBW:Hid (Below w.heap.size w wr):=HBB.out.trans (hbr.mono HBB.out.size)
  by_cases hlt:k < ways.length
  ·obtain ⟨qb,qf,cp,rv,hs,_,hcc,hrv⟩:=mat_cell (HM.out wr HBW.out) hlt
   simp only [Value.slice.injEq] at hs
   obtain ⟨rfl,hxx,rfl⟩:=hs
   clear hxx
   have hrl:(ways.getD k []).length=d:=(HH.out.box _ (by simp [hlt])).1
   obtain ⟨qa,qc,hqe,_,_⟩:=sl_open hrv
   rw [hrl] at hqe
   subst hqe
   obtain ⟨W,hW⟩:∃W,W=wr.alloc (.cells #[.slice (some ⟨w1.heap.size,0,none⟩) d d,.slice qa d qc] 26):=⟨_,rfl⟩
   have hbW:Below wr.heap.size wr W:=by rw [hW]; exact alloc_keep _ _
   have hM2:Mat wr.heap.size 26 3 W (.slice (some ⟨wr.heap.size,0,none⟩) 2 2) [nul d,ways.getD k []]:=by
    rw [hW]
    exact mat_two ((HNU.out wr hbr).more (Nat.zero_le _)) hrv
   have HKC:=K2.out W k _ _ hlt ((hMx.below hbW (Nat.le_refl _)).any (Nat.le_refl _)) (hM2.any (Nat.le_refl _))
   have HBX:Hid (Below Wb.heap.size Wb W):=HBR.out.trans (hbW.mono HBR.out.size)
   have hkI:(k:Int) < (ways.length:Int):=by omega
   clear hbW hM2 hrv hMx hbr hrl
   generalize (zonP (nul d) (ways.take k)).length=zl at *
   go_wp2_with fail
   rw [←hW]
   clear hW
   refine HKC.mono ?_
   rintro e w3 ⟨yo,yc,rfl,hM3,hb3⟩
   have HM3:Hid (Mat w3.heap.size 26 3 w3 (.slice yo (zonP (nul d) (ways.take (k+1))).length yc) (zonP (nul d) (ways.take (k+1)))):=hM3
   have HB3:Hid (Below Wb.heap.size Wb w3):=HBX.out.trans (hb3.mono HBX.out.size)
   clear hM3 hb3 HKC
   go_wp2
   exact ⟨⟨k+1,yo,yc,by omega,by go_num,rfl,HM3.out,HB3.out⟩,by simp [intOf]; omega⟩
  ·have hte:ways.take k=ways:=List.take_of_length_le (by omega)
   rw [hte] at hMx ⊢
   have HKC:=K3.out wr _ hMx
   clear hMx hte hbr K3 K2
   go_wp2_with fail
   refine HKC.mono ?_
   rintro e w3 ⟨co,cc,s,C,rfl,hS,hf,hb3⟩
   have HS:Hid (SrC d (zonP (nul d) ways) s C):=hS
   have HF:Hid (Mat 0 26 3 w3 (.slice co C.length cc) C):=fr_mat0S hf
   have HB3:Hid (Below w.heap.size w w3):=HBW.out.trans (hb3.mono HBW.out.size)
   clear hS hf hb3 HKC
   go_wp2
   go_ret2
   exact ⟨co,cc,s,C,rfl,HS.out,HF.out,HB3.out⟩
end Go.Proofs.YtcoeneldaohpnaaGreat
