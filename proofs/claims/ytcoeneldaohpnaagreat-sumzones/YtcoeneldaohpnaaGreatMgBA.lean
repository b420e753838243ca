import Derived.Test.YtcoeneldaohpnaaGreatMgAY
import Derived.Test.YtcoeneldaohpnaaGreatMgAP
import Derived.Test.YtcoeneldaohpnaaGreatHm7
import Derived.Test.YtcoeneldaohpnaaGreatMgAZ
import Derived.Test.YtcoeneldaohpnaaGreatMgAX
import Derived.Test.YtcoeneldaohpnaaGreatMgAW
namespace Go.Proofs.YtcoeneldaohpnaaGreat
open Go.RowKit
attribute [local go_sem ↓] Go.wp_at_zero Go.wp_at_succ
set_option maxRecDepth 100000 in
set_option maxHeartbeats 3200000 in
theorem sumsR_any (d M0:Nat) (P Q:List (List Int)) (u v:Value) (w:World) (hu:Mat w.heap.size 26 3 w u P) (hv:Mat w.heap.size 26 3 w v Q) (hd:d≤100) (hP:Box d M0 P) (hQ:Box d M0 Q) (hM:M0≤1000) (hp:P.length≤1000) (hq:Q.length≤1000) :
  Calls Tryz.prog 19 #[u,v] w fun e w'=>∃x s,e=.returned x∧Fr w.heap.size 26 3 w' x s∧SAsc s∧(∀r,r∈s↔r∈sumP P Q)∧Below w.heap.size w w':=by
 obtain ⟨i0,hi,hz0,hz1,hz2⟩:=info_parts Tryz.info26
 obtain ⟨i3,hi3,hz30,hz31,hz32⟩:=info_parts Tryz.info3
 obtain ⟨po,pc,rfl,_,_⟩:=mat_open hu
 obtain ⟨qo,qc,rfl,_,_⟩:=mat_open hv
 have HU:Hid (Mat w.heap.size 26 3 w (.slice po P.length pc) P):=hu
 have HV:Hid (Mat w.heap.size 26 3 w (.slice qo Q.length qc) Q):=hv
 have HP:Hid (Box d M0 P):=hP
 have HQ:Hid (Box d M0 Q):=hQ
 clear hu hv hP hQ
 go_enter Tryz.func19,Tryz.ntmps19
 go_wp2
 go_loopw [5,6] (fun x i wr=>∃k:Nat,k≤P.length∧i=.int .i64 k∧Fr w.heap.size 26 3 wr x (sumP (P.take k) Q)∧Below w.heap.size w wr) (fun _ i _=>P.length-(intOf i).toNat)
 case atStart=>exact ⟨0,Nat.zero_le _,rfl,Fr.nil _ _ _ _,Below.refl _ _⟩
 case round=>
  obtain ⟨k,hk,rfl,hfr,hbel⟩:=hrel
  obtain ⟨wa,hwa⟩:∃wa,wa=wr:=⟨wr,rfl⟩
  rw [←hwa] at hfr hbel ⊢
  clear hwa wr
  have HF:Hid (Fr w.heap.size 26 3 wa u5 (sumP (P.take k) Q)):=hfr
  have HB:Hid (Below w.heap.size w wa):=hbel
  clear hfr hbel
  by_cases hlt:k < P.length
  ·obtain ⟨pb,pf,cp2,rk,hs,hck,hcck,hrk⟩:=mat_cell HU.out hlt
   simp only [Value.slice.injEq] at hs
   obtain ⟨rfl,hxx,rfl⟩:=hs
   clear hxx
   have hmem:P.getD k []∈P:=by simp [hlt]
   obtain ⟨rko,rkc,hrkv,hrkl,_⟩:=sl_open hrk
   rw [(HP.out _ hmem).1] at hrkv hrkl
   subst hrkv
   have HL1:Hid ((P.getD k []).length=d):=(HP.out _ hmem).1
   have HB1:Hid (∀z∈P.getD k [],z.natAbs≤1000000):=fun z hz=>by
    have:=(HP.out _ hmem).2 z hz
    omega
   have HRK:Hid (Sl w.heap.size 3 w (.slice rko d rkc) (ints (P.getD k []))):=hrk
   have HCK:Hid (w.cell? ⟨pb,pf+k,none⟩=some (.slice rko d rkc)):=hcck
   have HSN:Hid (sumP (P.take (k+1)) Q=sumP (P.take k) Q ++ Q.map fun y=>addL (P.getD k []) y):=sumP_snoc hlt
   have HLS:Hid ((sumP (P.take k) Q).length≤1000000):=by
    show _≤_
    rw [sumP_len,List.length_take]
    exact Nat.mul_le_mul (show min k P.length≤1000 by omega) hq
   clear hrk hmem hcck
   generalize P.getD k []=q1 at *
   have hkI:(k:Int) < (P.length:Int):=by omega
   have hkI0:(0:Int)≤(k:Int):=by omega
   go_wp2
   go_loopw [5,7] (fun y i wq=>∃j:Nat,j≤Q.length∧i=.int .i64 j∧Fr w.heap.size 26 3 wq y (sumP (P.take k) Q ++ (Q.take j).map fun y=>addL q1 y)∧Below w.heap.size w wq) (fun _ i _=>Q.length-(intOf i).toNat)
   case atStart=>exact ⟨0,Nat.zero_le _,rfl,by simpa using HF.out,HB.out⟩
   case round=>
    obtain ⟨j,hj,rfl,hfr,hbel⟩:=hrel
    obtain ⟨wb,hwb⟩:∃wb,wb=wr:=⟨wr,rfl⟩
    rw [←hwb] at hfr hbel ⊢
    clear hwb wr
    have HFJ:Hid (Fr w.heap.size 26 3 wb u5 (sumP (P.take k) Q ++ (Q.take j).map fun y=>addL q1 y)):=hfr
    have HBW:Hid (Below w.heap.size w wb):=hbel
    clear hfr hbel
    by_cases hjl:j < Q.length
    ·obtain ⟨qb,qf,cp3,sk,hs,hcj,hccj,hsk⟩:=mat_cell HV.out hjl
     simp only [Value.slice.injEq] at hs
     obtain ⟨rfl,hxx,rfl⟩:=hs
     clear hxx
     have hmem:Q.getD j []∈Q:=by simp [hjl]
     obtain ⟨sko,skc,hskv,hskl,_⟩:=sl_open hsk
     rw [(HQ.out _ hmem).1] at hskv hskl
     subst hskv
     have HL0:Hid ((Q.getD j []).length=d):=(HQ.out _ hmem).1
     have HB0:Hid (∀z∈Q.getD j [],z.natAbs≤1000000):=fun z hz=>by
      have:=(HQ.out _ hmem).2 z hz
      omega
     have HSK:Hid (Sl w.heap.size 3 w (.slice sko d skc) (ints (Q.getD j []))):=hsk
     have HCJ:Hid (w.cell? ⟨qb,qf+j,none⟩=some (.slice sko d skc)):=hccj
     have HSJ:Hid ((Q.take (j+1)).map (fun y=>addL q1 y)=(Q.take j).map (fun y=>addL q1 y) ++ [addL q1 (Q.getD j [])]):=map_snocS hjl
     have HLN:Hid ((sumP (P.take k) Q ++ (Q.take j).map fun y=>addL q1 y).length≤1001000):=by
      show _≤_
      have:=HLS.out
      rw [List.length_append,List.length_map,List.length_take]
      omega
     clear hsk hmem hccj
     generalize Q.getD j []=q0 at *
     have hjI:(j:Int) < (Q.length:Int):=by omega
     have hjI0:(0:Int)≤(j:Int):=by omega
     obtain ⟨M,hM⟩:∃M,M=wb.heap.size:=⟨_,rfl⟩
     have HM:Hid (M=wb.heap.size):=hM
     have hMs:w.heap.size≤M:=by rw [hM]; exact HBW.out.size
     clear hM
     have hcckb:wb.cell? ⟨pb,pf+k,none⟩=some (.slice rko d rkc):=(HBW.out.cell (lt_of_cell HCK.out)).trans HCK.out
     have hccjb:wb.cell? ⟨qb,qf+j,none⟩=some (.slice sko d skc):=(HBW.out.cell (lt_of_cell HCJ.out)).trans HCJ.out
     go_wp2
     go_loopw [8,9] (fun x i wq=>∃c:Nat,c≤d∧i=.int .i64 c∧wq.ownsRow M 3 1 x c (ints ((addL q1 q0).take c))∧Below M wb wq) (fun _ i _=>d-(intOf i).toNat)
     case atStart=>exact ⟨0,Nat.zero_le _,rfl,World.ownsRow_nil _ _ _ _,Below.refl _ _⟩
     case round=>
      obtain ⟨c,hc,rfl,hown,hbel⟩:=hrel
      have HO:Hid (wr.ownsRow M 3 1 u8 c (ints ((addL q1 q0).take c))):=hown
      have HBq:Hid (Below M wb wr):=hbel
      have hszq:M≤wr.heap.size:=by have:=hbel.size; rw [HM.out]; exact this
      have hckr:wr.cell? ⟨pb,pf+k,none⟩=some (.slice rko d rkc):=(hbel.cell (by rw [HM.out]; exact lt_of_cell hcckb)).trans hcckb
      clear hown hbel
      by_cases hcl:c < d
      ·have hcjr:wr.cell? ⟨qb,qf+j,none⟩=some (.slice sko d skc):=(HBq.out.cell (by rw [HM.out]; exact lt_of_cell hccjb)).trans hccjb
       obtain ⟨b1,o1,cp1,hs1,_,hcc1a⟩:=sl_cell (HRK.out.below HBW.out (Nat.le_refl _)) (k:=c) (by rw [HL1.out]; exact hcl)
       simp only [Value.slice.injEq] at hs1
       obtain ⟨rfl,_,rfl⟩:=hs1
       obtain ⟨b3,o3,cp3,hs3,_,hcc3a⟩:=sl_cell (HSK.out.below HBW.out (Nat.le_refl _)) (k:=c) (by rw [HL0.out]; exact hcl)
       simp only [Value.slice.injEq] at hs3
       obtain ⟨rfl,_,rfl⟩:=hs3
       have hx:=HB1.out (q1.getD c 0) (by simp [show c < q1.length by rw [HL1.out]; exact hcl])
       have hy:=HB0.out (q0.getD c 0) (by simp [show c < q0.length by rw [HL0.out]; exact hcl])
       have HZ:Hid ((addL q1 q0).take (c+1)=(addL q1 q0).take c ++ [q1.getD c 0+q0.getD c 0]):=addL_snoc q1 q0 c (by rw [HL1.out]; exact hcl)
       have HLL:Hid (((addL q1 q0).take c).length=c):=by
        show _=_
        rw [List.length_take,addL_length,HL1.out]; omega
       generalize q1.getD c 0=x at *
       generalize q0.getD c 0=y at *
       have hcc1:wr.cell? ⟨b1,o1+c,none⟩=some (.int .i64 x):=(HBq.out.cell (by rw [HM.out]; exact lt_of_cell hcc1a)).trans hcc1a
       have hcc3:wr.cell? ⟨b3,o3+c,none⟩=some (.int .i64 y):=(HBq.out.cell (by rw [HM.out]; exact lt_of_cell hcc3a)).trans hcc3a
       have KA:Hid (((pb < M∧wb.cell? ⟨pb,pf+k,none⟩=some (.slice (some ⟨b1,o1,none⟩) d rkc))∧(b1 < M∧wb.cell? ⟨b1,o1+c,none⟩=some (.int .i64 x)))∧(qb < M∧wb.cell? ⟨qb,qf+j,none⟩=some (.slice (some ⟨b3,o3,none⟩) d skc))∧(b3 < M∧wb.cell? ⟨b3,o3+c,none⟩=some (.int .i64 y))):=by
        rw [HM.out]; exact ⟨⟨⟨lt_of_cell hcckb,hcckb⟩,⟨lt_of_cell hcc1a,hcc1a⟩⟩,⟨lt_of_cell hccjb,hccjb⟩,⟨lt_of_cell hcc3a,hcc3a⟩⟩
       clear hcc1a hcc3a
       have hcI:(c:Int) < (d:Int):=by omega
       have hcI0:(0:Int)≤(c:Int):=by omega
       have hx1 : -1000000≤x:=by omega
       have hx2:x≤1000000:=by omega
       have hy1 : -1000000≤y:=by omega
       have hy2:y≤1000000:=by omega
       clear hx hy
       have hw2:IntKind.i64.wrap (x+y)=x+y:=by rw [IntWalk.i64_left]; exact IntWalk.wrap64_in _ ⟨by omega,by omega⟩
       go_wp2
       go_region_held3 (fun w'=>w'.cell? ⟨pb,pf+k,none⟩=some (.slice (some ⟨b1,o1,none⟩) d rkc)∧w'.cell? ⟨b1,o1+c,none⟩=some (.int .i64 x)∧w'.cell? ⟨qb,qf+j,none⟩=some (.slice (some ⟨b3,o3,none⟩) d skc)∧w'.cell? ⟨b3,o3+c,none⟩=some (.int .i64 y)) (first | exact KS.out | go_keep)
        ((refine step_append_own (by rfl) _ _ 26 (by rfl) M 3 i3 (.int .i64 0) 1 8 Tryz.underlying26 hi3 hz30 hz31 hz32 rfl (by decide) _ _ _ (by rfl) (HO.out.drew.alloc _) ⟨wr.heap.size,0,none⟩ 1 1 [.int .i64 (x+y)] (by rfl) rfl (one_new _ _ _) (one_int _) (by unfold maxLen; omega) (by omega) (by simp; omega) ?_; intro v' w3 ho hg; have RR:=push3 HBq.out hszq HLL.out HO.out ho hg (hz:=HZ.out); have KS:=keep4 (a1:=⟨pb,pf+k,none⟩) (a2:=⟨b1,o1+c,none⟩) (a3:=⟨qb,qf+j,none⟩) (a4:=⟨b3,o3+c,none⟩) RR.2 KA.out))
       have R1:Hid (w3.ownsRow M 3 1 v' (c+1) (ints ((addL q1 q0).take (c+1)))):=RR.1
       have R2:Hid (Below M wb w3):=RR.2
       clear RR ho hg KS
       go_wp2
       go_roundw
       case rel=>exact ⟨c+1,by omega,by go_num,R1.out,R2.out⟩
       case measure=>simp [intOf]; omega
      ·have HX:Hid (Sl 0 3 wr u8 (ints (addL q1 q0))):=by
        have h:=HO.out
        rw [List.take_of_length_le (by rw [addL_length,HL1.out]; omega)] at h
        exact Sl.own h
       have HRq:Hid (Fr w.heap.size 26 3 wr u5 (sumP (P.take k) Q ++ (Q.take j).map fun y=>addL q1 y)):=HFJ.out.below HBq.out (by rw [HM.out]; exact Nat.le_refl _)
       have HBw:Hid (Below w.heap.size w wr):=HBW.out.trans (HBq.out.mono hMs)
       obtain ⟨xo,xc,hxv⟩:=owns_form HO.out
       subst hxv
       obtain ⟨vs,g1,g2,g3⟩:=HRq.out
       obtain ⟨ol,hol⟩:∃ol,ol=(sumP (P.take k) Q ++ (Q.take j).map fun y=>addL q1 y).length:=⟨_,rfl⟩
       rw [←hol] at g1 g2 g3 HLN
       have HOL:Hid (ol=(sumP (P.take k) Q ++ (Q.take j).map fun y=>addL q1 y).length):=hol
       have G1:Hid (vs.length=ol):=g1
       have G2:Hid (wr.ownsRow w.heap.size 26 1 u5 ol vs):=g2
       have G3:Hid (∀i,i < ol→Sl 0 3 wr (vs.getD i (.slice none 0 0)) (ints ((sumP (P.take k) Q ++ (Q.take j).map fun y=>addL q1 y).getD i []))):=g3
       have hol2:ol≤1001000:=HLN.out
       have hsz2:w.heap.size≤wr.heap.size:=HBw.out.size
       clear g1 g2 g3 hol HO
       have hcj:decide ((c:Int) < (d:Int))=false:=by simp; omega
       go_wp2_with (first | (at_builtin; refine wpList_append_own _ rfl _ _ 22 rfl w.heap.size 26 i0 (.slice none 0 0) 1 24 Tryz.underlying22 hi hz0 hz1 hz2 rfl (by decide) _ _ _ rfl (G2.out.alloc _) ⟨wr.heap.size,0,none⟩ 1 1 [.slice xo c xc] rfl rfl (one_new _ _ _) (one_slice _ _ _) ?d3 ?d4 ?d5 ?_))
       case d3=>unfold maxLen; omega
       case d4=>omega
       case d5=>first | exact hsz2 | omega | (simp; omega)
       intro v' w3 ho hg _
       have R1:Hid (Fr w.heap.size 26 3 w3 v' (sumP (P.take k) Q ++ (Q.take (j+1)).map fun y=>addL q1 y)):=by
        have hp:=Fr.push (e2:=26) (e1:=3) (m:=sumP (P.take k) Q ++ (Q.take j).map fun y=>addL q1 y) (u:=.slice xo c xc) (zs:=addL q1 q0) (by decide) (by rw [←HOL.out]; exact G1.out) (by rw [←HOL.out]; exact G2.out.alloc _)
         (fun i hi=>(G3.out i (by rw [←HOL.out] at hi; exact hi)).alloc _) (HX.out.alloc _) (by rw [←HOL.out]; exact ho) hg
        rw [List.append_assoc,←HSJ.out] at hp
        exact hp
       have R2:Hid (Below w.heap.size w w3):=(HBw.out.alloc hsz2 _).grown hg (by simp; omega) (fun x hx=>(G2.out.lt x hx).1)
       clear ho hg
       go_wp2
       go_roundw
       case rel=>exact ⟨j+1,by omega,by go_num,R1.out,R2.out⟩
       case measure=>simp [intOf]; omega
    ·have hje:Q.take j=Q:=List.take_of_length_le (by omega)
     have R1:Hid (Fr w.heap.size 26 3 wb u5 (sumP (P.take (k+1)) Q)):=by
      have h:=HFJ.out
      rw [hje] at h
      rw [HSN.out]
      exact h
     clear hje HFJ
     go_wp2
     go_roundw
     case rel=>exact ⟨k+1,by omega,by go_num,R1.out,HBW.out⟩
     case measure=>simp [intOf]; omega
  ·have HE:Hid (P.take k=P):=List.take_of_length_le (by omega)
   have HSO:Hid (Calls Tryz.prog 18 #[u5] wa fun e w'=>∃x c,e=.returned x∧(Fr wa.heap.size 26 3 w' x c∧SAsc c∧(∀r,r∈c↔r∈sumP P Q)∧Below wa.heap.size wa w')):=by
    have h:=HF.out
    rw [HE.out] at h
    have hx:=sumP_box HP.out HQ.out
    refine (sortR_any wa.heap.size (sumP P Q) u5 wa (h.rws.mat HB.out.size) ?_ (fun r hr=>by rw [(hx r hr).1]; omega)).mono fun e w' ⟨x2,s2,e1,e2,e3,e4,e5⟩=>⟨x2,s2,e1,e2,e3,e4,e5⟩
    rw [sumP_len]
    exact Nat.le_trans (Nat.mul_le_mul hp hq) (by decide)
   clear HE HF
   go_wp2_with fail
   refine HSO.out.mono ?_
   rintro e w2 ⟨x2,c,rfl,hx2⟩
   have HX2:Hid (Fr wa.heap.size 26 3 w2 x2 c∧SAsc c∧(∀r,r∈c↔r∈sumP P Q)∧Below wa.heap.size wa w2):=hx2
   clear hx2
   go_wp2
   go_ret
   exact ⟨_,c,rfl,HX2.out.1.mono HB.out.size,HX2.out.2.1,HX2.out.2.2.1,HB.out.trans (HX2.out.2.2.2.mono HB.out.size)⟩
end Go.Proofs.YtcoeneldaohpnaaGreat

namespace Go.Proofs.YtcoeneldaohpnaaGreat
open Go.RowKit Lin
attribute [local go_sem ↓] Go.wp_at_zero Go.wp_at_succ
set_option maxRecDepth 100000 in
set_option maxHeartbeats 3200000 in
theorem zpoints_any (d:Nat) (ways:List (List Int)) (v:Value) (w:World) (hv:Mat w.heap.size 26 3 w v ways) (h:Wys d ways) :
  Calls Tryz.prog 7 #[.int .i64 d,v] w fun e w'=>∃(xo:Option Addr) (xc:Nat) (L:List (List Int)),e=.returned (.slice xo L.length xc)∧(∀r,r∈L↔r∈zonP (nul d) ways)∧L.length≤(zonP (nul d) ways).length∧Mat w'.heap.size 26 3 w' (.slice xo L.length xc) L∧Below w.heap.size w w':=by
 obtain ⟨vo,vc,rfl,_,_⟩:=mat_open hv
 have h1:=h.d1
 have h3:=h.d3
 have hn5:=h.n5
 have HM:Hid (∀X,Below w.heap.size w X→Mat X.heap.size 26 3 X (.slice vo ways.length vc) ways):=fun X hX=>(hv.below hX (Nat.le_refl _)).any (Nat.le_refl _)
 have HH:Hid (Wys d ways):=h
 have K2:Hid (∀X k u x (L:List (List Int)),k < ways.length→(∀r,r∈L↔r∈zonP (nul d) (ways.take k))→L.length≤(zonP (nul d) (ways.take k)).length→Mat X.heap.size 26 3 X u L→Mat X.heap.size 26 3 X x [nul d,ways.getD k []]→Calls Tryz.prog 19 #[u,x] X fun e w'=>∃(xo:Option Addr) (xc:Nat) (L':List (List Int)),e=.returned (.slice xo L'.length xc)∧((∀r,r∈L'↔r∈zonP (nul d) (ways.take (k+1)))∧L'.length≤(zonP (nul d) (ways.take (k+1))).length∧Mat w'.heap.size 26 3 w' (.slice xo L'.length xc) L'∧Below X.heap.size X w')):=fun X k u x L hk hm hll hu hx=>by
  have hb1:=zonP_box h.box k (by omega)
  have hb2:=two_box h.box (x:=ways.getD k []) (by simp [hk])
  have hl:=zonP_len (z:=nul d) (ways:=ways) k (by omega)
  have hp:2 ^ k≤2 ^ 5:=Nat.pow_le_pow_right (by decide) (by omega)
  refine (sumsR_any d 100 L _ u x X hu hx (by omega) (fun r hr=>⟨(hb1 r ((hm r).1 hr)).1,fun z hz=>by have:=(hb1 r ((hm r).1 hr)).2 z hz; omega⟩) (fun r hr=>⟨(hb2 r hr).1,fun z hz=>by have:=(hb2 r hr).2 z hz; omega⟩) (by decide) (by omega) (by simp)).mono ?_
  rintro e w' ⟨y,L',rfl,hf,ha,hm',hb⟩
  have hM:=fr_mat0S hf
  obtain ⟨xo,xc,rfl,_,_⟩:=mat_open hM
  have hms:∀r,r∈L'↔r∈zonP (nul d) (ways.take (k+1)):=fun r=>by
   rw [hm' r,zonP_snoc hk]
   exact mem_sumS hm r
  exact ⟨xo,xc,L',rfl,hms,nodup_lenL L' _ ha.nodup fun r hr=>(hms r).1 hr,hM.more (Nat.zero_le _),hb⟩
 have hmk:=run_make_row' (P:=Tryz.prog) 26 3 (.int .i64 0) 8 Tryz.underlying26 Tryz.info3 rfl .i64 .i64 d (by omega) (by omega)
 clear hv h
 obtain ⟨Wa,hWa⟩:∃Wa,Wa=w.alloc (.cells (madeCells #[.int .i64 0] d) 3):=⟨_,rfl⟩
 obtain ⟨Wb,hWb⟩:∃Wb,Wb=Wa.alloc (.cells #[.slice (some ⟨w.heap.size,0,none⟩) d d] 26):=⟨_,rfl⟩
 have hsa:Wa.heap.size=w.heap.size+1:=by rw [hWa]; exact size_alloc _ _
 have hna:Sl 0 3 Wa (.slice (some ⟨w.heap.size,0,none⟩) d d) (ints (nul d)):=by rw [hWa]; exact sl_nul w d (by omega)
 have hba:Below w.heap.size w Wa:=by rw [hWa]; exact alloc_keep _ _
 have hbb:Below Wa.heap.size Wa Wb:=by rw [hWb]; exact alloc_keep _ _
 have hMb:Mat 0 26 3 Wb (.slice (some ⟨Wa.heap.size,0,none⟩) 1 1) (zonP (nul d) (ways.take 0)):=by rw [hWb]; exact mat_oneS hna
 have HBB:Hid (Below w.heap.size w Wb):=hba.trans (hbb.mono hba.size)
 have HMb:Hid (Mat Wb.heap.size 26 3 Wb (.slice (some ⟨Wa.heap.size,0,none⟩) 1 1) (zonP (nul d) (ways.take 0))):=hMb.more (Nat.zero_le _)
 rw [hsa] at HMb hMb
 rw [hWa] at hWb
 clear hna hba hbb hMb hsa hWa
 go_enter Tryz.func7,Tryz.ntmps7
 go_wp2
 rw [←hWb]
 clear hWb
 go_loopw [5,6] (fun x i wr=>∃(k:Nat) (xo:Option Addr) (xc:Nat) (L:List (List Int)),k≤ways.length∧i=.int .i64 (k:Int)∧x=.slice xo L.length xc∧(∀r,r∈L↔r∈zonP (nul d) (ways.take k))∧L.length≤(zonP (nul d) (ways.take k)).length∧Mat wr.heap.size 26 3 wr (.slice xo L.length xc) L∧Below Wb.heap.size Wb wr) (fun _ i _=>ways.length-(intOf i).toNat)
 case atStart=>exact ⟨0,_,_,zonP (nul d) (ways.take 0),Nat.zero_le _,rfl,rfl,fun r=>Iff.rfl,Nat.le_refl _,HMb.out,Below.refl _ _⟩
 case round=>
  obtain ⟨k,xo,xc,L,hk,rfl,rfl,hmL,hlL,hMx,hbr⟩:=hrel
  have HBR:Hid (Below Wb.heap.size Wb wr):=hbr
  have HBW:Hid (Below w.heap.size w wr):=HBB.out.trans (hbr.mono HBB.out.size)
  by_cases hlt:k < ways.length
  ·obtain ⟨qb,qf,cp,rv,hs,_,hcc,hrv⟩:=mat_cell (HM.out wr HBW.out) hlt
   simp only [Value.slice.injEq] at hs
   obtain ⟨rfl,hxx,rfl⟩:=hs
   clear hxx
   have hrl:(ways.getD k []).length=d:=(HH.out.box _ (by simp [hlt])).1
   obtain ⟨qa,qc,hqe,_,_⟩:=sl_open hrv
   rw [hrl] at hqe
   subst hqe
   have HCS:Hid (∀X,Below wr.heap.size wr X→X.cell? ⟨qb,qf+k,none⟩=some (.slice qa d qc)):=fun X hX=>(hX.cell (lt_of_cell hcc)).trans hcc
   have HRV:Hid (Sl wr.heap.size 3 wr (.slice qa d qc) (ints (ways.getD k []))):=hrv
   have HMX:Hid (Mat wr.heap.size 26 3 wr (.slice xo L.length xc) L):=hMx
   have HML:Hid ((∀r,r∈L↔r∈zonP (nul d) (ways.take k))∧L.length≤(zonP (nul d) (ways.take k)).length):=⟨hmL,hlL⟩
   have hkI:(k:Int) < (ways.length:Int):=by omega
   have hkI0:(0:Int)≤(k:Int):=by omega
   clear hrv hMx hbr hrl hcc hmL hlL
   go_upto_region 5 with fail
   refine wp_region_held_drew (S:=fun w'=>w'.cell? ⟨qb,qf+k,none⟩=some (.slice qa d qc)) (by kernel_rfl) (HCS.out _ ((Below.refl _ _).drew)) (fun hHeld=>?_)
   refine wpAnyH_tk (i:=0) (d:=16) (v:=.slice xo L.length xc) rfl rfl (by kernel_rfl) (by kernel_rfl) (by kernel_rfl) (fun _ _ _ h=>h) (.inl ⟨by rfl,by (intro wq hSw; (try dsimp only at hSw); go_simp; (try (first | rfl | omega)))⟩) hHeld ?_
   simp only [Act.put,List.setIfInBounds_toArray,List.set_cons_zero,List.set_cons_succ]
   refine wpAnyH_tk (i:=1) (d:=17) (v:=.int .i64 d) rfl rfl (by kernel_rfl) (by kernel_rfl) (by kernel_rfl) (fun _ _ _ h=>h) (.inl ⟨by rfl,by (intro wq hSw; (try dsimp only at hSw); go_simp; (try (first | rfl | omega)))⟩) hHeld ?_
   simp only [Act.put,List.setIfInBounds_toArray,List.set_cons_zero,List.set_cons_succ]
   refine wpAnyH_tk (i:=3) (d:=19) (v:=.slice (some ⟨qb,qf,none⟩) ways.length vc) rfl rfl (by kernel_rfl) (by kernel_rfl) (by kernel_rfl) (fun _ _ _ h=>h) (.inl ⟨by rfl,by (intro wq hSw; (try dsimp only at hSw); go_simp; (try (first | rfl | omega)))⟩) hHeld ?_
   simp only [Act.put,List.setIfInBounds_toArray,List.set_cons_zero,List.set_cons_succ]
   refine wpAnyH_tk (i:=4) (d:=20) (v:=.int .i64 k) rfl rfl (by kernel_rfl) (by kernel_rfl) (by kernel_rfl) (fun _ _ _ h=>h) (.inl ⟨by rfl,by (intro wq hSw; (try dsimp only at hSw); go_simp; (try (first | rfl | omega)))⟩) hHeld ?_
   simp only [Act.put,List.setIfInBounds_toArray,List.set_cons_zero,List.set_cons_succ]
   refine wpAnyH_tk (i:=5) (d:=21) (v:=.pointer (some ⟨qb,qf+k,none⟩)) rfl rfl (by kernel_rfl) (by kernel_rfl) (by kernel_rfl) (fun _ _ _ h=>h) (.inl ⟨by rfl,by (intro wq hSw; (try dsimp only at hSw); go_simp; (try (first | rfl | omega)))⟩) hHeld ?_
   simp only [Act.put,List.setIfInBounds_toArray,List.set_cons_zero,List.set_cons_succ]
   refine wpAnyH_tk (i:=6) (d:=22) (v:=.slice qa d qc) rfl rfl (by kernel_rfl) (by kernel_rfl) (by kernel_rfl) (fun _ _ _ h=>h) (.inl ⟨by rfl,by (intro wq hSw; (try dsimp only at hSw); go_simp; (try (first | rfl | omega)))⟩) hHeld ?_
   simp only [Act.put,List.setIfInBounds_toArray,List.set_cons_zero,List.set_cons_succ]
   refine wpAnyH_ready (rs:=[2]) (by kernel_rfl) (by simp) ?_
   refine ready_tk (i:=2) rfl (by rfl) (fun K hK=>?_) AllReadyH.nil
   go_simp
   obtain ⟨Wx,hWx⟩:∃Wx,Wx=(wr.alloc (.cells (madeCells #[.int .i64 0] d) 3)).drew:=⟨_,rfl⟩
   have hbX:Below wr.heap.size wr Wx:=by rw [hWx]; exact (alloc_keep _ _).drew
   have hnX:Sl 0 3 Wx (.slice (some ⟨wr.heap.size,0,none⟩) d d) (ints (nul d)):=by
    rw [hWx]
    exact (sl_nul wr d (by omega)).below ((Below.refl _ _).drew) (Nat.le_refl _)
   have HBX:Hid (Below wr.heap.size wr Wx):=hbX
   have HNX:Hid (Sl 0 3 Wx (.slice (some ⟨wr.heap.size,0,none⟩) d d) (ints (nul d))):=hnX
   rw [←hWx]
   clear hWx hbX hnX
   refine hK.out _ _ (HCS.out _ HBX.out) (fun hHeld=>?_)
   clear hK K
   refine wpAnyH_ready (rs:=[7]) (by kernel_rfl) (by simp) ?_
   refine ready_tk (i:=7) rfl (by rfl) (fun K hK=>?_) AllReadyH.nil
   go_simp
   obtain ⟨Wy,hWy⟩:∃Wy,Wy=Wx.alloc (.cells #[.slice (some ⟨wr.heap.size,0,none⟩) d d,.slice qa d qc] 26):=⟨_,rfl⟩
   have hbY:Below Wx.heap.size Wx Wy:=by rw [hWy]; exact alloc_keep _ _
   have hM2:Mat Wx.heap.size 26 3 Wy (.slice (some ⟨Wx.heap.size,0,none⟩) 2 2) [nul d,ways.getD k []]:=by
    rw [hWy]
    exact mat_two (HNX.out.more (Nat.zero_le _)) ((HRV.out.below HBX.out (Nat.le_refl _)).any (Nat.le_refl _))
   have hbXY:Below wr.heap.size wr Wy:=HBX.out.trans (hbY.mono HBX.out.size)
   have HKC:=K2.out Wy k (.slice xo L.length xc) _ L hlt HML.out.1 HML.out.2 ((HMX.out.below hbXY (Nat.le_refl _)).any (Nat.le_refl _)) (hM2.any (Nat.le_refl _))
   have HBY:Hid (Below wr.heap.size wr Wy):=hbXY
   rw [←hWy]
   clear hWy hbY hM2 hbXY HNX HRV HMX HML
   refine hK.out _ _ (HCS.out _ HBY.out) (fun hHeld=>?_)
   clear hK K
   refine wpAnyH_ready (rs:=[8]) (by kernel_rfl) (by simp) ?_
   refine ready_tk (i:=8) rfl (by rfl) (fun K hK=>?_) AllReadyH.nil
   go_simp
   refine HKC.mono ?_
   rintro e w3 ⟨yo,yc,L',rfl,hm3,hl3,hM3,hb3⟩
   have H3:Hid ((∀r,r∈L'↔r∈zonP (nul d) (ways.take (k+1)))∧L'.length≤(zonP (nul d) (ways.take (k+1))).length∧Mat w3.heap.size 26 3 w3 (.slice yo L'.length yc) L'):=⟨hm3,hl3,hM3⟩
   have HB3:Hid (Below wr.heap.size wr w3):=HBY.out.trans (hb3.mono HBY.out.size)
   clear hm3 hl3 hM3 hb3 HKC
   refine hK.out _ _ (HCS.out _ HB3.out) (fun hHeld=>?_)
   clear hK K
   refine wpAnyH_tk (i:=9) (d:=5) (v:=.slice yo L'.length yc) rfl rfl (by kernel_rfl) (by kernel_rfl) (by kernel_rfl) (fun _ _ _ h=>h) (.inl ⟨by rfl,by (intro wq hSw; (try dsimp only at hSw); go_simp; (try (first | rfl | omega)))⟩) hHeld ?_
   simp only [Act.put,List.setIfInBounds_toArray,List.set_cons_zero,List.set_cons_succ]
   refine wpAnyH_done (by kernel_rfl) ?_ _
   clear hHeld HCS
   go_wp2
   exact ⟨⟨k+1,yo,yc,L',hlt,by go_num,rfl,H3.out.1,H3.out.2.1,H3.out.2.2,HBR.out.trans (HB3.out.mono HBR.out.size)⟩,by simp [intOf]; omega⟩
  ·have hte:ways.take k=ways:=List.take_of_length_le (by omega)
   rw [hte] at hmL hlL
   have H3:Hid ((∀r,r∈L↔r∈zonP (nul d) ways)∧L.length≤(zonP (nul d) ways).length∧Mat wr.heap.size 26 3 wr (.slice xo L.length xc) L):=⟨hmL,hlL,hMx⟩
   clear hMx hmL hlL hte hbr
   go_wp2
   go_ret
   exact ⟨xo,xc,L,rfl,H3.out.1,H3.out.2.1,H3.out.2.2,HBW.out⟩
end Go.Proofs.YtcoeneldaohpnaaGreat
