import Derived.Test.YtcoeneldaohpnaaGreatMgAG
import Derived.Test.YtcoeneldaohpnaaGreatMgAF
import Derived.Test.YtcoeneldaohpnaaGreatMgAM
import Derived.Test.YtcoeneldaohpnaaGreatRefs5
namespace Go.Proofs.YtcoeneldaohpnaaGreat
open Go.RowKit
attribute [local go_sem ↓] Go.wp_at_zero Go.wp_at_succ
theorem keep4 {M:Nat} {wa w3:World} (hB:Below M wa w3) {a1 a2 a3 a4:Addr} {v1 v2 v3 v4:Value} (h:((a1.block < M∧wa.cell? a1=some v1)∧(a2.block < M∧wa.cell? a2=some v2))∧(a3.block < M∧wa.cell? a3=some v3)∧(a4.block < M∧wa.cell? a4=some v4)) :
  Hid (w3.cell? a1=some v1∧w3.cell? a2=some v2∧w3.cell? a3=some v3∧w3.cell? a4=some v4):=
 ⟨(hB.cell h.1.1.1).trans h.1.1.2,(hB.cell h.1.2.1).trans h.1.2.2,(hB.cell h.2.1.1).trans h.2.1.2,(hB.cell h.2.2.1).trans h.2.2.2⟩
theorem subL_snoc (r b:List Int) (k:Nat) (h:k < r.length):(subL r b).take (k+1)=(subL r b).take k ++ [r.getD k 0-b.getD k 0]:=by
 rw [List.take_succ_eq_append_getElem (by rw [subL_length]; exact h)]
 congr 1
 simp [subL]
set_option maxRecDepth 100000 in
set_option maxHeartbeats 3200000 in
theorem from_any (B c:Nat) (m:List (List Int)) (v:Value) (w:World) (hv:Mat B 26 3 w v m) (hm1:1≤m.length) (hm:m.length≤1000) (hc0:c≤1000) (hr:∀r∈m,r.length=c) (hb:∀r∈m,∀z∈r,z.natAbs≤1000000) :
  Calls Tryz.prog 34 #[v] w fun e w'=>∃x,e=.returned x∧Fr w.heap.size 26 3 w' x (diffL m)∧Below w.heap.size w w':=by
 obtain ⟨i0,hi,hz0,hz1,hz2⟩:=info_parts Tryz.info26
 obtain ⟨i3,hi3,hz30,hz31,hz32⟩:=info_parts Tryz.info3
 obtain ⟨b,o,cap,r1,hvv,hlc,hcc,hr1⟩:=mat_cell hv (k:=0) (by omega)
 subst hvv
 have HV:Hid (Mat B 26 3 w (.slice (some ⟨b,o,none⟩) m.length cap) m):=hv
 have HRW:Hid (∀r∈m,r.length=c):=hr
 have HBD:Hid (∀r∈m,∀z∈r,z.natAbs≤1000000):=hb
 have hm0:m.getD 0 []∈m:=by simp [show 0 < m.length by omega]
 obtain ⟨ro,rc,hrv,hrl,_⟩:=sl_open hr1
 rw [hr _ hm0] at hrv hrl
 subst hrv
 have HR0:Hid (Sl B 3 w (.slice ro c rc) (ints (m.getD 0 []))):=hr1
 have HC0:Hid (w.cell? ⟨b,o,none⟩=some (.slice ro c rc)):=hcc
 have HL0:Hid ((m.getD 0 []).length=c):=hr _ hm0
 have HB0:Hid (∀z∈m.getD 0 [],z.natAbs≤1000000):=hb _ hm0
 clear hv hr hb hr1 hcc hm0
 obtain ⟨q0,hq0⟩:∃q0,q0=m.getD 0 []:=⟨_,rfl⟩
 have HQ0:Hid (q0=m.getD 0 []):=hq0
 rw [←hq0] at HR0 HL0 HB0
 clear hq0
 have h0I:(0:Int) < (m.length:Int):=by omega
 have h0N:0 < m.length:=by omega
 go_enter Tryz.func34,Tryz.ntmps34
 go_wp2
 go_loopw [3,4] (fun x i wr=>∃k:Nat,k+1≤m.length∧i=.int .i64 ((k:Int)+1)∧Fr w.heap.size 26 3 wr x ((diffL m).take k)∧Below w.heap.size w wr) (fun _ i _=>m.length-(intOf i).toNat)
 case atStart=>exact ⟨0,hm1,rfl,Fr.nil _ _ _ _,Below.refl _ _⟩
 case round=>
  obtain ⟨k,hk,rfl,hfr,hbel⟩:=hrel
  obtain ⟨wa,rfl⟩:∃wa,wa=wr:=⟨wr,rfl⟩
  have HF:Hid (Fr w.heap.size 26 3 wa u3 ((diffL m).take k)):=hfr
  have HB:Hid (Below w.heap.size w wa):=hbel
  have hsz:w.heap.size≤wa.heap.size:=hbel.size
  clear hfr hbel
  by_cases hlt:k+1 < m.length
  ·obtain ⟨b2,o2,cp2,rk,hs,hck,hcck,hrk⟩:=mat_cell (HV.out.below HB.out (Nat.le_refl _)) (k:=k+1) hlt
   simp only [Value.slice.injEq,Option.some.injEq,Addr.mk.injEq,and_true,true_and] at hs
   obtain ⟨⟨rfl,rfl⟩,rfl⟩:=hs
   have hmem1:m.getD (k+1) []∈m:=by simp [hlt]
   have HL1:Hid ((m.getD (k+1) []).length=c):=HRW.out _ hmem1
   have HB1:Hid (∀z∈m.getD (k+1) [],z.natAbs≤1000000):=HBD.out _ hmem1
   have HSN:Hid ((diffL m).take (k+1)=(diffL m).take k ++ [subL (m.getD (k+1) []) q0]):=by rw [HQ0.out]; exact diffL_snoc m k hlt
   have HLN:Hid (((diffL m).take k).length=k):=by
    show _=_
    rw [List.length_take,diffL_length]; omega
   obtain ⟨rko,rkc,hrkv,hrkl,_⟩:=sl_open hrk
   rw [HL1.out] at hrkv hrkl
   subst hrkv
   have HRK:Hid (Sl B 3 wa (.slice rko c rkc) (ints (m.getD (k+1) []))):=hrk
   have HR0a:Hid (Sl B 3 wa (.slice ro c rc) (ints q0)):=HR0.out.below HB.out (Nat.le_refl _)
   have hc0a:wa.cell? ⟨b,o,none⟩=some (.slice ro c rc):=(HB.out.cell (lt_of_cell HC0.out)).trans HC0.out
   clear hrk hmem1
   generalize m.getD (k+1) []=q1 at *
   obtain ⟨M,hM⟩:∃M,M=wa.heap.size:=⟨_,rfl⟩
   have HM:Hid (M=wa.heap.size):=hM
   have hMs:w.heap.size≤M:=by omega
   clear hM
   have hk0I:(0:Int)≤(k:Int)+1:=by omega
   have hkI:(k:Int)+1 < (m.length:Int):=by omega
   go_wp2
   go_loopw [5,6] (fun x i wq=>∃j:Nat,j≤c∧i=.int .i64 j∧wq.ownsRow M 3 1 x j (ints ((subL q1 q0).take j))∧Below M wa wq) (fun _ i _=>c-(intOf i).toNat)
   case atStart=>exact ⟨0,Nat.zero_le _,rfl,World.ownsRow_nil _ _ _ _,Below.refl _ _⟩
   case round=>
    obtain ⟨j,hj,rfl,hown,hbel⟩:=hrel
    have HO:Hid (wr.ownsRow M 3 1 u5 j (ints ((subL q1 q0).take j))):=hown
    have HBq:Hid (Below M wa wr):=hbel
    have hszq:M≤wr.heap.size:=by have:=hbel.size; rw [HM.out]; exact this
    have hc0r:wr.cell? ⟨b,o,none⟩=some (.slice ro c rc):=(hbel.cell (by rw [HM.out]; exact lt_of_cell hc0a)).trans hc0a
    clear hown hbel
    by_cases hjl:j < c
    ·have hckr:wr.cell? ⟨b,o+(k+1),none⟩=some (.slice rko c rkc):=(HBq.out.cell (by rw [HM.out]; exact lt_of_cell hcck)).trans hcck
     obtain ⟨b1,o1,cp1,hs1,_,hcc1a⟩:=sl_cell HRK.out (k:=j) (by rw [HL1.out]; exact hjl)
     simp only [Value.slice.injEq] at hs1
     obtain ⟨rfl,_,rfl⟩:=hs1
     obtain ⟨b3,o3,cp3,hs3,_,hcc3a⟩:=sl_cell HR0a.out (k:=j) (by rw [HL0.out]; exact hjl)
     simp only [Value.slice.injEq] at hs3
     obtain ⟨rfl,_,rfl⟩:=hs3
     have hx:=HB1.out (q1.getD j 0) (by simp [show j < q1.length by rw [HL1.out]; exact hjl])
     have hy:=HB0.out (q0.getD j 0) (by simp [show j < q0.length by rw [HL0.out]; exact hjl])
     have HZ:Hid ((subL q1 q0).take (j+1)=(subL q1 q0).take j ++ [q1.getD j 0-q0.getD j 0]):=subL_snoc q1 q0 j (by rw [HL1.out]; exact hjl)
     have HLL:Hid (((subL q1 q0).take j).length=j):=by
      show _=_
      rw [List.length_take,subL_length,HL1.out]; omega
     generalize q1.getD j 0=x at *
     generalize q0.getD j 0=y at *
     have hcc1:wr.cell? ⟨b1,o1+j,none⟩=some (.int .i64 x):=(HBq.out.cell (by rw [HM.out]; exact lt_of_cell hcc1a)).trans hcc1a
     have hcc3:wr.cell? ⟨b3,o3+j,none⟩=some (.int .i64 y):=(HBq.out.cell (by rw [HM.out]; exact lt_of_cell hcc3a)).trans hcc3a
     have KA:Hid (((b < M∧wa.cell? ⟨b,o+(k+1),none⟩=some (.slice (some ⟨b1,o1,none⟩) c rkc))∧(b1 < M∧wa.cell? ⟨b1,o1+j,none⟩=some (.int .i64 x)))∧(b < M∧wa.cell? ⟨b,o,none⟩=some (.slice (some ⟨b3,o3,none⟩) c rc))∧(b3 < M∧wa.cell? ⟨b3,o3+j,none⟩=some (.int .i64 y))):=by
      rw [HM.out]; exact ⟨⟨⟨lt_of_cell hcck,hcck⟩,⟨lt_of_cell hcc1a,hcc1a⟩⟩,⟨lt_of_cell hc0a,hc0a⟩,⟨lt_of_cell hcc3a,hcc3a⟩⟩
     clear hcc1a hcc3a
     have hjI:(j:Int) < (c:Int):=by omega
     have hjI0:(0:Int)≤(j:Int):=by omega
     have hx1 : -1000000≤x:=by omega
     have hx2:x≤1000000:=by omega
     have hy1 : -1000000≤y:=by omega
     have hy2:y≤1000000:=by omega
     clear hx hy
     have hw2:IntKind.i64.wrap (x-y)=x-y:=by rw [IntWalk.i64_left]; exact IntWalk.wrap64_in _ ⟨by omega,by omega⟩
     go_wp2
     go_region_held3 (fun w'=>w'.cell? ⟨b,o+(k+1),none⟩=some (.slice (some ⟨b1,o1,none⟩) c rkc)∧w'.cell? ⟨b1,o1+j,none⟩=some (.int .i64 x)∧w'.cell? ⟨b,o,none⟩=some (.slice (some ⟨b3,o3,none⟩) c rc)∧w'.cell? ⟨b3,o3+j,none⟩=some (.int .i64 y)) (first | exact KS.out | go_keep)
      ((refine step_append_own (by rfl) _ _ 26 (by rfl) M 3 i3 (.int .i64 0) 1 8 Tryz.underlying26 hi3 hz30 hz31 hz32 rfl (by decide) _ _ _ (by rfl) (HO.out.drew.alloc _) ⟨wr.heap.size,0,none⟩ 1 1 [.int .i64 (x-y)] (by rfl) rfl (one_new _ _ _) (one_int _) (by unfold maxLen; omega) (by omega) (by simp; omega) ?_; intro v' w3 ho hg; have RR:=push3 HBq.out hszq HLL.out HO.out ho hg (hz:=HZ.out); have KS:=keep4 (a1:=⟨b,o+(k+1),none⟩) (a2:=⟨b1,o1+j,none⟩) (a3:=⟨b,o,none⟩) (a4:=⟨b3,o3+j,none⟩) RR.2 KA.out))
     have R1:Hid (w3.ownsRow M 3 1 v' (j+1) (ints ((subL q1 q0).take (j+1)))):=RR.1
     have R2:Hid (Below M wa w3):=RR.2
     clear RR ho hg KS
     go_wp2
     go_roundw
     case rel=>exact ⟨j+1,by omega,by go_num,R1.out,R2.out⟩
     case measure=>simp [intOf]; omega
    ·have hje:j=c:=by omega
     have HX:Hid (Sl 0 3 wr u5 (ints (subL q1 q0))):=by
      have h:=HO.out
      rw [List.take_of_length_le (by rw [subL_length,HL1.out]; omega)] at h
      exact Sl.own h
     have HRq:Hid (Fr w.heap.size 26 3 wr u3 ((diffL m).take k)):=HF.out.below HBq.out (by rw [HM.out]; exact Nat.le_refl _)
     have HBw:Hid (Below w.heap.size w wr):=HB.out.trans (HBq.out.mono hMs)
     obtain ⟨xo,xc,hxv⟩:=owns_form HO.out
     subst hxv
     obtain ⟨vs,g1,g2,g3⟩:=HRq.out
     have hlen:=HLN.out
     rw [hlen] at g1 g2 g3
     have G1:Hid (vs.length=k):=g1
     have G2:Hid (wr.ownsRow w.heap.size 26 1 u3 k vs):=g2
     have G3:Hid (∀i,i < k→Sl 0 3 wr (vs.getD i (.slice none 0 0)) (ints (((diffL m).take k).getD i []))):=g3
     clear g1 g2 g3 hlen HO hje
     have hcj:decide ((j:Int) < (c:Int))=false:=by simp; omega
     go_wp2_with (first | (at_builtin; refine wpList_append_own _ rfl _ _ 22 rfl w.heap.size 26 i0 (.slice none 0 0) 1 24 Tryz.underlying22 hi hz0 hz1 hz2 rfl (by decide) _ _ _ rfl (G2.out.alloc _) ⟨wr.heap.size,0,none⟩ 1 1 [.slice xo j xc] rfl rfl (one_new _ _ _) (one_slice _ _ _) ?d3 ?d4 ?d5 ?_))
     case d3=>unfold maxLen; omega
     case d4=>omega
     case d5=>simp; omega
     intro v' w3 ho hg _
     have R1:Hid (Fr w.heap.size 26 3 w3 v' ((diffL m).take (k+1))):=by
      have hp:=Fr.push (e2:=26) (e1:=3) (m:=(diffL m).take k) (u:=.slice xo j xc) (zs:=subL q1 q0) (by decide) (by rw [HLN.out]; exact G1.out) (by rw [HLN.out]; exact G2.out.alloc _)
       (fun i hi=>(G3.out i (by rw [HLN.out] at hi; exact hi)).alloc _) (HX.out.alloc _) (by rw [HLN.out]; exact ho) hg
      rw [←HSN.out] at hp
      exact hp
     have R2:Hid (Below w.heap.size w w3):=(HBw.out.alloc (by omega) _).grown hg (by simp; omega) (fun x hx=>(G2.out.lt x hx).1)
     clear ho hg
     go_wp2
     go_roundw
     case rel=>exact ⟨k+1,by omega,by go_num,R1.out,R2.out⟩
     case measure=>simp [intOf]; omega
  ·have HE:Hid ((diffL m).take k=diffL m):=by
    show _=_
    exact List.take_of_length_le (by rw [diffL_length]; omega)
   have hkF:decide ((k:Int)+1 < (m.length:Int))=false:=by simp; omega
   go_wp2
   go_ret
   exact ⟨_,rfl,by rw [←HE.out]; exact HF.out,HB.out⟩
end Go.Proofs.YtcoeneldaohpnaaGreat

namespace Go.Proofs.YtcoeneldaohpnaaGreat
open Go.RowKit
attribute [local go_sem ↓] Go.wp_at_zero Go.wp_at_succ
set_option maxRecDepth 100000 in
set_option maxHeartbeats 400000 in
theorem dotR_any (B:Nat) (a x:List Int) (u v:Value) (w:World) (hu:Sl B 3 w u (ints a)) (hv:Sl B 3 w v (ints x)) (hs:Sm a x) :
  Calls Tryz.prog 36 #[u,v] w fun e w'=>e=.returned (.int .i64 (dotL a x))∧∃n,w'=w.drewN n:=by
 obtain ⟨ao,cap,hvv,hlc,hcm⟩:=sl_open hu
 obtain ⟨bo,cbp,huu,hlb,hcb⟩:=sl_open hv
 subst hvv huu
 have HU:Hid (Sl B 3 w (.slice ao a.length cap) (ints a)):=hu
 have HV:Hid (Sl B 3 w (.slice bo x.length cbp) (ints x)):=hv
 have HS:Hid (Sm a x):=hs
 have hle:a.length≤x.length:=hs.1
 have hl8:a.length≤8:=hs.2.1
 clear hu hv hs
 go_enter Tryz.func36,Tryz.ntmps36
 go_wp2
 go_loopw [5,6] (fun s i wr=>∃k:Nat,k≤a.length∧i=.int .i64 k∧s=.int .i64 (Lin.sumN k fun i=>a.getD i 0*x.getD i 0)∧∃n,wr=w.drewN n) (fun _ i _=>a.length-(intOf i).toNat)
 case atStart=>exact ⟨0,Nat.zero_le _,rfl,rfl,0,rfl⟩
 case round=>
  obtain ⟨k,hk,rfl,rfl,n,rfl⟩:=hrel
  by_cases hlt:k < a.length
  ·have hlt2:k < x.length:=by omega
   obtain ⟨b,o,cp,hs,hc1,hcc⟩:=sl_cell HU.out hlt
   simp only [Value.slice.injEq] at hs
   obtain ⟨rfl,_,rfl⟩:=hs
   obtain ⟨b2,o2,cp2,hs2,hc2,hcc2⟩:=sl_cell HV.out hlt2
   simp only [Value.slice.injEq] at hs2
   obtain ⟨rfl,_,rfl⟩:=hs2
   have h1:=sum_sm HS.out k hk
   have h2:=sum_sm HS.out (k+1) (by omega)
   have h3:(a.getD k 0*x.getD k 0).natAbs≤1000000000000000:=mul_bd (HS.out.2.2.1 _ (by simp [hlt])) (HS.out.2.2.2 _ (by simp [hlt2]))
   have HSU:Hid ((Lin.sumN (k+1) fun i=>a.getD i 0*x.getD i 0)=(Lin.sumN k fun i=>a.getD i 0*x.getD i 0)+a.getD k 0*x.getD k 0):=rfl
   rw [HSU.out] at h2
   generalize (Lin.sumN k fun i=>a.getD i 0*x.getD i 0)=S at *
   generalize a.getD k 0=p at *
   generalize x.getD k 0=q at *
   have e2:wrap64 (S+wrap64 (p*q))=S+p*q:=by
    rw [IntWalk.wrap64_in (p*q) ⟨by omega,by omega⟩,IntWalk.wrap64_in _ ⟨by omega,by omega⟩]
   have hkI:(k:Int) < (a.length:Int):=by omega
   have hkI2:(k:Int) < (x.length:Int):=by omega
   have hkI0:(0:Int)≤(k:Int):=by omega
   clear h1 h2 h3
   go_wp2
   go_quiet (fail)
   go_wp2
   go_roundw
   case rel=>exact ⟨k+1,by omega,by go_num,by rw [HSU.out,e2],_,rfl⟩
   case measure=>simp [intOf]; omega
  ·have hke:k=a.length:=by omega
   subst hke
   go_wp2
   go_ret
   exact ⟨rfl,n,rfl⟩
theorem dot_small0 {a x:List Int} (h:Sm a x):(dotL a x).natAbs≤8000000000000000:=by
 have h1:=sum_sm h a.length (Nat.le_refl _)
 have h2:=h.2.1
 unfold dotL
 omega
def overL (r x:List Int):Int:=dotL (r.take x.length) x-r.getD x.length 0
set_option maxRecDepth 100000 in
set_option maxHeartbeats 800000 in
theorem over_any (B:Nat) (r x:List Int) (u v:Value) (w:World) (hu:Sl B 3 w u (ints r)) (hv:Sl B 3 w v (ints x)) (hl:r.length=x.length+1) (hs:Sm (r.take x.length) x) (hb:(r.getD x.length 0).natAbs≤1000000000000000000) :
  Calls Tryz.prog 17 #[u,v] w fun e w'=>e=.returned (.int .i64 (overL r x))∧∃n,w'=w.drewN n:=by
 obtain ⟨ao,cap,huu,hlc,hcm⟩:=sl_open hu
 obtain ⟨bo,cbp,hvv,hlb,hcb⟩:=sl_open hv
 subst huu hvv
 have HU:Hid (Sl B 3 w (.slice ao r.length cap) (ints r)):=hu
 have HV:Hid (Sl B 3 w (.slice bo x.length cbp) (ints x)):=hv
 have HS:Hid (Sm (r.take x.length) x):=hs
 have hTK:=Sl.take (n:=x.length) hu (by omega)
 obtain ⟨b,o,cp,hs1,hc1,hcc⟩:=sl_cell hu (k:=x.length) (by omega)
 simp only [Value.slice.injEq] at hs1
 obtain ⟨rfl,_,rfl⟩:=hs1
 have hD:=dot_small0 hs
 have HTK:Hid (Sl B 3 w (.slice (some ⟨b,o,none⟩) x.length cap) (ints (r.take x.length))):=hTK
 have HP:Hid (∀n,Calls Tryz.prog 36 #[.slice (some ⟨b,o,none⟩) x.length cap,.slice bo x.length cbp] (w.drewN n) fun e w'=>e=.returned (.int .i64 (dotL (r.take x.length) x))∧∃k,w'=(w.drewN n).drewN k):=fun n=>
  dotR_any B _ x _ _ _ (HTK.out.drewN n) (HV.out.drewN n) HS.out
 have HAG:Hid (overL r x=dotL (r.take x.length) x-r.getD x.length 0):=rfl
 generalize dotL (r.take x.length) x=D at *
 generalize r.getD x.length 0=q at *
 rw [hl] at hlc
 rw [hl]
 clear hu hv hs hTK
 generalize hxl:x.length=xl at *
 have hx0:(0:Int)≤(xl:Int):=by omega
 have hx1:(xl:Int) < (xl:Int)+1:=by omega
 have hx2:xl≤cap:=by omega
 have hx3:(xl:Int)≤(cap:Int):=by omega
 have hw:wrap64 (D-q)=D-q:=IntWalk.wrap64_in _ ⟨by omega,by omega⟩
 have hw2:IntKind.i64.wrap (D-q)=D-q:=by rw [IntWalk.i64_left]; exact hw
 go_enter Tryz.func17,Tryz.ntmps17
 go_wp2
 go_quiet ((go_at_call 36; exact Calls.quiet_of (w:=w) (HP.out _)))
 go_wp2
 go_ret
 exact ⟨ret_int (by rw [HAG.out]),_,rfl⟩
end Go.Proofs.YtcoeneldaohpnaaGreat

namespace Go.Proofs.YtcoeneldaohpnaaGreat
open Go.RowKit
theorem ext_all:∀(k:Nat) {n fr:Nat} {c:List Int},c.length=k→(∀i,i < k→(fr:Int)≤c.getD i 0∧c.getD i 0 < n)→(∀i j,i < j→j < k→c.getD i 0 < c.getD j 0)→c∈ext n k fr
 | 0,n,fr,c,hl,_,_=>by
  have:=List.eq_nil_of_length_eq_zero hl
  subst this
  simp [ext]
 | k+1,n,fr,c,hl,hb,hr=>by
  cases c with
  | nil=>simp at hl
  | cons a c=>
   have h0:=hb 0 (by omega)
   simp only [List.getD_cons_zero] at h0
   simp only [ext,List.mem_flatMap,List.mem_map,List.mem_range'_1]
   refine ⟨a.toNat,by omega,c,ext_all k (by simpa using hl) (fun i hi=>?_) (fun i j hij hj=>?_),by congr 1; omega⟩
   ·have h1:=hb (i+1) (by omega)
    have h2:=hr 0 (i+1) (by omega) (by omega)
    simp only [List.getD_cons_succ,List.getD_cons_zero] at h1 h2
    exact ⟨by omega,h1.2⟩
   ·have h2:=hr (i+1) (j+1) (by omega) (by omega)
    simpa only [List.getD_cons_succ] using h2
theorem chosen_ext {k n:Nat} {c:List Int} : c∈chosenL k n↔c∈ext n k 0:=by
 constructor
 ·intro h
  obtain ⟨h1,h2⟩:=chosen_mem k n c h
  exact ext_all k (chosen_row k n c h) (fun i hi=>by have:=h1 i hi; exact ⟨by simpa using this.1,this.2⟩) h2
 ·intro h
  obtain ⟨h1,h2,h3⟩:=ext_rise h
  have:=chosen_all k n (fun i=>(c.getD i 0).toNat) ⟨fun i j hij hj=>by
   have q1:=h3 i j hij hj
   have q2:=h2 i (by omega)
   show (c.getD i 0).toNat < (c.getD j 0).toNat
   omega,fun i hi=>by
   have q2:=h2 i hi
   show (c.getD i 0).toNat < n
   omega⟩
  have e:((List.range k).map fun i=>(((c.getD i 0).toNat:Nat):Int))=c:=by
   apply List.ext_getElem
   ·simp [h1]
   ·intro i q1 q2
    have:=h2 i (by omega)
    have e2:c.getD i 0=c[i]:=by simp [show i < c.length by omega]
    simp only [List.getElem_map,List.getElem_range]
    rw [←e2]
    omega
  rw [e] at this
  exact this
def rowsD (P:List (List Int)) (d:Nat):List (List Int):=(chosenL d P.length).flatMap fun c=>(rowT (pks P [] c) P).toList
theorem mem_rowsD {P:List (List Int)} {d:Nat} {r:List Int} : r∈rowsD P d↔r∈rowsC P [] d P:=by
 rw [←rows_ext]
 unfold rowsD
 simp only [List.mem_flatMap]
 constructor
 ·rintro ⟨c,hc,h⟩
  exact ⟨c,chosen_ext.1 hc,h⟩
 ·rintro ⟨c,hc,h⟩
  exact ⟨c,chosen_ext.2 hc,h⟩
end Go.Proofs.YtcoeneldaohpnaaGreat
