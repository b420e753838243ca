import Derived.Test.YtadpjlpdfimaeaaGreatDoorRun9
import Derived.Lib.JoinLaws
import Derived.Test.YtadpjlpdfimaeaaGreatDoorMgAE
import Derived.Test.YtadpjlpdfimaeaaGreatDoorMgAB
namespace Go.Proofs.YtadpjlpdfimaeaaGreatDoor
open Go.RowKit
attribute [local go_sem ↓] Go.wp_at_zero Go.wp_at_succ
def subL (r b:List Int):List Int:=(List.range r.length).map fun i=>r.getD i 0-b.getD i 0
def diffL (m:List (List Int)):List (List Int):=(m.drop 1).map fun r=>subL r (m.getD 0 [])
theorem subL_length (r b:List Int):(subL r b).length=r.length:=by simp [subL]
theorem diffL_length (m:List (List Int)):(diffL m).length=m.length-1:=by simp [diffL]
theorem subL_at {r b:List Int} {k:Nat} (h:k < r.length):(subL r b).getD k 0=r.getD k 0-b.getD k 0:=by simp [subL,h]
theorem diffL_snoc (m:List (List Int)) (k:Nat) (h:k+1 < m.length):(diffL m).take (k+1)=(diffL m).take k ++ [subL (m.getD (k+1) []) (m.getD 0 [])]:=by
 rw [List.take_succ_eq_append_getElem (by rw [diffL_length]; omega)]
 have e:(diffL m)[k]'(by rw [diffL_length]; omega)=subL (m.getD (k+1) []) (m.getD 0 []):=by
  have h1:m[1+k]?=some (m[1+k]'(by omega)):=List.getElem?_eq_getElem (by omega)
  simp only [diffL,List.getElem_map,List.getElem_drop,List.getD_eq_getElem?_getD]
  rw [show k+1=1+k by omega,h1]; rfl
 rw [e]
theorem set_mix {r nr:List Int} {k:Nat} (hl:r.length=nr.length) (hk:k < r.length):ints (nr.take (k+1) ++ r.drop (k+1))=(ints (nr.take k ++ r.drop k)).set k (.int .i64 (nr.getD k 0)):=by
 apply List.ext_getElem?
 intro i
 rw [List.getElem?_set,ints_length]
 simp only [ints,List.getElem?_map]
 by_cases hik:i < k
 ·rw [List.getElem?_append_left (by simp; omega),List.getElem?_append_left (by simp; omega),if_neg (by omega)]
  simp [hik,show i < k+1 by omega]
 ·by_cases hik2:i=k
  ·subst hik2
   rw [List.getElem?_append_left (by simp; omega),if_pos rfl,if_pos (by simp; omega)]
   simp [show i < nr.length by omega]
  ·rw [List.getElem?_append_right (by simp; omega),List.getElem?_append_right (by simp; omega),if_neg (by omega)]
   simp only [List.length_take,List.getElem?_drop]
   rw [show k+1+(i-min (k+1) nr.length)=i by omega,show k+(i-min k nr.length)=i by omega]
theorem mix_at {r nr:List Int} {k:Nat} (hl:r.length=nr.length) (hk:k < r.length):(nr.take k ++ r.drop k).getD k 0=r.getD k 0:=by
 simp only [List.getD_eq_getElem?_getD]; rw [List.getElem?_append_right (by simp; omega)]; simp [show k-min k nr.length=0 by omega]
theorem mix_end {r nr:List Int} {k:Nat} (hl:r.length=nr.length) (hk:r.length≤k):nr.take k ++ r.drop k=nr:=by
 rw [List.take_of_length_le (by omega),List.drop_eq_nil_of_le (by omega),List.append_nil]
theorem Touch.below {g M:Nat} {w w2 wr:World} (h:Touch g w2 wr) (hb:Below M w w2) (hg:M≤g):Below M w wr:=
 ⟨h.os.trans hb.os,h.tape.trans hb.tape,h.output.trans hb.output,by rw [h.size]; exact hb.size,fun b hlt=>(h.block b (by omega)).trans (hb.block b hlt)⟩
set_option maxRecDepth 100000 in
set_option maxHeartbeats 1600000 in
theorem differences_any (B c:Nat) (m:List (List Int)) (v:Value) (w:World) (hv:Mat B 22 3 w v m) (hm1:1≤m.length) (hm:m.length≤1000) (hc1:1≤c) (hc0:c≤1000) (hr:∀r∈m,r.length=c) (hb:∀r∈m,∀z∈r,z.natAbs≤1000000) :
  Calls Tryz.prog 24 #[v] w fun e w'=>∃x,e=.returned x∧Rws w.heap.size 22 3 w' x (diffL m)∧Below w.heap.size w w':=by
 obtain ⟨i0,hi,hz0,hz1,hz2⟩:=info_parts Tryz.info22
 obtain ⟨ao,cap,hvv,hlc,hcm⟩:=mat_open hv
 subst hvv
 have HV:Hid (Mat B 22 3 w (.slice ao m.length cap) m):=hv
 have HRW:Hid (∀r∈m,r.length=c):=hr
 have HBD:Hid (∀r∈m,∀z∈r,z.natAbs≤1000000):=hb
 obtain ⟨b,o,cp,r1,hs,hcl,hcc,hr1⟩:=mat_cell hv (k:=0) (by omega)
 simp only [Value.slice.injEq] at hs
 obtain ⟨rfl,_,rfl⟩:=hs
 have HR0:Hid (Sl B 3 w r1 (ints (m.getD 0 []))):=hr1
 have HC0:Hid (w.cell? ⟨b,o+0,none⟩=some r1):=hcc
 clear hv hr hb hr1 hcc
 have hm1I:(1:Int)≤(m.length:Int):=by omega
 by_cases hm2:m.length=1
 ·have HD:Hid (diffL m=[]):=by
   show _=_
   exact List.eq_nil_of_length_eq_zero (by rw [diffL_length]; omega)
  have hmk:=run_make_room (P:=Tryz.prog) 23 22 (.slice none 0 0) 24 Tryz.underlying23 Tryz.info22 rfl .i64 .i64 0 (by omega) (by omega)
  have hz0N:((0:Nat):Int)=0:=rfl
  rw [hz0N] at hmk
  have HO0:Hid (Rws w.heap.size 22 3 (w.alloc (.cells (madeCells #[.slice none 0 0] 0) 22)) (.slice (some ⟨w.heap.size,0,none⟩) 0 0) []):=
   ⟨[],rfl,World.ownsRow_made w _ 0 (Nat.le_refl _) (by unfold maxLen; omega) (by rw [size_madeCells]),fun i hi=>absurd hi (by simp)⟩
  have HB0:Hid (Below w.heap.size w (w.alloc (.cells (madeCells #[.slice none 0 0] 0) 22))):=(Below.refl _ _).alloc (Nat.le_refl _) _
  have hmi:(m.length:Int)-1=0:=by omega
  clear hz0N
  go_enter Tryz.func24,Tryz.ntmps24
  go_wp2
  all_goals
   go_loopw [3,15] (fun x i wr=>x=.slice (some ⟨w.heap.size,0,none⟩) 0 0∧i=.int .i64 0∧wr=w.alloc (.cells (madeCells #[.slice none 0 0] 0) 22)) (fun _ _ _=>0)
   case atStart=>exact ⟨rfl,rfl,rfl⟩
   case round=>
    obtain ⟨rfl,rfl,rfl⟩:=hrel
    go_wp2
    go_ret
    exact ⟨_,rfl,by rw [HD.out]; exact HO0.out,HB0.out⟩
 ·have hcap:1 < cap:=by omega
  obtain ⟨n1,hn1⟩:∃n1,n1=m.length-1:=⟨_,rfl⟩
  have hmi:(m.length:Int)-1=(n1:Int):=by omega
  have hmk:=run_make_room (P:=Tryz.prog) 23 22 (.slice none 0 0) 24 Tryz.underlying23 Tryz.info22 rfl .i64 .i64 n1 (by omega) (by omega)
  have HO0:Hid (Rws w.heap.size 22 3 (w.alloc (.cells (madeCells #[.slice none 0 0] n1) 22)) (.slice (some ⟨w.heap.size,0,none⟩) 0 n1) []):=
   ⟨[],rfl,World.ownsRow_made w _ n1 (Nat.le_refl _) (by unfold maxLen; omega) (by rw [size_madeCells]; omega),fun i hi=>absurd hi (by simp)⟩
  have HB0:Hid (Below w.heap.size w (w.alloc (.cells (madeCells #[.slice none 0 0] n1) 22))):=(Below.refl _ _).alloc (Nat.le_refl _) _
  have HN1:Hid (n1=m.length-1):=hn1
  clear hn1
  go_enter Tryz.func24,Tryz.ntmps24
  go_wp2
  go_loopw [3,15] (fun x i wr=>∃k:Nat,k≤m.length-1∧i=.int .i64 k∧Rws w.heap.size 22 3 wr x ((diffL m).take k)∧Below w.heap.size w wr) (fun _ i _=>m.length-1-(intOf i).toNat)
  case atStart=>exact ⟨0,Nat.zero_le _,rfl,HO0.out,HB0.out⟩
  case round=>
   obtain ⟨k,hk,rfl,hrw,hbel⟩:=hrel
   obtain ⟨wa,rfl⟩:∃wa,wa=wr:=⟨wr,rfl⟩
   have HR:Hid (Rws w.heap.size 22 3 wa u3 ((diffL m).take k)):=hrw
   have HB:Hid (Below w.heap.size w wa):=hbel
   have hsz:w.heap.size≤wa.heap.size:=hbel.size
   clear hrw hbel
   by_cases hlt:k < m.length-1
   ·obtain ⟨b2,o2,cp2,rk,hs,hck,hcck,hrk⟩:=mat_cell (HV.out.below HB.out (Nat.le_refl _)) (k:=k+1) (by omega)
    simp only [Value.slice.injEq,Option.some.injEq,Addr.mk.injEq,and_true,true_and] at hs
    obtain ⟨⟨rfl,rfl⟩,rfl⟩:=hs
    have hcck':wa.cell? ⟨b,o+1+k,none⟩=some rk:=by rw [show o+1+k=o+(k+1) by omega]; exact hcck
    have HRK:Hid (Sl B 3 wa rk (ints (m.getD (k+1) []))):=hrk
    have hmem1:m.getD (k+1) []∈m:=by simp [show k+1 < m.length by omega]
    have hmem0:m.getD 0 []∈m:=by simp [show 0 < m.length by omega]
    have HL1:Hid ((m.getD (k+1) []).length=c):=HRW.out _ hmem1
    have HL0:Hid ((m.getD 0 []).length=c):=HRW.out _ hmem0
    have HB1:Hid (∀z∈m.getD (k+1) [],z.natAbs≤1000000):=HBD.out _ hmem1
    have HB0:Hid (∀z∈m.getD 0 [],z.natAbs≤1000000):=HBD.out _ hmem0
    have HSN:Hid ((diffL m).take (k+1)=(diffL m).take k ++ [subL (m.getD (k+1) []) (m.getD 0 [])]):=diffL_snoc m k (by omega)
    have HLN:Hid (((diffL m).take k).length=k):=by
     show _=_
     rw [List.length_take,diffL_length]; omega
    clear hcck hrk hmem1 hmem0
    obtain ⟨q1,hq1⟩:∃q1,q1=m.getD (k+1) []:=⟨_,rfl⟩
    obtain ⟨q0,hq0⟩:∃q0,q0=m.getD 0 []:=⟨_,rfl⟩
    rw [←hq1] at HRK HL1 HB1 HSN
    rw [←hq0] at HL0 HB0 HSN HR0
    clear hq1 hq0
    obtain ⟨rko,rkc,hrkv,_,_⟩:=sl_open HRK.out
    subst hrkv
    have hkI:(k:Int) < ((m.length-1:Nat):Int):=by omega
    go_wp2_with fail
    refine (clone_any B q1 _ wa HRK.out (by have:=HL1.out; omega)).mono ?_
    rintro e w2 ⟨u,rfl,ho2,hb2⟩
    rw [HL1.out] at ho2
    obtain ⟨g,uc,hue⟩:=own_some ho2 (by omega)
    subst hue
    obtain ⟨M,hM⟩:∃M,M=wa.heap.size:=⟨_,rfl⟩
    have HM:Hid (M=wa.heap.size):=hM
    have hMs:w.heap.size≤M:=by omega
    have hgM:M≤g:=by rw [hM]; exact (ho2.lt g (by simp [Value.ownBlock])).1
    have hgs:g < w2.heap.size:=(ho2.lt g (by simp [Value.ownBlock])).2
    have HO2:Hid (w2.ownsRow M 3 1 (.slice (some ⟨g,0,none⟩) c uc) c (ints q1)):=by rw [hM]; exact ho2
    have HB2:Hid (Below M wa w2):=by rw [hM]; exact hb2
    have huc:c≤uc∧uc≤9223372036854775807:=by
     obtain ⟨_,h2⟩:=ho2
     rcases h2 with ⟨h,_⟩ | ⟨k,cp,cur,h,_,_,h3,h4,_⟩
     ·simp at h
     ·simp only [Value.slice.injEq] at h; unfold maxLen at h4; omega
    have hbM:b < M:=by rw [hM]; exact Nat.lt_of_lt_of_le (lt_of_cell HC0.out) hsz
    have hcc0:w2.cell? ⟨b,o,none⟩=some r1:=(HB2.out.cell hbM).trans ((HB.out.cell (lt_of_cell HC0.out)).trans HC0.out)
    have HR0w:Hid (Sl B 3 w2 r1 (ints q0)):=(HR0.out.below HB.out (Nat.le_refl _)).below HB2.out (by rw [HM.out]; exact Nat.le_refl _)
    obtain ⟨q0o,q0c,hq0v,hq0l,hq0m⟩:=sl_open HR0.out
    have hl0:=HL0.out
    rw [hl0] at hq0v hq0l
    subst hq0v
    clear ho2 hb2 hM hcck' hl0
    go_wp2
    go_loopw [23] (fun i wq=>∃j:Nat,j≤c∧i=.int .i64 j∧wq.ownsRow M 3 1 (.slice (some ⟨g,0,none⟩) c uc) c (ints ((subL q1 q0).take j ++ q1.drop j))∧Touch g w2 wq) (fun i _=>c-(intOf i).toNat)
    case atStart=>
     refine ⟨0,Nat.zero_le _,rfl,?_,Touch.refl _ _⟩
     rw [List.take_zero,List.drop_zero,List.nil_append]; exact HO2.out
    case round=>
     obtain ⟨j,hj,rfl,hown,ht⟩:=hrel
     have HO:Hid (wr.ownsRow M 3 1 (.slice (some ⟨g,0,none⟩) c uc) c (ints ((subL q1 q0).take j ++ q1.drop j))):=hown
     have HT:Hid (Touch g w2 wr):=ht
     have HLE:Hid (q1.length=(subL q1 q0).length):=(subL_length _ _).symm
     by_cases hjl:j < c
     ·have hj1:j < q1.length:=by have:=HL1.out; omega
      have hcj:wr.cell? ⟨g,j,none⟩=some (.int .i64 (q1.getD j 0)):=by
       rw [hown.cellAt j (by omega),ints_get _ _ (by simp [subL_length]; omega),mix_at HLE.out hj1]
      obtain ⟨b3,o3,cp3,hs3,_,hcc3⟩:=sl_cell HR0w.out (k:=j) (by have:=HL0.out; omega)
      simp only [Value.slice.injEq] at hs3
      obtain ⟨rfl,_,rfl⟩:=hs3
      have hb3:b3≠g:=by
       obtain ⟨b4,o4,cp4,hs4,_,hcc4⟩:=sl_cell HR0.out (k:=j) (by have:=HL0.out; omega)
       simp only [Value.slice.injEq,Option.some.injEq,Addr.mk.injEq,and_true] at hs4
       have:=lt_of_cell hcc4
       omega
      have hcc3':wr.cell? ⟨b3,o3+j,none⟩=some (.int .i64 (q0.getD j 0)):=(ht.cell hb3).trans hcc3
      have hcc0':wr.cell? ⟨b,o,none⟩=some (.slice (some ⟨b3,o3,none⟩) c q0c):=(ht.cell (by show b≠g; omega)).trans hcc0
      have hfz:=hown.frozenAt j
      have HST:Hid (ints ((subL q1 q0).take (j+1) ++ q1.drop (j+1))=(ints ((subL q1 q0).take j ++ q1.drop j)).set j (.int .i64 (q1.getD j 0-q0.getD j 0))):=by
       show _=_
       rw [set_mix HLE.out hj1,subL_at hj1]
      have h1b:(q1.getD j 0).natAbs≤1000000:=HB1.out _ (by simp [hj1])
      have h0b:(q0.getD j 0).natAbs≤1000000:=HB0.out _ (by simp [show j < q0.length by have:=HL0.out; omega])
      generalize q1.getD j 0=x1 at *
      generalize q0.getD j 0=x0 at *
      clear hown ht hcc3 hj1
      have hjI0:(0:Int)≤(j:Int):=by omega
      have hjI1:(j:Int) < (c:Int):=by omega
      have h1b1 : -1000000≤x1:=by omega
      have h1b2:x1≤1000000:=by omega
      have h0b1 : -1000000≤x0:=by omega
      have h0b2:x0≤1000000:=by omega
      clear h1b h0b
      go_wp2
      go_region
      go_wp2
      go_roundw
      case rel=>
       refine ⟨j+1,by omega,by go_num,?_,(HT.out.setCell j _).drew⟩
       rw [HST.out]
       exact (HO.out.stored j _).1.drew
      case measure=>simp [intOf]; omega
     ·have HX:Hid (Sl w.heap.size 3 wr (.slice (some ⟨g,0,none⟩) c uc) (ints (subL q1 q0))):=by
       have h:=HO.out
       rw [mix_end HLE.out (by have:=HL1.out; omega)] at h
       exact Sl.own h
      have HRq:Hid (Rws w.heap.size 22 3 wr u3 ((diffL m).take k)):=by
       exact HR.out.below (HT.out.below HB2.out hgM) (by rw [HM.out]; exact Nat.le_refl _)
      have HBw:Hid (Below w.heap.size w wr):=HB.out.trans ((HT.out.below HB2.out hgM).mono hMs)
      obtain ⟨vs,g1,g2,g3⟩:=HRq.out
      have hlen:=HLN.out
      rw [hlen] at g1 g2 g3
      have G1:Hid (vs.length=k):=g1
      have G2:Hid (wr.ownsRow w.heap.size 22 1 u3 k vs):=g2
      have G3:Hid (∀i,i < k→Sl w.heap.size 3 wr (vs.getD i (.slice none 0 0)) (ints (((diffL m).take k).getD i []))):=g3
      have hszr:w.heap.size≤wr.heap.size:=HBw.out.size
      clear g1 g2 g3 hlen HO hown ht
      go_wp2_with (first | (at_builtin; refine wpList_append_own _ rfl _ _ 23 rfl w.heap.size 22 i0 (.slice none 0 0) 1 24 Tryz.underlying23 hi hz0 hz1 hz2 rfl (by decide) _ _ _ rfl (G2.out.alloc _) ⟨wr.heap.size,0,none⟩ 1 1 [.slice (some ⟨g,0,none⟩) c uc] rfl rfl (one_new _ _ _) (one_slice _ _ _) ?d3 ?d4 ?d5 ?_))
      case d3=>unfold maxLen; omega
      case d4=>omega
      case d5=>simp; omega
      intro v' w3 ho hg _
      have R1:Hid (Rws w.heap.size 22 3 w3 v' ((diffL m).take (k+1))):=by
       have hp:=Rws.push (e2:=22) (e1:=3) (m:=(diffL m).take k) (u:=.slice (some ⟨g,0,none⟩) c uc) (zs:=subL q1 q0) (by decide) (by rw [HLN.out]; exact G1.out) (by rw [HLN.out]; exact G2.out.alloc _)
        (fun i hi=>(G3.out i (by rw [HLN.out] at hi; exact hi)).alloc _) (HX.out.alloc _) (by rw [HLN.out]; exact ho) hg
       rw [←HSN.out] at hp
       exact hp
      have R2:Hid (Below w.heap.size w w3):=(HBw.out.alloc (by omega) _).grown hg (by simp; omega) (fun x hx=>(G2.out.lt x hx).1)
      clear ho hg
      go_wp2
      go_roundw
      case rel=>exact ⟨k+1,by omega,by go_num,R1.out,R2.out⟩
      case measure=>simp [intOf]; omega
   ·have hkm:k=m.length-1:=by omega
    have HE:Hid ((diffL m).take k=diffL m):=by
     show _=_
     exact List.take_of_length_le (by rw [diffL_length]; omega)
    go_wp2
    go_ret
    exact ⟨_,rfl,by rw [←HE.out]; exact HR.out,HB.out⟩
end Go.Proofs.YtadpjlpdfimaeaaGreatDoor

namespace Go.Proofs.YtadpjlpdfimaeaaGreatDoor
open Go.RowKit
attribute [local go_sem ↓] Go.wp_at_zero Go.wp_at_succ
def In64 (z:Int):Prop:=-9223372036854775808≤z∧z≤9223372036854775807
set_option maxRecDepth 100000 in
set_option maxHeartbeats 400000 in
theorem pick_any (c n:Int) (w:World) (h1:1≤n) (h2:n≤4611686018427387904) (hc:In64 c) :
  Calls Tryz.prog 5 #[.int .i64 c,.int .i64 n] w fun e w'=>∃z,e=.returned (.int .i64 z)∧(0≤z∧z < n)∧w'=w:=by
 have c0 : -9223372036854775808≤c:=hc.1
 have c1:c≤9223372036854775807:=hc.2
 clear hc
 have hn0:¬n=0:=by omega
 by_cases hcn:c < 0
 ·have e0:(-(c+1)).tmod n=(-(c+1)) % n:=Int.tmod_eq_emod_of_nonneg (by omega)
  have e1:=Int.emod_nonneg (-(c+1)) hn0
  have e2:=Int.emod_lt_of_pos (-(c+1)) (show 0 < n by omega)
  go_enter Tryz.func5,Tryz.ntmps5
  go_wp2
  go_ret
  exact ⟨_,rfl,⟨e1,e2⟩,rfl⟩
 ·have e0:c.tmod n=c % n:=Int.tmod_eq_emod_of_nonneg (by omega)
  have e1:=Int.emod_nonneg c hn0
  have e2:=Int.emod_lt_of_pos c (show 0 < n by omega)
  go_enter Tryz.func5,Tryz.ntmps5
  go_wp2
  go_ret
  exact ⟨_,rfl,⟨e1,e2⟩,rfl⟩
theorem step_call2 {P:Program} {ops:Array Oper} {o:Oper} {a:Act} {w:World} {K:Act→World→Prop} {Q:Exit→Act→World→Prop} {E:Prop}
  (hg : o.guard = none) (f : FuncId) (x y : Operand) (t s : TypeId) (hop : o.op = Op.call { callee := Callee.value (Operand.func f), args := #[x, y], argTypes := #[t, s] }) (v u : Value) (hv : a.eval x = v) (hu : a.eval y = u) (hf : ∃ fn, P.funcs[f]? = some fn ∧ (fn.name == "runtime.NumGoroutine") = false ∧ fn.body.isNone = false)
  (hc:Calls P f #[v,u] w fun e w'=>∃u,e=.returned u∧K (a.put o.dst u) w') :
  if Region.wanted o (yielded ops a.tmps)=true then Oper.wp P o a w K Q else E:=by
 have hw:Region.wanted o (yielded ops a.tmps)=true:=by simp [Region.wanted,hg]
 rw [if_pos hw]
 unfold Oper.wp
 obtain ⟨fn,f1,f2,f3⟩:=hf
 have e:(execOp a.eval o).run P w=.ok (.enter f #[v,u]) w:=by
  have hfn:a.eval (Operand.func f)=Value.func (Fn.func f) #[] #[]:=rfl
  have hcf:(callFunc f #[v,u]).run P w=.ok (.enter f #[v,u]) w:=by
   unfold callFunc
   have g2 : ¬ fn.name = "runtime.NumGoroutine" := by simpa using f2
   have g3:¬fn.body=none:=by intro e; rw [e] at f3; simp at f3
   simp [f1,g2,g3]
  unfold execOp
  rw [hop]
  simp [resolve,invoke,hv,hu,hfn,Deferred.ofValue,hcf]
 rw [e,Oper.upon_enter]
 refine hc.mono ?_
 rintro e w' ⟨u,rfl,h⟩
 exact h
set_option maxRecDepth 100000 in
set_option maxHeartbeats 400000 in
theorem raw_any (B:Nat) (l:List Int) (v:Value) (i:Nat) (w:World) (hv:Sl B 3 w v (ints l)) (hr:∀z∈l,In64 z) (hl:l.length≤1000000) (hi:i≤1000000) :
  Calls Tryz.prog 15 #[v,.int .i64 i] w fun e w'=>∃z,e=.returned (.int .i64 z)∧(0≤z∧z≤4611686018427387904)∧Below w.heap.size w w':=by
 obtain ⟨ao,cap,hvv,hlc,hcm⟩:=sl_open hv
 subst hvv
 by_cases h0:l.length=0
 ·rw [h0]
  clear hv
  go_enter Tryz.func15,Tryz.ntmps15
  go_wp2
  go_ret
  exact ⟨_,rfl,by omega,Below.refl _ _⟩
 ·have hk:i % l.length < l.length:=Nat.mod_lt _ (by omega)
  obtain ⟨b,o,cp,hs,hc,hcc⟩:=sl_cell hv hk
  simp only [Value.slice.injEq] at hs
  obtain ⟨rfl,_,rfl⟩:=hs
  have hmem:l.getD (i % l.length) 0∈l:=by simp [hk]
  have hin:In64 (l.getD (i % l.length) 0):=hr _ hmem
  have HP:Hid (Calls Tryz.prog 5 #[.int .i64 (l.getD (i % l.length) 0),.int .i64 1000003] w.drew fun e w'=>∃z,e=.returned (.int .i64 z)∧(0≤z∧z < 1000003)∧w'=w.drew):=pick_any _ _ _ (by omega) (by omega) hin
  generalize hz:l.getD (i % l.length) 0=z0 at *
  have hd0:i / l.length≤1000000:=Nat.le_trans (Nat.div_le_self _ _) hi
  have hq:(i:Int).tmod (l.length:Int)=((i % l.length:Nat):Int):=by rw [Int.tmod_eq_emod_of_nonneg (by omega)]; rfl
  have hqd:(i:Int).tdiv (l.length:Int)=((i / l.length:Nat):Int):=by rw [Int.tdiv_eq_ediv_of_nonneg (by omega)]; rfl
  clear hv hr hmem hin hz
  generalize i % l.length=k at *
  generalize i / l.length=q at *
  generalize l.length=n at *
  have hn0:¬(n:Int)=0:=by omega
  have hnb:((n:Int) == 0)=false:=by rw [beq_eq_false_iff_ne]; exact hn0
  have hk0:(0:Int)≤(k:Int):=by omega
  have hkn:(k:Int) < (n:Int):=by omega
  go_enter Tryz.func15,Tryz.ntmps15
  go_wp2
  go_region_law (refine step_call2 (o:={ dst:=some 17,op:=_,type:=_,pos:=_,after:=_,guard:=_ }) (by rfl) 5 _ _ 3 3 (by rfl) _ _ (by rfl) (by rfl) ⟨_,Tryz.func5,by rfl,by rfl⟩ ?_; refine (HP.out).mono ?_; rintro e w2 ⟨z,rfl,hz,rfl⟩; refine ⟨_,rfl,?_⟩; have hz1:=hz.1; have hz2:=hz.2; clear hz)
  all_goals
   have e1:IntKind.i64.wrap (z+IntKind.i64.wrap (IntKind.i64.wrap (q:Int)*7919))=z+q*7919:=by
    rw [IntWalk.i64_left,IntWalk.i64_left,IntWalk.i64_left,IntWalk.wrap64_in (q:Int) ⟨by omega,by omega⟩,IntWalk.wrap64_in ((q:Int)*7919) ⟨by omega,by omega⟩,IntWalk.wrap64_in _ ⟨by omega,by omega⟩]
   go_wp2
   go_ret
   exact ⟨_,rfl,by rw [e1]; omega,Below.drew (Below.refl _ _)⟩
def Box (n wd:Nat) (m:List (List Int)):Prop:=∀r∈m,r.length=n∧∀z∈r,-(wd:Int)≤z∧z≤wd
theorem Box.snoc {n wd:Nat} {m:List (List Int)} {r:List Int} (h:Box n wd m) (h1:r.length=n) (h2:∀z∈r,-(wd:Int)≤z∧z≤wd):Box n wd (m ++ [r]):=by
 intro x hx
 simp only [List.mem_append,List.mem_singleton] at hx
 rcases hx with hx | rfl
 ·exact h x hx
 ·exact ⟨h1,h2⟩
theorem near_snoc {wd:Nat} {r:List Int} {z:Int} (h:∀z∈r,-(wd:Int)≤z∧z≤wd) (h0 : -(wd:Int)≤z∧z≤wd):∀x∈r ++ [z],-(wd:Int)≤x∧x≤wd:=by
 intro x hx
 simp only [List.mem_append,List.mem_singleton] at hx
 rcases hx with hx | rfl
 ·exact h x hx
 ·exact h0
set_option maxRecDepth 100000 in
set_option maxHeartbeats 1600000 in
theorem pointsOf_any (B:Nat) (l:List Int) (v:Value) (fr n many wd:Nat) (w:World) (hv:Sl B 3 w v (ints l)) (hr:∀z∈l,In64 z) (hl:l.length≤1000000) (hfr:fr≤1000) (hn:n≤100) (hmy:many≤100) (hwd:wd≤1000000) :
  Calls Tryz.prog 9 #[v,.int .i64 fr,.int .i64 n,.int .i64 many,.int .i64 wd] w fun e w'=>∃x m,e=.returned x∧m.length=many∧Box n wd m∧Fr w.heap.size 22 3 w' x m∧Below w.heap.size w w':=by
 obtain ⟨i0,hi,hz0,hz1,hz2⟩:=info_parts Tryz.info22
 obtain ⟨i3,hi3,hz30,hz31,hz32⟩:=info_parts Tryz.info3
 obtain ⟨ao,cap,hvv,hlc,hcm⟩:=sl_open hv
 subst hvv
 have HV:Hid (Sl B 3 w (.slice ao l.length cap) (ints l)):=hv
 have HR:Hid (∀z∈l,In64 z):=hr
 have HLL:Hid (l.length≤1000000):=hl
 clear hv hr hl
 go_enter Tryz.func9,Tryz.ntmps9
 go_wp2
 go_loopw [11,12] (fun x i wr=>∃(k:Nat) (m:List (List Int)),k≤many∧i=.int .i64 k∧m.length=k∧Box n wd m∧Fr w.heap.size 22 3 wr x m∧Below w.heap.size w wr) (fun _ i _=>many-(intOf i).toNat)
 case atStart=>exact ⟨0,[],Nat.zero_le _,rfl,rfl,(fun r hr=>absurd hr (by simp)),Fr.nil _ _ _ _,Below.refl _ _⟩
 case round=>
  obtain ⟨k,m,hk,rfl,hml,hbx,hrw,hbel⟩:=hrel
  obtain ⟨wa,rfl⟩:∃wa,wa=wr:=⟨wr,rfl⟩
  have HML:Hid (m.length=k):=hml
  have HBX:Hid (Box n wd m):=hbx
  have HRW:Hid (Fr w.heap.size 22 3 wa u11 m):=hrw
  have HB:Hid (Below w.heap.size w wa):=hbel
  have hsz:w.heap.size≤wa.heap.size:=hbel.size
  clear hrw hbel hml hbx
  by_cases hlt:k < many
  ·have HVa:Hid (Sl B 3 wa (.slice ao l.length cap) (ints l)):=HV.out.below HB.out (Nat.le_refl _)
   have hkn:k*n≤10000:=Nat.le_trans (Nat.mul_le_mul (show k≤100 by omega) hn) (by decide)
   obtain ⟨kn,hkne⟩:∃kn,kn=k*n:=⟨_,rfl⟩
   have hkI:(k:Int)*(n:Int)=(kn:Int):=by rw [hkne]; simp
   rw [←hkne] at hkn
   clear hkne
   obtain ⟨M,hM⟩:∃M,M=wa.heap.size:=⟨_,rfl⟩
   have HM:Hid (M=wa.heap.size):=hM
   have hMs:w.heap.size≤M:=by omega
   clear hM
   go_wp2
   go_loopw [13,14] (fun x i wq=>∃(j:Nat) (r:List Int),j≤n∧i=.int .i64 j∧r.length=j∧(∀z∈r,-(wd:Int)≤z∧z≤wd)∧wq.ownsRow M 3 1 x j (ints r)∧Below M wa wq) (fun _ i _=>n-(intOf i).toNat)
   case atStart=>exact ⟨0,[],Nat.zero_le _,rfl,rfl,(fun r hr=>absurd hr (by simp)),World.ownsRow_nil _ _ _ _,Below.refl _ _⟩
   case round=>
    obtain ⟨j,r,hj,rfl,hrl,hrb,hown,hbel⟩:=hrel
    obtain ⟨wb,rfl⟩:∃wb,wb=wr:=⟨wr,rfl⟩
    have HO:Hid (wb.ownsRow M 3 1 u13 j (ints r)):=hown
    have HBq:Hid (Below M wa wb):=hbel
    have HRL:Hid (r.length=j):=hrl
    have HRB:Hid (∀z∈r,-(wd:Int)≤z∧z≤wd):=hrb
    have hszq:M≤wb.heap.size:=by have:=hbel.size; rw [HM.out]; exact this
    clear hown hbel hrl hrb
    obtain ⟨xo,xc,hxv⟩:=owns_form HO.out
    subst hxv
    by_cases hjl:j < n
    ·have HVb:Hid (Sl B 3 wb (.slice ao l.length cap) (ints l)):=HVa.out.below HBq.out (by rw [HM.out]; exact Nat.le_refl _)
     have HIX:Hid ((fr:Int)+kn+j=((fr+kn+j:Nat):Int)):=by
      show _=_
      omega
     go_wp2_with fail
     rw [HIX.out]
     refine (raw_any B l _ (fr+kn+j) wb HVb.out HR.out HLL.out (by omega)).mono ?_
     rintro e w1 ⟨c,rfl,hc,hb1⟩
     have HC:Hid (In64 c):=⟨by have:=hc.1; omega,by have:=hc.2; omega⟩
     have HB1:Hid (Below wb.heap.size wb w1):=hb1
     clear hc hb1
     go_wp2_with fail
     refine (pick_any c (2*(wd:Int)+1) w1 (by omega) (by omega) HC.out).mono ?_
     rintro e w2 ⟨z,rfl,hz,rfl⟩
     have hz1:=hz.1
     have hz2:=hz.2
     have HZ:Hid (-(wd:Int)≤z-wd∧z-wd≤wd):=⟨by omega,by omega⟩
     have hzI : -1000000≤z-wd:=by omega
     have hzJ:z-wd≤1000000:=by omega
     have HO1:Hid (w2.ownsRow M 3 1 (.slice xo j xc) j (ints r)):=owns_below HO.out HB1.out (Nat.le_refl _)
     have HBq1:Hid (Below M wa w2):=HBq.out.trans (HB1.out.mono hszq)
     have hsz2:M≤w2.heap.size:=Nat.le_trans hszq HB1.out.size
     clear hz HO HBq HB1 HC
     go_wp2_with (first | (at_builtin; refine wpList_append_own _ rfl _ _ 22 rfl M 3 i3 (.int .i64 0) 1 8 Tryz.underlying22 hi3 hz30 hz31 hz32 rfl (by decide) _ _ _ rfl (HO1.out.alloc _) ⟨w2.heap.size,0,none⟩ 1 1 [.int .i64 (z-wd)] rfl rfl (one_new _ _ _) (one_int _) ?c3 ?c4 ?c5 ?_))
     case c3=>unfold maxLen; omega
     case c4=>omega
     case c5=>simp; omega
     intro v' w3 ho hg _
     have R:=owns_push (z:=z-wd) (N:=j+1) hsz2 (l:=r) (by rw [HRL.out]; exact HO1.out) HBq1.out (by rw [HRL.out]; exact ho) hg (by rw [HRL.out])
     have R1:Hid (w3.ownsRow M 3 1 v' (j+1) (ints (r ++ [z-wd]))):=R.1
     have R2:Hid (Below M wa w3):=R.2
     clear R ho hg
     go_wp2
     go_roundw
     case rel=>exact ⟨j+1,r ++ [z-wd],by omega,by go_num,by simp [HRL.out],near_snoc HRB.out HZ.out,R1.out,R2.out⟩
     case measure=>simp [intOf]; omega
    ·have hjn:j=n:=by omega
     subst hjn
     have HX:Hid (Sl 0 3 wb (.slice xo j xc) (ints r)):=Sl.own HO.out
     have HRq:Hid (Fr w.heap.size 22 3 wb u11 m):=HRW.out.below HBq.out (by rw [HM.out]; exact Nat.le_refl _)
     have HBw:Hid (Below w.heap.size w wb):=HB.out.trans (HBq.out.mono hMs)
     obtain ⟨vs,g1,g2,g3⟩:=HRq.out
     have hml:=HML.out
     rw [hml] at g1 g2 g3
     have G1:Hid (vs.length=k):=g1
     have G2:Hid (wb.ownsRow w.heap.size 22 1 u11 k vs):=g2
     have G3:Hid (∀i,i < k→Sl 0 3 wb (vs.getD i (.slice none 0 0)) (ints (m.getD i []))):=g3
     clear g1 g2 g3 hml HO hjl
     go_wp2_with (first | (at_builtin; refine wpList_append_own _ rfl _ _ 23 rfl w.heap.size 22 i0 (.slice none 0 0) 1 24 Tryz.underlying23 hi hz0 hz1 hz2 rfl (by decide) _ _ _ rfl (G2.out.alloc _) ⟨wb.heap.size,0,none⟩ 1 1 [.slice xo j xc] rfl rfl (one_new _ _ _) (one_slice _ _ _) ?d3 ?d4 ?d5 ?_))
     case d3=>unfold maxLen; omega
     case d4=>omega
     case d5=>simp; omega
     intro v' w3 ho hg _
     have R1:Hid (Fr w.heap.size 22 3 w3 v' (m ++ [r])):=
      Fr.push (e2:=22) (e1:=3) (m:=m) (u:=.slice xo j xc) (zs:=r) (by decide) (by rw [HML.out]; exact G1.out) (by rw [HML.out]; exact G2.out.alloc _)
       (fun i hi=>(G3.out i (by rw [HML.out] at hi; exact hi)).alloc _) (HX.out.alloc _) (by rw [HML.out]; exact ho) hg
     have R2:Hid (Below w.heap.size w w3):=(HBw.out.alloc (by omega) _).grown hg (by simp; omega) (fun x hx=>(G2.out.lt x hx).1)
     clear ho hg
     go_wp2
     go_roundw
     case rel=>exact ⟨k+1,m ++ [r],by omega,by go_num,by simp [HML.out],HBX.out.snoc HRL.out HRB.out,R1.out,R2.out⟩
     case measure=>simp [intOf]; omega
  ·have hkm:k=many:=by omega
   subst hkm
   clear hlt
   go_wp2
   go_ret
   exact ⟨_,m,rfl,HML.out,HBX.out,HRW.out,HB.out⟩
end Go.Proofs.YtadpjlpdfimaeaaGreatDoor
