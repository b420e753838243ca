import Derived.Test.YtdanomklbiidaaaGreatDoorRun9
import Derived.Lib.JoinLaws
import Derived.Test.YtdanomklbiidaaaGreatDoorMgAE
import Derived.Test.YtdanomklbiidaaaGreatDoorMgAB
import Derived.Test.YtdanomklbiidaaaGreatDoorLinAll
import Derived.Test.YtdanomklbiidaaaGreatDoorMgAG
import Derived.Test.YtdanomklbiidaaaGreatDoorMgAA
import Derived.Maps.AppendAt
import Derived.Test.YtdanomklbiidaaaGreatDoorMgAH
namespace Go.Proofs.YtdanomklbiidaaaGreatDoor
open Go.RowKit
attribute [local go_sem ↓] Go.wp_at_zero Go.wp_at_succ
def subL (r b:List Int):List Int:=(List.range r.length).map fun i=>r.getD i 0-b.getD i 0
def diffL (m:List (List Int)):List (List Int):=(m.drop 1).map fun r=>subL r (m.getD 0 [])
theorem subL_length (r b:List Int):(subL r b).length=r.length:=by simp [subL]
theorem diffL_length (m:List (List Int)):(diffL m).length=m.length-1:=by simp [diffL]
theorem subL_at {r b:List Int} {k:Nat} (h:k < r.length):(subL r b).getD k 0=r.getD k 0-b.getD k 0:=by simp [subL,h]
theorem diffL_snoc (m:List (List Int)) (k:Nat) (h:k+1 < m.length):(diffL m).take (k+1)=(diffL m).take k ++ [subL (m.getD (k+1) []) (m.getD 0 [])]:=by
 rw [List.take_succ_eq_append_getElem (by rw [diffL_length]; omega)]
 have e:(diffL m)[k]'(by rw [diffL_length]; omega)=subL (m.getD (k+1) []) (m.getD 0 []):=by
  have h1:m[1+k]?=some (m[1+k]'(by omega)):=List.getElem?_eq_getElem (by omega)
  simp only [diffL,List.getElem_map,List.getElem_drop,List.getD_eq_getElem?_getD]
  rw [show k+1=1+k by omega,h1]; rfl
 rw [e]
theorem set_mix {r nr:List Int} {k:Nat} (hl:r.length=nr.length) (hk:k < r.length):ints (nr.take (k+1) ++ r.drop (k+1))=(ints (nr.take k ++ r.drop k)).set k (.int .i64 (nr.getD k 0)):=by
 apply List.ext_getElem?
 intro i
 rw [List.getElem?_set,ints_length]
 simp only [ints,List.getElem?_map]
 by_cases hik:i < k
 ·rw [List.getElem?_append_left (by simp; omega),List.getElem?_append_left (by simp; omega),if_neg (by omega)]
  simp [hik,show i < k+1 by omega]
 ·by_cases hik2:i=k
  ·subst hik2
   rw [List.getElem?_append_left (by simp; omega),if_pos rfl,if_pos (by simp; omega)]
   simp [show i < nr.length by omega]
  ·rw [List.getElem?_append_right (by simp; omega),List.getElem?_append_right (by simp; omega),if_neg (by omega)]
   simp only [List.length_take,List.getElem?_drop]
   rw [show k+1+(i-min (k+1) nr.length)=i by omega,show k+(i-min k nr.length)=i by omega]
theorem mix_at {r nr:List Int} {k:Nat} (hl:r.length=nr.length) (hk:k < r.length):(nr.take k ++ r.drop k).getD k 0=r.getD k 0:=by
 simp only [List.getD_eq_getElem?_getD]; rw [List.getElem?_append_right (by simp; omega)]; simp [show k-min k nr.length=0 by omega]
theorem mix_end {r nr:List Int} {k:Nat} (hl:r.length=nr.length) (hk:r.length≤k):nr.take k ++ r.drop k=nr:=by
 rw [List.take_of_length_le (by omega),List.drop_eq_nil_of_le (by omega),List.append_nil]
theorem Touch.below {g M:Nat} {w w2 wr:World} (h:Touch g w2 wr) (hb:Below M w w2) (hg:M≤g):Below M w wr:=
 ⟨h.os.trans hb.os,h.tape.trans hb.tape,h.output.trans hb.output,by rw [h.size]; exact hb.size,fun b hlt=>(h.block b (by omega)).trans (hb.block b hlt)⟩
set_option maxRecDepth 100000 in
set_option maxHeartbeats 1600000 in
theorem differences_any (B c:Nat) (m:List (List Int)) (v:Value) (w:World) (hv:Mat B 22 3 w v m) (hm1:1≤m.length) (hm:m.length≤1000) (hc1:1≤c) (hc0:c≤1000) (hr:∀r∈m,r.length=c) (hb:∀r∈m,∀z∈r,z.natAbs≤1000000) :
  Calls Tryz.prog 40 #[v] w fun e w'=>∃x,e=.returned x∧Rws w.heap.size 22 3 w' x (diffL m)∧Below w.heap.size w w':=by
 obtain ⟨i0,hi,hz0,hz1,hz2⟩:=info_parts Tryz.info22
 obtain ⟨ao,cap,hvv,hlc,hcm⟩:=mat_open hv
 subst hvv
 have HV:Hid (Mat B 22 3 w (.slice ao m.length cap) m):=hv
 have HRW:Hid (∀r∈m,r.length=c):=hr
 have HBD:Hid (∀r∈m,∀z∈r,z.natAbs≤1000000):=hb
 obtain ⟨b,o,cp,r1,hs,hcl,hcc,hr1⟩:=mat_cell hv (k:=0) (by omega)
 simp only [Value.slice.injEq] at hs
 obtain ⟨rfl,_,rfl⟩:=hs
 have HR0:Hid (Sl B 3 w r1 (ints (m.getD 0 []))):=hr1
 have HC0:Hid (w.cell? ⟨b,o+0,none⟩=some r1):=hcc
 clear hv hr hb hr1 hcc
 have hm1I:(1:Int)≤(m.length:Int):=by omega
 by_cases hm2:m.length=1
 ·have HD:Hid (diffL m=[]):=by
   show _=_
   exact List.eq_nil_of_length_eq_zero (by rw [diffL_length]; omega)
  have hmk:=run_make_room (P:=Tryz.prog) 23 22 (.slice none 0 0) 24 Tryz.underlying23 Tryz.info22 rfl .i64 .i64 0 (by omega) (by omega)
  have hz0N:((0:Nat):Int)=0:=rfl
  rw [hz0N] at hmk
  have HO0:Hid (Rws w.heap.size 22 3 (w.alloc (.cells (madeCells #[.slice none 0 0] 0) 22)) (.slice (some ⟨w.heap.size,0,none⟩) 0 0) []):=
   ⟨[],rfl,World.ownsRow_made w _ 0 (Nat.le_refl _) (by unfold maxLen; omega) (by rw [size_madeCells]),fun i hi=>absurd hi (by simp)⟩
  have HB0:Hid (Below w.heap.size w (w.alloc (.cells (madeCells #[.slice none 0 0] 0) 22))):=(Below.refl _ _).alloc (Nat.le_refl _) _
  have hmi:(m.length:Int)-1=0:=by omega
  clear hz0N
  go_enter Tryz.func40,Tryz.ntmps40
  go_wp2
  all_goals
   go_loopw [3,15] (fun x i wr=>x=.slice (some ⟨w.heap.size,0,none⟩) 0 0∧i=.int .i64 0∧wr=w.alloc (.cells (madeCells #[.slice none 0 0] 0) 22)) (fun _ _ _=>0)
   case atStart=>exact ⟨rfl,rfl,rfl⟩
   case round=>
    obtain ⟨rfl,rfl,rfl⟩:=hrel
    go_wp2
    go_ret
    exact ⟨_,rfl,by rw [HD.out]; exact HO0.out,HB0.out⟩
 ·have hcap:1 < cap:=by omega
  obtain ⟨n1,hn1⟩:∃n1,n1=m.length-1:=⟨_,rfl⟩
  have hmi:(m.length:Int)-1=(n1:Int):=by omega
  have hmk:=run_make_room (P:=Tryz.prog) 23 22 (.slice none 0 0) 24 Tryz.underlying23 Tryz.info22 rfl .i64 .i64 n1 (by omega) (by omega)
  have HO0:Hid (Rws w.heap.size 22 3 (w.alloc (.cells (madeCells #[.slice none 0 0] n1) 22)) (.slice (some ⟨w.heap.size,0,none⟩) 0 n1) []):=
   ⟨[],rfl,World.ownsRow_made w _ n1 (Nat.le_refl _) (by unfold maxLen; omega) (by rw [size_madeCells]; omega),fun i hi=>absurd hi (by simp)⟩
  have HB0:Hid (Below w.heap.size w (w.alloc (.cells (madeCells #[.slice none 0 0] n1) 22))):=(Below.refl _ _).alloc (Nat.le_refl _) _
  have HN1:Hid (n1=m.length-1):=hn1
  clear hn1
  go_enter Tryz.func40,Tryz.ntmps40
  go_wp2
  go_loopw [3,15] (fun x i wr=>∃k:Nat,k≤m.length-1∧i=.int .i64 k∧Rws w.heap.size 22 3 wr x ((diffL m).take k)∧Below w.heap.size w wr) (fun _ i _=>m.length-1-(intOf i).toNat)
  case atStart=>exact ⟨0,Nat.zero_le _,rfl,HO0.out,HB0.out⟩
  case round=>
   obtain ⟨k,hk,rfl,hrw,hbel⟩:=hrel
   obtain ⟨wa,rfl⟩:∃wa,wa=wr:=⟨wr,rfl⟩
   have HR:Hid (Rws w.heap.size 22 3 wa u3 ((diffL m).take k)):=hrw
   have HB:Hid (Below w.heap.size w wa):=hbel
   have hsz:w.heap.size≤wa.heap.size:=hbel.size
   clear hrw hbel
   by_cases hlt:k < m.length-1
   ·obtain ⟨b2,o2,cp2,rk,hs,hck,hcck,hrk⟩:=mat_cell (HV.out.below HB.out (Nat.le_refl _)) (k:=k+1) (by omega)
    simp only [Value.slice.injEq,Option.some.injEq,Addr.mk.injEq,and_true,true_and] at hs
    obtain ⟨⟨rfl,rfl⟩,rfl⟩:=hs
    have hcck':wa.cell? ⟨b,o+1+k,none⟩=some rk:=by rw [show o+1+k=o+(k+1) by omega]; exact hcck
    have HRK:Hid (Sl B 3 wa rk (ints (m.getD (k+1) []))):=hrk
    have hmem1:m.getD (k+1) []∈m:=by simp [show k+1 < m.length by omega]
    have hmem0:m.getD 0 []∈m:=by simp [show 0 < m.length by omega]
    have HL1:Hid ((m.getD (k+1) []).length=c):=HRW.out _ hmem1
    have HL0:Hid ((m.getD 0 []).length=c):=HRW.out _ hmem0
    have HB1:Hid (∀z∈m.getD (k+1) [],z.natAbs≤1000000):=HBD.out _ hmem1
    have HB0:Hid (∀z∈m.getD 0 [],z.natAbs≤1000000):=HBD.out _ hmem0
    have HSN:Hid ((diffL m).take (k+1)=(diffL m).take k ++ [subL (m.getD (k+1) []) (m.getD 0 [])]):=diffL_snoc m k (by omega)
    have HLN:Hid (((diffL m).take k).length=k):=by
     show _=_
     rw [List.length_take,diffL_length]; omega
    clear hcck hrk hmem1 hmem0
    obtain ⟨q1,hq1⟩:∃q1,q1=m.getD (k+1) []:=⟨_,rfl⟩
    obtain ⟨q0,hq0⟩:∃q0,q0=m.getD 0 []:=⟨_,rfl⟩
    rw [←hq1] at HRK HL1 HB1 HSN
    rw [←hq0] at HL0 HB0 HSN HR0
    clear hq1 hq0
    obtain ⟨rko,rkc,hrkv,_,_⟩:=sl_open HRK.out
    subst hrkv
    have hkI:(k:Int) < ((m.length-1:Nat):Int):=by omega
    go_wp2_with fail
    refine (clone_any B q1 _ wa HRK.out (by have:=HL1.out; omega)).mono ?_
    rintro e w2 ⟨u,rfl,ho2,hb2⟩
    rw [HL1.out] at ho2
    obtain ⟨g,uc,hue⟩:=own_some ho2 (by omega)
    subst hue
    obtain ⟨M,hM⟩:∃M,M=wa.heap.size:=⟨_,rfl⟩
    have HM:Hid (M=wa.heap.size):=hM
    have hMs:w.heap.size≤M:=by omega
    have hgM:M≤g:=by rw [hM]; exact (ho2.lt g (by simp [Value.ownBlock])).1
    have hgs:g < w2.heap.size:=(ho2.lt g (by simp [Value.ownBlock])).2
    have HO2:Hid (w2.ownsRow M 3 1 (.slice (some ⟨g,0,none⟩) c uc) c (ints q1)):=by rw [hM]; exact ho2
    have HB2:Hid (Below M wa w2):=by rw [hM]; exact hb2
    have huc:c≤uc∧uc≤9223372036854775807:=by
     obtain ⟨_,h2⟩:=ho2
     rcases h2 with ⟨h,_⟩ | ⟨k,cp,cur,h,_,_,h3,h4,_⟩
     ·simp at h
     ·simp only [Value.slice.injEq] at h; unfold maxLen at h4; omega
    have hbM:b < M:=by rw [hM]; exact Nat.lt_of_lt_of_le (lt_of_cell HC0.out) hsz
    have hcc0:w2.cell? ⟨b,o,none⟩=some r1:=(HB2.out.cell hbM).trans ((HB.out.cell (lt_of_cell HC0.out)).trans HC0.out)
    have HR0w:Hid (Sl B 3 w2 r1 (ints q0)):=(HR0.out.below HB.out (Nat.le_refl _)).below HB2.out (by rw [HM.out]; exact Nat.le_refl _)
    obtain ⟨q0o,q0c,hq0v,hq0l,hq0m⟩:=sl_open HR0.out
    have hl0:=HL0.out
    rw [hl0] at hq0v hq0l
    subst hq0v
    clear ho2 hb2 hM hcck' hl0
    go_wp2
    go_loopw [23] (fun i wq=>∃j:Nat,j≤c∧i=.int .i64 j∧wq.ownsRow M 3 1 (.slice (some ⟨g,0,none⟩) c uc) c (ints ((subL q1 q0).take j ++ q1.drop j))∧Touch g w2 wq) (fun i _=>c-(intOf i).toNat)
    case atStart=>
     refine ⟨0,Nat.zero_le _,rfl,?_,Touch.refl _ _⟩
     rw [List.take_zero,List.drop_zero,List.nil_append]; exact HO2.out
    case round=>
     obtain ⟨j,hj,rfl,hown,ht⟩:=hrel
     have HO:Hid (wr.ownsRow M 3 1 (.slice (some ⟨g,0,none⟩) c uc) c (ints ((subL q1 q0).take j ++ q1.drop j))):=hown
     have HT:Hid (Touch g w2 wr):=ht
     have HLE:Hid (q1.length=(subL q1 q0).length):=(subL_length _ _).symm
     by_cases hjl:j < c
     ·have hj1:j < q1.length:=by have:=HL1.out; omega
      have hcj:wr.cell? ⟨g,j,none⟩=some (.int .i64 (q1.getD j 0)):=by
       rw [hown.cellAt j (by omega),ints_get _ _ (by simp [subL_length]; omega),mix_at HLE.out hj1]
      obtain ⟨b3,o3,cp3,hs3,_,hcc3⟩:=sl_cell HR0w.out (k:=j) (by have:=HL0.out; omega)
      simp only [Value.slice.injEq] at hs3
      obtain ⟨rfl,_,rfl⟩:=hs3
      have hb3:b3≠g:=by
       obtain ⟨b4,o4,cp4,hs4,_,hcc4⟩:=sl_cell HR0.out (k:=j) (by have:=HL0.out; omega)
       simp only [Value.slice.injEq,Option.some.injEq,Addr.mk.injEq,and_true] at hs4
       have:=lt_of_cell hcc4
       omega
      have hcc3':wr.cell? ⟨b3,o3+j,none⟩=some (.int .i64 (q0.getD j 0)):=(ht.cell hb3).trans hcc3
      have hcc0':wr.cell? ⟨b,o,none⟩=some (.slice (some ⟨b3,o3,none⟩) c q0c):=(ht.cell (by show b≠g; omega)).trans hcc0
      have hfz:=hown.frozenAt j
      have HST:Hid (ints ((subL q1 q0).take (j+1) ++ q1.drop (j+1))=(ints ((subL q1 q0).take j ++ q1.drop j)).set j (.int .i64 (q1.getD j 0-q0.getD j 0))):=by
       show _=_
       rw [set_mix HLE.out hj1,subL_at hj1]
      have h1b:(q1.getD j 0).natAbs≤1000000:=HB1.out _ (by simp [hj1])
      have h0b:(q0.getD j 0).natAbs≤1000000:=HB0.out _ (by simp [show j < q0.length by have:=HL0.out; omega])
      generalize q1.getD j 0=x1 at *
      generalize q0.getD j 0=x0 at *
      clear hown ht hcc3 hj1
      have hjI0:(0:Int)≤(j:Int):=by omega
      have hjI1:(j:Int) < (c:Int):=by omega
      have h1b1 : -1000000≤x1:=by omega
      have h1b2:x1≤1000000:=by omega
      have h0b1 : -1000000≤x0:=by omega
      have h0b2:x0≤1000000:=by omega
      clear h1b h0b
      go_wp2
      go_region
      go_wp2
      go_roundw
      case rel=>
       refine ⟨j+1,by omega,by go_num,?_,(HT.out.setCell j _).drew⟩
       rw [HST.out]
       exact (HO.out.stored j _).1.drew
      case measure=>simp [intOf]; omega
     ·have HX:Hid (Sl w.heap.size 3 wr (.slice (some ⟨g,0,none⟩) c uc) (ints (subL q1 q0))):=by
       have h:=HO.out
       rw [mix_end HLE.out (by have:=HL1.out; omega)] at h
       exact Sl.own h
      have HRq:Hid (Rws w.heap.size 22 3 wr u3 ((diffL m).take k)):=by
       exact HR.out.below (HT.out.below HB2.out hgM) (by rw [HM.out]; exact Nat.le_refl _)
      have HBw:Hid (Below w.heap.size w wr):=HB.out.trans ((HT.out.below HB2.out hgM).mono hMs)
      obtain ⟨vs,g1,g2,g3⟩:=HRq.out
      have hlen:=HLN.out
      rw [hlen] at g1 g2 g3
      have G1:Hid (vs.length=k):=g1
      have G2:Hid (wr.ownsRow w.heap.size 22 1 u3 k vs):=g2
      have G3:Hid (∀i,i < k→Sl w.heap.size 3 wr (vs.getD i (.slice none 0 0)) (ints (((diffL m).take k).getD i []))):=g3
      have hszr:w.heap.size≤wr.heap.size:=HBw.out.size
      clear g1 g2 g3 hlen HO hown ht
      go_wp2_with (first | (at_builtin; refine wpList_append_own _ rfl _ _ 23 rfl w.heap.size 22 i0 (.slice none 0 0) 1 24 Tryz.underlying23 hi hz0 hz1 hz2 rfl (by decide) _ _ _ rfl (G2.out.alloc _) ⟨wr.heap.size,0,none⟩ 1 1 [.slice (some ⟨g,0,none⟩) c uc] rfl rfl (one_new _ _ _) (one_slice _ _ _) ?d3 ?d4 ?d5 ?_))
      case d3=>unfold maxLen; omega
      case d4=>omega
      case d5=>simp; omega
      intro v' w3 ho hg _
      have R1:Hid (Rws w.heap.size 22 3 w3 v' ((diffL m).take (k+1))):=by
       have hp:=Rws.push (e2:=22) (e1:=3) (m:=(diffL m).take k) (u:=.slice (some ⟨g,0,none⟩) c uc) (zs:=subL q1 q0) (by decide) (by rw [HLN.out]; exact G1.out) (by rw [HLN.out]; exact G2.out.alloc _)
        (fun i hi=>(G3.out i (by rw [HLN.out] at hi; exact hi)).alloc _) (HX.out.alloc _) (by rw [HLN.out]; exact ho) hg
       rw [←HSN.out] at hp
       exact hp
      have R2:Hid (Below w.heap.size w w3):=(HBw.out.alloc (by omega) _).grown hg (by simp; omega) (fun x hx=>(G2.out.lt x hx).1)
      clear ho hg
      go_wp2
      go_roundw
      case rel=>exact ⟨k+1,by omega,by go_num,R1.out,R2.out⟩
      case measure=>simp [intOf]; omega
   ·have hkm:k=m.length-1:=by omega
    have HE:Hid ((diffL m).take k=diffL m):=by
     show _=_
     exact List.take_of_length_le (by rw [diffL_length]; omega)
    go_wp2
    go_ret
    exact ⟨_,rfl,by rw [←HE.out]; exact HR.out,HB.out⟩
end Go.Proofs.YtdanomklbiidaaaGreatDoor

namespace Go.Proofs.YtdanomklbiidaaaGreatDoor
open Go.RowKit
attribute [local go_sem ↓] Go.wp_at_zero Go.wp_at_succ
def In64 (z:Int):Prop:=-9223372036854775808≤z∧z≤9223372036854775807
set_option maxRecDepth 100000 in
set_option maxHeartbeats 400000 in
theorem pick_any (c n:Int) (w:World) (h1:1≤n) (h2:n≤4611686018427387904) (hc:In64 c) :
  Calls Tryz.prog 6 #[.int .i64 c,.int .i64 n] w fun e w'=>∃z,e=.returned (.int .i64 z)∧(0≤z∧z < n)∧w'=w:=by
 have c0 : -9223372036854775808≤c:=hc.1
 have c1:c≤9223372036854775807:=hc.2
 clear hc
 have hn0:¬n=0:=by omega
 by_cases hcn:c < 0
 ·have e0:(-(c+1)).tmod n=(-(c+1)) % n:=Int.tmod_eq_emod_of_nonneg (by omega)
  have e1:=Int.emod_nonneg (-(c+1)) hn0
  have e2:=Int.emod_lt_of_pos (-(c+1)) (show 0 < n by omega)
  go_enter Tryz.func6,Tryz.ntmps6
  go_wp2
  go_ret
  exact ⟨_,rfl,⟨e1,e2⟩,rfl⟩
 ·have e0:c.tmod n=c % n:=Int.tmod_eq_emod_of_nonneg (by omega)
  have e1:=Int.emod_nonneg c hn0
  have e2:=Int.emod_lt_of_pos c (show 0 < n by omega)
  go_enter Tryz.func6,Tryz.ntmps6
  go_wp2
  go_ret
  exact ⟨_,rfl,⟨e1,e2⟩,rfl⟩
theorem step_call2 {P:Program} {ops:Array Oper} {o:Oper} {a:Act} {w:World} {K:Act→World→Prop} {Q:Exit→Act→World→Prop} {E:Prop}
  (hg : o.guard = none) (f : FuncId) (x y : Operand) (t s : TypeId) (hop : o.op = Op.call { callee := Callee.value (Operand.func f), args := #[x, y], argTypes := #[t, s] }) (v u : Value) (hv : a.eval x = v) (hu : a.eval y = u) (hf : ∃ fn, P.funcs[f]? = some fn ∧ (fn.name == "runtime.NumGoroutine") = false ∧ fn.body.isNone = false)
  (hc:Calls P f #[v,u] w fun e w'=>∃u,e=.returned u∧K (a.put o.dst u) w') :
  if Region.wanted o (yielded ops a.tmps)=true then Oper.wp P o a w K Q else E:=by
 have hw:Region.wanted o (yielded ops a.tmps)=true:=by simp [Region.wanted,hg]
 rw [if_pos hw]
 unfold Oper.wp
 obtain ⟨fn,f1,f2,f3⟩:=hf
 have e:(execOp a.eval o).run P w=.ok (.enter f #[v,u]) w:=by
  have hfn:a.eval (Operand.func f)=Value.func (Fn.func f) #[] #[]:=rfl
  have hcf:(callFunc f #[v,u]).run P w=.ok (.enter f #[v,u]) w:=by
   unfold callFunc
   have g2 : ¬ fn.name = "runtime.NumGoroutine" := by simpa using f2
   have g3:¬fn.body=none:=by intro e; rw [e] at f3; simp at f3
   simp [f1,g2,g3]
  unfold execOp
  rw [hop]
  simp [resolve,invoke,hv,hu,hfn,Deferred.ofValue,hcf]
 rw [e,Oper.upon_enter]
 refine hc.mono ?_
 rintro e w' ⟨u,rfl,h⟩
 exact h
def Box (n wd:Nat) (m:List (List Int)):Prop:=∀r∈m,r.length=n∧∀z∈r,-(wd:Int)≤z∧z≤wd
theorem Box.snoc {n wd:Nat} {m:List (List Int)} {r:List Int} (h:Box n wd m) (h1:r.length=n) (h2:∀z∈r,-(wd:Int)≤z∧z≤wd):Box n wd (m ++ [r]):=by
 intro x hx
 simp only [List.mem_append,List.mem_singleton] at hx
 rcases hx with hx | rfl
 ·exact h x hx
 ·exact ⟨h1,h2⟩
theorem near_snoc {wd:Nat} {r:List Int} {z:Int} (h:∀z∈r,-(wd:Int)≤z∧z≤wd) (h0 : -(wd:Int)≤z∧z≤wd):∀x∈r ++ [z],-(wd:Int)≤x∧x≤wd:=by
 intro x hx
 simp only [List.mem_append,List.mem_singleton] at hx
 rcases hx with hx | rfl
 ·exact h x hx
 ·exact h0
end Go.Proofs.YtdanomklbiidaaaGreatDoor

namespace Go.Proofs.YtdanomklbiidaaaGreatDoor
open Go.RowKit
attribute [local go_sem ↓] Go.wp_at_zero Go.wp_at_succ
def dotL (a x:List Int):Int:=Lin.sumN a.length fun i=>a.getD i 0*x.getD i 0
def Sm (a x:List Int):Prop:=a.length≤x.length∧a.length≤8∧(∀z∈a,z.natAbs≤1000000000000)∧∀z∈x,z.natAbs≤1000
theorem mul_bd {a x:Int} (ha:a.natAbs≤1000000000000) (hx:x.natAbs≤1000):(a*x).natAbs≤1000000000000000:=by
 rw [Int.natAbs_mul]
 exact Nat.le_trans (Nat.mul_le_mul ha hx) (by decide)
theorem sum_sm {a x:List Int} (h:Sm a x):∀k,k≤a.length→(Lin.sumN k fun i=>a.getD i 0*x.getD i 0).natAbs≤k*1000000000000000:=by
 intro k
 induction k with
 | zero=>intro _; simp [Lin.sumN]
 | succ k ih=>
  intro hk
  have h1:=ih (by omega)
  have h2:(a.getD k 0*x.getD k 0).natAbs≤1000000000000000:=mul_bd (h.2.2.1 _ (by simp [show k < a.length by omega])) (h.2.2.2 _ (by simp [show k < x.length by have:=h.1; omega]))
  simp only [Lin.sumN]
  omega
set_option maxRecDepth 100000 in
set_option maxHeartbeats 400000 in
theorem product_any (B:Nat) (a x:List Int) (u v:Value) (w:World) (hu:Sl B 3 w u (ints a)) (hv:Sl B 3 w v (ints x)) (hs:Sm a x) :
  Calls Tryz.prog 113 #[u,v] w fun e w'=>e=.returned (.int .i64 (dotL a x))∧∃n,w'=w.drewN n:=by
 obtain ⟨ao,cap,hvv,hlc,hcm⟩:=sl_open hu
 obtain ⟨bo,cbp,huu,hlb,hcb⟩:=sl_open hv
 subst hvv huu
 have HU:Hid (Sl B 3 w (.slice ao a.length cap) (ints a)):=hu
 have HV:Hid (Sl B 3 w (.slice bo x.length cbp) (ints x)):=hv
 have HS:Hid (Sm a x):=hs
 have hle:a.length≤x.length:=hs.1
 have hl8:a.length≤8:=hs.2.1
 clear hu hv hs
 go_enter Tryz.func113,Tryz.ntmps113
 go_wp2
 go_loopw [5,9] (fun s i wr=>∃k:Nat,k≤a.length∧i=.int .i64 k∧s=.int .i64 (Lin.sumN k fun i=>a.getD i 0*x.getD i 0)∧∃n,wr=w.drewN n) (fun _ i _=>a.length-(intOf i).toNat)
 case atStart=>exact ⟨0,Nat.zero_le _,rfl,rfl,0,rfl⟩
 case round=>
  obtain ⟨k,hk,rfl,rfl,n,rfl⟩:=hrel
  by_cases hlt:k < a.length
  ·have hlt2:k < x.length:=by omega
   obtain ⟨b,o,cp,hs,hc1,hcc⟩:=sl_cell HU.out hlt
   simp only [Value.slice.injEq] at hs
   obtain ⟨rfl,_,rfl⟩:=hs
   obtain ⟨b2,o2,cp2,hs2,hc2,hcc2⟩:=sl_cell HV.out hlt2
   simp only [Value.slice.injEq] at hs2
   obtain ⟨rfl,_,rfl⟩:=hs2
   have h1:=sum_sm HS.out k hk
   have h2:=sum_sm HS.out (k+1) (by omega)
   have h3:(a.getD k 0*x.getD k 0).natAbs≤1000000000000000:=mul_bd (HS.out.2.2.1 _ (by simp [hlt])) (HS.out.2.2.2 _ (by simp [hlt2]))
   have HSU:Hid ((Lin.sumN (k+1) fun i=>a.getD i 0*x.getD i 0)=(Lin.sumN k fun i=>a.getD i 0*x.getD i 0)+a.getD k 0*x.getD k 0):=rfl
   rw [HSU.out] at h2
   generalize (Lin.sumN k fun i=>a.getD i 0*x.getD i 0)=S at *
   generalize a.getD k 0=p at *
   generalize x.getD k 0=q at *
   have e2:wrap64 (S+wrap64 (p*q))=S+p*q:=by
    rw [IntWalk.wrap64_in (p*q) ⟨by omega,by omega⟩,IntWalk.wrap64_in _ ⟨by omega,by omega⟩]
   clear h1 h2 h3
   go_wp2
   go_quiet (fail)
   go_wp2
   go_roundw
   case rel=>exact ⟨k+1,by omega,by go_num,by rw [HSU.out,e2],_,rfl⟩
   case measure=>simp [intOf]; omega
  ·have hke:k=a.length:=by omega
   subst hke
   go_wp2
   go_ret
   exact ⟨rfl,n,rfl⟩
end Go.Proofs.YtdanomklbiidaaaGreatDoor

namespace Go.Proofs.YtdanomklbiidaaaGreatDoor
open Go.RowKit
attribute [local go_sem ↓] Go.wp_at_zero Go.wp_at_succ
def rowT (t P:List (List Int)):Option (List Int):=
 if normB t.length (diffL t)=true then
  if (P.any fun x=>decide (dotL (normL t.length (diffL t)) (t.getD 0 []) < dotL (normL t.length (diffL t)) x))=false then some (normL t.length (diffL t) ++ [dotL (normL t.length (diffL t)) (t.getD 0 [])])
  else if (P.any fun x=>decide (dotL (normL t.length (diffL t)) x < dotL (normL t.length (diffL t)) (t.getD 0 [])))=false then some ((normL t.length (diffL t) ++ [dotL (normL t.length (diffL t)) (t.getD 0 [])]).map fun z=>-z)
  else none
 else none
theorem getD_mem {l:List Int} {i:Nat} (h:i < l.length):l.getD i 0∈l:=by simp [h]
theorem diff_mx {d:Nat} {t:List (List Int)} (h:Box d 30 t) (h1:1≤d) (h5:d≤5):Mx d 60 (diffL t):=by
 refine ⟨fun r hr=>?_,fun r hr z hz=>?_,h5,h1,by decide,Nat.le_trans (fb_mono (by decide) h5) (by decide)⟩
 ·simp only [diffL,List.mem_map] at hr
  obtain ⟨x,hx,rfl⟩:=hr
  rw [subL_length]; exact (h x (List.mem_of_mem_drop hx)).1
 ·simp only [diffL,List.mem_map] at hr
  obtain ⟨x,hx,rfl⟩:=hr
  simp only [subL,List.mem_map,List.mem_range] at hz
  obtain ⟨i,hi,rfl⟩:=hz
  have h1:=(h x (List.mem_of_mem_drop hx)).2 (x.getD i 0) (by simp [hi])
  have h2 : -(30:Int)≤(t.getD 0 []).getD i 0∧(t.getD 0 []).getD i 0≤30:=by
   by_cases ht:0 < t.length
   ·have h3:=h (t.getD 0 []) (by simp [ht])
    by_cases hi2:i < (t.getD 0 []).length
    ·exact h3.2 _ (getD_mem hi2)
    ·rw [show (t.getD 0 []).getD i 0=0 by simp only [List.getD_eq_getElem?_getD]; rw [List.getElem?_eq_none (by simpa using hi2)]; rfl]; omega
   ·have:t=[]:=List.eq_nil_of_length_eq_zero (by omega)
    subst this; simp
  omega
theorem muL_len (c:Nat) (rows:List (List Int)):(muL c rows).length=c:=by simp [muL]
theorem norm_len {c:Nat} {m:List (List Int)} (h:normB c m=true):(normL c m).length=c:=by
 unfold normB at h
 unfold normL
 rw [if_pos (of_decide_eq_true h),upr_len,low_len,muL_len]
theorem upr_bd {l:List Int} {b:Nat} (h:∀z∈l,z.natAbs≤b):∀z∈Lin.upr l,z.natAbs≤b:=by
 intro z hz
 unfold Lin.upr at hz
 split at hz
 ·simp only [List.mem_map] at hz
  obtain ⟨y,hy,rfl⟩:=hz
  rw [Int.natAbs_neg]; exact h y hy
 ·exact h z hz
theorem mu_small {c:Nat} {m:List (List Int)} (hx:Mx c 60 m) (hl:(pickL c m).length+1=c):∀z∈muL c (pickL c m),z.natAbs≤1000000000000:=by
 intro z hz
 simp only [muL,List.mem_map,List.mem_range] at hz
 obtain ⟨k,hk,rfl⟩:=hz
 unfold Lin.mu
 rw [Int.natAbs_mul]
 have h2:(Lin.ngo k).natAbs=1:=by rw [ngo_mod]; by_cases e:k % 2=1 <;> simp [e]
 rw [h2,Nat.one_mul,fm_length]
 have h5:Lin.fb 60 4≤1000000000000:=by decide
 have m2:Lin.fb 60 (pickL c m).length≤Lin.fb 60 4:=fb_mono (by decide) (by have:=hx.c5; omega)
 have hb:=Lin.od_bd (n:=(pickL c m).length) (B:=60) (Lin.cols (fm (pickL c m)) (Lin.skp k)) (fun _=>false) (fun r hr j hj=>by
  simp only [Lin.cols,fm,List.mem_map] at hr
  obtain ⟨_,⟨l,hl',rfl⟩,rfl⟩:=hr
  by_cases hi:Lin.skp k j < l.length
  ·exact hx.bd l (pickL_mem hl') _ (by simp [hi])
  ·simp only [List.getD_eq_getElem?_getD]; rw [List.getElem?_eq_none (by omega)]; simp) (by rw [Lin.cu_none]; simp [Lin.cols,fm])
 have hl2:(Lin.cols (fm (pickL c m)) (Lin.skp k)).length=(pickL c m).length:=by simp [Lin.cols,fm]
 rw [hl2] at hb
 omega
theorem norm_bd {c:Nat} {m:List (List Int)} (hx:Mx c 60 m):∀z∈normL c m,z.natAbs≤1000000000000:=by
 intro z hz
 unfold normL at hz
 split at hz
 ·rename_i hl
  exact upr_bd (low_bd (mu_small hx hl)) z hz
 ·simp at hz
theorem box_small {d:Nat} {P:List (List Int)} (h:Box d 30 P) {x:List Int} (hx:x∈P):∀z∈x,z.natAbs≤1000:=fun z hz=>by
 have:=(h x hx).2 z hz; omega
def Bx (W3 W4:World) (bv:Int):Prop:=W4.cell? ⟨W3.heap.size,0,none⟩=some (.int .i64 bv)∧Below W3.heap.size W3 W4∧W4.heap.size=W3.heap.size+1
end Go.Proofs.YtdanomklbiidaaaGreatDoor

namespace Go.Proofs.YtdanomklbiidaaaGreatDoor
open Lin
def V (l:List Int):Nat→Int:=fun j=>l.getD j 0
theorem V_neg (l:List Int) (i:Nat):V (l.map fun z=>-z) i=- V l i:=by
 simp only [V,List.getD_eq_getElem?_getD,List.getElem?_map]
 cases l[i]? <;> simp
theorem mem_fm {m:List (List Int)} {r:Nat→Int} : r∈fm m↔∃l∈m,r=V l:=by
 simp only [fm,List.mem_map]
 constructor
 ·rintro ⟨l,hl,rfl⟩; exact ⟨l,hl,rfl⟩
 ·rintro ⟨l,hl,rfl⟩; exact ⟨l,hl,rfl⟩
theorem norm_par {d:Nat} {m:List (List Int)} (hl:(pickL d m).length+1=d):∃k:Int,k≠0∧∀i,i < d→mu (fm (pickL d m)) i=k*V (normL d m) i:=by
 have hg:=pick_greedy d m
 have hl':(fm (pickL d m)).length+1=d:=by rw [fm_length]; exact hl
 obtain ⟨⟨p,hp,hne⟩,_,_⟩:=greedy_one hg hl'
 have hn:normL d m=upr (low (muL d (pickL d m))):=if_pos hl
 rw [hn]
 have hat:∀i,i < d→V (muL d (pickL d m)) i=mu (fm (pickL d m)) i:=fun i hi=>by simp [V,muL,hi]
 generalize muL d (pickL d m)=l at *
 have hll:∀i,i < d→V l i∈l∨V l i=0:=fun i _=>by
  by_cases h:i < l.length
  ·exact Or.inl (getD_mem h)
  ·right; simp only [V,List.getD_eq_getElem?_getD]; rw [List.getElem?_eq_none (by omega)]; rfl
 have hdv:∀i,i < d→((gc l:Nat):Int) ∣ V l i:=fun i hi=>by
  rcases hll i hi with h | h
  ·exact gc_dvd h
  ·rw [h]; exact Int.dvd_zero _
 have hg0:((gc l:Nat):Int)≠0:=by
  intro h0
  have h1:=hdv p hp
  rw [h0] at h1
  have h2:=Int.zero_dvd.1 h1
  rw [hat p hp] at h2
  exact hne h2
 have hlow:∀i,i < d→V l i=((gc l:Nat):Int)*V (low l) i:=fun i hi=>by
  have e:V (low l) i=V l i / ((gc l:Nat):Int):=by
   simp only [V,low,List.getD_eq_getElem?_getD,List.getElem?_map]
   cases l[i]? <;> simp
  rw [e,Int.mul_ediv_cancel' (hdv i hi)]
 unfold upr
 split
 ·refine ⟨-((gc l:Nat):Int),by omega,fun i hi=>?_⟩
  rw [V_neg,←hat i hi,hlow i hi]; grind
 ·exact ⟨((gc l:Nat):Int),hg0,fun i hi=>by rw [←hat i hi,hlow i hi]⟩
theorem norm_spec {d:Nat} {m:List (List Int)} (hl:(pickL d m).length+1=d) :
  (∃i,i < d∧V (normL d m) i≠0)∧(∀r∈m,dot d (V r) (V (normL d m))=0)∧∀u:Nat→Int,(∀r∈m,dot d (V r) u=0)→Par d u (V (normL d m)):=by
 have hl':(fm (pickL d m)).length+1=d:=by rw [fm_length]; exact hl
 obtain ⟨⟨p,hp,hne⟩,h1,h2⟩:=greedy_one (pick_greedy d m) hl'
 obtain ⟨k,hk,hmu⟩:=norm_par hl
 refine ⟨⟨p,hp,fun e=>hne (by rw [hmu p hp,e,Int.mul_zero])⟩,fun r hr=>?_,fun u hu i j hi hj=>?_⟩
 ·have h:=h1 (V r) (mem_fm.2 ⟨r,hr,rfl⟩)
  have e:dot d (V r) (mu (fm (pickL d m)))=k*dot d (V r) (V (normL d m)):=by
   unfold dot
   rw [←sumN_mul]
   exact sumN_congr fun i hi=>by rw [hmu i hi]; grind
  rw [e] at h
  exact (Int.mul_eq_zero.1 h).resolve_left hk
 ·have h:=h2 u (fun r hr=>by
   obtain ⟨l,hl,rfl⟩:=mem_fm.1 hr
   exact hu l hl) i j hi hj
  rw [hmu i hi,hmu j hj] at h
  have:k*(u i*V (normL d m) j)=k*(u j*V (normL d m) i):=by grind
  exact Int.eq_of_mul_eq_mul_left hk this
end Go.Proofs.YtdanomklbiidaaaGreatDoor
