import Derived.Test.YtcoeneldaohpnaaGreatRun9
import Derived.Lib.JoinLaws
import Derived.Test.YtcoeneldaohpnaaGreatRefs
import Derived.Test.YtcoeneldaohpnaaGreatMgAC
import Derived.Deep.DrawnRows
namespace Go.Proofs.YtcoeneldaohpnaaGreat
open Go.RowKit
attribute [local go_sem ↓] Go.wp_at_zero Go.wp_at_succ
def subL (r b:List Int):List Int:=(List.range r.length).map fun i=>r.getD i 0-b.getD i 0
def diffL (m:List (List Int)):List (List Int):=(m.drop 1).map fun r=>subL r (m.getD 0 [])
theorem subL_length (r b:List Int):(subL r b).length=r.length:=by simp [subL]
theorem diffL_length (m:List (List Int)):(diffL m).length=m.length-1:=by simp [diffL]
theorem subL_at {r b:List Int} {k:Nat} (h:k < r.length):(subL r b).getD k 0=r.getD k 0-b.getD k 0:=by simp [subL,h]
theorem diffL_snoc (m:List (List Int)) (k:Nat) (h:k+1 < m.length):(diffL m).take (k+1)=(diffL m).take k ++ [subL (m.getD (k+1) []) (m.getD 0 [])]:=by
 rw [List.take_succ_eq_append_getElem (by rw [diffL_length]; omega)]
 have e:(diffL m)[k]'(by rw [diffL_length]; omega)=subL (m.getD (k+1) []) (m.getD 0 []):=by
  have h1:m[1+k]?=some (m[1+k]'(by omega)):=List.getElem?_eq_getElem (by omega)
  simp only [diffL,List.getElem_map,List.getElem_drop,List.getD_eq_getElem?_getD]
  rw [show k+1=1+k by omega,h1]; rfl
 rw [e]
theorem set_mix {r nr:List Int} {k:Nat} (hl:r.length=nr.length) (hk:k < r.length):ints (nr.take (k+1) ++ r.drop (k+1))=(ints (nr.take k ++ r.drop k)).set k (.int .i64 (nr.getD k 0)):=by
 apply List.ext_getElem?
 intro i
 rw [List.getElem?_set,ints_length]
 simp only [ints,List.getElem?_map]
 by_cases hik:i < k
 ·rw [List.getElem?_append_left (by simp; omega),List.getElem?_append_left (by simp; omega),if_neg (by omega)]
  simp [hik,show i < k+1 by omega]
 ·by_cases hik2:i=k
  ·subst hik2
   rw [List.getElem?_append_left (by simp; omega),if_pos rfl,if_pos (by simp; omega)]
   simp [show i < nr.length by omega]
  ·rw [List.getElem?_append_right (by simp; omega),List.getElem?_append_right (by simp; omega),if_neg (by omega)]
   simp only [List.length_take,List.getElem?_drop]
   rw [show k+1+(i-min (k+1) nr.length)=i by omega,show k+(i-min k nr.length)=i by omega]
theorem mix_at {r nr:List Int} {k:Nat} (hl:r.length=nr.length) (hk:k < r.length):(nr.take k ++ r.drop k).getD k 0=r.getD k 0:=by
 simp only [List.getD_eq_getElem?_getD]; rw [List.getElem?_append_right (by simp; omega)]; simp [show k-min k nr.length=0 by omega]
theorem mix_end {r nr:List Int} {k:Nat} (hl:r.length=nr.length) (hk:r.length≤k):nr.take k ++ r.drop k=nr:=by
 rw [List.take_of_length_le (by omega),List.drop_eq_nil_of_le (by omega),List.append_nil]
theorem Touch.below {g M:Nat} {w w2 wr:World} (h:Touch g w2 wr) (hb:Below M w w2) (hg:M≤g):Below M w wr:=
 ⟨h.os.trans hb.os,h.tape.trans hb.tape,h.output.trans hb.output,by rw [h.size]; exact hb.size,fun b hlt=>(h.block b (by omega)).trans (hb.block b hlt)⟩
set_option maxRecDepth 100000 in
set_option maxHeartbeats 1600000 in
theorem differences_any (B c:Nat) (m:List (List Int)) (v:Value) (w:World) (hv:Mat B 26 3 w v m) (hm1:1≤m.length) (hm:m.length≤1000) (hc1:1≤c) (hc0:c≤1000) (hr:∀r∈m,r.length=c) (hb:∀r∈m,∀z∈r,z.natAbs≤1000000) :
  Calls Tryz.prog 72 #[v] w fun e w'=>∃x,e=.returned x∧Rws w.heap.size 26 3 w' x (diffL m)∧Below w.heap.size w w':=by
 obtain ⟨i0,hi,hz0,hz1,hz2⟩:=info_parts Tryz.info26
 obtain ⟨ao,cap,hvv,hlc,hcm⟩:=mat_open hv
 subst hvv
 have HV:Hid (Mat B 26 3 w (.slice ao m.length cap) m):=hv
 have HRW:Hid (∀r∈m,r.length=c):=hr
 have HBD:Hid (∀r∈m,∀z∈r,z.natAbs≤1000000):=hb
 obtain ⟨b,o,cp,r1,hs,hcl,hcc,hr1⟩:=mat_cell hv (k:=0) (by omega)
 simp only [Value.slice.injEq] at hs
 obtain ⟨rfl,_,rfl⟩:=hs
 have HR0:Hid (Sl B 3 w r1 (ints (m.getD 0 []))):=hr1
 have HC0:Hid (w.cell? ⟨b,o+0,none⟩=some r1):=hcc
 clear hv hr hb hr1 hcc
 have hm1I:(1:Int)≤(m.length:Int):=by omega
 by_cases hm2:m.length=1
 ·have HD:Hid (diffL m=[]):=by
   show _=_
   exact List.eq_nil_of_length_eq_zero (by rw [diffL_length]; omega)
  have hmk:=run_make_room (P:=Tryz.prog) 22 26 (.slice none 0 0) 24 Tryz.underlying22 Tryz.info26 rfl .i64 .i64 0 (by omega) (by omega)
  have hz0N:((0:Nat):Int)=0:=rfl
  rw [hz0N] at hmk
  have HO0:Hid (Rws w.heap.size 26 3 (w.alloc (.cells (madeCells #[.slice none 0 0] 0) 26)) (.slice (some ⟨w.heap.size,0,none⟩) 0 0) []):=
   ⟨[],rfl,World.ownsRow_made w _ 0 (Nat.le_refl _) (by unfold maxLen; omega) (by rw [size_madeCells]),fun i hi=>absurd hi (by simp)⟩
  have HB0:Hid (Below w.heap.size w (w.alloc (.cells (madeCells #[.slice none 0 0] 0) 26))):=(Below.refl _ _).alloc (Nat.le_refl _) _
  have hmi:(m.length:Int)-1=0:=by omega
  clear hz0N
  go_enter Tryz.func72,Tryz.ntmps72
  go_wp2
  all_goals
   go_loopw [3,15] (fun x i wr=>x=.slice (some ⟨w.heap.size,0,none⟩) 0 0∧i=.int .i64 0∧wr=w.alloc (.cells (madeCells #[.slice none 0 0] 0) 26)) (fun _ _ _=>0)
   case atStart=>exact ⟨rfl,rfl,rfl⟩
   case round=>
    obtain ⟨rfl,rfl,rfl⟩:=hrel
    go_wp2
    go_ret
    exact ⟨_,rfl,by rw [HD.out]; exact HO0.out,HB0.out⟩
 ·have hcap:1 < cap:=by omega
  obtain ⟨n1,hn1⟩:∃n1,n1=m.length-1:=⟨_,rfl⟩
  have hmi:(m.length:Int)-1=(n1:Int):=by omega
  have hmk:=run_make_room (P:=Tryz.prog) 22 26 (.slice none 0 0) 24 Tryz.underlying22 Tryz.info26 rfl .i64 .i64 n1 (by omega) (by omega)
  have HO0:Hid (Rws w.heap.size 26 3 (w.alloc (.cells (madeCells #[.slice none 0 0] n1) 26)) (.slice (some ⟨w.heap.size,0,none⟩) 0 n1) []):=
   ⟨[],rfl,World.ownsRow_made w _ n1 (Nat.le_refl _) (by unfold maxLen; omega) (by rw [size_madeCells]; omega),fun i hi=>absurd hi (by simp)⟩
  have HB0:Hid (Below w.heap.size w (w.alloc (.cells (madeCells #[.slice none 0 0] n1) 26))):=(Below.refl _ _).alloc (Nat.le_refl _) _
  have HN1:Hid (n1=m.length-1):=hn1
  clear hn1
  go_enter Tryz.func72,Tryz.ntmps72
  go_wp2
  go_loopw [3,15] (fun x i wr=>∃k:Nat,k≤m.length-1∧i=.int .i64 k∧Rws w.heap.size 26 3 wr x ((diffL m).take k)∧Below w.heap.size w wr) (fun _ i _=>m.length-1-(intOf i).toNat)
  case atStart=>exact ⟨0,Nat.zero_le _,rfl,HO0.out,HB0.out⟩
  case round=>
   obtain ⟨k,hk,rfl,hrw,hbel⟩:=hrel
   obtain ⟨wa,rfl⟩:∃wa,wa=wr:=⟨wr,rfl⟩
   have HR:Hid (Rws w.heap.size 26 3 wa u3 ((diffL m).take k)):=hrw
   have HB:Hid (Below w.heap.size w wa):=hbel
   have hsz:w.heap.size≤wa.heap.size:=hbel.size
   clear hrw hbel
   by_cases hlt:k < m.length-1
   ·obtain ⟨b2,o2,cp2,rk,hs,hck,hcck,hrk⟩:=mat_cell (HV.out.below HB.out (Nat.le_refl _)) (k:=k+1) (by omega)
    simp only [Value.slice.injEq,Option.some.injEq,Addr.mk.injEq,and_true,true_and] at hs
    obtain ⟨⟨rfl,rfl⟩,rfl⟩:=hs
    have hcck':wa.cell? ⟨b,o+1+k,none⟩=some rk:=by rw [show o+1+k=o+(k+1) by omega]; exact hcck
    have HRK:Hid (Sl B 3 wa rk (ints (m.getD (k+1) []))):=hrk
    have hmem1:m.getD (k+1) []∈m:=by simp [show k+1 < m.length by omega]
    have hmem0:m.getD 0 []∈m:=by simp [show 0 < m.length by omega]
    have HL1:Hid ((m.getD (k+1) []).length=c):=HRW.out _ hmem1
    have HL0:Hid ((m.getD 0 []).length=c):=HRW.out _ hmem0
    have HB1:Hid (∀z∈m.getD (k+1) [],z.natAbs≤1000000):=HBD.out _ hmem1
    have HB0:Hid (∀z∈m.getD 0 [],z.natAbs≤1000000):=HBD.out _ hmem0
    have HSN:Hid ((diffL m).take (k+1)=(diffL m).take k ++ [subL (m.getD (k+1) []) (m.getD 0 [])]):=diffL_snoc m k (by omega)
    have HLN:Hid (((diffL m).take k).length=k):=by
     show _=_
     rw [List.length_take,diffL_length]; omega
    clear hcck hrk hmem1 hmem0
    obtain ⟨q1,hq1⟩:∃q1,q1=m.getD (k+1) []:=⟨_,rfl⟩
    obtain ⟨q0,hq0⟩:∃q0,q0=m.getD 0 []:=⟨_,rfl⟩
    rw [←hq1] at HRK HL1 HB1 HSN
    rw [←hq0] at HL0 HB0 HSN HR0
    clear hq1 hq0
    obtain ⟨rko,rkc,hrkv,_,_⟩:=sl_open HRK.out
    subst hrkv
    have hkI:(k:Int) < ((m.length-1:Nat):Int):=by omega
    go_wp2_with fail
    refine (clone_any B q1 _ wa HRK.out (by have:=HL1.out; omega)).mono ?_
    rintro e w2 ⟨u,rfl,ho2,hb2⟩
    rw [HL1.out] at ho2
    obtain ⟨g,uc,hue⟩:=own_some ho2 (by omega)
    subst hue
    obtain ⟨M,hM⟩:∃M,M=wa.heap.size:=⟨_,rfl⟩
    have HM:Hid (M=wa.heap.size):=hM
    have hMs:w.heap.size≤M:=by omega
    have hgM:M≤g:=by rw [hM]; exact (ho2.lt g (by simp [Value.ownBlock])).1
    have hgs:g < w2.heap.size:=(ho2.lt g (by simp [Value.ownBlock])).2
    have HO2:Hid (w2.ownsRow M 3 1 (.slice (some ⟨g,0,none⟩) c uc) c (ints q1)):=by rw [hM]; exact ho2
    have HB2:Hid (Below M wa w2):=by rw [hM]; exact hb2
    have huc:c≤uc∧uc≤9223372036854775807:=by
     obtain ⟨_,h2⟩:=ho2
     rcases h2 with ⟨h,_⟩ | ⟨k,cp,cur,h,_,_,h3,h4,_⟩
     ·simp at h
     ·simp only [Value.slice.injEq] at h; unfold maxLen at h4; omega
    have hbM:b < M:=by rw [hM]; exact Nat.lt_of_lt_of_le (lt_of_cell HC0.out) hsz
    have hcc0:w2.cell? ⟨b,o,none⟩=some r1:=(HB2.out.cell hbM).trans ((HB.out.cell (lt_of_cell HC0.out)).trans HC0.out)
    have HR0w:Hid (Sl B 3 w2 r1 (ints q0)):=(HR0.out.below HB.out (Nat.le_refl _)).below HB2.out (by rw [HM.out]; exact Nat.le_refl _)
    obtain ⟨q0o,q0c,hq0v,hq0l,hq0m⟩:=sl_open HR0.out
    have hl0:=HL0.out
    rw [hl0] at hq0v hq0l
    subst hq0v
    clear ho2 hb2 hM hcck' hl0
    go_wp2
    go_loopw [23] (fun i wq=>∃j:Nat,j≤c∧i=.int .i64 j∧wq.ownsRow M 3 1 (.slice (some ⟨g,0,none⟩) c uc) c (ints ((subL q1 q0).take j ++ q1.drop j))∧Touch g w2 wq) (fun i _=>c-(intOf i).toNat)
    case atStart=>
     refine ⟨0,Nat.zero_le _,rfl,?_,Touch.refl _ _⟩
     rw [List.take_zero,List.drop_zero,List.nil_append]; exact HO2.out
    case round=>
     obtain ⟨j,hj,rfl,hown,ht⟩:=hrel
     have HO:Hid (wr.ownsRow M 3 1 (.slice (some ⟨g,0,none⟩) c uc) c (ints ((subL q1 q0).take j ++ q1.drop j))):=hown
     have HT:Hid (Touch g w2 wr):=ht
     have HLE:Hid (q1.length=(subL q1 q0).length):=(subL_length _ _).symm
     by_cases hjl:j < c
     ·have hj1:j < q1.length:=by have:=HL1.out; omega
      have hcj:wr.cell? ⟨g,j,none⟩=some (.int .i64 (q1.getD j 0)):=by
       rw [hown.cellAt j (by omega),ints_get _ _ (by simp [subL_length]; omega),mix_at HLE.out hj1]
      obtain ⟨b3,o3,cp3,hs3,_,hcc3⟩:=sl_cell HR0w.out (k:=j) (by have:=HL0.out; omega)
      simp only [Value.slice.injEq] at hs3
      obtain ⟨rfl,_,rfl⟩:=hs3
      have hb3:b3≠g:=by
       obtain ⟨b4,o4,cp4,hs4,_,hcc4⟩:=sl_cell HR0.out (k:=j) (by have:=HL0.out; omega)
       simp only [Value.slice.injEq,Option.some.injEq,Addr.mk.injEq,and_true] at hs4
       have:=lt_of_cell hcc4
       omega
      have hcc3':wr.cell? ⟨b3,o3+j,none⟩=some (.int .i64 (q0.getD j 0)):=(ht.cell hb3).trans hcc3
      have hcc0':wr.cell? ⟨b,o,none⟩=some (.slice (some ⟨b3,o3,none⟩) c q0c):=(ht.cell (by show b≠g; omega)).trans hcc0
      have hfz:=hown.frozenAt j
      have HST:Hid (ints ((subL q1 q0).take (j+1) ++ q1.drop (j+1))=(ints ((subL q1 q0).take j ++ q1.drop j)).set j (.int .i64 (q1.getD j 0-q0.getD j 0))):=by
       show _=_
       rw [set_mix HLE.out hj1,subL_at hj1]
      have h1b:(q1.getD j 0).natAbs≤1000000:=HB1.out _ (by simp [hj1])
      have h0b:(q0.getD j 0).natAbs≤1000000:=HB0.out _ (by simp [show j < q0.length by have:=HL0.out; omega])
      generalize q1.getD j 0=x1 at *
      generalize q0.getD j 0=x0 at *
      clear hown ht hcc3 hj1
      have hjI0:(0:Int)≤(j:Int):=by omega
      have hjI1:(j:Int) < (c:Int):=by omega
      have h1b1 : -1000000≤x1:=by omega
      have h1b2:x1≤1000000:=by omega
      have h0b1 : -1000000≤x0:=by omega
      have h0b2:x0≤1000000:=by omega
      clear h1b h0b
      go_wp2
      go_region
      go_wp2
      go_roundw
      case rel=>
       refine ⟨j+1,by omega,by go_num,?_,(HT.out.setCell j _).drew⟩
       rw [HST.out]
       exact (HO.out.stored j _).1.drew
      case measure=>simp [intOf]; omega
     ·have HX:Hid (Sl w.heap.size 3 wr (.slice (some ⟨g,0,none⟩) c uc) (ints (subL q1 q0))):=by
       have h:=HO.out
       rw [mix_end HLE.out (by have:=HL1.out; omega)] at h
       exact Sl.own h
      have HRq:Hid (Rws w.heap.size 26 3 wr u3 ((diffL m).take k)):=by
       exact HR.out.below (HT.out.below HB2.out hgM) (by rw [HM.out]; exact Nat.le_refl _)
      have HBw:Hid (Below w.heap.size w wr):=HB.out.trans ((HT.out.below HB2.out hgM).mono hMs)
      obtain ⟨vs,g1,g2,g3⟩:=HRq.out
      have hlen:=HLN.out
      rw [hlen] at g1 g2 g3
      have G1:Hid (vs.length=k):=g1
      have G2:Hid (wr.ownsRow w.heap.size 26 1 u3 k vs):=g2
      have G3:Hid (∀i,i < k→Sl w.heap.size 3 wr (vs.getD i (.slice none 0 0)) (ints (((diffL m).take k).getD i []))):=g3
      have hszr:w.heap.size≤wr.heap.size:=HBw.out.size
      clear g1 g2 g3 hlen HO hown ht
      go_wp2_with (first | (at_builtin; refine wpList_append_own _ rfl _ _ 22 rfl w.heap.size 26 i0 (.slice none 0 0) 1 24 Tryz.underlying22 hi hz0 hz1 hz2 rfl (by decide) _ _ _ rfl (G2.out.alloc _) ⟨wr.heap.size,0,none⟩ 1 1 [.slice (some ⟨g,0,none⟩) c uc] rfl rfl (one_new _ _ _) (one_slice _ _ _) ?d3 ?d4 ?d5 ?_))
      case d3=>unfold maxLen; omega
      case d4=>omega
      case d5=>simp; omega
      intro v' w3 ho hg _
      have R1:Hid (Rws w.heap.size 26 3 w3 v' ((diffL m).take (k+1))):=by
       have hp:=Rws.push (e2:=26) (e1:=3) (m:=(diffL m).take k) (u:=.slice (some ⟨g,0,none⟩) c uc) (zs:=subL q1 q0) (by decide) (by rw [HLN.out]; exact G1.out) (by rw [HLN.out]; exact G2.out.alloc _)
        (fun i hi=>(G3.out i (by rw [HLN.out] at hi; exact hi)).alloc _) (HX.out.alloc _) (by rw [HLN.out]; exact ho) hg
       rw [←HSN.out] at hp
       exact hp
      have R2:Hid (Below w.heap.size w w3):=(HBw.out.alloc (by omega) _).grown hg (by simp; omega) (fun x hx=>(G2.out.lt x hx).1)
      clear ho hg
      go_wp2
      go_roundw
      case rel=>exact ⟨k+1,by omega,by go_num,R1.out,R2.out⟩
      case measure=>simp [intOf]; omega
   ·have hkm:k=m.length-1:=by omega
    have HE:Hid ((diffL m).take k=diffL m):=by
     show _=_
     exact List.take_of_length_le (by rw [diffL_length]; omega)
    go_wp2
    go_ret
    exact ⟨_,rfl,by rw [←HE.out]; exact HR.out,HB.out⟩
end Go.Proofs.YtcoeneldaohpnaaGreat

namespace Go.Proofs.YtcoeneldaohpnaaGreat
open Go.RowKit
attribute [local go_sem ↓] Go.wp_at_zero Go.wp_at_succ
def colsL (m:List (List Int)) (c:List Int):List (List Int):=m.map fun r=>c.map fun q=>r.getD q.toNat 0
theorem colsL_snoc (m:List (List Int)) (c:List Int) (k:Nat) (h:k < m.length):(colsL m c).take (k+1)=(colsL m c).take k ++ [c.map fun q=>(m.getD k []).getD q.toNat 0]:=by
 unfold colsL
 rw [List.take_succ_eq_append_getElem (by simpa using h)]; simp [h]
theorem colsL_length (m:List (List Int)) (c:List Int):(colsL m c).length=m.length:=by simp [colsL]
theorem push3 {M j:Nat} {wa wr w3:World} {v v':Value} {o:Obj} {t l:List Int} {z:Int} (hB:Below M wa wr) (hsz:M≤wr.heap.size) (hl:t.length=j) (h:wr.ownsRow M 3 1 v j (ints t))
  (ho:w3.ownsRow M 3 1 v' (j+1) (ints t ++ [.int .i64 z])) (hg:(wr.drew.alloc o).grownBy w3 v.ownBlock) (hz:l=t ++ [z]):w3.ownsRow M 3 1 v' (j+1) (ints l)∧Below M wa w3:=by
 subst hl hz
 exact owns_push (w:=wr.drew) hsz (l:=t) h hB.drew ho hg rfl
theorem keep3 {M:Nat} {wa w3:World} (hB:Below M wa w3) {a1 a2 a3:Addr} {v1 v2 v3:Value} (h:((a1.block < M∧wa.cell? a1=some v1)∧(a2.block < M∧wa.cell? a2=some v2))∧(a3.block < M∧wa.cell? a3=some v3)) :
  Hid (w3.cell? a1=some v1∧w3.cell? a2=some v2∧w3.cell? a3=some v3):=
 ⟨(hB.cell h.1.1.1).trans h.1.1.2,(hB.cell h.1.2.1).trans h.1.2.2,(hB.cell h.2.1).trans h.2.2⟩
set_option maxRecDepth 100000 in
set_option maxHeartbeats 1600000 in
theorem columns_any (B:Nat) (m:List (List Int)) (c:List Int) (v u:Value) (w:World) (hv:Mat B 26 3 w v m) (hu:Sl B 3 w u (ints c)) (hm:m.length≤1000000) (hcl:c.length≤1000000)
  (hq:∀q∈c,0≤q∧∀r∈m,q < r.length) :
  Calls Tryz.prog 49 #[v,u] w fun e w'=>∃x,e=.returned x∧Rws w.heap.size 26 3 w' x (colsL m c)∧Below w.heap.size w w':=by
 obtain ⟨i0,hi,hz0,hz1,hz2⟩:=info_parts Tryz.info26
 obtain ⟨i3,hi3,hz30,hz31,hz32⟩:=info_parts Tryz.info3
 obtain ⟨ao,cap,hvv,hlc,hcm⟩:=mat_open hv
 obtain ⟨bo,cbp,huu,hlb,hcb⟩:=sl_open hu
 subst hvv huu
 have HV:Hid (Mat B 26 3 w (.slice ao m.length cap) m):=hv
 have HU:Hid (Sl B 3 w (.slice bo c.length cbp) (ints c)):=hu
 have HQ:Hid (∀q∈c,0≤q∧∀r∈m,q < r.length):=hq
 clear hv hu hq
 go_enter Tryz.func49,Tryz.ntmps49
 go_wp2
 go_loopw [5,6] (fun x i wr=>∃k:Nat,k≤m.length∧i=.int .i64 k∧Rws w.heap.size 26 3 wr x ((colsL m c).take k)∧Below w.heap.size w wr) (fun _ i _=>m.length-(intOf i).toNat)
 case atStart=>exact ⟨0,Nat.zero_le _,rfl,Rws.nil _ _ _ _,Below.refl _ _⟩
 case round=>
  obtain ⟨k,hk,rfl,hrw,hbel⟩:=hrel
  obtain ⟨wa,rfl⟩:∃wa,wa=wr:=⟨wr,rfl⟩
  have HR:Hid (Rws w.heap.size 26 3 wa u5 ((colsL m c).take k)):=hrw
  have HB:Hid (Below w.heap.size w wa):=hbel
  have hsz:w.heap.size≤wa.heap.size:=hbel.size
  clear hrw hbel
  by_cases hlt:k < m.length
  ·obtain ⟨b,o,cp,r1,hs,hc1,hcc,hr1⟩:=mat_cell (HV.out.below HB.out (Nat.le_refl _)) hlt
   simp only [Value.slice.injEq] at hs
   obtain ⟨rfl,_,rfl⟩:=hs
   have HR1:Hid (Sl B 3 wa r1 (ints (m.getD k []))):=hr1
   have HUa:Hid (Sl B 3 wa (.slice bo c.length cbp) (ints c)):=HU.out.below HB.out (Nat.le_refl _)
   clear hr1
   obtain ⟨M,hM⟩:∃M,M=wa.heap.size:=⟨_,rfl⟩
   have HM:Hid (M=wa.heap.size):=hM
   have hMs:w.heap.size≤M:=by omega
   clear hM
   go_wp2
   go_loopw [7,8] (fun x i wq=>∃j:Nat,j≤c.length∧i=.int .i64 j∧wq.ownsRow M 3 1 x j (ints ((c.map fun q=>(m.getD k []).getD q.toNat 0).take j))∧Below M wa wq) (fun _ i _=>c.length-(intOf i).toNat)
   case atStart=>exact ⟨0,Nat.zero_le _,rfl,World.ownsRow_nil _ _ _ _,Below.refl _ _⟩
   case round=>
    obtain ⟨j,hj,rfl,hown,hbel⟩:=hrel
    have HO:Hid (wr.ownsRow M 3 1 u7 j (ints ((c.map fun q=>(m.getD k []).getD q.toNat 0).take j))):=hown
    have HBq:Hid (Below M wa wr):=hbel
    have hszq:M≤wr.heap.size:=by have:=hbel.size; rw [HM.out]; exact this
    clear hown hbel
    by_cases hjl:j < c.length
    ·obtain ⟨b2,o2,cp2,hs2,hc2,hcc2a⟩:=sl_cell HUa.out hjl
     simp only [Value.slice.injEq] at hs2
     obtain ⟨rfl,_,rfl⟩:=hs2
     have hcc2:wr.cell? ⟨b2,o2+j,none⟩=some (.int .i64 (c.getD j 0)):=(HBq.out.cell (by rw [HM.out]; exact lt_of_cell hcc2a)).trans hcc2a
     have hcq:wr.cell? ⟨b,o+k,none⟩=some r1:=(HBq.out.cell (by rw [HM.out]; exact lt_of_cell hcc)).trans hcc
     have hmem:c.getD j 0∈c:=by simp [hjl]
     obtain ⟨hq1,hq2⟩:=HQ.out _ hmem
     have hq3:c.getD j 0 < (m.getD k []).length:=hq2 _ (by simp [hlt])
     clear hmem hq2
     obtain ⟨q,hqq⟩:=Int.eq_ofNat_of_zero_le hq1
     obtain ⟨z,hz⟩:∃z,z=(m.getD k []).getD q 0:=⟨_,rfl⟩
     have HZ:Hid ((c.map fun q=>(m.getD k []).getD q.toNat 0).take (j+1)=(c.map fun q=>(m.getD k []).getD q.toNat 0).take j ++ [z]):=by
      have e:=map_snoc (fun q=>(m.getD k []).getD q.toNat 0) c j hjl
      have e2:c[j]=(q:Int):=by rw [←hqq]; simp [hjl]
      rw [hz,←Int.toNat_natCast q,←e2]; exact e
     have HLL:Hid (((c.map fun q=>(m.getD k []).getD q.toNat 0).take j).length=j):=by
      show _=_
      simp; omega
     obtain ⟨b3,o3,cp3,hs3,hc3,hcc3a⟩:=sl_cell HR1.out (k:=q) (by omega)
     subst hs3
     rw [hqq] at hcc2 hq3 hcc2a
     rw [←hz] at hcc3a
     have hcc3:wr.cell? ⟨b3,o3+q,none⟩=some (.int .i64 z):=(HBq.out.cell (by rw [HM.out]; exact lt_of_cell hcc3a)).trans hcc3a
     generalize hln:(m.getD k []).length=ln at *
     have KA:Hid (((b < M∧wa.cell? ⟨b,o+k,none⟩=some (.slice (some ⟨b3,o3,none⟩) ln cp3))∧(b2 < M∧wa.cell? ⟨b2,o2+j,none⟩=some (.int .i64 q)))∧(b3 < M∧wa.cell? ⟨b3,o3+q,none⟩=some (.int .i64 z))):=by
      rw [HM.out]; exact ⟨⟨⟨lt_of_cell hcc,hcc⟩,⟨lt_of_cell hcc2a,hcc2a⟩⟩,⟨lt_of_cell hcc3a,hcc3a⟩⟩
     clear hcc2a hcc3a
     have hkI:(k:Int) < (m.length:Int):=by omega
     have hjI:(j:Int) < (c.length:Int):=by omega
     have hkI0:(0:Int)≤(k:Int):=by omega
     have hjI0:(0:Int)≤(j:Int):=by omega
     have hqI0:(0:Int)≤(q:Int):=by omega
     clear hqq hz hq1 hln
     go_wp2
     go_region_held3 (fun w'=>w'.cell? ⟨b,o+k,none⟩=some (.slice (some ⟨b3,o3,none⟩) ln cp3)∧w'.cell? ⟨b2,o2+j,none⟩=some (.int .i64 q)∧w'.cell? ⟨b3,o3+q,none⟩=some (.int .i64 z)) (first | go_keep | exact KS.out)
      ((refine step_append_own (by rfl) _ _ 26 (by rfl) M 3 i3 (.int .i64 0) 1 8 Tryz.underlying26 hi3 hz30 hz31 hz32 rfl (by decide) _ _ _ (by rfl) (HO.out.drew.alloc _) ⟨wr.heap.size,0,none⟩ 1 1 [.int .i64 z] (by rfl) rfl (one_new _ _ _) (one_int _) (by unfold maxLen; omega) (by omega) (by simp; omega) ?_; intro v' w3 ho hg; have RR:=push3 HBq.out hszq HLL.out HO.out ho hg (hz:=HZ.out); have KS:=keep3 (a1:=⟨b,o+k,none⟩) (a2:=⟨b2,o2+j,none⟩) (a3:=⟨b3,o3+q,none⟩) RR.2 KA.out))
     have R1:Hid (w3.ownsRow M 3 1 v' (j+1) (ints ((c.map fun q=>(m.getD k []).getD q.toNat 0).take (j+1)))):=RR.1
     have R2:Hid (Below M wa w3):=RR.2
     clear RR ho hg KS
     go_wp2
     go_roundw
     case rel=>exact ⟨j+1,by omega,by go_num,R1.out,R2.out⟩
     case measure=>simp [intOf]; omega
    ·have HX:Hid (Sl w.heap.size 3 wr u7 (ints (c.map fun q=>(m.getD k []).getD q.toNat 0))):=by
      have h:=HO.out
      rw [List.take_of_length_le (by simp; omega)] at h
      exact Sl.own h
     have HRq:Hid (Rws w.heap.size 26 3 wr u5 ((colsL m c).take k)):=HR.out.below HBq.out (by rw [HM.out]; exact Nat.le_refl _)
     have HBw:Hid (Below w.heap.size w wr):=HB.out.trans (HBq.out.mono hMs)
     obtain ⟨xo,xc,hxv⟩:=owns_form HO.out
     subst hxv
     obtain ⟨vs,g1,g2,g3⟩:=HRq.out
     have hlen:((colsL m c).take k).length=k:=by rw [List.length_take,colsL_length]; omega
     have HLN:Hid (((colsL m c).take k).length=k):=hlen
     rw [hlen] at g1 g2 g3
     have G1:Hid (vs.length=k):=g1
     have G2:Hid (wr.ownsRow w.heap.size 26 1 u5 k vs):=g2
     have G3:Hid (∀i,i < k→Sl w.heap.size 3 wr (vs.getD i (.slice none 0 0)) (ints (((colsL m c).take k).getD i []))):=g3
     clear g1 g2 g3 hlen HO
     go_wp2_with (first | (at_builtin; refine wpList_append_own _ rfl _ _ 22 rfl w.heap.size 26 i0 (.slice none 0 0) 1 24 Tryz.underlying22 hi hz0 hz1 hz2 rfl (by decide) _ _ _ rfl (G2.out.alloc _) ⟨wr.heap.size,0,none⟩ 1 1 [.slice xo j xc] rfl rfl (one_new _ _ _) (one_slice _ _ _) ?d3 ?d4 ?d5 ?_))
     case d3=>unfold maxLen; omega
     case d4=>omega
     case d5=>simp; omega
     intro v' w3 ho hg _
     have R1:Hid (Rws w.heap.size 26 3 w3 v' ((colsL m c).take (k+1))):=by
      have hp:=Rws.push (e2:=26) (e1:=3) (m:=(colsL m c).take k) (u:=.slice xo j xc) (zs:=c.map fun q=>(m.getD k []).getD q.toNat 0) (by decide) (by rw [HLN.out]; exact G1.out) (by rw [HLN.out]; exact G2.out.alloc _)
       (fun i hi=>(G3.out i (by rw [HLN.out] at hi; exact hi)).alloc _) (HX.out.alloc _) (by rw [HLN.out]; exact ho) hg
      rw [←colsL_snoc m c k hlt] at hp
      exact hp
     have R2:Hid (Below w.heap.size w w3):=(HBw.out.alloc (by omega) _).grown hg (by simp; omega) (fun x hx=>(G2.out.lt x hx).1)
     clear ho hg
     go_wp2
     go_roundw
     case rel=>exact ⟨k+1,by omega,by go_num,R1.out,R2.out⟩
     case measure=>simp [intOf]; omega
  ·go_wp2
   go_ret
   have h:=HR.out
   rw [List.take_of_length_le (by rw [colsL_length]; omega)] at h
   exact ⟨_,rfl,h,HB.out⟩
end Go.Proofs.YtcoeneldaohpnaaGreat
