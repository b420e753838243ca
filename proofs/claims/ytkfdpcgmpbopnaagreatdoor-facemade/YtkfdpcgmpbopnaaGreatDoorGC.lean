import Derived.Test.YtkfdpcgmpbopnaaGreatDoorGB
namespace Go.Proofs.YtkfdpcgmpbopnaaGreatDoor
open Go.RowKit Lin
attribute [local go_sem ↓] Go.wp_at_zero Go.wp_at_succ
set_option maxRecDepth 100000 in
set_option maxHeartbeats 1600000 in
theorem told_any (B:Nat) (A:List Nat) (v:Value) (w:World) (hv:Sl B 74 w v (u64s A)) (hA:∀x∈A,x < 1024) (hl:A.length≤5000) (hT:TabB w) :
  Calls Tryz.prog 33 #[v] w fun e w'=>∃u m',e=.returned u∧Fr w.heap.size 22 3 w' u m'∧Inor m' (A.map memL)∧Below w.heap.size w w':=by
 obtain ⟨i0,hi0,hz0,hz1,hz2⟩:=info_parts Tryz.info22
 have hv0:=hv
 obtain ⟨ao,cap,hvv,hlc,hcm,_,_⟩:=hv0
 rw [u64s_len] at hvv hlc
 subst hvv
 have HV:Hid (∀W k,Below w.heap.size w W→k < A.length→∃b o,ao=some ⟨b,o,none⟩∧W.cell? ⟨b,o+k,none⟩=some (.int .u64 ((A.getD k 0:Nat):Int))):=fun W k hb hk=>by
  obtain ⟨ao2,c2,e2,_,_,h5,_⟩:=(hv.below hb (Nat.le_refl _))
  simp only [Value.slice.injEq] at e2
  obtain ⟨b,o,e3,h6,_⟩:=h5 k (by rw [u64s_len]; exact hk)
  refine ⟨b,o,e2.1.trans e3,?_⟩
  rw [h6]
  simp [u64s,hk]
 have HLI:Hid (∀W k,Below w.heap.size w W→k < A.length→Calls Tryz.prog 53 #[.int .u64 ((A.getD k 0:Nat):Int)] W fun e w'=>∃uo uc,e=.returned (.slice uo (memL (A.getD k 0)).length uc)∧Sl 0 3 w' (.slice uo (memL (A.getD k 0)).length uc) (ints (memL (A.getD k 0)))∧Below W.heap.size W w'):=fun W k hb hk=>by
  refine (list10_any (A.getD k 0) (hA _ (by simp [hk])) W (hT.below hb)).mono ?_
  rintro e w' ⟨u,rfl,h1,h2⟩
  obtain ⟨uo,uc,rfl⟩:=owns_form h1
  exact ⟨uo,uc,rfl,Sl.own h1,h2⟩
 have HTK:Hid (∀k,k < A.length→(A.take (k+1)).map memL=(A.take k).map memL ++ [memL (A.getD k 0)]):=fun k hk=>by
  rw [List.take_succ_eq_append_getElem hk,List.map_append]
  simp [hk]
 have HAL:Hid ((A.take A.length).map memL=A.map memL):=by show _=_; rw [List.take_length]
 clear hv hT hA
 go_enter Tryz.func33,Tryz.ntmps33
 go_wp2
 go_loopw [3,5,8] (fun x _ i wr=>∃k:Nat,k≤A.length∧i=.int .i64 (k:Int)∧Fr w.heap.size 22 3 wr x ((A.take k).map memL)∧Below w.heap.size w wr) (fun _ _ i _=>A.length-(intOf i).toNat)
 case atStart=>exact ⟨0,Nat.zero_le _,rfl,⟨[],rfl,World.ownsRow_nil _ _ _ _,fun i hi=>by simp at hi⟩,Below.refl _ _⟩
 case round=>
  obtain ⟨k,hk,rfl,hf,hb⟩:=hrel
  obtain ⟨wa,rfl⟩:∃wa,wa=wr:=⟨wr,rfl⟩
  have HB:Hid (Below w.heap.size w wa):=hb
  have hkl:((A.take k).map memL).length=k:=by simp; omega
  have hform:=fr_open hf
  rw [hkl] at hform
  obtain ⟨xo,xc,hx,_,_⟩:=hform
  subst hx
  have HF:Hid (Fr w.heap.size 22 3 wa (.slice xo k xc) ((A.take k).map memL)):=hf
  have HKL:Hid (((A.take k).map memL).length=k):=hkl
  clear hf hb hkl
  by_cases hlt:k < A.length
  ·obtain ⟨b,o,hao,hcc⟩:=HV.out wa k HB.out hlt
   have H2:=HLI.out wa k HB.out hlt
   have hT2:=HTK.out k hlt
   have HT2:Hid ((A.take (k+1)).map memL=(A.take k).map memL ++ [memL (A.getD k 0)]):=hT2
   have hkI:(k:Int) < (A.length:Int):=by omega
   subst hao
   clear HV HLI hT2 HTK HAL
   generalize A.getD k 0=x at *
   go_wp2_with fail
   refine H2.mono ?_
   rintro e w2 ⟨uo,uc,rfl,hu,hb2⟩
   obtain ⟨vs,f1,f2,f3⟩:=HF.out.below hb2 (Nat.le_refl _)
   rw [HKL.out] at f1 f2
   have HO:Hid (w2.ownsRow w.heap.size 22 1 (.slice xo k xc) k vs):=f2
   have HB2:Hid (Below w.heap.size w w2):=HB.out.trans (hb2.mono HB.out.size)
   have HPU:Hid (∀v' w3,w3.ownsRow w.heap.size 22 1 v' (k+1) (vs ++ [.slice uo (memL x).length uc])→(w2.alloc (.cells #[.slice uo (memL x).length uc] 22)).grownBy w3 (Value.slice xo k xc).ownBlock→Fr w.heap.size 22 3 w3 v' ((A.take (k+1)).map memL)):=fun v' w3 ho hg=>by
    rw [HT2.out]
    exact Fr.push (m:=(A.take k).map memL) (by decide) (by rw [HKL.out]; exact f1) (by rw [HKL.out]; exact f2.alloc _) (fun i hi=>(f3 i hi).alloc _) (hu.alloc _) (by rw [HKL.out]; exact ho) hg
   have hsz:w.heap.size≤w2.heap.size:=HB2.out.size
   clear f1 f2 f3 hu hb2 H2 hcc HT2 HF
   generalize (memL x).length=ml at *
   go_wp2_with (first | (at_builtin; refine wpList_append_own _ rfl _ _ 25 rfl w.heap.size 22 i0 (.slice none 0 0) 1 24 Tryz.underlying25 hi0 hz0 hz1 hz2 rfl (by decide) _ _ _ rfl (HO.out.alloc _) ⟨w2.heap.size,0,none⟩ 1 1 [.slice uo ml uc] rfl rfl (one_new _ _ _) (one_slice _ _ _) ?c3 ?c4 ?c5 ?_))
   case c3=>unfold maxLen; omega
   case c4=>omega
   case c5=>simp; omega
   intro v' w3 ho hg _
   have HNX:Hid (Fr w.heap.size 22 3 w3 v' ((A.take (k+1)).map memL)):=HPU.out v' w3 ho hg
   have HB3:Hid (Below w.heap.size w w3):=(HB2.out.alloc hsz _).grown hg (by simp; omega) (fun y hy=>(HO.out.lt y hy).1)
   clear ho hg
   go_wp2
   go_roundw
   case rel=>exact ⟨k+1,by omega,by go_num,HNX.out,HB3.out⟩
   case measure=>simp [intOf]; omega
  ·have hke:k=A.length:=by omega
   subst hke
   have HIO:Hid (Calls Tryz.prog 54 #[.slice xo A.length xc] wa fun e w'=>∃u m',e=.returned u∧Fr w.heap.size 22 3 w' u m'∧Inor m' (A.map memL)∧Below w.heap.size wa w'):=by
    have:=inOrder_any w.heap.size ((A.take A.length).map memL) (.slice xo A.length xc) wa HF.out (by rw [HKL.out]; omega)
    rw [HAL.out] at this
    exact this
   clear HV HLI HTK HAL HF HKL
   go_wp2_with fail
   refine HIO.out.mono ?_
   rintro e w4 ⟨u,m',rfl,h1,h2,h3⟩
   have HR:Hid (Fr w.heap.size 22 3 w4 u m'∧Inor m' (A.map memL)∧Below w.heap.size w w4):=⟨h1,h2,HB.out.trans h3⟩
   clear h1 h2 h3
   go_wp2
   go_ret
   exact ⟨u,m',rfl,HR.out⟩
end Go.Proofs.YtkfdpcgmpbopnaaGreatDoor
namespace Go.Proofs.YtkfdpcgmpbopnaaGreatDoor
open Go.RowKit Lin
attribute [local go_sem ↓] Go.wp_at_zero Go.wp_at_succ
def cnF (L:Nat→Nat) (n:Nat):List Int:=(List.range n).map fun t=>(L t:Int)
theorem cnF_len (L:Nat→Nat) (n:Nat):(cnF L n).length=n:=by simp [cnF]
theorem cnF_succ (L:Nat→Nat) (n:Nat):ints (cnF L (n+1))=ints (cnF L n) ++ [.int .i64 (L n:Int)]:=by
 simp [cnF,List.range_succ,ints]
set_option maxRecDepth 100000 in
set_option maxHeartbeats 800000 in
theorem countsF_any (g n cap:Nat) (vs:List Value) (L:Nat→Nat) (w:World) (hg:w.heap[g]?=some (.cells vs.toArray 58 (0,0))) (hn:n≤vs.length) (hn100:n≤100) (hv:∀t,t < n→∃ao cp,vs.getD t undef=.slice ao (L t) cp) :
  Calls Tryz.prog 34 #[.slice (some ⟨g,0,none⟩) n cap] w fun e w'=>∃u,e=.returned u∧w'.ownsRow w.heap.size 3 1 u n (ints (cnF L n))∧Below w.heap.size w w':=by
 obtain ⟨i3,hi3,hz30,hz31,hz32⟩:=info_parts Tryz.info3
 have HCL:Hid (∀W k,Below w.heap.size w W→k < n→∃ao cp,W.cell? ⟨g,k,none⟩=some (.slice ao (L k) cp)):=fun W k hb hk=>by
  obtain ⟨ao,cp,e⟩:=hv k hk
  have h0:=(hb.block g (lt_of_block hg)).trans hg
  refine ⟨ao,cp,?_⟩
  rw [←e]
  simp [World.cell?,h0,show k < vs.length by omega]
 clear hg hv
 go_enter Tryz.func34,Tryz.ntmps34
 go_wp2
 go_loopw [3,5,8] (fun x _ i wr=>∃k:Nat,k≤n∧i=.int .i64 (k:Int)∧wr.ownsRow w.heap.size 3 1 x k (ints (cnF L k))∧Below w.heap.size w wr) (fun _ _ i _=>n-(intOf i).toNat)
 case atStart=>exact ⟨0,Nat.zero_le _,rfl,World.ownsRow_nil _ _ _ _,Below.refl _ _⟩
 case round=>
  obtain ⟨k,hk,rfl,ho,hb⟩:=hrel
  obtain ⟨xo,xc,hx⟩:=owns_form ho
  subst hx
  have HO:Hid (wr.ownsRow w.heap.size 3 1 (.slice xo k xc) k (ints (cnF L k))):=ho
  have HB:Hid (Below w.heap.size w wr):=hb
  have hsz:w.heap.size≤wr.heap.size:=hb.size
  clear ho hb
  by_cases hlt:k < n
  ·obtain ⟨ao,cp,hc⟩:=HCL.out wr k HB.out hlt
   have hkI:(k:Int) < (n:Int):=by omega
   have HS:Hid (ints (cnF L (k+1))=ints (cnF L k) ++ [.int .i64 (L k:Int)]):=cnF_succ L k
   clear HCL
   generalize L k=lk at *
   go_wp2_with (first | (at_builtin; refine wpList_append_own _ rfl _ _ 22 rfl w.heap.size 3 i3 (.int .i64 0) 1 8 Tryz.underlying22 hi3 hz30 hz31 hz32 rfl (by decide) _ _ _ rfl (HO.out.alloc _) ⟨wr.heap.size,0,none⟩ 1 1 [.int .i64 (lk:Int)] rfl rfl (one_new _ _ _) (one_int _) ?c3 ?c4 ?c5 ?_))
   case c3=>unfold maxLen; omega
   case c4=>omega
   case c5=>first | exact hsz | omega | (simp; omega)
   intro v' w3 ho hg _
   have HNX:Hid (w3.ownsRow w.heap.size 3 1 v' (k+1) (ints (cnF L (k+1)))):=by rw [HS.out]; exact ho
   have HB3:Hid (Below w.heap.size w w3):=(HB.out.alloc hsz _).grown hg (by simp; omega) (fun y hy=>(HO.out.lt y hy).1)
   clear ho hg hc
   go_wp2
   go_roundw
   case rel=>exact ⟨k+1,by omega,by go_num,HNX.out,HB3.out⟩
   case measure=>simp [intOf]; omega
  ·have hke:k=n:=by omega
   subst hke
   clear HCL
   go_wp2
   go_ret
   exact ⟨_,rfl,HO.out,HB.out⟩
end Go.Proofs.YtkfdpcgmpbopnaaGreatDoor
namespace Go.Proofs.YtkfdpcgmpbopnaaGreatDoor
open Go.RowKit Lin
attribute [local go_sem ↓] Go.wp_at_zero Go.wp_at_succ
def u64z (zs:List Int):List Value:=zs.map (Value.int .u64)
theorem u64z_natI (A:List Nat):u64z (natI A)=u64s A:=by simp [u64z,natI,u64s]
theorem sl_openU {B:Nat} {w:World} {v:Value} {zs:List Int} (h:Sl B 74 w v (u64z zs)):∃ao cap,v=.slice ao zs.length cap∧zs.length≤cap∧cap≤9223372036854775807:=by
 obtain ⟨ao,cap,h1,h2,h3,_⟩:=h
 have e:(u64z zs).length=zs.length:=by simp [u64z]
 rw [e] at h1 h2
 exact ⟨ao,cap,h1,h2,by unfold maxLen at h3; omega⟩
theorem sl_cellU {B:Nat} {w:World} {v:Value} {zs:List Int} (h:Sl B 74 w v (u64z zs)) {k:Nat} (hk:k < zs.length) :
  ∃b o cap,v=.slice (some ⟨b,o,none⟩) zs.length cap∧cap≤9223372036854775807∧w.cell? ⟨b,o+k,none⟩=some (.int .u64 (zs.getD k 0)):=by
 obtain ⟨ao,cap,h1,h2,h3,h4,_⟩:=h
 have e:(u64z zs).length=zs.length:=by simp [u64z]
 rw [e] at h1 h2 h4
 obtain ⟨b,o,rfl,hc,_⟩:=h4 k hk
 refine ⟨b,o,cap,h1,by unfold maxLen at h3; omega,?_⟩
 rw [hc]
 simp [u64z,hk]
set_option maxRecDepth 100000 in
set_option maxHeartbeats 400000 in
theorem idxSmp_any (B:Nat) (p:Int→Bool) (zs:List Int) (v:Value) (p1:Addr) (w:World) (hv:Sl B 3 w v (ints zs))
  (hc:∀x∈zs,∀W',Below w.heap.size w W'→Calls Tryz.prog 59 #[.int .i64 x,.pointer (some p1)] W' fun e w'=>e=.returned (.bool (p x))∧Below W'.heap.size W' w') :
  Calls Tryz.prog 81 #[v,.func (.func 59) #[] #[.pointer (some p1)]] w fun e w'=>e=.returned (.int .i64 (findI p zs))∧Below w.heap.size w w':=by
 obtain ⟨ao,cap,hvv,hlc,hcm⟩:=sl_open hv
 subst hvv
 have HV:Hid (Sl B 3 w (.slice ao zs.length cap) (ints zs)):=hv
 have HIL:Hid (∀x∈zs,∀W',Below w.heap.size w W'→Calls Tryz.prog 59 #[.int .i64 x,.pointer (some p1)] W' fun e w'=>e=.returned (.bool (p x))∧Below W'.heap.size W' w'):=hc
 clear hv hc
 go_enter Tryz.func81,Tryz.ntmps81
 go_wp2
 go_loopw [5,8] (fun _ i wr=>∃k:Nat,k≤zs.length∧i=.int .i64 k∧(zs.take k).any p=false∧Below w.heap.size w wr) (fun _ i _=>zs.length-(intOf i).toNat)
 case atStart=>exact ⟨0,Nat.zero_le _,rfl,by simp,Below.refl _ _⟩
 case round=>
  obtain ⟨k,hk,rfl,hno,hbr⟩:=hrel
  have HN:Hid ((zs.take k).any p=false):=hno
  have HBR:Hid (Below w.heap.size w wr):=hbr
  clear hno hbr
  by_cases hlt:k < zs.length
  ·obtain ⟨b',o,cp,hs,hc1,hcc⟩:=sl_cell (HV.out.below HBR.out (Nat.le_refl _)) hlt
   simp only [Value.slice.injEq] at hs
   obtain ⟨rfl,_,rfl⟩:=hs
   have HS1:Hid ((zs.take (k+1)).any p=p zs[k]):=any_snoc (p:=p) hlt HN.out
   have HH:Hid (p zs[k]=true→findI p zs=k):=fun h=>findI_hit (p:=p) hlt HN.out h
   rw [show zs.getD k 0=zs[k] by simp [hlt]] at hcc
   have HIX:Hid (Calls Tryz.prog 59 #[.int .i64 zs[k],.pointer (some p1)] wr fun e w'=>e=.returned (.bool (p zs[k]))∧Below wr.heap.size wr w'):=HIL.out _ (List.getElem_mem _) wr HBR.out
   generalize zs[k]=x at *
   generalize p x=fb at *
   cases fb
   ·go_wp2_with fail
    refine HIX.out.mono ?_
    rintro e w2 ⟨rfl,hb2⟩
    have HB2:Hid (Below w.heap.size w w2):=HBR.out.trans (hb2.mono HBR.out.size)
    clear hb2
    go_wp2
    go_roundw
    case rel=>exact ⟨k+1,by omega,by go_num,HS1.out,HB2.out⟩
    case measure=>simp [intOf]; omega
   ·have HH2:Hid (findI p zs=k):=HH.out rfl
    clear HH
    go_wp2_with fail
    refine HIX.out.mono ?_
    rintro e w2 ⟨rfl,hb2⟩
    have HB2:Hid (Below w.heap.size w w2):=HBR.out.trans (hb2.mono HBR.out.size)
    clear hb2
    go_wp2
    go_ret
    exact ⟨ret_int HH2.out.symm,HB2.out⟩
  ·have e:zs.take k=zs:=List.take_of_length_le (by omega)
   rw [e] at HN
   have HF:Hid (findI p zs=-1):=findI_none HN.out
   go_wp2
   go_ret
   exact ⟨ret_int HF.out.symm,HBR.out⟩
set_option maxRecDepth 100000 in
theorem hasSmp_any (B:Nat) (p:Int→Bool) (zs:List Int) (v:Value) (p1:Addr) (w:World) (hv:Sl B 3 w v (ints zs))
  (hc:∀x∈zs,∀W',Below w.heap.size w W'→Calls Tryz.prog 59 #[.int .i64 x,.pointer (some p1)] W' fun e w'=>e=.returned (.bool (p x))∧Below W'.heap.size W' w') :
  Calls Tryz.prog 58 #[v,.func (.func 59) #[] #[.pointer (some p1)]] w fun e w'=>e=.returned (.bool (zs.any p))∧Below w.heap.size w w':=by
 have HII:=idxSmp_any B p zs v p1 w hv hc
 go_enter Tryz.func58,Tryz.ntmps58
 go_wp2_with fail
 refine HII.mono ?_
 rintro e w' ⟨rfl,hb⟩
 have HB:Hid (Below w.heap.size w w'):=hb
 clear hb HII
 go_wp2
 go_ret
 exact ⟨ret_bool findI_ge,HB.out⟩
set_option maxRecDepth 100000 in
set_option maxHeartbeats 400000 in
theorem idxSlp_any (B:Nat) (p:Int→Bool) (zs:List Int) (v:Value) (p1:Addr) (w:World) (hv:Sl B 74 w v (u64z zs))
  (hc:∀x∈zs,∀W',Below w.heap.size w W'→Calls Tryz.prog 56 #[.int .u64 x,.pointer (some p1)] W' fun e w'=>e=.returned (.bool (p x))∧Below W'.heap.size W' w') :
  Calls Tryz.prog 79 #[v,.func (.func 56) #[] #[.pointer (some p1)]] w fun e w'=>e=.returned (.int .i64 (findI p zs))∧Below w.heap.size w w':=by
 obtain ⟨ao,cap,hvv,hlc,hcm⟩:=sl_openU hv
 subst hvv
 have HV:Hid (Sl B 74 w (.slice ao zs.length cap) (u64z zs)):=hv
 have HIL:Hid (∀x∈zs,∀W',Below w.heap.size w W'→Calls Tryz.prog 56 #[.int .u64 x,.pointer (some p1)] W' fun e w'=>e=.returned (.bool (p x))∧Below W'.heap.size W' w'):=hc
 clear hv hc
 go_enter Tryz.func79,Tryz.ntmps79
 go_wp2
 go_loopw [5,8] (fun _ i wr=>∃k:Nat,k≤zs.length∧i=.int .i64 k∧(zs.take k).any p=false∧Below w.heap.size w wr) (fun _ i _=>zs.length-(intOf i).toNat)
 case atStart=>exact ⟨0,Nat.zero_le _,rfl,by simp,Below.refl _ _⟩
 case round=>
  obtain ⟨k,hk,rfl,hno,hbr⟩:=hrel
  have HN:Hid ((zs.take k).any p=false):=hno
  have HBR:Hid (Below w.heap.size w wr):=hbr
  clear hno hbr
  by_cases hlt:k < zs.length
  ·obtain ⟨b',o,cp,hs,hc1,hcc⟩:=sl_cellU (HV.out.below HBR.out (Nat.le_refl _)) hlt
   simp only [Value.slice.injEq] at hs
   obtain ⟨rfl,_,rfl⟩:=hs
   have HS1:Hid ((zs.take (k+1)).any p=p zs[k]):=any_snoc (p:=p) hlt HN.out
   have HH:Hid (p zs[k]=true→findI p zs=k):=fun h=>findI_hit (p:=p) hlt HN.out h
   rw [show zs.getD k 0=zs[k] by simp [hlt]] at hcc
   have HIX:Hid (Calls Tryz.prog 56 #[.int .u64 zs[k],.pointer (some p1)] wr fun e w'=>e=.returned (.bool (p zs[k]))∧Below wr.heap.size wr w'):=HIL.out _ (List.getElem_mem _) wr HBR.out
   generalize zs[k]=x at *
   generalize p x=fb at *
   cases fb
   ·go_wp2_with fail
    refine HIX.out.mono ?_
    rintro e w2 ⟨rfl,hb2⟩
    have HB2:Hid (Below w.heap.size w w2):=HBR.out.trans (hb2.mono HBR.out.size)
    clear hb2
    go_wp2
    go_roundw
    case rel=>exact ⟨k+1,by omega,by go_num,HS1.out,HB2.out⟩
    case measure=>simp [intOf]; omega
   ·have HH2:Hid (findI p zs=k):=HH.out rfl
    clear HH
    go_wp2_with fail
    refine HIX.out.mono ?_
    rintro e w2 ⟨rfl,hb2⟩
    have HB2:Hid (Below w.heap.size w w2):=HBR.out.trans (hb2.mono HBR.out.size)
    clear hb2
    go_wp2
    go_ret
    exact ⟨ret_int HH2.out.symm,HB2.out⟩
  ·have e:zs.take k=zs:=List.take_of_length_le (by omega)
   rw [e] at HN
   have HF:Hid (findI p zs=-1):=findI_none HN.out
   go_wp2
   go_ret
   exact ⟨ret_int HF.out.symm,HBR.out⟩
set_option maxRecDepth 100000 in
theorem hasSlp_any (B:Nat) (p:Int→Bool) (zs:List Int) (v:Value) (p1:Addr) (w:World) (hv:Sl B 74 w v (u64z zs))
  (hc:∀x∈zs,∀W',Below w.heap.size w W'→Calls Tryz.prog 56 #[.int .u64 x,.pointer (some p1)] W' fun e w'=>e=.returned (.bool (p x))∧Below W'.heap.size W' w') :
  Calls Tryz.prog 55 #[v,.func (.func 56) #[] #[.pointer (some p1)]] w fun e w'=>e=.returned (.bool (zs.any p))∧Below w.heap.size w w':=by
 have HII:=idxSlp_any B p zs v p1 w hv hc
 go_enter Tryz.func55,Tryz.ntmps55
 go_wp2_with fail
 refine HII.mono ?_
 rintro e w' ⟨rfl,hb⟩
 have HB:Hid (Below w.heap.size w w'):=hb
 clear hb HII
 go_wp2
 go_ret
 exact ⟨ret_bool findI_ge,HB.out⟩
set_option maxRecDepth 100000 in
set_option maxHeartbeats 800000 in
theorem isSimple1_any (x:Int) (d g:Nat) (cv rv sv:Value) (w:World) (hb:w.heap[g]?=some (.cells #[.int .i64 d,cv,rv,sv] 60 (0,0))) :
  Calls Tryz.prog 59 #[.int .i64 x,.pointer (some ⟨g,0,none⟩)] w fun e w'=>e=.returned (.bool (x != (d:Int)))∧Below w.heap.size w w':=by
 have c0:w.cell? ⟨g,0,none⟩=some (.int .i64 d):=by simp [World.cell?,hb]
 clear hb
 go_enter Tryz.func59,Tryz.ntmps59
 go_wp2
 go_ret
 exact ⟨rfl,Below.refl _ _⟩
set_option maxRecDepth 100000 in
set_option maxHeartbeats 800000 in
theorem isSimplicial1_any (x d g:Nat) (cv rv sv:Value) (w:World) (hx:x < 1024) (hb:w.heap[g]?=some (.cells #[.int .i64 d,cv,rv,sv] 60 (0,0))) :
  Calls Tryz.prog 56 #[.int .u64 (x:Int),.pointer (some ⟨g,0,none⟩)] w fun e w'=>e=.returned (.bool (((memL x).length:Int) != (d:Int)))∧Below w.heap.size w w':=by
 have c0:w.cell? ⟨g,0,none⟩=some (.int .i64 d):=by simp [World.cell?,hb]
 have HL:Hid (∀W,Calls Tryz.prog 57 #[.int .u64 (x:Int)] W fun e w'=>e=.returned (.int .i64 (memL x).length)∧w'=W):=fun W=>len10_any x hx W
 clear hb
 generalize (memL x).length=ml at *
 go_enter Tryz.func56,Tryz.ntmps56
 go_upto_region 1 with fail
 refine wp_region_held_drew (S:=fun w'=>w'.cell? ⟨g,0,none⟩=some (.int .i64 d)) (by kernel_rfl) c0 (fun hHeld=>?_)
 refine wpAnyH_tk (i:=0) (d:=4) (v:=(.int .u64 (x:Int))) rfl rfl (by kernel_rfl) (by kernel_rfl) (by kernel_rfl) (fun _ _ _ h=>h) (.inl ⟨by rfl,by (intro wq hSw; (try dsimp only at hSw); go_simp; (try (first | rfl | omega)))⟩) hHeld ?_
 simp only [Act.put,List.setIfInBounds_toArray,List.set_cons_zero,List.set_cons_succ]
 refine wpAnyH_tk (i:=2) (d:=6) (v:=(.pointer (some ⟨g,0,none⟩))) rfl rfl (by kernel_rfl) (by kernel_rfl) (by kernel_rfl) (fun _ _ _ h=>h) (.inl ⟨by rfl,by (intro wq hSw; (try dsimp only at hSw); go_simp; (try (first | rfl | omega)))⟩) hHeld ?_
 simp only [Act.put,List.setIfInBounds_toArray,List.set_cons_zero,List.set_cons_succ]
 refine wpAnyH_tk (i:=3) (d:=7) (v:=(.int .i64 d)) rfl rfl (by kernel_rfl) (by kernel_rfl) (by kernel_rfl) (fun _ _ _ h=>h) (.inl ⟨by rfl,by (intro wq hSw; (try dsimp only at hSw); go_simp; (try (first | rfl | omega)))⟩) hHeld ?_
 simp only [Act.put,List.setIfInBounds_toArray,List.set_cons_zero,List.set_cons_succ]
 refine wpAnyH_ready (rs:=[1]) (by kernel_rfl) (by simp) ?_
 refine ready_tk (i:=1) rfl (by rfl) (fun K hK=>?_) AllReadyH.nil
 go_simp
 refine (HL.out _).mono ?_
 rintro e w2 ⟨rfl,rfl⟩
 refine hK.out _ _ hHeld (fun hHeld=>?_)
 clear hK K
 refine wpAnyH_tk (i:=4) (d:=8) (v:=(.bool ((ml:Int) != (d:Int)))) rfl rfl (by kernel_rfl) (by kernel_rfl) (by kernel_rfl) (fun _ _ _ h=>h) (.inl ⟨by rfl,by (intro wq hSw; (try dsimp only at hSw); go_simp; (try (first | rfl | omega)))⟩) hHeld ?_
 simp only [Act.put,List.setIfInBounds_toArray,List.set_cons_zero,List.set_cons_succ]
 refine wpAnyH_tk (i:=5) (d:=3) (v:=(.bool ((ml:Int) != (d:Int)))) rfl rfl (by kernel_rfl) (by kernel_rfl) (by kernel_rfl) (fun _ _ _ h=>h) (.inl ⟨by rfl,by (intro wq hSw; (try dsimp only at hSw); go_simp; (try (first | rfl | omega)))⟩) hHeld ?_
 simp only [Act.put,List.setIfInBounds_toArray,List.set_cons_zero,List.set_cons_succ]
 refine wpAnyH_done (by kernel_rfl) ?_ _
 clear hHeld
 go_wp2
 go_ret
 exact ⟨rfl,(Below.refl _ _).drew⟩
def splB (d:Nat) (S:List Nat):Bool:=S.all fun x=>decide ((memL x).length=d)
set_option maxRecDepth 100000 in
set_option maxHeartbeats 800000 in
theorem isSimplicial_any (d:Nat) (cv rv:Value) (so:Option Addr) (sc:Nat) (S:List Nat) (w:World) (hS:Sl w.heap.size 74 w (.slice so S.length sc) (u64s S)) (hS1:∀t∈S,t < 1024) :
  Calls Tryz.prog 35 #[.agg #[.int .i64 d,cv,rv,.slice so S.length sc]] w fun e w'=>e=.returned (.bool (splB d S))∧Below w.heap.size w w':=by
 obtain ⟨W,hW⟩:∃W,W=w.alloc (.cells #[.int .i64 d,cv,rv,.slice so S.length sc] 60):=⟨_,rfl⟩
 have HB:Hid (Below w.heap.size w W):=by rw [hW]; exact alloc_keep _ _
 have hsW:W.heap.size=w.heap.size+1:=by rw [hW]; exact size_alloc _ _
 have hb0:W.heap[w.heap.size]?=some (.cells #[.int .i64 d,cv,rv,.slice so S.length sc] 60 (0,0)):=by rw [hW]; exact alloc_at _ _
 have c3:W.cell? ⟨w.heap.size,3,none⟩=some (.slice so S.length sc):=by simp [World.cell?,hb0]
 have HH:Hid (Calls Tryz.prog 55 #[.slice so S.length sc,.func (.func 56) #[] #[.pointer (some ⟨w.heap.size,0,none⟩)]] W fun e w'=>e=.returned (.bool (!splB d S))∧Below W.heap.size W w'):=by
  have h:=hasSlp_any w.heap.size (fun z=>((memL z.toNat).length:Int) != (d:Int)) (natI S) (.slice so S.length sc) ⟨w.heap.size,0,none⟩ W (by rw [u64z_natI]; exact hS.below HB.out (Nat.le_refl _)) (fun x hx W' hb'=>by
   obtain ⟨a,ha,rfl⟩:=List.mem_map.1 hx
   exact isSimplicial1_any a d w.heap.size cv rv _ W' (hS1 a ha) ((hb'.block _ (by omega)).trans hb0))
  have e:(natI S).any (fun z=>((memL z.toNat).length:Int) != (d:Int))=!splB d S:=by
   rw [Bool.eq_iff_iff]
   simp only [natI,List.any_eq_true,List.mem_map,splB,Bool.not_eq_true',List.all_eq_false,decide_eq_true_eq]
   constructor
   ·rintro ⟨_,⟨a,ha,rfl⟩,hne⟩
    exact ⟨a,ha,by simp at hne; omega⟩
   ·rintro ⟨a,ha,hne⟩
    exact ⟨_,⟨a,ha,rfl⟩,by simp; omega⟩
  rw [e] at h
  exact h
 clear hS hS1 hb0
 generalize splB d S=q at *
 go_enter Tryz.func35,Tryz.ntmps35
 go_wp2_with fail
 rw [←hW]
 clear hW
 refine HH.out.mono ?_
 rintro e w2 ⟨rfl,hb2⟩
 have HB2:Hid (Below w.heap.size w w2):=HB.out.trans (hb2.mono HB.out.size)
 clear hb2
 go_wp2
 go_ret
 exact ⟨by simp,HB2.out⟩
end Go.Proofs.YtkfdpcgmpbopnaaGreatDoor
namespace Go.Proofs.YtkfdpcgmpbopnaaGreatDoor
open Go.RowKit Lin
attribute [local go_sem ↓] Go.wp_at_zero Go.wp_at_succ
theorem rowF_own {B g n cap:Nat} {e:TypeId} {w:World} {F:Nat→Value} {l:List Int} (h:w.rowIs g e cap F) (hB:B≤g) (hl:l.length=n) (hF:∀i,i < n→F i=.int .i64 (l.getD i 0)) (hnc:n≤cap) (hcm:cap≤9223372036854775807):w.ownsRow B e 1 (.slice (some ⟨g,0,none⟩) n cap) n (ints l):=by
 obtain ⟨cur,hh,hs,hc⟩:=h
 refine ⟨by simp [ints,hl],Or.inr ⟨g,cap,cur,rfl,hB,hh,hnc,by unfold maxLen; exact hcm,by omega,?_⟩⟩
 apply List.ext_getElem?
 intro i
 rw [Nat.mul_one]
 by_cases hi:i < n
 ·rw [List.getElem?_take_of_lt hi,Array.getElem?_toList,hc i (by omega),hF i hi]
  simp [ints,show i < l.length by omega]
 ·rw [List.getElem?_eq_none (by simp; omega),List.getElem?_eq_none (by simp [ints]; omega)]
def cnA (S:List Nat) (i j:Nat):Int:=(((S.take i).filter fun s=>s.testBit j).length:Nat)
theorem cnA_bd (S:List Nat) (i j:Nat):0≤cnA S i j∧cnA S i j≤S.length:=by
 unfold cnA
 have h1:=List.length_filter_le (fun s:Nat=>s.testBit j) (S.take i)
 have h2:=List.length_take_le' i S
 omega
theorem cnA_succ {S:List Nat} {i:Nat} (h:i < S.length) (j:Nat):cnA S (i+1) j=cnA S i j+if (S.getD i 0).testBit j then 1 else 0:=by
 unfold cnA
 rw [List.take_succ_eq_append_getElem h,List.filter_append,List.length_append]
 have e:S.getD i 0=S[i]:=by simp [h]
 rw [e]
 by_cases hb:S[i].testBit j
 ·simp [hb]
 ·simp [hb]
def cnQ (S:List Nat) (i:Nat) (l:List Int) (q j:Nat):Int:=cnA S i j+if (j:Int)∈l.take q then 1 else 0
theorem cnQ_bd (S:List Nat) (i:Nat) (l:List Int) (q j:Nat):0≤cnQ S i l q j∧cnQ S i l q j≤S.length+1:=by
 have:=cnA_bd S i j
 unfold cnQ
 split <;> omega
theorem cnQ_zero (S:List Nat) (i:Nat) (l:List Int) (j:Nat):cnQ S i l 0 j=cnA S i j:=by simp [cnQ]
theorem cnQ_succ {S:List Nat} {i:Nat} {l:List Int} (hl:Ris l) {q x:Nat} (hq:q < l.length) (hx:l.getD q 0=(x:Int)) (j:Nat):cnQ S i l (q+1) j=if j=x then cnQ S i l q j+1 else cnQ S i l q j:=by
 have e:l.take (q+1)=l.take q ++ [(x:Int)]:=by
  rw [List.take_succ_eq_append_getElem hq]
  have:l[q]=(x:Int):=by rw [←hx]; simp [hq]
  rw [this]
 have hno:(x:Int)∉l.take q:=fun h=>by
  obtain ⟨k,hk,hk2⟩:=List.getElem_of_mem h
  rw [List.getElem_take] at hk2
  have hk3:k < q:=by rw [List.length_take] at hk; omega
  have:=List.pairwise_iff_getElem.1 hl k q (by omega) hq hk3
  have hx2:l[q]=(x:Int):=by rw [←hx]; simp [hq]
  omega
 unfold cnQ
 rw [e]
 by_cases h:j=x
 ·subst h
  simp [hno]
 ·have h2:¬(j:Int)=(x:Int):=by omega
  simp [h,h2]
theorem cnQ_full {S : List Nat} {i : Nat} (h : i < S.length) (hs : S.getD i 0 < 1024) (j : Nat) : cnQ S i (memL (S.getD i 0)) (memL (S.getD i 0)).length j = cnA S (i + 1) j := by
  rw [cnA_succ h]
  unfold cnQ
  rw [List.take_length]
  have hm := mem_memL (s := S.getD i 0) (x := (j : Int)) (Nat.lt_of_lt_of_le hs (by decide))
  by_cases hb : (S.getD i 0).testBit j = true
  · rw [if_pos (hm.2 ⟨j, rfl, hb⟩), if_pos hb]
  · rw [if_neg (fun h => hb (by obtain ⟨k, hk, hk2⟩ := hm.1 h; have : j = k := by omega
                                subst this; exact hk2)), if_neg hb]
structure SmI (W0:World) (G n:Nat) (c:Nat→Int) (wr:World):Prop where
 row:wr.rowIs G 3 n (fun j=>.int .i64 (c j))
 bel:Below G W0 wr
theorem SmI.low {W0:World} {G n:Nat} {c:Nat→Int} {wr w2:World} (h:SmI W0 G n c wr) (hb:Below wr.heap.size wr w2):SmI W0 G n c w2:=by
 obtain ⟨cur,h1,h2,h3⟩:=h.row
 have hl:=lt_of_block h1
 exact ⟨⟨cur,(hb.block G hl).trans h1,h2,h3⟩,h.bel.trans (hb.mono (by omega))⟩
theorem SmI.put {W0:World} {G n:Nat} {c c2:Nat→Int} {wr:World} (h:SmI W0 G n c wr) (x:Nat) (z:Int) (hc:∀j,c2 j=if j=x then z else c j):SmI W0 G n c2 (wr.setCell ⟨G,x,none⟩ (.int .i64 z)):=by
 refine ⟨(World.rowIs.set h.row x (.int .i64 z)).congr fun j hj=>?_,h.bel.setCell (by exact Nat.le_refl G) _⟩
 rw [hc j]
 by_cases e:j=x
 ·simp [e]
 ·simp [e]
def smpB (d n:Nat) (S:List Nat):Bool:=(List.range n).all fun j=>decide (cnA S S.length j=(d:Int))
set_option maxRecDepth 100000 in
set_option maxHeartbeats 1600000 in
theorem isSimple_any (d n:Nat) (co:Option Addr) (cc:Nat) (rv:Value) (so:Option Addr) (sc:Nat) (S:List Nat) (w:World) (hn:n≤10) (hT:TabB w) (hS:Sl w.heap.size 74 w (.slice so S.length sc) (u64s S)) (hS1:∀t∈S,t < 2 ^ n) (hSl:S.length≤5000) :
  Calls Tryz.prog 36 #[.agg #[.int .i64 d,.slice co n cc,rv,.slice so S.length sc]] w fun e w'=>e=.returned (.bool (smpB d n S))∧Below w.heap.size w w':=by
 have hmk:∀w:World,(Instr.makeSlice 22 (.int .i64 (n:Int)) (.int .i64 (n:Int))).run Tryz.prog w=.ok (.slice (some ⟨w.heap.size,0,none⟩) n n) (w.alloc (.cells (madeCells #[.int .i64 0] n) 3)):=run_make_row' (P:=Tryz.prog) 22 3 (.int .i64 0) 8 Tryz.underlying22 (by kernel_rfl) rfl .i64 .i64 n (by omega) (by omega)
 obtain ⟨W,hW⟩:∃W,W=w.alloc (.cells #[.int .i64 d,.slice co n cc,rv,.slice so S.length sc] 60):=⟨_,rfl⟩
 have HB:Hid (Below w.heap.size w W):=by rw [hW]; exact alloc_keep _ _
 have hsW:W.heap.size=w.heap.size+1:=by rw [hW]; exact size_alloc _ _
 have hb0:W.heap[w.heap.size]?=some (.cells #[.int .i64 d,.slice co n cc,rv,.slice so S.length sc] 60 (0,0)):=by rw [hW]; exact alloc_at _ _
 have c1:W.cell? ⟨w.heap.size,1,none⟩=some (.slice co n cc):=by simp [World.cell?,hb0]
 obtain ⟨W1,hW1⟩:∃W1,W1=W.alloc (.cells (madeCells #[.int .i64 0] n) 3):=⟨_,rfl⟩
 have HI0:Hid (SmI W (w.heap.size+1) n (fun j=>cnA S 0 j) W1):=by
  rw [hW1,←hsW]
  refine ⟨⟨_,alloc_at _ _,by simp [madeCells],fun i hi=>?_⟩,(Below.refl _ _).alloc (Nat.le_refl _) _⟩
  rw [←Array.getElem?_toList,toList_madeCells_one]
  simp [hi,cnA]
 have HBB:Hid (∀c wr,SmI W (w.heap.size+1) n c wr→wr.heap[w.heap.size]?=some (.cells #[.int .i64 d,.slice co n cc,rv,.slice so S.length sc] 60 (0,0))):=fun c wr h=>(h.bel.block _ (by omega)).trans hb0
 have HBE:Hid (∀c wr,SmI W (w.heap.size+1) n c wr→Below w.heap.size w wr):=fun c wr h=>HB.out.trans (h.bel.mono (by omega))
 have c3:W1.cell? ⟨w.heap.size,3,none⟩=some (.slice so S.length sc):=by
  have:=HBB.out _ _ HI0.out
  simp [World.cell?,this]
 have HSD:Hid (∀X i,Below w.heap.size w X→i < S.length→∃sb soo,so=some ⟨sb,soo,none⟩∧X.cell? ⟨sb,soo+i,none⟩=some (.int .u64 ((S.getD i 0:Nat):Int))):=fun X i hb hi=>by
  obtain ⟨ao,cap,hv,_,_,h5,_⟩:=hS.below hb (Nat.le_refl _)
  simp only [Value.slice.injEq] at hv
  obtain ⟨sb,soo,hs,hcc,_⟩:=h5 i (by rw [u64s_len]; exact hi)
  refine ⟨sb,soo,hv.1.trans hs,?_⟩
  rw [hcc]
  simp [u64s,hi]
 have H10:∀t∈S,t < 1024:=fun t ht=>Nat.lt_of_lt_of_le (hS1 t ht) (Nat.le_trans (Nat.pow_le_pow_right (by decide) hn) (by decide))
 have HLI:Hid (∀X i,Below w.heap.size w X→i < S.length→Calls Tryz.prog 53 #[.int .u64 ((S.getD i 0:Nat):Int)] X fun e w'=>∃uo uc,e=.returned (.slice uo (memL (S.getD i 0)).length uc)∧w'.ownsRow X.heap.size 3 1 (.slice uo (memL (S.getD i 0)).length uc) (memL (S.getD i 0)).length (ints (memL (S.getD i 0)))∧Below X.heap.size X w'):=fun X i hb hi=>by
  refine (list10_any (S.getD i 0) (H10 _ (by simp [hi])) X (hT.below hb)).mono ?_
  rintro e w' ⟨u,rfl,h1,h2⟩
  obtain ⟨uo,uc,rfl⟩:=owns_form h1
  exact ⟨uo,uc,rfl,h1,h2⟩
 have HXB:Hid (∀i q,i < S.length→q < (memL (S.getD i 0)).length→∃x:Nat,(memL (S.getD i 0)).getD q 0=(x:Int)∧x < n):=fun i q hi hq=>by
  have:=memL_bd (s:=S.getD i 0) (hS1 _ (by simp [hi])) (by omega) ((memL (S.getD i 0)).getD q 0) (getD_mem hq)
  exact ⟨((memL (S.getD i 0)).getD q 0).toNat,by omega,by omega⟩
 have HFU:Hid (∀i,i < S.length→∀j,cnQ S i (memL (S.getD i 0)) (memL (S.getD i 0)).length j=cnA S (i+1) j):=fun i hi j=>cnQ_full hi (H10 _ (by simp [hi])) j
 have HHS:Hid (∀wr,SmI W (w.heap.size+1) n (fun j=>cnA S S.length j) wr→Calls Tryz.prog 58 #[.slice (some ⟨w.heap.size+1,0,none⟩) n n,.func (.func 59) #[] #[.pointer (some ⟨w.heap.size,0,none⟩)]] wr fun e w'=>e=.returned (.bool (!smpB d n S))∧Below wr.heap.size wr w'):=fun wr h=>by
  have hw1:=lt_of_block (HBB.out _ _ h)
  have ho:=rowF_own (B:=0) (l:=(List.range n).map fun j=>cnA S S.length j) h.row (Nat.zero_le _) (by simp) (fun i hi=>by simp [hi]) (Nat.le_refl _) (by omega)
  have h2:=hasSmp_any 0 (fun z=>z != (d:Int)) ((List.range n).map fun j=>cnA S S.length j) (.slice (some ⟨w.heap.size+1,0,none⟩) n n) ⟨w.heap.size,0,none⟩ wr (Sl.own ho) (fun x hx W' hb'=>
   isSimple1_any x d w.heap.size (.slice co n cc) rv (.slice so S.length sc) W' ((hb'.block _ hw1).trans (HBB.out _ _ h)))
  have e:((List.range n).map fun j=>cnA S S.length j).any (fun z=>z != (d:Int))=!smpB d n S:=by
   rw [Bool.eq_iff_iff]
   simp only [List.any_eq_true,List.mem_map,smpB,Bool.not_eq_true',List.all_eq_false,decide_eq_true_eq]
   constructor
   ·rintro ⟨_,⟨a,ha,rfl⟩,hne⟩
    exact ⟨a,ha,by simpa using hne⟩
   ·rintro ⟨a,ha,hne⟩
    exact ⟨_,⟨a,ha,rfl⟩,by simpa using hne⟩
  rw [e] at h2
  exact h2
 clear hS hS1 hb0 hT H10
 generalize smpB d n S=qq at *
 go_enter Tryz.func36,Tryz.ntmps36
 go_upto_region 1 with fail
 rw [←hW]
 clear hW
 go_upto_region 2 with fail
 rw [←hW1]
 clear hW1 c1
 go_wp2
 clear c3 hmk
 go_loopw [5,7,15] (fun _ _ iv wr=>∃i:Nat,i≤S.length∧iv=.int .i64 (i:Int)∧SmI W (w.heap.size+1) n (fun j=>cnA S i j) wr) (fun _ _ iv _=>S.length-(intOf iv).toNat)
 case atStart=>exact ⟨0,Nat.zero_le _,rfl,HI0.out⟩
 case round=>
  obtain ⟨i,hi,rfl,hI⟩:=hrel
  have HI:Hid (SmI W (w.heap.size+1) n (fun j=>cnA S i j) wr):=hI
  clear hI HI0
  by_cases hlt:i < S.length
  ·obtain ⟨sb,soo,hso,hcs⟩:=HSD.out wr i (HBE.out _ _ HI.out) hlt
   have HL:=HLI.out wr i (HBE.out _ _ HI.out) hlt
   have HX:Hid (∀q,q < (memL (S.getD i 0)).length→∃x:Nat,(memL (S.getD i 0)).getD q 0=(x:Int)∧x < n):=fun q hq=>HXB.out i q hlt hq
   have HF:Hid (∀j,cnQ S i (memL (S.getD i 0)) (memL (S.getD i 0)).length j=cnA S (i+1) j):=HFU.out i hlt
   have HR:Hid (Ris (memL (S.getD i 0))):=memL_ris _
   have hiI:(i:Int) < (S.length:Int):=by omega
   have hml:(memL (S.getD i 0)).length≤64:=by
    have:=memTo_len (S.getD i 0) 64
    exact this
   clear HSD HLI HXB HFU HHS
   subst hso
   generalize S.getD i 0=s at *
   generalize memL s=l at *
   go_wp2_with fail
   refine HL.mono ?_
   rintro e w2 ⟨uo,uc,rfl,hu,hb2⟩
   have HI2:Hid (SmI W (w.heap.size+1) n (fun j=>cnQ S i l 0 j) w2):=by
    have h:=HI.out.low hb2
    have e:(fun j=>cnQ S i l 0 j)=fun j=>cnA S i j:=funext fun j=>cnQ_zero S i l j
    show SmI W (w.heap.size+1) n (fun j=>cnQ S i l 0 j) w2
    rw [e]
    exact h
   have HSZ:Hid (w.heap.size+1 < wr.heap.size):=by
    obtain ⟨cur,h1,_,_⟩:=HI.out.row
    exact lt_of_block h1
   have HU:Hid (w2.ownsRow wr.heap.size 3 1 (.slice uo l.length uc) l.length (ints l)):=hu
   clear hu hb2 HL HI hcs
   obtain ⟨wa,rfl⟩:∃wa,wa=wr:=⟨wr,rfl⟩
   go_wp2
   go_loopw [7,22] (fun _ qv wq=>∃q:Nat,q≤l.length∧qv=.int .i64 (q:Int)∧SmI W (w.heap.size+1) n (fun j=>cnQ S i l q j) wq∧wq.ownsRow wa.heap.size 3 1 (.slice uo l.length uc) l.length (ints l)) (fun _ qv _=>l.length-(intOf qv).toNat)
   case atStart=>exact ⟨0,Nat.zero_le _,rfl,HI2.out,HU.out⟩
   case round=>
    obtain ⟨q,hq,rfl,hI,hu⟩:=hrel
    have HI:Hid (SmI W (w.heap.size+1) n (fun j=>cnQ S i l q j) wr):=hI
    have HU3:Hid (wr.ownsRow wa.heap.size 3 1 (.slice uo l.length uc) l.length (ints l)):=hu
    clear hI hu HI2 HU
    by_cases hlq:q < l.length
    ·obtain ⟨x,hx,hxn⟩:=HX.out q hlq
     obtain ⟨ub,uoo,ucp,hs,_,hcu⟩:=sl_cell (B:=0) (Sl.own HU3.out) hlq
     simp only [Value.slice.injEq,true_and] at hs
     obtain ⟨rfl,rfl⟩:=hs
     rw [hx] at hcu
     have ca:=HI.out.row.cell (i:=x) hxn
     have cf:=HI.out.row.frozen x
     have hqI:(q:Int) < (l.length:Int):=by omega
     have hxI:(x:Int) < (n:Int):=by omega
     have hbd:=cnQ_bd S i l q x
     have HNX:Hid (SmI W (w.heap.size+1) n (fun j=>cnQ S i l (q+1) j) (wr.setCell ⟨w.heap.size+1,x,none⟩ (.int .i64 (cnQ S i l q x+1)))):=
      HI.out.put x _ (fun j=>by
       show cnQ S i l (q+1) j=_
       rw [cnQ_succ HR.out hlq hx j]
       by_cases e:j=x
       ·subst e; simp
       ·simp [e])
     have HUN:Hid ((wr.setCell ⟨w.heap.size+1,x,none⟩ (.int .i64 (cnQ S i l q x+1))).ownsRow wa.heap.size 3 1 (.slice (some ⟨ub,uoo,none⟩) l.length uc) l.length (ints l)):=
      ownsRow_setCell_other HU3.out (a:=⟨w.heap.size+1,x,none⟩) (fun e=>by
       have h1:wa.heap.size≤w.heap.size+1:=(HU3.out.lt _ e).1
       have:=HSZ.out
       omega) _
     have hwr:IntKind.wrap .i64 (cnQ S i l q x+1)=cnQ S i l q x+1:=by rw [IntKind.wrap_i64]; omega
     generalize cnQ S i l q x=cx at *
     clear hx HU3 HI
     go_wp2
     go_roundw
     case rel=>exact ⟨q+1,by omega,by go_num,HNX.out,HUN.out⟩
     case measure=>simp [intOf]; omega
    ·have hqe:q=l.length:=by omega
     subst hqe
     have HN:Hid (SmI W (w.heap.size+1) n (fun j=>cnA S (i+1) j) wr):=by
      have e:(fun j=>cnA S (i+1) j)=fun j=>cnQ S i l l.length j:=funext fun j=>(HF.out j).symm
      show SmI W (w.heap.size+1) n (fun j=>cnA S (i+1) j) wr
      rw [e]
      exact HI.out
     clear HI HU3 HX HF HR
     go_wp2
     exact ⟨⟨i+1,by omega,by go_num,HN.out⟩,by simp [intOf]; omega⟩
  ·have hie:i=S.length:=by omega
   subst hie
   have HH:=HHS.out wr HI.out
   have HBW:Hid (Below w.heap.size w wr):=HBE.out _ _ HI.out
   clear HSD HLI HXB HFU HHS HI
   go_wp2_with fail
   refine HH.mono ?_
   rintro e w5 ⟨rfl,hb5⟩
   have HB5:Hid (Below w.heap.size w w5):=HBW.out.trans (hb5.mono HBW.out.size)
   clear hb5 HH
   go_wp2
   go_ret
   exact ⟨by simp,HB5.out⟩
end Go.Proofs.YtkfdpcgmpbopnaaGreatDoor
namespace Go.Proofs.YtkfdpcgmpbopnaaGreatDoor
open Go.RowKit Lin
attribute [local go_sem ↓] Go.wp_at_zero Go.wp_at_succ
def hvN (c:Nat→Int):Nat→Nat→Int
 | 0,_=>0
 | i+1,j=>hvN c i j-(if j=0 then 0 else hvN c i (j-1))+(if j=i then c i else 0)
theorem hvN_zero (c:Nat→Int):∀i j,i≤j→hvN c i j=0
 | 0,_,_=>rfl
 | i+1,j,h=>by
  simp only [hvN]
  rw [hvN_zero c i j (by omega),if_neg (by omega),hvN_zero c i (j-1) (by omega),if_neg (by omega)]
  rfl
theorem hvN_bd {c:Nat→Int} {B:Nat} : ∀i,(∀k,k < i→(c k).natAbs≤B)→∀j,(hvN c i j).natAbs≤3 ^ i*B
 | 0,_,j=>by simp [hvN]
 | i+1,h,j=>by
  have h1:=hvN_bd i (fun k hk=>h k (by omega)) j
  have h2:=hvN_bd i (fun k hk=>h k (by omega)) (j-1)
  have h3:=h i (by omega)
  have h4:B≤3 ^ i*B:=Nat.le_mul_of_pos_left _ (Nat.pow_pos (by decide))
  have e:3 ^ (i+1)*B=3*(3 ^ i*B):=by rw [Nat.pow_succ,Nat.mul_comm (3 ^ i) 3,Nat.mul_assoc]
  rw [e]
  generalize 3 ^ i*B=q at *
  simp only [hvN]
  split <;> split <;> omega
def hvF (c:Nat→Int) (n:Nat):List Int:=(List.range n).map fun j=>hvN c n j
theorem hvF_len (c:Nat→Int) (n:Nat):(hvF c n).length=n:=by simp [hvF]
theorem hvF_get {c:Nat→Int} {n j:Nat} (h:j < n):(hvF c n).getD j 0=hvN c n j:=by simp [hvF,h]
theorem ownF_row {B n:Nat} {e:TypeId} {w:World} {v:Value} {l:List Int} (h:w.ownsRow B e 1 v n (ints l)) (hn:0 < n):∃g cap F,v=.slice (some ⟨g,0,none⟩) n cap∧B≤g∧w.rowIs g e cap F∧(∀i,i < n→F i=.int .i64 (l.getD i 0))∧n≤cap∧cap≤9223372036854775807:=by
 obtain ⟨h1,h2⟩:=h
 rcases h2 with ⟨_,h0⟩ | ⟨g,cap,cur,hu,hg,hh,hnc,hcm,hs,htk⟩
 ·omega
 ·have hll:l.length=n:=by simpa [ints] using h1
  refine ⟨g,cap,fun i=>cur.toList.getD i (.int .i64 0),hu,hg,⟨cur,hh,by omega,fun i hi=>?_⟩,fun i hi=>?_,hnc,by unfold maxLen at hcm; exact hcm⟩
  ·show cur[i]?=some (cur.toList.getD i (.int .i64 0))
   rw [←Array.getElem?_toList,List.getD_eq_getElem?_getD,List.getElem?_eq_getElem (by simp; omega)]; rfl
  ·have e1:cur.toList.getD i (.int .i64 0)=(ints l).getD i (.int .i64 0):=by
    rw [←htk]
    simp only [List.getD_eq_getElem?_getD]
    rw [List.getElem?_take_of_lt (by omega)]
   show cur.toList.getD i (.int .i64 0)=_
   rw [e1]
   simp [ints,show i < l.length by omega]
set_option maxRecDepth 100000 in
set_option maxHeartbeats 1600000 in
theorem short_any (B0:Nat) (cs:List Int) (v:Value) (w:World) (hv:Sl B0 3 w v (ints cs)) (hn:cs.length≤6) (hc:∀z∈cs,z.natAbs≤5000) :
  Calls Tryz.prog 37 #[v] w fun e w'=>∃u,e=.returned u∧w'.ownsRow w.heap.size 3 1 u cs.length (ints (hvF (fun k=>cs.getD k 0) cs.length))∧Below w.heap.size w w':=by
 obtain ⟨i3,hi3,hz30,hz31,hz32⟩:=info_parts Tryz.info3
 obtain ⟨ao,cap0,hvv,hlc,hcm0⟩:=sl_open hv
 subst hvv
 have HV:Hid (∀W k,Below w.heap.size w W→k < cs.length→∃b o,ao=some ⟨b,o,none⟩∧W.cell? ⟨b,o+k,none⟩=some (.int .i64 (cs.getD k 0))):=fun W k hb hk=>by
  obtain ⟨b,o,cp,hs,_,hcc⟩:=sl_cell ((hv.any (Nat.le_refl w.heap.size)).below hb (Nat.le_refl _)) hk
  simp only [Value.slice.injEq] at hs
  exact ⟨b,o,hs.1,hcc⟩
 have HBD:Hid (∀i j,i≤cs.length→(hvN (fun k=>cs.getD k 0) i j).natAbs≤3645000):=fun i j hi=>by
  have h:=hvN_bd (c:=fun k=>cs.getD k 0) (B:=5000) i (fun k hk=>hc _ (getD_mem (by omega))) j
  have h2:3 ^ i≤3 ^ 6:=Nat.pow_le_pow_right (by decide) (by omega)
  have h3:3 ^ i*5000≤3 ^ 6*5000:=Nat.mul_le_mul_right _ h2
  have h4:(3:Nat) ^ 6*5000=3645000:=by decide
  omega
 have HCB:Hid (∀k,k < cs.length→(cs.getD k 0).natAbs≤5000):=fun k hk=>hc _ (getD_mem hk)
 obtain ⟨c,hcd⟩:∃c:Nat→Int,c=fun k=>cs.getD k 0:=⟨_,rfl⟩
 have HCV:Hid (∀k,cs.getD k 0=c k):=fun k=>by rw [hcd]
 rw [←hcd] at HBD ⊢
 obtain ⟨n,hnl⟩:∃n,n=cs.length:=⟨_,rfl⟩
 rw [←hnl] at HV HBD HCB hn hlc ⊢
 clear hv hc hcd hnl
 go_enter Tryz.func37,Tryz.ntmps37
 go_wp2
 go_loopw [3,4,5,6,9] (fun x _ _ _ iv wr=>∃k:Nat,k≤n∧iv=.int .i64 (k:Int)∧wr.ownsRow w.heap.size 3 1 x k (ints (hvF c k))∧Below w.heap.size w wr) (fun _ _ _ _ iv _=>n-(intOf iv).toNat)
 case atStart=>exact ⟨0,Nat.zero_le _,rfl,World.ownsRow_nil _ _ _ _,Below.refl _ _⟩
 case round=>
  obtain ⟨k,hk,rfl,ho,hb⟩:=hrel
  obtain ⟨xo,xc,hx⟩:=owns_form ho
  subst hx
  have HO:Hid (wr.ownsRow w.heap.size 3 1 (.slice xo k xc) k (ints (hvF c k))):=ho
  have HB:Hid (Below w.heap.size w wr):=hb
  have hsz:w.heap.size≤wr.heap.size:=hb.size
  clear ho hb
  by_cases hlt:k < n
  ·obtain ⟨b,o,hao,hcc⟩:=HV.out wr k HB.out hlt
   rw [HCV.out k] at hcc
   have hkI:(k:Int) < (n:Int):=by omega
   have hcb:=HCB.out k hlt
   rw [HCV.out k] at hcb
   subst hao
   obtain ⟨wa,rfl⟩:∃wa,wa=wr:=⟨wr,rfl⟩
   have HBK:Hid (∀j,(hvN c k j).natAbs≤3645000):=fun j=>HBD.out k j (by omega)
   clear HV
   go_wp2_with (first | (at_builtin; refine wpList_append_own _ rfl _ _ 22 rfl w.heap.size 3 i3 (.int .i64 0) 1 8 Tryz.underlying22 hi3 hz30 hz31 hz32 rfl (by decide) _ _ _ rfl (HO.out.alloc _) ⟨wa.heap.size,0,none⟩ 1 1 [.int .i64 0] rfl rfl (one_new _ _ _) (one_int _) ?c3 ?c4 ?c5 ?_))
   case c3=>unfold maxLen; omega
   case c4=>omega
   case c5=>first | exact hsz | omega | (simp; omega)
   intro v' w3 ho3 hg3 _
   have HB3:Hid (Below w.heap.size w w3):=(HB.out.alloc hsz _).grown hg3 (by simp; omega) (fun x hx=>(HO.out.lt x hx).1)
   have ho4:w3.ownsRow w.heap.size 3 1 v' (k+1) (ints (hvF c k ++ [0])):=by
    have e:ints (hvF c k ++ [0])=ints (hvF c k) ++ [.int .i64 0]:=by simp [ints]
    rw [e]
    exact ho3
   obtain ⟨g,cap,F0,hv',hg,hrow,hF,hnc,hcm⟩:=ownF_row ho4 (by omega)
   subst hv'
   have HR0:Hid (w3.rowIs g 3 cap F0∧∀j,j < k+1→F0 j=.int .i64 (hvN c k j)):=⟨hrow,fun j hj=>by
    rw [hF j hj]
    congr 1
    by_cases e:j < k
    ·rw [List.getD_eq_getElem?_getD,List.getElem?_append_left (by rw [hvF_len]; exact e),←List.getD_eq_getElem?_getD,hvF_get e]
    ·have e2:j=k:=by omega
     subst e2
     rw [hvN_zero c j j (Nat.le_refl _)]
     rw [List.getD_eq_getElem?_getD,List.getElem?_append_right (by rw [hvF_len]; omega)]
     simp [hvF_len]⟩
   have HG:Hid (w.heap.size≤g):=hg
   clear ho3 hg3 ho4 hrow hF hg hcc HO HB
   go_wp2
   go_loopw [6] (fun jv wq=>∃(p:Nat) (F:Nat→Value),p≤k∧jv=.int .i64 (p:Int)∧wq.rowIs g 3 cap F∧(∀j,j < k+1→F j=.int .i64 (if p < j then hvN c k j-hvN c k (j-1) else hvN c k j))∧Below w.heap.size w wq) (fun jv _=>(intOf jv).toNat)
   case atStart=>exact ⟨k,F0,Nat.le_refl _,rfl,HR0.out.1,fun j hj=>by rw [if_neg (by omega)]; exact HR0.out.2 j hj,HB3.out⟩
   case round=>
    obtain ⟨p,F,hp,rfl,hrow,hF,hbel⟩:=hrel
    have HR:Hid (wr.rowIs g 3 cap F):=hrow
    have HF:Hid (∀j,j < k+1→F j=.int .i64 (if p < j then hvN c k j-hvN c k (j-1) else hvN c k j)):=hF
    have HB2:Hid (Below w.heap.size w wr):=hbel
    clear hrow hF hbel HR0 HB3
    rcases p with _ | p
    ·have ca:=HR.out.cell (i:=k) (by omega)
     have cf:=HR.out.frozen k
     rw [HF.out k (by omega)] at ca
     obtain ⟨y,hy⟩:∃y:Int,y=(if 0 < k then hvN c k k-hvN c k (k-1) else hvN c k k):=⟨_,rfl⟩
     have hyb:y.natAbs≤7290000:=by
      have:=HBK.out k
      have:=HBK.out (k-1)
      rw [hy]
      split <;> omega
     rw [←hy] at ca
     have HRZ:Hid ((wr.setCell ⟨g,k,none⟩ (.int .i64 (y+c k))).rowIs g 3 cap (fun i=>if i=k then .int .i64 (y+c k) else F i)):=HR.out.set k _
     have HBZ:Hid (Below w.heap.size w (wr.setCell ⟨g,k,none⟩ (.int .i64 (y+c k)))):=HB2.out.setCell (by exact HG.out) _
     have HOZ:Hid ((wr.setCell ⟨g,k,none⟩ (.int .i64 (y+c k))).ownsRow w.heap.size 3 1 (.slice (some ⟨g,0,none⟩) (k+1) cap) (k+1) (ints (hvF c (k+1)))):=by
      refine rowF_own HRZ.out HG.out (hvF_len _ _) (fun j hj=>?_) hnc hcm
      rw [hvF_get hj]
      simp only [hvN]
      by_cases e:j=k
      ·rw [if_pos e]
       congr 1
       rw [hy,e,if_pos rfl]
       by_cases e0:k=0
       ·rw [if_neg (by omega),if_pos e0]; omega
       ·rw [if_pos (by omega),if_neg e0]
      ·rw [if_neg e,HF.out j hj,if_neg e]
       congr 1
       by_cases e0:j=0
       ·rw [if_neg (by omega),if_pos e0]; omega
       ·rw [if_pos (by omega),if_neg e0]; omega
     have hw:IntKind.wrap .i64 (y+c k)=y+c k:=by rw [IntKind.wrap_i64]; omega
     have hk1:(k:Int) < (k:Int)+1:=by omega
     clear hy HF HR HRZ
     go_wp2
     exact ⟨⟨k+1,by omega,by go_num,HOZ.out,HBZ.out⟩,by simp [intOf]; omega⟩
    ·have ca:=HR.out.cell (i:=p+1) (by omega)
     have cb:=HR.out.cell (i:=p) (by omega)
     have cf:=HR.out.frozen (p+1)
     rw [HF.out (p+1) (by omega),if_neg (by omega)] at ca
     rw [HF.out p (by omega),if_neg (by omega)] at cb
     have b1:=HBK.out (p+1)
     have b0:=HBK.out p
     obtain ⟨x1,hx1⟩:∃x,x=hvN c k (p+1):=⟨_,rfl⟩
     obtain ⟨x0,hx0⟩:∃x,x=hvN c k p:=⟨_,rfl⟩
     rw [←hx1] at ca b1
     rw [←hx0] at cb b0
     have HZ:Hid ((wr.setCell ⟨g,p+1,none⟩ (.int .i64 (x1-x0))).drew.rowIs g 3 cap (fun i=>if i=p+1 then .int .i64 (x1-x0) else F i)∧Below w.heap.size w (wr.setCell ⟨g,p+1,none⟩ (.int .i64 (x1-x0))).drew):=⟨(HR.out.set (p+1) _).drew,(HB2.out.setCell (by exact HG.out) _).drew⟩
     have HZ2:Hid (∀j,j < k+1→(if j=p+1 then Value.int .i64 (x1-x0) else F j)=.int .i64 (if p < j then hvN c k j-hvN c k (j-1) else hvN c k j)):=fun j hj=>by
      by_cases e:j=p+1
      ·rw [if_pos e,e,if_pos (by omega),hx1,hx0]; rfl
      ·rw [if_neg e,HF.out j hj]
       by_cases e2:p < j
       ·rw [if_pos (by omega),if_pos e2]
       ·rw [if_neg (by omega),if_neg e2]
     have cad:wr.drew.cell? ⟨g,p+1,none⟩=some (.int .i64 x1):=ca
     have cbd:wr.drew.cell? ⟨g,p,none⟩=some (.int .i64 x0):=cb
     have cfd:wr.drew.frozen? ⟨g,p+1,none⟩=false:=cf
     have hw:IntKind.wrap .i64 (x1-x0)=x1-x0:=by rw [IntKind.wrap_i64]; omega
     have hwp:IntKind.wrap .i64 (p:Int)=(p:Int):=by rw [IntKind.wrap_i64]; omega
     have hpI:((p+1:Nat):Int) < (k:Int)+1:=by omega
     clear hx1 hx0 HF HR HB2
     go_upto_region 9 with fail
     refine wp_region_held_drew (S:=fun _=>True) (by kernel_rfl) trivial (fun hHeld=>?_)
     refine wpAnyH_tk (i:=0) (d:=22) (v:=(.slice (some ⟨g,0,none⟩) (k+1) cap)) rfl rfl (by kernel_rfl) (by kernel_rfl) (by kernel_rfl) (fun _ _ _ h=>h) (.inl ⟨by rfl,by (intro wq hSw; (try dsimp only at hSw); go_simp; (try (first | rfl | omega)))⟩) hHeld ?_
     simp only [Act.put,List.setIfInBounds_toArray,List.set_cons_zero,List.set_cons_succ]
     refine wpAnyH_tk (i:=1) (d:=23) (v:=(.int .i64 ((p+1:Nat):Int))) rfl rfl (by kernel_rfl) (by kernel_rfl) (by kernel_rfl) (fun _ _ _ h=>h) (.inl ⟨by rfl,by (intro wq hSw; (try dsimp only at hSw); go_simp; (try (first | rfl | omega)))⟩) hHeld ?_
     simp only [Act.put,List.setIfInBounds_toArray,List.set_cons_zero,List.set_cons_succ]
     refine wpAnyH_tk (i:=2) (d:=24) (v:=(.pointer (some ⟨g,p+1,none⟩))) rfl rfl (by kernel_rfl) (by kernel_rfl) (by kernel_rfl) (fun _ _ _ h=>h) (.inl ⟨by rfl,by (intro wq hSw; (try dsimp only at hSw); go_simp; (try (first | rfl | omega)))⟩) hHeld ?_
     simp only [Act.put,List.setIfInBounds_toArray,List.set_cons_zero,List.set_cons_succ]
     refine wpAnyH_tk (i:=4) (d:=26) (v:=(.slice (some ⟨g,0,none⟩) (k+1) cap)) rfl rfl (by kernel_rfl) (by kernel_rfl) (by kernel_rfl) (fun _ _ _ h=>h) (.inl ⟨by rfl,by (intro wq hSw; (try dsimp only at hSw); go_simp; (try (first | rfl | omega)))⟩) hHeld ?_
     simp only [Act.put,List.setIfInBounds_toArray,List.set_cons_zero,List.set_cons_succ]
     refine wpAnyH_tk (i:=5) (d:=27) (v:=(.int .i64 ((p+1:Nat):Int))) rfl rfl (by kernel_rfl) (by kernel_rfl) (by kernel_rfl) (fun _ _ _ h=>h) (.inl ⟨by rfl,by (intro wq hSw; (try dsimp only at hSw); go_simp; (try (first | rfl | omega)))⟩) hHeld ?_
     simp only [Act.put,List.setIfInBounds_toArray,List.set_cons_zero,List.set_cons_succ]
     refine wpAnyH_tk (i:=6) (d:=28) (v:=(.int .i64 (p:Int))) rfl rfl (by kernel_rfl) (by kernel_rfl) (by kernel_rfl) (fun _ _ _ h=>h) (.inl ⟨by rfl,by (intro wq hSw; (try dsimp only at hSw); go_simp; (try (first | rfl | omega)))⟩) hHeld ?_
     simp only [Act.put,List.setIfInBounds_toArray,List.set_cons_zero,List.set_cons_succ]
     refine wpAnyH_tk (i:=7) (d:=29) (v:=(.pointer (some ⟨g,p,none⟩))) rfl rfl (by kernel_rfl) (by kernel_rfl) (by kernel_rfl) (fun _ _ _ h=>h) (.inl ⟨by rfl,by (intro wq hSw; (try dsimp only at hSw); go_simp; (try (first | rfl | omega)))⟩) hHeld ?_
     simp only [Act.put,List.setIfInBounds_toArray,List.set_cons_zero,List.set_cons_succ]
     refine wpAnyH_ready (rs:=[3,8]) (by kernel_rfl) (by simp) ?_
     refine ready_tk (i:=3) rfl (by rfl) (fun K hK=>?_) (ready_tk (i:=8) rfl (by rfl) (fun K hK=>?_) AllReadyH.nil)
     ·go_simp
      refine hK.out _ _ trivial (fun hHeld=>?_)
      clear hK K
      try simp only [Act.put,List.setIfInBounds_toArray,List.set_cons_zero,List.set_cons_succ]
      refine wpAnyH_ready (rs:=[8]) (by kernel_rfl) (by simp) ?_
      refine ready_tk (i:=8) rfl (by rfl) (fun K hK=>?_) AllReadyH.nil
      go_simp
      refine hK.out _ _ trivial (fun hHeld=>?_)
      clear hK K
      try simp only [Act.put,List.setIfInBounds_toArray,List.set_cons_zero,List.set_cons_succ]
      refine wpAnyH_tk (i:=9) (d:=31) (v:=(.int .i64 (x1-x0))) rfl rfl (by kernel_rfl) (by kernel_rfl) (by kernel_rfl) (fun _ _ _ h=>h) (.inl ⟨by rfl,by (intro wq hSw; (try dsimp only at hSw); go_simp; (try (first | rfl | omega)))⟩) hHeld ?_
      simp only [Act.put,List.setIfInBounds_toArray,List.set_cons_zero,List.set_cons_succ]
      refine wpAnyH_tk (i:=10) (d:=32) (v:=(.pointer (some ⟨g,p+1,none⟩))) rfl rfl (by kernel_rfl) (by kernel_rfl) (by kernel_rfl) (fun _ _ _ h=>h) (.inl ⟨by rfl,by (intro wq hSw; (try dsimp only at hSw); go_simp; (try (first | rfl | omega)))⟩) hHeld ?_
      simp only [Act.put,List.setIfInBounds_toArray,List.set_cons_zero,List.set_cons_succ]
      refine wpAnyH_ready (rs:=[11]) (by kernel_rfl) (by simp) ?_
      refine ready_tk (i:=11) rfl (by rfl) (fun K hK=>?_) AllReadyH.nil
      go_simp
      refine hK.out _ _ trivial (fun hHeld=>?_)
      clear hK K
      refine wpAnyH_done (by kernel_rfl) ?_ _
      clear hHeld
      go_wp2
      go_roundw
      case rel=>exact ⟨p,_,by omega,by go_num,HZ.out.1,HZ2.out,HZ.out.2⟩
      case measure=>simp [intOf]
     ·go_simp
      refine hK.out _ _ trivial (fun hHeld=>?_)
      clear hK K
      try simp only [Act.put,List.setIfInBounds_toArray,List.set_cons_zero,List.set_cons_succ]
      refine wpAnyH_ready (rs:=[3]) (by kernel_rfl) (by simp) ?_
      refine ready_tk (i:=3) rfl (by rfl) (fun K hK=>?_) AllReadyH.nil
      go_simp
      refine hK.out _ _ trivial (fun hHeld=>?_)
      clear hK K
      try simp only [Act.put,List.setIfInBounds_toArray,List.set_cons_zero,List.set_cons_succ]
      refine wpAnyH_tk (i:=9) (d:=31) (v:=(.int .i64 (x1-x0))) rfl rfl (by kernel_rfl) (by kernel_rfl) (by kernel_rfl) (fun _ _ _ h=>h) (.inl ⟨by rfl,by (intro wq hSw; (try dsimp only at hSw); go_simp; (try (first | rfl | omega)))⟩) hHeld ?_
      simp only [Act.put,List.setIfInBounds_toArray,List.set_cons_zero,List.set_cons_succ]
      refine wpAnyH_tk (i:=10) (d:=32) (v:=(.pointer (some ⟨g,p+1,none⟩))) rfl rfl (by kernel_rfl) (by kernel_rfl) (by kernel_rfl) (fun _ _ _ h=>h) (.inl ⟨by rfl,by (intro wq hSw; (try dsimp only at hSw); go_simp; (try (first | rfl | omega)))⟩) hHeld ?_
      simp only [Act.put,List.setIfInBounds_toArray,List.set_cons_zero,List.set_cons_succ]
      refine wpAnyH_ready (rs:=[11]) (by kernel_rfl) (by simp) ?_
      refine ready_tk (i:=11) rfl (by rfl) (fun K hK=>?_) AllReadyH.nil
      go_simp
      refine hK.out _ _ trivial (fun hHeld=>?_)
      clear hK K
      refine wpAnyH_done (by kernel_rfl) ?_ _
      clear hHeld
      go_wp2
      go_roundw
      case rel=>exact ⟨p,_,by omega,by go_num,HZ.out.1,HZ2.out,HZ.out.2⟩
      case measure=>simp [intOf]
  ·have hke:k=n:=by omega
   subst hke
   clear HV HBD HCB
   go_wp2
   go_ret
   exact ⟨_,rfl,HO.out,HB.out⟩
end Go.Proofs.YtkfdpcgmpbopnaaGreatDoor
