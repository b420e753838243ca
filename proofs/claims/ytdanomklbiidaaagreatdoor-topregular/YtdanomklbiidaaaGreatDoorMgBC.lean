import Derived.Test.YtdanomklbiidaaaGreatDoorMgAA
import Derived.Test.YtdanomklbiidaaaGreatDoorMgBB
import Derived.Laws.AppendOwnNone
import Derived.Laws.MakeOwn
namespace Go.Proofs.YtdanomklbiidaaaGreatDoor
open Go.RowKit
theorem setN_one (v:Int):setN [v]=2 ^ v.toNat:=by simp [setN]
theorem setN_lt' {l:List Int} (h:B64 l):setN l < 18446744073709551616:=setN_lt l h
theorem setN_snoc (zs:List Int) (k:Nat) (h:k < zs.length):setN (zs.take (k+1))=setN (zs.take k) ||| 2 ^ (zs.getD k 0).toNat:=by
 rw [take_snoc_int zs k h,setN_append,setN_one]
theorem B64.take {l:List Int} (h:B64 l) (k:Nat):B64 (l.take k):=fun x hx=>h x (List.mem_of_mem_take hx)
theorem B64.get {l:List Int} (h:B64 l) {k:Nat} (hk:k < l.length):0≤l.getD k 0∧l.getD k 0≤63:=h _ (by simp [hk])
theorem shl_one {z:Int} (h0:0≤z) (h63:z≤63):IntKind.u64.wrap ((2:Int) ^ z.toNat)=((2 ^ z.toNat:Nat):Int):=by
 have:2 ^ z.toNat < 2 ^ 64:=Nat.pow_lt_pow_right (by omega) (by omega)
 rw [IntKind.wrap_u64]
 have e:((2:Int) ^ z.toNat)=((2 ^ z.toNat:Nat):Int):=by simp
 rw [e]
 generalize 2 ^ z.toNat=q at *
 omega
set_option maxRecDepth 100000 in
theorem one_any (z:Int) (w:World) (h0:0≤z) (h63:z≤63) :
  Calls Tryz.prog 60 #[.int .i64 z] w fun e w'=>e=.returned (.int .u64 ((2 ^ z.toNat:Nat):Int))∧w'=w:=by
 have HE:Hid (IntKind.u64.wrap ((2:Int) ^ z.toNat)=((2 ^ z.toNat:Nat):Int)):=shl_one h0 h63
 go_enter Tryz.func60,Tryz.ntmps60
 go_wp2
 go_ret
 exact ⟨ret_int HE.out,rfl⟩
set_option maxRecDepth 100000 in
set_option maxHeartbeats 400000 in
theorem setOf_any (B:Nat) (zs:List Int) (v:Value) (w:World) (hv:Sl B 3 w v (ints zs)) (hb:B64 zs) :
  Calls Tryz.prog 67 #[v] w fun e w'=>e=.returned (.int .u64 (setN zs))∧∃n,w'=w.drewN n:=by
 obtain ⟨ao,cap,hvv,hlc,hcm⟩:=sl_open hv
 subst hvv
 have HV:Hid (Sl B 3 w (.slice ao zs.length cap) (ints zs)):=hv
 have HB:Hid (B64 zs):=hb
 clear hv hb
 go_enter Tryz.func67,Tryz.ntmps67
 go_wp2
 go_loopw [3,8] (fun s i wr=>∃k:Nat,k≤zs.length∧i=.int .i64 k∧s=.int .u64 (setN (zs.take k))∧∃n,wr=w.drewN n) (fun _ i _=>zs.length-(intOf i).toNat)
 case atStart=>exact ⟨0,Nat.zero_le _,rfl,rfl,0,rfl⟩
 case round=>
  obtain ⟨k,hk,rfl,rfl,n,rfl⟩:=hrel
  by_cases hlt:k < zs.length
  ·obtain ⟨b,o,cp,hs,hc1,hcc⟩:=sl_cell HV.out hlt
   simp only [Value.slice.injEq] at hs
   obtain ⟨rfl,_,rfl⟩:=hs
   have HSN:Hid (setN (zs.take (k+1))=setN (zs.take k) ||| 2 ^ (zs.getD k 0).toNat):=setN_snoc zs k hlt
   obtain ⟨hz0,hz63⟩:=HB.out.get hlt
   have HLT:Hid (setN (zs.take k) < 18446744073709551616):=setN_lt' (HB.out.take k)
   generalize setN (zs.take k)=S at *
   generalize zs.getD k 0=z at *
   have e2:bits BinOp.or IntKind.u64 (S:Int) ((2 ^ z.toNat:Nat):Int)=((setN (zs.take (k+1)):Nat):Int):=by
    have:2 ^ z.toNat < 2 ^ 64:=Nat.pow_lt_pow_right (by omega) (by omega)
    rw [bits_or_u64_nat S _ HLT.out (by simpa using this),HSN.out]
   have HON:=one_any z (w.drewN n) hz0 hz63
   have HO1:Hid (Calls Tryz.prog 60 #[.int .i64 z] (w.drewN n) fun e w'=>e=.returned (.int .u64 ((2 ^ z.toNat:Nat):Int))∧w'=w.drewN n):=HON
   clear HON
   generalize 2 ^ z.toNat=q2 at *
   have HE2:Hid (bits BinOp.or IntKind.u64 (S:Int) (q2:Int)=((setN (zs.take (k+1)):Nat):Int)):=e2
   clear e2 HSN
   go_wp2_with fail
   refine HO1.out.mono ?_
   rintro e w2 ⟨rfl,hw2⟩
   subst hw2
   go_wp2
   go_roundw
   case rel=>exact ⟨k+1,by omega,by go_num,by rw [HE2.out],_,rfl⟩
   case measure=>simp [intOf]; omega
  ·have hke:zs.take k=zs:=List.take_of_length_le (by omega)
   rw [hke]
   go_wp2
   go_ret
   exact ⟨rfl,n,rfl⟩
theorem and127 (z:Int):∃n:Nat,n≤127∧bits .and .i64 z 127=(n:Int):=by
 refine ⟨(BitVec.ofInt 64 z &&& BitVec.ofInt 64 127).toNat,?_,?_⟩
 ·rw [BitVec.toNat_and]
  exact Nat.le_trans Nat.and_le_right (by decide)
 ·have h:(BitVec.ofInt 64 z &&& BitVec.ofInt 64 127).toNat≤127:=by
   rw [BitVec.toNat_and]
   exact Nat.le_trans Nat.and_le_right (by decide)
  show IntKind.i64.wrap ((BitVec.ofInt 64 z &&& BitVec.ofInt 64 127).toNat:Int)=_
  generalize (BitVec.ofInt 64 z &&& BitVec.ofInt 64 127).toNat=t at *
  have e:IntKind.i64.wrap (t:Int)=wrap64 (t:Int):=by simp [IntKind.wrap,IntKind.bits,IntKind.signed,wrap64]; omega
  rw [e]
  exact IntWalk.wrap64_in (t:Int) ⟨by omega,by omega⟩
set_option maxRecDepth 100000 in
theorem ones_any (x:Nat) (w:World) :
  Calls Tryz.prog 93 #[.int .u64 x] w fun e w'=>∃n:Nat,n≤127∧e=.returned (.int .i64 n)∧w'=w:=by
 go_enter Tryz.func93,Tryz.ntmps93
 go_wp2
 go_ret
 generalize (wrap64 _)=z
 obtain ⟨n,h1,h2⟩:=and127 z
 exact ⟨n,h1,by rw [h2]; rfl,rfl⟩
set_option maxRecDepth 100000 in
theorem len_any (x:Nat) (w:World) :
  Calls Tryz.prog 63 #[.int .u64 x] w fun e w'=>∃n:Nat,n≤127∧e=.returned (.int .i64 n)∧w'=w:=by
 go_enter Tryz.func63,Tryz.ntmps63
 go_wp2_with fail
 refine (ones_any x w).mono ?_
 rintro e w' ⟨n,hn,rfl,rfl⟩
 go_wp2
 go_ret
 exact ⟨n,hn,rfl,rfl⟩
theorem tz_key (x a:Nat) (hx:x < 18446744073709551616) (hx0:x≠0) (hlow:x &&& (18446744073709551616-x)=a) :
  IntKind.u64.wrap (bits BinOp.and IntKind.u64 (x:Int) (IntKind.u64.wrap (-(x:Int)))*285870213051353865) / 288230376151711744=((a*285870213051353865 % 18446744073709551616 / 288230376151711744:Nat):Int):=by
 have e1:IntKind.u64.wrap (-(x:Int))=((18446744073709551616-x:Nat):Int):=by rw [IntKind.wrap_u64]; omega
 rw [e1,bits_and_u64_nat x _ hx (by omega),hlow,IntKind.wrap_u64]
 omega
def TabB (w:World):Prop:=∀j,j < 64→w.cell? ⟨0,j,none⟩=some (.int .u8 (Lib.deBruijn64tab.getD j 0))
set_option maxRecDepth 100000 in
theorem tz_core (x k idx:Nat) (w:World) (hx0:((x:Int) == 0)=false)
  (key:IntKind.u64.wrap (bits BinOp.and IntKind.u64 (x:Int) (IntKind.u64.wrap (-(x:Int)))*285870213051353865) / 288230376151711744=(idx:Int))
  (hi:idx < 64) (hk:k < 64) (hcell:w.cell? ⟨0,idx,none⟩=some (.int .u8 k)) :
  Calls Tryz.prog 68 #[.int .u64 x] w fun e w'=>e=.returned (.int .i64 k)∧w'=w:=by
 go_enter Tryz.func68,Tryz.ntmps68
 go_wp2_with (simp only [key])
 go_ret
 exact ⟨rfl,rfl⟩
theorem tz_any (x:Nat) (w:World) (hx:x < 18446744073709551616) (hx0:x≠0) (hT:TabB w) :
  Calls Tryz.prog 68 #[.int .u64 x] w fun e w'=>e=.returned (.int .i64 (Lib.ctz 64 x))∧w'=w:=by
 obtain ⟨hlow,hk⟩:=Lib.lowest_bit 64 x hx0 hx
 obtain ⟨hi,htab⟩:=Lib.deBruijn64_at _ hk
 have hcell:=hT _ hi
 rw [htab] at hcell
 exact tz_core x _ _ w (by simp; omega) (tz_key x _ hx hx0 hlow) hi hk hcell
set_option maxRecDepth 100000 in
theorem in_any (x y:Nat) (w:World) (hx:x < 18446744073709551616) (hy:y < 18446744073709551616) :
  Calls Tryz.prog 61 #[.int .u64 x,.int .u64 y] w fun e w'=>e=.returned (.bool (outN x y == 0))∧w'=w:=by
 have hk:=bits_andNot_u64_nat x y hx hy
 go_enter Tryz.func61,Tryz.ntmps61
 go_wp2_with (simp only [hk])
 go_ret
 exact ⟨ret_bool (by rw [Bool.eq_iff_iff]; simp),rfl⟩
theorem TabB.below {w w':World} (h:TabB w) (hb:Below w.heap.size w w'):TabB w':=fun j hj=>(hb.cell (lt_of_cell (h j hj))).trans (h j hj)
theorem drop_getD {zs:List Int} {k:Nat} (h:k < zs.length):zs.drop k=zs.getD k 0 :: zs.drop (k+1):=by
 rw [List.drop_eq_getElem_cons h]; simp [h]
theorem Ris.drop {zs:List Int} (h:Ris zs) (k:Nat):Ris (zs.drop k):=List.Pairwise.sublist (List.drop_sublist k zs) h
theorem B64.drop {l:List Int} (h:B64 l) (k:Nat):B64 (l.drop k):=fun x hx=>h x (List.mem_of_mem_drop hx)
theorem and_rest {v:Int} {l:List Int} (h:Ris (v :: l)) (hb:B64 (v :: l)) :
  bits .and .u64 (setN (v :: l):Int) (IntKind.u64.wrap ((setN (v :: l):Int)-1))=((setN l:Nat):Int):=by
 have hp:=setN_pos h hb
 have hl:=setN_lt' hb
 have e:IntKind.u64.wrap ((setN (v :: l):Int)-1)=((setN (v :: l)-1:Nat):Int):=by
  rw [IntKind.wrap_u64]; omega
 rw [e,bits_and_u64_nat _ _ hl (by omega),setN_rest h hb]
set_option maxRecDepth 100000 in
set_option maxHeartbeats 800000 in
theorem list_any (zs:List Int) (w:World) (hb:B64 zs) (hr:Ris zs) (hT:TabB w) (hl:zs.length≤1000) :
  Calls Tryz.prog 46 #[.int .u64 (setN zs)] w fun e w'=>∃u,e=.returned u∧w'.ownsRow w.heap.size 3 1 u zs.length (ints zs)∧Below w.heap.size w w':=by
 obtain ⟨i3,hi3,hz30,hz31,hz32⟩:=info_parts Tryz.info3
 have HBZ:Hid (B64 zs):=hb
 have HRZ:Hid (Ris zs):=hr
 have HT:Hid (TabB w):=hT
 clear hb hr hT
 go_enter Tryz.func46,Tryz.ntmps46
 go_wp2_with fail
 refine (len_any (setN zs) w).mono ?_
 rintro e w' ⟨n,hn,rfl,hw'⟩
 subst hw'
 have hmk:(Instr.makeSlice 22 (.int .i64 0) (.int .i64 (n:Int))).run Tryz.prog w'=.ok (.slice (some ⟨w'.heap.size,0,none⟩) 0 n) (w'.alloc (.cells (madeCells #[.int .i64 0] n) 3)):=by
  have:=run_make (P:=Tryz.prog) w' 22 3 i3 (.int .i64 0) Tryz.underlying22 hi3 hz30 .i64 .i64 0 n (by omega) (by omega) (by rw [hz32]; omega) (by omega)
  rw [hz31,show (Value.int .i64 0).cells=#[.int .i64 0] from rfl] at this
  simpa using this
 have HO0:Hid ((w'.alloc (.cells (madeCells #[.int .i64 0] n) 3)).ownsRow w'.heap.size 3 1 (.slice (some ⟨w'.heap.size,0,none⟩) 0 n) 0 []):=
  World.ownsRow_made w' _ n (Nat.le_refl _) (by unfold maxLen; omega) (by rw [size_madeCells]; omega)
 have HB0:Hid (Below w'.heap.size w' (w'.alloc (.cells (madeCells #[.int .i64 0] n) 3))):=(Below.refl _ _).alloc (Nat.le_refl _) _
 generalize hW:w'.alloc (.cells (madeCells #[.int .i64 0] n) 3)=wA at *
 clear hW
 go_wp2
 go_loopw [3,4] (fun x r wr=>∃k:Nat,k≤zs.length∧r=.int .u64 (setN (zs.drop k))∧wr.ownsRow w'.heap.size 3 1 x (zs.take k).length (ints (zs.take k))∧Below w'.heap.size w' wr) (fun _ r wr=>(intOf r).toNat)
 case atStart=>exact ⟨0,Nat.zero_le _,by simp,by simpa [ints] using HO0.out,HB0.out⟩
 case round=>
  obtain ⟨k,hk,rfl,ho,hb⟩:=hrel
  have HO:Hid (wr.ownsRow w'.heap.size 3 1 u3 (zs.take k).length (ints (zs.take k))):=ho
  have HB:Hid (Below w'.heap.size w' wr):=hb
  clear ho hb HO0 HB0
  by_cases hlt:k < zs.length
  ·have hdk:=drop_getD hlt
   have HR:Hid (Ris (zs.getD k 0 :: zs.drop (k+1))):=by
    have:=HRZ.out.drop k
    rw [hdk] at this
    exact this
   have HBB:Hid (B64 (zs.getD k 0 :: zs.drop (k+1))):=by
    have:=HBZ.out.drop k
    rw [hdk] at this
    exact this
   have HTK:Hid (zs.take (k+1)=zs.take k ++ [zs.getD k 0]):=take_snoc_int zs k hlt
   rw [hdk]
   clear hdk
   have hpos:(((setN (zs.getD k 0 :: zs.drop (k+1)):Nat):Int) != 0)=true:=by
    have:=setN_pos HR.out HBB.out
    simp only [bne_iff_ne,ne_eq]
    omega
   have hrest:=and_rest HR.out HBB.out
   have hctz:=setN_ctz HR.out HBB.out
   have hlt64:=setN_lt' HBB.out
   have HME:Hid (setN (zs.drop (k+1)) < setN (zs.getD k 0 :: zs.drop (k+1))):=by
    obtain ⟨m,h1,h2⟩:=setN_low HR.out HBB.out
    show _ < _
    rw [h1,h2]
    exact Nat.mul_lt_mul_of_pos_left (by omega) (Nat.two_pow_pos _)
   generalize setN (zs.getD k 0 :: zs.drop (k+1))=S at *
   generalize zs.getD k 0=z at *
   have hszr:w'.heap.size≤wr.heap.size:=HB.out.size
   have HTL:Hid ((zs.take k).length=k):=by show _=_; rw [List.length_take]; omega
   go_wp2_with fail
   refine (tz_any S wr hlt64 (by intro h; rw [h] at hpos; exact absurd hpos (by decide)) (HT.out.below HB.out)).mono ?_
   rintro e w2 ⟨rfl,hw2⟩
   subst hw2
   rw [hctz]
   go_wp2_with (first | (at_builtin; refine wpList_append_own _ rfl _ _ 22 rfl w'.heap.size 3 i3 (.int .i64 0) 1 8 Tryz.underlying22 hi3 hz30 hz31 hz32 rfl (by decide) _ _ _ rfl (HO.out.alloc _) ⟨w2.heap.size,0,none⟩ 1 1 [.int .i64 z] rfl rfl (one_new _ _ _) (one_int _) ?c3 ?c4 ?c5 ?_))
   case c3=>rw [HTL.out]; unfold maxLen; omega
   case c4=>rw [HTL.out]; omega
   case c5=>simp; omega
   intro v' w3 ho hg _
   rw [show k+1=(zs.take k).length+1 by rw [HTL.out]] at ho
   have R:=owns_push (z:=z) (N:=(zs.take k).length+1) hszr (l:=zs.take k) HO.out HB.out ho hg rfl
   rw [←HTK.out] at R
   have R1:Hid (w3.ownsRow w'.heap.size 3 1 v' (zs.take (k+1)).length (ints (zs.take (k+1)))):=by
    have:=R.1
    have e:(zs.take (k+1)).length=(zs.take k).length+1:=by rw [HTK.out]; simp
    rw [e]
    exact this
   have R2:Hid (Below w'.heap.size w' w3):=R.2
   clear R ho hg HO HB
   go_wp2_with (simp only [hrest])
   go_roundw
   case rel=>exact ⟨k+1,by omega,rfl,R1.out,R2.out⟩
   case measure=>have:=HME.out; simp [intOf]; omega
  ·have hke:zs.take k=zs:=List.take_of_length_le (by omega)
   have hkd:zs.drop k=[]:=List.drop_eq_nil_of_le (by omega)
   rw [hkd]
   have HO':Hid (wr.ownsRow w'.heap.size 3 1 u3 zs.length (ints zs)):=by have:=HO.out; rw [hke] at this; exact this
   clear HO
   go_wp2
   go_ret
   exact ⟨_,rfl,HO'.out,HB.out⟩
end Go.Proofs.YtdanomklbiidaaaGreatDoor

namespace Go.Proofs.YtdanomklbiidaaaGreatDoor
open Go.RowKit
attribute [local go_sem ↓] Go.wp_at_zero Go.wp_at_succ
def mtTo (C:List (List Int)) (r:List Int) (k:Nat):List Int:=((List.range k).filter fun i=>decide (overL r (C.getD i [])=0)).map fun i:Nat=>(i:Int)
theorem mtTo_succ (C:List (List Int)) (r:List Int) (k:Nat):mtTo C r (k+1)=mtTo C r k ++ (if overL r (C.getD k [])=0 then [(k:Int)] else []):=by
 unfold mtTo
 rw [List.range_succ,List.filter_append,List.map_append]
 by_cases h:overL r (C.getD k [])=0
 ·rw [if_pos h,List.filter_cons_of_pos (by exact decide_eq_true h)]; rfl
 ·rw [if_neg h,List.filter_cons_of_neg (by rw [decide_eq_false h]; decide)]; rfl
theorem setN_app:∀(l:List Int) (x:Int),setN (l ++ [x])=setN l ||| 2 ^ x.toNat
 | [],x=>by simp [setN]
 | v :: l,x=>by
  rw [List.cons_append]
  unfold setN
  rw [setN_app l x,Nat.or_assoc]
theorem setN_mt (C:List (List Int)) (r:List Int):∀k,setN (mtTo C r k)=sdTo C r k
 | 0=>rfl
 | k+1=>by
  rw [mtTo_succ]
  unfold sdTo
  by_cases h:overL r (C.getD k [])=0
  ·rw [if_pos h,if_pos h,setN_app,setN_mt C r k]; simp
  ·rw [if_neg h,if_neg h,List.append_nil,setN_mt C r k,Nat.or_zero]
theorem mtTo_mem {C:List (List Int)} {r:List Int} {k:Nat} {x:Int} (h:x∈mtTo C r k):0≤x∧x < (k:Int):=by
 unfold mtTo at h
 simp only [List.mem_map,List.mem_filter,List.mem_range] at h
 obtain ⟨i,⟨hi,_⟩,rfl⟩:=h
 omega
theorem mtTo_len (C:List (List Int)) (r:List Int) (k:Nat):(mtTo C r k).length≤k:=by
 unfold mtTo
 rw [List.length_map]
 exact Nat.le_trans (List.length_filter_le _ _) (by simp)
set_option maxRecDepth 100000 in
set_option maxHeartbeats 1600000 in
theorem metBy_any (d:Nat) (C:List (List Int)) (r:List Int) (rv cv:Value) (w:World) (hr:Sl w.heap.size 3 w rv (ints r)) (hc:Mat w.heap.size 22 3 w cv C) (hrl:r.length=d+1) (hlen:∀y∈C,y.length=d) (hsm:∀y∈C,Sm (r.take d) y) (hn:C.length≤16) :
  Calls Tryz.prog 89 #[rv,cv] w fun e w'=>e=.returned (.int .u64 (sdN C r))∧Below w.heap.size w w':=by
 obtain ⟨i3,hi3,hz30,hz31,hz32⟩:=info_parts Tryz.info3
 obtain ⟨co,cc,rfl,hlc,hcm⟩:=mat_open hc
 obtain ⟨rb,ro,rcp,rfl,hc1,hcc⟩:=sl_cell hr (k:=d) (by omega)
 have hTK:=Sl.take (n:=d) hr (by omega)
 have HTK:Hid (∀W',Below w.heap.size w W'→Sl w.heap.size 3 W' (.slice (some ⟨rb,ro,none⟩) d rcp) (ints (r.take d))):=fun W' h=>by
  exact hTK.below h (Nat.le_refl _)
 have HRC:Hid (∀W',Below w.heap.size w W'→W'.cell? ⟨rb,ro+d,none⟩=some (.int .i64 (r.getD d 0))):=fun W' h=>(h.cell (lt_of_cell hcc)).trans hcc
 have HC:Hid (∀W',Below w.heap.size w W'→Mat w.heap.size 22 3 W' (.slice co C.length cc) C):=fun W' h=>hc.below h (Nat.le_refl _)
 have HLN:Hid (∀y∈C,y.length=d):=hlen
 have HSM:Hid (∀y∈C,Sm (r.take d) y):=hsm
 rw [hrl] at hc1
 rw [hrl]
 clear hr hc hrl hlen hsm hTK hcc
 go_enter Tryz.func89,Tryz.ntmps89
 go_wp2
 go_loopw [5,6,7,10] (fun x _ _ i wr=>∃k:Nat,k≤C.length∧i=.int .i64 k∧wr.ownsRow w.heap.size 3 1 x (mtTo C r k).length (ints (mtTo C r k))∧Below w.heap.size w wr) (fun _ _ _ i _=>C.length-(intOf i).toNat)
 case atStart=>exact ⟨0,Nat.zero_le _,rfl,by rw [show mtTo C r 0=[] from rfl]; exact World.ownsRow_nil _ _ _ _,Below.refl _ _⟩
 case round=>
  obtain ⟨k,hk,rfl,ho,hb⟩:=hrel
  have HO:Hid (wr.ownsRow w.heap.size 3 1 u5 (mtTo C r k).length (ints (mtTo C r k))):=ho
  have HB:Hid (Below w.heap.size w wr):=hb
  have hszr:w.heap.size≤wr.heap.size:=hb.size
  have HML:Hid ((mtTo C r k).length≤16):=Nat.le_trans (mtTo_len C r k) (by omega)
  clear ho hb
  by_cases hlt:k < C.length
  ·obtain ⟨qb,qo,qcp,q1,hqs,_,hqc,hq1⟩:=mat_cell (HC.out wr HB.out) hlt
   simp only [Value.slice.injEq,true_and] at hqs
   obtain ⟨rfl,rfl⟩:=hqs
   have hkm:C.getD k []∈C:=by simp [hlt]
   have hyl:=HLN.out _ hkm
   obtain ⟨yo,yc,rfl,_,_⟩:=sl_open hq1
   have hrc:=HRC.out wr HB.out
   have HPR:Hid (∀n,Calls Tryz.prog 113 #[.slice (some ⟨rb,ro,none⟩) d rcp,.slice yo d yc] (wr.drewN n) fun e w'=>e=.returned (.int .i64 (dotL (r.take d) (C.getD k [])))∧∃k,w'=(wr.drewN n).drewN k):=fun n=>by
    have h:=product_any w.heap.size (r.take d) (C.getD k []) (.slice (some ⟨rb,ro,none⟩) d rcp) (.slice yo (C.getD k []).length yc) (wr.drewN n) ((HTK.out wr HB.out).drewN n) (hq1.drewN n) (HSM.out _ hkm)
    rw [hyl] at h
    exact h
   have HOV:Hid (overL r (C.getD k [])=dotL (r.take d) (C.getD k [])-r.getD d 0):=by
    show _=_
    unfold overL
    rw [hyl]
   have HSU:Hid (mtTo C r (k+1)=mtTo C r k ++ (if overL r (C.getD k [])=0 then [(k:Int)] else [])):=mtTo_succ C r k
   rw [hyl] at hqc
   rw [HOV.out] at HSU
   clear hq1 hkm hyl HOV
   generalize dotL (r.take d) (C.getD k [])=D at *
   generalize r.getD d 0=q at *
   have hd0:(0:Int)≤(d:Int):=by omega
   have hd1:(d:Int) < (d:Int)+1:=by omega
   have hdc:d≤rcp:=by omega
   have hdc2:(d:Int)≤(rcp:Int):=by omega
   by_cases hD:D=q
   ·have hDq:(D == q)=true:=by simp [hD]
    have HS2:Hid (mtTo C r (k+1)=mtTo C r k ++ [(k:Int)]):=by
     have h:=HSU.out
     rw [if_pos (by omega)] at h
     exact h
    clear HSU hD
    obtain ⟨ol,hol⟩:∃ol,ol=(mtTo C r k).length:=⟨_,rfl⟩
    have HOL:Hid (ol=(mtTo C r k).length):=hol
    rw [←hol] at HO HML
    have hol2:ol≤16:=HML.out
    clear hol
    go_wp2
    go_quiet (first | (go_at_call 113; exact Calls.quiet_of (w:=wr) (HPR.out _)))
    obtain ⟨WX,hWX⟩:∃WX,WX=wr.drewN nq:=⟨_,rfl⟩
    rw [←hWX]
    have HOX:Hid (WX.ownsRow w.heap.size 3 1 u5 ol (ints (mtTo C r k))):=by rw [hWX]; exact HO.out
    have HBX:Hid (Below w.heap.size w WX):=by rw [hWX]; exact ⟨HB.out.os,HB.out.tape,HB.out.output,HB.out.size,HB.out.block⟩
    have hszx:w.heap.size≤WX.heap.size:=HBX.out.size
    clear hWX hrc hqc HPR HO
    go_wp2_with (first | (at_builtin; refine wpList_append_own _ rfl _ _ 22 rfl w.heap.size 3 i3 (.int .i64 0) 1 8 Tryz.underlying22 hi3 hz30 hz31 hz32 rfl (by decide) _ _ _ rfl (HOX.out.alloc _) ⟨WX.heap.size,0,none⟩ 1 1 [.int .i64 k] rfl rfl (one_new _ _ _) (one_int _) ?c3 ?c4 ?c5 ?_))
    case c3=>unfold maxLen; omega
    case c4=>omega
    case c5=>first | exact hszx | omega | (simp; omega)
    intro v' w3 ho3 hg3 _
    have R1:Hid (w3.ownsRow w.heap.size 3 1 v' (mtTo C r (k+1)).length (ints (mtTo C r (k+1)))):=by
     have e1:(mtTo C r (k+1)).length=ol+1:=by rw [HS2.out,List.length_append,←HOL.out]; rfl
     have e2:ints (mtTo C r (k+1))=ints (mtTo C r k) ++ [.int .i64 (k:Int)]:=by rw [HS2.out]; simp [ints]
     show World.ownsRow _ _ _ _ _ _ _
     rw [e1,e2]
     exact ho3
    have R2:Hid (Below w.heap.size w w3):=(HBX.out.alloc hszx _).grown hg3 (by simp; omega) (fun x hx=>(HOX.out.lt x hx).1)
    clear ho3 hg3
    go_wp2
    go_roundw
    case rel=>exact ⟨k+1,by omega,by go_num,R1.out,R2.out⟩
    case measure=>simp [intOf]; omega
   ·have hDq:(D == q)=false:=by simp [hD]
    have HS2:Hid (mtTo C r (k+1)=mtTo C r k):=by
     have h:=HSU.out
     rw [if_neg (by omega),List.append_nil] at h
     exact h
    clear HSU hD
    go_wp2
    go_quiet (first | (go_at_call 113; exact Calls.quiet_of (w:=wr) (HPR.out _)))
    obtain ⟨WX,hWX⟩:∃WX,WX=wr.drewN nq:=⟨_,rfl⟩
    rw [←hWX]
    have HOX:Hid (WX.ownsRow w.heap.size 3 1 u5 (mtTo C r (k+1)).length (ints (mtTo C r (k+1)))):=by rw [hWX,HS2.out]; exact HO.out
    have HBX:Hid (Below w.heap.size w WX):=by rw [hWX]; exact ⟨HB.out.os,HB.out.tape,HB.out.output,HB.out.size,HB.out.block⟩
    clear hWX hrc hqc HPR HO
    go_wp2
    go_roundw
    case rel=>exact ⟨k+1,by omega,by go_num,HOX.out,HBX.out⟩
    case measure=>simp [intOf]; omega
  ·have hke:k=C.length:=by omega
   have HSO:Hid (Calls Tryz.prog 67 #[u5] wr fun e w'=>e=.returned (.int .u64 (sdN C r))∧∃n,w'=wr.drewN n):=by
    have h:=setOf_any w.heap.size (mtTo C r k) u5 wr (Sl.own HO.out) (fun x hx=>by have:=mtTo_mem hx; omega)
    rw [setN_mt,hke] at h
    exact h
   subst hke
   clear hlt
   obtain ⟨uo,uc,huv⟩:=owns_form HO.out
   subst huv
   go_wp2_with fail
   refine HSO.out.mono ?_
   rintro e w2 ⟨rfl,n,rfl⟩
   have HBX:Hid (Below w.heap.size w (wr.drewN n)):=⟨HB.out.os,HB.out.tape,HB.out.output,HB.out.size,HB.out.block⟩
   go_wp2
   go_ret
   exact ⟨rfl,HBX.out⟩
end Go.Proofs.YtdanomklbiidaaaGreatDoor

namespace Go.Proofs.YtdanomklbiidaaaGreatDoor
open Lin
def fstO (order face:List Int):Int:=(order.find? fun x=>decide (x∈face)).getD (-1)
def tkB (order face g:List Int):Bool:=!decide (fstO order face∈g) && decide (setN g &&& setN face=setN g)
def pulD (LV:Nat→List (List Int)) (order:List Int):Nat→List Int→List (List Int)
 | 0,_=>[]
 | 1,face=>[face]
 | t+2,face=>(LV (t+1)).flatMap fun g=>if tkB order face g then (pulD LV order (t+1) g).map fun c=>c ++ [fstO order face] else []
def pulS (LV:Nat→List (List Int)) (order:List Int):Nat→List Int→List Nat
 | 0,_=>[]
 | 1,face=>[setN face]
 | t+2,face=>(LV (t+1)).flatMap fun g=>if tkB order face g then (pulS LV order (t+1) g).map fun c=>2 ^ (fstO order face).toNat ||| c else []
theorem pul_same (LV:Nat→List (List Int)) (order:List Int):∀t face,pulS LV order t face=(pulD LV order t face).map setN
 | 0,_=>rfl
 | 1,_=>rfl
 | t+2,face=>by
  unfold pulS pulD
  rw [List.map_flatMap]
  refine congrArg (fun f=>(LV (t+1)).flatMap f) (funext fun g=>?_)
  by_cases h:tkB order face g
  ·simp only [h,if_true]
   rw [pul_same LV order (t+1) g,List.map_map,List.map_map]
   refine List.map_congr_left fun c _=>?_
   simp only [Function.comp]
   rw [setN_app,Nat.or_comm]
  ·simp [h]
theorem flat_len {α β:Type} (f:α→List β) (M:Nat):∀l:List α,(∀a∈l,(f a).length≤M)→(l.flatMap f).length≤l.length*M
 | [],_=>by simp
 | a :: l,h=>by
  rw [List.flatMap_cons,List.length_append,List.length_cons,Nat.add_mul]
  have h1:=h a (by simp)
  have h2:=flat_len f M l fun b hb=>h b (by simp [hb])
  omega
theorem pulD_len (LV:Nat→List (List Int)) (order:List Int) (hl:∀t,(LV t).length≤1024):∀t face,(pulD LV order (t+1) face).length≤1024 ^ t
 | 0,_=>by simp [pulD]
 | t+1,face=>by
  unfold pulD
  refine Nat.le_trans (flat_len _ (1024 ^ t) _ fun g _=>?_) ?_
  ·split
   ·rw [List.length_map]; exact pulD_len LV order hl t g
   ·simp
  ·rw [Nat.pow_succ,Nat.mul_comm (1024 ^ t)]
   exact Nat.mul_le_mul_right _ (hl (t+1))
theorem fstO_mem {order face:List Int} (h:∃x∈order,x∈face):fstO order face∈order∧fstO order face∈face:=by
 unfold fstO
 obtain ⟨x,h1,h2⟩:=h
 cases hf:order.find? fun x=>decide (x∈face) with
 | none=>
  have:=List.find?_eq_none.1 hf x h1
  simp [h2] at this
 | some y=>
  have e1:=List.mem_of_find?_eq_some hf
  have e2:=List.find?_some hf
  exact ⟨e1,by simpa using e2⟩
theorem fstO_take {order face:List Int} {k:Nat} (hk:k < order.length) (hno:∀x∈order.take k,x∉face) (hin:order.getD k 0∈face):fstO order face=order.getD k 0:=by
 have e:order.getD k 0=order[k]:=by simp [hk]
 rw [e] at hin ⊢
 unfold fstO
 have h:order.find? (fun x=>decide (x∈face))=some order[k]:=by
  rw [List.find?_eq_some_iff_append]
  refine ⟨by simpa using hin,order.take k,order.drop (k+1),?_,fun a ha=>by simpa using hno a ha⟩
  rw [List.getElem_cons_drop,List.take_append_drop]
 rw [h]
 rfl
structure LvO (LV:Nat→List (List Int)) (order:List Int) (n:Nat):Prop where
 len:∀t,(LV t).length≤1024
 row:∀t,∀g∈LV t,g.length≤10∧∀x∈g,0≤x∧x < (n:Int)
 ord:∀x∈order,0≤x∧x < (n:Int)
 has:∀t,∀g∈LV (t+1),∃x∈order,x∈g
 olen:order.length≤10
theorem pulD_mem {LV:Nat→List (List Int)} {order:List Int} {n:Nat} (h:LvO LV order n):∀t,∀face∈LV (t+1),∀c∈pulD LV order (t+1) face,c.length≤10+t∧∀x∈c,0≤x∧x < (n:Int)
 | 0,face,hf=>fun c hc=>by
  simp only [pulD,List.mem_singleton] at hc
  subst hc
  exact h.row 1 c hf
 | t+1,face,hf=>fun c hc=>by
  unfold pulD at hc
  obtain ⟨g,hg,hc⟩:=List.mem_flatMap.1 hc
  split at hc
  ·obtain ⟨c',hc',rfl⟩:=List.mem_map.1 hc
   obtain ⟨h1,h2⟩:=pulD_mem h t g hg c' hc'
   have h3:=h.ord _ (fstO_mem (h.has (t+1) face hf)).1
   refine ⟨by rw [List.length_append]; simp; omega,fun x hx=>?_⟩
   rcases List.mem_append.1 hx with hx | hx
   ·exact h2 x hx
   ·simp at hx; subst hx; exact h3
  ·simp at hc
end Go.Proofs.YtdanomklbiidaaaGreatDoor
