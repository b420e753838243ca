import Derived.Test.YtkfdpcgmpbopnaaGreatDoorDatA
import Derived.Lib.TrailingZeros
import Derived.Laws.Bits64b
import Derived.Test.YtkfdpcgmpbopnaaGreatDoorCycAll
import Derived.Laws.AppendOwnNone
import Derived.Laws.MakeOwn
import Derived.Test.YtkfdpcgmpbopnaaGreatDoorRefA
import Derived.Test.YtkfdpcgmpbopnaaGreatDoorLtA
namespace Go.Proofs.YtkfdpcgmpbopnaaGreatDoor
open Go.RowKit
def Ris (l:List Int):Prop:=l.Pairwise (· < ·)
theorem Ris.nodup {l:List Int} (h:Ris l):l.Nodup:=h.imp (fun h=>by omega)
theorem nodup_len {α:Type} [BEq α] [LawfulBEq α]:∀(l o:List α),l.Nodup→(∀x∈l,x∈o)→l.length≤o.length
 | [],o,_,_=>Nat.zero_le _
 | a :: l,o,hn,hs=>by
  have ha:a∈o:=hs a (by simp)
  have hn':=List.nodup_cons.1 hn
  have:=nodup_len l (o.erase a) hn'.2 (fun x hx=>by
   have hxa:x≠a:=fun e=>hn'.1 (e ▸ hx)
   exact (List.mem_erase_of_ne hxa).2 (hs x (by simp [hx])))
  have hl:=List.length_erase_of_mem ha
  have hp:0 < o.length:=List.length_pos_of_mem ha
  simp only [List.length_cons]
  omega
def setN:List Int→Nat
 | []=>0
 | v :: l=>2 ^ v.toNat ||| setN l
def B64 (l:List Int):Prop:=∀x∈l,0≤x∧x≤63
theorem B64.tail {v:Int} {l:List Int} (h:B64 (v :: l)):B64 l:=fun x hx=>h x (by simp [hx])
theorem B64.filter {l:List Int} (h:B64 l) (p:Int→Bool):B64 (l.filter p):=fun x hx=>h x (List.mem_filter.1 hx).1
theorem setN_lt:∀(l:List Int),B64 l→setN l < 2 ^ 64
 | [],_=>by simp [setN]
 | v :: l,h=>by
  have hv:=h v (by simp)
  exact Nat.or_lt_two_pow (Nat.pow_lt_pow_right (by omega) (by omega)) (setN_lt l h.tail)
theorem setN_append:∀(a b:List Int),setN (a ++ b)=setN a ||| setN b
 | [],b=>by simp [setN]
 | v :: a,b=>by simp only [List.cons_append,setN]; rw [setN_append a b,Nat.or_assoc]
theorem setN_even:∀(l:List Int) (k:Nat),(∀x∈l,(k:Int)≤x)→∃m,setN l=2 ^ k*m
 | [],k,_=>⟨0,rfl⟩
 | v :: l,k,h=>by
  obtain ⟨m,hm⟩:=setN_even l k (fun x hx=>h x (by simp [hx]))
  have hv:=h v (by simp)
  refine ⟨2 ^ (v.toNat-k) ||| m,?_⟩
  rw [setN,hm]
  have e:2 ^ v.toNat=2 ^ k*2 ^ (v.toNat-k):=by rw [←Nat.pow_add]; congr 1; omega
  rw [e]
  apply Nat.eq_of_testBit_eq
  intro i
  rw [Nat.testBit_or,Nat.testBit_two_pow_mul,Nat.testBit_two_pow_mul,Nat.testBit_two_pow_mul,Nat.testBit_or]
  cases decide (i≥k) <;> rfl
theorem setN_low {v:Int} {l:List Int} (h:Ris (v :: l)) (hb:B64 (v :: l)):∃m,setN (v :: l)=2 ^ v.toNat*(2*m+1)∧setN l=2 ^ v.toNat*(2*m):=by
 obtain ⟨h1,_⟩:=List.pairwise_cons.1 h
 have hv:=hb v (by simp)
 obtain ⟨m,hm⟩:=setN_even l (v.toNat+1) (fun x hx=>by have:=h1 x hx; omega)
 refine ⟨m,?_,by rw [hm,Nat.pow_succ,Nat.mul_assoc]⟩
 rw [setN,hm,Nat.pow_succ,Nat.mul_assoc]
 have:2 ^ v.toNat*(2*m+1)=2 ^ v.toNat+2 ^ v.toNat*(2*m):=by rw [Nat.mul_add,Nat.mul_one,Nat.add_comm]
 rw [this]
 have h2:=Nat.two_pow_add_eq_or_of_lt (i:=v.toNat) (b:=0) (Nat.two_pow_pos _) (2*m)
 apply Nat.eq_of_testBit_eq
 intro i
 rw [Nat.testBit_or,Nat.testBit_two_pow,Nat.testBit_two_pow_mul,←this,Nat.testBit_two_pow_mul]
 by_cases hi:v.toNat≤i
 ·by_cases hi':v.toNat=i
  ·simp [hi',Nat.testBit_zero]
  ·have h3:(2*m+1).testBit (i-v.toNat)=(2*m).testBit (i-v.toNat):=by
    obtain ⟨j,hj⟩:∃j,i-v.toNat=j+1:=⟨i-v.toNat-1,by omega⟩
    rw [hj,Nat.testBit_succ,Nat.testBit_succ]
    congr 1
    omega
   simp [hi,hi',h3]
 ·simp [hi]; omega
theorem ctzFrom_low:∀(f k m:Nat),k < f→Lib.ctzFrom f (2 ^ k*(2*m+1))=k
 | 0,k,m,h=>by omega
 | f+1,0,m,_=>by
  rw [Lib.ctzFrom,if_pos (by omega)]
 | f+1,k+1,m,h=>by
  have e:2 ^ (k+1)*(2*m+1)=2*(2 ^ k*(2*m+1)):=by rw [Nat.pow_succ,Nat.mul_comm (2 ^ k) 2,Nat.mul_assoc]
  rw [Lib.ctzFrom,e,if_neg (by omega),Nat.mul_div_cancel_left _ (by omega),ctzFrom_low f k m (by omega)]
  omega
theorem setN_ctz {v:Int} {l:List Int} (h:Ris (v :: l)) (hb:B64 (v :: l)):((Lib.ctz 64 (setN (v :: l)):Nat):Int)=v:=by
 obtain ⟨m,hm,_⟩:=setN_low h hb
 have hv:=hb v (by simp)
 have hp:0 < 2 ^ v.toNat*(2*m+1):=Nat.mul_pos (Nat.two_pow_pos _) (by omega)
 rw [Lib.ctz,if_neg (by rw [hm]; omega),hm,ctzFrom_low _ _ _ (by omega)]
 omega
theorem setN_pos {v:Int} {l:List Int} (h:Ris (v :: l)) (hb:B64 (v :: l)):0 < setN (v :: l):=by
 obtain ⟨m,hm,_⟩:=setN_low h hb
 rw [hm]
 exact Nat.mul_pos (Nat.two_pow_pos _) (by omega)
theorem setN_rest {v:Int} {l:List Int} (h:Ris (v :: l)) (hb:B64 (v :: l)):setN (v :: l) &&& (setN (v :: l)-1)=setN l:=by
 obtain ⟨m,hm,hl⟩:=setN_low h hb
 rw [hm,hl]
 have e:2 ^ v.toNat*(2*m+1)-1=2 ^ v.toNat*(2*m)+(2 ^ v.toNat-1):=by
  have:=Nat.two_pow_pos v.toNat
  rw [Nat.mul_add,Nat.mul_one]; omega
 apply Nat.eq_of_testBit_eq
 intro i
 rw [Nat.testBit_and,e,Nat.testBit_two_pow_mul_add _ (by have:=Nat.two_pow_pos v.toNat; omega),Nat.testBit_two_pow_mul,Nat.testBit_two_pow_mul]
 by_cases hi:v.toNat≤i
 ·rw [if_neg (by omega)]
  by_cases hi':i=v.toNat
  ·simp [hi',Nat.testBit_zero]
  ·have h3:(2*m+1).testBit (i-v.toNat)=(2*m).testBit (i-v.toNat):=by
    obtain ⟨j,hj⟩:∃j,i-v.toNat=j+1:=⟨i-v.toNat-1,by omega⟩
    rw [hj,Nat.testBit_succ,Nat.testBit_succ]
    congr 1
    omega
   rw [h3]
   simp [hi]
 ·simp [hi]
end Go.Proofs.YtkfdpcgmpbopnaaGreatDoor
namespace Go.Proofs.YtkfdpcgmpbopnaaGreatDoor
open Go.RowKit
theorem setN_one (v:Int):setN [v]=2 ^ v.toNat:=by simp [setN]
theorem setN_lt' {l:List Int} (h:B64 l):setN l < 18446744073709551616:=setN_lt l h
theorem setN_snoc (zs:List Int) (k:Nat) (h:k < zs.length):setN (zs.take (k+1))=setN (zs.take k) ||| 2 ^ (zs.getD k 0).toNat:=by
 rw [take_snoc_int zs k h,setN_append,setN_one]
theorem B64.take {l:List Int} (h:B64 l) (k:Nat):B64 (l.take k):=fun x hx=>h x (List.mem_of_mem_take hx)
theorem B64.get {l:List Int} (h:B64 l) {k:Nat} (hk:k < l.length):0≤l.getD k 0∧l.getD k 0≤63:=h _ (by simp [hk])
theorem shl_one {z:Int} (h0:0≤z) (h63:z≤63):IntKind.u64.wrap ((2:Int) ^ z.toNat)=((2 ^ z.toNat:Nat):Int):=by
 have:2 ^ z.toNat < 2 ^ 64:=Nat.pow_lt_pow_right (by omega) (by omega)
 rw [IntKind.wrap_u64]
 have e:((2:Int) ^ z.toNat)=((2 ^ z.toNat:Nat):Int):=by simp
 rw [e]
 generalize 2 ^ z.toNat=q at *
 omega
set_option maxRecDepth 100000 in
theorem one_any (z:Int) (w:World) (h0:0≤z) (h63:z≤63) :
  Calls Tryz.prog 89 #[.int .i64 z] w fun e w'=>e=.returned (.int .u64 ((2 ^ z.toNat:Nat):Int))∧w'=w:=by
 have HE:Hid (IntKind.u64.wrap ((2:Int) ^ z.toNat)=((2 ^ z.toNat:Nat):Int)):=shl_one h0 h63
 go_enter Tryz.func89,Tryz.ntmps89
 go_wp2
 go_ret
 exact ⟨ret_int HE.out,rfl⟩
set_option maxRecDepth 100000 in
set_option maxHeartbeats 400000 in
theorem setOf_any (B:Nat) (zs:List Int) (v:Value) (w:World) (hv:Sl B 3 w v (ints zs)) (hb:B64 zs) :
  Calls Tryz.prog 70 #[v] w fun e w'=>e=.returned (.int .u64 (setN zs))∧∃n,w'=w.drewN n:=by
 obtain ⟨ao,cap,hvv,hlc,hcm⟩:=sl_open hv
 subst hvv
 have HV:Hid (Sl B 3 w (.slice ao zs.length cap) (ints zs)):=hv
 have HB:Hid (B64 zs):=hb
 clear hv hb
 go_enter Tryz.func70,Tryz.ntmps70
 go_wp2
 go_loopw [3,8] (fun s i wr=>∃k:Nat,k≤zs.length∧i=.int .i64 k∧s=.int .u64 (setN (zs.take k))∧∃n,wr=w.drewN n) (fun _ i _=>zs.length-(intOf i).toNat)
 case atStart=>exact ⟨0,Nat.zero_le _,rfl,rfl,0,rfl⟩
 case round=>
  obtain ⟨k,hk,rfl,rfl,n,rfl⟩:=hrel
  by_cases hlt:k < zs.length
  ·obtain ⟨b,o,cp,hs,hc1,hcc⟩:=sl_cell HV.out hlt
   simp only [Value.slice.injEq] at hs
   obtain ⟨rfl,_,rfl⟩:=hs
   have HSN:Hid (setN (zs.take (k+1))=setN (zs.take k) ||| 2 ^ (zs.getD k 0).toNat):=setN_snoc zs k hlt
   obtain ⟨hz0,hz63⟩:=HB.out.get hlt
   have HLT:Hid (setN (zs.take k) < 18446744073709551616):=setN_lt' (HB.out.take k)
   generalize setN (zs.take k)=S at *
   generalize zs.getD k 0=z at *
   have e2:bits BinOp.or IntKind.u64 (S:Int) ((2 ^ z.toNat:Nat):Int)=((setN (zs.take (k+1)):Nat):Int):=by
    have:2 ^ z.toNat < 2 ^ 64:=Nat.pow_lt_pow_right (by omega) (by omega)
    rw [bits_or_u64_nat S _ HLT.out (by simpa using this),HSN.out]
   have HON:=one_any z (w.drewN n) hz0 hz63
   have HO1:Hid (Calls Tryz.prog 89 #[.int .i64 z] (w.drewN n) fun e w'=>e=.returned (.int .u64 ((2 ^ z.toNat:Nat):Int))∧w'=w.drewN n):=HON
   clear HON
   generalize 2 ^ z.toNat=q2 at *
   have HE2:Hid (bits BinOp.or IntKind.u64 (S:Int) (q2:Int)=((setN (zs.take (k+1)):Nat):Int)):=e2
   clear e2 HSN
   go_wp2_with fail
   refine HO1.out.mono ?_
   rintro e w2 ⟨rfl,hw2⟩
   subst hw2
   go_wp2
   go_roundw
   case rel=>exact ⟨k+1,by omega,by go_num,by rw [HE2.out],_,rfl⟩
   case measure=>simp [intOf]; omega
  ·have hke:zs.take k=zs:=List.take_of_length_le (by omega)
   rw [hke]
   go_wp2
   go_ret
   exact ⟨rfl,n,rfl⟩
theorem and127 (z:Int):∃n:Nat,n≤127∧bits .and .i64 z 127=(n:Int):=by
 refine ⟨(BitVec.ofInt 64 z &&& BitVec.ofInt 64 127).toNat,?_,?_⟩
 ·rw [BitVec.toNat_and]
  exact Nat.le_trans Nat.and_le_right (by decide)
 ·have h:(BitVec.ofInt 64 z &&& BitVec.ofInt 64 127).toNat≤127:=by
   rw [BitVec.toNat_and]
   exact Nat.le_trans Nat.and_le_right (by decide)
  show IntKind.i64.wrap ((BitVec.ofInt 64 z &&& BitVec.ofInt 64 127).toNat:Int)=_
  generalize (BitVec.ofInt 64 z &&& BitVec.ofInt 64 127).toNat=t at *
  have e:IntKind.i64.wrap (t:Int)=wrap64 (t:Int):=by simp [IntKind.wrap,IntKind.bits,IntKind.signed,wrap64]; omega
  rw [e]
  exact IntWalk.wrap64_in (t:Int) ⟨by omega,by omega⟩
set_option maxRecDepth 100000 in
theorem ones_any (x:Nat) (w:World) :
  Calls Tryz.prog 80 #[.int .u64 x] w fun e w'=>∃n:Nat,n≤127∧e=.returned (.int .i64 n)∧w'=w:=by
 go_enter Tryz.func80,Tryz.ntmps80
 go_wp2
 go_ret
 generalize (wrap64 _)=z
 obtain ⟨n,h1,h2⟩:=and127 z
 exact ⟨n,h1,by rw [h2]; rfl,rfl⟩
set_option maxRecDepth 100000 in
theorem len_any (x:Nat) (w:World) :
  Calls Tryz.prog 57 #[.int .u64 x] w fun e w'=>∃n:Nat,n≤127∧e=.returned (.int .i64 n)∧w'=w:=by
 go_enter Tryz.func57,Tryz.ntmps57
 go_wp2_with fail
 refine (ones_any x w).mono ?_
 rintro e w' ⟨n,hn,rfl,rfl⟩
 go_wp2
 go_ret
 exact ⟨n,hn,rfl,rfl⟩
theorem tz_key (x a:Nat) (hx:x < 18446744073709551616) (hx0:x≠0) (hlow:x &&& (18446744073709551616-x)=a) :
  IntKind.u64.wrap (bits BinOp.and IntKind.u64 (x:Int) (IntKind.u64.wrap (-(x:Int)))*285870213051353865) / 288230376151711744=((a*285870213051353865 % 18446744073709551616 / 288230376151711744:Nat):Int):=by
 have e1:IntKind.u64.wrap (-(x:Int))=((18446744073709551616-x:Nat):Int):=by rw [IntKind.wrap_u64]; omega
 rw [e1,bits_and_u64_nat x _ hx (by omega),hlow,IntKind.wrap_u64]
 omega
def TabB (w:World):Prop:=∀j,j < 64→w.cell? ⟨0,j,none⟩=some (.int .u8 (Lib.deBruijn64tab.getD j 0))
set_option maxRecDepth 100000 in
theorem tz_core (x k idx:Nat) (w:World) (hx0:((x:Int) == 0)=false)
  (key:IntKind.u64.wrap (bits BinOp.and IntKind.u64 (x:Int) (IntKind.u64.wrap (-(x:Int)))*285870213051353865) / 288230376151711744=(idx:Int))
  (hi:idx < 64) (hk:k < 64) (hcell:w.cell? ⟨0,idx,none⟩=some (.int .u8 k)) :
  Calls Tryz.prog 74 #[.int .u64 x] w fun e w'=>e=.returned (.int .i64 k)∧w'=w:=by
 go_enter Tryz.func74,Tryz.ntmps74
 go_wp2_with (simp only [key])
 go_ret
 exact ⟨rfl,rfl⟩
theorem tz_any (x:Nat) (w:World) (hx:x < 18446744073709551616) (hx0:x≠0) (hT:TabB w) :
  Calls Tryz.prog 74 #[.int .u64 x] w fun e w'=>e=.returned (.int .i64 (Lib.ctz 64 x))∧w'=w:=by
 obtain ⟨hlow,hk⟩:=Lib.lowest_bit 64 x hx0 hx
 obtain ⟨hi,htab⟩:=Lib.deBruijn64_at _ hk
 have hcell:=hT _ hi
 rw [htab] at hcell
 exact tz_core x _ _ w (by simp; omega) (tz_key x _ hx hx0 hlow) hi hk hcell
theorem TabB.below {w w':World} (h:TabB w) (hb:Below w.heap.size w w'):TabB w':=fun j hj=>(hb.cell (lt_of_cell (h j hj))).trans (h j hj)
theorem drop_getD {zs:List Int} {k:Nat} (h:k < zs.length):zs.drop k=zs.getD k 0 :: zs.drop (k+1):=by
 rw [List.drop_eq_getElem_cons h]; simp [h]
theorem Ris.drop {zs:List Int} (h:Ris zs) (k:Nat):Ris (zs.drop k):=List.Pairwise.sublist (List.drop_sublist k zs) h
theorem B64.drop {l:List Int} (h:B64 l) (k:Nat):B64 (l.drop k):=fun x hx=>h x (List.mem_of_mem_drop hx)
theorem and_rest {v:Int} {l:List Int} (h:Ris (v :: l)) (hb:B64 (v :: l)) :
  bits .and .u64 (setN (v :: l):Int) (IntKind.u64.wrap ((setN (v :: l):Int)-1))=((setN l:Nat):Int):=by
 have hp:=setN_pos h hb
 have hl:=setN_lt' hb
 have e:IntKind.u64.wrap ((setN (v :: l):Int)-1)=((setN (v :: l)-1:Nat):Int):=by
  rw [IntKind.wrap_u64]; omega
 rw [e,bits_and_u64_nat _ _ hl (by omega),setN_rest h hb]
set_option maxRecDepth 100000 in
set_option maxHeartbeats 800000 in
theorem list_any (zs:List Int) (w:World) (hb:B64 zs) (hr:Ris zs) (hT:TabB w) (hl:zs.length≤1000) :
  Calls Tryz.prog 53 #[.int .u64 (setN zs)] w fun e w'=>∃u,e=.returned u∧w'.ownsRow w.heap.size 3 1 u zs.length (ints zs)∧Below w.heap.size w w':=by
 obtain ⟨i3,hi3,hz30,hz31,hz32⟩:=info_parts Tryz.info3
 have HBZ:Hid (B64 zs):=hb
 have HRZ:Hid (Ris zs):=hr
 have HT:Hid (TabB w):=hT
 clear hb hr hT
 go_enter Tryz.func53,Tryz.ntmps53
 go_wp2_with fail
 refine (len_any (setN zs) w).mono ?_
 rintro e w' ⟨n,hn,rfl,hw'⟩
 subst hw'
 have hmk:(Instr.makeSlice 22 (.int .i64 0) (.int .i64 (n:Int))).run Tryz.prog w'=.ok (.slice (some ⟨w'.heap.size,0,none⟩) 0 n) (w'.alloc (.cells (madeCells #[.int .i64 0] n) 3)):=by
  have:=run_make (P:=Tryz.prog) w' 22 3 i3 (.int .i64 0) Tryz.underlying22 hi3 hz30 .i64 .i64 0 n (by omega) (by omega) (by rw [hz32]; omega) (by omega)
  rw [hz31,show (Value.int .i64 0).cells=#[.int .i64 0] from rfl] at this
  simpa using this
 have HO0:Hid ((w'.alloc (.cells (madeCells #[.int .i64 0] n) 3)).ownsRow w'.heap.size 3 1 (.slice (some ⟨w'.heap.size,0,none⟩) 0 n) 0 []):=
  World.ownsRow_made w' _ n (Nat.le_refl _) (by unfold maxLen; omega) (by rw [size_madeCells]; omega)
 have HB0:Hid (Below w'.heap.size w' (w'.alloc (.cells (madeCells #[.int .i64 0] n) 3))):=(Below.refl _ _).alloc (Nat.le_refl _) _
 generalize hW:w'.alloc (.cells (madeCells #[.int .i64 0] n) 3)=wA at *
 clear hW
 go_wp2
 go_loopw [3,4] (fun x r wr=>∃k:Nat,k≤zs.length∧r=.int .u64 (setN (zs.drop k))∧wr.ownsRow w'.heap.size 3 1 x (zs.take k).length (ints (zs.take k))∧Below w'.heap.size w' wr) (fun _ r wr=>(intOf r).toNat)
 case atStart=>exact ⟨0,Nat.zero_le _,by simp,by simpa [ints] using HO0.out,HB0.out⟩
 case round=>
  obtain ⟨k,hk,rfl,ho,hb⟩:=hrel
  have HO:Hid (wr.ownsRow w'.heap.size 3 1 u3 (zs.take k).length (ints (zs.take k))):=ho
  have HB:Hid (Below w'.heap.size w' wr):=hb
  clear ho hb HO0 HB0
  by_cases hlt:k < zs.length
  ·have hdk:=drop_getD hlt
   have HR:Hid (Ris (zs.getD k 0 :: zs.drop (k+1))):=by
    have:=HRZ.out.drop k
    rw [hdk] at this
    exact this
   have HBB:Hid (B64 (zs.getD k 0 :: zs.drop (k+1))):=by
    have:=HBZ.out.drop k
    rw [hdk] at this
    exact this
   have HTK:Hid (zs.take (k+1)=zs.take k ++ [zs.getD k 0]):=take_snoc_int zs k hlt
   rw [hdk]
   clear hdk
   have hpos:(((setN (zs.getD k 0 :: zs.drop (k+1)):Nat):Int) != 0)=true:=by
    have:=setN_pos HR.out HBB.out
    simp only [bne_iff_ne,ne_eq]
    omega
   have hrest:=and_rest HR.out HBB.out
   have hctz:=setN_ctz HR.out HBB.out
   have hlt64:=setN_lt' HBB.out
   have HME:Hid (setN (zs.drop (k+1)) < setN (zs.getD k 0 :: zs.drop (k+1))):=by
    obtain ⟨m,h1,h2⟩:=setN_low HR.out HBB.out
    show _ < _
    rw [h1,h2]
    exact Nat.mul_lt_mul_of_pos_left (by omega) (Nat.two_pow_pos _)
   generalize setN (zs.getD k 0 :: zs.drop (k+1))=S at *
   generalize zs.getD k 0=z at *
   have hszr:w'.heap.size≤wr.heap.size:=HB.out.size
   have HTL:Hid ((zs.take k).length=k):=by show _=_; rw [List.length_take]; omega
   go_wp2_with fail
   refine (tz_any S wr hlt64 (by intro h; rw [h] at hpos; exact absurd hpos (by decide)) (HT.out.below HB.out)).mono ?_
   rintro e w2 ⟨rfl,hw2⟩
   subst hw2
   rw [hctz]
   go_wp2_with (first | (at_builtin; refine wpList_append_own _ rfl _ _ 22 rfl w'.heap.size 3 i3 (.int .i64 0) 1 8 Tryz.underlying22 hi3 hz30 hz31 hz32 rfl (by decide) _ _ _ rfl (HO.out.alloc _) ⟨w2.heap.size,0,none⟩ 1 1 [.int .i64 z] rfl rfl (one_new _ _ _) (one_int _) ?c3 ?c4 ?c5 ?_))
   case c3=>rw [HTL.out]; unfold maxLen; omega
   case c4=>rw [HTL.out]; omega
   case c5=>simp; omega
   intro v' w3 ho hg _
   rw [show k+1=(zs.take k).length+1 by rw [HTL.out]] at ho
   have R:=owns_push (z:=z) (N:=(zs.take k).length+1) hszr (l:=zs.take k) HO.out HB.out ho hg rfl
   rw [←HTK.out] at R
   have R1:Hid (w3.ownsRow w'.heap.size 3 1 v' (zs.take (k+1)).length (ints (zs.take (k+1)))):=by
    have:=R.1
    have e:(zs.take (k+1)).length=(zs.take k).length+1:=by rw [HTK.out]; simp
    rw [e]
    exact this
   have R2:Hid (Below w'.heap.size w' w3):=R.2
   clear R ho hg HO HB
   go_wp2_with (simp only [hrest])
   go_roundw
   case rel=>exact ⟨k+1,by omega,rfl,R1.out,R2.out⟩
   case measure=>have:=HME.out; simp [intOf]; omega
  ·have hke:zs.take k=zs:=List.take_of_length_le (by omega)
   have hkd:zs.drop k=[]:=List.drop_eq_nil_of_le (by omega)
   rw [hkd]
   have HO':Hid (wr.ownsRow w'.heap.size 3 1 u3 zs.length (ints zs)):=by have:=HO.out; rw [hke] at this; exact this
   clear HO
   go_wp2
   go_ret
   exact ⟨_,rfl,HO'.out,HB.out⟩
end Go.Proofs.YtkfdpcgmpbopnaaGreatDoor
namespace Go.Proofs.YtkfdpcgmpbopnaaGreatDoor
open Go.RowKit
attribute [local go_sem ↓] Go.wp_at_zero Go.wp_at_succ
theorem any_eq_contains (zs:List Int) (x:Int):zs.any (fun z=>z == x)=zs.contains x:=by
 rw [Bool.eq_iff_iff]; simp
theorem any_take_snoc {α:Type} {p:α→Bool} {l:List α} {d:α} {k:Nat} (h:k < l.length) (h0:(l.take k).any p=false):(l.take (k+1)).any p=p (l.getD k d):=by
 rw [List.take_succ_eq_append_getElem h,List.any_append,h0]; simp [h]
theorem any_get {α:Type} {p:α→Bool} {l:List α} {d:α} {k:Nat} (h:k < l.length) (h0:p (l.getD k d)=true):l.any p=true:=
 List.any_eq_true.2 ⟨l.getD k d,by simp [h],h0⟩
set_option maxRecDepth 100000 in
set_option maxHeartbeats 400000 in
theorem inR_any (B:Nat) (x:Int) (zs:List Int) (v:Value) (w:World) (hv:Sl B 3 w v (ints zs)) :
  Calls Tryz.prog 27 #[.int .i64 x,v] w fun e w'=>e=.returned (.bool (zs.contains x))∧∃n,w'=w.drewN n:=by
 obtain ⟨ao,cap,hvv,hlc,hcm⟩:=sl_open hv
 subst hvv
 have HV:Hid (Sl B 3 w (.slice ao zs.length cap) (ints zs)):=hv
 clear hv
 rw [←any_eq_contains]
 go_enter Tryz.func27,Tryz.ntmps27
 go_wp2
 go_loopw [5] (fun i wr=>∃k:Nat,k≤zs.length∧i=.int .i64 k∧(zs.take k).any (fun z=>z == x)=false∧∃n,wr=w.drewN n) (fun i _=>zs.length-(intOf i).toNat)
 case atStart=>exact ⟨0,Nat.zero_le _,rfl,by simp,0,rfl⟩
 case round=>
  obtain ⟨k,hk,rfl,hno,n,rfl⟩:=hrel
  have HN:Hid ((zs.take k).any (fun z=>z == x)=false):=hno
  clear hno
  by_cases hlt:k < zs.length
  ·obtain ⟨b,o,cp,hs,hc1,hcc⟩:=sl_cell HV.out hlt
   simp only [Value.slice.injEq] at hs
   obtain ⟨rfl,_,rfl⟩:=hs
   have HS1:Hid ((zs.take (k+1)).any (fun z=>z == x)=(zs.getD k 0 == x)):=any_take_snoc (p:=fun z=>z == x) hlt HN.out
   have HG:Hid ((zs.getD k 0 == x)=true→zs.any (fun z=>z == x)=true):=fun h=>any_get (p:=fun z=>z == x) hlt h
   generalize zs.getD k 0=z at *
   cases hf:(z == x)
   ·have HF:Hid ((z == x)=false):=hf
    go_wp2
    go_roundw
    case rel=>exact ⟨k+1,by omega,by go_num,by rw [HS1.out]; exact HF.out,_,rfl⟩
    case measure=>simp [intOf]; omega
   ·have HF:Hid ((z == x)=true):=hf
    go_wp2
    go_ret
    exact ⟨ret_bool (HG.out HF.out).symm,_,rfl⟩
  ·have hke:zs.take k=zs:=List.take_of_length_le (by omega)
   have HE:Hid (zs.any (fun z=>z == x)=false):=by rw [←hke]; exact HN.out
   go_wp2
   go_ret
   exact ⟨ret_bool HE.out.symm,n,rfl⟩
end Go.Proofs.YtkfdpcgmpbopnaaGreatDoor
namespace Go.Proofs.YtkfdpcgmpbopnaaGreatDoor
open Go.RowKit
attribute [local go_sem ↓] Go.wp_at_zero Go.wp_at_succ
def memTo (s i:Nat):List Int:=((List.range i).filter fun k=>s.testBit k).map fun k:Nat=>(k:Int)
def memL (s:Nat):List Int:=memTo s 64
theorem memTo_succ (s i:Nat):memTo s (i+1)=memTo s i ++ (if s.testBit i=true then [(i:Int)] else []):=by
 unfold memTo
 rw [List.range_succ,List.filter_append,List.map_append]
 cases h:s.testBit i <;> simp [h]
theorem memTo_len (s i:Nat):(memTo s i).length≤i:=by
 unfold memTo
 rw [List.length_map]
 exact Nat.le_trans (List.length_filter_le _ _) (by simp)
theorem memTo_top {s i:Nat} (hs:s < 2 ^ i):∀k,memTo s (i+k)=memTo s i
 | 0=>rfl
 | k+1=>by
  rw [←Nat.add_assoc,memTo_succ,memTo_top hs k]
  have:s.testBit (i+k)=false:=Nat.testBit_lt_two_pow (Nat.lt_of_lt_of_le hs (Nat.pow_le_pow_right (by decide) (by omega)))
  simp [this]
theorem memL_top {s i:Nat} (hs:s < 2 ^ i) (hi:i≤64):memTo s i=memL s:=by
 have:=memTo_top hs (64-i)
 rw [show i+(64-i)=64 by omega] at this
 exact this.symm
theorem mem_memL {s:Nat} (hs:s < 2 ^ 64) {x:Int} : x∈memL s↔∃k:Nat,x=k∧s.testBit k=true:=by
 unfold memL memTo
 simp only [List.mem_map,List.mem_filter,List.mem_range]
 constructor
 ·rintro ⟨k,⟨_,h⟩,rfl⟩; exact ⟨k,rfl,h⟩
 ·rintro ⟨k,rfl,h⟩
  refine ⟨k,⟨?_,h⟩,rfl⟩
  refine Nat.lt_of_not_le fun hle=>?_
  have:=Nat.testBit_lt_two_pow (Nat.lt_of_lt_of_le hs (Nat.pow_le_pow_right (by decide) hle))
  rw [this] at h
  exact absurd h (by decide)
set_option maxRecDepth 100000 in
set_option maxHeartbeats 800000 in
theorem members_any (s n:Nat) (w:World) (hs:s < 2 ^ n) (hn:n≤24) :
  Calls Tryz.prog 29 #[.int .i64 s] w fun e w'=>∃u,e=.returned u∧w'.ownsRow w.heap.size 3 1 u (memL s).length (ints (memL s))∧Below w.heap.size w w':=by
 obtain ⟨i3,hi3,hz30,hz31,hz32⟩:=info_parts Tryz.info3
 have HS:Hid (s < 2 ^ n):=hs
 clear hs
 go_enter Tryz.func29,Tryz.ntmps29
 go_wp2
 go_loopw [3,4] (fun x i wr=>∃k:Nat,k≤n∧i=.int .i64 k∧wr.ownsRow w.heap.size 3 1 x (memTo s k).length (ints (memTo s k))∧Below w.heap.size w wr) (fun _ i _=>n-(intOf i).toNat)
 case atStart=>exact ⟨0,Nat.zero_le _,rfl,by rw [show memTo s 0=[] from rfl]; exact World.ownsRow_nil _ _ _ _,Below.refl _ _⟩
 case round=>
  obtain ⟨k,hk,rfl,ho,hb⟩:=hrel
  have HO:Hid (wr.ownsRow w.heap.size 3 1 u3 (memTo s k).length (ints (memTo s k))):=ho
  have HB:Hid (Below w.heap.size w wr):=hb
  clear ho hb
  have hszr:w.heap.size≤wr.heap.size:=HB.out.size
  have HLN:Hid ((memTo s k).length≤24):=Nat.le_trans (memTo_len s k) (by omega)
  have eq0:(s:Int) / 2 ^ k=((s / 2 ^ k:Nat):Int):=by simp
  by_cases hz:s / 2 ^ k=0
  ·have t1:decide ((0:Int) < (s:Int) / 2 ^ k)=false:=by rw [eq0,hz]; rfl
   have HE:Hid (memTo s k=memL s):=memL_top (by
    have h1:=Nat.div_eq_zero_iff.1 hz
    have h2:0 < 2 ^ k:=Nat.pow_pos (by decide)
    rcases h1 with h1 | h1
    ·omega
    ·exact h1) (by omega)
   clear eq0 hz
   go_wp2
   go_ret
   refine ⟨_,rfl,?_,HB.out⟩
   rw [←HE.out]
   exact HO.out
  ·have t1:decide ((0:Int) < (s:Int) / 2 ^ k)=true:=by rw [eq0]; generalize s / 2 ^ k=q at *; exact decide_eq_true (by omega)
   have hkn:k < n:=by
    refine Nat.lt_of_not_le fun hle=>hz (Nat.div_eq_zero_iff.2 (Or.inr ?_))
    exact Nat.lt_of_lt_of_le HS.out (Nat.pow_le_pow_right (by decide) hle)
   have HSN:Hid (memTo s (k+1)=memTo s k ++ (if s.testBit k=true then [(k:Int)] else [])):=memTo_succ s k
   have hbit:s.testBit k=decide (s / 2 ^ k % 2=1):=Nat.testBit_eq_decide_div_mod_eq
   cases hb1:s.testBit k
   ·have t3:(((s:Int) / 2 ^ k).tmod 2 == 1)=false:=by
     rw [hb1] at hbit
     have:=of_decide_eq_false hbit.symm
     rw [eq0]
     generalize s / 2 ^ k=q at *
     have e:(q:Int).tmod 2=((q % 2:Nat):Int):=by rw [Int.tmod_eq_emod_of_nonneg (by omega)]; omega
     rw [e]
     have h2:q % 2=0:=by omega
     rw [h2]; rfl
    rw [hb1] at HSN
    have HS2:Hid (memTo s (k+1)=memTo s k):=by
     have h:=HSN.out
     rw [if_neg (by decide),List.append_nil] at h
     exact h
    have R1:Hid (wr.ownsRow w.heap.size 3 1 u3 (memTo s (k+1)).length (ints (memTo s (k+1)))):=by rw [HS2.out]; exact HO.out
    clear eq0 hz hbit hb1 HSN
    go_wp2
    go_roundw
    case rel=>exact ⟨k+1,hkn,by go_num,R1.out,HB.out⟩
    case measure=>simp [intOf]; omega
   ·have t3:(((s:Int) / 2 ^ k).tmod 2 == 1)=true:=by
     rw [hb1] at hbit
     have:=of_decide_eq_true hbit.symm
     rw [eq0]
     generalize s / 2 ^ k=q at *
     have e:(q:Int).tmod 2=((q % 2:Nat):Int):=by rw [Int.tmod_eq_emod_of_nonneg (by omega)]; omega
     rw [e]
     rw [this]; rfl
    rw [hb1,if_pos rfl] at HSN
    obtain ⟨ol,hol⟩:∃ol,ol=(memTo s k).length:=⟨_,rfl⟩
    have HOL:Hid (ol=(memTo s k).length):=hol
    rw [←hol] at HO HLN
    have hol2:ol≤24:=HLN.out
    clear eq0 hz hbit hb1 hol
    go_wp2_with (first | (at_builtin; refine wpList_append_own _ rfl _ _ 22 rfl w.heap.size 3 i3 (.int .i64 0) 1 8 Tryz.underlying22 hi3 hz30 hz31 hz32 rfl (by decide) _ _ _ rfl (HO.out.alloc _) ⟨wr.heap.size,0,none⟩ 1 1 [.int .i64 k] rfl rfl (one_new _ _ _) (one_int _) ?c3 ?c4 ?c5 ?_))
    case c3=>unfold maxLen; omega
    case c4=>omega
    case c5=>first | exact hszr | omega | (simp; omega)
    intro v' w3 ho3 hg3 _
    have R1:Hid (w3.ownsRow w.heap.size 3 1 v' (memTo s (k+1)).length (ints (memTo s (k+1)))):=by
     have e1:(memTo s (k+1)).length=ol+1:=by rw [HSN.out,List.length_append,←HOL.out]; rfl
     have e2:ints (memTo s (k+1))=ints (memTo s k) ++ [.int .i64 (k:Int)]:=by rw [HSN.out]; simp [ints]
     show World.ownsRow _ _ _ _ _ _ _
     rw [e1,e2]
     exact ho3
    have R2:Hid (Below w.heap.size w w3):=(HB.out.alloc hszr _).grown hg3 (by simp; omega) (fun x hx=>(HO.out.lt x hx).1)
    clear ho3 hg3
    go_wp2
    go_roundw
    case rel=>exact ⟨k+1,hkn,by go_num,R1.out,R2.out⟩
    case measure=>simp [intOf]; omega
end Go.Proofs.YtkfdpcgmpbopnaaGreatDoor
namespace Go.Proofs.YtkfdpcgmpbopnaaGreatDoor
open Go.RowKit
attribute [local go_sem ↓] Go.wp_at_zero Go.wp_at_succ
theorem ofInt_nat {a:Nat} (ha:a < 4611686018427387904):(BitVec.ofInt 64 (a:Int)).toNat=a:=by
 rw [BitVec.toNat_ofInt]
 omega
theorem wrap_small {a:Nat} (ha:a < 4611686018427387904):IntKind.i64.wrap (a:Int)=(a:Int):=by
 rw [IntWalk.i64_left]
 exact IntWalk.wrap64_in _ ⟨by omega,by omega⟩
theorem bits_or_i64_nat (a b:Nat) (ha:a < 4611686018427387904) (hb:b < 4611686018427387904):bits .or .i64 (a:Int) (b:Int)=((a ||| b:Nat):Int):=by
 show IntKind.i64.wrap ((BitVec.ofInt 64 (a:Int) ||| BitVec.ofInt 64 (b:Int)).toNat:Int)=_
 rw [BitVec.toNat_or,ofInt_nat ha,ofInt_nat hb]
 exact wrap_small (Nat.or_lt_two_pow (n:=62) ha hb)
theorem bits_and_i64_nat (a b:Nat) (ha:a < 4611686018427387904) (hb:b < 4611686018427387904):bits .and .i64 (a:Int) (b:Int)=((a &&& b:Nat):Int):=by
 show IntKind.i64.wrap ((BitVec.ofInt 64 (a:Int) &&& BitVec.ofInt 64 (b:Int)).toNat:Int)=_
 rw [BitVec.toNat_and,ofInt_nat ha,ofInt_nat hb]
 exact wrap_small (Nat.lt_of_le_of_lt Nat.and_le_left ha)
def sdTo (C:List (List Int)) (r:List Int):Nat→Nat
 | 0=>0
 | i+1=>sdTo C r i ||| (if overL r (C.getD i [])=0 then 2 ^ i else 0)
theorem sdTo_lt (C:List (List Int)) (r:List Int):∀i,sdTo C r i < 2 ^ i
 | 0=>by simp [sdTo]
 | i+1=>by
  have ih:=sdTo_lt C r i
  have h1:(2:Nat) ^ i < 2 ^ (i+1):=Nat.pow_lt_pow_right (by decide) (by omega)
  unfold sdTo
  refine Nat.or_lt_two_pow (by omega) ?_
  split
  ·exact h1
  ·exact Nat.pow_pos (by decide)
theorem sdTo_bit (C:List (List Int)) (r:List Int):∀i k,(sdTo C r i).testBit k=(decide (k < i) && decide (overL r (C.getD k [])=0))
 | 0,k=>by simp [sdTo]
 | i+1,k=>by
  unfold sdTo
  rw [Nat.testBit_or,sdTo_bit C r i k]
  by_cases hk:k=i
  ·subst hk
   by_cases h:overL r (C.getD k [])=0
   ·rw [if_pos h,Nat.testBit_two_pow_self,decide_eq_true h]; simp
   ·rw [if_neg h,decide_eq_false h]; simp
  ·have e:(if overL r (C.getD i [])=0 then 2 ^ i else 0).testBit k=false:=by
    split
    ·exact Nat.testBit_two_pow_of_ne (fun h=>hk h.symm)
    ·simp
   rw [e]
   have:decide (k < i+1)=decide (k < i):=decide_eq_decide.2 (by omega)
   rw [this]; simp
def sdN (C:List (List Int)) (r:List Int):Nat:=sdTo C r C.length
set_option maxRecDepth 100000 in
set_option maxHeartbeats 1600000 in
theorem sidesOf_any (B d:Nat) (C:List (List Int)) (v:Value) (w:World) (hv:Mat B 22 3 w v C) (hd1:1≤d) (hd:d≤4) (hC1:1≤C.length) (hC:C.length≤16) (hx:Box d 6 C) :
  Calls Tryz.prog 26 #[v] w fun e w'=>∃x s,e=.returned x∧SAsc s∧(∀r,r∈s↔r∈rowsD C d)∧w'.ownsRow w.heap.size 3 1 x s.length (ints (s.map fun r=>(sdN C r:Int)))∧Below w.heap.size w w':=by
 obtain ⟨i3,hi3,hz30,hz31,hz32⟩:=info_parts Tryz.info3
 obtain ⟨b,o,cap,r0,hvv,hlc,_,_⟩:=mat_cell hv (k:=0) (by omega)
 subst hvv
 have HV:Hid (Mat w.heap.size 22 3 w (.slice (some ⟨b,o,none⟩) C.length cap) C):=hv.any (Nat.le_refl _)
 have HX:Hid (Box d 6 C):=hx
 have HRO:Hid (Calls Tryz.prog 43 #[.slice (some ⟨b,o,none⟩) C.length cap] w fun e w'=>∃x s,e=.returned x∧Fr w.heap.size 22 3 w' x s∧SAsc s∧(∀r,r∈s↔r∈rowsD C d)∧Below w.heap.size w w'):=rowsOf_any w.heap.size d C _ w HV.out hd1 hd hC1 hC (box_up HX.out)
 clear hv hx
 obtain ⟨n,hn⟩:∃n,n=C.length:=⟨_,rfl⟩
 have HN:Hid (n=C.length):=hn
 rw [←hn] at HV HRO hC1 hC hlc ⊢
 clear hn
 go_enter Tryz.func26,Tryz.ntmps26
 go_wp2_with fail
 refine HRO.out.mono ?_
 rintro e w1 ⟨sv,s,rfl,hf,hsa,hm,hb⟩
 have HF:Hid (Fr w.heap.size 22 3 w1 sv s):=hf
 have HSA:Hid (SAsc s):=hsa
 have HM:Hid (∀r,r∈s↔r∈rowsD C d):=hm
 have HB1:Hid (Below w.heap.size w w1):=hb
 have hsz1:w.heap.size≤w1.heap.size:=hb.size
 obtain ⟨so,sc,hsv,hsl1,hsl2⟩:=fr_open hf
 subst hsv
 have HSL:Hid (s.length≤16777216):=rowsD_len hd (by rw [←HN.out]; exact hC) hsa hm
 clear hf hsa hm hb HRO
 go_wp2
 go_loopw [4,5] (fun x i wr=>∃k:Nat,k≤s.length∧i=.int .i64 k∧wr.ownsRow w1.heap.size 3 1 x k (ints ((s.take k).map fun r=>(sdN C r:Int)))∧Below w1.heap.size w1 wr) (fun _ i _=>s.length-(intOf i).toNat)
 case atStart=>exact ⟨0,Nat.zero_le _,rfl,World.ownsRow_nil _ _ _ _,Below.refl _ _⟩
 case round=>
  obtain ⟨k,hk,rfl,ho,hbel⟩:=hrel
  rename World=>wa
  have HO:Hid (wa.ownsRow w1.heap.size 3 1 u4 k (ints ((s.take k).map fun r=>(sdN C r:Int)))):=ho
  have HB:Hid (Below w1.heap.size w1 wa):=hbel
  have HBa:Hid (Below w.heap.size w wa):=HB1.out.trans (hbel.mono hsz1)
  have hsza:w1.heap.size≤wa.heap.size:=hbel.size
  clear ho hbel
  by_cases hlt:k < s.length
  ·obtain ⟨b2,o2,cp2,rv,hs2,_,hcc2,hr2⟩:=mat_cell ((HF.out.rws.mat (Nat.le_refl _)).below HB.out (Nat.le_refl _)) hlt
   simp only [Value.slice.injEq,true_and] at hs2
   obtain ⟨rfl,rfl⟩:=hs2
   have hmem:s.getD k []∈s:=by simp [hlt]
   have HSN:Hid (ints ((s.take (k+1)).map fun r=>(sdN C r:Int))=ints ((s.take k).map fun r=>(sdN C r:Int)) ++ [.int .i64 (sdN C (s.getD k []):Int)]):=by
    show _=_
    have e:s.getD k []=s[k]:=by simp [hlt]
    rw [List.take_succ_eq_append_getElem hlt,e]
    simp only [ints,List.map_append,List.map_cons,List.map_nil]
   have hrl:=(rowsD_facts (box_up HX.out) hd1 (by omega) _ ((HM.out _).1 hmem)).len
   obtain ⟨qa,qc,hqe,hqc,_⟩:=sl_open hr2
   rw [hrl] at hqe hqc
   subst hqe
   have HRD:Hid (s.getD k []∈rowsD C d):=(HM.out _).1 hmem
   have HRS:Hid (∀W,Below wa.heap.size wa W→W.cell? ⟨b2,o2+k,none⟩=some (.slice qa (d+1) qc)∧Sl w.heap.size 3 W (.slice qa (d+1) qc) (ints (s.getD k []))):=fun W h=>⟨(h.cell (lt_of_cell hcc2)).trans hcc2,hr2.below h (Nat.le_refl _)⟩
   clear hmem hr2 hcc2 hrl
   generalize s.getD k []=r at *
   have hkI:(k:Int) < (s.length:Int):=by omega
   have hkI0:(0:Int)≤(k:Int):=by omega
   go_wp2
   go_loopw [6,7] (fun x i wq=>∃j:Nat,j≤n∧i=.int .i64 j∧x=.int .i64 (sdTo C r j:Int)∧Qw wa wq) (fun _ i _=>n-(intOf i).toNat)
   case atStart=>exact ⟨0,Nat.zero_le _,rfl,rfl,Qw.refl _⟩
   case round=>
    obtain ⟨j,hj,rfl,rfl,hqw⟩:=hrel
    have HQ:Hid (Qw wa wr):=hqw
    have HBr:Hid (Below wa.heap.size wa wr):=hqw.below
    have HBw:Hid (Below w.heap.size w wr):=HBa.out.trans (hqw.below.mono HBa.out.size)
    clear hqw
    by_cases hjl:j < n
    ·have hjC:j < C.length:=by rw [←HN.out]; exact hjl
     have hmemC:C.getD j []∈C:=by simp [hjC]
     obtain ⟨b4,o4,cp4,xv,hs4,_,hcc4,hx4⟩:=mat_cell (HV.out.below HBw.out (Nat.le_refl _)) hjC
     simp only [Value.slice.injEq,Option.some.injEq,Addr.mk.injEq,and_true] at hs4
     obtain ⟨⟨rfl,rfl⟩,hxx,rfl⟩:=hs4
     clear hxx
     have hxl:=(HX.out _ hmemC).1
     obtain ⟨xo,xc,hxe,_,_⟩:=sl_open hx4
     rw [hxl] at hxe
     subst hxe
     have HCA:Hid (∀nn,Calls Tryz.prog 44 #[.slice qa (d+1) qc,.slice xo d xc] (wr.drewN nn) fun e w'=>e=.returned (.int .i64 (overL r (C.getD j [])))∧∃n,w'=(wr.drewN nn).drewN n):=fun nn=>
      over_of (rowsD_facts (box_up HX.out) hd1 (by omega) r HRD.out) hxl (rowsD_last (box_up HX.out) hd1 (by omega) HRD.out) hd (fun z hz=>by have:=(HX.out _ hmemC).2 z hz; omega) w.heap.size _ _ (wr.drewN nn) ((HRS.out wr HBr.out).2.drewN nn) (hx4.drewN nn)
     have hccR:=(HRS.out wr HBr.out).1
     have HSD:Hid (sdTo C r (j+1)=sdTo C r j ||| (if overL r (C.getD j [])=0 then 2 ^ j else 0)):=rfl
     have HLT:Hid (sdTo C r j < 65536):=Nat.lt_of_lt_of_le (sdTo_lt C r j) (Nat.le_trans (Nat.pow_le_pow_right (by decide) (show j≤16 by omega)) (by decide))
     have HPJ:Hid ((2:Nat) ^ j≤65536):=Nat.le_trans (Nat.pow_le_pow_right (by decide) (show j≤16 by omega)) (by decide)
     clear hmemC hx4 hjC hxl
     obtain ⟨S1,hS1⟩:∃S1,S1=sdTo C r (j+1):=⟨_,rfl⟩
     have HS1E:Hid (S1=sdTo C r (j+1)):=hS1
     rw [←hS1] at HSD
     clear hS1
     generalize sdTo C r j=S at *
     generalize overL r (C.getD j [])=z at *
     have hjI:(j:Int) < (n:Int):=by omega
     have hjI0:(0:Int)≤(j:Int):=by omega
     go_wp2
     go_quiet ((go_at_call 44; exact Calls.quiet_of (w:=wr) (HCA.out _)))
     obtain ⟨Wq,hWq⟩:∃Wq,Wq=wr.drewN nq:=⟨_,rfl⟩
     rw [←hWq]
     have HQq:Hid (Qw wa Wq):=by rw [hWq]; exact HQ.out.drewN nq
     clear hWq hccR hcc4 HCA
     by_cases hzz:z=0
     ·subst hzz
      rw [if_pos rfl] at HSD
      have HBT:Hid (bits .or .i64 (S:Int) (wrap64 ((2:Int) ^ j))=(S1:Int)):=by
       have h1:=HLT.out
       have h2:=HPJ.out
       have e:((2:Int) ^ j)=((2 ^ j:Nat):Int):=by simp
       show bits .or .i64 (S:Int) (wrap64 ((2:Int) ^ j))=(S1:Int)
       rw [HSD.out,e]
       generalize 2 ^ j=q at *
       rw [IntWalk.wrap64_in (q:Int) ⟨by omega,by omega⟩]
       exact bits_or_i64_nat S q (by omega) (by omega)
      go_wp2
      exact ⟨⟨j+1,hjl,by go_num,by rw [HBT.out,HS1E.out],HQq.out⟩,by simp [intOf]; omega⟩
     ·have tz:(z == 0)=false:=by simp [hzz]
      have HS1:Hid (S1=S):=by
       have h:=HSD.out
       rw [if_neg hzz,Nat.or_zero] at h
       exact h
      clear hzz HSD
      go_wp2
      exact ⟨⟨j+1,hjl,by go_num,by rw [←HS1.out,HS1E.out],HQq.out⟩,by simp [intOf]; omega⟩
    ·obtain rfl:n=j:=by omega
     have HSE:Hid (sdTo C r n=sdN C r):=by
      show _=_
      unfold sdN
      rw [HN.out]
     rw [HSE.out]
     generalize sdN C r=S at *
     have HOr:Hid (wr.ownsRow w1.heap.size 3 1 u4 k (ints ((s.take k).map fun r=>(sdN C r:Int)))):=by
      obtain ⟨nn,hnn⟩:=HQ.out
      subst hnn
      exact HO.out
     have HB1r:Hid (Below w1.heap.size w1 wr):=HB.out.trans (HBr.out.mono hsza)
     have hszr:w1.heap.size≤wr.heap.size:=HB1r.out.size
     have hk2:k≤16777216:=Nat.le_trans hk HSL.out
     clear hj hjl HQ HSE
     go_wp2_with (first | (at_builtin; refine wpList_append_own _ rfl _ _ 22 rfl w1.heap.size 3 i3 (.int .i64 0) 1 8 Tryz.underlying22 hi3 hz30 hz31 hz32 rfl (by decide) _ _ _ rfl (HOr.out.alloc _) ⟨wr.heap.size,0,none⟩ 1 1 [.int .i64 S] rfl rfl (one_new _ _ _) (one_int _) ?c3 ?c4 ?c5 ?_))
     case c3=>unfold maxLen; omega
     case c4=>omega
     case c5=>first | exact hszr | omega | (simp; omega)
     intro v' w3 ho3 hg3 _
     have R1:Hid (w3.ownsRow w1.heap.size 3 1 v' (k+1) (ints ((s.take (k+1)).map fun r=>(sdN C r:Int)))):=by
      show World.ownsRow _ _ _ _ _ _ _
      rw [HSN.out,List.map_take]
      exact ho3
     have R2:Hid (Below w1.heap.size w1 w3):=(HB1r.out.alloc hszr _).grown hg3 (by simp; omega) (fun x hx=>(HOr.out.lt x hx).1)
     clear ho3 hg3
     go_wp2
     exact ⟨⟨k+1,hlt,by go_num,R1.out,R2.out⟩,by simp [intOf]; omega⟩
  ·obtain rfl:s.length=k:=by omega
   have HOE:Hid (wa.ownsRow w.heap.size 3 1 u4 s.length (ints (s.map fun r=>(sdN C r:Int)))):=by
    have h:=HO.out
    rw [List.take_length] at h
    exact h.mono hsz1
   clear hk hlt HO
   go_wp2
   go_ret
   exact ⟨_,s,rfl,HSA.out,HM.out,HOE.out,HBa.out⟩
end Go.Proofs.YtkfdpcgmpbopnaaGreatDoor
namespace Go.Proofs.YtkfdpcgmpbopnaaGreatDoor
open Go.RowKit
attribute [local go_sem ↓] Go.wp_at_zero Go.wp_at_succ
def dimL (d:Nat) (C:List (List Int)) (s:Nat):Int:=if memL s=[] then (-1:Int) else (((pickL d (diffL (pks C [] (memL s)))).length:Nat):Int)
theorem memL_bd {s n:Nat} (hs:s < 2 ^ n) (hn:n≤64):∀x∈memL s,0≤x∧x < (n:Int):=by
 intro x hx
 rw [←memL_top hs hn] at hx
 unfold memTo at hx
 simp only [List.mem_map,List.mem_filter,List.mem_range] at hx
 obtain ⟨k,⟨hk,_⟩,rfl⟩:=hx
 omega
theorem memL_len {s n:Nat} (hs:s < 2 ^ n) (hn:n≤64):(memL s).length≤n:=by
 rw [←memL_top hs hn]
 exact memTo_len s n
set_option maxRecDepth 100000 in
set_option maxHeartbeats 800000 in
theorem dimension_any (B d s:Nat) (C:List (List Int)) (v:Value) (w:World) (hv:Mat B 22 3 w v C) (hd1:1≤d) (hd:d≤4) (hC:C.length≤16) (hx:Box d 6 C) (hs:s < 2 ^ C.length) :
  Calls Tryz.prog 28 #[v,.int .i64 s] w fun e w'=>e=.returned (.int .i64 (dimL d C s))∧Below w.heap.size w w':=by
 obtain ⟨i0,hi,hz0,hz1,hz2⟩:=info_parts Tryz.info22
 obtain ⟨ao,cap,hvv,hlc,hcm⟩:=mat_open hv
 subst hvv
 have HV:Hid (Mat w.heap.size 22 3 w (.slice ao C.length cap) C):=hv.any (Nat.le_refl _)
 have HX:Hid (Box d 6 C):=hx
 have HMB:Hid (Calls Tryz.prog 29 #[.int .i64 s] w fun e w'=>∃u,e=.returned u∧w'.ownsRow w.heap.size 3 1 u (memL s).length (ints (memL s))∧Below w.heap.size w w'):=members_any s C.length w hs (by omega)
 have HLB:Hid (∀x∈memL s,0≤x∧x < (C.length:Int)):=memL_bd hs (by omega)
 have HLN:Hid ((memL s).length≤16):=Nat.le_trans (memL_len hs (by omega)) hC
 have HDL:Hid (dimL d C s=if memL s=[] then (-1:Int) else (((pickL d (diffL (pks C [] (memL s)))).length:Nat):Int)):=rfl
 clear hv hx hs
 generalize memL s=l at *
 generalize dimL d C s=D at *
 obtain ⟨n,hn⟩:∃n,n=C.length:=⟨_,rfl⟩
 have HN:Hid (n=C.length):=hn
 rw [←hn] at HV HLB hC hlc ⊢
 clear hn
 go_enter Tryz.func28,Tryz.ntmps28
 go_wp2_with fail
 refine HMB.out.mono ?_
 rintro e w1 ⟨lv,rfl,hlo,hb1⟩
 have HB1:Hid (Below w.heap.size w w1):=hb1
 have hsz1:w.heap.size≤w1.heap.size:=hb1.size
 have HL:Hid (Sl w1.heap.size 3 w1 lv (ints l)):=(Sl.own (B:=0) hlo).any (Nat.le_refl _)
 obtain ⟨lo,lc,hlv,_,_⟩:=sl_open HL.out
 subst hlv
 clear hlo hb1 HMB
 by_cases hl0:l=[]
 ·subst hl0
  rw [if_pos rfl] at HDL
  have HD1:Hid (D=-1):=HDL.out
  clear HDL
  go_wp2
  go_ret
  exact ⟨by rw [HD1.out]; rfl,HB1.out⟩
 ·rw [if_neg hl0] at HDL
  have hlp:0 < l.length:=List.length_pos_iff.2 hl0
  have HLP:Hid (0 < l.length):=hlp
  have HLN2:Hid (l.length≤16):=HLN.out
  have tl:((l.length:Int) == 0)=false:=by simp; omega
  clear hl0 hlp
  go_wp2
  go_loopw [6,7] (fun x i wq=>∃j:Nat,j≤l.length∧i=.int .i64 j∧Rws w1.heap.size 22 3 wq x (pks C [] (l.take j))∧Below w1.heap.size w1 wq) (fun _ i _=>l.length-(intOf i).toNat)
  case atStart=>exact ⟨0,Nat.zero_le _,rfl,Rws.nil _ _ _ _,Below.refl _ _⟩
  case round=>
   obtain ⟨j,hj,rfl,hfr,hbel⟩:=hrel
   have HFS:Hid (Rws w1.heap.size 22 3 wr u6 (pks C [] (l.take j))):=hfr
   have HBS:Hid (Below w1.heap.size w1 wr):=hbel
   have HBr:Hid (Below w.heap.size w wr):=HB1.out.trans (hbel.mono hsz1)
   clear hfr hbel
   by_cases hjl:j < l.length
   ·have HSN:Hid (pks C [] (l.take (j+1))=pks C [] (l.take j) ++ [C.getD (l.getD j 0).toNat []]):=pks_snocP C l j hjl
    have HLJ:Hid ((pks C [] (l.take j)).length=j):=by show _=_; simp [pks]; omega
    obtain ⟨b3,o3,cp3,hs3,hc3,hcc3⟩:=sl_cell (HL.out.below HBS.out (Nat.le_refl _)) (k:=j) hjl
    simp only [Value.slice.injEq] at hs3
    obtain ⟨rfl,hxx,rfl⟩:=hs3
    clear hxx
    obtain ⟨hx0,hx1⟩:=HLB.out (l.getD j 0) (by simp [hjl])
    obtain ⟨q,hq⟩:∃q:Nat,l.getD j 0=(q:Int):=⟨(l.getD j 0).toNat,by omega⟩
    rw [hq] at hcc3 hx0 hx1 HSN
    rw [show ((q:Int)).toNat=q by omega] at HSN
    clear hq
    have hqC:q < C.length:=by rw [←HN.out]; omega
    have hqn:q < n:=by omega
    obtain ⟨b4,o4,cp4,r2,hs4,_,hcc4,hr2⟩:=mat_cell (HV.out.below HBr.out (Nat.le_refl _)) hqC
    simp only [Value.slice.injEq] at hs4
    obtain ⟨rfl,hxx,rfl⟩:=hs4
    clear hxx
    obtain ⟨yo,yc,hrv,_,_⟩:=sl_open hr2
    subst hrv
    have HR2:Hid (Sl w1.heap.size 3 wr (.slice yo (C.getD q []).length yc) (ints (C.getD q []))):=hr2.more hsz1
    clear hr2
    generalize C.getD q []=y at *
    generalize hyl:y.length=yl at *
    clear hyl hc3 hqC
    obtain ⟨vs,g1,g2,g3⟩:=HFS.out
    have hlen:=HLJ.out
    rw [hlen] at g1 g2 g3
    have G1:Hid (vs.length=j):=g1
    have G2:Hid (wr.ownsRow w1.heap.size 22 1 u6 j vs):=g2
    have G3:Hid (∀i,i < j→Sl w1.heap.size 3 wr (vs.getD i (.slice none 0 0)) (ints ((pks C [] (l.take j)).getD i []))):=g3
    have hszr:w1.heap.size≤wr.heap.size:=HBS.out.size
    have hjI:(j:Int) < (l.length:Int):=by omega
    have hjI0:(0:Int)≤(j:Int):=by omega
    have hj16:j≤16:=Nat.le_trans hj HLN2.out
    clear g1 g2 g3 hlen
    go_wp2_with (first | (at_builtin; refine wpList_append_own _ rfl _ _ 25 rfl w1.heap.size 22 i0 (.slice none 0 0) 1 24 Tryz.underlying25 hi hz0 hz1 hz2 rfl (by decide) _ _ _ rfl (G2.out.alloc _) ⟨wr.heap.size,0,none⟩ 1 1 [.slice yo yl yc] rfl rfl (one_new _ _ _) (one_slice _ _ _) ?d3 ?d4 ?d5 ?_))
    case d3=>unfold maxLen; omega
    case d4=>omega
    case d5=>first | exact hszr | omega | (simp; omega)
    intro v' w3 ho hg _
    have R1:Hid (Rws w1.heap.size 22 3 w3 v' (pks C [] (l.take (j+1)))):=by
     have hp:=Rws.push (e2:=22) (e1:=3) (m:=pks C [] (l.take j)) (u:=.slice yo yl yc) (zs:=y) (by decide) (by rw [HLJ.out]; exact G1.out) (by rw [HLJ.out]; exact G2.out.alloc _)
      (fun i hi=>(G3.out i (by rw [HLJ.out] at hi; exact hi)).alloc _) (HR2.out.alloc _) (by rw [HLJ.out]; exact ho) hg
     rw [←HSN.out] at hp
     exact hp
    have R2:Hid (Below w1.heap.size w1 w3):=(HBS.out.alloc hszr _).grown hg (by simp; omega) (fun x hx=>(G2.out.lt x hx).1)
    clear ho hg
    go_wp2
    go_roundw
    case rel=>exact ⟨j+1,by omega,by go_num,R1.out,R2.out⟩
    case measure=>simp [intOf]; omega
   ·have HT:Hid (Rws w1.heap.size 22 3 wr u6 (pks C [] l)):=by
     have:=HFS.out
     rw [List.take_of_length_le (by omega)] at this
     exact this
    have HTL:Hid ((pks C [] l).length=l.length):=by show _=_; simp [pks]
    have HTM:Hid (∀x∈pks C [] l,x∈C):=pks_in fun q hq=>by
     rw [←HN.out]
     exact HLB.out q hq
    have HBT:Hid (Box d 6 (pks C [] l)):=fun x hx=>HX.out x (HTM.out x hx)
    have HFR:Hid (Calls Tryz.prog 24 #[u6] wr fun e w'=>∃u,e=.returned u∧(Mat w'.heap.size 22 3 w' u (diffL (pks C [] l))∧Below wr.heap.size wr w')):=by
     have h1:=HLP.out
     have h2:=HLN2.out
     refine (from_any w1.heap.size d (pks C [] l) u6 wr (HT.out.mat (Nat.le_refl _)) (by rw [HTL.out]; exact h1) (by rw [HTL.out]; omega) (by omega) (fun r hr=>(HBT.out r hr).1) (fun r hr z hz=>by have:=(HBT.out r hr).2 z hz; omega)).mono ?_
     rintro e w' ⟨u,rfl,hf,hb⟩
     exact ⟨u,rfl,hf.rws.mat hb.size,hb⟩
    have HRK:Hid (∀w' u,Mat w'.heap.size 22 3 w' u (diffL (pks C [] l))→Calls Tryz.prog 23 #[u] w' fun e w''=>e=.returned (.int .i64 ((pickL d (diffL (pks C [] l))).length:Nat))∧Below w'.heap.size w' w''):=fun w' u hM=>by
     have h2:=HLN2.out
     exact rankR_any d 12 w'.heap.size _ u w' (diff_mx12 HBT.out hd1 (by omega)) hM (by rw [diffL_length,HTL.out]; omega)
    clear HT HFS
    go_wp2_with fail
    refine HFR.out.mono ?_
    rintro e w2 ⟨u,rfl,hu⟩
    have HU:Hid (Mat w2.heap.size 22 3 w2 u (diffL (pks C [] l))∧Below wr.heap.size wr w2):=hu
    clear hu
    go_wp2_with fail
    refine (HRK.out w2 u HU.out.1).mono ?_
    rintro e w3 ⟨rfl,hb3⟩
    have HB3:Hid (Below w.heap.size w w3):=(HBr.out.trans (HU.out.2.mono HBr.out.size)).trans (hb3.mono (Nat.le_trans HBr.out.size HU.out.2.size))
    clear hb3
    go_wp2
    go_ret
    exact ⟨by rw [HDL.out]; rfl,HB3.out⟩
end Go.Proofs.YtkfdpcgmpbopnaaGreatDoor
