import Derived.Test.YtcoeneldaohpnaaGreatLin10
import Derived.Test.YtcoeneldaohpnaaGreatMgAF
import Derived.Test.YtcoeneldaohpnaaGreatMgAB
namespace Go.Proofs.YtcoeneldaohpnaaGreat
open Go.RowKit Lin
attribute [local go_sem ↓] Go.wp_at_zero Go.wp_at_succ
theorem bd60 {c:Nat} {m:List (List Int)} (hx:Mx c 60 m):Bd (mOf m) m.length c:=bd_of hx (by decide) had60
theorem bdD {c:Nat} {m:List (List Int)} (hx:Mx c 200 m) (h4:c≤4):Bd (mOf m) m.length c:=bd_of4 hx h4 (by decide) (by decide)
theorem field1 (a b c d:Value) (w:World):(Instr.field 60 (.agg #[a,b,c,d]) 1).run Tryz.prog w=.ok b w:=by kernel_rfl
set_option maxRecDepth 100000 in
set_option maxHeartbeats 800000 in
theorem rankQ_any {Bq:Nat} (B c:Nat) (m:List (List Int)) (v:Value) (w:World) (hx:Mx c Bq m) (hbd:Bd (mOf m) m.length c) (hv:Mat B 26 3 w v m) (hm:m.length≤500) (hm0:1≤m.length) :
  Calls Tryz.prog 28 #[v,.int .i64 c] w fun e w'=>e=.returned (.int .i64 ((pickL c m).length:Nat))∧Below w.heap.size w w':=by
 obtain ⟨ao,cap,hvv,hlc,hcm⟩:=mat_open hv
 subst hvv
 have hc5:=hx.c5
 have hc1:=hx.c1
 have HR:Hid (Calls Tryz.prog 47 #[.slice ao m.length cap,.int .i64 c] w fun e w'=>∃ro rc po pc val sgn,e=.returned (.agg #[.slice ro m.length rc,.slice po (pickL c m).length pc,.int .i64 val,.int .i64 sgn])∧Below w.heap.size w w'):=by
  refine (reduce_any B c m _ w hv hm hm0 hc1 (by omega) hx.row hbd).mono ?_
  rintro e w' ⟨M',C,k,sgn,hr,rv,pv,rfl,h1,h2,h3⟩
  obtain ⟨ro,rc,e1,_,_⟩:=mat_open h1
  obtain ⟨po,pc,e2,_,_⟩:=sl_open h2
  have hk:=red_rank hr
  simp only [List.length_map,List.length_range,rowsOf] at e1 e2
  rw [hk] at e2
  exact ⟨ro,rc,po,pc,_,_,by rw [e1,e2],h3⟩
 clear hv
 go_enter Tryz.func28,Tryz.ntmps28
 go_wp2_with fail
 refine (HR.out).mono ?_
 rintro e w2 ⟨ro,rc,po,pc,val,sgn,rfl,hb⟩
 have HB:Hid (Below w.heap.size w w2):=hb
 clear hb
 have hfl:=field1 (.slice ro m.length rc) (.slice po (pickL c m).length pc) (.int .i64 val) (.int .i64 sgn) w2
 go_wp2
 go_ret
 exact ⟨rfl,HB.out⟩
set_option maxRecDepth 100000 in
set_option maxHeartbeats 800000 in
theorem detQ_any {Bq:Nat} (B:Nat) (m:List (List Int)) (v:Value) (w:World) (hx:Mx m.length Bq m) (hbq:Bd (mOf m) m.length m.length) (hv:Mat B 26 3 w v m) (hm0:1≤m.length) :
  Calls Tryz.prog 25 #[v] w fun e w'=>e=.returned (.int .i64 (detL m))∧Below w.heap.size w w':=by
 obtain ⟨ao,cap,hvv,hlc,hcm⟩:=mat_open hv
 subst hvv
 have hc5:=hx.c5
 have hc1:=hx.c1
 have HR:Hid (Calls Tryz.prog 47 #[.slice ao m.length cap,.int .i64 m.length] w fun e w'=>∃ro rc po k pc val sgn,e=.returned (.agg #[.slice ro m.length rc,.slice po k pc,.int .i64 val,.int .i64 sgn])∧k≤m.length∧
   (if k < m.length then 0 else sgn*val)=detL m∧(k=m.length→(sgn*val).natAbs≤9223372036854775807)∧Below w.heap.size w w'):=by
  refine (reduce_any B m.length m _ w hv (by omega) hm0 hc1 (by omega) hx.row hbq).mono ?_
  rintro e w' ⟨M',C,k,sgn,hr,rv,pv,rfl,h1,h2,h3⟩
  obtain ⟨ro,rc,e1,_,_⟩:=mat_open h1
  obtain ⟨po,pc,e2,_,_⟩:=sl_open h2
  have hd:=red_det hr
  simp only [List.length_map,List.length_range,rowsOf] at e1 e2
  refine ⟨ro,rc,po,k,pc,_,_,by rw [e1,e2],hr.done.kn,hd,fun hk=>?_,h3⟩
  have hb:=dk_bd (B:=Bq) (k:=k) (M:=M') (C:=C) (fun i hi b hb=>red_entry hx hr i (by omega) _ (hr.done.rise.2 b hb))
  have hf:fb Bq k≤fb Bq m.length:=fb_mono hx.pos (by omega)
  have h5:=hx.small
  rcases hr.one with e | e <;> rw [e] <;> simp <;> omega
 clear hv hx
 go_enter Tryz.func25,Tryz.ntmps25
 go_wp2_with fail
 refine (HR.out).mono ?_
 rintro e w2 ⟨ro,rc,po,k,pc,val,sgn,rfl,hk,hd,hbd,hb⟩
 have HB:Hid (Below w.heap.size w (w2.alloc (.cells #[.slice ro m.length rc,.slice po k pc,.int .i64 val,.int .i64 sgn] 60))):=hb.alloc hb.size _
 have HD:Hid ((if k < m.length then 0 else sgn*val)=detL m):=hd
 have HBD:Hid (k=m.length→(sgn*val).natAbs≤9223372036854775807):=hbd
 clear hb hd hbd
 by_cases hkn:k < m.length
 ·have hkI:(k:Int) < (m.length:Int):=by omega
  go_wp2
  go_ret
  exact ⟨by rw [←HD.out,if_pos hkn]; rfl,HB.out⟩
 ·have hkI:¬(k:Int) < (m.length:Int):=by omega
  go_wp2
  go_ret
  have h1:=HBD.out (by omega)
  refine ⟨?_,HB.out⟩
  rw [←HD.out,if_neg hkn]
  have h2:=IntWalk.wrap64_in (sgn*val) ⟨by omega,by omega⟩
  rw [h2]; rfl
theorem rankP_any (B c:Nat) (m:List (List Int)) (v:Value) (w:World) (hx:Mx c 60 m) (hv:Mat B 26 3 w v m) (hm:m.length≤500) (hm0:1≤m.length) :
  Calls Tryz.prog 28 #[v,.int .i64 c] w fun e w'=>e=.returned (.int .i64 ((pickL c m).length:Nat))∧Below w.heap.size w w':=
 rankQ_any B c m v w hx (bd60 hx) hv hm hm0
theorem detP_any (B:Nat) (m:List (List Int)) (v:Value) (w:World) (hx:Mx m.length 60 m) (hv:Mat B 26 3 w v m) (hm0:1≤m.length) :
  Calls Tryz.prog 25 #[v] w fun e w'=>e=.returned (.int .i64 (detL m))∧Below w.heap.size w w':=
 detQ_any B m v w hx (bd60 hx) hv hm0
end Go.Proofs.YtcoeneldaohpnaaGreat

namespace Go.Proofs.YtcoeneldaohpnaaGreat
open Go.RowKit
attribute [local go_sem ↓] Go.wp_at_zero Go.wp_at_succ
theorem anyK_contains (zs:List Int) (x:Int):zs.any (fun z=>z == x)=zs.contains x:=by
 rw [Bool.eq_iff_iff]; simp
theorem anyK_snoc {α:Type} {p:α→Bool} {l:List α} {d:α} {k:Nat} (h:k < l.length) (h0:(l.take k).any p=false):(l.take (k+1)).any p=p (l.getD k d):=by
 rw [List.take_succ_eq_append_getElem h,List.any_append,h0]; simp [h]
theorem anyK_get {α:Type} {p:α→Bool} {l:List α} {d:α} {k:Nat} (h:k < l.length) (h0:p (l.getD k d)=true):l.any p=true:=
 List.any_eq_true.2 ⟨l.getD k d,by simp [h],h0⟩
set_option maxRecDepth 100000 in
set_option maxHeartbeats 400000 in
theorem indexK_any (B:Nat) (x:Int) (zs:List Int) (v:Value) (w:World) (hv:Sl B 3 w v (ints zs)) :
  Calls Tryz.prog 101 #[v,.int .i64 x] w fun e w'=>∃k:Int,e=.returned (.int .i64 k)∧decide (0≤k)=zs.contains x∧w'=w:=by
 obtain ⟨ao,cap,hvv,hlc,hcm⟩:=sl_open hv
 subst hvv
 have HV:Hid (Sl B 3 w (.slice ao zs.length cap) (ints zs)):=hv
 clear hv
 rw [←anyK_contains]
 go_enter Tryz.func101,Tryz.ntmps101
 go_wp2
 go_loopw [8,5] (fun i _ wr=>∃k:Nat,k≤zs.length∧i=.int .i64 k∧(zs.take k).any (fun z=>z == x)=false∧wr=w) (fun i _ _=>zs.length-(intOf i).toNat)
 case atStart=>exact ⟨0,Nat.zero_le _,rfl,by simp,rfl⟩
 case round=>
  obtain ⟨k,hk,rfl,hno,rfl⟩:=hrel
  have HN:Hid ((zs.take k).any (fun z=>z == x)=false):=hno
  clear hno
  by_cases hlt:k < zs.length
  ·obtain ⟨b,o,cp,hs,hc1,hcc⟩:=sl_cell HV.out hlt
   simp only [Value.slice.injEq] at hs
   obtain ⟨rfl,_,rfl⟩:=hs
   have HS1:Hid ((zs.take (k+1)).any (fun z=>z == x)=(zs.getD k 0 == x)):=anyK_snoc (p:=fun z=>z == x) hlt HN.out
   have HG:Hid ((zs.getD k 0 == x)=true→zs.any (fun z=>z == x)=true):=fun h=>anyK_get (p:=fun z=>z == x) hlt h
   generalize zs.getD k 0=z at *
   cases hf:(x == z)
   ·have HF:Hid ((z == x)=false):=by rw [beq_eq_false_iff_ne] at hf ⊢; exact fun e=>hf e.symm
    go_wp2
    go_roundw
    case rel=>exact ⟨k+1,by omega,by go_num,by rw [HS1.out]; exact HF.out,trivial⟩
    case measure=>simp [intOf]; omega
   ·have HF:Hid ((z == x)=true):=by rw [beq_iff_eq] at hf ⊢; exact hf.symm
    have HK:Hid (decide ((0:Int)≤(k:Int))=true):=decide_eq_true (by omega)
    go_wp2
    go_ret
    exact ⟨k,rfl,by rw [HK.out,HG.out HF.out],rfl⟩
  ·have hke:zs.take k=zs:=List.take_of_length_le (by omega)
   have HE:Hid (zs.any (fun z=>z == x)=false):=by rw [←hke]; exact HN.out
   go_wp2
   go_ret
   exact ⟨-1,rfl,by rw [HE.out]; rfl,rfl⟩
set_option maxRecDepth 100000 in
theorem containsK_any (B:Nat) (x:Int) (zs:List Int) (v:Value) (w:World) (hv:Sl B 3 w v (ints zs)) :
  Calls Tryz.prog 87 #[v,.int .i64 x] w fun e w'=>e=.returned (.bool (zs.contains x))∧w'=w:=by
 obtain ⟨ao,cap,hvv,hlc,hcm⟩:=sl_open hv
 subst hvv
 have HI:Hid (Calls Tryz.prog 101 #[.slice ao zs.length cap,.int .i64 x] w fun e w'=>∃k:Int,e=.returned (.int .i64 k)∧decide (0≤k)=zs.contains x∧w'=w):=indexK_any B x zs _ w hv
 clear hv
 generalize zs.contains x=c at *
 go_enter Tryz.func87,Tryz.ntmps87
 go_wp2_with fail
 refine HI.out.mono ?_
 rintro e w' ⟨k,rfl,hk,rfl⟩
 have HK:Hid (decide (0≤k)=c):=hk
 clear hk
 go_wp2
 go_ret
 exact ⟨ret_bool HK.out,rfl⟩
end Go.Proofs.YtcoeneldaohpnaaGreat
