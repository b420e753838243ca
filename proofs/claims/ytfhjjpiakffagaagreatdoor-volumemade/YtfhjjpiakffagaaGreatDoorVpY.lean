import Derived.Test.YtfhjjpiakffagaaGreatDoorGZ
import Derived.Test.YtfhjjpiakffagaaGreatDoorShY
import Derived.Test.YtfhjjpiakffagaaGreatDoorGX
import Derived.Test.YtfhjjpiakffagaaGreatDoorVoA
namespace Go.Proofs.YtfhjjpiakffagaaGreatDoor
open Go.RowKit Lin
attribute [local go_sem ↓] Go.wp_at_zero Go.wp_at_succ
theorem out_one {x s:Nat} : (outN (2 ^ x) s == 0)=s.testBit x:=by
 rw [Bool.eq_iff_iff,beq_iff_eq]
 constructor
 ·intro h
  have:=outN_bit (2 ^ x) s x
  rw [h,Nat.testBit_two_pow_self] at this
  simpa using this
 ·intro h
  apply Nat.eq_of_testBit_eq
  intro i
  rw [outN_bit]
  by_cases e:i=x
  ·subst e; simp [h]
  ·rw [Nat.testBit_two_pow_of_ne (fun q=>e q.symm)]; simp
theorem out_sub {a b:Nat} : (outN a b == 0)=decide (a &&& b=a):=by
 rw [Bool.eq_iff_iff,beq_iff_eq,decide_eq_true_iff]
 constructor
 ·intro h
  apply Nat.eq_of_testBit_eq
  intro i
  have:=outN_bit a b i
  rw [h] at this
  rw [Nat.testBit_and]
  cases h1:a.testBit i <;> cases h2:b.testBit i <;> simp_all
 ·intro h
  apply Nat.eq_of_testBit_eq
  intro i
  rw [outN_bit]
  have:=congrArg (fun z=>z.testBit i) h
  simp only [Nat.testBit_and] at this
  cases h1:a.testBit i <;> cases h2:b.testBit i <;> simp_all
set_option maxRecDepth 100000 in
set_option maxHeartbeats 800000 in
theorem firstOf1_any (x s g:Nat) (w:World) (hx:x≤63) (hs:s < 18446744073709551616) (hc:w.cell? ⟨g,0,none⟩=some (.int .u64 (s:Int))) :
  Calls Tryz.prog 93 #[.int .i64 (x:Int),.pointer (some ⟨g,0,none⟩)] w fun e w'=>e=.returned (.bool (s.testBit x))∧Below w.heap.size w w':=by
 have hpx:2 ^ x < 18446744073709551616:=Nat.lt_of_le_of_lt (Nat.pow_le_pow_right (by decide) hx) (by decide)
 have H1:Hid (∀n,Calls Tryz.prog 65 #[.int .i64 (x:Int)] (w.drewN n) fun e w'=>e=.returned (.int .u64 ((2 ^ x:Nat):Int))∧w'=w.drewN n):=fun n=>by
  have h:=one_any (x:Int) (w.drewN n) (by omega) (by omega)
  rw [Int.toNat_natCast] at h
  exact h
 have H2:Hid (∀n,Calls Tryz.prog 66 #[.int .u64 ((2 ^ x:Nat):Int),.int .u64 (s:Int)] (w.drewN n) fun e w'=>e=.returned (.bool (s.testBit x))∧w'=w.drewN n):=fun n=>by
  have h:=in_any (2 ^ x) s (w.drewN n) hpx hs
  rw [out_one] at h
  exact h
 generalize s.testBit x=tb at *
 generalize 2 ^ x=px at *
 go_enter Tryz.func93,Tryz.ntmps93
 go_wp2
 go_quiet (first | (go_at_call 65; exact Calls.quiet_of_same (w:=w) (H1.out _)) | (go_at_call 66; exact Calls.quiet_of_same (w:=w) (H2.out _)))
 go_wp2
 go_ret
 exact ⟨rfl,below_drewN (Below.refl _ _) _⟩
set_option maxRecDepth 100000 in
set_option maxHeartbeats 400000 in
theorem idxFo_any (B:Nat) (p:Int→Bool) (zs:List Int) (v:Value) (p1:Addr) (w:World) (hv:Sl B 3 w v (ints zs))
  (hc:∀x∈zs,∀W',Below w.heap.size w W'→Calls Tryz.prog 93 #[.int .i64 x,.pointer (some p1)] W' fun e w'=>e=.returned (.bool (p x))∧Below W'.heap.size W' w') :
  Calls Tryz.prog 92 #[v,.func (.func 93) #[] #[.pointer (some p1)]] w fun e w'=>e=.returned (.int .i64 (findI p zs))∧Below w.heap.size w w':=by
 obtain ⟨ao,cap,hvv,hlc,hcm⟩:=sl_open hv
 subst hvv
 have HV:Hid (Sl B 3 w (.slice ao zs.length cap) (ints zs)):=hv
 have HIL:Hid (∀x∈zs,∀W',Below w.heap.size w W'→Calls Tryz.prog 93 #[.int .i64 x,.pointer (some p1)] W' fun e w'=>e=.returned (.bool (p x))∧Below W'.heap.size W' w'):=hc
 clear hv hc
 go_enter Tryz.func92,Tryz.ntmps92
 go_wp2
 go_loopw [5,8] (fun _ i wr=>∃k:Nat,k≤zs.length∧i=.int .i64 k∧(zs.take k).any p=false∧Below w.heap.size w wr) (fun _ i _=>zs.length-(intOf i).toNat)
 case atStart=>exact ⟨0,Nat.zero_le _,rfl,by simp,Below.refl _ _⟩
 case round=>
  obtain ⟨k,hk,rfl,hno,hbr⟩:=hrel
  have HN:Hid ((zs.take k).any p=false):=hno
  have HBR:Hid (Below w.heap.size w wr):=hbr
  clear hno hbr
  by_cases hlt:k < zs.length
  ·obtain ⟨b',o,cp,hs,hc1,hcc⟩:=sl_cell (HV.out.below HBR.out (Nat.le_refl _)) hlt
   simp only [Value.slice.injEq] at hs
   obtain ⟨rfl,_,rfl⟩:=hs
   have HS1:Hid ((zs.take (k+1)).any p=p zs[k]):=any_snoc (p:=p) hlt HN.out
   have HH:Hid (p zs[k]=true→findI p zs=k):=fun h=>findI_hit (p:=p) hlt HN.out h
   rw [show zs.getD k 0=zs[k] by simp [hlt]] at hcc
   have HIX:Hid (Calls Tryz.prog 93 #[.int .i64 zs[k],.pointer (some p1)] wr fun e w'=>e=.returned (.bool (p zs[k]))∧Below wr.heap.size wr w'):=HIL.out _ (List.getElem_mem _) wr HBR.out
   generalize zs[k]=x at *
   generalize p x=fb at *
   cases fb
   ·go_wp2_with fail
    refine HIX.out.mono ?_
    rintro e w2 ⟨rfl,hb2⟩
    have HB2:Hid (Below w.heap.size w w2):=HBR.out.trans (hb2.mono HBR.out.size)
    clear hb2
    go_wp2
    go_roundw
    case rel=>exact ⟨k+1,by omega,by go_num,HS1.out,HB2.out⟩
    case measure=>simp [intOf]; omega
   ·have HH2:Hid (findI p zs=k):=HH.out rfl
    clear HH
    go_wp2_with fail
    refine HIX.out.mono ?_
    rintro e w2 ⟨rfl,hb2⟩
    have HB2:Hid (Below w.heap.size w w2):=HBR.out.trans (hb2.mono HBR.out.size)
    clear hb2
    go_wp2
    go_ret
    exact ⟨ret_int HH2.out.symm,HB2.out⟩
  ·have e:zs.take k=zs:=List.take_of_length_le (by omega)
   rw [e] at HN
   have HF:Hid (findI p zs=-1):=findI_none HN.out
   go_wp2
   go_ret
   exact ⟨ret_int HF.out.symm,HBR.out⟩
theorem fst_at {order face:List Int} (h64:∀x∈order,0≤x∧x≤63) (hB:B64 face) (h:∃x∈order,x∈face):∃k:Nat,k < order.length∧order.getD k 0=fstO order face∧findI (fun x=>(setN face).testBit x.toNat) order=k:=by
 have hin:∀x∈order,((setN face).testBit x.toNat=true↔x∈face):=fun x hx=>by
  have:=setN_bit face x.toNat hB
  rw [Int.toNat_of_nonneg (h64 x hx).1] at this
  exact this
 cases hf:order.find? fun x=>decide (x∈face) with
 | none=>
  obtain ⟨x,h1,h2⟩:=h
  have:=List.find?_eq_none.1 hf x h1
  simp [h2] at this
 | some y=>
  obtain ⟨hy,pre,bs,he,hno⟩:=List.find?_eq_some_iff_append.1 hf
  have hk:pre.length < order.length:=by rw [he]; simp
  have hg:order[pre.length]=y:=by simp [he]
  have hfs:fstO order face=y:=by unfold fstO; rw [hf]; rfl
  have hyo:y∈order:=by rw [he]; simp
  refine ⟨pre.length,hk,by rw [hfs,←hg]; simp [hk],?_⟩
  have ht:order.take pre.length=pre:=by rw [he]; simp
  refine findI_hit hk ?_ (by rw [hg]; exact (hin y hyo).2 (by simpa using hy))
  rw [ht,List.any_eq_false]
  intro a ha
  have hao:a∈order:=by rw [he]; simp [ha]
  have h3:=hno a ha
  have h4:a∉face:=by simpa using h3
  intro h5
  exact h4 ((hin a hao).1 h5)
set_option maxRecDepth 100000 in
set_option maxHeartbeats 800000 in
theorem firstOf_any (order face:List Int) (ov:Value) (w:World) (hO:Sl w.heap.size 3 w ov (ints order)) (h64:∀x∈order,0≤x∧x≤63) (hB:B64 face) (h:∃x∈order,x∈face) :
  Calls Tryz.prog 69 #[.int .u64 (setN face:Nat),ov] w fun e w'=>e=.returned (.int .u64 ((2 ^ (fstO order face).toNat:Nat):Int))∧Below w.heap.size w w':=by
 obtain ⟨oo,oc,rfl,hl1,hl2⟩:=sl_open hO
 obtain ⟨k,hk,hke,hfi⟩:=fst_at h64 hB h
 obtain ⟨W,hW⟩:∃W,W=w.alloc (.cells #[.int .u64 (setN face:Int)] 70):=⟨_,rfl⟩
 have hbw:Below w.heap.size w W:=by rw [hW]; exact alloc_keep _ _
 have HW:Hid (Below w.heap.size w W):=hbw
 have hc0:W.cell? ⟨w.heap.size,0,none⟩=some (.int .u64 (setN face:Int)):=by rw [hW]; simp
 have hlt:=setN_lt face hB
 have HIX:Hid (Calls Tryz.prog 92 #[.slice oo order.length oc,.func (.func 93) #[] #[.pointer (some ⟨w.heap.size,0,none⟩)]] W fun e w'=>e=.returned (.int .i64 (k:Int))∧Below W.heap.size W w'):=by
  have h1:=idxFo_any w.heap.size (fun x=>(setN face).testBit x.toNat) order (.slice oo order.length oc) ⟨w.heap.size,0,none⟩ W (hO.below hbw (Nat.le_refl _)) fun x hx W' hb'=>by
   obtain ⟨xn,rfl⟩:∃xn:Nat,x=(xn:Int):=⟨x.toNat,by have:=(h64 x hx).1; omega⟩
   have h2:=firstOf1_any xn (setN face) w.heap.size W' (by have:=(h64 _ hx).2; omega) hlt ((hb'.cell (lt_of_cell hc0)).trans hc0)
   simpa using h2
  rw [hfi] at h1
  exact h1
 have HCE:Hid (∀X,Below W.heap.size W X→∃b o,oo=some ⟨b,o,none⟩∧X.cell? ⟨b,o+k,none⟩=some (.int .i64 (fstO order face))):=fun X hX=>by
  obtain ⟨b,o,cp,hs,_,hcc⟩:=sl_cell ((hO.below hbw (Nat.le_refl _)).below hX (by have:=hbw.size; omega)) hk
  simp only [Value.slice.injEq,true_and] at hs
  rw [hke] at hcc
  exact ⟨b,o,hs.1,hcc⟩
 have hf0:=h64 _ (fstO_mem h).1
 have HON:Hid (∀X,Calls Tryz.prog 65 #[.int .i64 (fstO order face)] X fun e w'=>e=.returned (.int .u64 ((2 ^ (fstO order face).toNat:Nat):Int))∧w'=X):=fun X=>one_any _ X hf0.1 hf0.2
 have hkI:(k:Int) < (order.length:Int):=by omega
 clear hO hfi hke hlt hc0 hbw
 generalize 2 ^ (fstO order face).toNat=px at *
 generalize fstO order face=f at *
 generalize setN face=S at *
 go_enter Tryz.func69,Tryz.ntmps69
 go_wp2_with fail
 rw [←hW]
 clear hW
 refine HIX.out.mono ?_
 rintro e w1 ⟨rfl,hb1⟩
 obtain ⟨b,o,hoo,hcc⟩:=HCE.out w1 hb1
 have HB1:Hid (Below w.heap.size w w1):=HW.out.trans (hb1.mono HW.out.size)
 subst hoo
 clear hb1 HIX HCE
 go_wp2_with fail
 refine (HON.out w1).mono ?_
 rintro e w2 ⟨rfl,rfl⟩
 go_wp2
 go_ret
 exact ⟨rfl,HB1.out⟩
end Go.Proofs.YtfhjjpiakffagaaGreatDoor
namespace Go.Proofs.YtfhjjpiakffagaaGreatDoor
open Go.RowKit Lin
attribute [local go_sem ↓] Go.wp_at_zero Go.wp_at_succ
def FlR (w:World) (v:Value) (F:List (Nat×List Nat)):Prop:=
 ∃ao cap,v=.slice ao F.length cap∧∀X i,Below w.heap.size w X→i < F.length→∃g co cc,ao=some ⟨g,0,none⟩∧X.cell? ⟨g,i*2,none⟩=some (.int .u64 ((F.getD i (0,[])).1:Nat))∧X.cell? ⟨g,i*2+1,none⟩=some (.slice co (F.getD i (0,[])).2.length cc)∧Sl 0 70 X (.slice co (F.getD i (0,[])).2.length cc) (u64s (F.getD i (0,[])).2)
theorem FlR.low {w X:World} {v:Value} {F:List (Nat×List Nat)} (h:FlR w v F) (hb:Below w.heap.size w X):FlR X v F:=by
 obtain ⟨ao,cap,hv,h1⟩:=h
 exact ⟨ao,cap,hv,fun Y i hY hi=>h1 Y i (hb.trans (hY.mono hb.size)) hi⟩
def wnB (S f a:Nat):Bool:=decide (a &&& S=a) && !a.testBit f
def putL (px S f:Nat) (F:List (Nat×List Nat)):List Nat:=F.flatMap fun q=>if wnB S f q.1 then q.2.map fun c=>px ||| c else []
theorem putL_snoc {px S f:Nat} {F:List (Nat×List Nat)} {i:Nat} (hi:i < F.length):putL px S f (F.take (i+1))=putL px S f (F.take i) ++ if wnB S f (F.getD i (0,[])).1 then (F.getD i (0,[])).2.map fun c=>px ||| c else []:=by
 unfold putL
 rw [List.take_succ_eq_append_getElem hi,List.flatMap_append]
 simp [hi]
set_option maxRecDepth 100000 in
set_option maxHeartbeats 800000 in
theorem apart_any (a S f g1 g2:Nat) (co:Option Addr) (cl cc:Nat) (w:World) (ha:a < 18446744073709551616) (hS:S < 18446744073709551616) (hf:f≤63) (h1:w.cell? ⟨g1,0,none⟩=some (.int .u64 (S:Int))) (h2:w.cell? ⟨g2,0,none⟩=some (.int .u64 ((2 ^ f:Nat):Int))) :
  Calls Tryz.prog 70 #[.agg #[.int .u64 (a:Int),.slice co cl cc],.pointer (some ⟨g1,0,none⟩),.pointer (some ⟨g2,0,none⟩)] w fun e w'=>e=.returned (.bool (wnB S f a))∧Below w.heap.size w w':=by
 have hpf:2 ^ f < 18446744073709551616:=Nat.lt_of_le_of_lt (Nat.pow_le_pow_right (by decide) hf) (by decide)
 obtain ⟨W,hW⟩:∃W,W=w.alloc (.cells #[.int .u64 (a:Int),.slice co cl cc] 88):=⟨_,rfl⟩
 have hbw:Below w.heap.size w W:=by rw [hW]; exact alloc_keep _ _
 have HW:Hid (Below w.heap.size w W):=hbw
 have c0:W.cell? ⟨w.heap.size,0,none⟩=some (.int .u64 (a:Int)):=by rw [hW]; simp
 have c1:=(hbw.cell (lt_of_cell h1)).trans h1
 have c2:=(hbw.cell (lt_of_cell h2)).trans h2
 have H1:Hid (Calls Tryz.prog 66 #[.int .u64 (a:Int),.int .u64 (S:Int)] W fun e w'=>e=.returned (.bool (decide (a &&& S=a)))∧w'=W):=by
  have h:=in_any a S W ha hS
  rw [out_sub] at h
  exact h
 have H2:Hid (Calls Tryz.prog 66 #[.int .u64 ((2 ^ f:Nat):Int),.int .u64 (a:Int)] W fun e w'=>e=.returned (.bool (a.testBit f))∧w'=W):=by
  have h:=in_any (2 ^ f) a W hpf ha
  rw [out_one] at h
  exact h
 have HB:Hid (wnB S f a=(decide (a &&& S=a) && !a.testBit f)):=rfl
 generalize wnB S f a=R at *
 generalize decide (a &&& S=a)=b1 at *
 generalize a.testBit f=b2 at *
 generalize 2 ^ f=pf at *
 clear h1 h2 hbw
 go_enter Tryz.func70,Tryz.ntmps70
 go_upto_region 1 with fail
 rw [←hW]
 clear hW
 go_wp2_with fail
 refine H1.out.mono ?_
 rintro e w1 ⟨rfl,rfl⟩
 cases b1
 ·have HR:Hid (R=false):=HB.out
  go_wp2
  go_ret
  exact ⟨ret_bool HR.out.symm,HW.out⟩
 ·have HR:Hid (R=!b2):=HB.out
  go_wp2_with fail
  refine H2.out.mono ?_
  rintro e w2 ⟨rfl,rfl⟩
  go_wp2
  go_ret
  exact ⟨ret_bool HR.out.symm,HW.out⟩
set_option maxRecDepth 100000 in
set_option maxHeartbeats 1600000 in
theorem putToCells_any (px S f g1 g2:Nat) (F:List (Nat×List Nat)) (v:Value) (w:World) (hF:FlR w v F) (hFa:∀q∈F,q.1 < 1024∧∀c∈q.2,c < 1024) (hpx:px < 1024) (hS:S < 1024) (hf:f≤63) (h1:w.cell? ⟨g1,0,none⟩=some (.int .u64 (S:Int))) (h2:w.cell? ⟨g2,0,none⟩=some (.int .u64 ((2 ^ f:Nat):Int)))
  (hln:F.length≤1024) (hcl:∀q∈F,q.2.length≤1099511627776) (hpl:∀i,(putL px S f (F.take i)).length≤1099511627776) :
  Calls Tryz.prog 71 #[.int .u64 (px:Int),v,.func (.func 70) #[] #[.pointer (some ⟨g1,0,none⟩),.pointer (some ⟨g2,0,none⟩)]] w fun e w'=>∃xo xc,e=.returned (.slice xo (putL px S f F).length xc)∧w'.ownsRow w.heap.size 70 1 (.slice xo (putL px S f F).length xc) (putL px S f F).length (u64s (putL px S f F))∧Below w.heap.size w w':=by
 obtain ⟨i3,hi3,hz30,hz31,hz32⟩:=info_parts Tryz.infoS
 have HFL:Hid (FlR w v F):=hF
 obtain ⟨ao,cap,rfl,hrd⟩:=hF
 have HRD:Hid (∀X i,Below w.heap.size w X→i < F.length→∃g co cc,ao=some ⟨g,0,none⟩∧X.cell? ⟨g,i*2,none⟩=some (.int .u64 ((F.getD i (0,[])).1:Nat))∧X.cell? ⟨g,i*2+1,none⟩=some (.slice co (F.getD i (0,[])).2.length cc)∧Sl 0 70 X (.slice co (F.getD i (0,[])).2.length cc) (u64s (F.getD i (0,[])).2)):=hrd
 have HAP:Hid (∀X i co cc,Below w.heap.size w X→i < F.length→Calls Tryz.prog 70 #[.agg #[.int .u64 ((F.getD i (0,[])).1:Nat),.slice co (F.getD i (0,[])).2.length cc],.pointer (some ⟨g1,0,none⟩),.pointer (some ⟨g2,0,none⟩)] X fun e w'=>e=.returned (.bool (wnB S f (F.getD i (0,[])).1))∧Below X.heap.size X w'):=fun X i co cc hX hi=>by
  have ha:=(hFa (F.getD i (0,[])) (by simp [hi])).1
  exact apart_any _ S f g1 g2 co _ cc X (by omega) (by omega) hf ((hX.cell (lt_of_cell h1)).trans h1) ((hX.cell (lt_of_cell h2)).trans h2)
 have HFA:Hid (∀q∈F,q.1 < 1024∧∀c∈q.2,c < 1024):=hFa
 have HCL:Hid (∀q∈F,q.2.length≤1099511627776):=hcl
 have HPL:Hid (∀i,(putL px S f (F.take i)).length≤1099511627776):=hpl
 have HSN:Hid (∀i,i < F.length→putL px S f (F.take (i+1))=putL px S f (F.take i) ++ if wnB S f (F.getD i (0,[])).1 then (F.getD i (0,[])).2.map fun c=>px ||| c else []):=fun i hi=>putL_snoc hi
 clear hrd h1 h2 hFa hcl hpl
 go_enter Tryz.func71,Tryz.ntmps71
 go_wp2
 go_loopw [7,14] (fun x iv wr=>∃(i:Nat) (xo:Option Addr) (xc:Nat),i≤F.length∧iv=.int .i64 (i:Int)∧x=.slice xo (putL px S f (F.take i)).length xc∧wr.ownsRow w.heap.size 70 1 (.slice xo (putL px S f (F.take i)).length xc) (putL px S f (F.take i)).length (u64s (putL px S f (F.take i)))∧Below w.heap.size w wr) (fun _ iv _=>F.length-(intOf iv).toNat)
 case atStart=>exact ⟨0,none,0,Nat.zero_le _,rfl,rfl,World.ownsRow_nil _ _ _ _,Below.refl _ _⟩
 case round=>
  obtain ⟨i,xo,xc,hil,rfl,rfl,ho,hbr⟩:=hrel
  have HO:Hid (wr.ownsRow w.heap.size 70 1 (.slice xo (putL px S f (F.take i)).length xc) (putL px S f (F.take i)).length (u64s (putL px S f (F.take i)))):=ho
  have HBR:Hid (Below w.heap.size w wr):=hbr
  clear ho hbr
  by_cases hlt:i < F.length
  ·obtain ⟨g,co,cc,hao,hc0w,hc1w,hcs⟩:=HRD.out w i (Below.refl _ _) hlt
   have hc0:=(HBR.out.cell (lt_of_cell hc0w)).trans hc0w
   have hc1:=(HBR.out.cell (lt_of_cell hc1w)).trans hc1w
   have hqm:F.getD i (0,[])∈F:=by simp [hlt]
   have HQA:Hid (∀c∈(F.getD i (0,[])).2,c < 1024):=(HFA.out _ hqm).2
   have HQL:Hid ((F.getD i (0,[])).2.length≤1099511627776):=HCL.out _ hqm
   have HSU:Hid (putL px S f (F.take (i+1))=putL px S f (F.take i) ++ if wnB S f (F.getD i (0,[])).1 then (F.getD i (0,[])).2.map fun c=>px ||| c else []):=HSN.out i hlt
   have HML:Hid ((putL px S f (F.take i)).length≤1099511627776):=HPL.out i
   have HCS:Hid (∀X k,Below w.heap.size w X→k < (F.getD i (0,[])).2.length→∃cb cf,co=some ⟨cb,cf,none⟩∧X.cell? ⟨cb,cf+k,none⟩=some (.int .u64 (((F.getD i (0,[])).2.getD k 0:Nat):Int))):=fun X k hX hk=>by
    obtain ⟨a1,a2,a3,_,_,a6,_⟩:=hcs.below hX (Nat.le_refl _)
    simp only [Value.slice.injEq] at a3
    obtain ⟨b,o,b1,b2,_⟩:=a6 k (by rw [u64s_len]; exact hk)
    refine ⟨b,o,a3.1.trans b1,?_⟩
    rw [b2]
    generalize (F.getD i (0,[])).2=qq at *
    simp [u64s,hk]
   have hiI:(i:Int) < (F.length:Int):=by omega
   obtain ⟨WB,hWB⟩:∃WB,WB=wr.alloc (.cells #[.int .u64 ((F.getD i (0,[])).1:Nat),.slice co (F.getD i (0,[])).2.length cc] 88):=⟨_,rfl⟩
   have hbb:Below wr.heap.size wr WB:=by rw [hWB]; exact alloc_keep _ _
   have hBB:WB.heap[wr.heap.size]?=some (.cells #[.int .u64 ((F.getD i (0,[])).1:Nat),.slice co (F.getD i (0,[])).2.length cc] 88 (0,0)):=by rw [hWB]; exact alloc_at _ _
   have HBX:Hid (∀X,Below WB.heap.size WB X→X.cell? ⟨wr.heap.size,0,none⟩=some (.int .u64 ((F.getD i (0,[])).1:Nat))∧X.cell? ⟨wr.heap.size,1,none⟩=some (.slice co (F.getD i (0,[])).2.length cc)):=fun X h=>by
    have:=(h.block _ (lt_of_block hBB)).trans hBB
    simp [World.cell?,this]
   have HAI:=HAP.out WB i co cc (HBR.out.trans (hbb.mono HBR.out.size)) hlt
   have HBB:Hid (Below wr.heap.size wr WB):=hbb
   subst hao
   clear hcs hqm hBB hbb hc0w hc1w
   generalize F.getD i (0,[])=q at *
   obtain ⟨m1,hm1⟩:∃m1,m1=putL px S f (F.take (i+1)):=⟨_,rfl⟩
   have HM1:Hid (m1=putL px S f (F.take (i+1))):=hm1
   rw [←hm1] at HSU
   clear hm1
   generalize putL px S f (F.take i)=m at *
   obtain ⟨q1,q2⟩:=q
   simp only at *
   obtain ⟨y0,y1⟩:=HBX.out WB (Below.refl _ _)
   go_wp2_with fail
   rw [←hWB]
   clear hWB
   refine HAI.mono ?_
   rintro e w2 ⟨rfl,hb2⟩
   have HB2:Hid (Below WB.heap.size WB w2):=hb2
   have HR2:Hid (Below wr.heap.size wr w2):=HBB.out.trans (hb2.mono HBB.out.size)
   clear hb2 y0 y1 hc0 hc1
   obtain ⟨y0,y1⟩:=HBX.out w2 HB2.out
   cases hwn:wnB S f q1
   ·rw [hwn] at HSU
    have HNX:Hid (m1=m):=by
     have e:=HSU.out
     show m1=m
     simpa using e
    have HOF:Hid (w2.ownsRow w.heap.size 70 1 (.slice xo m1.length xc) m1.length (u64s m1)∧Below w.heap.size w w2):=by
     rw [HNX.out]
     exact ⟨owns_below HO.out HR2.out (Nat.le_refl _),HBR.out.trans (HR2.out.mono HBR.out.size)⟩
    rw [←HNX.out]
    clear HO hwn
    go_wp2
    exact ⟨⟨i+1,xo,xc,by omega,by go_num,by rw [←HM1.out],by rw [←HM1.out]; exact HOF.out.1,HOF.out.2⟩,by simp [intOf]; omega⟩
   ·rw [hwn] at HSU
    have HNX:Hid (m1=m ++ q2.map fun c=>px ||| c):=by
     have e:=HSU.out
     show m1=m ++ q2.map fun c=>px ||| c
     simpa using e
    have HO2:Hid (w2.ownsRow w.heap.size 70 1 (.slice xo m.length xc) m.length (u64s m)):=owns_below HO.out HR2.out (Nat.le_refl _)
    have HBW:Hid (Below w.heap.size w w2):=HBR.out.trans (HR2.out.mono HBR.out.size)
    clear HO hwn HSU
    go_wp2
    have HML2:Hid ((q2.map fun c=>px ||| c).length=q2.length):=by show _=_; simp
    have HQM:Hid (∀k,k < q2.length→(q2.map fun c=>px ||| c).getD k 0=(px ||| q2.getD k 0:Nat)):=fun k hk=>by simp [hk]
    generalize (q2.map fun c=>px ||| c)=qm at *
    have hq2:q2.length≤1099511627776:=HQL.out
    go_loopw [7,25] (fun x kv wq=>∃(k:Nat) (ao:Option Addr) (ac:Nat),k≤q2.length∧kv=.int .i64 (k:Int)∧x=.slice ao (m.length+k) ac∧wq.ownsRow w.heap.size 70 1 (.slice ao (m.length+k) ac) (m.length+k) (u64s (m ++ qm.take k))∧Below w.heap.size w wq) (fun _ kv _=>q2.length-(intOf kv).toNat)
    case atStart=>exact ⟨0,xo,xc,Nat.zero_le _,rfl,rfl,by simpa using HO2.out,HBW.out⟩
    case round=>
     obtain ⟨k,ao,ac,hk,rfl,rfl,hok,hbk⟩:=hrel
     obtain ⟨ol,hol⟩:∃ol,ol=m.length+k:=⟨_,rfl⟩
     rw [←hol] at hok ⊢
     have HOK:Hid (wr.ownsRow w.heap.size 70 1 (.slice ao ol ac) ol (u64s (m ++ qm.take k))):=hok
     have HBK:Hid (Below w.heap.size w wr):=hbk
     have HOL:Hid (ol=m.length+k):=hol
     have hol2:ol≤2199023255552:=by have:=HQL.out; have:=HML.out; omega
     clear hok hbk hol HO2 HBW
     by_cases hlk:k < q2.length
     ·obtain ⟨cb,cf,hco,hcc⟩:=HCS.out wr k HBK.out hlk
      have hc10:=HQA.out (q2.getD k 0) (by simp [hlk])
      have hor:bits .or .u64 (px:Int) ((q2.getD k 0:Nat):Int)=((px ||| q2.getD k 0:Nat):Int):=bits_or_u64_nat _ _ (by omega) (by omega)
      have HTK:Hid (qm.take (k+1)=qm.take k ++ [px ||| q2.getD k 0]):=by
       show _=_
       rw [List.take_succ_eq_append_getElem (by rw [HML2.out]; exact hlk)]
       have h1:=HQM.out k hlk
       have h2:qm.getD k 0=qm[k]'(by rw [HML2.out]; exact hlk):=by simp [HML2.out,hlk]
       rw [←h2,h1]
      have hkI:(k:Int) < (q2.length:Int):=by omega
      have hszk:=HBK.out.size
      subst hco
      generalize q2.getD k 0=ck at *
      generalize (px ||| ck:Nat)=pc at *
      go_wp2_with (first | (at_builtin; refine wpList_append_own _ rfl _ _ 67 rfl w.heap.size 70 i3 (.int .u64 0) 1 8 Tryz.underlying67 hi3 hz30 hz31 hz32 rfl (by decide) _ _ _ rfl (HOK.out.alloc _) ⟨wr.heap.size,0,none⟩ 1 1 [.int .u64 (pc:Int)] rfl rfl (one_new _ _ _) (one_u64 _) ?d3 ?d4 ?d5 ?_))
      case d3=>unfold maxLen; omega
      case d4=>omega
      case d5=>first | exact hszk | omega | (simp; omega)
      intro v' w3 ho3 hg3 _
      obtain ⟨vo,vc,hv3⟩:=owns_form ho3
      subst hv3
      have R1:Hid (w3.ownsRow w.heap.size 70 1 (.slice vo (ol+1) vc) (ol+1) (u64s (m ++ qm.take (k+1)))):=by
       rw [HTK.out]
       have e:u64s (m ++ (qm.take k ++ [pc]))=u64s (m ++ qm.take k) ++ [.int .u64 (pc:Int)]:=by simp [u64s]
       show World.ownsRow _ _ _ _ _ _ _
       rw [e]
       exact ho3
      have R2:Hid (Below w.heap.size w w3):=(HBK.out.alloc hszk _).grown hg3 (by simp; omega) (fun x hx=>(HOK.out.lt x hx).1)
      clear ho3 hg3
      go_wp2
      go_roundw
      case rel=>exact ⟨k+1,vo,vc,by omega,by go_num,by rw [HOL.out]; rfl,by have h:=R1.out; rw [HOL.out] at h; exact h,R2.out⟩
      case measure=>simp [intOf]; omega
     ·have hke:k=q2.length:=by omega
      subst hke
      have HFI:Hid (wr.ownsRow w.heap.size 70 1 (.slice ao m1.length ac) m1.length (u64s m1)∧ol=m1.length):=by
       have h:=HOK.out
       rw [←HML2.out,List.take_length,←HNX.out] at h
       have e:ol=m1.length:=by rw [HNX.out,HOL.out,List.length_append,HML2.out]
       rw [e] at h
       exact ⟨h,e⟩
      have hoe:=HFI.out.2
      subst hoe
      clear HOK HOL
      go_wp2
      exact ⟨⟨i+1,ao,ac,by omega,by go_num,by rw [←HM1.out],by rw [←HM1.out]; exact HFI.out.1,HBK.out⟩,by simp [intOf]; omega⟩
  ·have hie:i=F.length:=by omega
   subst hie
   have HFI:Hid (wr.ownsRow w.heap.size 70 1 (.slice xo (putL px S f F).length xc) (putL px S f F).length (u64s (putL px S f F))):=by
    have h:=HO.out
    rw [List.take_length] at h
    exact h
   rw [List.take_length]
   clear HO hlt
   go_wp2
   go_ret
   exact ⟨xo,xc,rfl,HFI.out,HBR.out⟩
end Go.Proofs.YtfhjjpiakffagaaGreatDoor
namespace Go.Proofs.YtfhjjpiakffagaaGreatDoor
open Go.RowKit Lin
attribute [local go_sem ↓] Go.wp_at_zero Go.wp_at_succ
theorem setN_lt10 (l:List Int) (h:∀x∈l,0≤x∧x < (10:Int)):setN l < 1024:=setN_ltn (n:=10) l h
theorem flat_congr {α β:Type} {f g:α→List β} : ∀{l:List α},(∀a∈l,f a=g a)→l.flatMap f=l.flatMap g
 | [],_=>rfl
 | a :: l,h=>by
  rw [List.flatMap_cons,List.flatMap_cons,h a (by simp),flat_congr fun b hb=>h b (by simp [hb])]
def filL (LV:Nat→List (List Int)) (order:List Int) (t:Nat):List (Nat×List Nat):=(LV t).map fun g=>(setN g,pulS LV order t g)
theorem pulS_two (LV:Nat→List (List Int)) (order:List Int) (t:Nat) (face:List Int):pulS LV order (t+2) face=(LV (t+1)).flatMap fun g=>if tkB order face g then (pulS LV order (t+1) g).map fun c=>2 ^ (fstO order face).toNat ||| c else []:=rfl
theorem put_pul {LV:Nat→List (List Int)} {order:List Int} {n:Nat} (h:LvO LV order n) (hn:n≤10) (t:Nat) (face:List Int) (hf:face∈LV (t+2)):putL (2 ^ (fstO order face).toNat) (setN face) (fstO order face).toNat (filL LV order (t+1))=pulS LV order (t+2) face:=by
 have h1:=fstO_mem (h.has _ face hf)
 have h2:=h.ord _ h1.1
 rw [pulS_two]
 unfold putL filL
 rw [List.flatMap_map]
 refine flat_congr fun g hg=>?_
 have hb:B64 g:=fun x hx=>by have:=(h.row _ g hg).2 x hx; omega
 have hw:wnB (setN face) (fstO order face).toNat (setN g)=tkB order face g:=by
  unfold wnB tkB
  have h3:(setN g).testBit (fstO order face).toNat=decide (fstO order face∈g):=by
   rw [Bool.eq_iff_iff,decide_eq_true_iff,setN_bit g _ hb,Int.toNat_of_nonneg h2.1]
  rw [h3,Bool.and_comm]
 simp only [hw]
set_option maxRecDepth 100000 in
set_option maxHeartbeats 1600000 in
theorem pull1_any (S g1 g2:Nat) (w:World) (hS:S < 1024) (hl:(memL S).length=1) :
  Calls Tryz.prog 67 #[.int .u64 (S:Int),.pointer (some ⟨g1,0,none⟩),.pointer (some ⟨g2,0,none⟩)] w fun e w'=>∃co cc,e=.returned (.agg #[.int .u64 (S:Int),.slice co 1 cc])∧Sl 0 70 w' (.slice co 1 cc) (u64s [S])∧Below w.heap.size w w':=by
 have HL:Hid (∀X,Calls Tryz.prog 68 #[.int .u64 (S:Int)] X fun e w'=>e=.returned (.int .i64 1)∧w'=X):=fun X=>by
  have h:=len10_any S hS X
  rw [hl] at h
  exact h
 go_enter Tryz.func67,Tryz.ntmps67
 go_wp2_with fail
 refine (HL.out _).mono ?_
 rintro e w1 ⟨rfl,rfl⟩
 go_wp2
 obtain ⟨W,hW⟩:∃W,W=((w.alloc (.cells #[.int .u64 (S:Int)] 70)).alloc (.cells #[.int .u64 (S:Int),.slice (some ⟨w.heap.size+1+1,0,none⟩) 1 1] 88)).alloc (.cells #[.int .u64 (S:Int)] 70):=⟨_,rfl⟩
 have g0:W.heap[w.heap.size+1]?=some (.cells #[.int .u64 (S:Int),.slice (some ⟨w.heap.size+1+1,0,none⟩) 1 1] 88 (0,0)):=by
  rw [hW,Below.heap_alloc _ _ _ (by simp)]
  exact (two_heapF w _ _).2
 have g1':W.heap[w.heap.size+1+1]?=some (.cells #[.int .u64 (S:Int)] 70 (0,0)):=by
  rw [hW]
  have:=alloc_at ((w.alloc (.cells #[.int .u64 (S:Int)] 70)).alloc (.cells #[.int .u64 (S:Int),.slice (some ⟨w.heap.size+1+1,0,none⟩) 1 1] 88)) (.cells #[.int .u64 (S:Int)] 70)
  simpa using this
 have hbe:Below w.heap.size w W:=by rw [hW]; exact (((Below.refl _ _).alloc (Nat.le_refl _) _).alloc (by simp) _).alloc (by simp; omega) _
 rw [←hW]
 clear hW
 refine bodyPost_ret (v:=.agg #[.int .u64 (S:Int),.slice (some ⟨w.heap.size+1+1,0,none⟩) 1 1]) (by simp [results,Tryz.results67,go_sem,World.cell?,g0]) rfl ?_
 refine ⟨_,_,rfl,Sl.own (B:=0) ⟨rfl,Or.inr ⟨w.heap.size+1+1,1,#[.int .u64 (S:Int)],rfl,Nat.zero_le _,g1',Nat.le_refl _,by unfold maxLen; omega,rfl,rfl⟩⟩,hbe⟩
set_option maxRecDepth 100000 in
set_option maxHeartbeats 3200000 in
theorem pullN_any {LV:Nat→List (List Int)} {order:List Int} {n:Nat} (h:LvO LV order n) (hn:n≤10) (t:Nat) (ht:t≤3) (face:List Int) (hf:face∈LV (t+2)) (hl:(memL (setN face)).length≠1) (g1 g2:Nat) (oo:Option Addr) (oc:Nat) (bv:Value) (w:World)
  (hO:Sl w.heap.size 3 w (.slice oo order.length oc) (ints order)) (hB:FlR w bv (filL LV order (t+1))) (c1:w.cell? ⟨g1,0,none⟩=some (.slice oo order.length oc)) (c2:w.cell? ⟨g2,0,none⟩=some bv) :
  Calls Tryz.prog 67 #[.int .u64 (setN face:Nat),.pointer (some ⟨g1,0,none⟩),.pointer (some ⟨g2,0,none⟩)] w fun e w'=>∃co cc,e=.returned (.agg #[.int .u64 (setN face:Nat),.slice co (pulS LV order (t+2) face).length cc])∧Sl 0 70 w' (.slice co (pulS LV order (t+2) face).length cc) (u64s (pulS LV order (t+2) face))∧Below w.heap.size w w':=by
 have hmem:=fstO_mem (h.has _ face hf)
 have hford:=h.ord _ hmem.1
 have hSlt:setN face < 1024:=setN_lt10 face fun x hx=>by have:=(h.row _ face hf).2 x hx; omega
 have hB64:B64 face:=fun x hx=>by have:=(h.row _ face hf).2 x hx; omega
 have hfl:(fstO order face).toNat < 10:=by omega
 have hpx:2 ^ (fstO order face).toNat < 1024:=Nat.lt_of_lt_of_le (Nat.pow_lt_pow_right (by decide) hfl) (by decide)
 have hpe:=put_pul h hn t face hf
 have hpS:∀g∈LV (t+1),∀c∈pulS LV order (t+1) g,c < 1024:=fun g hg c hc=>by
  rw [pul_same] at hc
  obtain ⟨l,hl,rfl⟩:=List.mem_map.1 hc
  exact setN_lt10 l fun x hx=>by have:=(pulD_mem h t g hg l hl).2 x hx; omega
 have hpl:∀g,(pulS LV order (t+1) g).length≤1099511627776:=fun g=>by
  rw [pul_same,List.length_map]
  exact Nat.le_trans (pulD_len LV order h.len t g) (Nat.le_trans (Nat.pow_le_pow_right (by decide) (show t≤4 by omega)) (by decide))
 obtain ⟨W,hW⟩:∃W,W=(w.alloc (.cells #[.int .u64 (setN face:Int)] 70)).alloc (.cells #[.int .u64 0,.slice none 0 0] 88):=⟨_,rfl⟩
 have hbw:Below w.heap.size w W:=by rw [hW]; exact ((Below.refl _ _).alloc (Nat.le_refl _) _).alloc (by simp) _
 have hsW:W.heap.size=w.heap.size+2:=by rw [hW]; simp
 have b0:W.heap[w.heap.size]?=some (.cells #[.int .u64 (setN face:Int)] 70 (0,0)):=by rw [hW]; exact (two_heapF _ _ _).1
 have b1:W.heap[w.heap.size+1]?=some (.cells #[.int .u64 0,.slice none 0 0] 88 (0,0)):=by rw [hW]; exact (two_heapF _ _ _).2
 have HCX:Hid (∀X,Below W.heap.size W X→X.cell? ⟨w.heap.size,0,none⟩=some (.int .u64 (setN face:Int))∧X.cell? ⟨g1,0,none⟩=some (.slice oo order.length oc)∧X.cell? ⟨g2,0,none⟩=some bv∧X.heap[w.heap.size+1]?=some (.cells #[.int .u64 0,.slice none 0 0] 88 (0,0))):=fun X hX=>by
  have q0:=(hX.block _ (by omega)).trans b0
  have hwX:=hbw.trans (hX.mono (by omega))
  exact ⟨by simp [World.cell?,q0],(hwX.cell (lt_of_cell c1)).trans c1,(hwX.cell (lt_of_cell c2)).trans c2,(hX.block _ (by omega)).trans b1⟩
 have HLN:Hid (∀X,Calls Tryz.prog 68 #[.int .u64 (setN face:Nat)] X fun e w'=>e=.returned (.int .i64 (memL (setN face)).length)∧w'=X):=fun X=>len10_any (setN face) hSlt X
 have HFO:Hid (∀X,Below W.heap.size W X→Calls Tryz.prog 69 #[.int .u64 (setN face:Nat),.slice oo order.length oc] X fun e w'=>e=.returned (.int .u64 ((2 ^ (fstO order face).toNat:Nat):Int))∧Below X.heap.size X w'):=fun X hX=>
  firstOf_any order face _ X ((hO.below (hbw.trans (hX.mono (by omega))) (Nat.le_refl _)).any (Nat.le_refl _)) (fun x hx=>by have:=h.ord x hx; omega) hB64 (h.has _ face hf)
 have HPT:Hid (∀X gf,Below W.heap.size W X→X.cell? ⟨gf,0,none⟩=some (.int .u64 ((2 ^ (fstO order face).toNat:Nat):Int))→Calls Tryz.prog 71 #[.int .u64 ((2 ^ (fstO order face).toNat:Nat):Int),bv,.func (.func 70) #[] #[.pointer (some ⟨w.heap.size,0,none⟩),.pointer (some ⟨gf,0,none⟩)]] X fun e w'=>∃xo xc,e=.returned (.slice xo (pulS LV order (t+2) face).length xc)∧Sl 0 70 w' (.slice xo (pulS LV order (t+2) face).length xc) (u64s (pulS LV order (t+2) face))∧Below X.heap.size X w'):=fun X gf hX hgf=>by
  have hwX:=hbw.trans (hX.mono (by omega))
  refine (putToCells_any (2 ^ (fstO order face).toNat) (setN face) (fstO order face).toNat w.heap.size gf (filL LV order (t+1)) bv X (hB.low hwX) ?_ hpx hSlt (by omega) (HCX.out X hX).1 hgf ?_ ?_ ?_).mono ?_
  ·intro q hq
   obtain ⟨g,hg,rfl⟩:=List.mem_map.1 hq
   exact ⟨setN_lt10 g fun x hx=>by have:=(h.row _ g hg).2 x hx; omega,hpS g hg⟩
  ·unfold filL
   rw [List.length_map]
   exact h.len (t+1)
  ·intro q hq
   obtain ⟨g,hg,rfl⟩:=List.mem_map.1 hq
   exact hpl g
  ·intro i
   unfold putL
   refine Nat.le_trans (flat_len _ (1024 ^ t) _ fun q hq=>?_) ?_
   ·split
    ·obtain ⟨g,hg,rfl⟩:=List.mem_map.1 (List.mem_of_mem_take hq)
     rw [List.length_map,pul_same,List.length_map]
     exact pulD_len LV order h.len t g
    ·simp
   ·have e1:((filL LV order (t+1)).take i).length≤1024:=Nat.le_trans (by rw [List.length_take]; exact Nat.min_le_right _ _) (by unfold filL; rw [List.length_map]; exact h.len (t+1))
    have e2:1024 ^ t≤1024 ^ 3:=Nat.pow_le_pow_right (by decide) ht
    exact Nat.le_trans (Nat.mul_le_mul e1 e2) (by decide)
  ·rw [hpe]
   rintro e w' ⟨xo,xc,rfl,ho,hb⟩
   exact ⟨xo,xc,rfl,Sl.own ho,hb⟩
 obtain ⟨bo,bl,bc,hbv⟩:∃bo bl bc,bv=.slice bo bl bc:=by
  obtain ⟨ao,cap,hv,_⟩:=hB
  exact ⟨_,_,_,hv⟩
 subst hbv
 have HW:Hid (Below w.heap.size w W):=hbw
 have hg2:g2 < w.heap.size:=lt_of_cell c2
 generalize hml:(memL (setN face)).length=ml at *
 have tml:((ml:Int) == 1)=false:=by simp; omega
 clear hO hB c1 c2 hbw b0 b1 hpe hpS hpl hmem hford hB64 hfl hpx hml hl
 generalize pulS LV order (t+2) face=cs at *
 generalize (2 ^ (fstO order face).toNat:Nat)=px at *
 generalize setN face=S at *
 obtain ⟨k0,k1,k2,k3⟩:=HCX.out W (Below.refl _ _)
 clear k3
 go_enter Tryz.func67,Tryz.ntmps67
 go_upto_region 1 with fail
 rw [←hW]
 clear hW
 go_wp2_with fail
 refine (HLN.out W).mono ?_
 rintro e w1 ⟨rfl,rfl⟩
 go_wp2_with fail
 refine (HFO.out w1 (Below.refl _ _)).mono ?_
 rintro e w2 ⟨rfl,hb2⟩
 have HB2:Hid (Below w1.heap.size w1 w2):=hb2
 obtain ⟨W3,hW3⟩:∃W3,W3=w2.alloc (.cells #[.int .u64 (px:Int)] 70):=⟨_,rfl⟩
 have hb3:Below w1.heap.size w1 W3:=by rw [hW3]; exact hb2.alloc hb2.size _
 have HB3:Hid (Below w1.heap.size w1 W3):=hb3
 have kf:W3.cell? ⟨w2.heap.size,0,none⟩=some (.int .u64 (px:Int)):=by rw [hW3]; simp
 have HKF:Hid (W3.cell? ⟨w2.heap.size,0,none⟩=some (.int .u64 (px:Int))):=kf
 clear hb2 hb3 k0 k1 k2 kf
 go_upto_region 5 with fail
 rw [←hW3]
 clear hW3
 obtain ⟨WD,hWD⟩:∃WD,WD=W3.drew:=⟨_,rfl⟩
 have HBD:Hid (Below W3.heap.size W3 WD):=by rw [hWD]; exact (Below.refl _ _).drew
 have HSS:Hid (∀X,Below W3.heap.size W3 X→X.cell? ⟨w.heap.size,0,none⟩=some (.int .u64 (S:Int))∧X.cell? ⟨w2.heap.size,0,none⟩=some (.int .u64 (px:Int))∧X.cell? ⟨g2,0,none⟩=some (.slice bo bl bc)):=fun X hX=>by
  have hc:=HCX.out X (HB3.out.trans (hX.mono HB3.out.size))
  exact ⟨hc.1,(hX.cell (lt_of_cell HKF.out)).trans HKF.out,hc.2.2.1⟩
 have S0:=HSS.out WD HBD.out
 rw [hWD] at S0
 refine wp_region_held_drew (S:=fun X=>X.cell? ⟨w.heap.size,0,none⟩=some (.int .u64 (S:Int))∧X.cell? ⟨w2.heap.size,0,none⟩=some (.int .u64 (px:Int))∧X.cell? ⟨g2,0,none⟩=some (.slice bo bl bc)) (by kernel_rfl) S0 (fun hHeld=>?_)
 rw [←hWD] at hHeld ⊢
 clear hWD S0
 refine wpAnyH_tk (i:=0) (d:=18) (v:=.int .u64 (S:Int)) rfl rfl (by kernel_rfl) (by kernel_rfl) (by kernel_rfl) (fun _ _ _ h=>h) (.inl ⟨by rfl,by (intro wq hSw; (try dsimp only at hSw); go_simp; (try (first | rfl | omega)))⟩) hHeld ?_
 simp only [Act.put,List.setIfInBounds_toArray,List.set_cons_zero,List.set_cons_succ]
 refine wpAnyH_tk (i:=1) (d:=19) (v:=.int .u64 (px:Int)) rfl rfl (by kernel_rfl) (by kernel_rfl) (by kernel_rfl) (fun _ _ _ h=>h) (.inl ⟨by rfl,by (intro wq hSw; (try dsimp only at hSw); go_simp; (try (first | rfl | omega)))⟩) hHeld ?_
 simp only [Act.put,List.setIfInBounds_toArray,List.set_cons_zero,List.set_cons_succ]
 refine wpAnyH_tk (i:=2) (d:=20) (v:=.slice bo bl bc) rfl rfl (by kernel_rfl) (by kernel_rfl) (by kernel_rfl) (fun _ _ _ h=>h) (.inl ⟨by rfl,by (intro wq hSw; (try dsimp only at hSw); go_simp; (try (first | rfl | omega)))⟩) hHeld ?_
 simp only [Act.put,List.setIfInBounds_toArray,List.set_cons_zero,List.set_cons_succ]
 refine wpAnyH_tk (i:=3) (d:=21) (v:=.func (.func 70) #[] #[.pointer (some ⟨w.heap.size,0,none⟩),.pointer (some ⟨w2.heap.size,0,none⟩)]) rfl rfl (by kernel_rfl) (by kernel_rfl) (by kernel_rfl) (fun _ _ _ h=>h) (.inl ⟨by rfl,by (intro wq hSw; (try dsimp only at hSw); go_simp; (try (first | rfl | omega)))⟩) hHeld ?_
 simp only [Act.put,List.setIfInBounds_toArray,List.set_cons_zero,List.set_cons_succ]
 refine wpAnyH_ready (rs:=[4]) (by kernel_rfl) (by simp) ?_
 refine ready_tk (i:=4) rfl (by rfl) (fun K hK=>?_) AllReadyH.nil
 go_simp
 refine (HPT.out WD w2.heap.size (HB3.out.trans (HBD.out.mono HB3.out.size)) (HSS.out WD HBD.out).2.1).mono ?_
 rintro e WE ⟨xo,xc,rfl,hsl,hbe⟩
 have HSL:Hid (Sl 0 70 WE (.slice xo cs.length xc) (u64s cs)):=hsl
 have HBE:Hid (Below W3.heap.size W3 WE):=HBD.out.trans (hbe.mono HBD.out.size)
 refine hK.out _ _ (HSS.out WE HBE.out) (fun hHeld=>?_)
 clear hK K hsl hbe
 try simp only [Act.put,List.setIfInBounds_toArray,List.set_cons_zero,List.set_cons_succ]
 refine wpAnyH_tk (i:=5) (d:=23) (v:=.agg #[.int .u64 (S:Int),.slice xo cs.length xc]) rfl rfl (by kernel_rfl) (by kernel_rfl) (by kernel_rfl) (fun _ _ _ h=>h) (.inl ⟨by rfl,by (intro wq hSw; (try dsimp only at hSw); go_simp; (try (first | rfl | omega)))⟩) hHeld ?_
 simp only [Act.put,List.setIfInBounds_toArray,List.set_cons_zero,List.set_cons_succ]
 have hbE:=(HCX.out WE (HB3.out.trans (HBE.out.mono HB3.out.size))).2.2.2
 have cE0:WE.cell? ⟨w.heap.size+1,0,none⟩=some (.int .u64 0):=by simp [World.cell?,hbE]
 have cE1:WE.cell? ⟨w.heap.size+1,1,none⟩=some (.slice none 0 0):=by simp [World.cell?,hbE]
 have fE0:WE.frozen? ⟨w.heap.size+1,0,none⟩=false:=by simp [World.frozen?,hbE]
 have fE1:WE.frozen? ⟨w.heap.size+1,1,none⟩=false:=by simp [World.frozen?,hbE]
 refine wpAnyH_ready (rs:=[6]) (by kernel_rfl) (by simp) ?_
 refine ready_tk (i:=6) rfl (by rfl) (fun K hK=>?_) AllReadyH.nil
 go_simp
 obtain ⟨WF,hWF⟩:∃WF,WF=(WE.setCell ⟨w.heap.size+1,0,none⟩ (.int .u64 (S:Int))).setCell ⟨w.heap.size+1,1,none⟩ (.slice xo cs.length xc):=⟨_,rfl⟩
 have gF:WF.heap[w.heap.size+1]?=some (.cells #[.int .u64 (S:Int),.slice xo cs.length xc] 88 (0,0)):=by
  rw [hWF]
  simp [World.setCell,Array.getElem?_modify,hbE]
 have gO:∀b,b≠w.heap.size+1→WF.heap[b]?=WE.heap[b]?:=fun b hb=>by
  rw [hWF,Below.heap_setCell _ _ _ _ hb,Below.heap_setCell _ _ _ _ hb]
 have hbF:Below w.heap.size w WF:=by
  have h1:=HW.out.trans ((HB3.out.trans (HBE.out.mono HB3.out.size)).mono (by omega))
  rw [hWF]
  exact (h1.setCell (by exact Nat.le_succ _) _).setCell (by exact Nat.le_succ _) _
 have hslF:Sl 0 70 WF (.slice xo cs.length xc) (u64s cs):=HSL.out.move fun b hl ht=>⟨gO b fun e=>by
  subst e
  rcases ht with ht | ⟨c,ht⟩
  ·omega
  ·rw [hbE] at ht; simp at ht,ht⟩
 have hcF:∀b i,b≠w.heap.size+1→WF.cell? ⟨b,i,none⟩=WE.cell? ⟨b,i,none⟩:=fun b i hb=>by simp [World.cell?,gO b hb]
 have hsz2:w.heap.size+2≤w2.heap.size:=by have:=HB2.out.size; omega
 have HSF:Hid (WF.cell? ⟨w.heap.size,0,none⟩=some (.int .u64 (S:Int))∧WF.cell? ⟨w2.heap.size,0,none⟩=some (.int .u64 (px:Int))∧WF.cell? ⟨g2,0,none⟩=some (.slice bo bl bc)):=by
  have h0:=HSS.out WE HBE.out
  rw [hcF _ _ (by omega),hcF _ _ (by omega),hcF _ _ (by omega)]
  exact h0
 have HFIN:Hid (Sl 0 70 WF (.slice xo cs.length xc) (u64s cs)∧Below w.heap.size w WF):=⟨hslF,hbF⟩
 rw [←hWF]
 refine hK.out _ _ HSF.out (fun hHeld=>?_)
 clear hK K hWF hslF hbF hcF gO cE0 cE1 fE0 fE1 hbE
 refine wpAnyH_done (by kernel_rfl) ?_ _
 clear hHeld
 go_wp2
 refine bodyPost_ret (v:=.agg #[.int .u64 (S:Int),.slice xo cs.length xc]) (by simp [results,Tryz.results67,go_sem,World.cell?,gF]) rfl ?_
 exact ⟨xo,xc,rfl,HFIN.out.1,HFIN.out.2⟩
end Go.Proofs.YtfhjjpiakffagaaGreatDoor
namespace Go.Proofs.YtfhjjpiakffagaaGreatDoor
open Go.RowKit Lin
attribute [local go_sem ↓] Go.wp_at_zero Go.wp_at_succ
theorem Tryz.infoF:(Tryz.prog.info? 88).map (fun i=>(i.zero,i.size,i.bytes))=some (some (.agg #[.int .u64 0,.slice none 0 0]),2,32):=by kernel_rfl
def encF (p:Nat×Value):List Value:=[.int .u64 (p.1:Nat),p.2]
theorem flat_get2:∀(m:List (Nat×Value)) (t:Nat),t < m.length*2→(m.flatMap encF)[t]?=(encF (m.getD (t / 2) (0,.slice none 0 0)))[t % 2]?
 | [],t,h=>by simp at h
 | x :: m,t,h=>by
  rw [List.flatMap_cons]
  by_cases ht:t < 2
  ·rw [List.getElem?_append_left (by simp [encF]; exact ht),Nat.div_eq_of_lt ht,Nat.mod_eq_of_lt ht]
   simp
  ·rw [List.getElem?_append_right (by simp [encF]; omega)]
   have ih:=flat_get2 m (t-2) (by simp at h; omega)
   have e1:(encF x).length=2:=rfl
   rw [e1,ih]
   have e2:t / 2=(t-2) / 2+1:=by omega
   have e3:t % 2=(t-2) % 2:=by omega
   rw [e2,e3]
   simp
theorem sl_grown {e:TypeId} {w w':World} {v:Value} {xs:List Value} {row:Option Nat} (h:Sl 0 e w v xs) (hg:w.grownBy w' row) (hne:∀g,row=some g→∀cur,w.heap[g]?≠some (.cells cur e (0,0))):Sl 0 e w' v xs:=by
 refine h.move fun b hl ht=>⟨hg.block b hl fun q=>?_,ht⟩
 rcases ht with ht | ⟨c,ht⟩
 ·omega
 ·exact hne b (by rw [q]) c ht
structure HrI (B:Nat) (w0:World) (v:Value) (F:List (Nat×List Nat)) (w:World):Prop where
 ex:∃cvs:List Value,cvs.length=F.length∧w.ownsRow B 88 2 v F.length (((F.map fun q=>q.1).zip cvs).flatMap encF)∧∀i,i < F.length→∃co cc,cvs.getD i (.slice none 0 0)=.slice co (F.getD i (0,[])).2.length cc∧Sl 0 70 w (.slice co (F.getD i (0,[])).2.length cc) (u64s (F.getD i (0,[])).2)
 bel:Below B w0 w
 lo:B≤w.heap.size
theorem HrI.nil (w0:World):HrI w0.heap.size w0 (.slice none 0 0) [] w0:=⟨⟨[],rfl,World.ownsRow_nil _ _ _ _,fun i h=>absurd h (by simp)⟩,Below.refl _ _,Nat.le_refl _⟩
theorem HrI.low {B:Nat} {w0 w w2:World} {v:Value} {F:List (Nat×List Nat)} (h:HrI B w0 v F w) (hb:Below w.heap.size w w2):HrI B w0 v F w2:=by
 obtain ⟨cvs,h1,h2,h3⟩:=h.ex
 refine ⟨⟨cvs,h1,owns_below2 h2 hb (Nat.le_refl _),fun i hi=>?_⟩,h.bel.trans (hb.mono h.lo),Nat.le_trans h.lo hb.size⟩
 obtain ⟨co,cc,k1,k2⟩:=h3 i hi
 exact ⟨co,cc,k1,k2.below hb (Nat.le_refl _)⟩
theorem HrI.read {B:Nat} {w0 w:World} {v:Value} {F:List (Nat×List Nat)} (h:HrI B w0 v F w):FlR w v F:=by
 obtain ⟨cvs,h1,h2,h3⟩:=h.ex
 obtain ⟨vo,vc,rfl⟩:∃vo vc,v=.slice vo F.length vc:=by
  rcases h2.2 with ⟨q1,q0⟩ | ⟨g,cap,cur,q,_⟩
  ·exact ⟨_,_,by rw [q1,q0]⟩
  ·exact ⟨_,_,q⟩
 refine ⟨vo,vc,rfl,fun X i hX hi=>?_⟩
 obtain ⟨g,hg⟩:∃g,vo=some ⟨g,0,none⟩:=by
  rcases h2.2 with ⟨_,q0⟩ | ⟨g,cap,cur,q,_⟩
  ·omega
  ·simp only [Value.slice.injEq,true_and] at q
   exact ⟨g,q.1⟩
 subst hg
 obtain ⟨co,cc,k1,k2⟩:=h3 i hi
 have hzl:((F.map fun q=>q.1).zip cvs).length=F.length:=by simp [h1]
 have hzi:((F.map fun q=>q.1).zip cvs).getD i (0,.slice none 0 0)=((F.getD i (0,[])).1,cvs.getD i (.slice none 0 0)):=by
  have hic:i < cvs.length:=by omega
  simp only [List.getD_eq_getElem?_getD]
  rw [List.getElem?_eq_getElem (show i < ((F.map fun q=>q.1).zip cvs).length by rw [hzl]; exact hi),List.getElem?_eq_getElem hi,List.getElem?_eq_getElem hic]
  simp
 have c0:w.cell? ⟨g,i*2,none⟩=some (.int .u64 ((F.getD i (0,[])).1:Nat)):=by
  rw [h2.cellAt _ (by omega),flat_get2 _ _ (by omega),show i*2 / 2=i by omega,show i*2 % 2=0 by omega,hzi]
  rfl
 have c1:w.cell? ⟨g,i*2+1,none⟩=some (.slice co (F.getD i (0,[])).2.length cc):=by
  rw [h2.cellAt _ (by omega),flat_get2 _ _ (by omega),show (i*2+1) / 2=i by omega,show (i*2+1) % 2=1 by omega,hzi,k1]
  rfl
 exact ⟨g,co,cc,rfl,(hX.cell (lt_of_cell c0)).trans c0,(hX.cell (lt_of_cell c1)).trans c1,k2.below hX (Nat.le_refl _)⟩
theorem HrI.box {B g:Nat} {w0 w:World} {v u:Value} {F:List (Nat×List Nat)} {cur:Array Value} {t:TypeId} (h:HrI B w0 v F w) (hg:g < B) (hb:w.heap[g]?=some (.cells cur t (0,0))) (ht:t≠70):FlR (w.setCell ⟨g,0,none⟩ u) v F:=by
 obtain ⟨cvs,h1,h2,h3⟩:=h.ex
 have hI:HrI 0 (w.setCell ⟨g,0,none⟩ u) v F (w.setCell ⟨g,0,none⟩ u):=by
  refine ⟨⟨cvs,h1,?_,fun i hi=>?_⟩,⟨rfl,rfl,rfl,Nat.le_refl _,fun _ _=>rfl⟩,Nat.zero_le _⟩
  ·have:=h2.kept (w':=w.setCell ⟨g,0,none⟩ u) (row:=some g) ⟨rfl,rfl,rfl,by simp [World.setCell],fun b _ hne=>Below.heap_setCell _ _ _ _ (fun e=>hne (by rw [e]))⟩ (by
    by_cases e:v.ownBlock=none
    ·exact Or.inl e
    ·refine Or.inr fun q=>?_
     have:=(h2.lt g q).1
     omega)
   exact this.mono (Nat.zero_le _)
  ·obtain ⟨co,cc,k1,k2⟩:=h3 i hi
   refine ⟨co,cc,k1,k2.move fun b hl hty=>⟨Below.heap_setCell _ _ _ _ (fun e=>?_),hty⟩⟩
   rcases hty with hty | ⟨c,hty⟩
   ·omega
   ·subst e
    rw [hb] at hty
    simp at hty
    exact ht hty.2
 exact hI.read
theorem HrI.push {B:Nat} {w0 w w2:World} {v v':Value} {F:List (Nat×List Nat)} {a:Nat} {cs:List Nat} {co:Option Addr} {cc:Nat} {cvs:List Value} (hbel:Below B w0 w) (hlo:B≤w.heap.size) (h1:cvs.length=F.length) (h2:w.ownsRow B 88 2 v F.length (((F.map fun q=>q.1).zip cvs).flatMap encF)) (h3:∀i,i < F.length→∃co cc,cvs.getD i (.slice none 0 0)=.slice co (F.getD i (0,[])).2.length cc∧Sl 0 70 w (.slice co (F.getD i (0,[])).2.length cc) (u64s (F.getD i (0,[])).2)) (hs:Sl 0 70 w (.slice co cs.length cc) (u64s cs)) {A:Obj}
  (ho:w2.ownsRow B 88 2 v' (F.length+1) ((((F.map fun q=>q.1).zip cvs).flatMap encF) ++ [.int .u64 (a:Int),.slice co cs.length cc])) (hg:(w.alloc A).grownBy w2 v.ownBlock):HrI B w0 v' (F ++ [(a,cs)]) w2:=by
 have hne:∀g,v.ownBlock=some g→∀cur,(w.alloc A).heap[g]?≠some (.cells cur 70 (0,0)):=fun g hgv cur hc=>by
  rcases (h2.alloc A).2 with ⟨q1,_⟩ | ⟨b,cap,cur',q1,_,q3,_⟩
  ·rw [q1] at hgv; simp [Value.ownBlock] at hgv
  ·rw [q1] at hgv
   simp [Value.ownBlock] at hgv
   subst hgv
   rw [q3] at hc
   simp at hc
 have hsl:∀{u xs},Sl 0 70 w u xs→Sl 0 70 w2 u xs:=fun hu=>sl_grown (hu.alloc A) hg hne
 refine ⟨⟨cvs ++ [.slice co cs.length cc],by simp [h1],?_,fun i hi=>?_⟩,(hbel.alloc hlo _).grown hg (by simp; omega) (fun x hx=>(h2.lt x hx).1),by have:=hg.size; simp at this; omega⟩
 ·have e:(((F ++ [(a,cs)]).map fun q=>q.1).zip (cvs ++ [.slice co cs.length cc])).flatMap encF=(((F.map fun q=>q.1).zip cvs).flatMap encF) ++ [.int .u64 (a:Int),.slice co cs.length cc]:=by
   rw [List.map_append,List.zip_append (by simp [h1]),List.flatMap_append]
   rfl
  rw [e,List.length_append]
  exact ho
 ·rw [List.length_append] at hi
  by_cases hlt:i < F.length
  ·obtain ⟨c1,c2,k1,k2⟩:=h3 i hlt
   have e1:(cvs ++ [Value.slice co cs.length cc]).getD i (.slice none 0 0)=cvs.getD i (.slice none 0 0):=by
    simp only [List.getD_eq_getElem?_getD]; rw [List.getElem?_append_left (by omega)]
   have e2:(F ++ [(a,cs)]).getD i (0,[])=F.getD i (0,[]):=by
    simp only [List.getD_eq_getElem?_getD]; rw [List.getElem?_append_left hlt]
   rw [e1,e2]
   exact ⟨c1,c2,k1,hsl k2⟩
  ·have hie:i=F.length:=by simp at hi; omega
   subst hie
   have e1:(cvs ++ [Value.slice co cs.length cc]).getD F.length (.slice none 0 0)=.slice co cs.length cc:=by
    simp only [List.getD_eq_getElem?_getD]; rw [List.getElem?_append_right (by omega),h1]; simp
   have e2:(F ++ [(a,cs)]).getD F.length (0,[])=(a,cs):=by
    simp only [List.getD_eq_getElem?_getD]; rw [List.getElem?_append_right (Nat.le_refl _)]; simp
   rw [e1,e2]
   exact ⟨co,cc,rfl,hsl hs⟩
end Go.Proofs.YtfhjjpiakffagaaGreatDoor
namespace Go.Proofs.YtfhjjpiakffagaaGreatDoor
open Go.RowKit Lin
attribute [local go_sem ↓] Go.wp_at_zero Go.wp_at_succ
theorem two_newV (W:World) (x y:Value) (t:TypeId):∀(j:Nat) (u:Value),[x,y][j]?=some u→(W.alloc (.cells #[x,y] t)).cell? (Addr.add ⟨W.heap.size,0,none⟩ j)=some u:=by
 intro j u h
 match j,h with
 | 0,h=>simp at h; subst h; simp [Addr.add]
 | 1,h=>simp at h; subst h; simp [Addr.add]
 | j+2,h=>simp at h
theorem two_oneV (a:Int) (o:Option Addr) (l c:Nat):∀u∈[Value.int .u64 a,.slice o l c],u.oneCell'=true:=by
 intro u hu
 simp only [List.mem_cons,List.not_mem_nil,or_false] at hu
 rcases hu with rfl | rfl <;> rfl
theorem filL_snoc {LV:Nat→List (List Int)} {order:List Int} {t k:Nat} (hk:k < (LV t).length):(filL LV order t).take (k+1)=(filL LV order t).take k ++ [(setN ((LV t).getD k []),pulS LV order t ((LV t).getD k []))]:=by
 have hk':k < (filL LV order t).length:=by unfold filL; simpa using hk
 rw [List.take_succ_eq_append_getElem hk']
 congr 1
 have e:(filL LV order t)[k]=(setN (LV t)[k],pulS LV order t (LV t)[k]):=by
  simp only [filL,List.getElem_map]
 have e2:(LV t).getD k []=(LV t)[k]:=by simp [hk]
 rw [e,e2]
structure LvP (LV:Nat→List (List Int)) (order:List Int) (n d:Nat):Prop where
 o:LvO LV order n
 one:∀g∈LV 1,(memL (setN g)).length=1
 more:∀t,t+2≤d+1→∀g∈LV (t+2),(memL (setN g)).length≠1
 top:∃face,LV (d+1)=[face]
set_option maxRecDepth 100000 in
set_option maxHeartbeats 3200000 in
theorem pulledP_any {LV:Nat→List (List Int)} {order:List Int} {n d:Nat} (h:LvP LV order n d) (hn:n≤10) (hd1:1≤d) (hd:d≤4) (face:List Int) (hone:LV (d+1)=[face]) (lo:Option Addr) (lc:Nat) (oo:Option Addr) (oc:Nat) (w:World) (hL:LvV w (.slice lo (d+2) lc) (d+2) LV) (hlc:d+2≤lc) (hO:Sl w.heap.size 3 w (.slice oo order.length oc) (ints order)) :
  Calls Tryz.prog 48 #[.slice lo (d+2) lc,.slice oo order.length oc] w fun e w'=>∃xo xc,e=.returned (.slice xo (pulS LV order (d+1) face).length xc)∧Sl 0 70 w' (.slice xo (pulS LV order (d+1) face).length xc) (u64s (pulS LV order (d+1) face))∧Below w.heap.size w w':=by
 obtain ⟨i3,hi3,hz30,hz31,hz32⟩:=info_parts Tryz.infoF
 obtain ⟨ao2,cap2,e,hr⟩:=hL.rows
 simp only [Value.slice.injEq,true_and] at e
 obtain ⟨rfl,rfl⟩:=e
 obtain ⟨lb,lf,_,_,rfl,_,_⟩:=hr w (d+1) (Below.refl _ _) (by omega)
 obtain ⟨W,hW⟩:∃W,W=(w.alloc (.cells #[.slice oo order.length oc] 22)).alloc (.cells #[.slice none 0 0] 86):=⟨_,rfl⟩
 have hbw:Below w.heap.size w W:=by rw [hW]; exact ((Below.refl _ _).alloc (Nat.le_refl _) _).alloc (by simp) _
 have hsW:W.heap.size=w.heap.size+2:=by rw [hW]; simp
 have b0:W.heap[w.heap.size]?=some (.cells #[.slice oo order.length oc] 22 (0,0)):=by rw [hW]; exact (two_heapF _ _ _).1
 have b1:W.heap[w.heap.size+1]?=some (.cells #[.slice none 0 0] 86 (0,0)):=by rw [hW]; exact (two_heapF _ _ _).2
 have HW:Hid (Below w.heap.size w W):=hbw
 have HWX:Hid (∀X,Below (w.heap.size+1) W X→Below w.heap.size w X):=fun X hX=>hbw.trans (hX.mono (by omega))
 have HOB:Hid (∀X,Below (w.heap.size+1) W X→X.cell? ⟨w.heap.size,0,none⟩=some (.slice oo order.length oc)):=fun X hX=>by
  have:=(hX.block _ (by omega)).trans b0
  simp [World.cell?,this]
 have HOX:Hid (∀X,Below (w.heap.size+1) W X→Sl X.heap.size 3 X (.slice oo order.length oc) (ints order)):=fun X hX=>(hO.below (HWX.out X hX) (Nat.le_refl _)).any (Nat.le_refl _)
 have HLV:Hid (∀X t,Below (w.heap.size+1) W X→t < d+1→∃ro rc,X.cell? ⟨lb,lf+1+t,none⟩=some (.slice ro (LV (t+1)).length rc)∧Mat X.heap.size 22 3 X (.slice ro (LV (t+1)).length rc) (LV (t+1))):=fun X t hX ht=>by
  obtain ⟨b,o,ro,rc,hb,hc,hm⟩:=hr X (t+1) (HWX.out X hX) (by omega)
  simp only [Option.some.injEq,Addr.mk.injEq,and_true] at hb
  obtain ⟨rfl,rfl⟩:=hb
  rw [show lf+(t+1)=lf+1+t by omega] at hc
  exact ⟨ro,rc,hc,hm⟩
 have HPU:Hid (∀X t k bv,Below (w.heap.size+1) W X→t < d+1→k < (LV (t+1)).length→(1≤t→FlR X bv (filL LV order t))→X.cell? ⟨w.heap.size+1,0,none⟩=some bv→Calls Tryz.prog 67 #[.int .u64 (setN ((LV (t+1)).getD k []):Nat),.pointer (some ⟨w.heap.size,0,none⟩),.pointer (some ⟨w.heap.size+1,0,none⟩)] X fun e w'=>∃co cc,e=.returned (.agg #[.int .u64 (setN ((LV (t+1)).getD k []):Nat),.slice co (pulS LV order (t+1) ((LV (t+1)).getD k [])).length cc])∧Sl 0 70 w' (.slice co (pulS LV order (t+1) ((LV (t+1)).getD k [])).length cc) (u64s (pulS LV order (t+1) ((LV (t+1)).getD k [])))∧Below X.heap.size X w'):=fun X t k bv hX ht hk hF hc=>by
  have hm:(LV (t+1)).getD k []∈LV (t+1):=by simp [hk]
  match t,ht,hF,hm with
  | 0,_,_,hm=>
   have hS:setN ((LV 1).getD k []) < 1024:=setN_lt10 _ fun x hx=>by have:=(h.o.row _ _ hm).2 x hx; omega
   exact pull1_any (setN ((LV 1).getD k [])) w.heap.size (w.heap.size+1) X hS (h.one _ hm)
  | t+1,ht,hF,hm=>
   exact pullN_any h.o hn t (by omega) _ hm (h.more t (by omega) _ hm) w.heap.size (w.heap.size+1) oo oc bv X (HOX.out X hX) (hF (by omega)) (HOB.out X hX) hc
 have HST:Hid (∀X t k v,t < d+1→k < (LV (t+1)).length→Sl X.heap.size 3 X v (ints ((LV (t+1)).getD k []))→Calls Tryz.prog 72 #[v] X fun e w'=>e=.returned (.int .u64 (setN ((LV (t+1)).getD k []):Nat))∧Below X.heap.size X w'):=fun X t k v ht hk hv=>by
  have hm:(LV (t+1)).getD k []∈LV (t+1):=by simp [hk]
  refine (setOf_any X.heap.size _ v X hv fun x hx=>by have:=(h.o.row _ _ hm).2 x hx; omega).mono ?_
  rintro e w' ⟨rfl,n,rfl⟩
  exact ⟨rfl,below_drewN (Below.refl _ _) n⟩
 have HLL:Hid (∀t,(LV t).length≤1024):=h.o.len
 have HSN:Hid (∀t k,k < (LV (t+1)).length→(filL LV order (t+1)).take (k+1)=(filL LV order (t+1)).take k ++ [(setN ((LV (t+1)).getD k []),pulS LV order (t+1) ((LV (t+1)).getD k []))]):=fun t k hk=>filL_snoc hk
 have HFL:Hid (∀t,(filL LV order t).length=(LV t).length):=fun t=>by unfold filL; simp
 have HTOP:Hid (filL LV order (d+1)=[(setN face,pulS LV order (d+1) face)]):=by
  show _=_
  unfold filL
  rw [hone]
  rfl
 have HB1:Hid (W.heap[w.heap.size+1]?=some (.cells #[.slice none 0 0] 86 (0,0))):=b1
 have hd2:((d+2:Nat):Int)-1=((d+1:Nat):Int):=by omega
 have hlc1:(1:Int)≤((d+2:Nat):Int):=by omega
 clear hL hr hO b0 b1 hbw hone
 go_enter Tryz.func48,Tryz.ntmps48
 go_upto_region 2 with fail
 rw [←hW]
 clear hW
 go_wp2
 go_loopw [16] (fun iv wr=>∃(i:Nat) (bv:Value),i≤d+1∧iv=.int .i64 (i:Int)∧Below (w.heap.size+1) W wr∧w.heap.size+2≤wr.heap.size∧wr.heap[w.heap.size+1]?=some (.cells #[bv] 86 (0,0))∧(1≤i→FlR wr bv (filL LV order i))) (fun iv _=>d+1-(intOf iv).toNat)
 case atStart=>exact ⟨0,.slice none 0 0,Nat.zero_le _,rfl,Below.refl _ _,by omega,HB1.out,fun hh=>absurd hh (by omega)⟩
 case round=>
  clear HB1
  obtain ⟨i,bv,hil,rfl,hbr,hsz,hbx,hfl⟩:=hrel
  have HBR:Hid (Below (w.heap.size+1) W wr):=hbr
  have HBX:Hid (wr.heap[w.heap.size+1]?=some (.cells #[bv] 86 (0,0))):=hbx
  have HFR:Hid (1≤i→FlR wr bv (filL LV order i)):=hfl
  clear hbr hbx hfl
  obtain ⟨wa,hwa⟩:∃wa,wa=wr:=⟨wr,rfl⟩
  rw [←hwa] at HBR HBX HFR hsz ⊢
  clear hwa wr
  by_cases hlt:i < d+1
  ·obtain ⟨ro,rc,hcl,hml⟩:=HLV.out wa i HBR.out hlt
   have HML:Hid (Mat wa.heap.size 22 3 wa (.slice ro (LV (i+1)).length rc) (LV (i+1))):=hml
   have hiI:(i:Int) < ((d+1:Nat):Int):=by omega
   have hiI2:(i:Int) < (d:Int)+1:=by omega
   have hll:=HLL.out (i+1)
   have HXA:Hid (∀X,Below wa.heap.size wa X→Below (w.heap.size+1) W X):=fun X hX=>HBR.out.trans (hX.mono (by omega))
   have HCB:Hid (∀X,Below wa.heap.size wa X→X.heap[w.heap.size+1]?=some (.cells #[bv] 86 (0,0))):=fun X hX=>(hX.block _ (by omega)).trans HBX.out
   clear hml
   go_wp2
   clear hcl
   go_loopw [9,22] (fun hv kv wq=>∃(k:Nat) (ho:Option Addr) (hc:Nat),k≤(LV (i+1)).length∧kv=.int .i64 (k:Int)∧hv=.slice ho k hc∧HrI wa.heap.size wa (.slice ho k hc) ((filL LV order (i+1)).take k) wq) (fun _ kv _=>(LV (i+1)).length-(intOf kv).toNat)
   case atStart=>exact ⟨0,none,0,Nat.zero_le _,rfl,rfl,HrI.nil wa⟩
   case round=>
    obtain ⟨k,ho,hc,hk,rfl,rfl,hH⟩:=hrel
    have HH:Hid (HrI wa.heap.size wa (.slice ho k hc) ((filL LV order (i+1)).take k) wr):=hH
    clear hH
    by_cases hlk:k < (LV (i+1)).length
    ·obtain ⟨qb,qo,qcp,q1,hqs,_,hqc,hq1⟩:=mat_cell ((HML.out.below HH.out.bel (Nat.le_refl _)).any (Nat.le_refl _)) hlk
     simp only [Value.slice.injEq,true_and] at hqs
     obtain ⟨rfl,rfl⟩:=hqs
     obtain ⟨go,gc,rfl,_,_⟩:=sl_open hq1
     have HSO:=HST.out wr i k _ hlt hlk hq1
     have hbk:=HCB.out wr HH.out.bel
     have HPX:Hid (∀X,Below wr.heap.size wr X→Calls Tryz.prog 67 #[.int .u64 (setN ((LV (i+1)).getD k []):Nat),.pointer (some ⟨w.heap.size,0,none⟩),.pointer (some ⟨w.heap.size+1,0,none⟩)] X fun e w'=>∃co cc,e=.returned (.agg #[.int .u64 (setN ((LV (i+1)).getD k []):Nat),.slice co (pulS LV order (i+1) ((LV (i+1)).getD k [])).length cc])∧Sl 0 70 w' (.slice co (pulS LV order (i+1) ((LV (i+1)).getD k [])).length cc) (u64s (pulS LV order (i+1) ((LV (i+1)).getD k [])))∧Below X.heap.size X w'):=fun X hX=>by
      have hXa:Below wa.heap.size wa X:=HH.out.bel.trans (hX.mono HH.out.lo)
      refine HPU.out X i k bv (HXA.out X hXa) hlt hlk (fun h1=>(HFR.out h1).low hXa) ?_
      have:=HCB.out X hXa
      simp [World.cell?,this]
     have HFS:Hid ((filL LV order (i+1)).take (k+1)=(filL LV order (i+1)).take k ++ [(setN ((LV (i+1)).getD k []),pulS LV order (i+1) ((LV (i+1)).getD k []))]):=HSN.out i k hlk
     have HTL:Hid (((filL LV order (i+1)).take k).length=k):=by
      show _=_
      rw [List.length_take,HFL.out]
      omega
     have hkI:(k:Int) < ((LV (i+1)).length:Int):=by omega
     clear hq1
     generalize setN ((LV (i+1)).getD k [])=S at *
     generalize pulS LV order (i+1) ((LV (i+1)).getD k [])=cs at *
     generalize ((LV (i+1)).getD k []).length=gl at *
     go_wp2_with fail
     refine HSO.mono ?_
     rintro e w2 ⟨rfl,hb2⟩
     have HB2:Hid (Below wr.heap.size wr w2):=hb2
     clear hb2 HSO
     go_wp2_with fail
     refine (HPX.out w2 HB2.out).mono ?_
     rintro e w3 ⟨co,cc,rfl,hsl,hb3⟩
     have h3:=HH.out.low (HB2.out.trans (hb3.mono HB2.out.size))
     obtain ⟨cvs,e1,e2,e3⟩:=h3.ex
     rw [HTL.out] at e1 e2
     have E1:Hid (cvs.length=k):=e1
     have E2:Hid (w3.ownsRow wa.heap.size 88 2 (.slice ho k hc) k ((((((filL LV order (i+1)).take k).map fun q=>q.1).zip cvs).flatMap encF))):=e2
     have E3:Hid (∀i_1,i_1 < ((filL LV order (i+1)).take k).length→∃co cc,cvs.getD i_1 (.slice none 0 0)=.slice co (((filL LV order (i+1)).take k).getD i_1 (0,[])).2.length cc∧Sl 0 70 w3 (.slice co (((filL LV order (i+1)).take k).getD i_1 (0,[])).2.length cc) (u64s (((filL LV order (i+1)).take k).getD i_1 (0,[])).2)):=e3
     have HSL:Hid (Sl 0 70 w3 (.slice co cs.length cc) (u64s cs)):=hsl
     have HB3:Hid (Below wa.heap.size wa w3):=h3.bel
     have hlo3:=h3.lo
     clear h3 e1 e2 e3 hsl hb3 HPX hbk hqc
     generalize hcl3:cs.length=cl at *
     have HCL3:Hid (cs.length=cl):=hcl3
     clear hcl3
     go_wp2_with (first | (at_builtin; refine wpList_append_own _ rfl _ _ 86 rfl wa.heap.size 88 i3 (.agg #[.int .u64 0,.slice none 0 0]) 2 32 Tryz.underlying86 hi3 hz30 hz31 hz32 rfl (by decide) _ _ _ rfl (E2.out.alloc _) ⟨w3.heap.size,0,none⟩ 1 1 [.int .u64 (S:Int),.slice co cl cc] rfl rfl (two_newV _ _ _ _) (two_oneV _ _ _ _) ?d3 ?d4 ?d5 ?_))
     case d3=>unfold maxLen; omega
     case d4=>omega
     case d5=>first | exact hlo3 | omega | (simp; omega)
     intro v' w4 ho4 hg4 _
     have hp:=HrI.push (a:=S) (cs:=cs) (co:=co) (cc:=cc) (F:=(filL LV order (i+1)).take k) (v:=.slice ho k hc) HB3.out hlo3 (by rw [HTL.out]; exact E1.out) (by rw [HTL.out]; exact E2.out) E3.out (by rw [HCL3.out]; exact HSL.out) (by rw [HTL.out,HCL3.out,List.map_take]; exact ho4) hg4
     rw [←HFS.out] at hp
     obtain ⟨vo,vc,hv'⟩:∃vo vc,v'=.slice vo (k+1) vc:=by
      rcases ho4.2 with ⟨q1,q0⟩ | ⟨g,cap,cur,q,_⟩
      ·exact absurd q0 (by omega)
      ·exact ⟨_,_,q⟩
     subst hv'
     have R1:Hid (HrI wa.heap.size wa (.slice vo (k+1) vc) ((filL LV order (i+1)).take (k+1)) w4):=hp
     clear hp ho4 hg4
     go_wp2
     go_roundw
     case rel=>exact ⟨k+1,vo,vc,by omega,by go_num,rfl,R1.out⟩
     case measure=>simp [intOf]; omega
    ·have hke:k=(LV (i+1)).length:=by omega
     subst hke
     have hHf:=HH.out
     rw [show (LV (i+1)).length=(filL LV order (i+1)).length from (HFL.out (i+1)).symm,List.take_length] at hHf
     have hbk:=HCB.out wr HH.out.bel
     have hck:wr.cell? ⟨w.heap.size+1,0,none⟩=some bv:=by simp [World.cell?,hbk]
     have hfk:wr.frozen? ⟨w.heap.size+1,0,none⟩=false:=by simp [World.frozen?,hbk]
     have HFI:Hid (∀hv,hv=.slice ho (LV (i+1)).length hc→FlR (wr.setCell ⟨w.heap.size+1,0,none⟩ hv) hv (filL LV order (i+1))∧Below (w.heap.size+1) W (wr.setCell ⟨w.heap.size+1,0,none⟩ hv)∧w.heap.size+2≤(wr.setCell ⟨w.heap.size+1,0,none⟩ hv).heap.size∧(wr.setCell ⟨w.heap.size+1,0,none⟩ hv).heap[w.heap.size+1]?=some (.cells #[hv] 86 (0,0))):=fun hv hhv=>by
      have q:=hHf.box (g:=w.heap.size+1) (u:=hv) (by omega) hbk (by decide)
      rw [(HFL.out (i+1)),←hhv] at q
      refine ⟨q,(HXA.out wr HH.out.bel).setCell (by exact Nat.le_refl _) _,?_,by simp [World.setCell,Array.getElem?_modify,hbk]⟩
      have:=HH.out.lo
      simp [World.setCell]
      omega
     clear hHf hbk HH hlk hk
     obtain ⟨r1,r2,r3,r4⟩:=HFI.out _ rfl
     have R1:Hid (FlR (wr.setCell ⟨w.heap.size+1,0,none⟩ (.slice ho (LV (i+1)).length hc)) (.slice ho (LV (i+1)).length hc) (filL LV order (i+1))):=r1
     have R2:Hid (Below (w.heap.size+1) W (wr.setCell ⟨w.heap.size+1,0,none⟩ (.slice ho (LV (i+1)).length hc))):=r2
     have R3:Hid (w.heap.size+2≤(wr.setCell ⟨w.heap.size+1,0,none⟩ (.slice ho (LV (i+1)).length hc)).heap.size):=r3
     have R4:Hid ((wr.setCell ⟨w.heap.size+1,0,none⟩ (.slice ho (LV (i+1)).length hc)).heap[w.heap.size+1]?=some (.cells #[.slice ho (LV (i+1)).length hc] 86 (0,0))):=r4
     clear r1 r2 r3 r4 HFI
     go_wp2
     exact ⟨⟨i+1,_,by omega,by go_num,R2.out,R3.out,R4.out,fun _=>R1.out⟩,by simp [intOf]; omega⟩
  ·have hie:i=d+1:=by omega
   subst hie
   have hF:=HFR.out (by omega)
   rw [HTOP.out] at hF
   obtain ⟨ao,cap,rfl,hrd⟩:=hF
   obtain ⟨g,co,cc,rfl,d0,d1,d2⟩:=hrd wa 0 (Below.refl _ _) (by simp)
   have d1':wa.cell? ⟨g,1,none⟩=some (.slice co (pulS LV order (d+1) face).length cc):=d1
   have HSL:Hid (Sl 0 70 wa (.slice co (pulS LV order (d+1) face).length cc) (u64s (pulS LV order (d+1) face))):=d2
   have hbk:wa.cell? ⟨w.heap.size+1,0,none⟩=some (.slice (some ⟨g,0,none⟩) 1 cap):=by
    have:=HBX.out
    simp [World.cell?,this]
   have HBF:Hid (Below w.heap.size w wa):=HWX.out wa HBR.out
   clear hrd d0 d1 d2 HBX HFR
   generalize hcl3:(pulS LV order (d+1) face).length=cl at *
   have HCL3:Hid ((pulS LV order (d+1) face).length=cl):=hcl3
   clear hcl3
   go_wp2
   go_ret
   exact ⟨co,cc,by rw [HCL3.out]; rfl,by rw [HCL3.out]; exact HSL.out,HBF.out⟩
end Go.Proofs.YtfhjjpiakffagaaGreatDoor
