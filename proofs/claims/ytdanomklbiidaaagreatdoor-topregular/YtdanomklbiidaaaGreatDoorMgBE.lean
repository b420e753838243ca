import Derived.Test.YtdanomklbiidaaaGreatDoorMgBD
import Derived.Test.YtdanomklbiidaaaGreatDoorFc2
import Derived.Test.YtdanomklbiidaaaGreatDoorMgAF
import Derived.Test.YtdanomklbiidaaaGreatDoorMgAN
namespace Go.Proofs.YtdanomklbiidaaaGreatDoor
open Go.RowKit Lin
attribute [local go_sem ↓] Go.wp_at_zero Go.wp_at_succ
def FlR (w:World) (v:Value) (F:List (Nat×List Nat)):Prop:=
 ∃ao cap,v=.slice ao F.length cap∧∀X i,Below w.heap.size w X→i < F.length→∃g co cc,ao=some ⟨g,0,none⟩∧X.cell? ⟨g,i*2,none⟩=some (.int .u64 ((F.getD i (0,[])).1:Nat))∧X.cell? ⟨g,i*2+1,none⟩=some (.slice co (F.getD i (0,[])).2.length cc)∧Sl 0 70 X (.slice co (F.getD i (0,[])).2.length cc) (u64s (F.getD i (0,[])).2)
theorem FlR.low {w X:World} {v:Value} {F:List (Nat×List Nat)} (h:FlR w v F) (hb:Below w.heap.size w X):FlR X v F:=by
 obtain ⟨ao,cap,hv,h1⟩:=h
 exact ⟨ao,cap,hv,fun Y i hY hi=>h1 Y i (hb.trans (hY.mono hb.size)) hi⟩
def wnB (S f a:Nat):Bool:=decide (a &&& S=a) && !a.testBit f
def putL (px S f:Nat) (F:List (Nat×List Nat)):List Nat:=F.flatMap fun q=>if wnB S f q.1 then q.2.map fun c=>px ||| c else []
theorem putL_snoc {px S f:Nat} {F:List (Nat×List Nat)} {i:Nat} (hi:i < F.length):putL px S f (F.take (i+1))=putL px S f (F.take i) ++ if wnB S f (F.getD i (0,[])).1 then (F.getD i (0,[])).2.map fun c=>px ||| c else []:=by
 unfold putL
 rw [List.take_succ_eq_append_getElem hi,List.flatMap_append]
 simp [hi]
set_option maxRecDepth 100000 in
set_option maxHeartbeats 800000 in
theorem apart_any (a S f g1 g2:Nat) (co:Option Addr) (cl cc:Nat) (w:World) (ha:a < 18446744073709551616) (hS:S < 18446744073709551616) (hf:f≤63) (h1:w.cell? ⟨g1,0,none⟩=some (.int .u64 (S:Int))) (h2:w.cell? ⟨g2,0,none⟩=some (.int .u64 ((2 ^ f:Nat):Int))) :
  Calls Tryz.prog 65 #[.agg #[.int .u64 (a:Int),.slice co cl cc],.pointer (some ⟨g1,0,none⟩),.pointer (some ⟨g2,0,none⟩)] w fun e w'=>e=.returned (.bool (wnB S f a))∧Below w.heap.size w w':=by
 have hpf:2 ^ f < 18446744073709551616:=Nat.lt_of_le_of_lt (Nat.pow_le_pow_right (by decide) hf) (by decide)
 obtain ⟨W,hW⟩:∃W,W=w.alloc (.cells #[.int .u64 (a:Int),.slice co cl cc] 92):=⟨_,rfl⟩
 have hbw:Below w.heap.size w W:=by rw [hW]; exact alloc_keep _ _
 have HW:Hid (Below w.heap.size w W):=hbw
 have c0:W.cell? ⟨w.heap.size,0,none⟩=some (.int .u64 (a:Int)):=by rw [hW]; simp
 have c1:=(hbw.cell (lt_of_cell h1)).trans h1
 have c2:=(hbw.cell (lt_of_cell h2)).trans h2
 have H1:Hid (Calls Tryz.prog 61 #[.int .u64 (a:Int),.int .u64 (S:Int)] W fun e w'=>e=.returned (.bool (decide (a &&& S=a)))∧w'=W):=by
  have h:=in_any a S W ha hS
  rw [out_sub] at h
  exact h
 have H2:Hid (Calls Tryz.prog 61 #[.int .u64 ((2 ^ f:Nat):Int),.int .u64 (a:Int)] W fun e w'=>e=.returned (.bool (a.testBit f))∧w'=W):=by
  have h:=in_any (2 ^ f) a W hpf ha
  rw [out_one] at h
  exact h
 have HB:Hid (wnB S f a=(decide (a &&& S=a) && !a.testBit f)):=rfl
 generalize wnB S f a=R at *
 generalize decide (a &&& S=a)=b1 at *
 generalize a.testBit f=b2 at *
 generalize 2 ^ f=pf at *
 clear h1 h2 hbw
 go_enter Tryz.func65,Tryz.ntmps65
 go_upto_region 1 with fail
 rw [←hW]
 clear hW
 go_wp2_with fail
 refine H1.out.mono ?_
 rintro e w1 ⟨rfl,rfl⟩
 cases b1
 ·have HR:Hid (R=false):=HB.out
  go_wp2
  go_ret
  exact ⟨ret_bool HR.out.symm,HW.out⟩
 ·have HR:Hid (R=!b2):=HB.out
  go_wp2_with fail
  refine H2.out.mono ?_
  rintro e w2 ⟨rfl,rfl⟩
  go_wp2
  go_ret
  exact ⟨ret_bool HR.out.symm,HW.out⟩
set_option maxRecDepth 100000 in
set_option maxHeartbeats 1600000 in
theorem putToCells_any (px S f g1 g2:Nat) (F:List (Nat×List Nat)) (v:Value) (w:World) (hF:FlR w v F) (hFa:∀q∈F,q.1 < 1024∧∀c∈q.2,c < 1024) (hpx:px < 1024) (hS:S < 1024) (hf:f≤63) (h1:w.cell? ⟨g1,0,none⟩=some (.int .u64 (S:Int))) (h2:w.cell? ⟨g2,0,none⟩=some (.int .u64 ((2 ^ f:Nat):Int)))
  (hln:F.length≤1024) (hcl:∀q∈F,q.2.length≤1099511627776) (hpl:∀i,(putL px S f (F.take i)).length≤1099511627776) :
  Calls Tryz.prog 66 #[.int .u64 (px:Int),v,.func (.func 65) #[] #[.pointer (some ⟨g1,0,none⟩),.pointer (some ⟨g2,0,none⟩)]] w fun e w'=>∃xo xc,e=.returned (.slice xo (putL px S f F).length xc)∧w'.ownsRow w.heap.size 70 1 (.slice xo (putL px S f F).length xc) (putL px S f F).length (u64s (putL px S f F))∧Below w.heap.size w w':=by
 obtain ⟨i3,hi3,hz30,hz31,hz32⟩:=info_parts Tryz.infoS
 have HFL:Hid (FlR w v F):=hF
 obtain ⟨ao,cap,rfl,hrd⟩:=hF
 have HRD:Hid (∀X i,Below w.heap.size w X→i < F.length→∃g co cc,ao=some ⟨g,0,none⟩∧X.cell? ⟨g,i*2,none⟩=some (.int .u64 ((F.getD i (0,[])).1:Nat))∧X.cell? ⟨g,i*2+1,none⟩=some (.slice co (F.getD i (0,[])).2.length cc)∧Sl 0 70 X (.slice co (F.getD i (0,[])).2.length cc) (u64s (F.getD i (0,[])).2)):=hrd
 have HAP:Hid (∀X i co cc,Below w.heap.size w X→i < F.length→Calls Tryz.prog 65 #[.agg #[.int .u64 ((F.getD i (0,[])).1:Nat),.slice co (F.getD i (0,[])).2.length cc],.pointer (some ⟨g1,0,none⟩),.pointer (some ⟨g2,0,none⟩)] X fun e w'=>e=.returned (.bool (wnB S f (F.getD i (0,[])).1))∧Below X.heap.size X w'):=fun X i co cc hX hi=>by
  have ha:=(hFa (F.getD i (0,[])) (by simp [hi])).1
  exact apart_any _ S f g1 g2 co _ cc X (by omega) (by omega) hf ((hX.cell (lt_of_cell h1)).trans h1) ((hX.cell (lt_of_cell h2)).trans h2)
 have HFA:Hid (∀q∈F,q.1 < 1024∧∀c∈q.2,c < 1024):=hFa
 have HCL:Hid (∀q∈F,q.2.length≤1099511627776):=hcl
 have HPL:Hid (∀i,(putL px S f (F.take i)).length≤1099511627776):=hpl
 have HSN:Hid (∀i,i < F.length→putL px S f (F.take (i+1))=putL px S f (F.take i) ++ if wnB S f (F.getD i (0,[])).1 then (F.getD i (0,[])).2.map fun c=>px ||| c else []):=fun i hi=>putL_snoc hi
 clear hrd h1 h2 hFa hcl hpl
 go_enter Tryz.func66,Tryz.ntmps66
 go_wp2
 go_loopw [7,14] (fun x iv wr=>∃(i:Nat) (xo:Option Addr) (xc:Nat),i≤F.length∧iv=.int .i64 (i:Int)∧x=.slice xo (putL px S f (F.take i)).length xc∧wr.ownsRow w.heap.size 70 1 (.slice xo (putL px S f (F.take i)).length xc) (putL px S f (F.take i)).length (u64s (putL px S f (F.take i)))∧Below w.heap.size w wr) (fun _ iv _=>F.length-(intOf iv).toNat)
 case atStart=>exact ⟨0,none,0,Nat.zero_le _,rfl,rfl,World.ownsRow_nil _ _ _ _,Below.refl _ _⟩
 case round=>
  obtain ⟨i,xo,xc,hil,rfl,rfl,ho,hbr⟩:=hrel
  have HO:Hid (wr.ownsRow w.heap.size 70 1 (.slice xo (putL px S f (F.take i)).length xc) (putL px S f (F.take i)).length (u64s (putL px S f (F.take i)))):=ho
  have HBR:Hid (Below w.heap.size w wr):=hbr
  clear ho hbr
  by_cases hlt:i < F.length
  ·obtain ⟨g,co,cc,hao,hc0w,hc1w,hcs⟩:=HRD.out w i (Below.refl _ _) hlt
   have hc0:=(HBR.out.cell (lt_of_cell hc0w)).trans hc0w
   have hc1:=(HBR.out.cell (lt_of_cell hc1w)).trans hc1w
   have hqm:F.getD i (0,[])∈F:=by simp [hlt]
   have HQA:Hid (∀c∈(F.getD i (0,[])).2,c < 1024):=(HFA.out _ hqm).2
   have HQL:Hid ((F.getD i (0,[])).2.length≤1099511627776):=HCL.out _ hqm
   have HSU:Hid (putL px S f (F.take (i+1))=putL px S f (F.take i) ++ if wnB S f (F.getD i (0,[])).1 then (F.getD i (0,[])).2.map fun c=>px ||| c else []):=HSN.out i hlt
   have HML:Hid ((putL px S f (F.take i)).length≤1099511627776):=HPL.out i
   have HCS:Hid (∀X k,Below w.heap.size w X→k < (F.getD i (0,[])).2.length→∃cb cf,co=some ⟨cb,cf,none⟩∧X.cell? ⟨cb,cf+k,none⟩=some (.int .u64 (((F.getD i (0,[])).2.getD k 0:Nat):Int))):=fun X k hX hk=>by
    obtain ⟨a1,a2,a3,_,_,a6,_⟩:=hcs.below hX (Nat.le_refl _)
    simp only [Value.slice.injEq] at a3
    obtain ⟨b,o,b1,b2,_⟩:=a6 k (by rw [u64s_len]; exact hk)
    refine ⟨b,o,a3.1.trans b1,?_⟩
    rw [b2]
    generalize (F.getD i (0,[])).2=qq at *
    simp [u64s,hk]
   have hiI:(i:Int) < (F.length:Int):=by omega
   obtain ⟨WB,hWB⟩:∃WB,WB=wr.alloc (.cells #[.int .u64 ((F.getD i (0,[])).1:Nat),.slice co (F.getD i (0,[])).2.length cc] 92):=⟨_,rfl⟩
   have hbb:Below wr.heap.size wr WB:=by rw [hWB]; exact alloc_keep _ _
   have hBB:WB.heap[wr.heap.size]?=some (.cells #[.int .u64 ((F.getD i (0,[])).1:Nat),.slice co (F.getD i (0,[])).2.length cc] 92 (0,0)):=by rw [hWB]; exact alloc_at _ _
   have HBX:Hid (∀X,Below WB.heap.size WB X→X.cell? ⟨wr.heap.size,0,none⟩=some (.int .u64 ((F.getD i (0,[])).1:Nat))∧X.cell? ⟨wr.heap.size,1,none⟩=some (.slice co (F.getD i (0,[])).2.length cc)):=fun X h=>by
    have:=(h.block _ (lt_of_block hBB)).trans hBB
    simp [World.cell?,this]
   have HAI:=HAP.out WB i co cc (HBR.out.trans (hbb.mono HBR.out.size)) hlt
   have HBB:Hid (Below wr.heap.size wr WB):=hbb
   subst hao
   clear hcs hqm hBB hbb hc0w hc1w
   generalize F.getD i (0,[])=q at *
   obtain ⟨m1,hm1⟩:∃m1,m1=putL px S f (F.take (i+1)):=⟨_,rfl⟩
   have HM1:Hid (m1=putL px S f (F.take (i+1))):=hm1
   rw [←hm1] at HSU
   clear hm1
   generalize putL px S f (F.take i)=m at *
   obtain ⟨q1,q2⟩:=q
   simp only at *
   obtain ⟨y0,y1⟩:=HBX.out WB (Below.refl _ _)
   go_wp2_with fail
   rw [←hWB]
   clear hWB
   refine HAI.mono ?_
   rintro e w2 ⟨rfl,hb2⟩
   have HB2:Hid (Below WB.heap.size WB w2):=hb2
   have HR2:Hid (Below wr.heap.size wr w2):=HBB.out.trans (hb2.mono HBB.out.size)
   clear hb2 y0 y1 hc0 hc1
   obtain ⟨y0,y1⟩:=HBX.out w2 HB2.out
   cases hwn:wnB S f q1
   ·rw [hwn] at HSU
    have HNX:Hid (m1=m):=by
     have e:=HSU.out
     show m1=m
     simpa using e
    have HOF:Hid (w2.ownsRow w.heap.size 70 1 (.slice xo m1.length xc) m1.length (u64s m1)∧Below w.heap.size w w2):=by
     rw [HNX.out]
     exact ⟨owns_below HO.out HR2.out (Nat.le_refl _),HBR.out.trans (HR2.out.mono HBR.out.size)⟩
    rw [←HNX.out]
    clear HO hwn
    go_wp2
    exact ⟨⟨i+1,xo,xc,by omega,by go_num,by rw [←HM1.out],by rw [←HM1.out]; exact HOF.out.1,HOF.out.2⟩,by simp [intOf]; omega⟩
   ·rw [hwn] at HSU
    have HNX:Hid (m1=m ++ q2.map fun c=>px ||| c):=by
     have e:=HSU.out
     show m1=m ++ q2.map fun c=>px ||| c
     simpa using e
    have HO2:Hid (w2.ownsRow w.heap.size 70 1 (.slice xo m.length xc) m.length (u64s m)):=owns_below HO.out HR2.out (Nat.le_refl _)
    have HBW:Hid (Below w.heap.size w w2):=HBR.out.trans (HR2.out.mono HBR.out.size)
    clear HO hwn HSU
    go_wp2
    have HML2:Hid ((q2.map fun c=>px ||| c).length=q2.length):=by show _=_; simp
    have HQM:Hid (∀k,k < q2.length→(q2.map fun c=>px ||| c).getD k 0=(px ||| q2.getD k 0:Nat)):=fun k hk=>by simp [hk]
    generalize (q2.map fun c=>px ||| c)=qm at *
    have hq2:q2.length≤1099511627776:=HQL.out
    go_loopw [7,25] (fun x kv wq=>∃(k:Nat) (ao:Option Addr) (ac:Nat),k≤q2.length∧kv=.int .i64 (k:Int)∧x=.slice ao (m.length+k) ac∧wq.ownsRow w.heap.size 70 1 (.slice ao (m.length+k) ac) (m.length+k) (u64s (m ++ qm.take k))∧Below w.heap.size w wq) (fun _ kv _=>q2.length-(intOf kv).toNat)
    case atStart=>exact ⟨0,xo,xc,Nat.zero_le _,rfl,rfl,by simpa using HO2.out,HBW.out⟩
    case round=>
     obtain ⟨k,ao,ac,hk,rfl,rfl,hok,hbk⟩:=hrel
     obtain ⟨ol,hol⟩:∃ol,ol=m.length+k:=⟨_,rfl⟩
     rw [←hol] at hok ⊢
     have HOK:Hid (wr.ownsRow w.heap.size 70 1 (.slice ao ol ac) ol (u64s (m ++ qm.take k))):=hok
     have HBK:Hid (Below w.heap.size w wr):=hbk
     have HOL:Hid (ol=m.length+k):=hol
     have hol2:ol≤2199023255552:=by have:=HQL.out; have:=HML.out; omega
     clear hok hbk hol HO2 HBW
     by_cases hlk:k < q2.length
     ·obtain ⟨cb,cf,hco,hcc⟩:=HCS.out wr k HBK.out hlk
      have hc10:=HQA.out (q2.getD k 0) (by simp [hlk])
      have hor:bits .or .u64 (px:Int) ((q2.getD k 0:Nat):Int)=((px ||| q2.getD k 0:Nat):Int):=bits_or_u64_nat _ _ (by omega) (by omega)
      have HTK:Hid (qm.take (k+1)=qm.take k ++ [px ||| q2.getD k 0]):=by
       show _=_
       rw [List.take_succ_eq_append_getElem (by rw [HML2.out]; exact hlk)]
       have h1:=HQM.out k hlk
       have h2:qm.getD k 0=qm[k]'(by rw [HML2.out]; exact hlk):=by simp [HML2.out,hlk]
       rw [←h2,h1]
      have hkI:(k:Int) < (q2.length:Int):=by omega
      have hszk:=HBK.out.size
      subst hco
      generalize q2.getD k 0=ck at *
      generalize (px ||| ck:Nat)=pc at *
      go_wp2_with (first | (at_builtin; refine wpList_append_own _ rfl _ _ 67 rfl w.heap.size 70 i3 (.int .u64 0) 1 8 Tryz.underlying67 hi3 hz30 hz31 hz32 rfl (by decide) _ _ _ rfl (HOK.out.alloc _) ⟨wr.heap.size,0,none⟩ 1 1 [.int .u64 (pc:Int)] rfl rfl (one_new _ _ _) (one_u64 _) ?d3 ?d4 ?d5 ?_))
      case d3=>unfold maxLen; omega
      case d4=>omega
      case d5=>first | exact hszk | omega | (simp; omega)
      intro v' w3 ho3 hg3 _
      obtain ⟨vo,vc,hv3⟩:=owns_form ho3
      subst hv3
      have R1:Hid (w3.ownsRow w.heap.size 70 1 (.slice vo (ol+1) vc) (ol+1) (u64s (m ++ qm.take (k+1)))):=by
       rw [HTK.out]
       have e:u64s (m ++ (qm.take k ++ [pc]))=u64s (m ++ qm.take k) ++ [.int .u64 (pc:Int)]:=by simp [u64s]
       show World.ownsRow _ _ _ _ _ _ _
       rw [e]
       exact ho3
      have R2:Hid (Below w.heap.size w w3):=(HBK.out.alloc hszk _).grown hg3 (by simp; omega) (fun x hx=>(HOK.out.lt x hx).1)
      clear ho3 hg3
      go_wp2
      go_roundw
      case rel=>exact ⟨k+1,vo,vc,by omega,by go_num,by rw [HOL.out]; rfl,by have h:=R1.out; rw [HOL.out] at h; exact h,R2.out⟩
      case measure=>simp [intOf]; omega
     ·have hke:k=q2.length:=by omega
      subst hke
      have HFI:Hid (wr.ownsRow w.heap.size 70 1 (.slice ao m1.length ac) m1.length (u64s m1)∧ol=m1.length):=by
       have h:=HOK.out
       rw [←HML2.out,List.take_length,←HNX.out] at h
       have e:ol=m1.length:=by rw [HNX.out,HOL.out,List.length_append,HML2.out]
       rw [e] at h
       exact ⟨h,e⟩
      have hoe:=HFI.out.2
      subst hoe
      clear HOK HOL
      go_wp2
      exact ⟨⟨i+1,ao,ac,by omega,by go_num,by rw [←HM1.out],by rw [←HM1.out]; exact HFI.out.1,HBK.out⟩,by simp [intOf]; omega⟩
  ·have hie:i=F.length:=by omega
   subst hie
   have HFI:Hid (wr.ownsRow w.heap.size 70 1 (.slice xo (putL px S f F).length xc) (putL px S f F).length (u64s (putL px S f F))):=by
    have h:=HO.out
    rw [List.take_length] at h
    exact h
   rw [List.take_length]
   clear HO hlt
   go_wp2
   go_ret
   exact ⟨xo,xc,rfl,HFI.out,HBR.out⟩
end Go.Proofs.YtdanomklbiidaaaGreatDoor

namespace Go.Proofs.YtdanomklbiidaaaGreatDoor
open Go.RowKit Lin
attribute [local go_sem ↓] Go.wp_at_zero Go.wp_at_succ
set_option maxRecDepth 100000 in
theorem setN_mem10:∀s,s < 1024→setN (memTo s 10)=s:=by decide +kernel
theorem mem10_L {s:Nat} (h:s < 1024):memTo s 10=memL s:=memL_top (s:=s) (i:=10) h (by omega)
theorem memL_b64 (s:Nat):B64 (memL s):=fun x hx=>by
 unfold memL memTo at hx
 simp only [List.mem_map,List.mem_filter,List.mem_range] at hx
 obtain ⟨i,⟨h1,_⟩,rfl⟩:=hx
 omega
theorem memL_ris (s:Nat):Ris (memL s):=by
 unfold memL memTo Ris
 rw [List.pairwise_map]
 refine List.Pairwise.filter _ ?_
 exact (List.pairwise_lt_range (n:=64)).imp (fun h=>by omega)
set_option maxRecDepth 100000 in
theorem ones10_any (x:Nat) (hx:x < 1024) (w:World) :
  Calls Tryz.prog 93 #[.int .u64 x] w fun e w'=>e=.returned (.int .i64 (memTo x 10).length)∧w'=w:=by
 go_enter Tryz.func93,Tryz.ntmps93
 go_wp2
 go_ret
 refine ⟨ret_int ?_,rfl⟩
 clear w
 revert x
 decide +kernel
set_option maxRecDepth 100000 in
theorem len10_any (x:Nat) (hx:x < 1024) (w:World) :
  Calls Tryz.prog 63 #[.int .u64 x] w fun e w'=>e=.returned (.int .i64 (memL x).length)∧w'=w:=by
 have HO:Hid (Calls Tryz.prog 93 #[.int .u64 x] w fun e w'=>e=.returned (.int .i64 (memL x).length)∧w'=w):=by
  have h:=ones10_any x hx w
  rw [mem10_L hx] at h
  exact h
 go_enter Tryz.func63,Tryz.ntmps63
 go_wp2_with fail
 refine HO.out.mono ?_
 rintro e w' ⟨rfl,rfl⟩
 go_wp2
 go_ret
 exact ⟨rfl,rfl⟩
theorem list10_any (x:Nat) (hx:x < 1024) (w:World) (hT:TabB w) :
  Calls Tryz.prog 46 #[.int .u64 x] w fun e w'=>∃u,e=.returned u∧w'.ownsRow w.heap.size 3 1 u (memL x).length (ints (memL x))∧Below w.heap.size w w':=by
 have h:=list_any (memL x) w (memL_b64 x) (memL_ris x) hT (by have:=memL_len (s:=x) (n:=10) hx (by omega); omega)
 have e:setN (memL x)=x:=by rw [←mem10_L hx]; exact setN_mem10 x hx
 rw [e] at h
 exact h
set_option maxRecDepth 100000 in
set_option maxHeartbeats 800000 in
theorem rankF_any (B c:Nat) (m:List (List Int)) (v:Value) (w:World) (hx:Mx c 60 m) (hv:Mat B 22 3 w v m) (hm:m.length≤500) :
  Calls Tryz.prog 39 #[v,.int .i64 c] w fun e w'=>e=.returned (.int .i64 ((pickL c m).length:Nat))∧Below w.heap.size w w':=by
 obtain ⟨ao,cap,hvv,hlc,hcm⟩:=mat_open hv
 subst hvv
 have hc5:=hx.c5
 have hc1:=hx.c1
 have HR:Hid (Calls Tryz.prog 53 #[.slice ao m.length cap,.int .i64 c] w fun e w'=>∃ro rc po pc val sgn,e=.returned (.agg #[.slice ro m.length rc,.slice po (pickL c m).length pc,.int .i64 val,.int .i64 sgn])∧Below w.heap.size w w'):=by
  refine (reduce_any0 B c m _ w hv hm hc1 (by omega) hx.row (bd60 hx)).mono ?_
  rintro e w' ⟨M',C,k,sgn,hr,rv,pv,rfl,h1,h2,h3⟩
  obtain ⟨ro,rc,e1,_,_⟩:=mat_open h1
  obtain ⟨po,pc,e2,_,_⟩:=sl_open h2
  have hk:=red_rank hr
  simp only [List.length_map,List.length_range,rowsOf] at e1 e2
  rw [hk] at e2
  exact ⟨ro,rc,po,pc,_,_,by rw [e1,e2],h3⟩
 clear hv
 go_enter Tryz.func39,Tryz.ntmps39
 go_wp2_with fail
 refine (HR.out).mono ?_
 rintro e w2 ⟨ro,rc,po,pc,val,sgn,rfl,hb⟩
 have HB:Hid (Below w.heap.size w w2):=hb
 clear hb
 have hfl:=field1 (.slice ro m.length rc) (.slice po (pickL c m).length pc) (.int .i64 val) (.int .i64 sgn) w2
 go_wp2
 go_ret
 exact ⟨rfl,HB.out⟩
set_option maxRecDepth 100000 in
set_option maxHeartbeats 1600000 in
theorem dimF_any (d:Nat) (C:List (List Int)) (co:Option Addr) (cc:Nat) (rv sv:Value) (x:Nat) (w:World) (hC:Mat w.heap.size 22 3 w (.slice co C.length cc) C) (hbx:Box d 30 C) (h1:1≤d) (h4:d≤4) (hn:C.length≤10) (hx:x < 2 ^ C.length) (hT:TabB w) :
  Calls Tryz.prog 91 #[.agg #[.int .i64 d,.slice co C.length cc,rv,sv],.int .u64 x] w fun e w'=>e=.returned (.int .i64 (dimL d C x))∧Below w.heap.size w w':=by
 have hx10:x < 1024:=Nat.lt_of_lt_of_le hx (Nat.le_trans (Nat.pow_le_pow_right (by decide) hn) (by decide))
 obtain ⟨W,hW⟩:∃W,W=w.alloc (.cells #[.int .i64 d,.slice co C.length cc,rv,sv] 82):=⟨_,rfl⟩
 have hbw:Below w.heap.size w W:=by rw [hW]; exact alloc_keep _ _
 have hsW:W.heap.size=w.heap.size+1:=by rw [hW]; exact size_alloc _ _
 have hb0:W.heap[w.heap.size]?=some (.cells #[.int .i64 d,.slice co C.length cc,rv,sv] 82 (0,0)):=by rw [hW]; exact alloc_at _ _
 have HS:Hid (∀X,Below W.heap.size W X→X.cell? ⟨w.heap.size,0,none⟩=some (.int .i64 d)∧X.cell? ⟨w.heap.size,1,none⟩=some (.slice co C.length cc)):=fun X hX=>by
  have h0:=(hX.block w.heap.size (by omega)).trans hb0
  exact ⟨by simp [World.cell?,h0],by simp [World.cell?,h0]⟩
 have HW:Hid (Below w.heap.size w W):=hbw
 have HMC:Hid (∀X,Below W.heap.size W X→Mat X.heap.size 22 3 X (.slice co C.length cc) C):=fun X hX=>(((hC.below hbw (Nat.le_refl _)).any (Nat.le_refl _)).below hX (Nat.le_refl _)).any (Nat.le_refl _)
 have HTB:Hid (∀X,Below W.heap.size W X→TabB X):=fun X hX=>(hT.below hbw).below hX
 have HLB:Hid (∀z∈memL x,0≤z∧z < (C.length:Int)):=memL_bd hx (by omega)
 have HLN:Hid ((memL x).length≤10):=Nat.le_trans (memL_len hx (by omega)) hn
 have HDL:Hid (dimL d C x=if memL x=[] then (-1:Int) else (((pickL d (diffL (pks C [] (memL x)))).length:Nat):Int)):=rfl
 have HLEN:Hid (Calls Tryz.prog 63 #[.int .u64 x] W fun e w'=>e=.returned (.int .i64 (memL x).length)∧w'=W):=len10_any x hx10 W
 have HLI:Hid (∀X,Below W.heap.size W X→Calls Tryz.prog 46 #[.int .u64 x] X fun e w'=>∃uo uc,e=.returned (.slice uo (memL x).length uc)∧Sl w'.heap.size 3 w' (.slice uo (memL x).length uc) (ints (memL x))∧Below W.heap.size W w'):=fun X hX=>by
  refine (list10_any x hx10 X (HTB.out X hX)).mono ?_
  rintro e w' ⟨u,rfl,h1,h2⟩
  obtain ⟨uo,uc,rfl⟩:=owns_form h1
  exact ⟨uo,uc,rfl,Sl.own h1,hX.trans (h2.mono hX.size)⟩
 have HBX:Hid (Box d 30 C):=hbx
 clear hC hT hbw hb0 hx hx10
 generalize memL x=l at *
 have HPK:Hid (∀X uo uc,Below W.heap.size W X→Sl X.heap.size 3 X (.slice uo l.length uc) (ints l)→Calls Tryz.prog 26 #[.slice co C.length cc,.slice uo l.length uc] X fun e w'=>∃zo zc,e=.returned (.slice zo l.length zc)∧Mat w'.heap.size 22 3 w' (.slice zo l.length zc) (pks C [] l)∧Below W.heap.size W w'):=fun X uo uc hX hl=>by
  refine (pickedP_any X.heap.size C l _ _ X (HMC.out X hX) hl (fun i hi=>HLB.out _ (getD_mem hi)) (by have:=HLN.out; omega)).mono ?_
  rintro e w' ⟨z,rfl,hz,hb⟩
  have hm:Mat w'.heap.size 22 3 w' z (pks C [] l):=(hz.mat (Nat.le_refl _)).any (Nat.le_refl _)
  obtain ⟨zo,zc,rfl,_,_⟩:=mat_open hm
  have e:(pks C [] l).length=l.length:=by simp [pks]
  rw [e] at hm ⊢
  exact ⟨zo,zc,rfl,hm,hX.trans (hb.mono hX.size)⟩
 have hpbox:Box d 30 (pks C [] l):=fun y hy=>by
  simp only [pks,List.mem_map] at hy
  obtain ⟨z,hz,rfl⟩:=hy
  have:=HLB.out z hz
  exact HBX.out _ (by simp [show z.toNat < C.length by omega])
 have HDF:Hid (∀X zo zc,1≤l.length→Below W.heap.size W X→Mat X.heap.size 22 3 X (.slice zo l.length zc) (pks C [] l)→Calls Tryz.prog 40 #[.slice zo l.length zc] X fun e w'=>∃yo yl yc,e=.returned (.slice yo yl yc)∧Mat w'.heap.size 22 3 w' (.slice yo yl yc) (diffL (pks C [] l))∧Below W.heap.size W w'):=fun X zo zc h0 hX hm=>by
  refine (differences_any X.heap.size d (pks C [] l) _ X hm (by simp [pks]; omega) (by simp [pks]; have:=HLN.out; omega) h1 (by omega) (fun r hr=>(hpbox r hr).1) (fun r hr z hz=>by have:=(hpbox r hr).2 z hz; omega)).mono ?_
  rintro e w' ⟨z,rfl,hz,hb⟩
  have hm2:Mat w'.heap.size 22 3 w' z (diffL (pks C [] l)):=hz.mat hb.size
  obtain ⟨yo,yc,rfl,_,_⟩:=mat_open hm2
  exact ⟨yo,_,yc,rfl,hm2,hX.trans (hb.mono hX.size)⟩
 have HRK:Hid (∀X yo yl yc,Below W.heap.size W X→Mat X.heap.size 22 3 X (.slice yo yl yc) (diffL (pks C [] l))→Calls Tryz.prog 39 #[.slice yo yl yc,.int .i64 d] X fun e w'=>e=.returned (.int .i64 ((pickL d (diffL (pks C [] l))).length:Nat))∧Below W.heap.size W w'):=fun X yo yl yc hX hm=>by
  refine (rankF_any X.heap.size d _ _ X (diff_mx hpbox h1 (by omega)) hm (by rw [diffL_length]; simp [pks]; have:=HLN.out; omega)).mono ?_
  rintro e w' ⟨rfl,hb⟩
  exact ⟨rfl,hX.trans (hb.mono hX.size)⟩
 generalize dimL d C x=D at *
 generalize hpk:(pickL d (diffL (pks C [] l))).length=pk at *
 clear hpbox hpk
 go_enter Tryz.func91,Tryz.ntmps91
 go_upto_region 1 with fail
 rw [←hW]
 clear hW
 go_wp2_with fail
 refine HLEN.out.mono ?_
 rintro e w1 ⟨rfl,rfl⟩
 clear HLEN
 by_cases hl0:l=[]
 ·subst hl0
  rw [if_pos rfl] at HDL
  have HD1:Hid (D=-1):=HDL.out
  clear HDL
  go_wp2
  go_ret
  exact ⟨by rw [HD1.out]; rfl,HW.out⟩
 ·rw [if_neg hl0] at HDL
  have HD1:Hid (D=(pk:Int)):=HDL.out
  have hlp:0 < l.length:=List.length_pos_iff.2 hl0
  have HLP:Hid (1≤l.length):=hlp
  have tl:((l.length:Int) == 0)=false:=by simp; omega
  obtain ⟨ll,hll⟩:∃ll,ll=l.length:=⟨_,rfl⟩
  rw [←hll] at HLI HPK HDF tl HLP ⊢
  clear hl0 hlp HDL hll
  go_upto_region 3 with fail
  have hs1:=HS.out w1 (Below.refl _ _)
  refine wp_region_held_drew (S:=fun w'=>w'.cell? ⟨w.heap.size,0,none⟩=some (.int .i64 d)∧w'.cell? ⟨w.heap.size,1,none⟩=some (.slice co C.length cc)) (by kernel_rfl) hs1 (fun hHeld=>?_)
  refine wpAnyH_tk (i:=0) (d:=8) (v:=(.pointer (some ⟨w.heap.size,1,none⟩))) rfl rfl (by kernel_rfl) (by kernel_rfl) (by kernel_rfl) (fun _ _ _ h=>h) (.inl ⟨by rfl,by (intro wq hSw; (try dsimp only at hSw); go_simp; (try (first | rfl | omega)))⟩) hHeld ?_
  simp only [Act.put,List.setIfInBounds_toArray,List.set_cons_zero,List.set_cons_succ]
  refine wpAnyH_tk (i:=1) (d:=9) (v:=(.slice co C.length cc)) rfl rfl (by kernel_rfl) (by kernel_rfl) (by kernel_rfl) (fun _ _ _ h=>h) (.inl ⟨by rfl,by (intro wq hSw; (try dsimp only at hSw); go_simp; (try (first | rfl | omega)))⟩) hHeld ?_
  simp only [Act.put,List.setIfInBounds_toArray,List.set_cons_zero,List.set_cons_succ]
  refine wpAnyH_tk (i:=2) (d:=10) (v:=(.int .u64 x)) rfl rfl (by kernel_rfl) (by kernel_rfl) (by kernel_rfl) (fun _ _ _ h=>h) (.inl ⟨by rfl,by (intro wq hSw; (try dsimp only at hSw); go_simp; (try (first | rfl | omega)))⟩) hHeld ?_
  simp only [Act.put,List.setIfInBounds_toArray,List.set_cons_zero,List.set_cons_succ]
  refine wpAnyH_tk (i:=6) (d:=14) (v:=(.pointer (some ⟨w.heap.size,0,none⟩))) rfl rfl (by kernel_rfl) (by kernel_rfl) (by kernel_rfl) (fun _ _ _ h=>h) (.inl ⟨by rfl,by (intro wq hSw; (try dsimp only at hSw); go_simp; (try (first | rfl | omega)))⟩) hHeld ?_
  simp only [Act.put,List.setIfInBounds_toArray,List.set_cons_zero,List.set_cons_succ]
  refine wpAnyH_tk (i:=7) (d:=15) (v:=(.int .i64 d)) rfl rfl (by kernel_rfl) (by kernel_rfl) (by kernel_rfl) (fun _ _ _ h=>h) (.inl ⟨by rfl,by (intro wq hSw; (try dsimp only at hSw); go_simp; (try (first | rfl | omega)))⟩) hHeld ?_
  simp only [Act.put,List.setIfInBounds_toArray,List.set_cons_zero,List.set_cons_succ]
  refine wpAnyH_ready (rs:=[3]) (by kernel_rfl) (by simp) ?_
  refine ready_tk (i:=3) rfl (by rfl) (fun K hK=>?_) AllReadyH.nil
  go_simp
  refine (HLI.out _ (Below.drew (Below.refl w1.heap.size w1))).mono ?_
  rintro e w3 ⟨uo,uc,rfl,hu3,hb3⟩
  have HU3:Hid (Sl w3.heap.size 3 w3 (.slice uo ll uc) (ints l)):=hu3
  have HB3:Hid (Below w1.heap.size w1 w3):=hb3
  clear hu3 hb3
  refine hK.out _ _ (HS.out w3 HB3.out) (fun hHeld=>?_)
  clear hK K
  refine wpAnyH_ready (rs:=[4]) (by kernel_rfl) (by simp) ?_
  refine ready_tk (i:=4) rfl (by rfl) (fun K hK=>?_) AllReadyH.nil
  go_simp
  refine (HPK.out w3 uo uc HB3.out HU3.out).mono ?_
  rintro e w4 ⟨zo,zc,rfl,hu4,hb4⟩
  have HU4:Hid (Mat w4.heap.size 22 3 w4 (.slice zo ll zc) (pks C [] l)):=hu4
  have HB4:Hid (Below w1.heap.size w1 w4):=hb4
  clear hu4 hb4
  refine hK.out _ _ (HS.out w4 HB4.out) (fun hHeld=>?_)
  clear hK K
  refine wpAnyH_ready (rs:=[5]) (by kernel_rfl) (by simp) ?_
  refine ready_tk (i:=5) rfl (by rfl) (fun K hK=>?_) AllReadyH.nil
  go_simp
  refine (HDF.out w4 zo zc HLP.out HB4.out HU4.out).mono ?_
  rintro e w5 ⟨yo,yl,yc,rfl,hu5,hb5⟩
  have HU5:Hid (Mat w5.heap.size 22 3 w5 (.slice yo yl yc) (diffL (pks C [] l))):=hu5
  have HB5:Hid (Below w1.heap.size w1 w5):=hb5
  clear hu5 hb5
  refine hK.out _ _ (HS.out w5 HB5.out) (fun hHeld=>?_)
  clear hK K
  refine wpAnyH_ready (rs:=[8]) (by kernel_rfl) (by simp) ?_
  refine ready_tk (i:=8) rfl (by rfl) (fun K hK=>?_) AllReadyH.nil
  go_simp
  refine (HRK.out w5 yo yl yc HB5.out HU5.out).mono ?_
  rintro e w6 ⟨rfl,hb6⟩
  have HB6:Hid (Below w1.heap.size w1 w6):=hb6
  clear hb6
  refine hK.out _ _ (HS.out w6 HB6.out) (fun hHeld=>?_)
  clear hK K
  refine wpAnyH_tk (i:=9) (d:=4) (v:=(.int .i64 pk)) rfl rfl (by kernel_rfl) (by kernel_rfl) (by kernel_rfl) (fun _ _ _ h=>h) (.inl ⟨by rfl,by (intro wq hSw; (try dsimp only at hSw); go_simp; (try (first | rfl | omega)))⟩) hHeld ?_
  simp only [Act.put,List.setIfInBounds_toArray,List.set_cons_zero,List.set_cons_succ]
  refine wpAnyH_done (by kernel_rfl) ?_ _
  clear hHeld
  go_wp2
  go_ret
  exact ⟨by rw [HD1.out]; rfl,HW.out.trans (HB6.out.mono HW.out.size)⟩
end Go.Proofs.YtdanomklbiidaaaGreatDoor
