import Derived.Test.YtkfdpcgmpbopnaaGreatDoorOfAll
import Derived.Test.YtkfdpcgmpbopnaaGreatDoorWiA
import Derived.Test.YtkfdpcgmpbopnaaGreatDoorStepsAll
import Derived.Lib.JoinLaws
import Derived.Test.YtkfdpcgmpbopnaaGreatDoorWyY
import Derived.Test.YtkfdpcgmpbopnaaGreatDoorRowA
namespace Go.Proofs.YtkfdpcgmpbopnaaGreatDoor
open Go.RowKit
theorem pkd_snoc (P:List (List Int)) (x:List Int) (k:Nat) (h:k < x.length):pks P [] (x.take (k+1))=pks P [] (x.take k) ++ [P.getD (x.getD k 0).toNat []]:=by
 rw [take_snoc_int x k h]
 simp [pks]
set_option maxRecDepth 100000 in
set_option maxHeartbeats 800000 in
theorem pickedK_any (B:Nat) (P:List (List Int)) (x:List Int) (v u:Value) (w:World) (hv:Mat B 22 3 w v P) (hu:Sl B 3 w u (ints x)) (hx:∀i,i < x.length→0≤x.getD i 0∧x.getD i 0 < P.length) (hl:x.length≤1000) :
  Calls Tryz.prog 73 #[v,u] w fun e w'=>∃z,e=.returned z∧Rws w.heap.size 22 3 w' z (pks P [] x)∧Below w.heap.size w w':=by
 obtain ⟨i0,hi,hz0,hz1,hz2⟩:=info_parts Tryz.info22
 obtain ⟨ao,cap,hvv,hlc,hcm⟩:=mat_open hv
 obtain ⟨bo,cbp,huu,hlb,hcb⟩:=sl_open hu
 subst hvv huu
 have HV:Hid (Mat w.heap.size 22 3 w (.slice ao P.length cap) P):=hv.any (Nat.le_refl _)
 have HU:Hid (Sl B 3 w (.slice bo x.length cbp) (ints x)):=hu
 have HX:Hid (∀i,i < x.length→0≤x.getD i 0∧x.getD i 0 < P.length):=hx
 clear hv hu hx
 have hmk:=run_make_room (P:=Tryz.prog) 25 22 (.slice none 0 0) 24 Tryz.underlying25 Tryz.info22 rfl .i64 .i64 x.length (by omega) (by omega)
 have HO0:Hid (Rws w.heap.size 22 3 (w.alloc (.cells (madeCells #[.slice none 0 0] x.length) 22)) (.slice (some ⟨w.heap.size,0,none⟩) 0 x.length) []):=
  ⟨[],rfl,World.ownsRow_made w _ x.length (Nat.le_refl _) (by unfold maxLen; omega) (by rw [size_madeCells]; omega),fun i hi=>absurd hi (by simp)⟩
 have HB0:Hid (Below w.heap.size w (w.alloc (.cells (madeCells #[.slice none 0 0] x.length) 22))):=alloc_keep _ _
 go_enter Tryz.func73,Tryz.ntmps73
 go_wp2
 go_loopw [5,13,7] (fun s i _ wr=>∃k:Nat,k≤x.length∧i=.int .i64 k∧Rws w.heap.size 22 3 wr s (pks P [] (x.take k))∧Below w.heap.size w wr) (fun _ i _ _=>x.length-(intOf i).toNat)
 case atStart=>exact ⟨0,Nat.zero_le _,rfl,HO0.out,HB0.out⟩
 case round=>
  obtain ⟨k,hk,rfl,hr,hb⟩:=hrel
  have HR:Hid (Rws w.heap.size 22 3 wr u5 (pks P [] (x.take k))):=hr
  have HB:Hid (Below w.heap.size w wr):=hb
  have hsz:w.heap.size≤wr.heap.size:=hb.size
  clear hr hb
  by_cases hlt:k < x.length
  ·obtain ⟨b,o,cp,hs,hc1,hcc⟩:=sl_cell (HU.out.below HB.out (Nat.le_refl _)) hlt
   simp only [Value.slice.injEq] at hs
   obtain ⟨rfl,_,rfl⟩:=hs
   obtain ⟨hx0,hx1⟩:=HX.out k hlt
   have HSN:Hid (pks P [] (x.take (k+1))=pks P [] (x.take k) ++ [P.getD (x.getD k 0).toNat []]):=pkd_snoc P x k hlt
   have HLN:Hid ((pks P [] (x.take k)).length=k):=by show _=_; simp [pks]; omega
   obtain ⟨q,hq⟩:∃q:Nat,x.getD k 0=(q:Int):=⟨(x.getD k 0).toNat,by omega⟩
   rw [hq] at hcc hx0 hx1 HSN
   rw [show ((q:Int)).toNat=q by omega] at HSN
   clear hq
   have hqP:q < P.length:=by omega
   obtain ⟨b2,o2,cp2,r2,hs2,_,hcc2,hr2⟩:=mat_cell (HV.out.below HB.out (Nat.le_refl _)) hqP
   simp only [Value.slice.injEq,true_and] at hs2
   obtain ⟨rfl,rfl⟩:=hs2
   obtain ⟨ro,rc,hrv,_,_⟩:=sl_open hr2
   subst hrv
   have HR2:Hid (Sl w.heap.size 3 wr (.slice ro (P.getD q []).length rc) (ints (P.getD q []))):=hr2
   clear hr2
   generalize P.getD q []=y at *
   generalize hyl:y.length=yl at *
   clear hyl
   obtain ⟨vs,g1,g2,g3⟩:=HR.out
   have hlen:=HLN.out
   rw [hlen] at g1 g2 g3
   have G1:Hid (vs.length=k):=g1
   have G2:Hid (wr.ownsRow w.heap.size 22 1 u5 k vs):=g2
   have G3:Hid (∀i,i < k→Sl w.heap.size 3 wr (vs.getD i (.slice none 0 0)) (ints ((pks P [] (x.take k)).getD i []))):=g3
   clear g1 g2 g3 hlen
   go_wp2_with (first | (at_builtin; refine wpList_append_own _ rfl _ _ 25 rfl w.heap.size 22 i0 (.slice none 0 0) 1 24 Tryz.underlying25 hi hz0 hz1 hz2 rfl (by decide) _ _ _ rfl (G2.out.alloc _) ⟨wr.heap.size,0,none⟩ 1 1 [.slice ro yl rc] rfl rfl (one_new _ _ _) (one_slice _ _ _) ?d3 ?d4 ?d5 ?_))
   case d3=>unfold maxLen; omega
   case d4=>omega
   case d5=>simp; omega
   intro v' w3 ho hg _
   have R1:Hid (Rws w.heap.size 22 3 w3 v' (pks P [] (x.take (k+1)))):=by
    have hp:=Rws.push (e2:=22) (e1:=3) (m:=pks P [] (x.take k)) (u:=.slice ro yl rc) (zs:=y) (by decide) (by rw [HLN.out]; exact G1.out) (by rw [HLN.out]; exact G2.out.alloc _)
     (fun i hi=>(G3.out i (by rw [HLN.out] at hi; exact hi)).alloc _) (HR2.out.alloc _) (by rw [HLN.out]; exact ho) hg
    rw [←HSN.out] at hp
    exact hp
   have R2:Hid (Below w.heap.size w w3):=(HB.out.alloc hsz _).grown hg (by simp; omega) (fun x hx=>(G2.out.lt x hx).1)
   clear ho hg
   go_wp2
   go_roundw
   case rel=>exact ⟨k+1,by omega,by go_num,R1.out,R2.out⟩
   case measure=>simp [intOf]; omega
  ·have hke:x.take k=x:=List.take_of_length_le (by omega)
   have HR':Hid (Rws w.heap.size 22 3 wr u5 (pks P [] x)):=by have:=HR.out; rw [hke] at this; exact this
   clear HR
   go_wp2
   go_ret
   exact ⟨_,rfl,HR'.out,HB.out⟩
end Go.Proofs.YtkfdpcgmpbopnaaGreatDoor
namespace Go.Proofs.YtkfdpcgmpbopnaaGreatDoor
open Go.RowKit
attribute [local go_sem ↓] Go.wp_at_zero Go.wp_at_succ
end Go.Proofs.YtkfdpcgmpbopnaaGreatDoor
namespace Go.Proofs.YtkfdpcgmpbopnaaGreatDoor
open Go.RowKit
attribute [local go_sem ↓] Go.wp_at_zero Go.wp_at_succ
end Go.Proofs.YtkfdpcgmpbopnaaGreatDoor
namespace Go.Proofs.YtkfdpcgmpbopnaaGreatDoor
open Go.RowKit Go.Shelf
attribute [local go_sem] Oper.semAt_some
end Go.Proofs.YtkfdpcgmpbopnaaGreatDoor
namespace Go.Proofs.YtkfdpcgmpbopnaaGreatDoor
open Go.RowKit Go.Shelf
attribute [local go_sem] Oper.semAt_some
end Go.Proofs.YtkfdpcgmpbopnaaGreatDoor
