import Derived.Test.YtdanomklbiidaaaGreatDoorMgAM
import Derived.Test.YtdanomklbiidaaaGreatDoorMgAL
import Derived.Test.YtdanomklbiidaaaGreatDoorMgAH
import Derived.Test.YtdanomklbiidaaaGreatDoorMgAB
import Derived.Lib.JoinLaws
import Derived.Test.YtdanomklbiidaaaGreatDoorMgAI
import Derived.Maps.OwnIn
namespace Go.Proofs.YtdanomklbiidaaaGreatDoor
open Go.RowKit
attribute [local go_sem ↓] Go.wp_at_zero Go.wp_at_succ
theorem compL_len (m:List (List Int)):(compL m).length≤m.length:=by
 unfold compL
 rw [List.length_map]; exact keptI_len _ _
def Asc (m:List (List Int)):Prop:=∀i j,i < j→j < m.length→¬cmpL (m.getD j []) (m.getD i []) < 0
structure Inor (m' m:List (List Int)):Prop where
 mem:∀r,r∈m'↔r∈m
 len:m'.length≤m.length
 srt:∃m0:List (List Int),m0.Perm m∧Asc m0∧m'=compL m0
theorem fr_open {B:Nat} {w:World} {v:Value} {m:List (List Int)} (h:Fr B 22 3 w v m):∃ao cap,v=.slice ao m.length cap∧m.length≤cap∧cap≤9223372036854775807:=mat_open (h.rws.mat (Nat.le_refl _))
set_option maxRecDepth 100000 in
set_option maxHeartbeats 400000 in
theorem inOrder_any (B:Nat) (m:List (List Int)) (v:Value) (w:World) (hv:Fr B 22 3 w v m) (hm:m.length≤2000000000000) :
  Calls Tryz.prog 17 #[v] w fun e w'=>∃u m',e=.returned u∧Fr B 22 3 w' u m'∧Inor m' m∧Below B w w':=by
 obtain ⟨ao,cap,hvv,hlc,hcm⟩:=fr_open hv
 subst hvv
 have HV:Hid (Fr B 22 3 w (.slice ao m.length cap) m):=hv
 clear hv
 go_enter Tryz.func17,Tryz.ntmps17
 go_wp2_with fail
 refine (sort_any B m _ w HV.out hm).mono ?_
 rintro e w1 ⟨rfl,m1,hp,hs,hf,hb⟩
 have HP:Hid (m1.Perm m):=hp
 have HS:Hid (Asc m1):=hs
 have HF:Hid (Fr B 22 3 w1 (.slice ao m.length cap) m1):=hf
 have HB:Hid (Below B w w1):=hb
 clear hp hs hf hb
 go_wp2_with fail
 refine (compact_any B m1 _ w1 HF.out (by rw [HP.out.length_eq]; exact hm)).mono ?_
 rintro e w2 ⟨u,rfl,hf2,hb2⟩
 obtain ⟨uo,uc,huu,_,_⟩:=fr_open hf2
 subst huu
 have HF2:Hid (Fr B 22 3 w2 (.slice uo (compL m1).length uc) (compL m1)):=hf2
 have HB2:Hid (Below B w w2):=HB.out.trans hb2
 have HIN:Hid (Inor (compL m1) m):=⟨fun r=>by rw [mem_compL]; exact HP.out.mem_iff,by rw [←HP.out.length_eq]; exact compL_len _,m1,HP.out,HS.out,rfl⟩
 clear hf2 hb2
 generalize hgl:(compL m1).length=gl at *
 go_wp2
 go_ret
 exact ⟨_,compL m1,rfl,HF2.out,HIN.out,HB2.out⟩
set_option maxRecDepth 100000 in
set_option maxHeartbeats 800000 in
theorem distinct_any (B:Nat) (P:List (List Int)) (v:Value) (w:World) (hv:Mat B 22 3 w v P) (hP:P.length≤1000) (hr:∀r∈P,r.length≤1000) :
  Calls Tryz.prog 54 #[v] w fun e w'=>∃u m',e=.returned u∧Fr w.heap.size 22 3 w' u m'∧Inor m' P∧Below w.heap.size w w':=by
 obtain ⟨i0,hi,hz0,hz1,hz2⟩:=info_parts Tryz.info22
 obtain ⟨ao,cap,hvv,hlc,hcm⟩:=mat_open hv
 subst hvv
 have HV:Hid (Mat B 22 3 w (.slice ao P.length cap) P):=hv
 have HR:Hid (∀r∈P,r.length≤1000):=hr
 clear hv hr
 go_enter Tryz.func54,Tryz.ntmps54
 go_wp2
 go_loopw [3,8] (fun x i wr=>∃k:Nat,k≤P.length∧i=.int .i64 k∧Fr w.heap.size 22 3 wr x (P.take k)∧Below w.heap.size w wr) (fun _ i _=>P.length-(intOf i).toNat)
 case atStart=>exact ⟨0,Nat.zero_le _,rfl,Fr.nil _ _ _ _,Below.refl _ _⟩
 case round=>
  obtain ⟨k,hk,rfl,hfr,hbel⟩:=hrel
  have HF:Hid (Fr w.heap.size 22 3 wr u3 (P.take k)):=hfr
  have HB:Hid (Below w.heap.size w wr):=hbel
  have hsz:w.heap.size≤wr.heap.size:=hbel.size
  clear hfr hbel
  by_cases hlt:k < P.length
  ·obtain ⟨b,o,cp,r1,hs,hc1,hcc,hr1⟩:=mat_cell (HV.out.below HB.out (Nat.le_refl _)) hlt
   simp only [Value.slice.injEq] at hs
   obtain ⟨rfl,_,rfl⟩:=hs
   obtain ⟨ro,rc,hrv,_,_⟩:=sl_open hr1
   subst hrv
   have HR1:Hid (Sl B 3 wr (.slice ro (P.getD k []).length rc) (ints (P.getD k []))):=hr1
   have HRL:Hid ((P.getD k []).length≤1000):=HR.out _ (by simp [hlt])
   have HSN:Hid (P.take (k+1)=P.take k ++ [P.getD k []]):=by
    show _=_
    rw [List.take_succ_eq_append_getElem hlt]; simp [hlt]
   clear hr1
   generalize P.getD k []=q at *
   generalize hql:q.length=ql at *
   have HQL:Hid (q.length=ql):=hql
   clear hql
   go_wp2_with fail
   refine (clone_any B q _ wr HR1.out (by rw [HQL.out]; have:=HRL.out; omega)).mono ?_
   rintro e w2 ⟨u,rfl,ho2,hb2⟩
   have HX:Hid (Sl 0 3 w2 u (ints q)):=Sl.own ho2
   rw [HQL.out] at ho2
   obtain ⟨uo,uc,huu⟩:=owns_form ho2
   subst huu
   have HB2:Hid (Below w.heap.size w w2):=HB.out.trans (hb2.mono hsz)
   have HF2:Hid (Fr w.heap.size 22 3 w2 u3 (P.take k)):=HF.out.below hb2 (Nat.le_refl _)
   have HLN:Hid ((P.take k).length=k):=by show _=_; rw [List.length_take]; omega
   obtain ⟨vs,g1,g2,g3⟩:=HF2.out
   have hlen:=HLN.out
   rw [hlen] at g1 g2 g3
   have G1:Hid (vs.length=k):=g1
   have G2:Hid (w2.ownsRow w.heap.size 22 1 u3 k vs):=g2
   have G3:Hid (∀i,i < k→Sl 0 3 w2 (vs.getD i (.slice none 0 0)) (ints ((P.take k).getD i []))):=g3
   have hsz2:w.heap.size≤w2.heap.size:=HB2.out.size
   clear g1 g2 g3 hlen ho2 hb2
   go_wp2_with (first | (at_builtin; refine wpList_append_own _ rfl _ _ 23 rfl w.heap.size 22 i0 (.slice none 0 0) 1 24 Tryz.underlying23 hi hz0 hz1 hz2 rfl (by decide) _ _ _ rfl (G2.out.alloc _) ⟨w2.heap.size,0,none⟩ 1 1 [.slice uo ql uc] rfl rfl (one_new _ _ _) (one_slice _ _ _) ?d3 ?d4 ?d5 ?_))
   case d3=>unfold maxLen; omega
   case d4=>omega
   case d5=>simp; omega
   intro v' w3 ho hg _
   have R1:Hid (Fr w.heap.size 22 3 w3 v' (P.take (k+1))):=by
    have hp:=Fr.push (e2:=22) (e1:=3) (m:=P.take k) (u:=.slice uo ql uc) (zs:=q) (by decide) (by rw [HLN.out]; exact G1.out) (by rw [HLN.out]; exact G2.out.alloc _)
     (fun i hi=>(G3.out i (by rw [HLN.out] at hi; exact hi)).alloc _) (HX.out.alloc _) (by rw [HLN.out]; exact ho) hg
    rw [←HSN.out] at hp
    exact hp
   have R2:Hid (Below w.heap.size w w3):=(HB2.out.alloc (by omega) _).grown hg (by simp; omega) (fun x hx=>(G2.out.lt x hx).1)
   clear ho hg
   go_wp2
   go_roundw
   case rel=>exact ⟨k+1,by omega,by go_num,R1.out,R2.out⟩
   case measure=>simp [intOf]; omega
  ·have HF3:Hid (Fr w.heap.size 22 3 wr u3 P):=by
    have h:=HF.out
    rw [List.take_of_length_le (by omega)] at h
    exact h
   obtain ⟨uo,uc,huu,_,_⟩:=fr_open HF3.out
   subst huu
   go_wp2_with fail
   refine (inOrder_any w.heap.size P _ wr HF3.out (by omega)).mono ?_
   rintro e w2 ⟨u,m',rfl,hf2,hin,hb2⟩
   obtain ⟨xo,xc,hxx,_,_⟩:=fr_open hf2
   subst hxx
   have H1:Hid (Fr w.heap.size 22 3 w2 (.slice xo m'.length xc) m'):=hf2
   have H2:Hid (Inor m' P):=hin
   have H3:Hid (Below w.heap.size w w2):=HB.out.trans hb2
   clear hf2 hin hb2
   generalize hml:m'.length=ml at *
   go_wp2
   go_ret
   exact ⟨_,m',rfl,H1.out,H2.out,H3.out⟩
end Go.Proofs.YtdanomklbiidaaaGreatDoor

namespace Go.Proofs.YtdanomklbiidaaaGreatDoor
open Go.RowKit
def chs:Nat→List (List Int)→List (List (List Int))
 | 0,_=>[[]]
 | _+1,[]=>[]
 | k+1,x :: xs=>((chs k xs).map (x :: ·)) ++ chs (k+1) xs
theorem chs_len:∀k l,(chs k l).length≤(l.length+1) ^ k
 | 0,_=>by simp [chs]
 | k+1,[]=>by simp [chs]
 | k+1,x :: xs=>by
  have h1:=chs_len k xs
  have h2:=chs_len (k+1) xs
  simp only [chs,List.length_append,List.length_map,List.length_cons]
  have h3:(xs.length+1) ^ (k+1)=(xs.length+1) ^ k*(xs.length+1):=Nat.pow_succ _ _
  have h4:(xs.length+1+1) ^ (k+1)=(xs.length+1+1) ^ k*(xs.length+1+1):=Nat.pow_succ _ _
  have h5:(xs.length+1) ^ k≤(xs.length+1+1) ^ k:=Nat.pow_le_pow_left (by omega) k
  have h6:(xs.length+1) ^ k*(xs.length+1)+(xs.length+1) ^ k≤(xs.length+1+1) ^ k*(xs.length+1+1):=by
   have:(xs.length+1) ^ k*(xs.length+1)+(xs.length+1) ^ k=(xs.length+1) ^ k*(xs.length+1+1):=(Nat.mul_succ _ _).symm
   rw [this]; exact Nat.mul_le_mul_right _ h5
  omega
def rowsC (P pre:List (List Int)) (k:Nat) (l:List (List Int)):List (List Int):=(chs k l).flatMap fun c=>(rowT (pre ++ c) P).toList
theorem chs_chz:∀(k:Nat) (l:List (List Int)),chs k l=chz k l
 | 0,l=>by cases l <;> simp [chs,chz]
 | k+1,[]=>by simp [chs,chz]
 | k+1,x :: xs=>by
  simp only [chs,chz]
  rw [chs_chz k xs,chs_chz (k+1) xs]
theorem rows_ext (P:List (List Int)) (d:Nat):(ext P.length d 0).flatMap (fun c=>(rowT (pks P [] c) P).toList)=rowsC P [] d P:=by
 unfold rowsC
 have h:=chz_ext P [] d 0
 rw [List.drop_zero] at h
 rw [chs_chz,←h,List.flatMap_map]
 simp
end Go.Proofs.YtdanomklbiidaaaGreatDoor

namespace Go.Proofs.YtdanomklbiidaaaGreatDoor
open Go.RowKit
theorem pkd_snoc (P:List (List Int)) (x:List Int) (k:Nat) (h:k < x.length):pks P [] (x.take (k+1))=pks P [] (x.take k) ++ [P.getD (x.getD k 0).toNat []]:=by
 rw [take_snoc_int x k h]
 simp [pks]
set_option maxRecDepth 100000 in
set_option maxHeartbeats 800000 in
theorem pickedK_any (B:Nat) (P:List (List Int)) (x:List Int) (v u:Value) (w:World) (hv:Mat B 22 3 w v P) (hu:Sl B 3 w u (ints x)) (hx:∀i,i < x.length→0≤x.getD i 0∧x.getD i 0 < P.length) (hl:x.length≤1000) :
  Calls Tryz.prog 26 #[v,u] w fun e w'=>∃z,e=.returned z∧Rws w.heap.size 22 3 w' z (pks P [] x)∧Below w.heap.size w w':=by
 obtain ⟨i0,hi,hz0,hz1,hz2⟩:=info_parts Tryz.info22
 obtain ⟨ao,cap,hvv,hlc,hcm⟩:=mat_open hv
 obtain ⟨bo,cbp,huu,hlb,hcb⟩:=sl_open hu
 subst hvv huu
 have HV:Hid (Mat w.heap.size 22 3 w (.slice ao P.length cap) P):=hv.any (Nat.le_refl _)
 have HU:Hid (Sl B 3 w (.slice bo x.length cbp) (ints x)):=hu
 have HX:Hid (∀i,i < x.length→0≤x.getD i 0∧x.getD i 0 < P.length):=hx
 clear hv hu hx
 have hmk:=run_make_room (P:=Tryz.prog) 23 22 (.slice none 0 0) 24 Tryz.underlying23 Tryz.info22 rfl .i64 .i64 x.length (by omega) (by omega)
 have HO0:Hid (Rws w.heap.size 22 3 (w.alloc (.cells (madeCells #[.slice none 0 0] x.length) 22)) (.slice (some ⟨w.heap.size,0,none⟩) 0 x.length) []):=
  ⟨[],rfl,World.ownsRow_made w _ x.length (Nat.le_refl _) (by unfold maxLen; omega) (by rw [size_madeCells]; omega),fun i hi=>absurd hi (by simp)⟩
 have HB0:Hid (Below w.heap.size w (w.alloc (.cells (madeCells #[.slice none 0 0] x.length) 22))):=alloc_keep _ _
 go_enter Tryz.func26,Tryz.ntmps26
 go_wp2
 go_loopw [5,13,7] (fun s i _ wr=>∃k:Nat,k≤x.length∧i=.int .i64 k∧Rws w.heap.size 22 3 wr s (pks P [] (x.take k))∧Below w.heap.size w wr) (fun _ i _ _=>x.length-(intOf i).toNat)
 case atStart=>exact ⟨0,Nat.zero_le _,rfl,HO0.out,HB0.out⟩
 case round=>
  obtain ⟨k,hk,rfl,hr,hb⟩:=hrel
  have HR:Hid (Rws w.heap.size 22 3 wr u5 (pks P [] (x.take k))):=hr
  have HB:Hid (Below w.heap.size w wr):=hb
  have hsz:w.heap.size≤wr.heap.size:=hb.size
  clear hr hb
  by_cases hlt:k < x.length
  ·obtain ⟨b,o,cp,hs,hc1,hcc⟩:=sl_cell (HU.out.below HB.out (Nat.le_refl _)) hlt
   simp only [Value.slice.injEq] at hs
   obtain ⟨rfl,_,rfl⟩:=hs
   obtain ⟨hx0,hx1⟩:=HX.out k hlt
   have HSN:Hid (pks P [] (x.take (k+1))=pks P [] (x.take k) ++ [P.getD (x.getD k 0).toNat []]):=pkd_snoc P x k hlt
   have HLN:Hid ((pks P [] (x.take k)).length=k):=by show _=_; simp [pks]; omega
   obtain ⟨q,hq⟩:∃q:Nat,x.getD k 0=(q:Int):=⟨(x.getD k 0).toNat,by omega⟩
   rw [hq] at hcc hx0 hx1 HSN
   rw [show ((q:Int)).toNat=q by omega] at HSN
   clear hq
   have hqP:q < P.length:=by omega
   obtain ⟨b2,o2,cp2,r2,hs2,_,hcc2,hr2⟩:=mat_cell (HV.out.below HB.out (Nat.le_refl _)) hqP
   simp only [Value.slice.injEq,true_and] at hs2
   obtain ⟨rfl,rfl⟩:=hs2
   obtain ⟨ro,rc,hrv,_,_⟩:=sl_open hr2
   subst hrv
   have HR2:Hid (Sl w.heap.size 3 wr (.slice ro (P.getD q []).length rc) (ints (P.getD q []))):=hr2
   clear hr2
   generalize P.getD q []=y at *
   generalize hyl:y.length=yl at *
   clear hyl
   obtain ⟨vs,g1,g2,g3⟩:=HR.out
   have hlen:=HLN.out
   rw [hlen] at g1 g2 g3
   have G1:Hid (vs.length=k):=g1
   have G2:Hid (wr.ownsRow w.heap.size 22 1 u5 k vs):=g2
   have G3:Hid (∀i,i < k→Sl w.heap.size 3 wr (vs.getD i (.slice none 0 0)) (ints ((pks P [] (x.take k)).getD i []))):=g3
   clear g1 g2 g3 hlen
   go_wp2_with (first | (at_builtin; refine wpList_append_own _ rfl _ _ 23 rfl w.heap.size 22 i0 (.slice none 0 0) 1 24 Tryz.underlying23 hi hz0 hz1 hz2 rfl (by decide) _ _ _ rfl (G2.out.alloc _) ⟨wr.heap.size,0,none⟩ 1 1 [.slice ro yl rc] rfl rfl (one_new _ _ _) (one_slice _ _ _) ?d3 ?d4 ?d5 ?_))
   case d3=>unfold maxLen; omega
   case d4=>omega
   case d5=>simp; omega
   intro v' w3 ho hg _
   have R1:Hid (Rws w.heap.size 22 3 w3 v' (pks P [] (x.take (k+1)))):=by
    have hp:=Rws.push (e2:=22) (e1:=3) (m:=pks P [] (x.take k)) (u:=.slice ro yl rc) (zs:=y) (by decide) (by rw [HLN.out]; exact G1.out) (by rw [HLN.out]; exact G2.out.alloc _)
     (fun i hi=>(G3.out i (by rw [HLN.out] at hi; exact hi)).alloc _) (HR2.out.alloc _) (by rw [HLN.out]; exact ho) hg
    rw [←HSN.out] at hp
    exact hp
   have R2:Hid (Below w.heap.size w w3):=(HB.out.alloc hsz _).grown hg (by simp; omega) (fun x hx=>(G2.out.lt x hx).1)
   clear ho hg
   go_wp2
   go_roundw
   case rel=>exact ⟨k+1,by omega,by go_num,R1.out,R2.out⟩
   case measure=>simp [intOf]; omega
  ·have hke:x.take k=x:=List.take_of_length_le (by omega)
   have HR':Hid (Rws w.heap.size 22 3 wr u5 (pks P [] x)):=by have:=HR.out; rw [hke] at this; exact this
   clear HR
   go_wp2
   go_ret
   exact ⟨_,rfl,HR'.out,HB.out⟩
end Go.Proofs.YtdanomklbiidaaaGreatDoor

namespace Go.Proofs.YtdanomklbiidaaaGreatDoor
open Go.RowKit Go.Shelf
attribute [local go_sem] Oper.semAt_some
attribute [local go_sem ↓] Go.wp_at_zero Go.wp_at_succ
theorem pks_snocP (P:List (List Int)) (x:List Int) (k:Nat) (h:k < x.length):pks P [] (x.take (k+1))=pks P [] (x.take k) ++ [P.getD (x.getD k 0).toNat []]:=by
 rw [take_snoc_int x k h]
 simp [pks]
theorem pickedP_any (B:Nat) (P:List (List Int)) (x:List Int) (v u:Value) (w:World) (hv:Mat B 22 3 w v P) (hu:Sl B 3 w u (ints x)) (hx:∀i,i < x.length→0≤x.getD i 0∧x.getD i 0 < P.length) (hl:x.length≤1000) :
  Calls Tryz.prog 26 #[v,u] w fun e w'=>∃z,e=.returned z∧Rws w.heap.size 22 3 w' z (pks P [] x)∧Below w.heap.size w w':=
 pickedK_any B P x v u w hv hu hx hl
end Go.Proofs.YtdanomklbiidaaaGreatDoor

namespace Go.Proofs.YtdanomklbiidaaaGreatDoor
open Go.RowKit Go.Shelf
attribute [local go_sem] Oper.semAt_some
theorem handA_below (N0:Nat) (W:World) (S:Nat→Prop) (x:List Int) (vs:Array Value) (W':World) (h:Hand N0 W S x vs) (hb:Below W.heap.size W W'):Hand N0 W' S x vs:=by
 obtain ⟨v,B0,h1,h2,h3,h4,h5⟩:=h
 exact ⟨v,B0,h1,owns_below h2 hb (Nat.le_refl _),h3,h4,Nat.le_trans h5 hb.size⟩
theorem handA_put (N0:Nat) (W:World) (S:Nat→Prop) (x:List Int) (vs:Array Value) (l:Nat) (r:Loop) (o:Obj) (h:Hand N0 W S x vs) (hl:W.heap[l]?=some (.loop r)):Hand N0 (W.putObj l o) S x vs:=by
 obtain ⟨v,B0,h1,h2,h3,h4,h5⟩:=h
 exact ⟨v,B0,h1,ownsRow_putObj h2 _ hl rfl,h3,h4,by simpa using h5⟩
structure FrO (S:Nat→Prop) (B:Nat) (W:World) (v:Value) (m:List (List Int)) (vs:List Value):Prop where
 len:vs.length=m.length
 own:W.ownsRow B 22 1 v m.length vs
 off:∀g,v.ownBlock=some g→¬S g
 sl:∀i,i < m.length→Sl 0 3 W (vs.getD i (.slice none 0 0)) (ints (m.getD i []))
 so:∀i,i < m.length→0 < (m.getD i []).length→∃a n c,vs.getD i (.slice none 0 0)=.slice (some a) n c∧¬S a.block
theorem FrO.fr {S:Nat→Prop} {B:Nat} {W:World} {v:Value} {m:List (List Int)} {vs:List Value} (h:FrO S B W v m vs):Fr B 22 3 W v m:=⟨vs,h.len,h.own,h.sl⟩
theorem sl_pos_keep {w W:World} {v:Value} {xs:List Int} (h:Sl 0 3 w v (ints xs)) (hk:0 < xs.length→∀a n c,v=.slice (some a) n c→W.heap[a.block]?=w.heap[a.block]?):Sl 0 3 W v (ints xs):=by
 obtain ⟨ao,cap,rfl,h1,h2,h3,h4⟩:=h
 refine ⟨ao,cap,rfl,h1,h2,fun i hi=>?_,h4⟩
 obtain ⟨b,o,rfl,hc,ht⟩:=h3 i hi
 have k1:=hk (by simpa using (Nat.lt_of_le_of_lt (Nat.zero_le _) hi)) _ _ _ rfl
 refine ⟨b,o,rfl,(World.cell?_of_block (w:=w) (a:=⟨b,o+i,none⟩) k1).trans hc,?_⟩
 rcases ht with ht | ⟨cur,ht⟩
 ·omega
 ·exact .inr ⟨cur,k1.trans ht⟩
theorem sl_block {w:World} {a:Addr} {n c:Nat} {xs:List Int} (h:Sl 0 3 w (.slice (some a) n c) (ints xs)) (hp:0 < xs.length):a.block < w.heap.size:=by
 obtain ⟨ao,cap,hv,_,_,h3,_⟩:=h
 simp only [Value.slice.injEq] at hv
 obtain ⟨rfl,_,_⟩:=hv
 obtain ⟨b,o,ha,hc,_⟩:=h3 0 (by simpa using hp)
 cases ha
 have hx:(ints xs)[0]?=some (.int .i64 (xs.getD 0 0)):=ints_get _ _ hp
 exact lt_of_cell (hc.trans hx)
theorem FrO.keep {S S':Nat→Prop} {B:Nat} {W W':World} {v:Value} {m:List (List Int)} {vs:List Value} (h:FrO S B W v m vs) (hc:∀b,b < W.heap.size→¬S b→W'.heap[b]?=W.heap[b]?) (hs:∀b,S' b→S b∨W.heap.size≤b):FrO S' B W' v m vs:=by
 refine ⟨h.len,⟨h.own.1,?_⟩,fun g hg hx=>?_,fun i hi=>sl_pos_keep (h.sl i hi) (fun hp a n c e=>?_),fun i hi hp=>?_⟩
 ·rcases h.own.2 with h2 | ⟨g,cap,cur,rfl,hb,hh,r⟩
  ·exact Or.inl h2
  ·exact Or.inr ⟨g,cap,cur,rfl,hb,(hc g (lt_of_block hh) (h.off g rfl)).trans hh,r⟩
 ·rcases hs g hx with h1 | h1
  ·exact h.off g hg h1
  ·have:=(h.own.lt g hg).2; omega
 ·obtain ⟨a',n',c',e',hn⟩:=h.so i hi hp
  rw [e] at e'
  cases e'
  have hsl:=h.sl i hi
  rw [e] at hsl
  exact hc _ (sl_block hsl hp) hn
 ·obtain ⟨a,n,c,e,hn⟩:=h.so i hi hp
  refine ⟨a,n,c,e,fun hx=>?_⟩
  have hsl:=h.sl i hi
  rw [e] at hsl
  rcases hs _ hx with h1 | h1
  ·exact hn h1
  ·have:=sl_block hsl hp; omega
theorem FrO.push {S:Nat→Prop} {B:Nat} {W W':World} {v v' u:Value} {m:List (List Int)} {vs:List Value} {zs:List Int} (h:FrO S B W v m vs) (hu:Sl 0 3 W u (ints zs)) (hun:0 < zs.length→∃a n c,u=.slice (some a) n c∧¬S a.block)
  (ho:W'.ownsRow B 22 1 v' (m.length+1) (vs ++ [u])) (hg:W.grownBy W' v.ownBlock) (hn:∀g,v'.ownBlock=some g→¬S g):FrO S B W' v' (m ++ [zs]) (vs ++ [u]):=by
 have hp:=Fr.push (e2:=22) (e1:=3) (m:=m) (u:=u) (zs:=zs) (by decide) h.len h.own h.sl hu ho hg
 have ht:∀k,v.ownBlock=some k→0≤k∧∀cur,W.heap[k]?≠some (.cells cur 3 (0,0)):=fun k hk=>⟨Nat.zero_le _,(owns_typed h.own (by decide) k hk).2⟩
 refine ⟨by simp [h.len],by simpa using ho,hn,fun i hi=>?_,fun i hi hpos=>?_⟩
 ·by_cases hlt:i < m.length
  ·have e1':(vs ++ [u]).getD i (.slice none 0 0)=vs.getD i (.slice none 0 0):=by
    simp only [List.getD_eq_getElem?_getD]; rw [List.getElem?_append_left (by have:=h.len; omega)]
   have e2':(m ++ [zs]).getD i []=m.getD i []:=by
    simp only [List.getD_eq_getElem?_getD]; rw [List.getElem?_append_left (by omega)]
   rw [e1',e2']
   exact (h.sl i hlt).grown hg ht
  ·have hi':i=m.length:=by simp at hi; omega
   subst hi'
   have e1':(vs ++ [u]).getD m.length (.slice none 0 0)=u:=by
    rw [←h.len]; simp
   have e2':(m ++ [zs]).getD m.length []=zs:=by simp
   rw [e1',e2']
   exact hu.grown hg ht
 ·by_cases hlt:i < m.length
  ·have e1':(vs ++ [u]).getD i (.slice none 0 0)=vs.getD i (.slice none 0 0):=by
    simp only [List.getD_eq_getElem?_getD]; rw [List.getElem?_append_left (by have:=h.len; omega)]
   have e2':(m ++ [zs]).getD i []=m.getD i []:=by
    simp only [List.getD_eq_getElem?_getD]; rw [List.getElem?_append_left (by omega)]
   rw [e2'] at hpos
   rw [e1']
   exact h.so i hlt hpos
  ·have hi':i=m.length:=by simp at hi; omega
   subst hi'
   have e1':(vs ++ [u]).getD m.length (.slice none 0 0)=u:=by
    rw [←h.len]; simp
   have e2':(m ++ [zs]).getD m.length []=zs:=by simp
   rw [e2'] at hpos
   rw [e1']
   exact hun hpos
end Go.Proofs.YtdanomklbiidaaaGreatDoor

namespace Go.Proofs.YtdanomklbiidaaaGreatDoor
open Go.RowKit Go.Shelf
attribute [local go_sem] Oper.semAt_some
theorem mat_keepA {B:Nat} {w W:World} {v:Value} {m:List (List Int)} (h:Mat B 22 3 w v m) (hk:∀b,b < w.heap.size→W.heap[b]?=w.heap[b]?):Mat B 22 3 W v m:=by
 obtain ⟨vs,h1,h2,h3⟩:=h
 exact ⟨vs,h1,h2.move fun b hl ht=>⟨hk b hl,ht⟩,fun i hi=>(h3 i hi).move fun b hl ht=>⟨hk b hl,ht⟩⟩
theorem FrO.set {S:Nat→Prop} {B b j:Nat} {t:TypeId} {w:World} {v u:Value} {m:List (List Int)} {vs:List Value} {cur:Array Value} (h:FrO S B w v m vs) (hb:b < B) (hR:w.heap[b]?=some (.cells cur t (0,0))) (ht:t≠3):FrO S B (w.setCell ⟨b,j,none⟩ u) v m vs:=by
 refine ⟨h.len,owns_set h.own hb,h.off,fun i hi=>(h.sl i hi).setCell u ⟨Nat.zero_le _,fun cur' e=>?_⟩,h.so⟩
 have e':w.heap[b]?=some (.cells cur' 3 (0,0)):=e
 rw [hR] at e'
 simp at e'
 exact ht e'.2
theorem pks_len (P:List (List Int)) (c:List Int):(pks P [] c).length=c.length:=by simp [pks]
theorem pks_box {d Bd:Nat} {P:List (List Int)} {c:List Int} (hP:Box d Bd P) (hc:∀i,i < c.length→0≤c.getD i 0∧c.getD i 0 < P.length):Box d Bd (pks P [] c):=by
 intro r hr
 simp only [pks,List.mem_map] at hr
 obtain ⟨z,hz,rfl⟩:=hr
 obtain ⟨t,ht,rfl⟩:=List.getElem_of_mem hz
 have h1:=hc t ht
 have e:c.getD t 0=c[t]:=by simp [ht]
 rw [e] at h1
 exact hP _ (by rw [List.getD_eq_getElem?_getD,List.getElem?_eq_getElem (by omega)]; exact List.getElem_mem _)
end Go.Proofs.YtdanomklbiidaaaGreatDoor

namespace Go.Proofs.YtdanomklbiidaaaGreatDoor
open Go.RowKit
attribute [local go_sem ↓] Go.wp_at_zero Go.wp_at_succ
theorem box_near {d k:Nat} {P:List (List Int)} (h:Box d k P) (hk:k≤100) {x:List Int} (hx:x∈P):(x.any (farB · 100))=false:=by
 rw [List.any_eq_false]
 intro z hz
 have:=(h x hx).2 z hz
 simp [farB]
 omega
theorem Sl.take {B n c:Nat} {w:World} {ao:Option Addr} {zs:List Int} (h:Sl B 3 w (.slice ao zs.length c) (ints zs)) (hn:n≤zs.length):Sl B 3 w (.slice ao n c) (ints (zs.take n)):=by
 obtain ⟨bo,cap,hv,h1,h2,h3,h4⟩:=h
 simp only [Value.slice.injEq] at hv
 obtain ⟨rfl,_,rfl⟩:=hv
 refine ⟨ao,c,by simp; omega,by simp at h1 ⊢; omega,h2,fun i hi=>?_,h4⟩
 have hi':i < n:=by simp at hi; omega
 obtain ⟨b,o,ha,hc,ht⟩:=h3 i (by simp; omega)
 refine ⟨b,o,ha,?_,ht⟩
 rw [hc,ints_get _ _ (by omega),ints_get _ _ (by simp; omega)]
 simp [hi']
def agn (r x:List Int):Int:=cmpI (dotL (r.take x.length) x) (r.getD x.length 0)
set_option maxRecDepth 100000 in
set_option maxHeartbeats 800000 in
theorem against_any (B:Nat) (r x:List Int) (u v:Value) (w:World) (hu:Sl B 3 w u (ints r)) (hv:Sl B 3 w v (ints x)) (hl:r.length=x.length+1) (hs:Sm (r.take x.length) x) :
  Calls Tryz.prog 103 #[u,v] w fun e w'=>e=.returned (.int .i64 (agn r x))∧Below w.heap.size w w':=by
 obtain ⟨ao,cap,huu,hlc,hcm⟩:=sl_open hu
 obtain ⟨bo,cbp,hvv,hlb,hcb⟩:=sl_open hv
 subst huu hvv
 have HU:Hid (Sl B 3 w (.slice ao r.length cap) (ints r)):=hu
 have HV:Hid (Sl B 3 w (.slice bo x.length cbp) (ints x)):=hv
 have HS:Hid (Sm (r.take x.length) x):=hs
 have hTK:=Sl.take (n:=x.length) hu (by omega)
 obtain ⟨b,o,cp,hs1,hc1,hcc⟩:=sl_cell hu (k:=x.length) (by omega)
 simp only [Value.slice.injEq] at hs1
 obtain ⟨rfl,_,rfl⟩:=hs1
 have HTK:Hid (Sl B 3 w (.slice (some ⟨b,o,none⟩) x.length cap) (ints (r.take x.length))):=hTK
 have HP:Hid (∀n,Calls Tryz.prog 113 #[.slice (some ⟨b,o,none⟩) x.length cap,.slice bo x.length cbp] (w.drewN n) fun e w'=>e=.returned (.int .i64 (dotL (r.take x.length) x))∧∃k,w'=(w.drewN n).drewN k):=fun n=>
  product_any B _ x _ _ _ (HTK.out.drewN n) (HV.out.drewN n) HS.out
 have HAG:Hid (agn r x=cmpI (dotL (r.take x.length) x) (r.getD x.length 0)):=rfl
 generalize dotL (r.take x.length) x=D at *
 generalize r.getD x.length 0=q at *
 rw [hl] at hlc
 rw [hl]
 clear hu hv hs hTK
 have HC:Hid (∀n,Calls Tryz.prog 51 #[.int .i64 D,.int .i64 q] (w.drewN n) fun e w'=>e=.returned (.int .i64 (cmpI D q))∧w'=w.drewN n):=fun n=>cmpI_any D q _
 generalize cmpI D q=R at *
 generalize hxl:x.length=xl at *
 have hx0:(0:Int)≤(xl:Int):=by omega
 have hx1:(xl:Int) < (xl:Int)+1:=by omega
 have hx2:xl≤cap:=by omega
 have hx3:(xl:Int)≤(cap:Int):=by omega
 go_enter Tryz.func103,Tryz.ntmps103
 go_wp2
 go_quiet (first | (go_at_call 113; exact Calls.quiet_of (w:=w) (HP.out _)) | (go_at_call 51; exact Calls.quiet_of_same (w:=w) (HC.out _)))
 go_wp2
 go_ret
 exact ⟨by rw [HAG.out]; rfl,⟨rfl,rfl,rfl,Nat.le_refl _,fun _ _=>rfl⟩⟩
end Go.Proofs.YtdanomklbiidaaaGreatDoor

namespace Go.Proofs.YtdanomklbiidaaaGreatDoor
open Go.RowKit
attribute [local go_sem ↓] Go.wp_at_zero Go.wp_at_succ
structure Good (d:Nat) (P:List (List Int)):Prop where
 d1:1≤d
 dm:d≤4
 n2:2≤P.length
 n24:P.length≤24
 box:Box d 30 P
 full:(pickL d (diffL P)).length=d
theorem Good.d4 {d:Nat} {P:List (List Int)} (h:Good d P):d≤4:=Nat.le_trans h.dm (by decide)
end Go.Proofs.YtdanomklbiidaaaGreatDoor
