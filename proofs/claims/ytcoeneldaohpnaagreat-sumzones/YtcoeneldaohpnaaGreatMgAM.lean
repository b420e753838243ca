import Derived.Test.YtcoeneldaohpnaaGreatMgAL
import Derived.Laws.EntriesVeiled
import Derived.Test.YtcoeneldaohpnaaGreatMgAI
import Derived.Test.YtcoeneldaohpnaaGreatMgAC
import Derived.Lib.JoinLaws
import Derived.Test.YtcoeneldaohpnaaGreatMgAK
import Derived.Maps.OwnIn
import Derived.Test.YtcoeneldaohpnaaGreatLinAll
namespace Go.Proofs.YtcoeneldaohpnaaGreat
open Go.RowKit Go.Shelf
attribute [local go_sem] Oper.semAt_some
theorem alloc_new (w:World) (o:Obj):(w.alloc o).heap[w.heap.size]?=some o:=World.alloc_heap_new w o
theorem alloc_keep (w:World) (o:Obj):Below w.heap.size w (w.alloc o):=(Below.refl _ _).alloc (Nat.le_refl _) _
theorem size_alloc (w:World) (o:Obj):(w.alloc o).heap.size=w.heap.size+1:=by simp
theorem cell_of {w:World} {b:Nat} {x:Value} {t:TypeId} (h:w.heap[b]?=some (.cells #[x] t (0,0))):w.cell? ⟨b,0,none⟩=some x:=by simp [World.cell?,h]
theorem fourB (w:World) (o1 o2 o3 o4:Obj) :
  ∃W,W=(((w.alloc o1).alloc o2).alloc o3).alloc o4∧W.heap[w.heap.size]?=some o1∧W.heap[w.heap.size+1]?=some o2∧W.heap[w.heap.size+1+1]?=some o3∧W.heap[w.heap.size+1+1+1]?=some o4∧W.heap.size=w.heap.size+4∧Below w.heap.size w W:=by
 obtain ⟨w1,h1⟩:∃w1,w1=w.alloc o1:=⟨_,rfl⟩
 obtain ⟨w2,h2⟩:∃w2,w2=w1.alloc o2:=⟨_,rfl⟩
 obtain ⟨w3,h3⟩:∃w3,w3=w2.alloc o3:=⟨_,rfl⟩
 have s1:w1.heap.size=w.heap.size+1:=by rw [h1]; exact size_alloc _ _
 have s2:w2.heap.size=w.heap.size+2:=by rw [h2,size_alloc]; omega
 have s3:w3.heap.size=w.heap.size+3:=by rw [h3,size_alloc]; omega
 have n1:w1.heap[w.heap.size]?=some o1:=by rw [h1]; exact alloc_new _ _
 have n2:w2.heap[w.heap.size+1]?=some o2:=by rw [h2,←s1]; exact alloc_new _ _
 have n3:w3.heap[w.heap.size+1+1]?=some o3:=by rw [h3,show w.heap.size+1+1=w2.heap.size by omega]; exact alloc_new _ _
 have b1:Below w.heap.size w w1:=by rw [h1]; exact alloc_keep _ _
 have b2:Below w1.heap.size w1 w2:=by rw [h2]; exact alloc_keep _ _
 have b3:Below w2.heap.size w2 w3:=by rw [h3]; exact alloc_keep _ _
 have b4:Below w3.heap.size w3 (w3.alloc o4):=alloc_keep _ _
 refine ⟨w3.alloc o4,by rw [h3,h2,h1],?_,?_,?_,?_,?_,?_⟩
 ·rw [b4.block _ (by omega),b3.block _ (by omega),b2.block _ (by omega)]; exact n1
 ·rw [b4.block _ (by omega),b3.block _ (by omega)]; exact n2
 ·rw [b4.block _ (by omega)]; exact n3
 ·rw [show w.heap.size+1+1+1=w3.heap.size by omega]; exact alloc_new _ _
 ·rw [size_alloc]; omega
 ·exact ((b1.trans (b2.mono (by omega))).trans (b3.mono (by omega))).trans (b4.mono (by omega))
set_option maxRecDepth 100000 in
set_option maxHeartbeats 4000000 in
theorem of_seq (n many bm bn:Nat) (w0:World) (hm5:many≤8) (hn:n≤1000) (hcm:w0.cell? ⟨bm,0,none⟩=some (.int .i64 many)) (hcn:w0.cell? ⟨bn,0,none⟩=some (.int .i64 n)) :
  SeqS Tryz.prog 44 #[.pointer (some ⟨bm,0,none⟩),.pointer (some ⟨bn,0,none⟩)] (Hand w0.heap.size) (ext n many 0) (fun _=>False) (fun b=>b=bm∨b=bn) w0:=by
 intro l J Jx W hW hst hstx hY hJ
 have hbm:=lt_cell0 hcm
 have hbn:=lt_cell0 hcn
 have c1:W.cell? ⟨bm,0,none⟩=some (.int .i64 many):=(hW.cell (p:=⟨bm,0,none⟩) hbm).trans hcm
 have c2:W.cell? ⟨bn,0,none⟩=some (.int .i64 n):=(hW.cell (p:=⟨bn,0,none⟩) hbn).trans hcn
 have hmk:=run_make_row' (P:=Tryz.prog) 26 3 (.int .i64 0) 8 Tryz.underlying26 Tryz.info3 rfl .i64 .i64 many (by omega) (by omega)
 obtain ⟨W4,hW4,e1,e2,e3,e4,hsz,hbw⟩:=fourB W (.cells #[.func (.yield l) #[] #[]] 58) (.cells (madeCells #[.int .i64 0] many) 3) (.cells #[.slice (some ⟨W.heap.size+1,0,none⟩) many many] 26)
  (.cells #[.func (.func 45) #[] #[.pointer (some ⟨bm,0,none⟩),.pointer (some ⟨W.heap.size,0,none⟩),.pointer (some ⟨W.heap.size+1+1,0,none⟩),.pointer (some ⟨bn,0,none⟩),.pointer (some ⟨W.heap.size+1+1+1,0,none⟩)]] 51)
 have hwm:=lt_cell0 c1
 have hwn:=lt_cell0 c2
 obtain ⟨S,hS⟩:∃S:Nat→Prop,S=fun b=>b=bm∨b=bn∨(W.heap.size≤b∧b < W.heap.size+4):=⟨_,rfl⟩
 have ho:Ox W4 l n many bm W.heap.size (W.heap.size+1+1) bn (W.heap.size+1+1+1) (W.heap.size+1):=
  ⟨(hbw.cell (p:=⟨bm,0,none⟩) hwm).trans c1,cell_of e1,cell_of e3,(hbw.cell (p:=⟨bn,0,none⟩) hwn).trans c2,cell_of e4⟩
 have hrow:W4.rowIs (W.heap.size+1) 3 many (fun _=>.int .i64 0):=by
  refine ⟨_,e2,?_,fun i hi=>?_⟩
  ·rw [←Array.length_toList,toList_madeCells_one]; simp
  ·rw [←Array.getElem?_toList,toList_madeCells_one]; simp [hi]
 have hbx:Bxo S bm W.heap.size (W.heap.size+1+1) bn (W.heap.size+1+1+1) (W.heap.size+1):=by
  rw [hS]
  exact ⟨.inl rfl,.inr (.inr (by omega)),.inr (.inr (by omega)),.inr (.inl rfl),.inr (.inr (by omega)),.inr (.inr (by omega)),fun b hb=>by omega⟩
 have hJ4:J S [] W4:=hst _ S [] W W4 hJ (Chg.of_below hbw (Nat.le_refl _)) (fun b hb=>by
  rw [hS] at hb
  rcases hb with h | h | h
  ·exact .inl (.inl h)
  ·exact .inl (.inr h)
  ·exact .inr h.1)
 have HC:Hid (CallsIn Fence.wide 0 Tryz.prog 45 #[.int .i64 0,.int .i64 0,.pointer (some ⟨bm,0,none⟩),.pointer (some ⟨W.heap.size,0,none⟩),.pointer (some ⟨W.heap.size+1+1,0,none⟩),.pointer (some ⟨bn,0,none⟩),.pointer (some ⟨W.heap.size+1+1+1,0,none⟩)] W4 fun e W'=>
   (e=.returned (.bool true)∧J S ([] ++ (ext n many 0).map ([] ++ ·)) W'∧Ox W' l n many bm W.heap.size (W.heap.size+1+1) bn (W.heap.size+1+1+1) (W.heap.size+1)∧W4.heap.size≤W'.heap.size∧∃f',W'.rowIs (W.heap.size+1) 3 many f'∧∀j,j < 0→f' j=.int .i64 0)∨
   (e=.returned (.bool false)∧∃q,q <+: ext n many 0∧Jx S q W')):=fill_any many w0.heap.size l n many bm W.heap.size (W.heap.size+1+1) bn (W.heap.size+1+1+1) (W.heap.size+1) S (fun _=>False) J Jx (ext n many 0) hst hbx hm5 hn (by have:=hW.size; omega) hY [] 0 [] _ W4 (by simp) (Nat.zero_le _) ho hrow (fun j hj=>absurd hj (by simp)) (fun b hb=>by
  rw [hS] at hb
  rcases hb with h | h | h <;> omega) hJ4 (by simp)
 have HW4:Hid (W4=(((W.alloc (.cells #[.func (.yield l) #[] #[]] 58)).alloc (.cells (madeCells #[.int .i64 0] many) 3)).alloc (.cells #[.slice (some ⟨W.heap.size+1,0,none⟩) many many] 26)).alloc
  (.cells #[.func (.func 45) #[] #[.pointer (some ⟨bm,0,none⟩),.pointer (some ⟨W.heap.size,0,none⟩),.pointer (some ⟨W.heap.size+1+1,0,none⟩),.pointer (some ⟨bn,0,none⟩),.pointer (some ⟨W.heap.size+1+1+1,0,none⟩)]] 51)):=hW4
 clear hst hstx hY hJ ho hrow hbx hJ4 e1 e2 e3 e4 hsz hbw hW hcm hcn hW4
 refine callsIn_of_wp Tryz.func44 rfl trivial ?_ rfl
 simp only [Tryz.ntmps44,List.size_toArray,List.length_cons,List.length_nil,Nat.reduceAdd,Nat.reduceSub,Array.replicate_succ,Array.replicate_zero,List.push_toArray,List.append_toArray,List.nil_append,List.cons_append]
 gi_wp2_with fail
 refine ⟨trivial,rfl,?_⟩
 rw [←HW4.out]
 refine (HC.out).mono ?_
 rintro e W' (⟨rfl,a1,_⟩ | ⟨rfl,a1⟩)
 ·have A:Hid (J S (ext n many 0) W'):=by
   have e : [] ++ (ext n many 0).map ([] ++ ·)=ext n many 0:=by simp
   rw [e] at a1
   exact a1
  clear a1
  gi_wp2
  go_end0
  exact ⟨⟨_,rfl⟩,.inl ⟨S,A.out⟩⟩
 ·have A:Hid (∃q,q <+: ext n many 0∧Jx S q W'):=a1
  clear a1
  gi_wp2
  go_end0
  exact ⟨⟨_,rfl⟩,.inr ⟨S,A.out⟩⟩
set_option maxHeartbeats 1000000 in
theorem of_any (n many:Int) (w:World):Calls Tryz.prog 24 #[.int .i64 n,.int .i64 many] w fun e w'=>
  e=.returned (.func (.func 44) #[] #[.pointer (some ⟨w.heap.size+1,0,none⟩),.pointer (some ⟨w.heap.size,0,none⟩)])∧w'=(w.alloc (.cells #[.int .i64 n] 3)).alloc (.cells #[.int .i64 many] 3):=by
 go_enter Tryz.func24,Tryz.ntmps24
 go_wp2
 go_ret
 exact ⟨rfl,rfl⟩
end Go.Proofs.YtcoeneldaohpnaaGreat

namespace Go.Proofs.YtcoeneldaohpnaaGreat
open Go.RowKit
def chs:Nat→List (List Int)→List (List (List Int))
 | 0,_=>[[]]
 | _+1,[]=>[]
 | k+1,x :: xs=>((chs k xs).map (x :: ·)) ++ chs (k+1) xs
theorem chs_len:∀k l,(chs k l).length≤(l.length+1) ^ k
 | 0,_=>by simp [chs]
 | k+1,[]=>by simp [chs]
 | k+1,x :: xs=>by
  have h1:=chs_len k xs
  have h2:=chs_len (k+1) xs
  simp only [chs,List.length_append,List.length_map,List.length_cons]
  have h3:(xs.length+1) ^ (k+1)=(xs.length+1) ^ k*(xs.length+1):=Nat.pow_succ _ _
  have h4:(xs.length+1+1) ^ (k+1)=(xs.length+1+1) ^ k*(xs.length+1+1):=Nat.pow_succ _ _
  have h5:(xs.length+1) ^ k≤(xs.length+1+1) ^ k:=Nat.pow_le_pow_left (by omega) k
  have h6:(xs.length+1) ^ k*(xs.length+1)+(xs.length+1) ^ k≤(xs.length+1+1) ^ k*(xs.length+1+1):=by
   have:(xs.length+1) ^ k*(xs.length+1)+(xs.length+1) ^ k=(xs.length+1) ^ k*(xs.length+1+1):=(Nat.mul_succ _ _).symm
   rw [this]; exact Nat.mul_le_mul_right _ h5
  omega
def rowsC (P pre:List (List Int)) (k:Nat) (l:List (List Int)):List (List Int):=(chs k l).flatMap fun c=>(rowT (pre ++ c) P).toList
theorem chs_chz:∀(k:Nat) (l:List (List Int)),chs k l=chz k l
 | 0,l=>by cases l <;> simp [chs,chz]
 | k+1,[]=>by simp [chs,chz]
 | k+1,x :: xs=>by
  simp only [chs,chz]
  rw [chs_chz k xs,chs_chz (k+1) xs]
theorem rows_ext (P:List (List Int)) (d:Nat):(ext P.length d 0).flatMap (fun c=>(rowT (pks P [] c) P).toList)=rowsC P [] d P:=by
 unfold rowsC
 have h:=chz_ext P [] d 0
 rw [List.drop_zero] at h
 rw [chs_chz,←h,List.flatMap_map]
 simp
end Go.Proofs.YtcoeneldaohpnaaGreat

namespace Go.Proofs.YtcoeneldaohpnaaGreat
open Go.RowKit
theorem pkd_snoc (P:List (List Int)) (x:List Int) (k:Nat) (h:k < x.length):pks P [] (x.take (k+1))=pks P [] (x.take k) ++ [P.getD (x.getD k 0).toNat []]:=by
 rw [take_snoc_int x k h]
 simp [pks]
set_option maxRecDepth 100000 in
set_option maxHeartbeats 800000 in
theorem pickedK_any (B:Nat) (P:List (List Int)) (x:List Int) (v u:Value) (w:World) (hv:Mat B 26 3 w v P) (hu:Sl B 3 w u (ints x)) (hx:∀i,i < x.length→0≤x.getD i 0∧x.getD i 0 < P.length) (hl:x.length≤1000) :
  Calls Tryz.prog 26 #[v,u] w fun e w'=>∃z,e=.returned z∧Rws w.heap.size 26 3 w' z (pks P [] x)∧Below w.heap.size w w':=by
 obtain ⟨i0,hi,hz0,hz1,hz2⟩:=info_parts Tryz.info26
 obtain ⟨ao,cap,hvv,hlc,hcm⟩:=mat_open hv
 obtain ⟨bo,cbp,huu,hlb,hcb⟩:=sl_open hu
 subst hvv huu
 have HV:Hid (Mat w.heap.size 26 3 w (.slice ao P.length cap) P):=hv.any (Nat.le_refl _)
 have HU:Hid (Sl B 3 w (.slice bo x.length cbp) (ints x)):=hu
 have HX:Hid (∀i,i < x.length→0≤x.getD i 0∧x.getD i 0 < P.length):=hx
 clear hv hu hx
 have hmk:=run_make_room (P:=Tryz.prog) 22 26 (.slice none 0 0) 24 Tryz.underlying22 Tryz.info26 rfl .i64 .i64 x.length (by omega) (by omega)
 have HO0:Hid (Rws w.heap.size 26 3 (w.alloc (.cells (madeCells #[.slice none 0 0] x.length) 26)) (.slice (some ⟨w.heap.size,0,none⟩) 0 x.length) []):=
  ⟨[],rfl,World.ownsRow_made w _ x.length (Nat.le_refl _) (by unfold maxLen; omega) (by rw [size_madeCells]; omega),fun i hi=>absurd hi (by simp)⟩
 have HB0:Hid (Below w.heap.size w (w.alloc (.cells (madeCells #[.slice none 0 0] x.length) 26))):=alloc_keep _ _
 go_enter Tryz.func26,Tryz.ntmps26
 go_wp2
 go_loopw [5,13,7] (fun s i _ wr=>∃k:Nat,k≤x.length∧i=.int .i64 k∧Rws w.heap.size 26 3 wr s (pks P [] (x.take k))∧Below w.heap.size w wr) (fun _ i _ _=>x.length-(intOf i).toNat)
 case atStart=>exact ⟨0,Nat.zero_le _,rfl,HO0.out,HB0.out⟩
 case round=>
  obtain ⟨k,hk,rfl,hr,hb⟩:=hrel
  have HR:Hid (Rws w.heap.size 26 3 wr u5 (pks P [] (x.take k))):=hr
  have HB:Hid (Below w.heap.size w wr):=hb
  have hsz:w.heap.size≤wr.heap.size:=hb.size
  clear hr hb
  by_cases hlt:k < x.length
  ·obtain ⟨b,o,cp,hs,hc1,hcc⟩:=sl_cell (HU.out.below HB.out (Nat.le_refl _)) hlt
   simp only [Value.slice.injEq] at hs
   obtain ⟨rfl,_,rfl⟩:=hs
   obtain ⟨hx0,hx1⟩:=HX.out k hlt
   have HSN:Hid (pks P [] (x.take (k+1))=pks P [] (x.take k) ++ [P.getD (x.getD k 0).toNat []]):=pkd_snoc P x k hlt
   have HLN:Hid ((pks P [] (x.take k)).length=k):=by show _=_; simp [pks]; omega
   obtain ⟨q,hq⟩:∃q:Nat,x.getD k 0=(q:Int):=⟨(x.getD k 0).toNat,by omega⟩
   rw [hq] at hcc hx0 hx1 HSN
   rw [show ((q:Int)).toNat=q by omega] at HSN
   clear hq
   have hqP:q < P.length:=by omega
   obtain ⟨b2,o2,cp2,r2,hs2,_,hcc2,hr2⟩:=mat_cell (HV.out.below HB.out (Nat.le_refl _)) hqP
   simp only [Value.slice.injEq,true_and] at hs2
   obtain ⟨rfl,rfl⟩:=hs2
   obtain ⟨ro,rc,hrv,_,_⟩:=sl_open hr2
   subst hrv
   have HR2:Hid (Sl w.heap.size 3 wr (.slice ro (P.getD q []).length rc) (ints (P.getD q []))):=hr2
   clear hr2
   generalize P.getD q []=y at *
   generalize hyl:y.length=yl at *
   clear hyl
   obtain ⟨vs,g1,g2,g3⟩:=HR.out
   have hlen:=HLN.out
   rw [hlen] at g1 g2 g3
   have G1:Hid (vs.length=k):=g1
   have G2:Hid (wr.ownsRow w.heap.size 26 1 u5 k vs):=g2
   have G3:Hid (∀i,i < k→Sl w.heap.size 3 wr (vs.getD i (.slice none 0 0)) (ints ((pks P [] (x.take k)).getD i []))):=g3
   clear g1 g2 g3 hlen
   go_wp2_with (first | (at_builtin; refine wpList_append_own _ rfl _ _ 22 rfl w.heap.size 26 i0 (.slice none 0 0) 1 24 Tryz.underlying22 hi hz0 hz1 hz2 rfl (by decide) _ _ _ rfl (G2.out.alloc _) ⟨wr.heap.size,0,none⟩ 1 1 [.slice ro yl rc] rfl rfl (one_new _ _ _) (one_slice _ _ _) ?d3 ?d4 ?d5 ?_))
   case d3=>unfold maxLen; omega
   case d4=>omega
   case d5=>simp; omega
   intro v' w3 ho hg _
   have R1:Hid (Rws w.heap.size 26 3 w3 v' (pks P [] (x.take (k+1)))):=by
    have hp:=Rws.push (e2:=26) (e1:=3) (m:=pks P [] (x.take k)) (u:=.slice ro yl rc) (zs:=y) (by decide) (by rw [HLN.out]; exact G1.out) (by rw [HLN.out]; exact G2.out.alloc _)
     (fun i hi=>(G3.out i (by rw [HLN.out] at hi; exact hi)).alloc _) (HR2.out.alloc _) (by rw [HLN.out]; exact ho) hg
    rw [←HSN.out] at hp
    exact hp
   have R2:Hid (Below w.heap.size w w3):=(HB.out.alloc hsz _).grown hg (by simp; omega) (fun x hx=>(G2.out.lt x hx).1)
   clear ho hg
   go_wp2
   go_roundw
   case rel=>exact ⟨k+1,by omega,by go_num,R1.out,R2.out⟩
   case measure=>simp [intOf]; omega
  ·have hke:x.take k=x:=List.take_of_length_le (by omega)
   have HR':Hid (Rws w.heap.size 26 3 wr u5 (pks P [] x)):=by have:=HR.out; rw [hke] at this; exact this
   clear HR
   go_wp2
   go_ret
   exact ⟨_,rfl,HR'.out,HB.out⟩
end Go.Proofs.YtcoeneldaohpnaaGreat

namespace Go.Proofs.YtcoeneldaohpnaaGreat
open Go.RowKit Go.Shelf
attribute [local go_sem] Oper.semAt_some
attribute [local go_sem ↓] Go.wp_at_zero Go.wp_at_succ
theorem pks_snocP (P:List (List Int)) (x:List Int) (k:Nat) (h:k < x.length):pks P [] (x.take (k+1))=pks P [] (x.take k) ++ [P.getD (x.getD k 0).toNat []]:=by
 rw [take_snoc_int x k h]
 simp [pks]
theorem pickedP_any (B:Nat) (P:List (List Int)) (x:List Int) (v u:Value) (w:World) (hv:Mat B 26 3 w v P) (hu:Sl B 3 w u (ints x)) (hx:∀i,i < x.length→0≤x.getD i 0∧x.getD i 0 < P.length) (hl:x.length≤1000) :
  Calls Tryz.prog 26 #[v,u] w fun e w'=>∃z,e=.returned z∧Rws w.heap.size 26 3 w' z (pks P [] x)∧Below w.heap.size w w':=
 pickedK_any B P x v u w hv hu hx hl
end Go.Proofs.YtcoeneldaohpnaaGreat

namespace Go.Proofs.YtcoeneldaohpnaaGreat
open Go.RowKit Go.Shelf
attribute [local go_sem] Oper.semAt_some
theorem handA_below (N0:Nat) (W:World) (S:Nat→Prop) (x:List Int) (vs:Array Value) (W':World) (h:Hand N0 W S x vs) (hb:Below W.heap.size W W'):Hand N0 W' S x vs:=by
 obtain ⟨v,B0,h1,h2,h3,h4,h5⟩:=h
 exact ⟨v,B0,h1,owns_below h2 hb (Nat.le_refl _),h3,h4,Nat.le_trans h5 hb.size⟩
theorem handA_put (N0:Nat) (W:World) (S:Nat→Prop) (x:List Int) (vs:Array Value) (l:Nat) (r:Loop) (o:Obj) (h:Hand N0 W S x vs) (hl:W.heap[l]?=some (.loop r)):Hand N0 (W.putObj l o) S x vs:=by
 obtain ⟨v,B0,h1,h2,h3,h4,h5⟩:=h
 exact ⟨v,B0,h1,ownsRow_putObj h2 _ hl rfl,h3,h4,by simpa using h5⟩
structure FrO (S:Nat→Prop) (B:Nat) (W:World) (v:Value) (m:List (List Int)) (vs:List Value):Prop where
 len:vs.length=m.length
 own:W.ownsRow B 26 1 v m.length vs
 off:∀g,v.ownBlock=some g→¬S g
 sl:∀i,i < m.length→Sl 0 3 W (vs.getD i (.slice none 0 0)) (ints (m.getD i []))
 so:∀i,i < m.length→0 < (m.getD i []).length→∃a n c,vs.getD i (.slice none 0 0)=.slice (some a) n c∧¬S a.block
theorem FrO.fr {S:Nat→Prop} {B:Nat} {W:World} {v:Value} {m:List (List Int)} {vs:List Value} (h:FrO S B W v m vs):Fr B 26 3 W v m:=⟨vs,h.len,h.own,h.sl⟩
theorem sl_pos_keep {w W:World} {v:Value} {xs:List Int} (h:Sl 0 3 w v (ints xs)) (hk:0 < xs.length→∀a n c,v=.slice (some a) n c→W.heap[a.block]?=w.heap[a.block]?):Sl 0 3 W v (ints xs):=by
 obtain ⟨ao,cap,rfl,h1,h2,h3,h4⟩:=h
 refine ⟨ao,cap,rfl,h1,h2,fun i hi=>?_,h4⟩
 obtain ⟨b,o,rfl,hc,ht⟩:=h3 i hi
 have k1:=hk (by simpa using (Nat.lt_of_le_of_lt (Nat.zero_le _) hi)) _ _ _ rfl
 refine ⟨b,o,rfl,(World.cell?_of_block (w:=w) (a:=⟨b,o+i,none⟩) k1).trans hc,?_⟩
 rcases ht with ht | ⟨cur,ht⟩
 ·omega
 ·exact .inr ⟨cur,k1.trans ht⟩
theorem sl_block {w:World} {a:Addr} {n c:Nat} {xs:List Int} (h:Sl 0 3 w (.slice (some a) n c) (ints xs)) (hp:0 < xs.length):a.block < w.heap.size:=by
 obtain ⟨ao,cap,hv,_,_,h3,_⟩:=h
 simp only [Value.slice.injEq] at hv
 obtain ⟨rfl,_,_⟩:=hv
 obtain ⟨b,o,ha,hc,_⟩:=h3 0 (by simpa using hp)
 cases ha
 have hx:(ints xs)[0]?=some (.int .i64 (xs.getD 0 0)):=ints_get _ _ hp
 exact lt_of_cell (hc.trans hx)
theorem FrO.keep {S S':Nat→Prop} {B:Nat} {W W':World} {v:Value} {m:List (List Int)} {vs:List Value} (h:FrO S B W v m vs) (hc:∀b,b < W.heap.size→¬S b→W'.heap[b]?=W.heap[b]?) (hs:∀b,S' b→S b∨W.heap.size≤b):FrO S' B W' v m vs:=by
 refine ⟨h.len,⟨h.own.1,?_⟩,fun g hg hx=>?_,fun i hi=>sl_pos_keep (h.sl i hi) (fun hp a n c e=>?_),fun i hi hp=>?_⟩
 ·rcases h.own.2 with h2 | ⟨g,cap,cur,rfl,hb,hh,r⟩
  ·exact Or.inl h2
  ·exact Or.inr ⟨g,cap,cur,rfl,hb,(hc g (lt_of_block hh) (h.off g rfl)).trans hh,r⟩
 ·rcases hs g hx with h1 | h1
  ·exact h.off g hg h1
  ·have:=(h.own.lt g hg).2; omega
 ·obtain ⟨a',n',c',e',hn⟩:=h.so i hi hp
  rw [e] at e'
  cases e'
  have hsl:=h.sl i hi
  rw [e] at hsl
  exact hc _ (sl_block hsl hp) hn
 ·obtain ⟨a,n,c,e,hn⟩:=h.so i hi hp
  refine ⟨a,n,c,e,fun hx=>?_⟩
  have hsl:=h.sl i hi
  rw [e] at hsl
  rcases hs _ hx with h1 | h1
  ·exact hn h1
  ·have:=sl_block hsl hp; omega
theorem FrO.push {S:Nat→Prop} {B:Nat} {W W':World} {v v' u:Value} {m:List (List Int)} {vs:List Value} {zs:List Int} (h:FrO S B W v m vs) (hu:Sl 0 3 W u (ints zs)) (hun:0 < zs.length→∃a n c,u=.slice (some a) n c∧¬S a.block)
  (ho:W'.ownsRow B 26 1 v' (m.length+1) (vs ++ [u])) (hg:W.grownBy W' v.ownBlock) (hn:∀g,v'.ownBlock=some g→¬S g):FrO S B W' v' (m ++ [zs]) (vs ++ [u]):=by
 have hp:=Fr.push (e2:=26) (e1:=3) (m:=m) (u:=u) (zs:=zs) (by decide) h.len h.own h.sl hu ho hg
 have ht:∀k,v.ownBlock=some k→0≤k∧∀cur,W.heap[k]?≠some (.cells cur 3 (0,0)):=fun k hk=>⟨Nat.zero_le _,(owns_typed h.own (by decide) k hk).2⟩
 refine ⟨by simp [h.len],by simpa using ho,hn,fun i hi=>?_,fun i hi hpos=>?_⟩
 ·by_cases hlt:i < m.length
  ·have e1':(vs ++ [u]).getD i (.slice none 0 0)=vs.getD i (.slice none 0 0):=by
    simp only [List.getD_eq_getElem?_getD]; rw [List.getElem?_append_left (by have:=h.len; omega)]
   have e2':(m ++ [zs]).getD i []=m.getD i []:=by
    simp only [List.getD_eq_getElem?_getD]; rw [List.getElem?_append_left (by omega)]
   rw [e1',e2']
   exact (h.sl i hlt).grown hg ht
  ·have hi':i=m.length:=by simp at hi; omega
   subst hi'
   have e1':(vs ++ [u]).getD m.length (.slice none 0 0)=u:=by
    rw [←h.len]; simp
   have e2':(m ++ [zs]).getD m.length []=zs:=by simp
   rw [e1',e2']
   exact hu.grown hg ht
 ·by_cases hlt:i < m.length
  ·have e1':(vs ++ [u]).getD i (.slice none 0 0)=vs.getD i (.slice none 0 0):=by
    simp only [List.getD_eq_getElem?_getD]; rw [List.getElem?_append_left (by have:=h.len; omega)]
   have e2':(m ++ [zs]).getD i []=m.getD i []:=by
    simp only [List.getD_eq_getElem?_getD]; rw [List.getElem?_append_left (by omega)]
   rw [e2'] at hpos
   rw [e1']
   exact h.so i hlt hpos
  ·have hi':i=m.length:=by simp at hi; omega
   subst hi'
   have e1':(vs ++ [u]).getD m.length (.slice none 0 0)=u:=by
    rw [←h.len]; simp
   have e2':(m ++ [zs]).getD m.length []=zs:=by simp
   rw [e2'] at hpos
   rw [e1']
   exact hun hpos
end Go.Proofs.YtcoeneldaohpnaaGreat

namespace Go.Proofs.YtcoeneldaohpnaaGreat
open Go.RowKit Go.Shelf
attribute [local go_sem] Oper.semAt_some
theorem mat_keepA {B:Nat} {w W:World} {v:Value} {m:List (List Int)} (h:Mat B 26 3 w v m) (hk:∀b,b < w.heap.size→W.heap[b]?=w.heap[b]?):Mat B 26 3 W v m:=by
 obtain ⟨vs,h1,h2,h3⟩:=h
 exact ⟨vs,h1,h2.move fun b hl ht=>⟨hk b hl,ht⟩,fun i hi=>(h3 i hi).move fun b hl ht=>⟨hk b hl,ht⟩⟩
theorem FrO.set {S:Nat→Prop} {B b j:Nat} {t:TypeId} {w:World} {v u:Value} {m:List (List Int)} {vs:List Value} {cur:Array Value} (h:FrO S B w v m vs) (hb:b < B) (hR:w.heap[b]?=some (.cells cur t (0,0))) (ht:t≠3):FrO S B (w.setCell ⟨b,j,none⟩ u) v m vs:=by
 refine ⟨h.len,owns_set h.own hb,h.off,fun i hi=>(h.sl i hi).setCell u ⟨Nat.zero_le _,fun cur' e=>?_⟩,h.so⟩
 have e':w.heap[b]?=some (.cells cur' 3 (0,0)):=e
 rw [hR] at e'
 simp at e'
 exact ht e'.2
theorem pks_len (P:List (List Int)) (c:List Int):(pks P [] c).length=c.length:=by simp [pks]
end Go.Proofs.YtcoeneldaohpnaaGreat

namespace Go.Proofs.YtcoeneldaohpnaaGreat
open Go.RowKit
attribute [local go_sem ↓] Go.wp_at_zero Go.wp_at_succ
theorem Sl.take {B n c:Nat} {w:World} {ao:Option Addr} {zs:List Int} (h:Sl B 3 w (.slice ao zs.length c) (ints zs)) (hn:n≤zs.length):Sl B 3 w (.slice ao n c) (ints (zs.take n)):=by
 obtain ⟨bo,cap,hv,h1,h2,h3,h4⟩:=h
 simp only [Value.slice.injEq] at hv
 obtain ⟨rfl,_,rfl⟩:=hv
 refine ⟨ao,c,by simp; omega,by simp at h1 ⊢; omega,h2,fun i hi=>?_,h4⟩
 have hi':i < n:=by simp at hi; omega
 obtain ⟨b,o,ha,hc,ht⟩:=h3 i (by simp; omega)
 refine ⟨b,o,ha,?_,ht⟩
 rw [hc,ints_get _ _ (by omega),ints_get _ _ (by simp; omega)]
 simp [hi']
def agn (r x:List Int):Int:=cmpI (dotL (r.take x.length) x) (r.getD x.length 0)
set_option maxRecDepth 100000 in
set_option maxHeartbeats 800000 in
theorem against_any (B:Nat) (r x:List Int) (u v:Value) (w:World) (hu:Sl B 3 w u (ints r)) (hv:Sl B 3 w v (ints x)) (hl:r.length=x.length+1) (hs:Sm (r.take x.length) x) :
  Calls Tryz.prog 70 #[u,v] w fun e w'=>e=.returned (.int .i64 (agn r x))∧Below w.heap.size w w':=by
 obtain ⟨ao,cap,huu,hlc,hcm⟩:=sl_open hu
 obtain ⟨bo,cbp,hvv,hlb,hcb⟩:=sl_open hv
 subst huu hvv
 have HU:Hid (Sl B 3 w (.slice ao r.length cap) (ints r)):=hu
 have HV:Hid (Sl B 3 w (.slice bo x.length cbp) (ints x)):=hv
 have HS:Hid (Sm (r.take x.length) x):=hs
 have hTK:=Sl.take (n:=x.length) hu (by omega)
 obtain ⟨b,o,cp,hs1,hc1,hcc⟩:=sl_cell hu (k:=x.length) (by omega)
 simp only [Value.slice.injEq] at hs1
 obtain ⟨rfl,_,rfl⟩:=hs1
 have HTK:Hid (Sl B 3 w (.slice (some ⟨b,o,none⟩) x.length cap) (ints (r.take x.length))):=hTK
 have HP:Hid (∀n,Calls Tryz.prog 86 #[.slice (some ⟨b,o,none⟩) x.length cap,.slice bo x.length cbp] (w.drewN n) fun e w'=>e=.returned (.int .i64 (dotL (r.take x.length) x))∧∃k,w'=(w.drewN n).drewN k):=fun n=>
  product_any B _ x _ _ _ (HTK.out.drewN n) (HV.out.drewN n) HS.out
 have HAG:Hid (agn r x=cmpI (dotL (r.take x.length) x) (r.getD x.length 0)):=rfl
 generalize dotL (r.take x.length) x=D at *
 generalize r.getD x.length 0=q at *
 rw [hl] at hlc
 rw [hl]
 clear hu hv hs hTK
 have HC:Hid (∀n,Calls Tryz.prog 85 #[.int .i64 D,.int .i64 q] (w.drewN n) fun e w'=>e=.returned (.int .i64 (cmpI D q))∧w'=w.drewN n):=fun n=>cmpI_any D q _
 generalize cmpI D q=R at *
 generalize hxl:x.length=xl at *
 have hx0:(0:Int)≤(xl:Int):=by omega
 have hx1:(xl:Int) < (xl:Int)+1:=by omega
 have hx2:xl≤cap:=by omega
 have hx3:(xl:Int)≤(cap:Int):=by omega
 go_enter Tryz.func70,Tryz.ntmps70
 go_wp2
 go_quiet (first | (go_at_call 86; exact Calls.quiet_of (w:=w) (HP.out _)) | (go_at_call 85; exact Calls.quiet_of_same (w:=w) (HC.out _)))
 go_wp2
 go_ret
 exact ⟨by rw [HAG.out]; rfl,⟨rfl,rfl,rfl,Nat.le_refl _,fun _ _=>rfl⟩⟩
end Go.Proofs.YtcoeneldaohpnaaGreat

namespace Go.Proofs.YtcoeneldaohpnaaGreat
open Go.RowKit
attribute [local go_sem ↓] Go.wp_at_zero Go.wp_at_succ
structure Good (d:Nat) (P:List (List Int)):Prop where
 d1:1≤d
 dm:d≤3
 n2:2≤P.length
 n24:P.length≤64
 box:Box d 100 P
 full:(pickL d (diffL P)).length=d
theorem Good.d4 {d:Nat} {P:List (List Int)} (h:Good d P):d≤4:=Nat.le_trans h.dm (by decide)
end Go.Proofs.YtcoeneldaohpnaaGreat

namespace Go.Proofs.YtcoeneldaohpnaaGreat
open Lin
def V (l:List Int):Nat→Int:=fun j=>l.getD j 0
theorem V_neg (l:List Int) (i:Nat):V (l.map fun z=>-z) i=- V l i:=by
 simp only [V,List.getD_eq_getElem?_getD,List.getElem?_map]
 cases l[i]? <;> simp
theorem mem_fm {m:List (List Int)} {r:Nat→Int} : r∈fm m↔∃l∈m,r=V l:=by
 simp only [fm,List.mem_map]
 constructor
 ·rintro ⟨l,hl,rfl⟩; exact ⟨l,hl,rfl⟩
 ·rintro ⟨l,hl,rfl⟩; exact ⟨l,hl,rfl⟩
theorem norm_par {d:Nat} {m:List (List Int)} (hl:(pickL d m).length+1=d):∃k:Int,k≠0∧∀i,i < d→mu (fm (pickL d m)) i=k*V (normL d m) i:=by
 have hg:=pick_greedy d m
 have hl':(fm (pickL d m)).length+1=d:=by rw [fm_length]; exact hl
 obtain ⟨⟨p,hp,hne⟩,_,_⟩:=greedy_one hg hl'
 have hn:normL d m=upr (low (muL d (pickL d m))):=if_pos hl
 rw [hn]
 have hat:∀i,i < d→V (muL d (pickL d m)) i=mu (fm (pickL d m)) i:=fun i hi=>by simp [V,muL,hi]
 generalize muL d (pickL d m)=l at *
 have hll:∀i,i < d→V l i∈l∨V l i=0:=fun i _=>by
  by_cases h:i < l.length
  ·exact Or.inl (getD_mem h)
  ·right; simp only [V,List.getD_eq_getElem?_getD]; rw [List.getElem?_eq_none (by omega)]; rfl
 have hdv:∀i,i < d→((gc l:Nat):Int) ∣ V l i:=fun i hi=>by
  rcases hll i hi with h | h
  ·exact gc_dvd h
  ·rw [h]; exact Int.dvd_zero _
 have hg0:((gc l:Nat):Int)≠0:=by
  intro h0
  have h1:=hdv p hp
  rw [h0] at h1
  have h2:=Int.zero_dvd.1 h1
  rw [hat p hp] at h2
  exact hne h2
 have hlow:∀i,i < d→V l i=((gc l:Nat):Int)*V (low l) i:=fun i hi=>by
  have e:V (low l) i=V l i / ((gc l:Nat):Int):=by
   simp only [V,low,List.getD_eq_getElem?_getD,List.getElem?_map]
   cases l[i]? <;> simp
  rw [e,Int.mul_ediv_cancel' (hdv i hi)]
 unfold upr
 split
 ·refine ⟨-((gc l:Nat):Int),by omega,fun i hi=>?_⟩
  rw [V_neg,←hat i hi,hlow i hi]; grind
 ·exact ⟨((gc l:Nat):Int),hg0,fun i hi=>by rw [←hat i hi,hlow i hi]⟩
theorem norm_spec {d:Nat} {m:List (List Int)} (hl:(pickL d m).length+1=d) :
  (∃i,i < d∧V (normL d m) i≠0)∧(∀r∈m,dot d (V r) (V (normL d m))=0)∧∀u:Nat→Int,(∀r∈m,dot d (V r) u=0)→Par d u (V (normL d m)):=by
 have hl':(fm (pickL d m)).length+1=d:=by rw [fm_length]; exact hl
 obtain ⟨⟨p,hp,hne⟩,h1,h2⟩:=greedy_one (pick_greedy d m) hl'
 obtain ⟨k,hk,hmu⟩:=norm_par hl
 refine ⟨⟨p,hp,fun e=>hne (by rw [hmu p hp,e,Int.mul_zero])⟩,fun r hr=>?_,fun u hu i j hi hj=>?_⟩
 ·have h:=h1 (V r) (mem_fm.2 ⟨r,hr,rfl⟩)
  have e:dot d (V r) (mu (fm (pickL d m)))=k*dot d (V r) (V (normL d m)):=by
   unfold dot
   rw [←sumN_mul]
   exact sumN_congr fun i hi=>by rw [hmu i hi]; grind
  rw [e] at h
  exact (Int.mul_eq_zero.1 h).resolve_left hk
 ·have h:=h2 u (fun r hr=>by
   obtain ⟨l,hl,rfl⟩:=mem_fm.1 hr
   exact hu l hl) i j hi hj
  rw [hmu i hi,hmu j hj] at h
  have:k*(u i*V (normL d m) j)=k*(u j*V (normL d m) i):=by grind
  exact Int.eq_of_mul_eq_mul_left hk this
end Go.Proofs.YtcoeneldaohpnaaGreat
