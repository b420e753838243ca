import Derived.Test.YtkfdpcgmpbopnaaGreatDoorGY
import Derived.Test.YtkfdpcgmpbopnaaGreatDoorGC
namespace Go.Proofs.YtkfdpcgmpbopnaaGreatDoor
open Go.RowKit Lin
attribute [local go_sem ↓] Go.wp_at_zero Go.wp_at_succ
structure LvV (w:World) (x:Value) (j:Nat) (LV:Nat→List (List Int)):Prop where
 rows:∃ao cap,x=.slice ao j cap∧∀X t,Below w.heap.size w X→t < j→∃b o ro rc,ao=some ⟨b,o,none⟩∧X.cell? ⟨b,o+t,none⟩=some (.slice ro (LV t).length rc)∧Mat X.heap.size 22 3 X (.slice ro (LV t).length rc) (LV t)
theorem Lvs.named {B:Nat} {w:World} {x:Value} {j:Nat} {ok:Nat→List (List Int)→Prop} (h:Lvs B w x j ok):∃LV,LvV w x j LV∧∀t,t < j→ok t (LV t):=by
 obtain ⟨vs,h1,h2,h3⟩:=h.rows
 have hch:∃LV:Nat→List (List Int),∀t,t < j→Fr B 22 3 w (vs.getD t (.slice none 0 0)) (LV t)∧ok t (LV t):=by
  refine ⟨fun t=>if ht:t < j then Classical.choose (h3 t ht) else [],fun t ht=>?_⟩
  simp only [ht,dif_pos]
  exact Classical.choose_spec (h3 t ht)
 obtain ⟨LV,hLV⟩:=hch
 obtain ⟨ao,cap,hx⟩:=owns_form h2
 refine ⟨LV,⟨ao,cap,hx,fun X t hX ht=>?_⟩,fun t ht=>(hLV t ht).2⟩
 obtain ⟨ao2,cap2,hx2,_,_,h5,_⟩:=Sl.own (B:=0) h2
 rw [hx] at hx2
 simp only [Value.slice.injEq] at hx2
 obtain ⟨rfl,_,rfl⟩:=hx2
 obtain ⟨b,o,hb,hc,_⟩:=h5 t (by omega)
 have hm:Mat 0 22 3 w (vs.getD t (.slice none 0 0)) (LV t):=by
  obtain ⟨us,u1,u2,u3⟩:=(hLV t ht).1
  exact ⟨us,u1,Sl.own u2,u3⟩
 obtain ⟨ro,rc,hv,_,_⟩:=mat_open hm
 refine ⟨b,o,ro,rc,hb,?_,?_⟩
 ·rw [←hv]
  have e:vs[t]?=some (vs.getD t (.slice none 0 0)):=by simp [show t < vs.length by omega]
  rw [e] at hc
  have hbl:=lt_of_cell hc
  exact (hX.cell hbl).trans hc
 ·rw [←hv]
  exact (hm.below hX (Nat.le_refl _)).more (Nat.zero_le _)
theorem LvV.low {w w2:World} {x:Value} {j:Nat} {LV:Nat→List (List Int)} (h:LvV w x j LV) (hb:Below w.heap.size w w2):LvV w2 x j LV:=by
 obtain ⟨ao,cap,hx,h1⟩:=h.rows
 exact ⟨ao,cap,hx,fun X t hX ht=>h1 X t (hb.trans (hX.mono hb.size)) ht⟩
set_option maxRecDepth 100000 in
set_option maxHeartbeats 800000 in
theorem countsOfR_any (j:Nat) (x:Value) (LV:Nat→List (List Int)) (w:World) (h:LvV w x j LV) (hj:j≤100) :
  Calls Tryz.prog 10 #[x] w fun e w'=>∃u,e=.returned u∧w'.ownsRow w.heap.size 3 1 u j (ints (cnF (fun t=>(LV t).length) j))∧Below w.heap.size w w':=by
 obtain ⟨i3,hi3,hz30,hz31,hz32⟩:=info_parts Tryz.info3
 obtain ⟨ao,cap,rfl,h1⟩:=h.rows
 have HCL:Hid (∀X t,Below w.heap.size w X→t < j→∃b o ro rc,ao=some ⟨b,o,none⟩∧X.cell? ⟨b,o+t,none⟩=some (.slice ro (LV t).length rc)):=fun X t hX ht=>by
  obtain ⟨b,o,ro,rc,e1,e2,_⟩:=h1 X t hX ht
  exact ⟨b,o,ro,rc,e1,e2⟩
 obtain ⟨L,hL⟩:∃L:Nat→Nat,L=fun t=>(LV t).length:=⟨_,rfl⟩
 have HLL:Hid (∀t,(LV t).length=L t):=fun t=>by rw [hL]
 rw [←hL]
 clear h h1 hL
 go_enter Tryz.func10,Tryz.ntmps10
 go_wp2
 go_loopw [3,4] (fun x i wr=>∃k:Nat,k≤j∧i=.int .i64 (k:Int)∧wr.ownsRow w.heap.size 3 1 x k (ints (cnF L k))∧Below w.heap.size w wr) (fun _ i _=>j-(intOf i).toNat)
 case atStart=>exact ⟨0,Nat.zero_le _,rfl,World.ownsRow_nil _ _ _ _,Below.refl _ _⟩
 case round=>
  obtain ⟨k,hk,rfl,ho,hb⟩:=hrel
  obtain ⟨xo,xc,hx⟩:=owns_form ho
  subst hx
  have HO:Hid (wr.ownsRow w.heap.size 3 1 (.slice xo k xc) k (ints (cnF L k))):=ho
  have HB:Hid (Below w.heap.size w wr):=hb
  have hsz:w.heap.size≤wr.heap.size:=hb.size
  clear ho hb
  by_cases hlt:k < j
  ·obtain ⟨b,o,ro,rc,hao,hc⟩:=HCL.out wr k HB.out hlt
   rw [HLL.out k] at hc
   have hkI:(k:Int) < (j:Int):=by omega
   have HS:Hid (ints (cnF L (k+1))=ints (cnF L k) ++ [.int .i64 (L k:Int)]):=cnF_succ L k
   subst hao
   clear HCL HLL
   generalize L k=lk at *
   go_wp2_with (first | (at_builtin; refine wpList_append_own _ rfl _ _ 22 rfl w.heap.size 3 i3 (.int .i64 0) 1 8 Tryz.underlying22 hi3 hz30 hz31 hz32 rfl (by decide) _ _ _ rfl (HO.out.alloc _) ⟨wr.heap.size,0,none⟩ 1 1 [.int .i64 (lk:Int)] rfl rfl (one_new _ _ _) (one_int _) ?c3 ?c4 ?c5 ?_))
   case c3=>unfold maxLen; omega
   case c4=>omega
   case c5=>first | exact hsz | omega | (simp; omega)
   intro v' w3 ho hg _
   have HNX:Hid (w3.ownsRow w.heap.size 3 1 v' (k+1) (ints (cnF L (k+1)))):=by rw [HS.out]; exact ho
   have HB3:Hid (Below w.heap.size w w3):=(HB.out.alloc hsz _).grown hg (by simp; omega) (fun y hy=>(HO.out.lt y hy).1)
   clear ho hg hc
   go_wp2
   go_roundw
   case rel=>exact ⟨k+1,by omega,by go_num,HNX.out,HB3.out⟩
   case measure=>simp [intOf]; omega
  ·have hke:k=j:=by omega
   subst hke
   clear HCL HLL
   go_wp2
   go_ret
   exact ⟨_,rfl,HO.out,HB.out⟩
end Go.Proofs.YtkfdpcgmpbopnaaGreatDoor
namespace Go.Proofs.YtkfdpcgmpbopnaaGreatDoor
open Go.RowKit Lin
attribute [local go_sem ↓] Go.wp_at_zero Go.wp_at_succ
def kdA (d:Nat) (m:List (List Int)):Bool:=m.all fun r=>decide (r.length=d)
def kdN (m:List (List Int)) (v:Nat):Nat:=(m.filter fun r=>r.contains (v:Int)).length
def kdB (d:Nat) (m:List (List Int)) (n:Nat):Bool:=(List.range n).all fun v=>decide (kdN m v=d)
theorem kdA_take {d:Nat} {m:List (List Int)} {k:Nat} (hk:k < m.length):kdA d (m.take (k+1))=(kdA d (m.take k) && decide ((m.getD k []).length=d)):=by
 unfold kdA
 rw [List.take_succ_eq_append_getElem hk,List.all_append]
 simp [hk]
theorem kdN_take {m:List (List Int)} {k:Nat} (hk:k < m.length) (v:Nat):kdN (m.take (k+1)) v=kdN (m.take k) v+if (m.getD k []).contains (v:Int) then 1 else 0:=by
 unfold kdN
 have e:m.getD k []=m[k]:=by simp [hk]
 rw [List.take_succ_eq_append_getElem hk,List.filter_append,List.length_append,e]
 simp only [List.filter_cons,List.filter_nil]
 by_cases h:m[k].contains (v:Int)=true
 ·rw [if_pos h,if_pos h]; rfl
 ·rw [if_neg h,if_neg h]; rfl
theorem kdN_le (m:List (List Int)) (k v:Nat):kdN (m.take k) v≤m.length:=by
 unfold kdN
 exact Nat.le_trans (List.length_filter_le _ _) (by rw [List.length_take]; omega)
theorem kdB_succ (d:Nat) (m:List (List Int)) (n:Nat):kdB d m (n+1)=(kdB d m n && decide (kdN m n=d)):=by
 unfold kdB
 rw [List.range_succ,List.all_append]
 simp
set_option maxRecDepth 100000 in
set_option maxHeartbeats 1600000 in
theorem kindOfR_any (d:Nat) (x:Value) (LV:Nat→List (List Int)) (w:World) (h:LvV w x (d+2) LV) (hd1:1≤d) (hd:d≤100) (hl:(LV d).length≤5000) (hn:(LV 1).length≤5000) (hb:∀r∈LV d,r.length≤5000) :
  Calls Tryz.prog 11 #[x] w fun e w'=>e=.returned (.tuple #[.bool (kdA d (LV d)),.bool (kdB d (LV d) (LV 1).length)])∧Below w.heap.size w w':=by
 obtain ⟨ao,cap,rfl,h1⟩:=h.rows
 obtain ⟨b,o,ro,rc,rfl,hcd,hmd⟩:=h1 w d (Below.refl _ _) (by omega)
 have HC1:Hid (∀X,Below w.heap.size w X→∃r1 c1,X.cell? ⟨b,o+1,none⟩=some (.slice r1 (LV 1).length c1)):=fun X hX=>by
  obtain ⟨b2,o2,r1,c1,e1,e2,_⟩:=h1 X 1 hX (by omega)
  simp only [Option.some.injEq,Addr.mk.injEq,and_true] at e1
  obtain ⟨rfl,rfl⟩:=e1
  exact ⟨r1,c1,e2⟩
 obtain ⟨m,hm⟩:∃m,m=LV d:=⟨_,rfl⟩
 obtain ⟨n,hnn⟩:∃n,n=(LV 1).length:=⟨_,rfl⟩
 rw [←hm] at hmd hcd hl hb ⊢
 rw [←hnn] at HC1 hn ⊢
 have HMT:Hid (∀X k,Below w.heap.size w X→k < m.length→∃mb mo yo yc,ro=some ⟨mb,mo,none⟩∧X.cell? ⟨mb,mo+k,none⟩=some (.slice yo (m.getD k []).length yc)∧Sl X.heap.size 3 X (.slice yo (m.getD k []).length yc) (ints (m.getD k []))):=fun X k hX hk=>by
  obtain ⟨mb,mo,mc,y,hs,_,hc,hy⟩:=mat_cell ((hmd.below hX (Nat.le_refl _)).any (Nat.le_refl _)) hk
  simp only [Value.slice.injEq] at hs
  obtain ⟨yo,yc,rfl,_,_⟩:=sl_open hy
  exact ⟨mb,mo,yo,yc,hs.1,hc,hy⟩
 have HIN:Hid (∀X k yo yc (v:Nat),k < m.length→Sl X.heap.size 3 X (.slice yo (m.getD k []).length yc) (ints (m.getD k []))→Calls Tryz.prog 27 #[.int .i64 (v:Int),.slice yo (m.getD k []).length yc] X fun e w'=>e=.returned (.bool ((m.getD k []).contains (v:Int)))∧Below X.heap.size X w'):=fun X k yo yc v hk hs=>by
  refine (inR_any X.heap.size (v:Int) (m.getD k []) _ X hs).mono ?_
  rintro e w' ⟨rfl,q,rfl⟩
  exact ⟨rfl,below_drewN (Below.refl _ _) q⟩
 have HA1:Hid (∀k,k < m.length→kdA d (m.take (k+1))=(kdA d (m.take k) && decide ((m.getD k []).length=d))):=fun k hk=>kdA_take hk
 have HN1:Hid (∀k (v:Nat),k < m.length→kdN (m.take (k+1)) v=kdN (m.take k) v+if (m.getD k []).contains (v:Int) then 1 else 0):=fun k v hk=>kdN_take hk v
 have HNL:Hid (∀k v,kdN (m.take k) v≤m.length):=fun k v=>kdN_le m k v
 have HAF:Hid (kdA d (m.take m.length)=kdA d m):=by show _=_; rw [List.take_length]
 have HNF:Hid (∀v,kdN (m.take m.length) v=kdN m v):=fun v=>by rw [List.take_length]
 have HBS:Hid (∀v,kdB d m (v+1)=(kdB d m v && decide (kdN m v=d))):=fun v=>kdB_succ d m v
 have hbd:∀k,k < m.length→(m.getD k []).length≤5000:=fun k hk=>hb _ (by simp [hk])
 have HBD:Hid (∀k,k < m.length→(m.getD k []).length≤5000):=hbd
 clear h h1 hmd hb hm hnn hbd
 go_enter Tryz.func11,Tryz.ntmps11
 go_wp2
 go_loopw [6,8] (fun a i wr=>∃k:Nat,k≤m.length∧i=.int .i64 (k:Int)∧a=.bool (kdA d (m.take k))∧wr=w) (fun _ i _=>m.length-(intOf i).toNat)
 case atStart=>exact ⟨0,Nat.zero_le _,rfl,rfl,rfl⟩
 case round=>
  obtain ⟨k,hk,rfl,rfl,rfl⟩:=hrel
  by_cases hlt:k < m.length
  ·obtain ⟨mb,mo,yo,yc,hro,hc,-⟩:=HMT.out wr k (Below.refl _ _) hlt
   have hkI:(k:Int) < (m.length:Int):=by omega
   have HA:=HA1.out k hlt
   have hyb:=HBD.out k hlt
   clear HMT HIN HC1
   subst hro
   generalize (m.getD k []).length=yl at *
   have HAH:Hid (kdA d (m.take (k+1))=(kdA d (m.take k) && decide (yl=d))):=HA
   clear HA
   generalize kdA d (m.take k)=q at *
   cases q
   ·go_wp2
    go_roundw
    case rel=>exact ⟨k+1,by omega,by go_num,by rw [HAH.out]; simp,trivial⟩
    case measure=>simp [intOf]; omega
   ·go_wp2
    go_roundw
    case rel=>exact ⟨k+1,by omega,by go_num,by rw [HAH.out,Bool.true_and]; congr 1; rw [Bool.eq_iff_iff]; simp; omega,trivial⟩
    case measure=>simp [intOf]; omega
  ·have hke:k=m.length:=by omega
   subst hke
   rw [HAF.out]
   clear HA1 HAF
   obtain ⟨qa,hqa⟩:∃q,q=kdA d m:=⟨_,rfl⟩
   rw [←hqa]
   have HQA:Hid (qa=kdA d m):=hqa
   clear hqa
   go_wp2
   go_loopw [7,9,10,11] (fun bv vv _ _ wq=>∃v:Nat,v≤n∧vv=.int .i64 (v:Int)∧bv=.bool (kdB d m v)∧Below wr.heap.size wr wq) (fun _ vv _ _ _=>n-(intOf vv).toNat)
   case atStart=>exact ⟨0,Nat.zero_le _,rfl,rfl,Below.refl _ _⟩
   case round=>
    obtain ⟨v,hv,rfl,rfl,hbel⟩:=hrel
    rename World=>wq
    have HB:Hid (Below wr.heap.size wr wq):=hbel
    clear hbel
    obtain ⟨r1,c1,hc1⟩:=HC1.out wq HB.out
    by_cases hvn:v < n
    ·have hvI:(v:Int) < (n:Int):=by omega
     have HBV:=HBS.out v
     go_wp2
     clear hc1
     go_loopw [10,11] (fun nv iv w3=>∃k:Nat,k≤m.length∧iv=.int .i64 (k:Int)∧nv=.int .i64 (kdN (m.take k) v:Nat)∧Below wr.heap.size wr w3) (fun _ iv _=>m.length-(intOf iv).toNat)
     case atStart=>exact ⟨0,Nat.zero_le _,rfl,rfl,HB.out⟩
     case round=>
      obtain ⟨k,hk,rfl,rfl,hbel⟩:=hrel
      rename World=>w3
      have HB3:Hid (Below wr.heap.size wr w3):=hbel
      clear hbel
      by_cases hlt:k < m.length
      ·obtain ⟨mb,mo,yo,yc,hro,hc,hy⟩:=HMT.out w3 k HB3.out hlt
       have HI:=HIN.out w3 k yo yc v hlt hy
       have HN:=HN1.out k v hlt
       have hnl:=HNL.out k v
       have hkI:(k:Int) < (m.length:Int):=by omega
       have HNH:Hid (kdN (m.take (k+1)) v=kdN (m.take k) v+if (m.getD k []).contains (v:Int) then 1 else 0):=HN
       clear HN hy HMT HIN HN1 HC1 HBV HBS
       subst hro
       generalize (m.getD k []).length=yl at *
       generalize (m.getD k []).contains (v:Int)=q at *
       generalize kdN (m.take k) v=kn at *
       cases q
       ·go_wp2_with fail
        refine HI.mono ?_
        rintro e w4 ⟨rfl,hb4⟩
        have HB4:Hid (Below wr.heap.size wr w4):=HB3.out.trans (hb4.mono HB3.out.size)
        clear hb4 HI hc
        go_wp2
        go_roundw
        case rel=>exact ⟨k+1,by omega,by go_num,by rw [HNH.out]; simp,HB4.out⟩
        case measure=>simp [intOf]; omega
       ·go_wp2_with fail
        refine HI.mono ?_
        rintro e w4 ⟨rfl,hb4⟩
        have HB4:Hid (Below wr.heap.size wr w4):=HB3.out.trans (hb4.mono HB3.out.size)
        clear hb4 HI hc
        go_wp2
        go_roundw
        case rel=>exact ⟨k+1,by omega,by go_num,by rw [HNH.out]; simp,HB4.out⟩
        case measure=>simp [intOf]; omega
      ·have hke:k=m.length:=by omega
       subst hke
       have HVH:Hid (kdB d m (v+1)=(kdB d m v && decide (kdN (m.take m.length) v=d))):=by rw [HNF.out]; exact HBV
       have hnl:=HNL.out m.length v
       clear HBV HMT HIN HN1 HC1 HBS HNF HNL
       generalize kdN (m.take m.length) v=kn at *
       generalize kdB d m v=qb at *
       cases qb
       ·go_wp2
        exact ⟨⟨v+1,by omega,by go_num,by rw [HVH.out]; simp,HB3.out⟩,by simp [intOf]; omega⟩
       ·go_wp2
        exact ⟨⟨v+1,by omega,by go_num,by rw [HVH.out,Bool.true_and]; congr 1; rw [Bool.eq_iff_iff]; simp; omega,HB3.out⟩,by simp [intOf]; omega⟩
    ·have hve:v=n:=by omega
     subst hve
     clear HBS HMT HIN HN1 HC1 HNF HNL
     obtain ⟨qb,hqb⟩:∃q,q=kdB d m v:=⟨_,rfl⟩
     rw [←hqb]
     have HQB:Hid (qb=kdB d m v):=hqb
     clear hqb
     go_wp2
     refine bodyPost_ret (v:=.tuple #[.bool qa,.bool qb]) (by simp [results,Tryz.results11,go_sem]) rfl ?_
     exact ⟨by rw [HQA.out,HQB.out],HB.out⟩
end Go.Proofs.YtkfdpcgmpbopnaaGreatDoor
namespace Go.Proofs.YtkfdpcgmpbopnaaGreatDoor
open Go.RowKit Lin
attribute [local go_sem ↓] Go.wp_at_zero Go.wp_at_succ
def dlt (f:Nat→Int) (j:Nat):Int:=f j-if j=0 then 0 else f (j-1)
def dltN:Nat→(Nat→Int)→Nat→Int
 | 0,f=>f
 | k+1,f=>dlt (dltN k f)
def one1 (c:Nat→Int) (i j:Nat):Int:=if j=i then c i else 0
def smD (c:Nat→Int) (d:Nat):Nat→Nat→Int
 | 0,_=>0
 | i+1,j=>smD c d i j+dltN (d-i) (one1 c i) j
theorem dltN_bd {f:Nat→Int} {B:Nat} (h:∀j,(f j).natAbs≤B):∀k j,(dltN k f j).natAbs≤2 ^ k*B
 | 0,j=>by simpa [dltN] using h j
 | k+1,j=>by
  have h1:=dltN_bd h k j
  have h2:=dltN_bd h k (j-1)
  have e:2 ^ (k+1)*B=2*(2 ^ k*B):=by rw [Nat.pow_succ,Nat.mul_comm (2 ^ k) 2,Nat.mul_assoc]
  rw [e]
  generalize 2 ^ k*B=q at *
  simp only [dltN,dlt]
  split <;> omega
theorem dtm_bd {c:Nat→Int} {d i:Nat} (hd:d≤4) (hc:(c i).natAbs≤5000) (k:Nat) (hk:k≤d) (j:Nat):(dltN k (one1 c i) j).natAbs≤80000:=by
 have h:=dltN_bd (f:=one1 c i) (B:=5000) (fun j=>by unfold one1; split <;> simp [hc]) k j
 have h2:2 ^ k≤2 ^ 4:=Nat.pow_le_pow_right (by decide) (by omega)
 have h3:2 ^ k*5000≤2 ^ 4*5000:=Nat.mul_le_mul_right _ h2
 have h4:(2:Nat) ^ 4*5000=80000:=by decide
 omega
theorem smD_bd {c:Nat→Int} {d:Nat} (hd:d≤4) (hc:∀i,i≤d→(c i).natAbs≤5000):∀i,i≤d+1→∀j,(smD c d i j).natAbs≤i*80000
 | 0,_,j=>by simp [smD]
 | i+1,hi,j=>by
  have h1:=smD_bd hd hc i (by omega) j
  have h2:=dtm_bd (c:=c) (d:=d) (i:=i) hd (hc i (by omega)) (d-i) (by omega) j
  simp only [smD]
  omega
set_option maxRecDepth 100000 in
set_option maxHeartbeats 3200000 in
theorem shortOfR_any (B0 d:Nat) (cs:List Int) (v:Value) (w:World) (hv:Sl B0 3 w v (ints cs)) (hl:cs.length=d+2) (hd:d≤4) (hc:∀z∈cs,z.natAbs≤5000) :
  Calls Tryz.prog 12 #[v] w fun e w'=>e=.returned (.slice (some ⟨w.heap.size,0,none⟩) (d+1) (d+1))∧SmI w w.heap.size (d+1) (fun j=>smD (fun k=>cs.getD k 0) d (d+1) j) w':=by
 have hmk:∀w:World,(Instr.makeSlice 22 (.int .i64 ((d:Int)+1)) (.int .i64 ((d:Int)+1))).run Tryz.prog w=.ok (.slice (some ⟨w.heap.size,0,none⟩) (d+1) (d+1)) (w.alloc (.cells (madeCells #[.int .i64 0] (d+1)) 3)):=fun w=>by
  have h:=run_make_row' (P:=Tryz.prog) 22 3 (.int .i64 0) 8 Tryz.underlying22 (by kernel_rfl) rfl .i64 .i64 (d+1) (by omega) (by omega) w
  rw [show ((d+1:Nat):Int)=(d:Int)+1 by omega] at h
  exact h
 have HMK:Hid (∀w:World,(Instr.makeSlice 22 (.int .i64 ((d:Int)+1)) (.int .i64 ((d:Int)+1))).run Tryz.prog w=.ok (.slice (some ⟨w.heap.size,0,none⟩) (d+1) (d+1)) (w.alloc (.cells (madeCells #[.int .i64 0] (d+1)) 3))):=hmk
 have HNEW:Hid (∀X:World,SmI X X.heap.size (d+1) (fun _=>0) (X.alloc (.cells (madeCells #[.int .i64 0] (d+1)) 3))):=fun X=>by
  refine ⟨⟨_,alloc_at _ _,by simp [madeCells],fun i hi=>?_⟩,(Below.refl _ _).alloc (Nat.le_refl _) _⟩
  rw [←Array.getElem?_toList,toList_madeCells_one]
  simp [hi]
 obtain ⟨ao,cap0,hvv,hlc,hcm0⟩:=sl_open hv
 rw [hl] at hvv hlc
 subst hvv
 have HV:Hid (∀X k,Below w.heap.size w X→k≤d→∃b o,ao=some ⟨b,o,none⟩∧X.cell? ⟨b,o+k,none⟩=some (.int .i64 (cs.getD k 0))):=fun X k hb hk=>by
  obtain ⟨b,o,cp,hs,_,hcc⟩:=sl_cell ((hv.any (Nat.le_refl w.heap.size)).below hb (Nat.le_refl _)) (k:=k) (by omega)
  simp only [Value.slice.injEq] at hs
  exact ⟨b,o,hs.1,hcc⟩
 obtain ⟨c,hcd⟩:∃c:Nat→Int,c=fun k=>cs.getD k 0:=⟨_,rfl⟩
 have HCV:Hid (∀k,cs.getD k 0=c k):=fun k=>by rw [hcd]
 have hcb:∀i,i≤d→(c i).natAbs≤5000:=fun i hi=>by rw [hcd]; exact hc _ (getD_mem (by omega))
 have HTB:Hid (∀i k j,i≤d→k≤d→(dltN k (one1 c i) j).natAbs≤80000):=fun i k j hi hk=>dtm_bd hd (hcb i hi) k hk j
 have HSB:Hid (∀i j,i≤d+1→(smD c d i j).natAbs≤400000):=fun i j hi=>by
  have:=smD_bd hd hcb i hi j
  omega
 rw [←hcd]
 obtain ⟨G,hG⟩:∃G,G=w.heap.size:=⟨_,rfl⟩
 have HG:Hid (G=w.heap.size):=hG
 have HI0:Hid (SmI w G (d+1) (fun j=>smD c d 0 j) (w.alloc (.cells (madeCells #[.int .i64 0] (d+1)) 3))):=by rw [hG]; exact HNEW.out w
 have hcb2:Hid (∀i,i≤d→(c i).natAbs≤5000):=hcb
 clear hv hc hcd hl hcb
 go_enter Tryz.func12,Tryz.ntmps12
 go_wp2
 rw [←hG]
 clear hG hmk
 go_loopw [5,6,7,8,9] (fun iv _ _ _ _ wr=>∃i:Nat,i≤d+1∧iv=.int .i64 (i:Int)∧SmI w G (d+1) (fun j=>smD c d i j) wr) (fun iv _ _ _ _ _=>d+1-(intOf iv).toNat)
 case atStart=>exact ⟨0,Nat.zero_le _,rfl,HI0.out⟩
 case round=>
  obtain ⟨i,hi,rfl,hI⟩:=hrel
  have HI:Hid (SmI w G (d+1) (fun j=>smD c d i j) wr):=hI
  clear hI HI0
  by_cases hlt:i≤d
  ·have hb0:Below w.heap.size w wr:=by rw [←HG.out]; exact HI.out.bel
   obtain ⟨wa,rfl⟩:∃wa,wa=wr:=⟨wr,rfl⟩
   obtain ⟨W1,hW1⟩:∃W1,W1=wa.alloc (.cells (madeCells #[.int .i64 0] (d+1)) 3):=⟨_,rfl⟩
   obtain ⟨H,hH⟩:∃H,H=wa.heap.size:=⟨_,rfl⟩
   have HP0:Hid (SmI wa H (d+1) (fun _=>0) W1):=by rw [hW1,hH]; exact HNEW.out wa
   have HGH:Hid (G < H):=by rw [hH]; exact HI.out.row.lt
   have HHE:Hid (H=wa.heap.size):=hH
   have hbw1:Below w.heap.size w W1:=hb0.trans (by have h:=HP0.out.bel; rw [HHE.out] at h; exact h.mono hb0.size)
   obtain ⟨b,o,hao,hcc⟩:=HV.out W1 i hbw1 hlt
   rw [HCV.out i] at hcc
   have hliI:(i:Int)≤(d:Int):=by omega
   have hi1:(i:Int) < (d:Int)+1:=by omega
   have cf:=HP0.out.row.frozen i
   have HP1:Hid (SmI wa H (d+1) (dltN 0 (one1 c i)) (W1.setCell ⟨H,i,none⟩ (.int .i64 (c i)))):=HP0.out.put i (c i) (fun j=>by
    show one1 c i j=_
    unfold one1
    rfl)
   have HTI:Hid (∀k j,k≤d→(dltN k (one1 c i) j).natAbs≤80000):=fun k j hk=>HTB.out i k j hlt hk
   have HS1:Hid (∀j,smD c d (i+1) j=smD c d i j+dltN (d-i) (one1 c i) j):=fun j=>rfl
   have hcp:=HP0.out.row.cell (i:=i) (by omega)
   have HSI:Hid (∀j,(smD c d i j).natAbs≤400000):=fun j=>HSB.out i j hi
   have hmk:=HMK.out
   clear HV HTB HSB HP0 hb0 hbw1
   go_upto_region 7 with fail
   rw [←hW1,←hH]
   clear hW1 hH hmk
   subst hao
   go_wp2
   clear hcc cf hcp
   go_loopw [7,8] (fun kv _ wq=>∃k:Nat,k≤d-i∧kv=.int .i64 (k:Int)∧SmI wa H (d+1) (dltN k (one1 c i)) wq) (fun kv _ _=>d-i-(intOf kv).toNat)
   case atStart=>exact ⟨0,Nat.zero_le _,rfl,HP1.out⟩
   case round=>
    obtain ⟨k,hk,rfl,hP⟩:=hrel
    have HP:Hid (SmI wa H (d+1) (dltN k (one1 c i)) wr):=hP
    clear hP HP1
    by_cases hkd:k < d-i
    ·have hkI:(k:Int) < (d:Int)-(i:Int):=by omega
     have HBK:Hid (∀j,(dltN k (one1 c i) j).natAbs≤80000):=fun j=>HTI.out k j (by omega)
     have HNX:Hid (∀X,SmI wa H (d+1) (fun j=>if 0 < j then dlt (dltN k (one1 c i)) j else dltN k (one1 c i) j) X→SmI wa H (d+1) (dltN (k+1) (one1 c i)) X):=fun X hX=>⟨hX.row.congr fun j hj=>by
      simp only [dltN]
      by_cases e:j=0
      ·subst e; simp [dlt]
      ·rw [if_pos (by omega)],hX.bel⟩
     have HP2:Hid (SmI wa H (d+1) (fun j=>if d < j then dlt (dltN k (one1 c i)) j else dltN k (one1 c i) j) wr):=⟨HP.out.row.congr fun j hj=>by rw [if_neg (by omega)],HP.out.bel⟩
     clear HP HTI
     obtain ⟨g,hg⟩:∃g,g=dltN k (one1 c i):=⟨_,rfl⟩
     rw [←hg] at HBK HNX HP2
     clear hg
     go_wp2
     go_loopw [8] (fun jv wq=>∃p:Nat,p≤d∧jv=.int .i64 (p:Int)∧SmI wa H (d+1) (fun j=>if p < j then dlt g j else g j) wq) (fun jv _=>(intOf jv).toNat)
     case atStart=>exact ⟨d,Nat.le_refl _,rfl,HP2.out⟩
     case round=>
      obtain ⟨p,hp,rfl,hQ⟩:=hrel
      have HQ:Hid (SmI wa H (d+1) (fun j=>if p < j then dlt g j else g j) wr):=hQ
      clear hQ HP2
      rcases p with _ | p
      ·have HN:=HNX.out wr HQ.out
       clear HQ HNX HBK
       go_wp2
       exact ⟨⟨k+1,by omega,by go_num,HN⟩,by simp [intOf]; omega⟩
      ·have ca:=HQ.out.row.cell (i:=p+1) (by omega)
       have cb:=HQ.out.row.cell (i:=p) (by omega)
       have cf:=HQ.out.row.frozen (p+1)
       rw [if_neg (by omega)] at ca
       rw [if_neg (by omega)] at cb
       have b1:=HBK.out (p+1)
       have b0:=HBK.out p
       obtain ⟨x1,hx1⟩:∃x,x=g (p+1):=⟨_,rfl⟩
       obtain ⟨x0,hx0⟩:∃x,x=g p:=⟨_,rfl⟩
       have HZ:Hid (SmI wa H (d+1) (fun j=>if p < j then dlt g j else g j) (wr.setCell ⟨H,p+1,none⟩ (.int .i64 (x1-x0))).drew):=by
        have h:=HQ.out.put (c2:=fun j=>if p < j then dlt g j else g j) (p+1) (x1-x0) (fun j=>by
         by_cases e:j=p+1
         ·rw [if_pos (by omega),if_pos e,e,hx1,hx0]
          simp [dlt]
         ·rw [if_neg e]
          by_cases e2:p < j
          ·rw [if_pos e2,if_pos (by omega)]
          ·rw [if_neg e2,if_neg (by omega)])
        exact ⟨h.row.drew,h.bel.drew⟩
       rw [←hx1] at ca b1
       rw [←hx0] at cb b0
       have cad:wr.drew.cell? ⟨H,p+1,none⟩=some (.int .i64 x1):=ca
       have cbd:wr.drew.cell? ⟨H,p,none⟩=some (.int .i64 x0):=cb
       have cfd:wr.drew.frozen? ⟨H,p+1,none⟩=false:=cf
       have hw:IntKind.wrap .i64 (x1-x0)=x1-x0:=by rw [IntKind.wrap_i64]; omega
       have hwp:IntKind.wrap .i64 (p:Int)=(p:Int):=by rw [IntKind.wrap_i64]; omega
       have hpI:((p+1:Nat):Int) < (d:Int)+1:=by omega
       clear hx1 hx0 HQ HNX HBK
       go_upto_region 14 with fail
       refine wp_region_held_drew (S:=fun _=>True) (by kernel_rfl) trivial (fun hHeld=>?_)
       refine wpAnyH_tk (i:=0) (d:=43) (v:=(.slice (some ⟨H,0,none⟩) (d+1) (d+1))) rfl rfl (by kernel_rfl) (by kernel_rfl) (by kernel_rfl) (fun _ _ _ h=>h) (.inl ⟨by rfl,by (intro wq hSw; (try dsimp only at hSw); go_simp; (try (first | rfl | omega)))⟩) hHeld ?_
       simp only [Act.put,List.setIfInBounds_toArray,List.set_cons_zero,List.set_cons_succ]
       refine wpAnyH_tk (i:=1) (d:=44) (v:=(.int .i64 ((p+1:Nat):Int))) rfl rfl (by kernel_rfl) (by kernel_rfl) (by kernel_rfl) (fun _ _ _ h=>h) (.inl ⟨by rfl,by (intro wq hSw; (try dsimp only at hSw); go_simp; (try (first | rfl | omega)))⟩) hHeld ?_
       simp only [Act.put,List.setIfInBounds_toArray,List.set_cons_zero,List.set_cons_succ]
       refine wpAnyH_tk (i:=2) (d:=45) (v:=(.slice (some ⟨H,0,none⟩) (d+1) (d+1))) rfl rfl (by kernel_rfl) (by kernel_rfl) (by kernel_rfl) (fun _ _ _ h=>h) (.inl ⟨by rfl,by (intro wq hSw; (try dsimp only at hSw); go_simp; (try (first | rfl | omega)))⟩) hHeld ?_
       simp only [Act.put,List.setIfInBounds_toArray,List.set_cons_zero,List.set_cons_succ]
       refine wpAnyH_tk (i:=3) (d:=46) (v:=(.int .i64 ((p+1:Nat):Int))) rfl rfl (by kernel_rfl) (by kernel_rfl) (by kernel_rfl) (fun _ _ _ h=>h) (.inl ⟨by rfl,by (intro wq hSw; (try dsimp only at hSw); go_simp; (try (first | rfl | omega)))⟩) hHeld ?_
       simp only [Act.put,List.setIfInBounds_toArray,List.set_cons_zero,List.set_cons_succ]
       refine wpAnyH_tk (i:=4) (d:=47) (v:=(.pointer (some ⟨H,p+1,none⟩))) rfl rfl (by kernel_rfl) (by kernel_rfl) (by kernel_rfl) (fun _ _ _ h=>h) (.inl ⟨by rfl,by (intro wq hSw; (try dsimp only at hSw); go_simp; (try (first | rfl | omega)))⟩) hHeld ?_
       simp only [Act.put,List.setIfInBounds_toArray,List.set_cons_zero,List.set_cons_succ]
       refine wpAnyH_tk (i:=6) (d:=49) (v:=(.slice (some ⟨H,0,none⟩) (d+1) (d+1))) rfl rfl (by kernel_rfl) (by kernel_rfl) (by kernel_rfl) (fun _ _ _ h=>h) (.inl ⟨by rfl,by (intro wq hSw; (try dsimp only at hSw); go_simp; (try (first | rfl | omega)))⟩) hHeld ?_
       simp only [Act.put,List.setIfInBounds_toArray,List.set_cons_zero,List.set_cons_succ]
       refine wpAnyH_tk (i:=7) (d:=50) (v:=(.int .i64 ((p+1:Nat):Int))) rfl rfl (by kernel_rfl) (by kernel_rfl) (by kernel_rfl) (fun _ _ _ h=>h) (.inl ⟨by rfl,by (intro wq hSw; (try dsimp only at hSw); go_simp; (try (first | rfl | omega)))⟩) hHeld ?_
       simp only [Act.put,List.setIfInBounds_toArray,List.set_cons_zero,List.set_cons_succ]
       refine wpAnyH_tk (i:=8) (d:=51) (v:=(.int .i64 (p:Int))) rfl rfl (by kernel_rfl) (by kernel_rfl) (by kernel_rfl) (fun _ _ _ h=>h) (.inl ⟨by rfl,by (intro wq hSw; (try dsimp only at hSw); go_simp; (try (first | rfl | omega)))⟩) hHeld ?_
       simp only [Act.put,List.setIfInBounds_toArray,List.set_cons_zero,List.set_cons_succ]
       refine wpAnyH_tk (i:=9) (d:=52) (v:=(.pointer (some ⟨H,p,none⟩))) rfl rfl (by kernel_rfl) (by kernel_rfl) (by kernel_rfl) (fun _ _ _ h=>h) (.inl ⟨by rfl,by (intro wq hSw; (try dsimp only at hSw); go_simp; (try (first | rfl | omega)))⟩) hHeld ?_
       simp only [Act.put,List.setIfInBounds_toArray,List.set_cons_zero,List.set_cons_succ]
       refine wpAnyH_ready (rs:=[5,10]) (by kernel_rfl) (by simp) ?_
       refine ready_tk (i:=5) rfl (by rfl) (fun K hK=>?_) (ready_tk (i:=10) rfl (by rfl) (fun K hK=>?_) AllReadyH.nil)
       ·go_simp
        refine hK.out _ _ trivial (fun hHeld=>?_)
        clear hK K
        try simp only [Act.put,List.setIfInBounds_toArray,List.set_cons_zero,List.set_cons_succ]
        refine wpAnyH_ready (rs:=[10]) (by kernel_rfl) (by simp) ?_
        refine ready_tk (i:=10) rfl (by rfl) (fun K hK=>?_) AllReadyH.nil
        go_simp
        refine hK.out _ _ trivial (fun hHeld=>?_)
        clear hK K
        try simp only [Act.put,List.setIfInBounds_toArray,List.set_cons_zero,List.set_cons_succ]
        refine wpAnyH_tk (i:=11) (d:=54) (v:=(.int .i64 (x1-x0))) rfl rfl (by kernel_rfl) (by kernel_rfl) (by kernel_rfl) (fun _ _ _ h=>h) (.inl ⟨by rfl,by (intro wq hSw; (try dsimp only at hSw); go_simp; (try (first | rfl | omega)))⟩) hHeld ?_
        simp only [Act.put,List.setIfInBounds_toArray,List.set_cons_zero,List.set_cons_succ]
        refine wpAnyH_tk (i:=12) (d:=55) (v:=(.pointer (some ⟨H,p+1,none⟩))) rfl rfl (by kernel_rfl) (by kernel_rfl) (by kernel_rfl) (fun _ _ _ h=>h) (.inl ⟨by rfl,by (intro wq hSw; (try dsimp only at hSw); go_simp; (try (first | rfl | omega)))⟩) hHeld ?_
        simp only [Act.put,List.setIfInBounds_toArray,List.set_cons_zero,List.set_cons_succ]
        refine wpAnyH_ready (rs:=[13]) (by kernel_rfl) (by simp) ?_
        refine ready_tk (i:=13) rfl (by rfl) (fun K hK=>?_) AllReadyH.nil
        go_simp
        refine hK.out _ _ trivial (fun hHeld=>?_)
        clear hK K
        refine wpAnyH_done (by kernel_rfl) ?_ _
        clear hHeld
        go_wp2
        go_roundw
        case rel=>exact ⟨p,by omega,by go_num,HZ.out⟩
        case measure=>simp [intOf]
       ·go_simp
        refine hK.out _ _ trivial (fun hHeld=>?_)
        clear hK K
        try simp only [Act.put,List.setIfInBounds_toArray,List.set_cons_zero,List.set_cons_succ]
        refine wpAnyH_ready (rs:=[5]) (by kernel_rfl) (by simp) ?_
        refine ready_tk (i:=5) rfl (by rfl) (fun K hK=>?_) AllReadyH.nil
        go_simp
        refine hK.out _ _ trivial (fun hHeld=>?_)
        clear hK K
        try simp only [Act.put,List.setIfInBounds_toArray,List.set_cons_zero,List.set_cons_succ]
        refine wpAnyH_tk (i:=11) (d:=54) (v:=(.int .i64 (x1-x0))) rfl rfl (by kernel_rfl) (by kernel_rfl) (by kernel_rfl) (fun _ _ _ h=>h) (.inl ⟨by rfl,by (intro wq hSw; (try dsimp only at hSw); go_simp; (try (first | rfl | omega)))⟩) hHeld ?_
        simp only [Act.put,List.setIfInBounds_toArray,List.set_cons_zero,List.set_cons_succ]
        refine wpAnyH_tk (i:=12) (d:=55) (v:=(.pointer (some ⟨H,p+1,none⟩))) rfl rfl (by kernel_rfl) (by kernel_rfl) (by kernel_rfl) (fun _ _ _ h=>h) (.inl ⟨by rfl,by (intro wq hSw; (try dsimp only at hSw); go_simp; (try (first | rfl | omega)))⟩) hHeld ?_
        simp only [Act.put,List.setIfInBounds_toArray,List.set_cons_zero,List.set_cons_succ]
        refine wpAnyH_ready (rs:=[13]) (by kernel_rfl) (by simp) ?_
        refine ready_tk (i:=13) rfl (by rfl) (fun K hK=>?_) AllReadyH.nil
        go_simp
        refine hK.out _ _ trivial (fun hHeld=>?_)
        clear hK K
        refine wpAnyH_done (by kernel_rfl) ?_ _
        clear hHeld
        go_wp2
        go_roundw
        case rel=>exact ⟨p,by omega,by go_num,HZ.out⟩
        case measure=>simp [intOf]
    ·have hke:k=d-i:=by omega
     subst hke
     have HQ0:Hid (SmI w G (d+1) (fun j=>if j < 0 then smD c d (i+1) j else smD c d i j) wr∧wr.rowIs H 3 (d+1) (fun j=>.int .i64 (dltN (d-i) (one1 c i) j))):=by
      refine ⟨⟨?_,?_⟩,HP.out.row⟩
      ·have h:=HI.out.row.of_block (HP.out.bel.block G HGH.out)
       exact h.congr fun j hj=>by rw [if_neg (by omega)]
      ·exact HI.out.bel.trans (HP.out.bel.mono (by have:=HGH.out; omega))
     have HTD:Hid (∀j,(dltN (d-i) (one1 c i) j).natAbs≤80000):=fun j=>HTI.out (d-i) j (by omega)
     obtain ⟨g,hg⟩:∃g,g=dltN (d-i) (one1 c i):=⟨_,rfl⟩
     rw [←hg] at HQ0 HTD HS1
     clear hg HP HTI
     go_wp2
     go_loopw [9] (fun qv wq=>∃q:Nat,q≤d+1∧qv=.int .i64 (q:Int)∧SmI w G (d+1) (fun j=>if j < q then smD c d (i+1) j else smD c d i j) wq∧wq.rowIs H 3 (d+1) (fun j=>.int .i64 (g j))) (fun qv _=>d+1-(intOf qv).toNat)
     case atStart=>exact ⟨0,Nat.zero_le _,rfl,HQ0.out.1,HQ0.out.2⟩
     case round=>
      obtain ⟨q,hq,rfl,hQ,hR⟩:=hrel
      have HQ:Hid (SmI w G (d+1) (fun j=>if j < q then smD c d (i+1) j else smD c d i j) wr):=hQ
      have HR:Hid (wr.rowIs H 3 (d+1) (fun j=>.int .i64 (g j))):=hR
      clear hQ hR HQ0
      by_cases hqd:q≤d
      ·have ca:=HQ.out.row.cell (i:=q) (by omega)
       have cb:=HR.out.cell (i:=q) (by omega)
       have cf:=HQ.out.row.frozen q
       rw [if_neg (by omega)] at ca
       have b1:=HSI.out q
       have b0:=HTD.out q
       obtain ⟨y1,hy1⟩:∃x,x=smD c d i q:=⟨_,rfl⟩
       obtain ⟨y0,hy0⟩:∃x,x=g q:=⟨_,rfl⟩
       have HZ:Hid (SmI w G (d+1) (fun j=>if j < q+1 then smD c d (i+1) j else smD c d i j) (wr.setCell ⟨G,q,none⟩ (.int .i64 (y1+y0))).drew∧(wr.setCell ⟨G,q,none⟩ (.int .i64 (y1+y0))).drew.rowIs H 3 (d+1) (fun j=>.int .i64 (g j))):=by
        have h:=HQ.out.put (c2:=fun j=>if j < q+1 then smD c d (i+1) j else smD c d i j) q (y1+y0) (fun j=>by
         by_cases e:j=q
         ·rw [if_pos (by omega),if_pos e,e,HS1.out,hy1,hy0]
         ·rw [if_neg e]
          by_cases e2:j < q
          ·rw [if_pos e2,if_pos (by omega)]
          ·rw [if_neg e2,if_neg (by omega)])
        exact ⟨⟨h.row.drew,h.bel.drew⟩,(HR.out.setOther (a:=⟨G,q,none⟩) (by have:=HGH.out; show H≠G; omega) _).drew⟩
       rw [←hy1] at ca b1
       rw [←hy0] at cb b0
       have cad:wr.drew.cell? ⟨G,q,none⟩=some (.int .i64 y1):=ca
       have cbd:wr.drew.cell? ⟨H,q,none⟩=some (.int .i64 y0):=cb
       have cfd:wr.drew.frozen? ⟨G,q,none⟩=false:=cf
       have hw:IntKind.wrap .i64 (y1+y0)=y1+y0:=by rw [IntKind.wrap_i64]; omega
       have hqI:(q:Int)≤(d:Int):=by omega
       have hqI2:(q:Int) < (d:Int)+1:=by omega
       clear hy1 hy0 HQ HR HTD HSI HS1
       go_upto_region 18 with fail
       refine wp_region_held_drew (S:=fun _=>True) (by kernel_rfl) trivial (fun hHeld=>?_)
       refine wpAnyH_tk (i:=0) (d:=61) (v:=(.slice (some ⟨G,0,none⟩) (d+1) (d+1))) rfl rfl (by kernel_rfl) (by kernel_rfl) (by kernel_rfl) (fun _ _ _ h=>h) (.inl ⟨by rfl,by (intro wq hSw; (try dsimp only at hSw); go_simp; (try (first | rfl | omega)))⟩) hHeld ?_
       simp only [Act.put,List.setIfInBounds_toArray,List.set_cons_zero,List.set_cons_succ]
       refine wpAnyH_tk (i:=1) (d:=62) (v:=(.int .i64 (q:Int))) rfl rfl (by kernel_rfl) (by kernel_rfl) (by kernel_rfl) (fun _ _ _ h=>h) (.inl ⟨by rfl,by (intro wq hSw; (try dsimp only at hSw); go_simp; (try (first | rfl | omega)))⟩) hHeld ?_
       simp only [Act.put,List.setIfInBounds_toArray,List.set_cons_zero,List.set_cons_succ]
       refine wpAnyH_tk (i:=2) (d:=63) (v:=(.slice (some ⟨G,0,none⟩) (d+1) (d+1))) rfl rfl (by kernel_rfl) (by kernel_rfl) (by kernel_rfl) (fun _ _ _ h=>h) (.inl ⟨by rfl,by (intro wq hSw; (try dsimp only at hSw); go_simp; (try (first | rfl | omega)))⟩) hHeld ?_
       simp only [Act.put,List.setIfInBounds_toArray,List.set_cons_zero,List.set_cons_succ]
       refine wpAnyH_tk (i:=3) (d:=64) (v:=(.int .i64 (q:Int))) rfl rfl (by kernel_rfl) (by kernel_rfl) (by kernel_rfl) (fun _ _ _ h=>h) (.inl ⟨by rfl,by (intro wq hSw; (try dsimp only at hSw); go_simp; (try (first | rfl | omega)))⟩) hHeld ?_
       simp only [Act.put,List.setIfInBounds_toArray,List.set_cons_zero,List.set_cons_succ]
       refine wpAnyH_tk (i:=4) (d:=65) (v:=(.pointer (some ⟨G,q,none⟩))) rfl rfl (by kernel_rfl) (by kernel_rfl) (by kernel_rfl) (fun _ _ _ h=>h) (.inl ⟨by rfl,by (intro wq hSw; (try dsimp only at hSw); go_simp; (try (first | rfl | omega)))⟩) hHeld ?_
       simp only [Act.put,List.setIfInBounds_toArray,List.set_cons_zero,List.set_cons_succ]
       refine wpAnyH_tk (i:=6) (d:=67) (v:=(.slice (some ⟨H,0,none⟩) (d+1) (d+1))) rfl rfl (by kernel_rfl) (by kernel_rfl) (by kernel_rfl) (fun _ _ _ h=>h) (.inl ⟨by rfl,by (intro wq hSw; (try dsimp only at hSw); go_simp; (try (first | rfl | omega)))⟩) hHeld ?_
       simp only [Act.put,List.setIfInBounds_toArray,List.set_cons_zero,List.set_cons_succ]
       refine wpAnyH_tk (i:=7) (d:=68) (v:=(.int .i64 (q:Int))) rfl rfl (by kernel_rfl) (by kernel_rfl) (by kernel_rfl) (fun _ _ _ h=>h) (.inl ⟨by rfl,by (intro wq hSw; (try dsimp only at hSw); go_simp; (try (first | rfl | omega)))⟩) hHeld ?_
       simp only [Act.put,List.setIfInBounds_toArray,List.set_cons_zero,List.set_cons_succ]
       refine wpAnyH_tk (i:=8) (d:=69) (v:=(.pointer (some ⟨H,q,none⟩))) rfl rfl (by kernel_rfl) (by kernel_rfl) (by kernel_rfl) (fun _ _ _ h=>h) (.inl ⟨by rfl,by (intro wq hSw; (try dsimp only at hSw); go_simp; (try (first | rfl | omega)))⟩) hHeld ?_
       simp only [Act.put,List.setIfInBounds_toArray,List.set_cons_zero,List.set_cons_succ]
       refine wpAnyH_ready (rs:=[5,9]) (by kernel_rfl) (by simp) ?_
       refine ready_tk (i:=5) rfl (by rfl) (fun K hK=>?_) (ready_tk (i:=9) rfl (by rfl) (fun K hK=>?_) AllReadyH.nil)
       ·go_simp
        refine hK.out _ _ trivial (fun hHeld=>?_)
        clear hK K
        try simp only [Act.put,List.setIfInBounds_toArray,List.set_cons_zero,List.set_cons_succ]
        refine wpAnyH_ready (rs:=[9]) (by kernel_rfl) (by simp) ?_
        refine ready_tk (i:=9) rfl (by rfl) (fun K hK=>?_) AllReadyH.nil
        go_simp
        refine hK.out _ _ trivial (fun hHeld=>?_)
        clear hK K
        try simp only [Act.put,List.setIfInBounds_toArray,List.set_cons_zero,List.set_cons_succ]
        refine wpAnyH_tk (i:=10) (d:=71) (v:=(.int .i64 (y1+y0))) rfl rfl (by kernel_rfl) (by kernel_rfl) (by kernel_rfl) (fun _ _ _ h=>h) (.inl ⟨by rfl,by (intro wq hSw; (try dsimp only at hSw); go_simp; (try (first | rfl | omega)))⟩) hHeld ?_
        simp only [Act.put,List.setIfInBounds_toArray,List.set_cons_zero,List.set_cons_succ]
        refine wpAnyH_tk (i:=11) (d:=72) (v:=(.pointer (some ⟨G,q,none⟩))) rfl rfl (by kernel_rfl) (by kernel_rfl) (by kernel_rfl) (fun _ _ _ h=>h) (.inl ⟨by rfl,by (intro wq hSw; (try dsimp only at hSw); go_simp; (try (first | rfl | omega)))⟩) hHeld ?_
        simp only [Act.put,List.setIfInBounds_toArray,List.set_cons_zero,List.set_cons_succ]
        refine wpAnyH_ready (rs:=[12]) (by kernel_rfl) (by simp) ?_
        refine ready_tk (i:=12) rfl (by rfl) (fun K hK=>?_) AllReadyH.nil
        go_simp
        refine hK.out _ _ trivial (fun hHeld=>?_)
        clear hK K
        refine wpAnyH_done (by kernel_rfl) ?_ _
        clear hHeld
        go_wp2
        go_roundw
        case rel=>exact ⟨q+1,by omega,by go_num,HZ.out.1,HZ.out.2⟩
        case measure=>simp [intOf]; omega
       ·go_simp
        refine hK.out _ _ trivial (fun hHeld=>?_)
        clear hK K
        try simp only [Act.put,List.setIfInBounds_toArray,List.set_cons_zero,List.set_cons_succ]
        refine wpAnyH_ready (rs:=[5]) (by kernel_rfl) (by simp) ?_
        refine ready_tk (i:=5) rfl (by rfl) (fun K hK=>?_) AllReadyH.nil
        go_simp
        refine hK.out _ _ trivial (fun hHeld=>?_)
        clear hK K
        try simp only [Act.put,List.setIfInBounds_toArray,List.set_cons_zero,List.set_cons_succ]
        refine wpAnyH_tk (i:=10) (d:=71) (v:=(.int .i64 (y1+y0))) rfl rfl (by kernel_rfl) (by kernel_rfl) (by kernel_rfl) (fun _ _ _ h=>h) (.inl ⟨by rfl,by (intro wq hSw; (try dsimp only at hSw); go_simp; (try (first | rfl | omega)))⟩) hHeld ?_
        simp only [Act.put,List.setIfInBounds_toArray,List.set_cons_zero,List.set_cons_succ]
        refine wpAnyH_tk (i:=11) (d:=72) (v:=(.pointer (some ⟨G,q,none⟩))) rfl rfl (by kernel_rfl) (by kernel_rfl) (by kernel_rfl) (fun _ _ _ h=>h) (.inl ⟨by rfl,by (intro wq hSw; (try dsimp only at hSw); go_simp; (try (first | rfl | omega)))⟩) hHeld ?_
        simp only [Act.put,List.setIfInBounds_toArray,List.set_cons_zero,List.set_cons_succ]
        refine wpAnyH_ready (rs:=[12]) (by kernel_rfl) (by simp) ?_
        refine ready_tk (i:=12) rfl (by rfl) (fun K hK=>?_) AllReadyH.nil
        go_simp
        refine hK.out _ _ trivial (fun hHeld=>?_)
        clear hK K
        refine wpAnyH_done (by kernel_rfl) ?_ _
        clear hHeld
        go_wp2
        go_roundw
        case rel=>exact ⟨q+1,by omega,by go_num,HZ.out.1,HZ.out.2⟩
        case measure=>simp [intOf]; omega
      ·have hqe:q=d+1:=by omega
       subst hqe
       have HN:Hid (SmI w G (d+1) (fun j=>smD c d (i+1) j) wr):=⟨HQ.out.row.congr fun j hj=>by rw [if_pos hj],HQ.out.bel⟩
       clear HQ HR HTD HSI HS1
       go_wp2
       exact ⟨⟨i+1,by omega,by go_num,HN.out⟩,by simp [intOf]; omega⟩
  ·have hie:i=d+1:=by omega
   subst hie
   clear HV HTB HSB
   go_wp2
   go_ret
   exact ⟨by rw [HG.out]; rfl,by rw [←HG.out]; exact HI.out⟩
end Go.Proofs.YtkfdpcgmpbopnaaGreatDoor
namespace Go.Proofs.YtkfdpcgmpbopnaaGreatDoor
open Go.RowKit Lin
attribute [local go_sem ↓] Go.wp_at_zero Go.wp_at_succ
set_option maxRecDepth 100000 in
theorem listF_no (E:Int) (hE:¬E=0) (v:Value) (vo:Option Addr) (vl vc:Nat) (hv:v=.slice vo vl vc) (w:World) :
  Calls Tryz.prog 19 #[.slice none 0 0,.int .i64 E,v,.int .i64 E] w fun x w'=>x=.returned (.bool true)∧Below w.heap.size w w':=by
 subst hv
 go_enter Tryz.func19,Tryz.ntmps19
 go_wp2
 go_ret
 exact ⟨rfl,Below.refl _ _⟩
set_option maxRecDepth 100000 in
theorem listF_same (B:Nat) (x:List Int) (u v:Value) (w:World) (hu:Sl B 3 w u (ints x)) (hv:Sl B 3 w v (ints x)) :
  Calls Tryz.prog 19 #[u,.int .i64 0,v,.int .i64 0] w fun x w'=>x=.returned (.bool true)∧Below w.heap.size w w':=by
 obtain ⟨uo,uc,rfl,_,_⟩:=sl_open hu
 obtain ⟨vo,vc,rfl,_,_⟩:=sl_open hv
 have HS:Hid (Calls Tryz.prog 39 #[.slice uo x.length uc,.slice vo x.length vc] w fun e w'=>e=.returned (.bool true)∧Below w.heap.size w w'):=by
  refine (same_any B x x _ _ w hu hv).mono ?_
  rintro e w' ⟨rfl,n,rfl⟩
  exact ⟨by simp,below_drewN (Below.refl _ _) n⟩
 clear hu hv
 go_enter Tryz.func19,Tryz.ntmps19
 go_wp2_with fail
 refine HS.out.mono ?_
 rintro e w' ⟨rfl,hb⟩
 have HB:Hid (Below w.heap.size w w'):=hb
 clear hb
 go_wp2
 go_ret
 exact ⟨rfl,HB.out⟩
set_option maxRecDepth 100000 in
theorem listsF_same (B:Nat) (x:List (List Int)) (u v:Value) (w:World) (hu:Mat B 22 3 w u x) (hv:Mat B 22 3 w v x) :
  Calls Tryz.prog 20 #[u,.int .i64 0,v,.int .i64 0] w fun x w'=>x=.returned (.bool true)∧Below w.heap.size w w':=by
 obtain ⟨uo,uc,rfl,_,_⟩:=mat_open hu
 obtain ⟨vo,vc,rfl,_,_⟩:=mat_open hv
 have HS:Hid (Calls Tryz.prog 38 #[.slice uo x.length uc,.slice vo x.length vc] w fun e w'=>e=.returned (.bool true)∧Below w.heap.size w w'):=by
  refine (sameAll_any B x x _ _ w hu hv).mono ?_
  rintro e w' ⟨rfl,n,rfl⟩
  exact ⟨by simp,below_drewN (Below.refl _ _) n⟩
 clear hu hv
 go_enter Tryz.func20,Tryz.ntmps20
 go_wp2_with fail
 refine HS.out.mono ?_
 rintro e w' ⟨rfl,hb⟩
 have HB:Hid (Below w.heap.size w w'):=hb
 clear hb
 go_wp2
 go_ret
 exact ⟨rfl,HB.out⟩
set_option maxRecDepth 100000 in
set_option maxHeartbeats 800000 in
theorem levelsF_same (j:Nat) (LV:Nat→List (List Int)) (u v:Value) (w:World) (hu:LvV w u j LV) (hv:LvV w v j LV) (hj:j≤100) :
  Calls Tryz.prog 18 #[u,.int .i64 0,v,.int .i64 0] w fun x w'=>x=.returned (.bool true)∧Below w.heap.size w w':=by
 obtain ⟨uo,uc,rfl,h1⟩:=hu.rows
 obtain ⟨vo,vc,rfl,h2⟩:=hv.rows
 have HCE:Hid (∀X t,Below w.heap.size w X→t < j→∃b1 o1 r1 c1 b2 o2 r2 c2,uo=some ⟨b1,o1,none⟩∧vo=some ⟨b2,o2,none⟩∧(∀Y,Below X.heap.size X Y→Y.cell? ⟨b1,o1+t,none⟩=some (.slice r1 (LV t).length c1)∧Y.cell? ⟨b2,o2+t,none⟩=some (.slice r2 (LV t).length c2))∧∀Y,Below X.heap.size X Y→Calls Tryz.prog 38 #[.slice r1 (LV t).length c1,.slice r2 (LV t).length c2] Y fun e w'=>e=.returned (.bool true)∧Below X.heap.size X w'):=fun X t hX ht=>by
  obtain ⟨b1,o1,r1,c1,e1,k1,m1⟩:=h1 X t hX ht
  obtain ⟨b2,o2,r2,c2,e2,k2,m2⟩:=h2 X t hX ht
  refine ⟨b1,o1,r1,c1,b2,o2,r2,c2,e1,e2,fun Y hY=>⟨(hY.cell (lt_of_cell k1)).trans k1,(hY.cell (lt_of_cell k2)).trans k2⟩,fun Y hY=>?_⟩
  refine (sameAll_any X.heap.size (LV t) (LV t) _ _ Y (m1.below hY (Nat.le_refl _)) (m2.below hY (Nat.le_refl _))).mono ?_
  rintro e w' ⟨rfl,n,rfl⟩
  exact ⟨by simp,below_drewN hY n⟩
 clear hu hv h1 h2
 go_enter Tryz.func18,Tryz.ntmps18
 go_wp2
 go_loopw [9] (fun i wr=>∃k:Nat,k≤j∧i=.int .i64 (k:Int)∧Below w.heap.size w wr) (fun i _=>j-(intOf i).toNat)
 case atStart=>exact ⟨0,Nat.zero_le _,rfl,Below.refl _ _⟩
 case round=>
  obtain ⟨k,hk,rfl,hb⟩:=hrel
  have HB:Hid (Below w.heap.size w wr):=hb
  clear hb
  by_cases hlt:k < j
  ·obtain ⟨b1,o1,r1,c1,b2,o2,r2,c2,e1,e2,hcc,hca⟩:=HCE.out wr k HB.out hlt
   have hkI:(k:Int) < (j:Int):=by omega
   have HCC:Hid (∀Y,Below wr.heap.size wr Y→Y.cell? ⟨b1,o1+k,none⟩=some (.slice r1 (LV k).length c1)∧Y.cell? ⟨b2,o2+k,none⟩=some (.slice r2 (LV k).length c2)):=hcc
   have HCA:Hid (∀Y,Below wr.heap.size wr Y→Calls Tryz.prog 38 #[.slice r1 (LV k).length c1,.slice r2 (LV k).length c2] Y fun e w'=>e=.returned (.bool true)∧Below wr.heap.size wr w'):=hca
   clear hcc hca HCE
   subst e1 e2
   generalize (LV k).length=ll at *
   have hc0:=HCC.out wr (Below.refl _ _)
   go_upto_region 8 with fail
   refine wp_region_held_drew (S:=fun Y=>Y.cell? ⟨b1,o1+k,none⟩=some (.slice r1 ll c1)∧Y.cell? ⟨b2,o2+k,none⟩=some (.slice r2 ll c2)) (by kernel_rfl) hc0 (fun hHeld=>?_)
   clear hc0
   refine wpAnyH_tk (i:=0) (d:=35) (v:=(.slice (some ⟨b1,o1,none⟩) j uc)) rfl rfl (by kernel_rfl) (by kernel_rfl) (by kernel_rfl) (fun _ _ _ h=>h) (.inl ⟨by rfl,by (intro wq hSw; (try dsimp only at hSw); go_simp; (try (first | rfl | omega)))⟩) hHeld ?_
   simp only [Act.put,List.setIfInBounds_toArray,List.set_cons_zero,List.set_cons_succ]
   refine wpAnyH_tk (i:=1) (d:=36) (v:=(.int .i64 (k:Int))) rfl rfl (by kernel_rfl) (by kernel_rfl) (by kernel_rfl) (fun _ _ _ h=>h) (.inl ⟨by rfl,by (intro wq hSw; (try dsimp only at hSw); go_simp; (try (first | rfl | omega)))⟩) hHeld ?_
   simp only [Act.put,List.setIfInBounds_toArray,List.set_cons_zero,List.set_cons_succ]
   refine wpAnyH_tk (i:=2) (d:=37) (v:=(.pointer (some ⟨b1,o1+k,none⟩))) rfl rfl (by kernel_rfl) (by kernel_rfl) (by kernel_rfl) (fun _ _ _ h=>h) (.inl ⟨by rfl,by (intro wq hSw; (try dsimp only at hSw); go_simp; (try (first | rfl | omega)))⟩) hHeld ?_
   simp only [Act.put,List.setIfInBounds_toArray,List.set_cons_zero,List.set_cons_succ]
   refine wpAnyH_tk (i:=3) (d:=38) (v:=(.slice r1 ll c1)) rfl rfl (by kernel_rfl) (by kernel_rfl) (by kernel_rfl) (fun _ _ _ h=>h) (.inl ⟨by rfl,by (intro wq hSw; (try dsimp only at hSw); go_simp; (try (first | rfl | omega)))⟩) hHeld ?_
   simp only [Act.put,List.setIfInBounds_toArray,List.set_cons_zero,List.set_cons_succ]
   refine wpAnyH_tk (i:=4) (d:=39) (v:=(.slice (some ⟨b2,o2,none⟩) j vc)) rfl rfl (by kernel_rfl) (by kernel_rfl) (by kernel_rfl) (fun _ _ _ h=>h) (.inl ⟨by rfl,by (intro wq hSw; (try dsimp only at hSw); go_simp; (try (first | rfl | omega)))⟩) hHeld ?_
   simp only [Act.put,List.setIfInBounds_toArray,List.set_cons_zero,List.set_cons_succ]
   refine wpAnyH_tk (i:=5) (d:=40) (v:=(.int .i64 (k:Int))) rfl rfl (by kernel_rfl) (by kernel_rfl) (by kernel_rfl) (fun _ _ _ h=>h) (.inl ⟨by rfl,by (intro wq hSw; (try dsimp only at hSw); go_simp; (try (first | rfl | omega)))⟩) hHeld ?_
   simp only [Act.put,List.setIfInBounds_toArray,List.set_cons_zero,List.set_cons_succ]
   refine wpAnyH_tk (i:=6) (d:=41) (v:=(.pointer (some ⟨b2,o2+k,none⟩))) rfl rfl (by kernel_rfl) (by kernel_rfl) (by kernel_rfl) (fun _ _ _ h=>h) (.inl ⟨by rfl,by (intro wq hSw; (try dsimp only at hSw); go_simp; (try (first | rfl | omega)))⟩) hHeld ?_
   simp only [Act.put,List.setIfInBounds_toArray,List.set_cons_zero,List.set_cons_succ]
   refine wpAnyH_tk (i:=7) (d:=42) (v:=(.slice r2 ll c2)) rfl rfl (by kernel_rfl) (by kernel_rfl) (by kernel_rfl) (fun _ _ _ h=>h) (.inl ⟨by rfl,by (intro wq hSw; (try dsimp only at hSw); go_simp; (try (first | rfl | omega)))⟩) hHeld ?_
   simp only [Act.put,List.setIfInBounds_toArray,List.set_cons_zero,List.set_cons_succ]
   refine wpAnyH_ready (rs:=[8]) (by kernel_rfl) (by simp) ?_
   refine ready_tk (i:=8) rfl (by rfl) (fun K hK=>?_) AllReadyH.nil
   go_simp
   refine (HCA.out wr.drew (Below.refl _ _).drew).mono ?_
   rintro e w3 ⟨rfl,hb3⟩
   have HB3:Hid (Below wr.heap.size wr w3):=hb3
   clear hb3
   refine hK.out _ _ (HCC.out w3 HB3.out) (fun hHeld=>?_)
   clear hK K
   refine wpAnyH_tk (i:=9) (d:=44) (v:=(.bool false)) rfl rfl (by kernel_rfl) (by kernel_rfl) (by kernel_rfl) (fun _ _ _ h=>h) (.inl ⟨by rfl,by (intro wq hSw; (try dsimp only at hSw); go_simp; (try (first | rfl | omega)))⟩) hHeld ?_
   simp only [Act.put,List.setIfInBounds_toArray,List.set_cons_zero,List.set_cons_succ]
   refine wpAnyH_done (by kernel_rfl) ?_ _
   clear hHeld
   go_wp2
   go_roundw
   case rel=>exact ⟨k+1,by omega,by go_num,HB.out.trans (HB3.out.mono HB.out.size)⟩
   case measure=>simp [intOf]; omega
  ·have hke:k=j:=by omega
   subst hke
   clear HCE
   go_wp2
   go_ret
   exact ⟨rfl,HB.out⟩
end Go.Proofs.YtkfdpcgmpbopnaaGreatDoor
