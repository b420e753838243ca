import Derived.Test.YtdanomklbiidaaaGreatDoorMgAA
import Derived.Laws.AppendOwnNone
import Derived.Test.YtdanomklbiidaaaGreatDoorLinAll
import Derived.Deep.QuietTactic
import Derived.BigQuiet
import Derived.Deep.RegionHeld3
import Derived.Deep.RegionLaw
import Derived.Deep.DrawnRows
namespace Go.Proofs.YtdanomklbiidaaaGreatDoor
open Go.RowKit
theorem ints_oneCell' (l:List Int):∀u∈ints l,u.oneCell'=true:=by
 intro u hu; simp only [ints,List.mem_map] at hu; obtain ⟨z,_,rfl⟩:=hu; rfl
theorem sl_cells {B:Nat} {e:TypeId} {w:World} {a:Addr} {n cap:Nat} {xs:List Value} (h:Sl B e w (.slice (some a) n cap) xs) (o:Obj):∀j u,xs[j]?=some u→(w.alloc o).cell? (a.add j)=some u:=by
 intro j u hj
 have hlt:j < xs.length:=by
  rcases Nat.lt_or_ge j xs.length with h' | h'
  ·exact h'
  ·rw [List.getElem?_eq_none h'] at hj; cases hj
 obtain ⟨ao,c,hv,h1,h2,h3,h4⟩:=h.alloc o
 simp only [Value.slice.injEq] at hv
 obtain ⟨rfl,_,rfl⟩:=hv
 obtain ⟨b,of,hb,hc,_⟩:=h3 j hlt
 simp only [Option.some.injEq] at hb
 subst hb
 rw [←hj,←hc]
 by_cases hj0:j=0
 ·subst hj0; simp [Addr.add]
 ·simp [Addr.add,hj0]
set_option maxHeartbeats 400000 in
theorem copy_any (B:Nat) (l:List Int) (v:Value) (w:World) (hv:Sl B 3 w v (ints l)) (hl:l.length≤1000000) :
  Calls Tryz.prog 12 #[v] w fun e w'=>∃u,e=.returned u∧w'.ownsRow w.heap.size 3 1 u l.length (ints l)∧Below w.heap.size w w':=by
 obtain ⟨i3,hi3,hz30,hz31,hz32⟩:=info_parts Tryz.info3
 have hv':=hv
 obtain ⟨ao,cap,hvv,hlc,hcm,hcell,hnil⟩:=hv'
 simp only [ints_length] at hvv hlc
 subst hvv
 have HV:Hid (Sl B 3 w (.slice ao l.length cap) (ints l)):=hv
 clear hcell hv
 have HE:Hid ((w.alloc (.cells #[] 3)).ownsRow w.heap.size 3 1 (.slice (some ⟨w.heap.size,0,none⟩) 0 0) 0 []):=
  World.ownsRow_made w #[] 0 (Nat.le_refl _) (by simp [maxLen]) (by simp)
 cases ao with
 | none=>
  have hc0:=hnil rfl
  subst hc0
  have hl0:l=[]:=List.eq_nil_of_length_eq_zero (by omega)
  subst hl0
  go_enter Tryz.func12,Tryz.ntmps12
  go_wp2_with (first | (at_builtin; refine wpList_append_own_none rfl _ _ 22 rfl w.heap.size 3 i3 1 Tryz.underlying22 hi3 _ _ _ rfl HE.out rfl ?_))
  go_ret
  exact ⟨_,rfl,HE.out,(Below.refl _ _).alloc (Nat.le_refl _) _⟩
 | some a=>
  clear hnil
  go_enter Tryz.func12,Tryz.ntmps12
  go_wp2_with (first | (at_builtin; refine wpList_append_own _ rfl _ _ 22 rfl w.heap.size 3 i3 (.int .i64 0) 1 8 Tryz.underlying22 hi3 hz30 hz31 hz32 rfl (by decide) _ _ _ rfl HE.out a l.length cap (ints l) rfl (by simp) (sl_cells HV.out _) (ints_oneCell' l) ?c3 ?c4 ?c5 ?_))
  case c3=>unfold maxLen; omega
  case c4=>omega
  case c5=>simp
  intro v' w3 ho hg _
  have ho':w3.ownsRow w.heap.size 3 1 v' l.length (ints l):=by simpa using ho
  have HO:Hid (w3.ownsRow w.heap.size 3 1 v' l.length (ints l)):=ho'
  have HB:Hid (Below w.heap.size w w3):=((Below.refl _ _).alloc (Nat.le_refl _) _).grown hg (by simp) (fun k hk=>by simp [Value.ownBlock] at hk; omega)
  clear ho ho' hg
  go_wp2
  go_ret
  exact ⟨_,rfl,HO.out,HB.out⟩
theorem gc_snoc (l:List Int) (k:Nat) (h:k < l.length):Lin.gc (l.take (k+1))=Nat.gcd (Lin.gc (l.take k)) (l[k]).natAbs:=by
 rw [List.take_succ_eq_append_getElem h]; unfold Lin.gc Lin.gcf; rw [List.foldl_append]; rfl
theorem gc_le {l:List Int} {b:Nat} (h:∀z∈l,z.natAbs≤b):Lin.gc l≤b:=by
 by_cases h0:∃z∈l,z≠0
 ·obtain ⟨z,hz,hne⟩:=h0
  have h1:=Lin.gc_dvd hz
  have h2:Lin.gc l ∣ z.natAbs:=Int.ofNat_dvd_left.1 h1
  have:=Nat.le_of_dvd (by omega) h2
  have:=h z hz
  omega
 ·have:∀g,g=0→Lin.gcf g l=0:=by
   intro g hg
   subst hg
   have hz:∀z∈l,z=0:=by
    intro z hz
    apply Classical.byContradiction
    intro hne
    exact h0 ⟨z,hz,hne⟩
   clear h h0
   induction l with
   | nil=>rfl
   | cons v l ih=>
    have:v=0:=hz v (by simp)
    subst this
    have:=ih fun z hz'=>hz z (by simp [hz'])
    simpa [Lin.gcf] using this
  have:=this 0 rfl
  unfold Lin.gc; omega
theorem low_small {l:List Int} {z:Int} (h:z∈l) (hg:Lin.gc l≤1):z / (Lin.gc l:Int)=z:=by
 by_cases h1:Lin.gc l=1
 ·rw [h1]; simp
 ·have h0:Lin.gc l=0:=by omega
  obtain ⟨q,hq⟩:=Lin.gc_dvd h
  rw [h0] at hq ⊢
  simp at hq ⊢
  omega
end Go.Proofs.YtdanomklbiidaaaGreatDoor

namespace Go.Proofs.YtdanomklbiidaaaGreatDoor
open Go.RowKit
set_option maxRecDepth 100000 in
set_option maxHeartbeats 400000 in
theorem clone_any (B:Nat) (l:List Int) (v:Value) (w:World) (hv:Sl B 3 w v (ints l)) (hl:l.length≤1000000) :
  Calls Tryz.prog 31 #[v] w fun e w'=>∃u,e=.returned u∧w'.ownsRow w.heap.size 3 1 u l.length (ints l)∧Below w.heap.size w w':=by
 obtain ⟨i3,hi3,hz30,hz31,hz32⟩:=info_parts Tryz.info3
 have hv':=hv
 obtain ⟨ao,cap,hvv,hlc,hcm,hcell,hnil⟩:=hv'
 simp only [ints_length] at hvv hlc
 subst hvv
 have HV:Hid (Sl B 3 w (.slice ao l.length cap) (ints l)):=hv
 clear hcell hv
 have HE:Hid ((w.alloc (.cells #[] 3)).ownsRow w.heap.size 3 1 (.slice (some ⟨w.heap.size,0,none⟩) 0 0) 0 []):=
  World.ownsRow_made w #[] 0 (Nat.le_refl _) (by simp [maxLen]) (by simp)
 have hq:=fun (w:World) (a:Option Addr) (n c:Nat)=>Lib.run_eql_slice_nil (P:=Tryz.prog) w 22 3 a n c 0 0 Tryz.underlying22
 cases ao with
 | none=>
  have hc0:=hnil rfl
  subst hc0
  have hl0:l=[]:=List.eq_nil_of_length_eq_zero (by omega)
  subst hl0
  go_enter Tryz.func31,Tryz.ntmps31
  go_wp2
  go_ret
  exact ⟨_,rfl,World.ownsRow_nil _ _ _ _,Below.refl _ _⟩
 | some a=>
  clear hnil
  go_enter Tryz.func31,Tryz.ntmps31
  go_wp2_with (first | (at_builtin; refine wpList_append_own _ rfl _ _ 22 rfl w.heap.size 3 i3 (.int .i64 0) 1 8 Tryz.underlying22 hi3 hz30 hz31 hz32 rfl (by decide) _ _ _ rfl HE.out a l.length cap (ints l) rfl (by simp) (sl_cells HV.out _) (ints_oneCell' l) ?c3 ?c4 ?c5 ?_))
  case c3=>unfold maxLen; omega
  case c4=>omega
  case c5=>simp
  intro v' w3 ho hg _
  have ho':w3.ownsRow w.heap.size 3 1 v' l.length (ints l):=by simpa using ho
  have HO:Hid (w3.ownsRow w.heap.size 3 1 v' l.length (ints l)):=ho'
  have HB:Hid (Below w.heap.size w w3):=((Below.refl _ _).alloc (Nat.le_refl _) _).grown hg (by simp) (fun k hk=>by simp [Value.ownBlock] at hk; omega)
  clear ho ho' hg
  go_wp2
  go_ret
  exact ⟨_,rfl,HO.out,HB.out⟩
set_option maxRecDepth 100000 in
set_option maxHeartbeats 800000 in
theorem divisor_any (B:Nat) (l:List Int) (v:Value) (w:World) (hv:Sl B 3 w v (ints l)) (hb:∀z∈l,z.natAbs≤4611686018427387904) :
  Calls Tryz.prog 119 #[v] w fun e w'=>e=.returned (.int .i64 (Lin.gc l))∧∃n,w'=w.drewN n:=by
 obtain ⟨ao,cap,hvv,hlc,hcm⟩:=sl_open hv
 subst hvv
 have HV:Hid (Sl B 3 w (.slice ao l.length cap) (ints l)):=hv
 have HBD:Hid (∀z∈l,z.natAbs≤4611686018427387904):=hb
 clear hv hb
 go_enter Tryz.func119,Tryz.ntmps119
 go_wp2
 go_loopw [3,8] (fun g i wr=>∃k:Nat,k≤l.length∧i=.int .i64 k∧(∃d:Int,g=.int .i64 d∧d.natAbs=Lin.gc (l.take k))∧∃n,wr=w.drewN n) (fun _ i _=>l.length-(intOf i).toNat)
 case atStart=>exact ⟨0,Nat.zero_le _,rfl,⟨0,rfl,rfl⟩,0,rfl⟩
 case round=>
  obtain ⟨k,hk,rfl,⟨d,rfl,hd⟩,n,hwr⟩:=hrel
  have HW:Hid (∃n,wr=w.drewN n):=⟨n,hwr⟩
  have HVr:Hid (Sl B 3 wr (.slice ao l.length cap) (ints l)):=by subst hwr; exact HV.out.drewN n
  have hgl:Lin.gc (l.take k)≤4611686018427387904:=gc_le fun z hz=>HBD.out z (List.mem_of_mem_take hz)
  have hd1:d.natAbs≤4611686018427387904:=by omega
  have HD:Hid (d.natAbs=Lin.gc (l.take k)):=hd
  clear hwr hd hgl
  obtain ⟨wa,rfl⟩:∃wa,wa=wr:=⟨wr,rfl⟩
  by_cases hlt:k < l.length
  ·obtain ⟨b,o,cp,hs,hc1,hcc⟩:=sl_cell HVr.out hlt
   simp only [Value.slice.injEq] at hs
   obtain ⟨rfl,_,rfl⟩:=hs
   have hbd:=HBD.out l[k] (List.getElem_mem hlt)
   have HG:Hid (Lin.gc (l.take (k+1))=Nat.gcd (Lin.gc (l.take k)) (l[k]).natAbs):=gc_snoc l k hlt
   rw [show l.getD k 0=l[k] by simp [hlt]] at hcc
   generalize hlk:l[k]=x at *
   clear hlk
   go_wp2
   go_loopw [3,5] (fun g a wq=>∃p q:Int,g=.int .i64 p∧a=.int .i64 q∧p.natAbs≤4611686018427387904∧q.natAbs≤4611686018427387904∧Nat.gcd p.natAbs q.natAbs=Nat.gcd d.natAbs x.natAbs∧∃n,wq=wa.drewN n) (fun _ a _=>(intOf a).natAbs)
   case atStart=>exact ⟨d,x,rfl,rfl,hd1,hbd,rfl,0,rfl⟩
   case round=>
    obtain ⟨p,q,rfl,rfl,hp,hq,hpq,n2,hwq⟩:=hrel
    have HXY:Hid (Nat.gcd p.natAbs q.natAbs=Nat.gcd d.natAbs x.natAbs):=hpq
    have HWQ:Hid (∃n,wr=wa.drewN n):=⟨n2,hwq⟩
    clear hpq hwq
    by_cases hq0:q=0
    ·subst hq0
     go_wp2
     go_roundw
     case rel=>
      obtain ⟨n1,e1⟩:=HW.out
      obtain ⟨n2,e2⟩:=HWQ.out
      refine ⟨k+1,by omega,by go_num,⟨p,rfl,?_⟩,n1+n2,by rw [e2,e1,World.drewN_drewN]⟩
      rw [HG.out,←HD.out,←HXY.out]; simp
     case measure=>simp [intOf]; omega
    ·have hqb:(q != 0)=true:=by simp [hq0]
     have hm1:(p.tmod q).natAbs=p.natAbs % q.natAbs:=Int.natAbs_tmod p q
     have HM1:Hid ((p.tmod q).natAbs=p.natAbs % q.natAbs):=hm1
     have hql:p.natAbs % q.natAbs < q.natAbs:=Nat.mod_lt _ (by omega)
     have HQL:Hid (p.natAbs % q.natAbs < q.natAbs):=hql
     clear hm1 hql
     go_wp2
     go_region
     all_goals
      go_wp2
      go_roundw
      case rel=>
       obtain ⟨n2,e2⟩:=HWQ.out
       refine ⟨q,p.tmod q,rfl,rfl,hq,?_,?_,n2+1,by rw [e2]; rfl⟩
       ·have h1:=HM1.out; have h2:=HQL.out; omega
       ·rw [HM1.out,←HXY.out,Nat.gcd_comm q.natAbs,←Nat.gcd_rec,Nat.gcd_comm]
      case measure=>
       have h1:=HM1.out
       have h2:=HQL.out
       simp only [intOf]; omega
  ·have HTK:Hid (l.take k=l):=List.take_of_length_le (by omega)
   have HD2:Hid (d.natAbs=Lin.gc l):=by show _=_; rw [HD.out,HTK.out]
   by_cases hneg:d < 0
   all_goals
    go_wp2
    all_goals
     go_ret
     exact ⟨ret_int (by have:=HD2.out; omega),HW.out⟩
set_option maxHeartbeats 400000 in
theorem prim1_any (x d:Int) (w:World) (a:Addr) (hd:1≤d) (hx:x.natAbs≤4611686018427387904) (hc:w.cell? a=some (.int .i64 d)) :
  Calls Tryz.prog 121 #[.int .i64 x,.pointer (some a)] w fun e w'=>e=.returned (.int .i64 (x.tdiv d))∧w'=w:=by
 have h1:(x.tdiv d).natAbs≤4611686018427387904:=by
  rw [Int.natAbs_tdiv]; exact Nat.le_trans (Nat.div_le_self _ _) hx
 have hdb:(d == 0)=false:=beq_eq_false_iff_ne.2 (by omega)
 go_enter Tryz.func121,Tryz.ntmps121
 go_wp2
 go_ret
 exact ⟨rfl,rfl⟩
set_option maxRecDepth 100000 in
set_option maxHeartbeats 800000 in
theorem mappedP_any (B:Nat) (l:List Int) (v:Value) (w:World) (hv:Sl B 3 w v (ints l)) (hl:l.length≤1000000) (g:Nat) (d:Int) (hg:g < w.heap.size) (hd:1≤d) (hb:∀z∈l,z.natAbs≤4611686018427387904) (hc:w.cell? ⟨g,0,none⟩=some (.int .i64 d)) :
  Calls Tryz.prog 120 #[v,.func (.func 121) #[] #[.pointer (some ⟨g,0,none⟩)]] w fun e w'=>∃u,e=.returned u∧(∀B,Sl B 3 w' u (ints (l.map (fun z=>z.tdiv d))))∧Below w.heap.size w w':=by
 obtain ⟨ao,cap,hvv,hlc,hcm⟩:=sl_open hv
 subst hvv
 have HV:Hid (Sl B 3 w (.slice ao l.length cap) (ints l)):=hv
 have HBD:Hid (∀z∈l,z.natAbs≤4611686018427387904):=hb
 have HC:Hid (w.cell? ⟨g,0,none⟩=some (.int .i64 d)):=hc
 clear hb hc
 clear hv
 have hmk:=run_make_row' (P:=Tryz.prog) 22 3 (.int .i64 0) 8 Tryz.underlying22 Tryz.info3 rfl .i64 .i64 l.length (by omega) (by omega)
 go_enter Tryz.func120,Tryz.ntmps120
 go_wp2
 go_loopw [13] (fun i wr=>∃k:Nat,k≤l.length∧i=.int .i64 k∧wr.rowIs w.heap.size 3 l.length (fun j=>.int .i64 (if j < k then (l.map (fun z=>z.tdiv d)).getD j 0 else 0))∧Below w.heap.size w wr) (fun i _=>l.length-(intOf i).toNat)
 case atStart=>
  refine ⟨0,Nat.zero_le _,rfl,?_,(Below.refl _ _).alloc (Nat.le_refl _) _⟩
  exact (World.rowIs_made w (.int .i64 0) l.length 3).congr fun i hi=>by simp
 case round=>
  obtain ⟨k,hk,rfl,hrow,hbel⟩:=hrel
  have HR:Hid (wr.rowIs w.heap.size 3 l.length (fun j=>.int .i64 (if j < k then (l.map (fun z=>z.tdiv d)).getD j 0 else 0))):=hrow
  have HB:Hid (Below w.heap.size w wr):=hbel
  by_cases hlt:k < l.length
  ·obtain ⟨b,o,cp,hs,hc1,hcc⟩:=sl_cell (HV.out.below hbel (Nat.le_refl _)) hlt
   simp only [Value.slice.injEq] at hs
   obtain ⟨rfl,_,rfl⟩:=hs
   have hfz:=hrow.frozen k
   have hcl:=hrow.cell (i:=k) hlt
   have HF:Hid ((l.map (fun z=>z.tdiv d)).getD k 0=(fun z=>z.tdiv d) (l.getD k 0)):=by show _=_; simp [hlt]
   have hmem:l.getD k 0∈l:=by simp [hlt]
   have HMEM:Hid (l.getD k 0∈l):=hmem
   generalize hxk:l.getD k 0=x at *
   clear hrow hbel hmem hxk
   go_wp2_with fail
   refine (prim1_any x d wr ⟨g,0,none⟩ hd (HBD.out x HMEM.out) ((HB.out.cell hg).trans HC.out)).mono ?_
   rintro e w' ⟨rfl,rfl⟩
   go_wp2
   go_roundw
   case rel=>
    refine ⟨k+1,by omega,by go_num,?_,HB.out.setCell (Nat.le_refl _) _⟩
    refine (HR.out.set k _).congr fun j hj=>?_
    by_cases e1:j=k
    ·subst e1; rw [if_pos rfl,if_pos (by omega),HF.out]
    ·by_cases e2:j < k
     ·rw [if_neg e1,if_pos e2,if_pos (by omega)]
     ·rw [if_neg e1,if_neg e2,if_neg (by omega)]
   case measure=>simp [intOf]; omega
  ·clear hrow hbel
   go_wp2
   go_ret
   refine ⟨_,rfl,fun B=>?_,HB.out⟩
   refine Sl.row HR.out (by simp) (by unfold maxLen; omega) fun i hi=>?_
   rw [ints_get _ _ (by simpa using hi),if_pos (by omega)]
theorem low_prog {l:List Int} (h:1≤Lin.gc l):(l.map fun z=>z.tdiv (Lin.gc l))=Lin.low l:=by
 unfold Lin.low
 refine List.map_congr_left fun z hz=>?_
 obtain ⟨q,hq⟩:=Lin.gc_dvd hz
 have hne:(Lin.gc l:Int)≠0:=by omega
 have e:z=(Lin.gc l:Int)*q:=hq
 rw [e,Int.mul_tdiv_cancel_left q hne,Int.mul_ediv_cancel_left q hne]
theorem low_zero {l:List Int} (h:Lin.gc l=0):Lin.low l=l:=by
 unfold Lin.low
 have:∀z∈l,z / (Lin.gc l:Int)=z:=fun z hz=>low_small hz (by omega)
 have e:l.map (fun z=>z / (Lin.gc l:Int))=l.map id:=List.map_congr_left fun z hz=>this z hz
 rw [e,List.map_id]
set_option maxRecDepth 100000 in
set_option maxHeartbeats 400000 in
theorem primitive_any (B:Nat) (l:List Int) (v:Value) (w:World) (hv:Sl B 3 w v (ints l)) (hl:l.length≤1000000) (hb:∀z∈l,z.natAbs≤4611686018427387904) :
  Calls Tryz.prog 116 #[v] w fun e w'=>∃u,e=.returned u∧(∀B,Sl B 3 w' u (ints (Lin.low l)))∧Below w.heap.size w w':=by
 obtain ⟨ao,cap,hvv,hlc,hcm⟩:=sl_open hv
 subst hvv
 have HV:Hid (Sl B 3 w (.slice ao l.length cap) (ints l)):=hv
 have HBD:Hid (∀z∈l,z.natAbs≤4611686018427387904):=hb
 clear hv hb
 go_enter Tryz.func116,Tryz.ntmps116
 go_wp2_with fail
 refine (divisor_any B l _ w HV.out HBD.out).mono ?_
 rintro e w1 ⟨rfl,n1,hw1⟩
 have HV1:Hid (Sl B 3 w1 (.slice ao l.length cap) (ints l)):=by rw [hw1]; exact HV.out.drewN n1
 have HB1:Hid (Below w.heap.size w w1):=by rw [hw1]; exact ⟨rfl,rfl,rfl,Nat.le_refl _,fun _ _=>rfl⟩
 have hs1:w.heap.size=w1.heap.size:=by rw [hw1]; rfl
 have HS1:Hid (w.heap.size=w1.heap.size):=hs1
 clear hw1 hs1
 obtain ⟨g,hg⟩:∃g,g=Lin.gc l:=⟨_,rfl⟩
 have HG:Hid (g=Lin.gc l):=hg
 rw [←hg]
 have hgb:g≤4611686018427387904:=by rw [hg]; exact gc_le HBD.out
 clear hg
 have HBA:Hid (Below w.heap.size w (w1.alloc (.cells #[.int .i64 g] 3))):=HB1.out.alloc (by rw [HS1.out]; exact Nat.le_refl _) _
 by_cases h0:g=0
 ·have hgb0:((g:Int) == 0)=true:=by simp [h0]
  have HLZ:Hid (Lin.low l=l):=low_zero (by rw [←HG.out]; exact h0)
  clear h0
  go_wp2_with fail
  refine (clone_any B l _ _ (HV1.out.alloc _) hl).mono ?_
  rintro e w2 ⟨u,rfl,ho,hb2⟩
  have HO:Hid (∀B,Sl B 3 w2 u (ints (Lin.low l))):=by intro B; rw [HLZ.out]; exact Sl.own ho
  have HB2:Hid (Below w.heap.size w w2):=HBA.out.trans (hb2.mono HBA.out.size)
  clear ho hb2
  go_wp2
  go_ret
  exact ⟨_,rfl,HO.out,HB2.out⟩
 ·have hgb0:((g:Int) == 0)=false:=by rw [beq_eq_false_iff_ne]; omega
  have HLP:Hid ((l.map fun z=>z.tdiv (g:Int))=Lin.low l):=by show _=_; rw [HG.out]; exact low_prog (by rw [←HG.out]; omega)
  have hg1:(1:Int)≤(g:Int):=by omega
  clear h0
  go_wp2_with fail
  refine (mappedP_any B l _ _ (HV1.out.alloc _) hl w1.heap.size g (by simp) hg1 HBD.out (by simp)).mono ?_
  rintro e w2 ⟨u,rfl,ho,hb2⟩
  have HO:Hid (∀B,Sl B 3 w2 u (ints (Lin.low l))):=by intro B; rw [←HLP.out]; exact ho B
  have HB2:Hid (Below w.heap.size w w2):=HBA.out.trans (hb2.mono HBA.out.size)
  clear ho hb2
  go_wp2
  go_ret
  exact ⟨_,rfl,HO.out,HB2.out⟩
end Go.Proofs.YtdanomklbiidaaaGreatDoor

namespace Go.Proofs.YtdanomklbiidaaaGreatDoor
open Go.RowKit
theorem step_append_own {P:Program} {ops:Array Oper} {o:Oper} {a:Act} {w:World} {K:Act→World→Prop} {Q:Exit→Act→World→Prop} {E:Prop}
  (hg:o.guard=none) (s x:Operand) (t:TypeId) (hop:o.op=Op.call { callee:=Callee.builtin Builtin.append,args:=#[s,x],argTypes:=#[t,t] })
  (base:Nat) (e:TypeId) (i:TypeInfo) (z:Value) (size bytes:Nat) (h1:P.underlying t=some (.slice e)) (h2:P.info? e=some i) (h3:i.zero=some z) (h4:i.size=size) (h5:i.bytes=bytes) (h6:z.cells.size=size) (h7:0 < size)
  (v:Value) (n:Nat) (xs:List Value) (hs:a.eval s=v) (hown:w.ownsRow base e size v n xs)
  (ad:Addr) (m c:Nat) (news:List Value) (hx:a.eval x=.slice (some ad) m c) (hn:news.length=m*size) (hc:∀j u,news[j]?=some u→w.cell? (ad.add j)=some u) (h1c:∀u∈news,u.oneCell'=true)
  (b1:n+m≤maxLen) (b2:(n+m)*bytes≤140737488355328) (hb:base≤w.heap.size)
  (hK:∀v' w',w'.ownsRow base e size v' (n+m) (xs ++ news)→w.grownBy w' v.ownBlock→K (a.put o.dst v') w') :
  if Region.wanted o (yielded ops a.tmps)=true then Oper.wp P o a w K Q else E:=by
 have hw:Region.wanted o (yielded ops a.tmps)=true:=by simp [Region.wanted,hg]
 rw [if_pos hw]
 obtain ⟨v',w',hrun,r1,r2,_⟩:=run_append_own (P:=P) w base t o.type e i z size bytes h1 h2 h3 h4 h5 h6 h7 v n xs hown ad m c news hn hc h1c b1 b2 hb
 unfold Oper.wp
 simp [execOp,hop,resolve,invoke,builtin,hs,hx,hrun,Result.andThen]
 exact hK v' w' r1 r2
end Go.Proofs.YtdanomklbiidaaaGreatDoor
namespace Go.Proofs.YtdanomklbiidaaaGreatDoor
open Go.RowKit
theorem step_call {P:Program} {ops:Array Oper} {o:Oper} {a:Act} {w:World} {K:Act→World→Prop} {Q:Exit→Act→World→Prop} {E:Prop}
  (hg : o.guard = none) (f : FuncId) (x : Operand) (t : TypeId) (hop : o.op = Op.call { callee := Callee.value (Operand.func f), args := #[x], argTypes := #[t] }) (v : Value) (hv : a.eval x = v) (hf : ∃ fn, P.funcs[f]? = some fn ∧ (fn.name == "runtime.NumGoroutine") = false ∧ fn.body.isNone = false)
  (hc:Calls P f #[v] w fun e w'=>∃u,e=.returned u∧K (a.put o.dst u) w') :
  if Region.wanted o (yielded ops a.tmps)=true then Oper.wp P o a w K Q else E:=by
 have hw:Region.wanted o (yielded ops a.tmps)=true:=by simp [Region.wanted,hg]
 rw [if_pos hw]
 unfold Oper.wp
 obtain ⟨fn,f1,f2,f3⟩:=hf
 have e:(execOp a.eval o).run P w=.ok (.enter f #[v]) w:=by
  have hfn:a.eval (Operand.func f)=Value.func (Fn.func f) #[] #[]:=rfl
  have hcf:(callFunc f #[v]).run P w=.ok (.enter f #[v]) w:=by
   unfold callFunc
   have g2 : ¬ fn.name = "runtime.NumGoroutine" := by simpa using f2
   have g3:¬fn.body=none:=by intro e; rw [e] at f3; simp at f3
   simp [f1,g2,g3]
  unfold execOp
  rw [hop]
  simp [resolve,invoke,hv,hfn,Deferred.ofValue,hcf]
 rw [e,Oper.upon_enter]
 refine hc.mono ?_
 rintro e w' ⟨u,rfl,h⟩
 exact h
end Go.Proofs.YtdanomklbiidaaaGreatDoor

namespace Go.Proofs.YtdanomklbiidaaaGreatDoor
open Go.RowKit
attribute [local go_sem ↓] Go.wp_at_zero Go.wp_at_succ
structure Touch (g:Nat) (w w':World):Prop where
 os:w'.os=w.os
 tape:w'.tape=w.tape
 output:w'.output=w.output
 size:w'.heap.size=w.heap.size
 block:∀b,b≠g→w'.heap[b]?=w.heap[b]?
theorem Touch.refl (g:Nat) (w:World):Touch g w w:=⟨rfl,rfl,rfl,rfl,fun _ _=>rfl⟩
theorem Touch.drewN {g:Nat} {w w':World} (h:Touch g w w') (n:Nat):Touch g w (w'.drewN n):=⟨h.os,h.tape,h.output,h.size,h.block⟩
theorem Touch.drew {g:Nat} {w w':World} (h:Touch g w w'):Touch g w w'.drew:=⟨h.os,h.tape,h.output,h.size,h.block⟩
theorem Touch.setCell {g:Nat} {w w':World} (h:Touch g w w') (j:Nat) (u:Value):Touch g w (w'.setCell ⟨g,j,none⟩ u):=
 ⟨h.os,h.tape,h.output,by simp [World.setCell,h.size],fun b hb=>(Below.heap_setCell _ _ _ _ hb).trans (h.block b hb)⟩
theorem Touch.cell {g:Nat} {w w':World} (h:Touch g w w') {a:Addr} (ha:a.block≠g):w'.cell? a=w.cell? a:=World.cell?_of_block (w:=w) (h.block _ ha)
theorem Touch.owns {g B n:Nat} {e:TypeId} {w w':World} {v:Value} {xs:List Value} (h:Touch g w w') (ho:w.ownsRow B e 1 v n xs) (hv:v.ownBlock≠some g):w'.ownsRow B e 1 v n xs:=by
 obtain ⟨h1,h2⟩:=ho
 refine ⟨h1,?_⟩
 rcases h2 with h2 | ⟨k,cap,cur,rfl,hb,hh,r⟩
 ·exact Or.inl h2
 ·exact Or.inr ⟨k,cap,cur,rfl,hb,(h.block k (fun e=>hv (by simp [Value.ownBlock,e]))).trans hh,r⟩
theorem quo_even {k r t p d q:Int} (hd:d≠0) (he:k*r-t*p=d*q) (hb : -9223372036854775808 < d*q∧d*q≤9223372036854775807) (hq : -9223372036854775808≤q∧q≤9223372036854775807) :
  wrap64 ((wrap64 (wrap64 (k*r)-wrap64 (t*p))).tdiv d)=q:=by
 have e1:wrap64 (wrap64 (k*r)-wrap64 (t*p))=d*q:=by
  have e2:wrap64 (wrap64 (k*r)-wrap64 (t*p))=wrap64 (k*r-t*p):=by unfold wrap64; omega
  rw [e2,he]
  exact IntWalk.wrap64_in _ ⟨by omega,by omega⟩
 rw [e1,Int.mul_tdiv_cancel_left q hd]
 exact IntWalk.wrap64_in _ hq
set_option maxRecDepth 100000 in
set_option maxHeartbeats 1600000 in
theorem clear_any (B g gp c cap capp q:Nat) (r p nr:List Int) (d:Int) (w:World) (hr:w.ownsRow B 3 1 (.slice (some ⟨g,0,none⟩) c cap) c (ints r)) (hp:w.ownsRow B 3 1 (.slice (some ⟨gp,0,none⟩) c capp) c (ints p))
  (hgp:gp≠g) (hq:q < c) (hd:d≠0) (hrl:r.length=c) (hpl:p.length=c) (hnl:nr.length=c)
  (he:∀j,j < c→p.getD q 0*r.getD j 0-r.getD q 0*p.getD j 0=d*nr.getD j 0)
  (hb:∀j,j < c→(d*nr.getD j 0).natAbs≤9223372036854775807∧(nr.getD j 0).natAbs≤9223372036854775807) :
  Calls Tryz.prog 101 #[.slice (some ⟨g,0,none⟩) c cap,.slice (some ⟨gp,0,none⟩) c capp,.int .i64 q,.int .i64 d] w fun e w'=>
   e=.returned (.tuple #[])∧w'.ownsRow B 3 1 (.slice (some ⟨g,0,none⟩) c cap) c (ints nr)∧Touch g w w':=by
 have hcq1:w.cell? ⟨gp,q,none⟩=some (.int .i64 (p.getD q 0)):=by rw [hp.cellAt q (by omega),ints_get _ _ (by omega)]
 have hcq2:w.cell? ⟨g,q,none⟩=some (.int .i64 (r.getD q 0)):=by rw [hr.cellAt q (by omega),ints_get _ _ (by omega)]
 have HR:Hid (w.ownsRow B 3 1 (.slice (some ⟨g,0,none⟩) c cap) c (ints r)):=hr
 have HP:Hid (w.ownsRow B 3 1 (.slice (some ⟨gp,0,none⟩) c capp) c (ints p)):=hp
 have HE:Hid (∀j,j < c→p.getD q 0*r.getD j 0-r.getD q 0*p.getD j 0=d*nr.getD j 0):=he
 have HBD:Hid (∀j,j < c→(d*nr.getD j 0).natAbs≤9223372036854775807∧(nr.getD j 0).natAbs≤9223372036854775807):=hb
 have HRL:Hid (r.length=c∧p.length=c∧nr.length=c):=⟨hrl,hpl,hnl⟩
 have hcc:c≤cap∧cap≤9223372036854775807:=by
  obtain ⟨_,h2⟩:=hr
  rcases h2 with ⟨h,_⟩ | ⟨k,cp,cur,h,_,_,h3,h4,_⟩
  ·simp at h
  ·simp only [Value.slice.injEq] at h; unfold maxLen at h4; omega
 have hccp:c≤capp∧capp≤9223372036854775807:=by
  obtain ⟨_,h2⟩:=hp
  rcases h2 with ⟨h,_⟩ | ⟨k,cp,cur,h,_,_,h3,h4,_⟩
  ·simp at h
  ·simp only [Value.slice.injEq] at h; unfold maxLen at h4; omega
 clear hr hp he hb hrl hpl hnl
 generalize hkp:p.getD q 0=kp at *
 generalize htk:r.getD q 0=tk at *
 clear hkp htk
 have hqI0:(0:Int)≤(q:Int):=by omega
 have hqI1:(q:Int) < (c:Int):=by omega
 go_enter Tryz.func101,Tryz.ntmps101
 go_wp2
 go_quiet (fail)
 go_wp2
 go_loopw [21] (fun i wr=>∃k:Nat,k≤c∧i=.int .i64 k∧wr.ownsRow B 3 1 (.slice (some ⟨g,0,none⟩) c cap) c (ints (nr.take k ++ r.drop k))∧Touch g w wr) (fun i _=>c-(intOf i).toNat)
 case atStart=>
  refine ⟨0,Nat.zero_le _,rfl,?_,(Touch.refl _ _).drewN _⟩
  rw [List.take_zero,List.drop_zero,List.nil_append]; exact HR.out
 case round=>
  obtain ⟨k,hk,rfl,hown,ht⟩:=hrel
  have HO:Hid (wr.ownsRow B 3 1 (.slice (some ⟨g,0,none⟩) c cap) c (ints (nr.take k ++ r.drop k))):=hown
  have HT:Hid (Touch g w wr):=ht
  obtain ⟨hl1,hl2,hl3⟩:=HRL.out
  by_cases hlt:k < c
  ·have e1:(nr.take k ++ r.drop k).getD k 0=r.getD k 0:=by
    simp only [List.getD_eq_getElem?_getD]; rw [List.getElem?_append_right (by simp; omega)]; simp [show k-min k nr.length=0 by omega]
   have hck:wr.cell? ⟨g,k,none⟩=some (.int .i64 (r.getD k 0)):=by
    rw [hown.cellAt k (by omega),ints_get _ _ (by simp; omega),e1]
   have hcp:wr.cell? ⟨gp,k,none⟩=some (.int .i64 (p.getD k 0)):=by
    rw [ht.cell hgp,HP.out.cellAt k (by omega),ints_get _ _ (by omega)]
   have hfz:=hown.frozenAt k
   have hee:=HE.out k hlt
   have hbb:=HBD.out k hlt
   have HEE:Hid (kp*r.getD k 0-tk*p.getD k 0=d*nr.getD k 0):=hee
   have HST:Hid (ints (nr.take (k+1) ++ r.drop (k+1))=(ints (nr.take k ++ r.drop k)).set k (.int .i64 (nr.getD k 0))):=by
    show _=_
    apply List.ext_getElem?
    intro i
    rw [List.getElem?_set,ints_length]
    simp only [ints,List.getElem?_map]
    by_cases hik:i < k
    ·rw [List.getElem?_append_left (by simp; omega),List.getElem?_append_left (by simp; omega),if_neg (by omega)]
     simp [hik,show i < k+1 by omega]
    ·by_cases hik2:i=k
     ·subst hik2
      rw [List.getElem?_append_left (by simp; omega),if_pos rfl,if_pos (by simp; omega)]
      simp [show i < nr.length by omega]
     ·rw [List.getElem?_append_right (by simp; omega),List.getElem?_append_right (by simp; omega),if_neg (by omega)]
      simp only [List.length_take,List.getElem?_drop]
      rw [show k+1+(i-min (k+1) nr.length)=i by omega,show k+(i-min k nr.length)=i by omega]
   generalize r.getD k 0=rk at *
   generalize p.getD k 0=pk at *
   generalize nr.getD k 0=nk at *
   clear hown ht e1 hee hl1 hl2 hl3 hcq1 hcq2
   have hkI0:(0:Int)≤(k:Int):=by omega
   have hkI1:(k:Int) < (c:Int):=by omega
   have hdb:(d == 0)=false:=beq_eq_false_iff_ne.2 hd
   go_wp2
   go_region
   rw [quo_even hd HEE.out ⟨by omega,by omega⟩ ⟨by omega,by omega⟩]
   go_wp2
   go_roundw
   case rel=>
    refine ⟨k+1,by omega,by go_num,?_,(HT.out.setCell k _).drew⟩
    rw [HST.out]
    exact (HO.out.stored k _).1.drew
   case measure=>simp [intOf]; omega
  ·clear hown ht hcq1 hcq2
   have HN:Hid (nr.take k ++ r.drop k=nr):=by
    show _=_
    rw [List.take_of_length_le (by omega),List.drop_eq_nil_of_le (by omega),List.append_nil]
   clear hl1 hl2 hl3
   go_wp2
   go_end0
   exact ⟨rfl,by rw [←HN.out]; exact HO.out,HT.out⟩
end Go.Proofs.YtdanomklbiidaaaGreatDoor
