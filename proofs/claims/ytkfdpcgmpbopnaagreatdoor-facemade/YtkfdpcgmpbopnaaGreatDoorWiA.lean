import Derived.Test.YtkfdpcgmpbopnaaGreatDoorRefs
import Derived.Deep.QuietTactic
import Derived.BigQuiet
import Derived.Test.YtkfdpcgmpbopnaaGreatDoorDatA
import Derived.Test.YtkfdpcgmpbopnaaGreatDoorCycAll
import Derived.Test.YtkfdpcgmpbopnaaGreatDoorRefA
namespace Go.Proofs.YtkfdpcgmpbopnaaGreatDoor
open Go.RowKit
set_option maxRecDepth 100000 in
set_option maxHeartbeats 400000 in
theorem clone_any (B:Nat) (l:List Int) (v:Value) (w:World) (hv:Sl B 3 w v (ints l)) (hl:l.length≤1000000) :
  Calls Tryz.prog 91 #[v] w fun e w'=>∃u,e=.returned u∧w'.ownsRow w.heap.size 3 1 u l.length (ints l)∧Below w.heap.size w w':=by
 obtain ⟨i3,hi3,hz30,hz31,hz32⟩:=info_parts Tryz.info3
 have hv':=hv
 obtain ⟨ao,cap,hvv,hlc,hcm,hcell,hnil⟩:=hv'
 simp only [ints_length] at hvv hlc
 subst hvv
 have HV:Hid (Sl B 3 w (.slice ao l.length cap) (ints l)):=hv
 clear hcell hv
 have HE:Hid ((w.alloc (.cells #[] 3)).ownsRow w.heap.size 3 1 (.slice (some ⟨w.heap.size,0,none⟩) 0 0) 0 []):=
  World.ownsRow_made w #[] 0 (Nat.le_refl _) (by simp [maxLen]) (by simp)
 have hq:=fun (w:World) (a:Option Addr) (n c:Nat)=>Lib.run_eql_slice_nil (P:=Tryz.prog) w 22 3 a n c 0 0 Tryz.underlying22
 cases ao with
 | none=>
  have hc0:=hnil rfl
  subst hc0
  have hl0:l=[]:=List.eq_nil_of_length_eq_zero (by omega)
  subst hl0
  go_enter Tryz.func91,Tryz.ntmps91
  go_wp2
  go_ret
  exact ⟨_,rfl,World.ownsRow_nil _ _ _ _,Below.refl _ _⟩
 | some a=>
  clear hnil
  go_enter Tryz.func91,Tryz.ntmps91
  go_wp2_with (first | (at_builtin; refine wpList_append_own _ rfl _ _ 22 rfl w.heap.size 3 i3 (.int .i64 0) 1 8 Tryz.underlying22 hi3 hz30 hz31 hz32 rfl (by decide) _ _ _ rfl HE.out a l.length cap (ints l) rfl (by simp) (sl_cells HV.out _) (ints_oneCell' l) ?c3 ?c4 ?c5 ?_))
  case c3=>unfold maxLen; omega
  case c4=>omega
  case c5=>simp
  intro v' w3 ho hg _
  have ho':w3.ownsRow w.heap.size 3 1 v' l.length (ints l):=by simpa using ho
  have HO:Hid (w3.ownsRow w.heap.size 3 1 v' l.length (ints l)):=ho'
  have HB:Hid (Below w.heap.size w w3):=((Below.refl _ _).alloc (Nat.le_refl _) _).grown hg (by simp) (fun k hk=>by simp [Value.ownBlock] at hk; omega)
  clear ho ho' hg
  go_wp2
  go_ret
  exact ⟨_,rfl,HO.out,HB.out⟩
set_option maxRecDepth 100000 in
set_option maxHeartbeats 800000 in
theorem divisor_any (B:Nat) (l:List Int) (v:Value) (w:World) (hv:Sl B 3 w v (ints l)) (hb:∀z∈l,z.natAbs≤4611686018427387904) :
  Calls Tryz.prog 143 #[v] w fun e w'=>e=.returned (.int .i64 (Lin.gc l))∧∃n,w'=w.drewN n:=by
 obtain ⟨ao,cap,hvv,hlc,hcm⟩:=sl_open hv
 subst hvv
 have HV:Hid (Sl B 3 w (.slice ao l.length cap) (ints l)):=hv
 have HBD:Hid (∀z∈l,z.natAbs≤4611686018427387904):=hb
 clear hv hb
 go_enter Tryz.func143,Tryz.ntmps143
 go_wp2
 go_loopw [3,8] (fun g i wr=>∃k:Nat,k≤l.length∧i=.int .i64 k∧(∃d:Int,g=.int .i64 d∧d.natAbs=Lin.gc (l.take k))∧∃n,wr=w.drewN n) (fun _ i _=>l.length-(intOf i).toNat)
 case atStart=>exact ⟨0,Nat.zero_le _,rfl,⟨0,rfl,rfl⟩,0,rfl⟩
 case round=>
  obtain ⟨k,hk,rfl,⟨d,rfl,hd⟩,n,hwr⟩:=hrel
  have HW:Hid (∃n,wr=w.drewN n):=⟨n,hwr⟩
  have HVr:Hid (Sl B 3 wr (.slice ao l.length cap) (ints l)):=by subst hwr; exact HV.out.drewN n
  have hgl:Lin.gc (l.take k)≤4611686018427387904:=gc_le fun z hz=>HBD.out z (List.mem_of_mem_take hz)
  have hd1:d.natAbs≤4611686018427387904:=by omega
  have HD:Hid (d.natAbs=Lin.gc (l.take k)):=hd
  clear hwr hd hgl
  obtain ⟨wa,rfl⟩:∃wa,wa=wr:=⟨wr,rfl⟩
  by_cases hlt:k < l.length
  ·obtain ⟨b,o,cp,hs,hc1,hcc⟩:=sl_cell HVr.out hlt
   simp only [Value.slice.injEq] at hs
   obtain ⟨rfl,_,rfl⟩:=hs
   have hbd:=HBD.out l[k] (List.getElem_mem hlt)
   have HG:Hid (Lin.gc (l.take (k+1))=Nat.gcd (Lin.gc (l.take k)) (l[k]).natAbs):=gc_snoc l k hlt
   rw [show l.getD k 0=l[k] by simp [hlt]] at hcc
   generalize hlk:l[k]=x at *
   clear hlk
   go_wp2
   go_loopw [3,5] (fun g a wq=>∃p q:Int,g=.int .i64 p∧a=.int .i64 q∧p.natAbs≤4611686018427387904∧q.natAbs≤4611686018427387904∧Nat.gcd p.natAbs q.natAbs=Nat.gcd d.natAbs x.natAbs∧∃n,wq=wa.drewN n) (fun _ a _=>(intOf a).natAbs)
   case atStart=>exact ⟨d,x,rfl,rfl,hd1,hbd,rfl,0,rfl⟩
   case round=>
    obtain ⟨p,q,rfl,rfl,hp,hq,hpq,n2,hwq⟩:=hrel
    have HXY:Hid (Nat.gcd p.natAbs q.natAbs=Nat.gcd d.natAbs x.natAbs):=hpq
    have HWQ:Hid (∃n,wr=wa.drewN n):=⟨n2,hwq⟩
    clear hpq hwq
    by_cases hq0:q=0
    ·subst hq0
     go_wp2
     go_roundw
     case rel=>
      obtain ⟨n1,e1⟩:=HW.out
      obtain ⟨n2,e2⟩:=HWQ.out
      refine ⟨k+1,by omega,by go_num,⟨p,rfl,?_⟩,n1+n2,by rw [e2,e1,World.drewN_drewN]⟩
      rw [HG.out,←HD.out,←HXY.out]; simp
     case measure=>simp [intOf]; omega
    ·have hqb:(q != 0)=true:=by simp [hq0]
     have hm1:(p.tmod q).natAbs=p.natAbs % q.natAbs:=Int.natAbs_tmod p q
     have HM1:Hid ((p.tmod q).natAbs=p.natAbs % q.natAbs):=hm1
     have hql:p.natAbs % q.natAbs < q.natAbs:=Nat.mod_lt _ (by omega)
     have HQL:Hid (p.natAbs % q.natAbs < q.natAbs):=hql
     clear hm1 hql
     go_wp2
     go_region
     all_goals
      go_wp2
      go_roundw
      case rel=>
       obtain ⟨n2,e2⟩:=HWQ.out
       refine ⟨q,p.tmod q,rfl,rfl,hq,?_,?_,n2+1,by rw [e2]; rfl⟩
       ·have h1:=HM1.out; have h2:=HQL.out; omega
       ·rw [HM1.out,←HXY.out,Nat.gcd_comm q.natAbs,←Nat.gcd_rec,Nat.gcd_comm]
      case measure=>
       have h1:=HM1.out
       have h2:=HQL.out
       simp only [intOf]; omega
  ·have HTK:Hid (l.take k=l):=List.take_of_length_le (by omega)
   have HD2:Hid (d.natAbs=Lin.gc l):=by show _=_; rw [HD.out,HTK.out]
   by_cases hneg:d < 0
   all_goals
    go_wp2
    all_goals
     go_ret
     exact ⟨ret_int (by have:=HD2.out; omega),HW.out⟩
set_option maxHeartbeats 400000 in
theorem prim1_any (x d:Int) (w:World) (a:Addr) (hd:1≤d) (hx:x.natAbs≤4611686018427387904) (hc:w.cell? a=some (.int .i64 d)) :
  Calls Tryz.prog 145 #[.int .i64 x,.pointer (some a)] w fun e w'=>e=.returned (.int .i64 (x.tdiv d))∧w'=w:=by
 have h1:(x.tdiv d).natAbs≤4611686018427387904:=by
  rw [Int.natAbs_tdiv]; exact Nat.le_trans (Nat.div_le_self _ _) hx
 have hdb:(d == 0)=false:=beq_eq_false_iff_ne.2 (by omega)
 go_enter Tryz.func145,Tryz.ntmps145
 go_wp2
 go_ret
 exact ⟨rfl,rfl⟩
set_option maxRecDepth 100000 in
set_option maxHeartbeats 800000 in
theorem mappedP_any (B:Nat) (l:List Int) (v:Value) (w:World) (hv:Sl B 3 w v (ints l)) (hl:l.length≤1000000) (g:Nat) (d:Int) (hg:g < w.heap.size) (hd:1≤d) (hb:∀z∈l,z.natAbs≤4611686018427387904) (hc:w.cell? ⟨g,0,none⟩=some (.int .i64 d)) :
  Calls Tryz.prog 144 #[v,.func (.func 145) #[] #[.pointer (some ⟨g,0,none⟩)]] w fun e w'=>∃u,e=.returned u∧(∀B,Sl B 3 w' u (ints (l.map (fun z=>z.tdiv d))))∧Below w.heap.size w w':=by
 obtain ⟨ao,cap,hvv,hlc,hcm⟩:=sl_open hv
 subst hvv
 have HV:Hid (Sl B 3 w (.slice ao l.length cap) (ints l)):=hv
 have HBD:Hid (∀z∈l,z.natAbs≤4611686018427387904):=hb
 have HC:Hid (w.cell? ⟨g,0,none⟩=some (.int .i64 d)):=hc
 clear hb hc
 clear hv
 have hmk:=run_make_row' (P:=Tryz.prog) 22 3 (.int .i64 0) 8 Tryz.underlying22 Tryz.info3 rfl .i64 .i64 l.length (by omega) (by omega)
 go_enter Tryz.func144,Tryz.ntmps144
 go_wp2
 go_loopw [13] (fun i wr=>∃k:Nat,k≤l.length∧i=.int .i64 k∧wr.rowIs w.heap.size 3 l.length (fun j=>.int .i64 (if j < k then (l.map (fun z=>z.tdiv d)).getD j 0 else 0))∧Below w.heap.size w wr) (fun i _=>l.length-(intOf i).toNat)
 case atStart=>
  refine ⟨0,Nat.zero_le _,rfl,?_,(Below.refl _ _).alloc (Nat.le_refl _) _⟩
  exact (World.rowIs_made w (.int .i64 0) l.length 3).congr fun i hi=>by simp
 case round=>
  obtain ⟨k,hk,rfl,hrow,hbel⟩:=hrel
  have HR:Hid (wr.rowIs w.heap.size 3 l.length (fun j=>.int .i64 (if j < k then (l.map (fun z=>z.tdiv d)).getD j 0 else 0))):=hrow
  have HB:Hid (Below w.heap.size w wr):=hbel
  by_cases hlt:k < l.length
  ·obtain ⟨b,o,cp,hs,hc1,hcc⟩:=sl_cell (HV.out.below hbel (Nat.le_refl _)) hlt
   simp only [Value.slice.injEq] at hs
   obtain ⟨rfl,_,rfl⟩:=hs
   have hfz:=hrow.frozen k
   have hcl:=hrow.cell (i:=k) hlt
   have HF:Hid ((l.map (fun z=>z.tdiv d)).getD k 0=(fun z=>z.tdiv d) (l.getD k 0)):=by show _=_; simp [hlt]
   have hmem:l.getD k 0∈l:=by simp [hlt]
   have HMEM:Hid (l.getD k 0∈l):=hmem
   generalize hxk:l.getD k 0=x at *
   clear hrow hbel hmem hxk
   go_wp2_with fail
   refine (prim1_any x d wr ⟨g,0,none⟩ hd (HBD.out x HMEM.out) ((HB.out.cell hg).trans HC.out)).mono ?_
   rintro e w' ⟨rfl,rfl⟩
   go_wp2
   go_roundw
   case rel=>
    refine ⟨k+1,by omega,by go_num,?_,HB.out.setCell (Nat.le_refl _) _⟩
    refine (HR.out.set k _).congr fun j hj=>?_
    by_cases e1:j=k
    ·subst e1; rw [if_pos rfl,if_pos (by omega),HF.out]
    ·by_cases e2:j < k
     ·rw [if_neg e1,if_pos e2,if_pos (by omega)]
     ·rw [if_neg e1,if_neg e2,if_neg (by omega)]
   case measure=>simp [intOf]; omega
  ·clear hrow hbel
   go_wp2
   go_ret
   refine ⟨_,rfl,fun B=>?_,HB.out⟩
   refine Sl.row HR.out (by simp) (by unfold maxLen; omega) fun i hi=>?_
   rw [ints_get _ _ (by simpa using hi),if_pos (by omega)]
theorem low_prog {l:List Int} (h:1≤Lin.gc l):(l.map fun z=>z.tdiv (Lin.gc l))=Lin.low l:=by
 unfold Lin.low
 refine List.map_congr_left fun z hz=>?_
 obtain ⟨q,hq⟩:=Lin.gc_dvd hz
 have hne:(Lin.gc l:Int)≠0:=by omega
 have e:z=(Lin.gc l:Int)*q:=hq
 rw [e,Int.mul_tdiv_cancel_left q hne,Int.mul_ediv_cancel_left q hne]
theorem low_zero {l:List Int} (h:Lin.gc l=0):Lin.low l=l:=by
 unfold Lin.low
 have:∀z∈l,z / (Lin.gc l:Int)=z:=fun z hz=>low_small hz (by omega)
 have e:l.map (fun z=>z / (Lin.gc l:Int))=l.map id:=List.map_congr_left fun z hz=>this z hz
 rw [e,List.map_id]
set_option maxRecDepth 100000 in
set_option maxHeartbeats 400000 in
theorem primitive_any (B:Nat) (l:List Int) (v:Value) (w:World) (hv:Sl B 3 w v (ints l)) (hl:l.length≤1000000) (hb:∀z∈l,z.natAbs≤4611686018427387904) :
  Calls Tryz.prog 139 #[v] w fun e w'=>∃u,e=.returned u∧(∀B,Sl B 3 w' u (ints (Lin.low l)))∧Below w.heap.size w w':=by
 obtain ⟨ao,cap,hvv,hlc,hcm⟩:=sl_open hv
 subst hvv
 have HV:Hid (Sl B 3 w (.slice ao l.length cap) (ints l)):=hv
 have HBD:Hid (∀z∈l,z.natAbs≤4611686018427387904):=hb
 clear hv hb
 go_enter Tryz.func139,Tryz.ntmps139
 go_wp2_with fail
 refine (divisor_any B l _ w HV.out HBD.out).mono ?_
 rintro e w1 ⟨rfl,n1,hw1⟩
 have HV1:Hid (Sl B 3 w1 (.slice ao l.length cap) (ints l)):=by rw [hw1]; exact HV.out.drewN n1
 have HB1:Hid (Below w.heap.size w w1):=by rw [hw1]; exact ⟨rfl,rfl,rfl,Nat.le_refl _,fun _ _=>rfl⟩
 have hs1:w.heap.size=w1.heap.size:=by rw [hw1]; rfl
 have HS1:Hid (w.heap.size=w1.heap.size):=hs1
 clear hw1 hs1
 obtain ⟨g,hg⟩:∃g,g=Lin.gc l:=⟨_,rfl⟩
 have HG:Hid (g=Lin.gc l):=hg
 rw [←hg]
 have hgb:g≤4611686018427387904:=by rw [hg]; exact gc_le HBD.out
 clear hg
 have HBA:Hid (Below w.heap.size w (w1.alloc (.cells #[.int .i64 g] 3))):=HB1.out.alloc (by rw [HS1.out]; exact Nat.le_refl _) _
 by_cases h0:g=0
 ·have hgb0:((g:Int) == 0)=true:=by simp [h0]
  have HLZ:Hid (Lin.low l=l):=low_zero (by rw [←HG.out]; exact h0)
  clear h0
  go_wp2_with fail
  refine (clone_any B l _ _ (HV1.out.alloc _) hl).mono ?_
  rintro e w2 ⟨u,rfl,ho,hb2⟩
  have HO:Hid (∀B,Sl B 3 w2 u (ints (Lin.low l))):=by intro B; rw [HLZ.out]; exact Sl.own ho
  have HB2:Hid (Below w.heap.size w w2):=HBA.out.trans (hb2.mono HBA.out.size)
  clear ho hb2
  go_wp2
  go_ret
  exact ⟨_,rfl,HO.out,HB2.out⟩
 ·have hgb0:((g:Int) == 0)=false:=by rw [beq_eq_false_iff_ne]; omega
  have HLP:Hid ((l.map fun z=>z.tdiv (g:Int))=Lin.low l):=by show _=_; rw [HG.out]; exact low_prog (by rw [←HG.out]; omega)
  have hg1:(1:Int)≤(g:Int):=by omega
  clear h0
  go_wp2_with fail
  refine (mappedP_any B l _ _ (HV1.out.alloc _) hl w1.heap.size g (by simp) hg1 HBD.out (by simp)).mono ?_
  rintro e w2 ⟨u,rfl,ho,hb2⟩
  have HO:Hid (∀B,Sl B 3 w2 u (ints (Lin.low l))):=by intro B; rw [←HLP.out]; exact ho B
  have HB2:Hid (Below w.heap.size w w2):=HBA.out.trans (hb2.mono HBA.out.size)
  clear ho hb2
  go_wp2
  go_ret
  exact ⟨_,rfl,HO.out,HB2.out⟩
end Go.Proofs.YtkfdpcgmpbopnaaGreatDoor
namespace Go.Proofs.YtkfdpcgmpbopnaaGreatDoor
open Go.RowKit
attribute [local go_sem ↓] Go.wp_at_zero Go.wp_at_succ
def outB (lo hi x:Int):Bool:=decide (x < lo) || decide (hi < x)
set_option maxHeartbeats 400000 in
theorem out1_any (x lo hi:Int) (w:World) (a b:Addr) (hc:w.cell? a=some (.int .i64 lo)) (hd:w.cell? b=some (.int .i64 hi)) :
  Calls Tryz.prog 117 #[.int .i64 x,.pointer (some a),.pointer (some b)] w fun e w'=>e=.returned (.bool (outB lo hi x))∧w'=w:=by
 by_cases hb:x < lo
 ·go_enter Tryz.func117,Tryz.ntmps117
  go_wp2
  go_ret
  exact ⟨ret_bool (by simp [outB,hb]),rfl⟩
 ·go_enter Tryz.func117,Tryz.ntmps117
  go_wp2
  go_ret
  exact ⟨ret_bool (by rw [outB,decide_eq_false (by omega:¬x < lo)]; rfl),rfl⟩
set_option maxHeartbeats 400000 in
theorem indexW_any (B:Nat) (lo hi:Int) (zs:List Int) (v:Value) (a b:Addr) (w:World) (hv:Sl B 3 w v (ints zs)) (hc:w.cell? a=some (.int .i64 lo)) (hd:w.cell? b=some (.int .i64 hi)) :
  Calls Tryz.prog 81 #[v,.func (.func 117) #[] #[.pointer (some a),.pointer (some b)]] w fun e w'=>e=.returned (.int .i64 (findI (outB lo hi) zs))∧w'=w:=by
 obtain ⟨ao,cap,hvv,hlc,hcm⟩:=sl_open hv
 subst hvv
 have HV:Hid (Sl B 3 w (.slice ao zs.length cap) (ints zs)):=hv
 have HIL:Hid (∀x,Calls Tryz.prog 117 #[.int .i64 x,.pointer (some a),.pointer (some b)] w fun e w'=>e=.returned (.bool (outB lo hi x))∧w'=w):=fun x=>out1_any x lo hi w a b hc hd
 clear hv hc hd
 go_enter Tryz.func81,Tryz.ntmps81
 go_wp2
 go_loop [8] (fun i=>∃k:Nat,k≤zs.length∧i=.int .i64 k∧(zs.take k).any (outB lo hi)=false) (fun i=>zs.length-(intOf i).toNat)
 case atStart=>exact ⟨0,Nat.zero_le _,rfl,by simp⟩
 case round=>
  obtain ⟨k,hk,rfl,hno⟩:=hrel
  have HN:Hid ((zs.take k).any (outB lo hi)=false):=hno
  clear hno
  by_cases hlt:k < zs.length
  ·obtain ⟨b',o,cp,hs,hc1,hcc⟩:=sl_cell HV.out hlt
   simp only [Value.slice.injEq] at hs
   obtain ⟨rfl,_,rfl⟩:=hs
   have HS1:Hid ((zs.take (k+1)).any (outB lo hi)=outB lo hi zs[k]):=any_snoc (p:=outB lo hi) hlt HN.out
   have HH:Hid (outB lo hi zs[k]=true→findI (outB lo hi) zs=k):=fun h=>findI_hit (p:=outB lo hi) hlt HN.out h
   rw [show zs.getD k 0=zs[k] by simp [hlt]] at hcc
   generalize zs[k]=x at *
   have HIX:Hid (Calls Tryz.prog 117 #[.int .i64 x,.pointer (some a),.pointer (some b)] w fun e w'=>e=.returned (.bool (outB lo hi x))∧w'=w):=HIL.out x
   generalize outB lo hi x=fb at *
   cases fb
   ·go_wp2_with (go_at_call 117; refine HIX.out.mono ?_; rintro e w' ⟨rfl,rfl⟩)
    go_round
    case rel=>exact ⟨k+1,by omega,by go_num,HS1.out⟩
    case measure=>simp [intOf]; omega
   ·have HH2:Hid (findI (outB lo hi) zs=k):=HH.out rfl
    clear HH
    go_wp2_with (go_at_call 117; refine HIX.out.mono ?_; rintro e w' ⟨rfl,rfl⟩)
    go_ret
    exact ⟨ret_int HH2.out.symm,rfl⟩
  ·have e:zs.take k=zs:=List.take_of_length_le (by omega)
   rw [e] at HN
   have HF:Hid (findI (outB lo hi) zs=-1):=findI_none HN.out
   go_wp2
   go_ret
   exact ⟨ret_int HF.out.symm,rfl⟩
set_option maxRecDepth 100000 in
theorem containsW_any (B:Nat) (lo hi:Int) (zs:List Int) (v:Value) (a b:Addr) (w:World) (hv:Sl B 3 w v (ints zs)) (hc:w.cell? a=some (.int .i64 lo)) (hd:w.cell? b=some (.int .i64 hi)) :
  Calls Tryz.prog 58 #[v,.func (.func 117) #[] #[.pointer (some a),.pointer (some b)]] w fun e w'=>e=.returned (.bool (zs.any (outB lo hi)))∧w'=w:=by
 have HII:=indexW_any B lo hi zs v a b w hv hc hd
 go_enter Tryz.func58,Tryz.ntmps58
 go_wp2_with fail
 refine HII.mono ?_
 rintro e w' ⟨rfl,rfl⟩
 go_wp2
 go_ret
 exact ⟨ret_bool findI_ge,rfl⟩
def withE (c:Nat) (lo hi:Int) (r:List Int):Int:=if r.length≠c then 3 else if r.any (outB lo hi) then 4 else 0
set_option maxRecDepth 100000 in
set_option maxHeartbeats 400000 in
theorem within_any (B:Nat) (c:Nat) (lo hi:Int) (r:List Int) (v:Value) (w:World) (hv:Sl B 3 w v (ints r)) :
  Calls Tryz.prog 96 #[v,.int .i64 c,.int .i64 lo,.int .i64 hi] w fun e w'=>e=.returned (.int .i64 (withE c lo hi r))∧Below w.heap.size w w':=by
 obtain ⟨ao,cap,hvv,hlc,hcm⟩:=sl_open hv
 subst hvv
 have HV:Hid (Sl B 3 w (.slice ao r.length cap) (ints r)):=hv
 clear hv
 by_cases hl:r.length=c
 ·have b0:((r.length:Int) != (c:Int))=false:=by rw [bne_eq_false_iff_eq]; omega
  rw [withE,if_neg (by omega)]
  clear hl
  obtain ⟨w1,hw1⟩:∃w1,w1=(w.alloc (.cells #[.int .i64 lo] 3)).alloc (.cells #[.int .i64 hi] 3):=⟨_,rfl⟩
  have HA:Hid (Calls Tryz.prog 58 #[.slice ao r.length cap,.func (.func 117) #[] #[.pointer (some ⟨w.heap.size,0,none⟩),.pointer (some ⟨w.heap.size+1,0,none⟩)]] w1 fun e w'=>e=.returned (.bool (r.any (outB lo hi)))∧w'=w1):=by
   subst hw1
   exact containsW_any B lo hi r _ _ _ _ ((HV.out.alloc _).alloc _) (by simp) (by simp)
  have HBB:Hid (Below w.heap.size w w1):=by
   subst hw1
   exact ((Below.refl _ _).alloc (Nat.le_refl _) _).alloc (by simp) _
  generalize r.any (outB lo hi)=R at *
  go_enter Tryz.func96,Tryz.ntmps96
  go_wp2_with fail
  try rw [←hw1]
  refine HA.out.mono ?_
  rintro e w' ⟨rfl,rfl⟩
  cases R
  ·go_wp2
   go_ret
   exact ⟨rfl,by have:=HBB.out; rw [hw1] at this; exact this⟩
  ·go_wp2
   go_ret
   exact ⟨rfl,by have:=HBB.out; rw [hw1] at this; exact this⟩
 ·have b0:((r.length:Int) != (c:Int))=true:=by rw [bne_iff_ne]; omega
  rw [withE,if_pos hl]
  clear hl
  go_enter Tryz.func96,Tryz.ntmps96
  go_wp2
  go_ret
  exact ⟨rfl,((Below.refl _ _).alloc (Nat.le_refl _) _).alloc (by simp) _⟩
theorem outB_far (most:Int):outB (-most) most=(farB · most):=by
 funext x
 rw [Bool.eq_iff_iff]
 simp [outB,farB,Bool.or_comm]
set_option maxRecDepth 100000 in
set_option maxHeartbeats 400000 in
theorem chkL_any (B:Nat) (c:Nat) (most:Int) (r:List Int) (v:Value) (w:World) (hv:Sl B 3 w v (ints r)) (h0:0≤most) (h1:most≤1000000) :
  Calls Tryz.prog 85 #[v,.int .i64 c,.int .i64 most] w fun e w'=>e=.returned (.int .i64 (if r.length≠c then 3 else if r.any (farB · most) then 4 else 0))∧Below w.heap.size w w':=by
 have HA:Hid (Calls Tryz.prog 96 #[v,.int .i64 c,.int .i64 (-most),.int .i64 most] w fun e w'=>e=.returned (.int .i64 (if r.length≠c then 3 else if r.any (farB · most) then 4 else 0))∧Below w.heap.size w w'):=by
  have:=within_any B c (-most) most r v w hv
  rw [withE,outB_far] at this
  exact this
 generalize (if r.length≠c then (3:Int) else if r.any (farB · most) then 4 else 0)=R at *
 go_enter Tryz.func85,Tryz.ntmps85
 go_wp2_with fail
 refine HA.out.mono ?_
 rintro e w' ⟨rfl,hb⟩
 have HB:Hid (Below w.heap.size w w'):=hb
 clear hb
 go_wp2
 go_ret
 exact ⟨rfl,HB.out⟩
end Go.Proofs.YtkfdpcgmpbopnaaGreatDoor
