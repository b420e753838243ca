import Derived.Test.YtkfdpcgmpbopnaaGreatDoorLtA
import Derived.Test.YtkfdpcgmpbopnaaGreatDoorHmY
import Derived.Test.YtkfdpcgmpbopnaaGreatDoorRaY
import Derived.Test.YtkfdpcgmpbopnaaGreatDoorHmA
namespace Go.Proofs.YtkfdpcgmpbopnaaGreatDoor
open Lin
theorem over_zero {d:Nat} {r x:List Int} (hr:r.length=d+1) (hx:x.length=d):overL r x=0↔r.getD d 0=dot d (V r) (V x):=by
 have e:dotL (r.take d) x=dot d (V r) (V x):=by
  rw [dotL_eq (d:=d) (by rw [List.length_take]; omega) x]
  exact dot_congr (fun i hi=>V_take hi) (fun _ _=>rfl)
 unfold overL
 rw [hx,e]
 omega
theorem corner_rank {d:Nat} {P P' s:List (List Int)} (hg:Good d P) (hP:∀r,r∈P'↔r∈P) (hs:∀r,r∈s↔r∈rowsD P d) {x:List Int} (hx:x∈P) :
  (pickL d (onL d s x)).length=d↔∀v:Nat→Int,(∀r∈rowsC P' [] d P',r.getD d 0=dot d (V r) (V x)→dot d (V r) v=0)→∀i,i < d→v i=0:=by
 have hgr:=greedy_full (pick_greedy d (onL d s x))
 rw [fm_length] at hgr
 rw [hgr]
 have hxl:=(hg.box x hx).1
 have hrw:∀r,r∈s↔r∈rowsC P' [] d P':=fun r=>by rw [hs r,mem_rowsD]; exact (rows_same hg hP r).symm
 have hlen:∀r∈s,r.length=d+1:=fun r hr=>(rowsD_facts hg.box hg.d1 (by have:=hg.d4; omega) r ((hs r).1 hr)).len
 have key:∀v:Nat→Int,(∀r∈fm (onL d s x),dot d r v=0)↔∀r∈rowsC P' [] d P',r.getD d 0=dot d (V r) (V x)→dot d (V r) v=0:=by
  intro v
  constructor
  ·intro h r hr he
   have hrs:=(hrw r).2 hr
   have h1:=h (V (r.take d)) (mem_fm.2 ⟨r.take d,List.mem_map.2 ⟨r,List.mem_filter.2 ⟨hrs,decide_eq_true ((over_zero (hlen r hrs) hxl).2 he)⟩,rfl⟩,rfl⟩)
   rw [←h1]
   exact dot_congr (fun i hi=>(V_take hi).symm) (fun _ _=>rfl)
  ·intro h q hq
   obtain ⟨l,hl,rfl⟩:=mem_fm.1 hq
   obtain ⟨r,hr,rfl⟩:=List.mem_map.1 hl
   obtain ⟨hrs,ho⟩:=List.mem_filter.1 hr
   have h1:=h r ((hrw r).1 hrs) ((over_zero (hlen r hrs) hxl).1 (of_decide_eq_true ho))
   rw [←h1]
   exact dot_congr (fun i hi=>V_take hi) (fun _ _=>rfl)
 exact ⟨fun h v hv=>h v ((key v).2 hv),fun h v hv=>h v ((key v).1 hv)⟩
end Go.Proofs.YtkfdpcgmpbopnaaGreatDoor
namespace Go.Proofs.YtkfdpcgmpbopnaaGreatDoor
open Go.RowKit
attribute [local go_sem ↓] Go.wp_at_zero Go.wp_at_succ
theorem sm_of {d:Nat} {P:List (List Int)} {r x:List Int} (hr:RowOf d P r) (hd:d≤4) (hx:x.length=d) (hb:∀z∈x,z.natAbs≤1000):r.length=x.length+1∧Sm (r.take x.length) x:=
 ⟨by rw [hx]; exact hr.len,by rw [List.length_take]; have:=hr.len; omega,by rw [List.length_take]; have:=hr.len; omega,by rw [hx]; exact hr.bd,hb⟩
end Go.Proofs.YtkfdpcgmpbopnaaGreatDoor
namespace Go.Proofs.YtkfdpcgmpbopnaaGreatDoor
open Go.RowKit
attribute [local go_sem ↓] Go.wp_at_zero Go.wp_at_succ
end Go.Proofs.YtkfdpcgmpbopnaaGreatDoor
