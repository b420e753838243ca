import Derived.Test.YtkfdpcgmpbopnaaGreatDoorWiA
import Derived.Test.YtkfdpcgmpbopnaaGreatDoorOwnA
import Derived.Test.YtkfdpcgmpbopnaaGreatDoorOfAll
import Derived.Test.YtkfdpcgmpbopnaaGreatDoorRowA
import Derived.Test.YtkfdpcgmpbopnaaGreatDoorLinAll
namespace Go.Proofs.YtkfdpcgmpbopnaaGreatDoor
open Go.RowKit
end Go.Proofs.YtkfdpcgmpbopnaaGreatDoor
namespace Go.Proofs.YtkfdpcgmpbopnaaGreatDoor
open Go.RowKit
attribute [local go_sem ↓] Go.wp_at_zero Go.wp_at_succ
theorem Sl.cut {B n c:Nat} {w:World} {a:Addr} {zs:List Int} (h:Sl B 3 w (.slice (some a) zs.length c) (ints zs)) (hn:n≤zs.length):Sl B 3 w (.slice (some a) n n) (ints (zs.take n)):=by
 obtain ⟨bo,cap,hv,h1,h2,h3,h4⟩:=h
 simp only [Value.slice.injEq] at hv
 obtain ⟨rfl,_,rfl⟩:=hv
 simp at h1
 refine ⟨some a,n,by simp; omega,by simp; omega,by omega,fun i hi=>?_,fun h=>by cases h⟩
 have hi':i < n:=by simp at hi; omega
 obtain ⟨b,o,ha,hc,ht⟩:=h3 i (by simp; omega)
 refine ⟨b,o,ha,?_,ht⟩
 rw [hc,ints_get _ _ (by omega),ints_get _ _ (by simp; omega)]
 simp [hi']
end Go.Proofs.YtkfdpcgmpbopnaaGreatDoor
namespace Go.Proofs.YtkfdpcgmpbopnaaGreatDoor
open Lin
def V (l:List Int):Nat→Int:=fun j=>l.getD j 0
theorem V_neg (l:List Int) (i:Nat):V (l.map fun z=>-z) i=- V l i:=by
 simp only [V,List.getD_eq_getElem?_getD,List.getElem?_map]
 cases l[i]? <;> simp
theorem mem_fm {m:List (List Int)} {r:Nat→Int} : r∈fm m↔∃l∈m,r=V l:=by
 simp only [fm,List.mem_map]
 constructor
 ·rintro ⟨l,hl,rfl⟩; exact ⟨l,hl,rfl⟩
 ·rintro ⟨l,hl,rfl⟩; exact ⟨l,hl,rfl⟩
theorem norm_par {d:Nat} {m:List (List Int)} (hl:(pickL d m).length+1=d):∃k:Int,k≠0∧∀i,i < d→mu (fm (pickL d m)) i=k*V (normL d m) i:=by
 have hg:=pick_greedy d m
 have hl':(fm (pickL d m)).length+1=d:=by rw [fm_length]; exact hl
 obtain ⟨⟨p,hp,hne⟩,_,_⟩:=greedy_one hg hl'
 have hn:normL d m=upr (low (muL d (pickL d m))):=if_pos hl
 rw [hn]
 have hat:∀i,i < d→V (muL d (pickL d m)) i=mu (fm (pickL d m)) i:=fun i hi=>by simp [V,muL,hi]
 generalize muL d (pickL d m)=l at *
 have hll:∀i,i < d→V l i∈l∨V l i=0:=fun i _=>by
  by_cases h:i < l.length
  ·exact Or.inl (getD_mem h)
  ·right; simp only [V,List.getD_eq_getElem?_getD]; rw [List.getElem?_eq_none (by omega)]; rfl
 have hdv:∀i,i < d→((gc l:Nat):Int) ∣ V l i:=fun i hi=>by
  rcases hll i hi with h | h
  ·exact gc_dvd h
  ·rw [h]; exact Int.dvd_zero _
 have hg0:((gc l:Nat):Int)≠0:=by
  intro h0
  have h1:=hdv p hp
  rw [h0] at h1
  have h2:=Int.zero_dvd.1 h1
  rw [hat p hp] at h2
  exact hne h2
 have hlow:∀i,i < d→V l i=((gc l:Nat):Int)*V (low l) i:=fun i hi=>by
  have e:V (low l) i=V l i / ((gc l:Nat):Int):=by
   simp only [V,low,List.getD_eq_getElem?_getD,List.getElem?_map]
   cases l[i]? <;> simp
  rw [e,Int.mul_ediv_cancel' (hdv i hi)]
 unfold upr
 split
 ·refine ⟨-((gc l:Nat):Int),by omega,fun i hi=>?_⟩
  rw [V_neg,←hat i hi,hlow i hi]; grind
 ·exact ⟨((gc l:Nat):Int),hg0,fun i hi=>by rw [←hat i hi,hlow i hi]⟩
theorem norm_spec {d:Nat} {m:List (List Int)} (hl:(pickL d m).length+1=d) :
  (∃i,i < d∧V (normL d m) i≠0)∧(∀r∈m,dot d (V r) (V (normL d m))=0)∧∀u:Nat→Int,(∀r∈m,dot d (V r) u=0)→Par d u (V (normL d m)):=by
 have hl':(fm (pickL d m)).length+1=d:=by rw [fm_length]; exact hl
 obtain ⟨⟨p,hp,hne⟩,h1,h2⟩:=greedy_one (pick_greedy d m) hl'
 obtain ⟨k,hk,hmu⟩:=norm_par hl
 refine ⟨⟨p,hp,fun e=>hne (by rw [hmu p hp,e,Int.mul_zero])⟩,fun r hr=>?_,fun u hu i j hi hj=>?_⟩
 ·have h:=h1 (V r) (mem_fm.2 ⟨r,hr,rfl⟩)
  have e:dot d (V r) (mu (fm (pickL d m)))=k*dot d (V r) (V (normL d m)):=by
   unfold dot
   rw [←sumN_mul]
   exact sumN_congr fun i hi=>by rw [hmu i hi]; grind
  rw [e] at h
  exact (Int.mul_eq_zero.1 h).resolve_left hk
 ·have h:=h2 u (fun r hr=>by
   obtain ⟨l,hl,rfl⟩:=mem_fm.1 hr
   exact hu l hl) i j hi hj
  rw [hmu i hi,hmu j hj] at h
  have:k*(u i*V (normL d m) j)=k*(u j*V (normL d m) i):=by grind
  exact Int.eq_of_mul_eq_mul_left hk this
end Go.Proofs.YtkfdpcgmpbopnaaGreatDoor
namespace Go.Proofs.YtkfdpcgmpbopnaaGreatDoor
open Lin
theorem gc_pos {l:List Int} {z:Int} (h:z∈l) (hz:z≠0):gc l≠0:=fun e=>by
 have:=gc_dvd h
 rw [e] at this
 exact hz (by simpa using this)
theorem low_mul (l:List Int):(low l).map ((gc l:Int) * ·)=l:=by
 unfold low
 rw [List.map_map]
 have:∀z∈l,(((gc l:Int) * ·)∘(· / (gc l:Int))) z=z:=fun z hz=>by
  show (gc l:Int)*(z / (gc l:Int))=z
  exact Int.mul_ediv_cancel' (gc_dvd hz)
 rw [List.map_congr_left this,List.map_id']
theorem gc_low {l:List Int} (h:gc l≠0):gc (low l)=1:=by
 have e:=gc_scale (gc l:Int) (low l)
 rw [low_mul] at e
 simp only [Int.natAbs_natCast] at e
 have h2:gc l*1=gc l*gc (low l):=by omega
 exact (Nat.eq_of_mul_eq_mul_left (Nat.pos_of_ne_zero h) h2).symm
theorem neg_scale (l:List Int):(l.map fun z=>-z)=l.map ((-1:Int) * ·):=List.map_congr_left fun z _=>by omega
theorem gc_neg (l:List Int):gc (l.map fun z=>-z)=gc l:=by
 rw [neg_scale,gc_scale]
 simp
theorem gc_upr (l:List Int):gc (upr l)=gc l:=by
 unfold upr
 split
 ·exact gc_neg l
 ·rfl
theorem low_one {l:List Int} (h:gc l=1):low l=l:=by
 unfold low
 rw [h]
 simp
theorem upr_or (l:List Int):upr l=l∨upr l=l.map fun z=>-z:=by
 unfold upr
 split
 ·exact Or.inr rfl
 ·exact Or.inl rfl
theorem neg_neg_map (l:List Int):(l.map fun z=>-z).map (fun z=>-z)=l:=by
 rw [List.map_map]
 have:∀z∈l,((fun z:Int=>-z)∘fun z=>-z) z=z:=fun z _=>Int.neg_neg z
 rw [List.map_congr_left this,List.map_id']
theorem prim_eq {x y:List Int} {a b:Int} (hx:gc x=1) (hy:gc y=1) (ha:a≠0) (hb:b≠0) (h:x.map (a * ·)=y.map (b * ·)):x=y∨x=y.map fun z=>-z:=by
 have e:=norm_eq ha hb h
 rw [low_one hx,low_one hy] at e
 rcases upr_or x with h1 | h1 <;> rcases upr_or y with h2 | h2
 ·exact Or.inl (by rw [←h1,e,h2])
 ·exact Or.inr (by rw [←h1,e,h2])
 ·refine Or.inr ?_
  have:(x.map fun z=>-z)=y:=by rw [←h1,e,h2]
  rw [←this,neg_neg_map]
 ·refine Or.inl ?_
  have:(x.map fun z=>-z)=y.map fun z=>-z:=by rw [←h1,e,h2]
  rw [←neg_neg_map x,this,neg_neg_map]
theorem norm_gc {d:Nat} {m:List (List Int)} (hl:(pickL d m).length+1=d):gc (normL d m)=1:=by
 obtain ⟨⟨i,hi,hne⟩,_,_⟩:=norm_spec hl
 have hnl:normL d m=upr (low (muL d (pickL d m))):=if_pos hl
 have hmem:V (normL d m) i∈normL d m:=by
  unfold V
  have hlen:(normL d m).length=d:=norm_len (by unfold normB; exact decide_eq_true hl)
  simp [show i < (normL d m).length by omega]
 have h0:=gc_pos hmem hne
 rw [hnl,gc_upr] at h0 ⊢
 refine gc_low fun e=>h0 ?_
 have hz:∀z∈muL d (pickL d m),z=0:=fun z hz=>by
  have:=gc_dvd hz
  rw [e] at this
  simpa using this
 have hl0:low (muL d (pickL d m))=muL d (pickL d m):=by
  unfold low
  have:∀z∈muL d (pickL d m),z / ((gc (muL d (pickL d m)):Nat):Int)=id z:=fun z h=>by rw [hz z h]; simp
  rw [List.map_congr_left this,List.map_id]
 rw [hl0]
 exact e
end Go.Proofs.YtkfdpcgmpbopnaaGreatDoor
namespace Go.Proofs.YtkfdpcgmpbopnaaGreatDoor
open Lin
end Go.Proofs.YtkfdpcgmpbopnaaGreatDoor
