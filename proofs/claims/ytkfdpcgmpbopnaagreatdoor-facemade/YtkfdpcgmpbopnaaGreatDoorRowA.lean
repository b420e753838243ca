import Derived.Test.YtkfdpcgmpbopnaaGreatDoorRowB
import Derived.Test.YtkfdpcgmpbopnaaGreatDoorOwnA
import Derived.Test.YtkfdpcgmpbopnaaGreatDoorOfAll
import Derived.Test.YtkfdpcgmpbopnaaGreatDoorRefY
namespace Go.Proofs.YtkfdpcgmpbopnaaGreatDoor
open Go.RowKit
attribute [local go_sem ↓] Go.wp_at_zero Go.wp_at_succ
def rowT (t P:List (List Int)):Option (List Int):=
 if normB t.length (diffL t)=true then
  if (P.any fun x=>decide (dotL (normL t.length (diffL t)) (t.getD 0 []) < dotL (normL t.length (diffL t)) x))=false then some (normL t.length (diffL t) ++ [dotL (normL t.length (diffL t)) (t.getD 0 [])])
  else if (P.any fun x=>decide (dotL (normL t.length (diffL t)) x < dotL (normL t.length (diffL t)) (t.getD 0 [])))=false then some ((normL t.length (diffL t) ++ [dotL (normL t.length (diffL t)) (t.getD 0 [])]).map fun z=>-z)
  else none
 else none
theorem getD_mem {l:List Int} {i:Nat} (h:i < l.length):l.getD i 0∈l:=by simp [h]
theorem diff_mx {d:Nat} {t:List (List Int)} (h:Box d 30 t) (h1:1≤d) (h5:d≤5):Mx d 60 (diffL t):=by
 refine ⟨fun r hr=>?_,fun r hr z hz=>?_,h5,h1,by decide,Nat.le_trans (fb_mono (by decide) h5) (by decide)⟩
 ·simp only [diffL,List.mem_map] at hr
  obtain ⟨x,hx,rfl⟩:=hr
  rw [subL_length]; exact (h x (List.mem_of_mem_drop hx)).1
 ·simp only [diffL,List.mem_map] at hr
  obtain ⟨x,hx,rfl⟩:=hr
  simp only [subL,List.mem_map,List.mem_range] at hz
  obtain ⟨i,hi,rfl⟩:=hz
  have h1:=(h x (List.mem_of_mem_drop hx)).2 (x.getD i 0) (by simp [hi])
  have h2 : -(30:Int)≤(t.getD 0 []).getD i 0∧(t.getD 0 []).getD i 0≤30:=by
   by_cases ht:0 < t.length
   ·have h3:=h (t.getD 0 []) (by simp [ht])
    by_cases hi2:i < (t.getD 0 []).length
    ·exact h3.2 _ (getD_mem hi2)
    ·rw [show (t.getD 0 []).getD i 0=0 by simp only [List.getD_eq_getElem?_getD]; rw [List.getElem?_eq_none (by simpa using hi2)]; rfl]; omega
   ·have:t=[]:=List.eq_nil_of_length_eq_zero (by omega)
    subst this; simp
  omega
theorem muL_len (c:Nat) (rows:List (List Int)):(muL c rows).length=c:=by simp [muL]
theorem norm_len {c:Nat} {m:List (List Int)} (h:normB c m=true):(normL c m).length=c:=by
 unfold normB at h
 unfold normL
 rw [if_pos (of_decide_eq_true h),upr_len,low_len,muL_len]
theorem upr_bd {l:List Int} {b:Nat} (h:∀z∈l,z.natAbs≤b):∀z∈Lin.upr l,z.natAbs≤b:=by
 intro z hz
 unfold Lin.upr at hz
 split at hz
 ·simp only [List.mem_map] at hz
  obtain ⟨y,hy,rfl⟩:=hz
  rw [Int.natAbs_neg]; exact h y hy
 ·exact h z hz
theorem mu_small {c:Nat} {m:List (List Int)} (hx:Mx c 60 m) (hl:(pickL c m).length+1=c):∀z∈muL c (pickL c m),z.natAbs≤1000000000000:=by
 intro z hz
 simp only [muL,List.mem_map,List.mem_range] at hz
 obtain ⟨k,hk,rfl⟩:=hz
 unfold Lin.mu
 rw [Int.natAbs_mul]
 have h2:(Lin.ngo k).natAbs=1:=by rw [ngo_mod]; by_cases e:k % 2=1 <;> simp [e]
 rw [h2,Nat.one_mul,fm_length]
 have h5:Lin.fb 60 5=93312000000:=by decide
 have m2:Lin.fb 60 (pickL c m).length≤Lin.fb 60 5:=fb_mono (by decide) (by have:=hx.c5; omega)
 have hb:=Lin.od_bd (n:=(pickL c m).length) (B:=60) (Lin.cols (fm (pickL c m)) (Lin.skp k)) (fun _=>false) (fun r hr j hj=>by
  simp only [Lin.cols,fm,List.mem_map] at hr
  obtain ⟨_,⟨l,hl',rfl⟩,rfl⟩:=hr
  by_cases hi:Lin.skp k j < l.length
  ·exact hx.bd l (pickL_mem hl') _ (by simp [hi])
  ·simp only [List.getD_eq_getElem?_getD]; rw [List.getElem?_eq_none (by omega)]; simp) (by rw [Lin.cu_none]; simp [Lin.cols,fm])
 have hl2:(Lin.cols (fm (pickL c m)) (Lin.skp k)).length=(pickL c m).length:=by simp [Lin.cols,fm]
 rw [hl2] at hb
 omega
theorem norm_bd {c:Nat} {m:List (List Int)} (hx:Mx c 60 m):∀z∈normL c m,z.natAbs≤1000000000000:=by
 intro z hz
 unfold normL at hz
 split at hz
 ·rename_i hl
  exact upr_bd (low_bd (mu_small hx hl)) z hz
 ·simp at hz
theorem box_small {d:Nat} {P:List (List Int)} (h:Box d 30 P) {x:List Int} (hx:x∈P):∀z∈x,z.natAbs≤1000:=fun z hz=>by
 have:=(h x hx).2 z hz; omega
end Go.Proofs.YtkfdpcgmpbopnaaGreatDoor
namespace Go.Proofs.YtkfdpcgmpbopnaaGreatDoor
open Go.RowKit
attribute [local go_sem ↓] Go.wp_at_zero Go.wp_at_succ
theorem set_one {w:World} {b:Nat} {x u:Value} {t:TypeId} (h:w.heap[b]?=some (.cells #[x] t (0,0))):(w.setCell ⟨b,0,none⟩ u).heap[b]?=some (.cells #[u] t (0,0)):=by
 simp [World.setCell,Array.getElem?_modify,h]
theorem owns_set {B R n j:Nat} {e:TypeId} {w:World} {v u:Value} {xs:List Value} (h:w.ownsRow B e 1 v n xs) (hR:R < B):(w.setCell ⟨R,j,none⟩ u).ownsRow B e 1 v n xs:=by
 refine ⟨h.1,?_⟩
 rcases h.2 with h2 | ⟨k,cap,cur,rfl,hb,hh,r⟩
 ·exact Or.inl h2
 ·exact Or.inr ⟨k,cap,cur,rfl,hb,(Below.heap_setCell w _ u k (by show k≠R; omega)).trans hh,r⟩
theorem Fr.set {B b j:Nat} {t:TypeId} {w:World} {v u:Value} {m:List (List Int)} {cur:Array Value} (h:Fr B 22 3 w v m) (hb:b < B) (hR:w.heap[b]?=some (.cells cur t (0,0))) (ht:t≠3):Fr B 22 3 (w.setCell ⟨b,j,none⟩ u) v m:=by
 obtain ⟨vs,h1,h2,h3⟩:=h
 refine ⟨vs,h1,owns_set h2 hb,fun i hi=>(h3 i hi).setCell u ⟨Nat.zero_le _,fun cur' e=>?_⟩⟩
 have e':w.heap[b]?=some (.cells cur' 3 (0,0)):=e
 rw [hR] at e'
 simp at e'
 exact ht e'.2
end Go.Proofs.YtkfdpcgmpbopnaaGreatDoor
namespace Go.Proofs.YtkfdpcgmpbopnaaGreatDoor
open Go.RowKit
def chs:Nat→List (List Int)→List (List (List Int))
 | 0,_=>[[]]
 | _+1,[]=>[]
 | k+1,x :: xs=>((chs k xs).map (x :: ·)) ++ chs (k+1) xs
theorem chs_len:∀k l,(chs k l).length≤(l.length+1) ^ k
 | 0,_=>by simp [chs]
 | k+1,[]=>by simp [chs]
 | k+1,x :: xs=>by
  have h1:=chs_len k xs
  have h2:=chs_len (k+1) xs
  simp only [chs,List.length_append,List.length_map,List.length_cons]
  have h3:(xs.length+1) ^ (k+1)=(xs.length+1) ^ k*(xs.length+1):=Nat.pow_succ _ _
  have h4:(xs.length+1+1) ^ (k+1)=(xs.length+1+1) ^ k*(xs.length+1+1):=Nat.pow_succ _ _
  have h5:(xs.length+1) ^ k≤(xs.length+1+1) ^ k:=Nat.pow_le_pow_left (by omega) k
  have h6:(xs.length+1) ^ k*(xs.length+1)+(xs.length+1) ^ k≤(xs.length+1+1) ^ k*(xs.length+1+1):=by
   have:(xs.length+1) ^ k*(xs.length+1)+(xs.length+1) ^ k=(xs.length+1) ^ k*(xs.length+1+1):=(Nat.mul_succ _ _).symm
   rw [this]; exact Nat.mul_le_mul_right _ h5
  omega
def rowsC (P pre:List (List Int)) (k:Nat) (l:List (List Int)):List (List Int):=(chs k l).flatMap fun c=>(rowT (pre ++ c) P).toList
theorem chs_chz:∀(k:Nat) (l:List (List Int)),chs k l=chz k l
 | 0,l=>by cases l <;> simp [chs,chz]
 | k+1,[]=>by simp [chs,chz]
 | k+1,x :: xs=>by
  simp only [chs,chz]
  rw [chs_chz k xs,chs_chz (k+1) xs]
theorem rows_ext (P:List (List Int)) (d:Nat):(ext P.length d 0).flatMap (fun c=>(rowT (pks P [] c) P).toList)=rowsC P [] d P:=by
 unfold rowsC
 have h:=chz_ext P [] d 0
 rw [List.drop_zero] at h
 rw [chs_chz,←h,List.flatMap_map]
 simp
end Go.Proofs.YtkfdpcgmpbopnaaGreatDoor
namespace Go.Proofs.YtkfdpcgmpbopnaaGreatDoor
open Go.RowKit
theorem ext_all:∀(k:Nat) {n fr:Nat} {c:List Int},c.length=k→(∀i,i < k→(fr:Int)≤c.getD i 0∧c.getD i 0 < n)→(∀i j,i < j→j < k→c.getD i 0 < c.getD j 0)→c∈ext n k fr
 | 0,n,fr,c,hl,_,_=>by
  have:=List.eq_nil_of_length_eq_zero hl
  subst this
  simp [ext]
 | k+1,n,fr,c,hl,hb,hr=>by
  cases c with
  | nil=>simp at hl
  | cons a c=>
   have h0:=hb 0 (by omega)
   simp only [List.getD_cons_zero] at h0
   simp only [ext,List.mem_flatMap,List.mem_map,List.mem_range'_1]
   refine ⟨a.toNat,by omega,c,ext_all k (by simpa using hl) (fun i hi=>?_) (fun i j hij hj=>?_),by congr 1; omega⟩
   ·have h1:=hb (i+1) (by omega)
    have h2:=hr 0 (i+1) (by omega) (by omega)
    simp only [List.getD_cons_succ,List.getD_cons_zero] at h1 h2
    exact ⟨by omega,h1.2⟩
   ·have h2:=hr (i+1) (j+1) (by omega) (by omega)
    simpa only [List.getD_cons_succ] using h2
theorem chosen_ext {k n:Nat} {c:List Int} : c∈chosenL k n↔c∈ext n k 0:=by
 constructor
 ·intro h
  obtain ⟨h1,h2⟩:=chosen_mem k n c h
  exact ext_all k (chosen_row k n c h) (fun i hi=>by have:=h1 i hi; exact ⟨by simpa using this.1,this.2⟩) h2
 ·intro h
  obtain ⟨h1,h2,h3⟩:=ext_rise h
  have:=chosen_all k n (fun i=>(c.getD i 0).toNat) ⟨fun i j hij hj=>by
   have q1:=h3 i j hij hj
   have q2:=h2 i (by omega)
   show (c.getD i 0).toNat < (c.getD j 0).toNat
   omega,fun i hi=>by
   have q2:=h2 i hi
   show (c.getD i 0).toNat < n
   omega⟩
  have e:((List.range k).map fun i=>(((c.getD i 0).toNat:Nat):Int))=c:=by
   apply List.ext_getElem
   ·simp [h1]
   ·intro i q1 q2
    have:=h2 i (by omega)
    have e2:c.getD i 0=c[i]:=by simp [show i < c.length by omega]
    simp only [List.getElem_map,List.getElem_range]
    rw [←e2]
    omega
  rw [e] at this
  exact this
def rowsD (P:List (List Int)) (d:Nat):List (List Int):=(chosenL d P.length).flatMap fun c=>(rowT (pks P [] c) P).toList
theorem mem_rowsD {P:List (List Int)} {d:Nat} {r:List Int} : r∈rowsD P d↔r∈rowsC P [] d P:=by
 rw [←rows_ext]
 unfold rowsD
 simp only [List.mem_flatMap]
 constructor
 ·rintro ⟨c,hc,h⟩
  exact ⟨c,chosen_ext.1 hc,h⟩
 ·rintro ⟨c,hc,h⟩
  exact ⟨c,chosen_ext.2 hc,h⟩
end Go.Proofs.YtkfdpcgmpbopnaaGreatDoor
