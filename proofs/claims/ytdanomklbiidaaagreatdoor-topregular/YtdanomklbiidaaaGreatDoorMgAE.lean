import Derived.Test.YtdanomklbiidaaaGreatDoorMgAB
import Derived.Deep.DrawnRows
import Derived.Maps.AppendAt
import Derived.Test.YtdanomklbiidaaaGreatDoorLinAll
import Derived.Test.YtdanomklbiidaaaGreatDoorRun9
namespace Go.Proofs.YtdanomklbiidaaaGreatDoor
open Go.RowKit
attribute [local go_sem ↓] Go.wp_at_zero Go.wp_at_succ
def colsL (m:List (List Int)) (c:List Int):List (List Int):=m.map fun r=>c.map fun q=>r.getD q.toNat 0
theorem colsL_length (m:List (List Int)) (c:List Int):(colsL m c).length=m.length:=by simp [colsL]
end Go.Proofs.YtdanomklbiidaaaGreatDoor

namespace Go.Proofs.YtdanomklbiidaaaGreatDoor
open Go.RowKit
def Fr (B:Nat) (e2 e1:TypeId) (w:World) (v:Value) (m:List (List Int)):Prop:=
 ∃vs,vs.length=m.length∧w.ownsRow B e2 1 v m.length vs∧∀i,i < m.length→Sl 0 e1 w (vs.getD i (.slice none 0 0)) (ints (m.getD i []))
theorem Fr.rws {B:Nat} {e2 e1:TypeId} {w:World} {v:Value} {m:List (List Int)} (h:Fr B e2 e1 w v m):Rws B e2 e1 w v m:=by
 obtain ⟨vs,h1,h2,h3⟩:=h
 exact ⟨vs,h1,h2,fun i hi=>(h3 i hi).more (Nat.zero_le _)⟩
theorem Fr.nil (B:Nat) (e2 e1:TypeId) (w:World):Fr B e2 e1 w (.slice none 0 0) []:=
 ⟨[],rfl,World.ownsRow_nil _ _ _ _,fun i hi=>absurd hi (by simp)⟩
theorem Fr.below {B N:Nat} {e2 e1:TypeId} {w w':World} {v:Value} {m:List (List Int)} (h:Fr B e2 e1 w v m) (hb:Below N w w') (hN:w.heap.size≤N):Fr B e2 e1 w' v m:=by
 obtain ⟨vs,h1,h2,h3⟩:=h
 exact ⟨vs,h1,owns_below h2 hb hN,fun i hi=>(h3 i hi).below hb hN⟩
theorem Fr.alloc {B:Nat} {e2 e1:TypeId} {w:World} {v:Value} {m:List (List Int)} (h:Fr B e2 e1 w v m) (o:Obj):Fr B e2 e1 (w.alloc o) v m:=by
 obtain ⟨vs,h1,h2,h3⟩:=h
 exact ⟨vs,h1,h2.alloc o,fun i hi=>(h3 i hi).alloc o⟩
theorem Fr.push {B:Nat} {e2 e1:TypeId} {w w':World} {v v' u:Value} {m:List (List Int)} {vs:List Value} {zs:List Int} (hne:e2≠e1)
  (h1:vs.length=m.length) (h2:w.ownsRow B e2 1 v m.length vs) (h3:∀i,i < m.length→Sl 0 e1 w (vs.getD i (.slice none 0 0)) (ints (m.getD i []))) (hu:Sl 0 e1 w u (ints zs))
  (ho:w'.ownsRow B e2 1 v' (m.length+1) (vs ++ [u])) (hg:w.grownBy w' v.ownBlock):Fr B e2 e1 w' v' (m ++ [zs]):=by
 have ht:∀k,v.ownBlock=some k→0≤k∧∀cur,w.heap[k]?≠some (.cells cur e1 (0,0)):=fun k hk=>⟨Nat.zero_le _,(owns_typed h2 hne k hk).2⟩
 refine ⟨vs ++ [u],by simp [h1],by simpa using ho,fun i hi=>?_⟩
 by_cases hlt:i < m.length
 ·have e1':(vs ++ [u]).getD i (.slice none 0 0)=vs.getD i (.slice none 0 0):=by
   simp only [List.getD_eq_getElem?_getD]; rw [List.getElem?_append_left (by omega)]
  have e2':(m ++ [zs]).getD i []=m.getD i []:=by
   simp only [List.getD_eq_getElem?_getD]; rw [List.getElem?_append_left (by omega)]
  rw [e1',e2']
  exact (h3 i hlt).grown hg ht
 ·have hi':i=m.length:=by simp at hi; omega
  subst hi'
  have e1':(vs ++ [u]).getD m.length (.slice none 0 0)=u:=by
   rw [←h1]; simp
  have e2':(m ++ [zs]).getD m.length []=zs:=by simp
  rw [e1',e2']
  exact hu.grown hg ht
def chosenL:Nat→Nat→List (List Int)
 | 0,_=>[[]]
 | k+1,n=>(List.range' k (n-k)).flatMap fun v=>(chosenL k v).map (· ++ [(v:Int)])
theorem chosen_len:∀k n,n≤64→(chosenL k n).length≤64 ^ k:=by
 intro k
 induction k with
 | zero=>intro n _; simp [chosenL]
 | succ k ih=>
  intro n hn
  have h1:∀t,k+t≤64→((List.range' k t).flatMap fun v=>(chosenL k v).map (· ++ [(v:Int)])).length≤t*64 ^ k:=by
   intro t
   induction t with
   | zero=>intro _; simp
   | succ t it=>
    intro ht
    rw [List.range'_concat,List.flatMap_append,List.length_append]
    have:=it (by omega)
    have h2:=ih (k+t) (by omega)
    simp only [List.flatMap_cons,List.flatMap_nil,List.append_nil,List.length_map,Nat.one_mul]
    rw [Nat.add_mul]; omega
  have h2:=h1 (n-k)
  simp only [chosenL]
  by_cases hk:k≤n
  ·have:=h2 (by omega)
   rw [Nat.pow_succ]
   have h3:(n-k)*64 ^ k≤64*64 ^ k:=Nat.mul_le_mul_right _ (by omega)
   rw [Nat.mul_comm (64 ^ k)]; omega
  ·have:n-k=0:=by omega
   rw [this]; simp
theorem chosen_row:∀k n l,l∈chosenL k n→l.length=k:=by
 intro k
 induction k with
 | zero=>intro n l h; simp [chosenL] at h; subst h; rfl
 | succ k ih=>
  intro n l h
  simp only [chosenL,List.mem_flatMap,List.mem_map] at h
  obtain ⟨v,_,l',h1,rfl⟩:=h
  simp [ih v l' h1]
end Go.Proofs.YtdanomklbiidaaaGreatDoor

namespace Go.Proofs.YtdanomklbiidaaaGreatDoor
open Go.RowKit
attribute [local go_sem ↓] Go.wp_at_zero Go.wp_at_succ
def fm (m:List (List Int)):List (Nat→Int):=m.map fun l j=>l.getD j 0
structure Sq (n Bd:Nat) (m:List (List Int)):Prop where
 len:m.length=n
 row:∀r∈m,n≤r.length
 bd:∀r∈m,∀j,j < n→(r.getD j 0).natAbs≤Bd
 small:Lin.fb Bd n≤1152921504606846976
 n64:n≤64
 pos:1≤Bd
theorem fb_mono {Bd : Nat} (h : 1 ≤ Bd) : ∀ {a b : Nat}, a ≤ b → Lin.fb Bd a ≤ Lin.fb Bd b := by
  intro a b hab
  induction b with
  | zero => have : a = 0 := by omega
            subst this; exact Nat.le_refl _
  | succ b ih =>
    by_cases e : a = b + 1
    · subst e; exact Nat.le_refl _
    · have := ih (by omega)
      simp only [Lin.fb]
      have h2 : 1 * Lin.fb Bd b ≤ (b + 1) * Bd * Lin.fb Bd b := Nat.mul_le_mul_right _ (Nat.mul_pos (by omega) (by omega))
      omega
theorem rowIs_below {w w':World} {b N n:Nat} {t:TypeId} {f:Nat→Value} (h:w.rowIs b t n f) (hb:Below N w w') (hN:w.heap.size≤N):w'.rowIs b t n f:=
 h.of_block (hb.block b (Nat.lt_of_lt_of_le h.lt hN))
def detL (m:List (List Int)):Int:=Lin.od m.length (fm m) fun _=>false
end Go.Proofs.YtdanomklbiidaaaGreatDoor

namespace Go.Proofs.YtdanomklbiidaaaGreatDoor
open Go.RowKit
structure Mx (c Bd:Nat) (m:List (List Int)):Prop where
 row:∀r∈m,r.length=c
 bd:∀r∈m,∀z∈r,z.natAbs≤Bd
 c5:c≤5
 c1:1≤c
 pos:1≤Bd
 small:Lin.fb Bd c≤1152921504606846976
theorem chosen_mem:∀k n q,q∈chosenL k n→(∀i,i < k→0≤q.getD i 0∧q.getD i 0 < (n:Int))∧∀i j,i < j→j < k→q.getD i 0 < q.getD j 0:=by
 intro k
 induction k with
 | zero=>intro n q h; exact ⟨fun i hi=>by omega,fun i j _ hj=>by omega⟩
 | succ k ih=>
  intro n q h
  simp only [chosenL,List.mem_flatMap,List.mem_map,List.mem_range'_1] at h
  obtain ⟨v,hv,l,hl,rfl⟩:=h
  have hll:=chosen_row k v l hl
  obtain ⟨h1,h2⟩:=ih v l hl
  have e1:∀i,i < k→(l ++ [(v:Int)]).getD i 0=l.getD i 0:=by
   intro i hi; simp only [List.getD_eq_getElem?_getD]; rw [List.getElem?_append_left (by omega)]
  have e2:(l ++ [(v:Int)]).getD k 0=v:=by
   simp only [List.getD_eq_getElem?_getD]; rw [List.getElem?_append_right (by omega)]; simp [hll]
  refine ⟨fun i hi=>?_,fun i j hij hj=>?_⟩
  ·by_cases e:i < k
   ·rw [e1 i e]; have:=h1 i e; omega
   ·rw [show i=k by omega,e2]; omega
  ·by_cases e:j < k
   ·rw [e1 i (by omega),e1 j e]; exact h2 i j hij e
   ·rw [show j=k by omega,e2,e1 i (by omega)]; exact (h1 i (by omega)).2
theorem chosen_all:∀k n K,Lin.Rising k n K→((List.range k).map fun i=>(K i:Int))∈chosenL k n:=by
 intro k
 induction k with
 | zero=>intro n K _; simp [chosenL]
 | succ k ih=>
  intro n K h
  simp only [chosenL,List.mem_flatMap,List.mem_map,List.mem_range'_1]
  have hk:k≤K k:=by
   have:∀i,i < k+1→i≤K i:=by
    intro i
    induction i with
    | zero=>intro _; omega
    | succ i ii=>intro hi; have:=ii (by omega); have:=h.1 i (i+1) (by omega) hi; omega
   exact this k (by omega)
  refine ⟨K k,⟨hk,by have:=h.2 k (by omega); omega⟩,_,ih (K k) K ⟨fun i j hij hj=>h.1 i j hij (by omega),fun i hi=>h.1 i k hi (by omega)⟩,?_⟩
  simp [List.range_succ]
def freeL (c:Nat) (m:List (List Int)):Bool:=m.length == 0 || (decide (m.length≤c) && (chosenL m.length c).any fun q=>detL (colsL m q) != 0)
def toK (q:List Int):Nat→Nat:=fun i=>(q.getD i 0).toNat
theorem det_cols {m:List (List Int)} {q:List Int} (hq:q.length=m.length):detL (colsL m q)=Lin.od (fm m).length (Lin.cols (fm m) (toK q)) fun _=>false:=by
 unfold detL
 rw [colsL_length,show (fm m).length=m.length by simp [fm]]
 refine Lin.od_congr (by simp [fm,colsL,Lin.cols]) (fun i hi j hj=>?_) _
 have hi':i < m.length:=by simpa [fm,colsL] using hi
 simp [fm,colsL,Lin.cols,hi',toK,hq,hj]
theorem toK_rising {k n:Nat} {q:List Int} (h:q∈chosenL k n):Lin.Rising k n (toK q):=by
 obtain ⟨h1,h2⟩:=chosen_mem k n q h
 refine ⟨fun i j hij hj=>?_,fun i hi=>?_⟩
 ·have a1:=h1 i (by omega)
  have a2:=h2 i j hij hj
  unfold toK; omega
 ·have a1:=h1 i hi
  unfold toK; omega
theorem freeL_iff {c:Nat} {m:List (List Int)} : freeL c m=true↔Lin.FreeP c (fm m):=by
 have hfl:(fm m).length=m.length:=by simp [fm]
 constructor
 ·intro h
  simp only [freeL,Bool.or_eq_true,beq_iff_eq,Bool.and_eq_true,decide_eq_true_eq,List.any_eq_true] at h
  rcases h with h | ⟨_,q,hq,hd⟩
  ·have:m=[]:=List.eq_nil_of_length_eq_zero h
   subst this
   exact ⟨id,⟨fun _ _ _ h=>absurd h (by simp [fm]),fun _ h=>absurd h (by simp [fm])⟩,by simp [fm,Lin.cols,Lin.od]⟩
  ·refine ⟨toK q,by rw [hfl]; exact toK_rising hq,?_⟩
   rw [←det_cols (chosen_row _ _ _ hq)]
   simpa using hd
 ·rintro ⟨K,hK,hod⟩
  rw [hfl] at hK
  simp only [freeL,Bool.or_eq_true,beq_iff_eq,Bool.and_eq_true,decide_eq_true_eq,List.any_eq_true]
  right
  have hle:m.length≤c:=by
   by_cases h0:m.length=0
   ·omega
   ·have:∀i,i < m.length→i≤K i:=by
     intro i
     induction i with
     | zero=>intro _; omega
     | succ i ii=>intro hi; have:=ii (by omega); have:=hK.1 i (i+1) (by omega) hi; omega
    have a1:=this (m.length-1) (by omega)
    have a2:=hK.2 (m.length-1) (by omega)
    omega
  refine ⟨hle,_,chosen_all _ _ K hK,?_⟩
  rw [det_cols (by simp)]
  have e:Lin.od (fm m).length (Lin.cols (fm m) (toK ((List.range m.length).map fun i=>(K i:Int)))) (fun _=>false)=Lin.od (fm m).length (Lin.cols (fm m) K) (fun _=>false):=by
   refine Lin.od_congr (by simp [Lin.cols]) (fun i hi j hj=>?_) _
   have hi':i < m.length:=by simpa [Lin.cols,fm] using hi
   have hj':j < m.length:=by rw [hfl] at hj; exact hj
   simp [Lin.cols,fm,hi',toK,hj']
  rw [e]
  simpa using hod
end Go.Proofs.YtdanomklbiidaaaGreatDoor

namespace Go.Proofs.YtdanomklbiidaaaGreatDoor
open Go.RowKit
attribute [local go_sem ↓] Go.wp_at_zero Go.wp_at_succ
def pickL (c:Nat) (m:List (List Int)):List (List Int):=m.foldl (fun h r=>if freeL c (h ++ [r]) then h ++ [r] else h) []
theorem pickL_mem {c:Nat} {m:List (List Int)} {r:List Int} (h:r∈pickL c m):r∈m:=by
 have:∀(m h:List (List Int)) (r:List Int),r∈m.foldl (fun h r=>if freeL c (h ++ [r]) then h ++ [r] else h) h→r∈h∨r∈m:=by
  intro m
  induction m with
  | nil=>intro h r hr; exact Or.inl hr
  | cons x m ih=>
   intro h r hr
   rcases ih _ _ hr with h1 | h1
   ·have h1:r∈(if freeL c (h ++ [x])=true then h ++ [x] else h):=h1
    by_cases hf:freeL c (h ++ [x])=true
    ·rw [if_pos hf] at h1
     rcases List.mem_append.1 h1 with h2 | h2
     ·exact Or.inl h2
     ·simp at h2; exact Or.inr (by simp [h2])
    ·rw [if_neg hf] at h1; exact Or.inl h1
   ·exact Or.inr (by simp [h1])
 rcases this m [] r h with h | h
 ·simp at h
 ·exact h
theorem pickL_len (c:Nat) (m:List (List Int)):(pickL c m).length≤m.length:=by
 have:∀(m h:List (List Int)),(m.foldl (fun h r=>if freeL c (h ++ [r]) then h ++ [r] else h) h).length≤h.length+m.length:=by
  intro m
  induction m with
  | nil=>intro h; simp
  | cons x m ih=>
   intro h
   have:=ih (if freeL c (h ++ [x]) then h ++ [x] else h)
   simp only [List.foldl_cons,List.length_cons]
   by_cases hf:freeL c (h ++ [x])=true
   ·rw [if_pos hf] at this ⊢; simp at this; omega
   ·rw [if_neg hf] at this ⊢; omega
 have:=this m []
 simpa [pickL] using this
theorem fm_append (a b:List (List Int)):fm (a ++ b)=fm a ++ fm b:=by simp [fm]
theorem pick_greedy (c:Nat) (m:List (List Int)):Lin.Greedy c (fm m) (fm (pickL c m)):=by
 have:∀(m h l:List (List Int)),Lin.Greedy c (fm l) (fm h)→Lin.Greedy c (fm (l ++ m)) (fm (m.foldl (fun h r=>if freeL c (h ++ [r]) then h ++ [r] else h) h)):=by
  intro m
  induction m with
  | nil=>intro h l hg; simpa using hg
  | cons x m ih=>
   intro h l hg
   have e:l ++ x :: m=(l ++ [x]) ++ m:=by simp
   rw [e,List.foldl_cons]
   apply ih
   by_cases hf:freeL c (h ++ [x])=true
   ·rw [if_pos hf,fm_append,fm_append]
    exact hg.more (by have:=freeL_iff.1 hf; rwa [fm_append] at this)
   ·rw [if_neg hf,fm_append]
    refine hg.less fun hp=>hf (freeL_iff.2 ?_)
    rw [fm_append]; exact hp
 exact this m [] [] (Lin.Greedy.nil c)
theorem freeL_cap {c:Nat} {m:List (List Int)} (h:freeL c m=true):m.length≤c:=by
 by_cases hle:c < m.length
 ·have hb0:(m.length == 0)=false:=by simp; intro h0; rw [h0] at hle; simp at hle
  have hf:freeL c m=false:=by rw [freeL,hb0,decide_eq_false (by omega)]; rfl
  rw [hf] at h
  exact absurd h (by decide)
 ·omega
theorem pickL_cap (c:Nat) (m:List (List Int)):(pickL c m).length≤c:=by
 have gen:∀(m h:List (List Int)),h.length≤c→(m.foldl (fun h r=>if freeL c (h ++ [r]) then h ++ [r] else h) h).length≤c:=by
  intro m
  induction m with
  | nil=>intro h hh; exact hh
  | cons r m ih=>
   intro h hh
   rw [List.foldl_cons]
   refine ih _ ?_
   split
   ·rename_i hf; exact freeL_cap hf
   ·exact hh
 exact gen m [] (by simp)
end Go.Proofs.YtdanomklbiidaaaGreatDoor

namespace Go.Proofs.YtdanomklbiidaaaGreatDoor
open Go.RowKit
def muL (c:Nat) (rows:List (List Int)):List Int:=(List.range c).map fun k=>Lin.mu (fm rows) k
theorem ngo_mod (k:Nat):Lin.ngo k=if k % 2=1 then -1 else 1:=by
 induction k with
 | zero=>rfl
 | succ k ih=>
  simp only [Lin.ngo]; rw [ih]
  by_cases h:k % 2=1
  ·rw [if_pos h,if_neg (by omega)]; rfl
  ·rw [if_neg h,if_pos (by omega)]
theorem low_bd {l:List Int} {b:Nat} (h:∀z∈l,z.natAbs≤b):∀z∈Lin.low l,z.natAbs≤b:=by
 intro z hz
 simp only [Lin.low,List.mem_map] at hz
 obtain ⟨y,hy,rfl⟩:=hz
 by_cases h0:Lin.gc l=0
 ·rw [h0]; simp
 ·have h1:=h y hy
  obtain ⟨q,hq⟩:=Lin.gc_dvd hy
  have h3:y / (Lin.gc l:Int)=q:=by rw [hq]; exact Int.mul_ediv_cancel_left q (by omega)
  have h4:y.natAbs=Lin.gc l*q.natAbs:=by rw [hq,Int.natAbs_mul]; simp
  rw [h3]
  have h5:1*q.natAbs≤Lin.gc l*q.natAbs:=Nat.mul_le_mul_right _ (by omega)
  omega
def normL (c:Nat) (m:List (List Int)):List Int:=if (pickL c m).length+1=c then Lin.upr (Lin.low (muL c (pickL c m))) else []
def normB (c:Nat) (m:List (List Int)):Bool:=decide ((pickL c m).length+1=c)
end Go.Proofs.YtdanomklbiidaaaGreatDoor

namespace Go.Proofs.YtdanomklbiidaaaGreatDoor
open Lin
theorem fm_row {m:List (List Int)} {i:Nat} (h:i < m.length):row (fm m) i=mOf m i:=by
 unfold row fm mOf
 rw [List.getD_eq_getElem?_getD,List.getElem?_map,List.getElem?_eq_getElem h]
 simp [h]
theorem fm_length (m:List (List Int)):(fm m).length=m.length:=by simp [fm]
theorem fm_srows (m:List (List Int)):srows (mOf m) m.length=fm m:=by
 apply List.ext_getElem (by simp [srows,fm])
 intro i h1 h2
 have hi:i < m.length:=by simpa [fm] using h2
 have:=fm_row hi
 unfold row at this
 rw [List.getD_eq_getElem?_getD,List.getElem?_eq_getElem h2] at this
 simp only [Option.getD_some] at this
 rw [this]; simp [srows]
theorem red_in {m:List (List Int)} {q:Nat} {M':Nat→Nat→Int} {C:Nat→Nat} {k:Nat} {sgn:Int} (h:Red (mOf m) m.length q M' C k sgn) {r:Nat→Int} (hr:r∈fm m):∃i,i < m.length∧r=M' i:=by
 obtain ⟨i,h1,h2⟩:=mem_row hr
 rw [fm_length] at h1
 rw [fm_row h1] at h2
 obtain ⟨i',h3,h4⟩:=h.sup i h1
 exact ⟨i',h3,by rw [←h2,h4]⟩
theorem red_out {m:List (List Int)} {q:Nat} {M':Nat→Nat→Int} {C:Nat→Nat} {k:Nat} {sgn:Int} (h:Red (mOf m) m.length q M' C k sgn) {i:Nat} (hi:i < m.length):M' i∈fm m:=by
 obtain ⟨i',h1,h2⟩:=h.sub i hi
 rw [h2,←fm_row h1]
 exact row_mem (by rw [fm_length]; exact h1)
theorem red_rank {m:List (List Int)} {c:Nat} {M':Nat→Nat→Int} {C:Nat→Nat} {k:Nat} {sgn:Int} (h:Red (mOf m) m.length c M' C k sgn):k=(pickL c m).length:=by
 have hg:=pick_greedy c m
 obtain ⟨K,hK,hf⟩:=hg.free
 rw [←fm_length (pickL c m)]
 refine rank_eq h.done hK.2 hf (fun a ha=>?_) (fun i hi=>hg.dep _ (red_out h hi))
 obtain ⟨i,h1,h2⟩:=red_in h (hg.mem _ (row_mem ha))
 exact ⟨i,h1,fun j _=>by rw [h2]⟩
theorem red_det {m:List (List Int)} {M':Nat→Nat→Int} {C:Nat→Nat} {k:Nat} {sgn:Int} (h:Red (mOf m) m.length m.length M' C k sgn):(if k < m.length then 0 else sgn*dk M' C k)=detL m:=by
 have hkn:=h.done.kn
 by_cases hk:k < m.length
 ·rw [if_pos hk]
  apply Classical.byContradiction
  intro hne
  have hod:od (fm m).length (cols (fm m) id) (fun _=>false)≠0:=by
   have e:cols (fm m) id=fm m:=by unfold cols; simp
   rw [e,fm_length]
   intro e; apply hne; unfold detL; rw [e]
  have:=rank_eq h.done (H:=fm m) (K:=id) (fun b hb=>by rw [fm_length] at hb; exact hb) hod (fun a ha=>by
   obtain ⟨i,h1,h2⟩:=red_in h (row_mem ha)
   exact ⟨i,h1,fun j _=>by rw [h2]⟩) (fun i hi=>by
   obtain ⟨a,h1,h2⟩:=mem_row (red_out h hi)
   rw [←h2]; exact Dep.self h1)
  rw [fm_length] at this; omega
 ·have hk':k=m.length:=by omega
  subst hk'
  rw [if_neg hk]
  have h1:=h.sign
  rw [dk_full h.done.rise,h1,fm_srows]
  unfold detL
  rcases h.one with e | e <;> rw [e] <;> simp
theorem red_entry {m:List (List Int)} {c B q:Nat} {M':Nat→Nat→Int} {C:Nat→Nat} {k:Nat} {sgn:Int} (hx:Mx c B m) (h:Red (mOf m) m.length q M' C k sgn):∀i,i < m.length→∀j,j < c→(M' i j).natAbs≤B:=by
 intro i hi j hj
 obtain ⟨i',h1,h2⟩:=h.sub i hi
 rw [h2]
 unfold mOf
 have hm:m.getD i' []∈m:=by rw [List.getD_eq_getElem?_getD,List.getElem?_eq_getElem h1]; exact List.getElem_mem h1
 have hl:=hx.row _ hm
 refine hx.bd _ hm _ ?_
 generalize m.getD i' []=r at hl ⊢
 have hjr:j < r.length:=by omega
 have e:r.getD j 0=r[j]:=by simp [hjr]
 rw [e]; exact List.getElem_mem hjr
theorem fb_one (B:Nat) (h:1≤B):∀k,1≤fb B k
 | 0=>Nat.le_refl _
 | k+1=>by
  unfold fb
  exact Nat.mul_pos (Nat.mul_pos (by omega) h) (fb_one B h k)
theorem rising_le {k c:Nat} {C:Nat→Nat} (h:Rising k c C):k≤c:=by
 have h1:∀i,i < k→i≤C i:=by
  intro i
  induction i with
  | zero=>intro _; omega
  | succ i ih=>
   intro hi
   have:=ih (by omega)
   have:=h.1 i (i+1) (by omega) hi
   omega
 by_cases hk:k=0
 ·omega
 ·have:=h1 (k-1) (by omega)
  have:=h.2 (k-1) (by omega)
  omega
theorem bd_of {m:List (List Int)} {c B:Nat} (hx:Mx c B m) (h34:fb B 3*(fb B 4+fb B 5)≤9223372036854775807)
  (had:∀M':Nat→Nat→Int,(∀i,i < 5→∀j,j < 5→(M' i j).natAbs≤B)→(dk M' id 4*dk M' id 5).natAbs≤9223372036854775807):Bd (mOf m) m.length c:=by
 intro q M' C k sgn hq h i hi j hj
 have hent:=red_entry hx h
 have hkq:=rising_le h.done.rise
 have hc5:=hx.c5
 have hkn:=h.done.kn
 have hCc:∀b,b < k+1→C b < c:=fun b hb=>Nat.lt_of_lt_of_le (h.done.rise.2 b hb) hq
 have hsm:=hx.small
 by_cases h4:k+1≤4
 ·have h1:=rr_bd (B:=B) (n:=m.length) (c:=c) (k:=k+1) (i:=i) (j:=j) (M:=M') (C:=C) hx.pos hent hkn hCc hi hj
  have h2:=dk_bd (B:=B) (k:=k) (M:=M') (C:=C) (fun i hi b hb=>hent i (by omega) _ (hCc b (by omega)))
  have m1:fb B (k+1)≤fb B 4:=fb_mono hx.pos h4
  have m2:fb B (k+1+1)≤fb B 5:=fb_mono hx.pos (by omega)
  have m3:fb B k≤fb B 3:=fb_mono hx.pos (by omega)
  have o3:=fb_one B hx.pos 3
  have hp:(dk M' C k*rr M' C (k+1) i j).natAbs≤fb B 3*(fb B 4+fb B 5):=by
   rw [Int.natAbs_mul]
   exact Nat.mul_le_mul (by omega) (by omega)
  have hq:(rr M' C (k+1) i j).natAbs≤fb B 3*(fb B 4+fb B 5):=
   Nat.le_trans (show (rr M' C (k+1) i j).natAbs≤1*(fb B 4+fb B 5) by omega) (Nat.mul_le_mul_right _ o3)
  omega
 ·have hk:k=4:=by omega
  subst hk
  have hc:c=5:=by omega
  subst hc
  have hq5:q=5:=by omega
  subst hq5
  have hid:∀b,b < 5→C b=b:=fun b hb=>rising_id h.done.rise hb
  have e4:dk M' C 4=dk M' id 4:=dk_congr (fun _ _=>rfl) fun b hb=>hid b (by omega)
  have e5:dk M' C 5=dk M' id 5:=dk_congr (fun _ _=>rfl) fun b hb=>hid b hb
  have b5:=dk_bd (B:=B) (k:=5) (M:=M') (C:=id) (fun i hi b hb=>hent i (by omega) _ hb)
  have hh:=had M' (fun i hi j hj=>hent i (by omega) j hj)
  have hr:rr M' C (4+1) i j=0∨rr M' C (4+1) i j=dk M' id 5:=by
   by_cases hi5:i < 5
   ·have:=rr_pivot h.done.nz h.done.rise.1 hi5 hj
    rw [hid j hj] at this
    by_cases e:i=j
    ·rw [if_pos e] at this; right; rw [this]; exact e5
    ·rw [if_neg e] at this; left; exact this
   ·left; exact h.done.zero i (by omega) hi j hj
  rw [e4]
  rcases hr with e | e <;> rw [e]
  ·simp
  ·exact ⟨hh,by omega⟩
theorem bd_of4 {m:List (List Int)} {c B:Nat} (hx:Mx c B m) (hc4:c≤4) (h34:fb B 2*(fb B 3+fb B 4)≤9223372036854775807) (had:fb B 3*fb B 4≤9223372036854775807):Bd (mOf m) m.length c:=by
 intro q M' C k sgn hq h i hi j hj
 have hent:=red_entry hx h
 have hkq:=rising_le h.done.rise
 have hkn:=h.done.kn
 have hCc:∀b,b < k+1→C b < c:=fun b hb=>Nat.lt_of_lt_of_le (h.done.rise.2 b hb) hq
 have hsm:=hx.small
 by_cases h4:k+1≤3
 ·have h1:=rr_bd (B:=B) (n:=m.length) (c:=c) (k:=k+1) (i:=i) (j:=j) (M:=M') (C:=C) hx.pos hent hkn hCc hi hj
  have h2:=dk_bd (B:=B) (k:=k) (M:=M') (C:=C) (fun i hi b hb=>hent i (by omega) _ (hCc b (by omega)))
  have m1:fb B (k+1)≤fb B 3:=fb_mono hx.pos h4
  have m2:fb B (k+1+1)≤fb B 4:=fb_mono hx.pos (by omega)
  have m3:fb B k≤fb B 2:=fb_mono hx.pos (by omega)
  have o3:=fb_one B hx.pos 2
  have hp:(dk M' C k*rr M' C (k+1) i j).natAbs≤fb B 2*(fb B 3+fb B 4):=by
   rw [Int.natAbs_mul]
   exact Nat.mul_le_mul (by omega) (by omega)
  have hq:(rr M' C (k+1) i j).natAbs≤fb B 2*(fb B 3+fb B 4):=
   Nat.le_trans (show (rr M' C (k+1) i j).natAbs≤1*(fb B 3+fb B 4) by omega) (Nat.mul_le_mul_right _ o3)
  omega
 ·have hk:k=3:=by omega
  subst hk
  have hc:c=4:=by omega
  subst hc
  have hq4:q=4:=by omega
  subst hq4
  have hid:∀b,b < 4→C b=b:=fun b hb=>rising_id h.done.rise hb
  have e4:dk M' C 3=dk M' id 3:=dk_congr (fun _ _=>rfl) fun b hb=>hid b (by omega)
  have e5:dk M' C 4=dk M' id 4:=dk_congr (fun _ _=>rfl) fun b hb=>hid b hb
  have b5:=dk_bd (B:=B) (k:=4) (M:=M') (C:=id) (fun i hi b hb=>hent i (by omega) _ hb)
  have b4:=dk_bd (B:=B) (k:=3) (M:=M') (C:=id) (fun i hi b hb=>hent i (by omega) _ (by show b < 4; omega))
  have hh:(dk M' id 3*dk M' id 4).natAbs≤9223372036854775807:=by
   rw [Int.natAbs_mul]
   exact Nat.le_trans (Nat.mul_le_mul b4 b5) had
  have hr:rr M' C (3+1) i j=0∨rr M' C (3+1) i j=dk M' id 4:=by
   by_cases hi5:i < 4
   ·have:=rr_pivot h.done.nz h.done.rise.1 hi5 hj
    rw [hid j hj] at this
    by_cases e:i=j
    ·rw [if_pos e] at this; right; rw [this]; exact e5
    ·rw [if_neg e] at this; left; exact this
   ·left; exact h.done.zero i (by omega) hi j hj
  rw [e4]
  rcases hr with e | e <;> rw [e]
  ·simp
  ·exact ⟨hh,by omega⟩
end Go.Proofs.YtdanomklbiidaaaGreatDoor
