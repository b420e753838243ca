import Derived.Test.YtdanomklbiidaaaGreatDoorLinAll
import Derived.Test.YtdanomklbiidaaaGreatDoorMgAC
import Derived.Test.YtdanomklbiidaaaGreatDoorRun7
namespace Go.Proofs.YtdanomklbiidaaaGreatDoor.Lin
theorem srows_congr {M M':Nat→Nat→Int} {k:Nat} (hM:∀i,i < k→M i=M' i):srows M k=srows M' k:=
 List.map_congr_left fun i hi=>hM i (by simpa using hi)
theorem dk_congr {M M':Nat→Nat→Int} {C C':Nat→Nat} {k:Nat} (hM:∀i,i < k→M i=M' i) (hC:∀b,b < k→C b=C' b):dk M C k=dk M' C' k:=by
 unfold dk
 rw [srows_congr hM]
 refine od_congr (by simp [cols]) (fun i hi b hb=>?_) _
 have hi':i < (srows M' k).length:=by simpa [cols] using hi
 have e:=cols_row (C:=C) hi'
 have e':=cols_row (C:=C') hi'
 unfold row at e e'
 rw [e,e']; show _=_; simp only [hC b hb]
theorem posn_congr {C C':Nat→Nat} {k:Nat} (hC:∀b,b < k→C b=C' b) (j:Nat):posn C k j=posn C' k j:=by
 funext b
 unfold posn
 by_cases h:b < k
 ·simp [h,hC b h]
 ·simp [h]
theorem rho_congr2 {M M':Nat→Nat→Int} {C C':Nat→Nat} {k:Nat} (hM:∀i,i < k→M i=M' i) (hC:∀b,b < k→C b=C' b) (u:Nat→Int) (j:Nat):rho M C k u j=rho M' C' k u j:=by
 unfold rho
 rw [srows_congr hM,posn_congr hC]
theorem rr_congr {M M':Nat→Nat→Int} {C C':Nat→Nat} {k i:Nat} (hM:∀i,i < k→M i=M' i) (hC:∀b,b < k→C b=C' b) (hi:M i=M' i) (j:Nat):rr M C k i j=rr M' C' k i j:=by
 unfold rr
 rw [dk_congr hM hC,hi,rho_congr2 hM hC,rho_congr2 hM hC]
 by_cases h:i < k
 ·rw [if_pos h,if_pos h,hC i h]
 ·rw [if_neg h,if_neg h]
structure Red (M:Nat→Nat→Int) (n q:Nat) (M':Nat→Nat→Int) (C:Nat→Nat) (k:Nat) (sgn:Int):Prop where
 done:Done M' n q k C
 sub:∀i,i < n→∃i',i' < n∧M' i=M i'
 sup:∀i,i < n→∃i',i' < n∧M i=M' i'
 sign:od n (srows M' n) (fun _=>false)=sgn*od n (srows M n) (fun _=>false)
 one:sgn=1∨sgn=-1
theorem Red.start (M:Nat→Nat→Int) (n:Nat) (C:Nat→Nat):Red M n 0 M C 0 1:=
 ⟨⟨Nat.zero_le _,⟨fun _ b _ hb=>absurd hb (by omega),fun b hb=>absurd hb (by omega)⟩,by simp [dk,cols,srows,od],fun _ _ _ j hj=>absurd hj (by omega)⟩,
  fun i hi=>⟨i,hi,rfl⟩,fun i hi=>⟨i,hi,rfl⟩,by simp,Or.inl rfl⟩
theorem Red.none {M:Nat→Nat→Int} {n q:Nat} {M':Nat→Nat→Int} {C:Nat→Nat} {k:Nat} {sgn:Int} (h:Red M n q M' C k sgn) (hz:∀i,k≤i→i < n→rr M' C k i q=0):Red M n (q+1) M' C k sgn:=by
 refine ⟨⟨h.done.kn,⟨h.done.rise.1,fun b hb=>by have:=h.done.rise.2 b hb; omega⟩,h.done.nz,fun i h1 h2 j hj=>?_⟩,h.sub,h.sup,h.sign,h.one⟩
 by_cases e:j=q
 ·subst e; exact hz i h1 h2
 ·exact h.done.zero i h1 h2 j (by omega)
theorem od_sw {M:Nat→Nat→Int} {n k i0:Nat} (h1:k < i0) (h2:i0 < n) (U:Nat→Bool):od n (srows (fun i=>M (sw k i0 i)) n) U=- od n (srows M n) U:=by
 obtain ⟨A,B,D,x,y,hL,hA,hB⟩:=split_two (L:=srows M n) h1 (by rw [srows_length]; exact h2)
 have hx:(srows M n)[k]?=some (M k):=by simp [srows,show k < n by omega]
 have hy:(srows M n)[i0]?=some (M i0):=by simp [srows,h2]
 have ex:x=M k:=by
  rw [hL,List.getElem?_append_right (by omega)] at hx
  simpa [hA] using hx
 have ey:y=M i0:=by
  rw [hL,List.getElem?_append_right (by omega),show i0-A.length=B.length+1 by omega,List.getElem?_cons_succ,List.getElem?_append_right (by omega)] at hy
  simpa using hy
 have e:srows (fun i=>M (sw k i0 i)) n=A ++ y :: (B ++ x :: D):=by
  have e1:((srows M n).set k y).set i0 x=A ++ y :: (B ++ x :: D):=by
   rw [hL,set_at hA]
   have:A ++ y :: (B ++ y :: D)=(A ++ y :: B) ++ y :: D:=by simp
   rw [this,set_at (by simp; omega)]
   simp
  rw [←e1,ex,ey]
  apply List.ext_getElem?
  intro i
  rw [List.getElem?_set,List.getElem?_set]
  by_cases a1:i0=i
  ·subst a1; simp [srows,h2,sw,show ¬i0=k by omega]
  ·by_cases a2:k=i
   ·subst a2; simp [srows,show k < n by omega,sw,a1]
   ·have a1':¬i=i0:=fun h=>a1 h.symm
    have a2':¬i=k:=fun h=>a2 h.symm
    rw [if_neg a1,if_neg a2]
    by_cases hin:i < n
    ·simp [srows,hin,sw,a1',a2']
    ·rw [List.getElem?_eq_none (by simp [srows]; omega),List.getElem?_eq_none (by simp [srows]; omega)]
 rw [e,od_change,←hL]
def sC (C:Nat→Nat) (k q:Nat):Nat→Nat:=fun b=>if b=k then q else C b
theorem Red.some {M:Nat→Nat→Int} {n q:Nat} {M':Nat→Nat→Int} {C:Nat→Nat} {k f:Nat} {sgn:Int} (h:Red M n q M' C k sgn) (hf:k+f < n) (hne:rr M' C k (k+f) q≠0) :
  Red M n (q+1) (fun i=>M' (sw k (k+f) i)) (sC C k q) (k+1) (if f=0 then sgn else -sgn)∧
  dk (fun i=>M' (sw k (k+f) i)) (sC C k q) (k+1)=rr M' C k (k+f) q∧
  (∀i,i≠k→∀j,rr M' C k (k+f) q*rr M' C k (sw k (k+f) i) j-rr M' C k (sw k (k+f) i) q*rr M' C k (k+f) j=dk M' C k*rr (fun i=>M' (sw k (k+f) i)) (sC C k q) (k+1) i j)∧
  (∀j,rr (fun i=>M' (sw k (k+f) i)) (sC C k q) (k+1) k j=rr M' C k (k+f) j)∧dk (fun i=>M' (sw k (k+f) i)) (sC C k q) k=dk M' C k:=by
 have hM:∀i,i < k→(fun i=>M' (sw k (k+f) i)) i=M' i:=by
  intro i hi; show M' (sw k (k+f) i)=M' i; unfold sw; rw [if_neg (by omega),if_neg (by omega)]
 have hC:∀b,b < k→sC C k q b=C b:=by intro b hb; unfold sC; rw [if_neg (by omega)]
 have hCk:sC C k q k=q:=by simp [sC]
 have hdk:dk (fun i=>M' (sw k (k+f) i)) (sC C k q) k=dk M' C k:=dk_congr hM hC
 have hrr:∀i j,rr (fun i=>M' (sw k (k+f) i)) (sC C k q) k i j=rr M' C k (sw k (k+f) i) j:=by
  intro i j
  by_cases hi:i < k
  ·rw [rr_congr hM hC (hM i hi)]
   congr 1; unfold sw; rw [if_neg (by omega),if_neg (by omega)]
  ·have hs:¬sw k (k+f) i < k:=by unfold sw; split <;> (try split) <;> omega
   unfold rr
   rw [if_neg hi,if_neg hs,rho_congr2 hM hC]
 have hswk:sw k (k+f) k=k+f:=by simp [sw]
 have hd1:dk (fun i=>M' (sw k (k+f) i)) (sC C k q) (k+1)=rr M' C k (k+f) q:=by
  have e:=hrr k q
  rw [hswk] at e
  rw [dk_succ,hCk,←e]; unfold rr; rw [if_neg (by omega)]
 have hnz:dk (fun i=>M' (sw k (k+f) i)) (sC C k q) (k+1)≠0:=by rw [hd1]; exact hne
 have hCn:∀b,b < k→sC C k q b≠sC C k q k:=by
  intro b hb; rw [hC b hb,hCk]; have:=h.done.rise.2 b hb; omega
 have hstep:∀i,i≠k→∀j,rr M' C k (k+f) q*rr M' C k (sw k (k+f) i) j-rr M' C k (sw k (k+f) i) q*rr M' C k (k+f) j=dk M' C k*rr (fun i=>M' (sw k (k+f) i)) (sC C k q) (k+1) i j:=by
  intro i hi j
  have:=rr_step hnz hCn hi j
  rw [hrr,hrr,hrr,hrr,hCk,hswk,hdk] at this
  exact this
 refine ⟨⟨⟨hf |> fun h=>by omega,⟨fun a b hab hb=>?_,fun b hb=>?_⟩,hnz,fun i h1 h2 j hj=>?_⟩,fun i hi=>?_,fun i hi=>?_,?_,?_⟩,hd1,hstep,fun j=>?_,hdk⟩
 ·by_cases e:b=k
  ·subst e; rw [hCk,hC a hab]; exact h.done.rise.2 a hab
  ·rw [hC a (by omega),hC b (by omega)]; exact h.done.rise.1 a b hab (by omega)
 ·by_cases e:b=k
  ·subst e; rw [hCk]; omega
  ·rw [hC b (by omega)]; have:=h.done.rise.2 b (by omega); omega
 ·have hs:=hstep i (by omega) j
  have hk1:k≤sw k (k+f) i:=by unfold sw; split <;> (try split) <;> omega
  have hk2:sw k (k+f) i < n:=sw_lt (by omega) hf h2
  have hz:dk M' C k*rr (fun i=>M' (sw k (k+f) i)) (sC C k q) (k+1) i j=0:=by
   rw [←hs]
   by_cases e:j=q
   ·subst e; rw [Int.mul_comm]; omega
   ·rw [h.done.zero _ hk1 hk2 j (by omega),h.done.zero (k+f) (by omega) hf j (by omega)]; simp
  rcases Int.mul_eq_zero.1 hz with e | e
  ·exact absurd e h.done.nz
  ·exact e
 ·exact h.sub _ (sw_lt (by omega) hf hi)
 ·obtain ⟨i',h1,h2⟩:=h.sup i hi
  refine ⟨sw k (k+f) i',sw_lt (by omega) hf h1,?_⟩
  rw [h2]
  show M' i'=M' (sw k (k+f) (sw k (k+f) i'))
  congr 1
  unfold sw; grind
 ·by_cases e:f=0
  ·subst e
   rw [if_pos rfl,←h.sign]
   congr 1
   exact srows_congr fun i _=>by show M' (sw k (k+0) i)=M' i; rw [Nat.add_zero,sw_self]
  ·rw [if_neg e,od_sw (by omega) hf,h.sign]; grind
 ·have:=h.one
  by_cases e:f=0 <;> simp [e] <;> omega
 ·have hnk:dk (fun i=>M' (sw k (k+f) i)) (sC C k q) k≠0:=by rw [hdk]; exact h.done.nz
  rw [rr_own hnk hnz hCn j,hrr,hswk]
end Go.Proofs.YtdanomklbiidaaaGreatDoor.Lin

namespace Go.Proofs.YtdanomklbiidaaaGreatDoor
open Go.RowKit Lin
def Bd (M:Nat→Nat→Int) (n c:Nat):Prop:=∀q M' C k sgn,q≤c→Red M n q M' C (k+1) sgn→∀i,i < n→∀j,j < c→
 (dk M' C k*rr M' C (k+1) i j).natAbs≤9223372036854775807∧(rr M' C (k+1) i j).natAbs≤9223372036854775807
def LS (B R n c:Nat) (M:Nat→Nat→Int) (q:Nat) (w:World):Prop:=
 ∃M' C k sgn,Red M n q M' C k sgn∧∃go capo pv bs caps,RS B R n c (rr M' C k) ((List.range k).map fun b=>(C b:Int)) (dk M' C k) sgn go capo pv bs caps w
theorem range_congr {k q:Nat} {C:Nat→Nat} : ((List.range (k+1)).map fun b=>(sC C k q b:Int))=((List.range k).map fun b=>(C b:Int)) ++ [(q:Int)]:=by
 rw [List.range_succ,List.map_append]
 congr 1
 ·refine List.map_congr_left fun b hb=>?_
  have:b < k:=by simpa using hb
  unfold sC; rw [if_neg (by omega)]
 ·simp [sC]
theorem find_first {n k:Nat} (p:Nat→Int):(∀i,k≤i→i < n→p i=0)∨∃f,k+f < n∧p (k+f)≠0∧∀i,k≤i→i < k+f→p i=0:=by
 by_cases h:∀i,k≤i→i < n→p i=0
 ·exact Or.inl h
 ·refine Or.inr ?_
  have h':∃i,k≤i∧i < n∧p i≠0:=by
   apply Classical.byContradiction
   intro hn
   apply h
   intro i h1 h2
   apply Classical.byContradiction
   intro h3
   exact hn ⟨i,h1,h2,h3⟩
  have hf:∃f,k+f < n∧p (k+f)≠0:=by
   obtain ⟨i,h1,h2,h3⟩:=h'
   exact ⟨i-k,by omega,by rw [show k+(i-k)=i by omega]; exact h3⟩
  have ind:∀m f,f < m→k+f < n→p (k+f)≠0→∃f,k+f < n∧p (k+f)≠0∧∀i,k≤i→i < k+f→p i=0:=by
   intro m
   induction m with
   | zero=>intro f h; omega
   | succ m ih=>
    intro f hf h1 h2
    by_cases h3:∀i,k≤i→i < k+f→p i=0
    ·exact ⟨f,h1,h2,h3⟩
    ·have:∃i,k≤i∧i < k+f∧p i≠0:=by
      apply Classical.byContradiction
      intro hn
      apply h3
      intro i a1 a2
      apply Classical.byContradiction
      intro a3
      exact hn ⟨i,a1,a2,a3⟩
     obtain ⟨i,a1,a2,a3⟩:=this
     exact ih (i-k) (by omega) (by omega) (by rw [show k+(i-k)=i by omega]; exact a3)
  obtain ⟨f,h1,h2⟩:=hf
  exact ind (f+1) f (by omega) h1 h2
theorem pivot_step (B R n c q:Nat) (M:Nat→Nat→Int) (w:World) (h:LS B R n c M q w) (hB:B≤w.heap.size) (hBR:B≤R) (hn:n≤500) (hq:q < c) (hbd:Bd M n c) :
  Calls Tryz.prog 81 #[.pointer (some ⟨R,0,none⟩),.int .i64 q] w fun e w'=>e=.returned (.tuple #[])∧LS B R n c M (q+1) w'∧Below B w w':=by
 obtain ⟨M',C,k,sgn,hr,go,capo,pv,bs,caps,hs⟩:=h
 have hl:((List.range k).map fun b=>(C b:Int)).length=k:=by simp
 rcases find_first (n:=n) (k:=k) fun i=>rr M' C k i q with hz | ⟨f,h1,h2,h3⟩
 ·refine (pivot_none B R n c q _ _ _ _ go capo pv bs caps w hs hB hn (by rw [hl]; exact hr.done.kn) hq (by rw [hl]; exact hz)).mono ?_
  rintro e w' ⟨e1,e2,e3⟩
  exact ⟨e1,⟨M',C,k,sgn,hr.none hz,go,capo,pv,bs,caps,e2⟩,e3⟩
 ·obtain ⟨r1,r2,r3,r4,r5⟩:=hr.some h1 h2
  have hb:=hbd (q+1) _ _ _ _ (by omega) r1
  refine (pivot_some B R n c q f (rr M' C k) (rr (fun i=>M' (sw k (k+f) i)) (sC C k q) (k+1)) _ _ _ go capo pv bs caps w hs hB hBR hn (by rw [hl]; exact h1) hq (by rw [hl]; exact h3) (by rw [hl]; exact h2) hr.done.nz hr.one
   (by rw [hl]; exact fun i _ hi j _=>r3 i hi j) (by rw [hl]; exact fun i hi _ j hj=>by have:=hb i hi j hj; rw [r5] at this; exact this)).mono ?_
  rintro e w' ⟨e1,⟨pv',bs',caps',e2⟩,e3⟩
  refine ⟨e1,⟨_,_,_,_,r1,go,capo,pv',bs',caps',?_⟩,e3⟩
  rw [hl] at e2
  rw [range_congr,r2]
  refine e2.congr fun i _ j _=>?_
  by_cases e:i=k
  ·subst e; rw [if_pos rfl,r4]
  ·rw [if_neg e]
end Go.Proofs.YtdanomklbiidaaaGreatDoor
