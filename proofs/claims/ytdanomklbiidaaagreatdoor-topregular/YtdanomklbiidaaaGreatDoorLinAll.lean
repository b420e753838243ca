namespace Go.Proofs.YtdanomklbiidaaaGreatDoor.Lin
def sumN:Nat→(Nat→Int)→Int
 | 0,_=>0
 | n+1,f=>sumN n f+f n
theorem sumN_congr {n:Nat} {f g:Nat→Int} (h:∀i,i < n→f i=g i):sumN n f=sumN n g:=by
 induction n with
 | zero=>rfl
 | succ n ih=>simp only [sumN]; rw [ih (fun i hi=>h i (by omega)),h n (by omega)]
theorem sumN_zero {n:Nat} {f:Nat→Int} (h:∀i,i < n→f i=0):sumN n f=0:=by
 induction n with
 | zero=>rfl
 | succ n ih=>simp only [sumN]; rw [ih (fun i hi=>h i (by omega)),h n (by omega)]; rfl
theorem sumN_add (n:Nat) (f g:Nat→Int):sumN n (fun i=>f i+g i)=sumN n f+sumN n g:=by
 induction n with
 | zero=>rfl
 | succ n ih=>simp only [sumN]; rw [ih]; omega
theorem sumN_mul (n:Nat) (c:Int) (f:Nat→Int):sumN n (fun i=>c*f i)=c*sumN n f:=by
 induction n with
 | zero=>simp [sumN]
 | succ n ih=>simp only [sumN]; rw [ih,Int.mul_add]
theorem sumN_mul_right (n:Nat) (c:Int) (f:Nat→Int):sumN n (fun i=>f i*c)=sumN n f*c:=by
 rw [Int.mul_comm,←sumN_mul]; exact sumN_congr fun i _=>Int.mul_comm _ _
theorem sumN_neg (n:Nat) (f:Nat→Int):sumN n (fun i=>- f i)=- sumN n f:=by
 induction n with
 | zero=>rfl
 | succ n ih=>simp only [sumN]; rw [ih]; omega
theorem sumN_swap (n m:Nat) (f:Nat→Nat→Int):sumN n (fun i=>sumN m (fun j=>f i j))=sumN m (fun j=>sumN n (fun i=>f i j)):=by
 induction n with
 | zero=>simp only [sumN]; exact (sumN_zero fun _ _=>rfl).symm
 | succ n ih=>simp only [sumN]; rw [ih,sumN_add]
theorem sumN_anti {n:Nat} {f:Nat→Nat→Int} (h:∀i j,i < n→j < n→f i j=- f j i):sumN n (fun i=>sumN n (fun j=>f i j))=0:=by
 have e1:sumN n (fun i=>sumN n (fun j=>f i j))=sumN n (fun i=>sumN n (fun j=>- f j i)):=
  sumN_congr fun i hi=>sumN_congr fun j hj=>h i j hi hj
 have e2:sumN n (fun i=>sumN n (fun j=>- f j i))=- sumN n (fun i=>sumN n (fun j=>f i j)):=by
  rw [←sumN_neg]
  rw [sumN_swap n n (fun i j=>- f j i)]
  exact sumN_congr fun i _=>by rw [sumN_neg]
 omega
theorem sumN_one {n:Nat} {f:Nat→Int} {k:Nat} (hk:k < n) (h:∀i,i < n→i≠k→f i=0):sumN n f=f k:=by
 induction n with
 | zero=>omega
 | succ n ih=>
  simp only [sumN]
  by_cases e:k=n
  ·subst e; rw [sumN_zero fun i hi=>h i (by omega) (by omega)]; omega
  ·rw [ih (by omega) fun i hi=>h i (by omega),h n (by omega) (fun e'=>e e'.symm)]; omega
def sg:Nat→(Nat→Bool)→Nat→Int
 | 0,_,_=>1
 | n+1,U,k=>if k < n∧U n=true then-sg n U k else sg n U k
def ins (U:Nat→Bool) (k:Nat):Nat→Bool:=fun j=>if j=k then true else U j
theorem ins_comm (U:Nat→Bool) (k l:Nat):ins (ins U k) l=ins (ins U l) k:=by
 funext j; unfold ins; by_cases h1:j=l <;> by_cases h2:j=k <;> simp [h1,h2]
theorem sg_ins {n:Nat} {U:Nat→Bool} {k l:Nat} (hk:k < n) (hU:U k=false):sg n (ins U k) l=sg n U l*(if l < k then -1 else 1):=by
 induction n with
 | zero=>omega
 | succ n ih=>
  simp only [sg]
  by_cases e:k=n
  ·subst e
   have hsame:∀m,m≤k→sg m (ins U k) l=sg m U l:=by
    intro m hm
    induction m with
    | zero=>rfl
    | succ m im=>
     simp only [sg]
     rw [im (by omega)]
     have:ins U k m=U m:=by unfold ins; rw [if_neg (by omega)]
     rw [this]
   rw [hsame k (by omega)]
   have hi:ins U k k=true:=by simp [ins]
   rw [hi,hU]
   by_cases hl:l < k
   ·simp [hl]
   ·simp [hl]
  ·have hi:ins U k n=U n:=by unfold ins; rw [if_neg (by omega)]
   rw [hi,ih (by omega)]
   by_cases h:l < n∧U n=true
   ·rw [if_pos h,if_pos h,Int.neg_mul]
   ·rw [if_neg h,if_neg h]
def od (n:Nat):List (Nat→Int)→(Nat→Bool)→Int
 | [],_=>1
 | r :: rs,U=>sumN n fun k=>if U k then 0 else sg n U k*r k*od n rs (ins U k)
def lc (a:Int) (u:Nat→Int) (b:Int) (v:Nat→Int):Nat→Int:=fun k=>a*u k+b*v k
theorem od_lin (n:Nat) (A B:List (Nat→Int)) (a b:Int) (u v:Nat→Int) (U:Nat→Bool) :
  od n (A ++ lc a u b v :: B) U=a*od n (A ++ u :: B) U+b*od n (A ++ v :: B) U:=by
 induction A generalizing U with
 | nil=>
  simp only [List.nil_append,od]
  rw [←sumN_mul,←sumN_mul,←sumN_add]
  refine sumN_congr fun k _=>?_
  cases U k
  ·simp only [Bool.false_eq_true,if_false,lc]; grind
  ·simp
 | cons r A ih=>
  simp only [List.cons_append,od]
  rw [←sumN_mul,←sumN_mul,←sumN_add]
  refine sumN_congr fun k _=>?_
  cases U k
  ·simp only [Bool.false_eq_true,if_false]; rw [ih]; grind
  ·simp
theorem od_equal (n : Nat) (A B : List (Nat → Int)) (u : Nat → Int) (U : Nat → Bool) : od n (A ++ u :: u :: B) U = 0 := by
  induction A generalizing U with
  | nil =>
    simp only [List.nil_append, od]
    have e : ∀ k, (if U k = true then (0 : Int) else sg n U k * u k * sumN n fun l => if ins U k l = true then 0 else sg n (ins U k) l * u l * od n B (ins (ins U k) l)) =
        sumN n fun l => if U k = true ∨ U l = true ∨ k = l then 0 else sg n U k * u k * (sg n (ins U k) l * u l * od n B (ins (ins U k) l)) := by
      intro k
      by_cases hk : U k = true
      · simp only [hk, if_true]
        exact (sumN_zero fun l _ => by simp).symm
      · rw [if_neg hk, ← sumN_mul]
        refine sumN_congr fun l _ => ?_
        by_cases hl : U l = true ∨ k = l
        · have : ins U k l = true := by unfold ins; rcases hl with h | h
                                        · simp [h]
                                        · simp [h]
          rw [if_pos this, if_pos (Or.inr hl)]; simp
        · have : ¬ ins U k l = true := by
            unfold ins; rw [if_neg (fun e => hl (Or.inr e.symm))]; exact fun h => hl (Or.inl h)
          rw [if_neg this, if_neg (by intro h; rcases h with h | h; exact hk h; exact hl h)]
    rw [sumN_congr fun k _ => e k]
    refine sumN_anti fun k l hk hl => ?_
    by_cases h : U k = true ∨ U l = true ∨ k = l
    · rw [if_pos h, if_pos (by rcases h with h | h | h; exact Or.inr (Or.inl h); exact Or.inl h; exact Or.inr (Or.inr h.symm))]; rfl
    · rw [if_neg h, if_neg (by intro h'; apply h; rcases h' with h' | h' | h'; exact Or.inr (Or.inl h'); exact Or.inl h'; exact Or.inr (Or.inr h'.symm))]
      have hUk : U k = false := by cases e : U k; rfl; exact absurd (Or.inl e) h
      have hUl : U l = false := by cases e : U l; rfl; exact absurd (Or.inr (Or.inl e)) h
      have hkl : k ≠ l := fun e => h (Or.inr (Or.inr e))
      rw [sg_ins hk hUk, sg_ins hl hUl, ins_comm U k l]
      by_cases hlt : k < l
      · rw [if_neg (by omega : ¬ l < k), if_pos hlt]; grind
      · rw [if_pos (by omega : l < k), if_neg hlt]; grind
  | cons r A ih =>
    simp only [List.cons_append, od]
    refine sumN_zero fun k _ => ?_
    rw [ih]; simp
end Go.Proofs.YtdanomklbiidaaaGreatDoor.Lin
namespace Go.Proofs.YtdanomklbiidaaaGreatDoor.Lin
theorem od_congr {n:Nat} {A B:List (Nat→Int)} (hl:A.length=B.length) (h:∀i,i < A.length→∀k,k < n→(A.getD i (fun _=>0)) k=(B.getD i (fun _=>0)) k) (U:Nat→Bool):od n A U=od n B U:=by
 induction A generalizing B U with
 | nil=>cases B with
  | nil=>rfl
  | cons b B=>simp at hl
 | cons a A ih=>cases B with
  | nil=>simp at hl
  | cons b B=>
   simp only [od]
   refine sumN_congr fun k hk=>?_
   have h0:=h 0 (by simp) k hk
   simp only [List.getD_cons_zero] at h0
   rw [h0,ih (by simpa using hl) (fun i hi k hk=>by have:=h (i+1) (by simpa using hi) k hk; simpa using this)]
theorem od_swap (n:Nat) (A B:List (Nat→Int)) (u v:Nat→Int) (U:Nat→Bool):od n (A ++ u :: v :: B) U=- od n (A ++ v :: u :: B) U:=by
 have h:=od_equal n A B (lc 1 u 1 v) U
 have e1:=od_lin n A (lc 1 u 1 v :: B) 1 1 u v U
 have e2:=od_lin n (A ++ [u]) B 1 1 u v U
 have e3:=od_lin n (A ++ [v]) B 1 1 u v U
 simp only [List.append_assoc,List.cons_append,List.nil_append] at e2 e3
 have z1:=od_equal n A B u U
 have z2:=od_equal n A B v U
 rw [h] at e1
 rw [e2,e3,z1,z2] at e1
 omega
theorem od_two (n:Nat) (A B C:List (Nat→Int)) (u:Nat→Int) (U:Nat→Bool):od n (A ++ u :: (B ++ u :: C)) U=0:=by
 induction B generalizing A with
 | nil=>exact od_equal n A C u U
 | cons b B ih=>
  rw [List.cons_append,od_swap]
  have:=ih (A ++ [b])
  simp only [List.append_assoc,List.cons_append,List.nil_append] at this
  rw [this]; rfl
theorem od_change (n:Nat) (A B C:List (Nat→Int)) (u v:Nat→Int) (U:Nat→Bool):od n (A ++ u :: (B ++ v :: C)) U=- od n (A ++ v :: (B ++ u :: C)) U:=by
 have h:=od_two n A B C (lc 1 u 1 v) U
 have e1:=od_lin n A (B ++ lc 1 u 1 v :: C) 1 1 u v U
 have e2:=od_lin n (A ++ u :: B) C 1 1 u v U
 have e3:=od_lin n (A ++ v :: B) C 1 1 u v U
 simp only [List.append_assoc,List.cons_append] at e2 e3
 rw [h,e2,e3,od_two,od_two] at e1
 omega
def comb (m:Nat) (c:Nat→Int) (L:Nat→Nat→Int):Nat→Int:=fun k=>sumN m fun i=>c i*L i k
def row (L:List (Nat→Int)) (i:Nat):Nat→Int:=L.getD i fun _=>0
theorem set_split {L:List (Nat→Int)} {p:Nat} (hp:p < L.length) (x:Nat→Int):L.set p x=L.take p ++ x :: L.drop (p+1):=by
 rw [List.set_eq_take_append_cons_drop,if_pos hp]
theorem od_set_zero {n:Nat} {L:List (Nat→Int)} {p:Nat} (hp:p < L.length) (U:Nat→Bool) {x:Nat→Int} (hx:∀k,k < n→x k=0):od n (L.set p x) U=0:=by
 rw [set_split hp]
 have e:=od_lin n (L.take p) (L.drop (p+1)) 0 0 x x U
 simp only [Int.zero_mul,Int.add_zero] at e
 rw [←e]
 refine od_congr (by simp) (fun i hi k hk=>?_) U
 by_cases h:i=p
 ·subst h
  have hl:(L.take i).length=i:=by simp; omega
  have q:∀y:Nat→Int,(L.take i ++ y :: L.drop (i+1)).getD i (fun _=>0)=y:=by
   intro y; simp only [List.getD_eq_getElem?_getD]; rw [List.getElem?_append_right (by omega)]; simp [hl]
  rw [q,q,hx k hk]; simp [lc]
 ·have q:∀y z:Nat→Int,(L.take p ++ y :: L.drop (p+1)).getD i (fun _=>0)=(L.take p ++ z :: L.drop (p+1)).getD i (fun _=>0):=by
   intro y z
   rw [←set_split hp,←set_split hp]
   simp only [List.getD_eq_getElem?_getD]
   rw [List.getElem?_set_ne (by omega),List.getElem?_set_ne (by omega)]
  rw [q x (lc 0 x 0 x)]
theorem od_set_lin {n:Nat} {L:List (Nat→Int)} {p:Nat} (hp:p < L.length) (U:Nat→Bool) (a b:Int) (u v:Nat→Int) :
  od n (L.set p (lc a u b v)) U=a*od n (L.set p u) U+b*od n (L.set p v) U:=by
 rw [set_split hp,set_split hp,set_split hp]; exact od_lin n _ _ a b u v U
theorem split_two {L:List (Nat→Int)} {i p:Nat} (hip:i < p) (hp:p < L.length):∃A B C x y,L=A ++ x :: (B ++ y :: C)∧A.length=i∧i+1+B.length=p:=by
 refine ⟨L.take i,(L.drop (i+1)).take (p-(i+1)),L.drop (p+1),L[i],L[p],?_,by simp; omega,by simp; omega⟩
 have h1:L=L.take i ++ L[i] :: L.drop (i+1):=by rw [List.getElem_cons_drop,List.take_append_drop]
 have h2:L.drop (i+1)=(L.drop (i+1)).take (p-(i+1)) ++ L[p] :: L.drop (p+1):=by
  have q:=(List.take_append_drop (p-(i+1)) (L.drop (i+1))).symm
  rw [List.drop_drop,show i+1+(p-(i+1))=p by omega] at q
  rw [←List.getElem_cons_drop (h:=hp)] at q
  exact q
 rw [←h2]; exact h1
theorem set_at {A B:List (Nat→Int)} {x y:Nat→Int} {p:Nat} (h:A.length=p):(A ++ x :: B).set p y=A ++ y :: B:=by
 subst h; simp
theorem od_set_other {n:Nat} {L:List (Nat→Int)} {p i:Nat} (hp:p < L.length) (hi:i < L.length) (hne:i≠p) (U:Nat→Bool):od n (L.set p (row L i)) U=0:=by
 by_cases hip:i < p
 ·obtain ⟨A,B,C,x,y,rfl,h1,h2⟩:=split_two hip hp
  have hr:row (A ++ x :: (B ++ y :: C)) i=x:=by subst h1; simp [row]
  rw [hr]
  have e:A ++ x :: (B ++ y :: C)=(A ++ x :: B) ++ y :: C:=by simp
  rw [e,set_at (by simp; omega)]
  have:=od_two n A B C x U
  simpa using this
 ·obtain ⟨A,B,C,x,y,rfl,h1,h2⟩:=split_two (show p < i by omega) hi
  have hr:row (A ++ x :: (B ++ y :: C)) i=y:=by
   have e:A ++ x :: (B ++ y :: C)=(A ++ x :: B) ++ y :: C:=by simp
   rw [e]; unfold row; simp only [List.getD_eq_getElem?_getD]
   rw [List.getElem?_append_right (by simp; omega)]
   simp [show i-(A.length+(B.length+1))=0 by omega]
  rw [hr,set_at h1]
  exact od_two n A B C y U
theorem set_row {L:List (Nat→Int)} {p:Nat} (hp:p < L.length):L.set p (row L p)=L:=by
 have:row L p=L[p]:=by simp [row,hp]
 rw [this,List.set_getElem_self]
theorem od_set_comb {n m:Nat} {L:List (Nat→Int)} {p:Nat} (hp:p < L.length) (hm:m≤L.length) (c:Nat→Int) (U:Nat→Bool) :
  od n (L.set p (comb m c (row L))) U=(if p < m then c p else 0)*od n L U:=by
 induction m with
 | zero=>rw [od_set_zero hp U (x:=comb 0 c (row L)) (fun k _=>rfl)]; simp
 | succ m ih=>
  have e:comb (m+1) c (row L)=lc 1 (comb m c (row L)) (c m) (row L m):=by
   funext k; simp [comb,lc,sumN]
  rw [e,od_set_lin hp,ih (by omega)]
  by_cases h:m=p
  ·subst h; rw [set_row hp]; simp
  ·rw [od_set_other hp (by omega) h]
   by_cases h2:p < m
   ·simp [h2,show p < m+1 by omega]
   ·simp [h2,show ¬p < m+1 by omega]
theorem od_dep {n:Nat} {L:List (Nat→Int)} {c:Nat→Int} {p:Nat} (hp:p < L.length) (hc:c p≠0) (h:∀k,k < n→comb L.length c (row L) k=0) (U:Nat→Bool):od n L U=0:=by
 have e:=od_set_comb (n:=n) hp (Nat.le_refl _) c U
 rw [od_set_zero hp U h,if_pos hp] at e
 rcases Int.mul_eq_zero.1 e.symm with h0 | h0
 ·exact absurd h0 hc
 ·exact h0
def cu:Nat→(Nat→Bool)→Nat
 | 0,_=>0
 | n+1,U=>cu n U+if U n then 0 else 1
theorem cu_ins {n:Nat} {U:Nat→Bool} {k:Nat} (hk:k < n) (hU:U k=false):cu n (ins U k)+1=cu n U:=by
 induction n with
 | zero=>omega
 | succ n ih=>
  simp only [cu]
  by_cases e:k=n
  ·subst e
   have hs:∀m,m≤k→cu m (ins U k)=cu m U:=by
    intro m hm
    induction m with
    | zero=>rfl
    | succ m im=>
     have hi:ins U k m=U m:=by unfold ins; rw [if_neg (by omega)]
     simp only [cu]; rw [im (by omega),hi]
   rw [hs k (Nat.le_refl _),hU]
   simp [ins]
  ·have hi:ins U k n=U n:=by unfold ins; rw [if_neg (by omega)]
   rw [hi]
   have:=ih (by omega)
   omega
theorem cu_pos {n:Nat} {U:Nat→Bool} {k:Nat} (hk:k < n) (hU:U k=false):0 < cu n U:=by
 have:=cu_ins hk hU; omega
theorem cu_none (n:Nat):cu n (fun _=>false)=n:=by
 induction n with
 | zero=>rfl
 | succ n ih=>simp [cu,ih]
theorem od_col {n:Nat} {q:Nat} (hq:q < n) (L:List (Nat→Int)) (U:Nat→Bool) (hU:U q=false) (hL:∀r∈L,r q=0) (hc:cu n U≤L.length):od n L U=0:=by
 induction L generalizing U with
 | nil=>have:=cu_pos hq hU; simp at hc; omega
 | cons r L ih=>
  simp only [od]
  refine sumN_zero fun k hk=>?_
  cases hk':U k
  ·simp only [Bool.false_eq_true,if_false]
   by_cases e:k=q
   ·subst e; rw [hL r (by simp)]; simp
   ·rw [ih (ins U k) (by unfold ins; rw [if_neg (fun h=>e h.symm)]; exact hU) (fun r hr=>hL r (by simp [hr])) (by have:=cu_ins hk hk'; simp at hc; omega)]
    simp
  ·simp
theorem sg_last {n:Nat} (U:Nat→Bool) {k:Nat} (hk:n≤k+1):sg n U k=1:=by
 induction n with
 | zero=>rfl
 | succ n ih=>simp only [sg]; rw [if_neg (by omega),ih (by omega)]
theorem sg_free {n:Nat} {U:Nat→Bool} (hU:U n=false) (k:Nat):sg (n+1) U k=sg n U k:=by
 simp only [sg,hU]; simp
theorem od_end {n:Nat} (L:List (Nat→Int)) (v:Nat→Int) (hv:∀k,k < n→v k=0) (U:Nat→Bool) :
  od (n+1) (L ++ [v]) U=if U n then 0 else od n L U*v n:=by
 induction L generalizing U with
 | nil=>
  simp only [List.nil_append,od,sumN]
  rw [sumN_zero (fun k hk=>by rw [hv k hk]; simp)]
  rw [sg_last U (by omega)]
  cases U n <;> simp
 | cons r L ih=>
  simp only [List.cons_append,od]
  cases hU:U n
  ·simp only [Bool.false_eq_true,if_false]
   rw [sumN,ih,hU]
   simp only [Bool.false_eq_true,if_false]
   rw [if_pos (by simp [ins]),Int.mul_zero,Int.add_zero,←sumN_mul_right]
   refine sumN_congr fun k hk=>?_
   cases U k
   ·simp only [Bool.false_eq_true,if_false]
    rw [ih,if_neg (by unfold ins; rw [if_neg (by omega),hU]; simp),sg_free hU]
    simp only [Int.mul_assoc]
   ·simp
  ·simp only [if_true]
   refine sumN_zero fun k hk=>?_
   cases hk':U k
   ·rw [ih]
    have:ins U k n=true:=by unfold ins; by_cases e:n=k <;> simp [e,hU]
    rw [this]; simp
   ·simp
def Rising (m c:Nat) (C:Nat→Nat):Prop:=(∀i j,i < j→j < m→C i < C j)∧∀i,i < m→C i < c
def cols (L:List (Nat→Int)) (C:Nat→Nat):List (Nat→Int):=L.map fun r=>fun k=>r (C k)
def skp (p i:Nat):Nat:=if i < p then i else i+1
theorem erase_row {L:List (Nat→Int)} {p i:Nat} : row (L.eraseIdx p) i=row L (skp p i):=by
 unfold row skp
 simp only [List.getD_eq_getElem?_getD]
 by_cases h:i < p
 ·rw [List.getElem?_eraseIdx_of_lt h,if_pos h]
 ·rw [List.getElem?_eraseIdx_of_ge (by omega),if_neg h]
theorem sumN_skp {n : Nat} {f : Nat → Int} {p : Nat} (hp : p ≤ n) : sumN (n + 1) f = sumN n (fun i => f (skp p i)) + f p := by
  induction n with
  | zero => have : p = 0 := by omega
            subst this; simp [sumN]
  | succ n ih =>
    by_cases e : p = n + 1
    · subst e
      rw [sumN]
      congr 1
      exact sumN_congr fun i hi => by unfold skp; rw [if_pos (by omega)]
    · rw [sumN, ih (by omega), sumN]
      have : skp p n = n + 1 := by unfold skp; rw [if_neg (by omega)]
      rw [this]; omega
end Go.Proofs.YtdanomklbiidaaaGreatDoor.Lin
namespace Go.Proofs.YtdanomklbiidaaaGreatDoor.Lin
theorem od_scaled (n:Nat) (v:Nat→Int) (x:Int) (g:(Nat→Int)→Int) (Q:List (Nat→Int)) (P:List (Nat→Int)) (U:Nat→Bool) :
  od n (P ++ (Q.map fun r=>lc x r (- g r) v) ++ [v]) U=x ^ Q.length*od n (P ++ Q ++ [v]) U:=by
 induction Q generalizing P with
 | nil=>simp
 | cons q Q ih=>
  simp only [List.map_cons,List.length_cons]
  have e:=od_lin n P ((Q.map fun r=>lc x r (- g r) v) ++ [v]) x (- g q) q v U
  have z:=od_two n P (Q.map fun r=>lc x r (- g r) v) [] v U
  rw [z,Int.mul_zero,Int.add_zero] at e
  have h:=ih (P ++ [q])
  simp only [List.append_assoc,List.cons_append,List.nil_append] at e h ⊢
  rw [e,h,Int.pow_succ]; grind
theorem od_to_end (n:Nat) (A B:List (Nat→Int)) (v:Nat→Int) (U:Nat→Bool):od n (A ++ v :: B) U=0↔od n (A ++ B ++ [v]) U=0:=by
 induction B generalizing A with
 | nil=>simp
 | cons b B ih=>
  rw [od_swap]
  have h:=ih (A ++ [b])
  simp only [List.append_assoc,List.cons_append,List.nil_append] at h ⊢
  rw [←h]; omega
def unsk (p j:Nat):Nat:=if j < p then j else j-1
theorem unsk_skp (p i:Nat):unsk p (skp p i)=i:=by
 unfold unsk skp
 by_cases h:i < p
 ·simp [h]
 ·simp [h,show ¬i+1 < p by omega]
theorem skp_ne (p i:Nat):skp p i≠p:=by
 unfold skp; by_cases h:i < p <;> simp [h] <;> omega
theorem skp_lt {p i n:Nat} (hi:i < n):skp p i < n+1:=by
 unfold skp; by_cases h:i < p <;> simp [h] <;> omega
theorem row_map {L:List (Nat→Int)} {f:(Nat→Int)→(Nat→Int)} {i:Nat} (hi:i < L.length):row (L.map f) i=f (row L i):=by
 simp [row,hi]
theorem row_mem {L:List (Nat→Int)} {i:Nat} (hi:i < L.length):row L i∈L:=by
 have:row L i=L[i]:=by simp [row,hi]
 rw [this]; exact List.getElem_mem hi
theorem mem_row {L:List (Nat→Int)} {r:Nat→Int} (h:r∈L):∃i,i < L.length∧row L i=r:=by
 obtain ⟨i,hi,e⟩:=List.mem_iff_getElem.1 h
 exact ⟨i,hi,by simp [row,hi,e]⟩
theorem elim (c : Nat) : ∀ L : List (Nat → Int), (∃ C, Rising L.length c C ∧ od L.length (cols L C) (fun _ => false) ≠ 0) ∨
    (∃ d p, p < L.length ∧ d p ≠ 0 ∧ ∀ k, k < c → comb L.length d (row L) k = 0) := by
  induction c with
  | zero =>
    intro L
    by_cases hL : L.length = 0
    · left
      refine ⟨id, ⟨fun i j _ hj => by omega, fun i hi => by omega⟩, ?_⟩
      have : L = [] := List.eq_nil_of_length_eq_zero hL
      subst this
      simp [cols, od]
    · right; exact ⟨fun _ => 1, 0, by omega, by decide, fun k hk => by omega⟩
  | succ c ih =>
    intro L
    by_cases hz : ∀ r ∈ L, r c = 0
    · rcases ih L with ⟨C, hC, hod⟩ | ⟨d, p, hp, hd, hk⟩
      · exact Or.inl ⟨C, ⟨hC.1, fun i hi => by have := hC.2 i hi; omega⟩, hod⟩
      · refine Or.inr ⟨d, p, hp, hd, fun k hk' => ?_⟩
        by_cases e : k = c
        · subst e
          exact sumN_zero fun i hi => by rw [hz _ (row_mem hi), Int.mul_zero]
        · exact hk k (by omega)
    · have hz' : ∃ p, p < L.length ∧ row L p c ≠ 0 := by
        apply Classical.byContradiction
        intro hn
        apply hz
        intro r hr
        obtain ⟨i, hi, rfl⟩ := mem_row hr
        apply Classical.byContradiction
        intro h0
        exact hn ⟨i, hi, h0⟩
      obtain ⟨p, hp, hx⟩ := hz'
      obtain ⟨m, hm⟩ : ∃ m, L.length = m + 1 := ⟨L.length - 1, by omega⟩
      have hlen : ((L.eraseIdx p).map fun r => lc (row L p c) r (- r c) (row L p)).length = m := by
        rw [List.length_map, List.length_eraseIdx, if_pos hp]; omega
      have hle : (L.eraseIdx p).length = m := by rw [List.length_eraseIdx, if_pos hp]; omega
      have hrow : ∀ i, i < m → row ((L.eraseIdx p).map fun r => lc (row L p c) r (- r c) (row L p)) i = lc (row L p c) (row L (skp p i)) (- row L (skp p i) c) (row L p) := by
        intro i hi
        rw [row_map (by omega), erase_row]
      rcases ih ((L.eraseIdx p).map fun r => lc (row L p c) r (- r c) (row L p)) with ⟨C, hC, hod⟩ | ⟨d, q, hq, hd, hk⟩
      · left
        rw [hlen] at hC hod
        have hLL : L = L.take p ++ row L p :: L.drop (p + 1) := by
          rw [← set_split hp, set_row hp]
        have hER : L.eraseIdx p = L.take p ++ L.drop (p + 1) := List.eraseIdx_eq_take_drop_succ L p
        refine ⟨fun i => if i < m then C i else c, ⟨fun i j hij hj => ?_, fun i hi => ?_⟩, ?_⟩
        · rw [hm] at hj
          show (if i < m then C i else c) < (if j < m then C j else c)
          by_cases hjm : j < m
          · rw [if_pos (by omega), if_pos hjm]; exact hC.1 i j hij hjm
          · rw [if_pos (by omega), if_neg hjm]; exact hC.2 i (by omega)
        · show (if i < m then C i else c) < c + 1
          by_cases him : i < m
          · rw [if_pos him]; have := hC.2 i him; omega
          · rw [if_neg him]; omega
        · rw [hm]
          intro h0
          have e0 : cols L (fun i => if i < m then C i else c) = cols (L.take p) (fun i => if i < m then C i else c) ++ (fun k => row L p ((fun i => if i < m then C i else c) k)) :: cols (L.drop (p + 1)) (fun i => if i < m then C i else c) := by
            conv => lhs; rw [hLL]
            simp [cols]
          rw [e0, od_to_end] at h0
          have e1 : cols (L.take p) (fun i => if i < m then C i else c) ++ cols (L.drop (p + 1)) (fun i => if i < m then C i else c) = cols (L.eraseIdx p) (fun i => if i < m then C i else c) := by
            rw [hER]; simp [cols]
          rw [e1] at h0
          have e2 := od_scaled (m + 1) (fun k => row L p ((fun i => if i < m then C i else c) k)) (row L p c) (fun r => r m) (cols (L.eraseIdx p) (fun i => if i < m then C i else c)) [] (fun _ => false)
          rw [List.nil_append, List.nil_append, h0, Int.mul_zero] at e2
          have e3 : (cols (L.eraseIdx p) (fun i => if i < m then C i else c)).map (fun r => lc (row L p c) r (- r m) (fun k => row L p ((fun i => if i < m then C i else c) k))) =
              cols ((L.eraseIdx p).map fun r => lc (row L p c) r (- r c) (row L p)) (fun i => if i < m then C i else c) := by
            simp [cols, lc, Function.comp_def]
            intro a _
            funext k
            rfl
          rw [e3] at e2
          -- the last row in two parts
          have e4 : (fun k => row L p ((fun i => if i < m then C i else c) k)) = lc 1 (fun k => if k < m then row L p (C k) else 0) 1 (fun k => if k < m then 0 else row L p c) := by
            funext k; simp only [lc]; by_cases hk : k < m <;> simp [hk]
          have e5 := od_lin (m + 1) (cols ((L.eraseIdx p).map fun r => lc (row L p c) r (- r c) (row L p)) (fun i => if i < m then C i else c)) [] 1 1 (fun k => if k < m then row L p (C k) else 0) (fun k => if k < m then 0 else row L p c) (fun _ => false)
          rw [← e4, e2] at e5
          have hvan : ∀ r ∈ cols ((L.eraseIdx p).map fun r => lc (row L p c) r (- r c) (row L p)) (fun i => if i < m then C i else c), r m = 0 := by
            intro r hr
            simp only [cols, List.mem_map] at hr
            obtain ⟨a, ⟨b, hb, rfl⟩, rfl⟩ := hr
            simp [lc]; grind
          have e6 := od_col (n := m + 1) (q := m) (by omega) (cols ((L.eraseIdx p).map fun r => lc (row L p c) r (- r c) (row L p)) (fun i => if i < m then C i else c) ++ [fun k => if k < m then row L p (C k) else 0]) (fun _ => false) rfl
            (by intro r hr
                rcases List.mem_append.1 hr with hr | hr
                · exact hvan r hr
                · simp at hr; subst hr; simp)
            (by rw [cu_none]; simp [cols, hle])
          have e7 := od_end (n := m) (cols ((L.eraseIdx p).map fun r => lc (row L p c) r (- r c) (row L p)) (fun i => if i < m then C i else c)) (fun k => if k < m then 0 else row L p c) (fun k hk => by simp [hk]) (fun _ => false)
          rw [e6, e7] at e5
          have e8 : od m (cols ((L.eraseIdx p).map fun r => lc (row L p c) r (- r c) (row L p)) (fun i => if i < m then C i else c)) (fun _ => false) = od m (cols ((L.eraseIdx p).map fun r => lc (row L p c) r (- r c) (row L p)) C) (fun _ => false) := by
            refine od_congr (by simp [cols]) (fun i hi k hk => ?_) _
            have hi' : i < (L.eraseIdx p).length := by simpa [cols] using hi
            simp [cols, hi', hk]
          rw [e8] at e5
          simp only [Bool.false_eq_true, if_false, Int.mul_zero, Int.one_mul, Int.zero_add, Nat.lt_irrefl] at e5
          rcases Int.mul_eq_zero.1 e5.symm with h | h
          · exact hod h
          · exact hx h
      · right
        rw [hlen] at hq hk
        refine ⟨fun j => if j = p then - sumN m (fun i => d i * row L (skp p i) c) else row L p c * d (unsk p j), skp p q, ?_, ?_, fun k _ => ?_⟩
        · rw [hm]; exact skp_lt hq
        · simp only [skp_ne, if_false, unsk_skp]
          exact Int.mul_ne_zero hx hd
        · rw [hm]
          have e1 : comb (m + 1) (fun j => if j = p then - sumN m (fun i => d i * row L (skp p i) c) else row L p c * d (unsk p j)) (row L) k =
              comb m d (row ((L.eraseIdx p).map fun r => lc (row L p c) r (- r c) (row L p))) k := by
            unfold comb
            rw [sumN_skp (p := p) (by omega)]
            simp only [if_true, skp_ne, if_false, unsk_skp]
            rw [Int.neg_mul, ← sumN_mul_right, ← sumN_neg, ← sumN_add]
            refine sumN_congr fun i hi => ?_
            rw [hrow i hi]; simp only [lc]; grind
          rw [e1]
          by_cases e : k = c
          · subst e
            refine sumN_zero fun i hi => ?_
            rw [hrow i hi]; simp only [lc]; grind
          · exact hk k (by omega)
theorem steinitz {c m t:Nat} {A B:Nat→Nat→Int} {e:Nat→Int} {f:Nat→Nat→Int} (hmt:t < m) (he:∀i,i < m→e i≠0) (h:∀i,i < m→∀k,k < c→e i*A i k=comb t (f i) B k) :
  ∃d p,p < m∧d p≠0∧∀k,k < c→comb m d A k=0:=by
 have hl:((List.range m).map f).length=m:=by simp
 have hr:∀i,i < m→row ((List.range m).map f) i=f i:=by
  intro i hi; simp [row,hi]
 rcases elim t ((List.range m).map f) with ⟨C,hC,_⟩ | ⟨d,p,hp,hd,hk⟩
 ·exfalso
  rw [hl] at hC
  have:∀i,i < m→i≤C i:=by
   intro i
   induction i with
   | zero=>intro _; omega
   | succ i ih=>intro hi; have:=ih (by omega); have:=hC.1 i (i+1) (by omega) hi; omega
  have h1:=this (m-1) (by omega)
  have h2:=hC.2 (m-1) (by omega)
  omega
 ·rw [hl] at hp hk
  refine ⟨fun i=>d i*e i,p,hp,Int.mul_ne_zero hd (he p hp),fun k hkc=>?_⟩
  have e1:comb m (fun i=>d i*e i) A k=sumN m (fun i=>sumN t (fun a=>d i*(f i a*B a k))):=by
   refine sumN_congr fun i hi=>?_
   rw [Int.mul_assoc,h i hi k hkc]
   unfold comb; rw [←sumN_mul]
  rw [e1,sumN_swap]
  refine sumN_zero fun a ha=>?_
  have e2:=hk a ha
  unfold comb at e2
  have e3:sumN m (fun i=>d i*(f i a*B a k))=sumN m (fun i=>d i*row ((List.range m).map f) i a)*B a k:=by
   rw [←sumN_mul_right]
   exact sumN_congr fun i hi=>by rw [hr i hi,Int.mul_assoc]
  rw [e3,e2,Int.zero_mul]
end Go.Proofs.YtdanomklbiidaaaGreatDoor.Lin
namespace Go.Proofs.YtdanomklbiidaaaGreatDoor.Lin
def posn (C:Nat→Nat) (k j:Nat):Nat→Nat:=fun b=>if b < k then C b else j
def srows (M:Nat→Nat→Int) (k:Nat):List (Nat→Int):=(List.range k).map M
def rho (M:Nat→Nat→Int) (C:Nat→Nat) (k:Nat) (u:Nat→Int) (j:Nat):Int:=od (k+1) (cols (srows M k ++ [u]) (posn C k j)) fun _=>false
def dk (M:Nat→Nat→Int) (C:Nat→Nat) (k:Nat):Int:=od k (cols (srows M k) C) fun _=>false
theorem cols_append (A B:List (Nat→Int)) (C:Nat→Nat):cols (A ++ B) C=cols A C ++ cols B C:=by simp [cols]
theorem cols_length (A:List (Nat→Int)) (C:Nat→Nat):(cols A C).length=A.length:=by simp [cols]
theorem srows_length (M:Nat→Nat→Int) (k:Nat):(srows M k).length=k:=by simp [srows]
theorem srows_row {M:Nat→Nat→Int} {k a:Nat} (h:a < k):row (srows M k) a=M a:=by simp [row,srows,h]
theorem cols_row {L:List (Nat→Int)} {C:Nat→Nat} {a:Nat} (h:a < L.length):row (cols L C) a=fun k=>row L a (C k):=by
 unfold cols; rw [row_map h]
theorem rho_lin (M:Nat→Nat→Int) (C:Nat→Nat) (k:Nat) (a b:Int) (u v:Nat→Int) (j:Nat):rho M C k (lc a u b v) j=a*rho M C k u j+b*rho M C k v j:=by
 have h:=od_lin (k+1) (cols (srows M k) (posn C k j)) [] a b (fun i=>u (posn C k j i)) (fun i=>v (posn C k j i)) (fun _=>false)
 unfold rho
 rw [cols_append,cols_append,cols_append]
 exact h
theorem rho_zero {M:Nat→Nat→Int} {C:Nat→Nat} {k:Nat} {u:Nat→Int} (h:∀b,b < k→u (C b)=0) (j:Nat):rho M C k u j=dk M C k*u j:=by
 unfold rho dk
 rw [cols_append]
 have e:=od_end (n:=k) (cols (srows M k) (posn C k j)) (fun i=>u (posn C k j i)) (fun b hb=>by unfold posn; rw [if_pos hb]; exact h b hb) (fun _=>false)
 have e1:cols [u] (posn C k j)=[fun i=>u (posn C k j i)]:=rfl
 rw [e1,e]
 have e2:od k (cols (srows M k) (posn C k j)) (fun _=>false)=od k (cols (srows M k) C) (fun _=>false):=by
  refine od_congr (by simp [cols]) (fun i hi b hb=>?_) _
  have hi':i < (srows M k).length:=by simpa [cols] using hi
  simp [cols,hi',posn,hb]
 rw [e2]
 simp [posn]
def cf (k a:Nat):Nat→Int:=fun i=>if i=k then 1 else if i=a then -1 else 0
theorem rho_own {M:Nat→Nat→Int} {C:Nat→Nat} {k a:Nat} (ha:a < k) (j:Nat):rho M C k (M a) j=0:=by
 unfold rho
 have hl:(cols (srows M k ++ [M a]) (posn C k j)).length=k+1:=by simp [cols,srows_length]
 refine od_dep (p:=k) (c:=cf k a) (by omega) (by simp [cf]) (fun b hb=>?_) _
 rw [hl]
 unfold comb
 rw [sumN]
 have hk:row (cols (srows M k ++ [M a]) (posn C k j)) k b=M a (posn C k j b):=by
  rw [cols_row (by simp [srows_length])]
  simp [row,srows]
 have hi:∀i,i < k→row (cols (srows M k ++ [M a]) (posn C k j)) i b=M i (posn C k j b):=by
  intro i hi
  rw [cols_row (by simp [srows_length]; omega)]
  simp only [row,List.getD_eq_getElem?_getD]
  rw [List.getElem?_append_left (by simpa [srows_length] using hi)]
  simp [srows,hi]
 have c1:cf k a a=-1:=by unfold cf; rw [if_neg (by omega),if_pos rfl]
 have c2:cf k a k=1:=by unfold cf; rw [if_pos rfl]
 rw [sumN_one (k:=a) ha (fun i hi' hne=>by
  have c0:cf k a i=0:=by unfold cf; rw [if_neg (by omega),if_neg hne]
  rw [c0,Int.zero_mul])]
 rw [hk,hi a ha,c1,c2]
 omega
theorem rho_comb (M:Nat→Nat→Int) (C:Nat→Nat) (k:Nat) (m:Nat) (c:Nat→Int) (L:Nat→Nat→Int) (j:Nat):rho M C k (comb m c L) j=sumN m fun i=>c i*rho M C k (L i) j:=by
 induction m with
 | zero=>
  have h:=rho_zero (M:=M) (C:=C) (k:=k) (u:=comb 0 c L) (fun b _=>rfl) j
  rw [h]; simp [comb,sumN]
 | succ m ih=>
  have e:comb (m+1) c L=lc 1 (comb m c L) (c m) (L m):=by funext x; simp [comb,lc,sumN]
  rw [e,rho_lin,ih]; simp [sumN]
theorem rho_solve {M:Nat→Nat→Int} {C:Nat→Nat} {k:Nat} (hD:dk M C k≠0) (u:Nat→Int) :
  ∃e l,e≠0∧(∀b,b < k→e*u (C b)=comb k l M (C b))∧∀j,e*rho M C k u j=dk M C k*(e*u j-comb k l M j):=by
 -- k+1 vectors of k numbers
 have hs:=steinitz (c:=k) (m:=k+1) (t:=k) (A:=fun i b=>if i < k then M i (C b) else u (C b)) (B:=fun a b=>if a=b then 1 else 0) (e:=fun _=>1)
  (f:=fun i a=>if i < k then M i (C a) else u (C a)) (by omega) (fun _ _=>by decide) (fun i _ b hb=>by
   unfold comb
   rw [sumN_one (k:=b) hb (fun a _ hne=>by simp [hne])]
   simp)
 obtain ⟨d,p,hp,hd,hk⟩:=hs
 have hkk:∀b,b < k→comb k d M (C b)+d k*u (C b)=0:=by
  intro b hb
  have:=hk b hb
  unfold comb at this ⊢
  rw [sumN] at this
  rw [sumN_congr (g:=fun i=>d i*M i (C b)) (fun i hi=>by simp [hi])] at this
  simpa using this
 have hdk:d k≠0:=by
  intro h0
  apply hD
  have hpk:p < k:=by
   by_cases e:p=k
   ·subst e; exact absurd h0 hd
   ·omega
  unfold dk
  refine od_dep (p:=p) (c:=d) (by simpa [cols,srows_length] using hpk) hd (fun b hb=>?_) _
  have h1:=hkk b hb
  rw [h0,Int.zero_mul,Int.add_zero] at h1
  rw [cols_length,srows_length]
  unfold comb at h1 ⊢
  rw [←h1]
  refine sumN_congr fun i hi=>?_
  rw [cols_row (by simpa [srows_length] using hi),srows_row hi]
 refine ⟨d k,fun i=>- d i,hdk,fun b hb=>?_,fun j=>?_⟩
 ·have h1:=hkk b hb
  have h2:comb k (fun i=>- d i) M (C b)=- comb k d M (C b):=by
   unfold comb; rw [←sumN_neg]; exact sumN_congr fun i _=>by rw [Int.neg_mul]
  omega
 ·have h2:∀x,comb k (fun i=>- d i) M x=- comb k d M x:=by
   intro x; unfold comb; rw [←sumN_neg]; exact sumN_congr fun i _=>by rw [Int.neg_mul]
  have hw:∀b,b < k→(lc (d k) u 1 (comb k d M)) (C b)=0:=by
   intro b hb; have:=hkk b hb; simp only [lc]; omega
  have h3:=rho_zero (M:=M) hw j
  rw [rho_lin,rho_comb,sumN_zero (fun i hi=>by rw [rho_own hi,Int.mul_zero])] at h3
  rw [h2]
  simp only [lc] at h3
  rw [show d k*u j - - comb k d M j=d k*u j+1*comb k d M j by omega,←h3]
  omega
theorem rho_at {M:Nat→Nat→Int} {C:Nat→Nat} {k:Nat} (hD:dk M C k≠0) (u:Nat→Int) {b:Nat} (hb:b < k):rho M C k u (C b)=0:=by
 obtain ⟨e,l,he,h1,h2⟩:=rho_solve hD u
 have:=h2 (C b)
 rw [h1 b hb,Int.sub_self,Int.mul_zero] at this
 rcases Int.mul_eq_zero.1 this with h | h
 ·exact absurd h he
 ·exact h
theorem dk_succ (M:Nat→Nat→Int) (C:Nat→Nat) (k:Nat):dk M C (k+1)=rho M C k (M k) (C k):=by
 unfold dk rho
 have e:srows M (k+1)=srows M k ++ [M k]:=by simp [srows,List.range_succ]
 rw [e]
 refine od_congr (by simp [cols]) (fun i hi b hb=>?_) _
 have hi':i < (srows M k ++ [M k]).length:=by simpa [cols] using hi
 have:C b=posn C k (C k) b:=by
  unfold posn
  by_cases h:b < k
  ·rw [if_pos h]
  ·rw [if_neg h,show b=k by omega]
 have g:∀(K:Nat→Nat),(cols (srows M k ++ [M k]) K).getD i (fun _=>0)=fun x=>((srows M k ++ [M k]).getD i (fun _=>0)) (K x):=by
  intro K; exact cols_row hi'
 rw [g,g]
 exact congrArg _ this
theorem sylvester {M:Nat→Nat→Int} {C:Nat→Nat} {k:Nat} (hD:dk M C (k+1)≠0) (u:Nat→Int) (j:Nat) :
  dk M C k*rho M C (k+1) u j=dk M C (k+1)*rho M C k u j-rho M C k u (C k)*rho M C k (M k) j:=by
 obtain ⟨e,l,he,h1,h2⟩:=rho_solve hD u
 have hw:∀x,comb (k+1) l M x=comb k l M x+l k*M k x:=by intro x; simp [comb,sumN]
 have hv:∀b,b < k→(lc 1 (lc e u (-1) (comb k l M)) (- l k) (M k)) (C b)=0:=by
  intro b hb
  have q1:=h1 b (by omega)
  have q2:=hw (C b)
  simp only [lc]
  grind
 have hz:∀x,e*rho M C k u x-l k*rho M C k (M k) x=dk M C k*(e*u x-comb (k+1) l M x):=by
  intro x
  have h3:=rho_zero (M:=M) hv x
  rw [rho_lin,rho_lin,rho_comb,sumN_zero (fun i hi=>by rw [rho_own hi,Int.mul_zero])] at h3
  have h4:(lc 1 (lc e u (-1) (comb k l M)) (- l k) (M k)) x=e*u x-comb (k+1) l M x:=by
   simp only [lc]; rw [hw x]; grind
  rw [h4] at h3
  rw [←h3]; grind
 have h5:=hz (C k)
 rw [h1 k (by omega),Int.sub_self,Int.mul_zero,←dk_succ] at h5
 have h6:=hz j
 have h7:=h2 j
 -- e*(D_k rho')=D_{k+1} (D_k w)=D_{k+1} (e rho u j-l_k rho p j)
 have h8:e*(dk M C k*rho M C (k+1) u j)=e*(dk M C (k+1)*rho M C k u j-rho M C k u (C k)*rho M C k (M k) j):=by
  have a1:e*(dk M C k*rho M C (k+1) u j)=dk M C k*(e*rho M C (k+1) u j):=by grind
  rw [a1,h7]
  have a2:dk M C k*(dk M C (k+1)*(e*u j-comb (k+1) l M j))=dk M C (k+1)*(dk M C k*(e*u j-comb (k+1) l M j)):=by grind
  rw [a2,←h6]
  have a3:e*rho M C k u (C k)=l k*dk M C (k+1):=by omega
  grind
 exact Int.eq_of_mul_eq_mul_left he h8
def unit (q:Nat):Nat→Int:=fun j=>if j=q then 1 else 0
def rr (M:Nat→Nat→Int) (C:Nat→Nat) (k i j:Nat):Int:=
 if i < k then dk M C k*unit (C i) j-rho M C k (unit (C i)) j else rho M C k (M i) j
theorem rr_zero (M:Nat→Nat→Int) (C:Nat→Nat) (i j:Nat):rr M C 0 i j=M i j:=by
 unfold rr
 rw [if_neg (by omega),rho_zero (fun b hb=>by omega)]
 simp [dk,cols,srows,od]
theorem rr_step {M:Nat→Nat→Int} {C:Nat→Nat} {k i:Nat} (hD:dk M C (k+1)≠0) (hC:∀b,b < k→C b≠C k) (hi:i≠k) (j:Nat) :
  rr M C k k (C k)*rr M C k i j-rr M C k i (C k)*rr M C k k j=dk M C k*rr M C (k+1) i j:=by
 have hkk:∀x,rr M C k k x=rho M C k (M k) x:=by intro x; unfold rr; rw [if_neg (by omega)]
 rw [hkk,hkk,←dk_succ]
 by_cases h:i < k
 ·have e1:∀x,rr M C k i x=dk M C k*unit (C i) x-rho M C k (unit (C i)) x:=by intro x; unfold rr; rw [if_pos h]
  have e2:rr M C (k+1) i j=dk M C (k+1)*unit (C i) j-rho M C (k+1) (unit (C i)) j:=by unfold rr; rw [if_pos (by omega)]
  have e3:unit (C i) (C k)=0:=by unfold unit; rw [if_neg (fun e=>hC i h e.symm)]
  rw [e1,e1,e2,e3,Int.mul_sub (dk M C k),sylvester hD]
  grind
 ·have e1:∀x,rr M C k i x=rho M C k (M i) x:=by intro x; unfold rr; rw [if_neg h]
  have e2:rr M C (k+1) i j=rho M C (k+1) (M i) j:=by unfold rr; rw [if_neg (by omega)]
  rw [e1,e1,e2,sylvester hD]
theorem rr_own {M:Nat→Nat→Int} {C:Nat→Nat} {k:Nat} (hk:dk M C k≠0) (hD:dk M C (k+1)≠0) (hC:∀b,b < k→C b≠C k) (j:Nat) :
  rr M C (k+1) k j=rr M C k k j:=by
 have e1:rr M C k k j=rho M C k (M k) j:=by unfold rr; rw [if_neg (by omega)]
 have e2:rr M C (k+1) k j=dk M C (k+1)*unit (C k) j-rho M C (k+1) (unit (C k)) j:=by unfold rr; rw [if_pos (by omega)]
 have hu:∀x,rho M C k (unit (C k)) x=dk M C k*unit (C k) x:=fun x=>rho_zero (fun b hb=>by unfold unit; rw [if_neg (hC b hb)]) x
 have hs:=sylvester hD (unit (C k)) j
 rw [hu,hu] at hs
 have e3:unit (C k) (C k)=1:=by simp [unit]
 rw [e3] at hs
 have e4:dk M C k*(dk M C (k+1)*unit (C k) j-rho M C (k+1) (unit (C k)) j)=dk M C k*rho M C k (M k) j:=by
  rw [Int.mul_sub,hs]; grind
 rw [e1,e2]
 exact Int.eq_of_mul_eq_mul_left hk e4
end Go.Proofs.YtdanomklbiidaaaGreatDoor.Lin
namespace Go.Proofs.YtdanomklbiidaaaGreatDoor.Lin
def fb (B:Nat):Nat→Nat
 | 0=>1
 | m+1=>(m+1)*B*fb B m
theorem sum_bd {n b:Nat} {U:Nat→Bool} {g:Nat→Int} (h:∀k,k < n→U k=false→(g k).natAbs≤b):(sumN n fun k=>if U k then 0 else g k).natAbs≤cu n U*b:=by
 induction n with
 | zero=>simp [sumN,cu]
 | succ n ih=>
  simp only [sumN,cu]
  have h1:=ih fun k hk=>h k (by omega)
  cases hU:U n
  ·have h2:=h n (by omega) hU
   have h3:=Int.natAbs_add_le (sumN n fun k=>if U k then 0 else g k) (g n)
   simp only [Bool.false_eq_true,if_false]
   rw [Nat.add_mul]; omega
  ·simpa using h1
theorem sg_abs (n:Nat) (U:Nat→Bool) (k:Nat):(sg n U k).natAbs=1:=by
 induction n with
 | zero=>rfl
 | succ n ih=>simp only [sg]; by_cases h:k < n∧U n=true <;> simp [h,ih]
theorem od_bd {n B:Nat} (L:List (Nat→Int)) (U:Nat→Bool) (hB:∀r∈L,∀k,k < n→(r k).natAbs≤B) (hc:cu n U≤L.length):(od n L U).natAbs≤fb B L.length:=by
 induction L generalizing U with
 | nil=>simp [od,fb]
 | cons r L ih=>
  simp only [od,List.length_cons,fb]
  refine Nat.le_trans (sum_bd (b:=B*fb B L.length) fun k hk hU=>?_) ?_
  ·rw [Int.natAbs_mul,Int.natAbs_mul,sg_abs,Nat.one_mul]
   exact Nat.mul_le_mul (hB r (by simp) k hk) (ih _ (fun r hr=>hB r (by simp [hr])) (by have:=cu_ins hk hU; simp at hc; omega))
  ·rw [Nat.mul_assoc]; exact Nat.mul_le_mul_right _ (by simpa using hc)
theorem dk_bd {B k:Nat} {M:Nat→Nat→Int} {C:Nat→Nat} (hB:∀i,i < k→∀b,b < k→(M i (C b)).natAbs≤B):(dk M C k).natAbs≤fb B k:=by
 unfold dk
 have h:=od_bd (n:=k) (B:=B) (cols (srows M k) C) (fun _=>false) (fun r hr b hb=>by
  simp only [cols,srows,List.mem_map,List.mem_range] at hr
  obtain ⟨_,⟨i,hi,rfl⟩,rfl⟩:=hr
  exact hB i hi b hb) (by rw [cu_none,cols_length,srows_length]; exact Nat.le_refl _)
 rwa [cols_length,srows_length] at h
theorem rho_bd {B k j:Nat} {M:Nat→Nat→Int} {C:Nat→Nat} {u:Nat→Int} (hB:∀i,i < k→∀b,b < k→(M i (C b)).natAbs≤B) (hj:∀i,i < k→(M i j).natAbs≤B)
  (hu:∀b,b < k→(u (C b)).natAbs≤B) (huj:(u j).natAbs≤B):(rho M C k u j).natAbs≤fb B (k+1):=by
 unfold rho
 have h:=od_bd (n:=k+1) (B:=B) (cols (srows M k ++ [u]) (posn C k j)) (fun _=>false) (fun r hr b hb=>by
  simp only [cols,srows,List.mem_map,List.mem_append,List.mem_range,List.mem_singleton] at hr
  obtain ⟨r',hr',rfl⟩:=hr
  show (r' (posn C k j b)).natAbs≤B
  unfold posn
  by_cases hbk:b < k
  ·rw [if_pos hbk]
   rcases hr' with ⟨i,hi,rfl⟩ | rfl
   ·exact hB i hi b hbk
   ·exact hu b hbk
  ·rw [if_neg hbk]
   rcases hr' with ⟨i,hi,rfl⟩ | rfl
   ·exact hj i hi
   ·exact huj) (by rw [cu_none,cols_length,List.length_append,srows_length]; exact Nat.le_refl _)
 rwa [cols_length,List.length_append,srows_length] at h
theorem rr_bd {B n c k i j:Nat} {M:Nat→Nat→Int} {C:Nat→Nat} (hB1:1≤B) (hB:∀i,i < n→∀j,j < c→(M i j).natAbs≤B) (hk:k≤n) (hC:∀b,b < k→C b < c) (hi:i < n) (hj:j < c) :
  (rr M C k i j).natAbs≤fb B k+fb B (k+1):=by
 have hu:∀q x,(unit q x).natAbs≤1:=by intro q x; unfold unit; by_cases h:x=q <;> simp [h]
 unfold rr
 by_cases h:i < k
 ·rw [if_pos h]
  have h1:=dk_bd (B:=B) (k:=k) (M:=M) (C:=C) fun i hi b hb=>hB i (by omega) _ (hC b hb)
  have h2:=rho_bd (B:=B) (k:=k) (j:=j) (M:=M) (C:=C) (u:=unit (C i)) (fun i hi b hb=>hB i (by omega) _ (hC b hb)) (fun i hi=>hB i (by omega) j hj)
   (fun b _=>Nat.le_trans (hu _ _) hB1) (Nat.le_trans (hu _ _) hB1)
  have h3:(dk M C k*unit (C i) j).natAbs≤fb B k:=by
   rw [Int.natAbs_mul]
   exact Nat.le_trans (Nat.mul_le_mul h1 (hu _ _)) (by simp)
  omega
 ·rw [if_neg h]
  have h2:=rho_bd (B:=B) (k:=k) (j:=j) (M:=M) (C:=C) (u:=M i) (fun i hi b hb=>hB i (by omega) _ (hC b hb)) (fun i hi=>hB i (by omega) j hj)
   (fun b hb=>hB i hi _ (hC b hb)) (hB i hi j hj)
  omega
structure Done (M:Nat→Nat→Int) (n c k:Nat) (C:Nat→Nat):Prop where
 kn:k≤n
 rise:Rising k c C
 nz:dk M C k≠0
 zero:∀i,k≤i→i < n→∀j,j < c→rr M C k i j=0
theorem rr_pivot {M:Nat→Nat→Int} {k:Nat} {C:Nat→Nat} (hD:dk M C k≠0) (hC:∀a b,a < b→b < k→C a < C b) {a b:Nat} (ha:a < k) (hb:b < k):rr M C k a (C b)=if a=b then dk M C k else 0:=by
 unfold rr
 rw [if_pos ha,rho_at hD _ hb]
 by_cases e:a=b
 ·subst e; simp [unit]
 ·have:C b≠C a:=by
   rcases Nat.lt_or_gt_of_ne e with h | h
   ·have:=hC a b h hb; omega
   ·have:=hC b a h ha; omega
  simp [unit,e,this]
theorem rr_span {M:Nat→Nat→Int} {k:Nat} {C:Nat→Nat} (hC:∀a b,a < b→b < k→C a < C b) (u:Nat→Int) (j:Nat) :
  dk M C k*u j-rho M C k u j=comb k (fun a=>u (C a)) (rr M C k) j:=by
 have hw:∀b,b < k→(lc 1 u (-1) (comb k (fun a=>u (C a)) (fun a=>unit (C a)))) (C b)=0:=by
  intro b hb
  have e:comb k (fun a=>u (C a)) (fun a=>unit (C a)) (C b)=u (C b):=by
   unfold comb
   rw [sumN_one (k:=b) hb (fun a ha hne=>by
    have:C b≠C a:=by
     rcases Nat.lt_or_gt_of_ne hne with h | h
     ·have:=hC a b h hb; omega
     ·have:=hC b a h ha; omega
    simp [unit,this])]
   simp [unit]
  simp only [lc]; rw [e]; omega
 have h1:=rho_zero (M:=M) hw j
 rw [rho_lin,rho_comb] at h1
 have e2:comb k (fun a=>u (C a)) (rr M C k) j=dk M C k*comb k (fun a=>u (C a)) (fun a=>unit (C a)) j-sumN k (fun a=>u (C a)*rho M C k (unit (C a)) j):=by
  unfold comb
  rw [←sumN_mul,Int.sub_eq_add_neg,←sumN_neg,←sumN_add]
  refine sumN_congr fun a ha=>?_
  show u (C a)*rr M C k a j=_
  unfold rr; rw [if_pos ha]; grind
 rw [e2]
 simp only [lc] at h1
 grind
theorem done_rows {M:Nat→Nat→Int} {n c k:Nat} {C:Nat→Nat} (h:Done M n c k C) {i:Nat} (hi:i < n) {j:Nat} (hj:j < c):dk M C k*M i j=comb k (fun a=>M i (C a)) (rr M C k) j:=by
 have h1:=rr_span (M:=M) h.rise.1 (M i) j
 have h2:rho M C k (M i) j=0:=by
  by_cases hik:i < k
  ·exact rho_own hik j
  ·have:=h.zero i (by omega) hi j hj
   unfold rr at this; rwa [if_neg hik] at this
 rw [h2] at h1; omega
theorem rr_made {M:Nat→Nat→Int} {k:Nat} {C:Nat→Nat} (hD:dk M C k≠0) {a:Nat} (ha:a < k):∃e l,e≠0∧∀j,e*rr M C k a j=comb k l M j:=by
 obtain ⟨e,l,he,_,h2⟩:=rho_solve hD (unit (C a))
 refine ⟨e,fun i=>dk M C k*l i,he,fun j=>?_⟩
 have h3:comb k (fun i=>dk M C k*l i) M j=dk M C k*comb k l M j:=by
  unfold comb; rw [←sumN_mul]; exact sumN_congr fun i _=>by rw [Int.mul_assoc]
 have h4:=h2 j
 rw [h3]
 unfold rr; rw [if_pos ha,Int.mul_sub,h4]; grind
def Dep (c t:Nat) (B:Nat→Nat→Int) (v:Nat→Int):Prop:=∃e l,e≠0∧∀j,j < c→e*v j=comb t l B j
theorem comb_add (t:Nat) (l l':Nat→Int) (x y:Int) (B:Nat→Nat→Int) (j:Nat):comb t (fun i=>x*l i+y*l' i) B j=x*comb t l B j+y*comb t l' B j:=by
 unfold comb; rw [←sumN_mul,←sumN_mul,←sumN_add]; exact sumN_congr fun i _=>by grind
theorem Dep.comb {c t m:Nat} {B A:Nat→Nat→Int} (h:∀i,i < m→Dep c t B (A i)) (l:Nat→Int):Dep c t B (comb m l A):=by
 induction m with
 | zero=>exact ⟨1,fun _=>0,by decide,fun j _=>by simp [Lin.comb,sumN,sumN_zero]⟩
 | succ m ih=>
  obtain ⟨e,f,he,h1⟩:=ih fun i hi=>h i (by omega)
  obtain ⟨e',f',he',h2⟩:=h m (by omega)
  refine ⟨e*e',fun i=>e'*f i+(e*l m)*f' i,Int.mul_ne_zero he he',fun j hj=>?_⟩
  rw [comb_add,←h1 j hj,←h2 j hj]
  have:Lin.comb (m+1) l A j=Lin.comb m l A j+l m*A m j:=by simp [Lin.comb,sumN]
  rw [this]; grind
theorem rank_eq {M:Nat→Nat→Int} {n c k:Nat} {C:Nat→Nat} (h:Done M n c k C) {H:List (Nat→Int)} {K:Nat→Nat} (hK:∀b,b < H.length→K b < c) (hf:od H.length (cols H K) (fun _=>false)≠0)
  (hin:∀a,a < H.length→∃i,i < n∧∀j,j < c→row H a j=M i j) (hdep:∀i,i < n→Dep c H.length (row H) (M i)):k=H.length:=by
 apply Nat.le_antisymm
 ·-- the chosen rows' numbers are free,and made of H
  apply Classical.byContradiction
  intro hlt
  have hr:∀a,a < k→Dep c H.length (row H) (fun j=>rr M C k a j):=by
   intro a ha
   obtain ⟨e,l,he,h1⟩:=rr_made h.nz ha
   obtain ⟨e',l',he',h2⟩:=Dep.comb (c:=c) (m:=k) (fun i hi=>hdep i (by have:=h.kn; omega)) l
   refine ⟨e'*e,l',Int.mul_ne_zero he' he,fun j hj=>?_⟩
   rw [Int.mul_assoc,h1 j,h2 j hj]
  have hr':∃(e:Nat→Int) (f:Nat→Nat→Int),(∀a,a < k→e a≠0)∧∀a,a < k→∀j,j < c→e a*rr M C k a j=comb H.length (f a) (row H) j:=by
   refine ⟨fun a=>if ha:a < k then Classical.choose (hr a ha) else 1,fun a=>if ha:a < k then Classical.choose (Classical.choose_spec (hr a ha)) else fun _=>0,fun a ha=>?_,fun a ha j hj=>?_⟩
   ·simp only [ha,dif_pos]; exact (Classical.choose_spec (Classical.choose_spec (hr a ha))).1
   ·simp only [ha,dif_pos]; exact (Classical.choose_spec (Classical.choose_spec (hr a ha))).2 j hj
  obtain ⟨e,f,he,hef⟩:=hr'
  obtain ⟨d,p,hp,hd,hz⟩:=steinitz (c:=c) (m:=k) (t:=H.length) (A:=rr M C k) (B:=row H) (e:=e) (f:=f) (by omega) he hef
  have h0:=hz (C p) (h.rise.2 p hp)
  unfold comb at h0
  rw [sumN_one (k:=p) hp (fun a ha hne=>by rw [rr_pivot h.nz h.rise.1 ha hp,if_neg hne,Int.mul_zero]),rr_pivot h.nz h.rise.1 hp hp,if_pos rfl] at h0
  rcases Int.mul_eq_zero.1 h0 with h1 | h1
  ·exact hd h1
  ·exact h.nz h1
 ·apply Classical.byContradiction
  intro hlt
  obtain ⟨d,p,hp,hd,hz⟩:=steinitz (c:=c) (m:=H.length) (t:=k) (A:=row H) (B:=rr M C k) (e:=fun _=>dk M C k) (f:=fun a b=>row H a (C b)) (by omega) (fun _ _=>h.nz)
   (fun a ha j hj=>by
    obtain ⟨i,hi,hij⟩:=hin a ha
    rw [hij j hj,done_rows h hi hj]
    unfold comb
    exact sumN_congr fun b hb=>by show M i (C b)*_=row H a (C b)*_; rw [hij _ (h.rise.2 b hb)])
  apply hf
  refine od_dep (p:=p) (c:=d) (by rw [cols_length]; exact hp) hd (fun b hb=>?_) _
  rw [cols_length]
  have:=hz (K b) (hK b hb)
  unfold comb at this ⊢
  rw [←this]
  refine sumN_congr fun i hi=>?_
  rw [cols_row hi]
theorem rising_id {k:Nat} {C:Nat→Nat} (h:Rising k k C) {i:Nat} (hi:i < k):C i=i:=by
 have h1:∀i,i < k→i≤C i:=by
  intro i
  induction i with
  | zero=>intro _; omega
  | succ i ih=>intro hi; have:=ih (by omega); have:=h.1 i (i+1) (by omega) hi; omega
 have h2:∀d,d < k→C (k-1-d)≤k-1-d:=by
  intro d
  induction d with
  | zero=>intro hd; have:=h.2 (k-1) (by omega); simp; omega
  | succ d ih=>intro hd; have:=ih (by omega); have:=h.1 (k-1-(d+1)) (k-1-d) (by omega) (by omega); omega
 have a1:=h1 i hi
 have a2:=h2 (k-1-i) (by omega)
 rw [show k-1-(k-1-i)=i by omega] at a2
 omega
theorem dk_full {M:Nat→Nat→Int} {k:Nat} {C:Nat→Nat} (h:Rising k k C):dk M C k=od k (srows M k) fun _=>false:=by
 unfold dk
 refine od_congr (by simp [cols]) (fun i hi b hb=>?_) _
 have hi':i < (srows M k).length:=by simpa [cols] using hi
 have e:=cols_row (C:=C) hi'
 unfold row at e
 rw [e]
 exact congrArg _ (rising_id h hb)
end Go.Proofs.YtdanomklbiidaaaGreatDoor.Lin
namespace Go.Proofs.YtdanomklbiidaaaGreatDoor.Lin
def FreeP (c:Nat) (H:List (Nat→Int)):Prop:=∃K,Rising H.length c K∧od H.length (cols H K) (fun _=>false)≠0
theorem row_append_left {A B:List (Nat→Int)} {i:Nat} (h:i < A.length):row (A ++ B) i=row A i:=by
 simp only [row,List.getD_eq_getElem?_getD]; rw [List.getElem?_append_left h]
theorem row_append_end {A:List (Nat→Int)} {u:Nat→Int} : row (A ++ [u]) A.length=u:=by
 simp [row]
theorem dep_of_not_free {c:Nat} {H:List (Nat→Int)} {u:Nat→Int} (hf:FreeP c H) (hn:¬FreeP c (H ++ [u])):Dep c H.length (row H) u:=by
 rcases elim c (H ++ [u]) with ⟨C,hC,hod⟩ | ⟨d,p,hp,hd,hk⟩
 ·exact absurd ⟨C,hC,hod⟩ hn
 ·have hl:(H ++ [u]).length=H.length+1:=by simp
  rw [hl] at hp hk
  have hk':∀k,k < c→comb H.length d (row H) k+d H.length*u k=0:=by
   intro k hkc
   have:=hk k hkc
   unfold comb at this ⊢
   rw [sumN,row_append_end,sumN_congr (g:=fun i=>d i*row H i k) (fun i hi=>by rw [row_append_left hi])] at this
   exact this
  have hne:d H.length≠0:=by
   intro h0
   obtain ⟨K,hK,hod⟩:=hf
   apply hod
   have hpl:p < H.length:=by
    by_cases e:p=H.length
    ·subst e; exact absurd h0 hd
    ·omega
   refine od_dep (p:=p) (c:=d) (by rw [cols_length]; exact hpl) hd (fun b hb=>?_) _
   have h1:=hk' (K b) (hK.2 b hb)
   rw [h0,Int.zero_mul,Int.add_zero] at h1
   rw [cols_length]
   unfold comb at h1 ⊢
   rw [←h1]
   exact sumN_congr fun i hi=>by rw [cols_row hi]
  refine ⟨d H.length,fun i=>- d i,hne,fun j hj=>?_⟩
  have h1:=hk' j hj
  have h2:comb H.length (fun i=>- d i) (row H) j=- comb H.length d (row H) j:=by
   unfold comb; rw [←sumN_neg]; exact sumN_congr fun i _=>by rw [Int.neg_mul]
  omega
theorem Dep.grow {c:Nat} {H:List (Nat→Int)} {u v:Nat→Int} (h:Dep c H.length (row H) v):Dep c (H ++ [u]).length (row (H ++ [u])) v:=by
 obtain ⟨e,l,he,h1⟩:=h
 refine ⟨e,fun i=>if i < H.length then l i else 0,he,fun j hj=>?_⟩
 rw [h1 j hj]
 have hl:(H ++ [u]).length=H.length+1:=by simp
 rw [hl]
 unfold Lin.comb
 rw [sumN]
 simp only [Nat.lt_irrefl,if_false,Int.zero_mul,Int.add_zero]
 exact sumN_congr fun i hi=>by rw [row_append_left hi]; simp [hi]
theorem Dep.self {c:Nat} {H:List (Nat→Int)} {i:Nat} (hi:i < H.length):Dep c H.length (row H) (row H i):=by
 refine ⟨1,unit i,by decide,fun j _=>?_⟩
 unfold Lin.comb
 rw [sumN_one (k:=i) hi (fun a _ hne=>by simp [unit,hne])]
 simp [unit]
structure Greedy (c:Nat) (L H:List (Nat→Int)):Prop where
 free:FreeP c H
 mem:∀r∈H,r∈L
 dep:∀r∈L,Dep c H.length (row H) r
theorem Greedy.nil (c:Nat):Greedy c [] []:=
 ⟨⟨id,⟨fun _ _ _ h=>absurd h (by simp),fun _ h=>absurd h (by simp)⟩,by simp [cols,od]⟩,fun _ h=>h,fun _ h=>absurd h (by simp)⟩
theorem Greedy.more {c:Nat} {L H:List (Nat→Int)} {u:Nat→Int} (h:Greedy c L H) (hf:FreeP c (H ++ [u])):Greedy c (L ++ [u]) (H ++ [u]):=by
 refine ⟨hf,fun r hr=>?_,fun r hr=>?_⟩
 ·rcases List.mem_append.1 hr with hr | hr
  ·exact List.mem_append_left _ (h.mem r hr)
  ·exact List.mem_append_right _ hr
 ·rcases List.mem_append.1 hr with hr | hr
  ·exact (h.dep r hr).grow
  ·simp at hr; subst hr
   have:=Dep.self (c:=c) (H:=H ++ [r]) (i:=H.length) (by simp)
   rwa [row_append_end] at this
theorem Greedy.less {c:Nat} {L H:List (Nat→Int)} {u:Nat→Int} (h:Greedy c L H) (hf:¬FreeP c (H ++ [u])):Greedy c (L ++ [u]) H:=by
 refine ⟨h.free,fun r hr=>List.mem_append_left _ (h.mem r hr),fun r hr=>?_⟩
 rcases List.mem_append.1 hr with hr | hr
 ·exact h.dep r hr
 ·simp at hr; subst hr
  exact dep_of_not_free h.free hf
def up (k:Nat) (U:Nat→Bool):Nat→Bool:=fun j=>if j=k then true else U (unsk k j)
theorem up_skp (k:Nat) (U:Nat→Bool) (j:Nat):up k U (skp k j)=U j:=by
 unfold up; rw [if_neg (skp_ne k j),unsk_skp]
theorem up_ins (k:Nat) (U:Nat→Bool) (j:Nat):ins (up k U) (skp k j)=up k (ins U j):=by
 funext x
 unfold ins up
 by_cases h1:x=k
 ·subst h1; simp
 ·rw [if_neg h1,if_neg h1]
  by_cases h2:x=skp k j
  ·subst h2; rw [if_pos rfl,unsk_skp]; exact (if_pos rfl).symm
  ·rw [if_neg h2]
   refine (if_neg ?_).symm
   intro h3
   apply h2
   subst h3
   unfold skp unsk
   by_cases h4:x < k
   ·simp [h4]
   ·simp [h4,show ¬x-1 < k by omega]; omega
theorem sg_up {m k:Nat} (hk:k≤m) (U:Nat→Bool) (j:Nat):sg (m+1) (up k U) (skp k j)=sg m U j*(if j < k then -1 else 1):=by
 induction m with
 | zero=>
  have:k=0:=by omega
  subst this
  simp [sg,skp]
 | succ m ih=>
  by_cases e:k=m+1
  ·subst e
   have hs:∀x,x≤m+1→∀i,sg x (up (m+1) U) i=sg x U i:=by
    intro x hx i
    induction x with
    | zero=>rfl
    | succ x ix=>
     have hu:up (m+1) U x=U x:=by unfold up unsk; rw [if_neg (by omega),if_pos (by omega)]
     simp only [sg]; rw [ix (by omega),hu]
   rw [sg,hs (m+1) (Nat.le_refl _)]
   have hu:up (m+1) U (m+1)=true:=by simp [up]
   rw [hu]
   by_cases h:j < m+1
   ·have e1:skp (m+1) j=j:=by simp [skp,h]
    rw [e1]; simp [h]
   ·have e1:skp (m+1) j=j+1:=by simp [skp,h]
    rw [e1,sg_last U (by omega),sg_last U (by omega)]
    simp [h,show ¬j+1 < m+1 by omega]
  ·have hu:up k U (m+1)=U m:=by unfold up unsk; rw [if_neg (by omega),if_neg (by omega)]; rfl
   rw [sg,ih (by omega),hu,sg]
   have hiff:(skp k j < m+1)↔(j < m):=by
    unfold skp; by_cases h:j < k <;> simp [h] <;> omega
   by_cases h:j < m∧U m=true
   ·rw [if_pos ⟨hiff.2 h.1,h.2⟩,if_pos h,Int.neg_mul]
   ·rw [if_neg (fun h'=>h ⟨hiff.1 h'.1,h'.2⟩),if_neg h]
def ngo:Nat→Int
 | 0=>1
 | n+1=>- ngo n
theorem od_up {m k:Nat} (hk:k≤m) (H:List (Nat→Int)) (U:Nat→Bool) (hc:cu m U=H.length):od (m+1) H (up k U)=ngo (cu k U)*od m (cols H (skp k)) U:=by
 induction H generalizing U with
 | nil=>
  have:∀x,x≤m→cu x U=0:=by
   intro x hx
   have mono:∀t,cu x U≤cu (x+t) U:=by
    intro t
    induction t with
    | zero=>exact Nat.le_refl _
    | succ t it=>rw [←Nat.add_assoc,cu]; omega
   have:=mono (m-x)
   rw [show x+(m-x)=m by omega] at this
   simp at hc; omega
  rw [this k hk]; simp [od,cols,ngo]
 | cons r H ih=>
  simp only [od,cols,List.map_cons]
  rw [sumN_skp (p:=k) hk]
  have hkk:up k U k=true:=by simp [up]
  rw [hkk]
  simp only [if_true,Int.add_zero]
  rw [←sumN_mul]
  refine sumN_congr fun j hj=>?_
  rw [up_skp]
  cases hU:U j
  ·simp only [Bool.false_eq_true,if_false]
   rw [up_ins,sg_up hk,ih (ins U j) (by have:=cu_ins hj hU; simp at hc; omega)]
   by_cases hjk:j < k
   ·have:=cu_ins hjk hU
    rw [if_pos hjk,←this]
    simp only [ngo,cols]; grind
   ·have:cu k (ins U j)=cu k U:=by
     have hs:∀x,x≤k→cu x (ins U j)=cu x U:=by
      intro x hx
      induction x with
      | zero=>rfl
      | succ x ix=>
       have hi:ins U j x=U x:=by unfold ins; rw [if_neg (by omega)]
       simp only [cu]; rw [ix (by omega),hi]
     exact hs k (Nat.le_refl _)
    rw [if_neg hjk,this]
    simp only [cols]; grind
  ·simp
def mu (H:List (Nat→Int)) (k:Nat):Int:=ngo k*od H.length (cols H (skp k)) fun _=>false
theorem mu_orth {H:List (Nat→Int)} {a:Nat} (ha:a < H.length):sumN (H.length+1) (fun k=>row H a k*mu H k)=0:=by
 have e1:od (H.length+1) (row H a :: H) (fun _=>false)=0:=by
  have hs:H=H.take a ++ row H a :: H.drop (a+1):=by rw [←set_split ha,set_row ha]
  have:=od_two (H.length+1) [] (H.take a) (H.drop (a+1)) (row H a) (fun _=>false)
  rw [List.nil_append] at this
  rw [←hs] at this
  exact this
 rw [od] at e1
 rw [←e1]
 refine sumN_congr fun k hk=>?_
 have hu:ins (fun _=>false) k=up k (fun _=>false):=by funext x; unfold ins up; rfl
 have hsg:sg (H.length+1) (fun _=>false) k=1:=by
  have:∀n,sg n (fun _=>false) k=1:=by
   intro n; induction n with
   | zero=>rfl
   | succ n ih=>simp [sg,ih]
  exact this _
 simp only [Bool.false_eq_true,if_false]
 rw [hsg,hu,od_up (by omega) H _ (cu_none _),cu_none]
 unfold mu; grind
theorem rising_skp {m:Nat} {K:Nat→Nat} (h:Rising m (m+1) K):∃k,k≤m∧∀i,i < m→K i=skp k i:=by
 induction m with
 | zero=>exact ⟨0,by omega,fun i hi=>by omega⟩
 | succ m ih=>
  by_cases e:K m=m
  ·have hm:∀i,i < m+1→K i=i:=by
    have h2:Rising (m+1) (m+1) K:=⟨h.1,fun i hi=>by
     by_cases hi':i=m
     ·subst hi'; omega
     ·have:=h.1 i m (by omega) (by omega); omega⟩
    exact fun i hi=>rising_id h2 hi
   exact ⟨m+1,Nat.le_refl _,fun i hi=>by rw [hm i hi]; simp [skp,hi]⟩
  ·have hlast:K m=m+1:=by
    have h1:=h.2 m (by omega)
    have h2:∀i,i < m+1→i≤K i:=by
     intro i
     induction i with
     | zero=>intro _; omega
     | succ i ii=>intro hi; have:=ii (by omega); have:=h.1 i (i+1) (by omega) hi; omega
    have:=h2 m (by omega); omega
   obtain ⟨k,hk,hh⟩:=ih ⟨fun i j hij hj=>h.1 i j hij (by omega),fun i hi=>by have:=h.1 i m hi (by omega); omega⟩
   refine ⟨k,by omega,fun i hi=>?_⟩
   by_cases hi':i < m
   ·exact hh i hi'
   ·have:i=m:=by omega
    subst this
    rw [hlast]; simp [skp,show ¬i < k by omega]
theorem mu_free {H:List (Nat→Int)} (hf:FreeP (H.length+1) H):∃k,k < H.length+1∧mu H k≠0:=by
 obtain ⟨K,hK,hod⟩:=hf
 obtain ⟨k,hk,hh⟩:=rising_skp hK
 refine ⟨k,by omega,?_⟩
 have e:od H.length (cols H K) (fun _=>false)=od H.length (cols H (skp k)) (fun _=>false):=by
  refine od_congr (by simp [cols]) (fun i hi b hb=>?_) _
  have hi':i < H.length:=by simpa [cols] using hi
  have e1:=cols_row (C:=K) hi'
  have e2:=cols_row (C:=skp k) hi'
  unfold row at e1 e2
  rw [e1,e2]
  exact congrArg _ (hh b hb)
 have hn:∀n,ngo n≠0:=by
  intro n; induction n with
  | zero=>decide
  | succ n ih=>simp only [ngo]; omega
 unfold mu
 rw [←e]
 exact Int.mul_ne_zero (hn k) hod
end Go.Proofs.YtdanomklbiidaaaGreatDoor.Lin
namespace Go.Proofs.YtdanomklbiidaaaGreatDoor.Lin
def gcf (g:Nat) (l:List Int):Nat:=l.foldl (fun g v=>Nat.gcd g v.natAbs) g
def gc (l:List Int):Nat:=gcf 0 l
theorem gcf_scale (a:Int) (g:Nat) (l:List Int):gcf (a.natAbs*g) (l.map (a * ·))=a.natAbs*gcf g l:=by
 induction l generalizing g with
 | nil=>rfl
 | cons v l ih=>
  simp only [gcf,List.map_cons,List.foldl_cons] at ih ⊢
  rw [Int.natAbs_mul,Nat.gcd_mul_left,ih]
theorem gc_scale (a:Int) (l:List Int):gc (l.map (a * ·))=a.natAbs*gc l:=by
 have:=gcf_scale a 0 l
 simpa [gc] using this
theorem gcf_dvd (g:Nat) (l:List Int):gcf g l ∣ g∧∀v∈l,(gcf g l:Int) ∣ v:=by
 induction l generalizing g with
 | nil=>exact ⟨Nat.dvd_refl _,fun _ h=>absurd h (by simp)⟩
 | cons v l ih=>
  have h:=ih (Nat.gcd g v.natAbs)
  have e:gcf g (v :: l)=gcf (Nat.gcd g v.natAbs) l:=rfl
  rw [e]
  refine ⟨Nat.dvd_trans h.1 (Nat.gcd_dvd_left _ _),fun u hu=>?_⟩
  rcases List.mem_cons.1 hu with rfl | hu
  ·have:=Nat.dvd_trans h.1 (Nat.gcd_dvd_right g u.natAbs)
   exact Int.ofNat_dvd_left.2 this
  ·exact h.2 u hu
theorem gc_dvd {l:List Int} {v:Int} (h:v∈l):(gc l:Int) ∣ v:=(gcf_dvd 0 l).2 v h
def low (l:List Int):List Int:=l.map (· / (gc l:Int))
def upr (l:List Int):List Int:=if (l.find? (fun v=>v != 0)).getD 0 < 0 then l.map (fun v=>-v) else l
theorem find_neg (l:List Int):((l.map fun v=>-v).find? (fun v=>v != 0)).getD 0=- (l.find? (fun v=>v != 0)).getD 0:=by
 induction l with
 | nil=>rfl
 | cons v l ih=>
  by_cases h:v=0
  ·subst h; simpa using ih
  ·have h1:(v != 0)=true:=by simp [h]
   have h2:(-v != 0)=true:=by simp [h]
   simp [h1,h2]
theorem find_zero {l:List Int} (h:(l.find? (fun v=>v != 0)).getD 0=0):∀v∈l,v=0:=by
 induction l with
 | nil=>intro _ h; simp at h
 | cons v l ih=>
  intro u hu
  by_cases hv:v=0
  ·subst hv
   rcases List.mem_cons.1 hu with rfl | hu
   ·rfl
   ·exact ih (by simpa using h) u hu
  ·have h1:(v != 0)=true:=by simp [hv]
   simp [h1] at h
   exact absurd h hv
theorem upr_neg (l:List Int):upr (l.map fun v=>-v)=upr l:=by
 unfold upr
 rw [find_neg]
 have hnn:(l.map fun v=>-v).map (fun v=>-v)=l:=by simp [Function.comp_def]
 by_cases h0:(l.find? (fun v=>v != 0)).getD 0=0
 ·rw [h0]
  have:=find_zero h0
  simp only [Int.neg_zero,Int.lt_irrefl,if_false]
  have e:∀l:List Int,(∀v∈l,v=0)→l.map (fun v=>-v)=l:=by
   intro l hl
   induction l with
   | nil=>rfl
   | cons v l ih=>
    have h1:v=0:=hl v (by simp)
    subst h1
    simp only [List.map_cons,Int.neg_zero]
    rw [ih fun u hu=>hl u (by simp [hu])]
  exact e l this
 ·by_cases h1:(l.find? (fun v=>v != 0)).getD 0 < 0
  ·rw [if_neg (by omega),if_pos h1]
  ·rw [if_pos (by omega),if_neg h1,hnn]
theorem norm_eq {x y:List Int} {a b:Int} (ha:a≠0) (hb:b≠0) (h:x.map (a * ·)=y.map (b * ·)):upr (low x)=upr (low y):=by
 have hg:a.natAbs*gc x=b.natAbs*gc y:=by rw [←gc_scale,←gc_scale,h]
 have hl:x.length=y.length:=by have:=congrArg List.length h; simpa using this
 have hi:∀i (h1:i < x.length) (h2:i < y.length),a*x[i]=b*y[i]:=by
  intro i h1 h2
  have:=congrArg (fun l=>l[i]?) h
  simpa [h1,h2] using this
 by_cases h0:gc x=0
 ·have h1:gc y=0:=by
   rw [h0,Nat.mul_zero] at hg
   rcases Nat.mul_eq_zero.1 hg.symm with h | h
   ·omega
   ·exact h
  have:low x=low y:=by
   unfold low; rw [h0,h1]
   refine List.ext_getElem (by simpa using hl) fun i _ _=>by simp
  rw [this]
 ·have h1:gc y≠0:=by
   intro h1
   rw [h1,Nat.mul_zero] at hg
   rcases Nat.mul_eq_zero.1 hg with h | h
   ·omega
   ·exact h0 h
  -- x=gx x',y=gy y'
  have q:∀i (p1:i < x.length) (p2:i < y.length),a*(gc x:Int)*(x[i] / (gc x:Int))=b*(gc y:Int)*(y[i] / (gc y:Int)):=by
   intro i p1 p2
   have e1:(gc x:Int)*(x[i] / (gc x:Int))=x[i]:=Int.mul_ediv_cancel' (gc_dvd (List.getElem_mem p1))
   have e2:(gc y:Int)*(y[i] / (gc y:Int))=y[i]:=Int.mul_ediv_cancel' (gc_dvd (List.getElem_mem p2))
   rw [Int.mul_assoc,e1,Int.mul_assoc,e2]; exact hi i p1 p2
  have ht:a*(gc x:Int)=b*(gc y:Int)∨a*(gc x:Int)=- (b*(gc y:Int)):=by
   have:(a*(gc x:Int)).natAbs=(b*(gc y:Int)).natAbs:=by
    rw [Int.natAbs_mul,Int.natAbs_mul]; simpa using hg
   omega
  have hne:a*(gc x:Int)≠0:=Int.mul_ne_zero ha (by omega)
  rcases ht with ht | ht
  ·have:low x=low y:=by
    refine List.ext_getElem (by simpa [low] using hl) fun i p1 p2=>?_
    have p1':i < x.length:=by simpa [low] using p1
    have p2':i < y.length:=by simpa [low] using p2
    have:=q i p1' p2'
    rw [←ht] at this
    simpa [low] using Int.eq_of_mul_eq_mul_left hne this
   rw [this]
  ·have:low x=(low y).map (fun v=>-v):=by
    refine List.ext_getElem (by simpa [low] using hl) fun i p1 p2=>?_
    have p1':i < x.length:=by simpa [low] using p1
    have p2':i < y.length:=by simpa [low] using p2
    have:=q i p1' p2'
    have e:b*(gc y:Int)*(y[i] / (gc y:Int))=a*(gc x:Int)*(- (y[i] / (gc y:Int))):=by rw [ht]; grind
    rw [e] at this
    simpa [low] using Int.eq_of_mul_eq_mul_left hne this
   rw [this,upr_neg]
end Go.Proofs.YtdanomklbiidaaaGreatDoor.Lin
namespace Go.Proofs.YtdanomklbiidaaaGreatDoor.Lin
def dot (d:Nat) (a x:Nat→Int):Int:=sumN d fun i=>a i*x i
theorem dot_congr {d:Nat} {a b x y:Nat→Int} (h1:∀i,i < d→a i=b i) (h2:∀i,i < d→x i=y i):dot d a x=dot d b y:=
 sumN_congr fun i hi=>by rw [h1 i hi,h2 i hi]
theorem dot_comm (d:Nat) (a x:Nat→Int):dot d a x=dot d x a:=sumN_congr fun _ _=>Int.mul_comm _ _
theorem dot_lc (d:Nat) (s r:Int) (a b x:Nat→Int):dot d (fun k=>s*a k+r*b k) x=s*dot d a x+r*dot d b x:=by
 unfold dot
 rw [←sumN_mul,←sumN_mul,←sumN_add]
 exact sumN_congr fun i _=>by grind
theorem dot_zero {d:Nat} {a x:Nat→Int} (h:∀i,i < d→a i=0):dot d a x=0:=sumN_zero fun i hi=>by rw [h i hi,Int.zero_mul]
theorem dot_self (d:Nat) (a:Nat→Int):0≤dot d a a∧(dot d a a=0→∀i,i < d→a i=0):=by
 induction d with
 | zero=>exact ⟨by simp [dot,sumN],fun _ i hi=>absurd hi (by omega)⟩
 | succ d ih=>
  have e:dot (d+1) a a=dot d a a+a d*a d:=rfl
  have hs:0≤a d*a d:=by
   rcases Int.le_total 0 (a d) with h | h
   ·exact Int.mul_nonneg h h
   ·exact Int.mul_nonneg_of_nonpos_of_nonpos h h
  refine ⟨by omega,fun h i hi=>?_⟩
  have h1:dot d a a=0:=by omega
  have h2:a d*a d=0:=by omega
  by_cases hid:i < d
  ·exact ih.2 h1 i hid
  ·have:i=d:=by omega
   subst this
   rcases Int.mul_eq_zero.1 h2 with h | h <;> exact h
theorem dot_pos {d:Nat} {a:Nat→Int} (h:∃i,i < d∧a i≠0):0 < dot d a a:=by
 obtain ⟨i,hi,hne⟩:=h
 have h1:=dot_self d a
 rcases Int.lt_or_le 0 (dot d a a) with h | h
 ·exact h
 ·exact absurd (h1.2 (by omega) i hi) hne
theorem dot_unit {d:Nat} {x:Nat→Int} {p:Nat} (hp:p < d):dot d (unit p) x=x p:=by
 unfold dot
 rw [sumN_one hp (fun i _ hne=>by simp [unit,hne])]
 simp [unit]
theorem dot_dep {d t:Nat} {B:Nat→Nat→Int} {r v:Nat→Int} (h:Dep d t B r) (hv:∀i,i < t→dot d (B i) v=0):dot d r v=0:=by
 obtain ⟨e,l,he,h1⟩:=h
 have h2:e*dot d r v=0:=by
  unfold dot
  rw [←sumN_mul,sumN_congr (g:=fun j=>sumN t (fun i=>l i*(B i j*v j))) (fun j hj=>by
   rw [←Int.mul_assoc,h1 j hj]; unfold comb; rw [←sumN_mul_right]; exact sumN_congr fun i _=>by rw [Int.mul_assoc])]
  rw [sumN_swap]
  refine sumN_zero fun i hi=>?_
  rw [sumN_mul]
  have:=hv i hi
  unfold dot at this
  rw [this,Int.mul_zero]
 rcases Int.mul_eq_zero.1 h2 with h3 | h3
 ·exact absurd h3 he
 ·exact h3
theorem orth_some:∀(d:Nat) (L:List (Nat→Int)),L.length < d→∃v:Nat→Int,(∃i,i < d∧v i≠0)∧∀r∈L,dot d r v=0
 | 0,_,h=>absurd h (by omega)
 | d+1,L,h=>by
  by_cases hz:∀r∈L,r d=0
  ·refine ⟨unit d,⟨d,by omega,by simp [unit]⟩,fun r hr=>?_⟩
   rw [dot_comm,dot_unit (by omega)]; exact hz r hr
  ·have:∃p,p∈L∧p d≠0:=by
    refine Classical.byContradiction fun hn=>hz fun r hr=>Classical.byContradiction fun hne=>hn ⟨r,hr,hne⟩
   obtain ⟨p,hp,hpd⟩:=this
   obtain ⟨A,B,rfl⟩:=List.append_of_mem hp
   have hl:((A ++ B).map fun (r:Nat→Int) k=>p d*r k-r d*p k).length < d:=by simp at h ⊢; omega
   obtain ⟨v,⟨i,hi,hvi⟩,hv⟩:=orth_some d _ hl
   refine ⟨fun k=>if k < d then p d*v k else-dot d p v,⟨i,by omega,?_⟩,fun r hr=>?_⟩
   ·simp only [hi,if_true]; exact Int.mul_ne_zero hpd hvi
   ·have key:∀r:Nat→Int,dot (d+1) r (fun k=>if k < d then p d*v k else-dot d p v)=dot d (fun k=>p d*r k-r d*p k) v:=by
     intro r
     have e1:dot (d+1) r (fun k=>if k < d then p d*v k else-dot d p v)=dot d r (fun k=>if k < d then p d*v k else-dot d p v)+r d*(- dot d p v):=by
      simp [dot,sumN]
     have e2:dot d r (fun k=>if k < d then p d*v k else-dot d p v)=p d*dot d r v:=by
      unfold dot
      rw [←sumN_mul]
      exact sumN_congr fun i hi=>by simp only [hi,if_true]; grind
     have e3:dot d (fun k=>p d*r k-r d*p k) v=p d*dot d r v+(- r d)*dot d p v:=by
      rw [←dot_lc]
      exact dot_congr (fun i _=>by grind) (fun _ _=>rfl)
     rw [e1,e2,e3]; grind
    rw [key]
    simp only [List.mem_append,List.mem_cons] at hr
    by_cases hrp:r=p
    ·subst hrp
     exact dot_zero fun i _=>by grind
    ·refine hv _ (List.mem_map.2 ⟨r,?_,rfl⟩)
     simp only [List.mem_append]
     rcases hr with hr | hr | hr
     ·exact Or.inl hr
     ·exact absurd hr hrp
     ·exact Or.inr hr
theorem orth_none {d:Nat} {H:List (Nat→Int)} (hf:FreeP d H) (hl:H.length=d) {v:Nat→Int} (hv:∀r∈H,dot d r v=0):∀i,i < d→v i=0:=by
 intro p hp
 have hn:¬FreeP d (H ++ [unit p]):=by
  rintro ⟨K,hK,_⟩
  have hlen:(H ++ [unit p]).length=d+1:=by simp [hl]
  rw [hlen] at hK
  have:∀n,n≤d+1→∀i,i < n→i≤K i:=by
   intro n
   induction n with
   | zero=>intro _ i hi; omega
   | succ n ih=>
    intro hn i hi
    cases i with
    | zero=>omega
    | succ i=>
     have h1:=ih (by omega) i (by omega)
     have h2:=hK.1 i (i+1) (by omega) (by omega)
     omega
  have h1:=this (d+1) (by omega) d (by omega)
  have h2:=hK.2 d (by omega)
  omega
 have hd:=dot_dep (dep_of_not_free hf hn) (v:=v) (fun i hi=>hv _ (row_mem hi))
 rwa [dot_unit hp] at hd
theorem greedy_full {d:Nat} {L H:List (Nat→Int)} (hg:Greedy d L H):H.length=d↔∀v:Nat→Int,(∀r∈L,dot d r v=0)→∀i,i < d→v i=0:=by
 constructor
 ·intro hl v hv
  exact orth_none hg.free hl fun r hr=>hv r (hg.mem r hr)
 ·intro h
  have hle:H.length≤d:=by
   obtain ⟨K,hK,_⟩:=hg.free
   have:∀n,n≤H.length→∀i,i < n→i≤K i:=by
    intro n
    induction n with
    | zero=>intro _ i hi; omega
    | succ n ih=>
     intro hn i hi
     cases i with
     | zero=>omega
     | succ i=>
      have h1:=ih (by omega) i (by omega)
      have h2:=hK.1 i (i+1) (by omega) (by omega)
      omega
   rcases Nat.lt_or_ge d H.length with hlt | hge
   ·have h1:=this H.length (Nat.le_refl _) (H.length-1) (by omega)
    have h2:=hK.2 (H.length-1) (by omega)
    omega
   ·exact hge
  rcases Nat.lt_or_ge H.length d with hlt | hge
  ·obtain ⟨v,⟨i,hi,hne⟩,hv⟩:=orth_some d H hlt
   exact absurd (h v (fun r hr=>dot_dep (hg.dep r hr) (fun i hi=>hv _ (row_mem hi))) i hi) hne
  ·omega
def Par (d:Nat) (u a:Nat→Int):Prop:=∀i j,i < d→j < d→u i*a j=u j*a i
theorem par_of {d:Nat} {u a:Nat→Int} {s t:Int} (hs:s≠0) (h:∀i,i < d→s*u i=t*a i):Par d u a:=by
 intro i j hi hj
 have h1:s*(u i*a j)=s*(u j*a i):=by
  rw [←Int.mul_assoc,←Int.mul_assoc,h i hi,h j hj]; grind
 exact Int.eq_of_mul_eq_mul_left hs h1
theorem greedy_one {d:Nat} {L H:List (Nat→Int)} (hg:Greedy d L H) (hl:H.length+1=d) :
  (∃i,i < d∧mu H i≠0)∧(∀r∈L,dot d r (mu H)=0)∧∀u:Nat→Int,(∀r∈L,dot d r u=0)→Par d u (mu H):=by
 subst hl
 have h0:=mu_free hg.free
 have h1:∀r∈H,dot (H.length+1) r (mu H)=0:=by
  intro r hr
  obtain ⟨i,hi,rfl⟩:=mem_row hr
  exact mu_orth hi
 refine ⟨h0,fun r hr=>dot_dep (hg.dep r hr) (fun i hi=>h1 _ (row_mem hi)),fun u hu=>?_⟩
 have hpos:=dot_pos h0
 have hf:FreeP (H.length+1) (H ++ [mu H]):=by
  refine Classical.byContradiction fun hn=>?_
  have:=dot_dep (dep_of_not_free hg.free hn) (v:=mu H) (fun i hi=>h1 _ (row_mem hi))
  omega
 have hw:=orth_none hf (by simp) (v:=fun k=>dot (H.length+1) (mu H) (mu H)*u k+(- dot (H.length+1) (mu H) u)*mu H k) (fun r hr=>by
  rw [dot_comm,dot_lc,dot_comm _ u r,dot_comm _ (mu H) r]
  rcases List.mem_append.1 hr with hr | hr
  ·rw [hu r (hg.mem r hr),h1 r hr]; omega
  ·simp at hr; subst hr
   grind)
 refine par_of (s:=dot (H.length+1) (mu H) (mu H)) (t:=dot (H.length+1) (mu H) u) (by omega) fun i hi=>?_
 have:=hw i hi
 grind
theorem greedy_count {d:Nat} {L H:List (Nat→Int)} (hg:Greedy d L H) {a:Nat→Int} (ha:∃i,i < d∧a i≠0) (h0:∀r∈L,dot d r a=0) (h1:∀u:Nat→Int,(∀r∈L,dot d r u=0)→Par d u a):H.length+1=d:=by
 have hne:H.length≠d:=by
  intro hl
  obtain ⟨i,hi,h⟩:=ha
  exact h ((greedy_full hg).1 hl a h0 i hi)
 have hle:H.length≤d:=by
  refine Classical.byContradiction fun hgt=>?_
  obtain ⟨K,hK,_⟩:=hg.free
  have:∀n,n≤H.length→∀i,i < n→i≤K i:=by
   intro n
   induction n with
   | zero=>intro _ i hi; omega
   | succ n ih=>
    intro hn i hi
    cases i with
    | zero=>omega
    | succ i=>
     have h1:=ih (by omega) i (by omega)
     have h2:=hK.1 i (i+1) (by omega) (by omega)
     omega
  have h1:=this H.length (Nat.le_refl _) (H.length-1) (by omega)
  have h2:=hK.2 (H.length-1) (by omega)
  omega
 rcases Nat.lt_or_ge (H.length+1) d with hlt | hge
 ·obtain ⟨v,hvn,hv⟩:=orth_some d (H ++ [a]) (by simp; omega)
  have hvL:∀r∈L,dot d r v=0:=fun r hr=>dot_dep (hg.dep r hr) (fun i hi=>hv _ (List.mem_append_left _ (row_mem hi)))
  have hva:dot d a v=0:=hv a (by simp)
  have hp:=h1 v hvL
  obtain ⟨i,hi,hne'⟩:=hvn
  have e:v i*dot d a a=0:=by
   unfold dot
   rw [←sumN_mul,sumN_congr (g:=fun j=>a i*(a j*v j)) (fun j hj=>by have:=hp i j hi hj; grind),sumN_mul]
   have:sumN d (fun j=>a j*v j)=0:=hva
   rw [this,Int.mul_zero]
  rcases Int.mul_eq_zero.1 e with h | h
  ·exact absurd h hne'
  ·have:=dot_pos ha; omega
 ·omega
end Go.Proofs.YtdanomklbiidaaaGreatDoor.Lin
namespace Go.Proofs.YtdanomklbiidaaaGreatDoor.Lin
def loose (d:Nat) (Z:List (Nat→Int)) (c:Nat→Int):Nat:=Z.countP fun z=>decide (dot d c z≠0)
theorem loose_lt {d:Nat} {Z:List (Nat→Int)} {c e:Nat→Int} (h:∀z∈Z,dot d c z=0→dot d e z=0) {z1:Nat→Int} (hz:z1∈Z) (hc:dot d c z1≠0) (he:dot d e z1=0):loose d Z e < loose d Z c:=by
 unfold loose
 obtain ⟨A,B,rfl⟩:=List.append_of_mem hz
 have mono:∀X:List (Nat→Int),(∀z∈X,dot d c z=0→dot d e z=0)→X.countP (fun z=>decide (dot d e z≠0))≤X.countP (fun z=>decide (dot d c z≠0)):=by
  intro X hX
  refine List.countP_mono_left fun z hz hp=>?_
  simp only [decide_eq_true_eq] at hp ⊢
  exact fun h0=>hp (hX z hz h0)
 have h1:=mono A fun z hz=>h z (by simp [hz])
 have h2:=mono B fun z hz=>h z (by simp [hz])
 rw [List.countP_append,List.countP_append,List.countP_cons_of_neg (by simp [he]),List.countP_cons_of_pos (by simp [hc])]
 omega
theorem least_ratio {α:Type} {f g:α→Int} : ∀{X:List α},X≠[]→(∀z∈X,0 < g z)→∃z1,z1∈X∧∀z∈X,f z1*g z≤f z*g z1
 | [x],_,_=>⟨x,by simp,fun z hz=>by simp at hz; subst hz; exact Int.le_refl _⟩
 | x :: y :: X,_,hg=>by
  obtain ⟨z1,h1,h2⟩:=least_ratio (f:=f) (g:=g) (X:=y :: X) (by simp) (fun z hz=>hg z (List.mem_cons_of_mem _ hz))
  have g1:=hg z1 (List.mem_cons_of_mem _ h1)
  have gx:=hg x (by simp)
  by_cases hc:f x*g z1≤f z1*g x
  ·refine ⟨x,by simp,fun z hz=>?_⟩
   rcases List.mem_cons.1 hz with rfl | hz
   ·exact Int.le_refl _
   ·have h3:=h2 z hz
    have gz:=hg z (List.mem_cons_of_mem _ hz)
    have a1:f x*g z1*g z≤f z1*g x*g z:=Int.mul_le_mul_of_nonneg_right hc (Int.le_of_lt gz)
    have a2:f z1*g z*g x≤f z*g z1*g x:=Int.mul_le_mul_of_nonneg_right h3 (Int.le_of_lt gx)
    have a3:g z1*(f x*g z)≤g z1*(f z*g x):=by
     have e1:g z1*(f x*g z)=f x*g z1*g z:=by grind
     have e2:g z1*(f z*g x)=f z*g z1*g x:=by grind
     have e3:f z1*g x*g z=f z1*g z*g x:=by grind
     omega
    exact Int.le_of_mul_le_mul_left a3 g1
  ·refine ⟨z1,List.mem_cons_of_mem _ h1,fun z hz=>?_⟩
   rcases List.mem_cons.1 hz with rfl | hz
   ·omega
   ·exact h2 z hz
theorem ray {d:Nat} {Z:List (Nat→Int)} {c w:Nat→Int} (hc:∀z∈Z,dot d c z≤0) (hw:∀z∈Z,dot d c z=0→dot d w z=0) (hp:∃z,z∈Z∧0 < dot d w z) :
  ∃s r:Int,0 < s∧0 < r∧(∀z∈Z,dot d (fun k=>s*c k+r*w k) z≤0)∧loose d Z (fun k=>s*c k+r*w k) < loose d Z c:=by
 obtain ⟨z0,hz0,hp0⟩:=hp
 obtain ⟨z1,h1,h2⟩:=least_ratio (f:=fun z=>- dot d c z) (g:=fun z=>dot d w z) (X:=Z.filter fun z=>decide (0 < dot d w z)) (by
   intro he
   have:z0∈Z.filter fun z=>decide (0 < dot d w z):=by simp [hz0,hp0]
   rw [he] at this; simp at this) (fun z hz=>by simpa using (List.mem_filter.1 hz).2)
 have hz1:=(List.mem_filter.1 h1).1
 have hw1:0 < dot d w z1:=by simpa using (List.mem_filter.1 h1).2
 have hc1:dot d c z1 < 0:=by
  have h3:=hc z1 hz1
  rcases Int.lt_or_eq_of_le h3 with h | h
  ·exact h
  ·have:=hw z1 hz1 h; omega
 refine ⟨dot d w z1,- dot d c z1,hw1,by omega,fun z hz=>?_,loose_lt (z1:=z1) (fun z hz h0=>?_) hz1 (by omega) ?_⟩
 ·rw [dot_lc]
  have hcz:=hc z hz
  by_cases hwz:0 < dot d w z
  ·have h3 : - dot d c z1*dot d w z≤- dot d c z*dot d w z1:=h2 z (by simp [hz,hwz])
   have e1 : - dot d c z1*dot d w z=-(dot d c z1*dot d w z):=by grind
   have e2 : - dot d c z*dot d w z1=-(dot d w z1*dot d c z):=by grind
   omega
  ·have a1:dot d w z1*dot d c z≤0:=Int.mul_nonpos_of_nonneg_of_nonpos (Int.le_of_lt hw1) hcz
   have a2 : - dot d c z1*dot d w z≤0:=Int.mul_nonpos_of_nonneg_of_nonpos (by omega) (by omega)
   omega
 ·rw [dot_lc,h0,hw z hz h0]; omega
 ·rw [dot_lc]; grind
theorem dot_neg (d:Nat) (a x:Nat→Int):dot d (fun k=>- a k) x=- dot d a x:=by
 unfold dot
 rw [←sumN_neg]
 exact sumN_congr fun i _=>by grind
theorem cone {d:Nat} {Z:List (Nat→Int)} {v:Nat→Int} (hspan:∀c:Nat→Int,(∀z∈Z,dot d c z=0)→∀i,i < d→c i=0)
  (hside:∀c:Nat→Int,(∃i,i < d∧c i≠0)→(∀z∈Z,dot d c z≤0)→(∀u:Nat→Int,(∀z∈Z,dot d c z=0→dot d u z=0)→Par d u c)→dot d c v≤0) :
  ∀(n:Nat) (c:Nat→Int),loose d Z c≤n→(∀z∈Z,dot d c z≤0)→dot d c v≤0:=by
 intro n
 induction n with
 | zero=>
  intro c hn hc
  have h0:loose d Z c=0:=by omega
  unfold loose at h0
  rw [List.countP_eq_zero] at h0
  exact Int.le_of_eq (dot_zero (hspan c fun z hz=>by have:=h0 z hz; simpa using this))
 | succ n ih=>
  intro c hn hc
  by_cases hall:∀z∈Z,dot d c z=0
  ·exact Int.le_of_eq (dot_zero (hspan c hall))
  ·have:∃z0,z0∈Z∧dot d c z0≠0:=Classical.byContradiction fun h=>hall fun z hz=>Classical.byContradiction fun hne=>h ⟨z,hz,hne⟩
   obtain ⟨z0,hz0,hcz0⟩:=this
   have hcne:∃i,i < d∧c i≠0:=Classical.byContradiction fun h=>hcz0 (dot_zero fun i hi=>Classical.byContradiction fun hne=>h ⟨i,hi,hne⟩)
   by_cases hp:∀u:Nat→Int,(∀z∈Z,dot d c z=0→dot d u z=0)→Par d u c
   ·exact hside c hcne hc hp
   ·have:∃u:Nat→Int,(∀z∈Z,dot d c z=0→dot d u z=0)∧¬Par d u c:=Classical.byContradiction fun h=>hp fun u hu=>Classical.byContradiction fun hne=>h ⟨u,hu,hne⟩
    obtain ⟨u,hu,hnp⟩:=this
    have:∃i j,i < d∧j < d∧u i*c j≠u j*c i:=Classical.byContradiction fun h=>hnp fun i j hi hj=>Classical.byContradiction fun hne=>h ⟨i,j,hi,hj,hne⟩
    obtain ⟨i,j,hi,hj,hne⟩:=this
    -- a direction that is 0 with all that c is,and with one more
    obtain ⟨w,hwdef⟩:∃w:Nat→Int,w=fun k=>dot d c z0*u k+(- dot d u z0)*c k:=⟨_,rfl⟩
    have hwz:∀z,dot d w z=dot d c z0*dot d u z+(- dot d u z0)*dot d c z:=fun z=>by rw [hwdef,dot_lc]
    have hw0:dot d w z0=0:=by rw [hwz]; grind
    have hwt:∀z∈Z,dot d c z=0→dot d w z=0:=fun z hz h0=>by rw [hwz,hu z hz h0,h0]; omega
    have hwn:∃z,z∈Z∧dot d w z≠0:=by
     refine Classical.byContradiction fun h=>?_
     have hz:=hspan w fun z hz=>Classical.byContradiction fun hne=>h ⟨z,hz,hne⟩
     have e1:=hz i hi
     have e2:=hz j hj
     rw [hwdef] at e1 e2
     simp only at e1 e2
     have e3:dot d c z0*(u i*c j-u j*c i)=0:=by
      have:(dot d c z0*u i + - dot d u z0*c i)*c j-(dot d c z0*u j + - dot d u z0*c j)*c i=0:=by rw [e1,e2]; omega
      grind
     rcases Int.mul_eq_zero.1 e3 with h | h
     ·exact hcz0 h
     ·omega
    have more:∀e:Nat→Int,(∀z∈Z,dot d c z=0→dot d e z=0)→(∀z∈Z,dot d e z≤0)→dot d e z0=0→dot d e v≤0:=fun e h1 h2 h3=>
     ih e (by have:=loose_lt h1 hz0 hcz0 h3; omega) h2
    have up:(∃z,z∈Z∧0 < dot d w z)→∃s r:Int,0 < s∧0 < r∧s*dot d c v+r*dot d w v≤0:=by
     intro h
     obtain ⟨s,r,hs,hr,h1,h2⟩:=ray hc hwt h
     exact ⟨s,r,hs,hr,by rw [←dot_lc]; exact ih _ (by omega) h1⟩
    have dn:(∃z,z∈Z∧dot d w z < 0)→∃s r:Int,0 < s∧0 < r∧s*dot d c v-r*dot d w v≤0:=by
     rintro ⟨z,hz,hlt⟩
     obtain ⟨s,r,hs,hr,h1,h2⟩:=ray (w:=fun k=>- w k) hc (fun z hz h0=>by rw [dot_neg,hwt z hz h0]; rfl) ⟨z,hz,by rw [dot_neg]; omega⟩
     have h3:=ih _ (by omega) h1
     rw [dot_lc,dot_neg] at h3
     exact ⟨s,r,hs,hr,by rw [Int.mul_neg] at h3; omega⟩
    have fin:∀{s x:Int},0 < s→s*x≤0→x≤0:=fun {s x} hs h=>by
     rcases Int.lt_or_le 0 x with h1 | h1
     ·have:=Int.mul_pos hs h1; omega
     ·exact h1
    by_cases hup:∃z,z∈Z∧0 < dot d w z
    ·obtain ⟨s,r,hs,hr,h1⟩:=up hup
     by_cases hdn:∃z,z∈Z∧dot d w z < 0
     ·obtain ⟨s',r',hs',hr',h2⟩:=dn hdn
      have h3:(s*r'+s'*r)*dot d c v≤0:=by
       have e1:r'*(s*dot d c v+r*dot d w v)≤0:=Int.mul_nonpos_of_nonneg_of_nonpos (Int.le_of_lt hr') h1
       have e2:r*(s'*dot d c v-r'*dot d w v)≤0:=Int.mul_nonpos_of_nonneg_of_nonpos (Int.le_of_lt hr) h2
       have e3:(s*r'+s'*r)*dot d c v=r'*(s*dot d c v+r*dot d w v)+r*(s'*dot d c v-r'*dot d w v):=by grind
       omega
      exact fin (by have:=Int.mul_pos hs hr'; have:=Int.mul_pos hs' hr; omega) h3
     ·have h2:dot d (fun k=>- w k) v≤0:=more _ (fun z hz h0=>by rw [dot_neg,hwt z hz h0]; rfl) (fun z hz=>by
       rw [dot_neg]
       rcases Int.lt_or_le (dot d w z) 0 with h | h
       ·exact absurd ⟨z,hz,h⟩ hdn
       ·omega) (by rw [dot_neg,hw0]; rfl)
      rw [dot_neg] at h2
      have h4:0≤r*dot d w v:=Int.mul_nonneg (Int.le_of_lt hr) (by omega)
      exact fin hs (by omega)
    ·have h2:dot d w v≤0:=more w hwt (fun z hz=>by
      rcases Int.lt_or_le 0 (dot d w z) with h | h
      ·exact absurd ⟨z,hz,h⟩ hup
      ·exact h) hw0
     obtain ⟨z,hz,hzn⟩:=hwn
     obtain ⟨s',r',hs',hr',h3⟩:=dn ⟨z,hz,by
      rcases Int.lt_or_le 0 (dot d w z) with h | h
      ·exact absurd ⟨z,hz,h⟩ hup
      ·omega⟩
     have h4:r'*dot d w v≤0:=Int.mul_nonpos_of_nonneg_of_nonpos (Int.le_of_lt hr') h2
     exact fin hs' (by omega)
end Go.Proofs.YtdanomklbiidaaaGreatDoor.Lin
