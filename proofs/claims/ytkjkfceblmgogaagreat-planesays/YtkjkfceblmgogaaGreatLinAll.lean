namespace Go.Proofs.YtkjkfceblmgogaaGreat.Lin
def sumN:Nat→(Nat→Int)→Int
 | 0,_=>0
 | n+1,f=>sumN n f+f n
theorem ZAC{n:Nat}{f g:Nat→Int}(h:∀i,i < n→f i=g i):sumN n f=sumN n g:=by
 induction n with
 | zero=>rfl
 | succ n ih=>simp only [sumN]; rw [ih (fun i hi=>h i (by omega)),h n (by omega)]
theorem ZAd{n:Nat}{f:Nat→Int}(h:∀i,i < n→f i=0):sumN n f=0:=by
 induction n with
 | zero=>rfl
 | succ n ih=>simp only [sumN]; rw [ih (fun i hi=>h i (by omega)),h n (by omega)]; rfl
theorem ZA9(n:Nat)(f g:Nat→Int):sumN n (fun i=>f i+g i)=sumN n f+sumN n g:=by
 induction n with
 | zero=>rfl
 | succ n ih=>simp only [sumN]; rw [ih]; omega
theorem ZAV(n:Nat)(c:Int)(f:Nat→Int):sumN n (fun i=>c*f i)=c*sumN n f:=by
 induction n with
 | zero=>simp [sumN]
 | succ n ih=>simp only [sumN]; rw [ih,Int.mul_add]
theorem ZAT(n:Nat)(c:Int)(f:Nat→Int):sumN n (fun i=>f i*c)=sumN n f*c:=by
 rw [Int.mul_comm,←ZAV]; exact ZAC fun i _=>Int.mul_comm _ _
theorem ZBL(n:Nat)(f:Nat→Int):sumN n (fun i=>- f i)=- sumN n f:=by
 induction n with
 | zero=>rfl
 | succ n ih=>simp only [sumN]; rw [ih]; omega
theorem ZBS(n m:Nat)(f:Nat→Nat→Int):sumN n (fun i=>sumN m (fun j=>f i j))=sumN m (fun j=>sumN n (fun i=>f i j)):=by
 induction n with
 | zero=>simp only [sumN]; exact (ZAd fun _ _=>rfl).symm
 | succ n ih=>simp only [sumN]; rw [ih,ZA9]
theorem ZJ8{n:Nat}{f:Nat→Nat→Int}(h:∀i j,i < n→j < n→f i j=- f j i):sumN n (fun i=>sumN n (fun j=>f i j))=0:=by
 have a:sumN n (fun i=>sumN n (fun j=>f i j))=sumN n (fun i=>sumN n (fun j=>- f j i)):=
  ZAC fun i hi=>ZAC fun j hj=>h i j hi hj
 have b:sumN n (fun i=>sumN n (fun j=>- f j i))=- sumN n (fun i=>sumN n (fun j=>f i j)):=by
  rw [←ZBL]
  rw [ZBS n n (fun i j=>- f j i)]
  exact ZAC fun i _=>by rw [ZBL]
 omega
theorem ZAs{n:Nat}{f:Nat→Int}{k:Nat}(hk:k < n)(h:∀i,i < n→i≠k→f i=0):sumN n f=f k:=by
 induction n with
 | zero=>omega
 | succ n ih=>
  simp only [sumN]
  by_cases e:k=n
  ·subst e; rw [ZAd fun i hi=>h i (by omega) (by omega)]; omega
  ·rw [ih (by omega) fun i hi=>h i (by omega),h n (by omega) (fun e'=>e e'.symm)]; omega
def sg:Nat→(Nat→Bool)→Nat→Int
 | 0,_,_=>1
 | n+1,U,k=>if k < n∧U n=true then-sg n U k else sg n U k
def ins(U:Nat→Bool)(k:Nat):Nat→Bool:=fun j=>if j=k then true else U j
theorem ZMo(U:Nat→Bool)(k l:Nat):ins (ins U k) l=ins (ins U l) k:=by
 funext j; unfold ins; by_cases h1:j=l <;> by_cases h2:j=k <;> simp [h1,h2]
theorem ZON{n:Nat}{U:Nat→Bool}{k l:Nat}(hk:k < n)(hU:U k=false):sg n (ins U k) l=sg n U l*(if l < k then -1 else 1):=by
 induction n with
 | zero=>omega
 | succ n ih=>
  simp only [sg]
  by_cases e:k=n
  ·subst e
   have a:∀m,m≤k→sg m (ins U k) l=sg m U l:=by
    intro m c
    induction m with
    | zero=>rfl
    | succ m im=>
     simp only [sg]
     rw [im (by omega)]
     have:ins U k m=U m:=by unfold ins; rw [if_neg (by omega)]
     rw [this]
   rw [a k (by omega)]
   have b:ins U k k=true:=by simp [ins]
   rw [b,hU]
   by_cases hl:l < k
   ·simp [hl]
   ·simp [hl]
  ·have b:ins U k n=U n:=by unfold ins; rw [if_neg (by omega)]
   rw [b,ih (by omega)]
   by_cases h:l < n∧U n=true
   ·rw [if_pos h,if_pos h,Int.neg_mul]
   ·rw [if_neg h,if_neg h]
def od(n:Nat):List (Nat→Int)→(Nat→Bool)→Int
 | [],_=>1
 | r :: rs,U=>sumN n fun k=>if U k then 0 else sg n U k*r k*od n rs (ins U k)
def lc(a:Int)(u:Nat→Int)(b:Int)(v:Nat→Int):Nat→Int:=fun k=>a*u k+b*v k
theorem ZCH(n:Nat)(A B:List (Nat→Int))(a b:Int)(u v:Nat→Int)(U:Nat→Bool) :
  od n (A ++ lc a u b v :: B) U=a*od n (A ++ u :: B) U+b*od n (A ++ v :: B) U:=by
 induction A generalizing U with
 | nil=>
  simp only [List.nil_append,od];rw [←ZAV,←ZAV,←ZA9]
  refine ZAC fun k _=>?_
  cases U k
  ·simp only [Bool.false_eq_true,if_false,lc]; grind
  ·simp
 | cons r A ih=>
  simp only [List.cons_append,od];rw [←ZAV,←ZAV,←ZA9]
  refine ZAC fun k _=>?_
  cases U k
  ·simp only [Bool.false_eq_true,if_false]; rw [ih]; grind
  ·simp
theorem ZDo(n : Nat)(A B : List (Nat → Int))(u : Nat → Int)(U : Nat → Bool) : od n (A ++ u :: u :: B) U = 0 := by
  induction A generalizing U with
  | nil =>
    simp only [List.nil_append, od]
    have e : ∀ k, (if U k = true then (0 : Int) else sg n U k * u k * sumN n fun l => if ins U k l = true then 0 else sg n (ins U k) l * u l * od n B (ins (ins U k) l)) =
        sumN n fun l => if U k = true ∨ U l = true ∨ k = l then 0 else sg n U k * u k * (sg n (ins U k) l * u l * od n B (ins (ins U k) l)) := by
      intro k
      by_cases hk : U k = true
      · simp only [hk, if_true]
        exact (ZAd fun l _ => by simp).symm
      · rw [if_neg hk, ← ZAV]
        refine ZAC fun l _ => ?_
        by_cases hl : U l = true ∨ k = l
        · have : ins U k l = true := by unfold ins; rcases hl with h | h
                                        · simp [h]
                                        · simp [h]
          rw [if_pos this, if_pos (Or.inr hl)]; simp
        · have : ¬ ins U k l = true := by
            unfold ins; rw [if_neg (fun e => hl (Or.inr e.symm))]; exact fun h => hl (Or.inl h)
          rw [if_neg this, if_neg (by intro h; rcases h with h | h; exact hk h; exact hl h)]
    rw [ZAC fun k _ => e k]
    refine ZJ8 fun k l hk hl => ?_
    by_cases h : U k = true ∨ U l = true ∨ k = l
    · rw [if_pos h, if_pos (by rcases h with h | h | h; exact Or.inr (Or.inl h); exact Or.inl h; exact Or.inr (Or.inr h.symm))]; rfl
    · rw [if_neg h, if_neg (by intro a; apply h; rcases a with a | a | a; exact Or.inr (Or.inl a); exact Or.inl a; exact Or.inr (Or.inr a.symm))]
      have c : U k = false := by cases e : U k; rfl; exact absurd (Or.inl e) h
      have b : U l = false := by cases e : U l; rfl; exact absurd (Or.inr (Or.inl e)) h
      have d : k ≠ l := fun e => h (Or.inr (Or.inr e))
      rw [ZON hk c, ZON hl b, ZMo U k l]
      by_cases hlt : k < l
      · rw [if_neg (by omega : ¬ l < k), if_pos hlt]; grind
      · rw [if_pos (by omega : l < k), if_neg hlt]; grind
  | cons r A ih =>
    simp only [List.cons_append, od]
    refine ZAd fun k _ => ?_
    rw [ih]; simp
theorem od_congr{n:Nat}{A B:List (Nat→Int)}(hl:A.length=B.length)(h:∀i,i < A.length→∀k,k < n→(A.getD i (fun _=>0)) k=(B.getD i (fun _=>0)) k)(U:Nat→Bool):od n A U=od n B U:=by
 induction A generalizing B U with
 | nil=>cases B with
  | nil=>rfl
  | cons b B=>simp at hl
 | cons a A ih=>cases B with
  | nil=>simp at hl
  | cons b B=>
   simp only [od]
   refine ZAC fun k hk=>?_
   have c:=h 0 (by simp) k hk
   simp only [List.getD_cons_zero] at c
   rw [c,ih (by simpa using hl) (fun i hi k hk=>by have:=h (i+1) (by simpa using hi) k hk; simpa using this)]
theorem ZJ9(n:Nat)(A B:List (Nat→Int))(u v:Nat→Int)(U:Nat→Bool):od n (A ++ u :: v :: B) U=- od n (A ++ v :: u :: B) U:=by
 have h:=ZDo n A B (lc 1 u 1 v) U;have a:=ZCH n A (lc 1 u 1 v :: B) 1 1 u v U;have b:=ZCH n (A ++ [u]) B 1 1 u v U;have c:=ZCH n (A ++ [v]) B 1 1 u v U;simp only [List.append_assoc,List.cons_append,List.nil_append] at b c;have d:=ZDo n A B u U;have f:=ZDo n A B v U;rw [h] at a;rw [b,c,d,f] at a;omega
theorem ZD0(n:Nat)(A B C:List (Nat→Int))(u:Nat→Int)(U:Nat→Bool):od n (A ++ u :: (B ++ u :: C)) U=0:=by
 induction B generalizing A with
 | nil=>exact ZDo n A C u U
 | cons b B ih=>
  rw [List.cons_append,ZJ9];have:=ih (A ++ [b]);simp only [List.append_assoc,List.cons_append,List.nil_append] at this;rw [this]; rfl
theorem ZKA(n:Nat)(A B C:List (Nat→Int))(u v:Nat→Int)(U:Nat→Bool):od n (A ++ u :: (B ++ v :: C)) U=- od n (A ++ v :: (B ++ u :: C)) U:=by
 have h:=ZD0 n A B C (lc 1 u 1 v) U;have c:=ZCH n A (B ++ lc 1 u 1 v :: C) 1 1 u v U;have a:=ZCH n (A ++ u :: B) C 1 1 u v U;have b:=ZCH n (A ++ v :: B) C 1 1 u v U;simp only [List.append_assoc,List.cons_append] at a b;rw [h,a,b,ZD0,ZD0] at c;omega
def comb(m:Nat)(c:Nat→Int)(L:Nat→Nat→Int):Nat→Int:=fun k=>sumN m fun i=>c i*L i k
def row(L:List (Nat→Int))(i:Nat):Nat→Int:=L.getD i fun _=>0
theorem ZBT{L:List (Nat→Int)}{p:Nat}(hp:p < L.length)(x:Nat→Int):L.set p x=L.take p ++ x :: L.drop (p+1):=by
 rw [List.set_eq_take_append_cons_drop,if_pos hp]
theorem ZD1{n:Nat}{L:List (Nat→Int)}{p:Nat}(hp:p < L.length)(U:Nat→Bool){x:Nat→Int}(hx:∀k,k < n→x k=0):od n (L.set p x) U=0:=by
 rw [ZBT hp];have e:=ZCH n (L.take p) (L.drop (p+1)) 0 0 x x U;simp only [Int.zero_mul,Int.add_zero] at e;rw [←e]
 refine od_congr (by simp) (fun i hi k hk=>?_) U
 by_cases h:i=p
 ·subst h
  have a:(L.take i).length=i:=by simp; omega
  have q:∀y:Nat→Int,(L.take i ++ y :: L.drop (i+1)).getD i (fun _=>0)=y:=by
   intro y; simp only [List.getD_eq_getElem?_getD]; rw [List.getElem?_append_right (by omega)]; simp [a]
  rw [q,q,hx k hk]; simp [lc]
 ·have q:∀y z:Nat→Int,(L.take p ++ y :: L.drop (p+1)).getD i (fun _=>0)=(L.take p ++ z :: L.drop (p+1)).getD i (fun _=>0):=by
   intro y z;rw [←ZBT hp,←ZBT hp];simp only [List.getD_eq_getElem?_getD]
   rw [List.getElem?_set_ne (by omega),List.getElem?_set_ne (by omega)]
  rw [q x (lc 0 x 0 x)]
theorem ZJO{n:Nat}{L:List (Nat→Int)}{p:Nat}(hp:p < L.length)(U:Nat→Bool)(a b:Int)(u v:Nat→Int) :
  od n (L.set p (lc a u b v)) U=a*od n (L.set p u) U+b*od n (L.set p v) U:=by
 rw [ZBT hp,ZBT hp,ZBT hp]; exact ZCH n _ _ a b u v U
theorem ZD2{L:List (Nat→Int)}{i p:Nat}(hip:i < p)(hp:p < L.length):∃A B C x y,L=A ++ x :: (B ++ y :: C)∧A.length=i∧i+1+B.length=p:=by
 refine ⟨L.take i,(L.drop (i+1)).take (p-(i+1)),L.drop (p+1),L[i],L[p],?_,by simp; omega,by simp; omega⟩
 have b:L=L.take i ++ L[i] :: L.drop (i+1):=by rw [List.getElem_cons_drop,List.take_append_drop]
 have a:L.drop (i+1)=(L.drop (i+1)).take (p-(i+1)) ++ L[p] :: L.drop (p+1):=by
  have q:=(List.take_append_drop (p-(i+1)) (L.drop (i+1))).symm
  rw [List.drop_drop,show i+1+(p-(i+1))=p by omega] at q
  rw [←List.getElem_cons_drop (h:=hp)] at q;exact q
 rw [←a]; exact b
theorem ZIa{A B:List (Nat→Int)}{x y:Nat→Int}{p:Nat}(h:A.length=p):(A ++ x :: B).set p y=A ++ y :: B:=by
 subst h; simp
theorem ZGW{n:Nat}{L:List (Nat→Int)}{p i:Nat}(hp:p < L.length)(hi:i < L.length)(hne:i≠p)(U:Nat→Bool):od n (L.set p (row L i)) U=0:=by
 by_cases hip:i < p
 ·obtain ⟨A,B,C,x,y,rfl,b,c⟩:=ZD2 hip hp
  have a:row (A ++ x :: (B ++ y :: C)) i=x:=by subst b; simp [row]
  rw [a]
  have e:A ++ x :: (B ++ y :: C)=(A ++ x :: B) ++ y :: C:=by simp
  rw [e,ZIa (by simp; omega)]
  have:=ZD0 n A B C x U
  simpa using this
 ·obtain ⟨A,B,C,x,y,rfl,b,c⟩:=ZD2 (show p < i by omega) hi
  have a:row (A ++ x :: (B ++ y :: C)) i=y:=by
   have e:A ++ x :: (B ++ y :: C)=(A ++ x :: B) ++ y :: C:=by simp
   rw [e]; unfold row; simp only [List.getD_eq_getElem?_getD]
   rw [List.getElem?_append_right (by simp; omega)]
   simp [show i-(A.length+(B.length+1))=0 by omega]
  rw [a,ZIa b];exact ZD0 n A B C y U
theorem ZHW{L:List (Nat→Int)}{p:Nat}(hp:p < L.length):L.set p (row L p)=L:=by
 have:row L p=L[p]:=by simp [row,hp]
 rw [this,List.set_getElem_self]
theorem ZHX{n m:Nat}{L:List (Nat→Int)}{p:Nat}(hp:p < L.length)(hm:m≤L.length)(c:Nat→Int)(U:Nat→Bool) :
  od n (L.set p (comb m c (row L))) U=(if p < m then c p else 0)*od n L U:=by
 induction m with
 | zero=>rw [ZD1 hp U (x:=comb 0 c (row L)) (fun k _=>rfl)]; simp
 | succ m ih=>
  have e:comb (m+1) c (row L)=lc 1 (comb m c (row L)) (c m) (row L m):=by
   funext k; simp [comb,lc,sumN]
  rw [e,ZJO hp,ih (by omega)]
  by_cases h:m=p
  ·subst h; rw [ZHW hp]; simp
  ·rw [ZGW hp (by omega) h]
   by_cases h2:p < m
   ·simp [h2,show p < m+1 by omega]
   ·simp [h2,show ¬p < m+1 by omega]
theorem ZIb{n:Nat}{L:List (Nat→Int)}{c:Nat→Int}{p:Nat}(hp:p < L.length)(hc:c p≠0)(h:∀k,k < n→comb L.length c (row L) k=0)(U:Nat→Bool):od n L U=0:=by
 have e:=ZHX (n:=n) hp (Nat.le_refl _) c U;rw [ZD1 hp U h,if_pos hp] at e
 rcases Int.mul_eq_zero.1 e.symm with h0 | h0
 ·exact absurd h0 hc
 ·exact h0
def cu:Nat→(Nat→Bool)→Nat
 | 0,_=>0
 | n+1,U=>cu n U+if U n then 0 else 1
theorem cu_ins{n:Nat}{U:Nat→Bool}{k:Nat}(hk:k < n)(hU:U k=false):cu n (ins U k)+1=cu n U:=by
 induction n with
 | zero=>omega
 | succ n ih=>
  simp only [cu]
  by_cases e:k=n
  ·subst e
   have b:∀m,m≤k→cu m (ins U k)=cu m U:=by
    intro m c
    induction m with
    | zero=>rfl
    | succ m im=>
     have a:ins U k m=U m:=by unfold ins; rw [if_neg (by omega)]
     simp only [cu]; rw [im (by omega),a]
   rw [b k (Nat.le_refl _),hU];simp [ins]
  ·have a:ins U k n=U n:=by unfold ins; rw [if_neg (by omega)]
   rw [a]
   have:=ih (by omega)
   omega
theorem ZQN{n:Nat}{U:Nat→Bool}{k:Nat}(hk:k < n)(hU:U k=false):0 < cu n U:=by
 have:=cu_ins hk hU; omega
theorem cu_none(n:Nat):cu n (fun _=>false)=n:=by
 induction n with
 | zero=>rfl
 | succ n ih=>simp [cu,ih]
theorem ZQO{n:Nat}{q:Nat}(hq:q < n)(L:List (Nat→Int))(U:Nat→Bool)(hU:U q=false)(hL:∀r∈L,r q=0)(hc:cu n U≤L.length):od n L U=0:=by
 induction L generalizing U with
 | nil=>have:=ZQN hq hU; simp at hc; omega
 | cons r L ih=>
  simp only [od]
  refine ZAd fun k hk=>?_
  cases hk':U k
  ·simp only [Bool.false_eq_true,if_false]
   by_cases e:k=q
   ·subst e; rw [hL r (by simp)]; simp
   ·rw [ih (ins U k) (by unfold ins; rw [if_neg (fun h=>e h.symm)]; exact hU) (fun r hr=>hL r (by simp [hr])) (by have:=cu_ins hk hk'; simp at hc; omega)]
    simp
  ·simp
theorem sg_last{n:Nat}(U:Nat→Bool){k:Nat}(hk:n≤k+1):sg n U k=1:=by
 induction n with
 | zero=>rfl
 | succ n ih=>simp only [sg]; rw [if_neg (by omega),ih (by omega)]
theorem ZOy{n:Nat}{U:Nat→Bool}(hU:U n=false)(k:Nat):sg (n+1) U k=sg n U k:=by
 simp only [sg,hU]; simp
theorem ZOO{n:Nat}(L:List (Nat→Int))(v:Nat→Int)(hv:∀k,k < n→v k=0)(U:Nat→Bool) :
  od (n+1) (L ++ [v]) U=if U n then 0 else od n L U*v n:=by
 induction L generalizing U with
 | nil=>
  simp only [List.nil_append,od,sumN]
  rw [ZAd (fun k hk=>by rw [hv k hk]; simp)]
  rw [sg_last U (by omega)]
  cases U n <;> simp
 | cons r L ih=>
  simp only [List.cons_append,od]
  cases hU:U n
  ·simp only [Bool.false_eq_true,if_false]
   rw [sumN,ih,hU];simp only [Bool.false_eq_true,if_false]
   rw [if_pos (by simp [ins]),Int.mul_zero,Int.add_zero,←ZAT]
   refine ZAC fun k hk=>?_
   cases U k
   ·simp only [Bool.false_eq_true,if_false]
    rw [ih,if_neg (by unfold ins; rw [if_neg (by omega),hU]; simp),ZOy hU]
    simp only [Int.mul_assoc]
   ·simp
  ·simp only [if_true]
   refine ZAd fun k hk=>?_
   cases hk':U k
   ·rw [ih]
    have:ins U k n=true:=by unfold ins; by_cases e:n=k <;> simp [e,hU]
    rw [this]; simp
   ·simp
def Rising(m c:Nat)(C:Nat→Nat):Prop:=(∀i j,i < j→j < m→C i < C j)∧∀i,i < m→C i < c
def cols(L:List (Nat→Int))(C:Nat→Nat):List (Nat→Int):=L.map fun r=>fun k=>r (C k)
def skp(p i:Nat):Nat:=if i < p then i else i+1
theorem ZKB{L:List (Nat→Int)}{p i:Nat} : row (L.eraseIdx p) i=row L (skp p i):=by
 unfold row skp;simp only [List.getD_eq_getElem?_getD]
 by_cases h:i < p
 ·rw [List.getElem?_eraseIdx_of_lt h,if_pos h]
 ·rw [List.getElem?_eraseIdx_of_ge (by omega),if_neg h]
theorem ZIc{n : Nat}{f : Nat → Int}{p : Nat}(hp : p ≤ n) : sumN (n + 1) f = sumN n (fun i => f (skp p i)) + f p := by
  induction n with
  | zero => have : p = 0 := by omega
            subst this; simp [sumN]
  | succ n ih =>
    by_cases e : p = n + 1
    · subst e
      rw [sumN]
      congr 1
      exact ZAC fun i hi => by unfold skp; rw [if_pos (by omega)]
    · rw [sumN, ih (by omega), sumN]
      have : skp p n = n + 1 := by unfold skp; rw [if_neg (by omega)]
      rw [this]; omega
theorem ZKC(n:Nat)(v:Nat→Int)(x:Int)(g:(Nat→Int)→Int)(Q:List (Nat→Int))(P:List (Nat→Int))(U:Nat→Bool) :
  od n (P ++ (Q.map fun r=>lc x r (- g r) v) ++ [v]) U=x ^ Q.length*od n (P ++ Q ++ [v]) U:=by
 induction Q generalizing P with
 | nil=>simp
 | cons q Q ih=>
  simp only [List.map_cons,List.length_cons]
  have e:=ZCH n P ((Q.map fun r=>lc x r (- g r) v) ++ [v]) x (- g q) q v U
  have z:=ZD0 n P (Q.map fun r=>lc x r (- g r) v) [] v U
  rw [z,Int.mul_zero,Int.add_zero] at e;have h:=ih (P ++ [q]);simp only [List.append_assoc,List.cons_append,List.nil_append] at e h ⊢;rw [e,h,Int.pow_succ]; grind
theorem ZKD(n:Nat)(A B:List (Nat→Int))(v:Nat→Int)(U:Nat→Bool):od n (A ++ v :: B) U=0↔od n (A ++ B ++ [v]) U=0:=by
 induction B generalizing A with
 | nil=>simp
 | cons b B ih=>
  rw [ZJ9];have h:=ih (A ++ [b]);simp only [List.append_assoc,List.cons_append,List.nil_append] at h ⊢;rw [←h]; omega
def ZOP(p j:Nat):Nat:=if j < p then j else j-1
theorem ZDp(p i:Nat):ZOP p (skp p i)=i:=by
 unfold ZOP skp
 by_cases h:i < p
 ·simp [h]
 ·simp [h,show ¬i+1 < p by omega]
theorem ZKE(p i:Nat):skp p i≠p:=by
 unfold skp; by_cases h:i < p <;> simp [h] <;> omega
theorem ZQP{p i n:Nat}(hi:i < n):skp p i < n+1:=by
 unfold skp; by_cases h:i < p <;> simp [h] <;> omega
theorem ZKF{L:List (Nat→Int)}{f:(Nat→Int)→(Nat→Int)}{i:Nat}(hi:i < L.length):row (L.map f) i=f (row L i):=by
 simp [row,hi]
theorem ZB0{L:List (Nat→Int)}{i:Nat}(hi:i < L.length):row L i∈L:=by
 have:row L i=L[i]:=by simp [row,hi]
 rw [this]; exact List.getElem_mem hi
theorem ZHY{L:List (Nat→Int)}{r:Nat→Int}(h:r∈L):∃i,i < L.length∧row L i=r:=by
 obtain ⟨i,a,e⟩:=List.mem_iff_getElem.1 h
 exact ⟨i,a,by simp [row,a,e]⟩
theorem elim(c : Nat) : ∀ L : List (Nat → Int), (∃ C, Rising L.length c C ∧ od L.length (cols L C) (fun _ => false) ≠ 0) ∨
    (∃ d p, p < L.length ∧ d p ≠ 0 ∧ ∀ k, k < c → comb L.length d (row L) k = 0) := by
  induction c with
  | zero =>
    intro L
    by_cases hL : L.length = 0
    · left
      refine ⟨id, ⟨fun i j _ hj => by omega, fun i f => by omega⟩, ?_⟩
      have : L = [] := List.eq_nil_of_length_eq_zero hL;subst this;simp [cols, od]
    · right; exact ⟨fun _ => 1, 0, by omega, by decide, fun k hk => by omega⟩
  | succ c ih =>
    intro L
    by_cases hz : ∀ r ∈ L, r c = 0
    · rcases ih L with ⟨C, hC, hod⟩ | ⟨d, p, s, hd, hk⟩
      · exact Or.inl ⟨C, ⟨hC.1, fun i f => by have := hC.2 i f; omega⟩, hod⟩
      · refine Or.inr ⟨d, p, s, hd, fun k hk' => ?_⟩
        by_cases e : k = c
        · subst e
          exact ZAd fun i f => by rw [hz _ (ZB0 f), Int.mul_zero]
        · exact hk k (by omega)
    · have B : ∃ p, p < L.length ∧ row L p c ≠ 0 := by
        apply Classical.byContradiction
        intro R
        apply hz
        intro r g;obtain ⟨i, f, rfl⟩ := ZHY g
        apply Classical.byContradiction
        intro t;exact R ⟨i, f, t⟩
      obtain ⟨p, s, J⟩ := B
      obtain ⟨m, y⟩ : ∃ m, L.length = m + 1 := ⟨L.length - 1, by omega⟩
      have l : ((L.eraseIdx p).map fun r => lc (row L p c) r (- r c) (row L p)).length = m := by
        rw [List.length_map, List.length_eraseIdx, if_pos s]; omega
      have D : (L.eraseIdx p).length = m := by rw [List.length_eraseIdx, if_pos s]; omega
      have o : ∀ i, i < m → row ((L.eraseIdx p).map fun r => lc (row L p c) r (- r c) (row L p)) i = lc (row L p c) (row L (skp p i)) (- row L (skp p i) c) (row L p) := by
        intro i f
        rw [ZKF (by omega), ZKB]
      rcases ih ((L.eraseIdx p).map fun r => lc (row L p c) r (- r c) (row L p)) with ⟨C, hC, hod⟩ | ⟨d, q, hq, hd, hk⟩
      · left
        rw [l] at hC hod
        have E : L = L.take p ++ row L p :: L.drop (p + 1) := by
          rw [← ZBT s, ZHW s]
        have z : L.eraseIdx p = L.take p ++ L.drop (p + 1) := List.eraseIdx_eq_take_drop_succ L p
        refine ⟨fun i => if i < m then C i else c, ⟨fun i j hij hj => ?_, fun i f => ?_⟩, ?_⟩
        · rw [y] at hj
          show (if i < m then C i else c) < (if j < m then C j else c)
          by_cases hjm : j < m
          · rw [if_pos (by omega), if_pos hjm]; exact hC.1 i j hij hjm
          · rw [if_pos (by omega), if_neg hjm]; exact hC.2 i (by omega)
        · show (if i < m then C i else c) < c + 1
          by_cases him : i < m
          · rw [if_pos him]; have := hC.2 i him; omega
          · rw [if_neg him]; omega
        · rw [y]
          intro t
          have M : cols L (fun i => if i < m then C i else c) = cols (L.take p) (fun i => if i < m then C i else c) ++ (fun k => row L p ((fun i => if i < m then C i else c) k)) :: cols (L.drop (p + 1)) (fun i => if i < m then C i else c) := by
            conv => lhs; rw [E]
            simp [cols]
          rw [M, ZKD] at t
          have F : cols (L.take p) (fun i => if i < m then C i else c) ++ cols (L.drop (p + 1)) (fun i => if i < m then C i else c) = cols (L.eraseIdx p) (fun i => if i < m then C i else c) := by
            rw [z]; simp [cols]
          rw [F] at t
          have G := ZKC (m + 1) (fun k => row L p ((fun i => if i < m then C i else c) k)) (row L p c) (fun r => r m) (cols (L.eraseIdx p) (fun i => if i < m then C i else c)) [] (fun _ => false)
          rw [List.nil_append, List.nil_append, t, Int.mul_zero] at G
          have Q : (cols (L.eraseIdx p) (fun i => if i < m then C i else c)).map (fun r => lc (row L p c) r (- r m) (fun k => row L p ((fun i => if i < m then C i else c) k))) =
              cols ((L.eraseIdx p).map fun r => lc (row L p c) r (- r c) (row L p)) (fun i => if i < m then C i else c) := by
            simp [cols, lc, Function.comp_def];intro a _
            funext k
            rfl
          rw [Q] at G
          -- the last row in two parts
          have N : (fun k => row L p ((fun i => if i < m then C i else c) k)) = lc 1 (fun k => if k < m then row L p (C k) else 0) 1 (fun k => if k < m then 0 else row L p c) := by
            funext k; simp only [lc]; by_cases hk : k < m <;> simp [hk]
          have v := ZCH (m + 1) (cols ((L.eraseIdx p).map fun r => lc (row L p c) r (- r c) (row L p)) (fun i => if i < m then C i else c)) [] 1 1 (fun k => if k < m then row L p (C k) else 0) (fun k => if k < m then 0 else row L p c) (fun _ => false)
          rw [← N, G] at v
          have x : ∀ r ∈ cols ((L.eraseIdx p).map fun r => lc (row L p c) r (- r c) (row L p)) (fun i => if i < m then C i else c), r m = 0 := by
            intro r g;simp only [cols, List.mem_map] at g;obtain ⟨a, ⟨b, T, rfl⟩, rfl⟩ := g;simp [lc]; grind
          have O := ZQO (n := m + 1) (q := m) (by omega) (cols ((L.eraseIdx p).map fun r => lc (row L p c) r (- r c) (row L p)) (fun i => if i < m then C i else c) ++ [fun k => if k < m then row L p (C k) else 0]) (fun _ => false) rfl
            (by intro r g
                rcases List.mem_append.1 g with g | g
                · exact x r g
                · simp at g; subst g; simp)
            (by rw [cu_none]; simp [cols, D])
          have P := ZOO (n := m) (cols ((L.eraseIdx p).map fun r => lc (row L p c) r (- r c) (row L p)) (fun i => if i < m then C i else c)) (fun k => if k < m then 0 else row L p c) (fun k hk => by simp [hk]) (fun _ => false)
          rw [O, P] at v
          have S : od m (cols ((L.eraseIdx p).map fun r => lc (row L p c) r (- r c) (row L p)) (fun i => if i < m then C i else c)) (fun _ => false) = od m (cols ((L.eraseIdx p).map fun r => lc (row L p c) r (- r c) (row L p)) C) (fun _ => false) := by
            refine od_congr (by simp [cols]) (fun i f k hk => ?_) _
            have A : i < (L.eraseIdx p).length := by simpa [cols] using f
            simp [cols, A, hk]
          rw [S] at v;simp only [Bool.false_eq_true, if_false, Int.mul_zero, Int.one_mul, Int.zero_add, Nat.lt_irrefl] at v
          rcases Int.mul_eq_zero.1 v.symm with h | h
          · exact hod h
          · exact J h
      · right
        rw [l] at hq hk
        refine ⟨fun j => if j = p then - sumN m (fun i => d i * row L (skp p i) c) else row L p c * d (ZOP p j), skp p q, ?_, ?_, fun k _ => ?_⟩
        · rw [y]; exact ZQP hq
        · simp only [ZKE, if_false, ZDp]
          exact Int.mul_ne_zero J hd
        · rw [y]
          have F : comb (m + 1) (fun j => if j = p then - sumN m (fun i => d i * row L (skp p i) c) else row L p c * d (ZOP p j)) (row L) k =
              comb m d (row ((L.eraseIdx p).map fun r => lc (row L p c) r (- r c) (row L p))) k := by
            unfold comb
            rw [ZIc (p := p) (by omega)]
            simp only [if_true, ZKE, if_false, ZDp];rw [Int.neg_mul, ← ZAT, ← ZBL, ← ZA9]
            refine ZAC fun i f => ?_
            rw [o i f]; simp only [lc]; grind
          rw [F]
          by_cases e : k = c
          · subst e
            refine ZAd fun i f => ?_
            rw [o i f]; simp only [lc]; grind
          · exact hk k (by omega)
theorem ZFh{c m t:Nat}{A B:Nat→Nat→Int}{e:Nat→Int}{f:Nat→Nat→Int}(hmt:t < m)(he:∀i,i < m→e i≠0)(h:∀i,i < m→∀k,k < c→e i*A i k=comb t (f i) B k) :
  ∃d p,p < m∧d p≠0∧∀k,k < c→comb m d A k=0:=by
 have j:((List.range m).map f).length=m:=by simp
 have o:∀i,i < m→row ((List.range m).map f) i=f i:=by
  intro i b; simp [row,b]
 rcases elim t ((List.range m).map f) with ⟨C,hC,_⟩ | ⟨d,p,hp,hd,hk⟩
 ·exfalso
  rw [j] at hC
  have:∀i,i < m→i≤C i:=by
   intro i
   induction i with
   | zero=>intro _; omega
   | succ i ih=>intro b; have:=ih (by omega); have:=hC.1 i (i+1) (by omega) b; omega
  have r:=this (m-1) (by omega)
  have s:=hC.2 (m-1) (by omega)
  omega
 ·rw [j] at hp hk
  refine ⟨fun i=>d i*e i,p,hp,Int.mul_ne_zero hd (he p hp),fun k hkc=>?_⟩
  have l:comb m (fun i=>d i*e i) A k=sumN m (fun i=>sumN t (fun a=>d i*(f i a*B a k))):=by
   refine ZAC fun i b=>?_
   rw [Int.mul_assoc,h i b k hkc];unfold comb; rw [←ZAV]
  rw [l,ZBS]
  refine ZAd fun a ha=>?_
  have g:=hk a ha;unfold comb at g
  have n:sumN m (fun i=>d i*(f i a*B a k))=sumN m (fun i=>d i*row ((List.range m).map f) i a)*B a k:=by
   rw [←ZAT]
   exact ZAC fun i b=>by rw [o i b,Int.mul_assoc]
  rw [n,g,Int.zero_mul]
def ZDn(C:Nat→Nat)(k j:Nat):Nat→Nat:=fun b=>if b < k then C b else j
def ZAr(M:Nat→Nat→Int)(k:Nat):List (Nat→Int):=(List.range k).map M
def rho(M:Nat→Nat→Int)(C:Nat→Nat)(k:Nat)(u:Nat→Int)(j:Nat):Int:=od (k+1) (cols (ZAr M k ++ [u]) (ZDn C k j)) fun _=>false
def dk(M:Nat→Nat→Int)(C:Nat→Nat)(k:Nat):Int:=od k (cols (ZAr M k) C) fun _=>false
theorem ZB1(A B:List (Nat→Int))(C:Nat→Nat):cols (A ++ B) C=cols A C ++ cols B C:=by simp [cols]
theorem ZA3(A:List (Nat→Int))(C:Nat→Nat):(cols A C).length=A.length:=by simp [cols]
theorem ZAk(M:Nat→Nat→Int)(k:Nat):(ZAr M k).length=k:=by simp [ZAr]
theorem ZKG{M:Nat→Nat→Int}{k a:Nat}(h:a < k):row (ZAr M k) a=M a:=by simp [row,ZAr,h]
theorem ZBP{L:List (Nat→Int)}{C:Nat→Nat}{a:Nat}(h:a < L.length):row (cols L C) a=fun k=>row L a (C k):=by
 unfold cols; rw [ZKF h]
theorem ZD3(M:Nat→Nat→Int)(C:Nat→Nat)(k:Nat)(a b:Int)(u v:Nat→Int)(j:Nat):rho M C k (lc a u b v) j=a*rho M C k u j+b*rho M C k v j:=by
 have h:=ZCH (k+1) (cols (ZAr M k) (ZDn C k j)) [] a b (fun i=>u (ZDn C k j i)) (fun i=>v (ZDn C k j i)) (fun _=>false)
 unfold rho;rw [ZB1,ZB1,ZB1];exact h
theorem ZCa{M:Nat→Nat→Int}{C:Nat→Nat}{k:Nat}{u:Nat→Int}(h:∀b,b < k→u (C b)=0)(j:Nat):rho M C k u j=dk M C k*u j:=by
 unfold rho dk;rw [ZB1]
 have e:=ZOO (n:=k) (cols (ZAr M k) (ZDn C k j)) (fun i=>u (ZDn C k j i)) (fun b hb=>by unfold ZDn; rw [if_pos hb]; exact h b hb) (fun _=>false)
 have c:cols [u] (ZDn C k j)=[fun i=>u (ZDn C k j i)]:=rfl
 rw [c,e]
 have d:od k (cols (ZAr M k) (ZDn C k j)) (fun _=>false)=od k (cols (ZAr M k) C) (fun _=>false):=by
  refine od_congr (by simp [cols]) (fun i hi b hb=>?_) _
  have a:i < (ZAr M k).length:=by simpa [cols] using hi
  simp [cols,a,ZDn,hb]
 rw [d];simp [ZDn]
def cf(k a:Nat):Nat→Int:=fun i=>if i=k then 1 else if i=a then -1 else 0
theorem ZHZ{M:Nat→Nat→Int}{C:Nat→Nat}{k a:Nat}(ha:a < k)(j:Nat):rho M C k (M a) j=0:=by
 unfold rho
 have m:(cols (ZAr M k ++ [M a]) (ZDn C k j)).length=k+1:=by simp [cols,ZAk]
 refine ZIb (p:=k) (c:=cf k a) (by omega) (by simp [cf]) (fun b hb=>?_) _
 rw [m];unfold comb;rw [sumN]
 have g:row (cols (ZAr M k ++ [M a]) (ZDn C k j)) k b=M a (ZDn C k j b):=by
  rw [ZBP (by simp [ZAk])]
  simp [row,ZAr]
 have d:∀i,i < k→row (cols (ZAr M k ++ [M a]) (ZDn C k j)) i b=M i (ZDn C k j b):=by
  intro i d
  rw [ZBP (by simp [ZAk]; omega)]
  simp only [row,List.getD_eq_getElem?_getD]
  rw [List.getElem?_append_left (by simpa [ZAk] using d)]
  simp [ZAr,d]
 have n:cf k a a=-1:=by unfold cf; rw [if_neg (by omega),if_pos rfl]
 have l:cf k a k=1:=by unfold cf; rw [if_pos rfl]
 rw [ZAs (k:=a) ha (fun i hi' hne=>by
  have f:cf k a i=0:=by unfold cf; rw [if_neg (by omega),if_neg hne]
  rw [f,Int.zero_mul])]
 rw [g,d a ha,n,l];omega
theorem ZFi(M:Nat→Nat→Int)(C:Nat→Nat)(k:Nat)(m:Nat)(c:Nat→Int)(L:Nat→Nat→Int)(j:Nat):rho M C k (comb m c L) j=sumN m fun i=>c i*rho M C k (L i) j:=by
 induction m with
 | zero=>
  have h:=ZCa (M:=M) (C:=C) (k:=k) (u:=comb 0 c L) (fun b _=>rfl) j
  rw [h]; simp [comb,sumN]
 | succ m ih=>
  have e:comb (m+1) c L=lc 1 (comb m c L) (c m) (L m):=by funext x; simp [comb,lc,sumN]
  rw [e,ZD3,ih]; simp [sumN]
theorem ZD4{M:Nat→Nat→Int}{C:Nat→Nat}{k:Nat}(hD:dk M C k≠0)(u:Nat→Int) :
  ∃e l,e≠0∧(∀b,b < k→e*u (C b)=comb k l M (C b))∧∀j,e*rho M C k u j=dk M C k*(e*u j-comb k l M j):=by
 -- k+1 vectors of k numbers
 have J:=ZFh (c:=k) (m:=k+1) (t:=k) (A:=fun i b=>if i < k then M i (C b) else u (C b)) (B:=fun a b=>if a=b then 1 else 0) (e:=fun _=>1)
  (f:=fun i a=>if i < k then M i (C a) else u (C a)) (by omega) (fun _ _=>by decide) (fun i _ b n=>by
   unfold comb
   rw [ZAs (k:=b) n (fun a _ hne=>by simp [hne])]
   simp)
 obtain ⟨d,p,L,D,G⟩:=J
 have o:∀b,b < k→comb k d M (C b)+d k*u (C b)=0:=by
  intro b n;have:=G b n;unfold comb at this ⊢;rw [sumN] at this
  rw [ZAC (g:=fun i=>d i*M i (C b)) (fun i hi=>by simp [hi])] at this
  simpa using this
 have v:d k≠0:=by
  intro z
  apply hD
  have s:p < k:=by
   by_cases e:p=k
   ·subst e; exact absurd z D
   ·omega
  unfold dk
  refine ZIb (p:=p) (c:=d) (by simpa [cols,ZAk] using s) D (fun b n=>?_) _
  have r:=o b n;rw [z,Int.zero_mul,Int.add_zero] at r;rw [ZA3,ZAk];unfold comb at r ⊢;rw [←r]
  refine ZAC fun i hi=>?_
  rw [ZBP (by simpa [ZAk] using hi),ZKG hi]
 refine ⟨d k,fun i=>- d i,v,fun b n=>?_,fun j=>?_⟩
 ·have r:=o b n
  have E:comb k (fun i=>- d i) M (C b)=- comb k d M (C b):=by
   unfold comb; rw [←ZBL]; exact ZAC fun i _=>by rw [Int.neg_mul]
  omega
 ·have E:∀x,comb k (fun i=>- d i) M x=- comb k d M x:=by
   intro x; unfold comb; rw [←ZBL]; exact ZAC fun i _=>by rw [Int.neg_mul]
  have F:∀b,b < k→(lc (d k) u 1 (comb k d M)) (C b)=0:=by
   intro b n; have:=o b n; simp only [lc]; omega
  have y:=ZCa (M:=M) F j
  rw [ZD3,ZFi,ZAd (fun i hi=>by rw [ZHZ hi,Int.mul_zero])] at y
  rw [E];simp only [lc] at y
  rw [show d k*u j - - comb k d M j=d k*u j+1*comb k d M j by omega,←y]
  omega
theorem ZQQ{M:Nat→Nat→Int}{C:Nat→Nat}{k:Nat}(hD:dk M C k≠0)(u:Nat→Int){b:Nat}(hb:b < k):rho M C k u (C b)=0:=by
 obtain ⟨e,l,c,d,a⟩:=ZD4 hD u;have:=a (C b);rw [d b hb,Int.sub_self,Int.mul_zero] at this
 rcases Int.mul_eq_zero.1 this with h | h
 ·exact absurd h c
 ·exact h
theorem ZHa(M:Nat→Nat→Int)(C:Nat→Nat)(k:Nat):dk M C (k+1)=rho M C k (M k) (C k):=by
 unfold dk rho
 have e:ZAr M (k+1)=ZAr M k ++ [M k]:=by simp [ZAr,List.range_succ]
 rw [e]
 refine od_congr (by simp [cols]) (fun i hi b hb=>?_) _
 have a:i < (ZAr M k ++ [M k]).length:=by simpa [cols] using hi
 have:C b=ZDn C k (C k) b:=by
  unfold ZDn
  by_cases h:b < k
  ·rw [if_pos h]
  ·rw [if_neg h,show b=k by omega]
 have g:∀(K:Nat→Nat),(cols (ZAr M k ++ [M k]) K).getD i (fun _=>0)=fun x=>((ZAr M k ++ [M k]).getD i (fun _=>0)) (K x):=by
  intro K; exact ZBP a
 rw [g,g];exact congrArg _ this
theorem ZD5{M:Nat→Nat→Int}{C:Nat→Nat}{k:Nat}(hD:dk M C (k+1)≠0)(u:Nat→Int)(j:Nat) :
  dk M C k*rho M C (k+1) u j=dk M C (k+1)*rho M C k u j-rho M C k u (C k)*rho M C k (M k) j:=by
 obtain ⟨e,l,n,f,v⟩:=ZD4 hD u
 have d:∀x,comb (k+1) l M x=comb k l M x+l k*M k x:=by intro x; simp [comb,sumN]
 have hv:∀b,b < k→(lc 1 (lc e u (-1) (comb k l M)) (- l k) (M k)) (C b)=0:=by
  intro b B
  have A:=f b (by omega)
  have D:=d (C b);simp only [lc]
  grind
 have c:∀x,e*rho M C k u x-l k*rho M C k (M k) x=dk M C k*(e*u x-comb (k+1) l M x):=by
  intro x;have a:=ZCa (M:=M) hv x
  rw [ZD3,ZD3,ZFi,ZAd (fun i hi=>by rw [ZHZ hi,Int.mul_zero])] at a
  have t:(lc 1 (lc e u (-1) (comb k l M)) (- l k) (M k)) x=e*u x-comb (k+1) l M x:=by
   simp only [lc]; rw [d x]; grind
  rw [t] at a;rw [←a]; grind
 have r:=c (C k)
 rw [f k (by omega),Int.sub_self,Int.mul_zero,←ZHa] at r
 have g:=c j;have m:=v j
 -- e*(D_k rho')=D_{k+1} (D_k w)=D_{k+1} (e rho u j-l_k rho p j)
 have o:e*(dk M C k*rho M C (k+1) u j)=e*(dk M C (k+1)*rho M C k u j-rho M C k u (C k)*rho M C k (M k) j):=by
  have y:e*(dk M C k*rho M C (k+1) u j)=dk M C k*(e*rho M C (k+1) u j):=by grind
  rw [y,m]
  have s:dk M C k*(dk M C (k+1)*(e*u j-comb (k+1) l M j))=dk M C (k+1)*(dk M C k*(e*u j-comb (k+1) l M j)):=by grind
  rw [s,←g]
  have z:e*rho M C k u (C k)=l k*dk M C (k+1):=by omega
  grind
 exact Int.eq_of_mul_eq_mul_left n o
def ZBf(q:Nat):Nat→Int:=fun j=>if j=q then 1 else 0
def rr(M:Nat→Nat→Int)(C:Nat→Nat)(k i j:Nat):Int:=
 if i < k then dk M C k*ZBf (C i) j-rho M C k (ZBf (C i)) j else rho M C k (M i) j
theorem ZOz(M:Nat→Nat→Int)(C:Nat→Nat)(i j:Nat):rr M C 0 i j=M i j:=by
 unfold rr
 rw [if_neg (by omega),ZCa (fun b hb=>by omega)]
 simp [dk,cols,ZAr,od]
theorem ZO0{M:Nat→Nat→Int}{C:Nat→Nat}{k i:Nat}(hD:dk M C (k+1)≠0)(hC:∀b,b < k→C b≠C k)(hi:i≠k)(j:Nat) :
  rr M C k k (C k)*rr M C k i j-rr M C k i (C k)*rr M C k k j=dk M C k*rr M C (k+1) i j:=by
 have a:∀x,rr M C k k x=rho M C k (M k) x:=by intro x; unfold rr; rw [if_neg (by omega)]
 rw [a,a,←ZHa]
 by_cases h:i < k
 ·have c:∀x,rr M C k i x=dk M C k*ZBf (C i) x-rho M C k (ZBf (C i)) x:=by intro x; unfold rr; rw [if_pos h]
  have d:rr M C (k+1) i j=dk M C (k+1)*ZBf (C i) j-rho M C (k+1) (ZBf (C i)) j:=by unfold rr; rw [if_pos (by omega)]
  have f:ZBf (C i) (C k)=0:=by unfold ZBf; rw [if_neg (fun e=>hC i h e.symm)]
  rw [c,c,d,f,Int.mul_sub (dk M C k),ZD5 hD]
  grind
 ·have c:∀x,rr M C k i x=rho M C k (M i) x:=by intro x; unfold rr; rw [if_neg h]
  have d:rr M C (k+1) i j=rho M C (k+1) (M i) j:=by unfold rr; rw [if_neg (by omega)]
  rw [c,c,d,ZD5 hD]
theorem ZQR{M:Nat→Nat→Int}{C:Nat→Nat}{k:Nat}(hk:dk M C k≠0)(hD:dk M C (k+1)≠0)(hC:∀b,b < k→C b≠C k)(j:Nat) :
  rr M C (k+1) k j=rr M C k k j:=by
 have d:rr M C k k j=rho M C k (M k) j:=by unfold rr; rw [if_neg (by omega)]
 have f:rr M C (k+1) k j=dk M C (k+1)*ZBf (C k) j-rho M C (k+1) (ZBf (C k)) j:=by unfold rr; rw [if_pos (by omega)]
 have c:∀x,rho M C k (ZBf (C k)) x=dk M C k*ZBf (C k) x:=fun x=>ZCa (fun b hb=>by unfold ZBf; rw [if_neg (hC b hb)]) x
 have a:=ZD5 hD (ZBf (C k)) j;rw [c,c] at a
 have g:ZBf (C k) (C k)=1:=by simp [ZBf]
 rw [g] at a
 have i:dk M C k*(dk M C (k+1)*ZBf (C k) j-rho M C (k+1) (ZBf (C k)) j)=dk M C k*rho M C k (M k) j:=by
  rw [Int.mul_sub,a]; grind
 rw [d,f];exact Int.eq_of_mul_eq_mul_left hk i
def fb(B:Nat):Nat→Nat
 | 0=>1
 | m+1=>(m+1)*B*fb B m
theorem sum_bd{n b:Nat}{U:Nat→Bool}{g:Nat→Int}(h:∀k,k < n→U k=false→(g k).natAbs≤b):(sumN n fun k=>if U k then 0 else g k).natAbs≤cu n U*b:=by
 induction n with
 | zero=>simp [sumN,cu]
 | succ n ih=>
  simp only [sumN,cu]
  have a:=ih fun k hk=>h k (by omega)
  cases hU:U n
  ·have c:=h n (by omega) hU
   have d:=Int.natAbs_add_le (sumN n fun k=>if U k then 0 else g k) (g n)
   simp only [Bool.false_eq_true,if_false];rw [Nat.add_mul]; omega
  ·simpa using a
theorem sg_abs(n:Nat)(U:Nat→Bool)(k:Nat):(sg n U k).natAbs=1:=by
 induction n with
 | zero=>rfl
 | succ n ih=>simp only [sg]; by_cases h:k < n∧U n=true <;> simp [h,ih]
theorem od_bd{n B:Nat}(L:List (Nat→Int))(U:Nat→Bool)(hB:∀r∈L,∀k,k < n→(r k).natAbs≤B)(hc:cu n U≤L.length):(od n L U).natAbs≤fb B L.length:=by
 induction L generalizing U with
 | nil=>simp [od,fb]
 | cons r L ih=>
  simp only [od,List.length_cons,fb]
  refine Nat.le_trans (sum_bd (b:=B*fb B L.length) fun k hk hU=>?_) ?_
  ·rw [Int.natAbs_mul,Int.natAbs_mul,sg_abs,Nat.one_mul]
   exact Nat.mul_le_mul (hB r (by simp) k hk) (ih _ (fun r hr=>hB r (by simp [hr])) (by have:=cu_ins hk hU; simp at hc; omega))
  ·rw [Nat.mul_assoc]; exact Nat.mul_le_mul_right _ (by simpa using hc)
theorem ZJP{B k:Nat}{M:Nat→Nat→Int}{C:Nat→Nat}(hB:∀i,i < k→∀b,b < k→(M i (C b)).natAbs≤B):(dk M C k).natAbs≤fb B k:=by
 unfold dk
 have h:=od_bd (n:=k) (B:=B) (cols (ZAr M k) C) (fun _=>false) (fun r hr b hb=>by
  simp only [cols,ZAr,List.mem_map,List.mem_range] at hr;obtain ⟨_,⟨i,a,rfl⟩,rfl⟩:=hr
  exact hB i a b hb) (by rw [cu_none,ZA3,ZAk]; exact Nat.le_refl _)
 rwa [ZA3,ZAk] at h
theorem ZOQ{B k j:Nat}{M:Nat→Nat→Int}{C:Nat→Nat}{u:Nat→Int}(hB:∀i,i < k→∀b,b < k→(M i (C b)).natAbs≤B)(hj:∀i,i < k→(M i j).natAbs≤B)
 (hu:∀b,b < k→(u (C b)).natAbs≤B)(huj:(u j).natAbs≤B):(rho M C k u j).natAbs≤fb B (k+1):=by
 unfold rho
 have h:=od_bd (n:=k+1) (B:=B) (cols (ZAr M k ++ [u]) (ZDn C k j)) (fun _=>false) (fun r hr b hb=>by
  simp only [cols,ZAr,List.mem_map,List.mem_append,List.mem_range,List.mem_singleton] at hr;obtain ⟨c,a,rfl⟩:=hr
  show (c (ZDn C k j b)).natAbs≤B
  unfold ZDn
  by_cases hbk:b < k
  ·rw [if_pos hbk]
   rcases a with ⟨i,hi,rfl⟩ | rfl
   ·exact hB i hi b hbk
   ·exact hu b hbk
  ·rw [if_neg hbk]
   rcases a with ⟨i,hi,rfl⟩ | rfl
   ·exact hj i hi
   ·exact huj) (by rw [cu_none,ZA3,List.length_append,ZAk]; exact Nat.le_refl _)
 rwa [ZA3,List.length_append,ZAk] at h
theorem ZMp{B n c k i j:Nat}{M:Nat→Nat→Int}{C:Nat→Nat}(hB1:1≤B)(hB:∀i,i < n→∀j,j < c→(M i j).natAbs≤B)(hk:k≤n)(hC:∀b,b < k→C b < c)(hi:i < n)(hj:j < c) :
  (rr M C k i j).natAbs≤fb B k+fb B (k+1):=by
 have a:∀q x,(ZBf q x).natAbs≤1:=by intro q x; unfold ZBf; by_cases h:x=q <;> simp [h]
 unfold rr
 by_cases h:i < k
 ·rw [if_pos h]
  have f:=ZJP (B:=B) (k:=k) (M:=M) (C:=C) fun i hi b hb=>hB i (by omega) _ (hC b hb)
  have d:=ZOQ (B:=B) (k:=k) (j:=j) (M:=M) (C:=C) (u:=ZBf (C i)) (fun i hi b hb=>hB i (by omega) _ (hC b hb)) (fun i hi=>hB i (by omega) j hj)
   (fun b _=>Nat.le_trans (a _ _) hB1) (Nat.le_trans (a _ _) hB1)
  have g:(dk M C k*ZBf (C i) j).natAbs≤fb B k:=by
   rw [Int.natAbs_mul]
   exact Nat.le_trans (Nat.mul_le_mul f (a _ _)) (by simp)
  omega
 ·rw [if_neg h]
  have d:=ZOQ (B:=B) (k:=k) (j:=j) (M:=M) (C:=C) (u:=M i) (fun i hi b hb=>hB i (by omega) _ (hC b hb)) (fun i hi=>hB i (by omega) j hj)
   (fun b hb=>hB i hi _ (hC b hb)) (hB i hi j hj)
  omega
structure Done(M:Nat→Nat→Int)(n c k:Nat)(C:Nat→Nat):Prop where
 kn:k≤n
 rise:Rising k c C
 nz:dk M C k≠0
 zero:∀i,k≤i→i < n→∀j,j < c→rr M C k i j=0
theorem ZDq{M:Nat→Nat→Int}{k:Nat}{C:Nat→Nat}(hD:dk M C k≠0)(hC:∀a b,a < b→b < k→C a < C b){a b:Nat}(ha:a < k)(hb:b < k):rr M C k a (C b)=if a=b then dk M C k else 0:=by
 unfold rr;rw [if_pos ha,ZQQ hD _ hb]
 by_cases e:a=b
 ·subst e; simp [ZBf]
 ·have:C b≠C a:=by
   rcases Nat.lt_or_gt_of_ne e with h | h
   ·have:=hC a b h hb; omega
   ·have:=hC b a h ha; omega
  simp [ZBf,e,this]
theorem ZO1{M:Nat→Nat→Int}{k:Nat}{C:Nat→Nat}(hC:∀a b,a < b→b < k→C a < C b)(u:Nat→Int)(j:Nat) :
  dk M C k*u j-rho M C k u j=comb k (fun a=>u (C a)) (rr M C k) j:=by
 have g:∀b,b < k→(lc 1 u (-1) (comb k (fun a=>u (C a)) (fun a=>ZBf (C a)))) (C b)=0:=by
  intro b c
  have e:comb k (fun a=>u (C a)) (fun a=>ZBf (C a)) (C b)=u (C b):=by
   unfold comb
   rw [ZAs (k:=b) c (fun a ha hne=>by
    have:C b≠C a:=by
     rcases Nat.lt_or_gt_of_ne hne with h | h
     ·have:=hC a b h c; omega
     ·have:=hC b a h ha; omega
    simp [ZBf,this])]
   simp [ZBf]
  simp only [lc]; rw [e]; omega
 have d:=ZCa (M:=M) g j;rw [ZD3,ZFi] at d
 have f:comb k (fun a=>u (C a)) (rr M C k) j=dk M C k*comb k (fun a=>u (C a)) (fun a=>ZBf (C a)) j-sumN k (fun a=>u (C a)*rho M C k (ZBf (C a)) j):=by
  unfold comb;rw [←ZAV,Int.sub_eq_add_neg,←ZBL,←ZA9]
  refine ZAC fun a ha=>?_
  show u (C a)*rr M C k a j=_
  unfold rr; rw [if_pos ha]; grind
 rw [f];simp only [lc] at d
 grind
theorem ZKH{M:Nat→Nat→Int}{n c k:Nat}{C:Nat→Nat}(h:Done M n c k C){i:Nat}(hi:i < n){j:Nat}(hj:j < c):dk M C k*M i j=comb k (fun a=>M i (C a)) (rr M C k) j:=by
 have d:=ZO1 (M:=M) h.rise.1 (M i) j
 have b:rho M C k (M i) j=0:=by
  by_cases hik:i < k
  ·exact ZHZ hik j
  ·have:=h.zero i (by omega) hi j hj
   unfold rr at this; rwa [if_neg hik] at this
 rw [b] at d; omega
theorem ZKI{M:Nat→Nat→Int}{k:Nat}{C:Nat→Nat}(hD:dk M C k≠0){a:Nat}(ha:a < k):∃e l,e≠0∧∀j,e*rr M C k a j=comb k l M j:=by
 obtain ⟨e,l,d,_,c⟩:=ZD4 hD (ZBf (C a))
 refine ⟨e,fun i=>dk M C k*l i,d,fun j=>?_⟩
 have f:comb k (fun i=>dk M C k*l i) M j=dk M C k*comb k l M j:=by
  unfold comb; rw [←ZAV]; exact ZAC fun i _=>by rw [Int.mul_assoc]
 have b:=c j;rw [f];unfold rr; rw [if_pos ha,Int.mul_sub,b]; grind
def Dep(c t:Nat)(B:Nat→Nat→Int)(v:Nat→Int):Prop:=∃e l,e≠0∧∀j,j < c→e*v j=comb t l B j
theorem ZMq(t:Nat)(l l':Nat→Int)(x y:Int)(B:Nat→Nat→Int)(j:Nat):comb t (fun i=>x*l i+y*l' i) B j=x*comb t l B j+y*comb t l' B j:=by
 unfold comb; rw [←ZAV,←ZAV,←ZA9]; exact ZAC fun i _=>by grind
theorem Dep.comb{c t m:Nat}{B A:Nat→Nat→Int}(h:∀i,i < m→Dep c t B (A i))(l:Nat→Int):Dep c t B (comb m l A):=by
 induction m with
 | zero=>exact ⟨1,fun _=>0,by decide,fun j _=>by simp [Lin.comb,sumN,ZAd]⟩
 | succ m ih=>
  obtain ⟨e,f,d,g⟩:=ih fun i hi=>h i (by omega)
  obtain ⟨b,n,a,o⟩:=h m (by omega)
  refine ⟨e*b,fun i=>b*f i+(e*l m)*n i,Int.mul_ne_zero d a,fun j hj=>?_⟩
  rw [ZMq,←g j hj,←o j hj]
  have:Lin.comb (m+1) l A j=Lin.comb m l A j+l m*A m j:=by simp [Lin.comb,sumN]
  rw [this]; grind
theorem ZO2{M:Nat→Nat→Int}{n c k:Nat}{C:Nat→Nat}(h:Done M n c k C){H:List (Nat→Int)}{K:Nat→Nat}(hK:∀b,b < H.length→K b < c)(hf:od H.length (cols H K) (fun _=>false)≠0)
 (hin:∀a,a < H.length→∃i,i < n∧∀j,j < c→row H a j=M i j)(hdep:∀i,i < n→Dep c H.length (row H) (M i)):k=H.length:=by
 apply Nat.le_antisymm
 ·-- the chosen rows' numbers are free,and made of H
  apply Classical.byContradiction
  intro F
  have v:∀a,a < k→Dep c H.length (row H) (fun j=>rr M C k a j):=by
   intro a g;obtain ⟨e,l,D,s⟩:=ZKI h.nz g
   obtain ⟨O,N,y,P⟩:=Dep.comb (c:=c) (m:=k) (fun i x=>hdep i (by have:=h.kn; omega)) l
   refine ⟨O*e,N,Int.mul_ne_zero y D,fun j hj=>?_⟩
   rw [Int.mul_assoc,s j,P j hj]
  have E:∃(e:Nat→Int) (f:Nat→Nat→Int),(∀a,a < k→e a≠0)∧∀a,a < k→∀j,j < c→e a*rr M C k a j=comb H.length (f a) (row H) j:=by
   refine ⟨fun a=>if g:a < k then Classical.choose (v a g) else 1,fun a=>if g:a < k then Classical.choose (Classical.choose_spec (v a g)) else fun _=>0,fun a g=>?_,fun a g j hj=>?_⟩
   ·simp only [g,dif_pos]; exact (Classical.choose_spec (Classical.choose_spec (v a g))).1
   ·simp only [g,dif_pos]; exact (Classical.choose_spec (Classical.choose_spec (v a g))).2 j hj
  obtain ⟨e,f,D,z⟩:=E
  obtain ⟨d,p,o,J,L⟩:=ZFh (c:=c) (m:=k) (t:=H.length) (A:=rr M C k) (B:=row H) (e:=e) (f:=f) (by omega) D z
  have G:=L (C p) (h.rise.2 p o);unfold comb at G
  rw [ZAs (k:=p) o (fun a g hne=>by rw [ZDq h.nz h.rise.1 g o,if_neg hne,Int.mul_zero]),ZDq h.nz h.rise.1 o o,if_pos rfl] at G
  rcases Int.mul_eq_zero.1 G with s | s
  ·exact J s
  ·exact h.nz s
 ·apply Classical.byContradiction
  intro F
  obtain ⟨d,p,o,J,L⟩:=ZFh (c:=c) (m:=H.length) (t:=k) (A:=row H) (B:=rr M C k) (e:=fun _=>dk M C k) (f:=fun a b=>row H a (C b)) (by omega) (fun _ _=>h.nz)
   (fun a g j hj=>by
    obtain ⟨i,x,r⟩:=hin a g;rw [r j hj,ZKH h x hj];unfold comb
    exact ZAC fun b hb=>by show M i (C b)*_=row H a (C b)*_; rw [r _ (h.rise.2 b hb)])
  apply hf
  refine ZIb (p:=p) (c:=d) (by rw [ZA3]; exact o) J (fun b hb=>?_) _
  rw [ZA3];have:=L (K b) (hK b hb);unfold comb at this ⊢;rw [←this]
  refine ZAC fun i x=>?_
  rw [ZBP x]
theorem ZGX{k:Nat}{C:Nat→Nat}(h:Rising k k C){i:Nat}(hi:i < k):C i=i:=by
 have a:∀i,i < k→i≤C i:=by
  intro i
  induction i with
  | zero=>intro _; omega
  | succ i ih=>intro hi; have:=ih (by omega); have:=h.1 i (i+1) (by omega) hi; omega
 have f:∀d,d < k→C (k-1-d)≤k-1-d:=by
  intro d
  induction d with
  | zero=>intro b; have:=h.2 (k-1) (by omega); simp; omega
  | succ d ih=>intro b; have:=ih (by omega); have:=h.1 (k-1-(d+1)) (k-1-d) (by omega) (by omega); omega
 have g:=a i hi
 have c:=f (k-1-i) (by omega)
 rw [show k-1-(k-1-i)=i by omega] at c
 omega
def FreeP(c:Nat)(H:List (Nat→Int)):Prop:=∃K,Rising H.length c K∧od H.length (cols H K) (fun _=>false)≠0
theorem ZCI{A B:List (Nat→Int)}{i:Nat}(h:i < A.length):row (A ++ B) i=row A i:=by
 simp only [row,List.getD_eq_getElem?_getD]; rw [List.getElem?_append_left h]
theorem ZCf{A:List (Nat→Int)}{u:Nat→Int} : row (A ++ [u]) A.length=u:=by
 simp [row]
theorem ZBa{c:Nat}{H:List (Nat→Int)}{u:Nat→Int}(hf:FreeP c H)(hn:¬FreeP c (H ++ [u])):Dep c H.length (row H) u:=by
 rcases elim c (H ++ [u]) with ⟨C,hC,a⟩ | ⟨d,p,hp,hd,hk⟩
 ·exact absurd ⟨C,hC,a⟩ hn
 ·have s:(H ++ [u]).length=H.length+1:=by simp
  rw [s] at hp hk
  have f:∀k,k < c→comb H.length d (row H) k+d H.length*u k=0:=by
   intro k m;have:=hk k m;unfold comb at this ⊢
   rw [sumN,ZCf,ZAC (g:=fun i=>d i*row H i k) (fun i hi=>by rw [ZCI hi])] at this
   exact this
  have n:d H.length≠0:=by
   intro r;obtain ⟨K,hK,a⟩:=hf
   apply a
   have o:p < H.length:=by
    by_cases e:p=H.length
    ·subst e; exact absurd r hd
    ·omega
   refine ZIb (p:=p) (c:=d) (by rw [ZA3]; exact o) hd (fun b hb=>?_) _
   have l:=f (K b) (hK.2 b hb);rw [r,Int.zero_mul,Int.add_zero] at l;rw [ZA3];unfold comb at l ⊢;rw [←l]
   exact ZAC fun i hi=>by rw [ZBP hi]
  refine ⟨d H.length,fun i=>- d i,n,fun j hj=>?_⟩
  have l:=f j hj
  have t:comb H.length (fun i=>- d i) (row H) j=- comb H.length d (row H) j:=by
   unfold comb; rw [←ZBL]; exact ZAC fun i _=>by rw [Int.neg_mul]
  omega
theorem Dep.grow{c:Nat}{H:List (Nat→Int)}{u v:Nat→Int}(h:Dep c H.length (row H) v):Dep c (H ++ [u]).length (row (H ++ [u])) v:=by
 obtain ⟨e,l,b,d⟩:=h
 refine ⟨e,fun i=>if i < H.length then l i else 0,b,fun j hj=>?_⟩
 rw [d j hj]
 have a:(H ++ [u]).length=H.length+1:=by simp
 rw [a];unfold Lin.comb;rw [sumN];simp only [Nat.lt_irrefl,if_false,Int.zero_mul,Int.add_zero]
 exact ZAC fun i hi=>by rw [ZCI hi]; simp [hi]
theorem Dep.self{c:Nat}{H:List (Nat→Int)}{i:Nat}(hi:i < H.length):Dep c H.length (row H) (row H i):=by
 refine ⟨1,ZBf i,by decide,fun j _=>?_⟩
 unfold Lin.comb
 rw [ZAs (k:=i) hi (fun a _ hne=>by simp [ZBf,hne])]
 simp [ZBf]
structure Greedy(c:Nat)(L H:List (Nat→Int)):Prop where
 free:FreeP c H
 mem:∀r∈H,r∈L
 dep:∀r∈L,Dep c H.length (row H) r
theorem Greedy.nil(c:Nat):Greedy c [] []:=
 ⟨⟨id,⟨fun _ _ _ h=>absurd h (by simp),fun _ h=>absurd h (by simp)⟩,by simp [cols,od]⟩,fun _ h=>h,fun _ h=>absurd h (by simp)⟩
theorem Greedy.more{c:Nat}{L H:List (Nat→Int)}{u:Nat→Int}(h:Greedy c L H)(hf:FreeP c (H ++ [u])):Greedy c (L ++ [u]) (H ++ [u]):=by
 refine ⟨hf,fun r hr=>?_,fun r hr=>?_⟩
 ·rcases List.mem_append.1 hr with hr | hr
  ·exact List.mem_append_left _ (h.mem r hr)
  ·exact List.mem_append_right _ hr
 ·rcases List.mem_append.1 hr with hr | hr
  ·exact (h.dep r hr).grow
  ·simp at hr; subst hr
   have:=Dep.self (c:=c) (H:=H ++ [r]) (i:=H.length) (by simp)
   rwa [ZCf] at this
theorem Greedy.less{c:Nat}{L H:List (Nat→Int)}{u:Nat→Int}(h:Greedy c L H)(hf:¬FreeP c (H ++ [u])):Greedy c (L ++ [u]) H:=by
 refine ⟨h.free,fun r hr=>List.mem_append_left _ (h.mem r hr),fun r hr=>?_⟩
 rcases List.mem_append.1 hr with hr | hr
 ·exact h.dep r hr
 ·simp at hr; subst hr
  exact ZBa h.free hf
def up(k:Nat)(U:Nat→Bool):Nat→Bool:=fun j=>if j=k then true else U (ZOP k j)
theorem ZQS(k:Nat)(U:Nat→Bool)(j:Nat):up k U (skp k j)=U j:=by
 unfold up; rw [if_neg (ZKE k j),ZDp]
theorem ZQT(k:Nat)(U:Nat→Bool)(j:Nat):ins (up k U) (skp k j)=up k (ins U j):=by
 funext x
 unfold ins up
 by_cases h1:x=k
 ·subst h1; simp
 ·rw [if_neg h1,if_neg h1]
  by_cases h2:x=skp k j
  ·subst h2; rw [if_pos rfl,ZDp]; exact (if_pos rfl).symm
  ·rw [if_neg h2]
   refine (if_neg ?_).symm;intro a
   apply h2
   subst a;unfold skp ZOP
   by_cases h4:x < k
   ·simp [h4]
   ·simp [h4,show ¬x-1 < k by omega]; omega
theorem ZRN{m k:Nat}(hk:k≤m)(U:Nat→Bool)(j:Nat):sg (m+1) (up k U) (skp k j)=sg m U j*(if j < k then -1 else 1):=by
 induction m with
 | zero=>
  have:k=0:=by omega
  subst this;simp [sg,skp]
 | succ m ih=>
  by_cases e:k=m+1
  ·subst e
   have d:∀x,x≤m+1→∀i,sg x (up (m+1) U) i=sg x U i:=by
    intro x f i
    induction x with
    | zero=>rfl
    | succ x ix=>
     have b:up (m+1) U x=U x:=by unfold up ZOP; rw [if_neg (by omega),if_pos (by omega)]
     simp only [sg]; rw [ix (by omega),b]
   rw [sg,d (m+1) (Nat.le_refl _)]
   have b:up (m+1) U (m+1)=true:=by simp [up]
   rw [b]
   by_cases h:j < m+1
   ·have c:skp (m+1) j=j:=by simp [skp,h]
    rw [c]; simp [h]
   ·have c:skp (m+1) j=j+1:=by simp [skp,h]
    rw [c,sg_last U (by omega),sg_last U (by omega)]
    simp [h,show ¬j+1 < m+1 by omega]
  ·have b:up k U (m+1)=U m:=by unfold up ZOP; rw [if_neg (by omega),if_neg (by omega)]; rfl
   rw [sg,ih (by omega),b,sg]
   have a:(skp k j < m+1)↔(j < m):=by
    unfold skp; by_cases h:j < k <;> simp [h] <;> omega
   by_cases h:j < m∧U m=true
   ·rw [if_pos ⟨a.2 h.1,h.2⟩,if_pos h,Int.neg_mul]
   ·rw [if_neg (fun h'=>h ⟨a.1 h'.1,h'.2⟩),if_neg h]
def ngo:Nat→Int
 | 0=>1
 | n+1=>- ngo n
theorem ZRO{m k:Nat}(hk:k≤m)(H:List (Nat→Int))(U:Nat→Bool)(hc:cu m U=H.length):od (m+1) H (up k U)=ngo (cu k U)*od m (cols H (skp k)) U:=by
 induction H generalizing U with
 | nil=>
  have:∀x,x≤m→cu x U=0:=by
   intro x d
   have a:∀t,cu x U≤cu (x+t) U:=by
    intro t
    induction t with
    | zero=>exact Nat.le_refl _
    | succ t it=>rw [←Nat.add_assoc,cu]; omega
   have:=a (m-x)
   rw [show x+(m-x)=m by omega] at this
   simp at hc; omega
  rw [this k hk]; simp [od,cols,ngo]
 | cons r H ih=>
  simp only [od,cols,List.map_cons];rw [ZIc (p:=k) hk]
  have b:up k U k=true:=by simp [up]
  rw [b];simp only [if_true,Int.add_zero];rw [←ZAV]
  refine ZAC fun j hj=>?_
  rw [ZQS]
  cases hU:U j
  ·simp only [Bool.false_eq_true,if_false]
   rw [ZQT,ZRN hk,ih (ins U j) (by have:=cu_ins hj hU; simp at hc; omega)]
   by_cases hjk:j < k
   ·have:=cu_ins hjk hU
    rw [if_pos hjk,←this];simp only [ngo,cols]; grind
   ·have:cu k (ins U j)=cu k U:=by
     have c:∀x,x≤k→cu x (ins U j)=cu x U:=by
      intro x d
      induction x with
      | zero=>rfl
      | succ x ix=>
       have f:ins U j x=U x:=by unfold ins; rw [if_neg (by omega)]
       simp only [cu]; rw [ix (by omega),f]
     exact c k (Nat.le_refl _)
    rw [if_neg hjk,this];simp only [cols]; grind
  ·simp
def mu(H:List (Nat→Int))(k:Nat):Int:=ngo k*od H.length (cols H (skp k)) fun _=>false
theorem ZKJ{H:List (Nat→Int)}{a:Nat}(ha:a < H.length):sumN (H.length+1) (fun k=>row H a k*mu H k)=0:=by
 have c:od (H.length+1) (row H a :: H) (fun _=>false)=0:=by
  have d:H=H.take a ++ row H a :: H.drop (a+1):=by rw [←ZBT ha,ZHW ha]
  have:=ZD0 (H.length+1) [] (H.take a) (H.drop (a+1)) (row H a) (fun _=>false)
  rw [List.nil_append] at this;rw [←d] at this;exact this
 rw [od] at c;rw [←c]
 refine ZAC fun k hk=>?_
 have f:ins (fun _=>false) k=up k (fun _=>false):=by funext x; unfold ins up; rfl
 have b:sg (H.length+1) (fun _=>false) k=1:=by
  have:∀n,sg n (fun _=>false) k=1:=by
   intro n; induction n with
   | zero=>rfl
   | succ n ih=>simp [sg,ih]
  exact this _
 simp only [Bool.false_eq_true,if_false]
 rw [b,f,ZRO (by omega) H _ (cu_none _),cu_none]
 unfold mu; grind
theorem ZJQ{m:Nat}{K:Nat→Nat}(h:Rising m (m+1) K):∃k,k≤m∧∀i,i < m→K i=skp k i:=by
 induction m with
 | zero=>exact ⟨0,by omega,fun i a=>by omega⟩
 | succ m ih=>
  by_cases e:K m=m
  ·have d:∀i,i < m+1→K i=i:=by
    have c:Rising (m+1) (m+1) K:=⟨h.1,fun i a=>by
     by_cases hi':i=m
     ·subst hi'; omega
     ·have:=h.1 i m (by omega) (by omega); omega⟩
    exact fun i a=>ZGX c a
   exact ⟨m+1,Nat.le_refl _,fun i a=>by rw [d i a]; simp [skp,a]⟩
  ·have b:K m=m+1:=by
    have l:=h.2 m (by omega)
    have c:∀i,i < m+1→i≤K i:=by
     intro i
     induction i with
     | zero=>intro _; omega
     | succ i ii=>intro a; have:=ii (by omega); have:=h.1 i (i+1) (by omega) a; omega
    have:=c m (by omega); omega
   obtain ⟨k,g,f⟩:=ih ⟨fun i j hij hj=>h.1 i j hij (by omega),fun i a=>by have:=h.1 i m a (by omega); omega⟩
   refine ⟨k,by omega,fun i a=>?_⟩
   by_cases hi':i < m
   ·exact f i hi'
   ·have:i=m:=by omega
    subst this
    rw [b]; simp [skp,show ¬i < k by omega]
theorem ZKK{H:List (Nat→Int)}(hf:FreeP (H.length+1) H):∃k,k < H.length+1∧mu H k≠0:=by
 obtain ⟨K,hK,c⟩:=hf;obtain ⟨k,l,j⟩:=ZJQ hK
 refine ⟨k,by omega,?_⟩
 have e:od H.length (cols H K) (fun _=>false)=od H.length (cols H (skp k)) (fun _=>false):=by
  refine od_congr (by simp [cols]) (fun i hi b hb=>?_) _
  have a:i < H.length:=by simpa [cols] using hi
  have d:=ZBP (C:=K) a;have f:=ZBP (C:=skp k) a;unfold row at d f;rw [d,f];exact congrArg _ (j b hb)
 have g:∀n,ngo n≠0:=by
  intro n; induction n with
  | zero=>decide
  | succ n ih=>simp only [ngo]; omega
 unfold mu;rw [←e];exact Int.mul_ne_zero (g k) c
structure Nu(M:Nat→Nat→Int)(c k:Nat)(C:Nat→Nat)(f:Nat)(v:Nat→Int):Prop where
 fc:f < c
 off:∀a,a < k→C a≠f
 all:∀j,j < c→j=f∨∃a,a < k∧C a=j
 atf:v f=dk M C k
 atC:∀a,a < k→v (C a)=- rr M C k a f
theorem ZO3{M:Nat→Nat→Int}{n c k f:Nat}{C:Nat→Nat}{v y:Nat→Int}(h:Done M n c k C)(hv:Nu M c k C f v)(hy:∀i,i < n→sumN c (fun j=>M i j*y j)=0){j:Nat}(hj:j < c) :
  dk M C k*y j=y f*v j:=by
 have t:∀a,a < k→sumN c (fun j=>rr M C k a j*y j)=0:=by
  intro a m;obtain ⟨e,l,s,p⟩:=ZKI h.nz m
  have r:e*sumN c (fun j=>rr M C k a j*y j)=0:=by
   rw [←ZAV,ZAC (g:=fun j=>sumN k (fun i=>l i*(M i j*y j))) (fun j hj=>by
    rw [←Int.mul_assoc,p j]; unfold comb; rw [←ZAT]; exact ZAC fun i _=>by rw [Int.mul_assoc])]
   rw [ZBS]
   exact ZAd fun i hi=>by rw [ZAV,hy i (by have:=h.kn; omega),Int.mul_zero]
  rcases Int.mul_eq_zero.1 r with h3 | h3
  ·exact absurd h3 s
  ·exact h3
 rcases hv.all j hj with rfl | ⟨a,m,rfl⟩
 ·rw [hv.atf,Int.mul_comm]
 ·-- only two places of that row count
  have p:=t a m
  have r:sumN c (fun j=>rr M C k a j*y j)=dk M C k*y (C a)+rr M C k a f*y f:=by
   have e:∀j,j < c→rr M C k a j*y j=(if j=C a then dk M C k*y (C a) else 0)+(if j=f then rr M C k a f*y f else 0):=by
    intro j hj
    rcases hv.all j hj with rfl | ⟨b,hb,rfl⟩
    ·have d:j≠C a:=fun e=>hv.off a m e.symm
     simp [d]
    ·rw [ZDq h.nz h.rise.1 m hb]
     have o:=hv.off b hb
     by_cases hab:a=b
     ·subst hab; simp [o]
     ·have:C b≠C a:=by
       rcases Nat.lt_or_gt_of_ne hab with h' | h'
       ·have:=h.rise.1 a b h' hb; omega
       ·have:=h.rise.1 b a h' m; omega
      simp [hab,o,this]
   rw [ZAC e,ZA9,ZAs (k:=C a) (h.rise.2 a m) (fun i _ d=>by simp [d]),ZAs (k:=f) hv.fc (fun i _ d=>by simp [d])]
   simp
  rw [hv.atC a m];rw [p] at r
  grind
def gcf(g:Nat)(l:List Int):Nat:=l.foldl (fun g v=>Nat.gcd g v.natAbs) g
def gc(l:List Int):Nat:=gcf 0 l
theorem ZKL(a:Int)(g:Nat)(l:List Int):gcf (a.natAbs*g) (l.map (a * ·))=a.natAbs*gcf g l:=by
 induction l generalizing g with
 | nil=>rfl
 | cons v l ih=>
  simp only [gcf,List.map_cons,List.foldl_cons] at ih ⊢;rw [Int.natAbs_mul,Nat.gcd_mul_left,ih]
theorem ZId(a:Int)(l:List Int):gc (l.map (a * ·))=a.natAbs*gc l:=by
 have:=ZKL a 0 l
 simpa [gc] using this
theorem ZO4(g:Nat)(l:List Int):gcf g l ∣ g∧∀v∈l,(gcf g l:Int) ∣ v:=by
 induction l generalizing g with
 | nil=>exact ⟨Nat.dvd_refl _,fun _ h=>absurd h (by simp)⟩
 | cons v l ih=>
  have h:=ih (Nat.gcd g v.natAbs);have e:gcf g (v :: l)=gcf (Nat.gcd g v.natAbs) l:=rfl;rw [e]
  refine ⟨Nat.dvd_trans h.1 (Nat.gcd_dvd_left _ _),fun u hu=>?_⟩
  rcases List.mem_cons.1 hu with rfl | hu
  ·have:=Nat.dvd_trans h.1 (Nat.gcd_dvd_right g u.natAbs)
   exact Int.ofNat_dvd_left.2 this
  ·exact h.2 u hu
theorem gc_dvd{l:List Int}{v:Int}(h:v∈l):(gc l:Int) ∣ v:=(ZO4 0 l).2 v h
def low(l:List Int):List Int:=l.map (· / (gc l:Int))
def upr(l:List Int):List Int:=if (l.find? (fun v=>v != 0)).getD 0 < 0 then l.map (fun v=>-v) else l
theorem ZIe(l:List Int):((l.map fun v=>-v).find? (fun v=>v != 0)).getD 0=- (l.find? (fun v=>v != 0)).getD 0:=by
 induction l with
 | nil=>rfl
 | cons v l ih=>
  by_cases h:v=0
  ·subst h; simpa using ih
  ·have b:(v != 0)=true:=by simp [h]
   have a:(-v != 0)=true:=by simp [h]
   simp [b,a]
theorem ZKM{l:List Int}(h:(l.find? (fun v=>v != 0)).getD 0=0):∀v∈l,v=0:=by
 induction l with
 | nil=>intro _ h; simp at h
 | cons v l ih=>
  intro u a
  by_cases hv:v=0
  ·subst hv
   rcases List.mem_cons.1 a with rfl | a
   ·rfl
   ·exact ih (by simpa using h) u a
  ·have b:(v != 0)=true:=by simp [hv]
   simp [b] at h;exact absurd h hv
theorem ZO5(l:List Int):upr (l.map fun v=>-v)=upr l:=by
 unfold upr;rw [ZIe]
 have b:(l.map fun v=>-v).map (fun v=>-v)=l:=by simp [Function.comp_def]
 by_cases h0:(l.find? (fun v=>v != 0)).getD 0=0
 ·rw [h0]
  have:=ZKM h0;simp only [Int.neg_zero,Int.lt_irrefl,if_false]
  have e:∀l:List Int,(∀v∈l,v=0)→l.map (fun v=>-v)=l:=by
   intro l c
   induction l with
   | nil=>rfl
   | cons v l ih=>
    have a:v=0:=c v (by simp)
    subst a;simp only [List.map_cons,Int.neg_zero]
    rw [ih fun u hu=>c u (by simp [hu])]
  exact e l this
 ·by_cases a:(l.find? (fun v=>v != 0)).getD 0 < 0
  ·rw [if_neg (by omega),if_pos a]
  ·rw [if_pos (by omega),if_neg a,b]
theorem find_at{l:List Int}{t:Nat}(ht:t < l.length)(hz:∀i,i < t→l.getD i 0=0)(hne:l.getD t 0≠0):(l.find? (fun v=>v != 0)).getD 0=l.getD t 0:=by
 induction l generalizing t with
 | nil=>simp at ht
 | cons v l ih=>
  cases t with
  | zero=>
   simp at hne
   have:(v != 0)=true:=by simp [hne]
   simp [this]
  | succ t=>
   have a:v=0:=by have:=hz 0 (by omega); simpa using this
   subst a
   have:=ih (t:=t) (by simpa using ht) (fun i hi=>by have:=hz (i+1) (by omega); simpa using this) (by simpa using hne)
   simpa [List.find?_cons] using this
theorem find_none{l:List Int}(hz:∀i,i < l.length→l.getD i 0=0):(l.find? (fun v=>v != 0)).getD 0=0:=by
 induction l with
 | nil=>rfl
 | cons v l ih=>
  have a:v=0:=by have:=hz 0 (by simp); simpa using this
  subst a
  have:=ih (fun i hi=>by have:=hz (i+1) (by simpa using hi); simpa using this)
  simpa [List.find?_cons] using this
theorem ZO6{x y:List Int}{a b:Int}(ha:a≠0)(hb:b≠0)(h:x.map (a * ·)=y.map (b * ·)):upr (low x)=upr (low y):=by
 have o:a.natAbs*gc x=b.natAbs*gc y:=by rw [←ZId,←ZId,h]
 have p:x.length=y.length:=by have:=congrArg List.length h; simpa using this
 have z:∀i (f:i < x.length) (r:i < y.length),a*x[i]=b*y[i]:=by
  intro i f r
  have:=congrArg (fun l=>l[i]?) h
  simpa [f,r] using this
 by_cases h0:gc x=0
 ·have f:gc y=0:=by
   rw [h0,Nat.mul_zero] at o
   rcases Nat.mul_eq_zero.1 o.symm with h | h
   ·omega
   ·exact h
  have:low x=low y:=by
   unfold low; rw [h0,f]
   refine List.ext_getElem (by simpa using p) fun i _ _=>by simp
  rw [this]
 ·have f:gc y≠0:=by
   intro f;rw [f,Nat.mul_zero] at o
   rcases Nat.mul_eq_zero.1 o with h | h
   ·omega
   ·exact h0 h
  -- x=gx x',y=gy y'
  have q:∀i (d:i < x.length) (j:i < y.length),a*(gc x:Int)*(x[i] / (gc x:Int))=b*(gc y:Int)*(y[i] / (gc y:Int)):=by
   intro i d j;have s:(gc x:Int)*(x[i] / (gc x:Int))=x[i]:=Int.mul_ediv_cancel' (gc_dvd (List.getElem_mem d));have t:(gc y:Int)*(y[i] / (gc y:Int))=y[i]:=Int.mul_ediv_cancel' (gc_dvd (List.getElem_mem j));rw [Int.mul_assoc,s,Int.mul_assoc,t]; exact z i d j
  have m:a*(gc x:Int)=b*(gc y:Int)∨a*(gc x:Int)=- (b*(gc y:Int)):=by
   have:(a*(gc x:Int)).natAbs=(b*(gc y:Int)).natAbs:=by
    rw [Int.natAbs_mul,Int.natAbs_mul]; simpa using o
   omega
  have n:a*(gc x:Int)≠0:=Int.mul_ne_zero ha (by omega)
  rcases m with m | m
  ·have:low x=low y:=by
    refine List.ext_getElem (by simpa [low] using p) fun i d j=>?_
    have g:i < x.length:=by simpa [low] using d
    have c:i < y.length:=by simpa [low] using j
    have:=q i g c;rw [←m] at this
    simpa [low] using Int.eq_of_mul_eq_mul_left n this
   rw [this]
  ·have:low x=(low y).map (fun v=>-v):=by
    refine List.ext_getElem (by simpa [low] using p) fun i d j=>?_
    have g:i < x.length:=by simpa [low] using d
    have c:i < y.length:=by simpa [low] using j
    have:=q i g c
    have e:b*(gc y:Int)*(y[i] / (gc y:Int))=a*(gc x:Int)*(- (y[i] / (gc y:Int))):=by rw [m]; grind
    rw [e] at this
    simpa [low] using Int.eq_of_mul_eq_mul_left n this
   rw [this,ZO5]
def dot(d:Nat)(a x:Nat→Int):Int:=sumN d fun i=>a i*x i
theorem ZAa{d:Nat}{a b x y:Nat→Int}(h1:∀i,i < d→a i=b i)(h2:∀i,i < d→x i=y i):dot d a x=dot d b y:=
 ZAC fun i hi=>by rw [h1 i hi,h2 i hi]
theorem ZAU(d:Nat)(a x:Nat→Int):dot d a x=dot d x a:=ZAC fun _ _=>Int.mul_comm _ _
theorem ZBI(d:Nat)(s r:Int)(a b x:Nat→Int):dot d (fun k=>s*a k+r*b k) x=s*dot d a x+r*dot d b x:=by
 unfold dot;rw [←ZAV,←ZAV,←ZA9]
 exact ZAC fun i _=>by grind
theorem ZBQ{d:Nat}{a x:Nat→Int}(h:∀i,i < d→a i=0):dot d a x=0:=ZAd fun i hi=>by rw [h i hi,Int.zero_mul]
theorem ZMr(d:Nat)(a:Nat→Int):0≤dot d a a∧(dot d a a=0→∀i,i < d→a i=0):=by
 induction d with
 | zero=>exact ⟨by simp [dot,sumN],fun _ i hi=>absurd hi (by omega)⟩
 | succ d ih=>
  have e:dot (d+1) a a=dot d a a+a d*a d:=rfl
  have f:0≤a d*a d:=by
   rcases Int.le_total 0 (a d) with h | h
   ·exact Int.mul_nonneg h h
   ·exact Int.mul_nonneg_of_nonpos_of_nonpos h h
  refine ⟨by omega,fun h i hi=>?_⟩
  have c:dot d a a=0:=by omega
  have b:a d*a d=0:=by omega
  by_cases hid:i < d
  ·exact ih.2 c i hid
  ·have:i=d:=by omega
   subst this
   rcases Int.mul_eq_zero.1 b with h | h <;> exact h
theorem ZHb{d:Nat}{a:Nat→Int}(h:∃i,i < d∧a i≠0):0 < dot d a a:=by
 obtain ⟨i,f,b⟩:=h;have c:=ZMr d a
 rcases Int.lt_or_le 0 (dot d a a) with h | h
 ·exact h
 ·exact absurd (c.2 (by omega) i f) b
theorem ZC1{d:Nat}{x:Nat→Int}{p:Nat}(hp:p < d):dot d (ZBf p) x=x p:=by
 unfold dot
 rw [ZAs hp (fun i _ hne=>by simp [ZBf,hne])]
 simp [ZBf]
theorem ZDQ{d t:Nat}{B:Nat→Nat→Int}{r v:Nat→Int}(h:Dep d t B r)(hv:∀i,i < t→dot d (B i) v=0):dot d r v=0:=by
 obtain ⟨e,l,b,c⟩:=h
 have a:e*dot d r v=0:=by
  unfold dot
  rw [←ZAV,ZAC (g:=fun j=>sumN t (fun i=>l i*(B i j*v j))) (fun j hj=>by
   rw [←Int.mul_assoc,c j hj]; unfold comb; rw [←ZAT]; exact ZAC fun i _=>by rw [Int.mul_assoc])]
  rw [ZBS]
  refine ZAd fun i hi=>?_
  rw [ZAV];have:=hv i hi;unfold dot at this;rw [this,Int.mul_zero]
 rcases Int.mul_eq_zero.1 a with h3 | h3
 ·exact absurd h3 b
 ·exact h3
theorem ZC2:∀(d:Nat) (L:List (Nat→Int)),L.length < d→∃v:Nat→Int,(∃i,i < d∧v i≠0)∧∀r∈L,dot d r v=0
 | 0,_,h=>absurd h (by omega)
 | d+1,L,h=>by
  by_cases hz:∀r∈L,r d=0
  ·refine ⟨ZBf d,⟨d,by omega,by simp [ZBf]⟩,fun r hr=>?_⟩
   rw [ZAU,ZC1 (by omega)]; exact hz r hr
  ·have:∃p,p∈L∧p d≠0:=by
    refine Classical.byContradiction fun hn=>hz fun r hr=>Classical.byContradiction fun hne=>hn ⟨r,hr,hne⟩
   obtain ⟨p,n,a⟩:=this;obtain ⟨A,B,rfl⟩:=List.append_of_mem n
   have m:((A ++ B).map fun (r:Nat→Int) k=>p d*r k-r d*p k).length < d:=by simp at h ⊢; omega
   obtain ⟨v,⟨i,f,c⟩,hv⟩:=ZC2 d _ m
   refine ⟨fun k=>if k < d then p d*v k else-dot d p v,⟨i,by omega,?_⟩,fun r hr=>?_⟩
   ·simp only [f,if_true]; exact Int.mul_ne_zero a c
   ·have b:∀r:Nat→Int,dot (d+1) r (fun k=>if k < d then p d*v k else-dot d p v)=dot d (fun k=>p d*r k-r d*p k) v:=by
     intro r
     have g:dot (d+1) r (fun k=>if k < d then p d*v k else-dot d p v)=dot d r (fun k=>if k < d then p d*v k else-dot d p v)+r d*(- dot d p v):=by
      simp [dot,sumN]
     have j:dot d r (fun k=>if k < d then p d*v k else-dot d p v)=p d*dot d r v:=by
      unfold dot;rw [←ZAV]
      exact ZAC fun i f=>by simp only [f,if_true]; grind
     have l:dot d (fun k=>p d*r k-r d*p k) v=p d*dot d r v+(- r d)*dot d p v:=by
      rw [←ZBI]
      exact ZAa (fun i _=>by grind) (fun _ _=>rfl)
     rw [g,j,l]; grind
    rw [b];simp only [List.mem_append,List.mem_cons] at hr
    by_cases hrp:r=p
    ·subst hrp
     exact ZBQ fun i _=>by grind
    ·refine hv _ (List.mem_map.2 ⟨r,?_,rfl⟩)
     simp only [List.mem_append]
     rcases hr with hr | hr | hr
     ·exact Or.inl hr
     ·exact absurd hr hrp
     ·exact Or.inr hr
theorem ZD6{d:Nat}{H:List (Nat→Int)}(hf:FreeP d H)(hl:H.length=d){v:Nat→Int}(hv:∀r∈H,dot d r v=0):∀i,i < d→v i=0:=by
 intro p f
 have c:¬FreeP d (H ++ [ZBf p]):=by
  rintro ⟨K,hK,_⟩
  have a:(H ++ [ZBf p]).length=d+1:=by simp [hl]
  rw [a] at hK
  have:∀n,n≤d+1→∀i,i < n→i≤K i:=by
   intro n
   induction n with
   | zero=>intro _ i b; omega
   | succ n ih=>
    intro c i b
    cases i with
    | zero=>omega
    | succ i=>
     have g:=ih (by omega) i (by omega)
     have l:=hK.1 i (i+1) (by omega) (by omega)
     omega
  have g:=this (d+1) (by omega) d (by omega)
  have l:=hK.2 d (by omega)
  omega
 have j:=ZDQ (ZBa hf c) (v:=v) (fun i b=>hv _ (ZB0 b))
 rwa [ZC1 f] at j
theorem ZCi{d:Nat}{L H:List (Nat→Int)}(hg:Greedy d L H):H.length=d↔∀v:Nat→Int,(∀r∈L,dot d r v=0)→∀i,i < d→v i=0:=by
 constructor
 ·intro c v hv
  exact ZD6 hg.free c fun r hr=>hv r (hg.mem r hr)
 ·intro h
  have f:H.length≤d:=by
   obtain ⟨K,hK,_⟩:=hg.free
   have:∀n,n≤H.length→∀i,i < n→i≤K i:=by
    intro n
    induction n with
    | zero=>intro _ i a; omega
    | succ n ih=>
     intro l i a
     cases i with
     | zero=>omega
     | succ i=>
      have g:=ih (by omega) i (by omega)
      have j:=hK.1 i (i+1) (by omega) (by omega)
      omega
   rcases Nat.lt_or_ge d H.length with hlt | hge
   ·have g:=this H.length (Nat.le_refl _) (H.length-1) (by omega)
    have j:=hK.2 (H.length-1) (by omega)
    omega
   ·exact hge
  rcases Nat.lt_or_ge H.length d with hlt | hge
  ·obtain ⟨v,⟨i,a,b⟩,hv⟩:=ZC2 d H hlt
   exact absurd (h v (fun r hr=>ZDQ (hg.dep r hr) (fun i a=>hv _ (ZB0 a))) i a) b
  ·omega
def Par(d:Nat)(u a:Nat→Int):Prop:=∀i j,i < d→j < d→u i*a j=u j*a i
theorem ZQU{d:Nat}{u a:Nat→Int}{s t:Int}(hs:s≠0)(h:∀i,i < d→s*u i=t*a i):Par d u a:=by
 intro i j c b
 have f:s*(u i*a j)=s*(u j*a i):=by
  rw [←Int.mul_assoc,←Int.mul_assoc,h i c,h j b]; grind
 exact Int.eq_of_mul_eq_mul_left hs f
theorem ZFF{d:Nat}{L H:List (Nat→Int)}(hg:Greedy d L H)(hl:H.length+1=d) :
  (∃i,i < d∧mu H i≠0)∧(∀r∈L,dot d r (mu H)=0)∧∀u:Nat→Int,(∀r∈L,dot d r u=0)→Par d u (mu H):=by
 subst hl;have g:=ZKK hg.free
 have c:∀r∈H,dot (H.length+1) r (mu H)=0:=by
  intro r a;obtain ⟨i,b,rfl⟩:=ZHY a;exact ZKJ b
 refine ⟨g,fun r a=>ZDQ (hg.dep r a) (fun i b=>c _ (ZB0 b)),fun u hu=>?_⟩
 have f:=ZHb g
 have l:FreeP (H.length+1) (H ++ [mu H]):=by
  refine Classical.byContradiction fun hn=>?_
  have:=ZDQ (ZBa hg.free hn) (v:=mu H) (fun i b=>c _ (ZB0 b))
  omega
 have j:=ZD6 l (by simp) (v:=fun k=>dot (H.length+1) (mu H) (mu H)*u k+(- dot (H.length+1) (mu H) u)*mu H k) (fun r a=>by
  rw [ZAU,ZBI,ZAU _ u r,ZAU _ (mu H) r]
  rcases List.mem_append.1 a with a | a
  ·rw [hu r (hg.mem r a),c r a]; omega
  ·simp at a; subst a
   grind)
 refine ZQU (s:=dot (H.length+1) (mu H) (mu H)) (t:=dot (H.length+1) (mu H) u) (by omega) fun i b=>?_
 have:=j i b
 grind
theorem ZDh{d:Nat}{L H:List (Nat→Int)}(hg:Greedy d L H){a:Nat→Int}(ha:∃i,i < d∧a i≠0)(h0:∀r∈L,dot d r a=0)(h1:∀u:Nat→Int,(∀r∈L,dot d r u=0)→Par d u a):H.length+1=d:=by
 have o:H.length≠d:=by
  intro p;obtain ⟨i,b,h⟩:=ha;exact h ((ZCi hg).1 p a h0 i b)
 have t:H.length≤d:=by
  refine Classical.byContradiction fun hgt=>?_
  obtain ⟨K,hK,_⟩:=hg.free
  have:∀n,n≤H.length→∀i,i < n→i≤K i:=by
   intro n
   induction n with
   | zero=>intro _ i b; omega
   | succ n ih=>
    intro y i b
    cases i with
    | zero=>omega
    | succ i=>
     have h1:=ih (by omega) i (by omega)
     have x:=hK.1 i (i+1) (by omega) (by omega)
     omega
  have h1:=this H.length (Nat.le_refl _) (H.length-1) (by omega)
  have x:=hK.2 (H.length-1) (by omega)
  omega
 rcases Nat.lt_or_ge (H.length+1) d with hlt | hge
 ·obtain ⟨v,m,hv⟩:=ZC2 d (H ++ [a]) (by simp; omega)
  have f:∀r∈L,dot d r v=0:=fun r hr=>ZDQ (hg.dep r hr) (fun i b=>hv _ (List.mem_append_left _ (ZB0 b)))
  have l:dot d a v=0:=hv a (by simp)
  have s:=h1 v f;obtain ⟨i,b,c⟩:=m
  have e:v i*dot d a a=0:=by
   unfold dot
   rw [←ZAV,ZAC (g:=fun j=>a i*(a j*v j)) (fun j hj=>by have:=s i j b hj; grind),ZAV]
   have:sumN d (fun j=>a j*v j)=0:=l
   rw [this,Int.mul_zero]
  rcases Int.mul_eq_zero.1 e with h | h
  ·exact absurd h c
  ·have:=ZHb ha; omega
 ·omega
def ZD7(d:Nat)(Z:List (Nat→Int))(c:Nat→Int):Nat:=Z.countP fun z=>decide (dot d c z≠0)
theorem ZIf{d:Nat}{Z:List (Nat→Int)}{c e:Nat→Int}(h:∀z∈Z,dot d c z=0→dot d e z=0){z1:Nat→Int}(hz:z1∈Z)(hc:dot d c z1≠0)(he:dot d e z1=0):ZD7 d Z e < ZD7 d Z c:=by
 unfold ZD7;obtain ⟨A,B,rfl⟩:=List.append_of_mem hz
 have a:∀X:List (Nat→Int),(∀z∈X,dot d c z=0→dot d e z=0)→X.countP (fun z=>decide (dot d e z≠0))≤X.countP (fun z=>decide (dot d c z≠0)):=by
  intro X b
  refine List.countP_mono_left fun z hz hp=>?_
  simp only [decide_eq_true_eq] at hp ⊢
  exact fun h0=>hp (b z hz h0)
 have g:=a A fun z hz=>h z (by simp [hz])
 have f:=a B fun z hz=>h z (by simp [hz])
 rw [List.countP_append,List.countP_append,List.countP_cons_of_neg (by simp [he]),List.countP_cons_of_pos (by simp [hc])]
 omega
theorem ZCj{α:Type}{f g:α→Int} : ∀{X:List α},X≠[]→(∀z∈X,0 < g z)→∃z1,z1∈X∧∀z∈X,f z1*g z≤f z*g z1
 | [x],_,_=>⟨x,by simp,fun z hz=>by simp at hz; subst hz; exact Int.le_refl _⟩
 | x :: y :: X,_,hg=>by
  obtain ⟨z1,h1,h2⟩:=ZCj (f:=f) (g:=g) (X:=y :: X) (by simp) (fun z hz=>hg z (List.mem_cons_of_mem _ hz))
  have g1:=hg z1 (List.mem_cons_of_mem _ h1)
  have gx:=hg x (by simp)
  by_cases hc:f x*g z1≤f z1*g x
  ·refine ⟨x,by simp,fun z hz=>?_⟩
   rcases List.mem_cons.1 hz with rfl | hz
   ·exact Int.le_refl _
   ·have h3:=h2 z hz
    have gz:=hg z (List.mem_cons_of_mem _ hz);have a1:f x*g z1*g z≤f z1*g x*g z:=Int.mul_le_mul_of_nonneg_right hc (Int.le_of_lt gz);have a2:f z1*g z*g x≤f z*g z1*g x:=Int.mul_le_mul_of_nonneg_right h3 (Int.le_of_lt gx)
    have a3:g z1*(f x*g z)≤g z1*(f z*g x):=by
     have a:g z1*(f x*g z)=f x*g z1*g z:=by grind
     have b:g z1*(f z*g x)=f z*g z1*g x:=by grind
     have c:f z1*g x*g z=f z1*g z*g x:=by grind
     omega
    exact Int.le_of_mul_le_mul_left a3 g1
  ·refine ⟨z1,List.mem_cons_of_mem _ h1,fun z hz=>?_⟩
   rcases List.mem_cons.1 hz with rfl | hz
   ·omega
   ·exact h2 z hz
theorem ray{d:Nat}{Z:List (Nat→Int)}{c w:Nat→Int}(hc:∀z∈Z,dot d c z≤0)(hw:∀z∈Z,dot d c z=0→dot d w z=0)(hp:∃z,z∈Z∧0 < dot d w z) :
  ∃s r:Int,0 < s∧0 < r∧(∀z∈Z,dot d (fun k=>s*c k+r*w k) z≤0)∧ZD7 d Z (fun k=>s*c k+r*w k) < ZD7 d Z c:=by
 obtain ⟨o,i,l⟩:=hp
 obtain ⟨z1,m,v⟩:=ZCj (f:=fun z=>- dot d c z) (g:=fun z=>dot d w z) (X:=Z.filter fun z=>decide (0 < dot d w z)) (by
   intro p
   have:o∈Z.filter fun z=>decide (0 < dot d w z):=by simp [i,l]
   rw [p] at this; simp at this) (fun z hz=>by simpa using (List.mem_filter.1 hz).2)
 have a:=(List.mem_filter.1 m).1
 have b:0 < dot d w z1:=by simpa using (List.mem_filter.1 m).2
 have t:dot d c z1 < 0:=by
  have n:=hc z1 a
  rcases Int.lt_or_eq_of_le n with h | h
  ·exact h
  ·have:=hw z1 a h; omega
 refine ⟨dot d w z1,- dot d c z1,b,by omega,fun z hz=>?_,ZIf (z1:=z1) (fun z hz h0=>?_) a (by omega) ?_⟩
 ·rw [ZBI]
  have j:=hc z hz
  by_cases hwz:0 < dot d w z
  ·have n : - dot d c z1*dot d w z≤- dot d c z*dot d w z1:=v z (by simp [hz,hwz])
   have x : - dot d c z1*dot d w z=-(dot d c z1*dot d w z):=by grind
   have y : - dot d c z*dot d w z1=-(dot d w z1*dot d c z):=by grind
   omega
  ·have B:dot d w z1*dot d c z≤0:=Int.mul_nonpos_of_nonneg_of_nonpos (Int.le_of_lt b) j
   have A : - dot d c z1*dot d w z≤0:=Int.mul_nonpos_of_nonneg_of_nonpos (by omega) (by omega)
   omega
 ·rw [ZBI,h0,hw z hz h0]; omega
 ·rw [ZBI]; grind
theorem ZBn(d:Nat)(a x:Nat→Int):dot d (fun k=>- a k) x=- dot d a x:=by
 unfold dot;rw [←ZBL]
 exact ZAC fun i _=>by grind
theorem ZR5{d:Nat}{Z:List (Nat→Int)}{v:Nat→Int}(hspan:∀c:Nat→Int,(∀z∈Z,dot d c z=0)→∀i,i < d→c i=0)
 (hside:∀c:Nat→Int,(∃i,i < d∧c i≠0)→(∀z∈Z,dot d c z≤0)→(∀u:Nat→Int,(∀z∈Z,dot d c z=0→dot d u z=0)→Par d u c)→dot d c v≤0) :
  ∀(n:Nat) (c:Nat→Int),ZD7 d Z c≤n→(∀z∈Z,dot d c z≤0)→dot d c v≤0:=by
 intro n
 induction n with
 | zero=>
  intro c hn R
  have t:ZD7 d Z c=0:=by omega
  unfold ZD7 at t;rw [List.countP_eq_zero] at t
  exact Int.le_of_eq (ZBQ (hspan c fun z b=>by have:=t z b; simpa using this))
 | succ n ih=>
  intro c hn R
  by_cases hall:∀z∈Z,dot d c z=0
  ·exact Int.le_of_eq (ZBQ (hspan c hall))
  ·have:∃g,g∈Z∧dot d c g≠0:=Classical.byContradiction fun h=>hall fun z b=>Classical.byContradiction fun f=>h ⟨z,b,f⟩
   obtain ⟨g,U,m⟩:=this
   have P:∃i,i < d∧c i≠0:=Classical.byContradiction fun h=>m (ZBQ fun i N=>Classical.byContradiction fun f=>h ⟨i,N,f⟩)
   by_cases hp:∀u:Nat→Int,(∀z∈Z,dot d c z=0→dot d u z=0)→Par d u c
   ·exact hside c P R hp
   ·have:∃u:Nat→Int,(∀z∈Z,dot d c z=0→dot d u z=0)∧¬Par d u c:=Classical.byContradiction fun h=>hp fun u X=>Classical.byContradiction fun f=>h ⟨u,X,f⟩
    obtain ⟨u,X,aa⟩:=this
    have:∃i j,i < d∧j < d∧u i*c j≠u j*c i:=Classical.byContradiction fun h=>aa fun i j N Y=>Classical.byContradiction fun f=>h ⟨i,j,N,Y,f⟩
    obtain ⟨i,j,N,Y,f⟩:=this
    -- a direction that is 0 with all that c is,and with one p
    obtain ⟨w,o⟩:∃w:Nat→Int,w=fun k=>dot d c g*u k+(- dot d u g)*c k:=⟨_,rfl⟩
    have Q:∀z,dot d w z=dot d c g*dot d u z+(- dot d u g)*dot d c z:=fun z=>by rw [o,ZBI]
    have O:dot d w g=0:=by rw [Q]; grind
    have A:∀z∈Z,dot d c z=0→dot d w z=0:=fun z b t=>by rw [Q,X z b t,t]; omega
    have V:∃z,z∈Z∧dot d w z≠0:=by
     refine Classical.byContradiction fun h=>?_
     have b:=hspan w fun z b=>Classical.byContradiction fun f=>h ⟨z,b,f⟩
     have S:=b i N;have T:=b j Y;rw [o] at S T;simp only at S T
     have e3:dot d c g*(u i*c j-u j*c i)=0:=by
      have:(dot d c g*u i + - dot d u g*c i)*c j-(dot d c g*u j + - dot d u g*c j)*c i=0:=by rw [S,T]; omega
      grind
     rcases Int.mul_eq_zero.1 e3 with h | h
     ·exact m h
     ·omega
    have p:∀e:Nat→Int,(∀z∈Z,dot d c z=0→dot d e z=0)→(∀z∈Z,dot d e z≤0)→dot d e g=0→dot d e v≤0:=fun e l y L=>
     ih e (by have:=ZIf l U m L; omega) y
    have up:(∃z,z∈Z∧0 < dot d w z)→∃s r:Int,0 < s∧0 < r∧s*dot d c v+r*dot d w v≤0:=by
     intro h;obtain ⟨s,r,E,F,l,y⟩:=ray R A h
     exact ⟨s,r,E,F,by rw [←ZBI]; exact ih _ (by omega) l⟩
    have dn:(∃z,z∈Z∧dot d w z < 0)→∃s r:Int,0 < s∧0 < r∧s*dot d c v-r*dot d w v≤0:=by
     rintro ⟨z,b,ae⟩
     obtain ⟨s,r,E,F,l,y⟩:=ray (w:=fun k=>- w k) R (fun z b t=>by rw [ZBn,A z b t]; rfl) ⟨z,b,by rw [ZBn]; omega⟩
     have L:=ih _ (by omega) l
     rw [ZBI,ZBn] at L
     exact ⟨s,r,E,F,by rw [Int.mul_neg] at L; omega⟩
    have G:∀{s x:Int},0 < s→s*x≤0→x≤0:=fun {s x} E h=>by
     rcases Int.lt_or_le 0 x with l | l
     ·have:=Int.mul_pos E l; omega
     ·exact l
    by_cases hup:∃z,z∈Z∧0 < dot d w z
    ·obtain ⟨s,r,E,F,l⟩:=up hup
     by_cases hdn:∃z,z∈Z∧dot d w z < 0
     ·obtain ⟨M,D,J,B,y⟩:=dn hdn
      have L:(s*D+M*r)*dot d c v≤0:=by
       have S:D*(s*dot d c v+r*dot d w v)≤0:=Int.mul_nonpos_of_nonneg_of_nonpos (Int.le_of_lt B) l;have T:r*(M*dot d c v-D*dot d w v)≤0:=Int.mul_nonpos_of_nonneg_of_nonpos (Int.le_of_lt F) y
       have e3:(s*D+M*r)*dot d c v=D*(s*dot d c v+r*dot d w v)+r*(M*dot d c v-D*dot d w v):=by grind
       omega
      exact G (by have:=Int.mul_pos E B; have:=Int.mul_pos J F; omega) L
     ·have y:dot d (fun k=>- w k) v≤0:=p _ (fun z b t=>by rw [ZBn,A z b t]; rfl) (fun z b=>by
       rw [ZBn]
       rcases Int.lt_or_le (dot d w z) 0 with h | h
       ·exact absurd ⟨z,b,h⟩ hdn
       ·omega) (by rw [ZBn,O]; rfl)
      rw [ZBn] at y
      have h4:0≤r*dot d w v:=Int.mul_nonneg (Int.le_of_lt F) (by omega)
      exact G E (by omega)
    ·have y:dot d w v≤0:=p w A (fun z b=>by
      rcases Int.lt_or_le 0 (dot d w z) with h | h
      ·exact absurd ⟨z,b,h⟩ hup
      ·exact h) O
     obtain ⟨z,b,af⟩:=V
     obtain ⟨M,D,J,B,L⟩:=dn ⟨z,b,by
      rcases Int.lt_or_le 0 (dot d w z) with h | h
      ·exact absurd ⟨z,b,h⟩ hup
      ·omega⟩
     have h4:D*dot d w v≤0:=Int.mul_nonpos_of_nonneg_of_nonpos (Int.le_of_lt B) y
     exact G J (by omega)
end Go.Proofs.YtkjkfceblmgogaaGreat.Lin
