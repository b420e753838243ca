import Derived.Test.YtkjkfceblmgogaaGreatRunE
import Derived.Lib.JoinLaws
import Derived.Deep.Cut
set_option maxRecDepth 100000
set_option maxHeartbeats 4000000
namespace Go.Proofs.YtkjkfceblmgogaaGreat.Lin
theorem ZCl{M M':Nat→Nat→Int}{k:Nat}(hM:∀i,i < k→M i=M' i):ZAr M k=ZAr M' k:=
 List.map_congr_left fun i hi=>hM i (by simpa using hi)
theorem ZDs{M M':Nat→Nat→Int}{C C':Nat→Nat}{k:Nat}(hM:∀i,i < k→M i=M' i)(hC:∀b,b < k→C b=C' b):dk M C k=dk M' C' k:=by
 unfold dk;rw [ZCl hM]
 refine od_congr (by simp [cols]) (fun i hi b hb=>?_) _
 have a:i < (ZAr M' k).length:=by simpa [cols] using hi
 have e:=ZBP (C:=C) a;have c:=ZBP (C:=C') a;unfold row at e c
 rw [e,c]; show _=_; simp only [hC b hb]
theorem ZJU{C C':Nat→Nat}{k:Nat}(hC:∀b,b < k→C b=C' b)(j:Nat):ZDn C k j=ZDn C' k j:=by
 funext b
 unfold ZDn
 by_cases h:b < k
 ·simp [h,hC b h]
 ·simp [h]
theorem ZDS{M M':Nat→Nat→Int}{C C':Nat→Nat}{k:Nat}(hM:∀i,i < k→M i=M' i)(hC:∀b,b < k→C b=C' b)(u:Nat→Int)(j:Nat):rho M C k u j=rho M' C' k u j:=by
 unfold rho;rw [ZCl hM,ZJU hC]
theorem ZM2{M M':Nat→Nat→Int}{C C':Nat→Nat}{k i:Nat}(hM:∀i,i < k→M i=M' i)(hC:∀b,b < k→C b=C' b)(hi:M i=M' i)(j:Nat):rr M C k i j=rr M' C' k i j:=by
 unfold rr;rw [ZDs hM hC,hi,ZDS hM hC,ZDS hM hC]
 by_cases h:i < k
 ·rw [if_pos h,if_pos h,hC i h]
 ·rw [if_neg h,if_neg h]
structure Red(M:Nat→Nat→Int)(n q:Nat)(M':Nat→Nat→Int)(C:Nat→Nat)(k:Nat)(sgn:Int):Prop where
 done:Done M' n q k C
 sub:∀i,i < n→∃i',i' < n∧M' i=M i'
 sup:∀i,i < n→∃i',i' < n∧M i=M' i'
 sign:od n (ZAr M' n) (fun _=>false)=sgn*od n (ZAr M n) (fun _=>false)
 one:sgn=1∨sgn=-1
theorem Red.start(M:Nat→Nat→Int)(n:Nat)(C:Nat→Nat):Red M n 0 M C 0 1:=
 ⟨⟨Za5 _,⟨fun _ b _ hb=>absurd hb (by omega),fun b hb=>absurd hb (by omega)⟩,by simp [dk,cols,ZAr,od],fun _ _ _ j hj=>absurd hj (by omega)⟩,
  fun i hi=>⟨i,hi,rfl⟩,fun i hi=>⟨i,hi,rfl⟩,by simp,Or.inl rfl⟩
theorem Red.none{M:Nat→Nat→Int}{n q:Nat}{M':Nat→Nat→Int}{C:Nat→Nat}{k:Nat}{sgn:Int}(h:Red M n q M' C k sgn)(hz:∀i,k≤i→i < n→rr M' C k i q=0):Red M n (q+1) M' C k sgn:=by
 refine ⟨⟨h.done.kn,⟨h.done.rise.1,fun b hb=>by have:=h.done.rise.2 b hb; omega⟩,h.done.nz,fun i h1 h2 j hj=>?_⟩,h.sub,h.sup,h.sign,h.one⟩
 by_cases e:j=q
 ·subst e; exact hz i h1 h2
 ·exact h.done.zero i h1 h2 j (by omega)
theorem ZRP{M:Nat→Nat→Int}{n k i0:Nat}(h1:k < i0)(h2:i0 < n)(U:Nat→Bool):od n (ZAr (fun i=>M (sw k i0 i)) n) U=- od n (ZAr M n) U:=by
 obtain ⟨A,B,D,x,y,a,g,o⟩:=ZD2 (L:=ZAr M n) h1 (by rw [ZAk]; exact h2)
 have f:(ZAr M n)[k]?=some (M k):=by simp [ZAr,show k < n by omega]
 have d:(ZAr M n)[i0]?=some (M i0):=by simp [ZAr,h2]
 have l:x=M k:=by
  rw [a,Za8 (by omega)] at f
  simpa [g] using f
 have m:y=M i0:=by
  rw [a,Za8 (by omega),show i0-A.length=B.length+1 by omega,List.getElem?_cons_succ,Za8 (by omega)] at d
  simpa using d
 have e:ZAr (fun i=>M (sw k i0 i)) n=A ++ y :: (B ++ x :: D):=by
  have j:((ZAr M n).set k y).set i0 x=A ++ y :: (B ++ x :: D):=by
   rw [a,ZIa g]
   have:A ++ y :: (B ++ y :: D)=(A ++ y :: B) ++ y :: D:=by simp
   rw [this,ZIa (by simp; omega)]
   simp
  rw [←j,l,m]
  apply List.ext_getElem?
  intro i;rw [List.getElem?_set,List.getElem?_set]
  by_cases a1:i0=i
  ·subst a1; simp [ZAr,h2,sw,show ¬i0=k by omega]
  ·by_cases a2:k=i
   ·subst a2; simp [ZAr,show k < n by omega,sw,a1]
   ·have b:¬i=i0:=fun h=>a1 h.symm
    have c:¬i=k:=fun h=>a2 h.symm
    rw [if_neg a1,if_neg a2]
    by_cases hin:i < n
    ·simp [ZAr,hin,sw,b,c]
    ·rw [Zaa6 (by simp [ZAr]; omega),Zaa6 (by simp [ZAr]; omega)]
 rw [e,ZKA,←a]
def sC(C:Nat→Nat)(k q:Nat):Nat→Nat:=fun b=>if b=k then q else C b
theorem Red.some{M:Nat→Nat→Int}{n q:Nat}{M':Nat→Nat→Int}{C:Nat→Nat}{k f:Nat}{sgn:Int}(h:Red M n q M' C k sgn)(hf:k+f < n)(hne:rr M' C k (k+f) q≠0) :
  Red M n (q+1) (fun i=>M' (sw k (k+f) i)) (sC C k q) (k+1) (if f=0 then sgn else -sgn)∧
  dk (fun i=>M' (sw k (k+f) i)) (sC C k q) (k+1)=rr M' C k (k+f) q∧
  (∀i,i≠k→∀j,rr M' C k (k+f) q*rr M' C k (sw k (k+f) i) j-rr M' C k (sw k (k+f) i) q*rr M' C k (k+f) j=dk M' C k*rr (fun i=>M' (sw k (k+f) i)) (sC C k q) (k+1) i j)∧
  (∀j,rr (fun i=>M' (sw k (k+f) i)) (sC C k q) (k+1) k j=rr M' C k (k+f) j)∧dk (fun i=>M' (sw k (k+f) i)) (sC C k q) k=dk M' C k:=by
 have x:∀i,i < k→(fun i=>M' (sw k (k+f) i)) i=M' i:=by
  intro i m; show M' (sw k (k+f) i)=M' i; unfold sw; rw [if_neg (by omega),if_neg (by omega)]
 have o:∀b,b < k→sC C k q b=C b:=by intro b s; unfold sC; rw [if_neg (by omega)]
 have l:sC C k q k=q:=by simp [sC]
 have r:dk (fun i=>M' (sw k (k+f) i)) (sC C k q) k=dk M' C k:=ZDs x o
 have c:∀i j,rr (fun i=>M' (sw k (k+f) i)) (sC C k q) k i j=rr M' C k (sw k (k+f) i) j:=by
  intro i j
  by_cases m:i < k
  ·rw [ZM2 x o (x i m)]
   congr 1; unfold sw; rw [if_neg (by omega),if_neg (by omega)]
  ·have z:¬sw k (k+f) i < k:=by unfold sw; split <;> (try split) <;> omega
   unfold rr;rw [if_neg m,if_neg z,ZDS x o]
 have g:sw k (k+f) k=k+f:=by simp [sw]
 have t:dk (fun i=>M' (sw k (k+f) i)) (sC C k q) (k+1)=rr M' C k (k+f) q:=by
  have e:=c k q;rw [g] at e
  rw [ZHa,l,←e]; unfold rr; rw [if_neg (by omega)]
 have p:dk (fun i=>M' (sw k (k+f) i)) (sC C k q) (k+1)≠0:=by rw [t]; exact hne
 have v:∀b,b < k→sC C k q b≠sC C k q k:=by
  intro b s; rw [o b s,l]; have:=h.done.rise.2 b s; omega
 have d:∀i,i≠k→∀j,rr M' C k (k+f) q*rr M' C k (sw k (k+f) i) j-rr M' C k (sw k (k+f) i) q*rr M' C k (k+f) j=dk M' C k*rr (fun i=>M' (sw k (k+f) i)) (sC C k q) (k+1) i j:=by
  intro i m j;have:=ZO0 p v m j;rw [c,c,c,c,l,g,r] at this;exact this
 refine ⟨⟨⟨hf |> fun h=>by omega,⟨fun a b hab s=>?_,fun b s=>?_⟩,p,fun i F y j hj=>?_⟩,fun i m=>?_,fun i m=>?_,?_,?_⟩,t,d,fun j=>?_,r⟩
 ·by_cases e:b=k
  ·subst e; rw [l,o a hab]; exact h.done.rise.2 a hab
  ·rw [o a (by omega),o b (by omega)]; exact h.done.rise.1 a b hab (by omega)
 ·by_cases e:b=k
  ·subst e; rw [l]; omega
  ·rw [o b (by omega)]; have:=h.done.rise.2 b (by omega); omega
 ·have z:=d i (by omega) j
  have D:k≤sw k (k+f) i:=by unfold sw; split <;> (try split) <;> omega
  have A:sw k (k+f) i < n:=ZFk (by omega) hf y
  have G:dk M' C k*rr (fun i=>M' (sw k (k+f) i)) (sC C k q) (k+1) i j=0:=by
   rw [←z]
   by_cases e:j=q
   ·subst e; rw [Int.mul_comm]; omega
   ·rw [h.done.zero _ D A j (by omega),h.done.zero (k+f) (by omega) hf j (by omega)]; simp
  rcases Int.mul_eq_zero.1 G with e | e
  ·exact absurd e h.done.nz
  ·exact e
 ·exact h.sub _ (ZFk (by omega) hf m)
 ·obtain ⟨E,F,y⟩:=h.sup i m
  refine ⟨sw k (k+f) E,ZFk (by omega) hf F,?_⟩
  rw [y]
  show M' E=M' (sw k (k+f) (sw k (k+f) E))
  congr 1
  unfold sw; grind
 ·by_cases e:f=0
  ·subst e
   rw [if_pos rfl,←h.sign]
   congr 1
   exact ZCl fun i _=>by show M' (sw k (k+0) i)=M' i; rw [Nat.add_zero,ZFl]
  ·rw [if_neg e,ZRP (by omega) hf,h.sign]; grind
 ·have:=h.one
  by_cases e:f=0 <;> simp [e] <;> omega
 ·have B:dk (fun i=>M' (sw k (k+f) i)) (sC C k q) k≠0:=by rw [r]; exact h.done.nz
  rw [ZQR B p v j,c,g]
end Go.Proofs.YtkjkfceblmgogaaGreat.Lin
namespace Go.Proofs.YtkjkfceblmgogaaGreat
open Go.RowKit Lin
def Bd(M:Nat→Nat→Int)(n c:Nat):Prop:=∀q M' C k sgn,q≤c→Red M n q M' C (k+1) sgn→∀i,i < n→∀j,j < c→
 (dk M' C k*rr M' C (k+1) i j).natAbs≤9223372036854775807∧(rr M' C (k+1) i j).natAbs≤9223372036854775807
def LS(B R n c:Nat)(M:Nat→Nat→Int)(q:Nat)(w:World):Prop:=
 ∃M' C k sgn,Red M n q M' C k sgn∧∃go capo pv bs caps,RS B R n c (rr M' C k) ((List.range k).map fun b=>(C b:Int)) (dk M' C k) sgn go capo pv bs caps w
theorem ZHd{k q:Nat}{C:Nat→Nat} : ((List.range (k+1)).map fun b=>(sC C k q b:Int))=((List.range k).map fun b=>(C b:Int)) ++ [(q:Int)]:=by
 rw [List.range_succ,List.map_append]
 congr 1
 ·refine List.map_congr_left fun b hb=>?_
  have:b < k:=by simpa using hb
  unfold sC; rw [if_neg (by omega)]
 ·simp [sC]
theorem ZJV{n k:Nat}(p:Nat→Int):(∀i,k≤i→i < n→p i=0)∨∃f,k+f < n∧p (k+f)≠0∧∀i,k≤i→i < k+f→p i=0:=by
 by_cases h:∀i,k≤i→i < n→p i=0
 ·exact Or.inl h
 ·refine Or.inr ?_
  have s:∃i,k≤i∧i < n∧p i≠0:=by
   apply Za6
   intro d
   apply h
   intro i a b
   apply Za6
   intro c;exact d ⟨i,a,b,c⟩
  have o:∃f,k+f < n∧p (k+f)≠0:=by
   obtain ⟨i,a,b,c⟩:=s
   exact ⟨i-k,by omega,by rw [show k+(i-k)=i by omega]; exact c⟩
  have j:∀m f,f < m→k+f < n→p (k+f)≠0→∃f,k+f < n∧p (k+f)≠0∧∀i,k≤i→i < k+f→p i=0:=by
   intro m
   induction m with
   | zero=>intro f h; omega
   | succ m ih=>
    intro f o a b
    by_cases c:∀i,k≤i→i < k+f→p i=0
    ·exact ⟨f,a,b,c⟩
    ·have:∃i,k≤i∧i < k+f∧p i≠0:=by
      apply Za6
      intro d
      apply c
      intro i r l
      apply Za6
      intro g;exact d ⟨i,r,l,g⟩
     obtain ⟨i,r,l,g⟩:=this
     exact ih (i-k) (by omega) (by omega) (by rw [show k+(i-k)=i by omega]; exact g)
  obtain ⟨f,a,b⟩:=o
  exact j (f+1) f (by omega) a b
theorem ZJW(B R n c q:Nat)(M:Nat→Nat→Int)(w:World)(h:LS B R n c M q w)(hB:B≤w.heap.size)(hBR:B≤R)(hn:n≤500)(hq:q < c)(hbd:Bd M n c) :
  Calls Tryz.prog 110 #[.pointer (some ⟨R,0,none⟩),.int .i64 q] w fun e w'=>e=.returned (.tuple #[])∧LS B R n c M (q+1) w'∧Below B w w':=by
 obtain ⟨p,C,k,s,m,o,a,A,z,d,E⟩:=h
 have g:((List.range k).map fun b=>(C b:Int)).length=k:=by simp
 rcases ZJV (n:=n) (k:=k) fun i=>rr p C k i q with hz | ⟨f,h1,h2,h3⟩
 ·refine (ZJS B R n c q _ _ _ _ o a A z d w E hB hn (by rw [g]; exact m.done.kn) hq (by rw [g]; exact hz)).mono ?_
  rintro e w' ⟨y,r,x⟩;exact ⟨y,⟨p,C,k,s,m.none hz,o,a,A,z,d,r⟩,x⟩
 ·obtain ⟨D,F,N,G,J⟩:=m.some h1 h2
  have L:=hbd (q+1) _ _ _ _ (by omega) D
  refine (ZJT B R n c q f (rr p C k) (rr (fun i=>p (sw k (k+f) i)) (sC C k q) (k+1)) _ _ _ o a A z d w E hB hBR hn (by rw [g]; exact h1) hq (by rw [g]; exact h3) (by rw [g]; exact h2) m.done.nz m.one
   (by rw [g]; exact fun i _ hi j _=>N i hi j) (by rw [g]; exact fun i hi _ j hj=>by have:=L i hi j hj; rw [J] at this; exact this)).mono ?_
  rintro e w' ⟨y,⟨v,t,l,r⟩,x⟩;refine ⟨y,⟨_,_,_,_,D,o,a,v,t,l,?_⟩,x⟩;rw [g] at r;rw [ZHd,F]
  refine r.congr fun i _ j _=>?_
  by_cases e:i=k
  ·subst e; rw [if_pos rfl,G]
  ·rw [if_neg e]
end Go.Proofs.YtkjkfceblmgogaaGreat
namespace Go.Proofs.YtkjkfceblmgogaaGreat
open Go.RowKit Lin
attribute [local go_sem ↓] Go.wp_at_zero Go.wp_at_succ
structure GS(B R t c:Nat)(mat:Nat→Nat→Int)(rv pv:Value)(bs caps:Nat→Nat)(w:World):Prop where
 st:w.heap[R]?=some (.cells #[rv,pv,.int .i64 1,.int .i64 1] 109 (0,0))
 out:w.ownsRow B 27 1 rv t ((List.range t).map fun i=>.slice (some ⟨bs i,0,none⟩) c (caps i))
 row:∀i,i < t→w.ownsRow B 3 1 (.slice (some ⟨bs i,0,none⟩) c (caps i)) c (ZAB ((List.range c).map (mat i)))
 inj:∀i j,i < t→j < t→i≠j→bs i≠bs j
 piv:w.ownsRow B 3 1 pv 0 []
 off:∀g,pv.ownBlock=some g→∀i,i < t→bs i≠g
theorem GS.push{B R t c g uc:Nat}{mat:Nat→Nat→Int}{rv pv v':Value}{bs caps:Nat→Nat}{w w2 w3:World}{o:Obj}(h:GS B R t c mat rv pv bs caps w)(hB:B≤w.heap.size)(hb:Below w.heap.size w w2)
 (hu:w2.ownsRow w.heap.size 3 1 (.slice (some ⟨g,0,none⟩) c uc) c (ZAB ((List.range c).map (mat t))))(hg:(w2.alloc o).grownBy w3 rv.ownBlock)
 (ho:w3.ownsRow B 27 1 v' (t+1) (((List.range t).map fun i=>.slice (some ⟨bs i,0,none⟩) c (caps i)) ++ [.slice (some ⟨g,0,none⟩) c uc]))(hat:v'.ownBlock=rv.ownBlock∨v'.ownBlock=some (w2.alloc o).heap.size) :
  GS B R (t+1) c mat v' pv (fun i=>if i=t then g else bs i) (fun i=>if i=t then uc else caps i) (w3.setCell ⟨R,0,none⟩ v')∧w3.cell? ⟨R,0,none⟩=some rv∧w3.frozen? ⟨R,0,none⟩=false∧Below B w w3:=by
 have L:=lt_of_block h.st
 have F:(w2.alloc o).heap.size=w2.heap.size+1:=by simp
 have N:=hb.size
 have s:∀k,rv.ownBlock=some k→∃f,w.heap[k]?=some (.cells f 27 (0,0))∧B≤k:=by
  intro k n
  rcases h.out.2 with ⟨e,_⟩ | ⟨g',cap,f,e,hb',hh,_⟩
  ·rw [e] at n; simp [Value.ownBlock] at n
  ·rw [e] at n; simp [Value.ownBlock] at n; subst n; exact ⟨f,hh,hb'⟩
 have p:=h.st
 have x:rv.ownBlock≠some R:=by
  intro e; obtain ⟨f,l,_⟩:=s R e; rw [p] at l; simp at l
 have m:∀b,b < w2.heap.size→rv.ownBlock≠some b→w3.heap[b]?=w2.heap[b]?:=by
  intro b l Q
  rw [hg.block b (by omega) (fun e=>Q e.symm),Below.heap_alloc _ _ _ l]
 have r:w3.heap[R]?=some (.cells #[rv,pv,.int .i64 1,.int .i64 1] 109 (0,0)):=by
  rw [m R (by omega) x,hb.block R L]; exact p
 have y:Below B w w3:=(((hb.mono hB).alloc (by omega) o)).grown hg (by omega) (fun k n=>(s k n).choose_spec.2)
 have z:v'.ownBlock≠some R:=by
  rcases hat with e | e
  ·rw [e]; exact x
  ·rw [e,F]; simp; omega
 have d:∀{D E:Nat} {v:Value} {G:List Value},w2.ownsRow D 3 1 v E G→B≤D→(w3.setCell ⟨R,0,none⟩ v').ownsRow B 3 1 v E G:=by
  intro D E v G hv M;refine ⟨hv.1,?_⟩
  rcases hv.2 with q2 | ⟨b,cap,f,rfl,r1,r2,r3⟩
  ·exact Or.inl q2
  ·have P:b≠R:=by
    rintro rfl; rw [hb.block b L,p] at r2; simp at r2
   have O:rv.ownBlock≠some b:=by
    intro e; obtain ⟨J,l,_⟩:=s b e;rw [hb.block b (lt_of_block l),l] at r2; simp at r2
   exact Or.inr ⟨b,cap,f,rfl,by omega,by rw [Below.heap_setCell _ _ _ _ P,m b (lt_of_block r2) O]; exact r2,r3⟩
 have S:w.heap.size≤g:=(hu.lt g (by simp [Value.ownBlock])).1
 refine ⟨⟨?_,?_,fun i hi=>?_,fun i j hi hj hij=>?_,d (ZAQ h.piv hb (Za4 _)) (Za4 _),fun g' hg' i hi=>?_⟩,by simp [World.cell?,r],by simp [World.frozen?,r],y⟩
 ·simp [World.setCell,Array.getElem?_modify,r]
 ·have l:=ownsRow_setCell_other ho (a:=⟨R,0,none⟩) z v'
  have e:((List.range (t+1)).map fun i=>Value.slice (some ⟨if i=t then g else bs i,0,none⟩) c (if i=t then uc else caps i))=((List.range t).map fun i=>.slice (some ⟨bs i,0,none⟩) c (caps i)) ++ [.slice (some ⟨g,0,none⟩) c uc]:=by
   rw [List.range_succ,List.map_append]
   congr 1
   ·refine List.map_congr_left fun i hi=>?_
    have:i < t:=by simpa using hi
    simp [show i≠t by omega]
   ·simp
  rw [e]; exact l
 ·by_cases e:i=t
  ·subst e; simpa using d hu hB
  ·simp only [e,if_false]
   exact d (ZAQ (h.row i (by omega)) hb (Za4 _)) (Za4 _)
 ·by_cases e:i=t
  ·subst e
   have A:j≠i:=fun h=>hij h.symm
   simp only [if_true,A,if_false]
   have:=(h.row j (by omega)).lt (bs j) (by simp [Value.ownBlock]); omega
  ·by_cases e2:j=t
   ·subst e2
    simp only [if_true,e,if_false]
    have:=(h.row i (by omega)).lt (bs i) (by simp [Value.ownBlock]); omega
   ·simp only [e,e2,if_false]
    exact h.inj i j (by omega) (by omega) hij
 ·by_cases e:i=t
  ·subst e
   simp only [if_true];have:=(h.piv.lt g' hg').2; omega
  ·simp only [e,if_false]
   exact h.off g' hg' i (by omega)
theorem GS.rs{B R n c:Nat}{mat:Nat→Nat→Int}{rv pv:Value}{bs caps:Nat→Nat}{w:World}(h:GS B R n c mat rv pv bs caps w)(hn:0 < n):∃go capo,RS B R n c mat [] 1 1 go capo pv bs caps w:=by
 rcases h.out.2 with ⟨_,e⟩ | ⟨go,capo,cur,e,_⟩
 ·omega
 ·subst e
  exact ⟨go,capo,h.st,h.out,h.row,h.inj,h.piv,h.off⟩
theorem GS.ls0{B R n c ra rc:Nat}{mat:Nat→Nat→Int}{pv:Value}{bs caps:Nat→Nat}{w:World}(h:GS B R n c mat (.slice (some ⟨ra,0,none⟩) n rc) pv bs caps w):LS B R n c mat 0 w:=by
 refine ⟨mat,fun _=>0,0,1,Red.start _ _ _,ra,rc,pv,bs,caps,?_⟩
 have e:dk mat (fun _=>0) 0=1:=by simp [dk,cols,ZAr,od]
 rw [e];have a:RS B R n c mat [] 1 1 ra rc pv bs caps w:=⟨h.st,h.out,h.row,h.inj,h.piv,h.off⟩
 exact a.congr fun i _ j _=>(ZOz _ _ _ _).symm
theorem ZM3(w:World)(o:Obj):(w.alloc o).heap[w.heap.size]?=some o:=by
 show (w.heap.push o)[w.heap.size]?=_
 simp
def mOf(m:List (List Int)):Nat→Nat→Int:=fun i j=>(m.getD i []).getD j 0
theorem RS.above{B R n c:Nat}{mat:Nat→Nat→Int}{piv:List Int}{val sgn:Int}{go capo:Nat}{pv:Value}{bs caps:Nat→Nat}{w w':World}(h:RS B R n c mat piv val sgn go capo pv bs caps w)(hR:B≤R)(hb:∀b,B≤b→w'.heap[b]?=w.heap[b]?) :
  RS B R n c mat piv val sgn go capo pv bs caps w':=by
 have a:∀{e:TypeId} {d:Nat} {v:Value} {f:List Value},w.ownsRow B e 1 v d f→w'.ownsRow B e 1 v d f:=by
  intro e d v f hv;refine ⟨hv.1,?_⟩
  rcases hv.2 with q2 | ⟨b,cap,cur,rfl,r1,r2,r3⟩
  ·exact Or.inl q2
  ·exact Or.inr ⟨b,cap,cur,rfl,r1,by rw [hb b r1]; exact r2,r3⟩
 exact ⟨by rw [hb R hR]; exact h.st,a h.out,fun i hi=>a (h.row i hi),h.inj,a h.piv,h.off⟩
theorem RS.whole{B B' R n c:Nat}{mat:Nat→Nat→Int}{piv:List Int}{val sgn:Int}{go capo:Nat}{pv:Value}{bs caps:Nat→Nat}{w:World}(h:RS B R n c mat piv val sgn go capo pv bs caps w) :
  Mat B' 27 3 w (.slice (some ⟨go,0,none⟩) n capo) (ZAl n c mat):=by
 have f:=h.out;obtain ⟨l,b⟩:=h.out
 rcases b with ⟨b,_⟩ | ⟨g,cap,cur,b,_⟩
 ·simp at b
 ·simp only [Za3,Zaa9,Addr.mk.injEq,and_true,true_and] at b
  obtain ⟨rfl,rfl⟩:=b
  refine ⟨(List.range n).map fun i=>Value.slice (some ⟨bs i,0,none⟩) c (caps i),by simp [ZAl],Sl.own f,fun i hi=>?_⟩
  have a:i < n:=by simpa [ZAl] using hi
  have d:((List.range n).map fun i=>Value.slice (some ⟨bs i,0,none⟩) c (caps i)).getD i (.slice none 0 0)=.slice (some ⟨bs i,0,none⟩) c (caps i):=by simp [a]
  have j:(ZAl n c mat).getD i []=(List.range c).map (mat i):=by simp [ZAl,a]
  rw [d,j];exact Sl.own (h.row i a)
theorem ZKT{m:List (List Int)}{c t:Nat}(hw:∀r∈m,r.length=c)(ht:t < m.length):(List.range c).map (mOf m t)=m.getD t []:=by
 have a:(m.getD t []).length=c:=by
  rw [Za2,Za9 ht]; exact hw _ (List.getElem_mem ht)
 apply List.ext_getElem?
 intro j
 by_cases hj:j < c
 ·rw [List.getElem?_map,List.getElem?_range hj]
  unfold mOf
  show some ((m.getD t []).getD j 0)=(m.getD t [])[j]?
  rw [Za2 (l:=m.getD t []),Za9 (show j < (m.getD t []).length by omega)]; rfl
 ·rw [Zaa6 (by simp; omega),Zaa6 (by omega)]
theorem ZIi{B n:Nat}{e:TypeId}{w:World}{u:Value}{xs:List Value}(h:w.ownsRow B e 1 u n xs)(hn:0 < n):∃g uc,u=.slice (some ⟨g,0,none⟩) n uc:=by
 rcases h.2 with ⟨_,e⟩ | ⟨g,cap,cur,e,_⟩
 ·omega
 ·exact ⟨g,cap,e⟩
theorem ZKU{B n:Nat}{e:TypeId}{w:World}{u:Value}{xs:List Value}(h:w.ownsRow B e 1 u n xs)(hn:0 < n):∃g n2 uc,u=.slice (some ⟨g,0,none⟩) n2 uc:=by
 obtain ⟨g,uc,e⟩:=ZIi h hn;exact ⟨g,n,uc,e⟩
theorem ZAR(w:World)(o:Obj):(w.alloc o).heap=w.heap.push o:=rfl
theorem ZAW(w:World):w.drew.heap=w.heap:=rfl
theorem GS.start{B R n c a b:Nat}{mat:Nat→Nat→Int}{W:World}{f g:Nat→Nat}(hR:W.heap[R]?=some (.cells #[.slice (some ⟨a,0,none⟩) 0 n,.slice (some ⟨b,0,none⟩) 0 c,.int .i64 1,.int .i64 1] 109 (0,0)))
 (ha:W.heap[a]?=some (.cells (madeCells #[.slice none 0 0] n) 27 (0,0)))(hb:W.heap[b]?=some (.cells (madeCells #[.int .i64 0] c) 3 (0,0)))(ha':B≤a)(hb':B≤b)(hn:n≤maxLen)(hc:c≤maxLen) :
  GS B R 0 c mat (.slice (some ⟨a,0,none⟩) 0 n) (.slice (some ⟨b,0,none⟩) 0 c) f g W:=
 ⟨hR,⟨by simp,Or.inr ⟨a,n,_,rfl,ha',ha,Za5 _,hn,by rw [size_madeCells]; omega,by simp⟩⟩,fun i hi=>absurd hi (by omega),fun i j hi=>absurd hi (by omega),
  ⟨by simp,Or.inr ⟨b,c,_,rfl,hb',hb,Za5 _,hc,by rw [size_madeCells]; omega,by simp⟩⟩,fun _ _ i hi=>absurd hi (by omega)⟩
theorem GS.startW{B R n c wd a b:Nat}{mat:Nat→Nat→Int}{W:World}{f g:Nat→Nat}(hR:W.heap[R]?=some (.cells #[.slice (some ⟨a,0,none⟩) 0 n,.slice (some ⟨b,0,none⟩) 0 wd,.int .i64 1,.int .i64 1] 109 (0,0)))
 (ha:W.heap[a]?=some (.cells (madeCells #[.slice none 0 0] n) 27 (0,0)))(hb:W.heap[b]?=some (.cells (madeCells #[.int .i64 0] wd) 3 (0,0)))(ha':B≤a)(hb':B≤b)(hn:n≤maxLen)(hc:wd≤maxLen) :
  GS B R 0 c mat (.slice (some ⟨a,0,none⟩) 0 n) (.slice (some ⟨b,0,none⟩) 0 wd) f g W:=
 ⟨hR,⟨by simp,Or.inr ⟨a,n,_,rfl,ha',ha,Za5 _,hn,by rw [size_madeCells]; omega,by simp⟩⟩,fun i hi=>absurd hi (by omega),fun i j hi=>absurd hi (by omega),
  ⟨by simp,Or.inr ⟨b,wd,_,rfl,hb',hb,Za5 _,hc,by rw [size_madeCells]; omega,by simp⟩⟩,fun _ _ i hi=>absurd hi (by omega)⟩
set_option linter.unusedSimpArgs false in
theorem ZEB(B0 c wd:Nat)(hwd:wd≤c)(hw0:0 < wd)(m:List (List Int))(v:Value)(w:World)(hv:Mat B0 27 3 w v m)(hm:m.length≤500)(hc0:0 < c)(hc:c≤64)(hw:∀r∈m,r.length=c)(hbd:Bd (mOf m) m.length c) :
  Calls Tryz.prog 86 #[v,.int .i64 wd] w fun e w'=>∃M' C k sgn,Red (mOf m) m.length wd M' C k sgn∧∃rv pv,e=.returned (.agg #[rv,pv,.int .i64 (dk M' C k),.int .i64 sgn])∧
   Mat w.heap.size 27 3 w' rv (ZAl m.length c (rr M' C k))∧Sl w.heap.size 3 w' pv (ZAB ((List.range k).map fun b=>(C b:Int)))∧Below w.heap.size w w':=by
 obtain ⟨i3,aZ,aF,ak,aG⟩:=info_parts Tryz.info27;obtain ⟨ao,aO,bh,bp,bt⟩:=ZAD hv;subst bh;have HV:Hid (Mat B0 27 3 w (.slice ao m.length aO) m):=hv;have aN:=hid hbd;have HW:=hid hw;clear hv hbd hw
 have aI:=run_make_room (P:=Tryz.prog) 22 27 (.slice none 0 0) 24 Tryz.underlying22 Tryz.info27 rfl .i64 .i64 m.length (by omega) (by omega)
 have bj:=run_make_room (P:=Tryz.prog) 27 3 (.int .i64 0) 8 Tryz.underlying27 Tryz.info3 rfl .i64 .i64 wd (by omega) (by omega)
 go_enter Tryz.func86,Tryz.ntmps86
 go_upto_region 1 with fail
 go_cut [5] from 9 (fun x wx=>∃R rv pv,x=.pointer (some ⟨R,0,none⟩)∧w.heap.size+1≤R∧GS (w.heap.size+1) R 0 c (mOf m) rv pv (fun _=>0) (fun _=>0) wx∧Below w.heap.size w wx∧wx.heap[w.heap.size]?=some (.cells #[.slice none 0 0,.slice none 0 0,.int .i64 0,.int .i64 0] 109 (0,0))∧∃p l,rv=.slice (some ⟨p,0,none⟩) 0 l)
 case first=>
  go_region_law fail
  all_goals go_wp2
  all_goals go_meet
  all_goals (have n1:(w.heap.size=w.heap.size+1+1+1)=False:=by simp; omega)
  all_goals (have z:(w.heap.size=w.heap.size+1+1)=False:=by simp; omega)
  all_goals first
   | (refine ⟨_,.slice (some ⟨w.heap.size+1,0,none⟩) 0 m.length,.slice (some ⟨w.heap.size+1+1,0,none⟩) 0 wd,rfl,?g0,GS.startW ?g1 ?g2 ?g3 ?g4 ?g5 ?g6 ?g7,?g8,?g9,_,_,rfl⟩; (case g1=>simp [ZAR,ZAW,Array.getElem_push]); (case g2=>simp [ZAR,ZAW,Array.getElem_push]); (case g3=>simp [ZAR,ZAW,Array.getElem_push]); (case g0=>omega); (case g4=>omega); (case g5=>omega); (case g6=>unfold maxLen; omega); (case g7=>unfold maxLen; omega); (case g8=>repeat first | exact Below.refl _ _ | refine Below.drew ?_ | refine Below.setCell ?_ (by simp; try omega) _ | refine Below.alloc ?_ (by simp; try omega) _); (case g9=>simp [ZAR,ZAW,Array.getElem?_push,n1,z]))
   | (refine ⟨_,.slice (some ⟨w.heap.size+1,0,none⟩) 0 m.length,.slice (some ⟨w.heap.size+1+1+1,0,none⟩) 0 wd,rfl,?g0,GS.startW ?g1 ?g2 ?g3 ?g4 ?g5 ?g6 ?g7,?g8,?g9,_,_,rfl⟩; (case g1=>simp [ZAR,ZAW,Array.getElem_push]); (case g2=>simp [ZAR,ZAW,Array.getElem_push]); (case g3=>simp [ZAR,ZAW,Array.getElem_push]); (case g0=>omega); (case g4=>omega); (case g5=>omega); (case g6=>unfold maxLen; omega); (case g7=>unfold maxLen; omega); (case g8=>repeat first | exact Below.refl _ _ | refine Below.drew ?_ | refine Below.setCell ?_ (by simp; try omega) _ | refine Below.alloc ?_ (by simp; try omega) _); (case g9=>simp [ZAR,ZAW,Array.getElem?_push,n1,z]))
   | (refine ⟨_,.slice (some ⟨w.heap.size+1+1,0,none⟩) 0 m.length,.slice (some ⟨w.heap.size+1,0,none⟩) 0 wd,rfl,?g0,GS.startW ?g1 ?g2 ?g3 ?g4 ?g5 ?g6 ?g7,?g8,?g9,_,_,rfl⟩; (case g1=>simp [ZAR,ZAW,Array.getElem_push]); (case g2=>simp [ZAR,ZAW,Array.getElem_push]); (case g3=>simp [ZAR,ZAW,Array.getElem_push]); (case g0=>omega); (case g4=>omega); (case g5=>omega); (case g6=>unfold maxLen; omega); (case g7=>unfold maxLen; omega); (case g8=>repeat first | exact Below.refl _ _ | refine Below.drew ?_ | refine Below.setCell ?_ (by simp; try omega) _ | refine Below.alloc ?_ (by simp; try omega) _); (case g9=>simp [ZAR,ZAW,Array.getElem?_push,n1,z]))
   | (refine ⟨_,.slice (some ⟨w.heap.size+1+1,0,none⟩) 0 m.length,.slice (some ⟨w.heap.size+1+1+1,0,none⟩) 0 wd,rfl,?g0,GS.startW ?g1 ?g2 ?g3 ?g4 ?g5 ?g6 ?g7,?g8,?g9,_,_,rfl⟩; (case g1=>simp [ZAR,ZAW,Array.getElem_push]); (case g2=>simp [ZAR,ZAW,Array.getElem_push]); (case g3=>simp [ZAR,ZAW,Array.getElem_push]); (case g0=>omega); (case g4=>omega); (case g5=>omega); (case g6=>unfold maxLen; omega); (case g7=>unfold maxLen; omega); (case g8=>repeat first | exact Below.refl _ _ | refine Below.drew ?_ | refine Below.setCell ?_ (by simp; try omega) _ | refine Below.alloc ?_ (by simp; try omega) _); (case g9=>simp [ZAR,ZAW,Array.getElem?_push,n1,z]))
   | (refine ⟨_,.slice (some ⟨w.heap.size+1+1+1,0,none⟩) 0 m.length,.slice (some ⟨w.heap.size+1,0,none⟩) 0 wd,rfl,?g0,GS.startW ?g1 ?g2 ?g3 ?g4 ?g5 ?g6 ?g7,?g8,?g9,_,_,rfl⟩; (case g1=>simp [ZAR,ZAW,Array.getElem_push]); (case g2=>simp [ZAR,ZAW,Array.getElem_push]); (case g3=>simp [ZAR,ZAW,Array.getElem_push]); (case g0=>omega); (case g4=>omega); (case g5=>omega); (case g6=>unfold maxLen; omega); (case g7=>unfold maxLen; omega); (case g8=>repeat first | exact Below.refl _ _ | refine Below.drew ?_ | refine Below.setCell ?_ (by simp; try omega) _ | refine Below.alloc ?_ (by simp; try omega) _); (case g9=>simp [ZAR,ZAW,Array.getElem?_push,n1,z]))
   | (refine ⟨_,.slice (some ⟨w.heap.size+1+1+1,0,none⟩) 0 m.length,.slice (some ⟨w.heap.size+1+1,0,none⟩) 0 wd,rfl,?g0,GS.startW ?g1 ?g2 ?g3 ?g4 ?g5 ?g6 ?g7,?g8,?g9,_,_,rfl⟩; (case g1=>simp [ZAR,ZAW,Array.getElem_push]); (case g2=>simp [ZAR,ZAW,Array.getElem_push]); (case g3=>simp [ZAR,ZAW,Array.getElem_push]); (case g0=>omega); (case g4=>omega); (case g5=>omega); (case g6=>unfold maxLen; omega); (case g7=>unfold maxLen; omega); (case g8=>repeat first | exact Below.refl _ _ | refine Below.drew ?_ | refine Below.setCell ?_ (by simp; try omega) _ | refine Below.alloc ?_ (by simp; try omega) _); (case g9=>simp [ZAR,ZAW,Array.getElem?_push,n1,z]))
 case rest=>
 obtain ⟨R,bq,pv,rfl,L,j,aa,X,V⟩:=hcut
 obtain ⟨W0,am⟩:∃W0,W0=wc:=⟨_,rfl⟩
 rw [←am] at j aa X ⊢
 obtain ⟨B,hB⟩:∃B,B=w.heap.size+1:=⟨_,rfl⟩
 rw [←hB] at j L;have HR:=hid hB;have E:=hid L;have aM:=hid j;have ay:=hid aa;have aQ:Hid (B≤W0.heap.size):=Zaa8 L (Nat.le_of_lt (lt_of_block j.st));have aS:=hid V;have aR:=hid X;clear am L j aa X hB aI bj V;go_wp2
 go_loopw [17,7] (fun i _ wr=>∃t:Nat,t≤m.length∧i=.int .i64 t∧Below B W0 wr∧∃rv Q a,GS B R t c (mOf m) rv pv Q a wr∧∃p z l,rv=.slice (some ⟨p,0,none⟩) z l) (fun i _ _=>m.length-(intOf i).toNat)
 case atStart=>
  obtain ⟨p,l,e⟩:=aS.out;exact ⟨0,Za5 _,rfl,Below.refl _ _,_,_,_,aM.out,p,0,l,e⟩
 case round=>
  obtain ⟨t,ht,rfl,J,rv,Q,a,G,s⟩:=hrel;obtain ⟨T,rc,aK⟩:=ZAE G.out;subst aK
  have bg:Hid (∃p,T=some ⟨p,0,none⟩):=by
   obtain ⟨p,z,l,e⟩:=s;simp only [Za3] at e;exact ⟨p,e.1⟩
  clear s;have N:=hid G;have ae:=hid J
  have az:Hid (Below w.heap.size w wr):=ay.out.trans (J.mono (by rw [HR.out]; omega))
  have D:Hid (R < wr.heap.size):=lt_of_block G.st
  have g0:wr.cell? ⟨R,0,none⟩=some (.slice T t rc):=by simp [World.cell?,G.st]
  clear G J
  by_cases htn:t < m.length
  ·obtain ⟨b,o,bl,u,ai,_,bv,ag⟩:=ZAP (HV.out.below az.out (Za4 _)) htn
   simp only [Za3,true_and] at ai;obtain ⟨rfl,rfl⟩:=ai
   have A:(m.getD t []).length=c:=by
    rw [Za2,Za9 htn]; exact HW.out _ (List.getElem_mem htn)
   obtain ⟨xo,xc,hu,_,_⟩:=ZAI ag;rw [A] at hu;subst hu
   have aJ:Hid (Calls Tryz.prog 83 #[.slice xo c xc] wr.drew fun e d=>∃g n,e=.returned (.slice (some ⟨g,0,none⟩) c n)∧d.ownsRow wr.heap.size 3 1 (.slice (some ⟨g,0,none⟩) c n) c (ZAB ((List.range c).map (mOf m t)))∧Below wr.heap.size wr d):=by
    refine (ZC3 B0 (m.getD t []) _ wr.drew ag.drew (by omega)).mono ?_
    rintro e d ⟨u,rfl,h1,h2⟩;rw [A] at h1;obtain ⟨g,n,rfl⟩:=ZIi h1 hc0
    exact ⟨g,n,rfl,by rw [ZKT HW.out htn]; exact h1,⟨h2.os,h2.tape,h2.output,h2.size,h2.block⟩⟩
   have aT:Hid (∀d g n o v' F,d.ownsRow wr.heap.size 3 1 (.slice (some ⟨g,0,none⟩) c n) c (ZAB ((List.range c).map (mOf m t)))→Below wr.heap.size wr d→(d.alloc o).grownBy F (Value.slice T t rc).ownBlock→
     F.ownsRow B 27 1 v' (t+1) (((List.range t).map fun i=>.slice (some ⟨Q i,0,none⟩) c (a i)) ++ [.slice (some ⟨g,0,none⟩) c n])→(v'.ownBlock=(Value.slice T t rc).ownBlock∨v'.ownBlock=some (d.alloc o).heap.size)→
     GS B R (t+1) c (mOf m) v' pv (fun i=>if i=t then g else Q i) (fun i=>if i=t then n else a i) (F.setCell ⟨R,0,none⟩ v')∧F.cell? ⟨R,0,none⟩=some (.slice T t rc)∧F.frozen? ⟨R,0,none⟩=false∧Below B wr F):=
    fun d g n o v' F a1 a2 a3 a4 a5=>N.out.push (Zaa8 E.out (Nat.le_of_lt D.out)) a2 a1 a3 a4 a5
   have Y:Hid (∀d,Below wr.heap.size wr d→d.cell? ⟨R,0,none⟩=some (.slice T t rc)∧R < d.heap.size∧d.ownsRow B 27 1 (.slice T t rc) t ((List.range t).map fun i=>.slice (some ⟨Q i,0,none⟩) c (a i))):=
    fun _ h=>⟨(h.cell D.out).trans g0,Nat.lt_of_lt_of_le D.out h.size,ZAQ N.out.out h (Za4 _)⟩
   have aX:t+1≤maxLen:=by unfold maxLen; omega
   have bu:R < wr.heap.size:=D.out;clear ag A;go_wp2
   go_region_law (first
    | (refine ZKQ (o:={ dst:=some 24,op:=_,type:=_,pos:=_,after:=_,guard:=_ }) (by rfl) 83 _ 27 (by rfl) _ (by rfl) ⟨_,Tryz.func83,by rfl,by rfl⟩ ?_; refine (aJ.out).mono ?_; rintro e d ⟨g,n,rfl,an,f⟩; refine ⟨_,rfl,?_⟩; have aw:Hid (d.ownsRow wr.heap.size 3 1 (.slice (some ⟨g,0,none⟩) c n) c (ZAB ((List.range c).map (mOf m t)))):=an; have aD:Hid (Below wr.heap.size wr d):=f; have aP:=(Y.out d f).1; have aE:=(Y.out d f).2.1; have aC:Hid (d.ownsRow B 27 1 (.slice T t rc) t ((List.range t).map fun i=>.slice (some ⟨Q i,0,none⟩) c (a i))):=(Y.out d f).2.2; clear an f)
    | (refine ZBo (o:={ dst:=some 26,op:=_,type:=_,pos:=_,after:=_,guard:=_ }) (by rfl) _ _ 22 (by rfl) B 27 i3 (.slice none 0 0) 1 24 Tryz.underlying22 aZ aF ak aG rfl (by decide) _ _ _ (by rfl) (aC.out.alloc _) ⟨d.heap.size,0,none⟩ 1 1 [.slice (some ⟨g,0,none⟩) c n] (by rfl) rfl (ZAS _ _ _) (ZAM _ _ _) aX (by omega) (Zaa8 E.out (Zaa8 (Nat.le_of_lt aE) (by simp))) ?_; intro v' F ho hg aB; obtain ⟨vo,vc,aW⟩:=ZAE ho; subst aW; have FF:Hid _:=aT.out d g n _ _ F aw.out aD.out hg ho aB; have aY:=FF.out.2.1; have bi:=FF.out.2.2.1))
   all_goals
    have S1:Hid (∃rv Q a,GS B R (t+1) c (mOf m) rv pv Q a (F.setCell ⟨R,0,none⟩ (.slice vo (t+1) vc))∧∃p z l,rv=.slice (some ⟨p,0,none⟩) z l):=⟨_,_,_,FF.out.1,ZKU FF.out.1.out (by omega)⟩
    have S2:Hid (Below B W0 (F.setCell ⟨R,0,none⟩ (.slice vo (t+1) vc))):=(ae.out.trans FF.out.2.2.2).setCell (by exact E.out) _
    clear FF hg ho aB aY bi aP aE aC aw aD;go_wp2
    go_roundw
    case rel=>exact ⟨t+1,by omega,by go_num,S2.out,S1.out⟩
    case measure=>simp [intOf]; omega
  ·have aA:t=m.length:=by omega
   subst aA
   have aj:Hid (LS B R m.length c (mOf m) 0 wr):=by
    obtain ⟨p,e⟩:=bg.out;subst e;exact N.out.ls0
   clear htn g0 N;go_wp2
   go_loopw [30,8] (fun i _ wx=>∃q:Nat,q≤wd∧i=.int .i64 q∧Below B W0 wx∧LS B R m.length c (mOf m) q wx) (fun i _ _=>wd-(intOf i).toNat)
   case atStart=>exact ⟨0,Za5 _,rfl,ae.out,aj.out⟩
   case round=>
    obtain ⟨q,hq,rfl,y,af⟩:=hrel;have bk:B≤wr.heap.size:=Zaa8 aQ.out y.size;have aq:=hid y
    by_cases hqc:q < wd
    ·have HP:Hid (Calls Tryz.prog 110 #[.pointer (some ⟨R,0,none⟩),.int .i64 q] wr fun e w'=>e=.returned (.tuple #[])∧LS B R m.length c (mOf m) (q+1) w'∧Below B wr w'):=ZJW B R m.length c q (mOf m) wr af bk E.out hm (by omega) aN.out
     clear af y
     go_wp2_with fail
     refine (HP.out).mono ?_;rintro e d ⟨rfl,ar,f⟩;have S1:=hid ar;have S2:Hid (Below B W0 d):=aq.out.trans f;clear ar f HP;go_wp2
     go_roundw
     case rel=>exact ⟨q+1,by omega,by go_num,S2.out,S1.out⟩
     case measure=>simp [intOf]; omega
    ·have au:q=wd:=by omega
     subst au;obtain ⟨M',C,k,sgn,S,go,U,pv,Q,a,O⟩:=af;obtain ⟨po,pc,aH⟩:=ZAE O.piv;simp only [Zab1,List.length_range] at aH;subst aH;obtain ⟨c0,c1,c2,c3,_,_,_,_⟩:=O.cells;have aU:=hid S;have aL:=hid O
     have hk:wr.heap[w.heap.size]?=some (.cells #[.slice none 0 0,.slice none 0 0,.int .i64 0,.int .i64 0] 109 (0,0)):=(y.block _ (by rw [HR.out]; omega)).trans aR.out
     have k0:wr.cell? ⟨w.heap.size,0,none⟩=some (.slice none 0 0):=by simp [World.cell?,hk]
     have k1:wr.cell? ⟨w.heap.size,1,none⟩=some (.slice none 0 0):=by simp [World.cell?,hk]
     have k2:wr.cell? ⟨w.heap.size,2,none⟩=some (.int .i64 0):=by simp [World.cell?,hk]
     have k3:wr.cell? ⟨w.heap.size,3,none⟩=some (.int .i64 0):=by simp [World.cell?,hk]
     have kf:∀i,wr.frozen? ⟨w.heap.size,i,none⟩=false:=fun i=>by simp [World.frozen?,hk]
     have f0:=kf 0;have f1:=kf 1;have f2:=kf 2;have f3:=kf 3;generalize hdd:dk M' C k=dd at *;clear S O y hk kf hqc hq aj ae az D
     have ah:Hid (∀x0 x1 x2 x3,Mat w.heap.size 27 3 ((((wr.setCell ⟨w.heap.size,0,none⟩ x0).setCell ⟨w.heap.size,1,none⟩ x1).setCell ⟨w.heap.size,2,none⟩ x2).setCell ⟨w.heap.size,3,none⟩ x3) (.slice (some ⟨go,0,none⟩) m.length U) (ZAl m.length c (rr M' C k))∧
       Sl w.heap.size 3 ((((wr.setCell ⟨w.heap.size,0,none⟩ x0).setCell ⟨w.heap.size,1,none⟩ x1).setCell ⟨w.heap.size,2,none⟩ x2).setCell ⟨w.heap.size,3,none⟩ x3) (.slice po k pc) (ZAB ((List.range k).map fun b=>(C b:Int)))∧
       Below w.heap.size w ((((wr.setCell ⟨w.heap.size,0,none⟩ x0).setCell ⟨w.heap.size,1,none⟩ x1).setCell ⟨w.heap.size,2,none⟩ x2).setCell ⟨w.heap.size,3,none⟩ x3)):=by
      intro x0 x1 x2 x3;have hr:=HR.out
      have h1:=aL.out.above (w':=(((wr.setCell ⟨w.heap.size,0,none⟩ x0).setCell ⟨w.heap.size,1,none⟩ x1).setCell ⟨w.heap.size,2,none⟩ x2).setCell ⟨w.heap.size,3,none⟩ x3) E.out (fun b hb=>by
       have M:b≠w.heap.size:=by omega
       rw [Below.heap_setCell _ _ _ _ M,Below.heap_setCell _ _ _ _ M,Below.heap_setCell _ _ _ _ M,Below.heap_setCell _ _ _ _ M])
      refine ⟨?_,Sl.own h1.piv,?_⟩
      ·exact h1.whole
      ·exact (((((ay.out.trans (aq.out.mono (by omega))).setCell (by exact Za4 _) _).setCell (by exact Za4 _) _).setCell (by exact Za4 _) _).setCell (by exact Za4 _) _)
     have aV:=hid hdd;clear hdd;go_wp2
     refine bodyPost_ret (v:=.agg #[.slice (some ⟨go,0,none⟩) m.length U,.slice po k pc,.int .i64 dd,.int .i64 sgn]) (by simp [results,Tryz.results86,go_sem, *]) rfl ?_
     exact ⟨M',C,k,sgn,aU.out,_,_,by rw [aV.out],(ah.out _ _ _ _).1,(ah.out _ _ _ _).2.1,(ah.out _ _ _ _).2.2⟩
theorem ZHe(B0 c:Nat)(m:List (List Int))(v:Value)(w:World)(hv:Mat B0 27 3 w v m)(hm:m.length≤500)(hc0:0 < c)(hc:c≤64)(hw:∀r∈m,r.length=c)(hbd:Bd (mOf m) m.length c) :
  Calls Tryz.prog 86 #[v,.int .i64 c] w fun e w'=>∃M' C k sgn,Red (mOf m) m.length c M' C k sgn∧∃rv pv,e=.returned (.agg #[rv,pv,.int .i64 (dk M' C k),.int .i64 sgn])∧
   Mat w.heap.size 27 3 w' rv (ZAl m.length c (rr M' C k))∧Sl w.heap.size 3 w' pv (ZAB ((List.range k).map fun b=>(C b:Int)))∧Below w.heap.size w w':=ZEB B0 c c (Za4 _) hc0 m v w hv hm hc0 hc hw hbd
theorem ZJX(B0 c:Nat)(m:List (List Int))(v:Value)(w:World)(hv:Mat B0 27 3 w v m)(hm:m.length≤500)(_hm0:0 < m.length)(hc0:0 < c)(hc:c≤64)(hw:∀r∈m,r.length=c)(hbd:Bd (mOf m) m.length c) :
  Calls Tryz.prog 86 #[v,.int .i64 c] w fun e w'=>∃M' C k sgn,Red (mOf m) m.length c M' C k sgn∧∃rv pv,e=.returned (.agg #[rv,pv,.int .i64 (dk M' C k),.int .i64 sgn])∧
   Mat w.heap.size 27 3 w' rv (ZAl m.length c (rr M' C k))∧Sl w.heap.size 3 w' pv (ZAB ((List.range k).map fun b=>(C b:Int)))∧Below w.heap.size w w':=
 ZHe B0 c m v w hv hm hc0 hc hw hbd
end Go.Proofs.YtkjkfceblmgogaaGreat
