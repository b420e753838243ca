import Derived.Test.YtgfnmkenpgnllaaGreatRunE
import Derived.Lib.JoinLaws
import Derived.Deep.Cut
set_option maxRecDepth 100000
set_option maxHeartbeats 4000000
namespace Go.Proofs.YtgfnmkenpgnllaaGreat.Lin
theorem ZCo{M M':Nat→Nat→Int}{k:Nat}(hM:∀i,i < k→M i=M' i):ZAr M k=ZAr M' k:=
 List.map_congr_left fun i hi=>hM i (by simpa using hi)
theorem ZDu{M M':Nat→Nat→Int}{C C':Nat→Nat}{k:Nat}(hM:∀i,i < k→M i=M' i)(hC:∀b,b < k→C b=C' b):dk M C k=dk M' C' k:=by
 unfold dk;rw [ZCo hM]
 refine od_congr (by simp [cols]) (fun i hi b hb=>?_) _
 have a:i < (ZAr M' k).length:=by simpa [cols] using hi
 have e:=ZBR (C:=C) a;have c:=ZBR (C:=C') a;unfold row at e c
 rw [e,c]; show _=_; simp only [hC b hb]
theorem ZJG{C C':Nat→Nat}{k:Nat}(hC:∀b,b < k→C b=C' b)(j:Nat):ZDo C k j=ZDo C' k j:=by
 funext b
 unfold ZDo
 by_cases h:b < k
 ·simp [h,hC b h]
 ·simp [h]
theorem ZDT{M M':Nat→Nat→Int}{C C':Nat→Nat}{k:Nat}(hM:∀i,i < k→M i=M' i)(hC:∀b,b < k→C b=C' b)(u:Nat→Int)(j:Nat):rho M C k u j=rho M' C' k u j:=by
 unfold rho;rw [ZCo hM,ZJG hC]
theorem ZMj{M M':Nat→Nat→Int}{C C':Nat→Nat}{k i:Nat}(hM:∀i,i < k→M i=M' i)(hC:∀b,b < k→C b=C' b)(hi:M i=M' i)(j:Nat):rr M C k i j=rr M' C' k i j:=by
 unfold rr;rw [ZDu hM hC,hi,ZDT hM hC,ZDT hM hC]
 by_cases h:i < k
 ·rw [if_pos h,if_pos h,hC i h]
 ·rw [if_neg h,if_neg h]
structure Red(M:Nat→Nat→Int)(n q:Nat)(M':Nat→Nat→Int)(C:Nat→Nat)(k:Nat)(sgn:Int):Prop where
 done:Done M' n q k C
 sub:∀i,i < n→∃i',i' < n∧M' i=M i'
 sup:∀i,i < n→∃i',i' < n∧M i=M' i'
 sign:od n (ZAr M' n) (fun _=>false)=sgn*od n (ZAr M n) (fun _=>false)
 one:sgn=1∨sgn=-1
theorem Red.start(M:Nat→Nat→Int)(n:Nat)(C:Nat→Nat):Red M n 0 M C 0 1:=
 ⟨⟨Za5 _,⟨fun _ b _ hb=>absurd hb (by omega),fun b hb=>absurd hb (by omega)⟩,by simp [dk,cols,ZAr,od],fun _ _ _ j hj=>absurd hj (by omega)⟩,
  fun i hi=>⟨i,hi,rfl⟩,fun i hi=>⟨i,hi,rfl⟩,by simp,Or.inl rfl⟩
theorem Red.none{M:Nat→Nat→Int}{n q:Nat}{M':Nat→Nat→Int}{C:Nat→Nat}{k:Nat}{sgn:Int}(h:Red M n q M' C k sgn)(hz:∀i,k≤i→i < n→rr M' C k i q=0):Red M n (q+1) M' C k sgn:=by
 refine ⟨⟨h.done.kn,⟨h.done.rise.1,fun b hb=>by have:=h.done.rise.2 b hb; omega⟩,h.done.nz,fun i h1 h2 j hj=>?_⟩,h.sub,h.sup,h.sign,h.one⟩
 by_cases e:j=q
 ·subst e; exact hz i h1 h2
 ·exact h.done.zero i h1 h2 j (by omega)
theorem ZQw{M:Nat→Nat→Int}{n k i0:Nat}(h1:k < i0)(h2:i0 < n)(U:Nat→Bool):od n (ZAr (fun i=>M (sw k i0 i)) n) U=- od n (ZAr M n) U:=by
 obtain ⟨A,B,D,x,y,a,g,o⟩:=ZD5 (L:=ZAr M n) h1 (by rw [ZAj]; exact h2)
 have f:(ZAr M n)[k]?=some (M k):=by simp [ZAr,show k < n by omega]
 have d:(ZAr M n)[i0]?=some (M i0):=by simp [ZAr,h2]
 have j:x=M k:=by
  rw [a,Za8 (by omega)] at f
  simpa [g] using f
 have l:y=M i0:=by
  rw [a,Za8 (by omega),show i0-A.length=B.length+1 by omega,List.getElem?_cons_succ,Za8 (by omega)] at d
  simpa using d
 have e:ZAr (fun i=>M (sw k i0 i)) n=A ++ y :: (B ++ x :: D):=by
  have m:((ZAr M n).set k y).set i0 x=A ++ y :: (B ++ x :: D):=by
   rw [a,ZIP g]
   have:A ++ y :: (B ++ y :: D)=(A ++ y :: B) ++ y :: D:=by simp
   rw [this,ZIP (by simp; omega)]
   simp
  rw [←m,j,l]
  apply List.ext_getElem?
  intro i;rw [List.getElem?_set,List.getElem?_set]
  by_cases a1:i0=i
  ·subst a1; simp [ZAr,h2,sw,show ¬i0=k by omega]
  ·by_cases a2:k=i
   ·subst a2; simp [ZAr,show k < n by omega,sw,a1]
   ·have b:¬i=i0:=fun h=>a1 h.symm
    have c:¬i=k:=fun h=>a2 h.symm
    rw [if_neg a1,if_neg a2]
    by_cases hin:i < n
    ·simp [ZAr,hin,sw,b,c]
    ·rw [Zaa6 (by simp [ZAr]; omega),Zaa6 (by simp [ZAr]; omega)]
 rw [e,ZJt,←a]
def sC(C:Nat→Nat)(k q:Nat):Nat→Nat:=fun b=>if b=k then q else C b
theorem Red.some{M:Nat→Nat→Int}{n q:Nat}{M':Nat→Nat→Int}{C:Nat→Nat}{k f:Nat}{sgn:Int}(h:Red M n q M' C k sgn)(hf:k+f < n)(hne:rr M' C k (k+f) q≠0) :
  Red M n (q+1) (fun i=>M' (sw k (k+f) i)) (sC C k q) (k+1) (if f=0 then sgn else -sgn)∧
  dk (fun i=>M' (sw k (k+f) i)) (sC C k q) (k+1)=rr M' C k (k+f) q∧
  (∀i,i≠k→∀j,rr M' C k (k+f) q*rr M' C k (sw k (k+f) i) j-rr M' C k (sw k (k+f) i) q*rr M' C k (k+f) j=dk M' C k*rr (fun i=>M' (sw k (k+f) i)) (sC C k q) (k+1) i j)∧
  (∀j,rr (fun i=>M' (sw k (k+f) i)) (sC C k q) (k+1) k j=rr M' C k (k+f) j)∧dk (fun i=>M' (sw k (k+f) i)) (sC C k q) k=dk M' C k:=by
 have x:∀i,i < k→(fun i=>M' (sw k (k+f) i)) i=M' i:=by
  intro i m; show M' (sw k (k+f) i)=M' i; unfold sw; rw [if_neg (by omega),if_neg (by omega)]
 have o:∀b,b < k→sC C k q b=C b:=by intro b t; unfold sC; rw [if_neg (by omega)]
 have g:sC C k q k=q:=by simp [sC]
 have r:dk (fun i=>M' (sw k (k+f) i)) (sC C k q) k=dk M' C k:=ZDu x o
 have c:∀i j,rr (fun i=>M' (sw k (k+f) i)) (sC C k q) k i j=rr M' C k (sw k (k+f) i) j:=by
  intro i j
  by_cases m:i < k
  ·rw [ZMj x o (x i m)]
   congr 1; unfold sw; rw [if_neg (by omega),if_neg (by omega)]
  ·have B:¬sw k (k+f) i < k:=by unfold sw; split <;> (try split) <;> omega
   unfold rr;rw [if_neg m,if_neg B,ZDT x o]
 have d:sw k (k+f) k=k+f:=by simp [sw]
 have s:dk (fun i=>M' (sw k (k+f) i)) (sC C k q) (k+1)=rr M' C k (k+f) q:=by
  have e:=c k q;rw [d] at e
  rw [ZHN,g,←e]; unfold rr; rw [if_neg (by omega)]
 have p:dk (fun i=>M' (sw k (k+f) i)) (sC C k q) (k+1)≠0:=by rw [s]; exact hne
 have v:∀b,b < k→sC C k q b≠sC C k q k:=by
  intro b t; rw [o b t,g]; have:=h.done.rise.2 b t; omega
 have l:∀i,i≠k→∀j,rr M' C k (k+f) q*rr M' C k (sw k (k+f) i) j-rr M' C k (sw k (k+f) i) q*rr M' C k (k+f) j=dk M' C k*rr (fun i=>M' (sw k (k+f) i)) (sC C k q) (k+1) i j:=by
  intro i m j;have:=ZOb p v m j;rw [c,c,c,c,g,d,r] at this;exact this
 refine ⟨⟨⟨hf |> fun h=>by omega,⟨fun a b hab t=>?_,fun b t=>?_⟩,p,fun i F y j hj=>?_⟩,fun i m=>?_,fun i m=>?_,?_,?_⟩,s,l,fun j=>?_,r⟩
 ·by_cases e:b=k
  ·subst e; rw [g,o a hab]; exact h.done.rise.2 a hab
  ·rw [o a (by omega),o b (by omega)]; exact h.done.rise.1 a b hab (by omega)
 ·by_cases e:b=k
  ·subst e; rw [g]; omega
  ·rw [o b (by omega)]; have:=h.done.rise.2 b (by omega); omega
 ·have B:=l i (by omega) j
  have D:k≤sw k (k+f) i:=by unfold sw; split <;> (try split) <;> omega
  have E:sw k (k+f) i < n:=ZFd (by omega) hf y
  have G:dk M' C k*rr (fun i=>M' (sw k (k+f) i)) (sC C k q) (k+1) i j=0:=by
   rw [←B]
   by_cases e:j=q
   ·subst e; rw [Int.mul_comm]; omega
   ·rw [h.done.zero _ D E j (by omega),h.done.zero (k+f) (by omega) hf j (by omega)]; simp
  rcases Int.mul_eq_zero.1 G with e | e
  ·exact absurd e h.done.nz
  ·exact e
 ·exact h.sub _ (ZFd (by omega) hf m)
 ·obtain ⟨A,F,y⟩:=h.sup i m
  refine ⟨sw k (k+f) A,ZFd (by omega) hf F,?_⟩
  rw [y]
  show M' A=M' (sw k (k+f) (sw k (k+f) A))
  congr 1
  unfold sw; grind
 ·by_cases e:f=0
  ·subst e
   rw [if_pos rfl,←h.sign]
   congr 1
   exact ZCo fun i _=>by show M' (sw k (k+0) i)=M' i; rw [Nat.add_zero,ZFe]
  ·rw [if_neg e,ZQw (by omega) hf,h.sign]; grind
 ·have:=h.one
  by_cases e:f=0 <;> simp [e] <;> omega
 ·have z:dk (fun i=>M' (sw k (k+f) i)) (sC C k q) k≠0:=by rw [r]; exact h.done.nz
  rw [ZPz z p v j,c,d]
end Go.Proofs.YtgfnmkenpgnllaaGreat.Lin
namespace Go.Proofs.YtgfnmkenpgnllaaGreat
open Go.RowKit Lin
def Bd(M:Nat→Nat→Int)(n c:Nat):Prop:=∀q M' C k sgn,q≤c→Red M n q M' C (k+1) sgn→∀i,i < n→∀j,j < c→
 (dk M' C k*rr M' C (k+1) i j).natAbs≤9223372036854775807∧(rr M' C (k+1) i j).natAbs≤9223372036854775807
def LS(B R n c:Nat)(M:Nat→Nat→Int)(q:Nat)(w:World):Prop:=
 ∃M' C k sgn,Red M n q M' C k sgn∧∃go capo pv bs caps,RS B R n c (rr M' C k) ((List.range k).map fun b=>(C b:Int)) (dk M' C k) sgn go capo pv bs caps w
theorem ZHQ{k q:Nat}{C:Nat→Nat} : ((List.range (k+1)).map fun b=>(sC C k q b:Int))=((List.range k).map fun b=>(C b:Int)) ++ [(q:Int)]:=by
 rw [List.range_succ,List.map_append]
 congr 1
 ·refine List.map_congr_left fun b hb=>?_
  have:b < k:=by simpa using hb
  unfold sC; rw [if_neg (by omega)]
 ·simp [sC]
theorem ZJH{n k:Nat}(p:Nat→Int):(∀i,k≤i→i < n→p i=0)∨∃f,k+f < n∧p (k+f)≠0∧∀i,k≤i→i < k+f→p i=0:=by
 by_cases h:∀i,k≤i→i < n→p i=0
 ·exact Or.inl h
 ·refine Or.inr ?_
  have s:∃i,k≤i∧i < n∧p i≠0:=by
   apply Za6
   intro d
   apply h
   intro i a c
   apply Za6
   intro b;exact d ⟨i,a,c,b⟩
  have r:∃f,k+f < n∧p (k+f)≠0:=by
   obtain ⟨i,a,c,b⟩:=s
   exact ⟨i-k,by omega,by rw [show k+(i-k)=i by omega]; exact b⟩
  have j:∀m f,f < m→k+f < n→p (k+f)≠0→∃f,k+f < n∧p (k+f)≠0∧∀i,k≤i→i < k+f→p i=0:=by
   intro m
   induction m with
   | zero=>intro f h; omega
   | succ m ih=>
    intro f r a c
    by_cases b:∀i,k≤i→i < k+f→p i=0
    ·exact ⟨f,a,c,b⟩
    ·have:∃i,k≤i∧i < k+f∧p i≠0:=by
      apply Za6
      intro d
      apply b
      intro i l o
      apply Za6
      intro g;exact d ⟨i,l,o,g⟩
     obtain ⟨i,l,o,g⟩:=this
     exact ih (i-k) (by omega) (by omega) (by rw [show k+(i-k)=i by omega]; exact g)
  obtain ⟨f,a,c⟩:=r
  exact j (f+1) f (by omega) a c
theorem ZJI(B R n c q:Nat)(M:Nat→Nat→Int)(w:World)(h:LS B R n c M q w)(hB:B≤w.heap.size)(hBR:B≤R)(hn:n≤500)(hq:q < c)(hbd:Bd M n c) :
  Calls Tryz.prog 115 #[.pointer (some ⟨R,0,none⟩),.int .i64 q] w fun e w'=>e=.returned (.tuple #[])∧LS B R n c M (q+1) w'∧Below B w w':=by
 obtain ⟨o,C,k,z,m,r,a,y,v,d,E⟩:=h
 have g:((List.range k).map fun b=>(C b:Int)).length=k:=by simp
 rcases ZJH (n:=n) (k:=k) fun i=>rr o C k i q with hz | ⟨f,h1,h2,h3⟩
 ·refine (ZJE B R n c q _ _ _ _ r a y v d w E hB hn (by rw [g]; exact m.done.kn) hq (by rw [g]; exact hz)).mono ?_
  rintro e w' ⟨s,p,x⟩;exact ⟨s,⟨o,C,k,z,m.none hz,r,a,y,v,d,p⟩,x⟩
 ·obtain ⟨D,N,G,J,F⟩:=m.some h1 h2
  have L:=hbd (q+1) _ _ _ _ (by omega) D
  refine (ZJF B R n c q f (rr o C k) (rr (fun i=>o (sw k (k+f) i)) (sC C k q) (k+1)) _ _ _ r a y v d w E hB hBR hn (by rw [g]; exact h1) hq (by rw [g]; exact h3) (by rw [g]; exact h2) m.done.nz m.one
   (by rw [g]; exact fun i _ hi j _=>G i hi j) (by rw [g]; exact fun i hi _ j hj=>by have:=L i hi j hj; rw [F] at this; exact this)).mono ?_
  rintro e w' ⟨s,⟨t,A,l,p⟩,x⟩;refine ⟨s,⟨_,_,_,_,D,r,a,t,A,l,?_⟩,x⟩;rw [g] at p;rw [ZHQ,N]
  refine p.congr fun i _ j _=>?_
  by_cases e:i=k
  ·subst e; rw [if_pos rfl,J]
  ·rw [if_neg e]
end Go.Proofs.YtgfnmkenpgnllaaGreat
namespace Go.Proofs.YtgfnmkenpgnllaaGreat
open Go.RowKit Lin
attribute [local go_sem ↓] Go.wp_at_zero Go.wp_at_succ
structure GS(B R t c:Nat)(mat:Nat→Nat→Int)(rv pv:Value)(bs caps:Nat→Nat)(w:World):Prop where
 st:w.heap[R]?=some (.cells #[rv,pv,.int .i64 1,.int .i64 1] 113 (0,0))
 out:w.ownsRow B 22 1 rv t ((List.range t).map fun i=>.slice (some ⟨bs i,0,none⟩) c (caps i))
 row:∀i,i < t→w.ownsRow B 3 1 (.slice (some ⟨bs i,0,none⟩) c (caps i)) c (ZAB ((List.range c).map (mat i)))
 inj:∀i j,i < t→j < t→i≠j→bs i≠bs j
 piv:w.ownsRow B 3 1 pv 0 []
 off:∀g,pv.ownBlock=some g→∀i,i < t→bs i≠g
theorem GS.push{B R t c g uc:Nat}{mat:Nat→Nat→Int}{rv pv v':Value}{bs caps:Nat→Nat}{w w2 w3:World}{o:Obj}(h:GS B R t c mat rv pv bs caps w)(hB:B≤w.heap.size)(hb:Below w.heap.size w w2)
 (hu:w2.ownsRow w.heap.size 3 1 (.slice (some ⟨g,0,none⟩) c uc) c (ZAB ((List.range c).map (mat t))))(hg:(w2.alloc o).grownBy w3 rv.ownBlock)
 (ho:w3.ownsRow B 22 1 v' (t+1) (((List.range t).map fun i=>.slice (some ⟨bs i,0,none⟩) c (caps i)) ++ [.slice (some ⟨g,0,none⟩) c uc]))(hat:v'.ownBlock=rv.ownBlock∨v'.ownBlock=some (w2.alloc o).heap.size) :
  GS B R (t+1) c mat v' pv (fun i=>if i=t then g else bs i) (fun i=>if i=t then uc else caps i) (w3.setCell ⟨R,0,none⟩ v')∧w3.cell? ⟨R,0,none⟩=some rv∧w3.frozen? ⟨R,0,none⟩=false∧Below B w w3:=by
 have J:=lt_of_block h.st
 have E:(w2.alloc o).heap.size=w2.heap.size+1:=by simp
 have M:=hb.size
 have p:∀k,rv.ownBlock=some k→∃f,w.heap[k]?=some (.cells f 22 (0,0))∧B≤k:=by
  intro k n
  rcases h.out.2 with ⟨e,_⟩ | ⟨g',cap,f,e,hb',hh,_⟩
  ·rw [e] at n; simp [Value.ownBlock] at n
  ·rw [e] at n; simp [Value.ownBlock] at n; subst n; exact ⟨f,hh,hb'⟩
 have r:=h.st
 have x:rv.ownBlock≠some R:=by
  intro e; obtain ⟨f,l,_⟩:=p R e; rw [r] at l; simp at l
 have m:∀b,b < w2.heap.size→rv.ownBlock≠some b→w3.heap[b]?=w2.heap[b]?:=by
  intro b l S
  rw [hg.block b (by omega) (fun e=>S e.symm),Below.heap_alloc _ _ _ l]
 have s:w3.heap[R]?=some (.cells #[rv,pv,.int .i64 1,.int .i64 1] 113 (0,0)):=by
  rw [m R (by omega) x,hb.block R J]; exact r
 have y:Below B w w3:=(((hb.mono hB).alloc (by omega) o)).grown hg (by omega) (fun k n=>(p k n).choose_spec.2)
 have z:v'.ownBlock≠some R:=by
  rcases hat with e | e
  ·rw [e]; exact x
  ·rw [e,E]; simp; omega
 have d:∀{D F:Nat} {v:Value} {A:List Value},w2.ownsRow D 3 1 v F A→B≤D→(w3.setCell ⟨R,0,none⟩ v').ownsRow B 3 1 v F A:=by
  intro D F v A hv N;refine ⟨hv.1,?_⟩
  rcases hv.2 with q2 | ⟨b,cap,f,rfl,r1,r2,r3⟩
  ·exact Or.inl q2
  ·have O:b≠R:=by
    rintro rfl; rw [hb.block b J,r] at r2; simp at r2
   have Q:rv.ownBlock≠some b:=by
    intro e; obtain ⟨L,l,_⟩:=p b e;rw [hb.block b (lt_of_block l),l] at r2; simp at r2
   exact Or.inr ⟨b,cap,f,rfl,by omega,by rw [Below.heap_setCell _ _ _ _ O,m b (lt_of_block r2) Q]; exact r2,r3⟩
 have P:w.heap.size≤g:=(hu.lt g (by simp [Value.ownBlock])).1
 refine ⟨⟨?_,?_,fun i hi=>?_,fun i j hi hj hij=>?_,d (ZAN h.piv hb (Za4 _)) (Za4 _),fun g' hg' i hi=>?_⟩,by simp [World.cell?,s],by simp [World.frozen?,s],y⟩
 ·simp [World.setCell,Array.getElem?_modify,s]
 ·have l:=ownsRow_setCell_other ho (a:=⟨R,0,none⟩) z v'
  have e:((List.range (t+1)).map fun i=>Value.slice (some ⟨if i=t then g else bs i,0,none⟩) c (if i=t then uc else caps i))=((List.range t).map fun i=>.slice (some ⟨bs i,0,none⟩) c (caps i)) ++ [.slice (some ⟨g,0,none⟩) c uc]:=by
   rw [List.range_succ,List.map_append]
   congr 1
   ·refine List.map_congr_left fun i hi=>?_
    have:i < t:=by simpa using hi
    simp [show i≠t by omega]
   ·simp
  rw [e]; exact l
 ·by_cases e:i=t
  ·subst e; simpa using d hu hB
  ·simp only [e,if_false]
   exact d (ZAN (h.row i (by omega)) hb (Za4 _)) (Za4 _)
 ·by_cases e:i=t
  ·subst e
   have G:j≠i:=fun h=>hij h.symm
   simp only [if_true,G,if_false]
   have:=(h.row j (by omega)).lt (bs j) (by simp [Value.ownBlock]); omega
  ·by_cases e2:j=t
   ·subst e2
    simp only [if_true,e,if_false]
    have:=(h.row i (by omega)).lt (bs i) (by simp [Value.ownBlock]); omega
   ·simp only [e,e2,if_false]
    exact h.inj i j (by omega) (by omega) hij
 ·by_cases e:i=t
  ·subst e
   simp only [if_true];have:=(h.piv.lt g' hg').2; omega
  ·simp only [e,if_false]
   exact h.off g' hg' i (by omega)
theorem GS.rs{B R n c:Nat}{mat:Nat→Nat→Int}{rv pv:Value}{bs caps:Nat→Nat}{w:World}(h:GS B R n c mat rv pv bs caps w)(hn:0 < n):∃go capo,RS B R n c mat [] 1 1 go capo pv bs caps w:=by
 rcases h.out.2 with ⟨_,e⟩ | ⟨go,capo,cur,e,_⟩
 ·omega
 ·subst e
  exact ⟨go,capo,h.st,h.out,h.row,h.inj,h.piv,h.off⟩
theorem GS.ls0{B R n c ra rc:Nat}{mat:Nat→Nat→Int}{pv:Value}{bs caps:Nat→Nat}{w:World}(h:GS B R n c mat (.slice (some ⟨ra,0,none⟩) n rc) pv bs caps w):LS B R n c mat 0 w:=by
 refine ⟨mat,fun _=>0,0,1,Red.start _ _ _,ra,rc,pv,bs,caps,?_⟩
 have e:dk mat (fun _=>0) 0=1:=by simp [dk,cols,ZAr,od]
 rw [e];have a:RS B R n c mat [] 1 1 ra rc pv bs caps w:=⟨h.st,h.out,h.row,h.inj,h.piv,h.off⟩
 exact a.congr fun i _ j _=>(ZOa _ _ _ _).symm
theorem ZMk(w:World)(o:Obj):(w.alloc o).heap[w.heap.size]?=some o:=by
 show (w.heap.push o)[w.heap.size]?=_
 simp
def mOf(m:List (List Int)):Nat→Nat→Int:=fun i j=>(m.getD i []).getD j 0
theorem RS.above{B R n c:Nat}{mat:Nat→Nat→Int}{piv:List Int}{val sgn:Int}{go capo:Nat}{pv:Value}{bs caps:Nat→Nat}{w w':World}(h:RS B R n c mat piv val sgn go capo pv bs caps w)(hR:B≤R)(hb:∀b,B≤b→w'.heap[b]?=w.heap[b]?) :
  RS B R n c mat piv val sgn go capo pv bs caps w':=by
 have a:∀{e:TypeId} {d:Nat} {v:Value} {f:List Value},w.ownsRow B e 1 v d f→w'.ownsRow B e 1 v d f:=by
  intro e d v f hv;refine ⟨hv.1,?_⟩
  rcases hv.2 with q2 | ⟨b,cap,cur,rfl,r1,r2,r3⟩
  ·exact Or.inl q2
  ·exact Or.inr ⟨b,cap,cur,rfl,r1,by rw [hb b r1]; exact r2,r3⟩
 exact ⟨by rw [hb R hR]; exact h.st,a h.out,fun i hi=>a (h.row i hi),h.inj,a h.piv,h.off⟩
theorem RS.whole{B B' R n c:Nat}{mat:Nat→Nat→Int}{piv:List Int}{val sgn:Int}{go capo:Nat}{pv:Value}{bs caps:Nat→Nat}{w:World}(h:RS B R n c mat piv val sgn go capo pv bs caps w) :
  Mat B' 22 3 w (.slice (some ⟨go,0,none⟩) n capo) (ZAk n c mat):=by
 have j:=h.out;obtain ⟨l,b⟩:=h.out
 rcases b with ⟨b,_⟩ | ⟨g,cap,cur,b,_⟩
 ·simp at b
 ·simp only [Za3,Zaa9,Addr.mk.injEq,and_true,true_and] at b
  obtain ⟨rfl,rfl⟩:=b
  refine ⟨(List.range n).map fun i=>Value.slice (some ⟨bs i,0,none⟩) c (caps i),by simp [ZAk],Sl.own j,fun i hi=>?_⟩
  have a:i < n:=by simpa [ZAk] using hi
  have f:((List.range n).map fun i=>Value.slice (some ⟨bs i,0,none⟩) c (caps i)).getD i (.slice none 0 0)=.slice (some ⟨bs i,0,none⟩) c (caps i):=by simp [a]
  have d:(ZAk n c mat).getD i []=(List.range c).map (mat i):=by simp [ZAk,a]
  rw [f,d];exact Sl.own (h.row i a)
theorem ZKD{m:List (List Int)}{c t:Nat}(hw:∀r∈m,r.length=c)(ht:t < m.length):(List.range c).map (mOf m t)=m.getD t []:=by
 have a:(m.getD t []).length=c:=by
  rw [Za2,Za9 ht]; exact hw _ (List.getElem_mem ht)
 apply List.ext_getElem?
 intro j
 by_cases hj:j < c
 ·rw [List.getElem?_map,List.getElem?_range hj]
  unfold mOf
  show some ((m.getD t []).getD j 0)=(m.getD t [])[j]?
  rw [Za2 (l:=m.getD t []),Za9 (show j < (m.getD t []).length by omega)]; rfl
 ·rw [Zaa6 (by simp; omega),Zaa6 (by omega)]
theorem ZFf{B n:Nat}{e:TypeId}{w:World}{u:Value}{xs:List Value}(h:w.ownsRow B e 1 u n xs)(hn:0 < n):∃g uc,u=.slice (some ⟨g,0,none⟩) n uc:=by
 rcases h.2 with ⟨_,e⟩ | ⟨g,cap,cur,e,_⟩
 ·omega
 ·exact ⟨g,cap,e⟩
theorem ZKE{B n:Nat}{e:TypeId}{w:World}{u:Value}{xs:List Value}(h:w.ownsRow B e 1 u n xs)(hn:0 < n):∃g n2 uc,u=.slice (some ⟨g,0,none⟩) n2 uc:=by
 obtain ⟨g,uc,e⟩:=ZFf h hn;exact ⟨g,n,uc,e⟩
theorem ZAS(w:World)(o:Obj):(w.alloc o).heap=w.heap.push o:=rfl
theorem ZAY(w:World):w.drew.heap=w.heap:=rfl
theorem GS.start{B R n c a b:Nat}{mat:Nat→Nat→Int}{W:World}{f g:Nat→Nat}(hR:W.heap[R]?=some (.cells #[.slice (some ⟨a,0,none⟩) 0 n,.slice (some ⟨b,0,none⟩) 0 c,.int .i64 1,.int .i64 1] 113 (0,0)))
 (ha:W.heap[a]?=some (.cells (madeCells #[.slice none 0 0] n) 22 (0,0)))(hb:W.heap[b]?=some (.cells (madeCells #[.int .i64 0] c) 3 (0,0)))(ha':B≤a)(hb':B≤b)(hn:n≤maxLen)(hc:c≤maxLen) :
  GS B R 0 c mat (.slice (some ⟨a,0,none⟩) 0 n) (.slice (some ⟨b,0,none⟩) 0 c) f g W:=
 ⟨hR,⟨by simp,Or.inr ⟨a,n,_,rfl,ha',ha,Za5 _,hn,by rw [size_madeCells]; omega,by simp⟩⟩,fun i hi=>absurd hi (by omega),fun i j hi=>absurd hi (by omega),
  ⟨by simp,Or.inr ⟨b,c,_,rfl,hb',hb,Za5 _,hc,by rw [size_madeCells]; omega,by simp⟩⟩,fun _ _ i hi=>absurd hi (by omega)⟩
theorem GS.startW{B R n c wd a b:Nat}{mat:Nat→Nat→Int}{W:World}{f g:Nat→Nat}(hR:W.heap[R]?=some (.cells #[.slice (some ⟨a,0,none⟩) 0 n,.slice (some ⟨b,0,none⟩) 0 wd,.int .i64 1,.int .i64 1] 113 (0,0)))
 (ha:W.heap[a]?=some (.cells (madeCells #[.slice none 0 0] n) 22 (0,0)))(hb:W.heap[b]?=some (.cells (madeCells #[.int .i64 0] wd) 3 (0,0)))(ha':B≤a)(hb':B≤b)(hn:n≤maxLen)(hc:wd≤maxLen) :
  GS B R 0 c mat (.slice (some ⟨a,0,none⟩) 0 n) (.slice (some ⟨b,0,none⟩) 0 wd) f g W:=
 ⟨hR,⟨by simp,Or.inr ⟨a,n,_,rfl,ha',ha,Za5 _,hn,by rw [size_madeCells]; omega,by simp⟩⟩,fun i hi=>absurd hi (by omega),fun i j hi=>absurd hi (by omega),
  ⟨by simp,Or.inr ⟨b,wd,_,rfl,hb',hb,Za5 _,hc,by rw [size_madeCells]; omega,by simp⟩⟩,fun _ _ i hi=>absurd hi (by omega)⟩
set_option linter.unusedSimpArgs false in
theorem ZEE(B0 c wd:Nat)(hwd:wd≤c)(hw0:0 < wd)(m:List (List Int))(v:Value)(w:World)(hv:Mat B0 22 3 w v m)(hm:m.length≤500)(hc0:0 < c)(hc:c≤64)(hw:∀r∈m,r.length=c)(hbd:Bd (mOf m) m.length c) :
  Calls Tryz.prog 91 #[v,.int .i64 wd] w fun e w'=>∃M' C k sgn,Red (mOf m) m.length wd M' C k sgn∧∃rv pv,e=.returned (.agg #[rv,pv,.int .i64 (dk M' C k),.int .i64 sgn])∧
   Mat w.heap.size 22 3 w' rv (ZAk m.length c (rr M' C k))∧Sl w.heap.size 3 w' pv (ZAB ((List.range k).map fun b=>(C b:Int)))∧Below w.heap.size w w':=by
 obtain ⟨i3,aK,ak,am,aj⟩:=info_parts Tryz.info22;obtain ⟨ao,aV,bh,bl,bq⟩:=ZAE hv;subst bh;have HV:Hid (Mat B0 22 3 w (.slice ao m.length aV) m):=hv;have aP:=hid hbd;have HW:=hid hw;clear hv hbd hw
 have bg:=run_make_room (P:=Tryz.prog) 25 22 (.slice none 0 0) 24 Tryz.underlying25 Tryz.info22 rfl .i64 .i64 m.length (by omega) (by omega)
 have aI:=run_make_room (P:=Tryz.prog) 22 3 (.int .i64 0) 8 Tryz.underlying22 Tryz.info3 rfl .i64 .i64 wd (by omega) (by omega)
 go_enter Tryz.func91,Tryz.ntmps91
 go_upto_region 1 with fail
 go_cut [5] from 9 (fun x wx=>∃R rv pv,x=.pointer (some ⟨R,0,none⟩)∧w.heap.size+1≤R∧GS (w.heap.size+1) R 0 c (mOf m) rv pv (fun _=>0) (fun _=>0) wx∧Below w.heap.size w wx∧wx.heap[w.heap.size]?=some (.cells #[.slice none 0 0,.slice none 0 0,.int .i64 0,.int .i64 0] 113 (0,0))∧∃p f,rv=.slice (some ⟨p,0,none⟩) 0 f)
 case first=>
  go_region_law fail
  all_goals go_wp2
  all_goals go_meet
  all_goals (have n1:(w.heap.size=w.heap.size+1+1+1)=False:=by simp; omega)
  all_goals (have G:(w.heap.size=w.heap.size+1+1)=False:=by simp; omega)
  all_goals first
   | (refine ⟨_,.slice (some ⟨w.heap.size+1,0,none⟩) 0 m.length,.slice (some ⟨w.heap.size+1+1,0,none⟩) 0 wd,rfl,?g0,GS.startW ?g1 ?g2 ?g3 ?g4 ?g5 ?g6 ?g7,?g8,?g9,_,_,rfl⟩; (case g1=>simp [ZAS,ZAY,Array.getElem_push]); (case g2=>simp [ZAS,ZAY,Array.getElem_push]); (case g3=>simp [ZAS,ZAY,Array.getElem_push]); (case g0=>omega); (case g4=>omega); (case g5=>omega); (case g6=>unfold maxLen; omega); (case g7=>unfold maxLen; omega); (case g8=>repeat first | exact Below.refl _ _ | refine Below.drew ?_ | refine Below.setCell ?_ (by simp; try omega) _ | refine Below.alloc ?_ (by simp; try omega) _); (case g9=>simp [ZAS,ZAY,Array.getElem?_push,n1,G]))
   | (refine ⟨_,.slice (some ⟨w.heap.size+1,0,none⟩) 0 m.length,.slice (some ⟨w.heap.size+1+1+1,0,none⟩) 0 wd,rfl,?g0,GS.startW ?g1 ?g2 ?g3 ?g4 ?g5 ?g6 ?g7,?g8,?g9,_,_,rfl⟩; (case g1=>simp [ZAS,ZAY,Array.getElem_push]); (case g2=>simp [ZAS,ZAY,Array.getElem_push]); (case g3=>simp [ZAS,ZAY,Array.getElem_push]); (case g0=>omega); (case g4=>omega); (case g5=>omega); (case g6=>unfold maxLen; omega); (case g7=>unfold maxLen; omega); (case g8=>repeat first | exact Below.refl _ _ | refine Below.drew ?_ | refine Below.setCell ?_ (by simp; try omega) _ | refine Below.alloc ?_ (by simp; try omega) _); (case g9=>simp [ZAS,ZAY,Array.getElem?_push,n1,G]))
   | (refine ⟨_,.slice (some ⟨w.heap.size+1+1,0,none⟩) 0 m.length,.slice (some ⟨w.heap.size+1,0,none⟩) 0 wd,rfl,?g0,GS.startW ?g1 ?g2 ?g3 ?g4 ?g5 ?g6 ?g7,?g8,?g9,_,_,rfl⟩; (case g1=>simp [ZAS,ZAY,Array.getElem_push]); (case g2=>simp [ZAS,ZAY,Array.getElem_push]); (case g3=>simp [ZAS,ZAY,Array.getElem_push]); (case g0=>omega); (case g4=>omega); (case g5=>omega); (case g6=>unfold maxLen; omega); (case g7=>unfold maxLen; omega); (case g8=>repeat first | exact Below.refl _ _ | refine Below.drew ?_ | refine Below.setCell ?_ (by simp; try omega) _ | refine Below.alloc ?_ (by simp; try omega) _); (case g9=>simp [ZAS,ZAY,Array.getElem?_push,n1,G]))
   | (refine ⟨_,.slice (some ⟨w.heap.size+1+1,0,none⟩) 0 m.length,.slice (some ⟨w.heap.size+1+1+1,0,none⟩) 0 wd,rfl,?g0,GS.startW ?g1 ?g2 ?g3 ?g4 ?g5 ?g6 ?g7,?g8,?g9,_,_,rfl⟩; (case g1=>simp [ZAS,ZAY,Array.getElem_push]); (case g2=>simp [ZAS,ZAY,Array.getElem_push]); (case g3=>simp [ZAS,ZAY,Array.getElem_push]); (case g0=>omega); (case g4=>omega); (case g5=>omega); (case g6=>unfold maxLen; omega); (case g7=>unfold maxLen; omega); (case g8=>repeat first | exact Below.refl _ _ | refine Below.drew ?_ | refine Below.setCell ?_ (by simp; try omega) _ | refine Below.alloc ?_ (by simp; try omega) _); (case g9=>simp [ZAS,ZAY,Array.getElem?_push,n1,G]))
   | (refine ⟨_,.slice (some ⟨w.heap.size+1+1+1,0,none⟩) 0 m.length,.slice (some ⟨w.heap.size+1,0,none⟩) 0 wd,rfl,?g0,GS.startW ?g1 ?g2 ?g3 ?g4 ?g5 ?g6 ?g7,?g8,?g9,_,_,rfl⟩; (case g1=>simp [ZAS,ZAY,Array.getElem_push]); (case g2=>simp [ZAS,ZAY,Array.getElem_push]); (case g3=>simp [ZAS,ZAY,Array.getElem_push]); (case g0=>omega); (case g4=>omega); (case g5=>omega); (case g6=>unfold maxLen; omega); (case g7=>unfold maxLen; omega); (case g8=>repeat first | exact Below.refl _ _ | refine Below.drew ?_ | refine Below.setCell ?_ (by simp; try omega) _ | refine Below.alloc ?_ (by simp; try omega) _); (case g9=>simp [ZAS,ZAY,Array.getElem?_push,n1,G]))
   | (refine ⟨_,.slice (some ⟨w.heap.size+1+1+1,0,none⟩) 0 m.length,.slice (some ⟨w.heap.size+1+1,0,none⟩) 0 wd,rfl,?g0,GS.startW ?g1 ?g2 ?g3 ?g4 ?g5 ?g6 ?g7,?g8,?g9,_,_,rfl⟩; (case g1=>simp [ZAS,ZAY,Array.getElem_push]); (case g2=>simp [ZAS,ZAY,Array.getElem_push]); (case g3=>simp [ZAS,ZAY,Array.getElem_push]); (case g0=>omega); (case g4=>omega); (case g5=>omega); (case g6=>unfold maxLen; omega); (case g7=>unfold maxLen; omega); (case g8=>repeat first | exact Below.refl _ _ | refine Below.drew ?_ | refine Below.setCell ?_ (by simp; try omega) _ | refine Below.alloc ?_ (by simp; try omega) _); (case g9=>simp [ZAS,ZAY,Array.getElem?_push,n1,G]))
 case rest=>
 obtain ⟨R,bv,pv,rfl,Q,j,ag,ae,S⟩:=hcut
 obtain ⟨W0,aH⟩:∃W0,W0=wc:=⟨_,rfl⟩
 rw [←aH] at j ag ae ⊢
 obtain ⟨B,hB⟩:∃B,B=w.heap.size+1:=⟨_,rfl⟩
 rw [←hB] at j Q;have HR:=hid hB;have E:=hid Q;have aR:=hid j;have au:=hid ag;have aS:Hid (B≤W0.heap.size):=Zaa8 Q (Nat.le_of_lt (lt_of_block j.st));have aM:=hid S;have aX:=hid ae;clear aH Q j ag ae hB bg aI S;go_wp2
 go_loopw [17,7] (fun i _ wr=>∃t:Nat,t≤m.length∧i=.int .i64 t∧Below B W0 wr∧∃rv O a,GS B R t c (mOf m) rv pv O a wr∧∃p G f,rv=.slice (some ⟨p,0,none⟩) G f) (fun i _ _=>m.length-(intOf i).toNat)
 case atStart=>
  obtain ⟨p,f,e⟩:=aM.out;exact ⟨0,Za5 _,rfl,Below.refl _ _,_,_,_,aR.out,p,0,f,e⟩
 case round=>
  obtain ⟨t,ht,rfl,D,rv,O,a,z,y⟩:=hrel;obtain ⟨V,rc,aW⟩:=ZAD z.out;subst aW
  have bj:Hid (∃p,V=some ⟨p,0,none⟩):=by
   obtain ⟨p,G,f,e⟩:=y;simp only [Za3] at e;exact ⟨p,e.1⟩
  clear y;have M:=hid z;have aa:=hid D
  have az:Hid (Below w.heap.size w wr):=au.out.trans (D.mono (by rw [HR.out]; omega))
  have J:Hid (R < wr.heap.size):=lt_of_block z.st
  have g0:wr.cell? ⟨R,0,none⟩=some (.slice V t rc):=by simp [World.cell?,z.st]
  clear z D
  by_cases htn:t < m.length
  ·obtain ⟨b,o,bp,u,ar,_,bu,af⟩:=ZAP (HV.out.below az.out (Za4 _)) htn
   simp only [Za3,true_and] at ar;obtain ⟨rfl,rfl⟩:=ar
   have s:(m.getD t []).length=c:=by
    rw [Za2,Za9 htn]; exact HW.out _ (List.getElem_mem htn)
   obtain ⟨xo,xc,hu,_,_⟩:=ZAH af;rw [s] at hu;subst hu
   have aZ:Hid (Calls Tryz.prog 88 #[.slice xo c xc] wr.drew fun e d=>∃g n,e=.returned (.slice (some ⟨g,0,none⟩) c n)∧d.ownsRow wr.heap.size 3 1 (.slice (some ⟨g,0,none⟩) c n) c (ZAB ((List.range c).map (mOf m t)))∧Below wr.heap.size wr d):=by
    refine (ZC3 B0 (m.getD t []) _ wr.drew af.drew (by omega)).mono ?_
    rintro e d ⟨u,rfl,h1,h2⟩;rw [s] at h1;obtain ⟨g,n,rfl⟩:=ZFf h1 hc0
    exact ⟨g,n,rfl,by rw [ZKD HW.out htn]; exact h1,⟨h2.os,h2.tape,h2.output,h2.size,h2.block⟩⟩
   have aT:Hid (∀d g n o v' A,d.ownsRow wr.heap.size 3 1 (.slice (some ⟨g,0,none⟩) c n) c (ZAB ((List.range c).map (mOf m t)))→Below wr.heap.size wr d→(d.alloc o).grownBy A (Value.slice V t rc).ownBlock→
     A.ownsRow B 22 1 v' (t+1) (((List.range t).map fun i=>.slice (some ⟨O i,0,none⟩) c (a i)) ++ [.slice (some ⟨g,0,none⟩) c n])→(v'.ownBlock=(Value.slice V t rc).ownBlock∨v'.ownBlock=some (d.alloc o).heap.size)→
     GS B R (t+1) c (mOf m) v' pv (fun i=>if i=t then g else O i) (fun i=>if i=t then n else a i) (A.setCell ⟨R,0,none⟩ v')∧A.cell? ⟨R,0,none⟩=some (.slice V t rc)∧A.frozen? ⟨R,0,none⟩=false∧Below B wr A):=
    fun d g n o v' A a1 a2 a3 a4 a5=>M.out.push (Zaa8 E.out (Nat.le_of_lt J.out)) a2 a1 a3 a4 a5
   have ah:Hid (∀d,Below wr.heap.size wr d→d.cell? ⟨R,0,none⟩=some (.slice V t rc)∧R < d.heap.size∧d.ownsRow B 22 1 (.slice V t rc) t ((List.range t).map fun i=>.slice (some ⟨O i,0,none⟩) c (a i))):=
    fun _ h=>⟨(h.cell J.out).trans g0,Nat.lt_of_lt_of_le J.out h.size,ZAN M.out.out h (Za4 _)⟩
   have bk:t+1≤maxLen:=by unfold maxLen; omega
   have bt:R < wr.heap.size:=J.out;clear af s;go_wp2
   go_region_law (first
    | (refine ZKA (o:={ dst:=some 24,op:=_,type:=_,pos:=_,after:=_,guard:=_ }) (by rfl) 88 _ 22 (by rfl) _ (by rfl) ⟨_,Tryz.func88,by rfl,by rfl⟩ ?_; refine (aZ.out).mono ?_; rintro e d ⟨g,n,rfl,aG,l⟩; refine ⟨_,rfl,?_⟩; have an:Hid (d.ownsRow wr.heap.size 3 1 (.slice (some ⟨g,0,none⟩) c n) c (ZAB ((List.range c).map (mOf m t)))):=aG; have ay:Hid (Below wr.heap.size wr d):=l; have aO:=(ah.out d l).1; have aB:=(ah.out d l).2.1; have aw:Hid (d.ownsRow B 22 1 (.slice V t rc) t ((List.range t).map fun i=>.slice (some ⟨O i,0,none⟩) c (a i))):=(ah.out d l).2.2; clear aG l)
    | (refine ZBm (o:={ dst:=some 26,op:=_,type:=_,pos:=_,after:=_,guard:=_ }) (by rfl) _ _ 25 (by rfl) B 22 i3 (.slice none 0 0) 1 24 Tryz.underlying25 aK ak am aj rfl (by decide) _ _ _ (by rfl) (aw.out.alloc _) ⟨d.heap.size,0,none⟩ 1 1 [.slice (some ⟨g,0,none⟩) c n] (by rfl) rfl (ZAQ _ _ _) (ZAL _ _ _) bk (by omega) (Zaa8 E.out (Zaa8 (Nat.le_of_lt aB) (by simp))) ?_; intro v' A ho hg ai; obtain ⟨vo,vc,bi⟩:=ZAD ho; subst bi; have FF:Hid _:=aT.out d g n _ _ A an.out ay.out hg ho ai; have aJ:=FF.out.2.1; have aL:=FF.out.2.2.1))
   all_goals
    have S1:Hid (∃rv O a,GS B R (t+1) c (mOf m) rv pv O a (A.setCell ⟨R,0,none⟩ (.slice vo (t+1) vc))∧∃p G f,rv=.slice (some ⟨p,0,none⟩) G f):=⟨_,_,_,FF.out.1,ZKE FF.out.1.out (by omega)⟩
    have S2:Hid (Below B W0 (A.setCell ⟨R,0,none⟩ (.slice vo (t+1) vc))):=(aa.out.trans FF.out.2.2.2).setCell (by exact E.out) _
    clear FF hg ho ai aJ aL aO aB aw an ay;go_wp2
    go_roundw
    case rel=>exact ⟨t+1,by omega,by go_num,S2.out,S1.out⟩
    case measure=>simp [intOf]; omega
  ·have aA:t=m.length:=by omega
   subst aA
   have aD:Hid (LS B R m.length c (mOf m) 0 wr):=by
    obtain ⟨p,e⟩:=bj.out;subst e;exact M.out.ls0
   clear htn g0 M;go_wp2
   go_loopw [30,8] (fun i _ wx=>∃q:Nat,q≤wd∧i=.int .i64 q∧Below B W0 wx∧LS B R m.length c (mOf m) q wx) (fun i _ _=>wd-(intOf i).toNat)
   case atStart=>exact ⟨0,Za5 _,rfl,aa.out,aD.out⟩
   case round=>
    obtain ⟨q,hq,rfl,F,X⟩:=hrel;have aN:B≤wr.heap.size:=Zaa8 aS.out F.size;have aq:=hid F
    by_cases hqc:q < wd
    ·have HP:Hid (Calls Tryz.prog 115 #[.pointer (some ⟨R,0,none⟩),.int .i64 q] wr fun e w'=>e=.returned (.tuple #[])∧LS B R m.length c (mOf m) (q+1) w'∧Below B wr w'):=ZJI B R m.length c q (mOf m) wr X aN E.out hm (by omega) aP.out
     clear X F
     go_wp2_with fail
     refine (HP.out).mono ?_;rintro e d ⟨rfl,aE,l⟩;have S1:=hid aE;have S2:Hid (Below B W0 d):=aq.out.trans l;clear aE l HP;go_wp2
     go_roundw
     case rel=>exact ⟨q+1,by omega,by go_num,S2.out,S1.out⟩
     case measure=>simp [intOf]; omega
    ·have aC:q=wd:=by omega
     subst aC;obtain ⟨M',C,k,sgn,U,go,T,pv,O,a,N⟩:=X;obtain ⟨po,pc,aF⟩:=ZAD N.piv;simp only [Zab1,List.length_range] at aF;subst aF;obtain ⟨c0,c1,c2,c3,_,_,_,_⟩:=N.cells;have aY:=hid U;have aU:=hid N
     have hk:wr.heap[w.heap.size]?=some (.cells #[.slice none 0 0,.slice none 0 0,.int .i64 0,.int .i64 0] 113 (0,0)):=(F.block _ (by rw [HR.out]; omega)).trans aX.out
     have k0:wr.cell? ⟨w.heap.size,0,none⟩=some (.slice none 0 0):=by simp [World.cell?,hk]
     have k1:wr.cell? ⟨w.heap.size,1,none⟩=some (.slice none 0 0):=by simp [World.cell?,hk]
     have k2:wr.cell? ⟨w.heap.size,2,none⟩=some (.int .i64 0):=by simp [World.cell?,hk]
     have k3:wr.cell? ⟨w.heap.size,3,none⟩=some (.int .i64 0):=by simp [World.cell?,hk]
     have kf:∀i,wr.frozen? ⟨w.heap.size,i,none⟩=false:=fun i=>by simp [World.frozen?,hk]
     have f0:=kf 0;have f1:=kf 1;have f2:=kf 2;have f3:=kf 3;generalize hdd:dk M' C k=dd at *;clear U N F hk kf hqc hq aD aa az J
     have Y:Hid (∀x0 x1 x2 x3,Mat w.heap.size 22 3 ((((wr.setCell ⟨w.heap.size,0,none⟩ x0).setCell ⟨w.heap.size,1,none⟩ x1).setCell ⟨w.heap.size,2,none⟩ x2).setCell ⟨w.heap.size,3,none⟩ x3) (.slice (some ⟨go,0,none⟩) m.length T) (ZAk m.length c (rr M' C k))∧
       Sl w.heap.size 3 ((((wr.setCell ⟨w.heap.size,0,none⟩ x0).setCell ⟨w.heap.size,1,none⟩ x1).setCell ⟨w.heap.size,2,none⟩ x2).setCell ⟨w.heap.size,3,none⟩ x3) (.slice po k pc) (ZAB ((List.range k).map fun b=>(C b:Int)))∧
       Below w.heap.size w ((((wr.setCell ⟨w.heap.size,0,none⟩ x0).setCell ⟨w.heap.size,1,none⟩ x1).setCell ⟨w.heap.size,2,none⟩ x2).setCell ⟨w.heap.size,3,none⟩ x3)):=by
      intro x0 x1 x2 x3;have hr:=HR.out
      have h1:=aU.out.above (w':=(((wr.setCell ⟨w.heap.size,0,none⟩ x0).setCell ⟨w.heap.size,1,none⟩ x1).setCell ⟨w.heap.size,2,none⟩ x2).setCell ⟨w.heap.size,3,none⟩ x3) E.out (fun b hb=>by
       have L:b≠w.heap.size:=by omega
       rw [Below.heap_setCell _ _ _ _ L,Below.heap_setCell _ _ _ _ L,Below.heap_setCell _ _ _ _ L,Below.heap_setCell _ _ _ _ L])
      refine ⟨?_,Sl.own h1.piv,?_⟩
      ·exact h1.whole
      ·exact (((((au.out.trans (aq.out.mono (by omega))).setCell (by exact Za4 _) _).setCell (by exact Za4 _) _).setCell (by exact Za4 _) _).setCell (by exact Za4 _) _)
     have aQ:=hid hdd;clear hdd;go_wp2
     refine bodyPost_ret (v:=.agg #[.slice (some ⟨go,0,none⟩) m.length T,.slice po k pc,.int .i64 dd,.int .i64 sgn]) (by simp [results,Tryz.results91,go_sem, *]) rfl ?_
     exact ⟨M',C,k,sgn,aY.out,_,_,by rw [aQ.out],(Y.out _ _ _ _).1,(Y.out _ _ _ _).2.1,(Y.out _ _ _ _).2.2⟩
theorem ZHR(B0 c:Nat)(m:List (List Int))(v:Value)(w:World)(hv:Mat B0 22 3 w v m)(hm:m.length≤500)(hc0:0 < c)(hc:c≤64)(hw:∀r∈m,r.length=c)(hbd:Bd (mOf m) m.length c) :
  Calls Tryz.prog 91 #[v,.int .i64 c] w fun e w'=>∃M' C k sgn,Red (mOf m) m.length c M' C k sgn∧∃rv pv,e=.returned (.agg #[rv,pv,.int .i64 (dk M' C k),.int .i64 sgn])∧
   Mat w.heap.size 22 3 w' rv (ZAk m.length c (rr M' C k))∧Sl w.heap.size 3 w' pv (ZAB ((List.range k).map fun b=>(C b:Int)))∧Below w.heap.size w w':=ZEE B0 c c (Za4 _) hc0 m v w hv hm hc0 hc hw hbd
theorem ZJJ(B0 c:Nat)(m:List (List Int))(v:Value)(w:World)(hv:Mat B0 22 3 w v m)(hm:m.length≤500)(_hm0:0 < m.length)(hc0:0 < c)(hc:c≤64)(hw:∀r∈m,r.length=c)(hbd:Bd (mOf m) m.length c) :
  Calls Tryz.prog 91 #[v,.int .i64 c] w fun e w'=>∃M' C k sgn,Red (mOf m) m.length c M' C k sgn∧∃rv pv,e=.returned (.agg #[rv,pv,.int .i64 (dk M' C k),.int .i64 sgn])∧
   Mat w.heap.size 22 3 w' rv (ZAk m.length c (rr M' C k))∧Sl w.heap.size 3 w' pv (ZAB ((List.range k).map fun b=>(C b:Int)))∧Below w.heap.size w w':=
 ZHR B0 c m v w hv hm hc0 hc hw hbd
end Go.Proofs.YtgfnmkenpgnllaaGreat
