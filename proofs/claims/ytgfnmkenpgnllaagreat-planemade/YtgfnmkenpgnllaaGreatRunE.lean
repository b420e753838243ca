import Derived.Test.YtgfnmkenpgnllaaGreatRunA
set_option maxRecDepth 100000
set_option maxHeartbeats 4000000
namespace Go.Proofs.YtgfnmkenpgnllaaGreat
open Go.RowKit
theorem ZBm{P:Program}{ops:Array Oper}{o:Oper}{a:Act}{w:World}{K:Act→World→Prop}{Q:Exit→Act→World→Prop}{E:Prop}
 (hg:o.guard=none)(s x:Operand)(t:TypeId)(hop:o.op=Op.call { callee:=Callee.builtin Builtin.append,args:=#[s,x],argTypes:=#[t,t] })
 (base:Nat)(e:TypeId)(i:TypeInfo)(z:Value)(size bytes:Nat)(h1:P.underlying t=some (.slice e))(h2:P.info? e=some i)(h3:i.zero=some z)(h4:i.size=size)(h5:i.bytes=bytes)(h6:z.cells.size=size)(h7:0 < size)
 (v:Value)(n:Nat)(xs:List Value)(hs:a.eval s=v)(hown:w.ownsRow base e size v n xs)
 (ad:Addr)(m c:Nat)(news:List Value)(hx:a.eval x=.slice (some ad) m c)(hn:news.length=m*size)(hc:∀j u,news[j]?=some u→w.cell? (ad.add j)=some u)(h1c:∀u∈news,u.oneCell'=true)
 (b1:n+m≤maxLen)(b2:(n+m)*bytes≤140737488355328)(hb:base≤w.heap.size)
 (hK:∀v' w',w'.ownsRow base e size v' (n+m) (xs ++ news)→w.grownBy w' v.ownBlock→(v'.ownBlock=v.ownBlock∨v'.ownBlock=some w.heap.size)→K (a.put o.dst v') w') :
  if Region.wanted o (yielded ops a.tmps)=true then Oper.wp P o a w K Q else E:=by
 have f:Region.wanted o (yielded ops a.tmps)=true:=by simp [Region.wanted,hg]
 rw [if_pos f];obtain ⟨v',w',b,d,g,_,l⟩:=run_append_own_at (P:=P) w base t o.type e i z size bytes h1 h2 h3 h4 h5 h6 h7 v n xs hown ad m c news hn hc h1c b1 b2 hb;unfold Oper.wp;simp [execOp,hop,resolve,invoke,builtin,hs,hx,b,Result.andThen];exact hK v' w' d g l
theorem RS.congr{B R n c:Nat}{mat mat':Nat→Nat→Int}{piv:List Int}{val sgn:Int}{go capo:Nat}{pv:Value}{bs caps:Nat→Nat}{w:World}(h:RS B R n c mat piv val sgn go capo pv bs caps w)(he:∀i,i < n→∀j,j < c→mat i j=mat' i j) :
  RS B R n c mat' piv val sgn go capo pv bs caps w:=by
 refine ⟨h.st,h.out,fun i hi=>?_,h.inj,h.piv,h.off⟩
 have e:(List.range c).map (mat' i)=(List.range c).map (mat i):=List.map_congr_left fun j hj=>(he i hi j (by simpa using hj)).symm
 rw [e]; exact h.row i hi
theorem RS.typed{B R n c:Nat}{mat:Nat→Nat→Int}{piv:List Int}{val sgn:Int}{go capo:Nat}{pv:Value}{bs caps:Nat→Nat}{w:World}(h:RS B R n c mat piv val sgn go capo pv bs caps w) :
  go≠R∧(∀i,i < n→bs i≠go∧bs i≠R∧bs i < w.heap.size∧B≤bs i)∧B≤go∧(∀g,pv.ownBlock=some g→g≠R∧g≠go∧B≤g∧g < w.heap.size):=by
 have r:∃l,w.heap[go]?=some (.cells l 22 (0,0))∧B≤go:=by
  obtain ⟨_,a⟩:=h.out
  rcases a with ⟨a,_⟩ | ⟨g,cap,l,a,j,hh,_⟩
  ·simp at a
  ·simp only [Za3,Zaa9,Addr.mk.injEq,and_true,true_and] at a
   obtain ⟨rfl,_⟩:=a;exact ⟨l,hh,j⟩
 obtain ⟨l,f,p⟩:=r;have o:=h.st
 have m:∀b d,w.heap[b]?=some (.cells d 3 (0,0))→b≠go∧b≠R:=by
  intro b d j
  constructor
  ·rintro rfl; rw [j] at f; simp at f
  ·rintro rfl; rw [j] at o; simp at o
 refine ⟨by rintro rfl; rw [o] at f; simp at f,fun i hi=>?_,p,fun g hg=>?_⟩
 ·obtain ⟨_,a⟩:=h.row i hi
  rcases a with ⟨a,_⟩ | ⟨g,cap,d,a,j,hh,_⟩
  ·simp at a
  ·simp only [Za3,Zaa9,Addr.mk.injEq,and_true,true_and] at a
   obtain ⟨s,_⟩:=a;rw [←s] at hh j;exact ⟨(m _ _ hh).1,(m _ _ hh).2,lt_of_block hh,j⟩
 ·obtain ⟨_,a⟩:=h.piv
  rcases a with ⟨a,_⟩ | ⟨g',cap,d,a,j,hh,_⟩
  ·rw [a] at hg; simp [Value.ownBlock] at hg
  ·rw [a] at hg
   simp [Value.ownBlock] at hg;subst hg;exact ⟨(m _ _ hh).2,(m _ _ hh).1,j,lt_of_block hh⟩
theorem RS.clear{B R n c i:Nat}{mat:Nat→Nat→Int}{piv:List Int}{val sgn:Int}{go capo:Nat}{pv:Value}{bs caps:Nat→Nat}{w w':World}{r':Nat→Int}(h:RS B R n c mat piv val sgn go capo pv bs caps w)(hi:i < n)(ht:Touch (bs i) w w')
 (ho:w'.ownsRow B 3 1 (.slice (some ⟨bs i,0,none⟩) c (caps i)) c (ZAB ((List.range c).map r'))):RS B R n c (fun a j=>if a=i then r' j else mat a j) piv val sgn go capo pv bs caps w':=by
 obtain ⟨f,b,g,d⟩:=h.typed
 refine ⟨(ht.block R (b i hi).2.1.symm).trans h.st,ht.owns h.out (by simp [Value.ownBlock]; exact (b i hi).1.symm),fun a ha=>?_,h.inj,ht.owns h.piv (fun e=>h.off _ e i hi rfl),h.off⟩
 by_cases e:a=i
 ·subst e
  have:(List.range c).map (fun j=>if a=a then r' j else mat a j)=(List.range c).map r':=by simp
  show w'.ownsRow B 3 1 (.slice (some ⟨bs a,0,none⟩) c (caps a)) c (ZAB ((List.range c).map (fun j=>if a=a then r' j else mat a j)))
  rw [this]; exact ho
 ·have:(List.range c).map (fun j=>if a=i then r' j else mat a j)=(List.range c).map (mat a):=by simp [e]
  show w'.ownsRow B 3 1 (.slice (some ⟨bs a,0,none⟩) c (caps a)) c (ZAB ((List.range c).map (fun j=>if a=i then r' j else mat a j)))
  rw [this]
  exact ht.owns (h.row a ha) (by simp [Value.ownBlock]; exact h.inj a i ha hi e)
theorem RS.last{B R n c q:Nat}{mat:Nat→Nat→Int}{piv:List Int}{val sgn v':Int}{go capo:Nat}{pv pv':Value}{bs caps:Nat→Nat}{w w3:World}{o:Obj}(h:RS B R n c mat piv val sgn go capo pv bs caps w)
 (ho:w3.ownsRow B 3 1 pv' (piv.length+1) (ZAB piv ++ [.int .i64 q]))(hg:((w.setCell ⟨R,2,none⟩ (.int .i64 v')).alloc o).grownBy w3 pv.ownBlock)(hat:pv'.ownBlock=pv.ownBlock∨pv'.ownBlock=some (w.heap.size+1)∨pv'.ownBlock=some ((w.setCell ⟨R,2,none⟩ (.int .i64 v')).alloc o).heap.size) :
  RS B R n c mat (piv ++ [(q:Int)]) v' sgn go capo pv' bs caps (w3.setCell ⟨R,1,none⟩ pv')∧w3.cell? ⟨R,1,none⟩=some pv∧w3.frozen? ⟨R,1,none⟩=false:=by
 obtain ⟨J,v,P,A⟩:=h.typed;have p:=lt_of_block h.st
 have s:((w.setCell ⟨R,2,none⟩ (.int .i64 v')).alloc o).heap.size=w.heap.size+1:=by simp [World.setCell]
 have M:∀b,b < w.heap.size→b≠R→pv.ownBlock≠some b→w3.heap[b]?=w.heap[b]?:=by
  intro b y D z
  rw [hg.block b (by omega) (fun e=>z e.symm),Below.heap_alloc _ _ _ (by simp [World.setCell]; exact y),Below.heap_setCell _ _ _ _ D]
 have j:w3.heap[R]?=some (.cells #[.slice (some ⟨go,0,none⟩) n capo,pv,.int .i64 v',.int .i64 sgn] 113 (0,0)):=by
  rw [hg.block R (by omega) (fun e=>(A R e.symm).1 rfl),Below.heap_alloc _ _ _ (by simp [World.setCell]; exact p)]
  simp [World.setCell,Array.getElem?_modify,h.st]
 have f:go < w.heap.size:=by
  have:=(h.out.lt go (by simp [Value.ownBlock])).2; exact this
 have r:pv'.ownBlock≠some R:=by
  rcases hat with e | e | e
  ·rw [e]; intro L; exact (A R L).1 rfl
  ·rw [e]; simp; omega
  ·rw [e,s]; simp; omega
 have d:∀{e:TypeId} {g m t:Nat} {x:List Value},w.ownsRow B e 1 (.slice (some ⟨g,0,none⟩) m t) m x→g < w.heap.size→g≠R→pv.ownBlock≠some g→(w3.setCell ⟨R,1,none⟩ pv').ownsRow B e 1 (.slice (some ⟨g,0,none⟩) m t) m x:=by
  intro e g m t x hv N F G;obtain ⟨O,l⟩:=hv;refine ⟨O,?_⟩
  rcases l with ⟨l,_⟩ | ⟨g',cap,cur,l,r1,r2,r3⟩
  ·simp at l
  ·simp only [Za3,Zaa9,Addr.mk.injEq,and_true,true_and] at l
   obtain ⟨rfl,rfl⟩:=l
   exact Or.inr ⟨g,t,cur,rfl,r1,by rw [Below.heap_setCell _ _ _ _ F,M g N F G]; exact r2,r3⟩
 refine ⟨⟨?_,d h.out f J (fun e=>(A go e).2.1 rfl),fun i hi=>d (h.row i hi) (v i hi).2.2.1 (v i hi).2.1 (fun e=>h.off _ e i hi rfl),h.inj,?_,fun g hg2 i hi=>?_⟩,by simp [World.cell?,j],by simp [World.frozen?,j]⟩
 ·simp [World.setCell,Array.getElem?_modify,j]
 ·have E:=ownsRow_setCell_other ho (a:=⟨R,1,none⟩) r pv'
  rw [ZD2] at E
  have e:(piv ++ [(q:Int)]).length=piv.length+1:=by simp
  rw [e]; exact E
 ·rcases hat with e | e | e
  ·rw [e] at hg2; exact h.off g hg2 i hi
  ·rw [e] at hg2; simp at hg2; have:=(v i hi).2.2.1; omega
  ·rw [e,s] at hg2; simp at hg2; have:=(v i hi).2.2.1; omega
end Go.Proofs.YtgfnmkenpgnllaaGreat
namespace Go.Proofs.YtgfnmkenpgnllaaGreat
open Go.RowKit
attribute [local go_sem ↓] Go.wp_at_zero Go.wp_at_succ
theorem RS.same{B R n c k:Nat}{mat:Nat→Nat→Int}{piv:List Int}{val sgn:Int}{go capo:Nat}{pv:Value}{bs caps:Nat→Nat}{w:World}(h:RS B R n c mat piv val sgn go capo pv bs caps w) :
  RS B R n c (fun i j=>mat (sw k k i) j) piv val sgn go capo pv (fun i=>bs (sw k k i)) (fun i=>caps (sw k k i)) w:=by
 have d:(fun i j=>mat (sw k k i) j)=mat:=by funext i j; rw [ZFe]
 have a:(fun i=>bs (sw k k i))=bs:=by funext i; rw [ZFe]
 have b:(fun i=>caps (sw k k i))=caps:=by funext i; rw [ZFe]
 rw [d,a,b]; exact h
theorem RS.drew{B R n c:Nat}{mat:Nat→Nat→Int}{piv:List Int}{val sgn:Int}{go capo:Nat}{pv:Value}{bs caps:Nat→Nat}{w:World}(h:RS B R n c mat piv val sgn go capo pv bs caps w) :
  RS B R n c mat piv val sgn go capo pv bs caps w.drew:=⟨h.st,h.out.drew,fun i hi=>(h.row i hi).drew,h.inj,h.piv.drew,h.off⟩
theorem RS.cells{B R n c:Nat}{mat:Nat→Nat→Int}{piv:List Int}{val sgn:Int}{go capo:Nat}{pv:Value}{bs caps:Nat→Nat}{w:World}(h:RS B R n c mat piv val sgn go capo pv bs caps w) :
  w.cell? ⟨R,0,none⟩=some (.slice (some ⟨go,0,none⟩) n capo)∧w.cell? ⟨R,1,none⟩=some pv∧w.cell? ⟨R,2,none⟩=some (.int .i64 val)∧w.cell? ⟨R,3,none⟩=some (.int .i64 sgn)∧
   (∀i,w.frozen? ⟨R,i,none⟩=false)∧(∀i,i < n→w.cell? ⟨go,i,none⟩=some (.slice (some ⟨bs i,0,none⟩) c (caps i)))∧(∀i,w.frozen? ⟨go,i,none⟩=false)∧
   ∀i,i < n→∀j,j < c→w.cell? ⟨bs i,j,none⟩=some (.int .i64 (mat i j)):=by
 have a:=h.st
 refine ⟨by simp [World.cell?,a],by simp [World.cell?,a],by simp [World.cell?,a],by simp [World.cell?,a],fun i=>by simp [World.frozen?,a],fun i hi=>?_,fun i=>h.out.frozenAt i,fun i hi j hj=>?_⟩
 ·rw [h.out.cellAt i (by omega)]; simp [hi]
 ·rw [(h.row i hi).cellAt j (by omega),ZAa _ _ (by simpa using hj)]; simp [hj]
def ZDS(k i0 t:Nat)(mat nm:Nat→Nat→Int):Nat→Nat→Int:=fun a j=>if a=k then mat i0 j else if a < t then nm a j else mat (sw k i0 a) j
theorem ZGR{k i0 t:Nat}{mat nm:Nat→Nat→Int}(h:t≠k)(i j:Nat):(if i=t then nm t j else ZDS k i0 t mat nm i j)=ZDS k i0 (t+1) mat nm i j:=by
 unfold ZDS; grind
theorem ZJF(B R n c q f:Nat)(mat nm:Nat→Nat→Int)(piv:List Int)(val sgn:Int)(go capo:Nat)(pv:Value)(bs caps:Nat→Nat)(w:World)(h:RS B R n c mat piv val sgn go capo pv bs caps w)(hB:B≤w.heap.size)(hBR:B≤R)
 (hn:n≤500)(hk:piv.length+f < n)(hq:q < c)(hz:∀i,piv.length≤i→i < piv.length+f→mat i q=0)(hne:mat (piv.length+f) q≠0)(hval:val≠0)(hsgn:sgn=1∨sgn=-1)
 (he:∀i,i < n→i≠piv.length→∀j,j < c→mat (piv.length+f) q*mat (sw piv.length (piv.length+f) i) j-mat (sw piv.length (piv.length+f) i) q*mat (piv.length+f) j=val*nm i j)
 (hb:∀i,i < n→i≠piv.length→∀j,j < c→(val*nm i j).natAbs≤9223372036854775807∧(nm i j).natAbs≤9223372036854775807) :
  Calls Tryz.prog 115 #[.pointer (some ⟨R,0,none⟩),.int .i64 q] w fun e w'=>e=.returned (.tuple #[])∧
   (∃pv' bs' caps',RS B R n c (fun i j=>if i=piv.length then mat (piv.length+f) j else nm i j) (piv ++ [(q:Int)]) (mat (piv.length+f) q) (if f=0 then sgn else -sgn) go capo pv' bs' caps' w')∧Below B w w':=by
 obtain ⟨p,m,bq⟩:=ZAD h.piv;subst bq;have HR:=hid h;have HE:=hid he;have aD:=hid hb;have HF:Hid (ZEC ((ZAk n c mat).drop piv.length) q=f):=ZKC hq hk hz hne
 have bD:n≤capo∧capo≤9223372036854775807:=by
  obtain ⟨_,h2⟩:=h.out
  rcases h2 with ⟨h,_⟩ | ⟨k,cp,cur,h,_,_,h3,h4,_⟩
  ·simp at h
  ·simp only [Za3] at h; unfold maxLen at h4; omega
 obtain ⟨h0,h1,_,_,_,_,_,_⟩:=h.cells;have bv:=lt_of_block h.st
 have HT:Hid (RS B R n c mat piv val sgn go capo (.slice p piv.length m) bs caps w→True):=fun _=>trivial
 have bg:Hid (piv.length=piv.length):=rfl
 obtain ⟨k,aJ⟩:∃k,k=piv.length:=⟨_,rfl⟩
 have az:=hid aJ;rw [←aJ] at HR HE aD HF h1 hk ⊢;have aw:Hid (Below w.heap.size w (w.alloc (.cells #[.int .i64 q] 3))):=(Below.refl _ _).alloc (Za4 _) _
 have d:k < n:=by omega
 have bI:k < capo:=by omega
 clear h hz hne he hb aJ HT bg;go_enter Tryz.func115,Tryz.ntmps115
 go_wp2_with fail
 refine (ZCI B q _ _ ⟨w.heap.size,0,none⟩ _ ((HR.out.tail k d).below aw.out (Za4 _)) (ZIW hq) (by simp)).mono ?_
 rintro e W ⟨rfl,hW⟩;rw [HF.out]
 obtain ⟨N,hN⟩:∃N,N=w.heap.size:=⟨_,rfl⟩
 have M:Hid (RS B R n c mat piv val sgn go capo (.slice p k m) bs caps W):=by rw [hW]; exact HR.out.below aw.out (Za4 _)
 have ay:Hid (Below B w W):=by rw [hW]; exact aw.out.mono hB
 have ak:Hid (W.cell? ⟨N,0,none⟩=some (.int .i64 q)∧N < W.heap.size):=by rw [hW,hN]; exact ⟨by simp,by simp⟩
 have aX:Hid (∀i,i < n→bs i≠N):=by
  rw [hN]; intro i hi; have:=(HR.out.typed.2.1 i hi).2.2.1; omega
 have bE:N≠R:=by omega
 have bu:N≠go:=by
  have:=(HR.out.out.lt go (by simp [Value.ownBlock])).2; omega
 have bC:B≤N:=by omega
 rw [←hN];clear hW hN aw HR;obtain ⟨c0,c1,c2,c3,aY,aP,aj,bj⟩:=M.out.cells;have aW:=M.out.typed.1;have aA:=M.out.typed.2.2.1;have d0:=aP k d;have d1:=aP (k+f) hk;have f0:=aj k;have f1:=aj (k+f);have f2:=aY 3;clear aY aP aj bj
 have bH:decide ((f:Int) < 0)=false:=decide_eq_false (by omega)
 by_cases hf0:f=0
 ·subst hf0
  have aS:Hid (RS B R n c (fun i j=>mat (sw k k i) j) piv val sgn go capo (.slice p k m) (fun i=>bs (sw k k i)) (fun i=>caps (sw k k i)) W):=M.out.same
  have aT:Hid (Below B w W):=ay.out;have aq:Hid (W.cell? ⟨N,0,none⟩=some (.int .i64 q)∧N < W.heap.size):=ak.out;clear M ay ak;go_wp2
  go_loopw [76,7,8] (fun i _ _ wr=>∃t:Nat,t≤n∧i=.int .i64 t∧RS B R n c (ZDS k k t mat nm) piv val sgn go capo (.slice p k m) (fun i=>bs (sw k k i)) (fun i=>caps (sw k k i)) wr∧Below B w wr∧wr.cell? ⟨N,0,none⟩=some (.int .i64 q)∧N < wr.heap.size) (fun i _ _ _=>n-(intOf i).toNat)
  case atStart=>exact ⟨0,Za5 _,rfl,aS.out.congr (fun i _ j _=>by unfold ZDS; by_cases e:i=k <;> simp [e,sw]),aT.out,aq.out.1,aq.out.2⟩
  case round=>
   obtain ⟨t,ht,rfl,s,A,X,ai⟩:=hrel;obtain ⟨e0,e1,e2,e3,E,T,L,Y⟩:=s.cells;have b:=hid s;have S:=hid A;have bh:R < wr.heap.size:=lt_of_block s.st
   by_cases htn:t < n
   ·have g0:=T t htn
    clear E T L Y s A e1 e3
    by_cases htk:t=k
    ·have aE:((t:Int) != (k:Int))=false:=by rw [bne_eq_false_iff_eq]; omega
     have Q:=hid htk;clear htk;go_wp2
     go_roundw
     case rel=>exact ⟨t+1,by omega,by go_num,b.out.congr (fun i _ j _=>by have:=Q.out; unfold ZDS; by_cases e:i=k <;> simp [e]; by_cases e2:i < t <;> simp [e2,show (i < t+1)=(i < t) by simp; omega]),S.out,X,ai⟩
     case measure=>simp [intOf]; omega
    ·have aE:((t:Int) != (k:Int))=true:=by rw [bne_iff_ne]; omega
     have Q:=hid htk;have z:=b.out.row t htn;have l:=b.out.row k d;have r:=b.out.inj k t d htn (Ne.symm htk);have aQ:bs (sw k k t)≠N:=aX.out _ (ZFd d d htn);have ae:bs (sw k k t)≠R:=(b.out.typed.2.1 t htn).2.1;have bl:B≤bs (sw k k t):=(b.out.typed.2.1 t htn).2.2.2
     have an:Hid (Calls Tryz.prog 138 #[.slice (some ⟨bs (sw k k t),0,none⟩) c (caps (sw k k t)),.slice (some ⟨bs k,0,none⟩) c (caps k),.int .i64 q,.int .i64 val] wr.drew fun e w'=>
       e=.returned (.tuple #[])∧w'.ownsRow B 3 1 (.slice (some ⟨bs (sw k k t),0,none⟩) c (caps (sw k k t))) c (ZAB ((List.range c).map (nm t)))∧Touch (bs (sw k k t)) wr w'):=by
      have v:sw k k k=k:=by unfold sw; simp
      have er:(List.range c).map (ZDS k k t mat nm t)=(List.range c).map (mat (sw k k t)):=by
       refine List.map_congr_left fun j _=>?_
       unfold ZDS; rw [if_neg htk,if_neg (by omega)]
      have ep:(List.range c).map (ZDS k k t mat nm k)=(List.range c).map (mat k):=by
       refine List.map_congr_left fun j _=>?_
       unfold ZDS; rw [if_pos rfl]
      rw [er] at z;rw [ep] at l;simp only [v] at l r
      have gd:∀(g:Nat→Int) j,j < c→((List.range c).map g).getD j 0=g j:=by intro g j F; simp [F]
      have aM:=ZGP B (bs (sw k k t)) (bs k) c (caps (sw k k t)) (caps k) q _ _ ((List.range c).map (nm t)) val wr.drew z.drew l.drew r hq hval (by simp) (by simp) (by simp)
       (fun j F=>by rw [gd _ _ hq,gd _ _ hq,gd _ _ F,gd _ _ F,gd _ _ F]; exact HE.out t htn htk j F) (fun j F=>by rw [gd _ _ F]; exact aD.out t htn htk j F)
      exact aM.mono fun e w' ⟨h1,h2,h3⟩=>⟨h1,h2,⟨h3.os,h3.tape,h3.output,h3.size,h3.block⟩⟩
     clear z l r htk;go_wp2
     go_region_held3 (fun w'=>w'.cell? ⟨N,0,none⟩=some (.int .i64 q)∧w'.cell? ⟨R,2,none⟩=some (.int .i64 val)) (first | go_keep | exact KS.out)
      ((go_at_call 138; refine (an.out).mono ?_; rintro e w2 ⟨rfl,au,a⟩; have KS:Hid (w2.cell? ⟨N,0,none⟩=some (.int .i64 q)∧w2.cell? ⟨R,2,none⟩=some (.int .i64 val)):=⟨(a.cell aQ.symm).trans X,(a.cell ae.symm).trans e2⟩))
     have S1:Hid (RS B R n c (ZDS k k (t+1) mat nm) piv val sgn go capo (.slice p k m) (fun i=>bs (sw k k i)) (fun i=>caps (sw k k i)) w2):=by
      exact (b.out.clear (i:=t) htn a au).congr fun i _ j _=>ZGR Q.out i j
     have S2:Hid (Below B w w2):=S.out.trans ⟨a.os,a.tape,a.output,by rw [a.size]; exact Za4 _,fun x hx=>a.block x (by omega)⟩
     have S3:=KS.out.1
     have S4:N < w2.heap.size:=by rw [a.size]; exact ai
     clear au a KS an;go_wp2
     go_roundw
     case rel=>exact ⟨t+1,by omega,by go_num,S1.out,S2.out,S3,S4⟩
     case measure=>simp [intOf]; omega
   ·have am:t=n:=by omega
    have v:sw k k k=k:=by unfold sw; simp
    have x0:=Y k d q hq;have f3:=E 2;have f4:=E 1;simp only [v] at x0
    have x1:ZDS k k t mat nm k q=mat k q:=by unfold ZDS; rw [if_pos rfl]
    rw [x1] at x0
    have aF:Hid (wr.ownsRow B 3 1 (.slice p k m) k (ZAB piv)):=by have:=b.out.piv; rw [←az.out] at this; exact this
    have ae:bs k≠R:=by have:=(b.out.typed.2.1 k d).2.1; simpa only [v] using this
    have P:Hid (RS B R n c (fun i j=>if i=k then mat k j else nm i j) piv val sgn go capo (.slice p k m) (fun i=>bs (sw k k i)) (fun i=>caps (sw k k i)) wr):=
     b.out.congr fun i hi j _=>by unfold ZDS; by_cases e:i=k <;> simp [e]; intro h1; omega
    obtain ⟨vq,V⟩:∃vq,mat k q=vq:=⟨_,rfl⟩
    have aL:=hid V;rw [V] at x0;clear V;clear E T L Y s A v x1 am e0 e3
    have aN:Hid (∀g,(Value.slice p k m).ownBlock=some g→B≤g):=fun g y=>(P.out.typed.2.2.2 g y).2.2.1
    go_wp2
    obtain ⟨Z,U⟩:∃Z,Z=wr.setCell ⟨R,2,none⟩ (.int .i64 vq):=⟨_,rfl⟩
    have z1:Z.cell? ⟨R,1,none⟩=some (.slice p k m):=by rw [U]; rw [World.cell?_setCell_other]; exact e1; simp
    have z2:Z.cell? ⟨N,0,none⟩=some (.int .i64 q):=by rw [U]; rw [World.cell?_setCell_other]; exact X; simp
    have aH:Hid (Z.ownsRow B 3 1 (.slice p k m) k (ZAB piv)):=by
     rw [U]; exact ownsRow_setCell_other aF.out (fun e=>(P.out.typed.2.2.2 R e).1 rfl) _
    have ar:Z.heap.size=wr.heap.size:=by rw [U]; simp [World.setCell]
    have aa:=hid U;rw [←U];clear U
    obtain ⟨i3,aC,ag,ah,af⟩:∃i,Tryz.prog.info? 3=some i∧i.zero=some (.int .i64 0)∧i.size=1∧i.bytes=8:=⟨_,by rfl,by rfl,by rfl,by rfl⟩
    have aG:k+1≤maxLen:=by unfold maxLen; omega
    have aI:B≤Z.heap.size:=by omega
    have bt:R < Z.heap.size:=by omega
    have bi:=hid ar
    have aK:Hid (∀w3 O J o,w3.ownsRow B 3 1 (.slice O (k+1) J) (k+1) (ZAB piv ++ [.int .i64 q])→(Z.drew.alloc o).grownBy w3 (Value.slice p k m).ownBlock→((Value.slice O (k+1) J).ownBlock=(Value.slice p k m).ownBlock∨(Value.slice O (k+1) J).ownBlock=some (Z.drew.alloc o).heap.size)→
      RS B R n c (fun i j=>if i=k then mat k j else nm i j) (piv ++ [(q:Int)]) vq sgn go capo (.slice O (k+1) J) (fun i=>bs (sw k k i)) (fun i=>caps (sw k k i)) (w3.setCell ⟨R,1,none⟩ (.slice O (k+1) J))∧w3.cell? ⟨R,1,none⟩=some (.slice p k m)∧w3.frozen? ⟨R,1,none⟩=false∧Below B w w3):=by
     intro w3 O J o ho y D
     have aV:Below B w w3:=by
      have aO:Below B w Z:=by rw [aa.out]; exact S.out.setCell (by exact hBR) _
      have aR:Below B w (Z.drew.alloc o):=aO.drew.alloc (by simpa using aI) _
      exact aR.grown y (by simp; omega) aN.out
     rw [aa.out] at y D
     have:=P.out.last (q:=q) (v':=vq) (w3:=w3) (o:=o) (by rw [←az.out]; exact ho) (by
      exact ⟨y.os,y.tape,y.output,y.size,y.block⟩) (by rcases D with e | e; exact Or.inl e; exact Or.inr (Or.inr e))
     exact ⟨this.1,this.2.1,this.2.2,aV⟩
    clear ar
    go_region_law (refine ZBm (by rfl) _ _ 22 (by rfl) B 3 i3 (.int .i64 0) 1 8 Tryz.underlying22 aC ag ah af rfl (by decide) _ _ _ (by rfl) (aH.out.drew.alloc _) ⟨Z.heap.size,0,none⟩ 1 1 [.int .i64 q] (by rfl) rfl (ZAQ _ _ _) (ZA2 _) aG (by omega) (by simp; omega) ?_; intro v' w3 ho y D; obtain ⟨O,J,aU⟩:=ZAD ho; subst aU; have FF:Hid _:=aK.out w3 O J _ ho y D; have bk:=FF.out.2.1; have bp:=FF.out.2.2.1)
    all_goals (go_wp2; go_end0; exact ⟨rfl,⟨_,_,_,by have h:=FF.out.1; rw [←aL.out] at h; first | exact h | (rw [if_neg aZ.out]; exact h)⟩,FF.out.2.2.2.setCell (by exact hBR) _⟩)
 ·have bF:(0:Int) < (f:Int):=by omega
  have bJ:decide (0 < f)=true:=decide_eq_true (by omega)
  have bA:(0:Int)≤(k:Int):=by omega
  have bz:(k:Int) < (n:Int):=by omega
  have bw:(k:Int)+(f:Int) < (n:Int):=by omega
  have bB:R≠go:=Ne.symm aW;have aZ:=hid hf0
  have aB:Hid (RS B R n c (fun i j=>mat (sw k (k+f) i) j) piv val (-sgn) go capo (.slice p k m) (fun i=>bs (sw k (k+f) i)) (fun i=>caps (sw k (k+f) i))
   (((W.setCell ⟨go,k,none⟩ (.slice (some ⟨bs (k+f),0,none⟩) c (caps (k+f)))).setCell ⟨go,k+f,none⟩ (.slice (some ⟨bs k,0,none⟩) c (caps k))).setCell ⟨R,3,none⟩ (.int .i64 (-sgn)))):=M.out.swap d hk (by omega) (-sgn)
  clear hf0;go_wp2
  go_region
  obtain ⟨W2,G⟩:∃W2,W2=(W.setCell ⟨go,k,none⟩ (.slice (some ⟨bs (k+f),0,none⟩) c (caps (k+f)))).setCell ⟨go,k+f,none⟩ (.slice (some ⟨bs k,0,none⟩) c (caps k)):=⟨_,rfl⟩
  rw [←G]
  have y3:W2.cell? ⟨R,3,none⟩=some (.int .i64 sgn):=by rw [G,World.cell?_setCell_other,World.cell?_setCell_other]; exact c3; simp; simp
  have yf:W2.frozen? ⟨R,3,none⟩=false:=by rw [G]; simpa [World.frozen?_setCell] using f2
  have bG:=(M.out.out.lt go (by simp [Value.ownBlock])).2
  have y0:W2.cell? ⟨R,0,none⟩=some (.slice (some ⟨go,0,none⟩) n capo):=by rw [G,World.cell?_setCell_other,World.cell?_setCell_other]; exact c0; simp; simp
  have yk:W2.cell? ⟨go,k,none⟩=some (.slice (some ⟨bs (k+f),0,none⟩) c (caps (k+f))):=by
   rw [G,World.cell?_setCell_other]
   ·exact World.cell?_setCell_same _ _ _ d0
   ·simp
  have aS:Hid (RS B R n c (fun i j=>mat (sw k (k+f) i) j) piv val (-sgn) go capo (.slice p k m) (fun i=>bs (sw k (k+f) i)) (fun i=>caps (sw k (k+f) i)) (W2.setCell ⟨R,3,none⟩ (.int .i64 (-sgn))).drew):=by
   rw [G]; exact aB.out.drew
  have aT:Hid (Below B w (W2.setCell ⟨R,3,none⟩ (.int .i64 (-sgn))).drew):=by
   rw [G]; exact (((ay.out.setCell (by exact aA) _).setCell (by exact aA) _).setCell (by exact hBR) _).drew
  have aq:Hid ((W2.setCell ⟨R,3,none⟩ (.int .i64 (-sgn))).drew.cell? ⟨N,0,none⟩=some (.int .i64 q)∧N < (W2.setCell ⟨R,3,none⟩ (.int .i64 (-sgn))).drew.heap.size):=by
   show (W2.setCell ⟨R,3,none⟩ (.int .i64 (-sgn))).cell? ⟨N,0,none⟩=some (.int .i64 q)∧N < (W2.setCell ⟨R,3,none⟩ (.int .i64 (-sgn))).heap.size
   rw [G,World.cell?_setCell_other,World.cell?_setCell_other,World.cell?_setCell_other]
   ·exact ⟨ak.out.1,by simp [World.setCell]; exact ak.out.2⟩
   ·simp
   ·simp
   ·simp
  clear G aB M ay ak c0 c1 c2 c3 d0 d1 f0 f1 f2;go_wp2
  go_loopw [76,7,8] (fun i _ _ wr=>∃t:Nat,t≤n∧i=.int .i64 t∧RS B R n c (ZDS k (k+f) t mat nm) piv val (-sgn) go capo (.slice p k m) (fun i=>bs (sw k (k+f) i)) (fun i=>caps (sw k (k+f) i)) wr∧Below B w wr∧wr.cell? ⟨N,0,none⟩=some (.int .i64 q)∧N < wr.heap.size) (fun i _ _ _=>n-(intOf i).toNat)
  case atStart=>exact ⟨0,Za5 _,rfl,aS.out.congr (fun i _ j _=>by unfold ZDS; by_cases e:i=k <;> simp [e,sw]),aT.out,aq.out.1,aq.out.2⟩
  case round=>
   obtain ⟨t,ht,rfl,s,A,X,ai⟩:=hrel;obtain ⟨e0,e1,e2,e3,E,T,L,Y⟩:=s.cells;have b:=hid s;have S:=hid A;have bh:R < wr.heap.size:=lt_of_block s.st
   by_cases htn:t < n
   ·have g0:=T t htn
    clear E T L Y s A e1 e3
    by_cases htk:t=k
    ·have aE:((t:Int) != (k:Int))=false:=by rw [bne_eq_false_iff_eq]; omega
     have Q:=hid htk;clear htk;go_wp2
     go_roundw
     case rel=>exact ⟨t+1,by omega,by go_num,b.out.congr (fun i _ j _=>by have:=Q.out; unfold ZDS; by_cases e:i=k <;> simp [e]; by_cases e2:i < t <;> simp [e2,show (i < t+1)=(i < t) by simp; omega]),S.out,X,ai⟩
     case measure=>simp [intOf]; omega
    ·have aE:((t:Int) != (k:Int))=true:=by rw [bne_iff_ne]; omega
     have Q:=hid htk;have z:=b.out.row t htn;have l:=b.out.row k d;have r:=b.out.inj k t d htn (Ne.symm htk);have aQ:bs (sw k (k+f) t)≠N:=aX.out _ (ZFd d hk htn);have ae:bs (sw k (k+f) t)≠R:=(b.out.typed.2.1 t htn).2.1;have bl:B≤bs (sw k (k+f) t):=(b.out.typed.2.1 t htn).2.2.2
     have an:Hid (Calls Tryz.prog 138 #[.slice (some ⟨bs (sw k (k+f) t),0,none⟩) c (caps (sw k (k+f) t)),.slice (some ⟨bs (k+f),0,none⟩) c (caps (k+f)),.int .i64 q,.int .i64 val] wr.drew fun e w'=>
       e=.returned (.tuple #[])∧w'.ownsRow B 3 1 (.slice (some ⟨bs (sw k (k+f) t),0,none⟩) c (caps (sw k (k+f) t))) c (ZAB ((List.range c).map (nm t)))∧Touch (bs (sw k (k+f) t)) wr w'):=by
      have v:sw k (k+f) k=(k+f):=by unfold sw; simp
      have er:(List.range c).map (ZDS k (k+f) t mat nm t)=(List.range c).map (mat (sw k (k+f) t)):=by
       refine List.map_congr_left fun j _=>?_
       unfold ZDS; rw [if_neg htk,if_neg (by omega)]
      have ep:(List.range c).map (ZDS k (k+f) t mat nm k)=(List.range c).map (mat (k+f)):=by
       refine List.map_congr_left fun j _=>?_
       unfold ZDS; rw [if_pos rfl]
      rw [er] at z;rw [ep] at l;simp only [v] at l r
      have gd:∀(g:Nat→Int) j,j < c→((List.range c).map g).getD j 0=g j:=by intro g j F; simp [F]
      have aM:=ZGP B (bs (sw k (k+f) t)) (bs (k+f)) c (caps (sw k (k+f) t)) (caps (k+f)) q _ _ ((List.range c).map (nm t)) val wr.drew z.drew l.drew r hq hval (by simp) (by simp) (by simp)
       (fun j F=>by rw [gd _ _ hq,gd _ _ hq,gd _ _ F,gd _ _ F,gd _ _ F]; exact HE.out t htn htk j F) (fun j F=>by rw [gd _ _ F]; exact aD.out t htn htk j F)
      exact aM.mono fun e w' ⟨h1,h2,h3⟩=>⟨h1,h2,⟨h3.os,h3.tape,h3.output,h3.size,h3.block⟩⟩
     clear z l r htk;go_wp2
     go_region_held3 (fun w'=>w'.cell? ⟨N,0,none⟩=some (.int .i64 q)∧w'.cell? ⟨R,2,none⟩=some (.int .i64 val)) (first | go_keep | exact KS.out)
      ((go_at_call 138; refine (an.out).mono ?_; rintro e w2 ⟨rfl,au,a⟩; have KS:Hid (w2.cell? ⟨N,0,none⟩=some (.int .i64 q)∧w2.cell? ⟨R,2,none⟩=some (.int .i64 val)):=⟨(a.cell aQ.symm).trans X,(a.cell ae.symm).trans e2⟩))
     have S1:Hid (RS B R n c (ZDS k (k+f) (t+1) mat nm) piv val (-sgn) go capo (.slice p k m) (fun i=>bs (sw k (k+f) i)) (fun i=>caps (sw k (k+f) i)) w2):=by
      exact (b.out.clear (i:=t) htn a au).congr fun i _ j _=>ZGR Q.out i j
     have S2:Hid (Below B w w2):=S.out.trans ⟨a.os,a.tape,a.output,by rw [a.size]; exact Za4 _,fun x hx=>a.block x (by omega)⟩
     have S3:=KS.out.1
     have S4:N < w2.heap.size:=by rw [a.size]; exact ai
     clear au a KS an;go_wp2
     go_roundw
     case rel=>exact ⟨t+1,by omega,by go_num,S1.out,S2.out,S3,S4⟩
     case measure=>simp [intOf]; omega
   ·have am:t=n:=by omega
    have v:sw k (k+f) k=(k+f):=by unfold sw; simp
    have x0:=Y k d q hq;have f3:=E 2;have f4:=E 1;simp only [v] at x0
    have x1:ZDS k (k+f) t mat nm k q=mat (k+f) q:=by unfold ZDS; rw [if_pos rfl]
    rw [x1] at x0
    have aF:Hid (wr.ownsRow B 3 1 (.slice p k m) k (ZAB piv)):=by have:=b.out.piv; rw [←az.out] at this; exact this
    have ae:bs (k+f)≠R:=by have:=(b.out.typed.2.1 k d).2.1; simpa only [v] using this
    have P:Hid (RS B R n c (fun i j=>if i=k then mat (k+f) j else nm i j) piv val (-sgn) go capo (.slice p k m) (fun i=>bs (sw k (k+f) i)) (fun i=>caps (sw k (k+f) i)) wr):=
     b.out.congr fun i hi j _=>by unfold ZDS; by_cases e:i=k <;> simp [e]; intro h1; omega
    obtain ⟨vq,V⟩:∃vq,mat (k+f) q=vq:=⟨_,rfl⟩
    have aL:=hid V;rw [V] at x0;clear V;clear E T L Y s A v x1 am e0 e3
    have aN:Hid (∀g,(Value.slice p k m).ownBlock=some g→B≤g):=fun g y=>(P.out.typed.2.2.2 g y).2.2.1
    go_wp2
    obtain ⟨Z,U⟩:∃Z,Z=wr.setCell ⟨R,2,none⟩ (.int .i64 vq):=⟨_,rfl⟩
    have z1:Z.cell? ⟨R,1,none⟩=some (.slice p k m):=by rw [U]; rw [World.cell?_setCell_other]; exact e1; simp
    have z2:Z.cell? ⟨N,0,none⟩=some (.int .i64 q):=by rw [U]; rw [World.cell?_setCell_other]; exact X; simp
    have aH:Hid (Z.ownsRow B 3 1 (.slice p k m) k (ZAB piv)):=by
     rw [U]; exact ownsRow_setCell_other aF.out (fun e=>(P.out.typed.2.2.2 R e).1 rfl) _
    have ar:Z.heap.size=wr.heap.size:=by rw [U]; simp [World.setCell]
    have aa:=hid U;rw [←U];clear U
    obtain ⟨i3,aC,ag,ah,af⟩:∃i,Tryz.prog.info? 3=some i∧i.zero=some (.int .i64 0)∧i.size=1∧i.bytes=8:=⟨_,by rfl,by rfl,by rfl,by rfl⟩
    have aG:k+1≤maxLen:=by unfold maxLen; omega
    have aI:B≤Z.heap.size:=by omega
    have bt:R < Z.heap.size:=by omega
    have bi:=hid ar
    have aK:Hid (∀w3 O J o,w3.ownsRow B 3 1 (.slice O (k+1) J) (k+1) (ZAB piv ++ [.int .i64 q])→(Z.drew.alloc o).grownBy w3 (Value.slice p k m).ownBlock→((Value.slice O (k+1) J).ownBlock=(Value.slice p k m).ownBlock∨(Value.slice O (k+1) J).ownBlock=some (Z.drew.alloc o).heap.size)→
      RS B R n c (fun i j=>if i=k then mat (k+f) j else nm i j) (piv ++ [(q:Int)]) vq (-sgn) go capo (.slice O (k+1) J) (fun i=>bs (sw k (k+f) i)) (fun i=>caps (sw k (k+f) i)) (w3.setCell ⟨R,1,none⟩ (.slice O (k+1) J))∧w3.cell? ⟨R,1,none⟩=some (.slice p k m)∧w3.frozen? ⟨R,1,none⟩=false∧Below B w w3):=by
     intro w3 O J o ho y D
     have aV:Below B w w3:=by
      have aO:Below B w Z:=by rw [aa.out]; exact S.out.setCell (by exact hBR) _
      have aR:Below B w (Z.drew.alloc o):=aO.drew.alloc (by simpa using aI) _
      exact aR.grown y (by simp; omega) aN.out
     rw [aa.out] at y D
     have:=P.out.last (q:=q) (v':=vq) (w3:=w3) (o:=o) (by rw [←az.out]; exact ho) (by
      exact ⟨y.os,y.tape,y.output,y.size,y.block⟩) (by rcases D with e | e; exact Or.inl e; exact Or.inr (Or.inr e))
     exact ⟨this.1,this.2.1,this.2.2,aV⟩
    clear ar
    go_region_law (refine ZBm (by rfl) _ _ 22 (by rfl) B 3 i3 (.int .i64 0) 1 8 Tryz.underlying22 aC ag ah af rfl (by decide) _ _ _ (by rfl) (aH.out.drew.alloc _) ⟨Z.heap.size,0,none⟩ 1 1 [.int .i64 q] (by rfl) rfl (ZAQ _ _ _) (ZA2 _) aG (by omega) (by simp; omega) ?_; intro v' w3 ho y D; obtain ⟨O,J,aU⟩:=ZAD ho; subst aU; have FF:Hid _:=aK.out w3 O J _ ho y D; have bk:=FF.out.2.1; have bp:=FF.out.2.2.1)
    all_goals (go_wp2; go_end0; exact ⟨rfl,⟨_,_,_,by have h:=FF.out.1; rw [←aL.out] at h; first | exact h | (rw [if_neg aZ.out]; exact h)⟩,FF.out.2.2.2.setCell (by exact hBR) _⟩)
end Go.Proofs.YtgfnmkenpgnllaaGreat
