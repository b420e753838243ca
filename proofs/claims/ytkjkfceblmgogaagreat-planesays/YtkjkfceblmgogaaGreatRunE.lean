import Derived.Test.YtkjkfceblmgogaaGreatRunA
set_option maxRecDepth 100000
set_option maxHeartbeats 4000000
namespace Go.Proofs.YtkjkfceblmgogaaGreat
open Go.RowKit
theorem ZBo{P:Program}{ops:Array Oper}{o:Oper}{a:Act}{w:World}{K:Act→World→Prop}{Q:Exit→Act→World→Prop}{E:Prop}
 (hg:o.guard=none)(s x:Operand)(t:TypeId)(hop:o.op=Op.call { callee:=Callee.builtin Builtin.append,args:=#[s,x],argTypes:=#[t,t] })
 (base:Nat)(e:TypeId)(i:TypeInfo)(z:Value)(size bytes:Nat)(h1:P.underlying t=some (.slice e))(h2:P.info? e=some i)(h3:i.zero=some z)(h4:i.size=size)(h5:i.bytes=bytes)(h6:z.cells.size=size)(h7:0 < size)
 (v:Value)(n:Nat)(xs:List Value)(hs:a.eval s=v)(hown:w.ownsRow base e size v n xs)
 (ad:Addr)(m c:Nat)(news:List Value)(hx:a.eval x=.slice (some ad) m c)(hn:news.length=m*size)(hc:∀j u,news[j]?=some u→w.cell? (ad.add j)=some u)(h1c:∀u∈news,u.oneCell'=true)
 (b1:n+m≤maxLen)(b2:(n+m)*bytes≤140737488355328)(hb:base≤w.heap.size)
 (hK:∀v' w',w'.ownsRow base e size v' (n+m) (xs ++ news)→w.grownBy w' v.ownBlock→(v'.ownBlock=v.ownBlock∨v'.ownBlock=some w.heap.size)→K (a.put o.dst v') w') :
  if Region.wanted o (yielded ops a.tmps)=true then Oper.wp P o a w K Q else E:=by
 have f:Region.wanted o (yielded ops a.tmps)=true:=by simp [Region.wanted,hg]
 rw [if_pos f];obtain ⟨v',w',b,l,d,_,g⟩:=run_append_own_at (P:=P) w base t o.type e i z size bytes h1 h2 h3 h4 h5 h6 h7 v n xs hown ad m c news hn hc h1c b1 b2 hb;unfold Oper.wp;simp [execOp,hop,resolve,invoke,builtin,hs,hx,b,Result.andThen];exact hK v' w' l d g
theorem RS.congr{B R n c:Nat}{mat mat':Nat→Nat→Int}{piv:List Int}{val sgn:Int}{go capo:Nat}{pv:Value}{bs caps:Nat→Nat}{w:World}(h:RS B R n c mat piv val sgn go capo pv bs caps w)(he:∀i,i < n→∀j,j < c→mat i j=mat' i j) :
  RS B R n c mat' piv val sgn go capo pv bs caps w:=by
 refine ⟨h.st,h.out,fun i hi=>?_,h.inj,h.piv,h.off⟩
 have e:(List.range c).map (mat' i)=(List.range c).map (mat i):=List.map_congr_left fun j hj=>(he i hi j (by simpa using hj)).symm
 rw [e]; exact h.row i hi
theorem RS.typed{B R n c:Nat}{mat:Nat→Nat→Int}{piv:List Int}{val sgn:Int}{go capo:Nat}{pv:Value}{bs caps:Nat→Nat}{w:World}(h:RS B R n c mat piv val sgn go capo pv bs caps w) :
  go≠R∧(∀i,i < n→bs i≠go∧bs i≠R∧bs i < w.heap.size∧B≤bs i)∧B≤go∧(∀g,pv.ownBlock=some g→g≠R∧g≠go∧B≤g∧g < w.heap.size):=by
 have r:∃l,w.heap[go]?=some (.cells l 27 (0,0))∧B≤go:=by
  obtain ⟨_,a⟩:=h.out
  rcases a with ⟨a,_⟩ | ⟨g,cap,l,a,m,hh,_⟩
  ·simp at a
  ·simp only [Za3,Zaa9,Addr.mk.injEq,and_true,true_and] at a
   obtain ⟨rfl,_⟩:=a;exact ⟨l,hh,m⟩
 obtain ⟨l,d,p⟩:=r;have o:=h.st
 have j:∀b f,w.heap[b]?=some (.cells f 3 (0,0))→b≠go∧b≠R:=by
  intro b f m
  constructor
  ·rintro rfl; rw [m] at d; simp at d
  ·rintro rfl; rw [m] at o; simp at o
 refine ⟨by rintro rfl; rw [o] at d; simp at d,fun i hi=>?_,p,fun g hg=>?_⟩
 ·obtain ⟨_,a⟩:=h.row i hi
  rcases a with ⟨a,_⟩ | ⟨g,cap,f,a,m,hh,_⟩
  ·simp at a
  ·simp only [Za3,Zaa9,Addr.mk.injEq,and_true,true_and] at a
   obtain ⟨s,_⟩:=a;rw [←s] at hh m;exact ⟨(j _ _ hh).1,(j _ _ hh).2,lt_of_block hh,m⟩
 ·obtain ⟨_,a⟩:=h.piv
  rcases a with ⟨a,_⟩ | ⟨g',cap,f,a,m,hh,_⟩
  ·rw [a] at hg; simp [Value.ownBlock] at hg
  ·rw [a] at hg
   simp [Value.ownBlock] at hg;subst hg;exact ⟨(j _ _ hh).2,(j _ _ hh).1,m,lt_of_block hh⟩
theorem RS.clear{B R n c i:Nat}{mat:Nat→Nat→Int}{piv:List Int}{val sgn:Int}{go capo:Nat}{pv:Value}{bs caps:Nat→Nat}{w w':World}{r':Nat→Int}(h:RS B R n c mat piv val sgn go capo pv bs caps w)(hi:i < n)(ht:Touch (bs i) w w')
 (ho:w'.ownsRow B 3 1 (.slice (some ⟨bs i,0,none⟩) c (caps i)) c (ZAB ((List.range c).map r'))):RS B R n c (fun a j=>if a=i then r' j else mat a j) piv val sgn go capo pv bs caps w':=by
 obtain ⟨d,b,g,f⟩:=h.typed
 refine ⟨(ht.block R (b i hi).2.1.symm).trans h.st,ht.owns h.out (by simp [Value.ownBlock]; exact (b i hi).1.symm),fun a ha=>?_,h.inj,ht.owns h.piv (fun e=>h.off _ e i hi rfl),h.off⟩
 by_cases e:a=i
 ·subst e
  have:(List.range c).map (fun j=>if a=a then r' j else mat a j)=(List.range c).map r':=by simp
  show w'.ownsRow B 3 1 (.slice (some ⟨bs a,0,none⟩) c (caps a)) c (ZAB ((List.range c).map (fun j=>if a=a then r' j else mat a j)))
  rw [this]; exact ho
 ·have:(List.range c).map (fun j=>if a=i then r' j else mat a j)=(List.range c).map (mat a):=by simp [e]
  show w'.ownsRow B 3 1 (.slice (some ⟨bs a,0,none⟩) c (caps a)) c (ZAB ((List.range c).map (fun j=>if a=i then r' j else mat a j)))
  rw [this]
  exact ht.owns (h.row a ha) (by simp [Value.ownBlock]; exact h.inj a i ha hi e)
theorem RS.last{B R n c q:Nat}{mat:Nat→Nat→Int}{piv:List Int}{val sgn v':Int}{go capo:Nat}{pv pv':Value}{bs caps:Nat→Nat}{w w3:World}{o:Obj}(h:RS B R n c mat piv val sgn go capo pv bs caps w)
 (ho:w3.ownsRow B 3 1 pv' (piv.length+1) (ZAB piv ++ [.int .i64 q]))(hg:((w.setCell ⟨R,2,none⟩ (.int .i64 v')).alloc o).grownBy w3 pv.ownBlock)(hat:pv'.ownBlock=pv.ownBlock∨pv'.ownBlock=some (w.heap.size+1)∨pv'.ownBlock=some ((w.setCell ⟨R,2,none⟩ (.int .i64 v')).alloc o).heap.size) :
  RS B R n c mat (piv ++ [(q:Int)]) v' sgn go capo pv' bs caps (w3.setCell ⟨R,1,none⟩ pv')∧w3.cell? ⟨R,1,none⟩=some pv∧w3.frozen? ⟨R,1,none⟩=false:=by
 obtain ⟨N,v,P,z⟩:=h.typed;have p:=lt_of_block h.st
 have s:((w.setCell ⟨R,2,none⟩ (.int .i64 v')).alloc o).heap.size=w.heap.size+1:=by simp [World.setCell]
 have G:∀b,b < w.heap.size→b≠R→pv.ownBlock≠some b→w3.heap[b]?=w.heap[b]?:=by
  intro b x A y
  rw [hg.block b (by omega) (fun e=>y e.symm),Below.heap_alloc _ _ _ (by simp [World.setCell]; exact x),Below.heap_setCell _ _ _ _ A]
 have j:w3.heap[R]?=some (.cells #[.slice (some ⟨go,0,none⟩) n capo,pv,.int .i64 v',.int .i64 sgn] 109 (0,0)):=by
  rw [hg.block R (by omega) (fun e=>(z R e.symm).1 rfl),Below.heap_alloc _ _ _ (by simp [World.setCell]; exact p)]
  simp [World.setCell,Array.getElem?_modify,h.st]
 have f:go < w.heap.size:=by
  have:=(h.out.lt go (by simp [Value.ownBlock])).2; exact this
 have r:pv'.ownBlock≠some R:=by
  rcases hat with e | e | e
  ·rw [e]; intro O; exact (z R O).1 rfl
  ·rw [e]; simp; omega
  ·rw [e,s]; simp; omega
 have d:∀{e:TypeId} {g m t:Nat} {D:List Value},w.ownsRow B e 1 (.slice (some ⟨g,0,none⟩) m t) m D→g < w.heap.size→g≠R→pv.ownBlock≠some g→(w3.setCell ⟨R,1,none⟩ pv').ownsRow B e 1 (.slice (some ⟨g,0,none⟩) m t) m D:=by
  intro e g m t D hv J F L;obtain ⟨M,l⟩:=hv;refine ⟨M,?_⟩
  rcases l with ⟨l,_⟩ | ⟨g',cap,cur,l,r1,r2,r3⟩
  ·simp at l
  ·simp only [Za3,Zaa9,Addr.mk.injEq,and_true,true_and] at l
   obtain ⟨rfl,rfl⟩:=l
   exact Or.inr ⟨g,t,cur,rfl,r1,by rw [Below.heap_setCell _ _ _ _ F,G g J F L]; exact r2,r3⟩
 refine ⟨⟨?_,d h.out f N (fun e=>(z go e).2.1 rfl),fun i hi=>d (h.row i hi) (v i hi).2.2.1 (v i hi).2.1 (fun e=>h.off _ e i hi rfl),h.inj,?_,fun g hg2 i hi=>?_⟩,by simp [World.cell?,j],by simp [World.frozen?,j]⟩
 ·simp [World.setCell,Array.getElem?_modify,j]
 ·have E:=ownsRow_setCell_other ho (a:=⟨R,1,none⟩) r pv'
  rw [ZDz] at E
  have e:(piv ++ [(q:Int)]).length=piv.length+1:=by simp
  rw [e]; exact E
 ·rcases hat with e | e | e
  ·rw [e] at hg2; exact h.off g hg2 i hi
  ·rw [e] at hg2; simp at hg2; have:=(v i hi).2.2.1; omega
  ·rw [e,s] at hg2; simp at hg2; have:=(v i hi).2.2.1; omega
end Go.Proofs.YtkjkfceblmgogaaGreat
namespace Go.Proofs.YtkjkfceblmgogaaGreat
open Go.RowKit
attribute [local go_sem ↓] Go.wp_at_zero Go.wp_at_succ
theorem RS.same{B R n c k:Nat}{mat:Nat→Nat→Int}{piv:List Int}{val sgn:Int}{go capo:Nat}{pv:Value}{bs caps:Nat→Nat}{w:World}(h:RS B R n c mat piv val sgn go capo pv bs caps w) :
  RS B R n c (fun i j=>mat (sw k k i) j) piv val sgn go capo pv (fun i=>bs (sw k k i)) (fun i=>caps (sw k k i)) w:=by
 have a:(fun i j=>mat (sw k k i) j)=mat:=by funext i j; rw [ZFl]
 have b:(fun i=>bs (sw k k i))=bs:=by funext i; rw [ZFl]
 have d:(fun i=>caps (sw k k i))=caps:=by funext i; rw [ZFl]
 rw [a,b,d]; exact h
theorem RS.drew{B R n c:Nat}{mat:Nat→Nat→Int}{piv:List Int}{val sgn:Int}{go capo:Nat}{pv:Value}{bs caps:Nat→Nat}{w:World}(h:RS B R n c mat piv val sgn go capo pv bs caps w) :
  RS B R n c mat piv val sgn go capo pv bs caps w.drew:=⟨h.st,h.out.drew,fun i hi=>(h.row i hi).drew,h.inj,h.piv.drew,h.off⟩
theorem RS.cells{B R n c:Nat}{mat:Nat→Nat→Int}{piv:List Int}{val sgn:Int}{go capo:Nat}{pv:Value}{bs caps:Nat→Nat}{w:World}(h:RS B R n c mat piv val sgn go capo pv bs caps w) :
  w.cell? ⟨R,0,none⟩=some (.slice (some ⟨go,0,none⟩) n capo)∧w.cell? ⟨R,1,none⟩=some pv∧w.cell? ⟨R,2,none⟩=some (.int .i64 val)∧w.cell? ⟨R,3,none⟩=some (.int .i64 sgn)∧
   (∀i,w.frozen? ⟨R,i,none⟩=false)∧(∀i,i < n→w.cell? ⟨go,i,none⟩=some (.slice (some ⟨bs i,0,none⟩) c (caps i)))∧(∀i,w.frozen? ⟨go,i,none⟩=false)∧
   ∀i,i < n→∀j,j < c→w.cell? ⟨bs i,j,none⟩=some (.int .i64 (mat i j)):=by
 have a:=h.st
 refine ⟨by simp [World.cell?,a],by simp [World.cell?,a],by simp [World.cell?,a],by simp [World.cell?,a],fun i=>by simp [World.frozen?,a],fun i hi=>?_,fun i=>h.out.frozenAt i,fun i hi j hj=>?_⟩
 ·rw [h.out.cellAt i (by omega)]; simp [hi]
 ·rw [(h.row i hi).cellAt j (by omega),ZAZ _ _ (by simpa using hj)]; simp [hj]
def ZDR(k i0 t:Nat)(mat nm:Nat→Nat→Int):Nat→Nat→Int:=fun a j=>if a=k then mat i0 j else if a < t then nm a j else mat (sw k i0 a) j
theorem ZGb{k i0 t:Nat}{mat nm:Nat→Nat→Int}(h:t≠k)(i j:Nat):(if i=t then nm t j else ZDR k i0 t mat nm i j)=ZDR k i0 (t+1) mat nm i j:=by
 unfold ZDR; grind
theorem ZJT(B R n c q f:Nat)(mat nm:Nat→Nat→Int)(piv:List Int)(val sgn:Int)(go capo:Nat)(pv:Value)(bs caps:Nat→Nat)(w:World)(h:RS B R n c mat piv val sgn go capo pv bs caps w)(hB:B≤w.heap.size)(hBR:B≤R)
 (hn:n≤500)(hk:piv.length+f < n)(hq:q < c)(hz:∀i,piv.length≤i→i < piv.length+f→mat i q=0)(hne:mat (piv.length+f) q≠0)(hval:val≠0)(hsgn:sgn=1∨sgn=-1)
 (he:∀i,i < n→i≠piv.length→∀j,j < c→mat (piv.length+f) q*mat (sw piv.length (piv.length+f) i) j-mat (sw piv.length (piv.length+f) i) q*mat (piv.length+f) j=val*nm i j)
 (hb:∀i,i < n→i≠piv.length→∀j,j < c→(val*nm i j).natAbs≤9223372036854775807∧(nm i j).natAbs≤9223372036854775807) :
  Calls Tryz.prog 110 #[.pointer (some ⟨R,0,none⟩),.int .i64 q] w fun e w'=>e=.returned (.tuple #[])∧
   (∃pv' bs' caps',RS B R n c (fun i j=>if i=piv.length then mat (piv.length+f) j else nm i j) (piv ++ [(q:Int)]) (mat (piv.length+f) q) (if f=0 then sgn else -sgn) go capo pv' bs' caps' w')∧Below B w w':=by
 obtain ⟨p,m,bt⟩:=ZAE h.piv;subst bt;have HR:=hid h;have HE:=hid he;have aH:=hid hb;have HF:Hid (ZD9 ((ZAl n c mat).drop piv.length) q=f):=ZKS hq hk hz hne
 have bJ:n≤capo∧capo≤9223372036854775807:=by
  obtain ⟨_,h2⟩:=h.out
  rcases h2 with ⟨h,_⟩ | ⟨k,cp,cur,h,_,_,h3,h4,_⟩
  ·simp at h
  ·simp only [Za3] at h; unfold maxLen at h4; omega
 obtain ⟨h0,h1,_,_,_,_,_,_⟩:=h.cells;have bz:=lt_of_block h.st
 have HT:Hid (RS B R n c mat piv val sgn go capo (.slice p piv.length m) bs caps w→True):=fun _=>trivial
 have bh:Hid (piv.length=piv.length):=rfl
 obtain ⟨k,aU⟩:∃k,k=piv.length:=⟨_,rfl⟩
 have aw:=hid aU;rw [←aU] at HR HE aH HF h1 hk ⊢;have az:Hid (Below w.heap.size w (w.alloc (.cells #[.int .i64 q] 3))):=(Below.refl _ _).alloc (Za4 _) _
 have l:k < n:=by omega
 have bE:k < capo:=by omega
 clear h hz hne he hb aU HT bh;go_enter Tryz.func110,Tryz.ntmps110
 go_wp2_with fail
 refine (ZCJ B q _ _ ⟨w.heap.size,0,none⟩ _ ((HR.out.tail k l).below az.out (Za4 _)) (ZIh hq) (by simp)).mono ?_
 rintro e W ⟨rfl,hW⟩;rw [HF.out]
 obtain ⟨N,hN⟩:∃N,N=w.heap.size:=⟨_,rfl⟩
 have J:Hid (RS B R n c mat piv val sgn go capo (.slice p k m) bs caps W):=by rw [hW]; exact HR.out.below az.out (Za4 _)
 have ay:Hid (Below B w W):=by rw [hW]; exact az.out.mono hB
 have aq:Hid (W.cell? ⟨N,0,none⟩=some (.int .i64 q)∧N < W.heap.size):=by rw [hW,hN]; exact ⟨by simp,by simp⟩
 have aW:Hid (∀i,i < n→bs i≠N):=by
  rw [hN]; intro i hi; have:=(HR.out.typed.2.1 i hi).2.2.1; omega
 have bI:N≠R:=by omega
 have bu:N≠go:=by
  have:=(HR.out.out.lt go (by simp [Value.ownBlock])).2; omega
 have bH:B≤N:=by omega
 rw [←hN];clear hW hN az HR;obtain ⟨c0,c1,c2,c3,aZ,aG,ak,bp⟩:=J.out.cells;have aX:=J.out.typed.1;have aB:=J.out.typed.2.2.1;have d0:=aG k l;have d1:=aG (k+f) hk;have f0:=ak k;have f1:=ak (k+f);have f2:=aZ 3;clear aZ aG ak bp
 have bG:decide ((f:Int) < 0)=false:=decide_eq_false (by omega)
 by_cases hf0:f=0
 ·subst hf0
  have aV:Hid (RS B R n c (fun i j=>mat (sw k k i) j) piv val sgn go capo (.slice p k m) (fun i=>bs (sw k k i)) (fun i=>caps (sw k k i)) W):=J.out.same
  have aD:Hid (Below B w W):=ay.out;have aj:Hid (W.cell? ⟨N,0,none⟩=some (.int .i64 q)∧N < W.heap.size):=aq.out;clear J ay aq;go_wp2
  go_loopw [76,7,8] (fun i _ _ wr=>∃t:Nat,t≤n∧i=.int .i64 t∧RS B R n c (ZDR k k t mat nm) piv val sgn go capo (.slice p k m) (fun i=>bs (sw k k i)) (fun i=>caps (sw k k i)) wr∧Below B w wr∧wr.cell? ⟨N,0,none⟩=some (.int .i64 q)∧N < wr.heap.size) (fun i _ _ _=>n-(intOf i).toNat)
  case atStart=>exact ⟨0,Za5 _,rfl,aV.out.congr (fun i _ j _=>by unfold ZDR; by_cases e:i=k <;> simp [e,sw]),aD.out,aj.out.1,aj.out.2⟩
  case round=>
   obtain ⟨t,ht,rfl,z,A,P,am⟩:=hrel;obtain ⟨e0,e1,e2,e3,E,X,M,T⟩:=z.cells;have b:=hid z;have S:=hid A;have bg:R < wr.heap.size:=lt_of_block z.st
   by_cases htn:t < n
   ·have g0:=X t htn
    clear E X M T z A e1 e3
    by_cases htk:t=k
    ·have aN:((t:Int) != (k:Int))=false:=by rw [bne_eq_false_iff_eq]; omega
     have Q:=hid htk;clear htk;go_wp2
     go_roundw
     case rel=>exact ⟨t+1,by omega,by go_num,b.out.congr (fun i _ j _=>by have:=Q.out; unfold ZDR; by_cases e:i=k <;> simp [e]; by_cases e2:i < t <;> simp [e2,show (i < t+1)=(i < t) by simp; omega]),S.out,P,am⟩
     case measure=>simp [intOf]; omega
    ·have aN:((t:Int) != (k:Int))=true:=by rw [bne_iff_ne]; omega
     have Q:=hid htk;have s:=b.out.row t htn;have d:=b.out.row k l;have r:=b.out.inj k t l htn (Ne.symm htk);have aR:bs (sw k k t)≠N:=aW.out _ (ZFk l l htn);have ah:bs (sw k k t)≠R:=(b.out.typed.2.1 t htn).2.1;have bj:B≤bs (sw k k t):=(b.out.typed.2.1 t htn).2.2.2
     have ae:Hid (Calls Tryz.prog 133 #[.slice (some ⟨bs (sw k k t),0,none⟩) c (caps (sw k k t)),.slice (some ⟨bs k,0,none⟩) c (caps k),.int .i64 q,.int .i64 val] wr.drew fun e w'=>
       e=.returned (.tuple #[])∧w'.ownsRow B 3 1 (.slice (some ⟨bs (sw k k t),0,none⟩) c (caps (sw k k t))) c (ZAB ((List.range c).map (nm t)))∧Touch (bs (sw k k t)) wr w'):=by
      have v:sw k k k=k:=by unfold sw; simp
      have er:(List.range c).map (ZDR k k t mat nm t)=(List.range c).map (mat (sw k k t)):=by
       refine List.map_congr_left fun j _=>?_
       unfold ZDR; rw [if_neg htk,if_neg (by omega)]
      have ep:(List.range c).map (ZDR k k t mat nm k)=(List.range c).map (mat k):=by
       refine List.map_congr_left fun j _=>?_
       unfold ZDR; rw [if_pos rfl]
      rw [er] at s;rw [ep] at d;simp only [v] at d r
      have gd:∀(g:Nat→Int) j,j < c→((List.range c).map g).getD j 0=g j:=by intro g j G; simp [G]
      have aI:=ZGZ B (bs (sw k k t)) (bs k) c (caps (sw k k t)) (caps k) q _ _ ((List.range c).map (nm t)) val wr.drew s.drew d.drew r hq hval (by simp) (by simp) (by simp)
       (fun j G=>by rw [gd _ _ hq,gd _ _ hq,gd _ _ G,gd _ _ G,gd _ _ G]; exact HE.out t htn htk j G) (fun j G=>by rw [gd _ _ G]; exact aH.out t htn htk j G)
      exact aI.mono fun e w' ⟨h1,h2,h3⟩=>⟨h1,h2,⟨h3.os,h3.tape,h3.output,h3.size,h3.block⟩⟩
     clear s d r htk;go_wp2
     go_region_held3 (fun w'=>w'.cell? ⟨N,0,none⟩=some (.int .i64 q)∧w'.cell? ⟨R,2,none⟩=some (.int .i64 val)) (first | go_keep | exact KS.out)
      ((go_at_call 133; refine (ae.out).mono ?_; rintro e w2 ⟨rfl,af,a⟩; have KS:Hid (w2.cell? ⟨N,0,none⟩=some (.int .i64 q)∧w2.cell? ⟨R,2,none⟩=some (.int .i64 val)):=⟨(a.cell aR.symm).trans P,(a.cell ah.symm).trans e2⟩))
     have S1:Hid (RS B R n c (ZDR k k (t+1) mat nm) piv val sgn go capo (.slice p k m) (fun i=>bs (sw k k i)) (fun i=>caps (sw k k i)) w2):=by
      exact (b.out.clear (i:=t) htn a af).congr fun i _ j _=>ZGb Q.out i j
     have S2:Hid (Below B w w2):=S.out.trans ⟨a.os,a.tape,a.output,by rw [a.size]; exact Za4 _,fun x hx=>a.block x (by omega)⟩
     have S3:=KS.out.1
     have S4:N < w2.heap.size:=by rw [a.size]; exact am
     clear af a KS ae;go_wp2
     go_roundw
     case rel=>exact ⟨t+1,by omega,by go_num,S1.out,S2.out,S3,S4⟩
     case measure=>simp [intOf]; omega
   ·have ai:t=n:=by omega
    have v:sw k k k=k:=by unfold sw; simp
    have x0:=T k l q hq;have f3:=E 2;have f4:=E 1;simp only [v] at x0
    have x1:ZDR k k t mat nm k q=mat k q:=by unfold ZDR; rw [if_pos rfl]
    rw [x1] at x0
    have aM:Hid (wr.ownsRow B 3 1 (.slice p k m) k (ZAB piv)):=by have:=b.out.piv; rw [←aw.out] at this; exact this
    have ah:bs k≠R:=by have:=(b.out.typed.2.1 k l).2.1; simpa only [v] using this
    have U:Hid (RS B R n c (fun i j=>if i=k then mat k j else nm i j) piv val sgn go capo (.slice p k m) (fun i=>bs (sw k k i)) (fun i=>caps (sw k k i)) wr):=
     b.out.congr fun i hi j _=>by unfold ZDR; by_cases e:i=k <;> simp [e]; intro h1; omega
    obtain ⟨vq,Y⟩:∃vq,mat k q=vq:=⟨_,rfl⟩
    have aT:=hid Y;rw [Y] at x0;clear Y;clear E X M T z A v x1 ai e0 e3
    have aK:Hid (∀g,(Value.slice p k m).ownBlock=some g→B≤g):=fun g y=>(U.out.typed.2.2.2 g y).2.2.1
    go_wp2
    obtain ⟨Z,V⟩:∃Z,Z=wr.setCell ⟨R,2,none⟩ (.int .i64 vq):=⟨_,rfl⟩
    have z1:Z.cell? ⟨R,1,none⟩=some (.slice p k m):=by rw [V]; rw [World.cell?_setCell_other]; exact e1; simp
    have z2:Z.cell? ⟨N,0,none⟩=some (.int .i64 q):=by rw [V]; rw [World.cell?_setCell_other]; exact P; simp
    have aJ:Hid (Z.ownsRow B 3 1 (.slice p k m) k (ZAB piv)):=by
     rw [V]; exact ownsRow_setCell_other aM.out (fun e=>(U.out.typed.2.2.2 R e).1 rfl) _
    have an:Z.heap.size=wr.heap.size:=by rw [V]; simp [World.setCell]
    have ag:=hid V;rw [←V];clear V
    obtain ⟨i3,aS,ar,aa,au⟩:∃i,Tryz.prog.info? 3=some i∧i.zero=some (.int .i64 0)∧i.size=1∧i.bytes=8:=⟨_,by rfl,by rfl,by rfl,by rfl⟩
    have aC:k+1≤maxLen:=by unfold maxLen; omega
    have aE:B≤Z.heap.size:=by omega
    have bi:R < Z.heap.size:=by omega
    have bk:=hid an
    have aO:Hid (∀w3 O L o,w3.ownsRow B 3 1 (.slice O (k+1) L) (k+1) (ZAB piv ++ [.int .i64 q])→(Z.drew.alloc o).grownBy w3 (Value.slice p k m).ownBlock→((Value.slice O (k+1) L).ownBlock=(Value.slice p k m).ownBlock∨(Value.slice O (k+1) L).ownBlock=some (Z.drew.alloc o).heap.size)→
      RS B R n c (fun i j=>if i=k then mat k j else nm i j) (piv ++ [(q:Int)]) vq sgn go capo (.slice O (k+1) L) (fun i=>bs (sw k k i)) (fun i=>caps (sw k k i)) (w3.setCell ⟨R,1,none⟩ (.slice O (k+1) L))∧w3.cell? ⟨R,1,none⟩=some (.slice p k m)∧w3.frozen? ⟨R,1,none⟩=false∧Below B w w3):=by
     intro w3 O L o ho y F
     have aP:Below B w w3:=by
      have aL:Below B w Z:=by rw [ag.out]; exact S.out.setCell (by exact hBR) _
      have aF:Below B w (Z.drew.alloc o):=aL.drew.alloc (by simpa using aE) _
      exact aF.grown y (by simp; omega) aK.out
     rw [ag.out] at y F
     have:=U.out.last (q:=q) (v':=vq) (w3:=w3) (o:=o) (by rw [←aw.out]; exact ho) (by
      exact ⟨y.os,y.tape,y.output,y.size,y.block⟩) (by rcases F with e | e; exact Or.inl e; exact Or.inr (Or.inr e))
     exact ⟨this.1,this.2.1,this.2.2,aP⟩
    clear an
    go_region_law (refine ZBo (by rfl) _ _ 27 (by rfl) B 3 i3 (.int .i64 0) 1 8 Tryz.underlying27 aS ar aa au rfl (by decide) _ _ _ (by rfl) (aJ.out.drew.alloc _) ⟨Z.heap.size,0,none⟩ 1 1 [.int .i64 q] (by rfl) rfl (ZAS _ _ _) (ZA6 _) aC (by omega) (by simp; omega) ?_; intro v' w3 ho y F; obtain ⟨O,L,aQ⟩:=ZAE ho; subst aQ; have FF:Hid _:=aO.out w3 O L _ ho y F; have bl:=FF.out.2.1; have bq:=FF.out.2.2.1)
    all_goals (go_wp2; go_end0; exact ⟨rfl,⟨_,_,_,by have h:=FF.out.1; rw [←aT.out] at h; first | exact h | (rw [if_neg aY.out]; exact h)⟩,FF.out.2.2.2.setCell (by exact hBR) _⟩)
 ·have bB:(0:Int) < (f:Int):=by omega
  have bF:decide (0 < f)=true:=decide_eq_true (by omega)
  have bA:(0:Int)≤(k:Int):=by omega
  have bv:(k:Int) < (n:Int):=by omega
  have bw:(k:Int)+(f:Int) < (n:Int):=by omega
  have bD:R≠go:=Ne.symm aX;have aY:=hid hf0
  have aA:Hid (RS B R n c (fun i j=>mat (sw k (k+f) i) j) piv val (-sgn) go capo (.slice p k m) (fun i=>bs (sw k (k+f) i)) (fun i=>caps (sw k (k+f) i))
   (((W.setCell ⟨go,k,none⟩ (.slice (some ⟨bs (k+f),0,none⟩) c (caps (k+f)))).setCell ⟨go,k+f,none⟩ (.slice (some ⟨bs k,0,none⟩) c (caps k))).setCell ⟨R,3,none⟩ (.int .i64 (-sgn)))):=J.out.swap l hk (by omega) (-sgn)
  clear hf0;go_wp2
  go_region
  obtain ⟨W2,D⟩:∃W2,W2=(W.setCell ⟨go,k,none⟩ (.slice (some ⟨bs (k+f),0,none⟩) c (caps (k+f)))).setCell ⟨go,k+f,none⟩ (.slice (some ⟨bs k,0,none⟩) c (caps k)):=⟨_,rfl⟩
  rw [←D]
  have y3:W2.cell? ⟨R,3,none⟩=some (.int .i64 sgn):=by rw [D,World.cell?_setCell_other,World.cell?_setCell_other]; exact c3; simp; simp
  have yf:W2.frozen? ⟨R,3,none⟩=false:=by rw [D]; simpa [World.frozen?_setCell] using f2
  have bC:=(J.out.out.lt go (by simp [Value.ownBlock])).2
  have y0:W2.cell? ⟨R,0,none⟩=some (.slice (some ⟨go,0,none⟩) n capo):=by rw [D,World.cell?_setCell_other,World.cell?_setCell_other]; exact c0; simp; simp
  have yk:W2.cell? ⟨go,k,none⟩=some (.slice (some ⟨bs (k+f),0,none⟩) c (caps (k+f))):=by
   rw [D,World.cell?_setCell_other]
   ·exact World.cell?_setCell_same _ _ _ d0
   ·simp
  have aV:Hid (RS B R n c (fun i j=>mat (sw k (k+f) i) j) piv val (-sgn) go capo (.slice p k m) (fun i=>bs (sw k (k+f) i)) (fun i=>caps (sw k (k+f) i)) (W2.setCell ⟨R,3,none⟩ (.int .i64 (-sgn))).drew):=by
   rw [D]; exact aA.out.drew
  have aD:Hid (Below B w (W2.setCell ⟨R,3,none⟩ (.int .i64 (-sgn))).drew):=by
   rw [D]; exact (((ay.out.setCell (by exact aB) _).setCell (by exact aB) _).setCell (by exact hBR) _).drew
  have aj:Hid ((W2.setCell ⟨R,3,none⟩ (.int .i64 (-sgn))).drew.cell? ⟨N,0,none⟩=some (.int .i64 q)∧N < (W2.setCell ⟨R,3,none⟩ (.int .i64 (-sgn))).drew.heap.size):=by
   show (W2.setCell ⟨R,3,none⟩ (.int .i64 (-sgn))).cell? ⟨N,0,none⟩=some (.int .i64 q)∧N < (W2.setCell ⟨R,3,none⟩ (.int .i64 (-sgn))).heap.size
   rw [D,World.cell?_setCell_other,World.cell?_setCell_other,World.cell?_setCell_other]
   ·exact ⟨aq.out.1,by simp [World.setCell]; exact aq.out.2⟩
   ·simp
   ·simp
   ·simp
  clear D aA J ay aq c0 c1 c2 c3 d0 d1 f0 f1 f2;go_wp2
  go_loopw [76,7,8] (fun i _ _ wr=>∃t:Nat,t≤n∧i=.int .i64 t∧RS B R n c (ZDR k (k+f) t mat nm) piv val (-sgn) go capo (.slice p k m) (fun i=>bs (sw k (k+f) i)) (fun i=>caps (sw k (k+f) i)) wr∧Below B w wr∧wr.cell? ⟨N,0,none⟩=some (.int .i64 q)∧N < wr.heap.size) (fun i _ _ _=>n-(intOf i).toNat)
  case atStart=>exact ⟨0,Za5 _,rfl,aV.out.congr (fun i _ j _=>by unfold ZDR; by_cases e:i=k <;> simp [e,sw]),aD.out,aj.out.1,aj.out.2⟩
  case round=>
   obtain ⟨t,ht,rfl,z,A,P,am⟩:=hrel;obtain ⟨e0,e1,e2,e3,E,X,M,T⟩:=z.cells;have b:=hid z;have S:=hid A;have bg:R < wr.heap.size:=lt_of_block z.st
   by_cases htn:t < n
   ·have g0:=X t htn
    clear E X M T z A e1 e3
    by_cases htk:t=k
    ·have aN:((t:Int) != (k:Int))=false:=by rw [bne_eq_false_iff_eq]; omega
     have Q:=hid htk;clear htk;go_wp2
     go_roundw
     case rel=>exact ⟨t+1,by omega,by go_num,b.out.congr (fun i _ j _=>by have:=Q.out; unfold ZDR; by_cases e:i=k <;> simp [e]; by_cases e2:i < t <;> simp [e2,show (i < t+1)=(i < t) by simp; omega]),S.out,P,am⟩
     case measure=>simp [intOf]; omega
    ·have aN:((t:Int) != (k:Int))=true:=by rw [bne_iff_ne]; omega
     have Q:=hid htk;have s:=b.out.row t htn;have d:=b.out.row k l;have r:=b.out.inj k t l htn (Ne.symm htk);have aR:bs (sw k (k+f) t)≠N:=aW.out _ (ZFk l hk htn);have ah:bs (sw k (k+f) t)≠R:=(b.out.typed.2.1 t htn).2.1;have bj:B≤bs (sw k (k+f) t):=(b.out.typed.2.1 t htn).2.2.2
     have ae:Hid (Calls Tryz.prog 133 #[.slice (some ⟨bs (sw k (k+f) t),0,none⟩) c (caps (sw k (k+f) t)),.slice (some ⟨bs (k+f),0,none⟩) c (caps (k+f)),.int .i64 q,.int .i64 val] wr.drew fun e w'=>
       e=.returned (.tuple #[])∧w'.ownsRow B 3 1 (.slice (some ⟨bs (sw k (k+f) t),0,none⟩) c (caps (sw k (k+f) t))) c (ZAB ((List.range c).map (nm t)))∧Touch (bs (sw k (k+f) t)) wr w'):=by
      have v:sw k (k+f) k=(k+f):=by unfold sw; simp
      have er:(List.range c).map (ZDR k (k+f) t mat nm t)=(List.range c).map (mat (sw k (k+f) t)):=by
       refine List.map_congr_left fun j _=>?_
       unfold ZDR; rw [if_neg htk,if_neg (by omega)]
      have ep:(List.range c).map (ZDR k (k+f) t mat nm k)=(List.range c).map (mat (k+f)):=by
       refine List.map_congr_left fun j _=>?_
       unfold ZDR; rw [if_pos rfl]
      rw [er] at s;rw [ep] at d;simp only [v] at d r
      have gd:∀(g:Nat→Int) j,j < c→((List.range c).map g).getD j 0=g j:=by intro g j G; simp [G]
      have aI:=ZGZ B (bs (sw k (k+f) t)) (bs (k+f)) c (caps (sw k (k+f) t)) (caps (k+f)) q _ _ ((List.range c).map (nm t)) val wr.drew s.drew d.drew r hq hval (by simp) (by simp) (by simp)
       (fun j G=>by rw [gd _ _ hq,gd _ _ hq,gd _ _ G,gd _ _ G,gd _ _ G]; exact HE.out t htn htk j G) (fun j G=>by rw [gd _ _ G]; exact aH.out t htn htk j G)
      exact aI.mono fun e w' ⟨h1,h2,h3⟩=>⟨h1,h2,⟨h3.os,h3.tape,h3.output,h3.size,h3.block⟩⟩
     clear s d r htk;go_wp2
     go_region_held3 (fun w'=>w'.cell? ⟨N,0,none⟩=some (.int .i64 q)∧w'.cell? ⟨R,2,none⟩=some (.int .i64 val)) (first | go_keep | exact KS.out)
      ((go_at_call 133; refine (ae.out).mono ?_; rintro e w2 ⟨rfl,af,a⟩; have KS:Hid (w2.cell? ⟨N,0,none⟩=some (.int .i64 q)∧w2.cell? ⟨R,2,none⟩=some (.int .i64 val)):=⟨(a.cell aR.symm).trans P,(a.cell ah.symm).trans e2⟩))
     have S1:Hid (RS B R n c (ZDR k (k+f) (t+1) mat nm) piv val (-sgn) go capo (.slice p k m) (fun i=>bs (sw k (k+f) i)) (fun i=>caps (sw k (k+f) i)) w2):=by
      exact (b.out.clear (i:=t) htn a af).congr fun i _ j _=>ZGb Q.out i j
     have S2:Hid (Below B w w2):=S.out.trans ⟨a.os,a.tape,a.output,by rw [a.size]; exact Za4 _,fun x hx=>a.block x (by omega)⟩
     have S3:=KS.out.1
     have S4:N < w2.heap.size:=by rw [a.size]; exact am
     clear af a KS ae;go_wp2
     go_roundw
     case rel=>exact ⟨t+1,by omega,by go_num,S1.out,S2.out,S3,S4⟩
     case measure=>simp [intOf]; omega
   ·have ai:t=n:=by omega
    have v:sw k (k+f) k=(k+f):=by unfold sw; simp
    have x0:=T k l q hq;have f3:=E 2;have f4:=E 1;simp only [v] at x0
    have x1:ZDR k (k+f) t mat nm k q=mat (k+f) q:=by unfold ZDR; rw [if_pos rfl]
    rw [x1] at x0
    have aM:Hid (wr.ownsRow B 3 1 (.slice p k m) k (ZAB piv)):=by have:=b.out.piv; rw [←aw.out] at this; exact this
    have ah:bs (k+f)≠R:=by have:=(b.out.typed.2.1 k l).2.1; simpa only [v] using this
    have U:Hid (RS B R n c (fun i j=>if i=k then mat (k+f) j else nm i j) piv val (-sgn) go capo (.slice p k m) (fun i=>bs (sw k (k+f) i)) (fun i=>caps (sw k (k+f) i)) wr):=
     b.out.congr fun i hi j _=>by unfold ZDR; by_cases e:i=k <;> simp [e]; intro h1; omega
    obtain ⟨vq,Y⟩:∃vq,mat (k+f) q=vq:=⟨_,rfl⟩
    have aT:=hid Y;rw [Y] at x0;clear Y;clear E X M T z A v x1 ai e0 e3
    have aK:Hid (∀g,(Value.slice p k m).ownBlock=some g→B≤g):=fun g y=>(U.out.typed.2.2.2 g y).2.2.1
    go_wp2
    obtain ⟨Z,V⟩:∃Z,Z=wr.setCell ⟨R,2,none⟩ (.int .i64 vq):=⟨_,rfl⟩
    have z1:Z.cell? ⟨R,1,none⟩=some (.slice p k m):=by rw [V]; rw [World.cell?_setCell_other]; exact e1; simp
    have z2:Z.cell? ⟨N,0,none⟩=some (.int .i64 q):=by rw [V]; rw [World.cell?_setCell_other]; exact P; simp
    have aJ:Hid (Z.ownsRow B 3 1 (.slice p k m) k (ZAB piv)):=by
     rw [V]; exact ownsRow_setCell_other aM.out (fun e=>(U.out.typed.2.2.2 R e).1 rfl) _
    have an:Z.heap.size=wr.heap.size:=by rw [V]; simp [World.setCell]
    have ag:=hid V;rw [←V];clear V
    obtain ⟨i3,aS,ar,aa,au⟩:∃i,Tryz.prog.info? 3=some i∧i.zero=some (.int .i64 0)∧i.size=1∧i.bytes=8:=⟨_,by rfl,by rfl,by rfl,by rfl⟩
    have aC:k+1≤maxLen:=by unfold maxLen; omega
    have aE:B≤Z.heap.size:=by omega
    have bi:R < Z.heap.size:=by omega
    have bk:=hid an
    have aO:Hid (∀w3 O L o,w3.ownsRow B 3 1 (.slice O (k+1) L) (k+1) (ZAB piv ++ [.int .i64 q])→(Z.drew.alloc o).grownBy w3 (Value.slice p k m).ownBlock→((Value.slice O (k+1) L).ownBlock=(Value.slice p k m).ownBlock∨(Value.slice O (k+1) L).ownBlock=some (Z.drew.alloc o).heap.size)→
      RS B R n c (fun i j=>if i=k then mat (k+f) j else nm i j) (piv ++ [(q:Int)]) vq (-sgn) go capo (.slice O (k+1) L) (fun i=>bs (sw k (k+f) i)) (fun i=>caps (sw k (k+f) i)) (w3.setCell ⟨R,1,none⟩ (.slice O (k+1) L))∧w3.cell? ⟨R,1,none⟩=some (.slice p k m)∧w3.frozen? ⟨R,1,none⟩=false∧Below B w w3):=by
     intro w3 O L o ho y F
     have aP:Below B w w3:=by
      have aL:Below B w Z:=by rw [ag.out]; exact S.out.setCell (by exact hBR) _
      have aF:Below B w (Z.drew.alloc o):=aL.drew.alloc (by simpa using aE) _
      exact aF.grown y (by simp; omega) aK.out
     rw [ag.out] at y F
     have:=U.out.last (q:=q) (v':=vq) (w3:=w3) (o:=o) (by rw [←aw.out]; exact ho) (by
      exact ⟨y.os,y.tape,y.output,y.size,y.block⟩) (by rcases F with e | e; exact Or.inl e; exact Or.inr (Or.inr e))
     exact ⟨this.1,this.2.1,this.2.2,aP⟩
    clear an
    go_region_law (refine ZBo (by rfl) _ _ 27 (by rfl) B 3 i3 (.int .i64 0) 1 8 Tryz.underlying27 aS ar aa au rfl (by decide) _ _ _ (by rfl) (aJ.out.drew.alloc _) ⟨Z.heap.size,0,none⟩ 1 1 [.int .i64 q] (by rfl) rfl (ZAS _ _ _) (ZA6 _) aC (by omega) (by simp; omega) ?_; intro v' w3 ho y F; obtain ⟨O,L,aQ⟩:=ZAE ho; subst aQ; have FF:Hid _:=aO.out w3 O L _ ho y F; have bl:=FF.out.2.1; have bq:=FF.out.2.2.1)
    all_goals (go_wp2; go_end0; exact ⟨rfl,⟨_,_,_,by have h:=FF.out.1; rw [←aT.out] at h; first | exact h | (rw [if_neg aY.out]; exact h)⟩,FF.out.2.2.2.setCell (by exact hBR) _⟩)
end Go.Proofs.YtkjkfceblmgogaaGreat
