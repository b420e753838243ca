import Derived.Laws.CopyOwn
import Derived.Test.YtgfnmkenpgnllaaGreatCutA
set_option maxRecDepth 100000
set_option maxHeartbeats 800000
namespace Go.Proofs.YtgfnmkenpgnllaaGreat
open Go.RowKit
theorem ZLQ(B:Nat)(x y:List Int)(u v:Value)(w:World)(hu:Sl B 3 w u (ZAB x))(hv:Sl B 3 w v (ZAB y)) :
  Calls Tryz.prog 48 #[u,v] w fun e w'=>e=.returned (.bool (decide (ZAl x y < 0)))∧∃n,w'=w.drewN n:=by
 obtain ⟨ao,X,t,L,R⟩:=ZAH hu;obtain ⟨S,z,A,J,Q⟩:=ZAH hv;subst t A;have V:=hid hu;have N:Hid (Sl B 3 w (.slice S y.length z) (ZAB y)):=hv;clear hu hv;go_enter Tryz.func48,Tryz.ntmps48;go_wp2
 go_loopw [5] (fun i wr=>∃k:Nat,k≤x.length∧k≤y.length∧i=.int .i64 k∧ZAl x y=ZAl (x.drop k) (y.drop k)∧∃n,wr=w.drewN n) (fun i _=>x.length-(intOf i).toNat)
 case atStart=>exact ⟨0,Za5 _,Za5 _,rfl,rfl,0,rfl⟩
 case round=>
  obtain ⟨k,hk,Y,rfl,g,n,rfl⟩:=hrel;have s:=hid g;clear g
  by_cases hlt:k < x.length
  ·have r:(k:Int) < (x.length:Int):=by omega
   obtain ⟨b,o,cp,F,U,T⟩:=ZAJ V.out hlt;simp only [Za3] at F;obtain ⟨rfl,_,rfl⟩:=F
   by_cases hlt2:k < y.length
   ·have m:(k:Int) < (y.length:Int):=by omega
    obtain ⟨b2,o2,P,p,M,D⟩:=ZAJ N.out hlt2;simp only [Za3] at p;obtain ⟨rfl,_,rfl⟩:=p
    have E:Hid (ZAl (x.drop k) (y.drop k)=if ZCk (x.getD k 0) (y.getD k 0)=0 then ZAl (x.drop (k+1)) (y.drop (k+1)) else ZCk (x.getD k 0) (y.getD k 0)):=ZLP hlt hlt2
    have O:(0:Int)≤(k:Int):=by omega
    generalize x.getD k 0=a at *;generalize y.getD k 0=c at *
    by_cases hac:a=c
    ·have j:Hid (ZAl x y=ZAl (x.drop (k+1)) (y.drop (k+1))):=by
      show _=_
      rw [s.out,E.out,if_pos (by rw [hac]; simp [ZCk])]
     have l:(a != c)=false:=by simp [hac]
     clear hac;go_wp2
     go_quiet (fail)
     go_wp2
     go_roundw
     case rel=>exact ⟨k+1,by omega,by omega,by go_num,j.out,_,rfl⟩
     case measure=>simp [intOf]; omega
    ·have j:Hid (ZAl x y=ZCk a c):=by
      show _=_
      rw [s.out,E.out,if_neg (by unfold ZCk; split <;> (try split) <;> omega)]
     have G:Hid (decide (ZCk a c < 0)=decide (a < c)):=by
      show _=_
      unfold ZCk
      by_cases h:a < c
      ·simp [h]
      ·by_cases h':c < a <;> simp [h,h']
     have l:(a != c)=true:=by simp [hac]
     clear hac;go_wp2
     go_quiet (fail)
     go_wp2
     go_quiet (fail)
     go_wp2;go_ret
     exact ⟨ZAW (by rw [j.out,G.out]),_,by rw [World.drewN_drewN,World.drewN_drewN]⟩
   ·have m:decide ((k:Int) < (y.length:Int))=false:=by simp; omega
    have d:k=y.length:=by omega
    have j:Hid (ZAl x y=1):=by
     show _=_
     rw [s.out,d,List.drop_length,List.drop_eq_getElem_cons (by omega)]; rfl
    have f:decide ((x.length:Int) < (y.length:Int))=false:=by simp; omega
    clear d;go_wp2;go_ret
    exact ⟨ZAW (by rw [j.out]; first | rfl | simpa using f),_,rfl⟩
  ·have r:decide ((k:Int) < (x.length:Int))=false:=by simp; omega
   have d:k=x.length:=by omega
   have j:Hid (decide (ZAl x y < 0)=decide (x.length < y.length)):=by
    show _=_
    rw [s.out,d,List.drop_length]
    by_cases f:x.length < y.length
    ·rw [List.drop_eq_getElem_cons f]
     simp [ZAl,f]
    ·rw [List.drop_eq_nil_of_le (by omega)]
     simp [ZAl]; omega
   clear d;go_wp2;go_ret;exact ⟨ZAW j.out.symm,_,rfl⟩
end Go.Proofs.YtgfnmkenpgnllaaGreat
namespace Go.Proofs.YtgfnmkenpgnllaaGreat
open Go.RowKit
attribute [local go_sem ↓] Go.wp_at_zero Go.wp_at_succ
theorem ZHz:∀x y,¬ZAl x y < 0→¬ZAl y x < 0→x=y
 | [],[],_,_=>rfl
 | [],_ :: _,h,_=>absurd h (by simp [ZAl])
 | _ :: _,[],_,h=>absurd h (by simp [ZAl])
 | a :: x,b :: y,h1,h2=>by
  have ih:=ZHz x y;simp only [ZAl] at h1 h2
  by_cases hab:a < b
  ·simp [hab] at h1
  ·by_cases hba:b < a
   ·simp [hba] at h2
   ·have e:a=b:=by omega
    subst e;simp only [Int.lt_irrefl,if_false] at h1 h2;rw [ih h1 h2]
theorem ZLT{x y:List Int}(h:ZAl x y < 0):¬ZAl y x < 0:=fun h2=>by
 have:=ZCg x y x h h2;rw [ZCV] at this;omega
def ZF7(s:List (List Int)):Prop:=s.Pairwise fun a b=>ZAl a b < 0
theorem ZIx:∀s t:List (List Int),ZF7 s→ZF7 t→(∀r,r∈s↔r∈t)→s=t
 | [],[],_,_,_=>rfl
 | [],b :: t,_,_,h=>absurd ((h b).2 (by simp)) (by simp)
 | a :: s,[],_,_,h=>absurd ((h a).1 (by simp)) (by simp)
 | a :: s,b :: t,hs,ht,h=>by
  have hs1:=List.pairwise_cons.1 hs;have ht1:=List.pairwise_cons.1 ht
  have hab:a=b:=by
   rcases List.mem_cons.1 ((h a).1 (by simp)) with e | e
   ·exact e
   ·rcases List.mem_cons.1 ((h b).2 (by simp)) with e' | e'
    ·exact e'.symm
    ·exact absurd (hs1.1 b e') (ZLT (ht1.1 a e))
  subst hab
  have d:¬ZAl a a < 0:=by rw [ZCV]; decide
  rw [ZIx s t hs1.2 ht1.2 (fun r=>by
   constructor
   ·intro c
    rcases List.mem_cons.1 ((h r).1 (List.mem_cons_of_mem _ c)) with e | e
    ·subst e; exact absurd (hs1.1 r c) d
    ·exact e
   ·intro c
    rcases List.mem_cons.1 ((h r).2 (List.mem_cons_of_mem _ c)) with e | e
    ·subst e; exact absurd (ht1.1 r c) d
    ·exact e)]
def ZBg(s:List (List Int))(q:List Int)(p:Nat):List (List Int):=s.take p ++ [q] ++ s.drop p
theorem ZBW{s:List (List Int)}{q:List Int}{p:Nat}(h:p≤s.length):(ZBg s q p).length=s.length+1:=by
 simp [ZBg]; omega
theorem ZLU{s:List (List Int)}{q r:List Int}{p:Nat} : r∈ZBg s q p↔r=q∨r∈s:=by
 have e:r∈s↔r∈s.take p∨r∈s.drop p:=by rw [←List.mem_append,List.take_append_drop]
 simp only [ZBg,List.mem_append,List.mem_singleton,e]
 constructor
 ·rintro ((h | h) | h)
  ·exact Or.inr (Or.inl h)
  ·exact Or.inl h
  ·exact Or.inr (Or.inr h)
 ·rintro (h | h | h)
  ·exact Or.inl (Or.inr h)
  ·exact Or.inl (Or.inl h)
  ·exact Or.inr h
theorem ZLV{s:List (List Int)}{q:List Int}{p:Nat}(h:ZF7 s)(hlo:∀r∈s.take p,ZAl r q < 0)(hup:∀r∈s.drop p,ZAl q r < 0):ZF7 (ZBg s q p):=by
 unfold ZF7 at *
 have c:(s.take p ++ s.drop p).Pairwise fun a b=>ZAl a b < 0:=by rw [List.take_append_drop]; exact h
 rw [List.pairwise_append] at c;obtain ⟨d,f,g⟩:=c;unfold ZBg;rw [List.pairwise_append,List.pairwise_append]
 refine ⟨⟨d,by simp,fun a ha b hb=>?_⟩,f,fun a ha b hb=>?_⟩
 ·simp at hb; subst hb; exact hlo a ha
 ·simp only [List.mem_append,List.mem_singleton] at ha
  rcases ha with ha | rfl
  ·exact g a ha b hb
  ·exact hup b hb
theorem ZLW{s:List (List Int)}{q:List Int}{p:Nat}(h:ZF7 s)(hp:p < s.length)(hq:¬ZAl q (s.getD p []) < 0)(hne:s.getD p []≠q):∀r∈s.take (p+1),ZAl r q < 0:=by
 have d:ZAl (s.getD p []) q < 0:=by
  rcases Int.lt_or_le (ZAl (s.getD p []) q) 0 with h1 | h1
  ·exact h1
  ·exact absurd (ZHz _ _ (Int.not_lt.2 h1) hq) hne
 intro r c;rw [Zaa1 hp] at c
 rcases List.mem_append.1 c with c | c
 ·have f:(s.take p ++ s.drop p).Pairwise fun a b=>ZAl a b < 0:=by rw [List.take_append_drop]; exact h
  rw [List.pairwise_append] at f
  have g:=f.2.2 r c (s.getD p []) (by
   have e:s.getD p []=s[p]:=by simp [hp]
   rw [e,List.drop_eq_getElem_cons hp];exact List.mem_cons_self)
  exact ZCg _ _ _ g d
 ·simp at c
  have e:s.getD p []=r:=by rw [c]; simp [hp]
  rw [←e]; exact d
theorem ZEp{P:Program}{ops:Array Oper}{o:Oper}{a:Act}{w:World}{K:Act→World→Prop}{Q:Exit→Act→World→Prop}{E:Prop}(hgd:o.guard=none)(d s:Operand)(dT sT:TypeId)
 (ho:o.op=.call { callee:=.builtin .copy,args:=#[d,s],argTypes:=#[dT,sT] })(elem:TypeId)(hu:P.underlying dT=some (.slice elem))(hsz:(P.info? elem).map (·.size)=some 1)
 (dp sp:Option Addr)(dLen dCap sLen sCap:Nat)(hd:a.eval d=.slice dp dLen dCap)(hs:a.eval s=.slice sp sLen sCap)
 (g off:Nat)(cs:List Value)(hn:cs.length=Nat.min sLen dLen)
 (hpos:0 < cs.length→dp=some ⟨g,off,none⟩∧∃ad,sp=some ad∧∀j v,cs[j]?=some v→w.cell? (ad.add j)=some v)
 (hc:∀j,j < cs.length→(w.cell? ⟨g,off+j,none⟩).isSome=true)(hf:∀j,j < cs.length→w.frozen? ⟨g,off+j,none⟩=false)(h1:∀v∈cs,v.oneCell'=true)
 (h:K (a.put o.dst (goInt cs.length)) (w.setCells g off cs)) :
  if Region.wanted o (yielded ops a.tmps)=true then Oper.wp P o a w K Q else E:=by
 have f:Region.wanted o (yielded ops a.tmps)=true:=by simp [Region.wanted,hgd]
 rw [if_pos f]
 by_cases h0:cs.length=0
 ·obtain rfl:cs=[]:=List.eq_nil_of_length_eq_zero h0
  have b:=run_copy_none (P:=P) w dT sT o.type elem dp sp dLen dCap sLen sCap hu hsz (by simpa using hn.symm)
  unfold Oper.wp;simp [execOp,ho,resolve,invoke,builtin,hd,hs,b,Result.andThen];exact h
 ·obtain ⟨rfl,ad,rfl,c⟩:=hpos (by omega)
  have b:=run_copy_cells (P:=P) w dT sT o.type elem g off dLen dCap ad sLen sCap cs hu hsz hn c hc hf h1;unfold Oper.wp;simp [execOp,ho,resolve,invoke,builtin,hd,hs,b,Result.andThen];exact h
theorem ZQV{B:Nat}{e:TypeId}{w:World}{v:Value}{xs:List Value}(h:Sl B e w v xs):v.oneCell'=true:=by
 obtain ⟨b,a,rfl,_⟩:=h; rfl
theorem ZIy{s:List (List Int)}{q:List Int}{p i:Nat}(hp:p≤s.length)(hi:i < p):(ZBg s q p).getD i []=s.getD i []:=by
 unfold ZBg;simp only [Za2]
 rw [Za7 (by simp; omega),Za7 (by simp; omega),Zaa5 hi]
theorem ZIz{s:List (List Int)}{q:List Int}{p:Nat}(hp:p≤s.length):(ZBg s q p).getD p []=q:=by
 unfold ZBg;simp only [Za2]
 rw [Za7 (by simp; omega),Za8 (by rw [List.length_take]; omega)]
 simp [Nat.min_eq_left hp]
theorem ZI0{s:List (List Int)}{q:List Int}{p i:Nat}(hp:p≤s.length)(hi:p < i):(ZBg s q p).getD i []=s.getD (i-1) []:=by
 unfold ZBg;simp only [Za2]
 rw [Za8 (by simp; omega),List.getElem?_drop]
 congr 2
 simp;omega
def ZBD(f:Nat→Value)(p n:Nat):List Value:=(List.range (n-p)).map fun j=>f (p+j)
theorem ZBu(f:Nat→Value)(p n:Nat):(ZBD f p n).length=n-p:=by simp [ZBD]
theorem ZGz(f:Nat→Value)(p n j:Nat)(v:Value)(h:(ZBD f p n)[j]?=some v):j < n-p∧v=f (p+j):=by
 have a:j < (ZBD f p n).length:=(List.getElem?_eq_some_iff.1 h).1;rw [ZBu] at a;refine ⟨a,?_⟩;unfold ZBD at h;rw [List.getElem?_map,List.getElem?_range a] at h;simp at h;exact h.symm
theorem ZDe{w w':World}{g cap:Nat}{e:TypeId}{f:Nat→Value}(h:w.rowIs g e cap f)(hb:w'.heap[g]?=w.heap[g]?):w'.rowIs g e cap f:=by
 obtain ⟨c,a,b,d⟩:=h;exact ⟨c,hb.trans a,b,d⟩
theorem ZRP{B N g cap p:Nat}{f:Nat→Value}{s:List (List Int)}{q:List Int}{w3 w5:World}{u:Value}(hr:RowM w3 g cap f (s ++ [[]]))(hp:p≤s.length)(hB:B≤g)
 (hb:Below N (w3.setCells g (p+1) (ZBD f p s.length)) w5)(hN:w3.heap.size≤N)(hu:Sl 0 3 w5 u (ZAB q)) :
  Fr B 22 3 (w5.setCell ⟨g,p,none⟩ u) (.slice (some ⟨g,0,none⟩) (s.length+1) cap) (ZBg s q p):=by
 obtain ⟨x,b,_⟩:=hr.row;have y:g < w3.heap.size:=lt_of_block b;have r:Touch g w3 (w3.setCells g (p+1) (ZBD f p s.length)):=(Touch.refl _ _).setCells _ _;have t:=rowIs_setCells (ZBD f p s.length) (p+1) w3 f hr.row
 have o:=ZDe t (hb.block g (by omega))
 have v:=o.set p u;obtain ⟨n,a,_⟩:=o
 have d:∀i,i < (s ++ [[]]).length→Sl 0 3 (w5.setCell ⟨g,p,none⟩ u) (f i) (ZAB ((s ++ [[]]).getD i [])):=fun i hi=>
  ((r.sl b (hr.inn i hi)).below hb (by rw [r.size]; exact hN)).setCell u ⟨Za5 _,fun c hc=>by rw [a] at hc; simp at hc⟩
 have j:∀i,i < s.length→(s ++ [[]]).getD i []=s.getD i []:=fun i hi=>by
  simp only [Za2]; rw [Za7 hi]
 have l:=hr.cap1;simp at l
 have m:RowM (w5.setCell ⟨g,p,none⟩ u) g cap (fun i=>if i=p then u else (if p+1≤i∧i < p+1+(ZBD f p s.length).length then (ZBD f p s.length)[i-(p+1)]?.getD default else f i)) (ZBg s q p):=by
  refine ⟨v,by rw [ZBW hp]; exact l,hr.cap2,fun i hi=>?_⟩
  rw [ZBW hp] at hi
  by_cases hip:i=p
  ·subst hip
   simp only [if_true];rw [ZIz hp]
   exact hu.setCell u ⟨Za5 _,fun c hc=>by rw [a] at hc; simp at hc⟩
  ·simp only [hip,if_false]
   by_cases hlt:i < p
   ·simp only [show ¬p+1≤i by omega,false_and,if_false]
    rw [ZIy hp hlt,←j i (by omega)]
    exact d i (by simp; omega)
   ·rw [ZBu,if_pos ⟨by omega,by omega⟩]
    have e:(ZBD f p s.length)[i-(p+1)]?.getD default=f (i-1):=by
     unfold ZBD
     rw [List.getElem?_map,List.getElem?_range (by omega)]
     simp only [Option.map_some,Option.getD_some]
     congr 1
     omega
    rw [e,ZI0 hp (by omega),←j (i-1) (by omega)]
    exact d (i-1) (by simp; omega)
 have:=m.fr hB;rw [ZBW hp] at this;exact this
def Aft(s:List (List Int))(q:List Int)(p:Nat):Prop:=∀r∈s.drop p,ZAl q r < 0
theorem Aft.step{s:List (List Int)}{q:List Int}{p:Nat}(h:Aft s q (p+1))(hp:p < s.length)(hq:ZAl q (s.getD p []) < 0):Aft s q p:=by
 intro r a;rw [List.drop_eq_getElem_cons hp] at a
 rcases List.mem_cons.1 a with rfl | a
 ·have e:s.getD p []=s[p]:=by simp [hp]
  rw [←e]; exact hq
 ·exact h r a
def ZPN(b c k:Nat):Option Addr:=if c=k+1 then some ⟨b,0,none⟩ else some ⟨b,k+1,none⟩
theorem ZNU{b c k:Nat}(h:k+1 < c):ZPN b c k=some ⟨b,k+1,none⟩:=if_neg (by omega)
theorem ZLX{b n c k:Nat}(h1:k+1≤n)(w:World):(Instr.slice 25 (.slice (some ⟨b,0,none⟩) n c) (some (.int .i64 ((k:Int)+1))) none none).run Tryz.prog w=.ok (.slice (ZPN b c k) (n-(k+1)) (c-(k+1))) w:=by
 have f:(0:Int)≤(k:Int)+1∧(k:Int)+1≤(n:Int):=by omega
 have a:((k:Int)+1).toNat=k+1:=by omega
 have d:∀w,(Go.sizeOf 22).run Tryz.prog w=.ok 1 w:=fun w=>by kernel_rfl
 unfold ZPN
 by_cases e3:c=k+1
 ·simp [Instr.slice,Instr.sliceBounds,Instr.sliceBound,run_underlying Tryz.underlying25,asIntOf,f,a,e3,d,Addr.add,go_sem]
 ·simp [Instr.slice,Instr.sliceBounds,Instr.sliceBound,run_underlying Tryz.underlying25,asIntOf,f,a,e3,d,Addr.add,go_sem]
theorem ZLY{b n c k:Nat}(h1:k < n)(h2:n≤c)(w:World):(Instr.slice 25 (.slice (some ⟨b,0,none⟩) n c) (some (.int .i64 (k:Int))) none none).run Tryz.prog w=.ok (.slice (some ⟨b,k,none⟩) (n-k) (c-k)) w:=by
 have g:(0:Int)≤(k:Int)∧(k:Int)≤(n:Int):=by omega
 have f:¬c=k:=by omega
 have a:k≤n:=by omega
 have d:∀w,(Go.sizeOf 22).run Tryz.prog w=.ok 1 w:=fun w=>by kernel_rfl
 simp [Instr.slice,Instr.sliceBounds,Instr.sliceBound,run_underlying Tryz.underlying25,asIntOf,g,f,a,d,Addr.add,go_sem];intro h;omega
def Qw(w wr:World):Prop:=∃n,wr=w.drewN n
theorem Qw.refl(w:World):Qw w w:=⟨0,rfl⟩
theorem Qw.drewN{w wr:World}(h:Qw w wr)(k:Nat):Qw w (wr.drewN k):=by
 obtain ⟨n,rfl⟩:=h
 exact ⟨n+k,by rw [World.drewN_drewN]⟩
theorem Qw.below{N:Nat}{w wr:World}(h:Qw w wr):Below N w wr:=by
 obtain ⟨n,rfl⟩:=h
 exact ⟨rfl,rfl,rfl,Za4 _,fun _ _=>rfl⟩
theorem Qw.fr{B:Nat}{w wr:World}{v:Value}{m:List (List Int)}(h:Qw w wr)(hf:Fr B 22 3 w v m):Fr B 22 3 wr v m:=by
 obtain ⟨n,rfl⟩:=h;exact hf
theorem ZNV{g gc p n:Nat}(hp:p≤n)(hn:n+1≤gc)(hb:p≤20000000):∃(dp:Option Addr) (la ca lb cb:Nat),
  (∀w:World,(Instr.slice 25 (.slice (some ⟨g,0,none⟩) (n+1) gc) (some (.int .i64 ((p:Int)+1))) none none).run Tryz.prog w=.ok (.slice dp la ca) w)∧
  (∀w:World,(Instr.slice 25 (.slice (some ⟨g,0,none⟩) (n+1) gc) (some (.int .i64 (p:Int))) none none).run Tryz.prog w=.ok (.slice (some ⟨g,p,none⟩) lb cb) w)∧
  (p < n→dp=some ⟨g,p+1,none⟩)∧la=n-p∧lb=n-p+1∧IntKind.i64.wrap ((p:Int)+1)=(p:Int)+1:=
 ⟨_,_,_,_,_,fun w=>ZLX (by omega) w,fun w=>ZLY (by omega) hn w,fun h=>ZNU (by omega),by omega,by omega,by rw [IntKind.wrap_i64]; omega⟩
theorem ZNW{p n g gc dpl ca lb cb:Nat}{dp:Option Addr}{f:Nat→Value}{w:World}{s:List (List Int)}(hs:s.length=n)(hp:p≤n)(hn:n+1≤gc)(hdp:p < n→dp=some ⟨g,p+1,none⟩)(hla:dpl=n-p)(hlb:lb=n-p+1)(hr:RowM w g gc f (s ++ [[]]))
 (ops:Array Oper)(o:Oper)(a:Act)(K:Act→World→Prop)(Q:Exit→Act→World→Prop)(E:Prop)(hgd:o.guard=none)(ho:o.op=.call { callee:=.builtin .copy,args:=#[.tmp 50,.tmp 53],argTypes:=#[25,25] })
 (hd:a.eval (.tmp 50)=.slice dp dpl ca)(hs':a.eval (.tmp 53)=.slice (some ⟨g,p,none⟩) lb cb)(h:K (a.put o.dst (goInt ((n-p:Nat):Int))) (w.drew.setCells g (p+1) (ZBD f p n))) :
  if Region.wanted o (yielded ops a.tmps)=true then Oper.wp Tryz.prog o a w.drew K Q else E:=by
 obtain ⟨x,m,r,c,t⟩:=info_parts Tryz.info22;have b:(ZBD f p n).length=n-p:=ZBu _ _ _
 refine ZEp hgd (.tmp 50) (.tmp 53) 25 25 ho 22 Tryz.underlying25 (by rw [m]; simp [c]) dp (some ⟨g,p,none⟩) dpl ca lb cb hd hs' g (p+1) (ZBD f p n) (by rw [b,hla,hlb]; show _=min _ _; omega) (fun h=>⟨hdp (by rw [b] at h; omega),_,rfl,fun j v h=>?_⟩) (fun j h=>?_) (fun j _=>hr.row.frozen _) (fun v hv=>?_) ?_
 ·obtain ⟨d,rfl⟩:=ZGz f p n j v h
  have e:(⟨g,p,none⟩:Addr).add j=⟨g,p+j,none⟩:=by unfold Addr.add; split <;> simp_all
  rw [e]
  exact hr.row.cell (by omega)
 ·rw [ZBu] at h
  have:=hr.row.cell (i:=p+1+j) (by omega)
  show (w.cell? _).isSome=true
  rw [this]; rfl
 ·obtain ⟨j,l⟩:=List.mem_iff_getElem?.1 hv
  obtain ⟨d,rfl⟩:=ZGz f p n j v l
  exact ZQV (hr.inn (p+j) (by simp; omega))
 ·rw [b]; exact h
def ZQW(B:Nat)(v:Value):Prop:=∀b o n c,v=.slice (some ⟨b,o,none⟩) n c→B≤b
theorem Qw.frN{B:Nat}{w wr:World}{v:Value}{m:List (List Int)}(h:Qw w wr)(hf:FrN B w v m):FrN B wr v m:=by
 obtain ⟨n,rfl⟩:=h;exact hf
theorem FrN.rowMN{B:Nat}{w:World}{v:Value}{m:List (List Int)}(h:FrN B w v m)(hm:0 < m.length):∃g cap f,v=.slice (some ⟨g,0,none⟩) m.length cap∧B≤g∧g < w.heap.size∧RowM w g cap f m∧∀i,i < m.length→ZQW B (f i):=by
 obtain ⟨c,d,b,a⟩:=h
 rcases b.2 with ⟨_,h0⟩ | ⟨g,cap,cur,hv,hb,hh,hn,hc,hs,ht⟩
 ·omega
 ·have e:∀i,i < m.length→cur.toList.getD i (.slice none 0 0)=c.getD i (.slice none 0 0):=fun i hi=>by
   rw [←ht];simp only [Za2]
   rw [Zaa5 (by omega)]
  refine ⟨g,cap,fun i=>cur.toList.getD i (.slice none 0 0),hv,hb,lt_of_block hh,⟨⟨cur,hh,by omega,fun i hi=>?_⟩,hn,by unfold maxLen at hc; exact hc,fun i hi=>?_⟩,fun i hi=>?_⟩
  ·show cur[i]?=some (cur.toList.getD i (.slice none 0 0))
   rw [←Array.getElem?_toList,Za2,Za9 (by simp; omega)]; rfl
  ·show Sl 0 3 w (cur.toList.getD i (.slice none 0 0)) _
   rw [e i hi]; exact (a i hi).1
  ·show ZQW B (cur.toList.getD i (.slice none 0 0))
   rw [e i hi]; exact (a i hi).2
theorem RowM.frN{B:Nat}{w:World}{g cap:Nat}{f:Nat→Value}{m:List (List Int)}(h:RowM w g cap f m)(hB:B≤g)(hb:∀i,i < m.length→ZQW B (f i)):FrN B w (.slice (some ⟨g,0,none⟩) m.length cap) m:=by
 obtain ⟨⟨c,a,n,d⟩,b,j,l⟩:=h
 refine ⟨(List.range m.length).map f,by simp,⟨by simp,Or.inr ⟨g,cap,c,rfl,hB,a,b,by unfold maxLen; exact j,by omega,?_⟩⟩,fun i hi=>?_⟩
 ·apply List.ext_getElem?
  intro i
  by_cases hi:i < m.length
  ·rw [Zaa5 (by omega),Array.getElem?_toList,d i (by omega)]; simp [hi]
  ·rw [Zaa6 (by simp; omega),Zaa6 (by simp; omega)]
 ·have e:((List.range m.length).map f).getD i (.slice none 0 0)=f i:=by simp [hi]
  rw [e]; exact ⟨l i hi,hb i hi⟩
theorem ZPO{B N g cap p:Nat}{f:Nat→Value}{s:List (List Int)}{q:List Int}{w3 w5:World}{u:Value}(hr:RowM w3 g cap f (s ++ [[]]))(hp:p≤s.length)(hB:B≤g)
 (hb:Below N (w3.setCells g (p+1) (ZBD f p s.length)) w5)(hN:w3.heap.size≤N)(hu:SlN B w5 u (ZAB q))(hfb:∀i,i < (s ++ [[]]).length→ZQW B (f i)) :
  FrN B (w5.setCell ⟨g,p,none⟩ u) (.slice (some ⟨g,0,none⟩) (s.length+1) cap) (ZBg s q p):=by
 obtain ⟨x,b,_⟩:=hr.row;have y:g < w3.heap.size:=lt_of_block b;have r:Touch g w3 (w3.setCells g (p+1) (ZBD f p s.length)):=(Touch.refl _ _).setCells _ _;have t:=rowIs_setCells (ZBD f p s.length) (p+1) w3 f hr.row
 have o:=ZDe t (hb.block g (by omega))
 have v:=o.set p u;obtain ⟨n,a,_⟩:=o
 have d:∀i,i < (s ++ [[]]).length→Sl 0 3 (w5.setCell ⟨g,p,none⟩ u) (f i) (ZAB ((s ++ [[]]).getD i [])):=fun i hi=>
  ((r.sl b (hr.inn i hi)).below hb (by rw [r.size]; exact hN)).setCell u ⟨Za5 _,fun c hc=>by rw [a] at hc; simp at hc⟩
 have j:∀i,i < s.length→(s ++ [[]]).getD i []=s.getD i []:=fun i hi=>by
  simp only [Za2]; rw [Za7 hi]
 have l:=hr.cap1;simp at l
 have m:RowM (w5.setCell ⟨g,p,none⟩ u) g cap (fun i=>if i=p then u else (if p+1≤i∧i < p+1+(ZBD f p s.length).length then (ZBD f p s.length)[i-(p+1)]?.getD default else f i)) (ZBg s q p):=by
  refine ⟨v,by rw [ZBW hp]; exact l,hr.cap2,fun i hi=>?_⟩
  rw [ZBW hp] at hi
  by_cases hip:i=p
  ·subst hip
   simp only [if_true];rw [ZIz hp]
   exact hu.1.setCell u ⟨Za5 _,fun c hc=>by rw [a] at hc; simp at hc⟩
  ·simp only [hip,if_false]
   by_cases hlt:i < p
   ·simp only [show ¬p+1≤i by omega,false_and,if_false]
    rw [ZIy hp hlt,←j i (by omega)]
    exact d i (by simp; omega)
   ·rw [ZBu,if_pos ⟨by omega,by omega⟩]
    have e:(ZBD f p s.length)[i-(p+1)]?.getD default=f (i-1):=by
     unfold ZBD
     rw [List.getElem?_map,List.getElem?_range (by omega)]
     simp only [Option.map_some,Option.getD_some]
     congr 1
     omega
    rw [e,ZI0 hp (by omega),←j (i-1) (by omega)]
    exact d (i-1) (by simp; omega)
 have:=m.frN hB fun i hi=>by
  rw [ZBW hp] at hi
  by_cases hip:i=p
  ·subst hip
   simp only [if_true];exact hu.2
  ·simp only [hip,if_false]
   by_cases hlt:i < p
   ·simp only [show ¬p+1≤i by omega,false_and,if_false]
    exact hfb i (by simp; omega)
   ·rw [ZBu,if_pos ⟨by omega,by omega⟩]
    have e:(ZBD f p s.length)[i-(p+1)]?.getD default=f (i-1):=by
     unfold ZBD
     rw [List.getElem?_map,List.getElem?_range (by omega)]
     simp only [Option.map_some,Option.getD_some]
     congr 1
     omega
    rw [e]
    exact hfb (i-1) (by simp; omega)
 rw [ZBW hp] at this;exact this
theorem ZG0(B:Nat)(l:List (List Int))(v:Value)(w:World)(hv:Mat B 22 3 w v l)(hl:l.length≤20000000)(hr:∀r∈l,r.length≤1000000) :
  Calls Tryz.prog 32 #[v] w fun e w'=>∃x s,e=.returned x∧FrN w.heap.size w' x s∧ZF7 s∧(∀r,r∈s↔r∈l)∧Below w.heap.size w w':=by
 obtain ⟨i0,hi,bt,bz,bH⟩:=info_parts Tryz.info22;obtain ⟨ao,bL,U,bF,bv⟩:=ZAE hv;subst U;have HV:Hid (Mat B 22 3 w (.slice ao l.length bL) l):=hv;have HR:=hid hr;clear hv hr;go_enter Tryz.func32,Tryz.ntmps32;go_wp2
 go_loopw [3,4] (fun x i wr=>∃(k:Nat) (s:List (List Int)),k≤l.length∧i=.int .i64 k∧FrN w.heap.size wr x s∧ZF7 s∧(∀r,r∈s↔r∈l.take k)∧s.length≤k∧Below w.heap.size w wr) (fun _ i _=>l.length-(intOf i).toNat)
 case atStart=>exact ⟨0,[],Za5 _,rfl,FrN.nil _ _,List.Pairwise.nil,(fun r=>by simp),Za4 _,Below.refl _ _⟩
 case round=>
  obtain ⟨k,s,hk,rfl,az,aC,af,bh,M⟩:=hrel
  rename World=>wa
  have HF:=hid az;have HS:=hid aC;have HM:=hid af;have HB:=hid M;have bZ:w.heap.size≤wa.heap.size:=M.size;obtain ⟨uo,uc,bO,aP,bj⟩:=ZCY az.fr;subst bO;clear az aC af M
  by_cases hlt:k < l.length
  ·obtain ⟨b,o,cp,r1,hs,cj,ak,J⟩:=ZAP HV.out hlt
   simp only [Za3] at hs;obtain ⟨rfl,_,rfl⟩:=hs;obtain ⟨ro,rc,bM,_,_⟩:=ZAH J;subst bM
   have HQ:Hid (∀W',Below w.heap.size w W'→W'.cell? ⟨b,o+k,none⟩=some (.slice ro (l.getD k []).length rc)∧Sl B 3 W' (.slice ro (l.getD k []).length rc) (ZAB (l.getD k []))):=fun W' h=>⟨(h.cell (ZAI ak)).trans ak,J.below h (Za4 _)⟩
   have aK:Hid ((l.getD k []).length≤1000000):=HR.out _ (by simp [hlt])
   have aB:Hid (l.take (k+1)=l.take k ++ [l.getD k []]):=by
    show _=_
    rw [Zaa1 hlt]; simp [hlt]
   clear J ak;generalize l.getD k []=q at *
   obtain ⟨ql,ar⟩:∃ql,ql=q.length:=⟨_,rfl⟩
   have bp:=hid ar;rw [←ar] at HQ aK;clear ar
   have aV:(k:Int) < (l.length:Int):=by omega
   have ae:(0:Int)≤(k:Int):=by omega
   go_wp2
   go_loopw [5] (fun p wq=>∃d:Nat,d≤s.length∧p=.int .i64 d∧Aft s q d∧Qw wa wq) (fun p _=>(intOf p).toNat)
   case atStart=>exact ⟨s.length,Za4 _,rfl,(fun r hr=>by rw [List.drop_length] at hr; simp at hr),Qw.refl _⟩
   case round=>
    obtain ⟨d,R,rfl,Y,P⟩:=hrel;have HA:=hid Y;have aS:=hid P;have N:Hid (Below w.heap.size w wr):=HB.out.trans P.below;have G:=(HQ.out wr N.out).1;have aj:Hid (FrN w.heap.size wr (.slice uo s.length uc) s):=P.frN HF.out;clear Y P
    have A:d≤20000000:=by omega
    by_cases hp0:d=0
    case' pos=>
     have bi:decide ((0:Int) < (d:Int))=false:=by simp; omega
     have aI:decide (0 < d)=false:=by simp; omega
     have aR:Hid (∀r∈s.take d,ZAl r q < 0):=fun r hr=>by rw [hp0] at hr; simp at hr
     clear hp0;go_wp2
     go_quiet (fail)
     generalize nq=n1;go_wp2
     go_quiet (fail)
     have aO:Hid (FrN w.heap.size ((wr.drewN n1).drewN nq) (.slice uo s.length uc) s):=aj.out
     have ag:Hid (Below w.heap.size w ((wr.drewN n1).drewN nq)):=N.out.trans ⟨rfl,rfl,rfl,Za4 _,fun _ _=>rfl⟩
     generalize (wr.drewN n1).drewN nq=W9 at *
    case' neg=>
     have bi:decide ((0:Int) < (d:Int))=true:=by simp; omega
     have aI:decide (0 < d)=true:=by simp; omega
     have L:d-1 < s.length:=by omega
     obtain ⟨b2,o2,cq,r2,aM,_,V,au⟩:=ZAP (aj.out.fr.rws.mat (Za4 _)) L;simp only [Za3,true_and] at aM;obtain ⟨rfl,rfl⟩:=aM
     have bW:(d:Int)-1=((d-1:Nat):Int):=by omega
     have aL:Hid (∀n,Calls Tryz.prog 48 #[.slice ro ql rc,r2] (wr.drewN n) fun e w'=>e=.returned (.bool (decide (ZAl q (s.getD (d-1) []) < 0)))∧∃k,w'=(wr.drewN n).drewN k):=fun n=>ZLQ (max B w.heap.size) q (s.getD (d-1) []) _ _ (wr.drewN n) (by have:=((HQ.out wr N.out).2.more (show B≤max B w.heap.size by omega)).drewN n; exact this) ((au.more (show w.heap.size≤max B w.heap.size by omega)).drewN n)
     have bg:Hid (∀n,Calls Tryz.prog 43 #[r2,.slice ro ql rc] (wr.drewN n) fun e w'=>e=.returned (.bool (s.getD (d-1) [] == q))∧∃k,w'=(wr.drewN n).drewN k):=fun n=>ZFZ (max B w.heap.size) (s.getD (d-1) []) q _ _ (wr.drewN n) ((au.more (show w.heap.size≤max B w.heap.size by omega)).drewN n) (by have:=((HQ.out wr N.out).2.more (show B≤max B w.heap.size by omega)).drewN n; exact this)
     have aq:Hid (ZAl q (s.getD (d-1) []) < 0→Aft s q (d-1)):=fun h=>Aft.step (p:=d-1) (by rw [show d-1+1=d by omega]; exact HA.out) L h
     have bR:Hid (¬ZAl q (s.getD (d-1) []) < 0→s.getD (d-1) []≠q→∀r∈s.take d,ZAl r q < 0):=fun h1 h2=>by
      have:=ZLW HS.out L h1 h2
      rw [show d-1+1=d by omega] at this
      exact this
     have bU:Hid (s.getD (d-1) []∈s):=by show _∈_; simp [L]
     clear au hp0;generalize s.getD (d-1) []=y at *
     obtain ⟨bb,ay⟩:∃bb,bb=decide (ZAl q y < 0):=⟨_,rfl⟩
     have aT:=hid ay;rw [←ay] at aL;clear ay
     obtain ⟨sb,aA⟩:∃sb,sb=(y == q):=⟨_,rfl⟩
     have aa:=hid aA;rw [←aA] at bg;clear aA;go_wp2
     go_quiet (first | (go_at_call 48; exact Calls.quiet_of (w:=wr) (aL.out _)))
     generalize nq=n1
     cases hbc:bb
     case' true=>
      have bG:Hid (Aft s q (d-1)):=aq.out (of_decide_eq_true (by rw [←aT.out]; exact hbc))
      clear hbc;go_wp2
      go_roundw
      case rel=>exact ⟨d-1,by omega,by go_num,bG.out,aS.out.drewN _⟩
      case measure=>simp [intOf]; omega
     case' false=>
      have bN:Hid (¬ZAl q y < 0):=of_decide_eq_false (by rw [←aT.out]; exact hbc)
      clear hbc
      have bE:Hid (∀n,Calls Tryz.prog 43 #[r2,.slice ro ql rc] ((wr.drewN n1).drewN n) fun e w'=>e=.returned (.bool sb)∧∃k,w'=((wr.drewN n1).drewN n).drewN k):=fun n=>by
       have:=bg.out (n1+n);rw [←World.drewN_drewN] at this;exact this
      have aX:(wr.drewN n1).cell? ⟨b,o+k,none⟩=some (.slice ro ql rc):=G;have aw:(wr.drewN n1).cell? ⟨b2,o2+(d-1),none⟩=some r2:=V;have aJ:Hid (FrN w.heap.size (wr.drewN n1) (.slice (some ⟨b2,o2,none⟩) s.length uc) s):=aj.out
      have aN:Hid (Below w.heap.size w (wr.drewN n1)):=N.out.trans ⟨rfl,rfl,rfl,Za4 _,fun _ _=>rfl⟩
      have cr:Hid (Qw wa (wr.drewN n1)):=aS.out.drewN n1;clear G V;generalize wr.drewN n1=wz at *;go_wp2
      go_quiet (first | (go_at_call 43; exact Calls.quiet_of (w:=wz) (bE.out _)))
      cases hsc:sb
      case' true=>
       have bB:Hid (y=q):=by have:=aa.out; rw [hsc] at this; exact eq_of_beq this.symm
       have bw:Hid (∀r,r∈s↔r∈l.take (k+1)):=by
        intro r;rw [aB.out,List.mem_append,←HM.out r,List.mem_singleton]
        constructor
        ·exact Or.inl
        ·rintro (h | h)
         ·exact h
         ·rw [h,←bB.out]; exact bU.out
       have ah:Hid (FrN w.heap.size (wz.drewN nq) (.slice (some ⟨b2,o2,none⟩) s.length uc) s):=aJ.out
       have am:Hid (Below w.heap.size w (wz.drewN nq)):=aN.out.trans ⟨rfl,rfl,rfl,Za4 _,fun _ _=>rfl⟩
       clear hsc;go_wp2
       go_roundw
       case rel=>exact ⟨k+1,s,by omega,by go_num,ah.out,HS.out,bw.out,by omega,am.out⟩
       case measure=>simp [intOf]; omega
      case' false=>
       have bC:Hid (y≠q):=by
        have:=aa.out;rw [hsc] at this
        exact fun h=>by rw [h] at this; simp at this
       have aR:Hid (∀r∈s.take d,ZAl r q < 0):=bR.out bN.out bC.out
       clear hsc;have aO:Hid (FrN w.heap.size (wz.drewN nq) (.slice (some ⟨b2,o2,none⟩) s.length uc) s):=aJ.out
       have ag:Hid (Below w.heap.size w (wz.drewN nq)):=aN.out.trans ⟨rfl,rfl,rfl,Za4 _,fun _ _=>rfl⟩
       generalize wz.drewN nq=W9 at *;generalize (some (⟨b2,o2,none⟩:Addr))=uo at *
    all_goals
     have bX:w.heap.size≤W9.heap.size:=ag.out.size;obtain ⟨vs,g1,g2,g3⟩:=aO.out;have G1:=hid g1;have G2:=hid g2;have G3:=hid g3;clear g1 g2 g3
     go_wp2_with (first | (at_builtin; refine wpList_append_own _ rfl _ _ 25 rfl w.heap.size 22 i0 (.slice none 0 0) 1 24 Tryz.underlying25 hi bt bz bH rfl (by decide) _ _ _ rfl (G2.out.alloc _) ⟨W9.heap.size,0,none⟩ 1 1 [.slice none 0 0] rfl rfl (ZAQ _ _ _) (ZAL _ _ _) ?d3 ?d4 ?d5 ?_))
     case d3=>unfold maxLen; omega
     case d4=>omega
     case d5=>simp; omega
     intro v' t ho hg _
     have X:FrN w.heap.size t v' (s ++ [[]]):=
      FrN.push (m:=s) (u:=.slice none 0 0) (zs:=[]) G1.out (G2.out.alloc _) (fun i hi=>(G3.out i hi).alloc _) ⟨Sl.nil _ _ _,fun b o n c e=>by simp at e⟩ ho hg
     have bS:Hid (Below w.heap.size w t):=(ag.out.alloc (by omega) _).grown hg (by simp; omega) (fun x hx=>(G2.out.lt x hx).1)
     obtain ⟨g,gc,f,U,an,cd,O,aY⟩:=X.rowMN (by simp)
     have bP:=hid aY;have j:=O.cap1;rw [Zaa4,List.length_singleton] at U j;subst U;have aQ:=O.cap2;have F:=hid O;clear O X ho hg aY;obtain ⟨dp,la,ca,lb,cb,J,bD,aH,aD,aZ,bT⟩:=ZNV (g:=g) R j A
     have bK:Hid (∀(ops:Array Oper) (o:Oper) (a:Act) (K:Act→World→Prop) (Q:Exit→Act→World→Prop) (E:Prop),o.guard=none→o.op=.call { callee:=.builtin .copy,args:=#[.tmp 50,.tmp 53],argTypes:=#[25,25] }→a.eval (.tmp 50)=.slice dp la ca→a.eval (.tmp 53)=.slice (some ⟨g,d,none⟩) lb cb→K (a.put o.dst (goInt ((s.length-d:Nat):Int))) (t.drew.setCells g (d+1) (ZBD f d s.length))→if Region.wanted o (yielded ops a.tmps)=true then Oper.wp Tryz.prog o a t.drew K Q else E):=ZNW rfl R j aH aD aZ F.out
     have bq:=hid bh
     have T:Hid (d≤s.length∧d≤20000000∧s.length+1≤gc∧s.length≤20000000):=⟨R,A,j,by omega⟩
     clear aH aD aZ;clear bi aI A j aQ aP bj bh aV ae bv bF
     try clear L bW
     try clear aX aw
     try clear G
     clear R;go_wp2
     go_region_law (refine bK.out _ _ _ _ _ _ rfl rfl (by simp [Act.eval,Act.put]) (by simp [Act.eval,Act.put]) ?_)
     have aE:Hid (Touch g t (t.drew.setCells g (d+1) (ZBD f d s.length))):=(Touch.refl g t).drew.setCells _ _;have D:Hid (Below w.heap.size w (t.drew.setCells g (d+1) (ZBD f d s.length))):=aE.out.below bS.out an
     have aW:Hid (RowM t.drew g gc f (s ++ [[]])):=⟨F.out.row,F.out.cap1,F.out.cap2,fun i hi=>F.out.inn i hi⟩
     have aF:t.heap.size≤(t.drew.setCells g (d+1) (ZBD f d s.length)).heap.size:=Nat.le_of_eq aE.out.size.symm
     have bI:Hid (∀z u,Below (t.drew.setCells g (d+1) (ZBD f d s.length)).heap.size (t.drew.setCells g (d+1) (ZBD f d s.length)) z→SlN w.heap.size z u (ZAB q)→FrN w.heap.size (z.setCell ⟨g,d,none⟩ u) (.slice (some ⟨g,0,none⟩) (s.length+1) gc) (ZBg s q d)):=fun z u hb hu=>ZPO aW.out T.out.1 an hb aF hu bP.out
     have aq:Hid (∀z,Below (t.drew.setCells g (d+1) (ZBD f d s.length)).heap.size (t.drew.setCells g (d+1) (ZBD f d s.length)) z→(∃x,z.cell? ⟨g,d,none⟩=some x)∧z.frozen? ⟨g,d,none⟩=false):=fun z hb=>by
      have h4:=ZDe (rowIs_setCells (ZBD f d s.length) (d+1) t.drew f aW.out.row) (hb.block g (by omega))
      exact ⟨⟨_,h4.cell (by have:=T.out; omega)⟩,h4.frozen _⟩
     clear aF J bD bT;generalize t.drew.setCells g (d+1) (ZBD f d s.length)=w4 at *;have aG:=(HQ.out w4 D.out).1;have bl:Hid (Sl B 3 w4 (.slice ro ql rc) (ZAB q)):=(HQ.out w4 D.out).2
     have aV:(k:Int) < (l.length:Int):=by omega
     have ae:(0:Int)≤(k:Int):=by omega
     have cg:(d:Int) < (s.length:Int)+1:=by have:=T.out.1; omega
     have aU:Hid (q.length≤1000000):=by rw [←bp.out]; exact aK.out
     go_wp2_with fail
     refine (ZBh B q _ w4 bl.out aU.out).mono ?_;rintro e z ⟨cv,rfl,ai,S⟩;obtain ⟨xo,xc,bJ⟩:=ZAD ai;subst bJ;have ah:Hid (FrN w.heap.size (z.setCell ⟨g,d,none⟩ (.slice xo q.length xc)) (.slice (some ⟨g,0,none⟩) (s.length+1) gc) (ZBg s q d)):=bI.out z _ S ((SlN.own ai).mono D.out.size);have am:Hid (Below w.heap.size w (z.setCell ⟨g,d,none⟩ (.slice xo q.length xc))):=((Touch.refl g z).setCell d _).below (D.out.trans (S.mono D.out.size)) an
     obtain ⟨⟨x0,ck⟩,bY⟩:=aq.out z S;clear ai S aG;generalize hqq:q.length=ql2 at *;clear hqq;have bQ:Hid (ZF7 (ZBg s q d)):=ZLV HS.out aR.out HA.out
     have bA:Hid (∀r,r∈ZBg s q d↔r∈l.take (k+1)):=fun r=>by
      rw [ZLU,aB.out,List.mem_append,←HM.out r,List.mem_singleton];exact or_comm
     have bk:Hid ((ZBg s q d).length≤k+1):=by
      show _≤_
      rw [ZBW T.out.1];exact Nat.succ_le_succ bq.out
     go_wp2
     exact ⟨⟨k+1,ZBg s q d,hlt,by go_num,ah.out,bQ.out,bA.out,bk.out,am.out⟩,by simp [intOf]; omega⟩
  ·have bV:l.take k=l:=Zaa2 (by omega)
   have bu:Hid (∀r,r∈s↔r∈l):=by have:=HM.out; rw [bV] at this; exact this
   go_wp2;go_ret;exact ⟨_,s,rfl,HF.out,HS.out,bu.out,HB.out⟩
theorem ZLZ(B:Nat)(l:List (List Int))(v:Value)(w:World)(hv:Mat B 22 3 w v l)(hl:l.length≤20000000)(hr:∀r∈l,r.length≤1000000) :
  Calls Tryz.prog 32 #[v] w fun e w'=>∃x s,e=.returned x∧Fr w.heap.size 22 3 w' x s∧ZF7 s∧(∀r,r∈s↔r∈l)∧Below w.heap.size w w':=(ZG0 B l v w hv hl hr).mono fun _ _ ⟨x,s,h1,h2,h3⟩=>⟨x,s,h1,h2.fr,h3⟩
end Go.Proofs.YtgfnmkenpgnllaaGreat
