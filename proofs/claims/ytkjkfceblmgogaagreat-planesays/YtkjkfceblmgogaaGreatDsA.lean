import Derived.Laws.CopyOwn
import Derived.Test.YtkjkfceblmgogaaGreatCutA
set_option maxRecDepth 100000
set_option maxHeartbeats 800000
namespace Go.Proofs.YtkjkfceblmgogaaGreat
open Go.RowKit
theorem ZLj(B:Nat)(x y:List Int)(u v:Value)(w:World)(hu:Sl B 3 w u (ZAB x))(hv:Sl B 3 w v (ZAB y)) :
  Calls Tryz.prog 43 #[u,v] w fun e w'=>e=.returned (.bool (decide (ZAm x y < 0)))∧∃n,w'=w.drewN n:=by
 obtain ⟨ao,X,A,Y,L⟩:=ZAI hu;obtain ⟨G,z,t,M,V⟩:=ZAI hv;subst A t;have N:=hid hu;have J:Hid (Sl B 3 w (.slice G y.length z) (ZAB y)):=hv;clear hu hv;go_enter Tryz.func43,Tryz.ntmps43;go_wp2
 go_loopw [5] (fun i wr=>∃k:Nat,k≤x.length∧k≤y.length∧i=.int .i64 k∧ZAm x y=ZAm (x.drop k) (y.drop k)∧∃n,wr=w.drewN n) (fun i _=>x.length-(intOf i).toNat)
 case atStart=>exact ⟨0,Za5 _,Za5 _,rfl,rfl,0,rfl⟩
 case round=>
  obtain ⟨k,hk,Q,rfl,g,n,rfl⟩:=hrel;have s:=hid g;clear g
  by_cases hlt:k < x.length
  ·have r:(k:Int) < (x.length:Int):=by omega
   obtain ⟨b,o,cp,D,R,T⟩:=ZAK N.out hlt;simp only [Za3] at D;obtain ⟨rfl,_,rfl⟩:=D
   by_cases hlt2:k < y.length
   ·have l:(k:Int) < (y.length:Int):=by omega
    obtain ⟨b2,o2,P,m,S,F⟩:=ZAK J.out hlt2;simp only [Za3] at m;obtain ⟨rfl,_,rfl⟩:=m
    have E:Hid (ZAm (x.drop k) (y.drop k)=if ZCh (x.getD k 0) (y.getD k 0)=0 then ZAm (x.drop (k+1)) (y.drop (k+1)) else ZCh (x.getD k 0) (y.getD k 0)):=ZLi hlt hlt2
    have O:(0:Int)≤(k:Int):=by omega
    generalize x.getD k 0=a at *;generalize y.getD k 0=c at *
    by_cases hac:a=c
    ·have j:Hid (ZAm x y=ZAm (x.drop (k+1)) (y.drop (k+1))):=by
      show _=_
      rw [s.out,E.out,if_pos (by rw [hac]; simp [ZCh])]
     have p:(a != c)=false:=by simp [hac]
     clear hac;go_wp2
     go_quiet (fail)
     go_wp2
     go_roundw
     case rel=>exact ⟨k+1,by omega,by omega,by go_num,j.out,_,rfl⟩
     case measure=>simp [intOf]; omega
    ·have j:Hid (ZAm x y=ZCh a c):=by
      show _=_
      rw [s.out,E.out,if_neg (by unfold ZCh; split <;> (try split) <;> omega)]
     have U:Hid (decide (ZCh a c < 0)=decide (a < c)):=by
      show _=_
      unfold ZCh
      by_cases h:a < c
      ·simp [h]
      ·by_cases h':c < a <;> simp [h,h']
     have p:(a != c)=true:=by simp [hac]
     clear hac;go_wp2
     go_quiet (fail)
     go_wp2
     go_quiet (fail)
     go_wp2;go_ret
     exact ⟨ZAX (by rw [j.out,U.out]),_,by rw [World.drewN_drewN,World.drewN_drewN]⟩
   ·have l:decide ((k:Int) < (y.length:Int))=false:=by simp; omega
    have d:k=y.length:=by omega
    have j:Hid (ZAm x y=1):=by
     show _=_
     rw [s.out,d,List.drop_length,List.drop_eq_getElem_cons (by omega)]; rfl
    have f:decide ((x.length:Int) < (y.length:Int))=false:=by simp; omega
    clear d;go_wp2;go_ret
    exact ⟨ZAX (by rw [j.out]; first | rfl | simpa using f),_,rfl⟩
  ·have r:decide ((k:Int) < (x.length:Int))=false:=by simp; omega
   have d:k=x.length:=by omega
   have j:Hid (decide (ZAm x y < 0)=decide (x.length < y.length)):=by
    show _=_
    rw [s.out,d,List.drop_length]
    by_cases f:x.length < y.length
    ·rw [List.drop_eq_getElem_cons f]
     simp [ZAm,f]
    ·rw [List.drop_eq_nil_of_le (by omega)]
     simp [ZAm]; omega
   clear d;go_wp2;go_ret;exact ⟨ZAX j.out.symm,_,rfl⟩
end Go.Proofs.YtkjkfceblmgogaaGreat
namespace Go.Proofs.YtkjkfceblmgogaaGreat
open Go.RowKit
attribute [local go_sem ↓] Go.wp_at_zero Go.wp_at_succ
theorem ZIC:∀x y,¬ZAm x y < 0→¬ZAm y x < 0→x=y
 | [],[],_,_=>rfl
 | [],_ :: _,h,_=>absurd h (by simp [ZAm])
 | _ :: _,[],_,h=>absurd h (by simp [ZAm])
 | a :: x,b :: y,h1,h2=>by
  have ih:=ZIC x y;simp only [ZAm] at h1 h2
  by_cases hab:a < b
  ·simp [hab] at h1
  ·by_cases hba:b < a
   ·simp [hba] at h2
   ·have e:a=b:=by omega
    subst e;simp only [Int.lt_irrefl,if_false] at h1 h2;rw [ih h1 h2]
theorem ZLm{x y:List Int}(h:ZAm x y < 0):¬ZAm y x < 0:=fun h2=>by
 have:=ZCc x y x h h2;rw [ZCT] at this;omega
def ZGH(s:List (List Int)):Prop:=s.Pairwise fun a b=>ZAm a b < 0
theorem ZJA:∀s t:List (List Int),ZGH s→ZGH t→(∀r,r∈s↔r∈t)→s=t
 | [],[],_,_,_=>rfl
 | [],b :: t,_,_,h=>absurd ((h b).2 (by simp)) (by simp)
 | a :: s,[],_,_,h=>absurd ((h a).1 (by simp)) (by simp)
 | a :: s,b :: t,hs,ht,h=>by
  have hs1:=List.pairwise_cons.1 hs;have ht1:=List.pairwise_cons.1 ht
  have hab:a=b:=by
   rcases List.mem_cons.1 ((h a).1 (by simp)) with e | e
   ·exact e
   ·rcases List.mem_cons.1 ((h b).2 (by simp)) with e' | e'
    ·exact e'.symm
    ·exact absurd (hs1.1 b e') (ZLm (ht1.1 a e))
  subst hab
  have c:¬ZAm a a < 0:=by rw [ZCT]; decide
  rw [ZJA s t hs1.2 ht1.2 (fun r=>by
   constructor
   ·intro d
    rcases List.mem_cons.1 ((h r).1 (List.mem_cons_of_mem _ d)) with e | e
    ·subst e; exact absurd (hs1.1 r d) c
    ·exact e
   ·intro d
    rcases List.mem_cons.1 ((h r).2 (List.mem_cons_of_mem _ d)) with e | e
    ·subst e; exact absurd (ht1.1 r d) c
    ·exact e)]
def ZBh(s:List (List Int))(q:List Int)(p:Nat):List (List Int):=s.take p ++ [q] ++ s.drop p
theorem ZBV{s:List (List Int)}{q:List Int}{p:Nat}(h:p≤s.length):(ZBh s q p).length=s.length+1:=by
 simp [ZBh]; omega
theorem ZLn{s:List (List Int)}{q r:List Int}{p:Nat} : r∈ZBh s q p↔r=q∨r∈s:=by
 have e:r∈s↔r∈s.take p∨r∈s.drop p:=by rw [←List.mem_append,List.take_append_drop]
 simp only [ZBh,List.mem_append,List.mem_singleton,e]
 constructor
 ·rintro ((h | h) | h)
  ·exact Or.inr (Or.inl h)
  ·exact Or.inl h
  ·exact Or.inr (Or.inr h)
 ·rintro (h | h | h)
  ·exact Or.inl (Or.inr h)
  ·exact Or.inl (Or.inl h)
  ·exact Or.inr h
theorem ZLo{s:List (List Int)}{q:List Int}{p:Nat}(h:ZGH s)(hlo:∀r∈s.take p,ZAm r q < 0)(hup:∀r∈s.drop p,ZAm q r < 0):ZGH (ZBh s q p):=by
 unfold ZGH at *
 have c:(s.take p ++ s.drop p).Pairwise fun a b=>ZAm a b < 0:=by rw [List.take_append_drop]; exact h
 rw [List.pairwise_append] at c;obtain ⟨d,f,g⟩:=c;unfold ZBh;rw [List.pairwise_append,List.pairwise_append]
 refine ⟨⟨d,by simp,fun a ha b hb=>?_⟩,f,fun a ha b hb=>?_⟩
 ·simp at hb; subst hb; exact hlo a ha
 ·simp only [List.mem_append,List.mem_singleton] at ha
  rcases ha with ha | rfl
  ·exact g a ha b hb
  ·exact hup b hb
theorem ZLp{s:List (List Int)}{q:List Int}{p:Nat}(h:ZGH s)(hp:p < s.length)(hq:¬ZAm q (s.getD p []) < 0)(hne:s.getD p []≠q):∀r∈s.take (p+1),ZAm r q < 0:=by
 have d:ZAm (s.getD p []) q < 0:=by
  rcases Int.lt_or_le (ZAm (s.getD p []) q) 0 with h1 | h1
  ·exact h1
  ·exact absurd (ZIC _ _ (Int.not_lt.2 h1) hq) hne
 intro r c;rw [Zaa1 hp] at c
 rcases List.mem_append.1 c with c | c
 ·have f:(s.take p ++ s.drop p).Pairwise fun a b=>ZAm a b < 0:=by rw [List.take_append_drop]; exact h
  rw [List.pairwise_append] at f
  have g:=f.2.2 r c (s.getD p []) (by
   have e:s.getD p []=s[p]:=by simp [hp]
   rw [e,List.drop_eq_getElem_cons hp];exact List.mem_cons_self)
  exact ZCc _ _ _ g d
 ·simp at c
  have e:s.getD p []=r:=by rw [c]; simp [hp]
  rw [←e]; exact d
theorem ZEq{P:Program}{ops:Array Oper}{o:Oper}{a:Act}{w:World}{K:Act→World→Prop}{Q:Exit→Act→World→Prop}{E:Prop}(hgd:o.guard=none)(d s:Operand)(dT sT:TypeId)
 (ho:o.op=.call { callee:=.builtin .copy,args:=#[d,s],argTypes:=#[dT,sT] })(elem:TypeId)(hu:P.underlying dT=some (.slice elem))(hsz:(P.info? elem).map (·.size)=some 1)
 (dp sp:Option Addr)(dLen dCap sLen sCap:Nat)(hd:a.eval d=.slice dp dLen dCap)(hs:a.eval s=.slice sp sLen sCap)
 (g off:Nat)(cs:List Value)(hn:cs.length=Nat.min sLen dLen)
 (hpos:0 < cs.length→dp=some ⟨g,off,none⟩∧∃ad,sp=some ad∧∀j v,cs[j]?=some v→w.cell? (ad.add j)=some v)
 (hc:∀j,j < cs.length→(w.cell? ⟨g,off+j,none⟩).isSome=true)(hf:∀j,j < cs.length→w.frozen? ⟨g,off+j,none⟩=false)(h1:∀v∈cs,v.oneCell'=true)
 (h:K (a.put o.dst (goInt cs.length)) (w.setCells g off cs)) :
  if Region.wanted o (yielded ops a.tmps)=true then Oper.wp P o a w K Q else E:=by
 have f:Region.wanted o (yielded ops a.tmps)=true:=by simp [Region.wanted,hgd]
 rw [if_pos f]
 by_cases h0:cs.length=0
 ·obtain rfl:cs=[]:=List.eq_nil_of_length_eq_zero h0
  have b:=run_copy_none (P:=P) w dT sT o.type elem dp sp dLen dCap sLen sCap hu hsz (by simpa using hn.symm)
  unfold Oper.wp;simp [execOp,ho,resolve,invoke,builtin,hd,hs,b,Result.andThen];exact h
 ·obtain ⟨rfl,ad,rfl,c⟩:=hpos (by omega)
  have b:=run_copy_cells (P:=P) w dT sT o.type elem g off dLen dCap ad sLen sCap cs hu hsz hn c hc hf h1;unfold Oper.wp;simp [execOp,ho,resolve,invoke,builtin,hd,hs,b,Result.andThen];exact h
theorem ZQx{B:Nat}{e:TypeId}{w:World}{v:Value}{xs:List Value}(h:Sl B e w v xs):v.oneCell'=true:=by
 obtain ⟨b,a,rfl,_⟩:=h; rfl
theorem ZJB{s:List (List Int)}{q:List Int}{p i:Nat}(hp:p≤s.length)(hi:i < p):(ZBh s q p).getD i []=s.getD i []:=by
 unfold ZBh;simp only [Za2]
 rw [Za7 (by simp; omega),Za7 (by simp; omega),Zaa5 hi]
theorem ZJC{s:List (List Int)}{q:List Int}{p:Nat}(hp:p≤s.length):(ZBh s q p).getD p []=q:=by
 unfold ZBh;simp only [Za2]
 rw [Za7 (by simp; omega),Za8 (by rw [List.length_take]; omega)]
 simp [Nat.min_eq_left hp]
theorem ZJD{s:List (List Int)}{q:List Int}{p i:Nat}(hp:p≤s.length)(hi:p < i):(ZBh s q p).getD i []=s.getD (i-1) []:=by
 unfold ZBh;simp only [Za2]
 rw [Za8 (by simp; omega),List.getElem?_drop]
 congr 2
 simp;omega
def ZBF(f:Nat→Value)(p n:Nat):List Value:=(List.range (n-p)).map fun j=>f (p+j)
theorem ZBw(f:Nat→Value)(p n:Nat):(ZBF f p n).length=n-p:=by simp [ZBF]
theorem ZHC(f:Nat→Value)(p n j:Nat)(v:Value)(h:(ZBF f p n)[j]?=some v):j < n-p∧v=f (p+j):=by
 have a:j < (ZBF f p n).length:=(List.getElem?_eq_some_iff.1 h).1;rw [ZBw] at a;refine ⟨a,?_⟩;unfold ZBF at h;rw [List.getElem?_map,List.getElem?_range a] at h;simp at h;exact h.symm
theorem ZDc{w w':World}{g cap:Nat}{e:TypeId}{f:Nat→Value}(h:w.rowIs g e cap f)(hb:w'.heap[g]?=w.heap[g]?):w'.rowIs g e cap f:=by
 obtain ⟨c,a,b,d⟩:=h;exact ⟨c,hb.trans a,b,d⟩
theorem ZRt{B N g cap p:Nat}{f:Nat→Value}{s:List (List Int)}{q:List Int}{w3 w5:World}{u:Value}(hr:RowM w3 g cap f (s ++ [[]]))(hp:p≤s.length)(hB:B≤g)
 (hb:Below N (w3.setCells g (p+1) (ZBF f p s.length)) w5)(hN:w3.heap.size≤N)(hu:Sl 0 3 w5 u (ZAB q)) :
  Fr B 27 3 (w5.setCell ⟨g,p,none⟩ u) (.slice (some ⟨g,0,none⟩) (s.length+1) cap) (ZBh s q p):=by
 obtain ⟨x,b,_⟩:=hr.row;have y:g < w3.heap.size:=lt_of_block b;have n:Touch g w3 (w3.setCells g (p+1) (ZBF f p s.length)):=(Touch.refl _ _).setCells _ _;have v:=rowIs_setCells (ZBF f p s.length) (p+1) w3 f hr.row
 have o:=ZDc v (hb.block g (by omega))
 have t:=o.set p u;obtain ⟨r,a,_⟩:=o
 have l:∀i,i < (s ++ [[]]).length→Sl 0 3 (w5.setCell ⟨g,p,none⟩ u) (f i) (ZAB ((s ++ [[]]).getD i [])):=fun i hi=>
  ((n.sl b (hr.inn i hi)).below hb (by rw [n.size]; exact hN)).setCell u ⟨Za5 _,fun c hc=>by rw [a] at hc; simp at hc⟩
 have d:∀i,i < s.length→(s ++ [[]]).getD i []=s.getD i []:=fun i hi=>by
  simp only [Za2]; rw [Za7 hi]
 have j:=hr.cap1;simp at j
 have m:RowM (w5.setCell ⟨g,p,none⟩ u) g cap (fun i=>if i=p then u else (if p+1≤i∧i < p+1+(ZBF f p s.length).length then (ZBF f p s.length)[i-(p+1)]?.getD default else f i)) (ZBh s q p):=by
  refine ⟨t,by rw [ZBV hp]; exact j,hr.cap2,fun i hi=>?_⟩
  rw [ZBV hp] at hi
  by_cases hip:i=p
  ·subst hip
   simp only [if_true];rw [ZJC hp]
   exact hu.setCell u ⟨Za5 _,fun c hc=>by rw [a] at hc; simp at hc⟩
  ·simp only [hip,if_false]
   by_cases hlt:i < p
   ·simp only [show ¬p+1≤i by omega,false_and,if_false]
    rw [ZJB hp hlt,←d i (by omega)]
    exact l i (by simp; omega)
   ·rw [ZBw,if_pos ⟨by omega,by omega⟩]
    have e:(ZBF f p s.length)[i-(p+1)]?.getD default=f (i-1):=by
     unfold ZBF
     rw [List.getElem?_map,List.getElem?_range (by omega)]
     simp only [Option.map_some,Option.getD_some]
     congr 1
     omega
    rw [e,ZJD hp (by omega),←d (i-1) (by omega)]
    exact l (i-1) (by simp; omega)
 have:=m.fr hB;rw [ZBV hp] at this;exact this
def Aft(s:List (List Int))(q:List Int)(p:Nat):Prop:=∀r∈s.drop p,ZAm q r < 0
theorem Aft.step{s:List (List Int)}{q:List Int}{p:Nat}(h:Aft s q (p+1))(hp:p < s.length)(hq:ZAm q (s.getD p []) < 0):Aft s q p:=by
 intro r a;rw [List.drop_eq_getElem_cons hp] at a
 rcases List.mem_cons.1 a with rfl | a
 ·have e:s.getD p []=s[p]:=by simp [hp]
  rw [←e]; exact hq
 ·exact h r a
def ZPr(b c k:Nat):Option Addr:=if c=k+1 then some ⟨b,0,none⟩ else some ⟨b,k+1,none⟩
theorem ZNr{b c k:Nat}(h:k+1 < c):ZPr b c k=some ⟨b,k+1,none⟩:=if_neg (by omega)
theorem ZLq{b n c k:Nat}(h1:k+1≤n)(w:World):(Instr.slice 22 (.slice (some ⟨b,0,none⟩) n c) (some (.int .i64 ((k:Int)+1))) none none).run Tryz.prog w=.ok (.slice (ZPr b c k) (n-(k+1)) (c-(k+1))) w:=by
 have a:(0:Int)≤(k:Int)+1∧(k:Int)+1≤(n:Int):=by omega
 have f:((k:Int)+1).toNat=k+1:=by omega
 have d:∀w,(Go.sizeOf 27).run Tryz.prog w=.ok 1 w:=fun w=>by kernel_rfl
 unfold ZPr
 by_cases e3:c=k+1
 ·simp [Instr.slice,Instr.sliceBounds,Instr.sliceBound,run_underlying Tryz.underlying22,asIntOf,a,f,e3,d,Addr.add,go_sem]
 ·simp [Instr.slice,Instr.sliceBounds,Instr.sliceBound,run_underlying Tryz.underlying22,asIntOf,a,f,e3,d,Addr.add,go_sem]
theorem ZLr{b n c k:Nat}(h1:k < n)(h2:n≤c)(w:World):(Instr.slice 22 (.slice (some ⟨b,0,none⟩) n c) (some (.int .i64 (k:Int))) none none).run Tryz.prog w=.ok (.slice (some ⟨b,k,none⟩) (n-k) (c-k)) w:=by
 have a:(0:Int)≤(k:Int)∧(k:Int)≤(n:Int):=by omega
 have f:¬c=k:=by omega
 have g:k≤n:=by omega
 have d:∀w,(Go.sizeOf 27).run Tryz.prog w=.ok 1 w:=fun w=>by kernel_rfl
 simp [Instr.slice,Instr.sliceBounds,Instr.sliceBound,run_underlying Tryz.underlying22,asIntOf,a,f,g,d,Addr.add,go_sem];intro h;omega
def Qw(w wr:World):Prop:=∃n,wr=w.drewN n
theorem Qw.refl(w:World):Qw w w:=⟨0,rfl⟩
theorem Qw.drewN{w wr:World}(h:Qw w wr)(k:Nat):Qw w (wr.drewN k):=by
 obtain ⟨n,rfl⟩:=h
 exact ⟨n+k,by rw [World.drewN_drewN]⟩
theorem Qw.below{N:Nat}{w wr:World}(h:Qw w wr):Below N w wr:=by
 obtain ⟨n,rfl⟩:=h
 exact ⟨rfl,rfl,rfl,Za4 _,fun _ _=>rfl⟩
theorem Qw.fr{B:Nat}{w wr:World}{v:Value}{m:List (List Int)}(h:Qw w wr)(hf:Fr B 27 3 w v m):Fr B 27 3 wr v m:=by
 obtain ⟨n,rfl⟩:=h;exact hf
theorem ZNs{g gc p n:Nat}(hp:p≤n)(hn:n+1≤gc)(hb:p≤20000000):∃(dp:Option Addr) (la ca lb cb:Nat),
  (∀w:World,(Instr.slice 22 (.slice (some ⟨g,0,none⟩) (n+1) gc) (some (.int .i64 ((p:Int)+1))) none none).run Tryz.prog w=.ok (.slice dp la ca) w)∧
  (∀w:World,(Instr.slice 22 (.slice (some ⟨g,0,none⟩) (n+1) gc) (some (.int .i64 (p:Int))) none none).run Tryz.prog w=.ok (.slice (some ⟨g,p,none⟩) lb cb) w)∧
  (p < n→dp=some ⟨g,p+1,none⟩)∧la=n-p∧lb=n-p+1∧IntKind.i64.wrap ((p:Int)+1)=(p:Int)+1:=
 ⟨_,_,_,_,_,fun w=>ZLq (by omega) w,fun w=>ZLr (by omega) hn w,fun h=>ZNr (by omega),by omega,by omega,by rw [IntKind.wrap_i64]; omega⟩
theorem ZNt{p n g gc dpl ca lb cb:Nat}{dp:Option Addr}{f:Nat→Value}{w:World}{s:List (List Int)}(hs:s.length=n)(hp:p≤n)(hn:n+1≤gc)(hdp:p < n→dp=some ⟨g,p+1,none⟩)(hla:dpl=n-p)(hlb:lb=n-p+1)(hr:RowM w g gc f (s ++ [[]]))
 (ops:Array Oper)(o:Oper)(a:Act)(K:Act→World→Prop)(Q:Exit→Act→World→Prop)(E:Prop)(hgd:o.guard=none)(ho:o.op=.call { callee:=.builtin .copy,args:=#[.tmp 50,.tmp 53],argTypes:=#[22,22] })
 (hd:a.eval (.tmp 50)=.slice dp dpl ca)(hs':a.eval (.tmp 53)=.slice (some ⟨g,p,none⟩) lb cb)(h:K (a.put o.dst (goInt ((n-p:Nat):Int))) (w.drew.setCells g (p+1) (ZBF f p n))) :
  if Region.wanted o (yielded ops a.tmps)=true then Oper.wp Tryz.prog o a w.drew K Q else E:=by
 obtain ⟨x,t,l,c,d⟩:=info_parts Tryz.info27;have b:(ZBF f p n).length=n-p:=ZBw _ _ _
 refine ZEq hgd (.tmp 50) (.tmp 53) 22 22 ho 27 Tryz.underlying22 (by rw [t]; simp [c]) dp (some ⟨g,p,none⟩) dpl ca lb cb hd hs' g (p+1) (ZBF f p n) (by rw [b,hla,hlb]; show _=min _ _; omega) (fun h=>⟨hdp (by rw [b] at h; omega),_,rfl,fun j v h=>?_⟩) (fun j h=>?_) (fun j _=>hr.row.frozen _) (fun v hv=>?_) ?_
 ·obtain ⟨m,rfl⟩:=ZHC f p n j v h
  have e:(⟨g,p,none⟩:Addr).add j=⟨g,p+j,none⟩:=by unfold Addr.add; split <;> simp_all
  rw [e]
  exact hr.row.cell (by omega)
 ·rw [ZBw] at h
  have:=hr.row.cell (i:=p+1+j) (by omega)
  show (w.cell? _).isSome=true
  rw [this]; rfl
 ·obtain ⟨j,r⟩:=List.mem_iff_getElem?.1 hv
  obtain ⟨m,rfl⟩:=ZHC f p n j v r
  exact ZQx (hr.inn (p+j) (by simp; omega))
 ·rw [b]; exact h
def ZQy(B:Nat)(v:Value):Prop:=∀b o n c,v=.slice (some ⟨b,o,none⟩) n c→B≤b
theorem Qw.frN{B:Nat}{w wr:World}{v:Value}{m:List (List Int)}(h:Qw w wr)(hf:FrN B w v m):FrN B wr v m:=by
 obtain ⟨n,rfl⟩:=h;exact hf
theorem FrN.rowMN{B:Nat}{w:World}{v:Value}{m:List (List Int)}(h:FrN B w v m)(hm:0 < m.length):∃g cap f,v=.slice (some ⟨g,0,none⟩) m.length cap∧B≤g∧g < w.heap.size∧RowM w g cap f m∧∀i,i < m.length→ZQy B (f i):=by
 obtain ⟨c,d,b,a⟩:=h
 rcases b.2 with ⟨_,h0⟩ | ⟨g,cap,cur,hv,hb,hh,hn,hc,hs,ht⟩
 ·omega
 ·have e:∀i,i < m.length→cur.toList.getD i (.slice none 0 0)=c.getD i (.slice none 0 0):=fun i hi=>by
   rw [←ht];simp only [Za2]
   rw [Zaa5 (by omega)]
  refine ⟨g,cap,fun i=>cur.toList.getD i (.slice none 0 0),hv,hb,lt_of_block hh,⟨⟨cur,hh,by omega,fun i hi=>?_⟩,hn,by unfold maxLen at hc; exact hc,fun i hi=>?_⟩,fun i hi=>?_⟩
  ·show cur[i]?=some (cur.toList.getD i (.slice none 0 0))
   rw [←Array.getElem?_toList,Za2,Za9 (by simp; omega)]; rfl
  ·show Sl 0 3 w (cur.toList.getD i (.slice none 0 0)) _
   rw [e i hi]; exact (a i hi).1
  ·show ZQy B (cur.toList.getD i (.slice none 0 0))
   rw [e i hi]; exact (a i hi).2
theorem RowM.frN{B:Nat}{w:World}{g cap:Nat}{f:Nat→Value}{m:List (List Int)}(h:RowM w g cap f m)(hB:B≤g)(hb:∀i,i < m.length→ZQy B (f i)):FrN B w (.slice (some ⟨g,0,none⟩) m.length cap) m:=by
 obtain ⟨⟨c,b,n,l⟩,j,d,a⟩:=h
 refine ⟨(List.range m.length).map f,by simp,⟨by simp,Or.inr ⟨g,cap,c,rfl,hB,b,j,by unfold maxLen; exact d,by omega,?_⟩⟩,fun i hi=>?_⟩
 ·apply List.ext_getElem?
  intro i
  by_cases hi:i < m.length
  ·rw [Zaa5 (by omega),Array.getElem?_toList,l i (by omega)]; simp [hi]
  ·rw [Zaa6 (by simp; omega),Zaa6 (by simp; omega)]
 ·have e:((List.range m.length).map f).getD i (.slice none 0 0)=f i:=by simp [hi]
  rw [e]; exact ⟨a i hi,hb i hi⟩
theorem ZPs{B N g cap p:Nat}{f:Nat→Value}{s:List (List Int)}{q:List Int}{w3 w5:World}{u:Value}(hr:RowM w3 g cap f (s ++ [[]]))(hp:p≤s.length)(hB:B≤g)
 (hb:Below N (w3.setCells g (p+1) (ZBF f p s.length)) w5)(hN:w3.heap.size≤N)(hu:SlN B w5 u (ZAB q))(hfb:∀i,i < (s ++ [[]]).length→ZQy B (f i)) :
  FrN B (w5.setCell ⟨g,p,none⟩ u) (.slice (some ⟨g,0,none⟩) (s.length+1) cap) (ZBh s q p):=by
 obtain ⟨x,b,_⟩:=hr.row;have y:g < w3.heap.size:=lt_of_block b;have n:Touch g w3 (w3.setCells g (p+1) (ZBF f p s.length)):=(Touch.refl _ _).setCells _ _;have v:=rowIs_setCells (ZBF f p s.length) (p+1) w3 f hr.row
 have o:=ZDc v (hb.block g (by omega))
 have t:=o.set p u;obtain ⟨r,a,_⟩:=o
 have l:∀i,i < (s ++ [[]]).length→Sl 0 3 (w5.setCell ⟨g,p,none⟩ u) (f i) (ZAB ((s ++ [[]]).getD i [])):=fun i hi=>
  ((n.sl b (hr.inn i hi)).below hb (by rw [n.size]; exact hN)).setCell u ⟨Za5 _,fun c hc=>by rw [a] at hc; simp at hc⟩
 have d:∀i,i < s.length→(s ++ [[]]).getD i []=s.getD i []:=fun i hi=>by
  simp only [Za2]; rw [Za7 hi]
 have j:=hr.cap1;simp at j
 have m:RowM (w5.setCell ⟨g,p,none⟩ u) g cap (fun i=>if i=p then u else (if p+1≤i∧i < p+1+(ZBF f p s.length).length then (ZBF f p s.length)[i-(p+1)]?.getD default else f i)) (ZBh s q p):=by
  refine ⟨t,by rw [ZBV hp]; exact j,hr.cap2,fun i hi=>?_⟩
  rw [ZBV hp] at hi
  by_cases hip:i=p
  ·subst hip
   simp only [if_true];rw [ZJC hp]
   exact hu.1.setCell u ⟨Za5 _,fun c hc=>by rw [a] at hc; simp at hc⟩
  ·simp only [hip,if_false]
   by_cases hlt:i < p
   ·simp only [show ¬p+1≤i by omega,false_and,if_false]
    rw [ZJB hp hlt,←d i (by omega)]
    exact l i (by simp; omega)
   ·rw [ZBw,if_pos ⟨by omega,by omega⟩]
    have e:(ZBF f p s.length)[i-(p+1)]?.getD default=f (i-1):=by
     unfold ZBF
     rw [List.getElem?_map,List.getElem?_range (by omega)]
     simp only [Option.map_some,Option.getD_some]
     congr 1
     omega
    rw [e,ZJD hp (by omega),←d (i-1) (by omega)]
    exact l (i-1) (by simp; omega)
 have:=m.frN hB fun i hi=>by
  rw [ZBV hp] at hi
  by_cases hip:i=p
  ·subst hip
   simp only [if_true];exact hu.2
  ·simp only [hip,if_false]
   by_cases hlt:i < p
   ·simp only [show ¬p+1≤i by omega,false_and,if_false]
    exact hfb i (by simp; omega)
   ·rw [ZBw,if_pos ⟨by omega,by omega⟩]
    have e:(ZBF f p s.length)[i-(p+1)]?.getD default=f (i-1):=by
     unfold ZBF
     rw [List.getElem?_map,List.getElem?_range (by omega)]
     simp only [Option.map_some,Option.getD_some]
     congr 1
     omega
    rw [e]
    exact hfb (i-1) (by simp; omega)
 rw [ZBV hp] at this;exact this
theorem ZHD(B:Nat)(l:List (List Int))(v:Value)(w:World)(hv:Mat B 27 3 w v l)(hl:l.length≤20000000)(hr:∀r∈l,r.length≤1000000) :
  Calls Tryz.prog 27 #[v] w fun e w'=>∃x s,e=.returned x∧FrN w.heap.size w' x s∧ZGH s∧(∀r,r∈s↔r∈l)∧Below w.heap.size w w':=by
 obtain ⟨i0,hi,bQ,bN,bk⟩:=info_parts Tryz.info27;obtain ⟨ao,bG,U,bH,bS⟩:=ZAD hv;subst U;have HV:Hid (Mat B 27 3 w (.slice ao l.length bG) l):=hv;have HR:=hid hr;clear hv hr;go_enter Tryz.func27,Tryz.ntmps27;go_wp2
 go_loopw [3,4] (fun x i wr=>∃(k:Nat) (s:List (List Int)),k≤l.length∧i=.int .i64 k∧FrN w.heap.size wr x s∧ZGH s∧(∀r,r∈s↔r∈l.take k)∧s.length≤k∧Below w.heap.size w wr) (fun _ i _=>l.length-(intOf i).toNat)
 case atStart=>exact ⟨0,[],Za5 _,rfl,FrN.nil _ _,List.Pairwise.nil,(fun r=>by simp),Za4 _,Below.refl _ _⟩
 case round=>
  obtain ⟨k,s,hk,rfl,aj,aS,V,aC,N⟩:=hrel
  rename World=>wa
  have HF:=hid aj;have HS:=hid aS;have HM:=hid V;have HB:=hid N;have cr:w.heap.size≤wa.heap.size:=N.size;obtain ⟨uo,uc,bJ,aL,aF⟩:=ZCW aj.fr;subst bJ;clear aj aS V N
  by_cases hlt:k < l.length
  ·obtain ⟨b,o,cp,r1,hs,bY,az,L⟩:=ZAP HV.out hlt
   simp only [Za3] at hs;obtain ⟨rfl,_,rfl⟩:=hs;obtain ⟨ro,rc,bw,_,_⟩:=ZAI L;subst bw
   have HQ:Hid (∀W',Below w.heap.size w W'→W'.cell? ⟨b,o+k,none⟩=some (.slice ro (l.getD k []).length rc)∧Sl B 3 W' (.slice ro (l.getD k []).length rc) (ZAB (l.getD k []))):=fun W' h=>⟨(h.cell (ZAH az)).trans az,L.below h (Za4 _)⟩
   have aV:Hid ((l.getD k []).length≤1000000):=HR.out _ (by simp [hlt])
   have aH:Hid (l.take (k+1)=l.take k ++ [l.getD k []]):=by
    show _=_
    rw [Zaa1 hlt]; simp [hlt]
   clear L az;generalize l.getD k []=q at *
   obtain ⟨ql,aq⟩:∃ql,ql=q.length:=⟨_,rfl⟩
   have bA:=hid aq;rw [←aq] at HQ aV;clear aq
   have aN:(k:Int) < (l.length:Int):=by omega
   have ae:(0:Int)≤(k:Int):=by omega
   go_wp2
   go_loopw [5] (fun p wq=>∃d:Nat,d≤s.length∧p=.int .i64 d∧Aft s q d∧Qw wa wq) (fun p _=>(intOf p).toNat)
   case atStart=>exact ⟨s.length,Za4 _,rfl,(fun r hr=>by rw [List.drop_length] at hr; simp at hr),Qw.refl _⟩
   case round=>
    obtain ⟨d,P,rfl,aa,T⟩:=hrel;have HA:=hid aa;have aQ:=hid T;have M:Hid (Below w.heap.size w wr):=HB.out.trans T.below;have J:=(HQ.out wr M.out).1;have am:Hid (FrN w.heap.size wr (.slice uo s.length uc) s):=T.frN HF.out;clear aa T
    have z:d≤20000000:=by omega
    by_cases hp0:d=0
    case' pos=>
     have aK:decide ((0:Int) < (d:Int))=false:=by simp; omega
     have aI:decide (0 < d)=false:=by simp; omega
     have aE:Hid (∀r∈s.take d,ZAm r q < 0):=fun r hr=>by rw [hp0] at hr; simp at hr
     clear hp0;go_wp2
     go_quiet (fail)
     generalize nq=n1;go_wp2
     go_quiet (fail)
     have aW:Hid (FrN w.heap.size ((wr.drewN n1).drewN nq) (.slice uo s.length uc) s):=am.out
     have aw:Hid (Below w.heap.size w ((wr.drewN n1).drewN nq)):=M.out.trans ⟨rfl,rfl,rfl,Za4 _,fun _ _=>rfl⟩
     generalize (wr.drewN n1).drewN nq=W9 at *
    case' neg=>
     have aK:decide ((0:Int) < (d:Int))=true:=by simp; omega
     have aI:decide (0 < d)=true:=by simp; omega
     have F:d-1 < s.length:=by omega
     obtain ⟨b2,o2,ck,r2,aD,_,Y,ag⟩:=ZAP (am.out.fr.rws.mat (Za4 _)) F;simp only [Za3,true_and] at aD;obtain ⟨rfl,rfl⟩:=aD
     have bW:(d:Int)-1=((d-1:Nat):Int):=by omega
     have aY:Hid (∀n,Calls Tryz.prog 43 #[.slice ro ql rc,r2] (wr.drewN n) fun e w'=>e=.returned (.bool (decide (ZAm q (s.getD (d-1) []) < 0)))∧∃k,w'=(wr.drewN n).drewN k):=fun n=>ZLj (max B w.heap.size) q (s.getD (d-1) []) _ _ (wr.drewN n) (by have:=((HQ.out wr M.out).2.more (show B≤max B w.heap.size by omega)).drewN n; exact this) ((ag.more (show w.heap.size≤max B w.heap.size by omega)).drewN n)
     have aB:Hid (∀n,Calls Tryz.prog 38 #[r2,.slice ro ql rc] (wr.drewN n) fun e w'=>e=.returned (.bool (s.getD (d-1) [] == q))∧∃k,w'=(wr.drewN n).drewN k):=fun n=>ZFg (max B w.heap.size) (s.getD (d-1) []) q _ _ (wr.drewN n) ((ag.more (show w.heap.size≤max B w.heap.size by omega)).drewN n) (by have:=((HQ.out wr M.out).2.more (show B≤max B w.heap.size by omega)).drewN n; exact this)
     have au:Hid (ZAm q (s.getD (d-1) []) < 0→Aft s q (d-1)):=fun h=>Aft.step (p:=d-1) (by rw [show d-1+1=d by omega]; exact HA.out) F h
     have bu:Hid (¬ZAm q (s.getD (d-1) []) < 0→s.getD (d-1) []≠q→∀r∈s.take d,ZAm r q < 0):=fun h1 h2=>by
      have:=ZLp HS.out F h1 h2
      rw [show d-1+1=d by omega] at this
      exact this
     have bD:Hid (s.getD (d-1) []∈s):=by show _∈_; simp [F]
     clear ag hp0;generalize s.getD (d-1) []=y at *
     obtain ⟨bb,an⟩:∃bb,bb=decide (ZAm q y < 0):=⟨_,rfl⟩
     have aR:=hid an;rw [←an] at aY;clear an
     obtain ⟨sb,ak⟩:∃sb,sb=(y == q):=⟨_,rfl⟩
     have af:=hid ak;rw [←ak] at aB;clear ak;go_wp2
     go_quiet (first | (go_at_call 43; exact Calls.quiet_of (w:=wr) (aY.out _)))
     generalize nq=n1
     cases hbc:bb
     case' true=>
      have bI:Hid (Aft s q (d-1)):=au.out (of_decide_eq_true (by rw [←aR.out]; exact hbc))
      clear hbc;go_wp2
      go_roundw
      case rel=>exact ⟨d-1,by omega,by go_num,bI.out,aQ.out.drewN _⟩
      case measure=>simp [intOf]; omega
     case' false=>
      have bq:Hid (¬ZAm q y < 0):=of_decide_eq_false (by rw [←aR.out]; exact hbc)
      clear hbc
      have bU:Hid (∀n,Calls Tryz.prog 38 #[r2,.slice ro ql rc] ((wr.drewN n1).drewN n) fun e w'=>e=.returned (.bool sb)∧∃k,w'=((wr.drewN n1).drewN n).drewN k):=fun n=>by
       have:=aB.out (n1+n);rw [←World.drewN_drewN] at this;exact this
      have aU:(wr.drewN n1).cell? ⟨b,o+k,none⟩=some (.slice ro ql rc):=J;have ai:(wr.drewN n1).cell? ⟨b2,o2+(d-1),none⟩=some r2:=Y;have aX:Hid (FrN w.heap.size (wr.drewN n1) (.slice (some ⟨b2,o2,none⟩) s.length uc) s):=am.out
      have aZ:Hid (Below w.heap.size w (wr.drewN n1)):=M.out.trans ⟨rfl,rfl,rfl,Za4 _,fun _ _=>rfl⟩
      have cj:Hid (Qw wa (wr.drewN n1)):=aQ.out.drewN n1;clear J Y;generalize wr.drewN n1=wz at *;go_wp2
      go_quiet (first | (go_at_call 38; exact Calls.quiet_of (w:=wz) (bU.out _)))
      cases hsc:sb
      case' true=>
       have bv:Hid (y=q):=by have:=af.out; rw [hsc] at this; exact eq_of_beq this.symm
       have bT:Hid (∀r,r∈s↔r∈l.take (k+1)):=by
        intro r;rw [aH.out,List.mem_append,←HM.out r,List.mem_singleton]
        constructor
        ·exact Or.inl
        ·rintro (h | h)
         ·exact h
         ·rw [h,←bv.out]; exact bD.out
       have aA:Hid (FrN w.heap.size (wz.drewN nq) (.slice (some ⟨b2,o2,none⟩) s.length uc) s):=aX.out
       have ar:Hid (Below w.heap.size w (wz.drewN nq)):=aZ.out.trans ⟨rfl,rfl,rfl,Za4 _,fun _ _=>rfl⟩
       clear hsc;go_wp2
       go_roundw
       case rel=>exact ⟨k+1,s,by omega,by go_num,aA.out,HS.out,bT.out,by omega,ar.out⟩
       case measure=>simp [intOf]; omega
      case' false=>
       have bO:Hid (y≠q):=by
        have:=af.out;rw [hsc] at this
        exact fun h=>by rw [h] at this; simp at this
       have aE:Hid (∀r∈s.take d,ZAm r q < 0):=bu.out bq.out bO.out
       clear hsc;have aW:Hid (FrN w.heap.size (wz.drewN nq) (.slice (some ⟨b2,o2,none⟩) s.length uc) s):=aX.out
       have aw:Hid (Below w.heap.size w (wz.drewN nq)):=aZ.out.trans ⟨rfl,rfl,rfl,Za4 _,fun _ _=>rfl⟩
       generalize wz.drewN nq=W9 at *;generalize (some (⟨b2,o2,none⟩:Addr))=uo at *
    all_goals
     have bX:w.heap.size≤W9.heap.size:=aw.out.size;obtain ⟨vs,g1,g2,g3⟩:=aW.out;have G1:=hid g1;have G2:=hid g2;have G3:=hid g3;clear g1 g2 g3
     go_wp2_with (first | (at_builtin; refine wpList_append_own _ rfl _ _ 22 rfl w.heap.size 27 i0 (.slice none 0 0) 1 24 Tryz.underlying22 hi bQ bN bk rfl (by decide) _ _ _ rfl (G2.out.alloc _) ⟨W9.heap.size,0,none⟩ 1 1 [.slice none 0 0] rfl rfl (ZAS _ _ _) (ZAM _ _ _) ?d3 ?d4 ?d5 ?_))
     case d3=>unfold maxLen; omega
     case d4=>omega
     case d5=>simp; omega
     intro v' t ho hg _
     have X:FrN w.heap.size t v' (s ++ [[]]):=
      FrN.push (m:=s) (u:=.slice none 0 0) (zs:=[]) G1.out (G2.out.alloc _) (fun i hi=>(G3.out i hi).alloc _) ⟨Sl.nil _ _ _,fun b o n c e=>by simp at e⟩ ho hg
     have bt:Hid (Below w.heap.size w t):=(aw.out.alloc (by omega) _).grown hg (by simp; omega) (fun x hx=>(G2.out.lt x hx).1)
     obtain ⟨g,gc,f,U,ah,cq,O,bh⟩:=X.rowMN (by simp)
     have bz:=hid bh;have j:=O.cap1;rw [Zaa4,List.length_singleton] at U j;subst U;have aJ:=O.cap2;have G:=hid O;clear O X ho hg bh;obtain ⟨dp,la,ca,lb,cb,L,bE,aG,bj,aM,bM⟩:=ZNs (g:=g) P j z
     have bl:Hid (∀(ops:Array Oper) (o:Oper) (a:Act) (K:Act→World→Prop) (Q:Exit→Act→World→Prop) (E:Prop),o.guard=none→o.op=.call { callee:=.builtin .copy,args:=#[.tmp 50,.tmp 53],argTypes:=#[22,22] }→a.eval (.tmp 50)=.slice dp la ca→a.eval (.tmp 53)=.slice (some ⟨g,d,none⟩) lb cb→K (a.put o.dst (goInt ((s.length-d:Nat):Int))) (t.drew.setCells g (d+1) (ZBF f d s.length))→if Region.wanted o (yielded ops a.tmps)=true then Oper.wp Tryz.prog o a t.drew K Q else E):=ZNt rfl P j aG bj aM G.out
     have bp:=hid aC
     have S:Hid (d≤s.length∧d≤20000000∧s.length+1≤gc∧s.length≤20000000):=⟨P,z,j,by omega⟩
     clear aG bj aM;clear aK aI z j aJ aL aF aC aN ae bS bH
     try clear F bW
     try clear aU ai
     try clear J
     clear P;go_wp2
     go_region_law (refine bl.out _ _ _ _ _ _ rfl rfl (by simp [Act.eval,Act.put]) (by simp [Act.eval,Act.put]) ?_)
     have bg:Hid (Touch g t (t.drew.setCells g (d+1) (ZBF f d s.length))):=(Touch.refl g t).drew.setCells _ _;have D:Hid (Below w.heap.size w (t.drew.setCells g (d+1) (ZBF f d s.length))):=bg.out.below bt.out ah
     have aO:Hid (RowM t.drew g gc f (s ++ [[]])):=⟨G.out.row,G.out.cap1,G.out.cap2,fun i hi=>G.out.inn i hi⟩
     have bi:t.heap.size≤(t.drew.setCells g (d+1) (ZBF f d s.length)).heap.size:=Nat.le_of_eq bg.out.size.symm
     have bF:Hid (∀A u,Below (t.drew.setCells g (d+1) (ZBF f d s.length)).heap.size (t.drew.setCells g (d+1) (ZBF f d s.length)) A→SlN w.heap.size A u (ZAB q)→FrN w.heap.size (A.setCell ⟨g,d,none⟩ u) (.slice (some ⟨g,0,none⟩) (s.length+1) gc) (ZBh s q d)):=fun A u hb hu=>ZPs aO.out S.out.1 ah hb bi hu bz.out
     have au:Hid (∀A,Below (t.drew.setCells g (d+1) (ZBF f d s.length)).heap.size (t.drew.setCells g (d+1) (ZBF f d s.length)) A→(∃x,A.cell? ⟨g,d,none⟩=some x)∧A.frozen? ⟨g,d,none⟩=false):=fun A hb=>by
      have h4:=ZDc (rowIs_setCells (ZBF f d s.length) (d+1) t.drew f aO.out.row) (hb.block g (by omega))
      exact ⟨⟨_,h4.cell (by have:=S.out; omega)⟩,h4.frozen _⟩
     clear bi L bE bM;generalize t.drew.setCells g (d+1) (ZBF f d s.length)=w4 at *;have aT:=(HQ.out w4 D.out).1;have bL:Hid (Sl B 3 w4 (.slice ro ql rc) (ZAB q)):=(HQ.out w4 D.out).2
     have aN:(k:Int) < (l.length:Int):=by omega
     have ae:(0:Int)≤(k:Int):=by omega
     have bZ:(d:Int) < (s.length:Int)+1:=by have:=S.out.1; omega
     have aP:Hid (q.length≤1000000):=by rw [←bA.out]; exact aV.out
     go_wp2_with fail
     refine (ZBj B q _ w4 bL.out aP.out).mono ?_;rintro e A ⟨cv,rfl,ay,R⟩;obtain ⟨xo,xc,bP⟩:=ZAE ay;subst bP;have aA:Hid (FrN w.heap.size (A.setCell ⟨g,d,none⟩ (.slice xo q.length xc)) (.slice (some ⟨g,0,none⟩) (s.length+1) gc) (ZBh s q d)):=bF.out A _ R ((SlN.own ay).mono D.out.size);have ar:Hid (Below w.heap.size w (A.setCell ⟨g,d,none⟩ (.slice xo q.length xc))):=((Touch.refl g A).setCell d _).below (D.out.trans (R.mono D.out.size)) ah
     obtain ⟨⟨x0,cd⟩,cg⟩:=au.out A R;clear ay R aT;generalize hqq:q.length=ql2 at *;clear hqq;have bV:Hid (ZGH (ZBh s q d)):=ZLo HS.out aE.out HA.out
     have bC:Hid (∀r,r∈ZBh s q d↔r∈l.take (k+1)):=fun r=>by
      rw [ZLn,aH.out,List.mem_append,←HM.out r,List.mem_singleton];exact or_comm
     have bB:Hid ((ZBh s q d).length≤k+1):=by
      show _≤_
      rw [ZBV S.out.1];exact Nat.succ_le_succ bp.out
     go_wp2
     exact ⟨⟨k+1,ZBh s q d,hlt,by go_num,aA.out,bV.out,bC.out,bB.out,ar.out⟩,by simp [intOf]; omega⟩
  ·have bK:l.take k=l:=Zaa2 (by omega)
   have bR:Hid (∀r,r∈s↔r∈l):=by have:=HM.out; rw [bK] at this; exact this
   go_wp2;go_ret;exact ⟨_,s,rfl,HF.out,HS.out,bR.out,HB.out⟩
theorem ZLs(B:Nat)(l:List (List Int))(v:Value)(w:World)(hv:Mat B 27 3 w v l)(hl:l.length≤20000000)(hr:∀r∈l,r.length≤1000000) :
  Calls Tryz.prog 27 #[v] w fun e w'=>∃x s,e=.returned x∧Fr w.heap.size 27 3 w' x s∧ZGH s∧(∀r,r∈s↔r∈l)∧Below w.heap.size w w':=(ZHD B l v w hv hl hr).mono fun _ _ ⟨x,s,h1,h2,h3⟩=>⟨x,s,h1,h2.fr,h3⟩
end Go.Proofs.YtkjkfceblmgogaaGreat
