import Derived.Test.YtgfnmkenpgnllaaGreatRefs
import Derived.Test.YtgfnmkenpgnllaaGreatStepsAll
import Derived.Deep.DrawnRows
set_option maxRecDepth 100000
set_option maxHeartbeats 1600000
namespace Go.Proofs.YtgfnmkenpgnllaaGreat
open Go.RowKit
attribute [local go_sem ↓] Go.wp_at_zero Go.wp_at_succ
def ZAt(m:List (List Int))(c:List Int):List (List Int):=m.map fun r=>c.map fun q=>r.getD q.toNat 0
theorem ZJK(m:List (List Int))(c:List Int)(k:Nat)(h:k < m.length):(ZAt m c).take (k+1)=(ZAt m c).take k ++ [c.map fun q=>(m.getD k []).getD q.toNat 0]:=by
 unfold ZAt
 rw [Zaa1 (by simpa using h)]; simp [h]
theorem ZBA(m:List (List Int))(c:List Int):(ZAt m c).length=m.length:=by simp [ZAt]
theorem ZQx{M j:Nat}{wa wr w3:World}{v v':Value}{o:Obj}{t l:List Int}{z:Int}(hB:Below M wa wr)(hsz:M≤wr.heap.size)(hl:t.length=j)(h:wr.ownsRow M 3 1 v j (ZAB t))
 (ho:w3.ownsRow M 3 1 v' (j+1) (ZAB t ++ [.int .i64 z]))(hg:(wr.drew.alloc o).grownBy w3 v.ownBlock)(hz:l=t ++ [z]):w3.ownsRow M 3 1 v' (j+1) (ZAB l)∧Below M wa w3:=by
 subst hl hz;exact ZBN (w:=wr.drew) hsz (l:=t) h hB.drew ho hg rfl
theorem ZQy{M:Nat}{wa w3:World}(hB:Below M wa w3){a1 a2 a3:Addr}{v1 v2 v3:Value}(h:((a1.block < M∧wa.cell? a1=some v1)∧(a2.block < M∧wa.cell? a2=some v2))∧(a3.block < M∧wa.cell? a3=some v3)) :
  Hid (w3.cell? a1=some v1∧w3.cell? a2=some v2∧w3.cell? a3=some v3):=
 ⟨(hB.cell h.1.1.1).trans h.1.1.2,(hB.cell h.1.2.1).trans h.1.2.2,(hB.cell h.2.1).trans h.2.2⟩
theorem ZEF(B:Nat)(m:List (List Int))(c:List Int)(v u:Value)(w:World)(hv:Mat B 22 3 w v m)(hu:Sl B 3 w u (ZAB c))(hm:m.length≤1000000)(hcl:c.length≤1000000)
 (hq:∀q∈c,0≤q∧∀r∈m,q < r.length) :
  Calls Tryz.prog 72 #[v,u] w fun e w'=>∃x,e=.returned x∧Rws w.heap.size 22 3 w' x (ZAt m c)∧Below w.heap.size w w':=by
 obtain ⟨i0,hi,ah,ai,am⟩:=info_parts Tryz.info22;obtain ⟨i3,ag,O,P,J⟩:=info_parts Tryz.info3;obtain ⟨ao,au,aA,aO,aI⟩:=ZAE hv;obtain ⟨bo,aC,aw,aR,aL⟩:=ZAH hu;subst aA aw;have HV:Hid (Mat B 22 3 w (.slice ao m.length au) m):=hv;have HU:=hid hu;have HQ:=hid hq;clear hv hu hq;go_enter Tryz.func72,Tryz.ntmps72;go_wp2
 go_loopw [5,6] (fun x i wr=>∃k:Nat,k≤m.length∧i=.int .i64 k∧Rws w.heap.size 22 3 wr x ((ZAt m c).take k)∧Below w.heap.size w wr) (fun _ i _=>m.length-(intOf i).toNat)
 case atStart=>exact ⟨0,Za5 _,rfl,Rws.nil _ _ _ _,Below.refl _ _⟩
 case round=>
  obtain ⟨k,hk,rfl,aa,f⟩:=hrel
  obtain ⟨n,rfl⟩:∃n,n=wr:=⟨wr,rfl⟩
  have HR:=hid aa;have HB:=hid f;have aJ:w.heap.size≤n.heap.size:=f.size;clear aa f
  by_cases hlt:k < m.length
  ·obtain ⟨b,o,cp,r1,hs,aM,p,Q⟩:=ZAP (HV.out.below HB.out (Za4 _)) hlt
   simp only [Za3] at hs;obtain ⟨rfl,_,rfl⟩:=hs;have af:=hid Q;have ar:Hid (Sl B 3 n (.slice bo c.length aC) (ZAB c)):=HU.out.below HB.out (Za4 _);clear Q
   obtain ⟨M,hM⟩:∃M,M=n.heap.size:=⟨_,rfl⟩
   have G:=hid hM
   have ay:w.heap.size≤M:=by omega
   clear hM;go_wp2
   go_loopw [7,8] (fun x i wq=>∃j:Nat,j≤c.length∧i=.int .i64 j∧wq.ownsRow M 3 1 x j (ZAB ((c.map fun q=>(m.getD k []).getD q.toNat 0).take j))∧Below M n wq) (fun _ i _=>c.length-(intOf i).toNat)
   case atStart=>exact ⟨0,Za5 _,rfl,World.ownsRow_nil _ _ _ _,Below.refl _ _⟩
   case round=>
    obtain ⟨j,hj,rfl,t,f⟩:=hrel;have L:=hid t;have g:=hid f
    have V:M≤wr.heap.size:=by have:=f.size; rw [G.out]; exact this
    clear t f
    by_cases hjl:j < c.length
    ·obtain ⟨X,o2,aP,T,aS,d⟩:=ZAJ ar.out hjl
     simp only [Za3] at T;obtain ⟨rfl,_,rfl⟩:=T
     have R:wr.cell? ⟨X,o2+j,none⟩=some (.int .i64 (c.getD j 0)):=(g.out.cell (by rw [G.out]; exact ZAI d)).trans d
     have aH:wr.cell? ⟨b,o+k,none⟩=some r1:=(g.out.cell (by rw [G.out]; exact ZAI p)).trans p
     have y:c.getD j 0∈c:=by simp [hjl]
     obtain ⟨U,ae⟩:=HQ.out _ y
     have aj:c.getD j 0 < (m.getD k []).length:=ae _ (by simp [hlt])
     clear y ae;obtain ⟨q,D⟩:=Int.eq_ofNat_of_zero_le U
     obtain ⟨z,hz⟩:∃z,z=(m.getD k []).getD q 0:=⟨_,rfl⟩
     have HZ:Hid ((c.map fun q=>(m.getD k []).getD q.toNat 0).take (j+1)=(c.map fun q=>(m.getD k []).getD q.toNat 0).take j ++ [z]):=by
      have e:=ZFc (fun q=>(m.getD k []).getD q.toNat 0) c j hjl
      have e2:c[j]=(q:Int):=by rw [←D]; simp [hjl]
      rw [hz,←Int.toNat_natCast q,←e2]; exact e
     have aB:Hid (((c.map fun q=>(m.getD k []).getD q.toNat 0).take j).length=j):=by
      show _=_
      simp; omega
     obtain ⟨A,E,Y,az,aN,a⟩:=ZAJ af.out (k:=q) (by omega)
     subst az;rw [D] at R aj d;rw [←hz] at a
     have aF:wr.cell? ⟨A,E+q,none⟩=some (.int .i64 z):=(g.out.cell (by rw [G.out]; exact ZAI a)).trans a
     generalize hln:(m.getD k []).length=ln at *
     have KA:Hid (((b < M∧n.cell? ⟨b,o+k,none⟩=some (.slice (some ⟨A,E,none⟩) ln Y))∧(X < M∧n.cell? ⟨X,o2+j,none⟩=some (.int .i64 q)))∧(A < M∧n.cell? ⟨A,E+q,none⟩=some (.int .i64 z))):=by
      rw [G.out]; exact ⟨⟨⟨ZAI p,p⟩,⟨ZAI d,d⟩⟩,⟨ZAI a,a⟩⟩
     clear d a
     have aQ:(k:Int) < (m.length:Int):=by omega
     have aK:(j:Int) < (c.length:Int):=by omega
     have aG:(0:Int)≤(k:Int):=by omega
     have aD:(0:Int)≤(j:Int):=by omega
     have aE:(0:Int)≤(q:Int):=by omega
     clear D hz U hln;go_wp2
     go_region_held3 (fun w'=>w'.cell? ⟨b,o+k,none⟩=some (.slice (some ⟨A,E,none⟩) ln Y)∧w'.cell? ⟨X,o2+j,none⟩=some (.int .i64 q)∧w'.cell? ⟨A,E+q,none⟩=some (.int .i64 z)) (first | go_keep | exact KS.out)
      ((refine ZAo (by rfl) _ _ 22 (by rfl) M 3 i3 (.int .i64 0) 1 8 Tryz.underlying22 ag O P J rfl (by decide) _ _ _ (by rfl) (L.out.drew.alloc _) ⟨wr.heap.size,0,none⟩ 1 1 [.int .i64 z] (by rfl) rfl (ZAQ _ _ _) (ZA2 _) (by unfold maxLen; omega) (by omega) (by simp; omega) ?_; intro v' S N F; have RR:=ZQx g.out V aB.out L.out N F (hz:=HZ.out); have KS:=ZQy (a1:=⟨b,o+k,none⟩) (a2:=⟨X,o2+j,none⟩) (a3:=⟨A,E+q,none⟩) RR.2 KA.out))
     have R1:Hid (S.ownsRow M 3 1 v' (j+1) (ZAB ((c.map fun q=>(m.getD k []).getD q.toNat 0).take (j+1)))):=RR.1
     have R2:Hid (Below M n S):=RR.2;clear RR N F KS;go_wp2
     go_roundw
     case rel=>exact ⟨j+1,by omega,by go_num,R1.out,R2.out⟩
     case measure=>simp [intOf]; omega
    ·have HX:Hid (Sl w.heap.size 3 wr u7 (ZAB (c.map fun q=>(m.getD k []).getD q.toNat 0))):=by
      have h:=L.out
      rw [Zaa2 (by simp; omega)] at h
      exact Sl.own h
     have ak:Hid (Rws w.heap.size 22 3 wr u5 ((ZAt m c).take k)):=HR.out.below g.out (by rw [G.out]; exact Za4 _)
     have an:Hid (Below w.heap.size w wr):=HB.out.trans (g.out.mono ay);obtain ⟨xo,xc,aq⟩:=ZAD L.out;subst aq;obtain ⟨vs,g1,g2,g3⟩:=ak.out
     have l:((ZAt m c).take k).length=k:=by rw [List.length_take,ZBA]; omega
     have s:=hid l;rw [l] at g1 g2 g3;have G1:=hid g1;have G2:=hid g2;have G3:=hid g3;clear g1 g2 g3 l L
     go_wp2_with (first | (at_builtin; refine wpList_append_own _ rfl _ _ 25 rfl w.heap.size 22 i0 (.slice none 0 0) 1 24 Tryz.underlying25 hi ah ai am rfl (by decide) _ _ _ rfl (G2.out.alloc _) ⟨wr.heap.size,0,none⟩ 1 1 [.slice xo j xc] rfl rfl (ZAQ _ _ _) (ZAL _ _ _) ?d3 ?d4 ?d5 ?_))
     case d3=>unfold maxLen; omega
     case d4=>omega
     case d5=>simp; omega
     intro v' S N F _
     have R1:Hid (Rws w.heap.size 22 3 S v' ((ZAt m c).take (k+1))):=by
      have hp:=Rws.push (e2:=22) (e1:=3) (m:=(ZAt m c).take k) (u:=.slice xo j xc) (zs:=c.map fun q=>(m.getD k []).getD q.toNat 0) (by decide) (by rw [s.out]; exact G1.out) (by rw [s.out]; exact G2.out.alloc _)
       (fun i hi=>(G3.out i (by rw [s.out] at hi; exact hi)).alloc _) (HX.out.alloc _) (by rw [s.out]; exact N) F
      rw [←ZJK m c k hlt] at hp;exact hp
     have R2:Hid (Below w.heap.size w S):=(an.out.alloc (by omega) _).grown F (by simp; omega) (fun x hx=>(G2.out.lt x hx).1)
     clear N F;go_wp2
     go_roundw
     case rel=>exact ⟨k+1,by omega,by go_num,R1.out,R2.out⟩
     case measure=>simp [intOf]; omega
  ·go_wp2
   go_ret;have h:=HR.out
   rw [Zaa2 (by rw [ZBA]; omega)] at h
   exact ⟨_,rfl,h,HB.out⟩
end Go.Proofs.YtgfnmkenpgnllaaGreat
namespace Go.Proofs.YtgfnmkenpgnllaaGreat
open Go.RowKit
def Fr(B:Nat)(e2 e1:TypeId)(w:World)(v:Value)(m:List (List Int)):Prop:=
 ∃vs,vs.length=m.length∧w.ownsRow B e2 1 v m.length vs∧∀i,i < m.length→Sl 0 e1 w (vs.getD i (.slice none 0 0)) (ZAB (m.getD i []))
theorem Fr.rws{B:Nat}{e2 e1:TypeId}{w:World}{v:Value}{m:List (List Int)}(h:Fr B e2 e1 w v m):Rws B e2 e1 w v m:=by
 obtain ⟨c,a,b,d⟩:=h
 exact ⟨c,a,b,fun i hi=>(d i hi).more (Za5 _)⟩
theorem Fr.nil(B:Nat)(e2 e1:TypeId)(w:World):Fr B e2 e1 w (.slice none 0 0) []:=
 ⟨[],rfl,World.ownsRow_nil _ _ _ _,fun i hi=>absurd hi (by simp)⟩
theorem Fr.below{B N:Nat}{e2 e1:TypeId}{w w':World}{v:Value}{m:List (List Int)}(h:Fr B e2 e1 w v m)(hb:Below N w w')(hN:w.heap.size≤N):Fr B e2 e1 w' v m:=by
 obtain ⟨c,a,b,d⟩:=h
 exact ⟨c,a,ZAN b hb hN,fun i hi=>(d i hi).below hb hN⟩
theorem Fr.alloc{B:Nat}{e2 e1:TypeId}{w:World}{v:Value}{m:List (List Int)}(h:Fr B e2 e1 w v m)(o:Obj):Fr B e2 e1 (w.alloc o) v m:=by
 obtain ⟨c,a,b,d⟩:=h
 exact ⟨c,a,b.alloc o,fun i hi=>(d i hi).alloc o⟩
theorem Fr.kept{B B' n:Nat}{e2 e1:TypeId}{w w':World}{v u:Value}{m:List (List Int)}{us:List Value}(hne:e2≠e1)(h:Fr B e2 e1 w v m)(hu:w.ownsRow B' e2 1 u n us)(hg:w.grownBy w' u.ownBlock)
 (ha:∀g,u.ownBlock=some g→v.ownBlock≠some g):Fr B e2 e1 w' v m:=by
 obtain ⟨c,a,b,d⟩:=h
 refine ⟨c,a,b.kept hg ?_,fun i hi=>(d i hi).grown hg (fun k hk=>⟨Za5 _,(ZAz hu hne k hk).2⟩)⟩
 cases hv:v.ownBlock with
 | none=>exact Or.inl rfl
 | some g=>exact Or.inr fun e=>ha g e.symm hv
theorem Fr.push{B:Nat}{e2 e1:TypeId}{w w':World}{v v' u:Value}{m:List (List Int)}{vs:List Value}{zs:List Int}(hne:e2≠e1)
 (h1:vs.length=m.length)(h2:w.ownsRow B e2 1 v m.length vs)(h3:∀i,i < m.length→Sl 0 e1 w (vs.getD i (.slice none 0 0)) (ZAB (m.getD i [])))(hu:Sl 0 e1 w u (ZAB zs))
 (ho:w'.ownsRow B e2 1 v' (m.length+1) (vs ++ [u]))(hg:w.grownBy w' v.ownBlock):Fr B e2 e1 w' v' (m ++ [zs]):=by
 have d:∀k,v.ownBlock=some k→0≤k∧∀cur,w.heap[k]?≠some (.cells cur e1 (0,0)):=fun k hk=>⟨Za5 _,(ZAz h2 hne k hk).2⟩
 refine ⟨vs ++ [u],by simp [h1],by simpa using ho,fun i hi=>?_⟩
 by_cases hlt:i < m.length
 ·have a:(vs ++ [u]).getD i (.slice none 0 0)=vs.getD i (.slice none 0 0):=by
   simp only [Za2]; rw [Za7 (by omega)]
  have b:(m ++ [zs]).getD i []=m.getD i []:=by
   simp only [Za2]; rw [Za7 (by omega)]
  rw [a,b];exact (h3 i hlt).grown hg d
 ·have c:i=m.length:=by simp at hi; omega
  subst c
  have a:(vs ++ [u]).getD m.length (.slice none 0 0)=u:=by
   rw [←h1]; simp
  have b:(m ++ [zs]).getD m.length []=zs:=by simp
  rw [a,b];exact hu.grown hg d
def ZKF(x l:Value):Prop:=∀g,x.ownBlock=some g→l.ownBlock≠some g
def ZAO:Nat→Nat→List (List Int)
 | 0,_=>[[]]
 | k+1,n=>(List.range' k (n-k)).flatMap fun v=>(ZAO k v).map (· ++ [(v:Int)])
def ZAh(k v:Nat):List (List Int):=(List.range' k (v-k)).flatMap fun v=>(ZAO k v).map (· ++ [(v:Int)])
theorem ZFg{k v:Nat}(h:k≤v):ZAh k (v+1)=ZAh k v ++ (ZAO k v).map (· ++ [(v:Int)]):=by
 unfold ZAh
 rw [show v+1-k=(v-k)+1 by omega,List.range'_concat,List.flatMap_append]
 simp [show k+(v-k)=v by omega]
theorem ZBp:∀k n,n≤64→(ZAO k n).length≤64 ^ k:=by
 intro k
 induction k with
 | zero=>intro n _; simp [ZAO]
 | succ k ih=>
  intro n c
  have b:∀t,k+t≤64→((List.range' k t).flatMap fun v=>(ZAO k v).map (· ++ [(v:Int)])).length≤t*64 ^ k:=by
   intro t
   induction t with
   | zero=>intro _; simp
   | succ t it=>
    intro f;rw [List.range'_concat,List.flatMap_append,Zaa4]
    have:=it (by omega)
    have a:=ih (k+t) (by omega)
    simp only [List.flatMap_cons,List.flatMap_nil,List.append_nil,Zab1,Nat.one_mul];rw [Nat.add_mul]; omega
  have a:=b (n-k);simp only [ZAO]
  by_cases hk:k≤n
  ·have:=a (by omega)
   rw [Nat.pow_succ]
   have d:(n-k)*64 ^ k≤64*64 ^ k:=Nat.mul_le_mul_right _ (by omega)
   rw [Nat.mul_comm (64 ^ k)]; omega
  ·have:n-k=0:=by omega
   rw [this]; simp
theorem ZBB:∀k n l,l∈ZAO k n→l.length=k:=by
 intro k
 induction k with
 | zero=>intro n l h; simp [ZAO] at h; subst h; rfl
 | succ k ih=>
  intro n l h;simp only [ZAO,List.mem_flatMap,List.mem_map] at h;obtain ⟨v,_,b,a,rfl⟩:=h;simp [ih v b a]
theorem ZHS(w:World):Fr w.heap.size 22 3 ((w.alloc (.cells #[] 3)).alloc (.cells #[.slice (some ⟨w.heap.size,0,none⟩) 0 0] 22)) (.slice (some ⟨w.heap.size+1,0,none⟩) 1 1) [[]]:=by
 refine ⟨[.slice (some ⟨w.heap.size,0,none⟩) 0 0],rfl,?_,fun i hi=>?_⟩
 ·have h:=World.ownsRow_lit (base:=w.heap.size) (e:=22) (size:=1) (w.alloc (.cells #[] 3)) #[.slice (some ⟨w.heap.size,0,none⟩) 0 0] 1 (by simp) (by simp [maxLen]) (by simp)
  simpa using h
 ·have:i=0:=by simp at hi; omega
  subst this
  exact ⟨some ⟨w.heap.size,0,none⟩,0,rfl,by simp [ZAB],by simp [maxLen],fun i hi=>absurd hi (by simp [ZAB]),fun h=>by cases h⟩
def ZBZ(k:Nat):Prop:=∀(n:Nat) (w:World),n≤64→
 Calls Tryz.prog 70 #[.int .i64 n,.int .i64 k] w fun e w'=>∃x,e=.returned x∧Fr w.heap.size 22 3 w' x (ZAO k n)∧Below w.heap.size w w'
theorem ZHT:ZBZ 0:=by
 intro n w a;go_enter Tryz.func70,Tryz.ntmps70;go_wp2;go_ret
 exact ⟨_,rfl,ZHS w,((Below.refl _ _).alloc (Za4 _) _).alloc (by simp) _⟩
theorem ZP4{v i:Nat}{m:List (List Int)}{l:List (List Int)}(hm:m=l)(hi:i < l.length)(A:List (List Int)) :
  A ++ (m.map (· ++ [(v:Int)])).take (i+1)=(A ++ (m.map (· ++ [(v:Int)])).take i) ++ [l.getD i [] ++ [(v:Int)]]:=by
 subst hm
 rw [Zaa1 (by simpa using hi),List.append_assoc]
 simp [hi]
theorem ZHU(k:Nat)(hk5:k≤4)(ih:ZBZ k)(n:Nat)(w:World)(hn:n≤64) :
  Calls Tryz.prog 70 #[.int .i64 n,.int .i64 ((k:Int)+1)] w fun e w'=>∃x,e=.returned x∧Fr w.heap.size 22 3 w' x (ZAO (k+1) n)∧Below w.heap.size w w':=by
 obtain ⟨i0,hi,aj,ak,au⟩:=info_parts Tryz.info22;obtain ⟨i3,ai,P,Q,J⟩:=info_parts Tryz.info3
 have aJ:Hid ((ZAO (k+1) n).length≤64 ^ 5):=Zaa8 (ZBp (k+1) n hn) (Nat.pow_le_pow_right (by omega) (by omega))
 have t0:((k:Int)+1 == 0)=false:=by simp; omega
 have aw:=hid ih;clear ih;go_enter Tryz.func70,Tryz.ntmps70;go_wp2
 go_loopw [5,6] (fun x i wr=>∃v:Nat,k≤v∧v≤max n k∧i=.int .i64 v∧Fr w.heap.size 22 3 wr x (ZAh k v)∧Below w.heap.size w wr) (fun _ i _=>n-(intOf i).toNat)
 case atStart=>
  refine ⟨k,Za4 _,by omega,by go_num,?_,Below.refl _ _⟩
  have:ZAh k k=[]:=by simp [ZAh]
  rw [this]; exact Fr.nil _ _ _ _
 case round=>
  obtain ⟨v,an,aI,rfl,ah,f⟩:=hrel
  obtain ⟨y,rfl⟩:∃y,y=wr:=⟨wr,rfl⟩
  have HR:=hid ah;have HB:=hid f;have am:w.heap.size≤y.heap.size:=f.size;clear ah f
  by_cases hlt:v < n
  ·have d:v≤64:=by omega
   go_wp2_with fail
   refine (aw.out v y d).mono ?_;rintro e w1 ⟨lv,rfl,hf,E⟩
   have aH:(ZAO k v).length≤64 ^ 4:=Zaa8 (ZBp k v d) (Nat.pow_le_pow_right (by omega) (by omega))
   have aK:(ZAh k v).length≤64 ^ 5:=by
    have h1:=ZBp (k+1) v d
    exact Zaa8 h1 (Nat.pow_le_pow_right (by omega) (by omega))
   have HF:=hid hf;have p:Hid (Fr w.heap.size 22 3 w1 u5 (ZAh k v)):=HR.out.below E (Za4 _);have X:Hid (Below w.heap.size w w1):=HB.out.trans (E.mono am)
   have ag:Hid (ZKF u5 lv):=by
    intro g s hl;obtain ⟨_,_,q1,_⟩:=HR.out;obtain ⟨_,_,q2,_⟩:=hf;have:=(q1.lt g s).2;have:=(q2.lt g hl).1;omega
   clear hf E HR HB;generalize hcl:ZAO k v=cl at *;have a:=hid hcl;clear hcl;obtain ⟨lo,lc,aA,aD,aC⟩:=ZAE (HF.out.rws.mat (Za4 _));subst aA;go_wp2
   go_loopw [5,8] (fun x i wq=>∃j:Nat,j≤cl.length∧i=.int .i64 j∧Fr w.heap.size 22 3 wq x (ZAh k v ++ (cl.map (· ++ [(v:Int)])).take j)∧Below w.heap.size w wq∧Fr y.heap.size 22 3 wq (.slice lo cl.length lc) cl∧
     ZKF x (.slice lo cl.length lc)) (fun _ i _=>cl.length-(intOf i).toNat)
   case atStart=>exact ⟨0,Za5 _,rfl,by simpa using p.out,X.out,HF.out,ag.out⟩
   case round=>
    obtain ⟨j,hj,rfl,hx,hb,hl,M⟩:=hrel;have HX:=hid hx;have B:=hid hb;have HL:=hid hl;have HA:=hid M;have V:w.heap.size≤wr.heap.size:=hb.size;clear hx hb hl M p X HF ag
    by_cases hjl:j < cl.length
    ·obtain ⟨b,o,cp,r1,hs,aG,aq,T⟩:=ZAP (HL.out.rws.mat (Za4 _)) hjl
     simp only [Za3] at hs;obtain ⟨rfl,_,rfl⟩:=hs;have p:=hid T
     have af:(cl.getD j []).length=k:=by
      have:cl.getD j []∈cl:=by simp [hjl]
      rw [←a.out] at this;rw [←a.out]; exact ZBB k v _ this
     have aF:=hid af
     have ae:(cl.getD j []).length≤1000000:=by omega
     clear T af;generalize hrj:cl.getD j []=rj at *;have az:=hid hrj;clear hrj
     go_wp2_with fail
     refine (ZBh y.heap.size _ r1 wr p.out ae).mono ?_;rintro e w2 ⟨cv,rfl,S,F⟩;have A:=hid S;have Y:=hid F;have U:wr.heap.size≤w2.heap.size:=F.size;clear S F aq
     go_wp2_with (first | (at_builtin; refine wpList_append_own _ rfl _ _ 22 rfl wr.heap.size 3 i3 (.int .i64 0) 1 8 Tryz.underlying22 ai P Q J rfl (by decide) _ _ _ rfl (A.out.alloc _) ⟨w2.heap.size,0,none⟩ 1 1 [.int .i64 v] rfl rfl (ZAQ _ _ _) (ZA2 _) ?c3 ?c4 ?c5 ?_))
     case c3=>unfold maxLen; omega
     case c4=>omega
     case c5=>simp; omega
     intro v' D O s _;have R:=ZBN (z:=(v:Int)) (N:=rj.length+1) U (l:=rj) A.out Y.out O s rfl;have R1:Hid (Sl 0 3 D v' (ZAB (rj ++ [(v:Int)]))):=Sl.own R.1;have R2:Hid (Below wr.heap.size wr D):=R.2;have aE:wr.heap.size≤D.heap.size:=R.2.size;obtain ⟨xo,xc,ay⟩:=ZAD R.1;subst ay;clear R O s A Y;have ar:Hid (Fr w.heap.size 22 3 D u5 (ZAh k v ++ (cl.map (· ++ [(v:Int)])).take j)):=HX.out.below R2.out (Za4 _)
     have L:Hid (Fr y.heap.size 22 3 D (.slice (some ⟨b,o,none⟩) cl.length lc) cl):=HL.out.below R2.out (Za4 _);have aB:Hid (Below w.heap.size w D):=B.out.trans (R2.out.mono V);clear HX HL B;obtain ⟨vs,g1,g2,g3⟩:=ar.out
     have c:(ZAh k v ++ (cl.map (· ++ [(v:Int)])).take j).length=(ZAh k v).length+j:=by
      rw [Zaa4,List.length_take,Zab1]; omega
     have r:=hid c;rw [c] at g1 g2 g3;have G1:=hid g1;have G2:=hid g2;have G3:=hid g3;clear g1 g2 g3 c
     go_wp2_with (first | (at_builtin; refine wpList_append_own_at _ rfl _ _ 25 rfl w.heap.size 22 i0 (.slice none 0 0) 1 24 Tryz.underlying25 hi aj ak au rfl (by decide) _ _ _ rfl (G2.out.alloc _) ⟨D.heap.size,0,none⟩ 1 1 [.slice xo (rj.length+1) xc] rfl rfl (ZAQ _ _ _) (ZAL _ _ _) ?d3 ?d4 ?d5 ?_))
     case d3=>unfold maxLen; omega
     case d4=>omega
     case d5=>simp; omega
     intro v2 w4 O s _ G
     have S1:Hid (Fr w.heap.size 22 3 w4 v2 (ZAh k v ++ (cl.map (· ++ [(v:Int)])).take (j+1))):=by
      have hp:=Fr.push (e2:=22) (e1:=3) (m:=ZAh k v ++ (cl.map (· ++ [(v:Int)])).take j) (u:=.slice xo (rj.length+1) xc) (zs:=rj ++ [(v:Int)]) (by decide) (by rw [r.out]; exact G1.out) (by rw [r.out]; exact G2.out.alloc _)
       (fun i hi=>(G3.out i (by rw [r.out] at hi; exact hi)).alloc _) (R1.out.alloc _) (by rw [r.out]; exact O) s
      rw [←az.out,←ZP4 rfl hjl] at hp;exact hp
     have S2:Hid (Below w.heap.size w w4):=(aB.out.alloc (by omega) _).grown s (by simp; omega) (fun x hx=>(G2.out.lt x hx).1)
     have S3:Hid (Fr y.heap.size 22 3 w4 (.slice (some ⟨b,o,none⟩) cl.length lc) cl):=(L.out.alloc _).kept (by decide) (G2.out.alloc _) s HA.out
     have S4:Hid (ZKF v2 (.slice (some ⟨b,o,none⟩) cl.length lc)):=by
      intro g t aa
      rcases G with h | h
      ·rw [h] at t; exact HA.out g t aa
      ·rw [h] at t
       simp only [Zaa9] at t;obtain ⟨_,_,q2,_⟩:=L.out;have:=(q2.lt g aa).2;omega
     clear O s G;go_wp2
     go_roundw
     case rel=>exact ⟨j+1,by omega,by go_num,S1.out,S2.out,S3.out,S4.out⟩
     case measure=>simp [intOf]; omega
    ·go_wp2
     go_roundw
     case rel=>
      refine ⟨v+1,by omega,by omega,by go_num,?_,B.out⟩
      have h:=HX.out
      rw [Zaa2 (by simp; omega),←a.out,←ZFg an] at h
      exact h
     case measure=>simp [intOf]; omega
  ·go_wp2
   go_ret;refine ⟨_,rfl,?_,HB.out⟩;have h:=HR.out
   have e:ZAO (k+1) n=ZAh k v:=by
    unfold ZAh; simp only [ZAO]
    by_cases hkn:k≤n
    ·rw [show n=v by omega]
    ·rw [show n-k=0 by omega,show v-k=0 by omega]
   rw [e]; exact h
theorem ZHV(k:Nat)(hk5:k≤4)(ih:ZBZ k):ZBZ (k+1):=by
 intro n w a;rw [Int.natCast_succ];exact ZHU k hk5 ih n w a
theorem ZDU(k:Nat)(hk:k≤5):ZBZ k:=by
 induction k with
 | zero=>exact ZHT
 | succ k ih=>exact ZHV k (by omega) (ih (by omega))
end Go.Proofs.YtgfnmkenpgnllaaGreat
