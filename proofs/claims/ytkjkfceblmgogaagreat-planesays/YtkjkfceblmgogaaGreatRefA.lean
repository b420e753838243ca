import Derived.Test.YtkjkfceblmgogaaGreatRefs
import Derived.Test.YtkjkfceblmgogaaGreatStepsAll
import Derived.Deep.DrawnRows
set_option maxRecDepth 100000
set_option maxHeartbeats 1600000
namespace Go.Proofs.YtkjkfceblmgogaaGreat
open Go.RowKit
attribute [local go_sem ↓] Go.wp_at_zero Go.wp_at_succ
def ZAu(m:List (List Int))(c:List Int):List (List Int):=m.map fun r=>c.map fun q=>r.getD q.toNat 0
theorem ZJY(m:List (List Int))(c:List Int)(k:Nat)(h:k < m.length):(ZAu m c).take (k+1)=(ZAu m c).take k ++ [c.map fun q=>(m.getD k []).getD q.toNat 0]:=by
 unfold ZAu
 rw [Zaa1 (by simpa using h)]; simp [h]
theorem ZBB(m:List (List Int))(c:List Int):(ZAu m c).length=m.length:=by simp [ZAu]
theorem ZRQ{M j:Nat}{wa wr w3:World}{v v':Value}{o:Obj}{t l:List Int}{z:Int}(hB:Below M wa wr)(hsz:M≤wr.heap.size)(hl:t.length=j)(h:wr.ownsRow M 3 1 v j (ZAB t))
 (ho:w3.ownsRow M 3 1 v' (j+1) (ZAB t ++ [.int .i64 z]))(hg:(wr.drew.alloc o).grownBy w3 v.ownBlock)(hz:l=t ++ [z]):w3.ownsRow M 3 1 v' (j+1) (ZAB l)∧Below M wa w3:=by
 subst hl hz;exact ZBR (w:=wr.drew) hsz (l:=t) h hB.drew ho hg rfl
theorem ZRR{M:Nat}{wa w3:World}(hB:Below M wa w3){a1 a2 a3:Addr}{v1 v2 v3:Value}(h:((a1.block < M∧wa.cell? a1=some v1)∧(a2.block < M∧wa.cell? a2=some v2))∧(a3.block < M∧wa.cell? a3=some v3)) :
  Hid (w3.cell? a1=some v1∧w3.cell? a2=some v2∧w3.cell? a3=some v3):=
 ⟨(hB.cell h.1.1.1).trans h.1.1.2,(hB.cell h.1.2.1).trans h.1.2.2,(hB.cell h.2.1).trans h.2.2⟩
theorem ZEC(B:Nat)(m:List (List Int))(c:List Int)(v u:Value)(w:World)(hv:Mat B 27 3 w v m)(hu:Sl B 3 w u (ZAB c))(hm:m.length≤1000000)(hcl:c.length≤1000000)
 (hq:∀q∈c,0≤q∧∀r∈m,q < r.length) :
  Calls Tryz.prog 67 #[v,u] w fun e w'=>∃x,e=.returned x∧Rws w.heap.size 27 3 w' x (ZAu m c)∧Below w.heap.size w w':=by
 obtain ⟨i0,hi,ar,an,af⟩:=info_parts Tryz.info27;obtain ⟨i3,au,aa,L,ae⟩:=info_parts Tryz.info3;obtain ⟨ao,aj,az,aM,aQ⟩:=ZAD hv;obtain ⟨bo,aA,ak,aN,aJ⟩:=ZAI hu;subst az ak;have HV:Hid (Mat B 27 3 w (.slice ao m.length aj) m):=hv;have HU:=hid hu;have HQ:=hid hq;clear hv hu hq;go_enter Tryz.func67,Tryz.ntmps67;go_wp2
 go_loopw [5,6] (fun x i wr=>∃k:Nat,k≤m.length∧i=.int .i64 k∧Rws w.heap.size 27 3 wr x ((ZAu m c).take k)∧Below w.heap.size w wr) (fun _ i _=>m.length-(intOf i).toNat)
 case atStart=>exact ⟨0,Za5 _,rfl,Rws.nil _ _ _ _,Below.refl _ _⟩
 case round=>
  obtain ⟨k,hk,rfl,X,f⟩:=hrel
  obtain ⟨n,rfl⟩:∃n,n=wr:=⟨wr,rfl⟩
  have HR:=hid X;have HB:=hid f;have aS:w.heap.size≤n.heap.size:=f.size;clear X f
  by_cases hlt:k < m.length
  ·obtain ⟨b,o,cp,r1,hs,aH,s,P⟩:=ZAP (HV.out.below HB.out (Za4 _)) hlt
   simp only [Za3] at hs;obtain ⟨rfl,_,rfl⟩:=hs;have aC:=hid P;have aw:Hid (Sl B 3 n (.slice bo c.length aA) (ZAB c)):=HU.out.below HB.out (Za4 _);clear P
   obtain ⟨M,hM⟩:∃M,M=n.heap.size:=⟨_,rfl⟩
   have F:=hid hM
   have am:w.heap.size≤M:=by omega
   clear hM;go_wp2
   go_loopw [7,8] (fun x i wq=>∃j:Nat,j≤c.length∧i=.int .i64 j∧wq.ownsRow M 3 1 x j (ZAB ((c.map fun q=>(m.getD k []).getD q.toNat 0).take j))∧Below M n wq) (fun _ i _=>c.length-(intOf i).toNat)
   case atStart=>exact ⟨0,Za5 _,rfl,World.ownsRow_nil _ _ _ _,Below.refl _ _⟩
   case round=>
    obtain ⟨j,hj,rfl,y,f⟩:=hrel;have O:=hid y;have g:=hid f
    have U:M≤wr.heap.size:=by have:=f.size; rw [F.out]; exact this
    clear y f
    by_cases hjl:j < c.length
    ·obtain ⟨V,o2,aO,J,aI,d⟩:=ZAK aw.out hjl
     simp only [Za3] at J;obtain ⟨rfl,_,rfl⟩:=J
     have T:wr.cell? ⟨V,o2+j,none⟩=some (.int .i64 (c.getD j 0)):=(g.out.cell (by rw [F.out]; exact ZAH d)).trans d
     have aR:wr.cell? ⟨b,o+k,none⟩=some r1:=(g.out.cell (by rw [F.out]; exact ZAH s)).trans s
     have t:c.getD j 0∈c:=by simp [hjl]
     obtain ⟨S,N⟩:=HQ.out _ t
     have aB:c.getD j 0 < (m.getD k []).length:=N _ (by simp [hlt])
     clear t N;obtain ⟨q,D⟩:=Int.eq_ofNat_of_zero_le S
     obtain ⟨z,hz⟩:∃z,z=(m.getD k []).getD q 0:=⟨_,rfl⟩
     have HZ:Hid ((c.map fun q=>(m.getD k []).getD q.toNat 0).take (j+1)=(c.map fun q=>(m.getD k []).getD q.toNat 0).take j ++ [z]):=by
      have e:=ZFj (fun q=>(m.getD k []).getD q.toNat 0) c j hjl
      have e2:c[j]=(q:Int):=by rw [←D]; simp [hjl]
      rw [hz,←Int.toNat_natCast q,←e2]; exact e
     have ag:Hid (((c.map fun q=>(m.getD k []).getD q.toNat 0).take j).length=j):=by
      show _=_
      simp; omega
     obtain ⟨A,E,Q,ah,aL,a⟩:=ZAK aC.out (k:=q) (by omega)
     subst ah;rw [D] at T aB d;rw [←hz] at a
     have aD:wr.cell? ⟨A,E+q,none⟩=some (.int .i64 z):=(g.out.cell (by rw [F.out]; exact ZAH a)).trans a
     generalize hln:(m.getD k []).length=ln at *
     have KA:Hid (((b < M∧n.cell? ⟨b,o+k,none⟩=some (.slice (some ⟨A,E,none⟩) ln Q))∧(V < M∧n.cell? ⟨V,o2+j,none⟩=some (.int .i64 q)))∧(A < M∧n.cell? ⟨A,E+q,none⟩=some (.int .i64 z))):=by
      rw [F.out]; exact ⟨⟨⟨ZAH s,s⟩,⟨ZAH d,d⟩⟩,⟨ZAH a,a⟩⟩
     clear d a
     have aP:(k:Int) < (m.length:Int):=by omega
     have aK:(j:Int) < (c.length:Int):=by omega
     have aG:(0:Int)≤(k:Int):=by omega
     have aE:(0:Int)≤(j:Int):=by omega
     have aF:(0:Int)≤(q:Int):=by omega
     clear D hz S hln;go_wp2
     go_region_held3 (fun w'=>w'.cell? ⟨b,o+k,none⟩=some (.slice (some ⟨A,E,none⟩) ln Q)∧w'.cell? ⟨V,o2+j,none⟩=some (.int .i64 q)∧w'.cell? ⟨A,E+q,none⟩=some (.int .i64 z)) (first | go_keep | exact KS.out)
      ((refine ZAo (by rfl) _ _ 27 (by rfl) M 3 i3 (.int .i64 0) 1 8 Tryz.underlying27 au aa L ae rfl (by decide) _ _ _ (by rfl) (O.out.drew.alloc _) ⟨wr.heap.size,0,none⟩ 1 1 [.int .i64 z] (by rfl) rfl (ZAS _ _ _) (ZA6 _) (by unfold maxLen; omega) (by omega) (by simp; omega) ?_; intro v' R Y G; have RR:=ZRQ g.out U ag.out O.out Y G (hz:=HZ.out); have KS:=ZRR (a1:=⟨b,o+k,none⟩) (a2:=⟨V,o2+j,none⟩) (a3:=⟨A,E+q,none⟩) RR.2 KA.out))
     have R1:Hid (R.ownsRow M 3 1 v' (j+1) (ZAB ((c.map fun q=>(m.getD k []).getD q.toNat 0).take (j+1)))):=RR.1
     have R2:Hid (Below M n R):=RR.2;clear RR Y G KS;go_wp2
     go_roundw
     case rel=>exact ⟨j+1,by omega,by go_num,R1.out,R2.out⟩
     case measure=>simp [intOf]; omega
    ·have HX:Hid (Sl w.heap.size 3 wr u7 (ZAB (c.map fun q=>(m.getD k []).getD q.toNat 0))):=by
      have h:=O.out
      rw [Zaa2 (by simp; omega)] at h
      exact Sl.own h
     have ay:Hid (Rws w.heap.size 27 3 wr u5 ((ZAu m c).take k)):=HR.out.below g.out (by rw [F.out]; exact Za4 _)
     have ai:Hid (Below w.heap.size w wr):=HB.out.trans (g.out.mono am);obtain ⟨xo,xc,aq⟩:=ZAE O.out;subst aq;obtain ⟨vs,g1,g2,g3⟩:=ay.out
     have l:((ZAu m c).take k).length=k:=by rw [List.length_take,ZBB]; omega
     have p:=hid l;rw [l] at g1 g2 g3;have G1:=hid g1;have G2:=hid g2;have G3:=hid g3;clear g1 g2 g3 l O
     go_wp2_with (first | (at_builtin; refine wpList_append_own _ rfl _ _ 22 rfl w.heap.size 27 i0 (.slice none 0 0) 1 24 Tryz.underlying22 hi ar an af rfl (by decide) _ _ _ rfl (G2.out.alloc _) ⟨wr.heap.size,0,none⟩ 1 1 [.slice xo j xc] rfl rfl (ZAS _ _ _) (ZAM _ _ _) ?d3 ?d4 ?d5 ?_))
     case d3=>unfold maxLen; omega
     case d4=>omega
     case d5=>simp; omega
     intro v' R Y G _
     have R1:Hid (Rws w.heap.size 27 3 R v' ((ZAu m c).take (k+1))):=by
      have hp:=Rws.push (e2:=27) (e1:=3) (m:=(ZAu m c).take k) (u:=.slice xo j xc) (zs:=c.map fun q=>(m.getD k []).getD q.toNat 0) (by decide) (by rw [p.out]; exact G1.out) (by rw [p.out]; exact G2.out.alloc _)
       (fun i hi=>(G3.out i (by rw [p.out] at hi; exact hi)).alloc _) (HX.out.alloc _) (by rw [p.out]; exact Y) G
      rw [←ZJY m c k hlt] at hp;exact hp
     have R2:Hid (Below w.heap.size w R):=(ai.out.alloc (by omega) _).grown G (by simp; omega) (fun x hx=>(G2.out.lt x hx).1)
     clear Y G;go_wp2
     go_roundw
     case rel=>exact ⟨k+1,by omega,by go_num,R1.out,R2.out⟩
     case measure=>simp [intOf]; omega
  ·go_wp2
   go_ret;have h:=HR.out
   rw [Zaa2 (by rw [ZBB]; omega)] at h
   exact ⟨_,rfl,h,HB.out⟩
end Go.Proofs.YtkjkfceblmgogaaGreat
namespace Go.Proofs.YtkjkfceblmgogaaGreat
open Go.RowKit
def Fr(B:Nat)(e2 e1:TypeId)(w:World)(v:Value)(m:List (List Int)):Prop:=
 ∃vs,vs.length=m.length∧w.ownsRow B e2 1 v m.length vs∧∀i,i < m.length→Sl 0 e1 w (vs.getD i (.slice none 0 0)) (ZAB (m.getD i []))
theorem Fr.rws{B:Nat}{e2 e1:TypeId}{w:World}{v:Value}{m:List (List Int)}(h:Fr B e2 e1 w v m):Rws B e2 e1 w v m:=by
 obtain ⟨a,b,c,d⟩:=h
 exact ⟨a,b,c,fun i hi=>(d i hi).more (Za5 _)⟩
theorem Fr.nil(B:Nat)(e2 e1:TypeId)(w:World):Fr B e2 e1 w (.slice none 0 0) []:=
 ⟨[],rfl,World.ownsRow_nil _ _ _ _,fun i hi=>absurd hi (by simp)⟩
theorem Fr.below{B N:Nat}{e2 e1:TypeId}{w w':World}{v:Value}{m:List (List Int)}(h:Fr B e2 e1 w v m)(hb:Below N w w')(hN:w.heap.size≤N):Fr B e2 e1 w' v m:=by
 obtain ⟨a,b,c,d⟩:=h
 exact ⟨a,b,ZAQ c hb hN,fun i hi=>(d i hi).below hb hN⟩
theorem Fr.alloc{B:Nat}{e2 e1:TypeId}{w:World}{v:Value}{m:List (List Int)}(h:Fr B e2 e1 w v m)(o:Obj):Fr B e2 e1 (w.alloc o) v m:=by
 obtain ⟨a,b,c,d⟩:=h
 exact ⟨a,b,c.alloc o,fun i hi=>(d i hi).alloc o⟩
theorem Fr.kept{B B' n:Nat}{e2 e1:TypeId}{w w':World}{v u:Value}{m:List (List Int)}{us:List Value}(hne:e2≠e1)(h:Fr B e2 e1 w v m)(hu:w.ownsRow B' e2 1 u n us)(hg:w.grownBy w' u.ownBlock)
 (ha:∀g,u.ownBlock=some g→v.ownBlock≠some g):Fr B e2 e1 w' v m:=by
 obtain ⟨a,b,c,d⟩:=h
 refine ⟨a,b,c.kept hg ?_,fun i hi=>(d i hi).grown hg (fun k hk=>⟨Za5 _,(ZAt hu hne k hk).2⟩)⟩
 cases hv:v.ownBlock with
 | none=>exact Or.inl rfl
 | some g=>exact Or.inr fun e=>ha g e.symm hv
theorem Fr.push{B:Nat}{e2 e1:TypeId}{w w':World}{v v' u:Value}{m:List (List Int)}{vs:List Value}{zs:List Int}(hne:e2≠e1)
 (h1:vs.length=m.length)(h2:w.ownsRow B e2 1 v m.length vs)(h3:∀i,i < m.length→Sl 0 e1 w (vs.getD i (.slice none 0 0)) (ZAB (m.getD i [])))(hu:Sl 0 e1 w u (ZAB zs))
 (ho:w'.ownsRow B e2 1 v' (m.length+1) (vs ++ [u]))(hg:w.grownBy w' v.ownBlock):Fr B e2 e1 w' v' (m ++ [zs]):=by
 have d:∀k,v.ownBlock=some k→0≤k∧∀cur,w.heap[k]?≠some (.cells cur e1 (0,0)):=fun k hk=>⟨Za5 _,(ZAt h2 hne k hk).2⟩
 refine ⟨vs ++ [u],by simp [h1],by simpa using ho,fun i hi=>?_⟩
 by_cases hlt:i < m.length
 ·have a:(vs ++ [u]).getD i (.slice none 0 0)=vs.getD i (.slice none 0 0):=by
   simp only [Za2]; rw [Za7 (by omega)]
  have b:(m ++ [zs]).getD i []=m.getD i []:=by
   simp only [Za2]; rw [Za7 (by omega)]
  rw [a,b];exact (h3 i hlt).grown hg d
 ·have c:i=m.length:=by simp at hi; omega
  subst c
  have a:(vs ++ [u]).getD m.length (.slice none 0 0)=u:=by
   rw [←h1]; simp
  have b:(m ++ [zs]).getD m.length []=zs:=by simp
  rw [a,b];exact hu.grown hg d
def ZKV(x l:Value):Prop:=∀g,x.ownBlock=some g→l.ownBlock≠some g
def ZAN:Nat→Nat→List (List Int)
 | 0,_=>[[]]
 | k+1,n=>(List.range' k (n-k)).flatMap fun v=>(ZAN k v).map (· ++ [(v:Int)])
def ZAh(k v:Nat):List (List Int):=(List.range' k (v-k)).flatMap fun v=>(ZAN k v).map (· ++ [(v:Int)])
theorem ZFm{k v:Nat}(h:k≤v):ZAh k (v+1)=ZAh k v ++ (ZAN k v).map (· ++ [(v:Int)]):=by
 unfold ZAh
 rw [show v+1-k=(v-k)+1 by omega,List.range'_concat,List.flatMap_append]
 simp [show k+(v-k)=v by omega]
theorem ZBr:∀k n,n≤64→(ZAN k n).length≤64 ^ k:=by
 intro k
 induction k with
 | zero=>intro n _; simp [ZAN]
 | succ k ih=>
  intro n d
  have b:∀t,k+t≤64→((List.range' k t).flatMap fun v=>(ZAN k v).map (· ++ [(v:Int)])).length≤t*64 ^ k:=by
   intro t
   induction t with
   | zero=>intro _; simp
   | succ t it=>
    intro c;rw [List.range'_concat,List.flatMap_append,Zaa4]
    have:=it (by omega)
    have a:=ih (k+t) (by omega)
    simp only [List.flatMap_cons,List.flatMap_nil,List.append_nil,Zab1,Nat.one_mul];rw [Nat.add_mul]; omega
  have a:=b (n-k);simp only [ZAN]
  by_cases hk:k≤n
  ·have:=a (by omega)
   rw [Nat.pow_succ]
   have f:(n-k)*64 ^ k≤64*64 ^ k:=Nat.mul_le_mul_right _ (by omega)
   rw [Nat.mul_comm (64 ^ k)]; omega
  ·have:n-k=0:=by omega
   rw [this]; simp
theorem ZBC:∀k n l,l∈ZAN k n→l.length=k:=by
 intro k
 induction k with
 | zero=>intro n l h; simp [ZAN] at h; subst h; rfl
 | succ k ih=>
  intro n l h;simp only [ZAN,List.mem_flatMap,List.mem_map] at h;obtain ⟨v,_,a,b,rfl⟩:=h;simp [ih v a b]
theorem ZHf(w:World):Fr w.heap.size 27 3 ((w.alloc (.cells #[] 3)).alloc (.cells #[.slice (some ⟨w.heap.size,0,none⟩) 0 0] 27)) (.slice (some ⟨w.heap.size+1,0,none⟩) 1 1) [[]]:=by
 refine ⟨[.slice (some ⟨w.heap.size,0,none⟩) 0 0],rfl,?_,fun i hi=>?_⟩
 ·have h:=World.ownsRow_lit (base:=w.heap.size) (e:=27) (size:=1) (w.alloc (.cells #[] 3)) #[.slice (some ⟨w.heap.size,0,none⟩) 0 0] 1 (by simp) (by simp [maxLen]) (by simp)
  simpa using h
 ·have:i=0:=by simp at hi; omega
  subst this
  exact ⟨some ⟨w.heap.size,0,none⟩,0,rfl,by simp [ZAB],by simp [maxLen],fun i hi=>absurd hi (by simp [ZAB]),fun h=>by cases h⟩
def ZBY(k:Nat):Prop:=∀(n:Nat) (w:World),n≤64→
 Calls Tryz.prog 65 #[.int .i64 n,.int .i64 k] w fun e w'=>∃x,e=.returned x∧Fr w.heap.size 27 3 w' x (ZAN k n)∧Below w.heap.size w w'
theorem ZHg:ZBY 0:=by
 intro n w a;go_enter Tryz.func65,Tryz.ntmps65;go_wp2;go_ret
 exact ⟨_,rfl,ZHf w,((Below.refl _ _).alloc (Za4 _) _).alloc (by simp) _⟩
theorem ZQW{v i:Nat}{m:List (List Int)}{l:List (List Int)}(hm:m=l)(hi:i < l.length)(A:List (List Int)) :
  A ++ (m.map (· ++ [(v:Int)])).take (i+1)=(A ++ (m.map (· ++ [(v:Int)])).take i) ++ [l.getD i [] ++ [(v:Int)]]:=by
 subst hm
 rw [Zaa1 (by simpa using hi),List.append_assoc]
 simp [hi]
theorem ZHh(k:Nat)(hk5:k≤4)(ih:ZBY k)(n:Nat)(w:World)(hn:n≤64) :
  Calls Tryz.prog 65 #[.int .i64 n,.int .i64 ((k:Int)+1)] w fun e w'=>∃x,e=.returned x∧Fr w.heap.size 27 3 w' x (ZAN (k+1) n)∧Below w.heap.size w w':=by
 obtain ⟨i0,hi,ay,au,aj⟩:=info_parts Tryz.info27;obtain ⟨i3,az,ag,G,ah⟩:=info_parts Tryz.info3
 have aH:Hid ((ZAN (k+1) n).length≤64 ^ 5):=Zaa8 (ZBr (k+1) n hn) (Nat.pow_le_pow_right (by omega) (by omega))
 have t0:((k:Int)+1 == 0)=false:=by simp; omega
 have ai:=hid ih;clear ih;go_enter Tryz.func65,Tryz.ntmps65;go_wp2
 go_loopw [5,6] (fun x i wr=>∃v:Nat,k≤v∧v≤max n k∧i=.int .i64 v∧Fr w.heap.size 27 3 wr x (ZAh k v)∧Below w.heap.size w wr) (fun _ i _=>n-(intOf i).toNat)
 case atStart=>
  refine ⟨k,Za4 _,by omega,by go_num,?_,Below.refl _ _⟩
  have:ZAh k k=[]:=by simp [ZAh]
  rw [this]; exact Fr.nil _ _ _ _
 case round=>
  obtain ⟨v,ak,aK,rfl,V,f⟩:=hrel
  obtain ⟨y,rfl⟩:∃y,y=wr:=⟨wr,rfl⟩
  have HR:=hid V;have HB:=hid f;have aB:w.heap.size≤y.heap.size:=f.size;clear V f
  by_cases hlt:v < n
  ·have a:v≤64:=by omega
   go_wp2_with fail
   refine (ai.out v y a).mono ?_;rintro e w1 ⟨lv,rfl,hf,B⟩
   have aI:(ZAN k v).length≤64 ^ 4:=Zaa8 (ZBr k v a) (Nat.pow_le_pow_right (by omega) (by omega))
   have aF:(ZAh k v).length≤64 ^ 5:=by
    have h1:=ZBr (k+1) v a
    exact Zaa8 h1 (Nat.pow_le_pow_right (by omega) (by omega))
   have HF:=hid hf;have t:Hid (Fr w.heap.size 27 3 w1 u5 (ZAh k v)):=HR.out.below B (Za4 _);have J:Hid (Below w.heap.size w w1):=HB.out.trans (B.mono aB)
   have Q:Hid (ZKV u5 lv):=by
    intro g r hl;obtain ⟨_,_,q1,_⟩:=HR.out;obtain ⟨_,_,q2,_⟩:=hf;have:=(q1.lt g r).2;have:=(q2.lt g hl).1;omega
   clear hf B HR HB;generalize hcl:ZAN k v=cl at *;have c:=hid hcl;clear hcl;obtain ⟨lo,lc,aq,aC,aE⟩:=ZAD (HF.out.rws.mat (Za4 _));subst aq;go_wp2
   go_loopw [5,8] (fun x i wq=>∃j:Nat,j≤cl.length∧i=.int .i64 j∧Fr w.heap.size 27 3 wq x (ZAh k v ++ (cl.map (· ++ [(v:Int)])).take j)∧Below w.heap.size w wq∧Fr y.heap.size 27 3 wq (.slice lo cl.length lc) cl∧
     ZKV x (.slice lo cl.length lc)) (fun _ i _=>cl.length-(intOf i).toNat)
   case atStart=>exact ⟨0,Za5 _,rfl,by simpa using t.out,J.out,HF.out,Q.out⟩
   case round=>
    obtain ⟨j,hj,rfl,hx,hb,hl,aa⟩:=hrel;have HX:=hid hx;have E:=hid hb;have HL:=hid hl;have HA:=hid aa;have U:w.heap.size≤wr.heap.size:=hb.size;clear hx hb hl aa t J HF Q
    by_cases hjl:j < cl.length
    ·obtain ⟨b,o,cp,r1,hs,aG,aA,O⟩:=ZAP (HL.out.rws.mat (Za4 _)) hjl
     simp only [Za3] at hs;obtain ⟨rfl,_,rfl⟩:=hs;have t:=hid O
     have P:(cl.getD j []).length=k:=by
      have:cl.getD j []∈cl:=by simp [hjl]
      rw [←c.out] at this;rw [←c.out]; exact ZBC k v _ this
     have aJ:=hid P
     have S:(cl.getD j []).length≤1000000:=by omega
     clear O P;generalize hrj:cl.getD j []=rj at *;have ar:=hid hrj;clear hrj
     go_wp2_with fail
     refine (ZBj y.heap.size _ r1 wr t.out S).mono ?_;rintro e w2 ⟨cv,rfl,ae,A⟩;have F:=hid ae;have T:=hid A;have M:wr.heap.size≤w2.heap.size:=A.size;clear ae A aA
     go_wp2_with (first | (at_builtin; refine wpList_append_own _ rfl _ _ 27 rfl wr.heap.size 3 i3 (.int .i64 0) 1 8 Tryz.underlying27 az ag G ah rfl (by decide) _ _ _ rfl (F.out.alloc _) ⟨w2.heap.size,0,none⟩ 1 1 [.int .i64 v] rfl rfl (ZAS _ _ _) (ZA6 _) ?c3 ?c4 ?c5 ?_))
     case c3=>unfold maxLen; omega
     case c4=>omega
     case c5=>simp; omega
     intro v' D X r _;have R:=ZBR (z:=(v:Int)) (N:=rj.length+1) M (l:=rj) F.out T.out X r rfl;have R1:Hid (Sl 0 3 D v' (ZAB (rj ++ [(v:Int)]))):=Sl.own R.1;have R2:Hid (Below wr.heap.size wr D):=R.2;have aD:wr.heap.size≤D.heap.size:=R.2.size;obtain ⟨xo,xc,aw⟩:=ZAE R.1;subst aw;clear R X r F T;have am:Hid (Fr w.heap.size 27 3 D u5 (ZAh k v ++ (cl.map (· ++ [(v:Int)])).take j)):=HX.out.below R2.out (Za4 _)
     have af:Hid (Fr y.heap.size 27 3 D (.slice (some ⟨b,o,none⟩) cl.length lc) cl):=HL.out.below R2.out (Za4 _);have an:Hid (Below w.heap.size w D):=E.out.trans (R2.out.mono U);clear HX HL E;obtain ⟨vs,g1,g2,g3⟩:=am.out
     have d:(ZAh k v ++ (cl.map (· ++ [(v:Int)])).take j).length=(ZAh k v).length+j:=by
      rw [Zaa4,List.length_take,Zab1]; omega
     have p:=hid d;rw [d] at g1 g2 g3;have G1:=hid g1;have G2:=hid g2;have G3:=hid g3;clear g1 g2 g3 d
     go_wp2_with (first | (at_builtin; refine wpList_append_own_at _ rfl _ _ 22 rfl w.heap.size 27 i0 (.slice none 0 0) 1 24 Tryz.underlying22 hi ay au aj rfl (by decide) _ _ _ rfl (G2.out.alloc _) ⟨D.heap.size,0,none⟩ 1 1 [.slice xo (rj.length+1) xc] rfl rfl (ZAS _ _ _) (ZAM _ _ _) ?d3 ?d4 ?d5 ?_))
     case d3=>unfold maxLen; omega
     case d4=>omega
     case d5=>simp; omega
     intro v2 w4 X r _ Y
     have S1:Hid (Fr w.heap.size 27 3 w4 v2 (ZAh k v ++ (cl.map (· ++ [(v:Int)])).take (j+1))):=by
      have hp:=Fr.push (e2:=27) (e1:=3) (m:=ZAh k v ++ (cl.map (· ++ [(v:Int)])).take j) (u:=.slice xo (rj.length+1) xc) (zs:=rj ++ [(v:Int)]) (by decide) (by rw [p.out]; exact G1.out) (by rw [p.out]; exact G2.out.alloc _)
       (fun i hi=>(G3.out i (by rw [p.out] at hi; exact hi)).alloc _) (R1.out.alloc _) (by rw [p.out]; exact X) r
      rw [←ar.out,←ZQW rfl hjl] at hp;exact hp
     have S2:Hid (Below w.heap.size w w4):=(an.out.alloc (by omega) _).grown r (by simp; omega) (fun x hx=>(G2.out.lt x hx).1)
     have S3:Hid (Fr y.heap.size 27 3 w4 (.slice (some ⟨b,o,none⟩) cl.length lc) cl):=(af.out.alloc _).kept (by decide) (G2.out.alloc _) r HA.out
     have S4:Hid (ZKV v2 (.slice (some ⟨b,o,none⟩) cl.length lc)):=by
      intro g s L
      rcases Y with h | h
      ·rw [h] at s; exact HA.out g s L
      ·rw [h] at s
       simp only [Zaa9] at s;obtain ⟨_,_,q2,_⟩:=af.out;have:=(q2.lt g L).2;omega
     clear X r Y;go_wp2
     go_roundw
     case rel=>exact ⟨j+1,by omega,by go_num,S1.out,S2.out,S3.out,S4.out⟩
     case measure=>simp [intOf]; omega
    ·go_wp2
     go_roundw
     case rel=>
      refine ⟨v+1,by omega,by omega,by go_num,?_,E.out⟩
      have h:=HX.out
      rw [Zaa2 (by simp; omega),←c.out,←ZFm ak] at h
      exact h
     case measure=>simp [intOf]; omega
  ·go_wp2
   go_ret;refine ⟨_,rfl,?_,HB.out⟩;have h:=HR.out
   have e:ZAN (k+1) n=ZAh k v:=by
    unfold ZAh; simp only [ZAN]
    by_cases hkn:k≤n
    ·rw [show n=v by omega]
    ·rw [show n-k=0 by omega,show v-k=0 by omega]
   rw [e]; exact h
theorem ZHi(k:Nat)(hk5:k≤4)(ih:ZBY k):ZBY (k+1):=by
 intro n w a;rw [Int.natCast_succ];exact ZHh k hk5 ih n w a
theorem ZDT(k:Nat)(hk:k≤5):ZBY k:=by
 induction k with
 | zero=>exact ZHg
 | succ k ih=>exact ZHi k (by omega) (ih (by omega))
end Go.Proofs.YtkjkfceblmgogaaGreat
