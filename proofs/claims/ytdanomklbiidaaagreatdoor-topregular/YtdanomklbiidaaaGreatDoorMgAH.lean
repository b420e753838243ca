import Derived.Test.YtdanomklbiidaaaGreatDoorMgAB
import Derived.Test.YtdanomklbiidaaaGreatDoorMgAG
import Derived.Deep.OwnRows
import Derived.Stop.RegionWithIn
import Derived.Laws.EntriesVeiled
namespace Go.Proofs.YtdanomklbiidaaaGreatDoor
def ext (n:Nat):Nat→Nat→List (List Int)
 | 0,_=>[[]]
 | k+1,fr=>(List.range' fr (n-fr)).flatMap fun i=>(ext n k (i+1)).map ((i:Int) :: ·)
theorem ext_step {n k fr:Nat} (h:fr < n):ext n (k+1) fr=(ext n k (fr+1)).map ((fr:Int) :: ·) ++ ext n (k+1) (fr+1):=by
 obtain ⟨d,hd⟩:∃d,n-fr=d+1:=⟨n-fr-1,by omega⟩
 simp only [ext]
 rw [hd,List.range'_succ,show n-(fr+1)=d by omega]
 simp
theorem ext_end {n k fr:Nat} (h:n≤fr):ext n (k+1) fr=[]:=by
 simp [ext,show n-fr=0 by omega]
def chz {α:Type} : Nat→List α→List (List α)
 | 0,_=>[[]]
 | _+1,[]=>[]
 | k+1,x :: xs=>((chz k xs).map (x :: ·)) ++ chz (k+1) xs
def pks {α:Type} (L:List α) (d:α) (c:List Int):List α:=c.map fun i=>L.getD i.toNat d
theorem drop_cons {α:Type} (L:List α) (d:α) {fr:Nat} (h:fr < L.length):L.drop fr=L.getD fr d :: L.drop (fr+1):=by
 rw [List.drop_eq_getElem_cons h]; simp [h]
theorem chz_ext {α:Type} (L:List α) (d:α):∀k fr,(ext L.length k fr).map (pks L d)=chz k (L.drop fr):=by
 intro k
 induction k with
 | zero=>intro fr; simp [ext,chz,pks]
 | succ k ih=>
  suffices h:∀m fr,L.length≤fr+m→(ext L.length (k+1) fr).map (pks L d)=chz (k+1) (L.drop fr) from fun fr=>h L.length fr (by omega)
  intro m
  induction m with
  | zero=>intro fr h; rw [ext_end (by omega),List.drop_of_length_le (by omega)]; simp [chz]
  | succ m ihm=>
   intro fr h
   by_cases hlt:fr < L.length
   ·rw [ext_step hlt,drop_cons L d hlt]
    simp only [chz,List.map_append]
    rw [ihm (fr+1) (by omega),←ih (fr+1)]
    simp [pks,Function.comp_def]
   ·rw [ext_end (by omega),List.drop_of_length_le (by omega)]; simp [chz]
theorem chz_mem {α:Type} : ∀{k:Nat} {l t:List α},t∈chz k l↔t.Sublist l∧t.length=k
 | 0,l,t=>by
  simp only [chz,List.mem_singleton]
  exact ⟨fun h=>by subst h; simp,fun h=>List.eq_nil_of_length_eq_zero h.2⟩
 | k+1,[],t=>by
  simp only [chz,List.not_mem_nil,false_iff]
  rintro ⟨h,hl⟩
  have:=h.length_le
  simp at this
  subst this
  simp at hl
 | k+1,x :: xs,t=>by
  simp only [chz,List.mem_append,List.mem_map]
  constructor
  ·rintro (⟨a,ha,rfl⟩ | h)
   ·have:=chz_mem.1 ha; exact ⟨this.1.cons_cons x,by simp [this.2]⟩
   ·have:=chz_mem.1 h; exact ⟨this.1.cons x,this.2⟩
  ·rintro ⟨h,hl⟩
   cases h with
   | cons _ h=>exact .inr (chz_mem.2 ⟨h,hl⟩)
   | cons_cons _ h=>exact .inl ⟨_,chz_mem.2 ⟨h,by simpa using hl⟩,rfl⟩
theorem ext_rise:∀{n k fr:Nat} {c:List Int},c∈ext n k fr→c.length=k∧(∀i,i < k→(fr:Int)≤c.getD i 0∧c.getD i 0 < n)∧∀i j,i < j→j < k→c.getD i 0 < c.getD j 0
 | n,0,fr,c,h=>by
  simp only [ext,List.mem_singleton] at h
  subst h
  exact ⟨rfl,fun i hi=>by omega,fun i j _ hj=>by omega⟩
 | n,k+1,fr,c,h=>by
  simp only [ext,List.mem_flatMap,List.mem_map,List.mem_range'_1] at h
  obtain ⟨v,hv,l,hl,rfl⟩:=h
  obtain ⟨h1,h2,h3⟩:=ext_rise hl
  refine ⟨by simp [h1],fun i hi=>?_,fun i j hij hj=>?_⟩
  ·cases i with
   | zero=>simp; omega
   | succ i=>have:=h2 i (by omega); simp only [List.getD_cons_succ]; omega
  ·cases j with
   | zero=>omega
   | succ j=>
    cases i with
    | zero=>have:=h2 j (by omega); simp only [List.getD_cons_zero,List.getD_cons_succ]; omega
    | succ i=>have:=h3 i j (by omega) (by omega); simpa only [List.getD_cons_succ] using this
theorem flat_sub {α:Type} {A B:List (List α)} (h:A.Sublist B):A.flatten.Sublist B.flatten:=by
 induction h with
 | slnil=>exact List.Sublist.refl _
 | cons x _ ih=>simp only [List.flatten_cons]; exact ih.trans (List.sublist_append_right _ _)
 | cons_cons x _ ih=>simp only [List.flatten_cons]; exact (List.Sublist.refl x).append ih
theorem few {α:Type} : ∀(L:List (List α)) (t:List α) (m:Nat),t.Sublist L.flatten→t.length≤m→∃A:List (List α),A.Sublist L∧A.length≤m∧t.Sublist A.flatten
 | [],t,m,h,_=>⟨[],List.Sublist.refl _,by simp,h⟩
 | x :: xs,t,m,h,hm=>by
  rw [List.flatten_cons] at h
  obtain ⟨a,b,rfl,ha,hb⟩:=List.sublist_append_iff.1 h
  by_cases ea:a=[]
  ·subst ea
   obtain ⟨A,h1,h2,h3⟩:=few xs b m hb (by simpa using hm)
   exact ⟨A,h1.cons x,h2,by simpa using h3⟩
  ·have:0 < a.length:=List.length_pos_iff.2 ea
   simp only [List.length_append] at hm
   obtain ⟨A,h1,h2,h3⟩:=few xs b (m-1) hb (by omega)
   exact ⟨x :: A,h1.cons_cons x,by simp; omega,by rw [List.flatten_cons]; exact ha.append h3⟩
theorem grow {α:Type} {A B:List α} (h:A.Sublist B):∀m,A.length≤m→m≤B.length→∃C:List α,A.Sublist C∧C.Sublist B∧C.length=m:=by
 induction h with
 | slnil=>intro m h1 h2; exact ⟨[],List.Sublist.refl _,List.Sublist.refl _,by simp at h2; simp [h2]⟩
 | @cons A B x h ih=>
  intro m h1 h2
  by_cases e:m≤B.length
  ·obtain ⟨C,c1,c2,c3⟩:=ih m h1 e
   exact ⟨C,c1,c2.cons x,c3⟩
  ·exact ⟨x :: B,h.cons x,List.Sublist.refl _,by simp at h2 ⊢; omega⟩
 | @cons_cons A B x h ih=>
  intro m h1 h2
  simp only [List.length_cons] at h1 h2
  obtain ⟨C,c1,c2,c3⟩:=ih (m-1) (by omega) (by omega)
  exact ⟨x :: C,c1.cons_cons x,c2.cons_cons x,by simp; omega⟩
theorem three {α:Type} (L:List (List α)) (h3:3≤L.length) (t:List α) (ht:t.Sublist L.flatten) (hl:t.length≤3) :
  ∃c∈ext L.length 3 0,t.Sublist (pks L [] c).flatten:=by
 obtain ⟨A,a1,a2,a3⟩:=few L t 3 ht hl
 obtain ⟨C,c1,c2,c3⟩:=grow a1 3 a2 h3
 have hm:C∈chz 3 L:=chz_mem.2 ⟨c2,c3⟩
 have hx:=chz_ext L [] 3 0
 rw [List.drop_zero] at hx
 rw [←hx] at hm
 obtain ⟨c,hc,rfl⟩:=List.mem_map.1 hm
 exact ⟨c,hc,a3.trans (flat_sub c1)⟩
end Go.Proofs.YtdanomklbiidaaaGreatDoor

namespace Go.Proofs.YtdanomklbiidaaaGreatDoor
open Go.RowKit Go.Shelf
attribute [local go_sem] Oper.semAt_some
def Hand (N0:Nat) (W:World) (S:Nat→Prop) (x:List Int) (vs:Array Value):Prop:=
 ∃v B0,vs=#[v]∧W.ownsRow B0 3 1 v x.length (ints x)∧(∀b,S b→b < B0)∧N0≤B0∧B0≤W.heap.size
structure Ox (W:World) (l n many bm by' bc bn bf ba:Nat):Prop where
 cm:W.cell? ⟨bm,0,none⟩=some (.int .i64 many)
 cy:W.cell? ⟨by',0,none⟩=some (.func (.yield l) #[] #[])
 cc:W.cell? ⟨bc,0,none⟩=some (.slice (some ⟨ba,0,none⟩) many many)
 cn:W.cell? ⟨bn,0,none⟩=some (.int .i64 n)
 cf:W.cell? ⟨bf,0,none⟩=some (.func (.func 30) #[] #[.pointer (some ⟨bm,0,none⟩),.pointer (some ⟨by',0,none⟩),.pointer (some ⟨bc,0,none⟩),.pointer (some ⟨bn,0,none⟩),.pointer (some ⟨bf,0,none⟩)])
theorem lt_cell0 {w:World} {b:Nat} {v:Value} (h:w.cell? ⟨b,0,none⟩=some v):b < w.heap.size:=World.block_lt_of_cell? w ⟨b,0,none⟩ h
theorem Ox.move {W W' : World} {l n many bm by' bc bn bf ba : Nat} (h : Ox W l n many bm by' bc bn bf ba)
    (hk : ∀ b, b = bm ∨ b = by' ∨ b = bc ∨ b = bn ∨ b = bf → b < W.heap.size → W'.heap[b]? = W.heap[b]?) : Ox W' l n many bm by' bc bn bf ba :=
  ⟨(World.cell?_of_block (w := W) (hk bm (.inl rfl) (lt_cell0 h.cm))).trans h.cm,
   (World.cell?_of_block (w := W) (hk by' (.inr (.inl rfl)) (lt_cell0 h.cy))).trans h.cy,
   (World.cell?_of_block (w := W) (hk bc (.inr (.inr (.inl rfl))) (lt_cell0 h.cc))).trans h.cc,
   (World.cell?_of_block (w := W) (hk bn (.inr (.inr (.inr (.inl rfl)))) (lt_cell0 h.cn))).trans h.cn,
   (World.cell?_of_block (w := W) (hk bf (.inr (.inr (.inr (.inr rfl)))) (lt_cell0 h.cf))).trans h.cf⟩
theorem Sl.row' {B b n:Nat} {t:TypeId} {w:World} {f:Nat→Value} (h:w.rowIs b t n f) (hn:n≤maxLen) {xs:List Value} (hx:xs.length=n) (hf:∀i,i < n→xs[i]?=some (f i)):Sl B t w (.slice (some ⟨b,0,none⟩) n n) xs:=by
 refine ⟨some ⟨b,0,none⟩,n,by rw [hx],by omega,hn,fun i hi=>⟨b,0,rfl,?_,?_⟩,fun h=>by cases h⟩
 ·have:=h.cell (i:=i) (by omega)
  simp only [Nat.zero_add]
  rw [this,hf i (by omega)]
 ·obtain ⟨c,h1,_⟩:=h
  exact Or.inr ⟨c,h1⟩
structure Bxo (S:Nat→Prop) (bm by' bc bn bf ba:Nat):Prop where
 m:S bm
 y:S by'
 c:S bc
 n:S bn
 f:S bf
 a:S ba
 ne:∀b,b=bm∨b=by'∨b=bc∨b=bn∨b=bf→b≠ba
theorem Bxo.of {S:Nat→Prop} {bm by' bc bn bf ba:Nat} (h:Bxo S bm by' bc bn bf ba) {b:Nat} (hb:b=bm∨b=by'∨b=bc∨b=bn∨b=bf):S b:=by
 rcases hb with rfl | rfl | rfl | rfl | rfl
 ·exact h.m
 ·exact h.y
 ·exact h.c
 ·exact h.n
 ·exact h.f
def FillSaid (k:Nat):Prop:=∀(N0 l n many bm by' bc bn bf ba:Nat) (S T:Nat→Prop) (J Jx:(Nat→Prop)→List (List Int)→World→Prop) (cs:List (List Int)),Stab J→Bxo S bm by' bc bn bf ba→many≤8→n≤1000→N0≤ba→
 (∀m S pre x vs W1,J S pre W1→(pre ++ [x]) <+: cs→Hand N0 W1 S x vs→YieldAt Fence.wide m Tryz.prog l vs W1 fun e W'=>Kpt (fun b=>S b∨T b) W1 W'∧
   ((e=.returned (.bool true)∧J S (pre ++ [x]) W')∨(e=.returned (.bool false)∧Jx S (pre ++ [x]) W')))→
 ∀(ix:List Int) (fr:Nat) (pre:List (List Int)) (f:Nat→Value) (W:World),ix.length+k=many→fr≤n→Ox W l n many bm by' bc bn bf ba→W.rowIs ba 3 many f→(∀j,j < ix.length→f j=.int .i64 (ix.getD j 0))→
  (∀b,S b→b < W.heap.size)→J S pre W→(pre ++ (ext n k fr).map (ix ++ ·)) <+: cs→
  CallsIn Fence.wide 0 Tryz.prog 30 #[.int .i64 ix.length,.int .i64 fr,.pointer (some ⟨bm,0,none⟩),.pointer (some ⟨by',0,none⟩),.pointer (some ⟨bc,0,none⟩),.pointer (some ⟨bn,0,none⟩),.pointer (some ⟨bf,0,none⟩)] W fun e W'=>
   (e=.returned (.bool true)∧J S (pre ++ (ext n k fr).map (ix ++ ·)) W'∧Ox W' l n many bm by' bc bn bf ba∧W.heap.size≤W'.heap.size∧∃f',W'.rowIs ba 3 many f'∧∀j,j < ix.length→f' j=f j)∨
   (e=.returned (.bool false)∧∃q,q <+: cs∧Jx S q W')
set_option maxRecDepth 100000 in
set_option maxHeartbeats 2000000 in
theorem fill_zero:FillSaid 0:=by
 intro N0 l n many bm by' bc bn bf ba S T J Jx cs hst hbx hm5 hn hN0 hY ix fr pre f W hk hfr ho hrow hf hsz hJ hpre
 have hk':ix.length=many:=by omega
 subst hk'
 have hext:(ext n 0 fr).map (ix ++ ·)=[ix]:=by simp [ext]
 rw [hext] at hpre ⊢
 have c1:=ho.cm
 have c2:=ho.cy
 have c3:=ho.cc
 have HV:Hid (Sl 0 3 W.drew (.slice (some ⟨ba,0,none⟩) ix.length ix.length) (ints ix)):=Sl.row' hrow (by unfold maxLen; omega) (by simp) (fun i hi=>by rw [hf i hi,ints_get ix i hi])
 have HCL:Hid (Calls Tryz.prog 31 #[.slice (some ⟨ba,0,none⟩) ix.length ix.length] W.drew fun e w'=>∃u,e=.returned u∧w'.ownsRow W.heap.size 3 1 u ix.length (ints ix)∧Below W.heap.size W.drew w'):=clone_any 0 ix _ W.drew HV.out (by omega)
 have HYY:Hid (∀u w1,w1.ownsRow W.heap.size 3 1 u ix.length (ints ix)→Below W.heap.size W.drew w1→YieldAt Fence.wide 0 Tryz.prog l #[u] w1 fun e W'=>
   ∃b,e=.returned (.bool b)∧((b=true∧J S (pre ++ [ix]) W'∧Kpt (fun b=>S b∨T b) w1 W'∧Below W.heap.size W.drew w1)∨(b=false∧Jx S (pre ++ [ix]) W'))):=fun u w1 h1 h2=>
  YieldAt.mono (hY 0 S pre ix #[u] w1 (hst S S pre W w1 hJ (Chg.of_below (a:=W) (N:=W.heap.size) ⟨h2.os,h2.tape,h2.output,h2.size,h2.block⟩ (Nat.le_refl _)) (fun b hb=>.inl hb)) hpre ⟨u,W.heap.size,rfl,h1,hsz,by have:=hsz ba hbx.a; omega,h2.size⟩) fun e W' h=>h.2.elim (fun ⟨a,b⟩=>⟨true,a,.inl ⟨rfl,b,h.1,h2⟩⟩) (fun ⟨a,b⟩=>⟨false,a,.inr ⟨rfl,b⟩⟩)
 have HO:Hid (Ox W l n ix.length bm by' bc bn bf ba):=ho
 have HR:Hid (W.rowIs ba 3 ix.length f):=hrow
 have HSZ:Hid (∀b,S b→b < W.heap.size):=hsz
 have HBX:Hid (Bxo S bm by' bc bn bf ba):=hbx
 have HPRE:Hid ((pre ++ [ix]) <+: cs):=hpre
 have HLT:Hid (by' < W.heap.size):=lt_cell0 c2
 clear hst hY ho hrow hf hsz hJ hpre hbx hext
 refine callsIn_of_wp Tryz.func30 rfl trivial ?_ rfl
 simp only [Tryz.ntmps30,List.size_toArray,List.length_cons,List.length_nil,Nat.reduceAdd,Nat.reduceSub,Array.replicate_succ,Array.replicate_zero,List.push_toArray,List.append_toArray,List.nil_append,List.cons_append]
 gi_wp2_with fail
 gi_region_with (first | (refine ⟨trivial,rfl,?_⟩; gi_at_call 31; refine (callsIn_wide.2 HCL.out).mono ?_; rintro e w1 ⟨u,rfl,h1,h2⟩; have c2':=(h2.cell (p:=⟨by',0,none⟩) HLT.out).trans c2; obtain ⟨fn,tmps,assign,body,hy,hR⟩:=HYY.out u w1 h1 h2; clear h1 h2) | (refine ⟨rfl,?_⟩; refine hR.mono ?_; clear hR hy; rintro e W' ⟨b,rfl,hP⟩; have HP:Hid ((b=true∧J S (pre ++ [ix]) W'∧Kpt (fun b=>S b∨T b) w1 W'∧Below W.heap.size W.drew w1)∨(b=false∧Jx S (pre ++ [ix]) W')):=hP; clear hP))
 all_goals
  gi_wp2
  go_ret
  rcases HP.out with ⟨rfl,hJ',hkp,hb⟩ | ⟨rfl,hJx⟩
  ·have hkw:∀b,S b→b < W.heap.size→W'.heap[b]?=W.heap[b]?:=fun b hb1 hb2=>(hkp.block b (Nat.lt_of_lt_of_le hb2 hb.size) (.inl hb1)).trans (hb.block b hb2)
   refine .inl ⟨rfl,hJ',HO.out.move (fun b hb1 hb2=>hkw b (HBX.out.of hb1) hb2),Nat.le_trans hb.size hkp.size,f,?_,fun _ _=>rfl⟩
   obtain ⟨c,q1,q2,q3⟩:=HR.out
   exact ⟨c,(hkw ba HBX.out.a (HSZ.out ba HBX.out.a)).trans q1,q2,q3⟩
  ·exact .inr ⟨rfl,_,HPRE.out,hJx⟩
end Go.Proofs.YtdanomklbiidaaaGreatDoor

namespace Go.Proofs.YtdanomklbiidaaaGreatDoor
open Go.RowKit Go.Shelf
attribute [local go_sem] Oper.semAt_some
theorem ext_cons_map {n k fr:Nat} (h:fr < n) (ix:List Int):(ext n (k+1) fr).map (ix ++ ·)=(ext n k (fr+1)).map ((ix ++ [(fr:Int)]) ++ ·) ++ (ext n (k+1) (fr+1)).map (ix ++ ·):=by
 rw [ext_step h]
 simp [Function.comp_def]
set_option maxRecDepth 100000 in
set_option maxHeartbeats 4000000 in
theorem fill_succ (k:Nat) (ih:FillSaid k):FillSaid (k+1):=by
 intro N0 l n many bm by' bc bn bf ba S T J Jx cs hst hbx hm5 hn hN0 hY ix fr pre f W hk hfr ho hrow hf hsz hJ hpre
 have HIH:Hid (∀(ix:List Int) (fr:Nat) (pre:List (List Int)) (f:Nat→Value) (W:World),ix.length+k=many→fr≤n→Ox W l n many bm by' bc bn bf ba→W.rowIs ba 3 many f→(∀j,j < ix.length→f j=.int .i64 (ix.getD j 0))→
  (∀b,S b→b < W.heap.size)→J S pre W→(pre ++ (ext n k fr).map (ix ++ ·)) <+: cs→
  CallsIn Fence.wide 0 Tryz.prog 30 #[.int .i64 ix.length,.int .i64 fr,.pointer (some ⟨bm,0,none⟩),.pointer (some ⟨by',0,none⟩),.pointer (some ⟨bc,0,none⟩),.pointer (some ⟨bn,0,none⟩),.pointer (some ⟨bf,0,none⟩)] W fun e W'=>
   (e=.returned (.bool true)∧J S (pre ++ (ext n k fr).map (ix ++ ·)) W'∧Ox W' l n many bm by' bc bn bf ba∧W.heap.size≤W'.heap.size∧∃f',W'.rowIs ba 3 many f'∧∀j,j < ix.length→f' j=f j)∨
   (e=.returned (.bool false)∧∃q,q <+: cs∧Jx S q W')):=ih N0 l n many bm by' bc bn bf ba S T J Jx cs hst hbx hm5 hn hN0 hY
 have HST:Hid (Stab J):=hst
 have HBX:Hid (Bxo S bm by' bc bn bf ba):=hbx
 have HO:Hid (Ox W l n many bm by' bc bn bf ba):=ho
 have HRW:Hid (W.rowIs ba 3 many f):=hrow
 have HF:Hid (∀j,j < ix.length→f j=.int .i64 (ix.getD j 0)):=hf
 have HSZ:Hid (∀b,S b→b < W.heap.size):=hsz
 have HJ:Hid (J S pre W):=hJ
 have HPRE:Hid ((pre ++ (ext n (k+1) fr).map (ix ++ ·)) <+: cs):=hpre
 have c1:=ho.cm
 have c2:=ho.cn
 have hne:((ix.length:Int) == (many:Int))=false:=by rw [beq_eq_false_iff_ne]; omega
 clear hst hbx hY ho hrow hf hsz hJ hpre ih
 refine callsIn_of_wp Tryz.func30 rfl trivial ?_ rfl
 simp only [Tryz.ntmps30,List.size_toArray,List.length_cons,List.length_nil,Nat.reduceAdd,Nat.reduceSub,Array.replicate_succ,Array.replicate_zero,List.push_toArray,List.append_toArray,List.nil_append,List.cons_append]
 gi_wp2
 gi_loopw [21,10] (fun i _ wr=>∃(q:Nat) (g:Nat→Value) (pr:List (List Int)),fr+q≤n∧i=.int .i64 q∧Ox wr l n many bm by' bc bn bf ba∧wr.rowIs ba 3 many g∧(∀j,j < ix.length→g j=f j)∧W.heap.size≤wr.heap.size∧J S pr wr∧
   pr ++ (ext n (k+1) (fr+q)).map (ix ++ ·)=pre ++ (ext n (k+1) fr).map (ix ++ ·)) (fun i _ _=>n-(intOf i).toNat)
 case atStart=>exact ⟨0,f,pre,hfr,rfl,HO.out,HRW.out,fun _ _=>rfl,Nat.le_refl _,HJ.out,rfl⟩
 case round=>
  obtain ⟨q,g,pr,hq,rfl,ho,hrow,hg,hsz,hJ,hpr⟩:=hrel
  have HO2:Hid (Ox wr l n many bm by' bc bn bf ba):=ho
  have HRW2:Hid (wr.rowIs ba 3 many g):=hrow
  have HG:Hid (∀j,j < ix.length→g j=f j):=hg
  have HJ2:Hid (J S pr wr):=hJ
  have HPR:Hid (pr ++ (ext n (k+1) (fr+q)).map (ix ++ ·)=pre ++ (ext n (k+1) fr).map (ix ++ ·)):=hpr
  have HWS:Hid (W.heap.size≤wr.heap.size):=hsz
  by_cases hlt:fr+q < n
  ·have d1:=ho.cc
   have d4:=hrow.cell (i:=ix.length) (by omega)
   have d5:=hrow.frozen ix.length
   obtain ⟨W5,hW5⟩:∃W5,W5=wr.setCell ⟨ba,ix.length,none⟩ (.int .i64 ((fr:Int)+(q:Int))):=⟨_,rfl⟩
   have HO5:Hid (Ox W5 l n many bm by' bc bn bf ba):=by
    rw [hW5]
    exact ho.move (fun b hb _=>Below.heap_setCell _ _ _ _ (HBX.out.ne b hb))
   have HRW5:Hid (W5.rowIs ba 3 many (fun i=>if i=ix.length then .int .i64 ((fr:Int)+(q:Int)) else g i)):=by rw [hW5]; exact hrow.set _ _
   have HJ5:Hid (J S pr W5):=HST.out S S pr wr W5 hJ (by rw [hW5]; exact (Chg.refl _ _).setCell HBX.out.a _) (fun b hb=>.inl hb)
   have hs5:W5.heap.size=wr.heap.size:=by rw [hW5]; simp [World.setCell]
   have d6:(wr.setCell ⟨ba,ix.length,none⟩ (.int .i64 ((fr:Int)+(q:Int)))).cell? ⟨bf,0,none⟩=some (.func (.func 30) #[] #[.pointer (some ⟨bm,0,none⟩),.pointer (some ⟨by',0,none⟩),.pointer (some ⟨bc,0,none⟩),.pointer (some ⟨bn,0,none⟩),.pointer (some ⟨bf,0,none⟩)]):=by rw [←hW5]; exact HO5.out.cf
   have HW5:Hid (W5=wr.setCell ⟨ba,ix.length,none⟩ (.int .i64 ((fr:Int)+(q:Int)))):=hW5
   have HCONS:Hid ((ext n (k+1) (fr+q)).map (ix ++ ·)=(ext n k (fr+q+1)).map ((ix ++ [((fr+q:Nat):Int)]) ++ ·) ++ (ext n (k+1) (fr+q+1)).map (ix ++ ·)):=ext_cons_map hlt ix
   have HCALL:Hid (CallsIn Fence.wide 0 Tryz.prog 30 #[.int .i64 ((ix.length:Int)+1),.int .i64 ((fr:Int)+(q:Int)+1),.pointer (some ⟨bm,0,none⟩),.pointer (some ⟨by',0,none⟩),.pointer (some ⟨bc,0,none⟩),.pointer (some ⟨bn,0,none⟩),.pointer (some ⟨bf,0,none⟩)] W5 fun e W'=>
     (e=.returned (.bool true)∧J S (pr ++ (ext n k (fr+q+1)).map ((ix ++ [((fr+q:Nat):Int)]) ++ ·)) W'∧Ox W' l n many bm by' bc bn bf ba∧W5.heap.size≤W'.heap.size∧∃f',W'.rowIs ba 3 many f'∧∀j,j < ix.length→f' j=f j)∨
     (e=.returned (.bool false)∧∃q,q <+: cs∧Jx S q W')):=by
    have h:=HIH.out (ix ++ [((fr+q:Nat):Int)]) (fr+q+1) pr _ W5 (by simp; omega) (by omega) HO5.out HRW5.out (fun j hj=>by
      simp only [List.length_append,List.length_singleton] at hj
      by_cases e:j=ix.length
      ·subst e; simp
      ·have hj':j < ix.length:=by omega
       simp only [e,if_false]
       rw [HG.out j hj',HF.out j hj']
       simp only [List.getD_eq_getElem?_getD]; rw [List.getElem?_append_left hj']) (fun b hb=>by have:=HSZ.out b hb; omega) HJ5.out (by
      refine List.IsPrefix.trans ?_ HPRE.out
      rw [←HPR.out,HCONS.out,←List.append_assoc]
      exact List.prefix_append _ _)
    have e1:((ix ++ [((fr+q:Nat):Int)]).length:Int)=(ix.length:Int)+1:=by simp
    have e2:((fr+q+1:Nat):Int)=(fr:Int)+(q:Int)+1:=by omega
    rw [e1,e2] at h
    refine h.mono ?_
    rintro e W' (⟨rfl,a1,a2,a3,f',a4,a5⟩ | h)
    ·refine .inl ⟨rfl,a1,a2,a3,f',a4,fun j hj=>?_⟩
     rw [a5 j (by simp; omega)]
     simp only [show j≠ix.length by omega,if_false]
     exact HG.out j hj
    ·exact .inr h
   clear ho hrow hg hsz hJ hpr hW5
   have hqI:(0:Int)≤(q:Int):=by omega
   have hfI:(0:Int)≤(fr:Int):=by omega
   have hI0:(0:Int)≤(ix.length:Int):=by omega
   have hI1:(ix.length:Int) < (many:Int):=by omega
   have hqJ:(q:Int) < (n:Int)-(fr:Int):=by omega
   have hfq:(fr:Int)+(q:Int) < (n:Int):=by omega
   have hfq0:(0:Int)≤(fr:Int)+(q:Int):=by omega
   gi_wp2_with fail
   refine ⟨trivial,rfl,?_⟩
   rw [←HW5.out]
   refine HCALL.out.mono ?_
   rintro e w6 (⟨rfl,a1,a2,a3,f6,a4,a5⟩ | ⟨rfl,a1⟩)
   ·have S1:Hid (J S (pr ++ (ext n k (fr+q+1)).map ((ix ++ [((fr+q:Nat):Int)]) ++ ·)) w6):=a1
    have S2:Hid (Ox w6 l n many bm by' bc bn bf ba):=a2
    have S3:Hid (W.heap.size≤w6.heap.size):=by show _≤_; have:=HWS.out; omega
    have S4:Hid (w6.rowIs ba 3 many f6):=a4
    have S5:Hid (∀j,j < ix.length→f6 j=f j):=a5
    clear a1 a2 a3 a4 a5
    gi_wp2
    go_roundw
    case rel=>
     refine ⟨q+1,f6,_,by omega,by go_num,S2.out,S4.out,S5.out,S3.out,S1.out,?_⟩
     rw [←HPR.out,HCONS.out,List.append_assoc]
     rfl
    case measure=>simp [intOf]; omega
   ·have S1:Hid (∃q,q <+: cs∧Jx S q w6):=a1
    clear a1
    gi_wp2
    go_ret
    exact .inr ⟨rfl,S1.out⟩
  ·have hqe:fr+q=n:=by omega
   have HCE:Hid (pr=pre ++ (ext n (k+1) fr).map (ix ++ ·)):=by
    show _=_
    rw [←hpr,hqe,ext_end (Nat.le_refl _)]
    simp
   clear ho hrow hg hsz hJ hpr
   have hqK:decide ((q:Int) < (n:Int)-(fr:Int))=false:=by simp; omega
   gi_wp2
   go_ret
   exact .inl ⟨rfl,by rw [←HCE.out]; exact HJ2.out,HO2.out,HWS.out,g,HRW2.out,HG.out⟩
theorem fill_any:∀k,FillSaid k
 | 0=>fill_zero
 | k+1=>fill_succ k (fill_any k)
end Go.Proofs.YtdanomklbiidaaaGreatDoor

namespace Go.Proofs.YtdanomklbiidaaaGreatDoor
open Go.RowKit Go.Shelf
attribute [local go_sem] Oper.semAt_some
theorem alloc_new (w:World) (o:Obj):(w.alloc o).heap[w.heap.size]?=some o:=World.alloc_heap_new w o
theorem alloc_keep (w:World) (o:Obj):Below w.heap.size w (w.alloc o):=(Below.refl _ _).alloc (Nat.le_refl _) _
theorem size_alloc (w:World) (o:Obj):(w.alloc o).heap.size=w.heap.size+1:=by simp
theorem cell_of {w:World} {b:Nat} {x:Value} {t:TypeId} (h:w.heap[b]?=some (.cells #[x] t (0,0))):w.cell? ⟨b,0,none⟩=some x:=by simp [World.cell?,h]
theorem fourB (w:World) (o1 o2 o3 o4:Obj) :
  ∃W,W=(((w.alloc o1).alloc o2).alloc o3).alloc o4∧W.heap[w.heap.size]?=some o1∧W.heap[w.heap.size+1]?=some o2∧W.heap[w.heap.size+1+1]?=some o3∧W.heap[w.heap.size+1+1+1]?=some o4∧W.heap.size=w.heap.size+4∧Below w.heap.size w W:=by
 obtain ⟨w1,h1⟩:∃w1,w1=w.alloc o1:=⟨_,rfl⟩
 obtain ⟨w2,h2⟩:∃w2,w2=w1.alloc o2:=⟨_,rfl⟩
 obtain ⟨w3,h3⟩:∃w3,w3=w2.alloc o3:=⟨_,rfl⟩
 have s1:w1.heap.size=w.heap.size+1:=by rw [h1]; exact size_alloc _ _
 have s2:w2.heap.size=w.heap.size+2:=by rw [h2,size_alloc]; omega
 have s3:w3.heap.size=w.heap.size+3:=by rw [h3,size_alloc]; omega
 have n1:w1.heap[w.heap.size]?=some o1:=by rw [h1]; exact alloc_new _ _
 have n2:w2.heap[w.heap.size+1]?=some o2:=by rw [h2,←s1]; exact alloc_new _ _
 have n3:w3.heap[w.heap.size+1+1]?=some o3:=by rw [h3,show w.heap.size+1+1=w2.heap.size by omega]; exact alloc_new _ _
 have b1:Below w.heap.size w w1:=by rw [h1]; exact alloc_keep _ _
 have b2:Below w1.heap.size w1 w2:=by rw [h2]; exact alloc_keep _ _
 have b3:Below w2.heap.size w2 w3:=by rw [h3]; exact alloc_keep _ _
 have b4:Below w3.heap.size w3 (w3.alloc o4):=alloc_keep _ _
 refine ⟨w3.alloc o4,by rw [h3,h2,h1],?_,?_,?_,?_,?_,?_⟩
 ·rw [b4.block _ (by omega),b3.block _ (by omega),b2.block _ (by omega)]; exact n1
 ·rw [b4.block _ (by omega),b3.block _ (by omega)]; exact n2
 ·rw [b4.block _ (by omega)]; exact n3
 ·rw [show w.heap.size+1+1+1=w3.heap.size by omega]; exact alloc_new _ _
 ·rw [size_alloc]; omega
 ·exact ((b1.trans (b2.mono (by omega))).trans (b3.mono (by omega))).trans (b4.mono (by omega))
set_option maxRecDepth 100000 in
set_option maxHeartbeats 4000000 in
theorem of_seq (n many bm bn:Nat) (w0:World) (hm5:many≤8) (hn:n≤1000) (hcm:w0.cell? ⟨bm,0,none⟩=some (.int .i64 many)) (hcn:w0.cell? ⟨bn,0,none⟩=some (.int .i64 n)) :
  SeqS Tryz.prog 29 #[.pointer (some ⟨bm,0,none⟩),.pointer (some ⟨bn,0,none⟩)] (Hand w0.heap.size) (ext n many 0) (fun _=>False) (fun b=>b=bm∨b=bn) w0:=by
 intro l J Jx W hW hst hstx hY hJ
 have hbm:=lt_cell0 hcm
 have hbn:=lt_cell0 hcn
 have c1:W.cell? ⟨bm,0,none⟩=some (.int .i64 many):=(hW.cell (p:=⟨bm,0,none⟩) hbm).trans hcm
 have c2:W.cell? ⟨bn,0,none⟩=some (.int .i64 n):=(hW.cell (p:=⟨bn,0,none⟩) hbn).trans hcn
 have hmk:=run_make_row' (P:=Tryz.prog) 22 3 (.int .i64 0) 8 Tryz.underlying22 Tryz.info3 rfl .i64 .i64 many (by omega) (by omega)
 obtain ⟨W4,hW4,e1,e2,e3,e4,hsz,hbw⟩:=fourB W (.cells #[.func (.yield l) #[] #[]] 47) (.cells (madeCells #[.int .i64 0] many) 3) (.cells #[.slice (some ⟨W.heap.size+1,0,none⟩) many many] 22)
  (.cells #[.func (.func 30) #[] #[.pointer (some ⟨bm,0,none⟩),.pointer (some ⟨W.heap.size,0,none⟩),.pointer (some ⟨W.heap.size+1+1,0,none⟩),.pointer (some ⟨bn,0,none⟩),.pointer (some ⟨W.heap.size+1+1+1,0,none⟩)]] 55)
 have hwm:=lt_cell0 c1
 have hwn:=lt_cell0 c2
 obtain ⟨S,hS⟩:∃S:Nat→Prop,S=fun b=>b=bm∨b=bn∨(W.heap.size≤b∧b < W.heap.size+4):=⟨_,rfl⟩
 have ho:Ox W4 l n many bm W.heap.size (W.heap.size+1+1) bn (W.heap.size+1+1+1) (W.heap.size+1):=
  ⟨(hbw.cell (p:=⟨bm,0,none⟩) hwm).trans c1,cell_of e1,cell_of e3,(hbw.cell (p:=⟨bn,0,none⟩) hwn).trans c2,cell_of e4⟩
 have hrow:W4.rowIs (W.heap.size+1) 3 many (fun _=>.int .i64 0):=by
  refine ⟨_,e2,?_,fun i hi=>?_⟩
  ·rw [←Array.length_toList,toList_madeCells_one]; simp
  ·rw [←Array.getElem?_toList,toList_madeCells_one]; simp [hi]
 have hbx:Bxo S bm W.heap.size (W.heap.size+1+1) bn (W.heap.size+1+1+1) (W.heap.size+1):=by
  rw [hS]
  exact ⟨.inl rfl,.inr (.inr (by omega)),.inr (.inr (by omega)),.inr (.inl rfl),.inr (.inr (by omega)),.inr (.inr (by omega)),fun b hb=>by omega⟩
 have hJ4:J S [] W4:=hst _ S [] W W4 hJ (Chg.of_below hbw (Nat.le_refl _)) (fun b hb=>by
  rw [hS] at hb
  rcases hb with h | h | h
  ·exact .inl (.inl h)
  ·exact .inl (.inr h)
  ·exact .inr h.1)
 have HC:Hid (CallsIn Fence.wide 0 Tryz.prog 30 #[.int .i64 0,.int .i64 0,.pointer (some ⟨bm,0,none⟩),.pointer (some ⟨W.heap.size,0,none⟩),.pointer (some ⟨W.heap.size+1+1,0,none⟩),.pointer (some ⟨bn,0,none⟩),.pointer (some ⟨W.heap.size+1+1+1,0,none⟩)] W4 fun e W'=>
   (e=.returned (.bool true)∧J S ([] ++ (ext n many 0).map ([] ++ ·)) W'∧Ox W' l n many bm W.heap.size (W.heap.size+1+1) bn (W.heap.size+1+1+1) (W.heap.size+1)∧W4.heap.size≤W'.heap.size∧∃f',W'.rowIs (W.heap.size+1) 3 many f'∧∀j,j < 0→f' j=.int .i64 0)∨
   (e=.returned (.bool false)∧∃q,q <+: ext n many 0∧Jx S q W')):=fill_any many w0.heap.size l n many bm W.heap.size (W.heap.size+1+1) bn (W.heap.size+1+1+1) (W.heap.size+1) S (fun _=>False) J Jx (ext n many 0) hst hbx hm5 hn (by have:=hW.size; omega) hY [] 0 [] _ W4 (by simp) (Nat.zero_le _) ho hrow (fun j hj=>absurd hj (by simp)) (fun b hb=>by
  rw [hS] at hb
  rcases hb with h | h | h <;> omega) hJ4 (by simp)
 have HW4:Hid (W4=(((W.alloc (.cells #[.func (.yield l) #[] #[]] 47)).alloc (.cells (madeCells #[.int .i64 0] many) 3)).alloc (.cells #[.slice (some ⟨W.heap.size+1,0,none⟩) many many] 22)).alloc
  (.cells #[.func (.func 30) #[] #[.pointer (some ⟨bm,0,none⟩),.pointer (some ⟨W.heap.size,0,none⟩),.pointer (some ⟨W.heap.size+1+1,0,none⟩),.pointer (some ⟨bn,0,none⟩),.pointer (some ⟨W.heap.size+1+1+1,0,none⟩)]] 55)):=hW4
 clear hst hstx hY hJ ho hrow hbx hJ4 e1 e2 e3 e4 hsz hbw hW hcm hcn hW4
 refine callsIn_of_wp Tryz.func29 rfl trivial ?_ rfl
 simp only [Tryz.ntmps29,List.size_toArray,List.length_cons,List.length_nil,Nat.reduceAdd,Nat.reduceSub,Array.replicate_succ,Array.replicate_zero,List.push_toArray,List.append_toArray,List.nil_append,List.cons_append]
 gi_wp2_with fail
 refine ⟨trivial,rfl,?_⟩
 rw [←HW4.out]
 refine (HC.out).mono ?_
 rintro e W' (⟨rfl,a1,_⟩ | ⟨rfl,a1⟩)
 ·have A:Hid (J S (ext n many 0) W'):=by
   have e : [] ++ (ext n many 0).map ([] ++ ·)=ext n many 0:=by simp
   rw [e] at a1
   exact a1
  clear a1
  gi_wp2
  go_end0
  exact ⟨⟨_,rfl⟩,.inl ⟨S,A.out⟩⟩
 ·have A:Hid (∃q,q <+: ext n many 0∧Jx S q W'):=a1
  clear a1
  gi_wp2
  go_end0
  exact ⟨⟨_,rfl⟩,.inr ⟨S,A.out⟩⟩
set_option maxHeartbeats 1000000 in
theorem of_any (n many:Int) (w:World):Calls Tryz.prog 15 #[.int .i64 n,.int .i64 many] w fun e w'=>
  e=.returned (.func (.func 29) #[] #[.pointer (some ⟨w.heap.size+1,0,none⟩),.pointer (some ⟨w.heap.size,0,none⟩)])∧w'=(w.alloc (.cells #[.int .i64 n] 3)).alloc (.cells #[.int .i64 many] 3):=by
 go_enter Tryz.func15,Tryz.ntmps15
 go_wp2
 go_ret
 exact ⟨rfl,rfl⟩
end Go.Proofs.YtdanomklbiidaaaGreatDoor
