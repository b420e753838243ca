import Derived.Test.YtdanomklbiidaaaGreatDoorMgBE
import Derived.Maps.AppendAt
import Derived.Maps.Views
import Derived.Maps.OwnSet
import Derived.Test.YtdanomklbiidaaaGreatDoorMgBD
namespace Go.Proofs.YtdanomklbiidaaaGreatDoor
open Go.RowKit Lin
def lvA (d:Nat) (C:List (List Int)) (A:List Nat) (t:Nat):List Nat:=A.filter fun x=>decide (dimL d C x+1=(t:Int))
theorem dimL_bd (d:Nat) (C:List (List Int)) (x:Nat):∃t:Nat,t < d+2∧dimL d C x+1=(t:Int):=by
 unfold dimL
 have:=pickL_cap d (diffL (pks C [] (memL x)))
 split
 ·exact ⟨0,by omega,by omega⟩
 ·exact ⟨(pickL d (diffL (pks C [] (memL x)))).length+1,by omega,by omega⟩
theorem lvA_same {d:Nat} {C:List (List Int)} {A:List Nat} {f t:Nat} (h:dimL d C f+1=(t:Int)):lvA d C (A ++ [f]) t=lvA d C A t ++ [f]:=by
 unfold lvA
 rw [List.filter_append]
 simp [h]
theorem lvA_oth {d:Nat} {C:List (List Int)} {A:List Nat} {f t s:Nat} (h:dimL d C f+1=(t:Int)) (hne:s≠t):lvA d C (A ++ [f]) s=lvA d C A s:=by
 unfold lvA
 rw [List.filter_append]
 have:¬dimL d C f+1=(s:Int):=by omega
 simp [this]
theorem lvA_len (d:Nat) (C:List (List Int)) (A:List Nat) (t:Nat):(lvA d C A t).length≤A.length:=List.length_filter_le _ _
def seA (b:Nat):Array Value:=#[.pointer (some ⟨b+4,0,none⟩),.pointer (some ⟨b,0,none⟩),.pointer (some ⟨b+2,0,none⟩),.pointer (some ⟨b+5,0,none⟩)]
structure LvI (w:World) (b d:Nat) (C:List (List Int)) (cs rv sv:Value) (M A:List Nat) (wr:World):Prop where
 lo:w.heap.size≤b
 bel:Below w.heap.size w wr
 sz:b+6≤wr.heap.size
 bd:wr.heap[b]?=some (.cells #[.int .i64 d,cs,rv,sv] 82 (0,0))
 ob:wr.heap[b+2]?=some (.cells #[.slice (some ⟨b+1,0,none⟩) (d+2) (d+2)] 85 (0,0))
 mb:wr.heap[b+4]?=some (.cells #[.map (some (b+3))] 114 (0,0))
 fb:wr.heap[b+5]?=some (.cells #[.func (.func 90) #[] (seA b)] 115 (0,0))
 mp:∃D:DataW Unit,wr.ownsMap Tryz.prog 70 (plainElem Tryz.prog 3) (b+3) M.length D∧∀x:Nat,Maps.has D (.int .u64 (x:Int))=decide (x∈M)∧(x∈M→D.atKey (.int .u64 (x:Int)) (.lit (.int .i64 0))=.lit (.int .i64 (dimL d C x)))
 ro:∃vs:List Value,vs.length=d+2∧wr.heap[b+1]?=some (.cells vs.toArray 67 (0,0))∧(∀t,t < d+2→wr.ownsRow (b+6) 70 1 (vs.getD t undef) (lvA d C A t).length (u64s (lvA d C A t)))∧∀s t,s < d+2→t < d+2→s≠t→∀x,(vs.getD s undef).ownBlock=some x→(vs.getD t undef).ownBlock≠some x
theorem LvI.below {w:World} {b d:Nat} {C:List (List Int)} {cs rv sv:Value} {M A:List Nat} {wr w2:World} (h:LvI w b d C cs rv sv M A wr) (hb:Below wr.heap.size wr w2):LvI w b d C cs rv sv M A w2:=by
 have hsz:=h.sz
 obtain ⟨D,h1,h2⟩:=h.mp
 obtain ⟨vs,r1,r2,r3,r4⟩:=h.ro
 have hk:∀x,x < b+6→w2.heap[x]?=wr.heap[x]?:=fun x hx=>hb.block x (by omega)
 exact ⟨h.lo,h.bel.trans (hb.mono h.bel.size),Nat.le_trans hsz hb.size,(hk _ (by omega)).trans h.bd,(hk _ (by omega)).trans h.ob,(hk _ (by omega)).trans h.mb,(hk _ (by omega)).trans h.fb,
  ⟨D,h1.kept (row:=none) ⟨hb.os,hb.tape,hb.output,hb.size,fun k hk _=>hb.block k hk⟩ (by simp),h2⟩,vs,r1,(hk _ (by omega)).trans r2,fun t ht=>owns_below (r3 t ht) hb (Nat.le_refl _),r4⟩
theorem keyedS:Maps.Keyed Tryz.prog 70:=Maps.int_keyed (q:=.u64) (by kernel_rfl)
theorem keyS {x:Nat} (hx:x < 2 ^ 64):keyOf Tryz.prog 70 (.int .u64 (x:Int))=some (.int .u64 (x:Int)):=
 Maps.keyOf_int_mk (q:=.u64) (by kernel_rfl) (by
  simp [Lit.wf,IntKind.min,IntKind.max,IntKind.signed,IntKind.bits]
  omega)
theorem mapS:Tryz.prog.underlying 114=some (.map 70 3):=by kernel_rfl
theorem LvI.look {w:World} {b d:Nat} {C:List (List Int)} {cs rv sv:Value} {M A:List Nat} {wr:World} (h:LvI w b d C cs rv sv M A wr) {x:Nat} (hx:x < 2 ^ 64) :
  ∃v,(Instr.lookup 114 (.map (some (b+3))) (.int .u64 (x:Int)) true).run Tryz.prog wr=.ok (.tuple #[v,.bool (decide (x∈M))]) wr:=by
 obtain ⟨D,h1,h2⟩:=h.mp
 obtain ⟨v,ps,hv,_⟩:=h1.look_ok keyedS mapS (z:=.int .i64 0) (by kernel_rfl) (zd:=.lit (.int .i64 0)) (zp:=[]) (plainElem_int (q:=.i64) (by kernel_rfl) (by decide)) (keyS hx)
 rw [(h2 x).1] at hv
 exact ⟨v,hv⟩
theorem LvI.at_ {w:World} {b d:Nat} {C:List (List Int)} {cs rv sv:Value} {M A:List Nat} {wr:World} (h:LvI w b d C cs rv sv M A wr) {x:Nat} (hx:x < 2 ^ 64) (hm:x∈M) :
  (Instr.lookup 114 (.map (some (b+3))) (.int .u64 (x:Int)) false).run Tryz.prog wr=.ok (.int .i64 (dimL d C x)) wr:=by
 obtain ⟨D,h1,h2⟩:=h.mp
 obtain ⟨c,hv,hat,_⟩:=h1.lookup_int keyedS mapS (q:=.i64) (by kernel_rfl) (by kernel_rfl) (keyS hx)
 rw [(h2 x).2 hm] at hat
 have:dimL d C x=c:=by simpa using hat
 rw [this]
 exact hv
theorem LvI.put {w:World} {b d:Nat} {C:List (List Int)} {cs rv sv:Value} {M A:List Nat} {wr:World} (h:LvI w b d C cs rv sv M A wr) {x:Nat} (hx:x < 2 ^ 64) (hM:M.length≤5000) (hd:d≤64) :
  ∃w2,(Instr.mapUpdate 114 (.map (some (b+3))) (.int .u64 (x:Int)) (.int .i64 (dimL d C x))).run Tryz.prog wr=.ok () w2∧LvI w b d C cs rv sv (M ++ [x]) A w2:=by
 obtain ⟨D,h1,h2⟩:=h.mp
 obtain ⟨vs,r1,r2,r3,r4⟩:=h.ro
 obtain ⟨t,ht,hte⟩:=dimL_bd d C x
 obtain ⟨w2,hrun,ho,hg⟩:=h1.update keyedS mapS (by unfold maxLen; omega) (keyS hx) (val:=.int .i64 (dimL d C x)) (d:=.lit (.int .i64 (dimL d C x))) (ps:=[]) (plainElem_int (q:=.i64) (by kernel_rfl) (by
  simp [Lit.wf,IntKind.min,IntKind.max,IntKind.signed,IntKind.bits]
  omega))
 have hlo:=h.lo
 have hsz:=h.sz
 have hk:∀y,y < wr.heap.size→y≠b+3→w2.heap[y]?=wr.heap[y]?:=fun y hy hne=>hg.block y hy (fun e=>hne (by simpa using e))
 have hne3:∀t,t < d+2→(vs.getD t undef).ownBlock≠some (b+3):=fun t ht e=>by have:=((r3 t ht).lt _ e).1; omega
 refine ⟨w2,hrun,⟨hlo,h.bel.grown hg h.bel.size (fun k hk=>by simp at hk; omega),Nat.le_trans hsz hg.size,(hk _ (by omega) (by omega)).trans h.bd,(hk _ (by omega) (by omega)).trans h.ob,(hk _ (by omega) (by omega)).trans h.mb,(hk _ (by omega) (by omega)).trans h.fb,
  ⟨_,by rw [List.length_append,List.length_singleton]; exact ho,fun y=>?_⟩,vs,r1,(hk _ (by omega) (by omega)).trans r2,fun t ht=>(r3 t ht).kept hg (Or.inr (hne3 t ht)),r4⟩⟩
 by_cases e:y=x
 ·subst e
  rw [Maps.has_put_same h1.isMap (by trivial),Maps.atKey_put_same h1.isMap (by trivial)]
  exact ⟨by simp,fun _=>rfl⟩
 ·have hne:(Lit.int .u64 (y:Int))≠Lit.int .u64 (x:Int):=fun e2=>e (by simp only [Lit.int.injEq,true_and] at e2; omega)
  obtain ⟨g1,g2⟩:=h2 y
  rw [Maps.has_put_other hne,Maps.atKey_put_other hne,g1]
  exact ⟨by simp [e],fun hm=>g2 (by simpa [e] using hm)⟩
theorem LvI.push {w:World} {b d:Nat} {C:List (List Int)} {cs rv sv:Value} {M A:List Nat} {wr:World} (h:LvI w b d C cs rv sv M A wr) (x:Nat) {t:Nat} (ht:t < d+2) (hte:dimL d C x+1=(t:Int)) :
  ∃ao cp,wr.cell? ⟨b+1,t,none⟩=some (.slice ao (lvA d C A t).length cp)∧wr.ownsRow (b+6) 70 1 (.slice ao (lvA d C A t).length cp) (lvA d C A t).length (u64s (lvA d C A t))∧
   ∀v' w5,w5.ownsRow (b+6) 70 1 v' ((lvA d C A t).length+1) (u64s (lvA d C A t) ++ [.int .u64 (x:Int)])→(wr.alloc (.cells #[.int .u64 (x:Int)] 70)).grownBy w5 (Value.slice ao (lvA d C A t).length cp).ownBlock→(v'.ownBlock=(Value.slice ao (lvA d C A t).length cp).ownBlock∨v'.ownBlock=some (wr.heap.size+1))→
    w5.cell? ⟨b+1,t,none⟩=some (.slice ao (lvA d C A t).length cp)∧w5.frozen? ⟨b+1,t,none⟩=false∧LvI w b d C cs rv sv M (A ++ [x]) (w5.setCell ⟨b+1,t,none⟩ v'):=by
 obtain ⟨D,h1,h2⟩:=h.mp
 obtain ⟨vs,r1,r2,r3,r4⟩:=h.ro
 have hlo:=h.lo
 have hsz:=h.sz
 obtain ⟨ao,cp,hv⟩:=owns_form (r3 t ht)
 have hvt:vs[t]?=some (vs.getD t undef):=by simp [show t < vs.length by omega]
 refine ⟨ao,cp,?_,by rw [←hv]; exact r3 t ht,fun v' w5 ho hg hat=>?_⟩
 ·rw [←hv]
  simp [World.cell?,r2,show t < vs.length by omega]
 rw [←hv] at hg hat ⊢
 obtain ⟨vt,hvt'⟩:∃vt,vt=vs.getD t undef:=⟨_,rfl⟩
 have hown:∀y,(vs.getD t undef).ownBlock=some y→b+6≤y:=fun y hy=>((r3 t ht).lt y hy).1
 have hkb:∀y,y < wr.heap.size→(vs.getD t undef).ownBlock≠some y→w5.heap[y]?=wr.heap[y]?:=fun y hy hne=>
  (hg.block y (by simp; omega) (fun e=>hne e.symm)).trans (Below.heap_alloc wr _ y hy)
 have hk6:∀y,y < b+6→w5.heap[y]?=wr.heap[y]?:=fun y hy=>hkb y (by omega) (fun e=>by have:=hown y e; omega)
 have h5:w5.heap[b+1]?=some (.cells vs.toArray 67 (0,0)):=(hk6 _ (by omega)).trans r2
 have hs5:∀y,y≠b+1→(w5.setCell ⟨b+1,t,none⟩ v').heap[y]?=w5.heap[y]?:=fun y hy=>Below.heap_setCell _ _ _ _ hy
 have hv'b:∀y,v'.ownBlock=some y→b+6≤y:=fun y hy=>(ho.lt y hy).1
 have hbel5:Below w.heap.size w w5:=(h.bel.alloc h.bel.size _).grown hg (by have:=h.bel.size; simp; omega) (fun k hk=>by have:=hown k hk; omega)
 refine ⟨by simp [World.cell?,h5,show t < vs.length by omega],by simp [World.frozen?,h5],⟨hlo,hbel5.setCell (by show _≤b+1; omega) _,?_,(hs5 _ (by omega)).trans ((hk6 _ (by omega)).trans h.bd),(hs5 _ (by omega)).trans ((hk6 _ (by omega)).trans h.ob),(hs5 _ (by omega)).trans ((hk6 _ (by omega)).trans h.mb),(hs5 _ (by omega)).trans ((hk6 _ (by omega)).trans h.fb),⟨D,?_,h2⟩,vs.set t v',by simp [r1],?_,fun s hs=>?_,fun s u hs hu hsu y=>?_⟩⟩
 ·simp only [World.setCell,Array.size_modify]
  exact Nat.le_trans hsz (Nat.le_trans (by simp) hg.size)
 ·exact ((h1.alloc _).kept hg (fun e=>by have:=hown _ e.symm; omega)).setCell (by show b+3≠b+1; omega) _
 ·simp [World.setCell,Array.getElem?_modify,h5]
 ·by_cases e:s=t
  ·subst e
   rw [lvA_same hte]
   have e1:(vs.set s v').getD s undef=v':=by simp [show s < vs.length by omega]
   rw [e1]
   have:=ownsRow_setCell_other ho (a:=⟨b+1,s,none⟩) (fun e=>by have:b+6≤b+1:=hv'b _ e; omega) v'
   simpa [u64s] using this
  ·rw [lvA_oth hte e]
   have e1:(vs.set t v').getD s undef=vs.getD s undef:=by simp [Ne.symm e]
   rw [e1]
   refine ownsRow_setCell_other (((r3 s hs).alloc _).kept hg ?_) (a:=⟨b+1,t,none⟩) (fun e=>by have:b+6≤b+1:=((r3 s hs).lt _ e).1; omega) v'
   cases hb:(vs.getD s undef).ownBlock with
   | none=>exact Or.inl rfl
   | some y=>exact Or.inr (fun e2=>r4 s t hs ht e y hb e2.symm)
 ·have key:∀s,s < d+2→(vs.set t v').getD s undef=if s=t then v' else vs.getD s undef:=fun s hs=>by
   by_cases e:s=t
   ·subst e; simp [show s < vs.length by omega]
   ·simp [Ne.symm e,e]
  rw [key s hs,key u hu]
  have hfr:∀s,s < d+2→(vs.getD s undef).ownBlock≠some (wr.heap.size+1):=fun s hs e=>by have:=((r3 s hs).lt _ e).2; omega
  by_cases e1:s=t <;> by_cases e2:u=t
  ·omega
  ·rw [if_pos e1,if_neg e2]
   intro hy e3
   rcases hat with e4 | e4
   ·rw [e4] at hy; exact r4 t u ht hu (Ne.symm e2) y hy e3
   ·rw [e4] at hy
    simp only [Option.some.injEq] at hy
    subst hy
    exact hfr u hu e3
  ·rw [if_neg e1,if_pos e2]
   intro hy e3
   rcases hat with e4 | e4
   ·rw [e4] at e3; exact r4 s t hs ht e1 y hy e3
   ·rw [e4] at e3
    simp only [Option.some.injEq] at e3
    subst e3
    exact hfr s hs hy
  ·rw [if_neg e1,if_neg e2]
   exact r4 s u hs hu hsu y
inductive ItrF (S:List Nat) (f:Nat):Nat→Prop
 | self:ItrF S f f
 | cut {a t:Nat} : ItrF S f a→t∈S→ItrF S f (a &&& t)
theorem ItrF.more {S:List Nat} {f g t:Nat} (ht:t∈S) (h:ItrF S (f &&& t) g):ItrF S f g:=by
 induction h with
 | self=>exact .cut .self ht
 | cut _ h1 ih=>exact .cut ih h1
structure SeeP (S:List Nat) (f:Nat) (A A':List Nat):Prop where
 old:∀g∈A,g∈A'
 self:f∈A'
 cl:∀g∈A',g∉A→∀t∈S,g &&& t∈A'
 gen:∀g∈A',g∉A→ItrF S f g
 nd:A'.Nodup
structure SeeJ (S:List Nat) (f j:Nat) (A A':List Nat):Prop where
 old:∀g∈A,g∈A'
 self:f∈A'
 dn:∀i,i < j→f &&& S.getD i 0∈A'
 cl:∀g∈A',g∉A→g≠f→∀t∈S,g &&& t∈A'
 gen:∀g∈A',g∉A→ItrF S f g
 nd:A'.Nodup
theorem SeeJ.start {S:List Nat} {f:Nat} {A:List Nat} (hn:A.Nodup) (hf:f∉A):SeeJ S f 0 A (A ++ [f]):=by
 refine ⟨fun g hg=>by simp [hg],by simp,fun i hi=>by omega,fun g hg hg2 hg3=>?_,fun g hg hg2=>?_,?_⟩
 ·simp [hg2,hg3] at hg
 ·simp [hg2] at hg
  subst hg
  exact .self
 ·rw [List.nodup_append]
  exact ⟨hn,by simp,fun a ha b hb=>by simp at hb; subst hb; exact fun e=>hf (e ▸ ha)⟩
theorem SeeJ.next {S:List Nat} {f j:Nat} {A A' A2:List Nat} (h:SeeJ S f j A A') (hj:j < S.length) (h2:SeeP S (f &&& S.getD j 0) A' A2):SeeJ S f (j+1) A A2:=by
 have hm:S.getD j 0∈S:=by simp [hj]
 refine ⟨fun g hg=>h2.old g (h.old g hg),h2.old f h.self,fun i hi=>?_,fun g hg hg2 hg3 t ht=>?_,fun g hg hg2=>?_,h2.nd⟩
 ·by_cases e:i=j
  ·subst e; exact h2.self
  ·exact h2.old _ (h.dn i (by omega))
 ·by_cases e:g∈A'
  ·exact h2.old _ (h.cl g e hg2 hg3 t ht)
  ·exact h2.cl g hg e t ht
 ·by_cases e:g∈A'
  ·exact h.gen g e hg2
  ·exact (h2.gen g hg e).more hm
theorem SeeJ.done {S:List Nat} {f:Nat} {A A':List Nat} (h:SeeJ S f S.length A A'):SeeP S f A A':=by
 refine ⟨h.old,h.self,fun g hg hg2 t ht=>?_,h.gen,h.nd⟩
 by_cases e:g=f
 ·subst e
  obtain ⟨i,hi,rfl⟩:=List.getElem_of_mem ht
  have:=h.dn i hi
  simpa [hi] using this
 ·exact h.cl g hg hg2 e t ht
theorem see_all {S:List Nat} {n:Nat} {A:List Nat} (h:SeeP S (2 ^ n-1) [] A) {a:Nat} : a∈A↔Itr n S a:=by
 constructor
 ·intro ha
  have:=h.gen a ha (by simp)
  induction this with
  | self=>exact .full
  | cut h1 ht ih=>
   refine .cut (ih ?_) ht
   clear ih ha
   induction h1 with
   | self=>exact h.self
   | cut _ ht2 ih2=>exact h.cl _ ih2 (by simp) _ ht2
 ·intro ha
  induction ha with
  | full=>exact h.self
  | cut _ ht ih=>exact h.cl _ ih (by simp) _ ht
end Go.Proofs.YtdanomklbiidaaaGreatDoor

namespace Go.Proofs.YtdanomklbiidaaaGreatDoor
open Go.RowKit Lin
structure Fnd (d:Nat) (P C s:List (List Int)) (A:List Nat):Prop where
 ok:FcC d C s
 doc:∀s0 c,(∀r,r∈s0↔r∈rowsD P d)→SAsc c→(∀y,y∈c↔y∈crn d s0 P)→C=c
 n10:C.length≤10
 nd:A.Nodup
 lt:∀a∈A,a < 1024
 itr:∀a,a∈A↔Itr C.length (s.map (sdN C)) a
structure FndS (d:Nat) (P C s:List (List Int)):Prop where
 ok:FcC d C s
 doc:∀s0 c,(∀r,r∈s0↔r∈rowsD P d)→SAsc c→(∀y,y∈c↔y∈crn d s0 P)→C=c
 n10:C.length≤10
structure DocF (d:Nat) (P C s:List (List Int)) (A:List Nat):Prop where
 crn:SAsc C∧∃s0,(∀r,r∈s0↔r∈rowsD P d)∧∀y,y∈C↔y∈crn d s0 P
 rows:SAsc s∧∀r,r∈s↔r∈rowsD C d
 all:Clo C.length (s.map (sdN C)) A A.length
theorem FndS.same {d:Nat} {P C s C' s':List (List Int)} {A':List Nat} (h:FndS d P C s) (hD:DocF d P C' s' A'):C'=C∧s'=s:=by
 obtain ⟨h1,s0,h2,h3⟩:=hD.crn
 have hC:=h.doc s0 C' h2 h1 h3
 subst hC
 refine ⟨rfl,sasc_ext s' s hD.rows.1 h.ok.srt fun r=>?_⟩
 rw [hD.rows.2 r,mem_rowsD,h.ok.rows r]
theorem Fnd.toS {d:Nat} {P C s:List (List Int)} {A:List Nat} (h:Fnd d P C s A):FndS d P C s:=⟨h.ok,h.doc,h.n10⟩
theorem DocF.mem {d:Nat} {P C s:List (List Int)} {A:List Nat} (h:DocF d P C s A) (a:Nat):a∈A↔Itr C.length (s.map (sdN C)) a:=clo_iff h.all
theorem DocF.lt10 {d:Nat} {P C s:List (List Int)} {A:List Nat} (h:DocF d P C s A) (hn:C.length≤10) {a:Nat} (ha:a∈A):a < 1024:=
 Nat.lt_of_lt_of_le (h.all.lt a ha) (Nat.le_trans (Nat.pow_le_pow_right (by decide) hn) (by decide))
theorem nodup_same {l m:List (List Int)} (hl:l.Nodup) (hm:m.Nodup) (h:∀r,r∈l↔r∈m):l.Perm m:=by
 rw [List.perm_iff_count]
 intro a
 rw [hl.count,hm.count]
 by_cases e:a∈l
 ·simp [e,(h a).1 e]
 ·have e2:¬a∈m:=fun k=>e ((h a).2 k)
  simp [e,e2]
theorem Fnd.levm {d:Nat} {P C s:List (List Int)} {A A':List Nat} (h:Fnd d P C s A) (hD:DocF d P C s A') {t:Nat} {lev:List (List Int)} (hl:LevOk d C A' t lev) (r:List Int):r∈lev↔r∈(lvA d C A t).map memL:=by
 rw [hl.2 r,List.mem_map]
 unfold lvA
 constructor
 ·rintro ⟨a,ha,h1,rfl⟩
  refine ⟨a,List.mem_filter.2 ⟨(h.itr a).2 ((hD.mem a).1 ha),?_⟩,rfl⟩
  simp only [decide_eq_true_eq]
  omega
 ·rintro ⟨a,ha,rfl⟩
  obtain ⟨h1,h2⟩:=List.mem_filter.1 ha
  simp only [decide_eq_true_eq] at h2
  exact ⟨a,(hD.mem a).2 ((h.itr a).1 h1),by omega,rfl⟩
theorem Fnd.lev {d:Nat} {P C s:List (List Int)} {A A':List Nat} (h:Fnd d P C s A) (hD:DocF d P C s A') {t:Nat} {lev m:List (List Int)} (hl:LevOk d C A' t lev) (hm:Inor m ((lvA d C A t).map memL)):m=lev:=by
 refine sasc_ext m lev hm.asc hl.1 fun r=>?_
 rw [hm.mem r]
 exact (h.levm hD hl r).symm
theorem doc_verts {d:Nat} {P C s:List (List Int)} {A':List Nat} (h:FndS d P C s) (hD:DocF d P C s A') {lev:List (List Int)} (hl:LevOk d C A' 1 lev):lev.length=C.length:=by
 have hn:=h.n10
 have hnd:((List.range C.length).map fun k:Nat=>[(k:Int)]).Nodup:=by
  rw [List.nodup_iff_pairwise_ne,List.pairwise_map]
  exact (List.nodup_iff_pairwise_ne.1 List.nodup_range).imp fun {a b} hne e=>hne (by simp only [List.cons.injEq,and_true] at e; omega)
 have:=(nodup_same (sasc_nodup hl.1) hnd fun r=>by
  rw [hl.2 r]
  simp only [List.mem_map,List.mem_range]
  constructor
  ·rintro ⟨a,ha,h1,rfl⟩
   obtain ⟨k,hk,rfl⟩:=vert_of h.ok (hD.all.lt a ha) (by omega)
   exact ⟨k,hk,(memL_one (by omega)).symm⟩
  ·rintro ⟨k,hk,rfl⟩
   exact ⟨2 ^ k,(hD.mem _).2 (vert_itr h.ok hk),by rw [vert_dim (by omega)]; rfl,(memL_one (by omega)).symm⟩).length_eq
 simpa using this
end Go.Proofs.YtdanomklbiidaaaGreatDoor
