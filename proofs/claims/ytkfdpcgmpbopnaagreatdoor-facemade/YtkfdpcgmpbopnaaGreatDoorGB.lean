import Derived.Test.YtkfdpcgmpbopnaaGreatDoorGZ
import Derived.Maps.AppendAt
import Derived.Maps.Views
import Derived.Maps.OwnSet
namespace Go.Proofs.YtkfdpcgmpbopnaaGreatDoor
open Go.RowKit Lin
def lvA (d:Nat) (C:List (List Int)) (A:List Nat) (t:Nat):List Nat:=A.filter fun x=>decide (dimL d C x+1=(t:Int))
theorem dimL_bd (d:Nat) (C:List (List Int)) (x:Nat):∃t:Nat,t < d+2∧dimL d C x+1=(t:Int):=by
 unfold dimL
 have:=pickL_cap d (diffL (pks C [] (memL x)))
 split
 ·exact ⟨0,by omega,by omega⟩
 ·exact ⟨(pickL d (diffL (pks C [] (memL x)))).length+1,by omega,by omega⟩
theorem lvA_same {d:Nat} {C:List (List Int)} {A:List Nat} {f t:Nat} (h:dimL d C f+1=(t:Int)):lvA d C (A ++ [f]) t=lvA d C A t ++ [f]:=by
 unfold lvA
 rw [List.filter_append]
 simp [h]
theorem lvA_oth {d:Nat} {C:List (List Int)} {A:List Nat} {f t s:Nat} (h:dimL d C f+1=(t:Int)) (hne:s≠t):lvA d C (A ++ [f]) s=lvA d C A s:=by
 unfold lvA
 rw [List.filter_append]
 have:¬dimL d C f+1=(s:Int):=by omega
 simp [this]
theorem lvA_len (d:Nat) (C:List (List Int)) (A:List Nat) (t:Nat):(lvA d C A t).length≤A.length:=List.length_filter_le _ _
def seA (b:Nat):Array Value:=#[.pointer (some ⟨b+4,0,none⟩),.pointer (some ⟨b,0,none⟩),.pointer (some ⟨b+2,0,none⟩),.pointer (some ⟨b+5,0,none⟩)]
structure LvI (w:World) (b d:Nat) (C:List (List Int)) (cs rv sv:Value) (M A:List Nat) (wr:World):Prop where
 lo:w.heap.size≤b
 bel:Below w.heap.size w wr
 sz:b+6≤wr.heap.size
 bd:wr.heap[b]?=some (.cells #[.int .i64 d,cs,rv,sv] 60 (0,0))
 ob:wr.heap[b+2]?=some (.cells #[.slice (some ⟨b+1,0,none⟩) (d+2) (d+2)] 63 (0,0))
 mb:wr.heap[b+4]?=some (.cells #[.map (some (b+3))] 76 (0,0))
 fb:wr.heap[b+5]?=some (.cells #[.func (.func 50) #[] (seA b)] 77 (0,0))
 mp:∃D:DataW Unit,wr.ownsMap Tryz.prog 74 (plainElem Tryz.prog 3) (b+3) M.length D∧∀x:Nat,Maps.has D (.int .u64 (x:Int))=decide (x∈M)∧(x∈M→D.atKey (.int .u64 (x:Int)) (.lit (.int .i64 0))=.lit (.int .i64 (dimL d C x)))
 ro:∃vs:List Value,vs.length=d+2∧wr.heap[b+1]?=some (.cells vs.toArray 58 (0,0))∧(∀t,t < d+2→wr.ownsRow (b+6) 74 1 (vs.getD t undef) (lvA d C A t).length (u64s (lvA d C A t)))∧∀s t,s < d+2→t < d+2→s≠t→∀x,(vs.getD s undef).ownBlock=some x→(vs.getD t undef).ownBlock≠some x
theorem LvI.below {w:World} {b d:Nat} {C:List (List Int)} {cs rv sv:Value} {M A:List Nat} {wr w2:World} (h:LvI w b d C cs rv sv M A wr) (hb:Below wr.heap.size wr w2):LvI w b d C cs rv sv M A w2:=by
 have hsz:=h.sz
 obtain ⟨D,h1,h2⟩:=h.mp
 obtain ⟨vs,r1,r2,r3,r4⟩:=h.ro
 have hk:∀x,x < b+6→w2.heap[x]?=wr.heap[x]?:=fun x hx=>hb.block x (by omega)
 exact ⟨h.lo,h.bel.trans (hb.mono h.bel.size),Nat.le_trans hsz hb.size,(hk _ (by omega)).trans h.bd,(hk _ (by omega)).trans h.ob,(hk _ (by omega)).trans h.mb,(hk _ (by omega)).trans h.fb,
  ⟨D,h1.kept (row:=none) ⟨hb.os,hb.tape,hb.output,hb.size,fun k hk _=>hb.block k hk⟩ (by simp),h2⟩,vs,r1,(hk _ (by omega)).trans r2,fun t ht=>owns_below (r3 t ht) hb (Nat.le_refl _),r4⟩
theorem keyedS:Maps.Keyed Tryz.prog 74:=Maps.int_keyed (q:=.u64) (by kernel_rfl)
theorem keyS {x:Nat} (hx:x < 2 ^ 64):keyOf Tryz.prog 74 (.int .u64 (x:Int))=some (.int .u64 (x:Int)):=
 Maps.keyOf_int_mk (q:=.u64) (by kernel_rfl) (by
  simp [Lit.wf,IntKind.min,IntKind.max,IntKind.signed,IntKind.bits]
  omega)
theorem mapS:Tryz.prog.underlying 76=some (.map 74 3):=by kernel_rfl
theorem LvI.look {w:World} {b d:Nat} {C:List (List Int)} {cs rv sv:Value} {M A:List Nat} {wr:World} (h:LvI w b d C cs rv sv M A wr) {x:Nat} (hx:x < 2 ^ 64) :
  ∃v,(Instr.lookup 76 (.map (some (b+3))) (.int .u64 (x:Int)) true).run Tryz.prog wr=.ok (.tuple #[v,.bool (decide (x∈M))]) wr:=by
 obtain ⟨D,h1,h2⟩:=h.mp
 obtain ⟨v,ps,hv,_⟩:=h1.look_ok keyedS mapS (z:=.int .i64 0) (by kernel_rfl) (zd:=.lit (.int .i64 0)) (zp:=[]) (plainElem_int (q:=.i64) (by kernel_rfl) (by decide)) (keyS hx)
 rw [(h2 x).1] at hv
 exact ⟨v,hv⟩
theorem LvI.at_ {w:World} {b d:Nat} {C:List (List Int)} {cs rv sv:Value} {M A:List Nat} {wr:World} (h:LvI w b d C cs rv sv M A wr) {x:Nat} (hx:x < 2 ^ 64) (hm:x∈M) :
  (Instr.lookup 76 (.map (some (b+3))) (.int .u64 (x:Int)) false).run Tryz.prog wr=.ok (.int .i64 (dimL d C x)) wr:=by
 obtain ⟨D,h1,h2⟩:=h.mp
 obtain ⟨c,hv,hat,_⟩:=h1.lookup_int keyedS mapS (q:=.i64) (by kernel_rfl) (by kernel_rfl) (keyS hx)
 rw [(h2 x).2 hm] at hat
 have:dimL d C x=c:=by simpa using hat
 rw [this]
 exact hv
theorem LvI.put {w:World} {b d:Nat} {C:List (List Int)} {cs rv sv:Value} {M A:List Nat} {wr:World} (h:LvI w b d C cs rv sv M A wr) {x:Nat} (hx:x < 2 ^ 64) (hM:M.length≤5000) (hd:d≤64) :
  ∃w2,(Instr.mapUpdate 76 (.map (some (b+3))) (.int .u64 (x:Int)) (.int .i64 (dimL d C x))).run Tryz.prog wr=.ok () w2∧LvI w b d C cs rv sv (M ++ [x]) A w2:=by
 obtain ⟨D,h1,h2⟩:=h.mp
 obtain ⟨vs,r1,r2,r3,r4⟩:=h.ro
 obtain ⟨t,ht,hte⟩:=dimL_bd d C x
 obtain ⟨w2,hrun,ho,hg⟩:=h1.update keyedS mapS (by unfold maxLen; omega) (keyS hx) (val:=.int .i64 (dimL d C x)) (d:=.lit (.int .i64 (dimL d C x))) (ps:=[]) (plainElem_int (q:=.i64) (by kernel_rfl) (by
  simp [Lit.wf,IntKind.min,IntKind.max,IntKind.signed,IntKind.bits]
  omega))
 have hlo:=h.lo
 have hsz:=h.sz
 have hk:∀y,y < wr.heap.size→y≠b+3→w2.heap[y]?=wr.heap[y]?:=fun y hy hne=>hg.block y hy (fun e=>hne (by simpa using e))
 have hne3:∀t,t < d+2→(vs.getD t undef).ownBlock≠some (b+3):=fun t ht e=>by have:=((r3 t ht).lt _ e).1; omega
 refine ⟨w2,hrun,⟨hlo,h.bel.grown hg h.bel.size (fun k hk=>by simp at hk; omega),Nat.le_trans hsz hg.size,(hk _ (by omega) (by omega)).trans h.bd,(hk _ (by omega) (by omega)).trans h.ob,(hk _ (by omega) (by omega)).trans h.mb,(hk _ (by omega) (by omega)).trans h.fb,
  ⟨_,by rw [List.length_append,List.length_singleton]; exact ho,fun y=>?_⟩,vs,r1,(hk _ (by omega) (by omega)).trans r2,fun t ht=>(r3 t ht).kept hg (Or.inr (hne3 t ht)),r4⟩⟩
 by_cases e:y=x
 ·subst e
  rw [Maps.has_put_same h1.isMap (by trivial),Maps.atKey_put_same h1.isMap (by trivial)]
  exact ⟨by simp,fun _=>rfl⟩
 ·have hne:(Lit.int .u64 (y:Int))≠Lit.int .u64 (x:Int):=fun e2=>e (by simp only [Lit.int.injEq,true_and] at e2; omega)
  obtain ⟨g1,g2⟩:=h2 y
  rw [Maps.has_put_other hne,Maps.atKey_put_other hne,g1]
  exact ⟨by simp [e],fun hm=>g2 (by simpa [e] using hm)⟩
theorem LvI.push {w:World} {b d:Nat} {C:List (List Int)} {cs rv sv:Value} {M A:List Nat} {wr:World} (h:LvI w b d C cs rv sv M A wr) (x:Nat) {t:Nat} (ht:t < d+2) (hte:dimL d C x+1=(t:Int)) :
  ∃ao cp,wr.cell? ⟨b+1,t,none⟩=some (.slice ao (lvA d C A t).length cp)∧wr.ownsRow (b+6) 74 1 (.slice ao (lvA d C A t).length cp) (lvA d C A t).length (u64s (lvA d C A t))∧
   ∀v' w5,w5.ownsRow (b+6) 74 1 v' ((lvA d C A t).length+1) (u64s (lvA d C A t) ++ [.int .u64 (x:Int)])→(wr.alloc (.cells #[.int .u64 (x:Int)] 74)).grownBy w5 (Value.slice ao (lvA d C A t).length cp).ownBlock→(v'.ownBlock=(Value.slice ao (lvA d C A t).length cp).ownBlock∨v'.ownBlock=some (wr.heap.size+1))→
    w5.cell? ⟨b+1,t,none⟩=some (.slice ao (lvA d C A t).length cp)∧w5.frozen? ⟨b+1,t,none⟩=false∧LvI w b d C cs rv sv M (A ++ [x]) (w5.setCell ⟨b+1,t,none⟩ v'):=by
 obtain ⟨D,h1,h2⟩:=h.mp
 obtain ⟨vs,r1,r2,r3,r4⟩:=h.ro
 have hlo:=h.lo
 have hsz:=h.sz
 obtain ⟨ao,cp,hv⟩:=owns_form (r3 t ht)
 have hvt:vs[t]?=some (vs.getD t undef):=by simp [show t < vs.length by omega]
 refine ⟨ao,cp,?_,by rw [←hv]; exact r3 t ht,fun v' w5 ho hg hat=>?_⟩
 ·rw [←hv]
  simp [World.cell?,r2,show t < vs.length by omega]
 rw [←hv] at hg hat ⊢
 obtain ⟨vt,hvt'⟩:∃vt,vt=vs.getD t undef:=⟨_,rfl⟩
 have hown:∀y,(vs.getD t undef).ownBlock=some y→b+6≤y:=fun y hy=>((r3 t ht).lt y hy).1
 have hkb:∀y,y < wr.heap.size→(vs.getD t undef).ownBlock≠some y→w5.heap[y]?=wr.heap[y]?:=fun y hy hne=>
  (hg.block y (by simp; omega) (fun e=>hne e.symm)).trans (Below.heap_alloc wr _ y hy)
 have hk6:∀y,y < b+6→w5.heap[y]?=wr.heap[y]?:=fun y hy=>hkb y (by omega) (fun e=>by have:=hown y e; omega)
 have h5:w5.heap[b+1]?=some (.cells vs.toArray 58 (0,0)):=(hk6 _ (by omega)).trans r2
 have hs5:∀y,y≠b+1→(w5.setCell ⟨b+1,t,none⟩ v').heap[y]?=w5.heap[y]?:=fun y hy=>Below.heap_setCell _ _ _ _ hy
 have hv'b:∀y,v'.ownBlock=some y→b+6≤y:=fun y hy=>(ho.lt y hy).1
 have hbel5:Below w.heap.size w w5:=(h.bel.alloc h.bel.size _).grown hg (by have:=h.bel.size; simp; omega) (fun k hk=>by have:=hown k hk; omega)
 refine ⟨by simp [World.cell?,h5,show t < vs.length by omega],by simp [World.frozen?,h5],⟨hlo,hbel5.setCell (by show _≤b+1; omega) _,?_,(hs5 _ (by omega)).trans ((hk6 _ (by omega)).trans h.bd),(hs5 _ (by omega)).trans ((hk6 _ (by omega)).trans h.ob),(hs5 _ (by omega)).trans ((hk6 _ (by omega)).trans h.mb),(hs5 _ (by omega)).trans ((hk6 _ (by omega)).trans h.fb),⟨D,?_,h2⟩,vs.set t v',by simp [r1],?_,fun s hs=>?_,fun s u hs hu hsu y=>?_⟩⟩
 ·simp only [World.setCell,Array.size_modify]
  exact Nat.le_trans hsz (Nat.le_trans (by simp) hg.size)
 ·exact ((h1.alloc _).kept hg (fun e=>by have:=hown _ e.symm; omega)).setCell (by show b+3≠b+1; omega) _
 ·simp [World.setCell,Array.getElem?_modify,h5]
 ·by_cases e:s=t
  ·subst e
   rw [lvA_same hte]
   have e1:(vs.set s v').getD s undef=v':=by simp [show s < vs.length by omega]
   rw [e1]
   have:=ownsRow_setCell_other ho (a:=⟨b+1,s,none⟩) (fun e=>by have:b+6≤b+1:=hv'b _ e; omega) v'
   simpa [u64s] using this
  ·rw [lvA_oth hte e]
   have e1:(vs.set t v').getD s undef=vs.getD s undef:=by simp [Ne.symm e]
   rw [e1]
   refine ownsRow_setCell_other (((r3 s hs).alloc _).kept hg ?_) (a:=⟨b+1,t,none⟩) (fun e=>by have:b+6≤b+1:=((r3 s hs).lt _ e).1; omega) v'
   cases hb:(vs.getD s undef).ownBlock with
   | none=>exact Or.inl rfl
   | some y=>exact Or.inr (fun e2=>r4 s t hs ht e y hb e2.symm)
 ·have key:∀s,s < d+2→(vs.set t v').getD s undef=if s=t then v' else vs.getD s undef:=fun s hs=>by
   by_cases e:s=t
   ·subst e; simp [show s < vs.length by omega]
   ·simp [Ne.symm e,e]
  rw [key s hs,key u hu]
  have hfr:∀s,s < d+2→(vs.getD s undef).ownBlock≠some (wr.heap.size+1):=fun s hs e=>by have:=((r3 s hs).lt _ e).2; omega
  by_cases e1:s=t <;> by_cases e2:u=t
  ·omega
  ·rw [if_pos e1,if_neg e2]
   intro hy e3
   rcases hat with e4 | e4
   ·rw [e4] at hy; exact r4 t u ht hu (Ne.symm e2) y hy e3
   ·rw [e4] at hy
    simp only [Option.some.injEq] at hy
    subst hy
    exact hfr u hu e3
  ·rw [if_neg e1,if_pos e2]
   intro hy e3
   rcases hat with e4 | e4
   ·rw [e4] at e3; exact r4 s t hs ht e1 y hy e3
   ·rw [e4] at e3
    simp only [Option.some.injEq] at e3
    subst e3
    exact hfr s hs hy
  ·rw [if_neg e1,if_neg e2]
   exact r4 s u hs hu hsu y
inductive ItrF (S:List Nat) (f:Nat):Nat→Prop
 | self:ItrF S f f
 | cut {a t:Nat} : ItrF S f a→t∈S→ItrF S f (a &&& t)
theorem ItrF.more {S:List Nat} {f g t:Nat} (ht:t∈S) (h:ItrF S (f &&& t) g):ItrF S f g:=by
 induction h with
 | self=>exact .cut .self ht
 | cut _ h1 ih=>exact .cut ih h1
theorem ItrF.le {S:List Nat} {f g:Nat} (h:ItrF S f g):g≤f:=by
 induction h with
 | self=>exact Nat.le_refl _
 | cut _ _ ih=>exact Nat.le_trans Nat.and_le_left ih
structure SeeP (S:List Nat) (f:Nat) (A A':List Nat):Prop where
 old:∀g∈A,g∈A'
 self:f∈A'
 cl:∀g∈A',g∉A→∀t∈S,g &&& t∈A'
 gen:∀g∈A',g∉A→ItrF S f g
 nd:A'.Nodup
structure SeeJ (S:List Nat) (f j:Nat) (A A':List Nat):Prop where
 old:∀g∈A,g∈A'
 self:f∈A'
 dn:∀i,i < j→f &&& S.getD i 0∈A'
 cl:∀g∈A',g∉A→g≠f→∀t∈S,g &&& t∈A'
 gen:∀g∈A',g∉A→ItrF S f g
 nd:A'.Nodup
theorem SeeJ.start {S:List Nat} {f:Nat} {A:List Nat} (hn:A.Nodup) (hf:f∉A):SeeJ S f 0 A (A ++ [f]):=by
 refine ⟨fun g hg=>by simp [hg],by simp,fun i hi=>by omega,fun g hg hg2 hg3=>?_,fun g hg hg2=>?_,?_⟩
 ·simp [hg2,hg3] at hg
 ·simp [hg2] at hg
  subst hg
  exact .self
 ·rw [List.nodup_append]
  exact ⟨hn,by simp,fun a ha b hb=>by simp at hb; subst hb; exact fun e=>hf (e ▸ ha)⟩
theorem SeeJ.next {S:List Nat} {f j:Nat} {A A' A2:List Nat} (h:SeeJ S f j A A') (hj:j < S.length) (h2:SeeP S (f &&& S.getD j 0) A' A2):SeeJ S f (j+1) A A2:=by
 have hm:S.getD j 0∈S:=by simp [hj]
 refine ⟨fun g hg=>h2.old g (h.old g hg),h2.old f h.self,fun i hi=>?_,fun g hg hg2 hg3 t ht=>?_,fun g hg hg2=>?_,h2.nd⟩
 ·by_cases e:i=j
  ·subst e; exact h2.self
  ·exact h2.old _ (h.dn i (by omega))
 ·by_cases e:g∈A'
  ·exact h2.old _ (h.cl g e hg2 hg3 t ht)
  ·exact h2.cl g hg e t ht
 ·by_cases e:g∈A'
  ·exact h.gen g e hg2
  ·exact (h2.gen g hg e).more hm
theorem SeeJ.done {S:List Nat} {f:Nat} {A A':List Nat} (h:SeeJ S f S.length A A'):SeeP S f A A':=by
 refine ⟨h.old,h.self,fun g hg hg2 t ht=>?_,h.gen,h.nd⟩
 by_cases e:g=f
 ·subst e
  obtain ⟨i,hi,rfl⟩:=List.getElem_of_mem ht
  have:=h.dn i hi
  simpa [hi] using this
 ·exact h.cl g hg hg2 e t ht
theorem see_all {S:List Nat} {n:Nat} {A:List Nat} (h:SeeP S (2 ^ n-1) [] A) {a:Nat} : a∈A↔Itr n S a:=by
 constructor
 ·intro ha
  have:=h.gen a ha (by simp)
  induction this with
  | self=>exact .full
  | cut h1 ht ih=>
   refine .cut (ih ?_) ht
   clear ih ha
   induction h1 with
   | self=>exact h.self
   | cut _ ht2 ih2=>exact h.cl _ ih2 (by simp) _ ht2
 ·intro ha
  induction ha with
  | full=>exact h.self
  | cut _ ht ih=>exact h.cl _ ih (by simp) _ ht
end Go.Proofs.YtkfdpcgmpbopnaaGreatDoor
namespace Go.Proofs.YtkfdpcgmpbopnaaGreatDoor
open Go.RowKit Lin
attribute [local go_sem ↓] Go.wp_at_zero Go.wp_at_succ
structure SeeW (w:World) (b d:Nat) (C:List (List Int)) (co:Option Addr) (cc:Nat) (rv:Value) (so:Option Addr) (sc:Nat) (S A:List Nat) (wr:World):Prop where
 i:LvI w b d C (.slice co C.length cc) rv (.slice so S.length sc) A A wr
 nd:A.Nodup
 lt:∀g∈A,g < 1024
theorem SeeW.len {w:World} {b d:Nat} {C:List (List Int)} {co:Option Addr} {cc:Nat} {rv:Value} {so:Option Addr} {sc:Nat} {S A:List Nat} {wr:World} (h:SeeW w b d C co cc rv so sc S A wr):A.length≤1024:=by
 have:=nodup_len A (List.range 1024) h.nd fun x hx=>List.mem_range.2 (h.lt x hx)
 simpa using this
set_option maxRecDepth 100000 in
set_option maxHeartbeats 800000 in
theorem see_old (w:World) (b d:Nat) (C:List (List Int)) (cs rv sv:Value) (A:List Nat) (f:Nat) (wr:World) (hI:LvI w b d C cs rv sv A A wr) (hf:f < 1024) (hm:f∈A) :
  Calls Tryz.prog 50 #[.int .u64 (f:Int),.pointer (some ⟨b+4,0,none⟩),.pointer (some ⟨b,0,none⟩),.pointer (some ⟨b+2,0,none⟩),.pointer (some ⟨b+5,0,none⟩)] wr fun e w'=>e=.returned (.tuple #[])∧w'=wr:=by
 obtain ⟨v,hl⟩:=hI.look (x:=f) (by omega)
 have hd:decide (f∈A)=true:=by simp [hm]
 rw [hd] at hl
 have hmb:=hI.mb
 have c4:wr.cell? ⟨b+4,0,none⟩=some (.map (some (b+3))):=by simp [World.cell?,hmb]
 clear hI hmb hm hd
 go_enter Tryz.func50,Tryz.ntmps50
 go_wp2
 exact bodyPost_ret (v:=.tuple #[]) (by simp [results,Tryz.results50,go_sem]) rfl ⟨rfl,rfl⟩
set_option maxRecDepth 100000 in
set_option maxHeartbeats 4000000 in
theorem see_any (w:World) (b d:Nat) (C:List (List Int)) (co:Option Addr) (cc:Nat) (rv:Value) (so:Option Addr) (sc:Nat) (S:List Nat) (hC:Mat w.heap.size 22 3 w (.slice co C.length cc) C) (hbx:Box d 30 C) (h1:1≤d) (h4:d≤4) (hn:C.length≤10) (hT:TabB w) (hS:Sl w.heap.size 74 w (.slice so S.length sc) (u64s S)) (hS1:∀t∈S,t < 1024) (hSl:S.length≤5000) :
  ∀(k f:Nat) (A:List Nat) (wr:World),f < k→f < 2 ^ C.length→SeeW w b d C co cc rv so sc S A wr→
  Calls Tryz.prog 50 #[.int .u64 (f:Int),.pointer (some ⟨b+4,0,none⟩),.pointer (some ⟨b,0,none⟩),.pointer (some ⟨b+2,0,none⟩),.pointer (some ⟨b+5,0,none⟩)] wr fun e w'=>e=.returned (.tuple #[])∧∃A',SeeW w b d C co cc rv so sc S A' w'∧SeeP S f A A'
 | 0,f,A,wr,hk,hf,hW=>by omega
 | k+1,f,A,wr,hk,hf,hW=>by
  have hf10:f < 1024:=Nat.lt_of_lt_of_le hf (Nat.le_trans (Nat.pow_le_pow_right (by decide) hn) (by decide))
  by_cases hm:f∈A
  ·refine (see_old w b d C _ rv _ A f wr hW.i hf10 hm).mono ?_
   rintro e w' ⟨rfl,rfl⟩
   exact ⟨rfl,A,hW,fun g hg=>hg,hm,fun g hg hg2=>absurd hg hg2,fun g hg hg2=>absurd hg hg2,hW.nd⟩
  obtain ⟨i3,hi3,hz30,hz31,hz32⟩:=info_parts Tryz.infoS
  have HREC:Hid (∀(s:Nat) (A':List Nat) (W:World),f∈A'→SeeW w b d C co cc rv so sc S A' W→Calls Tryz.prog 50 #[.int .u64 ((f &&& s:Nat):Int),.pointer (some ⟨b+4,0,none⟩),.pointer (some ⟨b,0,none⟩),.pointer (some ⟨b+2,0,none⟩),.pointer (some ⟨b+5,0,none⟩)] W fun e w'=>e=.returned (.tuple #[])∧∃A2,SeeW w b d C co cc rv so sc S A2 w'∧SeeP S (f &&& s) A' A2):=fun s A' W hm2 hW2=>by
   have hle:f &&& s≤f:=Nat.and_le_left
   by_cases e:f &&& s=f
   ·rw [e]
    refine (see_old w b d C _ rv _ A' f W hW2.i hf10 hm2).mono ?_
    rintro e w' ⟨rfl,rfl⟩
    exact ⟨rfl,A',hW2,fun g hg=>hg,hm2,fun g hg hg2=>absurd hg hg2,fun g hg hg2=>absurd hg hg2,hW2.nd⟩
   ·exact see_any w b d C co cc rv so sc S hC hbx h1 h4 hn hT hS hS1 hSl k (f &&& s) A' W (by omega) (by omega) hW2
  have hAl:=hW.len
  have HDIM:Hid (∀W,Below w.heap.size w W→Calls Tryz.prog 51 #[.agg #[.int .i64 d,.slice co C.length cc,rv,.slice so S.length sc],.int .u64 (f:Int)] W fun e w'=>e=.returned (.int .i64 (dimL d C f))∧Below W.heap.size W w'):=fun W hb=>
   dimF_any d C co cc rv (.slice so S.length sc) f W ((hC.below hb (Nat.le_refl _)).any (Nat.le_refl _)) hbx h1 h4 hn hf (hT.below hb)
  obtain ⟨t,ht,hte⟩:=dimL_bd d C f
  have HPUT:Hid (∀W,LvI w b d C (.slice co C.length cc) rv (.slice so S.length sc) A A W→∃w2,(Instr.mapUpdate 76 (.map (some (b+3))) (.int .u64 (f:Int)) (.int .i64 (dimL d C f))).run Tryz.prog W=.ok () w2∧LvI w b d C (.slice co C.length cc) rv (.slice so S.length sc) (A ++ [f]) A w2):=fun W h=>h.put (by omega) (by omega) (by omega)
  have HAT:Hid (∀W,LvI w b d C (.slice co C.length cc) rv (.slice so S.length sc) (A ++ [f]) A W→(Instr.lookup 76 (.map (some (b+3))) (.int .u64 (f:Int)) false).run Tryz.prog W=.ok (.int .i64 (dimL d C f)) W):=fun W h=>h.at_ (by omega) (by simp)
  have HPUSH:Hid (∀W,LvI w b d C (.slice co C.length cc) rv (.slice so S.length sc) (A ++ [f]) A W→∃ll ao cp xs,ll≤1024∧W.cell? ⟨b+1,t,none⟩=some (.slice ao ll cp)∧W.ownsRow (b+6) 74 1 (.slice ao ll cp) ll xs∧
   ∀v' w5,w5.ownsRow (b+6) 74 1 v' (ll+1) (xs ++ [.int .u64 (f:Int)])→(W.alloc (.cells #[.int .u64 (f:Int)] 74)).grownBy w5 (Value.slice ao ll cp).ownBlock→(v'.ownBlock=(Value.slice ao ll cp).ownBlock∨v'.ownBlock=some (W.heap.size+1))→
    w5.cell? ⟨b+1,t,none⟩=some (.slice ao ll cp)∧w5.frozen? ⟨b+1,t,none⟩=false∧SeeW w b d C co cc rv so sc S (A ++ [f]) (w5.setCell ⟨b+1,t,none⟩ v')):=fun W h=>by
   obtain ⟨ao,cp,q1,q2,q3⟩:=h.push f ht hte
   refine ⟨_,ao,cp,_,Nat.le_trans (lvA_len d C A t) hAl,q1,q2,fun v' w5 p1 p2 p3=>?_⟩
   obtain ⟨u1,u2,u3⟩:=q3 v' w5 p1 p2 p3
   refine ⟨u1,u2,u3,?_,fun g hg=>?_⟩
   ·exact (SeeJ.start (S:=S) hW.nd hm).nd
   ·rcases List.mem_append.1 hg with h | h
    ·exact hW.lt g h
    ·simp at h; omega
  have HSTART:Hid (SeeJ S f 0 A (A ++ [f])):=SeeJ.start hW.nd hm
  have HMEM:Hid (∀j A',SeeJ S f j A A'→f∈A'):=fun j A' h=>h.self
  have HBOX:Hid (∀M A' W,LvI w b d C (.slice co C.length cc) rv (.slice so S.length sc) M A' W→W.cell? ⟨b+4,0,none⟩=some (.map (some (b+3)))∧W.cell? ⟨b,0,none⟩=some (.int .i64 d)∧W.cell? ⟨b,1,none⟩=some (.slice co C.length cc)∧W.cell? ⟨b,2,none⟩=some rv∧W.cell? ⟨b,3,none⟩=some (.slice so S.length sc)∧W.cell? ⟨b+2,0,none⟩=some (.slice (some ⟨b+1,0,none⟩) (d+2) (d+2))∧W.cell? ⟨b+5,0,none⟩=some (.func (.func 50) #[] #[.pointer (some ⟨b+4,0,none⟩),.pointer (some ⟨b,0,none⟩),.pointer (some ⟨b+2,0,none⟩),.pointer (some ⟨b+5,0,none⟩)])):=fun M A' W h=>by
   have q1:=h.mb
   have q2:=h.bd
   have q3:=h.ob
   have q4:=h.fb
   exact ⟨by simp [World.cell?,q1],by simp [World.cell?,q2],by simp [World.cell?,q2],by simp [World.cell?,q2],by simp [World.cell?,q2],by simp [World.cell?,q3],by simp [World.cell?,q4,seA]⟩
  have HBEL:Hid (∀M A' W,LvI w b d C (.slice co C.length cc) rv (.slice so S.length sc) M A' W→Below w.heap.size w W∧b+6≤W.heap.size):=fun M A' W h=>⟨h.bel,h.sz⟩
  have HSD:Hid (∀W j,Below w.heap.size w W→j < S.length→∃sb soo,so=some ⟨sb,soo,none⟩∧W.cell? ⟨sb,soo+j,none⟩=some (.int .u64 ((S.getD j 0:Nat):Int))∧bits .and .u64 (f:Int) ((S.getD j 0:Nat):Int)=((f &&& S.getD j 0:Nat):Int)):=fun W j hb hj=>by
   obtain ⟨ao,cap,hv,_,_,h5,_⟩:=hS.below hb (Nat.le_refl _)
   simp only [Value.slice.injEq] at hv
   obtain ⟨sb,soo,hs,hcc,_⟩:=h5 j (by rw [u64s_len]; exact hj)
   refine ⟨sb,soo,hv.1.trans hs,?_,bits_and_u64_nat f _ (by omega) (by have:=hS1 (S.getD j 0) (by simp [hj]); omega)⟩
   rw [hcc]
   simp [u64s,hj]
  obtain ⟨v0,hl⟩:=hW.i.look (x:=f) (by omega)
  have hdec:decide (f∈A)=false:=by simp [hm]
  rw [hdec] at hl
  obtain ⟨c4,c0,c1,c2,c3,c5,c6⟩:=HBOX.out _ _ _ hW.i
  have HI:Hid (LvI w b d C (.slice co C.length cc) rv (.slice so S.length sc) A A wr):=hW.i
  have HDN:Hid (∀A',SeeJ S f S.length A A'→SeeP S f A A'):=fun A' h=>h.done
  have HNX:Hid (∀j A' A2,SeeJ S f j A A'→j < S.length→SeeP S (f &&& S.getD j 0) A' A2→SeeJ S f (j+1) A A2):=fun j A' A2 h hj h2=>h.next hj h2
  have hdm:dimL d C f=(t:Int)-1:=by omega
  rw [hdm] at HDIM HPUT HAT
  have hw1:IntKind.wrap .i64 ((t:Int)-1+1)=(t:Int):=by rw [IntKind.wrap_i64]; omega
  clear hC hT hS hS1 hdec hW hm hte hdm hbx hf hk
  go_enter Tryz.func50,Tryz.ntmps50
  go_upto_region 2 with fail
  clear hl
  refine wp_region_held_drew (S:=fun w'=>w'.cell? ⟨b+4,0,none⟩=some (.map (some (b+3)))∧w'.cell? ⟨b,0,none⟩=some (.int .i64 d)∧w'.cell? ⟨b,1,none⟩=some (.slice co C.length cc)∧w'.cell? ⟨b,2,none⟩=some rv∧w'.cell? ⟨b,3,none⟩=some (.slice so S.length sc)) (by kernel_rfl) ⟨c4,c0,c1,c2,c3⟩ (fun hHeld=>?_)
  clear c4 c0 c1 c2 c3 c5 c6
  refine wpAnyH_tk (i:=0) (d:=18) (v:=(.map (some (b+3)))) rfl rfl (by kernel_rfl) (by kernel_rfl) (by kernel_rfl) (fun _ _ _ h=>h) (.inl ⟨by rfl,by (intro wq hSw; (try dsimp only at hSw); go_simp; (try (first | rfl | omega)))⟩) hHeld ?_
  simp only [Act.put,List.setIfInBounds_toArray,List.set_cons_zero,List.set_cons_succ]
  refine wpAnyH_tk (i:=1) (d:=19) (v:=(.int .u64 (f:Int))) rfl rfl (by kernel_rfl) (by kernel_rfl) (by kernel_rfl) (fun _ _ _ h=>h) (.inl ⟨by rfl,by (intro wq hSw; (try dsimp only at hSw); go_simp; (try (first | rfl | omega)))⟩) hHeld ?_
  simp only [Act.put,List.setIfInBounds_toArray,List.set_cons_zero,List.set_cons_succ]
  refine wpAnyH_tk (i:=2) (d:=20) (v:=(.agg #[.int .i64 d,.slice co C.length cc,rv,.slice so S.length sc])) rfl rfl (by kernel_rfl) (by kernel_rfl) (by kernel_rfl) (fun _ _ _ h=>h) (.inl ⟨by rfl,by (intro wq hSw; (try dsimp only at hSw); go_simp; (try (first | rfl | omega)))⟩) hHeld ?_
  simp only [Act.put,List.setIfInBounds_toArray,List.set_cons_zero,List.set_cons_succ]
  refine wpAnyH_tk (i:=3) (d:=21) (v:=(.int .u64 (f:Int))) rfl rfl (by kernel_rfl) (by kernel_rfl) (by kernel_rfl) (fun _ _ _ h=>h) (.inl ⟨by rfl,by (intro wq hSw; (try dsimp only at hSw); go_simp; (try (first | rfl | omega)))⟩) hHeld ?_
  simp only [Act.put,List.setIfInBounds_toArray,List.set_cons_zero,List.set_cons_succ]
  refine wpAnyH_ready (rs:=[4]) (by kernel_rfl) (by simp) ?_
  refine ready_tk (i:=4) rfl (by rfl) (fun K hK=>?_) AllReadyH.nil
  go_simp
  refine (HDIM.out wr.drew ((HBEL.out _ _ _ HI.out).1.drew)).mono ?_
  rintro e w3 ⟨rfl,hb3⟩
  have HI3:Hid (LvI w b d C (.slice co C.length cc) rv (.slice so S.length sc) A A w3):=HI.out.below ((Below.drew (Below.refl wr.heap.size wr)).trans hb3)
  clear hb3
  obtain ⟨w4,hrun4,hI4⟩:=HPUT.out w3 HI3.out
  have HI4:Hid (LvI w b d C (.slice co C.length cc) rv (.slice so S.length sc) (A ++ [f]) A w4):=hI4
  clear hI4
  obtain ⟨c4,c0,c1,c2,c3,c5,c6⟩:=HBOX.out _ _ _ HI3.out
  refine hK.out _ _ ⟨c4,c0,c1,c2,c3⟩ (fun hHeld=>?_)
  clear hK K c4 c0 c1 c2 c3 c5 c6
  refine wpAnyH_ready (rs:=[5]) (by kernel_rfl) (by simp) ?_
  refine ready_tk (i:=5) rfl (by rfl) (fun K hK=>?_) AllReadyH.nil
  go_simp
  obtain ⟨c4,c0,c1,c2,c3,c5,c6⟩:=HBOX.out _ _ _ HI4.out
  refine hK.out _ _ ⟨c4,c0,c1,c2,c3⟩ (fun hHeld=>?_)
  clear hK K hrun4
  refine wpAnyH_done (by kernel_rfl) ?_ _
  clear hHeld
  have hat:=HAT.out w4 HI4.out
  go_upto_region 4 with fail
  clear hat hw1
  obtain ⟨ll,ao,cp,xs,hll,ct,hown,hpush⟩:=HPUSH.out w4 HI4.out
  have HOWN:Hid (w4.ownsRow (b+6) 74 1 (.slice ao ll cp) ll xs):=hown
  have HPU:Hid (∀v' w5,w5.ownsRow (b+6) 74 1 v' (ll+1) (xs ++ [.int .u64 (f:Int)])→(w4.alloc (.cells #[.int .u64 (f:Int)] 74)).grownBy w5 (Value.slice ao ll cp).ownBlock→(v'.ownBlock=(Value.slice ao ll cp).ownBlock∨v'.ownBlock=some (w4.heap.size+1))→
    w5.cell? ⟨b+1,t,none⟩=some (.slice ao ll cp)∧w5.frozen? ⟨b+1,t,none⟩=false∧SeeW w b d C co cc rv so sc S (A ++ [f]) (w5.setCell ⟨b+1,t,none⟩ v')):=hpush
  have HSZ:Hid (b+6≤w4.heap.size):=(HBEL.out _ _ _ HI4.out).2
  have htI:(t:Int) < (d:Int)+2:=by omega
  clear hown hpush
  obtain ⟨W5,hW5⟩:∃W5,W5=(w4.alloc (.cells #[.int .u64 (f:Int)] 74)).drew:=⟨_,rfl⟩
  have hB5:Below w4.heap.size w4 W5:=by rw [hW5]; exact ((Below.refl w4.heap.size w4).alloc (Nat.le_refl _) _).drew
  have c55:W5.cell? ⟨b+2,0,none⟩=some (.slice (some ⟨b+1,0,none⟩) (d+2) (d+2)):=(HBOX.out _ _ _ (HI4.out.below hB5)).2.2.2.2.2.1
  have ct5:W5.cell? ⟨b+1,t,none⟩=some (.slice ao ll cp):=by
   have:=HSZ.out
   rw [←ct]
   unfold World.cell?
   rw [hB5.block (b+1) (by omega)]
  have HOWN5:Hid (W5.ownsRow (b+6) 74 1 (.slice ao ll cp) ll xs):=owns_below HOWN.out hB5 (Nat.le_refl _)
  have HNEW:Hid (∀j u,([.int .u64 (f:Int)]:List Value)[j]?=some u→W5.cell? (Addr.add ⟨w4.heap.size,0,none⟩ j)=some u):=by rw [hW5]; exact one_new w4 _ _
  have HSZ5:Hid (b+6≤W5.heap.size):=Nat.le_trans HSZ.out hB5.size
  have HPU5:Hid (∀v' w5,w5.ownsRow (b+6) 74 1 v' (ll+1) (xs ++ [.int .u64 (f:Int)])→W5.grownBy w5 (Value.slice ao ll cp).ownBlock→(v'.ownBlock=(Value.slice ao ll cp).ownBlock∨v'.ownBlock=some W5.heap.size)→
    w5.cell? ⟨b+1,t,none⟩=some (.slice ao ll cp)∧w5.frozen? ⟨b+1,t,none⟩=false∧SeeW w b d C co cc rv so sc S (A ++ [f]) (w5.setCell ⟨b+1,t,none⟩ v')):=by
   rw [hW5]
   exact fun v' w5 p1 p2 p3=>HPU.out v' w5 p1 ⟨p2.os,p2.tape,p2.output,p2.size,p2.block⟩ (by simpa using p3)
  clear hB5 HOWN HPU
  go_cut [8] from 27 (fun x wx=>x=.int .i64 (t:Int)∧SeeW w b d C co cc rv so sc S (A ++ [f]) wx)
  case first=>
   refine wp_region_held_drew (S:=fun w'=>w'.cell? ⟨b+2,0,none⟩=some (.slice (some ⟨b+1,0,none⟩) (d+2) (d+2))) (by kernel_rfl) c5 (fun hHeld=>?_)
   refine wpAnyH_tk (i:=0) (d:=27) (v:=(.slice (some ⟨b+1,0,none⟩) (d+2) (d+2))) rfl rfl (by kernel_rfl) (by kernel_rfl) (by kernel_rfl) (fun _ _ _ h=>h) (.inl ⟨by rfl,by (intro wq hSw; (try dsimp only at hSw); go_simp; (try (first | rfl | omega)))⟩) hHeld ?_
   simp only [Act.put,List.setIfInBounds_toArray,List.set_cons_zero,List.set_cons_succ]
   refine wpAnyH_tk (i:=1) (d:=28) (v:=(.int .i64 (t:Int))) rfl rfl (by kernel_rfl) (by kernel_rfl) (by kernel_rfl) (fun _ _ _ h=>h) (.inl ⟨by rfl,by (intro wq hSw; (try dsimp only at hSw); go_simp; (try (first | rfl | omega)))⟩) hHeld ?_
   simp only [Act.put,List.setIfInBounds_toArray,List.set_cons_zero,List.set_cons_succ]
   refine wpAnyH_tk (i:=2) (d:=29) (v:=(.slice (some ⟨b+1,0,none⟩) (d+2) (d+2))) rfl rfl (by kernel_rfl) (by kernel_rfl) (by kernel_rfl) (fun _ _ _ h=>h) (.inl ⟨by rfl,by (intro wq hSw; (try dsimp only at hSw); go_simp; (try (first | rfl | omega)))⟩) hHeld ?_
   simp only [Act.put,List.setIfInBounds_toArray,List.set_cons_zero,List.set_cons_succ]
   refine wpAnyH_tk (i:=3) (d:=30) (v:=(.int .i64 (t:Int))) rfl rfl (by kernel_rfl) (by kernel_rfl) (by kernel_rfl) (fun _ _ _ h=>h) (.inl ⟨by rfl,by (intro wq hSw; (try dsimp only at hSw); go_simp; (try (first | rfl | omega)))⟩) hHeld ?_
   simp only [Act.put,List.setIfInBounds_toArray,List.set_cons_zero,List.set_cons_succ]
   refine wpAnyH_tk (i:=4) (d:=31) (v:=(.pointer (some ⟨b+1,t,none⟩))) rfl rfl (by kernel_rfl) (by kernel_rfl) (by kernel_rfl) (fun _ _ _ h=>h) (.inl ⟨by rfl,by (intro wq hSw; (try dsimp only at hSw); go_simp; (try (first | rfl | omega)))⟩) hHeld ?_
   simp only [Act.put,List.setIfInBounds_toArray,List.set_cons_zero,List.set_cons_succ]
   refine wpAnyH_tk (i:=6) (d:=33) (v:=(.int .u64 (f:Int))) rfl rfl (by kernel_rfl) (by kernel_rfl) (by kernel_rfl) (fun _ _ _ h=>h) (.inl ⟨by rfl,by (intro wq hSw; (try dsimp only at hSw); go_simp; (try (first | rfl | omega)))⟩) hHeld ?_
   simp only [Act.put,List.setIfInBounds_toArray,List.set_cons_zero,List.set_cons_succ]
   have c5d:w4.drew.cell? ⟨b+2,0,none⟩=some (.slice (some ⟨b+1,0,none⟩) (d+2) (d+2)):=c5
   have ctd:w4.drew.cell? ⟨b+1,t,none⟩=some (.slice ao ll cp):=ct
   refine wpAnyH_ready (rs:=[5,7]) (by kernel_rfl) (by simp) ?_
   refine ready_tk (i:=5) rfl (by rfl) (fun K hK=>?_) (ready_tk (i:=7) rfl (by rfl) (fun K hK=>?_) AllReadyH.nil)
   ·go_simp
    refine hK.out _ _ c5d (fun hHeld=>?_)
    clear hK K
    try simp only [Act.put,List.setIfInBounds_toArray,List.set_cons_zero,List.set_cons_succ]
    refine wpAnyH_ready (rs:=[7]) (by kernel_rfl) (by simp) ?_
    refine ready_tk (i:=7) rfl (by rfl) (fun K hK=>?_) AllReadyH.nil
    go_simp
    rw [←hW5]
    refine hK.out _ _ c55 (fun hHeld=>?_)
    clear hK K
    try simp only [Act.put,List.setIfInBounds_toArray,List.set_cons_zero,List.set_cons_succ]
    refine wpAnyH_ready (rs:=[8]) (by kernel_rfl) (by simp) ?_
    refine ready_tk (i:=8) rfl (by rfl) (fun K hK=>?_) AllReadyH.nil
    refine op_append_ownA _ _ 58 rfl (b+6) 74 i3 (.int .u64 0) 1 8 Tryz.underlying58 hi3 hz30 hz31 hz32 rfl (by decide) (.slice ao ll cp) ll xs rfl HOWN5.out ⟨w4.heap.size,0,none⟩ 1 1 [.int .u64 (f:Int)] rfl rfl HNEW.out (one_u64 _) (by unfold maxLen; omega) (by omega) HSZ5.out ?_
    intro v' w6 ho hg hat
    obtain ⟨vo8,vc8,hv8⟩:=owns_form ho
    subst hv8
    obtain ⟨k1,k2,k3⟩:=HPU5.out (.slice vo8 (ll+1) vc8) w6 ho hg hat
    have K3:Hid (SeeW w b d C co cc rv so sc S (A ++ [f]) (w6.setCell ⟨b+1,t,none⟩ (.slice vo8 (ll+1) vc8))):=k3
    have c56:w6.cell? ⟨b+2,0,none⟩=some (.slice (some ⟨b+1,0,none⟩) (d+2) (d+2)):=by
     have q1:=k3.i.ob
     rw [Below.heap_setCell _ _ _ _ (by show b+2≠b+1; omega)] at q1
     simp [World.cell?,q1]
    have c57:(w6.setCell ⟨b+1,t,none⟩ (.slice vo8 (ll+1) vc8)).cell? ⟨b+2,0,none⟩=some (.slice (some ⟨b+1,0,none⟩) (d+2) (d+2)):=by
     have q1:=k3.i.ob
     simp [World.cell?,q1]
    clear k3 ho hg hat
    refine hK.out _ _ c56 (fun hHeld=>?_)
    clear hK K
    try simp only [Act.put,List.setIfInBounds_toArray,List.set_cons_zero,List.set_cons_succ]
    refine wpAnyH_tk (i:=9) (d:=36) (v:=(.pointer (some ⟨b+1,t,none⟩))) rfl rfl (by kernel_rfl) (by kernel_rfl) (by kernel_rfl) (fun _ _ _ h=>h) (.inl ⟨by rfl,by (intro wq hSw; (try dsimp only at hSw); go_simp; (try (first | rfl | omega)))⟩) hHeld ?_
    simp only [Act.put,List.setIfInBounds_toArray,List.set_cons_zero,List.set_cons_succ]
    refine wpAnyH_ready (rs:=[10]) (by kernel_rfl) (by simp) ?_
    refine ready_tk (i:=10) rfl (by rfl) (fun K hK=>?_) AllReadyH.nil
    go_simp
    refine hK.out _ _ c57 (fun hHeld=>?_)
    clear hK K
    refine wpAnyH_done (by kernel_rfl) ?_ _
    go_wp2
    go_meet
    exact ⟨rfl,K3.out⟩
   ·go_simp
    rw [←hW5]
    clear hW5
    refine hK.out _ _ c55 (fun hHeld=>?_)
    clear hK K
    try simp only [Act.put,List.setIfInBounds_toArray,List.set_cons_zero,List.set_cons_succ]
    refine wpAnyH_ready (rs:=[5]) (by kernel_rfl) (by simp) ?_
    refine ready_tk (i:=5) rfl (by rfl) (fun K hK=>?_) AllReadyH.nil
    go_simp
    refine hK.out _ _ c55 (fun hHeld=>?_)
    clear hK K
    try simp only [Act.put,List.setIfInBounds_toArray,List.set_cons_zero,List.set_cons_succ]
    refine wpAnyH_ready (rs:=[8]) (by kernel_rfl) (by simp) ?_
    refine ready_tk (i:=8) rfl (by rfl) (fun K hK=>?_) AllReadyH.nil
    refine op_append_ownA _ _ 58 rfl (b+6) 74 i3 (.int .u64 0) 1 8 Tryz.underlying58 hi3 hz30 hz31 hz32 rfl (by decide) (.slice ao ll cp) ll xs rfl HOWN5.out ⟨w4.heap.size,0,none⟩ 1 1 [.int .u64 (f:Int)] rfl rfl HNEW.out (one_u64 _) (by unfold maxLen; omega) (by omega) HSZ5.out ?_
    intro v' w6 ho hg hat
    obtain ⟨vo8,vc8,hv8⟩:=owns_form ho
    subst hv8
    obtain ⟨k1,k2,k3⟩:=HPU5.out (.slice vo8 (ll+1) vc8) w6 ho hg hat
    have K3:Hid (SeeW w b d C co cc rv so sc S (A ++ [f]) (w6.setCell ⟨b+1,t,none⟩ (.slice vo8 (ll+1) vc8))):=k3
    have c56:w6.cell? ⟨b+2,0,none⟩=some (.slice (some ⟨b+1,0,none⟩) (d+2) (d+2)):=by
     have q1:=k3.i.ob
     rw [Below.heap_setCell _ _ _ _ (by show b+2≠b+1; omega)] at q1
     simp [World.cell?,q1]
    have c57:(w6.setCell ⟨b+1,t,none⟩ (.slice vo8 (ll+1) vc8)).cell? ⟨b+2,0,none⟩=some (.slice (some ⟨b+1,0,none⟩) (d+2) (d+2)):=by
     have q1:=k3.i.ob
     simp [World.cell?,q1]
    clear k3 ho hg hat
    refine hK.out _ _ c56 (fun hHeld=>?_)
    clear hK K
    try simp only [Act.put,List.setIfInBounds_toArray,List.set_cons_zero,List.set_cons_succ]
    refine wpAnyH_tk (i:=9) (d:=36) (v:=(.pointer (some ⟨b+1,t,none⟩))) rfl rfl (by kernel_rfl) (by kernel_rfl) (by kernel_rfl) (fun _ _ _ h=>h) (.inl ⟨by rfl,by (intro wq hSw; (try dsimp only at hSw); go_simp; (try (first | rfl | omega)))⟩) hHeld ?_
    simp only [Act.put,List.setIfInBounds_toArray,List.set_cons_zero,List.set_cons_succ]
    refine wpAnyH_ready (rs:=[10]) (by kernel_rfl) (by simp) ?_
    refine ready_tk (i:=10) rfl (by rfl) (fun K hK=>?_) AllReadyH.nil
    go_simp
    refine hK.out _ _ c57 (fun hHeld=>?_)
    clear hK K
    refine wpAnyH_done (by kernel_rfl) ?_ _
    go_wp2
    go_meet
    exact ⟨rfl,K3.out⟩
  case rest=>
   obtain ⟨rfl,hW6⟩:=hcut
   clear hW5 c55 ct5 HOWN5 HNEW HSZ5 HPU5 c4 c0 c1 c2 c3 c5 c6 ct HI HI3 HI4 HDIM HPUT HAT HPUSH HSZ
   obtain ⟨c4,c0,c1,c2,c3,c5,c6⟩:=HBOX.out _ _ _ hW6.i
   have HW6:Hid (SeeW w b d C co cc rv so sc S (A ++ [f]) wc):=hW6
   clear hW6
   go_wp2
   clear c4 c0 c1 c2 c3 c5 c6
   go_loopw [40,10] (fun iv _ wq=>∃(j:Nat) (A':List Nat),j≤S.length∧iv=.int .i64 (j:Int)∧SeeW w b d C co cc rv so sc S A' wq∧SeeJ S f j A A') (fun iv _ _=>S.length-(intOf iv).toNat)
   case atStart=>exact ⟨0,A ++ [f],Nat.zero_le _,rfl,HW6.out,HSTART.out⟩
   case round=>
    obtain ⟨j,A',hj,rfl,hWq,hJ⟩:=hrel
    clear HW6
    by_cases hlt:j < S.length
    ·obtain ⟨sb,soo,hso,hcs,hbits⟩:=HSD.out wr j hWq.i.bel hlt
     obtain ⟨c4,c0,c1,c2,c3,c5,c6⟩:=HBOX.out _ _ _ hWq.i
     have hrec:=HREC.out (S.getD j 0) A' wr (HMEM.out _ _ hJ) hWq
     have HN:Hid (∀A2,SeeP S (f &&& S.getD j 0) A' A2→SeeJ S f (j+1) A A2):=fun A2 h=>HNX.out j A' A2 hJ hlt h
     have hjI:(j:Int) < (S.length:Int):=by omega
     clear HBOX HREC HSD HNX HMEM HBEL HDN hJ hWq c4 c0 c1 c2 c3 c5 HSTART
     subst hso
     generalize S.getD j 0=s at *
     generalize f &&& s=z at *
     go_wp2_with fail
     refine hrec.mono ?_
     rintro e w8 ⟨rfl,A2,hW8,hP8⟩
     have H8:Hid (SeeW w b d C co cc rv (some ⟨sb,soo,none⟩) sc S A2 w8∧SeeJ S f (j+1) A A2):=⟨hW8,HN.out A2 hP8⟩
     clear hW8 hP8 hrec hcs c6
     go_wp2
     go_roundw
     case rel=>exact ⟨j+1,A2,by omega,by go_num,H8.out.1,H8.out.2⟩
     case measure=>simp [intOf]; omega
    ·have hje:j=S.length:=by omega
     subst hje
     have HF:Hid (∃A',SeeW w b d C co cc rv so sc S A' wr∧SeeP S f A A'):=⟨A',hWq,HDN.out A' hJ⟩
     clear hWq hJ HBOX HREC HSD HNX HMEM HBEL HDN HSTART
     go_wp2
     refine bodyPost_end (results_none rfl _ _ _) rfl ?_
     exact ⟨rfl,HF.out⟩
end Go.Proofs.YtkfdpcgmpbopnaaGreatDoor
namespace Go.Proofs.YtkfdpcgmpbopnaaGreatDoor
open Go.RowKit Lin
attribute [local go_sem ↓] Go.wp_at_zero Go.wp_at_succ
set_option maxRecDepth 100000 in
set_option maxHeartbeats 800000 in
theorem all10_any (d n:Nat) (co:Option Addr) (cc:Nat) (rv sv:Value) (w:World) (hn:n≤10) :
  Calls Tryz.prog 52 #[.agg #[.int .i64 d,.slice co n cc,rv,sv]] w fun e w'=>e=.returned (.int .u64 ((2 ^ n-1:Nat):Int))∧Below w.heap.size w w':=by
 obtain ⟨W,hW⟩:∃W,W=w.alloc (.cells #[.int .i64 d,.slice co n cc,rv,sv] 60):=⟨_,rfl⟩
 have HB:Hid (Below w.heap.size w W):=by rw [hW]; exact alloc_keep _ _
 have hb0:W.heap[w.heap.size]?=some (.cells #[.int .i64 d,.slice co n cc,rv,sv] 60 (0,0)):=by rw [hW]; exact alloc_at _ _
 have c1:W.cell? ⟨w.heap.size,1,none⟩=some (.slice co n cc):=by simp [World.cell?,hb0]
 clear hb0
 have hx:∃q:Int,q=((2 ^ n-1:Nat):Int):=⟨_,rfl⟩
 obtain ⟨q,hq⟩:=hx
 rw [←hq]
 have h11:n=0∨n=1∨n=2∨n=3∨n=4∨n=5∨n=6∨n=7∨n=8∨n=9∨n=10:=by omega
 go_enter Tryz.func52,Tryz.ntmps52
 go_upto_region 1 with fail
 rw [←hW]
 clear hW
 rcases h11 with rfl | rfl | rfl | rfl | rfl | rfl | rfl | rfl | rfl | rfl | rfl
 all_goals (have hq2:=hq; simp at hq2; subst hq2; clear hq)
 all_goals go_wp2
 all_goals go_ret
 all_goals exact ⟨rfl,HB.out⟩
theorem plF {α:Type} (a:Array α) (x:α) (i:Nat) (h:i < a.size):(a.push x)[i]?=a[i]?:=by
 rw [Array.getElem?_push,if_neg (by omega)]
theorem pnF {α:Type} (a:Array α) (x:α) (i:Nat) (h:i=a.size):(a.push x)[i]?=some x:=by
 subst h
 simp
theorem six_heapF (w:World) (o1 o2 o3 o4 o5 o6:Obj) (b:Nat) (hb:b=w.heap.size) (W:World) (hW:W=(((((w.alloc o1).alloc o2).alloc o3).alloc o4).alloc o5).alloc o6) :
  W.heap[b]?=some o1∧W.heap[b+1]?=some o2∧W.heap[b+2]?=some o3∧W.heap[b+3]?=some o4∧W.heap[b+4]?=some o5∧W.heap[b+5]?=some o6∧W.heap.size=b+6:=by
 have hh:W.heap=(((((w.heap.push o1).push o2).push o3).push o4).push o5).push o6:=by rw [hW]; rfl
 rw [hh]
 subst hb
 refine ⟨?_,?_,?_,?_,?_,?_,by simp only [Array.size_push]⟩
 ·rw [plF _ _ _ (by simp only [Array.size_push]; omega),plF _ _ _ (by simp only [Array.size_push]; omega),plF _ _ _ (by simp only [Array.size_push]; omega),plF _ _ _ (by simp only [Array.size_push]; omega),plF _ _ _ (by simp only [Array.size_push]; omega),pnF _ _ _ rfl]
 ·rw [plF _ _ _ (by simp only [Array.size_push]; omega),plF _ _ _ (by simp only [Array.size_push]; omega),plF _ _ _ (by simp only [Array.size_push]; omega),plF _ _ _ (by simp only [Array.size_push]; omega),pnF _ _ _ (by simp only [Array.size_push])]
 ·rw [plF _ _ _ (by simp only [Array.size_push]; omega),plF _ _ _ (by simp only [Array.size_push]; omega),plF _ _ _ (by simp only [Array.size_push]; omega),pnF _ _ _ (by simp only [Array.size_push])]
 ·rw [plF _ _ _ (by simp only [Array.size_push]; omega),plF _ _ _ (by simp only [Array.size_push]; omega),pnF _ _ _ (by simp only [Array.size_push])]
 ·rw [plF _ _ _ (by simp only [Array.size_push]; omega),pnF _ _ _ (by simp only [Array.size_push])]
 ·rw [pnF _ _ _ (by simp only [Array.size_push])]
theorem made_nils (n:Nat):madeCells #[.slice none 0 0] n=(List.replicate n (Value.slice none 0 0)).toArray:=by
 rw [←toList_madeCells_one]
theorem LvI.start (w:World) (d:Nat) (C:List (List Int)) (cs rv sv:Value) (W:World) (b:Nat) (hb:b=w.heap.size)
  (hW:W=(((((w.alloc (.cells #[.int .i64 d,cs,rv,sv] 60)).alloc (.cells (madeCells #[.slice none 0 0] (d+2)) 58)).alloc (.cells #[.slice (some ⟨b+1,0,none⟩) (d+2) (d+2)] 63)).alloc (.map #[] 0)).alloc (.cells #[.map (some (b+3))] 76)).alloc (.cells #[.func (.func 50) #[] (seA b)] 77)) :
  LvI w b d C cs rv sv [] [] W:=by
 obtain ⟨q1,q2,q3,q4,q5,q6,q7⟩:=six_heapF w _ _ _ _ _ _ b hb W hW
 have hB:Below w.heap.size w W:=by
  rw [hW]
  exact ((((((Below.refl _ _).alloc (Nat.le_refl _) _).alloc (by simp) _).alloc (by simp; omega) _).alloc (by simp; omega) _).alloc (by simp; omega) _).alloc (by simp; omega) _
 have hmp:W.ownsMap Tryz.prog 74 (plainElem (H:=Unit) Tryz.prog 3) (b+3) 0 (.map []):=by
  rw [hW]
  refine World.ownsMap.alloc (World.ownsMap.alloc ?_ _) _
  have:=World.ownsMap_made (((w.alloc (.cells #[.int .i64 d,cs,rv,sv] 60)).alloc (.cells (madeCells #[.slice none 0 0] (d+2)) 58)).alloc (.cells #[.slice (some ⟨b+1,0,none⟩) (d+2) (d+2)] 63)) Tryz.prog 74 (plainElem (H:=Unit) Tryz.prog 3)
  simp only [World.size_alloc] at this
  rw [←hb] at this
  exact this
 refine ⟨by omega,hB,by omega,q1,q3,q5,q6,⟨.map [],hmp,fun x=>⟨by simp [Maps.has],fun h=>by simp at h⟩⟩,List.replicate (d+2) (.slice none 0 0),by simp,by rw [←made_nils]; exact q2,fun t ht=>?_,fun s t hs ht _ x hx=>?_⟩
 ·have e:(List.replicate (d+2) (Value.slice none 0 0)).getD t undef=.slice none 0 0:=by simp [ht]
  rw [e]
  exact World.ownsRow_nil _ _ _ _
 ·have e:(List.replicate (d+2) (Value.slice none 0 0)).getD s undef=.slice none 0 0:=by simp [hs]
  rw [e] at hx
  simp [Value.ownBlock] at hx
set_option maxRecDepth 100000 in
set_option maxHeartbeats 1600000 in
theorem levels_any (d:Nat) (C:List (List Int)) (co:Option Addr) (cc:Nat) (rv:Value) (so:Option Addr) (sc:Nat) (S:List Nat) (w:World) (hC:Mat w.heap.size 22 3 w (.slice co C.length cc) C) (hbx:Box d 30 C) (h1:1≤d) (h4:d≤4) (hn:C.length≤10) (hT:TabB w) (hS:Sl w.heap.size 74 w (.slice so S.length sc) (u64s S)) (hS1:∀t∈S,t < 1024) (hSl:S.length≤5000) :
  Calls Tryz.prog 32 #[.agg #[.int .i64 d,.slice co C.length cc,rv,.slice so S.length sc]] w fun e w'=>e=.returned (.slice (some ⟨w.heap.size+1,0,none⟩) (d+2) (d+2))∧∃A,SeeW w w.heap.size d C co cc rv so sc S A w'∧SeeP S (2 ^ C.length-1) [] A:=by
 have hmm:=@run_makeMap Tryz.prog
 have hmk:∀w:World,(Instr.makeSlice 63 (.int .i64 ((d:Int)+2)) (.int .i64 ((d:Int)+2))).run Tryz.prog w=.ok (.slice (some ⟨w.heap.size,0,none⟩) (d+2) (d+2)) (w.alloc (.cells (madeCells #[.slice none 0 0] (d+2)) 58)):=fun w=>by
  have h:=run_make_row' (P:=Tryz.prog) 63 58 (.slice none 0 0) 24 (by kernel_rfl) (by kernel_rfl) rfl .i64 .i64 (d+2) (by omega) (by omega) w
  rw [show ((d+2:Nat):Int)=(d:Int)+2 by omega] at h
  exact h
 obtain ⟨W,hW⟩:∃W,W=(((((w.alloc (.cells #[.int .i64 d,.slice co C.length cc,rv,.slice so S.length sc] 60)).alloc (.cells (madeCells #[.slice none 0 0] (d+2)) 58)).alloc (.cells #[.slice (some ⟨w.heap.size+1,0,none⟩) (d+2) (d+2)] 63)).alloc (.map #[] 0)).alloc (.cells #[.map (some (w.heap.size+1+1+1))] 76)).alloc (.cells #[.func (.func 50) #[] #[.pointer (some ⟨w.heap.size+1+1+1+1,0,none⟩),.pointer (some ⟨w.heap.size,0,none⟩),.pointer (some ⟨w.heap.size+1+1,0,none⟩),.pointer (some ⟨w.heap.size+1+1+1+1+1,0,none⟩)]] 77):=⟨_,rfl⟩
 have HI:Hid (LvI w w.heap.size d C (.slice co C.length cc) rv (.slice so S.length sc) [] [] W):=LvI.start w d C _ rv _ W w.heap.size rfl hW
 have HALL:Hid (∀X,Calls Tryz.prog 52 #[.agg #[.int .i64 d,.slice co C.length cc,rv,.slice so S.length sc]] X fun e w'=>e=.returned (.int .u64 ((2 ^ C.length-1:Nat):Int))∧Below X.heap.size X w'):=fun X=>all10_any d C.length co cc rv _ X hn
 have HSEE:Hid (∀X,LvI w w.heap.size d C (.slice co C.length cc) rv (.slice so S.length sc) [] [] X→Calls Tryz.prog 50 #[.int .u64 ((2 ^ C.length-1:Nat):Int),.pointer (some ⟨w.heap.size+4,0,none⟩),.pointer (some ⟨w.heap.size,0,none⟩),.pointer (some ⟨w.heap.size+2,0,none⟩),.pointer (some ⟨w.heap.size+5,0,none⟩)] X fun e w'=>e=.returned (.tuple #[])∧∃A',SeeW w w.heap.size d C co cc rv so sc S A' w'∧SeeP S (2 ^ C.length-1) [] A'):=fun X hX=>
  see_any w w.heap.size d C co cc rv so sc S hC hbx h1 h4 hn hT hS hS1 hSl _ (2 ^ C.length-1) [] X (Nat.lt_succ_self _) (by have:0 < 2 ^ C.length:=Nat.pow_pos (by decide); omega) ⟨hX,List.nodup_nil,fun g hg=>by simp at hg⟩
 have HBOX:Hid (∀M A' X,LvI w w.heap.size d C (.slice co C.length cc) rv (.slice so S.length sc) M A' X→(X.cell? ⟨w.heap.size+1+1+1+1+1,0,none⟩=some (.func (.func 50) #[] #[.pointer (some ⟨w.heap.size+4,0,none⟩),.pointer (some ⟨w.heap.size,0,none⟩),.pointer (some ⟨w.heap.size+2,0,none⟩),.pointer (some ⟨w.heap.size+5,0,none⟩)])∧X.cell? ⟨w.heap.size,0,none⟩=some (.int .i64 d)∧X.cell? ⟨w.heap.size,1,none⟩=some (.slice co C.length cc)∧X.cell? ⟨w.heap.size,2,none⟩=some rv∧X.cell? ⟨w.heap.size,3,none⟩=some (.slice so S.length sc))∧X.cell? ⟨w.heap.size+1+1,0,none⟩=some (.slice (some ⟨w.heap.size+1,0,none⟩) (d+2) (d+2))):=fun M A' X h=>by
  have q2:=h.bd
  have q3:=h.ob
  have q4:=h.fb
  exact ⟨⟨by show X.cell? ⟨w.heap.size+5,0,none⟩=_; simp [World.cell?,q4,seA],by simp [World.cell?,q2],by simp [World.cell?,q2],by simp [World.cell?,q2],by simp [World.cell?,q2]⟩,by show X.cell? ⟨w.heap.size+2,0,none⟩=_; simp [World.cell?,q3]⟩
 generalize 2 ^ C.length-1=F at *
 clear hC hbx hT hS hS1
 go_enter Tryz.func32,Tryz.ntmps32
 go_upto_region 5 with fail
 rw [←hW]
 clear hW hmm hmk
 obtain ⟨cs0,cs1⟩:=HBOX.out _ _ _ HI.out
 refine wp_region_held_drew (S:=fun X=>X.cell? ⟨w.heap.size+1+1+1+1+1,0,none⟩=some (.func (.func 50) #[] #[.pointer (some ⟨w.heap.size+4,0,none⟩),.pointer (some ⟨w.heap.size,0,none⟩),.pointer (some ⟨w.heap.size+2,0,none⟩),.pointer (some ⟨w.heap.size+5,0,none⟩)])∧X.cell? ⟨w.heap.size,0,none⟩=some (.int .i64 d)∧X.cell? ⟨w.heap.size,1,none⟩=some (.slice co C.length cc)∧X.cell? ⟨w.heap.size,2,none⟩=some rv∧X.cell? ⟨w.heap.size,3,none⟩=some (.slice so S.length sc)) (by kernel_rfl) cs0 (fun hHeld=>?_)
 clear cs0 cs1
 refine wpAnyH_tk (i:=0) (d:=12) (v:=(.func (.func 50) #[] #[.pointer (some ⟨w.heap.size+4,0,none⟩),.pointer (some ⟨w.heap.size,0,none⟩),.pointer (some ⟨w.heap.size+2,0,none⟩),.pointer (some ⟨w.heap.size+5,0,none⟩)])) rfl rfl (by kernel_rfl) (by kernel_rfl) (by kernel_rfl) (fun _ _ _ h=>h) (.inl ⟨by rfl,by (intro wq hSw; (try dsimp only at hSw); go_simp; (try (first | rfl | omega)))⟩) hHeld ?_
 simp only [Act.put,List.setIfInBounds_toArray,List.set_cons_zero,List.set_cons_succ]
 refine wpAnyH_tk (i:=1) (d:=13) (v:=(.agg #[.int .i64 d,.slice co C.length cc,rv,.slice so S.length sc])) rfl rfl (by kernel_rfl) (by kernel_rfl) (by kernel_rfl) (fun _ _ _ h=>h) (.inl ⟨by rfl,by (intro wq hSw; (try dsimp only at hSw); go_simp; (try (first | rfl | omega)))⟩) hHeld ?_
 simp only [Act.put,List.setIfInBounds_toArray,List.set_cons_zero,List.set_cons_succ]
 refine wpAnyH_ready (rs:=[2]) (by kernel_rfl) (by simp) ?_
 refine ready_tk (i:=2) rfl (by rfl) (fun K hK=>?_) AllReadyH.nil
 go_simp
 refine (HALL.out W.drew).mono ?_
 rintro e w3 ⟨rfl,hb3⟩
 have HI3:Hid (LvI w w.heap.size d C (.slice co C.length cc) rv (.slice so S.length sc) [] [] w3):=HI.out.below ((Below.drew (Below.refl W.heap.size W)).trans hb3)
 clear hb3
 refine hK.out _ _ (HBOX.out _ _ _ HI3.out).1 (fun hHeld=>?_)
 clear hK K
 refine wpAnyH_ready (rs:=[3]) (by kernel_rfl) (by simp) ?_
 refine ready_tk (i:=3) rfl (by rfl) (fun K hK=>?_) AllReadyH.nil
 go_simp
 refine (HSEE.out w3 HI3.out).mono ?_
 rintro e w4 ⟨rfl,A,hW4,hP4⟩
 have HF:Hid (∃A,SeeW w w.heap.size d C co cc rv so sc S A w4∧SeeP S F [] A):=⟨A,hW4,hP4⟩
 obtain ⟨cs0,cs1⟩:=HBOX.out _ _ _ hW4.i
 clear hW4 hP4
 refine hK.out _ _ cs0 (fun hHeld=>?_)
 clear hK K cs0
 refine wpAnyH_done (by kernel_rfl) ?_ _
 clear hHeld
 go_wp2
 go_ret
 exact ⟨rfl,HF.out⟩
end Go.Proofs.YtkfdpcgmpbopnaaGreatDoor
