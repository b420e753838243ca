import Derived.Test.YtdanomklbiidaaaGreatDoorRun12
import Derived.Deep.Onto
import Derived.RangeFuncNested
import Derived.RangeFuncBound
import Derived.RangeFuncCalls
import Derived.RangeFuncLeaves
import Derived.Shelf.Abstract
import Derived.WalkKit
import Derived.OwnWalkIn
import Derived.TacticsInMore
import Derived.LoopNIn
import Derived.LoopIn
namespace Go.Proofs.YtdanomklbiidaaaGreatDoor
open Go.RowKit
theorem owns_row {B b n:Nat} {e:TypeId} {w:World} {f:Nat→Value} {xs:List Value} (h:w.rowIs b e n f) (hB:B≤b) (hn:xs.length=n) (hm:n≤maxLen) (hx:∀i,i < n→xs[i]?=some (f i)) :
  w.ownsRow B e 1 (.slice (some ⟨b,0,none⟩) n n) n xs:=by
 obtain ⟨c,h1,h2,h3⟩:=h
 refine ⟨by omega,Or.inr ⟨b,n,c,rfl,hB,h1,Nat.le_refl _,hm,by omega,?_⟩⟩
 apply List.ext_getElem?
 intro i
 by_cases hi:i < n
 ·rw [List.getElem?_take_of_lt (by omega),hx i hi,Array.getElem?_toList]; exact h3 i hi
 ·rw [List.getElem?_eq_none (by simp; omega),List.getElem?_eq_none (by omega)]
set_option maxRecDepth 100000 in
set_option maxHeartbeats 800000 in
theorem mappedP_own (B:Nat) (l:List Int) (v:Value) (w:World) (hv:Sl B 3 w v (ints l)) (hl:l.length≤1000000) (g:Nat) (d:Int) (hg:g < w.heap.size) (hd:1≤d) (hb:∀z∈l,z.natAbs≤4611686018427387904) (hc:w.cell? ⟨g,0,none⟩=some (.int .i64 d)) :
  Calls Tryz.prog 120 #[v,.func (.func 121) #[] #[.pointer (some ⟨g,0,none⟩)]] w fun e w'=>∃u,e=.returned u∧w'.ownsRow w.heap.size 3 1 u l.length (ints (l.map (fun z=>z.tdiv d)))∧Below w.heap.size w w':=by
 obtain ⟨ao,cap,hvv,hlc,hcm⟩:=sl_open hv
 subst hvv
 have HV:Hid (Sl B 3 w (.slice ao l.length cap) (ints l)):=hv
 have HBD:Hid (∀z∈l,z.natAbs≤4611686018427387904):=hb
 have HC:Hid (w.cell? ⟨g,0,none⟩=some (.int .i64 d)):=hc
 clear hb hc
 clear hv
 have hmk:=run_make_row' (P:=Tryz.prog) 22 3 (.int .i64 0) 8 Tryz.underlying22 Tryz.info3 rfl .i64 .i64 l.length (by omega) (by omega)
 go_enter Tryz.func120,Tryz.ntmps120
 go_wp2
 go_loopw [13] (fun i wr=>∃k:Nat,k≤l.length∧i=.int .i64 k∧wr.rowIs w.heap.size 3 l.length (fun j=>.int .i64 (if j < k then (l.map (fun z=>z.tdiv d)).getD j 0 else 0))∧Below w.heap.size w wr) (fun i _=>l.length-(intOf i).toNat)
 case atStart=>
  refine ⟨0,Nat.zero_le _,rfl,?_,(Below.refl _ _).alloc (Nat.le_refl _) _⟩
  exact (World.rowIs_made w (.int .i64 0) l.length 3).congr fun i hi=>by simp
 case round=>
  obtain ⟨k,hk,rfl,hrow,hbel⟩:=hrel
  have HR:Hid (wr.rowIs w.heap.size 3 l.length (fun j=>.int .i64 (if j < k then (l.map (fun z=>z.tdiv d)).getD j 0 else 0))):=hrow
  have HB:Hid (Below w.heap.size w wr):=hbel
  by_cases hlt:k < l.length
  ·obtain ⟨b,o,cp,hs,hc1,hcc⟩:=sl_cell (HV.out.below hbel (Nat.le_refl _)) hlt
   simp only [Value.slice.injEq] at hs
   obtain ⟨rfl,_,rfl⟩:=hs
   have hfz:=hrow.frozen k
   have hcl:=hrow.cell (i:=k) hlt
   have HF:Hid ((l.map (fun z=>z.tdiv d)).getD k 0=(fun z=>z.tdiv d) (l.getD k 0)):=by show _=_; simp [hlt]
   have hmem:l.getD k 0∈l:=by simp [hlt]
   have HMEM:Hid (l.getD k 0∈l):=hmem
   generalize hxk:l.getD k 0=x at *
   clear hrow hbel hmem hxk
   go_wp2_with fail
   refine (prim1_any x d wr ⟨g,0,none⟩ hd (HBD.out x HMEM.out) ((HB.out.cell hg).trans HC.out)).mono ?_
   rintro e w' ⟨rfl,rfl⟩
   go_wp2
   go_roundw
   case rel=>
    refine ⟨k+1,by omega,by go_num,?_,HB.out.setCell (Nat.le_refl _) _⟩
    refine (HR.out.set k _).congr fun j hj=>?_
    by_cases e1:j=k
    ·subst e1; rw [if_pos rfl,if_pos (by omega),HF.out]
    ·by_cases e2:j < k
     ·rw [if_neg e1,if_pos e2,if_pos (by omega)]
     ·rw [if_neg e1,if_neg e2,if_neg (by omega)]
   case measure=>simp [intOf]; omega
  ·clear hrow hbel
   go_wp2
   go_ret
   refine ⟨_,rfl,?_,HB.out⟩
   refine owns_row HR.out (Nat.le_refl _) (by simp) (by unfold maxLen; omega) fun i hi=>?_
   rw [ints_get _ _ (by simpa using hi),if_pos (by omega)]
set_option maxRecDepth 100000 in
set_option maxHeartbeats 400000 in
theorem primitive_own (B:Nat) (l:List Int) (v:Value) (w:World) (hv:Sl B 3 w v (ints l)) (hl:l.length≤1000000) (hb:∀z∈l,z.natAbs≤4611686018427387904) :
  Calls Tryz.prog 116 #[v] w fun e w'=>∃u,e=.returned u∧w'.ownsRow w.heap.size 3 1 u l.length (ints (Lin.low l))∧Below w.heap.size w w':=by
 obtain ⟨ao,cap,hvv,hlc,hcm⟩:=sl_open hv
 subst hvv
 have HV:Hid (Sl B 3 w (.slice ao l.length cap) (ints l)):=hv
 have HBD:Hid (∀z∈l,z.natAbs≤4611686018427387904):=hb
 clear hv hb
 go_enter Tryz.func116,Tryz.ntmps116
 go_wp2_with fail
 refine (divisor_any B l _ w HV.out HBD.out).mono ?_
 rintro e w1 ⟨rfl,n1,hw1⟩
 have HV1:Hid (Sl B 3 w1 (.slice ao l.length cap) (ints l)):=by rw [hw1]; exact HV.out.drewN n1
 have HB1:Hid (Below w.heap.size w w1):=by rw [hw1]; exact ⟨rfl,rfl,rfl,Nat.le_refl _,fun _ _=>rfl⟩
 have hs1:w.heap.size=w1.heap.size:=by rw [hw1]; rfl
 have HS1:Hid (w.heap.size=w1.heap.size):=hs1
 clear hw1 hs1
 obtain ⟨g,hg⟩:∃g,g=Lin.gc l:=⟨_,rfl⟩
 have HG:Hid (g=Lin.gc l):=hg
 rw [←hg]
 have hgb:g≤4611686018427387904:=by rw [hg]; exact gc_le HBD.out
 clear hg
 have HBA:Hid (Below w.heap.size w (w1.alloc (.cells #[.int .i64 g] 3))):=HB1.out.alloc (by rw [HS1.out]; exact Nat.le_refl _) _
 by_cases h0:g=0
 ·have hgb0:((g:Int) == 0)=true:=by simp [h0]
  have HLZ:Hid (Lin.low l=l):=low_zero (by rw [←HG.out]; exact h0)
  clear h0
  go_wp2_with fail
  refine (clone_any B l _ _ (HV1.out.alloc _) hl).mono ?_
  rintro e w2 ⟨u,rfl,ho,hb2⟩
  have HO:Hid (w2.ownsRow w.heap.size 3 1 u l.length (ints (Lin.low l))):=by rw [HLZ.out]; exact ho.mono HBA.out.size
  have HB2:Hid (Below w.heap.size w w2):=HBA.out.trans (hb2.mono HBA.out.size)
  clear ho hb2
  go_wp2
  go_ret
  exact ⟨_,rfl,HO.out,HB2.out⟩
 ·have hgb0:((g:Int) == 0)=false:=by rw [beq_eq_false_iff_ne]; omega
  have HLP:Hid ((l.map fun z=>z.tdiv (g:Int))=Lin.low l):=by show _=_; rw [HG.out]; exact low_prog (by rw [←HG.out]; omega)
  have hg1:(1:Int)≤(g:Int):=by omega
  clear h0
  go_wp2_with fail
  refine (mappedP_own B l _ _ (HV1.out.alloc _) hl w1.heap.size g (by simp) hg1 HBD.out (by simp)).mono ?_
  rintro e w2 ⟨u,rfl,ho,hb2⟩
  have HO:Hid (w2.ownsRow w.heap.size 3 1 u l.length (ints (Lin.low l))):=by rw [←HLP.out]; exact ho.mono HBA.out.size
  have HB2:Hid (Below w.heap.size w w2):=HBA.out.trans (hb2.mono HBA.out.size)
  clear ho hb2
  go_wp2
  go_ret
  exact ⟨_,rfl,HO.out,HB2.out⟩
end Go.Proofs.YtdanomklbiidaaaGreatDoor

namespace Go.Proofs.YtdanomklbiidaaaGreatDoor
open Go.RowKit Lin
attribute [local go_sem ↓] Go.wp_at_zero Go.wp_at_succ
theorem low_len (l:List Int):(low l).length=l.length:=by simp [low]
theorem upr_len (l:List Int):(upr l).length=l.length:=by unfold upr; split <;> simp
def Rwo (B:Nat) (w:World) (v:Value) (m:List (List Int)):Prop:=
 ∃vs,vs.length=m.length∧w.ownsRow B 22 1 v m.length vs∧∀i,i < m.length→w.ownsRow B 3 1 (vs.getD i (.slice none 0 0)) (m.getD i []).length (ints (m.getD i []))
theorem Rwo.nil (B:Nat) (w:World):Rwo B w (.slice none 0 0) []:=⟨[],rfl,World.ownsRow_nil _ _ _ _,fun i hi=>absurd hi (by simp)⟩
theorem Rwo.below {B N:Nat} {w w':World} {v:Value} {m:List (List Int)} (h:Rwo B w v m) (hb:Below N w w') (hN:w.heap.size≤N):Rwo B w' v m:=by
 obtain ⟨vs,h1,h2,h3⟩:=h
 exact ⟨vs,h1,owns_below h2 hb hN,fun i hi=>owns_below (h3 i hi) hb hN⟩
theorem Rwo.low {B B':Nat} {w:World} {v:Value} {m:List (List Int)} (h:Rwo B w v m) (hB:B'≤B):Rwo B' w v m:=by
 obtain ⟨vs,h1,h2,h3⟩:=h
 exact ⟨vs,h1,owns_lowK h2 hB,fun i hi=>owns_lowK (h3 i hi) hB⟩
theorem own_grownK {B n n2:Nat} {w w':World} {v u:Value} {xs ys:List Value} (h:w.ownsRow B 22 1 v n xs) (hu:w.ownsRow B 3 1 u n2 ys) (hg:w.grownBy w' v.ownBlock):w'.ownsRow B 3 1 u n2 ys:=by
 refine ⟨hu.1,?_⟩
 rcases hu.2 with q | ⟨b,cap,cur,rfl,r1,r2,r3⟩
 ·exact Or.inl q
 ·refine Or.inr ⟨b,cap,cur,rfl,r1,?_,r3⟩
  rw [hg.block b (lt_of_block r2) (fun e=>?_)]
  ·exact r2
  ·rcases h.2 with ⟨f1,_⟩ | ⟨b',cap',cur',f1,s1,s2,_⟩
   ·rw [f1] at e; simp [Value.ownBlock] at e
   ·rw [f1] at e
    simp [Value.ownBlock] at e
    subst e
    rw [r2] at s2; simp at s2
theorem Rwo.push {B:Nat} {w w':World} {v v' u:Value} {m:List (List Int)} {vs:List Value} {zs:List Int} (h1:vs.length=m.length) (h2:w.ownsRow B 22 1 v m.length vs)
  (h3:∀i,i < m.length→w.ownsRow B 3 1 (vs.getD i (.slice none 0 0)) (m.getD i []).length (ints (m.getD i []))) (hu:w.ownsRow B 3 1 u zs.length (ints zs))
  (ho:w'.ownsRow B 22 1 v' (m.length+1) (vs ++ [u])) (hg:w.grownBy w' v.ownBlock):Rwo B w' v' (m ++ [zs]):=by
 refine ⟨vs ++ [u],by simp [h1],by simpa using ho,fun i hi=>?_⟩
 by_cases hlt:i < m.length
 ·have e1':(vs ++ [u]).getD i (.slice none 0 0)=vs.getD i (.slice none 0 0):=by
   simp only [List.getD_eq_getElem?_getD]; rw [List.getElem?_append_left (by omega)]
  have e2':(m ++ [zs]).getD i []=m.getD i []:=by
   simp only [List.getD_eq_getElem?_getD]; rw [List.getElem?_append_left (by omega)]
  rw [e1',e2']
  exact own_grownK h2 (h3 i hlt) hg
 ·have hi':i=m.length:=by simp at hi; omega
  subst hi'
  have e1':(vs ++ [u]).getD m.length (.slice none 0 0)=u:=by
   rw [←h1]; simp
  have e2':(m ++ [zs]).getD m.length []=zs:=by simp
  rw [e1',e2']
  exact own_grownK h2 hu hg
end Go.Proofs.YtdanomklbiidaaaGreatDoor

namespace Go.Proofs.YtdanomklbiidaaaGreatDoor
open Go.RowKit Go.Shelf
structure Chg (S:Nat→Prop) (W W':World):Prop where
 os:W'.os=W.os
 tape:W'.tape=W.tape
 output:W'.output=W.output
 size:W.heap.size≤W'.heap.size
 block:∀b,b < W.heap.size→¬S b→W'.heap[b]?=W.heap[b]?
theorem Chg.refl (S:Nat→Prop) (W:World):Chg S W W:=⟨rfl,rfl,rfl,Nat.le_refl _,fun _ _ _=>rfl⟩
theorem Chg.trans {S:Nat→Prop} {a b c:World} (h:Chg S a b) (k:Chg S b c):Chg S a c:=
 ⟨k.os.trans h.os,k.tape.trans h.tape,k.output.trans h.output,Nat.le_trans h.size k.size,fun i hi hs=>(k.block i (Nat.lt_of_lt_of_le hi h.size) hs).trans (h.block i hi hs)⟩
theorem Chg.mono {S S':Nat→Prop} {a b:World} (h:Chg S a b) (hs:∀i,i < a.heap.size→S i→S' i):Chg S' a b:=
 ⟨h.os,h.tape,h.output,h.size,fun i hi hn=>h.block i hi (fun k=>hn (hs i hi k))⟩
theorem Chg.of_below {S:Nat→Prop} {a b:World} {N:Nat} (h:Below N a b) (hN:a.heap.size≤N):Chg S a b:=
 ⟨h.os,h.tape,h.output,h.size,fun i hi _=>h.block i (by omega)⟩
theorem Chg.setCell {S:Nat→Prop} {a b:World} (h:Chg S a b) {p:Addr} (hp:S p.block) (u:Value):Chg S a (b.setCell p u):=
 ⟨h.os,h.tape,h.output,by simp [World.setCell,h.size],fun i hi hn=>(Below.heap_setCell b p u i (fun e=>hn (by rw [e]; exact hp))).trans (h.block i hi hn)⟩
theorem Chg.putObj {S:Nat→Prop} {a b:World} (h:Chg S a b) {l:Nat} (hp:S l) (o:Obj):Chg S a (b.putObj l o):=
 ⟨h.os,h.tape,h.output,by simp [h.size],fun i hi hn=>(World.putObj_heap_other (k:=i) (r:=l) (fun e=>hn (by rw [e]; exact hp))).trans (h.block i hi hn)⟩
structure Kpt (S:Nat→Prop) (W W':World):Prop where
 size:W.heap.size≤W'.heap.size
 block:∀b,b < W.heap.size→S b→W'.heap[b]?=W.heap[b]?
theorem Kpt.refl (S:Nat→Prop) (W:World):Kpt S W W:=⟨Nat.le_refl _,fun _ _ _=>rfl⟩
theorem Kpt.trans {S:Nat→Prop} {a b c:World} (h:Kpt S a b) (k:Kpt S b c):Kpt S a c:=
 ⟨Nat.le_trans h.size k.size,fun i hi hs=>(k.block i (Nat.lt_of_lt_of_le hi h.size) hs).trans (h.block i hi hs)⟩
theorem Kpt.mono {S S':Nat→Prop} {a b:World} (h:Kpt S a b) (hs:∀i,i < a.heap.size→S' i→S i):Kpt S' a b:=
 ⟨h.size,fun i hi hn=>h.block i hi (hs i hi hn)⟩
theorem Kpt.of_chg {S S':Nat→Prop} {a b:World} (h:Chg S a b) (hs:∀i,i < a.heap.size→S' i→¬S i):Kpt S' a b:=
 ⟨h.size,fun i hi hn=>h.block i hi (hs i hi hn)⟩
theorem Kpt.of_below {S:Nat→Prop} {a b:World} {N:Nat} (h:Below N a b) (hN:a.heap.size≤N):Kpt S a b:=
 ⟨h.size,fun i hi _=>h.block i (by omega)⟩
def Stab {α:Type} (J:(Nat→Prop)→List α→World→Prop):Prop:=
 ∀S S' pre W W',J S pre W→Chg S W W'→(∀b,S' b→S b∨W.heap.size≤b)→J S' pre W'
def SeqS {α:Type} (P:Program) (g:Nat) (lb:Array Value) (R:World→(Nat→Prop)→α→Array Value→Prop) (cs:List α) (T S0:Nat→Prop) (w0:World):Prop:=
 ∀(l:Nat) (J Jx:(Nat→Prop)→List α→World→Prop) (W:World),Below w0.heap.size w0 W→Stab J→Stab Jx→
  (∀m S pre x vs W1,J S pre W1→(pre ++ [x]) <+: cs→R W1 S x vs→YieldAt Fence.wide m P l vs W1 fun e W'=>Kpt (fun b=>S b∨T b) W1 W'∧
   ((e=.returned (.bool true)∧J S (pre ++ [x]) W')∨(e=.returned (.bool false)∧Jx S (pre ++ [x]) W')))→
  J S0 [] W→
  CallsIn Fence.wide 0 P g (#[.func (.yield l) #[] #[]] ++ lb) W fun e W'=>(∃v,e=.returned v)∧((∃S,J S cs W')∨(∃S pre,pre <+: cs∧Jx S pre W'))
theorem room_wide' (k:Nat):Fence.wide.room k:=fun d h=>by cases h
theorem roundIn_any {m m':Nat} {P:Program} {l:Nat} {f:FuncId} {tmps:Array Value} {assign body:Code} {w:World} {R:Ending→World→Prop}
  (h:RoundIn Fence.wide m P l f tmps assign body w R):RoundIn Fence.wide m' P l f tmps assign body w R:=⟨h.1,fun c cs _=>h.2 c cs (room_wide' _)⟩
theorem callsIn_any {m m':Nat} {P:Program} {f:FuncId} {args:Array Value} {w:World} {R:Ending→World→Prop}
  (h:CallsIn Fence.wide m P f args w R):CallsIn Fence.wide m' P f args w R:=callsIn_wide.2 (callsIn_wide.1 h)
def postS {α:Type} (K:World→World→Prop) (I:List α→World→Prop) (Ix:Code→List α→World→Prop) (xs:List α) (W:World):Exit→Act→World→Prop
 | .normal,_,W'=>K W W'∧I xs W'
 | .ret,_,W'=>K W W'∧Ix .ret xs W'
 | .exit id,_,W'=>K W W'∧Ix (.exit id) xs W'
 | .goto t,_,W'=>K W W'∧Ix (.goto t) xs W'
 | .panic _,_,_=>False
 | .outgrown,_,_=>False
set_option maxHeartbeats 1000000 in
theorem range_s {α:Type} {P:Program} {n:Nat} {g:Operand} {ps:Array Tmp} {assign body:Code} {Q:Exit→Act→World→Prop} {a:Act} {w:World}
  {gf:Nat} {lb:Array Value} (hg:a.eval g=.func (.func gf) #[] lb) (eg:∀args w,(callFunc gf args).run P w=.ok (.enter gf args) w)
  {R:World→(Nat→Prop)→α→Array Value→Prop} {cs:List α} {T S0:Nat→Prop} (hseq:SeqS P gf lb R cs T S0 w) (hS0:∀b,S0 b→b < w.heap.size)
  (hps:∀W S x vs,R W S x vs→vs.size=ps.size)
  (hR1:∀W S x vs W',R W S x vs→Below W.heap.size W W'→R W' S x vs)
  (hR2:∀W S x vs l r o,R W S x vs→W.heap[l]?=some (.loop r)→R (W.putObj l o) S x vs)
  (I:(Nat→Prop)→List α→World→Prop) (Ix:Code→(Nat→Prop)→List α→World→Prop) (hI:Stab I) (hIx:∀c,Stab (Ix c)) (h0:I S0 [] w)
  (Ax:Array Value→Act→World→Prop) (hAx:∀vs a' W l r o,Ax vs a' W→W.heap[l]?=some (.loop r)→Ax vs a' (W.putObj l o))
  (hassign:∀(S:Nat→Prop) (x:α) (vs:Array Value) (W:World) (K:Act→World→Prop),R W S x vs→(∀a' W',Below W.heap.size W W'→Ax vs a' W'→K a' W')→
   assign.wpIn (Fence.wide.inRound (w.heap.size+1)) (n-1-1) P (Exit.then K (fun _ _ _=>False)) { tmps:=(ps.zip vs).foldl (fun t (p,v)=>t.setIfInBounds p v) a.tmps,defers:=[] } W)
  (hbody:∀(S:Nat→Prop) (pre:List α) (x:α) (vs:Array Value) (a':Act) (W:World),I S pre W→S w.heap.size→S (w.heap.size+1)→w.heap.size+1 < W.heap.size→W.heap[w.heap.size]?=some (.deferred (some []))→(∃r,W.heap[w.heap.size+1]?=some (.loop r))→(pre ++ [x]) <+: cs→(∃S1,R W S1 x vs∧∀b,S b↔(S1 b∨b=w.heap.size∨b=w.heap.size+1))→Ax vs a' W→
   body.wpIn (Fence.wide.inRound (w.heap.size+1)) (n-1-1) P (postS (Kpt fun b=>S b∨T b) (I S) (fun c=>Ix c S) (pre ++ [x]) W) a' W)
  (hTl:¬T (w.heap.size+1))
  (hdone:∀(S:Nat→Prop) (W:World),I S cs W→S w.heap.size→W.heap[w.heap.size]?=some (.deferred (some []))→Q .normal { a with defers:={ target:=.collected w.heap.size,args:=#[] } :: a.defers } W)
  (hstop:∀(c:Code) (S:Nat→Prop) (pre:List α) (W:World),pre <+: cs→Ix c S pre W→S w.heap.size→W.heap[w.heap.size]?=some (.deferred (some []))→c.wpIn Fence.wide n P Q { a with defers:={ target:=.collected w.heap.size,args:=#[] } :: a.defers } W) :
  (Code.rangeFunc g ps assign body).wpIn Fence.wide n P Q a w:=by
 refine wpIn_rangeFunc ?_
 intro fn hfn
 obtain ⟨D,hD⟩:∃D,D=w.heap.size:=⟨_,rfl⟩
 obtain ⟨rec,hrec⟩:∃rec:LoopState→Option Code→Loop,rec=fun st pe=>{ state:=st,pending:=pe,fn,tmps:=a.tmps,params:=ps,assign,body,defers:=D }:=⟨_,rfl⟩
 obtain ⟨W1,hW1⟩:∃W1,(w.alloc (.deferred (some []))).alloc (.loop (rec .ready none))=W1:=⟨_,rfl⟩
 have hL1:W1.heap[D+1]?=some (.loop (rec .ready none)):=by
  rw [←hW1,hD]; have:=World.alloc_heap_new (w.alloc (.deferred (some []))) (.loop (rec .ready none)); rwa [World.size_alloc] at this
 have hK1:W1.heap[D]?=some (.deferred (some [])):=by
  rw [←hW1,hD]; exact (Below.heap_alloc _ _ _ (by simp)).trans (World.alloc_heap_new w _)
 have hb1:Below w.heap.size w W1:=by
  rw [←hW1]; exact ((Below.refl _ w).alloc (Nat.le_refl _) _).alloc (by simp) _
 have hI1:I (fun b=>S0 b∨b=D∨b=D+1) [] W1:=hI S0 _ [] w W1 h0 (Chg.of_below hb1 (Nat.le_refl _)) (fun b hb=>by
  rcases hb with hb | hb | hb
  ·exact .inl hb
  ·exact .inr (by omega)
  ·exact .inr (by omega))
 have hnS:¬S0 D∧¬S0 (D+1):=⟨fun h=>by have:=hS0 _ h; omega,fun h=>by have:=hS0 _ h; omega⟩
 refine ⟨D+1,[{ target:=.collected D,args:=#[] }],W1,{ target:=.fn (.func gf) lb,args:=#[.func (.yield (D+1)) #[] #[]] },W1,gf,
  #[.func (.yield (D+1)) #[] #[]] ++ lb,W1,?_,?_,?_,?_,fun h=>(by cases h),?_⟩
 ·rw [←hW1,hrec,hD]; exact run_enterLoop_outer _ _ _ _ _
 ·simp only [resolve,hg]
  simp [go_sem]
 ·intro f' hf'; trivial
 ·simp [invoke,go_sem,eg]
 ·have stx:∀(X:(Nat→Prop)→List α→World→Prop),Stab X→∀(p:Obj→Prop),Stab (fun S pre (W:World)=>X (fun b=>S b∨b=D∨b=D+1) pre W∧¬S D∧¬S (D+1)∧(∃o,W.heap[D+1]?=some o∧p o)∧W.heap[D]?=some (Obj.deferred (some []))):=by
   rintro X hX p S S' pre W W' ⟨hi,hsd,hsl,⟨o,hl,ho⟩,hk⟩ hc hs
   have hlt:=(Array.getElem?_eq_some_iff.1 hl).1
   refine ⟨hX _ _ pre W W' hi (hc.mono (fun i _ h=>.inl h)) (fun b hb=>?_),fun h=>?_,fun h=>?_,⟨o,(hc.block _ hlt hsl).trans hl,ho⟩,(hc.block _ (by omega) hsd).trans hk⟩
   ·rcases hb with hb | hb
    ·rcases hs b hb with h | h
     ·exact .inl (.inl h)
     ·exact .inr h
    ·exact .inl (.inr hb)
   ·rcases hs _ h with h | h
    ·exact hsd h
    ·omega
   ·rcases hs _ h with h | h
    ·exact hsl h
    ·omega
  refine (callsIn_any (m':=n-1) (hseq (D+1)
   (fun S pre (W:World)=>I (fun b=>S b∨b=D∨b=D+1) pre W∧¬S D∧¬S (D+1)∧(∃o,W.heap[D+1]?=some o∧o=Obj.loop (rec .ready none))∧W.heap[D]?=some (Obj.deferred (some [])))
   (fun S pre (W:World)=>∃c,Ix c (fun b=>S b∨b=D∨b=D+1) pre W∧¬S D∧¬S (D+1)∧(∃o,W.heap[D+1]?=some o∧o=Obj.loop (rec .done (some c)))∧W.heap[D]?=some (Obj.deferred (some [])))
   W1 hb1 (stx I hI _) (fun S S' pre W W' ⟨c,h⟩ hc hs=>⟨c,stx (Ix c) (hIx c) _ S S' pre W W' h hc hs⟩) ?_ ⟨hI1,hnS.1,hnS.2,⟨_,hL1,rfl⟩,hK1⟩)).mono ?_
  ·-- one round
   rintro m S pre x vs W ⟨hi,hsd,hsl,⟨_,hl,rfl⟩,hk⟩ hpre hR
   have hlt:D+1 < W.heap.size:=(Array.getElem?_eq_some_iff.1 hl).1
   have hy:=run_yield (P:=P) (args:=vs) hl (by rw [hrec]; exact hps _ _ _ _ hR)
   rw [hrec] at hy
   refine ⟨fn,_,assign,body,hy,roundIn_any (m:=n-1-1) (roundIn_of_wpIn hfn ?_)⟩
   have has:=hassign S x vs W (fun a₁' w₁=>∃w₂,(Instr.beginRound (w.heap.size+1)).run P w₁=.ok () w₂∧body.wpIn (Fence.wide.inRound (w.heap.size+1)) (n-1-1) P (roundPost P (w.heap.size+1) fun e W'=>Kpt (fun b=>S b∨T b) W W'∧
    ((e=.returned (.bool true)∧(I (fun b=>S b∨b=D∨b=D+1) (pre ++ [x]) W'∧¬S D∧¬S (D+1)∧(∃o,W'.heap[D+1]?=some o∧o=Obj.loop (rec .ready none))∧W'.heap[D]?=some (.deferred (some []))))∨
    (e=.returned (.bool false)∧∃c,Ix c (fun b=>S b∨b=D∨b=D+1) (pre ++ [x]) W'∧¬S D∧¬S (D+1)∧(∃o,W'.heap[D+1]?=some o∧o=Obj.loop (rec .done (some c)))∧W'.heap[D]?=some (.deferred (some []))))) a₁' w₂) hR
   rw [←hD] at has
   refine has ?_
   clear has hy
   intro a' Wq hbq hax
   have hiq:=hI _ (fun b=>S b∨b=D∨b=D+1) pre W Wq hi (Chg.of_below hbq (Nat.le_refl _)) (fun b hb=>.inl hb)
   have hlq:=(hbq.block _ hlt).trans hl
   have hkq:=(hbq.block D (by omega)).trans hk
   have hRq:=hR1 _ _ _ _ _ hR hbq
   have hltq:D+1 < Wq.heap.size:=Nat.lt_of_lt_of_le hlt hbq.size
   refine ⟨_,run_beginRound hlq (by rw [hrec]),?_⟩
   obtain ⟨Wb,hWb⟩:∃Wb,Wq.putObj (D+1) (.loop { rec .ready none with state:=.busy })=Wb:=⟨_,rfl⟩
   rw [hWb]
   have hl2:Wb.heap[D+1]?=some (.loop { rec .ready none with state:=.busy }):=by rw [←hWb]; exact World.putObj_heap_same hltq
   have hk2:Wb.heap[D]?=some (.deferred (some [])):=by rw [←hWb]; exact (World.putObj_heap_other (by omega)).trans hkq
   have hc2:Chg (fun b=>S b∨b=D∨b=D+1) Wq Wb:=by rw [←hWb]; exact (Chg.refl _ _).putObj (.inr (.inr rfl)) _
   have hq2:Kpt (fun b=>S b∨T b) W Wb:=by
    refine (Kpt.of_below hbq (Nat.le_refl _)).trans ?_
    rw [←hWb]
    exact ⟨by simp,fun b hb hs=>World.putObj_heap_other (fun e=>by subst e; rcases hs with h | h; exact hsl h; exact hTl (hD ▸ h))⟩
   have hi2:=hI _ (fun b=>S b∨b=D∨b=D+1) pre Wq Wb hiq hc2 (fun b hb=>.inl hb)
   have hbd:=hbody (fun b=>S b∨b=D∨b=D+1) pre x vs a' Wb hi2 (.inr (.inl hD.symm)) (.inr (.inr (by rw [hD]))) (by have:=hc2.size; omega) (hD ▸ hk2) (hD ▸ ⟨_,hl2⟩) hpre ⟨S,by rw [←hWb]; exact hR2 _ _ _ _ _ _ _ hRq hlq,fun b=>by rw [hD]⟩ (by rw [←hWb]; exact hAx _ _ _ _ _ _ hax hlq)
   rw [←hD] at hbd
   refine wpIn_mono hbd ?_
   have fin:∀(jump:Option Code) (W3:World),Kpt (fun b=>(S b∨b=D∨b=D+1)∨T b) Wb W3→
     (Instr.endRound (D+1) jump).run P W3=.ok (.bool jump.isNone) (W3.putObj (D+1) (.loop (rec (if jump.isNone then .ready else .done) jump)))∧
     (W3.putObj (D+1) (.loop (rec (if jump.isNone then .ready else .done) jump))).heap[D+1]?=some (.loop (rec (if jump.isNone then .ready else .done) jump))∧
     (W3.putObj (D+1) (.loop (rec (if jump.isNone then .ready else .done) jump))).heap[D]?=some (.deferred (some []))∧
     Kpt (fun b=>S b∨T b) W (W3.putObj (D+1) (.loop (rec (if jump.isNone then .ready else .done) jump))):=fun jump W3 hk3=>by
    have hlb:D+1 < Wb.heap.size:=by have:=hc2.size; omega
    have hl3:=(hk3.block (D+1) hlb (.inl (.inr (.inr rfl)))).trans hl2
    have:=run_endRound (P:=P) jump hl3
    have h4:Kpt (fun b=>S b∨T b) Wb W3:=hk3.mono (fun i _ h=>h.elim (fun h=>.inl (.inl h)) .inr)
    have h5:Kpt (fun b=>S b∨T b) W3 (W3.putObj (D+1) (.loop (rec (if jump.isNone then .ready else .done) jump))):=
     ⟨by simp,fun b hb hs=>World.putObj_heap_other (fun e=>by subst e; rcases hs with h | h; exact hsl h; exact hTl (hD ▸ h))⟩
    refine ⟨?_,World.putObj_heap_same (Array.getElem?_eq_some_iff.1 hl3).1,(World.putObj_heap_other (by omega)).trans ((hk3.block D (by omega) (.inl (.inr (.inl rfl)))).trans hk2),(hq2.trans h4).trans h5⟩
    rw [hrec] at this ⊢
    exact this
   have pc:∀(W3:World) (o:Obj),Chg (fun b=>S b∨b=D∨b=D+1) W3 (W3.putObj (D+1) o):=fun W3 o=>(Chg.refl _ _).putObj (.inr (.inr rfl)) _
   rintro e a3 W3 hp
   cases e with
   | normal=>
    obtain ⟨hk3,hi3⟩:=hp
    obtain ⟨hr,hl4,hk4,hkk⟩:=fin none W3 hk3
    exact ⟨_,_,hr,hkk,.inl ⟨rfl,hI _ _ _ _ _ hi3 (pc W3 _) (fun b hb=>.inl hb),hsd,hsl,⟨_,hl4,rfl⟩,hk4⟩⟩
   | ret=>
    obtain ⟨hk3,hi3⟩:=hp
    obtain ⟨hr,hl4,hk4,hkk⟩:=fin (some .ret) W3 hk3
    exact ⟨_,_,hr,hkk,.inr ⟨rfl,.ret,hIx _ _ _ _ _ _ hi3 (pc W3 _) (fun b hb=>.inl hb),hsd,hsl,⟨_,hl4,rfl⟩,hk4⟩⟩
   | exit id=>
    obtain ⟨hk3,hi3⟩:=hp
    obtain ⟨hr,hl4,hk4,hkk⟩:=fin (some (.exit id)) W3 hk3
    exact ⟨_,_,hr,hkk,.inr ⟨rfl,.exit id,hIx _ _ _ _ _ _ hi3 (pc W3 _) (fun b hb=>.inl hb),hsd,hsl,⟨_,hl4,rfl⟩,hk4⟩⟩
   | goto t=>
    obtain ⟨hk3,hi3⟩:=hp
    obtain ⟨hr,hl4,hk4,hkk⟩:=fin (some (.goto t)) W3 hk3
    exact ⟨_,_,hr,hkk,.inr ⟨rfl,.goto t,hIx _ _ _ _ _ _ hi3 (pc W3 _) (fun b hb=>.inl hb),hsd,hsl,⟨_,hl4,rfl⟩,hk4⟩⟩
   | panic ch=>exact hp.elim
   | outgrown=>exact hp.elim
  ·-- behind the iterator
   rintro e W2 ⟨⟨v,rfl⟩,(⟨S,hi,hsd,hsl,⟨_,hl,rfl⟩,hk⟩ | ⟨S,pre,hpre,c,hi,hsd,hsl,⟨_,hl,rfl⟩,hk⟩)⟩
   ·refine ⟨none,_,by have:=run_endLoop (P:=P) hl (by rw [hrec]; simp); rw [hrec] at this; exact this,?_⟩
    have:=hdone _ (W2.putObj (D+1) (.loop { rec .ready none with state:=.exhausted })) (hI _ (fun b=>S b∨b=D∨b=D+1) _ _ _ hi ((Chg.refl _ _).putObj (.inr (.inr rfl)) _) (fun b hb=>.inl hb)) (.inr (.inl hD.symm)) (by rw [←hD]; exact (World.putObj_heap_other (by omega)).trans hk)
    rw [hrec,←hD] at this
    exact this
   ·refine ⟨some c,_,by have:=run_endLoop (P:=P) hl (by rw [hrec]; simp); rw [hrec] at this; exact this,?_⟩
    have:=hstop c _ pre (W2.putObj (D+1) (.loop { rec .done (some c) with state:=.exhausted })) hpre (hIx c _ (fun b=>S b∨b=D∨b=D+1) _ _ _ hi ((Chg.refl _ _).putObj (.inr (.inr rfl)) _) (fun b hb=>.inl hb)) (.inr (.inl hD.symm)) (by rw [←hD]; exact (World.putObj_heap_other (by omega)).trans hk)
    rw [hrec,←hD] at this
    exact this
def mks (rs:List Nat):List Deferred:=rs.map fun r=>{ target:=.collected r,args:=#[] }
theorem leaves_mks {P:Program} {n:Nat} {fn:Func} {tmps:Array Value} {R:Ending→World→Prop} : ∀(rs:List Nat) (w:World),rs.Nodup→(∀r∈rs,w.heap[r]?=some (.deferred (some [])))→
  (∀w',Chg (fun b=>b∈rs) w w'→∃v,(results fn tmps).run P w'=.ok v w'∧R (.returned v) w')→LeavesInM Fence.wide n P fn tmps R (mks rs) .returning w
 | [],w,_,_,h=>h w (Chg.refl _ _)
 | r :: rs,w,hn,hm,h=>by
  have hr:=hm r (by simp)
  rw [List.nodup_cons] at hn
  refine ⟨by simp,.inl ⟨r,_,rfl,run_takeDeferred hr,leaves_mks rs _ hn.2 (fun q hq=>?_) (fun w' hc=>h w' ?_)⟩⟩
  ·have hne:q≠r:=fun e=>hn.1 (by rw [←e]; exact hq)
   exact (World.putObj_heap_other (k:=q) (r:=r) hne).trans (hm q (by simp [hq]))
  ·exact ((Chg.refl _ w).putObj (List.mem_cons_self ..) _).trans (hc.mono (fun i _ hi=>List.mem_cons_of_mem _ hi))
end Go.Proofs.YtdanomklbiidaaaGreatDoor
