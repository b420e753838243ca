import Derived.RangeFuncNested
import Derived.RangeFuncBound
import Derived.RangeFuncCalls
import Derived.RangeFuncLeaves
import Derived.Shelf.Abstract
import Derived.WalkKit
import Derived.OwnWalkIn
import Derived.TacticsInMore
import Derived.LoopNIn
import Derived.LoopIn
import Derived.Test.YtkfdpcgmpbopnaaGreatDoorWiA
import Derived.Deep.OwnRows
import Derived.Stop.RegionWithIn
import Derived.Laws.EntriesVeiled
namespace Go.Proofs.YtkfdpcgmpbopnaaGreatDoor
open Go.RowKit Go.Shelf
structure Chg (S:Nat→Prop) (W W':World):Prop where
 os:W'.os=W.os
 tape:W'.tape=W.tape
 output:W'.output=W.output
 size:W.heap.size≤W'.heap.size
 block:∀b,b < W.heap.size→¬S b→W'.heap[b]?=W.heap[b]?
theorem Chg.refl (S:Nat→Prop) (W:World):Chg S W W:=⟨rfl,rfl,rfl,Nat.le_refl _,fun _ _ _=>rfl⟩
theorem Chg.trans {S:Nat→Prop} {a b c:World} (h:Chg S a b) (k:Chg S b c):Chg S a c:=
 ⟨k.os.trans h.os,k.tape.trans h.tape,k.output.trans h.output,Nat.le_trans h.size k.size,fun i hi hs=>(k.block i (Nat.lt_of_lt_of_le hi h.size) hs).trans (h.block i hi hs)⟩
theorem Chg.mono {S S':Nat→Prop} {a b:World} (h:Chg S a b) (hs:∀i,i < a.heap.size→S i→S' i):Chg S' a b:=
 ⟨h.os,h.tape,h.output,h.size,fun i hi hn=>h.block i hi (fun k=>hn (hs i hi k))⟩
theorem Chg.of_below {S:Nat→Prop} {a b:World} {N:Nat} (h:Below N a b) (hN:a.heap.size≤N):Chg S a b:=
 ⟨h.os,h.tape,h.output,h.size,fun i hi _=>h.block i (by omega)⟩
theorem Chg.setCell {S:Nat→Prop} {a b:World} (h:Chg S a b) {p:Addr} (hp:S p.block) (u:Value):Chg S a (b.setCell p u):=
 ⟨h.os,h.tape,h.output,by simp [World.setCell,h.size],fun i hi hn=>(Below.heap_setCell b p u i (fun e=>hn (by rw [e]; exact hp))).trans (h.block i hi hn)⟩
theorem Chg.putObj {S:Nat→Prop} {a b:World} (h:Chg S a b) {l:Nat} (hp:S l) (o:Obj):Chg S a (b.putObj l o):=
 ⟨h.os,h.tape,h.output,by simp [h.size],fun i hi hn=>(World.putObj_heap_other (k:=i) (r:=l) (fun e=>hn (by rw [e]; exact hp))).trans (h.block i hi hn)⟩
theorem Chg.alloc {S:Nat→Prop} {a b:World} (h:Chg S a b) (o:Obj):Chg S a (b.alloc o):=
 ⟨h.os,h.tape,h.output,by simp; have:=h.size; omega,fun i hi hn=>(Below.heap_alloc _ _ _ (Nat.lt_of_lt_of_le hi h.size)).trans (h.block i hi hn)⟩
theorem Chg.drew {S:Nat→Prop} {a b:World} (h:Chg S a b):Chg S a b.drew:=⟨h.os,h.tape,h.output,h.size,h.block⟩
structure Kpt (S:Nat→Prop) (W W':World):Prop where
 size:W.heap.size≤W'.heap.size
 block:∀b,b < W.heap.size→S b→W'.heap[b]?=W.heap[b]?
theorem Kpt.refl (S:Nat→Prop) (W:World):Kpt S W W:=⟨Nat.le_refl _,fun _ _ _=>rfl⟩
theorem Kpt.trans {S:Nat→Prop} {a b c:World} (h:Kpt S a b) (k:Kpt S b c):Kpt S a c:=
 ⟨Nat.le_trans h.size k.size,fun i hi hs=>(k.block i (Nat.lt_of_lt_of_le hi h.size) hs).trans (h.block i hi hs)⟩
theorem Kpt.mono {S S':Nat→Prop} {a b:World} (h:Kpt S a b) (hs:∀i,i < a.heap.size→S' i→S i):Kpt S' a b:=
 ⟨h.size,fun i hi hn=>h.block i hi (hs i hi hn)⟩
theorem Kpt.of_chg {S S':Nat→Prop} {a b:World} (h:Chg S a b) (hs:∀i,i < a.heap.size→S' i→¬S i):Kpt S' a b:=
 ⟨h.size,fun i hi hn=>h.block i hi (hs i hi hn)⟩
theorem Kpt.of_below {S:Nat→Prop} {a b:World} {N:Nat} (h:Below N a b) (hN:a.heap.size≤N):Kpt S a b:=
 ⟨h.size,fun i hi _=>h.block i (by omega)⟩
def Stab {α:Type} (J:(Nat→Prop)→List α→World→Prop):Prop:=
 ∀S S' pre W W',J S pre W→Chg S W W'→(∀b,S' b→S b∨W.heap.size≤b)→J S' pre W'
def SeqS {α:Type} (P:Program) (g:Nat) (lb:Array Value) (R:World→(Nat→Prop)→α→Array Value→Prop) (cs:List α) (T S0:Nat→Prop) (w0:World):Prop:=
 ∀(l:Nat) (J Jx:(Nat→Prop)→List α→World→Prop) (W:World),Below w0.heap.size w0 W→Stab J→Stab Jx→
  (∀m S pre x vs W1,J S pre W1→(pre ++ [x]) <+: cs→R W1 S x vs→YieldAt Fence.wide m P l vs W1 fun e W'=>Kpt (fun b=>S b∨T b) W1 W'∧
   ((e=.returned (.bool true)∧J S (pre ++ [x]) W')∨(e=.returned (.bool false)∧Jx S (pre ++ [x]) W')))→
  J S0 [] W→
  CallsIn Fence.wide 0 P g (#[.func (.yield l) #[] #[]] ++ lb) W fun e W'=>(∃v,e=.returned v)∧((∃S,J S cs W')∨(∃S pre,pre <+: cs∧Jx S pre W'))
theorem room_wide' (k:Nat):Fence.wide.room k:=fun d h=>by cases h
theorem roundIn_any {m m':Nat} {P:Program} {l:Nat} {f:FuncId} {tmps:Array Value} {assign body:Code} {w:World} {R:Ending→World→Prop}
  (h:RoundIn Fence.wide m P l f tmps assign body w R):RoundIn Fence.wide m' P l f tmps assign body w R:=⟨h.1,fun c cs _=>h.2 c cs (room_wide' _)⟩
theorem callsIn_any {m m':Nat} {P:Program} {f:FuncId} {args:Array Value} {w:World} {R:Ending→World→Prop}
  (h:CallsIn Fence.wide m P f args w R):CallsIn Fence.wide m' P f args w R:=callsIn_wide.2 (callsIn_wide.1 h)
def postS {α:Type} (K:World→World→Prop) (I:List α→World→Prop) (Ix:Code→List α→World→Prop) (xs:List α) (W:World):Exit→Act→World→Prop
 | .normal,_,W'=>K W W'∧I xs W'
 | .ret,_,W'=>K W W'∧Ix .ret xs W'
 | .exit id,_,W'=>K W W'∧Ix (.exit id) xs W'
 | .goto t,_,W'=>K W W'∧Ix (.goto t) xs W'
 | .panic _,_,_=>False
 | .outgrown,_,_=>False
set_option maxHeartbeats 1000000 in
theorem range_s {α:Type} {P:Program} {n:Nat} {g:Operand} {ps:Array Tmp} {assign body:Code} {Q:Exit→Act→World→Prop} {a:Act} {w:World}
  {gf:Nat} {lb:Array Value} (hg:a.eval g=.func (.func gf) #[] lb) (eg:∀args w,(callFunc gf args).run P w=.ok (.enter gf args) w)
  {R:World→(Nat→Prop)→α→Array Value→Prop} {cs:List α} {T S0:Nat→Prop} (hseq:SeqS P gf lb R cs T S0 w) (hS0:∀b,S0 b→b < w.heap.size)
  (hps:∀W S x vs,R W S x vs→vs.size=ps.size)
  (hR1:∀W S x vs W',R W S x vs→Below W.heap.size W W'→R W' S x vs)
  (hR2:∀W S x vs l r o,R W S x vs→W.heap[l]?=some (.loop r)→R (W.putObj l o) S x vs)
  (I:(Nat→Prop)→List α→World→Prop) (Ix:Code→(Nat→Prop)→List α→World→Prop) (hI:Stab I) (hIx:∀c,Stab (Ix c)) (h0:I S0 [] w)
  (Ax:Array Value→Act→World→Prop) (hAx:∀vs a' W l r o,Ax vs a' W→W.heap[l]?=some (.loop r)→Ax vs a' (W.putObj l o))
  (hassign:∀(S:Nat→Prop) (x:α) (vs:Array Value) (W:World) (K:Act→World→Prop),R W S x vs→(∀a' W',Below W.heap.size W W'→Ax vs a' W'→K a' W')→
   assign.wpIn (Fence.wide.inRound (w.heap.size+1)) (n-1-1) P (Exit.then K (fun _ _ _=>False)) { tmps:=(ps.zip vs).foldl (fun t (p,v)=>t.setIfInBounds p v) a.tmps,defers:=[] } W)
  (hbody:∀(S:Nat→Prop) (pre:List α) (x:α) (vs:Array Value) (a':Act) (W:World),I S pre W→S w.heap.size→S (w.heap.size+1)→w.heap.size+1 < W.heap.size→W.heap[w.heap.size]?=some (.deferred (some []))→(∃r,W.heap[w.heap.size+1]?=some (.loop r))→(pre ++ [x]) <+: cs→(∃S1,R W S1 x vs∧∀b,S b↔(S1 b∨b=w.heap.size∨b=w.heap.size+1))→Ax vs a' W→
   body.wpIn (Fence.wide.inRound (w.heap.size+1)) (n-1-1) P (postS (Kpt fun b=>S b∨T b) (I S) (fun c=>Ix c S) (pre ++ [x]) W) a' W)
  (hTl:¬T (w.heap.size+1))
  (hdone:∀(S:Nat→Prop) (W:World),I S cs W→S w.heap.size→W.heap[w.heap.size]?=some (.deferred (some []))→Q .normal { a with defers:={ target:=.collected w.heap.size,args:=#[] } :: a.defers } W)
  (hstop:∀(c:Code) (S:Nat→Prop) (pre:List α) (W:World),pre <+: cs→Ix c S pre W→S w.heap.size→W.heap[w.heap.size]?=some (.deferred (some []))→c.wpIn Fence.wide n P Q { a with defers:={ target:=.collected w.heap.size,args:=#[] } :: a.defers } W) :
  (Code.rangeFunc g ps assign body).wpIn Fence.wide n P Q a w:=by
 refine wpIn_rangeFunc ?_
 intro fn hfn
 obtain ⟨D,hD⟩:∃D,D=w.heap.size:=⟨_,rfl⟩
 obtain ⟨rec,hrec⟩:∃rec:LoopState→Option Code→Loop,rec=fun st pe=>{ state:=st,pending:=pe,fn,tmps:=a.tmps,params:=ps,assign,body,defers:=D }:=⟨_,rfl⟩
 obtain ⟨W1,hW1⟩:∃W1,(w.alloc (.deferred (some []))).alloc (.loop (rec .ready none))=W1:=⟨_,rfl⟩
 have hL1:W1.heap[D+1]?=some (.loop (rec .ready none)):=by
  rw [←hW1,hD]; have:=World.alloc_heap_new (w.alloc (.deferred (some []))) (.loop (rec .ready none)); rwa [World.size_alloc] at this
 have hK1:W1.heap[D]?=some (.deferred (some [])):=by
  rw [←hW1,hD]; exact (Below.heap_alloc _ _ _ (by simp)).trans (World.alloc_heap_new w _)
 have hb1:Below w.heap.size w W1:=by
  rw [←hW1]; exact ((Below.refl _ w).alloc (Nat.le_refl _) _).alloc (by simp) _
 have hI1:I (fun b=>S0 b∨b=D∨b=D+1) [] W1:=hI S0 _ [] w W1 h0 (Chg.of_below hb1 (Nat.le_refl _)) (fun b hb=>by
  rcases hb with hb | hb | hb
  ·exact .inl hb
  ·exact .inr (by omega)
  ·exact .inr (by omega))
 have hnS:¬S0 D∧¬S0 (D+1):=⟨fun h=>by have:=hS0 _ h; omega,fun h=>by have:=hS0 _ h; omega⟩
 refine ⟨D+1,[{ target:=.collected D,args:=#[] }],W1,{ target:=.fn (.func gf) lb,args:=#[.func (.yield (D+1)) #[] #[]] },W1,gf,
  #[.func (.yield (D+1)) #[] #[]] ++ lb,W1,?_,?_,?_,?_,fun h=>(by cases h),?_⟩
 ·rw [←hW1,hrec,hD]; exact run_enterLoop_outer _ _ _ _ _
 ·simp only [resolve,hg]
  simp [go_sem]
 ·intro f' hf'; trivial
 ·simp [invoke,go_sem,eg]
 ·have stx:∀(X:(Nat→Prop)→List α→World→Prop),Stab X→∀(p:Obj→Prop),Stab (fun S pre (W:World)=>X (fun b=>S b∨b=D∨b=D+1) pre W∧¬S D∧¬S (D+1)∧(∃o,W.heap[D+1]?=some o∧p o)∧W.heap[D]?=some (Obj.deferred (some []))):=by
   rintro X hX p S S' pre W W' ⟨hi,hsd,hsl,⟨o,hl,ho⟩,hk⟩ hc hs
   have hlt:=(Array.getElem?_eq_some_iff.1 hl).1
   refine ⟨hX _ _ pre W W' hi (hc.mono (fun i _ h=>.inl h)) (fun b hb=>?_),fun h=>?_,fun h=>?_,⟨o,(hc.block _ hlt hsl).trans hl,ho⟩,(hc.block _ (by omega) hsd).trans hk⟩
   ·rcases hb with hb | hb
    ·rcases hs b hb with h | h
     ·exact .inl (.inl h)
     ·exact .inr h
    ·exact .inl (.inr hb)
   ·rcases hs _ h with h | h
    ·exact hsd h
    ·omega
   ·rcases hs _ h with h | h
    ·exact hsl h
    ·omega
  refine (callsIn_any (m':=n-1) (hseq (D+1)
   (fun S pre (W:World)=>I (fun b=>S b∨b=D∨b=D+1) pre W∧¬S D∧¬S (D+1)∧(∃o,W.heap[D+1]?=some o∧o=Obj.loop (rec .ready none))∧W.heap[D]?=some (Obj.deferred (some [])))
   (fun S pre (W:World)=>∃c,Ix c (fun b=>S b∨b=D∨b=D+1) pre W∧¬S D∧¬S (D+1)∧(∃o,W.heap[D+1]?=some o∧o=Obj.loop (rec .done (some c)))∧W.heap[D]?=some (Obj.deferred (some [])))
   W1 hb1 (stx I hI _) (fun S S' pre W W' ⟨c,h⟩ hc hs=>⟨c,stx (Ix c) (hIx c) _ S S' pre W W' h hc hs⟩) ?_ ⟨hI1,hnS.1,hnS.2,⟨_,hL1,rfl⟩,hK1⟩)).mono ?_
  ·-- one round
   rintro m S pre x vs W ⟨hi,hsd,hsl,⟨_,hl,rfl⟩,hk⟩ hpre hR
   have hlt:D+1 < W.heap.size:=(Array.getElem?_eq_some_iff.1 hl).1
   have hy:=run_yield (P:=P) (args:=vs) hl (by rw [hrec]; exact hps _ _ _ _ hR)
   rw [hrec] at hy
   refine ⟨fn,_,assign,body,hy,roundIn_any (m:=n-1-1) (roundIn_of_wpIn hfn ?_)⟩
   have has:=hassign S x vs W (fun a₁' w₁=>∃w₂,(Instr.beginRound (w.heap.size+1)).run P w₁=.ok () w₂∧body.wpIn (Fence.wide.inRound (w.heap.size+1)) (n-1-1) P (roundPost P (w.heap.size+1) fun e W'=>Kpt (fun b=>S b∨T b) W W'∧
    ((e=.returned (.bool true)∧(I (fun b=>S b∨b=D∨b=D+1) (pre ++ [x]) W'∧¬S D∧¬S (D+1)∧(∃o,W'.heap[D+1]?=some o∧o=Obj.loop (rec .ready none))∧W'.heap[D]?=some (.deferred (some []))))∨
    (e=.returned (.bool false)∧∃c,Ix c (fun b=>S b∨b=D∨b=D+1) (pre ++ [x]) W'∧¬S D∧¬S (D+1)∧(∃o,W'.heap[D+1]?=some o∧o=Obj.loop (rec .done (some c)))∧W'.heap[D]?=some (.deferred (some []))))) a₁' w₂) hR
   rw [←hD] at has
   refine has ?_
   clear has hy
   intro a' Wq hbq hax
   have hiq:=hI _ (fun b=>S b∨b=D∨b=D+1) pre W Wq hi (Chg.of_below hbq (Nat.le_refl _)) (fun b hb=>.inl hb)
   have hlq:=(hbq.block _ hlt).trans hl
   have hkq:=(hbq.block D (by omega)).trans hk
   have hRq:=hR1 _ _ _ _ _ hR hbq
   have hltq:D+1 < Wq.heap.size:=Nat.lt_of_lt_of_le hlt hbq.size
   refine ⟨_,run_beginRound hlq (by rw [hrec]),?_⟩
   obtain ⟨Wb,hWb⟩:∃Wb,Wq.putObj (D+1) (.loop { rec .ready none with state:=.busy })=Wb:=⟨_,rfl⟩
   rw [hWb]
   have hl2:Wb.heap[D+1]?=some (.loop { rec .ready none with state:=.busy }):=by rw [←hWb]; exact World.putObj_heap_same hltq
   have hk2:Wb.heap[D]?=some (.deferred (some [])):=by rw [←hWb]; exact (World.putObj_heap_other (by omega)).trans hkq
   have hc2:Chg (fun b=>S b∨b=D∨b=D+1) Wq Wb:=by rw [←hWb]; exact (Chg.refl _ _).putObj (.inr (.inr rfl)) _
   have hq2:Kpt (fun b=>S b∨T b) W Wb:=by
    refine (Kpt.of_below hbq (Nat.le_refl _)).trans ?_
    rw [←hWb]
    exact ⟨by simp,fun b hb hs=>World.putObj_heap_other (fun e=>by subst e; rcases hs with h | h; exact hsl h; exact hTl (hD ▸ h))⟩
   have hi2:=hI _ (fun b=>S b∨b=D∨b=D+1) pre Wq Wb hiq hc2 (fun b hb=>.inl hb)
   have hbd:=hbody (fun b=>S b∨b=D∨b=D+1) pre x vs a' Wb hi2 (.inr (.inl hD.symm)) (.inr (.inr (by rw [hD]))) (by have:=hc2.size; omega) (hD ▸ hk2) (hD ▸ ⟨_,hl2⟩) hpre ⟨S,by rw [←hWb]; exact hR2 _ _ _ _ _ _ _ hRq hlq,fun b=>by rw [hD]⟩ (by rw [←hWb]; exact hAx _ _ _ _ _ _ hax hlq)
   rw [←hD] at hbd
   refine wpIn_mono hbd ?_
   have fin:∀(jump:Option Code) (W3:World),Kpt (fun b=>(S b∨b=D∨b=D+1)∨T b) Wb W3→
     (Instr.endRound (D+1) jump).run P W3=.ok (.bool jump.isNone) (W3.putObj (D+1) (.loop (rec (if jump.isNone then .ready else .done) jump)))∧
     (W3.putObj (D+1) (.loop (rec (if jump.isNone then .ready else .done) jump))).heap[D+1]?=some (.loop (rec (if jump.isNone then .ready else .done) jump))∧
     (W3.putObj (D+1) (.loop (rec (if jump.isNone then .ready else .done) jump))).heap[D]?=some (.deferred (some []))∧
     Kpt (fun b=>S b∨T b) W (W3.putObj (D+1) (.loop (rec (if jump.isNone then .ready else .done) jump))):=fun jump W3 hk3=>by
    have hlb:D+1 < Wb.heap.size:=by have:=hc2.size; omega
    have hl3:=(hk3.block (D+1) hlb (.inl (.inr (.inr rfl)))).trans hl2
    have:=run_endRound (P:=P) jump hl3
    have h4:Kpt (fun b=>S b∨T b) Wb W3:=hk3.mono (fun i _ h=>h.elim (fun h=>.inl (.inl h)) .inr)
    have h5:Kpt (fun b=>S b∨T b) W3 (W3.putObj (D+1) (.loop (rec (if jump.isNone then .ready else .done) jump))):=
     ⟨by simp,fun b hb hs=>World.putObj_heap_other (fun e=>by subst e; rcases hs with h | h; exact hsl h; exact hTl (hD ▸ h))⟩
    refine ⟨?_,World.putObj_heap_same (Array.getElem?_eq_some_iff.1 hl3).1,(World.putObj_heap_other (by omega)).trans ((hk3.block D (by omega) (.inl (.inr (.inl rfl)))).trans hk2),(hq2.trans h4).trans h5⟩
    rw [hrec] at this ⊢
    exact this
   have pc:∀(W3:World) (o:Obj),Chg (fun b=>S b∨b=D∨b=D+1) W3 (W3.putObj (D+1) o):=fun W3 o=>(Chg.refl _ _).putObj (.inr (.inr rfl)) _
   rintro e a3 W3 hp
   cases e with
   | normal=>
    obtain ⟨hk3,hi3⟩:=hp
    obtain ⟨hr,hl4,hk4,hkk⟩:=fin none W3 hk3
    exact ⟨_,_,hr,hkk,.inl ⟨rfl,hI _ _ _ _ _ hi3 (pc W3 _) (fun b hb=>.inl hb),hsd,hsl,⟨_,hl4,rfl⟩,hk4⟩⟩
   | ret=>
    obtain ⟨hk3,hi3⟩:=hp
    obtain ⟨hr,hl4,hk4,hkk⟩:=fin (some .ret) W3 hk3
    exact ⟨_,_,hr,hkk,.inr ⟨rfl,.ret,hIx _ _ _ _ _ _ hi3 (pc W3 _) (fun b hb=>.inl hb),hsd,hsl,⟨_,hl4,rfl⟩,hk4⟩⟩
   | exit id=>
    obtain ⟨hk3,hi3⟩:=hp
    obtain ⟨hr,hl4,hk4,hkk⟩:=fin (some (.exit id)) W3 hk3
    exact ⟨_,_,hr,hkk,.inr ⟨rfl,.exit id,hIx _ _ _ _ _ _ hi3 (pc W3 _) (fun b hb=>.inl hb),hsd,hsl,⟨_,hl4,rfl⟩,hk4⟩⟩
   | goto t=>
    obtain ⟨hk3,hi3⟩:=hp
    obtain ⟨hr,hl4,hk4,hkk⟩:=fin (some (.goto t)) W3 hk3
    exact ⟨_,_,hr,hkk,.inr ⟨rfl,.goto t,hIx _ _ _ _ _ _ hi3 (pc W3 _) (fun b hb=>.inl hb),hsd,hsl,⟨_,hl4,rfl⟩,hk4⟩⟩
   | panic ch=>exact hp.elim
   | outgrown=>exact hp.elim
  ·-- behind the iterator
   rintro e W2 ⟨⟨v,rfl⟩,(⟨S,hi,hsd,hsl,⟨_,hl,rfl⟩,hk⟩ | ⟨S,pre,hpre,c,hi,hsd,hsl,⟨_,hl,rfl⟩,hk⟩)⟩
   ·refine ⟨none,_,by have:=run_endLoop (P:=P) hl (by rw [hrec]; simp); rw [hrec] at this; exact this,?_⟩
    have:=hdone _ (W2.putObj (D+1) (.loop { rec .ready none with state:=.exhausted })) (hI _ (fun b=>S b∨b=D∨b=D+1) _ _ _ hi ((Chg.refl _ _).putObj (.inr (.inr rfl)) _) (fun b hb=>.inl hb)) (.inr (.inl hD.symm)) (by rw [←hD]; exact (World.putObj_heap_other (by omega)).trans hk)
    rw [hrec,←hD] at this
    exact this
   ·refine ⟨some c,_,by have:=run_endLoop (P:=P) hl (by rw [hrec]; simp); rw [hrec] at this; exact this,?_⟩
    have:=hstop c _ pre (W2.putObj (D+1) (.loop { rec .done (some c) with state:=.exhausted })) hpre (hIx c _ (fun b=>S b∨b=D∨b=D+1) _ _ _ hi ((Chg.refl _ _).putObj (.inr (.inr rfl)) _) (fun b hb=>.inl hb)) (.inr (.inl hD.symm)) (by rw [←hD]; exact (World.putObj_heap_other (by omega)).trans hk)
    rw [hrec,←hD] at this
    exact this
def mks (rs:List Nat):List Deferred:=rs.map fun r=>{ target:=.collected r,args:=#[] }
theorem leaves_mks {P:Program} {n:Nat} {fn:Func} {tmps:Array Value} {R:Ending→World→Prop} : ∀(rs:List Nat) (w:World),rs.Nodup→(∀r∈rs,w.heap[r]?=some (.deferred (some [])))→
  (∀w',Chg (fun b=>b∈rs) w w'→∃v,(results fn tmps).run P w'=.ok v w'∧R (.returned v) w')→LeavesInM Fence.wide n P fn tmps R (mks rs) .returning w
 | [],w,_,_,h=>h w (Chg.refl _ _)
 | r :: rs,w,hn,hm,h=>by
  have hr:=hm r (by simp)
  rw [List.nodup_cons] at hn
  refine ⟨by simp,.inl ⟨r,_,rfl,run_takeDeferred hr,leaves_mks rs _ hn.2 (fun q hq=>?_) (fun w' hc=>h w' ?_)⟩⟩
  ·have hne:q≠r:=fun e=>hn.1 (by rw [←e]; exact hq)
   exact (World.putObj_heap_other (k:=q) (r:=r) hne).trans (hm q (by simp [hq]))
  ·exact ((Chg.refl _ w).putObj (List.mem_cons_self ..) _).trans (hc.mono (fun i _ hi=>List.mem_cons_of_mem _ hi))
end Go.Proofs.YtkfdpcgmpbopnaaGreatDoor
namespace Go.Proofs.YtkfdpcgmpbopnaaGreatDoor
def ext (n:Nat):Nat→Nat→List (List Int)
 | 0,_=>[[]]
 | k+1,fr=>(List.range' fr (n-fr)).flatMap fun i=>(ext n k (i+1)).map ((i:Int) :: ·)
theorem ext_step {n k fr:Nat} (h:fr < n):ext n (k+1) fr=(ext n k (fr+1)).map ((fr:Int) :: ·) ++ ext n (k+1) (fr+1):=by
 obtain ⟨d,hd⟩:∃d,n-fr=d+1:=⟨n-fr-1,by omega⟩
 simp only [ext]
 rw [hd,List.range'_succ,show n-(fr+1)=d by omega]
 simp
theorem ext_end {n k fr:Nat} (h:n≤fr):ext n (k+1) fr=[]:=by
 simp [ext,show n-fr=0 by omega]
def chz {α:Type} : Nat→List α→List (List α)
 | 0,_=>[[]]
 | _+1,[]=>[]
 | k+1,x :: xs=>((chz k xs).map (x :: ·)) ++ chz (k+1) xs
def pks {α:Type} (L:List α) (d:α) (c:List Int):List α:=c.map fun i=>L.getD i.toNat d
theorem drop_cons {α:Type} (L:List α) (d:α) {fr:Nat} (h:fr < L.length):L.drop fr=L.getD fr d :: L.drop (fr+1):=by
 rw [List.drop_eq_getElem_cons h]; simp [h]
theorem chz_ext {α:Type} (L:List α) (d:α):∀k fr,(ext L.length k fr).map (pks L d)=chz k (L.drop fr):=by
 intro k
 induction k with
 | zero=>intro fr; simp [ext,chz,pks]
 | succ k ih=>
  suffices h:∀m fr,L.length≤fr+m→(ext L.length (k+1) fr).map (pks L d)=chz (k+1) (L.drop fr) from fun fr=>h L.length fr (by omega)
  intro m
  induction m with
  | zero=>intro fr h; rw [ext_end (by omega),List.drop_of_length_le (by omega)]; simp [chz]
  | succ m ihm=>
   intro fr h
   by_cases hlt:fr < L.length
   ·rw [ext_step hlt,drop_cons L d hlt]
    simp only [chz,List.map_append]
    rw [ihm (fr+1) (by omega),←ih (fr+1)]
    simp [pks,Function.comp_def]
   ·rw [ext_end (by omega),List.drop_of_length_le (by omega)]; simp [chz]
theorem chz_mem {α:Type} : ∀{k:Nat} {l t:List α},t∈chz k l↔t.Sublist l∧t.length=k
 | 0,l,t=>by
  simp only [chz,List.mem_singleton]
  exact ⟨fun h=>by subst h; simp,fun h=>List.eq_nil_of_length_eq_zero h.2⟩
 | k+1,[],t=>by
  simp only [chz,List.not_mem_nil,false_iff]
  rintro ⟨h,hl⟩
  have:=h.length_le
  simp at this
  subst this
  simp at hl
 | k+1,x :: xs,t=>by
  simp only [chz,List.mem_append,List.mem_map]
  constructor
  ·rintro (⟨a,ha,rfl⟩ | h)
   ·have:=chz_mem.1 ha; exact ⟨this.1.cons_cons x,by simp [this.2]⟩
   ·have:=chz_mem.1 h; exact ⟨this.1.cons x,this.2⟩
  ·rintro ⟨h,hl⟩
   cases h with
   | cons _ h=>exact .inr (chz_mem.2 ⟨h,hl⟩)
   | cons_cons _ h=>exact .inl ⟨_,chz_mem.2 ⟨h,by simpa using hl⟩,rfl⟩
theorem ext_rise:∀{n k fr:Nat} {c:List Int},c∈ext n k fr→c.length=k∧(∀i,i < k→(fr:Int)≤c.getD i 0∧c.getD i 0 < n)∧∀i j,i < j→j < k→c.getD i 0 < c.getD j 0
 | n,0,fr,c,h=>by
  simp only [ext,List.mem_singleton] at h
  subst h
  exact ⟨rfl,fun i hi=>by omega,fun i j _ hj=>by omega⟩
 | n,k+1,fr,c,h=>by
  simp only [ext,List.mem_flatMap,List.mem_map,List.mem_range'_1] at h
  obtain ⟨v,hv,l,hl,rfl⟩:=h
  obtain ⟨h1,h2,h3⟩:=ext_rise hl
  refine ⟨by simp [h1],fun i hi=>?_,fun i j hij hj=>?_⟩
  ·cases i with
   | zero=>simp; omega
   | succ i=>have:=h2 i (by omega); simp only [List.getD_cons_succ]; omega
  ·cases j with
   | zero=>omega
   | succ j=>
    cases i with
    | zero=>have:=h2 j (by omega); simp only [List.getD_cons_zero,List.getD_cons_succ]; omega
    | succ i=>have:=h3 i j (by omega) (by omega); simpa only [List.getD_cons_succ] using this
theorem flat_sub {α:Type} {A B:List (List α)} (h:A.Sublist B):A.flatten.Sublist B.flatten:=by
 induction h with
 | slnil=>exact List.Sublist.refl _
 | cons x _ ih=>simp only [List.flatten_cons]; exact ih.trans (List.sublist_append_right _ _)
 | cons_cons x _ ih=>simp only [List.flatten_cons]; exact (List.Sublist.refl x).append ih
theorem few {α:Type} : ∀(L:List (List α)) (t:List α) (m:Nat),t.Sublist L.flatten→t.length≤m→∃A:List (List α),A.Sublist L∧A.length≤m∧t.Sublist A.flatten
 | [],t,m,h,_=>⟨[],List.Sublist.refl _,by simp,h⟩
 | x :: xs,t,m,h,hm=>by
  rw [List.flatten_cons] at h
  obtain ⟨a,b,rfl,ha,hb⟩:=List.sublist_append_iff.1 h
  by_cases ea:a=[]
  ·subst ea
   obtain ⟨A,h1,h2,h3⟩:=few xs b m hb (by simpa using hm)
   exact ⟨A,h1.cons x,h2,by simpa using h3⟩
  ·have:0 < a.length:=List.length_pos_iff.2 ea
   simp only [List.length_append] at hm
   obtain ⟨A,h1,h2,h3⟩:=few xs b (m-1) hb (by omega)
   exact ⟨x :: A,h1.cons_cons x,by simp; omega,by rw [List.flatten_cons]; exact ha.append h3⟩
theorem grow {α:Type} {A B:List α} (h:A.Sublist B):∀m,A.length≤m→m≤B.length→∃C:List α,A.Sublist C∧C.Sublist B∧C.length=m:=by
 induction h with
 | slnil=>intro m h1 h2; exact ⟨[],List.Sublist.refl _,List.Sublist.refl _,by simp at h2; simp [h2]⟩
 | @cons A B x h ih=>
  intro m h1 h2
  by_cases e:m≤B.length
  ·obtain ⟨C,c1,c2,c3⟩:=ih m h1 e
   exact ⟨C,c1,c2.cons x,c3⟩
  ·exact ⟨x :: B,h.cons x,List.Sublist.refl _,by simp at h2 ⊢; omega⟩
 | @cons_cons A B x h ih=>
  intro m h1 h2
  simp only [List.length_cons] at h1 h2
  obtain ⟨C,c1,c2,c3⟩:=ih (m-1) (by omega) (by omega)
  exact ⟨x :: C,c1.cons_cons x,c2.cons_cons x,by simp; omega⟩
theorem three {α:Type} (L:List (List α)) (h3:3≤L.length) (t:List α) (ht:t.Sublist L.flatten) (hl:t.length≤3) :
  ∃c∈ext L.length 3 0,t.Sublist (pks L [] c).flatten:=by
 obtain ⟨A,a1,a2,a3⟩:=few L t 3 ht hl
 obtain ⟨C,c1,c2,c3⟩:=grow a1 3 a2 h3
 have hm:C∈chz 3 L:=chz_mem.2 ⟨c2,c3⟩
 have hx:=chz_ext L [] 3 0
 rw [List.drop_zero] at hx
 rw [←hx] at hm
 obtain ⟨c,hc,rfl⟩:=List.mem_map.1 hm
 exact ⟨c,hc,a3.trans (flat_sub c1)⟩
end Go.Proofs.YtkfdpcgmpbopnaaGreatDoor
namespace Go.Proofs.YtkfdpcgmpbopnaaGreatDoor
open Go.RowKit Go.Shelf
attribute [local go_sem] Oper.semAt_some
def Hand (N0:Nat) (W:World) (S:Nat→Prop) (x:List Int) (vs:Array Value):Prop:=
 ∃v B0,vs=#[v]∧W.ownsRow B0 3 1 v x.length (ints x)∧(∀b,S b→b < B0)∧N0≤B0∧B0≤W.heap.size
structure Ox (W:World) (l n many bm by' bc bn bf ba:Nat):Prop where
 cm:W.cell? ⟨bm,0,none⟩=some (.int .i64 many)
 cy:W.cell? ⟨by',0,none⟩=some (.func (.yield l) #[] #[])
 cc:W.cell? ⟨bc,0,none⟩=some (.slice (some ⟨ba,0,none⟩) many many)
 cn:W.cell? ⟨bn,0,none⟩=some (.int .i64 n)
 cf:W.cell? ⟨bf,0,none⟩=some (.func (.func 119) #[] #[.pointer (some ⟨bm,0,none⟩),.pointer (some ⟨by',0,none⟩),.pointer (some ⟨bc,0,none⟩),.pointer (some ⟨bn,0,none⟩),.pointer (some ⟨bf,0,none⟩)])
theorem lt_cell0 {w:World} {b:Nat} {v:Value} (h:w.cell? ⟨b,0,none⟩=some v):b < w.heap.size:=World.block_lt_of_cell? w ⟨b,0,none⟩ h
theorem Ox.move {W W' : World} {l n many bm by' bc bn bf ba : Nat} (h : Ox W l n many bm by' bc bn bf ba)
    (hk : ∀ b, b = bm ∨ b = by' ∨ b = bc ∨ b = bn ∨ b = bf → b < W.heap.size → W'.heap[b]? = W.heap[b]?) : Ox W' l n many bm by' bc bn bf ba :=
  ⟨(World.cell?_of_block (w := W) (hk bm (.inl rfl) (lt_cell0 h.cm))).trans h.cm,
   (World.cell?_of_block (w := W) (hk by' (.inr (.inl rfl)) (lt_cell0 h.cy))).trans h.cy,
   (World.cell?_of_block (w := W) (hk bc (.inr (.inr (.inl rfl))) (lt_cell0 h.cc))).trans h.cc,
   (World.cell?_of_block (w := W) (hk bn (.inr (.inr (.inr (.inl rfl)))) (lt_cell0 h.cn))).trans h.cn,
   (World.cell?_of_block (w := W) (hk bf (.inr (.inr (.inr (.inr rfl)))) (lt_cell0 h.cf))).trans h.cf⟩
theorem Sl.row' {B b n:Nat} {t:TypeId} {w:World} {f:Nat→Value} (h:w.rowIs b t n f) (hn:n≤maxLen) {xs:List Value} (hx:xs.length=n) (hf:∀i,i < n→xs[i]?=some (f i)):Sl B t w (.slice (some ⟨b,0,none⟩) n n) xs:=by
 refine ⟨some ⟨b,0,none⟩,n,by rw [hx],by omega,hn,fun i hi=>⟨b,0,rfl,?_,?_⟩,fun h=>by cases h⟩
 ·have:=h.cell (i:=i) (by omega)
  simp only [Nat.zero_add]
  rw [this,hf i (by omega)]
 ·obtain ⟨c,h1,_⟩:=h
  exact Or.inr ⟨c,h1⟩
structure Bxo (S:Nat→Prop) (bm by' bc bn bf ba:Nat):Prop where
 m:S bm
 y:S by'
 c:S bc
 n:S bn
 f:S bf
 a:S ba
 ne:∀b,b=bm∨b=by'∨b=bc∨b=bn∨b=bf→b≠ba
theorem Bxo.of {S:Nat→Prop} {bm by' bc bn bf ba:Nat} (h:Bxo S bm by' bc bn bf ba) {b:Nat} (hb:b=bm∨b=by'∨b=bc∨b=bn∨b=bf):S b:=by
 rcases hb with rfl | rfl | rfl | rfl | rfl
 ·exact h.m
 ·exact h.y
 ·exact h.c
 ·exact h.n
 ·exact h.f
def FillSaid (k:Nat):Prop:=∀(N0 l n many bm by' bc bn bf ba:Nat) (S T:Nat→Prop) (J Jx:(Nat→Prop)→List (List Int)→World→Prop) (cs:List (List Int)),Stab J→Bxo S bm by' bc bn bf ba→many≤5→n≤1000→N0≤ba→
 (∀m S pre x vs W1,J S pre W1→(pre ++ [x]) <+: cs→Hand N0 W1 S x vs→YieldAt Fence.wide m Tryz.prog l vs W1 fun e W'=>Kpt (fun b=>S b∨T b) W1 W'∧
   ((e=.returned (.bool true)∧J S (pre ++ [x]) W')∨(e=.returned (.bool false)∧Jx S (pre ++ [x]) W')))→
 ∀(ix:List Int) (fr:Nat) (pre:List (List Int)) (f:Nat→Value) (W:World),ix.length+k=many→fr≤n→Ox W l n many bm by' bc bn bf ba→W.rowIs ba 3 many f→(∀j,j < ix.length→f j=.int .i64 (ix.getD j 0))→
  (∀b,S b→b < W.heap.size)→J S pre W→(pre ++ (ext n k fr).map (ix ++ ·)) <+: cs→
  CallsIn Fence.wide 0 Tryz.prog 119 #[.int .i64 ix.length,.int .i64 fr,.pointer (some ⟨bm,0,none⟩),.pointer (some ⟨by',0,none⟩),.pointer (some ⟨bc,0,none⟩),.pointer (some ⟨bn,0,none⟩),.pointer (some ⟨bf,0,none⟩)] W fun e W'=>
   (e=.returned (.bool true)∧J S (pre ++ (ext n k fr).map (ix ++ ·)) W'∧Ox W' l n many bm by' bc bn bf ba∧W.heap.size≤W'.heap.size∧∃f',W'.rowIs ba 3 many f'∧∀j,j < ix.length→f' j=f j)∨
   (e=.returned (.bool false)∧∃q,q <+: cs∧Jx S q W')
set_option maxRecDepth 100000 in
set_option maxHeartbeats 2000000 in
theorem fill_zero:FillSaid 0:=by
 intro N0 l n many bm by' bc bn bf ba S T J Jx cs hst hbx hm5 hn hN0 hY ix fr pre f W hk hfr ho hrow hf hsz hJ hpre
 have hk':ix.length=many:=by omega
 subst hk'
 have hext:(ext n 0 fr).map (ix ++ ·)=[ix]:=by simp [ext]
 rw [hext] at hpre ⊢
 have c1:=ho.cm
 have c2:=ho.cy
 have c3:=ho.cc
 have HV:Hid (Sl 0 3 W.drew (.slice (some ⟨ba,0,none⟩) ix.length ix.length) (ints ix)):=Sl.row' hrow (by unfold maxLen; omega) (by simp) (fun i hi=>by rw [hf i hi,ints_get ix i hi])
 have HCL:Hid (Calls Tryz.prog 91 #[.slice (some ⟨ba,0,none⟩) ix.length ix.length] W.drew fun e w'=>∃u,e=.returned u∧w'.ownsRow W.heap.size 3 1 u ix.length (ints ix)∧Below W.heap.size W.drew w'):=clone_any 0 ix _ W.drew HV.out (by omega)
 have HYY:Hid (∀u w1,w1.ownsRow W.heap.size 3 1 u ix.length (ints ix)→Below W.heap.size W.drew w1→YieldAt Fence.wide 0 Tryz.prog l #[u] w1 fun e W'=>
   ∃b,e=.returned (.bool b)∧((b=true∧J S (pre ++ [ix]) W'∧Kpt (fun b=>S b∨T b) w1 W'∧Below W.heap.size W.drew w1)∨(b=false∧Jx S (pre ++ [ix]) W'))):=fun u w1 h1 h2=>
  YieldAt.mono (hY 0 S pre ix #[u] w1 (hst S S pre W w1 hJ (Chg.of_below (a:=W) (N:=W.heap.size) ⟨h2.os,h2.tape,h2.output,h2.size,h2.block⟩ (Nat.le_refl _)) (fun b hb=>.inl hb)) hpre ⟨u,W.heap.size,rfl,h1,hsz,by have:=hsz ba hbx.a; omega,h2.size⟩) fun e W' h=>h.2.elim (fun ⟨a,b⟩=>⟨true,a,.inl ⟨rfl,b,h.1,h2⟩⟩) (fun ⟨a,b⟩=>⟨false,a,.inr ⟨rfl,b⟩⟩)
 have HO:Hid (Ox W l n ix.length bm by' bc bn bf ba):=ho
 have HR:Hid (W.rowIs ba 3 ix.length f):=hrow
 have HSZ:Hid (∀b,S b→b < W.heap.size):=hsz
 have HBX:Hid (Bxo S bm by' bc bn bf ba):=hbx
 have HPRE:Hid ((pre ++ [ix]) <+: cs):=hpre
 have HLT:Hid (by' < W.heap.size):=lt_cell0 c2
 clear hst hY ho hrow hf hsz hJ hpre hbx hext
 refine callsIn_of_wp Tryz.func119 rfl trivial ?_ rfl
 simp only [Tryz.ntmps119,List.size_toArray,List.length_cons,List.length_nil,Nat.reduceAdd,Nat.reduceSub,Array.replicate_succ,Array.replicate_zero,List.push_toArray,List.append_toArray,List.nil_append,List.cons_append]
 gi_wp2_with fail
 gi_region_with (first | (refine ⟨trivial,rfl,?_⟩; gi_at_call 91; refine (callsIn_wide.2 HCL.out).mono ?_; rintro e w1 ⟨u,rfl,h1,h2⟩; have c2':=(h2.cell (p:=⟨by',0,none⟩) HLT.out).trans c2; obtain ⟨fn,tmps,assign,body,hy,hR⟩:=HYY.out u w1 h1 h2; clear h1 h2) | (refine ⟨rfl,?_⟩; refine hR.mono ?_; clear hR hy; rintro e W' ⟨b,rfl,hP⟩; have HP:Hid ((b=true∧J S (pre ++ [ix]) W'∧Kpt (fun b=>S b∨T b) w1 W'∧Below W.heap.size W.drew w1)∨(b=false∧Jx S (pre ++ [ix]) W')):=hP; clear hP))
 all_goals
  gi_wp2
  go_ret
  rcases HP.out with ⟨rfl,hJ',hkp,hb⟩ | ⟨rfl,hJx⟩
  ·have hkw:∀b,S b→b < W.heap.size→W'.heap[b]?=W.heap[b]?:=fun b hb1 hb2=>(hkp.block b (Nat.lt_of_lt_of_le hb2 hb.size) (.inl hb1)).trans (hb.block b hb2)
   refine .inl ⟨rfl,hJ',HO.out.move (fun b hb1 hb2=>hkw b (HBX.out.of hb1) hb2),Nat.le_trans hb.size hkp.size,f,?_,fun _ _=>rfl⟩
   obtain ⟨c,q1,q2,q3⟩:=HR.out
   exact ⟨c,(hkw ba HBX.out.a (HSZ.out ba HBX.out.a)).trans q1,q2,q3⟩
  ·exact .inr ⟨rfl,_,HPRE.out,hJx⟩
end Go.Proofs.YtkfdpcgmpbopnaaGreatDoor
namespace Go.Proofs.YtkfdpcgmpbopnaaGreatDoor
open Go.RowKit Go.Shelf
attribute [local go_sem] Oper.semAt_some
theorem ext_cons_map {n k fr:Nat} (h:fr < n) (ix:List Int):(ext n (k+1) fr).map (ix ++ ·)=(ext n k (fr+1)).map ((ix ++ [(fr:Int)]) ++ ·) ++ (ext n (k+1) (fr+1)).map (ix ++ ·):=by
 rw [ext_step h]
 simp [Function.comp_def]
set_option maxRecDepth 100000 in
set_option maxHeartbeats 4000000 in
theorem fill_succ (k:Nat) (ih:FillSaid k):FillSaid (k+1):=by
 intro N0 l n many bm by' bc bn bf ba S T J Jx cs hst hbx hm5 hn hN0 hY ix fr pre f W hk hfr ho hrow hf hsz hJ hpre
 have HIH:Hid (∀(ix:List Int) (fr:Nat) (pre:List (List Int)) (f:Nat→Value) (W:World),ix.length+k=many→fr≤n→Ox W l n many bm by' bc bn bf ba→W.rowIs ba 3 many f→(∀j,j < ix.length→f j=.int .i64 (ix.getD j 0))→
  (∀b,S b→b < W.heap.size)→J S pre W→(pre ++ (ext n k fr).map (ix ++ ·)) <+: cs→
  CallsIn Fence.wide 0 Tryz.prog 119 #[.int .i64 ix.length,.int .i64 fr,.pointer (some ⟨bm,0,none⟩),.pointer (some ⟨by',0,none⟩),.pointer (some ⟨bc,0,none⟩),.pointer (some ⟨bn,0,none⟩),.pointer (some ⟨bf,0,none⟩)] W fun e W'=>
   (e=.returned (.bool true)∧J S (pre ++ (ext n k fr).map (ix ++ ·)) W'∧Ox W' l n many bm by' bc bn bf ba∧W.heap.size≤W'.heap.size∧∃f',W'.rowIs ba 3 many f'∧∀j,j < ix.length→f' j=f j)∨
   (e=.returned (.bool false)∧∃q,q <+: cs∧Jx S q W')):=ih N0 l n many bm by' bc bn bf ba S T J Jx cs hst hbx hm5 hn hN0 hY
 have HST:Hid (Stab J):=hst
 have HBX:Hid (Bxo S bm by' bc bn bf ba):=hbx
 have HO:Hid (Ox W l n many bm by' bc bn bf ba):=ho
 have HRW:Hid (W.rowIs ba 3 many f):=hrow
 have HF:Hid (∀j,j < ix.length→f j=.int .i64 (ix.getD j 0)):=hf
 have HSZ:Hid (∀b,S b→b < W.heap.size):=hsz
 have HJ:Hid (J S pre W):=hJ
 have HPRE:Hid ((pre ++ (ext n (k+1) fr).map (ix ++ ·)) <+: cs):=hpre
 have c1:=ho.cm
 have c2:=ho.cn
 have hne:((ix.length:Int) == (many:Int))=false:=by rw [beq_eq_false_iff_ne]; omega
 clear hst hbx hY ho hrow hf hsz hJ hpre ih
 refine callsIn_of_wp Tryz.func119 rfl trivial ?_ rfl
 simp only [Tryz.ntmps119,List.size_toArray,List.length_cons,List.length_nil,Nat.reduceAdd,Nat.reduceSub,Array.replicate_succ,Array.replicate_zero,List.push_toArray,List.append_toArray,List.nil_append,List.cons_append]
 gi_wp2
 gi_loopw [21,10] (fun i _ wr=>∃(q:Nat) (g:Nat→Value) (pr:List (List Int)),fr+q≤n∧i=.int .i64 q∧Ox wr l n many bm by' bc bn bf ba∧wr.rowIs ba 3 many g∧(∀j,j < ix.length→g j=f j)∧W.heap.size≤wr.heap.size∧J S pr wr∧
   pr ++ (ext n (k+1) (fr+q)).map (ix ++ ·)=pre ++ (ext n (k+1) fr).map (ix ++ ·)) (fun i _ _=>n-(intOf i).toNat)
 case atStart=>exact ⟨0,f,pre,hfr,rfl,HO.out,HRW.out,fun _ _=>rfl,Nat.le_refl _,HJ.out,rfl⟩
 case round=>
  obtain ⟨q,g,pr,hq,rfl,ho,hrow,hg,hsz,hJ,hpr⟩:=hrel
  have HO2:Hid (Ox wr l n many bm by' bc bn bf ba):=ho
  have HRW2:Hid (wr.rowIs ba 3 many g):=hrow
  have HG:Hid (∀j,j < ix.length→g j=f j):=hg
  have HJ2:Hid (J S pr wr):=hJ
  have HPR:Hid (pr ++ (ext n (k+1) (fr+q)).map (ix ++ ·)=pre ++ (ext n (k+1) fr).map (ix ++ ·)):=hpr
  have HWS:Hid (W.heap.size≤wr.heap.size):=hsz
  by_cases hlt:fr+q < n
  ·have d1:=ho.cc
   have d4:=hrow.cell (i:=ix.length) (by omega)
   have d5:=hrow.frozen ix.length
   obtain ⟨W5,hW5⟩:∃W5,W5=wr.setCell ⟨ba,ix.length,none⟩ (.int .i64 ((fr:Int)+(q:Int))):=⟨_,rfl⟩
   have HO5:Hid (Ox W5 l n many bm by' bc bn bf ba):=by
    rw [hW5]
    exact ho.move (fun b hb _=>Below.heap_setCell _ _ _ _ (HBX.out.ne b hb))
   have HRW5:Hid (W5.rowIs ba 3 many (fun i=>if i=ix.length then .int .i64 ((fr:Int)+(q:Int)) else g i)):=by rw [hW5]; exact hrow.set _ _
   have HJ5:Hid (J S pr W5):=HST.out S S pr wr W5 hJ (by rw [hW5]; exact (Chg.refl _ _).setCell HBX.out.a _) (fun b hb=>.inl hb)
   have hs5:W5.heap.size=wr.heap.size:=by rw [hW5]; simp [World.setCell]
   have d6:(wr.setCell ⟨ba,ix.length,none⟩ (.int .i64 ((fr:Int)+(q:Int)))).cell? ⟨bf,0,none⟩=some (.func (.func 119) #[] #[.pointer (some ⟨bm,0,none⟩),.pointer (some ⟨by',0,none⟩),.pointer (some ⟨bc,0,none⟩),.pointer (some ⟨bn,0,none⟩),.pointer (some ⟨bf,0,none⟩)]):=by rw [←hW5]; exact HO5.out.cf
   have HW5:Hid (W5=wr.setCell ⟨ba,ix.length,none⟩ (.int .i64 ((fr:Int)+(q:Int)))):=hW5
   have HCONS:Hid ((ext n (k+1) (fr+q)).map (ix ++ ·)=(ext n k (fr+q+1)).map ((ix ++ [((fr+q:Nat):Int)]) ++ ·) ++ (ext n (k+1) (fr+q+1)).map (ix ++ ·)):=ext_cons_map hlt ix
   have HCALL:Hid (CallsIn Fence.wide 0 Tryz.prog 119 #[.int .i64 ((ix.length:Int)+1),.int .i64 ((fr:Int)+(q:Int)+1),.pointer (some ⟨bm,0,none⟩),.pointer (some ⟨by',0,none⟩),.pointer (some ⟨bc,0,none⟩),.pointer (some ⟨bn,0,none⟩),.pointer (some ⟨bf,0,none⟩)] W5 fun e W'=>
     (e=.returned (.bool true)∧J S (pr ++ (ext n k (fr+q+1)).map ((ix ++ [((fr+q:Nat):Int)]) ++ ·)) W'∧Ox W' l n many bm by' bc bn bf ba∧W5.heap.size≤W'.heap.size∧∃f',W'.rowIs ba 3 many f'∧∀j,j < ix.length→f' j=f j)∨
     (e=.returned (.bool false)∧∃q,q <+: cs∧Jx S q W')):=by
    have h:=HIH.out (ix ++ [((fr+q:Nat):Int)]) (fr+q+1) pr _ W5 (by simp; omega) (by omega) HO5.out HRW5.out (fun j hj=>by
      simp only [List.length_append,List.length_singleton] at hj
      by_cases e:j=ix.length
      ·subst e; simp
      ·have hj':j < ix.length:=by omega
       simp only [e,if_false]
       rw [HG.out j hj',HF.out j hj']
       simp only [List.getD_eq_getElem?_getD]; rw [List.getElem?_append_left hj']) (fun b hb=>by have:=HSZ.out b hb; omega) HJ5.out (by
      refine List.IsPrefix.trans ?_ HPRE.out
      rw [←HPR.out,HCONS.out,←List.append_assoc]
      exact List.prefix_append _ _)
    have e1:((ix ++ [((fr+q:Nat):Int)]).length:Int)=(ix.length:Int)+1:=by simp
    have e2:((fr+q+1:Nat):Int)=(fr:Int)+(q:Int)+1:=by omega
    rw [e1,e2] at h
    refine h.mono ?_
    rintro e W' (⟨rfl,a1,a2,a3,f',a4,a5⟩ | h)
    ·refine .inl ⟨rfl,a1,a2,a3,f',a4,fun j hj=>?_⟩
     rw [a5 j (by simp; omega)]
     simp only [show j≠ix.length by omega,if_false]
     exact HG.out j hj
    ·exact .inr h
   clear ho hrow hg hsz hJ hpr hW5
   have hqI:(0:Int)≤(q:Int):=by omega
   have hfI:(0:Int)≤(fr:Int):=by omega
   have hI0:(0:Int)≤(ix.length:Int):=by omega
   have hI1:(ix.length:Int) < (many:Int):=by omega
   have hqJ:(q:Int) < (n:Int)-(fr:Int):=by omega
   have hfq:(fr:Int)+(q:Int) < (n:Int):=by omega
   have hfq0:(0:Int)≤(fr:Int)+(q:Int):=by omega
   gi_wp2_with fail
   refine ⟨trivial,rfl,?_⟩
   rw [←HW5.out]
   refine HCALL.out.mono ?_
   rintro e w6 (⟨rfl,a1,a2,a3,f6,a4,a5⟩ | ⟨rfl,a1⟩)
   ·have S1:Hid (J S (pr ++ (ext n k (fr+q+1)).map ((ix ++ [((fr+q:Nat):Int)]) ++ ·)) w6):=a1
    have S2:Hid (Ox w6 l n many bm by' bc bn bf ba):=a2
    have S3:Hid (W.heap.size≤w6.heap.size):=by show _≤_; have:=HWS.out; omega
    have S4:Hid (w6.rowIs ba 3 many f6):=a4
    have S5:Hid (∀j,j < ix.length→f6 j=f j):=a5
    clear a1 a2 a3 a4 a5
    gi_wp2
    go_roundw
    case rel=>
     refine ⟨q+1,f6,_,by omega,by go_num,S2.out,S4.out,S5.out,S3.out,S1.out,?_⟩
     rw [←HPR.out,HCONS.out,List.append_assoc]
     rfl
    case measure=>simp [intOf]; omega
   ·have S1:Hid (∃q,q <+: cs∧Jx S q w6):=a1
    clear a1
    gi_wp2
    go_ret
    exact .inr ⟨rfl,S1.out⟩
  ·have hqe:fr+q=n:=by omega
   have HCE:Hid (pr=pre ++ (ext n (k+1) fr).map (ix ++ ·)):=by
    show _=_
    rw [←hpr,hqe,ext_end (Nat.le_refl _)]
    simp
   clear ho hrow hg hsz hJ hpr
   have hqK:decide ((q:Int) < (n:Int)-(fr:Int))=false:=by simp; omega
   gi_wp2
   go_ret
   exact .inl ⟨rfl,by rw [←HCE.out]; exact HJ2.out,HO2.out,HWS.out,g,HRW2.out,HG.out⟩
theorem fill_any:∀k,FillSaid k
 | 0=>fill_zero
 | k+1=>fill_succ k (fill_any k)
end Go.Proofs.YtkfdpcgmpbopnaaGreatDoor
namespace Go.Proofs.YtkfdpcgmpbopnaaGreatDoor
open Go.RowKit Go.Shelf
attribute [local go_sem] Oper.semAt_some
theorem alloc_new (w:World) (o:Obj):(w.alloc o).heap[w.heap.size]?=some o:=World.alloc_heap_new w o
theorem alloc_keep (w:World) (o:Obj):Below w.heap.size w (w.alloc o):=(Below.refl _ _).alloc (Nat.le_refl _) _
theorem size_alloc (w:World) (o:Obj):(w.alloc o).heap.size=w.heap.size+1:=by simp
theorem cell_of {w:World} {b:Nat} {x:Value} {t:TypeId} (h:w.heap[b]?=some (.cells #[x] t (0,0))):w.cell? ⟨b,0,none⟩=some x:=by simp [World.cell?,h]
theorem fourB (w:World) (o1 o2 o3 o4:Obj) :
  ∃W,W=(((w.alloc o1).alloc o2).alloc o3).alloc o4∧W.heap[w.heap.size]?=some o1∧W.heap[w.heap.size+1]?=some o2∧W.heap[w.heap.size+1+1]?=some o3∧W.heap[w.heap.size+1+1+1]?=some o4∧W.heap.size=w.heap.size+4∧Below w.heap.size w W:=by
 obtain ⟨w1,h1⟩:∃w1,w1=w.alloc o1:=⟨_,rfl⟩
 obtain ⟨w2,h2⟩:∃w2,w2=w1.alloc o2:=⟨_,rfl⟩
 obtain ⟨w3,h3⟩:∃w3,w3=w2.alloc o3:=⟨_,rfl⟩
 have s1:w1.heap.size=w.heap.size+1:=by rw [h1]; exact size_alloc _ _
 have s2:w2.heap.size=w.heap.size+2:=by rw [h2,size_alloc]; omega
 have s3:w3.heap.size=w.heap.size+3:=by rw [h3,size_alloc]; omega
 have n1:w1.heap[w.heap.size]?=some o1:=by rw [h1]; exact alloc_new _ _
 have n2:w2.heap[w.heap.size+1]?=some o2:=by rw [h2,←s1]; exact alloc_new _ _
 have n3:w3.heap[w.heap.size+1+1]?=some o3:=by rw [h3,show w.heap.size+1+1=w2.heap.size by omega]; exact alloc_new _ _
 have b1:Below w.heap.size w w1:=by rw [h1]; exact alloc_keep _ _
 have b2:Below w1.heap.size w1 w2:=by rw [h2]; exact alloc_keep _ _
 have b3:Below w2.heap.size w2 w3:=by rw [h3]; exact alloc_keep _ _
 have b4:Below w3.heap.size w3 (w3.alloc o4):=alloc_keep _ _
 refine ⟨w3.alloc o4,by rw [h3,h2,h1],?_,?_,?_,?_,?_,?_⟩
 ·rw [b4.block _ (by omega),b3.block _ (by omega),b2.block _ (by omega)]; exact n1
 ·rw [b4.block _ (by omega),b3.block _ (by omega)]; exact n2
 ·rw [b4.block _ (by omega)]; exact n3
 ·rw [show w.heap.size+1+1+1=w3.heap.size by omega]; exact alloc_new _ _
 ·rw [size_alloc]; omega
 ·exact ((b1.trans (b2.mono (by omega))).trans (b3.mono (by omega))).trans (b4.mono (by omega))
set_option maxRecDepth 100000 in
set_option maxHeartbeats 4000000 in
theorem of_seq (n many bm bn:Nat) (w0:World) (hm5:many≤5) (hn:n≤1000) (hcm:w0.cell? ⟨bm,0,none⟩=some (.int .i64 many)) (hcn:w0.cell? ⟨bn,0,none⟩=some (.int .i64 n)) :
  SeqS Tryz.prog 118 #[.pointer (some ⟨bm,0,none⟩),.pointer (some ⟨bn,0,none⟩)] (Hand w0.heap.size) (ext n many 0) (fun _=>False) (fun b=>b=bm∨b=bn) w0:=by
 intro l J Jx W hW hst hstx hY hJ
 have hbm:=lt_cell0 hcm
 have hbn:=lt_cell0 hcn
 have c1:W.cell? ⟨bm,0,none⟩=some (.int .i64 many):=(hW.cell (p:=⟨bm,0,none⟩) hbm).trans hcm
 have c2:W.cell? ⟨bn,0,none⟩=some (.int .i64 n):=(hW.cell (p:=⟨bn,0,none⟩) hbn).trans hcn
 have hmk:=run_make_row' (P:=Tryz.prog) 22 3 (.int .i64 0) 8 Tryz.underlying22 Tryz.info3 rfl .i64 .i64 many (by omega) (by omega)
 obtain ⟨W4,hW4,e1,e2,e3,e4,hsz,hbw⟩:=fourB W (.cells #[.func (.yield l) #[] #[]] 117) (.cells (madeCells #[.int .i64 0] many) 3) (.cells #[.slice (some ⟨W.heap.size+1,0,none⟩) many many] 22)
  (.cells #[.func (.func 119) #[] #[.pointer (some ⟨bm,0,none⟩),.pointer (some ⟨W.heap.size,0,none⟩),.pointer (some ⟨W.heap.size+1+1,0,none⟩),.pointer (some ⟨bn,0,none⟩),.pointer (some ⟨W.heap.size+1+1+1,0,none⟩)]] 71)
 have hwm:=lt_cell0 c1
 have hwn:=lt_cell0 c2
 obtain ⟨S,hS⟩:∃S:Nat→Prop,S=fun b=>b=bm∨b=bn∨(W.heap.size≤b∧b < W.heap.size+4):=⟨_,rfl⟩
 have ho:Ox W4 l n many bm W.heap.size (W.heap.size+1+1) bn (W.heap.size+1+1+1) (W.heap.size+1):=
  ⟨(hbw.cell (p:=⟨bm,0,none⟩) hwm).trans c1,cell_of e1,cell_of e3,(hbw.cell (p:=⟨bn,0,none⟩) hwn).trans c2,cell_of e4⟩
 have hrow:W4.rowIs (W.heap.size+1) 3 many (fun _=>.int .i64 0):=by
  refine ⟨_,e2,?_,fun i hi=>?_⟩
  ·rw [←Array.length_toList,toList_madeCells_one]; simp
  ·rw [←Array.getElem?_toList,toList_madeCells_one]; simp [hi]
 have hbx:Bxo S bm W.heap.size (W.heap.size+1+1) bn (W.heap.size+1+1+1) (W.heap.size+1):=by
  rw [hS]
  exact ⟨.inl rfl,.inr (.inr (by omega)),.inr (.inr (by omega)),.inr (.inl rfl),.inr (.inr (by omega)),.inr (.inr (by omega)),fun b hb=>by omega⟩
 have hJ4:J S [] W4:=hst _ S [] W W4 hJ (Chg.of_below hbw (Nat.le_refl _)) (fun b hb=>by
  rw [hS] at hb
  rcases hb with h | h | h
  ·exact .inl (.inl h)
  ·exact .inl (.inr h)
  ·exact .inr h.1)
 have HC:Hid (CallsIn Fence.wide 0 Tryz.prog 119 #[.int .i64 0,.int .i64 0,.pointer (some ⟨bm,0,none⟩),.pointer (some ⟨W.heap.size,0,none⟩),.pointer (some ⟨W.heap.size+1+1,0,none⟩),.pointer (some ⟨bn,0,none⟩),.pointer (some ⟨W.heap.size+1+1+1,0,none⟩)] W4 fun e W'=>
   (e=.returned (.bool true)∧J S ([] ++ (ext n many 0).map ([] ++ ·)) W'∧Ox W' l n many bm W.heap.size (W.heap.size+1+1) bn (W.heap.size+1+1+1) (W.heap.size+1)∧W4.heap.size≤W'.heap.size∧∃f',W'.rowIs (W.heap.size+1) 3 many f'∧∀j,j < 0→f' j=.int .i64 0)∨
   (e=.returned (.bool false)∧∃q,q <+: ext n many 0∧Jx S q W')):=fill_any many w0.heap.size l n many bm W.heap.size (W.heap.size+1+1) bn (W.heap.size+1+1+1) (W.heap.size+1) S (fun _=>False) J Jx (ext n many 0) hst hbx hm5 hn (by have:=hW.size; omega) hY [] 0 [] _ W4 (by simp) (Nat.zero_le _) ho hrow (fun j hj=>absurd hj (by simp)) (fun b hb=>by
  rw [hS] at hb
  rcases hb with h | h | h <;> omega) hJ4 (by simp)
 have HW4:Hid (W4=(((W.alloc (.cells #[.func (.yield l) #[] #[]] 117)).alloc (.cells (madeCells #[.int .i64 0] many) 3)).alloc (.cells #[.slice (some ⟨W.heap.size+1,0,none⟩) many many] 22)).alloc
  (.cells #[.func (.func 119) #[] #[.pointer (some ⟨bm,0,none⟩),.pointer (some ⟨W.heap.size,0,none⟩),.pointer (some ⟨W.heap.size+1+1,0,none⟩),.pointer (some ⟨bn,0,none⟩),.pointer (some ⟨W.heap.size+1+1+1,0,none⟩)]] 71)):=hW4
 clear hst hstx hY hJ ho hrow hbx hJ4 e1 e2 e3 e4 hsz hbw hW hcm hcn hW4
 refine callsIn_of_wp Tryz.func118 rfl trivial ?_ rfl
 simp only [Tryz.ntmps118,List.size_toArray,List.length_cons,List.length_nil,Nat.reduceAdd,Nat.reduceSub,Array.replicate_succ,Array.replicate_zero,List.push_toArray,List.append_toArray,List.nil_append,List.cons_append]
 gi_wp2_with fail
 refine ⟨trivial,rfl,?_⟩
 rw [←HW4.out]
 refine (HC.out).mono ?_
 rintro e W' (⟨rfl,a1,_⟩ | ⟨rfl,a1⟩)
 ·have A:Hid (J S (ext n many 0) W'):=by
   have e : [] ++ (ext n many 0).map ([] ++ ·)=ext n many 0:=by simp
   rw [e] at a1
   exact a1
  clear a1
  gi_wp2
  go_end0
  exact ⟨⟨_,rfl⟩,.inl ⟨S,A.out⟩⟩
 ·have A:Hid (∃q,q <+: ext n many 0∧Jx S q W'):=a1
  clear a1
  gi_wp2
  go_end0
  exact ⟨⟨_,rfl⟩,.inr ⟨S,A.out⟩⟩
set_option maxHeartbeats 1000000 in
theorem of_any (n many:Int) (w:World):Calls Tryz.prog 97 #[.int .i64 n,.int .i64 many] w fun e w'=>
  e=.returned (.func (.func 118) #[] #[.pointer (some ⟨w.heap.size+1,0,none⟩),.pointer (some ⟨w.heap.size,0,none⟩)])∧w'=(w.alloc (.cells #[.int .i64 n] 3)).alloc (.cells #[.int .i64 many] 3):=by
 go_enter Tryz.func97,Tryz.ntmps97
 go_wp2
 go_ret
 exact ⟨rfl,rfl⟩
end Go.Proofs.YtkfdpcgmpbopnaaGreatDoor
