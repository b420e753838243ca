import Derived.Test.YtcoeneldaohpnaaGreatRfs
namespace Go.Proofs.YtcoeneldaohpnaaGreat
open Go Go.RowKit
def SeqF {α:Type} (P:Program) (g:Nat) (lb:Array Value) (R:World→World→(Nat→Prop)→α→Array Value→Prop) (cs:List α) (T S0:Nat→Prop) (w0:World):Prop:=
 ∀(l:Nat) (J Jx:(Nat→Prop)→List α→World→Prop) (W:World),Below w0.heap.size w0 W→Stab J→Stab Jx→
  (∀m S pre x vs W0 W1,J S pre W0→J S pre W1→(pre ++ [x]) <+: cs→R W0 W1 S x vs→YieldAt Fence.wide m P l vs W1 fun e W'=>Kpt (fun b=>S b∨T b) W1 W'∧
   ((e=.returned (.bool true)∧J S (pre ++ [x]) W')∨(e=.returned (.bool false)∧Jx S (pre ++ [x]) W')))→
  J S0 [] W→
  CallsIn Fence.wide 0 P g (#[.func (.yield l) #[] #[]] ++ lb) W fun e W'=>(∃v,e=.returned v)∧((∃S,J S cs W')∨(∃S pre,pre <+: cs∧Jx S pre W'))
set_option maxHeartbeats 1000000 in
theorem range_f {α:Type} {P:Program} {n:Nat} {g:Operand} {ps:Array Tmp} {assign body:Code} {Q:Exit→Act→World→Prop} {a:Act} {w:World}
  {gf:Nat} {lb:Array Value} (hg:a.eval g=.func (.func gf) #[] lb) (eg:∀args w,(callFunc gf args).run P w=.ok (.enter gf args) w)
  {R:World→World→(Nat→Prop)→α→Array Value→Prop} {cs:List α} {T S0:Nat→Prop} (hseq:SeqF P gf lb R cs T S0 w) (hS0:∀b,S0 b→b < w.heap.size)
  (hps:∀W0 W S x vs,R W0 W S x vs→vs.size=ps.size)
  (hR1:∀W0 W S x vs W',R W0 W S x vs→Below W.heap.size W W'→R W0 W' S x vs)
  (hR2:∀W0 W S x vs l r o,R W0 W S x vs→W.heap[l]?=some (.loop r)→R W0 (W.putObj l o) S x vs)
  (I:(Nat→Prop)→List α→World→Prop) (Ix:Code→(Nat→Prop)→List α→World→Prop) (hI:Stab I) (hIx:∀c,Stab (Ix c)) (h0:I S0 [] w)
  (Ax:Array Value→Act→World→Prop) (hAx:∀vs a' W l r o,Ax vs a' W→W.heap[l]?=some (.loop r)→Ax vs a' (W.putObj l o))
  (hassign:∀(S:Nat→Prop) (x:α) (vs:Array Value) (W0 W:World) (K:Act→World→Prop),R W0 W S x vs→(∀a' W',Below W.heap.size W W'→Ax vs a' W'→K a' W')→
   assign.wpIn (Fence.wide.inRound (w.heap.size+1)) (n-1-1) P (Exit.then K (fun _ _ _=>False)) { tmps:=(ps.zip vs).foldl (fun t (p,v)=>t.setIfInBounds p v) a.tmps,defers:=[] } W)
  (hbody:∀(S:Nat→Prop) (pre:List α) (x:α) (vs:Array Value) (a':Act) (W:World),I S pre W→S w.heap.size→S (w.heap.size+1)→w.heap.size+1 < W.heap.size→W.heap[w.heap.size]?=some (.deferred (some []))→(∃r,W.heap[w.heap.size+1]?=some (.loop r))→(pre ++ [x]) <+: cs→(∃S1 W0,I S pre W0∧R W0 W S1 x vs∧∀b,S b↔(S1 b∨b=w.heap.size∨b=w.heap.size+1))→Ax vs a' W→
   body.wpIn (Fence.wide.inRound (w.heap.size+1)) (n-1-1) P (postS (Kpt fun b=>S b∨T b) (I S) (fun c=>Ix c S) (pre ++ [x]) W) a' W)
  (hTl:¬T (w.heap.size+1))
  (hdone:∀(S:Nat→Prop) (W:World),I S cs W→S w.heap.size→W.heap[w.heap.size]?=some (.deferred (some []))→Q .normal { a with defers:={ target:=.collected w.heap.size,args:=#[] } :: a.defers } W)
  (hstop:∀(c:Code) (S:Nat→Prop) (pre:List α) (W:World),pre <+: cs→Ix c S pre W→S w.heap.size→W.heap[w.heap.size]?=some (.deferred (some []))→c.wpIn Fence.wide n P Q { a with defers:={ target:=.collected w.heap.size,args:=#[] } :: a.defers } W) :
  (Code.rangeFunc g ps assign body).wpIn Fence.wide n P Q a w:=by
 refine wpIn_rangeFunc ?_
 intro fn hfn
 obtain ⟨D,hD⟩:∃D,D=w.heap.size:=⟨_,rfl⟩
 obtain ⟨rec,hrec⟩:∃rec:LoopState→Option Code→Loop,rec=fun st pe=>{ state:=st,pending:=pe,fn,tmps:=a.tmps,params:=ps,assign,body,defers:=D }:=⟨_,rfl⟩
 obtain ⟨W1,hW1⟩:∃W1,(w.alloc (.deferred (some []))).alloc (.loop (rec .ready none))=W1:=⟨_,rfl⟩
 have hL1:W1.heap[D+1]?=some (.loop (rec .ready none)):=by
  rw [←hW1,hD]; have:=World.alloc_heap_new (w.alloc (.deferred (some []))) (.loop (rec .ready none)); rwa [World.size_alloc] at this
 have hK1:W1.heap[D]?=some (.deferred (some [])):=by
  rw [←hW1,hD]; exact (Below.heap_alloc _ _ _ (by simp)).trans (World.alloc_heap_new w _)
 have hb1:Below w.heap.size w W1:=by
  rw [←hW1]; exact ((Below.refl _ w).alloc (Nat.le_refl _) _).alloc (by simp) _
 have hI1:I (fun b=>S0 b∨b=D∨b=D+1) [] W1:=hI S0 _ [] w W1 h0 (Chg.of_below hb1 (Nat.le_refl _)) (fun b hb=>by
  rcases hb with hb | hb | hb
  ·exact .inl hb
  ·exact .inr (by omega)
  ·exact .inr (by omega))
 have hnS:¬S0 D∧¬S0 (D+1):=⟨fun h=>by have:=hS0 _ h; omega,fun h=>by have:=hS0 _ h; omega⟩
 refine ⟨D+1,[{ target:=.collected D,args:=#[] }],W1,{ target:=.fn (.func gf) lb,args:=#[.func (.yield (D+1)) #[] #[]] },W1,gf,
  #[.func (.yield (D+1)) #[] #[]] ++ lb,W1,?_,?_,?_,?_,fun h=>(by cases h),?_⟩
 ·rw [←hW1,hrec,hD]; exact run_enterLoop_outer _ _ _ _ _
 ·simp only [resolve,hg]
  simp [go_sem]
 ·intro f' hf'; trivial
 ·simp [invoke,go_sem,eg]
 ·have stx:∀(X:(Nat→Prop)→List α→World→Prop),Stab X→∀(p:Obj→Prop),Stab (fun S pre (W:World)=>X (fun b=>S b∨b=D∨b=D+1) pre W∧¬S D∧¬S (D+1)∧(∃o,W.heap[D+1]?=some o∧p o)∧W.heap[D]?=some (Obj.deferred (some []))):=by
   rintro X hX p S S' pre W W' ⟨hi,hsd,hsl,⟨o,hl,ho⟩,hk⟩ hc hs
   have hlt:=(Array.getElem?_eq_some_iff.1 hl).1
   refine ⟨hX _ _ pre W W' hi (hc.mono (fun i _ h=>.inl h)) (fun b hb=>?_),fun h=>?_,fun h=>?_,⟨o,(hc.block _ hlt hsl).trans hl,ho⟩,(hc.block _ (by omega) hsd).trans hk⟩
   ·rcases hb with hb | hb
    ·rcases hs b hb with h | h
     ·exact .inl (.inl h)
     ·exact .inr h
    ·exact .inl (.inr hb)
   ·rcases hs _ h with h | h
    ·exact hsd h
    ·omega
   ·rcases hs _ h with h | h
    ·exact hsl h
    ·omega
  refine (callsIn_any (m':=n-1) (hseq (D+1)
   (fun S pre (W:World)=>I (fun b=>S b∨b=D∨b=D+1) pre W∧¬S D∧¬S (D+1)∧(∃o,W.heap[D+1]?=some o∧o=Obj.loop (rec .ready none))∧W.heap[D]?=some (Obj.deferred (some [])))
   (fun S pre (W:World)=>∃c,Ix c (fun b=>S b∨b=D∨b=D+1) pre W∧¬S D∧¬S (D+1)∧(∃o,W.heap[D+1]?=some o∧o=Obj.loop (rec .done (some c)))∧W.heap[D]?=some (Obj.deferred (some [])))
   W1 hb1 (stx I hI _) (fun S S' pre W W' ⟨c,h⟩ hc hs=>⟨c,stx (Ix c) (hIx c) _ S S' pre W W' h hc hs⟩) ?_ ⟨hI1,hnS.1,hnS.2,⟨_,hL1,rfl⟩,hK1⟩)).mono ?_
  ·-- one round
   rintro m S pre x vs W0 W ⟨hi0,-⟩ ⟨hi,hsd,hsl,⟨_,hl,rfl⟩,hk⟩ hpre hR
   have hlt:D+1 < W.heap.size:=(Array.getElem?_eq_some_iff.1 hl).1
   have hy:=run_yield (P:=P) (args:=vs) hl (by rw [hrec]; exact hps _ _ _ _ _ hR)
   rw [hrec] at hy
   refine ⟨fn,_,assign,body,hy,roundIn_any (m:=n-1-1) (roundIn_of_wpIn hfn ?_)⟩
   have has:=hassign S x vs W0 W (fun a₁' w₁=>∃w₂,(Instr.beginRound (w.heap.size+1)).run P w₁=.ok () w₂∧body.wpIn (Fence.wide.inRound (w.heap.size+1)) (n-1-1) P (roundPost P (w.heap.size+1) fun e W'=>Kpt (fun b=>S b∨T b) W W'∧
    ((e=.returned (.bool true)∧(I (fun b=>S b∨b=D∨b=D+1) (pre ++ [x]) W'∧¬S D∧¬S (D+1)∧(∃o,W'.heap[D+1]?=some o∧o=Obj.loop (rec .ready none))∧W'.heap[D]?=some (.deferred (some []))))∨
    (e=.returned (.bool false)∧∃c,Ix c (fun b=>S b∨b=D∨b=D+1) (pre ++ [x]) W'∧¬S D∧¬S (D+1)∧(∃o,W'.heap[D+1]?=some o∧o=Obj.loop (rec .done (some c)))∧W'.heap[D]?=some (.deferred (some []))))) a₁' w₂) hR
   rw [←hD] at has
   refine has ?_
   clear has hy
   intro a' Wq hbq hax
   have hiq:=hI _ (fun b=>S b∨b=D∨b=D+1) pre W Wq hi (Chg.of_below hbq (Nat.le_refl _)) (fun b hb=>.inl hb)
   have hlq:=(hbq.block _ hlt).trans hl
   have hkq:=(hbq.block D (by omega)).trans hk
   have hRq:=hR1 _ _ _ _ _ _ hR hbq
   have hltq:D+1 < Wq.heap.size:=Nat.lt_of_lt_of_le hlt hbq.size
   refine ⟨_,run_beginRound hlq (by rw [hrec]),?_⟩
   obtain ⟨Wb,hWb⟩:∃Wb,Wq.putObj (D+1) (.loop { rec .ready none with state:=.busy })=Wb:=⟨_,rfl⟩
   rw [hWb]
   have hl2:Wb.heap[D+1]?=some (.loop { rec .ready none with state:=.busy }):=by rw [←hWb]; exact World.putObj_heap_same hltq
   have hk2:Wb.heap[D]?=some (.deferred (some [])):=by rw [←hWb]; exact (World.putObj_heap_other (by omega)).trans hkq
   have hc2:Chg (fun b=>S b∨b=D∨b=D+1) Wq Wb:=by rw [←hWb]; exact (Chg.refl _ _).putObj (.inr (.inr rfl)) _
   have hq2:Kpt (fun b=>S b∨T b) W Wb:=by
    refine (Kpt.of_below hbq (Nat.le_refl _)).trans ?_
    rw [←hWb]
    exact ⟨by simp,fun b hb hs=>World.putObj_heap_other (fun e=>by subst e; rcases hs with h | h; exact hsl h; exact hTl (hD ▸ h))⟩
   have hi2:=hI _ (fun b=>S b∨b=D∨b=D+1) pre Wq Wb hiq hc2 (fun b hb=>.inl hb)
   have hbd:=hbody (fun b=>S b∨b=D∨b=D+1) pre x vs a' Wb hi2 (.inr (.inl hD.symm)) (.inr (.inr (by rw [hD]))) (by have:=hc2.size; omega) (hD ▸ hk2) (hD ▸ ⟨_,hl2⟩) hpre ⟨S,W0,hi0,by rw [←hWb]; exact hR2 _ _ _ _ _ _ _ _ hRq hlq,fun b=>by rw [hD]⟩ (by rw [←hWb]; exact hAx _ _ _ _ _ _ hax hlq)
   rw [←hD] at hbd
   refine wpIn_mono hbd ?_
   have fin:∀(jump:Option Code) (W3:World),Kpt (fun b=>(S b∨b=D∨b=D+1)∨T b) Wb W3→
     (Instr.endRound (D+1) jump).run P W3=.ok (.bool jump.isNone) (W3.putObj (D+1) (.loop (rec (if jump.isNone then .ready else .done) jump)))∧
     (W3.putObj (D+1) (.loop (rec (if jump.isNone then .ready else .done) jump))).heap[D+1]?=some (.loop (rec (if jump.isNone then .ready else .done) jump))∧
     (W3.putObj (D+1) (.loop (rec (if jump.isNone then .ready else .done) jump))).heap[D]?=some (.deferred (some []))∧
     Kpt (fun b=>S b∨T b) W (W3.putObj (D+1) (.loop (rec (if jump.isNone then .ready else .done) jump))):=fun jump W3 hk3=>by
    have hlb:D+1 < Wb.heap.size:=by have:=hc2.size; omega
    have hl3:=(hk3.block (D+1) hlb (.inl (.inr (.inr rfl)))).trans hl2
    have:=run_endRound (P:=P) jump hl3
    have h4:Kpt (fun b=>S b∨T b) Wb W3:=hk3.mono (fun i _ h=>h.elim (fun h=>.inl (.inl h)) .inr)
    have h5:Kpt (fun b=>S b∨T b) W3 (W3.putObj (D+1) (.loop (rec (if jump.isNone then .ready else .done) jump))):=
     ⟨by simp,fun b hb hs=>World.putObj_heap_other (fun e=>by subst e; rcases hs with h | h; exact hsl h; exact hTl (hD ▸ h))⟩
    refine ⟨?_,World.putObj_heap_same (Array.getElem?_eq_some_iff.1 hl3).1,(World.putObj_heap_other (by omega)).trans ((hk3.block D (by omega) (.inl (.inr (.inl rfl)))).trans hk2),(hq2.trans h4).trans h5⟩
    rw [hrec] at this ⊢
    exact this
   have pc:∀(W3:World) (o:Obj),Chg (fun b=>S b∨b=D∨b=D+1) W3 (W3.putObj (D+1) o):=fun W3 o=>(Chg.refl _ _).putObj (.inr (.inr rfl)) _
   rintro e a3 W3 hp
   cases e with
   | normal=>
    obtain ⟨hk3,hi3⟩:=hp
    obtain ⟨hr,hl4,hk4,hkk⟩:=fin none W3 hk3
    exact ⟨_,_,hr,hkk,.inl ⟨rfl,hI _ _ _ _ _ hi3 (pc W3 _) (fun b hb=>.inl hb),hsd,hsl,⟨_,hl4,rfl⟩,hk4⟩⟩
   | ret=>
    obtain ⟨hk3,hi3⟩:=hp
    obtain ⟨hr,hl4,hk4,hkk⟩:=fin (some .ret) W3 hk3
    exact ⟨_,_,hr,hkk,.inr ⟨rfl,.ret,hIx _ _ _ _ _ _ hi3 (pc W3 _) (fun b hb=>.inl hb),hsd,hsl,⟨_,hl4,rfl⟩,hk4⟩⟩
   | exit id=>
    obtain ⟨hk3,hi3⟩:=hp
    obtain ⟨hr,hl4,hk4,hkk⟩:=fin (some (.exit id)) W3 hk3
    exact ⟨_,_,hr,hkk,.inr ⟨rfl,.exit id,hIx _ _ _ _ _ _ hi3 (pc W3 _) (fun b hb=>.inl hb),hsd,hsl,⟨_,hl4,rfl⟩,hk4⟩⟩
   | goto t=>
    obtain ⟨hk3,hi3⟩:=hp
    obtain ⟨hr,hl4,hk4,hkk⟩:=fin (some (.goto t)) W3 hk3
    exact ⟨_,_,hr,hkk,.inr ⟨rfl,.goto t,hIx _ _ _ _ _ _ hi3 (pc W3 _) (fun b hb=>.inl hb),hsd,hsl,⟨_,hl4,rfl⟩,hk4⟩⟩
   | panic ch=>exact hp.elim
   | outgrown=>exact hp.elim
  ·-- behind the iterator
   rintro e W2 ⟨⟨v,rfl⟩,(⟨S,hi,hsd,hsl,⟨_,hl,rfl⟩,hk⟩ | ⟨S,pre,hpre,c,hi,hsd,hsl,⟨_,hl,rfl⟩,hk⟩)⟩
   ·refine ⟨none,_,by have:=run_endLoop (P:=P) hl (by rw [hrec]; simp); rw [hrec] at this; exact this,?_⟩
    have:=hdone _ (W2.putObj (D+1) (.loop { rec .ready none with state:=.exhausted })) (hI _ (fun b=>S b∨b=D∨b=D+1) _ _ _ hi ((Chg.refl _ _).putObj (.inr (.inr rfl)) _) (fun b hb=>.inl hb)) (.inr (.inl hD.symm)) (by rw [←hD]; exact (World.putObj_heap_other (by omega)).trans hk)
    rw [hrec,←hD] at this
    exact this
   ·refine ⟨some c,_,by have:=run_endLoop (P:=P) hl (by rw [hrec]; simp); rw [hrec] at this; exact this,?_⟩
    have:=hstop c _ pre (W2.putObj (D+1) (.loop { rec .done (some c) with state:=.exhausted })) hpre (hIx c _ (fun b=>S b∨b=D∨b=D+1) _ _ _ hi ((Chg.refl _ _).putObj (.inr (.inr rfl)) _) (fun b hb=>.inl hb)) (.inr (.inl hD.symm)) (by rw [←hD]; exact (World.putObj_heap_other (by omega)).trans hk)
    rw [hrec,←hD] at this
    exact this
end Go.Proofs.YtcoeneldaohpnaaGreat
