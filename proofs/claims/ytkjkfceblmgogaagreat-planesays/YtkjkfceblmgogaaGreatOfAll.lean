import Derived.RangeFuncNested
import Derived.RangeFuncBound
import Derived.Shelf.Abstract
import Derived.OwnWalkIn
import Derived.TacticsInMore
import Derived.LoopNIn
import Derived.LoopIn
import Derived.Test.YtkjkfceblmgogaaGreatRun1
import Derived.Stop.RegionWithIn
import Derived.Laws.EntriesVeiled
set_option maxRecDepth 100000
set_option maxHeartbeats 4000000
namespace Go.Proofs.YtkjkfceblmgogaaGreat
open Go.RowKit Go.Shelf
structure Chg(S:Nat→Prop)(W W':World):Prop where
 os:W'.os=W.os
 tape:W'.tape=W.tape
 output:W'.output=W.output
 size:W.heap.size≤W'.heap.size
 block:∀b,b < W.heap.size→¬S b→W'.heap[b]?=W.heap[b]?
theorem Chg.refl(S:Nat→Prop)(W:World):Chg S W W:=⟨rfl,rfl,rfl,Za4 _,fun _ _ _=>rfl⟩
theorem Chg.trans{S:Nat→Prop}{a b c:World}(h:Chg S a b)(k:Chg S b c):Chg S a c:=
 ⟨k.os.trans h.os,k.tape.trans h.tape,k.output.trans h.output,Zaa8 h.size k.size,fun i hi hs=>(k.block i (Nat.lt_of_lt_of_le hi h.size) hs).trans (h.block i hi hs)⟩
theorem Chg.mono{S S':Nat→Prop}{a b:World}(h:Chg S a b)(hs:∀i,i < a.heap.size→S i→S' i):Chg S' a b:=
 ⟨h.os,h.tape,h.output,h.size,fun i hi hn=>h.block i hi (fun k=>hn (hs i hi k))⟩
theorem Chg.of_below{S:Nat→Prop}{a b:World}{N:Nat}(h:Below N a b)(hN:a.heap.size≤N):Chg S a b:=
 ⟨h.os,h.tape,h.output,h.size,fun i hi _=>h.block i (by omega)⟩
theorem Chg.setCell{S:Nat→Prop}{a b:World}(h:Chg S a b){p:Addr}(hp:S p.block)(u:Value):Chg S a (b.setCell p u):=
 ⟨h.os,h.tape,h.output,by simp [World.setCell,h.size],fun i hi hn=>(Below.heap_setCell b p u i (fun e=>hn (by rw [e]; exact hp))).trans (h.block i hi hn)⟩
theorem Chg.putObj{S:Nat→Prop}{a b:World}(h:Chg S a b){l:Nat}(hp:S l)(o:Obj):Chg S a (b.putObj l o):=
 ⟨h.os,h.tape,h.output,by simp [h.size],fun i hi hn=>(World.putObj_heap_other (k:=i) (r:=l) (fun e=>hn (by rw [e]; exact hp))).trans (h.block i hi hn)⟩
theorem Chg.drew{S:Nat→Prop}{a b:World}(h:Chg S a b):Chg S a b.drew:=⟨h.os,h.tape,h.output,h.size,h.block⟩
structure Kpt(S:Nat→Prop)(W W':World):Prop where
 size:W.heap.size≤W'.heap.size
 block:∀b,b < W.heap.size→S b→W'.heap[b]?=W.heap[b]?
theorem Kpt.refl(S:Nat→Prop)(W:World):Kpt S W W:=⟨Za4 _,fun _ _ _=>rfl⟩
theorem Kpt.trans{S:Nat→Prop}{a b c:World}(h:Kpt S a b)(k:Kpt S b c):Kpt S a c:=
 ⟨Zaa8 h.size k.size,fun i hi hs=>(k.block i (Nat.lt_of_lt_of_le hi h.size) hs).trans (h.block i hi hs)⟩
theorem Kpt.mono{S S':Nat→Prop}{a b:World}(h:Kpt S a b)(hs:∀i,i < a.heap.size→S' i→S i):Kpt S' a b:=
 ⟨h.size,fun i hi hn=>h.block i hi (hs i hi hn)⟩
theorem Kpt.of_chg{S S':Nat→Prop}{a b:World}(h:Chg S a b)(hs:∀i,i < a.heap.size→S' i→¬S i):Kpt S' a b:=
 ⟨h.size,fun i hi hn=>h.block i hi (hs i hi hn)⟩
theorem Kpt.of_below{S:Nat→Prop}{a b:World}{N:Nat}(h:Below N a b)(hN:a.heap.size≤N):Kpt S a b:=
 ⟨h.size,fun i hi _=>h.block i (by omega)⟩
def ZFs{α:Type}(J:(Nat→Prop)→List α→World→Prop):Prop:=
 ∀S S' pre W W',J S pre W→Chg S W W'→(∀b,S' b→S b∨W.heap.size≤b)→J S' pre W'
def ZPF{α:Type}(P:Program)(g:Nat)(lb:Array Value)(R:World→(Nat→Prop)→α→Array Value→Prop)(cs:List α)(T S0:Nat→Prop)(w0:World):Prop:=
 ∀(l:Nat) (J Jx:(Nat→Prop)→List α→World→Prop) (W:World),Below w0.heap.size w0 W→ZFs J→ZFs Jx→
  (∀m S pre x vs W1,J S pre W1→(pre ++ [x]) <+: cs→R W1 S x vs→YieldAt Fence.wide m P l vs W1 fun e W'=>Kpt (fun b=>S b∨T b) W1 W'∧
   ((e=.returned (.bool true)∧J S (pre ++ [x]) W')∨(e=.returned (.bool false)∧Jx S (pre ++ [x]) W')))→
  J S0 [] W→
  CallsIn Fence.wide 0 P g (#[.func (.yield l) #[] #[]] ++ lb) W fun e W'=>(∃v,e=.returned v)∧((∃S,J S cs W')∨(∃S pre,pre <+: cs∧Jx S pre W'))
theorem ZJd(k:Nat):Fence.wide.room k:=fun d h=>by cases h
theorem ZEJ{m m':Nat}{P:Program}{l:Nat}{f:FuncId}{tmps:Array Value}{assign body:Code}{w:World}{R:Ending→World→Prop}
 (h:RoundIn Fence.wide m P l f tmps assign body w R):RoundIn Fence.wide m' P l f tmps assign body w R:=⟨h.1,fun c cs _=>h.2 c cs (ZJd _)⟩
theorem ZEK{m m':Nat}{P:Program}{f:FuncId}{args:Array Value}{w:World}{R:Ending→World→Prop}
 (h:CallsIn Fence.wide m P f args w R):CallsIn Fence.wide m' P f args w R:=callsIn_wide.2 (callsIn_wide.1 h)
def ZQf{α:Type}(K:World→World→Prop)(I:List α→World→Prop)(Ix:Code→List α→World→Prop)(xs:List α)(W:World):Exit→Act→World→Prop
 | .normal,_,W'=>K W W'∧I xs W'
 | .ret,_,W'=>K W W'∧Ix .ret xs W'
 | .exit id,_,W'=>K W W'∧Ix (.exit id) xs W'
 | .goto t,_,W'=>K W W'∧Ix (.goto t) xs W'
 | .panic _,_,_=>False
 | .outgrown,_,_=>False
theorem ZDW{α:Type}{P:Program}{n:Nat}{g:Operand}{ps:Array Tmp}{assign body:Code}{Q:Exit→Act→World→Prop}{a:Act}{w:World}
 {gf:Nat}{lb:Array Value}(hg:a.eval g=.func (.func gf) #[] lb)(eg:∀args w,(callFunc gf args).run P w=.ok (.enter gf args) w)
 {R:World→(Nat→Prop)→α→Array Value→Prop}{cs:List α}{T S0:Nat→Prop}(hseq:ZPF P gf lb R cs T S0 w)(hS0:∀b,S0 b→b < w.heap.size)
 (hps:∀W S x vs,R W S x vs→vs.size=ps.size)
 (hR1:∀W S x vs W',R W S x vs→Below W.heap.size W W'→R W' S x vs)
 (hR2:∀W S x vs l r o,R W S x vs→W.heap[l]?=some (.loop r)→R (W.putObj l o) S x vs)
 (I:(Nat→Prop)→List α→World→Prop)(Ix:Code→(Nat→Prop)→List α→World→Prop)(hI:ZFs I)(hIx:∀c,ZFs (Ix c))(h0:I S0 [] w)
 (Ax:Array Value→Act→World→Prop)(hAx:∀vs a' W l r o,Ax vs a' W→W.heap[l]?=some (.loop r)→Ax vs a' (W.putObj l o))
 (hassign:∀(S:Nat→Prop) (x:α) (vs:Array Value) (W:World) (K:Act→World→Prop),R W S x vs→(∀a' W',Below W.heap.size W W'→Ax vs a' W'→K a' W')→
   assign.wpIn (Fence.wide.inRound (w.heap.size+1)) (n-1-1) P (Exit.then K (fun _ _ _=>False)) { tmps:=(ps.zip vs).foldl (fun t (p,v)=>t.setIfInBounds p v) a.tmps,defers:=[] } W)
 (hbody:∀(S:Nat→Prop) (pre:List α) (x:α) (vs:Array Value) (a':Act) (W:World),I S pre W→S w.heap.size→S (w.heap.size+1)→w.heap.size+1 < W.heap.size→W.heap[w.heap.size]?=some (.deferred (some []))→(∃r,W.heap[w.heap.size+1]?=some (.loop r))→(pre ++ [x]) <+: cs→(∃S1,R W S1 x vs∧∀b,S b↔(S1 b∨b=w.heap.size∨b=w.heap.size+1))→Ax vs a' W→
   body.wpIn (Fence.wide.inRound (w.heap.size+1)) (n-1-1) P (ZQf (Kpt fun b=>S b∨T b) (I S) (fun c=>Ix c S) (pre ++ [x]) W) a' W)
 (hTl:¬T (w.heap.size+1))
 (hdone:∀(S:Nat→Prop) (W:World),I S cs W→S w.heap.size→W.heap[w.heap.size]?=some (.deferred (some []))→Q .normal { a with defers:={ target:=.collected w.heap.size,args:=#[] } :: a.defers } W)
 (hstop:∀(c:Code) (S:Nat→Prop) (pre:List α) (W:World),pre <+: cs→Ix c S pre W→S w.heap.size→W.heap[w.heap.size]?=some (.deferred (some []))→c.wpIn Fence.wide n P Q { a with defers:={ target:=.collected w.heap.size,args:=#[] } :: a.defers } W) :
  (Code.rangeFunc g ps assign body).wpIn Fence.wide n P Q a w:=by
 refine wpIn_rangeFunc ?_;intro fn aC
 obtain ⟨D,z⟩:∃D,D=w.heap.size:=⟨_,rfl⟩
 obtain ⟨rec,d⟩:∃rec:LoopState→Option Code→Loop,rec=fun st pe=>{ state:=st,pending:=pe,fn,tmps:=a.tmps,params:=ps,assign,body,defers:=D }:=⟨_,rfl⟩
 obtain ⟨L,Y⟩:∃L,(w.alloc (.deferred (some []))).alloc (.loop (rec .ready none))=L:=⟨_,rfl⟩
 have aF:L.heap[D+1]?=some (.loop (rec .ready none)):=by
  rw [←Y,z]; have:=World.alloc_heap_new (w.alloc (.deferred (some []))) (.loop (rec .ready none)); rwa [World.size_alloc] at this
 have aw:L.heap[D]?=some (.deferred (some [])):=by
  rw [←Y,z]; exact (Below.heap_alloc _ _ _ (by simp)).trans (World.alloc_heap_new w _)
 have ag:Below w.heap.size w L:=by
  rw [←Y]; exact ((Below.refl _ w).alloc (Za4 _) _).alloc (by simp) _
 have ar:I (fun b=>S0 b∨b=D∨b=D+1) [] L:=hI S0 _ [] w L h0 (Chg.of_below ag (Za4 _)) (fun b hb=>by
  rcases hb with hb | hb | hb
  ·exact .inl hb
  ·exact .inr (by omega)
  ·exact .inr (by omega))
 have aq:¬S0 D∧¬S0 (D+1):=⟨fun h=>by have:=hS0 _ h; omega,fun h=>by have:=hS0 _ h; omega⟩
 refine ⟨D+1,[{ target:=.collected D,args:=#[] }],L,{ target:=.fn (.func gf) lb,args:=#[.func (.yield (D+1)) #[] #[]] },L,gf,
  #[.func (.yield (D+1)) #[] #[]] ++ lb,L,?_,?_,?_,?_,fun h=>(by cases h),?_⟩
 ·rw [←Y,d,z]; exact run_enterLoop_outer _ _ _ _ _
 ·simp only [resolve,hg]
  simp [go_sem]
 ·intro f' aG; trivial
 ·simp [invoke,go_sem,eg]
 ·have ah:∀(X:(Nat→Prop)→List α→World→Prop),ZFs X→∀(p:Obj→Prop),ZFs (fun S pre (W:World)=>X (fun b=>S b∨b=D∨b=D+1) pre W∧¬S D∧¬S (D+1)∧(∃o,W.heap[D+1]?=some o∧p o)∧W.heap[D]?=some (Obj.deferred (some []))):=by
   rintro X hX p S S' pre W W' ⟨hi,y,f,⟨o,N,ho⟩,hk⟩ hc U;have V:=(Zaa3.1 N).1
   refine ⟨hX _ _ pre W W' hi (hc.mono (fun i _ h=>.inl h)) (fun b hb=>?_),fun h=>?_,fun h=>?_,⟨o,(hc.block _ V f).trans N,ho⟩,(hc.block _ (by omega) y).trans hk⟩
   ·rcases hb with hb | hb
    ·rcases U b hb with h | h
     ·exact .inl (.inl h)
     ·exact .inr h
    ·exact .inl (.inr hb)
   ·rcases U _ h with h | h
    ·exact y h
    ·omega
   ·rcases U _ h with h | h
    ·exact f h
    ·omega
  refine (ZEK (m':=n-1) (hseq (D+1)
   (fun S pre (W:World)=>I (fun b=>S b∨b=D∨b=D+1) pre W∧¬S D∧¬S (D+1)∧(∃o,W.heap[D+1]?=some o∧o=Obj.loop (rec .ready none))∧W.heap[D]?=some (Obj.deferred (some [])))
   (fun S pre (W:World)=>∃c,Ix c (fun b=>S b∨b=D∨b=D+1) pre W∧¬S D∧¬S (D+1)∧(∃o,W.heap[D+1]?=some o∧o=Obj.loop (rec .done (some c)))∧W.heap[D]?=some (Obj.deferred (some [])))
   L ag (ah I hI _) (fun S S' pre W W' ⟨c,h⟩ hc U=>⟨c,ah (Ix c) (hIx c) _ S S' pre W W' h hc U⟩) ?_ ⟨ar,aq.1,aq.2,⟨_,aF,rfl⟩,aw⟩)).mono ?_
  ·-- one round
   rintro m S pre x vs W ⟨hi,y,f,⟨_,N,rfl⟩,hk⟩ M hR;have V:D+1 < W.heap.size:=(Zaa3.1 N).1
   have hy:=run_yield (P:=P) (args:=vs) N (by rw [d]; exact hps _ _ _ _ hR)
   rw [d] at hy;refine ⟨fn,_,assign,body,hy,ZEJ (m:=n-1-1) (roundIn_of_wpIn aC ?_)⟩
   have aa:=hassign S x vs W (fun a₁' w₁=>∃w₂,(Instr.beginRound (w.heap.size+1)).run P w₁=.ok () w₂∧body.wpIn (Fence.wide.inRound (w.heap.size+1)) (n-1-1) P (roundPost P (w.heap.size+1) fun e W'=>Kpt (fun b=>S b∨T b) W W'∧
    ((e=.returned (.bool true)∧(I (fun b=>S b∨b=D∨b=D+1) (pre ++ [x]) W'∧¬S D∧¬S (D+1)∧(∃o,W'.heap[D+1]?=some o∧o=Obj.loop (rec .ready none))∧W'.heap[D]?=some (.deferred (some []))))∨
    (e=.returned (.bool false)∧∃c,Ix c (fun b=>S b∨b=D∨b=D+1) (pre ++ [x]) W'∧¬S D∧¬S (D+1)∧(∃o,W'.heap[D+1]?=some o∧o=Obj.loop (rec .done (some c)))∧W'.heap[D]?=some (.deferred (some []))))) a₁' w₂) hR
   rw [←z] at aa;refine aa ?_;clear aa hy;intro a' Wq J aA
   have aB:=hI _ (fun b=>S b∨b=D∨b=D+1) pre W Wq hi (Chg.of_below J (Za4 _)) (fun b hb=>.inl hb)
   have ae:=(J.block _ V).trans N
   have ay:=(J.block D (by omega)).trans hk
   have az:=hR1 _ _ _ _ _ hR J;have am:D+1 < Wq.heap.size:=Nat.lt_of_lt_of_le V J.size
   refine ⟨_,run_beginRound ae (by rw [d]),?_⟩
   obtain ⟨Wb,E⟩:∃Wb,Wq.putObj (D+1) (.loop { rec .ready none with state:=.busy })=Wb:=⟨_,rfl⟩
   rw [E]
   have aj:Wb.heap[D+1]?=some (.loop { rec .ready none with state:=.busy }):=by rw [←E]; exact World.putObj_heap_same am
   have ai:Wb.heap[D]?=some (.deferred (some [])):=by rw [←E]; exact (World.putObj_heap_other (by omega)).trans ay
   have af:Chg (fun b=>S b∨b=D∨b=D+1) Wq Wb:=by rw [←E]; exact (Chg.refl _ _).putObj (.inr (.inr rfl)) _
   have aD:Kpt (fun b=>S b∨T b) W Wb:=by
    refine (Kpt.of_below J (Za4 _)).trans ?_;rw [←E]
    exact ⟨by simp,fun b hb U=>World.putObj_heap_other (fun e=>by subst e; rcases U with h | h; exact f h; exact hTl (z ▸ h))⟩
   have aE:=hI _ (fun b=>S b∨b=D∨b=D+1) pre Wq Wb aB af (fun b hb=>.inl hb)
   have ak:=hbody (fun b=>S b∨b=D∨b=D+1) pre x vs a' Wb aE (.inr (.inl z.symm)) (.inr (.inr (by rw [z]))) (by have:=af.size; omega) (z ▸ ai) (z ▸ ⟨_,aj⟩) M ⟨S,by rw [←E]; exact hR2 _ _ _ _ _ _ _ az ae,fun b=>by rw [z]⟩ (by rw [←E]; exact hAx _ _ _ _ _ _ aA ae)
   rw [←z] at ak;refine wpIn_mono ak ?_
   have O:∀(jump:Option Code) (j:World),Kpt (fun b=>(S b∨b=D∨b=D+1)∨T b) Wb j→
     (Instr.endRound (D+1) jump).run P j=.ok (.bool jump.isNone) (j.putObj (D+1) (.loop (rec (if jump.isNone then .ready else .done) jump)))∧
     (j.putObj (D+1) (.loop (rec (if jump.isNone then .ready else .done) jump))).heap[D+1]?=some (.loop (rec (if jump.isNone then .ready else .done) jump))∧
     (j.putObj (D+1) (.loop (rec (if jump.isNone then .ready else .done) jump))).heap[D]?=some (.deferred (some []))∧
     Kpt (fun b=>S b∨T b) W (j.putObj (D+1) (.loop (rec (if jump.isNone then .ready else .done) jump))):=fun jump j s=>by
    have au:D+1 < Wb.heap.size:=by have:=af.size; omega
    have an:=(s.block (D+1) au (.inl (.inr (.inr rfl)))).trans aj;have:=run_endRound (P:=P) jump an
    have h4:Kpt (fun b=>S b∨T b) Wb j:=s.mono (fun i _ h=>h.elim (fun h=>.inl (.inl h)) .inr)
    have h5:Kpt (fun b=>S b∨T b) j (j.putObj (D+1) (.loop (rec (if jump.isNone then .ready else .done) jump))):=
     ⟨by simp,fun b hb U=>World.putObj_heap_other (fun e=>by subst e; rcases U with h | h; exact f h; exact hTl (z ▸ h))⟩
    refine ⟨?_,World.putObj_heap_same (Zaa3.1 an).1,(World.putObj_heap_other (by omega)).trans ((s.block D (by omega) (.inl (.inr (.inl rfl)))).trans ai),(aD.trans h4).trans h5⟩
    rw [d] at this ⊢;exact this
   have pc:∀(j:World) (o:Obj),Chg (fun b=>S b∨b=D∨b=D+1) j (j.putObj (D+1) o):=fun j o=>(Chg.refl _ _).putObj (.inr (.inr rfl)) _
   rintro e a3 j hp
   cases e with
   | normal=>
    obtain ⟨s,B⟩:=hp;obtain ⟨hr,F,G,A⟩:=O none j s
    exact ⟨_,_,hr,A,.inl ⟨rfl,hI _ _ _ _ _ B (pc j _) (fun b hb=>.inl hb),y,f,⟨_,F,rfl⟩,G⟩⟩
   | ret=>
    obtain ⟨s,B⟩:=hp;obtain ⟨hr,F,G,A⟩:=O (some .ret) j s
    exact ⟨_,_,hr,A,.inr ⟨rfl,.ret,hIx _ _ _ _ _ _ B (pc j _) (fun b hb=>.inl hb),y,f,⟨_,F,rfl⟩,G⟩⟩
   | exit id=>
    obtain ⟨s,B⟩:=hp;obtain ⟨hr,F,G,A⟩:=O (some (.exit id)) j s
    exact ⟨_,_,hr,A,.inr ⟨rfl,.exit id,hIx _ _ _ _ _ _ B (pc j _) (fun b hb=>.inl hb),y,f,⟨_,F,rfl⟩,G⟩⟩
   | goto t=>
    obtain ⟨s,B⟩:=hp;obtain ⟨hr,F,G,A⟩:=O (some (.goto t)) j s
    exact ⟨_,_,hr,A,.inr ⟨rfl,.goto t,hIx _ _ _ _ _ _ B (pc j _) (fun b hb=>.inl hb),y,f,⟨_,F,rfl⟩,G⟩⟩
   | panic ch=>exact hp.elim
   | outgrown=>exact hp.elim
  ·-- behind the iterator
   rintro e W2 ⟨⟨v,rfl⟩,(⟨S,hi,y,f,⟨_,N,rfl⟩,hk⟩ | ⟨S,pre,M,c,hi,y,f,⟨_,N,rfl⟩,hk⟩)⟩
   ·refine ⟨none,_,by have:=run_endLoop (P:=P) N (by rw [d]; simp); rw [d] at this; exact this,?_⟩
    have:=hdone _ (W2.putObj (D+1) (.loop { rec .ready none with state:=.exhausted })) (hI _ (fun b=>S b∨b=D∨b=D+1) _ _ _ hi ((Chg.refl _ _).putObj (.inr (.inr rfl)) _) (fun b hb=>.inl hb)) (.inr (.inl z.symm)) (by rw [←z]; exact (World.putObj_heap_other (by omega)).trans hk)
    rw [d,←z] at this;exact this
   ·refine ⟨some c,_,by have:=run_endLoop (P:=P) N (by rw [d]; simp); rw [d] at this; exact this,?_⟩
    have:=hstop c _ pre (W2.putObj (D+1) (.loop { rec .done (some c) with state:=.exhausted })) M (hIx c _ (fun b=>S b∨b=D∨b=D+1) _ _ _ hi ((Chg.refl _ _).putObj (.inr (.inr rfl)) _) (fun b hb=>.inl hb)) (.inr (.inl z.symm)) (by rw [←z]; exact (World.putObj_heap_other (by omega)).trans hk)
    rw [d,←z] at this;exact this
def mks(rs:List Nat):List Deferred:=rs.map fun r=>{ target:=.collected r,args:=#[] }
theorem ZAq{P:Program}{n:Nat}{fn:Func}{tmps:Array Value}{R:Ending→World→Prop} : ∀(rs:List Nat) (w:World),rs.Nodup→(∀r∈rs,w.heap[r]?=some (.deferred (some [])))→
  (∀w',Chg (fun b=>b∈rs) w w'→∃v,(results fn tmps).run P w'=.ok v w'∧R (.returned v) w')→LeavesInM Fence.wide n P fn tmps R (mks rs) .returning w
 | [],w,_,_,h=>h w (Chg.refl _ _)
 | r :: rs,w,hn,hm,h=>by
  have hr:=hm r (by simp)
  rw [List.nodup_cons] at hn
  refine ⟨by simp,.inl ⟨r,_,rfl,run_takeDeferred hr,ZAq rs _ hn.2 (fun q hq=>?_) (fun w' hc=>h w' ?_)⟩⟩
  ·have hne:q≠r:=fun e=>hn.1 (by rw [←e]; exact hq)
   exact (World.putObj_heap_other (k:=q) (r:=r) hne).trans (hm q (by simp [hq]))
  ·exact ((Chg.refl _ w).putObj (List.mem_cons_self ..) _).trans (hc.mono (fun i _ hi=>List.mem_cons_of_mem _ hi))
end Go.Proofs.YtkjkfceblmgogaaGreat
namespace Go.Proofs.YtkjkfceblmgogaaGreat
def ext(n:Nat):Nat→Nat→List (List Int)
 | 0,_=>[[]]
 | k+1,fr=>(List.range' fr (n-fr)).flatMap fun i=>(ext n k (i+1)).map ((i:Int) :: ·)
theorem ZIn{n k fr:Nat}(h:fr < n):ext n (k+1) fr=(ext n k (fr+1)).map ((fr:Int) :: ·) ++ ext n (k+1) (fr+1):=by
 obtain ⟨d,a⟩:∃d,n-fr=d+1:=⟨n-fr-1,by omega⟩
 simp only [ext]
 rw [a,List.range'_succ,show n-(fr+1)=d by omega]
 simp
theorem ZFt{n k fr:Nat}(h:n≤fr):ext n (k+1) fr=[]:=by
 simp [ext,show n-fr=0 by omega]
def chz{α:Type} : Nat→List α→List (List α)
 | 0,_=>[[]]
 | _+1,[]=>[]
 | k+1,x :: xs=>((chz k xs).map (x :: ·)) ++ chz (k+1) xs
def pks{α:Type}(L:List α)(d:α)(c:List Int):List α:=c.map fun i=>L.getD i.toNat d
theorem ZKg{α:Type}(L:List α)(d:α){fr:Nat}(h:fr < L.length):L.drop fr=L.getD fr d :: L.drop (fr+1):=by
 rw [List.drop_eq_getElem_cons h]; simp [h]
theorem ZCM{α:Type}(L:List α)(d:α):∀k fr,(ext L.length k fr).map (pks L d)=chz k (L.drop fr):=by
 intro k
 induction k with
 | zero=>intro fr; simp [ext,chz,pks]
 | succ k ih=>
  suffices h:∀m fr,L.length≤fr+m→(ext L.length (k+1) fr).map (pks L d)=chz (k+1) (L.drop fr) from fun fr=>h L.length fr (by omega)
  intro m
  induction m with
  | zero=>intro fr h; rw [ZFt (by omega),List.drop_of_length_le (by omega)]; simp [chz]
  | succ m ihm=>
   intro fr h
   by_cases hlt:fr < L.length
   ·rw [ZIn hlt,ZKg L d hlt]
    simp only [chz,List.map_append]
    rw [ihm (fr+1) (by omega),←ih (fr+1)]
    simp [pks,Function.comp_def]
   ·rw [ZFt (by omega),List.drop_of_length_le (by omega)]; simp [chz]
theorem ZBp{α:Type} : ∀{k:Nat} {l t:List α},t∈chz k l↔t.Sublist l∧t.length=k
 | 0,l,t=>by
  simp only [chz,List.mem_singleton]
  exact ⟨fun h=>by subst h; simp,fun h=>List.eq_nil_of_length_eq_zero h.2⟩
 | k+1,[],t=>by
  simp only [chz,List.not_mem_nil,false_iff];rintro ⟨h,hl⟩;have:=h.length_le;simp at this;subst this;simp at hl
 | k+1,x :: xs,t=>by
  simp only [chz,List.mem_append,List.mem_map]
  constructor
  ·rintro (⟨a,ha,rfl⟩ | h)
   ·have:=ZBp.1 ha; exact ⟨this.1.cons_cons x,by simp [this.2]⟩
   ·have:=ZBp.1 h; exact ⟨this.1.cons x,this.2⟩
  ·rintro ⟨h,hl⟩
   cases h with
   | cons _ h=>exact .inr (ZBp.2 ⟨h,hl⟩)
   | cons_cons _ h=>exact .inl ⟨_,ZBp.2 ⟨h,by simpa using hl⟩,rfl⟩
theorem ZBk:∀{n k fr:Nat} {c:List Int},c∈ext n k fr→c.length=k∧(∀i,i < k→(fr:Int)≤c.getD i 0∧c.getD i 0 < n)∧∀i j,i < j→j < k→c.getD i 0 < c.getD j 0
 | n,0,fr,c,h=>by
  simp only [ext,List.mem_singleton] at h;subst h
  exact ⟨rfl,fun i hi=>by omega,fun i j _ hj=>by omega⟩
 | n,k+1,fr,c,h=>by
  simp only [ext,List.mem_flatMap,List.mem_map,List.mem_range'_1] at h;obtain ⟨v,hv,l,hl,rfl⟩:=h;obtain ⟨h1,h2,h3⟩:=ZBk hl
  refine ⟨by simp [h1],fun i hi=>?_,fun i j hij hj=>?_⟩
  ·cases i with
   | zero=>simp; omega
   | succ i=>have:=h2 i (by omega); simp only [List.getD_cons_succ]; omega
  ·cases j with
   | zero=>omega
   | succ j=>
    cases i with
    | zero=>have:=h2 j (by omega); simp only [List.getD_cons_zero,List.getD_cons_succ]; omega
    | succ i=>have:=h3 i j (by omega) (by omega); simpa only [List.getD_cons_succ] using this
theorem ZM9{α:Type}{A B:List (List α)}(h:A.Sublist B):A.flatten.Sublist B.flatten:=by
 induction h with
 | slnil=>exact List.Sublist.refl _
 | cons x _ ih=>simp only [List.flatten_cons]; exact ih.trans (List.sublist_append_right _ _)
 | cons_cons x _ ih=>simp only [List.flatten_cons]; exact (List.Sublist.refl x).append ih
theorem few{α:Type} : ∀(L:List (List α)) (t:List α) (m:Nat),t.Sublist L.flatten→t.length≤m→∃A:List (List α),A.Sublist L∧A.length≤m∧t.Sublist A.flatten
 | [],t,m,h,_=>⟨[],List.Sublist.refl _,by simp,h⟩
 | x :: xs,t,m,h,hm=>by
  rw [List.flatten_cons] at h;obtain ⟨a,b,rfl,ha,hb⟩:=List.sublist_append_iff.1 h
  by_cases ea:a=[]
  ·subst ea
   obtain ⟨A,h1,h2,h3⟩:=few xs b m hb (by simpa using hm)
   exact ⟨A,h1.cons x,h2,by simpa using h3⟩
  ·have:0 < a.length:=List.length_pos_iff.2 ea
   simp only [Zaa4] at hm
   obtain ⟨A,h1,h2,h3⟩:=few xs b (m-1) hb (by omega)
   exact ⟨x :: A,h1.cons_cons x,by simp; omega,by rw [List.flatten_cons]; exact ha.append h3⟩
theorem grow{α:Type}{A B:List α}(h:A.Sublist B):∀m,A.length≤m→m≤B.length→∃C:List α,A.Sublist C∧C.Sublist B∧C.length=m:=by
 induction h with
 | slnil=>intro m b a; exact ⟨[],List.Sublist.refl _,List.Sublist.refl _,by simp at a; simp [a]⟩
 | @cons A B x h ih=>
  intro m b a
  by_cases e:m≤B.length
  ·obtain ⟨C,d,c,f⟩:=ih m b e
   exact ⟨C,d,c.cons x,f⟩
  ·exact ⟨x :: B,h.cons x,List.Sublist.refl _,by simp at a ⊢; omega⟩
 | @cons_cons A B x h ih=>
  intro m b a;simp only [List.length_cons] at b a
  obtain ⟨C,d,c,f⟩:=ih (m-1) (by omega) (by omega)
  exact ⟨x :: C,d.cons_cons x,c.cons_cons x,by simp; omega⟩
theorem ZR1{α:Type}(L:List (List α))(h3:3≤L.length)(t:List α)(ht:t.Sublist L.flatten)(hl:t.length≤3) :
  ∃c∈ext L.length 3 0,t.Sublist (pks L [] c).flatten:=by
 obtain ⟨A,m,l,g⟩:=few L t 3 ht hl;obtain ⟨C,i,f,d⟩:=grow m 3 l h3;have b:C∈chz 3 L:=ZBp.2 ⟨f,d⟩;have a:=ZCM L [] 3 0;rw [List.drop_zero] at a;rw [←a] at b;obtain ⟨c,j,rfl⟩:=List.mem_map.1 b;exact ⟨c,j,g.trans (ZM9 i)⟩
end Go.Proofs.YtkjkfceblmgogaaGreat
namespace Go.Proofs.YtkjkfceblmgogaaGreat
open Go.RowKit Go.Shelf
attribute [local go_sem] Oper.semAt_some
def ZJe(N0:Nat)(W:World)(S:Nat→Prop)(x:List Int)(vs:Array Value):Prop:=
 ∃v B0,vs=#[v]∧W.ownsRow B0 3 1 v x.length (ZAB x)∧(∀b,S b→b < B0)∧N0≤B0∧B0≤W.heap.size
structure Ox(W:World)(l n many bm by' bc bn bf ba:Nat):Prop where
 cm:W.cell? ⟨bm,0,none⟩=some (.int .i64 many)
 cy:W.cell? ⟨by',0,none⟩=some (.func (.yield l) #[] #[])
 cc:W.cell? ⟨bc,0,none⟩=some (.slice (some ⟨ba,0,none⟩) many many)
 cn:W.cell? ⟨bn,0,none⟩=some (.int .i64 n)
 cf:W.cell? ⟨bf,0,none⟩=some (.func (.func 82) #[] #[.pointer (some ⟨bm,0,none⟩),.pointer (some ⟨by',0,none⟩),.pointer (some ⟨bc,0,none⟩),.pointer (some ⟨bn,0,none⟩),.pointer (some ⟨bf,0,none⟩)])
theorem ZAn{w:World}{b:Nat}{v:Value}(h:w.cell? ⟨b,0,none⟩=some v):b < w.heap.size:=World.block_lt_of_cell? w ⟨b,0,none⟩ h
theorem Ox.move{W W' : World}{l n many bm by' bc bn bf ba : Nat}(h : Ox W l n many bm by' bc bn bf ba)
 (hk : ∀ b, b = bm ∨ b = by' ∨ b = bc ∨ b = bn ∨ b = bf → b < W.heap.size → W'.heap[b]? = W.heap[b]?) : Ox W' l n many bm by' bc bn bf ba :=
  ⟨(World.cell?_of_block (w := W) (hk bm (.inl rfl) (ZAn h.cm))).trans h.cm,
   (World.cell?_of_block (w := W) (hk by' (.inr (.inl rfl)) (ZAn h.cy))).trans h.cy,
   (World.cell?_of_block (w := W) (hk bc (.inr (.inr (.inl rfl))) (ZAn h.cc))).trans h.cc,
   (World.cell?_of_block (w := W) (hk bn (.inr (.inr (.inr (.inl rfl)))) (ZAn h.cn))).trans h.cn,
   (World.cell?_of_block (w := W) (hk bf (.inr (.inr (.inr (.inr rfl)))) (ZAn h.cf))).trans h.cf⟩
theorem Sl.row'{B b n:Nat}{t:TypeId}{w:World}{f:Nat→Value}(h:w.rowIs b t n f)(hn:n≤maxLen){xs:List Value}(hx:xs.length=n)(hf:∀i,i < n→xs[i]?=some (f i)):Sl B t w (.slice (some ⟨b,0,none⟩) n n) xs:=by
 refine ⟨some ⟨b,0,none⟩,n,by rw [hx],by omega,hn,fun i hi=>⟨b,0,rfl,?_,?_⟩,fun h=>by cases h⟩
 ·have:=h.cell (i:=i) (by omega)
  simp only [Nat.zero_add]
  rw [this,hf i (by omega)]
 ·obtain ⟨c,a,_⟩:=h
  exact Or.inr ⟨c,a⟩
structure Bxo(S:Nat→Prop)(bm by' bc bn bf ba:Nat):Prop where
 m:S bm
 y:S by'
 c:S bc
 n:S bn
 f:S bf
 a:S ba
 ne:∀b,b=bm∨b=by'∨b=bc∨b=bn∨b=bf→b≠ba
theorem Bxo.of{S:Nat→Prop}{bm by' bc bn bf ba:Nat}(h:Bxo S bm by' bc bn bf ba){b:Nat}(hb:b=bm∨b=by'∨b=bc∨b=bn∨b=bf):S b:=by
 rcases hb with rfl | rfl | rfl | rfl | rfl
 ·exact h.m
 ·exact h.y
 ·exact h.c
 ·exact h.n
 ·exact h.f
def ZDv(k:Nat):Prop:=∀(N0 l n many bm by' bc bn bf ba:Nat) (S T:Nat→Prop) (J Jx:(Nat→Prop)→List (List Int)→World→Prop) (cs:List (List Int)),ZFs J→Bxo S bm by' bc bn bf ba→many≤8→n≤1000→N0≤ba→
 (∀m S pre x vs W1,J S pre W1→(pre ++ [x]) <+: cs→ZJe N0 W1 S x vs→YieldAt Fence.wide m Tryz.prog l vs W1 fun e W'=>Kpt (fun b=>S b∨T b) W1 W'∧
   ((e=.returned (.bool true)∧J S (pre ++ [x]) W')∨(e=.returned (.bool false)∧Jx S (pre ++ [x]) W')))→
 ∀(ix:List Int) (fr:Nat) (pre:List (List Int)) (f:Nat→Value) (W:World),ix.length+k=many→fr≤n→Ox W l n many bm by' bc bn bf ba→W.rowIs ba 3 many f→(∀j,j < ix.length→f j=.int .i64 (ix.getD j 0))→
  (∀b,S b→b < W.heap.size)→J S pre W→(pre ++ (ext n k fr).map (ix ++ ·)) <+: cs→
  CallsIn Fence.wide 0 Tryz.prog 82 #[.int .i64 ix.length,.int .i64 fr,.pointer (some ⟨bm,0,none⟩),.pointer (some ⟨by',0,none⟩),.pointer (some ⟨bc,0,none⟩),.pointer (some ⟨bn,0,none⟩),.pointer (some ⟨bf,0,none⟩)] W fun e W'=>
   (e=.returned (.bool true)∧J S (pre ++ (ext n k fr).map (ix ++ ·)) W'∧Ox W' l n many bm by' bc bn bf ba∧W.heap.size≤W'.heap.size∧∃f',W'.rowIs ba 3 many f'∧∀j,j < ix.length→f' j=f j)∨
   (e=.returned (.bool false)∧∃q,q <+: cs∧Jx S q W')
theorem ZKh:ZDv 0:=by
 intro N0 l n B bm E bc bn bf G S T J Jx cs A x ah hn ag V d fr j f W hk ae D r hf t hJ g
 have U:d.length=B:=by omega
 subst U
 have v:(ext n 0 fr).map (d ++ ·)=[d]:=by simp [ext]
 rw [v] at g ⊢;have c1:=D.cm;have X:=D.cy;have c3:=D.cc
 have HV:Hid (Sl 0 3 W.drew (.slice (some ⟨G,0,none⟩) d.length d.length) (ZAB d)):=Sl.row' r (by unfold maxLen; omega) (by simp) (fun i hi=>by rw [hf i hi,ZAZ d i hi])
 have P:Hid (Calls Tryz.prog 83 #[.slice (some ⟨G,0,none⟩) d.length d.length] W.drew fun e w'=>∃u,e=.returned u∧w'.ownsRow W.heap.size 3 1 u d.length (ZAB d)∧Below W.heap.size W.drew w'):=ZC3 0 d _ W.drew HV.out (by omega)
 have R:Hid (∀u m,m.ownsRow W.heap.size 3 1 u d.length (ZAB d)→Below W.heap.size W.drew m→YieldAt Fence.wide 0 Tryz.prog l #[u] m fun e s=>
   ∃b,e=.returned (.bool b)∧((b=true∧J S (j ++ [d]) s∧Kpt (fun b=>S b∨T b) m s∧Below W.heap.size W.drew m)∨(b=false∧Jx S (j ++ [d]) s))):=fun u m M o=>
  YieldAt.mono (V 0 S j d #[u] m (A S S j W m hJ (Chg.of_below (a:=W) (N:=W.heap.size) ⟨o.os,o.tape,o.output,o.size,o.block⟩ (Za4 _)) (fun b hb=>.inl hb)) g ⟨u,W.heap.size,rfl,M,t,by have:=t G x.a; omega,o.size⟩) fun e s h=>h.2.elim (fun ⟨a,b⟩=>⟨true,a,.inl ⟨rfl,b,h.1,o⟩⟩) (fun ⟨a,b⟩=>⟨false,a,.inr ⟨rfl,b⟩⟩)
 have HO:=hid D;have HR:=hid r;have Q:=hid t;have y:=hid x;have z:=hid g;have O:Hid (E < W.heap.size):=ZAn X;clear A V D r hf t hJ g x v;refine callsIn_of_wp Tryz.func82 rfl trivial ?_ rfl;simp only [Tryz.ntmps82,List.size_toArray,List.length_cons,List.length_nil,Nat.reduceAdd,Nat.reduceSub,Array.replicate_succ,Array.replicate_zero,List.push_toArray,List.append_toArray,List.nil_append,List.cons_append]
 gi_wp2_with fail
 gi_region_with (first | (refine ⟨trivial,rfl,?_⟩; gi_at_call 83; refine (callsIn_wide.2 P.out).mono ?_; rintro e m ⟨u,rfl,M,o⟩; have af:=(o.cell (p:=⟨E,0,none⟩) O.out).trans X; obtain ⟨fn,Y,L,aa,hy,hR⟩:=R.out u m M o; clear M o) | (refine ⟨rfl,?_⟩; refine hR.mono ?_; clear hR hy; rintro e s ⟨b,rfl,hP⟩; have HP:Hid ((b=true∧J S (j ++ [d]) s∧Kpt (fun b=>S b∨T b) m s∧Below W.heap.size W.drew m)∨(b=false∧Jx S (j ++ [d]) s)):=hP; clear hP))
 all_goals
  gi_wp2
  go_ret
  rcases HP.out with ⟨rfl,hJ',hkp,hb⟩ | ⟨rfl,hJx⟩
  ·have F:∀b,S b→b < W.heap.size→s.heap[b]?=W.heap[b]?:=fun b hb1 hb2=>(hkp.block b (Nat.lt_of_lt_of_le hb2 hb.size) (.inl hb1)).trans (hb.block b hb2)
   refine .inl ⟨rfl,hJ',HO.out.move (fun b hb1 hb2=>F b (y.out.of hb1) hb2),Zaa8 hb.size hkp.size,f,?_,fun _ _=>rfl⟩
   obtain ⟨c,q1,q2,q3⟩:=HR.out;exact ⟨c,(F G y.out.a (Q.out G y.out.a)).trans q1,q2,q3⟩
  ·exact .inr ⟨rfl,_,z.out,hJx⟩
theorem ZDi{n k fr:Nat}(h:fr < n)(ix:List Int):(ext n (k+1) fr).map (ix ++ ·)=(ext n k (fr+1)).map ((ix ++ [(fr:Int)]) ++ ·) ++ (ext n (k+1) (fr+1)).map (ix ++ ·):=by
 rw [ZIn h];simp [Function.comp_def]
theorem ZKi(k:Nat)(ih:ZDv k):ZDv (k+1):=by
 intro N0 l n c G p F E A t S T J Jx cs O N az hn aq hY d m r f W hk am B o hf v Q L
 have ai:Hid (∀(d:List Int) (m:Nat) (r:List (List Int)) (f:Nat→Value) (W:World),d.length+k=c→m≤n→Ox W l n c G p F E A t→W.rowIs t 3 c f→(∀j,j < d.length→f j=.int .i64 (d.getD j 0))→
  (∀b,S b→b < W.heap.size)→J S r W→(r ++ (ext n k m).map (d ++ ·)) <+: cs→
  CallsIn Fence.wide 0 Tryz.prog 82 #[.int .i64 d.length,.int .i64 m,.pointer (some ⟨G,0,none⟩),.pointer (some ⟨p,0,none⟩),.pointer (some ⟨F,0,none⟩),.pointer (some ⟨E,0,none⟩),.pointer (some ⟨A,0,none⟩)] W fun e x=>
   (e=.returned (.bool true)∧J S (r ++ (ext n k m).map (d ++ ·)) x∧Ox x l n c G p F E A t∧W.heap.size≤x.heap.size∧∃P,x.rowIs t 3 c P∧∀j,j < d.length→P j=f j)∨
   (e=.returned (.bool false)∧∃q,q <+: cs∧Jx S q x)):=ih N0 l n c G p F E A t S T J Jx cs O N az hn aq hY
 have ay:=hid O;have Y:=hid N;have HO:=hid B;have an:=hid o;have HF:=hid hf;have aA:=hid v;have HJ:=hid Q;have ag:=hid L;have c1:=B.cm;have c2:=B.cn
 have aF:((d.length:Int) == (c:Int))=false:=by rw [beq_eq_false_iff_ne]; omega
 clear O N hY B o hf v Q L ih;refine callsIn_of_wp Tryz.func82 rfl trivial ?_ rfl;simp only [Tryz.ntmps82,List.size_toArray,List.length_cons,List.length_nil,Nat.reduceAdd,Nat.reduceSub,Array.replicate_succ,Array.replicate_zero,List.push_toArray,List.append_toArray,List.nil_append,List.cons_append]
 gi_wp2
 gi_loopw [21,10] (fun i _ wr=>∃(q:Nat) (g:Nat→Value) (M:List (List Int)),m+q≤n∧i=.int .i64 q∧Ox wr l n c G p F E A t∧wr.rowIs t 3 c g∧(∀j,j < d.length→g j=f j)∧W.heap.size≤wr.heap.size∧J S M wr∧
   M ++ (ext n (k+1) (m+q)).map (d ++ ·)=r ++ (ext n (k+1) m).map (d ++ ·)) (fun i _ _=>n-(intOf i).toNat)
 case atStart=>exact ⟨0,f,r,am,rfl,HO.out,an.out,fun _ _=>rfl,Za4 _,HJ.out,rfl⟩
 case round=>
  obtain ⟨q,g,M,hq,rfl,B,o,hg,v,Q,D⟩:=hrel;have ar:=hid B;have ae:=hid o;have HG:=hid hg;have aj:=hid Q;have X:=hid D;have aa:=hid v
  by_cases hlt:m+q < n
  ·have d1:=B.cc
   have d4:=o.cell (i:=d.length) (by omega)
   have d5:=o.frozen d.length
   obtain ⟨z,s⟩:∃z,z=wr.setCell ⟨t,d.length,none⟩ (.int .i64 ((m:Int)+(q:Int))):=⟨_,rfl⟩
   have ah:Hid (Ox z l n c G p F E A t):=by
    rw [s]
    exact B.move (fun b hb _=>Below.heap_setCell _ _ _ _ (Y.out.ne b hb))
   have af:Hid (z.rowIs t 3 c (fun i=>if i=d.length then .int .i64 ((m:Int)+(q:Int)) else g i)):=by rw [s]; exact o.set _ _
   have au:Hid (J S M z):=ay.out S S M wr z Q (by rw [s]; exact (Chg.refl _ _).setCell Y.out.a _) (fun b hb=>.inl hb)
   have aK:z.heap.size=wr.heap.size:=by rw [s]; simp [World.setCell]
   have d6:(wr.setCell ⟨t,d.length,none⟩ (.int .i64 ((m:Int)+(q:Int)))).cell? ⟨A,0,none⟩=some (.func (.func 82) #[] #[.pointer (some ⟨G,0,none⟩),.pointer (some ⟨p,0,none⟩),.pointer (some ⟨F,0,none⟩),.pointer (some ⟨E,0,none⟩),.pointer (some ⟨A,0,none⟩)]):=by rw [←s]; exact ah.out.cf
   have aB:=hid s;have y:Hid ((ext n (k+1) (m+q)).map (d ++ ·)=(ext n k (m+q+1)).map ((d ++ [((m+q:Nat):Int)]) ++ ·) ++ (ext n (k+1) (m+q+1)).map (d ++ ·)):=ZDi hlt d
   have U:Hid (CallsIn Fence.wide 0 Tryz.prog 82 #[.int .i64 ((d.length:Int)+1),.int .i64 ((m:Int)+(q:Int)+1),.pointer (some ⟨G,0,none⟩),.pointer (some ⟨p,0,none⟩),.pointer (some ⟨F,0,none⟩),.pointer (some ⟨E,0,none⟩),.pointer (some ⟨A,0,none⟩)] z fun e x=>
     (e=.returned (.bool true)∧J S (M ++ (ext n k (m+q+1)).map ((d ++ [((m+q:Nat):Int)]) ++ ·)) x∧Ox x l n c G p F E A t∧z.heap.size≤x.heap.size∧∃P,x.rowIs t 3 c P∧∀j,j < d.length→P j=f j)∨
     (e=.returned (.bool false)∧∃q,q <+: cs∧Jx S q x)):=by
    have h:=ai.out (d ++ [((m+q:Nat):Int)]) (m+q+1) M _ z (by simp; omega) (by omega) ah.out af.out (fun j hj=>by
      simp only [Zaa4,List.length_singleton] at hj
      by_cases e:j=d.length
      ·subst e; simp
      ·have V:j < d.length:=by omega
       simp only [e,if_false];rw [HG.out j V,HF.out j V]
       simp only [Za2]; rw [Za7 V]) (fun b hb=>by have:=aA.out b hb; omega) au.out (by
      refine List.IsPrefix.trans ?_ ag.out;rw [←X.out,y.out,←List.append_assoc];exact List.prefix_append _ _)
    have e1:((d ++ [((m+q:Nat):Int)]).length:Int)=(d.length:Int)+1:=by simp
    have e2:((m+q+1:Nat):Int)=(m:Int)+(q:Int)+1:=by omega
    rw [e1,e2] at h;refine h.mono ?_
    rintro e x (⟨rfl,R,a2,a3,P,a4,a5⟩ | h)
    ·refine .inl ⟨rfl,R,a2,a3,P,a4,fun j hj=>?_⟩
     rw [a5 j (by simp; omega)]
     simp only [show j≠d.length by omega,if_false]
     exact HG.out j hj
    ·exact .inr h
   clear B o hg v Q D s
   have aH:(0:Int)≤(q:Int):=by omega
   have aD:(0:Int)≤(m:Int):=by omega
   have aL:(0:Int)≤(d.length:Int):=by omega
   have aI:(d.length:Int) < (c:Int):=by omega
   have aG:(q:Int) < (n:Int)-(m:Int):=by omega
   have aE:(m:Int)+(q:Int) < (n:Int):=by omega
   have aC:(0:Int)≤(m:Int)+(q:Int):=by omega
   gi_wp2_with fail
   refine ⟨trivial,rfl,?_⟩;rw [←aB.out];refine U.out.mono ?_
   rintro e w6 (⟨rfl,R,a2,a3,f6,a4,a5⟩ | ⟨rfl,R⟩)
   ·have S1:=hid R
    have S2:=hid a2
    have S3:Hid (W.heap.size≤w6.heap.size):=by show _≤_; have:=aa.out; omega
    have S4:=hid a4;have S5:=hid a5;clear R a2 a3 a4 a5
    gi_wp2
    go_roundw
    case rel=>
     refine ⟨q+1,f6,_,by omega,by go_num,S2.out,S4.out,S5.out,S3.out,S1.out,?_⟩
     rw [←X.out,y.out,List.append_assoc];rfl
    case measure=>simp [intOf]; omega
   ·have S1:=hid R
    clear R
    gi_wp2
    go_ret;exact .inr ⟨rfl,S1.out⟩
  ·have aw:m+q=n:=by omega
   have ak:Hid (M=r ++ (ext n (k+1) m).map (d ++ ·)):=by
    show _=_
    rw [←D,aw,ZFt (Za4 _)];simp
   clear B o hg v Q D
   have aJ:decide ((q:Int) < (n:Int)-(m:Int))=false:=by simp; omega
   gi_wp2
   go_ret
   exact .inl ⟨rfl,by rw [←ak.out]; exact aj.out,ar.out,aa.out,g,ae.out,HG.out⟩
theorem ZIo:∀k,ZDv k
 | 0=>ZKh
 | k+1=>ZKi k (ZIo k)
theorem ZAL(w:World)(o:Obj):(w.alloc o).heap[w.heap.size]?=some o:=World.alloc_heap_new w o
theorem ZAG(w:World)(o:Obj):Below w.heap.size w (w.alloc o):=(Below.refl _ _).alloc (Za4 _) _
theorem size_alloc(w:World)(o:Obj):(w.alloc o).heap.size=w.heap.size+1:=by simp
theorem ZAc{w:World}{b:Nat}{x:Value}{t:TypeId}(h:w.heap[b]?=some (.cells #[x] t (0,0))):w.cell? ⟨b,0,none⟩=some x:=by simp [World.cell?,h]
theorem ZNA(w:World)(o1 o2 o3 o4:Obj) :
  ∃W,W=(((w.alloc o1).alloc o2).alloc o3).alloc o4∧W.heap[w.heap.size]?=some o1∧W.heap[w.heap.size+1]?=some o2∧W.heap[w.heap.size+1+1]?=some o3∧W.heap[w.heap.size+1+1+1]?=some o4∧W.heap.size=w.heap.size+4∧Below w.heap.size w W:=by
 obtain ⟨c,d⟩:∃c,c=w.alloc o1:=⟨_,rfl⟩
 obtain ⟨b,g⟩:∃b,b=c.alloc o2:=⟨_,rfl⟩
 obtain ⟨a,i⟩:∃a,a=b.alloc o3:=⟨_,rfl⟩
 have o:c.heap.size=w.heap.size+1:=by rw [d]; exact size_alloc _ _
 have t:b.heap.size=w.heap.size+2:=by rw [g,size_alloc]; omega
 have s:a.heap.size=w.heap.size+3:=by rw [i,size_alloc]; omega
 have r:c.heap[w.heap.size]?=some o1:=by rw [d]; exact ZAL _ _
 have n:b.heap[w.heap.size+1]?=some o2:=by rw [g,←o]; exact ZAL _ _
 have p:a.heap[w.heap.size+1+1]?=some o3:=by rw [i,show w.heap.size+1+1=b.heap.size by omega]; exact ZAL _ _
 have m:Below w.heap.size w c:=by rw [d]; exact ZAG _ _
 have l:Below c.heap.size c b:=by rw [g]; exact ZAG _ _
 have j:Below b.heap.size b a:=by rw [i]; exact ZAG _ _
 have f:Below a.heap.size a (a.alloc o4):=ZAG _ _
 refine ⟨a.alloc o4,by rw [i,g,d],?_,?_,?_,?_,?_,?_⟩
 ·rw [f.block _ (by omega),j.block _ (by omega),l.block _ (by omega)]; exact r
 ·rw [f.block _ (by omega),j.block _ (by omega)]; exact n
 ·rw [f.block _ (by omega)]; exact p
 ·rw [show w.heap.size+1+1+1=a.heap.size by omega]; exact ZAL _ _
 ·rw [size_alloc]; omega
 ·exact ((m.trans (l.mono (by omega))).trans (j.mono (by omega))).trans (f.mono (by omega))
theorem ZKj(n many bm bn:Nat)(w0:World)(hm5:many≤8)(hn:n≤1000)(hcm:w0.cell? ⟨bm,0,none⟩=some (.int .i64 many))(hcn:w0.cell? ⟨bn,0,none⟩=some (.int .i64 n)) :
  ZPF Tryz.prog 81 #[.pointer (some ⟨bm,0,none⟩),.pointer (some ⟨bn,0,none⟩)] (ZJe w0.heap.size) (ext n many 0) (fun _=>False) (fun b=>b=bm∨b=bn) w0:=by
 intro l J V W v f t G R;have x:=ZAn hcm;have F:=ZAn hcn;have M:W.cell? ⟨bm,0,none⟩=some (.int .i64 many):=(v.cell (p:=⟨bm,0,none⟩) x).trans hcm;have O:W.cell? ⟨bn,0,none⟩=some (.int .i64 n):=(v.cell (p:=⟨bn,0,none⟩) F).trans hcn
 have X:=run_make_row' (P:=Tryz.prog) 27 3 (.int .i64 0) 8 Tryz.underlying27 Tryz.info3 rfl .i64 .i64 many (by omega) (by omega)
 obtain ⟨d,o,T,U,Q,L,E,a⟩:=ZNA W (.cells #[.func (.yield l) #[] #[]] 93) (.cells (madeCells #[.int .i64 0] many) 3) (.cells #[.slice (some ⟨W.heap.size+1,0,none⟩) many many] 27)
  (.cells #[.func (.func 82) #[] #[.pointer (some ⟨bm,0,none⟩),.pointer (some ⟨W.heap.size,0,none⟩),.pointer (some ⟨W.heap.size+1+1,0,none⟩),.pointer (some ⟨bn,0,none⟩),.pointer (some ⟨W.heap.size+1+1+1,0,none⟩)]] 68)
 have B:=ZAn M;have z:=ZAn O
 obtain ⟨S,D⟩:∃S:Nat→Prop,S=fun b=>b=bm∨b=bn∨(W.heap.size≤b∧b < W.heap.size+4):=⟨_,rfl⟩
 have N:Ox d l n many bm W.heap.size (W.heap.size+1+1) bn (W.heap.size+1+1+1) (W.heap.size+1):=
  ⟨(a.cell (p:=⟨bm,0,none⟩) B).trans M,ZAc T,ZAc Q,(a.cell (p:=⟨bn,0,none⟩) z).trans O,ZAc L⟩
 have c:d.rowIs (W.heap.size+1) 3 many (fun _=>.int .i64 0):=by
  refine ⟨_,U,?_,fun i hi=>?_⟩
  ·rw [←Array.length_toList,toList_madeCells_one]; simp
  ·rw [←Array.getElem?_toList,toList_madeCells_one]; simp [hi]
 have s:Bxo S bm W.heap.size (W.heap.size+1+1) bn (W.heap.size+1+1+1) (W.heap.size+1):=by
  rw [D]
  exact ⟨.inl rfl,.inr (.inr (by omega)),.inr (.inr (by omega)),.inr (.inl rfl),.inr (.inr (by omega)),.inr (.inr (by omega)),fun b hb=>by omega⟩
 have r:J S [] d:=f _ S [] W d R (Chg.of_below a (Za4 _)) (fun b hb=>by
  rw [D] at hb
  rcases hb with h | h | h
  ·exact .inl (.inl h)
  ·exact .inl (.inr h)
  ·exact .inr h.1)
 have Y:Hid (CallsIn Fence.wide 0 Tryz.prog 82 #[.int .i64 0,.int .i64 0,.pointer (some ⟨bm,0,none⟩),.pointer (some ⟨W.heap.size,0,none⟩),.pointer (some ⟨W.heap.size+1+1,0,none⟩),.pointer (some ⟨bn,0,none⟩),.pointer (some ⟨W.heap.size+1+1+1,0,none⟩)] d fun e g=>
   (e=.returned (.bool true)∧J S ([] ++ (ext n many 0).map ([] ++ ·)) g∧Ox g l n many bm W.heap.size (W.heap.size+1+1) bn (W.heap.size+1+1+1) (W.heap.size+1)∧d.heap.size≤g.heap.size∧∃f',g.rowIs (W.heap.size+1) 3 many f'∧∀j,j < 0→f' j=.int .i64 0)∨
   (e=.returned (.bool false)∧∃q,q <+: ext n many 0∧V S q g)):=ZIo many w0.heap.size l n many bm W.heap.size (W.heap.size+1+1) bn (W.heap.size+1+1+1) (W.heap.size+1) S (fun _=>False) J V (ext n many 0) f s hm5 hn (by have:=v.size; omega) G [] 0 [] _ d (by simp) (Za5 _) N c (fun j hj=>absurd hj (by simp)) (fun b hb=>by
  rw [D] at hb
  rcases hb with h | h | h <;> omega) r (by simp)
 have y:Hid (d=(((W.alloc (.cells #[.func (.yield l) #[] #[]] 93)).alloc (.cells (madeCells #[.int .i64 0] many) 3)).alloc (.cells #[.slice (some ⟨W.heap.size+1,0,none⟩) many many] 27)).alloc
  (.cells #[.func (.func 82) #[] #[.pointer (some ⟨bm,0,none⟩),.pointer (some ⟨W.heap.size,0,none⟩),.pointer (some ⟨W.heap.size+1+1,0,none⟩),.pointer (some ⟨bn,0,none⟩),.pointer (some ⟨W.heap.size+1+1+1,0,none⟩)]] 68)):=o
 clear f t G R N c s r T U Q L E a v hcm hcn o;refine callsIn_of_wp Tryz.func81 rfl trivial ?_ rfl;simp only [Tryz.ntmps81,List.size_toArray,List.length_cons,List.length_nil,Nat.reduceAdd,Nat.reduceSub,Array.replicate_succ,Array.replicate_zero,List.push_toArray,List.append_toArray,List.nil_append,List.cons_append]
 gi_wp2_with fail
 refine ⟨trivial,rfl,?_⟩;rw [←y.out];refine (Y.out).mono ?_
 rintro e g (⟨rfl,m,_⟩ | ⟨rfl,m⟩)
 ·have A:Hid (J S (ext n many 0) g):=by
   have e : [] ++ (ext n many 0).map ([] ++ ·)=ext n many 0:=by simp
   rw [e] at m;exact m
  clear m
  gi_wp2
  go_end0
  exact ⟨⟨_,rfl⟩,.inl ⟨S,A.out⟩⟩
 ·have A:=hid m
  clear m
  gi_wp2
  go_end0
  exact ⟨⟨_,rfl⟩,.inr ⟨S,A.out⟩⟩
theorem ZIp(n many:Int)(w:World):Calls Tryz.prog 51 #[.int .i64 n,.int .i64 many] w fun e w'=>
  e=.returned (.func (.func 81) #[] #[.pointer (some ⟨w.heap.size+1,0,none⟩),.pointer (some ⟨w.heap.size,0,none⟩)])∧w'=(w.alloc (.cells #[.int .i64 n] 3)).alloc (.cells #[.int .i64 many] 3):=by
 go_enter Tryz.func51,Tryz.ntmps51;go_wp2;go_ret;exact ⟨rfl,rfl⟩
end Go.Proofs.YtkjkfceblmgogaaGreat
