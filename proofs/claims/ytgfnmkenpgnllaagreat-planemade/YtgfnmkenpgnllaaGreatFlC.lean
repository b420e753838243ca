import Derived.Test.YtgfnmkenpgnllaaGreatFlB
set_option maxRecDepth 100000
set_option maxHeartbeats 8000000
namespace Go.Proofs.YtgfnmkenpgnllaaGreat
open Go.RowKit Go.Shelf Lin
theorem ZDO{B n sz:Nat}{e:TypeId}{w w':World}{v:Value}{xs:List Value}(h:w.ownsRow B e sz v n xs)(hk:∀b,v.ownBlock=some b→w'.heap[b]?=w.heap[b]?):w'.ownsRow B e sz v n xs:=by
 refine ⟨h.1,?_⟩
 rcases h.2 with h2 | ⟨g,cap,cur,rfl,hb,hh,r⟩
 ·exact Or.inl h2
 ·exact Or.inr ⟨g,cap,cur,rfl,hb,(hk g rfl).trans hh,r⟩
theorem ZBE{B n sz:Nat}{e:TypeId}{w:World}{v:Value}{xs:List Value}(h:w.ownsRow B e sz v n xs):∀b,v.ownBlock=some b→B≤b∧b < w.heap.size∧∃cur,w.heap[b]?=some (.cells cur e (0,0)):=by
 intro b a
 rcases h.2 with ⟨h1,_⟩ | ⟨g,cap,cur,rfl,hB,hh,_⟩
 ·rw [h1] at a; simp [Value.ownBlock] at a
 ·simp only [Value.ownBlock,Zaa9] at a
  subst a;exact ⟨hB,(Zaa3.1 hh).1,cur,hh⟩
theorem ZCb{w W:World}{v:Value}{xs:List Int}(h:Sl 0 3 w v (ZAB xs))(hk:0 < xs.length→∀a n c,v=.slice (some a) n c→W.heap[a.block]?=w.heap[a.block]?):Sl 0 3 W v (ZAB xs):=by
 obtain ⟨s,f,rfl,j,r,m,l⟩:=h
 refine ⟨s,f,rfl,j,r,fun i hi=>?_,l⟩
 obtain ⟨b,o,rfl,p,d⟩:=m i hi
 have g:=hk (by simp at hi; omega) _ _ _ rfl
 refine ⟨b,o,rfl,?_,?_⟩
 ·rw [←p]
  simp only [World.cell?];rw [g]
 ·rcases d with d | ⟨cur,d⟩
  ·omega
  ·exact Or.inr ⟨cur,g.trans d⟩
theorem ZBw{w:World}{a:Addr}{n c:Nat}{xs:List Int}(h:Sl 0 3 w (.slice (some a) n c) (ZAB xs))(hp:0 < xs.length):a.block < w.heap.size:=by
 obtain ⟨m,l,f,_,_,g,_⟩:=h
 obtain ⟨b,o,d,i,_⟩:=g 0 (by simpa using hp)
 simp only [Za3] at f;rw [←f.1] at d
 cases d
 have j:w.cell? ⟨b,o+0,none⟩=some ((ZAB xs)[0]'(by simpa using hp)):=by rw [i]; simp
 exact ZAI j
structure FlO(S:Nat→Prop)(B:Nat)(W:World)(v:Value)(T:List FlT):Prop where
 own:W.ownsRow B 68 2 v T.length (T.flatMap ZBv)
 off:∀g,v.ownBlock=some g→¬S g
 sl:∀t∈T,Sl 0 3 W t.1 (ZAB t.2.1)
 so:∀t∈T,0 < t.2.1.length→∃a n c,t.1=.slice (some a) n c∧¬S a.block
theorem FlO.keep{S S':Nat→Prop}{B:Nat}{W W':World}{v:Value}{T:List FlT}(h:FlO S B W v T)(hc:∀b,b < W.heap.size→¬S b→W'.heap[b]?=W.heap[b]?)(hs:∀b,S' b→S b∨W.heap.size≤b):FlO S' B W' v T:=by
 refine ⟨ZDO h.own fun b hb=>hc b (ZBE h.own b hb).2.1 (h.off b hb),fun g hg hx=>?_,fun t ht=>ZCb (h.sl t ht) (fun hp a n c e=>?_),fun t ht hp=>?_⟩
 ·rcases hs g hx with h1 | h1
  ·exact h.off g hg h1
  ·have:=(ZBE h.own g hg).2.1; omega
 ·obtain ⟨m,j,l,i,f⟩:=h.so t ht hp
  rw [e] at i
  cases i
  have d:=h.sl t ht;rw [e] at d;exact hc _ (ZBw d hp) f
 ·obtain ⟨a,n,c,e,f⟩:=h.so t ht hp
  refine ⟨a,n,c,e,fun hx=>?_⟩
  have d:=h.sl t ht;rw [e] at d
  rcases hs _ hx with h1 | h1
  ·exact f h1
  ·have:=ZBw d hp; omega
theorem FlO.push{S:Nat→Prop}{B:Nat}{W W':World}{v v':Value}{T:List FlT}{t:FlT}(h:FlO S B W v T)(hu:Sl 0 3 W t.1 (ZAB t.2.1))(hun:0 < t.2.1.length→∃a n c,t.1=.slice (some a) n c∧¬S a.block)
 (ho:W'.ownsRow B 68 2 v' (T.length+1) (T.flatMap ZBv ++ ZBv t))(hg:W.grownBy W' v.ownBlock)(hn:∀g,v'.ownBlock=some g→¬S g):FlO S B W' v' (T ++ [t]):=by
 have b:∀k,v.ownBlock=some k→0≤k∧∀cur,W.heap[k]?≠some (.cells cur 3 (0,0)):=fun k hk=>⟨Za5 _,fun cur hx=>by
  obtain ⟨_,_,f,d⟩:=ZBE h.own k hk;rw [d] at hx;simp at hx⟩
 refine ⟨by simpa using ho,hn,fun x hx=>?_,fun x hx hp=>?_⟩
 ·rcases List.mem_append.1 hx with hx | hx
  ·exact (h.sl x hx).grown hg b
  ·rw [List.mem_singleton.1 hx]; exact hu.grown hg b
 ·rcases List.mem_append.1 hx with hx | hx
  ·exact h.so x hx hp
  ·rw [List.mem_singleton.1 hx] at hp ⊢; exact hun hp
theorem FlO.set{S:Nat→Prop}{B b j:Nat}{t:TypeId}{w:World}{v u:Value}{T:List FlT}{cur:Array Value}(h:FlO S B w v T)(hb:b < B)(hR:w.heap[b]?=some (.cells cur t (0,0)))(ht:t≠3):FlO S B (w.setCell ⟨b,j,none⟩ u) v T:=by
 have a:∀k,k≠b→(w.setCell ⟨b,j,none⟩ u).heap[k]?=w.heap[k]?:=fun k hk=>Below.heap_setCell _ _ _ _ hk
 refine ⟨ZDO h.own fun k hk=>a k (by have:=(ZBE h.own k hk).1; omega),h.off,fun x hx=>?_,h.so⟩
 refine (h.sl x hx).move fun k hl hk=>?_
 rcases hk with hk | ⟨c,hk⟩
 ·omega
 ·have d:k≠b:=by
   rintro rfl;rw [hR] at hk;simp at hk;exact ht hk.2
  exact ⟨a k d,Or.inr ⟨c,hk⟩⟩
structure FsI(w WN:World)(N d:Nat)(P done:List (List Int))(rs:List Nat)(S:Nat→Prop)(pre:List (List Int))(W:World):Prop where
 sn:∀b,S b→N≤b
 kp:Kpt (fun b=>b < w.heap.size+2∨b∈rs) WN W
 os:W.os=w.os
 tape:W.tape=w.tape
 output:W.output=w.output
 rv:∃v T,W.heap[w.heap.size+2]?=some (.cells #[v] 65 (0,0))∧FlO (fun b=>S b∨b∈rs) (w.heap.size+3) W v T∧T.map (fun t=>t.2)=flU d P (done ++ pre)
theorem FsI.stab{w WN W W':World}{N d:Nat}{P done pre:List (List Int)}{rs:List Nat}{S S':Nat→Prop}(h:FsI w WN N d P done rs S pre W)(h1:w.heap.size+3≤N)(h2:N≤WN.heap.size)(h3:∀r∈rs,r < N)(hc:Chg S W W')(hs:∀b,S' b→S b∨W.heap.size≤b):FsI w WN N d P done rs S' pre W':=by
 have g:=h.kp.size;obtain ⟨v,T,a,f,c⟩:=h.rv
 refine ⟨fun b a=>?_,h.kp.trans (Kpt.of_chg hc fun i _ hi hsi=>?_),hc.os.trans h.os,hc.tape.trans h.tape,hc.output.trans h.output,v,T,(hc.block _ (by omega) (fun hx=>by have:=h.sn _ hx; omega)).trans a,f.keep (fun b a hn=>hc.block b a fun hx=>hn (.inl hx)) (fun b a=>?_),c⟩
 ·rcases hs b a with hx | hx
  ·exact h.sn b hx
  ·omega
 ·have:=h.sn i hsi
  rcases hi with hi | hi
  ·omega
  ·have:=h3 i hi; omega
 ·rcases a with a | a
  ·rcases hs b a with hx | hx
   ·exact .inl (.inl hx)
   ·exact .inr hx
  ·exact .inl (.inr a)
theorem ZJm{W:World}{u:Value}{r b:Nat}(hh:W.heap[b]?=some (.cells #[u,.int .i64 (r:Nat)] 68 (0,0))):∀j x,(ZBv (u,[],r))[j]?=some x→W.cell? ((⟨b,0,none⟩:Addr).add j)=some x:=by
 intro j x a;have c:=(List.getElem?_eq_some_iff.1 a).1
 rcases (show j=0∨j=1 by simp [ZBv] at c; omega) with rfl | rfl
 ·have e:x=u:=by simpa [ZBv] using a.symm
  subst e
  show W.cell? ⟨b,0,none⟩=_
  unfold World.cell?;rw [hh];rfl
 ·have e:x=.int .i64 (r:Nat):=by simpa [ZBv] using a.symm
  subst e
  show W.cell? ⟨b,1,none⟩=_
  unfold World.cell?;rw [hh];rfl
theorem ZCB{o:Oper}{a:Act}{w:World}{K:Act→World→Prop}{Q:Exit→Act→World→Prop}
 (s x:Operand)(hop:o.op=Op.call { callee:=Callee.builtin Builtin.append,args:=#[s,x],argTypes:=#[65,65] })
 (base:Nat)(v:Value)(n:Nat)(xs:List Value)(hs:a.eval s=v)(hown:w.ownsRow base 68 2 v n xs)
 (ad:Addr)(news:List Value)(hx:a.eval x=.slice (some ad) 1 1)(hl:news.length=2)(hcl:∀j u,news[j]?=some u→w.cell? (ad.add j)=some u)(h1c:∀u∈news,u.oneCell'=true)
 (b1:n≤1000000)(hb:base≤w.heap.size)
 (hK:∀v' w',w'.ownsRow base 68 2 v' (n+1) (xs ++ news)→w.grownBy w' v.ownBlock→(v'.ownBlock=v.ownBlock∨v'.ownBlock=some w.heap.size)→K (a.put o.dst v') w'):Oper.wp Tryz.prog o a w K Q:=by
 obtain ⟨i,l,d,c,f⟩:=info_parts Tryz.infoF
 obtain ⟨v',w',b,g,m,_,p⟩:=run_append_own_at (P:=Tryz.prog) w base 65 o.type 68 i (.agg #[.slice none 0 0,.int .i64 0]) 2 32 (by kernel_rfl) l d c f rfl (by decide) v n xs hown ad 1 1 news (by omega) hcl h1c (by unfold maxLen; omega) (by omega) hb
 unfold Oper.wp;simp [execOp,hop,resolve,invoke,builtin,hs,hx,b,Result.andThen];exact hK v' w' g m p
end Go.Proofs.YtgfnmkenpgnllaaGreat
namespace Go.Proofs.YtgfnmkenpgnllaaGreat
open Go.RowKit Go.Shelf Lin
attribute [local go_sem] Oper.semAt_some
def ZDi(n k:Nat):List (List Int):=(List.range k).flatMap fun q=>ext n q 0
theorem ZHE(n k:Nat):ZDi n (k+1)=ZDi n k ++ ext n k 0:=by simp [ZDi,List.range_succ]
structure FoI(w:World)(d:Nat)(P:List (List Int))(v:Value)(k:Nat)(rs:List Nat)(W:World):Prop where
 low:∀b,b < w.heap.size→W.heap[b]?=w.heap[b]?
 b0:W.heap[w.heap.size]?=some (.cells #[.int .i64 d] 3 (0,0))
 b1:W.heap[w.heap.size+1]?=some (.cells #[v] 25 (0,0))
 os:W.os=w.os
 tape:W.tape=w.tape
 output:W.output=w.output
 size:w.heap.size+3≤W.heap.size
 nd:rs.Nodup
 mark:∀r∈rs,W.heap[r]?=some (.deferred (some []))
 rlo:∀r∈rs,w.heap.size+3≤r
 rv:∃u T,W.heap[w.heap.size+2]?=some (.cells #[u] 65 (0,0))∧FlO (fun b=>b∈rs) (w.heap.size+3) W u T∧T.map (fun t=>t.2)=flU d P (ZDi P.length k)
theorem ZCC{B n sz:Nat}{e:TypeId}{w:World}{v:Value}{xs:List Value}(h:w.ownsRow B e sz v n xs):∃vo vn vc,v=.slice vo vn vc:=by
 rcases h.2 with ⟨h1,_⟩ | ⟨g,cap,cur,h1,_⟩
 ·exact ⟨_,_,_,h1⟩
 ·exact ⟨_,_,_,h1⟩
theorem ZMK{B:Nat}{w W:World}{v:Value}{m:List (List Int)}(h:Mat B 22 3 w v m)(hk:∀b,b < w.heap.size→W.heap[b]?=w.heap[b]?):Mat B 22 3 W v m:=by
 obtain ⟨d,a,c,f⟩:=h
 exact ⟨d,a,c.move fun b hb ht=>⟨hk b hb,ht⟩,fun i hi=>(f i hi).move fun b hb ht=>⟨hk b hb,ht⟩⟩
def FlA(m:List (List Int×Nat)):Prop:=∀i j,i < j→j < m.length→¬fcf (m.getD j ([],0)) (m.getD i ([],0)) < 0
theorem ZFX(d:Nat)(P:List (List Int))(v:Value)(w:World)(hd1:1≤d)(hd3:d≤3)(hG:∀p∈P,p.length=d+1∧∀z∈p,z.natAbs≤20)(hne:flB d P 0=true)(h5:P.length≤6)(hv:Mat 0 22 3 w v P) :
  Calls Tryz.prog 39 #[.int .i64 d,v] w fun e w'=>∃uo uc T,e=.returned (.slice uo T.length uc)∧FlR (w.heap.size+3) w' (.slice uo T.length uc) T∧(FlS d P (T.map fun t=>t.2)∧FlA (T.map fun t=>t.2))∧Below w.heap.size w w':=by
 obtain ⟨N,M,rfl,_,_⟩:=ZAE hv;have HV:Hid (Mat 0 22 3 w (.slice N P.length M) P):=hv;have cq:=hid hG
 obtain ⟨W3,an⟩:∃W3,W3=((w.alloc (.cells #[.int .i64 d] 3)).alloc (.cells #[.slice N P.length M] 25)).alloc (.cells #[.slice none 0 0] 65):=⟨_,rfl⟩
 have aG:Below w.heap.size w W3:=by rw [an]; exact (((Below.refl _ _).alloc (Za4 _) _).alloc (by simp) _).alloc (by simp; omega) _
 have db:W3.heap.size=w.heap.size+3:=by rw [an]; simp
 have n1:W3.heap[w.heap.size]?=some (.cells #[.int .i64 d] 3 (0,0)):=by
  rw [an]
  exact (Below.heap_alloc _ _ _ (by simp; omega)).trans ((Below.heap_alloc _ _ _ (by simp)).trans (heap_alloc_new _ _))
 have n2:W3.heap[w.heap.size+1]?=some (.cells #[.slice N P.length M] 25 (0,0)):=by
  rw [an]
  refine (Below.heap_alloc _ _ _ (by simp)).trans ?_
  have:=heap_alloc_new (w.alloc (.cells #[.int .i64 d] 3)) (.cells #[.slice N P.length M] 25)
  simpa using this
 have n3:W3.heap[w.heap.size+2]?=some (.cells #[.slice none 0 0] 65 (0,0)):=by
  rw [an];have:=heap_alloc_new ((w.alloc (.cells #[.int .i64 d] 3)).alloc (.cells #[.slice N P.length M] 25)) (.cells #[.slice none 0 0] 65)
  simpa using this
 have cL:Hid (FoI w d P (.slice N P.length M) 0 [] W3):=⟨fun b A=>aG.block b A,n1,n2,aG.os,aG.tape,aG.output,by omega,List.nodup_nil,fun r hr=>absurd hr (by simp),fun r hr=>absurd hr (by simp),.slice none 0 0,[],n3,⟨World.ownsRow_nil _ _ _ _,fun g L=>by simp [Value.ownBlock] at L,fun t ht=>absurd ht (by simp),fun t ht=>absurd ht (by simp)⟩,by simp [ZDi,flU]⟩
 have c1:W3.cell? ⟨w.heap.size+1,0,none⟩=some (.slice N P.length M):=ZAe n2;have aR:=hid an;have cI:=hid hne;clear hv hG aG n1 n2 n3 db hne an;refine callsIn_wide (n:=0).1 ?_;refine callsIn_of_wp_marks Tryz.func39 rfl trivial ?_ rfl;simp only [Tryz.ntmps39,List.size_toArray,List.length_cons,List.length_nil,Nat.reduceAdd,Nat.reduceSub,Array.replicate_succ,Array.replicate_zero,List.push_toArray,List.append_toArray,List.nil_append,List.cons_append]
 gi_upto_region 2 with fail
 rw [←aR.out]
 gi_wp2
 clear c1 aR
 refine wpIn_loop (fun a' wr=>∃(k:Nat) (rs:List Nat) (u6 u7 u12 u13 u14 u15 u16 u17 u33:Value),k≤P.length+1∧FoI w d P (.slice N P.length M) k rs wr∧
  a' = { tmps:=#[.int .i64 d,.slice N P.length M,.pointer (some ⟨w.heap.size,0,none⟩),.pointer (some ⟨w.heap.size+1,0,none⟩),.slice none 0 0,.pointer (some ⟨w.heap.size+1+1,0,none⟩),u6,u7,.slice N P.length M,.int .i64 P.length,.int .i64 ((P.length:Int)+1),.int .i64 k,u12,u13,u14,u15,u16,u17,undef,undef,undef,undef,undef,undef,undef,undef,undef,undef,undef,undef,undef,undef,undef,u33,undef,undef,undef],defers:=mks rs }) (fun a' _=>P.length+1-(intOf (a'.tmps.getD 11 undef)).toNat) ?_ ?_
 ·exact ⟨0,[],_,_,_,_,_,_,_,_,_,Za5 _,cL.out,rfl⟩
 ·rintro _ wr ⟨k,rs,u6,u7,u12,u13,u14,u15,u16,u17,u33,hk,hI,rfl⟩
  have HI:=hid hI;have c1:wr.cell? ⟨w.heap.size+1,0,none⟩=some (.slice N P.length M):=ZAe hI.b1;have bJ:=hI.size;clear hI
  by_cases hlt:k < P.length+1
  ·have cX:(k:Int) < (P.length:Int)+1:=by omega
   gi_wp2_with (refine ⟨trivial,rfl,?_⟩; gi_at_call 56; refine (callsIn_wide.2 (ZIc _ _ _)).mono ?_; rintro e w' ⟨rfl,rfl⟩)
   obtain ⟨WN,az⟩:∃WN,WN=(wr.alloc (.cells #[.int .i64 P.length] 3)).alloc (.cells #[.int .i64 k] 3):=⟨_,rfl⟩
   rw [←az]
   have bH:WN.heap.size=wr.heap.size+2:=by rw [az]; simp
   have Q:Below wr.heap.size wr WN:=by rw [az]; exact ((Below.refl _ _).alloc (Za4 _) _).alloc (by simp) _
   have m1:WN.heap[wr.heap.size]?=some (.cells #[.int .i64 P.length] 3 (0,0)):=by
    rw [az]
    exact (Below.heap_alloc _ _ _ (by simp)).trans (heap_alloc_new _ _)
   have m2:WN.heap[wr.heap.size+1]?=some (.cells #[.int .i64 k] 3 (0,0)):=by
    rw [az];have:=heap_alloc_new (wr.alloc (.cells #[.int .i64 P.length] 3)) (.cells #[.int .i64 k] 3)
    simpa using this
   clear az
   have cr:=ZPj P.length k (wr.heap.size+1) wr.heap.size WN (by omega) (by omega) (ZAe m2) (ZAe m1)
   have f:=HI.out;have aS:=f.size
   have bO:Hid (WN.heap[w.heap.size]?=some (.cells #[.int .i64 d] 3 (0,0))):=(Q.block _ (by omega)).trans f.b0
   have bR:Hid (WN.heap[w.heap.size+1]?=some (.cells #[.slice N P.length M] 25 (0,0))):=(Q.block _ (by omega)).trans f.b1
   have bW:Hid (∀b,b < w.heap.size→WN.heap[b]?=w.heap[b]?):=fun b A=>(Q.block b (by omega)).trans (f.low b A)
   have cO:Hid (FsI w WN wr.heap.size d P (ZDi P.length k) rs (fun b=>b=wr.heap.size+1∨b=wr.heap.size) [] WN):=by
    obtain ⟨u,T,r1,r2,r3⟩:=f.rv
    exact ⟨fun b A=>by omega,Kpt.refl _ _,Q.os.trans f.os,Q.tape.trans f.tape,Q.output.trans f.output,u,T,(Q.block _ (by omega)).trans r1,r2.keep (fun b A _=>Q.block b A) (fun b A=>A.elim (fun h=>.inr (by omega)) .inl),by rw [List.append_nil]; exact r3⟩
   have bi:=hid bH
   have am:Hid (∀r∈rs,r < wr.heap.size):=fun r hr=>(Zaa3.1 (f.mark r hr)).1
   have cN:Hid (∀b,b < wr.heap.size→WN.heap[b]?=wr.heap[b]?):=fun b A=>Q.block b A
   have du:Hid (WN.os=w.os∧WN.tape=w.tape∧WN.output=w.output):=⟨Q.os.trans f.os,Q.tape.trans f.tape,Q.output.trans f.output⟩
   have cZ:Hid ((ZDi P.length k).length+(ext P.length k 0).length≤100000):=by
    show _≤_
    have V:ZDi P.length (k+1) <+: ZDY P.length:=by
     unfold ZDY ZDi
     have h2:List.range (k+1) <+: List.range (P.length+1):=by
      refine ⟨(List.range (P.length+1)).drop (k+1),?_⟩
      have:List.range (k+1)=(List.range (P.length+1)).take (k+1):=by
       rw [List.take_range]
       congr 1
       omega
      rw [this,List.take_append_drop]
     obtain ⟨r,hr⟩:=h2
     exact ⟨r.flatMap fun q=>ext P.length q 0,by rw [←List.flatMap_append,hr]⟩
    have h3:=V.length_le
    have h4:(ZDY P.length).length≤64:=by
     have:∀n,n≤6→(ZDY n).length≤64:=by decide
     exact this _ h5
    rw [ZHE,Zaa4] at h3;omega
   have dq:wr.heap.size+2≤WN.heap.size:=by omega
   have cW:k≤P.length:=by omega
   clear m1 m2 Q c1 bH f
   refine ZPi (R:=ZIH WN.heap.size) (cs:=ext P.length k 0) (T:=fun _=>False) (S0:=fun b=>b=wr.heap.size+1∨b=wr.heap.size) (gf:=86) (lb:=#[.pointer (some ⟨wr.heap.size+1,0,none⟩),.pointer (some ⟨wr.heap.size,0,none⟩)]) rfl (enters_of Tryz.func86 (by kernel_rfl) rfl) cr (fun b A=>by omega)
    (fun W0 W' S x vs ⟨v,V,_⟩=>by rw [V]; rfl) (ZII _) (ZMJ _)
    (fun S G W'=>FsI w WN wr.heap.size d P (ZDi P.length k) rs S G W')
    (fun c S G W'=>False)
    (fun S S' G W' W'' h hc hs=>h.stab aS (by have:=bi.out; omega) am.out hc hs) (fun c S S' G W' W'' h hc hs=>h) cO.out
    (fun vs a' W'=>∃v,vs=#[v]∧a' = { tmps:=#[.int .i64 d,.slice N P.length M,.pointer (some ⟨w.heap.size,0,none⟩),.pointer (some ⟨w.heap.size+1,0,none⟩),.slice none 0 0,.pointer (some ⟨w.heap.size+1+1,0,none⟩),.int .i64 k,v,.slice N P.length M,.int .i64 P.length,.int .i64 ((P.length:Int)+1),.int .i64 k,.bool true,.int .i64 k,.slice N P.length M,.int .i64 P.length,.int .i64 k,.func (.func 86) #[] #[.pointer (some ⟨wr.heap.size+1,0,none⟩),.pointer (some ⟨wr.heap.size,0,none⟩)],v,undef,undef,undef,undef,undef,undef,undef,undef,undef,undef,undef,undef,undef,undef,u33,undef,undef,undef],defers:=[] })
    (fun vs a' W' l r o h _=>h) ?assign ?body (fun h=>h) ?done ?stop
   case assign=>
    rintro S x vs W0 W' K ⟨v,rfl,h2⟩ hK
    gi_wp2
    exact hK _ _ (Below.refl _ _) ⟨v,rfl,rfl⟩
   case stop=>
    rintro c S G W' aw h;exact h.elim
   case body=>
    rintro S G c vs a' m hi bC cK dr aM bQ aw ⟨S1,W0,dg,⟨cv,cd,ag,bB,cQ,cP,da⟩,bg⟩ ⟨v',aB,rfl⟩
    have dc:cv=v':=by rw [cd] at aB; simpa using aB
    subst dc
    have aU:c∈ext P.length k 0:=aw.subset (by simp)
    have aO:Hid (c∈ZDY P.length):=ZMx cW aU;have bJ:=bi.out;have bY:=hi.kp.size
    have e0:m.heap[w.heap.size]?=some (.cells #[.int .i64 d] 3 (0,0)):=(hi.kp.block _ (by omega) (.inl (by omega))).trans bO.out
    have e1:m.heap[w.heap.size+1]?=some (.cells #[.slice N P.length M] 25 (0,0)):=(hi.kp.block _ (by omega) (.inl (by omega))).trans bR.out
    have aV:∀b,b < w.heap.size→m.heap[b]?=w.heap[b]?:=fun b A=>(hi.kp.block b (by omega) (.inl (by omega))).trans (bW.out b A)
    obtain ⟨rv,T,bl,aL,aX⟩:=hi.rv
    have cV:Hid (∀b,S b→b < m.heap.size):=fun b hx=>by
     rcases (bg _).1 hx with hx | hx | hx
     ·have:=bB _ hx; omega
     ·omega
     ·omega
    have aT:∀g,cv.ownBlock=some g→¬(S g∨g∈rs):=fun g L hx=>by
     obtain ⟨q1,q2,bV,q3⟩:=ZBE ag g L
     rcases hx with hx | hx
     rotate_left
     ·have:=am.out g hx; omega
     rcases (bg _).1 hx with hx | hx | hx
     ·have:=bB _ hx; omega
     ·rw [hx,aM] at q3; cases q3
     ·obtain ⟨rr,bI⟩:=bQ
      rw [hx,bI] at q3; cases q3
    have aI:Hid (Sl 0 3 m cv (ZAB c)):=Sl.own ag
    have bu:Hid (0 < c.length→∃a n k,cv=.slice (some a) n k∧¬(S a.block∨a.block∈rs)):=fun hp=>by
     rcases ag.2 with ⟨_,h2⟩ | ⟨g,cap,bV,V,_⟩
     ·omega
     ·exact ⟨⟨g,0,none⟩,_,_,V,aT g (by rw [V]; rfl)⟩
    obtain ⟨co,cc,cM⟩:=ZAD ag;subst cM;have bM:Hid (Mat 0 22 3 m (.slice N P.length M) P):=ZMK HV.out aV
    have ck:Hid (Calls Tryz.prog 57 #[.int .i64 d,.slice N P.length M,.slice co c.length cc] m fun e w'=>e=.returned (.bool (flB d P (ZA5 c)))∧Below m.heap.size m w'):=ZJj d P c _ _ m hd1 hd3 cq.out (by omega) aO.out bM.out aI.out
    have aN:Hid (∀w7,Below m.heap.size m w7→FsI w WN wr.heap.size d P (ZDi P.length k) rs S G w7):=fun w7 A=>hi.stab aS (by omega) am.out (Chg.of_below A (Za4 _)) (fun b A=>.inl A)
    have aP:Hid (flU d P (ZDi P.length k ++ (G ++ [c]))=flU d P (ZDi P.length k ++ G) ++ if flB d P (ZA5 c) then [(c,rk d (pks P [] c))] else []):=by
     show _=_
     rw [←List.append_assoc,ZO5,ZO6]
    have bZ:m.cell? ⟨w.heap.size,0,none⟩=some (.int .i64 d):=ZAe e0;have bG:m.cell? ⟨w.heap.size+1,0,none⟩=some (.slice N P.length M):=ZAe e1
    have ak:Hid (T.length≤1000000):=by
     show _≤_
     have V:T.length=(flU d P (ZDi P.length k ++ G)).length:=by rw [←aX,Zab1]
     have h2:=ZKg d P (ZDi P.length k ++ G);have h3:=aw.length_le;have h4:=cZ.out;simp only [Zaa4,List.length_cons,List.length_nil] at h2 h3;omega
    have cD:∀i,i < c.length→0≤c.getD i 0∧c.getD i 0 < P.length:=fun i hi=>((ZBj (by omega)).1 c aO.out).2.2 _ (by simp [hi])
    have dx:c.length≤6:=by
     have V:=((ZBj (n:=P.length) (by omega)).1 c aO.out).2.1
     rw [V];unfold ZBH;rw [Zab1]
     exact Zaa8 (List.length_filter_le _ _) (by simp; omega)
    have bq:Hid (∀X,Below m.heap.size m X→Calls Tryz.prog 59 #[.slice N P.length M,.slice co c.length cc] X fun e' w'=>∃zo zc,e'=.returned (.slice zo c.length zc)∧Mat w'.heap.size 22 3 w' (.slice zo c.length zc) (pks P [] c)∧Below m.heap.size m w'):=fun X hX=>by
     refine (ZB5 0 P c _ _ X (bM.out.below hX (Za4 _)) (aI.out.below hX (Za4 _)) cD (by omega)).mono ?_
     rintro e' w' ⟨z,rfl,hz,A⟩;have hM:=hz.mat (B':=w'.heap.size) A.size;obtain ⟨zo,zc,rfl,_,_⟩:=ZAE hM
     rw [show (pks P [] c).length=c.length by simp [pks]] at hM ⊢
     exact ⟨zo,zc,rfl,hM,hX.trans (A.mono hX.size)⟩
    have aJ:Hid (∀zo zc X,Below m.heap.size m X→Mat X.heap.size 22 3 X (.slice zo c.length zc) (pks P [] c)→Calls Tryz.prog 58 #[.slice zo c.length zc,.int .i64 (d:Int)] X fun e w'=>e=.returned (.int .i64 (rk d (pks P [] c):Nat))∧Below m.heap.size m w'):=fun zo zc X hX hm=>by
     refine (ZCP X.heap.size (d+1) d (pks P [] c) _ X (by omega) hd1 (ZDl hd1 hd3 (fun p hp=>?_)) hm (by simp [pks]; omega)).mono ?_
     ·obtain ⟨z,hz,rfl⟩:=List.mem_map.1 hp
      have dw:=((ZBj (n:=P.length) (by omega)).1 c aO.out).2.2 z hz
      exact cq.out _ (ZAT (by omega))
     ·rintro e' w' ⟨rfl,A⟩
      exact ⟨rfl,hX.trans (A.mono hX.size)⟩
    have J:Hid (∀X,Below m.heap.size m X→X.cell? ⟨w.heap.size,0,none⟩=some (.int .i64 d)∧X.cell? ⟨w.heap.size+1,0,none⟩=some (.slice N P.length M)):=fun X hX=>⟨ZAe ((hX.block _ (by omega)).trans e0),ZAe ((hX.block _ (by omega)).trans e1)⟩
    have aC:Hid (∀X,Below m.heap.size m X→X.cell? ⟨w.heap.size+1+1,0,none⟩=some rv):=fun X hX=>ZAe ((hX.block (w.heap.size+2) (by omega)).trans bl)
    have ar:=hid aL;have aY:=hid bl;have bp:=hid aX
    have aF:Hid (∀u∈ZBv (.slice co c.length cc,[],rk d (pks P [] c)),u.oneCell'=true):=by
     intro u hu;simp only [ZBv,List.mem_cons,List.not_mem_nil,or_false] at hu
     rcases hu with rfl | rfl <;> rfl
    have cJ:Hid (∀b,S b→wr.heap.size≤b):=hi.sn
    have aR:Hid (w.heap.size+3≤m.heap.size):=by show _≤_; omega
    have cj:Hid (wr.heap.size≤m.heap.size):=by show _≤_; omega
    have ai:Hid (∀X,Below m.heap.size m X→Below m.heap.size m (X.alloc (.cells #[.slice co c.length cc,.int .i64 (rk d (pks P [] c):Nat)] 68))):=fun X hX=>hX.alloc hX.size _
    gi_wp2_with fail
    refine ⟨trivial,rfl,?_⟩
    gi_at_call 57
    refine (CallsIn.inRound _ (callsIn_wide.2 ck.out)).mono ?_;rintro e' w6 ⟨rfl,bt⟩;have bP:=hid bt;have bv:Hid (FsI w WN wr.heap.size d P (ZDi P.length k) rs S G w6):=aN.out w6 bt;clear hi dg aw ag bB cQ cP da bg aU aM bQ cd aB aV bJ bY e0 e1 cr bl aL aX aT ck bZ bG bt cD bC cK
    cases hfl:flB d P (ZA5 c)
    ·have HF:Hid (Kpt (fun b=>S b∨False) m w6∧FsI w WN wr.heap.size d P (ZDi P.length k) rs S (G ++ [c]) w6):=by
      refine ⟨Kpt.of_below bP.out (Za4 _),?_⟩;have h:=bv.out;refine ⟨h.sn,h.kp,h.os,h.tape,h.output,?_⟩;rw [aP.out,hfl]
      simpa using h.rv
     clear aP aN aI bu bv bq aJ J aC ar aY bp aF ai
     gi_wp2
     exact HF.out
    ·have aW:Hid (flU d P (ZDi P.length k ++ (G ++ [c]))=flU d P (ZDi P.length k ++ G) ++ [(c,rk d (pks P [] c))]):=by
      show _=_
      rw [aP.out,hfl]; rfl
     have aQ:Hid (∀D,Below m.heap.size m D→(D.alloc (.cells #[.slice co c.length cc,.int .i64 (rk d (pks P [] c):Nat)] 68)).ownsRow (w.heap.size+3) 68 2 rv T.length (T.flatMap ZBv)∧
       (∀j u,(ZBv (.slice co c.length cc,[],rk d (pks P [] c)))[j]?=some u→(D.alloc (.cells #[.slice co c.length cc,.int .i64 (rk d (pks P [] c):Nat)] 68)).cell? ((⟨D.heap.size,0,none⟩:Addr).add j)=some u)∧
       w.heap.size+3≤(D.alloc (.cells #[.slice co c.length cc,.int .i64 (rk d (pks P [] c):Nat)] 68)).heap.size∧
       ∀v' s,s.ownsRow (w.heap.size+3) 68 2 v' (T.length+1) (T.flatMap ZBv ++ ZBv (.slice co c.length cc,[],rk d (pks P [] c)))→(D.alloc (.cells #[.slice co c.length cc,.int .i64 (rk d (pks P [] c):Nat)] 68)).grownBy s rv.ownBlock→(v'.ownBlock=rv.ownBlock∨v'.ownBlock=some (D.alloc (.cells #[.slice co c.length cc,.int .i64 (rk d (pks P [] c):Nat)] 68)).heap.size)→
        s.cell? ⟨w.heap.size+1+1,0,none⟩=some rv∧s.frozen? ⟨w.heap.size+1+1,0,none⟩=false∧(s.cell? ⟨w.heap.size,0,none⟩=some (.int .i64 d)∧s.cell? ⟨w.heap.size+1,0,none⟩=some (.slice N P.length M))∧((s.setCell ⟨w.heap.size+1+1,0,none⟩ v').cell? ⟨w.heap.size,0,none⟩=some (.int .i64 d)∧(s.setCell ⟨w.heap.size+1+1,0,none⟩ v').cell? ⟨w.heap.size+1,0,none⟩=some (.slice N P.length M))∧
        Kpt (fun b=>S b∨False) m (s.setCell ⟨w.heap.size+2,0,none⟩ v')∧FsI w WN wr.heap.size d P (ZDi P.length k) rs S (G ++ [c]) (s.setCell ⟨w.heap.size+2,0,none⟩ v')):=fun D B=>by
      obtain ⟨X,hX⟩:∃X,X=D.alloc (.cells #[.slice co c.length cc,.int .i64 (rk d (pks P [] c):Nat)] 68):=⟨_,rfl⟩
      have aA:Below m.heap.size m X:=by rw [hX]; exact ai.out D B
      have cG:X.heap[D.heap.size]?=some (.cells #[.slice co c.length cc,.int .i64 (rk d (pks P [] c):Nat)] 68 (0,0)):=by rw [hX]; exact heap_alloc_new _ _
      rw [←hX]
      have bK:FlO (fun b=>S b∨b∈rs) (w.heap.size+3) X rv T:=ar.out.keep (fun b A _=>aA.block b A) (fun b A=>.inl A)
      have dj:=aA.size;have dv:=aR.out
      refine ⟨bK.own,ZJm cG,by omega,fun v' s ho L O=>?_⟩
      have bk:∀g,rv.ownBlock=some g→w.heap.size+3≤g:=fun g hg1=>(ZBE ar.out.own g hg1).1
      have ay:∀b,b < m.heap.size→(∀g,rv.ownBlock=some g→b≠g)→s.heap[b]?=m.heap[b]?:=fun b hb1 hne=>
       (L.block b (by omega) (fun e=>hne b e.symm rfl)).trans (aA.block b hb1)
      have h8:s.heap[w.heap.size+2]?=some (.cells #[rv] 65 (0,0)):=(ay _ (by omega) (fun g hg1=>by have:=bk g hg1; omega)).trans aY.out
      have bT:=J.out m (Below.refl _ _)
      have cC:∀b,b < w.heap.size+2→s.heap[b]?=m.heap[b]?:=fun b A=>ay b (by omega) (fun g hg1=>by have:=bk g hg1; omega)
      have dh:∀b,b < w.heap.size+2→(s.setCell ⟨w.heap.size+2,0,none⟩ v').heap[b]?=m.heap[b]?:=fun b A=>(Below.heap_setCell _ _ _ _ (by show b≠w.heap.size+2; omega)).trans (cC b A)
      have dt:=L.size
      have bD:∀b,m.heap.size≤b→¬(S b∨b∈rs):=fun b hb1 hs=>by
       rcases hs with hs | hs
       ·have:=cV.out b hs; omega
       ·have:=am.out b hs
        have:=cj.out;omega
      have bh:=bK.push (t:=(.slice co c.length cc,c,rk d (pks P [] c))) (aI.out.below aA (Za4 _)) bu.out ho L (fun g hg1=>by
       rcases O with h | h
       ·rw [h] at hg1; exact ar.out.off g hg1
       ·rw [h] at hg1
        simp only [Zaa9] at hg1
        exact bD g (by omega))
      have bN:=bh.set (b:=w.heap.size+2) (j:=0) (u:=v') (by omega) h8 (by decide)
      have bS:∀Y:World,(∀b,b < w.heap.size+2→Y.heap[b]?=m.heap[b]?)→Y.cell? ⟨w.heap.size,0,none⟩=some (.int .i64 d)∧Y.cell? ⟨w.heap.size+1,0,none⟩=some (.slice N P.length M):=fun Y hY=>⟨(World.cell?_of_block (w:=m) (hY _ (by show w.heap.size < _; omega))).trans bT.1,(World.cell?_of_block (w:=m) (hY _ (by show w.heap.size+1 < _; omega))).trans bT.2⟩
      refine ⟨ZAe h8,by show s.frozen? ⟨w.heap.size+2,0,none⟩=false; simp [World.frozen?,h8],bS _ cC,bS _ dh,⟨by simp [World.setCell]; omega,fun b hb1 hs=>?_⟩,?_⟩
      ·have cB:S b:=hs.elim id False.elim
       refine (Below.heap_setCell _ _ _ _ (by show b≠w.heap.size+2; have:=cJ.out b cB; omega)).trans (ay b hb1 (fun g hg1 e=>?_))
       subst e;exact ar.out.off _ hg1 (.inl cB)
      ·obtain ⟨q1,q2,q3,q4,q5,_⟩:=aN.out X aA
       refine ⟨q1,q2.trans ⟨?_,fun b hb1 hlt=>?_⟩,L.os.trans q3,L.tape.trans q4,L.output.trans q5,v',T ++ [(.slice co c.length cc,c,rk d (pks P [] c))],ZKm h8,bN,?_⟩
       ·simp [World.setCell]; omega
       ·have bU:b < m.heap.size:=by
         rcases hlt with h | h
         ·omega
         ·have:=am.out b h
          have:=cj.out;omega
        have cY:b≠w.heap.size+2:=by
         rcases hlt with h | h
         ·omega
         ·have:=HI.out.rlo b h; omega
        refine (Below.heap_setCell _ _ _ _ (by show b≠w.heap.size+2; exact cY)).trans ((ay b bU (fun g hg1 e=>?_)).trans (aA.block b bU).symm)
        subst e
        rcases hlt with h | h
        ·have:=bk _ hg1; omega
        ·exact ar.out.off _ hg1 (.inr h)
       ·rw [List.map_append,bp.out,aW.out]; rfl
     clear aP aW aN bv bu ar aY bp hfl
     obtain ⟨W6,cU⟩:∃W6,W6=w6:=⟨_,rfl⟩
     have aD:Hid (Below m.heap.size m w6.drew):=bP.out.drew;have cR:=J.out w6.drew aD.out;have cF:w.heap.size+1+1=w.heap.size+2:=rfl;clear cF cU
     gi_upto_region 8 with fail
     refine ZCU (fun w'=>w'.cell? ⟨w.heap.size,0,none⟩=some (.int .i64 d)∧w'.cell? ⟨w.heap.size+1,0,none⟩=some (.slice N P.length M)) (by kernel_rfl) (ZIr (by kernel_rfl)) (fun a w h=>h) cR (fun hHeld=>?_)
     refine ZAA (i:=1) (d:=24) (v:=(.slice co c.length cc)) rfl rfl (by kernel_rfl) (by kernel_rfl) (by kernel_rfl) (fun _ _ _ h=>h) (.inl ⟨by rfl,by (intro wq U; (try dsimp only at U); go_simp; (try (first | rfl | omega)))⟩) hHeld ?_
     simp only [Act.put,Za1,List.set]
     refine ZAA (i:=2) (d:=25) (v:=(.slice N P.length M)) rfl rfl (by kernel_rfl) (by kernel_rfl) (by kernel_rfl) (fun _ _ _ h=>h) (.inl ⟨by rfl,by (intro wq U; (try dsimp only at U); go_simp; (try (first | rfl | omega)))⟩) hHeld ?_
     simp only [Act.put,Za1,List.set]
     refine ZAA (i:=3) (d:=26) (v:=(.slice co c.length cc)) rfl rfl (by kernel_rfl) (by kernel_rfl) (by kernel_rfl) (fun _ _ _ h=>h) (.inl ⟨by rfl,by (intro wq U; (try dsimp only at U); go_simp; (try (first | rfl | omega)))⟩) hHeld ?_
     simp only [Act.put,Za1,List.set]
     refine ZAA (i:=5) (d:=28) (v:=(.int .i64 (d:Int))) rfl rfl (by kernel_rfl) (by kernel_rfl) (by kernel_rfl) (fun _ _ _ h=>h) (.inl ⟨by rfl,by (intro wq U; (try dsimp only at U); go_simp; (try (first | rfl | omega)))⟩) hHeld ?_
     simp only [Act.put,Za1,List.set]
     refine wpAnyH_ready (rs:=[0,4]) (by kernel_rfl) (by simp) ?_
     refine ZAF (i:=0) rfl (by rfl) (fun K hK=>?_) (ZAF (i:=4) rfl (by rfl) (fun K hK=>?_) AllReadyH.nil)
     ·have aq:=aC.out _ aD.out
      go_simp
      refine hK.out _ _ (J.out _ aD.out) (fun hHeld=>?_)
      clear hK K aq
      try simp only [Act.put,Za1,List.set]
      refine wpAnyH_ready (rs:=[4]) (by kernel_rfl) (by simp) ?_
      refine ZAF (i:=4) rfl (by rfl) (fun K hK=>?_) AllReadyH.nil
      go_simp;refine (bq.out _ aD.out).mono ?_;rintro e' w7 ⟨zo,zc,rfl,aK,ah⟩
      refine hK.out _ _ (J.out w7 ah) (fun hHeld=>?_)
      clear hK K
      try simp only [Act.put,Za1,List.set]
      refine wpAnyH_ready (rs:=[6]) (by kernel_rfl) (by simp) ?_
      refine ZAF (i:=6) rfl (by rfl) (fun K hK=>?_) AllReadyH.nil
      go_simp;refine (aJ.out _ _ w7 ah aK).mono ?_;rintro e' D ⟨rfl,B⟩
      refine hK.out _ _ (J.out D B) (fun hHeld=>?_)
      clear hK K
      try simp only [Act.put,Za1,List.set]
      refine ZAA (i:=7) (d:=30) (v:=(.agg #[.slice co c.length cc,.int .i64 (rk d (pks P [] c):Nat)])) rfl rfl (by kernel_rfl) (by kernel_rfl) (by kernel_rfl) (fun _ _ _ h=>h) (.inl ⟨by rfl,by (intro wq U; (try dsimp only at U); go_simp; (try (first | rfl | omega)))⟩) hHeld ?_
      simp only [Act.put,Za1,List.set]
      refine wpAnyH_ready (rs:=[8]) (by kernel_rfl) (by simp) ?_
      refine ZAF (i:=8) rfl (by rfl) (fun K hK=>?_) AllReadyH.nil
      go_simp
      refine hK.out _ _ (J.out _ (ai.out D B)) (fun hHeld=>?_)
      clear hK K
      try simp only [Act.put,Za1,List.set]
      obtain ⟨y,E,aa,F⟩:=aQ.out D B
      refine wpAnyH_ready (rs:=[9]) (by kernel_rfl) (by simp) ?_
      refine ZAF (i:=9) rfl (by rfl) (fun K hK=>?_) AllReadyH.nil
      refine ZCB _ _ rfl (w.heap.size+3) rv T.length (T.flatMap ZBv) rfl y ⟨D.heap.size,0,none⟩ (ZBv (.slice co c.length cc,[],rk d (pks P [] c))) rfl rfl E aF.out ak.out aa ?_;intro v' s ho L O;obtain ⟨k1,k2,k3,k4,k5⟩:=F v' s ho L O;obtain ⟨bz,bw,aZ,au⟩:=ZCC ho;subst au;have aj:=hid k5;clear k5 ho L O F y E
      refine hK.out _ _ k3 (fun hHeld=>?_)
      clear hK K
      try simp only [Act.put,Za1,List.set]
      refine wpAnyH_ready (rs:=[10]) (by kernel_rfl) (by simp) ?_
      refine ZAF (i:=10) rfl (by rfl) (fun K hK=>?_) AllReadyH.nil
      go_simp
      refine hK.out _ _ k4 (fun hHeld=>?_)
      clear hK K
      refine wpAnyH_done (by kernel_rfl) ?_ _
      dsimp only [Nrm]
      gi_wp2
      exact aj.out
     ·go_simp
      refine (bq.out _ aD.out).mono ?_;rintro e' w7 ⟨zo,zc,rfl,aK,ah⟩
      refine hK.out _ _ (J.out w7 ah) (fun hHeld=>?_)
      clear hK K
      try simp only [Act.put,Za1,List.set]
      refine wpAnyH_ready (rs:=[0,6]) (by kernel_rfl) (by simp) ?_
      refine ZAF (i:=0) rfl (by rfl) (fun K hK=>?_) (ZAF (i:=6) rfl (by rfl) (fun K hK=>?_) AllReadyH.nil)
      ·have aq:=aC.out w7 ah
       go_simp
       refine hK.out _ _ (J.out w7 ah) (fun hHeld=>?_)
       clear hK K aq
       try simp only [Act.put,Za1,List.set]
       refine wpAnyH_ready (rs:=[6]) (by kernel_rfl) (by simp) ?_
       refine ZAF (i:=6) rfl (by rfl) (fun K hK=>?_) AllReadyH.nil
       go_simp;refine (aJ.out _ _ w7 ah aK).mono ?_;rintro e' D ⟨rfl,B⟩
       refine hK.out _ _ (J.out D B) (fun hHeld=>?_)
       clear hK K
       try simp only [Act.put,Za1,List.set]
       refine ZAA (i:=7) (d:=30) (v:=(.agg #[.slice co c.length cc,.int .i64 (rk d (pks P [] c):Nat)])) rfl rfl (by kernel_rfl) (by kernel_rfl) (by kernel_rfl) (fun _ _ _ h=>h) (.inl ⟨by rfl,by (intro wq U; (try dsimp only at U); go_simp; (try (first | rfl | omega)))⟩) hHeld ?_
       simp only [Act.put,Za1,List.set]
       refine wpAnyH_ready (rs:=[8]) (by kernel_rfl) (by simp) ?_
       refine ZAF (i:=8) rfl (by rfl) (fun K hK=>?_) AllReadyH.nil
       go_simp
       refine hK.out _ _ (J.out _ (ai.out D B)) (fun hHeld=>?_)
       clear hK K
       try simp only [Act.put,Za1,List.set]
       obtain ⟨y,E,aa,F⟩:=aQ.out D B
       refine wpAnyH_ready (rs:=[9]) (by kernel_rfl) (by simp) ?_
       refine ZAF (i:=9) rfl (by rfl) (fun K hK=>?_) AllReadyH.nil
       refine ZCB _ _ rfl (w.heap.size+3) rv T.length (T.flatMap ZBv) rfl y ⟨D.heap.size,0,none⟩ (ZBv (.slice co c.length cc,[],rk d (pks P [] c))) rfl rfl E aF.out ak.out aa ?_;intro v' s ho L O;obtain ⟨k1,k2,k3,k4,k5⟩:=F v' s ho L O;obtain ⟨bz,bw,aZ,au⟩:=ZCC ho;subst au;have aj:=hid k5;clear k5 ho L O F y E
       refine hK.out _ _ k3 (fun hHeld=>?_)
       clear hK K
       try simp only [Act.put,Za1,List.set]
       refine wpAnyH_ready (rs:=[10]) (by kernel_rfl) (by simp) ?_
       refine ZAF (i:=10) rfl (by rfl) (fun K hK=>?_) AllReadyH.nil
       go_simp
       refine hK.out _ _ k4 (fun hHeld=>?_)
       clear hK K
       refine wpAnyH_done (by kernel_rfl) ?_ _
       dsimp only [Nrm]
       gi_wp2
       exact aj.out
      ·go_simp
       refine (aJ.out _ _ w7 ah aK).mono ?_;rintro e' D ⟨rfl,B⟩
       refine hK.out _ _ (J.out D B) (fun hHeld=>?_)
       clear hK K
       try simp only [Act.put,Za1,List.set]
       refine ZAA (i:=7) (d:=30) (v:=(.agg #[.slice co c.length cc,.int .i64 (rk d (pks P [] c):Nat)])) rfl rfl (by kernel_rfl) (by kernel_rfl) (by kernel_rfl) (fun _ _ _ h=>h) (.inl ⟨by rfl,by (intro wq U; (try dsimp only at U); go_simp; (try (first | rfl | omega)))⟩) hHeld ?_
       simp only [Act.put,Za1,List.set]
       refine wpAnyH_ready (rs:=[0,8]) (by kernel_rfl) (by simp) ?_
       refine ZAF (i:=0) rfl (by rfl) (fun K hK=>?_) (ZAF (i:=8) rfl (by rfl) (fun K hK=>?_) AllReadyH.nil)
       ·have aq:=aC.out D B
        go_simp
        refine hK.out _ _ (J.out D B) (fun hHeld=>?_)
        clear hK K aq
        try simp only [Act.put,Za1,List.set]
        refine wpAnyH_ready (rs:=[8]) (by kernel_rfl) (by simp) ?_
        refine ZAF (i:=8) rfl (by rfl) (fun K hK=>?_) AllReadyH.nil
        go_simp
        refine hK.out _ _ (J.out _ (ai.out D B)) (fun hHeld=>?_)
        clear hK K
        try simp only [Act.put,Za1,List.set]
        obtain ⟨y,E,aa,F⟩:=aQ.out D B
        refine wpAnyH_ready (rs:=[9]) (by kernel_rfl) (by simp) ?_
        refine ZAF (i:=9) rfl (by rfl) (fun K hK=>?_) AllReadyH.nil
        refine ZCB _ _ rfl (w.heap.size+3) rv T.length (T.flatMap ZBv) rfl y ⟨D.heap.size,0,none⟩ (ZBv (.slice co c.length cc,[],rk d (pks P [] c))) rfl rfl E aF.out ak.out aa ?_;intro v' s ho L O;obtain ⟨k1,k2,k3,k4,k5⟩:=F v' s ho L O;obtain ⟨bz,bw,aZ,au⟩:=ZCC ho;subst au;have aj:=hid k5;clear k5 ho L O F y E
        refine hK.out _ _ k3 (fun hHeld=>?_)
        clear hK K
        try simp only [Act.put,Za1,List.set]
        refine wpAnyH_ready (rs:=[10]) (by kernel_rfl) (by simp) ?_
        refine ZAF (i:=10) rfl (by rfl) (fun K hK=>?_) AllReadyH.nil
        go_simp
        refine hK.out _ _ k4 (fun hHeld=>?_)
        clear hK K
        refine wpAnyH_done (by kernel_rfl) ?_ _
        dsimp only [Nrm]
        gi_wp2
        exact aj.out
       ·go_simp
        refine hK.out _ _ (J.out _ (ai.out D B)) (fun hHeld=>?_)
        clear hK K
        try simp only [Act.put,Za1,List.set]
        refine wpAnyH_ready (rs:=[0]) (by kernel_rfl) (by simp) ?_
        refine ZAF (i:=0) rfl (by rfl) (fun K hK=>?_) AllReadyH.nil
        have aq:=aC.out (D.alloc (.cells #[.slice co c.length cc,.int .i64 (rk d (pks P [] c):Nat)] 68)) (ai.out D B);go_simp
        refine hK.out _ _ (J.out (D.alloc (.cells #[.slice co c.length cc,.int .i64 (rk d (pks P [] c):Nat)] 68)) (ai.out D B)) (fun hHeld=>?_)
        clear hK K aq
        try simp only [Act.put,Za1,List.set]
        obtain ⟨y,E,aa,F⟩:=aQ.out D B
        refine wpAnyH_ready (rs:=[9]) (by kernel_rfl) (by simp) ?_
        refine ZAF (i:=9) rfl (by rfl) (fun K hK=>?_) AllReadyH.nil
        refine ZCB _ _ rfl (w.heap.size+3) rv T.length (T.flatMap ZBv) rfl y ⟨D.heap.size,0,none⟩ (ZBv (.slice co c.length cc,[],rk d (pks P [] c))) rfl rfl E aF.out ak.out aa ?_;intro v' s ho L O;obtain ⟨k1,k2,k3,k4,k5⟩:=F v' s ho L O;obtain ⟨bz,bw,aZ,au⟩:=ZCC ho;subst au;have aj:=hid k5;clear k5 ho L O F y E
        refine hK.out _ _ k3 (fun hHeld=>?_)
        clear hK K
        try simp only [Act.put,Za1,List.set]
        refine wpAnyH_ready (rs:=[10]) (by kernel_rfl) (by simp) ?_
        refine ZAF (i:=10) rfl (by rfl) (fun K hK=>?_) AllReadyH.nil
        go_simp
        refine hK.out _ _ k4 (fun hHeld=>?_)
        clear hK K
        refine wpAnyH_done (by kernel_rfl) ?_ _
        dsimp only [Nrm]
        gi_wp2
        exact aj.out
   case done=>
    rintro S W' hi bC aM;have HD:=hid hi;have bY:=hi.kp.size;have dl:=bi.out
    have cE:Hid (FoI w d P (.slice N P.length M) (k+1) (WN.heap.size :: rs) W'):=by
     have f:=HI.out;obtain ⟨u,T,r1,r2,r3⟩:=hi.rv
     refine ⟨fun b A=>(hi.kp.block b (by omega) (.inl (by omega))).trans (bW.out b A),(hi.kp.block _ (by omega) (.inl (by omega))).trans bO.out,(hi.kp.block _ (by omega) (.inl (by omega))).trans bR.out,hi.os,hi.tape,hi.output,by omega,List.nodup_cons.2 ⟨fun h=>by have:=am.out _ h; omega,f.nd⟩,fun r hr=>?_,fun r hr=>?_,u,T,r1,r2.keep (fun _ _ _=>rfl) (fun b A=>?_),by rw [ZHE]; exact r3⟩
     ·rcases List.mem_cons.1 hr with rfl | hr
      ·exact aM
      ·have V:=am.out r hr
       exact (hi.kp.block r (by omega) (.inr hr)).trans ((cN.out r V).trans (f.mark r hr))
     ·rcases List.mem_cons.1 hr with rfl | hr
      ·omega
      ·exact f.rlo r hr
     ·rcases List.mem_cons.1 A with rfl | A
      ·exact .inl (.inl bC)
      ·exact .inl (.inr A)
    gi_wp2
    refine ⟨⟨k+1,WN.heap.size :: rs,.int .i64 k,u7,.bool true,.int .i64 k,.slice N P.length M,.int .i64 P.length,.int .i64 k,.func (.func 86) #[] #[.pointer (some ⟨wr.heap.size+1,0,none⟩),.pointer (some ⟨wr.heap.size,0,none⟩)],.int .i64 ((k:Int)+1),by omega,cE.out,?_⟩,?_⟩
    ·rw [show ((k+1:Nat):Int)=(k:Int)+1 by omega]
     rfl
    ·simp [intOf]; omega
  ·have de:k=P.length+1:=by omega
   subst de
   have cX:decide (((P.length+1:Nat):Int) < (P.length:Int)+1)=false:=by simp
   have f:=HI.out;obtain ⟨u,T,r1,r2,r3⟩:=f.rv;have bE:ZDi P.length (P.length+1)=ZDY P.length:=rfl;rw [bE] at r3
   have cw:0 < T.length:=by
    have hm:(([]:List Int),rk d (pks P [] []))∈flU d P (ZDY P.length):=by
     obtain ⟨V,h2⟩:=(ZBj (n:=P.length) (by omega)).2.1 0 (Nat.pow_pos (by decide))
     have e:ZBH P.length 0=[]:=by simp [ZBH]
     rw [e] at V h2
     exact List.mem_map.2 ⟨[],List.mem_filter.2 ⟨V,by rw [h2]; exact cI.out⟩,rfl⟩
    rw [←r3] at hm;have:=List.length_pos_of_mem hm
    simpa using this
   have cA:T.length≤1000000:=by
    have V:T.length=(flU d P (ZDY P.length)).length:=by rw [←r3,Zab1]
    have h2:=ZKg d P (ZDY P.length)
    have h3:(ZDY P.length).length≤64:=by
     have:∀n,n≤6→(ZDY n).length≤64:=by decide
     exact this _ h5
    omega
   obtain ⟨uo,uc,hu⟩:∃uo uc,u=.slice uo T.length uc:=by
    rcases r2.own.2 with ⟨V,h2⟩ | ⟨g,cap,bV,V,_⟩
    ·omega
    ·exact ⟨_,_,V⟩
   subst hu;have aE:=hid r2;have cg:=hid r3
   have bF:Hid (Calls Tryz.prog 60 #[.slice uo T.length uc,.func (.func 61) #[] #[]] wr fun e w'=>e=.returned (.tuple #[])∧∃T':List FlT,T'.Perm T∧(∀i j,i < j→j < T'.length→¬fcf (T'.getD j (.slice none 0 0,[],0)).2 (T'.getD i (.slice none 0 0,[],0)).2 < 0)∧FlR (w.heap.size+3) w' (.slice uo T.length uc) T'∧wr.grownBy w' (Value.slice uo T.length uc).ownBlock):=ZMI (w.heap.size+3) T _ wr ⟨r2.own,r2.sl⟩ cw cA
   have c2:wr.cell? ⟨w.heap.size+1+1,0,none⟩=some (.slice uo T.length uc):=ZAe r1;have bX:=hid r1;clear f r1 r2 r3 bE cw cA c1
   gi_wp2_with fail
   refine ⟨trivial,rfl,?_⟩
   gi_at_call 60
   refine (callsIn_wide.2 bF.out).mono ?_;rintro e w2 ⟨rfl,T',ae,aH,bA,L⟩
   have af:∀b,b < wr.heap.size→(∀g,(Value.slice uo T.length uc).ownBlock=some g→b≠g)→w2.heap[b]?=wr.heap[b]?:=fun b A hne=>L.block b A (fun e=>hne b e.symm rfl)
   have bj:∀g,(Value.slice uo T.length uc).ownBlock=some g→w.heap.size+3≤g:=fun g hg1=>(ZBE aE.out.own g hg1).1
   have c3:w2.cell? ⟨w.heap.size+1+1,0,none⟩=some (.slice uo T.length uc):=ZAe ((af (w.heap.size+2) (by omega) (fun g hg1=>by have:=bj g hg1; omega)).trans bX.out)
   have ak:Hid (T'.length=T.length):=ae.length_eq
   have cS:Hid (∀w',Chg (fun b=>b∈rs) w2 w'→FlR (w.heap.size+3) w' (.slice uo T'.length uc) T'∧(FlS d P (T'.map fun t=>t.2)∧FlA (T'.map fun t=>t.2))∧Below w.heap.size w w'):=fun w' hc=>by
    have aL:FlO (fun b=>b∈rs) (w.heap.size+3) w2 (.slice uo T.length uc) T':=⟨bA.own,aE.out.off,bA.inn,fun t ht=>aE.out.so t (ae.mem_iff.1 ht)⟩
    have bL:=aL.keep (S':=fun b=>b∈rs) (fun b A hn=>hc.block b A hn) (fun b A=>.inl A)
    rw [ak.out]
    refine ⟨⟨bL.own,bL.sl⟩,⟨⟨?_,fun i j hij hj=>?_⟩,fun i j hij hj=>?_⟩,?_⟩
    ·rw [←cg.out]
     exact ae.map _
    ·rw [Zab1] at hj
     have V:=aH i j hij hj
     have h2:∀q,q < T'.length→(T'.map fun t=>t.2).getD q ([],0)=(T'.getD q (.slice none 0 0,[],0)).2:=fun q hq=>by simp [hq]
     rw [h2 i (by omega),h2 j hj]
     refine Za6 fun hlt=>?_
     have h3:=(ZDL (T'.getD j (.slice none 0 0,[],0)).2 (T'.getD i (.slice none 0 0,[],0)).2).2 (.inl (by omega))
     omega
    ·rw [Zab1] at hj
     have V:=aH i j hij hj
     have h2:∀q,q < T'.length→(T'.map fun t=>t.2).getD q ([],0)=(T'.getD q (.slice none 0 0,[],0)).2:=fun q hq=>by simp [hq]
     rw [h2 i (by omega),h2 j hj]
     first | exact V | omega
    ·have f:=HI.out
     refine ⟨hc.os.trans (L.os.trans f.os),hc.tape.trans (L.tape.trans f.tape),hc.output.trans (L.output.trans f.output),by have:=hc.size; have:=L.size; omega,fun b A=>?_⟩
     have V:=af b (by omega) (fun g hg1=>by have:=bj g hg1; omega)
     exact (hc.block b (by have:=L.size; omega) (fun hx=>by have:=f.rlo b hx; omega)).trans (V.trans (f.low b A))
   have cT:Hid (∀r∈rs,w2.heap[r]?=some (.deferred (some []))):=fun r hr=>by
    have V:=HI.out.mark r hr;have h2:=(Zaa3.1 V).1
    exact (af r h2 (fun g hg1 e=>aE.out.off g hg1 (by rw [←e]; exact hr))).trans V
   have cH:Hid (rs.Nodup):=HI.out.nd;clear ae aH bA L af bj c2 bF aE cg bX HI
   gi_wp2
   refine ZAq rs w2 cH.out cT.out (fun w' hc=>⟨.slice uo T.length uc,by simp [results,Tryz.results39,go_sem],uo,uc,T',?_,?_⟩)
   ·rw [ak.out]
   ·exact cS.out w' hc
theorem ZML(d:Nat)(P:List (List Int))(v:Value)(w:World)(hd1:1≤d)(hd3:d≤3)(hG:∀p∈P,p.length=d+1∧∀z∈p,z.natAbs≤20)(hne:flB d P 0=true)(h5:P.length≤6)(hv:Mat 0 22 3 w v P) :
  Calls Tryz.prog 39 #[.int .i64 d,v] w fun e w'=>∃uo uc T,e=.returned (.slice uo T.length uc)∧FlR (w.heap.size+3) w' (.slice uo T.length uc) T∧FlS d P (T.map fun t=>t.2)∧Below w.heap.size w w':=
 (ZFX d P v w hd1 hd3 hG hne h5 hv).mono (by
  rintro e w' ⟨uo,uc,T,a,b,f,c⟩;exact ⟨uo,uc,T,a,b,f.1,c⟩)
end Go.Proofs.YtgfnmkenpgnllaaGreat
