import Derived.Test.YtkjkfceblmgogaaGreatFlB
set_option maxRecDepth 100000
set_option maxHeartbeats 8000000
namespace Go.Proofs.YtkjkfceblmgogaaGreat
open Go.RowKit Go.Shelf Lin
theorem ZDN{B n sz:Nat}{e:TypeId}{w w':World}{v:Value}{xs:List Value}(h:w.ownsRow B e sz v n xs)(hk:∀b,v.ownBlock=some b→w'.heap[b]?=w.heap[b]?):w'.ownsRow B e sz v n xs:=by
 refine ⟨h.1,?_⟩
 rcases h.2 with h2 | ⟨g,cap,cur,rfl,hb,hh,r⟩
 ·exact Or.inl h2
 ·exact Or.inr ⟨g,cap,cur,rfl,hb,(hk g rfl).trans hh,r⟩
theorem ZBG{B n sz:Nat}{e:TypeId}{w:World}{v:Value}{xs:List Value}(h:w.ownsRow B e sz v n xs):∀b,v.ownBlock=some b→B≤b∧b < w.heap.size∧∃cur,w.heap[b]?=some (.cells cur e (0,0)):=by
 intro b a
 rcases h.2 with ⟨h1,_⟩ | ⟨g,cap,cur,rfl,hB,hh,_⟩
 ·rw [h1] at a; simp [Value.ownBlock] at a
 ·simp only [Value.ownBlock,Zaa9] at a
  subst a;exact ⟨hB,(Zaa3.1 hh).1,cur,hh⟩
theorem ZCY{w W:World}{v:Value}{xs:List Int}(h:Sl 0 3 w v (ZAB xs))(hk:0 < xs.length→∀a n c,v=.slice (some a) n c→W.heap[a.block]?=w.heap[a.block]?):Sl 0 3 W v (ZAB xs):=by
 obtain ⟨m,f,rfl,j,r,s,p⟩:=h
 refine ⟨m,f,rfl,j,r,fun i hi=>?_,p⟩
 obtain ⟨b,o,rfl,l,d⟩:=s i hi
 have g:=hk (by simp at hi; omega) _ _ _ rfl
 refine ⟨b,o,rfl,?_,?_⟩
 ·rw [←l]
  simp only [World.cell?];rw [g]
 ·rcases d with d | ⟨cur,d⟩
  ·omega
  ·exact Or.inr ⟨cur,g.trans d⟩
theorem ZBy{w:World}{a:Addr}{n c:Nat}{xs:List Int}(h:Sl 0 3 w (.slice (some a) n c) (ZAB xs))(hp:0 < xs.length):a.block < w.heap.size:=by
 obtain ⟨m,i,d,_,_,l,_⟩:=h
 obtain ⟨b,o,f,j,_⟩:=l 0 (by simpa using hp)
 simp only [Za3] at d;rw [←d.1] at f
 cases f
 have g:w.cell? ⟨b,o+0,none⟩=some ((ZAB xs)[0]'(by simpa using hp)):=by rw [j]; simp
 exact ZAH g
structure FlO(S:Nat→Prop)(B:Nat)(W:World)(v:Value)(T:List FlT):Prop where
 own:W.ownsRow B 63 2 v T.length (T.flatMap ZBx)
 off:∀g,v.ownBlock=some g→¬S g
 sl:∀t∈T,Sl 0 3 W t.1 (ZAB t.2.1)
 so:∀t∈T,0 < t.2.1.length→∃a n c,t.1=.slice (some a) n c∧¬S a.block
theorem FlO.keep{S S':Nat→Prop}{B:Nat}{W W':World}{v:Value}{T:List FlT}(h:FlO S B W v T)(hc:∀b,b < W.heap.size→¬S b→W'.heap[b]?=W.heap[b]?)(hs:∀b,S' b→S b∨W.heap.size≤b):FlO S' B W' v T:=by
 refine ⟨ZDN h.own fun b hb=>hc b (ZBG h.own b hb).2.1 (h.off b hb),fun g hg hx=>?_,fun t ht=>ZCY (h.sl t ht) (fun hp a n c e=>?_),fun t ht hp=>?_⟩
 ·rcases hs g hx with h1 | h1
  ·exact h.off g hg h1
  ·have:=(ZBG h.own g hg).2.1; omega
 ·obtain ⟨l,m,j,i,f⟩:=h.so t ht hp
  rw [e] at i
  cases i
  have d:=h.sl t ht;rw [e] at d;exact hc _ (ZBy d hp) f
 ·obtain ⟨a,n,c,e,f⟩:=h.so t ht hp
  refine ⟨a,n,c,e,fun hx=>?_⟩
  have d:=h.sl t ht;rw [e] at d
  rcases hs _ hx with h1 | h1
  ·exact f h1
  ·have:=ZBy d hp; omega
theorem FlO.push{S:Nat→Prop}{B:Nat}{W W':World}{v v':Value}{T:List FlT}{t:FlT}(h:FlO S B W v T)(hu:Sl 0 3 W t.1 (ZAB t.2.1))(hun:0 < t.2.1.length→∃a n c,t.1=.slice (some a) n c∧¬S a.block)
 (ho:W'.ownsRow B 63 2 v' (T.length+1) (T.flatMap ZBx ++ ZBx t))(hg:W.grownBy W' v.ownBlock)(hn:∀g,v'.ownBlock=some g→¬S g):FlO S B W' v' (T ++ [t]):=by
 have b:∀k,v.ownBlock=some k→0≤k∧∀cur,W.heap[k]?≠some (.cells cur 3 (0,0)):=fun k hk=>⟨Za5 _,fun cur hx=>by
  obtain ⟨_,_,f,d⟩:=ZBG h.own k hk;rw [d] at hx;simp at hx⟩
 refine ⟨by simpa using ho,hn,fun x hx=>?_,fun x hx hp=>?_⟩
 ·rcases List.mem_append.1 hx with hx | hx
  ·exact (h.sl x hx).grown hg b
  ·rw [List.mem_singleton.1 hx]; exact hu.grown hg b
 ·rcases List.mem_append.1 hx with hx | hx
  ·exact h.so x hx hp
  ·rw [List.mem_singleton.1 hx] at hp ⊢; exact hun hp
theorem FlO.set{S:Nat→Prop}{B b j:Nat}{t:TypeId}{w:World}{v u:Value}{T:List FlT}{cur:Array Value}(h:FlO S B w v T)(hb:b < B)(hR:w.heap[b]?=some (.cells cur t (0,0)))(ht:t≠3):FlO S B (w.setCell ⟨b,j,none⟩ u) v T:=by
 have a:∀k,k≠b→(w.setCell ⟨b,j,none⟩ u).heap[k]?=w.heap[k]?:=fun k hk=>Below.heap_setCell _ _ _ _ hk
 refine ⟨ZDN h.own fun k hk=>a k (by have:=(ZBG h.own k hk).1; omega),h.off,fun x hx=>?_,h.so⟩
 refine (h.sl x hx).move fun k hl hk=>?_
 rcases hk with hk | ⟨c,hk⟩
 ·omega
 ·have d:k≠b:=by
   rintro rfl;rw [hR] at hk;simp at hk;exact ht hk.2
  exact ⟨a k d,Or.inr ⟨c,hk⟩⟩
structure FsI(w WN:World)(N d:Nat)(P done:List (List Int))(rs:List Nat)(S:Nat→Prop)(pre:List (List Int))(W:World):Prop where
 sn:∀b,S b→N≤b
 kp:Kpt (fun b=>b < w.heap.size+2∨b∈rs) WN W
 os:W.os=w.os
 tape:W.tape=w.tape
 output:W.output=w.output
 rv:∃v T,W.heap[w.heap.size+2]?=some (.cells #[v] 60 (0,0))∧FlO (fun b=>S b∨b∈rs) (w.heap.size+3) W v T∧T.map (fun t=>t.2)=flU d P (done ++ pre)
theorem FsI.stab{w WN W W':World}{N d:Nat}{P done pre:List (List Int)}{rs:List Nat}{S S':Nat→Prop}(h:FsI w WN N d P done rs S pre W)(h1:w.heap.size+3≤N)(h2:N≤WN.heap.size)(h3:∀r∈rs,r < N)(hc:Chg S W W')(hs:∀b,S' b→S b∨W.heap.size≤b):FsI w WN N d P done rs S' pre W':=by
 have g:=h.kp.size;obtain ⟨v,T,a,c,f⟩:=h.rv
 refine ⟨fun b a=>?_,h.kp.trans (Kpt.of_chg hc fun i _ hi hsi=>?_),hc.os.trans h.os,hc.tape.trans h.tape,hc.output.trans h.output,v,T,(hc.block _ (by omega) (fun hx=>by have:=h.sn _ hx; omega)).trans a,c.keep (fun b a hn=>hc.block b a fun hx=>hn (.inl hx)) (fun b a=>?_),f⟩
 ·rcases hs b a with hx | hx
  ·exact h.sn b hx
  ·omega
 ·have:=h.sn i hsi
  rcases hi with hi | hi
  ·omega
  ·have:=h3 i hi; omega
 ·rcases a with a | a
  ·rcases hs b a with hx | hx
   ·exact .inl (.inl hx)
   ·exact .inr hx
  ·exact .inl (.inr a)
theorem ZJ1{W:World}{u:Value}{r b:Nat}(hh:W.heap[b]?=some (.cells #[u,.int .i64 (r:Nat)] 63 (0,0))):∀j x,(ZBx (u,[],r))[j]?=some x→W.cell? ((⟨b,0,none⟩:Addr).add j)=some x:=by
 intro j x c;have a:=(List.getElem?_eq_some_iff.1 c).1
 rcases (show j=0∨j=1 by simp [ZBx] at a; omega) with rfl | rfl
 ·have e:x=u:=by simpa [ZBx] using c.symm
  subst e
  show W.cell? ⟨b,0,none⟩=_
  unfold World.cell?;rw [hh];rfl
 ·have e:x=.int .i64 (r:Nat):=by simpa [ZBx] using c.symm
  subst e
  show W.cell? ⟨b,1,none⟩=_
  unfold World.cell?;rw [hh];rfl
theorem ZCC{o:Oper}{a:Act}{w:World}{K:Act→World→Prop}{Q:Exit→Act→World→Prop}
 (s x:Operand)(hop:o.op=Op.call { callee:=Callee.builtin Builtin.append,args:=#[s,x],argTypes:=#[60,60] })
 (base:Nat)(v:Value)(n:Nat)(xs:List Value)(hs:a.eval s=v)(hown:w.ownsRow base 63 2 v n xs)
 (ad:Addr)(news:List Value)(hx:a.eval x=.slice (some ad) 1 1)(hl:news.length=2)(hcl:∀j u,news[j]?=some u→w.cell? (ad.add j)=some u)(h1c:∀u∈news,u.oneCell'=true)
 (b1:n≤1000000)(hb:base≤w.heap.size)
 (hK:∀v' w',w'.ownsRow base 63 2 v' (n+1) (xs ++ news)→w.grownBy w' v.ownBlock→(v'.ownBlock=v.ownBlock∨v'.ownBlock=some w.heap.size)→K (a.put o.dst v') w'):Oper.wp Tryz.prog o a w K Q:=by
 obtain ⟨i,p,f,c,d⟩:=info_parts Tryz.infoF
 obtain ⟨v',w',b,l,g,_,m⟩:=run_append_own_at (P:=Tryz.prog) w base 60 o.type 63 i (.agg #[.slice none 0 0,.int .i64 0]) 2 32 (by kernel_rfl) p f c d rfl (by decide) v n xs hown ad 1 1 news (by omega) hcl h1c (by unfold maxLen; omega) (by omega) hb
 unfold Oper.wp;simp [execOp,hop,resolve,invoke,builtin,hs,hx,b,Result.andThen];exact hK v' w' l g m
end Go.Proofs.YtkjkfceblmgogaaGreat
namespace Go.Proofs.YtkjkfceblmgogaaGreat
open Go.RowKit Go.Shelf Lin
attribute [local go_sem] Oper.semAt_some
def ZDg(n k:Nat):List (List Int):=(List.range k).flatMap fun q=>ext n q 0
theorem ZHQ(n k:Nat):ZDg n (k+1)=ZDg n k ++ ext n k 0:=by simp [ZDg,List.range_succ]
structure FoI(w:World)(d:Nat)(P:List (List Int))(v:Value)(k:Nat)(rs:List Nat)(W:World):Prop where
 low:∀b,b < w.heap.size→W.heap[b]?=w.heap[b]?
 b0:W.heap[w.heap.size]?=some (.cells #[.int .i64 d] 3 (0,0))
 b1:W.heap[w.heap.size+1]?=some (.cells #[v] 22 (0,0))
 os:W.os=w.os
 tape:W.tape=w.tape
 output:W.output=w.output
 size:w.heap.size+3≤W.heap.size
 nd:rs.Nodup
 mark:∀r∈rs,W.heap[r]?=some (.deferred (some []))
 rlo:∀r∈rs,w.heap.size+3≤r
 rv:∃u T,W.heap[w.heap.size+2]?=some (.cells #[u] 60 (0,0))∧FlO (fun b=>b∈rs) (w.heap.size+3) W u T∧T.map (fun t=>t.2)=flU d P (ZDg P.length k)
theorem ZCD{B n sz:Nat}{e:TypeId}{w:World}{v:Value}{xs:List Value}(h:w.ownsRow B e sz v n xs):∃vo vn vc,v=.slice vo vn vc:=by
 rcases h.2 with ⟨h1,_⟩ | ⟨g,cap,cur,h1,_⟩
 ·exact ⟨_,_,_,h1⟩
 ·exact ⟨_,_,_,h1⟩
theorem ZMZ{B:Nat}{w W:World}{v:Value}{m:List (List Int)}(h:Mat B 27 3 w v m)(hk:∀b,b < w.heap.size→W.heap[b]?=w.heap[b]?):Mat B 27 3 W v m:=by
 obtain ⟨a,c,d,f⟩:=h
 exact ⟨a,c,d.move fun b hb ht=>⟨hk b hb,ht⟩,fun i hi=>(f i hi).move fun b hb ht=>⟨hk b hb,ht⟩⟩
def FlA(m:List (List Int×Nat)):Prop:=∀i j,i < j→j < m.length→¬fcf (m.getD j ([],0)) (m.getD i ([],0)) < 0
theorem ZFe{B0:Nat}(d:Nat)(P:List (List Int))(v:Value)(w:World)(hd1:1≤d)(hd3:d≤3)(hG:∀p∈P,p.length=d+1∧∀z∈p,z.natAbs≤20)(hne:flB d P 0=true)(h5:P.length≤6)(hv:Mat B0 27 3 w v P) :
  Calls Tryz.prog 34 #[.int .i64 d,v] w fun e w'=>∃uo uc T,e=.returned (.slice uo T.length uc)∧FlR (w.heap.size+3) w' (.slice uo T.length uc) T∧(FlS d P (T.map fun t=>t.2)∧FlA (T.map fun t=>t.2))∧Below w.heap.size w w':=by
 obtain ⟨N,M,rfl,_,_⟩:=ZAD hv;have HV:Hid (Mat B0 27 3 w (.slice N P.length M) P):=hv;have bV:=hid hG
 obtain ⟨W3,ak⟩:∃W3,W3=((w.alloc (.cells #[.int .i64 d] 3)).alloc (.cells #[.slice N P.length M] 22)).alloc (.cells #[.slice none 0 0] 60):=⟨_,rfl⟩
 have aG:Below w.heap.size w W3:=by rw [ak]; exact (((Below.refl _ _).alloc (Za4 _) _).alloc (by simp) _).alloc (by simp; omega) _
 have cM:W3.heap.size=w.heap.size+3:=by rw [ak]; simp
 have n1:W3.heap[w.heap.size]?=some (.cells #[.int .i64 d] 3 (0,0)):=by
  rw [ak]
  exact (Below.heap_alloc _ _ _ (by simp; omega)).trans ((Below.heap_alloc _ _ _ (by simp)).trans (heap_alloc_new _ _))
 have n2:W3.heap[w.heap.size+1]?=some (.cells #[.slice N P.length M] 22 (0,0)):=by
  rw [ak]
  refine (Below.heap_alloc _ _ _ (by simp)).trans ?_
  have:=heap_alloc_new (w.alloc (.cells #[.int .i64 d] 3)) (.cells #[.slice N P.length M] 22)
  simpa using this
 have n3:W3.heap[w.heap.size+2]?=some (.cells #[.slice none 0 0] 60 (0,0)):=by
  rw [ak];have:=heap_alloc_new ((w.alloc (.cells #[.int .i64 d] 3)).alloc (.cells #[.slice N P.length M] 22)) (.cells #[.slice none 0 0] 60)
  simpa using this
 have cZ:Hid (FoI w d P (.slice N P.length M) 0 [] W3):=⟨fun b A=>aG.block b A,n1,n2,aG.os,aG.tape,aG.output,by omega,List.nodup_nil,fun r hr=>absurd hr (by simp),fun r hr=>absurd hr (by simp),.slice none 0 0,[],n3,⟨World.ownsRow_nil _ _ _ _,fun g L=>by simp [Value.ownBlock] at L,fun t ht=>absurd ht (by simp),fun t ht=>absurd ht (by simp)⟩,by simp [ZDg,flU]⟩
 have c1:W3.cell? ⟨w.heap.size+1,0,none⟩=some (.slice N P.length M):=ZAc n2;have aI:=hid ak;have da:=hid hne;clear hv hG aG n1 n2 n3 cM hne ak;refine callsIn_wide (n:=0).1 ?_;refine callsIn_of_wp_marks Tryz.func34 rfl trivial ?_ rfl;simp only [Tryz.ntmps34,List.size_toArray,List.length_cons,List.length_nil,Nat.reduceAdd,Nat.reduceSub,Array.replicate_succ,Array.replicate_zero,List.push_toArray,List.append_toArray,List.nil_append,List.cons_append]
 gi_upto_region 2 with fail
 rw [←aI.out]
 gi_wp2
 clear c1 aI
 refine wpIn_loop (fun a' wr=>∃(k:Nat) (rs:List Nat) (u6 u7 u12 u13 u14 u15 u16 u17 u33:Value),k≤P.length+1∧FoI w d P (.slice N P.length M) k rs wr∧
  a' = { tmps:=#[.int .i64 d,.slice N P.length M,.pointer (some ⟨w.heap.size,0,none⟩),.pointer (some ⟨w.heap.size+1,0,none⟩),.slice none 0 0,.pointer (some ⟨w.heap.size+1+1,0,none⟩),u6,u7,.slice N P.length M,.int .i64 P.length,.int .i64 ((P.length:Int)+1),.int .i64 k,u12,u13,u14,u15,u16,u17,undef,undef,undef,undef,undef,undef,undef,undef,undef,undef,undef,undef,undef,undef,undef,u33,undef,undef,undef],defers:=mks rs }) (fun a' _=>P.length+1-(intOf (a'.tmps.getD 11 undef)).toNat) ?_ ?_
 ·exact ⟨0,[],_,_,_,_,_,_,_,_,_,Za5 _,cZ.out,rfl⟩
 ·rintro _ wr ⟨k,rs,u6,u7,u12,u13,u14,u15,u16,u17,u33,hk,hI,rfl⟩
  have HI:=hid hI;have c1:wr.cell? ⟨w.heap.size+1,0,none⟩=some (.slice N P.length M):=ZAc hI.b1;have cr:=hI.size;clear hI
  by_cases hlt:k < P.length+1
  ·have cW:(k:Int) < (P.length:Int)+1:=by omega
   gi_wp2_with (refine ⟨trivial,rfl,?_⟩; gi_at_call 51; refine (callsIn_wide.2 (ZIp _ _ _)).mono ?_; rintro e w' ⟨rfl,rfl⟩)
   obtain ⟨WN,aA⟩:∃WN,WN=(wr.alloc (.cells #[.int .i64 P.length] 3)).alloc (.cells #[.int .i64 k] 3):=⟨_,rfl⟩
   rw [←aA]
   have bZ:WN.heap.size=wr.heap.size+2:=by rw [aA]; simp
   have Q:Below wr.heap.size wr WN:=by rw [aA]; exact ((Below.refl _ _).alloc (Za4 _) _).alloc (by simp) _
   have m1:WN.heap[wr.heap.size]?=some (.cells #[.int .i64 P.length] 3 (0,0)):=by
    rw [aA]
    exact (Below.heap_alloc _ _ _ (by simp)).trans (heap_alloc_new _ _)
   have m2:WN.heap[wr.heap.size+1]?=some (.cells #[.int .i64 k] 3 (0,0)):=by
    rw [aA];have:=heap_alloc_new (wr.alloc (.cells #[.int .i64 P.length] 3)) (.cells #[.int .i64 k] 3)
    simpa using this
   clear aA
   have bU:=ZQB P.length k (wr.heap.size+1) wr.heap.size WN (by omega) (by omega) (ZAc m2) (ZAc m1)
   have f:=HI.out;have aS:=f.size
   have cq:Hid (WN.heap[w.heap.size]?=some (.cells #[.int .i64 d] 3 (0,0))):=(Q.block _ (by omega)).trans f.b0
   have cC:Hid (WN.heap[w.heap.size+1]?=some (.cells #[.slice N P.length M] 22 (0,0))):=(Q.block _ (by omega)).trans f.b1
   have bF:Hid (∀b,b < w.heap.size→WN.heap[b]?=w.heap[b]?):=fun b A=>(Q.block b (by omega)).trans (f.low b A)
   have cJ:Hid (FsI w WN wr.heap.size d P (ZDg P.length k) rs (fun b=>b=wr.heap.size+1∨b=wr.heap.size) [] WN):=by
    obtain ⟨u,T,r1,r2,r3⟩:=f.rv
    exact ⟨fun b A=>by omega,Kpt.refl _ _,Q.os.trans f.os,Q.tape.trans f.tape,Q.output.trans f.output,u,T,(Q.block _ (by omega)).trans r1,r2.keep (fun b A _=>Q.block b A) (fun b A=>A.elim (fun h=>.inr (by omega)) .inl),by rw [List.append_nil]; exact r3⟩
   have bB:=hid bZ
   have am:Hid (∀r∈rs,r < wr.heap.size):=fun r hr=>(Zaa3.1 (f.mark r hr)).1
   have cX:Hid (∀b,b < wr.heap.size→WN.heap[b]?=wr.heap[b]?):=fun b A=>Q.block b A
   have dv:Hid (WN.os=w.os∧WN.tape=w.tape∧WN.output=w.output):=⟨Q.os.trans f.os,Q.tape.trans f.tape,Q.output.trans f.output⟩
   have cK:Hid ((ZDg P.length k).length+(ext P.length k 0).length≤100000):=by
    show _≤_
    have V:ZDg P.length (k+1) <+: ZDX P.length:=by
     unfold ZDX ZDg
     have h2:List.range (k+1) <+: List.range (P.length+1):=by
      refine ⟨(List.range (P.length+1)).drop (k+1),?_⟩
      have:List.range (k+1)=(List.range (P.length+1)).take (k+1):=by
       rw [List.take_range]
       congr 1
       omega
      rw [this,List.take_append_drop]
     obtain ⟨r,hr⟩:=h2
     exact ⟨r.flatMap fun q=>ext P.length q 0,by rw [←List.flatMap_append,hr]⟩
    have h3:=V.length_le
    have h4:(ZDX P.length).length≤64:=by
     have:∀n,n≤6→(ZDX n).length≤64:=by decide
     exact this _ h5
    rw [ZHQ,Zaa4] at h3;omega
   have dt:wr.heap.size+2≤WN.heap.size:=by omega
   have cH:k≤P.length:=by omega
   clear m1 m2 Q c1 bZ f
   refine ZQA (R:=ZIU WN.heap.size) (cs:=ext P.length k 0) (T:=fun _=>False) (S0:=fun b=>b=wr.heap.size+1∨b=wr.heap.size) (gf:=81) (lb:=#[.pointer (some ⟨wr.heap.size+1,0,none⟩),.pointer (some ⟨wr.heap.size,0,none⟩)]) rfl (enters_of Tryz.func81 (by kernel_rfl) rfl) bU (fun b A=>by omega)
    (fun W0 W' S x vs ⟨v,V,_⟩=>by rw [V]; rfl) (ZIV _) (ZMY _)
    (fun S J W'=>FsI w WN wr.heap.size d P (ZDg P.length k) rs S J W')
    (fun c S J W'=>False)
    (fun S S' J W' W'' h hc hs=>h.stab aS (by have:=bB.out; omega) am.out hc hs) (fun c S S' J W' W'' h hc hs=>h) cJ.out
    (fun vs a' W'=>∃v,vs=#[v]∧a' = { tmps:=#[.int .i64 d,.slice N P.length M,.pointer (some ⟨w.heap.size,0,none⟩),.pointer (some ⟨w.heap.size+1,0,none⟩),.slice none 0 0,.pointer (some ⟨w.heap.size+1+1,0,none⟩),.int .i64 k,v,.slice N P.length M,.int .i64 P.length,.int .i64 ((P.length:Int)+1),.int .i64 k,.bool true,.int .i64 k,.slice N P.length M,.int .i64 P.length,.int .i64 k,.func (.func 81) #[] #[.pointer (some ⟨wr.heap.size+1,0,none⟩),.pointer (some ⟨wr.heap.size,0,none⟩)],v,undef,undef,undef,undef,undef,undef,undef,undef,undef,undef,undef,undef,undef,undef,u33,undef,undef,undef],defers:=[] })
    (fun vs a' W' l r o h _=>h) ?assign ?body (fun h=>h) ?done ?stop
   case assign=>
    rintro S x vs W0 W' K ⟨v,rfl,h2⟩ hK
    gi_wp2
    exact hK _ _ (Below.refl _ _) ⟨v,rfl,rfl⟩
   case stop=>
    rintro c S J W' ay h;exact h.elim
   case body=>
    rintro S J c vs a' m hi bl dh dl aL cA ay ⟨S1,W0,db,⟨cv,bO,ai,bk,cR,cN,cS⟩,bh⟩ ⟨v',aE,rfl⟩
    have dc:cv=v':=by rw [bO] at aE; simpa using aE
    subst dc
    have aV:c∈ext P.length k 0:=ay.subset (by simp)
    have aR:Hid (c∈ZDX P.length):=ZNH cH aV;have cr:=bB.out;have bP:=hi.kp.size
    have e0:m.heap[w.heap.size]?=some (.cells #[.int .i64 d] 3 (0,0)):=(hi.kp.block _ (by omega) (.inl (by omega))).trans cq.out
    have e1:m.heap[w.heap.size+1]?=some (.cells #[.slice N P.length M] 22 (0,0)):=(hi.kp.block _ (by omega) (.inl (by omega))).trans cC.out
    have aW:∀b,b < w.heap.size→m.heap[b]?=w.heap[b]?:=fun b A=>(hi.kp.block b (by omega) (.inl (by omega))).trans (bF.out b A)
    obtain ⟨rv,T,bg,aN,bw⟩:=hi.rv
    have cY:Hid (∀b,S b→b < m.heap.size):=fun b hx=>by
     rcases (bh _).1 hx with hx | hx | hx
     ·have:=bk _ hx; omega
     ·omega
     ·omega
    have aU:∀g,cv.ownBlock=some g→¬(S g∨g∈rs):=fun g L hx=>by
     obtain ⟨q1,q2,bL,q3⟩:=ZBG ai g L
     rcases hx with hx | hx
     rotate_left
     ·have:=am.out g hx; omega
     rcases (bh _).1 hx with hx | hx | hx
     ·have:=bk _ hx; omega
     ·rw [hx,aL] at q3; cases q3
     ·obtain ⟨rr,cg⟩:=cA
      rw [hx,cg] at q3; cases q3
    have aQ:Hid (Sl 0 3 m cv (ZAB c)):=Sl.own ai
    have aZ:Hid (0 < c.length→∃a n k,cv=.slice (some a) n k∧¬(S a.block∨a.block∈rs)):=fun hp=>by
     rcases ai.2 with ⟨_,h2⟩ | ⟨g,cap,bL,V,_⟩
     ·omega
     ·exact ⟨⟨g,0,none⟩,_,_,V,aU g (by rw [V]; rfl)⟩
    obtain ⟨co,cc,dg⟩:=ZAE ai;subst dg;have bG:Hid (Mat B0 27 3 m (.slice N P.length M) P):=ZMZ HV.out aW
    have bN:Hid (Calls Tryz.prog 52 #[.int .i64 d,.slice N P.length M,.slice co c.length cc] m fun e w'=>e=.returned (.bool (flB d P (ZA5 c)))∧Below m.heap.size m w'):=ZJy d P c _ _ m hd1 hd3 bV.out (by omega) aR.out bG.out aQ.out
    have aO:Hid (∀w7,Below m.heap.size m w7→FsI w WN wr.heap.size d P (ZDg P.length k) rs S J w7):=fun w7 A=>hi.stab aS (by omega) am.out (Chg.of_below A (Za4 _)) (fun b A=>.inl A)
    have aM:Hid (flU d P (ZDg P.length k ++ (J ++ [c]))=flU d P (ZDg P.length k ++ J) ++ if flB d P (ZA5 c) then [(c,rk d (pks P [] c))] else []):=by
     show _=_
     rw [←List.append_assoc,ZPU,ZPV]
    have bD:m.cell? ⟨w.heap.size,0,none⟩=some (.int .i64 d):=ZAc e0;have bT:m.cell? ⟨w.heap.size+1,0,none⟩=some (.slice N P.length M):=ZAc e1
    have au:Hid (T.length≤1000000):=by
     show _≤_
     have V:T.length=(flU d P (ZDg P.length k ++ J)).length:=by rw [←bw,Zab1]
     have h2:=ZKv d P (ZDg P.length k ++ J);have h3:=ay.length_le;have h4:=cK.out;simp only [Zaa4,List.length_cons,List.length_nil] at h2 h3;omega
    have bR:∀i,i < c.length→0≤c.getD i 0∧c.getD i 0 < P.length:=fun i hi=>((ZBl (by omega)).1 c aR.out).2.2 _ (by simp [hi])
    have dw:c.length≤6:=by
     have V:=((ZBl (n:=P.length) (by omega)).1 c aR.out).2.1
     rw [V];unfold ZBH;rw [Zab1]
     exact Zaa8 (List.length_filter_le _ _) (by simp; omega)
    have aY:Hid (∀X,Below m.heap.size m X→Calls Tryz.prog 54 #[.slice N P.length M,.slice co c.length cc] X fun e' w'=>∃zo zc,e'=.returned (.slice zo c.length zc)∧Mat w'.heap.size 27 3 w' (.slice zo c.length zc) (pks P [] c)∧Below m.heap.size m w'):=fun X hX=>by
     refine (ZB6 B0 P c _ _ X (bG.out.below hX (Za4 _)) ((aQ.out.below hX (Za4 _)).more (Za5 _)) bR (by omega)).mono ?_
     rintro e' w' ⟨z,rfl,hz,A⟩;have hM:=hz.mat (B':=w'.heap.size) A.size;obtain ⟨zo,zc,rfl,_,_⟩:=ZAD hM
     rw [show (pks P [] c).length=c.length by simp [pks]] at hM ⊢
     exact ⟨zo,zc,rfl,hM,hX.trans (A.mono hX.size)⟩
    have aP:Hid (∀zo zc X,Below m.heap.size m X→Mat X.heap.size 27 3 X (.slice zo c.length zc) (pks P [] c)→Calls Tryz.prog 53 #[.slice zo c.length zc,.int .i64 (d:Int)] X fun e w'=>e=.returned (.int .i64 (rk d (pks P [] c):Nat))∧Below m.heap.size m w'):=fun zo zc X hX hm=>by
     refine (ZCO X.heap.size (d+1) d (pks P [] c) _ X (by omega) hd1 (ZEi hd1 hd3 (fun p hp=>?_)) hm (by simp [pks]; omega)).mono ?_
     ·obtain ⟨z,hz,rfl⟩:=List.mem_map.1 hp
      have du:=((ZBl (n:=P.length) (by omega)).1 c aR.out).2.2 z hz
      exact bV.out _ (ZAg (by omega))
     ·rintro e' w' ⟨rfl,A⟩
      exact ⟨rfl,hX.trans (A.mono hX.size)⟩
    have G:Hid (∀X,Below m.heap.size m X→X.cell? ⟨w.heap.size,0,none⟩=some (.int .i64 d)∧X.cell? ⟨w.heap.size+1,0,none⟩=some (.slice N P.length M)):=fun X hX=>⟨ZAc ((hX.block _ (by omega)).trans e0),ZAc ((hX.block _ (by omega)).trans e1)⟩
    have aH:Hid (∀X,Below m.heap.size m X→X.cell? ⟨w.heap.size+1+1,0,none⟩=some rv):=fun X hX=>ZAc ((hX.block (w.heap.size+2) (by omega)).trans bg)
    have an:=hid aN;have bp:=hid bg;have bA:=hid bw
    have aD:Hid (∀u∈ZBx (.slice co c.length cc,[],rk d (pks P [] c)),u.oneCell'=true):=by
     intro u hu;simp only [ZBx,List.mem_cons,List.not_mem_nil,or_false] at hu
     rcases hu with rfl | rfl <;> rfl
    have cF:Hid (∀b,S b→wr.heap.size≤b):=hi.sn
    have aI:Hid (w.heap.size+3≤m.heap.size):=by show _≤_; omega
    have bH:Hid (wr.heap.size≤m.heap.size):=by show _≤_; omega
    have ah:Hid (∀X,Below m.heap.size m X→Below m.heap.size m (X.alloc (.cells #[.slice co c.length cc,.int .i64 (rk d (pks P [] c):Nat)] 63))):=fun X hX=>hX.alloc hX.size _
    gi_wp2_with fail
    refine ⟨trivial,rfl,?_⟩
    gi_at_call 52
    refine (CallsIn.inRound _ (callsIn_wide.2 bN.out)).mono ?_;rintro e' w6 ⟨rfl,bC⟩;have bK:=hid bC;have bv:Hid (FsI w WN wr.heap.size d P (ZDg P.length k) rs S J w6):=aO.out w6 bC;clear hi db ay ai bk cR cN cS bh aV aL cA bO aE aW cr bP e0 e1 bU bg aN bw aU bN bD bT bC bR bl dh
    cases hfl:flB d P (ZA5 c)
    ·have HF:Hid (Kpt (fun b=>S b∨False) m w6∧FsI w WN wr.heap.size d P (ZDg P.length k) rs S (J ++ [c]) w6):=by
      refine ⟨Kpt.of_below bK.out (Za4 _),?_⟩;have h:=bv.out;refine ⟨h.sn,h.kp,h.os,h.tape,h.output,?_⟩;rw [aM.out,hfl]
      simpa using h.rv
     clear aM aO aQ aZ bv aY aP G aH an bp bA aD ah
     gi_wp2
     exact HF.out
    ·have aT:Hid (flU d P (ZDg P.length k ++ (J ++ [c]))=flU d P (ZDg P.length k ++ J) ++ [(c,rk d (pks P [] c))]):=by
      show _=_
      rw [aM.out,hfl]; rfl
     have aJ:Hid (∀D,Below m.heap.size m D→(D.alloc (.cells #[.slice co c.length cc,.int .i64 (rk d (pks P [] c):Nat)] 63)).ownsRow (w.heap.size+3) 63 2 rv T.length (T.flatMap ZBx)∧
       (∀j u,(ZBx (.slice co c.length cc,[],rk d (pks P [] c)))[j]?=some u→(D.alloc (.cells #[.slice co c.length cc,.int .i64 (rk d (pks P [] c):Nat)] 63)).cell? ((⟨D.heap.size,0,none⟩:Addr).add j)=some u)∧
       w.heap.size+3≤(D.alloc (.cells #[.slice co c.length cc,.int .i64 (rk d (pks P [] c):Nat)] 63)).heap.size∧
       ∀v' s,s.ownsRow (w.heap.size+3) 63 2 v' (T.length+1) (T.flatMap ZBx ++ ZBx (.slice co c.length cc,[],rk d (pks P [] c)))→(D.alloc (.cells #[.slice co c.length cc,.int .i64 (rk d (pks P [] c):Nat)] 63)).grownBy s rv.ownBlock→(v'.ownBlock=rv.ownBlock∨v'.ownBlock=some (D.alloc (.cells #[.slice co c.length cc,.int .i64 (rk d (pks P [] c):Nat)] 63)).heap.size)→
        s.cell? ⟨w.heap.size+1+1,0,none⟩=some rv∧s.frozen? ⟨w.heap.size+1+1,0,none⟩=false∧(s.cell? ⟨w.heap.size,0,none⟩=some (.int .i64 d)∧s.cell? ⟨w.heap.size+1,0,none⟩=some (.slice N P.length M))∧((s.setCell ⟨w.heap.size+1+1,0,none⟩ v').cell? ⟨w.heap.size,0,none⟩=some (.int .i64 d)∧(s.setCell ⟨w.heap.size+1+1,0,none⟩ v').cell? ⟨w.heap.size+1,0,none⟩=some (.slice N P.length M))∧
        Kpt (fun b=>S b∨False) m (s.setCell ⟨w.heap.size+2,0,none⟩ v')∧FsI w WN wr.heap.size d P (ZDg P.length k) rs S (J ++ [c]) (s.setCell ⟨w.heap.size+2,0,none⟩ v')):=fun D B=>by
      obtain ⟨X,hX⟩:∃X,X=D.alloc (.cells #[.slice co c.length cc,.int .i64 (rk d (pks P [] c):Nat)] 63):=⟨_,rfl⟩
      have az:Below m.heap.size m X:=by rw [hX]; exact ah.out D B
      have cI:X.heap[D.heap.size]?=some (.cells #[.slice co c.length cc,.int .i64 (rk d (pks P [] c):Nat)] 63 (0,0)):=by rw [hX]; exact heap_alloc_new _ _
      rw [←hX]
      have cw:FlO (fun b=>S b∨b∈rs) (w.heap.size+3) X rv T:=an.out.keep (fun b A _=>az.block b A) (fun b A=>.inl A)
      have dq:=az.size;have dx:=aI.out
      refine ⟨cw.own,ZJ1 cI,by omega,fun v' s ho L U=>?_⟩
      have bu:∀g,rv.ownBlock=some g→w.heap.size+3≤g:=fun g hg1=>(ZBG an.out.own g hg1).1
      have aw:∀b,b < m.heap.size→(∀g,rv.ownBlock=some g→b≠g)→s.heap[b]?=m.heap[b]?:=fun b hb1 hne=>
       (L.block b (by omega) (fun e=>hne b e.symm rfl)).trans (az.block b hb1)
      have h8:s.heap[w.heap.size+2]?=some (.cells #[rv] 60 (0,0)):=(aw _ (by omega) (fun g hg1=>by have:=bu g hg1; omega)).trans bp.out
      have bM:=G.out m (Below.refl _ _)
      have cd:∀b,b < w.heap.size+2→s.heap[b]?=m.heap[b]?:=fun b A=>aw b (by omega) (fun g hg1=>by have:=bu g hg1; omega)
      have cP:∀b,b < w.heap.size+2→(s.setCell ⟨w.heap.size+2,0,none⟩ v').heap[b]?=m.heap[b]?:=fun b A=>(Below.heap_setCell _ _ _ _ (by show b≠w.heap.size+2; omega)).trans (cd b A)
      have dj:=L.size
      have cj:∀b,m.heap.size≤b→¬(S b∨b∈rs):=fun b hb1 hs=>by
       rcases hs with hs | hs
       ·have:=cY.out b hs; omega
       ·have:=am.out b hs
        have:=bH.out;omega
      have bz:=cw.push (t:=(.slice co c.length cc,c,rk d (pks P [] c))) (aQ.out.below az (Za4 _)) aZ.out ho L (fun g hg1=>by
       rcases U with h | h
       ·rw [h] at hg1; exact an.out.off g hg1
       ·rw [h] at hg1
        simp only [Zaa9] at hg1
        exact cj g (by omega))
      have cB:=bz.set (b:=w.heap.size+2) (j:=0) (u:=v') (by omega) h8 (by decide)
      have bI:∀Y:World,(∀b,b < w.heap.size+2→Y.heap[b]?=m.heap[b]?)→Y.cell? ⟨w.heap.size,0,none⟩=some (.int .i64 d)∧Y.cell? ⟨w.heap.size+1,0,none⟩=some (.slice N P.length M):=fun Y hY=>⟨(World.cell?_of_block (w:=m) (hY _ (by show w.heap.size < _; omega))).trans bM.1,(World.cell?_of_block (w:=m) (hY _ (by show w.heap.size+1 < _; omega))).trans bM.2⟩
      refine ⟨ZAc h8,by show s.frozen? ⟨w.heap.size+2,0,none⟩=false; simp [World.frozen?,h8],bI _ cd,bI _ cP,⟨by simp [World.setCell]; omega,fun b hb1 hs=>?_⟩,?_⟩
      ·have bJ:S b:=hs.elim id False.elim
       refine (Below.heap_setCell _ _ _ _ (by show b≠w.heap.size+2; have:=cF.out b bJ; omega)).trans (aw b hb1 (fun g hg1 e=>?_))
       subst e;exact an.out.off _ hg1 (.inl bJ)
      ·obtain ⟨q1,q2,q3,q4,q5,_⟩:=aO.out X az
       refine ⟨q1,q2.trans ⟨?_,fun b hb1 hlt=>?_⟩,L.os.trans q3,L.tape.trans q4,L.output.trans q5,v',T ++ [(.slice co c.length cc,c,rk d (pks P [] c))],ZK2 h8,cB,?_⟩
       ·simp [World.setCell]; omega
       ·have ck:b < m.heap.size:=by
         rcases hlt with h | h
         ·omega
         ·have:=am.out b h
          have:=bH.out;omega
        have cL:b≠w.heap.size+2:=by
         rcases hlt with h | h
         ·omega
         ·have:=HI.out.rlo b h; omega
        refine (Below.heap_setCell _ _ _ _ (by show b≠w.heap.size+2; exact cL)).trans ((aw b ck (fun g hg1 e=>?_)).trans (az.block b ck).symm)
        subst e
        rcases hlt with h | h
        ·have:=bu _ hg1; omega
        ·exact an.out.off _ hg1 (.inr h)
       ·rw [List.map_append,bA.out,aT.out]; rfl
     clear aM aT aO bv aZ an bp bA hfl
     obtain ⟨W6,cG⟩:∃W6,W6=w6:=⟨_,rfl⟩
     have aC:Hid (Below m.heap.size m w6.drew):=bK.out.drew;have de:=G.out w6.drew aC.out;have cQ:w.heap.size+1+1=w.heap.size+2:=rfl;clear cQ cG
     gi_upto_region 8 with fail
     refine ZCR (fun w'=>w'.cell? ⟨w.heap.size,0,none⟩=some (.int .i64 d)∧w'.cell? ⟨w.heap.size+1,0,none⟩=some (.slice N P.length M)) (by kernel_rfl) (ZI4 (by kernel_rfl)) (fun a w h=>h) de (fun hHeld=>?_)
     refine ZAA (i:=1) (d:=24) (v:=(.slice co c.length cc)) rfl rfl (by kernel_rfl) (by kernel_rfl) (by kernel_rfl) (fun _ _ _ h=>h) (.inl ⟨by rfl,by (intro wq O; (try dsimp only at O); go_simp; (try (first | rfl | omega)))⟩) hHeld ?_
     simp only [Act.put,Za1,List.set]
     refine ZAA (i:=2) (d:=25) (v:=(.slice N P.length M)) rfl rfl (by kernel_rfl) (by kernel_rfl) (by kernel_rfl) (fun _ _ _ h=>h) (.inl ⟨by rfl,by (intro wq O; (try dsimp only at O); go_simp; (try (first | rfl | omega)))⟩) hHeld ?_
     simp only [Act.put,Za1,List.set]
     refine ZAA (i:=3) (d:=26) (v:=(.slice co c.length cc)) rfl rfl (by kernel_rfl) (by kernel_rfl) (by kernel_rfl) (fun _ _ _ h=>h) (.inl ⟨by rfl,by (intro wq O; (try dsimp only at O); go_simp; (try (first | rfl | omega)))⟩) hHeld ?_
     simp only [Act.put,Za1,List.set]
     refine ZAA (i:=5) (d:=28) (v:=(.int .i64 (d:Int))) rfl rfl (by kernel_rfl) (by kernel_rfl) (by kernel_rfl) (fun _ _ _ h=>h) (.inl ⟨by rfl,by (intro wq O; (try dsimp only at O); go_simp; (try (first | rfl | omega)))⟩) hHeld ?_
     simp only [Act.put,Za1,List.set]
     refine wpAnyH_ready (rs:=[0,4]) (by kernel_rfl) (by simp) ?_
     refine ZAF (i:=0) rfl (by rfl) (fun K hK=>?_) (ZAF (i:=4) rfl (by rfl) (fun K hK=>?_) AllReadyH.nil)
     ·have ar:=aH.out _ aC.out
      go_simp
      refine hK.out _ _ (G.out _ aC.out) (fun hHeld=>?_)
      clear hK K ar
      try simp only [Act.put,Za1,List.set]
      refine wpAnyH_ready (rs:=[4]) (by kernel_rfl) (by simp) ?_
      refine ZAF (i:=4) rfl (by rfl) (fun K hK=>?_) AllReadyH.nil
      go_simp;refine (aY.out _ aC.out).mono ?_;rintro e' w7 ⟨zo,zc,rfl,aK,ag⟩
      refine hK.out _ _ (G.out w7 ag) (fun hHeld=>?_)
      clear hK K
      try simp only [Act.put,Za1,List.set]
      refine wpAnyH_ready (rs:=[6]) (by kernel_rfl) (by simp) ?_
      refine ZAF (i:=6) rfl (by rfl) (fun K hK=>?_) AllReadyH.nil
      go_simp;refine (aP.out _ _ w7 ag aK).mono ?_;rintro e' D ⟨rfl,B⟩
      refine hK.out _ _ (G.out D B) (fun hHeld=>?_)
      clear hK K
      try simp only [Act.put,Za1,List.set]
      refine ZAA (i:=7) (d:=30) (v:=(.agg #[.slice co c.length cc,.int .i64 (rk d (pks P [] c):Nat)])) rfl rfl (by kernel_rfl) (by kernel_rfl) (by kernel_rfl) (fun _ _ _ h=>h) (.inl ⟨by rfl,by (intro wq O; (try dsimp only at O); go_simp; (try (first | rfl | omega)))⟩) hHeld ?_
      simp only [Act.put,Za1,List.set]
      refine wpAnyH_ready (rs:=[8]) (by kernel_rfl) (by simp) ?_
      refine ZAF (i:=8) rfl (by rfl) (fun K hK=>?_) AllReadyH.nil
      go_simp
      refine hK.out _ _ (G.out _ (ah.out D B)) (fun hHeld=>?_)
      clear hK K
      try simp only [Act.put,Za1,List.set]
      obtain ⟨y,E,aa,F⟩:=aJ.out D B
      refine wpAnyH_ready (rs:=[9]) (by kernel_rfl) (by simp) ?_
      refine ZAF (i:=9) rfl (by rfl) (fun K hK=>?_) AllReadyH.nil
      refine ZCC _ _ rfl (w.heap.size+3) rv T.length (T.flatMap ZBx) rfl y ⟨D.heap.size,0,none⟩ (ZBx (.slice co c.length cc,[],rk d (pks P [] c))) rfl rfl E aD.out au.out aa ?_;intro v' s ho L U;obtain ⟨k1,k2,k3,k4,k5⟩:=F v' s ho L U;obtain ⟨bt,bq,bj,aj⟩:=ZCD ho;subst aj;have aq:=hid k5;clear k5 ho L U F y E
      refine hK.out _ _ k3 (fun hHeld=>?_)
      clear hK K
      try simp only [Act.put,Za1,List.set]
      refine wpAnyH_ready (rs:=[10]) (by kernel_rfl) (by simp) ?_
      refine ZAF (i:=10) rfl (by rfl) (fun K hK=>?_) AllReadyH.nil
      go_simp
      refine hK.out _ _ k4 (fun hHeld=>?_)
      clear hK K
      refine wpAnyH_done (by kernel_rfl) ?_ _
      dsimp only [Nrm]
      gi_wp2
      exact aq.out
     ·go_simp
      refine (aY.out _ aC.out).mono ?_;rintro e' w7 ⟨zo,zc,rfl,aK,ag⟩
      refine hK.out _ _ (G.out w7 ag) (fun hHeld=>?_)
      clear hK K
      try simp only [Act.put,Za1,List.set]
      refine wpAnyH_ready (rs:=[0,6]) (by kernel_rfl) (by simp) ?_
      refine ZAF (i:=0) rfl (by rfl) (fun K hK=>?_) (ZAF (i:=6) rfl (by rfl) (fun K hK=>?_) AllReadyH.nil)
      ·have ar:=aH.out w7 ag
       go_simp
       refine hK.out _ _ (G.out w7 ag) (fun hHeld=>?_)
       clear hK K ar
       try simp only [Act.put,Za1,List.set]
       refine wpAnyH_ready (rs:=[6]) (by kernel_rfl) (by simp) ?_
       refine ZAF (i:=6) rfl (by rfl) (fun K hK=>?_) AllReadyH.nil
       go_simp;refine (aP.out _ _ w7 ag aK).mono ?_;rintro e' D ⟨rfl,B⟩
       refine hK.out _ _ (G.out D B) (fun hHeld=>?_)
       clear hK K
       try simp only [Act.put,Za1,List.set]
       refine ZAA (i:=7) (d:=30) (v:=(.agg #[.slice co c.length cc,.int .i64 (rk d (pks P [] c):Nat)])) rfl rfl (by kernel_rfl) (by kernel_rfl) (by kernel_rfl) (fun _ _ _ h=>h) (.inl ⟨by rfl,by (intro wq O; (try dsimp only at O); go_simp; (try (first | rfl | omega)))⟩) hHeld ?_
       simp only [Act.put,Za1,List.set]
       refine wpAnyH_ready (rs:=[8]) (by kernel_rfl) (by simp) ?_
       refine ZAF (i:=8) rfl (by rfl) (fun K hK=>?_) AllReadyH.nil
       go_simp
       refine hK.out _ _ (G.out _ (ah.out D B)) (fun hHeld=>?_)
       clear hK K
       try simp only [Act.put,Za1,List.set]
       obtain ⟨y,E,aa,F⟩:=aJ.out D B
       refine wpAnyH_ready (rs:=[9]) (by kernel_rfl) (by simp) ?_
       refine ZAF (i:=9) rfl (by rfl) (fun K hK=>?_) AllReadyH.nil
       refine ZCC _ _ rfl (w.heap.size+3) rv T.length (T.flatMap ZBx) rfl y ⟨D.heap.size,0,none⟩ (ZBx (.slice co c.length cc,[],rk d (pks P [] c))) rfl rfl E aD.out au.out aa ?_;intro v' s ho L U;obtain ⟨k1,k2,k3,k4,k5⟩:=F v' s ho L U;obtain ⟨bt,bq,bj,aj⟩:=ZCD ho;subst aj;have aq:=hid k5;clear k5 ho L U F y E
       refine hK.out _ _ k3 (fun hHeld=>?_)
       clear hK K
       try simp only [Act.put,Za1,List.set]
       refine wpAnyH_ready (rs:=[10]) (by kernel_rfl) (by simp) ?_
       refine ZAF (i:=10) rfl (by rfl) (fun K hK=>?_) AllReadyH.nil
       go_simp
       refine hK.out _ _ k4 (fun hHeld=>?_)
       clear hK K
       refine wpAnyH_done (by kernel_rfl) ?_ _
       dsimp only [Nrm]
       gi_wp2
       exact aq.out
      ·go_simp
       refine (aP.out _ _ w7 ag aK).mono ?_;rintro e' D ⟨rfl,B⟩
       refine hK.out _ _ (G.out D B) (fun hHeld=>?_)
       clear hK K
       try simp only [Act.put,Za1,List.set]
       refine ZAA (i:=7) (d:=30) (v:=(.agg #[.slice co c.length cc,.int .i64 (rk d (pks P [] c):Nat)])) rfl rfl (by kernel_rfl) (by kernel_rfl) (by kernel_rfl) (fun _ _ _ h=>h) (.inl ⟨by rfl,by (intro wq O; (try dsimp only at O); go_simp; (try (first | rfl | omega)))⟩) hHeld ?_
       simp only [Act.put,Za1,List.set]
       refine wpAnyH_ready (rs:=[0,8]) (by kernel_rfl) (by simp) ?_
       refine ZAF (i:=0) rfl (by rfl) (fun K hK=>?_) (ZAF (i:=8) rfl (by rfl) (fun K hK=>?_) AllReadyH.nil)
       ·have ar:=aH.out D B
        go_simp
        refine hK.out _ _ (G.out D B) (fun hHeld=>?_)
        clear hK K ar
        try simp only [Act.put,Za1,List.set]
        refine wpAnyH_ready (rs:=[8]) (by kernel_rfl) (by simp) ?_
        refine ZAF (i:=8) rfl (by rfl) (fun K hK=>?_) AllReadyH.nil
        go_simp
        refine hK.out _ _ (G.out _ (ah.out D B)) (fun hHeld=>?_)
        clear hK K
        try simp only [Act.put,Za1,List.set]
        obtain ⟨y,E,aa,F⟩:=aJ.out D B
        refine wpAnyH_ready (rs:=[9]) (by kernel_rfl) (by simp) ?_
        refine ZAF (i:=9) rfl (by rfl) (fun K hK=>?_) AllReadyH.nil
        refine ZCC _ _ rfl (w.heap.size+3) rv T.length (T.flatMap ZBx) rfl y ⟨D.heap.size,0,none⟩ (ZBx (.slice co c.length cc,[],rk d (pks P [] c))) rfl rfl E aD.out au.out aa ?_;intro v' s ho L U;obtain ⟨k1,k2,k3,k4,k5⟩:=F v' s ho L U;obtain ⟨bt,bq,bj,aj⟩:=ZCD ho;subst aj;have aq:=hid k5;clear k5 ho L U F y E
        refine hK.out _ _ k3 (fun hHeld=>?_)
        clear hK K
        try simp only [Act.put,Za1,List.set]
        refine wpAnyH_ready (rs:=[10]) (by kernel_rfl) (by simp) ?_
        refine ZAF (i:=10) rfl (by rfl) (fun K hK=>?_) AllReadyH.nil
        go_simp
        refine hK.out _ _ k4 (fun hHeld=>?_)
        clear hK K
        refine wpAnyH_done (by kernel_rfl) ?_ _
        dsimp only [Nrm]
        gi_wp2
        exact aq.out
       ·go_simp
        refine hK.out _ _ (G.out _ (ah.out D B)) (fun hHeld=>?_)
        clear hK K
        try simp only [Act.put,Za1,List.set]
        refine wpAnyH_ready (rs:=[0]) (by kernel_rfl) (by simp) ?_
        refine ZAF (i:=0) rfl (by rfl) (fun K hK=>?_) AllReadyH.nil
        have ar:=aH.out (D.alloc (.cells #[.slice co c.length cc,.int .i64 (rk d (pks P [] c):Nat)] 63)) (ah.out D B);go_simp
        refine hK.out _ _ (G.out (D.alloc (.cells #[.slice co c.length cc,.int .i64 (rk d (pks P [] c):Nat)] 63)) (ah.out D B)) (fun hHeld=>?_)
        clear hK K ar
        try simp only [Act.put,Za1,List.set]
        obtain ⟨y,E,aa,F⟩:=aJ.out D B
        refine wpAnyH_ready (rs:=[9]) (by kernel_rfl) (by simp) ?_
        refine ZAF (i:=9) rfl (by rfl) (fun K hK=>?_) AllReadyH.nil
        refine ZCC _ _ rfl (w.heap.size+3) rv T.length (T.flatMap ZBx) rfl y ⟨D.heap.size,0,none⟩ (ZBx (.slice co c.length cc,[],rk d (pks P [] c))) rfl rfl E aD.out au.out aa ?_;intro v' s ho L U;obtain ⟨k1,k2,k3,k4,k5⟩:=F v' s ho L U;obtain ⟨bt,bq,bj,aj⟩:=ZCD ho;subst aj;have aq:=hid k5;clear k5 ho L U F y E
        refine hK.out _ _ k3 (fun hHeld=>?_)
        clear hK K
        try simp only [Act.put,Za1,List.set]
        refine wpAnyH_ready (rs:=[10]) (by kernel_rfl) (by simp) ?_
        refine ZAF (i:=10) rfl (by rfl) (fun K hK=>?_) AllReadyH.nil
        go_simp
        refine hK.out _ _ k4 (fun hHeld=>?_)
        clear hK K
        refine wpAnyH_done (by kernel_rfl) ?_ _
        dsimp only [Nrm]
        gi_wp2
        exact aq.out
   case done=>
    rintro S W' hi bl aL;have HD:=hid hi;have bP:=hi.kp.size;have dr:=bB.out
    have cV:Hid (FoI w d P (.slice N P.length M) (k+1) (WN.heap.size :: rs) W'):=by
     have f:=HI.out;obtain ⟨u,T,r1,r2,r3⟩:=hi.rv
     refine ⟨fun b A=>(hi.kp.block b (by omega) (.inl (by omega))).trans (bF.out b A),(hi.kp.block _ (by omega) (.inl (by omega))).trans cq.out,(hi.kp.block _ (by omega) (.inl (by omega))).trans cC.out,hi.os,hi.tape,hi.output,by omega,List.nodup_cons.2 ⟨fun h=>by have:=am.out _ h; omega,f.nd⟩,fun r hr=>?_,fun r hr=>?_,u,T,r1,r2.keep (fun _ _ _=>rfl) (fun b A=>?_),by rw [ZHQ]; exact r3⟩
     ·rcases List.mem_cons.1 hr with rfl | hr
      ·exact aL
      ·have V:=am.out r hr
       exact (hi.kp.block r (by omega) (.inr hr)).trans ((cX.out r V).trans (f.mark r hr))
     ·rcases List.mem_cons.1 hr with rfl | hr
      ·omega
      ·exact f.rlo r hr
     ·rcases List.mem_cons.1 A with rfl | A
      ·exact .inl (.inl bl)
      ·exact .inl (.inr A)
    gi_wp2
    refine ⟨⟨k+1,WN.heap.size :: rs,.int .i64 k,u7,.bool true,.int .i64 k,.slice N P.length M,.int .i64 P.length,.int .i64 k,.func (.func 81) #[] #[.pointer (some ⟨wr.heap.size+1,0,none⟩),.pointer (some ⟨wr.heap.size,0,none⟩)],.int .i64 ((k:Int)+1),by omega,cV.out,?_⟩,?_⟩
    ·rw [show ((k+1:Nat):Int)=(k:Int)+1 by omega]
     rfl
    ·simp [intOf]; omega
  ·have cT:k=P.length+1:=by omega
   subst cT
   have cW:decide (((P.length+1:Nat):Int) < (P.length:Int)+1)=false:=by simp
   have f:=HI.out;obtain ⟨u,T,r1,r2,r3⟩:=f.rv;have bY:ZDg P.length (P.length+1)=ZDX P.length:=rfl;rw [bY] at r3
   have bX:0 < T.length:=by
    have hm:(([]:List Int),rk d (pks P [] []))∈flU d P (ZDX P.length):=by
     obtain ⟨V,h2⟩:=(ZBl (n:=P.length) (by omega)).2.1 0 (Nat.pow_pos (by decide))
     have e:ZBH P.length 0=[]:=by simp [ZBH]
     rw [e] at V h2
     exact List.mem_map.2 ⟨[],List.mem_filter.2 ⟨V,by rw [h2]; exact da.out⟩,rfl⟩
    rw [←r3] at hm;have:=List.length_pos_of_mem hm
    simpa using this
   have bW:T.length≤1000000:=by
    have V:T.length=(flU d P (ZDX P.length)).length:=by rw [←r3,Zab1]
    have h2:=ZKv d P (ZDX P.length)
    have h3:(ZDX P.length).length≤64:=by
     have:∀n,n≤6→(ZDX n).length≤64:=by decide
     exact this _ h5
    omega
   obtain ⟨uo,uc,hu⟩:∃uo uc,u=.slice uo T.length uc:=by
    rcases r2.own.2 with ⟨V,h2⟩ | ⟨g,cap,bL,V,_⟩
    ·omega
    ·exact ⟨_,_,V⟩
   subst hu;have aF:=hid r2;have cD:=hid r3
   have bQ:Hid (Calls Tryz.prog 55 #[.slice uo T.length uc,.func (.func 56) #[] #[]] wr fun e w'=>e=.returned (.tuple #[])∧∃T':List FlT,T'.Perm T∧(∀i j,i < j→j < T'.length→¬fcf (T'.getD j (.slice none 0 0,[],0)).2 (T'.getD i (.slice none 0 0,[],0)).2 < 0)∧FlR (w.heap.size+3) w' (.slice uo T.length uc) T'∧wr.grownBy w' (Value.slice uo T.length uc).ownBlock):=ZMX (w.heap.size+3) T _ wr ⟨r2.own,r2.sl⟩ bX bW
   have c2:wr.cell? ⟨w.heap.size+1+1,0,none⟩=some (.slice uo T.length uc):=ZAc r1;have bE:=hid r1;clear f r1 r2 r3 bY bX bW c1
   gi_wp2_with fail
   refine ⟨trivial,rfl,?_⟩
   gi_at_call 55
   refine (callsIn_wide.2 bQ.out).mono ?_;rintro e w2 ⟨rfl,T',ae,aB,bi,L⟩
   have af:∀b,b < wr.heap.size→(∀g,(Value.slice uo T.length uc).ownBlock=some g→b≠g)→w2.heap[b]?=wr.heap[b]?:=fun b A hne=>L.block b A (fun e=>hne b e.symm rfl)
   have aX:∀g,(Value.slice uo T.length uc).ownBlock=some g→w.heap.size+3≤g:=fun g hg1=>(ZBG aF.out.own g hg1).1
   have c3:w2.cell? ⟨w.heap.size+1+1,0,none⟩=some (.slice uo T.length uc):=ZAc ((af (w.heap.size+2) (by omega) (fun g hg1=>by have:=aX g hg1; omega)).trans bE.out)
   have au:Hid (T'.length=T.length):=ae.length_eq
   have cO:Hid (∀w',Chg (fun b=>b∈rs) w2 w'→FlR (w.heap.size+3) w' (.slice uo T'.length uc) T'∧(FlS d P (T'.map fun t=>t.2)∧FlA (T'.map fun t=>t.2))∧Below w.heap.size w w'):=fun w' hc=>by
    have aN:FlO (fun b=>b∈rs) (w.heap.size+3) w2 (.slice uo T.length uc) T':=⟨bi.own,aF.out.off,bi.inn,fun t ht=>aF.out.so t (ae.mem_iff.1 ht)⟩
    have bS:=aN.keep (S':=fun b=>b∈rs) (fun b A hn=>hc.block b A hn) (fun b A=>.inl A)
    rw [au.out]
    refine ⟨⟨bS.own,bS.sl⟩,⟨⟨?_,fun i j hij hj=>?_⟩,fun i j hij hj=>?_⟩,?_⟩
    ·rw [←cD.out]
     exact ae.map _
    ·rw [Zab1] at hj
     have V:=aB i j hij hj
     have h2:∀q,q < T'.length→(T'.map fun t=>t.2).getD q ([],0)=(T'.getD q (.slice none 0 0,[],0)).2:=fun q hq=>by simp [hq]
     rw [h2 i (by omega),h2 j hj]
     refine Za6 fun hlt=>?_
     have h3:=(ZDK (T'.getD j (.slice none 0 0,[],0)).2 (T'.getD i (.slice none 0 0,[],0)).2).2 (.inl (by omega))
     omega
    ·rw [Zab1] at hj
     have V:=aB i j hij hj
     have h2:∀q,q < T'.length→(T'.map fun t=>t.2).getD q ([],0)=(T'.getD q (.slice none 0 0,[],0)).2:=fun q hq=>by simp [hq]
     rw [h2 i (by omega),h2 j hj]
     first | exact V | omega
    ·have f:=HI.out
     refine ⟨hc.os.trans (L.os.trans f.os),hc.tape.trans (L.tape.trans f.tape),hc.output.trans (L.output.trans f.output),by have:=hc.size; have:=L.size; omega,fun b A=>?_⟩
     have V:=af b (by omega) (fun g hg1=>by have:=aX g hg1; omega)
     exact (hc.block b (by have:=L.size; omega) (fun hx=>by have:=f.rlo b hx; omega)).trans (V.trans (f.low b A))
   have cE:Hid (∀r∈rs,w2.heap[r]?=some (.deferred (some []))):=fun r hr=>by
    have V:=HI.out.mark r hr;have h2:=(Zaa3.1 V).1
    exact (af r h2 (fun g hg1 e=>aF.out.off g hg1 (by rw [←e]; exact hr))).trans V
   have cU:Hid (rs.Nodup):=HI.out.nd;clear ae aB bi L af aX c2 bQ aF cD bE HI
   gi_wp2
   refine ZAq rs w2 cU.out cE.out (fun w' hc=>⟨.slice uo T.length uc,by simp [results,Tryz.results34,go_sem],uo,uc,T',?_,?_⟩)
   ·rw [au.out]
   ·exact cO.out w' hc
theorem ZMa{B0:Nat}(d:Nat)(P:List (List Int))(v:Value)(w:World)(hd1:1≤d)(hd3:d≤3)(hG:∀p∈P,p.length=d+1∧∀z∈p,z.natAbs≤20)(hne:flB d P 0=true)(h5:P.length≤6)(hv:Mat B0 27 3 w v P) :
  Calls Tryz.prog 34 #[.int .i64 d,v] w fun e w'=>∃uo uc T,e=.returned (.slice uo T.length uc)∧FlR (w.heap.size+3) w' (.slice uo T.length uc) T∧FlS d P (T.map fun t=>t.2)∧Below w.heap.size w w':=
 (ZFe d P v w hd1 hd3 hG hne h5 hv).mono (by
  rintro e w' ⟨uo,uc,T,f,c,a,b⟩;exact ⟨uo,uc,T,f,c,a.1,b⟩)
end Go.Proofs.YtkjkfceblmgogaaGreat
