import Derived.Test.YtgfnmkenpgnllaaGreatSgB
namespace Go.Proofs.YtgfnmkenpgnllaaGreat
set_option maxRecDepth 100000
set_option maxHeartbeats 3200000
open Go.RowKit Lin
attribute [local go_sem ↓] Go.wp_at_zero Go.wp_at_succ
structure CtK(w:World)(d:Nat)(M:List (List Int))(B:ByteArray)(k:Nat)(wr:World):Prop where
 I:CtI w w.heap.size (w.heap.size+1) d M wr
 it:wr.heap[w.heap.size+1+1]?=some (.stringIter B k)
theorem CtK.below{w wr w2:World}{d k:Nat}{M:List (List Int)}{B:ByteArray}(h:CtK w d M B k wr)(hb:Below wr.heap.size wr w2):CtK w d M B k w2:=
 ⟨h.I.below hb (Za4 _),(hb.block _ (Zaa3.1 h.it).1).trans h.it⟩
theorem CtK.boxc{w wr:World}{d k:Nat}{M:List (List Int)}{B:ByteArray}(h:CtK w d M B k wr):∃so sc,wr.cell? ⟨w.heap.size+1,1,none⟩=some (.slice so M.length sc):=by
 obtain ⟨sv,a,c,g,b,f⟩:=h.I.box;obtain ⟨so,sc,rfl⟩:=ZAD b
 exact ⟨so,sc,by simp [World.cell?,a]⟩
theorem ZPI{w:World}{q:Nat}{x:Value}{t:TypeId}(h:w.heap[q]?=some (.cells #[x] t (0,0))):∀j u,[x][j]?=some u→w.cell? ((⟨q,0,none⟩:Addr).add j)=some u:=by
 intro j u a
 rcases j with _ | j
 ·simp at a
  subst a;simp [World.cell?,Addr.add,h]
 ·simp at a
theorem CtK.push{w wr wx:World}{d k:Nat}{M:List (List Int)}{B:ByteArray}{u:Value}{zs:List Int}(h:CtK w d M B k wr)(hx:Below wr.heap.size wr wx)(hu:Sl 0 3 wx u (ZAB zs)) :
  ∃so sc vs,wx.cell? ⟨w.heap.size+1,1,none⟩=some (.slice so M.length sc)∧(wx.alloc (.cells #[u] 22)).cell? ⟨w.heap.size+1,1,none⟩=some (.slice so M.length sc)∧(∀j y,[u][j]?=some y→(wx.alloc (.cells #[u] 22)).cell? ((⟨wx.heap.size,0,none⟩:Addr).add j)=some y)∧(Below w.heap.size w (wx.alloc (.cells #[u] 22))∧Below w.heap.size w wx)∧(wx.alloc (.cells #[u] 22)).ownsRow (w.heap.size+1+1) 22 1 (.slice so M.length sc) M.length vs∧w.heap.size+1+1≤(wx.alloc (.cells #[u] 22)).heap.size∧
   ∀v' w5,w5.ownsRow (w.heap.size+1+1) 22 1 v' (M.length+1) (vs ++ [u])→(wx.alloc (.cells #[u] 22)).grownBy w5 (Value.slice so M.length sc).ownBlock→w5.cell? ⟨w.heap.size+1,1,none⟩=some (.slice so M.length sc)∧w5.frozen? ⟨w.heap.size+1,1,none⟩=false∧CtK w d (M ++ [zs]) B k (w5.setCell ⟨w.heap.size+1,1,none⟩ v')∧Below w.heap.size w w5:=by
 obtain ⟨so,sc,vs,n,l,v,o⟩:=h.I.push hx hu;have f:=h.below hx;have m:w.heap.size+1+1 < wx.heap.size:=(Zaa3.1 f.it).1;have a:Below w.heap.size w wx:=f.I.bel;have c:Below w.heap.size w (wx.alloc (.cells #[u] 22)):=a.alloc a.size _
 have i:(wx.alloc (.cells #[u] 22)).cell? ⟨w.heap.size+1,1,none⟩=some (.slice so M.length sc):=((ZAG wx (.cells #[u] 22)).cell (p:=⟨w.heap.size+1,1,none⟩) (by show w.heap.size+1 < _; omega)).trans n
 refine ⟨so,sc,vs,n,i,ZPI (heap_alloc_new wx _),⟨c,a⟩,l.alloc _,by simp; omega,fun v' w5 ho hg=>?_⟩
 obtain ⟨t,s,r⟩:=o v' w5 ho hg;refine ⟨t,s,⟨r,?_⟩,?_⟩
 ·refine (Below.heap_setCell _ _ _ _ (by show w.heap.size+1+1≠w.heap.size+1; omega)).trans ?_
  refine (hg.block _ (by simp; omega) (fun e=>?_)).trans ((Below.heap_alloc wx _ _ m).trans f.it)
  rcases l.2 with ⟨q,_⟩ | ⟨g,cap,cur,q,_,q2,_⟩
  ·rw [q] at e; simp [Value.ownBlock] at e
  ·rw [q] at e
   simp [Value.ownBlock] at e;rw [←e,f.it] at q2
   cases q2
 ·refine c.trans ⟨hg.os,hg.tape,hg.output,Zaa8 (by simp) hg.size,fun b hb=>hg.block b (by simp; omega) (fun e=>?_)⟩
  have:=(l.lt b e.symm).1;omega
theorem ZDc(d:Nat)(P:List (List Int))(s:List UInt8)(v:Value)(w:World)(hv:Mat 0 22 3 w v P)(hP:∀p∈P,p.length=d+1∧∀z∈p,z.natAbs≤20)(hd3:d≤3)(hs:s.length≤P.length)(hs6:P.length≤6)(hc:∀c∈s,c=43∨c=45∨c=48) :
  Calls Tryz.prog 37 #[.int .i64 d,v,.string ⟨s.toArray⟩] w fun e w'=>∃xo xc,e=.returned (.agg #[.int .i64 d,.slice xo (clR P s).length xc])∧Mat 0 22 3 w' (.slice xo (clR P s).length xc) (clR P s)∧Below w.heap.size w w':=by
 obtain ⟨i0,ay,ar,au,aw⟩:=info_parts ZLC;obtain ⟨ro,rc,bg,bp,bk⟩:=ZAE hv;subst bg
 obtain ⟨B,hB⟩:∃B:ByteArray,B=⟨s.toArray⟩:=⟨_,rfl⟩
 have aS:Hid (B.size=s.length):=(by rw [hB]; rfl:B.size=s.length)
 have aI:Hid (∀k,k < s.length→∃c:UInt8,(c=43∨c=45∨c=48)∧s.getD k 0=c∧∀(X:World) (t ty:Nat),X.heap[t]?=some (.stringIter B k)→(Instr.next (.pointer (some ⟨t,0,none⟩)) true ty).run Tryz.prog X=.ok (.tuple #[.bool true,.int .i64 (k:Int),.int .i32 (c.toNat:Int)]) (X.iterAt t B (k+1))):=fun k hk=>by
  have e:s.getD k 0=s[k]:=by simp [hk]
  have hm:s[k]∈s:=List.getElem_mem hk
  refine ⟨s[k],hc _ hm,e,fun X t ty hX=>?_⟩
  have aB:k < B.size:=by rw [aS.out]; exact hk
  have hb:B[k]'aB=s[k]:=by subst hB; rfl
  have ha:(B[k]'aB).toNat < 128:=by
   rw [hb]
   rcases hc _ hm with q | q | q <;> rw [q] <;> decide
  rw [Lib.run_next_ascii_at X t B k ty hX aB ha,hb]
 have aL:Hid (∀(X:World) (t ty:Nat),X.heap[t]?=some (.stringIter B s.length)→(Instr.next (.pointer (some ⟨t,0,none⟩)) true ty).run Tryz.prog X=.ok (.tuple #[.bool false]) X):=fun X t ty hX=>
  Lib.run_next_end_at X t B s.length ty hX (by rw [aS.out]; omega)
 have HV:Hid (∀k,k < s.length→∃N O F f,ro=some ⟨N,O,none⟩∧∀X,Below w.heap.size w X→X.cell? ⟨N,O+k,none⟩=some (.slice F (d+1) f)∧Sl 0 3 X (.slice F (d+1) f) (ZAB (P.getD k []))):=fun k hk=>by
  have aR:k < P.length:=by omega
  obtain ⟨N,O,bq,u,e1,_,h1,h2⟩:=ZAP hv aR;simp only [Za3] at e1;obtain ⟨F,f,rfl,_,_⟩:=ZAH h2;have hl:=(hP (P.getD k []) (ZAT aR)).1;rw [hl] at h1 h2
  exact ⟨N,O,F,f,e1.1,fun X hX=>⟨(hX.cell (ZAI h1)).trans h1,h2.below hX (Za4 _)⟩⟩
 have HN:Hid (∀k,k < s.length→∀X u,Below w.heap.size w X→Sl 0 3 X u (ZAB (P.getD k []))→Calls Tryz.prog 54 #[u] X fun e w'=>∃no nc,e=.returned (.slice no (d+1) nc)∧Sl 0 3 w' (.slice no (d+1) nc) (ZAB (ngL (P.getD k [])))∧Below X.heap.size X w'):=fun k hk X u hX hu=>by
  obtain ⟨hl,hb⟩:=hP (P.getD k []) (ZAT (by omega))
  refine (ZBb 0 _ _ X hu (by omega) (fun z hz=>by have:=hb z hz; omega)).mono ?_
  rintro e w' ⟨u2,rfl,G,aZ⟩;have aM:Sl 0 3 w' u2 (ZAB (ngL (P.getD k []))):=Sl.own G;obtain ⟨no,nc,rfl,_,_⟩:=ZAH aM
  have bh:(ngL (P.getD k [])).length=d+1:=by simp only [ngL,Zab1]; exact hl
  rw [bh] at aM ⊢;exact ⟨no,nc,rfl,aM,aZ⟩
 have aX:Hid (∀k,k≤s.length→(clT P s k).length≤12):=fun k hk=>by
  have:=ZDb P s k;omega
 rw [←hB];clear hB hv hP hc
 have aP:Hid (CtK w d [] B 0 (((w.alloc (.cells #[.int .i64 0,.slice none 0 0] 61)).alloc (.cells #[.int .i64 d,.slice none 0 0] 61)).iter B 0)):=by
  have h0:=CtI.start w (w.alloc (.cells #[.int .i64 0,.slice none 0 0] 61)) w.heap.size d (Za4 _) (heap_alloc_new w _) ((Below.refl _ _).alloc (Za4 _) _)
  have e:(w.alloc (.cells #[.int .i64 0,.slice none 0 0] 61)).heap.size=w.heap.size+1:=by simp
  rw [e] at h0;refine ⟨h0.below ((Below.refl _ _).alloc (Za4 _) _) (Za4 _),?_⟩;have:=World.iter_heap ((w.alloc (.cells #[.int .i64 0,.slice none 0 0] 61)).alloc (.cells #[.int .i64 d,.slice none 0 0] 61)) B 0
  simpa using this
 go_enter Tryz.func37,Tryz.ntmps37;go_wp2
 go_loopg [8,9] s.length (fun gk _ _ wr=>∃k,k≤s.length∧gk=s.length-k∧CtK w d (clT P s k) B k wr)
 case atStart=>exact ⟨0,Za5 _,rfl,aP.out⟩
 case round=>
  obtain ⟨k,hk,aO,V⟩:=hrel;have aD:=hid aO
  by_cases aB:k < s.length
  ·obtain ⟨c,aV,aT,an⟩:=aI.out k aB
   have an:=an wr (w.heap.size+1+1)
   have an:=fun ty=>an ty V.it
   obtain ⟨D,aN⟩:∃D,D=wr.iterAt (w.heap.size+1+1) B (k+1):=⟨_,rfl⟩
   rw [←aN] at an
   obtain ⟨M,hM⟩:∃M,M=clT P s k:=⟨_,rfl⟩
   have aW:=aX.out k hk;rw [←hM] at V aW
   have U:Hid (CtK w d M B (k+1) D):=by
    rw [aN]
    exact ⟨V.I.iterAt V.it (k+1) (by omega),Lib.iterAt_heap wr _ B k (k+1) V.it⟩
   obtain ⟨N,O,F,f,aY,aQ⟩:=HV.out k aB;subst aY;have b:=hid aQ
   have aG:Hid (∀X,Below w.heap.size w X→Calls Tryz.prog 54 #[.slice F (d+1) f] X fun e w'=>∃no nc,e=.returned (.slice no (d+1) nc)∧Sl 0 3 w' (.slice no (d+1) nc) (ZAB (ngL (P.getD k [])))∧Below X.heap.size X w'):=fun X hX=>HN.out k aB X _ hX (aQ X hX).2
   have ak:Hid (clT P s k=M∧s.getD k 0=c):=⟨hM.symm,aT⟩
   have aR:(k:Int) < (P.length:Int):=by omega
   have bl:(0:Int)≤(k:Int):=by omega
   clear aQ aO V aN hM aT HV HN aP aI aL
   rcases aV with rfl | rfl | rfl
   ·have an:∀ty,(Instr.next (.pointer (some ⟨w.heap.size+1+1,0,none⟩)) true ty).run Tryz.prog wr=.ok (.tuple #[.bool true,.int .i64 (k:Int),.int .i32 43]) D:=an
    go_upto_region 8 with fail
    have aq:=U.out.boxc;obtain ⟨aE,aF,aq⟩:=aq
    ·refine wp_region_held (S:=fun X=>X.cell? ⟨N,O+k,none⟩=some (.slice F (d+1) f)) (by kernel_rfl) ?_
     show wpAnyH _ _ _ _ _ _ _ _ D.drew
     have hHeld:=(b.out D.drew (U.out.I.bel.trans ((Below.refl D.heap.size D).drew.mono U.out.I.bel.size))).1;have aU:D.drew.cell? ⟨w.heap.size+1,1,none⟩=some (.slice aE M.length aF):=aq
     refine ZAA (i:=0) (d:=31) (v:=(.pointer (some ⟨w.heap.size+1,1,none⟩))) rfl rfl (by kernel_rfl) (by kernel_rfl) (by kernel_rfl) (fun _ _ _ h=>h) (.inl ⟨by rfl,by (intro wq a; (try dsimp only at a); go_simp; (try (first | rfl | omega)))⟩) hHeld ?_
     simp only [Act.put,Za1,List.set]
     refine ZAA (i:=2) (d:=33) (v:=(.slice (some ⟨N,O,none⟩) P.length rc)) rfl rfl (by kernel_rfl) (by kernel_rfl) (by kernel_rfl) (fun _ _ _ h=>h) (.inl ⟨by rfl,by (intro wq a; (try dsimp only at a); go_simp; (try (first | rfl | omega)))⟩) hHeld ?_
     simp only [Act.put,Za1,List.set]
     refine ZAA (i:=3) (d:=34) (v:=(.int .i64 (k:Int))) rfl rfl (by kernel_rfl) (by kernel_rfl) (by kernel_rfl) (fun _ _ _ h=>h) (.inl ⟨by rfl,by (intro wq a; (try dsimp only at a); go_simp; (try (first | rfl | omega)))⟩) hHeld ?_
     simp only [Act.put,Za1,List.set]
     refine ZAA (i:=4) (d:=35) (v:=(.pointer (some ⟨N,O+k,none⟩))) rfl rfl (by kernel_rfl) (by kernel_rfl) (by kernel_rfl) (fun _ _ _ h=>h) (.inl ⟨by rfl,by (intro wq a; (try dsimp only at a); go_simp; (try (first | rfl | omega)))⟩) hHeld ?_
     simp only [Act.put,Za1,List.set]
     refine ZAA (i:=5) (d:=36) (v:=(.slice F (d+1) f)) rfl rfl (by kernel_rfl) (by kernel_rfl) (by kernel_rfl) (fun _ _ _ h=>h) (.inl ⟨by rfl,by (intro wq a; (try dsimp only at a); go_simp; (try (first | rfl | omega)))⟩) hHeld ?_
     simp only [Act.put,Za1,List.set]
     refine wpAnyH_ready (rs:=[1,6]) (by kernel_rfl) (by simp) ?_
     refine ZAF (i:=1) rfl (by rfl) (fun K hK=>?_) (ZAF (i:=6) rfl (by rfl) (fun K hK=>?_) AllReadyH.nil)
     ·go_simp
      refine hK.out _ _ hHeld (fun hHeld=>?_)
      clear hK K
      try simp only [Act.put,Za1,List.set]
      refine wpAnyH_ready (rs:=[6]) (by kernel_rfl) (by simp) ?_
      refine ZAF (i:=6) rfl (by rfl) (fun K hK=>?_) AllReadyH.nil
      go_simp;refine (aG.out _ (U.out.I.bel.trans ((Below.refl D.heap.size D).drew.mono U.out.I.bel.size))).mono ?_;rintro e E ⟨uo,uc,rfl,A,R⟩;have o:Below D.heap.size D E:=(Below.refl _ _).drew.trans R
      obtain ⟨zs,m⟩:∃zs,zs=ngL (P.getD k []):=⟨_,rfl⟩
      rw [←m] at A;have aa:=hid m;obtain ⟨so,sc,vs,e1,T,e3,e4,e5,e6,e7⟩:=U.out.push o A
      obtain ⟨W5,n⟩:∃W5,W5=E.alloc (.cells #[.slice uo (d+1) uc] 22):=⟨_,rfl⟩
      rw [←n] at T e3 e4 e5 e6 e7;have ag:=hid n;have af:=hid e5;have aj:=hid e3;have ah:=hid e6;have ai:=hid e7;have l:Hid (Below w.heap.size w W5):=e4.1;have ae:Hid (Below w.heap.size w E):=e4.2;have b1:=e1;have b2:=T;clear e1 T e3 e4 e5 e6 e7 n;have az:=hid o;clear A o R m
      refine hK.out _ _ (b.out _ ae.out).1 (fun hHeld=>?_)
      clear hK K
      try simp only [Act.put,Za1,List.set]
      have aA:Value.slice aE M.length aF=.slice so M.length sc:=by
       have q:=(az.cell (p:=⟨w.heap.size+1,1,none⟩) (ZAI aq)).trans aq;rw [b1] at q;exact (Option.some.inj q).symm
      rw [aA]
      refine wpAnyH_ready (rs:=[7]) (by kernel_rfl) (by simp) ?_
      refine ZAF (i:=7) rfl (by rfl) (fun K hK=>?_) AllReadyH.nil
      go_simp;rw [←ag.out]
      refine hK.out _ _ (b.out _ l.out).1 (fun hHeld=>?_)
      clear hK K
      try simp only [Act.put,Za1,List.set]
      refine wpAnyH_ready (rs:=[8]) (by kernel_rfl) (by simp) ?_
      refine ZAF (i:=8) rfl (by rfl) (fun K hK=>?_) AllReadyH.nil
      refine ZAd _ _ 25 rfl (w.heap.size+1+1) 22 i0 (.slice none 0 0) 1 24 Tryz.underlying25 ay ar au aw rfl (by decide) (.slice so M.length sc) M.length vs rfl af.out ⟨E.heap.size,0,none⟩ 1 1 [.slice uo (d+1) uc] rfl rfl aj.out (ZAL _ _ _) (by unfold maxLen; omega) (by omega) ah.out ?_
      intro v' r G hg _;obtain ⟨j,g,L⟩:=ZAD G;subst L;obtain ⟨k1,k2,J,k4⟩:=ai.out (.slice j (M.length+1) g) r G hg;have K3:=hid J;have Q:Hid (r.cell? ⟨N,O+k,none⟩=some (.slice F (d+1) f)∧(r.setCell ⟨w.heap.size+1,1,none⟩ (.slice j (M.length+1) g)).cell? ⟨N,O+k,none⟩=some (.slice F (d+1) f)):=⟨(b.out _ k4).1,(b.out _ J.I.bel).1⟩;clear J k4 G hg
      refine hK.out _ _ Q.out.1 (fun hHeld=>?_)
      clear hK K
      try simp only [Act.put,Za1,List.set]
      refine ZAA (i:=9) (d:=40) (v:=(.pointer (some ⟨w.heap.size+1,1,none⟩))) rfl rfl (by kernel_rfl) (by kernel_rfl) (by kernel_rfl) (fun _ _ _ h=>h) (.inl ⟨by rfl,by (intro wq a; (try dsimp only at a); go_simp; (try (first | rfl | omega)))⟩) hHeld ?_
      simp only [Act.put,Za1,List.set]
      refine wpAnyH_ready (rs:=[10]) (by kernel_rfl) (by simp) ?_
      refine ZAF (i:=10) rfl (by rfl) (fun K hK=>?_) AllReadyH.nil
      go_simp
      refine hK.out _ _ Q.out.2 (fun hHeld=>?_)
      clear hK K
      refine wpAnyH_done (by kernel_rfl) ?_ _
      clear hHeld
      have HF:Hid (CtK w d (clT P s (k+1)) B (k+1) (r.setCell ⟨w.heap.size+1,1,none⟩ (.slice j (M.length+1) g))):=by
       have h9:=K3.out
       show CtK w d (clT P s (k+1)) B (k+1) _
       rw [aa.out] at h9
       have T:M ++ [ngL (P.getD k [])]=M ++ clO (P.getD k []) 43:=by simp [clO]
       rw [T] at h9;rw [ZBY,ak.out.1,ak.out.2]; exact h9
      have am:s.length-(k+1) < gk:=by rw [aD.out]; omega
      clear K3 Q;go_wp2
      go_roundg (s.length-(k+1))
      case measure=>exact am
      case rel=>exact ⟨k+1,by omega,rfl,HF.out⟩
     ·go_simp
      refine (aG.out _ (U.out.I.bel.trans ((Below.refl D.heap.size D).drew.mono U.out.I.bel.size))).mono ?_;rintro e E ⟨uo,uc,rfl,A,R⟩;have o:Below D.heap.size D E:=(Below.refl _ _).drew.trans R
      obtain ⟨zs,m⟩:∃zs,zs=ngL (P.getD k []):=⟨_,rfl⟩
      rw [←m] at A;have aa:=hid m;obtain ⟨so,sc,vs,e1,T,e3,e4,e5,e6,e7⟩:=U.out.push o A
      obtain ⟨W5,n⟩:∃W5,W5=E.alloc (.cells #[.slice uo (d+1) uc] 22):=⟨_,rfl⟩
      rw [←n] at T e3 e4 e5 e6 e7;have ag:=hid n;have af:=hid e5;have aj:=hid e3;have ah:=hid e6;have ai:=hid e7;have l:Hid (Below w.heap.size w W5):=e4.1;have ae:Hid (Below w.heap.size w E):=e4.2;have b1:=e1;have b2:=T;clear e1 T e3 e4 e5 e6 e7 n;have az:=hid o;clear A o R m
      refine hK.out _ _ (b.out _ ae.out).1 (fun hHeld=>?_)
      clear hK K
      try simp only [Act.put,Za1,List.set]
      refine wpAnyH_ready (rs:=[1,7]) (by kernel_rfl) (by simp) ?_
      refine ZAF (i:=1) rfl (by rfl) (fun K hK=>?_) (ZAF (i:=7) rfl (by rfl) (fun K hK=>?_) AllReadyH.nil)
      ·go_simp
       refine hK.out _ _ (b.out _ ae.out).1 (fun hHeld=>?_)
       clear hK K
       try simp only [Act.put,Za1,List.set]
       refine wpAnyH_ready (rs:=[7]) (by kernel_rfl) (by simp) ?_
       refine ZAF (i:=7) rfl (by rfl) (fun K hK=>?_) AllReadyH.nil
       go_simp;rw [←ag.out]
       refine hK.out _ _ (b.out _ l.out).1 (fun hHeld=>?_)
       clear hK K
       try simp only [Act.put,Za1,List.set]
       refine wpAnyH_ready (rs:=[8]) (by kernel_rfl) (by simp) ?_
       refine ZAF (i:=8) rfl (by rfl) (fun K hK=>?_) AllReadyH.nil
       refine ZAd _ _ 25 rfl (w.heap.size+1+1) 22 i0 (.slice none 0 0) 1 24 Tryz.underlying25 ay ar au aw rfl (by decide) (.slice so M.length sc) M.length vs rfl af.out ⟨E.heap.size,0,none⟩ 1 1 [.slice uo (d+1) uc] rfl rfl aj.out (ZAL _ _ _) (by unfold maxLen; omega) (by omega) ah.out ?_
       intro v' r G hg _;obtain ⟨j,g,L⟩:=ZAD G;subst L;obtain ⟨k1,k2,J,k4⟩:=ai.out (.slice j (M.length+1) g) r G hg;have K3:=hid J;have Q:Hid (r.cell? ⟨N,O+k,none⟩=some (.slice F (d+1) f)∧(r.setCell ⟨w.heap.size+1,1,none⟩ (.slice j (M.length+1) g)).cell? ⟨N,O+k,none⟩=some (.slice F (d+1) f)):=⟨(b.out _ k4).1,(b.out _ J.I.bel).1⟩;clear J k4 G hg
       refine hK.out _ _ Q.out.1 (fun hHeld=>?_)
       clear hK K
       try simp only [Act.put,Za1,List.set]
       refine ZAA (i:=9) (d:=40) (v:=(.pointer (some ⟨w.heap.size+1,1,none⟩))) rfl rfl (by kernel_rfl) (by kernel_rfl) (by kernel_rfl) (fun _ _ _ h=>h) (.inl ⟨by rfl,by (intro wq a; (try dsimp only at a); go_simp; (try (first | rfl | omega)))⟩) hHeld ?_
       simp only [Act.put,Za1,List.set]
       refine wpAnyH_ready (rs:=[10]) (by kernel_rfl) (by simp) ?_
       refine ZAF (i:=10) rfl (by rfl) (fun K hK=>?_) AllReadyH.nil
       go_simp
       refine hK.out _ _ Q.out.2 (fun hHeld=>?_)
       clear hK K
       refine wpAnyH_done (by kernel_rfl) ?_ _
       clear hHeld
       have HF:Hid (CtK w d (clT P s (k+1)) B (k+1) (r.setCell ⟨w.heap.size+1,1,none⟩ (.slice j (M.length+1) g))):=by
        have h9:=K3.out
        show CtK w d (clT P s (k+1)) B (k+1) _
        rw [aa.out] at h9
        have T:M ++ [ngL (P.getD k [])]=M ++ clO (P.getD k []) 43:=by simp [clO]
        rw [T] at h9;rw [ZBY,ak.out.1,ak.out.2]; exact h9
       have am:s.length-(k+1) < gk:=by rw [aD.out]; omega
       clear K3 Q;go_wp2
       go_roundg (s.length-(k+1))
       case measure=>exact am
       case rel=>exact ⟨k+1,by omega,rfl,HF.out⟩
      ·go_simp
       rw [←ag.out]
       refine hK.out _ _ (b.out _ l.out).1 (fun hHeld=>?_)
       clear hK K
       try simp only [Act.put,Za1,List.set]
       refine wpAnyH_ready (rs:=[1]) (by kernel_rfl) (by simp) ?_
       refine ZAF (i:=1) rfl (by rfl) (fun K hK=>?_) AllReadyH.nil
       go_simp
       refine hK.out _ _ (b.out _ l.out).1 (fun hHeld=>?_)
       clear hK K
       try simp only [Act.put,Za1,List.set]
       refine wpAnyH_ready (rs:=[8]) (by kernel_rfl) (by simp) ?_
       refine ZAF (i:=8) rfl (by rfl) (fun K hK=>?_) AllReadyH.nil
       refine ZAd _ _ 25 rfl (w.heap.size+1+1) 22 i0 (.slice none 0 0) 1 24 Tryz.underlying25 ay ar au aw rfl (by decide) (.slice so M.length sc) M.length vs rfl af.out ⟨E.heap.size,0,none⟩ 1 1 [.slice uo (d+1) uc] rfl rfl aj.out (ZAL _ _ _) (by unfold maxLen; omega) (by omega) ah.out ?_
       intro v' r G hg _;obtain ⟨j,g,L⟩:=ZAD G;subst L;obtain ⟨k1,k2,J,k4⟩:=ai.out (.slice j (M.length+1) g) r G hg;have K3:=hid J;have Q:Hid (r.cell? ⟨N,O+k,none⟩=some (.slice F (d+1) f)∧(r.setCell ⟨w.heap.size+1,1,none⟩ (.slice j (M.length+1) g)).cell? ⟨N,O+k,none⟩=some (.slice F (d+1) f)):=⟨(b.out _ k4).1,(b.out _ J.I.bel).1⟩;clear J k4 G hg
       refine hK.out _ _ Q.out.1 (fun hHeld=>?_)
       clear hK K
       try simp only [Act.put,Za1,List.set]
       refine ZAA (i:=9) (d:=40) (v:=(.pointer (some ⟨w.heap.size+1,1,none⟩))) rfl rfl (by kernel_rfl) (by kernel_rfl) (by kernel_rfl) (fun _ _ _ h=>h) (.inl ⟨by rfl,by (intro wq a; (try dsimp only at a); go_simp; (try (first | rfl | omega)))⟩) hHeld ?_
       simp only [Act.put,Za1,List.set]
       refine wpAnyH_ready (rs:=[10]) (by kernel_rfl) (by simp) ?_
       refine ZAF (i:=10) rfl (by rfl) (fun K hK=>?_) AllReadyH.nil
       go_simp
       refine hK.out _ _ Q.out.2 (fun hHeld=>?_)
       clear hK K
       refine wpAnyH_done (by kernel_rfl) ?_ _
       clear hHeld
       have HF:Hid (CtK w d (clT P s (k+1)) B (k+1) (r.setCell ⟨w.heap.size+1,1,none⟩ (.slice j (M.length+1) g))):=by
        have h9:=K3.out
        show CtK w d (clT P s (k+1)) B (k+1) _
        rw [aa.out] at h9
        have T:M ++ [ngL (P.getD k [])]=M ++ clO (P.getD k []) 43:=by simp [clO]
        rw [T] at h9;rw [ZBY,ak.out.1,ak.out.2]; exact h9
       have am:s.length-(k+1) < gk:=by rw [aD.out]; omega
       clear K3 Q;go_wp2
       go_roundg (s.length-(k+1))
       case measure=>exact am
       case rel=>exact ⟨k+1,by omega,rfl,HF.out⟩
   ·have an:∀ty,(Instr.next (.pointer (some ⟨w.heap.size+1+1,0,none⟩)) true ty).run Tryz.prog wr=.ok (.tuple #[.bool true,.int .i64 (k:Int),.int .i32 45]) D:=an
    obtain ⟨zs,m⟩:∃zs,zs=P.getD k []:=⟨_,rfl⟩
    go_upto_region 6 with fail
    go_cut [8,41] from 20 (fun x y E=>x=.int .i64 (k:Int)∧y=undef∧CtK w d (M ++ [P.getD k []]) B (k+1) E)
    case first=>
     have aa:=hid m
     obtain ⟨E,aC⟩:∃E,E=D.drew:=⟨_,rfl⟩
     have o:Below D.heap.size D E:=by rw [aC]; exact (Below.refl _ _).drew
     have A:Sl 0 3 E (.slice F (d+1) f) (ZAB zs):=by rw [m]; exact (b.out _ (U.out.I.bel.trans (o.mono U.out.I.bel.size))).2
     obtain ⟨so,sc,vs,e1,T,e3,e4,e5,e6,e7⟩:=U.out.push o A
     obtain ⟨W5,n⟩:∃W5,W5=E.alloc (.cells #[.slice F (d+1) f] 22):=⟨_,rfl⟩
     rw [←n] at T e3 e4 e5 e6 e7;have ag:=hid n;have af:=hid e5;have aj:=hid e3;have ah:=hid e6;have ai:=hid e7;have l:Hid (Below w.heap.size w W5):=e4.1;have ae:Hid (Below w.heap.size w E):=e4.2;have b1:=e1;have b2:=T;clear e1 T e3 e4 e5 e6 e7 n;clear A o m
     refine wp_region_held (S:=fun X=>X.cell? ⟨N,O+k,none⟩=some (.slice F (d+1) f)) (by kernel_rfl) ?_
     show wpAnyH _ _ _ _ _ _ _ _ D.drew
     rw [←aC];have hHeld:=(b.out _ ae.out).1;clear aC
     refine ZAA (i:=0) (d:=20) (v:=(.pointer (some ⟨w.heap.size+1,1,none⟩))) rfl rfl (by kernel_rfl) (by kernel_rfl) (by kernel_rfl) (fun _ _ _ h=>h) (.inl ⟨by rfl,by (intro wq a; (try dsimp only at a); go_simp; (try (first | rfl | omega)))⟩) hHeld ?_
     simp only [Act.put,Za1,List.set]
     refine ZAA (i:=2) (d:=22) (v:=(.slice (some ⟨N,O,none⟩) P.length rc)) rfl rfl (by kernel_rfl) (by kernel_rfl) (by kernel_rfl) (fun _ _ _ h=>h) (.inl ⟨by rfl,by (intro wq a; (try dsimp only at a); go_simp; (try (first | rfl | omega)))⟩) hHeld ?_
     simp only [Act.put,Za1,List.set]
     refine ZAA (i:=3) (d:=23) (v:=(.int .i64 (k:Int))) rfl rfl (by kernel_rfl) (by kernel_rfl) (by kernel_rfl) (fun _ _ _ h=>h) (.inl ⟨by rfl,by (intro wq a; (try dsimp only at a); go_simp; (try (first | rfl | omega)))⟩) hHeld ?_
     simp only [Act.put,Za1,List.set]
     refine ZAA (i:=4) (d:=24) (v:=(.pointer (some ⟨N,O+k,none⟩))) rfl rfl (by kernel_rfl) (by kernel_rfl) (by kernel_rfl) (fun _ _ _ h=>h) (.inl ⟨by rfl,by (intro wq a; (try dsimp only at a); go_simp; (try (first | rfl | omega)))⟩) hHeld ?_
     simp only [Act.put,Za1,List.set]
     refine ZAA (i:=5) (d:=25) (v:=(.slice F (d+1) f)) rfl rfl (by kernel_rfl) (by kernel_rfl) (by kernel_rfl) (fun _ _ _ h=>h) (.inl ⟨by rfl,by (intro wq a; (try dsimp only at a); go_simp; (try (first | rfl | omega)))⟩) hHeld ?_
     simp only [Act.put,Za1,List.set]
     refine wpAnyH_ready (rs:=[1,6]) (by kernel_rfl) (by simp) ?_
     refine ZAF (i:=1) rfl (by rfl) (fun K hK=>?_) (ZAF (i:=6) rfl (by rfl) (fun K hK=>?_) AllReadyH.nil)
     ·go_simp
      refine hK.out _ _ (b.out _ ae.out).1 (fun hHeld=>?_)
      clear hK K
      try simp only [Act.put,Za1,List.set]
      refine wpAnyH_ready (rs:=[6]) (by kernel_rfl) (by simp) ?_
      refine ZAF (i:=6) rfl (by rfl) (fun K hK=>?_) AllReadyH.nil
      go_simp;rw [←ag.out]
      refine hK.out _ _ (b.out _ l.out).1 (fun hHeld=>?_)
      clear hK K
      try simp only [Act.put,Za1,List.set]
      refine wpAnyH_ready (rs:=[7]) (by kernel_rfl) (by simp) ?_
      refine ZAF (i:=7) rfl (by rfl) (fun K hK=>?_) AllReadyH.nil
      refine ZAd _ _ 25 rfl (w.heap.size+1+1) 22 i0 (.slice none 0 0) 1 24 Tryz.underlying25 ay ar au aw rfl (by decide) (.slice so M.length sc) M.length vs rfl af.out ⟨E.heap.size,0,none⟩ 1 1 [.slice F (d+1) f] rfl rfl aj.out (ZAL _ _ _) (by unfold maxLen; omega) (by omega) ah.out ?_
      intro v' r G hg _;obtain ⟨j,g,L⟩:=ZAD G;subst L;obtain ⟨k1,k2,J,k4⟩:=ai.out (.slice j (M.length+1) g) r G hg;have K3:=hid J;have Q:Hid (r.cell? ⟨N,O+k,none⟩=some (.slice F (d+1) f)∧(r.setCell ⟨w.heap.size+1,1,none⟩ (.slice j (M.length+1) g)).cell? ⟨N,O+k,none⟩=some (.slice F (d+1) f)):=⟨(b.out _ k4).1,(b.out _ J.I.bel).1⟩;clear J k4 G hg
      refine hK.out _ _ Q.out.1 (fun hHeld=>?_)
      clear hK K
      try simp only [Act.put,Za1,List.set]
      refine ZAA (i:=8) (d:=28) (v:=(.pointer (some ⟨w.heap.size+1,1,none⟩))) rfl rfl (by kernel_rfl) (by kernel_rfl) (by kernel_rfl) (fun _ _ _ h=>h) (.inl ⟨by rfl,by (intro wq a; (try dsimp only at a); go_simp; (try (first | rfl | omega)))⟩) hHeld ?_
      simp only [Act.put,Za1,List.set]
      refine wpAnyH_ready (rs:=[9]) (by kernel_rfl) (by simp) ?_
      refine ZAF (i:=9) rfl (by rfl) (fun K hK=>?_) AllReadyH.nil
      go_simp
      refine hK.out _ _ Q.out.2 (fun hHeld=>?_)
      clear hK K
      refine wpAnyH_done (by kernel_rfl) ?_ _
      clear hHeld;go_wp2
      go_meet
      exact ⟨rfl,rfl,by have h9:=K3.out; rwa [aa.out] at h9⟩
     ·go_simp
      rw [←ag.out]
      refine hK.out _ _ (b.out _ l.out).1 (fun hHeld=>?_)
      clear hK K
      try simp only [Act.put,Za1,List.set]
      refine wpAnyH_ready (rs:=[1]) (by kernel_rfl) (by simp) ?_
      refine ZAF (i:=1) rfl (by rfl) (fun K hK=>?_) AllReadyH.nil
      go_simp
      refine hK.out _ _ (b.out _ l.out).1 (fun hHeld=>?_)
      clear hK K
      try simp only [Act.put,Za1,List.set]
      refine wpAnyH_ready (rs:=[7]) (by kernel_rfl) (by simp) ?_
      refine ZAF (i:=7) rfl (by rfl) (fun K hK=>?_) AllReadyH.nil
      refine ZAd _ _ 25 rfl (w.heap.size+1+1) 22 i0 (.slice none 0 0) 1 24 Tryz.underlying25 ay ar au aw rfl (by decide) (.slice so M.length sc) M.length vs rfl af.out ⟨E.heap.size,0,none⟩ 1 1 [.slice F (d+1) f] rfl rfl aj.out (ZAL _ _ _) (by unfold maxLen; omega) (by omega) ah.out ?_
      intro v' r G hg _;obtain ⟨j,g,L⟩:=ZAD G;subst L;obtain ⟨k1,k2,J,k4⟩:=ai.out (.slice j (M.length+1) g) r G hg;have K3:=hid J;have Q:Hid (r.cell? ⟨N,O+k,none⟩=some (.slice F (d+1) f)∧(r.setCell ⟨w.heap.size+1,1,none⟩ (.slice j (M.length+1) g)).cell? ⟨N,O+k,none⟩=some (.slice F (d+1) f)):=⟨(b.out _ k4).1,(b.out _ J.I.bel).1⟩;clear J k4 G hg
      refine hK.out _ _ Q.out.1 (fun hHeld=>?_)
      clear hK K
      try simp only [Act.put,Za1,List.set]
      refine ZAA (i:=8) (d:=28) (v:=(.pointer (some ⟨w.heap.size+1,1,none⟩))) rfl rfl (by kernel_rfl) (by kernel_rfl) (by kernel_rfl) (fun _ _ _ h=>h) (.inl ⟨by rfl,by (intro wq a; (try dsimp only at a); go_simp; (try (first | rfl | omega)))⟩) hHeld ?_
      simp only [Act.put,Za1,List.set]
      refine wpAnyH_ready (rs:=[9]) (by kernel_rfl) (by simp) ?_
      refine ZAF (i:=9) rfl (by rfl) (fun K hK=>?_) AllReadyH.nil
      go_simp
      refine hK.out _ _ Q.out.2 (fun hHeld=>?_)
      clear hK K
      refine wpAnyH_done (by kernel_rfl) ?_ _
      clear hHeld;go_wp2
      go_meet
      exact ⟨rfl,rfl,by have h9:=K3.out; rwa [aa.out] at h9⟩
    case rest=>
     obtain ⟨rfl,rfl,V⟩:=hcut;clear m zs
     have HF:Hid (CtK w d (clT P s (k+1)) B (k+1) wc):=by
      show CtK w d (clT P s (k+1)) B (k+1) wc
      rw [ZBY,ak.out.1,ak.out.2]; simpa [clO] using V
     have am:s.length-(k+1) < gk:=by rw [aD.out]; omega
     clear V;go_wp2
     go_roundg (s.length-(k+1))
     case measure=>exact am
     case rel=>exact ⟨k+1,by omega,rfl,HF.out⟩
   ·have an:∀ty,(Instr.next (.pointer (some ⟨w.heap.size+1+1,0,none⟩)) true ty).run Tryz.prog wr=.ok (.tuple #[.bool true,.int .i64 (k:Int),.int .i32 48]) D:=an
    obtain ⟨zs,m⟩:∃zs,zs=P.getD k []:=⟨_,rfl⟩
    go_upto_region 6 with fail
    go_cut [8,41] from 20 (fun x y E=>x=.int .i64 (k:Int)∧y=undef∧CtK w d (M ++ [P.getD k []]) B (k+1) E)
    case first=>
     have aa:=hid m
     obtain ⟨E,aC⟩:∃E,E=D.drew:=⟨_,rfl⟩
     have o:Below D.heap.size D E:=by rw [aC]; exact (Below.refl _ _).drew
     have A:Sl 0 3 E (.slice F (d+1) f) (ZAB zs):=by rw [m]; exact (b.out _ (U.out.I.bel.trans (o.mono U.out.I.bel.size))).2
     obtain ⟨so,sc,vs,e1,T,e3,e4,e5,e6,e7⟩:=U.out.push o A
     obtain ⟨W5,n⟩:∃W5,W5=E.alloc (.cells #[.slice F (d+1) f] 22):=⟨_,rfl⟩
     rw [←n] at T e3 e4 e5 e6 e7;have ag:=hid n;have af:=hid e5;have aj:=hid e3;have ah:=hid e6;have ai:=hid e7;have l:Hid (Below w.heap.size w W5):=e4.1;have ae:Hid (Below w.heap.size w E):=e4.2;have b1:=e1;have b2:=T;clear e1 T e3 e4 e5 e6 e7 n;clear A o m
     refine wp_region_held (S:=fun X=>X.cell? ⟨N,O+k,none⟩=some (.slice F (d+1) f)) (by kernel_rfl) ?_
     show wpAnyH _ _ _ _ _ _ _ _ D.drew
     rw [←aC];have hHeld:=(b.out _ ae.out).1;clear aC
     refine ZAA (i:=0) (d:=20) (v:=(.pointer (some ⟨w.heap.size+1,1,none⟩))) rfl rfl (by kernel_rfl) (by kernel_rfl) (by kernel_rfl) (fun _ _ _ h=>h) (.inl ⟨by rfl,by (intro wq a; (try dsimp only at a); go_simp; (try (first | rfl | omega)))⟩) hHeld ?_
     simp only [Act.put,Za1,List.set]
     refine ZAA (i:=2) (d:=22) (v:=(.slice (some ⟨N,O,none⟩) P.length rc)) rfl rfl (by kernel_rfl) (by kernel_rfl) (by kernel_rfl) (fun _ _ _ h=>h) (.inl ⟨by rfl,by (intro wq a; (try dsimp only at a); go_simp; (try (first | rfl | omega)))⟩) hHeld ?_
     simp only [Act.put,Za1,List.set]
     refine ZAA (i:=3) (d:=23) (v:=(.int .i64 (k:Int))) rfl rfl (by kernel_rfl) (by kernel_rfl) (by kernel_rfl) (fun _ _ _ h=>h) (.inl ⟨by rfl,by (intro wq a; (try dsimp only at a); go_simp; (try (first | rfl | omega)))⟩) hHeld ?_
     simp only [Act.put,Za1,List.set]
     refine ZAA (i:=4) (d:=24) (v:=(.pointer (some ⟨N,O+k,none⟩))) rfl rfl (by kernel_rfl) (by kernel_rfl) (by kernel_rfl) (fun _ _ _ h=>h) (.inl ⟨by rfl,by (intro wq a; (try dsimp only at a); go_simp; (try (first | rfl | omega)))⟩) hHeld ?_
     simp only [Act.put,Za1,List.set]
     refine ZAA (i:=5) (d:=25) (v:=(.slice F (d+1) f)) rfl rfl (by kernel_rfl) (by kernel_rfl) (by kernel_rfl) (fun _ _ _ h=>h) (.inl ⟨by rfl,by (intro wq a; (try dsimp only at a); go_simp; (try (first | rfl | omega)))⟩) hHeld ?_
     simp only [Act.put,Za1,List.set]
     refine wpAnyH_ready (rs:=[1,6]) (by kernel_rfl) (by simp) ?_
     refine ZAF (i:=1) rfl (by rfl) (fun K hK=>?_) (ZAF (i:=6) rfl (by rfl) (fun K hK=>?_) AllReadyH.nil)
     ·go_simp
      refine hK.out _ _ (b.out _ ae.out).1 (fun hHeld=>?_)
      clear hK K
      try simp only [Act.put,Za1,List.set]
      refine wpAnyH_ready (rs:=[6]) (by kernel_rfl) (by simp) ?_
      refine ZAF (i:=6) rfl (by rfl) (fun K hK=>?_) AllReadyH.nil
      go_simp;rw [←ag.out]
      refine hK.out _ _ (b.out _ l.out).1 (fun hHeld=>?_)
      clear hK K
      try simp only [Act.put,Za1,List.set]
      refine wpAnyH_ready (rs:=[7]) (by kernel_rfl) (by simp) ?_
      refine ZAF (i:=7) rfl (by rfl) (fun K hK=>?_) AllReadyH.nil
      refine ZAd _ _ 25 rfl (w.heap.size+1+1) 22 i0 (.slice none 0 0) 1 24 Tryz.underlying25 ay ar au aw rfl (by decide) (.slice so M.length sc) M.length vs rfl af.out ⟨E.heap.size,0,none⟩ 1 1 [.slice F (d+1) f] rfl rfl aj.out (ZAL _ _ _) (by unfold maxLen; omega) (by omega) ah.out ?_
      intro v' r G hg _;obtain ⟨j,g,L⟩:=ZAD G;subst L;obtain ⟨k1,k2,J,k4⟩:=ai.out (.slice j (M.length+1) g) r G hg;have K3:=hid J;have Q:Hid (r.cell? ⟨N,O+k,none⟩=some (.slice F (d+1) f)∧(r.setCell ⟨w.heap.size+1,1,none⟩ (.slice j (M.length+1) g)).cell? ⟨N,O+k,none⟩=some (.slice F (d+1) f)):=⟨(b.out _ k4).1,(b.out _ J.I.bel).1⟩;clear J k4 G hg
      refine hK.out _ _ Q.out.1 (fun hHeld=>?_)
      clear hK K
      try simp only [Act.put,Za1,List.set]
      refine ZAA (i:=8) (d:=28) (v:=(.pointer (some ⟨w.heap.size+1,1,none⟩))) rfl rfl (by kernel_rfl) (by kernel_rfl) (by kernel_rfl) (fun _ _ _ h=>h) (.inl ⟨by rfl,by (intro wq a; (try dsimp only at a); go_simp; (try (first | rfl | omega)))⟩) hHeld ?_
      simp only [Act.put,Za1,List.set]
      refine wpAnyH_ready (rs:=[9]) (by kernel_rfl) (by simp) ?_
      refine ZAF (i:=9) rfl (by rfl) (fun K hK=>?_) AllReadyH.nil
      go_simp
      refine hK.out _ _ Q.out.2 (fun hHeld=>?_)
      clear hK K
      refine wpAnyH_done (by kernel_rfl) ?_ _
      clear hHeld;go_wp2
      go_meet
      exact ⟨rfl,rfl,by have h9:=K3.out; rwa [aa.out] at h9⟩
     ·go_simp
      rw [←ag.out]
      refine hK.out _ _ (b.out _ l.out).1 (fun hHeld=>?_)
      clear hK K
      try simp only [Act.put,Za1,List.set]
      refine wpAnyH_ready (rs:=[1]) (by kernel_rfl) (by simp) ?_
      refine ZAF (i:=1) rfl (by rfl) (fun K hK=>?_) AllReadyH.nil
      go_simp
      refine hK.out _ _ (b.out _ l.out).1 (fun hHeld=>?_)
      clear hK K
      try simp only [Act.put,Za1,List.set]
      refine wpAnyH_ready (rs:=[7]) (by kernel_rfl) (by simp) ?_
      refine ZAF (i:=7) rfl (by rfl) (fun K hK=>?_) AllReadyH.nil
      refine ZAd _ _ 25 rfl (w.heap.size+1+1) 22 i0 (.slice none 0 0) 1 24 Tryz.underlying25 ay ar au aw rfl (by decide) (.slice so M.length sc) M.length vs rfl af.out ⟨E.heap.size,0,none⟩ 1 1 [.slice F (d+1) f] rfl rfl aj.out (ZAL _ _ _) (by unfold maxLen; omega) (by omega) ah.out ?_
      intro v' r G hg _;obtain ⟨j,g,L⟩:=ZAD G;subst L;obtain ⟨k1,k2,J,k4⟩:=ai.out (.slice j (M.length+1) g) r G hg;have K3:=hid J;have Q:Hid (r.cell? ⟨N,O+k,none⟩=some (.slice F (d+1) f)∧(r.setCell ⟨w.heap.size+1,1,none⟩ (.slice j (M.length+1) g)).cell? ⟨N,O+k,none⟩=some (.slice F (d+1) f)):=⟨(b.out _ k4).1,(b.out _ J.I.bel).1⟩;clear J k4 G hg
      refine hK.out _ _ Q.out.1 (fun hHeld=>?_)
      clear hK K
      try simp only [Act.put,Za1,List.set]
      refine ZAA (i:=8) (d:=28) (v:=(.pointer (some ⟨w.heap.size+1,1,none⟩))) rfl rfl (by kernel_rfl) (by kernel_rfl) (by kernel_rfl) (fun _ _ _ h=>h) (.inl ⟨by rfl,by (intro wq a; (try dsimp only at a); go_simp; (try (first | rfl | omega)))⟩) hHeld ?_
      simp only [Act.put,Za1,List.set]
      refine wpAnyH_ready (rs:=[9]) (by kernel_rfl) (by simp) ?_
      refine ZAF (i:=9) rfl (by rfl) (fun K hK=>?_) AllReadyH.nil
      go_simp
      refine hK.out _ _ Q.out.2 (fun hHeld=>?_)
      clear hK K
      refine wpAnyH_done (by kernel_rfl) ?_ _
      clear hHeld;go_wp2
      go_meet
      exact ⟨rfl,rfl,by have h9:=K3.out; rwa [aa.out] at h9⟩
    case rest=>
     obtain ⟨rfl,rfl,V⟩:=hcut;clear m zs;have Y:=hid V;clear V U
     obtain ⟨D,rfl⟩:∃D,D=wc:=⟨_,rfl⟩
     obtain ⟨M2,aH⟩:∃M2,M2=M ++ [P.getD k []]:=⟨_,rfl⟩
     rw [←aH] at Y
     have bj:M2.length≤13:=by rw [aH]; simp; omega
     have aJ:=hid aH;clear aH
     go_upto_region 8 with fail
     have aq:=Y.out.boxc;obtain ⟨aE,aF,aq⟩:=aq
     ·refine wp_region_held (S:=fun X=>X.cell? ⟨N,O+k,none⟩=some (.slice F (d+1) f)) (by kernel_rfl) ?_
      show wpAnyH _ _ _ _ _ _ _ _ D.drew
      have hHeld:=(b.out D.drew (Y.out.I.bel.trans ((Below.refl D.heap.size D).drew.mono Y.out.I.bel.size))).1;have aU:D.drew.cell? ⟨w.heap.size+1,1,none⟩=some (.slice aE M2.length aF):=aq
      refine ZAA (i:=0) (d:=31) (v:=(.pointer (some ⟨w.heap.size+1,1,none⟩))) rfl rfl (by kernel_rfl) (by kernel_rfl) (by kernel_rfl) (fun _ _ _ h=>h) (.inl ⟨by rfl,by (intro wq a; (try dsimp only at a); go_simp; (try (first | rfl | omega)))⟩) hHeld ?_
      simp only [Act.put,Za1,List.set]
      refine ZAA (i:=2) (d:=33) (v:=(.slice (some ⟨N,O,none⟩) P.length rc)) rfl rfl (by kernel_rfl) (by kernel_rfl) (by kernel_rfl) (fun _ _ _ h=>h) (.inl ⟨by rfl,by (intro wq a; (try dsimp only at a); go_simp; (try (first | rfl | omega)))⟩) hHeld ?_
      simp only [Act.put,Za1,List.set]
      refine ZAA (i:=3) (d:=34) (v:=(.int .i64 (k:Int))) rfl rfl (by kernel_rfl) (by kernel_rfl) (by kernel_rfl) (fun _ _ _ h=>h) (.inl ⟨by rfl,by (intro wq a; (try dsimp only at a); go_simp; (try (first | rfl | omega)))⟩) hHeld ?_
      simp only [Act.put,Za1,List.set]
      refine ZAA (i:=4) (d:=35) (v:=(.pointer (some ⟨N,O+k,none⟩))) rfl rfl (by kernel_rfl) (by kernel_rfl) (by kernel_rfl) (fun _ _ _ h=>h) (.inl ⟨by rfl,by (intro wq a; (try dsimp only at a); go_simp; (try (first | rfl | omega)))⟩) hHeld ?_
      simp only [Act.put,Za1,List.set]
      refine ZAA (i:=5) (d:=36) (v:=(.slice F (d+1) f)) rfl rfl (by kernel_rfl) (by kernel_rfl) (by kernel_rfl) (fun _ _ _ h=>h) (.inl ⟨by rfl,by (intro wq a; (try dsimp only at a); go_simp; (try (first | rfl | omega)))⟩) hHeld ?_
      simp only [Act.put,Za1,List.set]
      refine wpAnyH_ready (rs:=[1,6]) (by kernel_rfl) (by simp) ?_
      refine ZAF (i:=1) rfl (by rfl) (fun K hK=>?_) (ZAF (i:=6) rfl (by rfl) (fun K hK=>?_) AllReadyH.nil)
      ·go_simp
       refine hK.out _ _ hHeld (fun hHeld=>?_)
       clear hK K
       try simp only [Act.put,Za1,List.set]
       refine wpAnyH_ready (rs:=[6]) (by kernel_rfl) (by simp) ?_
       refine ZAF (i:=6) rfl (by rfl) (fun K hK=>?_) AllReadyH.nil
       go_simp;refine (aG.out _ (Y.out.I.bel.trans ((Below.refl D.heap.size D).drew.mono Y.out.I.bel.size))).mono ?_;rintro e E ⟨uo,uc,rfl,A,R⟩;have o:Below D.heap.size D E:=(Below.refl _ _).drew.trans R
       obtain ⟨zs,m⟩:∃zs,zs=ngL (P.getD k []):=⟨_,rfl⟩
       rw [←m] at A;have aa:=hid m;obtain ⟨so,sc,vs,e1,T,e3,e4,e5,e6,e7⟩:=Y.out.push o A
       obtain ⟨W5,n⟩:∃W5,W5=E.alloc (.cells #[.slice uo (d+1) uc] 22):=⟨_,rfl⟩
       rw [←n] at T e3 e4 e5 e6 e7;have ag:=hid n;have af:=hid e5;have aj:=hid e3;have ah:=hid e6;have ai:=hid e7;have l:Hid (Below w.heap.size w W5):=e4.1;have ae:Hid (Below w.heap.size w E):=e4.2;have b1:=e1;have b2:=T;clear e1 T e3 e4 e5 e6 e7 n;have az:=hid o;clear A o R m
       refine hK.out _ _ (b.out _ ae.out).1 (fun hHeld=>?_)
       clear hK K
       try simp only [Act.put,Za1,List.set]
       have aA:Value.slice aE M2.length aF=.slice so M2.length sc:=by
        have q:=(az.cell (p:=⟨w.heap.size+1,1,none⟩) (ZAI aq)).trans aq;rw [b1] at q;exact (Option.some.inj q).symm
       rw [aA]
       refine wpAnyH_ready (rs:=[7]) (by kernel_rfl) (by simp) ?_
       refine ZAF (i:=7) rfl (by rfl) (fun K hK=>?_) AllReadyH.nil
       go_simp;rw [←ag.out]
       refine hK.out _ _ (b.out _ l.out).1 (fun hHeld=>?_)
       clear hK K
       try simp only [Act.put,Za1,List.set]
       refine wpAnyH_ready (rs:=[8]) (by kernel_rfl) (by simp) ?_
       refine ZAF (i:=8) rfl (by rfl) (fun K hK=>?_) AllReadyH.nil
       refine ZAd _ _ 25 rfl (w.heap.size+1+1) 22 i0 (.slice none 0 0) 1 24 Tryz.underlying25 ay ar au aw rfl (by decide) (.slice so M2.length sc) M2.length vs rfl af.out ⟨E.heap.size,0,none⟩ 1 1 [.slice uo (d+1) uc] rfl rfl aj.out (ZAL _ _ _) (by unfold maxLen; omega) (by omega) ah.out ?_
       intro v' r G hg _;obtain ⟨j,g,L⟩:=ZAD G;subst L;obtain ⟨k1,k2,J,k4⟩:=ai.out (.slice j (M2.length+1) g) r G hg;have K3:=hid J;have Q:Hid (r.cell? ⟨N,O+k,none⟩=some (.slice F (d+1) f)∧(r.setCell ⟨w.heap.size+1,1,none⟩ (.slice j (M2.length+1) g)).cell? ⟨N,O+k,none⟩=some (.slice F (d+1) f)):=⟨(b.out _ k4).1,(b.out _ J.I.bel).1⟩;clear J k4 G hg
       refine hK.out _ _ Q.out.1 (fun hHeld=>?_)
       clear hK K
       try simp only [Act.put,Za1,List.set]
       refine ZAA (i:=9) (d:=40) (v:=(.pointer (some ⟨w.heap.size+1,1,none⟩))) rfl rfl (by kernel_rfl) (by kernel_rfl) (by kernel_rfl) (fun _ _ _ h=>h) (.inl ⟨by rfl,by (intro wq a; (try dsimp only at a); go_simp; (try (first | rfl | omega)))⟩) hHeld ?_
       simp only [Act.put,Za1,List.set]
       refine wpAnyH_ready (rs:=[10]) (by kernel_rfl) (by simp) ?_
       refine ZAF (i:=10) rfl (by rfl) (fun K hK=>?_) AllReadyH.nil
       go_simp
       refine hK.out _ _ Q.out.2 (fun hHeld=>?_)
       clear hK K
       refine wpAnyH_done (by kernel_rfl) ?_ _
       clear hHeld
       have HF:Hid (CtK w d (clT P s (k+1)) B (k+1) (r.setCell ⟨w.heap.size+1,1,none⟩ (.slice j (M2.length+1) g))):=by
        have h9:=K3.out
        show CtK w d (clT P s (k+1)) B (k+1) _
        rw [aa.out] at h9
        have T:M2 ++ [ngL (P.getD k [])]=M ++ clO (P.getD k []) 48:=by rw [aJ.out]; simp [clO]
        rw [T] at h9;rw [ZBY,ak.out.1,ak.out.2]; exact h9
       have am:s.length-(k+1) < gk:=by rw [aD.out]; omega
       clear K3 Q;go_wp2
       go_roundg (s.length-(k+1))
       case measure=>exact am
       case rel=>exact ⟨k+1,by omega,rfl,HF.out⟩
      ·go_simp
       refine (aG.out _ (Y.out.I.bel.trans ((Below.refl D.heap.size D).drew.mono Y.out.I.bel.size))).mono ?_;rintro e E ⟨uo,uc,rfl,A,R⟩;have o:Below D.heap.size D E:=(Below.refl _ _).drew.trans R
       obtain ⟨zs,m⟩:∃zs,zs=ngL (P.getD k []):=⟨_,rfl⟩
       rw [←m] at A;have aa:=hid m;obtain ⟨so,sc,vs,e1,T,e3,e4,e5,e6,e7⟩:=Y.out.push o A
       obtain ⟨W5,n⟩:∃W5,W5=E.alloc (.cells #[.slice uo (d+1) uc] 22):=⟨_,rfl⟩
       rw [←n] at T e3 e4 e5 e6 e7;have ag:=hid n;have af:=hid e5;have aj:=hid e3;have ah:=hid e6;have ai:=hid e7;have l:Hid (Below w.heap.size w W5):=e4.1;have ae:Hid (Below w.heap.size w E):=e4.2;have b1:=e1;have b2:=T;clear e1 T e3 e4 e5 e6 e7 n;have az:=hid o;clear A o R m
       refine hK.out _ _ (b.out _ ae.out).1 (fun hHeld=>?_)
       clear hK K
       try simp only [Act.put,Za1,List.set]
       refine wpAnyH_ready (rs:=[1,7]) (by kernel_rfl) (by simp) ?_
       refine ZAF (i:=1) rfl (by rfl) (fun K hK=>?_) (ZAF (i:=7) rfl (by rfl) (fun K hK=>?_) AllReadyH.nil)
       ·go_simp
        refine hK.out _ _ (b.out _ ae.out).1 (fun hHeld=>?_)
        clear hK K
        try simp only [Act.put,Za1,List.set]
        refine wpAnyH_ready (rs:=[7]) (by kernel_rfl) (by simp) ?_
        refine ZAF (i:=7) rfl (by rfl) (fun K hK=>?_) AllReadyH.nil
        go_simp;rw [←ag.out]
        refine hK.out _ _ (b.out _ l.out).1 (fun hHeld=>?_)
        clear hK K
        try simp only [Act.put,Za1,List.set]
        refine wpAnyH_ready (rs:=[8]) (by kernel_rfl) (by simp) ?_
        refine ZAF (i:=8) rfl (by rfl) (fun K hK=>?_) AllReadyH.nil
        refine ZAd _ _ 25 rfl (w.heap.size+1+1) 22 i0 (.slice none 0 0) 1 24 Tryz.underlying25 ay ar au aw rfl (by decide) (.slice so M2.length sc) M2.length vs rfl af.out ⟨E.heap.size,0,none⟩ 1 1 [.slice uo (d+1) uc] rfl rfl aj.out (ZAL _ _ _) (by unfold maxLen; omega) (by omega) ah.out ?_
        intro v' r G hg _;obtain ⟨j,g,L⟩:=ZAD G;subst L;obtain ⟨k1,k2,J,k4⟩:=ai.out (.slice j (M2.length+1) g) r G hg;have K3:=hid J;have Q:Hid (r.cell? ⟨N,O+k,none⟩=some (.slice F (d+1) f)∧(r.setCell ⟨w.heap.size+1,1,none⟩ (.slice j (M2.length+1) g)).cell? ⟨N,O+k,none⟩=some (.slice F (d+1) f)):=⟨(b.out _ k4).1,(b.out _ J.I.bel).1⟩;clear J k4 G hg
        refine hK.out _ _ Q.out.1 (fun hHeld=>?_)
        clear hK K
        try simp only [Act.put,Za1,List.set]
        refine ZAA (i:=9) (d:=40) (v:=(.pointer (some ⟨w.heap.size+1,1,none⟩))) rfl rfl (by kernel_rfl) (by kernel_rfl) (by kernel_rfl) (fun _ _ _ h=>h) (.inl ⟨by rfl,by (intro wq a; (try dsimp only at a); go_simp; (try (first | rfl | omega)))⟩) hHeld ?_
        simp only [Act.put,Za1,List.set]
        refine wpAnyH_ready (rs:=[10]) (by kernel_rfl) (by simp) ?_
        refine ZAF (i:=10) rfl (by rfl) (fun K hK=>?_) AllReadyH.nil
        go_simp
        refine hK.out _ _ Q.out.2 (fun hHeld=>?_)
        clear hK K
        refine wpAnyH_done (by kernel_rfl) ?_ _
        clear hHeld
        have HF:Hid (CtK w d (clT P s (k+1)) B (k+1) (r.setCell ⟨w.heap.size+1,1,none⟩ (.slice j (M2.length+1) g))):=by
         have h9:=K3.out
         show CtK w d (clT P s (k+1)) B (k+1) _
         rw [aa.out] at h9
         have T:M2 ++ [ngL (P.getD k [])]=M ++ clO (P.getD k []) 48:=by rw [aJ.out]; simp [clO]
         rw [T] at h9;rw [ZBY,ak.out.1,ak.out.2]; exact h9
        have am:s.length-(k+1) < gk:=by rw [aD.out]; omega
        clear K3 Q;go_wp2
        go_roundg (s.length-(k+1))
        case measure=>exact am
        case rel=>exact ⟨k+1,by omega,rfl,HF.out⟩
       ·go_simp
        rw [←ag.out]
        refine hK.out _ _ (b.out _ l.out).1 (fun hHeld=>?_)
        clear hK K
        try simp only [Act.put,Za1,List.set]
        refine wpAnyH_ready (rs:=[1]) (by kernel_rfl) (by simp) ?_
        refine ZAF (i:=1) rfl (by rfl) (fun K hK=>?_) AllReadyH.nil
        go_simp
        refine hK.out _ _ (b.out _ l.out).1 (fun hHeld=>?_)
        clear hK K
        try simp only [Act.put,Za1,List.set]
        refine wpAnyH_ready (rs:=[8]) (by kernel_rfl) (by simp) ?_
        refine ZAF (i:=8) rfl (by rfl) (fun K hK=>?_) AllReadyH.nil
        refine ZAd _ _ 25 rfl (w.heap.size+1+1) 22 i0 (.slice none 0 0) 1 24 Tryz.underlying25 ay ar au aw rfl (by decide) (.slice so M2.length sc) M2.length vs rfl af.out ⟨E.heap.size,0,none⟩ 1 1 [.slice uo (d+1) uc] rfl rfl aj.out (ZAL _ _ _) (by unfold maxLen; omega) (by omega) ah.out ?_
        intro v' r G hg _;obtain ⟨j,g,L⟩:=ZAD G;subst L;obtain ⟨k1,k2,J,k4⟩:=ai.out (.slice j (M2.length+1) g) r G hg;have K3:=hid J;have Q:Hid (r.cell? ⟨N,O+k,none⟩=some (.slice F (d+1) f)∧(r.setCell ⟨w.heap.size+1,1,none⟩ (.slice j (M2.length+1) g)).cell? ⟨N,O+k,none⟩=some (.slice F (d+1) f)):=⟨(b.out _ k4).1,(b.out _ J.I.bel).1⟩;clear J k4 G hg
        refine hK.out _ _ Q.out.1 (fun hHeld=>?_)
        clear hK K
        try simp only [Act.put,Za1,List.set]
        refine ZAA (i:=9) (d:=40) (v:=(.pointer (some ⟨w.heap.size+1,1,none⟩))) rfl rfl (by kernel_rfl) (by kernel_rfl) (by kernel_rfl) (fun _ _ _ h=>h) (.inl ⟨by rfl,by (intro wq a; (try dsimp only at a); go_simp; (try (first | rfl | omega)))⟩) hHeld ?_
        simp only [Act.put,Za1,List.set]
        refine wpAnyH_ready (rs:=[10]) (by kernel_rfl) (by simp) ?_
        refine ZAF (i:=10) rfl (by rfl) (fun K hK=>?_) AllReadyH.nil
        go_simp
        refine hK.out _ _ Q.out.2 (fun hHeld=>?_)
        clear hK K
        refine wpAnyH_done (by kernel_rfl) ?_ _
        clear hHeld
        have HF:Hid (CtK w d (clT P s (k+1)) B (k+1) (r.setCell ⟨w.heap.size+1,1,none⟩ (.slice j (M2.length+1) g))):=by
         have h9:=K3.out
         show CtK w d (clT P s (k+1)) B (k+1) _
         rw [aa.out] at h9
         have T:M2 ++ [ngL (P.getD k [])]=M ++ clO (P.getD k []) 48:=by rw [aJ.out]; simp [clO]
         rw [T] at h9;rw [ZBY,ak.out.1,ak.out.2]; exact h9
        have am:s.length-(k+1) < gk:=by rw [aD.out]; omega
        clear K3 Q;go_wp2
        go_roundg (s.length-(k+1))
        case measure=>exact am
        case rel=>exact ⟨k+1,by omega,rfl,HF.out⟩
  ·have bi:k=s.length:=by omega
   subst bi
   have an:=fun ty=>aL.out wr (w.heap.size+1+1) ty V.it
   obtain ⟨so,sc,c1,c2,c3,c4,f3,f4,hm,hb⟩:=V.I.fin;have HM:=hid hm;have HB:=hid hb;have aK:=V.I.res
   have q0:((wr.setCell ⟨w.heap.size,0,none⟩ (.int .i64 (d:Int))).setCell ⟨w.heap.size,1,none⟩ (.slice so (clT P s s.length).length sc)).cell? ⟨w.heap.size,0,none⟩=some (.int .i64 (d:Int)):=by simp [World.cell?,World.setCell,Array.getElem?_modify,aK]
   have q1:((wr.setCell ⟨w.heap.size,0,none⟩ (.int .i64 (d:Int))).setCell ⟨w.heap.size,1,none⟩ (.slice so (clT P s s.length).length sc)).cell? ⟨w.heap.size,1,none⟩=some (.slice so (clT P s s.length).length sc):=by simp [World.cell?,World.setCell,Array.getElem?_modify,aK]
   clear V hm hb aK aO aP aI aL HV HN;go_wp2
   refine bodyPost_ret (v:=.agg #[.int .i64 d,.slice so (clT P s s.length).length sc]) (by simp [results,Tryz.results37,go_sem,q0,q1]) rfl ⟨so,sc,rfl,HM.out,HB.out⟩
end Go.Proofs.YtgfnmkenpgnllaaGreat
