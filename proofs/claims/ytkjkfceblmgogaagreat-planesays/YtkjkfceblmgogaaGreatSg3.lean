import Derived.Test.YtkjkfceblmgogaaGreatSgB
namespace Go.Proofs.YtkjkfceblmgogaaGreat
set_option maxRecDepth 100000
set_option maxHeartbeats 3200000
open Go.RowKit Lin
attribute [local go_sem ↓] Go.wp_at_zero Go.wp_at_succ
structure CtK(w:World)(d:Nat)(M:List (List Int))(B:ByteArray)(k:Nat)(wr:World):Prop where
 I:CtI w w.heap.size (w.heap.size+1) d M wr
 it:wr.heap[w.heap.size+1+1]?=some (.stringIter B k)
theorem CtK.below{w wr w2:World}{d k:Nat}{M:List (List Int)}{B:ByteArray}(h:CtK w d M B k wr)(hb:Below wr.heap.size wr w2):CtK w d M B k w2:=
 ⟨h.I.below hb (Za4 _),(hb.block _ (Zaa3.1 h.it).1).trans h.it⟩
theorem CtK.boxc{w wr:World}{d k:Nat}{M:List (List Int)}{B:ByteArray}(h:CtK w d M B k wr):∃so sc,wr.cell? ⟨w.heap.size+1,1,none⟩=some (.slice so M.length sc):=by
 obtain ⟨sv,a,c,g,b,f⟩:=h.I.box;obtain ⟨so,sc,rfl⟩:=ZAE b
 exact ⟨so,sc,by simp [World.cell?,a]⟩
theorem ZPj{w:World}{q:Nat}{x:Value}{t:TypeId}(h:w.heap[q]?=some (.cells #[x] t (0,0))):∀j u,[x][j]?=some u→w.cell? ((⟨q,0,none⟩:Addr).add j)=some u:=by
 intro j u a
 rcases j with _ | j
 ·simp at a
  subst a;simp [World.cell?,Addr.add,h]
 ·simp at a
theorem CtK.push{w wr wx:World}{d k:Nat}{M:List (List Int)}{B:ByteArray}{u:Value}{zs:List Int}(h:CtK w d M B k wr)(hx:Below wr.heap.size wr wx)(hu:Sl w.heap.size 3 wx u (ZAB zs)) :
  ∃so sc vs,wx.cell? ⟨w.heap.size+1,1,none⟩=some (.slice so M.length sc)∧(wx.alloc (.cells #[u] 27)).cell? ⟨w.heap.size+1,1,none⟩=some (.slice so M.length sc)∧(∀j y,[u][j]?=some y→(wx.alloc (.cells #[u] 27)).cell? ((⟨wx.heap.size,0,none⟩:Addr).add j)=some y)∧(Below w.heap.size w (wx.alloc (.cells #[u] 27))∧Below w.heap.size w wx)∧(wx.alloc (.cells #[u] 27)).ownsRow (w.heap.size+1+1) 27 1 (.slice so M.length sc) M.length vs∧w.heap.size+1+1≤(wx.alloc (.cells #[u] 27)).heap.size∧
   ∀v' w5,w5.ownsRow (w.heap.size+1+1) 27 1 v' (M.length+1) (vs ++ [u])→(wx.alloc (.cells #[u] 27)).grownBy w5 (Value.slice so M.length sc).ownBlock→w5.cell? ⟨w.heap.size+1,1,none⟩=some (.slice so M.length sc)∧w5.frozen? ⟨w.heap.size+1,1,none⟩=false∧CtK w d (M ++ [zs]) B k (w5.setCell ⟨w.heap.size+1,1,none⟩ v')∧Below w.heap.size w w5:=by
 obtain ⟨so,sc,vs,n,m,v,t⟩:=h.I.push hx hu;have f:=h.below hx;have i:w.heap.size+1+1 < wx.heap.size:=(Zaa3.1 f.it).1;have a:Below w.heap.size w wx:=f.I.bel;have c:Below w.heap.size w (wx.alloc (.cells #[u] 27)):=a.alloc a.size _
 have l:(wx.alloc (.cells #[u] 27)).cell? ⟨w.heap.size+1,1,none⟩=some (.slice so M.length sc):=((ZAG wx (.cells #[u] 27)).cell (p:=⟨w.heap.size+1,1,none⟩) (by show w.heap.size+1 < _; omega)).trans n
 refine ⟨so,sc,vs,n,l,ZPj (heap_alloc_new wx _),⟨c,a⟩,m.alloc _,by simp; omega,fun v' w5 ho hg=>?_⟩
 obtain ⟨r,s,o⟩:=t v' w5 ho hg;refine ⟨r,s,⟨o,?_⟩,?_⟩
 ·refine (Below.heap_setCell _ _ _ _ (by show w.heap.size+1+1≠w.heap.size+1; omega)).trans ?_
  refine (hg.block _ (by simp; omega) (fun e=>?_)).trans ((Below.heap_alloc wx _ _ i).trans f.it)
  rcases m.2 with ⟨q,_⟩ | ⟨g,cap,cur,q,_,q2,_⟩
  ·rw [q] at e; simp [Value.ownBlock] at e
  ·rw [q] at e
   simp [Value.ownBlock] at e;rw [←e,f.it] at q2
   cases q2
 ·refine c.trans ⟨hg.os,hg.tape,hg.output,Zaa8 (by simp) hg.size,fun b hb=>hg.block b (by simp; omega) (fun e=>?_)⟩
  have:=(m.lt b e.symm).1;omega
theorem ZFX(d:Nat)(P:List (List Int))(s:List UInt8)(v:Value)(w:World){B0:Nat}(hv0:Mat B0 27 3 w v P)(hP:∀p∈P,p.length=d+1∧∀z∈p,z.natAbs≤20)(hd3:d≤3)(hs:s.length≤P.length)(hs6:P.length≤6)(hc:∀c∈s,c=43∨c=45∨c=48) :
  Calls Tryz.prog 32 #[.int .i64 d,v,.string ⟨s.toArray⟩] w fun e w'=>∃xo xc,e=.returned (.agg #[.int .i64 d,.slice xo (clR P s).length xc])∧Mat w.heap.size 27 3 w' (.slice xo (clR P s).length xc) (clR P s)∧Below w.heap.size w w':=by
 have hv:Mat w.heap.size 27 3 w v P:=hv0.any (Za4 _);clear hv0;obtain ⟨i0,aw,ay,au,ar⟩:=info_parts ZPh;obtain ⟨ro,rc,bh,bp,bq⟩:=ZAD hv;subst bh
 obtain ⟨B,hB⟩:∃B:ByteArray,B=⟨s.toArray⟩:=⟨_,rfl⟩
 have aT:Hid (B.size=s.length):=(by rw [hB]; rfl:B.size=s.length)
 have aL:Hid (∀k,k < s.length→∃c:UInt8,(c=43∨c=45∨c=48)∧s.getD k 0=c∧∀(X:World) (t ty:Nat),X.heap[t]?=some (.stringIter B k)→(Instr.next (.pointer (some ⟨t,0,none⟩)) true ty).run Tryz.prog X=.ok (.tuple #[.bool true,.int .i64 (k:Int),.int .i32 (c.toNat:Int)]) (X.iterAt t B (k+1))):=fun k hk=>by
  have e:s.getD k 0=s[k]:=by simp [hk]
  have hm:s[k]∈s:=List.getElem_mem hk
  refine ⟨s[k],hc _ hm,e,fun X t ty hX=>?_⟩
  have aC:k < B.size:=by rw [aT.out]; exact hk
  have hb:B[k]'aC=s[k]:=by subst hB; rfl
  have ha:(B[k]'aC).toNat < 128:=by
   rw [hb]
   rcases hc _ hm with q | q | q <;> rw [q] <;> decide
  rw [Lib.run_next_ascii_at X t B k ty hX aC ha,hb]
 have aP:Hid (∀(X:World) (t ty:Nat),X.heap[t]?=some (.stringIter B s.length)→(Instr.next (.pointer (some ⟨t,0,none⟩)) true ty).run Tryz.prog X=.ok (.tuple #[.bool false]) X):=fun X t ty hX=>
  Lib.run_next_end_at X t B s.length ty hX (by rw [aT.out]; omega)
 have HV:Hid (∀k,k < s.length→∃N O F f,ro=some ⟨N,O,none⟩∧∀X,Below w.heap.size w X→X.cell? ⟨N,O+k,none⟩=some (.slice F (d+1) f)∧Sl w.heap.size 3 X (.slice F (d+1) f) (ZAB (P.getD k []))):=fun k hk=>by
  have aI:k < P.length:=by omega
  obtain ⟨N,O,bl,u,e1,_,h1,h2⟩:=ZAP hv aI;simp only [Za3] at e1;obtain ⟨F,f,rfl,_,_⟩:=ZAI h2;have hl:=(hP (P.getD k []) (ZAg aI)).1;rw [hl] at h1 h2
  exact ⟨N,O,F,f,e1.1,fun X hX=>⟨(hX.cell (ZAH h1)).trans h1,h2.below hX (Za4 _)⟩⟩
 have HN:Hid (∀k,k < s.length→∀X u,Below w.heap.size w X→Sl w.heap.size 3 X u (ZAB (P.getD k []))→Calls Tryz.prog 49 #[u] X fun e w'=>∃no nc,e=.returned (.slice no (d+1) nc)∧Sl w.heap.size 3 w' (.slice no (d+1) nc) (ZAB (ngL (P.getD k [])))∧Below X.heap.size X w'):=fun k hk X u hX hu=>by
  obtain ⟨hl,hb⟩:=hP (P.getD k []) (ZAg (by omega))
  refine (ZBb _ _ _ X hu (by omega) (fun z hz=>by have:=hb z hz; omega)).mono ?_
  rintro e w' ⟨u2,rfl,G,aV⟩;have aJ:Sl w.heap.size 3 w' u2 (ZAB (ngL (P.getD k []))):=Sl.own G;obtain ⟨no,nc,rfl,_,_⟩:=ZAI aJ
  have aW:(ngL (P.getD k [])).length=d+1:=by simp only [ngL,Zab1]; exact hl
  rw [aW] at aJ ⊢;exact ⟨no,nc,rfl,aJ,aV⟩
 have aU:Hid (∀k,k≤s.length→(clT P s k).length≤12):=fun k hk=>by
  have:=ZEc P s k;omega
 rw [←hB];clear hB hv hP hc
 have aO:Hid (CtK w d [] B 0 (((w.alloc (.cells #[.int .i64 0,.slice none 0 0] 56)).alloc (.cells #[.int .i64 d,.slice none 0 0] 56)).iter B 0)):=by
  have h0:=CtI.start w (w.alloc (.cells #[.int .i64 0,.slice none 0 0] 56)) w.heap.size d (Za4 _) (heap_alloc_new w _) ((Below.refl _ _).alloc (Za4 _) _)
  have e:(w.alloc (.cells #[.int .i64 0,.slice none 0 0] 56)).heap.size=w.heap.size+1:=by simp
  rw [e] at h0;refine ⟨h0.below ((Below.refl _ _).alloc (Za4 _) _) (Za4 _),?_⟩;have:=World.iter_heap ((w.alloc (.cells #[.int .i64 0,.slice none 0 0] 56)).alloc (.cells #[.int .i64 d,.slice none 0 0] 56)) B 0
  simpa using this
 go_enter Tryz.func32,Tryz.ntmps32;go_wp2
 go_loopg [8,9] s.length (fun gk _ _ wr=>∃k,k≤s.length∧gk=s.length-k∧CtK w d (clT P s k) B k wr)
 case atStart=>exact ⟨0,Za5 _,rfl,aO.out⟩
 case round=>
  obtain ⟨k,hk,aR,U⟩:=hrel;have aD:=hid aR
  by_cases aC:k < s.length
  ·obtain ⟨c,bi,aS,an⟩:=aL.out k aC
   have an:=an wr (w.heap.size+1+1)
   have an:=fun ty=>an ty U.it
   obtain ⟨A,aQ⟩:∃A,A=wr.iterAt (w.heap.size+1+1) B (k+1):=⟨_,rfl⟩
   rw [←aQ] at an
   obtain ⟨M,hM⟩:∃M,M=clT P s k:=⟨_,rfl⟩
   have aY:=aU.out k hk;rw [←hM] at U aY
   have V:Hid (CtK w d M B (k+1) A):=by
    rw [aQ]
    exact ⟨U.I.iterAt U.it (k+1) (by omega),Lib.iterAt_heap wr _ B k (k+1) U.it⟩
   obtain ⟨N,O,F,f,bg,aM⟩:=HV.out k aC;subst bg;have b:=hid aM
   have aH:Hid (∀X,Below w.heap.size w X→Calls Tryz.prog 49 #[.slice F (d+1) f] X fun e w'=>∃no nc,e=.returned (.slice no (d+1) nc)∧Sl w.heap.size 3 w' (.slice no (d+1) nc) (ZAB (ngL (P.getD k [])))∧Below X.heap.size X w'):=fun X hX=>HN.out k aC X _ hX (aM X hX).2
   have ak:Hid (clT P s k=M∧s.getD k 0=c):=⟨hM.symm,aS⟩
   have aI:(k:Int) < (P.length:Int):=by omega
   have bk:(0:Int)≤(k:Int):=by omega
   clear aM aR U aQ hM aS HV HN aO aL aP
   rcases bi with rfl | rfl | rfl
   ·have an:∀ty,(Instr.next (.pointer (some ⟨w.heap.size+1+1,0,none⟩)) true ty).run Tryz.prog wr=.ok (.tuple #[.bool true,.int .i64 (k:Int),.int .i32 43]) A:=an
    go_upto_region 8 with fail
    have aq:=V.out.boxc;obtain ⟨aF,aE,aq⟩:=aq
    ·refine wp_region_held (S:=fun X=>X.cell? ⟨N,O+k,none⟩=some (.slice F (d+1) f)) (by kernel_rfl) ?_
     show wpAnyH _ _ _ _ _ _ _ _ A.drew
     have hHeld:=(b.out A.drew (V.out.I.bel.trans ((Below.refl A.heap.size A).drew.mono V.out.I.bel.size))).1;have aZ:A.drew.cell? ⟨w.heap.size+1,1,none⟩=some (.slice aF M.length aE):=aq
     refine ZAA (i:=0) (d:=31) (v:=(.pointer (some ⟨w.heap.size+1,1,none⟩))) rfl rfl (by kernel_rfl) (by kernel_rfl) (by kernel_rfl) (fun _ _ _ h=>h) (.inl ⟨by rfl,by (intro wq a; (try dsimp only at a); go_simp; (try (first | rfl | omega)))⟩) hHeld ?_
     simp only [Act.put,Za1,List.set]
     refine ZAA (i:=2) (d:=33) (v:=(.slice (some ⟨N,O,none⟩) P.length rc)) rfl rfl (by kernel_rfl) (by kernel_rfl) (by kernel_rfl) (fun _ _ _ h=>h) (.inl ⟨by rfl,by (intro wq a; (try dsimp only at a); go_simp; (try (first | rfl | omega)))⟩) hHeld ?_
     simp only [Act.put,Za1,List.set]
     refine ZAA (i:=3) (d:=34) (v:=(.int .i64 (k:Int))) rfl rfl (by kernel_rfl) (by kernel_rfl) (by kernel_rfl) (fun _ _ _ h=>h) (.inl ⟨by rfl,by (intro wq a; (try dsimp only at a); go_simp; (try (first | rfl | omega)))⟩) hHeld ?_
     simp only [Act.put,Za1,List.set]
     refine ZAA (i:=4) (d:=35) (v:=(.pointer (some ⟨N,O+k,none⟩))) rfl rfl (by kernel_rfl) (by kernel_rfl) (by kernel_rfl) (fun _ _ _ h=>h) (.inl ⟨by rfl,by (intro wq a; (try dsimp only at a); go_simp; (try (first | rfl | omega)))⟩) hHeld ?_
     simp only [Act.put,Za1,List.set]
     refine ZAA (i:=5) (d:=36) (v:=(.slice F (d+1) f)) rfl rfl (by kernel_rfl) (by kernel_rfl) (by kernel_rfl) (fun _ _ _ h=>h) (.inl ⟨by rfl,by (intro wq a; (try dsimp only at a); go_simp; (try (first | rfl | omega)))⟩) hHeld ?_
     simp only [Act.put,Za1,List.set]
     refine wpAnyH_ready (rs:=[1,6]) (by kernel_rfl) (by simp) ?_
     refine ZAF (i:=1) rfl (by rfl) (fun K hK=>?_) (ZAF (i:=6) rfl (by rfl) (fun K hK=>?_) AllReadyH.nil)
     ·go_simp
      refine hK.out _ _ hHeld (fun hHeld=>?_)
      clear hK K
      try simp only [Act.put,Za1,List.set]
      refine wpAnyH_ready (rs:=[6]) (by kernel_rfl) (by simp) ?_
      refine ZAF (i:=6) rfl (by rfl) (fun K hK=>?_) AllReadyH.nil
      go_simp;refine (aH.out _ (V.out.I.bel.trans ((Below.refl A.heap.size A).drew.mono V.out.I.bel.size))).mono ?_;rintro e D ⟨uo,uc,rfl,E,Q⟩;have n:Below A.heap.size A D:=(Below.refl _ _).drew.trans Q
      obtain ⟨zs,m⟩:∃zs,zs=ngL (P.getD k []):=⟨_,rfl⟩
      rw [←m] at E;have af:=hid m;obtain ⟨so,sc,vs,e1,T,e3,e4,e5,e6,e7⟩:=V.out.push n E
      obtain ⟨W5,o⟩:∃W5,W5=D.alloc (.cells #[.slice uo (d+1) uc] 27):=⟨_,rfl⟩
      rw [←o] at T e3 e4 e5 e6 e7;have aj:=hid o;have aa:=hid e5;have ah:=hid e3;have ai:=hid e6;have ae:=hid e7;have l:Hid (Below w.heap.size w W5):=e4.1;have ag:Hid (Below w.heap.size w D):=e4.2;have b1:=e1;have b2:=T;clear e1 T e3 e4 e5 e6 e7 o;have az:=hid n;clear E n Q m
      refine hK.out _ _ (b.out _ ag.out).1 (fun hHeld=>?_)
      clear hK K
      try simp only [Act.put,Za1,List.set]
      have aA:Value.slice aF M.length aE=.slice so M.length sc:=by
       have q:=(az.cell (p:=⟨w.heap.size+1,1,none⟩) (ZAH aq)).trans aq;rw [b1] at q;exact (Option.some.inj q).symm
      rw [aA]
      refine wpAnyH_ready (rs:=[7]) (by kernel_rfl) (by simp) ?_
      refine ZAF (i:=7) rfl (by rfl) (fun K hK=>?_) AllReadyH.nil
      go_simp;rw [←aj.out]
      refine hK.out _ _ (b.out _ l.out).1 (fun hHeld=>?_)
      clear hK K
      try simp only [Act.put,Za1,List.set]
      refine wpAnyH_ready (rs:=[8]) (by kernel_rfl) (by simp) ?_
      refine ZAF (i:=8) rfl (by rfl) (fun K hK=>?_) AllReadyH.nil
      refine ZAb _ _ 22 rfl (w.heap.size+1+1) 27 i0 (.slice none 0 0) 1 24 Tryz.underlying22 aw ay au ar rfl (by decide) (.slice so M.length sc) M.length vs rfl aa.out ⟨D.heap.size,0,none⟩ 1 1 [.slice uo (d+1) uc] rfl rfl ah.out (ZAM _ _ _) (by unfold maxLen; omega) (by omega) ai.out ?_
      intro v' r G hg _;obtain ⟨j,g,L⟩:=ZAE G;subst L;obtain ⟨k1,k2,J,k4⟩:=ae.out (.slice j (M.length+1) g) r G hg;have K3:=hid J;have R:Hid (r.cell? ⟨N,O+k,none⟩=some (.slice F (d+1) f)∧(r.setCell ⟨w.heap.size+1,1,none⟩ (.slice j (M.length+1) g)).cell? ⟨N,O+k,none⟩=some (.slice F (d+1) f)):=⟨(b.out _ k4).1,(b.out _ J.I.bel).1⟩;clear J k4 G hg
      refine hK.out _ _ R.out.1 (fun hHeld=>?_)
      clear hK K
      try simp only [Act.put,Za1,List.set]
      refine ZAA (i:=9) (d:=40) (v:=(.pointer (some ⟨w.heap.size+1,1,none⟩))) rfl rfl (by kernel_rfl) (by kernel_rfl) (by kernel_rfl) (fun _ _ _ h=>h) (.inl ⟨by rfl,by (intro wq a; (try dsimp only at a); go_simp; (try (first | rfl | omega)))⟩) hHeld ?_
      simp only [Act.put,Za1,List.set]
      refine wpAnyH_ready (rs:=[10]) (by kernel_rfl) (by simp) ?_
      refine ZAF (i:=10) rfl (by rfl) (fun K hK=>?_) AllReadyH.nil
      go_simp
      refine hK.out _ _ R.out.2 (fun hHeld=>?_)
      clear hK K
      refine wpAnyH_done (by kernel_rfl) ?_ _
      clear hHeld
      have HF:Hid (CtK w d (clT P s (k+1)) B (k+1) (r.setCell ⟨w.heap.size+1,1,none⟩ (.slice j (M.length+1) g))):=by
       have h9:=K3.out
       show CtK w d (clT P s (k+1)) B (k+1) _
       rw [af.out] at h9
       have T:M ++ [ngL (P.getD k [])]=M ++ clO (P.getD k []) 43:=by simp [clO]
       rw [T] at h9;rw [ZBX,ak.out.1,ak.out.2]; exact h9
      have am:s.length-(k+1) < gk:=by rw [aD.out]; omega
      clear K3 R;go_wp2
      go_roundg (s.length-(k+1))
      case measure=>exact am
      case rel=>exact ⟨k+1,by omega,rfl,HF.out⟩
     ·go_simp
      refine (aH.out _ (V.out.I.bel.trans ((Below.refl A.heap.size A).drew.mono V.out.I.bel.size))).mono ?_;rintro e D ⟨uo,uc,rfl,E,Q⟩;have n:Below A.heap.size A D:=(Below.refl _ _).drew.trans Q
      obtain ⟨zs,m⟩:∃zs,zs=ngL (P.getD k []):=⟨_,rfl⟩
      rw [←m] at E;have af:=hid m;obtain ⟨so,sc,vs,e1,T,e3,e4,e5,e6,e7⟩:=V.out.push n E
      obtain ⟨W5,o⟩:∃W5,W5=D.alloc (.cells #[.slice uo (d+1) uc] 27):=⟨_,rfl⟩
      rw [←o] at T e3 e4 e5 e6 e7;have aj:=hid o;have aa:=hid e5;have ah:=hid e3;have ai:=hid e6;have ae:=hid e7;have l:Hid (Below w.heap.size w W5):=e4.1;have ag:Hid (Below w.heap.size w D):=e4.2;have b1:=e1;have b2:=T;clear e1 T e3 e4 e5 e6 e7 o;have az:=hid n;clear E n Q m
      refine hK.out _ _ (b.out _ ag.out).1 (fun hHeld=>?_)
      clear hK K
      try simp only [Act.put,Za1,List.set]
      refine wpAnyH_ready (rs:=[1,7]) (by kernel_rfl) (by simp) ?_
      refine ZAF (i:=1) rfl (by rfl) (fun K hK=>?_) (ZAF (i:=7) rfl (by rfl) (fun K hK=>?_) AllReadyH.nil)
      ·go_simp
       refine hK.out _ _ (b.out _ ag.out).1 (fun hHeld=>?_)
       clear hK K
       try simp only [Act.put,Za1,List.set]
       refine wpAnyH_ready (rs:=[7]) (by kernel_rfl) (by simp) ?_
       refine ZAF (i:=7) rfl (by rfl) (fun K hK=>?_) AllReadyH.nil
       go_simp;rw [←aj.out]
       refine hK.out _ _ (b.out _ l.out).1 (fun hHeld=>?_)
       clear hK K
       try simp only [Act.put,Za1,List.set]
       refine wpAnyH_ready (rs:=[8]) (by kernel_rfl) (by simp) ?_
       refine ZAF (i:=8) rfl (by rfl) (fun K hK=>?_) AllReadyH.nil
       refine ZAb _ _ 22 rfl (w.heap.size+1+1) 27 i0 (.slice none 0 0) 1 24 Tryz.underlying22 aw ay au ar rfl (by decide) (.slice so M.length sc) M.length vs rfl aa.out ⟨D.heap.size,0,none⟩ 1 1 [.slice uo (d+1) uc] rfl rfl ah.out (ZAM _ _ _) (by unfold maxLen; omega) (by omega) ai.out ?_
       intro v' r G hg _;obtain ⟨j,g,L⟩:=ZAE G;subst L;obtain ⟨k1,k2,J,k4⟩:=ae.out (.slice j (M.length+1) g) r G hg;have K3:=hid J;have R:Hid (r.cell? ⟨N,O+k,none⟩=some (.slice F (d+1) f)∧(r.setCell ⟨w.heap.size+1,1,none⟩ (.slice j (M.length+1) g)).cell? ⟨N,O+k,none⟩=some (.slice F (d+1) f)):=⟨(b.out _ k4).1,(b.out _ J.I.bel).1⟩;clear J k4 G hg
       refine hK.out _ _ R.out.1 (fun hHeld=>?_)
       clear hK K
       try simp only [Act.put,Za1,List.set]
       refine ZAA (i:=9) (d:=40) (v:=(.pointer (some ⟨w.heap.size+1,1,none⟩))) rfl rfl (by kernel_rfl) (by kernel_rfl) (by kernel_rfl) (fun _ _ _ h=>h) (.inl ⟨by rfl,by (intro wq a; (try dsimp only at a); go_simp; (try (first | rfl | omega)))⟩) hHeld ?_
       simp only [Act.put,Za1,List.set]
       refine wpAnyH_ready (rs:=[10]) (by kernel_rfl) (by simp) ?_
       refine ZAF (i:=10) rfl (by rfl) (fun K hK=>?_) AllReadyH.nil
       go_simp
       refine hK.out _ _ R.out.2 (fun hHeld=>?_)
       clear hK K
       refine wpAnyH_done (by kernel_rfl) ?_ _
       clear hHeld
       have HF:Hid (CtK w d (clT P s (k+1)) B (k+1) (r.setCell ⟨w.heap.size+1,1,none⟩ (.slice j (M.length+1) g))):=by
        have h9:=K3.out
        show CtK w d (clT P s (k+1)) B (k+1) _
        rw [af.out] at h9
        have T:M ++ [ngL (P.getD k [])]=M ++ clO (P.getD k []) 43:=by simp [clO]
        rw [T] at h9;rw [ZBX,ak.out.1,ak.out.2]; exact h9
       have am:s.length-(k+1) < gk:=by rw [aD.out]; omega
       clear K3 R;go_wp2
       go_roundg (s.length-(k+1))
       case measure=>exact am
       case rel=>exact ⟨k+1,by omega,rfl,HF.out⟩
      ·go_simp
       rw [←aj.out]
       refine hK.out _ _ (b.out _ l.out).1 (fun hHeld=>?_)
       clear hK K
       try simp only [Act.put,Za1,List.set]
       refine wpAnyH_ready (rs:=[1]) (by kernel_rfl) (by simp) ?_
       refine ZAF (i:=1) rfl (by rfl) (fun K hK=>?_) AllReadyH.nil
       go_simp
       refine hK.out _ _ (b.out _ l.out).1 (fun hHeld=>?_)
       clear hK K
       try simp only [Act.put,Za1,List.set]
       refine wpAnyH_ready (rs:=[8]) (by kernel_rfl) (by simp) ?_
       refine ZAF (i:=8) rfl (by rfl) (fun K hK=>?_) AllReadyH.nil
       refine ZAb _ _ 22 rfl (w.heap.size+1+1) 27 i0 (.slice none 0 0) 1 24 Tryz.underlying22 aw ay au ar rfl (by decide) (.slice so M.length sc) M.length vs rfl aa.out ⟨D.heap.size,0,none⟩ 1 1 [.slice uo (d+1) uc] rfl rfl ah.out (ZAM _ _ _) (by unfold maxLen; omega) (by omega) ai.out ?_
       intro v' r G hg _;obtain ⟨j,g,L⟩:=ZAE G;subst L;obtain ⟨k1,k2,J,k4⟩:=ae.out (.slice j (M.length+1) g) r G hg;have K3:=hid J;have R:Hid (r.cell? ⟨N,O+k,none⟩=some (.slice F (d+1) f)∧(r.setCell ⟨w.heap.size+1,1,none⟩ (.slice j (M.length+1) g)).cell? ⟨N,O+k,none⟩=some (.slice F (d+1) f)):=⟨(b.out _ k4).1,(b.out _ J.I.bel).1⟩;clear J k4 G hg
       refine hK.out _ _ R.out.1 (fun hHeld=>?_)
       clear hK K
       try simp only [Act.put,Za1,List.set]
       refine ZAA (i:=9) (d:=40) (v:=(.pointer (some ⟨w.heap.size+1,1,none⟩))) rfl rfl (by kernel_rfl) (by kernel_rfl) (by kernel_rfl) (fun _ _ _ h=>h) (.inl ⟨by rfl,by (intro wq a; (try dsimp only at a); go_simp; (try (first | rfl | omega)))⟩) hHeld ?_
       simp only [Act.put,Za1,List.set]
       refine wpAnyH_ready (rs:=[10]) (by kernel_rfl) (by simp) ?_
       refine ZAF (i:=10) rfl (by rfl) (fun K hK=>?_) AllReadyH.nil
       go_simp
       refine hK.out _ _ R.out.2 (fun hHeld=>?_)
       clear hK K
       refine wpAnyH_done (by kernel_rfl) ?_ _
       clear hHeld
       have HF:Hid (CtK w d (clT P s (k+1)) B (k+1) (r.setCell ⟨w.heap.size+1,1,none⟩ (.slice j (M.length+1) g))):=by
        have h9:=K3.out
        show CtK w d (clT P s (k+1)) B (k+1) _
        rw [af.out] at h9
        have T:M ++ [ngL (P.getD k [])]=M ++ clO (P.getD k []) 43:=by simp [clO]
        rw [T] at h9;rw [ZBX,ak.out.1,ak.out.2]; exact h9
       have am:s.length-(k+1) < gk:=by rw [aD.out]; omega
       clear K3 R;go_wp2
       go_roundg (s.length-(k+1))
       case measure=>exact am
       case rel=>exact ⟨k+1,by omega,rfl,HF.out⟩
   ·have an:∀ty,(Instr.next (.pointer (some ⟨w.heap.size+1+1,0,none⟩)) true ty).run Tryz.prog wr=.ok (.tuple #[.bool true,.int .i64 (k:Int),.int .i32 45]) A:=an
    obtain ⟨zs,m⟩:∃zs,zs=P.getD k []:=⟨_,rfl⟩
    go_upto_region 6 with fail
    go_cut [8,41] from 20 (fun x y D=>x=.int .i64 (k:Int)∧y=undef∧CtK w d (M ++ [P.getD k []]) B (k+1) D)
    case first=>
     have af:=hid m
     obtain ⟨D,aB⟩:∃D,D=A.drew:=⟨_,rfl⟩
     have n:Below A.heap.size A D:=by rw [aB]; exact (Below.refl _ _).drew
     have E:Sl w.heap.size 3 D (.slice F (d+1) f) (ZAB zs):=by rw [m]; exact (b.out _ (V.out.I.bel.trans (n.mono V.out.I.bel.size))).2
     obtain ⟨so,sc,vs,e1,T,e3,e4,e5,e6,e7⟩:=V.out.push n E
     obtain ⟨W5,o⟩:∃W5,W5=D.alloc (.cells #[.slice F (d+1) f] 27):=⟨_,rfl⟩
     rw [←o] at T e3 e4 e5 e6 e7;have aj:=hid o;have aa:=hid e5;have ah:=hid e3;have ai:=hid e6;have ae:=hid e7;have l:Hid (Below w.heap.size w W5):=e4.1;have ag:Hid (Below w.heap.size w D):=e4.2;have b1:=e1;have b2:=T;clear e1 T e3 e4 e5 e6 e7 o;clear E n m
     refine wp_region_held (S:=fun X=>X.cell? ⟨N,O+k,none⟩=some (.slice F (d+1) f)) (by kernel_rfl) ?_
     show wpAnyH _ _ _ _ _ _ _ _ A.drew
     rw [←aB];have hHeld:=(b.out _ ag.out).1;clear aB
     refine ZAA (i:=0) (d:=20) (v:=(.pointer (some ⟨w.heap.size+1,1,none⟩))) rfl rfl (by kernel_rfl) (by kernel_rfl) (by kernel_rfl) (fun _ _ _ h=>h) (.inl ⟨by rfl,by (intro wq a; (try dsimp only at a); go_simp; (try (first | rfl | omega)))⟩) hHeld ?_
     simp only [Act.put,Za1,List.set]
     refine ZAA (i:=2) (d:=22) (v:=(.slice (some ⟨N,O,none⟩) P.length rc)) rfl rfl (by kernel_rfl) (by kernel_rfl) (by kernel_rfl) (fun _ _ _ h=>h) (.inl ⟨by rfl,by (intro wq a; (try dsimp only at a); go_simp; (try (first | rfl | omega)))⟩) hHeld ?_
     simp only [Act.put,Za1,List.set]
     refine ZAA (i:=3) (d:=23) (v:=(.int .i64 (k:Int))) rfl rfl (by kernel_rfl) (by kernel_rfl) (by kernel_rfl) (fun _ _ _ h=>h) (.inl ⟨by rfl,by (intro wq a; (try dsimp only at a); go_simp; (try (first | rfl | omega)))⟩) hHeld ?_
     simp only [Act.put,Za1,List.set]
     refine ZAA (i:=4) (d:=24) (v:=(.pointer (some ⟨N,O+k,none⟩))) rfl rfl (by kernel_rfl) (by kernel_rfl) (by kernel_rfl) (fun _ _ _ h=>h) (.inl ⟨by rfl,by (intro wq a; (try dsimp only at a); go_simp; (try (first | rfl | omega)))⟩) hHeld ?_
     simp only [Act.put,Za1,List.set]
     refine ZAA (i:=5) (d:=25) (v:=(.slice F (d+1) f)) rfl rfl (by kernel_rfl) (by kernel_rfl) (by kernel_rfl) (fun _ _ _ h=>h) (.inl ⟨by rfl,by (intro wq a; (try dsimp only at a); go_simp; (try (first | rfl | omega)))⟩) hHeld ?_
     simp only [Act.put,Za1,List.set]
     refine wpAnyH_ready (rs:=[1,6]) (by kernel_rfl) (by simp) ?_
     refine ZAF (i:=1) rfl (by rfl) (fun K hK=>?_) (ZAF (i:=6) rfl (by rfl) (fun K hK=>?_) AllReadyH.nil)
     ·go_simp
      refine hK.out _ _ (b.out _ ag.out).1 (fun hHeld=>?_)
      clear hK K
      try simp only [Act.put,Za1,List.set]
      refine wpAnyH_ready (rs:=[6]) (by kernel_rfl) (by simp) ?_
      refine ZAF (i:=6) rfl (by rfl) (fun K hK=>?_) AllReadyH.nil
      go_simp;rw [←aj.out]
      refine hK.out _ _ (b.out _ l.out).1 (fun hHeld=>?_)
      clear hK K
      try simp only [Act.put,Za1,List.set]
      refine wpAnyH_ready (rs:=[7]) (by kernel_rfl) (by simp) ?_
      refine ZAF (i:=7) rfl (by rfl) (fun K hK=>?_) AllReadyH.nil
      refine ZAb _ _ 22 rfl (w.heap.size+1+1) 27 i0 (.slice none 0 0) 1 24 Tryz.underlying22 aw ay au ar rfl (by decide) (.slice so M.length sc) M.length vs rfl aa.out ⟨D.heap.size,0,none⟩ 1 1 [.slice F (d+1) f] rfl rfl ah.out (ZAM _ _ _) (by unfold maxLen; omega) (by omega) ai.out ?_
      intro v' r G hg _;obtain ⟨j,g,L⟩:=ZAE G;subst L;obtain ⟨k1,k2,J,k4⟩:=ae.out (.slice j (M.length+1) g) r G hg;have K3:=hid J;have R:Hid (r.cell? ⟨N,O+k,none⟩=some (.slice F (d+1) f)∧(r.setCell ⟨w.heap.size+1,1,none⟩ (.slice j (M.length+1) g)).cell? ⟨N,O+k,none⟩=some (.slice F (d+1) f)):=⟨(b.out _ k4).1,(b.out _ J.I.bel).1⟩;clear J k4 G hg
      refine hK.out _ _ R.out.1 (fun hHeld=>?_)
      clear hK K
      try simp only [Act.put,Za1,List.set]
      refine ZAA (i:=8) (d:=28) (v:=(.pointer (some ⟨w.heap.size+1,1,none⟩))) rfl rfl (by kernel_rfl) (by kernel_rfl) (by kernel_rfl) (fun _ _ _ h=>h) (.inl ⟨by rfl,by (intro wq a; (try dsimp only at a); go_simp; (try (first | rfl | omega)))⟩) hHeld ?_
      simp only [Act.put,Za1,List.set]
      refine wpAnyH_ready (rs:=[9]) (by kernel_rfl) (by simp) ?_
      refine ZAF (i:=9) rfl (by rfl) (fun K hK=>?_) AllReadyH.nil
      go_simp
      refine hK.out _ _ R.out.2 (fun hHeld=>?_)
      clear hK K
      refine wpAnyH_done (by kernel_rfl) ?_ _
      clear hHeld;go_wp2
      go_meet
      exact ⟨rfl,rfl,by have h9:=K3.out; rwa [af.out] at h9⟩
     ·go_simp
      rw [←aj.out]
      refine hK.out _ _ (b.out _ l.out).1 (fun hHeld=>?_)
      clear hK K
      try simp only [Act.put,Za1,List.set]
      refine wpAnyH_ready (rs:=[1]) (by kernel_rfl) (by simp) ?_
      refine ZAF (i:=1) rfl (by rfl) (fun K hK=>?_) AllReadyH.nil
      go_simp
      refine hK.out _ _ (b.out _ l.out).1 (fun hHeld=>?_)
      clear hK K
      try simp only [Act.put,Za1,List.set]
      refine wpAnyH_ready (rs:=[7]) (by kernel_rfl) (by simp) ?_
      refine ZAF (i:=7) rfl (by rfl) (fun K hK=>?_) AllReadyH.nil
      refine ZAb _ _ 22 rfl (w.heap.size+1+1) 27 i0 (.slice none 0 0) 1 24 Tryz.underlying22 aw ay au ar rfl (by decide) (.slice so M.length sc) M.length vs rfl aa.out ⟨D.heap.size,0,none⟩ 1 1 [.slice F (d+1) f] rfl rfl ah.out (ZAM _ _ _) (by unfold maxLen; omega) (by omega) ai.out ?_
      intro v' r G hg _;obtain ⟨j,g,L⟩:=ZAE G;subst L;obtain ⟨k1,k2,J,k4⟩:=ae.out (.slice j (M.length+1) g) r G hg;have K3:=hid J;have R:Hid (r.cell? ⟨N,O+k,none⟩=some (.slice F (d+1) f)∧(r.setCell ⟨w.heap.size+1,1,none⟩ (.slice j (M.length+1) g)).cell? ⟨N,O+k,none⟩=some (.slice F (d+1) f)):=⟨(b.out _ k4).1,(b.out _ J.I.bel).1⟩;clear J k4 G hg
      refine hK.out _ _ R.out.1 (fun hHeld=>?_)
      clear hK K
      try simp only [Act.put,Za1,List.set]
      refine ZAA (i:=8) (d:=28) (v:=(.pointer (some ⟨w.heap.size+1,1,none⟩))) rfl rfl (by kernel_rfl) (by kernel_rfl) (by kernel_rfl) (fun _ _ _ h=>h) (.inl ⟨by rfl,by (intro wq a; (try dsimp only at a); go_simp; (try (first | rfl | omega)))⟩) hHeld ?_
      simp only [Act.put,Za1,List.set]
      refine wpAnyH_ready (rs:=[9]) (by kernel_rfl) (by simp) ?_
      refine ZAF (i:=9) rfl (by rfl) (fun K hK=>?_) AllReadyH.nil
      go_simp
      refine hK.out _ _ R.out.2 (fun hHeld=>?_)
      clear hK K
      refine wpAnyH_done (by kernel_rfl) ?_ _
      clear hHeld;go_wp2
      go_meet
      exact ⟨rfl,rfl,by have h9:=K3.out; rwa [af.out] at h9⟩
    case rest=>
     obtain ⟨rfl,rfl,U⟩:=hcut;clear m zs
     have HF:Hid (CtK w d (clT P s (k+1)) B (k+1) wc):=by
      show CtK w d (clT P s (k+1)) B (k+1) wc
      rw [ZBX,ak.out.1,ak.out.2]; simpa [clO] using U
     have am:s.length-(k+1) < gk:=by rw [aD.out]; omega
     clear U;go_wp2
     go_roundg (s.length-(k+1))
     case measure=>exact am
     case rel=>exact ⟨k+1,by omega,rfl,HF.out⟩
   ·have an:∀ty,(Instr.next (.pointer (some ⟨w.heap.size+1+1,0,none⟩)) true ty).run Tryz.prog wr=.ok (.tuple #[.bool true,.int .i64 (k:Int),.int .i32 48]) A:=an
    obtain ⟨zs,m⟩:∃zs,zs=P.getD k []:=⟨_,rfl⟩
    go_upto_region 6 with fail
    go_cut [8,41] from 20 (fun x y D=>x=.int .i64 (k:Int)∧y=undef∧CtK w d (M ++ [P.getD k []]) B (k+1) D)
    case first=>
     have af:=hid m
     obtain ⟨D,aB⟩:∃D,D=A.drew:=⟨_,rfl⟩
     have n:Below A.heap.size A D:=by rw [aB]; exact (Below.refl _ _).drew
     have E:Sl w.heap.size 3 D (.slice F (d+1) f) (ZAB zs):=by rw [m]; exact (b.out _ (V.out.I.bel.trans (n.mono V.out.I.bel.size))).2
     obtain ⟨so,sc,vs,e1,T,e3,e4,e5,e6,e7⟩:=V.out.push n E
     obtain ⟨W5,o⟩:∃W5,W5=D.alloc (.cells #[.slice F (d+1) f] 27):=⟨_,rfl⟩
     rw [←o] at T e3 e4 e5 e6 e7;have aj:=hid o;have aa:=hid e5;have ah:=hid e3;have ai:=hid e6;have ae:=hid e7;have l:Hid (Below w.heap.size w W5):=e4.1;have ag:Hid (Below w.heap.size w D):=e4.2;have b1:=e1;have b2:=T;clear e1 T e3 e4 e5 e6 e7 o;clear E n m
     refine wp_region_held (S:=fun X=>X.cell? ⟨N,O+k,none⟩=some (.slice F (d+1) f)) (by kernel_rfl) ?_
     show wpAnyH _ _ _ _ _ _ _ _ A.drew
     rw [←aB];have hHeld:=(b.out _ ag.out).1;clear aB
     refine ZAA (i:=0) (d:=20) (v:=(.pointer (some ⟨w.heap.size+1,1,none⟩))) rfl rfl (by kernel_rfl) (by kernel_rfl) (by kernel_rfl) (fun _ _ _ h=>h) (.inl ⟨by rfl,by (intro wq a; (try dsimp only at a); go_simp; (try (first | rfl | omega)))⟩) hHeld ?_
     simp only [Act.put,Za1,List.set]
     refine ZAA (i:=2) (d:=22) (v:=(.slice (some ⟨N,O,none⟩) P.length rc)) rfl rfl (by kernel_rfl) (by kernel_rfl) (by kernel_rfl) (fun _ _ _ h=>h) (.inl ⟨by rfl,by (intro wq a; (try dsimp only at a); go_simp; (try (first | rfl | omega)))⟩) hHeld ?_
     simp only [Act.put,Za1,List.set]
     refine ZAA (i:=3) (d:=23) (v:=(.int .i64 (k:Int))) rfl rfl (by kernel_rfl) (by kernel_rfl) (by kernel_rfl) (fun _ _ _ h=>h) (.inl ⟨by rfl,by (intro wq a; (try dsimp only at a); go_simp; (try (first | rfl | omega)))⟩) hHeld ?_
     simp only [Act.put,Za1,List.set]
     refine ZAA (i:=4) (d:=24) (v:=(.pointer (some ⟨N,O+k,none⟩))) rfl rfl (by kernel_rfl) (by kernel_rfl) (by kernel_rfl) (fun _ _ _ h=>h) (.inl ⟨by rfl,by (intro wq a; (try dsimp only at a); go_simp; (try (first | rfl | omega)))⟩) hHeld ?_
     simp only [Act.put,Za1,List.set]
     refine ZAA (i:=5) (d:=25) (v:=(.slice F (d+1) f)) rfl rfl (by kernel_rfl) (by kernel_rfl) (by kernel_rfl) (fun _ _ _ h=>h) (.inl ⟨by rfl,by (intro wq a; (try dsimp only at a); go_simp; (try (first | rfl | omega)))⟩) hHeld ?_
     simp only [Act.put,Za1,List.set]
     refine wpAnyH_ready (rs:=[1,6]) (by kernel_rfl) (by simp) ?_
     refine ZAF (i:=1) rfl (by rfl) (fun K hK=>?_) (ZAF (i:=6) rfl (by rfl) (fun K hK=>?_) AllReadyH.nil)
     ·go_simp
      refine hK.out _ _ (b.out _ ag.out).1 (fun hHeld=>?_)
      clear hK K
      try simp only [Act.put,Za1,List.set]
      refine wpAnyH_ready (rs:=[6]) (by kernel_rfl) (by simp) ?_
      refine ZAF (i:=6) rfl (by rfl) (fun K hK=>?_) AllReadyH.nil
      go_simp;rw [←aj.out]
      refine hK.out _ _ (b.out _ l.out).1 (fun hHeld=>?_)
      clear hK K
      try simp only [Act.put,Za1,List.set]
      refine wpAnyH_ready (rs:=[7]) (by kernel_rfl) (by simp) ?_
      refine ZAF (i:=7) rfl (by rfl) (fun K hK=>?_) AllReadyH.nil
      refine ZAb _ _ 22 rfl (w.heap.size+1+1) 27 i0 (.slice none 0 0) 1 24 Tryz.underlying22 aw ay au ar rfl (by decide) (.slice so M.length sc) M.length vs rfl aa.out ⟨D.heap.size,0,none⟩ 1 1 [.slice F (d+1) f] rfl rfl ah.out (ZAM _ _ _) (by unfold maxLen; omega) (by omega) ai.out ?_
      intro v' r G hg _;obtain ⟨j,g,L⟩:=ZAE G;subst L;obtain ⟨k1,k2,J,k4⟩:=ae.out (.slice j (M.length+1) g) r G hg;have K3:=hid J;have R:Hid (r.cell? ⟨N,O+k,none⟩=some (.slice F (d+1) f)∧(r.setCell ⟨w.heap.size+1,1,none⟩ (.slice j (M.length+1) g)).cell? ⟨N,O+k,none⟩=some (.slice F (d+1) f)):=⟨(b.out _ k4).1,(b.out _ J.I.bel).1⟩;clear J k4 G hg
      refine hK.out _ _ R.out.1 (fun hHeld=>?_)
      clear hK K
      try simp only [Act.put,Za1,List.set]
      refine ZAA (i:=8) (d:=28) (v:=(.pointer (some ⟨w.heap.size+1,1,none⟩))) rfl rfl (by kernel_rfl) (by kernel_rfl) (by kernel_rfl) (fun _ _ _ h=>h) (.inl ⟨by rfl,by (intro wq a; (try dsimp only at a); go_simp; (try (first | rfl | omega)))⟩) hHeld ?_
      simp only [Act.put,Za1,List.set]
      refine wpAnyH_ready (rs:=[9]) (by kernel_rfl) (by simp) ?_
      refine ZAF (i:=9) rfl (by rfl) (fun K hK=>?_) AllReadyH.nil
      go_simp
      refine hK.out _ _ R.out.2 (fun hHeld=>?_)
      clear hK K
      refine wpAnyH_done (by kernel_rfl) ?_ _
      clear hHeld;go_wp2
      go_meet
      exact ⟨rfl,rfl,by have h9:=K3.out; rwa [af.out] at h9⟩
     ·go_simp
      rw [←aj.out]
      refine hK.out _ _ (b.out _ l.out).1 (fun hHeld=>?_)
      clear hK K
      try simp only [Act.put,Za1,List.set]
      refine wpAnyH_ready (rs:=[1]) (by kernel_rfl) (by simp) ?_
      refine ZAF (i:=1) rfl (by rfl) (fun K hK=>?_) AllReadyH.nil
      go_simp
      refine hK.out _ _ (b.out _ l.out).1 (fun hHeld=>?_)
      clear hK K
      try simp only [Act.put,Za1,List.set]
      refine wpAnyH_ready (rs:=[7]) (by kernel_rfl) (by simp) ?_
      refine ZAF (i:=7) rfl (by rfl) (fun K hK=>?_) AllReadyH.nil
      refine ZAb _ _ 22 rfl (w.heap.size+1+1) 27 i0 (.slice none 0 0) 1 24 Tryz.underlying22 aw ay au ar rfl (by decide) (.slice so M.length sc) M.length vs rfl aa.out ⟨D.heap.size,0,none⟩ 1 1 [.slice F (d+1) f] rfl rfl ah.out (ZAM _ _ _) (by unfold maxLen; omega) (by omega) ai.out ?_
      intro v' r G hg _;obtain ⟨j,g,L⟩:=ZAE G;subst L;obtain ⟨k1,k2,J,k4⟩:=ae.out (.slice j (M.length+1) g) r G hg;have K3:=hid J;have R:Hid (r.cell? ⟨N,O+k,none⟩=some (.slice F (d+1) f)∧(r.setCell ⟨w.heap.size+1,1,none⟩ (.slice j (M.length+1) g)).cell? ⟨N,O+k,none⟩=some (.slice F (d+1) f)):=⟨(b.out _ k4).1,(b.out _ J.I.bel).1⟩;clear J k4 G hg
      refine hK.out _ _ R.out.1 (fun hHeld=>?_)
      clear hK K
      try simp only [Act.put,Za1,List.set]
      refine ZAA (i:=8) (d:=28) (v:=(.pointer (some ⟨w.heap.size+1,1,none⟩))) rfl rfl (by kernel_rfl) (by kernel_rfl) (by kernel_rfl) (fun _ _ _ h=>h) (.inl ⟨by rfl,by (intro wq a; (try dsimp only at a); go_simp; (try (first | rfl | omega)))⟩) hHeld ?_
      simp only [Act.put,Za1,List.set]
      refine wpAnyH_ready (rs:=[9]) (by kernel_rfl) (by simp) ?_
      refine ZAF (i:=9) rfl (by rfl) (fun K hK=>?_) AllReadyH.nil
      go_simp
      refine hK.out _ _ R.out.2 (fun hHeld=>?_)
      clear hK K
      refine wpAnyH_done (by kernel_rfl) ?_ _
      clear hHeld;go_wp2
      go_meet
      exact ⟨rfl,rfl,by have h9:=K3.out; rwa [af.out] at h9⟩
    case rest=>
     obtain ⟨rfl,rfl,U⟩:=hcut;clear m zs;have Y:=hid U;clear U V
     obtain ⟨A,rfl⟩:∃A,A=wc:=⟨_,rfl⟩
     obtain ⟨M2,aG⟩:∃M2,M2=M ++ [P.getD k []]:=⟨_,rfl⟩
     rw [←aG] at Y
     have bj:M2.length≤13:=by rw [aG]; simp; omega
     have aK:=hid aG;clear aG
     go_upto_region 8 with fail
     have aq:=Y.out.boxc;obtain ⟨aF,aE,aq⟩:=aq
     ·refine wp_region_held (S:=fun X=>X.cell? ⟨N,O+k,none⟩=some (.slice F (d+1) f)) (by kernel_rfl) ?_
      show wpAnyH _ _ _ _ _ _ _ _ A.drew
      have hHeld:=(b.out A.drew (Y.out.I.bel.trans ((Below.refl A.heap.size A).drew.mono Y.out.I.bel.size))).1;have aZ:A.drew.cell? ⟨w.heap.size+1,1,none⟩=some (.slice aF M2.length aE):=aq
      refine ZAA (i:=0) (d:=31) (v:=(.pointer (some ⟨w.heap.size+1,1,none⟩))) rfl rfl (by kernel_rfl) (by kernel_rfl) (by kernel_rfl) (fun _ _ _ h=>h) (.inl ⟨by rfl,by (intro wq a; (try dsimp only at a); go_simp; (try (first | rfl | omega)))⟩) hHeld ?_
      simp only [Act.put,Za1,List.set]
      refine ZAA (i:=2) (d:=33) (v:=(.slice (some ⟨N,O,none⟩) P.length rc)) rfl rfl (by kernel_rfl) (by kernel_rfl) (by kernel_rfl) (fun _ _ _ h=>h) (.inl ⟨by rfl,by (intro wq a; (try dsimp only at a); go_simp; (try (first | rfl | omega)))⟩) hHeld ?_
      simp only [Act.put,Za1,List.set]
      refine ZAA (i:=3) (d:=34) (v:=(.int .i64 (k:Int))) rfl rfl (by kernel_rfl) (by kernel_rfl) (by kernel_rfl) (fun _ _ _ h=>h) (.inl ⟨by rfl,by (intro wq a; (try dsimp only at a); go_simp; (try (first | rfl | omega)))⟩) hHeld ?_
      simp only [Act.put,Za1,List.set]
      refine ZAA (i:=4) (d:=35) (v:=(.pointer (some ⟨N,O+k,none⟩))) rfl rfl (by kernel_rfl) (by kernel_rfl) (by kernel_rfl) (fun _ _ _ h=>h) (.inl ⟨by rfl,by (intro wq a; (try dsimp only at a); go_simp; (try (first | rfl | omega)))⟩) hHeld ?_
      simp only [Act.put,Za1,List.set]
      refine ZAA (i:=5) (d:=36) (v:=(.slice F (d+1) f)) rfl rfl (by kernel_rfl) (by kernel_rfl) (by kernel_rfl) (fun _ _ _ h=>h) (.inl ⟨by rfl,by (intro wq a; (try dsimp only at a); go_simp; (try (first | rfl | omega)))⟩) hHeld ?_
      simp only [Act.put,Za1,List.set]
      refine wpAnyH_ready (rs:=[1,6]) (by kernel_rfl) (by simp) ?_
      refine ZAF (i:=1) rfl (by rfl) (fun K hK=>?_) (ZAF (i:=6) rfl (by rfl) (fun K hK=>?_) AllReadyH.nil)
      ·go_simp
       refine hK.out _ _ hHeld (fun hHeld=>?_)
       clear hK K
       try simp only [Act.put,Za1,List.set]
       refine wpAnyH_ready (rs:=[6]) (by kernel_rfl) (by simp) ?_
       refine ZAF (i:=6) rfl (by rfl) (fun K hK=>?_) AllReadyH.nil
       go_simp;refine (aH.out _ (Y.out.I.bel.trans ((Below.refl A.heap.size A).drew.mono Y.out.I.bel.size))).mono ?_;rintro e D ⟨uo,uc,rfl,E,Q⟩;have n:Below A.heap.size A D:=(Below.refl _ _).drew.trans Q
       obtain ⟨zs,m⟩:∃zs,zs=ngL (P.getD k []):=⟨_,rfl⟩
       rw [←m] at E;have af:=hid m;obtain ⟨so,sc,vs,e1,T,e3,e4,e5,e6,e7⟩:=Y.out.push n E
       obtain ⟨W5,o⟩:∃W5,W5=D.alloc (.cells #[.slice uo (d+1) uc] 27):=⟨_,rfl⟩
       rw [←o] at T e3 e4 e5 e6 e7;have aj:=hid o;have aa:=hid e5;have ah:=hid e3;have ai:=hid e6;have ae:=hid e7;have l:Hid (Below w.heap.size w W5):=e4.1;have ag:Hid (Below w.heap.size w D):=e4.2;have b1:=e1;have b2:=T;clear e1 T e3 e4 e5 e6 e7 o;have az:=hid n;clear E n Q m
       refine hK.out _ _ (b.out _ ag.out).1 (fun hHeld=>?_)
       clear hK K
       try simp only [Act.put,Za1,List.set]
       have aA:Value.slice aF M2.length aE=.slice so M2.length sc:=by
        have q:=(az.cell (p:=⟨w.heap.size+1,1,none⟩) (ZAH aq)).trans aq;rw [b1] at q;exact (Option.some.inj q).symm
       rw [aA]
       refine wpAnyH_ready (rs:=[7]) (by kernel_rfl) (by simp) ?_
       refine ZAF (i:=7) rfl (by rfl) (fun K hK=>?_) AllReadyH.nil
       go_simp;rw [←aj.out]
       refine hK.out _ _ (b.out _ l.out).1 (fun hHeld=>?_)
       clear hK K
       try simp only [Act.put,Za1,List.set]
       refine wpAnyH_ready (rs:=[8]) (by kernel_rfl) (by simp) ?_
       refine ZAF (i:=8) rfl (by rfl) (fun K hK=>?_) AllReadyH.nil
       refine ZAb _ _ 22 rfl (w.heap.size+1+1) 27 i0 (.slice none 0 0) 1 24 Tryz.underlying22 aw ay au ar rfl (by decide) (.slice so M2.length sc) M2.length vs rfl aa.out ⟨D.heap.size,0,none⟩ 1 1 [.slice uo (d+1) uc] rfl rfl ah.out (ZAM _ _ _) (by unfold maxLen; omega) (by omega) ai.out ?_
       intro v' r G hg _;obtain ⟨j,g,L⟩:=ZAE G;subst L;obtain ⟨k1,k2,J,k4⟩:=ae.out (.slice j (M2.length+1) g) r G hg;have K3:=hid J;have R:Hid (r.cell? ⟨N,O+k,none⟩=some (.slice F (d+1) f)∧(r.setCell ⟨w.heap.size+1,1,none⟩ (.slice j (M2.length+1) g)).cell? ⟨N,O+k,none⟩=some (.slice F (d+1) f)):=⟨(b.out _ k4).1,(b.out _ J.I.bel).1⟩;clear J k4 G hg
       refine hK.out _ _ R.out.1 (fun hHeld=>?_)
       clear hK K
       try simp only [Act.put,Za1,List.set]
       refine ZAA (i:=9) (d:=40) (v:=(.pointer (some ⟨w.heap.size+1,1,none⟩))) rfl rfl (by kernel_rfl) (by kernel_rfl) (by kernel_rfl) (fun _ _ _ h=>h) (.inl ⟨by rfl,by (intro wq a; (try dsimp only at a); go_simp; (try (first | rfl | omega)))⟩) hHeld ?_
       simp only [Act.put,Za1,List.set]
       refine wpAnyH_ready (rs:=[10]) (by kernel_rfl) (by simp) ?_
       refine ZAF (i:=10) rfl (by rfl) (fun K hK=>?_) AllReadyH.nil
       go_simp
       refine hK.out _ _ R.out.2 (fun hHeld=>?_)
       clear hK K
       refine wpAnyH_done (by kernel_rfl) ?_ _
       clear hHeld
       have HF:Hid (CtK w d (clT P s (k+1)) B (k+1) (r.setCell ⟨w.heap.size+1,1,none⟩ (.slice j (M2.length+1) g))):=by
        have h9:=K3.out
        show CtK w d (clT P s (k+1)) B (k+1) _
        rw [af.out] at h9
        have T:M2 ++ [ngL (P.getD k [])]=M ++ clO (P.getD k []) 48:=by rw [aK.out]; simp [clO]
        rw [T] at h9;rw [ZBX,ak.out.1,ak.out.2]; exact h9
       have am:s.length-(k+1) < gk:=by rw [aD.out]; omega
       clear K3 R;go_wp2
       go_roundg (s.length-(k+1))
       case measure=>exact am
       case rel=>exact ⟨k+1,by omega,rfl,HF.out⟩
      ·go_simp
       refine (aH.out _ (Y.out.I.bel.trans ((Below.refl A.heap.size A).drew.mono Y.out.I.bel.size))).mono ?_;rintro e D ⟨uo,uc,rfl,E,Q⟩;have n:Below A.heap.size A D:=(Below.refl _ _).drew.trans Q
       obtain ⟨zs,m⟩:∃zs,zs=ngL (P.getD k []):=⟨_,rfl⟩
       rw [←m] at E;have af:=hid m;obtain ⟨so,sc,vs,e1,T,e3,e4,e5,e6,e7⟩:=Y.out.push n E
       obtain ⟨W5,o⟩:∃W5,W5=D.alloc (.cells #[.slice uo (d+1) uc] 27):=⟨_,rfl⟩
       rw [←o] at T e3 e4 e5 e6 e7;have aj:=hid o;have aa:=hid e5;have ah:=hid e3;have ai:=hid e6;have ae:=hid e7;have l:Hid (Below w.heap.size w W5):=e4.1;have ag:Hid (Below w.heap.size w D):=e4.2;have b1:=e1;have b2:=T;clear e1 T e3 e4 e5 e6 e7 o;have az:=hid n;clear E n Q m
       refine hK.out _ _ (b.out _ ag.out).1 (fun hHeld=>?_)
       clear hK K
       try simp only [Act.put,Za1,List.set]
       refine wpAnyH_ready (rs:=[1,7]) (by kernel_rfl) (by simp) ?_
       refine ZAF (i:=1) rfl (by rfl) (fun K hK=>?_) (ZAF (i:=7) rfl (by rfl) (fun K hK=>?_) AllReadyH.nil)
       ·go_simp
        refine hK.out _ _ (b.out _ ag.out).1 (fun hHeld=>?_)
        clear hK K
        try simp only [Act.put,Za1,List.set]
        refine wpAnyH_ready (rs:=[7]) (by kernel_rfl) (by simp) ?_
        refine ZAF (i:=7) rfl (by rfl) (fun K hK=>?_) AllReadyH.nil
        go_simp;rw [←aj.out]
        refine hK.out _ _ (b.out _ l.out).1 (fun hHeld=>?_)
        clear hK K
        try simp only [Act.put,Za1,List.set]
        refine wpAnyH_ready (rs:=[8]) (by kernel_rfl) (by simp) ?_
        refine ZAF (i:=8) rfl (by rfl) (fun K hK=>?_) AllReadyH.nil
        refine ZAb _ _ 22 rfl (w.heap.size+1+1) 27 i0 (.slice none 0 0) 1 24 Tryz.underlying22 aw ay au ar rfl (by decide) (.slice so M2.length sc) M2.length vs rfl aa.out ⟨D.heap.size,0,none⟩ 1 1 [.slice uo (d+1) uc] rfl rfl ah.out (ZAM _ _ _) (by unfold maxLen; omega) (by omega) ai.out ?_
        intro v' r G hg _;obtain ⟨j,g,L⟩:=ZAE G;subst L;obtain ⟨k1,k2,J,k4⟩:=ae.out (.slice j (M2.length+1) g) r G hg;have K3:=hid J;have R:Hid (r.cell? ⟨N,O+k,none⟩=some (.slice F (d+1) f)∧(r.setCell ⟨w.heap.size+1,1,none⟩ (.slice j (M2.length+1) g)).cell? ⟨N,O+k,none⟩=some (.slice F (d+1) f)):=⟨(b.out _ k4).1,(b.out _ J.I.bel).1⟩;clear J k4 G hg
        refine hK.out _ _ R.out.1 (fun hHeld=>?_)
        clear hK K
        try simp only [Act.put,Za1,List.set]
        refine ZAA (i:=9) (d:=40) (v:=(.pointer (some ⟨w.heap.size+1,1,none⟩))) rfl rfl (by kernel_rfl) (by kernel_rfl) (by kernel_rfl) (fun _ _ _ h=>h) (.inl ⟨by rfl,by (intro wq a; (try dsimp only at a); go_simp; (try (first | rfl | omega)))⟩) hHeld ?_
        simp only [Act.put,Za1,List.set]
        refine wpAnyH_ready (rs:=[10]) (by kernel_rfl) (by simp) ?_
        refine ZAF (i:=10) rfl (by rfl) (fun K hK=>?_) AllReadyH.nil
        go_simp
        refine hK.out _ _ R.out.2 (fun hHeld=>?_)
        clear hK K
        refine wpAnyH_done (by kernel_rfl) ?_ _
        clear hHeld
        have HF:Hid (CtK w d (clT P s (k+1)) B (k+1) (r.setCell ⟨w.heap.size+1,1,none⟩ (.slice j (M2.length+1) g))):=by
         have h9:=K3.out
         show CtK w d (clT P s (k+1)) B (k+1) _
         rw [af.out] at h9
         have T:M2 ++ [ngL (P.getD k [])]=M ++ clO (P.getD k []) 48:=by rw [aK.out]; simp [clO]
         rw [T] at h9;rw [ZBX,ak.out.1,ak.out.2]; exact h9
        have am:s.length-(k+1) < gk:=by rw [aD.out]; omega
        clear K3 R;go_wp2
        go_roundg (s.length-(k+1))
        case measure=>exact am
        case rel=>exact ⟨k+1,by omega,rfl,HF.out⟩
       ·go_simp
        rw [←aj.out]
        refine hK.out _ _ (b.out _ l.out).1 (fun hHeld=>?_)
        clear hK K
        try simp only [Act.put,Za1,List.set]
        refine wpAnyH_ready (rs:=[1]) (by kernel_rfl) (by simp) ?_
        refine ZAF (i:=1) rfl (by rfl) (fun K hK=>?_) AllReadyH.nil
        go_simp
        refine hK.out _ _ (b.out _ l.out).1 (fun hHeld=>?_)
        clear hK K
        try simp only [Act.put,Za1,List.set]
        refine wpAnyH_ready (rs:=[8]) (by kernel_rfl) (by simp) ?_
        refine ZAF (i:=8) rfl (by rfl) (fun K hK=>?_) AllReadyH.nil
        refine ZAb _ _ 22 rfl (w.heap.size+1+1) 27 i0 (.slice none 0 0) 1 24 Tryz.underlying22 aw ay au ar rfl (by decide) (.slice so M2.length sc) M2.length vs rfl aa.out ⟨D.heap.size,0,none⟩ 1 1 [.slice uo (d+1) uc] rfl rfl ah.out (ZAM _ _ _) (by unfold maxLen; omega) (by omega) ai.out ?_
        intro v' r G hg _;obtain ⟨j,g,L⟩:=ZAE G;subst L;obtain ⟨k1,k2,J,k4⟩:=ae.out (.slice j (M2.length+1) g) r G hg;have K3:=hid J;have R:Hid (r.cell? ⟨N,O+k,none⟩=some (.slice F (d+1) f)∧(r.setCell ⟨w.heap.size+1,1,none⟩ (.slice j (M2.length+1) g)).cell? ⟨N,O+k,none⟩=some (.slice F (d+1) f)):=⟨(b.out _ k4).1,(b.out _ J.I.bel).1⟩;clear J k4 G hg
        refine hK.out _ _ R.out.1 (fun hHeld=>?_)
        clear hK K
        try simp only [Act.put,Za1,List.set]
        refine ZAA (i:=9) (d:=40) (v:=(.pointer (some ⟨w.heap.size+1,1,none⟩))) rfl rfl (by kernel_rfl) (by kernel_rfl) (by kernel_rfl) (fun _ _ _ h=>h) (.inl ⟨by rfl,by (intro wq a; (try dsimp only at a); go_simp; (try (first | rfl | omega)))⟩) hHeld ?_
        simp only [Act.put,Za1,List.set]
        refine wpAnyH_ready (rs:=[10]) (by kernel_rfl) (by simp) ?_
        refine ZAF (i:=10) rfl (by rfl) (fun K hK=>?_) AllReadyH.nil
        go_simp
        refine hK.out _ _ R.out.2 (fun hHeld=>?_)
        clear hK K
        refine wpAnyH_done (by kernel_rfl) ?_ _
        clear hHeld
        have HF:Hid (CtK w d (clT P s (k+1)) B (k+1) (r.setCell ⟨w.heap.size+1,1,none⟩ (.slice j (M2.length+1) g))):=by
         have h9:=K3.out
         show CtK w d (clT P s (k+1)) B (k+1) _
         rw [af.out] at h9
         have T:M2 ++ [ngL (P.getD k [])]=M ++ clO (P.getD k []) 48:=by rw [aK.out]; simp [clO]
         rw [T] at h9;rw [ZBX,ak.out.1,ak.out.2]; exact h9
        have am:s.length-(k+1) < gk:=by rw [aD.out]; omega
        clear K3 R;go_wp2
        go_roundg (s.length-(k+1))
        case measure=>exact am
        case rel=>exact ⟨k+1,by omega,rfl,HF.out⟩
  ·have aX:k=s.length:=by omega
   subst aX
   have an:=fun ty=>aP.out wr (w.heap.size+1+1) ty U.it
   obtain ⟨so,sc,c1,c2,c3,c4,f3,f4,hm,hb⟩:=U.I.fin;have HM:=hid hm;have HB:=hid hb;have aN:=U.I.res
   have q0:((wr.setCell ⟨w.heap.size,0,none⟩ (.int .i64 (d:Int))).setCell ⟨w.heap.size,1,none⟩ (.slice so (clT P s s.length).length sc)).cell? ⟨w.heap.size,0,none⟩=some (.int .i64 (d:Int)):=by simp [World.cell?,World.setCell,Array.getElem?_modify,aN]
   have q1:((wr.setCell ⟨w.heap.size,0,none⟩ (.int .i64 (d:Int))).setCell ⟨w.heap.size,1,none⟩ (.slice so (clT P s s.length).length sc)).cell? ⟨w.heap.size,1,none⟩=some (.slice so (clT P s s.length).length sc):=by simp [World.cell?,World.setCell,Array.getElem?_modify,aN]
   clear U hm hb aN aR aO aL aP HV HN;go_wp2
   refine bodyPost_ret (v:=.agg #[.int .i64 d,.slice so (clT P s s.length).length sc]) (by simp [results,Tryz.results32,go_sem,q0,q1]) rfl ⟨so,sc,rfl,HM.out,HB.out⟩
end Go.Proofs.YtkjkfceblmgogaaGreat
