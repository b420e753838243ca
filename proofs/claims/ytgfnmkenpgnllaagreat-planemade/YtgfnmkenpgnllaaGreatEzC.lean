import Derived.Test.YtgfnmkenpgnllaaGreatEzB
set_option maxRecDepth 100000
set_option maxHeartbeats 4000000
namespace Go.Proofs.YtgfnmkenpgnllaaGreat
open Go.RowKit Lin
attribute [local go_sem ↓] Go.wp_at_zero Go.wp_at_succ
open Classical in
noncomputable def thB(d:Nat)(P:List (List Int))(s:List UInt8):Bool:=decide (∃z,ZDH d P s z)
theorem ZQe{w W w3:World}{x u y v':Value}{m:List (List Int)}{vs:List Value}{zs ys:List Int}(hb:Below w.heap.size w W)(g1:vs.length=m.length)(g2:W.ownsRow w.heap.size 22 1 x m.length vs)(g3:∀i,i < m.length→Sl 0 3 W (vs.getD i (.slice none 0 0)) (ZAB (m.getD i [])))(hu:Sl 0 3 W u (ZAB zs))(hy:Sl 0 3 W y (ZAB ys))
 (ho:w3.ownsRow w.heap.size 22 1 v' (m.length+2) (vs ++ [u,y]))(hg:(W.alloc (.cells #[u,y] 22)).grownBy w3 x.ownBlock):Fr w.heap.size 22 3 w3 v' (m ++ [zs,ys])∧Below w.heap.size w w3:=by
 have b:∀k,x.ownBlock=some k→0≤k∧∀cur,(W.alloc (.cells #[u,y] 22)).heap[k]?≠some (.cells cur 3 (0,0)):=fun k hk=>⟨Za5 _,(ZAz (g2.alloc (.cells #[u,y] 22)) (by decide) k hk).2⟩
 refine ⟨⟨vs ++ [u,y],by simp [g1],by simpa using ho,fun i hi=>?_⟩,(hb.alloc hb.size _).grown hg (by have:=hb.size; simp; omega) (fun x hx=>(g2.lt x hx).1)⟩
 have d:i < m.length+2:=by simpa using hi
 by_cases hlt:i < m.length
 ·have c:(vs ++ [u,y]).getD i (.slice none 0 0)=vs.getD i (.slice none 0 0):=by
   simp only [Za2]; rw [Za7 (by omega)]
  have a:(m ++ [zs,ys]).getD i []=m.getD i []:=by
   simp only [Za2]; rw [Za7 (by omega)]
  rw [c,a];exact ((g3 i hlt).alloc _).grown hg b
 ·have c:(vs ++ [u,y]).getD i (.slice none 0 0)=[u,y].getD (i-m.length) (.slice none 0 0):=by
   simp only [Za2]; rw [Za8 (by omega),g1]
  have a:(m ++ [zs,ys]).getD i []=[zs,ys].getD (i-m.length) []:=by
   simp only [Za2]; rw [Za8 (by omega)]
  rw [c,a]
  have:i-m.length=0∨i-m.length=1:=by omega
  rcases this with h | h <;> rw [h]
  ·exact (hu.alloc _).grown hg b
  ·exact (hy.alloc _).grown hg b
theorem ZPW(u y:Value)(a b:Option Addr)(n m c e:Nat)(hu:u=.slice a n c)(hy:y=.slice b m e):∀v∈[u,y],v.oneCell'=true:=fun v hv=>by
 rcases List.mem_cons.1 hv with rfl | hv
 ·rw [hu]; rfl
 ·rw [List.mem_singleton.1 hv,hy]; rfl
theorem ZPX(w:World)(u y:Value)(e:TypeId):∀j v,([u,y]:List Value)[j]?=some v→(w.alloc (.cells #[u,y] e)).cell? ((⟨w.heap.size,0,none⟩:Addr).add j)=some v:=fun j v h=>by
 have b:=heap_alloc_new w (.cells #[u,y] e)
 have:j=0∨j=1∨2≤j:=by omega
 rcases this with rfl | rfl | hj
 ·have hv:u=v:=by simpa using h
  subst hv
  have a:((⟨w.heap.size,0,none⟩:Addr).add 0)=⟨w.heap.size,0,none⟩:=by simp [Addr.add]
  rw [a]; unfold World.cell?; rw [b]; rfl
 ·have hv:y=v:=by simpa using h
  subst hv
  have a:((⟨w.heap.size,0,none⟩:Addr).add 1)=⟨w.heap.size,1,none⟩:=by simp [Addr.add]
  rw [a]; unfold World.cell?; rw [b]; rfl
 ·rw [Zaa6 (by simpa using hj)] at h
  cases h
theorem ZPY(p:List Int):((p ++ [0]).map fun z=>-z)=ngL p ++ [0]:=by simp [ngL]
theorem ZI2(p:List Int)(k:Nat)(h:p.length=k)(a z:Int):(p ++ [a]).set k z=p ++ [z]:=by
 rw [←h,List.set_append_right _ _ (Za4 _)];simp
theorem ZG4(d:Nat)(P:List (List Int))(s:List UInt8)(v:Value)(SB:ByteArray)(w:World)(hv:Mat 0 22 3 w v P)(hP:∀p∈P,p.length=d+1∧∀z∈p,z.natAbs≤3)(hd1:1≤d)(hd3:d≤3)(hsl:s.length≤P.length)(hs:Chs s)(hn:(thT P s s.length).length≤8)(h10:s.length≤10)(hSB:SB=⟨s.toArray⟩) :
  Calls Tryz.prog 26 #[.int .i64 d,v,.string SB] w fun e w'=>e=.returned (.bool (thB d P s))∧Below w.heap.size w w':=by
 obtain ⟨i0,hi,aE,aF,aM⟩:=info_parts Tryz.info22;obtain ⟨i3,bF,bh,bi,aZ⟩:=info_parts Tryz.info3;obtain ⟨ro,rc,bO,cw,cj⟩:=ZAE hv;subst bO;have HV:Hid (Mat 0 22 3 w (.slice ro P.length rc) P):=hv
 have ai:Hid (EaI d d (∃z,ZDH d P s z) (thT P s s.length)):=EaI.start (fun i hi=>hP _ (by rw [Za2,Za9 (show i < P.length by omega)]; exact List.getElem_mem _)) hs hn
 have HP:=hid hP;have HS:=hid hs
 have bK:SB.size=s.length:=by rw [hSB]; rfl
 have bM:=hid hSB
 obtain ⟨n,aQ⟩:∃n,n=s.length:=⟨_,rfl⟩
 rw [←aQ] at ai bK hsl h10;have HN:=hid aQ
 obtain ⟨D,hD⟩:∃D:Prop,D=∃z,ZDH d P s z:=⟨_,rfl⟩
 rw [←hD] at ai
 have aU:Hid ((D→thB d P s=true)∧(¬D→thB d P s=false)):=by
  rw [hD]
  refine ⟨fun h=>?_,fun h=>?_⟩ <;> simp [thB,h]
 clear hv hP hs hn hSB aQ hD;generalize thB d P s=tb at *;go_enter Tryz.func26,Tryz.ntmps26;go_wp2
 go_loopw [7,8] (fun x i wr=>∃k:Nat,k≤n∧i=.int .i64 k∧Fr w.heap.size 22 3 wr x (thT P s k)∧Below w.heap.size w wr) (fun _ i _=>n-(intOf i).toNat)
 case atStart=>exact ⟨0,Za5 _,rfl,Fr.nil _ _ _ _,Below.refl _ _⟩
 case round=>
  obtain ⟨k,hk,rfl,T,a⟩:=hrel
  obtain ⟨g,rfl⟩:∃g,g=wr:=⟨_,rfl⟩
  have HB:=hid a;have HF:=hid T;have ae:w.heap.size≤g.heap.size:=a.size
  by_cases hlt:k < n
  ·have c:Hid (thT P s (k+1)=thT P s k ++ thR (P.getD k []) (s.getD k 0)):=ZF9 P s k
   have cG:(thT P s k).length≤20:=by have:=ZGA P s k; omega
   obtain ⟨b,o,cp,pv,hs,_,aB,ay⟩:=ZAP HV.out (show k < P.length by omega)
   simp only [Za3] at hs;obtain ⟨rfl,-,rfl⟩:=hs
   have aD:P.getD k []∈P:=by rw [Za2,Za9 (show k < P.length by omega)]; exact List.getElem_mem _
   have bE:s.getD k 0=43∨s.getD k 0=45∨s.getD k 0=48:=HS.out _ (ZQa (by rw [←HN.out]; exact hlt))
   have ck:k < SB.size:=by omega
   have aG:SB[k]=s.getD k 0:=by
    have hx:k < s.length:=by rw [←HN.out]; exact hlt
    simp only [bM.out]
    show s.toArray[k]'(by simpa using hx)=_
    simp [hx]
   obtain ⟨p,hp⟩:∃p,p=P.getD k []:=⟨_,rfl⟩
   rw [←hp] at ay aD c;clear hp;obtain ⟨aq,aX⟩:=HP.out p aD;obtain ⟨po,pc,bg,_,_⟩:=ZAH ay;rw [aq] at bg;subst bg;have aK:g.cell? ⟨b,o+k,none⟩=some (.slice po (d+1) pc):=(a.cell (ZAI aB)).trans aB
   have bu:Hid (Calls Tryz.prog 27 #[.slice po (d+1) pc] g fun e w'=>∃uo uc,e=.returned (.slice uo (d+1) uc)∧w'.ownsRow g.heap.size 3 1 (.slice uo (d+1) uc) (d+1) (ZAB p)∧Below g.heap.size g w'):=by
    refine (ZBh 0 p _ g (ay.below a (Za4 _)) (by omega)).mono ?_
    rintro e w' ⟨u,rfl,j,hb⟩;rw [aq] at j;obtain ⟨uo,uc,rfl⟩:=ZAD j;exact ⟨uo,uc,rfl,j,hb⟩
   have S:Hid (p.length=d+1∧∀z∈p,z.natAbs≤3):=⟨aq,aX⟩
   have cE:(k:Int) < (n:Int):=by omega
   have bZ:(k:Int) < (P.length:Int):=by omega
   have cd:(0:Int)≤(k:Int):=by omega
   clear a T ay aB aD aq aX;generalize thT P s k=A at *
   go_wp2_with fail
   refine bu.out.mono ?_;rintro e w1 ⟨uo,uc,rfl,bj,aN⟩;have aR:=hid bj;have bt:=hid aN;have bB:g.heap.size≤w1.heap.size:=aN.size;clear bj aN bu aK
   go_wp2_with (first | (at_builtin; refine wpList_append_own _ rfl _ _ 22 rfl g.heap.size 3 i3 (.int .i64 0) 1 8 Tryz.underlying22 bF bh bi aZ rfl (by decide) _ _ _ rfl (aR.out.alloc _) ⟨w1.heap.size,0,none⟩ 1 1 [.int .i64 0] rfl rfl (ZAQ _ _ _) (ZA2 _) ?d3 ?d4 ?d5 ?_))
   case d3=>unfold maxLen; omega
   case d4=>omega
   case d5=>first | omega | (simp; omega)
   intro x2 w2 aW bv _;obtain ⟨vo,vc,bl⟩:=ZAD aW;subst bl
   have aP:Hid (Below g.heap.size g w2):=(bt.out.alloc bB _).grown bv (by simp; omega) (fun x hx=>(aR.out.lt x hx).1)
   have aC:Hid (w2.ownsRow g.heap.size 3 1 (.slice vo (d+1+1) vc) (d+1+1) (ZAB (p ++ [0]))):=by
    show World.ownsRow _ _ _ _ _ _ _
    simpa [ZAB] using aW
   have aa:g.heap.size≤w2.heap.size:=aP.out.size
   have bk:Hid (Calls Tryz.prog 28 #[.slice vo (d+1+1) vc] w2 fun e w'=>∃mo U,e=.returned (.slice mo (d+1+1) U)∧w'.ownsRow w2.heap.size 3 1 (.slice mo (d+1+1) U) (d+1+1) (ZAB (ngL p ++ [0]))∧Below w2.heap.size w2 w'):=by
    have hl:(p ++ [0]).length=d+1+1:=by simp [S.out.1]
    refine (ZBo 0 (p ++ [0]) _ w2 (Sl.own aC.out) (by omega) (fun z hz=>?_)).mono ?_
    ·rcases List.mem_append.1 hz with h | h
     ·have:=S.out.2 z h; omega
     ·rw [List.mem_singleton.1 h]; omega
    rintro e w' ⟨u,rfl,j,hb⟩;rw [hl,ZPY] at j;obtain ⟨mo,U,rfl⟩:=ZAD j;exact ⟨mo,U,rfl,j,hb⟩
   clear aW bv aR bt
   go_wp2_with fail
   refine bk.out.mono ?_;rintro e E ⟨mo,U,rfl,bq,ah⟩;have aj:Hid (Below g.heap.size g E):=aP.out.trans (ah.mono aa);have R:Hid (SlN g.heap.size E (.slice vo (d+1+1) vc) (ZAB (p ++ [0]))):=(SlN.own aC.out).below ah (Za4 _);have Q:Hid (SlN g.heap.size E (.slice mo (d+1+1) U) (ZAB (ngL p ++ [0]))):=(SlN.own bq).mono aa;have bX:g.heap.size≤E.heap.size:=aj.out.size
   have aH:Hid ((ngL p).length=d+1):=by show _=_; rw [ZGB]; exact S.out.1
   clear bq ah bk aC aP aa
   have cJ:(d:Int)+1 < (d:Int)+1+1:=by omega
   have bY:(0:Int)≤(d:Int)+1:=by omega
   rcases bE with hc | hc | hc
   ·rw [hc] at aG c
    have ak:Hid (thT P s (k+1)=A ++ [ngL p ++ [1]]):=c.out
    obtain ⟨F,G,bP,V,_,_⟩:=ZAJ Q.out.1 (k:=d+1) (by simp [aH.out])
    simp only [Za3] at V;obtain ⟨rfl,-,rfl⟩:=V
    obtain ⟨⟨qv,aL⟩,aV,Y,M⟩:=Q.out.put (k:=d+1) (by simp [aH.out]) 1
    rw [ZI2 _ _ aH.out] at M;have L:Hid (Below g.heap.size g (E.setCell ⟨F,G+(d+1),none⟩ (.int .i64 1))):=aj.out.setCell Y _;have l:Hid (Below w.heap.size w (E.setCell ⟨F,G+(d+1),none⟩ (.int .i64 1))):=HB.out.trans (L.out.mono ae);obtain ⟨vs,g1,g2,g3⟩:=HF.out.below L.out (Za4 _);have G2:=hid g2
    have J:Hid (∀v' f,f.ownsRow w.heap.size 22 1 v' (A.length+1) (vs ++ [.slice (some ⟨F,G,none⟩) (d+1+1) U])→((E.setCell ⟨F,G+(d+1),none⟩ (.int .i64 1)).alloc (.cells #[.slice (some ⟨F,G,none⟩) (d+1+1) U] 22)).grownBy f u7.ownBlock→Fr w.heap.size 22 3 f v' (A ++ [ngL p ++ [1]])∧Below w.heap.size w f):=fun v' f j N=>ZCZ l.out g1 g2 g3 M.1 j N
    have ag:Hid (w.heap.size≤(E.setCell ⟨F,G+(d+1),none⟩ (.int .i64 1)).heap.size):=l.out.size;clear g1 g2 g3 Y M hc c R Q L l
    go_wp2_with (first | (at_builtin; refine wpList_append_own _ rfl _ _ 25 rfl w.heap.size 22 i0 (.slice none 0 0) 1 24 Tryz.underlying25 hi aE aF aM rfl (by decide) _ _ _ rfl (G2.out.alloc _) ⟨(E.setCell ⟨F,G+(d+1),none⟩ (.int .i64 1)).heap.size,0,none⟩ 1 1 [.slice (some ⟨F,G,none⟩) (d+1+1) U] (by simp; rfl) rfl (ZAQ _ _ _) (ZAL _ _ _) ?d3 ?d4 ?d5 ?_))
    case d3=>unfold maxLen; omega
    case d4=>omega
    case d5=>have:=ag.out; simp at this ⊢; omega
    intro x6 f j N _;obtain ⟨q1,q2⟩:=J.out x6 f j N
    have R1:Hid (Fr w.heap.size 22 3 f x6 (thT P s (k+1))):=by show Fr _ _ _ _ _ _; rw [ak.out]; exact q1
    have R2:=hid q2;clear q1 q2 j N J G2 aL aV;go_wp2
    exact ⟨⟨k+1,by omega,by go_num,R1.out,R2.out⟩,by simp [intOf]; omega⟩
   ·rw [hc] at aG c
    have ak:Hid (thT P s (k+1)=A ++ [p ++ [1]]):=c.out
    obtain ⟨F,G,bP,V,_,_⟩:=ZAJ R.out.1 (k:=d+1) (by simp [S.out.1])
    simp only [Za3] at V;obtain ⟨rfl,-,rfl⟩:=V
    obtain ⟨⟨qv,aL⟩,aV,Y,M⟩:=R.out.put (k:=d+1) (by simp [S.out.1]) 1
    rw [ZI2 _ _ S.out.1] at M;have L:Hid (Below g.heap.size g (E.setCell ⟨F,G+(d+1),none⟩ (.int .i64 1))):=aj.out.setCell Y _;have l:Hid (Below w.heap.size w (E.setCell ⟨F,G+(d+1),none⟩ (.int .i64 1))):=HB.out.trans (L.out.mono ae);obtain ⟨vs,g1,g2,g3⟩:=HF.out.below L.out (Za4 _);have G2:=hid g2
    have J:Hid (∀v' f,f.ownsRow w.heap.size 22 1 v' (A.length+1) (vs ++ [.slice (some ⟨F,G,none⟩) (d+1+1) vc])→((E.setCell ⟨F,G+(d+1),none⟩ (.int .i64 1)).alloc (.cells #[.slice (some ⟨F,G,none⟩) (d+1+1) vc] 22)).grownBy f u7.ownBlock→Fr w.heap.size 22 3 f v' (A ++ [p ++ [1]])∧Below w.heap.size w f):=fun v' f j N=>ZCZ l.out g1 g2 g3 M.1 j N
    have ag:Hid (w.heap.size≤(E.setCell ⟨F,G+(d+1),none⟩ (.int .i64 1)).heap.size):=l.out.size;clear g1 g2 g3 Y M hc c R Q L l
    go_wp2_with (first | (at_builtin; refine wpList_append_own _ rfl _ _ 25 rfl w.heap.size 22 i0 (.slice none 0 0) 1 24 Tryz.underlying25 hi aE aF aM rfl (by decide) _ _ _ rfl (G2.out.alloc _) ⟨(E.setCell ⟨F,G+(d+1),none⟩ (.int .i64 1)).heap.size,0,none⟩ 1 1 [.slice (some ⟨F,G,none⟩) (d+1+1) vc] (by simp; rfl) rfl (ZAQ _ _ _) (ZAL _ _ _) ?d3 ?d4 ?d5 ?_))
    case d3=>unfold maxLen; omega
    case d4=>omega
    case d5=>have:=ag.out; simp at this ⊢; omega
    intro x6 f j N _;obtain ⟨q1,q2⟩:=J.out x6 f j N
    have R1:Hid (Fr w.heap.size 22 3 f x6 (thT P s (k+1))):=by show Fr _ _ _ _ _ _; rw [ak.out]; exact q1
    have R2:=hid q2;clear q1 q2 j N J G2 aL aV;go_wp2
    exact ⟨⟨k+1,by omega,by go_num,R1.out,R2.out⟩,by simp [intOf]; omega⟩
   ·rw [hc] at aG c
    have ak:Hid (thT P s (k+1)=A ++ [p ++ [0],ngL p ++ [0]]):=c.out;have l:Hid (Below w.heap.size w E):=HB.out.trans (aj.out.mono ae);obtain ⟨vs,g1,g2,g3⟩:=HF.out.below aj.out (Za4 _);have G2:=hid g2
    have J:Hid (∀v' f,f.ownsRow w.heap.size 22 1 v' (A.length+2) (vs ++ [.slice vo (d+1+1) vc,.slice mo (d+1+1) U])→(E.alloc (.cells #[.slice vo (d+1+1) vc,.slice mo (d+1+1) U] 22)).grownBy f u7.ownBlock→Fr w.heap.size 22 3 f v' (A ++ [p ++ [0],ngL p ++ [0]])∧Below w.heap.size w f):=fun v' f j N=>ZQe l.out g1 g2 g3 R.out.1 Q.out.1 j N
    have bU:w.heap.size≤E.heap.size:=l.out.size;clear g1 g2 g3 hc c R Q
    go_wp2_with (first | (at_builtin; refine wpList_append_own _ rfl _ _ 25 rfl w.heap.size 22 i0 (.slice none 0 0) 1 24 Tryz.underlying25 hi aE aF aM rfl (by decide) _ _ _ rfl (G2.out.alloc _) ⟨E.heap.size,0,none⟩ 2 2 [.slice vo (d+1+1) vc,.slice mo (d+1+1) U] rfl rfl (ZPX _ _ _ _) (ZPW _ _ _ _ _ _ _ _ rfl rfl) ?d3 ?d4 ?d5 ?_))
    case d3=>unfold maxLen; omega
    case d4=>omega
    case d5=>first | omega | (simp; omega)
    intro x6 f j N _;obtain ⟨q1,q2⟩:=J.out x6 f j N
    have R1:Hid (Fr w.heap.size 22 3 f x6 (thT P s (k+1))):=by show Fr _ _ _ _ _ _; rw [ak.out]; exact q1
    have R2:=hid q2;clear q1 q2 j N J G2;go_wp2
    exact ⟨⟨k+1,by omega,by go_num,R1.out,R2.out⟩,by simp [intOf]; omega⟩
  ·have bS:k=n:=by omega
   subst bS
   have aT:Hid (Fr w.heap.size 22 3 g u7 (thT P s s.length)):=by have:=HF.out; rw [HN.out] at this; exact this
   clear a T HF
   obtain ⟨m0,an⟩:∃m0,m0=thT P s s.length:=⟨_,rfl⟩
   rw [←HN.out] at an;rw [←HN.out,←an] at aT;rw [←an] at ai;clear an;go_wp2
   go_loopw [7,11] (fun x i wr=>∃(q:Nat) (m:List (List Int)),q≤d∧i=.int .i64 ((q:Int)-1)∧Fr w.heap.size 22 3 wr x m∧EaI d q D m∧Below w.heap.size w wr) (fun _ i _=>(intOf i+1).toNat)
   case atStart=>exact ⟨d,m0,Za4 _,rfl,aT.out,ai.out,HB.out⟩
   case round=>
    clear aT ai HB;obtain ⟨q,m,hq,rfl,T,bC,a⟩:=hrel
    obtain ⟨wb,rfl⟩:∃wb,wb=wr:=⟨_,rfl⟩
    have ar:=hid a;have aw:=hid T;have O:=hid bC;have aA:w.heap.size≤wb.heap.size:=a.size;clear T bC a
    by_cases hq0:1≤q
    ·obtain ⟨y,bI⟩:∃y,q=y+1:=⟨q-1,by omega⟩
     subst bI
     have bp:(((y+1:Nat):Int)-1)=(y:Int):=by omega
     rw [bp]
     have bD:Hid (Calls Tryz.prog 46 #[u7,.int .i64 y] wb fun e w'=>∃x s,e=.returned x∧Fr w.heap.size 22 3 w' x s∧EaI d y D s∧Below w.heap.size w w'):=by
      have h:=O.out
      have hj:d-(y+1)≤2:=by omega
      have ah:bdE (d-(y+1))≤1000:=by
       have:d-(y+1)=0∨d-(y+1)=1∨d-(y+1)=2:=by omega
       rcases this with e | e | e <;> rw [e] <;> decide
      have bQ:lnE (d-(y+1))≤4096:=by
       have:d-(y+1)=0∨d-(y+1)=1∨d-(y+1)=2:=by omega
       rcases this with e | e | e <;> rw [e] <;> decide
      refine (ZLn (y+2) y m u7 wb (ZB7 aw.out) (fun r hr=>⟨h.len r hr,fun z hz=>Zaa8 (h.bd r hr z hz) ah⟩) rfl (by omega) (Zaa8 h.n bQ)).mono ?_
      rintro e w' ⟨x,s,rfl,h1,h2,h3,h4⟩
      exact ⟨x,s,rfl,h1.mono aA,h.next (by omega) hd3 h2 h3,ar.out.trans (h4.mono aA)⟩
     have bV:(0:Int)≤(y:Int):=by omega
     clear bp aw O
     go_wp2_with fail
     refine bD.out.mono ?_;rintro e w2 ⟨x,s2,rfl,h1,h2,h3⟩;have HH:Hid (Fr w.heap.size 22 3 w2 x s2∧EaI d y D s2∧Below w.heap.size w w2):=⟨h1,h2,h3⟩;clear h1 h2 h3 bD;go_wp2
     exact ⟨⟨y,s2,by omega,by go_num,HH.out.1,HH.out.2.1,HH.out.2.2⟩,by first | (simp [intOf]; done) | (simp [intOf]; omega)⟩
    ·have aY:q=0:=by omega
     subst aY;have aO:Hid ((m.any edB=false)↔D):=O.out.fin
     have bN:Hid (∀r∈m,r.length=2):=O.out.len
     have cH:m.length≤16777216:=by
      refine Zaa8 O.out.n ?_;rw [Nat.sub_zero]
      have:d=1∨d=2∨d=3:=by omega
      rcases this with e | e | e <;> rw [e] <;> decide
     obtain ⟨xo,xc,bL,cF,cD⟩:=ZCY aw.out;subst bL;clear O hq hq0;go_wp2
     go_loopw [12] (fun i wr=>∃t:Nat,t≤m.length∧i=.int .i64 t∧(m.take t).any edB=false∧wr=wb) (fun i _=>m.length-(intOf i).toNat)
     case atStart=>exact ⟨0,Za5 _,rfl,rfl,rfl⟩
     case round=>
      obtain ⟨t,ht,rfl,bz,bG⟩:=hrel;subst bG;have aJ:=hid bz;clear bz
      by_cases hlt2:t < m.length
      ·obtain ⟨b2,o2,cC,rv,hs,_,cB,au⟩:=ZAP (aw.out.rws.mat (Za4 _)) hlt2
       simp only [Za3] at hs;obtain ⟨rfl,-,rfl⟩:=hs
       have am:m.getD t []∈m:=by simp [hlt2]
       have c:Hid ((m.take (t+1)).any edB=((m.take t).any edB || edB (m.getD t []))):=by
        show _=_
        rw [Zaa1 hlt2,List.any_append];simp [hlt2]
       have aI:Hid (edB (m.getD t [])=true→m.any edB=true):=fun h=>List.any_eq_true.2 ⟨_,am,h⟩
       obtain ⟨r,hr⟩:∃r,r=m.getD t []:=⟨_,rfl⟩
       rw [←hr] at au am c aI;clear hr;have bA:=bN.out r am
       obtain ⟨rb,rf,cI,bw,_,bH⟩:=ZAJ au (k:=0) (by omega)
       rw [Nat.add_zero] at bH
       obtain ⟨cg,cq,bW,af,_,cr⟩:=ZAJ au (k:=1) (by omega)
       rw [bA] at bw af;subst bw;simp only [Za3,Zaa9,Addr.mk.injEq,and_true] at af;obtain ⟨⟨rfl,rfl⟩,-,-⟩:=af
       have az:Hid (edB r=(decide (r.getD 0 0 < 0) || (decide (r.getD 0 0=0) && decide (0 < r.getD 1 0)))):=rfl
       clear au am bA;generalize r.getD 0 0=r0 at *;generalize r.getD 1 0=r1 at *;generalize edB r=er at *
       have cA:(t:Int) < (m.length:Int):=by omega
       have bT:(0:Int)≤(t:Int):=by omega
       by_cases c1:r0 < 0
       ·have X:decide (r0 < 0)=true:=decide_eq_true c1
        have B:Hid (tb=false):=by
         refine aU.out.2 fun hD=>?_
         have h1:=aI.out (by rw [az.out,X]; rfl)
         rw [aO.out.2 hD] at h1
         cases h1
        go_wp2;go_ret
        exact ⟨by rw [B.out] <;> rfl,ar.out⟩
       ·have X:decide (r0 < 0)=false:=decide_eq_false c1
        by_cases c2:r0=0
        ·have bJ:(r0 == 0)=true:=by simpa using c2
         by_cases c3:0 < r1
         ·have aS:decide (0 < r1)=true:=decide_eq_true c3
          have B:Hid (tb=false):=by
           refine aU.out.2 fun hD=>?_
           have h1:=aI.out (by rw [az.out,X,aS,decide_eq_true c2]; rfl)
           rw [aO.out.2 hD] at h1
           cases h1
          clear c2;go_wp2;go_ret
          exact ⟨by rw [B.out] <;> rfl,ar.out⟩
         ·have aS:decide (0 < r1)=false:=decide_eq_false c3
          have B:Hid ((m.take (t+1)).any edB=false):=by show _=_; rw [c.out,aJ.out,az.out,X,aS]; simp
          clear c2;go_wp2
          exact ⟨⟨t+1,by omega,by go_num,B.out,trivial⟩,by simp [intOf]; omega⟩
        ·have bJ:(r0 == 0)=false:=by simpa using c2
         have B:Hid ((m.take (t+1)).any edB=false):=by show _=_; rw [c.out,aJ.out,az.out,X,decide_eq_false c2]; simp
         go_wp2
         exact ⟨⟨t+1,by omega,by go_num,B.out,trivial⟩,by simp [intOf]; omega⟩
      ·have bR:t=m.length:=by omega
       subst bR
       have B:Hid (tb=true):=by
        refine aU.out.1 (aO.out.1 ?_);have:=aJ.out
        rwa [List.take_length] at this
       go_wp2;go_ret
       exact ⟨by rw [B.out] <;> rfl,ar.out⟩
end Go.Proofs.YtgfnmkenpgnllaaGreat
namespace Go.Proofs.YtgfnmkenpgnllaaGreat
open Go.RowKit Lin
attribute [local go_sem ↓] Go.wp_at_zero Go.wp_at_succ
noncomputable def sgT(d:Nat)(P:List (List Int))(ks:List UInt8):Nat→List UInt8→List (List UInt8)
 | 0,h=>if thB d P h then [h] else []
 | n+1,h=>if thB d P h then ks.flatMap fun c=>sgT d P ks n (h ++ [c]) else []
theorem ZGF{d:Nat}{P:List (List Int)}{s:List UInt8} : thB d P s=true↔∃z,ZDH d P s z:=by simp [thB]
theorem ZQf{d:Nat}{P:List (List Int)}{ks:List UInt8}{n:Nat}{h:List UInt8}(e:thB d P h=false):sgT d P ks n h=[]:=by
 cases n <;> simp [sgT,e]
theorem ZH4{d:Nat}{P:List (List Int)}{ks:List UInt8}(hk:ks.length≤3):∀(n:Nat) (h:List UInt8),(sgT d P ks n h).length≤3 ^ n
 | 0,h=>by
  unfold sgT
  split <;> simp
 | n+1,h=>by
  unfold sgT
  split
  ·have h1:=ZB9 (g:=fun c=>sgT d P ks n (h ++ [c])) (b:=3 ^ n) ks fun c _=>ZH4 hk n _
   have a:ks.length*3 ^ n≤3*3 ^ n:=Nat.mul_le_mul_right _ hk;rw [Nat.pow_succ];omega
  ·simp
theorem ZG5{α β:Type}(p:α→Bool)(g:α→List β):∀l:List α,(∀x∈l,p x=false→g x=[])→(l.filter p).flatMap g=l.flatMap g
 | [],_=>rfl
 | a :: l,h=>by
  have ih:=ZG5 p g l fun x hx=>h x (List.mem_cons_of_mem _ hx)
  cases e:p a with
  | true=>rw [List.filter_cons_of_pos e,List.flatMap_cons,List.flatMap_cons,ih]
  | false=>rw [List.filter_cons_of_neg (by simp [e]),List.flatMap_cons,ih,h a List.mem_cons_self e]; rfl
theorem ZLr{d:Nat}{P:List (List Int)}{ks:List UInt8}(hks:∀c∈ks,c=43∨c=45∨c=48)(n:Nat){t:List UInt8}(ht:∃z,ZDH d P t z) :
  sgT d P ks (n+1) t=((ks.filter (mtC (gaC d (clR P t) (P.getD t.length [])) (gaC d (clR P t) (ngL (P.getD t.length []))))).map fun c=>t ++ [c]).flatMap (sgT d P ks n):=by
 rw [List.flatMap_map]
 rw [show sgT d P ks (n+1) t=if thB d P t then ks.flatMap fun c=>sgT d P ks n (t ++ [c]) else [] from rfl,if_pos (ZGF.2 ht)]
 refine (ZG5 _ _ ks fun c hc e=>?_).symm
 refine ZQf ?_;rw [←Bool.not_eq_true,ZGF,←ZDI ht (hks c hc),e]
 decide
theorem ZDf{α β:Type}{g f:α→List β} : ∀{l:List α},(∀x∈l,g x=f x)→l.flatMap g=l.flatMap f
 | [],_=>rfl
 | a :: l,h=>by rw [List.flatMap_cons,List.flatMap_cons,h a List.mem_cons_self,ZDf fun x hx=>h x (List.mem_cons_of_mem _ hx)]
theorem ZOS{d:Nat}{P:List (List Int)} : ∀(k n:Nat),sgT d P [43,45,48] (k+n) []=(grT d P k).flatMap (sgT d P [43,45,48] n)
 | 0,n=>by simp [grT]
 | k+1,n=>by
  rw [show k+1+n=k+(n+1) by omega,ZOS k (n+1)]
  show _=((grT d P k).flatMap (grO d P (P.getD k []))).flatMap _
  rw [List.flatMap_assoc]
  refine ZDf fun t ht=>?_
  obtain ⟨hl,hz⟩:=ZFR.1 ht
  rw [ZLr (by simp) n hz,hl]
  rfl
theorem ZLs{d:Nat}{P:List (List Int)} : ∀(k n:Nat),sgT d P [43,45] (k+n) []=(ZBF d P k).flatMap (sgT d P [43,45] n)
 | 0,n=>by simp [ZBF]
 | k+1,n=>by
  rw [show k+1+n=k+(n+1) by omega,ZLs k (n+1)]
  show _=((ZBF d P k).flatMap (ZGD d P (P.getD k []))).flatMap _
  rw [List.flatMap_assoc]
  refine ZDf fun t ht=>?_
  obtain ⟨⟨hl,hz⟩,_⟩:=ZCa.1 ht
  rw [ZLr (by simp) n hz,hl]
  rfl
theorem ZEr{α:Type}{g:List α→List (List α)} : ∀{l:List (List α)},(∀x∈l,g x=[x])→l.flatMap g=l
 | [],_=>rfl
 | a :: l,h=>by rw [List.flatMap_cons,h a List.mem_cons_self,ZEr fun x hx=>h x (List.mem_cons_of_mem _ hx)]; rfl
theorem ZQg{d:Nat}{P:List (List Int)}(k:Nat):sgT d P [43,45,48] k []=grT d P k:=by
 have:=ZOS (d:=d) (P:=P) k 0;rw [Nat.add_zero] at this;rw [this]
 refine ZEr fun t ht=>?_
 unfold sgT;rw [if_pos (ZGF.2 (ZFR.1 ht).2)]
theorem ZQh{d:Nat}{P:List (List Int)}(k:Nat):sgT d P [43,45] k []=ZBF d P k:=by
 have:=ZLs (d:=d) (P:=P) k 0;rw [Nat.add_zero] at this;rw [this]
 refine ZEr fun t ht=>?_
 unfold sgT;rw [if_pos (ZGF.2 (ZCa.1 ht).1.2)]
theorem ZNb(x:List UInt8)(k:Nat)(h:k < x.length):(⟨x.toArray⟩:ByteArray).extract k (k+1)=⟨#[x.getD k 0]⟩:=by
 apply ByteArray.ext
 simp only [ByteArray.data_extract]
 apply Array.ext
 ·simp; omega
 ·intro i b a
  have:i=0:=by simp at a; omega
  subst this;simp [h]
theorem ZI4(a b:List (List UInt8)):ZAc (a ++ b)=ZAc a ++ ZAc b:=by simp [ZAc]
theorem ZNc(a:List (List UInt8)):∀u∈ZAc a,u.oneCell'=true:=fun u hu=>by
 simp only [ZAc,List.mem_map] at hu;obtain ⟨t,_,rfl⟩:=hu;rfl
theorem ZEs(d:Nat)(P:List (List Int))(ks:List UInt8)(KB:ByteArray)(v:Value)(hP:∀p∈P,p.length=d+1∧∀z∈p,z.natAbs≤3)(hd1:1≤d)(hd3:d≤3)(hP8:P.length≤6)(hks:∀c∈ks,c=43∨c=45∨c=48)(hk3:ks.length≤3)(hsm:(∀c∈ks,c=43∨c=45)∨P.length≤4)(hKB:KB=⟨ks.toArray⟩) :
  ∀(n:Nat) (h:List UInt8) (HB:ByteArray) (w:World),h.length+n=P.length→(∀c∈h,c∈ks)→HB=⟨h.toArray⟩→Mat 0 22 3 w v P→
  Calls Tryz.prog 9 #[.int .i64 d,v,.string KB,.string HB] w fun e w'=>∃x,e=.returned x∧w'.ownsRow w.heap.size 9 1 x (sgT d P ks n h).length (ZAc (sgT d P ks n h))∧Below w.heap.size w w':=by
 intro n
 induction n with
 | zero=>
  intro h HB w hn V a hv;obtain ⟨ro,X,U,aD,aA⟩:=ZAE hv;subst U
  have A:(thT P h h.length).length≤8:=by
   rcases hsm with q | q
   ·rw [ZH0 h.length (Za4 _) fun c hc=>q c (V c hc)]; omega
   ·have:=ZGA P h h.length; omega
  have y:Hid (Calls Tryz.prog 26 #[.int .i64 d,.slice ro P.length X,.string HB] w fun e w'=>e=.returned (.bool (thB d P h))∧Below w.heap.size w w'):=ZG4 d P h _ HB w hv hP hd1 hd3 (by omega) (fun c hc=>hks c (V c hc)) A (by omega) a
  have aP:HB.size=P.length:=by rw [a]; show h.length=_; omega
  have m:Hid (sgT d P ks 0 h=if thB d P h then [h] else []):=rfl
  have aF:=hid a;generalize sgT d P ks 0 h=L at *;clear hv A a;go_enter Tryz.func9,Tryz.ntmps9
  go_wp2_with fail
  refine y.out.mono ?_;rintro e w1 ⟨rfl,l⟩;have B:=hid l;have J:w.heap.size≤w1.heap.size:=l.size;clear l y
  cases htb:thB d P h with
  | false=>
   rw [htb] at m;go_wp2;go_ret;refine ⟨_,rfl,?_,B.out⟩;have e:L=[]:=m.out;rw [e];exact World.ownsRow_nil _ _ _ _
  | true=>
   rw [htb] at m;go_wp2;go_ret;refine ⟨_,rfl,?_,B.out.alloc J _⟩;have e:L=[h]:=m.out;rw [e]
   show World.ownsRow _ _ _ _ _ 1 [.string ⟨h.toArray⟩]
   rw [←aF.out]
   exact ⟨rfl,.inr ⟨w1.heap.size,1,#[.string HB],rfl,J,heap_alloc_new w1 _,Za4 _,by decide,rfl,rfl⟩⟩
 | succ n ih=>
  intro h HB w hn V a hv;obtain ⟨i0,hi,az,aB,aE⟩:=info_parts ZF4;obtain ⟨ro,X,U,aD,aA⟩:=ZAE hv;subst U
  have A:(thT P h h.length).length≤8:=by
   rcases hsm with q | q
   ·rw [ZH0 h.length (Za4 _) fun c hc=>q c (V c hc)]; omega
   ·have:=ZGA P h h.length; omega
  have y:Hid (Calls Tryz.prog 26 #[.int .i64 d,.slice ro P.length X,.string HB] w fun e w'=>e=.returned (.bool (thB d P h))∧Below w.heap.size w w'):=ZG4 d P h _ HB w hv hP hd1 hd3 (by omega) (fun c hc=>hks c (V c hc)) A (by omega) a
  have aw:HB.size=h.length:=by rw [a]; rfl
  have ai:KB.size=ks.length:=by rw [hKB]; rfl
  have m:Hid (sgT d P ks (n+1) h=if thB d P h then ks.flatMap fun c=>sgT d P ks n (h ++ [c]) else []):=rfl
  have s:Hid (∀(j:Nat) (W:World),j < ks.length→Below w.heap.size w W→Calls Tryz.prog 9 #[.int .i64 d,.slice ro P.length X,.string KB,.string (HB ++ KB.extract j (j+1))] W fun e w'=>∃o r,e=.returned (.slice o (sgT d P ks n (h ++ [ks.getD j 0])).length r)∧Sl 0 9 w' (.slice o (sgT d P ks n (h ++ [ks.getD j 0])).length r) (ZAc (sgT d P ks n (h ++ [ks.getD j 0])))∧Below W.heap.size W w'):=fun j W Y hW=>by
   refine (ih (h ++ [ks.getD j 0]) (HB ++ KB.extract j (j+1)) W (by simp; omega) (fun c hc=>?_) (by rw [hKB,ZNb ks j Y,a,ZHt]) (hv.below hW (Za4 _))).mono ?_
   ·rcases List.mem_append.1 hc with q | q
    ·exact V c q
    ·rw [List.mem_singleton.1 q]; exact ZQa Y
   rintro e w' ⟨x,rfl,ho,hb⟩;obtain ⟨o,r,rfl⟩:=ZAD ho;exact ⟨o,r,rfl,Sl.own ho,hb⟩
  have am:Hid (∀j,(sgT d P ks n (h ++ [ks.getD j 0])).length≤729∧((ks.take j).flatMap fun c=>sgT d P ks n (h ++ [c])).length≤2187):=fun j=>by
   have hp:3 ^ n≤3 ^ 6:=Nat.pow_le_pow_right (by decide) (by omega)
   refine ⟨Zaa8 (ZH4 hk3 n _) hp,?_⟩
   have h1:=ZB9 (g:=fun c=>sgT d P ks n (h ++ [c])) (b:=729) (ks.take j) fun c _=>Zaa8 (ZH4 hk3 n _) hp
   have h2:(ks.take j).length≤3:=by rw [List.length_take]; omega
   have h3:(ks.take j).length*729≤3*729:=Nat.mul_le_mul_right _ h2;omega
  have O:Hid (∀j,j < ks.length→((ks.take (j+1)).flatMap fun c=>sgT d P ks n (h ++ [c]))=((ks.take j).flatMap fun c=>sgT d P ks n (h ++ [c])) ++ sgT d P ks n (h ++ [ks.getD j 0])):=fun j Y=>by
   rw [Zaa1 Y,List.flatMap_append];simp [Y]
  have M:Hid (((ks.take ks.length).flatMap fun c=>sgT d P ks n (h ++ [c]))=ks.flatMap fun c=>sgT d P ks n (h ++ [c])):=by show _=_; rw [List.take_length]
  obtain ⟨hl,ae⟩:∃hl,hl=h.length:=⟨_,rfl⟩
  rw [←ae] at aw
  have aM:((hl:Int) == (P.length:Int))=false:=by
   rw [beq_eq_false_iff_ne]; omega
  have aL:hl≤6:=by omega
  obtain ⟨E,aj⟩:∃E,E=ks.length:=⟨_,rfl⟩
  rw [←aj] at ai s O M hk3;generalize sgT d P ks (n+1) h=L at *
  obtain ⟨F,hF⟩:∃F:Nat→List (List UInt8),F=fun j=>(ks.take j).flatMap fun c=>sgT d P ks n (h ++ [c]):=⟨_,rfl⟩
  obtain ⟨G,hG⟩:∃G:Nat→List (List UInt8),G=fun j=>sgT d P ks n (h ++ [ks.getD j 0]):=⟨_,rfl⟩
  have Q:Hid (∀(j:Nat) (W:World),j < E→Below w.heap.size w W→Calls Tryz.prog 9 #[.int .i64 d,.slice ro P.length X,.string KB,.string (HB ++ KB.extract j (j+1))] W fun e w'=>∃o r,e=.returned (.slice o (G j).length r)∧Sl 0 9 w' (.slice o (G j).length r) (ZAc (G j))∧Below W.heap.size W w'):=by rw [hG]; exact s.out
  have ar:Hid (∀j,(G j).length≤729∧(F j).length≤2187):=by rw [hF,hG]; exact am.out
  have ay:Hid (∀j,j < E→F (j+1)=F j ++ G j):=by rw [hF,hG]; exact O.out
  have aJ:Hid (F 0=[]):=by rw [hF]; rfl
  have t:Hid (L=if thB d P h then F E else []):=by show _=_; rw [m.out,←M.out,hF]
  clear hv A a hKB s am O M m hF hG aj ae ih hn V hP hks hsm;go_enter Tryz.func9,Tryz.ntmps9
  go_wp2_with fail
  refine y.out.mono ?_;rintro e w1 ⟨rfl,l⟩;have B:=hid l;have J:w.heap.size≤w1.heap.size:=l.size;clear l y
  cases htb:thB d P h with
  | false=>
   rw [htb] at t;go_wp2;go_ret;refine ⟨_,rfl,?_,B.out⟩;have e:L=[]:=t.out;rw [e];exact World.ownsRow_nil _ _ _ _
  | true=>
   rw [htb] at t;have aG:Hid (L=F E):=t.out;clear t;go_wp2
   go_loopw [9,10] (fun x i wr=>∃j:Nat,j≤E∧i=.int .i64 j∧wr.ownsRow w.heap.size 9 1 x (F j).length (ZAc (F j))∧Below w.heap.size w wr) (fun _ i _=>E-(intOf i).toNat)
   case atStart=>exact ⟨0,Za5 _,rfl,by rw [aJ.out]; exact World.ownsRow_nil _ _ _ _,B.out⟩
   case round=>
    obtain ⟨j,Y,rfl,aa,D⟩:=hrel
    obtain ⟨T,rfl⟩:∃T,T=wr:=⟨_,rfl⟩
    have HO:=hid aa;have R:=hid D;have ah:w.heap.size≤T.heap.size:=D.size;clear aa D
    by_cases hlt:j < E
    ·have aO:j < KB.size:=by omega
     have aN:(j:Int) < (E:Int):=by omega
     have aK:(0:Int)≤(j:Int):=by omega
     have af:Hid (Calls Tryz.prog 9 #[.int .i64 d,.slice ro P.length X,.string KB,.string (HB ++ KB.extract j (j+1))] T fun e w'=>∃o r,e=.returned (.slice o (G j).length r)∧Sl 0 9 w' (.slice o (G j).length r) (ZAc (G j))∧Below T.heap.size T w'):=Q.out j T hlt R.out
     have ak:=ay.out j hlt;have aI:=hid ak;have aH:=ar.out j;obtain ⟨aQ,aR⟩:=aH;clear ak;generalize G j=g at *;generalize F j=f at *
     go_wp2_with fail
     refine af.out.mono ?_;rintro e w2 ⟨o,r,rfl,an,S⟩;have aq:Hid (Below w.heap.size w w2):=R.out.trans (S.mono ah);have N:Hid (w2.ownsRow w.heap.size 9 1 u9 f.length (ZAc f)):=ZAN HO.out S (Za4 _);have au:=hid an;have ag:w.heap.size≤w2.heap.size:=aq.out.size;clear an S af HO
     go_wp2_with (first | (at_builtin; refine ZDF rfl _ _ 31 rfl w.heap.size 9 i0 (.string ⟨#[]⟩) 16 (by kernel_rfl) hi az aB aE rfl _ _ _ rfl N.out o g.length r (ZAc g) rfl au.out (ZNc _) ?d3 ?d4 ?d5 ?_))
     case d3=>unfold maxLen; omega
     case d4=>omega
     case d5=>first | omega | (simp; omega)
     intro x6 w3 ho hg
     have R1:Hid (w3.ownsRow w.heap.size 9 1 x6 (F (j+1)).length (ZAc (F (j+1)))):=by
      show World.ownsRow _ _ _ _ _ _ _
      rw [aI.out,ZI4,Zaa4];exact ho
     have R2:Hid (Below w.heap.size w w3):=aq.out.grown hg ag (fun x hx=>(N.out.lt x hx).1)
     clear ho hg N au;go_wp2
     exact ⟨⟨j+1,by omega,by go_num,R1.out,R2.out⟩,by simp [intOf]; omega⟩
    ·have aC:j=E:=by omega
     subst aC;go_wp2;go_ret
     exact ⟨_,rfl,by rw [aG.out]; exact HO.out,R.out⟩
end Go.Proofs.YtgfnmkenpgnllaaGreat
