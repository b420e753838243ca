import Derived.Test.YtkjkfceblmgogaaGreatEzB
set_option maxRecDepth 100000
set_option maxHeartbeats 4000000
namespace Go.Proofs.YtkjkfceblmgogaaGreat
open Go.RowKit Lin
attribute [local go_sem ↓] Go.wp_at_zero Go.wp_at_succ
open Classical in
noncomputable def thB(d:Nat)(P:List (List Int))(s:List UInt8):Bool:=decide (∃z,ZC0 d P s z)
theorem ZQ6{w W w3:World}{x u y v':Value}{m:List (List Int)}{vs:List Value}{zs ys:List Int}(hb:Below w.heap.size w W)(g1:vs.length=m.length)(g2:W.ownsRow w.heap.size 27 1 x m.length vs)(g3:∀i,i < m.length→Sl 0 3 W (vs.getD i (.slice none 0 0)) (ZAB (m.getD i [])))(hu:Sl 0 3 W u (ZAB zs))(hy:Sl 0 3 W y (ZAB ys))
 (ho:w3.ownsRow w.heap.size 27 1 v' (m.length+2) (vs ++ [u,y]))(hg:(W.alloc (.cells #[u,y] 27)).grownBy w3 x.ownBlock):Fr w.heap.size 27 3 w3 v' (m ++ [zs,ys])∧Below w.heap.size w w3:=by
 have b:∀k,x.ownBlock=some k→0≤k∧∀cur,(W.alloc (.cells #[u,y] 27)).heap[k]?≠some (.cells cur 3 (0,0)):=fun k hk=>⟨Za5 _,(ZAt (g2.alloc (.cells #[u,y] 27)) (by decide) k hk).2⟩
 refine ⟨⟨vs ++ [u,y],by simp [g1],by simpa using ho,fun i hi=>?_⟩,(hb.alloc hb.size _).grown hg (by have:=hb.size; simp; omega) (fun x hx=>(g2.lt x hx).1)⟩
 have d:i < m.length+2:=by simpa using hi
 by_cases hlt:i < m.length
 ·have a:(vs ++ [u,y]).getD i (.slice none 0 0)=vs.getD i (.slice none 0 0):=by
   simp only [Za2]; rw [Za7 (by omega)]
  have c:(m ++ [zs,ys]).getD i []=m.getD i []:=by
   simp only [Za2]; rw [Za7 (by omega)]
  rw [a,c];exact ((g3 i hlt).alloc _).grown hg b
 ·have a:(vs ++ [u,y]).getD i (.slice none 0 0)=[u,y].getD (i-m.length) (.slice none 0 0):=by
   simp only [Za2]; rw [Za8 (by omega),g1]
  have c:(m ++ [zs,ys]).getD i []=[zs,ys].getD (i-m.length) []:=by
   simp only [Za2]; rw [Za8 (by omega)]
  rw [a,c]
  have:i-m.length=0∨i-m.length=1:=by omega
  rcases this with h | h <;> rw [h]
  ·exact (hu.alloc _).grown hg b
  ·exact (hy.alloc _).grown hg b
theorem ZPy(u y:Value)(a b:Option Addr)(n m c e:Nat)(hu:u=.slice a n c)(hy:y=.slice b m e):∀v∈[u,y],v.oneCell'=true:=fun v hv=>by
 rcases List.mem_cons.1 hv with rfl | hv
 ·rw [hu]; rfl
 ·rw [List.mem_singleton.1 hv,hy]; rfl
theorem ZPz(w:World)(u y:Value)(e:TypeId):∀j v,([u,y]:List Value)[j]?=some v→(w.alloc (.cells #[u,y] e)).cell? ((⟨w.heap.size,0,none⟩:Addr).add j)=some v:=fun j v h=>by
 have b:=heap_alloc_new w (.cells #[u,y] e)
 have:j=0∨j=1∨2≤j:=by omega
 rcases this with rfl | rfl | hj
 ·have hv:u=v:=by simpa using h
  subst hv
  have a:((⟨w.heap.size,0,none⟩:Addr).add 0)=⟨w.heap.size,0,none⟩:=by simp [Addr.add]
  rw [a]; unfold World.cell?; rw [b]; rfl
 ·have hv:y=v:=by simpa using h
  subst hv
  have a:((⟨w.heap.size,0,none⟩:Addr).add 1)=⟨w.heap.size,1,none⟩:=by simp [Addr.add]
  rw [a]; unfold World.cell?; rw [b]; rfl
 ·rw [Zaa6 (by simpa using hj)] at h
  cases h
theorem ZP0(p:List Int):((p ++ [0]).map fun z=>-z)=ngL p ++ [0]:=by simp [ngL]
theorem ZJF(p:List Int)(k:Nat)(h:p.length=k)(a z:Int):(p ++ [a]).set k z=p ++ [z]:=by
 rw [←h,List.set_append_right _ _ (Za4 _)];simp
theorem ZHG{B0:Nat}(d:Nat)(P:List (List Int))(s:List UInt8)(v:Value)(SB:ByteArray)(w:World)(hv:Mat B0 27 3 w v P)(hP:∀p∈P,p.length=d+1∧∀z∈p,z.natAbs≤20)(hd1:1≤d)(hd3:d≤3)(hsl:s.length≤P.length)(hs:Chs s)(hn:(thT P s s.length).length≤8)(h10:s.length≤10)(hSB:SB=⟨s.toArray⟩) :
  Calls Tryz.prog 21 #[.int .i64 d,v,.string SB] w fun e w'=>e=.returned (.bool (thB d P s))∧Below w.heap.size w w':=by
 obtain ⟨i0,hi,aT,aS,aC⟩:=info_parts Tryz.info27;obtain ⟨i3,bP,bD,bg,bE⟩:=info_parts Tryz.info3;obtain ⟨ro,rc,bQ,cF,cK⟩:=ZAD hv;subst bQ;have HV:Hid (Mat B0 27 3 w (.slice ro P.length rc) P):=hv
 have ai:Hid (EaI d d (∃z,ZC0 d P s z) (thT P s s.length)):=EaI.start (fun i hi=>hP _ (by rw [Za2,Za9 (show i < P.length by omega)]; exact List.getElem_mem _)) hs hn
 have HP:=hid hP;have HS:=hid hs
 have bR:SB.size=s.length:=by rw [hSB]; rfl
 have bL:=hid hSB
 obtain ⟨n,aW⟩:∃n,n=s.length:=⟨_,rfl⟩
 rw [←aW] at ai bR hsl h10;have HN:=hid aW
 obtain ⟨D,hD⟩:∃D:Prop,D=∃z,ZC0 d P s z:=⟨_,rfl⟩
 rw [←hD] at ai
 have aD:Hid ((D→thB d P s=true)∧(¬D→thB d P s=false)):=by
  rw [hD]
  refine ⟨fun h=>?_,fun h=>?_⟩ <;> simp [thB,h]
 clear hv hP hs hn hSB aW hD;generalize thB d P s=tb at *;go_enter Tryz.func21,Tryz.ntmps21;go_wp2
 go_loopw [7,8] (fun x i wr=>∃k:Nat,k≤n∧i=.int .i64 k∧Fr w.heap.size 27 3 wr x (thT P s k)∧Below w.heap.size w wr) (fun _ i _=>n-(intOf i).toNat)
 case atStart=>exact ⟨0,Za5 _,rfl,Fr.nil _ _ _ _,Below.refl _ _⟩
 case round=>
  obtain ⟨k,hk,rfl,Q,a⟩:=hrel
  obtain ⟨g,rfl⟩:∃g,g=wr:=⟨_,rfl⟩
  have HB:=hid a;have HF:=hid Q;have aj:w.heap.size≤g.heap.size:=a.size
  by_cases hlt:k < n
  ·have c:Hid (thT P s (k+1)=thT P s k ++ thR (P.getD k []) (s.getD k 0)):=ZGJ P s k
   have cj:(thT P s k).length≤20:=by have:=ZGK P s k; omega
   obtain ⟨b,o,cp,pv,hs,_,aU,aA⟩:=ZAP HV.out (show k < P.length by omega)
   simp only [Za3] at hs;obtain ⟨rfl,-,rfl⟩:=hs
   have aE:P.getD k []∈P:=by rw [Za2,Za9 (show k < P.length by omega)]; exact List.getElem_mem _
   have bN:s.getD k 0=43∨s.getD k 0=45∨s.getD k 0=48:=HS.out _ (ZQ2 (by rw [←HN.out]; exact hlt))
   have cI:k < SB.size:=by omega
   have aH:SB[k]=s.getD k 0:=by
    have hx:k < s.length:=by rw [←HN.out]; exact hlt
    simp only [bL.out]
    show s.toArray[k]'(by simpa using hx)=_
    simp [hx]
   obtain ⟨p,hp⟩:∃p,p=P.getD k []:=⟨_,rfl⟩
   rw [←hp] at aA aE c;clear hp;obtain ⟨ar,bh⟩:=HP.out p aE;obtain ⟨po,pc,bq,_,_⟩:=ZAI aA;rw [ar] at bq;subst bq;have aV:g.cell? ⟨b,o+k,none⟩=some (.slice po (d+1) pc):=(a.cell (ZAH aU)).trans aU
   have aZ:Hid (Calls Tryz.prog 22 #[.slice po (d+1) pc] g fun e w'=>∃uo uc,e=.returned (.slice uo (d+1) uc)∧w'.ownsRow g.heap.size 3 1 (.slice uo (d+1) uc) (d+1) (ZAB p)∧Below g.heap.size g w'):=by
    refine (ZBj _ p _ g (aA.below a (Za4 _)) (by omega)).mono ?_
    rintro e w' ⟨u,rfl,j,hb⟩;rw [ar] at j;obtain ⟨uo,uc,rfl⟩:=ZAE j;exact ⟨uo,uc,rfl,j,hb⟩
   have T:Hid (p.length=d+1∧∀z∈p,z.natAbs≤20):=⟨ar,bh⟩
   have cH:(k:Int) < (n:Int):=by omega
   have bZ:(k:Int) < (P.length:Int):=by omega
   have cg:(0:Int)≤(k:Int):=by omega
   clear a Q aA aU aE ar bh;generalize thT P s k=A at *
   go_wp2_with fail
   refine aZ.out.mono ?_;rintro e w1 ⟨uo,uc,rfl,bk,aO⟩;have aL:=hid bk;have bj:=hid aO;have bu:g.heap.size≤w1.heap.size:=aO.size;clear bk aO aZ aV
   go_wp2_with (first | (at_builtin; refine wpList_append_own _ rfl _ _ 27 rfl g.heap.size 3 i3 (.int .i64 0) 1 8 Tryz.underlying27 bP bD bg bE rfl (by decide) _ _ _ rfl (aL.out.alloc _) ⟨w1.heap.size,0,none⟩ 1 1 [.int .i64 0] rfl rfl (ZAS _ _ _) (ZA6 _) ?d3 ?d4 ?d5 ?_))
   case d3=>unfold maxLen; omega
   case d4=>omega
   case d5=>first | omega | (simp; omega)
   intro x2 w2 aF bC _;obtain ⟨vo,vc,bw⟩:=ZAE aF;subst bw
   have aR:Hid (Below g.heap.size g w2):=(bj.out.alloc bu _).grown bC (by simp; omega) (fun x hx=>(aL.out.lt x hx).1)
   have aN:Hid (w2.ownsRow g.heap.size 3 1 (.slice vo (d+1+1) vc) (d+1+1) (ZAB (p ++ [0]))):=by
    show World.ownsRow _ _ _ _ _ _ _
    simpa [ZAB] using aF
   have af:g.heap.size≤w2.heap.size:=aR.out.size
   have bl:Hid (Calls Tryz.prog 23 #[.slice vo (d+1+1) vc] w2 fun e w'=>∃mo U,e=.returned (.slice mo (d+1+1) U)∧w'.ownsRow w2.heap.size 3 1 (.slice mo (d+1+1) U) (d+1+1) (ZAB (ngL p ++ [0]))∧Below w2.heap.size w2 w'):=by
    have hl:(p ++ [0]).length=d+1+1:=by simp [T.out.1]
    refine (ZBq 0 (p ++ [0]) _ w2 (Sl.own aN.out) (by omega) (fun z hz=>?_)).mono ?_
    ·rcases List.mem_append.1 hz with h | h
     ·have:=T.out.2 z h; omega
     ·rw [List.mem_singleton.1 h]; omega
    rintro e w' ⟨u,rfl,j,hb⟩;rw [hl,ZP0] at j;obtain ⟨mo,U,rfl⟩:=ZAE j;exact ⟨mo,U,rfl,j,hb⟩
   clear aF bC aL bj
   go_wp2_with fail
   refine bl.out.mono ?_;rintro e E ⟨mo,U,rfl,bi,ah⟩;have X:Hid (Below g.heap.size g E):=aR.out.trans (ah.mono af);have O:Hid (SlN g.heap.size E (.slice vo (d+1+1) vc) (ZAB (p ++ [0]))):=(SlN.own aN.out).below ah (Za4 _);have R:Hid (SlN g.heap.size E (.slice mo (d+1+1) U) (ZAB (ngL p ++ [0]))):=(SlN.own bi).mono af;have bX:g.heap.size≤E.heap.size:=X.out.size
   have aP:Hid ((ngL p).length=d+1):=by show _=_; rw [ZGL]; exact T.out.1
   clear bi ah bl aN aR af
   have cJ:(d:Int)+1 < (d:Int)+1+1:=by omega
   have bV:(0:Int)≤(d:Int)+1:=by omega
   rcases bN with hc | hc | hc
   ·rw [hc] at aH c
    have Y:Hid (thT P s (k+1)=A ++ [ngL p ++ [1]]):=c.out
    obtain ⟨F,G,bM,ae,_,_⟩:=ZAK R.out.1 (k:=d+1) (by simp [aP.out])
    simp only [Za3] at ae;obtain ⟨rfl,-,rfl⟩:=ae
    obtain ⟨⟨qv,aQ⟩,aG,ak,M⟩:=R.out.put (k:=d+1) (by simp [aP.out]) 1
    rw [ZJF _ _ aP.out] at M;have L:Hid (Below g.heap.size g (E.setCell ⟨F,G+(d+1),none⟩ (.int .i64 1))):=X.out.setCell ak _;have l:Hid (Below w.heap.size w (E.setCell ⟨F,G+(d+1),none⟩ (.int .i64 1))):=HB.out.trans (L.out.mono aj);obtain ⟨vs,g1,V,g3⟩:=HF.out.below L.out (Za4 _);have G2:=hid V
    have J:Hid (∀v' f,f.ownsRow w.heap.size 27 1 v' (A.length+1) (vs ++ [.slice (some ⟨F,G,none⟩) (d+1+1) U])→((E.setCell ⟨F,G+(d+1),none⟩ (.int .i64 1)).alloc (.cells #[.slice (some ⟨F,G,none⟩) (d+1+1) U] 27)).grownBy f u7.ownBlock→Fr w.heap.size 27 3 f v' (A ++ [ngL p ++ [1]])∧Below w.heap.size w f):=fun v' f j N=>ZCX l.out g1 V g3 M.1 j N
    have aa:Hid (w.heap.size≤(E.setCell ⟨F,G+(d+1),none⟩ (.int .i64 1)).heap.size):=l.out.size;clear g1 V g3 ak M hc c O R L l
    go_wp2_with (first | (at_builtin; refine wpList_append_own _ rfl _ _ 22 rfl w.heap.size 27 i0 (.slice none 0 0) 1 24 Tryz.underlying22 hi aT aS aC rfl (by decide) _ _ _ rfl (G2.out.alloc _) ⟨(E.setCell ⟨F,G+(d+1),none⟩ (.int .i64 1)).heap.size,0,none⟩ 1 1 [.slice (some ⟨F,G,none⟩) (d+1+1) U] (by simp; rfl) rfl (ZAS _ _ _) (ZAM _ _ _) ?d3 ?d4 ?d5 ?_))
    case d3=>unfold maxLen; omega
    case d4=>omega
    case d5=>have:=aa.out; simp at this ⊢; omega
    intro x6 f j N _;obtain ⟨q1,q2⟩:=J.out x6 f j N
    have R1:Hid (Fr w.heap.size 27 3 f x6 (thT P s (k+1))):=by show Fr _ _ _ _ _ _; rw [Y.out]; exact q1
    have R2:=hid q2;clear q1 q2 j N J G2 aQ aG;go_wp2
    exact ⟨⟨k+1,by omega,by go_num,R1.out,R2.out⟩,by simp [intOf]; omega⟩
   ·rw [hc] at aH c
    have Y:Hid (thT P s (k+1)=A ++ [p ++ [1]]):=c.out
    obtain ⟨F,G,bM,ae,_,_⟩:=ZAK O.out.1 (k:=d+1) (by simp [T.out.1])
    simp only [Za3] at ae;obtain ⟨rfl,-,rfl⟩:=ae
    obtain ⟨⟨qv,aQ⟩,aG,ak,M⟩:=O.out.put (k:=d+1) (by simp [T.out.1]) 1
    rw [ZJF _ _ T.out.1] at M;have L:Hid (Below g.heap.size g (E.setCell ⟨F,G+(d+1),none⟩ (.int .i64 1))):=X.out.setCell ak _;have l:Hid (Below w.heap.size w (E.setCell ⟨F,G+(d+1),none⟩ (.int .i64 1))):=HB.out.trans (L.out.mono aj);obtain ⟨vs,g1,V,g3⟩:=HF.out.below L.out (Za4 _);have G2:=hid V
    have J:Hid (∀v' f,f.ownsRow w.heap.size 27 1 v' (A.length+1) (vs ++ [.slice (some ⟨F,G,none⟩) (d+1+1) vc])→((E.setCell ⟨F,G+(d+1),none⟩ (.int .i64 1)).alloc (.cells #[.slice (some ⟨F,G,none⟩) (d+1+1) vc] 27)).grownBy f u7.ownBlock→Fr w.heap.size 27 3 f v' (A ++ [p ++ [1]])∧Below w.heap.size w f):=fun v' f j N=>ZCX l.out g1 V g3 M.1 j N
    have aa:Hid (w.heap.size≤(E.setCell ⟨F,G+(d+1),none⟩ (.int .i64 1)).heap.size):=l.out.size;clear g1 V g3 ak M hc c O R L l
    go_wp2_with (first | (at_builtin; refine wpList_append_own _ rfl _ _ 22 rfl w.heap.size 27 i0 (.slice none 0 0) 1 24 Tryz.underlying22 hi aT aS aC rfl (by decide) _ _ _ rfl (G2.out.alloc _) ⟨(E.setCell ⟨F,G+(d+1),none⟩ (.int .i64 1)).heap.size,0,none⟩ 1 1 [.slice (some ⟨F,G,none⟩) (d+1+1) vc] (by simp; rfl) rfl (ZAS _ _ _) (ZAM _ _ _) ?d3 ?d4 ?d5 ?_))
    case d3=>unfold maxLen; omega
    case d4=>omega
    case d5=>have:=aa.out; simp at this ⊢; omega
    intro x6 f j N _;obtain ⟨q1,q2⟩:=J.out x6 f j N
    have R1:Hid (Fr w.heap.size 27 3 f x6 (thT P s (k+1))):=by show Fr _ _ _ _ _ _; rw [Y.out]; exact q1
    have R2:=hid q2;clear q1 q2 j N J G2 aQ aG;go_wp2
    exact ⟨⟨k+1,by omega,by go_num,R1.out,R2.out⟩,by simp [intOf]; omega⟩
   ·rw [hc] at aH c
    have Y:Hid (thT P s (k+1)=A ++ [p ++ [0],ngL p ++ [0]]):=c.out;have l:Hid (Below w.heap.size w E):=HB.out.trans (X.out.mono aj);obtain ⟨vs,g1,V,g3⟩:=HF.out.below X.out (Za4 _);have G2:=hid V
    have J:Hid (∀v' f,f.ownsRow w.heap.size 27 1 v' (A.length+2) (vs ++ [.slice vo (d+1+1) vc,.slice mo (d+1+1) U])→(E.alloc (.cells #[.slice vo (d+1+1) vc,.slice mo (d+1+1) U] 27)).grownBy f u7.ownBlock→Fr w.heap.size 27 3 f v' (A ++ [p ++ [0],ngL p ++ [0]])∧Below w.heap.size w f):=fun v' f j N=>ZQ6 l.out g1 V g3 O.out.1 R.out.1 j N
    have cd:w.heap.size≤E.heap.size:=l.out.size;clear g1 V g3 hc c O R
    go_wp2_with (first | (at_builtin; refine wpList_append_own _ rfl _ _ 22 rfl w.heap.size 27 i0 (.slice none 0 0) 1 24 Tryz.underlying22 hi aT aS aC rfl (by decide) _ _ _ rfl (G2.out.alloc _) ⟨E.heap.size,0,none⟩ 2 2 [.slice vo (d+1+1) vc,.slice mo (d+1+1) U] rfl rfl (ZPz _ _ _ _) (ZPy _ _ _ _ _ _ _ _ rfl rfl) ?d3 ?d4 ?d5 ?_))
    case d3=>unfold maxLen; omega
    case d4=>omega
    case d5=>first | omega | (simp; omega)
    intro x6 f j N _;obtain ⟨q1,q2⟩:=J.out x6 f j N
    have R1:Hid (Fr w.heap.size 27 3 f x6 (thT P s (k+1))):=by show Fr _ _ _ _ _ _; rw [Y.out]; exact q1
    have R2:=hid q2;clear q1 q2 j N J G2;go_wp2
    exact ⟨⟨k+1,by omega,by go_num,R1.out,R2.out⟩,by simp [intOf]; omega⟩
  ·have bK:k=n:=by omega
   subst bK
   have aM:Hid (Fr w.heap.size 27 3 g u7 (thT P s s.length)):=by have:=HF.out; rw [HN.out] at this; exact this
   clear a Q HF
   obtain ⟨m0,aw⟩:∃m0,m0=thT P s s.length:=⟨_,rfl⟩
   rw [←HN.out] at aw;rw [←HN.out,←aw] at aM;rw [←aw] at ai;clear aw;go_wp2
   go_loopw [7,11] (fun x i wr=>∃(q:Nat) (m:List (List Int)),q≤d∧i=.int .i64 ((q:Int)-1)∧Fr w.heap.size 27 3 wr x m∧EaI d q D m∧Below w.heap.size w wr) (fun _ i _=>(intOf i+1).toNat)
   case atStart=>exact ⟨d,m0,Za4 _,rfl,aM.out,ai.out,HB.out⟩
   case round=>
    clear aM ai HB;obtain ⟨q,m,hq,rfl,Q,aY,a⟩:=hrel
    obtain ⟨wb,rfl⟩:∃wb,wb=wr:=⟨_,rfl⟩
    have ay:=hid a;have au:=hid Q;have S:=hid aY;have aB:w.heap.size≤wb.heap.size:=a.size;clear Q aY a
    by_cases hq0:1≤q
    ·obtain ⟨y,bS⟩:∃y,q=y+1:=⟨q-1,by omega⟩
     subst bS
     have bv:(((y+1:Nat):Int)-1)=(y:Int):=by omega
     rw [bv]
     have bA:Hid (Calls Tryz.prog 41 #[u7,.int .i64 y] wb fun e w'=>∃x s,e=.returned x∧Fr w.heap.size 27 3 w' x s∧EaI d y D s∧Below w.heap.size w w'):=by
      have h:=S.out
      have hj:d-(y+1)≤2:=by omega
      have ah:bdE (d-(y+1))≤2000000:=by
       have:d-(y+1)=0∨d-(y+1)=1∨d-(y+1)=2:=by omega
       rcases this with e | e | e <;> rw [e] <;> decide
      have bG:lnE (d-(y+1))≤4096:=by
       have:d-(y+1)=0∨d-(y+1)=1∨d-(y+1)=2:=by omega
       rcases this with e | e | e <;> rw [e] <;> decide
      refine (ZL6 (y+2) y m u7 wb (ZCw au.out) (fun r hr=>⟨h.len r hr,fun z hz=>Zaa8 (h.bd r hr z hz) ah⟩) rfl (by omega) (Zaa8 h.n bG)).mono ?_
      rintro e w' ⟨x,s,rfl,h1,h2,h3,h4⟩
      exact ⟨x,s,rfl,h1.mono aB,h.next (by omega) hd3 h2 h3,ay.out.trans (h4.mono aB)⟩
     have bY:(0:Int)≤(y:Int):=by omega
     clear bv au S
     go_wp2_with fail
     refine bA.out.mono ?_;rintro e w2 ⟨x,s2,rfl,h1,h2,h3⟩;have HH:Hid (Fr w.heap.size 27 3 w2 x s2∧EaI d y D s2∧Below w.heap.size w w2):=⟨h1,h2,h3⟩;clear h1 h2 h3 bA;go_wp2
     exact ⟨⟨y,s2,by omega,by go_num,HH.out.1,HH.out.2.1,HH.out.2.2⟩,by first | (simp [intOf]; done) | (simp [intOf]; omega)⟩
    ·have bz:q=0:=by omega
     subst bz;have aK:Hid ((m.any edB=false)↔D):=S.out.fin
     have bF:Hid (∀r∈m,r.length=2):=S.out.len
     have cC:m.length≤16777216:=by
      refine Zaa8 S.out.n ?_;rw [Nat.sub_zero]
      have:d=1∨d=2∨d=3:=by omega
      rcases this with e | e | e <;> rw [e] <;> decide
     obtain ⟨xo,xc,bO,cD,cq⟩:=ZCW au.out;subst bO;clear S hq hq0;go_wp2
     go_loopw [12] (fun i wr=>∃t:Nat,t≤m.length∧i=.int .i64 t∧(m.take t).any edB=false∧wr=wb) (fun i _=>m.length-(intOf i).toNat)
     case atStart=>exact ⟨0,Za5 _,rfl,rfl,rfl⟩
     case round=>
      obtain ⟨t,ht,rfl,bB,bH⟩:=hrel;subst bH;have aX:=hid bB;clear bB
      by_cases hlt2:t < m.length
      ·obtain ⟨b2,o2,cG,rv,hs,_,cA,aq⟩:=ZAP (au.out.rws.mat (Za4 _)) hlt2
       simp only [Za3] at hs;obtain ⟨rfl,-,rfl⟩:=hs
       have an:m.getD t []∈m:=by simp [hlt2]
       have c:Hid ((m.take (t+1)).any edB=((m.take t).any edB || edB (m.getD t []))):=by
        show _=_
        rw [Zaa1 hlt2,List.any_append];simp [hlt2]
       have aJ:Hid (edB (m.getD t [])=true→m.any edB=true):=fun h=>List.any_eq_true.2 ⟨_,an,h⟩
       obtain ⟨r,hr⟩:∃r,r=m.getD t []:=⟨_,rfl⟩
       rw [←hr] at aq an c aJ;clear hr;have bt:=bF.out r an
       obtain ⟨rb,rf,cE,bp,_,bJ⟩:=ZAK aq (k:=0) (by omega)
       rw [Nat.add_zero] at bJ
       obtain ⟨cr,ck,bW,am,_,cw⟩:=ZAK aq (k:=1) (by omega)
       rw [bt] at bp am;subst bp;simp only [Za3,Zaa9,Addr.mk.injEq,and_true] at am;obtain ⟨⟨rfl,rfl⟩,-,-⟩:=am
       have az:Hid (edB r=(decide (r.getD 0 0 < 0) || (decide (r.getD 0 0=0) && decide (0 < r.getD 1 0)))):=rfl
       clear aq an bt;generalize r.getD 0 0=r0 at *;generalize r.getD 1 0=r1 at *;generalize edB r=er at *
       have cB:(t:Int) < (m.length:Int):=by omega
       have bU:(0:Int)≤(t:Int):=by omega
       by_cases c1:r0 < 0
       ·have ag:decide (r0 < 0)=true:=decide_eq_true c1
        have B:Hid (tb=false):=by
         refine aD.out.2 fun hD=>?_
         have h1:=aJ.out (by rw [az.out,ag]; rfl)
         rw [aK.out.2 hD] at h1
         cases h1
        go_wp2;go_ret
        exact ⟨by rw [B.out] <;> rfl,ay.out⟩
       ·have ag:decide (r0 < 0)=false:=decide_eq_false c1
        by_cases c2:r0=0
        ·have bT:(r0 == 0)=true:=by simpa using c2
         by_cases c3:0 < r1
         ·have aI:decide (0 < r1)=true:=decide_eq_true c3
          have B:Hid (tb=false):=by
           refine aD.out.2 fun hD=>?_
           have h1:=aJ.out (by rw [az.out,ag,aI,decide_eq_true c2]; rfl)
           rw [aK.out.2 hD] at h1
           cases h1
          clear c2;go_wp2;go_ret
          exact ⟨by rw [B.out] <;> rfl,ay.out⟩
         ·have aI:decide (0 < r1)=false:=decide_eq_false c3
          have B:Hid ((m.take (t+1)).any edB=false):=by show _=_; rw [c.out,aX.out,az.out,ag,aI]; simp
          clear c2;go_wp2
          exact ⟨⟨t+1,by omega,by go_num,B.out,trivial⟩,by simp [intOf]; omega⟩
        ·have bT:(r0 == 0)=false:=by simpa using c2
         have B:Hid ((m.take (t+1)).any edB=false):=by show _=_; rw [c.out,aX.out,az.out,ag,decide_eq_false c2]; simp
         go_wp2
         exact ⟨⟨t+1,by omega,by go_num,B.out,trivial⟩,by simp [intOf]; omega⟩
      ·have bI:t=m.length:=by omega
       subst bI
       have B:Hid (tb=true):=by
        refine aD.out.1 (aK.out.1 ?_);have:=aX.out
        rwa [List.take_length] at this
       go_wp2;go_ret
       exact ⟨by rw [B.out] <;> rfl,ay.out⟩
end Go.Proofs.YtkjkfceblmgogaaGreat
namespace Go.Proofs.YtkjkfceblmgogaaGreat
open Go.RowKit Lin
attribute [local go_sem ↓] Go.wp_at_zero Go.wp_at_succ
noncomputable def sgT(d:Nat)(P:List (List Int))(ks:List UInt8):Nat→List UInt8→List (List UInt8)
 | 0,h=>if thB d P h then [h] else []
 | n+1,h=>if thB d P h then ks.flatMap fun c=>sgT d P ks n (h ++ [c]) else []
theorem ZGN{d:Nat}{P:List (List Int)}{s:List UInt8} : thB d P s=true↔∃z,ZC0 d P s z:=by simp [thB]
theorem ZQ7{d:Nat}{P:List (List Int)}{ks:List UInt8}{n:Nat}{h:List UInt8}(e:thB d P h=false):sgT d P ks n h=[]:=by
 cases n <;> simp [sgT,e]
theorem ZIH{d:Nat}{P:List (List Int)}{ks:List UInt8}(hk:ks.length≤3):∀(n:Nat) (h:List UInt8),(sgT d P ks n h).length≤3 ^ n
 | 0,h=>by
  unfold sgT
  split <;> simp
 | n+1,h=>by
  unfold sgT
  split
  ·have h1:=ZCA (g:=fun c=>sgT d P ks n (h ++ [c])) (b:=3 ^ n) ks fun c _=>ZIH hk n _
   have a:ks.length*3 ^ n≤3*3 ^ n:=Nat.mul_le_mul_right _ hk;rw [Nat.pow_succ];omega
  ·simp
theorem ZHH{α β:Type}(p:α→Bool)(g:α→List β):∀l:List α,(∀x∈l,p x=false→g x=[])→(l.filter p).flatMap g=l.flatMap g
 | [],_=>rfl
 | a :: l,h=>by
  have ih:=ZHH p g l fun x hx=>h x (List.mem_cons_of_mem _ hx)
  cases e:p a with
  | true=>rw [List.filter_cons_of_pos e,List.flatMap_cons,List.flatMap_cons,ih]
  | false=>rw [List.filter_cons_of_neg (by simp [e]),List.flatMap_cons,ih,h a List.mem_cons_self e]; rfl
theorem ZL7{d:Nat}{P:List (List Int)}{ks:List UInt8}(hks:∀c∈ks,c=43∨c=45∨c=48)(n:Nat){t:List UInt8}(ht:∃z,ZC0 d P t z) :
  sgT d P ks (n+1) t=((ks.filter (mtC (gaC d (clR P t) (P.getD t.length [])) (gaC d (clR P t) (ngL (P.getD t.length []))))).map fun c=>t ++ [c]).flatMap (sgT d P ks n):=by
 rw [List.flatMap_map]
 rw [show sgT d P ks (n+1) t=if thB d P t then ks.flatMap fun c=>sgT d P ks n (t ++ [c]) else [] from rfl,if_pos (ZGN.2 ht)]
 refine (ZHH _ _ ks fun c hc e=>?_).symm
 refine ZQ7 ?_;rw [←Bool.not_eq_true,ZGN,←ZDH ht (hks c hc),e]
 decide
theorem ZDd{α β:Type}{g f:α→List β} : ∀{l:List α},(∀x∈l,g x=f x)→l.flatMap g=l.flatMap f
 | [],_=>rfl
 | a :: l,h=>by rw [List.flatMap_cons,List.flatMap_cons,h a List.mem_cons_self,ZDd fun x hx=>h x (List.mem_cons_of_mem _ hx)]
theorem ZOr{d:Nat}{P:List (List Int)} : ∀(k n:Nat),sgT d P [43,45,48] (k+n) []=(grT d P k).flatMap (sgT d P [43,45,48] n)
 | 0,n=>by simp [grT]
 | k+1,n=>by
  rw [show k+1+n=k+(n+1) by omega,ZOr k (n+1)]
  show _=((grT d P k).flatMap (grO d P (P.getD k []))).flatMap _
  rw [List.flatMap_assoc]
  refine ZDd fun t ht=>?_
  obtain ⟨hl,hz⟩:=ZG1.1 ht
  rw [ZL7 (by simp) n hz,hl]
  rfl
theorem ZL8{d:Nat}{P:List (List Int)} : ∀(k n:Nat),sgT d P [43,45] (k+n) []=(ZBi d P k).flatMap (sgT d P [43,45] n)
 | 0,n=>by simp [ZBi]
 | k+1,n=>by
  rw [show k+1+n=k+(n+1) by omega,ZL8 k (n+1)]
  show _=((ZBi d P k).flatMap (ZQL d P (P.getD k []))).flatMap _
  rw [List.flatMap_assoc]
  refine ZDd fun t ht=>?_
  obtain ⟨⟨hl,hz⟩,_⟩:=ZCy.1 ht
  rw [ZL7 (by simp) n hz,hl]
  rfl
theorem ZEs{α:Type}{g:List α→List (List α)} : ∀{l:List (List α)},(∀x∈l,g x=[x])→l.flatMap g=l
 | [],_=>rfl
 | a :: l,h=>by rw [List.flatMap_cons,h a List.mem_cons_self,ZEs fun x hx=>h x (List.mem_cons_of_mem _ hx)]; rfl
theorem ZQ8{d:Nat}{P:List (List Int)}(k:Nat):sgT d P [43,45,48] k []=grT d P k:=by
 have:=ZOr (d:=d) (P:=P) k 0;rw [Nat.add_zero] at this;rw [this]
 refine ZEs fun t ht=>?_
 unfold sgT;rw [if_pos (ZGN.2 (ZG1.1 ht).2)]
theorem ZQ9{d:Nat}{P:List (List Int)}(k:Nat):sgT d P [43,45] k []=ZBi d P k:=by
 have:=ZL8 (d:=d) (P:=P) k 0;rw [Nat.add_zero] at this;rw [this]
 refine ZEs fun t ht=>?_
 unfold sgT;rw [if_pos (ZGN.2 (ZCy.1 ht).1.2)]
theorem ZNy(x:List UInt8)(k:Nat)(h:k < x.length):(⟨x.toArray⟩:ByteArray).extract k (k+1)=⟨#[x.getD k 0]⟩:=by
 apply ByteArray.ext
 simp only [ByteArray.data_extract]
 apply Array.ext
 ·simp; omega
 ·intro i b a
  have:i=0:=by simp at a; omega
  subst this;simp [h]
theorem ZJH(a b:List (List UInt8)):ZAe (a ++ b)=ZAe a ++ ZAe b:=by simp [ZAe]
theorem ZNz(a:List (List UInt8)):∀u∈ZAe a,u.oneCell'=true:=fun u hu=>by
 simp only [ZAe,List.mem_map] at hu;obtain ⟨t,_,rfl⟩:=hu;rfl
theorem ZEt{B0:Nat}(d:Nat)(P:List (List Int))(ks:List UInt8)(KB:ByteArray)(v:Value)(hP:∀p∈P,p.length=d+1∧∀z∈p,z.natAbs≤20)(hd1:1≤d)(hd3:d≤3)(hP8:P.length≤6)(hks:∀c∈ks,c=43∨c=45∨c=48)(hk3:ks.length≤3)(hsm:(∀c∈ks,c=43∨c=45)∨P.length≤4)(hKB:KB=⟨ks.toArray⟩) :
  ∀(n:Nat) (h:List UInt8) (HB:ByteArray) (w:World),h.length+n=P.length→(∀c∈h,c∈ks)→HB=⟨h.toArray⟩→Mat B0 27 3 w v P→
  Calls Tryz.prog 6 #[.int .i64 d,v,.string KB,.string HB] w fun e w'=>∃x,e=.returned x∧w'.ownsRow w.heap.size 9 1 x (sgT d P ks n h).length (ZAe (sgT d P ks n h))∧Below w.heap.size w w':=by
 intro n
 induction n with
 | zero=>
  intro h HB w hn R a hv;obtain ⟨Y,X,V,aF,aJ⟩:=ZAD hv;subst V
  have t:(thT P h h.length).length≤8:=by
   rcases hsm with q | q
   ·rw [ZID h.length (Za4 _) fun c hc=>q c (R c hc)]; omega
   ·have:=ZGK P h h.length; omega
  have E:Hid (Calls Tryz.prog 21 #[.int .i64 d,.slice Y P.length X,.string HB] w fun e w'=>e=.returned (.bool (thB d P h))∧Below w.heap.size w w'):=ZHG d P h _ HB w hv hP hd1 hd3 (by omega) (fun c hc=>hks c (R c hc)) t (by omega) a
  have aM:HB.size=P.length:=by rw [a]; show h.length=_; omega
  have l:Hid (sgT d P ks 0 h=if thB d P h then [h] else []):=rfl
  have aB:=hid a;generalize sgT d P ks 0 h=L at *;clear hv t a;go_enter Tryz.func6,Tryz.ntmps6
  go_wp2_with fail
  refine E.out.mono ?_;rintro e w1 ⟨rfl,m⟩;have A:=hid m;have D:w.heap.size≤w1.heap.size:=m.size;clear m E
  cases htb:thB d P h with
  | false=>
   rw [htb] at l;go_wp2;go_ret;refine ⟨_,rfl,?_,A.out⟩;have e:L=[]:=l.out;rw [e];exact World.ownsRow_nil _ _ _ _
  | true=>
   rw [htb] at l;go_wp2;go_ret;refine ⟨_,rfl,?_,A.out.alloc D _⟩;have e:L=[h]:=l.out;rw [e]
   show World.ownsRow _ _ _ _ _ 1 [.string ⟨h.toArray⟩]
   rw [←aB.out]
   exact ⟨rfl,.inr ⟨w1.heap.size,1,#[.string HB],rfl,D,heap_alloc_new w1 _,Za4 _,by decide,rfl,rfl⟩⟩
 | succ n ih=>
  intro h HB w hn R a hv;obtain ⟨i0,hi,aI,aH,az⟩:=info_parts ZH5;obtain ⟨Y,X,V,aF,aJ⟩:=ZAD hv;subst V
  have t:(thT P h h.length).length≤8:=by
   rcases hsm with q | q
   ·rw [ZID h.length (Za4 _) fun c hc=>q c (R c hc)]; omega
   ·have:=ZGK P h h.length; omega
  have E:Hid (Calls Tryz.prog 21 #[.int .i64 d,.slice Y P.length X,.string HB] w fun e w'=>e=.returned (.bool (thB d P h))∧Below w.heap.size w w'):=ZHG d P h _ HB w hv hP hd1 hd3 (by omega) (fun c hc=>hks c (R c hc)) t (by omega) a
  have au:HB.size=h.length:=by rw [a]; rfl
  have ah:KB.size=ks.length:=by rw [hKB]; rfl
  have l:Hid (sgT d P ks (n+1) h=if thB d P h then ks.flatMap fun c=>sgT d P ks n (h ++ [c]) else []):=rfl
  have B:Hid (∀(j:Nat) (W:World),j < ks.length→Below w.heap.size w W→Calls Tryz.prog 6 #[.int .i64 d,.slice Y P.length X,.string KB,.string (HB ++ KB.extract j (j+1))] W fun e w'=>∃r o,e=.returned (.slice r (sgT d P ks n (h ++ [ks.getD j 0])).length o)∧Sl 0 9 w' (.slice r (sgT d P ks n (h ++ [ks.getD j 0])).length o) (ZAe (sgT d P ks n (h ++ [ks.getD j 0])))∧Below W.heap.size W w'):=fun j W hj hW=>by
   refine (ih (h ++ [ks.getD j 0]) (HB ++ KB.extract j (j+1)) W (by simp; omega) (fun c hc=>?_) (by rw [hKB,ZNy ks j hj,a,ZLT]) (hv.below hW (Za4 _))).mono ?_
   ·rcases List.mem_append.1 hc with q | q
    ·exact R c q
    ·rw [List.mem_singleton.1 q]; exact ZQ2 hj
   rintro e w' ⟨x,rfl,ho,hb⟩;obtain ⟨r,o,rfl⟩:=ZAE ho;exact ⟨r,o,rfl,Sl.own ho,hb⟩
  have af:Hid (∀j,(sgT d P ks n (h ++ [ks.getD j 0])).length≤729∧((ks.take j).flatMap fun c=>sgT d P ks n (h ++ [c])).length≤2187):=fun j=>by
   have hp:3 ^ n≤3 ^ 6:=Nat.pow_le_pow_right (by decide) (by omega)
   refine ⟨Zaa8 (ZIH hk3 n _) hp,?_⟩
   have h1:=ZCA (g:=fun c=>sgT d P ks n (h ++ [c])) (b:=729) (ks.take j) fun c _=>Zaa8 (ZIH hk3 n _) hp
   have h2:(ks.take j).length≤3:=by rw [List.length_take]; omega
   have h3:(ks.take j).length*729≤3*729:=Nat.mul_le_mul_right _ h2;omega
  have T:Hid (∀j,j < ks.length→((ks.take (j+1)).flatMap fun c=>sgT d P ks n (h ++ [c]))=((ks.take j).flatMap fun c=>sgT d P ks n (h ++ [c])) ++ sgT d P ks n (h ++ [ks.getD j 0])):=fun j hj=>by
   rw [Zaa1 hj,List.flatMap_append];simp [hj]
  have Q:Hid (((ks.take ks.length).flatMap fun c=>sgT d P ks n (h ++ [c]))=ks.flatMap fun c=>sgT d P ks n (h ++ [c])):=by show _=_; rw [List.take_length]
  obtain ⟨hl,ai⟩:∃hl,hl=h.length:=⟨_,rfl⟩
  rw [←ai] at au
  have aO:((hl:Int) == (P.length:Int))=false:=by
   rw [beq_eq_false_iff_ne]; omega
  have aL:hl≤6:=by omega
  obtain ⟨y,ay⟩:∃y,y=ks.length:=⟨_,rfl⟩
  rw [←ay] at ah B T Q hk3;generalize sgT d P ks (n+1) h=L at *
  obtain ⟨F,hF⟩:∃F:Nat→List (List UInt8),F=fun j=>(ks.take j).flatMap fun c=>sgT d P ks n (h ++ [c]):=⟨_,rfl⟩
  obtain ⟨G,hG⟩:∃G:Nat→List (List UInt8),G=fun j=>sgT d P ks n (h ++ [ks.getD j 0]):=⟨_,rfl⟩
  have O:Hid (∀(j:Nat) (W:World),j < y→Below w.heap.size w W→Calls Tryz.prog 6 #[.int .i64 d,.slice Y P.length X,.string KB,.string (HB ++ KB.extract j (j+1))] W fun e w'=>∃r o,e=.returned (.slice r (G j).length o)∧Sl 0 9 w' (.slice r (G j).length o) (ZAe (G j))∧Below W.heap.size W w'):=by rw [hG]; exact B.out
  have aw:Hid (∀j,(G j).length≤729∧(F j).length≤2187):=by rw [hF,hG]; exact af.out
  have aj:Hid (∀j,j < y→F (j+1)=F j ++ G j):=by rw [hF,hG]; exact T.out
  have aG:Hid (F 0=[]):=by rw [hF]; rfl
  have s:Hid (L=if thB d P h then F y else []):=by show _=_; rw [l.out,←Q.out,hF]
  clear hv t a hKB B af T Q l hF hG ay ai ih hn R hP hks hsm;go_enter Tryz.func6,Tryz.ntmps6
  go_wp2_with fail
  refine E.out.mono ?_;rintro e w1 ⟨rfl,m⟩;have A:=hid m;have D:w.heap.size≤w1.heap.size:=m.size;clear m E
  cases htb:thB d P h with
  | false=>
   rw [htb] at s;go_wp2;go_ret;refine ⟨_,rfl,?_,A.out⟩;have e:L=[]:=s.out;rw [e];exact World.ownsRow_nil _ _ _ _
  | true=>
   rw [htb] at s;have aC:Hid (L=F y):=s.out;clear s;go_wp2
   go_loopw [9,10] (fun x i wr=>∃j:Nat,j≤y∧i=.int .i64 j∧wr.ownsRow w.heap.size 9 1 x (F j).length (ZAe (F j))∧Below w.heap.size w wr) (fun _ i _=>y-(intOf i).toNat)
   case atStart=>exact ⟨0,Za5 _,rfl,by rw [aG.out]; exact World.ownsRow_nil _ _ _ _,A.out⟩
   case round=>
    obtain ⟨j,hj,rfl,an,J⟩:=hrel
    obtain ⟨M,rfl⟩:∃M,M=wr:=⟨_,rfl⟩
    have HO:=hid an;have U:=hid J;have ar:w.heap.size≤M.heap.size:=J.size;clear an J
    by_cases hlt:j < y
    ·have aR:j < KB.size:=by omega
     have aQ:(j:Int) < (y:Int):=by omega
     have aK:(0:Int)≤(j:Int):=by omega
     have aq:Hid (Calls Tryz.prog 6 #[.int .i64 d,.slice Y P.length X,.string KB,.string (HB ++ KB.extract j (j+1))] M fun e w'=>∃r o,e=.returned (.slice r (G j).length o)∧Sl 0 9 w' (.slice r (G j).length o) (ZAe (G j))∧Below M.heap.size M w'):=O.out j M hlt U.out
     have ak:=aj.out j hlt;have aE:=hid ak;have aD:=aw.out j;obtain ⟨aN,aP⟩:=aD;clear ak;generalize G j=g at *;generalize F j=f at *
     go_wp2_with fail
     refine aq.out.mono ?_;rintro e w2 ⟨r,o,rfl,aa,N⟩;have ae:Hid (Below w.heap.size w w2):=U.out.trans (N.mono ar);have S:Hid (w2.ownsRow w.heap.size 9 1 u9 f.length (ZAe f)):=ZAQ HO.out N (Za4 _);have ag:=hid aa;have am:w.heap.size≤w2.heap.size:=ae.out.size;clear aa N aq HO
     go_wp2_with (first | (at_builtin; refine ZDF rfl _ _ 26 rfl w.heap.size 9 i0 (.string ⟨#[]⟩) 16 (by kernel_rfl) hi aI aH az rfl _ _ _ rfl S.out r g.length o (ZAe g) rfl ag.out (ZNz _) ?d3 ?d4 ?d5 ?_))
     case d3=>unfold maxLen; omega
     case d4=>omega
     case d5=>first | omega | (simp; omega)
     intro x6 w3 ho hg
     have R1:Hid (w3.ownsRow w.heap.size 9 1 x6 (F (j+1)).length (ZAe (F (j+1)))):=by
      show World.ownsRow _ _ _ _ _ _ _
      rw [aE.out,ZJH,Zaa4];exact ho
     have R2:Hid (Below w.heap.size w w3):=ae.out.grown hg am (fun x hx=>(S.out.lt x hx).1)
     clear ho hg S ag;go_wp2
     exact ⟨⟨j+1,by omega,by go_num,R1.out,R2.out⟩,by simp [intOf]; omega⟩
    ·have aA:j=y:=by omega
     subst aA;go_wp2;go_ret
     exact ⟨_,rfl,by rw [aC.out]; exact HO.out,U.out⟩
end Go.Proofs.YtkjkfceblmgogaaGreat
