import Derived.Test.YtkjkfceblmgogaaGreatEzC
import Derived.Test.YtkjkfceblmgogaaGreatEzF
import Derived.Test.YtkjkfceblmgogaaGreatHgA
namespace Go.Proofs.YtkjkfceblmgogaaGreat
set_option maxRecDepth 100000
set_option maxHeartbeats 4000000
open Go.RowKit Lin
attribute [local go_sem ↓] Go.wp_at_zero Go.wp_at_succ
theorem ZRD(p:List Int):clO p 43=[ngL p]:=by simp [clO]
theorem ZRE(p:List Int):clO p 45=[p]:=by simp [clO]
theorem ZOC(z:List UInt8)(j:Nat)(h:j < z.length)(h2:j < (⟨z.toArray⟩:ByteArray).size):(⟨z.toArray⟩:ByteArray)[j]=z.getD j 0:=by
 show z.toArray[j]'(by simpa using h)=_
 simp [h]
theorem ZMR{α:Type}(f:α→Bool)(l:List α)(e:α)(k:Nat)(h:k < l.length):(l.take (k+1)).filter f=(l.take k).filter f ++ if f (l.getD k e) then [l.getD k e] else []:=by
 rw [ZEj l k h e,List.filter_append];generalize l.getD k e=x
 cases hh:f x <;> simp [hh]
theorem ZGP{B0:Nat}(d:Nat)(P:List (List Int))(L:List (List UInt8))(v u:Value)(w:World)(hv:Mat B0 27 3 w v P)(hu:Sl 0 9 w u (ZAe L))(hP:∀p∈P,p.length=d+1∧∀z∈p,z.natAbs≤20)(hd1:1≤d)(hd3:d≤3)(h6:P.length≤6)(hL:∀t∈L,t.length=P.length∧∀c∈t,c=43∨c=45)(hl:L.length≤100000) :
  Calls Tryz.prog 7 #[.int .i64 d,v,u] w fun e w'=>∃x,e=.returned x∧w'.ownsRow w.heap.size 9 1 x (L.filter fun t=>!opB d (clR P t)).length (ZAe (L.filter fun t=>!opB d (clR P t)))∧Below w.heap.size w w':=by
 obtain ⟨i0,hi,bi,aZ,aC⟩:=info_parts Tryz.info27;obtain ⟨i3,bD,bj,aF,bk⟩:=info_parts ZH5;obtain ⟨ro,rc,bG,bR,bT⟩:=ZAD hv;subst bG;obtain ⟨uo,uc,bu,bN,bO⟩:=ZDI hu;subst bu;have HV:Hid (Mat B0 27 3 w (.slice ro P.length rc) P):=hv;have HU:=hid hu;have bA:=hid hP;have bp:=hid hL
 have bF:Hid (∀t∈L,∀x X,Mat 0 27 3 X x (clR P t)→Calls Tryz.prog 24 #[x,.int .i64 d] X fun e w'=>e=.returned (.bool (opB d (clR P t)))∧Below X.heap.size X w'):=fun t ht x X hx=>by
  obtain ⟨h1,h2⟩:=hL t ht
  have ar:∀r∈clR P t,r.length=d+1∧∀z∈r,z.natAbs≤20:=fun r hr=>by
   obtain ⟨i,hi,h⟩:=ZEd hr
   have hm:=hP (P.getD i []) (ZAg (by omega))
   rcases h with rfl | rfl
   ·exact hm
   ·refine ⟨by rw [ZGL]; exact hm.1,fun z hz=>?_⟩
    simp only [ngL,List.mem_map] at hz;obtain ⟨y,hy,rfl⟩:=hz;have:=hm.2 y hy;omega
  have hn:(clR P t).length≤12:=by
   have:=ZEc P t t.length
   show (clT P t t.length).length≤12
   omega
  have:=ZMO d (clR P t) x X hx ⟨hd1,Nat.le_succ_of_le hd3,hn,fun r hr=>(ar r hr).1,fun r hr=>(ar r hr).2⟩
  rw [ZRA fun r hr=>(ar r hr).1] at this
  exact this
 have bg:Hid (∀k,k < L.length→(L.take (k+1)).filter (fun t=>!opB d (clR P t))=(L.take k).filter (fun t=>!opB d (clR P t)) ++ if !opB d (clR P (L.getD k [])) then [L.getD k []] else []):=fun k hk=>ZMR _ L [] k hk
 have aY:Hid (∀k,((L.take k).filter fun t=>!opB d (clR P t)).length≤100000):=fun k=>by
  refine Zaa8 (List.length_filter_le _ _) ?_;rw [List.length_take]; omega
 have bE:Hid ((L.take L.length).filter (fun t=>!opB d (clR P t))=L.filter fun t=>!opB d (clR P t)):=by show _=_; rw [List.take_length]
 clear hv hu hP hL;go_enter Tryz.func7,Tryz.ntmps7;go_wp2
 go_loopw [7,8,9,10,11] (fun x i _ _ _ wr=>∃k:Nat,k≤L.length∧i=.int .i64 k∧wr.ownsRow w.heap.size 9 1 x ((L.take k).filter fun t=>!opB d (clR P t)).length (ZAe ((L.take k).filter fun t=>!opB d (clR P t)))∧Below w.heap.size w wr) (fun _ i _ _ _ _=>L.length-(intOf i).toNat)
 case atStart=>exact ⟨0,Za5 _,rfl,World.ownsRow_nil _ _ _ _,Below.refl _ _⟩
 case round=>
  obtain ⟨k,hk,rfl,aU,M⟩:=hrel
  obtain ⟨f,rfl⟩:∃f,f=wr:=⟨_,rfl⟩
  have HO:=hid aU;have HB:=hid M;have bh:w.heap.size≤f.heap.size:=M.size;clear aU M
  by_cases hlt:k < L.length
  ·obtain ⟨ub,uf,bt,V⟩:=ZDJ HU.out hlt
   subst bt
   have aw:L.getD k []∈L:=by rw [Za2,Za9 hlt]; exact List.getElem_mem _
   obtain ⟨au,aG⟩:=bp.out _ aw;have aO:=bF.out _ aw;have aQ:=bg.out k hlt;have bM:=aY.out k
   obtain ⟨SB,U⟩:∃SB:ByteArray,SB=⟨(L.getD k []).toArray⟩:=⟨_,rfl⟩
   have aq:ZDj (L.getD k [])=.string SB:=by rw [U]; rfl
   rw [aq] at V
   have ai:Hid (∀X,Below w.heap.size w X→X.cell? ⟨ub,uf+k,none⟩=some (.string SB)):=fun X hX=>(hX.cell (ZAH V)).trans V
   have bU:SB.size=P.length:=by rw [U,←au]; rfl
   have bz:Hid (∀j,(hj:j < P.length)→∃hx:j < SB.size,SB[j]=(L.getD k []).getD j 0):=fun j hj=>by
    refine ⟨by omega,?_⟩
    have hx:j < (L.getD k []).length:=by omega
    simp only [U];exact ZOC _ _ hx _
   have bq:Hid (∀j,j < P.length→(L.getD k []).getD j 0=43∨(L.getD k []).getD j 0=45):=fun j hj=>aG _ (ZQ2 (by omega))
   have bC:=hid aq
   have bI:Hid (clT P (L.getD k []) P.length=clR P (L.getD k [])):=by show _=_; rw [←au]; rfl
   have bH:=hid aO;have aA:=hid aQ
   have bw:Hid (∀j,clT P (L.getD k []) (j+1)=clT P (L.getD k []) j ++ clO (P.getD j []) ((L.getD k []).getD j 0)):=fun j=>ZBX P _ j
   have bl:Hid (∀j,j≤6→(clT P (L.getD k []) j).length≤12):=fun j hj=>by have:=ZEc P (L.getD k []) j; omega
   have bv:Hid (clT P (L.getD k []) 0=[]):=rfl;clear bg aY aQ aq U au aG aw aO V
   generalize (L.take k).filter (fun t=>!opB d (clR P t))=FA at *
   obtain ⟨FB,aB⟩:∃FB,FB=(L.take (k+1)).filter (fun t=>!opB d (clR P t)):=⟨_,rfl⟩
   rw [←aB] at aA;have aM:=hid aB;clear aB;generalize L.getD k []=t at *;generalize opB d (clR P t)=ob at *
   have bS:(k:Int) < (L.length:Int):=by omega
   have bK:(0:Int)≤(k:Int):=by omega
   go_wp2
   go_loopw [9,10,11] (fun x i _ a=>∃j:Nat,j≤P.length∧i=.int .i64 j∧Fr f.heap.size 27 3 a x (clT P t j)∧Below f.heap.size f a) (fun _ i _ _=>P.length-(intOf i).toNat)
   case atStart=>exact ⟨0,Za5 _,rfl,by rw [bv.out]; exact Fr.nil _ _ _ _,Below.refl _ _⟩
   case round=>
    obtain ⟨j,hj,rfl,aN,R⟩:=hrel
    obtain ⟨a,rfl⟩:∃a,a=wr:=⟨_,rfl⟩
    have O:=hid aN;have ak:=hid R;have s:Hid (Below w.heap.size w a):=HB.out.trans (R.mono bh);have ah:f.heap.size≤a.heap.size:=R.size;clear aN R
    by_cases hlj:j < P.length
    ·obtain ⟨b,o,cp,pv,hs,_,ay,ae⟩:=ZAP HV.out hlj
     simp only [Za3] at hs;obtain ⟨rfl,-,rfl⟩:=hs;have aj:P.getD j []∈P:=ZAg hlj;obtain ⟨bQ,aL⟩:=bz.out j hlj;have bB:=bq.out j hlj;have n:Hid (clT P t (j+1)=clT P t j ++ clO (P.getD j []) (t.getD j 0)):=bw.out j
     have bL:(clT P t j).length≤12:=bl.out j (by omega)
     have aH:=ai.out a s.out
     obtain ⟨p,hp⟩:∃p,p=P.getD j []:=⟨_,rfl⟩
     rw [←hp] at ae aj n;clear hp;obtain ⟨Q,aJ⟩:=bA.out p aj;obtain ⟨po,pc,aV,_,_⟩:=ZAI ae;rw [Q] at aV;subst aV;have az:a.cell? ⟨b,o+j,none⟩=some (.slice po (d+1) pc):=(s.out.cell (ZAH ay)).trans ay
     have aD:Hid (Calls Tryz.prog 22 #[.slice po (d+1) pc] a fun e w'=>∃uo uc,e=.returned (.slice uo (d+1) uc)∧w'.ownsRow a.heap.size 3 1 (.slice uo (d+1) uc) (d+1) (ZAB p)∧Below a.heap.size a w'):=by
      refine (ZBj _ p _ a (ae.below s.out (Za4 _)) (by omega)).mono ?_
      rintro e w' ⟨u,rfl,g,hb⟩;rw [Q] at g;obtain ⟨uo,uc,rfl⟩:=ZAE g;exact ⟨uo,uc,rfl,g,hb⟩
     have F:Hid (p.length=d+1∧∀z∈p,z.natAbs≤20):=⟨Q,aJ⟩
     have bP:(j:Int) < (P.length:Int):=by omega
     have bJ:(0:Int)≤(j:Int):=by omega
     clear ae ay aj Q aJ;generalize clT P t j=A at *
     go_wp2_with fail
     refine aD.out.mono ?_;rintro e N ⟨yo,yc,rfl,aP,T⟩;have G:=hid aP;have am:=hid T;have aX:a.heap.size≤N.heap.size:=T.size;have aI:=ai.out N (s.out.trans (T.mono s.out.size));clear aP T aD az aH
     rcases bB with hc | hc
     ·rw [hc] at aL n
      rw [ZRD] at n
      have aR:Hid (Calls Tryz.prog 23 #[.slice yo (d+1) yc] N fun e w'=>∃Y mc,e=.returned (.slice Y (d+1) mc)∧w'.ownsRow N.heap.size 3 1 (.slice Y (d+1) mc) (d+1) (ZAB (ngL p))∧Below N.heap.size N w'):=by
       refine (ZBq 0 p _ N (by rw [←F.out.1] at G; simpa [F.out.1] using Sl.own G.out) (by rw [F.out.1]; omega) (fun z hz=>by have:=F.out.2 z hz; omega)).mono ?_
       rintro e w' ⟨u,rfl,g,hb⟩;rw [F.out.1] at g;obtain ⟨Y,mc,rfl⟩:=ZAE g;exact ⟨Y,mc,rfl,g,hb⟩
      clear hc G
      go_wp2_with fail
      refine aR.out.mono ?_;rintro e E ⟨Y,mc,rfl,aK,B⟩;have m:Hid (Below a.heap.size a E):=am.out.trans (B.mono aX);have af:a.heap.size≤E.heap.size:=m.out.size;have an:Hid (Sl 0 3 E (.slice Y (d+1) mc) (ZAB (ngL p))):=Sl.own aK;obtain ⟨vs,g1,g2,g3⟩:=O.out.below m.out (Za4 _);have G2:=hid g2
      have J:Hid (∀v' l,l.ownsRow f.heap.size 27 1 v' (A.length+1) (vs ++ [.slice Y (d+1) mc])→(E.alloc (.cells #[.slice Y (d+1) mc] 27)).grownBy l u9.ownBlock→Fr f.heap.size 27 3 l v' (A ++ [ngL p])∧Below f.heap.size f l):=fun v' l g D=>ZCX (ak.out.trans (m.out.mono ah)) g1 g2 g3 an.out g D
      clear g1 g2 g3 aK B aR aI
      go_wp2_with (first | (at_builtin; refine wpList_append_own _ rfl _ _ 22 rfl f.heap.size 27 i0 (.slice none 0 0) 1 24 Tryz.underlying22 hi bi aZ aC rfl (by decide) _ _ _ rfl (G2.out.alloc _) ⟨E.heap.size,0,none⟩ 1 1 [.slice Y (d+1) mc] rfl rfl (ZAS _ _ _) (ZAM _ _ _) ?d3 ?d4 ?d5 ?_))
      case d3=>unfold maxLen; omega
      case d4=>omega
      case d5=>first | omega | (simp; omega)
      intro x6 l g D _;obtain ⟨q1,q2⟩:=J.out x6 l g D
      have R1:Hid (Fr f.heap.size 27 3 l x6 (clT P t (j+1))):=by show Fr _ _ _ _ _ _; rw [n.out]; exact q1
      have R2:=hid q2;clear q1 q2 g D J G2;go_wp2
      exact ⟨⟨j+1,by omega,by go_num,R1.out,R2.out⟩,by simp [intOf]; omega⟩
     ·rw [hc] at aL n
      rw [ZRE] at n;have an:Hid (Sl 0 3 N (.slice yo (d+1) yc) (ZAB p)):=Sl.own G.out;obtain ⟨vs,g1,g2,g3⟩:=O.out.below am.out (Za4 _);have G2:=hid g2
      have J:Hid (∀v' l,l.ownsRow f.heap.size 27 1 v' (A.length+1) (vs ++ [.slice yo (d+1) yc])→(N.alloc (.cells #[.slice yo (d+1) yc] 27)).grownBy l u9.ownBlock→Fr f.heap.size 27 3 l v' (A ++ [p])∧Below f.heap.size f l):=fun v' l g D=>ZCX (ak.out.trans (am.out.mono ah)) g1 g2 g3 an.out g D
      clear g1 g2 g3 G hc
      go_wp2_with (first | (at_builtin; refine wpList_append_own _ rfl _ _ 22 rfl f.heap.size 27 i0 (.slice none 0 0) 1 24 Tryz.underlying22 hi bi aZ aC rfl (by decide) _ _ _ rfl (G2.out.alloc _) ⟨N.heap.size,0,none⟩ 1 1 [.slice yo (d+1) yc] rfl rfl (ZAS _ _ _) (ZAM _ _ _) ?d3 ?d4 ?d5 ?_))
      case d3=>unfold maxLen; omega
      case d4=>omega
      case d5=>first | omega | (simp; omega)
      intro x6 l g D _;obtain ⟨q1,q2⟩:=J.out x6 l g D
      have R1:Hid (Fr f.heap.size 27 3 l x6 (clT P t (j+1))):=by show Fr _ _ _ _ _ _; rw [n.out]; exact q1
      have R2:=hid q2;clear q1 q2 g D J G2 aI;go_wp2
      exact ⟨⟨j+1,by omega,by go_num,R1.out,R2.out⟩,by simp [intOf]; omega⟩
    ·have aE:j=P.length:=by omega
     have aS:Hid (Mat 0 27 3 a u9 (clR P t)):=by
      show Mat _ _ _ _ _ _
      rw [←bI.out,←aE];exact O.out.mat0
     subst aE;have S:Hid (a.ownsRow w.heap.size 9 1 u7 FA.length (ZAe FA)):=ZAQ HO.out ak.out (Za4 _);have ag:=bH.out u9 a aS.out;have aT:=hid ag;clear ag aS O
     go_wp2_with fail
     refine aT.out.mono ?_;rintro e E ⟨rfl,B⟩;have m:Hid (Below w.heap.size w E):=s.out.trans (B.mono s.out.size);have aa:Hid (E.ownsRow w.heap.size 9 1 u7 FA.length (ZAe FA)):=ZAQ S.out B (Za4 _);have aH:=ai.out E m.out;have af:w.heap.size≤E.heap.size:=m.out.size;clear B aT S
     cases ob with
     | true=>
      have R1:Hid (E.ownsRow w.heap.size 9 1 u7 FB.length (ZAe FB)):=by
       have e:FB=FA:=by rw [aA.out]; simp
       rw [e]; exact aa.out
      go_wp2
      exact ⟨⟨k+1,by omega,by go_num,by rw [←aM.out]; exact R1.out,m.out⟩,by simp [intOf]; omega⟩
     | false=>
      go_wp2_with (first | (at_builtin; refine wpList_append_own _ rfl _ _ 26 rfl w.heap.size 9 i3 (.string ⟨#[]⟩) 1 16 (by kernel_rfl) bD bj aF bk rfl (by decide) _ _ _ rfl (aa.out.alloc _) ⟨E.heap.size,0,none⟩ 1 1 [.string SB] rfl rfl (ZAS _ _ _) (by intro z hz; rw [List.mem_singleton.1 hz]; rfl) ?d3 ?d4 ?d5 ?_))
      case d3=>unfold maxLen; omega
      case d4=>omega
      case d5=>first | omega | (simp; omega)
      intro x6 l g D _
      have R1:Hid (l.ownsRow w.heap.size 9 1 x6 FB.length (ZAe FB)):=by
       have e:FB=FA ++ [t]:=by rw [aA.out]; simp
       rw [e,Zaa4,ZJH]
       show World.ownsRow _ _ _ _ _ (FA.length+1) (ZAe FA ++ [ZDj t])
       rw [bC.out];exact g
      have R2:Hid (Below w.heap.size w l):=(m.out.alloc af _).grown D (by simp; omega) (fun x hx=>(aa.out.lt x hx).1)
      clear g D aa;go_wp2
      exact ⟨⟨k+1,by omega,by go_num,by rw [←aM.out]; exact R1.out,R2.out⟩,by simp [intOf]; omega⟩
  ·have aW:k=L.length:=by omega
   have S:Hid (f.ownsRow w.heap.size 9 1 u7 (L.filter fun t=>!opB d (clR P t)).length (ZAe (L.filter fun t=>!opB d (clR P t)))):=by
    have h:=HO.out;rw [aW,bE.out] at h;exact h
   subst aW;clear HO;go_wp2;go_ret;exact ⟨_,rfl,S.out,HB.out⟩
end Go.Proofs.YtkjkfceblmgogaaGreat
