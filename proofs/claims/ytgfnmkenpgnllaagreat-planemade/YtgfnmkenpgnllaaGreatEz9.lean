import Derived.Test.YtgfnmkenpgnllaaGreatEzC
import Derived.Test.YtgfnmkenpgnllaaGreatEzF
import Derived.Test.YtgfnmkenpgnllaaGreatHgA
namespace Go.Proofs.YtgfnmkenpgnllaaGreat
set_option maxRecDepth 100000
set_option maxHeartbeats 4000000
open Go.RowKit Lin
attribute [local go_sem ↓] Go.wp_at_zero Go.wp_at_succ
theorem ZQl(p:List Int):clO p 43=[ngL p]:=by simp [clO]
theorem ZQm(p:List Int):clO p 45=[p]:=by simp [clO]
theorem ZNp(z:List UInt8)(j:Nat)(h:j < z.length)(h2:j < (⟨z.toArray⟩:ByteArray).size):(⟨z.toArray⟩:ByteArray)[j]=z.getD j 0:=by
 show z.toArray[j]'(by simpa using h)=_
 simp [h]
theorem ZMC{α:Type}(f:α→Bool)(l:List α)(e:α)(k:Nat)(h:k < l.length):(l.take (k+1)).filter f=(l.take k).filter f ++ if f (l.getD k e) then [l.getD k e] else []:=by
 rw [ZEi l k h e,List.filter_append];generalize l.getD k e=x
 cases hh:f x <;> simp [hh]
theorem ZGI(d:Nat)(P:List (List Int))(L:List (List UInt8))(v u:Value)(w:World)(hv:Mat 0 22 3 w v P)(hu:Sl 0 9 w u (ZAc L))(hP:∀p∈P,p.length=d+1∧∀z∈p,z.natAbs≤20)(hd1:1≤d)(hd3:d≤3)(h6:P.length≤6)(hL:∀t∈L,t.length=P.length∧∀c∈t,c=43∨c=45)(hl:L.length≤100000) :
  Calls Tryz.prog 10 #[.int .i64 d,v,u] w fun e w'=>∃x,e=.returned x∧w'.ownsRow w.heap.size 9 1 x (L.filter fun t=>!opB d (clR P t)).length (ZAc (L.filter fun t=>!opB d (clR P t)))∧Below w.heap.size w w':=by
 obtain ⟨i0,hi,aG,aH,aX⟩:=info_parts Tryz.info22;obtain ⟨i3,bt,aJ,aK,aF⟩:=info_parts ZF4;obtain ⟨ro,rc,bI,bP,bM⟩:=ZAE hv;subst bI;obtain ⟨uo,uc,bF,bS,bR⟩:=ZDK hu;subst bF;have HV:Hid (Mat 0 22 3 w (.slice ro P.length rc) P):=hv;have HU:=hid hu;have bH:=hid hP;have bJ:=hid hL
 have bA:Hid (∀t∈L,∀x X,Mat 0 22 3 X x (clR P t)→Calls Tryz.prog 29 #[x,.int .i64 d] X fun e w'=>e=.returned (.bool (opB d (clR P t)))∧Below X.heap.size X w'):=fun t ht x X hx=>by
  obtain ⟨h1,h2⟩:=hL t ht
  have aA:∀r∈clR P t,r.length=d+1∧∀z∈r,z.natAbs≤20:=fun r hr=>by
   obtain ⟨i,hi,h⟩:=ZCx hr
   have hm:=hP (P.getD i []) (ZAT (by omega))
   rcases h with rfl | rfl
   ·exact hm
   ·refine ⟨by rw [ZGB]; exact hm.1,fun z hz=>?_⟩
    simp only [ngL,List.mem_map] at hz;obtain ⟨y,hy,rfl⟩:=hz;have:=hm.2 y hy;omega
  have hn:(clR P t).length≤12:=by
   have:=ZDb P t t.length
   show (clT P t t.length).length≤12
   omega
  have:=ZL9 d (clR P t) x X hx ⟨hd1,hd3,hn,fun r hr=>(aA r hr).1,fun r hr=>(aA r hr).2⟩
  rw [ZQi fun r hr=>(aA r hr).1] at this
  exact this
 have bl:Hid (∀k,k < L.length→(L.take (k+1)).filter (fun t=>!opB d (clR P t))=(L.take k).filter (fun t=>!opB d (clR P t)) ++ if !opB d (clR P (L.getD k [])) then [L.getD k []] else []):=fun k hk=>ZMC _ L [] k hk
 have aU:Hid (∀k,((L.take k).filter fun t=>!opB d (clR P t)).length≤100000):=fun k=>by
  refine Zaa8 (List.length_filter_le _ _) ?_;rw [List.length_take]; omega
 have bD:Hid ((L.take L.length).filter (fun t=>!opB d (clR P t))=L.filter fun t=>!opB d (clR P t)):=by show _=_; rw [List.take_length]
 clear hv hu hP hL;go_enter Tryz.func10,Tryz.ntmps10;go_wp2
 go_loopw [7,8,9,10,11] (fun x i _ _ _ wr=>∃k:Nat,k≤L.length∧i=.int .i64 k∧wr.ownsRow w.heap.size 9 1 x ((L.take k).filter fun t=>!opB d (clR P t)).length (ZAc ((L.take k).filter fun t=>!opB d (clR P t)))∧Below w.heap.size w wr) (fun _ i _ _ _ _=>L.length-(intOf i).toNat)
 case atStart=>exact ⟨0,Za5 _,rfl,World.ownsRow_nil _ _ _ _,Below.refl _ _⟩
 case round=>
  obtain ⟨k,hk,rfl,aE,J⟩:=hrel
  obtain ⟨l,rfl⟩:∃l,l=wr:=⟨_,rfl⟩
  have HO:=hid aE;have HB:=hid J;have aP:w.heap.size≤l.heap.size:=J.size;clear aE J
  by_cases hlt:k < L.length
  ·obtain ⟨ub,uf,bz,Q⟩:=ZCf HU.out hlt
   subst bz
   have aC:L.getD k []∈L:=by rw [Za2,Za9 hlt]; exact List.getElem_mem _
   obtain ⟨aB,aM⟩:=bJ.out _ aC;have aO:=bA.out _ aC;have aV:=bl.out k hlt;have bO:=aU.out k
   obtain ⟨SB,R⟩:∃SB:ByteArray,SB=⟨(L.getD k []).toArray⟩:=⟨_,rfl⟩
   have ay:ZDJ (L.getD k [])=.string SB:=by rw [R]; rfl
   rw [ay] at Q
   have aq:Hid (∀X,Below w.heap.size w X→X.cell? ⟨ub,uf+k,none⟩=some (.string SB)):=fun X hX=>(hX.cell (ZAI Q)).trans Q
   have bQ:SB.size=P.length:=by rw [R,←aB]; rfl
   have bE:Hid (∀j,(hj:j < P.length)→∃hx:j < SB.size,SB[j]=(L.getD k []).getD j 0):=fun j hj=>by
    refine ⟨by omega,?_⟩
    have hx:j < (L.getD k []).length:=by omega
    simp only [R];exact ZNp _ _ hx _
   have bu:Hid (∀j,j < P.length→(L.getD k []).getD j 0=43∨(L.getD k []).getD j 0=45):=fun j hj=>aM _ (ZQa (by omega))
   have bG:=hid ay
   have bv:Hid (clT P (L.getD k []) P.length=clR P (L.getD k [])):=by show _=_; rw [←aB]; rfl
   have bp:=hid aO;have au:=hid aV
   have bw:Hid (∀j,clT P (L.getD k []) (j+1)=clT P (L.getD k []) j ++ clO (P.getD j []) ((L.getD k []).getD j 0)):=fun j=>ZBY P _ j
   have bC:Hid (∀j,j≤6→(clT P (L.getD k []) j).length≤12):=fun j hj=>by have:=ZDb P (L.getD k []) j; omega
   have bB:Hid (clT P (L.getD k []) 0=[]):=rfl;clear bl aU aV ay R aB aM aC aO Q
   generalize (L.take k).filter (fun t=>!opB d (clR P t))=FA at *
   obtain ⟨FB,am⟩:∃FB,FB=(L.take (k+1)).filter (fun t=>!opB d (clR P t)):=⟨_,rfl⟩
   rw [←am] at au;have aZ:=hid am;clear am;generalize L.getD k []=t at *;generalize opB d (clR P t)=ob at *
   have bT:(k:Int) < (L.length:Int):=by omega
   have bL:(0:Int)≤(k:Int):=by omega
   go_wp2
   go_loopw [9,10,11] (fun x i _ a=>∃j:Nat,j≤P.length∧i=.int .i64 j∧Fr l.heap.size 22 3 a x (clT P t j)∧Below l.heap.size l a) (fun _ i _ _=>P.length-(intOf i).toNat)
   case atStart=>exact ⟨0,Za5 _,rfl,by rw [bB.out]; exact Fr.nil _ _ _ _,Below.refl _ _⟩
   case round=>
    obtain ⟨j,hj,rfl,bh,aa⟩:=hrel
    obtain ⟨a,rfl⟩:∃a,a=wr:=⟨_,rfl⟩
    have S:=hid bh;have an:=hid aa;have s:Hid (Below w.heap.size w a):=HB.out.trans (aa.mono aP);have ah:l.heap.size≤a.heap.size:=aa.size;clear bh aa
    by_cases hlj:j < P.length
    ·obtain ⟨b,o,cp,pv,hs,_,aj,af⟩:=ZAP HV.out hlj
     simp only [Za3] at hs;obtain ⟨rfl,-,rfl⟩:=hs;have ak:P.getD j []∈P:=ZAT hlj;obtain ⟨bV,aW⟩:=bE.out j hlj;have bq:=bu.out j hlj;have n:Hid (clT P t (j+1)=clT P t j ++ clO (P.getD j []) (t.getD j 0)):=bw.out j
     have bU:(clT P t j).length≤12:=bC.out j (by omega)
     have aR:=aq.out a s.out
     obtain ⟨p,hp⟩:∃p,p=P.getD j []:=⟨_,rfl⟩
     rw [←hp] at af ak n;clear hp;obtain ⟨U,aD⟩:=bH.out p ak;obtain ⟨po,pc,aI,_,_⟩:=ZAH af;rw [U] at aI;subst aI;have ar:a.cell? ⟨b,o+j,none⟩=some (.slice po (d+1) pc):=(s.out.cell (ZAI aj)).trans aj
     have aY:Hid (Calls Tryz.prog 27 #[.slice po (d+1) pc] a fun e w'=>∃uo uc,e=.returned (.slice uo (d+1) uc)∧w'.ownsRow a.heap.size 3 1 (.slice uo (d+1) uc) (d+1) (ZAB p)∧Below a.heap.size a w'):=by
      refine (ZBh 0 p _ a (af.below s.out (Za4 _)) (by omega)).mono ?_
      rintro e w' ⟨u,rfl,g,hb⟩;rw [U] at g;obtain ⟨uo,uc,rfl⟩:=ZAD g;exact ⟨uo,uc,rfl,g,hb⟩
     have G:Hid (p.length=d+1∧∀z∈p,z.natAbs≤20):=⟨U,aD⟩
     have bN:(j:Int) < (P.length:Int):=by omega
     have bK:(0:Int)≤(j:Int):=by omega
     clear af aj ak U aD;generalize clT P t j=A at *
     go_wp2_with fail
     refine aY.out.mono ?_;rintro e N ⟨yo,yc,rfl,aL,V⟩;have M:=hid aL;have aw:=hid V;have bj:a.heap.size≤N.heap.size:=V.size;have bg:=aq.out N (s.out.trans (V.mono s.out.size));clear aL V aY ar aR
     rcases bq with hc | hc
     ·rw [hc] at aW n
      rw [ZQl] at n
      have aN:Hid (Calls Tryz.prog 28 #[.slice yo (d+1) yc] N fun e w'=>∃Y T,e=.returned (.slice Y (d+1) T)∧w'.ownsRow N.heap.size 3 1 (.slice Y (d+1) T) (d+1) (ZAB (ngL p))∧Below N.heap.size N w'):=by
       refine (ZBo 0 p _ N (by rw [←G.out.1] at M; simpa [G.out.1] using Sl.own M.out) (by rw [G.out.1]; omega) (fun z hz=>by have:=G.out.2 z hz; omega)).mono ?_
       rintro e w' ⟨u,rfl,g,hb⟩;rw [G.out.1] at g;obtain ⟨Y,T,rfl⟩:=ZAD g;exact ⟨Y,T,rfl,g,hb⟩
      clear hc M
      go_wp2_with fail
      refine aN.out.mono ?_;rintro e E ⟨Y,T,rfl,bk,B⟩;have m:Hid (Below a.heap.size a E):=aw.out.trans (B.mono bj);have ag:a.heap.size≤E.heap.size:=m.out.size;have az:Hid (Sl 0 3 E (.slice Y (d+1) T) (ZAB (ngL p))):=Sl.own bk;obtain ⟨vs,g1,g2,g3⟩:=S.out.below m.out (Za4 _);have G2:=hid g2
      have F:Hid (∀v' f,f.ownsRow l.heap.size 22 1 v' (A.length+1) (vs ++ [.slice Y (d+1) T])→(E.alloc (.cells #[.slice Y (d+1) T] 22)).grownBy f u9.ownBlock→Fr l.heap.size 22 3 f v' (A ++ [ngL p])∧Below l.heap.size l f):=fun v' f g D=>ZCZ (an.out.trans (m.out.mono ah)) g1 g2 g3 az.out g D
      clear g1 g2 g3 bk B aN bg
      go_wp2_with (first | (at_builtin; refine wpList_append_own _ rfl _ _ 25 rfl l.heap.size 22 i0 (.slice none 0 0) 1 24 Tryz.underlying25 hi aG aH aX rfl (by decide) _ _ _ rfl (G2.out.alloc _) ⟨E.heap.size,0,none⟩ 1 1 [.slice Y (d+1) T] rfl rfl (ZAQ _ _ _) (ZAL _ _ _) ?d3 ?d4 ?d5 ?_))
      case d3=>unfold maxLen; omega
      case d4=>omega
      case d5=>first | omega | (simp; omega)
      intro x6 f g D _;obtain ⟨q1,q2⟩:=F.out x6 f g D
      have R1:Hid (Fr l.heap.size 22 3 f x6 (clT P t (j+1))):=by show Fr _ _ _ _ _ _; rw [n.out]; exact q1
      have R2:=hid q2;clear q1 q2 g D F G2;go_wp2
      exact ⟨⟨j+1,by omega,by go_num,R1.out,R2.out⟩,by simp [intOf]; omega⟩
     ·rw [hc] at aW n
      rw [ZQm] at n;have az:Hid (Sl 0 3 N (.slice yo (d+1) yc) (ZAB p)):=Sl.own M.out;obtain ⟨vs,g1,g2,g3⟩:=S.out.below aw.out (Za4 _);have G2:=hid g2
      have F:Hid (∀v' f,f.ownsRow l.heap.size 22 1 v' (A.length+1) (vs ++ [.slice yo (d+1) yc])→(N.alloc (.cells #[.slice yo (d+1) yc] 22)).grownBy f u9.ownBlock→Fr l.heap.size 22 3 f v' (A ++ [p])∧Below l.heap.size l f):=fun v' f g D=>ZCZ (an.out.trans (aw.out.mono ah)) g1 g2 g3 az.out g D
      clear g1 g2 g3 M hc
      go_wp2_with (first | (at_builtin; refine wpList_append_own _ rfl _ _ 25 rfl l.heap.size 22 i0 (.slice none 0 0) 1 24 Tryz.underlying25 hi aG aH aX rfl (by decide) _ _ _ rfl (G2.out.alloc _) ⟨N.heap.size,0,none⟩ 1 1 [.slice yo (d+1) yc] rfl rfl (ZAQ _ _ _) (ZAL _ _ _) ?d3 ?d4 ?d5 ?_))
      case d3=>unfold maxLen; omega
      case d4=>omega
      case d5=>first | omega | (simp; omega)
      intro x6 f g D _;obtain ⟨q1,q2⟩:=F.out x6 f g D
      have R1:Hid (Fr l.heap.size 22 3 f x6 (clT P t (j+1))):=by show Fr _ _ _ _ _ _; rw [n.out]; exact q1
      have R2:=hid q2;clear q1 q2 g D F G2 bg;go_wp2
      exact ⟨⟨j+1,by omega,by go_num,R1.out,R2.out⟩,by simp [intOf]; omega⟩
    ·have aQ:j=P.length:=by omega
     have aT:Hid (Mat 0 22 3 a u9 (clR P t)):=by
      show Mat _ _ _ _ _ _
      rw [←bv.out,←aQ];exact S.out.mat0
     subst aQ;have O:Hid (a.ownsRow w.heap.size 9 1 u7 FA.length (ZAc FA)):=ZAN HO.out an.out (Za4 _);have ai:=bp.out u9 a aT.out;have aS:=hid ai;clear ai aT S
     go_wp2_with fail
     refine aS.out.mono ?_;rintro e E ⟨rfl,B⟩;have m:Hid (Below w.heap.size w E):=s.out.trans (B.mono s.out.size);have ae:Hid (E.ownsRow w.heap.size 9 1 u7 FA.length (ZAc FA)):=ZAN O.out B (Za4 _);have aR:=aq.out E m.out;have ag:w.heap.size≤E.heap.size:=m.out.size;clear B aS O
     cases ob with
     | true=>
      have R1:Hid (E.ownsRow w.heap.size 9 1 u7 FB.length (ZAc FB)):=by
       have e:FB=FA:=by rw [au.out]; simp
       rw [e]; exact ae.out
      go_wp2
      exact ⟨⟨k+1,by omega,by go_num,by rw [←aZ.out]; exact R1.out,m.out⟩,by simp [intOf]; omega⟩
     | false=>
      go_wp2_with (first | (at_builtin; refine wpList_append_own _ rfl _ _ 31 rfl w.heap.size 9 i3 (.string ⟨#[]⟩) 1 16 (by kernel_rfl) bt aJ aK aF rfl (by decide) _ _ _ rfl (ae.out.alloc _) ⟨E.heap.size,0,none⟩ 1 1 [.string SB] rfl rfl (ZAQ _ _ _) (by intro z hz; rw [List.mem_singleton.1 hz]; rfl) ?d3 ?d4 ?d5 ?_))
      case d3=>unfold maxLen; omega
      case d4=>omega
      case d5=>first | omega | (simp; omega)
      intro x6 f g D _
      have R1:Hid (f.ownsRow w.heap.size 9 1 x6 FB.length (ZAc FB)):=by
       have e:FB=FA ++ [t]:=by rw [au.out]; simp
       rw [e,Zaa4,ZI4]
       show World.ownsRow _ _ _ _ _ (FA.length+1) (ZAc FA ++ [ZDJ t])
       rw [bG.out];exact g
      have R2:Hid (Below w.heap.size w f):=(m.out.alloc ag _).grown D (by simp; omega) (fun x hx=>(ae.out.lt x hx).1)
      clear g D ae;go_wp2
      exact ⟨⟨k+1,by omega,by go_num,by rw [←aZ.out]; exact R1.out,R2.out⟩,by simp [intOf]; omega⟩
  ·have bi:k=L.length:=by omega
   have O:Hid (l.ownsRow w.heap.size 9 1 u7 (L.filter fun t=>!opB d (clR P t)).length (ZAc (L.filter fun t=>!opB d (clR P t)))):=by
    have h:=HO.out;rw [bi,bD.out] at h;exact h
   subst bi;clear HO;go_wp2;go_ret;exact ⟨_,rfl,O.out,HB.out⟩
end Go.Proofs.YtgfnmkenpgnllaaGreat
