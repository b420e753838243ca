import Derived.Test.YtgfnmkenpgnllaaGreatWyA
set_option maxRecDepth 100000
set_option maxHeartbeats 4000000
namespace Go.Proofs.YtgfnmkenpgnllaaGreat
open Lin
def sm(t:List (Nat→Int))(a:Nat→Int)(j:Nat):Int:=sumN t.length fun i=>a i*(t.getD i fun _=>0) j
theorem ZFL:∀(n:Nat) (f:Nat→Int),sumN (n+1) f=f 0+sumN n fun i=>f (i+1)
 | 0,f=>by simp [sumN]
 | n+1,f=>by
  have h:=ZFL n f
  show sumN (n+1) f+f (n+1)=f 0+(sumN n (fun i=>f (i+1))+f (n+1))
  rw [h]; omega
theorem ZHj(r:Nat→Int)(t:List (Nat→Int))(a:Nat→Int)(j:Nat):sm (r :: t) a j=a 0*r j+sm t (fun i=>a (i+1)) j:=by
 unfold sm;rw [List.length_cons,ZFL];rfl
theorem ZQH(a:Nat→Int)(j:Nat):sm [] a j=0:=rfl
theorem ZQI(t:List (Nat→Int))(x y:Int)(a b:Nat→Int)(j:Nat):sm t (fun i=>x*a i+y*b i) j=x*sm t a j+y*sm t b j:=by
 unfold sm;rw [←ZAX,←ZAX,←ZA8]
 exact ZAC fun i _=>by grind
theorem ZIi{t:List (Nat→Int)}{a b:Nat→Int}(h:∀i,i < t.length→a i=b i)(j:Nat):sm t a j=sm t b j:=
 ZAC fun i hi=>by rw [h i hi]
theorem ZGg(d:Nat)(c:Nat→Int)(t:List (Nat→Int))(a:Nat→Int):dot d c (sm t a)=sumN t.length fun i=>a i*dot d c (t.getD i fun _=>0):=by
 unfold dot sm
 have:(fun j=>c j*sumN t.length fun i=>a i*(t.getD i fun _=>0) j)=fun j=>sumN t.length fun i=>c j*(a i*(t.getD i fun _=>0) j):=by
  funext j; rw [ZAX]
 rw [this,ZBT]
 refine ZAC fun i _=>?_
 rw [←ZAX]
 exact ZAC fun j _=>by grind
theorem ZCt{n:Nat}{f:Nat→Int}(h:∀i,i < n→f i≤0):sumN n f≤0:=by
 induction n with
 | zero=>simp [sumN]
 | succ n ih=>
  have a:=ih fun i hi=>h i (by omega)
  have b:=h n (by omega)
  show sumN n f+f n≤0
  omega
theorem ZEW{n:Nat}{f:Nat→Int}(h:∀i,i < n→0≤f i):0≤sumN n f:=by
 induction n with
 | zero=>simp [sumN]
 | succ n ih=>
  have a:=ih fun i hi=>h i (by omega)
  have b:=h n (by omega)
  show 0≤sumN n f+f n
  omega
theorem ZKk{Z:List (Nat→Int)}{i:Nat}(h:i < Z.length):(Z.getD i fun _=>0)∈Z:=by simp [h]
def InC(d:Nat)(Z:List (Nat→Int))(g:Nat→Int):Prop:=
 ∃(s:Int) (a:Nat→Int),0 < s∧(∀i,i < Z.length→0≤a i)∧∀j,j < d→s*g j=sm Z a j
theorem ZOA(d:Nat):∀(n:Nat) (Z:List (Nat→Int)),Z.length=n→∀g:Nat→Int,InC d Z g∨∃c:Nat→Int,(∀z∈Z,dot d c z≤0)∧0 < dot d c g:=by
 intro n
 induction n with
 | zero=>
  intro Z b g;have:Z=[]:=List.eq_nil_of_length_eq_zero b;subst this
  by_cases h:∃i,i < d∧g i≠0
  ·exact .inr ⟨g,fun z hz=>by simp at hz,ZHO h⟩
  ·refine .inl ⟨1,fun _=>0,by decide,fun i hi=>by simp at hi,fun j hj=>?_⟩
   rw [ZQH]
   have:g j=0:=Za6 fun hne=>h ⟨j,hj,hne⟩
   rw [this]; rfl
 | succ n ih=>
  intro Z b g
  match Z,b with
  | z0 :: Z',b=>
   have o:Z'.length=n:=by simpa using b
   rcases ih Z' o g with ⟨s,a,hs,ha,he⟩ | ⟨c,hc,hg⟩
   ·refine .inl ⟨s,fun i=>if i=0 then 0 else a (i-1),hs,fun i hi=>?_,fun j hj=>?_⟩
    ·by_cases h0:i=0
     ·simp [h0]
     ·simp only [h0,if_false]
      exact ha _ (by simp at hi; omega)
    ·rw [ZHj,he j hj]
     simp
   ·by_cases hz0:dot d c z0≤0
    ·exact .inr ⟨c,fun z hz=>by
      rcases List.mem_cons.1 hz with rfl | hz
      ·exact hz0
      ·exact hc z hz,hg⟩
    ·obtain ⟨p,r⟩:∃p,p=dot d c z0:=⟨_,rfl⟩
     have f:0 < p:=by omega
     rcases ih (Z'.map fun z=>fun k=>p*z k+(-(dot d c z))*z0 k) (by simpa using o) (fun k=>p*g k+(-(dot d c g))*z0 k) with ⟨s,a,hs,ha,he⟩ | ⟨e,h1,h2⟩
     ·have m:∀j,sm (Z'.map fun z=>fun k=>p*z k+(-(dot d c z))*z0 k) a j=p*sm Z' a j-dot d c (sm Z' a)*z0 j:=by
       intro j;rw [ZGg];unfold sm;rw [Zab1,←ZAX,←ZAU,Int.sub_eq_add_neg,←ZBK,←ZA8]
       refine ZAC fun i hi=>?_
       have t:(Z'.map fun z=>fun k=>p*z k+(-(dot d c z))*z0 k).getD i (fun _=>0)=fun k=>p*(Z'.getD i fun _=>0) k+(-(dot d c (Z'.getD i fun _=>0)))*z0 k:=by
        simp [hi]
       rw [t]
       grind
      have x:dot d c (sm Z' a)≤0:=by
       rw [ZGg]
       refine ZCt fun i hi=>?_
       exact Int.mul_nonpos_of_nonneg_of_nonpos (ha i (by simpa using hi)) (hc _ (ZKk hi))
      refine .inl ⟨s*p,fun i=>if i=0 then s*dot d c g-dot d c (sm Z' a) else p*a (i-1),Int.mul_pos hs f,fun i hi=>?_,fun j hj=>?_⟩
      ·by_cases h0:i=0
       ·simp only [h0,if_true]
        have:=Int.mul_pos hs hg;omega
       ·simp only [h0,if_false]
        exact Int.mul_nonneg (Int.le_of_lt f) (ha _ (by simp at hi ⊢; omega))
      ·have l:=he j hj
       rw [m j] at l;rw [ZHj]
       have v:sm Z' (fun i=>if i+1=0 then s*dot d c g-dot d c (sm Z' a) else p*a (i+1-1)) j=p*sm Z' a j:=by
        have:=ZQI Z' p 0 a a j;rw [Int.zero_mul,Int.add_zero] at this;rw [←this]
        exact ZIi (fun i _=>by simp) j
       rw [v];simp only [if_true]
       grind
     ·refine .inr ⟨fun k=>p*e k+(-(dot d e z0))*c k,fun z hz=>?_,?_⟩
      ·rw [ZBI]
       rcases List.mem_cons.1 hz with rfl | hz
       ·rw [←r]; have:p*dot d e z + -dot d e z*p=0:=by grind
        omega
       ·have l:=h1 _ (List.mem_map.2 ⟨z,hz,rfl⟩)
        rw [ZAV,ZBI,ZAV d z,ZAV d z0] at l
        have:p*dot d e z + -dot d e z0*dot d c z=p*dot d e z + -dot d c z*dot d e z0:=by grind
        omega
      ·rw [ZBI]
       rw [ZAV,ZBI,ZAV d g,ZAV d z0] at h2
       have:p*dot d e g + -dot d e z0*dot d c g=p*dot d e g + -dot d c g*dot d e z0:=by grind
       omega
end Go.Proofs.YtgfnmkenpgnllaaGreat
namespace Go.Proofs.YtgfnmkenpgnllaaGreat
open Go.RowKit
attribute [local go_sem ↓] Go.wp_at_zero Go.wp_at_succ
theorem ZM1{rs:List (List Int)}{t:Nat}(h:t < rs.length)(i:Nat) :
  (rs.take (t+1)).map (fun r=>r.getD i 0)=(rs.take t).map (fun r=>r.getD i 0) ++ [(rs.getD t []).getD i 0]:=by
 rw [Zaa1 h,List.map_append,Za2 (l:=rs),Za9 h];rfl
theorem ZO7{g:List Int}{rs:List (List Int)}{k:Nat}(h:k < g.length):(ZA4 g rs).getD k []=ZHe rs g k:=by simp [ZA4,h]
theorem ZFM(B:Nat)(rs:List (List Int))(g:List Int)(v x:Value)(w:World)(hv:Mat B 22 3 w v rs)(hx:Sl B 3 w x (ZAB g))
 (hr:∀r∈rs,g.length≤r.length∧∀z∈r,z.natAbs≤60)(hg:∀z∈g,z.natAbs≤60)(hg5:g.length≤5)(hc4:rs.length≤1000) :
  Calls Tryz.prog 106 #[v,x] w fun e w'=>∃f,e=.returned (.slice (some ⟨w.heap.size,0,none⟩) g.length g.length)∧Ac w w.heap.size g.length g.length (ZA4 g rs) f w':=by
 obtain ⟨i0,hi,aT,aW,bj⟩:=info_parts Tryz.info22;obtain ⟨i3,X,L,M,J⟩:=info_parts Tryz.info3;obtain ⟨ao,aD,aE,bi,aV⟩:=ZAE hv;obtain ⟨xo,bh,aG,aP,bg⟩:=ZAH hx;subst aE aG;have HV:Hid (Mat B 22 3 w (.slice ao rs.length aD) rs):=hv;have HX:=hid hx;have HR:=hid hr;have HG:=hid hg;clear hv hx hr hg
 have aR:=run_make_row' (P:=Tryz.prog) 25 22 (.slice none 0 0) 24 Tryz.underlying25 Tryz.info22 rfl .i64 .i64 g.length (by omega) (by omega)
 have ar:Hid (Ac w w.heap.size g.length 0 (ZA4 g rs) (fun _=>.slice none 0 0) (w.alloc (.cells (madeCells #[.slice none 0 0] g.length) 22))):=by
  refine ⟨ZAG _ _,by omega,?_,fun j hj=>absurd hj (by omega),fun _ _ _=>rfl⟩
  exact World.rowIs_made w (.slice none 0 0) g.length 22
 go_enter Tryz.func106,Tryz.ntmps106;go_wp2
 go_loopw [15,6,7,9] (fun i _ _ _ wr=>∃(k:Nat) (f:Nat→Value),k≤g.length∧i=.int .i64 k∧Ac w w.heap.size g.length k (ZA4 g (rs)) f wr) (fun i _ _ _ _=>g.length-(intOf i).toNat)
 case atStart=>exact ⟨0,_,Za5 _,rfl,ar.out⟩
 case round=>
  obtain ⟨k,f,hk,rfl,ha⟩:=hrel
  obtain ⟨d,rfl⟩:∃d,d=wr:=⟨wr,rfl⟩
  have HA:=hid ha;have m:Hid (Below w.heap.size w d):=ha.bel;clear ha
  by_cases hlt:k < g.length
  ·obtain ⟨xb,aU,aZ,an,_,aw⟩:=ZAJ (HX.out.below m.out (Za4 _)) hlt
   simp only [Za3] at an;obtain ⟨rfl,_,rfl⟩:=an
   have hz:=HG.out (g.getD k 0) (by simp [hlt])
   have HZ:Hid (g.getD k 0=g.getD k 0):=rfl;generalize hgk:g.getD k 0=gk at *;have aA:=hid hgk;clear hgk HZ
   have hI:Ai d (w.heap.size) g.length k 0 f [] (.slice none 0 0) d:=by
    refine ⟨Chg.refl _ _,?_,World.ownsRow_nil _ _ _ _,rfl⟩
    have e:(fun j=>if j=k then .slice none 0 0 else f j)=f:=by
     funext j
     by_cases ej:j=k
     ·subst ej; simp [HA.out.free j (Za4 _) hlt]
     ·simp [ej]
    rw [e];exact HA.out.row
   have HI:=hid hI;clear hI
   have bp:(0:Int)≤(k:Int):=by omega
   have aY:(k:Int) < (g.length:Int):=by omega
   go_wp2
   go_loopw [22,9] (fun i _ wq=>∃(t:Nat) (af:Value),t≤rs.length∧i=.int .i64 t∧Ai d (w.heap.size) g.length k t f (((rs).take t).map (fun r=>r.getD k 0)) af wq) (fun i _ _=>rs.length-(intOf i).toNat)
   case atStart=>exact ⟨0,_,Za5 _,rfl,HI.out⟩
   case round=>
    obtain ⟨t,af,ht,rfl,a⟩:=hrel
    obtain ⟨c,rfl⟩:∃c,c=wr:=⟨wr,rfl⟩
    have n:=hid a;have Q:Hid (w.heap.size < d.heap.size):=HA.out.lt
    have aB:Hid (Below w.heap.size w c):=⟨a.chg.os.trans m.out.os,a.chg.tape.trans m.out.tape,a.chg.output.trans m.out.output,Zaa8 m.out.size a.chg.size,fun b hb=>(a.chg.block b (by have:=m.out.size; omega) (by omega)).trans (m.out.block b hb)⟩
    obtain ⟨S,U,aa⟩:=ZAD a.own;subst aa
    have am:c.cell? ⟨w.heap.size,k,none⟩=some (.slice S t U):=by
     have:=a.row.cell (i:=k) hlt
     simpa using this
    have aC:c.frozen? ⟨w.heap.size,k,none⟩=false:=a.row.frozen k
    have HO:Hid (c.ownsRow d.heap.size 3 1 (.slice S t U) t (ZAB (((rs).take t).map (fun r=>r.getD k 0)))):=a.own
    have O:Hid (d.heap.size≤c.heap.size):=a.chg.size;clear a
    by_cases htl:t < rs.length
    ·obtain ⟨vb,bq,bl,rv,ai,_,aq,aj⟩:=ZAP (HV.out.below aB.out (Za4 _)) htl
     simp only [Za3] at ai;obtain ⟨rfl,_,rfl⟩:=ai
     have N:=HR.out (rs.getD t []) (by simp [htl])
     obtain ⟨rb,aS,aQ,ay,aL,G⟩:=ZAJ aj (k:=k) (by omega)
     subst ay
     obtain ⟨z,F⟩:∃z,z=(rs.getD t []).getD k 0:=⟨_,rfl⟩
     have bu:=hid F;rw [←F] at G
     have aO:(k:Int) < ((rs.getD t []).length:Int):=by have:=N.1; omega
     have au:Hid (((rs).take (t+1)).map (fun r=>r.getD k 0)=((rs).take t).map (fun r=>r.getD k 0) ++ [z]):=by
      show _=_
      rw [ZM1 htl k,F]
     generalize (rs.getD t []).length=rl at *
     have ae:(c.alloc (.cells #[.int .i64 z] 3)).cell? ⟨w.heap.size,k,none⟩=some (.slice S t U):=((ZAG c _).cell (p:=⟨w.heap.size,k,none⟩) (by have h1:=Q.out; have h2:=O.out; show w.heap.size < _; omega)).trans am
     have az:Hid (∀T A,A.ownsRow d.heap.size 3 1 T (t+1) (ZAB (((rs).take t).map (fun r=>r.getD k 0)) ++ [.int .i64 z])→(c.drew.alloc (.cells #[.int .i64 z] 3)).grownBy A (Value.slice S t U).ownBlock→
       A.cell? ⟨w.heap.size,k,none⟩=some (.slice S t U)∧A.frozen? ⟨w.heap.size,k,none⟩=false∧Ai d (w.heap.size) g.length k (t+1) f (((rs).take (t+1)).map (fun r=>r.getD k 0)) T (A.setCell ⟨w.heap.size,k,none⟩ T)):=fun T A D hg5=>by
      have h0:Ai d (w.heap.size) g.length k t f (((rs).take t).map (fun r=>r.getD k 0)) (.slice S t U) c.drew:=⟨n.out.chg.drew,n.out.row,n.out.own,n.out.len⟩
      rw [au.out];exact h0.push Q.out hlt D hg5
     have ah:Hid (∀j u,[Value.int .i64 z][j]?=some u→(c.drew.alloc (.cells #[.int .i64 z] 3)).cell? ((⟨c.heap.size,0,none⟩:Addr).add j)=some u):=ZAQ c.drew _ _
     have aF:Hid (d.heap.size≤(c.drew.alloc (.cells #[.int .i64 z] 3)).heap.size):=by
      show _≤_
      have:=O.out;rw [size_alloc]
      show _≤c.heap.size+1
      omega
     have aJ:t+1≤maxLen:=by unfold maxLen; omega
     have bt:t≤1000:=by omega
     have aK:(0:Int)≤(t:Int):=by omega
     have bk:(t:Int) < (rs.length:Int):=by omega
     clear N aj F;go_wp2
     go_region_law (refine ZAo (o:={ dst:=some 37,op:=_,type:=_,pos:=_,after:=_,guard:=_ }) (by rfl) _ _ 22 (by rfl) d.heap.size 3 i3 (.int .i64 0) 1 8 Tryz.underlying22 X L M J rfl (by decide) _ _ _ (by rfl) (HO.out.alloc _) ⟨c.heap.size,0,none⟩ 1 1 [.int .i64 z] (by rfl) rfl ah.out (ZA2 _) aJ (by omega) aF.out ?_; intro T A D hg5; obtain ⟨y,s,R⟩:=ZAD D; subst R; have E:Hid _:=az.out _ A D hg5; have V:=E.out.1; have Y:=E.out.2.1; clear D hg5)
     all_goals
      have HN:Hid (Ai d (w.heap.size) g.length k (t+1) f (((rs).take (t+1)).map (fun r=>r.getD k 0)) (.slice y (t+1) s) (A.setCell ⟨w.heap.size,k,none⟩ (.slice y (t+1) s))):=E.out.2.2
      clear E V Y am ae aC;go_wp2
      go_roundw
      case rel=>exact ⟨t+1,_,by omega,by go_num,HN.out⟩
      case measure=>simp [intOf]; omega
    ·have aH:t=rs.length:=by omega
     subst aH;clear htl ht;have ag:(rs).take rs.length=rs:=List.take_length
     have aN : -60≤gk:=by omega
     have aM:gk≤60:=by omega
     have aX:d.heap.size≤c.heap.size:=O.out
     obtain ⟨l,hl⟩:∃l,l=((rs).take rs.length).map (fun r=>r.getD k 0):=⟨_,rfl⟩
     have HL:Hid (l=(rs).map (fun r=>r.getD k 0)):=by rw [ag] at hl; exact hl
     rw [←hl] at n HO;clear ag hl
     go_wp2_with (first | (at_builtin; refine wpList_append_own _ rfl _ _ 22 rfl d.heap.size 3 i3 (.int .i64 0) 1 8 Tryz.underlying22 X L M J rfl (by decide) _ _ _ rfl (HO.out.alloc _) ⟨c.heap.size,0,none⟩ 1 1 [.int .i64 (-gk)] rfl rfl (ZAQ _ _ _) (ZA2 _) ?c3 ?c4 ?c5 ?_))
     case c3=>unfold maxLen; omega
     case c4=>omega
     case c5=>simp; omega
     intro T w3 D ak _;obtain ⟨y,s,R⟩:=ZAD D;subst R;have E:=n.out.push Q.out hlt D ak;have V:=E.1;have Y:=E.2.1
     have HN:Hid (Ac w w.heap.size g.length (k+1) (ZA4 g (rs)) (fun j=>if j=k then .slice y (rs.length+1) s else f j) (w3.setCell ⟨w.heap.size,k,none⟩ (.slice y (rs.length+1) s))):=
      HA.out.next E.2.2 (by rw [ZO7 hlt,HL.out,ZHe,aA.out])
     clear E D ak;go_wp2
     go_roundw
     case rel=>exact ⟨k+1,_,by omega,by go_num,HN.out⟩
     case measure=>simp [intOf]; omega
  ·have aI:k=g.length:=by omega
   subst aI;go_wp2;go_ret;exact ⟨f,rfl,HA.out⟩
end Go.Proofs.YtgfnmkenpgnllaaGreat
namespace Go.Proofs.YtgfnmkenpgnllaaGreat
open Go.RowKit
theorem ZM2(P:List (List Int))(x:List Int)(k:Nat)(h:k < x.length):pks P [] (x.take (k+1))=pks P [] (x.take k) ++ [P.getD (x.getD k 0).toNat []]:=by
 rw [ZBy x k h];simp [pks]
theorem ZB5(B:Nat)(P:List (List Int))(x:List Int)(v u:Value)(w:World)(hv:Mat B 22 3 w v P)(hu:Sl B 3 w u (ZAB x))(hx:∀i,i < x.length→0≤x.getD i 0∧x.getD i 0 < P.length)(hl:x.length≤1000) :
  Calls Tryz.prog 59 #[v,u] w fun e w'=>∃z,e=.returned z∧Rws w.heap.size 22 3 w' z (pks P [] x)∧Below w.heap.size w w':=by
 obtain ⟨i0,g,F,O,A⟩:=info_parts Tryz.info22;obtain ⟨ao,S,n,ag,ak⟩:=ZAE hv;obtain ⟨bo,an,aa,af,aj⟩:=ZAH hu;subst n aa;have HV:Hid (Mat w.heap.size 22 3 w (.slice ao P.length S) P):=hv.any (Za4 _);have HU:=hid hu;have HX:=hid hx;clear hv hu hx
 have ah:=run_make_room (P:=Tryz.prog) 25 22 (.slice none 0 0) 24 Tryz.underlying25 Tryz.info22 rfl .i64 .i64 x.length (by omega) (by omega)
 have r:Hid (Rws w.heap.size 22 3 (w.alloc (.cells (madeCells #[.slice none 0 0] x.length) 22)) (.slice (some ⟨w.heap.size,0,none⟩) 0 x.length) []):=
  ⟨[],rfl,World.ownsRow_made w _ x.length (Za4 _) (by unfold maxLen; omega) (by rw [size_madeCells]; omega),fun i g=>absurd g (by simp)⟩
 have M:Hid (Below w.heap.size w (w.alloc (.cells (madeCells #[.slice none 0 0] x.length) 22))):=ZAG _ _;go_enter Tryz.func59,Tryz.ntmps59;go_wp2
 go_loopw [5,13,7] (fun s i _ wr=>∃k:Nat,k≤x.length∧i=.int .i64 k∧Rws w.heap.size 22 3 wr s (pks P [] (x.take k))∧Below w.heap.size w wr) (fun _ i _ _=>x.length-(intOf i).toNat)
 case atStart=>exact ⟨0,Za5 _,rfl,r.out,M.out⟩
 case round=>
  obtain ⟨k,hk,rfl,hr,U⟩:=hrel;have E:=hid hr;have l:=hid U;have V:w.heap.size≤wr.heap.size:=U.size;clear hr U
  by_cases hlt:k < x.length
  ·obtain ⟨b,o,cp,hs,am,N⟩:=ZAJ (HU.out.below l.out (Za4 _)) hlt
   simp only [Za3] at hs;obtain ⟨rfl,_,rfl⟩:=hs;obtain ⟨G,t⟩:=HX.out k hlt;have f:Hid (pks P [] (x.take (k+1))=pks P [] (x.take k) ++ [P.getD (x.getD k 0).toNat []]):=ZM2 P x k hlt
   have a:Hid ((pks P [] (x.take k)).length=k):=by show _=_; simp [pks]; omega
   obtain ⟨q,hq⟩:∃q:Nat,x.getD k 0=(q:Int):=⟨(x.getD k 0).toNat,by omega⟩
   rw [hq] at N G t f
   rw [show ((q:Int)).toNat=q by omega] at f
   clear hq
   have R:q < P.length:=by omega
   obtain ⟨b2,o2,ai,r2,j,_,ae,d⟩:=ZAP (HV.out.below l.out (Za4 _)) R;simp only [Za3,true_and] at j;obtain ⟨rfl,rfl⟩:=j;obtain ⟨ro,rc,Y,_,_⟩:=ZAH d;subst Y;have Q:=hid d;clear d;generalize P.getD q []=y at *;generalize hyl:y.length=yl at *;clear hyl;obtain ⟨vs,g1,J,p⟩:=E.out;have c:=a.out;rw [c] at g1 J p;have G1:=hid g1;have D:=hid J;have G3:=hid p;clear g1 J p c
   go_wp2_with (first | (at_builtin; refine wpList_append_own _ rfl _ _ 25 rfl w.heap.size 22 i0 (.slice none 0 0) 1 24 Tryz.underlying25 g F O A rfl (by decide) _ _ _ rfl (D.out.alloc _) ⟨wr.heap.size,0,none⟩ 1 1 [.slice ro yl rc] rfl rfl (ZAQ _ _ _) (ZAL _ _ _) ?d3 ?d4 ?d5 ?_))
   case d3=>unfold maxLen; omega
   case d4=>omega
   case d5=>simp; omega
   intro v' w3 ho L _
   have R1:Hid (Rws w.heap.size 22 3 w3 v' (pks P [] (x.take (k+1)))):=by
    have hp:=Rws.push (e2:=22) (e1:=3) (m:=pks P [] (x.take k)) (u:=.slice ro yl rc) (zs:=y) (by decide) (by rw [a.out]; exact G1.out) (by rw [a.out]; exact D.out.alloc _)
     (fun i g=>(G3.out i (by rw [a.out] at g; exact g)).alloc _) (Q.out.alloc _) (by rw [a.out]; exact ho) L
    rw [←f.out] at hp;exact hp
   have R2:Hid (Below w.heap.size w w3):=(l.out.alloc V _).grown L (by simp; omega) (fun x hx=>(D.out.lt x hx).1)
   clear ho L;go_wp2
   go_roundw
   case rel=>exact ⟨k+1,by omega,by go_num,R1.out,R2.out⟩
   case measure=>simp [intOf]; omega
  ·have X:x.take k=x:=Zaa2 (by omega)
   have T:Hid (Rws w.heap.size 22 3 wr u5 (pks P [] x)):=by have:=E.out; rw [X] at this; exact this
   clear E;go_wp2;go_ret;exact ⟨_,rfl,T.out,l.out⟩
end Go.Proofs.YtgfnmkenpgnllaaGreat
namespace Go.Proofs.YtgfnmkenpgnllaaGreat
open Go.RowKit
attribute [local go_sem ↓] Go.wp_at_zero Go.wp_at_succ
def isC(w:World)(b:Nat):Prop:=∃cur t,w.heap[b]?=some (.cells cur t (0,0))
theorem isC.lt{w:World}{b:Nat}(h:isC w b):b < w.heap.size:=by
 obtain ⟨c,t,h⟩:=h;exact (Zaa3.1 h).1
theorem isC.keep{w w':World}{b:Nat}(h:isC w b)(hk:w'.heap[b]?=w.heap[b]?):isC w' b:=by
 obtain ⟨c,t,h⟩:=h;exact ⟨c,t,hk.trans h⟩
def ZQ7(N:Nat)(w:World)(tv u:Value)(c g:List Int)(rs:List (List Int)):Prop:=
 (ZBP g rs=true∧∃mo mc,tv=.agg #[u,.slice mo c.length mc,.int .i64 ((ZAv g rs).getD c.length 0)]∧Sl 0 3 w (.slice mo c.length mc) (ZAB ((ZAv g rs).take c.length))∧∀a,mo=some a→N≤a.block∧isC w a.block)∨
 (ZBP g rs=false∧tv=.agg #[.slice none 0 0,.slice none 0 0,.int .i64 0])
theorem ZJS{w:World}{R k:Nat}(a b c:Value)(h:k≠R):(((w.setCell ⟨R,0,none⟩ a).setCell ⟨R,1,none⟩ b).setCell ⟨R,2,none⟩ c).drew.heap[k]?=w.heap[k]?:=by
 show (((w.setCell ⟨R,0,none⟩ a).setCell ⟨R,1,none⟩ b).setCell ⟨R,2,none⟩ c).heap[k]?=w.heap[k]?
 rw [Below.heap_setCell _ _ _ _ h,Below.heap_setCell _ _ _ _ h,Below.heap_setCell _ _ _ _ h]
theorem ZGh(B:Nat)(rows:List (List Int))(c g:List Int)(v u x:Value)(w:World)(hv:Mat B 22 3 w v rows)(hu:Sl B 3 w u (ZAB c))(hx:Sl B 3 w x (ZAB g))
 (hc:∀t,t < c.length→0≤c.getD t 0∧c.getD t 0 < rows.length)(hr:∀r∈rows,g.length≤r.length∧∀z∈r,z.natAbs≤60)(hg:∀z∈g,z.natAbs≤60)(hg1:1≤g.length)(hg5:g.length≤5)(hc4:c.length≤4) :
  Calls Tryz.prog 131 #[v,u,x] w fun e w'=>∃tv,e=.returned (.tuple #[tv,.bool (ZBP g (pks rows [] c))])∧ZQ7 w.heap.size w' tv u c g (pks rows [] c)∧Below w.heap.size w w':=by
 obtain ⟨ao,aI,aM,aZ,aV⟩:=ZAE hv;obtain ⟨bo,ag,aL,bh,aW⟩:=ZAH hu;obtain ⟨xo,am,aO,aT,aX⟩:=ZAH hx;subst aM aL aO;have HC:=hid hc;have HR:=hid hr;have HG:=hid hg
 obtain ⟨n,M⟩:∃n,n=w.alloc (.cells #[.slice none 0 0,.slice none 0 0,.int .i64 0] 105):=⟨_,rfl⟩
 have bg:n.heap.size=w.heap.size+1:=by rw [M]; simp
 have N:Hid (Below w.heap.size w n):=by rw [M]; exact ZAG _ _
 have aJ:Hid (n.heap[w.heap.size]?=some (.cells #[.slice none 0 0,.slice none 0 0,.int .i64 0] 105 (0,0))):=by rw [M]; exact ZAM _ _
 have m:(pks rows [] c).length=c.length:=by simp [pks]
 have U:∀r∈pks rows [] c,g.length≤r.length∧∀z∈r,z.natAbs≤60:=fun r hr=>by
  simp only [pks,List.mem_map] at hr;obtain ⟨i,hi,rfl⟩:=hr;obtain ⟨t,ht,rfl⟩:=List.getElem_of_mem hi;have E:=HC.out t ht;rw [Za2,Za9 ht] at E;simp only [Option.getD_some] at E
  exact HR.out _ (by rw [Za2,Za9 (by omega)]; exact List.getElem_mem _)
 have au:Hid (Calls Tryz.prog 59 #[.slice ao rows.length aI,.slice bo c.length ag] n fun e w'=>∃L G,e=.returned (.slice L c.length G)∧Mat n.heap.size 22 3 w' (.slice L c.length G) (pks rows [] c)∧Below n.heap.size n w'):=by
  refine (ZB5 B rows c _ _ n (hv.below N.out (Za4 _)) (hu.below N.out (Za4 _)) hc (by omega)).mono ?_
  rintro e w' ⟨z,rfl,E,h2⟩;have hm:=E.mat (B':=n.heap.size) (Za4 _);obtain ⟨L,G,hz,_,_⟩:=ZAE hm;rw [m] at hz;subst hz;exact ⟨L,G,rfl,hm,h2⟩
 have aw:Hid (∀l L G,Mat n.heap.size 22 3 l (.slice L c.length G) (pks rows [] c)→Below n.heap.size n l→Calls Tryz.prog 106 #[.slice L c.length G,.slice xo g.length am] l fun e w'=>∃f,e=.returned (.slice (some ⟨l.heap.size,0,none⟩) g.length g.length)∧Ac l l.heap.size g.length g.length (ZA4 g (pks rows [] c)) f w'):=fun l L G E h2=>
  ZFM (max B n.heap.size) (pks rows [] c) g _ _ l (E.more (Nat.le_max_right _ _)) (((hx.below N.out (Za4 _)).below h2 (Za4 _)).more (Nat.le_max_left _ _)) U hg hg5 (by omega)
 have aN:=hid U;have aG:=hid M;have S:=hid m;clear M hv hu hx hc hr hg U m;go_enter Tryz.func131,Tryz.ntmps131
 go_wp2_with fail
 rw [←aG.out];refine au.out.mono ?_;rintro e l ⟨L,G,rfl,aq,X⟩;have O:=hid X
 have ai:Hid (Calls Tryz.prog 106 #[.slice L c.length G,.slice xo g.length am] l fun e w'=>∃f,e=.returned (.slice (some ⟨l.heap.size,0,none⟩) g.length g.length)∧Ac l l.heap.size g.length g.length (ZA4 g (pks rows [] c)) f w'):=aw.out l L G aq X
 clear aq X au aw
 go_wp2_with fail
 refine ai.out.mono ?_;rintro e wa ⟨f,rfl,D⟩;have HA:=hid D
 have ay:Hid (Below w.heap.size w wa):=N.out.trans ((O.out.mono (by omega)).trans (D.bel.mono (by have:=O.out.size; omega)))
 have V:Hid (w.heap.size+1≤l.heap.size):=by have:=O.out.size; show _≤_; omega
 clear D ai;have m:(pks rows [] c).length=c.length:=S.out
 have aK:Hid (Mx (c.length+1) 60 (ZA4 g (pks rows [] c))):=by
  rw [←m]
  exact ZHf (fun r hr z hz=>(aN.out r hr).2 z hz) HG.out (by omega)
 have aA:Hid ((ZA4 g (pks rows [] c)).length=g.length):=by show _=_; simp [ZA4]
 have ak:Hid (Calls Tryz.prog 105 #[.slice (some ⟨l.heap.size,0,none⟩) g.length g.length,.int .i64 ((c.length:Int)+1)] wa fun e w'=>∃x,e=.returned (.tuple #[x,.bool (ZAp (c.length+1) (ZA4 g (pks rows [] c)))])∧w'.ownsRow wa.heap.size 3 1 x (ZAv g (pks rows [] c)).length (ZAB (ZAv g (pks rows [] c)))∧Below wa.heap.size wa w'):=by
  have h:=ZEN 0 (c.length+1) (ZA4 g (pks rows [] c)) _ wa aK.out (HA.out.mat (B:=0) hg5) (by rw [aA.out]; omega) (by rw [aA.out]; omega)
  unfold ZAv;rw [m];exact h
 clear m
 have A:Hid (ZBP g (pks rows [] c)=(ZAp (c.length+1) (ZA4 g (pks rows [] c)) && !(ZAv g (pks rows [] c)).any ZE0)):=by
  show _=_
  unfold ZBP;rw [S.out]
 have ae:Hid (ZAp (c.length+1) (ZA4 g (pks rows [] c))=true→(ZAv g (pks rows [] c)).length=c.length+1):=fun h=>by
  unfold ZAv;rw [S.out];unfold ZAR
  rw [if_pos (by simpa [ZAp] using h),ZHc,ZHb]
  simp [muL]
 have aY:(c.length:Int)+1≤5:=by omega
 go_wp2_with fail
 refine ak.out.mono ?_;rintro e o ⟨tx,rfl,y,aa⟩;obtain ⟨to,tc,aD⟩:=ZAD y;subst aD;have HT:Hid (Sl 0 3 o (.slice to (ZAv g (pks rows [] c)).length tc) (ZAB (ZAv g (pks rows [] c)))):=Sl.own y
 have af:Hid (∀a,to=some a→w.heap.size+1≤a.block∧isC o a.block):=fun a D=>by
  have h0:=HA.out.lt
  rcases y.2 with ⟨E,h2⟩ | ⟨g',cap',cur',E,h2,h3,_⟩
  ·simp only [Za3] at E; rw [E.1] at D; cases D
  ·simp only [Za3] at E; rw [E.1] at D; cases D; exact ⟨by have:=V.out; show w.heap.size+1≤g'; omega,_,_,h3⟩
 have aH:Hid (Below w.heap.size w o):=ay.out.trans (aa.mono ay.out.size)
 have s:Hid (o.heap[w.heap.size]?=some (.cells #[.slice none 0 0,.slice none 0 0,.int .i64 0] 105 (0,0))):=
  (aa.block _ (by have:=HA.out.lt; have:=V.out; omega)).trans ((HA.out.bel.block _ (by have:=V.out; omega)).trans ((O.out.block _ (by omega)).trans aJ.out))
 obtain ⟨R,j⟩:∃R,R=ZAv g (pks rows [] c):=⟨_,rfl⟩
 have aj:=hid j;rw [←j] at HT ⊢;rw [←j] at A ae
 obtain ⟨nb,ar⟩:∃nb,nb=ZAp (c.length+1) (ZA4 g (pks rows [] c)):=⟨_,rfl⟩
 rw [←ar] at A ae ⊢;clear y aa j ak ar
 have k0:o.cell? ⟨w.heap.size,0,none⟩=some (.slice none 0 0):=by simp [World.cell?,s.out]
 have k1:o.cell? ⟨w.heap.size,1,none⟩=some (.slice none 0 0):=by simp [World.cell?,s.out]
 have k2:o.cell? ⟨w.heap.size,2,none⟩=some (.int .i64 0):=by simp [World.cell?,s.out]
 have f0:o.frozen? ⟨w.heap.size,0,none⟩=false:=by simp [World.frozen?,s.out]
 have f1:o.frozen? ⟨w.heap.size,1,none⟩=false:=by simp [World.frozen?,s.out]
 have f2:o.frozen? ⟨w.heap.size,2,none⟩=false:=by simp [World.frozen?,s.out]
 have T:Hid (∀a b d:Value,Below w.heap.size w (((o.setCell ⟨w.heap.size,0,none⟩ a).setCell ⟨w.heap.size,1,none⟩ b).setCell ⟨w.heap.size,2,none⟩ d)):=fun a b d=>
  ((aH.out.setCell (p:=⟨w.heap.size,0,none⟩) (Za4 _) _).setCell (p:=⟨w.heap.size,1,none⟩) (Za4 _) _).setCell (p:=⟨w.heap.size,2,none⟩) (Za4 _) _
 cases nb with
 | false=>
  have F:Hid (ZBP g (pks rows [] c)=false):=by show _=_; rw [A.out]; rfl
  go_wp2
  refine bodyPost_ret (v:=.tuple #[.agg #[.slice none 0 0,.slice none 0 0,.int .i64 0],.bool false]) (by simp [results,Tryz.results131,go_sem, *]) rfl ?_
  exact ⟨_,by rw [F.out],.inr ⟨F.out,rfl⟩,T.out _ _ _⟩
 | true=>
  have j:=ae.out rfl
  obtain ⟨tb,J,bi,an,aU,Q⟩:=ZAJ HT.out (k:=c.length) (by omega)
  simp only [Za3] at an;obtain ⟨rfl,_,rfl⟩:=an
  have P:Hid (Calls Tryz.prog 107 #[.slice (some ⟨tb,J,none⟩) R.length tc] o fun e w'=>∃mm:Int,e=.returned (.int .i64 mm)∧decide (mm≤0)=R.any ZE0∧w'=o):=ZMg 0 R _ o HT.out (by omega)
  have aE:Hid (Sl 0 3 o (.slice (some ⟨tb,J,none⟩) c.length c.length) (ZAB (R.take c.length))):=Sl.cut HT.out (by omega)
  obtain ⟨ab,ah⟩:∃ab,ab=R.any ZE0:=⟨_,rfl⟩
  rw [←ah] at A P
  obtain ⟨ul,Y⟩:∃ul,ul=R.getD c.length 0:=⟨_,rfl⟩
  have aB:Hid (ul=(ZAv g (pks rows [] c)).getD c.length 0):=by rw [←aj.out]; exact Y
  rw [←Y] at Q
  have aF:Hid (R.take c.length=(ZAv g (pks rows [] c)).take c.length):=by show _=_; rw [←aj.out]
  have aR:(c.length:Int)≤(tc:Int):=by omega
  rw [j];rw [j] at P;clear ah Y HT j
  cases ab with
  | true=>
   have F:Hid (ZBP g (pks rows [] c)=false):=by show _=_; rw [A.out]; rfl
   go_wp2_with (go_at_call 107; refine P.out.mono ?_; rintro e w' ⟨mm,rfl,aP,rfl⟩)
   refine bodyPost_ret (v:=.tuple #[.agg #[.slice none 0 0,.slice none 0 0,.int .i64 0],.bool false]) (by simp [results,Tryz.results131,go_sem, *]) rfl ?_
   exact ⟨_,by rw [F.out],.inr ⟨F.out,rfl⟩,T.out _ _ _⟩
  | false=>
   have az:Hid (ZBP g (pks rows [] c)=true):=by show _=_; rw [A.out]; rfl
   have aQ:(0:Int)≤(c.length:Int):=by omega
   have aS:(c.length:Int) < ((c.length+1:Nat):Int):=by omega
   go_wp2_with (go_at_call 107; refine P.out.mono ?_; rintro e w' ⟨mm,rfl,aP,rfl⟩)
   go_region
   have aC:Hid (Sl 0 3 (((w'.setCell ⟨w.heap.size,0,none⟩ (.slice bo c.length ag)).setCell ⟨w.heap.size,1,none⟩ (.slice (some ⟨tb,J,none⟩) c.length c.length)).setCell ⟨w.heap.size,2,none⟩ (.int .i64 ul)).drew (.slice (some ⟨tb,J,none⟩) c.length c.length) (ZAB ((ZAv g (pks rows [] c)).take c.length))):=by
    rw [←aF.out]
    exact ZOr aE.out s.out (by decide) _ _ _
   go_wp2
   refine bodyPost_ret (v:=.tuple #[.agg #[.slice bo c.length ag,.slice (some ⟨tb,J,none⟩) c.length c.length,.int .i64 ul],.bool true]) (by simp [results,Tryz.results131,go_sem, *]) rfl ?_
   exact ⟨_,by rw [az.out],.inl ⟨az.out,_,_,by rw [←aB.out],aC.out,fun a D=>⟨Nat.le_of_succ_le (af.out a D).1,(af.out a D).2.keep (ZJS _ _ _ (by have:=(af.out a D).1; omega))⟩⟩,(T.out _ _ _).drew⟩
end Go.Proofs.YtgfnmkenpgnllaaGreat
