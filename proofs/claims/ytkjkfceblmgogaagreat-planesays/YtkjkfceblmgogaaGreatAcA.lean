import Derived.Test.YtkjkfceblmgogaaGreatWyA
set_option maxRecDepth 100000
set_option maxHeartbeats 4000000
namespace Go.Proofs.YtkjkfceblmgogaaGreat
open Lin
def sm(t:List (Nat→Int))(a:Nat→Int)(j:Nat):Int:=sumN t.length fun i=>a i*(t.getD i fun _=>0) j
theorem ZFR:∀(n:Nat) (f:Nat→Int),sumN (n+1) f=f 0+sumN n fun i=>f (i+1)
 | 0,f=>by simp [sumN]
 | n+1,f=>by
  have h:=ZFR n f
  show sumN (n+1) f+f (n+1)=f 0+(sumN n (fun i=>f (i+1))+f (n+1))
  rw [h]; omega
theorem ZHv(r:Nat→Int)(t:List (Nat→Int))(a:Nat→Int)(j:Nat):sm (r :: t) a j=a 0*r j+sm t (fun i=>a (i+1)) j:=by
 unfold sm;rw [List.length_cons,ZFR];rfl
theorem ZQj(a:Nat→Int)(j:Nat):sm [] a j=0:=rfl
theorem ZQk(t:List (Nat→Int))(x y:Int)(a b:Nat→Int)(j:Nat):sm t (fun i=>x*a i+y*b i) j=x*sm t a j+y*sm t b j:=by
 unfold sm;rw [←ZAV,←ZAV,←ZA9]
 exact ZAC fun i _=>by grind
theorem ZIv{t:List (Nat→Int)}{a b:Nat→Int}(h:∀i,i < t.length→a i=b i)(j:Nat):sm t a j=sm t b j:=
 ZAC fun i hi=>by rw [h i hi]
theorem ZGq(d:Nat)(c:Nat→Int)(t:List (Nat→Int))(a:Nat→Int):dot d c (sm t a)=sumN t.length fun i=>a i*dot d c (t.getD i fun _=>0):=by
 unfold dot sm
 have:(fun j=>c j*sumN t.length fun i=>a i*(t.getD i fun _=>0) j)=fun j=>sumN t.length fun i=>c j*(a i*(t.getD i fun _=>0) j):=by
  funext j; rw [ZAV]
 rw [this,ZBS]
 refine ZAC fun i _=>?_
 rw [←ZAV]
 exact ZAC fun j _=>by grind
theorem ZCs{n:Nat}{f:Nat→Int}(h:∀i,i < n→f i≤0):sumN n f≤0:=by
 induction n with
 | zero=>simp [sumN]
 | succ n ih=>
  have b:=ih fun i hi=>h i (by omega)
  have a:=h n (by omega)
  show sumN n f+f n≤0
  omega
theorem ZER{n:Nat}{f:Nat→Int}(h:∀i,i < n→0≤f i):0≤sumN n f:=by
 induction n with
 | zero=>simp [sumN]
 | succ n ih=>
  have b:=ih fun i hi=>h i (by omega)
  have a:=h n (by omega)
  show 0≤sumN n f+f n
  omega
theorem ZKz{Z:List (Nat→Int)}{i:Nat}(h:i < Z.length):(Z.getD i fun _=>0)∈Z:=by simp [h]
def InC(d:Nat)(Z:List (Nat→Int))(g:Nat→Int):Prop:=
 ∃(s:Int) (a:Nat→Int),0 < s∧(∀i,i < Z.length→0≤a i)∧∀j,j < d→s*g j=sm Z a j
theorem ZOa(d:Nat):∀(n:Nat) (Z:List (Nat→Int)),Z.length=n→∀g:Nat→Int,InC d Z g∨∃c:Nat→Int,(∀z∈Z,dot d c z≤0)∧0 < dot d c g:=by
 intro n
 induction n with
 | zero=>
  intro Z b g;have:Z=[]:=List.eq_nil_of_length_eq_zero b;subst this
  by_cases h:∃i,i < d∧g i≠0
  ·exact .inr ⟨g,fun z hz=>by simp at hz,ZHb h⟩
  ·refine .inl ⟨1,fun _=>0,by decide,fun i hi=>by simp at hi,fun j hj=>?_⟩
   rw [ZQj]
   have:g j=0:=Za6 fun hne=>h ⟨j,hj,hne⟩
   rw [this]; rfl
 | succ n ih=>
  intro Z b g
  match Z,b with
  | z0 :: Z',b=>
   have o:Z'.length=n:=by simpa using b
   rcases ih Z' o g with ⟨s,a,hs,ha,he⟩ | ⟨c,hc,hg⟩
   ·refine .inl ⟨s,fun i=>if i=0 then 0 else a (i-1),hs,fun i hi=>?_,fun j hj=>?_⟩
    ·by_cases h0:i=0
     ·simp [h0]
     ·simp only [h0,if_false]
      exact ha _ (by simp at hi; omega)
    ·rw [ZHv,he j hj]
     simp
   ·by_cases hz0:dot d c z0≤0
    ·exact .inr ⟨c,fun z hz=>by
      rcases List.mem_cons.1 hz with rfl | hz
      ·exact hz0
      ·exact hc z hz,hg⟩
    ·obtain ⟨p,v⟩:∃p,p=dot d c z0:=⟨_,rfl⟩
     have f:0 < p:=by omega
     rcases ih (Z'.map fun z=>fun k=>p*z k+(-(dot d c z))*z0 k) (by simpa using o) (fun k=>p*g k+(-(dot d c g))*z0 k) with ⟨s,a,hs,ha,he⟩ | ⟨e,h1,h2⟩
     ·have l:∀j,sm (Z'.map fun z=>fun k=>p*z k+(-(dot d c z))*z0 k) a j=p*sm Z' a j-dot d c (sm Z' a)*z0 j:=by
       intro j;rw [ZGq];unfold sm;rw [Zab1,←ZAV,←ZAT,Int.sub_eq_add_neg,←ZBL,←ZA9]
       refine ZAC fun i hi=>?_
       have r:(Z'.map fun z=>fun k=>p*z k+(-(dot d c z))*z0 k).getD i (fun _=>0)=fun k=>p*(Z'.getD i fun _=>0) k+(-(dot d c (Z'.getD i fun _=>0)))*z0 k:=by
        simp [hi]
       rw [r]
       grind
      have x:dot d c (sm Z' a)≤0:=by
       rw [ZGq]
       refine ZCs fun i hi=>?_
       exact Int.mul_nonpos_of_nonneg_of_nonpos (ha i (by simpa using hi)) (hc _ (ZKz hi))
      refine .inl ⟨s*p,fun i=>if i=0 then s*dot d c g-dot d c (sm Z' a) else p*a (i-1),Int.mul_pos hs f,fun i hi=>?_,fun j hj=>?_⟩
      ·by_cases h0:i=0
       ·simp only [h0,if_true]
        have:=Int.mul_pos hs hg;omega
       ·simp only [h0,if_false]
        exact Int.mul_nonneg (Int.le_of_lt f) (ha _ (by simp at hi ⊢; omega))
      ·have m:=he j hj
       rw [l j] at m;rw [ZHv]
       have t:sm Z' (fun i=>if i+1=0 then s*dot d c g-dot d c (sm Z' a) else p*a (i+1-1)) j=p*sm Z' a j:=by
        have:=ZQk Z' p 0 a a j;rw [Int.zero_mul,Int.add_zero] at this;rw [←this]
        exact ZIv (fun i _=>by simp) j
       rw [t];simp only [if_true]
       grind
     ·refine .inr ⟨fun k=>p*e k+(-(dot d e z0))*c k,fun z hz=>?_,?_⟩
      ·rw [ZBI]
       rcases List.mem_cons.1 hz with rfl | hz
       ·rw [←v]; have:p*dot d e z + -dot d e z*p=0:=by grind
        omega
       ·have m:=h1 _ (List.mem_map.2 ⟨z,hz,rfl⟩)
        rw [ZAU,ZBI,ZAU d z,ZAU d z0] at m
        have:p*dot d e z + -dot d e z0*dot d c z=p*dot d e z + -dot d c z*dot d e z0:=by grind
        omega
      ·rw [ZBI]
       rw [ZAU,ZBI,ZAU d g,ZAU d z0] at h2
       have:p*dot d e g + -dot d e z0*dot d c g=p*dot d e g + -dot d c g*dot d e z0:=by grind
       omega
end Go.Proofs.YtkjkfceblmgogaaGreat
namespace Go.Proofs.YtkjkfceblmgogaaGreat
open Go.RowKit
attribute [local go_sem ↓] Go.wp_at_zero Go.wp_at_succ
theorem ZNL{rs:List (List Int)}{t:Nat}(h:t < rs.length)(i:Nat) :
  (rs.take (t+1)).map (fun r=>r.getD i 0)=(rs.take t).map (fun r=>r.getD i 0) ++ [(rs.getD t []).getD i 0]:=by
 rw [Zaa1 h,List.map_append,Za2 (l:=rs),Za9 h];rfl
theorem ZPW{g:List Int}{rs:List (List Int)}{k:Nat}(h:k < g.length):(ZA0 g rs).getD k []=ZFu rs g k:=by simp [ZA0,h]
theorem ZFS(B:Nat)(rs:List (List Int))(g:List Int)(v x:Value)(w:World)(hv:Mat B 27 3 w v rs)(hx:Sl B 3 w x (ZAB g))
 (hr:∀r∈rs,g.length≤r.length∧∀z∈r,z.natAbs≤60)(hg:∀z∈g,z.natAbs≤60)(hg5:g.length≤5)(hc4:rs.length≤1000) :
  Calls Tryz.prog 101 #[v,x] w fun e w'=>∃f,e=.returned (.slice (some ⟨w.heap.size,0,none⟩) g.length g.length)∧Ac w w.heap.size g.length g.length (ZA0 g rs) f w':=by
 obtain ⟨i0,hi,bl,bk,aO⟩:=info_parts Tryz.info27;obtain ⟨i3,am,M,J,N⟩:=info_parts Tryz.info3;obtain ⟨ao,az,aG,aW,bp⟩:=ZAD hv;obtain ⟨xo,aR,au,bq,aV⟩:=ZAI hx;subst aG au;have HV:Hid (Mat B 27 3 w (.slice ao rs.length az) rs):=hv;have HX:=hid hx;have HR:=hid hr;have HG:=hid hg;clear hv hx hr hg
 have bj:=run_make_row' (P:=Tryz.prog) 22 27 (.slice none 0 0) 24 Tryz.underlying22 Tryz.info27 rfl .i64 .i64 g.length (by omega) (by omega)
 have aI:Hid (Ac w w.heap.size g.length 0 (ZA0 g rs) (fun _=>.slice none 0 0) (w.alloc (.cells (madeCells #[.slice none 0 0] g.length) 27))):=by
  refine ⟨ZAG _ _,by omega,?_,fun j hj=>absurd hj (by omega),fun _ _ _=>rfl⟩
  exact World.rowIs_made w (.slice none 0 0) g.length 27
 go_enter Tryz.func101,Tryz.ntmps101;go_wp2
 go_loopw [15,6,7,9] (fun i _ _ _ wr=>∃(k:Nat) (f:Nat→Value),k≤g.length∧i=.int .i64 k∧Ac w w.heap.size g.length k (ZA0 g (rs)) f wr) (fun i _ _ _ _=>g.length-(intOf i).toNat)
 case atStart=>exact ⟨0,_,Za5 _,rfl,aI.out⟩
 case round=>
  obtain ⟨k,f,hk,rfl,ha⟩:=hrel
  obtain ⟨d,rfl⟩:∃d,d=wr:=⟨wr,rfl⟩
  have HA:=hid ha;have m:Hid (Below w.heap.size w d):=ha.bel;clear ha
  by_cases hlt:k < g.length
  ·obtain ⟨xb,aZ,aT,ah,_,aH⟩:=ZAK (HX.out.below m.out (Za4 _)) hlt
   simp only [Za3] at ah;obtain ⟨rfl,_,rfl⟩:=ah
   have hz:=HG.out (g.getD k 0) (by simp [hlt])
   have HZ:Hid (g.getD k 0=g.getD k 0):=rfl;generalize hgk:g.getD k 0=gk at *;have aD:=hid hgk;clear hgk HZ
   have hI:Ai d (w.heap.size) g.length k 0 f [] (.slice none 0 0) d:=by
    refine ⟨Chg.refl _ _,?_,World.ownsRow_nil _ _ _ _,rfl⟩
    have e:(fun j=>if j=k then .slice none 0 0 else f j)=f:=by
     funext j
     by_cases ej:j=k
     ·subst ej; simp [HA.out.free j (Za4 _) hlt]
     ·simp [ej]
    rw [e];exact HA.out.row
   have HI:=hid hI;clear hI
   have bh:(0:Int)≤(k:Int):=by omega
   have aY:(k:Int) < (g.length:Int):=by omega
   go_wp2
   go_loopw [22,9] (fun i _ wq=>∃(t:Nat) (ae:Value),t≤rs.length∧i=.int .i64 t∧Ai d (w.heap.size) g.length k t f (((rs).take t).map (fun r=>r.getD k 0)) ae wq) (fun i _ _=>rs.length-(intOf i).toNat)
   case atStart=>exact ⟨0,_,Za5 _,rfl,HI.out⟩
   case round=>
    obtain ⟨t,ae,ht,rfl,a⟩:=hrel
    obtain ⟨c,rfl⟩:∃c,c=wr:=⟨wr,rfl⟩
    have n:=hid a;have Q:Hid (w.heap.size < d.heap.size):=HA.out.lt
    have aB:Hid (Below w.heap.size w c):=⟨a.chg.os.trans m.out.os,a.chg.tape.trans m.out.tape,a.chg.output.trans m.out.output,Zaa8 m.out.size a.chg.size,fun b hb=>(a.chg.block b (by have:=m.out.size; omega) (by omega)).trans (m.out.block b hb)⟩
    obtain ⟨T,U,aj⟩:=ZAE a.own;subst aj
    have ag:c.cell? ⟨w.heap.size,k,none⟩=some (.slice T t U):=by
     have:=a.row.cell (i:=k) hlt
     simpa using this
    have aF:c.frozen? ⟨w.heap.size,k,none⟩=false:=a.row.frozen k
    have HO:Hid (c.ownsRow d.heap.size 3 1 (.slice T t U) t (ZAB (((rs).take t).map (fun r=>r.getD k 0)))):=a.own
    have R:Hid (d.heap.size≤c.heap.size):=a.chg.size;clear a
    by_cases htl:t < rs.length
    ·obtain ⟨vb,bt,bg,rv,af,_,aq,X⟩:=ZAP (HV.out.below aB.out (Za4 _)) htl
     simp only [Za3] at af;obtain ⟨rfl,_,rfl⟩:=af
     have L:=HR.out (rs.getD t []) (by simp [htl])
     obtain ⟨rb,aS,aX,aE,aN,A⟩:=ZAK X (k:=k) (by omega)
     subst aE
     obtain ⟨z,F⟩:∃z,z=(rs.getD t []).getD k 0:=⟨_,rfl⟩
     have aP:=hid F;rw [←F] at A
     have aQ:(k:Int) < ((rs.getD t []).length:Int):=by have:=L.1; omega
     have ar:Hid (((rs).take (t+1)).map (fun r=>r.getD k 0)=((rs).take t).map (fun r=>r.getD k 0) ++ [z]):=by
      show _=_
      rw [ZNL htl k,F]
     generalize (rs.getD t []).length=rl at *
     have ai:(c.alloc (.cells #[.int .i64 z] 3)).cell? ⟨w.heap.size,k,none⟩=some (.slice T t U):=((ZAG c _).cell (p:=⟨w.heap.size,k,none⟩) (by have h1:=Q.out; have h2:=R.out; show w.heap.size < _; omega)).trans ag
     have ay:Hid (∀S G,G.ownsRow d.heap.size 3 1 S (t+1) (ZAB (((rs).take t).map (fun r=>r.getD k 0)) ++ [.int .i64 z])→(c.drew.alloc (.cells #[.int .i64 z] 3)).grownBy G (Value.slice T t U).ownBlock→
       G.cell? ⟨w.heap.size,k,none⟩=some (.slice T t U)∧G.frozen? ⟨w.heap.size,k,none⟩=false∧Ai d (w.heap.size) g.length k (t+1) f (((rs).take (t+1)).map (fun r=>r.getD k 0)) S (G.setCell ⟨w.heap.size,k,none⟩ S)):=fun S G E hg5=>by
      have h0:Ai d (w.heap.size) g.length k t f (((rs).take t).map (fun r=>r.getD k 0)) (.slice T t U) c.drew:=⟨n.out.chg.drew,n.out.row,n.out.own,n.out.len⟩
      rw [ar.out];exact h0.push Q.out hlt E hg5
     have Y:Hid (∀j u,[Value.int .i64 z][j]?=some u→(c.drew.alloc (.cells #[.int .i64 z] 3)).cell? ((⟨c.heap.size,0,none⟩:Addr).add j)=some u):=ZAS c.drew _ _
     have aJ:Hid (d.heap.size≤(c.drew.alloc (.cells #[.int .i64 z] 3)).heap.size):=by
      show _≤_
      have:=R.out;rw [size_alloc]
      show _≤c.heap.size+1
      omega
     have aC:t+1≤maxLen:=by unfold maxLen; omega
     have bi:t≤1000:=by omega
     have aK:(0:Int)≤(t:Int):=by omega
     have aU:(t:Int) < (rs.length:Int):=by omega
     clear L X F;go_wp2
     go_region_law (refine ZAo (o:={ dst:=some 37,op:=_,type:=_,pos:=_,after:=_,guard:=_ }) (by rfl) _ _ 27 (by rfl) d.heap.size 3 i3 (.int .i64 0) 1 8 Tryz.underlying27 am M J N rfl (by decide) _ _ _ (by rfl) (HO.out.alloc _) ⟨c.heap.size,0,none⟩ 1 1 [.int .i64 z] (by rfl) rfl Y.out (ZA6 _) aC (by omega) aJ.out ?_; intro S G E hg5; obtain ⟨s,y,O⟩:=ZAE E; subst O; have D:Hid _:=ay.out _ G E hg5; have ak:=D.out.1; have an:=D.out.2.1; clear E hg5)
     all_goals
      have HN:Hid (Ai d (w.heap.size) g.length k (t+1) f (((rs).take (t+1)).map (fun r=>r.getD k 0)) (.slice s (t+1) y) (G.setCell ⟨w.heap.size,k,none⟩ (.slice s (t+1) y))):=D.out.2.2
      clear D ak an ag ai aF;go_wp2
      go_roundw
      case rel=>exact ⟨t+1,_,by omega,by go_num,HN.out⟩
      case measure=>simp [intOf]; omega
    ·have aw:t=rs.length:=by omega
     subst aw;clear htl ht;have aa:(rs).take rs.length=rs:=List.take_length
     have aM : -60≤gk:=by omega
     have aL:gk≤60:=by omega
     have bu:d.heap.size≤c.heap.size:=R.out
     obtain ⟨l,hl⟩:∃l,l=((rs).take rs.length).map (fun r=>r.getD k 0):=⟨_,rfl⟩
     have HL:Hid (l=(rs).map (fun r=>r.getD k 0)):=by rw [aa] at hl; exact hl
     rw [←hl] at n HO;clear aa hl
     go_wp2_with (first | (at_builtin; refine wpList_append_own _ rfl _ _ 27 rfl d.heap.size 3 i3 (.int .i64 0) 1 8 Tryz.underlying27 am M J N rfl (by decide) _ _ _ rfl (HO.out.alloc _) ⟨c.heap.size,0,none⟩ 1 1 [.int .i64 (-gk)] rfl rfl (ZAS _ _ _) (ZA6 _) ?c3 ?c4 ?c5 ?_))
     case c3=>unfold maxLen; omega
     case c4=>omega
     case c5=>simp; omega
     intro S w3 E V _;obtain ⟨s,y,O⟩:=ZAE E;subst O;have D:=n.out.push Q.out hlt E V;have ak:=D.1;have an:=D.2.1
     have HN:Hid (Ac w w.heap.size g.length (k+1) (ZA0 g (rs)) (fun j=>if j=k then .slice s (rs.length+1) y else f j) (w3.setCell ⟨w.heap.size,k,none⟩ (.slice s (rs.length+1) y))):=
      HA.out.next D.2.2 (by rw [ZPW hlt,HL.out,ZFu,aD.out])
     clear D E V;go_wp2
     go_roundw
     case rel=>exact ⟨k+1,_,by omega,by go_num,HN.out⟩
     case measure=>simp [intOf]; omega
  ·have aA:k=g.length:=by omega
   subst aA;go_wp2;go_ret;exact ⟨f,rfl,HA.out⟩
end Go.Proofs.YtkjkfceblmgogaaGreat
namespace Go.Proofs.YtkjkfceblmgogaaGreat
open Go.RowKit
theorem ZNM(P:List (List Int))(x:List Int)(k:Nat)(h:k < x.length):pks P [] (x.take (k+1))=pks P [] (x.take k) ++ [P.getD (x.getD k 0).toNat []]:=by
 rw [ZBz x k h];simp [pks]
theorem ZB6(B:Nat)(P:List (List Int))(x:List Int)(v u:Value)(w:World)(hv:Mat B 27 3 w v P)(hu:Sl B 3 w u (ZAB x))(hx:∀i,i < x.length→0≤x.getD i 0∧x.getD i 0 < P.length)(hl:x.length≤1000) :
  Calls Tryz.prog 54 #[v,u] w fun e w'=>∃z,e=.returned z∧Rws w.heap.size 27 3 w' z (pks P [] x)∧Below w.heap.size w w':=by
 obtain ⟨i0,g,r,U,n⟩:=info_parts Tryz.info27;obtain ⟨ao,Y,J,aq,ag⟩:=ZAD hv;obtain ⟨bo,aj,p,ah,an⟩:=ZAI hu;subst J p;have HV:Hid (Mat w.heap.size 27 3 w (.slice ao P.length Y) P):=hv.any (Za4 _);have HU:=hid hu;have HX:=hid hx;clear hv hu hx
 have am:=run_make_room (P:=Tryz.prog) 22 27 (.slice none 0 0) 24 Tryz.underlying22 Tryz.info27 rfl .i64 .i64 x.length (by omega) (by omega)
 have G:Hid (Rws w.heap.size 27 3 (w.alloc (.cells (madeCells #[.slice none 0 0] x.length) 27)) (.slice (some ⟨w.heap.size,0,none⟩) 0 x.length) []):=
  ⟨[],rfl,World.ownsRow_made w _ x.length (Za4 _) (by unfold maxLen; omega) (by rw [size_madeCells]; omega),fun i g=>absurd g (by simp)⟩
 have ae:Hid (Below w.heap.size w (w.alloc (.cells (madeCells #[.slice none 0 0] x.length) 27))):=ZAG _ _;go_enter Tryz.func54,Tryz.ntmps54;go_wp2
 go_loopw [5,13,7] (fun s i _ wr=>∃k:Nat,k≤x.length∧i=.int .i64 k∧Rws w.heap.size 27 3 wr s (pks P [] (x.take k))∧Below w.heap.size w wr) (fun _ i _ _=>x.length-(intOf i).toNat)
 case atStart=>exact ⟨0,Za5 _,rfl,G.out,ae.out⟩
 case round=>
  obtain ⟨k,hk,rfl,hr,E⟩:=hrel;have F:=hid hr;have l:=hid E;have T:w.heap.size≤wr.heap.size:=E.size;clear hr E
  by_cases hlt:k < x.length
  ·obtain ⟨b,o,cp,hs,ak,O⟩:=ZAK (HU.out.below l.out (Za4 _)) hlt
   simp only [Za3] at hs;obtain ⟨rfl,_,rfl⟩:=hs;obtain ⟨V,S⟩:=HX.out k hlt;have d:Hid (pks P [] (x.take (k+1))=pks P [] (x.take k) ++ [P.getD (x.getD k 0).toNat []]):=ZNM P x k hlt
   have a:Hid ((pks P [] (x.take k)).length=k):=by show _=_; simp [pks]; omega
   obtain ⟨q,hq⟩:∃q:Nat,x.getD k 0=(q:Int):=⟨(x.getD k 0).toNat,by omega⟩
   rw [hq] at O V S d
   rw [show ((q:Int)).toNat=q by omega] at d
   clear hq
   have aa:q < P.length:=by omega
   obtain ⟨b2,o2,ai,r2,j,_,af,f⟩:=ZAP (HV.out.below l.out (Za4 _)) aa;simp only [Za3,true_and] at j;obtain ⟨rfl,rfl⟩:=j;obtain ⟨ro,rc,R,_,_⟩:=ZAI f;subst R;have t:=hid f;clear f;generalize P.getD q []=y at *;generalize hyl:y.length=yl at *;clear hyl;obtain ⟨vs,D,Q,M⟩:=F.out;have c:=a.out;rw [c] at D Q M;have G1:=hid D;have N:=hid Q;have G3:=hid M;clear D Q M c
   go_wp2_with (first | (at_builtin; refine wpList_append_own _ rfl _ _ 22 rfl w.heap.size 27 i0 (.slice none 0 0) 1 24 Tryz.underlying22 g r U n rfl (by decide) _ _ _ rfl (N.out.alloc _) ⟨wr.heap.size,0,none⟩ 1 1 [.slice ro yl rc] rfl rfl (ZAS _ _ _) (ZAM _ _ _) ?d3 ?d4 ?d5 ?_))
   case d3=>unfold maxLen; omega
   case d4=>omega
   case d5=>simp; omega
   intro v' w3 ho X _
   have R1:Hid (Rws w.heap.size 27 3 w3 v' (pks P [] (x.take (k+1)))):=by
    have hp:=Rws.push (e2:=27) (e1:=3) (m:=pks P [] (x.take k)) (u:=.slice ro yl rc) (zs:=y) (by decide) (by rw [a.out]; exact G1.out) (by rw [a.out]; exact N.out.alloc _)
     (fun i g=>(G3.out i (by rw [a.out] at g; exact g)).alloc _) (t.out.alloc _) (by rw [a.out]; exact ho) X
    rw [←d.out] at hp;exact hp
   have R2:Hid (Below w.heap.size w w3):=(l.out.alloc T _).grown X (by simp; omega) (fun x hx=>(N.out.lt x hx).1)
   clear ho X;go_wp2
   go_roundw
   case rel=>exact ⟨k+1,by omega,by go_num,R1.out,R2.out⟩
   case measure=>simp [intOf]; omega
  ·have A:x.take k=x:=Zaa2 (by omega)
   have L:Hid (Rws w.heap.size 27 3 wr u5 (pks P [] x)):=by have:=F.out; rw [A] at this; exact this
   clear F;go_wp2;go_ret;exact ⟨_,rfl,L.out,l.out⟩
end Go.Proofs.YtkjkfceblmgogaaGreat
namespace Go.Proofs.YtkjkfceblmgogaaGreat
open Go.RowKit
attribute [local go_sem ↓] Go.wp_at_zero Go.wp_at_succ
def isC(w:World)(b:Nat):Prop:=∃cur t,w.heap[b]?=some (.cells cur t (0,0))
theorem isC.lt{w:World}{b:Nat}(h:isC w b):b < w.heap.size:=by
 obtain ⟨c,t,h⟩:=h;exact (Zaa3.1 h).1
theorem isC.keep{w w':World}{b:Nat}(h:isC w b)(hk:w'.heap[b]?=w.heap[b]?):isC w' b:=by
 obtain ⟨c,t,h⟩:=h;exact ⟨c,t,hk.trans h⟩
def ZRa(N:Nat)(w:World)(tv u:Value)(c g:List Int)(rs:List (List Int)):Prop:=
 (ZBN g rs=true∧∃mo mc,tv=.agg #[u,.slice mo c.length mc,.int .i64 ((ZAw g rs).getD c.length 0)]∧Sl 0 3 w (.slice mo c.length mc) (ZAB ((ZAw g rs).take c.length))∧∀a,mo=some a→N≤a.block∧isC w a.block)∨
 (ZBN g rs=false∧tv=.agg #[.slice none 0 0,.slice none 0 0,.int .i64 0])
theorem ZJg{w:World}{R k:Nat}(a b c:Value)(h:k≠R):(((w.setCell ⟨R,0,none⟩ a).setCell ⟨R,1,none⟩ b).setCell ⟨R,2,none⟩ c).drew.heap[k]?=w.heap[k]?:=by
 show (((w.setCell ⟨R,0,none⟩ a).setCell ⟨R,1,none⟩ b).setCell ⟨R,2,none⟩ c).heap[k]?=w.heap[k]?
 rw [Below.heap_setCell _ _ _ _ h,Below.heap_setCell _ _ _ _ h,Below.heap_setCell _ _ _ _ h]
theorem ZFT(B:Nat)(rows:List (List Int))(c g:List Int)(v u x:Value)(w:World)(hv:Mat B 27 3 w v rows)(hu:Sl B 3 w u (ZAB c))(hx:Sl B 3 w x (ZAB g))
 (hc:∀t,t < c.length→0≤c.getD t 0∧c.getD t 0 < rows.length)(hr:∀r∈rows,g.length≤r.length∧∀z∈r,z.natAbs≤60)(hg:∀z∈g,z.natAbs≤60)(hg1:1≤g.length)(hg5:g.length≤5)(hc5:ZJ5 c.length rows g) :
  Calls Tryz.prog 126 #[v,u,x] w fun e w'=>∃tv,e=.returned (.tuple #[tv,.bool (ZBN g (pks rows [] c))])∧ZRa w.heap.size w' tv u c g (pks rows [] c)∧Below w.heap.size w w':=by
 obtain ⟨ao,aI,aQ,bg,bj⟩:=ZAD hv;obtain ⟨bo,ag,aJ,bh,aX⟩:=ZAI hu;obtain ⟨xo,am,aF,bk,aZ⟩:=ZAI hx;subst aQ aJ aF;have HC:=hid hc;have HR:=hid hr;have HG:=hid hg
 obtain ⟨o,F⟩:∃o,o=w.alloc (.cells #[.slice none 0 0,.slice none 0 0,.int .i64 0] 101):=⟨_,rfl⟩
 have aY:o.heap.size=w.heap.size+1:=by rw [F]; simp
 have Q:Hid (Below w.heap.size w o):=by rw [F]; exact ZAG _ _
 have aL:Hid (o.heap[w.heap.size]?=some (.cells #[.slice none 0 0,.slice none 0 0,.int .i64 0] 101 (0,0))):=by rw [F]; exact ZAL _ _
 have l:(pks rows [] c).length=c.length:=by simp [pks]
 have T:∀r∈pks rows [] c,r∈rows:=fun r hr=>by
  simp only [pks,List.mem_map] at hr;obtain ⟨i,hi,rfl⟩:=hr;obtain ⟨t,ht,rfl⟩:=List.getElem_of_mem hi;have y:=HC.out t ht;rw [Za2,Za9 ht] at y;simp only [Option.getD_some] at y
  rw [Za2,Za9 (by omega)]
  exact List.getElem_mem _
 have V:∀r∈pks rows [] c,g.length≤r.length∧∀z∈r,z.natAbs≤60:=fun r hr=>HR.out _ (T r hr)
 have aO:Hid (ZJ5 (pks rows [] c).length (pks rows [] c) g):=by
  show ZJ5 _ _ _
  rw [l]
  rcases hc5 with h | ⟨y,h2,h3⟩
  ·exact .inl h
  ·exact .inr ⟨y,fun r hr=>h2 r (T r hr),h3⟩
 have hc5:c.length≤5:=hc5.le
 have aj:Hid (Calls Tryz.prog 54 #[.slice ao rows.length aI,.slice bo c.length ag] o fun e w'=>∃M L,e=.returned (.slice M c.length L)∧Mat o.heap.size 27 3 w' (.slice M c.length L) (pks rows [] c)∧Below o.heap.size o w'):=by
  refine (ZB6 B rows c _ _ o (hv.below Q.out (Za4 _)) (hu.below Q.out (Za4 _)) hc (by omega)).mono ?_
  rintro e w' ⟨z,rfl,y,h2⟩;have hm:=y.mat (B':=o.heap.size) (Za4 _);obtain ⟨M,L,hz,_,_⟩:=ZAD hm;rw [l] at hz;subst hz;exact ⟨M,L,rfl,hm,h2⟩
 have aw:Hid (∀m M L,Mat o.heap.size 27 3 m (.slice M c.length L) (pks rows [] c)→Below o.heap.size o m→Calls Tryz.prog 101 #[.slice M c.length L,.slice xo g.length am] m fun e w'=>∃f,e=.returned (.slice (some ⟨m.heap.size,0,none⟩) g.length g.length)∧Ac m m.heap.size g.length g.length (ZA0 g (pks rows [] c)) f w'):=fun m M L y h2=>
  ZFS (max B o.heap.size) (pks rows [] c) g _ _ m (y.more (Nat.le_max_right _ _)) (((hx.below Q.out (Za4 _)).below h2 (Za4 _)).more (Nat.le_max_left _ _)) V hg hg5 (by omega)
 have aG:=hid V;have aD:=hid F;have X:=hid l;clear F hv hu hx hc hr hg V l T;go_enter Tryz.func126,Tryz.ntmps126
 go_wp2_with fail
 rw [←aD.out];refine aj.out.mono ?_;rintro e m ⟨M,L,rfl,aq,ae⟩;have O:=hid ae
 have ay:Hid (Calls Tryz.prog 101 #[.slice M c.length L,.slice xo g.length am] m fun e w'=>∃f,e=.returned (.slice (some ⟨m.heap.size,0,none⟩) g.length g.length)∧Ac m m.heap.size g.length g.length (ZA0 g (pks rows [] c)) f w'):=aw.out m M L aq ae
 clear aq ae aj aw
 go_wp2_with fail
 refine ay.out.mono ?_;rintro e wa ⟨f,rfl,E⟩;have HA:=hid E
 have az:Hid (Below w.heap.size w wa):=Q.out.trans ((O.out.mono (by omega)).trans (E.bel.mono (by have:=O.out.size; omega)))
 have aa:Hid (w.heap.size+1≤m.heap.size):=by have:=O.out.size; show _≤_; omega
 clear E ay;have l:(pks rows [] c).length=c.length:=X.out
 have aC:Hid (KrG (c.length+1) (ZA0 g (pks rows [] c))):=by
  rw [←l]
  exact ZNB (fun r hr z hz=>(aG.out r hr).2 z hz) HG.out hg5 aO.out
 have au:Hid ((ZA0 g (pks rows [] c)).length=g.length):=by show _=_; simp [ZA0]
 have aB:Hid (Calls Tryz.prog 100 #[.slice (some ⟨m.heap.size,0,none⟩) g.length g.length,.int .i64 ((c.length:Int)+1)] wa fun e w'=>∃x,e=.returned (.tuple #[x,.bool (ZAp (c.length+1) (ZA0 g (pks rows [] c)))])∧w'.ownsRow wa.heap.size 3 1 x (ZAw g (pks rows [] c)).length (ZAB (ZAw g (pks rows [] c)))∧Below wa.heap.size wa w'):=by
  have h:=ZCm 0 (c.length+1) (ZA0 g (pks rows [] c)) _ wa aC.out (HA.out.mat (B:=0) hg5) (by rw [au.out]; omega) (by rw [au.out]; omega)
  unfold ZAw;rw [l];exact h
 clear l
 have D:Hid (ZBN g (pks rows [] c)=(ZAp (c.length+1) (ZA0 g (pks rows [] c)) && !(ZAw g (pks rows [] c)).any ZE6)):=by
  show _=_
  unfold ZBN;rw [X.out]
 have af:Hid (ZAp (c.length+1) (ZA0 g (pks rows [] c))=true→(ZAw g (pks rows [] c)).length=c.length+1):=fun h=>by
  unfold ZAw;rw [X.out];unfold ZAO
  rw [if_pos (by simpa [ZAp] using h),ZHp,ZHo]
  simp [muL]
 have aV:(c.length:Int)+1≤6:=by omega
 go_wp2_with fail
 refine aB.out.mono ?_;rintro e s ⟨tx,rfl,A,U⟩;obtain ⟨to,tc,aH⟩:=ZAE A;subst aH;have HT:Hid (Sl 0 3 s (.slice to (ZAw g (pks rows [] c)).length tc) (ZAB (ZAw g (pks rows [] c)))):=Sl.own A
 have S:Hid (∀a,to=some a→w.heap.size+1≤a.block∧isC s a.block):=fun a E=>by
  have h0:=HA.out.lt
  rcases A.2 with ⟨y,h2⟩ | ⟨g',cap',cur',y,h2,h3,_⟩
  ·simp only [Za3] at y; rw [y.1] at E; cases E
  ·simp only [Za3] at y; rw [y.1] at E; cases E; exact ⟨by have:=aa.out; show w.heap.size+1≤g'; omega,_,_,h3⟩
 have aM:Hid (Below w.heap.size w s):=az.out.trans (U.mono az.out.size)
 have n:Hid (s.heap[w.heap.size]?=some (.cells #[.slice none 0 0,.slice none 0 0,.int .i64 0] 101 (0,0))):=
  (U.block _ (by have:=HA.out.lt; have:=aa.out; omega)).trans ((HA.out.bel.block _ (by have:=aa.out; omega)).trans ((O.out.block _ (by omega)).trans aL.out))
 obtain ⟨P,j⟩:∃P,P=ZAw g (pks rows [] c):=⟨_,rfl⟩
 have ar:=hid j;rw [←j] at HT ⊢;rw [←j] at D af
 obtain ⟨nb,an⟩:∃nb,nb=ZAp (c.length+1) (ZA0 g (pks rows [] c)):=⟨_,rfl⟩
 rw [←an] at D af ⊢;clear A U j aB an
 have k0:s.cell? ⟨w.heap.size,0,none⟩=some (.slice none 0 0):=by simp [World.cell?,n.out]
 have k1:s.cell? ⟨w.heap.size,1,none⟩=some (.slice none 0 0):=by simp [World.cell?,n.out]
 have k2:s.cell? ⟨w.heap.size,2,none⟩=some (.int .i64 0):=by simp [World.cell?,n.out]
 have f0:s.frozen? ⟨w.heap.size,0,none⟩=false:=by simp [World.frozen?,n.out]
 have f1:s.frozen? ⟨w.heap.size,1,none⟩=false:=by simp [World.frozen?,n.out]
 have f2:s.frozen? ⟨w.heap.size,2,none⟩=false:=by simp [World.frozen?,n.out]
 have ah:Hid (∀a b d:Value,Below w.heap.size w (((s.setCell ⟨w.heap.size,0,none⟩ a).setCell ⟨w.heap.size,1,none⟩ b).setCell ⟨w.heap.size,2,none⟩ d)):=fun a b d=>
  ((aM.out.setCell (p:=⟨w.heap.size,0,none⟩) (Za4 _) _).setCell (p:=⟨w.heap.size,1,none⟩) (Za4 _) _).setCell (p:=⟨w.heap.size,2,none⟩) (Za4 _) _
 cases nb with
 | false=>
  have J:Hid (ZBN g (pks rows [] c)=false):=by show _=_; rw [D.out]; rfl
  go_wp2
  refine bodyPost_ret (v:=.tuple #[.agg #[.slice none 0 0,.slice none 0 0,.int .i64 0],.bool false]) (by simp [results,Tryz.results126,go_sem, *]) rfl ?_
  exact ⟨_,by rw [J.out],.inr ⟨J.out,rfl⟩,ah.out _ _ _⟩
 | true=>
  have j:=af.out rfl
  obtain ⟨tb,G,aW,ak,bi,R⟩:=ZAK HT.out (k:=c.length) (by omega)
  simp only [Za3] at ak;obtain ⟨rfl,_,rfl⟩:=ak
  have N:Hid (Calls Tryz.prog 102 #[.slice (some ⟨tb,G,none⟩) P.length tc] s fun e w'=>∃mm:Int,e=.returned (.int .i64 mm)∧decide (mm≤0)=P.any ZE6∧w'=s):=ZMz 0 P _ s HT.out (by omega)
  have aE:Hid (Sl 0 3 s (.slice (some ⟨tb,G,none⟩) c.length c.length) (ZAB (P.take c.length))):=Sl.cut HT.out (by omega)
  obtain ⟨ab,aA⟩:∃ab,ab=P.any ZE6:=⟨_,rfl⟩
  rw [←aA] at D N
  obtain ⟨ul,Y⟩:∃ul,ul=P.getD c.length 0:=⟨_,rfl⟩
  have aN:Hid (ul=(ZAw g (pks rows [] c)).getD c.length 0):=by rw [←ar.out]; exact Y
  rw [←Y] at R
  have aK:Hid (P.take c.length=(ZAw g (pks rows [] c)).take c.length):=by show _=_; rw [←ar.out]
  have aU:(c.length:Int)≤(tc:Int):=by omega
  rw [j];rw [j] at N;clear aA Y HT j
  cases ab with
  | true=>
   have J:Hid (ZBN g (pks rows [] c)=false):=by show _=_; rw [D.out]; rfl
   go_wp2_with (go_at_call 102; refine N.out.mono ?_; rintro e w' ⟨mm,rfl,aP,rfl⟩)
   refine bodyPost_ret (v:=.tuple #[.agg #[.slice none 0 0,.slice none 0 0,.int .i64 0],.bool false]) (by simp [results,Tryz.results126,go_sem, *]) rfl ?_
   exact ⟨_,by rw [J.out],.inr ⟨J.out,rfl⟩,ah.out _ _ _⟩
  | false=>
   have ai:Hid (ZBN g (pks rows [] c)=true):=by show _=_; rw [D.out]; rfl
   have aT:(0:Int)≤(c.length:Int):=by omega
   have aS:(c.length:Int) < ((c.length+1:Nat):Int):=by omega
   go_wp2_with (go_at_call 102; refine N.out.mono ?_; rintro e w' ⟨mm,rfl,aP,rfl⟩)
   go_region
   have aR:Hid (Sl 0 3 (((w'.setCell ⟨w.heap.size,0,none⟩ (.slice bo c.length ag)).setCell ⟨w.heap.size,1,none⟩ (.slice (some ⟨tb,G,none⟩) c.length c.length)).setCell ⟨w.heap.size,2,none⟩ (.int .i64 ul)).drew (.slice (some ⟨tb,G,none⟩) c.length c.length) (ZAB ((ZAw g (pks rows [] c)).take c.length))):=by
    rw [←aK.out]
    exact ZPH aE.out n.out (by decide) _ _ _
   go_wp2
   refine bodyPost_ret (v:=.tuple #[.agg #[.slice bo c.length ag,.slice (some ⟨tb,G,none⟩) c.length c.length,.int .i64 ul],.bool true]) (by simp [results,Tryz.results126,go_sem, *]) rfl ?_
   exact ⟨_,by rw [ai.out],.inl ⟨ai.out,_,_,by rw [←aN.out],aR.out,fun a E=>⟨Nat.le_of_succ_le (S.out a E).1,(S.out a E).2.keep (ZJg _ _ _ (by have:=(S.out a E).1; omega))⟩⟩,(ah.out _ _ _).drew⟩
end Go.Proofs.YtkjkfceblmgogaaGreat
