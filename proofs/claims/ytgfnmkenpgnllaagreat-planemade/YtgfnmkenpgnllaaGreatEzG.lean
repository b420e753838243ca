import Derived.Test.YtgfnmkenpgnllaaGreatEzE
import Derived.Test.YtgfnmkenpgnllaaGreatFlD
import Derived.Test.YtgfnmkenpgnllaaGreatHgA
set_option maxRecDepth 100000
set_option maxHeartbeats 4000000
namespace Go.Proofs.YtgfnmkenpgnllaaGreat
open Go.RowKit Lin
attribute [local go_sem ↓] Go.wp_at_zero Go.wp_at_succ
structure PwI(w:World)(d:Nat)(P:List (List Int))(s:Nat)(W:World):Prop where
 row:∃F,W.rowIs w.heap.size 3 (d+1) F∧∀i,i < d+1→F i=.int .i64 ((poW d P s).getD i 0)
 bel:Below w.heap.size w W
 size:w.heap.size+1≤W.heap.size
theorem PwI.below{w W W':World}{d s:Nat}{P:List (List Int)}(h:PwI w d P s W)(hb:Below W.heap.size W W'):PwI w d P s W':=by
 have b:=h.size;obtain ⟨F,a,c⟩:=h.row
 exact ⟨⟨F,a.of_block (hb.block _ (by omega)),c⟩,h.bel.trans (hb.mono h.bel.size),Zaa8 b hb.size⟩
theorem PwI.put{w W:World}{d s j:Nat}{P:List (List Int)}{z:Int}(h:PwI w d P s W)(hj:j < d+1)(hz:poW d P (s+1)=(poW d P s).set j z):PwI w d P (s+1) (W.setCell ⟨w.heap.size,j,none⟩ (.int .i64 z)):=by
 obtain ⟨⟨F,a,g⟩,c,l⟩:=h
 refine ⟨⟨_,a.set j _,fun i hi=>?_⟩,c.setCell (by show w.heap.size≤w.heap.size; omega) _,by simp [World.setCell]; omega⟩
 rw [hz]
 by_cases e:i=j
 ·subst e
  have b:i < (poW d P s).length:=by rw [ZEw]; omega
  simp [b]
 ·have f:((poW d P s).set j z).getD i 0=(poW d P s).getD i 0:=by
   rw [Za2,List.getElem?_set_ne (Ne.symm e),←Za2]
  rw [if_neg e,g i hi,f]
theorem ZMR(n:Nat):((n:Int) % 2 == 0)=decide (n % 2=0):=by
 have e:(n:Int) % 2=((n % 2:Nat):Int):=by omega
 rw [e]
 rcases (show n % 2=0∨n % 2=1 by omega) with h | h <;> simp [h]
theorem ZJo(d:Nat)(P:List (List Int))(v:Value)(w:World)(hv:Mat 0 22 3 w v P)(hP:∀p∈P,p.length=d+1∧∀z∈p,z.natAbs≤20)(hd1:1≤d)(hd3:d≤3)(h6:P.length≤6) :
  Calls Tryz.prog 12 #[.int .i64 d,v] w fun e w'=>∃co cc,e=.returned (.slice co (d+1) cc)∧Sl 0 3 w' (.slice co (d+1) cc) (ZAB ((List.range (d+1)).map (whC d P)))∧Below w.heap.size w w':=by
 obtain ⟨ro,rc,ag,ay,aB⟩:=ZAE hv;subst ag
 obtain ⟨b,g⟩:∃b:Nat,b=2 ^ P.length:=⟨_,rfl⟩
 have ar:Hid ((2:Int) ^ P.length=(b:Int)):=by show _=_; rw [g]; simp
 have az:b≤64:=by rw [g]; exact show 2 ^ P.length≤2 ^ 6 from Nat.pow_le_pow_right (by omega) h6
 have aj:Hid (IntKind.i64.wrap (b:Int)=(b:Int)):=wrap_small _ (by omega) (by omega)
 have N:Hid (∀s X,s < b→Below w.heap.size w X→Calls Tryz.prog 30 #[.int .i64 d,.slice ro P.length rc,.int .i64 s] X fun e w'=>e=.returned (.tuple #[.bool (cen d P s),.int .i64 (rk d (plS P s):Nat)])∧Below X.heap.size X w'):=fun s X hs hX=>ZGw d s P _ X (hv.below hX (Za4 _)) hP hd1 hd3 h6 (by rw [←g]; exact hs)
 have Y:Hid (∀s X,s < b→Calls Tryz.prog 33 #[.int .i64 s] X fun e w'=>∃n:Nat,e=.returned (.int .i64 (n:Int))∧n≤6∧sg s=(if n % 2=0 then 1 else -1)∧Below X.heap.size X w'):=fun s X hs=>by
  refine (ZKj s P.length X (by rw [←g]; exact hs) (by omega)).mono ?_
  rintro e w' ⟨rfl,hb⟩
  exact ⟨_,rfl,Zaa8 (ZHi s P.length) h6,ZPn h6 (by rw [←g]; exact hs),hb⟩
 have T:Hid (∀s,cen d P s=false→poW d P (s+1)=poW d P s):=fun s h=>ZQp h
 have O:Hid (∀s,cen d P s=true→poW d P (s+1)=(poW d P s).set (d-rk d (plS P s)) ((poW d P s).getD (d-rk d (plS P s)) 0+sg s)):=fun s h=>ZPm h
 have ae:Hid (∀s,rk d (plS P s)≤d):=fun s=>ZFJ _ _
 have M:Hid (∀s j,s < b→j < d+1→((poW d P s).getD j 0).natAbs≤64):=fun s j hs S=>by
  rw [ZMO S];have:=ZPl d P s j;omega
 have ah:Hid (poW d P b=(List.range (d+1)).map (whC d P)):=by show _=_; rw [g]; exact ZPk d P
 have HZ:Hid (poW d P 0=List.replicate (d+1) 0):=ZNu d P
 have af:Hid (∀s,(poW d P s).length=d+1):=fun s=>ZEw d P s
 have Q:=run_make_row' (P:=Tryz.prog) 22 3 (.int .i64 0) 8 Tryz.underlying22 Tryz.info3 rfl .i64 .i64 (d+1) (by omega) (by omega)
 have U:((d+1:Nat):Int)=(d:Int)+1:=by omega
 simp only [U] at Q;clear U;clear hv hP g;generalize hnp:P.length=nP at *;clear hnp;go_enter Tryz.func12,Tryz.ntmps12;go_wp2
 obtain ⟨W2,o⟩:∃W2,W2=w.alloc (.cells (madeCells #[.int .i64 0] (d+1)) 3):=⟨_,rfl⟩
 have au:Hid (PwI w d P 0 W2):=by
  have A:Below w.heap.size w W2:=by rw [o]; exact ZAG _ _
  refine ⟨⟨fun _=>.int .i64 0,⟨madeCells #[.int .i64 0] (d+1),?_,by rw [size_madeCells],fun i hi=>?_⟩,fun i hi=>?_⟩,A,by rw [o]; simp⟩
  ·rw [o]
   exact heap_alloc_new _ _
  ·rw [←Array.getElem?_toList,toList_madeCells_one]; simp [hi]
  ·rw [HZ.out]
   simp [hi]
 rw [←o];clear o Q HZ
 go_loopw [6,7,8] (fun s _ _ wr=>∃k:Nat,k≤b∧s=.int .i64 (k:Int)∧PwI w d P k wr) (fun s _ _ _=>b-(intOf s).toNat)
 case atStart=>exact ⟨0,Za5 _,rfl,au.out⟩
 case round=>
  obtain ⟨k,hk,rfl,hI⟩:=hrel
  obtain ⟨D,rfl⟩:∃D,D=wr:=⟨_,rfl⟩
  have L:=hid hI;clear hI;have ak:=ar.out;have an:=aj.out
  by_cases hlt:k < b
  ·have aE:(k:Int) < (b:Int):=Int.ofNat_lt.2 hlt
   have HM:Hid (Calls Tryz.prog 30 #[.int .i64 d,.slice ro nP rc,.int .i64 k] D fun e w'=>e=.returned (.tuple #[.bool (cen d P k),.int .i64 (rk d (plS P k):Nat)])∧Below D.heap.size D w'):=N.out k D hlt L.out.bel
   have aa:Hid (cen d P k=false→poW d P (k+1)=poW d P k):=T.out k;have R:Hid (cen d P k=true→poW d P (k+1)=(poW d P k).set (d-rk d (plS P k)) ((poW d P k).getD (d-rk d (plS P k)) 0+sg k)):=O.out k;have aC:rk d (plS P k)≤d:=ae.out k;generalize cen d P k=c at *;generalize rk d (plS P k)=r at *
   go_wp2_with fail
   clear ak an;refine HM.out.mono ?_;rintro e w1 ⟨rfl,A⟩;have m:Hid (PwI w d P k w1):=L.out.below A;clear A HM L
   cases c with
   | false=>
    have f:Hid (PwI w d P (k+1) w1):=by
     obtain ⟨⟨F,p1,p2⟩,p3,p4⟩:=m.out
     exact ⟨⟨F,p1,by rw [aa.out rfl]; exact p2⟩,p3,p4⟩
    clear m;go_wp2
    exact ⟨⟨k+1,by omega,by go_num,f.out⟩,by simp [intOf]; omega⟩
   | true=>
    have HS:=Y.out k w1 hlt;have G:=hid HS;have t:Hid (poW d P (k+1)=(poW d P k).set (d-r) ((poW d P k).getD (d-r) 0+sg k)):=R.out rfl;clear HS R aa
    go_wp2_with fail
    refine G.out.mono ?_;rintro e w2 ⟨n,rfl,aA,y,J⟩;have f:Hid (PwI w d P k w2):=m.out.below J;have B:=ZMR n
    obtain ⟨j,S⟩:∃j,j=d-r:=⟨_,rfl⟩
    have aD:(d:Int)-(r:Int)=(j:Int):=by omega
    have x:j < d+1:=by omega
    have aw:(j:Int) < (d:Int)+1:=by omega
    obtain ⟨F,a,l⟩:=f.out.row
    have c5:w2.cell? ⟨w.heap.size,j,none⟩=some (.int .i64 ((poW d P k).getD j 0)):=by rw [a.cell x,l j x]
    have c6:w2.frozen? ⟨w.heap.size,j,none⟩=false:=a.frozen j;have aF:=M.out k j hlt x;rw [←S] at t
    by_cases he:n % 2=0
    ·have V:((n:Int) % 2 == 0)=true:=by rw [B]; exact decide_eq_true he
     have E:Hid (PwI w d P (k+1) (w2.setCell ⟨w.heap.size,j,none⟩ (.int .i64 ((poW d P k).getD j 0+1)))):=by
      refine f.out.put x ?_;rw [t.out,y,if_pos he]
     clear B he y a l S t m f J G;generalize (poW d P k).getD j 0=av at *;go_wp2
     exact ⟨⟨k+1,by omega,by go_num,E.out⟩,by simp [intOf]; omega⟩
    ·have V:((n:Int) % 2 == 0)=false:=by rw [B]; exact decide_eq_false he
     have E:Hid (PwI w d P (k+1) (w2.setCell ⟨w.heap.size,j,none⟩ (.int .i64 ((poW d P k).getD j 0-1)))):=by
      refine f.out.put x ?_;rw [t.out,y,if_neg he];rfl
     clear B he y a l S t m f J G;generalize (poW d P k).getD j 0=av at *;go_wp2
     exact ⟨⟨k+1,by omega,by go_num,E.out⟩,by simp [intOf]; omega⟩
  ·have aq:k=b:=by omega
   subst aq;obtain ⟨F,a,l⟩:=L.out.row
   have ai:Hid (Sl 0 3 D (.slice (some ⟨w.heap.size,0,none⟩) (d+1) (d+1)) (ZAB ((List.range (d+1)).map (whC d P)))):=by
    rw [←ah.out]
    exact ZCw a l (af.out _) (Za4 _) (by omega)
   have am:Hid (Below w.heap.size w D):=L.out.bel;clear a l L N Y T O ae M;go_wp2;go_ret;exact ⟨_,_,rfl,ai.out,am.out⟩
theorem ZNw{d:Nat}{P:List (List Int)}(hG:PlG d P):∀i,i < P.length→∃j,j < d∧V (P.getD i []) j≠0:=fun i hi=>by
 refine Za6 fun hn=>hG.one _ (ZAT hi) ?_
 have b:∀j,j < d→V (P.getD i []) j=0:=fun j hj=>Za6 fun h=>hn ⟨j,hj,h⟩
 have a:rk d [P.getD i []]≤rk d []:=ZHg fun u _ r hr=>by
  rw [List.mem_singleton.1 hr];exact ZBS b
 have c:rk d ([]:List (List Int))=0:=rfl;unfold rk at a c;omega
theorem ZPs{d:Nat}{P:List (List Int)}{m:List (List Int×Nat)}(hS:FlS d P m)(h6:P.length≤6):m.length≤64:=by
 have b:=hS.nodup h6
 have g:(msk m).length≤2 ^ P.length:=by
  have a:(msk m).length≤(List.range (2 ^ P.length)).length:=List.Nodup.length_le_of_subset b fun x hx=>by
   obtain ⟨y,c,rfl⟩:=List.mem_map.1 hx;exact List.mem_range.2 (hS.mem h6 c).2.2.2
  simpa using a
 have a:2 ^ P.length≤2 ^ 6:=Nat.pow_le_pow_right (by decide) h6
 have f:(msk m).length=m.length:=by simp [msk]
 omega
theorem ZEx(d:Nat)(P:List (List Int))(v:Value)(w:World)(hd1:1≤d)(hd3:d≤3)(hG:PlG d P)(h5:P.length≤6)(hv:Mat 0 22 3 w v P) :
  Calls Tryz.prog 15 #[.int .i64 d,v] w fun e w'=>∃uo ul uc,e=.returned (.tuple #[.slice uo ul uc,.int .i64 0])∧(∃O:List (List Int),Mat 0 22 3 w' (.slice uo ul uc) O∧∀O',FlQ d P (d+1) O'→O=O')∧Below w.heap.size w w':=by
 obtain ⟨i0,hi,am,an,az⟩:=info_parts Tryz.info22;have hP:=ZNw hG
 have H1:Hid (Calls Tryz.prog 17 #[.int .i64 d,v] w fun e w'=>e=.returned (.int .i64 0)∧Below w.heap.size w w'):=ZBJ d P v w hd1 hd3 hG (by omega) hv
 have H2:Hid (∀X,Below w.heap.size w X→Calls Tryz.prog 39 #[.int .i64 d,v] X fun e w'=>∃uo uc T,e=.returned (.slice uo T.length uc)∧FlR (X.heap.size+3) w' (.slice uo T.length uc) T∧((∀O',FlQ d P (d+1) O'→(T.map fun t=>t.2.1)=O')∧T.length≤64)∧Below X.heap.size X w'):=fun X hX=>by
  refine (ZFX d P v X hd1 hd3 hG.row (ZDC hP) h5 (hv.below hX (Za4 _))).mono ?_;rintro e w' ⟨uo,uc,T,rfl,L,⟨h2,h3⟩,h4⟩
  refine ⟨uo,uc,T,rfl,L,⟨fun O' hO=>?_,?_⟩,h4⟩
  ·have:=ZJn (by omega) h2 h3 hO
   rw [List.map_map] at this;exact this
  ·have:=ZPs h2 (by omega)
   simpa using this
 clear hv hG hP;go_enter Tryz.func15,Tryz.ntmps15
 go_wp2_with fail
 refine H1.out.mono ?_;rintro e w1 ⟨rfl,ag⟩;have y:=hid ag;clear ag
 go_wp2_with fail
 refine (H2.out w1 y.out).mono ?_;rintro e a ⟨uo,uc,T,rfl,hf,⟨hs,hl⟩,ai⟩;have HF:=hid hf;have HS:=hid hs;have ah:Hid (Below w.heap.size w a):=y.out.trans (ai.mono y.out.size)
 have E:Hid (∀k,k < T.length→∃b n c,(T.getD k (.slice none 0 0,[],0)).1=.slice b n c∧∀X,Below a.heap.size a X→Sl 0 3 X (.slice b n c) (ZAB (T.getD k (.slice none 0 0,[],0)).2.1)):=fun k B=>by
  have L:=hf.inn _ (ZDN T k B);obtain ⟨b,c,h,_,_⟩:=ZAH L
  refine ⟨b,_,c,h,fun X hX=>?_⟩
  rw [←h];exact L.below hX (Za4 _)
 have F:Hid (∀k X,k < T.length→Below a.heap.size a X→∃g,uo=some ⟨g,0,none⟩∧X.cell? ⟨g,k*2,none⟩=some (T.getD k (.slice none 0 0,[],0)).1∧X.cell? ⟨g,k*2+1,none⟩=some (.int .i64 ((T.getD k (.slice none 0 0,[],0)).2.2:Nat))):=fun k X B hX=>by
  obtain ⟨g,L,h2,h3,h4,h5⟩:=hf.cells B;exact ⟨g,L,(hX.cell (p:=⟨g,k*2,none⟩) h3).trans h4,(hX.cell (p:=⟨g,k*2+1,none⟩) h3).trans h5⟩
 have D:Hid (∀k,k < T.length→((T.take (k+1)).map fun t=>t.2.1)=((T.take k).map fun t=>t.2.1) ++ [(T.getD k (.slice none 0 0,[],0)).2.1]):=fun k B=>by
  rw [Zaa1 B,List.map_append];simp [B]
 have J:Hid (∀k,((T.take k).map fun t=>t.2.1).length≤64):=fun k=>by
  rw [Zab1,List.length_take]; omega
 have S:Hid ((T.take T.length).map (fun t=>t.2.1)=T.map fun t=>t.2.1):=by show _=_; rw [List.take_length]
 clear hf hs ai;go_wp2
 go_loopw [7,9,20] (fun x _ i wr=>∃k:Nat,k≤T.length∧i=.int .i64 (k:Int)∧Fr a.heap.size 22 3 wr x ((T.take k).map fun t=>t.2.1)∧Below a.heap.size a wr) (fun _ _ i _=>T.length-(intOf i).toNat)
 case atStart=>exact ⟨0,Za5 _,rfl,Fr.nil _ _ _ _,Below.refl _ _⟩
 case round=>
  obtain ⟨k,B,rfl,aj,s⟩:=hrel
  obtain ⟨j,rfl⟩:∃j,j=wr:=⟨_,rfl⟩
  have HR:=hid aj;have HB:=hid s;have V:a.heap.size≤j.heap.size:=s.size;clear aj s
  by_cases hlt:k < T.length
  ·obtain ⟨g,z,c1,c2⟩:=F.out k j hlt HB.out
   subst z;obtain ⟨b,M,c,U,Y⟩:=E.out k hlt;have N:=D.out k hlt;have aB:=J.out k;rw [U] at c1;have ar:=hid Y;have aq:=hid N;clear U Y N F E D J;generalize (T.getD k (.slice none 0 0,[],0)).2.1=zs at *;generalize (T.getD k (.slice none 0 0,[],0)).2.2=rk' at *
   generalize ((T.take k).map fun t=>t.2.1)=A at *
   obtain ⟨l,m⟩:∃l,l=j.alloc (.cells #[.slice b M c,.int .i64 (rk':Nat)] 68):=⟨_,rfl⟩
   have G:Below j.heap.size j l:=by rw [m]; exact ZAG _ _
   have ae:l.heap[j.heap.size]?=some (.cells #[.slice b M c,.int .i64 (rk':Nat)] 68 (0,0)):=by rw [m]; exact ZAM _ _
   have o:Below a.heap.size a l:=HB.out.trans (G.mono V);have f:a.heap.size≤l.heap.size:=o.size;obtain ⟨vs,g1,g2,g3⟩:=HR.out.below G (Za4 _);have G2:=hid g2;have aa:=ar.out l o
   have Q:Hid (∀v' r,r.ownsRow a.heap.size 22 1 v' (A.length+1) (vs ++ [.slice b M c])→(l.alloc (.cells #[.slice b M c] 22)).grownBy r u7.ownBlock→Fr a.heap.size 22 3 r v' (A ++ [zs])∧Below a.heap.size a r):=fun v' r ho z=>⟨Fr.push (e2:=22) (e1:=3) (by decide) g1 (g2.alloc _) (fun i hi=>(g3 i hi).alloc _) (aa.alloc _) ho z,(o.alloc f _).grown z (by simp; omega) (fun x hx=>(g2.lt x hx).1)⟩
   have aw:=hid f
   have c3:l.cell? ⟨j.heap.size,0,none⟩=some (.slice b M c):=by simp [World.cell?,ae]
   have R:=hid m
   have aC:(k:Int) < (T.length:Int):=by omega
   have aA:(0:Int)≤(k:Int):=by omega
   clear g1 g2 g3 aa m G ae o f
   go_upto_region 8 with fail
   rw [←R.out]
   go_wp2_with (first | (at_builtin; refine wpList_append_own _ rfl _ _ 25 rfl a.heap.size 22 i0 (.slice none 0 0) 1 24 Tryz.underlying25 hi am an az rfl (by decide) _ _ _ rfl (G2.out.alloc _) ⟨l.heap.size,0,none⟩ 1 1 [.slice b M c] rfl rfl (ZAQ _ _ _) (ZAL _ _ _) ?d3 ?d4 ?d5 ?_))
   case d3=>unfold maxLen; omega
   case d4=>omega
   case d5=>have:=aw.out; simp at *; omega
   intro x6 r ho z _;obtain ⟨q1,q2⟩:=Q.out x6 r ho z
   have R1:Hid (Fr a.heap.size 22 3 r x6 ((T.take (k+1)).map fun t=>t.2.1)):=by show Fr _ _ _ _ _ _; rw [aq.out]; exact q1
   have R2:=hid q2;clear q1 q2 ho z Q G2 c3 R;go_wp2
   exact ⟨⟨k+1,by omega,by go_num,R1.out,R2.out⟩,by simp [intOf]; omega⟩
  ·have ak:k=T.length:=by omega
   have af:Hid (Mat 0 22 3 j u7 (T.map fun t=>t.2.1)):=by
    have h:=HR.out;rw [ak,S.out] at h;obtain ⟨vs,q1,q2,q3⟩:=h;exact ⟨vs,q1,Sl.own q2,q3⟩
   subst ak;obtain ⟨xo,xc,ay,_,_⟩:=ZAE af.out;subst ay;have au:Hid (Below w.heap.size w j):=ah.out.trans (HB.out.mono ah.out.size);clear HR F E D J S
   generalize (T.map fun t=>t.2.1)=O at *
   go_wp2
   refine bodyPost_ret (v:=.tuple #[.slice xo O.length xc,.int .i64 0]) (by simp [results,Tryz.results15,go_sem]) rfl ⟨xo,O.length,xc,rfl,⟨O,af.out,HS.out⟩,au.out⟩
theorem ZJp(x:List (List UInt8))(u v:Value)(w:World)(hu:Sl 0 9 w u (ZAc x))(hv:Sl 0 9 w v (ZAc x)) :
  Calls Tryz.prog 18 #[u,.int .i64 0,v,.int .i64 0] w fun e w'=>e=.returned (.bool true)∧Below w.heap.size w w':=by
 obtain ⟨M,N,rfl,_,_⟩:=ZDK hu;obtain ⟨F,t,rfl,_,_⟩:=ZDK hv;have B:=hid hu;have s:Hid (Sl 0 9 w (.slice F x.length t) (ZAc x)):=hv
 have D:((x.length:Int) == (x.length:Int))=true:=by simp
 clear hu hv;go_enter Tryz.func18,Tryz.ntmps18;go_wp2
 go_loopw [9] (fun i wr=>∃k:Nat,k≤x.length∧i=.int .i64 (k:Int)∧Qw w wr) (fun i _=>x.length-(intOf i).toNat)
 case atStart=>exact ⟨0,Za5 _,rfl,Qw.refl _⟩
 case round=>
  obtain ⟨k,O,rfl,f⟩:=hrel;have d:=hid f;obtain ⟨n,l⟩:=f
  have a:∀p,wr.cell? p=w.cell? p:=fun p=>by rw [l]; rfl
  clear l
  by_cases hlt:k < x.length
  ·obtain ⟨L,G,y,m⟩:=ZCf B.out hlt
   obtain ⟨J,P,A,o⟩:=ZCf s.out hlt;subst y A
   obtain ⟨b,c⟩:∃b:ByteArray,b=⟨(x.getD k []).toArray⟩:=⟨_,rfl⟩
   have g:ZDJ (x.getD k [])=.string b:=by rw [c]; rfl
   rw [g] at m o;rw [←a] at m o
   have z:(b.data.toList == b.data.toList)=true:=by simp
   have E:(k:Int) < (x.length:Int):=by omega
   have r:(0:Int)≤(k:Int):=by omega
   clear g c a;go_wp2
   go_quiet (fail)
   have j:Hid (Qw w (wr.drewN nq)):=d.out.drewN nq;generalize wr.drewN nq=W9 at *;go_wp2
   go_roundw
   case rel=>exact ⟨k+1,by omega,by go_num,j.out⟩
   case measure=>simp [intOf]; omega
  ·clear a
   go_wp2;go_ret;exact ⟨rfl,d.out.below⟩
end Go.Proofs.YtgfnmkenpgnllaaGreat
