import Derived.Test.YtgfnmkenpgnllaaGreatFlC
import Derived.Test.YtgfnmkenpgnllaaGreatEzF
import Derived.Maps.RangeWalk
set_option maxRecDepth 100000
set_option maxHeartbeats 3200000
namespace Go.Proofs.YtgfnmkenpgnllaaGreat
open Go.RowKit Go.Maps Lin
attribute [local go_sem ↓] Go.wp_at_zero Go.wp_at_succ
structure NmI(W:World)(b:Nat)(M:List Nat)(f:Nat→Int)(D:DataW Unit):Prop where
 own:W.ownsMap Tryz.prog 94 (plainElem Tryz.prog 3) b M.length D
 has:∀x:Nat,Maps.has D (.int .u64 (x:Int))=decide (x∈M)
 val:∀x:Nat,x∈M→D.atKey (.int .u64 (x:Int)) (.lit (.int .i64 0))=.lit (.int .i64 (f x))
theorem ZMP:Keyed Tryz.prog 94:=int_keyed (q:=.u64) (by kernel_rfl)
theorem ZQq:Tryz.prog.underlying 94=some (.int .u64):=by kernel_rfl
theorem ZRa{x:Nat}(hx:x < 2 ^ 64):keyOf Tryz.prog 94 (.int .u64 (x:Int))=some (.int .u64 (x:Int)):=
 keyOf_int_mk (q:=.u64) (by kernel_rfl) (by
  simp [Lit.wf,IntKind.min,IntKind.max,IntKind.signed,IntKind.bits];omega)
theorem ZRS:Tryz.prog.underlying 91=some (.map 94 3):=by kernel_rfl
theorem NmI.below{W W':World}{b:Nat}{M:List Nat}{f:Nat→Int}{D:DataW Unit}(h:NmI W b M f D)(hb:Below W.heap.size W W'):NmI W' b M f D:=
 ⟨h.own.kept (row:=none) ⟨hb.os,hb.tape,hb.output,hb.size,fun k hk _=>hb.block k hk⟩ (by simp),h.has,h.val⟩
theorem NmI.put{W:World}{b:Nat}{M:List Nat}{f:Nat→Int}{D:DataW Unit}(h:NmI W b M f D){x:Nat}(hx:x < 2 ^ 64)(hM:M.length≤5000)(hf:(f x).natAbs≤1000000) :
  ∃w2,(Instr.mapUpdate 91 (.map (some b)) (.int .u64 (x:Int)) (.int .i64 (f x))).run Tryz.prog W=.ok () w2∧(∃D',NmI w2 b (M ++ [x]) f D')∧W.grownBy w2 (some b):=by
 obtain ⟨w2,c,i,g⟩:=h.own.update ZMP ZRS (by unfold maxLen; omega) (ZRa hx) (val:=.int .i64 (f x)) (d:=.lit (.int .i64 (f x))) (ps:=[]) (plainElem_int (q:=.i64) (by kernel_rfl) (by
  simp [Lit.wf,IntKind.min,IntKind.max,IntKind.signed,IntKind.bits];omega))
 refine ⟨w2,c,⟨_,by rw [Zaa4,List.length_singleton]; exact i,fun y=>?_,fun y hy=>?_⟩,g⟩
 ·by_cases e:y=x
  ·subst e
   rw [Maps.has_put_same h.own.isMap (by trivial)]
   simp
  ·have a:(Lit.int .u64 (y:Int))≠Lit.int .u64 (x:Int):=fun e2=>e (by simp only [Lit.int.injEq,true_and] at e2; omega)
   rw [Maps.has_put_other a,h.has y];simp [e]
 ·by_cases e:y=x
  ·subst e
   rw [Maps.atKey_put_same h.own.isMap (by trivial)]
  ·have a:(Lit.int .u64 (y:Int))≠Lit.int .u64 (x:Int):=fun e2=>e (by simp only [Lit.int.injEq,true_and] at e2; omega)
   rw [Maps.atKey_put_other a];refine h.val y ?_
   rcases List.mem_append.1 hy with hy | hy
   ·exact hy
   ·exact absurd (List.mem_singleton.1 hy) e
def seL(M:List Nat)(f:Nat→Int)(F:Nat)(left:Lit→Bool):Int:=(M.map fun (x:Nat)=>if left (.int .u64 (x:Int)) then 0 else if x &&& F=x then f x else 0).sum
theorem ZMQ{M:List Nat}{f:Nat→Int}{F:Nat}{left:Lit→Bool}(h:∀x∈M,left (.int .u64 (x:Int))=true):seL M f F left=0:=by
 induction M with
 | nil=>rfl
 | cons a M ih=>
  have b:=ih fun x hx=>h x (List.mem_cons_of_mem _ hx)
  unfold seL at b ⊢
  rw [List.map_cons,List.sum_cons,b,if_pos (h a (by simp))]
  rfl
theorem ZPp{M:List Nat}{f:Nat→Int}{F:Nat}{left:Lit→Bool}(h:∀kl,left kl=false):seL M f F left=(M.map fun x=>if x &&& F=x then f x else 0).sum:=by
 unfold seL
 congr 1
 refine List.map_congr_left fun x _=>?_
 rw [h]; rfl
theorem ZI9{f:Nat→Int}{F:Nat}{left:Lit→Bool}{y:Nat}(hl:left (.int .u64 (y:Int))=true):∀{M:List Nat},M.Nodup→seL M f F (fun z=>left z && !z.sameKey (.int .u64 (y:Int)))=seL M f F left+(if y∈M then (if y &&& F=y then f y else 0) else 0)
 | [],_=>rfl
 | a :: M,hn=>by
  have ih:=ZI9 (f:=f) (F:=F) hl (List.nodup_cons.1 hn).2;unfold seL at ih ⊢;rw [List.map_cons,List.sum_cons,List.map_cons,List.sum_cons,ih]
  by_cases e:a=y
  ·subst e
   have h1:(Lit.int .u64 (a:Int)).sameKey (.int .u64 (a:Int))=true:=by simp [Lit.sameKey]
   simp only [hl,h1,Bool.not_true,Bool.and_false];simp [(List.nodup_cons.1 hn).1];omega
  ·have h1:(Lit.int .u64 (a:Int)).sameKey (.int .u64 (y:Int))=false:=by
    simp [Lit.sameKey];omega
   have b:(y∈a :: M)↔y∈M:=by
    rw [List.mem_cons]
    exact ⟨fun h=>h.resolve_left fun h=>e h.symm,.inr⟩
   simp only [h1,Bool.not_false,Bool.and_true,b];omega
theorem ZPq{M:List Nat}{f:Nat→Int}{F:Nat}{left:Lit→Bool}(hf:∀x,(f x).natAbs≤64)(hM:M.length≤64):(seL M f F left).natAbs≤4096:=by
 refine Zaa8 (ZFr (B:=64) M fun x _=>?_) (by omega)
 split
 ·decide
 ·split
  ·exact hf x
  ·decide
theorem ZQr(x y:Nat):(ZO2 x y == 0)=decide (x &&& y=x):=by
 rw [Bool.eq_iff_iff,beq_iff_eq,decide_eq_true_iff,ZCp]
 constructor
 ·intro h i a
  have:=ZFp x y i;rw [h,a] at this
  simpa using this
 ·intro h
  apply Nat.eq_of_testBit_eq
  intro i;rw [ZFp,Nat.zero_testBit]
  cases hx:x.testBit i
  ·rfl
  ·simp [h i hx]
theorem ZIK(b:Nat)(M:List Nat)(f:Nat→Int)(D:DataW Unit)(c:List Int)(r:Nat)(u:Value)(w:World)(hm:NmI w b M f D)(hM:M.length≤64)(hMn:M.Nodup)(hMl:∀x∈M,x < 64)(hf:∀x,(f x).natAbs≤64)(hu:Sl 0 3 w u (ZAB c))(hb:B64 c) :
  Calls Tryz.prog 65 #[.map (some b),.agg #[u,.int .i64 (r:Nat)]] w fun e w'=>e=.returned (.int .i64 (if r=0 then 1 else-(M.map fun x=>if x &&& ZA5 c=x then f x else 0).sum))∧Below w.heap.size w w':=by
 obtain ⟨W,hW⟩:∃W,W=w.alloc (.cells #[u,.int .i64 (r:Nat)] 68):=⟨_,rfl⟩
 have a:Below w.heap.size w W:=by rw [hW]; exact ZAG _ _
 have aV:W.heap.size=w.heap.size+1:=by rw [hW]; exact size_alloc _ _
 have j:W.heap[w.heap.size]?=some (.cells #[u,.int .i64 (r:Nat)] 68 (0,0)):=by rw [hW]; exact ZAM _ _
 have aB:Hid (∀X,Below W.heap.size W X→X.cell? ⟨w.heap.size,0,none⟩=some u∧X.cell? ⟨w.heap.size,1,none⟩=some (.int .i64 (r:Nat))):=fun X hX=>by
  have q:=(hX.block w.heap.size (by omega)).trans j
  exact ⟨by simp [World.cell?,q],by simp [World.cell?,q]⟩
 obtain ⟨uo,uc,rfl,_,_⟩:=ZAH hu
 have U:Hid (∀X,Below W.heap.size W X→Calls Tryz.prog 66 #[.slice uo c.length uc] X fun e w'=>e=.returned (.int .u64 (ZA5 c:Nat))∧∃n,w'=X.drewN n):=fun X hX=>ZGv 0 c _ X ((hu.below a (Za4 _)).below hX (Za4 _)) hb
 have B:=ZIu hb
 have af:Hid (∀(x:Nat) X,x < 64→Calls Tryz.prog 95 #[.int .u64 (x:Int),.int .u64 (ZA5 c:Nat)] X fun e w'=>e=.returned (.bool (decide (x &&& ZA5 c=x)))∧w'=X):=fun x X T=>by
  rw [←ZQr]
  exact ZQT x (ZA5 c) X (by omega) B
 have ar:Hid (W.ownsMap Tryz.prog 94 (plainElem Tryz.prog 3) b M.length D):=(hm.own.kept (row:=none) ⟨a.os,a.tape,a.output,a.size,fun k j _=>a.block k j⟩ (by simp))
 have Y:Hid (∀x:Nat,Maps.has D (.int .u64 (x:Int))=decide (x∈M)):=hm.has
 have O:Hid (∀x:Nat,x∈M→D.atKey (.int .u64 (x:Int)) (.lit (.int .i64 0))=.lit (.int .i64 (f x))):=hm.val
 have ay:=hid hW
 have aE:Hid (∀X,Below W.heap.size W X→Below w.heap.size w X):=fun X hX=>a.trans (hX.mono a.size)
 have aM:Hid M.Nodup:=hMn;have aW:=hid hMl;have HF:=hid hf
 obtain ⟨F,aq⟩:∃F,F=ZA5 c:=⟨_,rfl⟩
 rw [←aq] at U af ⊢
 obtain ⟨RS,P⟩:∃RS:Int,RS=if r=0 then 1 else-(M.map fun x=>if x &&& F=x then f x else 0).sum:=⟨_,rfl⟩
 rw [←P];have az:=hid P;clear P;obtain ⟨t,h2⟩:=aB.out W (Below.refl _ _);clear hm hMn hMl hf hu hb a j hW B aq
 by_cases hr0:r=0
 ·have HR:=hid hr0
  have aQ:((r:Int) == 0)=true:=by simp [hr0]
  clear hr0 U af ar Y O;go_enter Tryz.func65,Tryz.ntmps65
  go_upto_region 1 with fail
  rw [←ay.out];go_wp2;go_ret
  exact ⟨by rw [az.out,if_pos HR.out]; rfl,aE.out _ (Below.refl _ _)⟩
 have HR:=hid hr0
 have aQ:((r:Int) == 0)=false:=by simp [hr0]
 obtain ⟨R0,aU⟩:∃R0,R0=W.heap.size:=⟨_,rfl⟩
 clear hr0 aV;go_enter Tryz.func65,Tryz.ntmps65
 go_upto_region 1 with fail
 rw [←ay.out]
 go_wp2_with (first
  | (at_range; refine wpList_range_own _ rfl _ 91 rfl 94 3 ZMP ZRS _ b M.length _ rfl ar.out ?_; intro w0 G d aR)
  | go_in)
 go_frame
 have bg:=hid d
 have aD:Hid (∀X,W.heap.size≤X.heap.size→(∀k,k < W.heap.size→X.heap[k]?=W.heap[k]?)→X.os=W.os→X.tape=W.tape→X.output=W.output→Below W.heap.size W X):=fun X t h2 h3 h4 h5=>⟨h3,h4,h5,t,fun k j=>h2 k j⟩
 have aP:Hid (Below W.heap.size W w0):=aD.out w0 d.size (fun k j=>d.block k j (by simp)) d.os d.tape d.output
 have aT:=hid G;clear d aR G aU t h2
 go_loopw [5] (fun s wr=>∃(left:Lit→Bool) (aA:Nat),wr.ranges Tryz.prog 94 (plainElem (H:=Unit) Tryz.prog 3) b W.heap.size M.length D left aA∧s=.int .i64 (seL M f F left)∧(∀x:Nat,left (.int .u64 (x:Int))=true→x∈M)∧Below W.heap.size W wr)
  (fun _ wr=>wr.rangeLeft b W.heap.size)
 case atStart=>exact ⟨_,_,aT.out,by rw [ZMQ fun x T=>by rw [Y.out]; simp [T]],fun x T=>by rw [Y.out] at T; simpa using T,aP.out⟩
 case round=>
  obtain ⟨left,aA,aa,rfl,A,hb⟩:=hrel;have J:=hid aa;have aw:=hid aa;have Q:=hid A;have S:=hid hb;have aH:=ZPq (F:=F) (left:=left) HF.out hM
  obtain ⟨sm,ae⟩:∃sm,sm=seL M f F left:=⟨_,rfl⟩
  rw [←ae] at aH ⊢;have ag:=hid ae;clear aa A hb ae
  go_wp2_with (first
   | (at_next; refine wpList_next_ranges_ii _ rfl _ rfl 94 3 .u64 .i64 ZMP ZQq Tryz.underlying3 b W.heap.size M.length _ _ _ rfl J.out ?_ ?_)
   | go_in)
  ·intro _ aj
   have HE:Hid (RS=-sm):=by
    show _=_
    rw [az.out,if_neg HR.out,ag.out,ZPp aj]
   clear aj;go_wp2;go_ret;exact ⟨ZA9 HE.out.symm,aE.out _ S.out⟩
  ·intro x0 cx R g an aL N ai E am i ak aS
   obtain ⟨x,T⟩:∃x:Nat,x0=(x:Int):=by
    have:0≤x0:=by
     simp [Lit.wf,IntKind.min,IntKind.max,IntKind.signed,IntKind.bits] at an;omega
    exact ⟨x0.toNat,by omega⟩
   subst T;have l:x∈M:=Q.out x N
   have aN:cx=f x:=by
    have t:=ai (.lit (.int .i64 0));rw [O.out x l] at t
    simpa using t.symm
   subst aN;have aF:=aW.out x l
   have o:Below W.heap.size W R:=aD.out R (by rw [ak]; exact S.out.size) (fun k j=>(i.block k (by have:=S.out.size; omega) (fun e=>by simp at e; omega)).trans (S.out.block k j)) (i.os.trans S.out.os) (i.tape.trans S.out.tape) (i.output.trans S.out.output)
   have m:Hid (seL M f F (fun z=>left z && !z.sameKey (.int .u64 (x:Int)))=sm+(if x &&& F=x then f x else 0)):=by
    show _=_
    rw [ZI9 N aM.out,if_pos l,ag.out]
   have p:=hid E
   have L:Hid (∀y:Nat,(left (.int .u64 (y:Int)) && !(Lit.int .u64 (y:Int)).sameKey (.int .u64 (x:Int)))=true→y∈M):=fun y hy=>Q.out y (by simp at hy; exact hy.1)
   have aJ:=hid am;have aC:=hid o;have aZ:=HF.out x;obtain ⟨q1,q2⟩:=aB.out R o;have aG:=af.out x;have v:=U.out R o;clear an aL N ai E am i ak o l O Q J ag;generalize f x=fx at *
   go_wp2_with fail
   refine v.mono ?_;rintro e w2 ⟨rfl,nq,aI⟩;subst aI;clear v
   go_wp2_with fail
   refine (aG _ aF).mono ?_;rintro e w3 ⟨rfl,aK⟩;subst aK
   have V:Hid ((R.drewN nq).ranges Tryz.prog 94 (plainElem (H:=Unit) Tryz.prog 3) b W.heap.size M.length D (fun z=>left z && !z.sameKey (.int .u64 (x:Int))) g):=by
    exact p.out
   have ah:Hid (Below W.heap.size W (R.drewN nq)):=by
    obtain ⟨t,h2,h3,h4,h5⟩:=aC.out;exact ⟨t,h2,h3,h4,h5⟩
   have au:Hid ((R.drewN nq).rangeLeft b W.heap.size < wr.rangeLeft b W.heap.size):=by
    show _ < _
    rw [V.out.left_eq,aw.out.left_eq];exact aJ.out
   clear p aC aG q1 q2 aS
   by_cases hin:x &&& F=x
   ·rw [if_pos hin] at m
    have hid:decide (x &&& F=x)=true:=decide_eq_true hin
    have aO : -9000≤sm+fx∧sm+fx≤9000:=by omega
    obtain ⟨aY,aX⟩:=aO;clear hin;generalize decide (x &&& F=x)=di at *;subst hid;go_wp2
    go_roundw
    case rel=>exact ⟨_,g,V.out,by rw [m.out],L.out,ah.out⟩
    case measure=>exact au.out
   ·rw [if_neg hin,Int.add_zero] at m
    have hid:decide (x &&& F=x)=false:=decide_eq_false hin;clear hin;generalize decide (x &&& F=x)=di at *;subst hid;go_wp2
    go_roundw
    case rel=>exact ⟨_,g,V.out,by rw [m.out],L.out,ah.out⟩
    case measure=>exact au.out
theorem FlR.cells{B:Nat}{w:World}{uo:Option Addr}{n uc:Nat}{T:List FlT}(h:FlR B w (.slice uo n uc) T){k:Nat}(hk:k < T.length):∃g,uo=some ⟨g,0,none⟩∧B≤g∧g < w.heap.size∧w.cell? ⟨g,k*2,none⟩=some (T.getD k (.slice none 0 0,[],0)).1∧w.cell? ⟨g,k*2+1,none⟩=some (.int .i64 ((T.getD k (.slice none 0 0,[],0)).2.2:Nat)):=by
 rcases h.own.2 with ⟨_,h0⟩ | ⟨g,cap,cur,he,hB,hh,h1,_,h3,h4⟩
 ·omega
 ·simp only [Za3] at he
  obtain ⟨rfl,_,rfl⟩:=he
  have a:∀t,t < T.length*2→w.cell? ⟨g,t,none⟩=(ZBv (T.getD (t / 2) (.slice none 0 0,[],0)))[t % 2]?:=fun t ht=>by
   rw [←ZDM T t ht,←h4,Zaa5 ht,Array.getElem?_toList];simp [World.cell?,hh]
  refine ⟨g,rfl,hB,(Zaa3.1 hh).1,?_,?_⟩
  ·rw [a (k*2) (by omega),Nat.mul_div_cancel _ (by decide),Nat.mul_mod_left]
   rfl
  ·rw [a (k*2+1) (by omega),show (k*2+1) / 2=k by omega,show (k*2+1) % 2=1 by omega]
   rfl
structure PoI(w:World)(d:Nat)(P:List (List Int))(m:List (List Int×Nat))(k:Nat)(W:World):Prop where
 row:∃F,W.rowIs w.heap.size 3 (d+1) F∧∀i,i < d+1→F i=.int .i64 ((coF d P m k).getD i 0)
 mp:∃D,NmI W (w.heap.size+1) ((msk m).take k) (wf d P) D
 bel:Below w.heap.size w W
 size:w.heap.size+2≤W.heap.size
theorem PoI.below{w W W':World}{d:Nat}{P:List (List Int)}{m:List (List Int×Nat)}{k:Nat}(h:PoI w d P m k W)(hb:Below W.heap.size W W'):PoI w d P m k W':=by
 have c:=h.size;obtain ⟨F,a,b⟩:=h.row;obtain ⟨D,f⟩:=h.mp
 exact ⟨⟨F,a.of_block (hb.block _ (by omega)),b⟩,⟨D,f.below hb⟩,h.bel.trans (hb.mono h.bel.size),Zaa8 c hb.size⟩
theorem ZPr{d:Nat}{P:List (List Int)}{m:List (List Int×Nat)}{k j:Nat}(h6:P.length≤6)(hm:m.length≤64):(coV d P m k j).natAbs≤4096:=by
 refine Zaa8 (ZFr (B:=64) _ fun x _=>?_) ?_
 ·split
  ·exact ZIf h6 _
  ·decide
 ·rw [List.length_take]
  have:min k m.length≤64:=by omega
  exact Zaa8 (Nat.mul_le_mul_right 64 this) (by decide)
theorem ZE7(d B:Nat)(P:List (List Int))(T:List FlT)(uo:Option Addr)(uc:Nat)(w:World)(hd1:1≤d)(hd3:d≤3)(h6:P.length≤6)(hP:∀i,i < P.length→∃j,j < d∧V (P.getD i []) j≠0)(hT:FlR B w (.slice uo T.length uc) T)(hS:FlS d P (T.map fun t=>t.2)) :
  Calls Tryz.prog 40 #[.int .i64 d,.slice uo T.length uc] w fun e w'=>∃co cc,e=.returned (.slice co (d+1) cc)∧Sl 0 3 w' (.slice co (d+1) cc) (ZAB ((List.range (d+1)).map (whC d P)))∧Below w.heap.size w w':=by
 obtain ⟨m,hm⟩:∃m,m=T.map fun t=>t.2:=⟨_,rfl⟩
 rw [←hm] at hS
 have l:m.length=T.length:=by rw [hm]; simp
 have U:∀k,k < T.length→(T.getD k (.slice none 0 0,[],0)).2=m.getD k ([],0):=fun k a=>by rw [hm]; simp [a]
 have bp:T.length≤64:=by
  have h1:=hS.nodup h6
  have h2:(msk m).length≤2 ^ P.length:=by
   have v:(msk m).length≤(List.range (2 ^ P.length)).length:=List.Nodup.length_le_of_subset h1 fun x f=>by
    obtain ⟨y,hy,rfl⟩:=List.mem_map.1 f;exact List.mem_range.2 (hS.mem h6 hy).2.2.2
   simpa using v
  have v:2 ^ P.length≤2 ^ 6:=Nat.pow_le_pow_right (by decide) h6
  have h4:(msk m).length=m.length:=by simp [msk]
  omega
 have aA:∀k,k < T.length→(m.getD k ([],0)).2≤d:=fun k a=>by
  have f:m.getD k ([],0)∈m:=by simp [l,a]
  obtain ⟨h1,h2,v,h4⟩:=hS.mem h6 f;rw [v,←ZGe (ZDB.1 h2).1];exact ZFJ _ _
 have af:Hid (∀k X,k < T.length→(∃D,NmI X (w.heap.size+1) ((msk m).take k) (wf d P) D)→Below w.heap.size w X→Calls Tryz.prog 65 #[.map (some (w.heap.size+1)),.agg #[(T.getD k (.slice none 0 0,[],0)).1,.int .i64 ((m.getD k ([],0)).2:Nat)]] X fun e w'=>e=.returned (.int .i64 (wf d P (ZA5 (m.getD k ([],0)).1)))∧Below X.heap.size X w'):=fun k X a E hX=>by
  obtain ⟨D,E⟩:=E
  have f:m.getD k ([],0)∈m:=by simp [l,a]
  obtain ⟨h1,h2,v,h4⟩:=hS.mem h6 f
  have S:∀x∈(msk m).take k,x < 64:=fun x f=>by
   obtain ⟨y,hy,rfl⟩:=List.mem_map.1 (Zaa7 f)
   exact Nat.lt_of_lt_of_le (hS.mem h6 hy).2.2.2 (Zaa8 (Nat.pow_le_pow_right (by decide) h6) (by decide))
  have aG:B64 (m.getD k ([],0)).1:=fun z hz=>by
   have:=((ZBj h6).1 _ h1).2.2 z hz;omega
  have aj:Sl 0 3 X (T.getD k (.slice none 0 0,[],0)).1 (ZAB (m.getD k ([],0)).1):=by
   have:=(hT.inn _ (ZDN T k a)).below hX (Za4 _);rw [U k a] at this;exact this
  refine (ZIK (w.heap.size+1) ((msk m).take k) (wf d P) D (m.getD k ([],0)).1 (m.getD k ([],0)).2 _ X E (by rw [List.length_take]; simp [msk]; omega) (List.Nodup.sublist (List.take_sublist _ _) (hS.nodup h6)) S (fun x=>ZIf h6 x) aj aG).mono ?_
  rintro e w' ⟨rfl,hb⟩;refine ⟨ZA9 ?_,hb⟩
  by_cases hr:(m.getD k ([],0)).2=0
  ·rw [if_pos hr]
   have h5:=ZO0 hP h4 (by rw [←v]; exact hr)
   rw [h5];exact (ZO1 h6 hP).symm
  ·rw [if_neg hr]
   exact hS.moe h6 (by omega) hr
 have an:Hid (∀k X,k < T.length→Below w.heap.size w X→Calls Tryz.prog 66 #[(T.getD k (.slice none 0 0,[],0)).1] X fun e w'=>e=.returned (.int .u64 (ZA5 (m.getD k ([],0)).1:Nat))∧∃n,w'=X.drewN n):=fun k X a hX=>by
  have f:m.getD k ([],0)∈m:=by simp [l,a]
  obtain ⟨h1,h2,v,h4⟩:=hS.mem h6 f
  have aj:Sl 0 3 X (T.getD k (.slice none 0 0,[],0)).1 (ZAB (m.getD k ([],0)).1):=by
   have:=(hT.inn _ (ZDN T k a)).below hX (Za4 _);rw [U k a] at this;exact this
  exact ZGv 0 _ _ X aj fun z hz=>by
   have:=((ZBj h6).1 _ h1).2.2 z hz;omega
 have ak:Hid (∀k X,k < T.length→(∃D,NmI X (w.heap.size+1) ((msk m).take k) (wf d P) D)→∃w2,(Instr.mapUpdate 91 (.map (some (w.heap.size+1))) (.int .u64 (ZA5 (m.getD k ([],0)).1:Nat)) (.int .i64 (wf d P (ZA5 (m.getD k ([],0)).1)))).run Tryz.prog X=.ok () w2∧(∃D',NmI w2 (w.heap.size+1) ((msk m).take (k+1)) (wf d P) D')∧X.grownBy w2 (some (w.heap.size+1))):=fun k X a E=>by
  obtain ⟨D,E⟩:=E
  have f:m.getD k ([],0)∈m:=by simp [l,a]
  obtain ⟨h1,h2,v,h4⟩:=hS.mem h6 f
  have c:ZA5 (m.getD k ([],0)).1 < 64:=Nat.lt_of_lt_of_le h4 (Zaa8 (Nat.pow_le_pow_right (by decide) h6) (by decide))
  have:=E.put (x:=ZA5 (m.getD k ([],0)).1) (by omega) (by rw [List.length_take]; simp [msk]; omega) (Zaa8 (ZIf h6 _) (by decide))
  have e:(msk m).take (k+1)=(msk m).take k ++ [ZA5 (m.getD k ([],0)).1]:=by
   have G:k < (msk m).length:=by simp [msk]; omega
   rw [Zaa1 G]
   simp [msk,show k < m.length by omega]
  rw [e];exact this
 have aq:Hid (∀k,k < T.length→coF d P m (k+1)=(coF d P m k).set (d-(m.getD k ([],0)).2) ((coF d P m k).getD (d-(m.getD k ([],0)).2) 0+wf d P (ZA5 (m.getD k ([],0)).1))):=fun k a=>ZM0 (by omega)
 have bh:Hid (∀k j,j < d+1→((coF d P m k).getD j 0).natAbs≤4096):=fun k j hj=>by
  rw [ZKh hj]
  exact ZPr h6 (by omega)
 have aT:Hid (∀F,(wf d P F).natAbs≤64):=fun F=>ZIf h6 F
 have aV:Hid (coF d P m m.length=(List.range (d+1)).map (whC d P)):=hS.coef h6
 have au:Hid (∀k X,k < T.length→Below w.heap.size w X→∃g,uo=some ⟨g,0,none⟩∧g < w.heap.size∧X.cell? ⟨g,k*2,none⟩=some (T.getD k (.slice none 0 0,[],0)).1∧X.cell? ⟨g,k*2+1,none⟩=some (.int .i64 ((m.getD k ([],0)).2:Nat))):=fun k X a hX=>by
  obtain ⟨g,h1,h2,v,h4,h5⟩:=hT.cells a;rw [U k a] at h5;exact ⟨g,h1,v,(hX.cell (p:=⟨g,k*2,none⟩) v).trans h4,(hX.cell (p:=⟨g,k*2+1,none⟩) v).trans h5⟩
 have bi:=hid aA
 have ar:Hid (∀k,k < T.length→∃O n Q,(T.getD k (.slice none 0 0,[],0)).1=.slice O n Q):=fun k a=>by
  obtain ⟨O,Q,h,_,_⟩:=ZAH (hT.inn _ (ZDN T k a));exact ⟨O,_,Q,h⟩
 have bl:=hid l;have HZ:Hid (coF d P m 0=List.replicate (d+1) 0):=ZMy d P m
 have S:=run_make_row' (P:=Tryz.prog) 22 3 (.int .i64 0) 8 Tryz.underlying22 Tryz.info3 rfl .i64 .i64 (d+1) (by omega) (by omega)
 have aJ:((d+1:Nat):Int)=(d:Int)+1:=by omega
 simp only [aJ] at S;have bk:=@run_makeMap Tryz.prog;clear aJ;clear hT hS hm l U aA hP;go_enter Tryz.func40,Tryz.ntmps40;go_wp2
 obtain ⟨W2,o⟩:∃W2,W2=(w.alloc (.cells (madeCells #[.int .i64 0] (d+1)) 3)).alloc (.map #[] 0):=⟨_,rfl⟩
 have aY:Hid (PoI w d P m 0 W2):=by
  have aZ:Below w.heap.size w (w.alloc (.cells (madeCells #[.int .i64 0] (d+1)) 3)):=ZAG _ _
  have L:Below w.heap.size w W2:=by rw [o]; exact aZ.alloc (by simp) _
  refine ⟨⟨fun _=>.int .i64 0,⟨madeCells #[.int .i64 0] (d+1),?_,by rw [size_madeCells],fun i hi=>?_⟩,fun i hi=>?_⟩,⟨.map [],?_,fun x=>?_,fun x f=>absurd f (by simp)⟩,L,by rw [o]; simp⟩
  ·rw [o]
   exact (Below.heap_alloc _ _ _ (by simp)).trans (heap_alloc_new _ _)
  ·rw [←Array.getElem?_toList,toList_madeCells_one]; simp [hi]
  ·rw [HZ.out]
   simp [hi]
  ·have:=World.ownsMap_made (w.alloc (.cells (madeCells #[.int .i64 0] (d+1)) 3)) Tryz.prog 94 (plainElem (H:=Unit) Tryz.prog 3)
   rw [size_alloc] at this;rw [o];exact this
  ·simp [Maps.has]
 rw [←o];clear o S bk HZ
 go_loopw [8,9,16] (fun _ _ i wr=>∃k:Nat,k≤T.length∧i=.int .i64 (k:Int)∧PoI w d P m k wr) (fun _ _ i _=>T.length-(intOf i).toNat)
 case atStart=>exact ⟨0,Za5 _,rfl,aY.out⟩
 case round=>
  obtain ⟨k,a,rfl,hI⟩:=hrel;have HI:=hid hI;have bv:=hI.size
  by_cases c:k < T.length
  ·obtain ⟨g,hg,bC,c1,c2⟩:=au.out k wr c hI.bel
   subst hg;obtain ⟨O,sn,Q,aI⟩:=ar.out k c
   have bD:(k:Int) < (T.length:Int):=by omega
   have bB:=bi.out k c
   have ag:=fun X=>af.out k X c
   have ae:=fun X=>an.out k X c
   have aH:=fun X=>ak.out k X c
   have aP:=aq.out k c;rw [aI] at c1 ag ae;clear aI hI af an ak aq au ar;have bt:=aT.out (ZA5 (m.getD k ([],0)).1);generalize wf d P (ZA5 (m.getD k ([],0)).1)=wv at *;generalize ZA5 (m.getD k ([],0)).1=Fk at *;generalize (m.getD k ([],0)).2=rk' at *;have aO:=hid ag;have aQ:=hid ae;have aM:=hid aH;have aN:=hid aP;clear ag ae aH aP
   obtain ⟨Y,A⟩:∃Y,Y=wr.alloc (.cells #[.slice O sn Q,.int .i64 (rk':Nat)] 68):=⟨_,rfl⟩
   have aw:Below wr.heap.size wr Y:=by rw [A]; exact ZAG _ _
   have aL:Y.heap[wr.heap.size]?=some (.cells #[.slice O sn Q,.int .i64 (rk':Nat)] 68 (0,0)):=by rw [A]; exact ZAM _ _
   have aC:Y.heap.size=wr.heap.size+1:=by rw [A]; exact size_alloc _ _
   have aa:=HI.out.below aw;have aB:=aO.out Y aa.mp aa.bel;have aE:=hid A;have M:Hid (Below wr.heap.size wr Y∧Y.heap.size=wr.heap.size+1∧Y.heap[wr.heap.size]?=some (.cells #[.slice O sn Q,.int .i64 (rk':Nat)] 68 (0,0))):=⟨aw,aC,aL⟩;clear aw aL aC A aa aO
   go_wp2_with fail
   rw [←aE.out];refine aB.mono ?_;rintro e w2 ⟨rfl,L⟩;have aK:Below wr.heap.size wr w2:=M.out.1.trans (L.mono M.out.1.size);have ay:=HI.out.below aK
   have G:w2.heap[wr.heap.size]?=some (.cells #[.slice O sn Q,.int .i64 (rk':Nat)] 68 (0,0)):=(L.block _ (by have:=M.out.2.1; omega)).trans M.out.2.2
   have c3:w2.cell? ⟨wr.heap.size,0,none⟩=some (.slice O sn Q):=by simp [World.cell?,G]
   have az:=hid G;have aR:=hid ay;have aF:=aQ.out w2 ay.bel;clear L aK ay G aB aE M c1 c2
   go_wp2_with fail
   refine aF.mono ?_;rintro e w3 ⟨rfl,nq,ah⟩
   have ai:w3.heap=w2.heap:=by rw [ah]; rfl
   have s:PoI w d P m k w3:=by
    rw [ah];obtain ⟨⟨F,p1,p2⟩,⟨D,p3⟩,p4,p5⟩:=aR.out;obtain ⟨q1,q2,q3,q4,q5⟩:=p4;exact ⟨⟨F,p1,p2⟩,⟨D,p3.own,p3.has,p3.val⟩,⟨q1,q2,q3,q4,q5⟩,p5⟩
   obtain ⟨w4,bA,aD,N⟩:=aM.out w3 s.mp;obtain ⟨F,J,r⟩:=s.row;have bE:=s.size
   have R:w4.rowIs w.heap.size 3 (d+1) F:=J.of_block (N.block _ (by omega) (by simp))
   have aS:w4.heap[wr.heap.size]?=some (.cells #[.slice O sn Q,.int .i64 (rk':Nat)] 68 (0,0)):=by
    rw [N.block _ (by rw [ai]; exact (Zaa3.1 az.out).1) (by simp; omega),ai]
    exact az.out
   obtain ⟨j,hj⟩:∃j,j=d-rk':=⟨_,rfl⟩
   have bw:(d:Int)-(rk':Int)=(j:Int):=by omega
   have am:j < d+1:=by omega
   have bq:(j:Int) < (d:Int)+1:=by omega
   have c4:w4.cell? ⟨wr.heap.size,1,none⟩=some (.int .i64 (rk':Nat)):=by simp [World.cell?,aS]
   have c5:w4.cell? ⟨w.heap.size,j,none⟩=some (.int .i64 ((coF d P m k).getD j 0)):=by rw [R.cell am,r j am]
   have c6:w4.frozen? ⟨w.heap.size,j,none⟩=false:=R.frozen j;have bz:=bh.out k j am
   have bg:Hid (PoI w d P m (k+1) (w4.setCell ⟨w.heap.size,j,none⟩ (.int .i64 ((coF d P m k).getD j 0+wv)))):=by
    refine ⟨⟨_,R.set j _,fun i hi=>?_⟩,?_,?_,?_⟩
    ·rw [aN.out,←hj]
     by_cases e:i=j
     ·subst e
      have hl:i < (coF d P m k).length:=by rw [ZEV]; omega
      simp [hl]
     ·have e2:((coF d P m k).set j ((coF d P m k).getD j 0+wv)).getD i 0=(coF d P m k).getD i 0:=by
       rw [Za2,List.getElem?_set_ne (Ne.symm e),←Za2]
      rw [if_neg e,r i hi,e2]
    ·obtain ⟨D',E⟩:=aD
     refine ⟨D',E.own.kept (row:=some w.heap.size) ?_ (by simp),E.has,E.val⟩
     exact ⟨rfl,rfl,rfl,by simp [World.setCell],fun b hb hne=>Below.heap_setCell _ _ _ _ (fun e=>hne (by rw [e]))⟩
    ·have aX:Below w.heap.size w w4:=s.bel.grown N s.bel.size (fun x f=>by simp at f; omega)
     exact aX.setCell (by show w.heap.size≤w.heap.size; omega) _
    ·have:=N.size
     simp [World.setCell];omega
   have bu:Hid True:=trivial;clear s aD N J r R aS aN hj aR aF aQ aM ai c3 az;subst ah;generalize (coF d P m k).getD j 0=av at *;go_wp2
   exact ⟨⟨k+1,by omega,by go_num,bg.out⟩,by simp [intOf]; omega⟩
  ·have bj:k=T.length:=by omega
   subst bj;obtain ⟨F,J,r⟩:=hI.row
   have aU:Hid (Sl 0 3 wr (.slice (some ⟨w.heap.size,0,none⟩) (d+1) (d+1)) (ZAB ((List.range (d+1)).map (whC d P)))):=by
    rw [←aV.out,bl.out]
    exact ZCw J r (ZEV _ _ _ _) (Za4 _) (by omega)
   have aW:Hid (Below w.heap.size w wr):=hI.bel;clear J r hI af an ak aq au ar;go_wp2;go_ret;exact ⟨_,_,rfl,aU.out,aW.out⟩
theorem ZNv(d:Nat)(P:List (List Int))(v:Value)(w:World)(hd1:1≤d)(hd3:d≤3)(hG:PlG d P)(h5:P.length≤6)(hv:Mat 0 22 3 w v P) :
  Calls Tryz.prog 16 #[.int .i64 d,v] w fun e w'=>∃co cc,e=.returned (.tuple #[.slice co (d+1) cc,.int .i64 0])∧Sl 0 3 w' (.slice co (d+1) cc) (ZAB ((List.range (d+1)).map (whC d P)))∧Below w.heap.size w w':=by
 have o:∀i,i < P.length→∃j,j < d∧V (P.getD i []) j≠0:=fun i hi=>by
  refine Za6 fun hn=>hG.one _ (ZAT hi) ?_
  have F:∀j,j < d→V (P.getD i []) j=0:=fun j hj=>Za6 fun h=>hn ⟨j,hj,h⟩
  have x:rk d [P.getD i []]≤rk d []:=ZHg fun u _ r hr=>by
   rw [List.mem_singleton.1 hr];exact ZBS F
  have y:rk d ([]:List (List Int))=0:=rfl;unfold rk at x y;omega
 have L:Hid (Calls Tryz.prog 17 #[.int .i64 d,v] w fun e w'=>e=.returned (.int .i64 0)∧Below w.heap.size w w'):=ZBJ d P v w hd1 hd3 hG (by omega) hv
 have M:Hid (∀X,Below w.heap.size w X→Calls Tryz.prog 39 #[.int .i64 d,v] X fun e w'=>∃a b T,e=.returned (.slice a T.length b)∧FlR (X.heap.size+3) w' (.slice a T.length b) T∧FlS d P (T.map fun t=>t.2)∧Below X.heap.size X w'):=fun X hX=>ZML d P v X hd1 hd3 hG.row (ZDC o) h5 (hv.below hX (Za4 _))
 have N:Hid (∀(B:Nat) (T:List FlT) a b X,FlR B X (.slice a T.length b) T→FlS d P (T.map fun t=>t.2)→Calls Tryz.prog 40 #[.int .i64 d,.slice a T.length b] X fun e w'=>∃co cc,e=.returned (.slice co (d+1) cc)∧Sl 0 3 w' (.slice co (d+1) cc) (ZAB ((List.range (d+1)).map (whC d P)))∧Below X.heap.size X w'):=fun B T a b X x y=>ZE7 d B P T a b X hd1 hd3 (by omega) o x y
 clear hv hG o;go_enter Tryz.func16,Tryz.ntmps16
 go_wp2_with fail
 refine L.out.mono ?_;rintro e G ⟨rfl,g⟩;have c:=hid g;clear g
 go_wp2_with fail
 refine (M.out G c.out).mono ?_;rintro e D ⟨a,b,T,rfl,A,E,n⟩;have z:=N.out _ T a b D A E;have l:Hid (Below w.heap.size w D):=c.out.trans (n.mono c.out.size);clear A E n
 go_wp2_with fail
 refine z.mono ?_;rintro e J ⟨co,cc,rfl,f,m⟩;have p:=hid f;have s:Hid (Below w.heap.size w J):=l.out.trans (m.mono l.out.size);clear f m z;go_wp2
 refine bodyPost_ret (v:=.tuple #[.slice co (d+1) cc,.int .i64 0]) (by simp [results,Tryz.results16,go_sem]) rfl ⟨co,cc,rfl,p.out,s.out⟩
end Go.Proofs.YtgfnmkenpgnllaaGreat
