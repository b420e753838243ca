import Derived.Test.YtkjkfceblmgogaaGreatFlC
import Derived.Test.YtkjkfceblmgogaaGreatEzF
import Derived.Maps.RangeWalk
set_option maxRecDepth 100000
set_option maxHeartbeats 3200000
namespace Go.Proofs.YtkjkfceblmgogaaGreat
open Go.RowKit Go.Maps Lin
attribute [local go_sem ↓] Go.wp_at_zero Go.wp_at_succ
structure NmI(W:World)(b:Nat)(M:List Nat)(f:Nat→Int)(D:DataW Unit):Prop where
 own:W.ownsMap Tryz.prog 90 (plainElem Tryz.prog 3) b M.length D
 has:∀x:Nat,Maps.has D (.int .u64 (x:Int))=decide (x∈M)
 val:∀x:Nat,x∈M→D.atKey (.int .u64 (x:Int)) (.lit (.int .i64 0))=.lit (.int .i64 (f x))
theorem ZMe:Keyed Tryz.prog 90:=int_keyed (q:=.u64) (by kernel_rfl)
theorem ZRI:Tryz.prog.underlying 90=some (.int .u64):=by kernel_rfl
theorem ZR4{x:Nat}(hx:x < 2 ^ 64):keyOf Tryz.prog 90 (.int .u64 (x:Int))=some (.int .u64 (x:Int)):=
 keyOf_int_mk (q:=.u64) (by kernel_rfl) (by
  simp [Lit.wf,IntKind.min,IntKind.max,IntKind.signed,IntKind.bits];omega)
theorem ZRw:Tryz.prog.underlying 87=some (.map 90 3):=by kernel_rfl
theorem NmI.below{W W':World}{b:Nat}{M:List Nat}{f:Nat→Int}{D:DataW Unit}(h:NmI W b M f D)(hb:Below W.heap.size W W'):NmI W' b M f D:=
 ⟨h.own.kept (row:=none) ⟨hb.os,hb.tape,hb.output,hb.size,fun k hk _=>hb.block k hk⟩ (by simp),h.has,h.val⟩
theorem NmI.put{W:World}{b:Nat}{M:List Nat}{f:Nat→Int}{D:DataW Unit}(h:NmI W b M f D){x:Nat}(hx:x < 2 ^ 64)(hM:M.length≤5000)(hf:(f x).natAbs≤1000000) :
  ∃w2,(Instr.mapUpdate 87 (.map (some b)) (.int .u64 (x:Int)) (.int .i64 (f x))).run Tryz.prog W=.ok () w2∧(∃D',NmI w2 b (M ++ [x]) f D')∧W.grownBy w2 (some b):=by
 obtain ⟨w2,c,i,g⟩:=h.own.update ZMe ZRw (by unfold maxLen; omega) (ZR4 hx) (val:=.int .i64 (f x)) (d:=.lit (.int .i64 (f x))) (ps:=[]) (plainElem_int (q:=.i64) (by kernel_rfl) (by
  simp [Lit.wf,IntKind.min,IntKind.max,IntKind.signed,IntKind.bits];omega))
 refine ⟨w2,c,⟨_,by rw [Zaa4,List.length_singleton]; exact i,fun y=>?_,fun y hy=>?_⟩,g⟩
 ·by_cases e:y=x
  ·subst e
   rw [Maps.has_put_same h.own.isMap (by trivial)]
   simp
  ·have a:(Lit.int .u64 (y:Int))≠Lit.int .u64 (x:Int):=fun e2=>e (by simp only [Lit.int.injEq,true_and] at e2; omega)
   rw [Maps.has_put_other a,h.has y];simp [e]
 ·by_cases e:y=x
  ·subst e
   rw [Maps.atKey_put_same h.own.isMap (by trivial)]
  ·have a:(Lit.int .u64 (y:Int))≠Lit.int .u64 (x:Int):=fun e2=>e (by simp only [Lit.int.injEq,true_and] at e2; omega)
   rw [Maps.atKey_put_other a];refine h.val y ?_
   rcases List.mem_append.1 hy with hy | hy
   ·exact hy
   ·exact absurd (List.mem_singleton.1 hy) e
def seL(M:List Nat)(f:Nat→Int)(F:Nat)(left:Lit→Bool):Int:=(M.map fun (x:Nat)=>if left (.int .u64 (x:Int)) then 0 else if x &&& F=x then f x else 0).sum
theorem ZMf{M:List Nat}{f:Nat→Int}{F:Nat}{left:Lit→Bool}(h:∀x∈M,left (.int .u64 (x:Int))=true):seL M f F left=0:=by
 induction M with
 | nil=>rfl
 | cons a M ih=>
  have b:=ih fun x hx=>h x (List.mem_cons_of_mem _ hx)
  unfold seL at b ⊢
  rw [List.map_cons,List.sum_cons,b,if_pos (h a (by simp))]
  rfl
theorem ZQH{M:List Nat}{f:Nat→Int}{F:Nat}{left:Lit→Bool}(h:∀kl,left kl=false):seL M f F left=(M.map fun x=>if x &&& F=x then f x else 0).sum:=by
 unfold seL
 congr 1
 refine List.map_congr_left fun x _=>?_
 rw [h]; rfl
theorem ZJM{f:Nat→Int}{F:Nat}{left:Lit→Bool}{y:Nat}(hl:left (.int .u64 (y:Int))=true):∀{M:List Nat},M.Nodup→seL M f F (fun z=>left z && !z.sameKey (.int .u64 (y:Int)))=seL M f F left+(if y∈M then (if y &&& F=y then f y else 0) else 0)
 | [],_=>rfl
 | a :: M,hn=>by
  have ih:=ZJM (f:=f) (F:=F) hl (List.nodup_cons.1 hn).2;unfold seL at ih ⊢;rw [List.map_cons,List.sum_cons,List.map_cons,List.sum_cons,ih]
  by_cases e:a=y
  ·subst e
   have h1:(Lit.int .u64 (a:Int)).sameKey (.int .u64 (a:Int))=true:=by simp [Lit.sameKey]
   simp only [hl,h1,Bool.not_true,Bool.and_false];simp [(List.nodup_cons.1 hn).1];omega
  ·have h1:(Lit.int .u64 (a:Int)).sameKey (.int .u64 (y:Int))=false:=by
    simp [Lit.sameKey];omega
   have b:(y∈a :: M)↔y∈M:=by
    rw [List.mem_cons]
    exact ⟨fun h=>h.resolve_left fun h=>e h.symm,.inr⟩
   simp only [h1,Bool.not_false,Bool.and_true,b];omega
theorem ZQI{M:List Nat}{f:Nat→Int}{F:Nat}{left:Lit→Bool}(hf:∀x,(f x).natAbs≤64)(hM:M.length≤64):(seL M f F left).natAbs≤4096:=by
 refine Zaa8 (ZFy (B:=64) M fun x _=>?_) (by omega)
 split
 ·decide
 ·split
  ·exact hf x
  ·decide
theorem ZRJ(x y:Nat):(ZPR x y == 0)=decide (x &&& y=x):=by
 rw [Bool.eq_iff_iff,beq_iff_eq,decide_eq_true_iff,ZCo]
 constructor
 ·intro h i a
  have:=ZFw x y i;rw [h,a] at this
  simpa using this
 ·intro h
  apply Nat.eq_of_testBit_eq
  intro i;rw [ZFw,Nat.zero_testBit]
  cases hx:x.testBit i
  ·rfl
  ·simp [h i hx]
theorem ZIX(b:Nat)(M:List Nat)(f:Nat→Int)(D:DataW Unit)(c:List Int)(r:Nat)(u:Value)(w:World)(hm:NmI w b M f D)(hM:M.length≤64)(hMn:M.Nodup)(hMl:∀x∈M,x < 64)(hf:∀x,(f x).natAbs≤64)(hu:Sl 0 3 w u (ZAB c))(hb:B64 c) :
  Calls Tryz.prog 60 #[.map (some b),.agg #[u,.int .i64 (r:Nat)]] w fun e w'=>e=.returned (.int .i64 (if r=0 then 1 else-(M.map fun x=>if x &&& ZA5 c=x then f x else 0).sum))∧Below w.heap.size w w':=by
 obtain ⟨W,hW⟩:∃W,W=w.alloc (.cells #[u,.int .i64 (r:Nat)] 63):=⟨_,rfl⟩
 have a:Below w.heap.size w W:=by rw [hW]; exact ZAG _ _
 have aP:W.heap.size=w.heap.size+1:=by rw [hW]; exact size_alloc _ _
 have j:W.heap[w.heap.size]?=some (.cells #[u,.int .i64 (r:Nat)] 63 (0,0)):=by rw [hW]; exact ZAL _ _
 have am:Hid (∀X,Below W.heap.size W X→X.cell? ⟨w.heap.size,0,none⟩=some u∧X.cell? ⟨w.heap.size,1,none⟩=some (.int .i64 (r:Nat))):=fun X hX=>by
  have q:=(hX.block w.heap.size (by omega)).trans j
  exact ⟨by simp [World.cell?,q],by simp [World.cell?,q]⟩
 obtain ⟨uo,uc,rfl,_,_⟩:=ZAI hu
 have P:Hid (∀X,Below W.heap.size W X→Calls Tryz.prog 61 #[.slice uo c.length uc] X fun e w'=>e=.returned (.int .u64 (ZA5 c:Nat))∧∃n,w'=X.drewN n):=fun X hX=>ZG8 0 c _ X ((hu.below a (Za4 _)).below hX (Za4 _)) hb
 have E:=ZI7 hb
 have N:Hid (∀(x:Nat) X,x < 64→Calls Tryz.prog 90 #[.int .u64 (x:Int),.int .u64 (ZA5 c:Nat)] X fun e w'=>e=.returned (.bool (decide (x &&& ZA5 c=x)))∧w'=X):=fun x X O=>by
  rw [←ZRJ]
  exact ZQv x (ZA5 c) X (by omega) E
 have ak:Hid (W.ownsMap Tryz.prog 90 (plainElem Tryz.prog 3) b M.length D):=(hm.own.kept (row:=none) ⟨a.os,a.tape,a.output,a.size,fun k j _=>a.block k j⟩ (by simp))
 have T:Hid (∀x:Nat,Maps.has D (.int .u64 (x:Int))=decide (x∈M)):=hm.has
 have af:Hid (∀x:Nat,x∈M→D.atKey (.int .u64 (x:Int)) (.lit (.int .i64 0))=.lit (.int .i64 (f x))):=hm.val
 have aq:=hid hW
 have aC:Hid (∀X,Below W.heap.size W X→Below w.heap.size w X):=fun X hX=>a.trans (hX.mono a.size)
 have aH:Hid M.Nodup:=hMn;have aU:=hid hMl;have HF:=hid hf
 obtain ⟨F,an⟩:∃F,F=ZA5 c:=⟨_,rfl⟩
 rw [←an] at P N ⊢
 obtain ⟨RS,U⟩:∃RS:Int,RS=if r=0 then 1 else-(M.map fun x=>if x &&& F=x then f x else 0).sum:=⟨_,rfl⟩
 rw [←U];have aw:=hid U;clear U;obtain ⟨J,h2⟩:=am.out W (Below.refl _ _);clear hm hMn hMl hf hu hb a j hW E an
 by_cases hr0:r=0
 ·have HR:=hid hr0
  have aI:((r:Int) == 0)=true:=by simp [hr0]
  clear hr0 P N ak T af;go_enter Tryz.func60,Tryz.ntmps60
  go_upto_region 1 with fail
  rw [←aq.out];go_wp2;go_ret
  exact ⟨by rw [aw.out,if_pos HR.out]; rfl,aC.out _ (Below.refl _ _)⟩
 have HR:=hid hr0
 have aI:((r:Int) == 0)=false:=by simp [hr0]
 obtain ⟨R0,aW⟩:∃R0,R0=W.heap.size:=⟨_,rfl⟩
 clear hr0 aP;go_enter Tryz.func60,Tryz.ntmps60
 go_upto_region 1 with fail
 rw [←aq.out]
 go_wp2_with (first
  | (at_range; refine wpList_range_own _ rfl _ 87 rfl 90 3 ZMe ZRw _ b M.length _ rfl ak.out ?_; intro w0 v d aJ)
  | go_in)
 go_frame
 have bg:=hid d
 have aD:Hid (∀X,W.heap.size≤X.heap.size→(∀k,k < W.heap.size→X.heap[k]?=W.heap[k]?)→X.os=W.os→X.tape=W.tape→X.output=W.output→Below W.heap.size W X):=fun X J h2 h3 h4 h5=>⟨h3,h4,h5,J,fun k j=>h2 k j⟩
 have aN:Hid (Below W.heap.size W w0):=aD.out w0 d.size (fun k j=>d.block k j (by simp)) d.os d.tape d.output
 have aV:=hid v;clear d aJ v aW J h2
 go_loopw [5] (fun s wr=>∃(left:Lit→Bool) (ai:Nat),wr.ranges Tryz.prog 90 (plainElem (H:=Unit) Tryz.prog 3) b W.heap.size M.length D left ai∧s=.int .i64 (seL M f F left)∧(∀x:Nat,left (.int .u64 (x:Int))=true→x∈M)∧Below W.heap.size W wr)
  (fun _ wr=>wr.rangeLeft b W.heap.size)
 case atStart=>exact ⟨_,_,aV.out,by rw [ZMf fun x O=>by rw [T.out]; simp [O]],fun x O=>by rw [T.out] at O; simpa using O,aN.out⟩
 case round=>
  obtain ⟨left,ai,Y,rfl,t,hb⟩:=hrel;have L:=hid Y;have aA:=hid Y;have Q:=hid t;have V:=hid hb;have aT:=ZQI (F:=F) (left:=left) HF.out hM
  obtain ⟨sm,S⟩:∃sm,sm=seL M f F left:=⟨_,rfl⟩
  rw [←S] at aT ⊢;have aa:=hid S;clear Y t hb S
  go_wp2_with (first
   | (at_next; refine wpList_next_ranges_ii _ rfl _ rfl 90 3 .u64 .i64 ZMe ZRI Tryz.underlying3 b W.heap.size M.length _ _ _ rfl L.out ?_ ?_)
   | go_in)
  ·intro _ ah
   have HE:Hid (RS=-sm):=by
    show _=_
    rw [aw.out,if_neg HR.out,aa.out,ZQH ah]
   clear ah;go_wp2;go_ret;exact ⟨ZBA HE.out.symm,aC.out _ V.out⟩
  ·intro x0 cx R g au aO ae aF G az i aB aS
   obtain ⟨x,O⟩:∃x:Nat,x0=(x:Int):=by
    have:0≤x0:=by
     simp [Lit.wf,IntKind.min,IntKind.max,IntKind.signed,IntKind.bits] at au;omega
    exact ⟨x0.toNat,by omega⟩
   subst O;have l:x∈M:=Q.out x ae
   have aK:cx=f x:=by
    have J:=aF (.lit (.int .i64 0));rw [af.out x l] at J
    simpa using J.symm
   subst aK;have ar:=aU.out x l
   have o:Below W.heap.size W R:=aD.out R (by rw [aB]; exact V.out.size) (fun k j=>(i.block k (by have:=V.out.size; omega) (fun e=>by simp at e; omega)).trans (V.out.block k j)) (i.os.trans V.out.os) (i.tape.trans V.out.tape) (i.output.trans V.out.output)
   have m:Hid (seL M f F (fun z=>left z && !z.sameKey (.int .u64 (x:Int)))=sm+(if x &&& F=x then f x else 0)):=by
    show _=_
    rw [ZJM ae aH.out,if_pos l,aa.out]
   have B:=hid G
   have A:Hid (∀y:Nat,(left (.int .u64 (y:Int)) && !(Lit.int .u64 (y:Int)).sameKey (.int .u64 (x:Int)))=true→y∈M):=fun y hy=>Q.out y (by simp at hy; exact hy.1)
   have aQ:=hid az;have ay:=hid o;have aZ:=HF.out x;obtain ⟨q1,q2⟩:=am.out R o;have aG:=N.out x;have p:=P.out R o;clear au aO ae aF G az i aB o l af Q L aa;generalize f x=fx at *
   go_wp2_with fail
   refine p.mono ?_;rintro e w2 ⟨rfl,nq,aL⟩;subst aL;clear p
   go_wp2_with fail
   refine (aG _ ar).mono ?_;rintro e w3 ⟨rfl,aM⟩;subst aM
   have ag:Hid ((R.drewN nq).ranges Tryz.prog 90 (plainElem (H:=Unit) Tryz.prog 3) b W.heap.size M.length D (fun z=>left z && !z.sameKey (.int .u64 (x:Int))) g):=by
    exact B.out
   have aj:Hid (Below W.heap.size W (R.drewN nq)):=by
    obtain ⟨J,h2,h3,h4,h5⟩:=ay.out;exact ⟨J,h2,h3,h4,h5⟩
   have aE:Hid ((R.drewN nq).rangeLeft b W.heap.size < wr.rangeLeft b W.heap.size):=by
    show _ < _
    rw [ag.out.left_eq,aA.out.left_eq];exact aQ.out
   clear B ay aG q1 q2 aS
   by_cases hin:x &&& F=x
   ·rw [if_pos hin] at m
    have hid:decide (x &&& F=x)=true:=decide_eq_true hin
    have aR : -9000≤sm+fx∧sm+fx≤9000:=by omega
    obtain ⟨aY,aX⟩:=aR;clear hin;generalize decide (x &&& F=x)=di at *;subst hid;go_wp2
    go_roundw
    case rel=>exact ⟨_,g,ag.out,by rw [m.out],A.out,aj.out⟩
    case measure=>exact aE.out
   ·rw [if_neg hin,Int.add_zero] at m
    have hid:decide (x &&& F=x)=false:=decide_eq_false hin;clear hin;generalize decide (x &&& F=x)=di at *;subst hid;go_wp2
    go_roundw
    case rel=>exact ⟨_,g,ag.out,by rw [m.out],A.out,aj.out⟩
    case measure=>exact aE.out
theorem FlR.cells{B:Nat}{w:World}{uo:Option Addr}{n uc:Nat}{T:List FlT}(h:FlR B w (.slice uo n uc) T){k:Nat}(hk:k < T.length):∃g,uo=some ⟨g,0,none⟩∧B≤g∧g < w.heap.size∧w.cell? ⟨g,k*2,none⟩=some (T.getD k (.slice none 0 0,[],0)).1∧w.cell? ⟨g,k*2+1,none⟩=some (.int .i64 ((T.getD k (.slice none 0 0,[],0)).2.2:Nat)):=by
 rcases h.own.2 with ⟨_,h0⟩ | ⟨g,cap,cur,he,hB,hh,h1,_,h3,h4⟩
 ·omega
 ·simp only [Za3] at he
  obtain ⟨rfl,_,rfl⟩:=he
  have a:∀t,t < T.length*2→w.cell? ⟨g,t,none⟩=(ZBx (T.getD (t / 2) (.slice none 0 0,[],0)))[t % 2]?:=fun t ht=>by
   rw [←ZDL T t ht,←h4,Zaa5 ht,Array.getElem?_toList];simp [World.cell?,hh]
  refine ⟨g,rfl,hB,(Zaa3.1 hh).1,?_,?_⟩
  ·rw [a (k*2) (by omega),Nat.mul_div_cancel _ (by decide),Nat.mul_mod_left]
   rfl
  ·rw [a (k*2+1) (by omega),show (k*2+1) / 2=k by omega,show (k*2+1) % 2=1 by omega]
   rfl
structure PoI(w:World)(d:Nat)(P:List (List Int))(m:List (List Int×Nat))(k:Nat)(W:World):Prop where
 row:∃F,W.rowIs w.heap.size 3 (d+1) F∧∀i,i < d+1→F i=.int .i64 ((coF d P m k).getD i 0)
 mp:∃D,NmI W (w.heap.size+1) ((msk m).take k) (wf d P) D
 bel:Below w.heap.size w W
 size:w.heap.size+2≤W.heap.size
theorem PoI.below{w W W':World}{d:Nat}{P:List (List Int)}{m:List (List Int×Nat)}{k:Nat}(h:PoI w d P m k W)(hb:Below W.heap.size W W'):PoI w d P m k W':=by
 have a:=h.size;obtain ⟨F,f,c⟩:=h.row;obtain ⟨D,b⟩:=h.mp
 exact ⟨⟨F,f.of_block (hb.block _ (by omega)),c⟩,⟨D,b.below hb⟩,h.bel.trans (hb.mono h.bel.size),Zaa8 a hb.size⟩
theorem ZQJ{d:Nat}{P:List (List Int)}{m:List (List Int×Nat)}{k j:Nat}(h6:P.length≤6)(hm:m.length≤64):(coV d P m k j).natAbs≤4096:=by
 refine Zaa8 (ZFy (B:=64) _ fun x _=>?_) ?_
 ·split
  ·exact ZIs h6 _
  ·decide
 ·rw [List.length_take]
  have:min k m.length≤64:=by omega
  exact Zaa8 (Nat.mul_le_mul_right 64 this) (by decide)
theorem ZFC(d B:Nat)(P:List (List Int))(T:List FlT)(uo:Option Addr)(uc:Nat)(w:World)(hd1:1≤d)(hd3:d≤3)(h6:P.length≤6)(hP:∀i,i < P.length→∃j,j < d∧V (P.getD i []) j≠0)(hT:FlR B w (.slice uo T.length uc) T)(hS:FlS d P (T.map fun t=>t.2)) :
  Calls Tryz.prog 35 #[.int .i64 d,.slice uo T.length uc] w fun e w'=>∃co cc,e=.returned (.slice co (d+1) cc)∧Sl 0 3 w' (.slice co (d+1) cc) (ZAB ((List.range (d+1)).map (whC d P)))∧Below w.heap.size w w':=by
 obtain ⟨m,hm⟩:∃m,m=T.map fun t=>t.2:=⟨_,rfl⟩
 rw [←hm] at hS
 have r:m.length=T.length:=by rw [hm]; simp
 have aa:∀k,k < T.length→(T.getD k (.slice none 0 0,[],0)).2=m.getD k ([],0):=fun k a=>by rw [hm]; simp [a]
 have bq:T.length≤64:=by
  have S:=hS.nodup h6
  have h2:(msk m).length≤2 ^ P.length:=by
   have v:(msk m).length≤(List.range (2 ^ P.length)).length:=List.Nodup.length_le_of_subset S fun x f=>by
    obtain ⟨y,hy,rfl⟩:=List.mem_map.1 f;exact List.mem_range.2 (hS.mem h6 hy).2.2.2
   simpa using v
  have v:2 ^ P.length≤2 ^ 6:=Nat.pow_le_pow_right (by decide) h6
  have h4:(msk m).length=m.length:=by simp [msk]
  omega
 have aM:∀k,k < T.length→(m.getD k ([],0)).2≤d:=fun k a=>by
  have f:m.getD k ([],0)∈m:=by simp [r,a]
  obtain ⟨S,h2,v,h4⟩:=hS.mem h6 f;rw [v,←ZGo (ZDB.1 h2).1];exact ZFP _ _
 have aw:Hid (∀k X,k < T.length→(∃D,NmI X (w.heap.size+1) ((msk m).take k) (wf d P) D)→Below w.heap.size w X→Calls Tryz.prog 60 #[.map (some (w.heap.size+1)),.agg #[(T.getD k (.slice none 0 0,[],0)).1,.int .i64 ((m.getD k ([],0)).2:Nat)]] X fun e w'=>e=.returned (.int .i64 (wf d P (ZA5 (m.getD k ([],0)).1)))∧Below X.heap.size X w'):=fun k X a M hX=>by
  obtain ⟨D,M⟩:=M
  have f:m.getD k ([],0)∈m:=by simp [r,a]
  obtain ⟨S,h2,v,h4⟩:=hS.mem h6 f
  have Y:∀x∈(msk m).take k,x < 64:=fun x f=>by
   obtain ⟨y,hy,rfl⟩:=List.mem_map.1 (Zaa7 f)
   exact Nat.lt_of_lt_of_le (hS.mem h6 hy).2.2.2 (Zaa8 (Nat.pow_le_pow_right (by decide) h6) (by decide))
  have aQ:B64 (m.getD k ([],0)).1:=fun z hz=>by
   have:=((ZBl h6).1 _ S).2.2 z hz;omega
  have ay:Sl 0 3 X (T.getD k (.slice none 0 0,[],0)).1 (ZAB (m.getD k ([],0)).1):=by
   have:=(hT.inn _ (ZDM T k a)).below hX (Za4 _);rw [aa k a] at this;exact this
  refine (ZIX (w.heap.size+1) ((msk m).take k) (wf d P) D (m.getD k ([],0)).1 (m.getD k ([],0)).2 _ X M (by rw [List.length_take]; simp [msk]; omega) (List.Nodup.sublist (List.take_sublist _ _) (hS.nodup h6)) Y (fun x=>ZIs h6 x) ay aQ).mono ?_
  rintro e w' ⟨rfl,hb⟩;refine ⟨ZBA ?_,hb⟩
  by_cases hr:(m.getD k ([],0)).2=0
  ·rw [if_pos hr]
   have h5:=ZPP hP h4 (by rw [←v]; exact hr)
   rw [h5];exact (ZPQ h6 hP).symm
  ·rw [if_neg hr]
   exact hS.moe h6 (by omega) hr
 have aq:Hid (∀k X,k < T.length→Below w.heap.size w X→Calls Tryz.prog 61 #[(T.getD k (.slice none 0 0,[],0)).1] X fun e w'=>e=.returned (.int .u64 (ZA5 (m.getD k ([],0)).1:Nat))∧∃n,w'=X.drewN n):=fun k X a hX=>by
  have f:m.getD k ([],0)∈m:=by simp [r,a]
  obtain ⟨S,h2,v,h4⟩:=hS.mem h6 f
  have ay:Sl 0 3 X (T.getD k (.slice none 0 0,[],0)).1 (ZAB (m.getD k ([],0)).1):=by
   have:=(hT.inn _ (ZDM T k a)).below hX (Za4 _);rw [aa k a] at this;exact this
  exact ZG8 0 _ _ X ay fun z hz=>by
   have:=((ZBl h6).1 _ S).2.2 z hz;omega
 have ak:Hid (∀k X,k < T.length→(∃D,NmI X (w.heap.size+1) ((msk m).take k) (wf d P) D)→∃w2,(Instr.mapUpdate 87 (.map (some (w.heap.size+1))) (.int .u64 (ZA5 (m.getD k ([],0)).1:Nat)) (.int .i64 (wf d P (ZA5 (m.getD k ([],0)).1)))).run Tryz.prog X=.ok () w2∧(∃D',NmI w2 (w.heap.size+1) ((msk m).take (k+1)) (wf d P) D')∧X.grownBy w2 (some (w.heap.size+1))):=fun k X a M=>by
  obtain ⟨D,M⟩:=M
  have f:m.getD k ([],0)∈m:=by simp [r,a]
  obtain ⟨S,h2,v,h4⟩:=hS.mem h6 f
  have c:ZA5 (m.getD k ([],0)).1 < 64:=Nat.lt_of_lt_of_le h4 (Zaa8 (Nat.pow_le_pow_right (by decide) h6) (by decide))
  have:=M.put (x:=ZA5 (m.getD k ([],0)).1) (by omega) (by rw [List.length_take]; simp [msk]; omega) (Zaa8 (ZIs h6 _) (by decide))
  have e:(msk m).take (k+1)=(msk m).take k ++ [ZA5 (m.getD k ([],0)).1]:=by
   have J:k < (msk m).length:=by simp [msk]; omega
   rw [Zaa1 J]
   simp [msk,show k < m.length by omega]
  rw [e];exact this
 have ah:Hid (∀k,k < T.length→coF d P m (k+1)=(coF d P m k).set (d-(m.getD k ([],0)).2) ((coF d P m k).getD (d-(m.getD k ([],0)).2) 0+wf d P (ZA5 (m.getD k ([],0)).1))):=fun k a=>ZNK (by omega)
 have bl:Hid (∀k j,j < d+1→((coF d P m k).getD j 0).natAbs≤4096):=fun k j hj=>by
  rw [ZKw hj]
  exact ZQJ h6 (by omega)
 have aU:Hid (∀F,(wf d P F).natAbs≤64):=fun F=>ZIs h6 F
 have bk:Hid (coF d P m m.length=(List.range (d+1)).map (whC d P)):=hS.coef h6
 have ag:Hid (∀k X,k < T.length→Below w.heap.size w X→∃g,uo=some ⟨g,0,none⟩∧g < w.heap.size∧X.cell? ⟨g,k*2,none⟩=some (T.getD k (.slice none 0 0,[],0)).1∧X.cell? ⟨g,k*2+1,none⟩=some (.int .i64 ((m.getD k ([],0)).2:Nat))):=fun k X a hX=>by
  obtain ⟨g,S,h2,v,h4,h5⟩:=hT.cells a;rw [aa k a] at h5;exact ⟨g,S,v,(hX.cell (p:=⟨g,k*2,none⟩) v).trans h4,(hX.cell (p:=⟨g,k*2+1,none⟩) v).trans h5⟩
 have bp:=hid aM
 have aj:Hid (∀k,k < T.length→∃O n Q,(T.getD k (.slice none 0 0,[],0)).1=.slice O n Q):=fun k a=>by
  obtain ⟨O,Q,h,_,_⟩:=ZAI (hT.inn _ (ZDM T k a));exact ⟨O,_,Q,h⟩
 have bg:=hid r;have HZ:Hid (coF d P m 0=List.replicate (d+1) 0):=ZNI d P m
 have Y:=run_make_row' (P:=Tryz.prog) 27 3 (.int .i64 0) 8 Tryz.underlying27 Tryz.info3 rfl .i64 .i64 (d+1) (by omega) (by omega)
 have aL:((d+1:Nat):Int)=(d:Int)+1:=by omega
 simp only [aL] at Y;have bi:=@run_makeMap Tryz.prog;clear aL;clear hT hS hm r aa aM hP;go_enter Tryz.func35,Tryz.ntmps35;go_wp2
 obtain ⟨W2,s⟩:∃W2,W2=(w.alloc (.cells (madeCells #[.int .i64 0] (d+1)) 3)).alloc (.map #[] 0):=⟨_,rfl⟩
 have bh:Hid (PoI w d P m 0 W2):=by
  have aY:Below w.heap.size w (w.alloc (.cells (madeCells #[.int .i64 0] (d+1)) 3)):=ZAG _ _
  have E:Below w.heap.size w W2:=by rw [s]; exact aY.alloc (by simp) _
  refine ⟨⟨fun _=>.int .i64 0,⟨madeCells #[.int .i64 0] (d+1),?_,by rw [size_madeCells],fun i hi=>?_⟩,fun i hi=>?_⟩,⟨.map [],?_,fun x=>?_,fun x f=>absurd f (by simp)⟩,E,by rw [s]; simp⟩
  ·rw [s]
   exact (Below.heap_alloc _ _ _ (by simp)).trans (heap_alloc_new _ _)
  ·rw [←Array.getElem?_toList,toList_madeCells_one]; simp [hi]
  ·rw [HZ.out]
   simp [hi]
  ·have:=World.ownsMap_made (w.alloc (.cells (madeCells #[.int .i64 0] (d+1)) 3)) Tryz.prog 90 (plainElem (H:=Unit) Tryz.prog 3)
   rw [size_alloc] at this;rw [s];exact this
  ·simp [Maps.has]
 rw [←s];clear s Y bi HZ
 go_loopw [8,9,16] (fun _ _ i wr=>∃k:Nat,k≤T.length∧i=.int .i64 (k:Int)∧PoI w d P m k wr) (fun _ _ i _=>T.length-(intOf i).toNat)
 case atStart=>exact ⟨0,Za5 _,rfl,bh.out⟩
 case round=>
  obtain ⟨k,a,rfl,hI⟩:=hrel;have HI:=hid hI;have bF:=hI.size
  by_cases c:k < T.length
  ·obtain ⟨g,hg,bw,c1,c2⟩:=ag.out k wr c hI.bel
   subst hg;obtain ⟨O,sn,Q,aN⟩:=aj.out k c
   have bD:(k:Int) < (T.length:Int):=by omega
   have bB:=bp.out k c
   have ai:=fun X=>aw.out k X c
   have ar:=fun X=>aq.out k X c
   have aB:=fun X=>ak.out k X c
   have aH:=ah.out k c;rw [aN] at c1 ai ar;clear aN hI aw aq ak ah ag aj;have bu:=aU.out (ZA5 (m.getD k ([],0)).1);generalize wf d P (ZA5 (m.getD k ([],0)).1)=wv at *;generalize ZA5 (m.getD k ([],0)).1=Fk at *;generalize (m.getD k ([],0)).2=rk' at *;have aJ:=hid ai;have aP:=hid ar;have aC:=hid aB;have aG:=hid aH;clear ai ar aB aH
   obtain ⟨U,N⟩:∃U,U=wr.alloc (.cells #[.slice O sn Q,.int .i64 (rk':Nat)] 63):=⟨_,rfl⟩
   have af:Below wr.heap.size wr U:=by rw [N]; exact ZAG _ _
   have aK:U.heap[wr.heap.size]?=some (.cells #[.slice O sn Q,.int .i64 (rk':Nat)] 63 (0,0)):=by rw [N]; exact ZAL _ _
   have aF:U.heap.size=wr.heap.size+1:=by rw [N]; exact size_alloc _ _
   have ae:=HI.out.below af;have aO:=aJ.out U ae.mp ae.bel;have aR:=hid N;have G:Hid (Below wr.heap.size wr U∧U.heap.size=wr.heap.size+1∧U.heap[wr.heap.size]?=some (.cells #[.slice O sn Q,.int .i64 (rk':Nat)] 63 (0,0))):=⟨af,aF,aK⟩;clear af aK aF N ae aJ
   go_wp2_with fail
   rw [←aR.out];refine aO.mono ?_;rintro e w2 ⟨rfl,E⟩;have aS:Below wr.heap.size wr w2:=G.out.1.trans (E.mono G.out.1.size);have aA:=HI.out.below aS
   have J:w2.heap[wr.heap.size]?=some (.cells #[.slice O sn Q,.int .i64 (rk':Nat)] 63 (0,0)):=(E.block _ (by have:=G.out.2.1; omega)).trans G.out.2.2
   have c3:w2.cell? ⟨wr.heap.size,0,none⟩=some (.slice O sn Q):=by simp [World.cell?,J]
   have an:=hid J;have aT:=hid aA;have aD:=aP.out w2 aA.bel;clear E aS aA J aO aR G c1 c2
   go_wp2_with fail
   refine aD.mono ?_;rintro e w3 ⟨rfl,nq,am⟩
   have au:w3.heap=w2.heap:=by rw [am]; rfl
   have o:PoI w d P m k w3:=by
    rw [am];obtain ⟨⟨F,p1,p2⟩,⟨D,p3⟩,p4,p5⟩:=aT.out;obtain ⟨q1,q2,q3,q4,q5⟩:=p4;exact ⟨⟨F,p1,p2⟩,⟨D,p3.own,p3.has,p3.val⟩,⟨q1,q2,q3,q4,q5⟩,p5⟩
   obtain ⟨w4,bz,aI,L⟩:=aC.out w3 o.mp;obtain ⟨F,A,l⟩:=o.row;have bA:=o.size
   have R:w4.rowIs w.heap.size 3 (d+1) F:=A.of_block (L.block _ (by omega) (by simp))
   have aE:w4.heap[wr.heap.size]?=some (.cells #[.slice O sn Q,.int .i64 (rk':Nat)] 63 (0,0)):=by
    rw [L.block _ (by rw [au]; exact (Zaa3.1 an.out).1) (by simp; omega),au]
    exact an.out
   obtain ⟨j,hj⟩:∃j,j=d-rk':=⟨_,rfl⟩
   have bC:(d:Int)-(rk':Int)=(j:Int):=by omega
   have az:j < d+1:=by omega
   have bt:(j:Int) < (d:Int)+1:=by omega
   have c4:w4.cell? ⟨wr.heap.size,1,none⟩=some (.int .i64 (rk':Nat)):=by simp [World.cell?,aE]
   have c5:w4.cell? ⟨w.heap.size,j,none⟩=some (.int .i64 ((coF d P m k).getD j 0)):=by rw [R.cell az,l j az]
   have c6:w4.frozen? ⟨w.heap.size,j,none⟩=false:=R.frozen j;have bv:=bl.out k j az
   have aW:Hid (PoI w d P m (k+1) (w4.setCell ⟨w.heap.size,j,none⟩ (.int .i64 ((coF d P m k).getD j 0+wv)))):=by
    refine ⟨⟨_,R.set j _,fun i hi=>?_⟩,?_,?_,?_⟩
    ·rw [aG.out,←hj]
     by_cases e:i=j
     ·subst e
      have hl:i < (coF d P m k).length:=by rw [ZEQ]; omega
      simp [hl]
     ·have e2:((coF d P m k).set j ((coF d P m k).getD j 0+wv)).getD i 0=(coF d P m k).getD i 0:=by
       rw [Za2,List.getElem?_set_ne (Ne.symm e),←Za2]
      rw [if_neg e,l i hi,e2]
    ·obtain ⟨D',M⟩:=aI
     refine ⟨D',M.own.kept (row:=some w.heap.size) ?_ (by simp),M.has,M.val⟩
     exact ⟨rfl,rfl,rfl,by simp [World.setCell],fun b hb hne=>Below.heap_setCell _ _ _ _ (fun e=>hne (by rw [e]))⟩
    ·have aX:Below w.heap.size w w4:=o.bel.grown L o.bel.size (fun x f=>by simp at f; omega)
     exact aX.setCell (by show w.heap.size≤w.heap.size; omega) _
    ·have:=L.size
     simp [World.setCell];omega
   have bE:Hid True:=trivial;clear o aI L A l R aE aG hj aT aD aP aC au c3 an;subst am;generalize (coF d P m k).getD j 0=av at *;go_wp2
   exact ⟨⟨k+1,by omega,by go_num,aW.out⟩,by simp [intOf]; omega⟩
  ·have aZ:k=T.length:=by omega
   subst aZ;obtain ⟨F,A,l⟩:=hI.row
   have aV:Hid (Sl 0 3 wr (.slice (some ⟨w.heap.size,0,none⟩) (d+1) (d+1)) (ZAB ((List.range (d+1)).map (whC d P)))):=by
    rw [←bk.out,bg.out]
    exact ZCv A l (ZEQ _ _ _ _) (Za4 _) (by omega)
   have bj:Hid (Below w.heap.size w wr):=hI.bel;clear A l hI aw aq ak ah ag aj;go_wp2;go_ret;exact ⟨_,_,rfl,aV.out,bj.out⟩
theorem ZOI{B0:Nat}(d:Nat)(P:List (List Int))(v:Value)(w:World)(hd1:1≤d)(hd3:d≤3)(hG:PlG d P)(h5:P.length≤6)(hv:Mat B0 27 3 w v P) :
  Calls Tryz.prog 13 #[.int .i64 d,v] w fun e w'=>∃co cc,e=.returned (.tuple #[.slice co (d+1) cc,.int .i64 0])∧Sl 0 3 w' (.slice co (d+1) cc) (ZAB ((List.range (d+1)).map (whC d P)))∧Below w.heap.size w w':=by
 have y:∀i,i < P.length→∃j,j < d∧V (P.getD i []) j≠0:=fun i hi=>by
  refine Za6 fun hn=>hG.one _ (ZAg hi) ?_
  have F:∀j,j < d→V (P.getD i []) j=0:=fun j hj=>Za6 fun h=>hn ⟨j,hj,h⟩
  have p:rk d [P.getD i []]≤rk d []:=ZHs fun u _ r hr=>by
   rw [List.mem_singleton.1 hr];exact ZBQ F
  have s:rk d ([]:List (List Int))=0:=rfl;unfold rk at p s;omega
 have N:Hid (Calls Tryz.prog 14 #[.int .i64 d,v] w fun e w'=>e=.returned (.int .i64 0)∧Below w.heap.size w w'):=ZBJ d P v w hd1 hd3 hG (by omega) hv
 have M:Hid (∀X,Below w.heap.size w X→Calls Tryz.prog 34 #[.int .i64 d,v] X fun e w'=>∃a b T,e=.returned (.slice a T.length b)∧FlR (X.heap.size+3) w' (.slice a T.length b) T∧FlS d P (T.map fun t=>t.2)∧Below X.heap.size X w'):=fun X hX=>ZMa d P v X hd1 hd3 hG.row (ZDC y) h5 (hv.below hX (Za4 _))
 have G:Hid (∀(B:Nat) (T:List FlT) a b X,FlR B X (.slice a T.length b) T→FlS d P (T.map fun t=>t.2)→Calls Tryz.prog 35 #[.int .i64 d,.slice a T.length b] X fun e w'=>∃co cc,e=.returned (.slice co (d+1) cc)∧Sl 0 3 w' (.slice co (d+1) cc) (ZAB ((List.range (d+1)).map (whC d P)))∧Below X.heap.size X w'):=fun B T a b X p s=>ZFC d B P T a b X hd1 hd3 (by omega) y p s
 clear hv hG y;go_enter Tryz.func13,Tryz.ntmps13
 go_wp2_with fail
 refine N.out.mono ?_;rintro e L ⟨rfl,f⟩;have c:=hid f;clear f
 go_wp2_with fail
 refine (M.out L c.out).mono ?_;rintro e A ⟨a,b,T,rfl,D,z,m⟩;have E:=G.out _ T a b A D z;have l:Hid (Below w.heap.size w A):=c.out.trans (m.mono c.out.size);clear D z m
 go_wp2_with fail
 refine E.mono ?_;rintro e J ⟨co,cc,rfl,n,g⟩;have o:=hid n;have x:Hid (Below w.heap.size w J):=l.out.trans (g.mono l.out.size);clear n g E;go_wp2
 refine bodyPost_ret (v:=.tuple #[.slice co (d+1) cc,.int .i64 0]) (by simp [results,Tryz.results13,go_sem]) rfl ⟨co,cc,rfl,o.out,x.out⟩
end Go.Proofs.YtkjkfceblmgogaaGreat
