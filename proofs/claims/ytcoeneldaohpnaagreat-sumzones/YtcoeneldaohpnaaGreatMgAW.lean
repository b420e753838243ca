import Derived.Test.YtcoeneldaohpnaaGreatWr8
import Derived.Test.YtcoeneldaohpnaaGreatWq5
import Derived.OrdersIn
import Derived.OwnWalkIn
import Derived.OrdersHeld
import Derived.RangeFuncCalls
import Derived.RangeFuncNested
import Derived.Deep.RegionHeld3
import Derived.Test.YtcoeneldaohpnaaGreatMgAM
import Derived.Test.YtcoeneldaohpnaaGreatMgAC
import Derived.Test.YtcoeneldaohpnaaGreatMgAI
import Derived.Test.YtcoeneldaohpnaaGreatMgAA
import Derived.Test.YtcoeneldaohpnaaGreatMgAB
import Derived.Test.YtcoeneldaohpnaaGreatMgAF
import Derived.Test.YtcoeneldaohpnaaGreatRefs7
import Derived.Test.YtcoeneldaohpnaaGreatMgAP
import Derived.Deep.OwnRows
import Derived.Test.YtcoeneldaohpnaaGreatMgAG
namespace Go.Proofs.YtcoeneldaohpnaaGreat
open Go.RowKit
open Lin
theorem diff_gives (d:Nat) (t:List (List Int)) (vt:Value) (w:World) (ht:Mat w.heap.size 26 3 w vt t) (h1:1≤t.length) (h2:t.length≤1000) (hd:1≤d) (hd5:d≤5) (hb:Box d 100 t) :
  ∀W,Below w.heap.size w W→Calls Tryz.prog 72 #[vt] W fun e w'=>∃z,e=.returned z∧Mat w'.heap.size 26 3 w' z (diffL t)∧Below W.heap.size W w':=fun W hB=>by
 refine (differences_any W.heap.size d t vt W ((ht.below hB (Nat.le_refl _)).any (Nat.le_refl _)) h1 h2 hd (by omega) (fun r hr=>(hb r hr).1) (fun r hr z hz=>by have:=(hb r hr).2 z hz; omega)).mono ?_
 rintro e w' ⟨x,rfl,⟨vs,g1,g2,g3⟩,h4⟩
 exact ⟨x,rfl,⟨vs,g1,Sl.own g2,fun i hi=>(g3 i hi).any (Nat.le_refl _)⟩,h4⟩
theorem ker_gives (d:Nat) (D:List (List Int)) (w:World) (hx:Mx d 200 D) (hc4:d≤4) (h1:D.length≤500) (hd:d≤1000) :
  ∀W z,Below w.heap.size w W→Mat W.heap.size 26 3 W z D→Calls Tryz.prog 71 #[z,.int .i64 d] W fun e w'=>∃K y,e=.returned y∧KerP d D K∧K.length≤1000∧Mat w'.heap.size 26 3 w' y K∧Below W.heap.size W w':=fun W z _ hz=>by
 refine (kernelD_any0 W.heap.size d D z W hx hc4 hz h1).mono ?_
 rintro e w' ⟨M',C,k,sgn,hr,u,rfl,⟨vs,g1,g2,g3⟩,_,h3⟩
 refine ⟨_,u,rfl,⟨M',C,k,sgn,hr,rfl⟩,?_,⟨vs,g1,Sl.own g2,fun i hi=>(g3 i hi).any (Nat.le_refl _)⟩,h3⟩
 rw [List.length_map]
 unfold freesT
 refine Nat.le_trans (List.length_filter_le _ _) ?_
 simp
 omega
end Go.Proofs.YtcoeneldaohpnaaGreat

namespace Go.Proofs.YtcoeneldaohpnaaGreat
open Lin
theorem thr_len (d:Nat) (u v x:List Int) (P:List (List Int)):(thrL d u v x P).length≤2:=by
 have h:∀off e,(endR d u v x off e).length≤1:=fun off e=>by unfold endR; split <;> simp
 unfold thrL
 split
 ·simp
 ·rw [List.length_append]
  have h1:=h
  rename_i m l _
  have a:=h (m :: l) (mxF m l)
  have b:=h (m :: l) (negP (mnF m l))
  omega
structure RwQ (d:Nat) (P pre m:List (List Int)):Prop where
 is:∀r∈m,r∈rowsC P [] d P
 all:∀c∈pre,FlatOk d (pks P [] c)→∃u v,Bas d (pks P [] c) ((pks P [] c).getD 0 []) u v∧∀r∈thrL d u v ((pks P [] c).getD 0 []) P,r∈m
 len:m.length≤2*pre.length
theorem RwQ.nil (d:Nat) (P:List (List Int)):RwQ d P [] []:=⟨fun r hr=>(by cases hr),fun c hc=>(by cases hc),Nat.le_refl _⟩
def ThrQ (d:Nat) (P t R:List (List Int)):Prop:=∃K,KerP d (diffL t) K∧R=thrK d K (t.getD 0 []) P
theorem ThrQ.len {d:Nat} {P t R:List (List Int)} (h:ThrQ d P t R):R.length≤2:=by
 obtain ⟨K,_,rfl⟩:=h
 unfold thrK
 split
 ·exact thr_len _ _ _ _ _
 ·simp
theorem RwQ.snoc {d:Nat} {P pre m R:List (List Int)} {c:List Int} (h:RwQ d P pre m) (hg:Good d P) (ht:∀y∈pks P [] c,y∈P) (h1:1≤(pks P [] c).length) (hR:ThrQ d P (pks P [] c) R):RwQ d P (pre ++ [c]) (m ++ R):=by
 have hRl:=hR.len
 obtain ⟨K,hK,rfl⟩:=hR
 have hbox:Box d 100 (pks P [] c):=fun y hy=>hg.box y (ht y hy)
 have hx:(pks P [] c).getD 0 []∈P:=ht _ (by simp [show 0 < (pks P [] c).length by omega])
 refine ⟨fun r hr=>?_,fun c' hc' hf=>?_,by rw [List.length_append,List.length_append,List.length_singleton]; have:=h.len; omega⟩
 ·rcases List.mem_append.1 hr with hr | hr
  ·exact h.is r hr
  ·unfold thrK at hr
   split at hr
   ·rename_i h2
    obtain ⟨hB,_⟩:=ker_bas hbox hg.d1 hg.dm hK h2 h1
    exact wr_in hg hx ht hB hr
   ·cases hr
 ·rcases List.mem_append.1 hc' with hc' | hc'
  ·obtain ⟨u,v,hB,ha⟩:=h.all c' hc' hf
   exact ⟨u,v,hB,fun r hr=>List.mem_append.2 (Or.inl (ha r hr))⟩
  ·simp only [List.mem_singleton] at hc'
   subst hc'
   have h2:K.length=2:=by
    have:=ker_len hK
    unfold FlatOk at hf
    omega
   obtain ⟨hB,_⟩:=ker_bas hbox hg.d1 hg.dm hK h2 h1
   refine ⟨_,_,hB,fun r hr=>List.mem_append.2 (Or.inr ?_)⟩
   unfold thrK
   rw [if_pos h2]
   exact hr
theorem RwQ.mem {e:Nat} {P m:List (List Int)} (hg:Good (e+1) P) (he:1≤e) (h:RwQ (e+1) P (ext P.length e 0) m) (r:List Int):r∈m↔r∈rowsC P [] (e+1) P:=by
 refine ⟨h.is r,fun hr=>?_⟩
 obtain ⟨t,hts,htl,hfl,hall⟩:=wr_complete hg he hr
 have hx:=chz_ext P [] e 0
 rw [List.drop_zero] at hx
 have hm:t∈chz e P:=chz_mem.2 ⟨hts,htl⟩
 rw [←hx] at hm
 obtain ⟨c,hc,rfl⟩:=List.mem_map.1 hm
 obtain ⟨u,v,hB,ha⟩:=h.all c hc hfl
 exact ha r (hall u v hB)
theorem ext_lenW {P:List (List Int)} {e:Nat} (h24:P.length≤64) (h4:e≤3):(ext P.length e 0).length≤400000:=by
 have h3:(ext P.length e 0).length=(chz e P).length:=by
  have:=congrArg List.length (chz_ext P [] e 0)
  simpa using this
 rw [h3,←chs_chz]
 refine Nat.le_trans (chs_len _ _) ?_
 exact Nat.le_trans (Nat.pow_le_pow_left (show P.length+1≤65 by omega) e) (Nat.le_trans (Nat.pow_le_pow_right (by decide) h4) (by decide))
theorem thr_ok {d:Nat} {P t:List (List Int)} (hg:Good d P) (ht:∀y∈t,y∈P) (h1:1≤t.length):∀K,KerP d (diffL t) K→K.length=2→SeeOk d (K.getD 0 []) (K.getD 1 []) (t.getD 0 []) P∧offL d (K.getD 0 []) (K.getD 1 []) (t.getD 0 []) P≠[]∧1≤d:=fun K hK h2=>by
 have hbox:Box d 100 t:=fun y hy=>hg.box y (ht y hy)
 have hx:t.getD 0 []∈P:=ht _ (by simp [show 0 < t.length by omega])
 obtain ⟨hB,l1,l2,b1,b2⟩:=ker_bas hbox hg.d1 hg.dm hK h2 h1
 have hn:∀y∈P,∀z∈y,z.natAbs≤100:=fun y hy z hz=>by have:=(hg.box y hy).2 z hz; omega
 exact ⟨⟨l1,l2,(hg.box _ hx).1,by have:=hg.d4; omega,by have:=hg.n24; omega,b1,b2,hn _ hx,fun y hy=>⟨(hg.box y hy).1,hn y hy⟩⟩,off_some hg hB,hg.d1⟩
end Go.Proofs.YtcoeneldaohpnaaGreat

namespace Go.Proofs.YtcoeneldaohpnaaGreat
open Go
def notDef (o:Oper):Bool:=match o.op with
 | .defer _=>false
 | _=>true
theorem no_defer {ops:Array Oper} (h:ops.all notDef=true):∀(i:Nat) (o:Oper),ops[i]?=some o→∀c,o.op≠.defer c:=by
 intro i o ho c hc
 obtain ⟨hi,rfl⟩:=Array.getElem?_eq_some_iff.1 ho
 have:=Array.all_eq_true.1 h i hi
 unfold notDef at this
 rw [hc] at this
 cases this
def Nrm (K:Act→World→Prop):Exit→Act→World→Prop
 | .normal,a,w=>K a w
 | _,_,_=>False
theorem nrm_lets {K:Act→World→Prop} (h:LetsOut (Nrm K)):False:=by
 obtain ⟨a,w,h⟩:=h
 exact h
theorem rowsIn_rnd {P:Program} {L n:Nat} {row:String} {args:Array Value} {w:World} {R:Value→World→Prop} (h:Rows P row args w R):RowsIn (Fence.wide.inRound L) n P row args w R:=by
 intro c cs _
 obtain ⟨v,w',h1,h2⟩:=h c cs
 exact ⟨v,w',h1,stepsIn_wide.2 h2⟩
theorem wpOp_rnd {P:Program} {L n:Nat} {ops:Array Oper} {K0:Act→World→Prop} {Q:Exit→Act→World→Prop} {K K':Act→World→Prop} {i:Nat} {a:Act} {w:World} (hd:∀o,ops[i]?=some o→∀c,o.op≠.defer c)
  (hK:∀a w,K a w→K' a w) (h:wpOp P ops (Nrm K0) i K a w):wpOpIn (Fence.wide.inRound L) n P ops Q i K' a w:=by
 unfold wpOp at h
 unfold wpOpIn
 cases ho:ops[i]? with
 | none=>
  rw [ho] at h
  exact hK _ _ h
 | some o=>
  rw [ho] at h
  simp only at h ⊢
  by_cases hw:Region.wanted o (yielded ops a.tmps)=true
  ·rw [if_pos hw] at h ⊢
   rcases h with h | ⟨_,h⟩
   ·refine ⟨fun f _=>trivial,?_⟩
    have hsem:o.semAt (Fence.wide.inRound L).round a.eval=execOp a.eval o:=Oper.semAt_plain (Fence.wide.inRound L) _ _ (hd o ho)
    rw [hsem]
    unfold Oper.wp at h
    generalize (execOp a.eval o).run P w=r at *
    cases r with
    | ok nx w'=>
     cases nx with
     | value v=>exact hK _ _ h
     | skip=>exact hK _ _ h
     | defer d=>exact hK _ _ h
     | enter f args=>
      refine ⟨fun hx=>(by cases hx),?_⟩
      refine CallsIn.inRound L (callsIn_wide.2 (Calls.mono h ?_))
      intro e w'' he
      cases e with
      | returned v=>exact hK _ _ he
      | panicked c=>exact he.elim
      | outgrown=>exact (nrm_lets he).elim
     | row row args=>
      refine ⟨fun hx=>(by cases hx),rowsIn_rnd (Rows.mono h fun v w'' he=>hK _ _ he)⟩
     | _=>exact h.elim
    | halt x w'=>
     cases x <;> exact h.elim
   ·exact (nrm_lets h).elim
  ·rw [if_neg hw] at h ⊢
   exact ⟨fun f _=>trivial,hK _ _ h⟩
theorem wpAnyIn_rnd {P:Program} {L n:Nat} {md:Region.Mode} {ops:Array Oper} {S:World→Prop} {K:Act→World→Prop} {Q:Exit→Act→World→Prop} (hd:∀(i:Nat) (o:Oper),ops[i]?=some o→∀c,o.op≠.defer c) (hQ:∀a w,K a w→Q .normal a w) :
  ∀(fuel:Nat) (listed:Array Bool) (a:Act) (w:World),wpAnyH P md ops (Nrm K) S fuel listed a w→wpAnyIn (Fence.wide.inRound L) n P md ops Q fuel listed a w
 | 0,_,_,_,h=>⟨h.1,hQ _ _ h.2⟩
 | fuel+1,_,_,_,h=>⟨fun hr=>hQ _ _ (h.1 hr),fun i hi=>wpOp_rnd (hd i) (fun a' w' h'=>wpAnyIn_rnd hd hQ fuel _ a' w' h'.2) (h.2 i hi)⟩
theorem wpIn_region_rnd {P:Program} {L n id:Nat} {ops:Array Oper} (S:World→Prop) {K:Act→World→Prop} {Q:Exit→Act→World→Prop} {a:Act} {w:World} (hm:P.follows .mixedOrders=true) (hd:∀(i:Nat) (o:Oper),ops[i]?=some o→∀c,o.op≠.defer c) (hQ:∀a w,K a w→Q .normal a w)
  (hS:S w.drew) (h:S w.drew→wpAnyH P .any ops (Nrm K) S ops.size (Array.replicate ops.size false) a w.drew):(Code.region id ops true).wpIn (Fence.wide.inRound L) n P Q a w:=
 wpIn_region_any hm (wpAnyIn_rnd hd hQ _ _ _ _ (h hS))
end Go.Proofs.YtcoeneldaohpnaaGreat

namespace Go.Proofs.YtcoeneldaohpnaaGreat
open Go
theorem wpAnyH_tk {P:Program} {md:Region.Mode} {ops:Array Oper} {Q:Exit→Act→World→Prop} {S:World→Prop} {i d:Nat} {oi:Oper} {v:Value} {fuel:Nat} {listed:Array Bool} {a:Act} {w:World} (hi:ops.toList[i]?=some oi) (hd:oi.dst=some d)
  (hs:Region.noSelect ops=true) (hf:Region.free md ops listed i=true) (hr:(Region.ready md ops listed).contains i=true)
  (hQ:∀c a w,Q (.panic c) (a.put (some d) v) w→Q (.panic c) a w) (hy:YieldsIf P ops S oi v a) (hS:S w)
  (h:wpAnyH P md ops Q S fuel (listed.setIfInBounds i true) (a.put (some d) v) w):wpAnyH P md ops Q S (fuel+1) listed a w:=by
 rw [Array.getElem?_toList] at hi
 rw [←hd] at hQ h
 exact wpAnyH_take hi hs hf hr hQ hy hS h
theorem ready_tk {P:Program} {md:Region.Mode} {ops:Array Oper} {Q:Exit→Act→World→Prop} {S:World→Prop} {fuel:Nat} {listed:Array Bool} {a:Act} {w:World} {i:Nat} {o:Oper} {rs:List Nat} (ho:ops.toList[i]?=some o) (hw:Region.wanted o (yielded ops a.tmps)=true)
  (h:∀K':Act→World→Prop,Shut (∀a w,S w→(S w→wpAnyH P md ops Q S fuel (listed.setIfInBounds i true) a w)→K' a w)→Oper.wp P o a w K' Q)
  (hs:AllReadyH P md ops Q S fuel listed a w rs):AllReadyH P md ops Q S fuel listed a w (i :: rs):=by
 rw [Array.getElem?_toList] at ho
 refine AllReadyH.cons ho (fun K' hK=>?_) hs
 rw [if_pos hw]
 exact h K' hK
end Go.Proofs.YtcoeneldaohpnaaGreat

namespace Go.Proofs.YtcoeneldaohpnaaGreat
open Lin
def sm (t:List (Nat→Int)) (a:Nat→Int) (j:Nat):Int:=sumN t.length fun i=>a i*(t.getD i fun _=>0) j
end Go.Proofs.YtcoeneldaohpnaaGreat

namespace Go.Proofs.YtcoeneldaohpnaaGreat
open Lin
def sv (t:List (List Int)) (a:Nat→Int) (j:Nat):Int:=sm (t.map V) a j
end Go.Proofs.YtcoeneldaohpnaaGreat

namespace Go.Proofs.YtcoeneldaohpnaaGreat
open Go.RowKit
attribute [local go_sem ↓] Go.wp_at_zero Go.wp_at_succ
def outB (lo hi x:Int):Bool:=decide (x < lo) || decide (hi < x)
set_option maxHeartbeats 400000 in
theorem out1_any (x lo hi:Int) (w:World) (a b:Addr) (hc:w.cell? a=some (.int .i64 lo)) (hd:w.cell? b=some (.int .i64 hi)) :
  Calls Tryz.prog 63 #[.int .i64 x,.pointer (some a),.pointer (some b)] w fun e w'=>e=.returned (.bool (outB lo hi x))∧w'=w:=by
 by_cases hb:x < lo
 ·go_enter Tryz.func63,Tryz.ntmps63
  go_wp2
  go_ret
  exact ⟨ret_bool (by simp [outB,hb]),rfl⟩
 ·go_enter Tryz.func63,Tryz.ntmps63
  go_wp2
  go_ret
  exact ⟨ret_bool (by rw [outB,decide_eq_false (by omega:¬x < lo)]; rfl),rfl⟩
set_option maxHeartbeats 400000 in
theorem indexW_any (B:Nat) (lo hi:Int) (zs:List Int) (v:Value) (a b:Addr) (w:World) (hv:Sl B 3 w v (ints zs)) (hc:w.cell? a=some (.int .i64 lo)) (hd:w.cell? b=some (.int .i64 hi)) :
  Calls Tryz.prog 82 #[v,.func (.func 63) #[] #[.pointer (some a),.pointer (some b)]] w fun e w'=>e=.returned (.int .i64 (findI (outB lo hi) zs))∧w'=w:=by
 obtain ⟨ao,cap,hvv,hlc,hcm⟩:=sl_open hv
 subst hvv
 have HV:Hid (Sl B 3 w (.slice ao zs.length cap) (ints zs)):=hv
 have HIL:Hid (∀x,Calls Tryz.prog 63 #[.int .i64 x,.pointer (some a),.pointer (some b)] w fun e w'=>e=.returned (.bool (outB lo hi x))∧w'=w):=fun x=>out1_any x lo hi w a b hc hd
 clear hv hc hd
 go_enter Tryz.func82,Tryz.ntmps82
 go_wp2
 go_loop [8] (fun i=>∃k:Nat,k≤zs.length∧i=.int .i64 k∧(zs.take k).any (outB lo hi)=false) (fun i=>zs.length-(intOf i).toNat)
 case atStart=>exact ⟨0,Nat.zero_le _,rfl,by simp⟩
 case round=>
  obtain ⟨k,hk,rfl,hno⟩:=hrel
  have HN:Hid ((zs.take k).any (outB lo hi)=false):=hno
  clear hno
  by_cases hlt:k < zs.length
  ·obtain ⟨b',o,cp,hs,hc1,hcc⟩:=sl_cell HV.out hlt
   simp only [Value.slice.injEq] at hs
   obtain ⟨rfl,_,rfl⟩:=hs
   have HS1:Hid ((zs.take (k+1)).any (outB lo hi)=outB lo hi zs[k]):=any_snoc (p:=outB lo hi) hlt HN.out
   have HH:Hid (outB lo hi zs[k]=true→findI (outB lo hi) zs=k):=fun h=>findI_hit (p:=outB lo hi) hlt HN.out h
   rw [show zs.getD k 0=zs[k] by simp [hlt]] at hcc
   generalize zs[k]=x at *
   have HIX:Hid (Calls Tryz.prog 63 #[.int .i64 x,.pointer (some a),.pointer (some b)] w fun e w'=>e=.returned (.bool (outB lo hi x))∧w'=w):=HIL.out x
   generalize outB lo hi x=fb at *
   cases fb
   ·go_wp2_with (go_at_call 63; refine HIX.out.mono ?_; rintro e w' ⟨rfl,rfl⟩)
    go_round
    case rel=>exact ⟨k+1,by omega,by go_num,HS1.out⟩
    case measure=>simp [intOf]; omega
   ·have HH2:Hid (findI (outB lo hi) zs=k):=HH.out rfl
    clear HH
    go_wp2_with (go_at_call 63; refine HIX.out.mono ?_; rintro e w' ⟨rfl,rfl⟩)
    go_ret
    exact ⟨ret_int HH2.out.symm,rfl⟩
  ·have e:zs.take k=zs:=List.take_of_length_le (by omega)
   rw [e] at HN
   have HF:Hid (findI (outB lo hi) zs=-1):=findI_none HN.out
   go_wp2
   go_ret
   exact ⟨ret_int HF.out.symm,rfl⟩
set_option maxRecDepth 100000 in
theorem containsW_any (B:Nat) (lo hi:Int) (zs:List Int) (v:Value) (a b:Addr) (w:World) (hv:Sl B 3 w v (ints zs)) (hc:w.cell? a=some (.int .i64 lo)) (hd:w.cell? b=some (.int .i64 hi)) :
  Calls Tryz.prog 62 #[v,.func (.func 63) #[] #[.pointer (some a),.pointer (some b)]] w fun e w'=>e=.returned (.bool (zs.any (outB lo hi)))∧w'=w:=by
 have HII:=indexW_any B lo hi zs v a b w hv hc hd
 go_enter Tryz.func62,Tryz.ntmps62
 go_wp2_with fail
 refine HII.mono ?_
 rintro e w' ⟨rfl,rfl⟩
 go_wp2
 go_ret
 exact ⟨ret_bool findI_ge,rfl⟩
def withE (c:Nat) (lo hi:Int) (r:List Int):Int:=if r.length≠c then 3 else if r.any (outB lo hi) then 4 else 0
set_option maxRecDepth 100000 in
set_option maxHeartbeats 400000 in
theorem within_any (B:Nat) (c:Nat) (lo hi:Int) (r:List Int) (v:Value) (w:World) (hv:Sl B 3 w v (ints r)) :
  Calls Tryz.prog 48 #[v,.int .i64 c,.int .i64 lo,.int .i64 hi] w fun e w'=>e=.returned (.int .i64 (withE c lo hi r))∧Below w.heap.size w w':=by
 obtain ⟨ao,cap,hvv,hlc,hcm⟩:=sl_open hv
 subst hvv
 have HV:Hid (Sl B 3 w (.slice ao r.length cap) (ints r)):=hv
 clear hv
 by_cases hl:r.length=c
 ·have b0:((r.length:Int) != (c:Int))=false:=by rw [bne_eq_false_iff_eq]; omega
  rw [withE,if_neg (by omega)]
  clear hl
  obtain ⟨w1,hw1⟩:∃w1,w1=(w.alloc (.cells #[.int .i64 lo] 3)).alloc (.cells #[.int .i64 hi] 3):=⟨_,rfl⟩
  have HA:Hid (Calls Tryz.prog 62 #[.slice ao r.length cap,.func (.func 63) #[] #[.pointer (some ⟨w.heap.size,0,none⟩),.pointer (some ⟨w.heap.size+1,0,none⟩)]] w1 fun e w'=>e=.returned (.bool (r.any (outB lo hi)))∧w'=w1):=by
   subst hw1
   exact containsW_any B lo hi r _ _ _ _ ((HV.out.alloc _).alloc _) (by simp) (by simp)
  have HBB:Hid (Below w.heap.size w w1):=by
   subst hw1
   exact ((Below.refl _ _).alloc (Nat.le_refl _) _).alloc (by simp) _
  generalize r.any (outB lo hi)=R at *
  go_enter Tryz.func48,Tryz.ntmps48
  go_wp2_with fail
  try rw [←hw1]
  refine HA.out.mono ?_
  rintro e w' ⟨rfl,rfl⟩
  cases R
  ·go_wp2
   go_ret
   exact ⟨rfl,by have:=HBB.out; rw [hw1] at this; exact this⟩
  ·go_wp2
   go_ret
   exact ⟨rfl,by have:=HBB.out; rw [hw1] at this; exact this⟩
 ·have b0:((r.length:Int) != (c:Int))=true:=by rw [bne_iff_ne]; omega
  rw [withE,if_pos hl]
  clear hl
  go_enter Tryz.func48,Tryz.ntmps48
  go_wp2
  go_ret
  exact ⟨rfl,((Below.refl _ _).alloc (Nat.le_refl _) _).alloc (by simp) _⟩
theorem outB_far (most:Int):outB (-most) most=(farB · most):=by
 funext x
 rw [Bool.eq_iff_iff]
 simp [outB,farB,Bool.or_comm]
set_option maxRecDepth 100000 in
set_option maxHeartbeats 400000 in
theorem chkL_any (B:Nat) (c:Nat) (most:Int) (r:List Int) (v:Value) (w:World) (hv:Sl B 3 w v (ints r)) (h0:0≤most) (h1:most≤1000000) :
  Calls Tryz.prog 27 #[v,.int .i64 c,.int .i64 most] w fun e w'=>e=.returned (.int .i64 (if r.length≠c then 3 else if r.any (farB · most) then 4 else 0))∧Below w.heap.size w w':=by
 have HA:Hid (Calls Tryz.prog 48 #[v,.int .i64 c,.int .i64 (-most),.int .i64 most] w fun e w'=>e=.returned (.int .i64 (if r.length≠c then 3 else if r.any (farB · most) then 4 else 0))∧Below w.heap.size w w'):=by
  have:=within_any B c (-most) most r v w hv
  rw [withE,outB_far] at this
  exact this
 generalize (if r.length≠c then (3:Int) else if r.any (farB · most) then 4 else 0)=R at *
 go_enter Tryz.func27,Tryz.ntmps27
 go_wp2_with fail
 refine HA.out.mono ?_
 rintro e w' ⟨rfl,hb⟩
 have HB:Hid (Below w.heap.size w w'):=hb
 clear hb
 go_wp2
 go_ret
 exact ⟨rfl,HB.out⟩
end Go.Proofs.YtcoeneldaohpnaaGreat

namespace Go.Proofs.YtcoeneldaohpnaaGreat
open Go.RowKit
structure CutOk (d:Nat) (rows:List (List Int)):Prop where
 d1:1≤d
 d3:d≤3
 n12:rows.length≤12
 len:∀r∈rows,r.length=d+1
 bd:∀r∈rows,∀z∈r,z.natAbs≤20
structure CutF (d:Nat) (rows:List (List Int)):Prop where
 d1:1≤d
 d4:d≤4
 n12:rows.length≤12
 len:∀r∈rows,r.length=d+1
 bd:∀r∈rows,∀z∈r,z.natAbs≤20
end Go.Proofs.YtcoeneldaohpnaaGreat

namespace Go.Proofs.YtcoeneldaohpnaaGreat
open Go.RowKit Lin
attribute [local go_sem ↓] Go.wp_at_zero Go.wp_at_succ
theorem slice_cells {B:Nat} {e:TypeId} {w:World} {a:Addr} {n cap:Nat} {us:List Value} (h:Sl B e w (.slice (some a) n cap) us):∀j u,us[j]?=some u→w.cell? (a.add j)=some u:=by
 intro j u hj
 have hlt:j < us.length:=(List.getElem?_eq_some_iff.1 hj).1
 obtain ⟨ao,c,hv,_,_,h3,_⟩:=h
 obtain ⟨b,o,ha,hc,_⟩:=h3 j hlt
 simp only [Value.slice.injEq] at hv
 rw [←hv.1] at ha
 simp only [Option.some.injEq] at ha
 rw [ha]
 have h5:=hc.trans hj
 unfold Addr.add
 by_cases e:j=0
 ·subst e; simpa using h5
 ·simpa [e] using h5
end Go.Proofs.YtcoeneldaohpnaaGreat
