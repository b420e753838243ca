import Derived.Test.YtkfdpcgmpbopnaaGreatDoorOrdAll
import Derived.Test.YtkfdpcgmpbopnaaGreatDoorOfAll
import Derived.Test.YtkfdpcgmpbopnaaGreatDoorRowA
import Derived.Test.YtkfdpcgmpbopnaaGreatDoorWysA
import Derived.Maps.OwnIn
namespace Go.Proofs.YtkfdpcgmpbopnaaGreatDoor
open Go.RowKit Go.Shelf
attribute [local go_sem] Oper.semAt_some
attribute [local go_sem ↓] Go.wp_at_zero Go.wp_at_succ
theorem pks_snocP (P:List (List Int)) (x:List Int) (k:Nat) (h:k < x.length):pks P [] (x.take (k+1))=pks P [] (x.take k) ++ [P.getD (x.getD k 0).toNat []]:=by
 rw [take_snoc_int x k h]
 simp [pks]
theorem pickedP_any (B:Nat) (P:List (List Int)) (x:List Int) (v u:Value) (w:World) (hv:Mat B 22 3 w v P) (hu:Sl B 3 w u (ints x)) (hx:∀i,i < x.length→0≤x.getD i 0∧x.getD i 0 < P.length) (hl:x.length≤1000) :
  Calls Tryz.prog 73 #[v,u] w fun e w'=>∃z,e=.returned z∧Rws w.heap.size 22 3 w' z (pks P [] x)∧Below w.heap.size w w':=
 pickedK_any B P x v u w hv hu hx hl
end Go.Proofs.YtkfdpcgmpbopnaaGreatDoor
namespace Go.Proofs.YtkfdpcgmpbopnaaGreatDoor
open Go.RowKit Go.Shelf
attribute [local go_sem] Oper.semAt_some
theorem handA_below (N0:Nat) (W:World) (S:Nat→Prop) (x:List Int) (vs:Array Value) (W':World) (h:Hand N0 W S x vs) (hb:Below W.heap.size W W'):Hand N0 W' S x vs:=by
 obtain ⟨v,B0,h1,h2,h3,h4,h5⟩:=h
 exact ⟨v,B0,h1,owns_below h2 hb (Nat.le_refl _),h3,h4,Nat.le_trans h5 hb.size⟩
theorem handA_put (N0:Nat) (W:World) (S:Nat→Prop) (x:List Int) (vs:Array Value) (l:Nat) (r:Loop) (o:Obj) (h:Hand N0 W S x vs) (hl:W.heap[l]?=some (.loop r)):Hand N0 (W.putObj l o) S x vs:=by
 obtain ⟨v,B0,h1,h2,h3,h4,h5⟩:=h
 exact ⟨v,B0,h1,ownsRow_putObj h2 _ hl rfl,h3,h4,by simpa using h5⟩
structure FrO (S:Nat→Prop) (B:Nat) (W:World) (v:Value) (m:List (List Int)) (vs:List Value):Prop where
 len:vs.length=m.length
 own:W.ownsRow B 22 1 v m.length vs
 off:∀g,v.ownBlock=some g→¬S g
 sl:∀i,i < m.length→Sl 0 3 W (vs.getD i (.slice none 0 0)) (ints (m.getD i []))
 so:∀i,i < m.length→0 < (m.getD i []).length→∃a n c,vs.getD i (.slice none 0 0)=.slice (some a) n c∧¬S a.block
theorem FrO.fr {S:Nat→Prop} {B:Nat} {W:World} {v:Value} {m:List (List Int)} {vs:List Value} (h:FrO S B W v m vs):Fr B 22 3 W v m:=⟨vs,h.len,h.own,h.sl⟩
theorem sl_pos_keep {w W:World} {v:Value} {xs:List Int} (h:Sl 0 3 w v (ints xs)) (hk:0 < xs.length→∀a n c,v=.slice (some a) n c→W.heap[a.block]?=w.heap[a.block]?):Sl 0 3 W v (ints xs):=by
 obtain ⟨ao,cap,rfl,h1,h2,h3,h4⟩:=h
 refine ⟨ao,cap,rfl,h1,h2,fun i hi=>?_,h4⟩
 obtain ⟨b,o,rfl,hc,ht⟩:=h3 i hi
 have k1:=hk (by simpa using (Nat.lt_of_le_of_lt (Nat.zero_le _) hi)) _ _ _ rfl
 refine ⟨b,o,rfl,(World.cell?_of_block (w:=w) (a:=⟨b,o+i,none⟩) k1).trans hc,?_⟩
 rcases ht with ht | ⟨cur,ht⟩
 ·omega
 ·exact .inr ⟨cur,k1.trans ht⟩
theorem sl_block {w:World} {a:Addr} {n c:Nat} {xs:List Int} (h:Sl 0 3 w (.slice (some a) n c) (ints xs)) (hp:0 < xs.length):a.block < w.heap.size:=by
 obtain ⟨ao,cap,hv,_,_,h3,_⟩:=h
 simp only [Value.slice.injEq] at hv
 obtain ⟨rfl,_,_⟩:=hv
 obtain ⟨b,o,ha,hc,_⟩:=h3 0 (by simpa using hp)
 cases ha
 have hx:(ints xs)[0]?=some (.int .i64 (xs.getD 0 0)):=ints_get _ _ hp
 exact lt_of_cell (hc.trans hx)
theorem FrO.keep {S S':Nat→Prop} {B:Nat} {W W':World} {v:Value} {m:List (List Int)} {vs:List Value} (h:FrO S B W v m vs) (hc:∀b,b < W.heap.size→¬S b→W'.heap[b]?=W.heap[b]?) (hs:∀b,S' b→S b∨W.heap.size≤b):FrO S' B W' v m vs:=by
 refine ⟨h.len,⟨h.own.1,?_⟩,fun g hg hx=>?_,fun i hi=>sl_pos_keep (h.sl i hi) (fun hp a n c e=>?_),fun i hi hp=>?_⟩
 ·rcases h.own.2 with h2 | ⟨g,cap,cur,rfl,hb,hh,r⟩
  ·exact Or.inl h2
  ·exact Or.inr ⟨g,cap,cur,rfl,hb,(hc g (lt_of_block hh) (h.off g rfl)).trans hh,r⟩
 ·rcases hs g hx with h1 | h1
  ·exact h.off g hg h1
  ·have:=(h.own.lt g hg).2; omega
 ·obtain ⟨a',n',c',e',hn⟩:=h.so i hi hp
  rw [e] at e'
  cases e'
  have hsl:=h.sl i hi
  rw [e] at hsl
  exact hc _ (sl_block hsl hp) hn
 ·obtain ⟨a,n,c,e,hn⟩:=h.so i hi hp
  refine ⟨a,n,c,e,fun hx=>?_⟩
  have hsl:=h.sl i hi
  rw [e] at hsl
  rcases hs _ hx with h1 | h1
  ·exact hn h1
  ·have:=sl_block hsl hp; omega
theorem FrO.push {S:Nat→Prop} {B:Nat} {W W':World} {v v' u:Value} {m:List (List Int)} {vs:List Value} {zs:List Int} (h:FrO S B W v m vs) (hu:Sl 0 3 W u (ints zs)) (hun:0 < zs.length→∃a n c,u=.slice (some a) n c∧¬S a.block)
  (ho:W'.ownsRow B 22 1 v' (m.length+1) (vs ++ [u])) (hg:W.grownBy W' v.ownBlock) (hn:∀g,v'.ownBlock=some g→¬S g):FrO S B W' v' (m ++ [zs]) (vs ++ [u]):=by
 have hp:=Fr.push (e2:=22) (e1:=3) (m:=m) (u:=u) (zs:=zs) (by decide) h.len h.own h.sl hu ho hg
 have ht:∀k,v.ownBlock=some k→0≤k∧∀cur,W.heap[k]?≠some (.cells cur 3 (0,0)):=fun k hk=>⟨Nat.zero_le _,(owns_typed h.own (by decide) k hk).2⟩
 refine ⟨by simp [h.len],by simpa using ho,hn,fun i hi=>?_,fun i hi hpos=>?_⟩
 ·by_cases hlt:i < m.length
  ·have e1':(vs ++ [u]).getD i (.slice none 0 0)=vs.getD i (.slice none 0 0):=by
    simp only [List.getD_eq_getElem?_getD]; rw [List.getElem?_append_left (by have:=h.len; omega)]
   have e2':(m ++ [zs]).getD i []=m.getD i []:=by
    simp only [List.getD_eq_getElem?_getD]; rw [List.getElem?_append_left (by omega)]
   rw [e1',e2']
   exact (h.sl i hlt).grown hg ht
  ·have hi':i=m.length:=by simp at hi; omega
   subst hi'
   have e1':(vs ++ [u]).getD m.length (.slice none 0 0)=u:=by
    rw [←h.len]; simp
   have e2':(m ++ [zs]).getD m.length []=zs:=by simp
   rw [e1',e2']
   exact hu.grown hg ht
 ·by_cases hlt:i < m.length
  ·have e1':(vs ++ [u]).getD i (.slice none 0 0)=vs.getD i (.slice none 0 0):=by
    simp only [List.getD_eq_getElem?_getD]; rw [List.getElem?_append_left (by have:=h.len; omega)]
   have e2':(m ++ [zs]).getD i []=m.getD i []:=by
    simp only [List.getD_eq_getElem?_getD]; rw [List.getElem?_append_left (by omega)]
   rw [e2'] at hpos
   rw [e1']
   exact h.so i hlt hpos
  ·have hi':i=m.length:=by simp at hi; omega
   subst hi'
   have e1':(vs ++ [u]).getD m.length (.slice none 0 0)=u:=by
    rw [←h.len]; simp
   have e2':(m ++ [zs]).getD m.length []=zs:=by simp
   rw [e2'] at hpos
   rw [e1']
   exact hun hpos
end Go.Proofs.YtkfdpcgmpbopnaaGreatDoor
namespace Go.Proofs.YtkfdpcgmpbopnaaGreatDoor
open Go.RowKit Go.Shelf
attribute [local go_sem] Oper.semAt_some
theorem mat_keepA {B:Nat} {w W:World} {v:Value} {m:List (List Int)} (h:Mat B 22 3 w v m) (hk:∀b,b < w.heap.size→W.heap[b]?=w.heap[b]?):Mat B 22 3 W v m:=by
 obtain ⟨vs,h1,h2,h3⟩:=h
 exact ⟨vs,h1,h2.move fun b hl ht=>⟨hk b hl,ht⟩,fun i hi=>(h3 i hi).move fun b hl ht=>⟨hk b hl,ht⟩⟩
theorem FrO.set {S:Nat→Prop} {B b j:Nat} {t:TypeId} {w:World} {v u:Value} {m:List (List Int)} {vs:List Value} {cur:Array Value} (h:FrO S B w v m vs) (hb:b < B) (hR:w.heap[b]?=some (.cells cur t (0,0))) (ht:t≠3):FrO S B (w.setCell ⟨b,j,none⟩ u) v m vs:=by
 refine ⟨h.len,owns_set h.own hb,h.off,fun i hi=>(h.sl i hi).setCell u ⟨Nat.zero_le _,fun cur' e=>?_⟩,h.so⟩
 have e':w.heap[b]?=some (.cells cur' 3 (0,0)):=e
 rw [hR] at e'
 simp at e'
 exact ht e'.2
theorem pks_len (P:List (List Int)) (c:List Int):(pks P [] c).length=c.length:=by simp [pks]
end Go.Proofs.YtkfdpcgmpbopnaaGreatDoor
namespace Go.Proofs.YtkfdpcgmpbopnaaGreatDoor
open Go.RowKit
attribute [local go_sem ↓] Go.wp_at_zero Go.wp_at_succ
theorem box_near {d k:Nat} {P:List (List Int)} (h:Box d k P) (hk:k≤100) {x:List Int} (hx:x∈P):(x.any (farB · 100))=false:=by
 rw [List.any_eq_false]
 intro z hz
 have:=(h x hx).2 z hz
 simp [farB]
 omega
theorem Sl.take {B n c:Nat} {w:World} {ao:Option Addr} {zs:List Int} (h:Sl B 3 w (.slice ao zs.length c) (ints zs)) (hn:n≤zs.length):Sl B 3 w (.slice ao n c) (ints (zs.take n)):=by
 obtain ⟨bo,cap,hv,h1,h2,h3,h4⟩:=h
 simp only [Value.slice.injEq] at hv
 obtain ⟨rfl,_,rfl⟩:=hv
 refine ⟨ao,c,by simp; omega,by simp at h1 ⊢; omega,h2,fun i hi=>?_,h4⟩
 have hi':i < n:=by simp at hi; omega
 obtain ⟨b,o,ha,hc,ht⟩:=h3 i (by simp; omega)
 refine ⟨b,o,ha,?_,ht⟩
 rw [hc,ints_get _ _ (by omega),ints_get _ _ (by simp; omega)]
 simp [hi']
def agn (r x:List Int):Int:=cmpI (dotL (r.take x.length) x) (r.getD x.length 0)
set_option maxRecDepth 100000 in
set_option maxHeartbeats 800000 in
theorem against_any (B:Nat) (r x:List Int) (u v:Value) (w:World) (hu:Sl B 3 w u (ints r)) (hv:Sl B 3 w v (ints x)) (hl:r.length=x.length+1) (hs:Sm (r.take x.length) x) :
  Calls Tryz.prog 130 #[u,v] w fun e w'=>e=.returned (.int .i64 (agn r x))∧Below w.heap.size w w':=by
 obtain ⟨ao,cap,huu,hlc,hcm⟩:=sl_open hu
 obtain ⟨bo,cbp,hvv,hlb,hcb⟩:=sl_open hv
 subst huu hvv
 have HU:Hid (Sl B 3 w (.slice ao r.length cap) (ints r)):=hu
 have HV:Hid (Sl B 3 w (.slice bo x.length cbp) (ints x)):=hv
 have HS:Hid (Sm (r.take x.length) x):=hs
 have hTK:=Sl.take (n:=x.length) hu (by omega)
 obtain ⟨b,o,cp,hs1,hc1,hcc⟩:=sl_cell hu (k:=x.length) (by omega)
 simp only [Value.slice.injEq] at hs1
 obtain ⟨rfl,_,rfl⟩:=hs1
 have HTK:Hid (Sl B 3 w (.slice (some ⟨b,o,none⟩) x.length cap) (ints (r.take x.length))):=hTK
 have HP:Hid (∀n,Calls Tryz.prog 69 #[.slice (some ⟨b,o,none⟩) x.length cap,.slice bo x.length cbp] (w.drewN n) fun e w'=>e=.returned (.int .i64 (dotL (r.take x.length) x))∧∃k,w'=(w.drewN n).drewN k):=fun n=>
  product_any B _ x _ _ _ (HTK.out.drewN n) (HV.out.drewN n) HS.out
 have HAG:Hid (agn r x=cmpI (dotL (r.take x.length) x) (r.getD x.length 0)):=rfl
 generalize dotL (r.take x.length) x=D at *
 generalize r.getD x.length 0=q at *
 rw [hl] at hlc
 rw [hl]
 clear hu hv hs hTK
 have HC:Hid (∀n,Calls Tryz.prog 94 #[.int .i64 D,.int .i64 q] (w.drewN n) fun e w'=>e=.returned (.int .i64 (cmpI D q))∧w'=w.drewN n):=fun n=>cmpI_any D q _
 generalize cmpI D q=R at *
 generalize hxl:x.length=xl at *
 have hx0:(0:Int)≤(xl:Int):=by omega
 have hx1:(xl:Int) < (xl:Int)+1:=by omega
 have hx2:xl≤cap:=by omega
 have hx3:(xl:Int)≤(cap:Int):=by omega
 go_enter Tryz.func130,Tryz.ntmps130
 go_wp2
 go_quiet (first | (go_at_call 69; exact Calls.quiet_of (w:=w) (HP.out _)) | (go_at_call 94; exact Calls.quiet_of_same (w:=w) (HC.out _)))
 go_wp2
 go_ret
 exact ⟨by rw [HAG.out]; rfl,⟨rfl,rfl,rfl,Nat.le_refl _,fun _ _=>rfl⟩⟩
end Go.Proofs.YtkfdpcgmpbopnaaGreatDoor
namespace Go.Proofs.YtkfdpcgmpbopnaaGreatDoor
open Go.RowKit
attribute [local go_sem ↓] Go.wp_at_zero Go.wp_at_succ
structure Good (d:Nat) (P:List (List Int)):Prop where
 d1:1≤d
 d4:d≤4
 n2:2≤P.length
 n24:P.length≤24
 box:Box d 30 P
 full:(pickL d (diffL P)).length=d
end Go.Proofs.YtkfdpcgmpbopnaaGreatDoor
namespace Go.Proofs.YtkfdpcgmpbopnaaGreatDoor
open Go.RowKit
attribute [local go_sem ↓] Go.wp_at_zero Go.wp_at_succ
end Go.Proofs.YtkfdpcgmpbopnaaGreatDoor
