import Derived.Test.YtadpjlpdfimaeaaGreatDoorMgAN
import Derived.Test.YtadpjlpdfimaeaaGreatDoorMgAH
import Derived.Test.YtadpjlpdfimaeaaGreatDoorMgAJ
import Derived.Maps.OwnIn
import Derived.Test.YtadpjlpdfimaeaaGreatDoorLinAll
namespace Go.Proofs.YtadpjlpdfimaeaaGreatDoor
open Go.RowKit Go.Shelf
attribute [local go_sem] Oper.semAt_some
attribute [local go_sem ↓] Go.wp_at_zero Go.wp_at_succ
theorem pickedP_any (B:Nat) (P:List (List Int)) (x:List Int) (v u:Value) (w:World) (hv:Mat B 22 3 w v P) (hu:Sl B 3 w u (ints x)) (hx:∀i,i < x.length→0≤x.getD i 0∧x.getD i 0 < P.length) (hl:x.length≤1000) :
  Calls Tryz.prog 13 #[v,u] w fun e w'=>∃z,e=.returned z∧Rws w.heap.size 22 3 w' z (pks P [] x)∧Below w.heap.size w w':=
 pickedK_any B P x v u w hv hu hx hl
end Go.Proofs.YtadpjlpdfimaeaaGreatDoor

namespace Go.Proofs.YtadpjlpdfimaeaaGreatDoor
open Go.RowKit Go.Shelf
attribute [local go_sem] Oper.semAt_some
theorem handA_below (N0:Nat) (W:World) (S:Nat→Prop) (x:List Int) (vs:Array Value) (W':World) (h:Hand N0 W S x vs) (hb:Below W.heap.size W W'):Hand N0 W' S x vs:=by
 obtain ⟨v,B0,h1,h2,h3,h4,h5⟩:=h
 exact ⟨v,B0,h1,owns_below h2 hb (Nat.le_refl _),h3,h4,Nat.le_trans h5 hb.size⟩
theorem handA_put (N0:Nat) (W:World) (S:Nat→Prop) (x:List Int) (vs:Array Value) (l:Nat) (r:Loop) (o:Obj) (h:Hand N0 W S x vs) (hl:W.heap[l]?=some (.loop r)):Hand N0 (W.putObj l o) S x vs:=by
 obtain ⟨v,B0,h1,h2,h3,h4,h5⟩:=h
 exact ⟨v,B0,h1,ownsRow_putObj h2 _ hl rfl,h3,h4,by simpa using h5⟩
structure FrO (S:Nat→Prop) (B:Nat) (W:World) (v:Value) (m:List (List Int)) (vs:List Value):Prop where
 len:vs.length=m.length
 own:W.ownsRow B 22 1 v m.length vs
 off:∀g,v.ownBlock=some g→¬S g
 sl:∀i,i < m.length→Sl 0 3 W (vs.getD i (.slice none 0 0)) (ints (m.getD i []))
 so:∀i,i < m.length→0 < (m.getD i []).length→∃a n c,vs.getD i (.slice none 0 0)=.slice (some a) n c∧¬S a.block
theorem FrO.fr {S:Nat→Prop} {B:Nat} {W:World} {v:Value} {m:List (List Int)} {vs:List Value} (h:FrO S B W v m vs):Fr B 22 3 W v m:=⟨vs,h.len,h.own,h.sl⟩
theorem sl_pos_keep {w W:World} {v:Value} {xs:List Int} (h:Sl 0 3 w v (ints xs)) (hk:0 < xs.length→∀a n c,v=.slice (some a) n c→W.heap[a.block]?=w.heap[a.block]?):Sl 0 3 W v (ints xs):=by
 obtain ⟨ao,cap,rfl,h1,h2,h3,h4⟩:=h
 refine ⟨ao,cap,rfl,h1,h2,fun i hi=>?_,h4⟩
 obtain ⟨b,o,rfl,hc,ht⟩:=h3 i hi
 have k1:=hk (by simpa using (Nat.lt_of_le_of_lt (Nat.zero_le _) hi)) _ _ _ rfl
 refine ⟨b,o,rfl,(World.cell?_of_block (w:=w) (a:=⟨b,o+i,none⟩) k1).trans hc,?_⟩
 rcases ht with ht | ⟨cur,ht⟩
 ·omega
 ·exact .inr ⟨cur,k1.trans ht⟩
theorem sl_block {w:World} {a:Addr} {n c:Nat} {xs:List Int} (h:Sl 0 3 w (.slice (some a) n c) (ints xs)) (hp:0 < xs.length):a.block < w.heap.size:=by
 obtain ⟨ao,cap,hv,_,_,h3,_⟩:=h
 simp only [Value.slice.injEq] at hv
 obtain ⟨rfl,_,_⟩:=hv
 obtain ⟨b,o,ha,hc,_⟩:=h3 0 (by simpa using hp)
 cases ha
 have hx:(ints xs)[0]?=some (.int .i64 (xs.getD 0 0)):=ints_get _ _ hp
 exact lt_of_cell (hc.trans hx)
theorem FrO.keep {S S':Nat→Prop} {B:Nat} {W W':World} {v:Value} {m:List (List Int)} {vs:List Value} (h:FrO S B W v m vs) (hc:∀b,b < W.heap.size→¬S b→W'.heap[b]?=W.heap[b]?) (hs:∀b,S' b→S b∨W.heap.size≤b):FrO S' B W' v m vs:=by
 refine ⟨h.len,⟨h.own.1,?_⟩,fun g hg hx=>?_,fun i hi=>sl_pos_keep (h.sl i hi) (fun hp a n c e=>?_),fun i hi hp=>?_⟩
 ·rcases h.own.2 with h2 | ⟨g,cap,cur,rfl,hb,hh,r⟩
  ·exact Or.inl h2
  ·exact Or.inr ⟨g,cap,cur,rfl,hb,(hc g (lt_of_block hh) (h.off g rfl)).trans hh,r⟩
 ·rcases hs g hx with h1 | h1
  ·exact h.off g hg h1
  ·have:=(h.own.lt g hg).2; omega
 ·obtain ⟨a',n',c',e',hn⟩:=h.so i hi hp
  rw [e] at e'
  cases e'
  have hsl:=h.sl i hi
  rw [e] at hsl
  exact hc _ (sl_block hsl hp) hn
 ·obtain ⟨a,n,c,e,hn⟩:=h.so i hi hp
  refine ⟨a,n,c,e,fun hx=>?_⟩
  have hsl:=h.sl i hi
  rw [e] at hsl
  rcases hs _ hx with h1 | h1
  ·exact hn h1
  ·have:=sl_block hsl hp; omega
end Go.Proofs.YtadpjlpdfimaeaaGreatDoor

namespace Go.Proofs.YtadpjlpdfimaeaaGreatDoor
open Go.RowKit Go.Shelf
attribute [local go_sem] Oper.semAt_some
theorem mat_keepA {B:Nat} {w W:World} {v:Value} {m:List (List Int)} (h:Mat B 22 3 w v m) (hk:∀b,b < w.heap.size→W.heap[b]?=w.heap[b]?):Mat B 22 3 W v m:=by
 obtain ⟨vs,h1,h2,h3⟩:=h
 exact ⟨vs,h1,h2.move fun b hl ht=>⟨hk b hl,ht⟩,fun i hi=>(h3 i hi).move fun b hl ht=>⟨hk b hl,ht⟩⟩
theorem FrO.set {S:Nat→Prop} {B b j:Nat} {t:TypeId} {w:World} {v u:Value} {m:List (List Int)} {vs:List Value} {cur:Array Value} (h:FrO S B w v m vs) (hb:b < B) (hR:w.heap[b]?=some (.cells cur t (0,0))) (ht:t≠3):FrO S B (w.setCell ⟨b,j,none⟩ u) v m vs:=by
 refine ⟨h.len,owns_set h.own hb,h.off,fun i hi=>(h.sl i hi).setCell u ⟨Nat.zero_le _,fun cur' e=>?_⟩,h.so⟩
 have e':w.heap[b]?=some (.cells cur' 3 (0,0)):=e
 rw [hR] at e'
 simp at e'
 exact ht e'.2
theorem pks_len (P:List (List Int)) (c:List Int):(pks P [] c).length=c.length:=by simp [pks]
end Go.Proofs.YtadpjlpdfimaeaaGreatDoor

namespace Go.Proofs.YtadpjlpdfimaeaaGreatDoor
open Go.RowKit
attribute [local go_sem ↓] Go.wp_at_zero Go.wp_at_succ
theorem box_near {d k:Nat} {P:List (List Int)} (h:Box d k P) (hk:k≤100) {x:List Int} (hx:x∈P):(x.any (farB · 100))=false:=by
 rw [List.any_eq_false]
 intro z hz
 have:=(h x hx).2 z hz
 simp [farB]
 omega
theorem Sl.take {B n c:Nat} {w:World} {ao:Option Addr} {zs:List Int} (h:Sl B 3 w (.slice ao zs.length c) (ints zs)) (hn:n≤zs.length):Sl B 3 w (.slice ao n c) (ints (zs.take n)):=by
 obtain ⟨bo,cap,hv,h1,h2,h3,h4⟩:=h
 simp only [Value.slice.injEq] at hv
 obtain ⟨rfl,_,rfl⟩:=hv
 refine ⟨ao,c,by simp; omega,by simp at h1 ⊢; omega,h2,fun i hi=>?_,h4⟩
 have hi':i < n:=by simp at hi; omega
 obtain ⟨b,o,ha,hc,ht⟩:=h3 i (by simp; omega)
 refine ⟨b,o,ha,?_,ht⟩
 rw [hc,ints_get _ _ (by omega),ints_get _ _ (by simp; omega)]
 simp [hi']
def agn (r x:List Int):Int:=cmpI (dotL (r.take x.length) x) (r.getD x.length 0)
set_option maxRecDepth 100000 in
set_option maxHeartbeats 800000 in
theorem against_any (B:Nat) (r x:List Int) (u v:Value) (w:World) (hu:Sl B 3 w u (ints r)) (hv:Sl B 3 w v (ints x)) (hl:r.length=x.length+1) (hs:Sm (r.take x.length) x) :
  Calls Tryz.prog 79 #[u,v] w fun e w'=>e=.returned (.int .i64 (agn r x))∧Below w.heap.size w w':=by
 obtain ⟨ao,cap,huu,hlc,hcm⟩:=sl_open hu
 obtain ⟨bo,cbp,hvv,hlb,hcb⟩:=sl_open hv
 subst huu hvv
 have HU:Hid (Sl B 3 w (.slice ao r.length cap) (ints r)):=hu
 have HV:Hid (Sl B 3 w (.slice bo x.length cbp) (ints x)):=hv
 have HS:Hid (Sm (r.take x.length) x):=hs
 have hTK:=Sl.take (n:=x.length) hu (by omega)
 obtain ⟨b,o,cp,hs1,hc1,hcc⟩:=sl_cell hu (k:=x.length) (by omega)
 simp only [Value.slice.injEq] at hs1
 obtain ⟨rfl,_,rfl⟩:=hs1
 have HTK:Hid (Sl B 3 w (.slice (some ⟨b,o,none⟩) x.length cap) (ints (r.take x.length))):=hTK
 have HP:Hid (∀n,Calls Tryz.prog 90 #[.slice (some ⟨b,o,none⟩) x.length cap,.slice bo x.length cbp] (w.drewN n) fun e w'=>e=.returned (.int .i64 (dotL (r.take x.length) x))∧∃k,w'=(w.drewN n).drewN k):=fun n=>
  product_any B _ x _ _ _ (HTK.out.drewN n) (HV.out.drewN n) HS.out
 have HAG:Hid (agn r x=cmpI (dotL (r.take x.length) x) (r.getD x.length 0)):=rfl
 generalize dotL (r.take x.length) x=D at *
 generalize r.getD x.length 0=q at *
 rw [hl] at hlc
 rw [hl]
 clear hu hv hs hTK
 have HC:Hid (∀n,Calls Tryz.prog 71 #[.int .i64 D,.int .i64 q] (w.drewN n) fun e w'=>e=.returned (.int .i64 (cmpI D q))∧w'=w.drewN n):=fun n=>cmpI_any D q _
 generalize cmpI D q=R at *
 generalize hxl:x.length=xl at *
 have hx0:(0:Int)≤(xl:Int):=by omega
 have hx1:(xl:Int) < (xl:Int)+1:=by omega
 have hx2:xl≤cap:=by omega
 have hx3:(xl:Int)≤(cap:Int):=by omega
 go_enter Tryz.func79,Tryz.ntmps79
 go_wp2
 go_quiet (first | (go_at_call 90; exact Calls.quiet_of (w:=w) (HP.out _)) | (go_at_call 71; exact Calls.quiet_of_same (w:=w) (HC.out _)))
 go_wp2
 go_ret
 exact ⟨by rw [HAG.out]; rfl,⟨rfl,rfl,rfl,Nat.le_refl _,fun _ _=>rfl⟩⟩
end Go.Proofs.YtadpjlpdfimaeaaGreatDoor

namespace Go.Proofs.YtadpjlpdfimaeaaGreatDoor
open Go.RowKit
attribute [local go_sem ↓] Go.wp_at_zero Go.wp_at_succ
structure Good (d:Nat) (P:List (List Int)):Prop where
 d1:1≤d
 d4:d≤4
 n2:2≤P.length
 n24:P.length≤24
 box:Box d 30 P
 full:(pickL d (diffL P)).length=d
end Go.Proofs.YtadpjlpdfimaeaaGreatDoor

namespace Go.Proofs.YtadpjlpdfimaeaaGreatDoor
open Lin
theorem dotL_eq {d:Nat} {a:List Int} (h:a.length=d) (x:List Int):dotL a x=dot d (V a) (V x):=by subst h; rfl
theorem dot_sub (d:Nat) (c x y:Nat→Int):dot d c (fun j=>x j-y j)=dot d c x-dot d c y:=by
 unfold dot
 have:sumN d (fun i=>c i*(x i-y i))=sumN d (fun i=>c i*x i+(-1)*(c i*y i)):=sumN_congr fun i _=>by grind
 rw [this,sumN_add,sumN_mul]; omega
theorem dot_subL {d:Nat} (c:Nat→Int) {r b:List Int} (h:r.length=d):dot d c (V (subL r b))=dot d c (V r)-dot d c (V b):=by
 rw [←dot_sub]
 exact dot_congr (fun _ _=>rfl) (fun i hi=>by simp only [V]; rw [subL_at (by omega)])
theorem V_take {r:List Int} {d i:Nat} (hi:i < d):V (r.take d) i=V r i:=by
 simp only [V,List.getD_eq_getElem?_getD]; rw [List.getElem?_take_of_lt hi]
theorem chs_sub:∀(k:Nat) (l t:List (List Int)),t∈chs k l→t.Sublist l∧t.length=k
 | 0,l,t,h=>by simp [chs] at h; subst h; exact ⟨List.nil_sublist _,rfl⟩
 | k+1,[],t,h=>by simp [chs] at h
 | k+1,x :: xs,t,h=>by
  simp only [chs,List.mem_append,List.mem_map] at h
  rcases h with ⟨c,hc,rfl⟩ | h
  ·obtain ⟨h1,h2⟩:=chs_sub k xs c hc
   exact ⟨h1.cons_cons _,by simp [h2]⟩
  ·obtain ⟨h1,h2⟩:=chs_sub (k+1) xs t h
   exact ⟨h1.cons _,h2⟩
theorem sub_chs {l t:List (List Int)} (h:t.Sublist l):t∈chs t.length l:=by
 induction h with
 | slnil=>simp [chs]
 | cons a _ ih=>
  rename_i l1 l2 hs
  cases l1 with
  | nil=>simp [chs]
  | cons b l1=>
   simp only [List.length_cons,chs,List.mem_append]
   exact Or.inr ih
 | cons_cons a _ ih=>
  simp only [List.length_cons,chs,List.mem_append,List.mem_map]
  exact Or.inl ⟨_,ih,rfl⟩
theorem mem_rowsC {P:List (List Int)} {d:Nat} {r:List Int} : r∈rowsC P [] d P↔∃t,t.Sublist P∧t.length=d∧rowT t P=some r:=by
 unfold rowsC
 simp only [List.mem_flatMap,List.nil_append,Option.mem_toList]
 constructor
 ·rintro ⟨t,ht,hr⟩
  obtain ⟨h1,h2⟩:=chs_sub _ _ _ ht
  exact ⟨t,h1,h2,hr⟩
 ·rintro ⟨t,h1,h2,hr⟩
  refine ⟨t,?_,hr⟩
  rw [←h2]; exact sub_chs h1
structure RowOf (d:Nat) (P:List (List Int)) (r:List Int):Prop where
 len:r.length=d+1
 bd:∀z∈r.take d,z.natAbs≤1000000000000
 all:∀x∈P,dot d (V r) (V x)≤r.getD d 0
theorem row_app {a:List Int} {b:Int} {d:Nat} (h:a.length=d):(a ++ [b]).length=d+1∧(a ++ [b]).take d=a∧(a ++ [b]).getD d 0=b∧∀i,i < d→V (a ++ [b]) i=V a i:=by
 subst h
 refine ⟨by simp,by simp,by simp,fun i hi=>?_⟩
 simp only [V,List.getD_eq_getElem?_getD]; rw [List.getElem?_append_left hi]
theorem rowT_facts {d:Nat} {P t:List (List Int)} {r:List Int} (hP:Box d 30 P) (h1:1≤d) (h5:d≤5) (ht:t.length=d) (hm:∀x∈t,x∈P) (hr:rowT t P=some r):RowOf d P r:=by
 have hx:Mx d 60 (diffL t):=diff_mx (fun x hx=>hP x (hm x hx)) h1 h5
 unfold rowT at hr
 rw [ht] at hr
 split at hr
 ·rename_i hnb
  have hl:=norm_len hnb
  have hbd:=norm_bd hx
  generalize normL d (diffL t)=a at *
  generalize dotL a (t.getD 0 [])=b at *
  obtain ⟨e1,e2,e3,e4⟩:=row_app (b:=b) hl
  split at hr
  ·rename_i hup
   simp only [Option.some.injEq] at hr
   subst hr
   refine ⟨e1,by rw [e2]; exact hbd,fun x hx=>?_⟩
   rw [e3,dot_congr e4 (fun _ _=>rfl),←dotL_eq hl]
   have:=List.any_eq_false.1 hup x hx
   simpa using this
  ·split at hr
   ·rename_i _ hdn
    simp only [Option.some.injEq] at hr
    subst hr
    refine ⟨by simpa using e1,?_,fun x hx=>?_⟩
    ·rw [←List.map_take,e2]
     intro z hz
     simp only [List.mem_map] at hz
     obtain ⟨y,hy,rfl⟩:=hz
     rw [Int.natAbs_neg]; exact hbd y hy
    ·have e5:((a ++ [b]).map fun z=>-z).getD d 0=-b:=by
      have:=V_neg (a ++ [b]) d
      simp only [V] at this
      rw [this,e3]
     rw [e5,dot_congr (b:=fun i=>- V a i) (fun i hi=>by rw [V_neg,e4 i hi]) (fun _ _=>rfl),dot_neg,←dotL_eq hl]
     have:=List.any_eq_false.1 hdn x hx
     simp at this
     omega
   ·simp at hr
 ·simp at hr
theorem rowsC_fit {d:Nat} {P P':List (List Int)} (hP:Box d 30 P) (h1:1≤d) (h5:d≤5) (hm:∀r,r∈P'↔r∈P) {r:List Int} (hr:r∈rowsC P' [] d P'):RowOf d P r:=by
 obtain ⟨t,ht,hl,he⟩:=mem_rowsC.1 hr
 have hP':Box d 30 P':=fun x hx=>hP x ((hm x).1 hx)
 have h:=rowT_facts hP' h1 h5 hl (fun x hx=>ht.subset hx) he
 exact ⟨h.len,h.bd,fun x hx=>h.all x ((hm x).2 hx)⟩
end Go.Proofs.YtadpjlpdfimaeaaGreatDoor
namespace Go.Proofs.YtadpjlpdfimaeaaGreatDoor
open Lin
theorem pickL_sub (c:Nat) (m:List (List Int)):(pickL c m).Sublist m:=by
 have:∀(m h:List (List Int)),∃s,s.Sublist m∧m.foldl (fun h r=>if freeL c (h ++ [r]) then h ++ [r] else h) h=h ++ s:=by
  intro m
  induction m with
  | nil=>intro h; exact ⟨[],List.Sublist.refl _,by simp⟩
  | cons x m ih=>
   intro h
   rw [List.foldl_cons]
   by_cases hf:freeL c (h ++ [x])=true
   ·rw [if_pos hf]
    obtain ⟨s,hs,he⟩:=ih (h ++ [x])
    exact ⟨x :: s,hs.cons_cons _,by rw [he]; simp⟩
   ·rw [if_neg hf]
    obtain ⟨s,hs,he⟩:=ih h
    exact ⟨s,hs.cons _,he⟩
 obtain ⟨s,hs,he⟩:=this m []
 unfold pickL
 rw [he]; simpa using hs
theorem side_some {d:Nat} {P:List (List Int)} (hP:Box d 30 P) (hspan:∀c:Nat→Int,(∀y∈P,∀z∈P,dot d c (V y)=dot d c (V z))→∀i,i < d→c i=0) {x:List Int} (hx:x∈P) {c:Nat→Int} (hc:∃i,i < d∧c i≠0)
  (hmax:∀y∈P,dot d c (V y)≤dot d c (V x)) (hone:∀u:Nat→Int,(∀y∈P,dot d c (V y)=dot d c (V x)→dot d u (V y)=dot d u (V x))→Par d u c) :
  ∃r,r∈rowsC P [] d P∧r.getD d 0=dot d (V r) (V x)∧∃s t:Int,0 < s∧0 < t∧∀i,i < d→s*c i=t*V r i:=by
 -- the points of the side
 obtain ⟨T,hT⟩:∃T,T=P.filter fun y=>decide (dot d c (V y)=dot d c (V x)):=⟨_,rfl⟩
 have hTs:T.Sublist P:=by rw [hT]; exact List.filter_sublist
 have hTm:∀y,y∈T↔y∈P∧dot d c (V y)=dot d c (V x):=fun y=>by rw [hT]; simp
 have hxT:x∈T:=(hTm x).2 ⟨hx,rfl⟩
 cases T with
 | nil=>simp at hxT
 | cons t0 T'=>
  have h0:=(hTm t0).1 (by simp)
  have hlen:∀y∈P,y.length=d:=fun y hy=>(hP y hy).1
  have hD:diffL (t0 :: T')=T'.map fun y=>subL y t0:=by simp [diffL]
  obtain ⟨D,hDe⟩:∃D,D=T'.map fun y=>subL y t0:=⟨_,rfl⟩
  have hsub:∀(u:Nat→Int) (y:List Int),y∈T'→dot d u (V (subL y t0))=dot d u (V y)-dot d u (V t0):=fun u y hy=>
   dot_subL u (hlen y ((hTm y).1 (by simp [hy])).1)
  -- what is 0 with all of D is c,so many times
  have hDc:∀r∈fm D,dot d r c=0:=fun r hr=>by
   obtain ⟨l,hl,rfl⟩:=mem_fm.1 hr
   rw [hDe,List.mem_map] at hl
   obtain ⟨y,hy,rfl⟩:=hl
   rw [dot_comm,hsub c y hy,((hTm y).1 (by simp [hy])).2,h0.2]; omega
  have hDo:∀u:Nat→Int,(∀r∈fm D,dot d r u=0)→Par d u c:=fun u hu=>by
   have h1:∀y∈t0 :: T',dot d u (V y)=dot d u (V t0):=fun y hy=>by
    rcases List.mem_cons.1 hy with rfl | hy
    ·rfl
    ·have:=hu (V (subL y t0)) (mem_fm.2 ⟨_,by rw [hDe]; exact List.mem_map.2 ⟨y,hy,rfl⟩,rfl⟩)
     rw [dot_comm,hsub u y hy] at this
     omega
   exact hone u fun y hy he=>by rw [h1 y ((hTm y).2 ⟨hy,he⟩),h1 x hxT]
  have hgr:=pick_greedy d D
  have hcnt:=greedy_count hgr hc hDc hDo
  rw [fm_length] at hcnt
  -- the choice
  have hps:=pickL_sub d D
  rw [hDe] at hps
  obtain ⟨S,hS,hSe⟩:=List.sublist_map_iff.1 hps
  rw [←hDe] at hSe
  obtain ⟨t,ht⟩:∃t,t=t0 :: S:=⟨_,rfl⟩
  have htT:t.Sublist (t0 :: T'):=by rw [ht]; exact hS.cons_cons _
  have htP:=htT.trans hTs
  have htl:t.length=d:=by
   have:=congrArg List.length hSe
   rw [List.length_map] at this
   rw [ht,List.length_cons]; omega
  have hdt:diffL t=pickL d D:=by rw [hSe,ht]; simp [diffL]
  have hpo:∀u:Nat→Int,(∀r∈fm (diffL t),dot d r u=0)→Par d u c:=fun u hu=>hDo u fun r hr=>
   dot_dep (hgr.dep r hr) (fun i hi=>hu _ (by rw [hdt]; exact row_mem hi))
  have hpc:∀r∈fm (diffL t),dot d r c=0:=fun r hr=>hDc r (hgr.mem r (by rw [←hdt]; exact hr))
  have hg2:=pick_greedy d (diffL t)
  have hcnt2:=greedy_count hg2 hc hpc hpo
  have hcnt3:(pickL d (diffL t)).length+1=d:=by rw [fm_length] at hcnt2; exact hcnt2
  have hnb:normB d (diffL t)=true:=decide_eq_true hcnt3
  obtain ⟨⟨p0,hp0,hne0⟩,hmo,_⟩:=greedy_one hg2 hcnt2
  obtain ⟨k,hk,hka⟩:=norm_par hcnt3
  have hla:=norm_len hnb
  obtain ⟨a,ha⟩:∃a,a=normL d (diffL t):=⟨_,rfl⟩
  rw [←ha] at hka hla
  -- the normal is c,so many times
  have hpar:Par d (mu (fm (pickL d (diffL t)))) c:=hpo _ hmo
  have hap:V a p0≠0:=by
   intro h
   rw [hka p0 hp0,h] at hne0
   simp at hne0
  have hac:∀i,i < d→V a p0*c i=c p0*V a i:=fun i hi=>by
   have h1:=hpar p0 i hp0 hi
   rw [hka p0 hp0,hka i hi] at h1
   have h2:k*(V a p0*c i)=k*(c p0*V a i):=by grind
   exact Int.eq_of_mul_eq_mul_left hk h2
  have hcp:c p0≠0:=by
   intro h
   obtain ⟨i,hi,hci⟩:=hc
   have h1:=hac i hi
   rw [h,Int.zero_mul] at h1
   rcases Int.mul_eq_zero.1 h1 with h2 | h2
   ·exact hap h2
   ·exact hci h2
  have hdot:∀v:Nat→Int,V a p0*dot d c v=c p0*dot d (V a) v:=fun v=>by
   unfold dot
   rw [←sumN_mul,←sumN_mul]
   exact sumN_congr fun i hi=>by
    have:=hac i hi
    rw [←Int.mul_assoc,this,Int.mul_assoc]
  have hal:∀y,dotL a y=dot d (V a) (V y):=fun y=>dotL_eq hla y
  have hb0:dot d (V a) (V t0)=dot d (V a) (V x):=by
   have h1:=hdot (V t0)
   have h2:=hdot (V x)
   rw [h0.2,h2] at h1
   exact (Int.eq_of_mul_eq_mul_left hcp h1).symm
  have ht0:t.getD 0 []=t0:=by rw [ht]; rfl
  obtain ⟨b,hb⟩:∃b,b=dotL a t0:=⟨_,rfl⟩
  have hbx:b=dot d (V a) (V x):=by rw [hb,hal,hb0]
  have hrt:rowT t P=if (P.any fun y=>decide (b < dotL a y))=false then some (a ++ [b]) else if (P.any fun y=>decide (dotL a y < b))=false then some ((a ++ [b]).map fun z=>-z) else none:=by
   unfold rowT
   rw [htl,if_pos hnb,←ha,ht0,←hb]
  obtain ⟨e1,e2,e3,e4⟩:=row_app (b:=b) hla
  have hsq:0 < V a p0*V a p0:=by
   rcases Int.lt_or_gt_of_ne hap with h | h
   ·exact Int.mul_pos_of_neg_of_neg h h
   ·exact Int.mul_pos h h
  rcases Int.lt_or_gt_of_ne (Int.mul_ne_zero hap hcp) with hs | hs
  ·-- the other way
   have hge:∀y∈P,b≤dotL a y:=fun y hy=>by
    rw [hal,hbx]
    have h1:=hmax y hy
    have h2:=hdot (V y)
    have h3:=hdot (V x)
    have h4:V a p0*c p0*(dot d (V a) (V y)-dot d (V a) (V x))=V a p0*V a p0*(dot d c (V y)-dot d c (V x)):=by grind
    have h5:V a p0*V a p0*(dot d c (V y)-dot d c (V x))≤0:=Int.mul_nonpos_of_nonneg_of_nonpos (Int.le_of_lt hsq) (by omega)
    rcases Int.lt_or_le (dot d (V a) (V y)-dot d (V a) (V x)) 0 with h6 | h6
    ·have:=Int.mul_pos_of_neg_of_neg hs h6; omega
    ·omega
   have hdn:(P.any fun y=>decide (dotL a y < b))=false:=by
    rw [List.any_eq_false]; intro y hy; have:=hge y hy; simp; omega
   have hup:¬(P.any fun y=>decide (b < dotL a y))=false:=by
    intro h
    have hall:∀y∈P,dot d (V a) (V y)=b:=fun y hy=>by
     have h1:=List.any_eq_false.1 h y hy
     have h2:=hge y hy
     simp at h1
     rw [←hal]; omega
    exact hap (hspan (V a) (fun y hy z hz=>by rw [hall y hy,hall z hz]) p0 hp0)
   rw [if_neg hup,if_pos hdn] at hrt
   have e5:((a ++ [b]).map fun z=>-z).getD d 0=-b:=by
    have:=V_neg (a ++ [b]) d
    simp only [V] at this
    rw [this,e3]
   refine ⟨_,mem_rowsC.2 ⟨t,htP,htl,hrt⟩,?_,V a p0*V a p0,-(V a p0*c p0),hsq,by omega,fun i hi=>?_⟩
   ·rw [e5,dot_congr (b:=fun i=>- V a i) (fun i hi=>by rw [V_neg,e4 i hi]) (fun _ _=>rfl),dot_neg,hbx]
   ·rw [V_neg,e4 i hi]
    have:=hac i hi
    grind
  ·-- this way
   have hle:∀y∈P,dotL a y≤b:=fun y hy=>by
    rw [hal,hbx]
    have h1:=hmax y hy
    have h2:=hdot (V y)
    have h3:=hdot (V x)
    have h4:V a p0*c p0*(dot d (V a) (V y)-dot d (V a) (V x))=V a p0*V a p0*(dot d c (V y)-dot d c (V x)):=by grind
    have h5:V a p0*V a p0*(dot d c (V y)-dot d c (V x))≤0:=Int.mul_nonpos_of_nonneg_of_nonpos (Int.le_of_lt hsq) (by omega)
    rcases Int.lt_or_le 0 (dot d (V a) (V y)-dot d (V a) (V x)) with h6 | h6
    ·have:=Int.mul_pos hs h6; omega
    ·omega
   have hup:(P.any fun y=>decide (b < dotL a y))=false:=by
    rw [List.any_eq_false]; intro y hy; have:=hle y hy; simp; omega
   rw [if_pos hup] at hrt
   refine ⟨_,mem_rowsC.2 ⟨t,htP,htl,hrt⟩,?_,V a p0*V a p0,V a p0*c p0,hsq,hs,fun i hi=>?_⟩
   ·rw [e3,dot_congr e4 (fun _ _=>rfl),hbx]
   ·rw [e4 i hi]
    have:=hac i hi
    grind
theorem good_span {d:Nat} {P:List (List Int)} (hg:Good d P):∀c:Nat→Int,(∀y∈P,∀z∈P,dot d c (V y)=dot d c (V z))→∀i,i < d→c i=0:=by
 intro c hc
 have hgr:=pick_greedy d (diffL P)
 refine (greedy_full hgr).1 (by rw [fm_length]; exact hg.full) c fun r hr=>?_
 obtain ⟨l,hl,rfl⟩:=mem_fm.1 hr
 simp only [diffL,List.mem_map] at hl
 obtain ⟨y,hy,rfl⟩:=hl
 have hyP:=List.mem_of_mem_drop hy
 have h0:P.getD 0 []∈P:=by simp [show 0 < P.length by have:=hg.n2; omega]
 rw [dot_comm,dot_subL c (hg.box y hyP).1,hc y hyP _ h0]; omega
theorem rows_tell {d:Nat} {P P':List (List Int)} (hg:Good d P) (hm:∀r,r∈P'↔r∈P) {q:List Int} (hq:∀r∈rowsC P' [] d P',dot d (V r) (V q)≤r.getD d 0) {x:List Int} (hx:x∈P) {c:Nat→Int} (hmax:∀y∈P,dot d c (V y)≤dot d c (V x)) :
  dot d c (V q)≤dot d c (V x):=by
 have hspan:=good_span hg
 have hP':Box d 30 P':=fun r hr=>hg.box r ((hm r).1 hr)
 have hsub:∀(c:Nat→Int) (y:List Int),dot d c (fun j=>V y j-V x j)=dot d c (V y)-dot d c (V x):=fun c y=>dot_sub d c (V y) (V x)
 have h:=cone (d:=d) (Z:=P.map fun y j=>V y j-V x j) (v:=fun j=>V q j-V x j) (fun c hc i hi=>by
   refine hspan c (fun y hy z hz=>?_) i hi
   have h1:=hc _ (List.mem_map.2 ⟨y,hy,rfl⟩)
   have h2:=hc _ (List.mem_map.2 ⟨z,hz,rfl⟩)
   rw [hsub] at h1 h2
   omega) (fun c hcn hle hone=>by
   obtain ⟨r,hr,hrx,s,t,hs,ht,hst⟩:=side_some (P:=P') (x:=x) hP' (fun c hc=>hspan c fun y hy z hz=>hc y ((hm y).2 hy) z ((hm z).2 hz)) ((hm x).2 hx) hcn (fun y hy=>by
     have:=hle _ (List.mem_map.2 ⟨y,(hm y).1 hy,rfl⟩)
     rw [hsub] at this
     omega) (fun u hu=>hone u fun z hz h0=>by
     obtain ⟨y,hy,rfl⟩:=List.mem_map.1 hz
     rw [hsub] at h0 ⊢
     have:=hu y ((hm y).2 hy) (by omega)
     omega)
   have h1:=hq r hr
   rw [hsub]
   have h2:s*(dot d c (V q)-dot d c (V x))=t*(dot d (V r) (V q)-dot d (V r) (V x)):=by
    rw [←dot_sub,←dot_sub]
    unfold dot
    rw [←sumN_mul,←sumN_mul]
    exact sumN_congr fun i hi=>by rw [←Int.mul_assoc,hst i hi,Int.mul_assoc]
   have h3:t*(dot d (V r) (V q)-dot d (V r) (V x))≤0:=Int.mul_nonpos_of_nonneg_of_nonpos (Int.le_of_lt ht) (by omega)
   rcases Int.lt_or_le 0 (dot d c (V q)-dot d c (V x)) with h4 | h4
   ·have:=Int.mul_pos hs h4; omega
   ·exact h4) _ c (Nat.le_refl _) (fun z hz=>by
   obtain ⟨y,hy,rfl⟩:=List.mem_map.1 hz
   rw [hsub]
   have:=hmax y hy
   omega)
 rw [hsub] at h
 omega
end Go.Proofs.YtadpjlpdfimaeaaGreatDoor
