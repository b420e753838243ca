import Derived.Test.YtkfdpcgmpbopnaaGreatDoorShY
import Derived.Test.YtkfdpcgmpbopnaaGreatDoorHmE
import Derived.Test.YtkfdpcgmpbopnaaGreatDoorHmW
import Derived.Test.YtkfdpcgmpbopnaaGreatDoorBetY
namespace Go.Proofs.YtkfdpcgmpbopnaaGreatDoor
open Go.RowKit
theorem Tryz.info25:(Tryz.prog.info? 25).map (fun i=>(i.zero,i.size,i.bytes))=some (some (.slice none 0 0),1,24):=by kernel_rfl
def natI (A:List Nat):List Int:=A.map fun a:Nat=>(a:Int)
@[simp] theorem natI_len (A:List Nat):(natI A).length=A.length:=by simp [natI]
theorem natI_get (A:List Nat) (j:Nat) (h:j < A.length):(natI A).getD j 0=(A.getD j 0:Int):=by simp [natI,h]
theorem natI_has (A:List Nat) (x:Nat):(natI A).contains (x:Int)=A.contains x:=by
 rw [Bool.eq_iff_iff]
 simp only [List.contains_iff_mem,natI,List.mem_map]
 constructor
 ·rintro ⟨a,ha,h⟩
  rwa [Int.ofNat.inj h] at ha
 ·intro h; exact ⟨x,h,rfl⟩
inductive Itr (n:Nat) (S:List Nat):Nat→Prop
 | full:Itr n S (2 ^ n-1)
 | cut {a t:Nat} : Itr n S a→t∈S→Itr n S (a &&& t)
structure Clo (n:Nat) (S A:List Nat) (i:Nat):Prop where
 nd:A.Nodup
 lt:∀a∈A,a < 2 ^ n
 hd:0 < A.length∧A.getD 0 0=2 ^ n-1
 cl:∀j,j < i→∀t∈S,A.getD j 0 &&& t∈A
 gen:∀a∈A,Itr n S a
 le:i≤A.length
theorem Clo.len {n:Nat} {S A:List Nat} {i:Nat} (h:Clo n S A i):A.length≤2 ^ n:=by
 have:=nodup_len A (List.range (2 ^ n)) h.nd fun x hx=>List.mem_range.2 (h.lt x hx)
 simpa using this
theorem Clo.start (n:Nat) (S:List Nat):Clo n S [2 ^ n-1] 0:=
 ⟨by simp,fun a ha=>by simp at ha; subst ha; have:0 < 2 ^ n:=Nat.pow_pos (by decide); omega,⟨by simp,rfl⟩,fun j hj=>absurd hj (by omega),fun a ha=>by simp at ha; subst ha; exact .full,by simp⟩
structure CloK (n:Nat) (S A:List Nat) (i k:Nat):Prop where
 base:Clo n S A i
 il:i < A.length
 kk:∀t∈S.take k,A.getD i 0 &&& t∈A
theorem CloK.start {n:Nat} {S A:List Nat} {i:Nat} (h:Clo n S A i) (hi:i < A.length):CloK n S A i 0:=⟨h,hi,fun t ht=>by simp at ht⟩
theorem mem_take_succ {S:List Nat} {k t:Nat} (hk:k < S.length) (h:t∈S.take (k+1)):t∈S.take k∨t=S.getD k 0:=by
 rw [List.take_succ_eq_append_getElem hk] at h
 rcases List.mem_append.1 h with h | h
 ·exact Or.inl h
 ·simp at h; right; simp [hk,h]
theorem CloK.skip {n:Nat} {S A:List Nat} {i k:Nat} (h:CloK n S A i k) (hk:k < S.length) (hx:A.getD i 0 &&& S.getD k 0∈A):CloK n S A i (k+1):=
 ⟨h.base,h.il,fun t ht=>by
  rcases mem_take_succ hk ht with h1 | rfl
  ·exact h.kk t h1
  ·exact hx⟩
theorem getD_app {A:List Nat} {x j:Nat} (hj:j < A.length):(A ++ [x]).getD j 0=A.getD j 0:=by
 simp only [List.getD_eq_getElem?_getD]; rw [List.getElem?_append_left hj]
theorem CloK.push {n:Nat} {S A:List Nat} {i k:Nat} (h:CloK n S A i k) (hk:k < S.length) (hx:A.getD i 0 &&& S.getD k 0∉A):CloK n S (A ++ [A.getD i 0 &&& S.getD k 0]) i (k+1):=by
 have hb:=h.base
 have hi:=h.il
 have hm:A.getD i 0∈A:=by simp [hi]
 have ht:S.getD k 0∈S:=by simp [hk]
 refine ⟨⟨?_,?_,?_,?_,?_,?_⟩,?_,?_⟩
 ·rw [List.nodup_append]
  refine ⟨hb.nd,by simp,fun a ha b hbb=>?_⟩
  simp at hbb
  rintro rfl
  rw [hbb] at ha
  apply hx
  simpa using ha
 ·intro a ha
  rcases List.mem_append.1 ha with ha | ha
  ·exact hb.lt a ha
  ·simp only [List.mem_singleton] at ha
   rw [ha]
   exact Nat.lt_of_le_of_lt Nat.and_le_left (hb.lt _ hm)
 ·exact ⟨by simp,by rw [getD_app hb.hd.1]; exact hb.hd.2⟩
 ·intro j hj t htt
  rw [getD_app (by omega)]
  exact List.mem_append_left _ (hb.cl j hj t htt)
 ·intro a ha
  rcases List.mem_append.1 ha with ha | ha
  ·exact hb.gen a ha
  ·simp only [List.mem_singleton] at ha
   rw [ha]
   exact .cut (hb.gen _ hm) ht
 ·have:=hb.le
  simp
  omega
 ·simp
  omega
 ·intro t htt
  rw [getD_app hi]
  rcases mem_take_succ hk htt with h1 | rfl
  ·exact List.mem_append_left _ (h.kk t h1)
  ·simp
theorem CloK.fin {n:Nat} {S A:List Nat} {i:Nat} (h:CloK n S A i S.length):Clo n S A (i+1):=by
 have hb:=h.base
 have hk:=h.kk
 rw [List.take_length] at hk
 refine ⟨hb.nd,hb.lt,hb.hd,fun j hj t ht=>?_,hb.gen,h.il⟩
 rcases Nat.lt_or_ge j i with h1 | h1
 ·exact hb.cl j h1 t ht
 ·obtain rfl:j=i:=by omega
  exact hk t ht
structure Lvs (B:Nat) (w:World) (x:Value) (j:Nat) (ok:Nat→List (List Int)→Prop):Prop where
 rows:∃vs:List Value,vs.length=j∧w.ownsRow B 25 1 x j vs∧∀t,t < j→∃lev,Fr B 22 3 w (vs.getD t (.slice none 0 0)) lev∧ok t lev
theorem Lvs.nil (B:Nat) (w:World) (ok:Nat→List (List Int)→Prop):Lvs B w (.slice none 0 0) 0 ok:=
 ⟨[],rfl,World.ownsRow_nil _ _ _ _,fun t ht=>absurd ht (by omega)⟩
theorem Lvs.below {B N:Nat} {w w':World} {x:Value} {j:Nat} {ok:Nat→List (List Int)→Prop} (h:Lvs B w x j ok) (hb:Below N w w') (hN:w.heap.size≤N):Lvs B w' x j ok:=by
 obtain ⟨vs,h1,h2,h3⟩:=h.rows
 exact ⟨vs,h1,owns_below h2 hb hN,fun t ht=>by
  obtain ⟨lev,g1,g2⟩:=h3 t ht
  exact ⟨lev,g1.below hb hN,g2⟩⟩
theorem Fr.grownM {B:Nat} {w w':World} {x v:Value} {n:Nat} {xs:List Value} {m:List (List Int)} (h:Fr B 22 3 w v m) (hx:w.ownsRow B 25 1 x n xs) (hg:w.grownBy w' x.ownBlock):Fr B 22 3 w' v m:=by
 obtain ⟨vs,h1,h2,h3⟩:=h
 refine ⟨vs,h1,h2.kept hg ?_,fun i hi=>(h3 i hi).grown hg fun k hk=>⟨Nat.zero_le _,(owns_typed hx (by decide) k hk).2⟩⟩
 cases hv:v.ownBlock with
 | none=>simp
 | some g=>
  right
  intro he
  rcases h2.2 with ⟨rfl,_⟩ | ⟨g2,cap,cur,rfl,_,hh,_⟩
  ·simp [Value.ownBlock] at hv
  ·simp [Value.ownBlock] at hv
   subst hv
   exact (owns_typed hx (e1:=22) (by decide) g2 (by first | exact he | exact he.symm)).2 cur hh
theorem Lvs.push {B:Nat} {w w':World} {x x' v:Value} {j:Nat} {ok:Nat→List (List Int)→Prop} {vs:List Value} {lev:List (List Int)} (h1:vs.length=j) (h2:w.ownsRow B 25 1 x j vs) (h3:∀t,t < j→∃lev,Fr B 22 3 w (vs.getD t (.slice none 0 0)) lev∧ok t lev)
  (hv:Fr B 22 3 w v lev) (hok:ok j lev) (ho:w'.ownsRow B 25 1 x' (j+1) (vs ++ [v])) (hg:w.grownBy w' x.ownBlock):Lvs B w' x' (j+1) ok:=by
 refine ⟨vs ++ [v],by simp [h1],ho,fun t ht=>?_⟩
 by_cases htj:t < j
 ·obtain ⟨l,g1,g2⟩:=h3 t htj
  refine ⟨l,?_,g2⟩
  have e:(vs ++ [v]).getD t (.slice none 0 0)=vs.getD t (.slice none 0 0):=by
   simp only [List.getD_eq_getElem?_getD]; rw [List.getElem?_append_left (by omega)]
  rw [e]
  exact g1.grownM h2 hg
 ·obtain rfl:t=j:=by omega
  refine ⟨lev,?_,hok⟩
  have e:(vs ++ [v]).getD t (.slice none 0 0)=v:=by rw [←h1]; simp
  rw [e]
  exact hv.grownM h2 hg
def LevOk (d:Nat) (C:List (List Int)) (A:List Nat) (t:Nat) (lev:List (List Int)):Prop:=SAsc lev∧∀r,r∈lev↔∃a∈A,dimL d C a=(t:Int)-1∧r=memL a
def levL (d:Nat) (C:List (List Int)) (A:List Nat) (t:Int):List (List Int):=(A.filter fun a=>decide (dimL d C a=t)).map memL
theorem levL_snoc {d:Nat} {C:List (List Int)} {A:List Nat} {t:Int} {k:Nat} (hk:k < A.length):levL d C (A.take (k+1)) t=levL d C (A.take k) t ++ (if dimL d C (A.getD k 0)=t then [memL (A.getD k 0)] else []):=by
 have e:A.getD k 0=A[k]:=by simp [hk]
 unfold levL
 rw [List.take_succ_eq_append_getElem hk,List.filter_append,List.map_append,e]
 by_cases h:dimL d C A[k]=t <;> simp [h]
theorem levL_len (d:Nat) (C:List (List Int)) (A:List Nat) (t:Int):(levL d C A t).length≤A.length:=by
 unfold levL
 rw [List.length_map]
 exact List.length_filter_le _ _
theorem mem_levL {d:Nat} {C:List (List Int)} {A:List Nat} {t:Int} {r:List Int} : r∈levL d C A t↔∃a∈A,dimL d C a=t∧r=memL a:=by
 unfold levL
 simp only [List.mem_map,List.mem_filter,decide_eq_true_eq]
 constructor
 ·rintro ⟨a,⟨h1,h2⟩,rfl⟩; exact ⟨a,h1,h2,rfl⟩
 ·rintro ⟨a,h1,h2,rfl⟩; exact ⟨a,⟨h1,h2⟩,rfl⟩
end Go.Proofs.YtkfdpcgmpbopnaaGreatDoor
namespace Go.Proofs.YtkfdpcgmpbopnaaGreatDoor
open Go.RowKit
attribute [local go_sem ↓] Go.wp_at_zero Go.wp_at_succ
structure Lat (B d:Nat) (P:List (List Int)) (w:World) (x:Value) (C s:List (List Int)) (A:List Nat):Prop where
 crn:SAsc C∧∃s0,(∀r,r∈s0↔r∈rowsD P d)∧∀y,y∈C↔y∈crn d s0 P
 rows:SAsc s∧∀r,r∈s↔r∈rowsD C d
 all:Clo C.length (s.map (sdN C)) A A.length
 lev:Lvs B w x (d+2) (LevOk d C A)
theorem Lvs.mono {B B':Nat} {w:World} {x:Value} {j:Nat} {ok:Nat→List (List Int)→Prop} (h:Lvs B w x j ok) (hB:B'≤B):Lvs B' w x j ok:=by
 obtain ⟨vs,h1,h2,h3⟩:=h.rows
 exact ⟨vs,h1,h2.mono hB,fun t ht=>by
  obtain ⟨lev,g1,g2⟩:=h3 t ht
  exact ⟨lev,g1.mono hB,g2⟩⟩
theorem pow16 {n:Nat} (h:n≤16):2 ^ n≤65536:=Nat.le_trans (Nat.pow_le_pow_right (by decide) h) (by decide)
theorem full_wrap {n F:Nat} (h:n≤16) (hF:F=2 ^ n-1):wrap64 ((2:Int) ^ n)=(F:Int)+1∧wrap64 ((F:Int)+1-1)=(F:Int):=by
 have hp:=pow16 h
 have h0:0 < 2 ^ n:=Nat.pow_pos (by decide)
 have e:((2:Int) ^ n)=((2 ^ n:Nat):Int):=by simp
 rw [e]
 generalize 2 ^ n=q at *
 subst hF
 have h1:(q:Int)=((q-1:Nat):Int)+1:=by omega
 have h2:((q-1:Nat):Int)+1-1=((q-1:Nat):Int):=by omega
 rw [h2]
 refine ⟨?_,IntWalk.wrap64_in _ ⟨by omega,by omega⟩⟩
 rw [←h1]
 exact IntWalk.wrap64_in _ ⟨by omega,by omega⟩
set_option maxRecDepth 100000 in
set_option maxHeartbeats 800000 in
theorem latticeOf_any (B d:Nat) (P:List (List Int)) (v:Value) (w:World) (hv:Mat B 22 3 w v P) (hg:Good d P) (hP:P.length≤16) (hx:Box d 6 P) :
  Calls Tryz.prog 9 #[v] w fun e w'=>∃x C s A,e=.returned x∧Lat w.heap.size d P w' x C s A∧Below w.heap.size w w':=by
 obtain ⟨i0,hi,hz0,hz1,hz2⟩:=info_parts Tryz.info22
 obtain ⟨i3,hi3,hz30,hz31,hz32⟩:=info_parts Tryz.info3
 obtain ⟨i2,hi2,hz20,hz21,hz22⟩:=info_parts Tryz.info25
 have hd1:=hg.d1
 have hd:=hg.d4
 have hP1:1≤P.length:=by have:=hg.n2; omega
 obtain ⟨b,o,cap,r0,hvv,hlc,hcc,hr0⟩:=mat_cell hv (k:=0) (by omega)
 subst hvv
 have HV:Hid (Mat w.heap.size 22 3 w (.slice (some ⟨b,o,none⟩) P.length cap) P):=hv.any (Nat.le_refl _)
 have HX:Hid (Box d 6 P):=hx
 have HG:Hid (Good d P):=hg
 have hm0:P.getD 0 []∈P:=by simp [show 0 < P.length by omega]
 obtain ⟨ro,rc,hrv,hrl,_⟩:=sl_open hr0
 rw [(hx _ hm0).1] at hrv hrl
 subst hrv
 have hcc0:w.cell? ⟨b,o,none⟩=some (.slice ro d rc):=hcc
 have HCO:Hid (Calls Tryz.prog 25 #[.slice (some ⟨b,o,none⟩) P.length cap] w fun e w'=>∃xo xl xc C,e=.returned (.slice xo xl xc)∧xl=C.length∧(Mat w'.heap.size 22 3 w' (.slice xo xl xc) C∧SAsc C∧(∃s0,(∀r,r∈s0↔r∈rowsD P d)∧∀y,y∈C↔y∈crn d s0 P)∧Below w.heap.size w w')):=by
  refine (cornersOf_any w.heap.size d P _ w HV.out hd1 hd hP1 hP HX.out).mono ?_
  rintro e w' ⟨x,C,s0,rfl,h1,h2,h3,h4,h5,h6⟩
  have hM:Mat w'.heap.size 22 3 w' x C:=h1.rws.mat h6.size
  obtain ⟨xo,xc,hxv,_,_⟩:=mat_open hM
  subst hxv
  exact ⟨xo,_,xc,C,rfl,rfl,hM,h2,⟨s0,h4,h5⟩,h6⟩
 obtain ⟨pl,hpl⟩:∃pl,pl=P.length:=⟨_,rfl⟩
 have HPL:Hid (P.length≤16):=hP
 rw [←hpl] at HV HCO hlc hP1 ⊢
 clear hv hx hr0 hm0 hrl hcc hpl hg hP
 have h0I:(0:Int) < (pl:Int):=by omega
 have h0N:0 < pl:=by omega
 go_enter Tryz.func9,Tryz.ntmps9
 go_wp2_with fail
 refine HCO.out.mono ?_
 rintro e w1 ⟨co,n,cc,C,rfl,hnC,hC⟩
 have HC:Hid (Mat w1.heap.size 22 3 w1 (.slice co n cc) C∧SAsc C∧(∃s0,(∀r,r∈s0↔r∈rowsD P d)∧∀y,y∈C↔y∈crn d s0 P)∧Below w.heap.size w w1):=hC
 have HNC:Hid (n=C.length):=hnC
 have HGC:Hid (Good d C):=by
  obtain ⟨_,h2,⟨s0,h4,h5⟩,_⟩:=hC
  exact corners_good HG.out h4 (fun x hx=>corner_rank HG.out (P':=P) (fun _=>Iff.rfl) h4 hx) h5 h2.nodup
 have HBC:Hid (Box d 6 C):=fun r hr=>by
  obtain ⟨_,_,⟨s0,_,h5⟩,_⟩:=HC.out
  exact HX.out r (List.mem_filter.1 ((h5 r).1 hr)).1
 have hn16:n≤16:=by
  have h1:=nodup_lenL C P HC.out.2.1.nodup fun y hy=>by
   obtain ⟨_,_,⟨s0,_,h5⟩,_⟩:=HC.out
   exact (List.mem_filter.1 ((h5 y).1 hy)).1
  have h2:=HPL.out
  omega
 have HB1:Hid (Below w.heap.size w w1):=hC.2.2.2
 have hsz1:w.heap.size≤w1.heap.size:=HB1.out.size
 have HSO:Hid (Calls Tryz.prog 26 #[.slice co n cc] w1 fun e w'=>∃yo yl yc s,e=.returned (.slice yo yl yc)∧yl=s.length∧(Sl w'.heap.size 3 w' (.slice yo yl yc) (ints (natI (s.map (sdN C))))∧SAsc s∧(∀r,r∈s↔r∈rowsD C d)∧Below w1.heap.size w1 w')):=by
  refine (sidesOf_any w1.heap.size d C _ w1 HC.out.1 hd1 hd (by have:=HGC.out.n2; omega) (by omega) HBC.out).mono ?_
  rintro e w' ⟨x,s,rfl,h1,h2,h3,h4⟩
  have e1:ints (s.map fun r=>(sdN C r:Int))=ints (natI (s.map (sdN C))):=by simp [natI,List.map_map]; rfl
  rw [e1] at h3
  have hS:Sl w'.heap.size 3 w' x (ints (natI (s.map (sdN C)))):=(Sl.own (B:=0) h3).any (Nat.le_refl _)
  obtain ⟨xo,xc,hxv,_,_⟩:=sl_open hS
  simp only [natI_len,List.length_map] at hxv
  subst hxv
  exact ⟨xo,_,xc,s,rfl,rfl,hS,h1,h2,h4⟩
 clear hC hnC HCO
 go_wp2_with fail
 refine HSO.out.mono ?_
 rintro e w2 ⟨yo,sl,yc,s,rfl,hsl,hS⟩
 have HSS:Hid (Sl w2.heap.size 3 w2 (.slice yo sl yc) (ints (natI (s.map (sdN C))))∧SAsc s∧(∀r,r∈s↔r∈rowsD C d)∧Below w1.heap.size w1 w2):=hS
 have HSD:Hid (∀t∈s.map (sdN C),t < 65536):=fun t ht=>by
  obtain ⟨r,_,rfl⟩:=List.mem_map.1 ht
  have h1:=sdTo_lt C r C.length
  have h2:=pow16 (show C.length≤16 by rw [←HNC.out]; exact hn16)
  show sdTo C r C.length < 65536
  omega
 have HSLN:Hid ((s.map (sdN C)).length≤16777216):=by
  show _≤_
  rw [List.length_map]
  exact rowsD_len hd (by rw [←HNC.out]; exact hn16) hS.2.1 hS.2.2.1
 have HSLE:Hid (sl=(s.map (sdN C)).length):=by
  show _=_
  rw [List.length_map]; exact hsl
 have HB2:Hid (Below w.heap.size w w2):=HB1.out.trans (hS.2.2.2.mono hsz1)
 have hsz2:w.heap.size≤w2.heap.size:=HB2.out.size
 have HC2:Hid (Mat w2.heap.size 22 3 w2 (.slice co n cc) C):=(HC.out.1.below hS.2.2.2 (Nat.le_refl _)).any (Nat.le_refl _)
 clear hS hsl HSO
 obtain ⟨S,hSe⟩:∃S,S=s.map (sdN C):=⟨_,rfl⟩
 have HSE:Hid (S=s.map (sdN C)):=hSe
 rw [←hSe] at HSS HSD HSLE HSLN
 clear hSe
 obtain ⟨M,hMe⟩:∃M:Nat,M=65536:=⟨_,rfl⟩
 have HME:Hid (M=65536):=hMe
 clear hMe
 obtain ⟨F,hFe⟩:∃F:Nat,F=2 ^ n-1:=⟨_,rfl⟩
 have HFW:Hid (wrap64 ((2:Int) ^ n)=(F:Int)+1∧wrap64 ((F:Int)+1-1)=(F:Int)):=full_wrap hn16 hFe
 have HST:Hid (Clo n S [F] 0):=by rw [hFe]; exact Clo.start n S
 clear hFe
 go_wp2
 simp only [HFW.out.1,HFW.out.2]
 go_loopw [5,6] (fun x i wr=>∃(A:List Nat) (k:Nat),k≤A.length∧i=.int .i64 k∧wr.ownsRow w2.heap.size 3 1 x A.length (ints (natI A))∧Clo n S A k∧Below w2.heap.size w2 wr) (fun _ i _=>M-(intOf i).toNat)
 case atStart=>
  refine ⟨[F],0,by simp,rfl,?_,HST.out,(Below.refl _ _).alloc (Nat.le_refl _) _⟩
  exact World.ownsRow_lit (base:=w2.heap.size) (e:=3) (size:=1) w2 #[.int .i64 F] 1 (Nat.le_refl _) (by simp [maxLen]) (by simp)
 case round=>
  obtain ⟨A,k,hk,rfl,ho,hclo,hbel⟩:=hrel
  rename World=>wa
  obtain ⟨uo,uc,huv⟩:=owns_form ho
  subst huv
  have HO:Hid (wa.ownsRow w2.heap.size 3 1 (.slice uo A.length uc) A.length (ints (natI A))):=ho
  have HCL:Hid (Clo n S A k):=hclo
  have HB:Hid (Below w2.heap.size w2 wa):=hbel
  clear ho hclo hbel
  by_cases hlt:k < A.length
  ·have HK65:Hid (k < M):=by rw [HME.out]; exact Nat.lt_of_lt_of_le hlt (Nat.le_trans HCL.out.len (pow16 hn16))
   have HKB:Hid (k < 1000000):=Nat.lt_of_lt_of_le hlt (Nat.le_trans HCL.out.len (Nat.le_trans (pow16 hn16) (by decide)))
   have HCK:Hid (CloK n S A k 0):=CloK.start HCL.out hlt
   have hkI:(k:Int) < (A.length:Int):=by omega
   go_wp2
   go_loopw [5,7,8] (fun x q _ wr=>∃(A:List Nat) (j:Nat),j≤S.length∧q=.int .i64 j∧wr.ownsRow w2.heap.size 3 1 x A.length (ints (natI A))∧CloK n S A k j∧Below w2.heap.size w2 wr) (fun _ q _ _=>S.length-(intOf q).toNat)
   case atStart=>exact ⟨A,0,Nat.zero_le _,rfl,HO.out,HCK.out,HB.out⟩
   case round=>
    obtain ⟨A,j,hj,rfl,ho,hck,hbel⟩:=hrel
    obtain ⟨uo,uc,huv⟩:=owns_form ho
    subst huv
    have HO:Hid (wr.ownsRow w2.heap.size 3 1 (.slice uo A.length uc) A.length (ints (natI A))):=ho
    have HCK:Hid (CloK n S A k j):=hck
    have HB:Hid (Below w2.heap.size w2 wr):=hbel
    have hkA:k < A.length:=hck.il
    have hsl:sl=S.length:=HSLE.out
    clear ho hck hbel
    by_cases hjl:j < S.length
    ·obtain ⟨b1,o1,cp1,hs1,hc1,hcc1⟩:=sl_cell (Sl.own (B:=0) HO.out) (k:=k) (by simpa using hkA)
     rw [natI_len] at hs1
     simp only [Value.slice.injEq,true_and] at hs1
     obtain ⟨rfl,rfl⟩:=hs1
     obtain ⟨b2,o2,cp2,hs2,hc2,hcc2⟩:=sl_cell (HSS.out.1.below HB.out (Nat.le_refl _)) (k:=j) (by simpa using hjl)
     simp only [Value.slice.injEq] at hs2
     obtain ⟨rfl,hxx,rfl⟩:=hs2
     clear hxx hc1 hc2
     rw [natI_get A k hkA] at hcc1
     rw [natI_get S j hjl] at hcc2
     have HAL:Hid (A.getD k 0 < 65536):=Nat.lt_of_lt_of_le (HCK.out.base.lt _ (by simp [hkA])) (pow16 hn16)
     have HTL:Hid (S.getD j 0 < 65536):=HSD.out _ (by simp [hjl])
     have HBA:Hid (bits .and .i64 (A.getD k 0:Int) (S.getD j 0:Int)=((A.getD k 0 &&& S.getD j 0:Nat):Int)):=bits_and_i64_nat _ _ (by have:=HAL.out; omega) (by have:=HTL.out; omega)
     have HSK:Hid (A.getD k 0 &&& S.getD j 0∈A→CloK n S A k (j+1)):=fun h=>HCK.out.skip hjl h
     have HPU:Hid (A.getD k 0 &&& S.getD j 0∉A→CloK n S (A ++ [A.getD k 0 &&& S.getD j 0]) k (j+1)):=fun h=>HCK.out.push hjl h
     have HALN:Hid (A.length≤65536):=Nat.le_trans HCK.out.base.len (pow16 hn16)
     obtain ⟨y,hy⟩:∃y,y=A.getD k 0 &&& S.getD j 0:=⟨_,rfl⟩
     rw [←hy] at HBA HSK HPU
     clear hy HAL HTL HCK
     generalize A.getD k 0=a1 at *
     generalize S.getD j 0=t1 at *
     have hjI:(j:Int) < (sl:Int):=by omega
     have hjI0:(0:Int)≤(j:Int):=by omega
     have hjN:j < sl:=by omega
     have hkI:(k:Int) < (A.length:Int):=by omega
     have hkI0:(0:Int)≤(k:Int):=by omega
     have HIN:Hid (∀nn,Calls Tryz.prog 27 #[.int .i64 y,.slice (some ⟨b1,o1,none⟩) A.length uc] (wr.drewN nn) fun e w'=>e=.returned (.bool (A.contains y))∧∃n,w'=(wr.drewN nn).drewN n):=fun nn=>by
      have h:=inR_any 0 (y:Int) (natI A) (.slice (some ⟨b1,o1,none⟩) A.length uc) (wr.drewN nn) ((Sl.own (B:=0) HO.out).drewN nn)
      rw [natI_has] at h
      exact h
     clear hsl
     go_wp2
     go_quiet (fail)
     rw [HBA.out]
     obtain ⟨Wq,hWq⟩:∃Wq,Wq=wr.drewN nq:=⟨_,rfl⟩
     rw [←hWq]
     have HI:Hid (Calls Tryz.prog 27 #[.int .i64 y,.slice (some ⟨b1,o1,none⟩) A.length uc] Wq fun e w'=>e=.returned (.bool (A.contains y))∧∃n,w'=Wq.drewN n):=by rw [hWq]; exact HIN.out nq
     have HOq:Hid (Wq.ownsRow w2.heap.size 3 1 (.slice (some ⟨b1,o1,none⟩) A.length uc) A.length (ints (natI A))):=by rw [hWq]; exact HO.out
     have HBq:Hid (Below w2.heap.size w2 Wq):=by rw [hWq]; exact HB.out.trans ⟨rfl,rfl,rfl,Nat.le_refl _,fun _ _=>rfl⟩
     clear hWq HIN hcc1 hcc2 HO HB
     obtain ⟨cb,hcb⟩:∃cb,cb=A.contains y:=⟨_,rfl⟩
     have HCB:Hid (cb=A.contains y):=hcb
     rw [←hcb] at HI
     clear hcb
     go_wp2_with fail
     refine HI.out.mono ?_
     rintro e w3 ⟨rfl,nn,hw3⟩
     have HO3:Hid (w3.ownsRow w2.heap.size 3 1 (.slice (some ⟨b1,o1,none⟩) A.length uc) A.length (ints (natI A))):=by rw [hw3]; exact HOq.out
     have HB3:Hid (Below w2.heap.size w2 w3):=by rw [hw3]; exact HBq.out.trans ⟨rfl,rfl,rfl,Nat.le_refl _,fun _ _=>rfl⟩
     clear hw3 HI HOq HBq
     cases cb
     ·have HPN:Hid (CloK n S (A ++ [y]) k (j+1)):=HPU.out (fun hm=>by
       have h:=HCB.out
       rw [List.contains_iff_mem.2 hm] at h
       exact absurd h (by decide))
      have hsz3:w2.heap.size≤w3.heap.size:=HB3.out.size
      obtain ⟨al,hal⟩:∃al,al=A.length:=⟨_,rfl⟩
      have HAE:Hid (al=A.length):=hal
      rw [←hal] at HO3 HALN ⊢
      have hal2:al≤65536:=HALN.out
      clear hal HSK HPU HCB hkI hkA
      go_wp2_with (first | (at_builtin; refine wpList_append_own _ rfl _ _ 22 rfl w2.heap.size 3 i3 (.int .i64 0) 1 8 Tryz.underlying22 hi3 hz30 hz31 hz32 rfl (by decide) _ _ _ rfl (HO3.out.alloc _) ⟨w3.heap.size,0,none⟩ 1 1 [.int .i64 y] rfl rfl (one_new _ _ _) (one_int _) ?c3 ?c4 ?c5 ?_))
      case c3=>unfold maxLen; omega
      case c4=>omega
      case c5=>first | exact hsz3 | omega | (simp; omega)
      intro v' w4 ho4 hg4 _
      have R1:Hid (w4.ownsRow w2.heap.size 3 1 v' (A ++ [y]).length (ints (natI (A ++ [y])))):=by
       have e1:(A ++ [y]).length=al+1:=by rw [List.length_append,←HAE.out]; rfl
       have e2:ints (natI (A ++ [y]))=ints (natI A) ++ [.int .i64 (y:Int)]:=by simp [ints,natI]
       show World.ownsRow _ _ _ _ _ _ _
       rw [e1,e2]
       exact ho4
      have R2:Hid (Below w2.heap.size w2 w4):=(HB3.out.alloc hsz3 _).grown hg4 (by simp; omega) (fun x hx=>(HO3.out.lt x hx).1)
      clear ho4 hg4
      have hS16:j < 16777216:=Nat.lt_of_lt_of_le hjl HSLN.out
      go_wp2
      exact ⟨⟨A ++ [y],j+1,hjl,by go_num,R1.out,HPN.out,R2.out⟩,by simp [intOf]; omega⟩
     ·have HSN:Hid (CloK n S A k (j+1)):=HSK.out (List.contains_iff_mem.1 HCB.out.symm)
      clear HSK HPU HCB
      have hS16:j < 16777216:=Nat.lt_of_lt_of_le hjl HSLN.out
      go_wp2
      exact ⟨⟨A,j+1,hjl,by go_num,HO3.out,HSN.out,HB3.out⟩,by simp [intOf]; omega⟩
    ·have HFN:Hid (Clo n S A (k+1)):=by
      have e:j=S.length:=by omega
      have h:=HCK.out
      rw [e] at h
      exact h.fin
     have hjI:¬j < sl:=by omega
     clear hsl hjl hj
     have hk65:k < M:=HK65.out
     have hkb:k < 1000000:=HKB.out
     go_wp2
     exact ⟨⟨A,k+1,hkA,by go_num,HO.out,HFN.out,HB.out⟩,by simp [intOf]; omega⟩
  ·have HCF:Hid (Clo n S A A.length):=by
    have e:k=A.length:=by omega
    have h:=HCL.out
    rw [e] at h
    exact h
   have HBw:Hid (Below w.heap.size w wa):=HB2.out.trans (HB.out.mono hsz2)
   have hcca:wa.cell? ⟨b,o,none⟩=some (.slice ro d rc):=(HBw.out.cell (lt_of_cell hcc0)).trans hcc0
   have HCa:Hid (Mat wa.heap.size 22 3 wa (.slice co n cc) C):=(HC2.out.below HB.out (Nat.le_refl _)).any (Nat.le_refl _)
   have HAa:Hid (Sl wa.heap.size 3 wa (.slice uo A.length uc) (ints (natI A))):=(Sl.own (B:=0) HO.out).any (Nat.le_refl _)
   have HALN:Hid (A.length≤65536):=Nat.le_trans HCF.out.len (pow16 hn16)
   have HAL2:Hid (∀a∈A,a < 2 ^ C.length):=fun a ha=>by rw [←HNC.out]; exact HCF.out.lt a ha
   clear hk HCL HO
   go_wp2
   go_loopw [10,11] (fun x i wr=>∃j:Nat,j≤d+2∧i=.int .i64 ((j:Int)-1)∧Lvs wa.heap.size wr x j (LevOk d C A)∧Below wa.heap.size wa wr) (fun _ i _=>((d:Int)+1-intOf i).toNat)
   case atStart=>exact ⟨0,by omega,rfl,Lvs.nil _ _ _,Below.refl _ _⟩
   case round=>
    obtain ⟨j,hj,rfl,hlv,hbel⟩:=hrel
    rename World=>wb
    have HLV:Hid (Lvs wa.heap.size wb u10 j (LevOk d C A)):=hlv
    have HBb:Hid (Below wa.heap.size wa wb):=hbel
    have hszb:wa.heap.size≤wb.heap.size:=hbel.size
    clear hlv hbel
    by_cases hjd:j < d+2
    ·have hjI:(j:Int)-1≤(d:Int):=by omega
     have hj6:j≤6:=by omega
     go_wp2
     go_loopw [12,13] (fun x i wq=>∃q:Nat,q≤A.length∧i=.int .i64 q∧Fr wb.heap.size 22 3 wq x (levL d C (A.take q) ((j:Int)-1))∧Below wb.heap.size wb wq) (fun _ i _=>A.length-(intOf i).toNat)
     case atStart=>exact ⟨0,Nat.zero_le _,rfl,Fr.nil _ _ _ _,Below.refl _ _⟩
     case round=>
      obtain ⟨q,hq,rfl,hfr,hbel⟩:=hrel
      have HF:Hid (Fr wb.heap.size 22 3 wr u12 (levL d C (A.take q) ((j:Int)-1))):=hfr
      have HBq:Hid (Below wb.heap.size wb wr):=hbel
      have hszq:wb.heap.size≤wr.heap.size:=hbel.size
      have HBar:Hid (Below wa.heap.size wa wr):=HBb.out.trans (hbel.mono hszb)
      clear hfr hbel
      by_cases hql:q < A.length
      ·obtain ⟨b5,o5,cp5,hs5,_,hcc5⟩:=sl_cell (HAa.out.below HBar.out (Nat.le_refl _)) (k:=q) (by simpa using hql)
       rw [natI_len] at hs5
       simp only [Value.slice.injEq,true_and] at hs5
       obtain ⟨rfl,rfl⟩:=hs5
       rw [natI_get A q hql] at hcc5
       have hmA:A.getD q 0∈A:=by simp [hql]
       have HDI:Hid (Calls Tryz.prog 28 #[.slice co n cc,.int .i64 (A.getD q 0:Int)] wr fun e w'=>e=.returned (.int .i64 (dimL d C (A.getD q 0)))∧Below wr.heap.size wr w'):=
        dimension_any wr.heap.size d (A.getD q 0) C _ wr ((HCa.out.below HBar.out (Nat.le_refl _)).any (Nat.le_refl _)) hd1 hd (by rw [←HNC.out]; exact hn16) HBC.out (HAL2.out _ hmA)
       have HMEM:Hid (∀w',Calls Tryz.prog 29 #[.int .i64 (A.getD q 0:Int)] w' fun e w''=>∃u,e=.returned u∧w''.ownsRow w'.heap.size 3 1 u (memL (A.getD q 0)).length (ints (memL (A.getD q 0)))∧Below w'.heap.size w' w''):=fun w'=>members_any (A.getD q 0) C.length w' (HAL2.out _ hmA) (by rw [←HNC.out]; omega)
       have HLS:Hid (levL d C (A.take (q+1)) ((j:Int)-1)=levL d C (A.take q) ((j:Int)-1) ++ (if dimL d C (A.getD q 0)=(j:Int)-1 then [memL (A.getD q 0)] else [])):=levL_snoc hql
       have HLL:Hid ((levL d C (A.take q) ((j:Int)-1)).length≤65536):=by
        have h1:=levL_len d C (A.take q) ((j:Int)-1)
        have h2:=HALN.out
        rw [List.length_take] at h1
        show _≤_
        omega
       clear hmA
       generalize A.getD q 0=a1 at *
       generalize dimL d C a1=D at *
       generalize memL a1=ma at *
       have hqI:(q:Int) < (A.length:Int):=by omega
       have hqI0:(0:Int)≤(q:Int):=by omega
       have hqb:q < 1000000:=Nat.lt_of_lt_of_le hql (Nat.le_trans HALN.out (by decide))
       go_wp2_with fail
       refine HDI.out.mono ?_
       rintro e w3 ⟨rfl,hb3⟩
       have HB3:Hid (Below wr.heap.size wr w3):=hb3
       have hcc6:=(hb3.cell (lt_of_cell hcc5)).trans hcc5
       clear hb3 hcc5 HDI
       by_cases hDk:D=(j:Int)-1
       ·rw [if_pos hDk] at HLS
        have tD:(D == (j:Int)-1)=true:=by simp [hDk]
        clear hDk
        go_wp2_with fail
        refine (HMEM.out w3).mono ?_
        rintro e w4 ⟨mv,rfl,hmo,hb4⟩
        obtain ⟨mo,mc,hmv⟩:=owns_form hmo
        obtain ⟨ml,hml⟩:∃ml,ml=ma.length:=⟨_,rfl⟩
        rw [←hml] at hmv
        clear hml
        subst hmv
        have HMO:Hid (Sl 0 3 w4 (.slice mo ml mc) (ints ma)):=Sl.own hmo
        have HB4:Hid (Below wr.heap.size wr w4):=HB3.out.trans (hb4.mono HB3.out.size)
        have HF4:Hid (Fr wb.heap.size 22 3 w4 u12 (levL d C (A.take q) ((j:Int)-1))):=HF.out.below HB4.out (Nat.le_refl _)
        have HBb4:Hid (Below wb.heap.size wb w4):=HBq.out.trans (HB4.out.mono hszq)
        have hsz4:wb.heap.size≤w4.heap.size:=HBb4.out.size
        clear hmo hb4 hcc6 HMEM
        obtain ⟨vs,g1,g2,g3⟩:=HF4.out
        obtain ⟨ol,hol⟩:∃ol,ol=(levL d C (A.take q) ((j:Int)-1)).length:=⟨_,rfl⟩
        rw [←hol] at g1 g2 g3 HLL
        have HOL:Hid (ol=(levL d C (A.take q) ((j:Int)-1)).length):=hol
        have G1:Hid (vs.length=ol):=g1
        have G2:Hid (w4.ownsRow wb.heap.size 22 1 u12 ol vs):=g2
        have G3:Hid (∀i,i < ol→Sl 0 3 w4 (vs.getD i (.slice none 0 0)) (ints ((levL d C (A.take q) ((j:Int)-1)).getD i []))):=g3
        have hol2:ol≤65536:=HLL.out
        clear g1 g2 g3 hol
        go_wp2_with (first | (at_builtin; refine wpList_append_own _ rfl _ _ 25 rfl wb.heap.size 22 i0 (.slice none 0 0) 1 24 Tryz.underlying25 hi hz0 hz1 hz2 rfl (by decide) _ _ _ rfl (G2.out.alloc _) ⟨w4.heap.size,0,none⟩ 1 1 [.slice mo ml mc] rfl rfl (one_new _ _ _) (one_slice _ _ _) ?d3 ?d4 ?d5 ?_))
        case d3=>unfold maxLen; omega
        case d4=>omega
        case d5=>first | exact hsz4 | omega | (simp; omega)
        intro v' w5 ho hg _
        have R1:Hid (Fr wb.heap.size 22 3 w5 v' (levL d C (A.take (q+1)) ((j:Int)-1))):=by
         have hp:=Fr.push (e2:=22) (e1:=3) (m:=levL d C (A.take q) ((j:Int)-1)) (u:=.slice mo ml mc) (zs:=ma) (by decide) (by rw [←HOL.out]; exact G1.out) (by rw [←HOL.out]; exact G2.out.alloc _)
          (fun i hi=>(G3.out i (by rw [←HOL.out] at hi; exact hi)).alloc _) (HMO.out.alloc _) (by rw [←HOL.out]; exact ho) hg
         rw [←HLS.out] at hp
         exact hp
        have R2:Hid (Below wb.heap.size wb w5):=(HBb4.out.alloc hsz4 _).grown hg (by simp; omega) (fun x hx=>(G2.out.lt x hx).1)
        clear ho hg
        go_wp2
        exact ⟨⟨q+1,hql,by go_num,R1.out,R2.out⟩,by simp [intOf]; omega⟩
       ·have HL2:Hid (levL d C (A.take (q+1)) ((j:Int)-1)=levL d C (A.take q) ((j:Int)-1)):=by
         have h:=HLS.out
         rw [if_neg hDk,List.append_nil] at h
         exact h
        have tD:(D == (j:Int)-1)=false:=by simp [hDk]
        have R1:Hid (Fr wb.heap.size 22 3 w3 u12 (levL d C (A.take (q+1)) ((j:Int)-1))):=by rw [HL2.out]; exact HF.out.below HB3.out (Nat.le_refl _)
        have R2:Hid (Below wb.heap.size wb w3):=HBq.out.trans (HB3.out.mono hszq)
        clear hDk HLS hcc6 HMEM
        go_wp2
        exact ⟨⟨q+1,hql,by go_num,R1.out,R2.out⟩,by simp [intOf]; omega⟩
      ·have HTE:Hid (A.take q=A):=List.take_of_length_le (by omega)
       have HLM:Hid (Mat wb.heap.size 22 3 wr u12 (levL d C A ((j:Int)-1))):=by
        have h:=HF.out
        rw [HTE.out] at h
        exact h.rws.mat (Nat.le_refl _)
       have HSO:Hid (Calls Tryz.prog 30 #[u12] wr fun e w'=>∃xo xl xc lev,e=.returned (.slice xo xl xc)∧(Fr wr.heap.size 22 3 w' (.slice xo xl xc) lev∧LevOk d C A j lev∧Below wr.heap.size wr w')):=by
        refine (sortR_any wb.heap.size (levL d C A ((j:Int)-1)) u12 wr HLM.out (Nat.le_trans (levL_len _ _ _ _) (Nat.le_trans HALN.out (by decide))) (fun r hr=>?_)).mono ?_
        ·obtain ⟨a,ha,_,rfl⟩:=mem_levL.1 hr
         have h1:=memL_len (HAL2.out a ha) (by rw [←HNC.out]; omega)
         have h2:C.length≤16:=by rw [←HNC.out]; exact hn16
         omega
        ·rintro e w' ⟨x2,lev,rfl,h1,h2,h3,h4⟩
         obtain ⟨xo,xc,hxv,_,_⟩:=fr_open h1
         subst hxv
         exact ⟨xo,_,xc,lev,rfl,h1,⟨h2,fun r=>by rw [h3 r,mem_levL]⟩,h4⟩
       clear HLM HTE HF
       go_wp2_with fail
       refine HSO.out.mono ?_
       rintro e w3 ⟨xo,xl,xc,lev,rfl,hl3⟩
       have HL3:Hid (Fr wr.heap.size 22 3 w3 (.slice xo xl xc) lev∧LevOk d C A j lev∧Below wr.heap.size wr w3):=hl3
       have HBb3:Hid (Below wb.heap.size wb w3):=HBq.out.trans (hl3.2.2.mono hszq)
       have HBa3:Hid (Below wa.heap.size wa w3):=HBb.out.trans (HBb3.out.mono hszb)
       have hsz3:wa.heap.size≤w3.heap.size:=HBa3.out.size
       have HLV3:Hid (Lvs wa.heap.size w3 u10 j (LevOk d C A)):=HLV.out.below HBb3.out (Nat.le_refl _)
       clear hl3 HSO
       obtain ⟨vs,g1,g2,g3⟩:=HLV3.out.rows
       have G1:Hid (vs.length=j):=g1
       have G2:Hid (w3.ownsRow wa.heap.size 25 1 u10 j vs):=g2
       have G3:Hid (∀t,t < j→∃lev,Fr wa.heap.size 22 3 w3 (vs.getD t (.slice none 0 0)) lev∧LevOk d C A t lev):=g3
       clear g1 g2 g3
       go_wp2_with (first | (at_builtin; refine wpList_append_own _ rfl _ _ 33 rfl wa.heap.size 25 i2 (.slice none 0 0) 1 24 Tryz.underlying33 hi2 hz20 hz21 hz22 rfl (by decide) _ _ _ rfl (G2.out.alloc _) ⟨w3.heap.size,0,none⟩ 1 1 [.slice xo xl xc] rfl rfl (one_new _ _ _) (one_slice _ _ _) ?d3 ?d4 ?d5 ?_))
       case d3=>unfold maxLen; omega
       case d4=>omega
       case d5=>first | exact hsz3 | omega | (simp; omega)
       intro v' w5 ho hg _
       have hal:Below w3.heap.size w3 (w3.alloc (.cells #[.slice xo xl xc] 25)):=(Below.refl _ _).alloc (Nat.le_refl _) _
       have R1:Hid (Lvs wa.heap.size w5 v' (j+1) (LevOk d C A)):=Lvs.push G1.out (G2.out.alloc _) (fun t ht=>by
        obtain ⟨l,q1,q2⟩:=G3.out t ht
        exact ⟨l,q1.below hal (Nat.le_refl _),q2⟩) ((HL3.out.1.mono (Nat.le_trans hszb hszq)).below hal (Nat.le_refl _)) HL3.out.2.1 ho hg
       have R2:Hid (Below wa.heap.size wa w5):=(HBa3.out.alloc hsz3 _).grown hg (by simp; omega) (fun x hx=>(G2.out.lt x hx).1)
       clear ho hg hal
       go_wp2
       exact ⟨⟨j+1,by omega,by go_num,R1.out,R2.out⟩,by simp [intOf]; omega⟩
    ·have hje:j=d+2:=by omega
     have HLF:Hid (Lvs w.heap.size wb u10 (d+2) (LevOk d C A)):=by
      have h:=HLV.out
      rw [hje] at h
      exact h.mono HBw.out.size
     have hjI:¬((j:Int)-1≤(d:Int)):=by omega
     have HBF:Hid (Below w.heap.size w wb):=HBw.out.trans (HBb.out.mono HBw.out.size)
     clear hje hj hjd
     go_wp2
     go_ret
     refine ⟨_,rfl,⟨C,s,A,⟨⟨HC.out.2.1,HC.out.2.2.1⟩,⟨HSS.out.2.1,HSS.out.2.2.1⟩,?_,HLF.out⟩⟩,HBF.out⟩
     rw [←HNC.out,←HSE.out]
     exact HCF.out
end Go.Proofs.YtkfdpcgmpbopnaaGreatDoor
namespace Go.Proofs.YtkfdpcgmpbopnaaGreatDoor
open Go.RowKit
attribute [local go_sem ↓] Go.wp_at_zero Go.wp_at_succ
end Go.Proofs.YtkfdpcgmpbopnaaGreatDoor
namespace Go.Proofs.YtkfdpcgmpbopnaaGreatDoor
open Go.RowKit
attribute [local go_sem ↓] Go.wp_at_zero Go.wp_at_succ
end Go.Proofs.YtkfdpcgmpbopnaaGreatDoor
namespace Go.Proofs.YtkfdpcgmpbopnaaGreatDoor
open Go.RowKit
attribute [local go_sem ↓] Go.wp_at_zero Go.wp_at_succ
end Go.Proofs.YtkfdpcgmpbopnaaGreatDoor
namespace Go.Proofs.YtkfdpcgmpbopnaaGreatDoor
open Go.RowKit
attribute [local go_sem ↓] Go.wp_at_zero Go.wp_at_succ
def nats (ns:List Nat):List Value:=ns.map fun (n:Nat)=>Value.int .u64 (n:Int)
@[simp] theorem nats_length (ns:List Nat):(nats ns).length=ns.length:=by simp [nats]
end Go.Proofs.YtkfdpcgmpbopnaaGreatDoor
namespace Go.Proofs.YtkfdpcgmpbopnaaGreatDoor
open Go.RowKit
attribute [local go_sem ↓] Go.wp_at_zero Go.wp_at_succ
theorem one_u64 (z:Int):∀u∈[Value.int .u64 z],u.oneCell'=true:=by
 intro u hu; simp at hu; subst hu; rfl
end Go.Proofs.YtkfdpcgmpbopnaaGreatDoor
namespace Go.Proofs.YtkfdpcgmpbopnaaGreatDoor
open Go.RowKit
end Go.Proofs.YtkfdpcgmpbopnaaGreatDoor
namespace Go.Proofs.YtkfdpcgmpbopnaaGreatDoor
open Go.RowKit
attribute [local go_sem ↓] Go.wp_at_zero Go.wp_at_succ
end Go.Proofs.YtkfdpcgmpbopnaaGreatDoor
namespace Go.Proofs.YtkfdpcgmpbopnaaGreatDoor
open Go.RowKit
attribute [local go_sem ↓] Go.wp_at_zero Go.wp_at_succ
end Go.Proofs.YtkfdpcgmpbopnaaGreatDoor
namespace Go.Proofs.YtkfdpcgmpbopnaaGreatDoor
open Go.RowKit
attribute [local go_sem ↓] Go.wp_at_zero Go.wp_at_succ
end Go.Proofs.YtkfdpcgmpbopnaaGreatDoor
namespace Go.Proofs.YtkfdpcgmpbopnaaGreatDoor
open Lin
theorem row_meets {d:Nat} {C:List (List Int)} (hg:Good d C) {r:List Int} (hr:r∈rowsC C [] d C):∃y∈C,r.getD d 0=dot d (V r) (V y):=by
 obtain ⟨t,hts,htl,hrt⟩:=mem_rowsC.1 hr
 obtain ⟨σ,hσ,hnb,hre⟩:=rowT_form htl hrt
 have hal:=norm_len hnb
 have hd1:=hg.d1
 have hVr:∀i,i < d→V r i=σ*V (normL d (diffL t)) i:=fun i hi=>by
  rw [hre]
  have h:=V_map (normL d (diffL t) ++ [dotL (normL d (diffL t)) (t.getD 0 [])]) σ i
  rw [h,(row_app hal).2.2.2 i hi]
 have hlast:r.getD d 0=σ*dotL (normL d (diffL t)) (t.getD 0 []):=by
  rw [hre]
  have h:=V_map (normL d (diffL t) ++ [dotL (normL d (diffL t)) (t.getD 0 [])]) σ d
  simp only [V] at h
  rw [h,(row_app hal).2.2.1]
 refine ⟨t.getD 0 [],hts.subset (by simp [show 0 < t.length by omega]),?_⟩
 rw [hlast,dotL_eq hal]
 unfold dot
 rw [←sumN_mul]
 exact (sumN_congr fun i hi=>by rw [hVr i hi,Int.mul_assoc]).symm
theorem mem_side {C:List (List Int)} {r:List Int} (hC:C.length≤16) {y:List Int} : y∈pks C [] (memL (sdN C r))↔y∈C∧overL r y=0:=by
 have hlt:sdN C r < 2 ^ 64:=Nat.lt_of_lt_of_le (sdTo_lt C r C.length) (Nat.pow_le_pow_right (by decide) (by omega))
 unfold pks
 simp only [List.mem_map]
 constructor
 ·rintro ⟨x,hx,rfl⟩
  obtain ⟨k,rfl,hk⟩:=(mem_memL hlt).1 hx
  unfold sdN at hk
  rw [sdTo_bit] at hk
  simp only [Bool.and_eq_true,decide_eq_true_eq] at hk
  rw [show ((k:Int)).toNat=k by omega]
  exact ⟨by simp [hk.1],hk.2⟩
 ·rintro ⟨hy,ho⟩
  obtain ⟨k,hk,rfl⟩:=List.mem_iff_getElem.1 hy
  have e:C.getD k []=C[k]:=by simp [hk]
  refine ⟨(k:Int),(mem_memL hlt).2 ⟨k,rfl,?_⟩,by rw [show ((k:Int)).toNat=k by omega]; exact e⟩
  unfold sdN
  rw [sdTo_bit,e]
  simp [hk,ho]
open Go.RowKit
attribute [local go_sem ↓] Go.wp_at_zero Go.wp_at_succ
end Go.Proofs.YtkfdpcgmpbopnaaGreatDoor
